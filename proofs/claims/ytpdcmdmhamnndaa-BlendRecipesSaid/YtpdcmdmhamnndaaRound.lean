/- The round of a size: what is yielded. -/
import Derived.Test.YtpdcmdmhamnndaaFacts
namespace Go.Proofs.Ytpdcmdmhamnndaa
open Go Go.Proofs.Ytpdcmdmhamnndaa.AX

def iota (n : Nat) : List Int := (List.range n).map fun i : Nat => (i : Int)
theorem iota_succ (n : Nat) : iota (n + 1) = iota n ++ [(n : Int)] := by simp [iota, List.range_succ]
@[simp] theorem iota_len (n : Nat) : (iota n).length = n := by simp [iota]
/-- All blends of a size, in their round. -/
def roundS : Nat → Nat → List (List Int)
  | 0, k => if k = 0 then [[]] else []
  | n + 1, k => if k = 0 then [[]] else if k = n + 1 then [iota (n + 1)] else roundS n k ++ (roundS n (k - 1)).reverse.map (· ++ [(n : Int)])
def feed (n k : Nat) (opp : Bool) : List (List Int) := if opp then (roundS n k).reverse else roundS n k
theorem roundS_zero (n : Nat) : roundS n 0 = [[]] := by cases n <;> simp [roundS]
theorem roundS_full (n : Nat) : roundS n n = [iota n] := by cases n <;> simp [roundS, iota]
theorem feed_zero (n : Nat) (opp : Bool) : feed n 0 opp = [[]] := by cases opp <;> simp [feed, roundS_zero]
theorem feed_full (n : Nat) (opp : Bool) : feed (n + 1) (n + 1) opp = (feed n n (!opp)).map (· ++ [(n : Int)]) := by
  cases opp <;> simp [feed, roundS_full, iota_succ]
theorem feed_opp {n k : Nat} (h0 : 0 < k) (hk : k ≤ n) : feed (n + 1) k true = (feed n (k - 1) false).map (· ++ [(n : Int)]) ++ feed n k true := by
  simp [feed, roundS, show k ≠ 0 by omega, show k ≠ n + 1 by omega]
theorem feed_fwd {n k : Nat} (h0 : 0 < k) (hk : k ≤ n) : feed (n + 1) k false = feed n k false ++ (feed n (k - 1) true).map (· ++ [(n : Int)]) := by
  simp [feed, roundS, show k ≠ 0 by omega, show k ≠ n + 1 by omega]
theorem roundS_len : ∀ (n k : Nat) (l : List Int), l ∈ roundS n k → l.length = k
  | 0, k, l, h => by
    simp only [roundS] at h
    split at h
    · simp at h; subst h; simp_all
    · simp at h
  | n + 1, k, l, h => by
    simp only [roundS] at h
    split at h
    · simp at h; subst h; simp_all
    · split at h
      · simp at h; subst h; simp_all
      · rw [List.mem_append] at h
        rcases h with h | h
        · exact roundS_len n k l h
        · simp only [List.mem_map, List.mem_reverse] at h
          obtain ⟨m, hm, rfl⟩ := h
          have := roundS_len n (k - 1) m hm
          simp; omega

/-- The doors behind w are as they were. -/
def KeepW (w : Nat) (H H' : AH) : Prop := H.length ≤ H'.length ∧ ∀ (j N r s : Nat), w < j → H[j]? = some (.row [.slice (some w) 0 N 0 1 false, .yld r] 0 s false) → H'[j]? = some (.row [.slice (some w) 0 N 0 1 false, .yld r] 0 s false)
theorem KeepW.refl (w : Nat) (H : AH) : KeepW w H H := ⟨Nat.le_refl _, fun _ _ _ _ _ h => h⟩
theorem KeepW.trans {w : Nat} {A B C : AH} (h : KeepW w A B) (k : KeepW w B C) : KeepW w A C := ⟨Nat.le_trans h.1 k.1, fun j N r s h1 h2 => k.2 j N r s h1 (h.2 j N r s h1 h2)⟩
theorem KeepW.push (w : Nat) (H T : AH) : KeepW w H (H ++ T) := ⟨by simp, fun j _ _ _ _ h2 => by rw [List.getElem?_append_left (List.getElem?_eq_some_iff.1 h2).1]; exact h2⟩
theorem KeepW.set (w : Nat) (H : AH) (o : AObj) : KeepW w H (H.set w o) := ⟨by simp, fun j _ _ _ h1 h2 => by rw [List.getElem?_set_ne (by omega)]; exact h2⟩
theorem KeepW.row {w N r s : Nat} {H H' : AH} (h : KeepW w H H') {j : Nat} (hj : w < j) (ho : H[j]? = some (.row [.slice (some w) 0 N 0 1 false, .yld r] 0 s false)) : H'[j]? = some (.row [.slice (some w) 0 N 0 1 false, .yld r] 0 s false) := h.2 j N r s hj ho
/-- All rows but w are as they were. -/
def OffW (w : Nat) (H H' : AH) : Prop := H.length ≤ H'.length ∧ ∀ j : Nat, j ≠ w → j < H.length → H'[j]? = H[j]?

/-- Who is given blends, one after the other: what still comes, and what holds then. -/
structure Fd (r w N : Nat) (J : List (List Int) → AH → Prop) (Z : AH → Prop) : Prop where
  same : ∀ (rest : List (List Int)) (H H' : AH), OffW w H H' → J rest H → J rest H'
  yld : ∀ (l : List Int) (rest : List (List Int)) (H : AH) (st : Nat), J (l :: rest) H → H[w]? = some (.row (l.map (.int .i64)) 0 st false) → AYld Try.prog r [.slice (some w) 0 N 0 1 false] H fun v H' =>
    ∃ t, v = .bool t ∧ if t = true then J rest H' ∧ KeepW w H H' ∧ ∃ st', H'[w]? = some (.row (l.map (.int .i64)) 0 st' false) else Z H'

section
variable {r w N : Nat} {J : List (List Int) → AH → Prop} {Z : AH → Prop}
def TurnOk (r w N : Nat) (J : List (List Int) → AH → Prop) (Z : AH → Prop) (n : Nat) : Prop := ∀ (k : Nat) (opp : Bool) (s c : List Int) (rest : List (List Int)) (st : Nat) (H : AH) (Q : AV → AH → Prop), k ≤ n → c.length = N → c.drop k = s → k ≤ N →
  H[w]? = some (.row (c.map (.int .i64)) 0 st false) → J ((feed n k opp).map (· ++ s) ++ rest) H →
  (∀ (H' : AH) (c' : List Int) (st' : Nat), J rest H' → KeepW w H H' → c'.length = N → c'.drop k = s → H'[w]? = some (.row (c'.map (.int .i64)) 0 st' false) → Q (.bool true) H') → (∀ H' : AH, Z H' → Q (.bool false) H') →
  AC Try.prog 100 [.agg [.slice (some w) 0 N 0 1 false, .yld r], .int .i64 n, .int .i64 k, .bool opp] H Q

theorem box2 {H : AH} {a b : AV} : (H ++ [AObj.row [a, b] 0 0 false])[H.length]? = some (.row [a, b] 0 0 false) := by simp
theorem lt_of_row {H : AH} {w : Nat} {o : AObj} (h : H[w]? = some o) : w < H.length := (List.getElem?_eq_some_iff.1 h).1

set_option maxRecDepth 100000 in
theorem add_ac (hF : Fd r w N J Z) (n : Nat) (hn : n ≤ 9) (hT : TurnOk r w N J Z n) (k : Nat) (opp : Bool) (s c : List Int) (rest : List (List Int)) (st : Nat) (H : AH) (Q : AV → AH → Prop) (h0 : 0 < k) (hk : k ≤ n + 1) (hc : c.length = N) (hs : c.drop k = s) (hN : k ≤ N)
    (hrow : H[w]? = some (.row (c.map (.int .i64)) 0 st false)) (hJ : J ((feed n (k - 1) (!opp)).map (· ++ ((n : Int) :: s)) ++ rest) H)
    (h1 : ∀ (H' : AH) (c' : List Int) (st' : Nat), J rest H' → KeepW w H H' → c'.length = N → c'.drop k = s → H'[w]? = some (.row (c'.map (.int .i64)) 0 st' false) → Q (.bool true) H') (h2 : ∀ H' : AH, Z H' → Q (.bool false) H') :
    AC Try.prog 113 [.agg [.slice (some w) 0 N 0 1 false, .yld r], .int .i64 ((n : Int) + 1), .int .i64 k, .bool opp] H Q := by
  have hwl := lt_of_row hrow
  refine L_body 24 Try.func113 rfl rfl ?_
  refine L_reg [1, 2, 3, 4] (fun K hK => ?_)
  simp [AV.isU, acells]
  apply hK; clear hK K
  have hb : (H ++ [AObj.row [.slice (some w) 0 N 0 1 false, .yld r] 0 0 false])[H.length]? = some (.row [.slice (some w) 0 N 0 1 false, .yld r] 0 0 false) := by simp
  have hJ1 := hF.same _ _ (H ++ [AObj.row [.slice (some w) 0 N 0 1 false, .yld r] 0 0 false]) ⟨by simp, fun j _ hj => List.getElem?_append_left hj⟩ hJ
  have hrow1 : (H ++ [AObj.row [.slice (some w) 0 N 0 1 false, .yld r] 0 0 false])[w]? = some (.row (c.map (.int .i64)) 0 st false) := by rw [List.getElem?_append_left hwl]; exact hrow
  have hbw : w ≠ H.length := by omega
  have hk1 : KeepW w H (H ++ [AObj.row [.slice (some w) 0 N 0 1 false, .yld r] 0 0 false]) := .push ..
  generalize H ++ [AObj.row [.slice (some w) 0 N 0 1 false, .yld r] 0 0 false] = H1 at hb hJ1 hrow1 hk1 ⊢
  generalize H.length = b at hb hbw ⊢
  have e0 : ld H1 b 0 0 = some (.slice (some w) 0 N 0 1 false) := by rw [ld_row hb]; rfl
  obtain ⟨m, rfl⟩ : ∃ m, k = m + 1 := ⟨k - 1, by omega⟩
  have hst := store_row (P := Try.prog) (u := 3) (p := m) sc3 (x := .int .i64 (n : Int)) (y := .int .i64 c[m]) rfl hrow1 (by rw [List.getElem?_map, List.getElem?_eq_getElem (by omega)]; rfl)
  have hrow2 : (H1.set w (.row ((c.map (.int .i64)).set m (.int .i64 (n : Int))) 0 (min st m) false))[w]? = some (.row ((c.map (.int .i64)).set m (.int .i64 (n : Int))) 0 (min st m) false) := get_set hrow1
  have hb2 : (H1.set w (.row ((c.map (.int .i64)).set m (.int .i64 (n : Int))) 0 (min st m) false))[b]? = some (.row [.slice (some w) 0 N 0 1 false, .yld r] 0 0 false) := by rw [List.getElem?_set_ne hbw]; exact hb
  have hJ2 := hF.same _ _ (H1.set w (.row ((c.map (.int .i64)).set m (.int .i64 (n : Int))) 0 (min st m) false)) ⟨by simp, fun j hj _ => List.getElem?_set_ne (Ne.symm hj)⟩ hJ1
  have hk2 := hk1.trans (.set w H1 (.row ((c.map (.int .i64)).set m (.int .i64 (n : Int))) 0 (min st m) false))
  refine L_reg [1, 2, 3, 4] (fun K hK => ?_)
  simp [e0, wrap_i64 (a := (m : Int)) (by omega), wrap_i64 (a := (n : Int)) (by omega), show m < N by omega, hst]
  apply hK; clear hK K
  generalize H1.set w (.row ((c.map (.int .i64)).set m (.int .i64 (n : Int))) 0 (min st m) false) = H2 at hrow2 hb2 hJ2 hk2
  rw [show (c.map (.int .i64)).set m (AV.int .i64 (n : Int)) = (c.set m (n : Int)).map (.int .i64) by rw [List.map_set]] at hrow2
  have e2 : ldn H2 b 0 2 0 = some [.slice (some w) 0 N 0 1 false, .yld r] := by rw [ldn_row hb2]; rfl
  have hd : (c.set m (n : Int)).drop m = (n : Int) :: s := by
    rw [List.drop_eq_getElem_cons (by simp; omega)]
    rw [List.drop_set_of_lt (by omega), hs]
    simp
  refine L_reg [8] (fun K hK => ?_)
  simp [okFn_low, e2, wrap_i64 (a := (m : Int)) (by omega), wrap_i64 (a := (n : Int)) (by omega)]
  refine hT m (!opp) ((n : Int) :: s) (c.set m (n : Int)) rest (min st m) H2 _ (by omega) (by simp [hc]) hd (by omega) hrow2 hJ2 (fun H' c' st' g1 gk g2 g3 g4 => ?_) (fun H' g1 => ?_)
  · simp
    apply hK; clear hK K
    exact L_ret ⟨.inr rfl, _, rfl, h1 _ c' st' g1 (hk2.trans gk) g2 (by have := congrArg (List.drop 1) g3; rw [List.drop_drop] at this; simpa [Nat.add_comm] using this) g4⟩
  · simp
    apply hK; clear hK K
    exact L_ret ⟨.inr rfl, _, rfl, h2 _ g1⟩

set_option maxRecDepth 100000 in
theorem turn_ok (hF : Fd r w N J Z) (hrw : r < w) : ∀ n, n ≤ 10 → TurnOk r w N J Z n := by
  intro n
  induction n with
  | zero =>
    intro hn k opp s c rest st H Q hk hc hs hN hrow hJ h1 h2
    obtain rfl : k = 0 := by omega
    have hwl := lt_of_row hrow
    refine L_body 50 Try.func100 rfl rfl ?_
    refine L_reg [1, 2, 3, 4] (fun K hK => ?_)
    simp [AV.isU, acells]
    apply hK; clear hK K
    have hb : (H ++ [AObj.row [.slice (some w) 0 N 0 1 false, .yld r] 0 0 false])[H.length]? = some (.row [.slice (some w) 0 N 0 1 false, .yld r] 0 0 false) := by simp
    have hJ1 := hF.same _ _ (H ++ [AObj.row [.slice (some w) 0 N 0 1 false, .yld r] 0 0 false]) ⟨by simp, fun j _ hj => List.getElem?_append_left hj⟩ hJ
    have hrow1 : (H ++ [AObj.row [.slice (some w) 0 N 0 1 false, .yld r] 0 0 false])[w]? = some (.row (c.map (.int .i64)) 0 st false) := by rw [List.getElem?_append_left hwl]; exact hrow
    have hk1 : KeepW w H (H ++ [AObj.row [.slice (some w) 0 N 0 1 false, .yld r] 0 0 false]) := .push ..
    generalize H ++ [AObj.row [.slice (some w) 0 N 0 1 false, .yld r] 0 0 false] = H1 at hb hJ1 hrow1 hk1 ⊢
    generalize H.length = b at hb ⊢
    have e0 : ld H1 b 0 0 = some (.slice (some w) 0 N 0 1 false) := by rw [ld_row hb]; rfl
    have e1 : ld H1 b 1 0 = some (.yld r) := by rw [ld_row hb]; rfl
    rw [feed_zero] at hJ1
    simp only [List.drop_zero] at hs
    subst hs
    refine L_block ?_
    refine L_reg [1, 2, 3, 4, 20] (fun K hK => ?_)
    simp
    apply hK; clear hK K
    refine L_true (by simp) ?_
    refine L_reg [8] (fun K hK => ?_)
    simp [e0, e1]
    refine (hF.yld _ rest H1 st (by simpa using hJ1) hrow1).mono ?_
    rintro _ H' ⟨t, rfl, ht⟩
    simp
    apply hK; clear hK K
    cases t with
    | true =>
      obtain ⟨g1, g2, st', g3⟩ := ht
      exact L_ret ⟨.inr rfl, _, rfl, h1 _ _ st' g1 (hk1.trans g2) hc (by simp) g3⟩
    | false =>
      exact L_ret ⟨.inr rfl, _, rfl, h2 _ ht⟩
  | succ n ih =>
    intro hn k opp s c rest st H Q hk hc hs hN hrow hJ h1 h2
    have hT := ih (by omega)
    have hwl := lt_of_row hrow
    refine L_body 50 Try.func100 rfl rfl ?_
    refine L_reg [1, 2, 3, 4] (fun K hK => ?_)
    simp [AV.isU, acells]
    apply hK; clear hK K
    have hb : (H ++ [AObj.row [.slice (some w) 0 N 0 1 false, .yld r] 0 0 false])[H.length]? = some (.row [.slice (some w) 0 N 0 1 false, .yld r] 0 0 false) := by simp
    have hJ1 := hF.same _ _ (H ++ [AObj.row [.slice (some w) 0 N 0 1 false, .yld r] 0 0 false]) ⟨by simp, fun j _ hj => List.getElem?_append_left hj⟩ hJ
    have hrow1 : (H ++ [AObj.row [.slice (some w) 0 N 0 1 false, .yld r] 0 0 false])[w]? = some (.row (c.map (.int .i64)) 0 st false) := by rw [List.getElem?_append_left hwl]; exact hrow
    have hk1 : KeepW w H (H ++ [AObj.row [.slice (some w) 0 N 0 1 false, .yld r] 0 0 false]) := .push ..
    have hbw : w < H.length := hwl
    generalize H ++ [AObj.row [.slice (some w) 0 N 0 1 false, .yld r] 0 0 false] = H1 at hb hJ1 hrow1 hk1 ⊢
    generalize H.length = b at hb hbw ⊢
    have e0 : ld H1 b 0 0 = some (.slice (some w) 0 N 0 1 false) := by rw [ld_row hb]; rfl
    have e1 : ld H1 b 1 0 = some (.yld r) := by rw [ld_row hb]; rfl
    have e2 : ldn H1 b 0 2 0 = some [.slice (some w) 0 N 0 1 false, .yld r] := by rw [ldn_row hb]; rfl
    refine L_block ?_
    refine L_reg [1, 2, 3, 4, 20] (fun K hK => ?_)
    simp
    apply hK; clear hK K
    refine L_dec ((k : Int) = 0) rfl (fun hk0 => ?_) (fun hk0 => ?_)
    · obtain rfl : k = 0 := by omega
      rw [feed_zero] at hJ1
      simp only [List.drop_zero] at hs
      subst hs
      refine L_reg [8] (fun K hK => ?_)
      simp [e0, e1]
      refine (hF.yld _ rest H1 st (by simpa using hJ1) hrow1).mono ?_
      rintro _ H' ⟨t, rfl, ht⟩
      simp
      apply hK; clear hK K
      cases t with
      | true =>
        obtain ⟨g1, g2, st', g3⟩ := ht
        exact L_ret ⟨.inr rfl, _, rfl, h1 _ _ st' g1 (hk1.trans g2) hc (by simp) g3⟩
      | false =>
        exact L_ret ⟨.inr rfl, _, rfl, h2 _ ht⟩
    · refine L_reg [1, 2, 3, 4, 28] (fun K hK => ?_)
      simp
      apply hK; clear hK K
      refine L_dec ((k : Int) = (n : Int) + 1) rfl (fun hkn => ?_) (fun hkn => ?_)
      · obtain rfl : k = n + 1 := by omega
        rw [feed_full, List.map_map] at hJ1
        refine L_reg [8] (fun K hK => ?_)
        simp [okFn_low, e2]
        refine add_ac hF n (by omega) hT (n + 1) opp s c rest st H1 _ (by omega) (by omega) hc hs hN hrow1 (by simpa [Function.comp_def] using hJ1) (fun H' c' st' g1 gk g2 g3 g4 => ?_) (fun H' g1 => ?_)
        · simp
          apply hK; clear hK K
          exact L_ret ⟨.inr rfl, _, rfl, h1 _ c' st' g1 (hk1.trans gk) g2 g3 g4⟩
        · simp
          apply hK; clear hK K
          exact L_ret ⟨.inr rfl, _, rfl, h2 _ g1⟩
      · have hkn' : k ≤ n := by omega
        refine L_reg [1, 2, 4, 37] (fun K hK => ?_)
        simp
        apply hK; clear hK K
        refine L_split rfl (fun ht => ?_) (fun hf => ?_)
        · obtain rfl : opp = true := by simpa using ht
          rw [feed_opp (by omega) hkn', List.map_append, List.map_map, List.append_assoc] at hJ1
          refine L_reg [8] (fun K hK => ?_)
          simp [okFn_low, e2]
          refine add_ac hF n (by omega) hT k true s c _ st H1 _ (by omega) (by omega) hc hs hN hrow1 (by simpa [Function.comp_def] using hJ1) (fun H' c' st' g1 gk g2 g3 g4 => ?_) (fun H' g1 => ?_)
          · have hb' := gk.row (by omega) hb
            have e2' : ldn H' b 0 2 0 = some [.slice (some w) 0 N 0 1 false, .yld r] := by rw [ldn_row hb']; rfl
            simp [e2', okFn_low, wrap_i64 (a := (n : Int)) (by omega)]
            refine hT k true s c' rest st' H' _ hkn' g2 g3 hN g4 g1 (fun H2 c2 st2 f1 fk f2 f3 f4 => ?_) (fun H2 f1 => ?_)
            · simp [pickV]
              apply hK; clear hK K
              exact L_ret ⟨.inr rfl, _, rfl, h1 _ c2 st2 f1 (hk1.trans (gk.trans fk)) f2 f3 f4⟩
            · simp [pickV]
              apply hK; clear hK K
              exact L_ret ⟨.inr rfl, _, rfl, h2 _ f1⟩
          · simp [pickV]
            apply hK; clear hK K
            exact L_ret ⟨.inr rfl, _, rfl, h2 _ g1⟩
        · obtain rfl : opp = false := by simpa using hf
          rw [feed_fwd (by omega) hkn', List.map_append, List.map_map, List.append_assoc] at hJ1
          refine L_reg [8] (fun K hK => ?_)
          simp [okFn_low, e2, wrap_i64 (a := (n : Int)) (by omega)]
          refine hT k false s c _ st H1 _ hkn' hc hs hN hrow1 (by simpa [Function.comp_def] using hJ1) (fun H' c' st' g1 gk g2 g3 g4 => ?_) (fun H' g1 => ?_)
          · have hb' := gk.row (by omega) hb
            have e2' : ldn H' b 0 2 0 = some [.slice (some w) 0 N 0 1 false, .yld r] := by rw [ldn_row hb']; rfl
            simp [e2', okFn_low]
            refine add_ac hF n (by omega) hT k false s c' rest st' H' _ (by omega) (by omega) g2 g3 hN g4 (by simpa [Function.comp_def] using g1) (fun H2 c2 st2 f1 fk f2 f3 f4 => ?_) (fun H2 f1 => ?_)
            · simp [pickV]
              apply hK; clear hK K
              exact L_ret ⟨.inr rfl, _, rfl, h1 _ c2 st2 f1 (hk1.trans (gk.trans fk)) f2 f3 f4⟩
            · simp [pickV]
              apply hK; clear hK K
              exact L_ret ⟨.inr rfl, _, rfl, h2 _ f1⟩
          · simp [pickV]
            apply hK; clear hK K
            exact L_ret ⟨.inr rfl, _, rfl, h2 _ g1⟩
end
end Go.Proofs.Ytpdcmdmhamnndaa
