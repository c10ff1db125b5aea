/- The reference: the round of a size. -/
import Derived.Test.YtpdcmdmhamnndaaRef
namespace Go.Proofs.Ytpdcmdmhamnndaa
open Go Go.Proofs.Ytpdcmdmhamnndaa.AX

theorem row0 {P : Program} {H : AH} {t : TypeId} (ht : elT P t = true) : rowV P t 0 [] H = some (some (.slice (some H.length) 0 0 0 1 false), H ++ [.row [] 0 0 false]) := by
  obtain ⟨e, I, h1, h2, h3, h4, hzz⟩ := elT_some ht
  simp [rowV, h1, h2, h3, aFill]
@[simp] theorem row22_0 (H : AH) : rowV Try.prog 22 0 [] H = some (some (.slice (some H.length) 0 0 0 1 false), H ++ [.row [] 0 0 false]) := row0 el22
@[simp] theorem row37_1 (H : AH) (r : Option Nat) (off len ver sz : Nat) (full : Bool) : rowV Try.prog 37 1 [(0, .slice r off len ver sz full)] H = some (some (.slice (some H.length) 0 1 0 1 false), H ++ [.row [.slice r off len ver sz full] 0 1 false]) := row1 el37 rfl rfl

/-- The lists that lie in a row, each in a row of its own. -/
def Els (N r : Nat) (H : AH) (vs : List AV) (l : List (List Int)) : Prop :=
  vs.length = l.length ∧ ∀ i (h : i < l.length), ∃ r' ver s, N ≤ r' ∧ r' ≠ r ∧ vs[i]? = some (.slice (some r') 0 l[i].length ver 1 false) ∧ H[r']? = some (.row (l[i].map (.int .i64)) ver s false)
def Rnd (N : Nat) (H : AH) (v : AV) (l : List (List Int)) : Prop :=
  ∃ r ver st vs, N ≤ r ∧ v = .slice (some r) 0 l.length ver 1 false ∧ H[r]? = some (.row vs ver st false) ∧ Els N r H vs l
/-- All rows but one are as they were. -/
def KeepX (r : Nat) (H H' : AH) : Prop := H.length ≤ H'.length ∧ ∀ j : Nat, j ≠ r → j < H.length → H'[j]? = H[j]?
theorem KeepX.refl (r : Nat) (H : AH) : KeepX r H H := ⟨Nat.le_refl _, fun _ _ _ => rfl⟩
theorem KeepX.ext {r : Nat} {A B C : AH} (h : KeepX r A B) (k : Ext B C) : KeepX r A C := ⟨Nat.le_trans h.1 k.1, fun j h1 h2 => by rw [k.2 j (by have := h.1; omega), h.2 j h1 h2]⟩
theorem KeepX.set {r : Nat} {A B : AH} (h : KeepX r A B) (o : AObj) : KeepX r A (B.set r o) := ⟨by simpa using h.1, fun j h1 h2 => by rw [List.getElem?_set_ne (Ne.symm h1), h.2 j h1 h2]⟩
theorem KeepX.row {r : Nat} {H H' : AH} (h : KeepX r H H') {j : Nat} {o : AObj} (hj : j ≠ r) (ho : H[j]? = some o) : H'[j]? = some o := by
  rw [h.2 j hj (List.getElem?_eq_some_iff.1 ho).1]; exact ho
theorem Els.keep {N r : Nat} {H H' : AH} {vs : List AV} {l : List (List Int)} (h : Els N r H vs l) (hK : KeepX r H H') : Els N r H' vs l :=
  ⟨h.1, fun i hi => by
    obtain ⟨r', ver, s, g1, g2, g3, g4⟩ := h.2 i hi
    exact ⟨r', ver, s, g1, g2, g3, hK.row g2 g4⟩⟩
theorem Rnd.keep {N r : Nat} {H H' : AH} {v : AV} {l : List (List Int)} (h : Rnd N H v l) (hr : r < N) (hK : KeepX r H H') : Rnd N H' v l := by
  obtain ⟨r1, ver, st, vs, h1, h2, h3, h4⟩ := h
  refine ⟨r1, ver, st, vs, h1, h2, hK.row (by omega) h3, h4.1, fun i hi => ?_⟩
  obtain ⟨r', ver, s, g1, g2, g3, g4⟩ := h4.2 i hi
  exact ⟨r', ver, s, g1, g2, g3, hK.row (by omega) g4⟩
theorem Rnd.get {N : Nat} {H : AH} {v : AV} {l : List (List Int)} (h : Rnd N H v l) : ∃ r ver, v = .slice (some r) 0 l.length ver 1 false ∧ ∀ i (hi : i < l.length), ∃ w, ld H r i ver = some w ∧ Ls H w l[i] := by
  obtain ⟨r1, ver, st, vs, h1, h2, h3, h4⟩ := h
  refine ⟨r1, ver, h2, fun i hi => ?_⟩
  obtain ⟨r', ver', s, g1, g2, g3, g4⟩ := h4.2 i hi
  refine ⟨_, by rw [ld_row h3, g3]; rfl, Ls.row g4 false⟩
theorem Els.push {N r : Nat} {H : AH} {vs : List AV} {l : List (List Int)} (h : Els N r H vs l) {r' ver s : Nat} {m : List Int} (h1 : N ≤ r') (h2 : r' ≠ r) (h3 : H[r']? = some (.row (m.map (.int .i64)) ver s false)) : Els N r H (vs ++ [.slice (some r') 0 m.length ver 1 false]) (l ++ [m]) := by
  refine ⟨by simp [h.1], fun i hi => ?_⟩
  have hvl := h.1
  by_cases hl : i < l.length
  · obtain ⟨a, b, c, g1, g2, g3, g4⟩ := h.2 i hl
    refine ⟨a, b, c, g1, g2, ?_, ?_⟩
    · rw [List.getElem?_append_left (by omega), g3, List.getElem_append_left hl]
    · rw [List.getElem_append_left hl]; exact g4
  · have : i = l.length := by simp at hi; omega
    subst this
    refine ⟨r', ver, s, h1, h2, ?_, ?_⟩
    · rw [List.getElem?_append_right (by omega)]; simp [hvl]
    · simpa using h3
theorem rnd_append {H : AH} {r ver st : Nat} {vs : List AV} {w : AV} {m : Nat} (hr : H[r]? = some (AObj.row vs ver st false)) (hx : w.one = true) (hlen : vs.length < 16777216) :
    aAppend Try.prog (H ++ [AObj.row [w] 0 m false]) 37 37 (.slice (some r) 0 vs.length ver 1 false) (.slice (some H.length) 0 1 0 1 false) = some (.slice (some r) 0 (vs.length + 1) (ver + 1) 1 false, (H ++ [AObj.row [w] 0 m false]).set r (AObj.row (vs ++ [w]) (ver + 1) (min st vs.length) false)) := by
  obtain ⟨e, I, h1, h2, h3, h4, -⟩ := elT_some el37
  have hsrc : aSrc Try.prog (H ++ [AObj.row [w] 0 m false]) 37 1 (.slice (some H.length) 0 1 0 1 false) = some (1, [w]) := by
    cases w <;> simp_all [aSrc, ldn, takeKnown, AV.one]
  have hlt : r < H.length := (List.getElem?_eq_some_iff.1 hr).1
  have hr' : (H ++ [AObj.row [w] 0 m false])[r]? = some (AObj.row vs ver st false) := by rw [List.getElem?_append_left hlt]; exact hr
  have : vs.length + 1 ≤ 16777216 := hlen
  have hin : inPlace (H ++ [AObj.row [w] 0 m false]) r 0 vs.length 1 ver 1 [w] = none := by simp [inPlace, hr']; omega
  unfold aAppend
  simp [h1, h2, h3, h4, hsrc, hx, grow, hr', this, hin]
theorem els_one {N r : Nat} {H : AH} {r' ver s : Nat} {m : List Int} (h1 : N ≤ r') (h2 : r' ≠ r) (h3 : H[r']? = some (.row (m.map (.int .i64)) ver s false)) : Els N r H [.slice (some r') 0 m.length ver 1 false] [m] := by
  have h0 : Els N r H [] [] := ⟨rfl, fun i h => by simp at h⟩
  simpa using h0.push h1 h2 h3
set_option maxRecDepth 100000 in
theorem rround_ac (n : Nat) : ∀ (k : Nat), k ≤ n → n ≤ 10 → ∀ (H : AH) (Q : AV → AH → Prop), (∀ v' H', Rnd H.length H' v' (roundS n k) → Ext H H' → Q v' H') → AC Try.prog 62 [.int .i64 n, .int .i64 k] H Q := by
  induction n with
  | zero =>
    intro k hk hn H Q h
    obtain rfl : k = 0 := by omega
    rw [roundS_zero] at h
    refine L_body 48 Try.func62 rfl rfl ?_
    refine L_reg [0, 1] (fun K hK => ?_)
    simp
    apply hK; clear hK K
    refine L_reg [0, 1, 9] (fun K hK => ?_)
    simp
    apply hK; clear hK K
    refine L_true (by simp) ?_
    refine L_reg [4] (fun K hK => ?_)
    simp
    apply hK; clear hK K
    refine L_ret ⟨.inr rfl, _, rfl, h _ _ ⟨H.length + 1, 0, 1, [.slice (some H.length) 0 0 0 1 false], by omega, rfl, by simp, els_one (m := []) (r' := H.length) (s := 0) (by omega) (by omega) (by simp)⟩ (.push _ _)⟩
  | succ n ih =>
    intro k hk hn H Q h
    refine L_body 48 Try.func62 rfl rfl ?_
    refine L_reg [0, 1] (fun K hK => ?_)
    simp
    apply hK; clear hK K
    refine L_reg [0, 1, 9] (fun K hK => ?_)
    simp
    apply hK; clear hK K
    refine L_dec ((k : Int) = 0) rfl (fun hz => ?_) (fun hz => ?_)
    · obtain rfl : k = 0 := by omega
      rw [roundS_zero] at h
      refine L_reg [4] (fun K hK => ?_)
      simp
      apply hK; clear hK K
      refine L_ret ⟨.inr rfl, _, rfl, h _ _ ⟨H.length + 1, 0, 1, [.slice (some H.length) 0 0 0 1 false], by omega, rfl, by simp, els_one (m := []) (r' := H.length) (s := 0) (by omega) (by omega) (by simp)⟩ (.push _ _)⟩
    · refine L_reg [0, 1, 14] (fun K hK => ?_)
      simp
      apply hK; clear hK K
      refine L_dec ((k : Int) = n + 1) rfl (fun hf => ?_) (fun hf => ?_)
      · obtain rfl : k = n + 1 := by omega
        rw [roundS_full] at h
        refine L_reg [4] (fun K hK => ?_)
        simp [okFn_low]
        refine rall_ac (n + 1) (by omega) H _ (fun v' H1 hO hE => ?_)
        rcases hO with ⟨h1, -⟩ | ⟨r, ver, st, g1, rfl, g3⟩
        · rw [iota_succ] at h1; simp at h1
        simp
        apply hK; clear hK K
        have hrl := lt_of_row g3
        have hle := hE.1
        have g4 : (H1 ++ [AObj.row [.slice (some r) 0 (n + 1) ver 1 false] 0 1 false])[r]? = _ := (Ext.push H1 _).row g3
        refine L_ret ⟨.inr rfl, _, rfl, h _ _ ⟨H1.length, 0, 1, [.slice (some r) 0 (n + 1) ver 1 false], hle, by simp, by simp, by simp, fun i hi => ?_⟩ (hE.trans (.push _ _))⟩
        obtain rfl : i = 0 := by simpa using hi
        exact ⟨r, ver, st, g1, by omega, by simp, by simpa using g4⟩
      · obtain ⟨k, rfl⟩ : ∃ m, k = m + 1 := ⟨k - 1, by omega⟩
        have hkn : k + 1 ≤ n := by omega
        have hF : roundS (n + 1) (k + 1) = roundS n (k + 1) ++ (roundS n k).reverse.map (· ++ [(n : Int)]) := by
          simp only [roundS]
          rw [if_neg (by omega), if_neg (by omega)]; rfl
        rw [hF] at h
        have hl5 := round_le2 (n := n) (k := k + 1) (by omega)
        have hl6 := round_le2 (n := n) (k := k) (by omega)
        have ih5 := ih (k + 1) hkn (by omega)
        have ih6 := ih k (by omega) (by omega)
        have hm6 := roundS_len n k
        generalize roundS n (k + 1) = F5 at *
        generalize roundS n k = F6 at *
        refine L_reg [0, 1, 5] (fun K hK => ?_)
        simp [okFn_low, wrap_i64 (a := (n : Int)) (by omega)]
        refine ih5 H _ (fun v5 H5 hR5 hE5 => ?_)
        simp
        apply hK; clear hK K
        refine L_reg [0, 5, 6] (fun K hK => ?_)
        simp [okFn_low, wrap_i64 (a := (n : Int)) (by omega), wrap_i64 (a := (k : Int)) (by omega)]
        refine ih6 H5 _ (fun v6 H6 hR6 hE6 => ?_)
        simp
        apply hK; clear hK K
        obtain ⟨r5, ver5, st5, vs5, a1, rfl, a3, a4⟩ := hR5
        have hr5 := lt_of_row a3
        obtain ⟨r6, ver6, hv6, -⟩ := hR6.get
        refine L_reg [0, 5, 6, 7] (fun K hK => ?_)
        simp [hv6, wrap_i64 (a := (F6.length : Int) - 1) (by omega)]
        apply hK; clear hK K
        have hK5 : KeepX r5 H5 H6 := (KeepX.refl r5 H5).ext hE6
        refine L_block (L_loopV [5, 7] (fun j vs H' => ∃ (ver st : Nat) (rs : List AV), j ≤ F6.length ∧ H'[r5]? = some (.row rs ver st false) ∧ Els H.length r5 H' rs (F5 ++ (F6.drop j).reverse.map (· ++ [(n : Int)])) ∧ KeepX r5 H6 H' ∧ Ext H H' ∧ vs = [.slice (some r5) 0 rs.length ver 1 false, .int .i64 ((j : Int) - 1)]) F6.length [.slice (some r5) 0 F5.length ver5 1 false, .int .i64 ((F6.length : Int) - 1)] rfl ⟨ver5, st5, vs5, Nat.le_refl _, hE6.row a3, by simpa using a4.keep hK5, .refl _ _, hE5.trans hE6, by rw [a4.1]⟩ ?_)
        rintro j _ H' ⟨ver, st, rs, hj, b1, b2, b3, b4, rfl⟩
        refine L_reg [0, 5, 6, 7, 31] (fun K hK => ?_)
        simp
        apply hK; clear hK K
        refine L_dec (0 ≤ (j : Int) - 1) (by simp) (fun hlt => ?_) (fun hge => L_exit ?_)
        · obtain ⟨j, rfl⟩ : ∃ m, j = m + 1 := ⟨j - 1, by omega⟩
          have hR6' := hR6.keep hr5 b3
          obtain ⟨r6', ver6', hv6', hget⟩ := hR6'.get
          rw [hv6'] at hv6
          obtain ⟨rfl, rfl⟩ : r6' = r6 ∧ ver6' = ver6 := by simpa using hv6
          obtain ⟨w, hw1, hw2⟩ := hget j (by omega)
          have hlen6 : F6[j].length ≤ 16777215 := by rw [hm6 _ (List.getElem_mem _)]; omega
          refine L_block ?_
          have hcp := copy_append (H := H') el22 el22 hw2 (by omega)
          obtain ⟨v1, H1, c1, c2, c3⟩ := hcp
          obtain ⟨v2, H2, d1, d2, d3⟩ := ownF_append c3 el22 el22 (x := .int .i64 (n : Int)) (m := 1) c2 rfl (by simp; omega)
          rcases d2 with ⟨g0, -⟩ | ⟨r', ver', s', g1, rfl, g3⟩
          · simp at g0
          have hr'n : r' ≠ r5 := by have := lt_of_row b1; omega
          have b1' := d3.row b1
          have hap := rnd_append (w := .slice (some r') 0 (F6[j].length + 1) ver' 1 false) (m := 1) b1' rfl (by have := b2.1; simp at this; omega)
          have hK2 : KeepX r5 H' H2 := (KeepX.refl _ _).ext d3
          have hld := (Ext.push H' [AObj.row [] 0 0 false]).ld hw1
          simp only [List.length_append, List.length_map, List.length_singleton] at hap d1 c1
          refine L_reg [0, 5, 6, 7] (fun K hK => ?_)
          simp [hv6', c1, d1, hap, hld, show (j : Int) < (F6.length : Int) by omega, wrap_i64 (a := (n : Int)) (by omega)]
          apply hK; clear hK K
          refine L_reg [0, 5, 6, 7] (fun K hK => ?_)
          simp [wrap_i64 (a := (j : Int) - 1) (by omega)]
          apply hK; clear hK K
          have hpush : Ext H2 (H2 ++ [AObj.row [.slice (some r') 0 (F6[j].length + 1) ver' 1 false] 0 1 false]) := .push _ _
          have hK3 := ((hK2.ext hpush).set (.row (rs ++ [.slice (some r') 0 (F6[j].length + 1) ver' 1 false]) (ver + 1) (min st rs.length) false))
          have hK23 := (((KeepX.refl r5 H2).ext hpush).set (.row (rs ++ [.slice (some r') 0 (F6[j].length + 1) ver' 1 false]) (ver + 1) (min st rs.length) false))
          have hb6 := (((b3.ext d3).ext hpush).set (.row (rs ++ [.slice (some r') 0 (F6[j].length + 1) ver' 1 false]) (ver + 1) (min st rs.length) false))
          have hE3 := ((b4.trans d3).trans hpush).set (.row (rs ++ [.slice (some r') 0 (F6[j].length + 1) ver' 1 false]) (ver + 1) (min st rs.length) false) a1
          have hrow5 := get_set (o' := .row (rs ++ [.slice (some r') 0 (F6[j].length + 1) ver' 1 false]) (ver + 1) (min st rs.length) false) ((d3.trans hpush).row b1)
          have hrow' := hK23.row hr'n g3
          generalize (H2 ++ [AObj.row [.slice (some r') 0 (F6[j].length + 1) ver' 1 false] 0 1 false]).set r5 (.row (rs ++ [.slice (some r') 0 (F6[j].length + 1) ver' 1 false]) (ver + 1) (min st rs.length) false) = H3 at *
          have hle' := b4.1
          have hels := (b2.keep hK3).push (r' := r') (m := F6[j] ++ [(n : Int)]) (by omega) hr'n (by simpa using hrow')
          simp only [List.length_append, List.length_singleton] at hels
          refine ⟨j, [.slice (some r5) 0 (rs.length + 1) (ver + 1) 1 false, .int .i64 ((j : Int) - 1)], by omega, by simp, ver + 1, min st rs.length, _, by omega, hrow5, ?_, hb6, hE3, by simp⟩
          have e : F5 ++ (F6.drop j).reverse.map (· ++ [(n : Int)]) = F5 ++ (F6.drop (j + 1)).reverse.map (· ++ [(n : Int)]) ++ [F6[j] ++ [(n : Int)]] := by
            have e0 : F6.drop j = F6[j] :: F6.drop (j + 1) := List.drop_eq_getElem_cons (by omega)
            rw [e0, List.reverse_cons, List.map_append, List.append_assoc]; rfl
          rw [e]; exact hels
        · obtain rfl : j = 0 := by omega
          refine L_reg [4] (fun K hK => ?_)
          simp
          apply hK; clear hK K
          exact L_ret ⟨.inr rfl, _, rfl, h _ _ ⟨r5, ver, st, rs, a1, by rw [b2.1]; simp, b1, by simpa using b2⟩ b4⟩
end Go.Proofs.Ytpdcmdmhamnndaa
