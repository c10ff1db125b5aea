/- Joined texts: Sm, Stp, Nb, OSorted, Adv, Pub, Ref, AllR, PubR, PubR2, Turn, Works0, Works, WBoxes, Tray, WProved, TurnM, EnM, AllL, AllP, Begins, SumN, OrdM, OrdA, OrdB, OrdC, WTriangle, OrdD, OrdE. -/
import Derived.Test.YtpfkioakjmpimaaJ694a
/- Small functions of shade and of its reference. -/
namespace Go.Proofs.Ytpfkioakjmpimaa
open Go Go.Proofs.Ytpfkioakjmpimaa.AX

def lenE (n : Nat) (m : Int) : Int := if n = 0 then 4 else if m < n then 3 else 0
theorem checkLength_ac (v : AV) (l : List Int) (m : Int) (H : AH) (Q : AV → AH → Prop) (hv : Ls H v l) (h : Q (.int .i64 (lenE l.length m)) H) : AC Try.prog 63 [v, .int .i64 m] H Q := by
  have hl := ls_len hv
  refine L_body 12 Try.func63 rfl rfl ?_
  refine L_reg [0, 1] (fun K hK => ?_)
  simp
  apply hK; clear hK K
  refine L_reg [0, 1, 7] (fun K hK => ?_)
  simp [hl]
  apply hK; clear hK K
  unfold lenE at h
  by_cases h0 : l.length = 0
  · refine L_true (by simp [h0]) ?_
    refine L_reg [4] (fun K hK => ?_)
    simp
    apply hK; clear hK K
    exact L_ret ⟨.inr rfl, _, rfl, by simpa [h0] using h⟩
  · refine L_false (by simp [h0]) ?_
    rw [if_neg h0] at h
    refine L_reg [11] (fun K hK => ?_)
    simp [hl]
    apply hK; clear hK K
    refine L_dec (m < l.length) (by simp) (fun h1 => ?_) (fun h1 => ?_)
    · refine L_reg [4] (fun K hK => ?_)
      simp
      apply hK; clear hK K
      exact L_ret ⟨.inr rfl, _, rfl, by simpa [h1] using h⟩
    · refine L_reg [4] (fun K hK => ?_)
      simp
      apply hK; clear hK K
      exact L_ret ⟨.inr rfl, _, rfl, by simpa [h1] using h⟩
/-- The error of shades. -/
def shE (l : List Int) : Int := if l.length = 0 then 4 else if 7 < l.length then 3 else if l.all (fun x => decide (0 ≤ x ∧ x ≤ 60)) = true then 0 else 1
theorem shE_ok {l : List Int} (h : shE l = 0) : 0 < l.length ∧ l.length ≤ 7 ∧ ∀ x ∈ l, 0 ≤ x ∧ x ≤ 60 := by
  unfold shE at h
  split at h
  · cases h
  split at h
  · cases h
  split at h
  · rename_i h0 h1 h2
    refine ⟨by omega, by omega, ?_⟩
    simpa [List.all_eq_true] using h2
  · cases h
/-- Numbers of a list that are small. -/
def Bd (M : Int) (l : List Int) : Prop := ∀ x ∈ l, -M ≤ x ∧ x ≤ M
theorem Bd.g {M : Int} {l : List Int} (h : Bd M l) {i : Nat} (hi : i < l.length) : -M ≤ Go.Proofs.Ytpfkioakjmpimaa.g l i ∧ Go.Proofs.Ytpfkioakjmpimaa.g l i ≤ M := h _ (gmem hi)
theorem gr_take {l : List Int} {i : Nat} (hi : i < l.length) : gr (l.take (i + 1)) = max (gr (l.take i)) (g l i) := by
  unfold gr
  rw [List.take_add_one, List.getElem?_eq_getElem hi, Option.toList_some, List.foldl_append, g_lt hi]
  rfl
theorem greatest_ac (v : AV) (l : List Int) (H : AH) (Q : AV → AH → Prop) (hlen : l.length ≤ 1000000) (hv : Ls H v l) (h : Q (.int .i64 (gr l)) H) : AC Try.prog 92 [v] H Q := by
  have hl := ls_len hv
  refine L_body 17 Try.func92 rfl rfl ?_
  refine L_reg [0] (fun K hK => ?_)
  simp
  apply hK; clear hK K
  refine L_reg [0, 3] (fun K hK => ?_)
  simp
  apply hK; clear hK K
  refine L_reg [3, 6, 7, 8] (fun K hK => ?_)
  simp [hl]
  apply hK; clear hK K
  refine L_block (L_loopV [3, 8] (fun n vs H' => ∃ i : Nat, n = l.length - i ∧ i ≤ l.length ∧ vs = [.int .i64 (gr (l.take i)), .int .i64 i] ∧ H = H') _ [.int .i64 0, .int .i64 0] rfl ⟨0, rfl, by omega, rfl, rfl⟩ ?_)
  rintro n _ _ ⟨i, rfl, hi, rfl, rfl⟩
  refine L_reg [3, 6, 7, 8, 9] (fun K hK => ?_)
  simp
  apply hK; clear hK K
  refine L_dec (i < l.length) (by simp) (fun hlt => ?_) (fun hge => L_exit ?_)
  · refine L_block ?_
    obtain ⟨rz, pz, vz, hix, hld⟩ := ls_ix hv hlt
    refine L_reg [3, 5, 6, 7, 8] (fun K hK => ?_)
    simp [hix, hld]
    apply hK; clear hK K
    refine L_reg [3, 6, 7, 8] (fun K hK => ?_)
    simp
    apply hK; clear hK K
    refine L_reg [3, 6, 7, 8] (fun K hK => ?_)
    simp [wrap_i64 (a := (i : Int) + 1) (by omega)]
    apply hK; clear hK K
    exact ⟨l.length - (i + 1), [.int .i64 (gr (l.take (i + 1))), .int .i64 (i + 1 : Nat)], by omega, by simp [gr_take hlt], i + 1, rfl, by omega, rfl, rfl⟩
  · rw [List.take_of_length_le (by omega)]
    refine L_reg [2] (fun K hK => ?_)
    simp
    apply hK; clear hK K
    exact L_ret ⟨.inr rfl, _, rfl, h⟩
theorem sum_take {l : List Int} {i : Nat} (hi : i < l.length) : (l.take (i + 1)).sum = (l.take i).sum + g l i := by
  rw [List.take_add_one, List.getElem?_eq_getElem hi, Option.toList_some, List.sum_append, g_lt hi]
  simp
theorem sum_bd {M : Int} (hM : 0 ≤ M) : ∀ {l : List Int}, Bd M l → -(M * l.length) ≤ l.sum ∧ l.sum ≤ M * l.length
  | [], _ => by simp
  | a :: l, h => by
    have h1 := h a (by simp)
    have h2 := sum_bd hM (l := l) fun x hx => h x (by simp [hx])
    simp only [List.sum_cons, List.length_cons]
    have : M * ((l.length + 1 : Nat) : Int) = M * l.length + M := by
      rw [show ((l.length + 1 : Nat) : Int) = (l.length : Int) + 1 by omega, Int.mul_add, Int.mul_one]
    omega
theorem sum_small {M : Int} {l : List Int} (h0 : 0 ≤ M) (h : Bd M l) (hM : M ≤ 1000000000) (hl : l.length ≤ 1000000) : -1000000000000000 ≤ l.sum ∧ l.sum ≤ 1000000000000000 := by
  have h1 := sum_bd h0 h
  have h2 : M * (l.length : Int) ≤ 1000000000 * 1000000 := Int.mul_le_mul hM (by omega) (by omega) (by omega)
  omega
theorem Bd.take {M : Int} {l : List Int} (h : Bd M l) (i : Nat) : Bd M (l.take i) := fun x hx => h x (List.mem_of_mem_take hx)
theorem total_ac (v : AV) (l : List Int) (H : AH) (Q : AV → AH → Prop) (hlen : l.length ≤ 1000000) (hb : Bd 1000000000 l) (hv : Ls H v l) (h : Q (.int .i64 l.sum) H) : AC Try.prog 95 [v] H Q := by
  have hl := ls_len hv
  refine L_body 17 Try.func95 rfl rfl ?_
  refine L_reg [0] (fun K hK => ?_)
  simp
  apply hK; clear hK K
  refine L_reg [0, 3] (fun K hK => ?_)
  simp
  apply hK; clear hK K
  refine L_reg [3, 6, 7, 8] (fun K hK => ?_)
  simp [hl]
  apply hK; clear hK K
  refine L_block (L_loopV [3, 8] (fun n vs H' => ∃ i : Nat, n = l.length - i ∧ i ≤ l.length ∧ vs = [.int .i64 (l.take i).sum, .int .i64 i] ∧ H = H') _ [.int .i64 0, .int .i64 0] rfl ⟨0, rfl, by omega, rfl, rfl⟩ ?_)
  rintro n _ _ ⟨i, rfl, hi, rfl, rfl⟩
  refine L_reg [3, 6, 7, 8, 9] (fun K hK => ?_)
  simp
  apply hK; clear hK K
  refine L_dec (i < l.length) (by simp) (fun hlt => ?_) (fun hge => L_exit ?_)
  · refine L_block ?_
    obtain ⟨rz, pz, vz, hix, hld⟩ := ls_ix hv hlt
    have hs := sum_small (by decide) (hb.take (i + 1)) (by decide) (by simp; omega)
    rw [sum_take hlt] at hs
    refine L_reg [3, 5, 6, 7, 8] (fun K hK => ?_)
    simp [hix, hld]
    apply hK; clear hK K
    refine L_reg [3, 6, 7, 8] (fun K hK => ?_)
    simp [wrap_i64 (a := (l.take i).sum + g l i) (by omega)]
    apply hK; clear hK K
    refine L_reg [3, 6, 7, 8] (fun K hK => ?_)
    simp [wrap_i64 (a := (i : Int) + 1) (by omega)]
    apply hK; clear hK K
    exact ⟨l.length - (i + 1), [.int .i64 (l.take (i + 1)).sum, .int .i64 (i + 1 : Nat)], by omega, by simp [sum_take hlt], i + 1, rfl, by omega, rfl, rfl⟩
  · rw [List.take_of_length_le (by omega)]
    refine L_reg [2] (fun K hK => ?_)
    simp
    apply hK; clear hK K
    exact L_ret ⟨.inr rfl, _, rfl, h⟩
end Go.Proofs.Ytpfkioakjmpimaa

/- Steps of a box, as the reference finds them. -/
namespace Go.Proofs.Ytpfkioakjmpimaa
open Go Go.Proofs.Ytpfkioakjmpimaa.AX

theorem stp_len (l : List Int) : (stp l).length = l.length - 1 := by simp [stp]
theorem sh_g {l : List Int} (hb : Bd 1000 l) {i : Nat} (hi : i < l.length) : -1000 ≤ g l i ∧ g l i ≤ 1000 := hb.g hi
theorem df_bd {l : List Int} (hb : Bd 1000 l) {r : Bool} : Bd 2000 (stepsS r l) := by
  intro x hx
  unfold stepsS at hx
  rcases List.mem_append.1 hx with hx | hx
  · obtain ⟨i, hi, rfl⟩ := mem_stp.1 hx
    have b1 := sh_g hb (i := i) (by omega)
    have b2 := sh_g hb hi
    unfold df; omega
  · split at hx
    · rename_i h2
      rw [List.mem_singleton] at hx
      subst hx
      have b1 := sh_g hb (i := 0) (by omega)
      have b2 := sh_g hb (i := l.length - 1) (by omega)
      unfold df; omega
    · simp at hx
theorem stepsS_len (r : Bool) (l : List Int) : (stepsS r l).length ≤ l.length := by
  unfold stepsS
  rw [List.length_append, stp_len]
  split
  · simp; omega
  · simp
def sumC (r : Bool) (l : List Int) : Int := (stepsS r l).sum
end Go.Proofs.Ytpfkioakjmpimaa

/- Neighbours, and the steps of a box, as the program finds them. -/
namespace Go.Proofs.Ytpfkioakjmpimaa
open Go Go.Proofs.Ytpfkioakjmpimaa.AX

/-- The pairs of neighbours. -/
def prs (r : Bool) (l : List Int) : List (Int × Int) := ((List.range (l.length - 1)).map fun i => (g l i, g l (i + 1))) ++ if r = true ∧ 1 < l.length then [(g l (l.length - 1), g l 0)] else []
theorem prs_steps (r : Bool) (l : List Int) : stepsS r l = (prs r l).map fun p => df p.1 p.2 := by
  unfold stepsS prs stp
  rw [List.map_append, List.map_map]
  congr 1
  split <;> rfl
theorem prs_at {r : Bool} {l : List Int} {i : Nat} (h : i + 1 < l.length) : (prs r l)[i]? = some (g l i, g l (i + 1)) := by
  unfold prs
  rw [List.getElem?_append_left (by simp; omega), List.getElem?_map, List.getElem?_range (by omega)]
  rfl
theorem prs_last {l : List Int} (h : 1 < l.length) : (prs true l)[l.length - 1]? = some (g l (l.length - 1), g l 0) := by
  unfold prs
  rw [List.getElem?_append_right (by simp), if_pos ⟨rfl, h⟩]
  simp
theorem prs_lenF {r : Bool} {l : List Int} (h : ¬ (r = true ∧ 1 < l.length)) : (prs r l).length = l.length - 1 := by
  unfold prs
  rw [if_neg h]; simp
theorem prs_lenT {l : List Int} (h : 1 < l.length) : (prs true l).length = l.length - 1 + 1 := by
  unfold prs
  rw [if_pos ⟨rfl, h⟩]; simp
set_option maxRecDepth 100000 in
theorem nb1_ac (rr pl pr : Nat) (v : AV) (l : List Int) (r : Bool) (J : Nat → AH → Prop) (Z : AH → Prop) (H : AH) (Q : AV → AH → Prop) (hlen : l.length ≤ 1000000)
    (hv : ∀ k H, J k H → (∃ s, H[pl]? = some (.row [v] 0 s false)) ∧ (∃ s, H[pr]? = some (.row [.bool r] 0 s false)) ∧ Ls H v l)
    (hy : ∀ k a b H, (prs r l)[k]? = some (a, b) → J k H → AYld Try.prog rr [.int .i64 a, .int .i64 b] H fun u H' => ∃ t, u = .bool t ∧ if t = true then J (k + 1) H' else Z H')
    (hJ : J 0 H) (h1 : ∀ H', J (prs r l).length H' → Q (.tuple []) H') (h2 : ∀ H', Z H' → Q (.tuple []) H') : AC Try.prog 109 [.yld rr, .ptr pl 0 0, .ptr pr 0 0] H Q := by
  refine L_body 40 Try.func109 rfl rfl ?_
  refine L_reg [0, 1, 2, 4] (fun K hK => ?_)
  simp
  apply hK; clear hK K
  refine L_block (L_loopV [4] (fun n vs H' => ∃ i : Nat, n = l.length - i ∧ 1 ≤ i ∧ (i ≤ l.length ∨ i = 1) ∧ vs = [.int .i64 i] ∧ J (i - 1) H') _ [.int .i64 1] rfl ⟨1, rfl, by omega, by omega, rfl, hJ⟩ ?_)
  rintro n _ H1 ⟨i, rfl, hi1, hi, rfl, hJ1⟩
  obtain ⟨⟨s1, q1⟩, ⟨s2, q2⟩, hv1⟩ := hv _ _ hJ1
  have e1 : ld H1 pl 0 0 = some v := by
    obtain ⟨r0, off, ver, sz, full, rfl, -⟩ := id hv1
    rw [ld_row q1]; rfl
  have e2 : ld H1 pr 0 0 = some (.bool r) := by rw [ld_row q2]; rfl
  have hl := ls_len hv1
  refine L_reg [0, 1, 2, 4, 8] (fun K hK => ?_)
  simp [e1, hl]
  apply hK; clear hK K
  refine L_dec (i < l.length) (by simp) (fun hlt => ?_) (fun hge => L_exit ?_)
  · refine L_block ?_
    obtain ⟨rz, pz, vz, hix, hld⟩ := ls_ix hv1 (i := i - 1) (by omega)
    obtain ⟨ry, py, vy, hiy, hldy⟩ := ls_ix hv1 hlt
    have e3 : (i : Int) - 1 = ((i - 1 : Nat) : Int) := by omega
    have hp := prs_at (r := r) (l := l) (i := i - 1) (by omega)
    rw [show i - 1 + 1 = i by omega] at hp
    refine L_regM mixed 10 [0, 1, 2, 4, 22] (by decide) (by kernel_rfl) (fun K hK => ?_)
    simp [e1, e3, wrap_i64 (a := ((i - 1 : Nat) : Int)) (by omega), hix, hld, hiy, hldy]
    refine (hy _ _ _ _ hp hJ1).mono ?_
    rintro _ H2 ⟨t, rfl, ht⟩
    simp
    apply hK; clear hK K
    cases t with
    | false =>
      refine L_true rfl ?_
      exact L_ret ⟨.inr rfl, _, rfl, h2 _ (by simpa using ht)⟩
    | true =>
      refine L_false rfl ?_
      refine L_reg [0, 1, 2, 4] (fun K hK => ?_)
      simp [wrap_i64 (a := (i : Int) + 1) (by omega)]
      apply hK; clear hK K
      refine ⟨l.length - (i + 1), [.int .i64 (i + 1 : Nat)], by omega, by simp, i + 1, rfl, by omega, by omega, rfl, ?_⟩
      rw [show i + 1 - 1 = i - 1 + 1 by omega]
      simpa using ht
  · by_cases hr : r = true ∧ 1 < l.length
    · obtain ⟨rfl, hn⟩ := hr
      have hi' : i = l.length := by omega
      subst hi'
      have e4 : decide ((1 : Int) < l.length) = true := by simp; omega
      refine L_reg [0, 1, 28] (fun K hK => ?_)
      simp [e1, e2, hl, e4, pickV]
      apply hK; clear hK K
      refine L_true rfl ?_
      obtain ⟨rz, pz, vz, hix, hld⟩ := ls_ix hv1 (i := l.length - 1) (by omega)
      obtain ⟨ry, py, vy, hiy, hldy⟩ := ls_ix hv1 (i := 0) (by omega)
      have hiy0 : ∀ k, aIndexAddr Try.prog 22 v (.int k 0) = some (.ptr ry py vy) := hiy
      have e3 : (l.length : Int) - 1 = ((l.length - 1 : Nat) : Int) := by omega
      refine L_regM mixed 10 [] (by decide) (by kernel_rfl) (fun K hK => ?_)
      simp [e1, hl, e3, wrap_i64 (a := ((l.length - 1 : Nat) : Int)) (by omega), hix, hld, hiy0, hldy]
      refine (hy _ _ _ _ (prs_last hn) hJ1).mono ?_
      rintro _ H2 ⟨t, rfl, ht⟩
      simp
      apply hK; clear hK K
      refine ⟨.inl rfl, _, rfl, ?_⟩
      cases t with
      | false => exact h2 _ (by simpa using ht)
      | true => exact h1 _ (by rw [prs_lenT hn]; simpa using ht)
    · have hq : Q (.tuple []) H1 := h1 _ (by rw [prs_lenF hr, show l.length - 1 = i - 1 by omega]; exact hJ1)
      cases r with
      | false =>
        refine L_reg [0, 1, 28] (fun K hK => ?_)
        simp [e2, pickV]
        apply hK; clear hK K
        refine L_false rfl ?_
        exact ⟨.inl rfl, _, rfl, hq⟩
      | true =>
        have hn1 : ¬ 1 < l.length := fun h => hr ⟨rfl, h⟩
        have e4 : decide ((1 : Int) < l.length) = false := by simp; omega
        refine L_reg [0, 1, 28] (fun K hK => ?_)
        simp [e1, e2, hl, e4, pickV]
        apply hK; clear hK K
        refine L_false rfl ?_
        exact ⟨.inl rfl, _, rfl, hq⟩
theorem nbs_ac (r0 : Option Nat) (off n ver sz : Nat) (full r : Bool) (H : AH) (Q : AV → AH → Prop) (h : Q (.func (.func 109) [] [.ptr H.length 0 0, .ptr (H.length + 1) 0 0]) (H ++ [.row [.slice r0 off n ver sz full] 0 0 false] ++ [.row [.bool r] 0 0 false])) : AC Try.prog 101 [.slice r0 off n ver sz full, .bool r] H Q := by
  refine L_body 6 Try.func101 rfl rfl ?_
  refine L_reg [2, 3] (fun K hK => ?_)
  simp [AV.isU, acells]
  apply hK; clear hK K
  refine L_reg [4] (fun K hK => ?_)
  simp
  apply hK; clear hK K
  exact L_ret ⟨.inr rfl, _, rfl, by simpa using h⟩
theorem make_cap {P : Program} {t : TypeId} {z : AV} {H : AH} (h : elZ P t = some z) {n : Nat} (hn : n ≤ 16777216) : makeV P t H (.int .i64 0) (.int .i64 n) = some (some (.slice (some H.length) 0 0 0 1 false), H ++ [.row [] 0 0 false]) := by
  unfold elZ at h
  split at h
  case h_2 => cases h
  rename_i e he
  split at h
  case h_2 => cases h
  rename_i I hI
  split at h
  case isFalse => cases h
  rename_i hc
  simp only [makeV, he, hI, hc.1]
  rw [if_pos ⟨by omega, by omega, by omega, hc.2, by omega⟩]
  simp
/-- append to the list of a row. -/
theorem rw_append {P : Program} {t u : TypeId} (ht : elT P t = true) (hu : elT P u = true) {H : AH} {r ver m : Nat} {c : List Int} {x : Int} (hr : Rw r ver H c) (hlen : c.length < 16777216) :
    ∃ H', aAppend P (H ++ [.row [.int .i64 x] 0 m false]) t u (.slice (some r) 0 c.length ver 1 false) (.slice (some H.length) 0 1 0 1 false) = some (.slice (some r) 0 (c.length + 1) (ver + 1) 1 false, H') ∧ Rw r (ver + 1) H' (c ++ [x]) ∧ KeepX r H H' := by
  obtain ⟨e, I, h1, h2, h3, h4, -⟩ := elT_some ht
  obtain ⟨e', I', g1, -⟩ := elT_some hu
  obtain ⟨stale, hr⟩ := hr
  have hsrc : aSrc P (H ++ [.row [.int .i64 x] 0 m false]) u 1 (.slice (some H.length) 0 1 0 1 false) = some (1, [.int .i64 x]) := by
    simp_all [aSrc, ldn, takeKnown]
  unfold aAppend
  have hlt : r < H.length := (List.getElem?_eq_some_iff.1 hr).1
  have hr' : (H ++ [.row [.int .i64 x] 0 m false])[r]? = some (.row (c.map (.int .i64)) ver stale false) := by rw [List.getElem?_append_left hlt]; exact hr
  refine ⟨(H ++ [AObj.row [.int .i64 x] 0 m false]).set r (AObj.row ((c ++ [x]).map (.int .i64)) (ver + 1) (min stale c.length) false), ?_, ⟨min stale c.length, ?_⟩, ?_⟩
  · have : c.length + 1 ≤ 16777216 := hlen
    have hin : inPlace (H ++ [AObj.row [.int .i64 x] 0 m false]) r 0 c.length 1 ver 1 [.int .i64 x] = none := by simp [inPlace, hr']; omega
    have hone : (AV.int .i64 x).one = true := rfl
    simp [h1, h2, h3, h4, hsrc, hone, grow, hr', this, hin]
    rw [List.take_of_length_le (by simp)]
  · rw [List.getElem?_set]
    simp; omega
  · refine ⟨by simp, fun j hj hjl => ?_⟩
    rw [List.getElem?_set_ne (Ne.symm hj), List.getElem?_append_left hjl]
theorem set_ne {H : AH} {i j : Nat} {o : AObj} (h : i ≠ j) : (H.set i o)[j]? = H[j]? := List.getElem?_set_ne h
theorem Rw.set_ne {r ver j : Nat} {H : AH} {c : List Int} {o : AObj} (h : Rw r ver H c) (hj : j ≠ r) : Rw r ver (H.set j o) c := by
  obtain ⟨s, h⟩ := h
  exact ⟨s, by rw [Go.Proofs.Ytpfkioakjmpimaa.set_ne hj]; exact h⟩
theorem Rw.keep {r ver w : Nat} {H H' : AH} {c : List Int} (h : Rw r ver H c) (hk : KeepX w H H') (hr : r ≠ w) : Rw r ver H' c := by
  obtain ⟨s, h⟩ := h
  exact ⟨s, hk.row hr h⟩
set_option maxRecDepth 100000 in
theorem steps_ac (v : AV) (l : List Int) (r : Bool) (H : AH) (Q : AV → AH → Prop) (hlen : l.length ≤ 1000000) (hb : Bd 1000 l) (hv : Ls H v l)
    (h : ∀ v H', OwnF H.length H' v ((stepsS r l).map (.int .i64)) → Ext H H' → Q v H') : AC Try.prog 93 [v, .bool r] H Q := by
  obtain ⟨r0, off0, ver0, sz0, full0, hv0, -⟩ := id hv
  have hl := ls_len hv
  refine L_body 27 Try.func93 rfl rfl ?_
  refine L_reg [0, 1, 6, 7] (fun K hK => ?_)
  simp
  apply hK; clear hK K
  have hst : storeV Try.prog 22 (H ++ [AObj.row [] 0 0 false] ++ [AObj.row [AV.slice none 0 0 0 1 false] 0 0 false]) (.ptr (H ++ [AObj.row [] 0 0 false]).length 0 0) (.slice (some H.length) 0 0 0 1 false) = some (none, (H ++ [AObj.row [] 0 0 false]) ++ [.row [.slice (some H.length) 0 0 0 1 false] 0 0 false]) := store_last sc22 (y := .slice none 0 0 0 1 false) rfl rfl
  simp at hst
  obtain ⟨I, hI, hz⟩ := zeroT_some zt22
  refine L_reg [0, 1, 5, 6, 7] (fun K hK => ?_)
  simp [hl, make_cap elz22 (show l.length ≤ 16777216 by omega), hI, hz, hst]
  apply hK; clear hK K
  have z0 : (H ++ [AObj.row [] 0 0 false, AObj.row [AV.slice (some H.length) 0 0 0 1 false] 0 0 false]).length = H.length + 2 := by simp
  have z1 : Rw H.length 0 (H ++ [AObj.row [] 0 0 false, AObj.row [AV.slice (some H.length) 0 0 0 1 false] 0 0 false]) [] := ⟨0, by simp⟩
  have z2 : (H ++ [AObj.row [] 0 0 false, AObj.row [AV.slice (some H.length) 0 0 0 1 false] 0 0 false])[H.length + 1]? = some (.row [.slice (some H.length) 0 0 0 1 false] 0 0 false) := by simp
  have zE : Ext H (H ++ [AObj.row [] 0 0 false, AObj.row [AV.slice (some H.length) 0 0 0 1 false] 0 0 false]) := .push _ _
  generalize H ++ [AObj.row [] 0 0 false, AObj.row [AV.slice (some H.length) 0 0 0 1 false] 0 0 false] = Ha at z0 z1 z2 zE ⊢
  rw [hv0]
  refine L_reg [5, 6, 7, 13] (fun K hK => ?_)
  simp [okFn_low]
  refine nbs_ac r0 off0 l.length ver0 sz0 full0 r _ _ ?_
  simp
  apply hK; clear hK K
  rw [← hv0]
  have y1 : (Ha ++ [AObj.row [v] 0 0 false, AObj.row [AV.bool r] 0 0 false])[H.length + 2]? = some (.row [v] 0 0 false) := by rw [← z0]; simp
  have y2 : (Ha ++ [AObj.row [v] 0 0 false, AObj.row [AV.bool r] 0 0 false])[H.length + 3]? = some (.row [.bool r] 0 0 false) := by rw [show H.length + 3 = Ha.length + 1 by omega]; simp
  have yE : Ext Ha (Ha ++ [AObj.row [v] 0 0 false, AObj.row [AV.bool r] 0 0 false]) := .push _ _
  have yl : (Ha ++ [AObj.row [v] 0 0 false, AObj.row [AV.bool r] 0 0 false]).length = H.length + 4 := by simp [z0]
  have z1 := z1.ext yE
  have z2 := yE.row z2
  have zE := zE.trans yE
  generalize Ha ++ [AObj.row [v] 0 0 false, AObj.row [AV.bool r] 0 0 false] = H1 at y1 y2 yE yl z1 z2 zE ⊢
  rw [z0]
  refine L_block (L_range [5] rfl (okFn_low (by omega) (by omega)) ?_)
  generalize hL : (⟨27, _, _, _, _⟩ : LR) = L
  have hnt : L.nt = 27 := by rw [← hL]
  have hps : L.ps = #[14, 15] := by rw [← hL]
  have hass := congrArg LR.assign hL.symm
  have he : L.e = [(5, .ptr (H.length + 1) 0 0)] := by rw [← hL]; rfl
  have hbody := congrArg LR.body hL.symm
  clear hL
  rw [yl]
  generalize hp : H.length = p at *
  refine nb1_ac (p + 4) (p + 2) (p + 3) v l r (fun k H' => p + 5 ≤ H'.length ∧ H'[p + 2]? = some (.row [v] 0 0 false) ∧ H'[p + 3]? = some (.row [.bool r] 0 0 false) ∧ H'[p + 4]? = some (.loop .ready .normal L) ∧ Ext H H' ∧
      ∃ ver s, Rw p ver H' ((stepsS r l).take k) ∧ H'[p + 1]? = some (.row [.slice (some p) 0 ((stepsS r l).take k).length ver 1 false] 0 s false)) (fun _ => False) _ _ hlen ?_ ?_ ?_ ?_ ?_
  · rintro k H2 ⟨g0, g1, g2, g3, gE, -⟩
    exact ⟨⟨_, g1⟩, ⟨_, g2⟩, hv.ext gE⟩
  · rintro k a b H2 hk ⟨g0, g1, g2, g3, gE, ver, s, g4, g5⟩
    refine AYld_mkA g3 (by rw [hps]; rfl) (by rw [hps, hnt]; simp) ?_
    rw [hnt, hps, he, hass]
    refine L_reg [5, 6, 15] (fun K hK => ?_)
    simp [psEnv]
    apply hK; clear hK K
    refine L_reg [5, 6, 7] (fun K hK => ?_)
    simp
    apply hK; clear hK K
    refine ⟨rfl, .normal, L, g3, ?_⟩
    rw [hbody]
    have hkx : (stepsS r l)[k]? = some (df a b) := by rw [prs_steps, List.getElem?_map, hk]; rfl
    have hkl : k < (stepsS r l).length := (List.getElem?_eq_some_iff.1 hkx).1
    have hkt : (stepsS r l).take (k + 1) = (stepsS r l).take k ++ [df a b] := by rw [List.take_add_one, hkx]; rfl
    have hlk : ((stepsS r l).take k).length = k := by simp; omega
    have hsl := stepsS_len r l
    have hab : Bd 1000 [a, b] := by
      have : (a, b) ∈ prs r l := List.mem_of_getElem? hk
      unfold prs at this
      rcases List.mem_append.1 this with this | this
      · obtain ⟨i, hi, e⟩ := List.mem_map.1 this
        rw [List.mem_range] at hi
        cases e
        have b1 := sh_g hb (i := i) (by omega)
        have b2 := sh_g hb (i := i + 1) (by omega)
        intro x hx; simp at hx; rcases hx with rfl | rfl <;> assumption
      · split at this
        · rename_i hc
          simp at this
          obtain ⟨rfl, rfl⟩ := this
          have b1 := sh_g hb (i := l.length - 1) (by omega)
          have b2 := sh_g hb (i := 0) (by omega)
          intro x hx; simp at hx; rcases hx with rfl | rfl <;> assumption
        · simp at this
    have b1 := hab a (by simp)
    have b2 := hab b (by simp)
    rw [hlk] at g5
    generalize hH2b : H2.set (p + 4) (.loop .busy .normal L) = H2b
    have bl : H2b.length = H2.length := by rw [← hH2b]; simp
    have b5 : H2b[p + 1]? = some (.row [.slice (some p) 0 k ver 1 false] 0 s false) := by rw [← hH2b, set_ne (by omega)]; exact g5
    have b4 : Rw p ver H2b ((stepsS r l).take k) := by rw [← hH2b]; exact g4.set_ne (by omega)
    have bL : H2b[p + 4]? = some (.loop .busy .normal L) := by rw [← hH2b, List.getElem?_set_self (by omega)]
    have c1 : H2b[p + 2]? = some (.row [v] 0 0 false) := by rw [← hH2b, set_ne (by omega)]; exact g1
    have c2 : H2b[p + 3]? = some (.row [.bool r] 0 0 false) := by rw [← hH2b, set_ne (by omega)]; exact g2
    have bE : Ext H H2b := by rw [← hH2b]; exact gE.set _ (by omega)
    have e5 : ld H2b (p + 1) 0 0 = some (.slice (some p) 0 k ver 1 false) := by rw [ld_row b5]; rfl
    obtain ⟨H3, happ, d4, dK⟩ := rw_append el22 el22 (x := df a b) (m := 1) b4 (by omega)
    rw [hlk] at happ
    have d5 := dK.row (by omega) b5
    have hst := store_row (P := Try.prog) (u := 22) (p := 0) sc22 (x := .slice (some p) 0 (k + 1) (ver + 1) 1 false) (y := .slice (some p) 0 k ver 1 false) rfl d5 rfl
    have e6 : max a b - min a b = df a b := rfl
    refine L_block ?_
    refine L_reg [] (fun K hK => ?_)
    simp [e5, e6, wrap_i64 (a := df a b) (by unfold df; omega), happ, hst]
    apply hK; clear hK K
    refine ⟨.busy, .normal, L, by rw [set_ne (by omega)]; exact dK.row (by omega) bL, true, rfl, ?_⟩
    simp only [if_true]
    have hlen3 := dK.1
    refine ⟨by simp; omega, ?_, ?_, ?_, ?_, ver + 1, 0, ?_, ?_⟩
    · rw [set_ne (by omega), set_ne (by omega)]; exact dK.row (by omega) c1
    · rw [set_ne (by omega), set_ne (by omega)]; exact dK.row (by omega) c2
    · rw [List.getElem?_set_self (by simp; omega)]
    · exact ((dK.new bE (by omega)).set _ (by omega)).set _ (by omega)
    · rw [hkt]; exact (d4.set_ne (by omega)).set_ne (by omega)
    · rw [set_ne (by omega), get_set d5, hkt]
      simp [hlk]
  · have hin : ∀ j, j < H1.length → (H1 ++ [AObj.loop .ready .normal L])[j]? = H1[j]? := fun j hj => List.getElem?_append_left hj
    refine ⟨by simp; omega, ?_, ?_, by rw [← yl]; simp, zE.trans (.push _ _), 0, 0, z1.ext (.push _ _), ?_⟩
    · rw [hin _ (by omega)]; exact y1
    · rw [hin _ (by omega)]; exact y2
    · rw [hin _ (by omega)]; exact z2
  · rintro H2 ⟨g0, g1, g2, g3, gE, ver, s, g4, g5⟩
    refine ⟨.ready, .normal, L, g3, by simp, ?_⟩
    have hpl : (prs r l).length = (stepsS r l).length := by rw [prs_steps]; simp
    rw [hpl, List.take_length] at g4 g5
    have b5 : (H2.set (p + 4) (.loop .exhausted .normal L))[p + 1]? = some (.row [.slice (some p) 0 (stepsS r l).length ver 1 false] 0 s false) := by rw [set_ne (by omega)]; exact g5
    have e5 : ld (H2.set (p + 4) (.loop .exhausted .normal L)) (p + 1) 0 0 = some (.slice (some p) 0 (stepsS r l).length ver 1 false) := by rw [ld_row b5]; rfl
    show AWL _ _ _ _ _ _
    refine L_reg [4] (fun K hK => ?_)
    simp [e5]
    apply hK; clear hK K
    exact L_ret ⟨.inr rfl, _, rfl, h _ _ ((g4.set_ne (by omega)).ownF (Nat.le_refl _)) (gE.set _ (by omega))⟩
  · intro H' h; exact h.elim
theorem greatest_q (v : AV) (l : List Int) (r : Bool) (H : AH) (Q : AV → AH → Prop) (hlen : l.length ≤ 1000000) (hb : Bd 1000 l) (hv : Ls H v l) (h : Q (.int .i64 (stepC r l)) H) : AC Try.prog 59 [v, .bool r] H Q := by
  refine AC.quiet (belB_int _ _ _ _) (fun Q h => ?_) Q h
  refine L_body 9 Try.func59 rfl rfl ?_
  refine L_reg [0, 1] (fun K hK => ?_)
  simp
  apply hK; clear hK K
  have hsl := stepsS_len r l
  refine L_reg [4] (fun K hK => ?_)
  simp [okFn_low]
  refine steps_ac v l r _ _ hlen hb hv (fun w H1 hO hE => ?_)
  simp [okFn_low]
  refine greatest_ac w _ _ _ (by omega) hO.own.ls ?_
  simp
  apply hK; clear hK K
  exact L_ret ⟨.inr rfl, _, rfl, h H1 hE⟩
theorem sum_q (v : AV) (l : List Int) (r : Bool) (H : AH) (Q : AV → AH → Prop) (hlen : l.length ≤ 1000000) (hb : Bd 1000 l) (hv : Ls H v l) (h : Q (.int .i64 (sumC r l)) H) : AC Try.prog 61 [v, .bool r] H Q := by
  refine AC.quiet (belB_int _ _ _ _) (fun Q h => ?_) Q h
  refine L_body 9 Try.func61 rfl rfl ?_
  refine L_reg [0, 1] (fun K hK => ?_)
  simp
  apply hK; clear hK K
  have hsl := stepsS_len r l
  have hbd := df_bd hb (r := r)
  refine L_reg [4] (fun K hK => ?_)
  simp [okFn_low]
  refine steps_ac v l r _ _ hlen hb hv (fun w H1 hO hE => ?_)
  simp [okFn_low]
  refine total_ac w _ _ _ (by omega) (fun x hx => by have := hbd x hx; omega) hO.own.ls ?_
  simp
  apply hK; clear hK K
  exact L_ret ⟨.inr rfl, _, rfl, h H1 hE⟩
end Go.Proofs.Ytpfkioakjmpimaa

/- slices.Sorted(slices.Values(l)). -/
namespace Go.Proofs.Ytpfkioakjmpimaa
open Go Go.Proofs.Ytpfkioakjmpimaa.AX
/-- All of a list is yielded. -/
theorem vals_ac (r pb : Nat) (l : List Int) (v : AV) (J : Nat → AH → Prop) (H : AH) (Q : AV → AH → Prop) (hlen : l.length ≤ 1000000) (hpb : ld H pb 0 0 = some v) (hJ : ∀ i H', J i H' → Ls H' v l)
    (hs : ∀ i (hi : i < l.length) H', J i H' → AYld Try.prog r [.int .i64 l[i]] H' fun u H2 => u = .bool true ∧ J (i + 1) H2) (h0 : J 0 H) (h : ∀ H', J l.length H' → Q (.tuple []) H') : AC Try.prog 88 [.yld r, .ptr pb 0 0] H Q := by
  obtain ⟨r2, off, ver, sz, full, rfl, -⟩ := hJ _ _ h0
  refine L_body 16 Try.func88 rfl rfl ?_
  refine L_reg [0, 5, 6, 7] (fun K hK => ?_)
  simp [hpb]
  apply hK; clear hK K
  refine L_block (L_loopV [7] (fun k vs H' => ∃ i : Nat, k = l.length - i ∧ i ≤ l.length ∧ vs = [.int .i64 i] ∧ J i H') _ [.int .i64 0] rfl ⟨0, rfl, by omega, rfl, h0⟩ ?_)
  rintro k _ H1 ⟨i, rfl, hi, rfl, hk1⟩
  refine L_reg [0, 5, 6, 7, 8] (fun K hK => ?_)
  simp
  apply hK; clear hK K
  refine L_dec (i < l.length) (by simp) (fun hlt => ?_) (fun hge => L_exit ?_)
  · refine L_block ?_
    obtain ⟨r2', off', ver', sz', full', he, hld⟩ := hJ _ _ hk1
    cases he
    obtain ⟨r3, rfl, rfl, hrd⟩ := hld i hlt
    refine L_reg [0, 4, 5, 6, 7] (fun K hK => ?_)
    simp [hrd, hlt]
    apply hK; clear hK K
    refine L_reg [0, 5, 6, 7, 14] (fun K hK => ?_)
    simp
    refine (hs i hlt H1 hk1).mono ?_
    rintro u H2 ⟨rfl, hJ2⟩
    simp
    apply hK; clear hK K
    refine L_false rfl ?_
    refine L_reg [0, 5, 6, 7] (fun K hK => ?_)
    simp [wrap_i64 (a := (i : Int) + 1) (by omega)]
    apply hK; clear hK K
    exact ⟨l.length - (i + 1), [.int .i64 (i + 1 : Nat)], by omega, by simp, i + 1, rfl, by omega, rfl, hJ2⟩
  · have : i = l.length := by omega
    subst this
    exact ⟨.inl rfl, _, rfl, h _ hk1⟩
theorem values_ac (v : AV) (hv : v.one = true) (H : AH) (Q : AV → AH → Prop) (h : Q (.func (.func 88) [] [.ptr H.length 0 0]) (H ++ [.row [v] 0 0 false])) : AC Try.prog 47 [v] H Q := by
  refine L_body 4 Try.func47 rfl rfl ?_
  have h1 : v.isU = false := by cases v <;> first | rfl | (simp [AV.one] at hv)
  have h2 : acells v = [v] := by cases v <;> first | rfl | (simp [AV.one] at hv)
  refine L_reg [1] (fun K hK => ?_)
  simp [h1, h2]
  apply hK; clear hK K
  refine L_reg [2] (fun K hK => ?_)
  simp
  apply hK; clear hK K
  exact L_ret ⟨.inr rfl, _, rfl, h⟩
theorem OwnF.offs {N p : Nat} {H : AH} {v : AV} {l : List AV} (h : OwnF N H v l) (hp : p < N) (o : AObj) : OwnF N (H.set p o) v l := by
  rcases h with h | ⟨r, ver, st, g1, g2, g3⟩
  · exact .inl h
  · exact .inr ⟨r, ver, st, g1, g2, by rw [set_ne (by omega)]; exact g3⟩
theorem ext_take (H : AH) (N : Nat) (h : N ≤ H.length) : Ext (H.take N) H := ⟨by simp; omega, fun j hj => by simp at hj; rw [List.getElem?_take_of_lt (by omega)]⟩
set_option maxRecDepth 100000 in
/-- The values of a list, appended to nothing. -/
theorem AppendSeq_ac (l : List Int) (v : AV) (pb : Nat) (H : AH) (Q : AV → AH → Prop) (hlen : l.length ≤ 1000) (hpb : H[pb]? = some (.row [v] 0 0 false)) (hv : Ls H v l)
    (h : ∀ u H', OwnF H.length H' u (l.map (.int .i64)) → Ext H H' → Q u H') : AC Try.prog 105 [.slice none 0 0 0 1 false, .func (.func 88) [] [.ptr pb 0 0]] H Q := by
  refine L_body 13 Try.func105 rfl rfl ?_
  refine L_reg [1, 2, 5] (fun K hK => ?_)
  simp [AV.isU, acells]
  apply hK; clear hK K
  have hE := Ext.push H [AObj.row [.slice none 0 0 0 1 false] 0 0 false]
  have r1 : (H ++ [AObj.row [.slice none 0 0 0 1 false] 0 0 false])[H.length]? = some (.row [.slice none 0 0 0 1 false] 0 0 false) := by simp
  have hlt1 : (H ++ [AObj.row [.slice none 0 0 0 1 false] 0 0 false]).length = H.length + 1 := by simp
  generalize H ++ [AObj.row [.slice none 0 0 0 1 false] 0 0 false] = H3 at hE r1 hlt1 ⊢
  generalize hp : H.length = p at *
  refine L_reg [2, 5, 6] (fun K hK => ?_)
  simp
  apply hK; clear hK K
  refine L_block (L_range [2, 5] rfl (okFn_low (by omega) (by omega)) ?_)
  generalize hL : (⟨13, _, _, _, _⟩ : LR) = L
  have hnt : L.nt = 13 := by rw [← hL]
  have hps : L.ps = #[7] := by rw [← hL]
  have hass := congrArg LR.assign hL.symm
  have he : L.e = [(2, .ptr p 0 0)] := by rw [← hL]; rfl
  have hbody := congrArg LR.body hL.symm
  clear hL
  have hr0 : (H3 ++ [AObj.loop .ready .normal L])[H3.length]? = some (.loop .ready .normal L) := by simp
  have hin : ∀ j, j < H3.length → (H3 ++ [AObj.loop .ready .normal L])[j]? = H3[j]? := fun j hj => List.getElem?_append_left hj
  have hpb3 := hE.row hpb
  have hpbl : pb < p := by rw [← hp]; exact (List.getElem?_eq_some_iff.1 hpb).1
  have hvL : ∀ H' : AH, H3.length < H'.length → (∀ j, j < H3.length → j ≠ p → H'[j]? = H3[j]?) → Ext H H' := fun H' h1 h2 => ⟨by omega, fun j hj => by rw [h2 j (by omega) (by omega), hE.2 j (by omega)]⟩
  have hkv : known [v][0]? = some v := by obtain ⟨r2, off, ver, sz, full, rfl, -⟩ := hv; rfl
  refine vals_ac H3.length pb l v (fun i H' => i ≤ l.length ∧ H3.length < H'.length ∧ (∃ u, H'[p]? = some (.row [u] 0 0 false) ∧ OwnF (H3.length + 1) H' u ((l.take i).map (.int .i64))) ∧
      (∀ j, j < H3.length → j ≠ p → H'[j]? = H3[j]?) ∧ H'[H3.length]? = some (.loop .ready .normal L)) _ _ (by omega) (by rw [ld_row ((hin pb (by omega)).trans hpb3)]; exact hkv) ?_ ?_ ?_ ?_
  · rintro i H' ⟨g1, g2, g3, g4, g5⟩
    exact hv.ext (hvL H' g2 g4)
  · rintro i hi H' ⟨g1, g2, ⟨u, g3, g3'⟩, g4, g5⟩
    refine AYld_mkA g5 (by rw [hps]; rfl) (by rw [hps, hnt]; simp) ?_
    rw [hnt, hps, he, hass]
    refine L_reg [2, 5] (fun K hK => ?_)
    simp [psEnv]
    apply hK; clear hK K
    refine ⟨rfl, .normal, L, g5, ?_⟩
    rw [hbody]
    generalize hHb : H'.set H3.length (.loop .busy .normal L) = Hb
    have hOff : ∀ j, j ≠ H3.length → Hb[j]? = H'[j]? := fun j hj => by rw [← hHb, set_ne (Ne.symm hj)]
    have hlb : Hb.length = H'.length := by rw [← hHb]; simp
    have c0 : Hb[p]? = _ := (hOff _ (by omega)).trans g3
    have br : Hb[H3.length]? = some (.loop .busy .normal L) := by rw [← hHb, List.getElem?_set_self (by omega)]
    have hO0 : OwnF (Hb.take (H3.length + 1)).length Hb u ((l.take i).map (.int .i64)) := by
      rw [List.length_take, Nat.min_eq_left (by omega)]
      rcases g3' with g | ⟨r, ver, st, k1, k2, k3⟩
      · exact .inl g
      · exact .inr ⟨r, ver, st, k1, k2, by rw [hOff _ (by omega)]; exact k3⟩
    obtain ⟨u', H4, happ, hO4, hE4⟩ := ownF_append (ext_take Hb (H3.length + 1) (by omega)) el22 el22 (x := .int .i64 l[i]) (m := 1) hO0 rfl (by simp; omega)
    have hlt4 : (Hb.take (H3.length + 1)).length = H3.length + 1 := by rw [List.length_take, Nat.min_eq_left (by omega)]
    rw [hlt4] at hO4
    have hk4 : ∀ j, j < H3.length + 1 → H4[j]? = Hb[j]? := fun j hj => by rw [hE4.2 j (by omega), List.getElem?_take_of_lt hj]
    have hl4 : H3.length + 1 ≤ H4.length := by have := hE4.1; omega
    have c4 := (hk4 p (by omega)).trans c0
    obtain ⟨ru, verU, hu⟩ := hO4.len
    obtain ⟨ru0, verU0, hu0⟩ := hO0.len
    have hst := store_row (P := Try.prog) (u := 22) (p := 0) sc22 (x := u') (y := u) (by rw [hu]; rfl) c4 (by rw [hu0]; rfl)
    have e1 : ld Hb p 0 0 = some u := by rw [ld_row c0, hu0]; rfl
    refine L_block ?_
    refine L_reg [] (fun K hK => ?_)
    simp [e1, happ, hst]
    apply hK; clear hK K
    refine ⟨.busy, .normal, L, by rw [set_ne (by omega), hk4 _ (by omega)]; exact br, rfl, by omega, by simp; omega, ⟨u', ?_, ?_⟩, fun j hj1 hj2 => ?_, ?_⟩
    · rw [set_ne (by omega), get_set c4]
    · rw [show l.take (i + 1) = l.take i ++ [l[i]] by rw [List.take_append_getElem]]
      rw [List.map_append]
      exact OwnF.offs (OwnF.offs hO4 (by omega) _) (by omega) _
    · rw [set_ne (by omega), set_ne (by omega), hk4 j (by omega), hOff _ (by omega), g4 _ hj1 hj2]
    · simp only [if_true]
      rw [List.getElem?_set_self (by simp; omega)]
  · refine ⟨by omega, by simp, ⟨_, (hin _ (by omega)).trans r1, .nil _ _⟩, fun j h1 _ => hin j h1, hr0⟩
  · rintro H' ⟨g1, g2, ⟨u, g3, g3'⟩, g4, g5⟩
    refine ⟨.ready, .normal, L, g5, by simp, ?_⟩
    show AWL _ _ _ _ _ _
    obtain ⟨ru, verU, hu⟩ := g3'.len
    have k0 : (H'.set H3.length (.loop .exhausted .normal L))[p]? = _ := (set_ne (by omega)).trans g3
    have e1 : ld (H'.set H3.length (.loop .exhausted .normal L)) p 0 0 = some u := by rw [ld_row k0, hu]; rfl
    refine L_reg [4] (fun K hK => ?_)
    simp [e1]
    apply hK; clear hK K
    rw [List.take_length] at g3'
    exact L_ret ⟨.inr rfl, _, rfl, h u _ ((OwnF.offs g3' (by omega) _).mono (by omega)) ((hvL H' g2 g4).set _ (by omega))⟩
theorem Collect_ac (l : List Int) (v : AV) (pb : Nat) (H : AH) (Q : AV → AH → Prop) (hlen : l.length ≤ 1000) (hpb : H[pb]? = some (.row [v] 0 0 false)) (hv : Ls H v l)
    (h : ∀ u H', OwnF H.length H' u (l.map (.int .i64)) → Ext H H' → Q u H') : AC Try.prog 86 [.func (.func 88) [] [.ptr pb 0 0]] H Q := by
  refine L_body 5 Try.func86 rfl rfl ?_
  refine L_reg [0] (fun K hK => ?_)
  simp
  apply hK; clear hK K
  refine L_reg [2] (fun K hK => ?_)
  simp [okFn_low]
  refine AppendSeq_ac l v pb H _ hlen hpb hv (fun u H' h1 h2 => ?_)
  simp
  apply hK; clear hK K
  exact L_ret ⟨.inr rfl, _, rfl, h u H' h1 h2⟩
/-- A list of at most 127 numbers, sorted. -/
theorem Sorted_ac (l : List Int) (v : AV) (pb : Nat) (H : AH) (Q : AV → AH → Prop) (h1 : 1 ≤ l.length) (hlen : l.length ≤ 127) (hpb : H[pb]? = some (.row [v] 0 0 false)) (hv : Ls H v l)
    (h : ∀ u H' (m : List Int), m.Perm l → m.Pairwise (· ≤ ·) → OwnF H.length H' u (m.map (.int .i64)) → Ext H H' → Q u H') : AC Try.prog 46 [.func (.func 88) [] [.ptr pb 0 0]] H Q := by
  refine L_body 9 Try.func46 rfl rfl ?_
  refine L_reg [0] (fun K hK => ?_)
  simp
  apply hK; clear hK K
  refine L_reg [3] (fun K hK => ?_)
  simp [okFn_low]
  refine Collect_ac l v pb H _ (by omega) hpb hv (fun u H1 hO hE => ?_)
  simp
  apply hK; clear hK K
  rcases hO with ⟨g1, -⟩ | ⟨r, ver, st, g1, rfl, g3⟩
  · have : l = [] := by simpa using g1
    subst this; simp at h1
  rw [List.length_map]
  refine L_reg [3] (fun K hK => ?_)
  simp [okFn_low]
  refine Sort_ac (sb := false) (tl := []) r ver l l.length rfl H1 _ ⟨st, by simpa using g3⟩ (List.getElem?_eq_some_iff.1 g3).1 hlen (fun H2 m hp hs hr hK2 => ?_)
  simp
  apply hK; clear hK K
  refine L_reg [2] (fun K hK => ?_)
  simp
  apply hK; clear hK K
  obtain ⟨st2, hr⟩ := hr
  rw [List.append_nil] at hr
  have hml := hp.length_eq
  have hsort : m.Pairwise (· ≤ ·) := List.pairwise_iff_getElem.2 fun i j hi hj hij => by
    have := hs i j (by omega) hij (by omega)
    rw [g_lt hi, g_lt hj] at this
    exact this
  exact L_ret ⟨.inr rfl, _, rfl, h _ H2 m hp hsort (.inr ⟨r, ver, st2, g1, by rw [List.length_map, hml]; rfl, hr⟩) ⟨Nat.le_trans hE.1 hK2.1, fun j hj => by rw [hK2.2 j (by omega) (by have := hE.1; omega), hE.2 j hj]⟩⟩
end Go.Proofs.Ytpfkioakjmpimaa

/- The next arrangement, and the cheapest one. -/
namespace Go.Proofs.Ytpfkioakjmpimaa
open Go Go.Proofs.Ytpfkioakjmpimaa.AX

/-! ### The next arrangement, by places -/
theorem g_cons (a : Int) (l : List Int) (i : Nat) : g (a :: l) i = if i = 0 then a else g l (i - 1) := by
  cases i <;> rfl
theorem falls_far {c : List Int} {k : Nat} (h : ∀ j, k ≤ j → j + 1 < c.length → g c (j + 1) ≤ g c j) (p : Nat) (hp : k ≤ p) : ∀ d, p + d < c.length → g c (p + d) ≤ g c p
  | 0, _ => Int.le_refl _
  | d + 1, hd => by
    have h1 := falls_far h p hp d (by omega)
    have h2 := h (p + d) (by omega) (by omega)
    rw [show p + (d + 1) = p + d + 1 by omega]; omega
theorem falls_drop {c : List Int} {k : Nat} (h : ∀ j, k ≤ j → j + 1 < c.length → g c (j + 1) ≤ g c j) : (c.drop k).Pairwise (· ≥ ·) := by
  rw [List.pairwise_iff_getElem]
  intro i j hi hj hij
  rw [← g_lt hi, ← g_lt hj, g_drop, g_drop]
  simp at hi hj
  have := falls_far h (k + i) (by omega) (j - i) (by omega)
  rw [show k + i + (j - i) = k + j by omega] at this
  exact this
theorem split_at {c : List Int} {i w : Nat} (hiw : i < w) (hw : w < c.length) : c = c.take i ++ g c i :: ((c.drop (i + 1)).take (w - (i + 1)) ++ g c w :: c.drop (w + 1)) := by
  refine g_ext (by simp; omega) fun x hx => ?_
  have l1 : (c.take i).length = i := by simp; omega
  have l2 : ((c.drop (i + 1)).take (w - (i + 1))).length = w - (i + 1) := by simp; omega
  rw [g_app, l1, g_cons, g_app, l2, g_cons, g_drop]
  by_cases h1 : x < i
  · rw [if_pos h1, g_take h1]
  · rw [if_neg h1]
    by_cases h2 : x - i = 0
    · rw [if_pos h2]; congr 1; omega
    · rw [if_neg h2]
      by_cases h3 : x - i - 1 < w - (i + 1)
      · rw [if_pos h3, g_take h3, g_drop]; congr 1; omega
      · rw [if_neg h3]
        split
        · congr 1; omega
        · congr 1; omega
/-- Exchanged, and turned round behind. -/
theorem next_at {c d : List Int} {i w : Nat} (hiw : i < w) (hw : w < c.length) (hlt : g c i < g c w) (hf : ∀ j, i + 1 ≤ j → j + 1 < c.length → g c (j + 1) ≤ g c j) (hv : ∀ j, w < j → j < c.length → g c j ≤ g c i)
    (hdl : d.length = c.length) (hd : ∀ x, x < c.length → g d x = if x < i then g c x else if x = i then g c w else if c.length + i - x = w then g c i else g c (c.length + i - x)) :
    d.Perm c ∧ Arr.lx c d ∧ ∀ p, p.Perm c → Arr.lx c p → Arr.le d p := by
  have e := split_at hiw hw
  have hdr : c.drop (i + 1) = (c.drop (i + 1)).take (w - (i + 1)) ++ g c w :: c.drop (w + 1) := by
    have h1 : c.drop (i + 1) = (c.drop (i + 1)).take (w - (i + 1)) ++ (c.drop (i + 1)).drop (w - (i + 1)) := (List.take_append_drop _ _).symm
    rw [List.drop_drop, show i + 1 + (w - (i + 1)) = w by omega, List.drop_eq_getElem_cons hw, ← g_lt hw] at h1
    exact h1
  have hF := falls_drop hf
  rw [hdr] at hF
  have hV : ∀ y ∈ c.drop (w + 1), y ≤ g c i := fun y hy => by
    obtain ⟨j, hj, rfl⟩ := memg hy
    simp at hj
    rw [g_drop]; exact hv _ (by omega) (by omega)
  have l1 : (c.take i).length = i := by simp; omega
  have l2 : ((c.drop (i + 1)).take (w - (i + 1))).length = w - (i + 1) := by simp; omega
  have ed : d = c.take i ++ g c w :: ((c.drop (i + 1)).take (w - (i + 1)) ++ g c i :: c.drop (w + 1)).reverse := by
    have hR : ((c.drop (i + 1)).take (w - (i + 1)) ++ g c i :: c.drop (w + 1)).length = c.length - (i + 1) := by simp; omega
    refine g_ext (by rw [hdl, List.length_append, List.length_cons, List.length_reverse, hR, l1]; omega) fun x hx => ?_
    rw [hdl] at hx
    rw [hd x hx, g_app, l1, g_cons]
    by_cases h1 : x < i
    · rw [if_pos h1, if_pos h1, g_take h1]
    · rw [if_neg h1, if_neg h1]
      by_cases h2 : x = i
      · rw [if_pos h2, if_pos (by omega)]
      · rw [if_neg h2, if_neg (show ¬ x - i = 0 by omega), g_rev (by omega), hR, g_app, l2, g_cons]
        by_cases h3 : c.length + i - x = w
        · rw [if_pos h3, if_neg (by omega), if_pos (by omega)]
        · rw [if_neg h3]
          by_cases h4 : c.length + i - x < w
          · rw [if_pos (by omega), g_take (by omega), g_drop]; congr 1; omega
          · rw [if_neg (by omega), if_neg (by omega), g_drop]; congr 1; omega
  rw [ed]
  generalize c.take i = pre at *
  generalize (c.drop (i + 1)).take (w - (i + 1)) = u at *
  generalize c.drop (w + 1) = v at *
  generalize g c i = a at *
  generalize g c w = z at *
  rw [e]
  exact ⟨Arr.next_is, Arr.next_gt hlt, fun p hp hl => Arr.next_perm hF hlt hV hp hl⟩
theorem falls_all {c : List Int} (h : ∀ j, j + 1 < c.length → g c (j + 1) ≤ g c j) : c.Pairwise (· ≥ ·) := by
  have := falls_drop (c := c) (k := 0) fun j _ hj => h j hj
  rwa [List.drop_zero] at this
def NextOf (c d : List Int) : Prop := d.Perm c ∧ Arr.lx c d ∧ ∀ p, p.Perm c → Arr.lx c p → Arr.le d p
set_option maxRecDepth 100000 in
theorem advance_ac (r ver n : Nat) (c : List Int) (hn : c.length = n) (h1 : 1 ≤ n) (hlen : n ≤ 1000000) (H : AH) (Q : AV → AH → Prop) (hr : Rw r ver H c)
    (ht : ∀ H' d, NextOf c d → Rw r ver H' d → KeepX r H H' → Q (.bool true) H') (hf : c.Pairwise (· ≥ ·) → Q (.bool false) H) : AC Try.prog 99 [.slice (some r) 0 n ver 1 false] H Q := by
  subst hn
  refine L_body 59 Try.func99 rfl rfl ?_
  refine L_reg [0] (fun K hK => ?_)
  simp
  apply hK; clear hK K
  refine L_reg [0, 3] (fun K hK => ?_)
  simp [wrap_i64 (a := (c.length : Int) - 2) (by omega)]
  apply hK; clear hK K
  refine L_block (L_loopV [3] (fun m vs H' => ∃ k : Nat, m = k ∧ k + 1 ≤ c.length ∧ (∀ j, k ≤ j → j + 1 < c.length → g c (j + 1) ≤ g c j) ∧ vs = [.int .i64 ((k : Int) - 1)] ∧ H = H') _ [.int .i64 ((c.length : Int) - 2)] rfl ⟨c.length - 1, rfl, by omega, fun j h1 h2 => by omega, by rw [show ((c.length - 1 : Nat) : Int) - 1 = (c.length : Int) - 2 by omega], rfl⟩ ?_)
  rintro k _ _ ⟨_, rfl, hk, hfal, rfl, rfl⟩
  by_cases hk0 : k = 0
  · subst hk0
    have e0 : decide ((0 : Int) ≤ ((0 : Nat) : Int) - 1) = false := by decide
    refine L_regT mixed [0, 3, 21] (by kernel_rfl) (fun K hK => ?_)
    simp [pickV]
    apply hK; clear hK K
    refine L_false rfl ?_
    refine L_exit ?_
    refine L_reg [0, 3, 25] (fun K hK => ?_)
    simp
    apply hK; clear hK K
    refine L_true (by simp) ?_
    refine L_reg [2] (fun K hK => ?_)
    simp
    apply hK; clear hK K
    exact L_ret ⟨.inr rfl, _, rfl, hf (falls_all fun j hj => hfal j (by omega) hj)⟩
  obtain ⟨i, rfl⟩ : ∃ i, k = i + 1 := ⟨k - 1, by omega⟩
  have ei : ((i + 1 : Nat) : Int) - 1 = (i : Int) := by omega
  rw [ei]
  have hx := hr.ld (i := i) (by omega)
  have hy := hr.ld (i := i + 1) (by omega)
  have e1 : (i : Int) + 1 = ((i + 1 : Nat) : Int) := by omega
  have hi1 : i < c.length := by omega
  have hi2 : (i : Int) + 1 < (c.length : Int) := by omega
  have hi3 : ((i : Int) + 1).toNat = i + 1 := by omega
  have hi0 : (0 : Int) ≤ (i : Int) + 1 := by omega
  refine L_regT mixed [0, 3, 21] (by kernel_rfl) (fun K hK => ?_)
  simp [pickV, hi1, hi2, hi3, hi0, hx, hy, wrap_i64 (a := (i : Int) + 1) (by omega)]
  apply hK; clear hK K
  refine L_dec (g c (i + 1) ≤ g c i) rfl (fun hle => ?_) (fun hgt => L_exit ?_)
  · refine L_block ?_
    refine L_reg [0, 3] (fun K hK => ?_)
    simp [wrap_i64 (a := (i : Int) - 1) (by omega)]
    apply hK; clear hK K
    refine ⟨i, [.int .i64 ((i : Int) - 1)], by omega, by simp, i, rfl, by omega, fun j h2 h3 => ?_, rfl, rfl⟩
    rcases Nat.lt_or_eq_of_le h2 with e | rfl
    · exact hfal j (by omega) h3
    · exact hle
  · refine L_reg [0, 3, 25] (fun K hK => ?_)
    simp
    apply hK; clear hK K
    refine L_false (by simp) ?_
    refine L_reg [0, 3, 4] (fun K hK => ?_)
    simp [wrap_i64 (a := (c.length : Int) - 1) (by omega)]
    apply hK; clear hK K
    refine L_block (L_loopV [4] (fun m vs H' => ∃ w : Nat, m = w ∧ i < w ∧ w < c.length ∧ (∀ j, w < j → j < c.length → g c j ≤ g c i) ∧ vs = [.int .i64 (w : Int)] ∧ H = H') _ [.int .i64 ((c.length : Int) - 1)] rfl ⟨c.length - 1, rfl, by omega, by omega, fun j h1 h2 => by omega, by rw [show ((c.length - 1 : Nat) : Int) = (c.length : Int) - 1 by omega], rfl⟩ ?_)
    rintro w _ _ ⟨_, rfl, hiw, hw, hv, rfl, rfl⟩
    have hz := hr.ld (i := w) hw
    refine L_regT mixed [0, 3, 4, 37] (by kernel_rfl) (fun K hK => ?_)
    simp [hi1, hw, hx, hz]
    apply hK; clear hK K
    refine L_dec (g c w ≤ g c i) rfl (fun hle => ?_) (fun hgt2 => L_exit ?_)
    · refine L_block ?_
      have hne : w ≠ i + 1 := by rintro rfl; omega
      refine L_reg [0, 3, 4] (fun K hK => ?_)
      simp [wrap_i64 (a := (w : Int) - 1) (by omega)]
      apply hK; clear hK K
      refine ⟨w - 1, [.int .i64 ((w - 1 : Nat) : Int)], by omega, by rw [show ((w - 1 : Nat) : Int) = (w : Int) - 1 by omega]; simp, w - 1, rfl, by omega, by omega, fun j h2 h3 => ?_, rfl, rfl⟩
      rcases Nat.lt_or_ge w j with e | e
      · exact hv j e h3
      · rw [show j = w by omega]; exact hle
    · obtain ⟨H2, H3, s1, s2, s3, s4⟩ := hr.swap (i := i) (j := w) hi1 hw
      refine L_regT mixed [0, 3] (by kernel_rfl) (fun K hK => ?_)
      simp [hi1, hw, hx, hz, s1, s2]
      apply hK; clear hK K
      have hsl : aSlice Try.prog 22 (.slice (some r) 0 c.length ver 1 false) (some (.int .i64 ((i : Int) + 1))) none none = some (SV false r (i + 1) (c.length - (i + 1)) ver) := by
        rw [slice_sl slz22]
        have hb : aBounds c.length (some (.int .i64 ((i : Int) + 1))) none none = some (i + 1, c.length, c.length) := by
          have hi4 : ¬ ((i : Int) + 1 ≤ 0) := by omega
          simp [aBounds, aBound, hi0, hi3, show (i : Int) + 1 ≤ (c.length : Int) by omega]
        simp [hb, SV]
      refine L_reg [] (fun K hK => ?_)
      simp [okFn_low, wrap_i64 (a := (i : Int) + 1) (by omega), hsl]
      refine Reverse_ac false r (i + 1) (c.length - (i + 1)) ver (sw c i w) _ _ s3 (by rw [sw_len]; omega) (by rw [sw_len]; omega) (fun H4 d d1 d2 d3 d4 => ?_)
      simp
      apply hK; clear hK K
      refine L_reg [2] (fun K hK => ?_)
      simp
      apply hK; clear hK K
      rw [sw_len] at d1 d2
      have hnx := next_at (d := d) hiw hw (by omega) (fun j h2 h3 => hfal j h2 h3) hv d1 (fun x hx => by
        rw [d2 x hx]
        by_cases c1 : x < i
        · rw [if_neg (by omega), if_pos c1, sw_o hi1 hw (by omega) (by omega)]
        · rw [if_neg c1]
          by_cases c2 : x = i
          · rw [if_pos c2, if_neg (by omega), c2, sw_i hi1 hw]
          · rw [if_neg c2, if_pos (by omega), show 2 * (i + 1) + (c.length - (i + 1)) - 1 - x = c.length + i - x by omega]
            by_cases c3 : c.length + i - x = w
            · rw [if_pos c3, c3, sw_j hi1 hw]
            · rw [if_neg c3, sw_o hi1 hw (by omega) c3])
      exact L_ret ⟨.inr rfl, _, rfl, ht H4 d hnx d3 (s4.trans d4)⟩
@[simp] theorem s_isc_copy (xs : Array Operand) (ts : Array TypeId) : isFnCall (.call ⟨.builtin .copy, xs, ts⟩) = false := rfl
@[simp] theorem x_copy {P : Program} {H : AH} {ρ : Operand → AV} (x y : Operand) (t u : TypeId) : execN P ρ H (.call ⟨.builtin .copy, #[x, y], #[t, u]⟩) = appV (aCopy P H t (ρ x) (ρ y)) := by
  have : execN P ρ H (.call ⟨.builtin .copy, #[x, y], #[t, u]⟩) = (aCopy P H t (ρ x) (ρ y)).map fun p => (some p.1, p.2) := rfl
  rw [this]
  cases aCopy P H t (ρ x) (ρ y) <;> rfl
theorem takeKnown_is (l : List Int) : takeKnown l.length (l.map (AV.int .i64)) = some (l.map (AV.int .i64)) := by
  induction l with
  | nil => rfl
  | cons a l ih => simp only [List.map_cons, List.length_cons, takeKnown, ih]
theorem copy_rw {H : AH} {r ver : Nat} {v : AV} {c l : List Int} (hw : Rw r ver H c) (hv : Ls H v l) (hl : l.length = c.length) (h1 : 1 ≤ c.length) :
    ∃ H', aCopy Try.prog H 22 (.slice (some r) 0 c.length ver 1 false) v = some (.int .i64 c.length, H') ∧ Rw r ver H' l ∧ KeepX r H H' := by
  obtain ⟨st, hw⟩ := hw
  obtain ⟨e, I, h1', h2, h3, h4, -⟩ := elT_some el22
  obtain ⟨i, z, g1, g2, g3, -⟩ := (tiOf_some h2).2
  obtain ⟨r0, off, ver0, sz, full, rfl, hld⟩ := hv
  have hlw : r < H.length := (List.getElem?_eq_some_iff.1 hw).1
  obtain ⟨r', rfl, rfl, -⟩ := hld 0 (by omega)
  have hl2 : ldn H r' ver0 l.length off = some (l.map (.int .i64)) := ldn_ints fun i hi => by
    obtain ⟨r2, e1, -, e3⟩ := hld i hi
    obtain rfl := Option.some.inj e1
    exact e3
  have hone := all_ints l
  have hst : stn H r ver (l.map (.int .i64)) 0 = some (H.set r (.row (l.map (.int .i64)) ver (min st 0) false)) := by
    have hk := takeKnown_is c
    cases l with
    | nil => simp at hl; omega
    | cons y l =>
      simp only [List.map_cons] at hone ⊢
      simp only [stn, hw, List.drop_zero, List.length_cons, List.length_map] at hk ⊢
      simp only [List.length_cons] at hl
      rw [hl]
      rw [if_pos ⟨trivial, trivial, hone, by rw [hk]; rfl⟩]
      rw [List.drop_of_length_le (by simp)]
      try simp
  refine ⟨_, ?_, ⟨min st 0, get_set hw⟩, (KeepX.refl r H).set _⟩
  have e1 : i.size = 1 := by rw [g3, h3]
  simp only [aCopy, h1', g1, isNilSl, slParts, Bool.false_and, Bool.false_eq_true, if_false, hl, Nat.min_self, e1, Nat.mul_one]
  rw [if_neg (by omega), if_pos ⟨trivial, trivial⟩, ← hl, hl2, Option.bind_some, if_pos hone, hst]
  rfl
/-- append([]int{}, x...) -/
theorem copy_append {P : Program} {H : AH} {t u : TypeId} (ht : elT P t = true) (hu : elT P u = true) {x : AV} {m : List Int} (hx : Ls H x m) (hm : m.length ≤ 16777216) :
    ∃ v' H', aAppend P (H ++ [.row [] 0 0 false]) t u (.slice (some H.length) 0 0 0 1 false) x = some (v', H') ∧ OwnF H.length H' v' (m.map (.int .i64)) ∧ Ext H H' := by
  have := ownF_appendL (H0 := H) (.push H [.row [] 0 0 false]) ht hu (ownF_new H) (hx.ext (.push _ _)) (l := []) (by simpa using hm)
  simpa using this
theorem eq_nil {l : Bool} (r : Option Nat) (off n ver sz : Nat) (full : Bool) : binV Try.prog .eql 22 l (.slice r off n ver sz full) (.slice none 0 0 0 1 false) = some (.bool r.isNone) := by
  simp [binV, aBin, aCmp]
theorem Clone_ac (v : AV) (l : List Int) (H : AH) (Q : AV → AH → Prop) (hlen : l.length ≤ 1000000) (hv : Ls H v l) (h : ∀ v' H', OwnF H.length H' v' (l.map (.int .i64)) → Ext H H' → Q v' H') : AC Try.prog 52 [v] H Q := by
  obtain ⟨r0, off0, ver0, sz0, full0, hv0, hld⟩ := id hv
  refine L_body 8 Try.func52 rfl rfl ?_
  refine L_reg [0] (fun K hK => ?_)
  simp
  apply hK; clear hK K
  cases r0 with
  | none =>
    have hl0 : l = [] := by
      cases l with
      | nil => rfl
      | cons a l => obtain ⟨r', e, -⟩ := hld 0 (by simp); cases e
    refine L_reg [0, 4] (fun K hK => ?_)
    simp [hv0, eq_nil]
    apply hK; clear hK K
    refine L_true rfl ?_
    refine L_reg [2] (fun K hK => ?_)
    simp
    apply hK; clear hK K
    subst hl0
    exact L_ret ⟨.inr rfl, _, rfl, h _ _ (.nil _ _) (.refl _)⟩
  | some r0 =>
    obtain ⟨v', H', happ, hO, hE⟩ := copy_append (P := Try.prog) el22 el22 hv (by omega)
    rw [hv0] at happ
    refine L_reg [0, 4] (fun K hK => ?_)
    simp [hv0, eq_nil]
    apply hK; clear hK K
    refine L_false rfl ?_
    refine L_reg [2] (fun K hK => ?_)
    simp [happ]
    apply hK; clear hK K
    exact L_ret ⟨.inr rfl, _, rfl, h v' H' hO hE⟩
set_option maxRecDepth 100000 in
theorem cheapest_ac (v : AV) (l : List Int) (f : FuncId) (caps : List AV) (cost : List Int → Int) (H : AH) (Q : AV → AH → Prop) (h1 : 1 ≤ l.length) (hlen : l.length ≤ 127) (hv : Ls H v l) (hok : okFn Try.prog f = true)
    (hC : ∀ (H' : AH) (v' : AV) (p : List Int) (Q : AV → AH → Prop), Ext H H' → p.Perm l → Ls H' v' p → Q (.int .i64 (cost p)) H' → AC Try.prog f (v' :: caps) H' Q)
    (h : ∀ v' H', OwnF H.length H' v' ((Arr.bestS cost l).map (.int .i64)) → Ext H H' → Q v' H') : AC Try.prog 70 [v, .func (.func f) [] caps] H Q := by
  obtain ⟨r0, off0, ver0, sz0, full0, hv0, -⟩ := id hv
  refine L_body 30 Try.func70 rfl rfl ?_
  refine L_reg [0, 1] (fun K hK => ?_)
  simp
  apply hK; clear hK K
  have hone : v.one = true := by rw [hv0]; rfl
  refine L_reg [1, 5] (fun K hK => ?_)
  simp [okFn_low]
  refine values_ac v hone _ _ ?_
  simp [okFn_low]
  refine Sorted_ac l v H.length _ _ h1 hlen (by simp) (hv.ext (.push _ _)) (fun u H1 m hp hs hO hE => ?_)
  simp
  apply hK; clear hK K
  have hE1 : Ext H H1 := (Ext.push _ _).trans hE
  have hml := hp.length_eq
  rcases hO with ⟨g1, -⟩ | ⟨ra, va, sa, g1, rfl, g3⟩
  · have : m = [] := by simpa using g1
    subst this; simp at hml; omega
  simp only [List.length_append, List.length_singleton] at g1
  rw [List.length_map, hml]
  have hA : Rw ra va H1 m := ⟨sa, g3⟩
  have hAl := hA.ls
  rw [hml] at hAl
  refine L_reg [1, 5, 6, 7] (fun K hK => ?_)
  simp [okFn_low]
  refine Clone_ac _ m _ _ (by omega) hAl (fun w H2 hO2 hE2 => ?_)
  simp [hok]
  refine hC H2 _ m _ (hE1.trans hE2) hp (hAl.ext hE2) ?_
  simp
  apply hK; clear hK K
  rcases hO2 with ⟨g4, -⟩ | ⟨rb, vb, sb, g4, rfl, g5⟩
  · have : m = [] := by simpa using g4
    subst this; simp at hml; omega
  rw [List.length_map, hml]
  have hab : ra ≠ rb := by have := (List.getElem?_eq_some_iff.1 g3).1; omega
  refine L_block (L_loopK [1, 5, 6, 7] [7] (fun n vs H' => ∃ cur b, n = Arr.left l cur ∧ Arr.Seen cost l cur b ∧ vs = [.int .i64 (cost b)] ∧ Rw ra va H' cur ∧ Rw rb vb H' b ∧ Ext H H') _ [.int .i64 (cost m)] rfl rfl ⟨m, m, rfl, Arr.Seen.start hp hs, rfl, hA.ext hE2, ⟨sb, g5⟩, hE1.trans hE2⟩ ?_)
  rintro n _ H3 ⟨cur, b, rfl, hS, rfl, hA3, hB3, hE3⟩
  have hcl := hS.cp.length_eq
  have hbl := hS.bp.length_eq
  refine L_reg [1, 5, 6, 7, 18] (fun K hK => ?_)
  simp [okFn_low]
  refine advance_ac ra va l.length cur hcl h1 (by omega) H3 _ hA3 (fun H4 d hnx hA4 hK4 => ?_) (fun hfl => ?_)
  · simp
    apply hK; clear hK K
    refine L_true rfl ?_
    refine L_block ?_
    have hE4 : Ext H H4 := hK4.new hE3 (by omega)
    have hdp : d.Perm l := hnx.1.trans hS.cp
    have hB4 := hB3.keep hK4 hab.symm
    have hdl := hdp.length_eq
    have hA4l := hA4.ls
    rw [hdl] at hA4l
    have hS4 := hS.next hdp hnx.2.1 (fun p hp => hnx.2.2 p (hp.trans hS.cp.symm))
    have hlt := Arr.left_lt hdp hnx.2.1
    refine L_reg [1, 5, 6, 7, 8] (fun K hK => ?_)
    simp [hok]
    refine hC H4 _ d _ hE4 hdp hA4l ?_
    simp
    apply hK; clear hK K
    refine L_reg [1, 5, 6, 7, 8, 24] (fun K hK => ?_)
    simp
    apply hK; clear hK K
    refine L_dec (cost d < cost b) rfl (fun hc => ?_) (fun hc => ?_)
    · rw [if_pos hc] at hS4
      refine L_reg [1, 5, 6, 7] (fun K hK => ?_)
      simp
      apply hK; clear hK K
      obtain ⟨H5, e1, e2, e3⟩ := copy_rw hB4 hA4l (by omega) (by omega)
      rw [hbl] at e1
      refine L_reg [1, 5, 6, 7] (fun K hK => ?_)
      simp [e1]
      apply hK; clear hK K
      refine ⟨_, [.int .i64 (cost d)], hlt, rfl, d, d, rfl, hS4, rfl, hA4.keep e3 hab, e2, e3.new hE4 (by have := hE1.1; omega)⟩
    · rw [if_neg hc] at hS4
      exact ⟨_, [.int .i64 (cost b)], hlt, rfl, d, b, rfl, hS4, rfl, hA4, hB4, hE4⟩
  · simp
    apply hK; clear hK K
    refine L_false rfl ?_
    refine L_exit ?_
    refine L_reg [4] (fun K hK => ?_)
    simp
    apply hK; clear hK K
    have hb := hS.done hfl
    have hO := hB3.ownF (N := H.length) (by have := hE1.1; omega)
    rw [hbl] at hO
    rw [hb] at hO
    exact L_ret ⟨.inr rfl, _, rfl, h _ H3 hO hE3⟩
end Go.Proofs.Ytpfkioakjmpimaa

/- Boxes, as the program makes them: Step, Sum, Least, Box, Why, Proves, Most, Wide. -/
namespace Go.Proofs.Ytpfkioakjmpimaa
open Go Go.Proofs.Ytpfkioakjmpimaa.AX

/-- The first place of a number in a list, or -1. -/
def idx (x : Int) : List Int → Int
  | [] => -1
  | y :: l => if x = y then 0 else (if idx x l = -1 then -1 else idx x l + 1)
theorem idx_ge (x : Int) : ∀ l, -1 ≤ idx x l
  | [] => by simp [idx]
  | y :: l => by
    have := idx_ge x l
    simp only [idx]
    split
    · omega
    · split <;> omega
theorem idx_drop {x : Int} {l : List Int} {i : Nat} (hi : i < l.length) (hne : g l i ≠ x) : idx x (l.drop i) = if idx x (l.drop (i + 1)) = -1 then -1 else idx x (l.drop (i + 1)) + 1 := by
  rw [List.drop_eq_getElem_cons hi, ← g_lt hi]
  simp only [idx]
  rw [if_neg (fun e => hne e.symm)]
theorem idx_here {x : Int} {l : List Int} {i : Nat} (hi : i < l.length) (h : g l i = x) : idx x (l.drop i) = 0 := by
  rw [List.drop_eq_getElem_cons hi, ← g_lt hi]
  simp only [idx]
  rw [if_pos h.symm]
/-- The same, from a place on. -/
def off (i : Nat) (y : Int) : Int := if y = -1 then -1 else i + y
theorem off_step {x : Int} {l : List Int} {i : Nat} (hi : i < l.length) (hne : g l i ≠ x) : off i (idx x (l.drop i)) = off (i + 1) (idx x (l.drop (i + 1))) := by
  rw [idx_drop hi hne]
  have := idx_ge x (l.drop (i + 1))
  unfold off
  generalize idx x (l.drop (i + 1)) = y at *
  by_cases h : y = -1
  · simp [h]
  · rw [if_neg h, if_neg h, if_neg (by omega)]; omega
theorem Index_ac (v : AV) (l : List Int) (x : Int) (H : AH) (Q : AV → AH → Prop) (hlen : l.length ≤ 1000000) (hv : Ls H v l) (h : Q (.int .i64 (idx x l)) H) : AC Try.prog 72 [v, .int .i64 x] H Q := by
  obtain ⟨r, of, ver, sz, full, rfl, hld⟩ := hv
  refine L_body 19 Try.func72 rfl rfl ?_
  refine L_reg [0, 1] (fun K hK => ?_)
  simp
  apply hK; clear hK K
  refine L_reg [0, 1, 7, 8] (fun K hK => ?_)
  simp
  apply hK; clear hK K
  refine L_block (L_loopV [8] (fun n vs H' => ∃ i : Nat, n = l.length - i ∧ i ≤ l.length ∧ off i (idx x (l.drop i)) = idx x l ∧ vs = [.int .i64 i] ∧ H = H') _ [.int .i64 0] rfl ⟨0, rfl, by omega, by unfold off; rw [List.drop_zero]; split <;> omega, rfl, rfl⟩ ?_)
  rintro n _ _ ⟨i, rfl, hi, hno, rfl, rfl⟩
  refine L_reg [0, 1, 7, 8, 9] (fun K hK => ?_)
  simp
  apply hK; clear hK K
  refine L_dec (i < l.length) (by simp) (fun hlt => ?_) (fun hge => L_exit ?_)
  · refine L_block ?_
    obtain ⟨r', rfl, rfl, hrd⟩ := hld i hlt
    rw [← g_lt hlt] at hrd
    refine L_reg [0, 1, 5, 7, 8] (fun K hK => ?_)
    simp
    apply hK; clear hK K
    refine L_reg [0, 1, 5, 7, 8, 16] (fun K hK => ?_)
    simp [hrd, hlt]
    apply hK; clear hK K
    by_cases e : x = g l i
    · refine L_true (by simp [← e]) ?_
      rw [idx_here hlt e.symm] at hno
      have e3 : off i 0 = i := by unfold off; rw [if_neg (by omega)]; omega
      rw [e3] at hno
      rw [← hno] at h
      refine L_reg [4] (fun K hK => ?_)
      simp
      apply hK; clear hK K
      exact L_ret ⟨.inr rfl, _, rfl, h⟩
    · refine L_false (by simp [e]) ?_
      rw [off_step hlt (fun h => e h.symm)] at hno
      refine L_reg [0, 1, 7, 8] (fun K hK => ?_)
      simp [wrap_i64 (a := (i : Int) + 1) (by omega)]
      apply hK; clear hK K
      exact ⟨l.length - (i + 1), [.int .i64 (i + 1 : Nat)], by omega, by simp, i + 1, rfl, by omega, hno, rfl, rfl⟩
  · have hi' : i = l.length := by omega
    subst hi'
    rw [List.drop_length] at hno
    rw [← hno] at h
    refine L_reg [4] (fun K hK => ?_)
    simp
    apply hK; clear hK K
    exact L_ret ⟨.inr rfl, _, rfl, h⟩
/-- Sorted. -/
def insA (x : Int) : List Int → List Int
  | [] => [x]
  | y :: l => if x ≤ y then x :: y :: l else y :: insA x l
def srt : List Int → List Int
  | [] => []
  | x :: l => insA x (srt l)
def rsS (r : Bool) (l : List Int) : List Int := risesS r (srt l)
theorem Bd.perm {M : Int} {l m : List Int} (h : Bd M l) (hp : m.Perm l) : Bd M m := fun x hx => h x (hp.mem_iff.1 hx)
theorem boxC_ac (pr : Nat) (r : Bool) (v : AV) (p : List Int) (H : AH) (Q : AV → AH → Prop) (hr : ∃ s, H[pr]? = some (.row [.bool r] 0 s false)) (hlen : p.length ≤ 1000000) (hb : Bd 1000 p) (hv : Ls H v p) (h : Q (.int .i64 (stepC r p)) H) : AC Try.prog 71 [v, .ptr pr 0 0] H Q := by
  obtain ⟨s, hr⟩ := hr
  have e1 : ld H pr 0 0 = some (.bool r) := by rw [ld_row hr]; rfl
  refine L_body 7 Try.func71 rfl rfl ?_
  refine L_reg [0, 1] (fun K hK => ?_)
  simp
  apply hK; clear hK K
  refine L_reg [3] (fun K hK => ?_)
  simp [okFn_low, e1]
  refine greatest_q v p r _ _ hlen hb hv ?_
  simp
  apply hK; clear hK K
  exact L_ret ⟨.inr rfl, _, rfl, h⟩
theorem wideC_ac (pr : Nat) (r : Bool) (v : AV) (p : List Int) (H : AH) (Q : AV → AH → Prop) (hr : ∃ s, H[pr]? = some (.row [.bool r] 0 s false)) (hlen : p.length ≤ 1000000) (hb : Bd 1000 p) (hv : Ls H v p) (h : Q (.int .i64 (-sumC r p)) H) : AC Try.prog 100 [v, .ptr pr 0 0] H Q := by
  obtain ⟨s, hr⟩ := hr
  have e1 : ld H pr 0 0 = some (.bool r) := by rw [ld_row hr]; rfl
  have hs := sum_small (by decide) (df_bd hb (r := r)) (by decide) (by have := stepsS_len r p; omega)
  refine L_body 8 Try.func100 rfl rfl ?_
  refine L_reg [0, 1] (fun K hK => ?_)
  simp
  apply hK; clear hK K
  refine L_reg [3] (fun K hK => ?_)
  simp [okFn_low, e1]
  refine sum_q v p r _ _ hlen hb hv ?_
  simp [wrap_i64 (a := -sumC r p) (by unfold sumC; omega)]
  apply hK; clear hK K
  exact L_ret ⟨.inr rfl, _, rfl, h⟩
def wideS (r : Bool) (l : List Int) : List Int := Arr.bestS (fun p => -sumC r p) l
def boxS (r : Bool) (l : List Int) : List Int := Arr.bestS (stepC r) l
theorem Bd.ok {l : List Int} (h : shE l = 0) : 1 ≤ l.length ∧ l.length ≤ 7 ∧ Bd 1000 l := by
  obtain ⟨h1, h2, h3⟩ := shE_ok h
  exact ⟨by omega, h2, fun x hx => by have := h3 x hx; omega⟩
def orNil (e : Int) (l : List Int) : List Int := if e = 0 then l else []
def whyE (l : List Int) : Int := if shE l = 0 then (if l.length = 1 then 12 else 0) else shE l
def whyS (r : Bool) (l : List Int) : Int := if whyE l = 0 then idx (gr (rsS r l)) (rsS r l) else 0
def provE (l : List Int) (r : Bool) (i s : Int) : Int := if shE l = 0 then (if 0 ≤ i ∧ i < (rsS r l).length then (if g (rsS r l) i.toNat < s then 14 else 0) else 1) else shE l
end Go.Proofs.Ytpfkioakjmpimaa

/- The reference: sorted shades, all arrangements. -/
namespace Go.Proofs.Ytpfkioakjmpimaa
open Go Go.Proofs.Ytpfkioakjmpimaa.AX

/-! ### All arrangements, as the reference lists them -/
def wo (l : List Int) (i : Nat) : List Int := l.take i ++ l.drop (i + 1)
theorem wo_len {l : List Int} {i : Nat} (h : i < l.length) : (wo l i).length = l.length - 1 := by simp [wo]; omega
theorem wo_perm {l : List Int} {i : Nat} (h : i < l.length) : (g l i :: wo l i).Perm l := by
  have e : l = l.take i ++ g l i :: l.drop (i + 1) := by
    rw [g_lt h, ← List.drop_eq_getElem_cons h, List.take_append_drop]
  exact List.perm_middle.symm.trans (List.Perm.of_eq e.symm)
def allS : Nat → List Int → List Int → List (List Int)
  | 0, begun, _ => [begun]
  | n + 1, begun, left => (List.range left.length).flatMap fun i => if g left i ∈ left.take i then [] else allS n (begun ++ [g left i]) (wo left i)
theorem mem_allS : ∀ (n : Nat) (begun left p : List Int), left.length = n → (p ∈ allS n begun left ↔ ∃ q, q.Perm left ∧ p = begun ++ q)
  | 0, begun, left, p, h => by
    have : left = [] := List.eq_nil_of_length_eq_zero h
    subst this
    simp [allS]
  | n + 1, begun, left, p, h => by
    simp only [allS, List.mem_flatMap, List.mem_range]
    constructor
    · rintro ⟨i, hi, hp⟩
      split at hp
      · simp at hp
      · obtain ⟨q, hq, rfl⟩ := (mem_allS n _ _ p (by rw [wo_len hi]; omega)).1 hp
        exact ⟨g left i :: q, (hq.cons _).trans (wo_perm hi), by simp⟩
    · rintro ⟨q, hq, rfl⟩
      cases q with
      | nil => have := hq.length_eq; simp at this; omega
      | cons x q =>
        have hx : x ∈ left := hq.subset (by simp)
        obtain ⟨xs, ys, e, hn⟩ := List.eq_append_cons_of_mem hx
        have hi : xs.length < left.length := by rw [e]; simp
        have hg : g left xs.length = x := by rw [g_lt hi]; simp [e]
        have ht : left.take xs.length = xs := by rw [e]; simp
        refine ⟨xs.length, hi, ?_⟩
        rw [hg, ht, if_neg hn]
        refine (mem_allS n _ _ _ (by rw [wo_len hi]; omega)).2 ⟨q, ?_, by simp⟩
        have := hq.trans (wo_perm hi).symm
        rw [hg] at this
        exact (List.perm_cons x).1 this
def fac : Nat → Nat
  | 0 => 1
  | n + 1 => (n + 1) * fac n
/-- Those found up to a place. -/
def upTo (n : Nat) (begun left : List Int) (i : Nat) : List (List Int) := (List.range i).flatMap fun i => if g left i ∈ left.take i then [] else allS n (begun ++ [g left i]) (wo left i)
/-! ### Sorted by counting -/
def srtR (l : List Int) (m : Nat) : List Int := (List.range m).flatMap fun (n : Nat) => l.filter fun x => decide (x = (n : Int))
end Go.Proofs.Ytpfkioakjmpimaa

/- The reference: all arrangements. -/
namespace Go.Proofs.Ytpfkioakjmpimaa
open Go Go.Proofs.Ytpfkioakjmpimaa.AX

/-- A list read from a row that is not below B and not the row that is left out. -/
def LsBX (B : Nat) (ex : Option Nat) (H : AH) (v : AV) (l : List Int) : Prop :=
  ∃ rr off ver sz full, v = .slice rr off l.length ver sz full ∧ ∀ i (h : i < l.length), ∃ r', rr = some r' ∧ sz = 1 ∧ B ≤ r' ∧ ex ≠ some r' ∧ ld H r' (off + i) ver = some (.int .i64 l[i])
theorem LsBX.ls {B : Nat} {ex : Option Nat} {H : AH} {v : AV} {l : List Int} (h : LsBX B ex H v l) : Ls H v l := by
  obtain ⟨rr, off, ver, sz, full, e, h⟩ := h
  exact ⟨rr, off, ver, sz, full, e, fun i hi => by obtain ⟨r', a, b, -, -, c⟩ := h i hi; exact ⟨r', a, b, c⟩⟩
theorem LsBX.one {B : Nat} {ex : Option Nat} {H : AH} {v : AV} {l : List Int} (h : LsBX B ex H v l) : v.one = true := by
  obtain ⟨rr, off, ver, sz, full, rfl, -⟩ := h; rfl
theorem LsBX.keep {B C : Nat} {ex ex2 : Option Nat} {H H' : AH} {v : AV} {l : List Int} (h : LsBX B ex H v l) (hB : C ≤ B) (hk : ∀ j, B ≤ j → j < H.length → ex ≠ some j → H'[j]? = H[j]?) (he : ∀ j, B ≤ j → j < H.length → ex ≠ some j → ex2 ≠ some j) : LsBX C ex2 H' v l := by
  obtain ⟨rr, off, ver, sz, full, e, h⟩ := h
  refine ⟨rr, off, ver, sz, full, e, fun i hi => ?_⟩
  obtain ⟨r', a, b, c, d, f⟩ := h i hi
  have hlt := ld_lt f
  refine ⟨r', a, b, by omega, he r' c hlt d, ?_⟩
  have := hk r' c hlt d
  unfold ld at f ⊢
  rw [this]; exact f
/-- A list of lists of its own: no element lies in its row. -/
def LssB (B N : Nat) (H : AH) (v : AV) (L : List (List Int)) : Prop :=
  ∃ vs, OwnF N H v vs ∧ vs.length = L.length ∧ ∀ i (h : i < L.length), ∃ w, vs[i]? = some w ∧ LsBX B (rowOf v) H w L[i]
theorem LssB.nil (B N : Nat) (H : AH) : LssB B N H (.slice none 0 0 0 1 false) [] := ⟨[], .nil _ _, rfl, fun i h => by simp at h⟩
theorem LssB.ext {B N : Nat} {H H' : AH} {v : AV} {L : List (List Int)} (h : LssB B N H v L) (hE : Ext H H') : LssB B N H' v L := by
  obtain ⟨vs, h1, h2, h3⟩ := h
  refine ⟨vs, ownF_ext h1 hE, h2, fun i hi => ?_⟩
  obtain ⟨w, a, b⟩ := h3 i hi
  exact ⟨w, a, b.keep (Nat.le_refl _) (fun j _ hj _ => hE.2 j hj) fun j _ _ e => e⟩
theorem known_one {x : AV} (h : x.one = true) : known (some x) = some x := by
  cases x <;> simp [AV.one] at h <;> rfl
end Go.Proofs.Ytpfkioakjmpimaa

/- Boxes, as the reference makes them. -/
namespace Go.Proofs.Ytpfkioakjmpimaa
open Go Go.Proofs.Ytpfkioakjmpimaa.AX

/-- The best of some arrangements. -/
def BestOf (c : List Int → Int) (L : List (List Int)) (b : List Int) : Prop := b ∈ L ∧ ∀ p ∈ L, Arr.bet c b p
theorem BestOf.step {c : List Int → Int} {L : List (List Int)} {b x : List Int} (h : BestOf c L b) (hl : x.length = b.length) : BestOf c (L ++ [x]) (if c x < c b ∨ (c x = c b ∧ Arr.lx x b) then x else b) := by
  split
  · rename_i hc
    have hx : Arr.bet c x b := by
      rcases hc with hc | ⟨h1, h2⟩
      · exact .inl hc
      · exact .inr ⟨h1, .inr h2⟩
    refine ⟨by simp, fun p hp => ?_⟩
    rcases List.mem_append.1 hp with hp | hp
    · exact hx.trans (h.2 p hp)
    · rw [List.mem_singleton.1 hp]; exact .refl _ _
  · rename_i hc
    refine ⟨by simp [h.1], fun p hp => ?_⟩
    rcases List.mem_append.1 hp with hp | hp
    · exact h.2 p hp
    · rw [List.mem_singleton.1 hp]
      rcases Int.lt_trichotomy (c x) (c b) with e | e | e
      · exact absurd (.inl e) hc
      · rcases Arr.lx_tri hl with k | k | k
        · exact absurd (.inr ⟨e, k⟩) hc
        · exact .inr ⟨e.symm, .inl k.symm⟩
        · exact .inr ⟨e.symm, .inr k⟩
      · exact .inl e
theorem BestOf.all {c : List Int → Int} {l b : List Int} (h : BestOf c (allS l.length [] l) b) : b = Arr.bestS c l := by
  refine Arr.IsBest.eq ⟨?_, fun p hp => h.2 p ((mem_allS l.length [] l p rfl).2 ⟨p, hp, rfl⟩)⟩
  obtain ⟨q, hq, e⟩ := (mem_allS l.length [] l b rfl).1 h.1
  rw [e]; exact hq
end Go.Proofs.Ytpfkioakjmpimaa

/- Greatest sums, as the reference finds them; what it tells of boxes. -/
namespace Go.Proofs.Ytpfkioakjmpimaa
open Go Go.Proofs.Ytpfkioakjmpimaa.AX

theorem idx_mem {x : Int} : ∀ {l : List Int}, x ∈ l → 0 ≤ idx x l
  | y :: l, h => by
    simp only [idx]
    split
    · omega
    · rename_i hne
      have : x ∈ l := by
        rcases List.mem_cons.1 h with e | e
        · exact absurd e hne
        · exact e
      have := idx_mem this
      split <;> omega
theorem idx_get {x : Int} : ∀ {l : List Int} {p : Nat}, idx x l = p → p < l.length ∧ g l p = x
  | [], p, h => by simp only [idx] at h; omega
  | y :: l, p, h => by
    simp only [idx] at h
    split at h
    · rename_i e
      have : p = 0 := by omega
      subst this
      exact ⟨by simp, by simp [g, e]⟩
    · split at h
      · omega
      · have h0 := idx_ge x l
        obtain ⟨q, hq⟩ : ∃ q : Nat, idx x l = q := ⟨(idx x l).toNat, by omega⟩
        obtain ⟨h1, h2⟩ := idx_get hq
        have : p = q + 1 := by omega
        subst this
        exact ⟨by simp; omega, by simpa [g] using h2⟩
end Go.Proofs.Ytpfkioakjmpimaa

/- Whether an order turns, as the program and as the reference tell. -/
namespace Go.Proofs.Ytpfkioakjmpimaa
open Go Go.Proofs.Ytpfkioakjmpimaa.AX

def altAt (l : List Int) (i : Nat) : Bool := if i % 2 = 0 then decide (g l i < g l (i + 1)) else decide (g l (i + 1) < g l i)
/-- Greater and smaller by turns. -/
def altB (l : List Int) : Bool := (List.range (l.length - 1)).all (altAt l)
theorem altB_iff {l : List Int} : altB l = true ↔ ∀ i, i + 1 < l.length → altAt l i = true := by
  unfold altB
  rw [List.all_eq_true]
  exact ⟨fun h i hi => h i (List.mem_range.2 (by omega)), fun h i hi => h i (by rw [List.mem_range] at hi; omega)⟩
theorem altB_no {l : List Int} {i : Nat} (hi : i + 1 < l.length) (h : altAt l i = false) : altB l = false := by
  cases hb : altB l with
  | false => rfl
  | true => rw [altB_iff.1 hb i hi] at h; cases h
def cmpI (a b : Int) : Int := if a < b then -1 else if b < a then 1 else 0
theorem Compare_ac (a b : Int) (H : AH) (Q : AV → AH → Prop) (h : Q (.int .i64 (cmpI a b)) H) : AC Try.prog 102 [.int .i64 a, .int .i64 b] H Q := by
  refine L_body 20 Try.func102 rfl rfl ?_
  unfold cmpI at h
  refine L_reg [0, 1] (fun K hK => ?_)
  simp
  apply hK; clear hK K
  refine L_reg [0, 1, 5] (fun K hK => ?_)
  simp [okFn_low]
  refine isNaN_ac a _ _ ?_
  simp
  apply hK; clear hK K
  refine L_reg [0, 1, 5, 6] (fun K hK => ?_)
  simp [okFn_low]
  refine isNaN_ac b _ _ ?_
  simp
  apply hK; clear hK K
  refine L_reg [0, 1, 6, 11] (fun K hK => ?_)
  simp
  apply hK; clear hK K
  refine L_false rfl ?_
  refine L_reg [0, 1, 13] (fun K hK => ?_)
  simp
  apply hK; clear hK K
  refine L_false rfl ?_
  refine L_reg [0, 1, 16] (fun K hK => ?_)
  simp
  apply hK; clear hK K
  refine L_dec (a < b) rfl (fun h1 => ?_) (fun h1 => ?_)
  · rw [if_pos h1] at h
    refine L_reg [4] (fun K hK => ?_)
    simp
    apply hK; clear hK K
    exact L_ret ⟨.inr rfl, _, rfl, h⟩
  · rw [if_neg h1] at h
    refine L_reg [19] (fun K hK => ?_)
    simp
    apply hK; clear hK K
    refine L_dec (b < a) rfl (fun h2 => ?_) (fun h2 => ?_)
    · rw [if_pos h2] at h
      refine L_reg [4] (fun K hK => ?_)
      simp
      apply hK; clear hK K
      exact L_ret ⟨.inr rfl, _, rfl, h⟩
    · rw [if_neg h2] at h
      refine L_reg [4] (fun K hK => ?_)
      simp
      apply hK; clear hK K
      exact L_ret ⟨.inr rfl, _, rfl, h⟩
def wantI (k : Nat) : Int := if k % 2 = 0 then -1 else 1
theorem want_next (k : Nat) : -wantI k = wantI (k + 1) := by
  unfold wantI
  by_cases h : k % 2 = 0
  · rw [if_pos h, if_neg (by omega)]; rfl
  · rw [if_neg h, if_pos (by omega)]
theorem want_alt {l : List Int} {k : Nat} : altAt l k = decide (cmpI (g l k) (g l (k + 1)) = wantI k) := by
  unfold altAt cmpI wantI
  by_cases h : k % 2 = 0
  · rw [if_pos h, if_pos h]
    apply decide_eq_decide.2
    split <;> (try split) <;> omega
  · rw [if_neg h, if_neg h]
    apply decide_eq_decide.2
    split <;> (try split) <;> omega
theorem wantI_small (k : Nat) : -1 ≤ wantI k ∧ wantI k ≤ 1 := by unfold wantI; split <;> omega
set_option maxRecDepth 100000 in
theorem turns_ac (v : AV) (l : List Int) (H : AH) (Q : AV → AH → Prop) (hlen : l.length ≤ 1000000) (hv : Ls H v l) (h : Q (.bool (altB l)) H) : AC Try.prog 76 [v] H Q := by
  refine AC.quiet (by simp [belB]) (fun Q h => ?_) Q h
  obtain ⟨r0, off0, ver0, sz0, full0, hv0, -⟩ := id hv
  refine L_body 17 Try.func76 rfl rfl ?_
  refine L_reg [0, 2, 4, 5] (fun K hK => ?_)
  simp [alloc_z zt4]
  apply hK; clear hK K
  obtain ⟨I, hI, hz⟩ := zeroT_some zt3
  have hst := store_last (P := Try.prog) (H := H ++ [AObj.row [.bool false] 0 0 false]) (u := 3) (c := [.int .i64 0]) (p := 0) (v := 0) (s := 0) sc3 (x := .int .i64 (-1)) (y := .int .i64 0) rfl rfl
  simp at hst
  refine L_reg [0, 2, 3, 4, 5] (fun K hK => ?_)
  simp [hI, hz, hst]
  apply hK; clear hK K
  have z0 : (H ++ [AObj.row [.bool false] 0 0 false, AObj.row [.int .i64 (-1)] 0 0 false]).length = H.length + 2 := by simp
  have z1 : (H ++ [AObj.row [.bool false] 0 0 false, AObj.row [.int .i64 (-1)] 0 0 false])[H.length]? = some (.row [.bool false] 0 0 false) := by simp
  have z2 : (H ++ [AObj.row [.bool false] 0 0 false, AObj.row [.int .i64 (-1)] 0 0 false])[H.length + 1]? = some (.row [.int .i64 (-1)] 0 0 false) := by simp
  have zE : Ext H (H ++ [AObj.row [.bool false] 0 0 false, AObj.row [.int .i64 (-1)] 0 0 false]) := .push _ _
  generalize H ++ [AObj.row [.bool false] 0 0 false, AObj.row [.int .i64 (-1)] 0 0 false] = Ha at z0 z1 z2 zE ⊢
  rw [hv0]
  refine L_reg [2, 3, 4, 5, 7] (fun K hK => ?_)
  simp [okFn_low]
  refine nbs_ac r0 off0 l.length ver0 sz0 full0 false _ _ ?_
  simp
  apply hK; clear hK K
  rw [← hv0]
  have y1 : (Ha ++ [AObj.row [v] 0 0 false, AObj.row [AV.bool false] 0 0 false])[H.length + 2]? = some (.row [v] 0 0 false) := by rw [← z0]; simp
  have y2 : (Ha ++ [AObj.row [v] 0 0 false, AObj.row [AV.bool false] 0 0 false])[H.length + 3]? = some (.row [.bool false] 0 0 false) := by rw [show H.length + 3 = Ha.length + 1 by omega]; simp
  have yE : Ext Ha (Ha ++ [AObj.row [v] 0 0 false, AObj.row [AV.bool false] 0 0 false]) := .push _ _
  have yl : (Ha ++ [AObj.row [v] 0 0 false, AObj.row [AV.bool false] 0 0 false]).length = H.length + 4 := by simp [z0]
  have z1 := yE.row z1
  have z2 := yE.row z2
  have zE := zE.trans yE
  generalize Ha ++ [AObj.row [v] 0 0 false, AObj.row [AV.bool false] 0 0 false] = H1 at y1 y2 yE yl z1 z2 zE ⊢
  rw [z0]
  refine L_block (L_range [2, 3] rfl (okFn_low (by omega) (by omega)) ?_)
  generalize hL : (⟨17, _, _, _, _⟩ : LR) = L
  have hnt : L.nt = 17 := by rw [← hL]
  have hps : L.ps = #[8, 9] := by rw [← hL]
  have hass := congrArg LR.assign hL.symm
  have he : L.e = [(2, .ptr H.length 0 0), (3, .ptr (H.length + 1) 0 0)] := by rw [← hL]; rfl
  have hbody := congrArg LR.body hL.symm
  clear hL
  rw [yl]
  generalize hp : H.length = p at *
  have hpl : (prs false l).length = l.length - 1 := prs_lenF (by simp)
  refine nb1_ac (p + 4) (p + 2) (p + 3) v l false (fun k H' => p + 5 ≤ H'.length ∧ H'[p + 2]? = some (.row [v] 0 0 false) ∧ H'[p + 3]? = some (.row [.bool false] 0 0 false) ∧ H'[p + 4]? = some (.loop .ready .normal L) ∧ Ext H H' ∧
      (∃ s, H'[p]? = some (.row [.bool false] 0 s false)) ∧ (∃ s, H'[p + 1]? = some (.row [.int .i64 (wantI k)] 0 s false)) ∧ ∀ i, i < k → altAt l i = true)
      (fun H' => altB l = false ∧ H'[p + 4]? = some (.loop .done .ret L) ∧ Ext H H' ∧ ∃ s, H'[p]? = some (.row [.bool false] 0 s false)) _ _ hlen ?_ ?_ ?_ ?_ ?_
  · rintro k H2 ⟨g0, g1, g2, g3, gE, -⟩
    exact ⟨⟨_, g1⟩, ⟨_, g2⟩, hv.ext gE⟩
  · rintro k a b H2 hk ⟨g0, g1, g2, g3, gE, ⟨s4, g4⟩, ⟨s5, g5⟩, g6⟩
    have hkl : k < l.length - 1 := by rw [← hpl]; exact (List.getElem?_eq_some_iff.1 hk).1
    have hab := prs_at (r := false) (l := l) (i := k) (by omega)
    rw [hk] at hab
    cases hab
    refine AYld_mkA g3 (by rw [hps]; rfl) (by rw [hps, hnt]; simp) ?_
    rw [hnt, hps, he, hass]
    refine L_reg [2, 3, 4, 9] (fun K hK => ?_)
    simp [psEnv]
    apply hK; clear hK K
    refine L_reg [2, 3, 4, 5] (fun K hK => ?_)
    simp
    apply hK; clear hK K
    refine ⟨rfl, .normal, L, g3, ?_⟩
    rw [hbody]
    generalize hH2b : H2.set (p + 4) (.loop .busy .normal L) = H2b
    have bl : H2b.length = H2.length := by rw [← hH2b]; simp
    have b4 : H2b[p]? = some (.row [.bool false] 0 s4 false) := by rw [← hH2b, set_ne (by omega)]; exact g4
    have b5 : H2b[p + 1]? = some (.row [.int .i64 (wantI k)] 0 s5 false) := by rw [← hH2b, set_ne (by omega)]; exact g5
    have bL : H2b[p + 4]? = some (.loop .busy .normal L) := by rw [← hH2b, List.getElem?_set_self (by omega)]
    have c1 : H2b[p + 2]? = some (.row [v] 0 0 false) := by rw [← hH2b, set_ne (by omega)]; exact g1
    have c2 : H2b[p + 3]? = some (.row [.bool false] 0 0 false) := by rw [← hH2b, set_ne (by omega)]; exact g2
    have bE : Ext H H2b := by rw [← hH2b]; exact gE.set _ (by omega)
    have e5 : ld H2b (p + 1) 0 0 = some (.int .i64 (wantI k)) := by rw [ld_row b5]; rfl
    have hwa := want_alt (l := l) (k := k)
    have hws := wantI_small k
    refine L_block ?_
    refine L_regQ mixed [2, 3, 14] (by kernel_rfl) (fun K hK => ?_)
    simp [okFn_low]
    refine exQ_mk (fun Q hQ => Compare_ac (g l k) (g l (k + 1)) H2b Q hQ) ?_
    simp [e5]
    apply hK; clear hK K
    by_cases hc : cmpI (g l k) (g l (k + 1)) = wantI k
    · refine L_false (by simp [hc]) ?_
      have hst2 := store_row (P := Try.prog) (u := 3) (p := 0) sc3 (x := .int .i64 (wantI (k + 1))) (y := .int .i64 (wantI k)) rfl b5 rfl
      have hws2 := wantI_small (k + 1)
      refine L_reg [] (fun K hK => ?_)
      simp [e5, want_next, wrap_i64 (a := wantI (k + 1)) (by omega), hst2]
      apply hK; clear hK K
      refine ⟨.busy, .normal, L, by rw [set_ne (by omega)]; exact bL, true, rfl, ?_⟩
      simp only [if_true]
      refine ⟨by simp; omega, ?_, ?_, ?_, ?_, ⟨s4, ?_⟩, ⟨0, ?_⟩, fun i hi => ?_⟩
      · rw [set_ne (by omega), set_ne (by omega)]; exact c1
      · rw [set_ne (by omega), set_ne (by omega)]; exact c2
      · rw [List.getElem?_set_self (by simp; omega)]
      · exact (bE.set _ (by omega)).set _ (by omega)
      · rw [set_ne (by omega), set_ne (by omega)]; exact b4
      · rw [set_ne (by omega), get_set b5]
      · rcases Nat.lt_or_ge i k with e | e
        · exact g6 i e
        · rw [show i = k by omega, hwa]; simp [hc]
    · refine L_true (by simp [hc]) ?_
      have hst2 := store_row (P := Try.prog) (u := 4) (p := 0) sc4 (x := .bool false) (y := .bool false) rfl b4 rfl
      refine L_reg [2] (fun K hK => ?_)
      simp [hst2]
      apply hK; clear hK K
      refine L_ret ⟨.busy, .normal, L, by rw [set_ne (by omega)]; exact bL, false, rfl, ?_⟩
      refine ⟨altB_no (i := k) (by omega) (by rw [hwa]; simpa using hc), ?_, ?_, ?_⟩
      · rw [List.getElem?_set_self (by simp; omega)]; rfl
      · exact (bE.set _ (by omega)).set _ (by omega)
      · exact ⟨_, by rw [set_ne (by omega), get_set b4]⟩
  · have hin : ∀ j, j < H1.length → (H1 ++ [AObj.loop .ready .normal L])[j]? = H1[j]? := fun j hj => List.getElem?_append_left hj
    refine ⟨by simp; omega, ?_, ?_, by rw [← yl]; simp, zE.trans (.push _ _), ⟨0, ?_⟩, ⟨0, ?_⟩, fun i hi => by omega⟩
    · rw [hin _ (by omega)]; exact y1
    · rw [hin _ (by omega)]; exact y2
    · rw [hin _ (by omega)]; exact z1
    · rw [hin _ (by omega)]; exact z2
  · rintro H2 ⟨g0, g1, g2, g3, gE, ⟨s4, g4⟩, ⟨s5, g5⟩, g6⟩
    refine ⟨.ready, .normal, L, g3, by simp, ?_⟩
    have b4 : (H2.set (p + 4) (.loop .exhausted .normal L))[p]? = some (.row [.bool false] 0 s4 false) := by rw [set_ne (by omega)]; exact g4
    have hst2 := store_row (P := Try.prog) (u := 4) (p := 0) sc4 (x := .bool true) (y := .bool false) rfl b4 rfl
    have halt : altB l = true := altB_iff.2 fun i hi => g6 i (by rw [hpl]; omega)
    rw [halt] at h
    show AWL _ _ _ _ _ _
    refine L_reg [2] (fun K hK => ?_)
    simp [hst2]
    apply hK; clear hK K
    have b6 := get_set (o' := AObj.row [.bool true] 0 0 false) b4
    refine L_ret ⟨.inr rfl, .bool true, ?_, h _ ((gE.set _ (by omega)).set _ (by omega))⟩
    have h1 : aRes1 Try.prog [(2, AV.ptr p 0 0)] ((H2.set (p + 4) (.loop .exhausted .normal L)).set p (AObj.row [.bool true] 0 0 false)) (.cell 2 4) = some (.bool true) := by
      show loadV Try.prog 4 _ (.ptr p 0 0) = _
      rw [ld4, ld_row b6]; rfl
    show (aResList Try.prog _ _ [.cell 2 4]).map _ = some _
    simp only [aResList]
    rw [h1]; rfl
  · rintro H2 ⟨g0, g1, gE, s4, g4⟩
    rw [g0] at h
    refine ⟨.done, .ret, L, g1, by simp, ?_⟩
    have b4 : (H2.set (p + 4) (.loop .exhausted .ret L))[p]? = some (.row [.bool false] 0 s4 false) := by rw [set_ne (by omega)]; exact g4
    refine ⟨.inr rfl, .bool false, ?_, h _ (gE.set _ (by omega))⟩
    have h1 : ∀ e : Env, eget e 2 = .ptr p 0 0 → aRes1 Try.prog e (H2.set (p + 4) (.loop .exhausted .ret L)) (.cell 2 4) = some (.bool false) := fun e he => by
      show loadV Try.prog 4 _ (eget e 2) = _
      rw [he, ld4, ld_row b4]; rfl
    show (aResList Try.prog _ _ [.cell 2 4]).map _ = some _
    simp only [aResList]
    rw [h1 _ rfl]; rfl
end Go.Proofs.Ytpfkioakjmpimaa

/- The examples that each law ends with. -/
namespace Go.Proofs.Ytpfkioakjmpimaa
open Go Go.Proofs.Ytpfkioakjmpimaa.AX

noncomputable def forceL {α : Type} : List Int → (List Int → α) → α
  | [], k => k []
  | x :: l, k => forceI x fun x => forceL l fun l => k (x :: l)
theorem forceL_eq {α : Type} : ∀ (l : List Int) (k : List Int → α), forceL l k = k l
  | [], _ => rfl
  | x :: l, k => by simp only [forceL, forceI_eq, forceL_eq l]
/-- The best one, reckoned at once. -/
noncomputable def qb (c : List Int → Int) : List (List Int) → Int → List Int → List Int
  | [], _, b => b
  | p :: L, cb, b => forceL p fun p => forceI (c p) fun cp => bif decide (cb < cp) then qb c L cb b else bif decide (cp < cb) then qb c L cp p else bif decide (Arr.le b p) then qb c L cb b else qb c L cp p
theorem qb_eq (c : List Int → Int) : ∀ (L : List (List Int)) (b : List Int), qb c L (c b) b = L.foldl (Arr.pick c) b
  | [], b => rfl
  | p :: L, b => by
    have hpk : Arr.pick c b p = if Arr.bet c b p then b else p := rfl
    simp only [qb, forceL_eq, forceI_eq, List.foldl_cons]
    rw [hpk]
    by_cases h1 : c b < c p
    · rw [if_pos (.inl h1)]
      simp [h1, qb_eq c L b]
    · by_cases h2 : c p < c b
      · rw [if_neg (fun h => by rcases h with h | ⟨h, -⟩ <;> omega)]
        simp [h1, h2, qb_eq c L p]
      · by_cases h3 : Arr.le b p
        · rw [if_pos (.inr ⟨by omega, h3⟩)]
          simp [h1, h2, h3, qb_eq c L b]
        · rw [if_neg (fun h => by
            rcases h with h | ⟨-, h⟩
            · omega
            · exact h3 h)]
          simp [h1, h2, h3, qb_eq c L p]
noncomputable def bestQ (c : List Int → Int) (l : List Int) : List Int := forceI (c l) fun x => qb c (Arr.perms l) x l
theorem bestQ_eq (c : List Int → Int) (l : List Int) : bestQ c l = Arr.bestS c l := by
  unfold bestQ Arr.bestS
  rw [forceI_eq, qb_eq]
def readI : List AV → Option (List Int)
  | [] => some []
  | .int .i64 a :: rest => match readI rest with
    | some l => some (a :: l)
    | none => none
  | _ => none
theorem readI_get : ∀ {vs : List AV} {l : List Int}, readI vs = some l → vs = l.map (.int .i64)
  | [], l, h => by simp [readI] at h; subst h; rfl
  | v :: vs, l, h => by
    unfold readI at h
    split at h
    case h_1 => rename_i h0; cases h0
    case h_3 => cases h
    rename_i a rest heq
    cases heq
    split at h
    case h_2 => cases h
    rename_i l' hl
    cases h
    rw [readI_get hl]; rfl
noncomputable def boxX (args : List AV) (H : AH) : Option (AV × AH) := match args with
  | [.slice (some r) off len ver sz _, .func (.func f) [] [.ptr pr 0 0]] =>
    match ldn H r ver len off, H[pr]? with
    | some vs, some (.row [.bool b] 0 _ false) => match readI vs with
      | some l => bif Nat.beq sz 1 && Nat.ble 1 len && Nat.ble len 127 && l.all (fun x => decide (-1000 ≤ x) && decide (x ≤ 1000)) then
          bif Nat.beq f 71 then forceL (bestQ (stepC b) l) fun m => forceN H.length fun n => some (.slice (some n) 0 len 0 1 false, H ++ [.row (m.map (.int .i64)) 0 len false])
          else bif Nat.beq f 100 then forceL (bestQ (fun p => -sumC b p) l) fun m => forceN H.length fun n => some (.slice (some n) 0 len 0 1 false, H ++ [.row (m.map (.int .i64)) 0 len false]) else none
        else none
      | none => none
    | _, _ => none
  | _ => none
theorem boxX_ok {args : List AV} {H : AH} {v : AV} {H' : AH} (h : boxX args H = some (v, H')) : AC Try.prog 70 args H fun v' H2 => v' = v ∧ H2 = H' := by
  unfold boxX at h
  split at h
  case h_2 => cases h
  rename_i r off len ver sz full f pr
  split at h
  case h_2 => cases h
  rename_i vs b st hvs hb
  split at h
  case h_2 => cases h
  rename_i l hl
  cases hc : (Nat.beq sz 1 && Nat.ble 1 len && Nat.ble len 127 && l.all (fun x => decide (-1000 ≤ x) && decide (x ≤ 1000))) with
  | false => rw [hc] at h; cases h
  | true =>
    rw [hc, cond_true] at h
    simp only [Bool.and_eq_true, List.all_eq_true, decide_eq_true_eq] at hc
    obtain ⟨⟨⟨h0, h1⟩, h2⟩, h3⟩ := hc
    obtain rfl := Nat.eq_of_beq_eq_true h0
    have h1 := Nat.le_of_ble_eq_true h1
    have h2 := Nat.le_of_ble_eq_true h2
    have hvl := (ldn_part hvs).1
    have hv := readI_get hl
    have hll : l.length = len := by rw [← hvl, hv]; simp
    have hbd : Bd 1000 l := fun x hx => h3 x hx
    have hL : Ls H (.slice (some r) off len ver 1 full) l := by
      refine ⟨some r, off, ver, 1, full, by rw [hll], fun i hi => ⟨r, rfl, rfl, ?_⟩⟩
      have := (ldn_part hvs).2 i 1 (by omega)
      rw [hv] at this
      have e : ((l.map (AV.int .i64)).drop i).take 1 = [.int .i64 l[i]] := by
        rw [List.drop_eq_getElem_cons (by simpa using hi)]
        simp
      rw [e, ldn_succ] at this
      cases hx : ld H r (off + i) ver with
      | none => rw [hx] at this; cases this
      | some y => rw [hx] at this; simp [ldn_zero] at this; rw [this]
    have fin : ∀ (g : FuncId) (cost : List Int → Int), okFn Try.prog g = true → (∀ (H' : AH) (v' : AV) (p : List Int) (Q : AV → AH → Prop), Ext H H' → p.Perm l → Ls H' v' p → Q (.int .i64 (cost p)) H' → AC Try.prog g (v' :: [.ptr pr 0 0]) H' Q) →
        (forceL (bestQ cost l) fun m => forceN H.length fun n => some (AV.slice (some n) 0 len 0 1 false, H ++ [AObj.row (m.map (.int .i64)) 0 len false])) = some (v, H') →
        AC Try.prog 70 [.slice (some r) off len ver 1 full, .func (.func g) [] [.ptr pr 0 0]] H fun v' H2 => v' = v ∧ H2 = H' := by
      intro g cost hok hC h
      rw [forceL_eq, forceN_eq, bestQ_eq] at h
      have hp := (Arr.best_is cost l).1
      have hpl := hp.length_eq
      cases h
      refine AC.tidy (l := (Arr.bestS cost l).map (.int .i64)) (fun e => ?_) (belB_ints _ _) (fun Q hQ => cheapest_ac _ l g [.ptr pr 0 0] cost H Q (by omega) (by omega) hL hok hC hQ) _ ?_
      · have : (Arr.bestS cost l).length = 0 := by simpa using congrArg List.length e
        omega
      · rw [List.length_map, hpl, hll]; exact ⟨rfl, rfl⟩
    cases hf : Nat.beq f 71 with
    | true =>
      rw [hf, cond_true] at h
      obtain rfl := Nat.eq_of_beq_eq_true hf
      exact fin 71 (stepC b) (okFn_low (by omega) (by omega)) (fun H' v' p Q hE2 hp2 hv2 hQ => boxC_ac pr b v' p H' Q ⟨st, hE2.row hb⟩ (by have := hp2.length_eq; omega) (hbd.perm hp2) hv2 hQ) h
    | false =>
      rw [hf, cond_false] at h
      cases hf2 : Nat.beq f 100 with
      | true =>
        rw [hf2, cond_true] at h
        obtain rfl := Nat.eq_of_beq_eq_true hf2
        exact fin 100 (fun p => -sumC b p) (okFn_low (by omega) (by omega)) (fun H' v' p Q hE2 hp2 hv2 hQ => wideC_ac pr b v' p H' Q ⟨st, hE2.row hb⟩ (by have := hp2.length_eq; omega) (hbd.perm hp2) hv2 hQ) h
      | false => rw [hf2] at h; cases h
/-- A list read off its row. -/
noncomputable def readL (v : AV) (H : AH) : Option (List Int) := match v with
  | .slice (some r) off len ver sz _ => bif Nat.beq sz 1 && Nat.ble len 1000 then (match ldn H r ver len off with
    | some vs => match readI vs with
      | some l => bif l.all (fun x => decide (-1000 ≤ x) && decide (x ≤ 1000)) then some l else none
      | none => none
    | none => none) else none
  | _ => none
theorem readL_ok {v : AV} {H : AH} {l : List Int} (h : readL v H = some l) : Ls H v l ∧ l.length ≤ 1000 ∧ Bd 1000 l := by
  unfold readL at h
  split at h
  case h_2 => cases h
  rename_i r off len ver sz full
  cases hc : (Nat.beq sz 1 && Nat.ble len 1000) with
  | false => rw [hc] at h; cases h
  | true =>
    rw [hc, cond_true] at h
    simp only [Bool.and_eq_true] at hc
    obtain rfl := Nat.eq_of_beq_eq_true hc.1
    have h2 := Nat.le_of_ble_eq_true hc.2
    split at h
    case h_2 => cases h
    rename_i vs hvs
    split at h
    case h_2 => cases h
    rename_i m hl
    cases hb : m.all (fun x => decide (-1000 ≤ x) && decide (x ≤ 1000)) with
    | false => rw [hb] at h; cases h
    | true =>
      rw [hb, cond_true] at h
      cases h
      simp only [List.all_eq_true, Bool.and_eq_true, decide_eq_true_eq] at hb
      have hvl := (ldn_part hvs).1
      have hv := readI_get hl
      have hll : l.length = len := by rw [← hvl, hv]; simp
      refine ⟨⟨some r, off, ver, 1, full, by rw [hll], fun i hi => ⟨r, rfl, rfl, ?_⟩⟩, by omega, fun x hx => hb x hx⟩
      have := (ldn_part hvs).2 i 1 (by omega)
      rw [hv] at this
      have e : ((l.map (AV.int .i64)).drop i).take 1 = [.int .i64 l[i]] := by
        rw [List.drop_eq_getElem_cons (by simpa using hi)]
        simp
      rw [e, ldn_succ] at this
      cases hx : ld H r (off + i) ver with
      | none => rw [hx] at this; cases this
      | some y => rw [hx] at this; simp [ldn_zero] at this; rw [this]
noncomputable def forceB {α : Type} (b : Bool) (k : Bool → α) : α := Bool.rec (k false) (k true) b
theorem forceB_eq {α : Type} (b : Bool) (k : Bool → α) : forceB b k = k b := by cases b <;> rfl
noncomputable def stepX (c : Bool → List Int → Int) (args : List AV) (H : AH) : Option (AV × AH) := match args with
  | [v, .bool b] => match readL v H with
    | some l => forceI (c b l) fun x => some (.int .i64 x, H)
    | none => none
  | _ => none
theorem stepX_ok {f : FuncId} {c : Bool → List Int → Int} (hC : ∀ (v : AV) (l : List Int) (r : Bool) (H : AH) (Q : AV → AH → Prop), l.length ≤ 1000000 → Bd 1000 l → Ls H v l → Q (.int .i64 (c r l)) H → AC Try.prog f [v, .bool r] H Q) {args : List AV} {H : AH} {v : AV} {H' : AH} (h : stepX c args H = some (v, H')) : AC Try.prog f args H fun v' H2 => v' = v ∧ H2 = H' := by
  unfold stepX at h
  split at h
  case h_2 => cases h
  rename_i u b
  split at h
  case h_2 => cases h
  rename_i l hl
  rw [forceI_eq] at h
  cases h
  obtain ⟨h1, h2, h3⟩ := readL_ok hl
  exact hC u l b H _ (by omega) h3 h1 ⟨rfl, rfl⟩
noncomputable def turnX (args : List AV) (H : AH) : Option (AV × AH) := match args with
  | [v] => match readL v H with
    | some l => forceB (altB l) fun x => some (.bool x, H)
    | none => none
  | _ => none
theorem turnX_ok {args : List AV} {H : AH} {v : AV} {H' : AH} (h : turnX args H = some (v, H')) : AC Try.prog 76 args H fun v' H2 => v' = v ∧ H2 = H' := by
  unfold turnX at h
  split at h
  case h_2 => cases h
  rename_i u
  split at h
  case h_2 => cases h
  rename_i l hl
  rw [forceB_eq] at h
  cases h
  obtain ⟨h1, h2, h3⟩ := readL_ok hl
  exact turns_ac u l H _ (by omega) h1 ⟨rfl, rfl⟩
noncomputable def extB (f : FuncId) (args : List AV) (H : AH) : Option (AV × AH) :=
  bif Nat.beq f 70 then boxX args H else bif Nat.beq f 59 then stepX stepC args H else bif Nat.beq f 61 then stepX sumC args H else bif Nat.beq f 76 then turnX args H else none
theorem extB_ok {f : FuncId} {args : List AV} {H : AH} {v : AV} {H' : AH} (h : extB f args H = some (v, H')) : AC Try.prog f args H fun v' H2 => v' = v ∧ H2 = H' := by
  unfold extB at h
  cases h1 : Nat.beq f 70 with
  | true =>
    rw [h1, cond_true] at h
    obtain rfl := Nat.eq_of_beq_eq_true h1
    exact boxX_ok h
  | false =>
    rw [h1, cond_false] at h
    cases h2 : Nat.beq f 59 with
    | true =>
      rw [h2, cond_true] at h
      obtain rfl := Nat.eq_of_beq_eq_true h2
      exact stepX_ok greatest_q h
    | false =>
      rw [h2, cond_false] at h
      cases h3 : Nat.beq f 61 with
      | true =>
        rw [h3, cond_true] at h
        obtain rfl := Nat.eq_of_beq_eq_true h3
        exact stepX_ok sum_q h
      | false =>
        rw [h3, cond_false] at h
        cases h4 : Nat.beq f 76 with
        | true =>
          rw [h4, cond_true] at h
          obtain rfl := Nat.eq_of_beq_eq_true h4
          exact turnX_ok h
        | false => rw [h4, cond_false] at h; cases h
/-- The context in which the cheapest arrangement, steps and turns are reckoned at once. -/
noncomputable def cxb : Cx Try.prog where
  good := goodT
  keep := keepT
  ext := extB
theorem cxb_ok : cxb.Ok where
  mixed := cx_ok.mixed
  ord f h := cx_ok.ord f h
  ext _f _args _H _v _H' h := extB_ok h
end Go.Proofs.Ytpfkioakjmpimaa

/- The examples that each law ends with. -/
namespace Go.Proofs.Ytpfkioakjmpimaa
open Go Go.Proofs.Ytpfkioakjmpimaa.AX
set_option maxRecDepth 100000 in
theorem works_run : callN (runZ cxb 3000) 15 [] [] = some (.bool true, []) := by kernel_rfl
theorem works_ac (H : AH) (Q : AV → AH → Prop) (h : Q (.bool true) H) : AC Try.prog 15 [] H Q := AC_kernZ cxb_ok 3000 works_run .nil (.bool _) h
/-- The same context, in which the examples are known, too. -/
noncomputable def cxw : Cx Try.prog where
  good := goodT
  keep := keepT
  ext f args H := bif Nat.beq f 15 then (match args with | [] => some (.bool true, H) | _ => none) else extB f args H
end Go.Proofs.Ytpfkioakjmpimaa

/- The laws of boxes: steps, least steps and greatest sums are as the reference says. -/
namespace Go.Proofs.Ytpfkioakjmpimaa
open Go Go.Proofs.Ytpfkioakjmpimaa.AX

theorem same_ac (u v : AV) (l m : List Int) (H : AH) (Q : AV → AH → Prop) (hl : l.length ≤ 1048576) (hu : Ls H u l) (hv : Ls H v m) (h : Q (.bool (decide (l = m))) H) : AC Try.prog 30 [u, v] H Q := by
  obtain ⟨r, off, ver, sz, full, rfl, hu⟩ := hu
  obtain ⟨r2, off2, ver2, sz2, full2, rfl, hv⟩ := hv
  refine L_body 26 Try.func30 rfl rfl ?_
  refine L_reg [0, 1] (fun K hK => ?_)
  simp
  apply hK; clear hK K
  refine L_reg [0, 1, 10] (fun K hK => ?_)
  simp
  apply hK; clear hK K
  by_cases hlen : l.length = m.length
  case neg =>
    refine L_true (by simp; omega) ?_
    refine L_reg [4] (fun K hK => ?_)
    simp
    apply hK; clear hK K
    have : l ≠ m := fun e => hlen (by rw [e])
    rw [decide_eq_false this] at h
    exact L_ret ⟨.inr rfl, _, rfl, h⟩
  refine L_false (by simp [hlen]) ?_
  refine L_reg [0, 1, 5] (fun K hK => ?_)
  simp
  apply hK; clear hK K
  refine L_block (L_loopV [5] (fun k vs H' => ∃ (i : Nat), k = l.length - i ∧ i ≤ l.length ∧ (l.drop i = m.drop i → l = m) ∧ vs = [.int .i64 i] ∧ H' = H) _ [.int .i64 (0 : Nat)] rfl ⟨0, rfl, by omega, by simp, rfl, rfl⟩ ?_)
  rintro k _ _ ⟨i, rfl, hi, hs, rfl, rfl⟩
  refine L_reg [0, 1, 5, 14] (fun K hK => ?_)
  simp
  apply hK; clear hK K
  refine L_dec (i < l.length) (by simp) (fun hlt => ?_) (fun hge => L_exit ?_)
  · obtain ⟨r', rfl, rfl, hld⟩ := hu i hlt
    obtain ⟨r3, rfl, rfl, hld2⟩ := hv i (by omega)
    rw [List.drop_eq_getElem_cons hlt, List.drop_eq_getElem_cons (by omega : i < m.length)] at hs
    refine L_block ?_
    refine L_regT mixed [0, 1, 5, 25] (by kernel_rfl) (fun K hK => ?_)
    simp [hlt, ← hlen, hld, hld2]
    apply hK; clear hK K
    by_cases he : l[i] = m[i]
    · refine L_false (by simp [he]) ?_
      rw [he] at hs
      refine L_reg [0, 1, 5] (fun K hK => ?_)
      simp [wrap_i64 (a := (i : Int) + 1) (by omega)]
      apply hK; clear hK K
      exact ⟨l.length - (i + 1), [.int .i64 (i + 1 : Nat)], by omega, by simp [hlen], i + 1, rfl, by omega, fun e => hs (by rw [e]), rfl, rfl⟩
    · refine L_true (by simp [he]) ?_
      refine L_reg [4] (fun K hK => ?_)
      simp
      apply hK; clear hK K
      have : l ≠ m := fun e => he (by subst e; rfl)
      rw [decide_eq_false this] at h
      exact L_ret ⟨.inr rfl, _, rfl, h⟩
  · refine L_reg [4] (fun K hK => ?_)
    simp
    apply hK; clear hK K
    have : l = m := hs (by rw [List.drop_eq_nil_of_le (by omega), List.drop_eq_nil_of_le (by omega)])
    rw [decide_eq_true this] at h
    exact L_ret ⟨.inr rfl, _, rfl, h⟩
end Go.Proofs.Ytpfkioakjmpimaa

/- What the laws make of numbers: trays, steps, sums. -/
namespace Go.Proofs.Ytpfkioakjmpimaa
open Go Go.Proofs.Ytpfkioakjmpimaa.AX

/-- Bytes. -/
def By (n : Nat) (ws : List Int) : Prop := ws.length = n ∧ ∀ x ∈ ws, 0 ≤ x ∧ x < 256
theorem By.g {n : Nat} {ws : List Int} (h : By n ws) {i : Nat} (hi : i < n) : 0 ≤ Go.Proofs.Ytpfkioakjmpimaa.g ws i ∧ Go.Proofs.Ytpfkioakjmpimaa.g ws i < 256 := h.2 _ (gmem (by rw [h.1]; exact hi))
/-- How many shades a tray has, and which. -/
def trayN (ws : List Int) (most : Nat) : Nat := 1 + (g ws 0).toNat % most
def trayS (ws : List Int) (most : Nat) : List Int := (List.range (trayN ws most)).map fun i => g ws (1 + i) % 61
end Go.Proofs.Ytpfkioakjmpimaa

/- What an index proves no arrangement avoids. -/
namespace Go.Proofs.Ytpfkioakjmpimaa
open Go Go.Proofs.Ytpfkioakjmpimaa.AX

end Go.Proofs.Ytpfkioakjmpimaa

/- Turned round, exchanged, begun elsewhere: the mathematics; and Clone, Reverse. -/
namespace Go.Proofs.Ytpfkioakjmpimaa
open Go Go.Proofs.Ytpfkioakjmpimaa.AX
set_option linter.unusedVariables false
theorem g_app1 {a b : List Int} {i : Nat} (h : i < a.length) : g (a ++ b) i = g a i := by simp [g, List.getD_eq_getElem?_getD, List.getElem?_append_left h]
theorem g_app2 {a b : List Int} {i : Nat} (h : a.length ≤ i) : g (a ++ b) i = g b (i - a.length) := by simp [g, List.getD_eq_getElem?_getD, List.getElem?_append_right h]
/-- What is left to 60. -/
def lt60 (l : List Int) : List Int := l.map fun x => 60 - x
end Go.Proofs.Ytpfkioakjmpimaa

/- All arrangements of sorted numbers in ascending order: the mathematics. -/
namespace Go.Proofs.Ytpfkioakjmpimaa
open Go Go.Proofs.Ytpfkioakjmpimaa.AX
set_option linter.unusedVariables false
/-- The first of equal ones that are left. -/
def fst' (s : List Int) (I : List Nat) (i : Nat) : Prop := i ∈ I ∧ ∀ j ∈ I, j < i → g s j ≠ g s i
instance (s : List Int) (I : List Nat) (i : Nat) : Decidable (fst' s I i) := inferInstanceAs (Decidable (_ ∧ _))
/-- The arrangements that begin so, with the numbers left that have these places. -/
def enI (s : List Int) : Nat → List Int → List Nat → List (List Int)
  | 0, b, _ => [b]
  | n + 1, b, I => (List.range s.length).flatMap fun i => if fst' s I i then enI s n (b ++ [g s i]) (I.erase i) else []
/-- All arrangements of sorted numbers, as the law goes through them. -/
def en (s : List Int) : List (List Int) := enI s s.length [] (List.range s.length)
theorem map_g (s : List Int) : (List.range s.length).map (g s) = s := g_ext (by simp) fun i hi => by
  have : i < s.length := by simpa using hi
  rw [g_lt (by simpa using this)]; simp
/-- The first of the cheapest ones, and what it costs, as a visitor finds them. -/
def visit (c : List Int → Int) (st : Int × List Int) (p : List Int) : Int × List Int := if c p < st.1 then (c p, p) else st
end Go.Proofs.Ytpfkioakjmpimaa

/- The law's own walk through all arrangements: Clip, put, all. -/
namespace Go.Proofs.Ytpfkioakjmpimaa
open Go Go.Proofs.Ytpfkioakjmpimaa.AX
set_option linter.unusedVariables false
/-- All rows but some are as they were. -/
def Kp (W : Nat → Prop) (H H' : AH) : Prop := H.length ≤ H'.length ∧ ∀ j, j < H.length → ¬ W j → H'[j]? = H[j]?
theorem Kp.refl (W : Nat → Prop) (H : AH) : Kp W H H := ⟨Nat.le_refl _, fun _ _ _ => rfl⟩
theorem Kp.trans {W : Nat → Prop} {A B C : AH} (h : Kp W A B) (k : Kp W B C) : Kp W A C := ⟨Nat.le_trans h.1 k.1, fun j h1 h2 => by rw [k.2 j (by have := h.1; omega) h2, h.2 j h1 h2]⟩
theorem Kp.of {W : Nat → Prop} {A B : AH} (h : Ext A B) : Kp W A B := ⟨h.1, fun j h1 _ => h.2 j h1⟩
theorem Kp.row {W : Nat → Prop} {A B : AH} (h : Kp W A B) {j : Nat} (hj : ¬ W j) {o : AObj} (ho : A[j]? = some o) : B[j]? = some o := by
  rw [h.2 j (List.getElem?_eq_some_iff.1 ho).1 hj, ho]
theorem Kp.ls {W : Nat → Prop} {A B : AH} (h : Kp W A B) {v : AV} {l : List Int} (hv : Ls A v l) (hr : ∀ j, rowOf v = some j → ¬ W j) : Ls B v l := ls_keep hv fun j h1 h2 => h.2 j h1 (hr j h2)
/-- A visitor: what it keeps of the arrangements that it has seen. -/
structure Vis {σ : Type} (s : List Int) (W : Nat → Prop) (N : Nat) (fE : FuncId) (caps : List AV) (S : σ → AH → Prop) (vis : σ → List Int → σ) : Prop where
  ok : okFn Try.prog fE = true
  lt : ∀ j, W j → j < N
  ext : ∀ st H H', S st H → Ext H H' → S st H'
  step : ∀ st v l H (Q : AV → AH → Prop), N ≤ H.length → S st H → Ls H v l → (∀ j, rowOf v = some j → ¬ W j) → l.Perm s → (∀ H', S (vis st l) H' → Kp W H H' → Q (.tuple []) H') → AC Try.prog fE (v :: caps) H Q
theorem slice_clip {P : Program} {t : TypeId} {n : Nat} (h : slSz P t = some n) (r : Option Nat) (off len ver : Nat) (full : Bool) : aSlice P t (.slice r off len ver n full) none (some (.int .i64 (len : Int))) (some (.int .i64 (len : Int))) = some (clipOf r off len ver n) := by
  unfold slSz at h
  unfold aSlice
  split at h
  · rename_i e he
    rw [he]
    cases hi : P.info? e with
    | none => rw [hi] at h; cases h
    | some ie =>
      rw [hi] at h
      obtain rfl : ie.size = n := by simpa using h
      simp [hi, aBounds, aBound]
  · cases h
theorem clip_app {H : AH} {v : AV} {l : List Int} (h : Ls H v l) (hnil : l = [] → v = .slice none 0 0 0 1 false) (hl : l.length ≤ 100) : ∃ u, aSlice Try.prog 22 v none (some (.int .i64 (l.length : Int))) (some (.int .i64 (l.length : Int))) = some u ∧
    ∀ H1 p x, Ext H H1 → aSrc Try.prog H1 22 1 p = some (1, [x]) → x.one = true → aAppend Try.prog H1 22 22 u p = some (.slice (some H1.length) 0 (l.length + 1) 0 1 false, H1 ++ [.row (l.map (.int .i64) ++ [x]) 0 0 false]) := by
  obtain ⟨e, I, h1, h2, h3, h4, -⟩ := elT_some el22
  by_cases c : l = []
  · obtain rfl := hnil c
    subst c
    refine ⟨_, slice_clip slz22 .., fun H1 p x hE hs hx => ?_⟩
    simp [aAppend, clipOf, h1, h2, h3, h4, hs, hx]
  · obtain ⟨r, off, ver, sz, full, rfl, hld⟩ := h
    obtain ⟨r', rfl, rfl, -⟩ := hld 0 (List.length_pos_iff.2 c)
    refine ⟨_, slice_clip slz22 .., fun H1 p x hE hs hx => ?_⟩
    have hn : ldn H1 r' ver l.length off = some (l.map (.int .i64)) := ldn_ints fun i hi => by
      obtain ⟨r2, e2, -, e3⟩ := hld i hi
      obtain rfl := Option.some.inj e2
      exact hE.ld e3
    simp [aAppend, clipOf, h1, h2, h3, h4, hs, hx, hn]
    omega
theorem Clip_ac (v u : AV) (l : List Int) (H : AH) (Q : AV → AH → Prop) (hv : Ls H v l) (hu : aSlice Try.prog 22 v none (some (.int .i64 (l.length : Int))) (some (.int .i64 (l.length : Int))) = some u) (h : Q u H) : AC Try.prog 90 [v] H Q := by
  have hl := ls_len hv
  refine L_body 9 Try.func90 rfl rfl ?_
  refine L_reg [0] (fun K hK => ?_)
  simp
  apply hK; clear hK K
  refine L_reg [2] (fun K hK => ?_)
  simp [hl, hu]
  apply hK; clear hK K
  exact L_ret ⟨.inr rfl, _, rfl, h⟩
theorem bitF : ∀ u : Nat, u < 128 → ∀ i : Nat, i < 8 → IntKind.u64.wrap ((((u : Int).fdiv (2 ^ min i IntKind.u64.bits) % 2 ^ IntKind.u64.bits).toNat &&& 1 % 2 ^ IntKind.u64.bits : Nat) : Int) = if u.testBit i then 1 else 0 := by decide +kernel
theorem bitO : ∀ u : Nat, u < 128 → ∀ i : Nat, i < 8 → IntKind.u64.wrap ((u % 2 ^ IntKind.u64.bits ||| (IntKind.u64.wrap (2 ^ min i IntKind.u64.bits) % 2 ^ IntKind.u64.bits).toNat : Nat) : Int) = ((u ||| 2 ^ i : Nat) : Int) := by decide +kernel
structure PA (ps pe pp : Nat) (sv E : AV) (H : AH) : Prop where
  s : ∃ m, H[ps]? = some (.row [sv] 0 m false)
  e : ∃ m, H[pe]? = some (.row [E] 0 m false)
  p : ∃ m, H[pp]? = some (.row [.func (.func 89) [] [.ptr ps 0 0, .ptr pe 0 0, .ptr pp 0 0]] 0 m false)
theorem PA.kp {ps pe pp : Nat} {sv E : AV} {W : Nat → Prop} {A B : AH} (h : PA ps pe pp sv E A) (k : Kp W A B) (h1 : ¬ W ps) (h2 : ¬ W pe) (h3 : ¬ W pp) : PA ps pe pp sv E B := by
  obtain ⟨⟨m, a⟩, ⟨n, b⟩, ⟨o, c⟩⟩ := h
  exact ⟨⟨m, k.row h1 a⟩, ⟨n, k.row h2 b⟩, ⟨o, k.row h3 c⟩⟩
end Go.Proofs.Ytpfkioakjmpimaa

/- The law's own walk through all arrangements, where a visitor asks something of what it has seen. -/
namespace Go.Proofs.Ytpfkioakjmpimaa
open Go Go.Proofs.Ytpfkioakjmpimaa.AX
set_option linter.unusedVariables false
/-- What a visitor asks holds at each arrangement of a list, one after another. -/
def AllPre {σ : Type} (pre : σ → List Int → Prop) (vis : σ → List Int → σ) : σ → List (List Int) → Prop
  | _, [] => True
  | st, l :: L => pre st l ∧ AllPre pre vis (vis st l) L
theorem pre_app {σ : Type} {pre : σ → List Int → Prop} {vis : σ → List Int → σ} : ∀ {A B : List (List Int)} {st : σ}, AllPre pre vis st (A ++ B) ↔ AllPre pre vis st A ∧ AllPre pre vis (A.foldl vis st) B
  | [], B, st => by simp [AllPre]
  | l :: A, B, st => by
    show pre st l ∧ AllPre pre vis (vis st l) (A ++ B) ↔ (pre st l ∧ AllPre pre vis (vis st l) A) ∧ _
    rw [pre_app (A := A), and_assoc, List.foldl_cons]
theorem pre_flat {σ : Type} {pre : σ → List Int → Prop} {vis : σ → List Int → σ} {f : Nat → List (List Int)} {n : Nat} {st : σ} (h : AllPre pre vis st ((List.range n).flatMap f)) {i : Nat} (hi : i < n) : AllPre pre vis (((List.range i).flatMap f).foldl vis st) (f i) := by
  have e : List.range n = List.range i ++ (i :: (List.range (n - i - 1)).map (i + 1 + ·)) := by
    conv => lhs; rw [show n = i + (1 + (n - i - 1)) by omega]
    rw [List.range_add, List.range_add]
    simp [Function.comp_def, Nat.add_assoc]
  rw [e, List.flatMap_append, pre_app, List.flatMap_cons, pre_app] at h
  exact h.2.1
/-- A visitor that asks something. -/
structure VisP {σ : Type} (s : List Int) (W : Nat → Prop) (N : Nat) (fE : FuncId) (caps : List AV) (S : σ → AH → Prop) (vis : σ → List Int → σ) (pre : σ → List Int → Prop) : Prop where
  ok : okFn Try.prog fE = true
  lt : ∀ j, W j → j < N
  ext : ∀ st H H', S st H → Ext H H' → S st H'
  step : ∀ st v l H (Q : AV → AH → Prop), N ≤ H.length → S st H → pre st l → Ls H v l → (∀ j, rowOf v = some j → ¬ W j) → l.Perm s → (∀ H', S (vis st l) H' → Kp W H H' → Q (.tuple []) H') → AC Try.prog fE (v :: caps) H Q
set_option maxRecDepth 100000 in
set_option maxHeartbeats 1000000 in
theorem putP_ac {σ : Type} {s : List Int} {W : Nat → Prop} {N : Nat} {fE : FuncId} {caps : List AV} {S : σ → AH → Prop} {vis : σ → List Int → σ} {pre : σ → List Int → Prop} (hV : VisP s W N fE caps S vis pre) (hs : Asc s) (hn : ∀ x ∈ s, 0 ≤ x ∧ x ≤ 1000) (h7 : s.length ≤ 7)
    (ps pe pp : Nat) (sv : AV) (w1 : ¬ W ps) (w2 : ¬ W pe) (w3 : ¬ W pp) (hsv : ∀ j, rowOf sv = some j → ¬ W j) :
    ∀ (d : Nat) (b : List Int) (I : List Nat) (u : Nat) (v : AV) (st : σ) (H : AH) (Q : AV → AH → Prop), I.length = d → b.length + d = s.length → (∀ i ∈ I, i < s.length) → I.Nodup → (∀ i, i < s.length → u.testBit i = decide (i ∉ I)) → u < 128 → (b ++ I.map (g s)).Perm s →
      Ls H v b → (b = [] → v = .slice none 0 0 0 1 false) → (∀ j, rowOf v = some j → ¬ W j) → N ≤ H.length → Ls H sv s → PA ps pe pp sv (.func (.func fE) [] caps) H → S st H → AllPre pre vis st (enI s d b I) → (∀ H', S ((enI s d b I).foldl vis st) H' → Kp W H H' → Q (.tuple []) H') → AC Try.prog 89 [v, .int .u64 u, .ptr ps 0 0, .ptr pe 0 0, .ptr pp 0 0] H Q := by
  intro d
  induction d with
  | zero =>
    intro b I u v st H Q hI hb hIl hnd hbit hu hp hv hnl hrv hN hsl hP hS hA h
    obtain rfl : I = [] := List.eq_nil_of_length_eq_zero hI
    obtain ⟨⟨m1, r1⟩, ⟨m2, r2⟩, ⟨m3, r3⟩⟩ := id hP
    have osv : sv.one = true := by obtain ⟨_, _, _, _, _, rfl, -⟩ := hsl; rfl
    have l1 : ld H ps 0 0 = some sv := by rw [ld_row r1]; exact known_one osv
    have l2 : ld H pe 0 0 = some (.func (.func fE) [] caps) := by rw [ld_row r2]; rfl
    have hvl := ls_len hv
    have hsvl := ls_len hsl
    have hok := hV.ok
    refine L_body 48 Try.func89 rfl rfl ?_
    refine L_reg [0, 1, 2, 3, 4, 14] (fun K hK => ?_)
    simp [hvl, l1, hsvl]
    apply hK; clear hK K
    refine L_true (by simp; omega) ?_
    refine L_reg [] (fun K hK => ?_)
    simp [l2, hok]
    refine hV.step st v b H _ hN hS (by have := hA; simp only [enI, AllPre] at this; exact this.1) hv hrv (by simpa using hp) (fun H' hS' hK' => ?_)
    simp
    apply hK; clear hK K
    exact L_ret ⟨.inr rfl, _, rfl, (h H' (by simpa [enI] using hS') hK')⟩
  | succ d ih =>
    intro b I u v st H Q hI hb hIl hnd hbit hu hp hv hnl hrv hN hsl hP hS hA h
    obtain ⟨⟨m1, r1⟩, ⟨m2, r2⟩, ⟨m3, r3⟩⟩ := id hP
    have osv : sv.one = true := by obtain ⟨_, _, _, _, _, rfl, -⟩ := hsl; rfl
    have l1 : ld H ps 0 0 = some sv := by rw [ld_row r1]; exact known_one osv
    have hvl := ls_len hv
    have hsvl := ls_len hsl
    refine L_body 48 Try.func89 rfl rfl ?_
    refine L_reg [0, 1, 2, 3, 4, 14] (fun K hK => ?_)
    simp [hvl, l1, hsvl]
    apply hK; clear hK K
    refine L_false (by simp; omega) ?_
    refine L_reg [0, 1, 2, 4, 7] (fun K hK => ?_)
    simp
    apply hK; clear hK K
    refine L_reg [0, 1, 4, 7, 18, 19, 20] (fun K hK => ?_)
    simp [l1, hsvl]
    apply hK; clear hK K
    refine L_block (L_loopV [7, 20] (fun k vs H' => ∃ (i : Nat) (last : Int), k = s.length - i ∧ i ≤ s.length ∧ -1 ≤ last ∧ last ≤ 1000 ∧ (∀ j ∈ I, j < i → g s j ≤ last) ∧ ((∃ j ∈ I, j < i ∧ g s j = last) ∨ (last = -1 ∧ ∀ j ∈ I, i ≤ j)) ∧ vs = [.int .i64 last, .int .i64 i] ∧
      S (((List.range i).flatMap fun i => if fst' s I i then enI s d (b ++ [g s i]) (I.erase i) else []).foldl vis st) H' ∧ Kp W H H') _ [.int .i64 (-1), .int .i64 0] rfl ⟨0, -1, rfl, by omega, by omega, by omega, fun j _ hj => by omega, .inr ⟨rfl, fun j _ => by omega⟩, rfl, hS, .refl _ _⟩ ?_)
    rintro _ _ H1 ⟨i, last, rfl, hi, hl1, hl2, hle, hla, rfl, hS1, hK1⟩
    refine L_reg [0, 1, 4, 7, 18, 19, 20, 21] (fun K hK => ?_)
    simp
    apply hK; clear hK K
    refine L_dec (i < s.length) (by simp) (fun hlt => ?_) (fun hge => L_exit ?_)
    · refine L_block ?_
      have hsl1 := hK1.ls hsl hsv
      have hv1 := hK1.ls hv hrv
      have hP1 := hP.kp hK1 w1 w2 w3
      obtain ⟨rz, pz, vz, hix, hld⟩ := ls_ix hsl1 hlt
      have bx := hn _ (gmem hlt)
      refine L_reg [0, 1, 4, 7, 8, 9, 18, 19, 20] (fun K hK => ?_)
      simp [hix, hld]
      apply hK; clear hK K
      have hbF := bitF u hu i (by omega)
      rw [hbit i hlt] at hbF
      have hup : (List.range (i + 1)).flatMap (fun i => if fst' s I i then enI s d (b ++ [g s i]) (I.erase i) else []) = (List.range i).flatMap (fun i => if fst' s I i then enI s d (b ++ [g s i]) (I.erase i) else []) ++ if fst' s I i then enI s d (b ++ [g s i]) (I.erase i) else [] := by
        rw [List.range_succ, List.flatMap_append]; simp
      have hfi : fst' s I i ↔ i ∈ I ∧ g s i ≠ last := by
        constructor
        · rintro ⟨c1, c2⟩
          refine ⟨c1, fun e => ?_⟩
          rcases hla with ⟨j, h1, h2, h3⟩ | ⟨h1, -⟩
          · exact c2 j h1 h2 (by rw [h3, e])
          · omega
        · rintro ⟨c1, c2⟩
          refine ⟨c1, fun j hj hlj he => ?_⟩
          rcases hla with ⟨j', h1, h2, h3⟩ | ⟨-, h1⟩
          · have := hle j hj hlj
            have := hs j' i (by omega) hlt
            omega
          · have := h1 j hj; omega
      by_cases c1 : i ∈ I
      · rw [decide_eq_false (by simpa using c1)] at hbF
        by_cases c2 : g s i = last
        · have hnf : ¬ fst' s I i := fun h => (hfi.1 h).2 c2
          have c2' : (g s i != last) = false := by simp [c2]
          refine L_reg [0, 1, 4, 7, 8, 9, 18, 19, 20, 34] (fun K hK => ?_)
          simp [pickV, hbF, c2']
          apply hK; clear hK K
          refine L_false rfl ?_
          refine L_reg [0, 1, 4, 7, 18, 19, 20] (fun K hK => ?_)
          simp [wrap_i64 (a := (i : Int) + 1) (by omega)]
          apply hK; clear hK K
          refine ⟨s.length - (i + 1), [.int .i64 last, .int .i64 (i + 1 : Nat)], by omega, by simp, i + 1, last, rfl, by omega, hl1, hl2, fun j hj hlj => ?_, ?_, rfl, ?_, hK1⟩
          · by_cases e : j = i
            · rw [e, c2]; omega
            · exact hle j hj (by omega)
          · exact .inl ⟨i, c1, by omega, c2⟩
          · rw [hup, if_neg hnf, List.append_nil]; exact hS1
        · have hnf : fst' s I i := hfi.2 ⟨c1, c2⟩
          have c2' : (g s i != last) = true := by simp [c2]
          refine L_reg [0, 1, 4, 7, 8, 9, 18, 19, 20, 34] (fun K hK => ?_)
          simp [pickV, hbF, c2']
          apply hK; clear hK K
          refine L_true rfl ?_
          refine L_reg [0, 1, 4, 7, 8, 9, 18, 19, 20] (fun K hK => ?_)
          simp
          apply hK; clear hK K
          have hrow : Ext H1 (H1 ++ [AObj.row [AV.int .i64 (g s i)] 0 1 false, .row (b.map (.int .i64) ++ [.int .i64 (g s i)]) 0 0 false]) := Ext.push _ _
          obtain ⟨cu, hcu, hcapp⟩ := clip_app hv1 hnl (by omega)
          have hcl1 := fun Q h => Clip_ac v cu b H1 Q hv1 hcu h
          have hEB : Ext H1 (H1 ++ [AObj.row [AV.int .i64 (g s i)] 0 1 false]) := .push _ _
          have hcl2 := fun Q h => Clip_ac v cu b (H1 ++ [AObj.row [AV.int .i64 (g s i)] 0 1 false]) Q (hv1.ext hEB) hcu h
          have hsx : Ls (H1 ++ [AObj.row [AV.int .i64 (g s i)] 0 1 false]) (.slice (some H1.length) 0 1 0 1 false) [g s i] := Ls.row (ro := false) (l := [g s i]) (s := 1) (by simp) false
          have happ := hcapp (H1 ++ [AObj.row [AV.int .i64 (g s i)] 0 1 false]) (.slice (some H1.length) 0 1 0 1 false) (.int .i64 (g s i)) hEB (by have := src_ls el22 hsx; simpa using this) rfl
          have l3 : ld H1 pp 0 0 = some (.func (.func 89) [] [.ptr ps 0 0, .ptr pe 0 0, .ptr pp 0 0]) := by
            obtain ⟨_, _, ⟨m4, r4⟩⟩ := hP1
            rw [ld_row r4]; rfl
          have hok89 : okFn Try.prog 89 = true := by kernel_rfl
          have hw2 : Ls (H1 ++ [AObj.row [AV.int .i64 (g s i)] 0 1 false, .row (b.map (.int .i64) ++ [.int .i64 (g s i)]) 0 0 false]) (.slice (some (H1.length + 1)) 0 (b.length + 1) 0 1 false) (b ++ [g s i]) := by
            have hr3 : (H1 ++ [AObj.row [AV.int .i64 (g s i)] 0 1 false, .row (b.map (.int .i64) ++ [.int .i64 (g s i)]) 0 0 false])[H1.length + 1]? = some (.row ((b ++ [g s i]).map (.int .i64)) 0 0 false) := by simp
            have := Ls.row (ro := false) hr3 false
            simpa using this
          have hpos : (b ++ [g s i] ++ (I.erase i).map (g s)).Perm s := by
            refine List.Perm.trans ?_ hp
            rw [List.append_assoc]
            exact List.Perm.append_left _ ((List.perm_cons_erase c1).map (g s)).symm
          have hge := hK1.1
          have tail : ∀ (Q : AV → AH → Prop), (∀ H4, S (((List.range (i + 1)).flatMap fun i => if fst' s I i then enI s d (b ++ [g s i]) (I.erase i) else []).foldl vis st) H4 → Kp W H H4 → Q (.tuple []) H4) →
              AC Try.prog 89 [.slice (some (H1.length + 1)) 0 (b.length + 1) 0 1 false, .int .u64 ((u ||| 2 ^ i : Nat) : Int), .ptr ps 0 0, .ptr pe 0 0, .ptr pp 0 0] (H1 ++ [AObj.row [AV.int .i64 (g s i)] 0 1 false, .row (b.map (.int .i64) ++ [.int .i64 (g s i)]) 0 0 false]) Q := by
            intro Q hQ
            refine ih (b ++ [g s i]) (I.erase i) (u ||| 2 ^ i) _ _ _ _ (by rw [List.length_erase_of_mem c1]; omega) (by simp; omega) (fun j hj => hIl j (List.mem_of_mem_erase hj)) (hnd.erase _) (fun j hj => ?_) ?_ hpos hw2 (fun e => by simp at e) (fun j hj => ?_) (by simp; omega) (hsl1.ext hrow) (hP1.kp (.of hrow) w1 w2 w3) (hV.ext _ _ _ hS1 hrow) (by have := pre_flat (by simpa only [enI] using hA) hlt; rwa [if_pos hnf] at this) (fun H4 hS4 hK4 => hQ H4 ?_ (hK1.trans ((Kp.of hrow).trans hK4)))
            · rw [Nat.testBit_or, Nat.testBit_two_pow, hbit j hj]
              have hm := hnd.mem_erase_iff (a := i) (b := j)
              by_cases e : i = j
              · subst e; simp [hm]
              · have e' : j ≠ i := fun h => e h.symm
                simp [e, e']
            · exact Nat.or_lt_two_pow (n := 7) hu (Nat.lt_of_lt_of_le (Nat.pow_lt_pow_right (by omega) (by omega : i < 7)) (Nat.le_refl _))
            · have : H1.length + 1 = j := by simpa [rowOf] using hj
              intro hw
              have := hV.lt j hw
              omega
            · rw [hup, if_pos hnf, List.foldl_append]; exact hS4
          refine L_regR mixed (fun K hK => ?_)
          have hfin : ∀ H4, S (((List.range (i + 1)).flatMap fun i => if fst' s I i then enI s d (b ++ [g s i]) (I.erase i) else []).foldl vis st) H4 → Kp W H H4 → K .normal [(0, v), (1, .int .u64 u), (4, .ptr pp 0 0), (7, .int .i64 (g s i)), (18, sv), (19, .int .i64 s.length), (20, .int .i64 i)] H4 := fun H4 hS4 hK4 => by
            apply hK; clear hK K
            refine L_reg [0, 1, 4, 7, 18, 19, 20] (fun K hK => ?_)
            simp [wrap_i64 (a := (i : Int) + 1) (by omega)]
            apply hK; clear hK K
            refine ⟨s.length - (i + 1), [.int .i64 (g s i), .int .i64 (i + 1 : Nat)], by omega, by simp, i + 1, g s i, rfl, by omega, by omega, by omega, fun j hj hlj => hs j i (by omega) hlt, .inl ⟨i, c1, by omega, rfl⟩, rfl, hS4, hK4⟩
          refine AWR_pair (x := 2) (y := 4) (ord := [0, 1, 3, 4, 2, 5, 6, 7, 8, 9, 10]) (by kernel_rfl) ?_ ?_
          · refine AWR_UM [0, 1, 4, 7, 18, 19, 20] [true, false, false, false, false, false, false, false, false, false] rfl (by kernel_rfl) ?_
            simp [addE, okFn_low, l3]
            refine exX_mk hcl1 (.refl _) ?_
            have hbO := bitO u hu i (by omega)
            simp [happ, hEB, hok89, hbO]
            refine ⟨fun _ => hrow, tail _ fun H4 hS4 hK4 => ?_⟩
            simp
            exact hfin H4 hS4 hK4
          · refine AWR_UM [0, 1, 4, 7, 18, 19, 20] [true, false, false, false, false, false, false, false, false, false] rfl (by kernel_rfl) ?_
            simp [addE, permL, okFn_low, l3]
            refine ⟨hEB, exX_mk hcl2 (.refl _) ?_⟩
            have hbO := bitO u hu i (by omega)
            simp [happ, hok89, hbO]
            refine ⟨fun _ => hrow, tail _ fun H4 hS4 hK4 => ?_⟩
            simp
            exact hfin H4 hS4 hK4
      · have hnf : ¬ fst' s I i := fun h => c1 h.1
        rw [decide_eq_true (by simpa using c1)] at hbF
        refine L_reg [0, 1, 4, 7, 8, 9, 18, 19, 20, 34] (fun K hK => ?_)
        simp [pickV, hbF]
        apply hK; clear hK K
        refine L_false rfl ?_
        refine L_reg [0, 1, 4, 7, 18, 19, 20] (fun K hK => ?_)
        simp [wrap_i64 (a := (i : Int) + 1) (by omega)]
        apply hK; clear hK K
        refine ⟨s.length - (i + 1), [.int .i64 last, .int .i64 (i + 1 : Nat)], by omega, by simp, i + 1, last, rfl, by omega, hl1, hl2, fun j hj hlj => ?_, ?_, rfl, ?_, hK1⟩
        · by_cases e : j = i
          · rw [e] at hj; exact absurd hj c1
          · exact hle j hj (by omega)
        · rcases hla with ⟨j, h1, h2, h3⟩ | ⟨h1, h2⟩
          · exact .inl ⟨j, h1, by omega, h3⟩
          · refine .inr ⟨h1, fun j hj => ?_⟩
            have := h2 j hj
            by_cases e : j = i
            · rw [e] at hj; exact absurd hj c1
            · omega
        · rw [hup, if_neg hnf, List.append_nil]; exact hS1
    · obtain rfl : i = s.length := by omega
      exact ⟨.inl rfl, _, rfl, h H1 (by simpa only [enI] using hS1) hK1⟩
set_option maxRecDepth 100000 in
theorem allP_ac {σ : Type} {s : List Int} {W : Nat → Prop} {N : Nat} {fE : FuncId} {caps : List AV} {S : σ → AH → Prop} {vis : σ → List Int → σ} {pre : σ → List Int → Prop} (hV : VisP s W N fE caps S vis pre) (hs : Asc s) (hn : ∀ x ∈ s, 0 ≤ x ∧ x ≤ 1000) (h7 : s.length ≤ 7)
    (v : AV) (st : σ) (H : AH) (Q : AV → AH → Prop) (hv : Ls H v s) (hrv : ∀ j, rowOf v = some j → ¬ W j) (hN : N ≤ H.length) (hS : S st H) (hA : AllPre pre vis st (en s)) (h : ∀ H', S ((en s).foldl vis st) H' → Kp W H H' → Q (.tuple []) H') : AC Try.prog 48 [v, .func (.func fE) [] caps] H Q := by
  obtain ⟨r0, off0, ver0, sz0, full0, hv0, -⟩ := id hv
  refine L_body 8 Try.func48 rfl rfl ?_
  refine L_reg [2, 3] (fun K hK => ?_)
  simp [hv0, AV.isU, acells]
  apply hK; clear hK K
  rw [← hv0]
  refine L_reg [2, 3, 4] (fun K hK => ?_)
  simp
  apply hK; clear hK K
  have hz : List.map (absV 2) Value.nilFunc.cells.toList = [AV.nilfunc] := by rfl
  have hst : storeV Try.prog 82 (H ++ [AObj.row [v] 0 0 false, AObj.row [.func (.func fE) [] caps] 0 0 false, AObj.row [AV.nilfunc] 0 0 false]) (.ptr (H.length + 2) 0 0) (.func (.func 89) [] [.ptr H.length 0 0, .ptr (H.length + 1) 0 0, .ptr (H.length + 2) 0 0]) = some (none, H ++ [AObj.row [v] 0 0 false, AObj.row [.func (.func fE) [] caps] 0 0 false, AObj.row [.func (.func 89) [] [.ptr H.length 0 0, .ptr (H.length + 1) 0 0, .ptr (H.length + 2) 0 0]] 0 0 false]) := by
    have := store_last (P := Try.prog) (H := H ++ [AObj.row [v] 0 0 false, AObj.row [.func (.func fE) [] caps] 0 0 false]) (u := 82) (c := [AV.nilfunc]) (p := 0) (v := 0) (s := 0) sc82 (x := .func (.func 89) [] [.ptr H.length 0 0, .ptr (H.length + 1) 0 0, .ptr (H.length + 2) 0 0]) (y := .nilfunc) rfl rfl
    simpa using this
  refine L_reg [4] (fun K hK => ?_)
  simp [hz, hst]
  apply hK; clear hK K
  have hE : Ext H (H ++ [AObj.row [v] 0 0 false, AObj.row [.func (.func fE) [] caps] 0 0 false, AObj.row [.func (.func 89) [] [.ptr H.length 0 0, .ptr (H.length + 1) 0 0, .ptr (H.length + 2) 0 0]] 0 0 false]) := .push _ _
  have hP : PA H.length (H.length + 1) (H.length + 2) v (.func (.func fE) [] caps) (H ++ [AObj.row [v] 0 0 false, AObj.row [.func (.func fE) [] caps] 0 0 false, AObj.row [.func (.func 89) [] [.ptr H.length 0 0, .ptr (H.length + 1) 0 0, .ptr (H.length + 2) 0 0]] 0 0 false]) := ⟨⟨0, by simp⟩, ⟨0, by simp⟩, ⟨0, by simp⟩⟩
  generalize H ++ [AObj.row [v] 0 0 false, AObj.row [.func (.func fE) [] caps] 0 0 false, AObj.row [.func (.func 89) [] [.ptr H.length 0 0, .ptr (H.length + 1) 0 0, .ptr (H.length + 2) 0 0]] 0 0 false] = H1 at *
  have l3 : ld H1 (H.length + 2) 0 0 = some (.func (.func 89) [] [.ptr H.length 0 0, .ptr (H.length + 1) 0 0, .ptr (H.length + 2) 0 0]) := by
    obtain ⟨-, -, ⟨m4, r4⟩⟩ := hP
    rw [ld_row r4]; rfl
  have hok89 : okFn Try.prog 89 = true := by kernel_rfl
  have hW : ∀ k, ¬ W (H.length + k) := fun k hk => by have := hV.lt _ hk; omega
  have := hE.1
  refine L_reg [] (fun K hK => ?_)
  simp [l3, hok89]
  refine putP_ac hV hs hn h7 H.length (H.length + 1) (H.length + 2) v (hW 0) (hW 1) (hW 2) hrv s.length [] (List.range s.length) 0 _ st H1 _ (by simp) (by simp) (fun i hi => List.mem_range.1 hi) List.nodup_range (fun i hi => by simp [hi]) (by decide) (by rw [map_g]; exact .refl _) (.nil _) (fun _ => rfl) (fun j hj => by simp [rowOf] at hj) (by omega) (hv.ext hE) hP (hV.ext _ _ _ hS hE) hA (fun H4 hS4 hK4 => ?_)
  simp
  apply hK; clear hK K
  exact ⟨.inl rfl, _, rfl, h H4 hS4 ((Kp.of hE).trans hK4)⟩
end Go.Proofs.Ytpfkioakjmpimaa

/- How many turning orders begin with a number: the triangle, row by row. -/
namespace Go.Proofs.Ytpfkioakjmpimaa
open Go Go.Proofs.Ytpfkioakjmpimaa.AX
set_option linter.unusedVariables false
theorem Bd.mono {M N : Int} {l : List Int} (h : Bd M l) (hn : M ≤ N) : Bd N l := fun x hx => by have := h x hx; omega
/-- The triangle's row with an index: its sums of the row before. -/
def ern : Nat → List Int
  | 0 => [1]
  | m + 1 => (List.range (m + 2)).map fun f => ((ern m).take (m + 1 - f)).sum
theorem ern_len (m : Nat) : (ern m).length = m + 1 := by cases m <;> simp [ern]
theorem ern_g {m f : Nat} (h : f < m + 2) : g (ern (m + 1)) f = ((ern m).take (m + 1 - f)).sum := by
  rw [g_lt (by simp [ern]; omega)]; simp [ern]
theorem ern_bd : ∀ m, m ≤ 8 → Bd 10000 (ern m) := by unfold Bd; decide
theorem ern_sum : ∀ m, m ≤ 8 → ∀ f, f ≤ 9 → 0 ≤ ((ern m).take f).sum ∧ ((ern m).take f).sum ≤ 100000 := by decide
/-- Orders of n cigars that begin with k, and all of them. -/
def eb (n k : Nat) : Int := g (ern (n - 1)) k
def ec (n : Nat) : Int := (ern (n - 1)).sum
set_option maxRecDepth 100000 in
theorem begins_ac (n : Nat) (h1 : 1 ≤ n) (h9 : n ≤ 9) (H : AH) (Q : AV → AH → Prop) (h : ∀ v H', OwnF H.length H' v ((ern (n - 1)).map (.int .i64)) → Ext H H' → Q v H') : AC Try.prog 82 [.int .i64 n] H Q := by
  refine L_body 33 Try.func82 rfl rfl ?_
  refine L_reg [0] (fun K hK => ?_)
  simp
  apply hK; clear hK K
  refine L_reg [0, 3] (fun K hK => ?_)
  simp
  apply hK; clear hK K
  have hE : Ext H (H ++ [AObj.row [AV.int .i64 1] 0 1 false]) := .push _ _
  have hO : OwnF H.length (H ++ [AObj.row [AV.int .i64 1] 0 1 false]) (.slice (some H.length) 0 1 0 1 false) ((ern 0).map (.int .i64)) := .inr ⟨H.length, 0, 1, Nat.le_refl _, rfl, by simp [ern]⟩
  generalize H ++ [AObj.row [AV.int .i64 1] 0 1 false] = H1 at hE hO ⊢
  refine L_block (L_loopV [3] (fun k vs H' => ∃ (j : Nat) (w : AV), k = n - (j + 1) ∧ j + 1 ≤ n ∧ vs = [w] ∧ OwnF H.length H' w ((ern j).map (.int .i64)) ∧ Ext H H') _ [_] rfl ⟨0, _, rfl, by omega, rfl, hO, hE⟩ ?_)
  rintro _ _ H2 ⟨j, w, rfl, hj, rfl, hO2, hE2⟩
  have hw := hO2.own.ls
  have hl := ls_len hw
  rw [ern_len] at hl
  refine L_reg [0, 3, 10] (fun K hK => ?_)
  simp [hl]
  apply hK; clear hK K
  refine L_dec (j + 1 < n) (by simp; omega) (fun hlt => ?_) (fun hge => L_exit ?_)
  · refine L_block ?_
    have e1 : (j : Int) + 1 + 1 = ((j + 2 : Nat) : Int) := by omega
    have hmk := fun H => make_z (P := Try.prog) (H := H) elz22 (show j + 2 ≤ 16777216 by omega)
    rw [show ((j + 2 : Nat) : Int) = (j : Int) + 2 by omega] at hmk
    have e0 : IntKind.i64.wrap ((j : Int) + 1 + 1) = ((j + 2 : Nat) : Int) := by rw [wrap_i64 (by omega)]; omega
    refine L_reg [0, 3, 4] (fun K hK => ?_)
    simp [hl, e0, hmk]
    apply hK; clear hK K
    have hrow : Rw H2.length 0 (H2 ++ [AObj.row (List.replicate (j + 2) (AV.int .i64 0)) 0 0 false]) (List.replicate (j + 2) 0) := ⟨0, by simp⟩
    have hE3 : Ext H2 (H2 ++ [AObj.row (List.replicate (j + 2) (AV.int .i64 0)) 0 0 false]) := .push _ _
    have hE23 := hE2.trans hE3
    have hw3 := hw.ext hE3
    have hge2 := hE2.1
    generalize H2 ++ [AObj.row (List.replicate (j + 2) (AV.int .i64 0)) 0 0 false] = H3 at hrow hE3 hE23 hw3 ⊢
    refine L_reg [0, 3, 4, 16, 17] (fun K hK => ?_)
    simp
    apply hK; clear hK K
    refine L_block (L_loopV [17] (fun k vs H' => ∃ (f : Nat) (d : List Int), k = j + 2 - f ∧ f ≤ j + 2 ∧ d.length = j + 2 ∧ (∀ i, i < f → g d i = g (ern (j + 1)) i) ∧ vs = [.int .i64 f] ∧ Rw H2.length 0 H' d ∧ KeepX H2.length H3 H') _ [.int .i64 0] rfl ⟨0, _, rfl, by omega, by simp, fun i hi => by omega, rfl, hrow, .refl _ _⟩ ?_)
    rintro _ _ H4 ⟨f, d, rfl, hf, hdl, hd, rfl, hr4, hK4⟩
    refine L_reg [0, 3, 4, 16, 17, 18] (fun K hK => ?_)
    simp
    apply hK; clear hK K
    refine L_dec (f < j + 2) (by simp; omega) (fun hlt2 => ?_) (fun hge2 => L_exit ?_)
    · refine L_block ?_
      have hw4 : Ls H4 w (ern j) := ls_keep hw3 fun i hi hi2 => by
        have := ownF_rowlt hO2 hi2
        exact hK4.2 i (by omega) hi
      refine L_reg [0, 3, 4, 5, 16, 17] (fun K hK => ?_)
      simp
      apply hK; clear hK K
      have e2 : IntKind.i64.wrap ((j : Int) + 1 - f) = ((j + 1 - f : Nat) : Int) := by rw [wrap_i64 (by omega)]; omega
      obtain ⟨u, hu1, hu2⟩ := ls_hi hw4 (by rw [ern_len]; omega) (m := j + 1 - f) (by rw [ern_len]; omega)
      have hb := ern_bd j (by omega)
      have hs := ern_sum j (by omega) (j + 1 - f) (by omega)
      have hgf := ern_g (m := j) (f := f) hlt2
      obtain ⟨H5, p3, p4, p5⟩ := hr4.put (i := f) (by omega) (g (ern (j + 1)) f)
      rw [hgf] at p3
      refine L_reg [0, 3, 4, 16, 17] (fun K hK => ?_)
      simp [okFn_low, hl, e2, hu1]
      refine total_ac u _ _ _ (by simp [ern_len]; omega) ((hb.take _).mono (by decide : (10000 : Int) ≤ 1000000000)) hu2 ?_
      simp [show (f : Int) < (j : Int) + 2 by omega, p3]
      apply hK; clear hK K
      refine L_reg [0, 3, 4, 16, 17] (fun K hK => ?_)
      simp [wrap_i64 (a := (f : Int) + 1) (by omega)]
      apply hK; clear hK K
      refine ⟨j + 2 - (f + 1), [.int .i64 (f + 1 : Nat)], by omega, by simp, f + 1, _, rfl, by omega, by simpa using hdl, fun i hi => ?_, rfl, p4, hK4.trans p5⟩
      rw [g_set (by omega)]
      split
      · rename_i e; rw [e]
      · exact hd i (by omega)
    · have : d = ern (j + 1) := g_ext (by rw [ern_len]; omega) fun i hi => hd i (by omega)
      subst this
      refine L_reg [0, 3] (fun K hK => ?_)
      simp
      apply hK; clear hK K
      refine ⟨n - (j + 2), [_], by omega, rfl, j + 1, _, rfl, by omega, rfl, ?_, hK4.new hE23 (by omega)⟩
      have := hr4.ownF (N := H.length) (by omega)
      rwa [ern_len] at this
  · obtain rfl : j = n - 1 := by omega
    refine L_reg [2] (fun K hK => ?_)
    simp
    apply hK; clear hK K
    exact L_ret ⟨.inr rfl, _, rfl, h _ _ hO2 hE2⟩
theorem isOrder_ac (n : Int) (b : Bool) (hb : b = decide (1 ≤ n ∧ n ≤ 9)) (H : AH) (Q : AV → AH → Prop) (h : Q (.bool b) H) : AC Try.prog 79 [.int .i64 n] H Q := by
  refine L_body 9 Try.func79 rfl rfl ?_
  refine L_reg [0] (fun K hK => ?_)
  simp
  apply hK; clear hK K
  by_cases a : 1 ≤ n
  · refine L_reg [2] (fun K hK => ?_)
    simp [pickV, a]
    apply hK; clear hK K
    exact L_ret ⟨.inr rfl, _, rfl, (by simpa [a, hb] using h)⟩
  · refine L_reg [2] (fun K hK => ?_)
    simp [pickV, a]
    apply hK; clear hK K
    exact L_ret ⟨.inr rfl, _, rfl, (by simpa [a, hb] using h)⟩
theorem count_ac (n : Nat) (h1 : 1 ≤ n) (h9 : n ≤ 9) (H : AH) (Q : AV → AH → Prop) (h : Q (.int .i64 (ec n)) H) : AC Try.prog 80 [.int .i64 n] H Q := by
  refine AC.quiet (belB_int _ _ _ _) (fun Q h => ?_) Q h
  refine L_body 6 Try.func80 rfl rfl ?_
  refine L_reg [0] (fun K hK => ?_)
  simp
  apply hK; clear hK K
  refine L_reg [2] (fun K hK => ?_)
  simp [okFn_low]
  refine begins_ac n h1 h9 _ _ (fun w H1 hO hE => ?_)
  simp [okFn_low]
  refine total_ac w _ _ _ (by simp [ern_len]; omega) ((ern_bd (n - 1) (by omega)).mono (by decide : (10000 : Int) ≤ 1000000000)) hO.own.ls ?_
  simp
  apply hK; clear hK K
  exact L_ret ⟨.inr rfl, _, rfl, h H1 hE⟩
def bgV (n k : Int) : Int := if (1 ≤ n ∧ n ≤ 9) ∧ 0 ≤ k ∧ k < n then eb n.toNat k.toNat else 0
def bgE (n k : Int) : Int := if (1 ≤ n ∧ n ≤ 9) ∧ 0 ≤ k ∧ k < n then 0 else 1
def cnV (n : Int) : Int := if 1 ≤ n ∧ n ≤ 9 then ec n.toNat else 0
def cnE (n : Int) : Int := if 1 ≤ n ∧ n ≤ 9 then 0 else 1
theorem Count_ac (n : Int) (H : AH) (Q : AV → AH → Prop) (h : Q (.tuple [.int .i64 (cnV n), .int .i64 (cnE n)]) H) : AC Try.prog 37 [.int .i64 n] H Q := by
  refine L_body 9 Try.func37 rfl rfl ?_
  refine L_reg [0] (fun K hK => ?_)
  simp
  apply hK; clear hK K
  unfold cnV cnE at h
  by_cases a : 1 ≤ n ∧ n ≤ 9
  · rw [if_pos a, if_pos a] at h
    refine L_reg [0, 6] (fun K hK => ?_)
    simp [okFn_low]
    refine isOrder_ac _ true (by simp [a]) _ _ ?_
    simp
    apply hK; clear hK K
    refine L_false rfl ?_
    obtain ⟨m, rfl⟩ : ∃ m : Nat, n = m := ⟨n.toNat, by omega⟩
    refine L_reg [2, 3] (fun K hK => ?_)
    simp [okFn_low]
    refine count_ac m (by omega) (by omega) _ _ ?_
    simp
    apply hK; clear hK K
    exact L_ret ⟨.inr rfl, _, rfl, (by simpa using h)⟩
  · rw [if_neg a, if_neg a] at h
    refine L_reg [0, 6] (fun K hK => ?_)
    simp [okFn_low]
    refine isOrder_ac _ false (by simp; omega) _ _ ?_
    simp
    apply hK; clear hK K
    refine L_true rfl ?_
    refine L_reg [2, 3] (fun K hK => ?_)
    simp
    apply hK; clear hK K
    exact L_ret ⟨.inr rfl, _, rfl, h⟩
theorem Begin_ac (n k : Int) (H : AH) (Q : AV → AH → Prop) (h : Q (.tuple [.int .i64 (bgV n k), .int .i64 (bgE n k)]) H) : AC Try.prog 39 [.int .i64 n, .int .i64 k] H Q := by
  refine AC.quiet (by simp [belB]) (fun Q h => ?_) Q h
  refine L_body 23 Try.func39 rfl rfl ?_
  refine L_reg [0, 1] (fun K hK => ?_)
  simp
  apply hK; clear hK K
  unfold bgV bgE at h
  by_cases a : 1 ≤ n ∧ n ≤ 9
  · by_cases a4 : k < 0
    · rw [if_neg (by omega), if_neg (by omega)] at h
      refine L_reg [0, 1, 17] (fun K hK => ?_)
      simp [okFn_low]
      refine isOrder_ac _ true (by simp [a]) _ _ ?_
      simp [pickV, a4]
      apply hK; clear hK K
      refine L_true rfl ?_
      refine L_reg [4, 5] (fun K hK => ?_)
      simp
      apply hK; clear hK K
      exact L_ret ⟨.inr rfl, _, rfl, h H (.refl _)⟩
    · by_cases a5 : n ≤ k
      · rw [if_neg (by omega), if_neg (by omega)] at h
        refine L_reg [0, 1, 17] (fun K hK => ?_)
        simp [okFn_low]
        refine isOrder_ac _ true (by simp [a]) _ _ ?_
        simp [pickV, a4, a5]
        apply hK; clear hK K
        refine L_true rfl ?_
        refine L_reg [4, 5] (fun K hK => ?_)
        simp
        apply hK; clear hK K
        exact L_ret ⟨.inr rfl, _, rfl, h H (.refl _)⟩
      · rw [if_pos (by omega), if_pos (by omega)] at h
        refine L_reg [0, 1, 17] (fun K hK => ?_)
        simp [okFn_low]
        refine isOrder_ac _ true (by simp [a]) _ _ ?_
        simp [pickV, a4, a5]
        apply hK; clear hK K
        refine L_false rfl ?_
        obtain ⟨m, rfl⟩ : ∃ m : Nat, n = m := ⟨n.toNat, by omega⟩
        obtain ⟨f, rfl⟩ : ∃ f : Nat, k = f := ⟨k.toNat, by omega⟩
        refine L_reg [4, 5] (fun K hK => ?_)
        simp [okFn_low]
        refine begins_ac m (by omega) (by omega) _ _ (fun w H1 hO hE => ?_)
        obtain ⟨rz, pz, vz, hix, hld⟩ := ls_ix hO.own.ls (i := f) (by rw [ern_len]; omega)
        simp [hix, hld]
        apply hK; clear hK K
        exact L_ret ⟨.inr rfl, _, rfl, (by simpa [eb] using h H1 hE)⟩
  · rw [if_neg (by omega), if_neg (by omega)] at h
    refine L_reg [0, 1, 17] (fun K hK => ?_)
    simp [okFn_low]
    refine isOrder_ac _ false (by simp; omega) _ _ ?_
    simp [pickV]
    apply hK; clear hK K
    refine L_true rfl ?_
    refine L_reg [4, 5] (fun K hK => ?_)
    simp
    apply hK; clear hK K
    exact L_ret ⟨.inr rfl, _, rfl, h H (.refl _)⟩
end Go.Proofs.Ytpfkioakjmpimaa

/- Sums over the first numbers. -/
namespace Go.Proofs.Ytpfkioakjmpimaa
open Go Go.Proofs.Ytpfkioakjmpimaa.AX
set_option linter.unusedVariables false
def sumN (f : Nat → Int) : Nat → Int
  | 0 => 0
  | n + 1 => sumN f n + f n
theorem sumN_eq {f h : Nat → Int} : ∀ {n : Nat}, (∀ i, i < n → f i = h i) → sumN f n = sumN h n
  | 0, _ => rfl
  | n + 1, e => by
    have h1 := sumN_eq (f := f) (h := h) (n := n) fun i hi => e i (by omega)
    have h2 := e n (by omega)
    simp only [sumN]; omega
theorem sum_take_N (l : List Int) : ∀ i, i ≤ l.length → (l.take i).sum = sumN (g l) i
  | 0, _ => rfl
  | i + 1, h => by rw [sum_take (by omega), sum_take_N l i (by omega)]; rfl
theorem sum_N (l : List Int) : l.sum = sumN (g l) l.length := by
  have := sum_take_N l l.length (Nat.le_refl _)
  rwa [List.take_length] at this
end Go.Proofs.Ytpfkioakjmpimaa

/- How many turning orders begin with some numbers: the mathematics. -/
namespace Go.Proofs.Ytpfkioakjmpimaa
open Go Go.Proofs.Ytpfkioakjmpimaa.AX
set_option linter.unusedVariables false
/-- How many numbers below k are not in a list. -/
def cn (L : List Int) : Nat → Nat
  | 0 => 0
  | k + 1 => cn L k + if (k : Int) ∈ L then 0 else 1
theorem cn_nil : ∀ k, cn [] k = k
  | 0 => rfl
  | k + 1 => by simp [cn, cn_nil k]
theorem cn_mono (L : List Int) : ∀ {j k : Nat}, j ≤ k → cn L j ≤ cn L k
  | j, 0, h => by rw [show j = 0 by omega]; exact Nat.le_refl _
  | j, k + 1, h => by
    by_cases e : j = k + 1
    · rw [e]; exact Nat.le_refl _
    · have := cn_mono L (j := j) (k := k) (by omega)
      simp only [cn]; omega
theorem cn_snoc {b : List Int} {x : Nat} (hx : (x : Int) ∉ b) : ∀ k, cn (b ++ [(x : Int)]) k + (if x < k then 1 else 0) = cn b k
  | 0 => by simp [cn]
  | k + 1 => by
    have := cn_snoc hx k
    simp only [cn, List.mem_append, List.mem_singleton]
    by_cases e : k = x
    · subst e
      rw [if_neg (by omega)] at this
      rw [if_pos (.inr rfl), if_neg hx, if_pos (by omega)]; omega
    · have e' : (k : Int) ≠ x := by omega
      by_cases m : (k : Int) ∈ b
      · rw [if_pos (.inl m), if_pos m]
        by_cases c : x < k
        · rw [if_pos c] at this; rw [if_pos (by omega)]; omega
        · rw [if_neg c] at this; rw [if_neg (by omega)]; omega
      · rw [if_neg (by rintro (h | h); exact m h; exact e' h), if_neg m]
        by_cases c : x < k
        · rw [if_pos c] at this; rw [if_pos (by omega)]; omega
        · rw [if_neg c] at this; rw [if_neg (by omega)]; omega
theorem cn_below {b : List Int} {x : Nat} (hx : (x : Int) ∉ b) : cn (b ++ [(x : Int)]) x = cn b x := by
  have := cn_snoc hx x
  rw [if_neg (by omega)] at this; omega
/-- A sum over the numbers that are left, by their places. -/
theorem sum_left (L : List Int) (f : Nat → Int) : ∀ n, sumN (fun y => if (y : Int) ∈ L then 0 else f (cn L y)) n = sumN f (cn L n)
  | 0 => rfl
  | n + 1 => by
    have ih := sum_left L f n
    simp only [sumN, cn]
    by_cases m : (n : Int) ∈ L
    · rw [if_pos m, if_pos m, ih]; simp
    · rw [if_neg m, if_neg m, ih]; rfl
theorem sum_below (L : List Int) (f : Nat → Int) {x : Nat} (hx : (x : Int) ∈ L) : ∀ n, sumN (fun y => if (y : Int) ∈ L then 0 else if y < x then f (cn L y) else 0) n = sumN f (cn L (min n x))
  | 0 => by simp [sumN, cn]
  | n + 1 => by
    have ih := sum_below L f hx n
    simp only [sumN]
    rw [ih]
    by_cases c : n < x
    · rw [show min n x = n by omega, show min (n + 1) x = n + 1 by omega]
      simp only [cn, if_pos c]
      by_cases m : (n : Int) ∈ L
      · rw [if_pos m, if_pos m]; simp
      · rw [if_neg m, if_neg m]; rfl
    · rw [show min n x = x by omega, show min (n + 1) x = x by omega, if_neg c]
      split <;> simp
theorem sumN_add (f h : Nat → Int) : ∀ n, sumN (fun y => f y + h y) n = sumN f n + sumN h n
  | 0 => rfl
  | n + 1 => by simp only [sumN]; rw [sumN_add f h n]; omega
theorem sum_above (L : List Int) (f : Nat → Int) {x n : Nat} (hx : (x : Int) ∈ L) (hn : x < n) : sumN (fun y => if (y : Int) ∈ L then 0 else if x < y then f (cn L y) else 0) n = sumN f (cn L n) - sumN f (cn L x) := by
  have h1 := sum_left L f n
  have h2 := sum_below L f hx n
  rw [show min n x = x by omega] at h2
  have h3 := sumN_add (fun y => if (y : Int) ∈ L then 0 else if y < x then f (cn L y) else 0) (fun y => if (y : Int) ∈ L then 0 else if x < y then f (cn L y) else 0) n
  have h4 : sumN (fun y => (if (y : Int) ∈ L then 0 else if y < x then f (cn L y) else 0) + (if (y : Int) ∈ L then 0 else if x < y then f (cn L y) else 0)) n = sumN (fun y => if (y : Int) ∈ L then 0 else f (cn L y)) n := sumN_eq fun y _ => by
    by_cases m : (y : Int) ∈ L
    · simp [m]
    · rw [if_neg m, if_neg m, if_neg m]
      rcases Nat.lt_trichotomy x y with c | c | c
      · rw [if_neg (by omega), if_pos c]; omega
      · subst c; exact absurd hx m
      · rw [if_pos c, if_neg (by omega)]; omega
  omega
/-- Sums from the other end. -/
theorem sum_flip (f : Nat → Int) (d : Nat) : ∀ r, r ≤ d → sumN (fun j => f (d - 1 - j)) d - sumN (fun j => f (d - 1 - j)) r = sumN f (d - r) := by
  have : ∀ k, k ≤ d → sumN (fun j => f (d - 1 - j)) d - sumN (fun j => f (d - 1 - j)) (d - k) = sumN f k := by
    intro k
    induction k with
    | zero => intro _; simp [sumN]
    | succ k ih =>
      intro hk
      have h1 := ih (by omega)
      have e : sumN (fun j => f (d - 1 - j)) (d - k) = sumN (fun j => f (d - 1 - j)) (d - (k + 1)) + f k := by
        rw [show d - k = (d - (k + 1)) + 1 by omega]
        simp only [sumN]
        congr 2; omega
      simp only [sumN]; omega
  intro r hr
  have h := this (d - r) (by omega)
  rwa [show d - (d - r) = r by omega] at h
/-- The place, among the numbers left, of the one that begins them: from below, or from above. -/
def rkS (n : Nat) (b : List Int) (x : Nat) : Nat := if b.length % 2 = 1 then n - b.length - 1 - cn b x else cn b x
/-- How many turning orders begin with some numbers and the next one. -/
def folS (n : Nat) (b : List Int) (x : Nat) : Int := if (x : Int) ∈ b ∨ altB (b ++ [(x : Int)]) = false then 0 else eb (n - b.length) (rkS n b x)
/-- The same, as the reference counts them. -/
def cntS (n : Nat) : Nat → List Int → Int
  | 0, b => if altB b = false then 0 else 1
  | d + 1, b => if altB b = false then 0 else sumN (fun x => if (x : Int) ∈ b then 0 else cntS n d (b ++ [(x : Int)])) n
/-- Numbers of an order that has begun. -/
structure Beg (n : Nat) (b : List Int) : Prop where
  nd : b.Nodup
  lt : ∀ x ∈ b, 0 ≤ x ∧ x < n
  cn : cn b n + b.length = n
theorem Beg.nil (n : Nat) : Beg n [] := ⟨.nil, by simp, by simp [cn_nil]⟩
theorem Beg.snoc {n : Nat} {b : List Int} (h : Beg n b) {x : Nat} (hx : x < n) (hm : (x : Int) ∉ b) : Beg n (b ++ [(x : Int)]) where
  nd := by
    rw [List.nodup_append]
    exact ⟨h.nd, by simp, fun a ha c hc e => by rw [List.mem_singleton.1 hc] at e; rw [e] at ha; exact hm ha⟩
  lt y hy := by
    rcases List.mem_append.1 hy with hy | hy
    · exact h.lt y hy
    · rw [List.mem_singleton.1 hy]; omega
  cn := by
    have h1 := cn_snoc hm n
    rw [if_pos hx] at h1
    have h2 := h.cn
    simp; omega
theorem alt_snoc {b : List Int} {x y : Int} : altB (b ++ [x] ++ [y]) = (altB (b ++ [x]) && if b.length % 2 = 0 then decide (x < y) else decide (y < x)) := by
  unfold altB
  rw [show (b ++ [x] ++ [y]).length - 1 = ((b ++ [x]).length - 1) + 1 by simp, List.range_succ, List.all_append]
  have e1 : (List.range ((b ++ [x]).length - 1)).all (altAt (b ++ [x] ++ [y])) = (List.range ((b ++ [x]).length - 1)).all (altAt (b ++ [x])) := by
    rw [Bool.eq_iff_iff, List.all_eq_true, List.all_eq_true]
    have : ∀ i ∈ List.range ((b ++ [x]).length - 1), altAt (b ++ [x] ++ [y]) i = altAt (b ++ [x]) i := fun i hi => by
      have := List.mem_range.1 hi
      unfold altAt
      rw [g_app1 (a := b ++ [x]) (by omega), g_app1 (a := b ++ [x]) (by omega)]
    exact ⟨fun h i hi => by rw [← this i hi]; exact h i hi, fun h i hi => by rw [this i hi]; exact h i hi⟩
  rw [e1]
  congr 1
  have e2 : (b ++ [x]).length - 1 = b.length := by simp
  rw [e2]
  simp only [List.all_cons, List.all_nil, Bool.and_true]
  unfold altAt
  rw [g_app1 (a := b ++ [x]) (by simp), g_app2 (a := b) (Nat.le_refl _), g_app2 (a := b ++ [x]) (by simp)]
  simp [g]
theorem cnt_fol (n : Nat) : ∀ (d : Nat) (b : List Int) (x : Nat), Beg n b → b.length + 1 + d = n → x < n → (x : Int) ∉ b → cntS n d (b ++ [(x : Int)]) = folS n b x
  | 0, b, x, h, hd, hx, hm => by
    unfold cntS folS
    cases ha : altB (b ++ [(x : Int)]) with
    | false => simp
    | true =>
      have hr : rkS n b x = 0 := by
        have h1 := h.cn
        have h2 := cn_mono b (j := x + 1) (k := n) (by omega)
        have h3 : cn b (x + 1) = cn b x + 1 := by simp [cn, hm]
        unfold rkS; split <;> omega
      rw [if_neg (by simp), if_neg (by simp [hm]), hr, show n - b.length = 1 by omega]; rfl
  | d + 1, b, x, h, hd, hx, hm => by
    have hB := h.snoc hx hm
    have hL : (b ++ [(x : Int)]).length = b.length + 1 := by simp
    unfold cntS
    cases ha : altB (b ++ [(x : Int)]) with
    | false => unfold folS; simp [ha]
    | true =>
      rw [if_neg (by simp)]
      have hc := hB.cn
      have hcb := cn_below hm
      have hxB : (x : Int) ∈ b ++ [(x : Int)] := by simp
      have hlen : n - b.length = (d + 1) + 1 := by omega
      have hF : folS n b x = ((ern d).take (d + 1 - rkS n b x)).sum := by
        unfold folS
        rw [if_neg (by simp [hm, ha])]
        unfold eb
        rw [hlen, show d + 1 + 1 - 1 = d + 1 by omega, ern_g]
        have h1 := h.cn
        have h2 := cn_mono b (j := x + 1) (k := n) (by omega)
        have h3 : cn b (x + 1) = cn b x + 1 := by simp [cn, hm]
        unfold rkS; split <;> omega
      rw [hF, sum_take_N _ _ (by rw [ern_len]; omega)]
      have ih : ∀ y, y < n → (y : Int) ∉ b ++ [(x : Int)] → cntS n d (b ++ [(x : Int)] ++ [(y : Int)]) = if (if b.length % 2 = 0 then x < y else y < x) then g (ern d) (rkS n (b ++ [(x : Int)]) y) else 0 := fun y hy hny => by
        rw [cnt_fol n d (b ++ [(x : Int)]) y hB (by omega) hy hny]
        unfold folS eb
        rw [alt_snoc, ha, hL, show n - (b.length + 1) - 1 = d by omega]
        by_cases c : b.length % 2 = 0
        · simp only [if_pos c, Bool.true_and]
          by_cases e : x < y
          · rw [if_neg (by simp [hny]; omega), if_pos e]
          · rw [if_pos (by right; simp; omega), if_neg e]
        · simp only [if_neg c, Bool.true_and]
          by_cases e : y < x
          · rw [if_neg (by simp [hny]; omega), if_pos e]
          · rw [if_pos (by right; simp; omega), if_neg e]
      have hsum : sumN (fun y => if (y : Int) ∈ b ++ [(x : Int)] then 0 else cntS n d (b ++ [(x : Int)] ++ [(y : Int)])) n = sumN (fun y => if (y : Int) ∈ b ++ [(x : Int)] then 0 else if (if b.length % 2 = 0 then x < y else y < x) then g (ern d) (rkS n (b ++ [(x : Int)]) y) else 0) n := sumN_eq fun y hy => by
        by_cases m : (y : Int) ∈ b ++ [(x : Int)]
        · rw [if_pos m, if_pos m]
        · rw [if_neg m, if_neg m, ih y hy m]
      rw [hsum]
      by_cases c : b.length % 2 = 0
      · simp only [if_pos c]
        have hrk : ∀ y, rkS n (b ++ [(x : Int)]) y = d - cn (b ++ [(x : Int)]) y := fun y => by
          unfold rkS; rw [hL, if_pos (by omega)]; omega
        simp only [hrk]
        rw [sum_above (b ++ [(x : Int)]) (fun j => g (ern d) (d - j)) hxB hx, show cn (b ++ [(x : Int)]) n = d + 1 by omega, hcb]
        have := sum_flip (fun j => g (ern d) j) (d + 1) (cn b x) (by have := cn_mono (b ++ [(x : Int)]) (j := x) (k := n) (by omega); omega)
        rw [show d + 1 - 1 = d by omega] at this
        rw [this]
        unfold rkS; rw [if_neg (by omega)]
      · simp only [if_neg c]
        have hrk : ∀ y, rkS n (b ++ [(x : Int)]) y = cn (b ++ [(x : Int)]) y := fun y => by
          unfold rkS; rw [hL, if_neg (by omega)]
        simp only [hrk]
        rw [sum_below (b ++ [(x : Int)]) (fun j => g (ern d) j) hxB n, show min n x = x by omega, hcb]
        congr 1
        have := cn_mono (b ++ [(x : Int)]) (j := x) (k := n) (by omega)
        unfold rkS; rw [if_pos (by omega)]; omega
end Go.Proofs.Ytpfkioakjmpimaa

/- Orders: what is contained, smaller, joined, following; and the reference's count. -/
namespace Go.Proofs.Ytpfkioakjmpimaa
open Go Go.Proofs.Ytpfkioakjmpimaa.AX
set_option linter.unusedVariables false
theorem idx_in {x : Int} {l : List Int} : decide (0 ≤ idx x l) = decide (x ∈ l) := by
  apply decide_eq_decide.2
  constructor
  · intro h
    obtain ⟨p, hp⟩ : ∃ p : Nat, idx x l = p := ⟨(idx x l).toNat, by omega⟩
    obtain ⟨h1, h2⟩ := idx_get hp
    rw [← h2]; exact gmem h1
  · exact idx_mem
theorem Contains_ac (v : AV) (l : List Int) (x : Int) (H : AH) (Q : AV → AH → Prop) (hlen : l.length ≤ 1000000) (hv : Ls H v l) (h : Q (.bool (decide (x ∈ l))) H) : AC Try.prog 75 [v, .int .i64 x] H Q := by
  refine L_body 9 Try.func75 rfl rfl ?_
  refine L_reg [0, 1] (fun K hK => ?_)
  simp
  apply hK; clear hK K
  refine L_reg [4] (fun K hK => ?_)
  simp [okFn_low]
  refine Index_ac v l x _ _ hlen hv ?_
  simp
  apply hK; clear hK K
  rw [← idx_in] at h
  exact L_ret ⟨.inr rfl, _, rfl, h⟩
/-- How many are smaller. -/
def smS (l : List Int) (x : Int) : Nat := (l.filter fun y => decide (y < x)).length
theorem sm_take {l : List Int} {i : Nat} {x : Int} (h : i < l.length) : smS (l.take (i + 1)) x = smS (l.take i) x + if g l i < x then 1 else 0 := by
  unfold smS
  rw [List.take_add_one, List.getElem?_eq_getElem h, ← g_lt h, List.filter_append, List.length_append]
  congr 1
  by_cases c : g l i < x <;> simp [c]
theorem smaller7_ac (v : AV) (l : List Int) (x : Int) (H : AH) (Q : AV → AH → Prop) (hlen : l.length ≤ 1000000) (hv : Ls H v l) (h : Q (.int .i64 (smS l x)) H) : AC Try.prog 104 [v, .int .i64 x] H Q := by
  have hl := ls_len hv
  refine L_body 21 Try.func104 rfl rfl ?_
  refine L_reg [0, 1] (fun K hK => ?_)
  simp
  apply hK; clear hK K
  refine L_reg [0, 1, 5] (fun K hK => ?_)
  simp
  apply hK; clear hK K
  refine L_reg [1, 5, 8, 9, 10] (fun K hK => ?_)
  simp [hl]
  apply hK; clear hK K
  refine L_block (L_loopV [5, 10] (fun n vs H' => ∃ i : Nat, n = l.length - i ∧ i ≤ l.length ∧ vs = [.int .i64 (smS (l.take i) x), .int .i64 i] ∧ H = H') _ [.int .i64 0, .int .i64 0] rfl ⟨0, rfl, by omega, rfl, rfl⟩ ?_)
  rintro n _ _ ⟨i, rfl, hi, rfl, rfl⟩
  refine L_reg [1, 5, 8, 9, 10, 11] (fun K hK => ?_)
  simp
  apply hK; clear hK K
  refine L_dec (i < l.length) (by simp) (fun hlt => ?_) (fun hge => L_exit ?_)
  · refine L_block ?_
    obtain ⟨rz, pz, vz, hix, hld⟩ := ls_ix hv hlt
    have hs := sm_take (x := x) hlt
    have hle : smS (l.take i) x ≤ i := by
      unfold smS
      exact Nat.le_trans (List.length_filter_le ..) (by simp; omega)
    refine L_reg [1, 5, 7, 8, 9, 10] (fun K hK => ?_)
    simp [hix, hld]
    apply hK; clear hK K
    refine L_reg [1, 5, 8, 9, 10, 16] (fun K hK => ?_)
    simp
    apply hK; clear hK K
    by_cases c : g l i < x
    · rw [if_pos c] at hs
      refine L_true (by simp [c]) ?_
      refine L_reg [1, 5, 8, 9, 10] (fun K hK => ?_)
      simp [wrap_i64 (a := (smS (l.take i) x : Int) + 1) (by omega)]
      apply hK; clear hK K
      refine L_reg [1, 5, 8, 9, 10] (fun K hK => ?_)
      simp [wrap_i64 (a := (i : Int) + 1) (by omega)]
      apply hK; clear hK K
      exact ⟨l.length - (i + 1), [.int .i64 (smS (l.take (i + 1)) x : Nat), .int .i64 (i + 1 : Nat)], by omega, by simp [hs], i + 1, rfl, by omega, rfl, rfl⟩
    · rw [if_neg c] at hs
      refine L_false (by simp only [c]; simp) ?_
      refine L_reg [1, 5, 8, 9, 10] (fun K hK => ?_)
      simp [wrap_i64 (a := (i : Int) + 1) (by omega)]
      apply hK; clear hK K
      exact ⟨l.length - (i + 1), [.int .i64 (smS (l.take (i + 1)) x : Nat), .int .i64 (i + 1 : Nat)], by omega, by simp [hs], i + 1, rfl, by omega, rfl, rfl⟩
  · rw [List.take_of_length_le (by omega)]
    refine L_reg [4] (fun K hK => ?_)
    simp
    apply hK; clear hK K
    exact L_ret ⟨.inr rfl, _, rfl, h⟩
set_option maxRecDepth 100000 in
/-- Grow makes an empty slice with room. -/
theorem Grow_nil_ac (n : Nat) (h1 : 1 ≤ n) (h2 : n ≤ 1000) (H : AH) (Q : AV → AH → Prop) (h : Q (.slice (some H.length) 0 0 0 1 false) (H ++ [.row (List.replicate n (.int .i64 0)) 0 0 false])) : AC Try.prog 111 [.slice none 0 0 0 1 false, .int .i64 n] H Q := by
  refine L_body 27 Try.func111 rfl rfl ?_
  refine L_reg [0, 1] (fun K hK => ?_)
  simp
  apply hK; clear hK K
  refine L_reg [0, 1, 6] (fun K hK => ?_)
  simp
  apply hK; clear hK K
  refine L_false (by simp) ?_
  have hcap := cap_nil (P := Try.prog) slz22 0 0 0 1 false
  have hw : IntKind.i64.wrap ((n : Int) - IntKind.i64.wrap 0) = n := by rw [wrap_i64 (a := 0) (by omega), wrap_i64 (by omega)]; omega
  refine L_reg [0, 1] (fun K hK => ?_)
  simp [hcap, hw]
  apply hK; clear hK K
  refine L_reg [0, 1, 16] (fun K hK => ?_)
  simp
  apply hK; clear hK K
  refine L_true (by simp; omega) ?_
  have ha : aAppMake Try.prog H 22 3 (.slice none 0 0 0 1 false) (.int .i64 n) = some (.slice (some H.length) 0 n 0 1 false, H ++ [.row (List.replicate n (.int .i64 0)) 0 0 false]) := by
    obtain ⟨I, hI, hz⟩ := zeroT_some zt3
    have hsz : I.size = 1 ∧ I.bytes ≤ 4096 := by
      obtain ⟨e, I', e1, e2, e3, e4, -⟩ := elT_some el22
      have : Try.prog.underlying 22 = some (.slice 3) := und22
      rw [this] at e1
      obtain rfl : 3 = e := by simpa using e1
      rw [e2] at hI
      obtain rfl := Option.some.inj hI
      exact ⟨e3, e4⟩
    unfold aAppMake
    rw [und22]
    rw [Try.underlying3]
    simp [hI, hz, hsz]
    refine ⟨⟨by omega, by omega⟩, List.eq_replicate_iff.2 ⟨by simp, fun b hb => ?_⟩⟩
    obtain ⟨i, -, rfl⟩ := List.mem_map.1 hb
    simp [Nat.mod_one]
  have hn : aAppend Try.prog H 22 3 (.slice none 0 0 0 1 false) (.int .i64 n) = none := by
    obtain ⟨e, I, e1, e2, e3, e4, -⟩ := elT_some el22
    simp [aAppend, e1, e2, e3, e4, aSrc, Try.underlying3]
  have hs1 : aSlice Try.prog 22 (.slice none 0 0 0 1 false) none (some (.int .i64 0)) none = some (.slice none 0 0 0 1 false) := by
    have := slice_hi (P := Try.prog) slz22 none 0 0 0 false (k := .i64) (i := 0) (by omega)
    simpa using this
  have hs2 : aSlice Try.prog 22 (.slice (some H.length) 0 n 0 1 false) none (some (.int .i64 0)) none = some (.slice (some H.length) 0 0 0 1 false) := by
    have := slice_hi (P := Try.prog) slz22 (some H.length) 0 n 0 false (k := .i64) (i := 0) (by omega)
    simpa using this
  refine L_reg [0] (fun K hK => ?_)
  simp [hcap, hs1, ha, hn, hs2, orApp, appV]
  apply hK; clear hK K
  refine L_reg [4] (fun K hK => ?_)
  simp
  apply hK; clear hK K
  exact L_ret ⟨.inr rfl, _, rfl, h⟩
end Go.Proofs.Ytpfkioakjmpimaa

/- Orders: lists are joined. -/
namespace Go.Proofs.Ytpfkioakjmpimaa
open Go Go.Proofs.Ytpfkioakjmpimaa.AX
set_option linter.unusedVariables false
theorem tk_rep : ∀ (n k : Nat), n ≤ k → (takeKnown n (List.replicate k (AV.int .i64 0))).isSome = true
  | 0, _, _ => by simp [takeKnown]
  | n + 1, k, h => by
    obtain ⟨j, rfl⟩ : ∃ j, k = j + 1 := ⟨k - 1, by omega⟩
    have := tk_rep n j (by omega)
    simp only [List.replicate_succ, takeKnown]
    cases h : takeKnown n (List.replicate j (AV.int .i64 0)) with
    | none => rw [h] at this; cases this
    | some x => simp
/-- A slice with room behind it. -/
def Room (r : Nat) (a : List Int) (k : Nat) (H : AH) : Prop := ∃ st, H[r]? = some (.row (a.map (.int .i64) ++ List.replicate k (.int .i64 0)) 0 st false)
theorem Room.app {r : Nat} {a m : List Int} {k : Nat} {H : AH} {x : AV} (h : Room r a k H) (hx : Ls H x m) (hk : m.length ≤ k) (hl : a.length + m.length ≤ 1000) :
    ∃ H', aAppend Try.prog H 22 22 (.slice (some r) 0 a.length 0 1 false) x = some (.slice (some r) 0 (a.length + m.length) 0 1 false, H') ∧ Room r (a ++ m) (k - m.length) H' ∧ KeepX r H H' := by
  obtain ⟨e, I, h1, h2, h3, h4, -⟩ := elT_some el22
  have hsrc := src_ls el22 hx
  have hall := all_ints m
  by_cases c : m = []
  · subst c
    refine ⟨H, ?_, by simpa using h, .refl _ _⟩
    simp at hsrc
    simp [aAppend, h1, h2, h3, h4, hsrc]
  · obtain ⟨st, hr⟩ := h
    have hm0 : m.length ≠ 0 := fun e => c (List.eq_nil_of_length_eq_zero e)
    have hd : (a.map (AV.int .i64) ++ List.replicate k (AV.int .i64 0)).drop a.length = List.replicate k (.int .i64 0) := by
      rw [List.drop_append]; simp
    have ht : (a.map (AV.int .i64) ++ List.replicate k (AV.int .i64 0)).take a.length = a.map (.int .i64) := by
      rw [List.take_append_of_le_length (by simp), List.take_of_length_le (by simp)]
    have hd2 : (a.map (AV.int .i64) ++ List.replicate k (AV.int .i64 0)).drop (a.length + m.length) = List.replicate (k - m.length) (.int .i64 0) := by
      rw [← List.drop_drop, hd]; simp
    have hstn : stn H r 0 (m.map (.int .i64)) a.length = some (H.set r (.row ((a ++ m).map (.int .i64) ++ List.replicate (k - m.length) (.int .i64 0)) 0 (min st a.length) false)) := by
      cases m with
      | nil => exact absurd rfl c
      | cons y m =>
        rw [List.map_cons]
        unfold stn
        rw [hr]
        simp only []
        rw [if_pos ⟨trivial, trivial, by simpa using hall, by rw [hd]; exact tk_rep _ _ (by simpa using hk)⟩, ht, show (AV.int .i64 y :: m.map (AV.int .i64)).length = (y :: m).length by simp, hd2]
        simp
    refine ⟨H.set r (.row ((a ++ m).map (.int .i64) ++ List.replicate (k - m.length) (.int .i64 0)) 0 (min st a.length) false), ?_, ⟨min st a.length, get_set hr⟩, (KeepX.refl r H).set _⟩
    have hin : inPlace H r 0 a.length m.length 0 1 (m.map (.int .i64)) = some (H.set r (.row ((a ++ m).map (.int .i64) ++ List.replicate (k - m.length) (.int .i64 0)) 0 (min st a.length) false)) := by
      unfold inPlace
      rw [hr]
      simp only []
      rw [if_pos ⟨trivial, by simp; omega⟩]
      simpa using hstn
    have hs2 : a.length + m.length ≤ 16777216 := by omega
    simp [aAppend, h1, h2, h3, h4, hsrc, c, hin, hs2]
    exact fun _ _ => rfl
set_option maxRecDepth 100000 in
theorem Concat2_ac (x y : AV) (a b : List Int) (p : Nat) (H : AH) (Q : AV → AH → Prop) (h1 : 1 ≤ a.length + b.length) (hl : a.length + b.length ≤ 100) (hx : Ls H x a) (hy : Ls H y b) (hp : ∃ m, H[p]? = some (.row [x, y] 0 m false))
    (h : ∀ v H', OwnF H.length H' v ((a ++ b).map (.int .i64)) → Ext H H' → Q v H') : AC Try.prog 103 [.slice (some p) 0 2 0 1 false] H Q := by
  obtain ⟨mm, hp⟩ := hp
  have ox : x.one = true := by obtain ⟨_, _, _, _, _, rfl, -⟩ := hx; rfl
  have oy : y.one = true := by obtain ⟨_, _, _, _, _, rfl, -⟩ := hy; rfl
  have q0 : ∀ H', H'[p]? = some (.row [x, y] 0 mm false) → ld H' p 0 0 = some x := fun H' h => by rw [ld_row h]; exact known_one ox
  have q1 : ∀ H', H'[p]? = some (.row [x, y] 0 mm false) → ld H' p 1 0 = some y := fun H' h => by rw [ld_row h]; exact known_one oy
  have hxl := ls_len hx
  have hyl := ls_len hy
  refine L_body 36 Try.func103 rfl rfl ?_
  refine L_reg [0] (fun K hK => ?_)
  simp
  apply hK; clear hK K
  refine L_reg [0, 3] (fun K hK => ?_)
  simp
  apply hK; clear hK K
  refine L_reg [0, 3, 9, 10, 11] (fun K hK => ?_)
  simp
  apply hK; clear hK K
  refine L_block (L_loopV [3, 11] (fun n vs H' => ∃ i : Nat, n = 2 - i ∧ i ≤ 2 ∧ vs = [.int .i64 ((if 0 < i then a.length else 0) + (if 1 < i then b.length else 0) : Nat), .int .i64 i] ∧ H = H') _ [.int .i64 0, .int .i64 0] rfl ⟨0, rfl, by omega, rfl, rfl⟩ ?_)
  rintro _ _ _ ⟨i, rfl, hi, rfl, rfl⟩
  refine L_reg [0, 3, 9, 10, 11, 12] (fun K hK => ?_)
  simp
  apply hK; clear hK K
  refine L_dec (i < 2) (by simp; omega) (fun hlt => ?_) (fun hge => L_exit ?_)
  · refine L_block ?_
    obtain rfl | rfl : i = 0 ∨ i = 1 := by omega
    · refine L_reg [0, 3, 5, 9, 10, 11] (fun K hK => ?_)
      simp [q0 H hp]
      apply hK; clear hK K
      refine L_reg [0, 3, 9, 10, 11] (fun K hK => ?_)
      simp [hxl, wrap_i64 (a := (a.length : Int)) (by omega)]
      apply hK; clear hK K
      refine L_reg [0, 3, 9, 10, 11, 20] (fun K hK => ?_)
      simp
      apply hK; clear hK K
      refine L_false (by simp) ?_
      refine L_reg [0, 3, 9, 10, 11] (fun K hK => ?_)
      simp [wrap_i64 (a := (1 : Int)) (by omega)]
      apply hK; clear hK K
      exact ⟨1, [.int .i64 a.length, .int .i64 1], by omega, by simp, 1, rfl, by omega, by simp, rfl⟩
    · refine L_reg [0, 3, 5, 9, 10, 11] (fun K hK => ?_)
      simp [q1 H hp]
      apply hK; clear hK K
      refine L_reg [0, 3, 9, 10, 11] (fun K hK => ?_)
      simp [hyl, wrap_i64 (a := (a.length : Int) + b.length) (by omega)]
      apply hK; clear hK K
      refine L_reg [0, 3, 9, 10, 11, 20] (fun K hK => ?_)
      simp
      apply hK; clear hK K
      refine L_false (by simp; omega) ?_
      refine L_reg [0, 3, 9, 10, 11] (fun K hK => ?_)
      simp [wrap_i64 (a := (2 : Int)) (by omega)]
      apply hK; clear hK K
      exact ⟨0, [.int .i64 ((a.length : Int) + b.length), .int .i64 2], by omega, by simp, 2, rfl, by omega, by simp, rfl⟩
  obtain rfl : i = 2 := by omega
  refine L_reg [0, 6] (fun K hK => ?_)
  simp [okFn_low]
  refine Grow_nil_ac (a.length + b.length) h1 (by omega) _ _ ?_
  simp
  apply hK; clear hK K
  have hE : Ext H (H ++ [.row (List.replicate (a.length + b.length) (.int .i64 0)) 0 0 false]) := .push _ _
  have hR : Room H.length [] (a.length + b.length) (H ++ [.row (List.replicate (a.length + b.length) (.int .i64 0)) 0 0 false]) := ⟨0, by simp⟩
  generalize H ++ [.row (List.replicate (a.length + b.length) (.int .i64 0)) 0 0 false] = H1 at hE hR ⊢
  have hpl : p < H.length := (List.getElem?_eq_some_iff.1 hp).1
  obtain ⟨H2, a1, hR2, k2⟩ := hR.app (hx.ext hE) (by omega) (by simp only [List.length_nil]; omega)
  have hE2 : Ext H H2 := ((KeepX.refl H.length H1).trans k2).new hE (Nat.le_refl _)
  rw [List.nil_append] at hR2
  simp only [List.length_nil, Nat.zero_add] at a1
  obtain ⟨H3, a2, hR3, k3⟩ := hR2.app (hy.ext hE2) (by omega) (by omega)
  have hE3 : Ext H H3 := ((KeepX.refl H.length H2).trans k3).new hE2 (Nat.le_refl _)
  refine L_reg [6, 25, 26, 27] (fun K hK => ?_)
  simp
  apply hK; clear hK K
  refine L_block (L_loopV [6, 27] (fun n vs H' => ∃ i : Nat, n = 2 - i ∧ ((i = 0 ∧ vs = [.slice (some H.length) 0 0 0 1 false, .int .i64 0] ∧ H' = H1) ∨ (i = 1 ∧ vs = [.slice (some H.length) 0 a.length 0 1 false, .int .i64 1] ∧ H' = H2) ∨ (i = 2 ∧ vs = [.slice (some H.length) 0 (a.length + b.length) 0 1 false, .int .i64 2] ∧ H' = H3))) _ [.slice (some H.length) 0 0 0 1 false, .int .i64 0] rfl ⟨0, rfl, .inl ⟨rfl, rfl, rfl⟩⟩ ?_)
  rintro _ _ H' ⟨i, rfl, ⟨rfl, rfl, rfl⟩ | ⟨rfl, rfl, rfl⟩ | ⟨rfl, rfl, rfl⟩⟩
  · refine L_reg [6, 25, 26, 27, 28] (fun K hK => ?_)
    simp
    apply hK; clear hK K
    refine L_true rfl ?_
    refine L_block ?_
    refine L_reg [6, 8, 25, 26, 27] (fun K hK => ?_)
    simp [q0 _ (hE.row hp)]
    apply hK; clear hK K
    refine L_reg [6, 25, 26, 27] (fun K hK => ?_)
    simp [a1]
    apply hK; clear hK K
    refine L_reg [6, 25, 26, 27] (fun K hK => ?_)
    simp [wrap_i64 (a := (1 : Int)) (by omega)]
    apply hK; clear hK K
    exact ⟨1, [_, _], by omega, rfl, 1, rfl, .inr (.inl ⟨rfl, by simp, rfl⟩)⟩
  · refine L_reg [6, 25, 26, 27, 28] (fun K hK => ?_)
    simp
    apply hK; clear hK K
    refine L_true rfl ?_
    refine L_block ?_
    refine L_reg [6, 8, 25, 26, 27] (fun K hK => ?_)
    simp [q1 _ (hE2.row hp)]
    apply hK; clear hK K
    refine L_reg [6, 25, 26, 27] (fun K hK => ?_)
    simp [a2]
    apply hK; clear hK K
    refine L_reg [6, 25, 26, 27] (fun K hK => ?_)
    simp [wrap_i64 (a := (2 : Int)) (by omega)]
    apply hK; clear hK K
    exact ⟨0, [_, _], by omega, rfl, 2, rfl, .inr (.inr ⟨rfl, by simp, rfl⟩)⟩
  · refine L_reg [6, 25, 26, 27, 28] (fun K hK => ?_)
    simp
    apply hK; clear hK K
    refine L_false rfl ?_
    refine L_exit ?_
    refine L_reg [2] (fun K hK => ?_)
    simp
    apply hK; clear hK K
    obtain ⟨st, hst⟩ := hR3
    have hfin := h (.slice (some H.length) 0 (a.length + b.length) 0 1 false) _ (.inr ⟨H.length, 0, st, Nat.le_refl _, by simp, by simpa [show a.length + b.length - a.length - b.length = 0 by omega] using hst⟩) hE3
    exact L_ret ⟨.inr rfl, _, rfl, hfin⟩
end Go.Proofs.Ytpfkioakjmpimaa

/- Orders: how many begin with some numbers and the next one, as the program finds it. -/
namespace Go.Proofs.Ytpfkioakjmpimaa
open Go Go.Proofs.Ytpfkioakjmpimaa.AX
set_option linter.unusedVariables false
theorem row62_2 (H : AH) (x y : AV) (hx : x.one = true) (hy : y.one = true) : rowV Try.prog 62 2 [(0, x), (1, y)] H = some (some (.slice (some H.length) 0 2 0 1 false), H ++ [.row [x, y] 0 2 false]) := by
  have hc : ∀ {v : AV}, v.one = true → acells v = [v] := fun {v} h => by cases v <;> simp [AV.one] at h <;> rfl
  obtain ⟨e, I, h1, h2, h3, h4, hzz⟩ := elT_some el62
  have hu : ∀ {v : AV}, v.one = true → v.isU = false := fun {v} h => by cases v <;> simp_all [AV.one, AV.isU]
  simp [rowV, h1, h2, h3, aFill, hu hx, hu hy, hc hx, hc hy, hzz, List.range_succ]
theorem joined_ac (x y : AV) (a b : List Int) (H : AH) (Q : AV → AH → Prop) (h1 : 1 ≤ a.length + b.length) (hl : a.length + b.length ≤ 100) (hx : Ls H x a) (hy : Ls H y b)
    (h : ∀ v H', OwnF H.length H' v ((a ++ b).map (.int .i64)) → Ext H H' → Q v H') : AC Try.prog 84 [x, y] H Q := by
  have ox : x.one = true := by obtain ⟨_, _, _, _, _, rfl, -⟩ := hx; rfl
  have oy : y.one = true := by obtain ⟨_, _, _, _, _, rfl, -⟩ := hy; rfl
  refine L_body 9 Try.func84 rfl rfl ?_
  refine L_reg [0, 1] (fun K hK => ?_)
  simp
  apply hK; clear hK K
  have hE : Ext H (H ++ [AObj.row [x, y] 0 2 false]) := .push _ _
  refine L_reg [4] (fun K hK => ?_)
  simp [okFn_low, row62_2 H x y ox oy]
  refine Concat2_ac x y a b H.length _ _ h1 hl (hx.ext hE) (hy.ext hE) ⟨2, by simp⟩ (fun v H' hO hE' => ?_)
  simp
  apply hK; clear hK K
  exact L_ret ⟨.inr rfl, _, rfl, (h v H' (hO.mono (by simp)) (hE.trans hE'))⟩
theorem sm_succ (x : Nat) : ∀ b : List Int, smS b ((x : Int) + 1) = smS b x + b.count (x : Int)
  | [] => rfl
  | y :: b => by
    have ih := sm_succ x b
    unfold smS at *
    rw [List.count_cons]
    by_cases c : y < x
    · have e : ¬ y = x := by omega
      rw [List.filter_cons_of_pos (by simp; omega), List.filter_cons_of_pos (by simpa using c)]
      simp [e]; omega
    · by_cases e : y = x
      · rw [List.filter_cons_of_pos (by simp; omega), List.filter_cons_of_neg (by simpa using c)]
        simp [e]; omega
      · rw [List.filter_cons_of_neg (by simp; omega), List.filter_cons_of_neg (by simpa using c)]
        simp [e]; omega
theorem sm_cn {n : Nat} {b : List Int} (h : Beg n b) : ∀ x : Nat, smS b x + cn b x = x
  | 0 => by
    have : smS b (0 : Nat) = 0 := by
      unfold smS
      rw [List.length_eq_zero_iff, List.filter_eq_nil_iff]
      intro y hy; have := h.lt y hy; simp; omega
    rw [this]; rfl
  | x + 1 => by
    have ih := sm_cn h x
    have h2 := sm_succ x b
    rw [h.nd.count] at h2
    rw [show ((x + 1 : Nat) : Int) = (x : Int) + 1 by omega, h2]
    simp only [cn]
    by_cases m : (x : Int) ∈ b
    · rw [if_pos m, if_pos m]; omega
    · rw [if_neg m, if_neg m]; omega
set_option maxRecDepth 100000 in
theorem following_ac (n : Nat) (v : AV) (b : List Int) (x : Nat) (H : AH) (Q : AV → AH → Prop) (h9 : n ≤ 9) (hb : Beg n b) (hl : b.length < n) (hx : x < n) (hv : Ls H v b) (h : Q (.int .i64 (folS n b x)) H) : AC Try.prog 85 [.int .i64 n, v, .int .i64 x] H Q := by
  refine AC.quiet (belB_int _ _ _ _) (fun Q h => ?_) Q h
  have hvl := ls_len hv
  refine L_body 42 Try.func85 rfl rfl ?_
  refine L_reg [0, 1, 2] (fun K hK => ?_)
  simp
  apply hK; clear hK K
  by_cases m : (x : Int) ∈ b
  · refine L_reg [0, 1, 2, 19] (fun K hK => ?_)
    simp [okFn_low]
    refine Contains_ac v b x _ _ (by omega) hv ?_
    simp [m, pickV]
    apply hK; clear hK K
    refine L_true rfl ?_
    refine L_reg [6] (fun K hK => ?_)
    simp
    apply hK; clear hK K
    have e : folS n b x = 0 := by unfold folS; rw [if_pos (.inl m)]
    rw [e] at h
    exact L_ret ⟨.inr rfl, _, rfl, h H (.refl _)⟩
  · refine L_reg [0, 1, 2, 19] (fun K hK => ?_)
    simp [okFn_low]
    refine Contains_ac v b x _ _ (by omega) hv ?_
    have hE1 : Ext H (H ++ [AObj.row [AV.int .i64 x] 0 1 false]) := .push _ _
    have hs : Ls (H ++ [AObj.row [AV.int .i64 x] 0 1 false]) (.slice (some H.length) 0 1 0 1 false) [(x : Int)] := Ls.row (ro := false) (l := [(x : Int)]) (s := 1) (by simp) false
    simp [okFn_low, m]
    refine joined_ac v _ b [(x : Int)] _ _ (by simp) (by simp; omega) (hv.ext hE1) hs (fun w H2 hO hE2 => ?_)
    have hE := hE1.trans hE2
    simp [okFn_low]
    refine turns_ac w (b ++ [(x : Int)]) _ _ (by simp; omega) hO.own.ls ?_
    simp [pickV]
    apply hK; clear hK K
    have hv2 := hv.ext hE
    have hvl2 := ls_len hv2
    cases ha : altB (b ++ [(x : Int)]) with
    | false =>
      refine L_true rfl ?_
      refine L_reg [6] (fun K hK => ?_)
      simp
      apply hK; clear hK K
      have e : folS n b x = 0 := by unfold folS; rw [if_pos (.inr ha)]
      rw [e] at h
      exact L_ret ⟨.inr rfl, _, rfl, h H2 hE⟩
    | true =>
      refine L_false rfl ?_
      have hsm := sm_cn hb x
      have hc := hb.cn
      have hmo := cn_mono b (j := x + 1) (k := n) (by omega)
      have h3 : cn b (x + 1) = cn b x + 1 := by simp [cn, m]
      have e0 : IntKind.i64.wrap ((n : Int) - b.length) = ((n - b.length : Nat) : Int) := by rw [wrap_i64 (by omega)]; omega
      have e1 : IntKind.i64.wrap ((x : Int) - (smS b x : Nat)) = ((cn b x : Nat) : Int) := by rw [wrap_i64 (by omega)]; omega
      have hf : folS n b x = eb (n - b.length) (rkS n b x) := by unfold folS; rw [if_neg (by simp [m, ha])]
      rw [hf] at h
      refine L_reg [1, 2, 7] (fun K hK => ?_)
      simp [hvl2, e0]
      apply hK; clear hK K
      refine L_reg [1, 7, 8] (fun K hK => ?_)
      simp [okFn_low]
      refine smaller7_ac v b x _ _ (by omega) hv2 ?_
      simp [e1]
      apply hK; clear hK K
      have hodd : ((b.length : Int).tmod 2 == 1) = decide (b.length % 2 = 1) := by
        rw [Int.tmod_eq_emod_of_nonneg (by omega)]
        by_cases c : b.length % 2 = 1
        · rw [show (b.length : Int) % 2 = 1 by omega]; simp [c]
        · rw [show (b.length : Int) % 2 = 0 by omega]; simp [c]
      refine L_reg [7, 8, 32] (fun K hK => ?_)
      simp [hvl2, hodd]
      apply hK; clear hK K
      have hrk : rkS n b x < n - b.length := by unfold rkS; split <;> omega
      refine L_dec (b.length % 2 = 1) rfl (fun c => ?_) (fun c => ?_)
      · have e2 : IntKind.i64.wrap (IntKind.i64.wrap (((n - b.length : Nat) : Int) - 1) - (cn b x : Nat)) = ((rkS n b x : Nat) : Int) := by
          rw [wrap_i64 (a := ((n - b.length : Nat) : Int) - 1) (by omega), wrap_i64 (by omega)]
          unfold rkS; rw [if_pos c]; omega
        refine L_reg [7, 8] (fun K hK => ?_)
        simp [e2]
        apply hK; clear hK K
        refine L_reg [6] (fun K hK => ?_)
        simp [okFn_low]
        refine begins_ac (n - b.length) (by omega) (by omega) _ _ (fun w2 H3 hO3 hE3 => ?_)
        obtain ⟨rz, pz, vz, hix, hld⟩ := ls_ix hO3.own.ls (i := rkS n b x) (by rw [ern_len]; omega)
        simp [hix, hld]
        apply hK; clear hK K
        exact L_ret ⟨.inr rfl, _, rfl, (by simpa [eb] using h H3 (hE.trans hE3))⟩
      · have e2 : cn b x = rkS n b x := by unfold rkS; rw [if_neg c]
        rw [e2]
        refine L_reg [6] (fun K hK => ?_)
        simp [okFn_low]
        refine begins_ac (n - b.length) (by omega) (by omega) _ _ (fun w2 H3 hO3 hE3 => ?_)
        obtain ⟨rz, pz, vz, hix, hld⟩ := ls_ix hO3.own.ls (i := rkS n b x) (by rw [ern_len]; omega)
        simp [hix, hld]
        apply hK; clear hK K
        exact L_ret ⟨.inr rfl, _, rfl, (by simpa [eb] using h H3 (hE.trans hE3))⟩
end Go.Proofs.Ytpfkioakjmpimaa

/- Each number of the triangle is the one beside it and one of the row before together. -/
namespace Go.Proofs.Ytpfkioakjmpimaa
open Go Go.Proofs.Ytpfkioakjmpimaa.AX
set_option linter.unusedVariables false
theorem eb_bd : ∀ n, n ≤ 9 → ∀ k, k ≤ 9 → 0 ≤ eb n k ∧ eb n k ≤ 100000 := by decide
end Go.Proofs.Ytpfkioakjmpimaa

/- Orders: as the reference tells and counts them. -/
namespace Go.Proofs.Ytpfkioakjmpimaa
open Go Go.Proofs.Ytpfkioakjmpimaa.AX
set_option linter.unusedVariables false
theorem altAt_ne {l : List Int} {i : Nat} (h : g l i ≠ g l (i + 1)) : (decide (g l i < g l (i + 1)) == decide (i % 2 = 0)) = altAt l i := by
  unfold altAt
  by_cases c : i % 2 = 0
  · rw [if_pos c]
    by_cases d : g l i < g l (i + 1) <;> simp [c, d]
  · rw [if_neg c]
    by_cases d : g l i < g l (i + 1)
    · have : ¬ g l (i + 1) < g l i := by omega
      simp [c, d, this]
    · have : g l (i + 1) < g l i := by omega
      simp [c, d, this]
theorem nodup_ne {l : List Int} (h : l.Nodup) {i j : Nat} (hij : i < j) (hj : j < l.length) : g l i ≠ g l j := by
  rw [g_lt (by omega), g_lt hj]
  intro e
  have := (List.nodup_iff_pairwise_ne.1 h)
  exact List.pairwise_iff_getElem.1 this i j (by omega) hj hij e
theorem fol_bd {n : Nat} {b : List Int} {x : Nat} (h9 : n ≤ 9) (hb : Beg n b) (hl : b.length < n) (hx : x < n) : 0 ≤ folS n b x ∧ folS n b x ≤ 100000 := by
  unfold folS
  split
  · omega
  · have hc := hb.cn
    have := cn_mono b (j := x) (k := n) (by omega)
    exact eb_bd _ (by omega) _ (by unfold rkS; split <;> omega)
theorem fol_nil (n : Nat) {x : Nat} : folS n [] x = eb n x := by
  unfold folS rkS
  rw [if_neg (by simp [altB])]
  simp [cn_nil]
theorem cnt_all {n : Nat} (h1 : 1 ≤ n) : cntS n n [] = ec n := by
  obtain ⟨m, rfl⟩ : ∃ m, n = m + 1 := ⟨n - 1, by omega⟩
  unfold cntS ec
  rw [if_neg (by simp [altB]), sum_N, ern_len, Nat.add_sub_cancel]
  refine sumN_eq fun x hx => ?_
  rw [if_neg (by simp), cnt_fol (m + 1) m [] x (.nil _) (by simp; omega) hx (by simp), fol_nil]
  unfold eb; rw [Nat.add_sub_cancel]
end Go.Proofs.Ytpfkioakjmpimaa

/- Orders: Turning and Number, of the program and of the reference. -/
namespace Go.Proofs.Ytpfkioakjmpimaa
open Go Go.Proofs.Ytpfkioakjmpimaa.AX
set_option linter.unusedVariables false
def fstNZ : List Int → Int
  | [] => 0
  | a :: l => if a = 0 then fstNZ l else a
theorem fst_zero : ∀ {l : List Int}, (∀ x ∈ l, x = 0) → fstNZ l = 0
  | [], _ => rfl
  | a :: l, h => by unfold fstNZ; rw [if_pos (h a (by simp)), fst_zero fun x hx => h x (by simp [hx])]
theorem fst_app : ∀ {a b : List Int}, (∀ x ∈ a, x = 0) → fstNZ (a ++ b) = fstNZ b
  | [], _, _ => rfl
  | x :: a, b, h => by
    show (if x = 0 then fstNZ (a ++ b) else x) = _
    rw [if_pos (h x (by simp)), fst_app fun y hy => h y (by simp [hy])]
theorem fst_at {f : Nat → Int} {n i : Nat} (hi : i < n) (h : ∀ j, j < i → f j = 0) (hf : f i ≠ 0) : fstNZ ((List.range n).map f) = f i := by
  have e : List.range n = List.range i ++ (i :: (List.range (n - i - 1)).map (i + 1 + ·)) := by
    conv => lhs; rw [show n = i + (1 + (n - i - 1)) by omega]
    rw [List.range_add, List.range_add]
    simp [Function.comp_def, Nat.add_assoc]
  rw [e, List.map_append, fst_app (fun x hx => by obtain ⟨j, hj, rfl⟩ := List.mem_map.1 hx; exact h j (List.mem_range.1 hj))]
  rw [List.map_cons]
  unfold fstNZ; rw [if_neg hf]
/-- What is wrong with a place of an order. -/
def orAt (l : List Int) (i : Nat) : Int := if 0 ≤ g l i ∧ g l i < l.length then (if g l i ∈ l.take i then 6 else 0) else 2
def orE (l : List Int) : Int := if lenE l.length 9 = 0 then fstNZ ((List.range l.length).map (orAt l)) else lenE l.length 9
theorem orE_ok {l : List Int} (h0 : lenE l.length 9 = 0) (h : ∀ i, i < l.length → orAt l i = 0) : orE l = 0 := by
  unfold orE; rw [if_pos h0]
  exact fst_zero fun x hx => by obtain ⟨j, hj, rfl⟩ := List.mem_map.1 hx; exact h j (List.mem_range.1 hj)
theorem orE_bad {l : List Int} (h0 : lenE l.length 9 = 0) {i : Nat} (hi : i < l.length) (h : ∀ j, j < i → orAt l j = 0) (hf : orAt l i ≠ 0) : orE l = orAt l i := by
  unfold orE; rw [if_pos h0]; exact fst_at hi h hf
theorem orE_all {l : List Int} (h : orE l = 0) : 1 ≤ l.length ∧ l.length ≤ 9 ∧ ∀ i, i < l.length → orAt l i = 0 := by
  unfold orE at h
  by_cases h0 : lenE l.length 9 = 0
  · rw [if_pos h0] at h
    refine ⟨by unfold lenE at h0; split at h0 <;> omega, by unfold lenE at h0; split at h0; omega; split at h0 <;> omega, fun i => ?_⟩
    induction i using Nat.strongRecOn with
    | ind i ih =>
      intro hi
      by_cases e : orAt l i = 0
      · exact e
      · have := fst_at (f := orAt l) hi (fun j hj => ih j hj (by omega)) e
        rw [h] at this; exact this.symm
  · rw [if_neg h0] at h; exact absurd h h0
theorem take_snoc {l : List Int} {i : Nat} (h : i < l.length) : l.take (i + 1) = l.take i ++ [g l i] := by
  rw [List.take_add_one, List.getElem?_eq_getElem h, ← g_lt h]; rfl
theorem or_beg {l : List Int} : ∀ {i : Nat}, i ≤ l.length → (∀ j, j < i → orAt l j = 0) → Beg l.length (l.take i)
  | 0, _, _ => by simpa using Beg.nil l.length
  | i + 1, hi, h => by
    have hB := or_beg (i := i) (by omega) fun j hj => h j (by omega)
    have ha := h i (by omega)
    unfold orAt at ha
    split at ha
    · rename_i c
      split at ha
      · cases ha
      · rename_i m
        rw [take_snoc (by omega)]
        obtain ⟨x, hx⟩ : ∃ x : Nat, g l i = x := ⟨(g l i).toNat, by omega⟩
        rw [hx] at m c ⊢
        exact hB.snoc (by omega) m
    · cases ha
def turB (l : List Int) : Bool := if orE l = 0 then altB l else false
set_option maxRecDepth 100000 in
theorem Turning_ac (v : AV) (l : List Int) (H : AH) (Q : AV → AH → Prop) (hlen : l.length ≤ 1000000) (hv : Ls H v l) (h : Q (.tuple [.bool (turB l), .int .i64 (orE l)]) H) : AC Try.prog 35 [v] H Q := by
  have hl := ls_len hv
  refine L_body 35 Try.func35 rfl rfl ?_
  refine L_reg [0] (fun K hK => ?_)
  simp
  apply hK; clear hK K
  refine L_reg [0, 4] (fun K hK => ?_)
  simp [okFn_low]
  refine checkLength_ac v l 9 _ _ hv ?_
  simp
  apply hK; clear hK K
  refine L_reg [0, 4, 10] (fun K hK => ?_)
  simp
  apply hK; clear hK K
  by_cases h0 : lenE l.length 9 = 0
  · refine L_false (by simp [h0]) ?_
    refine L_reg [0, 12, 13, 14] (fun K hK => ?_)
    simp [hl]
    apply hK; clear hK K
    refine L_block (L_loopV [14] (fun n vs H' => ∃ i : Nat, n = l.length - i ∧ i ≤ l.length ∧ (∀ j, j < i → orAt l j = 0) ∧ vs = [.int .i64 i] ∧ H = H') _ [.int .i64 0] rfl ⟨0, rfl, by omega, fun j hj => by omega, rfl, rfl⟩ ?_)
    rintro _ _ _ ⟨i, rfl, hi, hall, rfl, rfl⟩
    refine L_reg [0, 12, 13, 14, 15] (fun K hK => ?_)
    simp
    apply hK; clear hK K
    refine L_dec (i < l.length) (by simp) (fun hlt => ?_) (fun hge => L_exit ?_)
    · refine L_block ?_
      obtain ⟨rz, pz, vz, hix, hld⟩ := ls_ix hv hlt
      refine L_reg [0, 5, 6, 12, 13, 14] (fun K hK => ?_)
      simp [hix, hld]
      apply hK; clear hK K
      have hbad := fun hf => orE_bad h0 hlt hall hf
      by_cases c : 0 ≤ g l i ∧ g l i < l.length
      · have c1 : ¬ g l i < 0 := by omega
        have c2 : ¬ (l.length : Int) ≤ g l i := by omega
        refine L_reg [0, 5, 6, 12, 13, 14, 26] (fun K hK => ?_)
        simp [c1, c2, hl, pickV]
        apply hK; clear hK K
        refine L_false rfl ?_
        obtain ⟨u, hu1, hu2⟩ := ls_hi hv (by omega) (m := i) (by omega)
        refine L_reg [0, 12, 13, 14, 31] (fun K hK => ?_)
        simp [okFn_low, hu1]
        refine Contains_ac u (l.take i) (g l i) _ _ (by simp; omega) hu2 ?_
        simp
        apply hK; clear hK K
        by_cases m : g l i ∈ l.take i
        · have e : orAt l i = 6 := by unfold orAt; rw [if_pos c, if_pos m]
          rw [e] at hbad
          have he := hbad (by decide)
          unfold turB at h
          rw [he, if_neg (by decide)] at h
          refine L_true (by simp [m]) ?_
          refine L_reg [2, 3] (fun K hK => ?_)
          simp
          apply hK; clear hK K
          exact L_ret ⟨.inr rfl, _, rfl, h⟩
        · have e : orAt l i = 0 := by unfold orAt; rw [if_pos c, if_neg m]
          refine L_false (by simp [m]) ?_
          refine L_reg [0, 12, 13, 14] (fun K hK => ?_)
          simp [wrap_i64 (a := (i : Int) + 1) (by omega)]
          apply hK; clear hK K
          exact ⟨l.length - (i + 1), [.int .i64 (i + 1 : Nat)], by omega, by simp, i + 1, rfl, by omega, fun j hj => by
            by_cases e' : j = i
            · rw [e']; exact e
            · exact hall j (by omega), rfl, rfl⟩
      · have e : orAt l i = 2 := by unfold orAt; rw [if_neg c]
        rw [e] at hbad
        have he := hbad (by decide)
        unfold turB at h
        rw [he, if_neg (by decide)] at h
        by_cases c1 : g l i < 0
        · refine L_reg [0, 5, 6, 12, 13, 14, 26] (fun K hK => ?_)
          simp [c1, pickV]
          apply hK; clear hK K
          refine L_true rfl ?_
          refine L_reg [2, 3] (fun K hK => ?_)
          simp
          apply hK; clear hK K
          exact L_ret ⟨.inr rfl, _, rfl, h⟩
        · have c2 : (l.length : Int) ≤ g l i := by omega
          refine L_reg [0, 5, 6, 12, 13, 14, 26] (fun K hK => ?_)
          simp [c1, c2, hl, pickV]
          apply hK; clear hK K
          refine L_true rfl ?_
          refine L_reg [2, 3] (fun K hK => ?_)
          simp
          apply hK; clear hK K
          exact L_ret ⟨.inr rfl, _, rfl, h⟩
    · have he := orE_ok h0 fun j hj => hall j (by omega)
      unfold turB at h
      rw [he, if_pos rfl] at h
      refine L_reg [2, 3] (fun K hK => ?_)
      simp [okFn_low]
      refine turns_ac v l _ _ hlen hv ?_
      simp
      apply hK; clear hK K
      exact L_ret ⟨.inr rfl, _, rfl, h⟩
  · have he : orE l = lenE l.length 9 := by unfold orE; rw [if_neg h0]
    unfold turB at h
    rw [he, if_neg h0] at h
    refine L_true (by simp [h0]) ?_
    refine L_reg [2, 3] (fun K hK => ?_)
    simp
    apply hK; clear hK K
    exact L_ret ⟨.inr rfl, _, rfl, h⟩
end Go.Proofs.Ytpfkioakjmpimaa
