/- Groups by numbers; lists that are equal; a rule, or a plan, of a list. -/
import Derived.Test.YtcidcihpkdoejaaPub4
import Derived.Test.YtcidcihpkdoejaaAxT
namespace Go.Proofs.Ytcidcihpkdoejaa.Bo
open Go Go.Proofs.Ytcidcihpkdoejaa Go.Proofs.Ytcidcihpkdoejaa.AX
set_option maxRecDepth 100000
theorem rem_nat (a b : Nat) : ((a : Int)).tmod (b : Int) = ((a % b : Nat) : Int) := by
  rw [Int.tmod_eq_emod_of_nonneg (Int.natCast_nonneg _)]; simp
/-- A part of an array that ends with its struct. -/
theorem slice_tail {P : Program} {t : TypeId} {n z : Nat} (h : arSz P t = some (n, z)) (hn : 0 < n) (hz : 0 < z) {H : AH} {r off ver s : Nat} {c : List AV} {ro : Bool} {k : IntKind} {m : Nat} (hr : H[r]? = some (.row c ver s ro)) (hc : c.length = off + n * z) (hk : ∀ v ∈ c, v ≠ .undef) (hm : m ≤ n) :
    sliceR P t H (.ptr r off ver) none (some (.int k (m : Int))) none = some (.slice (some r) (off + 0) m ver z false) := by
  unfold arSz at h
  split at h
  case h_2 => cases h
  rename_i n' e hu
  obtain ⟨ie, hie, h⟩ := Option.map_eq_some_iff.1 h
  cases h
  have hmul : 0 < n * ie.size := Nat.mul_pos hn hz
  have h2 : (ld H r (off + n * ie.size - 1) ver).isSome = true := by
    rw [ld_row hr]
    have hlt : off + n * ie.size - 1 < c.length := by omega
    rw [List.getElem?_eq_getElem hlt]
    have := hk _ (List.getElem_mem hlt)
    generalize c[off + n * ie.size - 1] = v at this
    cases v <;> first | rfl | exact absurd rfl this
  have h3 : endOk H r (off + n * ie.size) = true := by simp [endOk, hr, hc]
  simp [sliceR, hu, hie, hn, hz, h2, h3, aBounds, aBound, hm, partOf]
/-- Bytes as cells. -/
def sV (b : List Nat) : List AV := b.map fun x : Nat => .int .u8 (x : Int)
theorem sV_len (b : List Nat) : (sV b).length = b.length := by simp [sV]
theorem sV_known (b : List Nat) : ∀ v ∈ sV b, v ≠ .undef := by
  intro v hv
  obtain ⟨x, -, rfl⟩ := List.mem_map.1 hv
  intro h; cases h
theorem ld_sV {H : AH} {r s i : Nat} {b : List Nat} {ro : Bool} (hr : H[r]? = some (.row (sV b) 0 s ro)) (hi : i < b.length) : ld H r i 0 = some (.int .u8 (b[i] : Nat)) := by
  rw [ld_row hr]
  simp [sV, hi, known]
/-- Ten bytes that came. -/
structure Sb (b : List Nat) : Prop where
  len : b.length = 10
  lt : ∀ x ∈ b, x < 256
theorem Sb.at {b : List Nat} (h : Sb b) {i : Nat} (hi : i < b.length) : b[i] < 256 := h.lt _ (List.getElem_mem hi)
def sN (most : Nat) (b : List Nat) : Nat := 1 + b[0]! % most
def sL (most : Nat) (b : List Nat) : List Nat := ((b.drop 2).take (b[1]! % 9)).map fun x => x % 2 ^ sN most b
theorem sN_le {most : Nat} (h1 : 1 ≤ most) (b : List Nat) : 1 ≤ sN most b ∧ sN most b ≤ most := by
  have := Nat.mod_lt b[0]! h1
  unfold sN; omega
theorem sL_len (most : Nat) {b : List Nat} (h : b.length = 10) : (sL most b).length = b[1]! % 9 := by
  have := Nat.mod_lt b[1]! (show 0 < 9 by decide)
  simp [sL, h]; omega
theorem sL_ok (most : Nat) (b : List Nat) : okG (2 ^ sN most b) (sL most b) := by
  intro o ho
  obtain ⟨x, -, rfl⟩ := List.mem_map.1 ho
  exact Nat.mod_lt _ (pw _)
theorem okS {most : Nat} (h1 : 1 ≤ most) (h6 : most ≤ 6) {b : List Nat} (h : b.length = 10) : OkR (sN most b) (sL most b) where
  n1 := (sN_le h1 b).1
  n6 := Nat.le_trans (sN_le h1 b).2 h6
  len := by rw [sL_len most h]; have := Nat.mod_lt b[1]! (show 0 < 9 by decide); omega
  ok := sL_ok most b
theorem made_ac {most : Nat} (h1 : 1 ≤ most) (h6 : most ≤ 6) {b : List Nat} (hb : Sb b) (H : AH) (Q : AV → AH → Prop) (h : ∀ v H', OwnF H.length H' v ((il (sL most b)).map (.int .i64)) → Ext H H' → Q (.tuple [.int .i64 (sN most b : Nat), v]) H') : AC Try.prog 43 [.agg (sV b), .int .i64 (most : Nat)] H Q := by
  refine L_body 38 Try.func43 rfl rfl ?_
  have hl := hb.len
  have hn := sN_le h1 b
  have e0 : b[0]! = b[0] := getElem!_pos b 0 (by omega)
  have e1 : b[1]! = b[1] := getElem!_pos b 1 (by omega)
  have hm9 := Nat.mod_lt b[1]! (show 0 < 9 by decide)
  have hsl := sL_len most hl
  have hL : sL most b = ((b.drop 2).take (b[1]! % 9)).map fun x => x % 2 ^ sN most b := rfl
  have hN : sN most b = 1 + b[0]! % most := rfl
  rw [e1] at hL hm9 hsl
  rw [e0] at hN
  refine L_reg [1, 2] (fun K hK => ?_)
  simp [AV.isU, acells]
  apply hK; clear hK K
  have r1 : (H ++ [AObj.row (sV b) 0 0 false])[H.length]? = some (.row (sV b) 0 0 false) := by simp
  have hE : Ext H (H ++ [AObj.row (sV b) 0 0 false]) := .push _ _
  generalize H ++ [AObj.row (sV b) 0 0 false] = H1 at r1 hE ⊢
  have l0 := ld_sV r1 (i := 0) (by omega)
  have l1 := ld_sV r1 (i := 1) (by omega)
  have b0 := hb.at (i := 0) (by omega)
  have b1 := hb.at (i := 1) (by omega)
  have hm0 : most ≠ 0 := by omega
  obtain ⟨x0, hx0⟩ : ∃ x, b[0] = x := ⟨_, rfl⟩
  obtain ⟨x1, hx1⟩ : ∃ x, b[1] = x := ⟨_, rfl⟩
  rw [hx0] at l0 b0 hN
  rw [hx1] at l1 b1 hm9 hL hsl
  have hr0 := rem_nat x0 most
  have hr1 : (x1 : Int).tmod 9 = ((x1 % 9 : Nat) : Int) := rem_nat x1 9
  have hlt := Nat.mod_lt x0 h1
  obtain ⟨y, hy⟩ : ∃ y, x0 % most = y := ⟨_, rfl⟩
  obtain ⟨z, hz⟩ : ∃ z, x1 % 9 = z := ⟨_, rfl⟩
  rw [hy] at hr0 hN hlt
  rw [hz] at hr1 hm9 hL hsl
  refine L_reg [2, 6] (fun K hK => ?_)
  simp [l0, wrap_i64 (a := (x0 : Int)) (by omega), hr0, hm0, wrap_i64 (a := 1 + (y : Int)) (by omega)]
  apply hK; clear hK K
  have hn' : 1 + (y : Int) = ((sN most b : Nat) : Int) := by rw [hN]; simp
  rw [hn']
  obtain ⟨n, hne⟩ : ∃ n, sN most b = n := ⟨_, rfl⟩
  rw [hne] at h hN hn hL ⊢
  have hpt := slice_tail ar66 (by decide) (by decide) (k := .i64) (m := z) (off := 2) r1 (by rw [sV_len, hl]) (sV_known b) (by omega)
  refine L_reg [2, 6, 7] (fun K hK => ?_)
  simp
  apply hK; clear hK K
  refine L_reg [6, 7, 21, 22, 23] (fun K hK => ?_)
  simp [l1, wrap_i64 (a := (x1 : Int)) (by omega), hr1, noSlice ar66, hpt]
  apply hK; clear hK K
  refine L_block (L_loopV [7, 23] (fun q vs H' => ∃ (i : Nat) (v : AV), q = z - i ∧ i ≤ z ∧ vs = [v, .int .i64 i] ∧ Ext H1 H' ∧ OwnF H1.length H' v ((il (((b.drop 2).take i).map fun x => x % 2 ^ n)).map (.int .i64))) _ [nilS, .int .i64 (0 : Nat)] rfl ⟨0, _, rfl, by omega, rfl, .refl _, OwnF.nil _ _⟩ ?_)
  clear l0 l1 hpt
  have hp1 := (List.getElem?_eq_some_iff.1 r1).1
  rintro q _ H2 ⟨i, v, rfl, hi, rfl, hE2, ho⟩
  refine L_reg [6, 7, 21, 22, 23, 24] (fun K hK => ?_)
  simp
  apply hK; clear hK K
  refine L_dec (i < z) (by simp) (fun hlt => ?_) (fun hge => L_exit ?_)
  · refine L_block ?_
    have hld := ld_sV (H := H2) (by rw [hE2.2 _ hp1]; exact r1) (i := 2 + i) (by omega)
    have hxb := hb.at (i := 2 + i) (by omega)
    have htk : (b.drop 2).take (i + 1) = (b.drop 2).take i ++ [b[2 + i]'(by omega)] := by
      rw [List.take_succ_eq_append_getElem (by rw [List.length_drop]; omega)]
      simp
    generalize b[2 + i] = x at hld hxb htk
    have hlt' : (i : Int) < (z : Int) := by omega
    refine L_reg [6, 7, 9, 21, 22, 23] (fun K hK => ?_)
    simp [hlt', hld]
    apply hK; clear hK K
    have hp := pw n
    have h64 := pw64 (show n ≤ 6 by omega)
    have hshl : ∀ tt ll, binV Try.prog .shl tt ll (.int .i64 1) (.int .i64 (n : Int)) = some (.int .i64 ((2 ^ n : Nat) : Int)) := fun _ _ => n_shl n (by omega)
    obtain ⟨v', H3, happ, ho2, hE3⟩ := ownF_append (P := Try.prog) (m := 1) (x := .int .i64 (x % 2 ^ n : Nat)) hE2 el22 el22 ho rfl (by simp [il_len]; omega)
    have hr2 := rem_nat x (2 ^ n)
    have hm2 : 2 ^ n ≠ 0 := by omega
    have hlt2 := Nat.mod_lt x hp
    obtain ⟨w, hw⟩ : ∃ w, x % 2 ^ n = w := ⟨_, rfl⟩
    have hcat : (il (((b.drop 2).take (i + 1)).map fun x => x % 2 ^ n)).map (AV.int .i64) = (il (((b.drop 2).take i).map fun x => x % 2 ^ n)).map (.int .i64) ++ [.int .i64 (w : Int)] := by
      rw [htk, List.map_append, il_app, List.map_append]
      simp [il, ← hw]
    rw [hw] at hr2 happ ho2 hlt2
    rw [← hcat] at ho2
    obtain ⟨N, hNe⟩ : ∃ N, 2 ^ n = N := ⟨_, rfl⟩
    rw [hNe] at hshl hr2 hm2 hlt2 h64
    refine L_reg [6, 7, 21, 22, 23] (fun K hK => ?_)
    simp [wrap_i64 (a := (x : Int)) (by omega), hshl, hr2, hm2, happ]
    apply hK; clear hK K
    refine L_reg [6, 7, 21, 22, 23] (fun K hK => ?_)
    simp [wrap_i64 (a := (i : Int) + 1) (by omega)]
    apply hK; clear hK K
    exact ⟨z - (i + 1), [v', .int .i64 (i + 1 : Nat)], by omega, by simp, i + 1, v', rfl, by omega, rfl, hE3, ho2⟩
  · have e : i = z := by omega
    subst e
    rw [← hL] at ho
    refine L_reg [4, 5] (fun K hK => ?_)
    simp
    apply hK; clear hK K
    exact L_ret ⟨.inr rfl, _, rfl, h v _ (ho.mono hE.1) (hE.trans hE2)⟩
theorem large_q (u : AV) (l : List Int) (H : AH) (hu : Ls H u l) (Q : AV → AH → Prop) (h : Q (.bool (decide (200 < l.length))) H) : AC Try.prog 14 [u] H Q := by
  refine L_body 6 Try.func14 rfl rfl ?_
  have hvl := ls_len hu
  refine L_reg [0] (fun K hK => ?_)
  simp
  apply hK; clear hK K
  refine L_reg [2] (fun K hK => ?_)
  simp [hvl]
  apply hK; clear hK K
  have e : decide (200 < (l.length : Int)) = decide (200 < l.length) := by rw [decide_eq_decide]; omega
  refine L_ret ⟨.inr rfl, _, rfl, ?_⟩
  simpa [e] using h
/-- Two lists are equal. -/
theorem same_q (u v : AV) (l m : List Int) (hlen : l.length ≤ 1000000) (hlen' : m.length ≤ 1000000) (H : AH) (hu : Ls H u l) (hv : Ls H v m) (Q : AV → AH → Prop) (h : Q (.bool (decide (l = m))) H) : AC Try.prog 22 [u, v] H Q := by
  refine AC.quiet (belB_bool _ _ _) (fun Q h => ?_) Q h
  refine L_body 26 Try.func22 rfl rfl ?_
  have hul := ls_len hu
  have hvl := ls_len hv
  refine L_reg [0, 1] (fun K hK => ?_)
  simp
  apply hK; clear hK K
  refine L_reg [0, 1, 10] (fun K hK => ?_)
  simp [hul, hvl]
  apply hK; clear hK K
  by_cases hl : l.length = m.length
  case neg =>
    refine L_true (by simp; omega) ?_
    refine L_reg [4] (fun K hK => ?_)
    simp
    apply hK; clear hK K
    refine L_ret ⟨.inr rfl, _, rfl, ?_⟩
    rw [decide_eq_false (fun e => hl (by rw [e]))] at h
    exact h _ (.refl _)
  refine L_false (by simp; omega) ?_
  refine L_reg [0, 1, 5] (fun K hK => ?_)
  simp
  apply hK; clear hK K
  refine L_block (L_loopV [5] (fun q vs H' => ∃ i : Nat, q = l.length - i ∧ i ≤ l.length ∧ vs = [.int .i64 i] ∧ H = H' ∧ l.take i = m.take i) _ [.int .i64 (0 : Nat)] rfl ⟨0, rfl, by omega, rfl, rfl, rfl⟩ ?_)
  rintro q _ _ ⟨i, rfl, hi, rfl, rfl, hc⟩
  refine L_reg [0, 1, 5, 14] (fun K hK => ?_)
  simp [hul]
  apply hK; clear hK K
  refine L_dec (i < l.length) (by simp) (fun hlt => ?_) (fun hge => L_exit ?_)
  · refine L_block ?_
    obtain ⟨rz, pz, vz, hix, hldz⟩ := ls_ix hu hlt
    obtain ⟨rw', pw', vw', hiw, hldw⟩ := ls_ix hv (i := i) (by omega)
    have t1 : l.take (i + 1) = l.take i ++ [l[i]] := by rw [List.take_succ_eq_append_getElem hlt]
    have t2 : m.take (i + 1) = m.take i ++ [m[i]'(by omega)] := by rw [List.take_succ_eq_append_getElem (by omega)]
    have hne : l[i] ≠ m[i]'(by omega) → l ≠ m := fun h e => h (by subst e; rfl)
    generalize l[i] = x at hldz t1 hne
    generalize m[i]'(by omega) = y at hldw t2 hne
    refine L_regT mixed [0, 1, 5, 25] (by kernel_rfl) (fun K hK => ?_)
    simp [hix, hldz, hiw, hldw]
    apply hK; clear hK K
    by_cases hxy : x = y
    · refine L_false (by simp [hxy]) ?_
      refine L_reg [0, 1, 5] (fun K hK => ?_)
      simp [wrap_i64 (a := (i : Int) + 1) (by omega)]
      apply hK; clear hK K
      exact ⟨l.length - (i + 1), [.int .i64 (i + 1 : Nat)], by omega, by simp, i + 1, rfl, by omega, rfl, rfl, by rw [t1, t2, hc, hxy]⟩
    · refine L_true (by simp [hxy]) ?_
      refine L_reg [4] (fun K hK => ?_)
      simp
      apply hK; clear hK K
      refine L_ret ⟨.inr rfl, _, rfl, ?_⟩
      rw [decide_eq_false (hne hxy)] at h
      exact h _ (.refl _)
  · have e : i = l.length := by omega
    subst e
    rw [List.take_length, hl, List.take_length] at hc
    refine L_reg [4] (fun K hK => ?_)
    simp
    apply hK; clear hK K
    refine L_ret ⟨.inr rfl, _, rfl, ?_⟩
    rw [decide_eq_true hc] at h
    exact h _ (.refl _)
theorem il_inj {l m : List Nat} : il l = il m ↔ l = m := by
  constructor
  · intro h
    have := congrArg (List.map Int.toNat) h
    rwa [il_nat, il_nat] at this
  · intro h; rw [h]
/-- Two lists of groups are equal. -/
theorem sameN_q (u v : AV) (l m : List Nat) (hlen : l.length ≤ 1000000) (hlen' : m.length ≤ 1000000) (H : AH) (hu : Ls H u (il l)) (hv : Ls H v (il m)) (Q : AV → AH → Prop) (h : Q (.bool (decide (l = m))) H) : AC Try.prog 22 [u, v] H Q :=
  same_q u v (il l) (il m) (by rw [il_len]; exact hlen) (by rw [il_len]; exact hlen') H hu hv Q (by rw [show decide (il l = il m) = decide (l = m) by rw [decide_eq_decide]; exact il_inj]; exact h)
theorem bd24' (n : Int) {H : AH} {s : AV} {l : List Int} (h : Ls H s l) : aBuilt Try.prog 24 [(0, .int .i64 n), (1, s)] = some [.int .i64 n, s] := by
  obtain ⟨r, off, ver, sz, full, rfl, -⟩ := h
  kernel_rfl
theorem bd40' (n : Int) {H : AH} {s : AV} {l : List Int} (h : Ls H s l) : aBuilt Try.prog 40 [(0, .int .i64 n), (1, s)] = some [.int .i64 n, s] := by
  obtain ⟨r, off, ver, sz, full, rfl, -⟩ := h
  kernel_rfl
theorem rule_ac (n : Int) (s : AV) (l : List Int) (H : AH) (hs : Ls H s l) (Q : AV → AH → Prop) (h : ∀ H', Ext H H' → Q (cA n s) H') : AC Try.prog 44 [.int .i64 n, s] H Q := by
  refine L_body 8 Try.func44 rfl rfl ?_
  obtain ⟨I, hI, hz⟩ := zeroT_some zt24
  refine L_reg [0, 1, 4] (fun K hK => ?_)
  simp [hI, hz]
  apply hK; clear hK K
  have hst := st2 (t := 24) ag24 (n := n) (s := s) (k := 0) (n' := 0) (s' := nilS) (p := H.length) (H := H ++ [AObj.row [.int .i64 0, nilS] 0 0 false]) (by simp) (by intro h; cases h) (ls_one hs)
  refine L_reg [4] (fun K hK => ?_)
  simp [bd24' n hs, hst]
  apply hK; clear hK K
  refine L_ret ⟨.inr rfl, _, res_cell rfl ?_, h _ (.push _ _)⟩
  simp [ldn_c (n := n) (s := s) (H := H ++ [AObj.row [.int .i64 n, s] 0 0 false]) (p := H.length) (k := 0) (ro := false) (by simp) (ls_known hs), cA]
theorem plan_ac (n : Int) (s : AV) (l : List Int) (H : AH) (hs : Ls H s l) (Q : AV → AH → Prop) (h : ∀ H', Ext H H' → Q (cA n s) H') : AC Try.prog 47 [.int .i64 n, s] H Q := by
  refine L_body 8 Try.func47 rfl rfl ?_
  obtain ⟨I, hI, hz⟩ := zeroT_some zt40
  refine L_reg [0, 1, 4] (fun K hK => ?_)
  simp [hI, hz]
  apply hK; clear hK K
  have hst := st2 (t := 40) ag40 (n := n) (s := s) (k := 0) (n' := 0) (s' := nilS) (p := H.length) (H := H ++ [AObj.row [.int .i64 0, nilS] 0 0 false]) (by simp) (by intro h; cases h) (ls_one hs)
  refine L_reg [4] (fun K hK => ?_)
  simp [bd40' n hs, hst]
  apply hK; clear hK K
  refine L_ret ⟨.inr rfl, _, res_cell rfl ?_, h _ (.push _ _)⟩
  simp [ldn_c (n := n) (s := s) (H := H ++ [AObj.row [.int .i64 n, s] 0 0 false]) (p := H.length) (k := 0) (ro := false) (by simp) (ls_known hs), cA]
end Go.Proofs.Ytcidcihpkdoejaa.Bo
