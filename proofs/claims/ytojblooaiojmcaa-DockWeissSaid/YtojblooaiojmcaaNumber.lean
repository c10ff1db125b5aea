/- Dock: numbers of lists of wishes. -/
import Derived.Test.YtojblooaiojmcaaCount2
namespace Go.Proofs.Ytojblooaiojmcaa
open Go Go.Proofs.Ytojblooaiojmcaa.AX

def gW (n k s w : Nat) : Nat := if ff s (n - w) w < n then tlF n k (s ||| 2 ^ ff s (n - w) w) else 0
def numS (n : Nat) : Nat → List Nat → Nat
  | _, [] => 0
  | s, w :: l => sW (gW n l.length s) w + numS n (nextSet n s w) l
theorem gW_le {n : Nat} (hn : n ≤ 8) {k : Nat} (hk : k ≤ 7) (s w : Nat) : gW n k s w ≤ 2097152 := by
  unfold gW
  split
  · exact Nat.le_trans (tlF_le hn k _) (Nat.le_trans (Nat.pow_le_pow_right (by decide) hk) (by decide))
  · exact Nat.zero_le _
theorem popc_or {s b : Nat} (hb : b < 8) (hf : s.testBit b = false) : popc (s ||| 2 ^ b) = popc s + 1 := by
  unfold popc
  rw [bc_or hf, if_pos ⟨Nat.zero_le _, by omega⟩]
/-- What the table has behind a cart that parks. -/
theorem tlS_behind {n m s b : Nat} (hn : n ≤ 8) (hs : s < 2 ^ n) (hb : b < n) (hf : s.testBit b = false) (hp : popc s < m) : tlS n m (s ||| 2 ^ b) = tlF n (m - popc s - 1) (s ||| 2 ^ b) := by
  rw [tlS, if_pos ⟨Nat.or_lt_two_pow hs (Nat.pow_lt_pow_right (by decide) hb), by rw [popc_or (by omega) hf]; omega⟩, popc_or (by omega) hf, Nat.sub_add_eq]

theorem behind_g {r n m s w : Nat} {H : AH} {Q : AV → AH → Prop} (hn : n ≤ 8) (hw : w ≤ n) (hs : s < 2 ^ n) (hp : popc s < m) (hrow : H[r]? = some (.row (tailsV (tlS n m)) 0 0 false))
    (h : ∀ H', Ext H H' → Q (.int .i64 (gW n (m - popc s - 1) s w : Nat)) H') : AC Try.prog 74 [.ptr r 0 0, fateV n (ff s (n - w) w), .int .u64 s] H Q := by
  have hs256 : s < 256 := Nat.lt_of_lt_of_le hs (pow_le256 hn)
  obtain ⟨f1, f2, f3, f4⟩ := ff_spec s (n - w) w
  rw [show w + (n - w) = n by omega] at f2 f4
  unfold gW at h
  generalize ff s (n - w) w = b at *
  by_cases hb : b < n
  · rw [if_pos hb, ← tlS_behind hn hs hb (f4 hb) hp] at h
    exact behind_yes r n b s _ H Q hn hb hs256 hrow (h _ (.push _ _))
  · rw [if_neg hb] at h
    exact behind_no r n b s H Q hb (h _ (.refl _))

def numE (n : Int) (l : List Int) : Int := if checkS n l ≠ 0 then checkS n l else if -1 ∈ parkS n.toNat 0 (natL l) then 14 else 0
def numV (n : Int) (l : List Int) : Int := if numE n l ≠ 0 then 0 else numS n.toNat 0 (natL l)

theorem drive_ext {n s w : Nat} {H : AH} {Q : AV → AH → Prop} (hs : s < 256) (hn : n ≤ 8) (h : Q (fateV n (ff s (n - w) w)) H) : AC Try.prog 64 [.int .i64 n, .int .u64 s, .int .i64 w] H Q :=
  drive_ac n s w H Q (by omega) hn h

/-- The set behind a cart that parks. -/
theorem leaves_g {n s w : Nat} {H : AH} {Q : AV → AH → Prop} (hn : n ≤ 8) (hs : s < 256) (hb : ff s (n - w) w < n) (h : ∀ H', Ext H H' → Q (.int .u64 (nextSet n s w : Nat)) H') :
    callS (invS Try.prog "vitola/dock.leaves" (fateV n (ff s (n - w) w)) [.int .u64 (s : Nat)]) fun f args => AC Try.prog f args H Q := by
  rw [nextSet, if_pos hb] at h
  rw [fateV, if_pos hb, invS_some inv91]
  exact leaves_ac _ s _ _ (by omega) (by omega) h

set_option maxRecDepth 100000 in
theorem Number_ac (n : Int) (v : AV) (l : List Int) (H : AH) (Q : AV → AH → Prop) (hl : l.length ≤ 1048576) (hv : Ls H v l) (h : ∀ H', Ext H H' → Q (.tuple [.int .i64 (numV n l), .int .i64 (numE n l)]) H') : AC Try.prog 37 [.int .i64 n, v] H Q := by
  refine L_body 54 Try.func37 rfl rfl ?_
  refine L_reg [0, 1] (fun K hK => ?_)
  simp
  apply hK; clear hK K
  refine L_reg [0, 1, 6] (fun K hK => ?_)
  simp [okFn_low]
  refine Check_ac _ _ l _ _ hl hv ?_
  simp
  apply hK; clear hK K
  refine L_reg [0, 1, 6, 17] (fun K hK => ?_)
  simp
  apply hK; clear hK K
  by_cases h0 : checkS n l = 0
  case neg =>
    have hE : numE n l = checkS n l := by rw [numE, if_pos h0]
    refine L_true (by simp [h0]) ?_
    rw [numV, hE, if_pos h0] at h
    refine L_reg [4, 5] (fun K hK => ?_)
    simp
    apply hK; clear hK K
    exact L_ret ⟨.inr rfl, _, rfl, h _ (.refl _)⟩
  refine L_false (by simp [h0]) ?_
  obtain ⟨m, l', rfl, hm1, hm8, rfl, hlen, hw⟩ := checked h0
  have hE : numE m (l'.map Int.ofNat) = if -1 ∈ parkS m 0 l' then 14 else 0 := by rw [numE, if_neg (by omega), natL_of]; rfl
  refine L_reg [0, 1, 22] (fun K hK => ?_)
  simp [okFn_low]
  refine serves_ac m v l' _ _ hm8 (by omega) hv (fun H1 hE1 => ?_)
  simp
  apply hK; clear hK K
  by_cases hs : -1 ∈ parkS m 0 l'
  case pos =>
    rw [if_pos hs] at hE
    rw [numV, hE, if_pos (by decide)] at h
    refine L_true (by simp [hs]) ?_
    refine L_reg [4, 5] (fun K hK => ?_)
    simp
    apply hK; clear hK K
    exact L_ret ⟨.inr rfl, _, rfl, h _ hE1⟩
  rw [if_neg hs] at hE
  rw [numV, hE, if_neg (by decide), natL_of] at h
  simp only [Int.toNat_natCast] at h
  refine L_false (by simp [hs]) ?_
  have hv1 := hv.ext hE1
  obtain ⟨r, off, ver, sz, full, rfl, hld⟩ := id hv1
  simp only [List.length_map] at hld ⊢
  refine L_reg [0, 1, 7] (fun K hK => ?_)
  simp [okFn_low]
  refine countTails_ac m l'.length _ _ hm8 hlen (fun H2 hE2 => ?_)
  have hz := alloc_z (P := Try.prog) (H := H2) z78
  simp [hz]
  have hrow : (H2 ++ [AObj.row (tailsV fun _ => 0) 0 0 false])[H2.length]? = some (.row (tailsV fun _ => 0) 0 0 false) := by simp
  have hst := store78 (g := tlS m l'.length) hrow
  rw [hst]
  simp
  apply hK; clear hK K
  have hr3 : (H2 ++ [AObj.row (tailsV (tlS m l'.length)) 0 0 false])[H2.length]? = some (.row (tailsV (tlS m l'.length)) 0 0 false) := by simp
  have hE3 : Ext H (H2 ++ [AObj.row (tailsV (tlS m l'.length)) 0 0 false]) := (hE1.trans hE2).trans (.push _ _)
  have hE3' : Ext H1 (H2 ++ [AObj.row (tailsV (tlS m l'.length)) 0 0 false]) := hE2.trans (.push _ _)
  generalize H2 ++ [AObj.row (tailsV (tlS m l'.length)) 0 0 false] = H3 at *
  generalize H2.length = q at *
  clear hst hrow hz
  refine L_reg [0, 1, 7, 8] (fun K hK => ?_)
  simp
  apply hK; clear hK K
  refine L_reg [0, 1, 7, 8, 9] (fun K hK => ?_)
  simp
  apply hK; clear hK K
  refine L_reg [0, 7, 8, 9, 27, 28, 29] (fun K hK => ?_)
  simp
  apply hK; clear hK K
  refine L_block (L_loopV [8, 9, 29] (fun k vs H' => ∃ (i s a : Nat), k = l'.length - i ∧ i ≤ l'.length ∧ s < 2 ^ m ∧ popc s = i ∧ a ≤ 16777216 * i ∧ ¬ (-1 ∈ parkS m s (l'.drop i)) ∧ a + numS m s (l'.drop i) = numS m 0 l' ∧ vs = [.int .i64 a, .int .u64 s, .int .i64 i] ∧ Ext H3 H') _ [.int .i64 (0 : Nat), .int .u64 (0 : Nat), .int .i64 (0 : Nat)] rfl
    ⟨0, 0, 0, rfl, by omega, Nat.two_pow_pos m, popc_zero, by omega, hs, by simp, rfl, .refl _⟩ ?_)
  rintro k _ H4 ⟨i, s, a, rfl, hi, hs2, hpc, ha, hns, hnum, rfl, hE4⟩
  have hs256 : s < 256 := Nat.lt_of_lt_of_le hs2 (pow_le256 hm8)
  refine L_reg [0, 7, 8, 9, 27, 28, 29, 30] (fun K hK => ?_)
  simp
  apply hK; clear hK K
  refine L_dec (i < l'.length) (by simp) (fun hlt => ?_) (fun hge => L_exit ?_)
  · obtain ⟨r', rfl, rfl, hldi⟩ := hld i hlt
    have hld' := (hE3'.trans hE4).ld hldi
    simp only [List.getElem_map] at hld'
    rw [List.drop_eq_getElem_cons hlt] at hns hnum
    rw [parkS] at hns
    rw [numS] at hnum
    have hwm := hw l'[i] (List.getElem_mem hlt)
    have hrl : (l'.drop (i + 1)).length = l'.length - popc s - 1 := by simp; omega
    rw [hrl] at hnum
    generalize l'[i] = w at *
    simp only [List.mem_cons, not_or] at hns
    obtain ⟨f1, f2, f3, f4⟩ := ff_spec s (m - w) w
    rw [show w + (m - w) = m by omega] at f2 f4
    have hbm : ff s (m - w) w < m := by
      rcases Nat.lt_or_ge (ff s (m - w) w) m with h5 | h5
      · exact h5
      · exact absurd (by rw [if_neg (by omega)]) hns.1
    have hnext : nextSet m s w = s ||| 2 ^ ff s (m - w) w := by rw [nextSet, if_pos hbm]
    have hn2 : nextSet m s w < 2 ^ m := by rw [hnext]; exact Nat.or_lt_two_pow hs2 (Nat.pow_lt_pow_right (by decide) hbm)
    have hpc2 : popc (nextSet m s w) = i + 1 := by rw [hnext, popc_or (by omega) (f4 hbm), hpc]
    have hgb : ∀ j, j ≤ 8 → sW (gW m (l'.length - popc s - 1) s) j ≤ 16777216 := by
      intro j hj
      have h1 := sW_le (gW_le hm8 (k := l'.length - popc s - 1) (by omega) s) j
      have : j * 2097152 ≤ 8 * 2097152 := Nat.mul_le_mul hj (Nat.le_refl _)
      omega
    refine L_block ?_
    refine L_reg [0, 7, 8, 9, 11, 27, 28, 29] (fun K hK => ?_)
    simp [hlt, hld']
    apply hK; clear hK K
    refine L_reg [0, 7, 8, 9, 11, 27, 28, 29, 33, 34] (fun K hK => ?_)
    simp
    apply hK; clear hK K
    refine L_block (L_loopV [8, 34] (fun k vs H' => ∃ (j : Nat), k = w - j ∧ j ≤ w ∧ vs = [.int .i64 ((a + sW (gW m (l'.length - popc s - 1) s) j : Nat) : Int), .int .i64 j] ∧ Ext H3 H') _ [.int .i64 (a : Nat), .int .i64 (0 : Nat)] rfl ⟨0, rfl, by omega, by simp [sW], hE4⟩ ?_)
    rintro k _ H5 ⟨j, rfl, hj, rfl, hE5⟩
    have hb1 := hgb j (by omega)
    refine L_reg [0, 7, 8, 9, 11, 27, 28, 29, 33, 34, 35] (fun K hK => ?_)
    simp [-Int.natCast_add]
    apply hK; clear hK K
    refine L_dec (j < w) (by simp) (fun hjw => ?_) (fun hjw => L_exit ?_)
    · have hb2 := hgb (j + 1) (by omega)
      rw [sW] at hb2
      have hsw : sW (gW m (l'.length - popc s - 1) s) (j + 1) = sW (gW m (l'.length - popc s - 1) s) j + gW m (l'.length - popc s - 1) s j := rfl
      refine L_block ?_
      refine L_reg [0, 7, 8, 9, 11, 12, 27, 28, 29, 33, 34] (fun K hK => ?_)
      simp [-Int.natCast_add]
      apply hK; clear hK K
      refine L_reg [0, 7, 8, 9, 11, 27, 28, 29, 33, 34] (fun K hK => ?_)
      simp [okFn_low, -Int.natCast_add]
      refine drive_ext hs256 hm8 ?_
      simp [okFn_low, -Int.natCast_add]
      refine behind_g hm8 (by omega) hs2 (by omega) (hE5.row hr3) (fun H6 hE6 => ?_)
      generalize gW m (l'.length - popc s - 1) s j = x at *
      generalize sW (gW m (l'.length - popc s - 1) s) j = y at *
      have hadd : ((a + y : Nat) : Int) + (x : Int) = ((a + (y + x) : Nat) : Int) := by omega
      simp [hadd, wrap_i64 (a := ((a + (y + x) : Nat) : Int)) (by omega), -Int.natCast_add]
      apply hK; clear hK K
      refine L_reg [0, 7, 8, 9, 11, 27, 28, 29, 33, 34] (fun K hK => ?_)
      simp [wrap_i64 (a := (j : Int) + 1) (by omega), -Int.natCast_add]
      apply hK; clear hK K
      exact ⟨w - (j + 1), [.int .i64 ((a + (y + x) : Nat) : Int), .int .i64 ((j : Int) + 1)], by omega, by simp [-Int.natCast_add], j + 1, rfl, by omega, by rw [hsw]; simp [-Int.natCast_add]; omega, hE5.trans hE6⟩
    · have hjw' : j = w := by omega
      subst hjw'
      generalize hy : sW (gW m (l'.length - popc s - 1) s) j = y at *
      refine L_reg [0, 7, 8, 9, 27, 28, 29] (fun K hK => ?_)
      simp [okFn_low, -Int.natCast_add]
      refine drive_ext hs256 hm8 ?_
      simp [okFn_low, -Int.natCast_add]
      refine leaves_g hm8 hs256 hbm (fun H6 hE6 => ?_)
      simp [-Int.natCast_add]
      apply hK; clear hK K
      refine L_reg [0, 7, 8, 9, 27, 28, 29] (fun K hK => ?_)
      simp [wrap_i64 (a := (i : Int) + 1) (by omega), -Int.natCast_add]
      apply hK; clear hK K
      exact ⟨l'.length - (i + 1), [.int .i64 ((a + y : Nat) : Int), .int .u64 (nextSet m s j : Nat), .int .i64 (i + 1 : Nat)], by omega, by simp [-Int.natCast_add]; omega, i + 1, nextSet m s j, a + y, rfl, by omega, hn2, hpc2, by omega, hns.2, by omega, rfl, hE5.trans hE6⟩
  · refine L_reg [4, 5] (fun K hK => ?_)
    simp
    apply hK; clear hK K
    rw [List.drop_eq_nil_of_le (by omega), numS] at hnum
    have : a = numS m 0 l' := by omega
    subst this
    exact L_ret ⟨.inr rfl, _, rfl, h _ (hE3.trans hE4)⟩
end Go.Proofs.Ytojblooaiojmcaa
