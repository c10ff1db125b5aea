/- Dock: the list of wishes with a number. -/
import Derived.Test.YtojblooaiojmcaaNumber
namespace Go.Proofs.Ytojblooaiojmcaa
open Go Go.Proofs.Ytojblooaiojmcaa.AX

theorem sW_mono {g : Nat → Nat} {a : Nat} : ∀ {b : Nat}, a ≤ b → sW g a ≤ sW g b
  | 0, h => by have : a = 0 := by omega
               subst this; exact Nat.le_refl _
  | b + 1, h => by
    rcases Nat.lt_or_ge a (b + 1) with h1 | h1
    · have := sW_mono (g := g) (show a ≤ b by omega)
      rw [sW]; omega
    · have : a = b + 1 := by omega
      subst this; exact Nat.le_refl _
def wOf (g : Nat → Nat) (num : Nat) : Nat → Nat
  | 0 => 0
  | n + 1 => if num < sW g n then wOf g num n else n
theorem wOf_eq {g : Nat → Nat} {num w : Nat} : ∀ {n : Nat}, w < n → sW g w ≤ num → num < sW g (w + 1) → wOf g num n = w
  | 0, h, _, _ => by omega
  | n + 1, h, h1, h2 => by
    rw [wOf]
    rcases Nat.lt_or_ge w n with h3 | h3
    · have := sW_mono (g := g) (show w + 1 ≤ n by omega)
      rw [if_pos (by omega)]
      exact wOf_eq h3 h1 h2
    · have : w = n := by omega
      subst this
      rw [if_neg (by omega)]
def atS (n : Nat) : Nat → Nat → Nat → List Nat
  | 0, _, _ => []
  | k + 1, s, num => wOf (gW n k s) num n :: atS n k (nextSet n s (wOf (gW n k s) num n)) (num - sW (gW n k s) (wOf (gW n k s) num n))

theorem pick_ac (r n m s num : Nat) (H : AH) (Q : AV → AH → Prop) (hn : n ≤ 8) (hm : m ≤ n) (hs : s < 2 ^ n) (hp : popc s < m) (hrow : H[r]? = some (.row (tailsV (tlS n m)) 0 0 false)) (hnum : num < sW (gW n (m - popc s - 1) s) n)
    (h : ∀ w H', Ext H H' → w < n → sW (gW n (m - popc s - 1) s) w ≤ num → num < sW (gW n (m - popc s - 1) s) (w + 1) → Q (.tuple [.int .i64 (w : Nat), .int .i64 (sW (gW n (m - popc s - 1) s) w : Nat)]) H') :
    AC Try.prog 73 [.ptr r 0 0, .int .i64 n, .int .u64 s, .int .i64 num] H Q := by
  have hs256 : s < 256 := Nat.lt_of_lt_of_le hs (pow_le256 hn)
  have hgb : ∀ j, j ≤ 8 → sW (gW n (m - popc s - 1) s) j ≤ 16777216 := by
    intro j hj
    have h1 := sW_le (gW_le hn (k := m - popc s - 1) (by omega) s) j
    have : j * 2097152 ≤ 8 * 2097152 := Nat.mul_le_mul hj (Nat.le_refl _)
    omega
  have hnb := hgb n hn
  refine L_body 33 Try.func73 rfl rfl ?_
  refine L_reg [0, 1, 2, 3, 8, 9] (fun K hK => ?_)
  simp
  apply hK; clear hK K
  refine L_reg [0, 1, 2, 3, 8, 9, 11, 12] (fun K hK => ?_)
  simp
  apply hK; clear hK K
  refine L_block (L_loopV [8, 9, 12] (fun k vs H' => ∃ (j : Nat) (x : Int), k = n - j ∧ j ≤ n ∧ sW (gW n (m - popc s - 1) s) j ≤ num ∧ vs = [.int .i64 x, .int .i64 (sW (gW n (m - popc s - 1) s) j : Nat), .int .i64 j] ∧ Ext H H') _ [.int .i64 (0 : Int), .int .i64 (0 : Nat), .int .i64 (0 : Nat)] rfl ⟨0, 0, rfl, by omega, by simp [sW], by simp [sW], .refl _⟩ ?_)
  rintro k _ H1 ⟨j, x, rfl, hj, hle, rfl, hE⟩
  refine L_reg [0, 1, 2, 3, 8, 9, 11, 12, 13] (fun K hK => ?_)
  simp
  apply hK; clear hK K
  by_cases hjn : j < n
  · refine L_true (by simp [hjn]) ?_
    have hb2 := hgb (j + 1) (by omega)
    have hsw : sW (gW n (m - popc s - 1) s) (j + 1) = sW (gW n (m - popc s - 1) s) j + gW n (m - popc s - 1) s j := rfl
    rw [hsw] at hb2
    have h' := h j
    rw [hsw] at h'
    refine L_block ?_
    refine L_reg [0, 1, 2, 3, 8, 9, 11, 12] (fun K hK => ?_)
    simp
    apply hK; clear hK K
    refine L_reg [0, 1, 2, 3, 8, 9, 10, 11, 12] (fun K hK => ?_)
    simp [okFn_low]
    refine drive_ext hs256 hn ?_
    simp [okFn_low]
    refine behind_g hn (by omega) hs hp (hE.row hrow) (fun H2 hE2 => ?_)
    generalize gW n (m - popc s - 1) s j = y at *
    generalize sW (gW n (m - popc s - 1) s) j = z at *
    simp
    apply hK; clear hK K
    refine L_reg [0, 1, 2, 3, 8, 9, 10, 11, 12, 26] (fun K hK => ?_)
    simp [wrap_i64 (a := (z : Int) + (y : Int)) (by omega)]
    apply hK; clear hK K
    by_cases hlt : num < z + y
    · refine L_true (by simp; omega) (L_exit ?_)
      refine L_reg [8, 9] (fun K hK => ?_)
      simp
      apply hK; clear hK K
      exact L_ret ⟨.inr rfl, _, rfl, h' _ (hE.trans hE2) hjn hle hlt⟩
    · refine L_false (by simp; omega) ?_
      refine L_reg [0, 1, 2, 3, 8, 9, 11, 12] (fun K hK => ?_)
      simp [wrap_i64 (a := (z : Int) + (y : Int)) (by omega)]
      apply hK; clear hK K
      refine L_reg [0, 1, 2, 3, 8, 9, 11, 12] (fun K hK => ?_)
      simp [wrap_i64 (a := (j : Int) + 1) (by omega)]
      apply hK; clear hK K
      exact ⟨n - (j + 1), [.int .i64 (j : Int), .int .i64 ((z + y : Nat) : Int), .int .i64 (j + 1 : Nat)], by omega, by simp, j + 1, j, rfl, by omega, by rw [hsw]; omega, by rw [hsw], hE.trans hE2⟩
  · have : j = n := by omega
    subst this
    omega

def atE (n m num : Int) : Int := if cartsE n m ≠ 0 then cartsE n m else if num < 0 ∨ (tlF n.toNat m.toNat 0 : Int) ≤ num then 1 else 0
def atL (n m num : Int) : List Nat := if atE n m num ≠ 0 then [] else atS n.toNat m.toNat 0 num.toNat
theorem atS_len (n : Nat) : ∀ k s num, (atS n k s num).length = k
  | 0, _, _ => rfl
  | k + 1, s, num => by rw [atS, List.length_cons, atS_len n k]

set_option maxRecDepth 100000 in
theorem At_ac (n m num : Int) (H : AH) (Q : AV → AH → Prop) (h : ∀ v' H', Ls H' v' ((atL n m num).map Int.ofNat) → Ext H H' → Q (.tuple [v', .int .i64 (atE n m num)]) H') : AC Try.prog 35 [.int .i64 n, .int .i64 m, .int .i64 num] H Q := by
  refine L_body 61 Try.func35 rfl rfl ?_
  refine L_reg [0, 1, 2] (fun K hK => ?_)
  simp
  apply hK; clear hK K
  refine L_reg [0, 1, 2, 8] (fun K hK => ?_)
  simp [okFn_low]
  refine checkCarts_ac _ _ _ _ ?_
  simp
  apply hK; clear hK K
  refine L_reg [0, 1, 2, 8, 19] (fun K hK => ?_)
  simp
  apply hK; clear hK K
  by_cases h0 : cartsE n m = 0
  case neg =>
    have hE : atE n m num = cartsE n m := by rw [atE, if_pos h0]
    rw [atL, hE, if_pos h0] at h
    refine L_true (by simp [h0]) ?_
    refine L_reg [6, 7] (fun K hK => ?_)
    simp
    apply hK; clear hK K
    exact L_ret ⟨.inr rfl, _, rfl, h _ _ (.nil _) (.refl _)⟩
  refine L_false (by simp [h0]) ?_
  obtain ⟨a, b, rfl, rfl, ha1, ha8, hba⟩ := cartsE_ok h0
  have hE : atE a b num = if num < 0 ∨ (tlF a b 0 : Int) ≤ num then 1 else 0 := by rw [atE, if_neg (by omega)]; rfl
  refine L_reg [0, 1, 2, 9] (fun K hK => ?_)
  simp [okFn_low]
  refine countTails_ac a b _ _ ha8 hba (fun H2 hE2 => ?_)
  have hz := alloc_z (P := Try.prog) (H := H2) z78
  simp [hz]
  have hrow : (H2 ++ [AObj.row (tailsV fun _ => 0) 0 0 false])[H2.length]? = some (.row (tailsV fun _ => 0) 0 0 false) := by simp
  have hst := store78 (g := tlS a b) hrow
  rw [hst]
  simp
  apply hK; clear hK K
  have hr3 : (H2 ++ [AObj.row (tailsV (tlS a b)) 0 0 false])[H2.length]? = some (.row (tailsV (tlS a b)) 0 0 false) := by simp
  have hE3 : Ext H (H2 ++ [AObj.row (tailsV (tlS a b)) 0 0 false]) := hE2.trans (.push _ _)
  generalize H2 ++ [AObj.row (tailsV (tlS a b)) 0 0 false] = H3 at *
  generalize H2.length = q at *
  clear hst hrow hz
  have hld0 : ld H3 q 0 0 = some (.int .i64 (tlF a b 0 : Nat)) := by rw [ld_row hr3, tailsV_get _ (by decide), tlS_zero]; rfl
  by_cases hneg : num < 0
  case pos =>
    rw [if_pos (.inl hneg)] at hE
    rw [atL, hE, if_pos (by decide)] at h
    refine L_reg [0, 1, 2, 9, 31] (fun K hK => ?_)
    simp [hneg, pickV]
    apply hK; clear hK K
    refine L_true (by simp) ?_
    refine L_reg [6, 7] (fun K hK => ?_)
    simp
    apply hK; clear hK K
    exact L_ret ⟨.inr rfl, _, rfl, h _ _ (.nil _) hE3⟩
  refine L_reg [0, 1, 2, 9, 31] (fun K hK => ?_)
  simp [hneg, hld0, pickV]
  apply hK; clear hK K
  by_cases hbig : (tlF a b 0 : Int) ≤ num
  case pos =>
    rw [if_pos (.inr hbig)] at hE
    rw [atL, hE, if_pos (by decide)] at h
    refine L_true (by simp [hbig]) ?_
    refine L_reg [6, 7] (fun K hK => ?_)
    simp
    apply hK; clear hK K
    exact L_ret ⟨.inr rfl, _, rfl, h _ _ (.nil _) hE3⟩
  refine L_false (by simp [hbig]) ?_
  rw [if_neg (by omega)] at hE
  rw [atL, hE, if_neg (by decide)] at h
  obtain ⟨nu, rfl⟩ := Int.eq_ofNat_of_zero_le (show 0 ≤ num by omega)
  simp only [Int.toNat_natCast] at h
  have hnu : nu < tlF a b 0 := by omega
  have hnb : tlF a b 0 ≤ 16777216 := Nat.le_trans (tlF_le ha8 b 0) (pow8 (show b ≤ 8 by omega))
  refine L_reg [0, 2, 9, 10] (fun K hK => ?_)
  simp [make_z elz22 (show b ≤ 16777216 by omega)]
  apply hK; clear hK K
  have hr4 : (H3 ++ [AObj.row (List.replicate b (.int .i64 0)) 0 0 false])[H3.length]? = some (.row (List.replicate b (.int .i64 0)) 0 0 false) := by simp
  have hE4 : Ext H3 (H3 ++ [AObj.row (List.replicate b (AV.int .i64 0)) 0 0 false]) := .push _ _
  generalize H3 ++ [AObj.row (List.replicate b (AV.int .i64 0)) 0 0 false] = H4 at *
  have hq3 : q < H3.length := (List.getElem?_eq_some_iff.1 hr3).1
  refine L_reg [0, 2, 9, 10, 11] (fun K hK => ?_)
  simp
  apply hK; clear hK K
  refine L_reg [0, 2, 9, 10, 11, 35, 36] (fun K hK => ?_)
  simp
  apply hK; clear hK K
  refine L_block (L_loopV [2, 11, 36] (fun k vs H' => ∃ (i s x : Nat) (done : List Nat), k = b - i ∧ i ≤ b ∧ s < 2 ^ a ∧ popc s = i ∧ x < tlF a (b - i) s ∧ x ≤ nu ∧ done.length = i ∧ done ++ atS a (b - i) s x = atS a b 0 nu ∧ vs = [.int .i64 x, .int .u64 s, .int .i64 i] ∧
    Ext H3 H' ∧ H'[H3.length]? = some (.row ((done.map Int.ofNat ++ List.replicate (b - i) 0).map (.int .i64)) 0 0 false)) _ [.int .i64 (nu : Nat), .int .u64 (0 : Nat), .int .i64 (0 : Nat)] rfl
    ⟨0, 0, nu, [], rfl, by omega, Nat.two_pow_pos a, popc_zero, hnu, Nat.le_refl _, rfl, rfl, rfl, hE4, by simpa using hr4⟩ ?_)
  rintro k _ H5 ⟨i, s, x, done, rfl, hi, hs, hpc, hx, hxn, hd, hat, rfl, hE5, hr5⟩
  have hs256 : s < 256 := Nat.lt_of_lt_of_le hs (pow_le256 ha8)
  refine L_reg [0, 2, 9, 10, 11, 35, 36, 37] (fun K hK => ?_)
  simp
  apply hK; clear hK K
  refine L_dec (i < b) (by simp) (fun hlt => ?_) (fun hge => L_exit ?_)
  · obtain ⟨k, hk⟩ : ∃ k, b - i = k + 1 := ⟨b - i - 1, by omega⟩
    have hk2 : b - popc s - 1 = k := by omega
    rw [hk, tlF] at hx
    rw [hk, atS] at hat
    refine L_block ?_
    refine L_reg [0, 2, 9, 10, 11, 12, 35, 36] (fun K hK => ?_)
    simp
    apply hK; clear hK K
    refine L_reg [0, 2, 9, 10, 11, 12, 13, 14, 35, 36] (fun K hK => ?_)
    simp [okFn_low]
    refine pick_ac q a b s x _ _ ha8 hba hs (by omega) (hE5.row hr3) (by rw [hk2]; exact hx) (fun w H6 hE6 hwa hw1 hw2 => ?_)
    rw [hk2] at hw1 hw2 ⊢
    rw [wOf_eq hwa hw1 hw2] at hat
    have hg : gW a k s w = if ff s (a - w) w < a then tlF a k (s ||| 2 ^ ff s (a - w) w) else 0 := rfl
    obtain ⟨f1, f2, f3, f4⟩ := ff_spec s (a - w) w
    rw [show w + (a - w) = a by omega] at f2 f4
    rw [sW] at hw2
    have hbm : ff s (a - w) w < a := by
      rcases Nat.lt_or_ge (ff s (a - w) w) a with h5 | h5
      · exact h5
      · rw [hg, if_neg (by omega)] at hw2; omega
    rw [if_pos hbm] at hg
    have hnext : nextSet a s w = s ||| 2 ^ ff s (a - w) w := by rw [nextSet, if_pos hbm]
    have hn2 : nextSet a s w < 2 ^ a := by rw [hnext]; exact Nat.or_lt_two_pow hs (Nat.pow_lt_pow_right (by decide) hbm)
    have hpc2 : popc (nextSet a s w) = i + 1 := by rw [hnext, popc_or (by omega) (f4 hbm), hpc]
    rw [hg, ← hnext] at hw2
    generalize sW (gW a k s) w = z at *
    simp
    apply hK; clear hK K
    have hr6 := hE6.row hr5
    have hst := store_row (P := Try.prog) (u := 3) (p := i) sc3 (x := .int .i64 (w : Nat)) (y := .int .i64 0) rfl hr6 (by
      rw [List.getElem?_map, List.getElem?_append_right (by simp [hd]), List.length_map, hd]; simp [show 0 < b - i by omega])
    have hset : ((done.map Int.ofNat ++ List.replicate (b - i) (0 : Int)).map (AV.int .i64)).set i (.int .i64 (w : Nat)) = (((done ++ [w]).map Int.ofNat) ++ List.replicate (b - (i + 1)) 0).map (.int .i64) := by
      rw [show b - i = (b - (i + 1)) + 1 by omega, List.replicate_succ, ← hd]
      simp
    rw [hset, Nat.zero_min] at hst
    have hr7 := get_set (o' := AObj.row ((((done ++ [w]).map Int.ofNat) ++ List.replicate (b - (i + 1)) 0).map (.int .i64)) 0 0 false) hr6
    have hE7 := (hE5.trans hE6).set (.row ((((done ++ [w]).map Int.ofNat) ++ List.replicate (b - (i + 1)) 0).map (.int .i64)) 0 0 false) (Nat.le_refl H3.length)
    generalize H6.set H3.length (.row ((((done ++ [w]).map Int.ofNat) ++ List.replicate (b - (i + 1)) 0).map (.int .i64)) 0 0 false) = H7 at *
    refine L_reg [0, 2, 9, 10, 11, 13, 14, 35, 36] (fun K hK => ?_)
    simp [hlt, hst]
    apply hK; clear hK K
    refine L_reg [0, 2, 9, 10, 11, 13, 35, 36] (fun K hK => ?_)
    simp [wrap_i64 (a := (x : Int) - (z : Int)) (by omega)]
    apply hK; clear hK K
    refine L_reg [0, 2, 9, 10, 11, 35, 36] (fun K hK => ?_)
    simp [okFn_low]
    refine drive_ext hs256 ha8 ?_
    simp [okFn_low]
    refine leaves_g ha8 hs256 hbm (fun H8 hE8 => ?_)
    simp
    apply hK; clear hK K
    refine L_reg [0, 2, 9, 10, 11, 35, 36] (fun K hK => ?_)
    simp [wrap_i64 (a := (i : Int) + 1) (by omega)]
    apply hK; clear hK K
    have hbk : b - (i + 1) = k := by omega
    have hsub : (x : Int) - (z : Int) = ((x - z : Nat) : Int) := by omega
    refine ⟨b - (i + 1), [.int .i64 ((x - z : Nat) : Int), .int .u64 (nextSet a s w : Nat), .int .i64 (i + 1 : Nat)], by omega, by simp [hsub], i + 1, nextSet a s w, x - z, done ++ [w], rfl, by omega, hn2, hpc2, by rw [hbk]; omega, by omega, by simp [hd], by rw [hbk]; simpa using hat, rfl, hE7.trans hE8, hE8.row hr7⟩
  · have : i = b := by omega
    subst this
    rw [Nat.sub_self, atS, List.append_nil] at hat
    subst hat
    refine L_reg [6, 7] (fun K hK => ?_)
    simp
    apply hK; clear hK K
    refine L_ret ⟨.inr rfl, _, rfl, ?_⟩
    refine h _ _ ?_ (hE3.trans hE5)
    have := Ls.row (l := (atS a i 0 nu).map Int.ofNat) (f := false) (by simpa using hr5)
    rw [List.length_map, atS_len] at this
    exact this
end Go.Proofs.Ytojblooaiojmcaa
