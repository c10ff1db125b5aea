/- Dock: Count, and eight carts. -/
import Derived.Test.YtojblooaiojmcaaCount
namespace Go.Proofs.Ytojblooaiojmcaa
open Go Go.Proofs.Ytojblooaiojmcaa.AX

def cartsE (n m : Int) : Int := if okBays n ≠ 0 then 1 else if m < 0 ∨ n < m then 1 else 0
def countS (n m : Int) : Int := if cartsE n m ≠ 0 then 0 else tlF n.toNat m.toNat 0
theorem popc_zero : popc 0 = 0 := by decide
theorem tlS_zero (n m : Nat) : tlS n m 0 = tlF n m 0 := by
  rw [tlS, if_pos ⟨Nat.two_pow_pos n, by rw [popc_zero]; omega⟩, popc_zero, Nat.sub_zero]

theorem checkCarts_ac (n m : Int) (H : AH) (Q : AV → AH → Prop) (h : Q (.int .i64 (cartsE n m)) H) : AC Try.prog 70 [.int .i64 n, .int .i64 m] H Q := by
  refine L_body 18 Try.func70 rfl rfl ?_
  refine L_reg [0, 1] (fun K hK => ?_)
  simp
  apply hK; clear hK K
  refine L_reg [0, 1, 5] (fun K hK => ?_)
  simp [okFn_low]
  refine checkBays_ac _ _ _ ?_
  simp
  apply hK; clear hK K
  refine L_reg [0, 1, 5, 9] (fun K hK => ?_)
  simp
  apply hK; clear hK K
  rcases okBays_cases n with ⟨h0, hn1, hn8⟩ | ⟨h0, hn⟩
  · refine L_false (by simp [h0]) ?_
    rw [cartsE, if_neg (by omega)] at h
    by_cases hm : m < 0
    · rw [if_pos (.inl hm)] at h
      refine L_reg [17] (fun K hK => ?_)
      simp [hm, pickV]
      apply hK; clear hK K
      refine L_true (by simp) ?_
      refine L_reg [4] (fun K hK => ?_)
      simp
      apply hK; clear hK K
      exact L_ret ⟨.inr rfl, _, rfl, h⟩
    · refine L_reg [17] (fun K hK => ?_)
      simp [hm, pickV]
      apply hK; clear hK K
      by_cases hm2 : n < m
      · rw [if_pos (.inr hm2)] at h
        refine L_true (by simp [hm2]) ?_
        refine L_reg [4] (fun K hK => ?_)
        simp
        apply hK; clear hK K
        exact L_ret ⟨.inr rfl, _, rfl, h⟩
      · rw [if_neg (by omega)] at h
        refine L_false (by simp [hm2]) ?_
        refine L_reg [4] (fun K hK => ?_)
        simp
        apply hK; clear hK K
        exact L_ret ⟨.inr rfl, _, rfl, h⟩
  · refine L_true (by simp [h0]) ?_
    rw [cartsE, if_pos (by omega)] at h
    refine L_reg [4] (fun K hK => ?_)
    simp
    apply hK; clear hK K
    rw [h0]
    exact L_ret ⟨.inr rfl, _, rfl, h⟩

theorem cartsE_ok {n m : Int} (h : cartsE n m = 0) : ∃ a b : Nat, n = a ∧ m = b ∧ 1 ≤ a ∧ a ≤ 8 ∧ b ≤ a := by
  unfold cartsE at h
  rcases okBays_cases n with ⟨h0, hn1, hn8⟩ | ⟨h0, hn⟩
  · rw [if_neg (by omega)] at h
    split at h
    · cases h
    · exact ⟨n.toNat, m.toNat, by omega, by omega, by omega, by omega, by omega⟩
  · rw [if_pos (by omega)] at h; cases h

set_option maxRecDepth 100000 in
theorem Count_ac (n m : Int) (H : AH) (Q : AV → AH → Prop) (h : ∀ H', Ext H H' → Q (.tuple [.int .i64 (countS n m), .int .i64 (cartsE n m)]) H') : AC Try.prog 33 [.int .i64 n, .int .i64 m] H Q := by
  refine L_body 19 Try.func33 rfl rfl ?_
  refine L_reg [0, 1] (fun K hK => ?_)
  simp
  apply hK; clear hK K
  refine L_reg [0, 1, 6] (fun K hK => ?_)
  simp [okFn_low]
  refine checkCarts_ac _ _ _ _ ?_
  simp
  apply hK; clear hK K
  refine L_reg [0, 1, 6, 12] (fun K hK => ?_)
  simp
  apply hK; clear hK K
  by_cases h0 : cartsE n m = 0
  · refine L_false (by simp [h0]) ?_
    obtain ⟨a, b, rfl, rfl, ha1, ha8, hb⟩ := cartsE_ok h0
    have hcs : countS a b = tlF a b 0 := by rw [countS, if_neg (by omega)]; rfl
    rw [hcs, h0] at h
    refine L_reg [7] (fun K hK => ?_)
    simp [okFn_low]
    refine countTails_ac a b _ _ ha8 hb (fun H1 hE => ?_)
    have hz := alloc_z (P := Try.prog) (H := H1) z78
    simp [hz]
    have hrow : (H1 ++ [AObj.row (tailsV fun _ => 0) 0 0 false])[H1.length]? = some (.row (tailsV fun _ => 0) 0 0 false) := by simp
    have hst := store78 (g := tlS a b) hrow
    rw [hst]
    simp
    apply hK; clear hK K
    have hld : ld (H1 ++ [AObj.row (tailsV (tlS a b)) 0 0 false]) H1.length 0 0 = some (.int .i64 (tlF a b 0 : Nat)) := by rw [ld_last, tailsV_get _ (by decide), tlS_zero]; rfl
    have hE2 := hE.trans (.push H1 [AObj.row (tailsV (tlS a b)) 0 0 false])
    refine L_reg [4, 5] (fun K hK => ?_)
    simp [hld]
    apply hK; clear hK K
    exact L_ret ⟨.inr rfl, _, rfl, h _ hE2⟩
  · refine L_true (by simp [h0]) ?_
    rw [countS, if_pos h0] at h
    refine L_reg [4, 5] (fun K hK => ?_)
    simp
    apply hK; clear hK K
    exact L_ret ⟨.inr rfl, _, rfl, h _ (.refl _)⟩

/-! ### A table of what is counted -/
def stepT (n : Nat) (T : List Nat) : List Nat := (List.range 256).map fun s => sW (fun w => if ff s (n - w) w < n then (T[s ||| 2 ^ ff s (n - w) w]?).getD 0 else 0) n
def tabs (n : Nat) : Nat → List Nat
  | 0 => List.replicate 256 1
  | k + 1 => stepT n (tabs n k)
theorem sW_congr {g h : Nat → Nat} : ∀ n, (∀ w, g w = h w) → sW g n = sW h n
  | 0, _ => rfl
  | n + 1, e => by rw [sW, sW, sW_congr n e, e n]
theorem tabs_eq {n : Nat} (hn : n ≤ 8) : ∀ k, tabs n k = (List.range 256).map (tlF n k)
  | 0 => by
    rw [tabs]
    apply List.ext_getElem (by rw [List.length_replicate, List.length_map, List.length_range])
    intro i h1 h2
    rw [List.getElem_replicate, List.getElem_map]; rfl
  | k + 1 => by
    rw [tabs, stepT, tabs_eq hn k]
    apply List.map_congr_left
    intro s hs
    have hs := List.mem_range.1 hs
    rw [tlF]
    apply sW_congr
    intro w
    by_cases hb : ff s (n - w) w < n
    · rw [if_pos hb, if_pos hb]
      have := lt256 hs (show ff s (n - w) w < 8 by omega)
      rw [List.getElem?_map, List.getElem?_range this]; rfl
    · rw [if_neg hb, if_neg hb]
theorem tlF_tabs {n : Nat} (hn : n ≤ 8) (k : Nat) : tlF n k 0 = ((tabs n k)[0]?).getD 0 := by rw [tabs_eq hn, List.getElem?_map, List.getElem?_range (by decide)]; rfl
theorem tlF88 : tlF 8 8 0 = 4782969 := by
  rw [tlF_tabs (by decide)]
  kernel_rfl
end Go.Proofs.Ytojblooaiojmcaa
