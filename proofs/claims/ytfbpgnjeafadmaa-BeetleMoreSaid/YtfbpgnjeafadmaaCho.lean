/- The first choice of so many bales that fits. -/
import Derived.Test.YtfbpgnjeafadmaaFlo7
namespace Go.Proofs.Ytfbpgnjeafadmaa.Fl
open Go Go.Proofs.Ytfbpgnjeafadmaa Go.Proofs.Ytfbpgnjeafadmaa.AX
set_option maxRecDepth 100000

def chL (F : Nat → Bool) (rec : Nat → (Nat → Bool) → (Nat → Bool) × Bool) (C : Nat → Bool) : List Nat → (Nat → Bool) × Bool
  | [] => (none', false)
  | b :: l => if F b = true then (if (rec (b + 1) (upd C b true)).2 = true then ((rec (b + 1) (upd C b true)).1, true) else chL F rec C l) else chL F rec C l
def chP (fits : (Nat → Bool) → Bool) (F : Nat → Bool) : Nat → Nat → (Nat → Bool) → (Nat → Bool) × Bool
  | 0, _, C => (C, fits C)
  | m + 1, i, C => chL F (chP fits F m) C (List.range' i (25 - i))
theorem op_tmp (P : Program) (ρ : Operand → AV) (t : Tmp) (xs : Array Operand) (ts : Array TypeId) : opCall P ρ (.call ⟨.value (.tmp t), xs, ts⟩) = (match ρ (.tmp t) with | .func (.func f) first cap => if okFn P f then some (f, first ++ xs.toList.map ρ ++ cap) else none | _ => none) := rfl
theorem belB_mb (N : Nat) (S : Nat → Bool) (e : Bool) : belB N 4 (.tuple [.agg (bA S), .bool e]) = true := by
  simp only [belB, List.all_cons, List.all_nil, Bool.and_true, List.all_eq_true]
  intro v hv
  obtain ⟨y, -, rfl⟩ := List.mem_map.1 hv
  exact belB_bool _ _ _
theorem choose_q (f : FuncId) (caps : List AV) (fits : (Nat → Bool) → Bool) (F : Nat → Bool) (hfo : okFn Try.prog f = true) : ∀ (m i : Nat) (C : Nat → Bool) (H : AH) (Q : AV → AH → Prop), i ≤ 25 → m ≤ 100 → (∀ b, C b = true → F b = true) →
    (∀ H', Ext H H' → ∀ T, (∀ b, T b = true → F b = true) → ∀ Q : AV → AH → Prop, Q (.bool (fits T)) H' → AC Try.prog f (.agg (bA T) :: caps) H' Q) →
    Q (.tuple [.agg (bA (chP fits F m i C).1), .bool (chP fits F m i C).2]) H → AC Try.prog 76 [.agg (bA F), .agg (bA C), .int .i64 i, .int .i64 m, .func (.func f) [] caps] H Q := by
  intro m
  induction m with
  | zero =>
    intro i C H Q hi hm hC hf h
    refine AC.quiet (belB_mb _ _ _) (fun Q h => ?_) Q h
    refine L_body 48 Try.func76 rfl rfl ?_
    obtain ⟨I, hI, hz⟩ := zeroT_some zt79'
    refine L_reg [2, 3, 4, 5, 6, 10] (fun K hK => ?_)
    simp [AV.isU, acells, hI, hz]
    apply hK; clear hK K
    have h6 : (H ++ [AObj.row (bA F) 0 0 false, AObj.row (bA C) 0 0 false, AObj.row (bA none') 0 0 false])[H.length + 1]? = some (.row (bA C) 0 0 false) := by simp
    have h10 : (H ++ [AObj.row (bA F) 0 0 false, AObj.row (bA C) 0 0 false, AObj.row (bA none') 0 0 false])[H.length + 2]? = some (.row (bA none') 0 0 false) := by simp
    have hE : Ext H (H ++ [AObj.row (bA F) 0 0 false, AObj.row (bA C) 0 0 false, AObj.row (bA none') 0 0 false]) := .push _ _
    generalize H ++ [AObj.row (bA F) 0 0 false, AObj.row (bA C) 0 0 false, AObj.row (bA none') 0 0 false] = H1 at h6 h10 hE ⊢
    refine L_reg [2, 3, 4, 5, 6, 10, 17] (fun K hK => ?_)
    simp
    apply hK; clear hK K
    refine L_true (by simp) ?_
    have a6 := ldn_b h6
    have hst := st_m (T := C) h10
    refine L_regZ mixed [H.length + 2] [1, 0, 0, 0] [] [10, 11] (by kernel_rfl) (fun K hK => ?_)
    simp [hfo, a6, op_tmp]
    refine exX_mk (fun Q hQ => hf H1 hE C hC Q hQ) (.refl _) ?_
    simp [hst]
    apply hK; clear hK K
    refine L_ret ⟨.inr rfl, _, res_cell_tmp rfl ?_ rfl, h _ (hE.set _ (by omega))⟩
    simp [ldn_b (get_set h10)]
    rfl
  | succ m ih =>
    intro i0 C H Q hi0 hm hC hf h
    refine AC.quiet (belB_mb _ _ _) (fun Q h => ?_) Q h
    refine L_body 48 Try.func76 rfl rfl ?_
    obtain ⟨I, hI, hz⟩ := zeroT_some zt79'
    refine L_reg [2, 3, 4, 5, 6, 10] (fun K hK => ?_)
    simp [AV.isU, acells, hI, hz]
    apply hK; clear hK K
    have h5 : (H ++ [AObj.row (bA F) 0 0 false, AObj.row (bA C) 0 0 false, AObj.row (bA none') 0 0 false])[H.length]? = some (.row (bA F) 0 0 false) := by simp
    have h6 : (H ++ [AObj.row (bA F) 0 0 false, AObj.row (bA C) 0 0 false, AObj.row (bA none') 0 0 false])[H.length + 1]? = some (.row (bA C) 0 0 false) := by simp
    have h10 : (H ++ [AObj.row (bA F) 0 0 false, AObj.row (bA C) 0 0 false, AObj.row (bA none') 0 0 false])[H.length + 2]? = some (.row (bA none') 0 0 false) := by simp
    have hE : Ext H (H ++ [AObj.row (bA F) 0 0 false, AObj.row (bA C) 0 0 false, AObj.row (bA none') 0 0 false]) := .push _ _
    generalize H ++ [AObj.row (bA F) 0 0 false, AObj.row (bA C) 0 0 false, AObj.row (bA none') 0 0 false] = H1 at h5 h6 h10 hE ⊢
    refine L_reg [2, 3, 4, 5, 6, 10, 17] (fun K hK => ?_)
    simp
    apply hK; clear hK K
    refine L_false (by simp; omega) ?_
    refine L_reg [3, 4, 5, 6, 10, 12] (fun K hK => ?_)
    simp
    apply hK; clear hK K
    refine L_block (L_loopV [12] (fun q vs H' => ∃ i : Nat, q = 25 - i ∧ i ≤ 25 ∧ vs = [.int .i64 i] ∧ Ext H H' ∧ H'[H.length]? = some (.row (bA F) 0 0 false) ∧ H'[H.length + 1]? = some (.row (bA C) 0 0 false) ∧ H'[H.length + 2]? = some (.row (bA none') 0 0 false) ∧ chL F (chP fits F m) C (List.range' i (25 - i)) = chP fits F (m + 1) i0 C) _ [.int .i64 (i0 : Nat)] rfl ⟨i0, rfl, hi0, rfl, hE, h5, h6, h10, rfl⟩ ?_)
    clear h5 h6 h10 hE H1
    rintro q _ H1 ⟨i, rfl, hi, rfl, hE, h5, h6, h10, hc⟩
    refine L_reg [3, 4, 5, 6, 10, 12, 24] (fun K hK => ?_)
    simp
    apply hK; clear hK K
    refine L_dec (i < 25) (by simp; omega) (fun hlt => ?_) (fun hge => L_exit ?_)
    · have hrg : List.range' i (25 - i) = i :: List.range' (i + 1) (25 - (i + 1)) := by
        rw [show 25 - i = (25 - (i + 1)) + 1 by omega, List.range'_succ]
      rw [hrg] at hc
      simp only [chL] at hc
      have hii : (i : Int) < 25 := by omega
      have a5 := ld_b h5 hlt
      refine L_block ?_
      refine L_reg [3, 4, 5, 6, 10, 12, 30] (fun K hK => ?_)
      simp [hii, a5]
      apply hK; clear hK K
      cases hFi : F i with
      | false =>
        rw [if_neg (by simp [hFi])] at hc
        refine L_true (by simp) ?_
        refine L_exit ?_
        refine L_reg [3, 4, 5, 6, 10, 12] (fun K hK => ?_)
        simp [wrap_i64 (a := (i : Int) + 1) (by omega)]
        apply hK; clear hK K
        exact ⟨25 - (i + 1), [.int .i64 (i + 1 : Nat)], by omega, by simp, i + 1, rfl, by omega, rfl, hE, h5, h6, h10, hc⟩
      | true =>
        rw [if_pos hFi] at hc
        refine L_false (by simp) ?_
        have a6 := ldn_b h6
        have hst1 : storeV Try.prog 79 (H1 ++ [AObj.row (bA none') 0 0 false]) (.ptr H1.length 0 0) (.agg (bA C)) = some (none, H1 ++ [AObj.row (bA C) 0 0 false]) := by
          rw [st_m (S := none') (s := 0) (by simp)]
          simp
        refine L_reg [3, 4, 5, 6, 10, 12, 13] (fun K hK => ?_)
        simp [a6, hI, hz, hst1]
        apply hK; clear hK K
        have h13 : (H1 ++ [AObj.row (bA C) 0 0 false])[H1.length]? = some (.row (bA C) 0 0 false) := by simp
        have hE2 : Ext H1 (H1 ++ [AObj.row (bA C) 0 0 false]) := .push _ _
        have hl3 : H.length + 3 ≤ H1.length := by
          have := (List.getElem?_eq_some_iff.1 h10).1
          omega
        replace h5 := hE2.row h5
        replace h6 := hE2.row h6
        replace h10 := hE2.row h10
        replace hE := hE.trans hE2
        obtain ⟨w, hw⟩ : ∃ w, H1.length = w := ⟨_, rfl⟩
        rw [hw] at h13 hl3 ⊢
        clear a5 a6 hst1 hE2
        generalize H1 ++ [AObj.row (bA C) 0 0 false] = H2 at h5 h6 h10 h13 hE ⊢
        have hst := st_b (v := true) h13 hlt
        refine L_reg [3, 4, 5, 6, 10, 12, 13] (fun K hK => ?_)
        simp [hii, hst]
        apply hK; clear hK K
        have g5 : (H2.set w (.row (bA (upd C i true)) 0 (min 0 i) false))[H.length]? = some (.row (bA F) 0 0 false) := by rw [List.getElem?_set_ne (by omega)]; exact h5
        have g6 : (H2.set w (.row (bA (upd C i true)) 0 (min 0 i) false))[H.length + 1]? = some (.row (bA C) 0 0 false) := by rw [List.getElem?_set_ne (by omega)]; exact h6
        have g10 : (H2.set w (.row (bA (upd C i true)) 0 (min 0 i) false))[H.length + 2]? = some (.row (bA none') 0 0 false) := by rw [List.getElem?_set_ne (by omega)]; exact h10
        have g13 := get_set (o' := .row (bA (upd C i true)) 0 (min 0 i) false) h13
        have gE : Ext H (H2.set w (.row (bA (upd C i true)) 0 (min 0 i) false)) := hE.set _ (by omega)
        rw [Nat.zero_min] at g5 g6 g10 g13 gE
        clear h5 h6 h10 h13 hE hst
        generalize H2.set w (.row (bA (upd C i true)) 0 0 false) = H3 at g5 g6 g10 g13 gE ⊢
        have a5 := ldn_b g5
        have a13 := ldn_b g13
        have hC2 : ∀ b, upd C i true b = true → F b = true := by
          intro b hb
          unfold upd at hb
          split at hb
          · rename_i e; subst e; exact hFi
          · exact hC b hb
        obtain ⟨A, hA⟩ : ∃ A, chP fits F m (i + 1) (upd C i true) = A := ⟨_, rfl⟩
        rw [hA] at hc
        have hst1 : storeV Try.prog 79 (H3 ++ [AObj.row (bA none') 0 0 false]) (.ptr H3.length 0 0) (.agg (bA A.1)) = some (none, H3 ++ [AObj.row (bA A.1) 0 0 false]) := by
          rw [st_m (S := none') (s := 0) (by simp)]
          simp
        have wi : IntKind.i64.wrap ((i : Int) + 1) = ((i + 1 : Nat) : Int) := by rw [wrap_i64 (by omega)]; omega
        have wm : IntKind.i64.wrap (m : Int) = m := wrap_i64 (by omega)
        refine L_reg [3, 4, 5, 6, 10, 12, 14, 15] (fun K hK => ?_)
        simp [okFn_low, a5, a13, wi, wm, -Int.natCast_add]
        refine ih (i + 1) (upd C i true) H3 _ (by omega) (by omega) hC2 (fun H' hE' => hf H' (gE.trans hE')) ?_
        simp [hA, hI, hz, hst1]
        apply hK; clear hK K
        have hE2 : Ext H3 (H3 ++ [AObj.row (bA A.1) 0 0 false]) := .push _ _
        have h14 : (H3 ++ [AObj.row (bA A.1) 0 0 false])[H3.length]? = some (.row (bA A.1) 0 0 false) := by simp
        replace g5 := hE2.row g5
        replace g6 := hE2.row g6
        replace g10 := hE2.row g10
        replace gE := gE.trans hE2
        have a14 := ldn_b h14
        have hst := st_m (T := A.1) g10
        refine L_reg [3, 4, 5, 6, 10, 12, 14, 45] (fun K hK => ?_)
        simp
        apply hK; clear hK K
        cases hA2 : A.2 with
        | true =>
          rw [if_pos hA2] at hc
          refine L_true (by simp) ?_
          refine L_reg [10, 11] (fun K hK => ?_)
          simp [a14, hst]
          apply hK; clear hK K
          rw [← hc] at h
          refine L_ret ⟨.inr rfl, _, res_cell_tmp rfl ?_ rfl, h _ (gE.set _ (by omega))⟩
          simp [ldn_b (get_set g10)]
        | false =>
          rw [if_neg (by simp [hA2])] at hc
          refine L_false (by simp) ?_
          refine L_reg [3, 4, 5, 6, 10, 12] (fun K hK => ?_)
          simp [wi]
          apply hK; clear hK K
          exact ⟨25 - (i + 1), [.int .i64 (i + 1 : Nat)], by omega, by simp, i + 1, rfl, by omega, rfl, gE, g5, g6, g10, hc⟩
    · have e : i = 25 := by omega
      subst e
      have hst := st_m (T := none') h10
      have hc2 : chP fits F (m + 1) i0 C = (none', false) := by rw [← hc]; rfl
      rw [hc2] at h
      refine L_reg [10, 11] (fun K hK => ?_)
      simp [bd79, hst]
      apply hK; clear hK K
      refine L_ret ⟨.inr rfl, _, res_cell_tmp rfl ?_ rfl, h _ (hE.set _ (by omega))⟩
      simp [ldn_b (get_set h10)]
end Go.Proofs.Ytfbpgnjeafadmaa.Fl
