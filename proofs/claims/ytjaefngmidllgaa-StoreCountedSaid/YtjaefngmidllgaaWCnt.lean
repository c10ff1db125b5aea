/- Divisions counted and numbered: the walk. -/
import Derived.Test.YtjaefngmidllgaaVisC
import Derived.Test.YtjaefngmidllgaaWorks
namespace Go.Proofs.Ytjaefngmidllgaa.St
open Go Go.Proofs.Ytjaefngmidllgaa Go.Proofs.Ytjaefngmidllgaa.AX
set_option maxRecDepth 100000
set_option linter.unusedVariables false
theorem remN' (a b : Nat) : ((a : Int)).tmod (b : Int) = ((a % b : Nat) : Int) := by
  rw [Int.tmod_eq_emod_of_nonneg (Int.natCast_nonneg _)]; simp
def endC (n : Nat) : Int × Bool × List Int := ((ways n 0 : Int), true, (List.range 8).map fun k => (sti n k : Int))
theorem fold_C : ∀ n, n < 7 → (enA (n + 1)).foldl (visC (n + 1)) (0, true, List.replicate 8 0) = endC (n + 1) := by decide +kernel
set_option maxHeartbeats 4000000 in
theorem counted_ac (x : Nat) (hx : x < 256) (H : AH) : AC Try.prog 9 [.int .u8 x] H fun v _ => v = .bool true := by
  refine L_body 93 Try.func9 rfl rfl ?_
  have q1 : (x : Int).tmod 7 = ((x % 7 : Nat) : Int) := remN' x 7
  have lx := Nat.mod_lt x (show 0 < 7 by decide)
  obtain ⟨z, hz⟩ : ∃ z, x % 7 = z := ⟨_, rfl⟩
  rw [hz] at q1 lx
  obtain ⟨n, hn⟩ : ∃ n, z + 1 = n := ⟨_, rfl⟩
  have wn : IntKind.i64.wrap (1 + (z : Int)) = (n : Int) := by rw [wrap_i64 (by omega)]; omega
  obtain ⟨I3, hI3, hz3⟩ := zeroT_some zt3
  obtain ⟨I4, hI4, hz4⟩ := zeroT_some zt4
  obtain ⟨I57, hI57, hz57⟩ := zeroT_some zt57
  have s3 : ∀ (G : AH) (y : Int), storeV Try.prog 3 (G ++ [AObj.row [.int .i64 0] 0 0 false]) (.ptr G.length 0 0) (.int .i64 y) = some (none, G ++ [AObj.row [.int .i64 y] 0 0 false]) := fun G y => by
    rw [store_row (c := [.int .i64 0]) (y := .int .i64 0) (s := 0) sc3 rfl (by simp) rfl]; simp
  have s4 : ∀ (G : AH) (y : Bool), storeV Try.prog 4 (G ++ [AObj.row [.bool false] 0 0 false]) (.ptr G.length 0 0) (.bool y) = some (none, G ++ [AObj.row [.bool y] 0 0 false]) := fun G y => by
    rw [store_row (c := [.bool false]) (y := .bool false) (s := 0) sc4 rfl (by simp) rfl]; simp
  refine L_reg [0] (fun K hK => ?_)
  simp
  apply hK; clear hK K
  refine L_reg [3] (fun K hK => ?_)
  simp [wrap_i64 (a := (x : Int)) (by omega), q1, wn, hI3, hz3, s3]
  apply hK; clear hK K
  obtain ⟨pn, hpn⟩ : ∃ pn, H.length = pn := ⟨_, rfl⟩
  have e1 : Ext H (H ++ [AObj.row [.int .i64 (n : Int)] 0 0 false]) := .push _ _
  have rn : (H ++ [AObj.row [.int .i64 (n : Int)] 0 0 false])[pn]? = some (.row [.int .i64 (n : Int)] 0 0 false) := by rw [← hpn]; simp
  have l1 : (H ++ [AObj.row [.int .i64 (n : Int)] 0 0 false]).length = pn + 1 := by simp [hpn]
  rw [hpn]
  generalize H ++ [AObj.row [.int .i64 (n : Int)] 0 0 false] = H1 at e1 rn l1 ⊢
  refine L_reg [3, 4] (fun K hK => ?_)
  simp [hI3, hz3, s3]
  apply hK; clear hK K
  have e2 : Ext H1 (H1 ++ [AObj.row [.int .i64 0] 0 0 false]) := .push _ _
  have rc : (H1 ++ [AObj.row [AV.int .i64 0] 0 0 false])[pn + 1]? = some (.row [.int .i64 0] 0 0 false) := by rw [← l1]; simp
  have rn := e2.row rn
  have l2 : (H1 ++ [AObj.row [AV.int .i64 0] 0 0 false]).length = pn + 2 := by simp [l1]
  rw [l1]
  generalize H1 ++ [AObj.row [AV.int .i64 0] 0 0 false] = H2 at e2 rc rn l2 ⊢
  refine L_reg [3, 4, 5] (fun K hK => ?_)
  simp [hI57, hz57]
  apply hK; clear hK K
  have e3 : Ext H2 (H2 ++ [AObj.row [.int .i64 0, .int .i64 0, .int .i64 0, .int .i64 0, .int .i64 0, .int .i64 0, .int .i64 0, .int .i64 0] 0 0 false]) := .push _ _
  have ri : (H2 ++ [AObj.row [AV.int .i64 0, .int .i64 0, .int .i64 0, .int .i64 0, .int .i64 0, .int .i64 0, .int .i64 0, .int .i64 0] 0 0 false])[pn + 2]? = some (.row ((List.replicate 8 (0 : Int)).map (.int .i64)) 0 0 false) := by rw [← l2]; simp
  have rn := e3.row rn
  have rc := e3.row rc
  have l3 : (H2 ++ [AObj.row [AV.int .i64 0, .int .i64 0, .int .i64 0, .int .i64 0, .int .i64 0, .int .i64 0, .int .i64 0, .int .i64 0] 0 0 false]).length = pn + 3 := by simp [l2]
  rw [l2]
  generalize H2 ++ [AObj.row [AV.int .i64 0, .int .i64 0, .int .i64 0, .int .i64 0, .int .i64 0, .int .i64 0, .int .i64 0, .int .i64 0] 0 0 false] = H3 at e3 rc rn ri l3 ⊢
  refine L_reg [3, 4, 5, 6] (fun K hK => ?_)
  simp [hI4, hz4, s4]
  apply hK; clear hK K
  have e4 : Ext H3 (H3 ++ [AObj.row [.bool true] 0 0 false]) := .push _ _
  have rg' : (H3 ++ [AObj.row [AV.bool true] 0 0 false])[pn + 3]? = some (.row [.bool true] 0 0 false) := by rw [← l3]; simp
  have rn := e4.row rn
  have rc := e4.row rc
  have ri := e4.row ri
  have l4 : (H3 ++ [AObj.row [AV.bool true] 0 0 false]).length = pn + 4 := by simp [l3]
  rw [l3]
  generalize H3 ++ [AObj.row [AV.bool true] 0 0 false] = H4 at e4 rc rn ri rg' l4 ⊢
  have hV := visC_ok (pn + 1) (pn + 3) pn (pn + 2) n (pn + 4) (by omega) (by omega) (by omega) (by omega) (by omega) (by omega) (by omega) (by omega) (by omega) (by omega) (by omega)
  have ln4 : ld H4 pn 0 0 = some (.int .i64 (n : Nat)) := by rw [ld_row rn]; rfl
  refine L_reg [3, 4, 5, 6] (fun K hK => ?_)
  simp [okFn_low, ln4]
  refine all_ac hV (by omega) (0, true, List.replicate 8 0) H4 _ (by omega) ⟨⟨0, rc⟩, ⟨0, rg'⟩, ⟨0, rn⟩, ⟨0, ri⟩, by simp⟩ fun H5 hS hK5 => ?_
  simp
  apply hK; clear hK K
  have hfo : (enA n).foldl (visC n) (0, true, List.replicate 8 0) = endC n := by rw [← hn]; exact fold_C z lx
  rw [hfo] at hS
  obtain ⟨⟨m1, rc5⟩, ⟨m2, rg5⟩, ⟨m3, rn5⟩, ⟨m4, ri5⟩, -⟩ := hS
  simp only [endC] at rc5 rg5 ri5
  have ln : ld H5 pn 0 0 = some (.int .i64 (n : Nat)) := by rw [ld_row rn5]; rfl
  have lc : ld H5 (pn + 1) 0 0 = some (.int .i64 (ways n 0 : Nat)) := by rw [ld_row rc5]; rfl
  have lg : ld H5 (pn + 3) 0 0 = some (.bool true) := by rw [ld_row rg5]; rfl
  refine L_reg [3, 4, 5, 6, 7] (fun K hK => ?_)
  simp
  apply hK; clear hK K
  refine L_block (L_loopV [7] (fun q vs H' => ∃ k : Nat, q = n - k ∧ k ≤ n ∧ vs = [.int .i64 ((k + 1 : Nat) : Int)] ∧ H5 = H') _ [.int .i64 (1 : Nat)] rfl ⟨0, rfl, by omega, by simp, rfl⟩ ?_)
  rintro q _ _ ⟨k, rfl, hk, rfl, rfl⟩
  refine L_reg [3, 4, 5, 6, 7, 27] (fun K hK => ?_)
  simp [ln]
  apply hK; clear hK K
  refine L_dec (k < n) (by simp; omega) (fun hlt => ?_) (fun hge => L_exit ?_)
  · refine L_block ?_
    have hb := bx_nat (m := n) (by omega) (by omega)
    have e : intE (n : Int) ((k + 1 : Nat) : Int) = 0 := by unfold intE; rw [if_pos ⟨hb, by omega, by omega⟩]
    have es : intS (n : Int) ((k + 1 : Nat) : Int) = (sti n (k + 1) : Nat) := by unfold intS; rw [e, if_pos rfl]; simp
    have hcall := fun Q h => Into_q 25 (.inl rfl) (n : Int) ((k + 1 : Nat) : Int) H5 Q h
    rw [e, es] at hcall
    have ei : ((k + 1 : Nat) : Int) = (k : Int) + 1 := by omega
    rw [ei] at hcall
    refine L_reg [3, 4, 5, 6, 7, 8, 9] (fun K hK => ?_)
    simp [okFn_low, ln]
    refine hcall _ ?_
    simp
    apply hK; clear hK K
    have li : ld H5 (pn + 2) (k + 1) 0 = some (.int .i64 (sti n (k + 1) : Nat)) := by
      rw [ld_row ri5]
      have h8 : k + 1 < 8 := by omega
      simp [h8, known]
    have li' : ld H5 (pn + 2) ((k : Int) + 1).toNat 0 = some (.int .i64 (sti n (k + 1) : Nat)) := by rw [show ((k : Int) + 1).toNat = k + 1 by omega]; exact li
    refine L_reg [3, 4, 5, 6, 7, 44] (fun K hK => ?_)
    simp [pickV, show (0 : Int) ≤ (k : Int) + 1 by omega, show (k : Int) + 1 < 8 by omega, li]
    apply hK; clear hK K
    refine L_false rfl ?_
    refine L_reg [3, 4, 5, 6, 7] (fun K hK => ?_)
    simp [wrap_i64 (a := (k : Int) + 1 + 1) (by omega)]
    apply hK; clear hK K
    exact ⟨n - (k + 1), [.int .i64 ((k + 1 + 1 : Nat) : Int)], by omega, by simp, k + 1, rfl, by omega, rfl, rfl⟩
  · have hb := bx_nat (m := n) (by omega) (by omega)
    have hcn : cntS (n : Int) = (ways n 0 : Nat) := by unfold cntS; rw [if_pos hb]; simp
    have c1 := fun Q h => Count_q 23 (.inl rfl) (n : Int) H5 Q h
    rw [hb, hcn] at c1
    have c2 := fun Q h => At_none 27 (.inl rfl) (n := n) (by omega) (by omega) ((ways n 0 : Nat) : Int) (by omega) H5 Q h
    have i1 : intE (n : Int) ((n : Int) + 1) = 1 := by unfold intE; rw [if_neg (by omega)]
    have i2 : intE (n : Int) 0 = 1 := by unfold intE; rw [if_neg (by omega)]
    have c3 := fun Q h => Into_q 25 (.inl rfl) (n : Int) ((n : Int) + 1) H5 Q h
    have c4 := fun Q h => Into_q 25 (.inl rfl) (n : Int) 0 H5 Q h
    have j1 : intS (n : Int) ((n : Int) + 1) = 0 := by unfold intS; rw [i1, if_neg (by decide)]
    have j2 : intS (n : Int) 0 = 0 := by unfold intS; rw [i2, if_neg (by decide)]
    rw [i1, j1] at c3
    rw [i2, j2] at c4
    refine L_reg [3, 4, 6, 10, 11] (fun K hK => ?_)
    simp [okFn_low, ln]
    refine c1 _ ?_
    simp
    apply hK; clear hK K
    refine L_reg [3, 4, 6, 10, 11, 13] (fun K hK => ?_)
    simp [okFn_low, ln, lc]
    refine c2 _ ?_
    simp [nilS]
    apply hK; clear hK K
    refine L_reg [3, 4, 6, 10, 11, 13, 15] (fun K hK => ?_)
    simp [okFn_low, ln, wrap_i64 (a := (n : Int) + 1) (by omega)]
    refine c3 _ ?_
    simp
    apply hK; clear hK K
    refine L_reg [4, 6, 10, 11, 13, 15, 17] (fun K hK => ?_)
    simp [okFn_low, ln]
    refine c4 _ ?_
    simp
    apply hK; clear hK K
    refine L_reg [2] (fun K hK => ?_)
    simp [okFn_low, pickV, lg, lc]
    refine works_ac _ _ ?_
    simp [pickV]
    apply hK; clear hK K
    exact L_ret ⟨.inr rfl, _, rfl, rfl⟩
end Go.Proofs.Ytjaefngmidllgaa.St
