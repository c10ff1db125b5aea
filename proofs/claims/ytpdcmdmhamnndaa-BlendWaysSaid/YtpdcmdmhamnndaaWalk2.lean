/- BlendWays, walked. -/
import Derived.Test.YtpdcmdmhamnndaaWays4
namespace Go.Proofs.Ytpdcmdmhamnndaa
open Go Go.Proofs.Ytpdcmdmhamnndaa.AX

theorem row37_2 (H : AH) {x y : AV} (hx : x.one = true) (hy : y.one = true) (hc : acells x = [x]) (hd : acells y = [y]) : rowV Try.prog 37 2 [(0, x), (1, y)] H = some (some (.slice (some H.length) 0 2 0 1 false), H ++ [.row [x, y] 0 2 false]) := by
  obtain ⟨e, I, h1, h2, h3, h4, hzz⟩ := elT_some el37
  have hu : x.isU = false := by cases x <;> simp_all [AV.one, AV.isU]
  have hw : y.isU = false := by cases y <;> simp_all [AV.one, AV.isU]
  simp [rowV, h1, h2, h3, aFill, hu, hw, hc, hd, hzz, List.range_succ]
/-- What is asked of lists. -/
theorem larges_ac (ls : List (List Int)) (v : AV) (H : AH) (Q : AV → AH → Prop) (hl : ls.length ≤ 1000000) (hv : Lss H v ls) (h : Q (.bool (ls.any fun l => decide (60 < l.length))) H) : AC Try.prog 14 [v] H Q := by
  obtain ⟨r, off, ver, sz, full, rfl, hld⟩ := hv
  refine L_body 16 Try.func14 rfl rfl ?_
  refine L_reg [0] (fun K hK => ?_)
  simp
  apply hK; clear hK K
  refine L_reg [0, 3] (fun K hK => ?_)
  simp
  apply hK; clear hK K
  refine L_block (L_loopV [3] (fun k vs H' => ∃ i : Nat, k = ls.length - i ∧ i ≤ ls.length ∧ ls.any (fun l => decide (60 < l.length)) = (ls.drop i).any (fun l => decide (60 < l.length)) ∧ vs = [.int .i64 i] ∧ H = H') _ [.int .i64 (0 : Nat)] rfl ⟨0, rfl, by omega, rfl, rfl, rfl⟩ ?_)
  rintro k _ _ ⟨i, rfl, hi, hx, rfl, rfl⟩
  refine L_reg [0, 3, 7] (fun K hK => ?_)
  simp
  apply hK; clear hK K
  refine L_dec (i < ls.length) (by simp) (fun hlt => ?_) (fun hge => L_exit ?_)
  · obtain ⟨r', w, rfl, rfl, hrd, hw⟩ := hld i hlt
    obtain ⟨rw0, ow, vw, zw, fw, hww, -⟩ := hw
    rw [hww] at hrd
    rw [List.drop_eq_getElem_cons hlt, List.any_cons] at hx
    refine L_block ?_
    refine L_reg [0, 3, 15] (fun K hK => ?_)
    simp [hlt, hrd]
    apply hK; clear hK K
    refine L_dec ((60 : Int) < ls[i].length) (by simp) (fun h1 => ?_) (fun h1 => ?_)
    · rw [decide_eq_true (by omega : 60 < ls[i].length), Bool.true_or] at hx
      rw [hx] at h
      refine L_reg [2] (fun K hK => ?_)
      simp
      apply hK; clear hK K
      exact L_ret ⟨.inr rfl, _, rfl, h⟩
    · rw [decide_eq_false (by omega : ¬ 60 < ls[i].length), Bool.false_or] at hx
      refine L_reg [0, 3] (fun K hK => ?_)
      simp [wrap_i64 (a := (i : Int) + 1) (by omega)]
      apply hK; clear hK K
      exact ⟨ls.length - (i + 1), [.int .i64 (i + 1 : Nat)], by omega, by simp, i + 1, rfl, by omega, hx, rfl, rfl⟩
  · obtain rfl : i = ls.length := by omega
    rw [List.drop_length, List.any_nil] at hx
    rw [hx] at h
    refine L_reg [2] (fun K hK => ?_)
    simp
    apply hK; clear hK K
    exact L_ret ⟨.inr rfl, _, rfl, h⟩
theorem wayS_len : ∀ {N : Nat} {os a is : List Int}, Okb N a → ∀ x ∈ wayS N a os is, x.length ≤ N
  | N, [], a, is, ha, x, hx => by
    rw [wayS_nil] at hx
    obtain rfl : x = a := by simpa using hx
    exact okb_len ha
  | N, o :: os, a, [], ha, x, hx => by
    obtain rfl : x = a := by simpa [wayS] using hx
    exact okb_len ha
  | N, o :: os, a, i :: is, ha, x, hx => by
    simp only [wayS, List.mem_cons] at hx
    rcases hx with rfl | hx
    · exact okb_len ha
    · exact wayS_len (exS_okb N a o i) x hx
theorem wayS_count : ∀ {N : Nat} {os a is : List Int}, (wayS N a os is).length ≤ os.length + 1
  | N, [], a, is => by rw [wayS_nil]; simp
  | N, o :: os, a, [] => by simp [wayS]
  | N, o :: os, a, i :: is => by
    simp only [wayS, List.length_cons]
    have := wayS_count (N := N) (os := os) (a := exS N a o i) (is := is)
    omega
set_option maxRecDepth 100000 in
theorem blendWays_ac (n : Int) (u v : AV) (a b : List Int) (H : AH) (hu : Ls H u a) (hv : Ls H v b) : AC Try.prog 4 [.int .i64 n, u, v] H fun u _ => u = .bool true := by
  obtain ⟨r, off, ver, sz, full, rfl, -⟩ := id hu
  obtain ⟨r2, off2, ver2, sz2, full2, rfl, -⟩ := id hv
  refine L_body 69 Try.func4 rfl rfl ?_
  refine L_reg [0, 1, 2] (fun K hK => ?_)
  simp
  apply hK; clear hK K
  have hrow := row37_2 H (x := .slice r off a.length ver sz full) (y := .slice r2 off2 b.length ver2 sz2 full2) rfl rfl rfl rfl
  have hE0 : Ext H (H ++ [AObj.row [.slice r off a.length ver sz full, .slice r2 off2 b.length ver2 sz2 full2] 0 2 false]) := .push _ _
  have hr0 : (H ++ [AObj.row [.slice r off a.length ver sz full, .slice r2 off2 b.length ver2 sz2 full2] 0 2 false])[H.length]? = some (.row [.slice r off a.length ver sz full, .slice r2 off2 b.length ver2 sz2 full2] 0 2 false) := by simp
  have hu := hu.ext hE0
  have hv := hv.ext hE0
  generalize H ++ [AObj.row [.slice r off a.length ver sz full, .slice r2 off2 b.length ver2 sz2 full2] 0 2 false] = H0 at *
  have hlss : Lss H0 (.slice (some H.length) 0 2 0 1 false) [a, b] := by
    refine ⟨some H.length, 0, 0, 1, false, rfl, fun i hi => ?_⟩
    have : i = 0 ∨ i = 1 := by simp at hi; omega
    rcases this with rfl | rfl
    · exact ⟨H.length, _, rfl, rfl, by rw [ld_row hr0]; rfl, hu⟩
    · exact ⟨H.length, _, rfl, rfl, by rw [ld_row hr0]; rfl, hv⟩
  refine L_reg [0, 1, 2, 18] (fun K hK => ?_)
  simp [okFn_low, hrow]
  refine larges_ac [a, b] _ H0 _ (by simp) hlss ?_
  simp
  apply hK; clear hK K
  by_cases hbig : 60 < a.length ∨ 60 < b.length
  · refine L_true (by simp; omega) ?_
    refine L_reg [6] (fun K hK => ?_)
    simp [okFn_low]
    refine works_ac _ _ ?_
    simp
    apply hK; clear hK K
    exact L_ret ⟨.inr rfl, _, rfl, rfl⟩
  refine L_false (by simp; omega) ?_
  have ha : a.length ≤ 1000000 := by omega
  have hb : b.length ≤ 1000000 := by omega
  refine L_reg [0, 1, 2, 7, 8] (fun K hK => ?_)
  simp [okFn_low]
  refine Away_ac n _ _ a b H0 _ ha hb hu hv (fun H1 hE1 => ?_)
  simp
  apply hK; clear hK K
  have hu := hu.ext hE1
  have hv := hv.ext hE1
  refine L_reg [0, 1, 2, 7, 8, 9, 10] (fun K hK => ?_)
  simp [okFn_low]
  refine rAway_ac n _ _ a b H1 _ ha hb hu hv (fun H2 hE2 => ?_)
  simp
  apply hK; clear hK K
  have hu := hu.ext hE2
  have hv := hv.ext hE2
  refine L_reg [0, 1, 2, 7, 8, 9, 10, 11, 12] (fun K hK => ?_)
  simp [okFn_low]
  refine Way_ac n _ _ a b H2 _ ha hb hu hv (fun w1 H3 hL1 hE3 => ?_)
  simp
  apply hK; clear hK K
  have hu := hu.ext hE3
  have hv := hv.ext hE3
  refine L_reg [7, 8, 9, 10, 11, 12, 13, 14] (fun K hK => ?_)
  simp [okFn_low]
  refine rWay_ac n _ _ a b H3 _ ha hb hu hv (fun w2 H4 hL2 hE4 => ?_)
  simp
  apply hK; clear hK K
  have hL1 := hL1.ext hE4
  have hsm : (waysS n a b).length ≤ 1000000 ∧ ∀ x ∈ waysS n a b, x.length ≤ 1000000 := by
    unfold waysS
    split
    · rename_i h0
      obtain ⟨N, rfl, hN, hoa, hob, hab⟩ := both_ok h0
      have h1 := okb_len hoa
      have h2 : (lack a b).length ≤ a.length := by unfold lack; exact List.length_filter_le _ _
      constructor
      · have := wayS_count (N := (N : Int).toNat) (os := lack a b) (a := a) (is := lack b a)
        omega
      · intro x hx
        have := wayS_len (N := N) hoa x hx
        omega
    · simp
  refine L_reg [6] (fun K hK => ?_)
  simp [okFn_low, pickV]
  refine lists_ac w1 w2 _ _ H4 _ hsm.1 hsm.2 hL1 hL2 ?_
  simp [okFn_low, pickV]
  refine works_ac _ _ ?_
  simp [pickV]
  apply hK; clear hK K
  exact L_ret ⟨.inr rfl, _, rfl, rfl⟩
end Go.Proofs.Ytpdcmdmhamnndaa
