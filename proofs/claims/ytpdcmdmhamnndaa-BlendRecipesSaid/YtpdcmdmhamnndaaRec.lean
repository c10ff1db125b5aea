/- Recipes: checked, weighed. -/
import Derived.Test.YtpdcmdmhamnndaaWays2
namespace Go.Proofs.Ytpdcmdmhamnndaa
open Go Go.Proofs.Ytpdcmdmhamnndaa.AX

theorem ag43 : aggSz Try.prog 43 = some 3 := by kernel_rfl
theorem ag44 : aggSz Try.prog 44 = some 3 := by kernel_rfl
@[simp] theorem ld43 (H : AH) (r off ver : Nat) : loadV Try.prog 43 H (.ptr r off ver) = (ldn H r ver 3 off).map .agg := load_agg ag43 ..
@[simp] theorem ld44 (H : AH) (r off ver : Nat) : loadV Try.prog 44 H (.ptr r off ver) = (ldn H r ver 3 off).map .agg := load_agg ag44 ..
@[simp] theorem fa430 (r off ver : Nat) : aFieldAddr Try.prog 43 (.ptr r off ver) 0 = some (.ptr r (off + 0) ver) := fld_ptr (by kernel_rfl) ..
@[simp] theorem fa431 (r off ver : Nat) : aFieldAddr Try.prog 43 (.ptr r off ver) 1 = some (.ptr r (off + 1) ver) := fld_ptr (by kernel_rfl) ..
@[simp] theorem fa432 (r off ver : Nat) : aFieldAddr Try.prog 43 (.ptr r off ver) 2 = some (.ptr r (off + 2) ver) := fld_ptr (by kernel_rfl) ..
@[simp] theorem fa440 (r off ver : Nat) : aFieldAddr Try.prog 44 (.ptr r off ver) 0 = some (.ptr r (off + 0) ver) := fld_ptr (by kernel_rfl) ..
@[simp] theorem fa441 (r off ver : Nat) : aFieldAddr Try.prog 44 (.ptr r off ver) 1 = some (.ptr r (off + 1) ver) := fld_ptr (by kernel_rfl) ..
@[simp] theorem fa442 (r off ver : Nat) : aFieldAddr Try.prog 44 (.ptr r off ver) 2 = some (.ptr r (off + 2) ver) := fld_ptr (by kernel_rfl) ..

/-- A recipe that lies in a row of its own. -/
def RecRow (H : AH) (q : Nat) (v : AV) (lo hi : Int) : Prop := ∃ s, H[q]? = some (.row [v, .int .i64 lo, .int .i64 hi] 0 s false)
theorem RecRow.lds {H : AH} {q : Nat} {r : Option Nat} {off len ver sz : Nat} {full : Bool} {lo hi : Int} (h : RecRow H q (.slice r off len ver sz full) lo hi) :
    ld H q 0 0 = some (.slice r off len ver sz full) ∧ ld H q 1 0 = some (.int .i64 lo) ∧ ld H q 2 0 = some (.int .i64 hi) ∧ ldn H q 0 3 0 = some [.slice r off len ver sz full, .int .i64 lo, .int .i64 hi] := by
  obtain ⟨s, h⟩ := h
  exact ⟨by rw [ld_row h]; rfl, by rw [ld_row h]; rfl, by rw [ld_row h]; rfl, by rw [ldn_row h]; rfl⟩
theorem RecRow.ext {H H' : AH} {q : Nat} {v : AV} {lo hi : Int} (h : RecRow H q v lo hi) (hE : Ext H H') : RecRow H' q v lo hi := by
  obtain ⟨s, h⟩ := h; exact ⟨s, hE.row h⟩
theorem RecRow.new (H : AH) (v : AV) (lo hi : Int) (s : Nat) : RecRow (H ++ [.row [v, .int .i64 lo, .int .i64 hi] 0 s false]) H.length v lo hi := ⟨s, by simp⟩

def badS (w : Int) : Bool := decide (w < 0 ∨ 50 < w)
def recE (ws : List Int) (lo hi : Int) : Int := if ws.length = 0 then 4 else if 10 < ws.length then 3 else if ws.any badS = true then 1 else if hi < lo then 7 else 0
theorem any_drop {ws : List Int} {i : Nat} (hi : i < ws.length) : (ws.drop i).any badS = (badS ws[i] || (ws.drop (i + 1)).any badS) := by
  rw [List.drop_eq_getElem_cons hi, List.any_cons]
set_option maxRecDepth 100000 in
theorem CheckRecipe_ac (v : AV) (ws : List Int) (lo hi : Int) (H : AH) (Q : AV → AH → Prop) (hl : ws.length ≤ 1000000) (hv : Ls H v ws) (h : ∀ H', Ext H H' → Q (.int .i64 (recE ws lo hi)) H') : AC Try.prog 36 [.agg [v, .int .i64 lo, .int .i64 hi]] H Q := by
  obtain ⟨r, off, ver, sz, full, rfl, -⟩ := id hv
  refine L_body 32 Try.func36 rfl rfl ?_
  refine L_reg [1] (fun K hK => ?_)
  simp [AV.isU, acells]
  apply hK; clear hK K
  have hE := Ext.push H [AObj.row [.slice r off ws.length ver sz full, .int .i64 lo, .int .i64 hi] 0 0 false]
  obtain ⟨d0, d1, d2, -⟩ := (RecRow.new H (.slice r off ws.length ver sz full) lo hi 0).lds
  have hv := hv.ext hE
  generalize H ++ [AObj.row [.slice r off ws.length ver sz full, .int .i64 lo, .int .i64 hi] 0 0 false] = H0 at *
  generalize H.length = q at *
  unfold recE at h
  refine L_reg [1, 8] (fun K hK => ?_)
  simp [d0]
  apply hK; clear hK K
  refine L_dec ((ws.length : Int) = 0) rfl (fun h1 => ?_) (fun h1 => ?_)
  · rw [if_pos (by omega)] at h
    refine L_reg [2] (fun K hK => ?_)
    simp
    apply hK; clear hK K
    exact L_ret ⟨.inr rfl, _, rfl, h _ hE⟩
  rw [if_neg (by omega)] at h
  refine L_reg [1, 12] (fun K hK => ?_)
  simp [d0]
  apply hK; clear hK K
  refine L_dec ((10 : Int) < ws.length) rfl (fun h2 => ?_) (fun h2 => ?_)
  · rw [if_pos (by omega)] at h
    refine L_reg [2] (fun K hK => ?_)
    simp
    apply hK; clear hK K
    exact L_ret ⟨.inr rfl, _, rfl, h _ hE⟩
  rw [if_neg (by omega)] at h
  refine L_reg [1, 14, 15, 16] (fun K hK => ?_)
  simp [d0]
  apply hK; clear hK K
  obtain ⟨r2, off2, ver2, sz2, full2, hve, hld⟩ := hv
  refine L_block (L_loopV [16] (fun k vs H' => ∃ i : Nat, k = ws.length - i ∧ i ≤ ws.length ∧ ws.any badS = (ws.drop i).any badS ∧ vs = [.int .i64 i] ∧ H0 = H') _ [.int .i64 (0 : Nat)] rfl ⟨0, rfl, by omega, rfl, rfl, rfl⟩ ?_)
  rintro k _ _ ⟨i, rfl, hi', hx, rfl, rfl⟩
  refine L_reg [1, 14, 15, 16, 17] (fun K hK => ?_)
  simp
  apply hK; clear hK K
  refine L_dec (i < ws.length) (by simp) (fun hlt => ?_) (fun hge => L_exit ?_)
  · obtain ⟨r', e1, rfl, hrd⟩ := hld i hlt
    cases hve
    subst e1
    rw [any_drop hlt] at hx
    refine L_block ?_
    refine L_reg [1, 4, 14, 15, 16] (fun K hK => ?_)
    simp [hlt, hrd]
    apply hK; clear hK K
    generalize ws[i] = w at hx
    by_cases h3 : w < 0
    · refine L_reg [1, 14, 15, 16, 25] (fun K hK => ?_)
      simp [pickV, h3]
      apply hK; clear hK K
      refine L_true (by simp) ?_
      have hb : badS w = true := by simp [badS, h3]
      rw [if_pos (by rw [hx, hb]; rfl)] at h
      refine L_reg [2] (fun K hK => ?_)
      simp
      apply hK; clear hK K
      exact L_ret ⟨.inr rfl, _, rfl, h _ hE⟩
    · refine L_reg [1, 14, 15, 16, 25] (fun K hK => ?_)
      simp [pickV, h3]
      apply hK; clear hK K
      refine L_dec ((50 : Int) < w) (by simp) (fun h4 => ?_) (fun h4 => ?_)
      · have hb : badS w = true := by simp [badS, h4]
        rw [if_pos (by rw [hx, hb]; rfl)] at h
        refine L_reg [2] (fun K hK => ?_)
        simp
        apply hK; clear hK K
        exact L_ret ⟨.inr rfl, _, rfl, h _ hE⟩
      · have hb : badS w = false := by simp [badS]; omega
        rw [hb, Bool.false_or] at hx
        refine L_reg [1, 14, 15, 16] (fun K hK => ?_)
        simp [wrap_i64 (a := (i : Int) + 1) (by omega)]
        apply hK; clear hK K
        exact ⟨ws.length - (i + 1), [.int .i64 (i + 1 : Nat)], by omega, by simp, i + 1, rfl, by omega, hx, rfl, rfl⟩
  · rw [List.drop_eq_nil_of_le (by omega), List.any_nil] at hx
    rw [if_neg (by rw [hx]; decide)] at h
    refine L_reg [31] (fun K hK => ?_)
    simp [d1, d2]
    apply hK; clear hK K
    refine L_dec (hi < lo) rfl (fun h5 => ?_) (fun h5 => ?_)
    · rw [if_pos h5] at h
      refine L_reg [2] (fun K hK => ?_)
      simp
      apply hK; clear hK K
      exact L_ret ⟨.inr rfl, _, rfl, h _ hE⟩
    · rw [if_neg h5] at h
      refine L_reg [2] (fun K hK => ?_)
      simp
      apply hK; clear hK K
      exact L_ret ⟨.inr rfl, _, rfl, h _ hE⟩
set_option maxRecDepth 100000 in
theorem rCheckRecipe_ac (v : AV) (ws : List Int) (lo hi : Int) (H : AH) (Q : AV → AH → Prop) (hl : ws.length ≤ 1000000) (hv : Ls H v ws) (h : ∀ H', Ext H H' → Q (.int .i64 (recE ws lo hi)) H') : AC Try.prog 37 [.agg [v, .int .i64 lo, .int .i64 hi]] H Q := by
  obtain ⟨r, off, ver, sz, full, rfl, -⟩ := id hv
  refine L_body 31 Try.func37 rfl rfl ?_
  refine L_reg [1] (fun K hK => ?_)
  simp [AV.isU, acells]
  apply hK; clear hK K
  have hE := Ext.push H [AObj.row [.slice r off ws.length ver sz full, .int .i64 lo, .int .i64 hi] 0 0 false]
  obtain ⟨d0, d1, d2, -⟩ := (RecRow.new H (.slice r off ws.length ver sz full) lo hi 0).lds
  have hv := hv.ext hE
  generalize H ++ [AObj.row [.slice r off ws.length ver sz full, .int .i64 lo, .int .i64 hi] 0 0 false] = H0 at *
  generalize H.length = q at *
  unfold recE at h
  refine L_reg [1, 7] (fun K hK => ?_)
  simp [d0]
  apply hK; clear hK K
  refine L_dec ((ws.length : Int) = 0) rfl (fun h1 => ?_) (fun h1 => ?_)
  · rw [if_pos (by omega)] at h
    refine L_reg [2] (fun K hK => ?_)
    simp
    apply hK; clear hK K
    exact L_ret ⟨.inr rfl, _, rfl, h _ hE⟩
  rw [if_neg (by omega)] at h
  refine L_reg [1, 11] (fun K hK => ?_)
  simp [d0]
  apply hK; clear hK K
  refine L_dec ((10 : Int) < ws.length) rfl (fun h2 => ?_) (fun h2 => ?_)
  · rw [if_pos (by omega)] at h
    refine L_reg [2] (fun K hK => ?_)
    simp
    apply hK; clear hK K
    exact L_ret ⟨.inr rfl, _, rfl, h _ hE⟩
  rw [if_neg (by omega)] at h
  refine L_reg [1, 3] (fun K hK => ?_)
  simp
  apply hK; clear hK K
  obtain ⟨r2, off2, ver2, sz2, full2, hve, hld⟩ := hv
  refine L_block (L_loopV [3] (fun k vs H' => ∃ i : Nat, k = ws.length - i ∧ i ≤ ws.length ∧ ws.any badS = (ws.drop i).any badS ∧ vs = [.int .i64 i] ∧ H0 = H') _ [.int .i64 (0 : Nat)] rfl ⟨0, rfl, by omega, rfl, rfl, rfl⟩ ?_)
  rintro k _ _ ⟨i, rfl, hi', hx, rfl, rfl⟩
  refine L_reg [1, 3, 16] (fun K hK => ?_)
  simp [d0]
  apply hK; clear hK K
  refine L_dec (i < ws.length) (by simp) (fun hlt => ?_) (fun hge => L_exit ?_)
  · obtain ⟨r', e1, rfl, hrd⟩ := hld i hlt
    cases hve
    subst e1
    rw [any_drop hlt] at hx
    refine L_block ?_
    refine L_reg [1, 3, 25] (fun K hK => ?_)
    simp [okFn_low, d0, hlt, hrd]
    refine in_ac _ 0 50 _ _ ?_
    simp
    apply hK; clear hK K
    generalize ws[i] = w at hx ⊢
    by_cases h3 : 0 ≤ w ∧ w ≤ 50
    · refine L_false (by simp [h3]) ?_
      have hb : badS w = false := by simp [badS]; omega
      rw [hb, Bool.false_or] at hx
      refine L_reg [1, 3] (fun K hK => ?_)
      simp [wrap_i64 (a := (i : Int) + 1) (by omega)]
      apply hK; clear hK K
      exact ⟨ws.length - (i + 1), [.int .i64 (i + 1 : Nat)], by omega, by simp, i + 1, rfl, by omega, hx, rfl, rfl⟩
    · refine L_true (by simp; omega) ?_
      have hb : badS w = true := by simp [badS]; omega
      rw [if_pos (by rw [hx, hb]; rfl)] at h
      refine L_reg [2] (fun K hK => ?_)
      simp
      apply hK; clear hK K
      exact L_ret ⟨.inr rfl, _, rfl, h _ hE⟩
  · rw [List.drop_eq_nil_of_le (by omega), List.any_nil] at hx
    rw [if_neg (by rw [hx]; decide)] at h
    refine L_reg [30] (fun K hK => ?_)
    simp [d1, d2]
    apply hK; clear hK K
    refine L_dec (hi < lo) rfl (fun h5 => ?_) (fun h5 => ?_)
    · rw [if_pos h5] at h
      refine L_reg [2] (fun K hK => ?_)
      simp
      apply hK; clear hK K
      exact L_ret ⟨.inr rfl, _, rfl, h _ hE⟩
    · rw [if_neg h5] at h
      refine L_reg [2] (fun K hK => ?_)
      simp
      apply hK; clear hK K
      exact L_ret ⟨.inr rfl, _, rfl, h _ hE⟩
def weighS (ws : List Int) : List Int → Int
  | [] => 0
  | x :: l => (ws[x.toNat]?).getD 0 + weighS ws l
/-- Weights, and leaves that have one. -/
def Fine (ws b : List Int) : Prop := (∀ w ∈ ws, 0 ≤ w ∧ w ≤ 50) ∧ (∀ x ∈ b, 0 ≤ x ∧ x < (ws.length : Int)) ∧ b.length ≤ 10 ∧ ws.length ≤ 10
theorem weighS_bound {ws : List Int} (hw : ∀ w ∈ ws, 0 ≤ w ∧ w ≤ 50) : ∀ l : List Int, 0 ≤ weighS ws l ∧ weighS ws l ≤ 50 * (l.length : Int)
  | [] => by simp [weighS]
  | x :: l => by
    have ih := weighS_bound hw l
    have : 0 ≤ (ws[x.toNat]?).getD 0 ∧ (ws[x.toNat]?).getD 0 ≤ 50 := by
      cases h : ws[x.toNat]? with
      | none => simp
      | some w => simpa using hw w (List.mem_of_getElem? h)
    simp only [weighS, List.length_cons]
    omega
theorem weighS_drop {ws b : List Int} {i : Nat} (hi : i < b.length) : weighS ws (b.drop i) = (ws[(b[i]).toNat]?).getD 0 + weighS ws (b.drop (i + 1)) := by
  rw [List.drop_eq_getElem_cons hi]; rfl
set_option maxRecDepth 100000 in
theorem weigh_ac (v u : AV) (ws b : List Int) (lo hi : Int) (H : AH) (Q : AV → AH → Prop) (hf : Fine ws b) (hv : Ls H v ws) (hu : Ls H u b) (h : ∀ H', Ext H H' → Q (.int .i64 (weighS ws b)) H') : AC Try.prog 77 [.agg [v, .int .i64 lo, .int .i64 hi], u] H Q := by
  obtain ⟨f1, f2, f3, f4⟩ := hf
  obtain ⟨r, off, ver, sz, full, rfl, -⟩ := id hv
  refine L_body 23 Try.func77 rfl rfl ?_
  refine L_reg [1, 2] (fun K hK => ?_)
  simp [AV.isU, acells]
  apply hK; clear hK K
  have hE := Ext.push H [AObj.row [.slice r off ws.length ver sz full, .int .i64 lo, .int .i64 hi] 0 0 false]
  obtain ⟨d0, d1, d2, -⟩ := (RecRow.new H (.slice r off ws.length ver sz full) lo hi 0).lds
  have hv := hv.ext hE
  have hu := hu.ext hE
  generalize H ++ [AObj.row [.slice r off ws.length ver sz full, .int .i64 lo, .int .i64 hi] 0 0 false] = H0 at *
  generalize H.length = q at *
  obtain ⟨r1, off1, ver1, sz1, full1, hve, hld⟩ := hv
  cases hve
  obtain ⟨r2, off2, ver2, sz2, full2, rfl, hld2⟩ := hu
  refine L_reg [1, 2, 5] (fun K hK => ?_)
  simp
  apply hK; clear hK K
  refine L_reg [2, 5, 8, 9, 10] (fun K hK => ?_)
  simp
  apply hK; clear hK K
  refine L_block (L_loopV [5, 10] (fun k vs H' => ∃ (i : Nat) (a : Int), k = b.length - i ∧ i ≤ b.length ∧ a + weighS ws (b.drop i) = weighS ws b ∧ 0 ≤ a ∧ a ≤ 50 * i ∧ vs = [.int .i64 a, .int .i64 i] ∧ H0 = H') _ [.int .i64 0, .int .i64 (0 : Nat)] rfl ⟨0, 0, rfl, by omega, by simp, by omega, by omega, rfl, rfl⟩ ?_)
  rintro k _ _ ⟨i, a, rfl, hi', hx, ha1, ha2, rfl, rfl⟩
  refine L_reg [2, 5, 8, 9, 10, 11] (fun K hK => ?_)
  simp
  apply hK; clear hK K
  refine L_dec (i < b.length) (by simp) (fun hlt => ?_) (fun hge => L_exit ?_)
  · obtain ⟨r', rfl, rfl, hrd⟩ := hld2 i hlt
    have hbx := f2 _ (List.getElem_mem hlt)
    rw [weighS_drop hlt] at hx
    refine L_block ?_
    refine L_reg [2, 5, 7, 8, 9, 10] (fun K hK => ?_)
    simp [hlt, hrd]
    apply hK; clear hK K
    generalize b[i] = x at hx hbx
    obtain ⟨x, rfl⟩ : ∃ m : Nat, x = (m : Int) := ⟨x.toNat, by omega⟩
    have hxl : x < ws.length := by omega
    obtain ⟨r3, rfl, rfl, hrd3⟩ := hld x hxl
    have hw := f1 _ (List.getElem_mem hxl)
    simp only [Int.toNat_natCast, List.getElem?_eq_getElem hxl, Option.getD_some] at hx
    refine L_reg [2, 5, 8, 9, 10] (fun K hK => ?_)
    simp [d0, hxl, hrd3, wrap_i64 (a := a + ws[x]) (by omega)]
    apply hK; clear hK K
    refine L_reg [2, 5, 8, 9, 10] (fun K hK => ?_)
    simp [wrap_i64 (a := (i : Int) + 1) (by omega)]
    apply hK; clear hK K
    exact ⟨b.length - (i + 1), [.int .i64 (a + ws[x]), .int .i64 (i + 1 : Nat)], by omega, by simp, i + 1, a + ws[x], rfl, by omega, by omega, by omega, by omega, rfl, rfl⟩
  · rw [List.drop_eq_nil_of_le (by omega)] at hx
    simp only [weighS, Int.add_zero] at hx
    refine L_reg [4] (fun K hK => ?_)
    simp
    apply hK; clear hK K
    exact L_ret ⟨.inr rfl, _, rfl, by rw [hx]; exact h _ hE⟩
set_option maxRecDepth 100000 in
theorem rweight_ac (v u : AV) (ws b : List Int) (lo hi : Int) (H : AH) (Q : AV → AH → Prop) (hf : Fine ws b) (hv : Ls H v ws) (hu : Ls H u b) (h : ∀ H', Ext H H' → Q (.int .i64 (weighS ws b)) H') : AC Try.prog 79 [.agg [v, .int .i64 lo, .int .i64 hi], u] H Q := by
  obtain ⟨f1, f2, f3, f4⟩ := hf
  obtain ⟨r, off, ver, sz, full, rfl, -⟩ := id hv
  refine L_body 24 Try.func79 rfl rfl ?_
  refine L_reg [1, 2] (fun K hK => ?_)
  simp [AV.isU, acells]
  apply hK; clear hK K
  have hE := Ext.push H [AObj.row [.slice r off ws.length ver sz full, .int .i64 lo, .int .i64 hi] 0 0 false]
  obtain ⟨d0, d1, d2, -⟩ := (RecRow.new H (.slice r off ws.length ver sz full) lo hi 0).lds
  have hv := hv.ext hE
  have hu := hu.ext hE
  generalize H ++ [AObj.row [.slice r off ws.length ver sz full, .int .i64 lo, .int .i64 hi] 0 0 false] = H0 at *
  generalize H.length = q at *
  obtain ⟨r1, off1, ver1, sz1, full1, hve, hld⟩ := hv
  cases hve
  obtain ⟨r2, off2, ver2, sz2, full2, rfl, hld2⟩ := hu
  refine L_reg [1, 2, 5] (fun K hK => ?_)
  simp
  apply hK; clear hK K
  refine L_reg [1, 2, 5, 6] (fun K hK => ?_)
  simp
  apply hK; clear hK K
  refine L_block (L_loopV [5, 6] (fun k vs H' => ∃ (i : Nat) (a : Int), k = b.length - i ∧ i ≤ b.length ∧ a + weighS ws (b.drop i) = weighS ws b ∧ 0 ≤ a ∧ a ≤ 50 * i ∧ vs = [.int .i64 a, .int .i64 i] ∧ H0 = H') _ [.int .i64 0, .int .i64 (0 : Nat)] rfl ⟨0, 0, rfl, by omega, by simp, by omega, by omega, rfl, rfl⟩ ?_)
  rintro k _ _ ⟨i, a, rfl, hi', hx, ha1, ha2, rfl, rfl⟩
  refine L_reg [1, 2, 5, 6, 10] (fun K hK => ?_)
  simp
  apply hK; clear hK K
  refine L_dec (i < b.length) (by simp) (fun hlt => ?_) (fun hge => L_exit ?_)
  · obtain ⟨r', rfl, rfl, hrd⟩ := hld2 i hlt
    have hbx := f2 _ (List.getElem_mem hlt)
    rw [weighS_drop hlt] at hx
    refine L_block ?_
    generalize b[i] = x at hx hbx hrd
    obtain ⟨x, rfl⟩ : ∃ m : Nat, x = (m : Int) := ⟨x.toNat, by omega⟩
    have hxl : x < ws.length := by omega
    obtain ⟨r3, rfl, rfl, hrd3⟩ := hld x hxl
    have hw := f1 _ (List.getElem_mem hxl)
    simp only [Int.toNat_natCast, List.getElem?_eq_getElem hxl, Option.getD_some] at hx
    refine L_regT mixed [1, 2, 5, 6] (by kernel_rfl) (fun K hK => ?_)
    simp [d0, hlt, hrd, hxl, hrd3, wrap_i64 (a := a + ws[x]) (by omega)]
    apply hK; clear hK K
    refine L_reg [1, 2, 5, 6] (fun K hK => ?_)
    simp [wrap_i64 (a := (i : Int) + 1) (by omega)]
    apply hK; clear hK K
    exact ⟨b.length - (i + 1), [.int .i64 (a + ws[x]), .int .i64 (i + 1 : Nat)], by omega, by simp, i + 1, a + ws[x], rfl, by omega, by omega, by omega, by omega, rfl, rfl⟩
  · rw [List.drop_eq_nil_of_le (by omega)] at hx
    simp only [weighS, Int.add_zero] at hx
    refine L_reg [4] (fun K hK => ?_)
    simp
    apply hK; clear hK K
    exact L_ret ⟨.inr rfl, _, rfl, by rw [hx]; exact h _ hE⟩
end Go.Proofs.Ytpdcmdmhamnndaa
