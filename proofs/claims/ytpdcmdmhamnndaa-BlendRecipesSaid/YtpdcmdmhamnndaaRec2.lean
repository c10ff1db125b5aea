/- Recipes: weights and those that fit. -/
import Derived.Test.YtpdcmdmhamnndaaRec
namespace Go.Proofs.Ytpdcmdmhamnndaa
open Go Go.Proofs.Ytpdcmdmhamnndaa.AX

def withE (ws : List Int) (lo hi : Int) (b : List Int) : Int := if recE ws lo hi = 0 then checkE ws.length b else recE ws lo hi
theorem rec_ok {ws : List Int} {lo hi : Int} (h : recE ws lo hi = 0) : 1 ≤ ws.length ∧ ws.length ≤ 10 ∧ (∀ w ∈ ws, 0 ≤ w ∧ w ≤ 50) := by
  unfold recE at h
  split at h
  · cases h
  · split at h
    · cases h
    · split at h
      · cases h
      · rename_i h1 h2 h3
        refine ⟨by omega, by omega, fun w hw => ?_⟩
        have : badS w = false := by
          cases hb : badS w with
          | false => rfl
          | true => exact absurd (List.any_eq_true.2 ⟨w, hw, hb⟩) h3
        simp [badS] at this
        omega
theorem fine_of {ws b : List Int} {lo hi : Int} (h : recE ws lo hi = 0) (hb : Okb ws.length b) : Fine ws b := by
  obtain ⟨h1, h2, h3⟩ := rec_ok h
  exact ⟨h3, hb.1, by have := okb_len hb; omega, h2⟩
theorem okb_of {n : Nat} {b : List Int} (h : checkE n b = 0) : Okb n b := by
  obtain ⟨N, hN, -, -, hok⟩ := check_ok h
  have : N = n := by omega
  exact this ▸ hok
theorem checkWith_ac (v u : AV) (ws b : List Int) (lo hi : Int) (H : AH) (Q : AV → AH → Prop) (hl : ws.length ≤ 1000000) (hb : b.length ≤ 1000000) (hv : Ls H v ws) (hu : Ls H u b) (h : ∀ H', Ext H H' → Q (.int .i64 (withE ws lo hi b)) H') : AC Try.prog 76 [.agg [v, .int .i64 lo, .int .i64 hi], u] H Q := by
  obtain ⟨r, off, ver, sz, full, rfl, -⟩ := id hv
  refine L_body 16 Try.func76 rfl rfl ?_
  refine L_reg [1, 2] (fun K hK => ?_)
  simp [AV.isU, acells]
  apply hK; clear hK K
  have hE := Ext.push H [AObj.row [.slice r off ws.length ver sz full, .int .i64 lo, .int .i64 hi] 0 0 false]
  have hR := RecRow.new H (.slice r off ws.length ver sz full) lo hi 0
  obtain ⟨d0, d1, d2, d3⟩ := hR.lds
  generalize H ++ [AObj.row [.slice r off ws.length ver sz full, .int .i64 lo, .int .i64 hi] 0 0 false] = H0 at *
  generalize H.length = q at *
  refine L_reg [1, 2, 5] (fun K hK => ?_)
  simp [okFn_low, d3]
  refine CheckRecipe_ac _ ws lo hi H0 _ hl (hv.ext hE) (fun H1 hE1 => ?_)
  simp
  apply hK; clear hK K
  obtain ⟨d0, -⟩ := (hR.ext hE1).lds
  have hE := hE.trans hE1
  refine L_reg [1, 2, 5, 9] (fun K hK => ?_)
  simp
  apply hK; clear hK K
  unfold withE at h
  refine L_split rfl (fun ht => ?_) (fun hf => ?_)
  · have hne : recE ws lo hi ≠ 0 := by simpa using ht
    rw [if_neg hne] at h
    refine L_reg [4] (fun K hK => ?_)
    simp
    apply hK; clear hK K
    exact L_ret ⟨.inr rfl, _, rfl, h _ hE⟩
  · have he : recE ws lo hi = 0 := by simpa using hf
    rw [if_pos he] at h
    refine L_reg [4] (fun K hK => ?_)
    simp [okFn_low, d0]
    refine Check_ac ws.length u b _ _ hb (hu.ext hE) ?_
    simp
    apply hK; clear hK K
    exact L_ret ⟨.inr rfl, _, rfl, h _ hE⟩
theorem blended_ac (v u : AV) (ws b : List Int) (lo hi : Int) (H : AH) (Q : AV → AH → Prop) (hl : ws.length ≤ 1000000) (hb : b.length ≤ 1000000) (hv : Ls H v ws) (hu : Ls H u b) (h : ∀ H', Ext H H' → Q (.int .i64 (withE ws lo hi b)) H') : AC Try.prog 78 [.agg [v, .int .i64 lo, .int .i64 hi], u] H Q := by
  obtain ⟨r, off, ver, sz, full, rfl, -⟩ := id hv
  refine L_body 16 Try.func78 rfl rfl ?_
  refine L_reg [1, 2] (fun K hK => ?_)
  simp [AV.isU, acells]
  apply hK; clear hK K
  have hE := Ext.push H [AObj.row [.slice r off ws.length ver sz full, .int .i64 lo, .int .i64 hi] 0 0 false]
  have hR := RecRow.new H (.slice r off ws.length ver sz full) lo hi 0
  obtain ⟨d0, d1, d2, d3⟩ := hR.lds
  generalize H ++ [AObj.row [.slice r off ws.length ver sz full, .int .i64 lo, .int .i64 hi] 0 0 false] = H0 at *
  generalize H.length = q at *
  refine L_reg [1, 2, 5] (fun K hK => ?_)
  simp [okFn_low, d3]
  refine rCheckRecipe_ac _ ws lo hi H0 _ hl (hv.ext hE) (fun H1 hE1 => ?_)
  simp
  apply hK; clear hK K
  obtain ⟨d0, -⟩ := (hR.ext hE1).lds
  have hE := hE.trans hE1
  refine L_reg [1, 2, 5, 9] (fun K hK => ?_)
  simp
  apply hK; clear hK K
  unfold withE at h
  refine L_split rfl (fun ht => ?_) (fun hf => ?_)
  · have he : recE ws lo hi = 0 := by simpa using ht
    rw [if_pos he] at h
    refine L_reg [5] (fun K hK => ?_)
    simp [okFn_low, d0]
    refine rCheck_ac ws.length u b _ _ hb (hu.ext hE) ?_
    simp
    apply hK; clear hK K
    refine L_reg [4] (fun K hK => ?_)
    simp
    apply hK; clear hK K
    exact L_ret ⟨.inr rfl, _, rfl, h _ hE⟩
  · have hne : recE ws lo hi ≠ 0 := by simpa using hf
    rw [if_neg hne] at h
    refine L_reg [4] (fun K hK => ?_)
    simp
    apply hK; clear hK K
    exact L_ret ⟨.inr rfl, _, rfl, h _ hE⟩
def weightS (ws : List Int) (lo hi : Int) (b : List Int) : Int := if withE ws lo hi b = 0 then weighS ws b else 0
theorem with_ok {ws b : List Int} {lo hi : Int} (h : withE ws lo hi b = 0) : Fine ws b ∧ Okb ws.length b := by
  unfold withE at h
  split at h
  · rename_i h1
    exact ⟨fine_of h1 (okb_of h), okb_of h⟩
  · contradiction
theorem Weight_ac (v u : AV) (ws b : List Int) (lo hi : Int) (H : AH) (Q : AV → AH → Prop) (hl : ws.length ≤ 1000000) (hb : b.length ≤ 1000000) (hv : Ls H v ws) (hu : Ls H u b) (h : ∀ H', Ext H H' → Q (.tuple [.int .i64 (weightS ws lo hi b), .int .i64 (withE ws lo hi b)]) H') : AC Try.prog 32 [.agg [v, .int .i64 lo, .int .i64 hi], u] H Q := by
  obtain ⟨r, off, ver, sz, full, rfl, -⟩ := id hv
  refine L_body 16 Try.func32 rfl rfl ?_
  refine L_reg [1, 2] (fun K hK => ?_)
  simp [AV.isU, acells]
  apply hK; clear hK K
  have hE := Ext.push H [AObj.row [.slice r off ws.length ver sz full, .int .i64 lo, .int .i64 hi] 0 0 false]
  have hR := RecRow.new H (.slice r off ws.length ver sz full) lo hi 0
  obtain ⟨d0, d1, d2, d3⟩ := hR.lds
  generalize H ++ [AObj.row [.slice r off ws.length ver sz full, .int .i64 lo, .int .i64 hi] 0 0 false] = H0 at *
  generalize H.length = q at *
  refine L_reg [1, 2, 6] (fun K hK => ?_)
  simp [okFn_low, d3]
  refine checkWith_ac _ u ws b lo hi H0 _ hl hb (hv.ext hE) (hu.ext hE) (fun H1 hE1 => ?_)
  simp
  apply hK; clear hK K
  obtain ⟨-, -, -, d3⟩ := (hR.ext hE1).lds
  have hE := hE.trans hE1
  refine L_reg [1, 2, 6, 11] (fun K hK => ?_)
  simp
  apply hK; clear hK K
  unfold weightS at h
  refine L_split rfl (fun ht => ?_) (fun hf => ?_)
  · have hne : withE ws lo hi b ≠ 0 := by simpa using ht
    rw [if_neg hne] at h
    refine L_reg [4, 5] (fun K hK => ?_)
    simp
    apply hK; clear hK K
    exact L_ret ⟨.inr rfl, _, rfl, h _ hE⟩
  · have he : withE ws lo hi b = 0 := by simpa using hf
    rw [if_pos he, he] at h
    refine L_reg [4, 5] (fun K hK => ?_)
    simp [okFn_low, d3]
    refine weigh_ac _ u ws b lo hi H1 _ (with_ok he).1 (hv.ext hE) (hu.ext hE) (fun H2 hE2 => ?_)
    simp
    apply hK; clear hK K
    exact L_ret ⟨.inr rfl, _, rfl, h _ (hE.trans hE2)⟩
theorem rWeight_ac (v u : AV) (ws b : List Int) (lo hi : Int) (H : AH) (Q : AV → AH → Prop) (hl : ws.length ≤ 1000000) (hb : b.length ≤ 1000000) (hv : Ls H v ws) (hu : Ls H u b) (h : ∀ H', Ext H H' → Q (.tuple [.int .i64 (weightS ws lo hi b), .int .i64 (withE ws lo hi b)]) H') : AC Try.prog 33 [.agg [v, .int .i64 lo, .int .i64 hi], u] H Q := by
  obtain ⟨r, off, ver, sz, full, rfl, -⟩ := id hv
  refine L_body 16 Try.func33 rfl rfl ?_
  refine L_reg [1, 2] (fun K hK => ?_)
  simp [AV.isU, acells]
  apply hK; clear hK K
  have hE := Ext.push H [AObj.row [.slice r off ws.length ver sz full, .int .i64 lo, .int .i64 hi] 0 0 false]
  have hR := RecRow.new H (.slice r off ws.length ver sz full) lo hi 0
  obtain ⟨d0, d1, d2, d3⟩ := hR.lds
  generalize H ++ [AObj.row [.slice r off ws.length ver sz full, .int .i64 lo, .int .i64 hi] 0 0 false] = H0 at *
  generalize H.length = q at *
  refine L_reg [1, 2, 6] (fun K hK => ?_)
  simp [okFn_low, d3]
  refine blended_ac _ u ws b lo hi H0 _ hl hb (hv.ext hE) (hu.ext hE) (fun H1 hE1 => ?_)
  simp
  apply hK; clear hK K
  obtain ⟨-, -, -, d3⟩ := (hR.ext hE1).lds
  have hE := hE.trans hE1
  refine L_reg [1, 2, 6, 11] (fun K hK => ?_)
  simp
  apply hK; clear hK K
  unfold weightS at h
  refine L_split rfl (fun ht => ?_) (fun hf => ?_)
  · have hne : withE ws lo hi b ≠ 0 := by simpa using ht
    rw [if_neg hne] at h
    refine L_reg [4, 5] (fun K hK => ?_)
    simp
    apply hK; clear hK K
    exact L_ret ⟨.inr rfl, _, rfl, h _ hE⟩
  · have he : withE ws lo hi b = 0 := by simpa using hf
    rw [if_pos he, he] at h
    refine L_reg [4, 5] (fun K hK => ?_)
    simp [okFn_low, d3]
    refine rweight_ac _ u ws b lo hi H1 _ (with_ok he).1 (hv.ext hE) (hu.ext hE) (fun H2 hE2 => ?_)
    simp
    apply hK; clear hK K
    exact L_ret ⟨.inr rfl, _, rfl, h _ (hE.trans hE2)⟩
def fitB (ws : List Int) (lo hi : Int) (b : List Int) : Bool := decide (lo ≤ weighS ws b) && decide (weighS ws b ≤ hi)
theorem fits_ac (v u : AV) (ws b : List Int) (lo hi : Int) (H : AH) (Q : AV → AH → Prop) (hf : Fine ws b) (hv : Ls H v ws) (hu : Ls H u b) (h : ∀ H', Ext H H' → Q (.bool (fitB ws lo hi b)) H') : AC Try.prog 97 [.agg [v, .int .i64 lo, .int .i64 hi], u] H Q := by
  obtain ⟨r, off, ver, sz, full, rfl, -⟩ := id hv
  refine L_body 19 Try.func97 rfl rfl ?_
  refine L_reg [1, 2] (fun K hK => ?_)
  simp [AV.isU, acells]
  apply hK; clear hK K
  have hE := Ext.push H [AObj.row [.slice r off ws.length ver sz full, .int .i64 lo, .int .i64 hi] 0 0 false]
  have hR := RecRow.new H (.slice r off ws.length ver sz full) lo hi 0
  obtain ⟨d0, d1, d2, d3⟩ := hR.lds
  generalize H ++ [AObj.row [.slice r off ws.length ver sz full, .int .i64 lo, .int .i64 hi] 0 0 false] = H0 at *
  generalize H.length = q at *
  refine L_reg [2, 5] (fun K hK => ?_)
  simp [okFn_low, d3]
  refine weigh_ac _ u ws b lo hi H0 _ hf (hv.ext hE) (hu.ext hE) (fun H1 hE1 => ?_)
  simp
  apply hK; clear hK K
  obtain ⟨-, d1, d2, -⟩ := (hR.ext hE1).lds
  unfold fitB at h
  by_cases h1 : lo ≤ weighS ws b
  · refine L_reg [4] (fun K hK => ?_)
    simp [d1, d2, pickV, h1]
    apply hK; clear hK K
    exact L_ret ⟨.inr rfl, _, rfl, by simpa [h1] using h _ (hE.trans hE1)⟩
  · refine L_reg [4] (fun K hK => ?_)
    simp [d1, d2, pickV, h1]
    apply hK; clear hK K
    exact L_ret ⟨.inr rfl, _, rfl, by simpa [h1] using h _ (hE.trans hE1)⟩
end Go.Proofs.Ytpdcmdmhamnndaa
