/- Fits, and the reference's. -/
import Derived.Test.YtpdcmdmhamnndaaFit
import Derived.Test.YtpdcmdmhamnndaaRef3
namespace Go.Proofs.Ytpdcmdmhamnndaa
open Go Go.Proofs.Ytpdcmdmhamnndaa.AX

def fitsE (ws : List Int) (lo hi k : Int) : Int := if recE ws lo hi = 0 then sizeE ws.length k else recE ws lo hi
def fitsN (ws : List Int) (lo hi k : Int) : Int := if fitsE ws lo hi k = 0 then (((roundS ws.length k.toNat).filter (fitB ws lo hi)).length : Int) else 0
theorem Fits_ac (v : AV) (ws : List Int) (lo hi k : Int) (H : AH) (Q : AV → AH → Prop) (hl : ws.length ≤ 1000000) (hv : Ls H v ws) (h : ∀ H', Ext H H' → Q (.tuple [.int .i64 (fitsN ws lo hi k), .int .i64 (fitsE ws lo hi k)]) H') : AC Try.prog 34 [.agg [v, .int .i64 lo, .int .i64 hi], .int .i64 k] H Q := by
  obtain ⟨r, off, ver, sz, full, rfl, -⟩ := id hv
  refine L_body 25 Try.func34 rfl rfl ?_
  refine L_reg [1, 2] (fun K hK => ?_)
  simp [AV.isU, acells]
  apply hK; clear hK K
  have hE := Ext.push H [AObj.row [.slice r off ws.length ver sz full, .int .i64 lo, .int .i64 hi] 0 0 false]
  have hR := RecRow.new H (.slice r off ws.length ver sz full) lo hi 0
  obtain ⟨d0, d1, d2, d3⟩ := hR.lds
  generalize H ++ [AObj.row [.slice r off ws.length ver sz full, .int .i64 lo, .int .i64 hi] 0 0 false] = H0 at *
  generalize H.length = q at *
  refine L_reg [1, 2, 6] (fun K hK => ?_)
  simp [okFn_low, d3]
  refine CheckRecipe_ac _ ws lo hi H0 _ hl (hv.ext hE) (fun H1 hE1 => ?_)
  simp
  apply hK; clear hK K
  obtain ⟨d0, -, -, d3⟩ := (hR.ext hE1).lds
  have hE := hE.trans hE1
  refine L_reg [1, 2, 6, 11] (fun K hK => ?_)
  simp
  apply hK; clear hK K
  unfold fitsN fitsE at h
  refine L_split rfl (fun ht => ?_) (fun hf => ?_)
  · have hne : recE ws lo hi ≠ 0 := by simpa using ht
    rw [if_neg hne, if_neg hne] at h
    refine L_reg [4, 5] (fun K hK => ?_)
    simp
    apply hK; clear hK K
    exact L_ret ⟨.inr rfl, _, rfl, h _ hE⟩
  · have he : recE ws lo hi = 0 := by simpa using hf
    rw [if_pos he] at h
    refine L_reg [1, 2, 7] (fun K hK => ?_)
    simp [okFn_low, d0]
    refine checkSize_ac ws.length k _ _ ?_
    simp
    apply hK; clear hK K
    refine L_reg [1, 2, 7, 19] (fun K hK => ?_)
    simp
    apply hK; clear hK K
    refine L_split rfl (fun ht => ?_) (fun hf => ?_)
    · have hne : sizeE ws.length k ≠ 0 := by simpa using ht
      rw [if_neg hne] at h
      refine L_reg [4, 5] (fun K hK => ?_)
      simp
      apply hK; clear hK K
      exact L_ret ⟨.inr rfl, _, rfl, h _ hE⟩
    · have he2 : sizeE ws.length k = 0 := by simpa using hf
      rw [if_pos he2, he2] at h
      obtain ⟨N, M, hN, rfl, hK1, -, -⟩ := size_ok he2
      refine L_reg [4, 5] (fun K hK => ?_)
      simp [okFn_low, d3]
      refine fitting_ac _ ws lo hi M H1 _ he (by omega) (hv.ext hE) (fun va H2 hls hone hE2 => ?_)
      obtain ⟨r2, o2, v2, z2, f2, rfl, -⟩ := hls
      simp
      apply hK; clear hK K
      exact L_ret ⟨.inr rfl, _, rfl, by simpa using h _ (hE.trans hE2)⟩
theorem rweight_q (v u : AV) (ws b : List Int) (lo hi : Int) (H : AH) (hf : Fine ws b) (hv : Ls H v ws) (hu : Ls H u b) (Q : AV → AH → Prop) (hq : Q (.int .i64 (weighS ws b)) H) : AC Try.prog 79 [.agg [v, .int .i64 lo, .int .i64 hi], u] H Q :=
  AC.quiet (belB_int _ _ _ _) (fun Q h => rweight_ac v u ws b lo hi H Q hf hv hu h) Q hq
theorem filter_take {f : List Int → Bool} {F : List (List Int)} {i : Nat} (hi : i < F.length) : ((F.take (i + 1)).filter f).length = ((F.take i).filter f).length + if f F[i] = true then 1 else 0 := by
  rw [List.take_add_one, List.getElem?_eq_getElem hi, List.filter_append]
  by_cases h : f F[i] = true <;> simp [h]
set_option maxRecDepth 100000 in
theorem rFits_ac (v : AV) (ws : List Int) (lo hi k : Int) (H : AH) (Q : AV → AH → Prop) (hl : ws.length ≤ 1000000) (hv : Ls H v ws) (h : ∀ H', Ext H H' → Q (.tuple [.int .i64 (fitsN ws lo hi k), .int .i64 (fitsE ws lo hi k)]) H') : AC Try.prog 35 [.agg [v, .int .i64 lo, .int .i64 hi], .int .i64 k] H Q := by
  obtain ⟨r, off, ver, sz, full, rfl, -⟩ := id hv
  refine L_body 50 Try.func35 rfl rfl ?_
  refine L_reg [1, 2] (fun K hK => ?_)
  simp [AV.isU, acells]
  apply hK; clear hK K
  have hE := Ext.push H [AObj.row [.slice r off ws.length ver sz full, .int .i64 lo, .int .i64 hi] 0 0 false]
  have hR := RecRow.new H (.slice r off ws.length ver sz full) lo hi 0
  obtain ⟨d0, d1, d2, d3⟩ := hR.lds
  generalize H ++ [AObj.row [.slice r off ws.length ver sz full, .int .i64 lo, .int .i64 hi] 0 0 false] = H0 at *
  generalize H.length = q at *
  refine L_reg [1, 2, 6] (fun K hK => ?_)
  simp [okFn_low, d3]
  refine rCheckRecipe_ac _ ws lo hi H0 _ hl (hv.ext hE) (fun H1 hE1 => ?_)
  simp
  apply hK; clear hK K
  have hR := hR.ext hE1
  obtain ⟨d0, -, -, d3⟩ := hR.lds
  have hE := hE.trans hE1
  have hv := hv.ext hE
  unfold fitsN fitsE at h
  by_cases he : recE ws lo hi = 0
  case neg =>
    rw [if_neg he, if_neg he] at h
    have hb : (recE ws lo hi == 0) = false := by simpa using he
    refine L_reg [1, 2, 6, 21] (fun K hK => ?_)
    simp [hb, pickV]
    apply hK; clear hK K
    refine L_false (by simp) ?_
    refine L_reg [1, 2, 6, 23] (fun K hK => ?_)
    simp
    apply hK; clear hK K
    refine L_true (by simp [he]) ?_
    refine L_reg [4, 5] (fun K hK => ?_)
    simp
    apply hK; clear hK K
    exact L_ret ⟨.inr rfl, _, rfl, h _ hE⟩
  rw [if_pos he] at h
  obtain ⟨hn1, hn, hw⟩ := rec_ok he
  have hsz : sizeE ws.length k = if k < 0 ∨ (ws.length : Int) < k then 1 else 0 := if_pos (rleaves.1 ⟨by omega, by omega⟩)
  refine L_reg [1, 2, 6, 21] (fun K hK => ?_)
  simp [okFn_low, he, pickV, d0]
  refine in_ac k 0 ws.length _ _ ?_
  simp [pickV]
  apply hK; clear hK K
  by_cases hk : 0 ≤ k ∧ k ≤ (ws.length : Int)
  case neg =>
    rw [if_pos (by omega)] at hsz
    rw [hsz, if_neg (by decide)] at h
    refine L_true (by simp; omega) ?_
    refine L_reg [1, 2, 6] (fun K hK => ?_)
    simp
    apply hK; clear hK K
    refine L_reg [1, 2, 6, 23] (fun K hK => ?_)
    simp
    apply hK; clear hK K
    refine L_true (by simp) ?_
    refine L_reg [4, 5] (fun K hK => ?_)
    simp
    apply hK; clear hK K
    exact L_ret ⟨.inr rfl, _, rfl, h _ hE⟩
  rw [if_neg (by omega)] at hsz
  rw [hsz, if_pos rfl] at h
  refine L_false (by simp [hk]) ?_
  refine L_reg [1, 2, 6, 23] (fun K hK => ?_)
  simp [he]
  apply hK; clear hK K
  refine L_false (by simp) ?_
  refine L_reg [1, 2, 7] (fun K hK => ?_)
  simp
  apply hK; clear hK K
  obtain ⟨M, rfl⟩ : ∃ M : Nat, k = (M : Int) := ⟨k.toNat, by omega⟩
  have hM : M ≤ ws.length := by omega
  refine L_reg [2, 7, 8] (fun K hK => ?_)
  simp [okFn_low, d0]
  refine rround_ac ws.length M hM hn H1 _ (fun vF H2 hRn hE2 => ?_)
  simp
  apply hK; clear hK K
  have hR := hR.ext hE2
  obtain ⟨-, d1, d2, d3⟩ := hR.lds
  have hE := hE.trans hE2
  have hv := hv.ext hE2
  have hFo : ∀ x ∈ roundS ws.length M, Okb ws.length x := fun x hx => okb_round hx
  have hFn := round_le2 (n := ws.length) (k := M) hn
  obtain ⟨rF, vrF, rfl, hget⟩ := hRn.get
  simp only [Int.toNat_natCast] at h
  generalize roundS ws.length M = F at *
  refine L_reg [2, 7, 8, 9] (fun K hK => ?_)
  simp
  apply hK; clear hK K
  refine L_block (L_loopV [7, 9] (fun k vs H' => ∃ i : Nat, k = F.length - i ∧ i ≤ F.length ∧ vs = [.int .i64 ((F.take i).filter (fitB ws lo hi)).length, .int .i64 i] ∧ H2 = H') _ [.int .i64 (0 : Nat), .int .i64 (0 : Nat)] rfl ⟨0, rfl, by omega, rfl, rfl⟩ ?_)
  rintro _ _ _ ⟨i, rfl, hiF, rfl, rfl⟩
  refine L_reg [2, 7, 8, 9, 33] (fun K hK => ?_)
  simp
  apply hK; clear hK K
  refine L_dec (i < F.length) (by simp) (fun hlt => ?_) (fun hge => L_exit ?_)
  · obtain ⟨w, hw1, hw2⟩ := hget i hlt
    have hok := hFo _ (List.getElem_mem hlt)
    have hft := filter_take (f := fitB ws lo hi) hlt
    have hle := List.length_filter_le (fitB ws lo hi) (F.take i)
    have hlt2 : (F.take i).length ≤ i := by simp; omega
    generalize F[i] = x at *
    refine L_block ?_
    refine L_regY mixed [2, 7, 8, 9, 46] (by kernel_rfl) (fun K hK => ?_)
    simp [okFn_low, d3, hlt, hw1]
    refine exX_mk (fun Q hQ => rweight_q _ w ws x lo hi H2 (fine_of he hok) hv hw2 Q hQ) (.refl _) ?_
    simp [okFn_low, d1, d2]
    refine exX_mk (fun Q hQ => in_ac (weighS ws x) lo hi H2 Q hQ) (.refl _) ?_
    simp
    apply hK; clear hK K
    by_cases hf : fitB ws lo hi x = true
    · have hf' : lo ≤ weighS ws x ∧ weighS ws x ≤ hi := by simpa [fitB] using hf
      refine L_true (by simp [hf']) ?_
      rw [if_pos hf] at hft
      refine L_reg [2, 7, 8, 9] (fun K hK => ?_)
      simp [wrap_i64 (a := (((F.take i).filter (fitB ws lo hi)).length : Int) + 1) (by omega)]
      apply hK; clear hK K
      refine L_reg [2, 7, 8, 9] (fun K hK => ?_)
      simp [wrap_i64 (a := (i : Int) + 1) (by omega)]
      apply hK; clear hK K
      exact ⟨F.length - (i + 1), [.int .i64 (((F.take i).filter (fitB ws lo hi)).length + 1 : Nat), .int .i64 (i + 1 : Nat)], by omega, by simp, i + 1, rfl, by omega, by rw [hft], rfl⟩
    · have hf' : ¬ (lo ≤ weighS ws x ∧ weighS ws x ≤ hi) := by simpa [fitB] using hf
      refine L_false (by simp; omega) ?_
      rw [if_neg hf] at hft
      refine L_reg [2, 7, 8, 9] (fun K hK => ?_)
      simp [wrap_i64 (a := (i : Int) + 1) (by omega)]
      apply hK; clear hK K
      exact ⟨F.length - (i + 1), [.int .i64 ((F.take i).filter (fitB ws lo hi)).length, .int .i64 (i + 1 : Nat)], by omega, by simp, i + 1, rfl, by omega, by rw [hft]; rfl, rfl⟩
  · obtain rfl : i = F.length := by omega
    rw [List.take_length]
    refine L_reg [4, 5] (fun K hK => ?_)
    simp
    apply hK; clear hK K
    exact L_ret ⟨.inr rfl, _, rfl, h _ hE⟩
end Go.Proofs.Ytpdcmdmhamnndaa
