/- Divisions of labels that are bytes. -/
import Derived.Test.YtjaefngmidllgaaBas
import Derived.Test.YtjaefngmidllgaaBytes
import Derived.Test.YtjaefngmidllgaaArcP
namespace Go.Proofs.Ytjaefngmidllgaa.St
open Go Go.Proofs.Ytjaefngmidllgaa Go.Proofs.Ytjaefngmidllgaa.AX
set_option maxRecDepth 100000
set_option linter.unusedVariables false
/-- A slice of bytes. -/
def Lu (H : AH) (v : AV) (l : List Nat) : Prop := ∃ r off ver full, v = .slice r off l.length ver 1 full ∧ ∀ i (h : i < l.length), ∃ r', r = some r' ∧ ld H r' (off + i) ver = some (.int .u8 (l[i] : Nat))
theorem Lu.ext {H H' : AH} {v : AV} {l : List Nat} (h : Lu H v l) (hE : Ext H H') : Lu H' v l := by
  obtain ⟨r, off, ver, full, rfl, h⟩ := h
  exact ⟨r, off, ver, full, rfl, fun i hi => by
    obtain ⟨r', h1, h2⟩ := h i hi
    exact ⟨r', h1, hE.ld h2⟩⟩
theorem lu_len {H : AH} {v : AV} {l : List Nat} (h : Lu H v l) : aLen Try.prog 88 v = some (.int .i64 (l.length : Nat)) := by
  obtain ⟨r, off, ver, full, rfl, h⟩ := h
  exact len88 ..
theorem lu_ix {H : AH} {v : AV} {l : List Nat} (h : Lu H v l) {i : Nat} (hi : i < l.length) : ∃ r p ver, (∀ k, aIndexAddr Try.prog 88 v (.int k (i : Int)) = some (.ptr r p ver)) ∧ ld H r p ver = some (.int .u8 (l[i] : Nat)) := by
  obtain ⟨r, off, ver, full, rfl, h⟩ := h
  obtain ⟨r', rfl, h2⟩ := h i hi
  refine ⟨r', off + i, ver, fun k => ?_, h2⟩
  rw [ixa88]
  simp
  omega
theorem ownF_lu {N : Nat} {H : AH} {v : AV} {l : List Nat} (h : OwnF N H v (sV l)) : Lu H v l := by
  rcases h with ⟨h1, rfl⟩ | ⟨r, ver, stale, h1, rfl, h3⟩
  · obtain rfl : l = [] := by simpa [sV] using h1
    exact ⟨none, 0, 0, false, rfl, fun i hi => by simp at hi⟩
  · refine ⟨some r, 0, ver, false, by simp [sV], fun i hi => ⟨r, rfl, ?_⟩⟩
    rw [Nat.zero_add, ld_row h3]
    simp [sV, hi]
/-- The first place of a number, or -1. -/
def ixN (l : List Nat) (x : Nat) : Int := if l.contains x then (l.idxOf x : Int) else -1
theorem uIndex_q (l : List Nat) (x : Nat) (s : AV) (hlen : l.length ≤ 1000000) (H : AH) (hs : Lu H s l) (Q : AV → AH → Prop) (h : Q (.int .i64 (ixN l x)) H) : AC Try.prog 94 [s, .int .u8 (x : Nat)] H Q := by
  have hix : ixN l x = ixI (il l) (x : Int) := (ixI_il l x).symm
  rw [hix] at h
  refine L_body 19 Try.func94 rfl rfl ?_
  have h1 := lu_len hs
  have hll := il_len l
  refine L_reg [0, 1] (fun K hK => ?_)
  simp
  apply hK; clear hK K
  refine L_reg [0, 1, 7, 8] (fun K hK => ?_)
  simp [h1]
  apply hK; clear hK K
  refine L_block (L_loopV [8] (fun q vs H' => ∃ i : Nat, q = l.length - i ∧ i ≤ l.length ∧ vs = [.int .i64 i] ∧ H = H' ∧ ixI (il l) x = if ixI ((il l).drop i) x = -1 then -1 else ixI ((il l).drop i) x + i) _ [.int .i64 (0 : Nat)] rfl ⟨0, rfl, by omega, rfl, rfl, by rw [List.drop_zero]; split <;> simp_all⟩ ?_)
  rintro q _ _ ⟨i, rfl, hi, rfl, rfl, hc⟩
  refine L_reg [0, 1, 7, 8, 9] (fun K hK => ?_)
  simp
  apply hK; clear hK K
  refine L_dec (i < l.length) (by simp) (fun hlt => ?_) (fun hge => L_exit ?_)
  · refine L_block ?_
    obtain ⟨r1, p1, v1, x1, y1⟩ := lu_ix hs hlt
    rw [List.drop_eq_getElem_cons (by omega), il_get hlt] at hc
    generalize l[i] = y at y1 hc
    refine L_reg [0, 1, 5, 7, 8] (fun K hK => ?_)
    simp
    apply hK; clear hK K
    refine L_reg [0, 1, 5, 7, 8, 16] (fun K hK => ?_)
    simp [x1, y1]
    apply hK; clear hK K
    by_cases e : x = y
    · subst e
      refine L_true (by simp) ?_
      refine L_reg [4] (fun K hK => ?_)
      simp
      apply hK; clear hK K
      have e2 : ixI ((x : Int) :: (il l).drop (i + 1)) x = 0 := by unfold ixI; simp
      rw [e2] at hc
      rw [hc] at h
      exact L_ret ⟨.inr rfl, _, rfl, (by simpa using h)⟩
    · refine L_false (by simp; omega) ?_
      refine L_reg [0, 1, 7, 8] (fun K hK => ?_)
      simp [wrap_i64 (a := (i : Int) + 1) (by omega)]
      apply hK; clear hK K
      exact ⟨l.length - (i + 1), [.int .i64 (i + 1 : Nat)], by omega, by simp, i + 1, rfl, by omega, rfl, rfl, by rw [hc, ixI_cons (y : Int) _ (x : Int) (by omega)]; simp⟩
  · have e : i = l.length := by omega
    subst e
    rw [← hll, List.drop_length] at hc
    have e2 : ixI [] (x : Int) = -1 := by unfold ixI; simp
    rw [e2] at hc
    rw [hc] at h
    refine L_reg [4] (fun K hK => ?_)
    simp
    apply hK; clear hK K
    exact L_ret ⟨.inr rfl, _, rfl, (by simpa using h)⟩
theorem uContains_q (l : List Nat) (x : Nat) (s : AV) (hlen : l.length ≤ 1000000) (H : AH) (hs : Lu H s l) (Q : AV → AH → Prop) (h : Q (.bool (l.contains x)) H) : AC Try.prog 93 [s, .int .u8 (x : Nat)] H Q := by
  refine L_body 9 Try.func93 rfl rfl ?_
  refine L_reg [0, 1] (fun K hK => ?_)
  simp
  apply hK; clear hK K
  obtain ⟨y, hy⟩ : ∃ y, ixN l x = y := ⟨_, rfl⟩
  have e : decide (0 ≤ y) = l.contains x := by
    rw [← hy]; unfold ixN
    cases l.contains x <;> simp
  refine L_reg [4] (fun K hK => ?_)
  simp [okFn_low]
  refine uIndex_q l x s hlen H hs _ ?_
  rw [hy]
  simp [e]
  apply hK; clear hK K
  exact L_ret ⟨.inr rfl, _, rfl, (by simpa using h)⟩
/-- Labels by so many rooms. -/
def lbl (n R : Nat) (b : List Nat) : List Nat := (b.take n).map (· % R)
theorem sV_known (b : List Nat) : ∀ v ∈ sV b, v ≠ .undef := by
  intro v hv
  obtain ⟨x, -, rfl⟩ := List.mem_map.1 hv
  intro h; cases h
theorem rem8 (a b : Nat) : ((a : Int)).tmod (b : Int) = ((a % b : Nat) : Int) := by
  rw [Int.tmod_eq_emod_of_nonneg (Int.natCast_nonneg _)]; simp
theorem lbl_ix {n R : Nat} {b : List Nat} {i : Nat} (h : i < (lbl n R b).length) : (lbl n R b)[i] = b[i]'(by simp [lbl] at h; omega) % R := by simp [lbl]
theorem nub_cont {l s : List Nat} {x : Nat} (h : s = if l.contains x then l else l ++ [x]) : ixN s x = (l.idxOf x : Nat) := by
  subst h
  unfold ixN
  by_cases c : x ∈ l
  · simp [c]
  · have : l.idxOf x = l.length := List.idxOf_eq_length c
    simp [c, List.idxOf_append, this]
theorem sV_len (l : List Nat) : (sV l).length = l.length := by simp [sV]
theorem sV_app (l : List Nat) (x : Nat) : sV l ++ [.int .u8 (x : Nat)] = sV (l ++ [x]) := by simp [sV]
theorem ilm_app (l : List Nat) (x : Nat) : (il l).map (AV.int .i64) ++ [.int .i64 (x : Nat)] = (il (l ++ [x])).map (.int .i64) := by simp [il]
set_option maxHeartbeats 2000000 in
theorem divided_ac (n R : Nat) (b : List Nat) (hb : b.length = 9) (hb2 : ∀ x ∈ b, x < 256) (hn : n ≤ 9) (hR : 0 < R) (hR9 : R ≤ 9) (H : AH) (Q : AV → AH → Prop) (h : ∀ v' H', OwnF H.length H' v' ((il (dv (lbl n R b))).map (.int .i64)) → Ext H H' → Q v' H') : AC Try.prog 87 [.int .i64 (n : Nat), .int .i64 (R : Nat), .agg (sV b)] H Q := by
  refine L_body 38 Try.func87 rfl rfl ?_
  have hln : (lbl n R b).length = n := by simp [lbl, hb]; omega
  obtain ⟨I, hI, hz⟩ := zeroT_some zt48
  refine L_reg [0, 1, 5] (fun K hK => ?_)
  simp [AV.isU, acells]
  apply hK; clear hK K
  have hE0 : Ext H (H ++ [AObj.row (sV b) 0 0 false]) := .push _ _
  have hr : (H ++ [AObj.row (sV b) 0 0 false])[H.length]? = some (.row (sV b) 0 0 false) := by simp
  have hL : (H ++ [AObj.row (sV b) 0 0 false]).length = H.length + 1 := by simp
  generalize H ++ [AObj.row (sV b) 0 0 false] = H1 at hE0 hr hL ⊢
  refine L_reg [0, 1, 5, 7] (fun K hK => ?_)
  simp
  apply hK; clear hK K
  refine L_reg [0, 1, 5, 7, 8] (fun K hK => ?_)
  simp
  apply hK; clear hK K
  refine L_reg [1, 7, 8, 12, 13, 14] (fun K hK => ?_)
  simp [noSlice ar48, slice_arr (k := .i64) (m := n) ar48 (by decide) (by decide) hr (by simp [sV, hb]) (sV_known b) hn]
  apply hK; clear hK K
  refine L_block (L_loopV [7, 8, 14] (fun q vs H' => ∃ (i : Nat) (u w : AV), q = n - i ∧ i ≤ n ∧ vs = [u, w, .int .i64 i] ∧ Ext H1 H' ∧ OwnF H1.length H' u (sV (nub ((lbl n R b).take i))) ∧ OwnF H1.length H' w ((il (dv ((lbl n R b).take i))).map (.int .i64)) ∧ ∀ j, rowOf u = some j → rowOf w ≠ some j) _ [.slice none 0 0 0 1 false, .slice none 0 0 0 1 false, .int .i64 (0 : Nat)] rfl ⟨0, _, _, rfl, by omega, rfl, .refl _, .nil _ _, .nil _ _, fun j h => by cases h⟩ ?_)
  rintro q _ H2 ⟨i, u, w, rfl, hi, rfl, hE, hu, hw, huw⟩
  refine L_reg [1, 7, 8, 12, 13, 14, 15] (fun K hK => ?_)
  simp
  apply hK; clear hK K
  refine L_dec (i < n) (by simp) (fun hlt => ?_) (fun hge => L_exit ?_)
  · refine L_block ?_
    have hr2 := hE.row hr
    have hld : ld H2 H.length i 0 = some (.int .u8 (b[i]'(by omega) : Nat)) := by rw [ld_row hr2]; simp [sV, show i < b.length by omega]
    have hbx := hb2 _ (List.getElem_mem (show i < b.length by omega))
    have hlb := lbl_ix (b := b) (n := n) (R := R) (i := i) (by omega)
    have hnu := nub_snoc ((lbl n R b).take i) ((lbl n R b)[i]'(by omega))
    have hdv := dv_snoc ((lbl n R b).take i) ((lbl n R b)[i]'(by omega))
    rw [List.take_append_getElem] at hnu hdv
    have hnl := nub_len ((lbl n R b).take i)
    have hdl := dv_len ((lbl n R b).take i)
    have htl : ((lbl n R b).take i).length = i := by simp; omega
    rw [htl] at hnl hdl
    rw [hlb] at hnu hdv
    have hq := rem8 (b[i]'(by omega)) R
    have hxR := Nat.mod_lt (b[i]'(by omega)) hR
    clear hlb
    generalize b[i] = y at hld hbx hnu hdv hq hxR
    obtain ⟨x, hx⟩ : ∃ x, y % R = x := ⟨_, rfl⟩
    rw [hx] at hnu hdv hq hxR
    have wR : IntKind.u8.wrap (R : Int) = R := wrap_u8 ⟨by omega, by omega⟩
    have wx : IntKind.u8.wrap (x : Int) = x := wrap_u8 ⟨by omega, by omega⟩
    have hR0 : R ≠ 0 := by omega
    generalize hS : nub ((lbl n R b).take i) = S at hu hnu hdv hnl
    generalize hS2 : nub ((lbl n R b).take (i + 1)) = S2 at hnu
    generalize hD : dv ((lbl n R b).take i) = D at hw hdv hdl
    generalize hD2 : dv ((lbl n R b).take (i + 1)) = D2 at hdv
    have hxi := nub_cont hnu
    refine L_reg [1, 7, 8, 10, 12, 13, 14] (fun K hK => ?_)
    simp [hlt, hld]
    apply hK; clear hK K
    refine L_reg [1, 7, 8, 10, 12, 13, 14] (fun K hK => ?_)
    simp [wR, hR0, hq]
    apply hK; clear hK K
    refine L_reg [1, 7, 8, 10, 12, 13, 14, 25] (fun K hK => ?_)
    simp [okFn_low]
    refine uContains_q S x u (by omega) H2 (ownF_lu hu) _ ?_
    simp
    apply hK; clear hK K
    by_cases c : x ∈ S
    · refine L_false (by simp [c]) ?_
      have e2 : S2 = S := by rw [hnu]; simp [c]
      have hu2 := hu
      rw [← e2] at hu2
      have HUU := huw
      have hl2 : S2.length ≤ 1000000 := by rw [e2]; omega
      refine L_reg [1, 7, 8, 12, 13, 14] (fun K hK => ?_)
      simp [okFn_low]
      refine uIndex_q S2 x u hl2 H2 (ownF_lu hu2) _ ?_
      rw [hxi]
      obtain ⟨w', H4, happ, hw4, hE4, hk4, ⟨rw', hr1, hr2⟩, hl4⟩ := ownF_append2 hE (P := Try.prog) el22 el22 (m := 1) hw (x := .int .i64 (S.idxOf x : Nat)) rfl (by simp [il]; omega)
      rw [ilm_app, ← hdv] at hw4
      simp [happ]
      apply hK; clear hK K
      have hu4 : OwnF H1.length H4 u (sV S2) := by
        rcases hu2 with ⟨h1, rfl⟩ | ⟨r, ver, stale, h1, rfl, h3⟩
        · exact .inl ⟨h1, rfl⟩
        · exact .inr ⟨r, ver, stale, h1, rfl, by rw [hk4 r (List.getElem?_eq_some_iff.1 h3).1 (HUU r rfl)]; exact h3⟩
      refine L_reg [1, 7, 8, 12, 13, 14] (fun K hK => ?_)
      simp [wrap_i64 (a := (i : Int) + 1) (by omega)]
      apply hK; clear hK K
      refine ⟨n - (i + 1), [u, w', .int .i64 (i + 1 : Nat)], by omega, by simp, i + 1, u, w', rfl, by omega, rfl, hE4, by rw [hS2]; exact hu4, by rw [hD2]; exact hw4, fun j hj => ?_⟩
      rw [hr1]
      intro e; cases e
      rcases hr2 with hr2 | hr2
      · exact HUU _ hj hr2
      · have := (ownF_rowlt hu2 hj).2
        omega
    · refine L_true (by simp [c]) ?_
      have e2 : S2 = S ++ [x] := by rw [hnu]; simp [c]
      obtain ⟨u', H3, happU, hu3, hE3, hk3, ⟨ru, hru1, hru2⟩, hl3⟩ := ownF_append2 hE (P := Try.prog) el88 el88 (m := 1) hu (x := .int .u8 (x : Nat)) rfl (by rw [sV_len]; omega)
      refine L_reg [1, 7, 8, 10, 12, 13, 14] (fun K hK => ?_)
      simp [happU]
      apply hK; clear hK K
      have hu2 := hu3
      rw [sV_app, ← e2] at hu2
      have hw3 : OwnF H1.length H3 w ((il D).map (.int .i64)) := by
        rcases hw with ⟨h1, rfl⟩ | ⟨r, ver, stale, h1, rfl, h3⟩
        · exact .inl ⟨h1, rfl⟩
        · exact .inr ⟨r, ver, stale, h1, rfl, by rw [hk3 r (List.getElem?_eq_some_iff.1 h3).1 (fun e => huw r e rfl)]; exact h3⟩
      have HUU : ∀ j, rowOf u' = some j → rowOf w ≠ some j := by
        intro j hj hw'
        rw [hru1] at hj; cases hj
        rcases hru2 with hru2 | hru2
        · exact huw _ hru2 hw'
        · have := (ownF_rowlt hw hw').2
          omega
      have hl2 : S2.length ≤ 1000000 := by rw [e2]; simp; omega
      refine L_reg [1, 7, 8, 12, 13, 14] (fun K hK => ?_)
      simp [okFn_low]
      refine uIndex_q S2 x u' hl2 H3 (ownF_lu hu2) _ ?_
      rw [hxi]
      obtain ⟨w', H4, happ, hw4, hE4, hk4, ⟨rw', hr1, hr2⟩, hl4⟩ := ownF_append2 hE3 (P := Try.prog) el22 el22 (m := 1) hw3 (x := .int .i64 (S.idxOf x : Nat)) rfl (by simp [il]; omega)
      rw [ilm_app, ← hdv] at hw4
      simp [happ]
      apply hK; clear hK K
      have hu4 : OwnF H1.length H4 u' (sV S2) := by
        rcases hu2 with ⟨h1, rfl⟩ | ⟨r, ver, stale, h1, rfl, h3⟩
        · exact .inl ⟨h1, rfl⟩
        · exact .inr ⟨r, ver, stale, h1, rfl, by rw [hk4 r (List.getElem?_eq_some_iff.1 h3).1 (HUU r rfl)]; exact h3⟩
      refine L_reg [1, 7, 8, 12, 13, 14] (fun K hK => ?_)
      simp [wrap_i64 (a := (i : Int) + 1) (by omega)]
      apply hK; clear hK K
      refine ⟨n - (i + 1), [u', w', .int .i64 (i + 1 : Nat)], by omega, by simp, i + 1, u', w', rfl, by omega, rfl, hE4, by rw [hS2]; exact hu4, by rw [hD2]; exact hw4, fun j hj => ?_⟩
      rw [hr1]
      intro e; cases e
      rcases hr2 with hr2 | hr2
      · exact HUU _ hj hr2
      · have := (ownF_rowlt hu2 hj).2
        omega
  · have e : i = n := by omega
    subst e
    rw [List.take_of_length_le (by omega)] at hw
    refine L_reg [6] (fun K hK => ?_)
    simp
    apply hK; clear hK K
    exact L_ret ⟨.inr rfl, _, rfl, h _ _ (hw.mono (by omega)) (hE0.trans hE)⟩
end Go.Proofs.Ytjaefngmidllgaa.St
