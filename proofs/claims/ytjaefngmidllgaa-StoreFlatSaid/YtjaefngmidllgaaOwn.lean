/- Gaps and owners: the public calls. -/
import Derived.Test.YtjaefngmidllgaaGapR
namespace Go.Proofs.Ytjaefngmidllgaa.St
open Go Go.Proofs.Ytjaefngmidllgaa Go.Proofs.Ytjaefngmidllgaa.AX
set_option maxRecDepth 100000
set_option linter.unusedVariables false
theorem belB_ints (N : Nat) (l : List Int) : (l.map (AV.int .i64)).all (belB N 4) = true := by
  rw [List.all_eq_true]
  intro v hv
  obtain ⟨a, -, rfl⟩ := List.mem_map.1 hv
  rfl
theorem dv_ilO (L : List Nat) : dv (il L) = dv L := by
  refine dv_congr _ _ (il_len L) fun x y hx hy => ?_
  rw [il_len] at hx hy
  rw [il_get hx, il_get hy]
  omega
/-- The last one of gaps first. -/
def shG (d : List Nat) : List Nat := (gp d).drop (d.length - 1) ++ (gp d).take (d.length - 1)
theorem shG_len {d : List Nat} : (shG d).length = d.length := by
  unfold shG
  rw [List.length_append, List.length_drop, List.length_take, gp_len]; omega
theorem shG_eq {d : List Nat} (h : 0 < d.length) : shG d = [ga (gp d) (d.length - 1)] ++ (gp d).take (d.length - 1) := by
  unfold shG
  have hl := gp_len d
  rw [List.drop_eq_getElem_cons (by omega), List.drop_of_length_le (by omega), ga_lt (by omega)]
theorem owS_eq (d : List Nat) : owS d = dv (shG d) := rfl
theorem sh_app {d : List Nat} (hd : OkD d) {H H1 : AH} {u : AV} (hE : Ext H H1) (hu : Ls H1 u (il (gp d))) : ∃ w x, (∀ k, ∃ r p ver, aIndexAddr Try.prog 22 u (.int k ((d.length : Int) - 1)) = some (.ptr r p ver) ∧ ld H1 r p ver = some (.int .i64 (ga (gp d) (d.length - 1) : Nat))) ∧
    aSlice Try.prog 22 u none (some (.int .i64 ((d.length : Int) - 1))) none = some x ∧ aAppend Try.prog (H1 ++ [.row [.int .i64 (ga (gp d) (d.length - 1) : Nat)] 0 1 false]) 22 22 (.slice (some H1.length) 0 1 0 1 false) x = some w ∧ Ls w.2 w.1 (il (shG d)) ∧ Ext H w.2 ∧ Ext H1 w.2 := by
  have hl := gp_len d
  have hp := hd.pos
  have h9 := hd.len
  have e : ((d.length - 1 : Nat) : Int) = (d.length : Int) - 1 := by omega
  obtain ⟨r, p, ver, x1, y1⟩ := il_ix hu (i := d.length - 1) (by omega)
  rw [← ga_lt (by omega)] at y1
  rw [e] at x1
  obtain ⟨x, hx1, hx2⟩ := ls_hi hu (by rw [il_len]; omega) (m := d.length - 1) (by rw [il_len]; omega)
  rw [← il_take] at hx2
  rw [e] at hx1
  have hEB : Ext H1 (H1 ++ [AObj.row [.int .i64 (ga (gp d) (d.length - 1) : Nat)] 0 1 false]) := .push _ _
  obtain ⟨v', H', happ, ho, hE'⟩ := ownF_appendL (P := Try.prog) hEB el22 el22 (v := .slice (some H1.length) 0 1 0 1 false) (l := [(ga (gp d) (d.length - 1) : Int)]) (.inr ⟨H1.length, 0, 1, Nat.le_refl _, rfl, by simp⟩) (hx2.ext hEB) (by rw [il_len, List.length_take]; simp; omega)
  refine ⟨(v', H'), x, fun k => ⟨r, p, ver, x1 k, y1⟩, hx1, happ, ?_, hE.trans hE', hE'⟩
  have : [(ga (gp d) (d.length - 1) : Int)] ++ il ((gp d).take (d.length - 1)) = il (shG d) := by rw [shG_eq hp]; simp [il]
  rw [this] at ho
  exact ownF_ls ho
theorem ownerOf_ac {d : List Nat} (hd : OkD d) (v : AV) (H : AH) (hv : Ls H v (il d)) (Q : AV → AH → Prop) (h : ∀ v' H', OwnF H.length H' v' ((il (owS d)).map (.int .i64)) → Ext H H' → Q v' H') : AC Try.prog 83 [v] H Q := by
  have h9 := hd.len
  have hp := hd.pos
  refine L_body 20 Try.func83 rfl rfl ?_
  refine L_reg [0] (fun K hK => ?_)
  simp
  apply hK; clear hK K
  refine L_reg [3] (fun K hK => ?_)
  simp [okFn_low]
  refine gapsOf_ac hd v H hv _ fun u H1 ho hE => ?_
  simp
  apply hK; clear hK K
  have hu := ownF_ls ho
  have hul := ils_len hu
  rw [gp_len] at hul
  refine L_reg [3, 4] (fun K hK => ?_)
  simp [hul, wrap_i64 (a := (d.length : Int) - 1) (by omega)]
  apply hK; clear hK K
  obtain ⟨⟨w, H2⟩, x, hx, hsl, happ, hls, hE2, hE3⟩ := sh_app hd hE hu
  obtain ⟨r, p, ver, x1, y1⟩ := hx .i64
  simp only at happ hls hE2 hE3
  have hcall := fun Q hQ => AC.tidy (P := Try.prog) (l := (il (dv (il (shG d)))).map (.int .i64)) (by intro e; have h1 := congrArg List.length e; simp only [List.length_map, il_len, dv_len, shG_len, List.length_nil] at h1; omega) (belB_ints _ _) (fun Q hQ => div60_ac (il (shG d)) w (by rw [il_len, shG_len]; omega) H2 hls Q hQ) Q hQ
  refine L_regU mixed [false, false, false, false, false, false, false, true] [2] (by kernel_rfl) (fun K hK => ?_)
  have hEB : Ext H1 (H1 ++ [AObj.row [.int .i64 (ga (gp d) (d.length - 1) : Nat)] 0 1 false]) := .push _ _
  simp [okFn_low, x1, y1, hsl, happ, hEB]
  refine exC_mk hcall ?_
  simp
  apply hK; clear hK K
  rw [dv_ilO, ← owS_eq]
  have hol : (owS d).length = d.length := by rw [owS_eq, dv_len, shG_len]
  have hf := h (.slice (some H2.length) 0 (il (owS d)).length 0 1 false) (H2 ++ [AObj.row ((il (owS d)).map (.int .i64)) 0 (il (owS d)).length false]) (.inr ⟨H2.length, 0, (il (owS d)).length, hE2.1, by simp, by simp⟩) (hE2.trans (.push _ _))
  exact L_ret ⟨.inr rfl, _, rfl, hf⟩
theorem Gaps_bad (F : Nat) (hF : F = 39 ∨ F = 40 ∨ F = 41 ∨ F = 42) (l : List Int) (v : AV) (hlen : l.length ≤ 1000000) (hc : chk l ≠ 0) (H : AH) (hv : Ls H v l) (Q : AV → AH → Prop) (h : Q (.tuple [nilS, .int .i64 (chk l)]) H) : AC Try.prog F [v] H Q := by
  rcases hF with rfl | rfl | rfl | rfl
  · refine L_body 12 Try.func39 rfl rfl ?_
    refine L_reg [0] (fun K hK => ?_)
    simp
    apply hK; clear hK K
    refine L_reg [0, 4] (fun K hK => ?_)
    simp [okFn_low]
    refine flat_bad 79 (.inl rfl) l v hlen hc _ hv _ ?_
    simp
    apply hK; clear hK K
    refine L_reg [0, 4, 8] (fun K hK => ?_)
    simp
    apply hK; clear hK K
    refine L_true (by simpa using hc) ?_
    refine L_reg [2, 3] (fun K hK => ?_)
    simp
    apply hK; clear hK K
    exact L_ret ⟨.inr rfl, _, rfl, h⟩
  · refine L_body 12 Try.func40 rfl rfl ?_
    refine L_reg [0] (fun K hK => ?_)
    simp
    apply hK; clear hK K
    refine L_reg [0, 4] (fun K hK => ?_)
    simp [okFn_low]
    refine flat_bad 81 (.inr rfl) l v hlen hc _ hv _ ?_
    simp
    apply hK; clear hK K
    refine L_reg [0, 4, 8] (fun K hK => ?_)
    simp
    apply hK; clear hK K
    refine L_true (by simpa using hc) ?_
    refine L_reg [2, 3] (fun K hK => ?_)
    simp
    apply hK; clear hK K
    exact L_ret ⟨.inr rfl, _, rfl, h⟩
  · refine L_body 12 Try.func41 rfl rfl ?_
    refine L_reg [0] (fun K hK => ?_)
    simp
    apply hK; clear hK K
    refine L_reg [0, 4] (fun K hK => ?_)
    simp [okFn_low]
    refine flat_bad 79 (.inl rfl) l v hlen hc _ hv _ ?_
    simp
    apply hK; clear hK K
    refine L_reg [0, 4, 8] (fun K hK => ?_)
    simp
    apply hK; clear hK K
    refine L_true (by simpa using hc) ?_
    refine L_reg [2, 3] (fun K hK => ?_)
    simp
    apply hK; clear hK K
    exact L_ret ⟨.inr rfl, _, rfl, h⟩
  · refine L_body 27 Try.func42 rfl rfl ?_
    refine L_reg [0] (fun K hK => ?_)
    simp
    apply hK; clear hK K
    refine L_reg [0, 4] (fun K hK => ?_)
    simp [okFn_low]
    refine flat_bad 81 (.inr rfl) l v hlen hc _ hv _ ?_
    simp
    apply hK; clear hK K
    refine L_reg [0, 4, 9] (fun K hK => ?_)
    simp
    apply hK; clear hK K
    refine L_true (by simpa using hc) ?_
    refine L_reg [2, 3] (fun K hK => ?_)
    simp
    apply hK; clear hK K
    exact L_ret ⟨.inr rfl, _, rfl, h⟩
theorem Gaps_clash (F : Nat) (hF : F = 39 ∨ F = 40 ∨ F = 41 ∨ F = 42) {d : List Nat} (hd : OkD d) (hc : crS d ≠ 0) (v : AV) (H : AH) (hv : Ls H v (il d)) (Q : AV → AH → Prop) (h : ∀ H', Ext H H' → Q (.tuple [nilS, .int .i64 13]) H') : AC Try.prog F [v] H Q := by
  rcases hF with rfl | rfl | rfl | rfl
  · refine L_body 12 Try.func39 rfl rfl ?_
    refine L_reg [0] (fun K hK => ?_)
    simp
    apply hK; clear hK K
    refine L_reg [0, 4] (fun K hK => ?_)
    simp [okFn_low]
    refine flat_ok 79 (.inl rfl) hd v H hv _ fun H1 hE => ?_
    rw [if_neg hc]
    simp
    apply hK; clear hK K
    refine L_reg [0, 4, 8] (fun K hK => ?_)
    simp
    apply hK; clear hK K
    refine L_true rfl ?_
    refine L_reg [2, 3] (fun K hK => ?_)
    simp
    apply hK; clear hK K
    exact L_ret ⟨.inr rfl, _, rfl, h _ hE⟩
  · refine L_body 12 Try.func40 rfl rfl ?_
    refine L_reg [0] (fun K hK => ?_)
    simp
    apply hK; clear hK K
    refine L_reg [0, 4] (fun K hK => ?_)
    simp [okFn_low]
    refine flat_ok 81 (.inr rfl) hd v H hv _ fun H1 hE => ?_
    rw [if_neg hc]
    simp
    apply hK; clear hK K
    refine L_reg [0, 4, 8] (fun K hK => ?_)
    simp
    apply hK; clear hK K
    refine L_true rfl ?_
    refine L_reg [2, 3] (fun K hK => ?_)
    simp
    apply hK; clear hK K
    exact L_ret ⟨.inr rfl, _, rfl, h _ hE⟩
  · refine L_body 12 Try.func41 rfl rfl ?_
    refine L_reg [0] (fun K hK => ?_)
    simp
    apply hK; clear hK K
    refine L_reg [0, 4] (fun K hK => ?_)
    simp [okFn_low]
    refine flat_ok 79 (.inl rfl) hd v H hv _ fun H1 hE => ?_
    rw [if_neg hc]
    simp
    apply hK; clear hK K
    refine L_reg [0, 4, 8] (fun K hK => ?_)
    simp
    apply hK; clear hK K
    refine L_true rfl ?_
    refine L_reg [2, 3] (fun K hK => ?_)
    simp
    apply hK; clear hK K
    exact L_ret ⟨.inr rfl, _, rfl, h _ hE⟩
  · refine L_body 27 Try.func42 rfl rfl ?_
    refine L_reg [0] (fun K hK => ?_)
    simp
    apply hK; clear hK K
    refine L_reg [0, 4] (fun K hK => ?_)
    simp [okFn_low]
    refine flat_ok 81 (.inr rfl) hd v H hv _ fun H1 hE => ?_
    rw [if_neg hc]
    simp
    apply hK; clear hK K
    refine L_reg [0, 4, 9] (fun K hK => ?_)
    simp
    apply hK; clear hK K
    refine L_true rfl ?_
    refine L_reg [2, 3] (fun K hK => ?_)
    simp
    apply hK; clear hK K
    exact L_ret ⟨.inr rfl, _, rfl, h _ hE⟩
theorem Gaps_ok (F : Nat) (hF : F = 39 ∨ F = 40) {d : List Nat} (hd : OkD d) (hc : crS d = 0) (v : AV) (H : AH) (hv : Ls H v (il d)) (Q : AV → AH → Prop) (h : ∀ v' H', OwnF H.length H' v' ((il (gp d)).map (.int .i64)) → Ext H H' → Q (.tuple [v', .int .i64 0]) H') : AC Try.prog F [v] H Q := by
  rcases hF with rfl | rfl
  · refine L_body 12 Try.func39 rfl rfl ?_
    refine L_reg [0] (fun K hK => ?_)
    simp
    apply hK; clear hK K
    refine L_reg [0, 4] (fun K hK => ?_)
    simp [okFn_low]
    refine flat_ok 79 (.inl rfl) hd v H hv _ fun H1 hE => ?_
    rw [if_pos hc]
    simp
    apply hK; clear hK K
    refine L_reg [0, 4, 8] (fun K hK => ?_)
    simp
    apply hK; clear hK K
    refine L_false rfl ?_
    refine L_reg [2, 3] (fun K hK => ?_)
    simp [okFn_low]
    refine gapsOf_ac hd v H1 (hv.ext hE) _ fun u H2 ho hE2 => ?_
    simp
    apply hK; clear hK K
    exact L_ret ⟨.inr rfl, _, rfl, h u H2 (ho.mono hE.1) (hE.trans hE2)⟩
  · refine L_body 12 Try.func40 rfl rfl ?_
    refine L_reg [0] (fun K hK => ?_)
    simp
    apply hK; clear hK K
    refine L_reg [0, 4] (fun K hK => ?_)
    simp [okFn_low]
    refine flat_ok 81 (.inr rfl) hd v H hv _ fun H1 hE => ?_
    rw [if_pos hc]
    simp
    apply hK; clear hK K
    refine L_reg [0, 4, 8] (fun K hK => ?_)
    simp
    apply hK; clear hK K
    refine L_false rfl ?_
    refine L_reg [2, 3] (fun K hK => ?_)
    simp [okFn_low]
    refine gapsR_ac hd v H1 (hv.ext hE) _ fun u H2 ho hE2 => ?_
    simp
    apply hK; clear hK K
    exact L_ret ⟨.inr rfl, _, rfl, h u H2 (ho.mono hE.1) (hE.trans hE2)⟩
theorem Back_ok (F : Nat) (hF : F = 41 ∨ F = 42) {d : List Nat} (hd : OkD d) (hc : crS d = 0) (v : AV) (H : AH) (hv : Ls H v (il d)) (Q : AV → AH → Prop) (h : ∀ v' H', OwnF H.length H' v' ((il (owS d)).map (.int .i64)) → Ext H H' → Q (.tuple [v', .int .i64 0]) H') : AC Try.prog F [v] H Q := by
  have h9 := hd.len
  have hp := hd.pos
  rcases hF with rfl | rfl
  · refine L_body 12 Try.func41 rfl rfl ?_
    refine L_reg [0] (fun K hK => ?_)
    simp
    apply hK; clear hK K
    refine L_reg [0, 4] (fun K hK => ?_)
    simp [okFn_low]
    refine flat_ok 79 (.inl rfl) hd v H hv _ fun H1 hE => ?_
    rw [if_pos hc]
    simp
    apply hK; clear hK K
    refine L_reg [0, 4, 8] (fun K hK => ?_)
    simp
    apply hK; clear hK K
    refine L_false rfl ?_
    refine L_reg [2, 3] (fun K hK => ?_)
    simp [okFn_low]
    refine ownerOf_ac hd v H1 (hv.ext hE) _ fun u H2 ho hE2 => ?_
    simp
    apply hK; clear hK K
    exact L_ret ⟨.inr rfl, _, rfl, h u H2 (ho.mono hE.1) (hE.trans hE2)⟩
  · refine L_body 27 Try.func42 rfl rfl ?_
    refine L_reg [0] (fun K hK => ?_)
    simp
    apply hK; clear hK K
    refine L_reg [0, 4] (fun K hK => ?_)
    simp [okFn_low]
    refine flat_ok 81 (.inr rfl) hd v H hv _ fun H1 hE => ?_
    rw [if_pos hc]
    simp
    apply hK; clear hK K
    refine L_reg [0, 4, 9] (fun K hK => ?_)
    simp
    apply hK; clear hK K
    refine L_false rfl ?_
    refine L_reg [5] (fun K hK => ?_)
    simp [okFn_low]
    refine gapsR_ac hd v H1 (hv.ext hE) _ fun u H2 ho hE2 => ?_
    simp
    apply hK; clear hK K
    have hu := ownF_ls ho
    have hul := ils_len hu
    rw [gp_len] at hul
    obtain ⟨⟨w, H3⟩, x, hx, hsl, happ, hls, hE4, hE5⟩ := sh_app hd (hE.trans hE2) hu
    obtain ⟨r, p, ver, x1, y1⟩ := hx .i64
    simp only at happ hls hE4 hE5
    have hcall := fun Q hQ => AC.tidy (P := Try.prog) (l := (il (dv (il (shG d)))).map (.int .i64)) (by intro e; have h1 := congrArg List.length e; simp only [List.length_map, il_len, dv_len, shG_len, List.length_nil] at h1; omega) (belB_ints _ _) (fun Q hQ => of_ac (il (shG d)) w (by rw [il_len, shG_len]; omega) H3 hls Q hQ) Q hQ
    refine L_regU mixed [false, false, false, false, false, false, false, false, false, false, false, true] [2, 3] (by kernel_rfl) (fun K hK => ?_)
    simp [okFn_low, hul, wrap_i64 (a := (d.length : Int) - 1) (by omega), x1, y1, hsl, happ, show Ext H2 (H2 ++ [AObj.row [.int .i64 (ga (gp d) (d.length - 1) : Nat)] 0 1 false]) from .push _ _]
    refine ⟨fun _ => .refl _, exC_mk hcall ?_⟩
    simp
    apply hK; clear hK K
    rw [dv_ilO, ← owS_eq]
    have hf := h (.slice (some H3.length) 0 (il (owS d)).length 0 1 false) (H3 ++ [AObj.row ((il (owS d)).map (.int .i64)) 0 (il (owS d)).length false]) (.inr ⟨H3.length, 0, (il (owS d)).length, hE4.1, by simp, by simp⟩) (hE4.trans (.push _ _))
    exact L_ret ⟨.inr rfl, _, rfl, hf⟩
end Go.Proofs.Ytjaefngmidllgaa.St
