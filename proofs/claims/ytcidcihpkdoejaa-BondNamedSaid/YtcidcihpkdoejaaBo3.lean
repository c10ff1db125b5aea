/- Who opens, and the smallest groups that are so. -/
import Derived.Test.YtcidcihpkdoejaaBo2
namespace Go.Proofs.Ytcidcihpkdoejaa.Bo
open Go Go.Proofs.Ytcidcihpkdoejaa Go.Proofs.Ytcidcihpkdoejaa.AX
set_option maxRecDepth 100000

theorem op_tmp (P : Program) (ρ : Operand → AV) (t : Tmp) (xs : Array Operand) (ts : Array TypeId) : opCall P ρ (.call ⟨.value (.tmp t), xs, ts⟩) = (match ρ (.tmp t) with | .func (.func f) first cap => if okFn P f then some (f, first ++ xs.toList.map ρ ++ cap) else none | _ => none) := rfl
theorem ownF_ln {N : Nat} {H : AH} {v : AV} {l : List AV} (h : OwnF N H v l) : aLen Try.prog 22 v = some (.int .i64 l.length) := by
  obtain ⟨r, ver, rfl⟩ := h.len
  exact len22 ..
theorem opens_q {n : Nat} {l : List Nat} (hr : OkR n l) (g : Nat) (hg : g < 64) (s : AV) (H : AH) (hs : Ls H s (il l)) (Q : AV → AH → Prop) (h : Q (.bool (meets l g)) H) : AC Try.prog 76 [cA n s, .int .i64 g] H Q := by
  refine AC.quiet (belB_bool _ _ _) (fun Q h => ?_) Q h
  refine L_body 10 Try.func76 rfl rfl ?_
  have hk := ls_known hs
  have hlen := hr.len
  refine L_reg [1, 2] (fun K hK => ?_)
  simp [cA, AV.isU, acells]
  apply hK; clear hK K
  have h1 : (H ++ [AObj.row [.int .i64 n, s] 0 0 false])[H.length]? = some (.row [.int .i64 n, s] 0 0 false) := by simp
  have hE : Ext H (H ++ [AObj.row [.int .i64 n, s] 0 0 false]) := .push _ _
  generalize H ++ [AObj.row [.int .i64 n, s] 0 0 false] = H1 at h1 hE ⊢
  have a2 := ldn_c h1 hk
  refine L_reg [4] (fun K hK => ?_)
  simp [okFn_low, a2]
  refine lacks_ac hr g hg s _ (hs.ext hE) _ fun v H2 ho hE2 => ?_
  have hln := ownF_ln ho
  simp [hln]
  apply hK; clear hK K
  refine L_ret ⟨.inr rfl, _, rfl, ?_⟩
  have e : (((lackS 0 l g).length : Int) == 0) = meets l g := by
    rw [Bool.eq_iff_iff, beq_iff_eq, ← lack_nil l 0 g, ← List.length_eq_zero_iff]; omega
  simp only [il_len, e]
  exact h _ (hE.trans hE2)
theorem nats_snoc (L : List Nat) (x : Nat) : (il (L ++ [x])).map (AV.int .i64) = (il L).map (.int .i64) ++ [.int .i64 (x : Int)] := by simp [il]
/-- A list of its own that is nil where it is empty. -/
def OwnN (N : Nat) (H : AH) (v : AV) (l : List Int) : Prop := (l = [] → v = .slice none 0 0 0 1 false) ∧ OwnF N H v (l.map (.int .i64))
def chV (H : AH) (l : List Int) : AV := if l = [] then .slice none 0 0 0 1 false else .slice (some H.length) 0 l.length 0 1 false
def chH (H : AH) (l : List Int) : AH := if l = [] then H else H ++ [.row (l.map (.int .i64)) 0 l.length false]
theorem chE (H : AH) (l : List Int) : Ext H (chH H l) := by
  unfold chH; split
  · exact .refl H
  · exact .push _ _
theorem chO (H : AH) (l : List Int) : OwnF H.length (chH H l) (chV H l) (l.map (.int .i64)) := by
  unfold chH chV; split
  · rename_i h; subst h; exact OwnF.nil _ _
  · exact .inr ⟨H.length, 0, l.length, Nat.le_refl _, by simp, by simp⟩
theorem belB_ints (N : Nat) (l : List Int) : (l.map (AV.int .i64)).all (belB N 4) = true := by
  simp only [List.all_eq_true]
  intro v hv
  obtain ⟨x, -, rfl⟩ := List.mem_map.1 hv
  exact belB_int _ _ _ _
theorem AC.tidyN {f : FuncId} {args : List AV} {l : List Int} {H : AH} (h : ∀ Q : AV → AH → Prop, (∀ v' H', OwnN H.length H' v' l → Ext H H' → Q v' H') → AC Try.prog f args H Q) (Q : AV → AH → Prop) (hq : Q (chV H l) (chH H l)) : AC Try.prog f args H Q := by
  by_cases hl : l = []
  · subst hl
    refine AC.quiet (v := .slice none 0 0 0 1 false) rfl (fun Q h2 => h Q fun v' H' hO hE => ?_) Q (by simpa [chV, chH] using hq)
    rw [hO.1 rfl]; exact h2 H' hE
  · refine AC.tidy (l := l.map (.int .i64)) (by simpa using hl) (belB_ints _ _) (fun Q h2 => h Q fun v' H' hO hE => h2 v' H' hO.2 hE) Q ?_
    simpa [chV, chH, hl] using hq
theorem smallest_ac {n : Nat} (hn : n ≤ 6) (f : FuncId) (first cap : List AV) (so : Nat → Bool) (s : AV) (hfo : okFn Try.prog f = true) (H : AH) (hk : known (some s) = some s) (hso : ∀ g, g < 2 ^ n → ∀ H', Ext H H' → ∀ Q : AV → AH → Prop, Q (.bool (so g)) H' → AC Try.prog f (first ++ .int .i64 (g : Int) :: cap) H' Q)
    (Q : AV → AH → Prop) (h : ∀ v H', OwnN H.length H' v (il (leastS (2 ^ n) so)) → Ext H H' → Q v H') : AC Try.prog 68 [cA n s, .func (.func f) first cap] H Q := by
  refine L_body 28 Try.func68 rfl rfl ?_
  have h64 := pw64 hn
  have hp := pw n
  refine L_reg [1, 2] (fun K hK => ?_)
  simp [cA, AV.isU, acells]
  apply hK; clear hK K
  have h1 : (H ++ [AObj.row [.int .i64 n, s] 0 0 false])[H.length]? = some (.row [.int .i64 n, s] 0 0 false) := by simp
  have hE : Ext H (H ++ [AObj.row [.int .i64 n, s] 0 0 false]) := .push _ _
  generalize H ++ [AObj.row [.int .i64 n, s] 0 0 false] = H1 at h1 hE ⊢
  have a2 := ldn_c h1 hk
  refine L_reg [1, 2, 5] (fun K hK => ?_)
  simp
  apply hK; clear hK K
  refine L_reg [1, 5, 9, 10] (fun K hK => ?_)
  simp [okFn_low, a2]
  refine everybody_q hn s hk _ _ ?_
  simp [wrap_i64 (a := ((2 ^ n - 1 : Nat) : Int) + 1) (by omega)]
  apply hK; clear hK K
  have e0 : ((2 ^ n - 1 : Nat) : Int) + 1 = ((2 ^ n : Nat) : Int) := by omega
  rw [e0]
  obtain ⟨N, hN⟩ : ∃ N, 2 ^ n = N := ⟨_, rfl⟩
  rw [hN] at h hso h64 hp ⊢
  refine L_block (L_loopV [5, 10] (fun q vs H' => ∃ (i : Nat) (v : AV), q = N - i ∧ i ≤ N ∧ vs = [v, .int .i64 i] ∧ Ext H H' ∧ OwnN H.length H' v (il ((List.range i).filter (lst N so)))) _ [.slice none 0 0 0 1 false, .int .i64 (0 : Nat)] rfl ⟨0, _, rfl, by omega, rfl, hE, fun _ => rfl, OwnF.nil _ _⟩ ?_)
  clear h1 hE a2 H1
  rintro q _ H1 ⟨i, v, rfl, hi, rfl, hE, ho⟩
  refine L_reg [1, 5, 9, 10, 11] (fun K hK => ?_)
  simp
  apply hK; clear hK K
  refine L_dec (i < N) (by simp) (fun hlt => ?_) (fun hge => L_exit ?_)
  · refine L_block ?_
    refine L_reg [1, 5, 6, 9, 10] (fun K hK => ?_)
    simp
    apply hK; clear hK K
    have hls := ownF_ls ho.2
    have hfl := filter_len (N := i) (lst N so)
    have hok : okG 64 ((List.range i).filter (lst N so)) := fun o hoo => by
      have := List.mem_range.1 (List.mem_filter.1 hoo).1; omega
    have hst := step_least (so := so) hlt
    have hnx := range_next N so i
    refine L_reg [1, 5, 6, 9, 10, 21] (fun K hK => ?_)
    simp [hfo]
    refine hso i hlt _ hE _ ?_
    suffices hgo : K [(1, .func (.func f) first cap), (5, v), (6, .int .i64 i), (9, .int .i64 N), (10, .int .i64 i), (21, .bool (lst N so i))] H1 by
      cases hb : so i with
      | false =>
        rw [hb, Bool.false_and] at hst
        rw [← hst] at hgo
        simp [pickV]
        exact hgo
      | true =>
        rw [hb, Bool.true_and] at hst
        simp [okFn_low]
        refine oneLies_q _ v i (by omega) hok (by omega) _ hls _ ?_
        rw [← hst] at hgo
        simp [pickV]
        exact hgo
    apply hK; clear hK K
    cases hl : lst N so i with
    | true =>
      refine L_true (by simp) ?_
      obtain ⟨v', H2, happ, ho2, hE2⟩ := ownF_append (P := Try.prog) (m := 1) (x := .int .i64 i) hE el22 el22 ho.2 rfl (by simp [il_len]; omega)
      refine L_reg [1, 5, 9, 10] (fun K hK => ?_)
      simp [happ]
      apply hK; clear hK K
      refine L_reg [1, 5, 9, 10] (fun K hK => ?_)
      simp [wrap_i64 (a := (i : Int) + 1) (by omega)]
      apply hK; clear hK K
      refine ⟨N - (i + 1), [v', .int .i64 (i + 1 : Nat)], by omega, by simp, i + 1, v', rfl, by omega, rfl, hE2, ?_⟩
      rw [hnx, hl, if_pos rfl]
      exact ⟨fun h0 => by simp [il] at h0, by rw [nats_snoc]; exact ho2⟩
    | false =>
      refine L_false (by simp) ?_
      refine L_reg [1, 5, 9, 10] (fun K hK => ?_)
      simp [wrap_i64 (a := (i : Int) + 1) (by omega)]
      apply hK; clear hK K
      refine ⟨N - (i + 1), [v, .int .i64 (i + 1 : Nat)], by omega, by simp, i + 1, v, rfl, by omega, rfl, hE, ?_⟩
      rw [hnx, hl, if_neg (by simp), List.append_nil]
      exact ho
  · have e : i = N := by omega
    subst e
    refine L_reg [4] (fun K hK => ?_)
    simp
    apply hK; clear hK K
    exact L_ret ⟨.inr rfl, _, rfl, h _ _ ho hE⟩
end Go.Proofs.Ytcidcihpkdoejaa.Bo
