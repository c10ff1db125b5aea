/- All blends of a size that fit. -/
import Derived.Test.YtpdcmdmhamnndaaRec2
import Derived.Test.YtpdcmdmhamnndaaGrow
namespace Go.Proofs.Ytpdcmdmhamnndaa
open Go Go.Proofs.Ytpdcmdmhamnndaa.AX

theorem zt37 : zeroT Try.prog 37 = some [.slice none 0 0 0 1 false] := by kernel_rfl
theorem sc37 : scal Try.prog 37 = true := by kernel_rfl
@[simp] theorem ld37 (H : AH) (r off ver : Nat) : loadV Try.prog 37 H (.ptr r off ver) = ld H r off ver := ld_sc (by kernel_rfl) ..
/-- What returns a row of its own, empty or not, is as good as one that makes just this row. -/
theorem AC.tidyO {f : FuncId} {args : List AV} {l : List Int} {H : AH} (h : ∀ Q : AV → AH → Prop, (∀ r ver s H', H.length ≤ r → H'[r]? = some (.row (l.map (.int .i64)) ver s false) → Ext H H' → Q (.slice (some r) 0 l.length ver 1 false) H') → AC Try.prog f args H Q) (Q : AV → AH → Prop)
    (hq : Q (.slice (some H.length) 0 l.length 0 1 false) (H ++ [.row (l.map (.int .i64)) 0 l.length false])) : AC Try.prog f args H Q := by
  refine AC_fin (h _ fun r ver stale H' hr hrow hE => ?_)
  refine ⟨⟨hE.1, fun r o hr ho => .inl (by rw [← hE.2 r hr]; exact ho)⟩, ?_⟩
  have ht : H'.take H.length = H := by
    obtain ⟨T, rfl⟩ := hE.app
    simp
  have hlm : (l.map (AV.int .i64)).length = l.length := by simp
  have h1 : belB H.length 4 (.slice (some r) 0 l.length ver 1 false) = false := by simp [belB]; omega
  have htk : (l.map (AV.int .i64)).take l.length = l.map (.int .i64) := List.take_of_length_le (by simp)
  have h2 : finSlice H.length H' (.slice (some r) 0 l.length ver 1 false) = some (.slice (some H.length) 0 l.length 0 1 false, .row (l.map (.int .i64)) 0 l.length false) := by
    simp only [finSlice, hrow, if_pos hr, Nat.mul_one, Nat.zero_add, List.drop_zero]
    rw [htk, if_pos ⟨trivial, by simp, belB_ints _ _⟩]
  have hf : finish H.length H' (.slice (some r) 0 l.length ver 1 false) = (.slice (some H.length) 0 l.length 0 1 false, H ++ [.row (l.map (.int .i64)) 0 l.length false]) := by
    unfold finish
    rw [h1]
    simp only [Bool.false_eq_true, if_false, h2, ht]
  rw [hf]; exact hq
theorem kept_q (v : AV) (l : List Int) (H : AH) (hl : l.length ≤ 1000000) (hv : Ls H v l) (Q : AV → AH → Prop) (hq : Q (.slice (some H.length) 0 l.length 0 1 false) (H ++ [.row (l.map (.int .i64)) 0 l.length false])) : AC Try.prog 73 [v] H Q :=
  AC.tidyO (fun Q h => kept_own v l H Q hl hv h) Q hq

/-- The list so far, in a cell at q; all its rows lie behind N. -/
def AllAt (N q : Nat) (H : AH) (done : List (List Int)) : Prop :=
  ∃ s va vs, H[q]? = some (.row [va] 0 s false) ∧ OwnF N H va vs ∧ vs.length = done.length ∧ ∀ i (h : i < done.length), ∃ r' ver s, N ≤ r' ∧ (∀ r0 v0, va = .slice (some r0) 0 vs.length v0 1 false → r' ≠ r0) ∧ vs[i]? = some (.slice (some r') 0 done[i].length ver 1 false) ∧ H[r']? = some (.row (done[i].map (.int .i64)) ver s false)
theorem AllAt.keep {N q : Nat} {H H' : AH} {done : List (List Int)} (h : AllAt N q H done) (hq : H'[q]? = H[q]?) (hk : ∀ j, N ≤ j → j < H.length → H'[j]? = H[j]?) : AllAt N q H' done := by
  obtain ⟨s, va, vs, h1, h2, h3, h4⟩ := h
  refine ⟨s, va, vs, hq.trans h1, ownF_keep h2 (fun j o hj ho => (hk j hj (lt_of_row ho)).trans ho), h3, fun i hi => ?_⟩
  obtain ⟨r', ver, s', g1, g2, g3, g4⟩ := h4 i hi
  exact ⟨r', ver, s', g1, g2, g3, (hk r' g1 (lt_of_row g4)).trans g4⟩
theorem AllAt.lss {N q : Nat} {H : AH} {done : List (List Int)} (h : AllAt N q H done) : ∃ va, ld H q 0 0 = some va ∧ va.one = true ∧ Lss H va done := by
  obtain ⟨s, va, vs, h1, h2, h3, h4⟩ := h
  have hone := ownF_one h2
  refine ⟨va, ?_, hone, ?_⟩
  · rw [ld_row h1]; cases va <;> first | rfl | (simp [AV.one] at hone)
  · rcases h2 with ⟨e, rfl⟩ | ⟨r, ver, stale, g1, rfl, g3⟩
    · subst e
      obtain rfl : done = [] := List.eq_nil_of_length_eq_zero (by simpa using h3.symm)
      exact .nil H
    · refine ⟨some r, 0, ver, 1, false, by rw [h3], fun i hi => ?_⟩
      obtain ⟨r', ver', s', k1, k2, k3, k4⟩ := h4 i hi
      exact ⟨r, _, rfl, rfl, by rw [ld_row g3, Nat.zero_add, k3]; rfl, Ls.row k4 false⟩
set_option maxRecDepth 100000 in
theorem fitting_ac (v : AV) (ws : List Int) (lo hi : Int) (k : Nat) (H : AH) (Q : AV → AH → Prop) (hR : recE ws lo hi = 0) (hk : k ≤ ws.length) (hv : Ls H v ws) (h : ∀ va H', Lss H' va ((roundS ws.length k).filter (fitB ws lo hi)) → va.one = true → Ext H H' → Q va H') : AC Try.prog 80 [.agg [v, .int .i64 lo, .int .i64 hi], .int .i64 k] H Q := by
  obtain ⟨hn1, hn, hw⟩ := rec_ok hR
  obtain ⟨r0, off0, ver0, sz0, full0, rfl, -⟩ := id hv
  refine L_body 22 Try.func80 rfl rfl ?_
  refine L_reg [1, 2] (fun K hK => ?_)
  simp [AV.isU, acells]
  apply hK; clear hK K
  have z0 := RecRow.new H (.slice r0 off0 ws.length ver0 sz0 full0) lo hi 0
  have zl : (H ++ [AObj.row [.slice r0 off0 ws.length ver0 sz0 full0, .int .i64 lo, .int .i64 hi] 0 0 false]).length = H.length + 1 := by simp
  have zE : Ext H (H ++ [AObj.row [.slice r0 off0 ws.length ver0 sz0 full0, .int .i64 lo, .int .i64 hi] 0 0 false]) := .push _ _
  generalize H ++ [AObj.row [.slice r0 off0 ws.length ver0 sz0 full0, .int .i64 lo, .int .i64 hi] 0 0 false] = Ha at z0 zl zE ⊢
  generalize hp : H.length = p at z0 zl ⊢
  refine L_reg [1, 2, 5] (fun K hK => ?_)
  simp [alloc_z zt37]
  apply hK; clear hK K
  obtain ⟨d0, -, -, -⟩ := (z0.ext (.push Ha [AObj.row [.slice none 0 0 0 1 false] 0 0 false])).lds
  refine L_reg [2, 5, 11] (fun K hK => ?_)
  simp [okFn_low, d0]
  refine round_ac ws.length k _ _ ?_
  simp
  apply hK; clear hK K
  obtain ⟨a1, a2, a3, a4, a5⟩ := rows3 Ha (.row [.slice none 0 0 0 1 false] 0 0 false) (.row [.int .i64 ws.length] 0 0 false) (.row [.int .i64 k] 0 0 false)
  simp only [List.append_assoc, List.cons_append, List.nil_append] at a1 a2 a3 a4 a5
  have a0 := z0.ext a5
  have a5 := zE.trans a5
  generalize Ha ++ [AObj.row [.slice none 0 0 0 1 false] 0 0 false, .row [.int .i64 ws.length] 0 0 false, .row [.int .i64 k] 0 0 false] = H1 at a0 a1 a2 a3 a4 a5 ⊢
  rw [zl] at a1 a2 a3 a4
  simp only [zl]
  refine L_block (L_range [2, 5] rfl (okFn_low (by omega) (by omega)) ?_)
  generalize hL : (⟨22, _, _, _, _⟩ : LR) = L
  have hnt : L.nt = 22 := by rw [← hL]
  have hps : L.ps = #[12] := by rw [← hL]
  have hass := congrArg LR.assign hL.symm
  have he : L.e = [(2, .ptr p 0 0), (5, .ptr (p + 1) 0 0)] := by rw [← hL]; rfl
  have hbody := congrArg LR.body hL.symm
  clear hL
  have hFl := roundS_len ws.length k
  have hFo : ∀ x ∈ roundS ws.length k, Okb ws.length x := fun x hx => okb_round hx
  have hFn := round_le2 (n := ws.length) (k := k) hn
  generalize hF : roundS ws.length k = F at *
  have hr0 : (H1 ++ [AObj.loop .ready .normal L])[H1.length]? = some (.loop .ready .normal L) := by simp
  have hlen : (H1 ++ [AObj.loop .ready .normal L]).length = p + 5 := by simp [a4]
  have hin : ∀ j, j < H1.length → (H1 ++ [AObj.loop .ready .normal L])[j]? = H1[j]? := fun j hj => List.getElem?_append_left hj
  refine round1_ac ws.length k hk hn H1.length (p + 3) (p + 2) 0 0 (fun rest H' => (∀ x ∈ rest, x ∈ F) ∧ p + 5 ≤ H'.length ∧ (∃ done, done ++ rest.filter (fitB ws lo hi) = F.filter (fitB ws lo hi) ∧ AllAt (p + 6) (p + 1) H' done) ∧
      RecRow H' p (.slice r0 off0 ws.length ver0 sz0 full0) lo hi ∧ H'[H1.length]? = some (.loop .ready .normal L) ∧ Ext H H')
    (fun _ => False) _ _ (by rw [hin _ (by omega)]; exact a3) (by rw [hin _ (by omega)]; exact a2) (by simp) ?_ ?_ ?_ ?_
  · rw [hlen]
    refine ⟨fun rest H2 H3 hsame ⟨gm, g0, ⟨done, g1, g2⟩, ⟨sr, g3⟩, g4, g5⟩ => ?_, fun l rest H2 st ⟨gm, g0, ⟨done, g1, g2⟩, g3, g4, g5⟩ hrow => ?_⟩
    · have e4 : H3[H1.length]? = _ := (hsame.2 _ (by omega) (by omega)).trans g4
      have hge := hsame.1
      exact ⟨gm, by omega, ⟨done, g1, g2.keep (hsame.2 _ (by omega) (by omega)) fun j h1 h2 => hsame.2 j (by omega) h2⟩, ⟨sr, (hsame.2 _ (by omega) (by omega)).trans g3⟩, e4, below_ext (w := p) g5 (by omega) (by omega) (fun j hj => hsame.2 j (by omega) (by omega))⟩
    · have hwl := lt_of_row hrow
      have hlF := gm l (by simp)
      have hlb : l.length = k := hFl l hlF
      have hlo := hFo l hlF
      refine AYld_mkA g4 (by rw [hps]; rfl) (by rw [hps, hnt]; simp) ?_
      rw [hnt, hps, he, hass]
      refine L_reg [2, 5, 6] (fun K hK => ?_)
      simp [psEnv]
      apply hK; clear hK K
      refine ⟨rfl, .normal, L, g4, ?_⟩
      rw [hbody]
      generalize hH2b : H2.set H1.length (.loop .busy .normal L) = H2b
      have hOff : ∀ j, j ≠ H1.length → H2b[j]? = H2[j]? := fun j hj => by rw [← hH2b, set_ne (Ne.symm hj)]
      have bp : RecRow H2b p (.slice r0 off0 ws.length ver0 sz0 full0) lo hi := by
        obtain ⟨sr, g3⟩ := g3
        exact ⟨sr, (hOff _ (by omega)).trans g3⟩
      have ball := g2.keep (H' := H2b) (hOff _ (by omega)) (fun j h1 _ => hOff j (by omega))
      have bw : H2b[p + 5]? = some (.row (l.map (.int .i64)) 0 st false) := (hOff _ (by omega)).trans hrow
      have br : H2b[H1.length]? = some (.loop .busy .normal L) := by rw [← hH2b, List.getElem?_set_self (by omega)]
      have bE : Ext H H2b := by rw [← hH2b]; exact g5.set _ (by omega)
      have bl : H2b.length = H2.length := by rw [← hH2b]; simp
      obtain ⟨-, -, -, d3⟩ := bp.lds
      have hLw : Ls H2b (.slice (some (p + 5)) 0 k 0 1 false) l := by
        have := Ls.row bw false
        rwa [hlb] at this
      refine L_block ?_
      refine L_reg [5, 6, 15] (fun K hK => ?_)
      simp [okFn_low, d3]
      refine fits_ac _ _ ws l lo hi H2b _ (fine_of hR hlo) (hv.ext bE) hLw (fun H3 hE3 => ?_)
      simp
      apply hK; clear hK K
      have hge3 := hE3.1
      have ball := ball.keep (hE3.2 _ (by omega)) (fun j _ h2 => hE3.2 j h2)
      have bw := hE3.row bw
      have br := hE3.row br
      have bp := bp.ext hE3
      have hLw := hLw.ext hE3
      have bE3 := bE.trans hE3
      by_cases hfit : fitB ws lo hi l = true
      · refine L_true (by simp [hfit]) ?_
        rw [List.filter_cons, if_pos hfit] at g1
        obtain ⟨s1, va, vs, b1, b2, b3, b4⟩ := ball
        have hdl : done.length ≤ F.length := by
          have := congrArg List.length g1
          have := List.length_filter_le (fitB ws lo hi) F
          simp at *; omega
        have hone := ownF_one b2
        have eva : ld H3 (p + 1) 0 0 = some va := by rw [ld_row b1]; cases va <;> first | rfl | (simp [AV.one] at hone)
        have hEx : Ext H3 (H3 ++ [AObj.row (l.map (.int .i64)) 0 l.length false]) := .push _ _
        obtain ⟨r, ver, s, H5, e1, e2, e3, e4, e5, e6⟩ := own_grow (P := Try.prog) (H := H3 ++ [AObj.row (l.map (.int .i64)) 0 l.length false]) (N := p + 6) (t := 37) (u := 37) (m := 1) (x := .slice (some H3.length) 0 l.length 0 1 false) el37 el37 (by simp; omega) (ownF_keep b2 fun j o _ ho => hEx.row ho) rfl (by omega)
        have hst := store_row (P := Try.prog) (u := 37) (p := 0) sc37 (x := .slice (some r) 0 (vs.length + 1) ver 1 false) (y := va) rfl (e4.row (by omega) (hEx.row b1)) (by cases va <;> first | rfl | (simp [AV.one] at hone))
        simp only [List.append_assoc, List.cons_append, List.nil_append, List.length_append, List.length_singleton] at e1
        have hl6 : p + 6 ≤ H3.length := by omega
        have hrH3 : r ≠ H3.length := by
          rcases b2 with ⟨-, hn0⟩ | ⟨r1, v1, st1, q1, hv1, q3⟩
          · have := e6 hn0; simp at this; omega
          · have := e5 r1 v1 hv1; have := lt_of_row q3; omega
        refine L_regX mixed [] (by kernel_rfl) (fun K hK => ?_)
        simp [okFn_low, eva]
        refine exX_mk (fun Q hQ => kept_q _ l H3 (by omega) hLw Q hQ) hEx ?_
        simp [e1, hst]
        apply hK; clear hK K
        have br5 := e4.row (by omega : H1.length ≠ r) (hEx.row br)
        have hge5 := e4.1
        simp only [List.length_append, List.length_singleton] at hge5
        have hlt := hE3.trans hEx
        refine ⟨.busy, .normal, L, by rw [set_ne (by omega)]; exact br5, true, rfl, ?_⟩
        simp only [if_true]
        refine ⟨⟨fun x hx => gm x (by simp [hx]), by simp; omega, ⟨done ++ [l], by simpa using g1, ?_⟩, ?_, ?_, ?_⟩, ⟨by simp; omega, fun j N0 r0 s0 h1 h2 => ?_⟩, st, ?_⟩
        · refine ⟨0, .slice (some r) 0 (vs.length + 1) ver 1 false, vs ++ [.slice (some H3.length) 0 l.length 0 1 false], ?_, .inr ⟨r, ver, s, e2, by simp, ?_⟩, by simp [b3], fun i hi => ?_⟩
          · rw [set_ne (by omega), get_set (e4.row (by omega) (hEx.row b1))]
          · rw [set_ne (by omega), set_ne (by omega)]; exact e3
          · by_cases hid : i < done.length
            · obtain ⟨r', ver', s', q1, q2, q3, q4⟩ := b4 i hid
              have hrr : r' ≠ r := by
                rcases b2 with ⟨hn0, -⟩ | ⟨r1, v1, st1, -, hv1, -⟩
                · rw [hn0] at b3; simp at b3; omega
                · rw [e5 r1 v1 hv1]; exact q2 r1 v1 hv1
              refine ⟨r', ver', s', q1, fun r2 v2 he2 => ?_, ?_, ?_⟩
              · simp only [List.length_append, List.length_singleton] at he2
                cases he2; exact hrr
              · rw [List.getElem?_append_left (by omega), q3, List.getElem_append_left hid]
              · rw [List.getElem_append_left hid, set_ne (by omega), set_ne (by omega)]
                exact e4.row hrr (hEx.row q4)
            · have : i = done.length := by simp at hi; omega
              subst this
              refine ⟨H3.length, 0, l.length, hl6, fun r2 v2 he2 => ?_, ?_, ?_⟩
              · simp only [List.length_append, List.length_singleton] at he2
                cases he2; exact Ne.symm hrH3
              · rw [List.getElem?_append_right (by omega)]; simp [b3]
              · rw [set_ne (by omega), set_ne (by omega)]
                simpa using e4.row (Ne.symm hrH3) (by simp : (H3 ++ [AObj.row (l.map (.int .i64)) 0 l.length false])[H3.length]? = some (.row (l.map (.int .i64)) 0 l.length false))
        · obtain ⟨sr, bp⟩ := bp
          refine ⟨sr, ?_⟩
          rw [set_ne (by omega), set_ne (by omega)]
          exact e4.row (by omega) (hEx.row bp)
        · rw [List.getElem?_set_self (by simp; omega)]
        · have hE5 : Ext H H5 := ⟨by have := bE3.1; omega, fun j hj => by rw [e4.2 j (by omega) (by simp; have := bE3.1; omega), (bE3.trans hEx).2 j hj]⟩
          exact (hE5.set _ (by omega)).set _ (by omega)
        · have h3 := hE3.row ((hOff j (by omega)).trans h2)
          have hjr : j ≠ r := by
            rintro rfl
            rcases b2 with ⟨-, hn0⟩ | ⟨r1, v1, st1, -, hv1, q3⟩
            · have := e6 hn0; have := lt_of_row h3; simp at *; omega
            · have := e5 r1 v1 hv1
              subst this
              rw [h3] at q3
              cases q3
              obtain ⟨r', ver', s', -, -, k3, -⟩ := b4 1 (by simp at b3; omega)
              simp at k3
          rw [set_ne (by omega), set_ne (by omega)]
          exact e4.row hjr (hEx.row h3)
        · rw [set_ne (by omega), set_ne (by omega)]
          exact e4.row (by omega) (hEx.row bw)
      · refine L_false (by simp [hfit]) ?_
        rw [List.filter_cons, if_neg hfit] at g1
        refine ⟨.busy, .normal, L, br, true, rfl, ?_⟩
        simp only [if_true]
        refine ⟨⟨fun x hx => gm x (by simp [hx]), by simp; omega, ⟨done, g1, ball.keep (by rw [set_ne (by omega)]) (fun j h1 _ => by rw [set_ne (by omega)])⟩, ?_, ?_, bE3.set _ (by omega)⟩, ⟨by simp; omega, fun j N0 r0 s0 h1 h2 => ?_⟩, st, ?_⟩
        · obtain ⟨sr, bp⟩ := bp
          exact ⟨sr, by rw [set_ne (by omega)]; exact bp⟩
        · rw [List.getElem?_set_self (by omega)]
        · rw [set_ne (by omega)]
          exact hE3.row ((hOff j (by omega)).trans h2)
        · rw [set_ne (by omega)]; exact bw
  · refine ⟨fun x hx => by rw [← hF]; exact hx, by omega, ⟨[], by rw [hF]; simp, 0, _, [], (hin _ (by omega)).trans a1, .nil _ _, rfl, fun i hi => by simp at hi⟩, a0.ext (.push _ _), hr0, a5.trans (.push _ _)⟩
  · rintro H' ⟨-, g0, ⟨done, g1, g2⟩, -, g4, g5⟩
    refine ⟨.ready, .normal, L, g4, by simp, ?_⟩
    simp only [List.filter_nil, List.append_nil] at g1
    subst g1
    obtain ⟨va, e, hone, hl⟩ := (g2.keep (H' := H'.set H1.length (.loop .exhausted .normal L)) (by rw [set_ne (by omega)]) (fun j h1 _ => by rw [set_ne (by omega)])).lss
    show AWL _ _ _ _ _ _
    refine L_reg [4] (fun K hK => ?_)
    simp [e]
    apply hK; clear hK K
    exact L_ret ⟨.inr rfl, _, rfl, h va _ hl hone (g5.set _ (by omega))⟩
  · intro H' h; exact h.elim
end Go.Proofs.Ytpdcmdmhamnndaa
