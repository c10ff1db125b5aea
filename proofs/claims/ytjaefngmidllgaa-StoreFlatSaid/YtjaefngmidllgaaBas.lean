/- Lists of ints in memory: what is read of them. -/
import Derived.Test.YtjaefngmidllgaaRev
import Derived.Test.YtjaefngmidllgaaStM2
namespace Go.Proofs.Ytjaefngmidllgaa.St
open Go Go.Proofs.Ytjaefngmidllgaa Go.Proofs.Ytjaefngmidllgaa.AX
set_option maxRecDepth 100000
set_option linter.unusedVariables false
theorem ls_ix {H : AH} {v : AV} {l : List Int} (h : Ls H v l) {i : Nat} (hi : i < l.length) : ∃ r p ver, (∀ k, aIndexAddr Try.prog 22 v (.int k (i : Int)) = some (.ptr r p ver)) ∧ ld H r p ver = some (.int .i64 l[i]) := by
  obtain ⟨r, off, ver, sz, full, rfl, hld⟩ := h
  obtain ⟨r', rfl, rfl, h3⟩ := hld i hi
  refine ⟨r', off + i, ver, fun k => ?_, by rw [h3]⟩
  rw [ixa22]
  simp
  omega
theorem ownF_ls {N : Nat} {H : AH} {v : AV} {l : List Int} (h : OwnF N H v (l.map (.int .i64))) : Ls H v l := by
  rcases h with ⟨h1, rfl⟩ | ⟨r, ver, stale, h1, rfl, h3⟩
  · obtain rfl : l = [] := by simpa using h1
    exact Ls.nil H
  · have := Ls.row h3 false
    simpa using this
theorem il_ix {H : AH} {v : AV} {l : List Nat} (h : Ls H v (il l)) {i : Nat} (hi : i < l.length) : ∃ r p ver, (∀ k, aIndexAddr Try.prog 22 v (.int k (i : Int)) = some (.ptr r p ver)) ∧ ld H r p ver = some (.int .i64 (l[i] : Nat)) := by
  obtain ⟨r, p, ver, h1, h2⟩ := ls_ix h (i := i) (by rw [il_len]; exact hi)
  exact ⟨r, p, ver, h1, by rw [h2, il_get hi]⟩
theorem ls_known {H : AH} {s : AV} {l : List Int} (h : Ls H s l) : known (some s) = some s := by
  obtain ⟨r, off, ver, sz, full, rfl, -⟩ := h.sub
  rfl
theorem ls_one {H : AH} {s : AV} {l : List Int} (h : Ls H s l) : s.one = true := by
  obtain ⟨r, off, ver, sz, full, rfl, -⟩ := h
  rfl
theorem ownF_new (H : AH) : OwnF H.length (H ++ [.row [] 0 0 false]) (.slice (some H.length) 0 0 0 1 false) (([] : List Int).map (.int .i64)) := .inr ⟨H.length, 0, 0, Nat.le_refl _, rfl, by simp⟩
theorem copy_append {P : Program} {H : AH} {t u : TypeId} (ht : elT P t = true) (hu : elT P u = true) {x : AV} {m : List Int} (hx : Ls H x m) (hm : m.length ≤ 16777216) :
    ∃ v' H', aAppend P (H ++ [.row [] 0 0 false]) t u (.slice (some H.length) 0 0 0 1 false) x = some (v', H') ∧ OwnF H.length H' v' (m.map (.int .i64)) ∧ Ext H H' := by
  have := ownF_appendL (H0 := H) (.push H [.row [] 0 0 false]) ht hu (ownF_new H) (hx.ext (.push _ _)) (l := []) (by simpa using hm)
  simpa using this
theorem eq_nil {l : Bool} (r : Option Nat) (off n ver sz : Nat) (full : Bool) : binV Try.prog .eql 22 l (.slice r off n ver sz full) (.slice none 0 0 0 1 false) = some (.bool r.isNone) := by
  simp [binV, aBin, aCmp]
theorem Clone_ac (v : AV) (l : List Int) (H : AH) (Q : AV → AH → Prop) (hlen : l.length ≤ 1000000) (hv : Ls H v l) (h : ∀ v' H', OwnF H.length H' v' (l.map (.int .i64)) → Ext H H' → Q v' H') : AC Try.prog 54 [v] H Q := by
  obtain ⟨r0, off0, ver0, sz0, full0, hv0, hld⟩ := id hv
  refine L_body 8 Try.func54 rfl rfl ?_
  refine L_reg [0] (fun K hK => ?_)
  simp
  apply hK; clear hK K
  cases r0 with
  | none =>
    have hl0 : l = [] := by
      cases l with
      | nil => rfl
      | cons a l => obtain ⟨r', e, -⟩ := hld 0 (by simp); cases e
    refine L_reg [0, 4] (fun K hK => ?_)
    simp [hv0, eq_nil]
    apply hK; clear hK K
    refine L_true rfl ?_
    refine L_reg [2] (fun K hK => ?_)
    simp
    apply hK; clear hK K
    subst hl0
    exact L_ret ⟨.inr rfl, _, rfl, h _ _ (.nil _ _) (.refl _)⟩
  | some r0 =>
    obtain ⟨v', H', happ, hO, hE⟩ := copy_append (P := Try.prog) el22 el22 hv (by omega)
    rw [hv0] at happ
    refine L_reg [0, 4] (fun K hK => ?_)
    simp [hv0, eq_nil]
    apply hK; clear hK K
    refine L_false rfl ?_
    refine L_reg [2] (fun K hK => ?_)
    simp [happ]
    apply hK; clear hK K
    exact L_ret ⟨.inr rfl, _, rfl, h v' H' hO hE⟩
theorem ls_len {H : AH} {v : AV} {l : List Int} (h : Ls H v l) : aLen Try.prog 22 v = some (.int .i64 l.length) := Go.Proofs.Ytjaefngmidllgaa.ls_len h
theorem ils_len {H : AH} {v : AV} {d : List Nat} (h : Ls H v (il d)) : aLen Try.prog 22 v = some (.int .i64 (d.length : Nat)) := by have := ls_len h; rw [il_len] at this; exact this
theorem Equal_q (a b : List Int) (s u : AV) (ha : a.length ≤ 1000000) (H : AH) (hs : Ls H s a) (hu : Ls H u b) (Q : AV → AH → Prop) (h : Q (.bool (decide (a = b))) H) : AC Try.prog 70 [s, u] H Q := by
  refine L_body 26 Try.func70 rfl rfl ?_
  have h1 := ls_len hs
  have h2 := ls_len hu
  refine L_reg [0, 1] (fun K hK => ?_)
  simp
  apply hK; clear hK K
  refine L_reg [0, 1, 10] (fun K hK => ?_)
  simp [h1, h2]
  apply hK; clear hK K
  by_cases hl : a.length = b.length
  · refine L_false (by simp [hl]) ?_
    refine L_reg [0, 1, 12, 13] (fun K hK => ?_)
    simp [h1]
    apply hK; clear hK K
    refine L_block (L_loopV [13] (fun q vs H' => ∃ i : Nat, q = a.length - i ∧ i ≤ a.length ∧ vs = [.int .i64 i] ∧ H = H' ∧ (a = b ↔ a.drop i = b.drop i)) _ [.int .i64 (0 : Nat)] rfl ⟨0, rfl, by omega, rfl, rfl, by simp⟩ ?_)
    rintro q _ _ ⟨i, rfl, hi, rfl, rfl, hc⟩
    refine L_reg [0, 1, 12, 13, 14] (fun K hK => ?_)
    simp
    apply hK; clear hK K
    refine L_dec (i < a.length) (by simp) (fun hlt => ?_) (fun hge => L_exit ?_)
    · refine L_block ?_
      obtain ⟨r1, p1, v1, x1, y1⟩ := ls_ix hs hlt
      have hlb : i < b.length := by omega
      obtain ⟨r2, p2, v2, x2, y2⟩ := ls_ix hu hlb
      rw [List.drop_eq_getElem_cons hlt, List.drop_eq_getElem_cons hlb, List.cons.injEq] at hc
      generalize a[i] = x at y1 hc
      generalize b[i] = y at y2 hc
      refine L_reg [0, 1, 5, 12, 13] (fun K hK => ?_)
      simp
      apply hK; clear hK K
      refine L_regT mixed [0, 1, 12, 13, 24] (by kernel_rfl) (fun K hK => ?_)
      simp [x1, y1, x2, y2]
      apply hK; clear hK K
      by_cases e : x = y
      · refine L_false (by simp [e]) ?_
        refine L_reg [0, 1, 12, 13] (fun K hK => ?_)
        simp [wrap_i64 (a := (i : Int) + 1) (by omega)]
        apply hK; clear hK K
        exact ⟨a.length - (i + 1), [.int .i64 (i + 1 : Nat)], by omega, by simp, i + 1, rfl, by omega, rfl, rfl, by rw [hc]; simp [e]⟩
      · refine L_true (by simp [e]) ?_
        refine L_reg [4] (fun K hK => ?_)
        simp
        apply hK; clear hK K
        have e2 : decide (a = b) = false := by rw [decide_eq_false_iff_not, hc]; simp [e]
        exact L_ret ⟨.inr rfl, _, rfl, (by rw [e2] at h; exact h)⟩
    · have e : i = a.length := by omega
      subst e
      rw [List.drop_length, hl, List.drop_length] at hc
      have e2 : decide (a = b) = true := by rw [decide_eq_true_eq, hc]
      refine L_reg [4] (fun K hK => ?_)
      simp
      apply hK; clear hK K
      exact L_ret ⟨.inr rfl, _, rfl, (by rw [e2] at h; exact h)⟩
  · refine L_true (by simp; omega) ?_
    have e2 : decide (a = b) = false := by rw [decide_eq_false_iff_not]; intro e; rw [e] at hl; exact hl rfl
    refine L_reg [4] (fun K hK => ?_)
    simp
    apply hK; clear hK K
    exact L_ret ⟨.inr rfl, _, rfl, (by rw [e2] at h; exact h)⟩
/-- The first place of a number, or -1. -/
def ixI (l : List Int) (x : Int) : Int := if x ∈ l then (l.idxOf x : Int) else -1
theorem ixI_cons (y : Int) (l : List Int) (x : Int) (hne : x ≠ y) (k : Int) : (if ixI (y :: l) x = -1 then -1 else ixI (y :: l) x + k) = if ixI l x = -1 then -1 else ixI l x + (k + 1) := by
  unfold ixI
  have e : (y == x) = false := beq_eq_false_iff_ne.2 (fun h => hne h.symm)
  by_cases c : x ∈ l
  · simp only [List.mem_cons, hne, c, or_true, if_true, List.idxOf_cons, e]
    simp
    try rw [if_neg (by omega), if_neg (by omega)]
    omega
  · simp [hne, c]
theorem Index_q (l : List Int) (x : Int) (s : AV) (hlen : l.length ≤ 1000000) (H : AH) (hs : Ls H s l) (Q : AV → AH → Prop) (h : Q (.int .i64 (ixI l x)) H) : AC Try.prog 74 [s, .int .i64 x] H Q := by
  refine L_body 19 Try.func74 rfl rfl ?_
  have h1 := ls_len hs
  refine L_reg [0, 1] (fun K hK => ?_)
  simp
  apply hK; clear hK K
  refine L_reg [0, 1, 7, 8] (fun K hK => ?_)
  simp [h1]
  apply hK; clear hK K
  refine L_block (L_loopV [8] (fun q vs H' => ∃ i : Nat, q = l.length - i ∧ i ≤ l.length ∧ vs = [.int .i64 i] ∧ H = H' ∧ ixI l x = if ixI (l.drop i) x = -1 then -1 else ixI (l.drop i) x + i) _ [.int .i64 (0 : Nat)] rfl ⟨0, rfl, by omega, rfl, rfl, by rw [List.drop_zero]; split <;> simp_all⟩ ?_)
  rintro q _ _ ⟨i, rfl, hi, rfl, rfl, hc⟩
  refine L_reg [0, 1, 7, 8, 9] (fun K hK => ?_)
  simp
  apply hK; clear hK K
  refine L_dec (i < l.length) (by simp) (fun hlt => ?_) (fun hge => L_exit ?_)
  · refine L_block ?_
    obtain ⟨r1, p1, v1, x1, y1⟩ := ls_ix hs hlt
    rw [List.drop_eq_getElem_cons hlt] at hc
    generalize l[i] = y at y1 hc
    refine L_reg [0, 1, 5, 7, 8] (fun K hK => ?_)
    simp
    apply hK; clear hK K
    refine L_reg [0, 1, 5, 7, 8, 16] (fun K hK => ?_)
    simp [x1, y1]
    apply hK; clear hK K
    by_cases e : x = y
    · subst e
      refine L_true (by simp) ?_
      refine L_reg [4] (fun K hK => ?_)
      simp
      apply hK; clear hK K
      have e2 : ixI (x :: l.drop (i + 1)) x = 0 := by unfold ixI; simp
      rw [e2] at hc
      rw [hc] at h
      exact L_ret ⟨.inr rfl, _, rfl, (by simpa using h)⟩
    · refine L_false (by simp [e]) ?_
      refine L_reg [0, 1, 7, 8] (fun K hK => ?_)
      simp [wrap_i64 (a := (i : Int) + 1) (by omega)]
      apply hK; clear hK K
      exact ⟨l.length - (i + 1), [.int .i64 (i + 1 : Nat)], by omega, by simp, i + 1, rfl, by omega, rfl, rfl, by rw [hc, ixI_cons y _ x e]; simp⟩
  · have e : i = l.length := by omega
    subst e
    rw [List.drop_length] at hc
    have e2 : ixI [] x = -1 := by unfold ixI; simp
    rw [e2] at hc
    rw [hc] at h
    refine L_reg [4] (fun K hK => ?_)
    simp
    apply hK; clear hK K
    exact L_ret ⟨.inr rfl, _, rfl, (by simpa using h)⟩
end Go.Proofs.Ytjaefngmidllgaa.St
