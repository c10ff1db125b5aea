/- A rule or a plan is checked; who may open, who opens, and which locks a group lacks. -/
import Derived.Test.YtcidcihpkdoejaaBo1
namespace Go.Proofs.Ytcidcihpkdoejaa.Bo
open Go Go.Proofs.Ytcidcihpkdoejaa Go.Proofs.Ytcidcihpkdoejaa.AX
set_option maxRecDepth 100000

/-- The error of a rule or a plan. -/
def chk (n : Int) (l : List Int) : Int := if n < 1 ∨ 6 < n then 1 else if 64 < l.length then 3 else if l.all (fun x => decide (0 ≤ x ∧ x < ((2 ^ n.toNat : Nat) : Int))) then 0 else 2
theorem chk_big {n : Int} {l : List Int} (h : n < 1 ∨ 6 < n) : chk n l = 1 := by unfold chk; rw [if_pos h]
/-- A rule or a plan that is right. -/
structure OkR (n : Nat) (l : List Nat) : Prop where
  n1 : 1 ≤ n
  n6 : n ≤ 6
  len : l.length ≤ 64
  ok : okG (2 ^ n) l
theorem OkR.ok64 {n : Nat} {l : List Nat} (h : OkR n l) : okG 64 l := fun o ho => Nat.lt_of_lt_of_le (h.ok o ho) (pw64 h.n6)
theorem chk_ok {n : Int} {l : List Int} (h : chk n l = 0) : ∃ m k, n = ((m : Nat) : Int) ∧ l = il k ∧ OkR m k := by
  unfold chk at h
  split at h
  · cases h
  rename_i h1
  split at h
  · cases h
  rename_i h2
  split at h
  case isFalse => cases h
  rename_i h3
  rw [List.all_eq_true] at h3
  refine ⟨n.toNat, l.map Int.toNat, by omega, ?_, by omega, by omega, by simpa using h2, ?_⟩
  · unfold il
    rw [List.map_map]
    apply List.ext_getElem
    · simp
    · intro i h4 h5
      have := h3 l[i] (List.getElem_mem h4)
      simp only [decide_eq_true_eq] at this
      simp only [List.getElem_map, Function.comp]
      omega
  · intro o ho
    obtain ⟨x, hx, rfl⟩ := List.mem_map.1 ho
    have := h3 x hx
    simp only [decide_eq_true_eq] at this
    omega
theorem ok_chk {n : Nat} {l : List Nat} (h : OkR n l) : chk n (il l) = 0 := by
  have h1 := h.n1
  have h6 := h.n6
  have hl := h.len
  unfold chk
  rw [if_neg (by omega), if_neg (by rw [il_len]; omega), if_pos]
  rw [List.all_eq_true]
  intro x hx
  obtain ⟨o, ho, rfl⟩ := List.mem_map.1 hx
  have := h.ok o ho
  simp only [decide_eq_true_eq, Int.toNat_natCast]
  omega
theorem check_q (n : Int) (l : List Int) (s : AV) (hlen : l.length ≤ 1000000) (H : AH) (hs : Ls H s l) (Q : AV → AH → Prop) (h : Q (.int .i64 (chk n l)) H) : AC Try.prog 89 [cA n s] H Q := by
  refine AC.quiet (belB_int _ _ _ _) (fun Q h => ?_) Q h
  refine L_body 29 Try.func89 rfl rfl ?_
  have hk := ls_known hs
  refine L_reg [1] (fun K hK => ?_)
  simp [cA, AV.isU, acells]
  apply hK; clear hK K
  have h1 : (H ++ [AObj.row [.int .i64 n, s] 0 0 false])[H.length]? = some (.row [.int .i64 n, s] 0 0 false) := by simp
  have hE : Ext H (H ++ [AObj.row [.int .i64 n, s] 0 0 false]) := .push _ _
  generalize H ++ [AObj.row [.int .i64 n, s] 0 0 false] = H1 at h1 hE ⊢
  have a0 := ld_c0 h1
  have a1 := ld_c1 h1 hk
  have hs1 := hs.ext hE
  have hvl := ls_len hs1
  refine L_reg [1, 12] (fun K hK => ?_)
  suffices hk : K [(1, .ptr H.length 0 0), (12, .bool (decide (n < 1 ∨ 6 < n)))] H1 by
    by_cases h1 : n < 1
    · simp [h1, a0, pickV]
      simpa [h1] using hk
    · simp [h1, a0, pickV]
      simpa [h1] using hk
  apply hK; clear hK K
  by_cases hb : n < 1 ∨ 6 < n
  · rw [chk_big hb] at h
    refine L_true (by simp; omega) ?_
    refine L_reg [2] (fun K hK => ?_)
    simp
    apply hK; clear hK K
    exact L_ret ⟨.inr rfl, _, rfl, h _ hE⟩
  refine L_false (by simp; omega) ?_
  obtain ⟨m, rfl⟩ : ∃ m : Nat, n = m := ⟨n.toNat, by omega⟩
  have hm6 : m ≤ 6 := by omega
  refine L_reg [1, 16] (fun K hK => ?_)
  simp [a1, hvl]
  apply hK; clear hK K
  unfold chk at h
  rw [if_neg hb] at h
  by_cases hl : 64 < l.length
  · rw [if_pos hl] at h
    refine L_true (by simp; omega) ?_
    refine L_reg [2] (fun K hK => ?_)
    simp
    apply hK; clear hK K
    exact L_ret ⟨.inr rfl, _, rfl, h _ hE⟩
  rw [if_neg hl] at h
  refine L_false (by simp; omega) ?_
  refine L_reg [1, 18, 19, 20] (fun K hK => ?_)
  simp [a1, hvl]
  apply hK; clear hK K
  simp only [Int.toNat_natCast] at h
  refine L_block (L_loopV [20] (fun q vs H' => ∃ i : Nat, q = l.length - i ∧ i ≤ l.length ∧ vs = [.int .i64 i] ∧ H1 = H' ∧ (l.drop i).all (fun x => decide (0 ≤ x ∧ x < ((2 ^ m : Nat) : Int))) = l.all (fun x => decide (0 ≤ x ∧ x < ((2 ^ m : Nat) : Int)))) _ [.int .i64 (0 : Nat)] rfl ⟨0, rfl, by omega, rfl, rfl, rfl⟩ ?_)
  rintro q _ _ ⟨i, rfl, hi, rfl, rfl, hc⟩
  refine L_reg [1, 18, 19, 20, 21] (fun K hK => ?_)
  simp
  apply hK; clear hK K
  refine L_dec (i < l.length) (by simp) (fun hlt => ?_) (fun hge => L_exit ?_)
  · refine L_block ?_
    obtain ⟨rz, pz, vz, hix, hldz⟩ := ls_ix hs1 hlt
    rw [List.drop_eq_getElem_cons hlt, List.all_cons] at hc
    generalize l[i] = x at hldz hc
    refine L_reg [1, 4, 18, 19, 20] (fun K hK => ?_)
    simp [hix, hldz]
    apply hK; clear hK K
    have a2 := ldn_c h1 hk
    refine L_reg [1, 18, 19, 20, 27] (fun K hK => ?_)
    simp [okFn_low, a2]
    refine has_q hm6 s hk x _ _ ?_
    simp
    apply hK; clear hK K
    cases hd : decide (0 ≤ x ∧ x < ((2 ^ m : Nat) : Int)) with
    | false =>
      rw [hd, Bool.false_and] at hc
      rw [if_neg (by rw [← hc]; simp)] at h
      refine L_true (by simp at hd ⊢; omega) ?_
      refine L_reg [2] (fun K hK => ?_)
      simp
      apply hK; clear hK K
      exact L_ret ⟨.inr rfl, _, rfl, h _ hE⟩
    | true =>
      rw [hd, Bool.true_and] at hc
      refine L_false (by simp at hd ⊢; omega) ?_
      refine L_reg [1, 18, 19, 20] (fun K hK => ?_)
      simp [wrap_i64 (a := (i : Int) + 1) (by omega)]
      apply hK; clear hK K
      exact ⟨l.length - (i + 1), [.int .i64 (i + 1 : Nat)], by omega, by simp, i + 1, rfl, by omega, rfl, rfl, hc⟩
  · have e : i = l.length := by omega
    subst e
    rw [List.drop_length, List.all_nil] at hc
    rw [if_pos hc.symm] at h
    refine L_reg [2] (fun K hK => ?_)
    simp
    apply hK; clear hK K
    exact L_ret ⟨.inr rfl, _, rfl, h _ hE⟩
theorem res_cell_tmp {P : Program} {fn : Func} {e : Env} {H : AH} {a b : Tmp} {t : TypeId} {v u : AV} (hr : fn.results = #[.cell a t, .tmp b]) (hv : loadV P t H (eget e a) = some v) (hb : eget e b = u) : aResults P fn e H = some (.tuple [v, u]) := by
  have h1 : aRes1 P e H (.cell a t) = some v := hv
  have h2 : aRes1 P e H (.tmp b) = some u := by simp [aRes1, hb]
  simp [aResults, hr, aResList, h1, h2]
/-- A rule's or a plan's inner value. -/
def inS (n : Int) (l : List Int) (s : AV) : AV := if chk n l = 0 then cA n s else cA 0 (.slice none 0 0 0 1 false)
theorem bd92 (n : Int) {H : AH} {s : AV} {l : List Int} (h : Ls H s l) : aBuilt Try.prog 92 [(0, .int .i64 n), (1, s)] = some [.int .i64 n, s] := by
  obtain ⟨r, off, ver, sz, full, rfl, -⟩ := h
  kernel_rfl
theorem bd94 (n : Int) {H : AH} {s : AV} {l : List Int} (h : Ls H s l) : aBuilt Try.prog 94 [(0, .agg [.int .i64 n, s])] = some [.int .i64 n, s] := by
  obtain ⟨r, off, ver, sz, full, rfl, -⟩ := h
  kernel_rfl
theorem bd104 (n : Int) {H : AH} {s : AV} {l : List Int} (h : Ls H s l) : aBuilt Try.prog 104 [(0, .agg [.int .i64 n, s])] = some [.int .i64 n, s] := by
  obtain ⟨r, off, ver, sz, full, rfl, -⟩ := h
  kernel_rfl
theorem bd94z : aBuilt Try.prog 94 [] = some [.int .i64 0, .slice none 0 0 0 1 false] := by kernel_rfl
theorem bd104z : aBuilt Try.prog 104 [] = some [.int .i64 0, .slice none 0 0 0 1 false] := by kernel_rfl
theorem ls_one {H : AH} {s : AV} {l : List Int} (h : Ls H s l) : s.one = true := by
  obtain ⟨r, off, ver, sz, full, rfl, -⟩ := h
  rfl
theorem st2 {t : TypeId} (ht : aggSz Try.prog t = some 2) {H : AH} {p k : Nat} {n n' : Int} {s s' : AV} (hr : H[p]? = some (.row [.int .i64 n', s'] 0 k false)) (h' : s' ≠ .undef) (ho : s.one = true) : storeV Try.prog t H (.ptr p 0 0) (.agg [.int .i64 n, s]) = some (none, H.set p (.row [.int .i64 n, s] 0 0 false)) := by
  refine (store_agg ht hr (by decide) rfl (fun v hv => ?_) rfl (fun v hv => ?_)).trans ?_
  · simp only [List.mem_cons, List.not_mem_nil, or_false] at hv
    rcases hv with rfl | rfl
    · intro h; cases h
    · exact h'
  · simp only [List.mem_cons, List.not_mem_nil, or_false] at hv
    rcases hv with rfl | rfl
    · rfl
    · exact ho
  · simp
theorem ls_ne {H : AH} {s : AV} {l : List Int} (h : Ls H s l) : s ≠ .undef := by
  obtain ⟨r, off, ver, sz, full, rfl, -⟩ := h
  intro h; cases h
theorem belB_rule (N : Nat) (n : Int) (k : IntKind) (e : Int) : belB N 4 (.tuple [.agg [.int .i64 n, .slice none 0 0 0 1 false], .int k e]) = true := by
  simp [belB]
set_option maxRecDepth 100000 in
theorem checkedRule_ac (n : Int) (l : List Int) (s : AV) (hlen : l.length ≤ 1000000) (H : AH) (hs : Ls H s l) (Q : AV → AH → Prop) (h : ∀ H', Ext H H' → Q (.tuple [inS n l s, .int .i64 (chk n l)]) H') : AC Try.prog 63 [cA n s] H Q := by
  refine L_body 20 Try.func63 rfl rfl ?_
  have hk := ls_known hs
  obtain ⟨I, hI, hz⟩ := zeroT_some zt94
  refine L_reg [1, 2] (fun K hK => ?_)
  simp [cA, AV.isU, acells, hI, hz]
  apply hK; clear hK K
  have h1 : (H ++ [AObj.row [.int .i64 n, s] 0 0 false, AObj.row [.int .i64 0, .slice none 0 0 0 1 false] 0 0 false])[H.length]? = some (.row [.int .i64 n, s] 0 0 false) := by simp
  have h2 : (H ++ [AObj.row [.int .i64 n, s] 0 0 false, AObj.row [.int .i64 0, .slice none 0 0 0 1 false] 0 0 false])[H.length + 1]? = some (.row [.int .i64 0, .slice none 0 0 0 1 false] 0 0 false) := by simp
  have hE : Ext H (H ++ [AObj.row [.int .i64 n, s] 0 0 false, AObj.row [.int .i64 0, .slice none 0 0 0 1 false] 0 0 false]) := .push _ _
  generalize H ++ [AObj.row [.int .i64 n, s] 0 0 false, AObj.row [.int .i64 0, .slice none 0 0 0 1 false] 0 0 false] = H1 at h1 h2 hE ⊢
  have a0 := ld_c0 h1
  have a1 := ld_c1 h1 hk
  have hs1 := hs.ext hE
  have hb1 := bd92 n hs1
  have hb2 := bd94 n hs1
  have hE2 : Ext H (H1 ++ [AObj.row [.int .i64 0, .slice none 0 0 0 1 false] 0 0 false]) := hE.trans (.push _ _)
  have hst := st2 (t := 94) ag94 (n := n) (s := s) (k := 0) (n' := 0) (s' := .slice none 0 0 0 1 false) (p := H1.length) (H := H1 ++ [AObj.row [.int .i64 0, .slice none 0 0 0 1 false] 0 0 false]) (by simp) (by intro h; cases h) (ls_one hs)
  refine L_reg [2, 4] (fun K hK => ?_)
  simp [a0, a1, hI, hz, hb1, hb2, hst]
  apply hK; clear hK K
  have hlt : H.length + 1 < H1.length := by
    have := (List.getElem?_eq_some_iff.1 h2).1; omega
  have h4 : (H1 ++ [AObj.row [.int .i64 n, s] 0 0 false])[H1.length]? = some (.row [.int .i64 n, s] 0 0 false) := by simp
  have h2' : (H1 ++ [AObj.row [.int .i64 n, s] 0 0 false])[H.length + 1]? = some (.row [.int .i64 0, .slice none 0 0 0 1 false] 0 0 false) := by
    rw [List.getElem?_append_left hlt]; exact h2
  have hE3 : Ext H (H1 ++ [AObj.row [.int .i64 n, s] 0 0 false]) := hE.trans (.push _ _)
  generalize H1 ++ [AObj.row [.int .i64 n, s] 0 0 false] = H2 at h4 h2' hE3 ⊢
  have a4 := ldn_c h4 hk
  have hs2 := hs.ext hE3
  refine L_reg [2, 4, 5] (fun K hK => ?_)
  simp [okFn_low, a4]
  refine check_q n l s hlen _ hs2 _ ?_
  simp
  apply hK; clear hK K
  refine L_reg [2, 4, 5, 16] (fun K hK => ?_)
  simp
  apply hK; clear hK K
  unfold inS at h
  by_cases hc : chk n l = 0
  · rw [if_pos hc, hc] at h
    refine L_false (by simp [hc]) ?_
    have hst2 := st2 (t := 94) ag94 (n := n) (s := s) h2' (by intro h; cases h) (ls_one hs)
    refine L_reg [2, 3] (fun K hK => ?_)
    simp [a4, hst2]
    apply hK; clear hK K
    refine L_ret ⟨.inr rfl, _, res_cell_tmp rfl ?_ rfl, h _ (hE3.set _ (by omega))⟩
    simp [ldn_c (get_set h2') hk, cA]
  · rw [if_neg hc] at h
    refine L_true (by simp [hc]) ?_
    have hst2 := st2 (t := 94) ag94 (n := 0) (s := .slice none 0 0 0 1 false) h2' (by intro h; cases h) rfl
    refine L_reg [2, 3] (fun K hK => ?_)
    simp [bd94z, hst2]
    apply hK; clear hK K
    refine L_ret ⟨.inr rfl, _, res_cell_tmp rfl ?_ rfl, h _ (hE3.set _ (by omega))⟩
    simp [ldn_c (s := .slice none 0 0 0 1 false) (get_set h2') rfl, cA]
set_option maxRecDepth 100000 in
theorem checkedPlan_ac (n : Int) (l : List Int) (s : AV) (hlen : l.length ≤ 1000000) (H : AH) (hs : Ls H s l) (Q : AV → AH → Prop) (h : ∀ H', Ext H H' → Q (.tuple [inS n l s, .int .i64 (chk n l)]) H') : AC Try.prog 75 [cA n s] H Q := by
  refine L_body 20 Try.func75 rfl rfl ?_
  have hk := ls_known hs
  obtain ⟨I, hI, hz⟩ := zeroT_some zt104
  refine L_reg [1, 2] (fun K hK => ?_)
  simp [cA, AV.isU, acells, hI, hz]
  apply hK; clear hK K
  have h1 : (H ++ [AObj.row [.int .i64 n, s] 0 0 false, AObj.row [.int .i64 0, .slice none 0 0 0 1 false] 0 0 false])[H.length]? = some (.row [.int .i64 n, s] 0 0 false) := by simp
  have h2 : (H ++ [AObj.row [.int .i64 n, s] 0 0 false, AObj.row [.int .i64 0, .slice none 0 0 0 1 false] 0 0 false])[H.length + 1]? = some (.row [.int .i64 0, .slice none 0 0 0 1 false] 0 0 false) := by simp
  have hE : Ext H (H ++ [AObj.row [.int .i64 n, s] 0 0 false, AObj.row [.int .i64 0, .slice none 0 0 0 1 false] 0 0 false]) := .push _ _
  generalize H ++ [AObj.row [.int .i64 n, s] 0 0 false, AObj.row [.int .i64 0, .slice none 0 0 0 1 false] 0 0 false] = H1 at h1 h2 hE ⊢
  have a0 := ld_c0 h1
  have a1 := ld_c1 h1 hk
  have hs1 := hs.ext hE
  have hb1 := bd92 n hs1
  have hb2 := bd104 n hs1
  have hE2 : Ext H (H1 ++ [AObj.row [.int .i64 0, .slice none 0 0 0 1 false] 0 0 false]) := hE.trans (.push _ _)
  have hst := st2 (t := 104) ag104 (n := n) (s := s) (k := 0) (n' := 0) (s' := .slice none 0 0 0 1 false) (p := H1.length) (H := H1 ++ [AObj.row [.int .i64 0, .slice none 0 0 0 1 false] 0 0 false]) (by simp) (by intro h; cases h) (ls_one hs)
  refine L_reg [2, 4] (fun K hK => ?_)
  simp [a0, a1, hI, hz, hb1, hb2, hst]
  apply hK; clear hK K
  have hlt : H.length + 1 < H1.length := by
    have := (List.getElem?_eq_some_iff.1 h2).1; omega
  have h4 : (H1 ++ [AObj.row [.int .i64 n, s] 0 0 false])[H1.length]? = some (.row [.int .i64 n, s] 0 0 false) := by simp
  have h2' : (H1 ++ [AObj.row [.int .i64 n, s] 0 0 false])[H.length + 1]? = some (.row [.int .i64 0, .slice none 0 0 0 1 false] 0 0 false) := by
    rw [List.getElem?_append_left hlt]; exact h2
  have hE3 : Ext H (H1 ++ [AObj.row [.int .i64 n, s] 0 0 false]) := hE.trans (.push _ _)
  generalize H1 ++ [AObj.row [.int .i64 n, s] 0 0 false] = H2 at h4 h2' hE3 ⊢
  have a4 := ldn_c h4 hk
  have hs2 := hs.ext hE3
  refine L_reg [2, 4, 5] (fun K hK => ?_)
  simp [okFn_low, a4]
  refine check_q n l s hlen _ hs2 _ ?_
  simp
  apply hK; clear hK K
  refine L_reg [2, 4, 5, 16] (fun K hK => ?_)
  simp
  apply hK; clear hK K
  unfold inS at h
  by_cases hc : chk n l = 0
  · rw [if_pos hc, hc] at h
    refine L_false (by simp [hc]) ?_
    have hst2 := st2 (t := 104) ag104 (n := n) (s := s) h2' (by intro h; cases h) (ls_one hs)
    refine L_reg [2, 3] (fun K hK => ?_)
    simp [a4, hst2]
    apply hK; clear hK K
    refine L_ret ⟨.inr rfl, _, res_cell_tmp rfl ?_ rfl, h _ (hE3.set _ (by omega))⟩
    simp [ldn_c (get_set h2') hk, cA]
  · rw [if_neg hc] at h
    refine L_true (by simp [hc]) ?_
    have hst2 := st2 (t := 104) ag104 (n := 0) (s := .slice none 0 0 0 1 false) h2' (by intro h; cases h) rfl
    refine L_reg [2, 3] (fun K hK => ?_)
    simp [bd104z, hst2]
    apply hK; clear hK K
    refine L_ret ⟨.inr rfl, _, res_cell_tmp rfl ?_ rfl, h _ (hE3.set _ (by omega))⟩
    simp [ldn_c (s := .slice none 0 0 0 1 false) (get_set h2') rfl, cA]
/-- What a struct's two cells hold. -/
theorem ld_s1 {H : AH} {p k : Nat} {n : Int} {s : AV} {ro : Bool} {l : List Int} (hr : H[p]? = some (.row [.int .i64 n, s] 0 k ro)) (hs : Ls H s l) : ld H p 1 0 = some s := ld_c1 hr (ls_known hs)
theorem may_q {n : Nat} {l : List Nat} (hr : OkR n l) (g : Nat) (hg : g < 64) (s : AV) (H : AH) (hs : Ls H s (il l)) (Q : AV → AH → Prop) (h : Q (.bool (within l g)) H) : AC Try.prog 65 [cA n s, .int .i64 g] H Q := by
  refine AC.quiet (belB_bool _ _ _) (fun Q h => ?_) Q h
  refine L_body 10 Try.func65 rfl rfl ?_
  have hk := ls_known hs
  have hlen := hr.len
  refine L_reg [1, 2] (fun K hK => ?_)
  simp [cA, AV.isU, acells]
  apply hK; clear hK K
  have h1 : (H ++ [AObj.row [.int .i64 n, s] 0 0 false])[H.length]? = some (.row [.int .i64 n, s] 0 0 false) := by simp
  have hE : Ext H (H ++ [AObj.row [.int .i64 n, s] 0 0 false]) := .push _ _
  generalize H ++ [AObj.row [.int .i64 n, s] 0 0 false] = H1 at h1 hE ⊢
  have a1 := ld_c1 h1 hk
  refine L_reg [4] (fun K hK => ?_)
  simp [okFn_low, a1]
  refine oneLies_q l s g hg hr.ok64 (by omega) _ (hs.ext hE) _ ?_
  simp
  apply hK; clear hK K
  exact L_ret ⟨.inr rfl, _, rfl, h _ hE⟩
theorem needed_q {n : Nat} {l : List Nat} (hr : OkR n l) (g : Nat) (hg : g < 2 ^ n) (s : AV) (H : AH) (hs : Ls H s (il l)) (Q : AV → AH → Prop) (h : Q (.bool (need n (within l) g)) H) : AC Try.prog 91 [cA n s, .int .i64 g] H Q := by
  refine AC.quiet (belB_bool _ _ _) (fun Q h => ?_) Q h
  refine L_body 13 Try.func91 rfl rfl ?_
  have hk := ls_known hs
  have h64 := pw64 hr.n6
  have hp := pw n
  refine L_reg [1, 2] (fun K hK => ?_)
  simp [cA, AV.isU, acells]
  apply hK; clear hK K
  have h1 : (H ++ [AObj.row [.int .i64 n, s] 0 0 false])[H.length]? = some (.row [.int .i64 n, s] 0 0 false) := by simp
  have hE : Ext H (H ++ [AObj.row [.int .i64 n, s] 0 0 false]) := .push _ _
  generalize H ++ [AObj.row [.int .i64 n, s] 0 0 false] = H1 at h1 hE ⊢
  have a2 := ldn_c h1 hk
  have han : ∀ tt ll, binV Try.prog .andNot tt ll (.int .i64 ((2 ^ n - 1 : Nat) : Int)) (.int .i64 (g : Int)) = some (.int .i64 (cm n g : Nat)) := fun _ _ => by rw [n_andNot (2 ^ n - 1) g (by omega) (by omega), adn_cm hr.n6 hg]
  have hc64 : cm n g < 64 := Nat.lt_of_lt_of_le (cm_lt n g) h64
  have hs1 := hs.ext hE
  refine L_regQ mixed [4] (by kernel_rfl) (fun K hK => ?_)
  simp [okFn_low, a2, okFn_low]
  refine exQ_mk (fun Q hQ => everybody_q hr.n6 s hk _ Q hQ) ?_
  simp [okFn_low, han]
  refine exQ_mk (fun Q hQ => may_q hr _ hc64 s _ hs1 Q hQ) ?_
  simp
  apply hK; clear hK K
  exact L_ret ⟨.inr rfl, _, rfl, h _ hE⟩
/-- The locks that a group lacks. -/
theorem lacks_ac {n : Nat} {l : List Nat} (hr : OkR n l) (g : Nat) (hg : g < 64) (s : AV) (H : AH) (hs : Ls H s (il l)) (Q : AV → AH → Prop) (h : ∀ v H', OwnF H.length H' v ((il (lackS 0 l g)).map (.int .i64)) → Ext H H' → Q v H') : AC Try.prog 77 [cA n s, .int .i64 g] H Q := by
  refine L_body 27 Try.func77 rfl rfl ?_
  have hk := ls_known hs
  have hlen := hr.len
  refine L_reg [1, 2] (fun K hK => ?_)
  simp [cA, AV.isU, acells]
  apply hK; clear hK K
  have h1 : (H ++ [AObj.row [.int .i64 n, s] 0 0 false])[H.length]? = some (.row [.int .i64 n, s] 0 0 false) := by simp
  have hE : Ext H (H ++ [AObj.row [.int .i64 n, s] 0 0 false]) := .push _ _
  generalize H ++ [AObj.row [.int .i64 n, s] 0 0 false] = H1 at h1 hE ⊢
  have a1 := ld_c1 h1 hk
  have hvl := ls_len (hs.ext hE)
  rw [il_len] at hvl
  refine L_reg [1, 2, 5] (fun K hK => ?_)
  simp
  apply hK; clear hK K
  refine L_reg [1, 5, 10, 11, 12] (fun K hK => ?_)
  simp [a1, hvl]
  apply hK; clear hK K
  refine L_block (L_loopV [5, 12] (fun q vs H' => ∃ (i : Nat) (v : AV), q = l.length - i ∧ i ≤ l.length ∧ vs = [v, .int .i64 i] ∧ Ext H H' ∧ OwnF H.length H' v ((il (lackS 0 (l.take i) g)).map (.int .i64))) _ [.slice none 0 0 0 1 false, .int .i64 (0 : Nat)] rfl ⟨0, _, rfl, by omega, rfl, hE, OwnF.nil _ _⟩ ?_)
  clear h1 hE a1 hvl H1
  rintro q _ H1 ⟨i, v, rfl, hi, rfl, hE, ho⟩
  refine L_reg [1, 5, 10, 11, 12, 13] (fun K hK => ?_)
  simp
  apply hK; clear hK K
  refine L_dec (i < l.length) (by simp) (fun hlt => ?_) (fun hge => L_exit ?_)
  · refine L_block ?_
    obtain ⟨rz, pz, vz, hix, hldz⟩ := il_ix (hs.ext hE) hlt
    have hx64 := hr.ok64 l[i] (List.getElem_mem hlt)
    have htk : l.take (i + 1) = l.take i ++ [l[i]] := by rw [List.take_succ_eq_append_getElem hlt]
    have hnx := lack_snoc (l.take i) 0 g l[i]
    rw [← htk] at hnx
    generalize l[i] = x at hldz hx64 hnx
    refine L_reg [1, 5, 6, 7, 10, 11, 12] (fun K hK => ?_)
    simp [hix, hldz]
    apply hK; clear hK K
    have han : ∀ tt ll, binV Try.prog .and tt ll (.int .i64 (x : Int)) (.int .i64 (g : Int)) = some (.int .i64 ((x &&& g : Nat) : Int)) := fun _ _ => n_and x g hx64 hg
    refine L_reg [1, 5, 6, 10, 11, 12, 20] (fun K hK => ?_)
    simp [han]
    apply hK; clear hK K
    have hll := lack_len (l.take i) 0 g
    have hti : (l.take i).length = i := by rw [List.length_take]; omega
    rw [hti] at hnx hll
    by_cases hz : x &&& g = 0
    · refine L_true (by simp [hz]) ?_
      obtain ⟨v', H2, happ, ho2, hE2⟩ := ownF_append (P := Try.prog) (m := 1) (x := .int .i64 i) hE el22 el22 ho rfl (by simp [il_len]; omega)
      refine L_reg [1, 5, 10, 11, 12] (fun K hK => ?_)
      simp [happ]
      apply hK; clear hK K
      refine L_reg [1, 5, 10, 11, 12] (fun K hK => ?_)
      simp [wrap_i64 (a := (i : Int) + 1) (by omega)]
      apply hK; clear hK K
      refine ⟨l.length - (i + 1), [v', .int .i64 (i + 1 : Nat)], by omega, by simp, i + 1, v', rfl, by omega, rfl, hE2, ?_⟩
      rw [hnx, if_pos hz]
      simpa [il] using ho2
    · refine L_false (by simp [hz]) ?_
      refine L_reg [1, 5, 10, 11, 12] (fun K hK => ?_)
      simp [wrap_i64 (a := (i : Int) + 1) (by omega)]
      apply hK; clear hK K
      refine ⟨l.length - (i + 1), [v, .int .i64 (i + 1 : Nat)], by omega, by simp, i + 1, v, rfl, by omega, rfl, hE, ?_⟩
      rw [hnx, if_neg hz, List.append_nil]; exact ho
  · have e : i = l.length := by omega
    subst e
    rw [List.take_length] at ho
    refine L_reg [4] (fun K hK => ?_)
    simp
    apply hK; clear hK K
    exact L_ret ⟨.inr rfl, _, rfl, h _ _ ho hE⟩
end Go.Proofs.Ytcidcihpkdoejaa.Bo
