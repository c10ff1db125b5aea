/- The calls of the package. -/
import Derived.Test.YtcidcihpkdoejaaBo4
import Derived.Test.YtcidcihpkdoejaaRev
namespace Go.Proofs.Ytcidcihpkdoejaa.Bo
open Go Go.Proofs.Ytcidcihpkdoejaa Go.Proofs.Ytcidcihpkdoejaa.AX
set_option maxRecDepth 100000
abbrev nilS : AV := .slice none 0 0 0 1 false
theorem inS_bad {n : Int} {l : List Int} {s : AV} (h : chk n l ≠ 0) : inS n l s = cA 0 nilS := if_neg h
theorem inS_ok {n : Int} {l : List Int} {s : AV} (h : chk n l = 0) : inS n l s = cA n s := if_pos h
theorem bd40z : aBuilt Try.prog 40 [] = some [.int .i64 0, .slice none 0 0 0 1 false] := by kernel_rfl
theorem bd40 (n : Int) {s : AV} (h : ∃ r ver len, s = .slice r 0 len ver 1 false) : aBuilt Try.prog 40 [(0, .int .i64 n), (1, s)] = some [.int .i64 n, s] := by
  obtain ⟨r, ver, len, rfl⟩ := h
  kernel_rfl
theorem bd24 (n : Int) {s : AV} (h : ∃ r ver len, s = .slice r 0 len ver 1 false) : aBuilt Try.prog 24 [(0, .int .i64 n), (1, s)] = some [.int .i64 n, s] := by
  obtain ⟨r, ver, len, rfl⟩ := h
  kernel_rfl
theorem ownF_sl {N : Nat} {H : AH} {v : AV} {l : List AV} (h : OwnF N H v l) : ∃ r ver len, v = .slice r 0 len ver 1 false := by
  obtain ⟨r, ver, e⟩ := h.len
  exact ⟨r, ver, _, e⟩
theorem sl_known {s : AV} (h : ∃ r ver len, s = .slice r 0 len ver 1 false) : known (some s) = some s ∧ s.one = true ∧ s ≠ .undef := by
  obtain ⟨r, ver, len, rfl⟩ := h
  exact ⟨rfl, rfl, by intro h; cases h⟩
theorem has_n {n N : Nat} (hN : 2 ^ n = N) (hn : n ≤ 6) (s : AV) (hk : known (some s) = some s) (x : Int) (H : AH) (Q : AV → AH → Prop) (h : Q (.bool (decide (0 ≤ x ∧ x < (N : Int)))) H) : AC Try.prog 64 [cA n s, .int .i64 x] H Q := by
  subst hN; exact has_q hn s hk x H Q h
theorem ownF_set {N q : Nat} {H : AH} {v : AV} {l : List AV} (h : OwnF N H v l) (hq : q < N) (o : AObj) : OwnF N (H.set q o) v l := by
  rcases h with h | ⟨r, ver, stale, h1, h2, h3⟩
  · exact .inl h
  · exact .inr ⟨r, ver, stale, h1, h2, by rw [List.getElem?_set_ne (by omega)]; exact h3⟩
theorem belB_be (N : Nat) (b : Bool) (k : IntKind) (e : Int) : belB N 4 (.tuple [.bool b, .int k e]) = true := by simp [belB]
theorem belB_ie (N : Nat) (b : Int) (j k : IntKind) (e : Int) : belB N 4 (.tuple [.int j b, .int k e]) = true := by simp [belB]
theorem belB_ne (N : Nat) (k : IntKind) (e : Int) : belB N 4 (.tuple [nilS, .int k e]) = true := by simp [belB]
theorem belB_ce (N : Nat) (k : IntKind) (e : Int) : belB N 4 (.tuple [cA 0 nilS, .int k e]) = true := by simp [belB, cA]

theorem Check_bad (n : Int) (l : List Int) (s : AV) (hlen : l.length ≤ 1000000) (hc : chk n l ≠ 0) (H : AH) (hs : Ls H s l) (Q : AV → AH → Prop) (h : Q (.int .i64 (chk n l)) H) : AC Try.prog 23 [cA n s] H Q := by
  refine AC.quiet (belB_int _ _ _ _) (fun Q h => ?_) Q h
  refine L_body 11 Try.func23 rfl rfl ?_
  have hk := ls_known hs
  refine L_reg [1] (fun K hK => ?_)
  simp [cA, AV.isU, acells]
  apply hK; clear hK K
  have h1 : (H ++ [AObj.row [.int .i64 n, s] 0 0 false])[H.length]? = some (.row [.int .i64 n, s] 0 0 false) := by simp
  have hE : Ext H (H ++ [AObj.row [.int .i64 n, s] 0 0 false]) := .push _ _
  generalize H ++ [AObj.row [.int .i64 n, s] 0 0 false] = H1 at h1 hE ⊢
  have a1 := ldn_c h1 hk
  obtain ⟨I, hI, hz⟩ := zeroT_some zt94
  refine L_reg [4] (fun K hK => ?_)
  simp [okFn_low, a1]
  refine checkedRule_ac n l s hlen _ (hs.ext hE) _ fun H2 hE2 => ?_
  have hst := st2 (t := 94) ag94 (n := 0) (s := nilS) (k := 0) (n' := 0) (s' := nilS) (p := H2.length) (H := H2 ++ [AObj.row [.int .i64 0, nilS] 0 0 false]) (by simp) (by intro h; cases h) rfl
  simp [hI, hz, inS_bad hc, hst, cA]
  apply hK; clear hK K
  have h4 : (H2 ++ [AObj.row [.int .i64 0, nilS] 0 0 false])[H2.length]? = some (.row [.int .i64 0, nilS] 0 0 false) := by simp
  have hE3 : Ext H (H2 ++ [AObj.row [.int .i64 0, nilS] 0 0 false]) := (hE.trans hE2).trans (.push _ _)
  generalize H2 ++ [AObj.row [.int .i64 0, nilS] 0 0 false] = H3 at h4 hE3 ⊢
  refine L_reg [2] (fun K hK => ?_)
  simp
  apply hK; clear hK K
  exact L_ret ⟨.inr rfl, _, rfl, h _ hE3⟩
theorem Check_ok {n : Nat} {l : List Nat} (hr : OkR n l) (s : AV) (H : AH) (hs : Ls H s (il l)) (Q : AV → AH → Prop) (h : Q (.int .i64 0) H) : AC Try.prog 23 [cA n s] H Q := by
  have hc := ok_chk hr
  have hlen : (il l).length ≤ 1000000 := by rw [il_len]; have := hr.len; omega
  have h64 := pw64 hr.n6
  have hp := pw n
  refine AC.quiet (belB_int _ _ _ _) (fun Q h => ?_) Q h
  refine L_body 11 Try.func23 rfl rfl ?_
  have hk := ls_known hs
  refine L_reg [1] (fun K hK => ?_)
  simp [cA, AV.isU, acells]
  apply hK; clear hK K
  have h1 : (H ++ [AObj.row [.int .i64 n, s] 0 0 false])[H.length]? = some (.row [.int .i64 n, s] 0 0 false) := by simp
  have hE : Ext H (H ++ [AObj.row [.int .i64 n, s] 0 0 false]) := .push _ _
  generalize H ++ [AObj.row [.int .i64 n, s] 0 0 false] = H1 at h1 hE ⊢
  have a1 := ldn_c h1 hk
  obtain ⟨I, hI, hz⟩ := zeroT_some zt94
  refine L_reg [4] (fun K hK => ?_)
  simp [okFn_low, a1]
  refine checkedRule_ac n (il l) s hlen _ (hs.ext hE) _ fun H2 hE2 => ?_
  have hst := st2 (t := 94) ag94 (n := n) (s := s) (k := 0) (n' := 0) (s' := nilS) (p := H2.length) (H := H2 ++ [AObj.row [.int .i64 0, nilS] 0 0 false]) (by simp) (by intro h; cases h) (ls_one hs)
  simp [hI, hz, inS_ok hc, hst, cA]
  apply hK; clear hK K
  have h4 : (H2 ++ [AObj.row [.int .i64 n, s] 0 0 false])[H2.length]? = some (.row [.int .i64 n, s] 0 0 false) := by simp
  have hE3 : Ext H (H2 ++ [AObj.row [.int .i64 n, s] 0 0 false]) := (hE.trans hE2).trans (.push _ _)
  generalize H2 ++ [AObj.row [.int .i64 n, s] 0 0 false] = H3 at h4 hE3 ⊢
  have a4 := ldn_c h4 hk
  have c0 := ld_c0 h4
  have c1 := ld_c1 h4 hk
  have hs3 := hs.ext hE3
  refine L_reg [2] (fun K hK => ?_)
  simp [hc]
  apply hK; clear hK K
  exact L_ret ⟨.inr rfl, _, rfl, h _ hE3⟩
theorem CheckPlan_bad (n : Int) (l : List Int) (s : AV) (hlen : l.length ≤ 1000000) (hc : chk n l ≠ 0) (H : AH) (hs : Ls H s l) (Q : AV → AH → Prop) (h : Q (.int .i64 (chk n l)) H) : AC Try.prog 33 [cA n s] H Q := by
  refine AC.quiet (belB_int _ _ _ _) (fun Q h => ?_) Q h
  refine L_body 11 Try.func33 rfl rfl ?_
  have hk := ls_known hs
  refine L_reg [1] (fun K hK => ?_)
  simp [cA, AV.isU, acells]
  apply hK; clear hK K
  have h1 : (H ++ [AObj.row [.int .i64 n, s] 0 0 false])[H.length]? = some (.row [.int .i64 n, s] 0 0 false) := by simp
  have hE : Ext H (H ++ [AObj.row [.int .i64 n, s] 0 0 false]) := .push _ _
  generalize H ++ [AObj.row [.int .i64 n, s] 0 0 false] = H1 at h1 hE ⊢
  have a1 := ldn_c h1 hk
  obtain ⟨I, hI, hz⟩ := zeroT_some zt104
  refine L_reg [4] (fun K hK => ?_)
  simp [okFn_low, a1]
  refine checkedPlan_ac n l s hlen _ (hs.ext hE) _ fun H2 hE2 => ?_
  have hst := st2 (t := 104) ag104 (n := 0) (s := nilS) (k := 0) (n' := 0) (s' := nilS) (p := H2.length) (H := H2 ++ [AObj.row [.int .i64 0, nilS] 0 0 false]) (by simp) (by intro h; cases h) rfl
  simp [hI, hz, inS_bad hc, hst, cA]
  apply hK; clear hK K
  have h4 : (H2 ++ [AObj.row [.int .i64 0, nilS] 0 0 false])[H2.length]? = some (.row [.int .i64 0, nilS] 0 0 false) := by simp
  have hE3 : Ext H (H2 ++ [AObj.row [.int .i64 0, nilS] 0 0 false]) := (hE.trans hE2).trans (.push _ _)
  generalize H2 ++ [AObj.row [.int .i64 0, nilS] 0 0 false] = H3 at h4 hE3 ⊢
  refine L_reg [2] (fun K hK => ?_)
  simp
  apply hK; clear hK K
  exact L_ret ⟨.inr rfl, _, rfl, h _ hE3⟩
theorem CheckPlan_ok {n : Nat} {l : List Nat} (hr : OkR n l) (s : AV) (H : AH) (hs : Ls H s (il l)) (Q : AV → AH → Prop) (h : Q (.int .i64 0) H) : AC Try.prog 33 [cA n s] H Q := by
  have hc := ok_chk hr
  have hlen : (il l).length ≤ 1000000 := by rw [il_len]; have := hr.len; omega
  have h64 := pw64 hr.n6
  have hp := pw n
  refine AC.quiet (belB_int _ _ _ _) (fun Q h => ?_) Q h
  refine L_body 11 Try.func33 rfl rfl ?_
  have hk := ls_known hs
  refine L_reg [1] (fun K hK => ?_)
  simp [cA, AV.isU, acells]
  apply hK; clear hK K
  have h1 : (H ++ [AObj.row [.int .i64 n, s] 0 0 false])[H.length]? = some (.row [.int .i64 n, s] 0 0 false) := by simp
  have hE : Ext H (H ++ [AObj.row [.int .i64 n, s] 0 0 false]) := .push _ _
  generalize H ++ [AObj.row [.int .i64 n, s] 0 0 false] = H1 at h1 hE ⊢
  have a1 := ldn_c h1 hk
  obtain ⟨I, hI, hz⟩ := zeroT_some zt104
  refine L_reg [4] (fun K hK => ?_)
  simp [okFn_low, a1]
  refine checkedPlan_ac n (il l) s hlen _ (hs.ext hE) _ fun H2 hE2 => ?_
  have hst := st2 (t := 104) ag104 (n := n) (s := s) (k := 0) (n' := 0) (s' := nilS) (p := H2.length) (H := H2 ++ [AObj.row [.int .i64 0, nilS] 0 0 false]) (by simp) (by intro h; cases h) (ls_one hs)
  simp [hI, hz, inS_ok hc, hst, cA]
  apply hK; clear hK K
  have h4 : (H2 ++ [AObj.row [.int .i64 n, s] 0 0 false])[H2.length]? = some (.row [.int .i64 n, s] 0 0 false) := by simp
  have hE3 : Ext H (H2 ++ [AObj.row [.int .i64 n, s] 0 0 false]) := (hE.trans hE2).trans (.push _ _)
  generalize H2 ++ [AObj.row [.int .i64 n, s] 0 0 false] = H3 at h4 hE3 ⊢
  have a4 := ldn_c h4 hk
  have c0 := ld_c0 h4
  have c1 := ld_c1 h4 hk
  have hs3 := hs.ext hE3
  refine L_reg [2] (fun K hK => ?_)
  simp [hc]
  apply hK; clear hK K
  exact L_ret ⟨.inr rfl, _, rfl, h _ hE3⟩
theorem May_bad (n : Int) (l : List Int) (s : AV) (g : Int) (hlen : l.length ≤ 1000000) (hc : chk n l ≠ 0) (H : AH) (hs : Ls H s l) (Q : AV → AH → Prop) (h : Q (.tuple [.bool false, .int .i64 (chk n l)]) H) : AC Try.prog 16 [cA n s, .int .i64 g] H Q := by
  refine AC.quiet (belB_be _ _ _ _) (fun Q h => ?_) Q h
  refine L_body 24 Try.func16 rfl rfl ?_
  have hk := ls_known hs
  refine L_reg [1, 2] (fun K hK => ?_)
  simp [cA, AV.isU, acells]
  apply hK; clear hK K
  have h1 : (H ++ [AObj.row [.int .i64 n, s] 0 0 false])[H.length]? = some (.row [.int .i64 n, s] 0 0 false) := by simp
  have hE : Ext H (H ++ [AObj.row [.int .i64 n, s] 0 0 false]) := .push _ _
  generalize H ++ [AObj.row [.int .i64 n, s] 0 0 false] = H1 at h1 hE ⊢
  have a1 := ldn_c h1 hk
  obtain ⟨I, hI, hz⟩ := zeroT_some zt94
  refine L_reg [1, 6, 7] (fun K hK => ?_)
  simp [okFn_low, a1]
  refine checkedRule_ac n l s hlen _ (hs.ext hE) _ fun H2 hE2 => ?_
  have hst := st2 (t := 94) ag94 (n := 0) (s := nilS) (k := 0) (n' := 0) (s' := nilS) (p := H2.length) (H := H2 ++ [AObj.row [.int .i64 0, nilS] 0 0 false]) (by simp) (by intro h; cases h) rfl
  simp [hI, hz, inS_bad hc, hst, cA]
  apply hK; clear hK K
  have h4 : (H2 ++ [AObj.row [.int .i64 0, nilS] 0 0 false])[H2.length]? = some (.row [.int .i64 0, nilS] 0 0 false) := by simp
  have hE3 : Ext H (H2 ++ [AObj.row [.int .i64 0, nilS] 0 0 false]) := (hE.trans hE2).trans (.push _ _)
  generalize H2 ++ [AObj.row [.int .i64 0, nilS] 0 0 false] = H3 at h4 hE3 ⊢
  refine L_reg [1, 6, 7, 14] (fun K hK => ?_)
  simp
  apply hK; clear hK K
  refine L_true (by simp [hc]) ?_
  refine L_reg [4, 5] (fun K hK => ?_)
  simp
  apply hK; clear hK K
  exact L_ret ⟨.inr rfl, _, rfl, h _ hE3⟩
theorem May_none {n : Nat} {l : List Nat} (hr : OkR n l) (s : AV) (g : Int) (hg : ¬ (0 ≤ g ∧ g < ((2 ^ n : Nat) : Int))) (H : AH) (hs : Ls H s (il l)) (Q : AV → AH → Prop) (h : Q (.tuple [.bool false, .int .i64 2]) H) : AC Try.prog 16 [cA n s, .int .i64 g] H Q := by
  have hc := ok_chk hr
  have hlen : (il l).length ≤ 1000000 := by rw [il_len]; have := hr.len; omega
  have h64 := pw64 hr.n6
  have hp := pw n
  refine AC.quiet (belB_be _ _ _ _) (fun Q h => ?_) Q h
  refine L_body 24 Try.func16 rfl rfl ?_
  have hk := ls_known hs
  refine L_reg [1, 2] (fun K hK => ?_)
  simp [cA, AV.isU, acells]
  apply hK; clear hK K
  have h1 : (H ++ [AObj.row [.int .i64 n, s] 0 0 false])[H.length]? = some (.row [.int .i64 n, s] 0 0 false) := by simp
  have hE : Ext H (H ++ [AObj.row [.int .i64 n, s] 0 0 false]) := .push _ _
  generalize H ++ [AObj.row [.int .i64 n, s] 0 0 false] = H1 at h1 hE ⊢
  have a1 := ldn_c h1 hk
  obtain ⟨I, hI, hz⟩ := zeroT_some zt94
  refine L_reg [1, 6, 7] (fun K hK => ?_)
  simp [okFn_low, a1]
  refine checkedRule_ac n (il l) s hlen _ (hs.ext hE) _ fun H2 hE2 => ?_
  have hst := st2 (t := 94) ag94 (n := n) (s := s) (k := 0) (n' := 0) (s' := nilS) (p := H2.length) (H := H2 ++ [AObj.row [.int .i64 0, nilS] 0 0 false]) (by simp) (by intro h; cases h) (ls_one hs)
  simp [hI, hz, inS_ok hc, hst, cA]
  apply hK; clear hK K
  have h4 : (H2 ++ [AObj.row [.int .i64 n, s] 0 0 false])[H2.length]? = some (.row [.int .i64 n, s] 0 0 false) := by simp
  have hE3 : Ext H (H2 ++ [AObj.row [.int .i64 n, s] 0 0 false]) := (hE.trans hE2).trans (.push _ _)
  generalize H2 ++ [AObj.row [.int .i64 n, s] 0 0 false] = H3 at h4 hE3 ⊢
  have a4 := ldn_c h4 hk
  have c0 := ld_c0 h4
  have c1 := ld_c1 h4 hk
  have hs3 := hs.ext hE3
  refine L_reg [1, 6, 7, 14] (fun K hK => ?_)
  simp [hc]
  apply hK; clear hK K
  refine L_false (by simp) ?_
  obtain ⟨N, hN⟩ : ∃ N, 2 ^ n = N := ⟨_, rfl⟩
  rw [hN] at hg
  refine L_reg [1, 6, 20] (fun K hK => ?_)
  simp [okFn_low, a4]
  refine has_n hN hr.n6 s hk g _ _ ?_
  simp
  apply hK; clear hK K
  refine L_true (by simp; omega) ?_
  refine L_reg [4, 5] (fun K hK => ?_)
  simp
  apply hK; clear hK K
  exact L_ret ⟨.inr rfl, _, rfl, h _ hE3⟩
theorem May_ok {n : Nat} {l : List Nat} (hr : OkR n l) (s : AV) (x : Nat) (hx : x < 2 ^ n) (H : AH) (hs : Ls H s (il l)) (Q : AV → AH → Prop) (h : Q (.tuple [.bool (within l x), .int .i64 0]) H) : AC Try.prog 16 [cA n s, .int .i64 (x : Int)] H Q := by
  have hc := ok_chk hr
  have hlen : (il l).length ≤ 1000000 := by rw [il_len]; have := hr.len; omega
  have h64 := pw64 hr.n6
  have hp := pw n
  refine AC.quiet (belB_be _ _ _ _) (fun Q h => ?_) Q h
  refine L_body 24 Try.func16 rfl rfl ?_
  have hk := ls_known hs
  refine L_reg [1, 2] (fun K hK => ?_)
  simp [cA, AV.isU, acells]
  apply hK; clear hK K
  have h1 : (H ++ [AObj.row [.int .i64 n, s] 0 0 false])[H.length]? = some (.row [.int .i64 n, s] 0 0 false) := by simp
  have hE : Ext H (H ++ [AObj.row [.int .i64 n, s] 0 0 false]) := .push _ _
  generalize H ++ [AObj.row [.int .i64 n, s] 0 0 false] = H1 at h1 hE ⊢
  have a1 := ldn_c h1 hk
  obtain ⟨I, hI, hz⟩ := zeroT_some zt94
  refine L_reg [1, 6, 7] (fun K hK => ?_)
  simp [okFn_low, a1]
  refine checkedRule_ac n (il l) s hlen _ (hs.ext hE) _ fun H2 hE2 => ?_
  have hst := st2 (t := 94) ag94 (n := n) (s := s) (k := 0) (n' := 0) (s' := nilS) (p := H2.length) (H := H2 ++ [AObj.row [.int .i64 0, nilS] 0 0 false]) (by simp) (by intro h; cases h) (ls_one hs)
  simp [hI, hz, inS_ok hc, hst, cA]
  apply hK; clear hK K
  have h4 : (H2 ++ [AObj.row [.int .i64 n, s] 0 0 false])[H2.length]? = some (.row [.int .i64 n, s] 0 0 false) := by simp
  have hE3 : Ext H (H2 ++ [AObj.row [.int .i64 n, s] 0 0 false]) := (hE.trans hE2).trans (.push _ _)
  generalize H2 ++ [AObj.row [.int .i64 n, s] 0 0 false] = H3 at h4 hE3 ⊢
  have a4 := ldn_c h4 hk
  have c0 := ld_c0 h4
  have c1 := ld_c1 h4 hk
  have hs3 := hs.ext hE3
  refine L_reg [1, 6, 7, 14] (fun K hK => ?_)
  simp [hc]
  apply hK; clear hK K
  refine L_false (by simp) ?_
  obtain ⟨N, hN⟩ : ∃ N, 2 ^ n = N := ⟨_, rfl⟩
  have hxN := hx
  rw [hN] at hxN
  refine L_reg [1, 6, 20] (fun K hK => ?_)
  simp [okFn_low, a4]
  refine has_n hN hr.n6 s hk x _ _ ?_
  simp
  apply hK; clear hK K
  refine L_false (by simp; omega) ?_
  refine L_reg [4, 5] (fun K hK => ?_)
  simp [okFn_low, a4]
  refine may_q hr x (by omega) s _ hs3 _ ?_
  simp
  apply hK; clear hK K
  exact L_ret ⟨.inr rfl, _, rfl, h _ hE3⟩
theorem Opens_bad (n : Int) (l : List Int) (s : AV) (g : Int) (hlen : l.length ≤ 1000000) (hc : chk n l ≠ 0) (H : AH) (hs : Ls H s l) (Q : AV → AH → Prop) (h : Q (.tuple [.bool false, .int .i64 (chk n l)]) H) : AC Try.prog 25 [cA n s, .int .i64 g] H Q := by
  refine AC.quiet (belB_be _ _ _ _) (fun Q h => ?_) Q h
  refine L_body 24 Try.func25 rfl rfl ?_
  have hk := ls_known hs
  refine L_reg [1, 2] (fun K hK => ?_)
  simp [cA, AV.isU, acells]
  apply hK; clear hK K
  have h1 : (H ++ [AObj.row [.int .i64 n, s] 0 0 false])[H.length]? = some (.row [.int .i64 n, s] 0 0 false) := by simp
  have hE : Ext H (H ++ [AObj.row [.int .i64 n, s] 0 0 false]) := .push _ _
  generalize H ++ [AObj.row [.int .i64 n, s] 0 0 false] = H1 at h1 hE ⊢
  have a1 := ldn_c h1 hk
  obtain ⟨I, hI, hz⟩ := zeroT_some zt104
  refine L_reg [1, 6, 7] (fun K hK => ?_)
  simp [okFn_low, a1]
  refine checkedPlan_ac n l s hlen _ (hs.ext hE) _ fun H2 hE2 => ?_
  have hst := st2 (t := 104) ag104 (n := 0) (s := nilS) (k := 0) (n' := 0) (s' := nilS) (p := H2.length) (H := H2 ++ [AObj.row [.int .i64 0, nilS] 0 0 false]) (by simp) (by intro h; cases h) rfl
  simp [hI, hz, inS_bad hc, hst, cA]
  apply hK; clear hK K
  have h4 : (H2 ++ [AObj.row [.int .i64 0, nilS] 0 0 false])[H2.length]? = some (.row [.int .i64 0, nilS] 0 0 false) := by simp
  have hE3 : Ext H (H2 ++ [AObj.row [.int .i64 0, nilS] 0 0 false]) := (hE.trans hE2).trans (.push _ _)
  generalize H2 ++ [AObj.row [.int .i64 0, nilS] 0 0 false] = H3 at h4 hE3 ⊢
  refine L_reg [1, 6, 7, 14] (fun K hK => ?_)
  simp
  apply hK; clear hK K
  refine L_true (by simp [hc]) ?_
  refine L_reg [4, 5] (fun K hK => ?_)
  simp
  apply hK; clear hK K
  exact L_ret ⟨.inr rfl, _, rfl, h _ hE3⟩
theorem Opens_none {n : Nat} {l : List Nat} (hr : OkR n l) (s : AV) (g : Int) (hg : ¬ (0 ≤ g ∧ g < ((2 ^ n : Nat) : Int))) (H : AH) (hs : Ls H s (il l)) (Q : AV → AH → Prop) (h : Q (.tuple [.bool false, .int .i64 2]) H) : AC Try.prog 25 [cA n s, .int .i64 g] H Q := by
  have hc := ok_chk hr
  have hlen : (il l).length ≤ 1000000 := by rw [il_len]; have := hr.len; omega
  have h64 := pw64 hr.n6
  have hp := pw n
  refine AC.quiet (belB_be _ _ _ _) (fun Q h => ?_) Q h
  refine L_body 24 Try.func25 rfl rfl ?_
  have hk := ls_known hs
  refine L_reg [1, 2] (fun K hK => ?_)
  simp [cA, AV.isU, acells]
  apply hK; clear hK K
  have h1 : (H ++ [AObj.row [.int .i64 n, s] 0 0 false])[H.length]? = some (.row [.int .i64 n, s] 0 0 false) := by simp
  have hE : Ext H (H ++ [AObj.row [.int .i64 n, s] 0 0 false]) := .push _ _
  generalize H ++ [AObj.row [.int .i64 n, s] 0 0 false] = H1 at h1 hE ⊢
  have a1 := ldn_c h1 hk
  obtain ⟨I, hI, hz⟩ := zeroT_some zt104
  refine L_reg [1, 6, 7] (fun K hK => ?_)
  simp [okFn_low, a1]
  refine checkedPlan_ac n (il l) s hlen _ (hs.ext hE) _ fun H2 hE2 => ?_
  have hst := st2 (t := 104) ag104 (n := n) (s := s) (k := 0) (n' := 0) (s' := nilS) (p := H2.length) (H := H2 ++ [AObj.row [.int .i64 0, nilS] 0 0 false]) (by simp) (by intro h; cases h) (ls_one hs)
  simp [hI, hz, inS_ok hc, hst, cA]
  apply hK; clear hK K
  have h4 : (H2 ++ [AObj.row [.int .i64 n, s] 0 0 false])[H2.length]? = some (.row [.int .i64 n, s] 0 0 false) := by simp
  have hE3 : Ext H (H2 ++ [AObj.row [.int .i64 n, s] 0 0 false]) := (hE.trans hE2).trans (.push _ _)
  generalize H2 ++ [AObj.row [.int .i64 n, s] 0 0 false] = H3 at h4 hE3 ⊢
  have a4 := ldn_c h4 hk
  have c0 := ld_c0 h4
  have c1 := ld_c1 h4 hk
  have hs3 := hs.ext hE3
  refine L_reg [1, 6, 7, 14] (fun K hK => ?_)
  simp [hc]
  apply hK; clear hK K
  refine L_false (by simp) ?_
  obtain ⟨N, hN⟩ : ∃ N, 2 ^ n = N := ⟨_, rfl⟩
  rw [hN] at hg
  refine L_reg [1, 6, 20] (fun K hK => ?_)
  simp [okFn_low, a4]
  refine has_n hN hr.n6 s hk g _ _ ?_
  simp
  apply hK; clear hK K
  refine L_true (by simp; omega) ?_
  refine L_reg [4, 5] (fun K hK => ?_)
  simp
  apply hK; clear hK K
  exact L_ret ⟨.inr rfl, _, rfl, h _ hE3⟩
theorem Opens_ok {n : Nat} {l : List Nat} (hr : OkR n l) (s : AV) (x : Nat) (hx : x < 2 ^ n) (H : AH) (hs : Ls H s (il l)) (Q : AV → AH → Prop) (h : Q (.tuple [.bool (meets l x), .int .i64 0]) H) : AC Try.prog 25 [cA n s, .int .i64 (x : Int)] H Q := by
  have hc := ok_chk hr
  have hlen : (il l).length ≤ 1000000 := by rw [il_len]; have := hr.len; omega
  have h64 := pw64 hr.n6
  have hp := pw n
  refine AC.quiet (belB_be _ _ _ _) (fun Q h => ?_) Q h
  refine L_body 24 Try.func25 rfl rfl ?_
  have hk := ls_known hs
  refine L_reg [1, 2] (fun K hK => ?_)
  simp [cA, AV.isU, acells]
  apply hK; clear hK K
  have h1 : (H ++ [AObj.row [.int .i64 n, s] 0 0 false])[H.length]? = some (.row [.int .i64 n, s] 0 0 false) := by simp
  have hE : Ext H (H ++ [AObj.row [.int .i64 n, s] 0 0 false]) := .push _ _
  generalize H ++ [AObj.row [.int .i64 n, s] 0 0 false] = H1 at h1 hE ⊢
  have a1 := ldn_c h1 hk
  obtain ⟨I, hI, hz⟩ := zeroT_some zt104
  refine L_reg [1, 6, 7] (fun K hK => ?_)
  simp [okFn_low, a1]
  refine checkedPlan_ac n (il l) s hlen _ (hs.ext hE) _ fun H2 hE2 => ?_
  have hst := st2 (t := 104) ag104 (n := n) (s := s) (k := 0) (n' := 0) (s' := nilS) (p := H2.length) (H := H2 ++ [AObj.row [.int .i64 0, nilS] 0 0 false]) (by simp) (by intro h; cases h) (ls_one hs)
  simp [hI, hz, inS_ok hc, hst, cA]
  apply hK; clear hK K
  have h4 : (H2 ++ [AObj.row [.int .i64 n, s] 0 0 false])[H2.length]? = some (.row [.int .i64 n, s] 0 0 false) := by simp
  have hE3 : Ext H (H2 ++ [AObj.row [.int .i64 n, s] 0 0 false]) := (hE.trans hE2).trans (.push _ _)
  generalize H2 ++ [AObj.row [.int .i64 n, s] 0 0 false] = H3 at h4 hE3 ⊢
  have a4 := ldn_c h4 hk
  have c0 := ld_c0 h4
  have c1 := ld_c1 h4 hk
  have hs3 := hs.ext hE3
  refine L_reg [1, 6, 7, 14] (fun K hK => ?_)
  simp [hc]
  apply hK; clear hK K
  refine L_false (by simp) ?_
  obtain ⟨N, hN⟩ : ∃ N, 2 ^ n = N := ⟨_, rfl⟩
  have hxN := hx
  rw [hN] at hxN
  refine L_reg [1, 6, 20] (fun K hK => ?_)
  simp [okFn_low, a4]
  refine has_n hN hr.n6 s hk x _ _ ?_
  simp
  apply hK; clear hK K
  refine L_false (by simp; omega) ?_
  refine L_reg [4, 5] (fun K hK => ?_)
  simp [okFn_low, a4]
  refine opens_q hr x (by omega) s _ hs3 _ ?_
  simp
  apply hK; clear hK K
  exact L_ret ⟨.inr rfl, _, rfl, h _ hE3⟩
theorem Lacks_bad (n : Int) (l : List Int) (s : AV) (g : Int) (hlen : l.length ≤ 1000000) (hc : chk n l ≠ 0) (H : AH) (hs : Ls H s l) (Q : AV → AH → Prop) (h : Q (.tuple [nilS, .int .i64 (chk n l)]) H) : AC Try.prog 27 [cA n s, .int .i64 g] H Q := by
  refine AC.quiet (belB_ne _ _ _) (fun Q h => ?_) Q h
  refine L_body 24 Try.func27 rfl rfl ?_
  have hk := ls_known hs
  refine L_reg [1, 2] (fun K hK => ?_)
  simp [cA, AV.isU, acells]
  apply hK; clear hK K
  have h1 : (H ++ [AObj.row [.int .i64 n, s] 0 0 false])[H.length]? = some (.row [.int .i64 n, s] 0 0 false) := by simp
  have hE : Ext H (H ++ [AObj.row [.int .i64 n, s] 0 0 false]) := .push _ _
  generalize H ++ [AObj.row [.int .i64 n, s] 0 0 false] = H1 at h1 hE ⊢
  have a1 := ldn_c h1 hk
  obtain ⟨I, hI, hz⟩ := zeroT_some zt104
  refine L_reg [1, 6, 7] (fun K hK => ?_)
  simp [okFn_low, a1]
  refine checkedPlan_ac n l s hlen _ (hs.ext hE) _ fun H2 hE2 => ?_
  have hst := st2 (t := 104) ag104 (n := 0) (s := nilS) (k := 0) (n' := 0) (s' := nilS) (p := H2.length) (H := H2 ++ [AObj.row [.int .i64 0, nilS] 0 0 false]) (by simp) (by intro h; cases h) rfl
  simp [hI, hz, inS_bad hc, hst, cA]
  apply hK; clear hK K
  have h4 : (H2 ++ [AObj.row [.int .i64 0, nilS] 0 0 false])[H2.length]? = some (.row [.int .i64 0, nilS] 0 0 false) := by simp
  have hE3 : Ext H (H2 ++ [AObj.row [.int .i64 0, nilS] 0 0 false]) := (hE.trans hE2).trans (.push _ _)
  generalize H2 ++ [AObj.row [.int .i64 0, nilS] 0 0 false] = H3 at h4 hE3 ⊢
  refine L_reg [1, 6, 7, 14] (fun K hK => ?_)
  simp
  apply hK; clear hK K
  refine L_true (by simp [hc]) ?_
  refine L_reg [4, 5] (fun K hK => ?_)
  simp
  apply hK; clear hK K
  exact L_ret ⟨.inr rfl, _, rfl, h _ hE3⟩
theorem Lacks_none {n : Nat} {l : List Nat} (hr : OkR n l) (s : AV) (g : Int) (hg : ¬ (0 ≤ g ∧ g < ((2 ^ n : Nat) : Int))) (H : AH) (hs : Ls H s (il l)) (Q : AV → AH → Prop) (h : Q (.tuple [nilS, .int .i64 2]) H) : AC Try.prog 27 [cA n s, .int .i64 g] H Q := by
  have hc := ok_chk hr
  have hlen : (il l).length ≤ 1000000 := by rw [il_len]; have := hr.len; omega
  have h64 := pw64 hr.n6
  have hp := pw n
  refine AC.quiet (belB_ne _ _ _) (fun Q h => ?_) Q h
  refine L_body 24 Try.func27 rfl rfl ?_
  have hk := ls_known hs
  refine L_reg [1, 2] (fun K hK => ?_)
  simp [cA, AV.isU, acells]
  apply hK; clear hK K
  have h1 : (H ++ [AObj.row [.int .i64 n, s] 0 0 false])[H.length]? = some (.row [.int .i64 n, s] 0 0 false) := by simp
  have hE : Ext H (H ++ [AObj.row [.int .i64 n, s] 0 0 false]) := .push _ _
  generalize H ++ [AObj.row [.int .i64 n, s] 0 0 false] = H1 at h1 hE ⊢
  have a1 := ldn_c h1 hk
  obtain ⟨I, hI, hz⟩ := zeroT_some zt104
  refine L_reg [1, 6, 7] (fun K hK => ?_)
  simp [okFn_low, a1]
  refine checkedPlan_ac n (il l) s hlen _ (hs.ext hE) _ fun H2 hE2 => ?_
  have hst := st2 (t := 104) ag104 (n := n) (s := s) (k := 0) (n' := 0) (s' := nilS) (p := H2.length) (H := H2 ++ [AObj.row [.int .i64 0, nilS] 0 0 false]) (by simp) (by intro h; cases h) (ls_one hs)
  simp [hI, hz, inS_ok hc, hst, cA]
  apply hK; clear hK K
  have h4 : (H2 ++ [AObj.row [.int .i64 n, s] 0 0 false])[H2.length]? = some (.row [.int .i64 n, s] 0 0 false) := by simp
  have hE3 : Ext H (H2 ++ [AObj.row [.int .i64 n, s] 0 0 false]) := (hE.trans hE2).trans (.push _ _)
  generalize H2 ++ [AObj.row [.int .i64 n, s] 0 0 false] = H3 at h4 hE3 ⊢
  have a4 := ldn_c h4 hk
  have c0 := ld_c0 h4
  have c1 := ld_c1 h4 hk
  have hs3 := hs.ext hE3
  refine L_reg [1, 6, 7, 14] (fun K hK => ?_)
  simp [hc]
  apply hK; clear hK K
  refine L_false (by simp) ?_
  obtain ⟨N, hN⟩ : ∃ N, 2 ^ n = N := ⟨_, rfl⟩
  rw [hN] at hg
  refine L_reg [1, 6, 20] (fun K hK => ?_)
  simp [okFn_low, a4]
  refine has_n hN hr.n6 s hk g _ _ ?_
  simp
  apply hK; clear hK K
  refine L_true (by simp; omega) ?_
  refine L_reg [4, 5] (fun K hK => ?_)
  simp
  apply hK; clear hK K
  exact L_ret ⟨.inr rfl, _, rfl, h _ hE3⟩
theorem Lacks_ok {n : Nat} {l : List Nat} (hr : OkR n l) (s : AV) (x : Nat) (hx : x < 2 ^ n) (H : AH) (hs : Ls H s (il l)) (Q : AV → AH → Prop) (h : ∀ v H', OwnF H.length H' v ((il (lackS 0 l x)).map (.int .i64)) → Ext H H' → Q (.tuple [v, .int .i64 0]) H') : AC Try.prog 27 [cA n s, .int .i64 (x : Int)] H Q := by
  have hc := ok_chk hr
  have hlen : (il l).length ≤ 1000000 := by rw [il_len]; have := hr.len; omega
  have h64 := pw64 hr.n6
  have hp := pw n
  refine L_body 24 Try.func27 rfl rfl ?_
  have hk := ls_known hs
  refine L_reg [1, 2] (fun K hK => ?_)
  simp [cA, AV.isU, acells]
  apply hK; clear hK K
  have h1 : (H ++ [AObj.row [.int .i64 n, s] 0 0 false])[H.length]? = some (.row [.int .i64 n, s] 0 0 false) := by simp
  have hE : Ext H (H ++ [AObj.row [.int .i64 n, s] 0 0 false]) := .push _ _
  generalize H ++ [AObj.row [.int .i64 n, s] 0 0 false] = H1 at h1 hE ⊢
  have a1 := ldn_c h1 hk
  obtain ⟨I, hI, hz⟩ := zeroT_some zt104
  refine L_reg [1, 6, 7] (fun K hK => ?_)
  simp [okFn_low, a1]
  refine checkedPlan_ac n (il l) s hlen _ (hs.ext hE) _ fun H2 hE2 => ?_
  have hst := st2 (t := 104) ag104 (n := n) (s := s) (k := 0) (n' := 0) (s' := nilS) (p := H2.length) (H := H2 ++ [AObj.row [.int .i64 0, nilS] 0 0 false]) (by simp) (by intro h; cases h) (ls_one hs)
  simp [hI, hz, inS_ok hc, hst, cA]
  apply hK; clear hK K
  have h4 : (H2 ++ [AObj.row [.int .i64 n, s] 0 0 false])[H2.length]? = some (.row [.int .i64 n, s] 0 0 false) := by simp
  have hE3 : Ext H (H2 ++ [AObj.row [.int .i64 n, s] 0 0 false]) := (hE.trans hE2).trans (.push _ _)
  generalize H2 ++ [AObj.row [.int .i64 n, s] 0 0 false] = H3 at h4 hE3 ⊢
  have a4 := ldn_c h4 hk
  have c0 := ld_c0 h4
  have c1 := ld_c1 h4 hk
  have hs3 := hs.ext hE3
  refine L_reg [1, 6, 7, 14] (fun K hK => ?_)
  simp [hc]
  apply hK; clear hK K
  refine L_false (by simp) ?_
  obtain ⟨N, hN⟩ : ∃ N, 2 ^ n = N := ⟨_, rfl⟩
  have hxN := hx
  rw [hN] at hxN
  refine L_reg [1, 6, 20] (fun K hK => ?_)
  simp [okFn_low, a4]
  refine has_n hN hr.n6 s hk x _ _ ?_
  simp
  apply hK; clear hK K
  refine L_false (by simp; omega) ?_
  refine L_reg [4, 5] (fun K hK => ?_)
  simp [okFn_low, a4]
  refine lacks_ac hr x (by omega) s _ hs3 _ fun v H4 ho hE4 => ?_
  simp
  apply hK; clear hK K
  exact L_ret ⟨.inr rfl, _, rfl, h v H4 (ho.mono hE3.1) (hE3.trans hE4)⟩
theorem Least_bad (n : Int) (l : List Int) (s : AV) (hlen : l.length ≤ 1000000) (hc : chk n l ≠ 0) (H : AH) (hs : Ls H s l) (Q : AV → AH → Prop) (h : Q (.tuple [nilS, .int .i64 (chk n l)]) H) : AC Try.prog 18 [cA n s] H Q := by
  refine AC.quiet (belB_ne _ _ _) (fun Q h => ?_) Q h
  refine L_body 19 Try.func18 rfl rfl ?_
  have hk := ls_known hs
  refine L_reg [1] (fun K hK => ?_)
  simp [cA, AV.isU, acells]
  apply hK; clear hK K
  have h1 : (H ++ [AObj.row [.int .i64 n, s] 0 0 false])[H.length]? = some (.row [.int .i64 n, s] 0 0 false) := by simp
  have hE : Ext H (H ++ [AObj.row [.int .i64 n, s] 0 0 false]) := .push _ _
  generalize H ++ [AObj.row [.int .i64 n, s] 0 0 false] = H1 at h1 hE ⊢
  have a1 := ldn_c h1 hk
  obtain ⟨I, hI, hz⟩ := zeroT_some zt94
  refine L_reg [4, 5] (fun K hK => ?_)
  simp [okFn_low, a1]
  refine checkedRule_ac n l s hlen _ (hs.ext hE) _ fun H2 hE2 => ?_
  have hst := st2 (t := 94) ag94 (n := 0) (s := nilS) (k := 0) (n' := 0) (s' := nilS) (p := H2.length) (H := H2 ++ [AObj.row [.int .i64 0, nilS] 0 0 false]) (by simp) (by intro h; cases h) rfl
  simp [hI, hz, inS_bad hc, hst, cA]
  apply hK; clear hK K
  have h4 : (H2 ++ [AObj.row [.int .i64 0, nilS] 0 0 false])[H2.length]? = some (.row [.int .i64 0, nilS] 0 0 false) := by simp
  have hE3 : Ext H (H2 ++ [AObj.row [.int .i64 0, nilS] 0 0 false]) := (hE.trans hE2).trans (.push _ _)
  generalize H2 ++ [AObj.row [.int .i64 0, nilS] 0 0 false] = H3 at h4 hE3 ⊢
  refine L_reg [4, 5, 12] (fun K hK => ?_)
  simp
  apply hK; clear hK K
  refine L_true (by simp [hc]) ?_
  refine L_reg [2, 3] (fun K hK => ?_)
  simp
  apply hK; clear hK K
  exact L_ret ⟨.inr rfl, _, rfl, h _ hE3⟩
theorem Least_ok {n : Nat} {l : List Nat} (hr : OkR n l) (s : AV) (H : AH) (hs : Ls H s (il l)) (Q : AV → AH → Prop) (h : ∀ v H', OwnF H.length H' v ((il (leastS (2 ^ n) (within l))).map (.int .i64)) → Ext H H' → Q (.tuple [v, .int .i64 0]) H') : AC Try.prog 18 [cA n s] H Q := by
  have hc := ok_chk hr
  have hlen : (il l).length ≤ 1000000 := by rw [il_len]; have := hr.len; omega
  have h64 := pw64 hr.n6
  have hp := pw n
  refine L_body 19 Try.func18 rfl rfl ?_
  have hk := ls_known hs
  refine L_reg [1] (fun K hK => ?_)
  simp [cA, AV.isU, acells]
  apply hK; clear hK K
  have h1 : (H ++ [AObj.row [.int .i64 n, s] 0 0 false])[H.length]? = some (.row [.int .i64 n, s] 0 0 false) := by simp
  have hE : Ext H (H ++ [AObj.row [.int .i64 n, s] 0 0 false]) := .push _ _
  generalize H ++ [AObj.row [.int .i64 n, s] 0 0 false] = H1 at h1 hE ⊢
  have a1 := ldn_c h1 hk
  obtain ⟨I, hI, hz⟩ := zeroT_some zt94
  refine L_reg [4, 5] (fun K hK => ?_)
  simp [okFn_low, a1]
  refine checkedRule_ac n (il l) s hlen _ (hs.ext hE) _ fun H2 hE2 => ?_
  have hst := st2 (t := 94) ag94 (n := n) (s := s) (k := 0) (n' := 0) (s' := nilS) (p := H2.length) (H := H2 ++ [AObj.row [.int .i64 0, nilS] 0 0 false]) (by simp) (by intro h; cases h) (ls_one hs)
  simp [hI, hz, inS_ok hc, hst, cA]
  apply hK; clear hK K
  have h4 : (H2 ++ [AObj.row [.int .i64 n, s] 0 0 false])[H2.length]? = some (.row [.int .i64 n, s] 0 0 false) := by simp
  have hE3 : Ext H (H2 ++ [AObj.row [.int .i64 n, s] 0 0 false]) := (hE.trans hE2).trans (.push _ _)
  generalize H2 ++ [AObj.row [.int .i64 n, s] 0 0 false] = H3 at h4 hE3 ⊢
  have a4 := ldn_c h4 hk
  have c0 := ld_c0 h4
  have c1 := ld_c1 h4 hk
  have hs3 := hs.ext hE3
  refine L_reg [4, 5, 12] (fun K hK => ?_)
  simp [hc]
  apply hK; clear hK K
  refine L_false (by simp) ?_
  refine L_reg [2, 3] (fun K hK => ?_)
  simp [okFn_low, a4]
  refine smallest_ac hr.n6 65 [cA n s] [] (within l) s (by kernel_rfl) _ hk (fun g hg H' hE' Q hQ => may_q hr g (by omega) s _ (hs3.ext hE') Q hQ) _ (fun v H4 ho hE4 => ?_)
  simp
  apply hK; clear hK K
  exact L_ret ⟨.inr rfl, _, rfl, h v H4 (ho.2.mono hE3.1) (hE3.trans hE4)⟩
theorem Smallest_bad (n : Int) (l : List Int) (s : AV) (hlen : l.length ≤ 1000000) (hc : chk n l ≠ 0) (H : AH) (hs : Ls H s l) (Q : AV → AH → Prop) (h : Q (.tuple [nilS, .int .i64 (chk n l)]) H) : AC Try.prog 29 [cA n s] H Q := by
  refine AC.quiet (belB_ne _ _ _) (fun Q h => ?_) Q h
  refine L_body 19 Try.func29 rfl rfl ?_
  have hk := ls_known hs
  refine L_reg [1] (fun K hK => ?_)
  simp [cA, AV.isU, acells]
  apply hK; clear hK K
  have h1 : (H ++ [AObj.row [.int .i64 n, s] 0 0 false])[H.length]? = some (.row [.int .i64 n, s] 0 0 false) := by simp
  have hE : Ext H (H ++ [AObj.row [.int .i64 n, s] 0 0 false]) := .push _ _
  generalize H ++ [AObj.row [.int .i64 n, s] 0 0 false] = H1 at h1 hE ⊢
  have a1 := ldn_c h1 hk
  obtain ⟨I, hI, hz⟩ := zeroT_some zt104
  refine L_reg [4, 5] (fun K hK => ?_)
  simp [okFn_low, a1]
  refine checkedPlan_ac n l s hlen _ (hs.ext hE) _ fun H2 hE2 => ?_
  have hst := st2 (t := 104) ag104 (n := 0) (s := nilS) (k := 0) (n' := 0) (s' := nilS) (p := H2.length) (H := H2 ++ [AObj.row [.int .i64 0, nilS] 0 0 false]) (by simp) (by intro h; cases h) rfl
  simp [hI, hz, inS_bad hc, hst, cA]
  apply hK; clear hK K
  have h4 : (H2 ++ [AObj.row [.int .i64 0, nilS] 0 0 false])[H2.length]? = some (.row [.int .i64 0, nilS] 0 0 false) := by simp
  have hE3 : Ext H (H2 ++ [AObj.row [.int .i64 0, nilS] 0 0 false]) := (hE.trans hE2).trans (.push _ _)
  generalize H2 ++ [AObj.row [.int .i64 0, nilS] 0 0 false] = H3 at h4 hE3 ⊢
  refine L_reg [4, 5, 12] (fun K hK => ?_)
  simp
  apply hK; clear hK K
  refine L_true (by simp [hc]) ?_
  refine L_reg [2, 3] (fun K hK => ?_)
  simp
  apply hK; clear hK K
  exact L_ret ⟨.inr rfl, _, rfl, h _ hE3⟩
theorem Smallest_ok {n : Nat} {l : List Nat} (hr : OkR n l) (s : AV) (H : AH) (hs : Ls H s (il l)) (Q : AV → AH → Prop) (h : ∀ v H', OwnF H.length H' v ((il (leastS (2 ^ n) (meets l))).map (.int .i64)) → Ext H H' → Q (.tuple [v, .int .i64 0]) H') : AC Try.prog 29 [cA n s] H Q := by
  have hc := ok_chk hr
  have hlen : (il l).length ≤ 1000000 := by rw [il_len]; have := hr.len; omega
  have h64 := pw64 hr.n6
  have hp := pw n
  refine L_body 19 Try.func29 rfl rfl ?_
  have hk := ls_known hs
  refine L_reg [1] (fun K hK => ?_)
  simp [cA, AV.isU, acells]
  apply hK; clear hK K
  have h1 : (H ++ [AObj.row [.int .i64 n, s] 0 0 false])[H.length]? = some (.row [.int .i64 n, s] 0 0 false) := by simp
  have hE : Ext H (H ++ [AObj.row [.int .i64 n, s] 0 0 false]) := .push _ _
  generalize H ++ [AObj.row [.int .i64 n, s] 0 0 false] = H1 at h1 hE ⊢
  have a1 := ldn_c h1 hk
  obtain ⟨I, hI, hz⟩ := zeroT_some zt104
  refine L_reg [4, 5] (fun K hK => ?_)
  simp [okFn_low, a1]
  refine checkedPlan_ac n (il l) s hlen _ (hs.ext hE) _ fun H2 hE2 => ?_
  have hst := st2 (t := 104) ag104 (n := n) (s := s) (k := 0) (n' := 0) (s' := nilS) (p := H2.length) (H := H2 ++ [AObj.row [.int .i64 0, nilS] 0 0 false]) (by simp) (by intro h; cases h) (ls_one hs)
  simp [hI, hz, inS_ok hc, hst, cA]
  apply hK; clear hK K
  have h4 : (H2 ++ [AObj.row [.int .i64 n, s] 0 0 false])[H2.length]? = some (.row [.int .i64 n, s] 0 0 false) := by simp
  have hE3 : Ext H (H2 ++ [AObj.row [.int .i64 n, s] 0 0 false]) := (hE.trans hE2).trans (.push _ _)
  generalize H2 ++ [AObj.row [.int .i64 n, s] 0 0 false] = H3 at h4 hE3 ⊢
  have a4 := ldn_c h4 hk
  have c0 := ld_c0 h4
  have c1 := ld_c1 h4 hk
  have hs3 := hs.ext hE3
  refine L_reg [4, 5, 12] (fun K hK => ?_)
  simp [hc]
  apply hK; clear hK K
  refine L_false (by simp) ?_
  refine L_reg [2, 3] (fun K hK => ?_)
  simp [okFn_low, a4]
  refine smallest_ac hr.n6 76 [cA n s] [] (meets l) s (by kernel_rfl) _ hk (fun g hg H' hE' Q hQ => opens_q hr g (by omega) s _ (hs3.ext hE') Q hQ) _ (fun v H4 ho hE4 => ?_)
  simp
  apply hK; clear hK K
  exact L_ret ⟨.inr rfl, _, rfl, h v H4 (ho.2.mono hE3.1) (hE3.trans hE4)⟩
theorem Make_bad (n : Int) (l : List Int) (s : AV) (hlen : l.length ≤ 1000000) (hc : chk n l ≠ 0) (H : AH) (hs : Ls H s l) (Q : AV → AH → Prop) (h : Q (.tuple [cA 0 nilS, .int .i64 (chk n l)]) H) : AC Try.prog 35 [cA n s] H Q := by
  refine AC.quiet (belB_ce _ _ _) (fun Q h => ?_) Q h
  refine L_body 21 Try.func35 rfl rfl ?_
  have hk := ls_known hs
  obtain ⟨I0, hI0, hz0⟩ := zeroT_some zt40
  refine L_reg [1, 2] (fun K hK => ?_)
  simp [cA, AV.isU, acells, hI0, hz0]
  apply hK; clear hK K
  have h1 : (H ++ [AObj.row [.int .i64 n, s] 0 0 false, AObj.row [.int .i64 0, nilS] 0 0 false])[H.length]? = some (.row [.int .i64 n, s] 0 0 false) := by simp
  have h2 : (H ++ [AObj.row [.int .i64 n, s] 0 0 false, AObj.row [.int .i64 0, nilS] 0 0 false])[H.length + 1]? = some (.row [.int .i64 0, nilS] 0 0 false) := by simp
  have hE : Ext H (H ++ [AObj.row [.int .i64 n, s] 0 0 false, AObj.row [.int .i64 0, nilS] 0 0 false]) := .push _ _
  generalize H ++ [AObj.row [.int .i64 n, s] 0 0 false, AObj.row [.int .i64 0, nilS] 0 0 false] = H1 at h1 h2 hE ⊢
  have a1 := ldn_c h1 hk
  obtain ⟨I, hI, hz⟩ := zeroT_some zt94
  refine L_reg [2, 4, 5] (fun K hK => ?_)
  simp [okFn_low, a1]
  refine checkedRule_ac n l s hlen _ (hs.ext hE) _ fun H2 hE2 => ?_
  have hst := st2 (t := 94) ag94 (n := 0) (s := nilS) (k := 0) (n' := 0) (s' := nilS) (p := H2.length) (H := H2 ++ [AObj.row [.int .i64 0, nilS] 0 0 false]) (by simp) (by intro h; cases h) rfl
  simp [hI, hz, inS_bad hc, hst, cA]
  apply hK; clear hK K
  have h4 : (H2 ++ [AObj.row [.int .i64 0, nilS] 0 0 false])[H2.length]? = some (.row [.int .i64 0, nilS] 0 0 false) := by simp
  have h5 : (H2 ++ [AObj.row [.int .i64 0, nilS] 0 0 false])[H.length + 1]? = some (.row [.int .i64 0, nilS] 0 0 false) := by
    have hl2 := (List.getElem?_eq_some_iff.1 h2).1
    rw [List.getElem?_append_left (by have := hE2.1; omega), hE2.2 _ hl2]; exact h2
  have hl1 : H.length + 1 < H1.length := (List.getElem?_eq_some_iff.1 h2).1
  have hl2 : H1.length ≤ H2.length := hE2.1
  have hE3 : Ext H (H2 ++ [AObj.row [.int .i64 0, nilS] 0 0 false]) := (hE.trans hE2).trans (.push _ _)
  generalize H2 ++ [AObj.row [.int .i64 0, nilS] 0 0 false] = H3 at h4 h5 hE3 ⊢
  refine L_reg [2, 4, 5, 12] (fun K hK => ?_)
  simp
  apply hK; clear hK K
  refine L_true (by simp [hc]) ?_
  have hst2 := st2 (t := 40) ag40 (n := 0) (s := nilS) h5 (by intro h; cases h) rfl
  refine L_reg [2, 3] (fun K hK => ?_)
  simp [bd40z, hst2]
  apply hK; clear hK K
  refine L_ret ⟨.inr rfl, _, res_cell_tmp rfl ?_ rfl, h _ (hE3.set _ (by omega))⟩
  simp [ldn_c (s := nilS) (get_set h5) rfl, cA]
theorem Thin_bad (n : Int) (l : List Int) (s : AV) (hlen : l.length ≤ 1000000) (hc : chk n l ≠ 0) (H : AH) (hs : Ls H s l) (Q : AV → AH → Prop) (h : Q (.tuple [cA 0 nilS, .int .i64 (chk n l)]) H) : AC Try.prog 39 [cA n s] H Q := by
  refine AC.quiet (belB_ce _ _ _) (fun Q h => ?_) Q h
  refine L_body 25 Try.func39 rfl rfl ?_
  have hk := ls_known hs
  obtain ⟨I0, hI0, hz0⟩ := zeroT_some zt40
  refine L_reg [1, 2] (fun K hK => ?_)
  simp [cA, AV.isU, acells, hI0, hz0]
  apply hK; clear hK K
  have h1 : (H ++ [AObj.row [.int .i64 n, s] 0 0 false, AObj.row [.int .i64 0, nilS] 0 0 false])[H.length]? = some (.row [.int .i64 n, s] 0 0 false) := by simp
  have h2 : (H ++ [AObj.row [.int .i64 n, s] 0 0 false, AObj.row [.int .i64 0, nilS] 0 0 false])[H.length + 1]? = some (.row [.int .i64 0, nilS] 0 0 false) := by simp
  have hE : Ext H (H ++ [AObj.row [.int .i64 n, s] 0 0 false, AObj.row [.int .i64 0, nilS] 0 0 false]) := .push _ _
  generalize H ++ [AObj.row [.int .i64 n, s] 0 0 false, AObj.row [.int .i64 0, nilS] 0 0 false] = H1 at h1 h2 hE ⊢
  have a1 := ldn_c h1 hk
  obtain ⟨I, hI, hz⟩ := zeroT_some zt104
  refine L_reg [2, 4, 5] (fun K hK => ?_)
  simp [okFn_low, a1]
  refine checkedPlan_ac n l s hlen _ (hs.ext hE) _ fun H2 hE2 => ?_
  have hst := st2 (t := 104) ag104 (n := 0) (s := nilS) (k := 0) (n' := 0) (s' := nilS) (p := H2.length) (H := H2 ++ [AObj.row [.int .i64 0, nilS] 0 0 false]) (by simp) (by intro h; cases h) rfl
  simp [hI, hz, inS_bad hc, hst, cA]
  apply hK; clear hK K
  have h4 : (H2 ++ [AObj.row [.int .i64 0, nilS] 0 0 false])[H2.length]? = some (.row [.int .i64 0, nilS] 0 0 false) := by simp
  have h5 : (H2 ++ [AObj.row [.int .i64 0, nilS] 0 0 false])[H.length + 1]? = some (.row [.int .i64 0, nilS] 0 0 false) := by
    have hl2 := (List.getElem?_eq_some_iff.1 h2).1
    rw [List.getElem?_append_left (by have := hE2.1; omega), hE2.2 _ hl2]; exact h2
  have hl1 : H.length + 1 < H1.length := (List.getElem?_eq_some_iff.1 h2).1
  have hl2 : H1.length ≤ H2.length := hE2.1
  have hE3 : Ext H (H2 ++ [AObj.row [.int .i64 0, nilS] 0 0 false]) := (hE.trans hE2).trans (.push _ _)
  generalize H2 ++ [AObj.row [.int .i64 0, nilS] 0 0 false] = H3 at h4 h5 hE3 ⊢
  refine L_reg [2, 4, 5, 12] (fun K hK => ?_)
  simp
  apply hK; clear hK K
  refine L_true (by simp [hc]) ?_
  have hst2 := st2 (t := 40) ag40 (n := 0) (s := nilS) h5 (by intro h; cases h) rfl
  refine L_reg [2, 3] (fun K hK => ?_)
  simp [bd40z, hst2]
  apply hK; clear hK K
  refine L_ret ⟨.inr rfl, _, res_cell_tmp rfl ?_ rfl, h _ (hE3.set _ (by omega))⟩
  simp [ldn_c (s := nilS) (get_set h5) rfl, cA]
theorem Make_ok {n : Nat} {l : List Nat} (hr : OkR n l) (s : AV) (H : AH) (hs : Ls H s (il l)) (Q : AV → AH → Prop) (h : ∀ v H', OwnF H.length H' v ((il (locksS n l)).map (.int .i64)) → Ext H H' → Q (.tuple [cA n v, .int .i64 0]) H') : AC Try.prog 35 [cA n s] H Q := by
  have hc := ok_chk hr
  have hlen : (il l).length ≤ 1000000 := by rw [il_len]; have := hr.len; omega
  have h64 := pw64 hr.n6
  have hp := pw n
  refine L_body 21 Try.func35 rfl rfl ?_
  have hk := ls_known hs
  obtain ⟨I0, hI0, hz0⟩ := zeroT_some zt40
  refine L_reg [1, 2] (fun K hK => ?_)
  simp [cA, AV.isU, acells, hI0, hz0]
  apply hK; clear hK K
  have h1 : (H ++ [AObj.row [.int .i64 n, s] 0 0 false, AObj.row [.int .i64 0, nilS] 0 0 false])[H.length]? = some (.row [.int .i64 n, s] 0 0 false) := by simp
  have h2 : (H ++ [AObj.row [.int .i64 n, s] 0 0 false, AObj.row [.int .i64 0, nilS] 0 0 false])[H.length + 1]? = some (.row [.int .i64 0, nilS] 0 0 false) := by simp
  have hE : Ext H (H ++ [AObj.row [.int .i64 n, s] 0 0 false, AObj.row [.int .i64 0, nilS] 0 0 false]) := .push _ _
  generalize H ++ [AObj.row [.int .i64 n, s] 0 0 false, AObj.row [.int .i64 0, nilS] 0 0 false] = H1 at h1 h2 hE ⊢
  have a1 := ldn_c h1 hk
  obtain ⟨I, hI, hz⟩ := zeroT_some zt94
  refine L_reg [2, 4, 5] (fun K hK => ?_)
  simp [okFn_low, a1]
  refine checkedRule_ac n (il l) s hlen _ (hs.ext hE) _ fun H2 hE2 => ?_
  have hst := st2 (t := 94) ag94 (n := n) (s := s) (k := 0) (n' := 0) (s' := nilS) (p := H2.length) (H := H2 ++ [AObj.row [.int .i64 0, nilS] 0 0 false]) (by simp) (by intro h; cases h) (ls_one hs)
  simp [hI, hz, inS_ok hc, hst, cA]
  apply hK; clear hK K
  have h4 : (H2 ++ [AObj.row [.int .i64 n, s] 0 0 false])[H2.length]? = some (.row [.int .i64 n, s] 0 0 false) := by simp
  have h5 : (H2 ++ [AObj.row [.int .i64 n, s] 0 0 false])[H.length + 1]? = some (.row [.int .i64 0, nilS] 0 0 false) := by
    have hl2 := (List.getElem?_eq_some_iff.1 h2).1
    rw [List.getElem?_append_left (by have := hE2.1; omega), hE2.2 _ hl2]; exact h2
  have hl1 : H.length + 1 < H1.length := (List.getElem?_eq_some_iff.1 h2).1
  have hl2 : H1.length ≤ H2.length := hE2.1
  have hE3 : Ext H (H2 ++ [AObj.row [.int .i64 n, s] 0 0 false]) := (hE.trans hE2).trans (.push _ _)
  generalize H2 ++ [AObj.row [.int .i64 n, s] 0 0 false] = H3 at h4 h5 hE3 ⊢
  have a4 := ldn_c h4 hk
  have c0 := ld_c0 h4
  have c1 := ld_c1 h4 hk
  have hs3 := hs.ext hE3
  refine L_reg [2, 4, 5, 12] (fun K hK => ?_)
  simp [hc]
  apply hK; clear hK K
  refine L_false (by simp) ?_
  refine L_regZ mixed [] [0, 0, 1, 0, 0] [] [2, 3] (by kernel_rfl) (fun K hK => ?_)
  simp [okFn_low, a4, c0]
  refine exX_mk (fun Q hQ => AC.tidyN (fun Q h => locks_ac hr s _ hs3 Q h) Q hQ) (chE _ _) ?_
  obtain ⟨L, hL⟩ : ∃ L, il (locksS n l) = L := ⟨_, rfl⟩
  rw [hL] at h ⊢
  have ho := chO H3 L
  have hE4 := chE H3 L
  generalize chV H3 L = v at ho ⊢
  generalize chH H3 L = H4 at ho hE4 ⊢
  obtain ⟨m0, m1, m2⟩ := sl_known (ownF_sl ho)
  have hbd := bd40 n (ownF_sl ho)
  have h5' : H4[H.length + 1]? = some (.row [.int .i64 0, nilS] 0 0 false) := by rw [hE4.2 _ (List.getElem?_eq_some_iff.1 h5).1]; exact h5
  have hst2 := st2 (t := 40) ag40 (n := n) (s := v) h5' (by intro h; cases h) m1
  simp [hbd, hst2]
  have hl3 := (List.getElem?_eq_some_iff.1 h5).1
  apply hK; clear hK K
  refine L_ret ⟨.inr rfl, _, res_cell_tmp rfl ?_ rfl, h v _ ((ownF_set ho (show H.length + 1 < H3.length by omega) _).mono hE3.1) ((hE3.trans hE4).set _ (by omega))⟩
  simp [ldn_c (get_set h5') m0, cA]
theorem Thin_ok {n : Nat} {l : List Nat} (hr : OkR n l) (s : AV) (H : AH) (hs : Ls H s (il l)) (Q : AV → AH → Prop) (h : ∀ v H', OwnF H.length H' v ((il (leastS (2 ^ n) (hasG l))).map (.int .i64)) → Ext H H' → Q (.tuple [cA n v, .int .i64 0]) H') : AC Try.prog 39 [cA n s] H Q := by
  have hc := ok_chk hr
  have hlen : (il l).length ≤ 1000000 := by rw [il_len]; have := hr.len; omega
  have h64 := pw64 hr.n6
  have hp := pw n
  refine L_body 25 Try.func39 rfl rfl ?_
  have hk := ls_known hs
  obtain ⟨I0, hI0, hz0⟩ := zeroT_some zt40
  refine L_reg [1, 2] (fun K hK => ?_)
  simp [cA, AV.isU, acells, hI0, hz0]
  apply hK; clear hK K
  have h1 : (H ++ [AObj.row [.int .i64 n, s] 0 0 false, AObj.row [.int .i64 0, nilS] 0 0 false])[H.length]? = some (.row [.int .i64 n, s] 0 0 false) := by simp
  have h2 : (H ++ [AObj.row [.int .i64 n, s] 0 0 false, AObj.row [.int .i64 0, nilS] 0 0 false])[H.length + 1]? = some (.row [.int .i64 0, nilS] 0 0 false) := by simp
  have hE : Ext H (H ++ [AObj.row [.int .i64 n, s] 0 0 false, AObj.row [.int .i64 0, nilS] 0 0 false]) := .push _ _
  generalize H ++ [AObj.row [.int .i64 n, s] 0 0 false, AObj.row [.int .i64 0, nilS] 0 0 false] = H1 at h1 h2 hE ⊢
  have a1 := ldn_c h1 hk
  obtain ⟨I, hI, hz⟩ := zeroT_some zt104
  refine L_reg [2, 4, 5] (fun K hK => ?_)
  simp [okFn_low, a1]
  refine checkedPlan_ac n (il l) s hlen _ (hs.ext hE) _ fun H2 hE2 => ?_
  have hst := st2 (t := 104) ag104 (n := n) (s := s) (k := 0) (n' := 0) (s' := nilS) (p := H2.length) (H := H2 ++ [AObj.row [.int .i64 0, nilS] 0 0 false]) (by simp) (by intro h; cases h) (ls_one hs)
  simp [hI, hz, inS_ok hc, hst, cA]
  apply hK; clear hK K
  have h4 : (H2 ++ [AObj.row [.int .i64 n, s] 0 0 false])[H2.length]? = some (.row [.int .i64 n, s] 0 0 false) := by simp
  have h5 : (H2 ++ [AObj.row [.int .i64 n, s] 0 0 false])[H.length + 1]? = some (.row [.int .i64 0, nilS] 0 0 false) := by
    have hl2 := (List.getElem?_eq_some_iff.1 h2).1
    rw [List.getElem?_append_left (by have := hE2.1; omega), hE2.2 _ hl2]; exact h2
  have hl1 : H.length + 1 < H1.length := (List.getElem?_eq_some_iff.1 h2).1
  have hl2 : H1.length ≤ H2.length := hE2.1
  have hE3 : Ext H (H2 ++ [AObj.row [.int .i64 n, s] 0 0 false]) := (hE.trans hE2).trans (.push _ _)
  generalize H2 ++ [AObj.row [.int .i64 n, s] 0 0 false] = H3 at h4 h5 hE3 ⊢
  have a4 := ldn_c h4 hk
  have c0 := ld_c0 h4
  have c1 := ld_c1 h4 hk
  have hs3 := hs.ext hE3
  refine L_reg [2, 4, 5, 12] (fun K hK => ?_)
  simp [hc]
  apply hK; clear hK K
  refine L_false (by simp) ?_
  refine L_regZ mixed [] [0, 0, 1, 0, 0, 0, 0, 0, 0] [] [2, 3] (by kernel_rfl) (fun K hK => ?_)
  simp [okFn_low, a4, c0]
  refine exX_mk (fun Q hQ => AC.tidyN (fun Q h => smallest_ac hr.n6 79 [cA n s] [] (hasG l) s (by kernel_rfl) _ hk (fun g hg H' hE' Q hQ => lists_q hr g s _ (hs3.ext hE') Q hQ) Q h) Q hQ) (chE _ _) ?_
  obtain ⟨L, hL⟩ : ∃ L, il (leastS (2 ^ n) (hasG l)) = L := ⟨_, rfl⟩
  rw [hL] at h ⊢
  have ho := chO H3 L
  have hE4 := chE H3 L
  generalize chV H3 L = v at ho ⊢
  generalize chH H3 L = H4 at ho hE4 ⊢
  obtain ⟨m0, m1, m2⟩ := sl_known (ownF_sl ho)
  have hbd := bd40 n (ownF_sl ho)
  have h5' : H4[H.length + 1]? = some (.row [.int .i64 0, nilS] 0 0 false) := by rw [hE4.2 _ (List.getElem?_eq_some_iff.1 h5).1]; exact h5
  have hst2 := st2 (t := 40) ag40 (n := n) (s := v) h5' (by intro h; cases h) m1
  simp [hbd, hst2]
  have hl3 := (List.getElem?_eq_some_iff.1 h5).1
  apply hK; clear hK K
  refine L_ret ⟨.inr rfl, _, res_cell_tmp rfl ?_ rfl, h v _ ((ownF_set ho (show H.length + 1 < H3.length by omega) _).mono hE3.1) ((hE3.trans hE4).set _ (by omega))⟩
  simp [ldn_c (get_set h5') m0, cA]
end Go.Proofs.Ytcidcihpkdoejaa.Bo
