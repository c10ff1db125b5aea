/- A leaf goes out and another one comes in: the program's way, and the reference's. -/
import Derived.Test.YtpdcmdmhamnndaaWays1
namespace Go.Proofs.Ytpdcmdmhamnndaa
open Go Go.Proofs.Ytpdcmdmhamnndaa.AX

def lenS (n : Nat) : Int := if n = 0 then 0 else if n = 1 then 1 else if n < 4 then 2 else if n < 8 then 3 else 4
theorem len0 : callN (runZ cx 300) 91 [.int .u64 0] [] = some (.int .i64 0, []) := by kernel_rfl
theorem len1 : callN (runZ cx 300) 91 [.int .u64 1] [] = some (.int .i64 1, []) := by kernel_rfl
theorem len2 : callN (runZ cx 300) 91 [.int .u64 2] [] = some (.int .i64 2, []) := by kernel_rfl
theorem len3 : callN (runZ cx 300) 91 [.int .u64 3] [] = some (.int .i64 2, []) := by kernel_rfl
theorem len4 : callN (runZ cx 300) 91 [.int .u64 4] [] = some (.int .i64 3, []) := by kernel_rfl
theorem len5 : callN (runZ cx 300) 91 [.int .u64 5] [] = some (.int .i64 3, []) := by kernel_rfl
theorem len6 : callN (runZ cx 300) 91 [.int .u64 6] [] = some (.int .i64 3, []) := by kernel_rfl
theorem len7 : callN (runZ cx 300) 91 [.int .u64 7] [] = some (.int .i64 3, []) := by kernel_rfl
theorem len8 : callN (runZ cx 300) 91 [.int .u64 8] [] = some (.int .i64 4, []) := by kernel_rfl
theorem len9 : callN (runZ cx 300) 91 [.int .u64 9] [] = some (.int .i64 4, []) := by kernel_rfl
theorem len10 : callN (runZ cx 300) 91 [.int .u64 10] [] = some (.int .i64 4, []) := by kernel_rfl
theorem len11 : callN (runZ cx 300) 91 [.int .u64 11] [] = some (.int .i64 4, []) := by kernel_rfl
theorem len12 : callN (runZ cx 300) 91 [.int .u64 12] [] = some (.int .i64 4, []) := by kernel_rfl
set_option maxRecDepth 100000 in
theorem Len_ac (n : Nat) (hn : n ≤ 12) (H : AH) (Q : AV → AH → Prop) (h : Q (.int .i64 (lenS n)) H) : AC Try.prog 91 [.int .u64 n] H Q := by
  have hc : n = 0 ∨ n = 1 ∨ n = 2 ∨ n = 3 ∨ n = 4 ∨ n = 5 ∨ n = 6 ∨ n = 7 ∨ n = 8 ∨ n = 9 ∨ n = 10 ∨ n = 11 ∨ n = 12 := by omega
  rcases hc with rfl | rfl | rfl | rfl | rfl | rfl | rfl | rfl | rfl | rfl | rfl | rfl | rfl
  · exact AC_kernZ cx_ok 300 len0 (.cons (.int _ _) .nil) (.int _ _) h
  · exact AC_kernZ cx_ok 300 len1 (.cons (.int _ _) .nil) (.int _ _) h
  · exact AC_kernZ cx_ok 300 len2 (.cons (.int _ _) .nil) (.int _ _) h
  · exact AC_kernZ cx_ok 300 len3 (.cons (.int _ _) .nil) (.int _ _) h
  · exact AC_kernZ cx_ok 300 len4 (.cons (.int _ _) .nil) (.int _ _) h
  · exact AC_kernZ cx_ok 300 len5 (.cons (.int _ _) .nil) (.int _ _) h
  · exact AC_kernZ cx_ok 300 len6 (.cons (.int _ _) .nil) (.int _ _) h
  · exact AC_kernZ cx_ok 300 len7 (.cons (.int _ _) .nil) (.int _ _) h
  · exact AC_kernZ cx_ok 300 len8 (.cons (.int _ _) .nil) (.int _ _) h
  · exact AC_kernZ cx_ok 300 len9 (.cons (.int _ _) .nil) (.int _ _) h
  · exact AC_kernZ cx_ok 300 len10 (.cons (.int _ _) .nil) (.int _ _) h
  · exact AC_kernZ cx_ok 300 len11 (.cons (.int _ _) .nil) (.int _ _) h
  · exact AC_kernZ cx_ok 300 len12 (.cons (.int _ _) .nil) (.int _ _) h
theorem conv106 (n : Nat) (hn : n ≤ 1000) : aConv Try.prog 3 106 (.int .i64 n) = some (.int .u64 n) := by
  rw [cv_int (by kernel_rfl) (by kernel_rfl) n, wrap_u64 (by omega)]
set_option maxRecDepth 100000 in
theorem Sort_ac (r ver st : Nat) (l : List Int) (H : AH) (Q : AV → AH → Prop) (hr : H[r]? = some (.row (l.map (.int .i64)) ver st false)) (hl : l.length ≤ 12)
    (h : ∀ (H' : AH) (m : List Int) (s : Nat), m.Perm l → m.Pairwise (· ≤ ·) → H'[r]? = some (.row (m.map (.int .i64)) ver s false) → KeepX r H H' → Q (.tuple []) H') : AC Try.prog 56 [.slice (some r) 0 l.length ver 1 false] H Q := by
  have hpdq : ∀ (k : Int) (Q : AV → AH → Prop), (∀ (H' : AH) (m : List Int) (s : Nat), m.Perm l → m.Pairwise (· ≤ ·) → H'[r]? = some (.row (m.map (.int .i64)) ver s false) → KeepX r H H' → Q (.tuple []) H') → AC Try.prog 90 [.slice (some r) 0 l.length ver 1 false, .int .i64 0, .int .i64 l.length, .int .i64 k] H Q := by
    intro k Q h
    refine L_body 134 Try.func90 rfl rfl ?_
    refine L_reg [0, 1, 2, 3, 8] (fun K hK => ?_)
    simp
    apply hK; clear hK K
    refine L_reg [0, 1, 2, 3, 8, 9] (fun K hK => ?_)
    simp
    apply hK; clear hK K
    refine L_block (L_loopV [1, 2, 3, 8, 9] (fun (_ : Nat) vs H' => vs = [.int .i64 0, .int .i64 l.length, .int .i64 k, .bool true, .bool true] ∧ H = H') 0 _ rfl ⟨rfl, rfl⟩ ?_)
    rintro _ _ _ ⟨rfl, rfl⟩
    refine L_block ?_
    refine L_reg [0, 1, 2, 3, 8, 9, 10] (fun K hK => ?_)
    simp [wrap_i64 (a := (l.length : Int)) (by omega)]
    apply hK; clear hK K
    refine L_reg [0, 1, 2, 3, 8, 9, 10, 23] (fun K hK => ?_)
    simp
    apply hK; clear hK K
    refine L_true (by simp; omega) ?_
    refine L_reg [] (fun K hK => ?_)
    simp [okFn_low]
    refine insertion_ac r ver st l H _ hr (by omega) (fun H3 m s p1 p2 p3 p4 => ?_)
    simp
    apply hK; clear hK K
    exact L_ret ⟨.inr rfl, _, rfl, h H3 m s p1 p2 p3 p4⟩
  refine L_body 11 Try.func56 rfl rfl ?_
  refine L_reg [0, 2] (fun K hK => ?_)
  simp
  apply hK; clear hK K
  refine L_reg [] (fun K hK => ?_)
  simp [okFn_low, conv106 l.length (by omega)]
  refine Len_ac l.length hl H _ ?_
  simp [okFn_low]
  refine hpdq _ _ (fun H3 m s p1 p2 p3 p4 => ?_)
  simp
  apply hK; clear hK K
  exact ⟨.inl rfl, _, rfl, h H3 m s p1 p2 p3 p4⟩
set_option maxRecDepth 100000 in
theorem exchange_ac (n : Nat) (hn : n ≤ 10) (v : AV) (l : List Int) (out inn : Int) (H : AH) (Q : AV → AH → Prop) (hl : Okb n l) (ho : out ∈ l) (hi : 0 ≤ inn ∧ inn < n) (hin : inn ∉ l) (hv : Ls H v l) (h : ∀ v' H', OwnF H.length H' v' ((exS n l out inn).map (.int .i64)) → Ext H H' → Q v' H') : AC Try.prog 74 [v, .int .i64 out, .int .i64 inn] H Q := by
  have hlen := okb_len hl
  refine L_body 19 Try.func74 rfl rfl ?_
  refine L_reg [0, 1, 2] (fun K hK => ?_)
  simp
  apply hK; clear hK K
  refine L_reg [1, 2, 7] (fun K hK => ?_)
  simp [okFn_low]
  refine kept_ac v l H _ (by omega) hv (fun w H1 hO hE => ?_)
  rcases hO with ⟨h0, -⟩ | ⟨r, ver, st, g1, rfl, g3⟩
  · obtain rfl : l = [] := by simpa using h0
    simp at ho
  simp
  apply hK; clear hK K
  have hL1 : Ls H1 (.slice (some r) 0 l.length ver 1 false) l := Ls.row g3 false
  have hix := ixS_spec (fun y => decide (out = y)) l 0
  rcases hix with ⟨-, h2⟩ | ⟨k, hk, h1, h2, -⟩
  · have := h2 out ho; simp at this
  have hko : l[k]? = some out := by rw [List.getElem?_eq_getElem hk]; simpa [eq_comm] using h2
  have hst := store_row (P := Try.prog) (u := 3) (p := k) sc3 (x := .int .i64 inn) (y := .int .i64 l[k]) rfl g3 (by rw [List.getElem?_map, List.getElem?_eq_getElem hk]; rfl)
  rw [← List.map_set] at hst
  have hr2 := get_set (o' := .row ((l.set k inn).map (.int .i64)) ver (min st k) false) g3
  have hE2 := hE.set (.row ((l.set k inn).map (.int .i64)) ver (min st k) false) g1
  generalize hH2 : H1.set r (.row ((l.set k inn).map (.int .i64)) ver (min st k) false) = H2 at hst hr2 hE2
  refine L_reg [7] (fun K hK => ?_)
  simp [okFn_low]
  refine Index_ac _ l out _ _ (by omega) hL1 ?_
  simp [h1, hk, hst]
  apply hK; clear hK K
  have hll : (l.set k inn).length = l.length := by simp
  have hsort := Sort_ac r ver (min st k) (l.set k inn) H2
  rw [hll] at hsort
  refine L_reg [7] (fun K hK => ?_)
  simp [okFn_low]
  refine hsort _ hr2 (by omega) (fun H3 m s p1 p2 p3 p4 => ?_)
  simp
  apply hK; clear hK K
  refine L_reg [6] (fun K hK => ?_)
  simp
  apply hK; clear hK K
  have hm := sort_exS hl hko hi hin p1 p2
  have hml : m.length = l.length := by rw [p1.length_eq, hll]
  refine L_ret ⟨.inr rfl, _, rfl, h _ _ (.inr ⟨r, ver, s, g1, by rw [← hm]; simp [hml], by rw [← hm]; exact p3⟩) ⟨Nat.le_trans hE2.1 p4.1, fun j hj => ?_⟩⟩
  have hle := hE.1
  have hll2 := hE2.1
  rw [p4.2 j (by omega) (by omega)]; exact hE2.2 j hj
set_option maxRecDepth 100000 in
theorem exchanged_ac (n : Nat) (hn : n ≤ 10) (v : AV) (l : List Int) (out inn : Int) (H : AH) (Q : AV → AH → Prop) (hl : l.length ≤ 1000000) (hv : Ls H v l) (h : ∀ v' H', OwnF H.length H' v' ((exS n l out inn).map (.int .i64)) → Ext H H' → Q v' H') : AC Try.prog 75 [.int .i64 n, v, .int .i64 out, .int .i64 inn] H Q := by
  refine L_body 34 Try.func75 rfl rfl ?_
  refine L_reg [0, 1, 2, 3] (fun K hK => ?_)
  simp
  apply hK; clear hK K
  refine L_reg [0, 1, 2, 3, 9] (fun K hK => ?_)
  simp
  apply hK; clear hK K
  refine L_reg [0, 1, 2, 3, 9, 10] (fun K hK => ?_)
  simp
  apply hK; clear hK K
  refine L_block (L_loopV [9, 10] (fun k vs H' => ∃ (i : Nat) (w : AV), k = n - i ∧ i ≤ n ∧ OwnF H.length H' w ((exS i l out inn).map (.int .i64)) ∧ Ext H H' ∧ vs = [w, .int .i64 i]) _ [.slice none 0 0 0 1 false, .int .i64 (0 : Nat)] rfl ⟨0, _, rfl, by omega, .nil _ _, .refl H, rfl⟩ ?_)
  rintro k _ H1 ⟨i, w, rfl, hi, hO, hE, rfl⟩
  refine L_reg [0, 1, 2, 3, 9, 10, 13] (fun K hK => ?_)
  simp
  apply hK; clear hK K
  refine L_dec (i < n) (by simp) (fun hlt => ?_) (fun hge => L_exit ?_)
  · have hs : exS (i + 1) l out inn = exS i l out inn ++ if ((i : Int) == inn || (i : Int) != out && decide ((i : Int) ∈ l)) = true then [(i : Int)] else [] := by
      unfold exS
      rw [iota_succ, List.filter_append]
      congr 1
      by_cases hb : ((i : Int) == inn || (i : Int) != out && decide ((i : Int) ∈ l)) = true
      · rw [if_pos hb, List.filter_cons, if_pos hb]; rfl
      · rw [if_neg hb, List.filter_cons, if_neg hb]; rfl
    have hlen : (exS i l out inn).length ≤ i := by
      unfold exS
      exact Nat.le_trans (List.length_filter_le _ _) (by simp)
    refine L_block ?_
    have more : ((i : Int) == inn || (i : Int) != out && decide ((i : Int) ∈ l)) = true → ∃ v' H', aAppend Try.prog (H1 ++ [.row [.int .i64 i] 0 1 false]) 22 22 w (.slice (some H1.length) 0 1 0 1 false) = some (v', H') ∧ OwnF H.length H' v' ((exS (i + 1) l out inn).map (.int .i64)) ∧ Ext H H' := by
      intro hb
      rw [hs, if_pos hb, List.map_append]
      exact ownF_append hE el22 el22 (x := .int .i64 (i : Int)) (m := 1) hO rfl (by simp; omega)
    have less : ((i : Int) == inn || (i : Int) != out && decide ((i : Int) ∈ l)) = false → exS (i + 1) l out inn = exS i l out inn := by
      intro hb; rw [hs, hb]; simp
    by_cases h1 : (i : Int) = inn
    · refine L_reg [0, 1, 2, 3, 9, 10, 28] (fun K hK => ?_)
      simp [pickV, guardVal, show ((i : Int) == inn) = true by simpa using h1]
      apply hK; clear hK K
      refine L_true (by simp) ?_
      obtain ⟨v', H', he, hO', hE'⟩ := more (by simp [h1])
      refine L_reg [0, 1, 2, 3, 9, 10] (fun K hK => ?_)
      simp [he]
      apply hK; clear hK K
      refine L_reg [0, 1, 2, 3, 9, 10] (fun K hK => ?_)
      simp [wrap_i64 (a := (i : Int) + 1) (by omega)]
      apply hK; clear hK K
      exact ⟨n - (i + 1), [v', .int .i64 (i + 1 : Nat)], by omega, by simp, i + 1, v', rfl, by omega, hO', hE', rfl⟩
    · have b1 : ((i : Int) == inn) = false := by simpa using h1
      by_cases h2 : (i : Int) = out
      · refine L_reg [0, 1, 2, 3, 9, 10, 28] (fun K hK => ?_)
        simp [pickV, b1, show ((i : Int) != out) = false by simpa using h2]
        apply hK; clear hK K
        refine L_false (by simp) ?_
        refine L_reg [0, 1, 2, 3, 9, 10] (fun K hK => ?_)
        simp [wrap_i64 (a := (i : Int) + 1) (by omega)]
        apply hK; clear hK K
        exact ⟨n - (i + 1), [w, .int .i64 (i + 1 : Nat)], by omega, by simp, i + 1, w, rfl, by omega, by rw [less (by rw [b1]; simp [h2])]; exact hO, hE, rfl⟩
      · have b2 : ((i : Int) != out) = true := by simpa using h2
        refine L_reg [0, 1, 2, 3, 9, 10, 28] (fun K hK => ?_)
        simp [okFn_low, pickV, b1, b2]
        refine has_ac v l i H1 _ hl (hv.ext hE) ?_
        simp [pickV]
        apply hK; clear hK K
        by_cases h3 : (i : Int) ∈ l
        · refine L_true (by simp [h3]) ?_
          obtain ⟨v', H', he, hO', hE'⟩ := more (by simp [h2, h3])
          refine L_reg [0, 1, 2, 3, 9, 10] (fun K hK => ?_)
          simp [he]
          apply hK; clear hK K
          refine L_reg [0, 1, 2, 3, 9, 10] (fun K hK => ?_)
          simp [wrap_i64 (a := (i : Int) + 1) (by omega)]
          apply hK; clear hK K
          exact ⟨n - (i + 1), [v', .int .i64 (i + 1 : Nat)], by omega, by simp, i + 1, v', rfl, by omega, hO', hE', rfl⟩
        · refine L_false (by simp [h3]) ?_
          refine L_reg [0, 1, 2, 3, 9, 10] (fun K hK => ?_)
          simp [wrap_i64 (a := (i : Int) + 1) (by omega)]
          apply hK; clear hK K
          exact ⟨n - (i + 1), [w, .int .i64 (i + 1 : Nat)], by omega, by simp, i + 1, w, rfl, by omega, by rw [less (by rw [b1]; simp [h3])]; exact hO, hE, rfl⟩
  · obtain rfl : i = n := by omega
    refine L_reg [8] (fun K hK => ?_)
    simp
    apply hK; clear hK K
    exact L_ret ⟨.inr rfl, _, rfl, h _ _ hO hE⟩
end Go.Proofs.Ytpdcmdmhamnndaa
