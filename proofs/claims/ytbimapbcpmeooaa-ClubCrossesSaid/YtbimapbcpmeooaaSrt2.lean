/- A list of at most twelve numbers is sorted. -/
import Derived.Test.YtbimapbcpmeooaaSrt1
import Derived.Test.YtbimapbcpmeooaaSrtC
namespace Go.Proofs.Ytbimapbcpmeooaa
open Go Go.Proofs.Ytbimapbcpmeooaa.AX

def lenB (n : Nat) : Int := if n = 0 then 0 else if n = 1 then 1 else if n < 4 then 2 else if n < 8 then 3 else 4
theorem len0 : callN (runZ cx 300) 85 [.int .u64 0] [] = some (.int .i64 0, []) := by kernel_rfl
theorem len1 : callN (runZ cx 300) 85 [.int .u64 1] [] = some (.int .i64 1, []) := by kernel_rfl
theorem len2 : callN (runZ cx 300) 85 [.int .u64 2] [] = some (.int .i64 2, []) := by kernel_rfl
theorem len3 : callN (runZ cx 300) 85 [.int .u64 3] [] = some (.int .i64 2, []) := by kernel_rfl
theorem len4 : callN (runZ cx 300) 85 [.int .u64 4] [] = some (.int .i64 3, []) := by kernel_rfl
theorem len5 : callN (runZ cx 300) 85 [.int .u64 5] [] = some (.int .i64 3, []) := by kernel_rfl
theorem len6 : callN (runZ cx 300) 85 [.int .u64 6] [] = some (.int .i64 3, []) := by kernel_rfl
theorem len7 : callN (runZ cx 300) 85 [.int .u64 7] [] = some (.int .i64 3, []) := by kernel_rfl
theorem len8 : callN (runZ cx 300) 85 [.int .u64 8] [] = some (.int .i64 4, []) := by kernel_rfl
theorem len9 : callN (runZ cx 300) 85 [.int .u64 9] [] = some (.int .i64 4, []) := by kernel_rfl
theorem len10 : callN (runZ cx 300) 85 [.int .u64 10] [] = some (.int .i64 4, []) := by kernel_rfl
theorem len11 : callN (runZ cx 300) 85 [.int .u64 11] [] = some (.int .i64 4, []) := by kernel_rfl
theorem len12 : callN (runZ cx 300) 85 [.int .u64 12] [] = some (.int .i64 4, []) := by kernel_rfl
set_option maxRecDepth 100000 in
theorem Len_ac (n : Nat) (hn : n ≤ 12) (H : AH) (Q : AV → AH → Prop) (h : Q (.int .i64 (lenB n)) H) : AC Try.prog 85 [.int .u64 n] H Q := by
  have hc : n = 0 ∨ n = 1 ∨ n = 2 ∨ n = 3 ∨ n = 4 ∨ n = 5 ∨ n = 6 ∨ n = 7 ∨ n = 8 ∨ n = 9 ∨ n = 10 ∨ n = 11 ∨ n = 12 := by omega
  rcases hc with rfl | rfl | rfl | rfl | rfl | rfl | rfl | rfl | rfl | rfl | rfl | rfl | rfl
  · exact AC_kernZ cx_ok 300 len0 (.cons (.int _ _) .nil) (.int _ _) h
  · exact AC_kernZ cx_ok 300 len1 (.cons (.int _ _) .nil) (.int _ _) h
  · exact AC_kernZ cx_ok 300 len2 (.cons (.int _ _) .nil) (.int _ _) h
  · exact AC_kernZ cx_ok 300 len3 (.cons (.int _ _) .nil) (.int _ _) h
  · exact AC_kernZ cx_ok 300 len4 (.cons (.int _ _) .nil) (.int _ _) h
  · exact AC_kernZ cx_ok 300 len5 (.cons (.int _ _) .nil) (.int _ _) h
  · exact AC_kernZ cx_ok 300 len6 (.cons (.int _ _) .nil) (.int _ _) h
  · exact AC_kernZ cx_ok 300 len7 (.cons (.int _ _) .nil) (.int _ _) h
  · exact AC_kernZ cx_ok 300 len8 (.cons (.int _ _) .nil) (.int _ _) h
  · exact AC_kernZ cx_ok 300 len9 (.cons (.int _ _) .nil) (.int _ _) h
  · exact AC_kernZ cx_ok 300 len10 (.cons (.int _ _) .nil) (.int _ _) h
  · exact AC_kernZ cx_ok 300 len11 (.cons (.int _ _) .nil) (.int _ _) h
  · exact AC_kernZ cx_ok 300 len12 (.cons (.int _ _) .nil) (.int _ _) h
theorem conv115 (n : Nat) (hn : n ≤ 1000) : aConv Try.prog 3 115 (.int .i64 n) = some (.int .u64 n) := by
  rw [cv_int (by kernel_rfl) (by kernel_rfl) n, wrap_u64 (by omega)]
set_option maxRecDepth 100000 in
theorem Sort_ac (r ver st : Nat) (l : List Int) (H : AH) (Q : AV → AH → Prop) (hr : H[r]? = some (.row (l.map (.int .i64)) ver st false)) (hl : l.length ≤ 12)
    (h : ∀ (H' : AH) (m : List Int) (s : Nat), m.Perm l → m.Pairwise (· ≤ ·) → H'[r]? = some (.row (m.map (.int .i64)) ver s false) → KeepX r H H' → Q (.tuple []) H') : AC Try.prog 86 [.slice (some r) 0 l.length ver 1 false] H Q := by
  have hpdq : ∀ (k : Int) (Q : AV → AH → Prop), (∀ (H' : AH) (m : List Int) (s : Nat), m.Perm l → m.Pairwise (· ≤ ·) → H'[r]? = some (.row (m.map (.int .i64)) ver s false) → KeepX r H H' → Q (.tuple []) H') → AC Try.prog 109 [.slice (some r) 0 l.length ver 1 false, .int .i64 0, .int .i64 l.length, .int .i64 k] H Q := by
    intro k Q h
    refine L_body 134 Try.func109 rfl rfl ?_
    refine L_reg [0, 1, 2, 3, 8] (fun K hK => ?_)
    simp
    apply hK; clear hK K
    refine L_reg [0, 1, 2, 3, 8, 9] (fun K hK => ?_)
    simp
    apply hK; clear hK K
    refine L_block (L_loopV [1, 2, 3, 8, 9] (fun (_ : Nat) vs H' => vs = [.int .i64 0, .int .i64 l.length, .int .i64 k, .bool true, .bool true] ∧ H = H') 0 _ rfl ⟨rfl, rfl⟩ ?_)
    rintro _ _ _ ⟨rfl, rfl⟩
    refine L_block ?_
    refine L_reg [0, 1, 2, 3, 8, 9, 10] (fun K hK => ?_)
    simp [wrap_i64 (a := (l.length : Int)) (by omega)]
    apply hK; clear hK K
    refine L_reg [0, 1, 2, 3, 8, 9, 10, 23] (fun K hK => ?_)
    simp
    apply hK; clear hK K
    refine L_true (by simp; omega) ?_
    refine L_reg [] (fun K hK => ?_)
    simp [okFn_low]
    refine insertion_ac r ver st l H _ hr (by omega) (fun H3 m s p1 p2 p3 p4 => ?_)
    simp
    apply hK; clear hK K
    exact L_ret ⟨.inr rfl, _, rfl, h H3 m s p1 p2 p3 p4⟩
  refine L_body 11 Try.func86 rfl rfl ?_
  refine L_reg [0, 2] (fun K hK => ?_)
  simp
  apply hK; clear hK K
  refine L_reg [] (fun K hK => ?_)
  simp [okFn_low, conv115 l.length (by omega)]
  refine Len_ac l.length hl H _ ?_
  simp [okFn_low]
  refine hpdq _ _ (fun H3 m s p1 p2 p3 p4 => ?_)
  simp
  apply hK; clear hK K
  exact ⟨.inl rfl, _, rfl, h H3 m s p1 p2 p3 p4⟩

set_option maxRecDepth 100000 in
theorem SortFunc_ac (f : FuncId) (caps : List AV) (D : Int → Prop) (κ : Int → Int) (r ver : Nat) (c : List Int) (H : AH) (Q : AV → AH → Prop) (hC : Cmp f caps D κ r H) (hr : Rw r ver H c) (hD : All D c) (hl : c.length ≤ 12)
    (h : ∀ (H' : AH) (m : List Int), Shuf 0 c.length c m → Srt κ 0 c.length m → Rw r ver H' m → KeepX r H H' → Q (.tuple []) H') : AC Try.prog 54 [.slice (some r) 0 c.length ver 1 false, .func (.func f) [] caps] H Q := by
  have hpdq : ∀ (k : Int) (Q : AV → AH → Prop), (∀ (H' : AH) (m : List Int), Shuf 0 c.length c m → Srt κ 0 c.length m → Rw r ver H' m → KeepX r H H' → Q (.tuple []) H') → AC Try.prog 84 [.slice (some r) 0 c.length ver 1 false, .int .i64 0, .int .i64 c.length, .int .i64 k, .func (.func f) [] caps] H Q := by
    intro k Q h
    refine L_body 148 Try.func84 rfl rfl ?_
    refine L_reg [0, 1, 2, 3, 4, 10] (fun K hK => ?_)
    simp
    apply hK; clear hK K
    refine L_reg [0, 1, 2, 3, 4, 10, 11] (fun K hK => ?_)
    simp
    apply hK; clear hK K
    refine L_block (L_loopV [1, 2, 3, 10, 11] (fun (_ : Nat) vs H' => vs = [.int .i64 0, .int .i64 c.length, .int .i64 k, .bool true, .bool true] ∧ H = H') 0 _ rfl ⟨rfl, rfl⟩ ?_)
    rintro _ _ _ ⟨rfl, rfl⟩
    refine L_block ?_
    refine L_reg [0, 1, 2, 3, 4, 10, 11, 12] (fun K hK => ?_)
    simp [wrap_i64 (a := (c.length : Int)) (by omega)]
    apply hK; clear hK K
    refine L_reg [0, 1, 2, 3, 4, 10, 11, 12, 25] (fun K hK => ?_)
    simp
    apply hK; clear hK K
    refine L_true (by simp; omega) ?_
    refine L_reg [] (fun K hK => ?_)
    simp [okFn_low]
    refine insertionF_ac f caps D κ r ver 0 c.length c H _ hC hr hD (by omega) (by omega) (by omega) (fun H3 m p1 p2 p3 p4 => ?_)
    simp
    apply hK; clear hK K
    exact L_ret ⟨.inr rfl, _, rfl, h H3 m p1 p2 p3 p4⟩
  refine L_body 14 Try.func54 rfl rfl ?_
  refine L_reg [0, 1, 4] (fun K hK => ?_)
  simp
  apply hK; clear hK K
  refine L_reg [] (fun K hK => ?_)
  simp [okFn_low, conv115 c.length (by omega)]
  refine Len_ac c.length hl H _ ?_
  simp [okFn_low]
  refine hpdq _ _ (fun H3 m p1 p2 p3 p4 => ?_)
  simp
  apply hK; clear hK K
  exact ⟨.inl rfl, _, rfl, h H3 m p1 p2 p3 p4⟩
end Go.Proofs.Ytbimapbcpmeooaa
