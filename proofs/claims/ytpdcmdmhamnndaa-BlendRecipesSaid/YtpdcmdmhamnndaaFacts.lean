/- What the steps ask of the types of this program. -/
import Derived.Test.YtpdcmdmhamnndaaBase
import Derived.Test.YtpdcmdmhamnndaaAxR
namespace Go.Proofs.Ytpdcmdmhamnndaa
open Go Go.Proofs.Ytpdcmdmhamnndaa.AX
@[simp] theorem len22 (r : Option Nat) (off len ver sz : Nat) (full : Bool) : aLen Try.prog 22 (.slice r off len ver sz full) = some (.int .i64 len) := len_sl (n := 1) (by kernel_rfl) ..
@[simp] theorem ixa22 (r off len ver : Nat) (full : Bool) (k : IntKind) (i : Int) : aIndexAddr Try.prog 22 (.slice (some r) off len ver 1 full) (.int k i) = if 0 ≤ i ∧ i < len then some (.ptr r (off + i.toNat * 1) ver) else none := ixa_sl (by kernel_rfl) ..
@[simp] theorem len37 (r : Option Nat) (off len ver sz : Nat) (full : Bool) : aLen Try.prog 37 (.slice r off len ver sz full) = some (.int .i64 len) := len_sl (n := 1) (by kernel_rfl) ..
@[simp] theorem ixa37 (r off len ver : Nat) (full : Bool) (k : IntKind) (i : Int) : aIndexAddr Try.prog 37 (.slice (some r) off len ver 1 full) (.int k i) = if 0 ≤ i ∧ i < len then some (.ptr r (off + i.toNat * 1) ver) else none := ixa_sl (by kernel_rfl) ..
@[simp] theorem ld3 (H : AH) (r off ver : Nat) : loadV Try.prog 3 H (.ptr r off ver) = ld H r off ver := ld_sc (by kernel_rfl) ..
@[simp] theorem ld4 (H : AH) (r off ver : Nat) : loadV Try.prog 4 H (.ptr r off ver) = ld H r off ver := ld_sc (by kernel_rfl) ..
@[simp] theorem ld5 (H : AH) (r off ver : Nat) : loadV Try.prog 5 H (.ptr r off ver) = ld H r off ver := ld_sc (by kernel_rfl) ..
@[simp] theorem ld22 (H : AH) (r off ver : Nat) : loadV Try.prog 22 H (.ptr r off ver) = ld H r off ver := ld_sc (by kernel_rfl) ..
@[simp] theorem ld110 (H : AH) (r off ver : Nat) : loadV Try.prog 110 H (.ptr r off ver) = ld H r off ver := ld_sc (by kernel_rfl) ..
theorem sc3 : scal Try.prog 3 = true := by kernel_rfl
theorem sc4 : scal Try.prog 4 = true := by kernel_rfl
theorem sc22 : scal Try.prog 22 = true := by kernel_rfl
theorem el22 : elT Try.prog 22 = true := by kernel_rfl
theorem el37 : elT Try.prog 37 = true := by kernel_rfl
theorem elz22 : elZ Try.prog 22 = some (.int .i64 0) := by kernel_rfl
theorem slz22 : slSz Try.prog 22 = some 1 := by kernel_rfl
theorem zt3 : zeroT Try.prog 3 = some [.int .i64 0] := by kernel_rfl
theorem zt22 : zeroT Try.prog 22 = some [.slice none 0 0 0 1 false] := by kernel_rfl
@[simp] theorem row22 (H : AH) (b : Int) : rowV Try.prog 22 1 [(0, .int .i64 b)] H = some (some (.slice (some H.length) 0 1 0 1 false), H ++ [.row [.int .i64 b] 0 1 false]) := row1 el22 rfl rfl
theorem ag112 : aggSz Try.prog 112 = some 2 := by kernel_rfl
@[simp] theorem ld112 (H : AH) (r off ver : Nat) : loadV Try.prog 112 H (.ptr r off ver) = (ldn H r ver 2 off).map .agg := load_agg ag112 ..
@[simp] theorem fa1120 (r off ver : Nat) : aFieldAddr Try.prog 112 (.ptr r off ver) 0 = some (.ptr r (off + 0) ver) := fld_ptr (by kernel_rfl) ..
@[simp] theorem fa1121 (r off ver : Nat) : aFieldAddr Try.prog 112 (.ptr r off ver) 1 = some (.ptr r (off + 1) ver) := fld_ptr (by kernel_rfl) ..
@[simp] theorem built112 (w K r : Nat) : aBuilt Try.prog 112 [(0, .slice (some w) 0 K 0 1 false), (1, .yld r)] = some [.slice (some w) 0 K 0 1 false, .yld r] := by kernel_rfl
theorem get_set {H : AH} {r : Nat} {o o' : AObj} (h : H[r]? = some o) : (H.set r o')[r]? = some o' := by
  have := (List.getElem?_eq_some_iff.1 h).1
  simp [this]
theorem Ls.flat {H : AH} {v : AV} {l : List Int} (h : Ls H v l) (hne : 0 < l.length) : ∃ r off ver full, v = .slice (some r) off l.length ver 1 full ∧ ∀ i (hi : i < l.length), ld H r (off + i) ver = some (.int .i64 l[i]) := by
  obtain ⟨r, off, ver, sz, full, rfl, hl⟩ := h
  obtain ⟨r', rfl, rfl, -⟩ := hl 0 hne
  refine ⟨r', off, ver, full, rfl, fun i hi => ?_⟩
  obtain ⟨r2, h1, -, h3⟩ := hl i hi
  obtain rfl := Option.some.inj h1
  exact h3

/-! ### What is checked -/
def leavesE (n : Int) : Int := if n < 1 ∨ 10 < n then 1 else 0
theorem checkLeaves_ac (n : Int) (H : AH) (Q : AV → AH → Prop) (h : Q (.int .i64 (leavesE n)) H) : AC Try.prog 69 [.int .i64 n] H Q := by
  refine L_body 9 Try.func69 rfl rfl ?_
  refine L_reg [0] (fun K hK => ?_)
  simp
  apply hK; clear hK K
  by_cases h1 : n < 1
  · refine L_reg [8] (fun K hK => ?_)
    simp [pickV, h1]
    apply hK; clear hK K
    refine L_true (by simp) ?_
    refine L_reg [2] (fun K hK => ?_)
    simp
    apply hK; clear hK K
    exact L_ret ⟨.inr rfl, _, rfl, by simpa [leavesE, h1] using h⟩
  · refine L_reg [8] (fun K hK => ?_)
    simp [pickV, h1]
    apply hK; clear hK K
    refine L_dec (10 < n) (by simp) (fun h2 => ?_) (fun h2 => ?_)
    · refine L_reg [2] (fun K hK => ?_)
      simp
      apply hK; clear hK K
      exact L_ret ⟨.inr rfl, _, rfl, by simpa [leavesE, h2] using h⟩
    · refine L_reg [2] (fun K hK => ?_)
      simp
      apply hK; clear hK K
      exact L_ret ⟨.inr rfl, _, rfl, by simpa [leavesE, h1, h2] using h⟩
def sizeE (n k : Int) : Int := if leavesE n = 0 then (if k < 0 ∨ n < k then 1 else 0) else leavesE n
theorem checkSize_ac (n k : Int) (H : AH) (Q : AV → AH → Prop) (h : Q (.int .i64 (sizeE n k)) H) : AC Try.prog 59 [.int .i64 n, .int .i64 k] H Q := by
  refine L_body 18 Try.func59 rfl rfl ?_
  refine L_reg [0, 1] (fun K hK => ?_)
  simp
  apply hK; clear hK K
  refine L_reg [0, 1, 5] (fun K hK => ?_)
  simp [okFn_low]
  refine checkLeaves_ac n _ _ ?_
  simp
  apply hK; clear hK K
  refine L_reg [0, 1, 5, 9] (fun K hK => ?_)
  simp
  apply hK; clear hK K
  unfold sizeE at h
  refine L_split rfl (fun ht => ?_) (fun hf => ?_)
  · have hne : leavesE n ≠ 0 := by simpa using ht
    rw [if_neg hne] at h
    refine L_reg [4] (fun K hK => ?_)
    simp
    apply hK; clear hK K
    exact L_ret ⟨.inr rfl, _, rfl, h⟩
  · have he : leavesE n = 0 := by simpa using hf
    rw [if_pos he] at h
    by_cases h1 : k < 0
    · rw [if_pos (.inl h1)] at h
      refine L_reg [17] (fun K hK => ?_)
      simp [pickV, h1]
      apply hK; clear hK K
      refine L_true (by simp) ?_
      refine L_reg [4] (fun K hK => ?_)
      simp
      apply hK; clear hK K
      exact L_ret ⟨.inr rfl, _, rfl, h⟩
    · refine L_reg [17] (fun K hK => ?_)
      simp [pickV, h1]
      apply hK; clear hK K
      refine L_dec (n < k) (by simp) (fun h2 => ?_) (fun h2 => ?_)
      · rw [if_pos (.inr h2)] at h
        refine L_reg [4] (fun K hK => ?_)
        simp
        apply hK; clear hK K
        exact L_ret ⟨.inr rfl, _, rfl, h⟩
      · rw [if_neg (by omega)] at h
        refine L_reg [4] (fun K hK => ?_)
        simp
        apply hK; clear hK K
        exact L_ret ⟨.inr rfl, _, rfl, h⟩
/-- The first error of leaves behind one. -/
def chk (n : Int) : Int → List Int → Int
  | _, [] => 0
  | b, x :: l => if x < 0 ∨ n ≤ x then 2 else if x ≤ b then 7 else chk n x l
def checkE (n : Int) (l : List Int) : Int := if leavesE n = 0 then chk n (-1) l else leavesE n
theorem chk_drop {n b : Int} {l : List Int} {i : Nat} (hi : i < l.length) : chk n b (l.drop i) = if l[i] < 0 ∨ n ≤ l[i] then 2 else if l[i] ≤ b then 7 else chk n l[i] (l.drop (i + 1)) := by
  rw [List.drop_eq_getElem_cons hi]; rfl
theorem Check_ac (n : Int) (v : AV) (l : List Int) (H : AH) (Q : AV → AH → Prop) (hl : l.length ≤ 1000000) (hv : Ls H v l) (h : Q (.int .i64 (checkE n l)) H) : AC Try.prog 25 [.int .i64 n, v] H Q := by
  obtain ⟨r, off, ver, sz, full, rfl, hld⟩ := hv
  refine L_body 32 Try.func25 rfl rfl ?_
  refine L_reg [0, 1] (fun K hK => ?_)
  simp
  apply hK; clear hK K
  refine L_reg [0, 1, 5] (fun K hK => ?_)
  simp [okFn_low]
  refine checkLeaves_ac n _ _ ?_
  simp
  apply hK; clear hK K
  refine L_reg [0, 1, 5, 12] (fun K hK => ?_)
  simp
  apply hK; clear hK K
  unfold checkE at h
  refine L_split rfl (fun ht => ?_) (fun hf => ?_)
  · have hne : leavesE n ≠ 0 := by simpa using ht
    rw [if_neg hne] at h
    refine L_reg [4] (fun K hK => ?_)
    simp
    apply hK; clear hK K
    exact L_ret ⟨.inr rfl, _, rfl, h⟩
  · have he : leavesE n = 0 := by simpa using hf
    rw [if_pos he] at h
    refine L_reg [0, 1, 6] (fun K hK => ?_)
    simp
    apply hK; clear hK K
    refine L_reg [0, 6, 14, 15, 16] (fun K hK => ?_)
    simp
    apply hK; clear hK K
    refine L_block (L_loopV [6, 16] (fun k vs H' => ∃ (i : Nat) (b : Int), k = l.length - i ∧ i ≤ l.length ∧ chk n (-1) l = chk n b (l.drop i) ∧ vs = [.int .i64 b, .int .i64 i] ∧ H = H') _ [.int .i64 (-1), .int .i64 (0 : Nat)] rfl ⟨0, -1, rfl, by omega, rfl, rfl, rfl⟩ ?_)
    rintro k _ _ ⟨i, b, rfl, hi, hce, rfl, rfl⟩
    refine L_reg [0, 6, 14, 15, 16, 17] (fun K hK => ?_)
    simp
    apply hK; clear hK K
    refine L_dec (i < l.length) (by simp) (fun hlt => ?_) (fun hge => L_exit ?_)
    · obtain ⟨r', rfl, rfl, hrd⟩ := hld i hlt
      rw [chk_drop hlt] at hce
      generalize l[i] = x at hrd hce
      refine L_block ?_
      refine L_reg [0, 6, 8, 14, 15, 16] (fun K hK => ?_)
      simp [hlt, hrd]
      apply hK; clear hK K
      by_cases h0 : x < 0
      · rw [if_pos (.inl h0)] at hce
        refine L_reg [0, 6, 8, 14, 15, 16, 26] (fun K hK => ?_)
        simp [pickV, h0]
        apply hK; clear hK K
        refine L_true (by simp) ?_
        refine L_reg [4] (fun K hK => ?_)
        simp
        apply hK; clear hK K
        exact L_ret ⟨.inr rfl, _, rfl, by rw [hce] at h; exact h⟩
      · refine L_reg [0, 6, 8, 14, 15, 16, 26] (fun K hK => ?_)
        simp [pickV, h0]
        apply hK; clear hK K
        refine L_dec (n ≤ x) (by simp) (fun h1 => ?_) (fun h1 => ?_)
        · rw [if_pos (.inr h1)] at hce
          refine L_reg [4] (fun K hK => ?_)
          simp
          apply hK; clear hK K
          exact L_ret ⟨.inr rfl, _, rfl, by rw [hce] at h; exact h⟩
        · rw [if_neg (by omega)] at hce
          refine L_reg [0, 8, 14, 15, 16, 29] (fun K hK => ?_)
          simp
          apply hK; clear hK K
          refine L_dec (x ≤ b) (by simp) (fun h2 => ?_) (fun h2 => ?_)
          · rw [if_pos h2] at hce
            refine L_reg [4] (fun K hK => ?_)
            simp
            apply hK; clear hK K
            exact L_ret ⟨.inr rfl, _, rfl, by rw [hce] at h; exact h⟩
          · rw [if_neg h2] at hce
            refine L_reg [0, 6, 14, 15, 16] (fun K hK => ?_)
            simp
            apply hK; clear hK K
            refine L_reg [0, 6, 14, 15, 16] (fun K hK => ?_)
            simp [wrap_i64 (a := (i : Int) + 1) (by omega)]
            apply hK; clear hK K
            exact ⟨l.length - (i + 1), [.int .i64 x, .int .i64 (i + 1 : Nat)], by omega, by simp, i + 1, x, rfl, by omega, hce, rfl, rfl⟩
    · have : i = l.length := by omega
      subst this
      rw [List.drop_length] at hce
      refine L_reg [4] (fun K hK => ?_)
      simp
      apply hK; clear hK K
      exact L_ret ⟨.inr rfl, _, rfl, by rw [hce] at h; exact h⟩
end Go.Proofs.Ytpdcmdmhamnndaa
