/- BlendMetric, walked. -/
import Derived.Test.YtpdcmdmhamnndaaMetric
namespace Go.Proofs.Ytpdcmdmhamnndaa
open Go Go.Proofs.Ytpdcmdmhamnndaa.AX

theorem u8s_len (ns : List Nat) : (u8s ns).length = ns.length := by simp [u8s]
theorem ldn_u8s {H : AH} {r s : Nat} {ns : List Nat} (hr : H[r]? = some (.row (u8s ns) 0 s false)) (hl : ns.length = 10) : ldn H r 0 10 0 = some (u8s ns) := by
  rw [ldn_row hr, List.drop_zero]
  have := takeKnown_row (l := u8s ns) (fun v hv => by unfold u8s at hv; obtain ⟨m, -, rfl⟩ := List.mem_map.1 hv; simp) []
  rw [List.append_nil, u8s_len, hl] at this
  exact this
@[simp] theorem eq_bool (l b c : Bool) : binV Try.prog .eql 4 l (.bool b) (.bool c) = some (.bool (b == c)) := by
  cases l <;> cases b <;> cases c <;> kernel_rfl
set_option maxRecDepth 100000 in
theorem blendMetric_ac (x y : Nat) (hx : x < 256) (hy : y < 256) (n1 n2 n3 : List Nat) (l1 : n1.length = 10) (l2 : n2.length = 10) (l3 : n3.length = 10) (b1 : ∀ x ∈ n1, x < 256) (b2 : ∀ x ∈ n2, x < 256) (b3 : ∀ x ∈ n3, x < 256) (H : AH) :
    AC Try.prog 9 [.int .u8 x, .int .u8 y, .agg (u8s n1), .agg (u8s n2), .agg (u8s n3)] H fun u _ => u = .bool true := by
  refine L_body 143 Try.func9 rfl rfl ?_
  refine L_reg [0, 1, 7, 8, 9] (fun K hK => ?_)
  simp [AV.isU, acells]
  apply hK; clear hK K
  have r7 : (H ++ [AObj.row (u8s n1) 0 0 false, .row (u8s n2) 0 0 false, .row (u8s n3) 0 0 false])[H.length]? = some (.row (u8s n1) 0 0 false) := by simp
  have r8 : (H ++ [AObj.row (u8s n1) 0 0 false, .row (u8s n2) 0 0 false, .row (u8s n3) 0 0 false])[H.length + 1]? = some (.row (u8s n2) 0 0 false) := by simp
  have r9 : (H ++ [AObj.row (u8s n1) 0 0 false, .row (u8s n2) 0 0 false, .row (u8s n3) 0 0 false])[H.length + 2]? = some (.row (u8s n3) 0 0 false) := by simp
  have hbl : (H ++ [AObj.row (u8s n1) 0 0 false, .row (u8s n2) 0 0 false, .row (u8s n3) 0 0 false]).length = H.length + 3 := by simp
  generalize H ++ [AObj.row (u8s n1) 0 0 false, .row (u8s n2) 0 0 false, .row (u8s n3) 0 0 false] = Hb at r7 r8 r9 hbl ⊢
  generalize hp : H.length = p at *
  have h10 : ((x : Int)).tmod 10 = ((x % 10 : Nat) : Int) := rem_nat x 10
  have hx10 : x % 10 < 10 := Nat.mod_lt _ (by omega)
  generalize x % 10 = x10 at h10 hx10
  obtain ⟨n, hn⟩ : ∃ n, n = 1 + x10 := ⟨_, rfl⟩
  have hn1 : IntKind.i64.wrap (1 + (x10 : Int)) = (n : Int) := by rw [wrap_i64 (by omega)]; omega
  have hnn : 1 ≤ n ∧ n ≤ 10 := by omega
  refine L_reg [1, 7, 8, 9, 11] (fun K hK => ?_)
  simp [wrap_i64 (a := (x : Int)) (by omega), h10, wrap_i64 (a := (x10 : Int)) (by omega), hn1, alloc_z zt3, st_zero]
  apply hK; clear hK K
  have hEb := Ext.push Hb [AObj.row [.int .i64 (n : Int)] 0 0 false]
  have r7 := hEb.row r7
  have r8 := hEb.row r8
  have r9 := hEb.row r9
  have r11 : (Hb ++ [AObj.row [.int .i64 (n : Int)] 0 0 false])[Hb.length]? = some (.row [.int .i64 (n : Int)] 0 0 false) := by simp
  rw [hbl] at r11
  simp only [hbl]
  generalize Hb ++ [AObj.row [.int .i64 (n : Int)] 0 0 false] = Hc at r7 r8 r9 r11 ⊢
  have e11 : ld Hc (p + 3) 0 0 = some (.int .i64 n) := by rw [ld_row r11]; rfl
  have hk1 : ((y : Int)).tmod ((n : Int) + 1) = ((y % (n + 1) : Nat) : Int) := rem_nat y (n + 1)
  have hk2 : y % (n + 1) < n + 1 := Nat.mod_lt _ (by omega)
  generalize y % (n + 1) = k at hk1 hk2
  have hkn : k ≤ n := by omega
  refine L_reg [7, 8, 9, 11, 12] (fun K hK => ?_)
  simp [wrap_i64 (a := (y : Int)) (by omega), e11, wrap_i64 (a := (n : Int) + 1) (by omega), show ¬ ((n : Int) + 1 = 0) by omega, hk1, wrap_i64 (a := (k : Int)) (by omega)]
  apply hK; clear hK K
  have e7 := ldn_u8s r7 l1
  have e8 := ldn_u8s r8 l2
  have e9 := ldn_u8s r9 l3
  have q1 := chosen_q n k n1 Hc hnn hkn l1 b1
  have q2 := chosen_q n k n2 (chH Hc (chosS n k n1)) hnn hkn l2 b2
  have q3 := chosen_q n k n3 (chH (chH Hc (chosS n k n1)) (chosS n k n2)) hnn hkn l3 b3
  have oA := chosS_okb n k n1
  have oB := chosS_okb n k n2
  have oC := chosS_okb n k n3
  have lA := chosS_len (ns := n1) hkn (by omega)
  have lB := chosS_len (ns := n2) hkn (by omega)
  have lC := chosS_len (ns := n3) hkn (by omega)
  generalize chosS n k n1 = A at *
  generalize chosS n k n2 = B at *
  generalize chosS n k n3 = C at *
  refine L_regY mixed [11, 12, 13, 14, 15] (by kernel_rfl) (fun K hK => ?_)
  simp [e7, e11, okFn_low]
  refine exX_mk q1 (chE _ _) ?_
  simp [e8, e11, okFn_low]
  refine exX_mk q2 (chE _ _) ?_
  simp [e9, e11, okFn_low]
  refine exX_mk q3 (chE _ _) ?_
  simp
  apply hK; clear hK K
  have xA := (chL Hc A).ext ((chE (chH Hc A) B).trans (chE _ C))
  have xB := (chL (chH Hc A) B).ext (chE _ C)
  have xC := chL (chH (chH Hc A) B) C
  have r11 := (((chE Hc A).trans (chE (chH Hc A) B)).trans (chE _ C)).row r11
  generalize chV Hc A = va at xA ⊢
  generalize chV (chH Hc A) B = vb at xB ⊢
  generalize chV (chH (chH Hc A) B) C = vc at xC ⊢
  generalize chH (chH (chH Hc A) B) C = Hd at xA xB xC r11 ⊢
  clear e11 q1 q2 q3
  have e11 : ld Hd (p + 3) 0 0 = some (.int .i64 n) := by rw [ld_row r11]; rfl
  obtain ⟨z1, w1⟩ := both_of oA oB (by omega) hnn.1 hnn.2
  obtain ⟨z2, w2⟩ := both_of oB oA (by omega) hnn.1 hnn.2
  obtain ⟨z3, w3⟩ := both_of (othS_okb n A) (othS_okb n B) (by rw [othS_len oA, othS_len oB]; omega) hnn.1 hnn.2
  obtain ⟨z4, w4⟩ := both_of oA oC (by omega) hnn.1 hnn.2
  obtain ⟨z5, w5⟩ := both_of oC oB (by omega) hnn.1 hnn.2
  rw [lack_oth oA oB] at w3
  have hlen := lack_len oA.2 oB.2 (by omega)
  rw [← hlen] at w2 w3
  have htri := lack_tri (b := B) oA oC
  have hmost := lack_most oA oB
  have hzero := lack_zero oA oB (by omega)
  have hac := (lack_most oA oC).1
  have hcb := (lack_most oC oB).1
  have hoA := othS_len oA
  have hoB := othS_len oB
  refine L_reg [11, 12, 13, 14, 15, 16] (fun K hK => ?_)
  simp
  apply hK; clear hK K
  refine L_reg [11, 12, 13, 14, 15, 16, 17, 18] (fun K hK => ?_)
  simp [okFn_low, e11]
  refine away_q n va vb A B Hd (by omega) (by omega) xA xB _ ?_
  simp [z1, w1]
  apply hK; clear hK K
  refine L_reg [11, 12, 13, 14, 15, 16, 17, 18, 19, 20] (fun K hK => ?_)
  simp [okFn_low, e11]
  refine away_q n vb va B A Hd (by omega) (by omega) xB xA _ ?_
  simp [z2, w2]
  apply hK; clear hK K
  have p1 := others_q n (by omega) va A (p + 3) 0 Hd (by omega) xA r11
  have hEo := chE Hd (othS n A)
  have hEo2 := chE (chH Hd (othS n A)) (othS n B)
  have p2 := others_q n (by omega) vb B (p + 3) 0 (chH Hd (othS n A)) (by omega) (xB.ext hEo) (hEo.row r11)
  have p3 := away_q n (chV Hd (othS n A)) (chV (chH Hd (othS n A)) (othS n B)) (othS n A) (othS n B) (chH (chH Hd (othS n A)) (othS n B)) (by omega) (by omega) ((chL Hd (othS n A)).ext hEo2) (chL _ _)
  refine L_regY mixed [11, 12, 13, 14, 15, 17, 18, 19, 20, 21, 22] (by kernel_rfl) (fun K hK => ?_)
  simp [e11, okFn_low]
  refine exX_mk p1 hEo ?_
  simp [okFn_low]
  refine exX_mk p2 hEo2 ?_
  simp [okFn_low]
  refine exX_mk p3 (.refl _) ?_
  simp [z3, w3]
  apply hK; clear hK K p1 p2 p3
  have hEE := hEo.trans hEo2
  have xA := xA.ext hEE
  have xB := xB.ext hEE
  have xC := xC.ext hEE
  have r11 := hEE.row r11
  generalize chH (chH Hd (othS n A)) (othS n B) = He at xA xB xC r11 ⊢
  clear e11 hEE hEo hEo2
  have e11 : ld He (p + 3) 0 0 = some (.int .i64 n) := by rw [ld_row r11]; rfl
  refine L_reg [11, 12, 13, 14, 15, 17, 18, 19, 20, 21, 22, 23, 24] (fun K hK => ?_)
  simp [okFn_low, e11]
  refine away_q n va vc A C He (by omega) (by omega) xA xC _ ?_
  simp [z4, w4]
  apply hK; clear hK K
  refine L_reg [11, 12, 13, 14, 17, 18, 19, 20, 21, 22, 23, 24, 25, 26] (fun K hK => ?_)
  simp [okFn_low, e11]
  refine away_q n vc vb C B He (by omega) (by omega) xC xB _ ?_
  simp [z5, w5]
  apply hK; clear hK K
  generalize hX : (lack A B).length = X at *
  generalize hP : (lack A C).length = P at *
  generalize hR : (lack C B).length = R0 at *
  have t1 : (X : Int) ≤ (P : Int) + (R0 : Int) := by omega
  have t2 : (X : Int) ≤ min (k : Int) ((n : Int) - (k : Int)) := by omega
  obtain ⟨t3, t4⟩ : ∃ t : Bool, ((X : Int) == 0) = t ∧ decide (A = B) = t := by
    by_cases hab : A = B
    · exact ⟨true, by have := hzero.2 hab; simp; omega, decide_eq_true hab⟩
    · exact ⟨false, by have := fun e => hab (hzero.1 e); simp; omega, decide_eq_false hab⟩
  refine L_reg [10] (fun K hK => ?_)
  simp [okFn_low, pickV, wrap_i64 (a := (P : Int) + (R0 : Int)) (by omega), t1, t4.1]
  refine same_ac va vb A B He _ (by omega) xA xB ?_
  simp [okFn_low, pickV, t4.2, e11, wrap_i64 (a := (n : Int) - (k : Int)) (by omega), t2]
  refine works_ac _ _ ?_
  simp [pickV]
  apply hK; clear hK K
  exact L_ret ⟨.inr rfl, _, rfl, rfl⟩
theorem u8_of {a : Int} (h : (Lit.int .u8 a).wf = true) : ∃ n : Nat, a = n ∧ n < 256 := by
  have h1 : 0 ≤ a ∧ a ≤ 255 := by
    simp [Lit.wf, IntKind.min, IntKind.max, IntKind.bits, IntKind.signed] at h
    omega
  exact ⟨a.toNat, by omega, by omega⟩
theorem u8s_of : ∀ {l : List Int}, (∀ x ∈ l, IntKind.u8.min ≤ x ∧ x ≤ IntKind.u8.max) → ∃ ns : List Nat, l = ns.map Int.ofNat ∧ (∀ x ∈ ns, x < 256)
  | [], _ => ⟨[], rfl, by simp⟩
  | x :: l, h => by
    obtain ⟨ns, h1, h2⟩ := u8s_of fun y hy => h y (List.mem_cons_of_mem _ hy)
    have hx : 0 ≤ x ∧ x ≤ 255 := h x List.mem_cons_self
    have e : Int.ofNat x.toNat = x := Int.toNat_of_nonneg hx.1
    refine ⟨x.toNat :: ns, by rw [List.map_cons, e, ← h1], fun y hy => ?_⟩
    rcases List.mem_cons.1 hy with rfl | hy
    · omega
    · exact h2 y hy
theorem blendMetric_int (a0 : Int) (w0 : (Lit.int .u8 a0).wf = true) (a1 : Int) (w1 : (Lit.int .u8 a1).wf = true) (m2 : List Int) (e2 : m2.length = 10) (b2 : ∀ x ∈ m2, IntKind.u8.min ≤ x ∧ x ≤ IntKind.u8.max) (m3 : List Int) (e3 : m3.length = 10) (b3 : ∀ x ∈ m3, IntKind.u8.min ≤ x ∧ x ≤ IntKind.u8.max)
    (m4 : List Int) (e4 : m4.length = 10) (b4 : ∀ x ∈ m4, IntKind.u8.min ≤ x ∧ x ≤ IntKind.u8.max) (H : AH) : AC Try.prog 9 [.int .u8 a0, .int .u8 a1, .agg (m2.map (.int .u8)), .agg (m3.map (.int .u8)), .agg (m4.map (.int .u8))] H fun u _ => u = .bool true := by
  obtain ⟨x, rfl, hx⟩ := u8_of w0
  obtain ⟨y, rfl, hy⟩ := u8_of w1
  obtain ⟨n2, rfl, c2⟩ := u8s_of b2
  obtain ⟨n3, rfl, c3⟩ := u8s_of b3
  obtain ⟨n4, rfl, c4⟩ := u8s_of b4
  simp only [List.length_map] at e2 e3 e4
  have := blendMetric_ac x y hx hy n2 n3 n4 e2 e3 e4 c2 c3 c4 H
  simpa [u8s, Function.comp_def] using this
end Go.Proofs.Ytpdcmdmhamnndaa
