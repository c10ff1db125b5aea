/- Two divisions of labels. -/
import Derived.Test.YtjaefngmidllgaaMade
namespace Go.Proofs.Ytjaefngmidllgaa.St
open Go Go.Proofs.Ytjaefngmidllgaa Go.Proofs.Ytjaefngmidllgaa.AX
set_option maxRecDepth 100000
set_option linter.unusedVariables false
theorem ldn_sV {H : AH} {r s : Nat} {a b c : List Nat} (hr : H[r]? = some (.row (sV (a ++ b ++ c)) 0 s false)) : ldn H r 0 b.length a.length = some (sV b) := by
  rw [ldn_row hr]
  have : (sV (a ++ b ++ c)).drop a.length = sV b ++ sV c := by
    unfold sV
    rw [← List.map_drop, List.append_assoc, List.drop_left, List.map_append]
  rw [this]
  have h := takeKnown_row (l := sV b) (sV_known b) (sV c)
  rw [sV_len] at h
  exact h
theorem lbl_len {n R : Nat} {b : List Nat} (hb : b.length = 9) (hn : n ≤ 9) : (lbl n R b).length = n := by simp [lbl, hb]; omega
theorem divided_x (n R : Nat) (b : List Nat) (hb : b.length = 9) (hb2 : ∀ x ∈ b, x < 256) (h0 : 0 < n) (hn : n ≤ 9) (hR : 0 < R) (hR9 : R ≤ 9) (H : AH) (Q : AV → AH → Prop)
    (h : Q (.slice (some H.length) 0 n 0 1 false) (H ++ [.row ((il (dv (lbl n R b))).map (.int .i64)) 0 n false])) : AC Try.prog 87 [.int .i64 (n : Nat), .int .i64 (R : Nat), .agg (sV b)] H Q := by
  have hl : ((il (dv (lbl n R b))).map (AV.int .i64)).length = n := by rw [List.length_map, il_len, dv_len, lbl_len hb hn]
  refine AC.tidy (l := (il (dv (lbl n R b))).map (.int .i64)) (by intro e; rw [e] at hl; simp at hl; omega) (belB_ints _ _) (fun Q hQ => divided_ac n R b hb hb2 hn hR hR9 H Q hQ) Q ?_
  rw [hl]; exact h
set_option maxHeartbeats 2000000 in
theorem made_ac (x : Nat) (p q : List Nat) (hx : x < 256) (hp : p.length = 9) (hq : q.length = 9) (hp2 : ∀ y ∈ p, y < 256) (hq2 : ∀ y ∈ q, y < 256) (M R : Nat) (hM : 0 < M) (hM9 : M ≤ 9) (hR : 0 < R) (hR9 : R ≤ 9) (H : AH) (Q : AV → AH → Prop)
    (h : ∀ v w H', Ls H' v (il (dv (lbl (1 + x % M) R p))) → Ls H' w (il (dv (lbl (1 + x % M) R q))) → Ext H H' → Q (.tuple [v, w]) H') : AC Try.prog 47 [.agg (sV (x :: p ++ q)), .int .i64 (M : Nat), .int .i64 (R : Nat)] H Q := by
  refine L_body 25 Try.func47 rfl rfl ?_
  refine L_reg [1, 2, 3] (fun K hK => ?_)
  simp [AV.isU, acells]
  apply hK; clear hK K
  have hE0 : Ext H (H ++ [AObj.row (sV (x :: (p ++ q))) 0 0 false]) := .push _ _
  have hr : (H ++ [AObj.row (sV (x :: (p ++ q))) 0 0 false])[H.length]? = some (.row (sV (x :: (p ++ q))) 0 0 false) := by simp
  generalize H ++ [AObj.row (sV (x :: (p ++ q))) 0 0 false] = H1 at hE0 hr ⊢
  have l0 : ld H1 H.length 0 0 = some (.int .u8 (x : Nat)) := by rw [ld_row hr]; simp [sV]
  have l1 : ldn H1 H.length 0 9 1 = some (sV p) := by
    have := ldn_sV (a := [x]) (b := p) (c := q) hr
    rw [hp] at this; exact this
  have l2 : ldn H1 H.length 0 9 10 = some (sV q) := by
    have := ldn_sV (a := x :: p) (b := q) (c := []) (H := H1) (r := H.length) (s := 0) (by rw [List.append_nil]; exact hr)
    rw [hq, show (x :: p).length = 10 by simp [hp]] at this; exact this
  have hrem := rem8 x M
  have lx := Nat.mod_lt x hM
  obtain ⟨z, hz⟩ : ∃ z, x % M = z := ⟨_, rfl⟩
  rw [hz] at hrem lx h
  have hM0 : M ≠ 0 := by omega
  obtain ⟨n, hn⟩ : ∃ n, 1 + z = n := ⟨_, rfl⟩
  have hw : IntKind.i64.wrap (1 + (z : Int)) = (n : Int) := by rw [wrap_i64 (by omega)]; omega
  rw [hn] at h
  have hn0 : n ≠ 0 := by omega
  have hn9 : n ≤ 9 := by omega
  refine L_reg [2, 3, 8] (fun K hK => ?_)
  simp [l0, wrap_i64 (a := (x : Int)) (by omega), hM0, hrem, hw]
  apply hK; clear hK K
  have q1 := divided_x n R p hp hp2 (by omega) hn9 hR hR9 H1
  have ha : (lbl n R p).length = n := by simp [lbl, hp]; omega
  have hb' : (lbl n R q).length = n := by simp [lbl, hq]; omega
  generalize lbl n R p = a at *
  have eA : Ext H1 (H1 ++ [AObj.row ((il (dv a)).map (.int .i64)) 0 n false]) := .push _ _
  have rA : (H1 ++ [AObj.row ((il (dv a)).map (.int .i64)) 0 n false])[H1.length]? = some (AObj.row ((il (dv a)).map (.int .i64)) 0 n false) := by simp
  refine L_regY mixed [6, 7] (by kernel_rfl) (fun K hK => ?_)
  simp [okFn_low, l1]
  refine exX_mk q1 eA ?_
  generalize H1 ++ [AObj.row ((il (dv a)).map (.int .i64)) 0 n false] = H2 at eA rA ⊢
  have q2 := divided_x n R q hq hq2 (by omega) hn9 hR hR9 H2
  have eB : Ext H2 (H2 ++ [AObj.row ((il (dv (lbl n R q))).map (.int .i64)) 0 n false]) := .push _ _
  have rB : (H2 ++ [AObj.row ((il (dv (lbl n R q))).map (.int .i64)) 0 n false])[H2.length]? = some (AObj.row ((il (dv (lbl n R q))).map (.int .i64)) 0 n false) := by simp
  simp [okFn_low, l2]
  refine exX_mk q2 eB ?_
  generalize H2 ++ [AObj.row ((il (dv (lbl n R q))).map (.int .i64)) 0 n false] = H3 at eB rB ⊢
  simp
  apply hK; clear hK K
  have sA := Ls.row (eB.row rA) false
  have sB := Ls.row rB false
  rw [il_len, dv_len, ha] at sA
  rw [il_len, dv_len, hb'] at sB
  exact L_ret ⟨.inr rfl, _, rfl, h _ _ _ sA sB ((hE0.trans eA).trans eB)⟩
theorem nineteen {s : List Nat} (hs : s.length = 19 ∧ ∀ x ∈ s, x < 256) : ∃ x p q, s = x :: p ++ q ∧ x < 256 ∧ p.length = 9 ∧ q.length = 9 ∧ (∀ y ∈ p, y < 256) ∧ ∀ y ∈ q, y < 256 := by
  obtain ⟨hl, hb⟩ := hs
  cases s with
  | nil => simp at hl
  | cons x s =>
    simp only [List.length_cons] at hl
    refine ⟨x, s.take 9, s.drop 9, by simp, hb x (by simp), by simp; omega, by simp; omega, fun y hy => hb y ?_, fun y hy => hb y ?_⟩
    · simp [List.mem_of_mem_take hy]
    · simp [List.mem_of_mem_drop hy]
theorem dv_okD {K : Type} [BEq K] [LawfulBEq K] (l : List K) (h0 : 0 < l.length) (h9 : l.length ≤ 9) : OkD (dv l) := ⟨by rw [dv_len]; exact h0, by rw [dv_len]; exact h9, rg_dv l⟩
end Go.Proofs.Ytjaefngmidllgaa.St
