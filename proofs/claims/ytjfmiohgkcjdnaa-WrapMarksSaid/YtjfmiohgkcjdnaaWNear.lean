/- WrapNearer, walked. -/
import Derived.Test.YtjfmiohgkcjdnaaNear
namespace Go.Proofs.Ytjfmiohgkcjdnaa
open Go Go.Proofs.Ytjfmiohgkcjdnaa.AX

set_option maxRecDepth 100000 in
theorem wrapNearer_ac (a b c : Nat) (ha : a < 256) (hb : b < 256) (hc : c < 256) (H : AH) : AC Try.prog 12 [.agg [.int .u8 a, .int .u8 b, .int .u8 c]] H fun u _ => u = .bool true := by
  refine L_body 80 Try.func12 rfl rfl ?_
  obtain ⟨H1, e, hE, hl1, r1, l0, l1, l2, la⟩ := box3u H a b c
  refine L_reg [1] (fun K hK => ?_)
  simp [AV.isU, acells]
  apply hK; clear hK K
  rw [e]
  have hm := mM_ok a
  have hs := mS_ok a b
  have ht := mT_ok a b c
  refine L_reg [3] (fun K hK => ?_)
  simp [okFn_low, la]
  refine made_ac a b c ha hb hc _ _ ?_
  generalize mM a = m at *
  generalize mS a b = s at *
  generalize mT a b c = t at *
  simp [alloc_z zt23, newW, WV]
  apply hK; clear hK K
  obtain ⟨H2, e2, hE2, hl2, r2, bx⟩ := box3 H1 m s t
  rw [e2]
  generalize hp : H1.length = p at *
  have hcz : circleE m s = 0 := by unfold circleE; rw [if_neg (by omega)]
  refine L_reg [3, 4, 5] (fun K hK => ?_)
  simp [okFn_low, bx.l0, bx.l1]
  refine Nearer_ac m s _ _ (fun v H3 hO hE3 => ?_)
  have hnR : nearR m s = (nrS m s (per m s)).1 := by unfold nearR; rw [if_pos hcz]; rfl
  rw [hnR] at hO
  rw [hcz]
  simp
  apply hK; clear hK K
  have bx3 := bx.ext hE3
  refine L_reg [3, 4, 5, 6] (fun K hK => ?_)
  simp [okFn_low, bx3.l0, bx3.l1]
  refine diff_ac m s hm.1 hm.2 hs _ _ ?_
  simp
  apply hK; clear hK K
  refine L_reg [3, 4, 5, 6, 7] (fun K hK => ?_)
  simp
  apply hK; clear hK K
  refine L_reg [3, 4, 5, 6, 7, 8] (fun K hK => ?_)
  simp [bx3.l0]
  apply hK; clear hK K
  refine L_reg [3, 4, 5, 6, 7, 8, 9] (fun K hK => ?_)
  simp
  apply hK; clear hK K
  refine L_reg [3, 4, 5, 6, 7, 8, 9, 10] (fun K hK => ?_)
  simp
  apply hK; clear hK K
  have hpm := per_le m s
  have hpp := per_pos (m := m) (s := s) (by omega)
  refine L_block (L_loopV [7, 8, 9, 10] (fun n vs H' => ∃ (k w : Nat) (u : AV), n = per m s - k ∧ k ≤ per m s ∧ w = k * s % m ∧ vs = [u, .int .i64 (nrS m s k).2, .int .i64 (w : Nat), .int .i64 ((k : Int) + 1)] ∧ OwnF H3.length H' u ((nrS m s k).1.map (.int .i64)) ∧ Ext H3 H') _ [.slice none 0 0 0 1 false, .int .i64 (m : Nat), .int .i64 0, .int .i64 1] rfl ⟨0, 0, _, rfl, by omega, by simp, by simp [nrS], .nil _ _, .refl _⟩ ?_)
  rintro n _ H4 ⟨k, w, u, rfl, hk, hwk, rfl, hO4, hE4⟩
  refine L_reg [3, 4, 5, 6, 7, 8, 9, 10, 31] (fun K hK => ?_)
  simp
  apply hK; clear hK K
  have hle := nrS_le (m := m) (s := s) k
  have bx4 := bx3.ext hE4
  refine L_dec ((k : Int) + 1 ≤ per m s) (by simp) (fun hlt => ?_) (fun hge => L_exit ?_)
  · refine L_block ?_
    have hsucc : nrS m s (k + 1) = if distN m s (k + 1) < (nrS m s k).2 then ((nrS m s k).1 ++ [((k + 1 : Nat) : Int)], distN m s (k + 1)) else nrS m s k := rfl
    have hk1 : ((k + 1 : Nat) : Int) = (k : Int) + 1 := by omega
    rw [hk1] at hsucc
    have hst := step_mark m s k
    have hml : w < m := by rw [hwk]; exact Nat.mod_lt _ (by omega)
    rw [← hwk] at hst
    have hml2 : (k + 1) * s % m < m := Nat.mod_lt _ (by omega)
    unfold distN at hsucc
    generalize hw2 : (k + 1) * s % m = w2 at *
    have hmne : m ≠ 0 := by omega
    have e2 : ((w : Int) + s).tmod m = ((w2 : Nat) : Int) := by
      rw [show (w : Int) + s = ((w + s : Nat) : Int) by omega, Int.tmod_eq_emod_of_nonneg (by omega), ← hst]; rfl
    have e3 : min (w2 : Int) ((m : Int) - w2) = ((min w2 (m - w2) : Nat) : Int) := by omega
    generalize min w2 (m - w2) = d at hsucc e3
    generalize hnr : nrS m s k = nn at hO4 hle hsucc
    obtain ⟨L, nr⟩ := nn
    simp only at hO4 hle hsucc
    refine L_reg [3, 4, 5, 6, 7, 8, 9, 10] (fun K hK => ?_)
    simp [bx4.l0, bx4.l1, wrap_i64 (a := (w : Int) + s) (by omega), hmne, e2]
    apply hK; clear hK K
    refine L_reg [3, 4, 5, 6, 7, 8, 9, 10, 11] (fun K hK => ?_)
    simp [bx4.l0, wrap_i64 (a := (m : Int) - w2) (by omega), e3]
    apply hK; clear hK K
    refine L_reg [3, 4, 5, 6, 7, 8, 9, 10, 11, 49] (fun K hK => ?_)
    simp
    apply hK; clear hK K
    refine L_dec (d < nr) (by simp) (fun hd => ?_) (fun hd => ?_)
    · rw [if_pos hd] at hsucc
      obtain ⟨v', H5, happ, hO5, hE5⟩ := ownF_append hE4 el36 el36 (x := .int .i64 ((k : Int) + 1)) (m := 1) hO4 rfl (by simp; omega)
      refine L_reg [3, 4, 5, 6, 7, 9, 10, 11] (fun K hK => ?_)
      simp [happ]
      apply hK; clear hK K
      refine L_reg [3, 4, 5, 6, 7, 8, 9, 10] (fun K hK => ?_)
      simp
      apply hK; clear hK K
      refine L_reg [3, 4, 5, 6, 7, 8, 9, 10] (fun K hK => ?_)
      simp [wrap_i64 (a := (k : Int) + 1 + 1) (by omega)]
      apply hK; clear hK K
      refine ⟨per m s - (k + 1), [v', .int .i64 d, .int .i64 w2, .int .i64 ((k : Int) + 1 + 1)], by omega, by simp, k + 1, w2, v', rfl, by omega, hw2.symm, by rw [hsucc]; simp, by rw [hsucc]; simpa using hO5, hE5⟩
    · rw [if_neg hd] at hsucc
      refine L_reg [3, 4, 5, 6, 7, 8, 9, 10] (fun K hK => ?_)
      simp [wrap_i64 (a := (k : Int) + 1 + 1) (by omega)]
      apply hK; clear hK K
      refine ⟨per m s - (k + 1), [u, .int .i64 nr, .int .i64 w2, .int .i64 ((k : Int) + 1 + 1)], by omega, by simp, k + 1, w2, u, rfl, by omega, hw2.symm, by rw [hsucc]; simp, by rw [hsucc]; exact hO4, hE4⟩
  · have hk' : k = per m s := by omega
    subst hk'
    obtain ⟨L, hL⟩ := nrS_last (m := m) (s := s) (by omega)
    have hv : Ls H4 v (nrS m s (per m s)).1 := (hO.own.ls).ext hE4
    have hu : Ls H4 u (nrS m s (per m s)).1 := hO4.own.ls
    rw [hL] at hv hu hle
    have hlen : (L ++ [((per m s : Nat) : Int)]).length = L.length + 1 := by simp
    obtain ⟨r, off, ver, sz, full, hve, hld⟩ := id hv
    subst hve
    obtain ⟨r', rfl, rfl, hrd⟩ := hld L.length (by simp)
    rw [hlen] at hv hle ⊢
    have hrd2 : ld H4 r' (off + L.length) ver = some (.int .i64 (per m s : Nat)) := by simpa using hrd
    clear hrd hld hO
    generalize hPP : L ++ [((per m s : Nat) : Int)] = PP at hv hu hle
    refine L_reg [2] (fun K hK => ?_)
    simp [okFn_low]
    refine same_ac _ _ _ _ H4 _ (by rw [← hPP]; omega) hv hu ?_
    simp [pickV, okFn_low, wrap_i64 (a := (L.length : Int)) (by omega), hrd2, show (L.length : Int) < (L.length : Int) + 1 by omega]
    refine works_ac _ _ ?_
    simp [pickV]
    apply hK; clear hK K
    exact L_ret ⟨.inr rfl, _, rfl, rfl⟩
theorem u8_nat {i : Int} (h : IntKind.u8.min ≤ i ∧ i ≤ IntKind.u8.max) : ∃ k : Nat, i = k ∧ k < 256 := by
  have e1 : IntKind.u8.min = 0 := by decide
  have e2 : IntKind.u8.max = 255 := by decide
  rw [e1, e2] at h
  exact ⟨i.toNat, by omega, by omega⟩
theorem roll_int {n : List Int} (e : n.length = 3) (b : ∀ x ∈ n, IntKind.u8.min ≤ x ∧ x ≤ IntKind.u8.max) : ∃ x y z : Nat, n = [(x : Int), (y : Int), (z : Int)] ∧ x < 256 ∧ y < 256 ∧ z < 256 := by
  match n, e with
  | [x, y, z], _ =>
    obtain ⟨x, rfl, hx⟩ := u8_nat (b x (by simp))
    obtain ⟨y, rfl, hy⟩ := u8_nat (b y (by simp))
    obtain ⟨z, rfl, hz⟩ := u8_nat (b z (by simp))
    exact ⟨x, y, z, rfl, hx, hy, hz⟩
theorem wrapNearer_int (n : List Int) (e : n.length = 3) (b : ∀ x ∈ n, IntKind.u8.min ≤ x ∧ x ≤ IntKind.u8.max) (H : AH) : AC Try.prog 12 [.agg (n.map (.int .u8))] H fun u _ => u = .bool true := by
  obtain ⟨x, y, z, rfl, hx, hy, hz⟩ := roll_int e b
  exact wrapNearer_ac x y z hx hy hz H
end Go.Proofs.Ytjfmiohgkcjdnaa
