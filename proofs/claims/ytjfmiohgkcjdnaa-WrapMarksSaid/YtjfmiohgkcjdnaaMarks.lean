/- Marks turn by turn; the first of a list; WrapMarks, walked. -/
import Derived.Test.YtjfmiohgkcjdnaaRf
import Derived.Test.YtjfmiohgkcjdnaaWNear
namespace Go.Proofs.Ytjfmiohgkcjdnaa
open Go Go.Proofs.Ytjfmiohgkcjdnaa.AX

def markL (m s t : Nat) : List Int := (List.range t).map fun k => ((k * s % m : Nat) : Int)
theorem markL_len (m s t : Nat) : (markL m s t).length = t := by simp [markL]
theorem markL_get {m s t i : Nat} (h : i < (markL m s t).length) : (markL m s t)[i] = ((i * s % m : Nat) : Int) := by simp [markL]
theorem markL_succ (m s t : Nat) : markL m s (t + 1) = markL m s t ++ [((t * s % m : Nat) : Int)] := by simp [markL, List.range_succ]
theorem marks_ac (m s t : Nat) (h1 : 1 ≤ m) (h2 : m ≤ 100) (h3 : s < m) (h4 : t ≤ 1000) (H : AH) (Q : AV → AH → Prop) (h : ∀ v H', OwnF H.length H' v ((markL m s t).map (.int .i64)) → Ext H H' → Q v H') : AC Try.prog 50 [WV m s t] H Q := by
  refine L_body 22 Try.func50 rfl rfl ?_
  refine L_reg [1] (fun K hK => ?_)
  simp [AV.isU, acells, WV]
  apply hK; clear hK K
  obtain ⟨H1, e, hE, -, -, b⟩ := box3 H m s t
  rw [e]
  refine L_reg [1, 3] (fun K hK => ?_)
  simp
  apply hK; clear hK K
  refine L_reg [1, 3, 4] (fun K hK => ?_)
  simp
  apply hK; clear hK K
  refine L_reg [1, 3, 4, 6, 7] (fun K hK => ?_)
  simp [b.l2]
  apply hK; clear hK K
  refine L_block (L_loopV [3, 4, 7] (fun n vs H' => ∃ (k w : Nat) (v : AV), n = t - k ∧ k ≤ t ∧ w = k * s % m ∧ vs = [v, .int .i64 w, .int .i64 k] ∧ OwnF H1.length H' v ((markL m s k).map (.int .i64)) ∧ Ext H1 H') _ [.slice none 0 0 0 1 false, .int .i64 0, .int .i64 0] rfl ⟨0, 0, _, rfl, by omega, by simp, rfl, .nil _ _, .refl _⟩ ?_)
  rintro n _ H2 ⟨k, w, v, rfl, hk, hw, rfl, hO, hE2⟩
  have b2 := b.ext hE2
  refine L_reg [1, 3, 4, 6, 7, 8] (fun K hK => ?_)
  simp
  apply hK; clear hK K
  refine L_dec (k < t) (by simp) (fun hlt => ?_) (fun hge => L_exit ?_)
  · refine L_block ?_
    have hst := step_mark m s k
    have hsu := markL_succ m s k
    rw [← hw] at hst hsu
    have hwl : w < m := by rw [hw]; exact Nat.mod_lt _ (by omega)
    obtain ⟨v', H3, happ, hO3, hE3⟩ := ownF_append hE2 el36 el36 (x := .int .i64 (w : Int)) (m := 1) hO rfl (by simp [markL_len]; omega)
    have b3 := b.ext hE3
    have hmne : m ≠ 0 := by omega
    have e2 : ((w : Int) + s).tmod m = (((k + 1) * s % m : Nat) : Int) := by
      rw [show (w : Int) + s = ((w + s : Nat) : Int) by omega, Int.tmod_eq_emod_of_nonneg (by omega), ← hst]; rfl
    generalize hw2 : (k + 1) * s % m = w2 at e2
    refine L_reg [1, 3, 4, 6, 7] (fun K hK => ?_)
    simp [happ]
    apply hK; clear hK K
    refine L_reg [1, 3, 4, 6, 7] (fun K hK => ?_)
    simp [b3.l0, b3.l1, wrap_i64 (a := (w : Int) + s) (by omega), hmne, e2]
    apply hK; clear hK K
    refine L_reg [1, 3, 4, 6, 7] (fun K hK => ?_)
    simp [wrap_i64 (a := (k : Int) + 1) (by omega)]
    apply hK; clear hK K
    exact ⟨t - (k + 1), [v', .int .i64 w2, .int .i64 (k + 1 : Nat)], by omega, by simp, k + 1, w2, v', rfl, by omega, hw2.symm, rfl, by rw [hsu]; simpa using hO3, hE3⟩
  · have hk' : k = t := by omega
    subst hk'
    refine L_reg [2] (fun K hK => ?_)
    simp
    apply hK; clear hK K
    exact L_ret ⟨.inr rfl, _, rfl, h v H2 (hO.mono hE.1) (hE.trans hE2)⟩
theorem Index_ac (v : AV) (l : List Int) (x : Int) (H : AH) (Q : AV → AH → Prop) (hlen : l.length ≤ 1000000) (hv : Ls H v l) (h1 : ∀ i : Nat, l[i]? = some x → (∀ j, j < i → l[j]? ≠ some x) → Q (.int .i64 i) H) (h2 : x ∉ l → Q (.int .i64 (-1)) H) : AC Try.prog 52 [v, .int .i64 x] H Q := by
  obtain ⟨r, off, ver, sz, full, rfl, hld⟩ := hv
  refine L_body 19 Try.func52 rfl rfl ?_
  refine L_reg [0, 1] (fun K hK => ?_)
  simp
  apply hK; clear hK K
  refine L_reg [0, 1, 7, 8] (fun K hK => ?_)
  simp
  apply hK; clear hK K
  refine L_block (L_loopV [8] (fun n vs H' => ∃ i : Nat, n = l.length - i ∧ i ≤ l.length ∧ (∀ j, j < i → l[j]? ≠ some x) ∧ vs = [.int .i64 i] ∧ H = H') _ [.int .i64 0] rfl ⟨0, rfl, by omega, fun j hj => by omega, rfl, rfl⟩ ?_)
  rintro n _ _ ⟨i, rfl, hi, hno, rfl, rfl⟩
  refine L_reg [0, 1, 7, 8, 9] (fun K hK => ?_)
  simp
  apply hK; clear hK K
  refine L_dec (i < l.length) (by simp) (fun hlt => ?_) (fun hge => L_exit ?_)
  · refine L_block ?_
    obtain ⟨r', rfl, rfl, hrd⟩ := hld i hlt
    have eg : l[i]? = some l[i] := List.getElem?_eq_getElem hlt
    generalize l[i] = y at hrd eg
    refine L_reg [0, 1, 5, 7, 8] (fun K hK => ?_)
    simp
    apply hK; clear hK K
    refine L_reg [0, 1, 5, 7, 8, 16] (fun K hK => ?_)
    simp [hrd, hlt]
    apply hK; clear hK K
    by_cases e : x = y
    · subst e
      refine L_true (by simp) ?_
      refine L_reg [4] (fun K hK => ?_)
      simp
      apply hK; clear hK K
      exact L_ret ⟨.inr rfl, _, rfl, h1 i eg hno⟩
    · refine L_false (by simp [e]) ?_
      refine L_reg [0, 1, 7, 8] (fun K hK => ?_)
      simp [wrap_i64 (a := (i : Int) + 1) (by omega)]
      apply hK; clear hK K
      refine ⟨l.length - (i + 1), [.int .i64 (i + 1 : Nat)], by omega, by simp, i + 1, rfl, by omega, fun j hj => ?_, rfl, rfl⟩
      by_cases ej : j = i
      · subst ej; rw [eg]; intro h; exact e (Option.some.inj h).symm
      · exact hno j (by omega)
  · refine L_reg [4] (fun K hK => ?_)
    simp
    apply hK; clear hK K
    exact L_ret ⟨.inr rfl, _, rfl, h2 fun hm => by obtain ⟨j, hj, e⟩ := List.mem_iff_getElem.1 hm; exact hno j (by omega) (by rw [List.getElem?_eq_getElem hj, e])⟩
set_option maxHeartbeats 800000 in
theorem wrapMarks_ac (a b c d : Nat) (ha : a < 256) (hb : b < 256) (hc : c < 256) (hd : d < 256) (H : AH) : AC Try.prog 10 [.agg [.int .u8 a, .int .u8 b, .int .u8 c], .int .u8 d] H fun u _ => u = .bool true := by
  refine L_body 134 Try.func10 rfl rfl ?_
  obtain ⟨H1, e, hE, hl1, r1, l0, l1, l2, la⟩ := box3u H a b c
  refine L_reg [1, 2] (fun K hK => ?_)
  simp [AV.isU, acells]
  apply hK; clear hK K
  rw [e]
  have hm := mM_ok a
  have hs := mS_ok a b
  have ht := mT_ok a b c
  refine L_reg [1, 5] (fun K hK => ?_)
  simp [okFn_low, la]
  refine made_ac a b c ha hb hc _ _ ?_
  generalize mM a = m at *
  generalize mS a b = s at *
  generalize mT a b c = t at *
  simp [alloc_z zt23, newW, WV]
  apply hK; clear hK K
  obtain ⟨H2, e2, hE2, hl2, r2, bx⟩ := box3 H1 m s t
  rw [e2]
  generalize hp : H1.length = p at *
  have hm0 : 0 < m := by omega
  have hpm := per_le m s
  have hck1 : checkE m s t = 0 := checkE_ok hm.1 hm.2 hs ht.1 ht.2
  refine L_reg [1, 5, 6] (fun K hK => ?_)
  simp [okFn_low, bx.la]
  refine marks_ac m s t hm.1 hm.2 hs (by omega) _ _ (fun v1 H3 hO1 hE3 => ?_)
  simp
  apply hK; clear hK K
  have bx3 := bx.ext hE3
  refine L_reg [1, 5, 6, 7, 8] (fun K hK => ?_)
  simp [okFn_low, bx3.la]
  refine Round_ac m s t _ _ (fun v2 H4 hO2 hE4 => ?_)
  rw [hck1]
  simp
  apply hK; clear hK K
  have bx4 := bx3.ext hE4
  have G1 : roundR m s t = roundS m s t := by unfold roundR; rw [if_pos hck1]; rfl
  rw [G1] at hO2
  have hrl := roundS_len hm0 ht.2
  have hml := markL_len m s t
  have hmg := fun i => markL_get (m := m) (s := s) (t := t) (i := i)
  have hrg := fun i (hi : i < t) => round_get (i := i) hm0 ht.2 hi
  have hri := fun i j => mkR_lt (i := i) (j := j) hm0 ht.2
  have hrs := fun z j => mkR_some (m := m) (s := s) (t := t) (z := z) (j := j)
  have hL1 := hO1.own.ls.ext hE4
  have hL2 := hO2.own.ls
  have hidx := fun (y : Int) Q => Index_ac v1 (markL m s t) y H4 Q (by omega) hL1
  clear hO1 hO2
  generalize markL m s t = L at *
  generalize hR : roundS m s t = Rn at *
  obtain ⟨r1', off1, ver1, sz1, full1, rfl, hld1⟩ := hL1
  obtain ⟨r2', off2, ver2, sz2, full2, rfl, hld2⟩ := hL2
  refine L_reg [1, 5, 6, 7, 36] (fun K hK => ?_)
  simp [pickV, hml, hrl]
  apply hK; clear hK K
  refine L_false (by simp) ?_
  refine L_reg [1, 5, 6, 7, 37, 38, 39] (fun K hK => ?_)
  simp
  apply hK; clear hK K
  refine L_block (L_loopV [39] (fun n vs H' => ∃ i : Nat, n = t - i ∧ i ≤ t ∧ vs = [.int .i64 i] ∧ H4 = H') _ [.int .i64 0] rfl ⟨0, rfl, by omega, rfl, rfl⟩ ?_)
  rintro n _ _ ⟨i, rfl, hi, rfl, rfl⟩
  refine L_reg [1, 5, 6, 7, 37, 38, 39, 40] (fun K hK => ?_)
  simp
  apply hK; clear hK K
  refine L_dec (i < t) (by simp) (fun hlt => ?_) (fun hge => L_exit ?_)
  · refine L_block ?_
    obtain ⟨k, hk, hki⟩ := hrg i hlt
    obtain ⟨r', rfl, rfl, hrd⟩ := hld2 i (by omega)
    have ek : Rn[i] = (k : Int) := by rw [List.getElem?_eq_getElem (by omega)] at hki; exact Option.some.inj hki
    rw [ek] at hrd
    obtain ⟨q1, rfl, rfl, hrdm⟩ := hld1 k (by omega)
    rw [hmg] at hrdm
    have hmk := hrs k i (by rw [hki])
    refine L_reg [1, 5, 6, 7, 9, 10, 37, 38, 39] (fun K hK => ?_)
    simp [hrd, hlt]
    apply hK; clear hK K
    have htE : turnE m s t k = 0 := by rw [turnE, if_pos hck1, if_pos (by omega)]
    have hms : markS m s t k = (((k * s % m : Nat) : Int), 0) := by unfold markS; rw [if_pos htE]; rfl
    by_cases hi0 : i = 0
    · refine L_regQ mixed [1, 5, 6, 7, 10, 37, 38, 39, 70] (by kernel_rfl) (fun K hK => ?_)
      simp [pickV, show ¬ (0 < i) by omega, show ¬ ((k : Int) < 0) by omega, show ¬ ((t : Int) ≤ k) by omega]
      apply hK; clear hK K
      refine L_false (by simp) ?_
      refine L_reg [1, 5, 6, 7, 10, 11, 12, 37, 38, 39] (fun K hK => ?_)
      simp [okFn_low, bx4.la]
      refine Mark_ac m s t k _ _ ?_
      simp
      apply hK; clear hK K
      refine L_reg [1, 5, 6, 7, 37, 38, 39, 86] (fun K hK => ?_)
      simp [pickV, hms, hrdm, show (k : Int) < t by omega]
      apply hK; clear hK K
      refine L_false (by simp) ?_
      refine L_reg [1, 5, 6, 7, 37, 38, 39] (fun K hK => ?_)
      simp [wrap_i64 (a := (i : Int) + 1) (by omega)]
      apply hK; clear hK K
      exact ⟨t - (i + 1), [.int .i64 (i + 1 : Nat)], by omega, by simp, i + 1, rfl, by omega, rfl, rfl⟩
    · obtain ⟨k2, hk2, hki2⟩ := hrg (i - 1) (by omega)
      obtain ⟨q2, hq2, -, hrd2⟩ := hld2 (i - 1) (by omega)
      cases hq2
      have ek2 : Rn[i - 1] = (k2 : Int) := by rw [List.getElem?_eq_getElem (by omega)] at hki2; exact Option.some.inj hki2
      rw [ek2] at hrd2
      obtain ⟨q3, hq3, -, hrdm2⟩ := hld1 k2 (by omega)
      cases hq3
      rw [hmg] at hrdm2
      have hmk2 := hrs k2 (i - 1) (by rw [hki2])
      have hlt3 := hri (i - 1) i (by omega) hlt
      rw [hmk, hmk2] at hlt3
      generalize hx : k * s % m = x at *
      generalize hy : k2 * s % m = y at *
      refine L_regQ mixed [1, 5, 6, 7, 10, 37, 38, 39, 70] (by kernel_rfl) (fun K hK => ?_)
      simp [pickV, hk, hk2, hrdm, hrdm2, hrd2, show ¬ ((k : Int) < 0) by omega, show ¬ ((t : Int) ≤ k) by omega, wrap_i64 (a := (i : Int) - 1) (by omega), show ((i : Int) - 1).toNat = i - 1 by omega, show (1 : Int) ≤ i by omega, show (i : Int) - 1 < t by omega, show 0 < i by omega]
      apply hK; clear hK K
      refine L_false (by simp; omega) ?_
      refine L_reg [1, 5, 6, 7, 10, 11, 12, 37, 38, 39] (fun K hK => ?_)
      simp [okFn_low, bx4.la]
      refine Mark_ac m s t k _ _ ?_
      simp
      apply hK; clear hK K
      refine L_reg [1, 5, 6, 7, 37, 38, 39, 86] (fun K hK => ?_)
      simp [pickV, hms, hrdm, show (k : Int) < t by omega]
      apply hK; clear hK K
      refine L_false (by simp) ?_
      refine L_reg [1, 5, 6, 7, 37, 38, 39] (fun K hK => ?_)
      simp [wrap_i64 (a := (i : Int) + 1) (by omega)]
      apply hK; clear hK K
      exact ⟨t - (i + 1), [.int .i64 (i + 1 : Nat)], by omega, by simp, i + 1, rfl, by omega, rfl, rfl⟩
  · have hck2 : (0 : Int) < m := by omega
    have hmne : m ≠ 0 := by omega
    have e2 : ((d : Int)).tmod m = ((d % m : Nat) : Int) := tmodN d m
    have hdl : d % m < m := Nat.mod_lt _ hm0
    generalize d % m = w at e2 hdl
    refine L_reg [5, 6, 13] (fun K hK => ?_)
    simp [bx4.l0, hmne, e2, wrap_i64 (a := (d : Int)) (by omega)]
    apply hK; clear hK K
    refine L_reg [5, 6, 13, 14, 15] (fun K hK => ?_)
    simp [okFn_low, bx4.la]
    refine Which_ac m s t w _ _ ?_
    simp
    apply hK; clear hK K
    have hwS : whichS m s t w = firstS m s w w t 0 := by unfold whichS; rw [if_pos hck1, if_pos (by omega)]; rfl
    rw [firstS_at] at hwS
    refine L_reg [5, 14, 15, 16] (fun K hK => ?_)
    simp [okFn_low]
    rw [hml] at hidx
    refine hidx w _ (fun i hi1 hi2 => ?_) (fun hno => ?_)
    · obtain ⟨hi3, hi4⟩ := List.getElem?_eq_some_iff.1 hi1
      have hit : i < t := by omega
      rw [hmg] at hi4
      have hat : atS m s w t 0 = some i := by
        have := atS_mark (m := m) (s := s) (t := t) (x := i) hm0 ht.2 hit
        rw [show i * s % m = w by omega] at this
        exact this
      rw [hat] at hwS
      simp [hwS]
      apply hK; clear hK K
      refine L_reg [5, 14, 15, 16, 103] (fun K hK => ?_)
      simp
      apply hK; clear hK K
      refine L_false (by simp) ?_
      refine L_reg [14, 15, 16, 18] (fun K hK => ?_)
      simp [okFn_low, bx4.la, bx4.l2]
      refine Mark_ac m s t t _ _ ?_
      simp
      apply hK; clear hK K
      have hmE : markS m s t t = (0, 2) := by
        have : turnE m s t t = 2 := by rw [turnE, if_pos hck1, if_neg (by omega)]
        unfold markS; rw [this]; rfl
      refine L_reg [4] (fun K hK => ?_)
      simp [okFn_low, pickV, hmE]
      refine works_ac _ _ ?_
      simp [pickV]
      apply hK; clear hK K
      exact L_ret ⟨.inr rfl, _, rfl, rfl⟩
    · have hat : atS m s w t 0 = none := (atS_none t 0).2 fun x _ hx e => hno (List.mem_iff_getElem.2 ⟨x, by omega, by rw [hmg]; omega⟩)
      rw [hat] at hwS
      simp [hwS]
      apply hK; clear hK K
      refine L_reg [5, 14, 15, 16, 103] (fun K hK => ?_)
      simp
      apply hK; clear hK K
      refine L_true (by simp) ?_
      refine L_reg [4] (fun K hK => ?_)
      simp [okFn_low, pickV]
      refine works_ac _ _ ?_
      simp [pickV]
      apply hK; clear hK K
      exact L_ret ⟨.inr rfl, _, rfl, rfl⟩
theorem u8_of {a : Int} (h : (Lit.int .u8 a).wf = true) : ∃ n : Nat, a = n ∧ n < 256 := by
  have h1 : 0 ≤ a ∧ a ≤ 255 := by
    simp [Lit.wf, IntKind.min, IntKind.max, IntKind.bits, IntKind.signed] at h
    omega
  exact ⟨a.toNat, by omega, by omega⟩
theorem wrapMarks_int (n : List Int) (e : n.length = 3) (b : ∀ x ∈ n, IntKind.u8.min ≤ x ∧ x ≤ IntKind.u8.max) (d : Int) (hd : (Lit.int .u8 d).wf = true) (H : AH) : AC Try.prog 10 [.agg (n.map (.int .u8)), .int .u8 d] H fun u _ => u = .bool true := by
  obtain ⟨x, y, z, rfl, hx, hy, hz⟩ := roll_int e b
  obtain ⟨d, rfl, hd2⟩ := u8_of hd
  exact wrapMarks_ac x y z d hx hy hz hd2 H
end Go.Proofs.Ytjfmiohgkcjdnaa
