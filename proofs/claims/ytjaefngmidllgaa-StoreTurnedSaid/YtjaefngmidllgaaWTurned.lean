/- Boxes in the opposite order: the walk. -/
import Derived.Test.YtjaefngmidllgaaMade2
import Derived.Test.YtjaefngmidllgaaTurnM
import Derived.Test.YtjaefngmidllgaaLArc
import Derived.Test.YtjaefngmidllgaaWorks
import Derived.Test.YtjaefngmidllgaaJn
namespace Go.Proofs.Ytjaefngmidllgaa.St
open Go Go.Proofs.Ytjaefngmidllgaa Go.Proofs.Ytjaefngmidllgaa.AX
set_option maxRecDepth 100000
set_option linter.unusedVariables false
theorem il_rev (d : List Nat) : (il d).reverse = il d.reverse := by simp [il]
theorem il_eq {l : List Nat} {i k : Nat} (hi : i < l.length) (hk : k < l.length) : ((l[i] : Int) = (l[k] : Int)) ↔ l[i] = l[k] := by omega
set_option maxHeartbeats 2000000 in
theorem turned_ac {s : List Nat} (hs : s.length = 19 ∧ ∀ x ∈ s, x < 256) (H : AH) : AC Try.prog 13 [.agg (sV s)] H fun v _ => v = .bool true := by
  obtain ⟨x, p, q, rfl, hx, hp, hq, hp2, hq2⟩ := nineteen hs
  clear hs
  refine L_body 117 Try.func13 rfl rfl ?_
  refine L_reg [1] (fun K hK => ?_)
  simp [AV.isU, acells]
  apply hK; clear hK K
  have hr : (H ++ [AObj.row (sV (x :: (p ++ q))) 0 0 false])[H.length]? = some (.row (sV (x :: (p ++ q))) 0 0 false) := by simp
  obtain ⟨pl, hpl⟩ : ∃ pl, H.length = pl := ⟨_, rfl⟩
  rw [hpl] at hr ⊢
  generalize H ++ [AObj.row (sV (x :: (p ++ q))) 0 0 false] = H1 at hr ⊢
  have l0 : ldn H1 pl 0 19 0 = some (sV (x :: (p ++ q))) := by
    have := ldn_sV (a := []) (b := x :: (p ++ q)) (c := []) (H := H1) (r := pl) (s := 0) (by simpa using hr)
    rw [show (x :: (p ++ q)).length = 19 by simp; omega] at this; exact this
  refine L_reg [3] (fun K hK => ?_)
  simp [okFn_low, l0]
  refine made_ac x p q hx hp hq hp2 hq2 9 6 (by omega) (by omega) (by omega) (by omega) H1 _ fun v w H2 hv hw hE2 => ?_
  have hn : (lbl (1 + x % 9) 6 p).length = 1 + x % 9 := lbl_len hp (by have := Nat.mod_lt x (show 0 < 9 by decide); omega)
  have hn9 : 1 + x % 9 ≤ 9 := by have := Nat.mod_lt x (show 0 < 9 by decide); omega
  have hok : OkD (dv (lbl (1 + x % 9) 6 p)) := dv_okD _ (by omega) (by omega)
  generalize dv (lbl (1 + x % 9) 6 p) = d at hv hok
  simp
  apply hK; clear hK K hw hE2 hr l0
  have h9 := hok.len
  have h0 := hok.pos
  refine L_reg [3, 5] (fun K hK => ?_)
  simp [okFn_low]
  refine Clone_ac v (il d) H2 _ (il9 hok) hv fun b H3 hb hE3 => ?_
  simp
  apply hK; clear hK K
  have hv3 := hv.ext hE3
  refine L_reg [3, 5] (fun K hK => ?_)
  simp [okFn_low]
  refine reverse_own hE3 hb (il9 hok) _ fun H4 hb4 hE4 => ?_
  simp
  apply hK; clear hK K
  have hv4 := hv.ext hE4
  have lb4 := ownF_ls hb4
  rw [il_rev] at lb4
  have hrl : d.reverse.length = d.length := List.length_reverse
  refine L_reg [3, 5, 6, 7] (fun K hK => ?_)
  simp [okFn_low]
  refine Of_ac 16 (.inl rfl) (il d.reverse) b (by rw [il_len]; omega) H4 lb4 _ (fun h => absurd (sz_ok (n := (il d.reverse).length) (by rw [il_len]; omega) (by rw [il_len]; omega)) h) fun _ u H5 hu hE5 => ?_
  simp
  apply hK; clear hK K
  have hoe : OkD (dv (il d.reverse)) := dv_okD _ (by rw [il_len]; omega) (by rw [il_len]; omega)
  have hel : (dv (il d.reverse)).length = d.length := by rw [dv_len, il_len, hrl]
  have hker : ∀ i k, i < d.length → k < d.length → (ga (dv (il d.reverse)) i = ga (dv (il d.reverse)) k ↔ ga d.reverse i = ga d.reverse k) := by
    intro i k hi hk
    rw [ga_lt (by omega), ga_lt (by omega), ga_lt (by omega), ga_lt (by omega), dv_ker (il d.reverse) i k (by rw [il_len]; omega) (by rw [il_len]; omega), il_get (by omega), il_get (by omega)]
    exact il_eq (by omega) (by omega)
  generalize dv (il d.reverse) = e at hu hoe hel hker
  have lu := ownF_ls hu
  have lb5 := lb4.ext hE5
  have lv5 := hv4.ext hE5
  have hturn : crS e = crS d ∧ neS e = neS d := turn_eq rfl hel (fun i k hi hk => by
    rw [hker i k hi hk, ga_lt (by omega), ga_lt (by omega), ga_lt (by omega), ga_lt (by omega), List.getElem_reverse, List.getElem_reverse])
  have hvl := ils_len lv5
  have hul := ils_len lu
  rw [hel] at hul
  have hE15 := hE4.trans hE5
  clear hb hb4 hE3 hE4 hE5 hv3 hv4 lb4 hv hu H3 H4
  refine L_reg [3, 5, 6, 40] (fun K hK => ?_)
  simp [hvl, hul]
  apply hK; clear hK K
  refine L_false (by simp) ?_
  refine L_reg [3, 5, 6, 42, 43] (fun K hK => ?_)
  simp [hvl]
  apply hK; clear hK K
  refine L_block (L_loopV [43] (fun q vs H' => ∃ i : Nat, q = d.length - i ∧ i ≤ d.length ∧ vs = [.int .i64 i] ∧ H5 = H') _ [.int .i64 (0 : Nat)] rfl ⟨0, rfl, by omega, rfl, rfl⟩ ?_)
  rintro q' _ _ ⟨i, rfl, hi, rfl, rfl⟩
  refine L_reg [3, 5, 6, 42, 43, 44] (fun K hK => ?_)
  simp
  apply hK; clear hK K
  refine L_dec (i < d.length) (by simp) (fun hlt => ?_) (fun hge => L_exit ?_)
  · refine L_block ?_
    refine L_reg [3, 5, 6, 8, 42, 43] (fun K hK => ?_)
    simp
    apply hK; clear hK K
    refine L_reg [3, 5, 6, 8, 42, 43, 46, 47] (fun K hK => ?_)
    simp
    apply hK; clear hK K
    refine L_block (L_loopV [47] (fun q vs H' => ∃ k : Nat, q = i - k ∧ k ≤ i ∧ vs = [.int .i64 k] ∧ H5 = H') _ [.int .i64 (0 : Nat)] rfl ⟨0, rfl, by omega, rfl, rfl⟩ ?_)
    rintro q2 _ _ ⟨k, rfl, hk, rfl, rfl⟩
    refine L_reg [3, 5, 6, 8, 42, 43, 46, 47, 48] (fun K hK => ?_)
    simp
    apply hK; clear hK K
    refine L_dec (k < i) (by simp) (fun hkl => ?_) (fun hge => L_exit ?_)
    · refine L_block ?_
      obtain ⟨r1, p1, v1, x1, y1⟩ := il_ix lu (i := i) (by omega)
      obtain ⟨r2, p2, v2, x2, y2⟩ := il_ix lu (i := k) (by omega)
      obtain ⟨r3, p3, v3, x3, y3⟩ := il_ix lb5 (i := i) (by omega)
      obtain ⟨r4, p4, v4, x4, y4⟩ := il_ix lb5 (i := k) (by omega)
      have hkr := hker i k hlt (by omega)
      rw [ga_lt (by omega), ga_lt (by omega), ga_lt (by omega), ga_lt (by omega)] at hkr
      generalize e[i] = a1 at y1 hkr
      generalize e[k] = a2 at y2 hkr
      generalize d.reverse[i] = a3 at y3 hkr
      generalize d.reverse[k] = a4 at y4 hkr
      have hde : decide (a1 = a2) = decide (a3 = a4) := by rw [decide_eq_decide]; exact hkr
      refine L_reg [3, 5, 6, 8, 9, 42, 43, 46, 47] (fun K hK => ?_)
      simp
      apply hK; clear hK K
      refine L_regT mixed [3, 5, 6, 8, 42, 43, 46, 47, 68] (by kernel_rfl) (fun K hK => ?_)
      simp [x1, y1, x2, y2, x3, y3, x4, y4]
      apply hK; clear hK K
      refine L_false (by simp; rw [Bool.eq_iff_iff, beq_iff_eq, beq_iff_eq]; omega) ?_
      refine L_reg [3, 5, 6, 8, 42, 43, 46, 47] (fun K hK => ?_)
      simp [wrap_i64 (a := (k : Int) + 1) (by omega)]
      apply hK; clear hK K
      exact ⟨i - (k + 1), [.int .i64 (k + 1 : Nat)], by omega, by simp, k + 1, rfl, by omega, rfl, rfl⟩
    · refine L_reg [3, 5, 6, 42, 43] (fun K hK => ?_)
      simp [wrap_i64 (a := (i : Int) + 1) (by omega)]
      apply hK; clear hK K
      exact ⟨d.length - (i + 1), [.int .i64 (i + 1 : Nat)], by omega, by simp, i + 1, rfl, by omega, rfl, rfl⟩
  · refine L_reg [3, 6, 10, 11, 12] (fun K hK => ?_)
    simp [okFn_low]
    refine Arcs_ok 35 (.inl rfl) hok v H5 lv5 _ fun H6 hE6 => ?_
    simp
    apply hK; clear hK K
    have lv6 := lv5.ext hE6
    have lu6 := lu.ext hE6
    refine L_reg [3, 10, 11, 12, 13, 14, 15] (fun K hK => ?_)
    simp [okFn_low]
    refine Arcs_ok 35 (.inl rfl) hoe u H6 lu6 _ fun H7 hE7 => ?_
    simp
    apply hK; clear hK K
    have lv7 := lv6.ext hE7
    refine L_reg [10, 11, 12, 13, 14, 15, 16, 17] (fun K hK => ?_)
    simp [okFn_low]
    refine larcs_ac h9 v H7 lv7 _ fun H8 hE8 => ?_
    simp
    apply hK; clear hK K
    rw [hturn.1, hturn.2]
    refine L_reg [2] (fun K hK => ?_)
    simp [okFn_low]
    refine works_ac _ _ ?_
    simp
    apply hK; clear hK K
    exact L_ret ⟨.inr rfl, _, rfl, rfl⟩
end Go.Proofs.Ytjaefngmidllgaa.St
