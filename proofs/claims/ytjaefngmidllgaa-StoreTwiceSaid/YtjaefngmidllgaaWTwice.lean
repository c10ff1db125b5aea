/- Gaps of gaps are the division, turned by one box: the walk. -/
import Derived.Test.YtjaefngmidllgaaFlatn
import Derived.Test.YtjaefngmidllgaaMade2
import Derived.Test.YtjaefngmidllgaaOwn
import Derived.Test.YtjaefngmidllgaaWorks
namespace Go.Proofs.Ytjaefngmidllgaa.St
open Go Go.Proofs.Ytjaefngmidllgaa Go.Proofs.Ytjaefngmidllgaa.AX
set_option maxRecDepth 100000
set_option linter.unusedVariables false
theorem remT (a b : Nat) : ((a : Int)).tmod (b : Int) = ((a % b : Nat) : Int) := by
  rw [Int.tmod_eq_emod_of_nonneg (Int.natCast_nonneg _)]; simp
set_option maxHeartbeats 4000000 in
theorem twice_ac {s : List Nat} (hs : s.length = 19 ∧ ∀ x ∈ s, x < 256) (H : AH) : AC Try.prog 7 [.agg (sV s)] H fun v _ => v = .bool true := by
  obtain ⟨x, p, q, rfl, hx, hp, hq, hp2, hq2⟩ := nineteen hs
  clear hs
  refine L_body 80 Try.func7 rfl rfl ?_
  refine L_reg [1] (fun K hK => ?_)
  simp [AV.isU, acells]
  apply hK; clear hK K
  have hr : (H ++ [AObj.row (sV (x :: (p ++ q))) 0 0 false])[H.length]? = some (.row (sV (x :: (p ++ q))) 0 0 false) := by simp
  obtain ⟨pl, hpl⟩ : ∃ pl, H.length = pl := ⟨_, rfl⟩
  rw [hpl] at hr ⊢
  generalize H ++ [AObj.row (sV (x :: (p ++ q))) 0 0 false] = H1 at hr ⊢
  have l0 : ldn H1 pl 0 19 0 = some (sV (x :: (p ++ q))) := by
    have := ldn_sV (a := []) (b := x :: (p ++ q)) (c := []) (H := H1) (r := pl) (s := 0) (by simpa using hr)
    rw [show (x :: (p ++ q)).length = 19 by simp; omega] at this; exact this
  refine L_reg [3] (fun K hK => ?_)
  simp [okFn_low, l0]
  refine made_ac x p q hx hp hq hp2 hq2 9 5 (by omega) (by omega) (by omega) (by omega) H1 _ fun v w H2 hv hw hE2 => ?_
  have hn9 : 1 + x % 9 ≤ 9 := by have := Nat.mod_lt x (show 0 < 9 by decide); omega
  have hn : (lbl (1 + x % 9) 5 p).length = 1 + x % 9 := lbl_len hp hn9
  have hok : OkD (dv (lbl (1 + x % 9) 5 p)) := dv_okD _ (by omega) (by omega)
  generalize dv (lbl (1 + x % 9) 5 p) = a at hv hok
  simp
  apply hK; clear hK K hw hE2 hr l0
  refine L_reg [5] (fun K hK => ?_)
  simp [okFn_low]
  refine flatten_ac hok.pos hok.len v H2 hv _ fun d v3 H3 hd hda hc ho3 hE3 => ?_
  simp
  apply hK; clear hK K hv hE3
  have hl := ownF_ls ho3
  have hvl := ils_len hl
  have hnc := nc_iff.1 hc
  have h9 := hd.len
  refine L_reg [5, 6] (fun K hK => ?_)
  simp [hvl]
  apply hK; clear hK K
  refine L_reg [5, 6, 7, 8] (fun K hK => ?_)
  simp [okFn_low]
  refine Gaps_ok 39 (.inl rfl) hd hc v3 H3 hl _ fun v4 H4 ho4 hE4 => ?_
  simp
  apply hK; clear hK K
  have hg := gp_ok hd
  have hgl := gp_len d
  refine L_reg [5, 6, 8, 9, 10] (fun K hK => ?_)
  simp [okFn_low]
  refine Gaps_ok 39 (.inl rfl) hg (nc_iff.2 (gp_nc hd)) v4 H4 (ownF_ls ho4) _ fun v5 H5 ho5 hE5 => ?_
  simp
  apply hK; clear hK K
  have ht := ownF_ls ho5
  have htl := ils_len ht
  have htn : (gp (gp d)).length = d.length := by rw [gp_len, gp_len]
  rw [htn] at htl
  have hl := (hl.ext hE4).ext hE5
  have hTw := fun i k hk hi => @twice d hd hnc i k hk hi
  generalize gp (gp d) = t at ht htn hTw
  refine L_reg [5, 6, 9, 43] (fun K hK => ?_)
  simp [htl]
  apply hK; clear hK K
  refine L_false (by simp) ?_
  refine L_reg [5, 6, 9, 44, 45] (fun K hK => ?_)
  simp
  apply hK; clear hK K
  refine L_block (L_loopV [45] (fun q vs H' => ∃ i : Nat, q = d.length - i ∧ i ≤ d.length ∧ vs = [.int .i64 i] ∧ H5 = H') _ [.int .i64 (0 : Nat)] rfl ⟨0, rfl, by omega, rfl, rfl⟩ ?_)
  rintro q' _ _ ⟨i, rfl, hi, rfl, rfl⟩
  refine L_reg [5, 6, 9, 44, 45, 46] (fun K hK => ?_)
  simp
  apply hK; clear hK K
  refine L_dec (i < d.length) (by simp) (fun hlt => ?_) (fun hge => L_exit ?_)
  · refine L_block ?_
    refine L_reg [5, 6, 9, 11, 44, 45] (fun K hK => ?_)
    simp
    apply hK; clear hK K
    refine L_reg [5, 6, 9, 11, 44, 45, 48, 49] (fun K hK => ?_)
    simp
    apply hK; clear hK K
    refine L_block (L_loopV [49] (fun q vs H' => ∃ k : Nat, q = i - k ∧ k ≤ i ∧ vs = [.int .i64 k] ∧ H5 = H') _ [.int .i64 (0 : Nat)] rfl ⟨0, rfl, by omega, rfl, rfl⟩ ?_)
    rintro q2 _ _ ⟨k, rfl, hk, rfl, rfl⟩
    refine L_reg [5, 6, 9, 11, 44, 45, 48, 49, 50] (fun K hK => ?_)
    simp
    apply hK; clear hK K
    refine L_dec (k < i) (by simp) (fun hkl => ?_) (fun hge => L_exit ?_)
    · refine L_block ?_
      have hd0 := hd.pos
      have m1 := Nat.mod_lt (i + 1) hd0
      have m2 := Nat.mod_lt (k + 1) hd0
      obtain ⟨r1, p1, v1, x1, y1⟩ := il_ix ht (i := i) (by omega)
      obtain ⟨r2, p2, v2, x2, y2⟩ := il_ix ht (i := k) (by omega)
      obtain ⟨r3, p3, v3', x3, y3⟩ := il_ix hl (i := (i + 1) % d.length) m1
      obtain ⟨r4, p4, v4', x4, y4⟩ := il_ix hl (i := (k + 1) % d.length) m2
      have hkr := hTw i k hkl hlt
      rw [ga_lt (by omega), ga_lt (by omega), ga_lt m1, ga_lt m2] at hkr
      generalize t[i] = a1 at y1 hkr
      generalize t[k] = a2 at y2 hkr
      generalize d[(i + 1) % d.length] = a3 at y3 hkr
      generalize d[(k + 1) % d.length] = a4 at y4 hkr
      have w1 : IntKind.i64.wrap ((i : Int) + 1) = ((i + 1 : Nat) : Int) := by rw [wrap_i64 (by omega)]; omega
      have w2 : IntKind.i64.wrap ((k : Int) + 1) = ((k + 1 : Nat) : Int) := by rw [wrap_i64 (by omega)]; omega
      have t1 := remT (i + 1) d.length
      have t2 := remT (k + 1) d.length
      obtain ⟨z1, hz1⟩ : ∃ z, (i + 1) % d.length = z := ⟨_, rfl⟩
      obtain ⟨z2, hz2⟩ : ∃ z, (k + 1) % d.length = z := ⟨_, rfl⟩
      rw [hz1] at x3 t1 m1
      rw [hz2] at x4 t2 m2
      obtain ⟨i1, hi1⟩ : ∃ z, i + 1 = z := ⟨_, rfl⟩
      obtain ⟨k1, hk1⟩ : ∃ z, k + 1 = z := ⟨_, rfl⟩
      rw [hi1] at w1 t1
      rw [hk1] at w2 t2
      have hn0 : d.length ≠ 0 := by omega
      have hn1 : d ≠ [] := by rintro rfl; exact hn0 rfl
      have w3 : IntKind.i64.wrap (z1 : Int) = z1 := wrap_i64 (by omega)
      have w4 : IntKind.i64.wrap (z2 : Int) = z2 := wrap_i64 (by omega)
      refine L_reg [5, 6, 9, 11, 12, 44, 45, 48, 49] (fun K hK => ?_)
      simp
      apply hK; clear hK K
      refine L_regT mixed [5, 6, 9, 11, 44, 45, 48, 49, 76] (by kernel_rfl) (fun K hK => ?_)
      simp [x1, y1, x2, y2, x3, y3, x4, y4, w1, w2, t1, t2, hn0]
      apply hK; clear hK K
      refine L_false (by simp; rw [Bool.eq_iff_iff, beq_iff_eq, beq_iff_eq]; omega) ?_
      refine L_reg [5, 6, 9, 11, 44, 45, 48, 49] (fun K hK => ?_)
      simp [wrap_i64 (a := (k : Int) + 1) (by omega)]
      apply hK; clear hK K
      exact ⟨i - (k + 1), [.int .i64 (k + 1 : Nat)], by omega, by simp, k + 1, rfl, by omega, rfl, rfl⟩
    · refine L_reg [5, 6, 9, 44, 45] (fun K hK => ?_)
      simp [wrap_i64 (a := (i : Int) + 1) (by omega)]
      apply hK; clear hK K
      exact ⟨d.length - (i + 1), [.int .i64 (i + 1 : Nat)], by omega, by simp, i + 1, rfl, by omega, rfl, rfl⟩
  · refine L_reg [2] (fun K hK => ?_)
    simp [okFn_low]
    refine works_ac _ _ ?_
    simp
    apply hK; clear hK K
    exact L_ret ⟨.inr rfl, _, rfl, rfl⟩
end Go.Proofs.Ytjaefngmidllgaa.St
