/- WrapLeft, walked. -/
import Derived.Test.YtjfmiohgkcjdnaaMir
import Derived.Test.YtjfmiohgkcjdnaaRe
namespace Go.Proofs.Ytjfmiohgkcjdnaa
open Go Go.Proofs.Ytjfmiohgkcjdnaa.AX

set_option maxHeartbeats 800000 in
set_option maxRecDepth 100000 in
theorem wrapLeft_ac (a b c : Nat) (ha : a < 256) (hb : b < 256) (hc : c < 256) (H : AH) : AC Try.prog 13 [.agg [.int .u8 a, .int .u8 b, .int .u8 c]] H fun u _ => u = .bool true := by
  refine L_body 133 Try.func13 rfl rfl ?_
  obtain ⟨H1, e, hE, hl1, r1, l0, l1, l2, la⟩ := box3u H a b c
  refine L_reg [1] (fun K hK => ?_)
  simp [AV.isU, acells]
  apply hK; clear hK K
  rw [e]
  have hm := mM_ok a
  have hs := mS_ok a b
  have ht := mT_ok a b c
  refine L_reg [3] (fun K hK => ?_)
  simp [okFn_low, la]
  refine made_ac a b c ha hb hc _ _ ?_
  generalize mM a = m at *
  generalize mS a b = s at *
  generalize mT a b c = t at *
  simp [alloc_z zt23, newW, WV]
  apply hK; clear hK K
  obtain ⟨H2, e2, hE2, hl2, r2, bx⟩ := box3 H1 m s t
  rw [e2]
  generalize hp : H1.length = p at *
  refine L_reg [3, 19] (fun K hK => ?_)
  simp [bx.l1]
  apply hK; clear hK K
  by_cases hs0 : s = 0
  · refine L_true (by simp [hs0]) ?_
    refine L_reg [2] (fun K hK => ?_)
    simp [okFn_low]
    refine works_ac _ _ ?_
    simp
    apply hK; clear hK K
    exact L_ret ⟨.inr rfl, _, rfl, rfl⟩
  refine L_false (by simp; omega) ?_
  refine L_reg [3, 4] (fun K hK => ?_)
  simp [bx.la, alloc_z zt23, newW]
  apply hK; clear hK K
  obtain ⟨H3, e3, hE3, hl3, r3, cx⟩ := box3 H2 m s t
  rw [e3]
  have bx3 := bx.ext hE3
  have r23 := hE3.row r2
  generalize hq : H2.length = q at *
  have hpq : q ≠ p := by omega
  have hms : ((m - s : Nat) : Int) = (m : Int) - s := by omega
  refine L_reg [3, 4] (fun K hK => ?_)
  simp [bx3.l0, bx3.l1, setS r3, wrap_i64 (a := (m : Int) - s) (by omega)]
  apply hK; clear hK K
  have r4 := get_set (o' := AObj.row [.int .i64 m, .int .i64 ((m : Int) - s), .int .i64 t] 0 0 false) r3
  have cx4 := Bx.row r4
  have bx4 : Bx (H3.set q (AObj.row [.int .i64 m, .int .i64 ((m : Int) - s), .int .i64 t] 0 0 false)) p m s t := Bx.row (st := 0) (ro := false) (by rw [set_ne hpq]; exact r23)
  have rp4 : (H3.set q (AObj.row [.int .i64 m, .int .i64 ((m : Int) - s), .int .i64 t] 0 0 false))[p]? = some (AObj.row [.int .i64 m, .int .i64 s, .int .i64 t] 0 0 false) := by rw [set_ne hpq]; exact r23
  have hlen4 : q < (H3.set q (AObj.row [.int .i64 m, .int .i64 ((m : Int) - s), .int .i64 t] 0 0 false)).length := by simpa using hl3
  generalize H3.set q (AObj.row [.int .i64 m, .int .i64 ((m : Int) - s), .int .i64 t] 0 0 false) = H4 at *
  rw [← hms] at cx4
  have hck1 : checkE m s t = 0 := checkE_ok hm.1 hm.2 hs ht.1 ht.2
  have hper := per_mir (m := m) (s := s) (by omega)
  have hck2 : checkE m (m - s : Nat) t = 0 := checkE_ok hm.1 hm.2 (by omega) ht.1 (by rw [hper]; exact ht.2)
  have hci1 : circleE m s = 0 := by unfold circleE; rw [if_neg (by omega)]
  have hci2 : circleE m (m - s : Nat) = 0 := by unfold circleE; rw [if_neg (by omega)]
  have G1 : gapsR m s t = gapsS m s t := by unfold gapsR; rw [if_pos hck1]; rfl
  have G2 : gapsR m (m - s : Nat) t = (gapsS m s t).reverse := by unfold gapsR; rw [if_pos hck2, ← gaps_mir (by omega) (by omega) ht.2 ht.1]; rfl
  have W1 : widthsR m s t = widthsS m s t := by unfold widthsR; rw [if_pos hck1]; rfl
  have W2 : widthsR m (m - s : Nat) t = widthsS m s t := by unfold widthsR; rw [if_pos hck2, ← widths_mir (by omega) (by omega) ht.2 ht.1]; rfl
  have E1 : evensR m s = evS m s (per m s) := by unfold evensR; rw [if_pos hci1]; rfl
  have E2 : evensR m (m - s : Nat) = evS m s (per m s) := by
    have : evensR m (m - s : Nat) = evS m (m - s) (per m (m - s)) := by unfold evensR; rw [if_pos hci2]; rfl
    rw [this, hper, evS_mir (by omega) (by omega) _ (Nat.le_refl _)]
  have N1 : nearR m s = (nrS m s (per m s)).1 := by unfold nearR; rw [if_pos hci1]; rfl
  have N2 : nearR m (m - s : Nat) = (nrS m s (per m s)).1 := by
    have : nearR m (m - s : Nat) = (nrS m (m - s) (per m (m - s))).1 := by unfold nearR; rw [if_pos hci2]; rfl
    rw [this, hper, nrS_mir (by omega) (by omega)]
  have hgl := gapsS_len (m := m) (s := s) (show 0 < m by omega) ht.2
  have n0 := (roundR_len m s t).2.2
  have n1 := evensR_len m s
  have n2 := nearR_len m s
  have hpm := per_le m s
  refine L_reg [3, 4, 5, 6] (fun K hK => ?_)
  simp [okFn_low, bx4.la]
  refine Gaps_ac m s t _ _ (fun v1 H5 hO1 hE5 => ?_)
  rw [hck1]
  simp
  apply hK; clear hK K
  have bx5 := bx4.ext hE5
  have cx5 := cx4.ext hE5
  refine L_reg [3, 4, 5, 6, 7, 8] (fun K hK => ?_)
  simp [okFn_low, cx5.la]
  refine Gaps_ac m (m - s : Nat) t _ _ (fun v2 H6 hO2 hE6 => ?_)
  rw [hck2]
  simp
  apply hK; clear hK K
  have bx6 := bx5.ext hE6
  have cx6 := cx5.ext hE6
  rw [G1] at hO1
  rw [G2] at hO2
  refine L_reg [3, 4, 5, 7, 43] (fun K hK => ?_)
  simp [pickV]
  apply hK; clear hK K
  refine L_false (by simp) ?_
  have ls1 := hO1.own.ls.ext hE6
  have hlt1 : ∀ r : Nat, H5.length ≤ r → r ≠ p ∧ r ≠ q := fun r h => by
    have := hE5.1
    exact ⟨by omega, by omega⟩
  obtain ⟨r, ver, st, g1, g2, g3⟩ : ∃ r ver stale, H5.length ≤ r ∧ v2 = .slice (some r) 0 ((gapsS m s t).reverse.map (AV.int .i64)).length ver 1 false ∧ H6[r]? = some (.row ((gapsS m s t).reverse.map (.int .i64)) ver stale false) := by
    rcases hO2 with ⟨h1, -⟩ | h
    · have := congrArg List.length h1
      simp [hgl] at this; omega
    · exact h
  subst g2
  have hrp := hlt1 r g1
  have hrv := Reverse_ac r ver (gapsS m s t).reverse H6
  rw [List.reverse_reverse, List.length_reverse] at hrv
  have hl5 : ∀ j, j < H5.length → j ≠ r := fun j h => by omega
  have ls5 : ∀ H', KeepX r H6 H' → Ls H' v1 (gapsS m s t) := by
    intro H' hK
    have hOx := hO1
    rcases hOx with ⟨h1, h2⟩ | ⟨r0, ver0, st0, h1, h2, h3⟩
    · have : gapsS m s t = [] := by simpa using h1
      rw [this] at hgl; simp at hgl; omega
    · rw [h2]
      have hlt : r0 < H5.length := (List.getElem?_eq_some_iff.1 h3).1
      have := hK.row (j := r0) (hl5 r0 hlt) (hE6.row h3)
      simpa using Ls.row this false
  refine L_reg [3, 4, 5, 7] (fun K hK => ?_)
  simp [okFn_low]
  refine hrv _ ⟨st, g3⟩ (by omega) (fun H7 hRw hKX => ?_)
  simp
  apply hK; clear hK K
  have ls1 := ls5 H7 hKX
  obtain ⟨st7, hrow7⟩ := hRw
  have ls2 : Ls H7 (.slice (some r) 0 (gapsS m s t).length ver 1 false) (gapsS m s t) := by simpa using Ls.row hrow7 false
  have bx7 : Bx H7 p m s t := Bx.row (hKX.row (by omega) (hE6.row (hE5.row rp4)))
  have cx7 : Bx H7 q m (m - s : Nat) t := Bx.row (by rw [hms]; exact hKX.row (by omega) (hE6.row (hE5.row r4)))

  refine L_reg [3, 4, 5, 6, 7, 9] (fun K hK => ?_)
  simp [okFn_low, bx7.la]
  refine Widths_ac m s t _ _ (fun v3 H8 hO3 hE8 => ?_)
  rw [hck1]
  simp
  apply hK; clear hK K
  have bx8 := bx7.ext hE8
  have cx8 := cx7.ext hE8
  refine L_reg [3, 4, 5, 6, 7, 8, 9, 10] (fun K hK => ?_)
  simp [okFn_low, cx8.la]
  refine Widths_ac m (m - s : Nat) t _ _ (fun v4 H9 hO4 hE9 => ?_)
  rw [hck2]
  simp
  apply hK; clear hK K
  have bx9 := bx8.ext hE9
  have cx9 := cx8.ext hE9
  rw [W1] at hO3
  rw [W2] at hO4
  rw [W1] at n0
  have l1 := ls1.ext (hE8.trans hE9)
  have l2 := ls2.ext (hE8.trans hE9)
  have l3 := hO3.rs.ext hE9
  have l4 := hO4.rs
  refine L_reg [3, 4, 73] (fun K hK => ?_)
  simp [okFn_low, pickV]
  refine same_ac _ _ _ _ H9 _ (by omega) l1 l2 ?_
  simp [okFn_low, pickV]
  refine pairs_ac _ _ _ _ H9 _ (by omega) l3 l4 ?_
  simp [pickV]
  apply hK; clear hK K
  refine L_false (by simp) ?_
  refine L_reg [3, 4, 5, 6] (fun K hK => ?_)
  simp [okFn_low, bx9.l0, bx9.l1]
  refine Evens_ac m s _ _ (fun v5 H10 hO5 hE10 => ?_)
  rw [hci1]
  simp
  apply hK; clear hK K
  have bx10 := bx9.ext hE10
  have cx10 := cx9.ext hE10
  refine L_reg [3, 4, 5, 6, 7, 8] (fun K hK => ?_)
  simp [okFn_low, cx10.l0, cx10.l1]
  refine Evens_ac m (m - s : Nat) _ _ (fun v6 H11 hO6 hE11 => ?_)
  rw [hci2]
  simp
  apply hK; clear hK K
  have bx11 := bx10.ext hE11
  have cx11 := cx10.ext hE11
  refine L_reg [4, 5, 6, 7, 8, 11, 12] (fun K hK => ?_)
  simp [okFn_low, bx11.l0, bx11.l1]
  refine Nearer_ac m s _ _ (fun v7 H12 hO7 hE12 => ?_)
  rw [hci1]
  simp
  apply hK; clear hK K
  have cx12 := cx11.ext hE12
  refine L_reg [5, 6, 7, 8, 11, 12, 13, 14] (fun K hK => ?_)
  simp [okFn_low, cx12.l0, cx12.l1]
  refine Nearer_ac m (m - s : Nat) _ _ (fun v8 H13 hO8 hE13 => ?_)
  rw [hci2]
  simp
  apply hK; clear hK K
  rw [E1] at hO5 n1
  rw [E2] at hO6
  rw [N1] at hO7 n2
  rw [N2] at hO8
  have l5 := hO5.own.ls.ext (hE11.trans (hE12.trans hE13))
  have l6 := hO6.own.ls.ext (hE12.trans hE13)
  have l7 := hO7.own.ls.ext hE13
  have l8 := hO8.own.ls
  refine L_reg [2] (fun K hK => ?_)
  simp [okFn_low, pickV]
  refine same_ac _ _ _ _ H13 _ (by omega) l5 l6 ?_
  simp [okFn_low, pickV]
  refine same_ac _ _ _ _ H13 _ (by omega) l7 l8 ?_
  simp [okFn_low, pickV]
  refine works_ac _ _ ?_
  simp [pickV]
  apply hK; clear hK K
  exact L_ret ⟨.inr rfl, _, rfl, rfl⟩
theorem wrapLeft_int (n : List Int) (e : n.length = 3) (b : ∀ x ∈ n, IntKind.u8.min ≤ x ∧ x ≤ IntKind.u8.max) (H : AH) : AC Try.prog 13 [.agg (n.map (.int .u8))] H fun u _ => u = .bool true := by
  obtain ⟨x, y, z, rfl, hx, hy, hz⟩ := roll_int e b
  exact wrapLeft_ac x y z hx hy hz H
end Go.Proofs.Ytjfmiohgkcjdnaa
