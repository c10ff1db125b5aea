/- BlendWalked, walked. -/
import Derived.Test.YtpdcmdmhamnndaaWalked1
namespace Go.Proofs.Ytpdcmdmhamnndaa
open Go Go.Proofs.Ytpdcmdmhamnndaa.AX

@[simp] theorem ne_bool (l b c : Bool) : binV Try.prog .neq 4 l (.bool b) (.bool c) = some (.bool (b != c)) := by
  cases l <;> cases b <;> cases c <;> kernel_rfl
def Own2 (N : Nat) (H : AH) (u : AV) (l : List Int) (v : AV) (m : List Int) : Prop := OwnF N H u (l.map (.int .i64)) ∧ OwnF N H v (m.map (.int .i64)) ∧ ∀ r r' ver ver', u = .slice (some r) 0 l.length ver 1 false → v = .slice (some r') 0 m.length ver' 1 false → r ≠ r'
theorem Own2.symm {N : Nat} {H : AH} {u v : AV} {l m : List Int} (h : Own2 N H u l v m) : Own2 N H v m u l := ⟨h.2.1, h.1, fun r r' a b h1 h2 => Ne.symm (h.2.2 r' r b a h2 h1)⟩
theorem Own2.left {H0 H : AH} {u v : AV} {l m : List Int} (h : Own2 H0.length H u l v m) (x : Nat) (hE : Ext H0 H) (hl : l.length < 1000000 ∧ m.length < 1000000) :
    ∃ u' H', aAppend Try.prog (H ++ [AObj.row [.int .i64 (x : Int)] 0 1 false]) 22 22 u (.slice (some H.length) 0 1 0 1 false) = some (u', H') ∧ Own2 H0.length H' u' (l ++ [(x : Int)]) v m ∧ Ext H0 H' := by
  obtain ⟨h1, h2, h3⟩ := h
  obtain ⟨r, ver, s, H', e1, e2, e3, e4, e5, e6⟩ := own_grow (P := Try.prog) el22 el22 hE.1 h1 (x := .int .i64 (x : Int)) (m := 1) rfl (by simp; omega)
  simp only [List.length_map] at e1 e5
  have hE' : Ext H0 H' := ⟨Nat.le_trans hE.1 e4.1, fun j hj => by have := hE.1; rw [e4.2 j (by omega) (by omega), hE.2 j hj]⟩
  have hdis : ∀ r' ver', v = .slice (some r') 0 m.length ver' 1 false → r ≠ r' ∧ (∀ o, H[r']? = some o → H'[r']? = some o) := by
    intro r' ver' hv
    have hne : r ≠ r' := by
      rcases h1 with ⟨-, hu⟩ | ⟨r0, ver0, s0, -, hu, -⟩
      · have h7 := e6 hu
        rcases h2 with ⟨-, hv2⟩ | ⟨r2, ver2, s2, -, hv2, hr2⟩
        · rw [hv2] at hv; cases hv
        · rw [hv2] at hv
          have := lt_of_row hr2
          simp only [List.length_map] at hv
          cases hv
          omega
      · simp only [List.length_map] at hu
        have h7 := e5 r0 ver0 hu
        rw [h7]
        exact h3 r0 r' ver0 ver' hu hv
    exact ⟨hne, fun o ho => e4.row (Ne.symm hne) ho⟩
  refine ⟨_, H', e1, ⟨.inr ⟨r, ver, s, e2, by simp, by simpa using e3⟩, ?_, fun a b va vb ha hb => ?_⟩, hE'⟩
  · rcases h2 with h2 | ⟨r2, ver2, s2, g1, g2, g3⟩
    · exact .inl h2
    · exact .inr ⟨r2, ver2, s2, g1, g2, (hdis r2 ver2 (by simpa using g2)).2 _ g3⟩
  · simp only [List.length_append, List.length_singleton] at ha
    cases ha
    exact (hdis b vb hb).1
theorem Own2.right {H0 H : AH} {u v : AV} {l m : List Int} (h : Own2 H0.length H u l v m) (x : Nat) (hE : Ext H0 H) (hl : l.length < 1000000 ∧ m.length < 1000000) :
    ∃ v' H', aAppend Try.prog (H ++ [AObj.row [.int .i64 (x : Int)] 0 1 false]) 22 22 v (.slice (some H.length) 0 1 0 1 false) = some (v', H') ∧ Own2 H0.length H' u l v' (m ++ [(x : Int)]) ∧ Ext H0 H' := by
  obtain ⟨v', H', h1, h2, h3⟩ := h.symm.left x hE hl.symm
  exact ⟨v', H', h1, h2.symm, h3⟩
def sel (f : Int → Bool) (n : Nat) : List Int := (iota n).filter f
theorem sel_yes {f : Int → Bool} {n : Nat} (h : f n = true) : sel f (n + 1) = sel f n ++ [(n : Int)] := by simp [sel, iota_succ, h]
theorem sel_no {f : Int → Bool} {n : Nat} (h : f n = false) : sel f (n + 1) = sel f n := by simp [sel, iota_succ, h]
theorem sel_len (f : Int → Bool) (n : Nat) : (sel f n).length ≤ n := by
  unfold sel
  exact Nat.le_trans (List.length_filter_le _ _) (by simp)
theorem sel_lack1 {n : Nat} {p b : List Int} (hp : Okb n p) : sel (fun y => decide (y ∈ p ∧ y ∉ b)) n = lack p b := by
  refine sorted_ext ((okb_iota n).2.sublist List.filter_sublist) (lack_sorted hp.2) fun x => ?_
  simp only [sel, List.mem_filter, mem_iota, decide_eq_true_eq, mem_lack]
  exact ⟨fun h => h.2, fun h => ⟨hp.1 x h.1, h⟩⟩
theorem sel_lack2 {n : Nat} {p b : List Int} (hb : Okb n b) : sel (fun y => decide (y ∉ p ∧ y ∈ b)) n = lack b p := by
  refine sorted_ext ((okb_iota n).2.sublist List.filter_sublist) (lack_sorted hb.2) fun x => ?_
  simp only [sel, List.mem_filter, mem_iota, decide_eq_true_eq, mem_lack]
  exact ⟨fun h => ⟨h.2.2, h.2.1⟩, fun h => ⟨hb.1 x h.1, h.2, h.1⟩⟩
theorem sel_first {f : Int → Bool} {l os : List Int} {o : Int} {x : Nat} (hl : ∀ y, f y = true → y ∈ l) (h : l = o :: os) (hs : l.Pairwise (· < ·)) (hx : (x : Int) = o) : sel f x = [] := by
  unfold sel
  rw [List.filter_eq_nil_iff]
  intro y hy hf
  have h1 := hl y hf
  have h2 := mem_iota.1 hy
  rw [h] at h1 hs
  rcases List.mem_cons.1 h1 with e | e
  · omega
  · have := (List.pairwise_cons.1 hs).1 y e; omega

set_option maxRecDepth 100000 in
set_option maxHeartbeats 1600000 in
theorem blendWalked_ac (x0 y0 : Nat) (hx0 : x0 < 256) (hy0 : y0 < 256) (n1 n2 : List Nat) (l1 : n1.length = 10) (l2 : n2.length = 10) (b1 : ∀ x ∈ n1, x < 256) (b2 : ∀ x ∈ n2, x < 256) (H : AH) :
    AC Try.prog 8 [.int .u8 x0, .int .u8 y0, .agg (u8s n1), .agg (u8s n2)] H fun u _ => u = .bool true := by
  refine L_body 192 Try.func8 rfl rfl ?_
  refine L_reg [0, 1, 6, 7] (fun K hK => ?_)
  simp [AV.isU, acells]
  apply hK; clear hK K
  have r7 : (H ++ [AObj.row (u8s n1) 0 0 false, .row (u8s n2) 0 0 false])[H.length]? = some (.row (u8s n1) 0 0 false) := by simp
  have r8 : (H ++ [AObj.row (u8s n1) 0 0 false, .row (u8s n2) 0 0 false])[H.length + 1]? = some (.row (u8s n2) 0 0 false) := by simp
  generalize H ++ [AObj.row (u8s n1) 0 0 false, .row (u8s n2) 0 0 false] = Hc at r7 r8 ⊢
  generalize hp : H.length = p0 at *
  have h10 : ((x0 : Int)).tmod 10 = ((x0 % 10 : Nat) : Int) := rem_nat x0 10
  have hx10 : x0 % 10 < 10 := Nat.mod_lt _ (by omega)
  generalize x0 % 10 = x10 at h10 hx10
  obtain ⟨n, hn⟩ : ∃ n, n = 1 + x10 := ⟨_, rfl⟩
  have hn1 : IntKind.i64.wrap (1 + (x10 : Int)) = (n : Int) := by rw [wrap_i64 (by omega)]; omega
  have hnn : 1 ≤ n ∧ n ≤ 10 := by omega
  refine L_reg [1, 6, 7, 9] (fun K hK => ?_)
  simp [wrap_i64 (a := (x0 : Int)) (by omega), h10, wrap_i64 (a := (x10 : Int)) (by omega), hn1]
  apply hK; clear hK K
  have hk1 : ((y0 : Int)).tmod ((n : Int) + 1) = ((y0 % (n + 1) : Nat) : Int) := rem_nat y0 (n + 1)
  have hk2 : y0 % (n + 1) < n + 1 := Nat.mod_lt _ (by omega)
  generalize y0 % (n + 1) = k at hk1 hk2
  have hkn : k ≤ n := by omega
  refine L_reg [6, 7, 9, 10] (fun K hK => ?_)
  simp [wrap_i64 (a := (y0 : Int)) (by omega), wrap_i64 (a := (n : Int) + 1) (by omega), show ¬ ((n : Int) + 1 = 0) by omega, hk1, wrap_i64 (a := (k : Int)) (by omega)]
  apply hK; clear hK K
  have e7 := ldn_u8s r7 l1
  have e8 := ldn_u8s r8 l2
  have q1 := chosen_q n k n1 Hc hnn hkn l1 b1
  have q2 := chosen_q n k n2 (chH Hc (chosS n k n1)) hnn hkn l2 b2
  have oA := chosS_okb n k n1
  have oB := chosS_okb n k n2
  have lA := chosS_len (ns := n1) hkn (by omega)
  have lB := chosS_len (ns := n2) hkn (by omega)
  generalize chosS n k n1 = a at *
  generalize chosS n k n2 = b at *
  refine L_regY mixed [9, 10, 11, 12] (by kernel_rfl) (fun K hK => ?_)
  simp [e7, okFn_low]
  refine exX_mk q1 (chE _ _) ?_
  simp [e8, okFn_low]
  refine exX_mk q2 (chE _ _) ?_
  simp
  apply hK; clear hK K
  have xA := (chL Hc a).ext (chE (chH Hc a) b)
  have xB := chL (chH Hc a) b
  generalize chV Hc a = va at xA ⊢
  generalize chV (chH Hc a) b = vb at xB ⊢
  generalize chH (chH Hc a) b = Hd at xA xB ⊢
  clear q1 q2 r7 r8 e7 e8
  obtain ⟨z1, w1⟩ := both_of oA oB (by omega) hnn.1 hnn.2
  have hlen := lack_len oA.2 oB.2 (by omega)
  have hd10 := (lack_most oA oB).1
  refine L_reg [9, 10, 11, 12, 13, 14] (fun K hK => ?_)
  simp [okFn_low]
  refine away_q n va vb a b Hd (by omega) (by omega) xA xB _ ?_
  simp [z1, w1]
  apply hK; clear hK K
  refine L_reg [9, 10, 11, 12, 13, 14, 15, 16] (fun K hK => ?_)
  simp [okFn_low]
  refine Way_ac n va vb a b Hd _ (by omega) (by omega) xA xB (fun vw Hw hLw hEw => ?_)
  simp [z1]
  apply hK; clear hK K
  have xA := xA.ext hEw
  have xB := xB.ext hEw
  have hws : waysS n a b = wayS n a (lack a b) (lack b a) := by unfold waysS; rw [if_pos z1]; simp
  obtain ⟨g1, g2, g3⟩ := way_at oB oA rfl rfl hlen
  rw [hws] at hLw
  generalize wayS n a (lack a b) (lack b a) = W at *
  obtain ⟨rW, oW, vrW, zW, fW, rfl, hget⟩ := hLw
  have hW0 : W[0]'(by omega) = a := by
    have h0 := g2 0 (W[0]'(by omega)) (List.getElem?_eq_getElem _)
    obtain ⟨u1, u2, u3⟩ := h0
    simp only [List.drop_zero] at u2 u3
    refine sorted_ext u1.2 oA.2 fun z => ?_
    have m1 := mem_lack (l := W[0]'(by omega)) (o := b) (x := z)
    have m2 := mem_lack (l := a) (o := b) (x := z)
    have m3 := mem_lack (l := b) (o := W[0]'(by omega)) (x := z)
    have m4 := mem_lack (l := b) (o := a) (x := z)
    rw [u2] at m1
    rw [u3] at m3
    by_cases hz : z ∈ b
    · have : (z ∈ b ∧ z ∉ W[0]'(by omega)) ↔ (z ∈ b ∧ z ∉ a) := m3.symm.trans m4
      simp only [hz, true_and] at this
      exact Decidable.not_iff_not.1 this
    · have : (z ∈ W[0]'(by omega) ∧ z ∉ b) ↔ (z ∈ a ∧ z ∉ b) := m1.symm.trans m2
      simpa [hz] using this
  have hWd : W[(lack a b).length]'(by omega) = b := by
    obtain ⟨u1, u2, u3⟩ := g2 (lack a b).length (W[(lack a b).length]'(by omega)) (List.getElem?_eq_getElem _)
    rw [List.drop_length] at u2
    rw [List.drop_eq_nil_of_le (by omega)] at u3
    exact way_end u1 oB u2 u3
  obtain ⟨d, hd⟩ : ∃ d, d = (lack a b).length := ⟨_, rfl⟩
  obtain ⟨ra, wa, rfl, rfl, hl0, hLa⟩ := hget 0 (by omega)
  obtain ⟨rb, wd, hrb, -, hld, hLd⟩ := hget d (by omega)
  obtain rfl := Option.some.inj hrb
  rw [hW0] at hLa
  simp only [hd, hWd] at hLd
  rw [Nat.add_zero] at hl0
  rw [← hd] at g1
  have hap : (lack a b).length = d := hd.symm
  refine L_reg [9, 10, 12, 13, 15, 91] (fun K hK => ?_)
  simp [okFn_low, pickV, hap]
  refine apart_ac va vb a b Hw _ (by omega) (by omega) xA xB ?_
  simp [okFn_low, pickV, hap, wrap_i64 (a := (d : Int) + 1) (by omega), g1, hl0]
  refine same_ac wa va a a Hw _ (by omega) hLa xA ?_
  simp [okFn_low, pickV, show (d : Int) < (d : Int) + 1 by omega, hld]
  refine same_ac wd vb b b Hw _ (by omega) hLd xB ?_
  simp [pickV]
  apply hK; clear hK K
  refine L_false (by simp) ?_
  refine L_reg [9, 10, 12, 13, 15, 92, 93, 94] (fun K hK => ?_)
  simp
  apply hK; clear hK K
  clear hW0 hWd
  generalize hos : lack a b = os at *
  generalize his : lack b a = is at *
  refine L_block (L_loopV [94] (fun k vs H' => ∃ i : Nat, k = W.length - i ∧ i ≤ W.length ∧ vs = [.int .i64 i] ∧ Ext Hw H') _ [.int .i64 (0 : Nat)] rfl ⟨0, rfl, by omega, rfl, .refl Hw⟩ ?_)
  rintro _ _ H1 ⟨i, rfl, hi, rfl, hE1⟩
  refine L_reg [9, 10, 12, 13, 15, 92, 93, 94, 95] (fun K hK => ?_)
  simp
  apply hK; clear hK K
  refine L_dec ((i : Int) < (d : Int) + 1) rfl (fun hlt0 => ?_) (fun hge => L_exit ?_)
  rotate_left
  · refine L_reg [8] (fun K hK => ?_)
    simp [okFn_low]
    refine works_ac _ _ ?_
    simp
    apply hK; clear hK K
    exact L_ret ⟨.inr rfl, _, rfl, rfl⟩
  have hlt : i < W.length := by omega
  obtain ⟨rq, wq, hrq, -, hldq, hLq⟩ := hget i hlt
  obtain rfl := Option.some.inj hrq
  have hldq := hE1.ld hldq
  have hLq := hLq.ext hE1
  have xB1 := xB.ext hE1
  obtain ⟨oq, hq1, hq2⟩ := g2 i W[i] (List.getElem?_eq_getElem hlt)
  have hqlen : W[i].length = k := by
    have := len_of_lack oq.2 oB.2 (by rw [hq1, hq2]; simp; omega)
    omega
  have hD : (lack W[i] b).length = d - i := by rw [hq1]; simp; omega
  generalize hWq : W[i] = q at *
  have hwd : IntKind.i64.wrap ((d : Int) - (i : Int)) = ((d - i : Nat) : Int) := by rw [wrap_i64 (by omega)]; omega
  refine L_block ?_
  refine L_reg [9, 10, 12, 13, 15, 17, 18, 92, 93, 94] (fun K hK => ?_)
  simp [hlt0, hldq]
  apply hK; clear hK K
  refine L_reg [9, 10, 12, 13, 15, 17, 18, 92, 93, 94, 112] (fun K hK => ?_)
  simp [okFn_low]
  refine valid_ac n k wq q H1 _ (by omega) (by omega) oq hqlen hLq ?_
  simp [okFn_low, pickV]
  refine apart_ac wq vb q b H1 _ (by omega) (by omega) hLq xB1 ?_
  simp [pickV, hD, hwd]
  apply hK; clear hK K
  refine L_false (by simp) ?_
  refine L_reg [9, 10, 12, 13, 15, 17, 18, 92, 93, 94, 114] (fun K hK => ?_)
  simp
  apply hK; clear hK K
  cases i with
  | zero =>
    refine L_true (by simp) (L_exit ?_)
    refine L_reg [9, 10, 12, 13, 15, 92, 93, 94] (fun K hK => ?_)
    simp [wrap_i64 (a := 1) (by omega)]
    apply hK; clear hK K
    exact ⟨W.length - 1, [.int .i64 (1 : Nat)], by omega, by simp, 1, rfl, by omega, rfl, hE1⟩
  | succ i =>
    refine L_false (by simp; omega) ?_
    obtain ⟨op, hp1, hp2⟩ := g2 i (W[i]'(by omega)) (List.getElem?_eq_getElem _)
    have hios : i < os.length := by omega
    have hiis : i < is.length := by omega
    have hex := g3 i (W[i]'(by omega)) os[i] is[i] (List.getElem?_eq_getElem _) (List.getElem?_eq_getElem hios) (List.getElem?_eq_getElem hiis)
    rw [List.getElem?_eq_getElem hlt, hWq] at hex
    have hex := Option.some.inj hex
    obtain ⟨rp, wp, hrp, -, hldp0, hLp0⟩ := hget i (by omega)
    obtain rfl := Option.some.inj hrp
    have hplen : (W[i]'(by omega)).length ≤ 10 := by have := okb_len op; omega
    generalize W[i]'(by omega) = p at *
    rw [List.drop_eq_getElem_cons hios] at hp1
    rw [List.drop_eq_getElem_cons hiis] at hp2
    generalize os[i] = o at *
    generalize is[i] = ii at *
    generalize os.drop (i + 1) = os' at *
    generalize is.drop (i + 1) = is' at *
    have hom : o ∈ p ∧ o ∉ b := mem_lack.1 (by rw [hp1]; exact List.mem_cons_self)
    have him : ii ∈ b ∧ ii ∉ p := mem_lack.1 (by rw [hp2]; exact List.mem_cons_self)
    have hir := oB.1 _ him.1
    have hmq : ∀ z, z ∈ q ↔ z = ii ∨ (z ≠ o ∧ z ∈ p) := fun z => by rw [hex]; exact mem_exS op hir
    have hip : IntKind.i64.wrap (i : Int) = (i : Int) := wrap_i64 (by omega)
    refine L_reg [9, 10, 12, 13, 15, 17, 18, 19, 20, 92, 93, 94] (fun K hK => ?_)
    simp
    apply hK; clear hK K
    refine L_reg [9, 10, 12, 13, 15, 17, 18, 19, 20, 92, 93, 94, 115, 116] (fun K hK => ?_)
    simp
    apply hK; clear hK K
    have hls1 : ∀ y, (decide (y ∈ p ∧ y ∉ b)) = true → y ∈ lack p b := fun y h => mem_lack.2 (by simpa using h)
    have hls2 : ∀ y, (decide (y ∉ p ∧ y ∈ b)) = true → y ∈ lack b p := fun y h => mem_lack.2 (by simpa [and_comm] using h)
    refine L_block (L_loopV [19, 20, 116] (fun k vs H' => ∃ (x : Nat) (vo vi : AV), k = n - x ∧ x ≤ n ∧ Own2 H1.length H' vo (sel (fun y => decide (y ∈ p ∧ y ∉ b)) x) vi (sel (fun y => decide (y ∉ p ∧ y ∈ b)) x) ∧ Ext H1 H' ∧ vs = [vo, vi, .int .i64 x]) _ [.slice none 0 0 0 1 false, .slice none 0 0 0 1 false, .int .i64 (0 : Nat)] rfl ⟨0, _, _, rfl, by omega, ⟨.nil _ _, .nil _ _, fun r r' v v' h => (by cases h)⟩, .refl H1, rfl⟩ ?_)
    rintro _ _ H3 ⟨x, vo, vi, rfl, hx, hown, hEi, rfl⟩
    refine L_reg [9, 10, 12, 13, 15, 17, 18, 19, 20, 92, 93, 94, 115, 116, 117] (fun K hK => ?_)
    simp
    apply hK; clear hK K
    have hsl1 : (x : Int) = o → sel (fun y => decide (y ∈ p ∧ y ∉ b)) x = [] := fun e => sel_first hls1 hp1 (lack_sorted op.2) e
    have hsl2 : (x : Int) = ii → sel (fun y => decide (y ∉ p ∧ y ∈ b)) x = [] := fun e => sel_first hls2 hp2 (lack_sorted oB.2) e
    have hsl := And.intro (Nat.lt_of_le_of_lt (sel_len (fun y => decide (y ∈ p ∧ y ∉ b)) x) (by omega : x < 1000000)) (Nat.lt_of_le_of_lt (sel_len (fun y => decide (y ∉ p ∧ y ∈ b)) x) (by omega : x < 1000000))
    refine L_dec (x < n) (by simp) (fun hxn => ?_) (fun hxn => L_exit ?_)
    · have hEw3 := hE1.trans hEi
      have hldp := hEw3.ld hldp0
      have hLp := hLp0.ext hEw3
      have hLq := hLq.ext hEi
      have hLb := xB1.ext hEi
      have hqx := hmq x
      have hwlt : (i : Int) < (d : Int) + 1 := by omega
      refine L_block ?_
      refine L_reg [9, 10, 12, 13, 15, 17, 18, 19, 20, 21, 92, 93, 94, 115, 116] (fun K hK => ?_)
      simp
      apply hK; clear hK K
      by_cases hxo : (x : Int) = o
      · have hxp : (x : Int) ∈ p := by rw [hxo]; exact hom.1
        have hxb : (x : Int) ∉ b := by rw [hxo]; exact hom.2
        have hxq : (x : Int) ∉ q := by rw [hqx, hxo]; rintro (e | e); exact him.2 (e ▸ hom.1); exact e.1 rfl
        refine L_reg [9, 10, 12, 13, 15, 17, 18, 19, 20, 21, 22, 23, 92, 93, 94, 115, 116] (fun K hK => ?_)
        simp [okFn_low, hip, hwlt, hldp]
        refine Contains_ac wp p x H3 _ (by omega) hLp ?_
        simp [okFn_low, decide_eq_true hxp]
        refine Contains_ac wq q x H3 _ (by omega) hLq ?_
        simp [decide_eq_false hxq]
        apply hK; clear hK K
        refine L_reg [9, 10, 12, 13, 15, 17, 18, 19, 20, 21, 22, 23, 92, 93, 94, 115, 116, 135] (fun K hK => ?_)
        simp [okFn_low, pickV]
        refine Contains_ac vb b x H3 _ (by omega) hLb ?_
        simp [decide_eq_false hxb, pickV]
        apply hK; clear hK K
        refine L_true (by simp) ?_
        obtain ⟨vo', H4, happ, hO', hE4⟩ := hown.left x hEi hsl
        refine L_reg [9, 10, 12, 13, 15, 17, 18, 19, 20, 21, 22, 23, 92, 93, 94, 115, 116] (fun K hK => ?_)
        simp [happ]
        apply hK; clear hK K
        refine L_reg [9, 10, 12, 13, 15, 17, 18, 19, 20, 21, 22, 23, 92, 93, 94, 115, 116, 146] (fun K hK => ?_)
        simp [pickV]
        apply hK; clear hK K
        refine L_false (by simp) ?_
        have s1 := sel_yes (f := fun y => decide (y ∈ p ∧ y ∉ b)) (n := x) (by simp [hxp, hxb])
        have s2 := sel_no (f := fun y => decide (y ∉ p ∧ y ∈ b)) (n := x) (by simp [hxp, hxb])
        rw [hsl1 hxo, List.nil_append] at s1 hO'
        refine L_reg [9, 10, 12, 13, 15, 17, 18, 19, 20, 92, 93, 94, 115, 116, 165] (fun K hK => ?_)
        simp [okFn_low, pickV]
        refine out1_ac vo' [(x : Int)] H4 _ (ownF_ls hO'.1) ?_
        simp [pickV]
        apply hK; clear hK K
        refine L_false (by simp) ?_
        refine L_reg [9, 10, 12, 13, 15, 17, 18, 19, 20, 92, 93, 94, 115, 116] (fun K hK => ?_)
        simp [wrap_i64 (a := (x : Int) + 1) (by omega)]
        apply hK; clear hK K
        exact ⟨n - (x + 1), [vo', vi, .int .i64 (x + 1 : Nat)], by omega, by simp, x + 1, vo', vi, rfl, by omega, by rw [s1, s2]; exact hO', hE4, rfl⟩
      · by_cases hxi : (x : Int) = ii
        · have hxp : (x : Int) ∉ p := by rw [hxi]; exact him.2
          have hxb : (x : Int) ∈ b := by rw [hxi]; exact him.1
          have hxq : (x : Int) ∈ q := by rw [hqx]; exact .inl hxi
          refine L_reg [9, 10, 12, 13, 15, 17, 18, 19, 20, 21, 22, 23, 92, 93, 94, 115, 116] (fun K hK => ?_)
          simp [okFn_low, hip, hwlt, hldp]
          refine Contains_ac wp p x H3 _ (by omega) hLp ?_
          simp [okFn_low, decide_eq_false hxp]
          refine Contains_ac wq q x H3 _ (by omega) hLq ?_
          simp [decide_eq_true hxq]
          apply hK; clear hK K
          refine L_reg [9, 10, 12, 13, 15, 17, 18, 19, 20, 21, 22, 23, 92, 93, 94, 115, 116, 135] (fun K hK => ?_)
          simp [pickV]
          apply hK; clear hK K
          refine L_false (by simp) ?_
          refine L_reg [9, 10, 12, 13, 15, 17, 18, 19, 20, 21, 22, 23, 92, 93, 94, 115, 116, 146] (fun K hK => ?_)
          simp [okFn_low, pickV]
          refine Contains_ac vb b x H3 _ (by omega) hLb ?_
          simp [decide_eq_true hxb, pickV]
          apply hK; clear hK K
          refine L_true (by simp) ?_
          obtain ⟨vi', H4, happ, hO', hE4⟩ := hown.right x hEi hsl
          refine L_reg [9, 10, 12, 13, 15, 17, 18, 19, 20, 21, 22, 23, 92, 93, 94, 115, 116] (fun K hK => ?_)
          simp [happ]
          apply hK; clear hK K
          have s1 := sel_no (f := fun y => decide (y ∈ p ∧ y ∉ b)) (n := x) (by simp [hxp, hxb])
          have s2 := sel_yes (f := fun y => decide (y ∉ p ∧ y ∈ b)) (n := x) (by simp [hxp, hxb])
          rw [hsl2 hxi, List.nil_append] at s2 hO'
          generalize hlo : sel (fun y => decide (y ∈ p ∧ y ∉ b)) x = lo at *
          by_cases ht : (x : Int) = lo.head?.getD (-1)
          · refine L_reg [9, 10, 12, 13, 15, 17, 18, 19, 20, 92, 93, 94, 115, 116, 165] (fun K hK => ?_)
            simp [okFn_low, pickV]
            refine out1_ac vo lo H4 _ (ownF_ls hO'.1) ?_
            simp [pickV, show ((x : Int) != lo.head?.getD (-1)) = false by simpa using ht]
            apply hK; clear hK K
            refine L_false (by simp) ?_
            refine L_reg [9, 10, 12, 13, 15, 17, 18, 19, 20, 92, 93, 94, 115, 116] (fun K hK => ?_)
            simp [wrap_i64 (a := (x : Int) + 1) (by omega)]
            apply hK; clear hK K
            exact ⟨n - (x + 1), [vo, vi', .int .i64 (x + 1 : Nat)], by omega, by simp, x + 1, vo, vi', rfl, by omega, by rw [s1, s2]; exact hO', hE4, rfl⟩
          · refine L_reg [9, 10, 12, 13, 15, 17, 18, 19, 20, 92, 93, 94, 115, 116, 165] (fun K hK => ?_)
            simp [okFn_low, pickV]
            refine out1_ac vo lo H4 _ (ownF_ls hO'.1) ?_
            simp [okFn_low, pickV, show ((x : Int) != lo.head?.getD (-1)) = true by simpa using ht]
            refine out1_ac vi' [(x : Int)] H4 _ (ownF_ls hO'.2.1) ?_
            simp [pickV]
            apply hK; clear hK K
            refine L_false (by simp) ?_
            refine L_reg [9, 10, 12, 13, 15, 17, 18, 19, 20, 92, 93, 94, 115, 116] (fun K hK => ?_)
            simp [wrap_i64 (a := (x : Int) + 1) (by omega)]
            apply hK; clear hK K
            exact ⟨n - (x + 1), [vo, vi', .int .i64 (x + 1 : Nat)], by omega, by simp, x + 1, vo, vi', rfl, by omega, by rw [s1, s2]; exact hO', hE4, rfl⟩
        · have hqp : (x : Int) ∈ q ↔ (x : Int) ∈ p := by rw [hqx]; simp [hxo, hxi]
          by_cases hxp : (x : Int) ∈ p
          · have hxq := hqp.2 hxp
            by_cases hxb : (x : Int) ∈ b
            · refine L_reg [9, 10, 12, 13, 15, 17, 18, 19, 20, 21, 22, 23, 92, 93, 94, 115, 116] (fun K hK => ?_)
              simp [okFn_low, hip, hwlt, hldp]
              refine Contains_ac wp p x H3 _ (by omega) hLp ?_
              simp [okFn_low, decide_eq_true hxp]
              refine Contains_ac wq q x H3 _ (by omega) hLq ?_
              simp [decide_eq_true hxq]
              apply hK; clear hK K
              refine L_reg [9, 10, 12, 13, 15, 17, 18, 19, 20, 21, 22, 23, 92, 93, 94, 115, 116, 135] (fun K hK => ?_)
              simp [okFn_low, pickV]
              refine Contains_ac vb b x H3 _ (by omega) hLb ?_
              simp [decide_eq_true hxb, pickV]
              apply hK; clear hK K
              refine L_false (by simp) ?_
              refine L_reg [9, 10, 12, 13, 15, 17, 18, 19, 20, 21, 22, 23, 92, 93, 94, 115, 116, 146] (fun K hK => ?_)
              simp [pickV]
              apply hK; clear hK K
              refine L_false (by simp) ?_
              have s1 := sel_no (f := fun y => decide (y ∈ p ∧ y ∉ b)) (n := x) (by simp [hxp, hxb])
              have s2 := sel_no (f := fun y => decide (y ∉ p ∧ y ∈ b)) (n := x) (by simp [hxp, hxb])
              refine L_reg [9, 10, 12, 13, 15, 17, 18, 19, 20, 92, 93, 94, 115, 116, 165] (fun K hK => ?_)
              simp [pickV]
              apply hK; clear hK K
              refine L_false (by simp) ?_
              refine L_reg [9, 10, 12, 13, 15, 17, 18, 19, 20, 92, 93, 94, 115, 116] (fun K hK => ?_)
              simp [wrap_i64 (a := (x : Int) + 1) (by omega)]
              apply hK; clear hK K
              exact ⟨n - (x + 1), [vo, vi, .int .i64 (x + 1 : Nat)], by omega, by simp, x + 1, vo, vi, rfl, by omega, by rw [s1, s2]; exact hown, hEi, rfl⟩
            · refine L_reg [9, 10, 12, 13, 15, 17, 18, 19, 20, 21, 22, 23, 92, 93, 94, 115, 116] (fun K hK => ?_)
              simp [okFn_low, hip, hwlt, hldp]
              refine Contains_ac wp p x H3 _ (by omega) hLp ?_
              simp [okFn_low, decide_eq_true hxp]
              refine Contains_ac wq q x H3 _ (by omega) hLq ?_
              simp [decide_eq_true hxq]
              apply hK; clear hK K
              refine L_reg [9, 10, 12, 13, 15, 17, 18, 19, 20, 21, 22, 23, 92, 93, 94, 115, 116, 135] (fun K hK => ?_)
              simp [okFn_low, pickV]
              refine Contains_ac vb b x H3 _ (by omega) hLb ?_
              simp [decide_eq_false hxb, pickV]
              apply hK; clear hK K
              refine L_true (by simp) ?_
              obtain ⟨vo', H4, happ, hO', hE4⟩ := hown.left x hEi hsl
              refine L_reg [9, 10, 12, 13, 15, 17, 18, 19, 20, 21, 22, 23, 92, 93, 94, 115, 116] (fun K hK => ?_)
              simp [happ]
              apply hK; clear hK K
              refine L_reg [9, 10, 12, 13, 15, 17, 18, 19, 20, 21, 22, 23, 92, 93, 94, 115, 116, 146] (fun K hK => ?_)
              simp [pickV]
              apply hK; clear hK K
              refine L_false (by simp) ?_
              have s1 := sel_yes (f := fun y => decide (y ∈ p ∧ y ∉ b)) (n := x) (by simp [hxp, hxb])
              have s2 := sel_no (f := fun y => decide (y ∉ p ∧ y ∈ b)) (n := x) (by simp [hxp, hxb])
              refine L_reg [9, 10, 12, 13, 15, 17, 18, 19, 20, 92, 93, 94, 115, 116, 165] (fun K hK => ?_)
              simp [pickV]
              apply hK; clear hK K
              refine L_false (by simp) ?_
              refine L_reg [9, 10, 12, 13, 15, 17, 18, 19, 20, 92, 93, 94, 115, 116] (fun K hK => ?_)
              simp [wrap_i64 (a := (x : Int) + 1) (by omega)]
              apply hK; clear hK K
              exact ⟨n - (x + 1), [vo', vi, .int .i64 (x + 1 : Nat)], by omega, by simp, x + 1, vo', vi, rfl, by omega, by rw [s1, s2]; exact hO', hE4, rfl⟩
          · have hxq := fun e => hxp (hqp.1 e)
            by_cases hxb : (x : Int) ∈ b
            · refine L_reg [9, 10, 12, 13, 15, 17, 18, 19, 20, 21, 22, 23, 92, 93, 94, 115, 116] (fun K hK => ?_)
              simp [okFn_low, hip, hwlt, hldp]
              refine Contains_ac wp p x H3 _ (by omega) hLp ?_
              simp [okFn_low, decide_eq_false hxp]
              refine Contains_ac wq q x H3 _ (by omega) hLq ?_
              simp [decide_eq_false hxq]
              apply hK; clear hK K
              refine L_reg [9, 10, 12, 13, 15, 17, 18, 19, 20, 21, 22, 23, 92, 93, 94, 115, 116, 135] (fun K hK => ?_)
              simp [pickV]
              apply hK; clear hK K
              refine L_false (by simp) ?_
              refine L_reg [9, 10, 12, 13, 15, 17, 18, 19, 20, 21, 22, 23, 92, 93, 94, 115, 116, 146] (fun K hK => ?_)
              simp [okFn_low, pickV]
              refine Contains_ac vb b x H3 _ (by omega) hLb ?_
              simp [decide_eq_true hxb, pickV]
              apply hK; clear hK K
              refine L_true (by simp) ?_
              obtain ⟨vi', H4, happ, hO', hE4⟩ := hown.right x hEi hsl
              refine L_reg [9, 10, 12, 13, 15, 17, 18, 19, 20, 21, 22, 23, 92, 93, 94, 115, 116] (fun K hK => ?_)
              simp [happ]
              apply hK; clear hK K
              have s1 := sel_no (f := fun y => decide (y ∈ p ∧ y ∉ b)) (n := x) (by simp [hxp, hxb])
              have s2 := sel_yes (f := fun y => decide (y ∉ p ∧ y ∈ b)) (n := x) (by simp [hxp, hxb])
              refine L_reg [9, 10, 12, 13, 15, 17, 18, 19, 20, 92, 93, 94, 115, 116, 165] (fun K hK => ?_)
              simp [pickV]
              apply hK; clear hK K
              refine L_false (by simp) ?_
              refine L_reg [9, 10, 12, 13, 15, 17, 18, 19, 20, 92, 93, 94, 115, 116] (fun K hK => ?_)
              simp [wrap_i64 (a := (x : Int) + 1) (by omega)]
              apply hK; clear hK K
              exact ⟨n - (x + 1), [vo, vi', .int .i64 (x + 1 : Nat)], by omega, by simp, x + 1, vo, vi', rfl, by omega, by rw [s1, s2]; exact hO', hE4, rfl⟩
            · refine L_reg [9, 10, 12, 13, 15, 17, 18, 19, 20, 21, 22, 23, 92, 93, 94, 115, 116] (fun K hK => ?_)
              simp [okFn_low, hip, hwlt, hldp]
              refine Contains_ac wp p x H3 _ (by omega) hLp ?_
              simp [okFn_low, decide_eq_false hxp]
              refine Contains_ac wq q x H3 _ (by omega) hLq ?_
              simp [decide_eq_false hxq]
              apply hK; clear hK K
              refine L_reg [9, 10, 12, 13, 15, 17, 18, 19, 20, 21, 22, 23, 92, 93, 94, 115, 116, 135] (fun K hK => ?_)
              simp [pickV]
              apply hK; clear hK K
              refine L_false (by simp) ?_
              refine L_reg [9, 10, 12, 13, 15, 17, 18, 19, 20, 21, 22, 23, 92, 93, 94, 115, 116, 146] (fun K hK => ?_)
              simp [okFn_low, pickV]
              refine Contains_ac vb b x H3 _ (by omega) hLb ?_
              simp [decide_eq_false hxb, pickV]
              apply hK; clear hK K
              refine L_false (by simp) ?_
              have s1 := sel_no (f := fun y => decide (y ∈ p ∧ y ∉ b)) (n := x) (by simp [hxp, hxb])
              have s2 := sel_no (f := fun y => decide (y ∉ p ∧ y ∈ b)) (n := x) (by simp [hxp, hxb])
              refine L_reg [9, 10, 12, 13, 15, 17, 18, 19, 20, 92, 93, 94, 115, 116, 165] (fun K hK => ?_)
              simp [pickV]
              apply hK; clear hK K
              refine L_false (by simp) ?_
              refine L_reg [9, 10, 12, 13, 15, 17, 18, 19, 20, 92, 93, 94, 115, 116] (fun K hK => ?_)
              simp [wrap_i64 (a := (x : Int) + 1) (by omega)]
              apply hK; clear hK K
              exact ⟨n - (x + 1), [vo, vi, .int .i64 (x + 1 : Nat)], by omega, by simp, x + 1, vo, vi, rfl, by omega, by rw [s1, s2]; exact hown, hEi, rfl⟩
    · obtain rfl : x = n := by omega
      rw [sel_lack1 op, sel_lack2 oB, hp1, hp2] at hown
      obtain ⟨h1, h2, -⟩ := hown
      obtain ⟨ra1, oa1, va1, za1, fa1, rfl, hg1⟩ := ownF_ls h1
      obtain ⟨ra2, oa2, va2, za2, fa2, rfl, hg2⟩ := ownF_ls h2
      obtain ⟨r1', rfl, rfl, k1⟩ := hg1 0 (by simp)
      obtain ⟨r2', rfl, rfl, k2⟩ := hg2 0 (by simp)
      rw [Nat.add_zero] at k1 k2
      simp only [List.getElem_cons_zero] at k1 k2
      have hLq := hLq.ext hEi
      have hoq : decide (o ∈ q) = false := decide_eq_false (by rw [hmq]; rintro (e | e); exact him.2 (e ▸ hom.1); exact e.1 rfl)
      have hiq : decide (ii ∈ q) = true := decide_eq_true (by rw [hmq]; exact .inl rfl)
      have c1 : ((os'.length : Int) + 1 == 0) = false := by simp; omega
      have c2 : ((is'.length : Int) + 1 == 0) = false := by simp; omega
      refine L_reg [9, 10, 12, 13, 15, 92, 93, 94, 189] (fun K hK => ?_)
      simp [okFn_low, pickV, c1, c2, k1, show (0 : Int) < (os'.length : Int) + 1 by omega]
      refine Contains_ac wq q o H3 _ (by omega) hLq ?_
      simp [okFn_low, pickV, hoq, k2, show (0 : Int) < (is'.length : Int) + 1 by omega]
      refine Contains_ac wq q ii H3 _ (by omega) hLq ?_
      simp [pickV, hiq]
      apply hK; clear hK K
      refine L_false (by simp) ?_
      refine L_reg [9, 10, 12, 13, 15, 92, 93, 94] (fun K hK => ?_)
      simp [wrap_i64 (a := (i : Int) + 1 + 1) (by omega)]
      apply hK; clear hK K
      exact ⟨W.length - (i + 1 + 1), [.int .i64 (i + 1 + 1 : Nat)], by omega, by simp, i + 1 + 1, rfl, by omega, rfl, hE1.trans hEi⟩
theorem blendWalked_int (a0 : Int) (w0 : (Lit.int .u8 a0).wf = true) (a1 : Int) (w1 : (Lit.int .u8 a1).wf = true) (m2 : List Int) (e2 : m2.length = 10) (b2 : ∀ x ∈ m2, IntKind.u8.min ≤ x ∧ x ≤ IntKind.u8.max) (m3 : List Int) (e3 : m3.length = 10) (b3 : ∀ x ∈ m3, IntKind.u8.min ≤ x ∧ x ≤ IntKind.u8.max) (H : AH) :
    AC Try.prog 8 [.int .u8 a0, .int .u8 a1, .agg (m2.map (.int .u8)), .agg (m3.map (.int .u8))] H fun u _ => u = .bool true := by
  obtain ⟨x, rfl, hx⟩ := u8_of w0
  obtain ⟨y, rfl, hy⟩ := u8_of w1
  obtain ⟨n2, rfl, c2⟩ := u8s_of b2
  obtain ⟨n3, rfl, c3⟩ := u8s_of b3
  simp only [List.length_map] at e2 e3
  have := blendWalked_ac x y hx hy n2 n3 e2 e3 c2 c3 H
  simpa [u8s, Function.comp_def] using this
end Go.Proofs.Ytpdcmdmhamnndaa
