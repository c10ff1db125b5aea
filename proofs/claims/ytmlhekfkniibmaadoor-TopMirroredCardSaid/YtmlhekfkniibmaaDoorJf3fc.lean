/- Joined texts: WHome, WMir, Laid. -/
import Derived.Test.YtmlhekfkniibmaaDoorJf3fb
import Derived.Test.YtmlhekfkniibmaaDoorRows
import Derived.Test.YtmlhekfkniibmaaDoorAxT
import Derived.LaidMore
import Derived.OpenShut
import Derived.Stop.Joined
import Derived.SevenTiedAt
/- TopHome, walked. -/
namespace Go.Proofs.YtmlhekfkniibmaaDoor
open Go Go.Proofs.YtmlhekfkniibmaaDoor.AX Go.RowKit

theorem tmodN (a n : Nat) : ((a : Int)).tmod (n : Int) = ((a % n : Nat) : Int) := by
  rw [Int.tmod_eq_emod_of_nonneg (by omega), Int.natCast_emod]
set_option maxRecDepth 100000 in
set_option maxHeartbeats 4000000 in
theorem topHome_ac (a b c : Nat) (ha : a < 256) (hb : b < 256) (hc : c < 256) (H : AH) (hg : HasG gs H) : AC Tryd.prog 4 [.int .u8 a, .int .u8 b, .int .u8 c] H fun u _ => u = .bool true := by
  refine L_body 140 Tryd.func4 rfl rfl ?_
  refine L_reg [0, 1, 2] (fun K hK => ?_)
  simp
  apply hK; clear hK K
  obtain ⟨n, hn⟩ : ∃ n : Nat, n = 1 + a % 10 := ⟨_, rfl⟩
  have e1 : (1 : Int) + ((a : Int)).tmod 10 = (n : Int) := by rw [Int.tmod_eq_emod_of_nonneg (by omega)]; omega
  have f1 : IntKind.i64.wrap ((a : Int).tmod 10) = (a : Int).tmod 10 := by rw [Int.tmod_eq_emod_of_nonneg (by omega)]; exact wrap_i64 (by omega)
  have hr0 : (H ++ [AObj.row [AV.int .i64 0] 0 0 false])[H.length]? = some (.row [AV.int .i64 0] 0 0 false) := by simp
  have hst := store_row (P := Tryd.prog) (u := 3) (p := 0) sc3 (x := .int .i64 (n : Int)) (y := .int .i64 0) rfl hr0 (by simp)
  refine L_reg [1, 2, 7] (fun K hK => ?_)
  simp [wrap_i64 (a := (a : Int)) (by omega), e1, wrap_i64 (a := (n : Int)) (by omega), alloc_z zt3, hst]
  apply hK; clear hK K
  have hE0 : Ext H (H ++ [AObj.row [AV.int .i64 (n : Int)] 0 0 false]) := .push _ _
  have hp0 : (H ++ [AObj.row [AV.int .i64 (n : Int)] 0 0 false])[H.length]? = some (.row [.int .i64 n] 0 0 false) := by simp
  generalize H ++ [AObj.row [AV.int .i64 (n : Int)] 0 0 false] = H1 at hE0 hp0 ⊢
  have hn1 : 1 ≤ n := by omega
  have hn2 : n ≤ 10 := by omega
  clear e1 f1 hn ha hst hr0
  obtain ⟨k, hk⟩ : ∃ k : Nat, k = 1 + b := ⟨_, rfl⟩
  have e2 : (1 : Int) + (b : Int) = (k : Int) := by omega
  refine L_reg [2, 7, 8] (fun K hK => ?_)
  simp [e2, wrap_i64 (a := (b : Int)) (by omega), wrap_i64 (a := (k : Int)) (by omega)]
  apply hK; clear hK K
  have hk1 : 1 ≤ k := by omega
  have hk2 : k ≤ 256 := by omega
  clear e2 hk hb
  have e3 := tmodN c (n + 1)
  obtain ⟨m, hm⟩ : ∃ m : Nat, m = c % (n + 1) := ⟨_, rfl⟩
  rw [← hm] at e3
  have hmn : m ≤ n := by have := Nat.mod_lt c (show 0 < n + 1 by omega); omega
  push_cast at e3
  have hld1 : ld H1 H.length 0 0 = some (.int .i64 n) := by rw [ld_row hp0]; rfl
  have hn0 : (n : Int) + 1 ≠ 0 := by omega
  refine L_reg [7, 8, 9] (fun K hK => ?_)
  simp [hld1, hn0, e3, wrap_i64 (a := (c : Int)) (by omega), wrap_i64 (a := (n : Int) + 1) (by omega)]
  apply hK; clear hK K
  clear e3 hm hc
  refine L_reg [7, 8, 9, 10] (fun K hK => ?_)
  simp
  apply hK; clear hK K
  have hh := fun m' k' h3 h4 hm' => home1_ac n k' m' H.length 0 hn1 hn2 h3 h4 hm'
  refine L_reg [7, 8, 9, 10, 11, 12] (fun K hK => ?_)
  simp [okFn_low]
  refine hh m k hk1 (by omega) hmn _ _ hp0 (fun v H2 hv2 E2 => ?_)
  simp
  apply hK; clear hK K
  have hE2 := hE0.trans E2
  have hp2 := E2.row hp0
  have hld2 : ld H2 H.length 0 0 = some (.int .i64 n) := by rw [ld_row hp2]; rfl
  have hl := hs_len (k := k) hmn
  obtain ⟨l, hl0⟩ : ∃ l, l = hs n k m := ⟨_, rfl⟩
  have hup : l.Pairwise (· < ·) := by rw [hl0]; exact hs_up n k m
  have hin : ∀ x ∈ l, 0 ≤ x ∧ x < (n : Int) := by rw [hl0]; exact fun x hx => hs_in hx
  have hok : homeE n l = 0 := by rw [hl0]; exact hs_ok hn1 (by omega)
  have hfi : FirstIs n l k := by rw [hl0]; exact hs_first hmn
  rw [← hl0] at hv2 hl
  refine L_reg [7, 8, 9, 10, 11, 12, 13, 14] (fun K hK => ?_)
  simp [okFn_low, hld2]
  refine FirstH_ac n k v l hok (by omega) hk1 (by omega) hfi _ _ hv2 (fun H3 f E3 hf1 hf2 hf3 => ?_)
  simp
  apply hK; clear hK K
  have hE3 := hE2.trans E3
  have hv3 := hv2.ext E3
  have hp3 := E3.row hp2
  have z1 : ¬ ((f : Int) < 1) := by omega
  have z2 : ¬ ((k : Int) < f) := by omega
  have z3 : f ≠ 0 := by omega
  have z4 : ¬ (k < f) := by omega
  refine L_reg [7, 8, 9, 10, 11, 13, 64] (fun K hK => ?_)
  simp [pickV, z1, z2]
  apply hK; clear hK K
  refine L_false (by simp) ?_
  refine L_reg [7, 8, 9, 10, 11, 12, 15] (fun K hK => ?_)
  simp [okFn_low]
  refine hh m f hf1 (by omega) hmn _ _ hp3 (fun u H4 hu4 E4 => ?_)
  simp
  apply hK; clear hK K
  rw [hs_again hmn (by rw [← hl0]; exact hf3), ← hl0] at hu4
  have hE4 := hE3.trans E4
  have hv4 := hv3.ext E4
  have hp4 := E4.row hp3
  have hld4 : ld H4 H.length 0 0 = some (.int .i64 n) := by rw [ld_row hp4]; rfl
  refine L_reg [7, 8, 9, 10, 11, 12, 14, 16] (fun K hK => ?_)
  simp [okFn_low, hld4]
  refine Away_ac n v u l _ _ hn1 hn2 hin hup (by omega) hv4 hu4 (fun H5 E5 => ?_)
  simp
  apply hK; clear hK K
  have hE5 := hE4.trans E5
  have hv5 := hv4.ext E5
  have hp5 := E5.row hp4
  clear hu4 hf1 hf2 hf3 z1 z2 z3 z4 hld4 hld2 hld1
  refine L_reg [7, 8, 9, 10, 11, 88] (fun K hK => ?_)
  simp [pickV]
  apply hK; clear hK K
  refine L_false (by simp) ?_
  have hld5 : ld H5 H.length 0 0 = some (.int .i64 n) := by rw [ld_row hp5]; rfl
  refine L_reg [7, 8, 9, 10, 11, 91] (fun K hK => ?_)
  simp [hld5]
  apply hK; clear hK K
  refine L_dec (m = n) (by simp; rw [Bool.eq_iff_iff]; simp; try omega) (fun he => ?_) (fun hne => ?_)
  · refine L_reg [6] (fun K hK => ?_)
    simp [okFn_low]
    refine works_ac _ _ (hg.ext hE5) ?_
    simp
    apply hK; clear hK K
    exact L_ret ⟨.inr rfl, _, rfl, rfl⟩
  have hmlt : m < n := by omega
  refine L_reg [8, 9, 10, 11, 14, 17] (fun K hK => ?_)
  simp [okFn_low, hld5]
  refine WhoN_ac n k m hn1 (by omega) hk1 (by omega) hmlt _ _ (fun H6 E6 => ?_)
  simp
  apply hK; clear hK K
  have hE6 := hE5.trans E6
  have hv6 := hv5.ext E6
  have hp6 := E6.row hp5
  obtain ⟨m1, hm1⟩ : ∃ m1 : Nat, m1 = m + 1 := ⟨_, rfl⟩
  have hm2 : (m : Int) + 1 = (m1 : Int) := by omega
  have hnx := fun x (hx : x ∈ hs n k m1) => hs_next (k := k) hmlt (x := x) (by rw [← hm1]; exact hx)
  refine L_reg [11, 12, 14, 17, 18] (fun K hK => ?_)
  simp [okFn_low, hm2, wrap_i64 (a := (m1 : Int)) (by omega)]
  refine hh m1 k hk1 (by omega) (by omega) _ _ hp6 (fun w H7 hw7 E7 => ?_)
  simp
  apply hK; clear hK K
  have hE7 := hE6.trans E7
  have hv7 := hv6.ext E7
  clear hld5 hv6 hv5 hv4 hv3 hp0 hp2 hp3 hp4 hp5 hp6 hh
  refine L_reg [11, 17, 18, 113] (fun K hK => ?_)
  simp [pickV]
  apply hK; clear hK K
  refine L_false (by simp) ?_
  have hwl := ls_len hw7
  rw [hs_len (by omega)] at hwl
  have hvl := ls_len hv7
  have hql := hs_len (n := n) (k := k) (m := m1) (by omega)
  rw [← hl0] at hnx
  generalize g (orderS n k) m = who at hnx ⊢
  generalize hs n k m1 = q at hnx hql hw7
  refine L_reg [11, 17, 114, 115, 116] (fun K hK => ?_)
  simp [hwl]
  apply hK; clear hK K
  refine L_block (L_loopV [116] (fun d vs H' => ∃ i : Nat, d = m1 - i ∧ i ≤ m1 ∧ vs = [.int .i64 i] ∧ H7 = H') _ [.int .i64 0] rfl ⟨0, rfl, by omega, rfl, rfl⟩ ?_)
  rintro d _ _ ⟨i, rfl, hi, rfl, rfl⟩
  refine L_reg [11, 17, 114, 115, 116, 117] (fun K hK => ?_)
  simp
  apply hK; clear hK K
  refine L_dec (i < m1) (by simp; try omega) (fun hlt => ?_) (fun hge => L_exit ?_)
  · refine L_block ?_
    obtain ⟨rz, pz, vz, hix, hldz⟩ := ls_ix hw7 (i := i) (by omega)
    have hxq : g q i ∈ q := by rw [g_lt (by omega)]; simp
    have hxx := hnx _ hxq
    generalize g q i = x at hldz hxx
    refine L_reg [11, 17, 20, 114, 115, 116] (fun K hK => ?_)
    simp [hix, hldz]
    apply hK; clear hK K
    refine L_reg [11, 17, 20, 21, 114, 115, 116] (fun K hK => ?_)
    simp
    apply hK; clear hK K
    refine L_reg [11, 17, 20, 21, 114, 115, 116, 120, 121, 122] (fun K hK => ?_)
    simp [hvl]
    apply hK; clear hK K
    refine L_block (L_loopV [21, 122] (fun d vs H' => ∃ (j : Nat) (b : Bool), d = l.length - j ∧ j ≤ l.length ∧ (b = true ↔ ∃ y, y < j ∧ g l y = x) ∧ vs = [.bool b, .int .i64 j] ∧ H7 = H') _ [.bool false, .int .i64 0] rfl ⟨0, false, rfl, by omega, ⟨fun e => (by cases e), fun ⟨y, hy, _⟩ => by omega⟩, rfl, rfl⟩ ?_)
    rintro d _ _ ⟨j, b, rfl, hj, hb, rfl, rfl⟩
    refine L_reg [11, 17, 20, 21, 114, 115, 116, 120, 121, 122, 123] (fun K hK => ?_)
    simp
    apply hK; clear hK K
    refine L_dec (j < l.length) (by simp) (fun hlt2 => ?_) (fun hge2 => L_exit ?_)
    · refine L_block ?_
      obtain ⟨ry, py, vy, hiy, hldy⟩ := ls_ix hv7 hlt2
      refine L_reg [11, 17, 20, 21, 23, 114, 115, 116, 120, 121, 122] (fun K hK => ?_)
      simp [hiy, hldy]
      apply hK; clear hK K
      cases b with
      | true =>
        refine L_reg [11, 17, 20, 21, 114, 115, 116, 120, 121, 122] (fun K hK => ?_)
        simp [pickV]
        apply hK; clear hK K
        refine L_reg [11, 17, 20, 21, 114, 115, 116, 120, 121, 122] (fun K hK => ?_)
        simp [wrap_i64 (a := (j : Int) + 1) (by omega)]
        apply hK; clear hK K
        refine ⟨l.length - (j + 1), [.bool true, .int .i64 (j + 1 : Nat)], by omega, by simp, j + 1, true, rfl, by omega, ⟨fun _ => ?_, fun _ => rfl⟩, rfl, rfl⟩
        obtain ⟨y, hy1, hy2⟩ := hb.1 rfl
        exact ⟨y, by omega, hy2⟩
      | false =>
        refine L_reg [11, 17, 20, 21, 114, 115, 116, 120, 121, 122] (fun K hK => ?_)
        simp [pickV]
        apply hK; clear hK K
        refine L_reg [11, 17, 20, 21, 114, 115, 116, 120, 121, 122] (fun K hK => ?_)
        simp [wrap_i64 (a := (j : Int) + 1) (by omega)]
        apply hK; clear hK K
        refine ⟨l.length - (j + 1), [.bool (g l j == x), .int .i64 (j + 1 : Nat)], by omega, by simp, j + 1, _, rfl, by omega, ?_, rfl, rfl⟩
        rw [beq_iff_eq]
        constructor
        · intro e; exact ⟨j, by omega, e⟩
        · rintro ⟨y, hy1, hy2⟩
          by_cases e : y = j
          · rw [← e]; exact hy2
          · have := hb.2 ⟨y, by omega, hy2⟩; cases this
    · have hbl : b = true ↔ x ∈ l := by
        rw [hb]
        constructor
        · rintro ⟨y, hy1, rfl⟩
          rw [g_lt (by omega)]; simp
        · intro hx
          obtain ⟨y, hy, rfl⟩ := List.mem_iff_getElem.1 hx
          exact ⟨y, by omega, g_lt hy⟩
      rw [← hbl] at hxx
      refine L_reg [11, 17, 114, 115, 116, 137] (fun K hK => ?_)
      simp
      apply hK; clear hK K
      refine L_false ?_ ?_
      · cases b <;> simp at hxx ⊢ <;> exact hxx
      refine L_reg [11, 17, 114, 115, 116] (fun K hK => ?_)
      simp [wrap_i64 (a := (i : Int) + 1) (by omega)]
      apply hK; clear hK K
      exact ⟨m1 - (i + 1), [.int .i64 (i + 1 : Nat)], by omega, by simp, i + 1, rfl, by omega, rfl, rfl⟩
  · refine L_reg [6] (fun K hK => ?_)
    simp [okFn_low]
    refine works_ac _ _ (hg.ext hE7) ?_
    simp
    apply hK; clear hK K
    exact L_ret ⟨.inr rfl, _, rfl, rfl⟩
theorem u8_of {a : Int} (w : (Lit.int .u8 a).wf = true) : ∃ n : Nat, a = n ∧ n < 256 := by
  have h : IntKind.u8.min ≤ a ∧ a ≤ IntKind.u8.max := by simpa [Lit.wf] using w
  have h1 : IntKind.u8.min = 0 := rfl
  have h2 : IntKind.u8.max = 255 := rfl
  exact ⟨a.toNat, by omega, by omega⟩
theorem home_int (a b c : Int) (wa : (Lit.int .u8 a).wf = true) (wb : (Lit.int .u8 b).wf = true) (wc : (Lit.int .u8 c).wf = true) (H : AH) (hg : HasG gs H) : AC Tryd.prog 4 [.int .u8 a, .int .u8 b, .int .u8 c] H fun u _ => u = .bool true := by
  obtain ⟨a, rfl, ha⟩ := u8_of wa
  obtain ⟨b, rfl, hb⟩ := u8_of wb
  obtain ⟨c, rfl, hc⟩ := u8_of wc
  exact topHome_ac a b c ha hb hc H hg
end Go.Proofs.YtmlhekfkniibmaaDoor

/- TopMirrored, walked. -/
namespace Go.Proofs.YtmlhekfkniibmaaDoor.Gr
open Go Go.Proofs.YtmlhekfkniibmaaDoor Go.Proofs.YtmlhekfkniibmaaDoor.AX Go.RowKit

theorem OrderN_ac (n k : Nat) (h1 : 1 ≤ n) (h2 : n ≤ 20) (h3 : 1 ≤ k) (h4 : k ≤ 1000000000) (H : AH) (Q : AV → AH → Prop) (h : ∀ v H', OwnF H.length H' v ((orderS n k).map (.int .i64)) → Ext H H' → Q (.tuple [v, .int .i64 0]) H') : AC Tryd.prog 6 [.int .i64 n, .int .i64 k] H Q := by
  refine Order_ac n k H Q ?_
  have hk := okB_mk h1 h2 h3 h4
  rw [benchE_ok hk]
  unfold orderP
  rw [if_pos hk, Int.toNat_natCast, Int.toNat_natCast]
  exact h
theorem OrdersN_ac (n : Nat) (h1 : 1 ≤ n) (h2 : n ≤ 20) (H : AH) (Q : AV → AH → Prop) (h : Q (.tuple [.int .i64 (lcmS n : Nat), .int .i64 0]) H) : AC Tryd.prog 5 [.int .i64 n] H Q := by
  refine Orders_ac n H Q ?_
  unfold ordersP rangeE
  rw [if_pos (by omega), if_pos (by omega), Int.toNat_natCast]
  exact h
theorem ownF_row {N : Nat} {H : AH} {v : AV} {l : List AV} (h : OwnF N H v l) {r : Nat} (hr : rowOf v = some r) : r < H.length := by
  rcases h with ⟨-, rfl⟩ | ⟨r', ver, st, -, rfl, h3⟩
  · cases hr
  · obtain rfl : r' = r := Option.some.inj hr
    exact (List.getElem?_eq_some_iff.1 h3).1
theorem ownF_kept {N : Nat} {H H1 : AH} {v : AV} {l : List AV} (h : OwnF N H v l) (hk : ∀ r, rowOf v = some r → H1[r]? = H[r]?) : OwnF N H1 v l := by
  rcases h with h | ⟨r, ver, st, h1, rfl, h3⟩
  · exact .inl h
  · exact .inr ⟨r, ver, st, h1, rfl, by rw [hk r rfl]; exact h3⟩
theorem two_append {P : Program} {H H0 : AH} (hE : Ext H0 H) {t u : TypeId} (ht : elT P t = true) (hu : elT P u = true) {v1 v2 x y : AV} {l1 l2 : List AV} {m : Nat} (h1 : OwnF H0.length H v1 l1) (h2 : OwnF H0.length H v2 l2) (hd : ∀ r, rowOf v1 = some r → rowOf v2 ≠ some r) (hx : x.one = true) (hy : y.one = true) (hl1 : l1.length < 16777216) (hl2 : l2.length < 16777216) :
    ∃ v1' H1 v2' H2, aAppend P (H ++ [.row [x] 0 m false]) t u v1 (.slice (some H.length) 0 1 0 1 false) = some (v1', H1) ∧ aAppend P (H1 ++ [.row [y] 0 m false]) t u v2 (.slice (some H1.length) 0 1 0 1 false) = some (v2', H2) ∧ OwnF H0.length H2 v1' (l1 ++ [x]) ∧ OwnF H0.length H2 v2' (l2 ++ [y]) ∧ (∀ r, rowOf v1' = some r → rowOf v2' ≠ some r) ∧ Ext H0 H2 := by
  obtain ⟨v1', H1, a1, a2, a3, a4, ⟨r1, a5, a6⟩, a7⟩ := ownF_append2 (m := m) hE ht hu h1 hx hl1
  have h2' : OwnF H0.length H1 v2 l2 := ownF_kept h2 fun r hr => a4 r (ownF_row h2 hr) fun e => hd r e hr
  obtain ⟨v2', H2, b1, b2, b3, b4, ⟨r2, b5, b6⟩, b7⟩ := ownF_append2 (m := m) a3 ht hu h2' hy hl2
  have hr1 : rowOf v2 ≠ some r1 := by
    intro e
    rcases a6 with c | c
    · exact hd r1 c e
    · have := ownF_row h2 e; omega
  refine ⟨v1', H1, v2', H2, a1, b1, ownF_kept a2 fun r hr => ?_, b2, fun r hr e => ?_, b3⟩
  · have : r1 = r := Option.some.inj (a5.symm.trans hr)
    rw [← this]
    exact b4 r1 (ownF_row a2 a5) hr1
  · have e1 : r1 = r := Option.some.inj (a5.symm.trans hr)
    have e2 : r2 = r := Option.some.inj (b5.symm.trans e)
    rcases b6 with c | c
    · exact hr1 (by rw [c, e1, e2])
    · have := ownF_row a2 a5; omega
set_option maxRecDepth 100000 in
set_option maxHeartbeats 4000000 in
theorem topMirrored_ac (a b : Nat) (ha : a < 256) (hb : b < 65536) (H : AH) (hg : HasG gs H) : AC Tryd.prog 3 [.int .u8 a, .int .u16 b] H fun u _ => u = .bool true := by
  refine L_body 160 Tryd.func3 rfl rfl ?_
  refine L_reg [0, 1] (fun K hK => ?_)
  simp
  apply hK; clear hK K
  obtain ⟨n, hn⟩ : ∃ n : Nat, n = 1 + a % 7 := ⟨_, rfl⟩
  have e1 : (1 : Int) + ((a : Int)).tmod 7 = (n : Int) := by rw [Int.tmod_eq_emod_of_nonneg (by omega)]; omega
  have f1 : IntKind.i64.wrap ((a : Int).tmod 7) = (a : Int).tmod 7 := by rw [Int.tmod_eq_emod_of_nonneg (by omega)]; exact wrap_i64 (by omega)
  refine L_reg [1, 5] (fun K hK => ?_)
  simp [wrap_i64 (a := (a : Int)) (by omega), e1, wrap_i64 (a := (n : Int)) (by omega)]
  apply hK; clear hK K
  have hn1 : 1 ≤ n := by omega
  have hn2 : n ≤ 7 := by omega
  clear e1 f1 hn ha
  refine L_reg [1, 5, 6, 7] (fun K hK => ?_)
  simp [okFn_low]
  refine OrdersN_ac n hn1 (by omega) _ _ ?_
  simp
  apply hK; clear hK K
  have hM1 := lcmS_pos n
  have hM2 := lcm_7 hn2
  have hmir := fun k (h3 : 1 ≤ k) (h4 : k ≤ lcmS n) => mir hn1 hn2 h3 h4
  obtain ⟨M, hM⟩ : ∃ M, M = lcmS n := ⟨_, rfl⟩
  rw [← hM] at hM1 hM2 hmir ⊢
  have z1 : ¬ ((M : Int) < 1) := by omega
  have z2 : ¬ ((420 : Int) < M) := by omega
  have z3 : M ≠ 0 := by omega
  have z4 : ¬ (420 < M) := by omega
  refine L_reg [1, 5, 6, 42] (fun K hK => ?_)
  simp [pickV, z1, z2]
  apply hK; clear hK K
  refine L_false (by simp) ?_
  have em := tmodN b M
  obtain ⟨x, hx⟩ : ∃ x : Nat, x = b % M := ⟨_, rfl⟩
  have hxM : x < M := by rw [hx]; exact Nat.mod_lt _ hM1
  rw [← hx] at em
  obtain ⟨k, hk⟩ : ∃ k : Nat, k = 1 + x := ⟨_, rfl⟩
  have ek : (1 : Int) + (x : Int) = (k : Int) := by omega
  refine L_reg [5, 6, 8] (fun K hK => ?_)
  simp [z3, wrap_i64 (a := (b : Int)) (by omega), em, ek, wrap_i64 (a := (k : Int)) (by omega)]
  apply hK; clear hK K
  have hk1 : 1 ≤ k := by omega
  have hk2 : k ≤ M := by omega
  have hmr := hmir k hk1 hk2
  clear hmir ek hk hxM em hx hb z1 z2 z3 z4
  obtain ⟨k', hk'⟩ : ∃ k' : Nat, k' = M + 1 - k := ⟨_, rfl⟩
  have m1 := hmr.o
  have m2 := hmr.r
  have m3 := hmr.t
  have m4 := hmr.a
  have m5 := hmr.half
  have m6 := hmr.same
  have m7 := hmr.dif
  rw [← hM, ← hk'] at m2 m5
  clear hmr
  have ek : (M : Int) + 1 - k = (k' : Int) := by omega
  have hol := orderS_len n k
  have hol' := orderS_len n k'
  have hWhen := fun p x hp hx => WhenN_ac n k p x hn1 (by omega) hk1 (by omega) hp hx
  have hnd := orderS_perm n k
  obtain ⟨o, ho⟩ : ∃ o, o = orderS n k := ⟨_, rfl⟩
  obtain ⟨o', ho'⟩ : ∃ o', o' = orderS n k' := ⟨_, rfl⟩
  refine L_reg [5, 6, 7, 8, 9] (fun K hK => ?_)
  simp [okFn_low]
  refine OrderN_ac n k hn1 (by omega) hk1 (by omega) _ _ (fun v H1 hv0 E1 => ?_)
  simp
  apply hK; clear hK K
  refine L_reg [5, 7, 8, 9, 10, 11] (fun K hK => ?_)
  simp [okFn_low, wrap_i64 (a := (M : Int) + 1) (by omega), ek, wrap_i64 (a := (k' : Int)) (by omega)]
  refine OrderN_ac n k' hn1 (by omega) (by omega) (by omega) _ _ (fun v' H2 hv0' E2 => ?_)
  simp
  apply hK; clear hK K
  have hv2 := hv0.own.ls.ext E2
  have hv2' := hv0'.own.ls
  have hE2 := E1.trans E2
  rw [← ho] at hv2 hol m1 m5 m6 m7 hWhen hnd
  rw [← ho'] at hv2' hol' m2 m5
  clear hv0 hv0'
  have vl := ls_len hv2
  have vl' := ls_len hv2'
  rw [hol] at vl
  rw [hol'] at vl'
  refine L_reg [5, 8, 9, 10, 80] (fun K hK => ?_)
  simp [pickV, vl, vl']
  apply hK; clear hK K
  refine L_false (by simp) ?_
  clear vl vl'
  refine L_reg [5, 8, 9, 10, 12, 13] (fun K hK => ?_)
  simp
  apply hK; clear hK K
  refine L_reg [5, 8, 9, 10, 12, 13, 81, 82] (fun K hK => ?_)
  simp
  apply hK; clear hK K
  have htu : turnS n k = (allS n).map fun x => idx x o := by rw [ho]; rfl
  refine L_block (L_loopV [12, 13, 82] (fun q vs H' => ∃ (i : Nat) (v1 v2 : AV), q = n - i ∧ i ≤ n ∧ vs = [v1, v2, .int .i64 i] ∧ OwnF H2.length H' v1 (((allS i).map fun x => idx x o).map (.int .i64)) ∧ OwnF H2.length H' v2 ((allS i).map (.int .i64)) ∧ (∀ r, rowOf v1 = some r → rowOf v2 ≠ some r) ∧ Ext H2 H') _ [.slice none 0 0 0 1 false, .slice none 0 0 0 1 false, .int .i64 0] rfl ⟨0, _, _, rfl, by omega, rfl, .nil _ _, .nil _ _, (fun r e => by cases e), .refl _⟩ ?_)
  rintro q _ H3 ⟨i, v1, v2, rfl, hi, rfl, hO1, hO2, hdj, hE⟩
  refine L_reg [5, 8, 9, 10, 12, 13, 81, 82, 83] (fun K hK => ?_)
  simp
  apply hK; clear hK K
  refine L_dec (i < n) (by simp) (fun hlt => ?_) (fun hge => L_exit ?_)
  · refine L_block ?_
    have hmi : (i : Int) ∈ o := hnd.mem_iff.2 (mem_allS.2 (by omega))
    obtain ⟨p, hpp⟩ : ∃ p : Nat, idx (i : Int) o = p := ⟨(idx (i : Int) o).toNat, by have := idx_mem hmi; omega⟩
    obtain ⟨g1, g2⟩ := idx_get hpp
    refine L_reg [5, 8, 9, 10, 12, 13, 14, 81, 82] (fun K hK => ?_)
    simp
    apply hK; clear hK K
    refine L_reg [5, 8, 9, 10, 12, 13, 14, 15, 16, 81, 82] (fun K hK => ?_)
    simp [okFn_low]
    refine hWhen p i (by omega) g2.symm _ _ (fun H4 E4 => ?_)
    simp
    apply hK; clear hK K
    have hE4 := hE.trans E4
    refine L_reg [5, 8, 9, 10, 12, 13, 14, 15, 81, 82, 93] (fun K hK => ?_)
    simp
    apply hK; clear hK K
    refine L_false (by simp) ?_
    obtain ⟨v1', H5, v2', H6, happ1, happ2, w1, w2, w3, w4⟩ := two_append hE4 el26 el26 (x := .int .i64 (p : Int)) (y := .int .i64 (i : Int)) (m := 1) (ownF_ext hO1 E4) (ownF_ext hO2 E4) hdj rfl rfl (by simp [allS_len]; omega) (by simp [allS_len]; omega)
    refine L_reg [5, 8, 9, 10, 12, 13, 81, 82] (fun K hK => ?_)
    simp [happ1, happ2]
    apply hK; clear hK K
    refine L_reg [5, 8, 9, 10, 12, 13, 81, 82] (fun K hK => ?_)
    simp [wrap_i64 (a := (i : Int) + 1) (by omega)]
    apply hK; clear hK K
    refine ⟨n - (i + 1), [v1', v2', .int .i64 (i + 1 : Nat)], by omega, by simp, i + 1, v1', v2', rfl, by omega, rfl, ?_, ?_, w3, w4⟩
    · rw [allS_add, List.map_append, List.map_append, List.map_cons, List.map_nil, hpp]
      exact w1
    · rw [allS_add, List.map_append]
      exact w2
  have hin : i = n := by omega
  rw [hin] at hO1 hO2
  rw [← htu] at hO1
  have hE3 := hE2.trans hE
  have k1 := hO1.own.ls
  have k2 := hO2.own.ls
  have k3 := hv2.ext hE
  have k4 := hv2'.ext hE
  clear hO1 hO2 hdj hE hv2 hv2' hge hi hWhen hnd htu E1 E2 hE2
  refine L_reg [5, 9, 10, 12, 13, 17, 18] (fun K hK => ?_)
  simp [okFn_low]
  refine turnedPairs_ac v o _ _ m1 k3 (fun H4 E4 => ?_)
  simp
  apply hK; clear hK K
  refine L_reg [5, 9, 12, 13, 17, 18, 19, 20] (fun K hK => ?_)
  simp [okFn_low]
  refine turnedPairs_ac v' o' _ _ m2 (k4.ext E4) (fun H5 E5 => ?_)
  simp
  apply hK; clear hK K
  have E5 := E4.trans E5
  refine L_reg [5, 9, 13, 17, 18, 19, 20, 21, 22] (fun K hK => ?_)
  simp [okFn_low]
  refine turnedPairs_ac v1 (turnS n k) _ _ m3 (k1.ext E5) (fun H6 E6 => ?_)
  simp
  apply hK; clear hK K
  have E6 := E5.trans E6
  refine L_reg [5, 7, 17, 18, 19, 20, 21, 22, 23] (fun K hK => ?_)
  simp [okFn_low]
  refine Differ_ac v2 v (allS n) o _ _ m4 m1 (by rw [allS_len, hol]) (k2.ext E6) (k3.ext E6) (fun w H7 L hL1 hL2 E7 => ?_)
  simp
  apply hK; clear hK K
  have E7 := hE3.trans (E6.trans E7)
  obtain ⟨r, ve, sz, rfl⟩ := hL1.len
  rw [allS_len] at hL2
  rw [← hL2] at m7
  rw [m6, ← m7]
  rw [← m7] at m5
  have hb := tp_le m1
  rw [← m7] at hb
  obtain ⟨t2, ht2⟩ : ∃ t2 : Nat, tp o' = t2 := ⟨(tp o').toNat, by have := tp_le m2; omega⟩
  have hb2 := tp_le m2
  rw [ht2] at m5 hb2 ⊢
  have hmul : 0 ≤ (n : Int) * ((n : Int) - 1) ∧ (n : Int) * ((n : Int) - 1) ≤ 42 := by
    have : n = 1 ∨ n = 2 ∨ n = 3 ∨ n = 4 ∨ n = 5 ∨ n = 6 ∨ n = 7 := by omega
    rcases this with h | h | h | h | h | h | h <;> subst h <;> decide
  have hdv : ((n : Int) * ((n : Int) - 1)).tdiv 2 = (L.length : Int) + t2 := by rw [m5, Int.tdiv_eq_ediv_of_nonneg hmul.1]
  refine L_reg [4] (fun K hK => ?_)
  simp [okFn_low, pickV, wrap_i64 (a := (L.length : Int) + t2) (by omega), wrap_i64 (a := (n : Int) - 1) (by omega), wrap_i64 (a := (n : Int) * ((n : Int) - 1)) (by omega), hdv]
  refine works_ac _ _ (hg.ext E7) ?_
  simp [pickV]
  apply hK; clear hK K
  exact L_ret ⟨.inr rfl, _, rfl, rfl⟩
theorem u16_of {a : Int} (w : (Lit.int .u16 a).wf = true) : ∃ n : Nat, a = n ∧ n < 65536 := by
  have h : IntKind.u16.min ≤ a ∧ a ≤ IntKind.u16.max := by simpa [Lit.wf] using w
  have h1 : IntKind.u16.min = 0 := rfl
  have h2 : IntKind.u16.max = 65535 := rfl
  exact ⟨a.toNat, by omega, by omega⟩
theorem mirrored_int (a b : Int) (wa : (Lit.int .u8 a).wf = true) (wb : (Lit.int .u16 b).wf = true) (H : AH) (hg : HasG gs H) : AC Tryd.prog 3 [.int .u8 a, .int .u16 b] H fun u _ => u = .bool true := by
  obtain ⟨a, rfl, ha⟩ := u8_of wa
  obtain ⟨b, rfl, hb⟩ := u16_of wb
  exact topMirrored_ac a b ha hb H hg
end Go.Proofs.YtmlhekfkniibmaaDoor.Gr

/- What the listed package variable gives. -/
namespace Go.Proofs.YtmlhekfkniibmaaDoor
open Go Go.Proofs.YtmlhekfkniibmaaDoor.AX Go.ChangeShapes Go.WideShapes Go.ChangeAt Go.RowKit
def laid : List (String × DataW Unit) := [("vitola/heap.past", Rows.laid_vitola_heap_past)]
theorem own : ownKnob Tryd.prog.godebug = none := by kernel_rfl
def doorSteps : Nat := 400
theorem door_met (os : Os) (args : Array Value) : laidMetH Tryd.prog laid ((World.doorLaid Tryd.prog doorSteps os).forCall (fun _ _ => 0) ⟨#[], args, []⟩).memory :=
  laidMetH_of_parts3 (fuel := 8) (laidMet_of_run' 8 (by kernel_rfl) (by kernel_rfl)) (by kernel_rfl) (by kernel_rfl)
theorem gPast : Tryd.prog.globalNamed "vitola/heap.past" = some 0 := by kernel_rfl
theorem tPast : (Tryd.prog.globals[0]?).map (·.type) = some 121 := by kernel_rfl
set_option maxRecDepth 100000 in
theorem of_laid {W : World} (h : laidMetH Tryd.prog laid W) : ∀ x ∈ gs, ∃ C e fz, W.heap[x.1]? = some (.cells C e fz) ∧ RelVs .empty x.2 C.toList := by
  rw [MakeChecks.laidMetH_plain _ _ _ (by kernel_rfl)] at h
  obtain ⟨ps, ⟨g0, t0, cs0, f0, p0, q0, hg0, ht0, hv0, hd0, _, _⟩, _, _⟩ := h
  obtain rfl := Option.some.inj (gPast.symm.trans hg0)
  obtain rfl := Option.some.inj (tPast.symm.trans ht0)
  intro x hx
  simp only [gs, List.mem_singleton] at hx
  subst hx
  unfold World.var? at hv0
  rw [gPast] at hv0
  simp only [Option.bind_some] at hv0
  split at hv0
  case h_2 => cases hv0
  rename_i C e fz hC
  have hcs := Option.some.inj hv0
  rw [hcs] at hC
  refine ⟨cs0, e, fz, hC, ?_⟩
  have hu := Tryd.underlying121
  obtain ⟨xs, m, -, hx1, hlen, hn, hel⟩ := DataW.trod_struct hu hd0
  have c3 : Tryd.prog.cellsOf 3 = 1 := by kernel_rfl
  have c121 : Tryd.prog.cellsOf 121 = 2 := by kernel_rfl
  obtain ⟨l⟩ := cs0
  have h0 : DataW.trod _ Tryd.prog W 0 _ false m 3 ((l.drop 0).take (Tryd.prog.cellsOf 3)) = xs[0]? := hel 0 _ rfl
  have h1 : DataW.trod _ Tryd.prog W 0 _ false m 3 ((l.drop 1).take (Tryd.prog.cellsOf 3)) = xs[1]? := hel 1 _ rfl
  rw [c121] at hlen
  rw [c3] at h0 h1
  have hx1 : [DataW.lit (Lit.int .i64 24), DataW.lit (Lit.int .i64 24)] = xs.map (·.1) := DataW.agg.inj (congrArg Prod.fst hx1)
  match l, hlen, xs, hn, hx1, h0, h1 with
  | [a, b], _, [x0, x1], _, hx1, h0, h1 =>
    simp only [List.map_cons, List.map_nil, List.cons.injEq] at hx1
    obtain ⟨n0, e1, e2, _⟩ := DataW.trod_int Tryd.underlying3 (show DataW.trod _ Tryd.prog W 0 _ false m 3 [a] = some x0 from h0)
    obtain ⟨n1, e3, e4, _⟩ := DataW.trod_int Tryd.underlying3 (show DataW.trod _ Tryd.prog W 0 _ false m 3 [b] = some x1 from h1)
    cases e1
    cases e3
    rw [e2, e4] at hx1
    have q0 : (24 : Int) = n0 := by simpa using hx1.1
    have q1 : (24 : Int) = n1 := by simpa using hx1.2
    subst q0
    subst q1
    exact .cons (.int _ _) (.cons (.int _ _) .nil)
theorem hasG_H0 {W : World} {bs : List Nat} : HasG gs (H0 W bs ++ gRows gs) := by
  intro x hx
  simp only [gs, List.mem_singleton] at hx
  subst hx
  exact ⟨by rw [gfind_H0]; rfl, .cons (.int _ _) (.cons (.int _ _) .nil)⟩
theorem wants_of {P : Program} {ts : Array TypeId} (h : (ts.toList.all fun t => !P.wantsStandIn t) = true) : ∀ (j : Nat) (t : TypeId), ts[j]? = some t → P.wantsStandIn t = false := by
  intro j t ht
  have := List.all_eq_true.1 h t (by rw [Array.mem_toList_iff]; exact Array.mem_of_getElem? ht)
  simpa using this
end Go.Proofs.YtmlhekfkniibmaaDoor
