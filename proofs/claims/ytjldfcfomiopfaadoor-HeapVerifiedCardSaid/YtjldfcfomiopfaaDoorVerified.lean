/- The law of plans that are accepted. -/
import Derived.Test.YtjldfcfomiopfaaDoorVerify
import Derived.Test.YtjldfcfomiopfaaDoorMade
import Derived.Test.YtjldfcfomiopfaaDoorWorks
namespace Go.Proofs.YtjldfcfomiopfaaDoor
open Go Go.Proofs.YtjldfcfomiopfaaDoor.AX

/-- What the law wants behind i heaps. -/
def Wn (a b xh : Nat → Int) (k : Int) : Nat → Int
  | 0 => 0
  | i + 1 => if Wn a b xh k i = 0 then (if xh i < a i ∨ b i < xh i then 1 else if k ≤ ((((List.range i).map xh).count (xh i) : Nat) : Int) then 15 else 0) else Wn a b xh k i
theorem Wn_ver (a b xh : Nat → Int) (k : Int) (hk : 0 ≤ k) (m : Nat) : ∀ i, i ≤ m →
    (Wn a b xh k i = 0 → verS k [] ((List.range m).map fun i => (a i, b i)) ((List.range m).map xh) = verS k ((List.range i).map xh) (((List.range m).map fun i => (a i, b i)).drop i) (((List.range m).map xh).drop i) ∧ ∀ x, ((((List.range i).map xh).count x : Nat) : Int) ≤ k) ∧
    (Wn a b xh k i ≠ 0 → verS k [] ((List.range m).map fun i => (a i, b i)) ((List.range m).map xh) = Wn a b xh k i)
  | 0, _ => ⟨fun _ => ⟨rfl, fun x => by simpa using hk⟩, fun h => absurd rfl h⟩
  | i + 1, hi => by
    obtain ⟨h0, h1⟩ := Wn_ver a b xh k hk m i (by omega)
    by_cases hw : Wn a b xh k i = 0
    · obtain ⟨g1, g2⟩ := h0 hw
      have e1 : ((List.range m).map fun i => (a i, b i)).drop i = (a i, b i) :: ((List.range m).map fun i => (a i, b i)).drop (i + 1) := by
        rw [List.drop_eq_getElem_cons (by simp; omega)]; simp
      have e2 : ((List.range m).map xh).drop i = xh i :: ((List.range m).map xh).drop (i + 1) := by
        rw [List.drop_eq_getElem_cons (by simp; omega)]; simp
      have e3 : (List.range (i + 1)).map xh = (List.range i).map xh ++ [xh i] := by simp [List.range_succ]
      rw [e1, e2] at g1
      simp only [verS] at g1
      have hW : Wn a b xh k (i + 1) = if xh i < a i ∨ b i < xh i then 1 else if k ≤ ((((List.range i).map xh).count (xh i) : Nat) : Int) then 15 else 0 := by
        rw [Wn, if_pos hw]
      rw [hW]
      by_cases hr : xh i < a i ∨ b i < xh i
      · rw [if_pos hr]
        have ht : turnS (a i) (b i) (xh i) = false := by
          simp only [turnS, Bool.and_eq_false_iff, decide_eq_false_iff_not]; omega
        rw [ht] at g1
        exact ⟨fun h => by simp at h, fun _ => by simpa using g1⟩
      · rw [if_neg hr]
        have ht : turnS (a i) (b i) (xh i) = true := by
          simp only [turnS, Bool.and_eq_true, decide_eq_true_eq]; omega
        rw [ht, if_pos rfl] at g1
        have g3 := g2 (xh i)
        by_cases hc : k ≤ ((((List.range i).map xh).count (xh i) : Nat) : Int)
        · rw [if_pos hc]
          rw [if_pos (by omega)] at g1
          exact ⟨fun h => by simp at h, fun _ => g1⟩
        · rw [if_neg hc]
          rw [if_neg (by omega)] at g1
          refine ⟨fun _ => ⟨by rw [e3]; exact g1, fun x => ?_⟩, fun h => absurd rfl h⟩
          rw [e3, List.count_append]
          have := g2 x
          by_cases hx : xh i = x
          · subst hx; simp; omega
          · simp [hx]; exact this
    · have hW : Wn a b xh k (i + 1) = Wn a b xh k i := by rw [Wn, if_neg hw]
      rw [hW]
      exact ⟨fun h => absurd h hw, fun _ => h1 hw⟩
theorem Wn_all (a b xh : Nat → Int) (k : Int) (hk : 0 ≤ k) (m : Nat) : verS k [] ((List.range m).map fun i => (a i, b i)) ((List.range m).map xh) = Wn a b xh k m := by
  obtain ⟨h0, h1⟩ := Wn_ver a b xh k hk m m (Nat.le_refl _)
  by_cases h : Wn a b xh k m = 0
  · rw [(h0 h).1, h, List.drop_of_length_le (by simp), List.drop_of_length_le (by simp)]; simp [verS]
  · exact h1 h
theorem firstE_all : ∀ {l : List (Int × Int)}, (∀ h ∈ l, 0 ≤ h.1 ∧ h.1 ≤ h.2 ∧ h.2 ≤ 23) → firstE l = 0
  | [], _ => rfl
  | x :: l, h => by
    have hx := h x (by simp)
    have : spanE x.1 x.2 = 0 := by
      have ha : isHourS x.1 = true := by simp only [isHourS, Bool.and_eq_true, decide_eq_true_eq]; omega
      have hb : isHourS x.2 = true := by simp only [isHourS, Bool.and_eq_true, decide_eq_true_eq]; omega
      simp only [spanE, ha, hb, Bool.and_self, if_true]
      rw [if_neg (by omega)]
    rw [firstE, if_pos this]
    exact firstE_all fun y hy => h y (by simp [hy])
theorem handsE_ok {l : List (Int × Int)} {k : Int} (hl : l.length ≤ 10) (hk : 1 ≤ k ∧ k ≤ 10) (h : ∀ h ∈ l, 0 ≤ h.1 ∧ h.1 ≤ h.2 ∧ h.2 ≤ 23) : handsE l k = 0 := by
  have hc : checkE l = 0 := by rw [checkE, if_neg (by omega), firstE_all h]
  rw [handsE, if_pos hc, if_neg (by omega)]

theorem ag56 : aggSz Tryd.prog 56 = some 16 := by kernel_rfl
@[simp] theorem ld56 (H : AH) (r off ver : Nat) : loadV Tryd.prog 56 H (.ptr r off ver) = (ldn H r ver 16 off).map .agg := load_agg ag56 ..
@[simp] theorem ixa63 (r off ver : Nat) (k : IntKind) (i : Int) : aIndexAddr Tryd.prog 63 (.ptr r off ver) (.int k i) = if 0 ≤ i ∧ i < (8 : Nat) then some (.ptr r (off + i.toNat * 1) ver) else none := ixa_ar (by kernel_rfl) ..
theorem el23 : elT Tryd.prog 23 = true := by kernel_rfl
@[simp] theorem row23 (H : AH) (b : Int) : rowV Tryd.prog 23 1 [(0, .int .i64 b)] H = some (some (.slice (some H.length) 0 1 0 1 false), H ++ [.row [.int .i64 b] 0 1 false]) := row1 el23 rfl rfl
def xhS (ns pl : List Nat) (i : Nat) : Int := if 240 < pl[i]?.getD 0 then ((pl[i]?.getD 0 : Nat) : Int) - 242 else ((mFrom ns 10 0 i + (pl[i]?.getD 0) % (mTo ns 10 0 i - mFrom ns 10 0 i + 1) : Nat) : Int)
def aF (ns : List Nat) (i : Nat) : Int := (mFrom ns 10 0 i : Nat)
def bF (ns : List Nat) (i : Nat) : Int := (mTo ns 10 0 i : Nat)
theorem ownF_ext {N : Nat} {H H1 : AH} {v : AV} {l : List AV} (h : OwnF N H v l) (hE : Ext H H1) : OwnF N H1 v l := by
  rcases h with h | ⟨r, ver, stale, h1, h2, h3⟩
  · exact .inl h
  · exact .inr ⟨r, ver, stale, h1, h2, hE.row h3⟩
theorem intL_made (ns : List Nat) (m : Nat) : intL (madeL ns m 10 0) = (List.range m).map fun i => (aF ns i, bF ns i) := by simp [intL, madeL, aF, bF]
theorem mspan (ns : List Nat) (i : Nat) : mFrom ns 10 0 i ≤ mTo ns 10 0 i ∧ mTo ns 10 0 i ≤ 9 := by
  unfold mFrom mTo
  have : (ns[2 * i]?.getD 0) % 10 < 10 := Nat.mod_lt _ (by decide)
  omega

set_option maxRecDepth 100000 in
theorem heapVerified_ac (ns pl : List Nat) (many hands more : Nat) (H : AH) (hns : ns.length = 16) (hb : ∀ x ∈ ns, x < 256) (hpl : pl.length = 8) (hpb : ∀ x ∈ pl, x < 256) (h1 : many < 256) (h2 : hands < 256) (_h3 : more < 256) (hg : HasG gs H) :
    AC Tryd.prog 8 [.agg (yardV ns), .int .u8 many, .int .u8 hands, .agg (yardV pl), .int .u8 more] H fun u _ => u = .bool true := by
  obtain ⟨I, hI, hz⟩ := zeroT_some zt61
  refine L_body 107 Tryd.func8 rfl rfl ?_
  refine L_reg [1, 2, 4, 5, 8] (fun K hK => ?_)
  simp [AV.isU, acells]
  apply hK; clear hK K
  have hE0 : Ext H (H ++ [AObj.row (yardV ns) 0 0 false, AObj.row (yardV pl) 0 0 false]) := .push _ _
  have hr1 : (H ++ [AObj.row (yardV ns) 0 0 false, AObj.row (yardV pl) 0 0 false])[H.length]? = some (.row (yardV ns) 0 0 false) := by simp
  have hr2 : (H ++ [AObj.row (yardV ns) 0 0 false, AObj.row (yardV pl) 0 0 false])[H.length + 1]? = some (.row (yardV pl) 0 0 false) := by simp
  have hg1 := hg.ext hE0
  generalize H ++ [AObj.row (yardV ns) 0 0 false, AObj.row (yardV pl) 0 0 false] = H1 at hr1 hr2 hg1 ⊢
  have hl1 : ldn H1 H.length 0 16 0 = some (yardV ns) := by
    rw [ldn_row hr1, List.drop_zero]
    have := takeKnown_row (l := yardV ns) (by simp [yardV]) []
    rw [List.append_nil] at this
    rwa [show (yardV ns).length = 16 by simp [yardV, hns]] at this
  generalize H.length = w at hr2 hl1 ⊢
  refine L_reg [2, 4, 8, 11] (fun K hK => ?_)
  simp [hl1, okFn_low, wrap_i64 (a := (many : Int)) (by omega)]
  refine made_ac ns many 8 10 0 H1 _ hns hb (by omega) (by omega) (by omega) (by omega) (fun v H2 hv hE => ?_)
  simp
  apply hK; clear hK K
  have hg2 := hg1.ext hE
  have hp2 := hE.row hr2
  have hm8 : madeN many 8 ≤ 8 := by unfold madeN; omega
  generalize madeN many 8 = m at hm8 hv
  have hremh : (hands : Int).tmod 3 = ((hands % 3 : Nat) : Int) := rem_nat hands 3
  have hh3 : hands % 3 < 3 := Nat.mod_lt _ (by decide)
  refine L_reg [4, 8, 11, 12] (fun K hK => ?_)
  simp [wrap_i64 (a := (hands : Int)) (by omega), hremh, wrap_i64 (a := 1 + ((hands % 3 : Nat) : Int)) (by omega), -Int.natCast_emod]
  apply hK; clear hK K
  obtain ⟨k, hk⟩ : ∃ k : Nat, k = 1 + hands % 3 := ⟨_, rfl⟩
  have hkk : (1 + ((hands % 3 : Nat) : Int)) = (k : Int) := by omega
  have hk3 : 1 ≤ k ∧ k ≤ 3 := by omega
  rw [hkk]
  clear hkk hk hremh hh3
  obtain ⟨r, off, ver, sz, full, hveq, hld⟩ := hv.read
  have hlen : (intL (madeL ns m 10 0)).length = m := by simp [intL, madeL]
  rw [hlen] at hveq
  subst hveq
  refine L_reg [4, 8, 11, 12, 13] (fun K hK => ?_)
  simp
  apply hK; clear hK K
  refine L_reg [4, 8, 11, 12, 13, 14] (fun K hK => ?_)
  simp
  apply hK; clear hK K
  refine L_reg [4, 8, 11, 12, 13, 14, 29, 30, 31] (fun K hK => ?_)
  simp
  apply hK; clear hK K
  have h23 : ∀ h ∈ intL (madeL ns m 10 0), 0 ≤ h.1 ∧ h.1 ≤ h.2 ∧ h.2 ≤ 23 := by
    rw [intL_made]
    intro h hm
    obtain ⟨i, -, rfl⟩ := List.mem_map.1 hm
    have := mspan ns i
    simp only [aF, bF]
    omega
  have hhands : handsE (intL (madeL ns m 10 0)) k = 0 := handsE_ok (by omega) (by omega) h23
  refine L_block (L_loopV [13, 14, 31] (fun q vs H' => ∃ (i : Nat) (u : AV), q = m - i ∧ i ≤ m ∧ vs = [u, .int .i64 (Wn (aF ns) (bF ns) (xhS ns pl) k i), .int .i64 i] ∧ Ext H2 H' ∧ OwnF H2.length H' u (((List.range i).map (xhS ns pl)).map (.int .i64))) _ [.slice none 0 0 0 1 false, .int .i64 0, .int .i64 (0 : Nat)] rfl
    ⟨0, _, rfl, by omega, rfl, .refl _, OwnF.nil _ _⟩ ?_)
  rintro q _ H3 ⟨i, u, rfl, hi, rfl, hE3, hO⟩
  obtain ⟨ur, uv, hu⟩ := hO.len
  simp only [List.length_map, List.length_range] at hu
  refine L_reg [4, 8, 11, 12, 13, 14, 29, 30, 31, 32] (fun K hK => ?_)
  simp
  apply hK; clear hK K
  refine L_dec (i < m) (by simp) (fun hlt => ?_) (fun hge => L_exit ?_)
  · obtain ⟨r', rfl, rfl, hrd⟩ := hld i (by omega)
    have hrd := ldn_ext hE3 hrd
    have hli : (intL (madeL ns m 10 0))[i]'(by omega) = (aF ns i, bF ns i) := by simp [intL, madeL, aF, bF]
    rw [hli] at hrd
    have hms := mspan ns i
    have hWs : Wn (aF ns) (bF ns) (xhS ns pl) k (i + 1) = if Wn (aF ns) (bF ns) (xhS ns pl) k i = 0 then (if xhS ns pl i < aF ns i ∨ bF ns i < xhS ns pl i then 1 else if (k : Int) ≤ ((((List.range i).map (xhS ns pl)).count (xhS ns pl i) : Nat) : Int) then 15 else 0) else Wn (aF ns) (bF ns) (xhS ns pl) k i := rfl
    have hpli : i < pl.length := by omega
    have hpd : pl[i]?.getD 0 = pl[i] := by rw [List.getElem?_eq_getElem hpli]; rfl
    have hpb1 := hpb _ (List.getElem_mem hpli)
    have hxs : xhS ns pl i = if 240 < pl[i] then ((pl[i] : Nat) : Int) - 242 else ((mFrom ns 10 0 i + pl[i] % (mTo ns 10 0 i - mFrom ns 10 0 i + 1) : Nat) : Int) := by unfold xhS; rw [hpd]
    have hrow : ∀ H', Ext H3 H' → ld H' (w + 1) i 0 = some (.int .u8 (pl[i] : Nat)) := fun H' hE' => by
      rw [ld_row (hE'.row (hE3.row hp2))]
      simp [yardV, hpli]
    have hnext : (List.range (i + 1)).map (xhS ns pl) = (List.range i).map (xhS ns pl) ++ [xhS ns pl i] := by simp [List.range_succ]
    generalize pl[i] = y at hpb1 hxs hrow
    have hA : aF ns i = (mFrom ns 10 0 i : Nat) := rfl
    have hB : bF ns i = (mTo ns 10 0 i : Nat) := rfl
    rw [hA, hB] at hWs
    simp only [hA, hB] at hrd
    clear hA hB hli
    generalize mFrom ns 10 0 i = f at hWs hrd hms hxs
    generalize mTo ns 10 0 i = t at hWs hrd hms hxs
    have hcl : ∀ x, (((List.range i).map (xhS ns pl)).count x) ≤ i := fun x => Nat.le_trans List.count_le_length (by simp)
    obtain ⟨qr, qo, qv, qs, qf, hq, hql⟩ := hO.own.ls
    simp only [List.length_map, List.length_range] at hq hql
    generalize hX : xhS ns pl i = X at hWs hxs hnext
    have hC0 := hcl X
    have hXb : -300 ≤ X ∧ X ≤ 300 := by
      rw [hxs]
      split
      · omega
      · have : y % (t - f + 1) < t - f + 1 := Nat.mod_lt _ (by omega)
        omega
    generalize hW0 : Wn (aF ns) (bF ns) (xhS ns pl) k i = W0 at hWs ⊢
    refine L_block ?_
    refine L_reg [4, 8, 11, 12, 13, 14, 15, 16, 29, 30, 31] (fun K hK => ?_)
    simp [hlt, hrd, hI, hz, put61]
    apply hK; clear hK K
    have hbx : (H3 ++ [AObj.row (two f t) 0 0 false])[H3.length]? = some (.row (two f t) 0 0 false) := by simp
    have hE4 : Ext H3 (H3 ++ [AObj.row (two f t) 0 0 false]) := .push _ _
    generalize H3 ++ [AObj.row (two f t) 0 0 false] = H4 at hbx hE4 ⊢
    generalize H3.length = b at hbx ⊢
    have e3 := ld_two0 hbx
    have e4 := ld_two1 hbx
    have e5 := hrow H4 hE4
    have hr := rem_nat y (t - f + 1)
    have hcast : ((t - f + 1 : Nat) : Int) = (t : Int) - (f : Int) + 1 := by omega
    rw [hcast] at hr
    have hne2 : ((t : Int) - (f : Int) + 1) ≠ 0 := by omega
    have hym : y % (t - f + 1) < t - f + 1 := Nat.mod_lt _ (by omega)
    generalize y % (t - f + 1) = ym at hr hym hxs
    refine L_regQ mixed [4, 8, 11, 12, 13, 14, 15, 16, 17, 29, 30, 31] (by kernel_rfl) (fun K hK => ?_)
    simp [e3, e4, e5, show (i : Int) < 8 by omega, wrap_i64 (a := (y : Int)) (by omega), wrap_i64 (a := (t : Int) - (f : Int)) (by omega), wrap_i64 (a := (t : Int) - (f : Int) + 1) (by omega), hne2, hr, wrap_i64 (a := (f : Int) + (ym : Int)) (by omega)]
    apply hK; clear hK K
    refine L_reg [4, 8, 11, 12, 13, 14, 15, 16, 17, 29, 30, 31, 53] (fun K hK => ?_)
    simp [e5, show (i : Int) < 8 by omega]
    apply hK; clear hK K
    refine L_condK [4, 8, 11, 12, 13, 14, 16, 17, 29, 30, 31] (fun E H' => E = [(4, .int .u8 (more : Int)), (8, .ptr (w + 1) 0 0), (11, .slice (some r') off m ver 2 full), (12, .int .i64 (k : Int)), (13, u), (14, .int .i64 W0), (16, .ptr b 0 0), (17, .int .i64 X), (29, .slice (some r') off m ver 2 full), (30, .int .i64 (m : Int)), (31, .int .i64 (i : Int))] ∧ H4 = H') (t := decide ((240 : Int) < (y : Int))) (by simp) (fun ht => ?_) (fun ht => ?_) ?_
    · have h240 : 240 < y := by have := of_decide_eq_true ht; omega
      rw [if_pos h240] at hxs
      refine L_reg [4, 8, 11, 12, 13, 14, 16, 17, 29, 30, 31] (fun K hK => ?_)
      simp [e5, show (i : Int) < 8 by omega, wrap_i64 (a := (y : Int)) (by omega), wrap_i64 (a := (y : Int) - 242) (by omega)]
      apply hK; clear hK K
      exact ⟨by simp [hxs], rfl⟩
    · have h240 : ¬ 240 < y := by have := of_decide_eq_false ht; omega
      rw [if_neg h240] at hxs
      exact ⟨by simp [hxs], rfl⟩
    rintro _ _ ⟨rfl, rfl⟩
    refine L_reg [4, 8, 11, 12, 13, 14, 16, 17, 18, 29, 30, 31] (fun K hK => ?_)
    simp
    apply hK; clear hK K
    subst hq
    refine L_reg [4, 8, 11, 12, 13, 14, 16, 17, 18, 29, 30, 31, 59, 60, 61] (fun K hK => ?_)
    simp
    apply hK; clear hK K
    refine L_block (L_loopV [18, 61] (fun q vs H' => ∃ j : Nat, q = i - j ∧ j ≤ i ∧ vs = [.int .i64 ((((List.range j).map (xhS ns pl)).count X : Nat) : Int), .int .i64 j] ∧ H4 = H') _ [.int .i64 (0 : Nat), .int .i64 (0 : Nat)] rfl ⟨0, rfl, by omega, by simp, rfl⟩ ?_)
    rintro q _ _ ⟨j, rfl, hj, rfl, rfl⟩
    have hcj : ((List.range j).map (xhS ns pl)).count X ≤ j := Nat.le_trans List.count_le_length (by simp)
    refine L_reg [4, 8, 11, 12, 13, 14, 16, 17, 18, 29, 30, 31, 59, 60, 61, 62] (fun K hK => ?_)
    simp
    apply hK; clear hK K
    refine L_dec (j < i) (by simp) (fun hji => ?_) (fun hji => L_exit ?_)
    · obtain ⟨r3, rfl, rfl, hrd3⟩ := hql j hji
      have hrd3 := hE4.ld hrd3
      simp only [List.getElem_map, List.getElem_range] at hrd3
      have hcs : ((List.range (j + 1)).map (xhS ns pl)).count X = ((List.range j).map (xhS ns pl)).count X + if xhS ns pl j = X then 1 else 0 := by
        rw [List.range_succ, List.map_append, List.count_append]
        simp [List.count_cons]
      refine L_block ?_
      refine L_reg [4, 8, 11, 12, 13, 14, 16, 17, 18, 20, 29, 30, 31, 59, 60, 61] (fun K hK => ?_)
      simp [hji, hrd3]
      apply hK; clear hK K
      refine L_reg [4, 8, 11, 12, 13, 14, 16, 17, 18, 29, 30, 31, 59, 60, 61, 67] (fun K hK => ?_)
      simp
      apply hK; clear hK K
      refine L_dec (xhS ns pl j = X) (by simp; rfl) (fun he => ?_) (fun he => ?_)
      · rw [if_pos he] at hcs
        refine L_reg [4, 8, 11, 12, 13, 14, 16, 17, 18, 29, 30, 31, 59, 60, 61] (fun K hK => ?_)
        simp [wrap_i64 (a := ((((List.range j).map (xhS ns pl)).count X : Nat) : Int) + 1) (by omega)]
        apply hK; clear hK K
        refine L_reg [4, 8, 11, 12, 13, 14, 16, 17, 18, 29, 30, 31, 59, 60, 61] (fun K hK => ?_)
        simp [wrap_i64 (a := (j : Int) + 1) (by omega)]
        apply hK; clear hK K
        exact ⟨i - (j + 1), [.int .i64 ((((List.range (j + 1)).map (xhS ns pl)).count X : Nat) : Int), .int .i64 (j + 1 : Nat)], by omega, by simp [hcs], j + 1, rfl, by omega, rfl, rfl⟩
      · rw [if_neg he] at hcs
        refine L_reg [4, 8, 11, 12, 13, 14, 16, 17, 18, 29, 30, 31, 59, 60, 61] (fun K hK => ?_)
        simp [wrap_i64 (a := (j : Int) + 1) (by omega)]
        apply hK; clear hK K
        exact ⟨i - (j + 1), [.int .i64 ((((List.range (j + 1)).map (xhS ns pl)).count X : Nat) : Int), .int .i64 (j + 1 : Nat)], by omega, by simp [hcs], j + 1, rfl, by omega, rfl, rfl⟩
    · have : j = i := by omega
      subst this
      generalize ((List.range j).map (xhS ns pl)).count X = C at *
      have hE5 := hE3.trans hE4
      refine L_reg [4, 8, 11, 12, 13, 14, 16, 17, 18, 29, 30, 31, 72] (fun K hK => ?_)
      simp
      apply hK; clear hK K
      generalize hW1 : Wn (aF ns) (bF ns) (xhS ns pl) k (j + 1) = W1 at hWs
      refine L_condK [4, 8, 11, 12, 13, 14, 17, 29, 30, 31] (fun E H' => E = [(4, .int .u8 (more : Int)), (8, .ptr (w + 1) 0 0), (11, .slice (some r') off m ver 2 full), (12, .int .i64 (k : Int)), (13, .slice qr qo j qv qs qf), (14, .int .i64 W1), (17, .int .i64 X), (29, .slice (some r') off m ver 2 full), (30, .int .i64 (m : Int)), (31, .int .i64 (j : Int))] ∧ H4 = H') (t := (W0 == 0)) (by simp) (fun ht => ?_) (fun ht => ?_) ?_
      · have hw0 : W0 = 0 := by simpa using ht
        rw [if_pos hw0] at hWs
        refine L_block ?_
        by_cases hxf : X < (f : Int)
        · rw [if_pos (.inl hxf)] at hWs
          refine L_reg [4, 8, 11, 12, 13, 14, 17, 18, 29, 30, 31, 73] (fun K hK => ?_)
          simp [e3, hxf, pickV]
          apply hK; clear hK K
          refine L_true (by simp) ?_
          refine L_reg [4, 8, 11, 12, 13, 14, 17, 29, 30, 31] (fun K hK => ?_)
          simp
          apply hK; clear hK K
          exact ⟨by simp [hWs], rfl⟩
        · refine L_reg [4, 8, 11, 12, 13, 14, 17, 18, 29, 30, 31, 73] (fun K hK => ?_)
          simp [e3, e4, hxf, pickV]
          apply hK; clear hK K
          refine L_dec ((t : Int) < X) (by simp) (fun hxt => ?_) (fun hxt => ?_)
          · rw [if_pos (.inr hxt)] at hWs
            refine L_reg [4, 8, 11, 12, 13, 14, 17, 29, 30, 31] (fun K hK => ?_)
            simp
            apply hK; clear hK K
            exact ⟨by simp [hWs], rfl⟩
          · rw [if_neg (by omega)] at hWs
            refine L_reg [4, 8, 11, 12, 13, 14, 17, 29, 30, 31, 84] (fun K hK => ?_)
            simp
            apply hK; clear hK K
            refine L_dec ((k : Int) ≤ (C : Int)) (by simp) (fun hkc => ?_) (fun hkc => ?_)
            · rw [if_pos hkc] at hWs
              refine L_reg [4, 8, 11, 12, 13, 14, 17, 29, 30, 31] (fun K hK => ?_)
              simp
              apply hK; clear hK K
              exact ⟨by simp [hWs], rfl⟩
            · rw [if_neg hkc] at hWs
              exact ⟨by simp [hWs, hw0], rfl⟩
      · have hw0 : ¬ W0 = 0 := by simpa using ht
        rw [if_neg hw0] at hWs
        exact ⟨by simp [hWs], rfl⟩
      rintro _ _ ⟨rfl, rfl⟩
      obtain ⟨u', H5, happ, hO5, hE6⟩ := ownF_append (P := Tryd.prog) hE5 el23 el23 (x := .int .i64 X) (m := 1) (ownF_ext hO hE4) rfl (by simp; omega)
      refine L_reg [4, 8, 11, 12, 13, 14, 29, 30, 31] (fun K hK => ?_)
      simp [happ]
      apply hK; clear hK K
      refine L_reg [4, 8, 11, 12, 13, 14, 29, 30, 31] (fun K hK => ?_)
      simp [wrap_i64 (a := (j : Int) + 1) (by omega)]
      apply hK; clear hK K
      refine ⟨m - (j + 1), [u', .int .i64 W1, .int .i64 (j + 1 : Nat)], by omega, by simp, j + 1, u', rfl, by omega, by rw [hW1], hE6, ?_⟩
      rw [hnext]
      simpa using hO5
  · have : i = m := by omega
    subst this
    have hv3 := hv.ext hE3
    have hg3 := hg2.ext hE3
    have hwn := Wn_all (aF ns) (bF ns) (xhS ns pl) k (by omega) i
    rw [← intL_made] at hwn
    generalize hP : (List.range i).map (xhS ns pl) = p at hwn hO
    have hpl2 : p.length = i := by rw [← hP]; simp
    obtain ⟨ur, uv, hu⟩ := hO.len
    rw [List.length_map, hpl2] at hu
    generalize Wn (aF ns) (bF ns) (xhS ns pl) k i = W0 at hwn ⊢
    refine L_reg [11, 12, 13, 14, 94] (fun K hK => ?_)
    simp
    apply hK; clear hK K
    refine L_condK [11, 12, 13, 14] (fun E H' => ∃ v' p', E = [(11, .slice r off i ver sz full), (12, .int .i64 (k : Int)), (13, v'), (14, .int .i64 (verifyE (intL (madeL ns i 10 0)) k p'))] ∧ p'.length ≤ 1000000 ∧ Ls H' v' p' ∧ Ext H2 H') (t := decide ((240 : Int) < (more : Int))) (by simp) (fun ht => ?_) (fun ht => ?_) ?_
    · obtain ⟨u', H5, happ, hO5, hE6⟩ := ownF_append (P := Tryd.prog) hE3 el23 el23 (x := .int .i64 0) (m := 1) hO rfl (by simp; omega)
      rw [hu] at happ
      refine L_reg [11, 12, 13, 14] (fun K hK => ?_)
      simp [hu, happ]
      apply hK; clear hK K
      refine ⟨u', p ++ [0], ?_, by simp; omega, Own.ls (by simpa using hO5.own), hE6⟩
      simp [verifyE, hhands, hpl2, hlen]
    · refine ⟨u, p, ?_, by omega, hO.own.ls, hE3⟩
      simp [verifyE, hhands, hpl2, hlen, hwn]
    rintro _ H5 ⟨v', p', rfl, hp', hls, hE6⟩
    refine L_reg [10] (fun K hK => ?_)
    simp
    refine verify_q _ _ (intL (madeL ns i 10 0)) _ _ _ hp' ?_ hls _ ?_
    · have := hv.ext hE6
      simpa using this
    simp
    refine works_ac _ _ (hg2.ext hE6) ?_
    simp
    apply hK; clear hK K
    exact L_ret ⟨.inr rfl, _, rfl, by simp⟩

theorem u8_of {a : Int} (h : (Lit.int .u8 a).wf = true) : ∃ n : Nat, a = n ∧ n < 256 := by
  have h1 : 0 ≤ a ∧ a ≤ 255 := by
    simp [Lit.wf, IntKind.min, IntKind.max, IntKind.bits, IntKind.signed] at h
    omega
  exact ⟨a.toNat, by omega, by omega⟩
theorem yard_of : ∀ {l : List Int}, (∀ x ∈ l, IntKind.u8.min ≤ x ∧ x ≤ IntKind.u8.max) → ∃ ns : List Nat, l = ns.map Int.ofNat ∧ (∀ x ∈ ns, x < 256)
  | [], _ => ⟨[], rfl, by simp⟩
  | x :: l, h => by
    obtain ⟨ns, h1, h2⟩ := yard_of fun y hy => h y (List.mem_cons_of_mem _ hy)
    have hx : 0 ≤ x ∧ x ≤ 255 := h x List.mem_cons_self
    have e : Int.ofNat x.toNat = x := Int.toNat_of_nonneg hx.1
    refine ⟨x.toNat :: ns, by rw [List.map_cons, e, ← h1], fun y hy => ?_⟩
    rcases List.mem_cons.1 hy with rfl | hy
    · omega
    · exact h2 y hy
theorem heapVerified_int (n0 : List Int) (e0 : n0.length = 16) (b0 : ∀ x ∈ n0, IntKind.u8.min ≤ x ∧ x ≤ IntKind.u8.max) (a1 : Int) (w1 : (Lit.int .u8 a1).wf = true) (a2 : Int) (w2 : (Lit.int .u8 a2).wf = true)
    (n3 : List Int) (e3 : n3.length = 8) (b3 : ∀ x ∈ n3, IntKind.u8.min ≤ x ∧ x ≤ IntKind.u8.max) (a4 : Int) (w4 : (Lit.int .u8 a4).wf = true) (H : AH) (hg : HasG gs H) :
    AC Tryd.prog 8 [.agg (n0.map (.int .u8)), .int .u8 a1, .int .u8 a2, .agg (n3.map (.int .u8)), .int .u8 a4] H fun u _ => u = .bool true := by
  obtain ⟨ns, rfl, hb⟩ := yard_of b0
  obtain ⟨pl, rfl, hpb⟩ := yard_of b3
  obtain ⟨m, rfl, h1⟩ := u8_of w1
  obtain ⟨h, rfl, h2⟩ := u8_of w2
  obtain ⟨r, rfl, h3⟩ := u8_of w4
  simp only [List.length_map] at e0 e3
  have := heapVerified_ac ns pl m h r H e0 hb e3 hpb h1 h2 h3 hg
  simpa [yardV, Function.comp_def] using this
end Go.Proofs.YtjldfcfomiopfaaDoor
