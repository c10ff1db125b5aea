/- slices.Delete of one, slices.Max. -/
import Derived.Test.YtbimapbcpmeooaaSrtD
namespace Go.Proofs.Ytbimapbcpmeooaa.Cl
open Go Go.Proofs.Ytbimapbcpmeooaa Go.Proofs.Ytbimapbcpmeooaa.AX
set_option maxRecDepth 100000
theorem un22 : ∃ e ie, Try.prog.underlying 22 = some (.slice e) ∧ Try.prog.info? e = some ie ∧ ie.size = 1 := by
  have h := slz22
  unfold slSz at h
  split at h
  case h_2 => cases h
  rename_i e he
  cases hi : Try.prog.info? e with
  | none => rw [hi] at h; cases h
  | some ie => rw [hi] at h; exact ⟨e, ie, he, hi, Option.some.inj h⟩
theorem clip3 (r ver n : Nat) (i : Nat) (hi : i < n) : ∃ v, aSlice Try.prog 22 (.slice (some r) 0 n ver 1 false) (some (.int .i64 (i : Int))) (some (.int .i64 ((i : Int) + 1))) (some (.int .i64 (n : Int))) = some v := by
  obtain ⟨e, ie, h1, h2, h3⟩ := un22
  have hb : aBounds n (some (.int .i64 (i : Int))) (some (.int .i64 ((i : Int) + 1))) (some (.int .i64 (n : Int))) = some (i, i + 1, n) := by
    simp [aBounds, aBound, show (0 : Int) ≤ (i : Int) + 1 by omega, show (i : Int) + 1 ≤ (n : Int) by omega, show ((i : Int) + 1).toNat = i + 1 by omega]
  simp only [aSlice, h1, h2, h3, if_true, hb, Option.map_some]
  exact ⟨_, rfl⟩
theorem more (H : AH) (r ver n s : Nat) (cells : List AV) (hr : H[r]? = some (.row cells ver s false)) (hn : 0 < n) (hc : n ≤ cells.length) :
    aSlice Try.prog 22 (.slice (some r) 0 (n - 1) ver 1 false) (some (.int .i64 ((n - 1 : Nat) : Int))) (some (.int .i64 (n : Int))) none = none ∧
    sliceR Try.prog 22 H (.slice (some r) 0 (n - 1) ver 1 false) (some (.int .i64 ((n - 1 : Nat) : Int))) (some (.int .i64 (n : Int))) none = some (.slice (some r) (n - 1) 1 ver 1 false) := by
  obtain ⟨e, ie, h1, h2, h3⟩ := un22
  have hb : aBounds (n - 1) (some (.int .i64 ((n - 1 : Nat) : Int))) (some (.int .i64 (n : Int))) none = none := by
    have : ¬ ((n : Int) ≤ ((n - 1 : Nat) : Int)) := by omega
    simp [aBounds, aBound]
    omega
  have hb2 : aBounds ((cells.length - 0) / 1) (some (.int .i64 ((n - 1 : Nat) : Int))) (some (.int .i64 (n : Int))) none = some (n - 1, n, (cells.length - 0) / 1) := by
    have h4 : (n : Int) ≤ (cells.length : Int) := by omega
    have h5 : ((n - 1 : Nat) : Int) ≤ (n : Int) := by omega
    simp only [aBounds, aBound, Nat.sub_zero, Nat.div_one, Option.bind_some]
    rw [if_pos ⟨by omega, h4⟩, Option.bind_some, if_pos ⟨by omega, by rw [Int.toNat_natCast]; exact h5⟩, Option.bind_some, Int.toNat_natCast, Int.toNat_natCast]
  constructor
  · simp only [aSlice, h1, h2, h3, if_true, hb, Option.map_none]
  · simp only [sliceR, h1, h2, h3, hr]
    rw [if_pos ⟨trivial, trivial, by omega, rfl, trivial⟩, hb2]
    simp
    omega
set_option maxRecDepth 100000 in
theorem Delete_ac (r ver stale : Nat) (tl : List AV) (l : List Int) (i : Nat) (H : AH) (Q : AV → AH → Prop) (hi : i < l.length) (hl : l.length ≤ 1000000) (hr : H[r]? = some (.row (l.map (.int .i64) ++ tl) ver stale false)) (hone : ∀ x ∈ l.map (.int .i64) ++ tl, x.one = true)
    (h : ∀ H' s' tl', H'[r]? = some (.row ((l.eraseIdx i).map (.int .i64) ++ tl') ver s' false) → (∀ x ∈ (l.eraseIdx i).map (.int .i64) ++ tl', x.one = true) → H'.length = H.length → (∀ j, j ≠ r → H'[j]? = H[j]?) → Q (.slice (some r) 0 (l.length - 1) ver 1 false) H') :
    AC Try.prog 52 [.slice (some r) 0 l.length ver 1 false, .int .i64 i, .int .i64 ((i : Int) + 1)] H Q := by
  obtain ⟨u, hu⟩ := clip3 r ver l.length i hi
  refine L_body 33 Try.func52 rfl rfl ?_
  refine L_reg [0, 1, 2] (fun K hK => ?_)
  simp
  apply hK; clear hK K
  refine L_reg [0, 1, 2] (fun K hK => ?_)
  simp [hu]
  apply hK; clear hK K
  refine L_reg [0, 1, 2, 16] (fun K hK => ?_)
  simp
  apply hK; clear hK K
  refine L_dec ((i : Int) = (i : Int) + 1) (by simp; rfl) (fun he => by omega) (fun he => ?_)
  refine L_reg [0, 1, 2, 7] (fun K hK => ?_)
  simp
  apply hK; clear hK K
  have hil : i < (l.map (AV.int .i64)).length := by simpa using hi
  obtain ⟨s', happ⟩ := del_append (H := H) (t := 22) el22 hr hone hil (by simp; omega) false
  simp only [List.length_map] at happ
  refine L_regT mixed [0, 7] (by kernel_rfl) (fun K hK => ?_)
  have e1 : aSlice Try.prog 22 (.slice (some r) 0 l.length ver 1 false) none (some (.int .i64 (i : Int))) none = some (.slice (some r) 0 i ver 1 false) := by
    have := slice_hi slz22 (some r) 0 l.length ver false (k := .i64) (i := i) (by omega)
    simpa using this
  have e2 : aSlice Try.prog 22 (.slice (some r) 0 l.length ver 1 false) (some (.int .i64 ((i : Int) + 1))) none none = some (.slice (some r) (i + 1) (l.length - (i + 1)) ver 1 false) := by
    have := slice_lo slz22 (some r) 0 l.length ver false (k := .i64) (i := i + 1) (by omega)
    simpa using this
  simp [happ, e1, e2]
  apply hK; clear hK K
  have hrl : r < H.length := (List.getElem?_eq_some_iff.1 hr).1
  obtain ⟨H1, hH1⟩ : ∃ H1, H1 = H.set r (AObj.row ((l.map (AV.int .i64)).eraseIdx i ++ ((l.map (AV.int .i64)).drop (l.length - 1) ++ tl)) ver s' false) := ⟨_, rfl⟩
  have hr1 : H1[r]? = some (AObj.row ((l.map (AV.int .i64)).eraseIdx i ++ ((l.map (AV.int .i64)).drop (l.length - 1) ++ tl)) ver s' false) := by
    rw [hH1, List.getElem?_set]; simp [hrl]
  have hX1 : H1.length = H.length ∧ ∀ j, j ≠ r → H1[j]? = H[j]? := by
    rw [hH1]
    exact ⟨by simp, fun j hj => by rw [List.getElem?_set]; simp [Ne.symm hj]⟩
  obtain ⟨x, hx⟩ : ∃ x, (l.map (AV.int .i64)).drop (l.length - 1) = [x] := by
    have : ((l.map (AV.int .i64)).drop (l.length - 1)).length = 1 := by simp; omega
    exact List.length_eq_one_iff.1 this
  have hxo : x.one = true := hone x (List.mem_append_left _ (List.mem_of_mem_drop (i := l.length - 1) (by rw [hx]; simp)))
  rw [hx, List.singleton_append] at hr1
  rw [← hH1]
  clear happ hH1
  have hel : ((l.map (AV.int .i64)).eraseIdx i).length = l.length - 1 := by rw [List.length_eraseIdx]; simp [hi]
  obtain ⟨e3, e4⟩ := more H1 r ver l.length s' _ hr1 (by omega) (by simp [hel]; omega)
  have e5 := del_clear elz22 hr1 hxo rfl hel false
  refine L_reg [0] (fun K hK => ?_)
  simp [e3, e4, e5]
  apply hK; clear hK K
  refine L_reg [6] (fun K hK => ?_)
  simp
  apply hK; clear hK K
  refine L_ret ⟨.inr rfl, _, rfl, ?_⟩
  have e6 : (l.map (AV.int .i64)).eraseIdx i = (l.eraseIdx i).map (.int .i64) := by rw [List.eraseIdx_eq_take_drop_succ, List.eraseIdx_eq_take_drop_succ, List.map_append, List.map_take, List.map_drop]
  refine h _ (min s' (l.length - 1)) (.int .i64 0 :: tl) ?_ ?_ (by simp [hX1.1]) fun j hj => by rw [List.getElem?_set, ← hX1.2 j hj]; simp [Ne.symm hj]
  · rw [← e6, List.getElem?_set]
    simp [(List.getElem?_eq_some_iff.1 hr1).1]
  · intro y hy
    rcases List.mem_append.1 hy with hy | hy
    · obtain ⟨z, -, rfl⟩ := List.mem_map.1 hy; rfl
    · rcases List.mem_cons.1 hy with rfl | hy
      · rfl
      · exact hone y (List.mem_append_right _ hy)


theorem src_ls {P : Program} {H : AH} {u : TypeId} {x : AV} {m : List Int} (hu : elT P u = true) (hx : Ls H x m) : aSrc P H u 1 x = some (m.length, m.map (.int .i64)) := by
  obtain ⟨e', I', g1, -⟩ := elT_some hu
  obtain ⟨r, off, ver, sz, full, rfl, hld⟩ := hx
  unfold aSrc
  rw [g1]
  cases m with
  | nil => cases r <;> simp
  | cons y m =>
    obtain ⟨r', rfl, rfl, -⟩ := hld 0 (by simp)
    have h1 : ldn H r' ver (y :: m).length off = some ((y :: m).map (.int .i64)) := ldn_ints fun i hi => by
      obtain ⟨r2, h2, -, h3⟩ := hld i hi
      obtain rfl := Option.some.inj h2
      exact h3
    simp only [Nat.mul_one, h1]
    simp
theorem row0 {P : Program} {H : AH} {t : TypeId} (ht : elT P t = true) : rowV P t 0 [] H = some (some (.slice (some H.length) 0 0 0 1 false), H ++ [.row [] 0 0 false]) := by
  obtain ⟨e, I, h1, h2, h3, h4, hzz⟩ := elT_some ht
  simp [rowV, h1, h2, h3, aFill]
@[simp] theorem row22_0 (H : AH) : rowV Try.prog 22 0 [] H = some (some (.slice (some H.length) 0 0 0 1 false), H ++ [.row [] 0 0 false]) := row0 el22
theorem ownF_appendL {P : Program} {H H0 : AH} (hE : Ext H0 H) {t u : TypeId} (ht : elT P t = true) (hu : elT P u = true) {v x : AV} {l m : List Int} (ho : OwnF H0.length H v (l.map (.int .i64))) (hx : Ls H x m) (hlen : l.length + m.length ≤ 16777216) :
    ∃ v' H', aAppend P H t u v x = some (v', H') ∧ OwnF H0.length H' v' ((l ++ m).map (.int .i64)) ∧ Ext H0 H' := by
  obtain ⟨e, I, h1, h2, h3, h4, -⟩ := elT_some ht
  have hsrc := src_ls hu hx
  have hall := all_ints m
  have hle := hE.1
  unfold aAppend
  cases m with
  | nil =>
    simp only [List.length_nil, List.map_nil] at hsrc
    refine ⟨v, H, ?_, by simpa using ho, hE⟩
    rcases ho with ⟨-, rfl⟩ | ⟨r, ver, stale, hr0, rfl, hr⟩ <;> simp [h1, h2, h3, h4, hsrc]
  | cons y m =>
    have hml : ((y :: m).map (AV.int .i64)).length = (y :: m).length := by simp
    rw [List.map_append]
    generalize (y :: m).map (AV.int .i64) = vs at *
    have hne : (y :: m).length ≠ 0 := by simp
    generalize (y :: m).length = k at *
    rcases ho with ⟨h0, rfl⟩ | ⟨r, ver, stale, hr0, rfl, hr⟩
    · have : l = [] := by simpa using h0
      subst this
      have hk : k ≤ 16777216 := by simpa using hlen
      refine ⟨.slice (some H.length) 0 k 0 1 false, H ++ [.row vs 0 0 false], ?_, .inr ⟨H.length, 0, 0, by omega, by simp [hml], by simp⟩, hE.trans (.push _ _)⟩
      simp only [h1, h2, h3, h4, hsrc]
      simp [hml, hne, hk]
      exact fun x hx => List.all_eq_true.1 hall x hx
    · have hlt : r < H.length := (List.getElem?_eq_some_iff.1 hr).1
      have hll : (l.map (AV.int .i64)).length = l.length := by simp
      generalize hL : l.map (AV.int .i64) = L at *
      refine ⟨.slice (some r) 0 (l.length + k) (ver + 1) 1 false, H.set r (AObj.row (L ++ vs) (ver + 1) (min stale l.length) false), ?_, .inr ⟨r, ver + 1, min stale l.length, hr0, by simp [hll, hml], get_set hr⟩, hE.set _ hr0⟩
      have hin : inPlace H r 0 l.length k ver 1 vs = none := by simp [inPlace, hr, hll]; omega
      have hgr : grow H r 0 l.length ver vs = some (H.set r (AObj.row (L ++ vs) (ver + 1) (min stale l.length) false), ver + 1) := by
        simp [grow, hr, ← hll]
      simp only [h1, h2, h3, h4, hsrc, hll]
      simp only [Nat.zero_lt_one, true_and, if_true, Option.bind_some, hall, hml, Nat.mul_one, beq_self_eq_true, Bool.and_true, hne, if_false, hlen, Bool.false_eq_true, hin, hgr, Option.map_some]
theorem ls_own0 {H : AH} : Ls (H ++ [.row [] 0 0 false]) (.slice (some H.length) 0 0 0 1 false) [] := ⟨some H.length, 0, 0, 1, false, rfl, fun i hi => by simp at hi⟩
theorem mx_take {l : List Int} {i : Nat} {a : Int} (hi : i < l.length) : (l.take (i + 1)).foldl max a = max ((l.take i).foldl max a) (g l i) := by
  rw [List.take_add_one, List.getElem?_eq_getElem hi, Option.toList_some, List.foldl_append, g_lt hi]
  rfl
theorem Max_ac (v : AV) (l : List Int) (H : AH) (Q : AV → AH → Prop) (h1 : 1 ≤ l.length) (hlen : l.length ≤ 1000000) (hv : Ls H v l) (h : Q (.int .i64 (l.foldl max (g l 0))) H) : AC Try.prog 56 [v] H Q := by
  have hl := ls_len hv
  refine L_body 25 Try.func56 rfl rfl ?_
  refine L_reg [0] (fun K hK => ?_)
  simp
  apply hK; clear hK K
  refine L_reg [0, 7] (fun K hK => ?_)
  simp [hl]
  apply hK; clear hK K
  refine L_false (by simp; omega) ?_
  obtain ⟨rz, pz, vz, hix, hld⟩ := ls_ix hv (i := 0) (by omega)
  rw [← g_lt (by omega)] at hld
  have hix0 : ∀ k, aIndexAddr Try.prog 22 v (.int k 0) = some (.ptr rz pz vz) := hix
  refine L_reg [0, 3] (fun K hK => ?_)
  simp [hix0, hld]
  apply hK; clear hK K
  refine L_reg [0, 3, 4] (fun K hK => ?_)
  simp
  apply hK; clear hK K
  have hst : (l.take 1).foldl max (g l 0) = g l 0 := by
    have := mx_take (a := g l 0) (i := 0) (l := l) (by omega)
    rw [this]; simp
  refine L_block (L_loopV [3, 4] (fun n vs H' => ∃ i : Nat, n = l.length - i ∧ 1 ≤ i ∧ i ≤ l.length ∧ vs = [.int .i64 ((l.take i).foldl max (g l 0)), .int .i64 i] ∧ H = H') _ [.int .i64 (g l 0), .int .i64 1] rfl ⟨1, rfl, by omega, by omega, by rw [hst]; rfl, rfl⟩ ?_)
  rintro n _ _ ⟨i, rfl, hi1, hi, rfl, rfl⟩
  refine L_reg [0, 3, 4, 15] (fun K hK => ?_)
  simp [hl]
  apply hK; clear hK K
  refine L_dec (i < l.length) (by simp) (fun hlt => ?_) (fun hge => L_exit ?_)
  · refine L_block ?_
    obtain ⟨ry, py, vy, hiy, hldy⟩ := ls_ix hv hlt
    rw [← g_lt hlt] at hldy
    refine L_reg [0, 3, 4] (fun K hK => ?_)
    simp [hiy, hldy]
    apply hK; clear hK K
    refine L_reg [0, 3, 4] (fun K hK => ?_)
    simp [wrap_i64 (a := (i : Int) + 1) (by omega)]
    apply hK; clear hK K
    exact ⟨l.length - (i + 1), [.int .i64 ((l.take (i + 1)).foldl max (g l 0)), .int .i64 (i + 1 : Nat)], by omega, by simp [mx_take hlt], i + 1, rfl, by omega, by omega, rfl, rfl⟩
  · rw [List.take_of_length_le (by omega)]
    refine L_reg [2] (fun K hK => ?_)
    simp
    apply hK; clear hK K
    exact L_ret ⟨.inr rfl, _, rfl, h⟩
end Go.Proofs.Ytbimapbcpmeooaa.Cl
