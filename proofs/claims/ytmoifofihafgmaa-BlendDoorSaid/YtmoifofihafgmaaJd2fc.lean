/- Joined texts: Chosen, Mix, Metric, Metric2, Ways3, Walked1, MoreM, Held, Blends, NamedM, NamedF, FoundM, DoorM, DoorW, Door. -/
import Derived.Test.YtmoifofihafgmaaJd2fa
import Derived.Test.YtmoifofihafgmaaJd2fb
import Derived.Test.YtmoifofihafgmaaAxR
/- A blend by numbers. -/
namespace Go.Proofs.Ytmoifofihafgmaa
open Go Go.Proofs.Ytmoifofihafgmaa.AX

theorem un22 : ∃ e ie, Try.prog.underlying 22 = some (.slice e) ∧ Try.prog.info? e = some ie ∧ ie.size = 1 := by
  have h := slz22
  unfold slSz at h
  split at h
  case h_2 => cases h
  rename_i e he
  cases hi : Try.prog.info? e with
  | none => rw [hi] at h; cases h
  | some ie => rw [hi] at h; exact ⟨e, ie, he, hi, Option.some.inj h⟩
theorem clip3 (r ver n : Nat) (i : Nat) (hi : i < n) : ∃ v, aSlice Try.prog 22 (.slice (some r) 0 n ver 1 false) (some (.int .i64 (i : Int))) (some (.int .i64 ((i : Int) + 1))) (some (.int .i64 (n : Int))) = some v := by
  obtain ⟨e, ie, h1, h2, h3⟩ := un22
  have hb : aBounds n (some (.int .i64 (i : Int))) (some (.int .i64 ((i : Int) + 1))) (some (.int .i64 (n : Int))) = some (i, i + 1, n) := by
    simp [aBounds, aBound, show (0 : Int) ≤ (i : Int) + 1 by omega, show (i : Int) + 1 ≤ (n : Int) by omega, show ((i : Int) + 1).toNat = i + 1 by omega]
  simp only [aSlice, h1, h2, h3, if_true, hb, Option.map_some]
  exact ⟨_, rfl⟩
theorem more (H : AH) (r ver n s : Nat) (cells : List AV) (hr : H[r]? = some (.row cells ver s false)) (hn : 0 < n) (hc : n ≤ cells.length) :
    aSlice Try.prog 22 (.slice (some r) 0 (n - 1) ver 1 false) (some (.int .i64 ((n - 1 : Nat) : Int))) (some (.int .i64 (n : Int))) none = none ∧
    sliceR Try.prog 22 H (.slice (some r) 0 (n - 1) ver 1 false) (some (.int .i64 ((n - 1 : Nat) : Int))) (some (.int .i64 (n : Int))) none = some (.slice (some r) (n - 1) 1 ver 1 false) := by
  obtain ⟨e, ie, h1, h2, h3⟩ := un22
  have hb : aBounds (n - 1) (some (.int .i64 ((n - 1 : Nat) : Int))) (some (.int .i64 (n : Int))) none = none := by
    have : ¬ ((n : Int) ≤ ((n - 1 : Nat) : Int)) := by omega
    simp [aBounds, aBound]
    omega
  have hb2 : aBounds ((cells.length - 0) / 1) (some (.int .i64 ((n - 1 : Nat) : Int))) (some (.int .i64 (n : Int))) none = some (n - 1, n, (cells.length - 0) / 1) := by
    have h4 : (n : Int) ≤ (cells.length : Int) := by omega
    have h5 : ((n - 1 : Nat) : Int) ≤ (n : Int) := by omega
    simp only [aBounds, aBound, Nat.sub_zero, Nat.div_one, Option.bind_some]
    rw [if_pos ⟨by omega, h4⟩, Option.bind_some, if_pos ⟨by omega, by rw [Int.toNat_natCast]; exact h5⟩, Option.bind_some, Int.toNat_natCast, Int.toNat_natCast]
  constructor
  · simp only [aSlice, h1, h2, h3, if_true, hb, Option.map_none]
  · simp only [sliceR, h1, h2, h3, hr]
    rw [if_pos ⟨trivial, trivial, by omega, rfl, trivial⟩, hb2]
    simp
    omega
set_option maxRecDepth 100000 in
theorem Delete_ac (r ver stale : Nat) (tl : List AV) (l : List Int) (i : Nat) (H : AH) (Q : AV → AH → Prop) (hi : i < l.length) (hl : l.length ≤ 1000000) (hr : H[r]? = some (.row (l.map (.int .i64) ++ tl) ver stale false)) (hone : ∀ x ∈ l.map (.int .i64) ++ tl, x.one = true)
    (h : ∀ H' s' tl', H'[r]? = some (.row ((l.eraseIdx i).map (.int .i64) ++ tl') ver s' false) → (∀ x ∈ (l.eraseIdx i).map (.int .i64) ++ tl', x.one = true) → H'.length = H.length → (∀ j, j ≠ r → H'[j]? = H[j]?) → Q (.slice (some r) 0 (l.length - 1) ver 1 false) H') :
    AC Try.prog 54 [.slice (some r) 0 l.length ver 1 false, .int .i64 i, .int .i64 ((i : Int) + 1)] H Q := by
  obtain ⟨u, hu⟩ := clip3 r ver l.length i hi
  refine L_body 33 Try.func54 rfl rfl ?_
  refine L_reg [0, 1, 2] (fun K hK => ?_)
  simp
  apply hK; clear hK K
  refine L_reg [0, 1, 2] (fun K hK => ?_)
  simp [hu]
  apply hK; clear hK K
  refine L_reg [0, 1, 2, 16] (fun K hK => ?_)
  simp
  apply hK; clear hK K
  refine L_dec ((i : Int) = (i : Int) + 1) (by simp; rfl) (fun he => by omega) (fun he => ?_)
  refine L_reg [0, 1, 2, 7] (fun K hK => ?_)
  simp
  apply hK; clear hK K
  have hil : i < (l.map (AV.int .i64)).length := by simpa using hi
  obtain ⟨s', happ⟩ := del_append (H := H) (t := 22) el22 hr hone hil (by simp; omega) false
  simp only [List.length_map] at happ
  refine L_regT mixed [0, 7] (by kernel_rfl) (fun K hK => ?_)
  have e1 : aSlice Try.prog 22 (.slice (some r) 0 l.length ver 1 false) none (some (.int .i64 (i : Int))) none = some (.slice (some r) 0 i ver 1 false) := by
    have := slice_hi slz22 (some r) 0 l.length ver false (k := .i64) (i := i) (by omega)
    simpa using this
  have e2 : aSlice Try.prog 22 (.slice (some r) 0 l.length ver 1 false) (some (.int .i64 ((i : Int) + 1))) none none = some (.slice (some r) (i + 1) (l.length - (i + 1)) ver 1 false) := by
    have := slice_lo slz22 (some r) 0 l.length ver false (k := .i64) (i := i + 1) (by omega)
    simpa using this
  simp [happ, e1, e2]
  apply hK; clear hK K
  have hrl : r < H.length := (List.getElem?_eq_some_iff.1 hr).1
  obtain ⟨H1, hH1⟩ : ∃ H1, H1 = H.set r (AObj.row ((l.map (AV.int .i64)).eraseIdx i ++ ((l.map (AV.int .i64)).drop (l.length - 1) ++ tl)) ver s' false) := ⟨_, rfl⟩
  have hr1 : H1[r]? = some (AObj.row ((l.map (AV.int .i64)).eraseIdx i ++ ((l.map (AV.int .i64)).drop (l.length - 1) ++ tl)) ver s' false) := by
    rw [hH1, List.getElem?_set]; simp [hrl]
  have hX1 : H1.length = H.length ∧ ∀ j, j ≠ r → H1[j]? = H[j]? := by
    rw [hH1]
    exact ⟨by simp, fun j hj => by rw [List.getElem?_set]; simp [Ne.symm hj]⟩
  obtain ⟨x, hx⟩ : ∃ x, (l.map (AV.int .i64)).drop (l.length - 1) = [x] := by
    have : ((l.map (AV.int .i64)).drop (l.length - 1)).length = 1 := by simp; omega
    exact List.length_eq_one_iff.1 this
  have hxo : x.one = true := hone x (List.mem_append_left _ (List.mem_of_mem_drop (i := l.length - 1) (by rw [hx]; simp)))
  rw [hx, List.singleton_append] at hr1
  rw [← hH1]
  clear happ hH1
  have hel : ((l.map (AV.int .i64)).eraseIdx i).length = l.length - 1 := by rw [List.length_eraseIdx]; simp [hi]
  obtain ⟨e3, e4⟩ := more H1 r ver l.length s' _ hr1 (by omega) (by simp [hel]; omega)
  have e5 := del_clear elz22 hr1 hxo rfl hel false
  refine L_reg [0] (fun K hK => ?_)
  simp [e3, e4, e5]
  apply hK; clear hK K
  refine L_reg [6] (fun K hK => ?_)
  simp
  apply hK; clear hK K
  refine L_ret ⟨.inr rfl, _, rfl, ?_⟩
  have e6 : (l.map (AV.int .i64)).eraseIdx i = (l.eraseIdx i).map (.int .i64) := by rw [List.eraseIdx_eq_take_drop_succ, List.eraseIdx_eq_take_drop_succ, List.map_append, List.map_take, List.map_drop]
  refine h _ (min s' (l.length - 1)) (.int .i64 0 :: tl) ?_ ?_ (by simp [hX1.1]) fun j hj => by rw [List.getElem?_set, ← hX1.2 j hj]; simp [Ne.symm hj]
  · rw [← e6, List.getElem?_set]
    simp [(List.getElem?_eq_some_iff.1 hr1).1]
  · intro y hy
    rcases List.mem_append.1 hy with hy | hy
    · obtain ⟨z, -, rfl⟩ := List.mem_map.1 hy; rfl
    · rcases List.mem_cons.1 hy with rfl | hy
      · rfl
      · exact hone y (List.mem_append_right _ hy)

theorem ag65 : aggSz Try.prog 65 = some 10 := by kernel_rfl
@[simp] theorem ld65 (H : AH) (r off ver : Nat) : loadV Try.prog 65 H (.ptr r off ver) = (ldn H r ver 10 off).map .agg := load_agg ag65 ..
@[simp] theorem ixa65 (r off ver : Nat) (k : IntKind) (i : Int) : aIndexAddr Try.prog 65 (.ptr r off ver) (.int k i) = if 0 ≤ i ∧ i < (10 : Nat) then some (.ptr r (off + i.toNat * 1) ver) else none := ixa_ar (by kernel_rfl) ..
@[simp] theorem cv53 (k : IntKind) (n : Int) : aConv Try.prog 5 3 (.int k n) = some (.int .i64 (IntKind.i64.wrap n)) := cv_int (by kernel_rfl) (by kernel_rfl) n
theorem rem_nat (a b : Nat) : ((a : Int)).tmod (b : Int) = ((a % b : Nat) : Int) := by
  rw [Int.tmod_eq_emod_of_nonneg (Int.natCast_nonneg _)]; simp
theorem ownF_ext {N : Nat} {H H1 : AH} {v : AV} {l : List AV} (h : OwnF N H v l) (hE : ∀ j, N ≤ j → ∀ o, H[j]? = some o → H1[j]? = some o) : OwnF N H1 v l := by
  rcases h with h | ⟨r, ver, stale, h1, h2, h3⟩
  · exact .inl h
  · exact .inr ⟨r, ver, stale, h1, h2, hE r h1 _ h3⟩
theorem ext_take (H : AH) (N : Nat) (hN : N ≤ H.length) : ∃ H0 : AH, H0.length = N ∧ Ext H0 H :=
  ⟨H.take N, by simp [hN], by simp; omega, fun j hj => by rw [List.getElem?_take, if_pos (by simp at hj; omega)]⟩
def u8s (ns : List Nat) : List AV := ns.map fun n : Nat => .int .u8 (n : Int)
def dealS : List Int → List Nat → List Int
  | _, [] => []
  | left, k :: ks => left[k % left.length]?.getD 0 :: dealS (left.eraseIdx (k % left.length)) ks

theorem dealS_len : ∀ {left : List Int} {ks : List Nat}, (dealS left ks).length = ks.length
  | _, [] => rfl
  | _, _ :: ks => by simp [dealS, dealS_len]
theorem eraseIdx_nodup {l : List Int} (h : l.Pairwise (· ≠ ·)) {d : Nat} (hd : d < l.length) : (l.eraseIdx d).Pairwise (· ≠ ·) ∧ l[d] ∉ l.eraseIdx d := by
  have e : l = l.take d ++ l[d] :: l.drop (d + 1) := by rw [← List.drop_eq_getElem_cons hd, List.take_append_drop]
  rw [List.eraseIdx_eq_take_drop_succ]
  generalize l[d] = x at *
  generalize l.take d = A at *
  generalize l.drop (d + 1) = B at *
  rw [e] at h
  obtain ⟨h1, h2, h3⟩ := List.pairwise_append.1 h
  obtain ⟨h4, h5⟩ := List.pairwise_cons.1 h2
  refine ⟨List.pairwise_append.2 ⟨h1, h5, fun a ha b hb => h3 a ha b (List.mem_cons_of_mem _ hb)⟩, ?_⟩
  intro hx
  rcases List.mem_append.1 hx with hx | hx
  · exact h3 x hx x List.mem_cons_self rfl
  · exact h4 x hx rfl
theorem dealS_ok : ∀ {left : List Int} {ks : List Nat}, left.Pairwise (· ≠ ·) → ks.length ≤ left.length → (dealS left ks).Pairwise (· ≠ ·) ∧ ∀ x ∈ dealS left ks, x ∈ left
  | left, [], _, _ => ⟨.nil, by simp [dealS]⟩
  | left, k :: ks, h, hl => by
    simp only [List.length_cons] at hl
    have hd : k % left.length < left.length := Nat.mod_lt _ (by omega)
    simp only [dealS]
    generalize k % left.length = d at hd
    obtain ⟨h1, h2⟩ := eraseIdx_nodup h hd
    have hel : (left.eraseIdx d).length = left.length - 1 := by rw [List.length_eraseIdx, if_pos hd]
    obtain ⟨h3, h4⟩ := dealS_ok (ks := ks) h1 (by omega)
    rw [List.getElem?_eq_getElem hd, Option.getD_some]
    refine ⟨List.pairwise_cons.2 ⟨fun x hx e => h2 (by rw [e]; exact h4 x hx), h3⟩, fun x hx => ?_⟩
    rcases List.mem_cons.1 hx with rfl | hx
    · exact List.getElem_mem hd
    · exact List.mem_of_mem_eraseIdx (h4 x hx)
/-- The leaves that are chosen, in order. -/
def chosS (n k : Nat) (ns : List Nat) : List Int := (iota n).filter fun x => decide (x ∈ dealS (iota n) (ns.take k))
theorem iota_nd (n : Nat) : (iota n).Pairwise (· ≠ ·) := (okb_iota n).2.imp (by omega)
theorem chosS_perm {n k : Nat} {ns : List Nat} (hk : k ≤ n) : (chosS n k ns).Perm (dealS (iota n) (ns.take k)) := by
  obtain ⟨h1, h2⟩ := dealS_ok (ks := ns.take k) (iota_nd n) (by simp; omega)
  refine (List.perm_ext_iff_of_nodup ((iota_nd n).sublist List.filter_sublist) h1).2 fun x => ?_
  simp only [List.mem_filter, decide_eq_true_eq]
  exact ⟨fun h => h.2, fun h => ⟨h2 x h, h⟩⟩
theorem chosS_okb (n k : Nat) (ns : List Nat) : Okb n (chosS n k ns) := by
  obtain ⟨h1, h2⟩ := okb_iota n
  exact ⟨fun x hx => h1 x (List.mem_filter.1 hx).1, h2.sublist List.filter_sublist⟩
theorem chosS_len {n k : Nat} {ns : List Nat} (hk : k ≤ n) (hns : k ≤ ns.length) : (chosS n k ns).length = k := by
  rw [(chosS_perm hk).length_eq, dealS_len, List.length_take]; omega
theorem sort_chos {n k : Nat} {ns : List Nat} (hk : k ≤ n) {m : List Int} (hp : m.Perm (dealS (iota n) (ns.take k))) (hs : m.Pairwise (· ≤ ·)) : m = chosS n k ns := by
  have hp2 := hp.trans (chosS_perm hk).symm
  have hnd : m.Pairwise (· ≠ ·) := (hp2.pairwise_iff (fun h => Ne.symm h)).2 ((chosS_okb n k ns).2.imp (by omega))
  exact sorted_ext ((hs.and hnd).imp (fun h => by omega)) (chosS_okb n k ns).2 fun x => hp2.mem_iff
/-- The same, and nil where it is empty. -/
def OwnN (N : Nat) (H : AH) (v : AV) (l : List Int) : Prop := (l = [] → v = .slice none 0 0 0 1 false) ∧ OwnF N H v (l.map (.int .i64))
def chV (H : AH) (l : List Int) : AV := if l = [] then .slice none 0 0 0 1 false else .slice (some H.length) 0 l.length 0 1 false
def chH (H : AH) (l : List Int) : AH := if l = [] then H else H ++ [.row (l.map (.int .i64)) 0 l.length false]
theorem chE (H : AH) (l : List Int) : Ext H (chH H l) := by
  unfold chH; split
  · exact .refl H
  · exact .push _ _
theorem chL (H : AH) (l : List Int) : Ls (chH H l) (chV H l) l := by
  unfold chH chV; split
  · rename_i h; subst h; exact ⟨none, 0, 0, 1, false, rfl, fun i hi => by simp at hi⟩
  · exact Ls.row (s := l.length) (ro := false) (by simp) false
theorem AC.tidyN {f : FuncId} {args : List AV} {l : List Int} {H : AH} (h : ∀ Q : AV → AH → Prop, (∀ v' H', OwnN H.length H' v' l → Ext H H' → Q v' H') → AC Try.prog f args H Q) (Q : AV → AH → Prop) (hq : Q (chV H l) (chH H l)) : AC Try.prog f args H Q := by
  by_cases hl : l = []
  · subst hl
    refine AC.quiet (v := .slice none 0 0 0 1 false) rfl (fun Q h2 => h Q fun v' H' hO hE => ?_) Q (by simpa [chV, chH] using hq)
    rw [hO.1 rfl]; exact h2 H' hE
  · refine AC.tidy (l := l.map (.int .i64)) (by simpa using hl) (belB_ints _ _) (fun Q h2 => h Q fun v' H' hO hE => h2 v' H' hO.2 hE) Q ?_
    simpa [chV, chH, hl] using hq
theorem sort_nil : callN (runZ cx 300) 56 [.slice none 0 0 0 1 false] [] = some (.tuple [], []) := by kernel_rfl
set_option maxRecDepth 100000 in
theorem chosen_ac (n kk : Nat) (ns : List Nat) (H : AH) (Q : AV → AH → Prop) (hn : 1 ≤ n ∧ n ≤ 10) (hkk : kk ≤ n) (hns : ns.length = 10) (hb : ∀ x ∈ ns, x < 256)
    (h : ∀ v' H', OwnN H.length H' v' (chosS n kk ns) → Ext H H' → Q v' H') : AC Try.prog 47 [.agg (u8s ns), .int .i64 n, .int .i64 kk] H Q := by
  refine L_body 48 Try.func47 rfl rfl ?_
  refine L_reg [1, 2, 3] (fun K hK => ?_)
  simp [AV.isU, acells]
  apply hK; clear hK K
  have hE1 : Ext H (H ++ [AObj.row (u8s ns) 0 0 false]) := .push _ _
  have hb1 : (H ++ [AObj.row (u8s ns) 0 0 false])[H.length]? = some (.row (u8s ns) 0 0 false) := by simp
  have hbl : H.length < (H ++ [AObj.row (u8s ns) 0 0 false]).length := by simp
  generalize H ++ [AObj.row (u8s ns) 0 0 false] = H1 at hE1 hb1 hbl ⊢
  generalize hb0 : H.length = b at hb1 hbl h ⊢
  refine L_reg [1, 2, 3, 7, 8] (fun K hK => ?_)
  simp
  apply hK; clear hK K
  refine L_reg [2, 3, 7, 8, 12, 13] (fun K hK => ?_)
  simp
  apply hK; clear hK K
  refine L_block (L_loopV [7, 13] (fun k vs H' => ∃ (i : Nat) (u : AV), k = n - i ∧ i ≤ n ∧ vs = [u, .int .i64 i] ∧ Ext H1 H' ∧ OwnF H1.length H' u ((iota i).map (.int .i64))) _ [.slice none 0 0 0 1 false, .int .i64 (0 : Nat)] rfl
    ⟨0, _, rfl, by omega, rfl, .refl _, OwnF.nil _ _⟩ ?_)
  rintro k _ H2 ⟨i, u, rfl, hi, rfl, hE2, hO⟩
  refine L_reg [2, 3, 7, 8, 12, 13, 14] (fun K hK => ?_)
  simp
  apply hK; clear hK K
  refine L_dec (i < n) (by simp) (fun hlt => ?_) (fun hge => L_exit ?_)
  · refine L_block ?_
    refine L_reg [2, 3, 7, 8, 9, 12, 13] (fun K hK => ?_)
    simp
    apply hK; clear hK K
    obtain ⟨u', H3, happ, hO3, hE3⟩ := ownF_append (P := Try.prog) hE2 el22 el22 (x := .int .i64 i) (m := 1) hO rfl (by simp; omega)
    refine L_reg [2, 3, 7, 8, 12, 13] (fun K hK => ?_)
    simp [happ]
    apply hK; clear hK K
    refine L_reg [2, 3, 7, 8, 12, 13] (fun K hK => ?_)
    simp [wrap_i64 (a := (i : Int) + 1) (by omega)]
    apply hK; clear hK K
    refine ⟨n - (i + 1), [u', .int .i64 (i + 1 : Nat)], by omega, by simp, i + 1, u', rfl, by omega, rfl, hE3, ?_⟩
    rw [iota_succ]
    simpa using hO3
  · have : i = n := by omega
    subst this
    obtain ⟨r, ver, s, hr1, rfl, hr2⟩ : ∃ r ver s, H1.length ≤ r ∧ u = .slice (some r) 0 i ver 1 false ∧ H2[r]? = some (.row ((iota i).map (.int .i64)) ver s false) := by
      rcases hO with ⟨h0, -⟩ | ⟨r, ver, s, g1, g2, g3⟩
      · have := congrArg List.length h0
        simp at this; omega
      · exact ⟨r, ver, s, g1, by simpa using g2, g3⟩
    have hrl : r < H2.length := (List.getElem?_eq_some_iff.1 hr2).1
    refine L_reg [3, 7, 8, 21, 22] (fun K hK => ?_)
    simp
    apply hK; clear hK K
    refine L_block (L_loopV [7, 8, 22] (fun k vs H' => ∃ (j m : Nat) (o : AV) (left out : List Int) (s : Nat) (tl : List AV), k = kk - j ∧ j ≤ kk ∧ i = j + m ∧ vs = [.slice (some r) 0 m ver 1 false, o, .int .i64 j] ∧ left.length = m ∧ out.length = j ∧ out ++ dealS left ((ns.take kk).drop j) = dealS (iota i) (ns.take kk) ∧
        H'[r]? = some (.row (left.map (.int .i64) ++ tl) ver s false) ∧ (∀ x ∈ left.map (.int .i64) ++ tl, x.one = true) ∧ OwnF H2.length H' o (out.map (.int .i64)) ∧ Ext H1 H' ∧ H2.length ≤ H'.length ∧ (j = 0 → o = .slice none 0 0 0 1 false)) _ [.slice (some r) 0 i ver 1 false, .slice none 0 0 0 1 false, .int .i64 (0 : Nat)] rfl
      ⟨0, i, _, iota i, [], s, [], rfl, by omega, by omega, rfl, by simp, rfl, by simp, by simpa using hr2, by simp [iota, AV.one], OwnF.nil _ _, hE2, Nat.le_refl _, fun _ => rfl⟩ ?_)
    rintro _ _ H3 ⟨j, m, o, left, out, s3, tl, rfl, hjk, hjm, rfl, hll, hol, hD, hr3, hone, hO3, hE3, hN3, hoz⟩
    refine L_reg [3, 7, 8, 21, 22, 23] (fun K hK => ?_)
    simp
    apply hK; clear hK K
    refine L_dec (j < kk) (by simp) (fun hlt => ?_) (fun hge => L_exit ?_)
    · have hm0 : m ≠ 0 := by omega
      have hjn : j < ns.length := by omega
      have hbj := hb _ (List.getElem_mem hjn)
      have hld : ld H3 b j 0 = some (.int .u8 (ns[j] : Nat)) := by
        rw [ld_row (hE3.row hb1)]
        simp [u8s, hjn]
      have hdr : (ns.take kk).drop j = ns[j] :: (ns.take kk).drop (j + 1) := by
        rw [List.drop_eq_getElem_cons (by simp; omega)]; simp
      rw [hdr] at hD
      simp only [dealS, hll] at hD
      generalize ns[j] = x at hbj hld hD
      have hr := rem_nat x m
      have hdm : x % m < m := Nat.mod_lt _ (by omega)
      generalize x % m = d at hr hdm hD
      have hdl : d < left.length := by omega
      rw [List.getElem?_eq_getElem hdl, Option.getD_some] at hD
      have hld2 : ld H3 r d ver = some (.int .i64 left[d]) := by
        rw [ld_row hr3, List.getElem?_append_left (by simpa using hdl)]
        simp [hdl]
      generalize left[d] = y at hD hld2
      refine L_block ?_
      refine L_reg [3, 7, 8, 10, 21, 22] (fun K hK => ?_)
      simp
      apply hK; clear hK K
      refine L_reg [3, 7, 8, 11, 21, 22] (fun K hK => ?_)
      simp [show (j : Int) < 10 by omega, hld, wrap_i64 (a := (x : Int)) (by omega), hm0, hr]
      apply hK; clear hK K
      obtain ⟨H0, hH0, hT⟩ := ext_take H3 H2.length hN3
      rw [← hH0] at hO3
      obtain ⟨o', H4, happ, hO4, hE4⟩ := ownF_append (P := Try.prog) hT el22 el22 (x := .int .i64 y) (m := 1) hO3 rfl (by simp; omega)
      rw [hH0] at hO4
      have hk4 : ∀ j, j < H2.length → H4[j]? = H3[j]? := fun j hj => by rw [hE4.2 j (by omega), hT.2 j (by omega)]
      have hN4 : H2.length ≤ H4.length := by have := hE4.1; omega
      refine L_reg [3, 7, 8, 11, 21, 22] (fun K hK => ?_)
      simp [hdm, hld2, happ]
      apply hK; clear hK K
      rw [← hk4 r hrl] at hr3
      refine L_reg [3, 7, 8, 21, 22] (fun K hK => ?_)
      subst hll
      simp [wrap_i64 (a := (d : Int) + 1) (by omega), okFn_low]
      refine Delete_ac r ver s3 tl left d H4 _ hdl (by omega) hr3 hone (fun H5 s5 tl5 hr5 hone5 hl5 hk5 => ?_)
      simp
      apply hK; clear hK K
      have hH21 := hE2.1
      refine L_reg [3, 7, 8, 21, 22] (fun K hK => ?_)
      simp [wrap_i64 (a := (j : Int) + 1) (by omega)]
      apply hK; clear hK K
      refine ⟨kk - (j + 1), [.slice (some r) 0 (left.length - 1) ver 1 false, o', .int .i64 (j + 1 : Nat)], by omega, by simp, j + 1, left.length - 1, o', left.eraseIdx d, out ++ [y], s5, tl5, rfl, by omega, by omega, rfl, by rw [List.length_eraseIdx, if_pos hdl], by simp [hol], ?_, hr5, hone5, ?_, ?_, by omega, fun h => by omega⟩
      · rw [← hD]; simp
      · have := ownF_ext (H1 := H5) hO4 (fun q hq o ho => by rw [hk5 q (by omega)]; exact ho)
        simpa using this
      · refine ⟨by omega, fun q hq => ?_⟩
        rw [hk5 q (by omega), hk4 q (by omega), hE3.2 q hq]
    · obtain rfl : j = kk := by omega
      have hdr : (ns.take j).drop j = [] := by apply List.drop_eq_nil_of_le; simp; omega
      rw [hdr] at hD
      simp only [dealS, List.append_nil] at hD
      have hle2 := hE2.1
      have hE13 := hE1.trans hE3
      rcases hO3 with ⟨h0, rfl⟩ | ⟨q, vq, sq, q1, rfl, q3⟩
      · have h00 : out = [] := by simpa using h0
        have hc : chosS i j ns = [] := by
          have := chosS_len (ns := ns) hkk (by omega)
          have hj0 : j = 0 := by rw [← hol, h00]; rfl
          exact List.eq_nil_of_length_eq_zero (this.trans hj0)
        refine L_reg [8] (fun K hK => ?_)
        simp [okFn_low]
        refine AC_kernZ cx_ok 300 sort_nil (.cons (by exact Bel.nilslice ..) .nil) (.tuple .nil) ?_
        simp
        apply hK; clear hK K
        refine L_reg [6] (fun K hK => ?_)
        simp
        apply hK; clear hK K
        exact L_ret ⟨.inr rfl, _, rfl, h _ _ (by rw [hc]; exact ⟨fun _ => rfl, .nil _ _⟩) hE13⟩
      · have hsort := Sort_ac q vq sq out H3
        refine L_reg [8] (fun K hK => ?_)
        simp [okFn_low]
        refine hsort _ q3 (by omega) (fun H4 m' s4 p1 p2 p3 p4 => ?_)
        simp
        apply hK; clear hK K
        refine L_reg [6] (fun K hK => ?_)
        simp
        apply hK; clear hK K
        rw [hD] at p1
        have hm := sort_chos hkk p1 p2
        have hml : m'.length = out.length := by rw [p1.length_eq, ← hD]
        have hle13 := hE13.1
        have hj0 : j ≠ 0 := fun e => by have := hoz e; cases this
        refine L_ret ⟨.inr rfl, _, rfl, h _ _ ⟨fun e => absurd (by rw [← hol, ← hml, hm, e]; rfl) hj0, .inr ⟨q, vq, s4, by omega, by rw [← hm]; simp [hml], by rw [← hm]; exact p3⟩⟩ ⟨Nat.le_trans hE13.1 p4.1, fun j hj => ?_⟩⟩
        rw [p4.2 j (by omega) (by omega)]; exact hE13.2 j hj
theorem chosen_q (n kk : Nat) (ns : List Nat) (H : AH) (hn : 1 ≤ n ∧ n ≤ 10) (hkk : kk ≤ n) (hns : ns.length = 10) (hb : ∀ x ∈ ns, x < 256) (Q : AV → AH → Prop) (hq : Q (chV H (chosS n kk ns)) (chH H (chosS n kk ns))) : AC Try.prog 47 [.agg (u8s ns), .int .i64 n, .int .i64 kk] H Q :=
  AC.tidyN (fun Q h => chosen_ac n kk ns H Q hn hkk hns hb h) Q hq
end Go.Proofs.Ytmoifofihafgmaa

/- A recipe by numbers. -/
namespace Go.Proofs.Ytmoifofihafgmaa
open Go Go.Proofs.Ytmoifofihafgmaa.AX

@[simp] theorem ld61 (H : AH) (r off ver : Nat) : loadV Try.prog 61 H (.ptr r off ver) = ld H r off ver := ld_sc (by kernel_rfl) ..
@[simp] theorem fa720 (r off ver : Nat) : aFieldAddr Try.prog 72 (.ptr r off ver) 0 = some (.ptr r (off + 0) ver) := fld_ptr (by kernel_rfl) ..
@[simp] theorem fa721 (r off ver : Nat) : aFieldAddr Try.prog 72 (.ptr r off ver) 1 = some (.ptr r (off + 1) ver) := fld_ptr (by kernel_rfl) ..
@[simp] theorem fa722 (r off ver : Nat) : aFieldAddr Try.prog 72 (.ptr r off ver) 2 = some (.ptr r (off + 11) ver) := fld_ptr (by kernel_rfl) ..
@[simp] theorem fa723 (r off ver : Nat) : aFieldAddr Try.prog 72 (.ptr r off ver) 3 = some (.ptr r (off + 12) ver) := fld_ptr (by kernel_rfl) ..
@[simp] theorem len103 (r off len ver sz : Nat) : aLen Try.prog 103 (.part r off len ver sz) = some (.int .i64 len) := len_part (n := 1) (by kernel_rfl) ..
@[simp] theorem ixa103 (r off len ver : Nat) (k : IntKind) (i : Int) : aIndexAddr Try.prog 103 (.part r off len ver 1) (.int k i) = if 0 ≤ i ∧ i < len then some (.ptr r (off + i.toNat * 1) ver) else none := ixa_part (by kernel_rfl) ..
@[simp] theorem cv613 (k : IntKind) (n : Int) : aConv Try.prog 61 3 (.int k n) = some (.int .i64 (IntKind.i64.wrap n)) := cv_int (by kernel_rfl) (by kernel_rfl) n
theorem ar65 : arSz Try.prog 65 = some (10, 1) := by kernel_rfl
theorem zt43 : zeroT Try.prog 43 = some [.slice none 0 0 0 1 false, .int .i64 0, .int .i64 0] := by kernel_rfl
theorem known_ne {u : AV} (h : u ≠ .undef) : known (some u) = some u := by cases u <;> first | rfl | exact absurd rfl h
theorem take3 {u : AV} (h : u ≠ .undef) (a b : Int) : takeKnown 3 [u, .int .i64 a, .int .i64 b] = some [u, .int .i64 a, .int .i64 b] := by
  simpa using takeKnown_row (l := [u, .int .i64 a, .int .i64 b]) (by intro v hv; simp at hv; rcases hv with rfl | rfl | rfl; exact h; simp; simp) []
/-- A cell of a row is written. -/
theorem st_cell {t : TypeId} (sc : scal Try.prog t = true) {H : AH} {r off s : Nat} {c : List AV} {x y : AV} (hr : H[r]? = some (.row c 0 s false)) (hx : x.one = true) (hy : known c[off]? = some y) :
    ∃ H' s', storeV Try.prog t H (.ptr r off 0) x = some (none, H') ∧ H'[r]? = some (.row (c.set off x) 0 s' false) ∧ H'.length = H.length ∧ ∀ j, j ≠ r → H'[j]? = H[j]? :=
  ⟨_, _, store_row sc hx hr hy, get_set hr, by simp, fun j hj => by rw [set_ne (Ne.symm hj)]⟩
def mixV (lv : Nat) (ws : List Nat) (lo wd : Nat) : List AV := .int .u8 lv :: (u8s ws ++ [.int .u16 lo, .int .u8 wd])
theorem mixV_known {lv : Nat} {ws : List Nat} {lo wd : Nat} : ∀ v ∈ mixV lv ws lo wd, v ≠ .undef := by
  intro v hv
  simp only [mixV, u8s, List.mem_cons, List.mem_append, List.mem_map, List.not_mem_nil, or_false] at hv
  rcases hv with rfl | ⟨b, -, rfl⟩ | rfl | rfl <;> simp
def mixN (lv most : Nat) : Nat := 1 + lv % most
def mixW (lv : Nat) (ws : List Nat) (most : Nat) : List Int := (ws.take (mixN lv most)).map fun w => ((w % 51 : Nat) : Int)
def mixLo (lo : Nat) : Int := ((lo % 260 : Nat) : Int) - 5
def mixHi (lo wd : Nat) : Int := mixLo lo + ((wd % 60 : Nat) : Int)
theorem mixW_len {lv : Nat} {ws : List Nat} {most : Nat} (hm : 1 ≤ most) (h10 : most ≤ 10) (hl : ws.length = 10) : (mixW lv ws most).length = mixN lv most := by
  have := Nat.mod_lt lv (show 0 < most by omega)
  simp [mixW, mixN]; omega
theorem mixN_le {lv most : Nat} (hm : 1 ≤ most) : 1 ≤ mixN lv most ∧ mixN lv most ≤ most := by
  have := Nat.mod_lt lv (show 0 < most by omega)
  unfold mixN; omega
theorem mixW_ok {lv : Nat} {ws : List Nat} {most : Nat} : ∀ w ∈ mixW lv ws most, 0 ≤ w ∧ w ≤ 50 := by
  intro w hw
  obtain ⟨x, -, rfl⟩ := List.mem_map.1 hw
  omega
theorem rec_mix {lv : Nat} {ws : List Nat} {most : Nat} {lo hi : Int} (hm : 1 ≤ most) (h10 : most ≤ 10) (hl : ws.length = 10) (h : lo ≤ hi) : recE (mixW lv ws most) lo hi = 0 := by
  have h1 := mixW_len (lv := lv) hm h10 hl
  have h2 := mixN_le (lv := lv) hm
  unfold recE
  rw [if_neg (by omega), if_neg (by omega), if_neg, if_neg (by omega)]
  rw [List.any_eq_true]
  rintro ⟨w, hw, hb⟩
  have := mixW_ok w hw
  simp [badS] at hb; omega
set_option maxRecDepth 100000 in
theorem mix_ac (lv lo wd most : Nat) (ws : List Nat) (H : AH) (Q : AV → AH → Prop) (h1 : lv < 256) (h2 : lo < 65536) (h3 : wd < 256) (hl : ws.length = 10) (hb : ∀ w ∈ ws, w < 256) (hm : 1 ≤ most) (h10 : most ≤ 10)
    (h : ∀ v H', Ls H' v (mixW lv ws most) → Ext H H' → Q (.agg [v, .int .i64 (mixLo lo), .int .i64 (mixHi lo wd)]) H') : AC Try.prog 50 [.agg (mixV lv ws lo wd), .int .i64 most] H Q := by
  refine L_body 45 Try.func50 rfl rfl ?_
  obtain ⟨I, hI, hz⟩ := zeroT_some zt43
  refine L_reg [1, 2, 4] (fun K hK => ?_)
  simp [AV.isU, acells, hI, hz]
  apply hK; clear hK K
  refine L_reg [1, 2, 4, 5] (fun K hK => ?_)
  simp [hI, hz]
  apply hK; clear hK K
  clear hI hz I
  have hE0 : Ext H (H ++ [AObj.row (mixV lv ws lo wd) 0 0 false, .row [.slice none 0 0 0 1 false, .int .i64 0, .int .i64 0] 0 0 false, .row [.slice none 0 0 0 1 false, .int .i64 0, .int .i64 0] 0 0 false]) := .push _ _
  have r0 : (H ++ [AObj.row (mixV lv ws lo wd) 0 0 false, .row [.slice none 0 0 0 1 false, .int .i64 0, .int .i64 0] 0 0 false, .row [.slice none 0 0 0 1 false, .int .i64 0, .int .i64 0] 0 0 false])[H.length]? = some (.row (mixV lv ws lo wd) 0 0 false) := by simp
  have r1 : (H ++ [AObj.row (mixV lv ws lo wd) 0 0 false, .row [.slice none 0 0 0 1 false, .int .i64 0, .int .i64 0] 0 0 false, .row [.slice none 0 0 0 1 false, .int .i64 0, .int .i64 0] 0 0 false])[H.length + 1]? = some (.row [.slice none 0 0 0 1 false, .int .i64 0, .int .i64 0] 0 0 false) := by simp
  have r2 : (H ++ [AObj.row (mixV lv ws lo wd) 0 0 false, .row [.slice none 0 0 0 1 false, .int .i64 0, .int .i64 0] 0 0 false, .row [.slice none 0 0 0 1 false, .int .i64 0, .int .i64 0] 0 0 false])[H.length + 2]? = some (.row [.slice none 0 0 0 1 false, .int .i64 0, .int .i64 0] 0 0 false) := by simp
  have hlen : (H ++ [AObj.row (mixV lv ws lo wd) 0 0 false, .row [.slice none 0 0 0 1 false, .int .i64 0, .int .i64 0] 0 0 false, .row [.slice none 0 0 0 1 false, .int .i64 0, .int .i64 0] 0 0 false]).length = H.length + 3 := by simp
  generalize H ++ [AObj.row (mixV lv ws lo wd) 0 0 false, .row [.slice none 0 0 0 1 false, .int .i64 0, .int .i64 0] 0 0 false, .row [.slice none 0 0 0 1 false, .int .i64 0, .int .i64 0] 0 0 false] = H1 at *
  generalize hp : H.length = p at *
  have l0 : ld H1 p 0 0 = some (.int .u8 (lv : Int)) := by rw [ld_row r0]; rfl
  have hrem := rem_nat lv most
  have hmne : most ≠ 0 := by omega
  have hN : 1 + ((lv % most : Nat) : Int) = (mixN lv most : Int) := by simp [mixN]
  have hNle := mixN_le (lv := lv) hm
  have hml := mixW_len (lv := lv) hm h10 hl
  have hwk : ∀ i, i < mixN lv most → i < 10 := fun i hi => by omega
  have hmw : ∀ i (hi : i < ws.length), (ws.take (i + 1)).map (fun w => ((w % 51 : Nat) : Int)) = (ws.take i).map (fun w => ((w % 51 : Nat) : Int)) ++ [((ws[i] % 51 : Nat) : Int)] := fun i hi => by
    rw [List.take_add_one, List.getElem?_eq_getElem hi, List.map_append]; rfl
  unfold mixW at h hml
  generalize hn : mixN lv most = n at *
  have hpt := slice_part ar65 (by decide) (by decide) (k := .i64) (m := n) (off := 1) r0 (by simp [mixV, u8s, hl]) mixV_known (by omega)
  refine L_reg [2, 4, 5, 15, 16, 17] (fun K hK => ?_)
  simp [l0, wrap_i64 (a := (lv : Int)) (by omega), hmne, hrem, hN, wrap_i64 (a := (n : Int)) (by omega), -Int.natCast_emod, noSlice ar65, hpt]
  apply hK; clear hK K
  refine L_block (L_loopV [17] (fun k vs H' => ∃ (i : Nat) (u : AV) (s : Nat), k = n - i ∧ i ≤ n ∧ vs = [.int .i64 i] ∧ p + 3 ≤ H'.length ∧ (∀ j, j ≠ p + 2 → j < p + 3 → H'[j]? = H1[j]?) ∧ H'[p + 2]? = some (.row [u, .int .i64 0, .int .i64 0] 0 s false) ∧ u.one = true ∧ u ≠ .undef ∧ OwnF (p + 3) H' u (((ws.take i).map fun w => ((w % 51 : Nat) : Int)).map (.int .i64))) _ [.int .i64 (0 : Nat)] rfl
    ⟨0, _, 0, rfl, by omega, rfl, by omega, fun j _ _ => rfl, r2, rfl, by simp, by simpa using OwnF.nil _ _⟩ ?_)
  rintro k _ H2 ⟨i, u, s, rfl, hi, rfl, hlen2, hsame, hr2, hone, hund, hO⟩
  have hr0 : H2[p]? = some (.row (mixV lv ws lo wd) 0 0 false) := (hsame p (by omega) (by omega)).trans r0
  refine L_reg [2, 4, 5, 15, 16, 17, 18] (fun K hK => ?_)
  simp
  apply hK; clear hK K
  refine L_dec (i < n) (by simp) (fun hlt => ?_) (fun hge => L_exit ?_)
  · have hi10 : i < ws.length := by omega
    have hwi := hb _ (List.getElem_mem hi10)
    have hld : ld H2 p (1 + i) 0 = some (.int .u8 (ws[i] : Nat)) := by
      rw [ld_row hr0, show 1 + i = i + 1 by omega]
      simp [mixV, u8s, List.getElem?_append, hi10]
    have htk := hmw i hi10
    have hdl : ((ws.take i).map fun w => ((w % 51 : Nat) : Int)).length = i := by simp; omega
    generalize ws[i] = w at hwi hld htk
    generalize (ws.take i).map (fun w => ((w % 51 : Nat) : Int)) = done at *
    have hrem2 : ((w : Int)).tmod 51 = ((w % 51 : Nat) : Int) := rem_nat w 51
    obtain ⟨H0, hH0, hT⟩ := ext_take H2 (p + 3) hlen2
    rw [← hH0] at hO
    obtain ⟨v', H4, happ, hO4, hE4⟩ := ownF_append (P := Try.prog) hT el22 el22 (x := .int .i64 ((w % 51 : Nat) : Int)) (m := 1) hO rfl (by simp; omega)
    rw [hH0] at hO4
    have hlen4 : p + 3 ≤ H4.length := by have := hE4.1; omega
    have hk4 : ∀ j, j < p + 3 → H4[j]? = H2[j]? := fun j hj => by rw [hE4.2 j (by omega), hT.2 j (by omega)]
    have h4r2 := (hk4 (p + 2) (by omega)).trans hr2
    have hv1 : v'.one = true ∧ v' ≠ .undef := by
      obtain ⟨r, ver, rfl⟩ := hO4.len
      exact ⟨rfl, by simp⟩
    have hst := store_row (P := Try.prog) (u := 22) (p := 0) sc22 (x := v') (y := u) hv1.1 h4r2 (known_ne hund)
    have hlu : ld H2 (p + 2) 0 0 = some u := by rw [ld_row hr2]; exact known_ne hund
    refine L_block ?_
    refine L_reg [2, 4, 5, 7, 15, 16, 17] (fun K hK => ?_)
    simp [show (i : Int) < n by omega, hld]
    apply hK; clear hK K
    refine L_reg [2, 4, 5, 15, 16, 17] (fun K hK => ?_)
    simp [wrap_i64 (a := (w : Int)) (by omega), hrem2, hlu, happ, hst, -Int.natCast_emod]
    apply hK; clear hK K
    refine L_reg [2, 4, 5, 15, 16, 17] (fun K hK => ?_)
    simp [wrap_i64 (a := (i : Int) + 1) (by omega)]
    apply hK; clear hK K
    refine ⟨n - (i + 1), [.int .i64 (i + 1 : Nat)], by omega, by simp, i + 1, v', 0, rfl, by omega, rfl, by simp; omega, fun j hj1 hj2 => ?_, get_set h4r2, hv1.1, hv1.2, ?_⟩
    · rw [set_ne (Ne.symm hj1), hk4 j hj2]; exact hsame j hj1 hj2
    · rw [htk]
      exact ownF_ext (by simpa using hO4) (fun q hq o ho => by rw [set_ne (by omega)]; exact ho)
  · obtain rfl : i = n := by omega
    have b11 : ld H2 p 11 0 = some (.int .u16 (lo : Int)) := by
      rw [ld_row hr0]; simp [mixV, u8s, hl]
    have hrem3 : ((lo : Int)).tmod 260 = ((lo % 260 : Nat) : Int) := rem_nat lo 260
    have hrem4 : ((wd : Int)).tmod 60 = ((wd % 60 : Nat) : Int) := rem_nat wd 60
    have hlo : ((lo % 260 : Nat) : Int) - 5 = mixLo lo := rfl
    have hhi : mixLo lo + ((wd % 60 : Nat) : Int) = mixHi lo wd := rfl
    have hlob : -5 ≤ mixLo lo ∧ mixLo lo ≤ 260 := by unfold mixLo; omega
    have hhib : -5 ≤ mixHi lo wd ∧ mixHi lo wd ≤ 400 := by unfold mixHi; omega
    generalize mixLo lo = a at *
    generalize mixHi lo wd = b at *
    obtain ⟨H3, s3, hst1, q2, ql, qk⟩ := st_cell sc3 (x := .int .i64 a) (off := 1) hr2 rfl rfl
    refine L_reg [2, 4, 5] (fun K hK => ?_)
    simp [b11, wrap_i64 (a := (lo : Int)) (by omega), hrem3, hlo, wrap_i64 (a := a) (by omega), hst1, -Int.natCast_emod]
    apply hK; clear hK K
    have q0 : H3[p]? = some (.row (mixV lv ws lo wd) 0 0 false) := (qk p (by omega)).trans hr0
    have q1 : H3[p + 1]? = some (.row [.slice none 0 0 0 1 false, .int .i64 0, .int .i64 0] 0 0 false) := by rw [qk _ (by omega)]; exact (hsame (p + 1) (by omega) (by omega)).trans r1
    have qO := ownF_ext (H1 := H3) hO (fun q hq o ho => by rw [qk _ (by omega)]; exact ho)
    have qE : Ext H H3 := ⟨by omega, fun j hj => by rw [qk _ (by omega), hsame j (by omega) (by omega)]; exact hE0.2 j (by omega)⟩
    have b12 : ld H3 p 12 0 = some (.int .u8 (wd : Int)) := by
      rw [ld_row q0]; simp [mixV, u8s, hl]
    have c1 : ld H3 (p + 2) 1 0 = some (.int .i64 a) := by rw [ld_row q2]; rfl
    obtain ⟨H4, s4, hst2, s2, sl, sk⟩ := st_cell sc3 (x := .int .i64 b) (off := 2) q2 rfl rfl
    refine L_reg [4, 5] (fun K hK => ?_)
    simp [c1, b12, wrap_i64 (a := (wd : Int)) (by omega), hrem4, hhi, wrap_i64 (a := b) (by omega), hst2, -Int.natCast_emod]
    apply hK; clear hK K
    have s2 : H4[p + 2]? = some (.row [u, .int .i64 a, .int .i64 b] 0 s4 false) := s2
    have s1 : H4[p + 1]? = some (.row [.slice none 0 0 0 1 false, .int .i64 0, .int .i64 0] 0 0 false) := by rw [sk _ (by omega)]; exact q1
    have sO := ownF_ext (H1 := H4) qO (fun q hq o ho => by rw [sk _ (by omega)]; exact ho)
    have sE : Ext H H4 := ⟨by omega, fun j hj => by rw [sk _ (by omega)]; exact qE.2 j (by omega)⟩
    have e3 : ldn H4 (p + 2) 0 3 0 = some [u, .int .i64 a, .int .i64 b] := by
      rw [ldn_row s2]; exact take3 hund a b
    have hst3 := store_agg ag43 (vs := [u, .int .i64 a, .int .i64 b]) s1 (by decide) rfl (by simp) rfl (by intro v hv; simp at hv; rcases hv with rfl | rfl | rfl; exact hone; rfl; rfl)
    refine L_reg [4] (fun K hK => ?_)
    simp [e3, hst3]
    apply hK; clear hK K
    have t1 : (H4.set (p + 1) (.row [u, .int .i64 a, .int .i64 b] 0 0 false))[p + 1]? = some (.row [u, .int .i64 a, .int .i64 b] 0 0 false) := get_set s1
    have e4 : ldn (H4.set (p + 1) (.row [u, .int .i64 a, .int .i64 b] 0 0 false)) (p + 1) 0 3 0 = some [u, .int .i64 a, .int .i64 b] := by
      rw [ldn_row t1]; exact take3 hund a b
    have tO := ownF_ext (H1 := H4.set (p + 1) (.row [u, .int .i64 a, .int .i64 b] 0 0 false)) sO (fun q hq o ho => by rw [set_ne (by omega)]; exact ho)
    have tE : Ext H (H4.set (p + 1) (.row [u, .int .i64 a, .int .i64 b] 0 0 false)) := sE.set _ (by omega)
    refine L_ret ⟨.inr rfl, .agg [u, .int .i64 a, .int .i64 b], ?_, h _ _ (ownF_ls tO) tE⟩
    have q1 : aRes1 Try.prog [(4, AV.ptr (p + 1) 0 0)] (H4.set (p + 1) (.row [u, .int .i64 a, .int .i64 b] 0 0 false)) (.cell 4 43) = some (.agg [u, .int .i64 a, .int .i64 b]) := by
      show loadV Try.prog 43 _ (.ptr (p + 1) 0 0) = _
      rw [ld43, e4]; rfl
    show (aResList Try.prog [(4, AV.ptr (p + 1) 0 0)] _ [.cell 4 43]).map _ = _
    simp only [aResList, q1]
    rfl
end Go.Proofs.Ytmoifofihafgmaa

/- BlendMetric, walked. -/
namespace Go.Proofs.Ytmoifofihafgmaa
open Go Go.Proofs.Ytmoifofihafgmaa.AX

/-! ### What holds of distances -/
theorem chk_of {n : Nat} : ∀ {l : List Int} {p : Int}, (∀ x ∈ l, (0 ≤ x ∧ x < n) ∧ p < x) → l.Pairwise (· < ·) → chk n p l = 0
  | [], _, _, _ => rfl
  | x :: l, p, h, hs => by
    have hx := h x List.mem_cons_self
    obtain ⟨h1, h2⟩ := List.pairwise_cons.1 hs
    simp only [chk]
    rw [if_neg (by omega), if_neg (by omega)]
    exact chk_of (fun y hy => ⟨(h y (List.mem_cons_of_mem _ hy)).1, h1 y hy⟩) h2
theorem check_of {n : Nat} {b : List Int} (hb : Okb n b) (h1 : 1 ≤ n) (h2 : n ≤ 10) : checkE n b = 0 := by
  unfold checkE
  rw [if_pos (rleaves.1 ⟨by omega, by omega⟩)]
  exact chk_of (fun x hx => ⟨hb.1 x hx, by have := hb.1 x hx; omega⟩) hb.2
theorem both_of {n : Nat} {a b : List Int} (ha : Okb n a) (hb : Okb n b) (h : a.length = b.length) (h1 : 1 ≤ n) (h2 : n ≤ 10) : bothE n a b = 0 ∧ awayS n a b = (lack a b).length := by
  have : bothE n a b = 0 := by unfold bothE; rw [if_pos (check_of ha h1 h2), if_pos (check_of hb h1 h2), if_pos h]
  exact ⟨this, by unfold awayS; rw [if_pos this]⟩
theorem lack_part (l m : List Int) : (l.filter fun y => decide (y ∈ m)).length + (lack l m).length = l.length := by
  unfold lack
  induction l with
  | nil => rfl
  | cons x l ih => by_cases hx : x ∈ m <;> simp [hx] at ih ⊢ <;> omega
def othS (n : Nat) (l : List Int) : List Int := lack (iota n) l
theorem othS_okb (n : Nat) (l : List Int) : Okb n (othS n l) := by
  obtain ⟨h1, h2⟩ := okb_iota n
  exact ⟨fun x hx => h1 x (mem_lack.1 hx).1, lack_sorted h2⟩
theorem othS_len {n : Nat} {l : List Int} (hl : Okb n l) : (othS n l).length = n - l.length := by
  have h := lack_part (iota n) l
  have e : (iota n).filter (fun y => decide (y ∈ l)) = l := by
    refine sorted_ext ((okb_iota n).2.sublist List.filter_sublist) hl.2 fun x => ?_
    simp only [List.mem_filter, decide_eq_true_eq]
    exact ⟨fun h => h.2, fun h => ⟨mem_iota.2 (hl.1 x h), h⟩⟩
  rw [e, iota_len] at h
  unfold othS; omega
theorem lack_oth {n : Nat} {a b : List Int} (_ha : Okb n a) (hb : Okb n b) : lack (othS n a) (othS n b) = lack b a := by
  refine sorted_ext (lack_sorted (othS_okb n a).2) (lack_sorted hb.2) fun x => ?_
  simp only [mem_lack, othS, mem_iota]
  constructor
  · rintro ⟨⟨h1, h2⟩, h3⟩
    refine ⟨Classical.byContradiction fun h => h3 ⟨h1, h⟩, h2⟩
  · rintro ⟨h1, h2⟩
    exact ⟨⟨hb.1 x h1, h2⟩, fun h => h.2 h1⟩
theorem lack_tri {n : Nat} {a b c : List Int} (ha : Okb n a) (hc : Okb n c) : (lack a b).length ≤ (lack a c).length + (lack c b).length := by
  have h := lack_part (lack a b) c
  have e1 : lack (lack a b) c = lack (lack a c) b := by
    refine sorted_ext (lack_sorted (lack_sorted ha.2)) (lack_sorted (lack_sorted ha.2)) fun x => ?_
    simp only [mem_lack]
    exact ⟨fun h => ⟨⟨h.1.1, h.2⟩, h.1.2⟩, fun h => ⟨⟨h.1.1, h.2⟩, h.1.2⟩⟩
  have e2 : (lack a b).filter (fun y => decide (y ∈ c)) = (lack c b).filter (fun y => decide (y ∈ a)) := by
    refine sorted_ext ((lack_sorted ha.2).sublist List.filter_sublist) ((lack_sorted hc.2).sublist List.filter_sublist) fun x => ?_
    simp only [List.mem_filter, mem_lack, decide_eq_true_eq]
    exact ⟨fun h => ⟨⟨h.2, h.1.2⟩, h.1.1⟩, fun h => ⟨⟨h.2, h.1.2⟩, h.1.1⟩⟩
  have h1 : (lack (lack a c) b).length ≤ (lack a c).length := by unfold lack; exact List.length_filter_le _ _
  have h2 : ((lack c b).filter (fun y => decide (y ∈ a))).length ≤ (lack c b).length := List.length_filter_le _ _
  rw [e1, e2] at h
  omega
theorem lack_most {n : Nat} {a b : List Int} (ha : Okb n a) (hb : Okb n b) : (lack a b).length ≤ a.length ∧ (lack a b).length ≤ n - b.length := by
  have h1 : (lack a b).length ≤ a.length := by unfold lack; exact List.length_filter_le _ _
  refine ⟨h1, ?_⟩
  have e : (othS n b).filter (fun y => decide (y ∈ a)) = lack a b := by
    refine sorted_ext ((othS_okb n b).2.sublist List.filter_sublist) (lack_sorted ha.2) fun x => ?_
    simp only [List.mem_filter, othS, mem_lack, mem_iota, decide_eq_true_eq]
    exact ⟨fun h => ⟨h.2, h.1.2⟩, fun h => ⟨⟨ha.1 x h.1, h.2⟩, h.1⟩⟩
  rw [← e, ← othS_len hb]
  exact List.length_filter_le _ _
theorem lack_zero {n : Nat} {a b : List Int} (ha : Okb n a) (hb : Okb n b) (h : a.length = b.length) : (lack a b).length = 0 ↔ a = b := by
  constructor
  · intro h0
    have h1 := lack_len ha.2 hb.2 h
    exact way_end ha hb (List.eq_nil_of_length_eq_zero h0) (List.eq_nil_of_length_eq_zero (by omega))
  · rintro rfl; rw [lack_self]; rfl

/-! ### The functions -/
theorem away_q (n : Int) (u v : AV) (a b : List Int) (H : AH) (ha : a.length ≤ 1000000) (hb : b.length ≤ 1000000) (hu : Ls H u a) (hv : Ls H v b) (Q : AV → AH → Prop) (h : Q (.tuple [.int .i64 (awayS n a b), .int .i64 (bothE n a b)]) H) : AC Try.prog 27 [.int .i64 n, u, v] H Q :=
  AC.quiet rfl (fun Q h => Away_ac n u v a b H Q ha hb hu hv h) Q h
theorem others_ac (n : Nat) (hn : n ≤ 1000) (v : AV) (l : List Int) (q s : Nat) (H : AH) (Q : AV → AH → Prop) (hl : l.length ≤ 1000000) (hv : Ls H v l) (hq : H[q]? = some (.row [.int .i64 n] 0 s false)) (h : ∀ v' H', OwnN H.length H' v' (othS n l) → Ext H H' → Q v' H') : AC Try.prog 49 [v, .ptr q 0 0] H Q := by
  have e : ld H q 0 0 = some (.int .i64 n) := by rw [ld_row hq]; rfl
  refine L_body 20 Try.func49 rfl rfl ?_
  refine L_reg [0, 1] (fun K hK => ?_)
  simp
  apply hK; clear hK K
  refine L_reg [0, 1, 4] (fun K hK => ?_)
  simp
  apply hK; clear hK K
  refine L_reg [0, 4, 6, 7] (fun K hK => ?_)
  simp [e]
  apply hK; clear hK K
  refine L_block (L_loopV [4, 7] (fun k vs H' => ∃ (i : Nat) (w : AV), k = n - i ∧ i ≤ n ∧ OwnN H.length H' w (othS i l) ∧ Ext H H' ∧ vs = [w, .int .i64 i]) _ [.slice none 0 0 0 1 false, .int .i64 (0 : Nat)] rfl ⟨0, _, rfl, by omega, ⟨fun _ => rfl, .nil _ _⟩, .refl H, rfl⟩ ?_)
  rintro k _ H1 ⟨i, w, rfl, hi, ⟨hO0, hO⟩, hE, rfl⟩
  refine L_reg [0, 4, 6, 7, 8] (fun K hK => ?_)
  simp
  apply hK; clear hK K
  refine L_dec (i < n) (by simp) (fun hlt => ?_) (fun hge => L_exit ?_)
  · have hs : othS (i + 1) l = othS i l ++ if (i : Int) ∈ l then [] else [(i : Int)] := by
      unfold othS lack
      rw [iota_succ, List.filter_append]
      by_cases hm : (i : Int) ∈ l <;> simp [hm]
    have hlen : (othS i l).length ≤ i := by
      unfold othS lack
      exact Nat.le_trans (List.length_filter_le _ _) (by simp)
    refine L_block ?_
    refine L_reg [0, 4, 5, 6, 7] (fun K hK => ?_)
    simp
    apply hK; clear hK K
    refine L_reg [0, 4, 5, 6, 7, 13] (fun K hK => ?_)
    simp [okFn_low]
    refine Contains_ac v l i H1 _ hl (hv.ext hE) ?_
    simp
    apply hK; clear hK K
    by_cases hm : (i : Int) ∈ l
    · refine L_false (by simp [hm]) ?_
      rw [if_pos hm, List.append_nil] at hs
      refine L_reg [0, 4, 6, 7] (fun K hK => ?_)
      simp [wrap_i64 (a := (i : Int) + 1) (by omega)]
      apply hK; clear hK K
      exact ⟨n - (i + 1), [w, .int .i64 (i + 1 : Nat)], by omega, by simp, i + 1, w, rfl, by omega, by rw [hs]; exact ⟨hO0, hO⟩, hE, rfl⟩
    · refine L_true (by simp [hm]) ?_
      rw [if_neg hm] at hs
      obtain ⟨v', H', he, hO', hE'⟩ := ownF_append hE el22 el22 (x := .int .i64 (i : Int)) (m := 1) hO rfl (by simp; omega)
      refine L_reg [0, 4, 6, 7] (fun K hK => ?_)
      simp [he]
      apply hK; clear hK K
      refine L_reg [0, 4, 6, 7] (fun K hK => ?_)
      simp [wrap_i64 (a := (i : Int) + 1) (by omega)]
      apply hK; clear hK K
      exact ⟨n - (i + 1), [v', .int .i64 (i + 1 : Nat)], by omega, by simp, i + 1, v', rfl, by omega, by rw [hs]; exact ⟨fun h => by simp at h, by simpa using hO'⟩, hE', rfl⟩
  · obtain rfl : i = n := by omega
    refine L_reg [3] (fun K hK => ?_)
    simp
    apply hK; clear hK K
    exact L_ret ⟨.inr rfl, _, rfl, h _ _ ⟨hO0, hO⟩ hE⟩
theorem others_q (n : Nat) (hn : n ≤ 1000) (v : AV) (l : List Int) (q s : Nat) (H : AH) (hl : l.length ≤ 1000000) (hv : Ls H v l) (hq : H[q]? = some (.row [.int .i64 n] 0 s false)) (Q : AV → AH → Prop) (h : Q (chV H (othS n l)) (chH H (othS n l))) : AC Try.prog 49 [v, .ptr q 0 0] H Q :=
  AC.tidyN (fun Q h => others_ac n hn v l q s H Q hl hv hq h) Q h
end Go.Proofs.Ytmoifofihafgmaa

/- BlendMetric, walked. -/
namespace Go.Proofs.Ytmoifofihafgmaa
open Go Go.Proofs.Ytmoifofihafgmaa.AX

theorem u8s_len (ns : List Nat) : (u8s ns).length = ns.length := by simp [u8s]
theorem ldn_u8s {H : AH} {r s : Nat} {ns : List Nat} (hr : H[r]? = some (.row (u8s ns) 0 s false)) (hl : ns.length = 10) : ldn H r 0 10 0 = some (u8s ns) := by
  rw [ldn_row hr, List.drop_zero]
  have := takeKnown_row (l := u8s ns) (fun v hv => by unfold u8s at hv; obtain ⟨m, -, rfl⟩ := List.mem_map.1 hv; simp) []
  rw [List.append_nil, u8s_len, hl] at this
  exact this
@[simp] theorem eq_bool (l b c : Bool) : binV Try.prog .eql 4 l (.bool b) (.bool c) = some (.bool (b == c)) := by
  cases l <;> cases b <;> cases c <;> kernel_rfl
set_option maxRecDepth 100000 in
theorem blendMetric_ac (x y : Nat) (hx : x < 256) (hy : y < 256) (n1 n2 n3 : List Nat) (l1 : n1.length = 10) (l2 : n2.length = 10) (l3 : n3.length = 10) (b1 : ∀ x ∈ n1, x < 256) (b2 : ∀ x ∈ n2, x < 256) (b3 : ∀ x ∈ n3, x < 256) (H : AH) :
    AC Try.prog 9 [.int .u8 x, .int .u8 y, .agg (u8s n1), .agg (u8s n2), .agg (u8s n3)] H fun u _ => u = .bool true := by
  refine L_body 143 Try.func9 rfl rfl ?_
  refine L_reg [0, 1, 7, 8, 9] (fun K hK => ?_)
  simp [AV.isU, acells]
  apply hK; clear hK K
  have r7 : (H ++ [AObj.row (u8s n1) 0 0 false, .row (u8s n2) 0 0 false, .row (u8s n3) 0 0 false])[H.length]? = some (.row (u8s n1) 0 0 false) := by simp
  have r8 : (H ++ [AObj.row (u8s n1) 0 0 false, .row (u8s n2) 0 0 false, .row (u8s n3) 0 0 false])[H.length + 1]? = some (.row (u8s n2) 0 0 false) := by simp
  have r9 : (H ++ [AObj.row (u8s n1) 0 0 false, .row (u8s n2) 0 0 false, .row (u8s n3) 0 0 false])[H.length + 2]? = some (.row (u8s n3) 0 0 false) := by simp
  have hbl : (H ++ [AObj.row (u8s n1) 0 0 false, .row (u8s n2) 0 0 false, .row (u8s n3) 0 0 false]).length = H.length + 3 := by simp
  generalize H ++ [AObj.row (u8s n1) 0 0 false, .row (u8s n2) 0 0 false, .row (u8s n3) 0 0 false] = Hb at r7 r8 r9 hbl ⊢
  generalize hp : H.length = p at *
  have h10 : ((x : Int)).tmod 10 = ((x % 10 : Nat) : Int) := rem_nat x 10
  have hx10 : x % 10 < 10 := Nat.mod_lt _ (by omega)
  generalize x % 10 = x10 at h10 hx10
  obtain ⟨n, hn⟩ : ∃ n, n = 1 + x10 := ⟨_, rfl⟩
  have hn1 : IntKind.i64.wrap (1 + (x10 : Int)) = (n : Int) := by rw [wrap_i64 (by omega)]; omega
  have hnn : 1 ≤ n ∧ n ≤ 10 := by omega
  refine L_reg [1, 7, 8, 9, 11] (fun K hK => ?_)
  simp [wrap_i64 (a := (x : Int)) (by omega), h10, hn1, alloc_z zt3, st_zero]
  apply hK; clear hK K
  have hEb := Ext.push Hb [AObj.row [.int .i64 (n : Int)] 0 0 false]
  have r7 := hEb.row r7
  have r8 := hEb.row r8
  have r9 := hEb.row r9
  have r11 : (Hb ++ [AObj.row [.int .i64 (n : Int)] 0 0 false])[Hb.length]? = some (.row [.int .i64 (n : Int)] 0 0 false) := by simp
  rw [hbl] at r11
  simp only [hbl]
  generalize Hb ++ [AObj.row [.int .i64 (n : Int)] 0 0 false] = Hc at r7 r8 r9 r11 ⊢
  have e11 : ld Hc (p + 3) 0 0 = some (.int .i64 n) := by rw [ld_row r11]; rfl
  have hk1 : ((y : Int)).tmod ((n : Int) + 1) = ((y % (n + 1) : Nat) : Int) := rem_nat y (n + 1)
  have hk2 : y % (n + 1) < n + 1 := Nat.mod_lt _ (by omega)
  generalize y % (n + 1) = k at hk1 hk2
  have hkn : k ≤ n := by omega
  refine L_reg [7, 8, 9, 11, 12] (fun K hK => ?_)
  simp [wrap_i64 (a := (y : Int)) (by omega), e11, wrap_i64 (a := (n : Int) + 1) (by omega), show ¬ ((n : Int) + 1 = 0) by omega, hk1]
  apply hK; clear hK K
  have e7 := ldn_u8s r7 l1
  have e8 := ldn_u8s r8 l2
  have e9 := ldn_u8s r9 l3
  have q1 := chosen_q n k n1 Hc hnn hkn l1 b1
  have q2 := chosen_q n k n2 (chH Hc (chosS n k n1)) hnn hkn l2 b2
  have q3 := chosen_q n k n3 (chH (chH Hc (chosS n k n1)) (chosS n k n2)) hnn hkn l3 b3
  have oA := chosS_okb n k n1
  have oB := chosS_okb n k n2
  have oC := chosS_okb n k n3
  have lA := chosS_len (ns := n1) hkn (by omega)
  have lB := chosS_len (ns := n2) hkn (by omega)
  have lC := chosS_len (ns := n3) hkn (by omega)
  generalize chosS n k n1 = A at *
  generalize chosS n k n2 = B at *
  generalize chosS n k n3 = C at *
  refine L_regY mixed [11, 12, 13, 14, 15] (by kernel_rfl) (fun K hK => ?_)
  simp [e7, e11, okFn_low]
  refine exX_mk q1 (chE _ _) ?_
  simp [e8, e11, okFn_low]
  refine exX_mk q2 (chE _ _) ?_
  simp [e9, e11, okFn_low]
  refine exX_mk q3 (chE _ _) ?_
  simp
  apply hK; clear hK K
  have xA := (chL Hc A).ext ((chE (chH Hc A) B).trans (chE _ C))
  have xB := (chL (chH Hc A) B).ext (chE _ C)
  have xC := chL (chH (chH Hc A) B) C
  have r11 := (((chE Hc A).trans (chE (chH Hc A) B)).trans (chE _ C)).row r11
  generalize chV Hc A = va at xA ⊢
  generalize chV (chH Hc A) B = vb at xB ⊢
  generalize chV (chH (chH Hc A) B) C = vc at xC ⊢
  generalize chH (chH (chH Hc A) B) C = Hd at xA xB xC r11 ⊢
  clear e11 q1 q2 q3
  have e11 : ld Hd (p + 3) 0 0 = some (.int .i64 n) := by rw [ld_row r11]; rfl
  obtain ⟨z1, w1⟩ := both_of oA oB (by omega) hnn.1 hnn.2
  obtain ⟨z2, w2⟩ := both_of oB oA (by omega) hnn.1 hnn.2
  obtain ⟨z3, w3⟩ := both_of (othS_okb n A) (othS_okb n B) (by rw [othS_len oA, othS_len oB]; omega) hnn.1 hnn.2
  obtain ⟨z4, w4⟩ := both_of oA oC (by omega) hnn.1 hnn.2
  obtain ⟨z5, w5⟩ := both_of oC oB (by omega) hnn.1 hnn.2
  rw [lack_oth oA oB] at w3
  have hlen := lack_len oA.2 oB.2 (by omega)
  rw [← hlen] at w2 w3
  have htri := lack_tri (b := B) oA oC
  have hmost := lack_most oA oB
  have hzero := lack_zero oA oB (by omega)
  have hac := (lack_most oA oC).1
  have hcb := (lack_most oC oB).1
  have hoA := othS_len oA
  have hoB := othS_len oB
  refine L_reg [11, 12, 13, 14, 15, 16] (fun K hK => ?_)
  simp
  apply hK; clear hK K
  refine L_reg [11, 12, 13, 14, 15, 16, 17, 18] (fun K hK => ?_)
  simp [okFn_low, e11]
  refine away_q n va vb A B Hd (by omega) (by omega) xA xB _ ?_
  simp [z1, w1]
  apply hK; clear hK K
  refine L_reg [11, 12, 13, 14, 15, 16, 17, 18, 19, 20] (fun K hK => ?_)
  simp [okFn_low, e11]
  refine away_q n vb va B A Hd (by omega) (by omega) xB xA _ ?_
  simp [z2, w2]
  apply hK; clear hK K
  have p1 := others_q n (by omega) va A (p + 3) 0 Hd (by omega) xA r11
  have hEo := chE Hd (othS n A)
  have hEo2 := chE (chH Hd (othS n A)) (othS n B)
  have p2 := others_q n (by omega) vb B (p + 3) 0 (chH Hd (othS n A)) (by omega) (xB.ext hEo) (hEo.row r11)
  have p3 := away_q n (chV Hd (othS n A)) (chV (chH Hd (othS n A)) (othS n B)) (othS n A) (othS n B) (chH (chH Hd (othS n A)) (othS n B)) (by omega) (by omega) ((chL Hd (othS n A)).ext hEo2) (chL _ _)
  refine L_regY mixed [11, 12, 13, 14, 15, 17, 18, 19, 20, 21, 22] (by kernel_rfl) (fun K hK => ?_)
  simp [e11]
  refine exX_mk p1 hEo ?_
  simp
  refine exX_mk p2 hEo2 ?_
  simp [okFn_low]
  refine exX_mk p3 (.refl _) ?_
  simp [z3, w3]
  apply hK; clear hK K p1 p2 p3
  have hEE := hEo.trans hEo2
  have xA := xA.ext hEE
  have xB := xB.ext hEE
  have xC := xC.ext hEE
  have r11 := hEE.row r11
  generalize chH (chH Hd (othS n A)) (othS n B) = He at xA xB xC r11 ⊢
  clear e11 hEE hEo hEo2
  have e11 : ld He (p + 3) 0 0 = some (.int .i64 n) := by rw [ld_row r11]; rfl
  refine L_reg [11, 12, 13, 14, 15, 17, 18, 19, 20, 21, 22, 23, 24] (fun K hK => ?_)
  simp [okFn_low, e11]
  refine away_q n va vc A C He (by omega) (by omega) xA xC _ ?_
  simp [z4, w4]
  apply hK; clear hK K
  refine L_reg [11, 12, 13, 14, 17, 18, 19, 20, 21, 22, 23, 24, 25, 26] (fun K hK => ?_)
  simp [okFn_low, e11]
  refine away_q n vc vb C B He (by omega) (by omega) xC xB _ ?_
  simp [z5, w5]
  apply hK; clear hK K
  generalize hX : (lack A B).length = X at *
  generalize hP : (lack A C).length = P at *
  generalize hR : (lack C B).length = R0 at *
  have t1 : (X : Int) ≤ (P : Int) + (R0 : Int) := by omega
  have t2 : (X : Int) ≤ min (k : Int) ((n : Int) - (k : Int)) := by omega
  obtain ⟨t3, t4⟩ : ∃ t : Bool, ((X : Int) == 0) = t ∧ decide (A = B) = t := by
    by_cases hab : A = B
    · exact ⟨true, by have := hzero.2 hab; simp; omega, decide_eq_true hab⟩
    · exact ⟨false, by have := fun e => hab (hzero.1 e); simp; omega, decide_eq_false hab⟩
  refine L_reg [10] (fun K hK => ?_)
  simp [okFn_low, pickV, wrap_i64 (a := (P : Int) + (R0 : Int)) (by omega), t1, t4.1]
  refine same_ac va vb A B He _ (by omega) xA xB ?_
  simp [okFn_low, pickV, t4.2, e11, wrap_i64 (a := (n : Int) - (k : Int)) (by omega), t2]
  refine works_ac _ _ ?_
  simp [pickV]
  apply hK; clear hK K
  exact L_ret ⟨.inr rfl, _, rfl, rfl⟩
theorem u8_of {a : Int} (h : (Lit.int .u8 a).wf = true) : ∃ n : Nat, a = n ∧ n < 256 := by
  have h1 : 0 ≤ a ∧ a ≤ 255 := by
    simp [Lit.wf, IntKind.min, IntKind.max, IntKind.bits, IntKind.signed] at h
    omega
  exact ⟨a.toNat, by omega, by omega⟩
theorem u8s_of : ∀ {l : List Int}, (∀ x ∈ l, IntKind.u8.min ≤ x ∧ x ≤ IntKind.u8.max) → ∃ ns : List Nat, l = ns.map Int.ofNat ∧ (∀ x ∈ ns, x < 256)
  | [], _ => ⟨[], rfl, by simp⟩
  | x :: l, h => by
    obtain ⟨ns, h1, h2⟩ := u8s_of fun y hy => h y (List.mem_cons_of_mem _ hy)
    have hx : 0 ≤ x ∧ x ≤ 255 := h x List.mem_cons_self
    have e : Int.ofNat x.toNat = x := Int.toNat_of_nonneg hx.1
    refine ⟨x.toNat :: ns, by rw [List.map_cons, e, ← h1], fun y hy => ?_⟩
    rcases List.mem_cons.1 hy with rfl | hy
    · omega
    · exact h2 y hy
theorem blendMetric_int (a0 : Int) (w0 : (Lit.int .u8 a0).wf = true) (a1 : Int) (w1 : (Lit.int .u8 a1).wf = true) (m2 : List Int) (e2 : m2.length = 10) (b2 : ∀ x ∈ m2, IntKind.u8.min ≤ x ∧ x ≤ IntKind.u8.max) (m3 : List Int) (e3 : m3.length = 10) (b3 : ∀ x ∈ m3, IntKind.u8.min ≤ x ∧ x ≤ IntKind.u8.max)
    (m4 : List Int) (e4 : m4.length = 10) (b4 : ∀ x ∈ m4, IntKind.u8.min ≤ x ∧ x ≤ IntKind.u8.max) (H : AH) : AC Try.prog 9 [.int .u8 a0, .int .u8 a1, .agg (m2.map (.int .u8)), .agg (m3.map (.int .u8)), .agg (m4.map (.int .u8))] H fun u _ => u = .bool true := by
  obtain ⟨x, rfl, hx⟩ := u8_of w0
  obtain ⟨y, rfl, hy⟩ := u8_of w1
  obtain ⟨n2, rfl, c2⟩ := u8s_of b2
  obtain ⟨n3, rfl, c3⟩ := u8s_of b3
  obtain ⟨n4, rfl, c4⟩ := u8s_of b4
  simp only [List.length_map] at e2 e3 e4
  have := blendMetric_ac x y hx hy n2 n3 n4 e2 e3 e4 c2 c3 c4 H
  simpa [u8s, Function.comp_def] using this
end Go.Proofs.Ytmoifofihafgmaa

/- Way, and the reference's. -/
namespace Go.Proofs.Ytmoifofihafgmaa
open Go Go.Proofs.Ytmoifofihafgmaa.AX

theorem exchange_q (n : Nat) (hn : n ≤ 10) (v : AV) (l : List Int) (out inn : Int) (H : AH) (hl : Okb n l) (ho : out ∈ l) (hi : 0 ≤ inn ∧ inn < n) (hin : inn ∉ l) (hv : Ls H v l) (Q : AV → AH → Prop)
    (hq : Q (.slice (some H.length) 0 (exS n l out inn).length 0 1 false) (H ++ [.row ((exS n l out inn).map (.int .i64)) 0 (exS n l out inn).length false])) : AC Try.prog 74 [v, .int .i64 out, .int .i64 inn] H Q := by
  refine AC.tidy (l := (exS n l out inn).map (.int .i64)) (by simpa using exS_ne n l out inn hl hi) (belB_ints _ _) (fun Q h => exchange_ac n hn v l out inn H Q hl ho hi hin hv h) Q ?_
  simpa using hq
theorem exchanged_q (n : Nat) (hn : n ≤ 10) (v : AV) (l : List Int) (out inn : Int) (H : AH) (hl : Okb n l) (hi : 0 ≤ inn ∧ inn < n) (hll : l.length ≤ 1000000) (hv : Ls H v l) (Q : AV → AH → Prop)
    (hq : Q (.slice (some H.length) 0 (exS n l out inn).length 0 1 false) (H ++ [.row ((exS n l out inn).map (.int .i64)) 0 (exS n l out inn).length false])) : AC Try.prog 75 [.int .i64 n, v, .int .i64 out, .int .i64 inn] H Q := by
  refine AC.tidy (l := (exS n l out inn).map (.int .i64)) (by simpa using exS_ne n l out inn hl hi) (belB_ints _ _) (fun Q h => exchanged_ac n hn v l out inn H Q hll hv h) Q ?_
  simpa using hq
def waysS (n : Int) (a b : List Int) : List (List Int) := if bothE n a b = 0 then wayS n.toNat a (lack a b) (lack b a) else []
theorem wayS_nil (n : Nat) (a is : List Int) : wayS n a [] is = [a] := by cases is <;> rfl
set_option maxRecDepth 100000 in
theorem Way_ac (n : Int) (u v : AV) (a b : List Int) (H : AH) (Q : AV → AH → Prop) (ha : a.length ≤ 1000000) (hb : b.length ≤ 1000000) (hu : Ls H u a) (hv : Ls H v b) (h : ∀ w H', Lss H' w (waysS n a b) → Ext H H' → Q (.tuple [w, .int .i64 (bothE n a b)]) H') : AC Try.prog 29 [.int .i64 n, u, v] H Q := by
  obtain ⟨q0, off0, ver0, sz0, full0, rfl, -⟩ := id hu
  obtain ⟨q1, off1, ver1, sz1, full1, rfl, -⟩ := id hv
  refine L_body 50 Try.func29 rfl rfl ?_
  refine L_reg [0, 1, 2] (fun K hK => ?_)
  simp
  apply hK; clear hK K
  refine L_reg [1, 2, 8] (fun K hK => ?_)
  simp [okFn_low]
  refine checkTwo_ac n _ _ a b _ _ ha hb hu hv ?_
  simp
  apply hK; clear hK K
  refine L_reg [1, 2, 8, 18] (fun K hK => ?_)
  simp
  apply hK; clear hK K
  unfold waysS at h
  refine L_split rfl (fun ht => ?_) (fun hf => ?_)
  · have hne : bothE n a b ≠ 0 := by simpa using ht
    rw [if_neg hne] at h
    refine L_reg [6, 7] (fun K hK => ?_)
    simp
    apply hK; clear hK K
    exact L_ret ⟨.inr rfl, _, rfl, h _ _ (.nil H) (.refl H)⟩
  · have he : bothE n a b = 0 := by simpa using hf
    rw [if_pos he, he] at h
    obtain ⟨N, rfl, hN, hoa, hob, hab⟩ := both_ok he
    simp only [Int.toNat_natCast] at h
    refine L_reg [1, 2, 9] (fun K hK => ?_)
    simp [okFn_low]
    refine kept_own _ a H _ ha hu (fun r ver s H1 g1 g2 hE1 => ?_)
    simp
    apply hK; clear hK K
    have hrl := lt_of_row g2
    have hE2 := hE1.trans (.push H1 [AObj.row [.slice (some r) 0 a.length ver 1 false] 0 1 false])
    have g2' := (Ext.push H1 [AObj.row [.slice (some r) 0 a.length ver 1 false] 0 1 false]).row g2
    have g3 : (H1 ++ [AObj.row [.slice (some r) 0 a.length ver 1 false] 0 1 false])[H1.length]? = some (.row [.slice (some r) 0 a.length ver 1 false] 0 1 false) := by simp
    have hll : (H1 ++ [AObj.row [.slice (some r) 0 a.length ver 1 false] 0 1 false]).length = H1.length + 1 := by simp
    generalize H1 ++ [AObj.row [.slice (some r) 0 a.length ver 1 false] 0 1 false] = H2 at hE2 g2' g3 hll ⊢
    generalize hr9 : H1.length = r9 at *
    have hle1 := hE1.1
    refine L_reg [1, 2, 9, 10] (fun K hK => ?_)
    simp [okFn_low]
    refine lacking_ac _ _ b a H2 _ hb ha (hv.ext hE2) (hu.ext hE2) (fun v10 H3 hO10 hE3 => ?_)
    simp
    apply hK; clear hK K
    refine L_reg [9, 10, 28, 29, 30] (fun K hK => ?_)
    simp [okFn_low]
    refine lacking_ac _ _ a b H3 _ ha hb (hu.ext (hE2.trans hE3)) (hv.ext (hE2.trans hE3)) (fun v28 H4 hO28 hE4 => ?_)
    obtain ⟨r28, o28, vr28, z28, f28, hv28, -⟩ := ownG_ls hO28
    simp [hv28]
    apply hK; clear hK K
    have hl3 := hE3.1
    have x10 : LsX r9 H4 v10 (lack b a) := (ownG_X hO10 (by omega)).ext hE4
    have x28 : LsX r9 H4 v28 (lack a b) := ownG_X hO28 (by omega)
    have hE34 := hE3.trans hE4
    have hels : Els H.length r9 H4 [.slice (some r) 0 a.length ver 1 false] [a] := els_one g1 (by omega) (hE34.row g2')
    have hrow9 := hE34.row g3
    have hE04 := hE2.trans hE34
    rw [← hv28]
    have hr9' : H.length ≤ r9 := by omega
    clear hO10 hO28 g2 g2' g3 hE34 hE3 hE4 hE2 hu hv hE1 hl3 hll hr9 hrl hv28
    have hlen := lack_len hoa.2 hob.2 hab
    have hal : (lack a b).length ≤ 10 := by have := okb_len hoa; unfold lack; exact Nat.le_trans (List.length_filter_le _ _) (by omega)
    generalize hos : lack a b = os at *
    generalize his : lack b a = is at *
    refine L_block (L_loopV [9, 30] (fun k vs H' => ∃ (i ver s : Nat) (pre : List (List Int)) (cur : List Int) (rs : List AV), k = os.length - i ∧ i ≤ os.length ∧ pre.length = i ∧ Okb N cur ∧ lack cur b = os.drop i ∧ lack b cur = is.drop i ∧ wayS N a os is = pre ++ wayS N cur (os.drop i) (is.drop i) ∧
      H'[r9]? = some (.row rs ver s false) ∧ Els H.length r9 H' rs (pre ++ [cur]) ∧ KeepX r9 H4 H' ∧ Ext H H' ∧ vs = [.slice (some r9) 0 rs.length ver 1 false, .int .i64 i]) _ [.slice (some r9) 0 1 0 1 false, .int .i64 (0 : Nat)] rfl ⟨0, 0, 1, [], a, _, rfl, by omega, rfl, hoa, by simpa using hos, by simpa using his, by simp, hrow9, hels, .refl _ _, hE04, rfl⟩ ?_)
    rintro k _ H' ⟨i, ver9, s9, pre, cur, rs, rfl, hi, hpl, hoc, hlc1, hlc2, hw, hrow, hel, hK, hE, rfl⟩
    have hrl2 := hel.1
    simp only [List.length_append, List.length_singleton, hpl] at hrl2
    refine L_reg [9, 10, 28, 29, 30, 31] (fun K hK => ?_)
    simp
    apply hK; clear hK K
    refine L_dec (i < os.length) (by simp) (fun hlt => ?_) (fun hge => L_exit ?_)
    · have hlt2 : i < is.length := by omega
      have x10' := x10.keep hK
      have x28' := x28.keep hK
      obtain ⟨rr, o1, vr1, z1, f1, rfl, hl28⟩ := x28'
      obtain ⟨ra, rfl, rfl, -, hrd28⟩ := hl28 i hlt
      obtain ⟨rr2, o2, vr2, z2, f2, rfl, hl10⟩ := x10'
      obtain ⟨rb, rfl, rfl, -, hrd10⟩ := hl10 i hlt2
      rw [List.drop_eq_getElem_cons hlt] at hlc1 hw
      rw [List.drop_eq_getElem_cons hlt2] at hlc2 hw
      have hout : os[i] ∈ cur ∧ os[i] ∉ b := mem_lack.1 (by rw [hlc1]; exact List.mem_cons_self)
      have hinn : is[i] ∈ b ∧ is[i] ∉ cur := mem_lack.1 (by rw [hlc2]; exact List.mem_cons_self)
      have hir := hob.1 _ hinn.1
      obtain ⟨hst1, hst2⟩ := lack_step hoc hob hlc1 hlc2
      obtain ⟨rc, vrc, sc, e1, e2, e3, e4⟩ := hel.2 i (by simp; omega)
      have hcur : (pre ++ [cur])[i]'(by simp; omega) = cur := by
        rw [List.getElem_append_right (by omega)]; simp
      rw [hcur] at e3 e4
      have hldc : ld H' r9 i ver9 = some (.slice (some rc) 0 cur.length vrc 1 false) := by rw [ld_row hrow, e3]; rfl
      have hLc : Ls H' (.slice (some rc) 0 cur.length vrc 1 false) cur := Ls.row e4 false
      refine L_block ?_
      refine L_reg [9, 10, 11, 12, 28, 29, 30] (fun K hK => ?_)
      simp [hlt, hrd28]
      apply hK; clear hK K
      have hnx := exS_okb N cur os[i] is[i]
      have hexq := exchange_q N hN _ cur os[i] is[i] H' hoc hout.1 hir hinn.2 hLc
      have hwst : wayS N cur (os[i] :: os.drop (i + 1)) (is[i] :: is.drop (i + 1)) = cur :: wayS N (exS N cur os[i] is[i]) (os.drop (i + 1)) (is.drop (i + 1)) := rfl
      rw [hwst] at hw
      generalize exS N cur os[i] is[i] = nx at *
      have hEx : Ext H' (H' ++ [AObj.row (nx.map (.int .i64)) 0 nx.length false]) := .push _ _
      have hpush : Ext (H' ++ [AObj.row (nx.map (.int .i64)) 0 nx.length false]) (H' ++ [AObj.row (nx.map (.int .i64)) 0 nx.length false] ++ [AObj.row [.slice (some H'.length) 0 nx.length 0 1 false] 0 1 false]) := .push _ _
      have hap := rnd_append (w := .slice (some H'.length) 0 nx.length 0 1 false) (m := 1) (hEx.row hrow) rfl (by omega)
      have hl' := lt_of_row hrow
      have hle' := hE.1
      obtain ⟨Hn, hHn⟩ : ∃ Hn, Hn = (H' ++ [AObj.row (nx.map (.int .i64)) 0 nx.length false] ++ [AObj.row [.slice (some H'.length) 0 nx.length 0 1 false] 0 1 false]).set r9 (.row (rs ++ [.slice (some H'.length) 0 nx.length 0 1 false]) (ver9 + 1) (min s9 rs.length) false) := ⟨_, rfl⟩
      rw [← hHn] at hap
      have hrow5 : Hn[r9]? = some (.row (rs ++ [.slice (some H'.length) 0 nx.length 0 1 false]) (ver9 + 1) (min s9 rs.length) false) := by rw [hHn]; exact get_set ((hEx.trans hpush).row hrow)
      have hKn : KeepX r9 H' Hn := by rw [hHn]; exact (((KeepX.refl r9 H').ext hEx).ext hpush).set _
      have hKa : KeepX r9 (H' ++ [AObj.row (nx.map (.int .i64)) 0 nx.length false]) Hn := by rw [hHn]; exact ((KeepX.refl r9 _).ext hpush).set _
      have hK4 : KeepX r9 H4 Hn := by rw [hHn]; exact ((hK.ext hEx).ext hpush).set _
      have hEn : Ext H Hn := by rw [hHn]; exact ((hE.trans hEx).trans hpush).set _ hr9'
      have hrx : Hn[H'.length]? = some (.row (nx.map (.int .i64)) 0 nx.length false) := hKa.row (by omega) (by simp)
      have hels' := (hel.keep hKn).push (r' := H'.length) (ver := 0) (s := nx.length) (m := nx) (by omega) (by omega) hrx
      have hi9 : i < rs.length := by omega
      clear hHn
      refine L_regT mixed [9, 10, 28, 29, 30] (by kernel_rfl) (fun K hK' => ?_)
      simp [okFn_low, hldc, hrd10, hi9, hlt2]
      refine exC_mk hexq ?_
      simp only [List.length_append, List.length_singleton, List.append_assoc, List.cons_append, List.nil_append] at hap
      simp [hap]
      apply hK'; clear hK' K
      refine L_reg [9, 10, 28, 29, 30] (fun K hK => ?_)
      simp [wrap_i64 (a := (i : Int) + 1) (by omega)]
      apply hK; clear hK K
      exact ⟨os.length - (i + 1), [.slice (some r9) 0 (rs.length + 1) (ver9 + 1) 1 false, .int .i64 (i + 1 : Nat)], by omega, by simp, i + 1, ver9 + 1, min s9 rs.length, pre ++ [cur], nx, _, rfl, by omega, by simp [hpl], hnx, hst1, hst2, by rw [hw]; simp, hrow5, hels', hK4, hEn, by simp⟩
    · obtain rfl : i = os.length := by omega
      rw [List.drop_length, wayS_nil] at hw
      refine L_reg [6, 7] (fun K hK => ?_)
      simp
      apply hK; clear hK K
      exact L_ret ⟨.inr rfl, _, rfl, h _ _ (by rw [hw]; exact Rnd.lss (N := H.length) ⟨r9, ver9, s9, rs, by omega, by simp [hrl2, hpl], hrow, hel⟩) hE⟩
end Go.Proofs.Ytmoifofihafgmaa

/- What BlendWalked calls. -/
namespace Go.Proofs.Ytmoifofihafgmaa
open Go Go.Proofs.Ytmoifofihafgmaa.AX

theorem len_of_lack {a b : List Int} (ha : a.Pairwise (· < ·)) (hb : b.Pairwise (· < ·)) (h : (lack a b).length = (lack b a).length) : a.length = b.length := by
  have e : a.filter (fun y => decide (y ∈ b)) = b.filter (fun y => decide (y ∈ a)) := by
    refine sorted_ext (ha.sublist List.filter_sublist) (hb.sublist List.filter_sublist) fun x => ?_
    simp [and_comm]
  have h1 := lack_part a b
  have h2 := lack_part b a
  rw [e] at h1
  omega
/-- What the way holds at each place. -/
theorem way_at {N : Nat} {b : List Int} (hb : Okb N b) : ∀ {os is a : List Int}, Okb N a → lack a b = os → lack b a = is → os.length = is.length →
    (wayS N a os is).length = os.length + 1 ∧ (∀ i c, (wayS N a os is)[i]? = some c → Okb N c ∧ lack c b = os.drop i ∧ lack b c = is.drop i) ∧
    ∀ i c o x, (wayS N a os is)[i]? = some c → os[i]? = some o → is[i]? = some x → (wayS N a os is)[i + 1]? = some (exS N c o x)
  | [], is, a, ha, h1, h2, hl => by
    have : is = [] := List.eq_nil_of_length_eq_zero (by simpa using hl.symm)
    subst this
    rw [wayS_nil]
    refine ⟨rfl, fun i c hi => ?_, fun i c o x _ ho => by simp at ho⟩
    cases i with
    | zero => obtain rfl : a = c := by simpa using hi
              exact ⟨ha, h1, h2⟩
    | succ i => simp at hi
  | o :: os, [], a, ha, h1, h2, hl => by simp at hl
  | o :: os, x :: is, a, ha, h1, h2, hl => by
    obtain ⟨s1, s2⟩ := lack_step ha hb h1 h2
    obtain ⟨r1, r2, r3⟩ := way_at hb (exS_okb N a o x) s1 s2 (by simpa using hl)
    simp only [wayS]
    refine ⟨by simp [r1], fun i c hi => ?_, fun i c o' x' hi ho hx => ?_⟩
    · cases i with
      | zero => obtain rfl : a = c := by simpa using hi
                exact ⟨ha, h1, h2⟩
      | succ i => simpa using r2 i c (by simpa using hi)
    · cases i with
      | zero =>
        obtain rfl : a = c := by simpa using hi
        obtain rfl : o = o' := by simpa using ho
        obtain rfl : x = x' := by simpa using hx
        cases os with
        | nil => rw [wayS_nil]; rfl
        | cons o2 os => cases is with
          | nil => simp at hl
          | cons x2 is => rfl
      | succ i => simpa using r3 i c o' x' (by simpa using hi) (by simpa using ho) (by simpa using hx)
theorem apart_ac (u v : AV) (l o : List Int) (H : AH) (Q : AV → AH → Prop) (hl : l.length ≤ 1000000) (ho : o.length ≤ 1000000) (hu : Ls H u l) (hv : Ls H v o) (h : Q (.int .i64 (lack l o).length) H) : AC Try.prog 45 [u, v] H Q := by
  obtain ⟨r, off, ver, sz, full, rfl, hld⟩ := hu
  refine L_body 22 Try.func45 rfl rfl ?_
  refine L_reg [0, 1] (fun K hK => ?_)
  simp
  apply hK; clear hK K
  refine L_reg [0, 1, 5] (fun K hK => ?_)
  simp
  apply hK; clear hK K
  refine L_reg [1, 5, 8, 9, 10] (fun K hK => ?_)
  simp
  apply hK; clear hK K
  refine L_block (L_loopV [5, 10] (fun k vs H' => ∃ (i : Nat), k = l.length - i ∧ i ≤ l.length ∧ vs = [.int .i64 (lack (l.take i) o).length, .int .i64 i] ∧ H = H') _ [.int .i64 (0 : Nat), .int .i64 (0 : Nat)] rfl ⟨0, rfl, by omega, rfl, rfl⟩ ?_)
  rintro k _ _ ⟨i, rfl, hi, rfl, rfl⟩
  refine L_reg [1, 5, 8, 9, 10, 11] (fun K hK => ?_)
  simp
  apply hK; clear hK K
  refine L_dec (i < l.length) (by simp) (fun hlt => ?_) (fun hge => L_exit ?_)
  · obtain ⟨r', rfl, rfl, hrd⟩ := hld i hlt
    have hlk : (lack (l.take i) o).length ≤ i := by
      unfold lack
      exact Nat.le_trans (List.length_filter_le _ _) (by simp; omega)
    refine L_block ?_
    refine L_reg [1, 5, 7, 8, 9, 10] (fun K hK => ?_)
    simp [hlt, hrd]
    apply hK; clear hK K
    refine L_reg [1, 5, 8, 9, 10, 17] (fun K hK => ?_)
    simp [okFn_low]
    refine Contains_ac v o l[i] _ _ ho hv ?_
    simp
    apply hK; clear hK K
    by_cases hm : l[i] ∈ o
    · refine L_false (by simp [hm]) ?_
      refine L_reg [1, 5, 8, 9, 10] (fun K hK => ?_)
      simp [wrap_i64 (a := (i : Int) + 1) (by omega)]
      apply hK; clear hK K
      exact ⟨l.length - (i + 1), [.int .i64 (lack (l.take i) o).length, .int .i64 (i + 1 : Nat)], by omega, by simp, i + 1, rfl, by omega, by rw [lack_take hlt]; simp [hm], rfl⟩
    · refine L_true (by simp [hm]) ?_
      refine L_reg [1, 5, 8, 9, 10] (fun K hK => ?_)
      simp [wrap_i64 (a := ((lack (l.take i) o).length : Int) + 1) (by omega)]
      apply hK; clear hK K
      refine L_reg [1, 5, 8, 9, 10] (fun K hK => ?_)
      simp [wrap_i64 (a := (i : Int) + 1) (by omega)]
      apply hK; clear hK K
      exact ⟨l.length - (i + 1), [.int .i64 ((lack (l.take i) o).length + 1 : Nat), .int .i64 (i + 1 : Nat)], by omega, by simp, i + 1, rfl, by omega, by rw [lack_take hlt]; simp [hm], rfl⟩
  · obtain rfl : i = l.length := by omega
    rw [List.take_length]
    refine L_reg [4] (fun K hK => ?_)
    simp
    apply hK; clear hK K
    exact L_ret ⟨.inr rfl, _, rfl, h⟩
theorem out1_ac (v : AV) (l : List Int) (H : AH) (Q : AV → AH → Prop) (hv : Ls H v l) (h : Q (.int .i64 (l.head?.getD (-1))) H) : AC Try.prog 48 [v] H Q := by
  obtain ⟨r, off, ver, sz, full, rfl, hld⟩ := hv
  refine L_body 9 Try.func48 rfl rfl ?_
  refine L_reg [0] (fun K hK => ?_)
  simp
  apply hK; clear hK K
  refine L_reg [0, 5] (fun K hK => ?_)
  simp
  apply hK; clear hK K
  cases l with
  | nil =>
    refine L_true (by simp) ?_
    refine L_reg [2] (fun K hK => ?_)
    simp
    apply hK; clear hK K
    exact L_ret ⟨.inr rfl, _, rfl, h⟩
  | cons x l =>
    refine L_false (by simp; omega) ?_
    obtain ⟨r', rfl, rfl, hrd⟩ := hld 0 (by simp)
    rw [Nat.add_zero] at hrd
    refine L_reg [2] (fun K hK => ?_)
    simp [hrd]
    apply hK; clear hK K
    exact L_ret ⟨.inr rfl, _, rfl, by simpa using h⟩
theorem valid_ac (n : Nat) (k : Nat) (v : AV) (l : List Int) (H : AH) (Q : AV → AH → Prop) (_hn : n ≤ 1000) (hl : l.length ≤ 1000000) (hok : Okb n l) (hk : l.length = k) (hv : Ls H v l) (h : Q (.bool true) H) : AC Try.prog 44 [v, .int .i64 n, .int .i64 k] H Q := by
  obtain ⟨r, off, ver, sz, full, rfl, hld⟩ := hv
  refine L_body 41 Try.func44 rfl rfl ?_
  refine L_reg [0, 1, 2] (fun K hK => ?_)
  simp
  apply hK; clear hK K
  refine L_reg [0, 1, 2, 9, 10, 11] (fun K hK => ?_)
  simp
  apply hK; clear hK K
  refine L_block (L_loopV [11] (fun k vs H' => ∃ (i : Nat), k = l.length - i ∧ i ≤ l.length ∧ vs = [.int .i64 i] ∧ H = H') _ [.int .i64 (0 : Nat)] rfl ⟨0, rfl, by omega, rfl, rfl⟩ ?_)
  rintro k' _ _ ⟨i, rfl, hi, rfl, rfl⟩
  refine L_reg [0, 1, 2, 9, 10, 11, 12] (fun K hK => ?_)
  simp
  apply hK; clear hK K
  refine L_dec (i < l.length) (by simp) (fun hlt => ?_) (fun hge => L_exit ?_)
  · obtain ⟨r', rfl, rfl, hrd⟩ := hld i hlt
    have hx := hok.1 _ (List.getElem_mem hlt)
    refine L_block ?_
    refine L_reg [0, 1, 2, 7, 8, 9, 10, 11] (fun K hK => ?_)
    simp [hlt, hrd]
    apply hK; clear hK K
    cases i with
    | zero =>
      generalize l[0] = x at hx
      refine L_reg [0, 1, 2, 9, 10, 11, 35] (fun K hK => ?_)
      simp [pickV, show ¬ x < 0 by omega, show ¬ (n : Int) ≤ x by omega]
      apply hK; clear hK K
      refine L_false (by simp) ?_
      refine L_reg [0, 1, 2, 9, 10, 11] (fun K hK => ?_)
      simp [wrap_i64 (a := 1) (by omega)]
      apply hK; clear hK K
      exact ⟨l.length - 1, [.int .i64 (1 : Nat)], by omega, by simp, 1, rfl, by omega, rfl, rfl⟩
    | succ i =>
      obtain ⟨r2, h3, -, hrd2⟩ := hld i (by omega)
      obtain rfl := Option.some.inj h3
      have hlt2 : l[i] < l[i + 1] := by
        have := List.pairwise_iff_getElem.1 hok.2 i (i + 1) (by omega) hlt (by omega)
        exact this
      generalize l[i + 1] = x at hx hlt2
      generalize l[i] = y at hrd2 hlt2
      have hw : IntKind.i64.wrap (i : Int) = (i : Int) := wrap_i64 (by omega)
      refine L_reg [0, 1, 2, 9, 10, 11, 35] (fun K hK => ?_)
      simp [pickV, show ¬ x < 0 by omega, show ¬ (n : Int) ≤ x by omega, show (0 : Int) < (i : Int) + 1 by omega, hw, show i < l.length by omega, hrd2, show ¬ x ≤ y by omega]
      apply hK; clear hK K
      refine L_false (by simp) ?_
      refine L_reg [0, 1, 2, 9, 10, 11] (fun K hK => ?_)
      simp [wrap_i64 (a := (i : Int) + 1 + 1) (by omega)]
      apply hK; clear hK K
      exact ⟨l.length - (i + 1 + 1), [.int .i64 (i + 1 + 1 : Nat)], by omega, by simp, i + 1 + 1, rfl, by omega, rfl, rfl⟩
  · subst hk
    refine L_reg [6] (fun K hK => ?_)
    simp
    apply hK; clear hK K
    exact L_ret ⟨.inr rfl, _, rfl, h⟩
end Go.Proofs.Ytmoifofihafgmaa

/- What wider bounds find (pure), and what BlendMore is dealt. -/
namespace Go.Proofs.Ytmoifofihafgmaa
open Go Go.Proofs.Ytmoifofihafgmaa.AX

@[simp] theorem neq_bool (l b c : Bool) : binV Try.prog .neq 4 l (.bool b) (.bool c) = some (.bool (b != c)) := by
  cases l <;> cases b <;> cases c <;> kernel_rfl
theorem lack_sym {a b : List Int} (ha : a.Pairwise (· < ·)) (hb : b.Pairwise (· < ·)) (h : a.length = b.length) : (lack a b).length = (lack b a).length := by
  have e : a.filter (fun y => decide (y ∈ b)) = b.filter (fun y => decide (y ∈ a)) := by
    refine sorted_ext (ha.sublist List.filter_sublist) (hb.sublist List.filter_sublist) fun x => ?_
    simp [and_comm]
  have h1 := lack_part a b
  have h2 := lack_part b a
  rw [e] at h1
  omega
theorem near_less {b m x : List Int} : (lack b (nearer b m x)).length ≤ (lack b m).length ∧ (lack b (nearer b m x)).length ≤ (lack b x).length := by
  unfold nearer nearC cmpS
  repeat' split
  all_goals omega
theorem fold_less {b : List Int} : ∀ (l : List (List Int)) (m z : List Int), z = m ∨ z ∈ l → (lack b (l.foldl (nearer b) m)).length ≤ (lack b z).length
  | [], m, z, h => by
    rcases h with rfl | h
    · exact Nat.le_refl _
    · simp at h
  | x :: l, m, z, h => by
    rw [List.foldl_cons]
    have hn := near_less (b := b) (m := m) (x := x)
    have ih := fold_less (b := b) l (nearer b m x)
    rcases h with rfl | h
    · exact Nat.le_trans (ih _ (.inl rfl)) hn.1
    · rcases List.mem_cons.1 h with rfl | h
      · exact Nat.le_trans (ih _ (.inl rfl)) hn.2
      · exact ih z (.inr h)
theorem best_less {b m : List Int} {l : List (List Int)} (h : bestS b l = some m) {z : List Int} (hz : z ∈ l) : (lack b m).length ≤ (lack b z).length := by
  cases l with
  | nil => cases h
  | cons x l =>
    simp only [bestS, Option.some.injEq] at h
    rw [← h]
    exact fold_less l x z (by simpa using hz)
theorem best_some {b : List Int} {l : List (List Int)} (h : l ≠ []) : ∃ m, bestS b l = some m := by
  cases l with
  | nil => exact absurd rfl h
  | cons x l => exact ⟨_, rfl⟩
theorem parts3 {α : Type} {p q r : α → Bool} : ∀ (F : List α), (∀ x ∈ F, (p x = true ∧ q x = false ∧ r x = false) ∨ (p x = false ∧ q x = true ∧ r x = false) ∨ (p x = false ∧ q x = false ∧ r x = true)) → (F.filter p).length + (F.filter q).length + (F.filter r).length = F.length
  | [], _ => rfl
  | x :: F, h => by
    have ih := parts3 F fun y hy => h y (by simp [hy])
    rcases h x (by simp) with ⟨h1, h2, h3⟩ | ⟨h1, h2, h3⟩ | ⟨h1, h2, h3⟩ <;> simp [h1, h2, h3] <;> omega
theorem filter_more {α : Type} {p q : α → Bool} {F : List α} (h : ∀ x ∈ F, p x = true → q x = true) : (F.filter p).length ≤ (F.filter q).length := by
  rw [← List.countP_eq_length_filter, ← List.countP_eq_length_filter]
  exact List.countP_mono_left h
theorem fits_of {W : List Int} {lo hi : Int} {k : Nat} (h : recE W lo hi = 0) (hk : k ≤ W.length) : fitsE W lo hi k = 0 ∧ fitsN W lo hi k = (((roundS W.length k).filter (fitB W lo hi)).length : Int) := by
  have h1 := rec_ok h
  have e : fitsE W lo hi k = 0 := by
    unfold fitsE
    rw [if_pos h]
    have l0 : leavesE W.length = 0 := by unfold leavesE; rw [if_neg (by omega)]
    unfold sizeE
    rw [if_pos l0, if_neg (by omega)]
  refine ⟨e, ?_⟩
  unfold fitsN
  rw [if_pos e]; rfl
theorem with_of {W b : List Int} {lo hi : Int} (h : recE W lo hi = 0) (hb : Okb W.length b) : withE W lo hi b = 0 := by
  have h1 := rec_ok h
  unfold withE
  rw [if_pos h, check_of hb h1.1 h1.2.1]
/-- What is found with narrow and with wide bounds. -/
theorem more_facts {W b : List Int} {lo hi d u : Int} (hr : recE W lo hi = 0) (hb : Okb W.length b) (hd : 0 ≤ d) (hu : 0 ≤ u) (hlo : -9 ≤ lo) (hhi : hi < 600) :
    (fitsN W lo hi b.length ≤ fitsN W (lo - d) (hi + u) b.length) ∧ fitsN W (-10) (lo - 1) b.length + fitsN W lo hi b.length + fitsN W (hi + 1) 600 b.length = countS W.length b.length ∧
    ((nearE W lo hi b = 0) ↔ 0 < fitsN W lo hi b.length) ∧ ((nearE W (lo - d) (hi + u) b = 0) ↔ 0 < fitsN W (lo - d) (hi + u) b.length) ∧
    (nearE W lo hi b = 0 → nearE W (lo - d) (hi + u) b = 0 ∧ (nearS W lo hi b).length = b.length ∧ (nearS W (lo - d) (hi + u) b).length = b.length ∧ (lack (nearS W (lo - d) (hi + u) b) b).length ≤ (lack (nearS W lo hi b) b).length) ∧
    fitsE W lo hi b.length = 0 ∧ fitsE W (lo - d) (hi + u) b.length = 0 ∧ fitsE W (-10) (lo - 1) b.length = 0 ∧ fitsE W (hi + 1) 600 b.length = 0 ∧ sizeE W.length b.length = 0 := by
  obtain ⟨h1, h10, hw⟩ := rec_ok hr
  have hle : lo ≤ hi := by
    unfold recE at hr
    repeat' split at hr
    all_goals first | omega | cases hr
  have rec2 : ∀ x y : Int, x ≤ y → recE W x y = 0 := fun x y hxy => by
    unfold recE at hr ⊢
    repeat' split at hr
    all_goals first | (cases hr; done) | skip
    rename_i g1 g2 g3 g4
    rw [if_neg g1, if_neg g2, if_neg g3, if_neg (by omega)]
  have hbl := okb_len hb
  obtain ⟨a1, a2⟩ := fits_of hr hbl
  obtain ⟨b1, b2⟩ := fits_of (rec2 (lo - d) (hi + u) (by omega)) hbl
  obtain ⟨c1, c2⟩ := fits_of (rec2 (-10) (lo - 1) (by omega)) hbl
  obtain ⟨d1, d2⟩ := fits_of (rec2 (hi + 1) 600 (by omega)) hbl
  have s0 : sizeE W.length b.length = 0 := by
    have l0 : leavesE W.length = 0 := by unfold leavesE; rw [if_neg (by omega)]
    unfold sizeE
    rw [if_pos l0, if_neg (by omega)]
  have ec : countS W.length b.length = ((roundS W.length b.length).length : Int) := by
    unfold countS
    rw [if_pos s0]; rfl
  have hwide : ∀ x ∈ roundS W.length b.length, fitB W lo hi x = true → fitB W (lo - d) (hi + u) x = true := fun x _ hx => by
    simp [fitB] at hx ⊢; omega
  have hF : ∀ x ∈ roundS W.length b.length, Okb W.length x ∧ x.length = b.length := fun x hx => ⟨okb_round hx, roundS_len _ _ _ hx⟩
  have hsum := parts3 (p := fitB W (-10) (lo - 1)) (q := fitB W lo hi) (r := fitB W (hi + 1) 600) (roundS W.length b.length) (fun x hx => by
    have hb2 := weighS_bound hw x
    have h3 := (hF x hx).2
    simp only [fitB, Bool.and_eq_true, decide_eq_true_eq, Bool.and_eq_false_iff, decide_eq_false_iff_not]
    omega)
  have hmore := filter_more hwide
  have near0 : ∀ x y : Int, recE W x y = 0 → nearE W x y b = (if (roundS W.length b.length).filter (fitB W x y) = [] then 12 else 0) := fun x y h => by
    unfold nearE; rw [if_pos (with_of h hb)]
  have nears : ∀ x y : Int, recE W x y = 0 → nearS W x y b = (bestS b ((roundS W.length b.length).filter (fitB W x y))).getD [] := fun x y h => by
    unfold nearS; rw [if_pos (with_of h hb)]
  have np : ∀ x y : Int, recE W x y = 0 → (nearE W x y b = 0 ↔ 0 < ((roundS W.length b.length).filter (fitB W x y)).length) := fun x y h => by
    rw [near0 x y h]
    split
    · rename_i e; rw [e]; simp
    · rename_i e
      have := List.length_pos_iff.2 e
      exact ⟨fun _ => this, fun _ => rfl⟩
  refine ⟨by rw [a2, b2]; omega, by rw [a2, c2, d2, ec]; omega, by rw [a2, np lo hi hr]; omega, by rw [b2, np _ _ (rec2 (lo - d) (hi + u) (by omega))]; omega, fun hn => ?_, a1, b1, c1, d1, s0⟩
  have hn1 := (np lo hi hr).1 hn
  have hn2 : 0 < ((roundS W.length b.length).filter (fitB W (lo - d) (hi + u))).length := by omega
  obtain ⟨x, hx⟩ := best_some (b := b) (List.ne_nil_of_length_pos hn1)
  obtain ⟨y, hy⟩ := best_some (b := b) (List.ne_nil_of_length_pos hn2)
  have ex : nearS W lo hi b = x := by rw [nears _ _ hr, hx]; rfl
  have ey : nearS W (lo - d) (hi + u) b = y := by rw [nears _ _ (rec2 (lo - d) (hi + u) (by omega)), hy]; rfl
  have mx := bestS_mem hx
  have my := bestS_mem hy
  have fx := hF x (List.mem_filter.1 mx).1
  have fy := hF y (List.mem_filter.1 my).1
  have hxy := best_less hy (List.mem_filter.2 ⟨(List.mem_filter.1 mx).1, hwide x (List.mem_filter.1 mx).1 (List.mem_filter.1 mx).2⟩)
  refine ⟨(np _ _ (rec2 (lo - d) (hi + u) (by omega))).2 hn2, by rw [ex]; exact fx.2, by rw [ey]; exact fy.2, ?_⟩
  rw [ex, ey, lack_sym fy.1.2 hb.2 fy.2, lack_sym fx.1.2 hb.2 fx.2]
  exact hxy
theorem fitsN_nn (W : List Int) (lo hi k : Int) : 0 ≤ fitsN W lo hi k := by
  unfold fitsN; split <;> omega
theorem ag72 : aggSz Try.prog 72 = some 13 := by kernel_rfl
@[simp] theorem ld72 (H : AH) (r off ver : Nat) : loadV Try.prog 72 H (.ptr r off ver) = (ldn H r ver 13 off).map .agg := load_agg ag72 ..
theorem ldn_mix {H : AH} {r s : Nat} {lv lo wd : Nat} {ws : List Nat} (hr : H[r]? = some (.row (mixV lv ws lo wd) 0 s false)) (hl : ws.length = 10) : ldn H r 0 13 0 = some (mixV lv ws lo wd) := by
  have h13 : (mixV lv ws lo wd).length = 13 := by simp [mixV, u8s, hl]
  rw [ldn_row hr, List.drop_zero]
  have := takeKnown_row (l := mixV lv ws lo wd) (fun v hv => mixV_known v hv) []
  rw [List.append_nil, h13] at this
  exact this
@[simp] theorem built43 (r : Option Nat) (off len ver sz : Nat) (full : Bool) (a b : Int) : aBuilt Try.prog 43 [(0, .slice r off len ver sz full), (1, .int .i64 a), (2, .int .i64 b)] = some [.slice r off len ver sz full, .int .i64 a, .int .i64 b] := by kernel_rfl
theorem new_rec (H : AH) (r : Option Nat) (off len ver sz : Nat) (full : Bool) (lo hi : Int) : ∃ H', storeV Try.prog 43 (H ++ [AObj.row [.slice none 0 0 0 1 false, .int .i64 0, .int .i64 0] 0 0 false]) (.ptr H.length 0 0) (.agg [.slice r off len ver sz full, .int .i64 lo, .int .i64 hi]) = some (none, H') ∧ Ext H H' ∧ RecRow H' H.length (.slice r off len ver sz full) lo hi ∧ H'.length = H.length + 1 := by
  have hr : (H ++ [AObj.row [.slice none 0 0 0 1 false, .int .i64 0, .int .i64 0] 0 0 false])[H.length]? = some (.row [.slice none 0 0 0 1 false, .int .i64 0, .int .i64 0] 0 0 false) := by simp
  have hst := store_agg ag43 (vs := [.slice r off len ver sz full, .int .i64 lo, .int .i64 hi]) hr (by decide) rfl (by simp) rfl (by simp [AV.one])
  exact ⟨_, hst, (Ext.push _ _).set _ (Nat.le_refl _), ⟨0, get_set hr⟩, by simp⟩
end Go.Proofs.Ytmoifofihafgmaa

/- All blends by their sets. -/
namespace Go.Proofs.Ytmoifofihafgmaa
open Go Go.Proofs.Ytmoifofihafgmaa.AX

/-- The leaves of a set. -/
def heldS (n s : Nat) : List Int := (iota n).filter fun x => s.testBit x.toNat
theorem heldS_zero (s : Nat) : heldS 0 s = [] := rfl
theorem heldS_succ (n s : Nat) : heldS (n + 1) s = heldS n s ++ if s.testBit n then [(n : Int)] else [] := by
  unfold heldS
  rw [iota_succ, List.filter_append]
  by_cases h : s.testBit n <;> simp [h]
theorem heldS_okb (n s : Nat) : Okb n (heldS n s) := by
  obtain ⟨h1, h2⟩ := okb_iota n
  exact ⟨fun x hx => h1 x (List.mem_filter.1 hx).1, h2.sublist List.filter_sublist⟩
theorem heldS_len (n s : Nat) : (heldS n s).length ≤ n := okb_len (heldS_okb n s)
theorem mem_held {n s : Nat} {x : Int} : x ∈ heldS n s ↔ (0 ≤ x ∧ x < n) ∧ s.testBit x.toNat = true := by
  unfold heldS
  rw [List.mem_filter, mem_iota]
theorem wrap_u16 {a : Int} (h : 0 ≤ a ∧ a < 65536) : IntKind.u16.wrap a = a := by
  simp [IntKind.wrap, IntKind.bits, IntKind.signed]
  omega
theorem wrapN16 {n : Nat} (h : n < 65536) : IntKind.u16.wrap (n : Int) = n := wrap_u16 ⟨by omega, by omega⟩
theorem n_and16 {P : Program} {t : TypeId} {l : Bool} (x y : Nat) (hx : x < 65536) (hy : y < 65536) : binV P .and t l (.int .u16 (x : Int)) (.int .u16 (y : Int)) = some (.int .u16 ((x &&& y : Nat) : Int)) := by
  rw [b_and]
  have h1 : (BitVec.ofInt IntKind.u16.bits (x : Int) &&& BitVec.ofInt IntKind.u16.bits (y : Int)).toNat = x &&& y := by
    show (BitVec.ofInt 16 (x : Int) &&& BitVec.ofInt 16 (y : Int)).toNat = x &&& y
    rw [ofInt_nat, ofInt_nat, BitVec.toNat_and, BitVec.toNat_ofNat, BitVec.toNat_ofNat, Nat.mod_eq_of_lt hx, Nat.mod_eq_of_lt hy]
  rw [h1, wrapN16 (Nat.and_lt_two_pow x (n := 16) hy)]
theorem bit16 {P : Program} {t : TypeId} {l : Bool} (s b : Nat) (hs : s < 65536) : binV P .and t l (.int .u16 ((s >>> b : Nat) : Int)) (.int .u16 1) = some (.int .u16 (if s.testBit b then 1 else 0)) := by
  have h1 : s >>> b < 65536 := Nat.lt_of_le_of_lt (by rw [Nat.shiftRight_eq_div_pow]; exact Nat.div_le_self _ _) hs
  have := n_and16 (P := P) (t := t) (l := l) (s >>> b) 1 h1 (by decide)
  rw [show ((1 : Nat) : Int) = 1 from rfl] at this
  rw [this, Nat.and_one_is_mod, Nat.testBit, Nat.and_comm, Nat.and_one_is_mod]
  rcases Nat.mod_two_eq_zero_or_one (s >>> b) with h | h <;> simp [h]
theorem bit16' {P : Program} {t : TypeId} {l : Bool} (s b : Nat) (hs : s < 65536) : binV P .and t l (.int .u16 ((s : Int) >>> b)) (.int .u16 1) = some (.int .u16 (if s.testBit b then 1 else 0)) := bit16 s b hs
def cntB : Nat → Nat → Nat
  | 0, _ => 0
  | n + 1, s => cntB n s + if s.testBit n then 1 else 0
theorem heldS_cnt (n s : Nat) : (heldS n s).length = cntB n s := by
  induction n with
  | zero => rfl
  | succ n ih =>
    rw [heldS_succ, List.length_append, ih, cntB]
    split <;> simp
noncomputable def onesR (s : Nat) : Bool := match callN (runZ cx 300) 87 [.int .u16 (.ofNat s)] [] with
  | some (.int .i64 m, []) => ieq m (.ofNat (cntB 10 s))
  | _ => false
theorem ones_all : (List.range 1024).all onesR = true := by kernel_rfl
theorem ones_ac (s : Nat) (hs : s < 1024) (H : AH) (Q : AV → AH → Prop) (h : Q (.int .i64 (heldS 10 s).length) H) : AC Try.prog 87 [.int .u16 s] H Q := by
  have h1 := List.all_eq_true.1 ones_all s (List.mem_range.2 hs)
  unfold onesR at h1
  split at h1
  · rename_i m hm
    rw [ieq_eq, beq_iff_eq] at h1
    subst h1
    refine AC_kernZ cx_ok 300 hm (.cons (.int ..) .nil) (.int ..) ?_
    rw [heldS_cnt] at h
    exact h
  · cases h1
set_option maxRecDepth 100000 in
theorem held_ac (n s : Nat) (hn : n ≤ 16) (hs : s < 65536) (H : AH) (Q : AV → AH → Prop) (h : ∀ v' H', OwnF H.length H' v' ((heldS n s).map (.int .i64)) → Ext H H' → Q v' H') : AC Try.prog 88 [.int .u16 s, .int .i64 n] H Q := by
  refine L_body 22 Try.func88 rfl rfl ?_
  refine L_reg [0, 1] (fun K hK => ?_)
  simp
  apply hK; clear hK K
  refine L_reg [0, 1, 5] (fun K hK => ?_)
  simp
  apply hK; clear hK K
  refine L_reg [0, 5, 7, 8] (fun K hK => ?_)
  simp
  apply hK; clear hK K
  refine L_block (L_loopV [5, 8] (fun k vs H' => ∃ (i : Nat) (u : AV), k = n - i ∧ i ≤ n ∧ vs = [u, .int .i64 i] ∧ Ext H H' ∧ OwnF H.length H' u ((heldS i s).map (.int .i64))) _ [.slice none 0 0 0 1 false, .int .i64 (0 : Nat)] rfl
    ⟨0, _, rfl, by omega, rfl, .refl _, OwnF.nil _ _⟩ ?_)
  rintro k _ H2 ⟨i, u, rfl, hi, rfl, hE2, hO⟩
  refine L_reg [0, 5, 7, 8, 9] (fun K hK => ?_)
  simp
  apply hK; clear hK K
  refine L_dec (i < n) (by simp) (fun hlt => ?_) (fun hge => L_exit ?_)
  · have hsu := heldS_succ i s
    have hll := heldS_len i s
    refine L_block ?_
    refine L_reg [0, 5, 6, 7, 8] (fun K hK => ?_)
    simp
    apply hK; clear hK K
    refine L_reg [0, 5, 6, 7, 8, 15] (fun K hK => ?_)
    simp [n_shr' (k := .u16) s i (by simp [IntKind.bits]; omega), bit16' s i hs]
    apply hK; clear hK K
    cases hb : s.testBit i with
    | true =>
      rw [hb, if_pos rfl] at hsu
      obtain ⟨u', H3, happ, hO3, hE3⟩ := ownF_append (P := Try.prog) hE2 el22 el22 (x := .int .i64 i) (m := 1) hO rfl (by simp; omega)
      refine L_true (by simp) ?_
      refine L_reg [0, 5, 7, 8] (fun K hK => ?_)
      simp [happ]
      apply hK; clear hK K
      refine L_reg [0, 5, 7, 8] (fun K hK => ?_)
      simp [wrap_i64 (a := (i : Int) + 1) (by omega)]
      apply hK; clear hK K
      refine ⟨n - (i + 1), [u', .int .i64 (i + 1 : Nat)], by omega, by simp, i + 1, u', rfl, by omega, rfl, hE3, ?_⟩
      rw [hsu]
      simpa using hO3
    | false =>
      rw [hb, if_neg (by decide), List.append_nil] at hsu
      refine L_false (by simp) ?_
      refine L_reg [0, 5, 7, 8] (fun K hK => ?_)
      simp [wrap_i64 (a := (i : Int) + 1) (by omega)]
      apply hK; clear hK K
      exact ⟨n - (i + 1), [u, .int .i64 (i + 1 : Nat)], by omega, by simp, i + 1, u, rfl, by omega, rfl, hE2, by rw [hsu]; exact hO⟩
  · obtain rfl : i = n := by omega
    refine L_reg [4] (fun K hK => ?_)
    simp
    apply hK; clear hK K
    exact L_ret ⟨.inr rfl, _, rfl, h _ _ hO hE2⟩
end Go.Proofs.Ytmoifofihafgmaa

/- All blends by their sets: a function is called with each. -/
namespace Go.Proofs.Ytmoifofihafgmaa
open Go Go.Proofs.Ytmoifofihafgmaa.AX

theorem n_shl16 {P : Program} {t : TypeId} {l : Bool} {k' : IntKind} (b : Nat) (hb : b < 16) : binV P .shl t l (.int .u16 1) (.int k' (b : Int)) = some (.int .u16 ((2 ^ b : Nat) : Int)) := by
  rw [b_shl (Int.natCast_nonneg b)]
  have : b ≤ IntKind.u16.bits := Nat.le_of_lt hb
  have e : ((2 : Int) ^ b) = ((2 ^ b : Nat) : Int) := by simp
  rw [Int.toNat_natCast, Nat.min_eq_left this, Int.one_mul, e, wrapN16 (Nat.pow_lt_pow_right (by decide) hb)]
def blsS (n k m : Nat) : List (List Int) := ((List.range m).filter fun s => decide ((heldS 10 s).length = k)).map (heldS n)
theorem blsS_succ (n k m : Nat) : blsS n k (m + 1) = blsS n k m ++ if (heldS 10 m).length = k then [heldS n m] else [] := by
  unfold blsS
  rw [List.range_succ, List.filter_append, List.map_append]
  by_cases h : (heldS 10 m).length = k <;> simp [h]
set_option maxRecDepth 100000 in
theorem blends_ac (n k : Nat) (hn : n ≤ 10) (f : FuncId) (caps : List AV) (J : List (List Int) → AH → Prop) (H : AH) (Q : AV → AH → Prop) (hok : okFn Try.prog f = true) (N : Nat) (hN : ∀ done H1, J done H1 → N ≤ H1.length) (h0 : J [] H) (hg : ∀ done H1 H2, J done H1 → Ext H1 H2 → J done H2)
    (step : ∀ s v H1, s < 2 ^ n → (heldS 10 s).length = k → J (blsS n k s) H1 → OwnF N H1 v ((heldS n s).map (.int .i64)) → ∀ Q : AV → AH → Prop, (∀ u H2, J (blsS n k s ++ [heldS n s]) H2 → Q u H2) → AC Try.prog f (v :: caps) H1 Q) (h : ∀ H', J (blsS n k (2 ^ n)) H' → Q (.tuple []) H') : AC Try.prog 42 [.int .i64 n, .int .i64 k, .func (.func f) [] caps] H Q := by
  have h2n : 2 ^ n ≤ 1024 := Nat.le_trans (Nat.pow_le_pow_right (by omega) hn) (by decide)
  have hsh : ∀ l, binV Try.prog .shl 61 l (.int .u16 1) (.int .i64 (n : Int)) = some (.int .u16 ((2 ^ n : Nat) : Int)) := fun l => n_shl16 n (by omega)
  refine L_body 22 Try.func42 rfl rfl ?_
  generalize 2 ^ n = N at *
  refine L_reg [0, 1, 2, 8, 9] (fun K hK => ?_)
  simp [hsh]
  apply hK; clear hK K
  refine L_block (L_loopV [9] (fun m vs H' => ∃ i : Nat, m = N - i ∧ i ≤ N ∧ vs = [.int .u16 i] ∧ J (blsS n k i) H') _ [.int .u16 (0 : Nat)] rfl ⟨0, rfl, by omega, rfl, h0⟩ ?_)
  rintro m _ H1 ⟨i, rfl, hi, rfl, hJ⟩
  refine L_reg [0, 1, 2, 8, 9, 10] (fun K hK => ?_)
  simp
  apply hK; clear hK K
  refine L_dec (i < N) (by simp) (fun hlt => ?_) (fun hge => L_exit ?_)
  · have hs := blsS_succ n k i
    refine L_block ?_
    refine L_reg [0, 1, 2, 6, 8, 9] (fun K hK => ?_)
    simp
    apply hK; clear hK K
    refine L_reg [0, 1, 2, 6, 8, 9, 15] (fun K hK => ?_)
    simp [okFn_low]
    refine ones_ac i (by omega) _ _ ?_
    simp
    apply hK; clear hK K
    refine L_dec ((heldS 10 i).length = k) (by simp [Bool.beq_eq_decide_eq, Int.ofNat_inj]) (fun h1 => ?_) (fun h1 => ?_)
    · rw [if_pos h1] at hs
      refine L_reg [0, 1, 2, 8, 9] (fun K hK => ?_)
      simp [okFn_low]
      refine held_ac n i (by omega) (by omega) _ _ (fun v H2 hO hE => ?_)
      simp [hok]
      refine step i v H2 hlt h1 (hg _ _ _ hJ hE) (ownF_less hO (hN _ _ hJ)) _ (fun u H3 hJ3 => ?_)
      simp
      apply hK; clear hK K
      refine L_reg [0, 1, 2, 8, 9] (fun K hK => ?_)
      simp [wrap_u16 (a := (i : Int) + 1) (by omega)]
      apply hK; clear hK K
      exact ⟨N - (i + 1), [.int .u16 (i + 1 : Nat)], by omega, by simp, i + 1, rfl, by omega, rfl, by rw [hs]; exact hJ3⟩
    · rw [if_neg h1, List.append_nil] at hs
      refine L_reg [0, 1, 2, 8, 9] (fun K hK => ?_)
      simp [wrap_u16 (a := (i : Int) + 1) (by omega)]
      apply hK; clear hK K
      exact ⟨N - (i + 1), [.int .u16 (i + 1 : Nat)], by omega, by simp, i + 1, rfl, by omega, rfl, by rw [hs]; exact hJ⟩
  · obtain rfl : i = N := by omega
    exact ⟨.inl rfl, _, rfl, h _ hJ⟩
end Go.Proofs.Ytmoifofihafgmaa

/- Other numbers of the leaves (pure). -/
namespace Go.Proofs.Ytmoifofihafgmaa
open Go Go.Proofs.Ytmoifofihafgmaa.AX

def toF (to : List Int) (x : Int) : Int := (to[x.toNat]?).getD 0
def renS (n : Nat) (to l : List Int) : List Int := (iota n).filter fun y => decide (y ∈ l.map (toF to))
/-- An order of the leaves. -/
def Ren (n : Nat) (to : List Int) : Prop := to.Perm (iota n)
theorem Ren.perm {n : Nat} {to : List Int} (h : Ren n to) : to.Perm (iota n) := h
theorem Ren.len {n : Nat} {to : List Int} (h : Ren n to) : to.length = n := by rw [h.perm.length_eq, iota_len]
theorem Ren.nd {n : Nat} {to : List Int} (h : Ren n to) : to.Pairwise (· ≠ ·) := (h.perm.symm.pairwise (iota_nd n) fun h1 h2 => h1 h2.symm)
theorem Ren.mem {n : Nat} {to : List Int} (h : Ren n to) : ∀ y ∈ to, 0 ≤ y ∧ y < (n : Int) := fun y hy => mem_iota.1 (h.perm.mem_iff.1 hy)
theorem ren_deal {n : Nat} {ns : List Nat} (hl : n ≤ ns.length) : Ren n (dealS (iota n) (ns.take n)) := by
  have h1 := chosS_perm (n := n) (k := n) (ns := ns) (Nat.le_refl _)
  have h2 := chosS_okb n n ns
  have h3 := chosS_len (n := n) (k := n) (ns := ns) (Nat.le_refl _) hl
  have h4 : chosS n n ns = iota n := sub_eq h2.2 (okb_iota n).2 (fun x hx => mem_iota.2 (h2.1 x hx)) (by rw [iota_len, h3]; exact Nat.le_refl _)
  rw [h4] at h1
  exact h1.symm
theorem Ren.rng {n : Nat} {to : List Int} (h : Ren n to) {x : Int} (hx : 0 ≤ x ∧ x < n) : 0 ≤ toF to x ∧ toF to x < n := by
  have : x.toNat < to.length := by rw [h.len]; omega
  unfold toF
  rw [List.getElem?_eq_getElem this, Option.getD_some]
  exact h.mem _ (List.getElem_mem this)
theorem Ren.inj {n : Nat} {to : List Int} (h : Ren n to) {x y : Int} (hx : 0 ≤ x ∧ x < n) (hy : 0 ≤ y ∧ y < n) (e : toF to x = toF to y) : x = y := by
  have h1 : x.toNat < to.length := by rw [h.len]; omega
  have h2 : y.toNat < to.length := by rw [h.len]; omega
  unfold toF at e
  rw [List.getElem?_eq_getElem h1, List.getElem?_eq_getElem h2, Option.getD_some, Option.getD_some] at e
  have hp := List.pairwise_iff_getElem.1 h.nd
  rcases Nat.lt_trichotomy x.toNat y.toNat with g | g | g
  · exact absurd e (hp _ _ h1 h2 g)
  · omega
  · exact absurd e.symm (hp _ _ h2 h1 g)
theorem Ren.sur {n : Nat} {to : List Int} (h : Ren n to) {y : Int} (hy : 0 ≤ y ∧ y < n) : ∃ x : Int, (0 ≤ x ∧ x < n) ∧ toF to x = y := by
  have : y ∈ to := h.perm.mem_iff.2 (mem_iota.2 hy)
  obtain ⟨i, hi, e⟩ := List.mem_iff_getElem.1 this
  refine ⟨i, ⟨by omega, by rw [← h.len]; omega⟩, ?_⟩
  unfold toF
  rw [Int.toNat_natCast, List.getElem?_eq_getElem hi, e]; rfl
section
variable {n : Nat} {to : List Int} (h : Ren n to)
include h
theorem mem_ren {l : List Int} (hl : ∀ x ∈ l, 0 ≤ x ∧ x < (n : Int)) {y : Int} : y ∈ renS n to l ↔ ∃ x ∈ l, toF to x = y := by
  unfold renS
  simp only [List.mem_filter, mem_iota, decide_eq_true_eq, List.mem_map]
  exact ⟨fun hy => hy.2, fun ⟨x, hx, e⟩ => ⟨by rw [← e]; exact h.rng (hl x hx), x, hx, e⟩⟩
omit h in
theorem ren_okb (l : List Int) : Okb n (renS n to l) := by
  obtain ⟨h1, h2⟩ := okb_iota n
  exact ⟨fun x hx => h1 x (List.mem_filter.1 hx).1, h2.sublist List.filter_sublist⟩
theorem map_nd {l : List Int} (hl : Okb n l) : (l.map (toF to)).Pairwise (· ≠ ·) := by
  rw [List.pairwise_map]
  refine (List.Pairwise.and_mem.1 hl.2).imp fun {x y} ⟨hx, hy, hlt⟩ e => ?_
  have := h.inj (hl.1 x hx) (hl.1 y hy) e
  omega
theorem ren_perm {l : List Int} (hl : Okb n l) : (renS n to l).Perm (l.map (toF to)) := by
  refine (List.perm_ext_iff_of_nodup ((ren_okb l).2.imp fun {x y} hlt => by omega) (map_nd h hl)).2 fun y => ?_
  rw [mem_ren h hl.1, List.mem_map]
theorem ren_len {l : List Int} (hl : Okb n l) : (renS n to l).length = l.length := by rw [(ren_perm h hl).length_eq, List.length_map]
theorem ren_lack {a b : List Int} (ha : Okb n a) (hb : Okb n b) : (lack (renS n to a) (renS n to b)).length = (lack a b).length := by
  have hlk : Okb n (lack a b) := ⟨fun x hx => ha.1 x (mem_lack.1 hx).1, lack_sorted ha.2⟩
  have : lack (renS n to a) (renS n to b) = renS n to (lack a b) := by
    refine sorted_ext (lack_sorted (ren_okb a).2) (ren_okb _).2 fun y => ?_
    rw [mem_lack, mem_ren h ha.1, mem_ren h hb.1, mem_ren h hlk.1]
    constructor
    · rintro ⟨⟨x, hx, e⟩, hn⟩
      exact ⟨x, mem_lack.2 ⟨hx, fun hxb => hn ⟨x, hxb, e⟩⟩, e⟩
    · rintro ⟨x, hx, e⟩
      obtain ⟨h1, h2⟩ := mem_lack.1 hx
      refine ⟨⟨x, h1, e⟩, ?_⟩
      rintro ⟨z, hz, e2⟩
      have := h.inj (ha.1 x h1) (hb.1 z hz) (e.trans e2.symm)
      exact h2 (this ▸ hz)
  rw [this, ren_len h hlk]
/-- Whatever is a blend comes of one. -/
theorem ren_sur {y : List Int} (hy : Okb n y) : ∃ x, Okb n x ∧ renS n to x = y := by
  refine ⟨(iota n).filter fun x => decide (toF to x ∈ y), ⟨fun x hx => mem_iota.1 (List.mem_filter.1 hx).1, (okb_iota n).2.sublist List.filter_sublist⟩, ?_⟩
  refine sorted_ext (ren_okb _).2 hy.2 fun z => ?_
  rw [mem_ren h (fun x hx => mem_iota.1 (List.mem_filter.1 hx).1)]
  simp only [List.mem_filter, mem_iota, decide_eq_true_eq]
  constructor
  · rintro ⟨x, ⟨-, hx⟩, e⟩; exact e ▸ hx
  · intro hz
    obtain ⟨x, hx, e⟩ := h.sur (hy.1 z hz)
    exact ⟨x, ⟨hx, by rw [e]; exact hz⟩, e⟩
theorem ren_inj {x y : List Int} (hx : Okb n x) (hy : Okb n y) (e : renS n to x = renS n to y) : x = y := by
  refine sorted_ext hx.2 hy.2 fun z => ?_
  have key : ∀ {u v : List Int}, Okb n u → Okb n v → renS n to u = renS n to v → ∀ z ∈ u, z ∈ v := fun {u v} hu hv e z hz => by
    have h1 : toF to z ∈ renS n to u := (mem_ren h hu.1).2 ⟨z, hz, rfl⟩
    rw [e, mem_ren h hv.1] at h1
    obtain ⟨w, hw, e2⟩ := h1
    have := h.inj (hu.1 z hz) (hv.1 w hw) e2.symm
    exact this ▸ hw
  exact ⟨key hx hy e z, key hy hx e.symm z⟩
omit h in
theorem mem_round {k : Nat} {l : List Int} : l ∈ roundS n k ↔ Okb n l ∧ l.length = k :=
  ⟨fun hl => ⟨okb_round hl, roundS_len _ _ _ hl⟩, fun ⟨h1, h2⟩ => h2 ▸ okb_mem h1⟩
theorem round_perm (k : Nat) : ((roundS n k).map (renS n to)).Perm (roundS n k) := by
  refine (List.perm_ext_iff_of_nodup ?_ (round_nodup n k)).2 fun y => ?_
  · show List.Pairwise _ _
    rw [List.pairwise_map]
    refine (List.Pairwise.and_mem.1 (round_nodup n k)).imp fun {x y} ⟨hx, hy, hne⟩ e => ?_
    exact hne (ren_inj h (mem_round.1 hx).1 (mem_round.1 hy).1 e)
  · rw [List.mem_map]
    constructor
    · rintro ⟨x, hx, rfl⟩
      obtain ⟨h1, h2⟩ := mem_round.1 hx
      exact mem_round.2 ⟨ren_okb x, by rw [ren_len h h1, h2]⟩
    · intro hy
      obtain ⟨h1, h2⟩ := mem_round.1 hy
      obtain ⟨x, hx, e⟩ := ren_sur h h1
      exact ⟨x, mem_round.2 ⟨hx, by rw [← ren_len h hx, e, h2]⟩, e⟩
theorem ren_filter {k : Nat} {p q : List Int → Bool} (hpq : ∀ x, Okb n x → x.length = k → q (renS n to x) = p x) : ((roundS n k).filter q).length = ((roundS n k).filter p).length := by
  rw [← List.countP_eq_length_filter, ← List.countP_eq_length_filter, ← (round_perm h k).countP_eq q, List.countP_map]
  refine List.countP_congr fun x hx => ?_
  obtain ⟨h1, h2⟩ := mem_round.1 hx
  simp only [Function.comp_apply, hpq x h1 h2]
end

/-! ### Weights -/
theorem weighS_perm {ws l m : List Int} (h : l.Perm m) : weighS ws l = weighS ws m := by
  induction h with
  | nil => rfl
  | cons x _ ih => simp only [weighS, ih]
  | swap x y l => simp only [weighS]; omega
  | trans _ _ ih1 ih2 => exact ih1.trans ih2
theorem weighS_map {ws ow to : List Int} : ∀ {l : List Int}, (∀ x ∈ l, (ow[(toF to x).toNat]?).getD 0 = (ws[x.toNat]?).getD 0) → weighS ow (l.map (toF to)) = weighS ws l
  | [], _ => rfl
  | x :: l, h => by
    simp only [List.map_cons, weighS, h x (by simp), weighS_map (l := l) fun y hy => h y (by simp [hy])]
theorem weighS_ren {n : Nat} {to ws ow l : List Int} (h : Ren n to) (hw : ∀ x : Int, 0 ≤ x ∧ x < n → (ow[(toF to x).toNat]?).getD 0 = (ws[x.toNat]?).getD 0) (hl : Okb n l) : weighS ow (renS n to l) = weighS ws l := by
  rw [weighS_perm (ren_perm h hl), weighS_map fun x hx => hw x (hl.1 x hx)]
end Go.Proofs.Ytmoifofihafgmaa

/- Other numbers of the leaves: what is found (pure). -/
namespace Go.Proofs.Ytmoifofihafgmaa
open Go Go.Proofs.Ytmoifofihafgmaa.AX

theorem fold_min {f : List Int → Int} : ∀ (l : List (List Int)) (a : Int), l.foldl (fun a x => min a (f x)) a ≤ a ∧ (∀ x ∈ l, l.foldl (fun a x => min a (f x)) a ≤ f x) ∧ (l.foldl (fun a x => min a (f x)) a = a ∨ ∃ x ∈ l, l.foldl (fun a x => min a (f x)) a = f x)
  | [], a => ⟨Int.le_refl _, by simp, .inl rfl⟩
  | y :: l, a => by
    obtain ⟨h1, h2, h3⟩ := fold_min (f := f) l (min a (f y))
    simp only [List.foldl_cons]
    refine ⟨by omega, fun x hx => ?_, ?_⟩
    · rcases List.mem_cons.1 hx with rfl | hx
      · omega
      · exact h2 x hx
    · rcases h3 with h3 | ⟨x, hx, h3⟩
      · rw [h3]
        rcases Int.le_total a (f y) with g | g
        · left; omega
        · right; exact ⟨y, by simp, by omega⟩
      · exact .inr ⟨x, by simp [hx], h3⟩
theorem fold_max {f : List Int → Int} : ∀ (l : List (List Int)) (a : Int), a ≤ l.foldl (fun a x => max a (f x)) a ∧ (∀ x ∈ l, f x ≤ l.foldl (fun a x => max a (f x)) a) ∧ (l.foldl (fun a x => max a (f x)) a = a ∨ ∃ x ∈ l, l.foldl (fun a x => max a (f x)) a = f x)
  | [], a => ⟨Int.le_refl _, by simp, .inl rfl⟩
  | y :: l, a => by
    obtain ⟨h1, h2, h3⟩ := fold_max (f := f) l (max a (f y))
    simp only [List.foldl_cons]
    refine ⟨by omega, fun x hx => ?_, ?_⟩
    · rcases List.mem_cons.1 hx with rfl | hx
      · omega
      · exact h2 x hx
    · rcases h3 with h3 | ⟨x, hx, h3⟩
      · rw [h3]
        rcases Int.le_total a (f y) with g | g
        · right; exact ⟨y, by simp, by omega⟩
        · left; omega
      · exact .inr ⟨x, by simp [hx], h3⟩
theorem fold_min_same {f g : List Int → Int} {l m : List (List Int)} {a : Int} (h1 : ∀ x ∈ l, ∃ y ∈ m, g y = f x) (h2 : ∀ y ∈ m, ∃ x ∈ l, f x = g y) : l.foldl (fun a x => min a (f x)) a = m.foldl (fun a x => min a (g x)) a := by
  obtain ⟨a1, a2, a3⟩ := fold_min (f := f) l a
  obtain ⟨b1, b2, b3⟩ := fold_min (f := g) m a
  generalize l.foldl (fun a x => min a (f x)) a = x at *
  generalize m.foldl (fun a x => min a (g x)) a = y at *
  have e1 : x ≤ y := by
    rcases b3 with b3 | ⟨z, hz, b3⟩
    · omega
    · obtain ⟨w, hw, e⟩ := h2 z hz
      have := a2 w hw; omega
  have e2 : y ≤ x := by
    rcases a3 with a3 | ⟨z, hz, a3⟩
    · omega
    · obtain ⟨w, hw, e⟩ := h1 z hz
      have := b2 w hw; omega
  omega
theorem fold_max_same {f g : List Int → Int} {l m : List (List Int)} {a : Int} (h1 : ∀ x ∈ l, ∃ y ∈ m, g y = f x) (h2 : ∀ y ∈ m, ∃ x ∈ l, f x = g y) : l.foldl (fun a x => max a (f x)) a = m.foldl (fun a x => max a (g x)) a := by
  obtain ⟨a1, a2, a3⟩ := fold_max (f := f) l a
  obtain ⟨b1, b2, b3⟩ := fold_max (f := g) m a
  generalize l.foldl (fun a x => max a (f x)) a = x at *
  generalize m.foldl (fun a x => max a (g x)) a = y at *
  have e1 : x ≤ y := by
    rcases a3 with a3 | ⟨z, hz, a3⟩
    · omega
    · obtain ⟨w, hw, e⟩ := h1 z hz
      have := b2 w hw; omega
  have e2 : y ≤ x := by
    rcases b3 with b3 | ⟨z, hz, b3⟩
    · omega
    · obtain ⟨w, hw, e⟩ := h2 z hz
      have := a2 w hw; omega
  omega
theorem near_out {W a : List Int} {lo hi : Int} (hr : recE W lo hi = 0) (ha : Okb W.length a) :
    nearE W lo hi a = (if (roundS W.length a.length).filter (fitB W lo hi) = [] then 12 else 0) ∧
    (nearE W lo hi a = 0 → nearS W lo hi a ∈ (roundS W.length a.length).filter (fitB W lo hi) ∧ ∀ z ∈ (roundS W.length a.length).filter (fitB W lo hi), (lack a (nearS W lo hi a)).length ≤ (lack a z).length) := by
  have e : nearE W lo hi a = (if (roundS W.length a.length).filter (fitB W lo hi) = [] then 12 else 0) := by
    unfold nearE; rw [if_pos (with_of hr ha)]
  refine ⟨e, fun h0 => ?_⟩
  have hne : (roundS W.length a.length).filter (fitB W lo hi) ≠ [] := fun hn => by rw [e, if_pos hn] at h0; cases h0
  obtain ⟨x, hx⟩ := best_some (b := a) hne
  have es : nearS W lo hi a = x := by unfold nearS; rw [if_pos (with_of hr ha), hx]; rfl
  rw [es]
  exact ⟨bestS_mem hx, fun z hz => best_less hx hz⟩
/-- What other numbers leave as it was. -/
theorem named_facts {W ow to a b : List Int} {lo hi j : Int} (hr : recE W lo hi = 0) (hro : recE ow lo hi = 0) (hlen : ow.length = W.length) (h : Ren W.length to)
    (hw : ∀ x : Int, 0 ≤ x ∧ x < W.length → (ow[(toF to x).toNat]?).getD 0 = (W[x.toNat]?).getD 0) (ha : Okb W.length a) (hb : Okb W.length b) (hl : a.length = b.length) (hj : 0 ≤ j ∧ j ≤ 10) :
    awayS W.length (renS W.length to a) (renS W.length to b) = awayS W.length a b ∧ bothE W.length a b = 0 ∧ bothE W.length (renS W.length to a) (renS W.length to b) = 0 ∧
    withE W lo hi a = 0 ∧ withE ow lo hi (renS W.length to a) = 0 ∧ weightS ow lo hi (renS W.length to a) = weightS W lo hi a ∧
    fitsE W lo hi a.length = 0 ∧ fitsE ow lo hi a.length = 0 ∧ fitsN ow lo hi a.length = fitsN W lo hi a.length ∧
    nearE ow lo hi (renS W.length to a) = nearE W lo hi a ∧
    (nearE W lo hi a = 0 → Okb W.length (nearS W lo hi a) ∧ Okb W.length (nearS ow lo hi (renS W.length to a)) ∧ (nearS W lo hi a).length = a.length ∧ (nearS ow lo hi (renS W.length to a)).length = a.length ∧
      (lack (nearS ow lo hi (renS W.length to a)) (renS W.length to a)).length = (lack (nearS W lo hi a) a).length) ∧
    reachE W lo hi a j = 0 ∧ reachE ow lo hi (renS W.length to a) j = 0 ∧ reachS ow lo hi (renS W.length to a) j = reachS W lo hi a j := by
  have hr1 := rec_ok hr
  have hc := ren_okb (n := W.length) (to := to) a
  have hd := ren_okb (n := W.length) (to := to) b
  have lc := ren_len h ha
  have ld := ren_len h hb
  obtain ⟨e1, e2⟩ := both_of ha hb hl hr1.1 hr1.2.1
  obtain ⟨e3, e4⟩ := both_of hc hd (by rw [lc, ld, hl]) hr1.1 hr1.2.1
  have w1 := with_of hr ha
  have w2 := with_of (W := ow) (b := renS W.length to a) hro (by rw [hlen]; exact hc)
  have f1 := fits_of hr (okb_len ha)
  have f2 := fits_of (W := ow) (k := a.length) hro (by rw [hlen]; exact okb_len ha)
  have hfit : ∀ x, Okb W.length x → fitB ow lo hi (renS W.length to x) = fitB W lo hi x := fun x hx => by
    unfold fitB; rw [weighS_ren h hw hx]
  have hcount := ren_filter h (k := a.length) (p := fitB W lo hi) (q := fitB ow lo hi) fun x hx _ => hfit x hx
  obtain ⟨n1, n2⟩ := near_out hr ha
  obtain ⟨m1, m2⟩ := near_out (W := ow) (a := renS W.length to a) hro (by rw [hlen]; exact hc)
  rw [hlen, lc] at m1 m2
  have hnear : nearE ow lo hi (renS W.length to a) = nearE W lo hi a := by
    rw [n1, m1]
    by_cases g : (roundS W.length a.length).filter (fitB W lo hi) = []
    · rw [if_pos g, if_pos (List.eq_nil_of_length_eq_zero (by rw [hcount, g]; rfl))]
    · rw [if_neg g, if_neg fun g2 => g (List.eq_nil_of_length_eq_zero (by rw [← hcount, g2]; rfl))]
  have r1 : reachE W lo hi a j = 0 := by unfold reachE; rw [if_pos w1, if_neg (by omega)]
  have r2 : reachE ow lo hi (renS W.length to a) j = 0 := by unfold reachE; rw [if_pos w2, if_neg (by omega)]
  refine ⟨by rw [e2, e4, ren_lack h ha hb], e1, e3, w1, w2, ?_, f1.1, f2.1, ?_, hnear, fun h0 => ?_, r1, r2, ?_⟩
  · unfold weightS; rw [if_pos w1, if_pos w2, weighS_ren h hw ha]
  · rw [f1.2, f2.2, hlen, hcount]
  · obtain ⟨p1, p2⟩ := n2 h0
    obtain ⟨q1, q2⟩ := m2 (by rw [hnear]; exact h0)
    obtain ⟨p3, p4⟩ := List.mem_filter.1 p1
    obtain ⟨q3, q4⟩ := List.mem_filter.1 q1
    have p5 := mem_round.1 p3
    have q5 := mem_round.1 q3
    refine ⟨p5.1, q5.1, p5.2, q5.2, ?_⟩
    generalize nearS W lo hi a = p at *
    generalize nearS ow lo hi (renS W.length to a) = q at *
    rw [lack_sym q5.1.2 hc.2 (by rw [lc, q5.2]), lack_sym p5.1.2 ha.2 p5.2]
    have hp' : renS W.length to p ∈ (roundS W.length a.length).filter (fitB ow lo hi) :=
      List.mem_filter.2 ⟨mem_round.2 ⟨ren_okb p, by rw [ren_len h p5.1, p5.2]⟩, by rw [hfit p p5.1]; exact p4⟩
    have k1 := q2 _ hp'
    rw [ren_lack h ha p5.1] at k1
    obtain ⟨x, hx, ex⟩ := ren_sur h q5.1
    have hx2 : x ∈ (roundS W.length a.length).filter (fitB W lo hi) :=
      List.mem_filter.2 ⟨mem_round.2 ⟨hx, by rw [← ren_len h hx, ex, q5.2]⟩, by rw [← hfit x hx, ex]; exact q4⟩
    have k2 := p2 _ hx2
    rw [← ren_lack h ha hx, ex] at k2
    omega
  · unfold reachS
    rw [if_pos r1, if_pos r2, hlen, lc]
    have hcl : ∀ x, Okb W.length x → closeB (renS W.length to a) j (renS W.length to x) = closeB a j x := fun x hx => by
      unfold closeB; rw [ren_lack h ha hx]
    have g1 : ∀ x ∈ (roundS W.length a.length).filter (closeB a j), ∃ y ∈ (roundS W.length a.length).filter (closeB (renS W.length to a) j), weighS ow y = weighS W x := fun x hx => by
      obtain ⟨x1, x2⟩ := List.mem_filter.1 hx
      obtain ⟨x3, x4⟩ := mem_round.1 x1
      exact ⟨renS W.length to x, List.mem_filter.2 ⟨mem_round.2 ⟨ren_okb x, by rw [ren_len h x3, x4]⟩, by rw [hcl x x3]; exact x2⟩, weighS_ren h hw x3⟩
    have g2 : ∀ y ∈ (roundS W.length a.length).filter (closeB (renS W.length to a) j), ∃ x ∈ (roundS W.length a.length).filter (closeB a j), weighS W x = weighS ow y := fun y hy => by
      obtain ⟨y1, y2⟩ := List.mem_filter.1 hy
      obtain ⟨y3, y4⟩ := mem_round.1 y1
      obtain ⟨x, hx, ex⟩ := ren_sur h y3
      exact ⟨x, List.mem_filter.2 ⟨mem_round.2 ⟨hx, by rw [← ren_len h hx, ex, y4]⟩, by rw [← hcl x hx, ex]; exact y2⟩, by rw [← ex, weighS_ren h hw hx]⟩
    unfold lowS highS
    rw [weighS_ren h hw ha, fold_min_same g2 g1, fold_max_same g2 g1]
end Go.Proofs.Ytmoifofihafgmaa

/- All blends by their sets are those of the round; the best one (pure). -/
namespace Go.Proofs.Ytmoifofihafgmaa
open Go Go.Proofs.Ytmoifofihafgmaa.AX

theorem bits_ex (p : Nat → Bool) : ∀ n, ∃ s, s < 2 ^ n ∧ ∀ i, i < n → s.testBit i = p i
  | 0 => ⟨0, by simp, fun i hi => by omega⟩
  | n + 1 => by
    obtain ⟨s, h1, h2⟩ := bits_ex p n
    have h3 : s.testBit n = false := Nat.testBit_lt_two_pow h1
    cases hp : p n with
    | true =>
      refine ⟨2 ^ n + s, by rw [Nat.pow_succ]; omega, fun i hi => ?_⟩
      rcases Nat.lt_or_ge i n with g | g
      · rw [Nat.testBit_two_pow_add_gt g]; exact h2 i g
      · obtain rfl : i = n := by omega
        rw [Nat.testBit_two_pow_add_eq, h3, hp]; rfl
    | false =>
      refine ⟨s, by rw [Nat.pow_succ]; omega, fun i hi => ?_⟩
      rcases Nat.lt_or_ge i n with g | g
      · exact h2 i g
      · obtain rfl : i = n := by omega
        rw [h3, hp]
theorem held_inj {n s t : Nat} (hs : s < 2 ^ n) (ht : t < 2 ^ n) (h : heldS n s = heldS n t) : s = t := by
  refine Nat.eq_of_testBit_eq fun i => ?_
  rcases Nat.lt_or_ge i n with g | g
  · have h1 : ((i : Int) ∈ heldS n s) ↔ ((i : Int) ∈ heldS n t) := by rw [h]
    rw [mem_held, mem_held] at h1
    simp only [Int.toNat_natCast] at h1
    have h2 : s.testBit i = true ↔ t.testBit i = true := ⟨fun e => (h1.1 ⟨⟨by omega, by omega⟩, e⟩).2, fun e => (h1.2 ⟨⟨by omega, by omega⟩, e⟩).2⟩
    exact Bool.eq_iff_iff.2 h2
  · have : ∀ u, u < 2 ^ n → u.testBit i = false := fun u hu => Nat.testBit_lt_two_pow (Nat.lt_of_lt_of_le hu (Nat.pow_le_pow_right (by omega) g))
    rw [this s hs, this t ht]
theorem held_ten {n s : Nat} (hn : n ≤ 10) (hs : s < 2 ^ n) : heldS 10 s = heldS n s := by
  refine sorted_ext (heldS_okb 10 s).2 (heldS_okb n s).2 fun x => ?_
  rw [mem_held, mem_held]
  constructor
  · rintro ⟨h1, h2⟩
    refine ⟨⟨h1.1, ?_⟩, h2⟩
    rcases Int.lt_or_le x n with g | g
    · exact g
    · have : s.testBit x.toNat = false := Nat.testBit_lt_two_pow (Nat.lt_of_lt_of_le hs (Nat.pow_le_pow_right (by omega) (by omega)))
      rw [this] at h2; cases h2
  · rintro ⟨h1, h2⟩
    exact ⟨⟨h1.1, by omega⟩, h2⟩
theorem mem_bls {n k : Nat} (hn : n ≤ 10) {x : List Int} : x ∈ blsS n k (2 ^ n) ↔ Okb n x ∧ x.length = k := by
  unfold blsS
  simp only [List.mem_map, List.mem_filter, List.mem_range, decide_eq_true_eq]
  constructor
  · rintro ⟨s, ⟨h1, h2⟩, rfl⟩
    exact ⟨heldS_okb n s, by rw [← held_ten hn h1]; exact h2⟩
  · rintro ⟨h1, h2⟩
    obtain ⟨s, hs, hb⟩ := bits_ex (fun i => decide ((i : Int) ∈ x)) n
    have e : heldS n s = x := by
      refine sorted_ext (heldS_okb n s).2 h1.2 fun y => ?_
      rw [mem_held]
      constructor
      · rintro ⟨g1, g2⟩
        rw [hb y.toNat (by omega)] at g2
        have : ((y.toNat : Nat) : Int) = y := by omega
        rw [this] at g2
        simpa using g2
      · intro hy
        have hr := h1.1 y hy
        refine ⟨hr, ?_⟩
        rw [hb y.toNat (by omega)]
        have : ((y.toNat : Nat) : Int) = y := by omega
        rw [this]
        simpa using hy
    exact ⟨s, ⟨hs, by rw [held_ten hn hs, e]; exact h2⟩, e⟩
theorem bls_nodup {n k : Nat} : (blsS n k (2 ^ n)).Pairwise (· ≠ ·) := by
  unfold blsS
  rw [List.pairwise_map]
  have h1 : (List.range (2 ^ n)).Pairwise (· ≠ ·) := List.nodup_range
  refine (List.Pairwise.and_mem.1 (h1.sublist List.filter_sublist)).imp fun {s t} ⟨hs, ht, hne⟩ e => hne ?_
  exact held_inj (List.mem_range.1 (List.mem_filter.1 hs).1) (List.mem_range.1 (List.mem_filter.1 ht).1) e
theorem bls_perm {n k : Nat} (hn : n ≤ 10) : (blsS n k (2 ^ n)).Perm (roundS n k) :=
  (List.perm_ext_iff_of_nodup bls_nodup (round_nodup n k)).2 fun x => by rw [mem_bls hn, mem_round]

/-! ### The order of nearness -/
theorem cmpS_neg {a b : Int} : cmpS a b < 0 ↔ a < b := by unfold cmpS; repeat' split <;> omega
theorem cmpS_zero {a b : Int} : cmpS a b = 0 ↔ a = b := by unfold cmpS; repeat' split <;> omega
theorem lex_zero : ∀ {a b : List Int}, lexS a b = 0 → a = b
  | [], [], _ => rfl
  | [], y :: m, h => by simp [lexS] at h
  | x :: l, [], h => by simp [lexS] at h
  | x :: l, y :: m, h => by
    simp only [lexS] at h
    split at h
    · rename_i g
      rw [cmpS_zero.1 g, lex_zero h]
    · rename_i g; exact absurd h g
theorem lex_tot : ∀ {a b : List Int}, lexS a b < 0 ∨ lexS a b = 0 ∨ lexS b a < 0
  | [], [] => .inr (.inl rfl)
  | [], y :: m => .inl (by simp [lexS])
  | x :: l, [] => .inr (.inr (by simp [lexS]))
  | x :: l, y :: m => by
    simp only [lexS]
    have ih := @lex_tot l m
    by_cases g : x = y
    · subst g
      have : cmpS x x = 0 := cmpS_zero.2 rfl
      rw [if_pos this, if_pos this]; exact ih
    · have h1 : ¬ cmpS x y = 0 := fun h => g (cmpS_zero.1 h)
      have h2 : ¬ cmpS y x = 0 := fun h => g (cmpS_zero.1 h).symm
      rw [if_neg h1, if_neg h2, cmpS_neg, cmpS_neg]
      omega
theorem lex_trans : ∀ {a b c : List Int}, lexS a b < 0 → lexS b c < 0 → lexS a c < 0
  | [], [], _, h, _ => by simp [lexS] at h
  | x :: l, [], _, h, _ => by simp [lexS] at h
  | _, y :: m, [], _, h => by simp [lexS] at h
  | [], y :: m, z :: n, _, _ => by simp [lexS]
  | x :: l, y :: m, z :: n, h1, h2 => by
    simp only [lexS] at h1 h2 ⊢
    by_cases g1 : x = y
    · subst g1
      rw [if_pos (cmpS_zero.2 rfl)] at h1
      by_cases g2 : x = z
      · subst g2
        rw [if_pos (cmpS_zero.2 rfl)] at h2 ⊢
        exact lex_trans h1 h2
      · rw [if_neg fun h => g2 (cmpS_zero.1 h)] at h2 ⊢
        exact h2
    · rw [if_neg fun h => g1 (cmpS_zero.1 h), cmpS_neg] at h1
      by_cases g2 : y = z
      · subst g2
        rw [if_neg fun h => g1 (cmpS_zero.1 h), cmpS_neg]; exact h1
      · rw [if_neg fun h => g2 (cmpS_zero.1 h), cmpS_neg] at h2
        rw [if_neg fun h => by have := cmpS_zero.1 h; omega, cmpS_neg]; omega
theorem near_neg {b a c : List Int} : nearC b a c < 0 ↔ ((lack b a).length < (lack b c).length ∨ ((lack b a).length = (lack b c).length ∧ lexS a c < 0)) := by
  unfold nearC
  split
  · rename_i h
    have := cmpS_zero.1 h
    omega
  · rename_i h
    rw [cmpS_neg]
    have : ¬ ((lack b a).length : Int) = (lack b c).length := fun e => h (cmpS_zero.2 e)
    omega
theorem near_trans {b x y z : List Int} (h1 : nearC b x y < 0) (h2 : nearC b y z < 0) : nearC b x z < 0 := by
  rw [near_neg] at h1 h2 ⊢
  rcases h1 with h1 | ⟨h1, h3⟩ <;> rcases h2 with h2 | ⟨h2, h4⟩
  · left; omega
  · left; omega
  · left; omega
  · exact .inr ⟨by omega, lex_trans h3 h4⟩
theorem near_tot {b x y : List Int} (h1 : ¬ nearC b x y < 0) (h2 : ¬ nearC b y x < 0) : x = y := by
  rw [near_neg] at h1 h2
  have e : (lack b x).length = (lack b y).length := by omega
  rcases @lex_tot x y with h | h | h
  · exact absurd (.inr ⟨e, h⟩) h1
  · exact lex_zero h
  · exact absurd (.inr ⟨e.symm, h⟩) h2
theorem lex_irr : ∀ (a : List Int), ¬ lexS a a < 0
  | [] => by simp [lexS]
  | x :: l => by
    simp only [lexS]
    rw [if_pos (cmpS_zero.2 rfl)]
    exact lex_irr l
theorem near_irr {b a : List Int} : ¬ nearC b a a < 0 := by
  rw [near_neg]
  rintro (h | ⟨-, h⟩)
  · omega
  · exact lex_irr _ h
theorem fold_near {b : List Int} : ∀ (l : List (List Int)) (m z : List Int), z = m ∨ z ∈ l → ¬ nearC b z (l.foldl (nearer b) m) < 0
  | [], m, z, hz => by
    rcases hz with rfl | hz
    · exact near_irr
    · cases hz
  | x :: l, m, z, hz => by
    rw [List.foldl_cons]
    have ih := fold_near (b := b) l (nearer b m x)
    generalize hr : l.foldl (nearer b) (nearer b m x) = r at *
    unfold nearer at ih
    by_cases g : nearC b x m < 0
    · rw [if_pos g] at ih
      rcases hz with rfl | hz
      · intro h
        exact ih x (.inl rfl) (near_trans g h)
      · rcases List.mem_cons.1 hz with rfl | hz
        · exact ih _ (.inl rfl)
        · exact ih z (.inr hz)
    · rw [if_neg g] at ih
      rcases hz with rfl | hz
      · exact ih _ (.inl rfl)
      · rcases List.mem_cons.1 hz with rfl | hz
        · intro h
          have h1 := ih m (.inl rfl)
          by_cases h2 : nearC b r m < 0
          · exact g (near_trans h h2)
          · have := near_tot h1 h2
            rw [← this] at h
            exact g h
        · exact ih z (.inr hz)
theorem best_min {b m : List Int} {l : List (List Int)} (h : bestS b l = some m) : ∀ z ∈ l, ¬ nearC b z m < 0 := fun z hz => by
  cases l with
  | nil => cases h
  | cons x l =>
    simp only [bestS, Option.some.injEq] at h
    rw [← h]
    exact fold_near l x z (by simpa using hz)
theorem best_perm {b : List Int} {l l' : List (List Int)} (h : l.Perm l') : bestS b l = bestS b l' := by
  cases e1 : bestS b l with
  | none =>
    cases l with
    | nil => rw [h.symm.eq_nil]; rfl
    | cons x l => cases e1
  | some m =>
    cases e2 : bestS b l' with
    | none =>
      cases l' with
      | nil => rw [h.eq_nil] at e1; cases e1
      | cons x l' => cases e2
    | some m' =>
      congr 1
      refine near_tot (b := b) (fun h1 => ?_) (fun h1 => ?_)
      · exact best_min e2 m (h.mem_iff.1 (bestS_mem e1)) h1
      · exact best_min e1 m' (h.mem_iff.2 (bestS_mem e2)) h1

/-! ### What is found -/
def closeA (b : List Int) (c : Int) (x : List Int) : Bool := decide (((lack x b).length : Int) ≤ c)
def lowA (W b : List Int) (c : Int) (D : List (List Int)) : Int := (D.filter (closeA b c)).foldl (fun a x => min a (weighS W x)) 1000
def highA (W b : List Int) (c : Int) (D : List (List Int)) : Int := (D.filter (closeA b c)).foldl (fun a x => max a (weighS W x)) (-1)
theorem lowA_snoc {W b x : List Int} {c : Int} {D : List (List Int)} : lowA W b c (D ++ [x]) = if closeA b c x = true then min (lowA W b c D) (weighS W x) else lowA W b c D := by
  unfold lowA
  rw [List.filter_append]
  by_cases h : closeA b c x = true <;> simp [h]
theorem highA_snoc {W b x : List Int} {c : Int} {D : List (List Int)} : highA W b c (D ++ [x]) = if closeA b c x = true then max (highA W b c D) (weighS W x) else highA W b c D := by
  unfold highA
  rw [List.filter_append]
  by_cases h : closeA b c x = true <;> simp [h]
def farA (b : List Int) : Option (List Int) → Int
  | none => 100
  | some m => ((lack m b).length : Int)
theorem found_facts {W b : List Int} {lo hi j : Int} (hr : recE W lo hi = 0) (hb : Okb W.length b) (hj : 0 ≤ j ∧ j ≤ 10) :
    lowA W b j (blsS W.length b.length (2 ^ W.length)) = (reachS W lo hi b j).1 ∧ highA W b j (blsS W.length b.length (2 ^ W.length)) = (reachS W lo hi b j).2 ∧ reachE W lo hi b j = 0 ∧
    (((blsS W.length b.length (2 ^ W.length)).filter (fitB W lo hi)).length : Int) = fitsN W lo hi b.length ∧ fitsE W lo hi b.length = 0 ∧ withE W lo hi b = 0 ∧
    nearS W lo hi b = (bestS b ((blsS W.length b.length (2 ^ W.length)).filter (fitB W lo hi))).getD [] ∧
    (nearE W lo hi b = if ((blsS W.length b.length (2 ^ W.length)).filter (fitB W lo hi)) = [] then 12 else 0) ∧
    ∀ m, bestS b ((blsS W.length b.length (2 ^ W.length)).filter (fitB W lo hi)) = some m → m.length = b.length ∧ (((lack m b).length : Int) ≤ j → lo ≤ (reachS W lo hi b j).2 ∧ (reachS W lo hi b j).1 ≤ hi) := by
  have h1 := rec_ok hr
  have hw := with_of hr hb
  have hf := fits_of hr (okb_len hb)
  have hp := bls_perm (n := W.length) (k := b.length) h1.2.1
  have hre : reachE W lo hi b j = 0 := by unfold reachE; rw [if_pos hw, if_neg (by omega)]
  have hbF : b ∈ roundS W.length b.length := mem_round.2 ⟨hb, rfl⟩
  have hcl : ∀ x, Okb W.length x → x.length = b.length → closeA b j x = closeB b j x := fun x hx hxl => by
    unfold closeA closeB; rw [lack_sym hx.2 hb.2 hxl]
  have hcb : closeB b j b = true := by unfold closeB; rw [lack_self]; simp; omega
  have mem1 : ∀ x, x ∈ (blsS W.length b.length (2 ^ W.length)).filter (closeA b j) ↔ x ∈ (roundS W.length b.length).filter (closeB b j) := fun x => by
    rw [List.mem_filter, List.mem_filter, hp.mem_iff]
    constructor
    · rintro ⟨g1, g2⟩
      obtain ⟨g3, g4⟩ := mem_round.1 g1
      exact ⟨g1, by rw [← hcl x g3 g4]; exact g2⟩
    · rintro ⟨g1, g2⟩
      obtain ⟨g3, g4⟩ := mem_round.1 g1
      exact ⟨g1, by rw [hcl x g3 g4]; exact g2⟩
  have hb1 := (mem1 b).2 (List.mem_filter.2 ⟨hbF, hcb⟩)
  have hwb := weighS_bound h1.2.2 b
  have hbl := okb_len hb
  have rs : reachS W lo hi b j = (lowS W b j (roundS W.length b.length), highS W b j (roundS W.length b.length)) := by unfold reachS; rw [if_pos hre]
  rw [rs]
  simp only
  obtain ⟨a1, a2, a3⟩ := fold_min (f := weighS W) ((blsS W.length b.length (2 ^ W.length)).filter (closeA b j)) 1000
  obtain ⟨b1, b2, b3⟩ := fold_min (f := weighS W) ((roundS W.length b.length).filter (closeB b j)) (weighS W b)
  obtain ⟨c1, c2, c3⟩ := fold_max (f := weighS W) ((blsS W.length b.length (2 ^ W.length)).filter (closeA b j)) (-1)
  obtain ⟨d1, d2, d3⟩ := fold_max (f := weighS W) ((roundS W.length b.length).filter (closeB b j)) (weighS W b)
  have a4 := a2 b hb1
  have c4 := c2 b hb1
  have eL : lowA W b j (blsS W.length b.length (2 ^ W.length)) = lowS W b j (roundS W.length b.length) := by
    show List.foldl _ 1000 _ = List.foldl _ (weighS W b) _
    have e1 : List.foldl (fun a x => min a (weighS W x)) 1000 ((blsS W.length b.length (2 ^ W.length)).filter (closeA b j)) ≤ List.foldl (fun a x => min a (weighS W x)) (weighS W b) ((roundS W.length b.length).filter (closeB b j)) := by
      rcases b3 with b3 | ⟨x, hx, b3⟩
      · rw [b3]; exact a4
      · rw [b3]; exact a2 x ((mem1 x).2 hx)
    refine Int.le_antisymm e1 ?_
    rcases a3 with a3 | ⟨x, hx, a3⟩
    · omega
    · rw [a3]; exact b2 x ((mem1 x).1 hx)
  have eH : highA W b j (blsS W.length b.length (2 ^ W.length)) = highS W b j (roundS W.length b.length) := by
    show List.foldl _ (-1) _ = List.foldl _ (weighS W b) _
    have e1 : List.foldl (fun a x => max a (weighS W x)) (weighS W b) ((roundS W.length b.length).filter (closeB b j)) ≤ List.foldl (fun a x => max a (weighS W x)) (-1) ((blsS W.length b.length (2 ^ W.length)).filter (closeA b j)) := by
      rcases d3 with d3 | ⟨x, hx, d3⟩
      · rw [d3]; exact c4
      · rw [d3]; exact c2 x ((mem1 x).2 hx)
    refine Int.le_antisymm ?_ e1
    rcases c3 with c3 | ⟨x, hx, c3⟩
    · omega
    · rw [c3]; exact d2 x ((mem1 x).1 hx)
  have hpf := hp.filter (fitB W lo hi)
  refine ⟨eL, eH, hre, by rw [hf.2, hpf.length_eq], hf.1, hw, ?_, ?_, fun m hm => ?_⟩
  · unfold nearS; rw [if_pos hw, best_perm hpf]
  · unfold nearE; rw [if_pos hw]
    by_cases g : (roundS W.length b.length).filter (fitB W lo hi) = []
    · rw [if_pos g, if_pos (by rw [g] at hpf; exact hpf.eq_nil)]
    · rw [if_neg g, if_neg fun g2 => g (by rw [g2] at hpf; exact hpf.symm.eq_nil)]
  · have hmm := bestS_mem hm
    obtain ⟨m1, m2⟩ := List.mem_filter.1 hmm
    obtain ⟨m3, m4⟩ := (mem_bls h1.2.1).1 m1
    refine ⟨m4, fun hc => ?_⟩
    have hmc : m ∈ (roundS W.length b.length).filter (closeB b j) := (mem1 m).1 (List.mem_filter.2 ⟨m1, by unfold closeA; simpa using hc⟩)
    have k1 := b2 m hmc
    have k2 := d2 m hmc
    simp only [fitB, Bool.and_eq_true, decide_eq_true_eq] at m2
    exact ⟨Int.le_trans m2.1 k2, Int.le_trans k1 m2.2⟩
end Go.Proofs.Ytmoifofihafgmaa

/- The revolving door: neighbours in the round differ by one exchange; sets of bits. -/
namespace Go.Proofs.Ytmoifofihafgmaa
open Go Go.Proofs.Ytmoifofihafgmaa.AX

def nbr (F : List (List Int)) : Prop := ∀ (i : Nat) (a b : List Int), F[i]? = some a → F[i + 1]? = some b → (lack a b).length = 1
theorem round_split {n k : Nat} (h0 : 0 < k) (hk : k ≤ n) : roundS (n + 1) k = roundS n k ++ (roundS n (k - 1)).reverse.map (· ++ [(n : Int)]) := by
  simp [roundS, show k ≠ 0 by omega, show k ≠ n + 1 by omega]
theorem round_first : ∀ (n k : Nat), k ≤ n → (roundS n k)[0]? = some (iota k)
  | 0, k, h => by
    obtain rfl : k = 0 := by omega
    rfl
  | n + 1, k, h => by
    by_cases h0 : k = 0
    · subst h0; rw [roundS_zero]; rfl
    · by_cases h1 : k = n + 1
      · subst h1; rw [roundS_full]; rfl
      · rw [round_split (by omega) (by omega), List.getElem?_append_left (round_pos (by omega))]
        exact round_first n k (by omega)
theorem round_last (n k : Nat) (h : k ≤ n) : (roundS (n + 1) (k + 1))[(roundS (n + 1) (k + 1)).length - 1]? = some (iota k ++ [(n : Int)]) := by
  by_cases h1 : k = n
  · subst h1; rw [roundS_full, iota_succ]; rfl
  · rw [round_split (by omega) (by omega)]
    have hp := round_pos (n := n) (k := k) h
    have hf := round_first n k h
    simp only [Nat.add_sub_cancel, List.length_append, List.length_map, List.length_reverse]
    rw [List.getElem?_append_right (by omega), List.getElem?_map, List.getElem?_reverse (by omega), show (roundS n k).length - 1 - ((roundS n (k + 1)).length + (roundS n k).length - 1 - (roundS n (k + 1)).length) = 0 by omega, hf]
    rfl
theorem lack_snoc {n : Nat} {x y : List Int} (hx : Okb n x) : lack (x ++ [(n : Int)]) (y ++ [(n : Int)]) = lack x y := by
  unfold lack
  rw [List.filter_append]
  have h1 : [(n : Int)].filter (fun z => decide (z ∉ y ++ [(n : Int)])) = [] := by simp
  rw [h1, List.append_nil]
  refine List.filter_congr fun z hz => ?_
  have := hx.1 z hz
  have hne : z ≠ (n : Int) := by omega
  simp [hne]
theorem lack_one1 {j m : Nat} (h : j ≤ m) : (lack (iota j ++ [(m : Int)]) (iota (j + 1))).length = if j = m then 0 else 1 := by
  unfold lack
  rw [List.filter_append]
  have h1 : (iota j).filter (fun z => decide (z ∉ iota (j + 1))) = [] := by
    rw [List.filter_eq_nil_iff]
    intro z hz
    rw [mem_iota] at hz
    have : z ∈ iota (j + 1) := by rw [mem_iota]; omega
    simp [this]
  rw [h1, List.nil_append]
  by_cases g : j = m
  · have : (m : Int) ∈ iota (j + 1) := by rw [mem_iota]; omega
    rw [if_pos g, List.filter_cons, if_neg (by simp [this])]; rfl
  · have : (m : Int) ∉ iota (j + 1) := by rw [mem_iota]; omega
    simp [this, g]
theorem lack_one2 {j m : Nat} (h : j < m) : (lack (iota (j + 1) ++ [(m : Int)]) (iota j ++ [(m : Int)] ++ [((m + 1 : Nat) : Int)])).length = 1 := by
  unfold lack
  rw [iota_succ, List.filter_append, List.filter_append]
  have h1 : (iota j).filter (fun z => decide (z ∉ iota j ++ [(m : Int)] ++ [((m + 1 : Nat) : Int)])) = [] := by
    rw [List.filter_eq_nil_iff]
    intro z hz
    simp [hz]
  have h2 : (j : Int) ∉ iota j ++ [(m : Int)] ++ [((m + 1 : Nat) : Int)] := by
    simp only [List.mem_append, mem_iota, List.mem_singleton]
    omega
  have h3 : (m : Int) ∈ iota j ++ [(m : Int)] ++ [((m + 1 : Nat) : Int)] := by simp
  rw [h1]
  simp only [List.filter_cons, List.filter_nil, h2, h3, not_true_eq_false, not_false_eq_true, decide_true, decide_false, if_true]
  simp
theorem round_nbr : ∀ (n k : Nat), k ≤ n → nbr (roundS n k)
  | 0, k, h => by
    obtain rfl : k = 0 := by omega
    intro i a b _ hb
    rw [roundS_zero] at hb
    simp at hb
  | n + 1, k, h => by
    intro i a b ha hb
    by_cases h0 : k = 0
    · subst h0; rw [roundS_zero] at hb; simp at hb
    · by_cases h1 : k = n + 1
      · subst h1; rw [roundS_full] at hb; simp at hb
      · have ih1 := round_nbr n k (by omega)
        have ih2 := round_nbr n (k - 1) (by omega)
        rw [round_split (by omega) (by omega)] at ha hb
        rw [List.getElem?_append] at ha hb
        by_cases g1 : i + 1 < (roundS n k).length
        · rw [if_pos (by omega)] at ha
          rw [if_pos g1] at hb
          exact ih1 i a b ha hb
        · rw [if_neg g1] at hb
          by_cases g2 : i < (roundS n k).length
          · rw [if_pos g2] at ha
            obtain ⟨m, rfl⟩ : ∃ m, n = m + 1 := ⟨n - 1, by omega⟩
            obtain ⟨j, rfl⟩ : ∃ j, k = j + 1 := ⟨k - 1, by omega⟩
            rw [show i = (roundS (m + 1) (j + 1)).length - 1 by omega, round_last m j (by omega)] at ha
            rw [show i + 1 - (roundS (m + 1) (j + 1)).length = 0 by omega] at hb
            have hp := round_pos (n := m + 1) (k := j) (by omega)
            rw [List.getElem?_map, List.getElem?_reverse (by simpa using hp)] at hb
            simp only [Nat.add_sub_cancel, Nat.sub_zero] at hb
            obtain rfl : iota j ++ [(m : Int)] = a := by simpa using ha
            cases j with
            | zero =>
              rw [roundS_zero] at hb
              obtain rfl : [((m + 1 : Nat) : Int)] = b := by simpa using hb
              have hmm : ¬ (m : Int) = (m : Int) + 1 := by omega
              simp [iota, lack, hmm]
            | succ j =>
              rw [round_last m j (by omega)] at hb
              obtain rfl : iota j ++ [(m : Int)] ++ [((m + 1 : Nat) : Int)] = b := by simpa using hb
              exact lack_one2 (by omega)
          · rw [if_neg g2] at ha
            rw [List.getElem?_map] at ha hb
            obtain ⟨x, hx, rfl⟩ := Option.map_eq_some_iff.1 ha
            obtain ⟨y, hy, rfl⟩ := Option.map_eq_some_iff.1 hb
            have hl := (List.getElem?_eq_some_iff.1 hy).1
            simp only [List.length_reverse] at hl
            rw [List.getElem?_reverse (by omega)] at hx hy
            have ox := okb_round (List.mem_of_getElem? hx)
            have oy := okb_round (List.mem_of_getElem? hy)
            have lx := roundS_len _ _ _ (List.mem_of_getElem? hx)
            have ly := roundS_len _ _ _ (List.mem_of_getElem? hy)
            rw [lack_snoc ox, lack_sym ox.2 oy.2 (by omega)]
            refine ih2 _ y x hy ?_
            rw [← hx]
            congr 1
            omega
theorem round_ring {n k i : Nat} (h0 : 0 < k) (hk : k < n) (hi : i < (roundS n k).length) (hj : (i + 1) % (roundS n k).length < (roundS n k).length) : (lack (roundS n k)[i] (roundS n k)[(i + 1) % (roundS n k).length]).length = 1 := by
  by_cases h : i + 1 < (roundS n k).length
  · refine round_nbr n k (by omega) i _ _ (List.getElem?_eq_getElem hi) ?_
    rw [← List.getElem?_eq_getElem hj, Nat.mod_eq_of_lt h]
  · obtain ⟨m, rfl⟩ : ∃ m, n = m + 1 := ⟨n - 1, by omega⟩
    obtain ⟨j, rfl⟩ : ∃ j, k = j + 1 := ⟨k - 1, by omega⟩
    have hl := round_last m j (by omega)
    have hf := round_first (m + 1) (j + 1) (by omega)
    have e1 : (roundS (m + 1) (j + 1))[i] = iota j ++ [(m : Int)] := by
      have := List.getElem?_eq_getElem hi
      rw [show (roundS (m + 1) (j + 1)).length - 1 = i by omega, this] at hl
      simpa using hl
    have h3 : (i + 1) % (roundS (m + 1) (j + 1)).length = 0 := by rw [show i + 1 = (roundS (m + 1) (j + 1)).length by omega, Nat.mod_self]
    have e2 : (roundS (m + 1) (j + 1))[(i + 1) % (roundS (m + 1) (j + 1)).length] = iota (j + 1) := by
      generalize (i + 1) % (roundS (m + 1) (j + 1)).length = q at h3 hj ⊢
      subst h3
      have := List.getElem?_eq_getElem hj
      rw [hf] at this
      simpa using this.symm
    rw [e1, e2, lack_one1 (by omega), if_neg (by omega)]
theorem idx_at {F : List (List Int)} (hF : F.Pairwise (· ≠ ·)) {i : Nat} (hi : i < F.length) : idxS F[i] F = i := by
  obtain ⟨g1, g2⟩ := idxS_get (List.getElem_mem hi)
  rw [List.pairwise_iff_getElem] at hF
  rcases Nat.lt_trichotomy (idxS F[i] F) i with h | h | h
  · exact absurd g2 (hF _ _ g1 hi h)
  · exact h
  · exact absurd g2.symm (hF _ _ hi g1 h)
theorem round_low {n k i : Nat} (h0 : 0 < k) (hk : k ≤ n) (hi : i < (roundS n k).length) (hi' : i < (roundS (n + 1) k).length) : (roundS (n + 1) k)[i] = (roundS n k)[i] ∧ (n : Int) ∉ (roundS (n + 1) k)[i] := by
  have e : (roundS (n + 1) k)[i] = (roundS n k)[i] := by
    have h1 := List.getElem?_eq_getElem hi'
    generalize (roundS (n + 1) k)[i] = z at *
    rw [round_split h0 hk, List.getElem?_append_left hi, List.getElem?_eq_getElem hi] at h1
    exact (Option.some.inj h1).symm
  refine ⟨e, ?_⟩
  rw [e]
  intro hm
  have := (okb_round (List.getElem_mem hi)).1 _ hm
  omega
theorem round_high {n k i : Nat} (h0 : 0 < k) (hk : k ≤ n) (hi : (roundS n k).length ≤ i) (hi' : i < (roundS (n + 1) k).length) : ∃ h : (roundS (n + 1) k).length - 1 - i < (roundS n (k - 1)).length, (roundS (n + 1) k)[i] = (roundS n (k - 1))[(roundS (n + 1) k).length - 1 - i] ++ [(n : Int)] := by
  have hlen : (roundS (n + 1) k).length = (roundS n k).length + (roundS n (k - 1)).length := by rw [round_split h0 hk]; simp
  have hb : (roundS (n + 1) k).length - 1 - i < (roundS n (k - 1)).length := by omega
  refine ⟨hb, ?_⟩
  have h1 := List.getElem?_eq_getElem hi'
  generalize (roundS (n + 1) k)[i] = z at *
  rw [round_split h0 hk, List.getElem?_append_right hi, List.getElem?_map, List.getElem?_reverse (by omega), show (roundS n (k - 1)).length - 1 - (i - (roundS n k).length) = (roundS (n + 1) k).length - 1 - i by omega, List.getElem?_eq_getElem hb] at h1
  exact (Option.some.inj h1).symm

/-! ### Sets of bits -/
def bitS (l : List Int) : Nat := l.foldl (fun s x => s ||| 2 ^ x.toNat) 0
theorem bit_fold : ∀ (l : List Int) (s i : Nat), (l.foldl (fun s x => s ||| 2 ^ x.toNat) s).testBit i = (s.testBit i || l.any fun x => decide (x.toNat = i))
  | [], s, i => by simp
  | x :: l, s, i => by
    rw [List.foldl_cons, bit_fold l, Nat.testBit_or, Nat.testBit_two_pow, List.any_cons, Bool.or_assoc]
theorem bit_inj {n : Nat} {l m : List Int} (hl : Okb n l) (hm : Okb n m) (h : bitS l = bitS m) : l = m := by
  refine sorted_ext hl.2 hm.2 fun x => ?_
  have key : ∀ {l m : List Int}, Okb n l → Okb n m → bitS l = bitS m → x ∈ l → x ∈ m := by
    intro l m hl hm h hx
    have h1 : (bitS l).testBit x.toNat = true := by
      unfold bitS
      rw [bit_fold]
      simp only [Nat.zero_testBit, Bool.false_or, List.any_eq_true, decide_eq_true_eq]
      exact ⟨x, hx, rfl⟩
    rw [h] at h1
    unfold bitS at h1
    rw [bit_fold] at h1
    simp only [Nat.zero_testBit, Bool.false_or, List.any_eq_true, decide_eq_true_eq] at h1
    obtain ⟨y, hy, e⟩ := h1
    have a := hl.1 x hx
    have b := hm.1 y hy
    obtain rfl : y = x := by omega
    exact hy
  exact ⟨key hl hm h, key hm hl h.symm⟩
theorem bit_take {l : List Int} {i : Nat} (hi : i < l.length) : bitS (l.take (i + 1)) = bitS (l.take i) ||| 2 ^ (l[i]).toNat := by
  unfold bitS
  rw [List.take_add_one, List.getElem?_eq_getElem hi, List.foldl_append]
  rfl
theorem bit_lt {l : List Int} (h : ∀ x ∈ l, x < 16) : bitS l < 65536 := by
  unfold bitS
  have : ∀ (l : List Int) (s : Nat), (∀ x ∈ l, x < 16) → s < 2 ^ 16 → l.foldl (fun s x => s ||| 2 ^ x.toNat) s < 2 ^ 16 := by
    intro l
    induction l with
    | nil => intro s _ hs; exact hs
    | cons x l ih =>
      intro s hl hs
      rw [List.foldl_cons]
      have hx := hl x (by simp)
      exact ih _ (fun y hy => hl y (by simp [hy])) (Nat.or_lt_two_pow hs (Nat.pow_lt_pow_right (by decide) (by omega)))
  exact this l 0 h (by decide)
theorem n_or16 {P : Program} {t : TypeId} {l : Bool} (x y : Nat) (hx : x < 65536) (hy : y < 65536) : binV P .or t l (.int .u16 (x : Int)) (.int .u16 (y : Int)) = some (.int .u16 ((x ||| y : Nat) : Int)) := by
  rw [b_or]
  have h1 : (BitVec.ofInt IntKind.u16.bits (x : Int) ||| BitVec.ofInt IntKind.u16.bits (y : Int)).toNat = x ||| y := by
    show (BitVec.ofInt 16 (x : Int) ||| BitVec.ofInt 16 (y : Int)).toNat = x ||| y
    rw [ofInt_nat, ofInt_nat, BitVec.toNat_or, BitVec.toNat_ofNat, BitVec.toNat_ofNat, Nat.mod_eq_of_lt hx, Nat.mod_eq_of_lt hy]
  rw [h1, wrapN16 (Nat.or_lt_two_pow (n := 16) hx hy)]

/-! ### A map of sets -/
def mapU (l : List Nat) : List (AV × AV) := l.map fun s : Nat => (.int .u16 (s : Int), .bool true)
theorem mfind_U (k : Nat) : ∀ l : List Nat, mfind (.int .u16) (.int .u16 (k : Int)) (mapU l) = some (if k ∈ l then some (.bool true) else none)
  | [] => by simp [mapU, mfind]
  | p :: l => by
    have := mfind_U k l
    simp only [mapU] at this
    simp only [mapU, List.map_cons, mfind, sameKeyA, if_true]
    by_cases h : k = p
    · subst h; simp
    · have : ((k : Int) == (p : Int)) = false := by simpa using (by omega : ¬ (k : Int) = p)
      simp [*]
theorem mput_U (k : Nat) : ∀ l : List Nat, k ∉ l → mput (.int .u16) (.int .u16 (k : Int)) (.bool true) (mapU l) = some (mapU (l ++ [k]))
  | [], _ => by simp [mapU, mput]
  | p :: l, h => by
    have := mput_U k l (fun e => h (by simp [e]))
    simp only [mapU] at this
    simp only [mapU, List.map_cons, mput, sameKeyA, if_true, List.cons_append]
    have hne : k ≠ p := fun e => h (by simp [e])
    have h2 : ((k : Int) == (p : Int)) = false := by simpa using (by omega : ¬ (k : Int) = p)
    simp [h2, this]
theorem look_U {P : Program} {H : AH} {t : TypeId} {r : Nat} {l : List Nat} {k : Nat} (ht : mapT P t = some (.int .u16, .bool false)) (h : H[r]? = some (.map (mapU l))) :
    aLook P H t (.map r) (.int .u16 (k : Int)) false = some (.bool (decide (k ∈ l))) := by
  have hr : mrow H r = some (mapU l) := by unfold mrow; rw [h]
  simp only [aLook, ht, keyOkA, decide_true, if_true, hr, Option.bind_some, mfind_U, Option.map_some]
  by_cases g : k ∈ l <;> simp [g, lookV]
theorem put_U {P : Program} {H : AH} {t : TypeId} {r : Nat} {l : List Nat} {k : Nat} (ht : mapT P t = some (.int .u16, .bool false)) (h : H[r]? = some (.map (mapU l))) (hk : k ∉ l) :
    aMapPut P H t (.map r) (.int .u16 (k : Int)) (.bool true) = some (H.set r (.map (mapU (l ++ [k])))) := by
  have hr : mrow H r = some (mapU l) := by unfold mrow; rw [h]
  simp only [aMapPut, ht, keyOkA, decide_true, if_true, hr, Option.bind_some, mput_U k l hk, Option.map_some]
theorem make_U {P : Program} {H : AH} {t : TypeId} {d : TypeDesc × AV} (ht : mapT P t = some d) : aMapMake P t none H = some (some (.map H.length), H ++ [.map (mapU [])]) := by
  simp [aMapMake, ht, mapU]
theorem mt59 : mapT Try.prog 59 = some (.int .u16, .bool false) := by kernel_rfl
end Go.Proofs.Ytmoifofihafgmaa

/- What BlendDoor asks of its rows. -/
namespace Go.Proofs.Ytmoifofihafgmaa
open Go Go.Proofs.Ytmoifofihafgmaa.AX

theorem door1_ac (v : AV) (q c s : Nat) (H : AH) (Q : AV → AH → Prop) (hq : H[q]? = some (.row [.int .i64 (c : Int)] 0 s false)) (hc : c < 100000) (h : ∀ u s', Q u (H.set q (.row [.int .i64 ((c : Int) + 1)] 0 s' false))) : AC Try.prog 43 [v, .ptr q 0 0] H Q := by
  have e : ld H q 0 0 = some (.int .i64 (c : Int)) := by rw [ld_row hq]; rfl
  have hst := store_row (P := Try.prog) (u := 3) (p := 0) sc3 (x := .int .i64 ((c : Int) + 1)) (y := .int .i64 (c : Int)) rfl hq rfl
  refine L_body 5 Try.func43 rfl rfl ?_
  refine L_reg [1] (fun K hK => ?_)
  simp [e, wrap_i64 (a := (c : Int) + 1) (by omega), hst]
  apply hK; clear hK K
  exact ⟨.inl rfl, _, rfl, h _ _⟩

/-- Lists that lie in cells. -/
def SlE (H : AH) (ws : List AV) (L : List (List Int)) : Prop := ws.length = L.length ∧ ∀ j (h : j < L.length), ∃ rr off ver sz full, ws[j]? = some (.slice rr off L[j].length ver sz full) ∧ Ls H (.slice rr off L[j].length ver sz full) L[j]
/-- What is an int stays. -/
def Stay (H H' : AH) : Prop := ∀ r p v x, ld H r p v = some (.int .i64 x) → ld H' r p v = some (.int .i64 x)
theorem Stay.ls {H H' : AH} (hm : Stay H H') {w : AV} {l : List Int} (h : Ls H w l) : Ls H' w l := by
  obtain ⟨r, off, ver, sz, full, rfl, h⟩ := h
  refine ⟨r, off, ver, sz, full, rfl, fun i hi => ?_⟩
  obtain ⟨r', g1, g2, g3⟩ := h i hi
  exact ⟨r', g1, g2, hm _ _ _ _ g3⟩
theorem Stay.sle {H H' : AH} (hm : Stay H H') {ws : List AV} {L : List (List Int)} (h : SlE H ws L) : SlE H' ws L :=
  ⟨h.1, fun j hj => by
    obtain ⟨rr, off, ver, sz, full, g1, g2⟩ := h.2 j hj
    exact ⟨rr, off, ver, sz, full, g1, hm.ls g2⟩⟩
theorem Stay.ext {H H' : AH} (h : Ext H H') : Stay H H' := fun _ _ _ _ g => h.ld g
theorem Stay.map {H : AH} {q : Nat} {m : List (AV × AV)} (hM : H[q]? = some (.map m)) (o : AObj) : Stay H (H.set q o) := by
  intro r p v x g
  by_cases e : r = q
  · subst e; unfold ld at g; rw [hM] at g; simp at g
  · unfold ld at g ⊢; rw [List.getElem?_set_ne (Ne.symm e)]; exact g
theorem Stay.keep {H H' : AH} {r ver st : Nat} {ws : List AV} {L : List (List Int)} (hS : SlE H ws L) (hr : H[r]? = some (.row ws ver st false) ∨ H.length ≤ r) (hK : KeepX r H H') : Stay H H' := by
  intro r1 p v x g
  have hlt := ld_lt g
  by_cases e : r1 = r
  · subst e
    rcases hr with hr | hr
    · have g0 := ld_row (p := p) hr
      by_cases hp : p < L.length
      · obtain ⟨rr, off, ver1, sz, full, g1, -⟩ := hS.2 p hp
        unfold ld at g
        rw [hr] at g
        simp [g1, known] at g
      · have : ws[p]? = none := List.getElem?_eq_none (by have := hS.1; omega)
        unfold ld at g
        rw [hr] at g
        simp [this, known] at g
    · omega
  · unfold ld at g ⊢; rw [hK.2 r1 e hlt]; exact g
theorem SlE.push {H : AH} {ws : List AV} {L : List (List Int)} (h : SlE H ws L) {rr : Option Nat} {off ver sz : Nat} {full : Bool} {l : List Int} (hl : Ls H (.slice rr off l.length ver sz full) l) : SlE H (ws ++ [.slice rr off l.length ver sz full]) (L ++ [l]) := by
  refine ⟨by simp [h.1], fun j hj => ?_⟩
  have hlen := h.1
  by_cases g : j < L.length
  · obtain ⟨a, b, c, d, e, g1, g2⟩ := h.2 j g
    rw [List.getElem_append_left g]
    exact ⟨a, b, c, d, e, by rw [List.getElem?_append_left (by omega), g1], g2⟩
  · obtain rfl : j = L.length := by simp at hj; omega
    rw [List.getElem_append_right (by omega)]
    refine ⟨rr, off, ver, sz, full, ?_, ?_⟩
    · rw [List.getElem?_append_right (by omega)]; simp [hlen]
    · simpa using hl
theorem SlE.get {H : AH} {N : Nat} {v : AV} {ws : List AV} {L : List (List Int)} (h : SlE H ws L) (hO : OwnF N H v ws) (hne : 0 < L.length) : ∃ r ver, v = .slice (some r) 0 L.length ver 1 false ∧ ∀ j (hj : j < L.length), ∃ rr off ver1 sz full, ld H r j ver = some (.slice rr off L[j].length ver1 sz full) ∧ Ls H (.slice rr off L[j].length ver1 sz full) L[j] := by
  rcases hO with ⟨rfl, -⟩ | ⟨r, ver, st, -, rfl, hr⟩
  · have := h.1; simp at this; omega
  · refine ⟨r, ver, by rw [h.1], fun j hj => ?_⟩
    obtain ⟨a, b, c, d, e, g1, g2⟩ := h.2 j hj
    exact ⟨a, b, c, d, e, by rw [ld_row hr, g1]; rfl, g2⟩
theorem Ls.take {H : AH} {r off ver sz : Nat} {full full' : Bool} {l : List Int} {k : Nat} (h : Ls H (.slice (some r) off l.length ver sz full) l) (hk : k ≤ l.length) : Ls H (.slice (some r) (off + 0) k ver sz full') (l.take k) := by
  obtain ⟨r1, o1, v1, s1, f1, e, hg⟩ := h
  cases e
  refine ⟨some r, off + 0, ver, sz, full', by rw [List.length_take, Nat.min_eq_left hk], fun i hi => ?_⟩
  have hi' : i < k := by rw [List.length_take] at hi; omega
  obtain ⟨r', g1, g2, g3⟩ := hg i (by omega)
  exact ⟨r', g1, g2, by rw [Nat.add_zero, List.getElem_take]; exact g3⟩
theorem round_facts {n k : Nat} (hn1 : 1 ≤ n) (hn : n ≤ 10) (hk : k ≤ n) : sizeE n k = 0 ∧ countS n k = ((roundS n k).length : Int) ∧ fS n k = roundS n k := by
  have h0 : fS n k = roundS n k := by simp [fS]
  have h1 : sizeE (n : Int) (k : Int) = 0 := by
    have hl : leavesE (n : Int) = 0 := by unfold leavesE; rw [if_neg (by omega)]
    unfold sizeE
    rw [if_pos hl, if_neg (by omega)]
  exact ⟨h1, by unfold countS; rw [if_pos h1, h0], h0⟩
theorem nth_facts {n k i : Nat} (hn1 : 1 ≤ n) (hn : n ≤ 10) (hk : k ≤ n) (hi : i < (roundS n k).length) : nthE n k i = 0 ∧ nthS n k i = (roundS n k)[i] := by
  obtain ⟨h1, -, h3⟩ := round_facts hn1 hn hk
  have he : nthE (n : Int) (k : Int) (i : Int) = 0 := by
    unfold nthE
    rw [if_pos h1, h3, if_neg (by omega)]
  refine ⟨he, ?_⟩
  unfold nthS
  rw [if_pos he, h3]
  simp [hi]
theorem head_mem {l : List Int} (h : l ≠ []) : l.headD 0 ∈ l := by
  cases l with
  | nil => exact absurd rfl h
  | cons x l => simp
theorem next_mid {n k i : Nat} (hn : n ≤ 10) (h0 : 0 < k) (hk : k < n) (hi : i < (roundS n k).length) (hj : (i + 1) % (roundS n k).length < (roundS n k).length) :
    nextE n (roundS n k)[i] = 0 ∧ nextS n (roundS n k)[i] = (roundS n k)[(i + 1) % (roundS n k).length] ∧ (lack (roundS n k)[i] (roundS n k)[(i + 1) % (roundS n k).length]).length = 1 ∧ outS n (roundS n k)[i] ∈ (roundS n k)[i] ∧ outS n (roundS n k)[i] ∉ (roundS n k)[(i + 1) % (roundS n k).length] ∧
    inS n (roundS n k)[i] ∈ (roundS n k)[(i + 1) % (roundS n k).length] ∧ inS n (roundS n k)[i] ∉ (roundS n k)[i] := by
  have hr := round_ring h0 hk hi hj
  have ok1 := okb_round (List.getElem_mem hi)
  have ok2 := okb_round (List.getElem_mem hj)
  have l1 := roundS_len _ _ _ (List.getElem_mem hi)
  have l2 := roundS_len _ _ _ (List.getElem_mem hj)
  have hidx := idx_at (round_nodup n k) hi
  have hnx : (roundS n k)[(i + 1) % (roundS n k).length]? = some (roundS n k)[(i + 1) % (roundS n k).length] := List.getElem?_eq_getElem hj
  generalize (roundS n k)[i] = a at *
  generalize (roundS n k)[(i + 1) % (roundS n k).length] = b at *
  have hc := check_of ok1 (by omega) hn
  have he : nextE n a = 0 := by
    unfold nextE
    rw [if_pos hc, if_neg (by omega)]
  have hs : nextS n a = b := by
    unfold nextS
    have hf : fS n a.length = roundS n k := by simp [fS, l1]
    rw [if_pos he, hf, hidx, hnx]
    rfl
  have hr2 : (lack b a).length = 1 := by rw [← lack_sym ok1.2 ok2.2 (by omega)]; exact hr
  have m1 := mem_lack.1 (head_mem (l := lack a b) (fun e => by rw [e] at hr; simp at hr))
  have m2 := mem_lack.1 (head_mem (l := lack b a) (fun e => by rw [e] at hr2; simp at hr2))
  have ho : outS n a = (lack a b).headD 0 := by unfold outS; rw [if_pos he, hs]
  have hin : inS n a = (lack b a).headD 0 := by unfold inS; rw [if_pos he, hs]
  rw [ho, hin]
  exact ⟨he, hs, hr, m1.1, m1.2, m2.1, m2.2⟩
theorem next_end {n k : Nat} {a : List Int} (hn1 : 1 ≤ n) (hn : n ≤ 10) (h : k = 0 ∨ k = n) (ok1 : Okb n a) (l1 : a.length = k) : nextE n a = 12 ∧ nextS n a = [] ∧ outS n a = 0 ∧ inS n a = 0 := by
  have hc := check_of ok1 hn1 hn
  have he : nextE n a = 12 := by
    unfold nextE
    rw [if_pos hc, if_pos (by omega)]
  refine ⟨he, ?_, ?_, ?_⟩
  · unfold nextS; rw [if_neg (by omega)]
  · unfold outS; rw [if_neg (by omega)]
  · unfold inS; rw [if_neg (by omega)]
theorem num_facts {n k i : Nat} (hn1 : 1 ≤ n) (hn : n ≤ 10) (hi : i < (roundS n k).length) : checkE n (roundS n k)[i] = 0 ∧ numS n (roundS n k)[i] = (i : Int) := by
  have ok1 := okb_round (List.getElem_mem hi)
  have l1 := roundS_len _ _ _ (List.getElem_mem hi)
  have hidx := idx_at (round_nodup n k) hi
  generalize (roundS n k)[i] = a at *
  have hc := check_of ok1 hn1 hn
  refine ⟨hc, ?_⟩
  unfold numS
  have hf : fS n a.length = roundS n k := by simp [fS, l1]
  rw [if_pos hc, hf, hidx]
theorem nth_end {n k : Nat} (hn1 : 1 ≤ n) (hn : n ≤ 10) (hk : k ≤ n) : nthE n k ((roundS n k).length : Nat) = 2 := by
  obtain ⟨h1, -, h3⟩ := round_facts hn1 hn hk
  unfold nthE
  rw [if_pos h1, h3, if_pos (by omega)]
theorem blsS_most {n k s : Nat} : (blsS n k s).length ≤ s := by
  unfold blsS
  rw [List.length_map]
  exact Nat.le_trans (List.length_filter_le _ _) (by simp)
end Go.Proofs.Ytmoifofihafgmaa

/- BlendDoor, walked. -/
namespace Go.Proofs.Ytmoifofihafgmaa
open Go Go.Proofs.Ytmoifofihafgmaa.AX

set_option maxHeartbeats 3200000 in
set_option maxRecDepth 100000 in
theorem blendDoor_ac (lv sz : Nat) (h1 : lv < 256) (h2 : sz < 256) (H : AH) : AC Try.prog 7 [.int .u8 lv, .int .u8 sz] H fun u _ => u = .bool true := by
  refine L_body 278 Try.func7 rfl rfl ?_
  refine L_reg [0, 1] (fun K hK => ?_)
  simp
  apply hK; clear hK K
  have hn1 : ((lv : Int)).tmod 10 = ((lv % 10 : Nat) : Int) := rem_nat lv 10
  have hn2 : lv % 10 < 10 := Nat.mod_lt _ (by omega)
  generalize lv % 10 = m at hn1 hn2
  obtain ⟨n, hn⟩ : ∃ n : Nat, 1 + (m : Int) = (n : Int) := ⟨m + 1, by omega⟩
  have hnn : 1 ≤ n ∧ n ≤ 10 := by omega
  refine L_reg [1, 5] (fun K hK => ?_)
  simp [wrap_i64 (a := (lv : Int)) (by omega), hn1, hn, wrap_i64 (a := (n : Int)) (by omega)]
  apply hK; clear hK K
  clear hn1 hn2 hn
  have hk1 : ((sz : Int)).tmod ((n : Int) + 1) = ((sz % (n + 1) : Nat) : Int) := rem_nat sz (n + 1)
  have hk2 : sz % (n + 1) < n + 1 := Nat.mod_lt _ (by omega)
  generalize sz % (n + 1) = k at hk1 hk2
  refine L_reg [5, 6] (fun K hK => ?_)
  simp [wrap_i64 (a := (sz : Int)) (by omega), wrap_i64 (a := (n : Int) + 1) (by omega), show ¬ ((n : Int) + 1 = 0) by omega, hk1]
  apply hK; clear hK K
  clear hk1
  obtain ⟨I3, hI3, hz3⟩ := zeroT_some zt3
  refine L_reg [5, 6, 7] (fun K hK => ?_)
  simp [hI3, hz3, st_zero]
  apply hK; clear hK K
  have c0 : (H ++ [AObj.row [.int .i64 0] 0 0 false])[H.length]? = some (.row [.int .i64 0] 0 0 false) := by simp
  generalize H ++ [AObj.row [.int .i64 0] 0 0 false] = H0 at *
  generalize H.length = q at *
  clear hI3 hz3
  refine L_reg [5, 6, 7] (fun K hK => ?_)
  simp [okFn_low]
  refine blends_ac n k (by omega) 43 _ (fun D H' => ∃ s, H'[q]? = some (.row [.int .i64 D.length] 0 s false)) H0 _ (okFn_low (by omega) (by omega)) (q + 1) (fun D H1 ⟨s, h⟩ => lt_of_row h) ⟨0, c0⟩ (fun D H1 H2 ⟨s, h⟩ hE => ⟨s, hE.row h⟩) (fun s v H1 hs hk hJ hO Q hQ => ?_) (fun Hd hJ => ?_)
  · obtain ⟨t, hJ⟩ := hJ
    have h2n : 2 ^ n ≤ 1024 := Nat.le_trans (Nat.pow_le_pow_right (by omega) hnn.2) (by decide)
    have := blsS_most (n := n) (k := k) (s := s)
    exact door1_ac v q _ t H1 Q hJ (by omega) (fun u s' => hQ u _ ⟨s', by rw [get_set hJ]; simp⟩)
  simp
  apply hK; clear hK K
  obtain ⟨t, hJ⟩ := hJ
  rw [(bls_perm hnn.2).length_eq] at hJ
  obtain ⟨f1, f2, f3⟩ := round_facts hnn.1 hnn.2 (show k ≤ n by omega)
  have hF2 := round_le2 (k := k) hnn.2
  have hF1 := round_pos (n := n) (k := k) (by omega)
  refine L_reg [5, 6, 7, 8, 9] (fun K hK => ?_)
  simp [okFn_low]
  refine Count_ac n k _ _ ?_
  simp [f1, f2]
  apply hK; clear hK K
  have e7 : ld Hd q 0 0 = some (.int .i64 (roundS n k).length) := by rw [ld_row hJ]; rfl
  refine L_reg [5, 6, 8, 63] (fun K hK => ?_)
  simp [pickV, e7]
  apply hK; clear hK K
  refine L_false (by simp) ?_
  refine L_reg [5, 6, 8, 10] (fun K hK => ?_)
  simp
  apply hK; clear hK K
  refine L_reg [5, 6, 8, 10, 11] (fun K hK => ?_)
  simp [make_U mt59]
  apply hK; clear hK K
  have hM : (Hd ++ [AObj.map (mapU [])])[Hd.length]? = some (.map (mapU [])) := by simp
  generalize Hd ++ [AObj.map (mapU [])] = H0 at *
  generalize Hd.length = q at *
  clear hJ e7 c0
  refine L_reg [5, 6, 8, 10, 11, 65, 66] (fun K hK => ?_)
  simp
  apply hK; clear hK K
  refine L_block (L_loopV [10, 66] (fun j vs H' => ∃ (i : Nat) (vL : AV) (ws : List AV), j = (roundS n k).length - i ∧ i ≤ (roundS n k).length ∧ vs = [vL, .int .i64 i] ∧ H'[q]? = some (.map (mapU (((roundS n k).take i).map bitS))) ∧ OwnF (q + 1) H' vL ws ∧ SlE H' ws ((roundS n k).take i)) _ [.slice none 0 0 0 1 false, .int .i64 (0 : Nat)] rfl ⟨0, _, [], rfl, by omega, rfl, by simpa using hM, .nil _ _, by simp [SlE]⟩ ?_)
  clear hM H0
  rintro j _ H1 ⟨i, vL, ws, rfl, hi, rfl, hM, hO, hS⟩
  refine L_reg [5, 6, 8, 10, 11, 65, 66, 67] (fun K hK => ?_)
  simp
  apply hK; clear hK K
  refine L_dec (i < (roundS n k).length) (by simp) (fun hlt => ?_) (fun hge => L_exit ?_)
  · refine L_block ?_
    refine L_reg [5, 6, 8, 10, 11, 12, 65, 66] (fun K hK => ?_)
    simp
    apply hK; clear hK K
    obtain ⟨n1, n2⟩ := nth_facts hnn.1 hnn.2 (show k ≤ n by omega) hlt
    obtain ⟨n3, n4⟩ := num_facts hnn.1 hnn.2 hlt
    have hnd := round_nodup n k
    have hmem := List.getElem_mem hlt
    have okl := okb_round hmem
    have lenl := roundS_len _ _ _ hmem
    have htk : (roundS n k).take (i + 1) = (roundS n k).take i ++ [(roundS n k)[i]] := by rw [List.take_add_one, List.getElem?_eq_getElem hlt]; rfl
    have hni : bitS (roundS n k)[i] ∉ ((roundS n k).take i).map bitS := by
      intro hm
      obtain ⟨x, hx, e⟩ := List.mem_map.1 hm
      obtain ⟨p, hp, rfl⟩ := List.mem_iff_getElem.1 hx
      have hp' : p < i := by rw [List.length_take] at hp; omega
      rw [List.getElem_take] at e
      have := bit_inj (okb_round (List.getElem_mem _)) okl e
      exact (List.pairwise_iff_getElem.1 hnd) p i (by omega) hlt hp' this
    generalize hlE : (roundS n k)[i] = l at *
    obtain ⟨M, hMe⟩ : ∃ M, ((roundS n k).take i).map bitS = M := ⟨_, rfl⟩
    rw [hMe] at hM hni
    refine L_reg [5, 6, 8, 10, 11, 12, 13, 14, 65, 66] (fun K hK => ?_)
    simp [okFn_low]
    refine Nth_ac n k i H1 _ (fun v1 H2 hL hE => ?_)
    rw [n2] at hL
    obtain ⟨r, off, ver, z, full, rfl, -⟩ := id hL
    simp [n1]
    apply hK; clear hK K
    have hM := hE.row hM
    have hO := ownF_ext hO (fun j _ o ho => hE.row ho)
    have hS := (Stay.ext hE).sle hS
    clear hE
    refine L_reg [5, 6, 8, 10, 11, 12, 13, 14, 15, 16, 65, 66] (fun K hK => ?_)
    simp [okFn_low]
    refine Number_ac n _ l H2 _ (by omega) hL ?_
    simp [n3, n4]
    apply hK; clear hK K
    refine L_reg [5, 6, 8, 10, 11, 13, 65, 66, 99] (fun K hK => ?_)
    simp [okFn_low, pickV]
    refine valid_ac n k _ l H2 _ (by omega) (by omega) okl lenl hL ?_
    simp [pickV]
    apply hK; clear hK K
    refine L_false (by simp) ?_
    refine L_reg [5, 6, 8, 10, 11, 13, 17, 65, 66] (fun K hK => ?_)
    simp
    apply hK; clear hK K
    refine L_reg [5, 6, 8, 10, 11, 13, 17, 65, 66, 100, 101, 102] (fun K hK => ?_)
    simp
    apply hK; clear hK K
    have hl16 : ∀ p, ∀ x ∈ l.take p, x < 16 := fun p x hx => by have := okl.1 x (List.mem_of_mem_take hx); omega
    refine L_block (L_loopV [17, 102] (fun j vs H' => ∃ p : Nat, j = l.length - p ∧ p ≤ l.length ∧ vs = [.int .u16 (bitS (l.take p) : Nat), .int .i64 p] ∧ H2 = H') _ [.int .u16 0, .int .i64 (0 : Nat)] rfl ⟨0, rfl, by omega, by simp [bitS], rfl⟩ ?_)
    rintro j _ _ ⟨p, rfl, hp, rfl, rfl⟩
    refine L_reg [5, 6, 8, 10, 11, 13, 17, 65, 66, 100, 101, 102, 103] (fun K hK => ?_)
    simp
    apply hK; clear hK K
    refine L_dec (p < l.length) (by simp) (fun hlt2 => ?_) (fun hge2 => L_exit ?_)
    · refine L_block ?_
      obtain ⟨r1, o1, v1, s1, f1, e, hg⟩ := id hL
      cases e
      obtain ⟨r', rfl, rfl, hld⟩ := hg p hlt2
      have hx := okl.1 _ (List.getElem_mem hlt2)
      have hbt := bit_take hlt2
      have hb1 := bit_lt (hl16 p)
      generalize l[p] = x at *
      obtain ⟨b, rfl⟩ : ∃ b : Nat, x = (b : Int) := ⟨x.toNat, by omega⟩
      rw [Int.toNat_natCast] at hbt
      have hb2 : 2 ^ b < 2 ^ 16 := Nat.pow_lt_pow_right (by decide) (by omega)
      have hor := fun t g => n_or16 (P := Try.prog) (t := t) (l := g) (bitS (l.take p)) (2 ^ b) hb1 hb2
      have hsh := fun t g => n_shl16 (P := Try.prog) (t := t) (l := g) (k' := .i64) b (by omega)
      rw [← hbt] at hor
      generalize 2 ^ b = N2 at *
      generalize hB1 : bitS (l.take p) = B1 at *
      generalize hB2 : bitS (l.take (p + 1)) = B2 at *
      refine L_reg [5, 6, 8, 10, 11, 13, 17, 19, 65, 66, 100, 101, 102] (fun K hK => ?_)
      simp [hlt2, hld]
      apply hK; clear hK K
      refine L_reg [5, 6, 8, 10, 11, 13, 17, 65, 66, 100, 101, 102] (fun K hK => ?_)
      simp [hsh, hor]
      apply hK; clear hK K
      refine L_reg [5, 6, 8, 10, 11, 13, 17, 65, 66, 100, 101, 102] (fun K hK => ?_)
      simp [wrap_i64 (a := (p : Int) + 1) (by omega)]
      apply hK; clear hK K
      exact ⟨l.length - (p + 1), [.int .u16 B2, .int .i64 (p + 1 : Nat)], by omega, by simp, p + 1, rfl, by omega, by rw [hB2], rfl⟩
    · obtain rfl : p = l.length := by omega
      rw [List.take_length]
      refine L_reg [5, 6, 8, 10, 11, 13, 17, 65, 66, 113] (fun K hK => ?_)
      simp [look_U mt59 hM, hni]
      apply hK; clear hK K
      refine L_false (by simp) ?_
      refine L_reg [5, 6, 8, 10, 11, 13, 65, 66] (fun K hK => ?_)
      simp [put_U mt59 hM hni]
      apply hK; clear hK K
      have hqlt := (List.getElem?_eq_some_iff.1 hM).1
      have hMs : (H2.set q (.map (mapU (M ++ [bitS l]))))[q]? = some (.map (mapU (M ++ [bitS l]))) := get_set hM
      have hOs : OwnF (q + 1) (H2.set q (.map (mapU (M ++ [bitS l])))) vL ws := ownF_ext hO (fun j hj o ho => by rw [List.getElem?_set_ne (by omega)]; exact ho)
      have hSt := Stay.map hM (.map (mapU (M ++ [bitS l])))
      have hSs := hSt.sle hS
      have hLs := hSt.ls hL
      have hls : (H2.set q (.map (mapU (M ++ [bitS l])))).length = H2.length := by simp
      generalize H2.set q (.map (mapU (M ++ [bitS l]))) = H3 at *
      have hwl := hSs.1
      rw [List.length_take, Nat.min_eq_left hi] at hwl
      obtain ⟨r', ver', s', H5, a1, a2, a3, a4, a5, a6⟩ := own_grow (P := Try.prog) (H := H3) (N := q + 1) (t := 37) (u := 37) (m := 1) (x := .slice r off l.length ver z full) el37 el37 (by omega) hOs rfl (by omega)
      have hst2 : Stay H3 H5 := by
        rcases hOs with ⟨-, hn0⟩ | ⟨r2, v2, st2, q1, hv2, q3⟩
        · exact Stay.keep (ver := 0) (st := 0) hSs (.inr (a6 hn0)) a4
        · obtain rfl := a5 r2 v2 hv2
          exact Stay.keep hSs (.inl q3) a4
      have hpsh := (hst2.sle hSs).push (hst2.ls hLs)
      refine L_reg [5, 6, 8, 10, 11, 65, 66] (fun K hK => ?_)
      simp [a1]
      apply hK; clear hK K
      refine L_reg [5, 6, 8, 10, 11, 65, 66] (fun K hK => ?_)
      simp [wrap_i64 (a := (i : Int) + 1) (by omega)]
      apply hK; clear hK K
      refine ⟨(roundS n k).length - (i + 1), [.slice (some r') 0 (ws.length + 1) ver' 1 false, .int .i64 (i + 1 : Nat)], by omega, by simp, i + 1, _, ws ++ [.slice r off l.length ver z full], rfl, by omega, rfl, ?_, .inr ⟨r', ver', s', a2, by simp, a3⟩, ?_⟩
      · rw [htk, List.map_append, hMe]
        exact a4.row (by omega) hMs
      · rw [htk]; exact hpsh
  · obtain rfl : i = (roundS n k).length := by omega
    rw [List.take_length] at hS
    obtain ⟨r, ver, rfl, hget⟩ := hS.get hO hF1
    clear hS hO hM
    have hk : k ≤ n := by omega
    have hF0 : (roundS n k).length ≠ 0 := by omega
    refine L_reg [5, 6, 8, 10, 121, 122, 123] (fun K hK => ?_)
    simp
    apply hK; clear hK K
    refine L_block (L_loopV [123] (fun j vs H' => ∃ i : Nat, j = (roundS n k).length - i ∧ i ≤ (roundS n k).length ∧ vs = [.int .i64 i] ∧ Ext H1 H') _ [.int .i64 (0 : Nat)] rfl ⟨0, rfl, by omega, rfl, .refl _⟩ ?_)
    rintro j _ H2 ⟨i, rfl, hi, rfl, hE⟩
    refine L_reg [5, 6, 8, 10, 121, 122, 123, 124] (fun K hK => ?_)
    simp
    apply hK; clear hK K
    refine L_dec (i < (roundS n k).length) (by simp) (fun hlt => ?_) (fun hge => L_exit ?_)
    · refine L_block ?_
      have hjl : (i + 1) % (roundS n k).length < (roundS n k).length := Nat.mod_lt _ (by omega)
      obtain ⟨rr, off, ver1, z, full, hld, hL⟩ := hget i hlt
      obtain ⟨rr2, off2, ver2, z2, full2, hld2, hL2⟩ := hget _ hjl
      have hld := hE.ld hld
      have hld2 := hE.ld hld2
      have hL := hL.ext hE
      have hL2 := hL2.ext hE
      have hmod : ((i : Int) + 1).tmod (roundS n k).length = (((i + 1) % (roundS n k).length : Nat) : Int) := rem_nat (i + 1) _
      have hm1 := List.getElem_mem hlt
      have hm2 := List.getElem_mem hjl
      have ok1 := okb_round hm1
      have l1 := roundS_len _ _ _ hm1
      have l2 := roundS_len _ _ _ hm2
      have hf : ((roundS n k).length = 1 ∧ nextE n (roundS n k)[i] = 12 ∧ nextS n (roundS n k)[i] = [] ∧ outS n (roundS n k)[i] = 0 ∧ inS n (roundS n k)[i] = 0) ∨
          ((roundS n k).length ≠ 1 ∧ nextE n (roundS n k)[i] = 0 ∧ nextS n (roundS n k)[i] = (roundS n k)[(i + 1) % (roundS n k).length] ∧ (lack (roundS n k)[i] (roundS n k)[(i + 1) % (roundS n k).length]).length = 1 ∧ outS n (roundS n k)[i] ∈ (roundS n k)[i] ∧ outS n (roundS n k)[i] ∉ (roundS n k)[(i + 1) % (roundS n k).length] ∧
            inS n (roundS n k)[i] ∈ (roundS n k)[(i + 1) % (roundS n k).length] ∧ inS n (roundS n k)[i] ∉ (roundS n k)[i]) := by
        by_cases hmid : k = 0 ∨ k = n
        · exact .inl ⟨(round_one hk).2 hmid, next_end hnn.1 hnn.2 hmid ok1 l1⟩
        · exact .inr ⟨fun e => hmid ((round_one hk).1 e), next_mid hnn.2 (by omega) (by omega) hlt hjl⟩
      generalize (roundS n k)[i] = l at *
      generalize (roundS n k)[(i + 1) % (roundS n k).length] = nx at *
      generalize (i + 1) % (roundS n k).length = j at *
      refine L_reg [5, 6, 8, 10, 20, 21, 121, 122, 123] (fun K hK => ?_)
      simp [hlt, hld]
      apply hK; clear hK K
      refine L_reg [5, 6, 8, 10, 21, 22, 121, 122, 123] (fun K hK => ?_)
      simp [wrap_i64 (a := (i : Int) + 1) (by omega), hF0, hmod, hjl, hld2]
      apply hK; clear hK K
      refine L_reg [5, 6, 8, 10, 21, 22, 23, 24, 25, 26, 121, 122, 123] (fun K hK => ?_)
      simp [okFn_low]
      refine Next_ac n _ l H2 _ (by omega) hL (fun v3 H3 hL3 hE3 => ?_)
      obtain ⟨rr3, off3, ver3, z3, full3, rfl, -⟩ := id hL3
      simp
      apply hK; clear hK K
      have hL := hL.ext hE3
      have hL2 := hL2.ext hE3
      have hE := hE.trans hE3
      refine L_reg [5, 6, 8, 10, 21, 22, 23, 24, 25, 26, 121, 122, 123, 144] (fun K hK => ?_)
      simp
      apply hK; clear hK K
      rcases hf with ⟨x0, x1, x2, x3, x4⟩ | ⟨x0, x1, x2, x3, x4, x5, x6, x7⟩
      · refine L_true (by simp [x0]) ?_
        refine L_reg [5, 6, 8, 10, 121, 122, 123, 159] (fun K hK => ?_)
        simp [pickV, x1, x2, x3, x4]
        apply hK; clear hK K
        refine L_false (by simp) ?_
        refine L_exit ?_
        refine L_reg [5, 6, 8, 10, 121, 122, 123] (fun K hK => ?_)
        simp [wrap_i64 (a := (i : Int) + 1) (by omega)]
        apply hK; clear hK K
        exact ⟨(roundS n k).length - (i + 1), [.int .i64 (i + 1 : Nat)], by omega, by simp, i + 1, rfl, by omega, rfl, hE⟩
      · rw [x2] at hL3
        rw [x2]
        refine L_false (by simp; omega) ?_
        refine L_reg [5, 6, 8, 10, 121, 122, 123, 195] (fun K hK => ?_)
        simp [okFn_low, x1]
        refine same_ac _ _ nx nx H3 _ (by omega) hL3 hL2 ?_
        simp [okFn_low, pickV]
        refine apart_ac _ _ l nx H3 _ (by omega) (by omega) hL hL2 ?_
        simp [okFn_low, pickV, x3]
        refine Contains_ac _ l _ H3 _ (by omega) hL ?_
        simp [okFn_low, pickV, x4]
        refine Contains_ac _ nx _ H3 _ (by omega) hL2 ?_
        simp [okFn_low, pickV, x5]
        refine Contains_ac _ nx _ H3 _ (by omega) hL2 ?_
        simp [okFn_low, pickV, x6]
        refine Contains_ac _ l _ H3 _ (by omega) hL ?_
        simp [pickV, x7]
        apply hK; clear hK K
        refine L_false (by simp) ?_
        refine L_reg [5, 6, 8, 10, 121, 122, 123] (fun K hK => ?_)
        simp [wrap_i64 (a := (i : Int) + 1) (by omega)]
        apply hK; clear hK K
        exact ⟨(roundS n k).length - (i + 1), [.int .i64 (i + 1 : Nat)], by omega, by simp, i + 1, rfl, by omega, rfl, hE⟩
    · by_cases hk0 : k = 0
      · refine L_reg [5, 6, 8, 10, 203] (fun K hK => ?_)
        simp [pickV, show ((k : Int) == 0) = true by simpa using hk0]
        apply hK; clear hK K
        refine L_true (by simp) ?_
        refine L_reg [4] (fun K hK => ?_)
        simp [okFn_low]
        refine works_ac _ _ ?_
        simp
        apply hK; clear hK K
        exact L_ret ⟨.inr rfl, _, rfl, rfl⟩
      · by_cases hkn : k = n
        · refine L_reg [5, 6, 8, 10, 203] (fun K hK => ?_)
          simp [pickV, show ((k : Int) == 0) = false by simpa using hk0]
          apply hK; clear hK K
          refine L_true (by simp; omega) ?_
          refine L_reg [4] (fun K hK => ?_)
          simp [okFn_low]
          refine works_ac _ _ ?_
          simp
          apply hK; clear hK K
          exact L_ret ⟨.inr rfl, _, rfl, rfl⟩
        · refine L_reg [5, 6, 8, 10, 203] (fun K hK => ?_)
          simp [pickV, show ((k : Int) == 0) = false by simpa using hk0]
          apply hK; clear hK K
          refine L_false (by simp; omega) ?_
          have hget : ∀ j (hj : j < (roundS n k).length), ∃ rr off ver1 sz full, ld H2 r j ver = some (.slice rr off (roundS n k)[j].length ver1 sz full) ∧ Ls H2 (.slice rr off (roundS n k)[j].length ver1 sz full) (roundS n k)[j] := fun j hj => by
            obtain ⟨a1, a2, a3, a4, a5, g1, g2⟩ := hget j hj
            exact ⟨a1, a2, a3, a4, a5, hE.ld g1, g2.ext hE⟩
          clear hE hi hge i
          obtain ⟨N, hN⟩ : ∃ N, n = N + 1 := ⟨n - 1, by omega⟩
          have hN1 : (n : Int) - 1 = (N : Int) := by omega
          obtain ⟨g1, g2, g3⟩ := round_facts (n := N) (k := k) (by omega) (by omega) (by omega)
          have hlow : ∀ i (hi : i < (roundS N k).length), ∃ hi' : i < (roundS n k).length, (roundS n k)[i] = (roundS N k)[i] ∧ (N : Int) ∉ (roundS n k)[i] := by
            subst hN
            intro i hi
            have hi' : i < (roundS (N + 1) k).length := by rw [round_split (by omega) (by omega)]; simp; omega
            exact ⟨hi', round_low (by omega) (by omega) hi hi'⟩
          have hhigh : ∀ i (hi : (roundS N k).length ≤ i) (hi' : i < (roundS n k).length), ∃ h : (roundS n k).length - 1 - i < (roundS N (k - 1)).length, (roundS n k)[i] = (roundS N (k - 1))[(roundS n k).length - 1 - i] ++ [(N : Int)] := by
            subst hN
            intro i hi hi'
            exact round_high (by omega) (by omega) hi hi'
          have hfl : (roundS N k).length ≤ (roundS n k).length := by
            subst hN
            rw [round_split (by omega) (by omega)]; simp
          refine L_reg [5, 6, 8, 9, 10, 27] (fun K hK => ?_)
          simp [okFn_low, hN1, wrap_i64 (a := (N : Int)) (by omega)]
          refine Count_ac N k _ _ ?_
          simp [g1, g2]
          apply hK; clear hK K
          refine L_reg [5, 6, 8, 10, 27, 218] (fun K hK => ?_)
          simp [pickV]
          apply hK; clear hK K
          refine L_false (by simp; omega) ?_
          refine L_reg [5, 6, 8, 27, 219, 220, 221] (fun K hK => ?_)
          simp
          apply hK; clear hK K
          refine L_block (L_loopV [221] (fun j vs H' => ∃ i : Nat, j = (roundS n k).length - i ∧ i ≤ (roundS n k).length ∧ vs = [.int .i64 i] ∧ Ext H2 H') _ [.int .i64 (0 : Nat)] rfl ⟨0, rfl, by omega, rfl, .refl _⟩ ?_)
          rintro j _ H3 ⟨i, rfl, hi, rfl, hE⟩
          refine L_reg [5, 6, 8, 27, 219, 220, 221, 222] (fun K hK => ?_)
          simp
          apply hK; clear hK K
          refine L_dec (i < (roundS n k).length) (by simp) (fun hlt => ?_) (fun hge => L_exit ?_)
          · refine L_block ?_
            obtain ⟨rr, off, ver1, z, full, hld, hL⟩ := hget i hlt
            have hld := hE.ld hld
            have hL := hL.ext hE
            have hm1 := List.getElem_mem hlt
            have l1 := roundS_len _ _ _ hm1
            by_cases hfew : i < (roundS N k).length
            · obtain ⟨_, y1, y2⟩ := hlow i hfew
              obtain ⟨n1, n2⟩ := nth_facts (n := N) (k := k) (by omega) (by omega) (by omega) hfew
              rw [← y1] at n2
              generalize (roundS n k)[i] = l at *
              refine L_reg [5, 6, 8, 27, 28, 29, 219, 220, 221] (fun K hK => ?_)
              simp [hlt, hld]
              apply hK; clear hK K
              refine L_reg [5, 6, 8, 27, 28, 29, 30, 219, 220, 221] (fun K hK => ?_)
              simp [okFn_low, hN1, wrap_i64 (a := (N : Int)) (by omega)]
              refine Contains_ac _ l _ H3 _ (by omega) hL ?_
              simp [y2]
              apply hK; clear hK K
              refine L_reg [5, 6, 8, 27, 28, 29, 30, 219, 220, 221, 234] (fun K hK => ?_)
              simp [neq_bool]
              apply hK; clear hK K
              refine L_false (by simp; omega) ?_
              refine L_reg [5, 6, 8, 27, 28, 29, 30, 31, 219, 220, 221] (fun K hK => ?_)
              simp
              apply hK; clear hK K
              refine L_reg [5, 6, 8, 27, 28, 29, 30, 31, 32, 219, 220, 221] (fun K hK => ?_)
              simp
              apply hK; clear hK K
              refine L_reg [5, 6, 8, 27, 28, 29, 30, 31, 32, 33, 219, 220, 221] (fun K hK => ?_)
              simp
              apply hK; clear hK K
              refine L_reg [5, 6, 8, 27, 28, 29, 31, 32, 33, 219, 220, 221, 238] (fun K hK => ?_)
              simp
              apply hK; clear hK K
              refine L_false (by simp) ?_
              refine L_reg [5, 6, 8, 27, 31, 34, 35, 219, 220, 221] (fun K hK => ?_)
              simp [okFn_low, hN1, wrap_i64 (a := (N : Int)) (by omega)]
              refine Nth_ac N k i H3 _ (fun v4 H4 hL4 hE4 => ?_)
              rw [n2] at hL4
              obtain ⟨rr3, off3, ver3, z3, full3, rfl, -⟩ := id hL4
              simp [n1]
              apply hK; clear hK K
              refine L_reg [5, 6, 8, 27, 219, 220, 221, 264] (fun K hK => ?_)
              simp [okFn_low]
              refine same_ac _ _ l l H4 _ (by omega) hL4 (hL.ext hE4) ?_
              simp [pickV]
              apply hK; clear hK K
              refine L_false (by simp) ?_
              refine L_reg [5, 6, 8, 27, 219, 220, 221] (fun K hK => ?_)
              simp [wrap_i64 (a := (i : Int) + 1) (by omega)]
              apply hK; clear hK K
              exact ⟨(roundS n k).length - (i + 1), [.int .i64 (i + 1 : Nat)], by omega, by simp, i + 1, rfl, by omega, rfl, hE.trans hE4⟩
            · obtain ⟨x, y1, n1, n2, hxl⟩ : ∃ x, (roundS n k)[i] = x ++ [(N : Int)] ∧ nthE N ((k - 1 : Nat) : Int) (((roundS n k).length - 1 - i : Nat) : Int) = 0 ∧ nthS N ((k - 1 : Nat) : Int) (((roundS n k).length - 1 - i : Nat) : Int) = x ∧ x.length = k - 1 := by
                obtain ⟨y0, y1⟩ := hhigh i (by omega) hlt
                obtain ⟨n1, n2⟩ := nth_facts (n := N) (k := k - 1) (by omega) (by omega) (by omega) y0
                exact ⟨_, y1, n1, n2, roundS_len _ _ _ (List.getElem_mem y0)⟩
              have y2 : (N : Int) ∈ (roundS n k)[i] := by rw [y1]; simp
              have y3 : (roundS n k)[i].take (k - 1) = x := by rw [y1, ← hxl]; simp
              obtain ⟨a, ha⟩ : ∃ a, (roundS n k).length - 1 - i = a := ⟨_, rfl⟩
              rw [ha] at n1 n2
              have haI : ((roundS n k).length : Int) - 1 - i = (a : Int) := by omega
              obtain ⟨k1, hk1⟩ : ∃ k1, k - 1 = k1 := ⟨_, rfl⟩
              rw [hk1] at n1 n2 y3
              have hkI : (k : Int) - 1 = (k1 : Int) := by omega
              generalize (roundS n k)[i] = l at *
              obtain ⟨r', rfl, rfl⟩ : ∃ r', rr = some r' ∧ z = 1 := by
                obtain ⟨_, _, _, _, _, e, hg⟩ := id hL
                cases e
                obtain ⟨r', e1, e2, -⟩ := hg 0 (by omega)
                exact ⟨r', e1, e2⟩
              have hsl : aSlice Try.prog 22 (.slice (some r') off l.length ver1 1 full) none (some (.int .i64 (k1 : Int))) none = some (.slice (some r') off k1 ver1 1 (full && k1 == l.length)) := slice_hi slz22 (some r') off l.length ver1 full (by omega)
              have hLt : Ls H3 (.slice (some r') off k1 ver1 1 (full && k1 == l.length)) x := by
                have := Ls.take (full' := full && k1 == l.length) hL (show k1 ≤ l.length by omega)
                rwa [y3] at this
              generalize (full && k1 == l.length) = full4 at *
              refine L_reg [5, 6, 8, 27, 28, 29, 219, 220, 221] (fun K hK => ?_)
              simp [hlt, hld]
              apply hK; clear hK K
              refine L_reg [5, 6, 8, 27, 28, 29, 30, 219, 220, 221] (fun K hK => ?_)
              simp [okFn_low, hN1, wrap_i64 (a := (N : Int)) (by omega)]
              refine Contains_ac _ l _ H3 _ (by omega) hL ?_
              simp [y2]
              apply hK; clear hK K
              refine L_reg [5, 6, 8, 27, 28, 29, 30, 219, 220, 221, 234] (fun K hK => ?_)
              simp [neq_bool]
              apply hK; clear hK K
              refine L_false (by simp; omega) ?_
              refine L_reg [5, 6, 8, 27, 28, 29, 30, 31, 219, 220, 221] (fun K hK => ?_)
              simp
              apply hK; clear hK K
              refine L_reg [5, 6, 8, 27, 28, 29, 30, 31, 32, 219, 220, 221] (fun K hK => ?_)
              simp
              apply hK; clear hK K
              refine L_reg [5, 6, 8, 27, 28, 29, 30, 31, 32, 33, 219, 220, 221] (fun K hK => ?_)
              simp
              apply hK; clear hK K
              refine L_reg [5, 6, 8, 27, 28, 29, 31, 32, 33, 219, 220, 221, 238] (fun K hK => ?_)
              simp
              apply hK; clear hK K
              refine L_true (by simp) ?_
              refine L_reg [5, 6, 8, 27, 31, 32, 33, 219, 220, 221] (fun K hK => ?_)
              simp [hkI, wrap_i64 (a := (k1 : Int)) (by omega), wrap_i64 (a := ((roundS n k).length : Int) - 1) (by omega), haI, wrap_i64 (a := (a : Int)) (by omega), hsl]
              apply hK; clear hK K
              refine L_reg [5, 6, 8, 27, 31, 34, 35, 219, 220, 221] (fun K hK => ?_)
              simp [okFn_low, hN1, wrap_i64 (a := (N : Int)) (by omega)]
              refine Nth_ac N k1 a H3 _ (fun v4 H4 hL4 hE4 => ?_)
              rw [n2] at hL4
              obtain ⟨rr3, off3, ver3, z3, full3, rfl, -⟩ := id hL4
              simp [n1]
              apply hK; clear hK K
              refine L_reg [5, 6, 8, 27, 219, 220, 221, 264] (fun K hK => ?_)
              simp [okFn_low]
              refine same_ac _ _ x x H4 _ (by omega) hL4 (hLt.ext hE4) ?_
              simp [pickV]
              apply hK; clear hK K
              refine L_false (by simp) ?_
              refine L_reg [5, 6, 8, 27, 219, 220, 221] (fun K hK => ?_)
              simp [wrap_i64 (a := (i : Int) + 1) (by omega)]
              apply hK; clear hK K
              exact ⟨(roundS n k).length - (i + 1), [.int .i64 (i + 1 : Nat)], by omega, by simp, i + 1, rfl, by omega, rfl, hE.trans hE4⟩
          · have hend := nth_end hnn.1 hnn.2 hk
            refine L_reg [37] (fun K hK => ?_)
            simp [okFn_low]
            refine Nth_ac n k _ H3 _ (fun v4 H4 hL4 hE4 => ?_)
            obtain ⟨rr3, off3, ver3, z3, full3, rfl, -⟩ := id hL4
            simp [hend]
            apply hK; clear hK K
            refine L_reg [4] (fun K hK => ?_)
            simp [okFn_low]
            refine works_ac _ _ ?_
            simp [pickV]
            apply hK; clear hK K
            exact L_ret ⟨.inr rfl, _, rfl, rfl⟩
theorem blendDoor_int (a0 : Int) (w0 : (Lit.int .u8 a0).wf = true) (a1 : Int) (w1 : (Lit.int .u8 a1).wf = true) (H : AH) :
    AC Try.prog 7 [.int .u8 a0, .int .u8 a1] H fun u _ => u = .bool true := by
  obtain ⟨lv, rfl, h1⟩ := u8_of w0
  obtain ⟨sz, rfl, h2⟩ := u8_of w1
  exact blendDoor_ac lv sz h1 h2 H
end Go.Proofs.Ytmoifofihafgmaa
