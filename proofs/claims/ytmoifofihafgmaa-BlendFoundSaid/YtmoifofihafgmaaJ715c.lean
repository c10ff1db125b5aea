/- Joined texts: Chosen, Mix, Metric, Metric2, Ways3, Walked1, MoreM, Held, Blends, NamedM, NamedF, FoundM, Found1, MixInt, Found2. -/
import Derived.Test.YtmoifofihafgmaaJ715a
import Derived.Test.YtmoifofihafgmaaJ715b
import Derived.Test.YtmoifofihafgmaaAxR
/- A blend by numbers. -/
namespace Go.Proofs.Ytmoifofihafgmaa
open Go Go.Proofs.Ytmoifofihafgmaa.AX

theorem un22 : ∃ e ie, Try.prog.underlying 22 = some (.slice e) ∧ Try.prog.info? e = some ie ∧ ie.size = 1 := by
  have h := slz22
  unfold slSz at h
  split at h
  case h_2 => cases h
  rename_i e he
  cases hi : Try.prog.info? e with
  | none => rw [hi] at h; cases h
  | some ie => rw [hi] at h; exact ⟨e, ie, he, hi, Option.some.inj h⟩
theorem clip3 (r ver n : Nat) (i : Nat) (hi : i < n) : ∃ v, aSlice Try.prog 22 (.slice (some r) 0 n ver 1 false) (some (.int .i64 (i : Int))) (some (.int .i64 ((i : Int) + 1))) (some (.int .i64 (n : Int))) = some v := by
  obtain ⟨e, ie, h1, h2, h3⟩ := un22
  have hb : aBounds n (some (.int .i64 (i : Int))) (some (.int .i64 ((i : Int) + 1))) (some (.int .i64 (n : Int))) = some (i, i + 1, n) := by
    simp [aBounds, aBound, show (0 : Int) ≤ (i : Int) + 1 by omega, show (i : Int) + 1 ≤ (n : Int) by omega, show ((i : Int) + 1).toNat = i + 1 by omega]
  simp only [aSlice, h1, h2, h3, if_true, hb, Option.map_some]
  exact ⟨_, rfl⟩
theorem more (H : AH) (r ver n s : Nat) (cells : List AV) (hr : H[r]? = some (.row cells ver s false)) (hn : 0 < n) (hc : n ≤ cells.length) :
    aSlice Try.prog 22 (.slice (some r) 0 (n - 1) ver 1 false) (some (.int .i64 ((n - 1 : Nat) : Int))) (some (.int .i64 (n : Int))) none = none ∧
    sliceR Try.prog 22 H (.slice (some r) 0 (n - 1) ver 1 false) (some (.int .i64 ((n - 1 : Nat) : Int))) (some (.int .i64 (n : Int))) none = some (.slice (some r) (n - 1) 1 ver 1 false) := by
  obtain ⟨e, ie, h1, h2, h3⟩ := un22
  have hb : aBounds (n - 1) (some (.int .i64 ((n - 1 : Nat) : Int))) (some (.int .i64 (n : Int))) none = none := by
    have : ¬ ((n : Int) ≤ ((n - 1 : Nat) : Int)) := by omega
    simp [aBounds, aBound]
    omega
  have hb2 : aBounds ((cells.length - 0) / 1) (some (.int .i64 ((n - 1 : Nat) : Int))) (some (.int .i64 (n : Int))) none = some (n - 1, n, (cells.length - 0) / 1) := by
    have h4 : (n : Int) ≤ (cells.length : Int) := by omega
    have h5 : ((n - 1 : Nat) : Int) ≤ (n : Int) := by omega
    simp only [aBounds, aBound, Nat.sub_zero, Nat.div_one, Option.bind_some]
    rw [if_pos ⟨by omega, h4⟩, Option.bind_some, if_pos ⟨by omega, by rw [Int.toNat_natCast]; exact h5⟩, Option.bind_some, Int.toNat_natCast, Int.toNat_natCast]
  constructor
  · simp only [aSlice, h1, h2, h3, if_true, hb, Option.map_none]
  · simp only [sliceR, h1, h2, h3, hr]
    rw [if_pos ⟨trivial, trivial, by omega, rfl, trivial⟩, hb2]
    simp
    omega
set_option maxRecDepth 100000 in
theorem Delete_ac (r ver stale : Nat) (tl : List AV) (l : List Int) (i : Nat) (H : AH) (Q : AV → AH → Prop) (hi : i < l.length) (hl : l.length ≤ 1000000) (hr : H[r]? = some (.row (l.map (.int .i64) ++ tl) ver stale false)) (hone : ∀ x ∈ l.map (.int .i64) ++ tl, x.one = true)
    (h : ∀ H' s' tl', H'[r]? = some (.row ((l.eraseIdx i).map (.int .i64) ++ tl') ver s' false) → (∀ x ∈ (l.eraseIdx i).map (.int .i64) ++ tl', x.one = true) → H'.length = H.length → (∀ j, j ≠ r → H'[j]? = H[j]?) → Q (.slice (some r) 0 (l.length - 1) ver 1 false) H') :
    AC Try.prog 54 [.slice (some r) 0 l.length ver 1 false, .int .i64 i, .int .i64 ((i : Int) + 1)] H Q := by
  obtain ⟨u, hu⟩ := clip3 r ver l.length i hi
  refine L_body 33 Try.func54 rfl rfl ?_
  refine L_reg [0, 1, 2] (fun K hK => ?_)
  simp
  apply hK; clear hK K
  refine L_reg [0, 1, 2] (fun K hK => ?_)
  simp [hu]
  apply hK; clear hK K
  refine L_reg [0, 1, 2, 16] (fun K hK => ?_)
  simp
  apply hK; clear hK K
  refine L_dec ((i : Int) = (i : Int) + 1) (by simp; rfl) (fun he => by omega) (fun he => ?_)
  refine L_reg [0, 1, 2, 7] (fun K hK => ?_)
  simp
  apply hK; clear hK K
  have hil : i < (l.map (AV.int .i64)).length := by simpa using hi
  obtain ⟨s', happ⟩ := del_append (H := H) (t := 22) el22 hr hone hil (by simp; omega) false
  simp only [List.length_map] at happ
  refine L_regT mixed [0, 7] (by kernel_rfl) (fun K hK => ?_)
  have e1 : aSlice Try.prog 22 (.slice (some r) 0 l.length ver 1 false) none (some (.int .i64 (i : Int))) none = some (.slice (some r) 0 i ver 1 false) := by
    have := slice_hi slz22 (some r) 0 l.length ver false (k := .i64) (i := i) (by omega)
    simpa using this
  have e2 : aSlice Try.prog 22 (.slice (some r) 0 l.length ver 1 false) (some (.int .i64 ((i : Int) + 1))) none none = some (.slice (some r) (i + 1) (l.length - (i + 1)) ver 1 false) := by
    have := slice_lo slz22 (some r) 0 l.length ver false (k := .i64) (i := i + 1) (by omega)
    simpa using this
  simp [happ, e1, e2]
  apply hK; clear hK K
  have hrl : r < H.length := (List.getElem?_eq_some_iff.1 hr).1
  obtain ⟨H1, hH1⟩ : ∃ H1, H1 = H.set r (AObj.row ((l.map (AV.int .i64)).eraseIdx i ++ ((l.map (AV.int .i64)).drop (l.length - 1) ++ tl)) ver s' false) := ⟨_, rfl⟩
  have hr1 : H1[r]? = some (AObj.row ((l.map (AV.int .i64)).eraseIdx i ++ ((l.map (AV.int .i64)).drop (l.length - 1) ++ tl)) ver s' false) := by
    rw [hH1, List.getElem?_set]; simp [hrl]
  have hX1 : H1.length = H.length ∧ ∀ j, j ≠ r → H1[j]? = H[j]? := by
    rw [hH1]
    exact ⟨by simp, fun j hj => by rw [List.getElem?_set]; simp [Ne.symm hj]⟩
  obtain ⟨x, hx⟩ : ∃ x, (l.map (AV.int .i64)).drop (l.length - 1) = [x] := by
    have : ((l.map (AV.int .i64)).drop (l.length - 1)).length = 1 := by simp; omega
    exact List.length_eq_one_iff.1 this
  have hxo : x.one = true := hone x (List.mem_append_left _ (List.mem_of_mem_drop (i := l.length - 1) (by rw [hx]; simp)))
  rw [hx, List.singleton_append] at hr1
  rw [← hH1]
  clear happ hH1
  have hel : ((l.map (AV.int .i64)).eraseIdx i).length = l.length - 1 := by rw [List.length_eraseIdx]; simp [hi]
  obtain ⟨e3, e4⟩ := more H1 r ver l.length s' _ hr1 (by omega) (by simp [hel]; omega)
  have e5 := del_clear elz22 hr1 hxo rfl hel false
  refine L_reg [0] (fun K hK => ?_)
  simp [e3, e4, e5]
  apply hK; clear hK K
  refine L_reg [6] (fun K hK => ?_)
  simp
  apply hK; clear hK K
  refine L_ret ⟨.inr rfl, _, rfl, ?_⟩
  have e6 : (l.map (AV.int .i64)).eraseIdx i = (l.eraseIdx i).map (.int .i64) := by rw [List.eraseIdx_eq_take_drop_succ, List.eraseIdx_eq_take_drop_succ, List.map_append, List.map_take, List.map_drop]
  refine h _ (min s' (l.length - 1)) (.int .i64 0 :: tl) ?_ ?_ (by simp [hX1.1]) fun j hj => by rw [List.getElem?_set, ← hX1.2 j hj]; simp [Ne.symm hj]
  · rw [← e6, List.getElem?_set]
    simp [(List.getElem?_eq_some_iff.1 hr1).1]
  · intro y hy
    rcases List.mem_append.1 hy with hy | hy
    · obtain ⟨z, -, rfl⟩ := List.mem_map.1 hy; rfl
    · rcases List.mem_cons.1 hy with rfl | hy
      · rfl
      · exact hone y (List.mem_append_right _ hy)

theorem ag65 : aggSz Try.prog 65 = some 10 := by kernel_rfl
@[simp] theorem ld65 (H : AH) (r off ver : Nat) : loadV Try.prog 65 H (.ptr r off ver) = (ldn H r ver 10 off).map .agg := load_agg ag65 ..
@[simp] theorem ixa65 (r off ver : Nat) (k : IntKind) (i : Int) : aIndexAddr Try.prog 65 (.ptr r off ver) (.int k i) = if 0 ≤ i ∧ i < (10 : Nat) then some (.ptr r (off + i.toNat * 1) ver) else none := ixa_ar (by kernel_rfl) ..
@[simp] theorem cv53 (k : IntKind) (n : Int) : aConv Try.prog 5 3 (.int k n) = some (.int .i64 (IntKind.i64.wrap n)) := cv_int (by kernel_rfl) (by kernel_rfl) n
theorem rem_nat (a b : Nat) : ((a : Int)).tmod (b : Int) = ((a % b : Nat) : Int) := by
  rw [Int.tmod_eq_emod_of_nonneg (Int.natCast_nonneg _)]; simp
theorem ownF_ext {N : Nat} {H H1 : AH} {v : AV} {l : List AV} (h : OwnF N H v l) (hE : ∀ j, N ≤ j → ∀ o, H[j]? = some o → H1[j]? = some o) : OwnF N H1 v l := by
  rcases h with h | ⟨r, ver, stale, h1, h2, h3⟩
  · exact .inl h
  · exact .inr ⟨r, ver, stale, h1, h2, hE r h1 _ h3⟩
theorem ext_take (H : AH) (N : Nat) (hN : N ≤ H.length) : ∃ H0 : AH, H0.length = N ∧ Ext H0 H :=
  ⟨H.take N, by simp [hN], by simp; omega, fun j hj => by rw [List.getElem?_take, if_pos (by simp at hj; omega)]⟩
def u8s (ns : List Nat) : List AV := ns.map fun n : Nat => .int .u8 (n : Int)
def dealS : List Int → List Nat → List Int
  | _, [] => []
  | left, k :: ks => left[k % left.length]?.getD 0 :: dealS (left.eraseIdx (k % left.length)) ks

theorem dealS_len : ∀ {left : List Int} {ks : List Nat}, (dealS left ks).length = ks.length
  | _, [] => rfl
  | _, _ :: ks => by simp [dealS, dealS_len]
theorem eraseIdx_nodup {l : List Int} (h : l.Pairwise (· ≠ ·)) {d : Nat} (hd : d < l.length) : (l.eraseIdx d).Pairwise (· ≠ ·) ∧ l[d] ∉ l.eraseIdx d := by
  have e : l = l.take d ++ l[d] :: l.drop (d + 1) := by rw [← List.drop_eq_getElem_cons hd, List.take_append_drop]
  rw [List.eraseIdx_eq_take_drop_succ]
  generalize l[d] = x at *
  generalize l.take d = A at *
  generalize l.drop (d + 1) = B at *
  rw [e] at h
  obtain ⟨h1, h2, h3⟩ := List.pairwise_append.1 h
  obtain ⟨h4, h5⟩ := List.pairwise_cons.1 h2
  refine ⟨List.pairwise_append.2 ⟨h1, h5, fun a ha b hb => h3 a ha b (List.mem_cons_of_mem _ hb)⟩, ?_⟩
  intro hx
  rcases List.mem_append.1 hx with hx | hx
  · exact h3 x hx x List.mem_cons_self rfl
  · exact h4 x hx rfl
theorem dealS_ok : ∀ {left : List Int} {ks : List Nat}, left.Pairwise (· ≠ ·) → ks.length ≤ left.length → (dealS left ks).Pairwise (· ≠ ·) ∧ ∀ x ∈ dealS left ks, x ∈ left
  | left, [], _, _ => ⟨.nil, by simp [dealS]⟩
  | left, k :: ks, h, hl => by
    simp only [List.length_cons] at hl
    have hd : k % left.length < left.length := Nat.mod_lt _ (by omega)
    simp only [dealS]
    generalize k % left.length = d at hd
    obtain ⟨h1, h2⟩ := eraseIdx_nodup h hd
    have hel : (left.eraseIdx d).length = left.length - 1 := by rw [List.length_eraseIdx, if_pos hd]
    obtain ⟨h3, h4⟩ := dealS_ok (ks := ks) h1 (by omega)
    rw [List.getElem?_eq_getElem hd, Option.getD_some]
    refine ⟨List.pairwise_cons.2 ⟨fun x hx e => h2 (by rw [e]; exact h4 x hx), h3⟩, fun x hx => ?_⟩
    rcases List.mem_cons.1 hx with rfl | hx
    · exact List.getElem_mem hd
    · exact List.mem_of_mem_eraseIdx (h4 x hx)
/-- The leaves that are chosen, in order. -/
def chosS (n k : Nat) (ns : List Nat) : List Int := (iota n).filter fun x => decide (x ∈ dealS (iota n) (ns.take k))
theorem iota_nd (n : Nat) : (iota n).Pairwise (· ≠ ·) := (okb_iota n).2.imp (by omega)
theorem chosS_perm {n k : Nat} {ns : List Nat} (hk : k ≤ n) : (chosS n k ns).Perm (dealS (iota n) (ns.take k)) := by
  obtain ⟨h1, h2⟩ := dealS_ok (ks := ns.take k) (iota_nd n) (by simp; omega)
  refine (List.perm_ext_iff_of_nodup ((iota_nd n).sublist List.filter_sublist) h1).2 fun x => ?_
  simp only [List.mem_filter, decide_eq_true_eq]
  exact ⟨fun h => h.2, fun h => ⟨h2 x h, h⟩⟩
theorem chosS_okb (n k : Nat) (ns : List Nat) : Okb n (chosS n k ns) := by
  obtain ⟨h1, h2⟩ := okb_iota n
  exact ⟨fun x hx => h1 x (List.mem_filter.1 hx).1, h2.sublist List.filter_sublist⟩
theorem chosS_len {n k : Nat} {ns : List Nat} (hk : k ≤ n) (hns : k ≤ ns.length) : (chosS n k ns).length = k := by
  rw [(chosS_perm hk).length_eq, dealS_len, List.length_take]; omega
theorem sort_chos {n k : Nat} {ns : List Nat} (hk : k ≤ n) {m : List Int} (hp : m.Perm (dealS (iota n) (ns.take k))) (hs : m.Pairwise (· ≤ ·)) : m = chosS n k ns := by
  have hp2 := hp.trans (chosS_perm hk).symm
  have hnd : m.Pairwise (· ≠ ·) := (hp2.pairwise_iff (fun h => Ne.symm h)).2 ((chosS_okb n k ns).2.imp (by omega))
  exact sorted_ext ((hs.and hnd).imp (fun h => by omega)) (chosS_okb n k ns).2 fun x => hp2.mem_iff
/-- The same, and nil where it is empty. -/
def OwnN (N : Nat) (H : AH) (v : AV) (l : List Int) : Prop := (l = [] → v = .slice none 0 0 0 1 false) ∧ OwnF N H v (l.map (.int .i64))
def chV (H : AH) (l : List Int) : AV := if l = [] then .slice none 0 0 0 1 false else .slice (some H.length) 0 l.length 0 1 false
def chH (H : AH) (l : List Int) : AH := if l = [] then H else H ++ [.row (l.map (.int .i64)) 0 l.length false]
theorem chE (H : AH) (l : List Int) : Ext H (chH H l) := by
  unfold chH; split
  · exact .refl H
  · exact .push _ _
theorem chL (H : AH) (l : List Int) : Ls (chH H l) (chV H l) l := by
  unfold chH chV; split
  · rename_i h; subst h; exact ⟨none, 0, 0, 1, false, rfl, fun i hi => by simp at hi⟩
  · exact Ls.row (s := l.length) (ro := false) (by simp) false
theorem AC.tidyN {f : FuncId} {args : List AV} {l : List Int} {H : AH} (h : ∀ Q : AV → AH → Prop, (∀ v' H', OwnN H.length H' v' l → Ext H H' → Q v' H') → AC Try.prog f args H Q) (Q : AV → AH → Prop) (hq : Q (chV H l) (chH H l)) : AC Try.prog f args H Q := by
  by_cases hl : l = []
  · subst hl
    refine AC.quiet (v := .slice none 0 0 0 1 false) rfl (fun Q h2 => h Q fun v' H' hO hE => ?_) Q (by simpa [chV, chH] using hq)
    rw [hO.1 rfl]; exact h2 H' hE
  · refine AC.tidy (l := l.map (.int .i64)) (by simpa using hl) (belB_ints _ _) (fun Q h2 => h Q fun v' H' hO hE => h2 v' H' hO.2 hE) Q ?_
    simpa [chV, chH, hl] using hq
theorem sort_nil : callN (runZ cx 300) 56 [.slice none 0 0 0 1 false] [] = some (.tuple [], []) := by kernel_rfl
set_option maxRecDepth 100000 in
theorem chosen_ac (n kk : Nat) (ns : List Nat) (H : AH) (Q : AV → AH → Prop) (hn : 1 ≤ n ∧ n ≤ 10) (hkk : kk ≤ n) (hns : ns.length = 10) (hb : ∀ x ∈ ns, x < 256)
    (h : ∀ v' H', OwnN H.length H' v' (chosS n kk ns) → Ext H H' → Q v' H') : AC Try.prog 47 [.agg (u8s ns), .int .i64 n, .int .i64 kk] H Q := by
  refine L_body 48 Try.func47 rfl rfl ?_
  refine L_reg [1, 2, 3] (fun K hK => ?_)
  simp [AV.isU, acells]
  apply hK; clear hK K
  have hE1 : Ext H (H ++ [AObj.row (u8s ns) 0 0 false]) := .push _ _
  have hb1 : (H ++ [AObj.row (u8s ns) 0 0 false])[H.length]? = some (.row (u8s ns) 0 0 false) := by simp
  have hbl : H.length < (H ++ [AObj.row (u8s ns) 0 0 false]).length := by simp
  generalize H ++ [AObj.row (u8s ns) 0 0 false] = H1 at hE1 hb1 hbl ⊢
  generalize hb0 : H.length = b at hb1 hbl h ⊢
  refine L_reg [1, 2, 3, 7, 8] (fun K hK => ?_)
  simp
  apply hK; clear hK K
  refine L_reg [2, 3, 7, 8, 12, 13] (fun K hK => ?_)
  simp
  apply hK; clear hK K
  refine L_block (L_loopV [7, 13] (fun k vs H' => ∃ (i : Nat) (u : AV), k = n - i ∧ i ≤ n ∧ vs = [u, .int .i64 i] ∧ Ext H1 H' ∧ OwnF H1.length H' u ((iota i).map (.int .i64))) _ [.slice none 0 0 0 1 false, .int .i64 (0 : Nat)] rfl
    ⟨0, _, rfl, by omega, rfl, .refl _, OwnF.nil _ _⟩ ?_)
  rintro k _ H2 ⟨i, u, rfl, hi, rfl, hE2, hO⟩
  refine L_reg [2, 3, 7, 8, 12, 13, 14] (fun K hK => ?_)
  simp
  apply hK; clear hK K
  refine L_dec (i < n) (by simp) (fun hlt => ?_) (fun hge => L_exit ?_)
  · refine L_block ?_
    refine L_reg [2, 3, 7, 8, 9, 12, 13] (fun K hK => ?_)
    simp
    apply hK; clear hK K
    obtain ⟨u', H3, happ, hO3, hE3⟩ := ownF_append (P := Try.prog) hE2 el22 el22 (x := .int .i64 i) (m := 1) hO rfl (by simp; omega)
    refine L_reg [2, 3, 7, 8, 12, 13] (fun K hK => ?_)
    simp [happ]
    apply hK; clear hK K
    refine L_reg [2, 3, 7, 8, 12, 13] (fun K hK => ?_)
    simp [wrap_i64 (a := (i : Int) + 1) (by omega)]
    apply hK; clear hK K
    refine ⟨n - (i + 1), [u', .int .i64 (i + 1 : Nat)], by omega, by simp, i + 1, u', rfl, by omega, rfl, hE3, ?_⟩
    rw [iota_succ]
    simpa using hO3
  · have : i = n := by omega
    subst this
    obtain ⟨r, ver, s, hr1, rfl, hr2⟩ : ∃ r ver s, H1.length ≤ r ∧ u = .slice (some r) 0 i ver 1 false ∧ H2[r]? = some (.row ((iota i).map (.int .i64)) ver s false) := by
      rcases hO with ⟨h0, -⟩ | ⟨r, ver, s, g1, g2, g3⟩
      · have := congrArg List.length h0
        simp at this; omega
      · exact ⟨r, ver, s, g1, by simpa using g2, g3⟩
    have hrl : r < H2.length := (List.getElem?_eq_some_iff.1 hr2).1
    refine L_reg [3, 7, 8, 21, 22] (fun K hK => ?_)
    simp
    apply hK; clear hK K
    refine L_block (L_loopV [7, 8, 22] (fun k vs H' => ∃ (j m : Nat) (o : AV) (left out : List Int) (s : Nat) (tl : List AV), k = kk - j ∧ j ≤ kk ∧ i = j + m ∧ vs = [.slice (some r) 0 m ver 1 false, o, .int .i64 j] ∧ left.length = m ∧ out.length = j ∧ out ++ dealS left ((ns.take kk).drop j) = dealS (iota i) (ns.take kk) ∧
        H'[r]? = some (.row (left.map (.int .i64) ++ tl) ver s false) ∧ (∀ x ∈ left.map (.int .i64) ++ tl, x.one = true) ∧ OwnF H2.length H' o (out.map (.int .i64)) ∧ Ext H1 H' ∧ H2.length ≤ H'.length ∧ (j = 0 → o = .slice none 0 0 0 1 false)) _ [.slice (some r) 0 i ver 1 false, .slice none 0 0 0 1 false, .int .i64 (0 : Nat)] rfl
      ⟨0, i, _, iota i, [], s, [], rfl, by omega, by omega, rfl, by simp, rfl, by simp, by simpa using hr2, by simp [iota, AV.one], OwnF.nil _ _, hE2, Nat.le_refl _, fun _ => rfl⟩ ?_)
    rintro _ _ H3 ⟨j, m, o, left, out, s3, tl, rfl, hjk, hjm, rfl, hll, hol, hD, hr3, hone, hO3, hE3, hN3, hoz⟩
    refine L_reg [3, 7, 8, 21, 22, 23] (fun K hK => ?_)
    simp
    apply hK; clear hK K
    refine L_dec (j < kk) (by simp) (fun hlt => ?_) (fun hge => L_exit ?_)
    · have hm0 : m ≠ 0 := by omega
      have hjn : j < ns.length := by omega
      have hbj := hb _ (List.getElem_mem hjn)
      have hld : ld H3 b j 0 = some (.int .u8 (ns[j] : Nat)) := by
        rw [ld_row (hE3.row hb1)]
        simp [u8s, hjn]
      have hdr : (ns.take kk).drop j = ns[j] :: (ns.take kk).drop (j + 1) := by
        rw [List.drop_eq_getElem_cons (by simp; omega)]; simp
      rw [hdr] at hD
      simp only [dealS, hll] at hD
      generalize ns[j] = x at hbj hld hD
      have hr := rem_nat x m
      have hdm : x % m < m := Nat.mod_lt _ (by omega)
      generalize x % m = d at hr hdm hD
      have hdl : d < left.length := by omega
      rw [List.getElem?_eq_getElem hdl, Option.getD_some] at hD
      have hld2 : ld H3 r d ver = some (.int .i64 left[d]) := by
        rw [ld_row hr3, List.getElem?_append_left (by simpa using hdl)]
        simp [hdl]
      generalize left[d] = y at hD hld2
      refine L_block ?_
      refine L_reg [3, 7, 8, 10, 21, 22] (fun K hK => ?_)
      simp
      apply hK; clear hK K
      refine L_reg [3, 7, 8, 11, 21, 22] (fun K hK => ?_)
      simp [show (j : Int) < 10 by omega, hld, wrap_i64 (a := (x : Int)) (by omega), hm0, hr]
      apply hK; clear hK K
      obtain ⟨H0, hH0, hT⟩ := ext_take H3 H2.length hN3
      rw [← hH0] at hO3
      obtain ⟨o', H4, happ, hO4, hE4⟩ := ownF_append (P := Try.prog) hT el22 el22 (x := .int .i64 y) (m := 1) hO3 rfl (by simp; omega)
      rw [hH0] at hO4
      have hk4 : ∀ j, j < H2.length → H4[j]? = H3[j]? := fun j hj => by rw [hE4.2 j (by omega), hT.2 j (by omega)]
      have hN4 : H2.length ≤ H4.length := by have := hE4.1; omega
      refine L_reg [3, 7, 8, 11, 21, 22] (fun K hK => ?_)
      simp [hdm, hld2, happ]
      apply hK; clear hK K
      rw [← hk4 r hrl] at hr3
      refine L_reg [3, 7, 8, 21, 22] (fun K hK => ?_)
      subst hll
      simp [wrap_i64 (a := (d : Int) + 1) (by omega), okFn_low]
      refine Delete_ac r ver s3 tl left d H4 _ hdl (by omega) hr3 hone (fun H5 s5 tl5 hr5 hone5 hl5 hk5 => ?_)
      simp
      apply hK; clear hK K
      have hH21 := hE2.1
      refine L_reg [3, 7, 8, 21, 22] (fun K hK => ?_)
      simp [wrap_i64 (a := (j : Int) + 1) (by omega)]
      apply hK; clear hK K
      refine ⟨kk - (j + 1), [.slice (some r) 0 (left.length - 1) ver 1 false, o', .int .i64 (j + 1 : Nat)], by omega, by simp, j + 1, left.length - 1, o', left.eraseIdx d, out ++ [y], s5, tl5, rfl, by omega, by omega, rfl, by rw [List.length_eraseIdx, if_pos hdl], by simp [hol], ?_, hr5, hone5, ?_, ?_, by omega, fun h => by omega⟩
      · rw [← hD]; simp
      · have := ownF_ext (H1 := H5) hO4 (fun q hq o ho => by rw [hk5 q (by omega)]; exact ho)
        simpa using this
      · refine ⟨by omega, fun q hq => ?_⟩
        rw [hk5 q (by omega), hk4 q (by omega), hE3.2 q hq]
    · obtain rfl : j = kk := by omega
      have hdr : (ns.take j).drop j = [] := by apply List.drop_eq_nil_of_le; simp; omega
      rw [hdr] at hD
      simp only [dealS, List.append_nil] at hD
      have hle2 := hE2.1
      have hE13 := hE1.trans hE3
      rcases hO3 with ⟨h0, rfl⟩ | ⟨q, vq, sq, q1, rfl, q3⟩
      · have h00 : out = [] := by simpa using h0
        have hc : chosS i j ns = [] := by
          have := chosS_len (ns := ns) hkk (by omega)
          have hj0 : j = 0 := by rw [← hol, h00]; rfl
          exact List.eq_nil_of_length_eq_zero (this.trans hj0)
        refine L_reg [8] (fun K hK => ?_)
        simp [okFn_low]
        refine AC_kernZ cx_ok 300 sort_nil (.cons (by exact Bel.nilslice ..) .nil) (.tuple .nil) ?_
        simp
        apply hK; clear hK K
        refine L_reg [6] (fun K hK => ?_)
        simp
        apply hK; clear hK K
        exact L_ret ⟨.inr rfl, _, rfl, h _ _ (by rw [hc]; exact ⟨fun _ => rfl, .nil _ _⟩) hE13⟩
      · have hsort := Sort_ac q vq sq out H3
        refine L_reg [8] (fun K hK => ?_)
        simp [okFn_low]
        refine hsort _ q3 (by omega) (fun H4 m' s4 p1 p2 p3 p4 => ?_)
        simp
        apply hK; clear hK K
        refine L_reg [6] (fun K hK => ?_)
        simp
        apply hK; clear hK K
        rw [hD] at p1
        have hm := sort_chos hkk p1 p2
        have hml : m'.length = out.length := by rw [p1.length_eq, ← hD]
        have hle13 := hE13.1
        have hj0 : j ≠ 0 := fun e => by have := hoz e; cases this
        refine L_ret ⟨.inr rfl, _, rfl, h _ _ ⟨fun e => absurd (by rw [← hol, ← hml, hm, e]; rfl) hj0, .inr ⟨q, vq, s4, by omega, by rw [← hm]; simp [hml], by rw [← hm]; exact p3⟩⟩ ⟨Nat.le_trans hE13.1 p4.1, fun j hj => ?_⟩⟩
        rw [p4.2 j (by omega) (by omega)]; exact hE13.2 j hj
theorem chosen_q (n kk : Nat) (ns : List Nat) (H : AH) (hn : 1 ≤ n ∧ n ≤ 10) (hkk : kk ≤ n) (hns : ns.length = 10) (hb : ∀ x ∈ ns, x < 256) (Q : AV → AH → Prop) (hq : Q (chV H (chosS n kk ns)) (chH H (chosS n kk ns))) : AC Try.prog 47 [.agg (u8s ns), .int .i64 n, .int .i64 kk] H Q :=
  AC.tidyN (fun Q h => chosen_ac n kk ns H Q hn hkk hns hb h) Q hq
end Go.Proofs.Ytmoifofihafgmaa

/- A recipe by numbers. -/
namespace Go.Proofs.Ytmoifofihafgmaa
open Go Go.Proofs.Ytmoifofihafgmaa.AX

@[simp] theorem ld61 (H : AH) (r off ver : Nat) : loadV Try.prog 61 H (.ptr r off ver) = ld H r off ver := ld_sc (by kernel_rfl) ..
@[simp] theorem fa720 (r off ver : Nat) : aFieldAddr Try.prog 72 (.ptr r off ver) 0 = some (.ptr r (off + 0) ver) := fld_ptr (by kernel_rfl) ..
@[simp] theorem fa721 (r off ver : Nat) : aFieldAddr Try.prog 72 (.ptr r off ver) 1 = some (.ptr r (off + 1) ver) := fld_ptr (by kernel_rfl) ..
@[simp] theorem fa722 (r off ver : Nat) : aFieldAddr Try.prog 72 (.ptr r off ver) 2 = some (.ptr r (off + 11) ver) := fld_ptr (by kernel_rfl) ..
@[simp] theorem fa723 (r off ver : Nat) : aFieldAddr Try.prog 72 (.ptr r off ver) 3 = some (.ptr r (off + 12) ver) := fld_ptr (by kernel_rfl) ..
@[simp] theorem len103 (r off len ver sz : Nat) : aLen Try.prog 103 (.part r off len ver sz) = some (.int .i64 len) := len_part (n := 1) (by kernel_rfl) ..
@[simp] theorem ixa103 (r off len ver : Nat) (k : IntKind) (i : Int) : aIndexAddr Try.prog 103 (.part r off len ver 1) (.int k i) = if 0 ≤ i ∧ i < len then some (.ptr r (off + i.toNat * 1) ver) else none := ixa_part (by kernel_rfl) ..
@[simp] theorem cv613 (k : IntKind) (n : Int) : aConv Try.prog 61 3 (.int k n) = some (.int .i64 (IntKind.i64.wrap n)) := cv_int (by kernel_rfl) (by kernel_rfl) n
theorem ar65 : arSz Try.prog 65 = some (10, 1) := by kernel_rfl
theorem zt43 : zeroT Try.prog 43 = some [.slice none 0 0 0 1 false, .int .i64 0, .int .i64 0] := by kernel_rfl
theorem known_ne {u : AV} (h : u ≠ .undef) : known (some u) = some u := by cases u <;> first | rfl | exact absurd rfl h
theorem take3 {u : AV} (h : u ≠ .undef) (a b : Int) : takeKnown 3 [u, .int .i64 a, .int .i64 b] = some [u, .int .i64 a, .int .i64 b] := by
  simpa using takeKnown_row (l := [u, .int .i64 a, .int .i64 b]) (by intro v hv; simp at hv; rcases hv with rfl | rfl | rfl; exact h; simp; simp) []
/-- A cell of a row is written. -/
theorem st_cell {t : TypeId} (sc : scal Try.prog t = true) {H : AH} {r off s : Nat} {c : List AV} {x y : AV} (hr : H[r]? = some (.row c 0 s false)) (hx : x.one = true) (hy : known c[off]? = some y) :
    ∃ H' s', storeV Try.prog t H (.ptr r off 0) x = some (none, H') ∧ H'[r]? = some (.row (c.set off x) 0 s' false) ∧ H'.length = H.length ∧ ∀ j, j ≠ r → H'[j]? = H[j]? :=
  ⟨_, _, store_row sc hx hr hy, get_set hr, by simp, fun j hj => by rw [set_ne (Ne.symm hj)]⟩
def mixV (lv : Nat) (ws : List Nat) (lo wd : Nat) : List AV := .int .u8 lv :: (u8s ws ++ [.int .u16 lo, .int .u8 wd])
theorem mixV_known {lv : Nat} {ws : List Nat} {lo wd : Nat} : ∀ v ∈ mixV lv ws lo wd, v ≠ .undef := by
  intro v hv
  simp only [mixV, u8s, List.mem_cons, List.mem_append, List.mem_map, List.not_mem_nil, or_false] at hv
  rcases hv with rfl | ⟨b, -, rfl⟩ | rfl | rfl <;> simp
def mixN (lv most : Nat) : Nat := 1 + lv % most
def mixW (lv : Nat) (ws : List Nat) (most : Nat) : List Int := (ws.take (mixN lv most)).map fun w => ((w % 51 : Nat) : Int)
def mixLo (lo : Nat) : Int := ((lo % 260 : Nat) : Int) - 5
def mixHi (lo wd : Nat) : Int := mixLo lo + ((wd % 60 : Nat) : Int)
theorem mixW_len {lv : Nat} {ws : List Nat} {most : Nat} (hm : 1 ≤ most) (h10 : most ≤ 10) (hl : ws.length = 10) : (mixW lv ws most).length = mixN lv most := by
  have := Nat.mod_lt lv (show 0 < most by omega)
  simp [mixW, mixN]; omega
theorem mixN_le {lv most : Nat} (hm : 1 ≤ most) : 1 ≤ mixN lv most ∧ mixN lv most ≤ most := by
  have := Nat.mod_lt lv (show 0 < most by omega)
  unfold mixN; omega
theorem mixW_ok {lv : Nat} {ws : List Nat} {most : Nat} : ∀ w ∈ mixW lv ws most, 0 ≤ w ∧ w ≤ 50 := by
  intro w hw
  obtain ⟨x, -, rfl⟩ := List.mem_map.1 hw
  omega
theorem rec_mix {lv : Nat} {ws : List Nat} {most : Nat} {lo hi : Int} (hm : 1 ≤ most) (h10 : most ≤ 10) (hl : ws.length = 10) (h : lo ≤ hi) : recE (mixW lv ws most) lo hi = 0 := by
  have h1 := mixW_len (lv := lv) hm h10 hl
  have h2 := mixN_le (lv := lv) hm
  unfold recE
  rw [if_neg (by omega), if_neg (by omega), if_neg, if_neg (by omega)]
  rw [List.any_eq_true]
  rintro ⟨w, hw, hb⟩
  have := mixW_ok w hw
  simp [badS] at hb; omega
set_option maxRecDepth 100000 in
theorem mix_ac (lv lo wd most : Nat) (ws : List Nat) (H : AH) (Q : AV → AH → Prop) (h1 : lv < 256) (h2 : lo < 65536) (h3 : wd < 256) (hl : ws.length = 10) (hb : ∀ w ∈ ws, w < 256) (hm : 1 ≤ most) (h10 : most ≤ 10)
    (h : ∀ v H', Ls H' v (mixW lv ws most) → Ext H H' → Q (.agg [v, .int .i64 (mixLo lo), .int .i64 (mixHi lo wd)]) H') : AC Try.prog 50 [.agg (mixV lv ws lo wd), .int .i64 most] H Q := by
  refine L_body 45 Try.func50 rfl rfl ?_
  obtain ⟨I, hI, hz⟩ := zeroT_some zt43
  refine L_reg [1, 2, 4] (fun K hK => ?_)
  simp [AV.isU, acells, hI, hz]
  apply hK; clear hK K
  refine L_reg [1, 2, 4, 5] (fun K hK => ?_)
  simp [hI, hz]
  apply hK; clear hK K
  clear hI hz I
  have hE0 : Ext H (H ++ [AObj.row (mixV lv ws lo wd) 0 0 false, .row [.slice none 0 0 0 1 false, .int .i64 0, .int .i64 0] 0 0 false, .row [.slice none 0 0 0 1 false, .int .i64 0, .int .i64 0] 0 0 false]) := .push _ _
  have r0 : (H ++ [AObj.row (mixV lv ws lo wd) 0 0 false, .row [.slice none 0 0 0 1 false, .int .i64 0, .int .i64 0] 0 0 false, .row [.slice none 0 0 0 1 false, .int .i64 0, .int .i64 0] 0 0 false])[H.length]? = some (.row (mixV lv ws lo wd) 0 0 false) := by simp
  have r1 : (H ++ [AObj.row (mixV lv ws lo wd) 0 0 false, .row [.slice none 0 0 0 1 false, .int .i64 0, .int .i64 0] 0 0 false, .row [.slice none 0 0 0 1 false, .int .i64 0, .int .i64 0] 0 0 false])[H.length + 1]? = some (.row [.slice none 0 0 0 1 false, .int .i64 0, .int .i64 0] 0 0 false) := by simp
  have r2 : (H ++ [AObj.row (mixV lv ws lo wd) 0 0 false, .row [.slice none 0 0 0 1 false, .int .i64 0, .int .i64 0] 0 0 false, .row [.slice none 0 0 0 1 false, .int .i64 0, .int .i64 0] 0 0 false])[H.length + 2]? = some (.row [.slice none 0 0 0 1 false, .int .i64 0, .int .i64 0] 0 0 false) := by simp
  have hlen : (H ++ [AObj.row (mixV lv ws lo wd) 0 0 false, .row [.slice none 0 0 0 1 false, .int .i64 0, .int .i64 0] 0 0 false, .row [.slice none 0 0 0 1 false, .int .i64 0, .int .i64 0] 0 0 false]).length = H.length + 3 := by simp
  generalize H ++ [AObj.row (mixV lv ws lo wd) 0 0 false, .row [.slice none 0 0 0 1 false, .int .i64 0, .int .i64 0] 0 0 false, .row [.slice none 0 0 0 1 false, .int .i64 0, .int .i64 0] 0 0 false] = H1 at *
  generalize hp : H.length = p at *
  have l0 : ld H1 p 0 0 = some (.int .u8 (lv : Int)) := by rw [ld_row r0]; rfl
  have hrem := rem_nat lv most
  have hmne : most ≠ 0 := by omega
  have hN : 1 + ((lv % most : Nat) : Int) = (mixN lv most : Int) := by simp [mixN]
  have hNle := mixN_le (lv := lv) hm
  have hml := mixW_len (lv := lv) hm h10 hl
  have hwk : ∀ i, i < mixN lv most → i < 10 := fun i hi => by omega
  have hmw : ∀ i (hi : i < ws.length), (ws.take (i + 1)).map (fun w => ((w % 51 : Nat) : Int)) = (ws.take i).map (fun w => ((w % 51 : Nat) : Int)) ++ [((ws[i] % 51 : Nat) : Int)] := fun i hi => by
    rw [List.take_add_one, List.getElem?_eq_getElem hi, List.map_append]; rfl
  unfold mixW at h hml
  generalize hn : mixN lv most = n at *
  have hpt := slice_part ar65 (by decide) (by decide) (k := .i64) (m := n) (off := 1) r0 (by simp [mixV, u8s, hl]) mixV_known (by omega)
  refine L_reg [2, 4, 5, 15, 16, 17] (fun K hK => ?_)
  simp [l0, wrap_i64 (a := (lv : Int)) (by omega), hmne, hrem, hN, wrap_i64 (a := (n : Int)) (by omega), -Int.natCast_emod, noSlice ar65, hpt]
  apply hK; clear hK K
  refine L_block (L_loopV [17] (fun k vs H' => ∃ (i : Nat) (u : AV) (s : Nat), k = n - i ∧ i ≤ n ∧ vs = [.int .i64 i] ∧ p + 3 ≤ H'.length ∧ (∀ j, j ≠ p + 2 → j < p + 3 → H'[j]? = H1[j]?) ∧ H'[p + 2]? = some (.row [u, .int .i64 0, .int .i64 0] 0 s false) ∧ u.one = true ∧ u ≠ .undef ∧ OwnF (p + 3) H' u (((ws.take i).map fun w => ((w % 51 : Nat) : Int)).map (.int .i64))) _ [.int .i64 (0 : Nat)] rfl
    ⟨0, _, 0, rfl, by omega, rfl, by omega, fun j _ _ => rfl, r2, rfl, by simp, by simpa using OwnF.nil _ _⟩ ?_)
  rintro k _ H2 ⟨i, u, s, rfl, hi, rfl, hlen2, hsame, hr2, hone, hund, hO⟩
  have hr0 : H2[p]? = some (.row (mixV lv ws lo wd) 0 0 false) := (hsame p (by omega) (by omega)).trans r0
  refine L_reg [2, 4, 5, 15, 16, 17, 18] (fun K hK => ?_)
  simp
  apply hK; clear hK K
  refine L_dec (i < n) (by simp) (fun hlt => ?_) (fun hge => L_exit ?_)
  · have hi10 : i < ws.length := by omega
    have hwi := hb _ (List.getElem_mem hi10)
    have hld : ld H2 p (1 + i) 0 = some (.int .u8 (ws[i] : Nat)) := by
      rw [ld_row hr0, show 1 + i = i + 1 by omega]
      simp [mixV, u8s, List.getElem?_append, hi10]
    have htk := hmw i hi10
    have hdl : ((ws.take i).map fun w => ((w % 51 : Nat) : Int)).length = i := by simp; omega
    generalize ws[i] = w at hwi hld htk
    generalize (ws.take i).map (fun w => ((w % 51 : Nat) : Int)) = done at *
    have hrem2 : ((w : Int)).tmod 51 = ((w % 51 : Nat) : Int) := rem_nat w 51
    obtain ⟨H0, hH0, hT⟩ := ext_take H2 (p + 3) hlen2
    rw [← hH0] at hO
    obtain ⟨v', H4, happ, hO4, hE4⟩ := ownF_append (P := Try.prog) hT el22 el22 (x := .int .i64 ((w % 51 : Nat) : Int)) (m := 1) hO rfl (by simp; omega)
    rw [hH0] at hO4
    have hlen4 : p + 3 ≤ H4.length := by have := hE4.1; omega
    have hk4 : ∀ j, j < p + 3 → H4[j]? = H2[j]? := fun j hj => by rw [hE4.2 j (by omega), hT.2 j (by omega)]
    have h4r2 := (hk4 (p + 2) (by omega)).trans hr2
    have hv1 : v'.one = true ∧ v' ≠ .undef := by
      obtain ⟨r, ver, rfl⟩ := hO4.len
      exact ⟨rfl, by simp⟩
    have hst := store_row (P := Try.prog) (u := 22) (p := 0) sc22 (x := v') (y := u) hv1.1 h4r2 (known_ne hund)
    have hlu : ld H2 (p + 2) 0 0 = some u := by rw [ld_row hr2]; exact known_ne hund
    refine L_block ?_
    refine L_reg [2, 4, 5, 7, 15, 16, 17] (fun K hK => ?_)
    simp [show (i : Int) < n by omega, hld]
    apply hK; clear hK K
    refine L_reg [2, 4, 5, 15, 16, 17] (fun K hK => ?_)
    simp [wrap_i64 (a := (w : Int)) (by omega), hrem2, hlu, happ, hst, -Int.natCast_emod]
    apply hK; clear hK K
    refine L_reg [2, 4, 5, 15, 16, 17] (fun K hK => ?_)
    simp [wrap_i64 (a := (i : Int) + 1) (by omega)]
    apply hK; clear hK K
    refine ⟨n - (i + 1), [.int .i64 (i + 1 : Nat)], by omega, by simp, i + 1, v', 0, rfl, by omega, rfl, by simp; omega, fun j hj1 hj2 => ?_, get_set h4r2, hv1.1, hv1.2, ?_⟩
    · rw [set_ne (Ne.symm hj1), hk4 j hj2]; exact hsame j hj1 hj2
    · rw [htk]
      exact ownF_ext (by simpa using hO4) (fun q hq o ho => by rw [set_ne (by omega)]; exact ho)
  · obtain rfl : i = n := by omega
    have b11 : ld H2 p 11 0 = some (.int .u16 (lo : Int)) := by
      rw [ld_row hr0]; simp [mixV, u8s, hl]
    have hrem3 : ((lo : Int)).tmod 260 = ((lo % 260 : Nat) : Int) := rem_nat lo 260
    have hrem4 : ((wd : Int)).tmod 60 = ((wd % 60 : Nat) : Int) := rem_nat wd 60
    have hlo : ((lo % 260 : Nat) : Int) - 5 = mixLo lo := rfl
    have hhi : mixLo lo + ((wd % 60 : Nat) : Int) = mixHi lo wd := rfl
    have hlob : -5 ≤ mixLo lo ∧ mixLo lo ≤ 260 := by unfold mixLo; omega
    have hhib : -5 ≤ mixHi lo wd ∧ mixHi lo wd ≤ 400 := by unfold mixHi; omega
    generalize mixLo lo = a at *
    generalize mixHi lo wd = b at *
    obtain ⟨H3, s3, hst1, q2, ql, qk⟩ := st_cell sc3 (x := .int .i64 a) (off := 1) hr2 rfl rfl
    refine L_reg [2, 4, 5] (fun K hK => ?_)
    simp [b11, wrap_i64 (a := (lo : Int)) (by omega), hrem3, hlo, wrap_i64 (a := a) (by omega), hst1, -Int.natCast_emod]
    apply hK; clear hK K
    have q0 : H3[p]? = some (.row (mixV lv ws lo wd) 0 0 false) := (qk p (by omega)).trans hr0
    have q1 : H3[p + 1]? = some (.row [.slice none 0 0 0 1 false, .int .i64 0, .int .i64 0] 0 0 false) := by rw [qk _ (by omega)]; exact (hsame (p + 1) (by omega) (by omega)).trans r1
    have qO := ownF_ext (H1 := H3) hO (fun q hq o ho => by rw [qk _ (by omega)]; exact ho)
    have qE : Ext H H3 := ⟨by omega, fun j hj => by rw [qk _ (by omega), hsame j (by omega) (by omega)]; exact hE0.2 j (by omega)⟩
    have b12 : ld H3 p 12 0 = some (.int .u8 (wd : Int)) := by
      rw [ld_row q0]; simp [mixV, u8s, hl]
    have c1 : ld H3 (p + 2) 1 0 = some (.int .i64 a) := by rw [ld_row q2]; rfl
    obtain ⟨H4, s4, hst2, s2, sl, sk⟩ := st_cell sc3 (x := .int .i64 b) (off := 2) q2 rfl rfl
    refine L_reg [4, 5] (fun K hK => ?_)
    simp [c1, b12, wrap_i64 (a := (wd : Int)) (by omega), hrem4, hhi, wrap_i64 (a := b) (by omega), hst2, -Int.natCast_emod]
    apply hK; clear hK K
    have s2 : H4[p + 2]? = some (.row [u, .int .i64 a, .int .i64 b] 0 s4 false) := s2
    have s1 : H4[p + 1]? = some (.row [.slice none 0 0 0 1 false, .int .i64 0, .int .i64 0] 0 0 false) := by rw [sk _ (by omega)]; exact q1
    have sO := ownF_ext (H1 := H4) qO (fun q hq o ho => by rw [sk _ (by omega)]; exact ho)
    have sE : Ext H H4 := ⟨by omega, fun j hj => by rw [sk _ (by omega)]; exact qE.2 j (by omega)⟩
    have e3 : ldn H4 (p + 2) 0 3 0 = some [u, .int .i64 a, .int .i64 b] := by
      rw [ldn_row s2]; exact take3 hund a b
    have hst3 := store_agg ag43 (vs := [u, .int .i64 a, .int .i64 b]) s1 (by decide) rfl (by simp) rfl (by intro v hv; simp at hv; rcases hv with rfl | rfl | rfl; exact hone; rfl; rfl)
    refine L_reg [4] (fun K hK => ?_)
    simp [e3, hst3]
    apply hK; clear hK K
    have t1 : (H4.set (p + 1) (.row [u, .int .i64 a, .int .i64 b] 0 0 false))[p + 1]? = some (.row [u, .int .i64 a, .int .i64 b] 0 0 false) := get_set s1
    have e4 : ldn (H4.set (p + 1) (.row [u, .int .i64 a, .int .i64 b] 0 0 false)) (p + 1) 0 3 0 = some [u, .int .i64 a, .int .i64 b] := by
      rw [ldn_row t1]; exact take3 hund a b
    have tO := ownF_ext (H1 := H4.set (p + 1) (.row [u, .int .i64 a, .int .i64 b] 0 0 false)) sO (fun q hq o ho => by rw [set_ne (by omega)]; exact ho)
    have tE : Ext H (H4.set (p + 1) (.row [u, .int .i64 a, .int .i64 b] 0 0 false)) := sE.set _ (by omega)
    refine L_ret ⟨.inr rfl, .agg [u, .int .i64 a, .int .i64 b], ?_, h _ _ (ownF_ls tO) tE⟩
    have q1 : aRes1 Try.prog [(4, AV.ptr (p + 1) 0 0)] (H4.set (p + 1) (.row [u, .int .i64 a, .int .i64 b] 0 0 false)) (.cell 4 43) = some (.agg [u, .int .i64 a, .int .i64 b]) := by
      show loadV Try.prog 43 _ (.ptr (p + 1) 0 0) = _
      rw [ld43, e4]; rfl
    show (aResList Try.prog [(4, AV.ptr (p + 1) 0 0)] _ [.cell 4 43]).map _ = _
    simp only [aResList, q1]
    rfl
end Go.Proofs.Ytmoifofihafgmaa

/- BlendMetric, walked. -/
namespace Go.Proofs.Ytmoifofihafgmaa
open Go Go.Proofs.Ytmoifofihafgmaa.AX

/-! ### What holds of distances -/
theorem chk_of {n : Nat} : ∀ {l : List Int} {p : Int}, (∀ x ∈ l, (0 ≤ x ∧ x < n) ∧ p < x) → l.Pairwise (· < ·) → chk n p l = 0
  | [], _, _, _ => rfl
  | x :: l, p, h, hs => by
    have hx := h x List.mem_cons_self
    obtain ⟨h1, h2⟩ := List.pairwise_cons.1 hs
    simp only [chk]
    rw [if_neg (by omega), if_neg (by omega)]
    exact chk_of (fun y hy => ⟨(h y (List.mem_cons_of_mem _ hy)).1, h1 y hy⟩) h2
theorem check_of {n : Nat} {b : List Int} (hb : Okb n b) (h1 : 1 ≤ n) (h2 : n ≤ 10) : checkE n b = 0 := by
  unfold checkE
  rw [if_pos (rleaves.1 ⟨by omega, by omega⟩)]
  exact chk_of (fun x hx => ⟨hb.1 x hx, by have := hb.1 x hx; omega⟩) hb.2
theorem both_of {n : Nat} {a b : List Int} (ha : Okb n a) (hb : Okb n b) (h : a.length = b.length) (h1 : 1 ≤ n) (h2 : n ≤ 10) : bothE n a b = 0 ∧ awayS n a b = (lack a b).length := by
  have : bothE n a b = 0 := by unfold bothE; rw [if_pos (check_of ha h1 h2), if_pos (check_of hb h1 h2), if_pos h]
  exact ⟨this, by unfold awayS; rw [if_pos this]⟩
theorem lack_part (l m : List Int) : (l.filter fun y => decide (y ∈ m)).length + (lack l m).length = l.length := by
  unfold lack
  induction l with
  | nil => rfl
  | cons x l ih => by_cases hx : x ∈ m <;> simp [hx] at ih ⊢ <;> omega
def othS (n : Nat) (l : List Int) : List Int := lack (iota n) l
theorem othS_okb (n : Nat) (l : List Int) : Okb n (othS n l) := by
  obtain ⟨h1, h2⟩ := okb_iota n
  exact ⟨fun x hx => h1 x (mem_lack.1 hx).1, lack_sorted h2⟩
theorem othS_len {n : Nat} {l : List Int} (hl : Okb n l) : (othS n l).length = n - l.length := by
  have h := lack_part (iota n) l
  have e : (iota n).filter (fun y => decide (y ∈ l)) = l := by
    refine sorted_ext ((okb_iota n).2.sublist List.filter_sublist) hl.2 fun x => ?_
    simp only [List.mem_filter, decide_eq_true_eq]
    exact ⟨fun h => h.2, fun h => ⟨mem_iota.2 (hl.1 x h), h⟩⟩
  rw [e, iota_len] at h
  unfold othS; omega
theorem lack_oth {n : Nat} {a b : List Int} (_ha : Okb n a) (hb : Okb n b) : lack (othS n a) (othS n b) = lack b a := by
  refine sorted_ext (lack_sorted (othS_okb n a).2) (lack_sorted hb.2) fun x => ?_
  simp only [mem_lack, othS, mem_iota]
  constructor
  · rintro ⟨⟨h1, h2⟩, h3⟩
    refine ⟨Classical.byContradiction fun h => h3 ⟨h1, h⟩, h2⟩
  · rintro ⟨h1, h2⟩
    exact ⟨⟨hb.1 x h1, h2⟩, fun h => h.2 h1⟩
theorem lack_tri {n : Nat} {a b c : List Int} (ha : Okb n a) (hc : Okb n c) : (lack a b).length ≤ (lack a c).length + (lack c b).length := by
  have h := lack_part (lack a b) c
  have e1 : lack (lack a b) c = lack (lack a c) b := by
    refine sorted_ext (lack_sorted (lack_sorted ha.2)) (lack_sorted (lack_sorted ha.2)) fun x => ?_
    simp only [mem_lack]
    exact ⟨fun h => ⟨⟨h.1.1, h.2⟩, h.1.2⟩, fun h => ⟨⟨h.1.1, h.2⟩, h.1.2⟩⟩
  have e2 : (lack a b).filter (fun y => decide (y ∈ c)) = (lack c b).filter (fun y => decide (y ∈ a)) := by
    refine sorted_ext ((lack_sorted ha.2).sublist List.filter_sublist) ((lack_sorted hc.2).sublist List.filter_sublist) fun x => ?_
    simp only [List.mem_filter, mem_lack, decide_eq_true_eq]
    exact ⟨fun h => ⟨⟨h.2, h.1.2⟩, h.1.1⟩, fun h => ⟨⟨h.2, h.1.2⟩, h.1.1⟩⟩
  have h1 : (lack (lack a c) b).length ≤ (lack a c).length := by unfold lack; exact List.length_filter_le _ _
  have h2 : ((lack c b).filter (fun y => decide (y ∈ a))).length ≤ (lack c b).length := List.length_filter_le _ _
  rw [e1, e2] at h
  omega
theorem lack_most {n : Nat} {a b : List Int} (ha : Okb n a) (hb : Okb n b) : (lack a b).length ≤ a.length ∧ (lack a b).length ≤ n - b.length := by
  have h1 : (lack a b).length ≤ a.length := by unfold lack; exact List.length_filter_le _ _
  refine ⟨h1, ?_⟩
  have e : (othS n b).filter (fun y => decide (y ∈ a)) = lack a b := by
    refine sorted_ext ((othS_okb n b).2.sublist List.filter_sublist) (lack_sorted ha.2) fun x => ?_
    simp only [List.mem_filter, othS, mem_lack, mem_iota, decide_eq_true_eq]
    exact ⟨fun h => ⟨h.2, h.1.2⟩, fun h => ⟨⟨ha.1 x h.1, h.2⟩, h.1⟩⟩
  rw [← e, ← othS_len hb]
  exact List.length_filter_le _ _
theorem lack_zero {n : Nat} {a b : List Int} (ha : Okb n a) (hb : Okb n b) (h : a.length = b.length) : (lack a b).length = 0 ↔ a = b := by
  constructor
  · intro h0
    have h1 := lack_len ha.2 hb.2 h
    exact way_end ha hb (List.eq_nil_of_length_eq_zero h0) (List.eq_nil_of_length_eq_zero (by omega))
  · rintro rfl; rw [lack_self]; rfl

/-! ### The functions -/
theorem away_q (n : Int) (u v : AV) (a b : List Int) (H : AH) (ha : a.length ≤ 1000000) (hb : b.length ≤ 1000000) (hu : Ls H u a) (hv : Ls H v b) (Q : AV → AH → Prop) (h : Q (.tuple [.int .i64 (awayS n a b), .int .i64 (bothE n a b)]) H) : AC Try.prog 27 [.int .i64 n, u, v] H Q :=
  AC.quiet rfl (fun Q h => Away_ac n u v a b H Q ha hb hu hv h) Q h
theorem others_ac (n : Nat) (hn : n ≤ 1000) (v : AV) (l : List Int) (q s : Nat) (H : AH) (Q : AV → AH → Prop) (hl : l.length ≤ 1000000) (hv : Ls H v l) (hq : H[q]? = some (.row [.int .i64 n] 0 s false)) (h : ∀ v' H', OwnN H.length H' v' (othS n l) → Ext H H' → Q v' H') : AC Try.prog 49 [v, .ptr q 0 0] H Q := by
  have e : ld H q 0 0 = some (.int .i64 n) := by rw [ld_row hq]; rfl
  refine L_body 20 Try.func49 rfl rfl ?_
  refine L_reg [0, 1] (fun K hK => ?_)
  simp
  apply hK; clear hK K
  refine L_reg [0, 1, 4] (fun K hK => ?_)
  simp
  apply hK; clear hK K
  refine L_reg [0, 4, 6, 7] (fun K hK => ?_)
  simp [e]
  apply hK; clear hK K
  refine L_block (L_loopV [4, 7] (fun k vs H' => ∃ (i : Nat) (w : AV), k = n - i ∧ i ≤ n ∧ OwnN H.length H' w (othS i l) ∧ Ext H H' ∧ vs = [w, .int .i64 i]) _ [.slice none 0 0 0 1 false, .int .i64 (0 : Nat)] rfl ⟨0, _, rfl, by omega, ⟨fun _ => rfl, .nil _ _⟩, .refl H, rfl⟩ ?_)
  rintro k _ H1 ⟨i, w, rfl, hi, ⟨hO0, hO⟩, hE, rfl⟩
  refine L_reg [0, 4, 6, 7, 8] (fun K hK => ?_)
  simp
  apply hK; clear hK K
  refine L_dec (i < n) (by simp) (fun hlt => ?_) (fun hge => L_exit ?_)
  · have hs : othS (i + 1) l = othS i l ++ if (i : Int) ∈ l then [] else [(i : Int)] := by
      unfold othS lack
      rw [iota_succ, List.filter_append]
      by_cases hm : (i : Int) ∈ l <;> simp [hm]
    have hlen : (othS i l).length ≤ i := by
      unfold othS lack
      exact Nat.le_trans (List.length_filter_le _ _) (by simp)
    refine L_block ?_
    refine L_reg [0, 4, 5, 6, 7] (fun K hK => ?_)
    simp
    apply hK; clear hK K
    refine L_reg [0, 4, 5, 6, 7, 13] (fun K hK => ?_)
    simp [okFn_low]
    refine Contains_ac v l i H1 _ hl (hv.ext hE) ?_
    simp
    apply hK; clear hK K
    by_cases hm : (i : Int) ∈ l
    · refine L_false (by simp [hm]) ?_
      rw [if_pos hm, List.append_nil] at hs
      refine L_reg [0, 4, 6, 7] (fun K hK => ?_)
      simp [wrap_i64 (a := (i : Int) + 1) (by omega)]
      apply hK; clear hK K
      exact ⟨n - (i + 1), [w, .int .i64 (i + 1 : Nat)], by omega, by simp, i + 1, w, rfl, by omega, by rw [hs]; exact ⟨hO0, hO⟩, hE, rfl⟩
    · refine L_true (by simp [hm]) ?_
      rw [if_neg hm] at hs
      obtain ⟨v', H', he, hO', hE'⟩ := ownF_append hE el22 el22 (x := .int .i64 (i : Int)) (m := 1) hO rfl (by simp; omega)
      refine L_reg [0, 4, 6, 7] (fun K hK => ?_)
      simp [he]
      apply hK; clear hK K
      refine L_reg [0, 4, 6, 7] (fun K hK => ?_)
      simp [wrap_i64 (a := (i : Int) + 1) (by omega)]
      apply hK; clear hK K
      exact ⟨n - (i + 1), [v', .int .i64 (i + 1 : Nat)], by omega, by simp, i + 1, v', rfl, by omega, by rw [hs]; exact ⟨fun h => by simp at h, by simpa using hO'⟩, hE', rfl⟩
  · obtain rfl : i = n := by omega
    refine L_reg [3] (fun K hK => ?_)
    simp
    apply hK; clear hK K
    exact L_ret ⟨.inr rfl, _, rfl, h _ _ ⟨hO0, hO⟩ hE⟩
theorem others_q (n : Nat) (hn : n ≤ 1000) (v : AV) (l : List Int) (q s : Nat) (H : AH) (hl : l.length ≤ 1000000) (hv : Ls H v l) (hq : H[q]? = some (.row [.int .i64 n] 0 s false)) (Q : AV → AH → Prop) (h : Q (chV H (othS n l)) (chH H (othS n l))) : AC Try.prog 49 [v, .ptr q 0 0] H Q :=
  AC.tidyN (fun Q h => others_ac n hn v l q s H Q hl hv hq h) Q h
end Go.Proofs.Ytmoifofihafgmaa

/- BlendMetric, walked. -/
namespace Go.Proofs.Ytmoifofihafgmaa
open Go Go.Proofs.Ytmoifofihafgmaa.AX

theorem u8s_len (ns : List Nat) : (u8s ns).length = ns.length := by simp [u8s]
theorem ldn_u8s {H : AH} {r s : Nat} {ns : List Nat} (hr : H[r]? = some (.row (u8s ns) 0 s false)) (hl : ns.length = 10) : ldn H r 0 10 0 = some (u8s ns) := by
  rw [ldn_row hr, List.drop_zero]
  have := takeKnown_row (l := u8s ns) (fun v hv => by unfold u8s at hv; obtain ⟨m, -, rfl⟩ := List.mem_map.1 hv; simp) []
  rw [List.append_nil, u8s_len, hl] at this
  exact this
@[simp] theorem eq_bool (l b c : Bool) : binV Try.prog .eql 4 l (.bool b) (.bool c) = some (.bool (b == c)) := by
  cases l <;> cases b <;> cases c <;> kernel_rfl
set_option maxRecDepth 100000 in
theorem blendMetric_ac (x y : Nat) (hx : x < 256) (hy : y < 256) (n1 n2 n3 : List Nat) (l1 : n1.length = 10) (l2 : n2.length = 10) (l3 : n3.length = 10) (b1 : ∀ x ∈ n1, x < 256) (b2 : ∀ x ∈ n2, x < 256) (b3 : ∀ x ∈ n3, x < 256) (H : AH) :
    AC Try.prog 9 [.int .u8 x, .int .u8 y, .agg (u8s n1), .agg (u8s n2), .agg (u8s n3)] H fun u _ => u = .bool true := by
  refine L_body 143 Try.func9 rfl rfl ?_
  refine L_reg [0, 1, 7, 8, 9] (fun K hK => ?_)
  simp [AV.isU, acells]
  apply hK; clear hK K
  have r7 : (H ++ [AObj.row (u8s n1) 0 0 false, .row (u8s n2) 0 0 false, .row (u8s n3) 0 0 false])[H.length]? = some (.row (u8s n1) 0 0 false) := by simp
  have r8 : (H ++ [AObj.row (u8s n1) 0 0 false, .row (u8s n2) 0 0 false, .row (u8s n3) 0 0 false])[H.length + 1]? = some (.row (u8s n2) 0 0 false) := by simp
  have r9 : (H ++ [AObj.row (u8s n1) 0 0 false, .row (u8s n2) 0 0 false, .row (u8s n3) 0 0 false])[H.length + 2]? = some (.row (u8s n3) 0 0 false) := by simp
  have hbl : (H ++ [AObj.row (u8s n1) 0 0 false, .row (u8s n2) 0 0 false, .row (u8s n3) 0 0 false]).length = H.length + 3 := by simp
  generalize H ++ [AObj.row (u8s n1) 0 0 false, .row (u8s n2) 0 0 false, .row (u8s n3) 0 0 false] = Hb at r7 r8 r9 hbl ⊢
  generalize hp : H.length = p at *
  have h10 : ((x : Int)).tmod 10 = ((x % 10 : Nat) : Int) := rem_nat x 10
  have hx10 : x % 10 < 10 := Nat.mod_lt _ (by omega)
  generalize x % 10 = x10 at h10 hx10
  obtain ⟨n, hn⟩ : ∃ n, n = 1 + x10 := ⟨_, rfl⟩
  have hn1 : IntKind.i64.wrap (1 + (x10 : Int)) = (n : Int) := by rw [wrap_i64 (by omega)]; omega
  have hnn : 1 ≤ n ∧ n ≤ 10 := by omega
  refine L_reg [1, 7, 8, 9, 11] (fun K hK => ?_)
  simp [wrap_i64 (a := (x : Int)) (by omega), h10, hn1, alloc_z zt3, st_zero]
  apply hK; clear hK K
  have hEb := Ext.push Hb [AObj.row [.int .i64 (n : Int)] 0 0 false]
  have r7 := hEb.row r7
  have r8 := hEb.row r8
  have r9 := hEb.row r9
  have r11 : (Hb ++ [AObj.row [.int .i64 (n : Int)] 0 0 false])[Hb.length]? = some (.row [.int .i64 (n : Int)] 0 0 false) := by simp
  rw [hbl] at r11
  simp only [hbl]
  generalize Hb ++ [AObj.row [.int .i64 (n : Int)] 0 0 false] = Hc at r7 r8 r9 r11 ⊢
  have e11 : ld Hc (p + 3) 0 0 = some (.int .i64 n) := by rw [ld_row r11]; rfl
  have hk1 : ((y : Int)).tmod ((n : Int) + 1) = ((y % (n + 1) : Nat) : Int) := rem_nat y (n + 1)
  have hk2 : y % (n + 1) < n + 1 := Nat.mod_lt _ (by omega)
  generalize y % (n + 1) = k at hk1 hk2
  have hkn : k ≤ n := by omega
  refine L_reg [7, 8, 9, 11, 12] (fun K hK => ?_)
  simp [wrap_i64 (a := (y : Int)) (by omega), e11, wrap_i64 (a := (n : Int) + 1) (by omega), show ¬ ((n : Int) + 1 = 0) by omega, hk1]
  apply hK; clear hK K
  have e7 := ldn_u8s r7 l1
  have e8 := ldn_u8s r8 l2
  have e9 := ldn_u8s r9 l3
  have q1 := chosen_q n k n1 Hc hnn hkn l1 b1
  have q2 := chosen_q n k n2 (chH Hc (chosS n k n1)) hnn hkn l2 b2
  have q3 := chosen_q n k n3 (chH (chH Hc (chosS n k n1)) (chosS n k n2)) hnn hkn l3 b3
  have oA := chosS_okb n k n1
  have oB := chosS_okb n k n2
  have oC := chosS_okb n k n3
  have lA := chosS_len (ns := n1) hkn (by omega)
  have lB := chosS_len (ns := n2) hkn (by omega)
  have lC := chosS_len (ns := n3) hkn (by omega)
  generalize chosS n k n1 = A at *
  generalize chosS n k n2 = B at *
  generalize chosS n k n3 = C at *
  refine L_regY mixed [11, 12, 13, 14, 15] (by kernel_rfl) (fun K hK => ?_)
  simp [e7, e11, okFn_low]
  refine exX_mk q1 (chE _ _) ?_
  simp [e8, e11, okFn_low]
  refine exX_mk q2 (chE _ _) ?_
  simp [e9, e11, okFn_low]
  refine exX_mk q3 (chE _ _) ?_
  simp
  apply hK; clear hK K
  have xA := (chL Hc A).ext ((chE (chH Hc A) B).trans (chE _ C))
  have xB := (chL (chH Hc A) B).ext (chE _ C)
  have xC := chL (chH (chH Hc A) B) C
  have r11 := (((chE Hc A).trans (chE (chH Hc A) B)).trans (chE _ C)).row r11
  generalize chV Hc A = va at xA ⊢
  generalize chV (chH Hc A) B = vb at xB ⊢
  generalize chV (chH (chH Hc A) B) C = vc at xC ⊢
  generalize chH (chH (chH Hc A) B) C = Hd at xA xB xC r11 ⊢
  clear e11 q1 q2 q3
  have e11 : ld Hd (p + 3) 0 0 = some (.int .i64 n) := by rw [ld_row r11]; rfl
  obtain ⟨z1, w1⟩ := both_of oA oB (by omega) hnn.1 hnn.2
  obtain ⟨z2, w2⟩ := both_of oB oA (by omega) hnn.1 hnn.2
  obtain ⟨z3, w3⟩ := both_of (othS_okb n A) (othS_okb n B) (by rw [othS_len oA, othS_len oB]; omega) hnn.1 hnn.2
  obtain ⟨z4, w4⟩ := both_of oA oC (by omega) hnn.1 hnn.2
  obtain ⟨z5, w5⟩ := both_of oC oB (by omega) hnn.1 hnn.2
  rw [lack_oth oA oB] at w3
  have hlen := lack_len oA.2 oB.2 (by omega)
  rw [← hlen] at w2 w3
  have htri := lack_tri (b := B) oA oC
  have hmost := lack_most oA oB
  have hzero := lack_zero oA oB (by omega)
  have hac := (lack_most oA oC).1
  have hcb := (lack_most oC oB).1
  have hoA := othS_len oA
  have hoB := othS_len oB
  refine L_reg [11, 12, 13, 14, 15, 16] (fun K hK => ?_)
  simp
  apply hK; clear hK K
  refine L_reg [11, 12, 13, 14, 15, 16, 17, 18] (fun K hK => ?_)
  simp [okFn_low, e11]
  refine away_q n va vb A B Hd (by omega) (by omega) xA xB _ ?_
  simp [z1, w1]
  apply hK; clear hK K
  refine L_reg [11, 12, 13, 14, 15, 16, 17, 18, 19, 20] (fun K hK => ?_)
  simp [okFn_low, e11]
  refine away_q n vb va B A Hd (by omega) (by omega) xB xA _ ?_
  simp [z2, w2]
  apply hK; clear hK K
  have p1 := others_q n (by omega) va A (p + 3) 0 Hd (by omega) xA r11
  have hEo := chE Hd (othS n A)
  have hEo2 := chE (chH Hd (othS n A)) (othS n B)
  have p2 := others_q n (by omega) vb B (p + 3) 0 (chH Hd (othS n A)) (by omega) (xB.ext hEo) (hEo.row r11)
  have p3 := away_q n (chV Hd (othS n A)) (chV (chH Hd (othS n A)) (othS n B)) (othS n A) (othS n B) (chH (chH Hd (othS n A)) (othS n B)) (by omega) (by omega) ((chL Hd (othS n A)).ext hEo2) (chL _ _)
  refine L_regY mixed [11, 12, 13, 14, 15, 17, 18, 19, 20, 21, 22] (by kernel_rfl) (fun K hK => ?_)
  simp [e11]
  refine exX_mk p1 hEo ?_
  simp
  refine exX_mk p2 hEo2 ?_
  simp [okFn_low]
  refine exX_mk p3 (.refl _) ?_
  simp [z3, w3]
  apply hK; clear hK K p1 p2 p3
  have hEE := hEo.trans hEo2
  have xA := xA.ext hEE
  have xB := xB.ext hEE
  have xC := xC.ext hEE
  have r11 := hEE.row r11
  generalize chH (chH Hd (othS n A)) (othS n B) = He at xA xB xC r11 ⊢
  clear e11 hEE hEo hEo2
  have e11 : ld He (p + 3) 0 0 = some (.int .i64 n) := by rw [ld_row r11]; rfl
  refine L_reg [11, 12, 13, 14, 15, 17, 18, 19, 20, 21, 22, 23, 24] (fun K hK => ?_)
  simp [okFn_low, e11]
  refine away_q n va vc A C He (by omega) (by omega) xA xC _ ?_
  simp [z4, w4]
  apply hK; clear hK K
  refine L_reg [11, 12, 13, 14, 17, 18, 19, 20, 21, 22, 23, 24, 25, 26] (fun K hK => ?_)
  simp [okFn_low, e11]
  refine away_q n vc vb C B He (by omega) (by omega) xC xB _ ?_
  simp [z5, w5]
  apply hK; clear hK K
  generalize hX : (lack A B).length = X at *
  generalize hP : (lack A C).length = P at *
  generalize hR : (lack C B).length = R0 at *
  have t1 : (X : Int) ≤ (P : Int) + (R0 : Int) := by omega
  have t2 : (X : Int) ≤ min (k : Int) ((n : Int) - (k : Int)) := by omega
  obtain ⟨t3, t4⟩ : ∃ t : Bool, ((X : Int) == 0) = t ∧ decide (A = B) = t := by
    by_cases hab : A = B
    · exact ⟨true, by have := hzero.2 hab; simp; omega, decide_eq_true hab⟩
    · exact ⟨false, by have := fun e => hab (hzero.1 e); simp; omega, decide_eq_false hab⟩
  refine L_reg [10] (fun K hK => ?_)
  simp [okFn_low, pickV, wrap_i64 (a := (P : Int) + (R0 : Int)) (by omega), t1, t4.1]
  refine same_ac va vb A B He _ (by omega) xA xB ?_
  simp [okFn_low, pickV, t4.2, e11, wrap_i64 (a := (n : Int) - (k : Int)) (by omega), t2]
  refine works_ac _ _ ?_
  simp [pickV]
  apply hK; clear hK K
  exact L_ret ⟨.inr rfl, _, rfl, rfl⟩
theorem u8_of {a : Int} (h : (Lit.int .u8 a).wf = true) : ∃ n : Nat, a = n ∧ n < 256 := by
  have h1 : 0 ≤ a ∧ a ≤ 255 := by
    simp [Lit.wf, IntKind.min, IntKind.max, IntKind.bits, IntKind.signed] at h
    omega
  exact ⟨a.toNat, by omega, by omega⟩
theorem u8s_of : ∀ {l : List Int}, (∀ x ∈ l, IntKind.u8.min ≤ x ∧ x ≤ IntKind.u8.max) → ∃ ns : List Nat, l = ns.map Int.ofNat ∧ (∀ x ∈ ns, x < 256)
  | [], _ => ⟨[], rfl, by simp⟩
  | x :: l, h => by
    obtain ⟨ns, h1, h2⟩ := u8s_of fun y hy => h y (List.mem_cons_of_mem _ hy)
    have hx : 0 ≤ x ∧ x ≤ 255 := h x List.mem_cons_self
    have e : Int.ofNat x.toNat = x := Int.toNat_of_nonneg hx.1
    refine ⟨x.toNat :: ns, by rw [List.map_cons, e, ← h1], fun y hy => ?_⟩
    rcases List.mem_cons.1 hy with rfl | hy
    · omega
    · exact h2 y hy
theorem blendMetric_int (a0 : Int) (w0 : (Lit.int .u8 a0).wf = true) (a1 : Int) (w1 : (Lit.int .u8 a1).wf = true) (m2 : List Int) (e2 : m2.length = 10) (b2 : ∀ x ∈ m2, IntKind.u8.min ≤ x ∧ x ≤ IntKind.u8.max) (m3 : List Int) (e3 : m3.length = 10) (b3 : ∀ x ∈ m3, IntKind.u8.min ≤ x ∧ x ≤ IntKind.u8.max)
    (m4 : List Int) (e4 : m4.length = 10) (b4 : ∀ x ∈ m4, IntKind.u8.min ≤ x ∧ x ≤ IntKind.u8.max) (H : AH) : AC Try.prog 9 [.int .u8 a0, .int .u8 a1, .agg (m2.map (.int .u8)), .agg (m3.map (.int .u8)), .agg (m4.map (.int .u8))] H fun u _ => u = .bool true := by
  obtain ⟨x, rfl, hx⟩ := u8_of w0
  obtain ⟨y, rfl, hy⟩ := u8_of w1
  obtain ⟨n2, rfl, c2⟩ := u8s_of b2
  obtain ⟨n3, rfl, c3⟩ := u8s_of b3
  obtain ⟨n4, rfl, c4⟩ := u8s_of b4
  simp only [List.length_map] at e2 e3 e4
  have := blendMetric_ac x y hx hy n2 n3 n4 e2 e3 e4 c2 c3 c4 H
  simpa [u8s, Function.comp_def] using this
end Go.Proofs.Ytmoifofihafgmaa

/- Way, and the reference's. -/
namespace Go.Proofs.Ytmoifofihafgmaa
open Go Go.Proofs.Ytmoifofihafgmaa.AX

theorem exchange_q (n : Nat) (hn : n ≤ 10) (v : AV) (l : List Int) (out inn : Int) (H : AH) (hl : Okb n l) (ho : out ∈ l) (hi : 0 ≤ inn ∧ inn < n) (hin : inn ∉ l) (hv : Ls H v l) (Q : AV → AH → Prop)
    (hq : Q (.slice (some H.length) 0 (exS n l out inn).length 0 1 false) (H ++ [.row ((exS n l out inn).map (.int .i64)) 0 (exS n l out inn).length false])) : AC Try.prog 74 [v, .int .i64 out, .int .i64 inn] H Q := by
  refine AC.tidy (l := (exS n l out inn).map (.int .i64)) (by simpa using exS_ne n l out inn hl hi) (belB_ints _ _) (fun Q h => exchange_ac n hn v l out inn H Q hl ho hi hin hv h) Q ?_
  simpa using hq
theorem exchanged_q (n : Nat) (hn : n ≤ 10) (v : AV) (l : List Int) (out inn : Int) (H : AH) (hl : Okb n l) (hi : 0 ≤ inn ∧ inn < n) (hll : l.length ≤ 1000000) (hv : Ls H v l) (Q : AV → AH → Prop)
    (hq : Q (.slice (some H.length) 0 (exS n l out inn).length 0 1 false) (H ++ [.row ((exS n l out inn).map (.int .i64)) 0 (exS n l out inn).length false])) : AC Try.prog 75 [.int .i64 n, v, .int .i64 out, .int .i64 inn] H Q := by
  refine AC.tidy (l := (exS n l out inn).map (.int .i64)) (by simpa using exS_ne n l out inn hl hi) (belB_ints _ _) (fun Q h => exchanged_ac n hn v l out inn H Q hll hv h) Q ?_
  simpa using hq
def waysS (n : Int) (a b : List Int) : List (List Int) := if bothE n a b = 0 then wayS n.toNat a (lack a b) (lack b a) else []
theorem wayS_nil (n : Nat) (a is : List Int) : wayS n a [] is = [a] := by cases is <;> rfl
set_option maxRecDepth 100000 in
theorem Way_ac (n : Int) (u v : AV) (a b : List Int) (H : AH) (Q : AV → AH → Prop) (ha : a.length ≤ 1000000) (hb : b.length ≤ 1000000) (hu : Ls H u a) (hv : Ls H v b) (h : ∀ w H', Lss H' w (waysS n a b) → Ext H H' → Q (.tuple [w, .int .i64 (bothE n a b)]) H') : AC Try.prog 29 [.int .i64 n, u, v] H Q := by
  obtain ⟨q0, off0, ver0, sz0, full0, rfl, -⟩ := id hu
  obtain ⟨q1, off1, ver1, sz1, full1, rfl, -⟩ := id hv
  refine L_body 50 Try.func29 rfl rfl ?_
  refine L_reg [0, 1, 2] (fun K hK => ?_)
  simp
  apply hK; clear hK K
  refine L_reg [1, 2, 8] (fun K hK => ?_)
  simp [okFn_low]
  refine checkTwo_ac n _ _ a b _ _ ha hb hu hv ?_
  simp
  apply hK; clear hK K
  refine L_reg [1, 2, 8, 18] (fun K hK => ?_)
  simp
  apply hK; clear hK K
  unfold waysS at h
  refine L_split rfl (fun ht => ?_) (fun hf => ?_)
  · have hne : bothE n a b ≠ 0 := by simpa using ht
    rw [if_neg hne] at h
    refine L_reg [6, 7] (fun K hK => ?_)
    simp
    apply hK; clear hK K
    exact L_ret ⟨.inr rfl, _, rfl, h _ _ (.nil H) (.refl H)⟩
  · have he : bothE n a b = 0 := by simpa using hf
    rw [if_pos he, he] at h
    obtain ⟨N, rfl, hN, hoa, hob, hab⟩ := both_ok he
    simp only [Int.toNat_natCast] at h
    refine L_reg [1, 2, 9] (fun K hK => ?_)
    simp [okFn_low]
    refine kept_own _ a H _ ha hu (fun r ver s H1 g1 g2 hE1 => ?_)
    simp
    apply hK; clear hK K
    have hrl := lt_of_row g2
    have hE2 := hE1.trans (.push H1 [AObj.row [.slice (some r) 0 a.length ver 1 false] 0 1 false])
    have g2' := (Ext.push H1 [AObj.row [.slice (some r) 0 a.length ver 1 false] 0 1 false]).row g2
    have g3 : (H1 ++ [AObj.row [.slice (some r) 0 a.length ver 1 false] 0 1 false])[H1.length]? = some (.row [.slice (some r) 0 a.length ver 1 false] 0 1 false) := by simp
    have hll : (H1 ++ [AObj.row [.slice (some r) 0 a.length ver 1 false] 0 1 false]).length = H1.length + 1 := by simp
    generalize H1 ++ [AObj.row [.slice (some r) 0 a.length ver 1 false] 0 1 false] = H2 at hE2 g2' g3 hll ⊢
    generalize hr9 : H1.length = r9 at *
    have hle1 := hE1.1
    refine L_reg [1, 2, 9, 10] (fun K hK => ?_)
    simp [okFn_low]
    refine lacking_ac _ _ b a H2 _ hb ha (hv.ext hE2) (hu.ext hE2) (fun v10 H3 hO10 hE3 => ?_)
    simp
    apply hK; clear hK K
    refine L_reg [9, 10, 28, 29, 30] (fun K hK => ?_)
    simp [okFn_low]
    refine lacking_ac _ _ a b H3 _ ha hb (hu.ext (hE2.trans hE3)) (hv.ext (hE2.trans hE3)) (fun v28 H4 hO28 hE4 => ?_)
    obtain ⟨r28, o28, vr28, z28, f28, hv28, -⟩ := ownG_ls hO28
    simp [hv28]
    apply hK; clear hK K
    have hl3 := hE3.1
    have x10 : LsX r9 H4 v10 (lack b a) := (ownG_X hO10 (by omega)).ext hE4
    have x28 : LsX r9 H4 v28 (lack a b) := ownG_X hO28 (by omega)
    have hE34 := hE3.trans hE4
    have hels : Els H.length r9 H4 [.slice (some r) 0 a.length ver 1 false] [a] := els_one g1 (by omega) (hE34.row g2')
    have hrow9 := hE34.row g3
    have hE04 := hE2.trans hE34
    rw [← hv28]
    have hr9' : H.length ≤ r9 := by omega
    clear hO10 hO28 g2 g2' g3 hE34 hE3 hE4 hE2 hu hv hE1 hl3 hll hr9 hrl hv28
    have hlen := lack_len hoa.2 hob.2 hab
    have hal : (lack a b).length ≤ 10 := by have := okb_len hoa; unfold lack; exact Nat.le_trans (List.length_filter_le _ _) (by omega)
    generalize hos : lack a b = os at *
    generalize his : lack b a = is at *
    refine L_block (L_loopV [9, 30] (fun k vs H' => ∃ (i ver s : Nat) (pre : List (List Int)) (cur : List Int) (rs : List AV), k = os.length - i ∧ i ≤ os.length ∧ pre.length = i ∧ Okb N cur ∧ lack cur b = os.drop i ∧ lack b cur = is.drop i ∧ wayS N a os is = pre ++ wayS N cur (os.drop i) (is.drop i) ∧
      H'[r9]? = some (.row rs ver s false) ∧ Els H.length r9 H' rs (pre ++ [cur]) ∧ KeepX r9 H4 H' ∧ Ext H H' ∧ vs = [.slice (some r9) 0 rs.length ver 1 false, .int .i64 i]) _ [.slice (some r9) 0 1 0 1 false, .int .i64 (0 : Nat)] rfl ⟨0, 0, 1, [], a, _, rfl, by omega, rfl, hoa, by simpa using hos, by simpa using his, by simp, hrow9, hels, .refl _ _, hE04, rfl⟩ ?_)
    rintro k _ H' ⟨i, ver9, s9, pre, cur, rs, rfl, hi, hpl, hoc, hlc1, hlc2, hw, hrow, hel, hK, hE, rfl⟩
    have hrl2 := hel.1
    simp only [List.length_append, List.length_singleton, hpl] at hrl2
    refine L_reg [9, 10, 28, 29, 30, 31] (fun K hK => ?_)
    simp
    apply hK; clear hK K
    refine L_dec (i < os.length) (by simp) (fun hlt => ?_) (fun hge => L_exit ?_)
    · have hlt2 : i < is.length := by omega
      have x10' := x10.keep hK
      have x28' := x28.keep hK
      obtain ⟨rr, o1, vr1, z1, f1, rfl, hl28⟩ := x28'
      obtain ⟨ra, rfl, rfl, -, hrd28⟩ := hl28 i hlt
      obtain ⟨rr2, o2, vr2, z2, f2, rfl, hl10⟩ := x10'
      obtain ⟨rb, rfl, rfl, -, hrd10⟩ := hl10 i hlt2
      rw [List.drop_eq_getElem_cons hlt] at hlc1 hw
      rw [List.drop_eq_getElem_cons hlt2] at hlc2 hw
      have hout : os[i] ∈ cur ∧ os[i] ∉ b := mem_lack.1 (by rw [hlc1]; exact List.mem_cons_self)
      have hinn : is[i] ∈ b ∧ is[i] ∉ cur := mem_lack.1 (by rw [hlc2]; exact List.mem_cons_self)
      have hir := hob.1 _ hinn.1
      obtain ⟨hst1, hst2⟩ := lack_step hoc hob hlc1 hlc2
      obtain ⟨rc, vrc, sc, e1, e2, e3, e4⟩ := hel.2 i (by simp; omega)
      have hcur : (pre ++ [cur])[i]'(by simp; omega) = cur := by
        rw [List.getElem_append_right (by omega)]; simp
      rw [hcur] at e3 e4
      have hldc : ld H' r9 i ver9 = some (.slice (some rc) 0 cur.length vrc 1 false) := by rw [ld_row hrow, e3]; rfl
      have hLc : Ls H' (.slice (some rc) 0 cur.length vrc 1 false) cur := Ls.row e4 false
      refine L_block ?_
      refine L_reg [9, 10, 11, 12, 28, 29, 30] (fun K hK => ?_)
      simp [hlt, hrd28]
      apply hK; clear hK K
      have hnx := exS_okb N cur os[i] is[i]
      have hexq := exchange_q N hN _ cur os[i] is[i] H' hoc hout.1 hir hinn.2 hLc
      have hwst : wayS N cur (os[i] :: os.drop (i + 1)) (is[i] :: is.drop (i + 1)) = cur :: wayS N (exS N cur os[i] is[i]) (os.drop (i + 1)) (is.drop (i + 1)) := rfl
      rw [hwst] at hw
      generalize exS N cur os[i] is[i] = nx at *
      have hEx : Ext H' (H' ++ [AObj.row (nx.map (.int .i64)) 0 nx.length false]) := .push _ _
      have hpush : Ext (H' ++ [AObj.row (nx.map (.int .i64)) 0 nx.length false]) (H' ++ [AObj.row (nx.map (.int .i64)) 0 nx.length false] ++ [AObj.row [.slice (some H'.length) 0 nx.length 0 1 false] 0 1 false]) := .push _ _
      have hap := rnd_append (w := .slice (some H'.length) 0 nx.length 0 1 false) (m := 1) (hEx.row hrow) rfl (by omega)
      have hl' := lt_of_row hrow
      have hle' := hE.1
      obtain ⟨Hn, hHn⟩ : ∃ Hn, Hn = (H' ++ [AObj.row (nx.map (.int .i64)) 0 nx.length false] ++ [AObj.row [.slice (some H'.length) 0 nx.length 0 1 false] 0 1 false]).set r9 (.row (rs ++ [.slice (some H'.length) 0 nx.length 0 1 false]) (ver9 + 1) (min s9 rs.length) false) := ⟨_, rfl⟩
      rw [← hHn] at hap
      have hrow5 : Hn[r9]? = some (.row (rs ++ [.slice (some H'.length) 0 nx.length 0 1 false]) (ver9 + 1) (min s9 rs.length) false) := by rw [hHn]; exact get_set ((hEx.trans hpush).row hrow)
      have hKn : KeepX r9 H' Hn := by rw [hHn]; exact (((KeepX.refl r9 H').ext hEx).ext hpush).set _
      have hKa : KeepX r9 (H' ++ [AObj.row (nx.map (.int .i64)) 0 nx.length false]) Hn := by rw [hHn]; exact ((KeepX.refl r9 _).ext hpush).set _
      have hK4 : KeepX r9 H4 Hn := by rw [hHn]; exact ((hK.ext hEx).ext hpush).set _
      have hEn : Ext H Hn := by rw [hHn]; exact ((hE.trans hEx).trans hpush).set _ hr9'
      have hrx : Hn[H'.length]? = some (.row (nx.map (.int .i64)) 0 nx.length false) := hKa.row (by omega) (by simp)
      have hels' := (hel.keep hKn).push (r' := H'.length) (ver := 0) (s := nx.length) (m := nx) (by omega) (by omega) hrx
      have hi9 : i < rs.length := by omega
      clear hHn
      refine L_regT mixed [9, 10, 28, 29, 30] (by kernel_rfl) (fun K hK' => ?_)
      simp [okFn_low, hldc, hrd10, hi9, hlt2]
      refine exC_mk hexq ?_
      simp only [List.length_append, List.length_singleton, List.append_assoc, List.cons_append, List.nil_append] at hap
      simp [hap]
      apply hK'; clear hK' K
      refine L_reg [9, 10, 28, 29, 30] (fun K hK => ?_)
      simp [wrap_i64 (a := (i : Int) + 1) (by omega)]
      apply hK; clear hK K
      exact ⟨os.length - (i + 1), [.slice (some r9) 0 (rs.length + 1) (ver9 + 1) 1 false, .int .i64 (i + 1 : Nat)], by omega, by simp, i + 1, ver9 + 1, min s9 rs.length, pre ++ [cur], nx, _, rfl, by omega, by simp [hpl], hnx, hst1, hst2, by rw [hw]; simp, hrow5, hels', hK4, hEn, by simp⟩
    · obtain rfl : i = os.length := by omega
      rw [List.drop_length, wayS_nil] at hw
      refine L_reg [6, 7] (fun K hK => ?_)
      simp
      apply hK; clear hK K
      exact L_ret ⟨.inr rfl, _, rfl, h _ _ (by rw [hw]; exact Rnd.lss (N := H.length) ⟨r9, ver9, s9, rs, by omega, by simp [hrl2, hpl], hrow, hel⟩) hE⟩
end Go.Proofs.Ytmoifofihafgmaa

/- What BlendWalked calls. -/
namespace Go.Proofs.Ytmoifofihafgmaa
open Go Go.Proofs.Ytmoifofihafgmaa.AX

theorem len_of_lack {a b : List Int} (ha : a.Pairwise (· < ·)) (hb : b.Pairwise (· < ·)) (h : (lack a b).length = (lack b a).length) : a.length = b.length := by
  have e : a.filter (fun y => decide (y ∈ b)) = b.filter (fun y => decide (y ∈ a)) := by
    refine sorted_ext (ha.sublist List.filter_sublist) (hb.sublist List.filter_sublist) fun x => ?_
    simp [and_comm]
  have h1 := lack_part a b
  have h2 := lack_part b a
  rw [e] at h1
  omega
/-- What the way holds at each place. -/
theorem way_at {N : Nat} {b : List Int} (hb : Okb N b) : ∀ {os is a : List Int}, Okb N a → lack a b = os → lack b a = is → os.length = is.length →
    (wayS N a os is).length = os.length + 1 ∧ (∀ i c, (wayS N a os is)[i]? = some c → Okb N c ∧ lack c b = os.drop i ∧ lack b c = is.drop i) ∧
    ∀ i c o x, (wayS N a os is)[i]? = some c → os[i]? = some o → is[i]? = some x → (wayS N a os is)[i + 1]? = some (exS N c o x)
  | [], is, a, ha, h1, h2, hl => by
    have : is = [] := List.eq_nil_of_length_eq_zero (by simpa using hl.symm)
    subst this
    rw [wayS_nil]
    refine ⟨rfl, fun i c hi => ?_, fun i c o x _ ho => by simp at ho⟩
    cases i with
    | zero => obtain rfl : a = c := by simpa using hi
              exact ⟨ha, h1, h2⟩
    | succ i => simp at hi
  | o :: os, [], a, ha, h1, h2, hl => by simp at hl
  | o :: os, x :: is, a, ha, h1, h2, hl => by
    obtain ⟨s1, s2⟩ := lack_step ha hb h1 h2
    obtain ⟨r1, r2, r3⟩ := way_at hb (exS_okb N a o x) s1 s2 (by simpa using hl)
    simp only [wayS]
    refine ⟨by simp [r1], fun i c hi => ?_, fun i c o' x' hi ho hx => ?_⟩
    · cases i with
      | zero => obtain rfl : a = c := by simpa using hi
                exact ⟨ha, h1, h2⟩
      | succ i => simpa using r2 i c (by simpa using hi)
    · cases i with
      | zero =>
        obtain rfl : a = c := by simpa using hi
        obtain rfl : o = o' := by simpa using ho
        obtain rfl : x = x' := by simpa using hx
        cases os with
        | nil => rw [wayS_nil]; rfl
        | cons o2 os => cases is with
          | nil => simp at hl
          | cons x2 is => rfl
      | succ i => simpa using r3 i c o' x' (by simpa using hi) (by simpa using ho) (by simpa using hx)
theorem apart_ac (u v : AV) (l o : List Int) (H : AH) (Q : AV → AH → Prop) (hl : l.length ≤ 1000000) (ho : o.length ≤ 1000000) (hu : Ls H u l) (hv : Ls H v o) (h : Q (.int .i64 (lack l o).length) H) : AC Try.prog 45 [u, v] H Q := by
  obtain ⟨r, off, ver, sz, full, rfl, hld⟩ := hu
  refine L_body 22 Try.func45 rfl rfl ?_
  refine L_reg [0, 1] (fun K hK => ?_)
  simp
  apply hK; clear hK K
  refine L_reg [0, 1, 5] (fun K hK => ?_)
  simp
  apply hK; clear hK K
  refine L_reg [1, 5, 8, 9, 10] (fun K hK => ?_)
  simp
  apply hK; clear hK K
  refine L_block (L_loopV [5, 10] (fun k vs H' => ∃ (i : Nat), k = l.length - i ∧ i ≤ l.length ∧ vs = [.int .i64 (lack (l.take i) o).length, .int .i64 i] ∧ H = H') _ [.int .i64 (0 : Nat), .int .i64 (0 : Nat)] rfl ⟨0, rfl, by omega, rfl, rfl⟩ ?_)
  rintro k _ _ ⟨i, rfl, hi, rfl, rfl⟩
  refine L_reg [1, 5, 8, 9, 10, 11] (fun K hK => ?_)
  simp
  apply hK; clear hK K
  refine L_dec (i < l.length) (by simp) (fun hlt => ?_) (fun hge => L_exit ?_)
  · obtain ⟨r', rfl, rfl, hrd⟩ := hld i hlt
    have hlk : (lack (l.take i) o).length ≤ i := by
      unfold lack
      exact Nat.le_trans (List.length_filter_le _ _) (by simp; omega)
    refine L_block ?_
    refine L_reg [1, 5, 7, 8, 9, 10] (fun K hK => ?_)
    simp [hlt, hrd]
    apply hK; clear hK K
    refine L_reg [1, 5, 8, 9, 10, 17] (fun K hK => ?_)
    simp [okFn_low]
    refine Contains_ac v o l[i] _ _ ho hv ?_
    simp
    apply hK; clear hK K
    by_cases hm : l[i] ∈ o
    · refine L_false (by simp [hm]) ?_
      refine L_reg [1, 5, 8, 9, 10] (fun K hK => ?_)
      simp [wrap_i64 (a := (i : Int) + 1) (by omega)]
      apply hK; clear hK K
      exact ⟨l.length - (i + 1), [.int .i64 (lack (l.take i) o).length, .int .i64 (i + 1 : Nat)], by omega, by simp, i + 1, rfl, by omega, by rw [lack_take hlt]; simp [hm], rfl⟩
    · refine L_true (by simp [hm]) ?_
      refine L_reg [1, 5, 8, 9, 10] (fun K hK => ?_)
      simp [wrap_i64 (a := ((lack (l.take i) o).length : Int) + 1) (by omega)]
      apply hK; clear hK K
      refine L_reg [1, 5, 8, 9, 10] (fun K hK => ?_)
      simp [wrap_i64 (a := (i : Int) + 1) (by omega)]
      apply hK; clear hK K
      exact ⟨l.length - (i + 1), [.int .i64 ((lack (l.take i) o).length + 1 : Nat), .int .i64 (i + 1 : Nat)], by omega, by simp, i + 1, rfl, by omega, by rw [lack_take hlt]; simp [hm], rfl⟩
  · obtain rfl : i = l.length := by omega
    rw [List.take_length]
    refine L_reg [4] (fun K hK => ?_)
    simp
    apply hK; clear hK K
    exact L_ret ⟨.inr rfl, _, rfl, h⟩
theorem out1_ac (v : AV) (l : List Int) (H : AH) (Q : AV → AH → Prop) (hv : Ls H v l) (h : Q (.int .i64 (l.head?.getD (-1))) H) : AC Try.prog 48 [v] H Q := by
  obtain ⟨r, off, ver, sz, full, rfl, hld⟩ := hv
  refine L_body 9 Try.func48 rfl rfl ?_
  refine L_reg [0] (fun K hK => ?_)
  simp
  apply hK; clear hK K
  refine L_reg [0, 5] (fun K hK => ?_)
  simp
  apply hK; clear hK K
  cases l with
  | nil =>
    refine L_true (by simp) ?_
    refine L_reg [2] (fun K hK => ?_)
    simp
    apply hK; clear hK K
    exact L_ret ⟨.inr rfl, _, rfl, h⟩
  | cons x l =>
    refine L_false (by simp; omega) ?_
    obtain ⟨r', rfl, rfl, hrd⟩ := hld 0 (by simp)
    rw [Nat.add_zero] at hrd
    refine L_reg [2] (fun K hK => ?_)
    simp [hrd]
    apply hK; clear hK K
    exact L_ret ⟨.inr rfl, _, rfl, by simpa using h⟩
theorem valid_ac (n : Nat) (k : Nat) (v : AV) (l : List Int) (H : AH) (Q : AV → AH → Prop) (_hn : n ≤ 1000) (hl : l.length ≤ 1000000) (hok : Okb n l) (hk : l.length = k) (hv : Ls H v l) (h : Q (.bool true) H) : AC Try.prog 44 [v, .int .i64 n, .int .i64 k] H Q := by
  obtain ⟨r, off, ver, sz, full, rfl, hld⟩ := hv
  refine L_body 41 Try.func44 rfl rfl ?_
  refine L_reg [0, 1, 2] (fun K hK => ?_)
  simp
  apply hK; clear hK K
  refine L_reg [0, 1, 2, 9, 10, 11] (fun K hK => ?_)
  simp
  apply hK; clear hK K
  refine L_block (L_loopV [11] (fun k vs H' => ∃ (i : Nat), k = l.length - i ∧ i ≤ l.length ∧ vs = [.int .i64 i] ∧ H = H') _ [.int .i64 (0 : Nat)] rfl ⟨0, rfl, by omega, rfl, rfl⟩ ?_)
  rintro k' _ _ ⟨i, rfl, hi, rfl, rfl⟩
  refine L_reg [0, 1, 2, 9, 10, 11, 12] (fun K hK => ?_)
  simp
  apply hK; clear hK K
  refine L_dec (i < l.length) (by simp) (fun hlt => ?_) (fun hge => L_exit ?_)
  · obtain ⟨r', rfl, rfl, hrd⟩ := hld i hlt
    have hx := hok.1 _ (List.getElem_mem hlt)
    refine L_block ?_
    refine L_reg [0, 1, 2, 7, 8, 9, 10, 11] (fun K hK => ?_)
    simp [hlt, hrd]
    apply hK; clear hK K
    cases i with
    | zero =>
      generalize l[0] = x at hx
      refine L_reg [0, 1, 2, 9, 10, 11, 35] (fun K hK => ?_)
      simp [pickV, show ¬ x < 0 by omega, show ¬ (n : Int) ≤ x by omega]
      apply hK; clear hK K
      refine L_false (by simp) ?_
      refine L_reg [0, 1, 2, 9, 10, 11] (fun K hK => ?_)
      simp [wrap_i64 (a := 1) (by omega)]
      apply hK; clear hK K
      exact ⟨l.length - 1, [.int .i64 (1 : Nat)], by omega, by simp, 1, rfl, by omega, rfl, rfl⟩
    | succ i =>
      obtain ⟨r2, h3, -, hrd2⟩ := hld i (by omega)
      obtain rfl := Option.some.inj h3
      have hlt2 : l[i] < l[i + 1] := by
        have := List.pairwise_iff_getElem.1 hok.2 i (i + 1) (by omega) hlt (by omega)
        exact this
      generalize l[i + 1] = x at hx hlt2
      generalize l[i] = y at hrd2 hlt2
      have hw : IntKind.i64.wrap (i : Int) = (i : Int) := wrap_i64 (by omega)
      refine L_reg [0, 1, 2, 9, 10, 11, 35] (fun K hK => ?_)
      simp [pickV, show ¬ x < 0 by omega, show ¬ (n : Int) ≤ x by omega, show (0 : Int) < (i : Int) + 1 by omega, hw, show i < l.length by omega, hrd2, show ¬ x ≤ y by omega]
      apply hK; clear hK K
      refine L_false (by simp) ?_
      refine L_reg [0, 1, 2, 9, 10, 11] (fun K hK => ?_)
      simp [wrap_i64 (a := (i : Int) + 1 + 1) (by omega)]
      apply hK; clear hK K
      exact ⟨l.length - (i + 1 + 1), [.int .i64 (i + 1 + 1 : Nat)], by omega, by simp, i + 1 + 1, rfl, by omega, rfl, rfl⟩
  · subst hk
    refine L_reg [6] (fun K hK => ?_)
    simp
    apply hK; clear hK K
    exact L_ret ⟨.inr rfl, _, rfl, h⟩
end Go.Proofs.Ytmoifofihafgmaa

/- What wider bounds find (pure), and what BlendMore is dealt. -/
namespace Go.Proofs.Ytmoifofihafgmaa
open Go Go.Proofs.Ytmoifofihafgmaa.AX

@[simp] theorem neq_bool (l b c : Bool) : binV Try.prog .neq 4 l (.bool b) (.bool c) = some (.bool (b != c)) := by
  cases l <;> cases b <;> cases c <;> kernel_rfl
theorem lack_sym {a b : List Int} (ha : a.Pairwise (· < ·)) (hb : b.Pairwise (· < ·)) (h : a.length = b.length) : (lack a b).length = (lack b a).length := by
  have e : a.filter (fun y => decide (y ∈ b)) = b.filter (fun y => decide (y ∈ a)) := by
    refine sorted_ext (ha.sublist List.filter_sublist) (hb.sublist List.filter_sublist) fun x => ?_
    simp [and_comm]
  have h1 := lack_part a b
  have h2 := lack_part b a
  rw [e] at h1
  omega
theorem near_less {b m x : List Int} : (lack b (nearer b m x)).length ≤ (lack b m).length ∧ (lack b (nearer b m x)).length ≤ (lack b x).length := by
  unfold nearer nearC cmpS
  repeat' split
  all_goals omega
theorem fold_less {b : List Int} : ∀ (l : List (List Int)) (m z : List Int), z = m ∨ z ∈ l → (lack b (l.foldl (nearer b) m)).length ≤ (lack b z).length
  | [], m, z, h => by
    rcases h with rfl | h
    · exact Nat.le_refl _
    · simp at h
  | x :: l, m, z, h => by
    rw [List.foldl_cons]
    have hn := near_less (b := b) (m := m) (x := x)
    have ih := fold_less (b := b) l (nearer b m x)
    rcases h with rfl | h
    · exact Nat.le_trans (ih _ (.inl rfl)) hn.1
    · rcases List.mem_cons.1 h with rfl | h
      · exact Nat.le_trans (ih _ (.inl rfl)) hn.2
      · exact ih z (.inr h)
theorem best_less {b m : List Int} {l : List (List Int)} (h : bestS b l = some m) {z : List Int} (hz : z ∈ l) : (lack b m).length ≤ (lack b z).length := by
  cases l with
  | nil => cases h
  | cons x l =>
    simp only [bestS, Option.some.injEq] at h
    rw [← h]
    exact fold_less l x z (by simpa using hz)
theorem best_some {b : List Int} {l : List (List Int)} (h : l ≠ []) : ∃ m, bestS b l = some m := by
  cases l with
  | nil => exact absurd rfl h
  | cons x l => exact ⟨_, rfl⟩
theorem parts3 {α : Type} {p q r : α → Bool} : ∀ (F : List α), (∀ x ∈ F, (p x = true ∧ q x = false ∧ r x = false) ∨ (p x = false ∧ q x = true ∧ r x = false) ∨ (p x = false ∧ q x = false ∧ r x = true)) → (F.filter p).length + (F.filter q).length + (F.filter r).length = F.length
  | [], _ => rfl
  | x :: F, h => by
    have ih := parts3 F fun y hy => h y (by simp [hy])
    rcases h x (by simp) with ⟨h1, h2, h3⟩ | ⟨h1, h2, h3⟩ | ⟨h1, h2, h3⟩ <;> simp [h1, h2, h3] <;> omega
theorem filter_more {α : Type} {p q : α → Bool} {F : List α} (h : ∀ x ∈ F, p x = true → q x = true) : (F.filter p).length ≤ (F.filter q).length := by
  rw [← List.countP_eq_length_filter, ← List.countP_eq_length_filter]
  exact List.countP_mono_left h
theorem fits_of {W : List Int} {lo hi : Int} {k : Nat} (h : recE W lo hi = 0) (hk : k ≤ W.length) : fitsE W lo hi k = 0 ∧ fitsN W lo hi k = (((roundS W.length k).filter (fitB W lo hi)).length : Int) := by
  have h1 := rec_ok h
  have e : fitsE W lo hi k = 0 := by
    unfold fitsE
    rw [if_pos h]
    have l0 : leavesE W.length = 0 := by unfold leavesE; rw [if_neg (by omega)]
    unfold sizeE
    rw [if_pos l0, if_neg (by omega)]
  refine ⟨e, ?_⟩
  unfold fitsN
  rw [if_pos e]; rfl
theorem with_of {W b : List Int} {lo hi : Int} (h : recE W lo hi = 0) (hb : Okb W.length b) : withE W lo hi b = 0 := by
  have h1 := rec_ok h
  unfold withE
  rw [if_pos h, check_of hb h1.1 h1.2.1]
/-- What is found with narrow and with wide bounds. -/
theorem more_facts {W b : List Int} {lo hi d u : Int} (hr : recE W lo hi = 0) (hb : Okb W.length b) (hd : 0 ≤ d) (hu : 0 ≤ u) (hlo : -9 ≤ lo) (hhi : hi < 600) :
    (fitsN W lo hi b.length ≤ fitsN W (lo - d) (hi + u) b.length) ∧ fitsN W (-10) (lo - 1) b.length + fitsN W lo hi b.length + fitsN W (hi + 1) 600 b.length = countS W.length b.length ∧
    ((nearE W lo hi b = 0) ↔ 0 < fitsN W lo hi b.length) ∧ ((nearE W (lo - d) (hi + u) b = 0) ↔ 0 < fitsN W (lo - d) (hi + u) b.length) ∧
    (nearE W lo hi b = 0 → nearE W (lo - d) (hi + u) b = 0 ∧ (nearS W lo hi b).length = b.length ∧ (nearS W (lo - d) (hi + u) b).length = b.length ∧ (lack (nearS W (lo - d) (hi + u) b) b).length ≤ (lack (nearS W lo hi b) b).length) ∧
    fitsE W lo hi b.length = 0 ∧ fitsE W (lo - d) (hi + u) b.length = 0 ∧ fitsE W (-10) (lo - 1) b.length = 0 ∧ fitsE W (hi + 1) 600 b.length = 0 ∧ sizeE W.length b.length = 0 := by
  obtain ⟨h1, h10, hw⟩ := rec_ok hr
  have hle : lo ≤ hi := by
    unfold recE at hr
    repeat' split at hr
    all_goals first | omega | cases hr
  have rec2 : ∀ x y : Int, x ≤ y → recE W x y = 0 := fun x y hxy => by
    unfold recE at hr ⊢
    repeat' split at hr
    all_goals first | (cases hr; done) | skip
    rename_i g1 g2 g3 g4
    rw [if_neg g1, if_neg g2, if_neg g3, if_neg (by omega)]
  have hbl := okb_len hb
  obtain ⟨a1, a2⟩ := fits_of hr hbl
  obtain ⟨b1, b2⟩ := fits_of (rec2 (lo - d) (hi + u) (by omega)) hbl
  obtain ⟨c1, c2⟩ := fits_of (rec2 (-10) (lo - 1) (by omega)) hbl
  obtain ⟨d1, d2⟩ := fits_of (rec2 (hi + 1) 600 (by omega)) hbl
  have s0 : sizeE W.length b.length = 0 := by
    have l0 : leavesE W.length = 0 := by unfold leavesE; rw [if_neg (by omega)]
    unfold sizeE
    rw [if_pos l0, if_neg (by omega)]
  have ec : countS W.length b.length = ((roundS W.length b.length).length : Int) := by
    unfold countS
    rw [if_pos s0]; rfl
  have hwide : ∀ x ∈ roundS W.length b.length, fitB W lo hi x = true → fitB W (lo - d) (hi + u) x = true := fun x _ hx => by
    simp [fitB] at hx ⊢; omega
  have hF : ∀ x ∈ roundS W.length b.length, Okb W.length x ∧ x.length = b.length := fun x hx => ⟨okb_round hx, roundS_len _ _ _ hx⟩
  have hsum := parts3 (p := fitB W (-10) (lo - 1)) (q := fitB W lo hi) (r := fitB W (hi + 1) 600) (roundS W.length b.length) (fun x hx => by
    have hb2 := weighS_bound hw x
    have h3 := (hF x hx).2
    simp only [fitB, Bool.and_eq_true, decide_eq_true_eq, Bool.and_eq_false_iff, decide_eq_false_iff_not]
    omega)
  have hmore := filter_more hwide
  have near0 : ∀ x y : Int, recE W x y = 0 → nearE W x y b = (if (roundS W.length b.length).filter (fitB W x y) = [] then 12 else 0) := fun x y h => by
    unfold nearE; rw [if_pos (with_of h hb)]
  have nears : ∀ x y : Int, recE W x y = 0 → nearS W x y b = (bestS b ((roundS W.length b.length).filter (fitB W x y))).getD [] := fun x y h => by
    unfold nearS; rw [if_pos (with_of h hb)]
  have np : ∀ x y : Int, recE W x y = 0 → (nearE W x y b = 0 ↔ 0 < ((roundS W.length b.length).filter (fitB W x y)).length) := fun x y h => by
    rw [near0 x y h]
    split
    · rename_i e; rw [e]; simp
    · rename_i e
      have := List.length_pos_iff.2 e
      exact ⟨fun _ => this, fun _ => rfl⟩
  refine ⟨by rw [a2, b2]; omega, by rw [a2, c2, d2, ec]; omega, by rw [a2, np lo hi hr]; omega, by rw [b2, np _ _ (rec2 (lo - d) (hi + u) (by omega))]; omega, fun hn => ?_, a1, b1, c1, d1, s0⟩
  have hn1 := (np lo hi hr).1 hn
  have hn2 : 0 < ((roundS W.length b.length).filter (fitB W (lo - d) (hi + u))).length := by omega
  obtain ⟨x, hx⟩ := best_some (b := b) (List.ne_nil_of_length_pos hn1)
  obtain ⟨y, hy⟩ := best_some (b := b) (List.ne_nil_of_length_pos hn2)
  have ex : nearS W lo hi b = x := by rw [nears _ _ hr, hx]; rfl
  have ey : nearS W (lo - d) (hi + u) b = y := by rw [nears _ _ (rec2 (lo - d) (hi + u) (by omega)), hy]; rfl
  have mx := bestS_mem hx
  have my := bestS_mem hy
  have fx := hF x (List.mem_filter.1 mx).1
  have fy := hF y (List.mem_filter.1 my).1
  have hxy := best_less hy (List.mem_filter.2 ⟨(List.mem_filter.1 mx).1, hwide x (List.mem_filter.1 mx).1 (List.mem_filter.1 mx).2⟩)
  refine ⟨(np _ _ (rec2 (lo - d) (hi + u) (by omega))).2 hn2, by rw [ex]; exact fx.2, by rw [ey]; exact fy.2, ?_⟩
  rw [ex, ey, lack_sym fy.1.2 hb.2 fy.2, lack_sym fx.1.2 hb.2 fx.2]
  exact hxy
theorem fitsN_nn (W : List Int) (lo hi k : Int) : 0 ≤ fitsN W lo hi k := by
  unfold fitsN; split <;> omega
theorem ag72 : aggSz Try.prog 72 = some 13 := by kernel_rfl
@[simp] theorem ld72 (H : AH) (r off ver : Nat) : loadV Try.prog 72 H (.ptr r off ver) = (ldn H r ver 13 off).map .agg := load_agg ag72 ..
theorem ldn_mix {H : AH} {r s : Nat} {lv lo wd : Nat} {ws : List Nat} (hr : H[r]? = some (.row (mixV lv ws lo wd) 0 s false)) (hl : ws.length = 10) : ldn H r 0 13 0 = some (mixV lv ws lo wd) := by
  have h13 : (mixV lv ws lo wd).length = 13 := by simp [mixV, u8s, hl]
  rw [ldn_row hr, List.drop_zero]
  have := takeKnown_row (l := mixV lv ws lo wd) (fun v hv => mixV_known v hv) []
  rw [List.append_nil, h13] at this
  exact this
@[simp] theorem built43 (r : Option Nat) (off len ver sz : Nat) (full : Bool) (a b : Int) : aBuilt Try.prog 43 [(0, .slice r off len ver sz full), (1, .int .i64 a), (2, .int .i64 b)] = some [.slice r off len ver sz full, .int .i64 a, .int .i64 b] := by kernel_rfl
theorem new_rec (H : AH) (r : Option Nat) (off len ver sz : Nat) (full : Bool) (lo hi : Int) : ∃ H', storeV Try.prog 43 (H ++ [AObj.row [.slice none 0 0 0 1 false, .int .i64 0, .int .i64 0] 0 0 false]) (.ptr H.length 0 0) (.agg [.slice r off len ver sz full, .int .i64 lo, .int .i64 hi]) = some (none, H') ∧ Ext H H' ∧ RecRow H' H.length (.slice r off len ver sz full) lo hi ∧ H'.length = H.length + 1 := by
  have hr : (H ++ [AObj.row [.slice none 0 0 0 1 false, .int .i64 0, .int .i64 0] 0 0 false])[H.length]? = some (.row [.slice none 0 0 0 1 false, .int .i64 0, .int .i64 0] 0 0 false) := by simp
  have hst := store_agg ag43 (vs := [.slice r off len ver sz full, .int .i64 lo, .int .i64 hi]) hr (by decide) rfl (by simp) rfl (by simp [AV.one])
  exact ⟨_, hst, (Ext.push _ _).set _ (Nat.le_refl _), ⟨0, get_set hr⟩, by simp⟩
end Go.Proofs.Ytmoifofihafgmaa

/- All blends by their sets. -/
namespace Go.Proofs.Ytmoifofihafgmaa
open Go Go.Proofs.Ytmoifofihafgmaa.AX

/-- The leaves of a set. -/
def heldS (n s : Nat) : List Int := (iota n).filter fun x => s.testBit x.toNat
theorem heldS_zero (s : Nat) : heldS 0 s = [] := rfl
theorem heldS_succ (n s : Nat) : heldS (n + 1) s = heldS n s ++ if s.testBit n then [(n : Int)] else [] := by
  unfold heldS
  rw [iota_succ, List.filter_append]
  by_cases h : s.testBit n <;> simp [h]
theorem heldS_okb (n s : Nat) : Okb n (heldS n s) := by
  obtain ⟨h1, h2⟩ := okb_iota n
  exact ⟨fun x hx => h1 x (List.mem_filter.1 hx).1, h2.sublist List.filter_sublist⟩
theorem heldS_len (n s : Nat) : (heldS n s).length ≤ n := okb_len (heldS_okb n s)
theorem mem_held {n s : Nat} {x : Int} : x ∈ heldS n s ↔ (0 ≤ x ∧ x < n) ∧ s.testBit x.toNat = true := by
  unfold heldS
  rw [List.mem_filter, mem_iota]
theorem wrap_u16 {a : Int} (h : 0 ≤ a ∧ a < 65536) : IntKind.u16.wrap a = a := by
  simp [IntKind.wrap, IntKind.bits, IntKind.signed]
  omega
theorem wrapN16 {n : Nat} (h : n < 65536) : IntKind.u16.wrap (n : Int) = n := wrap_u16 ⟨by omega, by omega⟩
theorem n_and16 {P : Program} {t : TypeId} {l : Bool} (x y : Nat) (hx : x < 65536) (hy : y < 65536) : binV P .and t l (.int .u16 (x : Int)) (.int .u16 (y : Int)) = some (.int .u16 ((x &&& y : Nat) : Int)) := by
  rw [b_and]
  have h1 : (BitVec.ofInt IntKind.u16.bits (x : Int) &&& BitVec.ofInt IntKind.u16.bits (y : Int)).toNat = x &&& y := by
    show (BitVec.ofInt 16 (x : Int) &&& BitVec.ofInt 16 (y : Int)).toNat = x &&& y
    rw [ofInt_nat, ofInt_nat, BitVec.toNat_and, BitVec.toNat_ofNat, BitVec.toNat_ofNat, Nat.mod_eq_of_lt hx, Nat.mod_eq_of_lt hy]
  rw [h1, wrapN16 (Nat.and_lt_two_pow x (n := 16) hy)]
theorem bit16 {P : Program} {t : TypeId} {l : Bool} (s b : Nat) (hs : s < 65536) : binV P .and t l (.int .u16 ((s >>> b : Nat) : Int)) (.int .u16 1) = some (.int .u16 (if s.testBit b then 1 else 0)) := by
  have h1 : s >>> b < 65536 := Nat.lt_of_le_of_lt (by rw [Nat.shiftRight_eq_div_pow]; exact Nat.div_le_self _ _) hs
  have := n_and16 (P := P) (t := t) (l := l) (s >>> b) 1 h1 (by decide)
  rw [show ((1 : Nat) : Int) = 1 from rfl] at this
  rw [this, Nat.and_one_is_mod, Nat.testBit, Nat.and_comm, Nat.and_one_is_mod]
  rcases Nat.mod_two_eq_zero_or_one (s >>> b) with h | h <;> simp [h]
theorem bit16' {P : Program} {t : TypeId} {l : Bool} (s b : Nat) (hs : s < 65536) : binV P .and t l (.int .u16 ((s : Int) >>> b)) (.int .u16 1) = some (.int .u16 (if s.testBit b then 1 else 0)) := bit16 s b hs
def cntB : Nat → Nat → Nat
  | 0, _ => 0
  | n + 1, s => cntB n s + if s.testBit n then 1 else 0
theorem heldS_cnt (n s : Nat) : (heldS n s).length = cntB n s := by
  induction n with
  | zero => rfl
  | succ n ih =>
    rw [heldS_succ, List.length_append, ih, cntB]
    split <;> simp
noncomputable def onesR (s : Nat) : Bool := match callN (runZ cx 300) 87 [.int .u16 (.ofNat s)] [] with
  | some (.int .i64 m, []) => ieq m (.ofNat (cntB 10 s))
  | _ => false
theorem ones_all : (List.range 1024).all onesR = true := by kernel_rfl
theorem ones_ac (s : Nat) (hs : s < 1024) (H : AH) (Q : AV → AH → Prop) (h : Q (.int .i64 (heldS 10 s).length) H) : AC Try.prog 87 [.int .u16 s] H Q := by
  have h1 := List.all_eq_true.1 ones_all s (List.mem_range.2 hs)
  unfold onesR at h1
  split at h1
  · rename_i m hm
    rw [ieq_eq, beq_iff_eq] at h1
    subst h1
    refine AC_kernZ cx_ok 300 hm (.cons (.int ..) .nil) (.int ..) ?_
    rw [heldS_cnt] at h
    exact h
  · cases h1
set_option maxRecDepth 100000 in
theorem held_ac (n s : Nat) (hn : n ≤ 16) (hs : s < 65536) (H : AH) (Q : AV → AH → Prop) (h : ∀ v' H', OwnF H.length H' v' ((heldS n s).map (.int .i64)) → Ext H H' → Q v' H') : AC Try.prog 88 [.int .u16 s, .int .i64 n] H Q := by
  refine L_body 22 Try.func88 rfl rfl ?_
  refine L_reg [0, 1] (fun K hK => ?_)
  simp
  apply hK; clear hK K
  refine L_reg [0, 1, 5] (fun K hK => ?_)
  simp
  apply hK; clear hK K
  refine L_reg [0, 5, 7, 8] (fun K hK => ?_)
  simp
  apply hK; clear hK K
  refine L_block (L_loopV [5, 8] (fun k vs H' => ∃ (i : Nat) (u : AV), k = n - i ∧ i ≤ n ∧ vs = [u, .int .i64 i] ∧ Ext H H' ∧ OwnF H.length H' u ((heldS i s).map (.int .i64))) _ [.slice none 0 0 0 1 false, .int .i64 (0 : Nat)] rfl
    ⟨0, _, rfl, by omega, rfl, .refl _, OwnF.nil _ _⟩ ?_)
  rintro k _ H2 ⟨i, u, rfl, hi, rfl, hE2, hO⟩
  refine L_reg [0, 5, 7, 8, 9] (fun K hK => ?_)
  simp
  apply hK; clear hK K
  refine L_dec (i < n) (by simp) (fun hlt => ?_) (fun hge => L_exit ?_)
  · have hsu := heldS_succ i s
    have hll := heldS_len i s
    refine L_block ?_
    refine L_reg [0, 5, 6, 7, 8] (fun K hK => ?_)
    simp
    apply hK; clear hK K
    refine L_reg [0, 5, 6, 7, 8, 15] (fun K hK => ?_)
    simp [n_shr' (k := .u16) s i (by simp [IntKind.bits]; omega), bit16' s i hs]
    apply hK; clear hK K
    cases hb : s.testBit i with
    | true =>
      rw [hb, if_pos rfl] at hsu
      obtain ⟨u', H3, happ, hO3, hE3⟩ := ownF_append (P := Try.prog) hE2 el22 el22 (x := .int .i64 i) (m := 1) hO rfl (by simp; omega)
      refine L_true (by simp) ?_
      refine L_reg [0, 5, 7, 8] (fun K hK => ?_)
      simp [happ]
      apply hK; clear hK K
      refine L_reg [0, 5, 7, 8] (fun K hK => ?_)
      simp [wrap_i64 (a := (i : Int) + 1) (by omega)]
      apply hK; clear hK K
      refine ⟨n - (i + 1), [u', .int .i64 (i + 1 : Nat)], by omega, by simp, i + 1, u', rfl, by omega, rfl, hE3, ?_⟩
      rw [hsu]
      simpa using hO3
    | false =>
      rw [hb, if_neg (by decide), List.append_nil] at hsu
      refine L_false (by simp) ?_
      refine L_reg [0, 5, 7, 8] (fun K hK => ?_)
      simp [wrap_i64 (a := (i : Int) + 1) (by omega)]
      apply hK; clear hK K
      exact ⟨n - (i + 1), [u, .int .i64 (i + 1 : Nat)], by omega, by simp, i + 1, u, rfl, by omega, rfl, hE2, by rw [hsu]; exact hO⟩
  · obtain rfl : i = n := by omega
    refine L_reg [4] (fun K hK => ?_)
    simp
    apply hK; clear hK K
    exact L_ret ⟨.inr rfl, _, rfl, h _ _ hO hE2⟩
end Go.Proofs.Ytmoifofihafgmaa

/- All blends by their sets: a function is called with each. -/
namespace Go.Proofs.Ytmoifofihafgmaa
open Go Go.Proofs.Ytmoifofihafgmaa.AX

theorem n_shl16 {P : Program} {t : TypeId} {l : Bool} {k' : IntKind} (b : Nat) (hb : b < 16) : binV P .shl t l (.int .u16 1) (.int k' (b : Int)) = some (.int .u16 ((2 ^ b : Nat) : Int)) := by
  rw [b_shl (Int.natCast_nonneg b)]
  have : b ≤ IntKind.u16.bits := Nat.le_of_lt hb
  have e : ((2 : Int) ^ b) = ((2 ^ b : Nat) : Int) := by simp
  rw [Int.toNat_natCast, Nat.min_eq_left this, Int.one_mul, e, wrapN16 (Nat.pow_lt_pow_right (by decide) hb)]
def blsS (n k m : Nat) : List (List Int) := ((List.range m).filter fun s => decide ((heldS 10 s).length = k)).map (heldS n)
theorem blsS_succ (n k m : Nat) : blsS n k (m + 1) = blsS n k m ++ if (heldS 10 m).length = k then [heldS n m] else [] := by
  unfold blsS
  rw [List.range_succ, List.filter_append, List.map_append]
  by_cases h : (heldS 10 m).length = k <;> simp [h]
set_option maxRecDepth 100000 in
theorem blends_ac (n k : Nat) (hn : n ≤ 10) (f : FuncId) (caps : List AV) (J : List (List Int) → AH → Prop) (H : AH) (Q : AV → AH → Prop) (hok : okFn Try.prog f = true) (N : Nat) (hN : ∀ done H1, J done H1 → N ≤ H1.length) (h0 : J [] H) (hg : ∀ done H1 H2, J done H1 → Ext H1 H2 → J done H2)
    (step : ∀ s v H1, s < 2 ^ n → (heldS 10 s).length = k → J (blsS n k s) H1 → OwnF N H1 v ((heldS n s).map (.int .i64)) → ∀ Q : AV → AH → Prop, (∀ u H2, J (blsS n k s ++ [heldS n s]) H2 → Q u H2) → AC Try.prog f (v :: caps) H1 Q) (h : ∀ H', J (blsS n k (2 ^ n)) H' → Q (.tuple []) H') : AC Try.prog 42 [.int .i64 n, .int .i64 k, .func (.func f) [] caps] H Q := by
  have h2n : 2 ^ n ≤ 1024 := Nat.le_trans (Nat.pow_le_pow_right (by omega) hn) (by decide)
  have hsh : ∀ l, binV Try.prog .shl 61 l (.int .u16 1) (.int .i64 (n : Int)) = some (.int .u16 ((2 ^ n : Nat) : Int)) := fun l => n_shl16 n (by omega)
  refine L_body 22 Try.func42 rfl rfl ?_
  generalize 2 ^ n = N at *
  refine L_reg [0, 1, 2, 8, 9] (fun K hK => ?_)
  simp [hsh]
  apply hK; clear hK K
  refine L_block (L_loopV [9] (fun m vs H' => ∃ i : Nat, m = N - i ∧ i ≤ N ∧ vs = [.int .u16 i] ∧ J (blsS n k i) H') _ [.int .u16 (0 : Nat)] rfl ⟨0, rfl, by omega, rfl, h0⟩ ?_)
  rintro m _ H1 ⟨i, rfl, hi, rfl, hJ⟩
  refine L_reg [0, 1, 2, 8, 9, 10] (fun K hK => ?_)
  simp
  apply hK; clear hK K
  refine L_dec (i < N) (by simp) (fun hlt => ?_) (fun hge => L_exit ?_)
  · have hs := blsS_succ n k i
    refine L_block ?_
    refine L_reg [0, 1, 2, 6, 8, 9] (fun K hK => ?_)
    simp
    apply hK; clear hK K
    refine L_reg [0, 1, 2, 6, 8, 9, 15] (fun K hK => ?_)
    simp [okFn_low]
    refine ones_ac i (by omega) _ _ ?_
    simp
    apply hK; clear hK K
    refine L_dec ((heldS 10 i).length = k) (by simp [Bool.beq_eq_decide_eq, Int.ofNat_inj]) (fun h1 => ?_) (fun h1 => ?_)
    · rw [if_pos h1] at hs
      refine L_reg [0, 1, 2, 8, 9] (fun K hK => ?_)
      simp [okFn_low]
      refine held_ac n i (by omega) (by omega) _ _ (fun v H2 hO hE => ?_)
      simp [hok]
      refine step i v H2 hlt h1 (hg _ _ _ hJ hE) (ownF_less hO (hN _ _ hJ)) _ (fun u H3 hJ3 => ?_)
      simp
      apply hK; clear hK K
      refine L_reg [0, 1, 2, 8, 9] (fun K hK => ?_)
      simp [wrap_u16 (a := (i : Int) + 1) (by omega)]
      apply hK; clear hK K
      exact ⟨N - (i + 1), [.int .u16 (i + 1 : Nat)], by omega, by simp, i + 1, rfl, by omega, rfl, by rw [hs]; exact hJ3⟩
    · rw [if_neg h1, List.append_nil] at hs
      refine L_reg [0, 1, 2, 8, 9] (fun K hK => ?_)
      simp [wrap_u16 (a := (i : Int) + 1) (by omega)]
      apply hK; clear hK K
      exact ⟨N - (i + 1), [.int .u16 (i + 1 : Nat)], by omega, by simp, i + 1, rfl, by omega, rfl, by rw [hs]; exact hJ⟩
  · obtain rfl : i = N := by omega
    exact ⟨.inl rfl, _, rfl, h _ hJ⟩
end Go.Proofs.Ytmoifofihafgmaa

/- Other numbers of the leaves (pure). -/
namespace Go.Proofs.Ytmoifofihafgmaa
open Go Go.Proofs.Ytmoifofihafgmaa.AX

def toF (to : List Int) (x : Int) : Int := (to[x.toNat]?).getD 0
def renS (n : Nat) (to l : List Int) : List Int := (iota n).filter fun y => decide (y ∈ l.map (toF to))
/-- An order of the leaves. -/
def Ren (n : Nat) (to : List Int) : Prop := to.Perm (iota n)
theorem Ren.perm {n : Nat} {to : List Int} (h : Ren n to) : to.Perm (iota n) := h
theorem Ren.len {n : Nat} {to : List Int} (h : Ren n to) : to.length = n := by rw [h.perm.length_eq, iota_len]
theorem Ren.nd {n : Nat} {to : List Int} (h : Ren n to) : to.Pairwise (· ≠ ·) := (h.perm.symm.pairwise (iota_nd n) fun h1 h2 => h1 h2.symm)
theorem Ren.mem {n : Nat} {to : List Int} (h : Ren n to) : ∀ y ∈ to, 0 ≤ y ∧ y < (n : Int) := fun y hy => mem_iota.1 (h.perm.mem_iff.1 hy)
theorem ren_deal {n : Nat} {ns : List Nat} (hl : n ≤ ns.length) : Ren n (dealS (iota n) (ns.take n)) := by
  have h1 := chosS_perm (n := n) (k := n) (ns := ns) (Nat.le_refl _)
  have h2 := chosS_okb n n ns
  have h3 := chosS_len (n := n) (k := n) (ns := ns) (Nat.le_refl _) hl
  have h4 : chosS n n ns = iota n := sub_eq h2.2 (okb_iota n).2 (fun x hx => mem_iota.2 (h2.1 x hx)) (by rw [iota_len, h3]; exact Nat.le_refl _)
  rw [h4] at h1
  exact h1.symm
theorem Ren.rng {n : Nat} {to : List Int} (h : Ren n to) {x : Int} (hx : 0 ≤ x ∧ x < n) : 0 ≤ toF to x ∧ toF to x < n := by
  have : x.toNat < to.length := by rw [h.len]; omega
  unfold toF
  rw [List.getElem?_eq_getElem this, Option.getD_some]
  exact h.mem _ (List.getElem_mem this)
theorem Ren.inj {n : Nat} {to : List Int} (h : Ren n to) {x y : Int} (hx : 0 ≤ x ∧ x < n) (hy : 0 ≤ y ∧ y < n) (e : toF to x = toF to y) : x = y := by
  have h1 : x.toNat < to.length := by rw [h.len]; omega
  have h2 : y.toNat < to.length := by rw [h.len]; omega
  unfold toF at e
  rw [List.getElem?_eq_getElem h1, List.getElem?_eq_getElem h2, Option.getD_some, Option.getD_some] at e
  have hp := List.pairwise_iff_getElem.1 h.nd
  rcases Nat.lt_trichotomy x.toNat y.toNat with g | g | g
  · exact absurd e (hp _ _ h1 h2 g)
  · omega
  · exact absurd e.symm (hp _ _ h2 h1 g)
theorem Ren.sur {n : Nat} {to : List Int} (h : Ren n to) {y : Int} (hy : 0 ≤ y ∧ y < n) : ∃ x : Int, (0 ≤ x ∧ x < n) ∧ toF to x = y := by
  have : y ∈ to := h.perm.mem_iff.2 (mem_iota.2 hy)
  obtain ⟨i, hi, e⟩ := List.mem_iff_getElem.1 this
  refine ⟨i, ⟨by omega, by rw [← h.len]; omega⟩, ?_⟩
  unfold toF
  rw [Int.toNat_natCast, List.getElem?_eq_getElem hi, e]; rfl
section
variable {n : Nat} {to : List Int} (h : Ren n to)
include h
theorem mem_ren {l : List Int} (hl : ∀ x ∈ l, 0 ≤ x ∧ x < (n : Int)) {y : Int} : y ∈ renS n to l ↔ ∃ x ∈ l, toF to x = y := by
  unfold renS
  simp only [List.mem_filter, mem_iota, decide_eq_true_eq, List.mem_map]
  exact ⟨fun hy => hy.2, fun ⟨x, hx, e⟩ => ⟨by rw [← e]; exact h.rng (hl x hx), x, hx, e⟩⟩
omit h in
theorem ren_okb (l : List Int) : Okb n (renS n to l) := by
  obtain ⟨h1, h2⟩ := okb_iota n
  exact ⟨fun x hx => h1 x (List.mem_filter.1 hx).1, h2.sublist List.filter_sublist⟩
theorem map_nd {l : List Int} (hl : Okb n l) : (l.map (toF to)).Pairwise (· ≠ ·) := by
  rw [List.pairwise_map]
  refine (List.Pairwise.and_mem.1 hl.2).imp fun {x y} ⟨hx, hy, hlt⟩ e => ?_
  have := h.inj (hl.1 x hx) (hl.1 y hy) e
  omega
theorem ren_perm {l : List Int} (hl : Okb n l) : (renS n to l).Perm (l.map (toF to)) := by
  refine (List.perm_ext_iff_of_nodup ((ren_okb l).2.imp fun {x y} hlt => by omega) (map_nd h hl)).2 fun y => ?_
  rw [mem_ren h hl.1, List.mem_map]
theorem ren_len {l : List Int} (hl : Okb n l) : (renS n to l).length = l.length := by rw [(ren_perm h hl).length_eq, List.length_map]
theorem ren_lack {a b : List Int} (ha : Okb n a) (hb : Okb n b) : (lack (renS n to a) (renS n to b)).length = (lack a b).length := by
  have hlk : Okb n (lack a b) := ⟨fun x hx => ha.1 x (mem_lack.1 hx).1, lack_sorted ha.2⟩
  have : lack (renS n to a) (renS n to b) = renS n to (lack a b) := by
    refine sorted_ext (lack_sorted (ren_okb a).2) (ren_okb _).2 fun y => ?_
    rw [mem_lack, mem_ren h ha.1, mem_ren h hb.1, mem_ren h hlk.1]
    constructor
    · rintro ⟨⟨x, hx, e⟩, hn⟩
      exact ⟨x, mem_lack.2 ⟨hx, fun hxb => hn ⟨x, hxb, e⟩⟩, e⟩
    · rintro ⟨x, hx, e⟩
      obtain ⟨h1, h2⟩ := mem_lack.1 hx
      refine ⟨⟨x, h1, e⟩, ?_⟩
      rintro ⟨z, hz, e2⟩
      have := h.inj (ha.1 x h1) (hb.1 z hz) (e.trans e2.symm)
      exact h2 (this ▸ hz)
  rw [this, ren_len h hlk]
/-- Whatever is a blend comes of one. -/
theorem ren_sur {y : List Int} (hy : Okb n y) : ∃ x, Okb n x ∧ renS n to x = y := by
  refine ⟨(iota n).filter fun x => decide (toF to x ∈ y), ⟨fun x hx => mem_iota.1 (List.mem_filter.1 hx).1, (okb_iota n).2.sublist List.filter_sublist⟩, ?_⟩
  refine sorted_ext (ren_okb _).2 hy.2 fun z => ?_
  rw [mem_ren h (fun x hx => mem_iota.1 (List.mem_filter.1 hx).1)]
  simp only [List.mem_filter, mem_iota, decide_eq_true_eq]
  constructor
  · rintro ⟨x, ⟨-, hx⟩, e⟩; exact e ▸ hx
  · intro hz
    obtain ⟨x, hx, e⟩ := h.sur (hy.1 z hz)
    exact ⟨x, ⟨hx, by rw [e]; exact hz⟩, e⟩
theorem ren_inj {x y : List Int} (hx : Okb n x) (hy : Okb n y) (e : renS n to x = renS n to y) : x = y := by
  refine sorted_ext hx.2 hy.2 fun z => ?_
  have key : ∀ {u v : List Int}, Okb n u → Okb n v → renS n to u = renS n to v → ∀ z ∈ u, z ∈ v := fun {u v} hu hv e z hz => by
    have h1 : toF to z ∈ renS n to u := (mem_ren h hu.1).2 ⟨z, hz, rfl⟩
    rw [e, mem_ren h hv.1] at h1
    obtain ⟨w, hw, e2⟩ := h1
    have := h.inj (hu.1 z hz) (hv.1 w hw) e2.symm
    exact this ▸ hw
  exact ⟨key hx hy e z, key hy hx e.symm z⟩
omit h in
theorem mem_round {k : Nat} {l : List Int} : l ∈ roundS n k ↔ Okb n l ∧ l.length = k :=
  ⟨fun hl => ⟨okb_round hl, roundS_len _ _ _ hl⟩, fun ⟨h1, h2⟩ => h2 ▸ okb_mem h1⟩
theorem round_perm (k : Nat) : ((roundS n k).map (renS n to)).Perm (roundS n k) := by
  refine (List.perm_ext_iff_of_nodup ?_ (round_nodup n k)).2 fun y => ?_
  · show List.Pairwise _ _
    rw [List.pairwise_map]
    refine (List.Pairwise.and_mem.1 (round_nodup n k)).imp fun {x y} ⟨hx, hy, hne⟩ e => ?_
    exact hne (ren_inj h (mem_round.1 hx).1 (mem_round.1 hy).1 e)
  · rw [List.mem_map]
    constructor
    · rintro ⟨x, hx, rfl⟩
      obtain ⟨h1, h2⟩ := mem_round.1 hx
      exact mem_round.2 ⟨ren_okb x, by rw [ren_len h h1, h2]⟩
    · intro hy
      obtain ⟨h1, h2⟩ := mem_round.1 hy
      obtain ⟨x, hx, e⟩ := ren_sur h h1
      exact ⟨x, mem_round.2 ⟨hx, by rw [← ren_len h hx, e, h2]⟩, e⟩
theorem ren_filter {k : Nat} {p q : List Int → Bool} (hpq : ∀ x, Okb n x → x.length = k → q (renS n to x) = p x) : ((roundS n k).filter q).length = ((roundS n k).filter p).length := by
  rw [← List.countP_eq_length_filter, ← List.countP_eq_length_filter, ← (round_perm h k).countP_eq q, List.countP_map]
  refine List.countP_congr fun x hx => ?_
  obtain ⟨h1, h2⟩ := mem_round.1 hx
  simp only [Function.comp_apply, hpq x h1 h2]
end

/-! ### Weights -/
theorem weighS_perm {ws l m : List Int} (h : l.Perm m) : weighS ws l = weighS ws m := by
  induction h with
  | nil => rfl
  | cons x _ ih => simp only [weighS, ih]
  | swap x y l => simp only [weighS]; omega
  | trans _ _ ih1 ih2 => exact ih1.trans ih2
theorem weighS_map {ws ow to : List Int} : ∀ {l : List Int}, (∀ x ∈ l, (ow[(toF to x).toNat]?).getD 0 = (ws[x.toNat]?).getD 0) → weighS ow (l.map (toF to)) = weighS ws l
  | [], _ => rfl
  | x :: l, h => by
    simp only [List.map_cons, weighS, h x (by simp), weighS_map (l := l) fun y hy => h y (by simp [hy])]
theorem weighS_ren {n : Nat} {to ws ow l : List Int} (h : Ren n to) (hw : ∀ x : Int, 0 ≤ x ∧ x < n → (ow[(toF to x).toNat]?).getD 0 = (ws[x.toNat]?).getD 0) (hl : Okb n l) : weighS ow (renS n to l) = weighS ws l := by
  rw [weighS_perm (ren_perm h hl), weighS_map fun x hx => hw x (hl.1 x hx)]
end Go.Proofs.Ytmoifofihafgmaa

/- Other numbers of the leaves: what is found (pure). -/
namespace Go.Proofs.Ytmoifofihafgmaa
open Go Go.Proofs.Ytmoifofihafgmaa.AX

theorem fold_min {f : List Int → Int} : ∀ (l : List (List Int)) (a : Int), l.foldl (fun a x => min a (f x)) a ≤ a ∧ (∀ x ∈ l, l.foldl (fun a x => min a (f x)) a ≤ f x) ∧ (l.foldl (fun a x => min a (f x)) a = a ∨ ∃ x ∈ l, l.foldl (fun a x => min a (f x)) a = f x)
  | [], a => ⟨Int.le_refl _, by simp, .inl rfl⟩
  | y :: l, a => by
    obtain ⟨h1, h2, h3⟩ := fold_min (f := f) l (min a (f y))
    simp only [List.foldl_cons]
    refine ⟨by omega, fun x hx => ?_, ?_⟩
    · rcases List.mem_cons.1 hx with rfl | hx
      · omega
      · exact h2 x hx
    · rcases h3 with h3 | ⟨x, hx, h3⟩
      · rw [h3]
        rcases Int.le_total a (f y) with g | g
        · left; omega
        · right; exact ⟨y, by simp, by omega⟩
      · exact .inr ⟨x, by simp [hx], h3⟩
theorem fold_max {f : List Int → Int} : ∀ (l : List (List Int)) (a : Int), a ≤ l.foldl (fun a x => max a (f x)) a ∧ (∀ x ∈ l, f x ≤ l.foldl (fun a x => max a (f x)) a) ∧ (l.foldl (fun a x => max a (f x)) a = a ∨ ∃ x ∈ l, l.foldl (fun a x => max a (f x)) a = f x)
  | [], a => ⟨Int.le_refl _, by simp, .inl rfl⟩
  | y :: l, a => by
    obtain ⟨h1, h2, h3⟩ := fold_max (f := f) l (max a (f y))
    simp only [List.foldl_cons]
    refine ⟨by omega, fun x hx => ?_, ?_⟩
    · rcases List.mem_cons.1 hx with rfl | hx
      · omega
      · exact h2 x hx
    · rcases h3 with h3 | ⟨x, hx, h3⟩
      · rw [h3]
        rcases Int.le_total a (f y) with g | g
        · right; exact ⟨y, by simp, by omega⟩
        · left; omega
      · exact .inr ⟨x, by simp [hx], h3⟩
theorem fold_min_same {f g : List Int → Int} {l m : List (List Int)} {a : Int} (h1 : ∀ x ∈ l, ∃ y ∈ m, g y = f x) (h2 : ∀ y ∈ m, ∃ x ∈ l, f x = g y) : l.foldl (fun a x => min a (f x)) a = m.foldl (fun a x => min a (g x)) a := by
  obtain ⟨a1, a2, a3⟩ := fold_min (f := f) l a
  obtain ⟨b1, b2, b3⟩ := fold_min (f := g) m a
  generalize l.foldl (fun a x => min a (f x)) a = x at *
  generalize m.foldl (fun a x => min a (g x)) a = y at *
  have e1 : x ≤ y := by
    rcases b3 with b3 | ⟨z, hz, b3⟩
    · omega
    · obtain ⟨w, hw, e⟩ := h2 z hz
      have := a2 w hw; omega
  have e2 : y ≤ x := by
    rcases a3 with a3 | ⟨z, hz, a3⟩
    · omega
    · obtain ⟨w, hw, e⟩ := h1 z hz
      have := b2 w hw; omega
  omega
theorem fold_max_same {f g : List Int → Int} {l m : List (List Int)} {a : Int} (h1 : ∀ x ∈ l, ∃ y ∈ m, g y = f x) (h2 : ∀ y ∈ m, ∃ x ∈ l, f x = g y) : l.foldl (fun a x => max a (f x)) a = m.foldl (fun a x => max a (g x)) a := by
  obtain ⟨a1, a2, a3⟩ := fold_max (f := f) l a
  obtain ⟨b1, b2, b3⟩ := fold_max (f := g) m a
  generalize l.foldl (fun a x => max a (f x)) a = x at *
  generalize m.foldl (fun a x => max a (g x)) a = y at *
  have e1 : x ≤ y := by
    rcases a3 with a3 | ⟨z, hz, a3⟩
    · omega
    · obtain ⟨w, hw, e⟩ := h1 z hz
      have := b2 w hw; omega
  have e2 : y ≤ x := by
    rcases b3 with b3 | ⟨z, hz, b3⟩
    · omega
    · obtain ⟨w, hw, e⟩ := h2 z hz
      have := a2 w hw; omega
  omega
theorem near_out {W a : List Int} {lo hi : Int} (hr : recE W lo hi = 0) (ha : Okb W.length a) :
    nearE W lo hi a = (if (roundS W.length a.length).filter (fitB W lo hi) = [] then 12 else 0) ∧
    (nearE W lo hi a = 0 → nearS W lo hi a ∈ (roundS W.length a.length).filter (fitB W lo hi) ∧ ∀ z ∈ (roundS W.length a.length).filter (fitB W lo hi), (lack a (nearS W lo hi a)).length ≤ (lack a z).length) := by
  have e : nearE W lo hi a = (if (roundS W.length a.length).filter (fitB W lo hi) = [] then 12 else 0) := by
    unfold nearE; rw [if_pos (with_of hr ha)]
  refine ⟨e, fun h0 => ?_⟩
  have hne : (roundS W.length a.length).filter (fitB W lo hi) ≠ [] := fun hn => by rw [e, if_pos hn] at h0; cases h0
  obtain ⟨x, hx⟩ := best_some (b := a) hne
  have es : nearS W lo hi a = x := by unfold nearS; rw [if_pos (with_of hr ha), hx]; rfl
  rw [es]
  exact ⟨bestS_mem hx, fun z hz => best_less hx hz⟩
/-- What other numbers leave as it was. -/
theorem named_facts {W ow to a b : List Int} {lo hi j : Int} (hr : recE W lo hi = 0) (hro : recE ow lo hi = 0) (hlen : ow.length = W.length) (h : Ren W.length to)
    (hw : ∀ x : Int, 0 ≤ x ∧ x < W.length → (ow[(toF to x).toNat]?).getD 0 = (W[x.toNat]?).getD 0) (ha : Okb W.length a) (hb : Okb W.length b) (hl : a.length = b.length) (hj : 0 ≤ j ∧ j ≤ 10) :
    awayS W.length (renS W.length to a) (renS W.length to b) = awayS W.length a b ∧ bothE W.length a b = 0 ∧ bothE W.length (renS W.length to a) (renS W.length to b) = 0 ∧
    withE W lo hi a = 0 ∧ withE ow lo hi (renS W.length to a) = 0 ∧ weightS ow lo hi (renS W.length to a) = weightS W lo hi a ∧
    fitsE W lo hi a.length = 0 ∧ fitsE ow lo hi a.length = 0 ∧ fitsN ow lo hi a.length = fitsN W lo hi a.length ∧
    nearE ow lo hi (renS W.length to a) = nearE W lo hi a ∧
    (nearE W lo hi a = 0 → Okb W.length (nearS W lo hi a) ∧ Okb W.length (nearS ow lo hi (renS W.length to a)) ∧ (nearS W lo hi a).length = a.length ∧ (nearS ow lo hi (renS W.length to a)).length = a.length ∧
      (lack (nearS ow lo hi (renS W.length to a)) (renS W.length to a)).length = (lack (nearS W lo hi a) a).length) ∧
    reachE W lo hi a j = 0 ∧ reachE ow lo hi (renS W.length to a) j = 0 ∧ reachS ow lo hi (renS W.length to a) j = reachS W lo hi a j := by
  have hr1 := rec_ok hr
  have hc := ren_okb (n := W.length) (to := to) a
  have hd := ren_okb (n := W.length) (to := to) b
  have lc := ren_len h ha
  have ld := ren_len h hb
  obtain ⟨e1, e2⟩ := both_of ha hb hl hr1.1 hr1.2.1
  obtain ⟨e3, e4⟩ := both_of hc hd (by rw [lc, ld, hl]) hr1.1 hr1.2.1
  have w1 := with_of hr ha
  have w2 := with_of (W := ow) (b := renS W.length to a) hro (by rw [hlen]; exact hc)
  have f1 := fits_of hr (okb_len ha)
  have f2 := fits_of (W := ow) (k := a.length) hro (by rw [hlen]; exact okb_len ha)
  have hfit : ∀ x, Okb W.length x → fitB ow lo hi (renS W.length to x) = fitB W lo hi x := fun x hx => by
    unfold fitB; rw [weighS_ren h hw hx]
  have hcount := ren_filter h (k := a.length) (p := fitB W lo hi) (q := fitB ow lo hi) fun x hx _ => hfit x hx
  obtain ⟨n1, n2⟩ := near_out hr ha
  obtain ⟨m1, m2⟩ := near_out (W := ow) (a := renS W.length to a) hro (by rw [hlen]; exact hc)
  rw [hlen, lc] at m1 m2
  have hnear : nearE ow lo hi (renS W.length to a) = nearE W lo hi a := by
    rw [n1, m1]
    by_cases g : (roundS W.length a.length).filter (fitB W lo hi) = []
    · rw [if_pos g, if_pos (List.eq_nil_of_length_eq_zero (by rw [hcount, g]; rfl))]
    · rw [if_neg g, if_neg fun g2 => g (List.eq_nil_of_length_eq_zero (by rw [← hcount, g2]; rfl))]
  have r1 : reachE W lo hi a j = 0 := by unfold reachE; rw [if_pos w1, if_neg (by omega)]
  have r2 : reachE ow lo hi (renS W.length to a) j = 0 := by unfold reachE; rw [if_pos w2, if_neg (by omega)]
  refine ⟨by rw [e2, e4, ren_lack h ha hb], e1, e3, w1, w2, ?_, f1.1, f2.1, ?_, hnear, fun h0 => ?_, r1, r2, ?_⟩
  · unfold weightS; rw [if_pos w1, if_pos w2, weighS_ren h hw ha]
  · rw [f1.2, f2.2, hlen, hcount]
  · obtain ⟨p1, p2⟩ := n2 h0
    obtain ⟨q1, q2⟩ := m2 (by rw [hnear]; exact h0)
    obtain ⟨p3, p4⟩ := List.mem_filter.1 p1
    obtain ⟨q3, q4⟩ := List.mem_filter.1 q1
    have p5 := mem_round.1 p3
    have q5 := mem_round.1 q3
    refine ⟨p5.1, q5.1, p5.2, q5.2, ?_⟩
    generalize nearS W lo hi a = p at *
    generalize nearS ow lo hi (renS W.length to a) = q at *
    rw [lack_sym q5.1.2 hc.2 (by rw [lc, q5.2]), lack_sym p5.1.2 ha.2 p5.2]
    have hp' : renS W.length to p ∈ (roundS W.length a.length).filter (fitB ow lo hi) :=
      List.mem_filter.2 ⟨mem_round.2 ⟨ren_okb p, by rw [ren_len h p5.1, p5.2]⟩, by rw [hfit p p5.1]; exact p4⟩
    have k1 := q2 _ hp'
    rw [ren_lack h ha p5.1] at k1
    obtain ⟨x, hx, ex⟩ := ren_sur h q5.1
    have hx2 : x ∈ (roundS W.length a.length).filter (fitB W lo hi) :=
      List.mem_filter.2 ⟨mem_round.2 ⟨hx, by rw [← ren_len h hx, ex, q5.2]⟩, by rw [← hfit x hx, ex]; exact q4⟩
    have k2 := p2 _ hx2
    rw [← ren_lack h ha hx, ex] at k2
    omega
  · unfold reachS
    rw [if_pos r1, if_pos r2, hlen, lc]
    have hcl : ∀ x, Okb W.length x → closeB (renS W.length to a) j (renS W.length to x) = closeB a j x := fun x hx => by
      unfold closeB; rw [ren_lack h ha hx]
    have g1 : ∀ x ∈ (roundS W.length a.length).filter (closeB a j), ∃ y ∈ (roundS W.length a.length).filter (closeB (renS W.length to a) j), weighS ow y = weighS W x := fun x hx => by
      obtain ⟨x1, x2⟩ := List.mem_filter.1 hx
      obtain ⟨x3, x4⟩ := mem_round.1 x1
      exact ⟨renS W.length to x, List.mem_filter.2 ⟨mem_round.2 ⟨ren_okb x, by rw [ren_len h x3, x4]⟩, by rw [hcl x x3]; exact x2⟩, weighS_ren h hw x3⟩
    have g2 : ∀ y ∈ (roundS W.length a.length).filter (closeB (renS W.length to a) j), ∃ x ∈ (roundS W.length a.length).filter (closeB a j), weighS W x = weighS ow y := fun y hy => by
      obtain ⟨y1, y2⟩ := List.mem_filter.1 hy
      obtain ⟨y3, y4⟩ := mem_round.1 y1
      obtain ⟨x, hx, ex⟩ := ren_sur h y3
      exact ⟨x, List.mem_filter.2 ⟨mem_round.2 ⟨hx, by rw [← ren_len h hx, ex, y4]⟩, by rw [← hcl x hx, ex]; exact y2⟩, by rw [← ex, weighS_ren h hw hx]⟩
    unfold lowS highS
    rw [weighS_ren h hw ha, fold_min_same g2 g1, fold_max_same g2 g1]
end Go.Proofs.Ytmoifofihafgmaa

/- All blends by their sets are those of the round; the best one (pure). -/
namespace Go.Proofs.Ytmoifofihafgmaa
open Go Go.Proofs.Ytmoifofihafgmaa.AX

theorem bits_ex (p : Nat → Bool) : ∀ n, ∃ s, s < 2 ^ n ∧ ∀ i, i < n → s.testBit i = p i
  | 0 => ⟨0, by simp, fun i hi => by omega⟩
  | n + 1 => by
    obtain ⟨s, h1, h2⟩ := bits_ex p n
    have h3 : s.testBit n = false := Nat.testBit_lt_two_pow h1
    cases hp : p n with
    | true =>
      refine ⟨2 ^ n + s, by rw [Nat.pow_succ]; omega, fun i hi => ?_⟩
      rcases Nat.lt_or_ge i n with g | g
      · rw [Nat.testBit_two_pow_add_gt g]; exact h2 i g
      · obtain rfl : i = n := by omega
        rw [Nat.testBit_two_pow_add_eq, h3, hp]; rfl
    | false =>
      refine ⟨s, by rw [Nat.pow_succ]; omega, fun i hi => ?_⟩
      rcases Nat.lt_or_ge i n with g | g
      · exact h2 i g
      · obtain rfl : i = n := by omega
        rw [h3, hp]
theorem held_inj {n s t : Nat} (hs : s < 2 ^ n) (ht : t < 2 ^ n) (h : heldS n s = heldS n t) : s = t := by
  refine Nat.eq_of_testBit_eq fun i => ?_
  rcases Nat.lt_or_ge i n with g | g
  · have h1 : ((i : Int) ∈ heldS n s) ↔ ((i : Int) ∈ heldS n t) := by rw [h]
    rw [mem_held, mem_held] at h1
    simp only [Int.toNat_natCast] at h1
    have h2 : s.testBit i = true ↔ t.testBit i = true := ⟨fun e => (h1.1 ⟨⟨by omega, by omega⟩, e⟩).2, fun e => (h1.2 ⟨⟨by omega, by omega⟩, e⟩).2⟩
    exact Bool.eq_iff_iff.2 h2
  · have : ∀ u, u < 2 ^ n → u.testBit i = false := fun u hu => Nat.testBit_lt_two_pow (Nat.lt_of_lt_of_le hu (Nat.pow_le_pow_right (by omega) g))
    rw [this s hs, this t ht]
theorem held_ten {n s : Nat} (hn : n ≤ 10) (hs : s < 2 ^ n) : heldS 10 s = heldS n s := by
  refine sorted_ext (heldS_okb 10 s).2 (heldS_okb n s).2 fun x => ?_
  rw [mem_held, mem_held]
  constructor
  · rintro ⟨h1, h2⟩
    refine ⟨⟨h1.1, ?_⟩, h2⟩
    rcases Int.lt_or_le x n with g | g
    · exact g
    · have : s.testBit x.toNat = false := Nat.testBit_lt_two_pow (Nat.lt_of_lt_of_le hs (Nat.pow_le_pow_right (by omega) (by omega)))
      rw [this] at h2; cases h2
  · rintro ⟨h1, h2⟩
    exact ⟨⟨h1.1, by omega⟩, h2⟩
theorem mem_bls {n k : Nat} (hn : n ≤ 10) {x : List Int} : x ∈ blsS n k (2 ^ n) ↔ Okb n x ∧ x.length = k := by
  unfold blsS
  simp only [List.mem_map, List.mem_filter, List.mem_range, decide_eq_true_eq]
  constructor
  · rintro ⟨s, ⟨h1, h2⟩, rfl⟩
    exact ⟨heldS_okb n s, by rw [← held_ten hn h1]; exact h2⟩
  · rintro ⟨h1, h2⟩
    obtain ⟨s, hs, hb⟩ := bits_ex (fun i => decide ((i : Int) ∈ x)) n
    have e : heldS n s = x := by
      refine sorted_ext (heldS_okb n s).2 h1.2 fun y => ?_
      rw [mem_held]
      constructor
      · rintro ⟨g1, g2⟩
        rw [hb y.toNat (by omega)] at g2
        have : ((y.toNat : Nat) : Int) = y := by omega
        rw [this] at g2
        simpa using g2
      · intro hy
        have hr := h1.1 y hy
        refine ⟨hr, ?_⟩
        rw [hb y.toNat (by omega)]
        have : ((y.toNat : Nat) : Int) = y := by omega
        rw [this]
        simpa using hy
    exact ⟨s, ⟨hs, by rw [held_ten hn hs, e]; exact h2⟩, e⟩
theorem bls_nodup {n k : Nat} : (blsS n k (2 ^ n)).Pairwise (· ≠ ·) := by
  unfold blsS
  rw [List.pairwise_map]
  have h1 : (List.range (2 ^ n)).Pairwise (· ≠ ·) := List.nodup_range
  refine (List.Pairwise.and_mem.1 (h1.sublist List.filter_sublist)).imp fun {s t} ⟨hs, ht, hne⟩ e => hne ?_
  exact held_inj (List.mem_range.1 (List.mem_filter.1 hs).1) (List.mem_range.1 (List.mem_filter.1 ht).1) e
theorem bls_perm {n k : Nat} (hn : n ≤ 10) : (blsS n k (2 ^ n)).Perm (roundS n k) :=
  (List.perm_ext_iff_of_nodup bls_nodup (round_nodup n k)).2 fun x => by rw [mem_bls hn, mem_round]

/-! ### The order of nearness -/
theorem cmpS_neg {a b : Int} : cmpS a b < 0 ↔ a < b := by unfold cmpS; repeat' split <;> omega
theorem cmpS_zero {a b : Int} : cmpS a b = 0 ↔ a = b := by unfold cmpS; repeat' split <;> omega
theorem lex_zero : ∀ {a b : List Int}, lexS a b = 0 → a = b
  | [], [], _ => rfl
  | [], y :: m, h => by simp [lexS] at h
  | x :: l, [], h => by simp [lexS] at h
  | x :: l, y :: m, h => by
    simp only [lexS] at h
    split at h
    · rename_i g
      rw [cmpS_zero.1 g, lex_zero h]
    · rename_i g; exact absurd h g
theorem lex_tot : ∀ {a b : List Int}, lexS a b < 0 ∨ lexS a b = 0 ∨ lexS b a < 0
  | [], [] => .inr (.inl rfl)
  | [], y :: m => .inl (by simp [lexS])
  | x :: l, [] => .inr (.inr (by simp [lexS]))
  | x :: l, y :: m => by
    simp only [lexS]
    have ih := @lex_tot l m
    by_cases g : x = y
    · subst g
      have : cmpS x x = 0 := cmpS_zero.2 rfl
      rw [if_pos this, if_pos this]; exact ih
    · have h1 : ¬ cmpS x y = 0 := fun h => g (cmpS_zero.1 h)
      have h2 : ¬ cmpS y x = 0 := fun h => g (cmpS_zero.1 h).symm
      rw [if_neg h1, if_neg h2, cmpS_neg, cmpS_neg]
      omega
theorem lex_trans : ∀ {a b c : List Int}, lexS a b < 0 → lexS b c < 0 → lexS a c < 0
  | [], [], _, h, _ => by simp [lexS] at h
  | x :: l, [], _, h, _ => by simp [lexS] at h
  | _, y :: m, [], _, h => by simp [lexS] at h
  | [], y :: m, z :: n, _, _ => by simp [lexS]
  | x :: l, y :: m, z :: n, h1, h2 => by
    simp only [lexS] at h1 h2 ⊢
    by_cases g1 : x = y
    · subst g1
      rw [if_pos (cmpS_zero.2 rfl)] at h1
      by_cases g2 : x = z
      · subst g2
        rw [if_pos (cmpS_zero.2 rfl)] at h2 ⊢
        exact lex_trans h1 h2
      · rw [if_neg fun h => g2 (cmpS_zero.1 h)] at h2 ⊢
        exact h2
    · rw [if_neg fun h => g1 (cmpS_zero.1 h), cmpS_neg] at h1
      by_cases g2 : y = z
      · subst g2
        rw [if_neg fun h => g1 (cmpS_zero.1 h), cmpS_neg]; exact h1
      · rw [if_neg fun h => g2 (cmpS_zero.1 h), cmpS_neg] at h2
        rw [if_neg fun h => by have := cmpS_zero.1 h; omega, cmpS_neg]; omega
theorem near_neg {b a c : List Int} : nearC b a c < 0 ↔ ((lack b a).length < (lack b c).length ∨ ((lack b a).length = (lack b c).length ∧ lexS a c < 0)) := by
  unfold nearC
  split
  · rename_i h
    have := cmpS_zero.1 h
    omega
  · rename_i h
    rw [cmpS_neg]
    have : ¬ ((lack b a).length : Int) = (lack b c).length := fun e => h (cmpS_zero.2 e)
    omega
theorem near_trans {b x y z : List Int} (h1 : nearC b x y < 0) (h2 : nearC b y z < 0) : nearC b x z < 0 := by
  rw [near_neg] at h1 h2 ⊢
  rcases h1 with h1 | ⟨h1, h3⟩ <;> rcases h2 with h2 | ⟨h2, h4⟩
  · left; omega
  · left; omega
  · left; omega
  · exact .inr ⟨by omega, lex_trans h3 h4⟩
theorem near_tot {b x y : List Int} (h1 : ¬ nearC b x y < 0) (h2 : ¬ nearC b y x < 0) : x = y := by
  rw [near_neg] at h1 h2
  have e : (lack b x).length = (lack b y).length := by omega
  rcases @lex_tot x y with h | h | h
  · exact absurd (.inr ⟨e, h⟩) h1
  · exact lex_zero h
  · exact absurd (.inr ⟨e.symm, h⟩) h2
theorem lex_irr : ∀ (a : List Int), ¬ lexS a a < 0
  | [] => by simp [lexS]
  | x :: l => by
    simp only [lexS]
    rw [if_pos (cmpS_zero.2 rfl)]
    exact lex_irr l
theorem near_irr {b a : List Int} : ¬ nearC b a a < 0 := by
  rw [near_neg]
  rintro (h | ⟨-, h⟩)
  · omega
  · exact lex_irr _ h
theorem fold_near {b : List Int} : ∀ (l : List (List Int)) (m z : List Int), z = m ∨ z ∈ l → ¬ nearC b z (l.foldl (nearer b) m) < 0
  | [], m, z, hz => by
    rcases hz with rfl | hz
    · exact near_irr
    · cases hz
  | x :: l, m, z, hz => by
    rw [List.foldl_cons]
    have ih := fold_near (b := b) l (nearer b m x)
    generalize hr : l.foldl (nearer b) (nearer b m x) = r at *
    unfold nearer at ih
    by_cases g : nearC b x m < 0
    · rw [if_pos g] at ih
      rcases hz with rfl | hz
      · intro h
        exact ih x (.inl rfl) (near_trans g h)
      · rcases List.mem_cons.1 hz with rfl | hz
        · exact ih _ (.inl rfl)
        · exact ih z (.inr hz)
    · rw [if_neg g] at ih
      rcases hz with rfl | hz
      · exact ih _ (.inl rfl)
      · rcases List.mem_cons.1 hz with rfl | hz
        · intro h
          have h1 := ih m (.inl rfl)
          by_cases h2 : nearC b r m < 0
          · exact g (near_trans h h2)
          · have := near_tot h1 h2
            rw [← this] at h
            exact g h
        · exact ih z (.inr hz)
theorem best_min {b m : List Int} {l : List (List Int)} (h : bestS b l = some m) : ∀ z ∈ l, ¬ nearC b z m < 0 := fun z hz => by
  cases l with
  | nil => cases h
  | cons x l =>
    simp only [bestS, Option.some.injEq] at h
    rw [← h]
    exact fold_near l x z (by simpa using hz)
theorem best_perm {b : List Int} {l l' : List (List Int)} (h : l.Perm l') : bestS b l = bestS b l' := by
  cases e1 : bestS b l with
  | none =>
    cases l with
    | nil => rw [h.symm.eq_nil]; rfl
    | cons x l => cases e1
  | some m =>
    cases e2 : bestS b l' with
    | none =>
      cases l' with
      | nil => rw [h.eq_nil] at e1; cases e1
      | cons x l' => cases e2
    | some m' =>
      congr 1
      refine near_tot (b := b) (fun h1 => ?_) (fun h1 => ?_)
      · exact best_min e2 m (h.mem_iff.1 (bestS_mem e1)) h1
      · exact best_min e1 m' (h.mem_iff.2 (bestS_mem e2)) h1

/-! ### What is found -/
def closeA (b : List Int) (c : Int) (x : List Int) : Bool := decide (((lack x b).length : Int) ≤ c)
def lowA (W b : List Int) (c : Int) (D : List (List Int)) : Int := (D.filter (closeA b c)).foldl (fun a x => min a (weighS W x)) 1000
def highA (W b : List Int) (c : Int) (D : List (List Int)) : Int := (D.filter (closeA b c)).foldl (fun a x => max a (weighS W x)) (-1)
theorem lowA_snoc {W b x : List Int} {c : Int} {D : List (List Int)} : lowA W b c (D ++ [x]) = if closeA b c x = true then min (lowA W b c D) (weighS W x) else lowA W b c D := by
  unfold lowA
  rw [List.filter_append]
  by_cases h : closeA b c x = true <;> simp [h]
theorem highA_snoc {W b x : List Int} {c : Int} {D : List (List Int)} : highA W b c (D ++ [x]) = if closeA b c x = true then max (highA W b c D) (weighS W x) else highA W b c D := by
  unfold highA
  rw [List.filter_append]
  by_cases h : closeA b c x = true <;> simp [h]
def farA (b : List Int) : Option (List Int) → Int
  | none => 100
  | some m => ((lack m b).length : Int)
theorem found_facts {W b : List Int} {lo hi j : Int} (hr : recE W lo hi = 0) (hb : Okb W.length b) (hj : 0 ≤ j ∧ j ≤ 10) :
    lowA W b j (blsS W.length b.length (2 ^ W.length)) = (reachS W lo hi b j).1 ∧ highA W b j (blsS W.length b.length (2 ^ W.length)) = (reachS W lo hi b j).2 ∧ reachE W lo hi b j = 0 ∧
    (((blsS W.length b.length (2 ^ W.length)).filter (fitB W lo hi)).length : Int) = fitsN W lo hi b.length ∧ fitsE W lo hi b.length = 0 ∧ withE W lo hi b = 0 ∧
    nearS W lo hi b = (bestS b ((blsS W.length b.length (2 ^ W.length)).filter (fitB W lo hi))).getD [] ∧
    (nearE W lo hi b = if ((blsS W.length b.length (2 ^ W.length)).filter (fitB W lo hi)) = [] then 12 else 0) ∧
    ∀ m, bestS b ((blsS W.length b.length (2 ^ W.length)).filter (fitB W lo hi)) = some m → m.length = b.length ∧ (((lack m b).length : Int) ≤ j → lo ≤ (reachS W lo hi b j).2 ∧ (reachS W lo hi b j).1 ≤ hi) := by
  have h1 := rec_ok hr
  have hw := with_of hr hb
  have hf := fits_of hr (okb_len hb)
  have hp := bls_perm (n := W.length) (k := b.length) h1.2.1
  have hre : reachE W lo hi b j = 0 := by unfold reachE; rw [if_pos hw, if_neg (by omega)]
  have hbF : b ∈ roundS W.length b.length := mem_round.2 ⟨hb, rfl⟩
  have hcl : ∀ x, Okb W.length x → x.length = b.length → closeA b j x = closeB b j x := fun x hx hxl => by
    unfold closeA closeB; rw [lack_sym hx.2 hb.2 hxl]
  have hcb : closeB b j b = true := by unfold closeB; rw [lack_self]; simp; omega
  have mem1 : ∀ x, x ∈ (blsS W.length b.length (2 ^ W.length)).filter (closeA b j) ↔ x ∈ (roundS W.length b.length).filter (closeB b j) := fun x => by
    rw [List.mem_filter, List.mem_filter, hp.mem_iff]
    constructor
    · rintro ⟨g1, g2⟩
      obtain ⟨g3, g4⟩ := mem_round.1 g1
      exact ⟨g1, by rw [← hcl x g3 g4]; exact g2⟩
    · rintro ⟨g1, g2⟩
      obtain ⟨g3, g4⟩ := mem_round.1 g1
      exact ⟨g1, by rw [hcl x g3 g4]; exact g2⟩
  have hb1 := (mem1 b).2 (List.mem_filter.2 ⟨hbF, hcb⟩)
  have hwb := weighS_bound h1.2.2 b
  have hbl := okb_len hb
  have rs : reachS W lo hi b j = (lowS W b j (roundS W.length b.length), highS W b j (roundS W.length b.length)) := by unfold reachS; rw [if_pos hre]
  rw [rs]
  simp only
  obtain ⟨a1, a2, a3⟩ := fold_min (f := weighS W) ((blsS W.length b.length (2 ^ W.length)).filter (closeA b j)) 1000
  obtain ⟨b1, b2, b3⟩ := fold_min (f := weighS W) ((roundS W.length b.length).filter (closeB b j)) (weighS W b)
  obtain ⟨c1, c2, c3⟩ := fold_max (f := weighS W) ((blsS W.length b.length (2 ^ W.length)).filter (closeA b j)) (-1)
  obtain ⟨d1, d2, d3⟩ := fold_max (f := weighS W) ((roundS W.length b.length).filter (closeB b j)) (weighS W b)
  have a4 := a2 b hb1
  have c4 := c2 b hb1
  have eL : lowA W b j (blsS W.length b.length (2 ^ W.length)) = lowS W b j (roundS W.length b.length) := by
    show List.foldl _ 1000 _ = List.foldl _ (weighS W b) _
    have e1 : List.foldl (fun a x => min a (weighS W x)) 1000 ((blsS W.length b.length (2 ^ W.length)).filter (closeA b j)) ≤ List.foldl (fun a x => min a (weighS W x)) (weighS W b) ((roundS W.length b.length).filter (closeB b j)) := by
      rcases b3 with b3 | ⟨x, hx, b3⟩
      · rw [b3]; exact a4
      · rw [b3]; exact a2 x ((mem1 x).2 hx)
    refine Int.le_antisymm e1 ?_
    rcases a3 with a3 | ⟨x, hx, a3⟩
    · omega
    · rw [a3]; exact b2 x ((mem1 x).1 hx)
  have eH : highA W b j (blsS W.length b.length (2 ^ W.length)) = highS W b j (roundS W.length b.length) := by
    show List.foldl _ (-1) _ = List.foldl _ (weighS W b) _
    have e1 : List.foldl (fun a x => max a (weighS W x)) (weighS W b) ((roundS W.length b.length).filter (closeB b j)) ≤ List.foldl (fun a x => max a (weighS W x)) (-1) ((blsS W.length b.length (2 ^ W.length)).filter (closeA b j)) := by
      rcases d3 with d3 | ⟨x, hx, d3⟩
      · rw [d3]; exact c4
      · rw [d3]; exact c2 x ((mem1 x).2 hx)
    refine Int.le_antisymm ?_ e1
    rcases c3 with c3 | ⟨x, hx, c3⟩
    · omega
    · rw [c3]; exact d2 x ((mem1 x).1 hx)
  have hpf := hp.filter (fitB W lo hi)
  refine ⟨eL, eH, hre, by rw [hf.2, hpf.length_eq], hf.1, hw, ?_, ?_, fun m hm => ?_⟩
  · unfold nearS; rw [if_pos hw, best_perm hpf]
  · unfold nearE; rw [if_pos hw]
    by_cases g : (roundS W.length b.length).filter (fitB W lo hi) = []
    · rw [if_pos g, if_pos (by rw [g] at hpf; exact hpf.eq_nil)]
    · rw [if_neg g, if_neg fun g2 => g (by rw [g2] at hpf; exact hpf.symm.eq_nil)]
  · have hmm := bestS_mem hm
    obtain ⟨m1, m2⟩ := List.mem_filter.1 hmm
    obtain ⟨m3, m4⟩ := (mem_bls h1.2.1).1 m1
    refine ⟨m4, fun hc => ?_⟩
    have hmc : m ∈ (roundS W.length b.length).filter (closeB b j) := (mem1 m).1 (List.mem_filter.2 ⟨m1, by unfold closeA; simpa using hc⟩)
    have k1 := b2 m hmc
    have k2 := d2 m hmc
    simp only [fitB, Bool.and_eq_true, decide_eq_true_eq] at m2
    exact ⟨Int.le_trans m2.1 k2, Int.le_trans k1 m2.2⟩
end Go.Proofs.Ytmoifofihafgmaa

/- One blend more is looked at. -/
namespace Go.Proofs.Ytmoifofihafgmaa
open Go Go.Proofs.Ytmoifofihafgmaa.AX

set_option maxRecDepth 100000 in
theorem lweigh_ac (v u : AV) (ws b : List Int) (lo hi : Int) (H : AH) (Q : AV → AH → Prop) (hf : Fine ws b) (hv : Ls H v ws) (hu : Ls H u b) (h : ∀ H', Ext H H' → Q (.int .i64 (weighS ws b)) H') : AC Try.prog 52 [.agg [v, .int .i64 lo, .int .i64 hi], u] H Q := by
  obtain ⟨f1, f2, f3, f4⟩ := hf
  obtain ⟨r, off, ver, sz, full, rfl, -⟩ := id hv
  refine L_body 23 Try.func52 rfl rfl ?_
  refine L_reg [1, 2] (fun K hK => ?_)
  simp [AV.isU, acells]
  apply hK; clear hK K
  have hE := Ext.push H [AObj.row [.slice r off ws.length ver sz full, .int .i64 lo, .int .i64 hi] 0 0 false]
  obtain ⟨d0, d1, d2, -⟩ := (RecRow.new H (.slice r off ws.length ver sz full) lo hi 0).lds
  have hv := hv.ext hE
  have hu := hu.ext hE
  generalize H ++ [AObj.row [.slice r off ws.length ver sz full, .int .i64 lo, .int .i64 hi] 0 0 false] = H0 at *
  generalize H.length = q at *
  obtain ⟨r1, off1, ver1, sz1, full1, hve, hld⟩ := hv
  cases hve
  obtain ⟨r2, off2, ver2, sz2, full2, rfl, hld2⟩ := hu
  refine L_reg [1, 2, 5] (fun K hK => ?_)
  simp
  apply hK; clear hK K
  refine L_reg [2, 5, 8, 9, 10] (fun K hK => ?_)
  simp
  apply hK; clear hK K
  refine L_block (L_loopV [5, 10] (fun k vs H' => ∃ (i : Nat) (a : Int), k = b.length - i ∧ i ≤ b.length ∧ a + weighS ws (b.drop i) = weighS ws b ∧ 0 ≤ a ∧ a ≤ 50 * i ∧ vs = [.int .i64 a, .int .i64 i] ∧ H0 = H') _ [.int .i64 0, .int .i64 (0 : Nat)] rfl ⟨0, 0, rfl, by omega, by simp, by omega, by omega, rfl, rfl⟩ ?_)
  rintro k _ _ ⟨i, a, rfl, hi', hx, ha1, ha2, rfl, rfl⟩
  refine L_reg [2, 5, 8, 9, 10, 11] (fun K hK => ?_)
  simp
  apply hK; clear hK K
  refine L_dec (i < b.length) (by simp) (fun hlt => ?_) (fun hge => L_exit ?_)
  · obtain ⟨r', rfl, rfl, hrd⟩ := hld2 i hlt
    have hbx := f2 _ (List.getElem_mem hlt)
    rw [weighS_drop hlt] at hx
    refine L_block ?_
    refine L_reg [2, 5, 7, 8, 9, 10] (fun K hK => ?_)
    simp [hlt, hrd]
    apply hK; clear hK K
    generalize b[i] = x at hx hbx
    obtain ⟨x, rfl⟩ : ∃ m : Nat, x = (m : Int) := ⟨x.toNat, by omega⟩
    have hxl : x < ws.length := by omega
    obtain ⟨r3, rfl, rfl, hrd3⟩ := hld x hxl
    have hw := f1 _ (List.getElem_mem hxl)
    simp only [Int.toNat_natCast, List.getElem?_eq_getElem hxl, Option.getD_some] at hx
    refine L_reg [2, 5, 8, 9, 10] (fun K hK => ?_)
    simp [d0, hxl, hrd3, wrap_i64 (a := a + ws[x]) (by omega)]
    apply hK; clear hK K
    refine L_reg [2, 5, 8, 9, 10] (fun K hK => ?_)
    simp [wrap_i64 (a := (i : Int) + 1) (by omega)]
    apply hK; clear hK K
    exact ⟨b.length - (i + 1), [.int .i64 (a + ws[x]), .int .i64 (i + 1 : Nat)], by omega, by simp, i + 1, a + ws[x], rfl, by omega, by omega, by omega, by omega, rfl, rfl⟩
  · rw [List.drop_eq_nil_of_le (by omega)] at hx
    simp only [weighS, Int.add_zero] at hx
    refine L_reg [4] (fun K hK => ?_)
    simp
    apply hK; clear hK K
    exact L_ret ⟨.inr rfl, _, rfl, by rw [hx]; exact h _ hE⟩
theorem lweigh_q (v u : AV) (ws b : List Int) (lo hi : Int) (H : AH) (hf : Fine ws b) (hv : Ls H v ws) (hu : Ls H u b) (Q : AV → AH → Prop) (hq : Q (.int .i64 (weighS ws b)) H) : AC Try.prog 52 [.agg [v, .int .i64 lo, .int .i64 hi], u] H Q :=
  AC.quiet (belB_int _ _ _ _) (fun Q h => lweigh_ac v u ws b lo hi H Q hf hv hu h) Q hq
/-- What the function knows after some blends. -/
structure Seen (H0 : AH) (W b : List Int) (lo hi j : Int) (D : List (List Int)) (H : AH) : Prop where
  len : H0.length + 5 ≤ H.length
  old : ∀ x, x < H0.length → H[x]? = H0[x]?
  cells : ∃ vb s0 s1 s2 s3 s4, H[H0.length]? = some (.row [vb] 0 s0 false) ∧ H[H0.length + 1]? = some (.row [.int .i64 (farA b (bestS b (D.filter (fitB W lo hi))))] 0 s1 false) ∧ H[H0.length + 2]? = some (.row [.int .i64 (D.filter (fitB W lo hi)).length] 0 s2 false) ∧
    H[H0.length + 3]? = some (.row [.int .i64 (lowA W b j D)] 0 s3 false) ∧ H[H0.length + 3 + 1]? = some (.row [.int .i64 (highA W b j D)] 0 s4 false) ∧ OwnF (H0.length + 5) H vb (((bestS b (D.filter (fitB W lo hi))).getD []).map (.int .i64))
theorem Seen.ext {H0 : AH} {W b : List Int} {lo hi j : Int} {D : List (List Int)} {H H' : AH} (h : Seen H0 W b lo hi j D H) (hE : Ext H H') : Seen H0 W b lo hi j D H' := by
  obtain ⟨h1, h2, vb, s0, s1, s2, s3, s4, c0, c1, c2, c3, c4, hO⟩ := h
  have := hE.1
  exact ⟨by omega, fun x hx => by rw [hE.2 x (by omega)]; exact h2 x hx, vb, s0, s1, s2, s3, s4, hE.row c0, hE.row c1, hE.row c2, hE.row c3, hE.row c4, ownF_ext hO (fun q hq o ho => hE.row ho)⟩
theorem Seen.ext0 {H0 : AH} {W b : List Int} {lo hi j : Int} {D : List (List Int)} {H : AH} (h : Seen H0 W b lo hi j D H) : Ext H0 H := ⟨by have := h.len; omega, h.old⟩
theorem near_of {b l m : List Int} {n : Nat} (hb : Okb n b) (hl : Okb n l) (hm : Okb n m) (e1 : l.length = b.length) (e2 : m.length = b.length) : nearC b l m < 0 ↔ ((lack l b).length < (lack m b).length ∨ ((lack l b).length = (lack m b).length ∧ lexS l m < 0)) := by
  rw [near_neg, lack_sym hl.2 hb.2 e1, lack_sym hm.2 hb.2 e2]
set_option maxHeartbeats 1600000 in
set_option maxRecDepth 100000 in
theorem found1_ac (H0 : AH) (W b l : List Int) (lo hi j : Int) (v vW vb0 : AV) (q qb qj sb sj : Nat) (D : List (List Int)) (H : AH) (Q : AV → AH → Prop) (hrec : recE W lo hi = 0) (hb : Okb W.length b) (hDn : (D.filter (fitB W lo hi)).length ≤ 100000) (hD : ∀ x ∈ D, Okb W.length x ∧ x.length = b.length) (hl : Okb W.length l) (hlb : l.length = b.length)
    (hW : Ls H0 vW W) (hR : RecRow H0 q vW lo hi) (hvb : Ls H0 vb0 b) (hqb : H0[qb]? = some (.row [vb0] 0 sb false)) (hqj : H0[qj]? = some (.row [.int .i64 j] 0 sj false)) (hS : Seen H0 W b lo hi j D H) (hO : OwnF (H0.length + 5) H v (l.map (.int .i64)))
    (h : ∀ u H', Seen H0 W b lo hi j (D ++ [l]) H' → Q u H') :
    AC Try.prog 51 [v, .ptr q 0 0, .ptr qb 0 0, .ptr qj 0 0, .ptr (H0.length + 3) 0 0, .ptr (H0.length + 3 + 1) 0 0, .ptr (H0.length + 2) 0 0, .ptr (H0.length + 1) 0 0, .ptr H0.length 0 0] H Q := by
  have hE := hS.ext0
  have h1 := rec_ok hrec
  have hfin := fine_of hrec hl
  have hbl := okb_len hb
  obtain ⟨r, off, ver, sz, full, rfl, -⟩ := id hW
  obtain ⟨r2, off2, ver2, sz2, full2, rfl, -⟩ := id hvb
  have hWH := hW.ext hE
  have hbH := hvb.ext hE
  have hlH := ownF_ls hO
  obtain ⟨hlen, hold, vB, s0, s1, s2, s3, s4, c0, c1, c2, c3, c4, hB⟩ := hS
  obtain ⟨-, -, -, d3⟩ := (hR.ext hE).lds
  obtain ⟨-, d1, d2, -⟩ := (hR.ext hE).lds
  have eb : ld H qb 0 0 = some (.slice r2 off2 b.length ver2 sz2 full2) := by rw [ld_row (hE.row hqb)]; rfl
  have ej : ld H qj 0 0 = some (.int .i64 j) := by rw [ld_row (hE.row hqj)]; rfl
  have ow := lowA_snoc (W := W) (b := b) (x := l) (c := j) (D := D)
  have oh := highA_snoc (W := W) (b := b) (x := l) (c := j) (D := D)
  refine L_body 55 Try.func51 rfl rfl ?_
  refine L_regY mixed [0, 1, 3, 4, 5, 6, 7, 8, 10, 11] (by kernel_rfl) (fun K hK => ?_)
  simp [okFn_low, d3]
  refine exX_mk (fun Q hQ => lweigh_q _ _ W l lo hi H hfin hWH hlH Q hQ) (.refl _) ?_
  simp [okFn_low, eb]
  refine exX_mk (fun Q hQ => apart_ac _ _ l b H Q (by omega) (by omega) hlH hbH hQ) (.refl _) ?_
  simp
  apply hK; clear hK K
  refine L_reg [0, 1, 4, 5, 6, 7, 8, 10, 11, 20] (fun K hK => ?_)
  simp [ej]
  apply hK; clear hK K
  refine L_condK [0, 1, 6, 7, 8, 10, 11] (fun e' H' => e' = [(0, v), (1, .ptr q 0 0), (6, .ptr (H0.length + 2) 0 0), (7, .ptr (H0.length + 1) 0 0), (8, .ptr H0.length 0 0), (10, .int .i64 (weighS W l)), (11, .int .i64 (lack l b).length)] ∧ H'.length = H.length ∧ (∀ x, x ≠ H0.length + 3 → x ≠ H0.length + 3 + 1 → H'[x]? = H[x]?) ∧
    ∃ t3 t4, H'[H0.length + 3]? = some (.row [.int .i64 (lowA W b j (D ++ [l]))] 0 t3 false) ∧ H'[H0.length + 3 + 1]? = some (.row [.int .i64 (highA W b j (D ++ [l]))] 0 t4 false)) (t := decide (((lack l b).length : Int) ≤ j)) (by simp) (fun ht => ?_) (fun ht => ?_) ?_
  · have hc : closeA b j l = true := ht
    rw [if_pos hc] at ow oh
    obtain ⟨G1, G2, x1, x2, y1, y2, y3, y4, y5⟩ := two_cellsK (a' := min (lowA W b j D) (weighS W l)) (b' := max (highA W b j D) (weighS W l)) c3 c4
    have e3 : ld H (H0.length + 3) 0 0 = some (.int .i64 (lowA W b j D)) := by rw [ld_row c3]; rfl
    have e4 : ld H (H0.length + 3 + 1) 0 0 = some (.int .i64 (highA W b j D)) := by rw [ld_row c4]; rfl
    refine L_regS mixed [H0.length + 3] [false, false, false, true, false, false, false] [0, 1, 6, 7, 8, 10, 11] (by kernel_rfl) (fun K hK => ?_)
    simp [e3, e4, x1, x2, y5, KeepS.refl]
    apply hK; clear hK K
    exact ⟨rfl, y3, y4, 0, 0, by rw [ow]; exact y1, by rw [oh]; exact y2⟩
  · have hc : ¬ closeA b j l = true := by unfold closeA; rw [ht]; decide
    rw [if_neg hc] at ow oh
    exact ⟨rfl, rfl, fun _ _ _ => rfl, s3, s4, by rw [ow]; exact c3, by rw [oh]; exact c4⟩
  rintro _ H1 ⟨rfl, hl1, hk1, t3, t4, m3, m4⟩
  have b0 := (hk1 H0.length (by omega) (by omega)).trans c0
  have b1 := (hk1 (H0.length + 1) (by omega) (by omega)).trans c1
  have b2 := (hk1 (H0.length + 2) (by omega) (by omega)).trans c2
  have hE1 : Ext H0 H1 := ⟨by omega, fun x hx => by rw [hk1 x (by omega) (by omega)]; exact hE.2 x hx⟩
  obtain ⟨-, d1, d2, -⟩ := (hR.ext hE1).lds
  have hO1 := ownF_ext (H1 := H1) hO (fun x hx o ho => by rw [hk1 x (by omega) (by omega)]; exact ho)
  have hB1 := ownF_ext (H1 := H1) hB (fun x hx o ho => by rw [hk1 x (by omega) (by omega)]; exact ho)
  have hfs : (D ++ [l]).filter (fitB W lo hi) = if fitB W lo hi l = true then D.filter (fitB W lo hi) ++ [l] else D.filter (fitB W lo hi) := by
    rw [List.filter_append]
    by_cases g : fitB W lo hi l = true <;> simp [g]
  clear c0 c1 c2 c3 c4 ow oh hk1 hO hB d3 hE
  by_cases hfit : fitB W lo hi l = true
  case neg =>
    rw [if_neg hfit] at hfs
    have hS' : Seen H0 W b lo hi j (D ++ [l]) H1 := ⟨by omega, hE1.2, vB, s0, s1, s2, t3, t4, b0, by rw [hfs]; exact b1, by rw [hfs]; exact b2, m3, m4, by rw [hfs]; exact hB1⟩
    simp only [fitB, Bool.and_eq_true, decide_eq_true_eq] at hfit
    by_cases g : weighS W l < lo
    · refine L_reg [0, 6, 7, 8, 11, 36] (fun K hK => ?_)
      simp [d1, pickV, g]
      apply hK; clear hK K
      refine L_true (by simp) ?_
      exact L_ret ⟨.inr rfl, _, rfl, h _ _ hS'⟩
    · refine L_reg [0, 6, 7, 8, 11, 36] (fun K hK => ?_)
      simp [d1, d2, pickV, g]
      apply hK; clear hK K
      refine L_true (by simp; omega) ?_
      exact L_ret ⟨.inr rfl, _, rfl, h _ _ hS'⟩
  rw [if_pos hfit] at hfs
  have hfit2 := hfit
  simp only [fitB, Bool.and_eq_true, decide_eq_true_eq] at hfit2
  refine L_reg [0, 6, 7, 8, 11, 36] (fun K hK => ?_)
  simp [d1, d2, pickV, show ¬ weighS W l < lo by omega]
  apply hK; clear hK K
  refine L_false (by simp; omega) ?_
  have hDl : (D.filter (fitB W lo hi)).length ≤ 100000 := hDn
  obtain ⟨H2, t2, st2, n2, hl2, hk2⟩ := st_cell sc3 (x := .int .i64 (((D.filter (fitB W lo hi)).length : Int) + 1)) (off := 0) b2 rfl rfl
  have e2 : ld H1 (H0.length + 2) 0 0 = some (.int .i64 (D.filter (fitB W lo hi)).length) := by rw [ld_row b2]; rfl
  refine L_reg [0, 7, 8, 11] (fun K hK => ?_)
  simp [e2, wrap_i64 (a := ((D.filter (fitB W lo hi)).length : Int) + 1) (by omega), st2]
  apply hK; clear hK K
  have b0 := (hk2 H0.length (by omega)).trans b0
  have b1 := (hk2 (H0.length + 1) (by omega)).trans b1
  have m3 := (hk2 (H0.length + 3) (by omega)).trans m3
  have m4 := (hk2 (H0.length + 3 + 1) (by omega)).trans m4
  have hE2 : Ext H0 H2 := ⟨by omega, fun x hx => by rw [hk2 x (by omega)]; exact hE1.2 x hx⟩
  have hO2 := ownF_ext (H1 := H2) hO1 (fun x hx o ho => by rw [hk2 x (by omega)]; exact ho)
  have hB2 := ownF_ext (H1 := H2) hB1 (fun x hx o ho => by rw [hk2 x (by omega)]; exact ho)
  have n2' : H2[H0.length + 2]? = some (.row [.int .i64 ((D ++ [l]).filter (fitB W lo hi)).length] 0 t2 false) := by rw [hfs, n2]; simp
  have e1 : ld H2 (H0.length + 1) 0 0 = some (.int .i64 (farA b (bestS b (D.filter (fitB W lo hi))))) := by rw [ld_row b1]; rfl
  have hvB : vB.one = true ∧ vB ≠ .undef := by
    obtain ⟨r', ver', rfl⟩ := hB2.len
    exact ⟨rfl, by simp⟩
  have hv1 : v.one = true := by
    obtain ⟨r', ver', rfl⟩ := hO2.len
    rfl
  have e0 : ld H2 H0.length 0 0 = some vB := by rw [ld_row b0]; exact known_ne hvB.2
  have hbs := best_snoc (b := b) (x := l) (l := D.filter (fitB W lo hi))
  rw [← hfs] at hbs
  clear hE1 hO1 hB1 hk2 d1 d2 b2 e2 st2
  refine L_reg [0, 7, 8, 11, 52] (fun K hK => ?_)
  -- it is better
  have better : bestS b ((D ++ [l]).filter (fitB W lo hi)) = some l → K [(0, v), (7, .ptr (H0.length + 1) 0 0), (8, .ptr H0.length 0 0), (11, .int .i64 (lack l b).length), (52, .bool true)] H2 := fun hbl2 => by
    apply hK; clear hK K
    refine L_true (by simp) ?_
    obtain ⟨H3, u0, st3, p0, hl3, hk3⟩ := st_cell sc22 (x := v) (off := 0) b0 hv1 (known_ne hvB.2)
    have b1 := (hk3 (H0.length + 1) (by omega)).trans b1
    obtain ⟨H4, u1, st4, p1, hl4, hk4⟩ := st_cell sc3 (x := .int .i64 ((lack l b).length : Int)) (off := 0) b1 rfl rfl
    refine L_reg [] (fun K hK => ?_)
    simp [st3, st4]
    apply hK; clear hK K
    have hk34 : ∀ x, x ≠ H0.length → x ≠ H0.length + 1 → H4[x]? = H2[x]? := fun x h1 h2 => by rw [hk4 x h2, hk3 x h1]
    refine ⟨.inl rfl, _, rfl, h _ _ ⟨by omega, fun x hx => by rw [hk34 x (by omega) (by omega)]; exact hE2.2 x hx, v, u0, u1, t2, t3, t4, (hk4 _ (by omega)).trans p0, by rw [hbl2]; exact p1, (hk34 _ (by omega) (by omega)).trans n2', (hk34 _ (by omega) (by omega)).trans m3, (hk34 _ (by omega) (by omega)).trans m4, ?_⟩⟩
    rw [hbl2]
    exact ownF_ext hO2 (fun x hx o ho => by rw [hk34 x (by omega) (by omega)]; exact ho)
  have worse : bestS b ((D ++ [l]).filter (fitB W lo hi)) = bestS b (D.filter (fitB W lo hi)) → K [(0, v), (7, .ptr (H0.length + 1) 0 0), (8, .ptr H0.length 0 0), (11, .int .i64 (lack l b).length), (52, .bool false)] H2 := fun hbl2 => by
    apply hK; clear hK
    refine L_false (by simp) ?_
    exact ⟨.inl rfl, _, rfl, h _ _ ⟨by omega, hE2.2, vB, s0, s1, t2, t3, t4, b0, by rw [hbl2]; exact b1, n2', m3, m4, by rw [hbl2]; exact hB2⟩⟩
  clear hK
  cases hbm : bestS b (D.filter (fitB W lo hi)) with
  | none =>
    rw [hbm] at hbs e1
    simp only [farA] at e1
    have hdl := (lack_most hl hb).1
    simp [okFn_low, e1, pickV, show ((lack l b).length : Int) < 100 by omega]
    exact better hbs
  | some m =>
    rw [hbm] at hbs e1 hB2 worse
    simp only [farA] at e1
    simp only [Option.getD_some] at hB2
    obtain ⟨om, olm⟩ := hD m (List.mem_filter.1 (bestS_mem hbm)).1
    have hnear := near_of hb hl om hlb olm
    have hbs : bestS b ((D ++ [l]).filter (fitB W lo hi)) = some (nearer b m l) := hbs
    unfold nearer at hbs
    by_cases g1 : (lack l b).length < (lack m b).length
    · rw [if_pos (hnear.2 (.inl g1))] at hbs
      simp [okFn_low, e1, pickV, g1]
      exact better hbs
    · by_cases g2 : (lack l b).length = (lack m b).length
      · simp [okFn_low, e1, e0, show (((lack l b).length : Int) == ((lack m b).length : Int)) = true by rw [beq_iff_eq]; omega, show ((lack l b).length < (lack m b).length) = False from eq_false g1]
        refine Compare_ac _ _ l m _ _ (by omega) (by omega) (ownF_ls hO2) (ownF_ls hB2) ?_
        simp [pickV]
        by_cases g3 : lexS l m < 0
        · rw [if_pos (hnear.2 (.inr ⟨g2, g3⟩))] at hbs
          simp [g3]
          exact better hbs
        · rw [if_neg fun h => by rcases hnear.1 h with h | ⟨-, h⟩; exact g1 h; exact g3 h] at hbs
          simp [g3]
          exact worse hbs
      · rw [if_neg fun h => by rcases hnear.1 h with h | ⟨h, -⟩; exact g1 h; exact g2 h] at hbs
        simp [e1, pickV, show (((lack l b).length : Int) == ((lack m b).length : Int)) = false by rw [beq_eq_false_iff_ne]; omega, show ((lack l b).length < (lack m b).length) = False from eq_false g1]
        exact worse hbs
end Go.Proofs.Ytmoifofihafgmaa

/- A recipe by numbers: its numbers. -/
namespace Go.Proofs.Ytmoifofihafgmaa
open Go Go.Proofs.Ytmoifofihafgmaa.AX

theorem mix_int (n : List Int) (e : n.length = 13) (b : ∀ (i : Nat) (k : IntKind) (x : Int), ([.u8, .u8, .u8, .u8, .u8, .u8, .u8, .u8, .u8, .u8, .u8, .u16, .u8] : List IntKind)[i]? = some k → n[i]? = some x → k.min ≤ x ∧ x ≤ k.max) :
    ∃ (lv : Nat) (ws : List Nat) (lo wd : Nat), List.zipWith AV.int [.u8, .u8, .u8, .u8, .u8, .u8, .u8, .u8, .u8, .u8, .u8, .u16, .u8] n = mixV lv ws lo wd ∧ lv < 256 ∧ lo < 65536 ∧ wd < 256 ∧ ws.length = 10 ∧ ∀ w ∈ ws, w < 256 := by
  match n, e, b with
  | [x0, x1, x2, x3, x4, x5, x6, x7, x8, x9, x10, x11, x12], _, b =>
    have h0 := b 0 .u8 x0 rfl rfl
    have h1 := b 1 .u8 x1 rfl rfl
    have h2 := b 2 .u8 x2 rfl rfl
    have h3 := b 3 .u8 x3 rfl rfl
    have h4 := b 4 .u8 x4 rfl rfl
    have h5 := b 5 .u8 x5 rfl rfl
    have h6 := b 6 .u8 x6 rfl rfl
    have h7 := b 7 .u8 x7 rfl rfl
    have h8 := b 8 .u8 x8 rfl rfl
    have h9 := b 9 .u8 x9 rfl rfl
    have h10 := b 10 .u8 x10 rfl rfl
    have h11 := b 11 .u16 x11 rfl rfl
    have h12 := b 12 .u8 x12 rfl rfl
    simp [IntKind.min, IntKind.max, IntKind.bits, IntKind.signed] at h0 h1 h2 h3 h4 h5 h6 h7 h8 h9 h10 h11 h12
    obtain ⟨y0, rfl⟩ : ∃ y : Nat, x0 = y := ⟨x0.toNat, by omega⟩
    obtain ⟨y1, rfl⟩ : ∃ y : Nat, x1 = y := ⟨x1.toNat, by omega⟩
    obtain ⟨y2, rfl⟩ : ∃ y : Nat, x2 = y := ⟨x2.toNat, by omega⟩
    obtain ⟨y3, rfl⟩ : ∃ y : Nat, x3 = y := ⟨x3.toNat, by omega⟩
    obtain ⟨y4, rfl⟩ : ∃ y : Nat, x4 = y := ⟨x4.toNat, by omega⟩
    obtain ⟨y5, rfl⟩ : ∃ y : Nat, x5 = y := ⟨x5.toNat, by omega⟩
    obtain ⟨y6, rfl⟩ : ∃ y : Nat, x6 = y := ⟨x6.toNat, by omega⟩
    obtain ⟨y7, rfl⟩ : ∃ y : Nat, x7 = y := ⟨x7.toNat, by omega⟩
    obtain ⟨y8, rfl⟩ : ∃ y : Nat, x8 = y := ⟨x8.toNat, by omega⟩
    obtain ⟨y9, rfl⟩ : ∃ y : Nat, x9 = y := ⟨x9.toNat, by omega⟩
    obtain ⟨y10, rfl⟩ : ∃ y : Nat, x10 = y := ⟨x10.toNat, by omega⟩
    obtain ⟨y11, rfl⟩ : ∃ y : Nat, x11 = y := ⟨x11.toNat, by omega⟩
    obtain ⟨y12, rfl⟩ : ∃ y : Nat, x12 = y := ⟨x12.toNat, by omega⟩
    refine ⟨y0, [y1, y2, y3, y4, y5, y6, y7, y8, y9, y10], y11, y12, rfl, by omega, by omega, by omega, rfl, ?_⟩
    intro w hw
    simp at hw
    omega
end Go.Proofs.Ytmoifofihafgmaa

/- BlendFound, walked. -/
namespace Go.Proofs.Ytmoifofihafgmaa
open Go Go.Proofs.Ytmoifofihafgmaa.AX

theorem bls_some {n k s : Nat} (hn : n ≤ 10) (hs : s ≤ 2 ^ n) : (∀ x ∈ blsS n k s, Okb n x ∧ x.length = k) ∧ (blsS n k s).length ≤ s := by
  unfold blsS
  refine ⟨fun x hx => ?_, by rw [List.length_map]; exact Nat.le_trans (List.length_filter_le _ _) (by simp)⟩
  obtain ⟨t, ht, rfl⟩ := List.mem_map.1 hx
  obtain ⟨h1, h2⟩ := List.mem_filter.1 ht
  have h1 := List.mem_range.1 h1
  exact ⟨heldS_okb n t, by rw [← held_ten hn (by omega)]; simpa using h2⟩
theorem st2_a (H : AH) (x : Int) : storeV Try.prog 3 (H ++ [.row [.int .i64 0] 0 0 false, .row [.int .i64 0] 0 0 false]) (.ptr H.length 0 0) (.int .i64 x) = some (none, H ++ [.row [.int .i64 x] 0 0 false, .row [.int .i64 0] 0 0 false]) := by
  rw [store_row (c := [.int .i64 0]) (y := .int .i64 0) (s := 0) sc3 rfl (by simp) rfl]; simp
theorem st2_b (H : AH) (x y : Int) : storeV Try.prog 3 (H ++ [.row [.int .i64 x] 0 0 false, .row [.int .i64 0] 0 0 false]) (.ptr (H.length + 1) 0 0) (.int .i64 y) = some (none, H ++ [.row [.int .i64 x] 0 0 false, .row [.int .i64 y] 0 0 false]) := by
  rw [store_row (c := [.int .i64 0]) (y := .int .i64 0) (s := 0) sc3 rfl (by simp) rfl]; simp
set_option maxHeartbeats 3200000 in
set_option maxRecDepth 100000 in
theorem blendFound_ac (lv lo wd sz nu : Nat) (ws bs : List Nat) (h1 : lv < 256) (h2 : lo < 65536) (h3 : wd < 256) (h4 : sz < 256) (h5 : nu < 256) (hl : ws.length = 10) (hb : ∀ w ∈ ws, w < 256) (hl2 : bs.length = 10) (hb2 : ∀ w ∈ bs, w < 256) (H : AH) :
    AC Try.prog 10 [.agg (mixV lv ws lo wd), .int .u8 sz, .agg (u8s bs), .int .u8 nu] H fun u _ => u = .bool true := by
  refine L_body 146 Try.func10 rfl rfl ?_
  refine L_reg [1, 3, 4, 6] (fun K hK => ?_)
  simp [AV.isU, acells]
  apply hK; clear hK K
  have r0 : (H ++ [AObj.row (mixV lv ws lo wd) 0 0 false, .row (u8s bs) 0 0 false])[H.length]? = some (.row (mixV lv ws lo wd) 0 0 false) := by simp
  have r1 : (H ++ [AObj.row (mixV lv ws lo wd) 0 0 false, .row (u8s bs) 0 0 false])[H.length + 1]? = some (.row (u8s bs) 0 0 false) := by simp
  generalize H ++ [AObj.row (mixV lv ws lo wd) 0 0 false, .row (u8s bs) 0 0 false] = H1 at *
  generalize H.length = p at *
  have e0 := ldn_mix r0 hl
  have hmix := fun Q => mix_ac lv lo wd 9 ws H1 Q h1 h2 h3 hl hb (by omega) (by omega)
  have hlo : -5 ≤ mixLo lo ∧ mixLo lo ≤ 254 := by unfold mixLo; omega
  have hhi : mixLo lo ≤ mixHi lo wd ∧ mixHi lo wd ≤ 313 := by unfold mixHi; omega
  have hrec := rec_mix (lv := lv) (ws := ws) (most := 9) (by omega) (by omega) hl hhi.1
  generalize mixW lv ws 9 = W at *
  generalize mixLo lo = a at *
  generalize mixHi lo wd = b at *
  obtain ⟨hW1, hW10, hWw⟩ := rec_ok hrec
  obtain ⟨I, hI, hz⟩ := zeroT_some zt43
  refine L_reg [1, 3, 6, 9] (fun K hK => ?_)
  simp [okFn_low, e0]
  refine hmix _ (fun v H2 hv hE2 => ?_)
  obtain ⟨r, off, ver, z, full, rfl, -⟩ := id hv
  obtain ⟨H3, st3, hE3, hR, hl3⟩ := new_rec H2 r off W.length ver z full a b
  simp [hI, hz, st3]
  apply hK; clear hK K
  generalize H2.length = q at *
  have hv := hv.ext hE3
  have r1 := (hE2.trans hE3).row r1
  clear hE2 hE3 st3 e0 hmix r0 hl3 hI hz
  obtain ⟨d0, -, -, -⟩ := hR.lds
  refine L_reg [1, 3, 6, 9, 10] (fun K hK => ?_)
  simp [d0]
  apply hK; clear hK K
  have hk1 : ((sz : Int)).tmod ((W.length : Int) + 1) = ((sz % (W.length + 1) : Nat) : Int) := rem_nat sz (W.length + 1)
  have hk2 : sz % (W.length + 1) < W.length + 1 := Nat.mod_lt _ (by omega)
  generalize sz % (W.length + 1) = k at hk1 hk2
  refine L_reg [3, 6, 9, 10, 11] (fun K hK => ?_)
  simp [wrap_i64 (a := (sz : Int)) (by omega), wrap_i64 (a := (W.length : Int) + 1) (by omega), show ¬ ((W.length : Int) + 1 = 0) by omega, hk1]
  apply hK; clear hK K
  have e7 := ldn_u8s r1 hl2
  have oB := chosS_okb W.length k bs
  have lB := chosS_len (n := W.length) (k := k) (ns := bs) (by omega) (by omega)
  have cB := chosen_q W.length k bs H3 ⟨hW1, hW10⟩ (by omega) hl2 hb2
  generalize chosS W.length k bs = B at *
  obtain ⟨I, hI, hz⟩ := zeroT_some zt22
  obtain ⟨I3, hI3, hz3⟩ := zeroT_some zt3
  have hE4 := chE H3 B
  have hB := chL H3 B
  refine L_reg [3, 9, 10, 11, 12] (fun K hK => ?_)
  simp [okFn_low, e7]
  refine cB _ ?_
  generalize chV H3 B = vb at *
  generalize chH H3 B = H4 at *
  obtain ⟨rb0, offb, verb, zb, fullb, rfl, -⟩ := id hB
  simp [hI, hz, st22_last _ (.slice rb0 offb B.length verb zb fullb) rfl]
  apply hK; clear hK K cB
  have hv := hv.ext hE4
  have hR := hR.ext hE4
  clear r1 e7 hE4 d0
  have hE5 := Ext.push H4 [AObj.row [.slice rb0 offb B.length verb zb fullb] 0 0 false]
  have rb5 : (H4 ++ [AObj.row [.slice rb0 offb B.length verb zb fullb] 0 0 false])[H4.length]? = some (.row [.slice rb0 offb B.length verb zb fullb] 0 0 false) := by simp
  have hv := hv.ext hE5
  have hB := hB.ext hE5
  have hR := hR.ext hE5
  generalize H4 ++ [AObj.row [.slice rb0 offb B.length verb zb fullb] 0 0 false] = H5 at *
  generalize H4.length = qb at *
  have hj1 : ((nu : Int)).tmod 11 = ((nu % 11 : Nat) : Int) := rem_nat nu 11
  have hj2 : nu % 11 < 11 := Nat.mod_lt _ (by omega)
  generalize nu % 11 = j at hj1 hj2
  refine L_reg [9, 10, 11, 12, 13] (fun K hK => ?_)
  simp [wrap_i64 (a := (nu : Int)) (by omega), hj1, hI3, hz3, st_zero]
  apply hK; clear hK K
  have hE6 := Ext.push H5 [AObj.row [.int .i64 (j : Int)] 0 0 false]
  have rj : (H5 ++ [AObj.row [.int .i64 (j : Int)] 0 0 false])[H5.length]? = some (.row [.int .i64 (j : Int)] 0 0 false) := by simp
  have hv := hv.ext hE6
  have hB := hB.ext hE6
  have hR := hR.ext hE6
  have rb6 := hE6.row rb5
  generalize H5 ++ [AObj.row [.int .i64 (j : Int)] 0 0 false] = H0 at *
  generalize H5.length = qj at *
  clear hE5 hE6 rb5
  refine L_reg [9, 10, 11, 12, 13, 14] (fun K hK => ?_)
  simp [hI, hz]
  apply hK; clear hK K
  have c0 : (H0 ++ [AObj.row [.slice none 0 0 0 1 false] 0 0 false])[H0.length]? = some (.row [.slice none 0 0 0 1 false] 0 0 false) := by simp
  have E1 := Ext.push H0 [AObj.row [.slice none 0 0 0 1 false] 0 0 false]
  have hl1 : (H0 ++ [AObj.row [.slice none 0 0 0 1 false] 0 0 false]).length = H0.length + 1 := by simp
  generalize H0 ++ [AObj.row [.slice none 0 0 0 1 false] 0 0 false] = Ha at *
  refine L_reg [9, 10, 11, 12, 13, 14, 15, 16] (fun K hK => ?_)
  simp [hI3, hz3, st2_a, st2_b]
  apply hK; clear hK K
  have c1 : (Ha ++ [AObj.row [.int .i64 100] 0 0 false, .row [.int .i64 0] 0 0 false])[H0.length + 1]? = some (.row [.int .i64 100] 0 0 false) := by rw [← hl1]; simp
  have c2 : (Ha ++ [AObj.row [.int .i64 100] 0 0 false, .row [.int .i64 0] 0 0 false])[H0.length + 2]? = some (.row [.int .i64 0] 0 0 false) := by rw [show H0.length + 2 = Ha.length + 1 by omega]; simp
  have hla : (Ha ++ [AObj.row [.int .i64 100] 0 0 false, .row [.int .i64 0] 0 0 false]).length = H0.length + 3 := by simp; omega
  have E2 := Ext.push Ha [AObj.row [.int .i64 100] 0 0 false, .row [.int .i64 0] 0 0 false]
  have c0 := E2.row c0
  generalize hHb : Ha ++ [AObj.row [.int .i64 100] 0 0 false, .row [.int .i64 0] 0 0 false] = Hb at *
  refine L_reg [9, 10, 11, 12, 13, 14, 15, 16, 17, 18] (fun K hK => ?_)
  simp [hI3, hz3, st2_a, st2_b]
  apply hK; clear hK K
  have c3 : (Hb ++ [AObj.row [.int .i64 1000] 0 0 false, .row [.int .i64 (-1)] 0 0 false])[H0.length + 3]? = some (.row [.int .i64 1000] 0 0 false) := by rw [← hla]; simp
  have c4 : (Hb ++ [AObj.row [.int .i64 1000] 0 0 false, .row [.int .i64 (-1)] 0 0 false])[H0.length + 3 + 1]? = some (.row [.int .i64 (-1)] 0 0 false) := by rw [← hla]; simp
  have hlb : (Hb ++ [AObj.row [.int .i64 1000] 0 0 false, .row [.int .i64 (-1)] 0 0 false]).length = H0.length + 5 := by simp; omega
  have E3 := Ext.push Hb [AObj.row [.int .i64 1000] 0 0 false, .row [.int .i64 (-1)] 0 0 false]
  have c0 := E3.row c0
  have c1 := E3.row c1
  have c2 := E3.row c2
  have E := (E1.trans E2).trans E3
  generalize Hb ++ [AObj.row [.int .i64 1000] 0 0 false, .row [.int .i64 (-1)] 0 0 false] = Hc at *
  simp only [hl1, hla]
  clear E1 E2 E3 hHb
  have hS0 : Seen H0 W B a b j [] Hc := ⟨by omega, E.2, _, 0, 0, 0, 0, 0, c0, c1, c2, c3, c4, .nil _ _⟩
  clear c0 c1 c2 c3 c4 E hl1 hla hI hz hI3 hz3
  have hmemb := fun s hs => bls_some (n := W.length) (k := k) (s := s) hW10 hs
  have h2n : 2 ^ W.length ≤ 1024 := Nat.le_trans (Nat.pow_le_pow_right (by omega) hW10) (by decide)
  refine L_reg [9, 11, 12, 13, 14, 15, 16, 17, 18] (fun K hK => ?_)
  simp [okFn_low]
  refine blends_ac W.length k hW10 51 _ (fun D H' => Seen H0 W B a b j D H') Hc _ (okFn_low (by omega) (by omega)) (H0.length + 5) (fun D H' h => h.len) hS0 (fun D H1 H2 h hE => h.ext hE) (fun s v H1 hs hk hJ hO Q hQ => ?_) (fun Hd hJ => ?_)
  · obtain ⟨m1, m2⟩ := hmemb s (by omega)
    exact found1_ac H0 W B (heldS W.length s) a b j v _ _ q qb qj 0 0 _ H1 Q hrec oB (Nat.le_trans (List.length_filter_le _ _) (by omega)) (fun x hx => ⟨(m1 x hx).1, by rw [lB]; exact (m1 x hx).2⟩) (heldS_okb _ _) (by rw [← held_ten hW10 hs, hk, lB]) hv hR hB rb6 rj hJ hO hQ
  simp
  apply hK; clear hK K hS0 hmemb
  obtain ⟨f1, f2, f3, f4, f5, f6, f7, f8, f9⟩ := found_facts (j := (j : Int)) hrec oB (by omega)
  have hEd := hJ.ext0
  obtain ⟨hlend, -, vB, s0, s1, s2, s3, s4, c0, c1, c2, c3, c4, hOB⟩ := hJ
  rw [lB] at f1 f2 f4 f5 f7 f8 f9
  rw [f1] at c3
  rw [f2] at c4
  have hfit : fitsN W a b k = (((blsS W.length k (2 ^ W.length)).filter (fitB W a b)).length : Int) := f4.symm
  generalize (blsS W.length k (2 ^ W.length)).filter (fitB W a b) = F at *
  obtain ⟨RL, RH, hRS⟩ : ∃ RL RH, reachS W a b B j = (RL, RH) := ⟨_, _, rfl⟩
  rw [hRS] at c3 c4 f9
  simp only at c3 c4 f9
  clear f1 f2 f4
  have e0 : ld Hd H0.length 0 0 = some vB := by
    rw [ld_row c0]
    obtain ⟨r', ver', rfl⟩ := hOB.len
    rfl
  have e1 : ld Hd (H0.length + 1) 0 0 = some (.int .i64 (farA B (bestS B F))) := by rw [ld_row c1]; rfl
  have e2 : ld Hd (H0.length + 2) 0 0 = some (.int .i64 F.length) := by rw [ld_row c2]; rfl
  have e3 : ld Hd (H0.length + 3) 0 0 = some (.int .i64 RL) := by rw [ld_row c3]; rfl
  have e4 : ld Hd (H0.length + 3 + 1) 0 0 = some (.int .i64 RH) := by rw [ld_row c4]; rfl
  have hv := hv.ext hEd
  have hB := hB.ext hEd
  have hR := hR.ext hEd
  have rb := hEd.row rb6
  have rj := hEd.row rj
  have hLB := ownF_ls hOB
  clear c0 c1 c2 c3 c4 hOB rb6 hEd
  have eb : ld Hd qb 0 0 = some (.slice rb0 offb B.length verb zb fullb) := by rw [ld_row rb]; rfl
  have ej : ld Hd qj 0 0 = some (.int .i64 j) := by rw [ld_row rj]; rfl
  have hws : weightS W a b B = weighS W B := by unfold weightS; rw [if_pos f6]
  have hfine := fine_of hrec oB
  obtain ⟨-, d1, d2, d3⟩ := hR.lds
  refine L_reg [9, 11, 12, 13, 14, 15, 16, 17, 18, 19, 20] (fun K hK => ?_)
  simp [okFn_low, d3, eb]
  refine Weight_ac _ _ W B a b Hd _ (by omega) (by omega) hv hB (fun H6 E => ?_)
  simp [f6, hws]
  apply hK; clear hK K
  obtain ⟨-, -, -, g3⟩ := (hR.ext E).lds
  refine L_reg [9, 12, 13, 14, 15, 16, 17, 18, 19, 20, 21, 22] (fun K hK => ?_)
  simp [okFn_low, g3]
  refine Fits_ac _ W a b k H6 _ (by omega) (hv.ext E) (fun H7 E7 => ?_)
  simp [f5, hfit]
  apply hK; clear hK K
  have E := E.trans E7
  obtain ⟨-, -, -, g3⟩ := (hR.ext E).lds
  refine L_reg [9, 12, 13, 14, 15, 16, 17, 18, 19, 20, 21, 22, 23, 24] (fun K hK => ?_)
  simp [okFn_low, g3, E.ld eb]
  refine Nearest_ac _ _ W B a b H7 _ (by omega) (by omega) (hv.ext E) (hB.ext E) (fun u1 H8 hu1 E8 => ?_)
  simp
  apply hK; clear hK K
  have E := E.trans E8
  obtain ⟨-, -, -, g3⟩ := (hR.ext E).lds
  refine L_reg [9, 12, 13, 14, 15, 16, 17, 18, 19, 20, 21, 22, 23, 24, 25, 26, 27] (fun K hK => ?_)
  simp [okFn_low, g3, E.ld eb, E.ld ej]
  refine Reach_ac _ _ W B a b j H8 _ (by omega) (by omega) (hv.ext E) (hB.ext E) (fun H9 E9 => ?_)
  simp [f3, hRS]
  apply hK; clear hK K
  have E := E.trans E9
  have hu1 := hu1.ext E9
  have hv := hv.ext E
  have hB := hB.ext E
  have hLB := hLB.ext E
  obtain ⟨-, d1, d2, d3⟩ := (hR.ext E).lds
  have eb := E.ld eb
  have ej := E.ld ej
  have e0 := E.ld e0
  have e1 := E.ld e1
  have e2 := E.ld e2
  have e3 := E.ld e3
  have e4 := E.ld e4
  clear E g3 rb rj hR E7 E8 E9
  refine L_reg [9, 13, 14, 15, 16, 23, 24, 25, 26, 106] (fun K hK => ?_)
  simp [okFn_low, d3, eb]
  refine lweigh_q _ _ W B a b H9 hfine hv hB _ ?_
  simp [pickV, e2, e3, e4]
  apply hK; clear hK K
  refine L_false (by simp) ?_
  have hnl := nearS_len W a b B (by omega)
  rw [f7] at hu1 hnl
  rw [f8]
  by_cases hF : F = []
  · subst hF
    have hbn : bestS B [] = none := rfl
    rw [hbn] at hu1
    obtain ⟨r5, off5, ver5, z5, full5, rfl, -⟩ := id hu1
    refine L_reg [9, 13, 14, 15, 23, 24, 25, 26, 108] (fun K hK => ?_)
    simp [e2]
    apply hK; clear hK K
    refine L_true (by simp) ?_
    refine L_reg [8] (fun K hK => ?_)
    simp [okFn_low, pickV]
    refine works_ac _ _ ?_
    simp [pickV]
    apply hK; clear hK K
    exact L_ret ⟨.inr rfl, _, rfl, rfl⟩
  · obtain ⟨m, hm⟩ := best_some (b := B) hF
    obtain ⟨k1, k2⟩ := f9 m hm
    rw [hm] at hu1 hLB e1 hnl
    simp only [farA] at e1
    simp only [Option.getD_some] at hu1 hLB hnl
    rw [if_neg hF]
    have hFl : F.length ≠ 0 := fun e => hF (List.eq_nil_of_length_eq_zero e)
    refine L_reg [9, 13, 14, 15, 23, 24, 25, 26, 108] (fun K hK => ?_)
    simp [e2]
    apply hK; clear hK K
    refine L_false (by simp [hF]) ?_
    by_cases g : (j : Int) < (lack m B).length
    · refine L_reg [8] (fun K hK => ?_)
      simp [okFn_low, e0]
      refine same_ac _ _ m m H9 _ (by omega) hu1 hLB ?_
      simp [okFn_low, pickV, e1, ej, g]
      refine works_ac _ _ ?_
      simp [pickV]
      apply hK; clear hK K
      exact L_ret ⟨.inr rfl, _, rfl, rfl⟩
    · obtain ⟨k3, k4⟩ := k2 (by omega)
      refine L_reg [8] (fun K hK => ?_)
      simp [okFn_low, e0]
      refine same_ac _ _ m m H9 _ (by omega) hu1 hLB ?_
      simp [okFn_low, pickV, e1, ej, g, d1, d2, k3, k4]
      refine works_ac _ _ ?_
      simp [pickV]
      apply hK; clear hK K
      exact L_ret ⟨.inr rfl, _, rfl, rfl⟩
theorem blendFound_int (n0 : List Int) (e0 : n0.length = 13) (b0 : ∀ (i : Nat) (k : IntKind) (x : Int), ([.u8, .u8, .u8, .u8, .u8, .u8, .u8, .u8, .u8, .u8, .u8, .u16, .u8] : List IntKind)[i]? = some k → n0[i]? = some x → k.min ≤ x ∧ x ≤ k.max)
    (a1 : Int) (w1 : (Lit.int .u8 a1).wf = true) (m2 : List Int) (e2 : m2.length = 10) (b2 : ∀ x ∈ m2, IntKind.u8.min ≤ x ∧ x ≤ IntKind.u8.max) (a3 : Int) (w3 : (Lit.int .u8 a3).wf = true) (H : AH) :
    AC Try.prog 10 [.agg (List.zipWith AV.int [.u8, .u8, .u8, .u8, .u8, .u8, .u8, .u8, .u8, .u8, .u8, .u16, .u8] n0), .int .u8 a1, .agg (m2.map (.int .u8)), .int .u8 a3] H fun u _ => u = .bool true := by
  obtain ⟨lv, ws, lo, wd, e, h1, h2, h3, hl, hb⟩ := mix_int n0 e0 b0
  rw [e]
  obtain ⟨sz, rfl, hs⟩ := u8_of w1
  obtain ⟨nu, rfl, hu⟩ := u8_of w3
  obtain ⟨n1, rfl, c2⟩ := u8s_of b2
  simp only [List.length_map] at e2
  have := blendFound_ac lv lo wd sz nu ws n1 h1 h2 h3 hs hu hl hb e2 c2 H
  simpa [u8s, Function.comp_def] using this
end Go.Proofs.Ytmoifofihafgmaa
