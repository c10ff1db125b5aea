/- A blend by numbers. -/
import Derived.Test.YtpdcmdmhamnndaaExch
namespace Go.Proofs.Ytpdcmdmhamnndaa
open Go Go.Proofs.Ytpdcmdmhamnndaa.AX

theorem un22 : ∃ e ie, Try.prog.underlying 22 = some (.slice e) ∧ Try.prog.info? e = some ie ∧ ie.size = 1 := by
  have h := slz22
  unfold slSz at h
  split at h
  case h_2 => cases h
  rename_i e he
  cases hi : Try.prog.info? e with
  | none => rw [hi] at h; cases h
  | some ie => rw [hi] at h; exact ⟨e, ie, he, hi, Option.some.inj h⟩
theorem clip3 (r ver n : Nat) (i : Nat) (hi : i < n) : ∃ v, aSlice Try.prog 22 (.slice (some r) 0 n ver 1 false) (some (.int .i64 (i : Int))) (some (.int .i64 ((i : Int) + 1))) (some (.int .i64 (n : Int))) = some v := by
  obtain ⟨e, ie, h1, h2, h3⟩ := un22
  have hb : aBounds n (some (.int .i64 (i : Int))) (some (.int .i64 ((i : Int) + 1))) (some (.int .i64 (n : Int))) = some (i, i + 1, n) := by
    simp [aBounds, aBound, show (0 : Int) ≤ (i : Int) + 1 by omega, show (i : Int) + 1 ≤ (n : Int) by omega, show ((i : Int) + 1).toNat = i + 1 by omega]
  simp only [aSlice, h1, h2, h3, if_true, hb, Option.map_some]
  exact ⟨_, rfl⟩
theorem more (H : AH) (r ver n s : Nat) (cells : List AV) (hr : H[r]? = some (.row cells ver s false)) (hn : 0 < n) (hc : n ≤ cells.length) :
    aSlice Try.prog 22 (.slice (some r) 0 (n - 1) ver 1 false) (some (.int .i64 ((n - 1 : Nat) : Int))) (some (.int .i64 (n : Int))) none = none ∧
    sliceR Try.prog 22 H (.slice (some r) 0 (n - 1) ver 1 false) (some (.int .i64 ((n - 1 : Nat) : Int))) (some (.int .i64 (n : Int))) none = some (.slice (some r) (n - 1) 1 ver 1 false) := by
  obtain ⟨e, ie, h1, h2, h3⟩ := un22
  have hb : aBounds (n - 1) (some (.int .i64 ((n - 1 : Nat) : Int))) (some (.int .i64 (n : Int))) none = none := by
    have : ¬ ((n : Int) ≤ ((n - 1 : Nat) : Int)) := by omega
    simp [aBounds, aBound]
    omega
  have hb2 : aBounds ((cells.length - 0) / 1) (some (.int .i64 ((n - 1 : Nat) : Int))) (some (.int .i64 (n : Int))) none = some (n - 1, n, (cells.length - 0) / 1) := by
    have h4 : (n : Int) ≤ (cells.length : Int) := by omega
    have h5 : ((n - 1 : Nat) : Int) ≤ (n : Int) := by omega
    simp only [aBounds, aBound, Nat.sub_zero, Nat.div_one, Option.bind_some]
    rw [if_pos ⟨by omega, h4⟩, Option.bind_some, if_pos ⟨by omega, by rw [Int.toNat_natCast]; exact h5⟩, Option.bind_some, Int.toNat_natCast, Int.toNat_natCast]
  constructor
  · simp only [aSlice, h1, h2, h3, if_true, hb, Option.map_none]
  · simp only [sliceR, h1, h2, h3, hr]
    rw [if_pos ⟨trivial, trivial, by omega, rfl, trivial⟩, hb2]
    simp
    omega
set_option maxRecDepth 100000 in
theorem Delete_ac (r ver stale : Nat) (tl : List AV) (l : List Int) (i : Nat) (H : AH) (Q : AV → AH → Prop) (hi : i < l.length) (hl : l.length ≤ 1000000) (hr : H[r]? = some (.row (l.map (.int .i64) ++ tl) ver stale false)) (hone : ∀ x ∈ l.map (.int .i64) ++ tl, x.one = true)
    (h : ∀ H' s' tl', H'[r]? = some (.row ((l.eraseIdx i).map (.int .i64) ++ tl') ver s' false) → (∀ x ∈ (l.eraseIdx i).map (.int .i64) ++ tl', x.one = true) → H'.length = H.length → (∀ j, j ≠ r → H'[j]? = H[j]?) → Q (.slice (some r) 0 (l.length - 1) ver 1 false) H') :
    AC Try.prog 54 [.slice (some r) 0 l.length ver 1 false, .int .i64 i, .int .i64 ((i : Int) + 1)] H Q := by
  obtain ⟨u, hu⟩ := clip3 r ver l.length i hi
  refine L_body 33 Try.func54 rfl rfl ?_
  refine L_reg [0, 1, 2] (fun K hK => ?_)
  simp
  apply hK; clear hK K
  refine L_reg [0, 1, 2] (fun K hK => ?_)
  simp [hu]
  apply hK; clear hK K
  refine L_reg [0, 1, 2, 16] (fun K hK => ?_)
  simp
  apply hK; clear hK K
  refine L_dec ((i : Int) = (i : Int) + 1) (by simp; rfl) (fun he => by omega) (fun he => ?_)
  refine L_reg [0, 1, 2, 7] (fun K hK => ?_)
  simp
  apply hK; clear hK K
  have hil : i < (l.map (AV.int .i64)).length := by simpa using hi
  obtain ⟨s', happ⟩ := del_append (H := H) (t := 22) el22 hr hone hil (by simp; omega) false
  simp only [List.length_map] at happ
  refine L_regT mixed [0, 7] (by kernel_rfl) (fun K hK => ?_)
  have e1 : aSlice Try.prog 22 (.slice (some r) 0 l.length ver 1 false) none (some (.int .i64 (i : Int))) none = some (.slice (some r) 0 i ver 1 false) := by
    have := slice_hi slz22 (some r) 0 l.length ver false (k := .i64) (i := i) (by omega)
    simpa using this
  have e2 : aSlice Try.prog 22 (.slice (some r) 0 l.length ver 1 false) (some (.int .i64 ((i : Int) + 1))) none none = some (.slice (some r) (i + 1) (l.length - (i + 1)) ver 1 false) := by
    have := slice_lo slz22 (some r) 0 l.length ver false (k := .i64) (i := i + 1) (by omega)
    simpa using this
  simp [happ, e1, e2]
  apply hK; clear hK K
  have hrl : r < H.length := (List.getElem?_eq_some_iff.1 hr).1
  obtain ⟨H1, hH1⟩ : ∃ H1, H1 = H.set r (AObj.row ((l.map (AV.int .i64)).eraseIdx i ++ ((l.map (AV.int .i64)).drop (l.length - 1) ++ tl)) ver s' false) := ⟨_, rfl⟩
  have hr1 : H1[r]? = some (AObj.row ((l.map (AV.int .i64)).eraseIdx i ++ ((l.map (AV.int .i64)).drop (l.length - 1) ++ tl)) ver s' false) := by
    rw [hH1, List.getElem?_set]; simp [hrl]
  have hX1 : H1.length = H.length ∧ ∀ j, j ≠ r → H1[j]? = H[j]? := by
    rw [hH1]
    exact ⟨by simp, fun j hj => by rw [List.getElem?_set]; simp [Ne.symm hj]⟩
  obtain ⟨x, hx⟩ : ∃ x, (l.map (AV.int .i64)).drop (l.length - 1) = [x] := by
    have : ((l.map (AV.int .i64)).drop (l.length - 1)).length = 1 := by simp; omega
    exact List.length_eq_one_iff.1 this
  have hxo : x.one = true := hone x (List.mem_append_left _ (List.mem_of_mem_drop (i := l.length - 1) (by rw [hx]; simp)))
  rw [hx, List.singleton_append] at hr1
  rw [← hH1]
  clear happ hH1
  have hel : ((l.map (AV.int .i64)).eraseIdx i).length = l.length - 1 := by rw [List.length_eraseIdx]; simp [hi]
  obtain ⟨e3, e4⟩ := more H1 r ver l.length s' _ hr1 (by omega) (by simp [hel]; omega)
  have e5 := del_clear elz22 hr1 hxo rfl hel false
  refine L_reg [0] (fun K hK => ?_)
  simp [e3, e4, e5]
  apply hK; clear hK K
  refine L_reg [6] (fun K hK => ?_)
  simp
  apply hK; clear hK K
  refine L_ret ⟨.inr rfl, _, rfl, ?_⟩
  have e6 : (l.map (AV.int .i64)).eraseIdx i = (l.eraseIdx i).map (.int .i64) := by rw [List.eraseIdx_eq_take_drop_succ, List.eraseIdx_eq_take_drop_succ, List.map_append, List.map_take, List.map_drop]
  refine h _ (min s' (l.length - 1)) (.int .i64 0 :: tl) ?_ ?_ (by simp [hX1.1]) fun j hj => by rw [List.getElem?_set, ← hX1.2 j hj]; simp [Ne.symm hj]
  · rw [← e6, List.getElem?_set]
    simp [(List.getElem?_eq_some_iff.1 hr1).1]
  · intro y hy
    rcases List.mem_append.1 hy with hy | hy
    · obtain ⟨z, -, rfl⟩ := List.mem_map.1 hy; rfl
    · rcases List.mem_cons.1 hy with rfl | hy
      · rfl
      · exact hone y (List.mem_append_right _ hy)

theorem ag65 : aggSz Try.prog 65 = some 10 := by kernel_rfl
@[simp] theorem ld65 (H : AH) (r off ver : Nat) : loadV Try.prog 65 H (.ptr r off ver) = (ldn H r ver 10 off).map .agg := load_agg ag65 ..
@[simp] theorem ixa65 (r off ver : Nat) (k : IntKind) (i : Int) : aIndexAddr Try.prog 65 (.ptr r off ver) (.int k i) = if 0 ≤ i ∧ i < (10 : Nat) then some (.ptr r (off + i.toNat * 1) ver) else none := ixa_ar (by kernel_rfl) ..
@[simp] theorem cv53 (k : IntKind) (n : Int) : aConv Try.prog 5 3 (.int k n) = some (.int .i64 (IntKind.i64.wrap n)) := cv_int (by kernel_rfl) (by kernel_rfl) n
theorem rem_nat (a b : Nat) : ((a : Int)).tmod (b : Int) = ((a % b : Nat) : Int) := by
  rw [Int.tmod_eq_emod_of_nonneg (Int.natCast_nonneg _)]; simp
theorem ownF_ext {N : Nat} {H H1 : AH} {v : AV} {l : List AV} (h : OwnF N H v l) (hE : ∀ j, N ≤ j → ∀ o, H[j]? = some o → H1[j]? = some o) : OwnF N H1 v l := by
  rcases h with h | ⟨r, ver, stale, h1, h2, h3⟩
  · exact .inl h
  · exact .inr ⟨r, ver, stale, h1, h2, hE r h1 _ h3⟩
theorem ext_take (H : AH) (N : Nat) (hN : N ≤ H.length) : ∃ H0 : AH, H0.length = N ∧ Ext H0 H :=
  ⟨H.take N, by simp [hN], by simp; omega, fun j hj => by rw [List.getElem?_take, if_pos (by simp at hj; omega)]⟩
def u8s (ns : List Nat) : List AV := ns.map fun n : Nat => .int .u8 (n : Int)
def dealS : List Int → List Nat → List Int
  | _, [] => []
  | left, k :: ks => left[k % left.length]?.getD 0 :: dealS (left.eraseIdx (k % left.length)) ks

theorem dealS_len : ∀ {left : List Int} {ks : List Nat}, (dealS left ks).length = ks.length
  | _, [] => rfl
  | _, _ :: ks => by simp [dealS, dealS_len]
theorem eraseIdx_nodup {l : List Int} (h : l.Pairwise (· ≠ ·)) {d : Nat} (hd : d < l.length) : (l.eraseIdx d).Pairwise (· ≠ ·) ∧ l[d] ∉ l.eraseIdx d := by
  have e : l = l.take d ++ l[d] :: l.drop (d + 1) := by rw [← List.drop_eq_getElem_cons hd, List.take_append_drop]
  rw [List.eraseIdx_eq_take_drop_succ]
  generalize l[d] = x at *
  generalize l.take d = A at *
  generalize l.drop (d + 1) = B at *
  rw [e] at h
  obtain ⟨h1, h2, h3⟩ := List.pairwise_append.1 h
  obtain ⟨h4, h5⟩ := List.pairwise_cons.1 h2
  refine ⟨List.pairwise_append.2 ⟨h1, h5, fun a ha b hb => h3 a ha b (List.mem_cons_of_mem _ hb)⟩, ?_⟩
  intro hx
  rcases List.mem_append.1 hx with hx | hx
  · exact h3 x hx x List.mem_cons_self rfl
  · exact h4 x hx rfl
theorem dealS_ok : ∀ {left : List Int} {ks : List Nat}, left.Pairwise (· ≠ ·) → ks.length ≤ left.length → (dealS left ks).Pairwise (· ≠ ·) ∧ ∀ x ∈ dealS left ks, x ∈ left
  | left, [], _, _ => ⟨.nil, by simp [dealS]⟩
  | left, k :: ks, h, hl => by
    simp only [List.length_cons] at hl
    have hd : k % left.length < left.length := Nat.mod_lt _ (by omega)
    simp only [dealS]
    generalize k % left.length = d at hd
    obtain ⟨h1, h2⟩ := eraseIdx_nodup h hd
    have hel : (left.eraseIdx d).length = left.length - 1 := by rw [List.length_eraseIdx, if_pos hd]
    obtain ⟨h3, h4⟩ := dealS_ok (ks := ks) h1 (by omega)
    rw [List.getElem?_eq_getElem hd, Option.getD_some]
    refine ⟨List.pairwise_cons.2 ⟨fun x hx e => h2 (by rw [e]; exact h4 x hx), h3⟩, fun x hx => ?_⟩
    rcases List.mem_cons.1 hx with rfl | hx
    · exact List.getElem_mem hd
    · exact List.mem_of_mem_eraseIdx (h4 x hx)
/-- The leaves that are chosen, in order. -/
def chosS (n k : Nat) (ns : List Nat) : List Int := (iota n).filter fun x => decide (x ∈ dealS (iota n) (ns.take k))
theorem iota_nd (n : Nat) : (iota n).Pairwise (· ≠ ·) := (okb_iota n).2.imp (by omega)
theorem chosS_perm {n k : Nat} {ns : List Nat} (hk : k ≤ n) : (chosS n k ns).Perm (dealS (iota n) (ns.take k)) := by
  obtain ⟨h1, h2⟩ := dealS_ok (ks := ns.take k) (iota_nd n) (by simp; omega)
  refine (List.perm_ext_iff_of_nodup ((iota_nd n).sublist List.filter_sublist) h1).2 fun x => ?_
  simp only [chosS, List.mem_filter, decide_eq_true_eq]
  exact ⟨fun h => h.2, fun h => ⟨h2 x h, h⟩⟩
theorem chosS_okb (n k : Nat) (ns : List Nat) : Okb n (chosS n k ns) := by
  obtain ⟨h1, h2⟩ := okb_iota n
  exact ⟨fun x hx => h1 x (List.mem_filter.1 hx).1, h2.sublist List.filter_sublist⟩
theorem chosS_len {n k : Nat} {ns : List Nat} (hk : k ≤ n) (hns : k ≤ ns.length) : (chosS n k ns).length = k := by
  rw [(chosS_perm hk).length_eq, dealS_len, List.length_take]; omega
theorem sort_chos {n k : Nat} {ns : List Nat} (hk : k ≤ n) {m : List Int} (hp : m.Perm (dealS (iota n) (ns.take k))) (hs : m.Pairwise (· ≤ ·)) : m = chosS n k ns := by
  have hp2 := hp.trans (chosS_perm hk).symm
  have hnd : m.Pairwise (· ≠ ·) := (hp2.pairwise_iff (fun h => Ne.symm h)).2 ((chosS_okb n k ns).2.imp (by omega))
  exact sorted_ext ((hs.and hnd).imp (fun h => by omega)) (chosS_okb n k ns).2 fun x => hp2.mem_iff
/-- The same, and nil where it is empty. -/
def OwnN (N : Nat) (H : AH) (v : AV) (l : List Int) : Prop := (l = [] → v = .slice none 0 0 0 1 false) ∧ OwnF N H v (l.map (.int .i64))
def chV (H : AH) (l : List Int) : AV := if l = [] then .slice none 0 0 0 1 false else .slice (some H.length) 0 l.length 0 1 false
def chH (H : AH) (l : List Int) : AH := if l = [] then H else H ++ [.row (l.map (.int .i64)) 0 l.length false]
theorem chE (H : AH) (l : List Int) : Ext H (chH H l) := by
  unfold chH; split
  · exact .refl H
  · exact .push _ _
theorem chL (H : AH) (l : List Int) : Ls (chH H l) (chV H l) l := by
  unfold chH chV; split
  · rename_i h; subst h; exact ⟨none, 0, 0, 1, false, rfl, fun i hi => by simp at hi⟩
  · exact Ls.row (s := l.length) (ro := false) (by simp) false
theorem AC.tidyN {f : FuncId} {args : List AV} {l : List Int} {H : AH} (h : ∀ Q : AV → AH → Prop, (∀ v' H', OwnN H.length H' v' l → Ext H H' → Q v' H') → AC Try.prog f args H Q) (Q : AV → AH → Prop) (hq : Q (chV H l) (chH H l)) : AC Try.prog f args H Q := by
  by_cases hl : l = []
  · subst hl
    refine AC.quiet (v := .slice none 0 0 0 1 false) rfl (fun Q h2 => h Q fun v' H' hO hE => ?_) Q (by simpa [chV, chH] using hq)
    rw [hO.1 rfl]; exact h2 H' hE
  · refine AC.tidy (l := l.map (.int .i64)) (by simpa using hl) (belB_ints _ _) (fun Q h2 => h Q fun v' H' hO hE => h2 v' H' hO.2 hE) Q ?_
    simpa [chV, chH, hl] using hq
theorem sort_nil : callN (runZ cx 300) 56 [.slice none 0 0 0 1 false] [] = some (.tuple [], []) := by kernel_rfl
set_option maxRecDepth 100000 in
theorem chosen_ac (n kk : Nat) (ns : List Nat) (H : AH) (Q : AV → AH → Prop) (hn : 1 ≤ n ∧ n ≤ 10) (hkk : kk ≤ n) (hns : ns.length = 10) (hb : ∀ x ∈ ns, x < 256)
    (h : ∀ v' H', OwnN H.length H' v' (chosS n kk ns) → Ext H H' → Q v' H') : AC Try.prog 47 [.agg (u8s ns), .int .i64 n, .int .i64 kk] H Q := by
  refine L_body 48 Try.func47 rfl rfl ?_
  refine L_reg [1, 2, 3] (fun K hK => ?_)
  simp [AV.isU, acells]
  apply hK; clear hK K
  have hE1 : Ext H (H ++ [AObj.row (u8s ns) 0 0 false]) := .push _ _
  have hb1 : (H ++ [AObj.row (u8s ns) 0 0 false])[H.length]? = some (.row (u8s ns) 0 0 false) := by simp
  have hbl : H.length < (H ++ [AObj.row (u8s ns) 0 0 false]).length := by simp
  generalize H ++ [AObj.row (u8s ns) 0 0 false] = H1 at hE1 hb1 hbl ⊢
  generalize hb0 : H.length = b at hb1 hbl h ⊢
  refine L_reg [1, 2, 3, 7, 8] (fun K hK => ?_)
  simp
  apply hK; clear hK K
  refine L_reg [2, 3, 7, 8, 12, 13] (fun K hK => ?_)
  simp
  apply hK; clear hK K
  refine L_block (L_loopV [7, 13] (fun k vs H' => ∃ (i : Nat) (u : AV), k = n - i ∧ i ≤ n ∧ vs = [u, .int .i64 i] ∧ Ext H1 H' ∧ OwnF H1.length H' u ((iota i).map (.int .i64))) _ [.slice none 0 0 0 1 false, .int .i64 (0 : Nat)] rfl
    ⟨0, _, rfl, by omega, rfl, .refl _, OwnF.nil _ _⟩ ?_)
  rintro k _ H2 ⟨i, u, rfl, hi, rfl, hE2, hO⟩
  refine L_reg [2, 3, 7, 8, 12, 13, 14] (fun K hK => ?_)
  simp
  apply hK; clear hK K
  refine L_dec (i < n) (by simp) (fun hlt => ?_) (fun hge => L_exit ?_)
  · refine L_block ?_
    refine L_reg [2, 3, 7, 8, 9, 12, 13] (fun K hK => ?_)
    simp
    apply hK; clear hK K
    obtain ⟨u', H3, happ, hO3, hE3⟩ := ownF_append (P := Try.prog) hE2 el22 el22 (x := .int .i64 i) (m := 1) hO rfl (by simp; omega)
    refine L_reg [2, 3, 7, 8, 12, 13] (fun K hK => ?_)
    simp [happ]
    apply hK; clear hK K
    refine L_reg [2, 3, 7, 8, 12, 13] (fun K hK => ?_)
    simp [wrap_i64 (a := (i : Int) + 1) (by omega)]
    apply hK; clear hK K
    refine ⟨n - (i + 1), [u', .int .i64 (i + 1 : Nat)], by omega, by simp, i + 1, u', rfl, by omega, rfl, hE3, ?_⟩
    rw [iota_succ]
    simpa using hO3
  · have : i = n := by omega
    subst this
    obtain ⟨r, ver, s, hr1, rfl, hr2⟩ : ∃ r ver s, H1.length ≤ r ∧ u = .slice (some r) 0 i ver 1 false ∧ H2[r]? = some (.row ((iota i).map (.int .i64)) ver s false) := by
      rcases hO with ⟨h0, -⟩ | ⟨r, ver, s, g1, g2, g3⟩
      · have := congrArg List.length h0
        simp at this; omega
      · exact ⟨r, ver, s, g1, by simpa using g2, g3⟩
    have hrl : r < H2.length := (List.getElem?_eq_some_iff.1 hr2).1
    refine L_reg [3, 7, 8, 21, 22] (fun K hK => ?_)
    simp
    apply hK; clear hK K
    refine L_block (L_loopV [7, 8, 22] (fun k vs H' => ∃ (j m : Nat) (o : AV) (left out : List Int) (s : Nat) (tl : List AV), k = kk - j ∧ j ≤ kk ∧ i = j + m ∧ vs = [.slice (some r) 0 m ver 1 false, o, .int .i64 j] ∧ left.length = m ∧ out.length = j ∧ out ++ dealS left ((ns.take kk).drop j) = dealS (iota i) (ns.take kk) ∧
        H'[r]? = some (.row (left.map (.int .i64) ++ tl) ver s false) ∧ (∀ x ∈ left.map (.int .i64) ++ tl, x.one = true) ∧ OwnF H2.length H' o (out.map (.int .i64)) ∧ Ext H1 H' ∧ H2.length ≤ H'.length ∧ (j = 0 → o = .slice none 0 0 0 1 false)) _ [.slice (some r) 0 i ver 1 false, .slice none 0 0 0 1 false, .int .i64 (0 : Nat)] rfl
      ⟨0, i, _, iota i, [], s, [], rfl, by omega, by omega, rfl, by simp, rfl, by simp, by simpa using hr2, by simp [iota, AV.one], OwnF.nil _ _, hE2, Nat.le_refl _, fun _ => rfl⟩ ?_)
    rintro _ _ H3 ⟨j, m, o, left, out, s3, tl, rfl, hjk, hjm, rfl, hll, hol, hD, hr3, hone, hO3, hE3, hN3, hoz⟩
    refine L_reg [3, 7, 8, 21, 22, 23] (fun K hK => ?_)
    simp
    apply hK; clear hK K
    refine L_dec (j < kk) (by simp) (fun hlt => ?_) (fun hge => L_exit ?_)
    · have hm0 : m ≠ 0 := by omega
      have hjn : j < ns.length := by omega
      have hbj := hb _ (List.getElem_mem hjn)
      have hld : ld H3 b j 0 = some (.int .u8 (ns[j] : Nat)) := by
        rw [ld_row (hE3.row hb1)]
        simp [u8s, hjn]
      have hdr : (ns.take kk).drop j = ns[j] :: (ns.take kk).drop (j + 1) := by
        rw [List.drop_eq_getElem_cons (by simp; omega)]; simp
      rw [hdr] at hD
      simp only [dealS, hll] at hD
      generalize ns[j] = x at hbj hld hD
      have hr := rem_nat x m
      have hdm : x % m < m := Nat.mod_lt _ (by omega)
      generalize x % m = d at hr hdm hD
      have hdl : d < left.length := by omega
      rw [List.getElem?_eq_getElem hdl, Option.getD_some] at hD
      have hld2 : ld H3 r d ver = some (.int .i64 left[d]) := by
        rw [ld_row hr3, List.getElem?_append_left (by simpa using hdl)]
        simp [hdl]
      generalize left[d] = y at hD hld2
      refine L_block ?_
      refine L_reg [3, 7, 8, 10, 21, 22] (fun K hK => ?_)
      simp
      apply hK; clear hK K
      refine L_reg [3, 7, 8, 11, 21, 22] (fun K hK => ?_)
      simp [show (j : Int) < 10 by omega, hld, wrap_i64 (a := (x : Int)) (by omega), hm0, hr]
      apply hK; clear hK K
      obtain ⟨H0, hH0, hT⟩ := ext_take H3 H2.length hN3
      rw [← hH0] at hO3
      obtain ⟨o', H4, happ, hO4, hE4⟩ := ownF_append (P := Try.prog) hT el22 el22 (x := .int .i64 y) (m := 1) hO3 rfl (by simp; omega)
      rw [hH0] at hO4
      have hk4 : ∀ j, j < H2.length → H4[j]? = H3[j]? := fun j hj => by rw [hE4.2 j (by omega), hT.2 j (by omega)]
      have hN4 : H2.length ≤ H4.length := by have := hE4.1; omega
      refine L_reg [3, 7, 8, 11, 21, 22] (fun K hK => ?_)
      simp [hdm, hld2, happ]
      apply hK; clear hK K
      rw [← hk4 r hrl] at hr3
      refine L_reg [3, 7, 8, 21, 22] (fun K hK => ?_)
      subst hll
      simp [wrap_i64 (a := (d : Int) + 1) (by omega), okFn_low]
      refine Delete_ac r ver s3 tl left d H4 _ hdl (by omega) hr3 hone (fun H5 s5 tl5 hr5 hone5 hl5 hk5 => ?_)
      simp
      apply hK; clear hK K
      have hH21 := hE2.1
      refine L_reg [3, 7, 8, 21, 22] (fun K hK => ?_)
      simp [wrap_i64 (a := (j : Int) + 1) (by omega)]
      apply hK; clear hK K
      refine ⟨kk - (j + 1), [.slice (some r) 0 (left.length - 1) ver 1 false, o', .int .i64 (j + 1 : Nat)], by omega, by simp, j + 1, left.length - 1, o', left.eraseIdx d, out ++ [y], s5, tl5, rfl, by omega, by omega, rfl, by rw [List.length_eraseIdx, if_pos hdl], by simp [hol], ?_, hr5, hone5, ?_, ?_, by omega, fun h => by omega⟩
      · rw [← hD]; simp
      · have := ownF_ext (H1 := H5) hO4 (fun q hq o ho => by rw [hk5 q (by omega)]; exact ho)
        simpa using this
      · refine ⟨by omega, fun q hq => ?_⟩
        rw [hk5 q (by omega), hk4 q (by omega), hE3.2 q hq]
    · obtain rfl : j = kk := by omega
      have hdr : (ns.take j).drop j = [] := by apply List.drop_eq_nil_of_le; simp; omega
      rw [hdr] at hD
      simp only [dealS, List.append_nil] at hD
      have hle2 := hE2.1
      have hE13 := hE1.trans hE3
      rcases hO3 with ⟨h0, rfl⟩ | ⟨q, vq, sq, q1, rfl, q3⟩
      · have h00 : out = [] := by simpa using h0
        have hc : chosS i j ns = [] := by
          have := chosS_len (ns := ns) hkk (by omega)
          have hj0 : j = 0 := by rw [← hol, h00]; rfl
          exact List.eq_nil_of_length_eq_zero (this.trans hj0)
        refine L_reg [8] (fun K hK => ?_)
        simp [okFn_low]
        refine AC_kernZ cx_ok 300 sort_nil (.cons (by exact Bel.nilslice ..) .nil) (.tuple .nil) ?_
        simp
        apply hK; clear hK K
        refine L_reg [6] (fun K hK => ?_)
        simp
        apply hK; clear hK K
        exact L_ret ⟨.inr rfl, _, rfl, h _ _ (by rw [hc]; exact ⟨fun _ => rfl, .nil _ _⟩) hE13⟩
      · have hsort := Sort_ac q vq sq out H3
        refine L_reg [8] (fun K hK => ?_)
        simp [okFn_low]
        refine hsort _ q3 (by omega) (fun H4 m' s4 p1 p2 p3 p4 => ?_)
        simp
        apply hK; clear hK K
        refine L_reg [6] (fun K hK => ?_)
        simp
        apply hK; clear hK K
        rw [hD] at p1
        have hm := sort_chos hkk p1 p2
        have hml : m'.length = out.length := by rw [p1.length_eq, ← hD]
        have hle13 := hE13.1
        have hj0 : j ≠ 0 := fun e => by have := hoz e; cases this
        refine L_ret ⟨.inr rfl, _, rfl, h _ _ ⟨fun e => absurd (by rw [← hol, ← hml, hm, e]; rfl) hj0, .inr ⟨q, vq, s4, by omega, by rw [← hm]; simp [hml], by rw [← hm]; exact p3⟩⟩ ⟨Nat.le_trans hE13.1 p4.1, fun j hj => ?_⟩⟩
        rw [p4.2 j (by omega) (by omega)]; exact hE13.2 j hj
theorem chosen_q (n kk : Nat) (ns : List Nat) (H : AH) (hn : 1 ≤ n ∧ n ≤ 10) (hkk : kk ≤ n) (hns : ns.length = 10) (hb : ∀ x ∈ ns, x < 256) (Q : AV → AH → Prop) (hq : Q (chV H (chosS n kk ns)) (chH H (chosS n kk ns))) : AC Try.prog 47 [.agg (u8s ns), .int .i64 n, .int .i64 kk] H Q :=
  AC.tidyN (fun Q h => chosen_ac n kk ns H Q hn hkk hns hb h) Q hq
end Go.Proofs.Ytpdcmdmhamnndaa
