/- The examples that each law ends with. -/
import Derived.Test.YtjfmiohgkcjdnaaCd
namespace Go.Proofs.Ytjfmiohgkcjdnaa
open Go Go.Proofs.Ytjfmiohgkcjdnaa.AX

def gapsS (m s t : Nat) : List Int := gapL m ((roundS m s t).map (markN m s))
theorem roundS_len {m s t : Nat} (hm : 0 < m) (ht : t ≤ per m s) : (roundS m s t).length = t := by
  have hmem : ∀ z, z ∈ (roundS m s t).map Int.toNat ↔ z ∈ List.range t := by
    intro z
    simp only [List.mem_map, mem_roundS hm ht, List.mem_range]
    constructor
    · rintro ⟨x, ⟨k, hk, rfl⟩, rfl⟩; simpa using hk
    · intro hz; exact ⟨z, ⟨z, hz, rfl⟩, by simp⟩
  have hnd : ((roundS m s t).map Int.toNat).Nodup := by
    have h1 := round_sorted m s t
    rw [List.pairwise_map] at h1
    have h2 : (roundS m s t).Pairwise fun a b => a.toNat ≠ b.toNat := h1.imp fun h e => by unfold markN at h; rw [e] at h; omega
    exact List.Pairwise.map _ (fun a b h => h) h2
  have hp := (List.perm_ext_iff_of_nodup hnd List.nodup_range).2 hmem
  have := hp.length_eq
  simpa using this
theorem gapsS_len {m s t : Nat} (hm : 0 < m) (ht : t ≤ per m s) : (gapsS m s t).length = t := by
  unfold gapsS; rw [gapL_len]; simp [roundS_len hm ht]
theorem gaps_ac (m s t : Nat) (h1 : 1 ≤ m) (h2 : m ≤ 100) (h3 : s < m) (h5 : t ≤ per m s) (H : AH) (Q : AV → AH → Prop) (h : ∀ v H', OwnF H.length H' v ((gapsS m s t).map (.int .i64)) → Ext H H' → Q v H') : AC Try.prog 73 [WV m s t] H Q :=
  gaps_ac0 m s t (roundS m s t) h1 h2 h3 h5 (roundOk m s t h1 h2 h3 h5) (fun x hx => by
    obtain ⟨k, hk, rfl⟩ := (mem_roundS (by omega) h5).1 hx
    omega) (by rw [roundS_len (by omega) h5]; have := per_le m s; omega) H Q h
theorem gaps_x (m s t : Nat) (h1 : 1 ≤ m) (h2 : m ≤ 100) (h3 : s < m) (h4 : 1 ≤ t) (h5 : t ≤ per m s) (H : AH) (Q : AV → AH → Prop) (h : Q (.slice (some H.length) 0 t 0 1 false) (H ++ [.row ((gapsS m s t).map (.int .i64)) 0 t false])) : AC Try.prog 73 [WV m s t] H Q := by
  have hl := gapsS_len (m := m) (s := s) (by omega) h5
  refine AC.tidy (l := (gapsS m s t).map (.int .i64)) (by intro e; have := congrArg List.length e; simp [hl] at this; omega) (belB_ints _ _) (fun Q h => gaps_ac m s t h1 h2 h3 h5 H Q h) Q ?_
  simpa [hl] using h
def okW (m s t : Nat) : Bool := Nat.ble 1 m && (Nat.ble m 100 && (Nat.blt s m && (Nat.ble 1 t && Nat.ble t (per m s))))
theorem okW_ok {m s t : Nat} (h : okW m s t = true) : 1 ≤ m ∧ m ≤ 100 ∧ s < m ∧ 1 ≤ t ∧ t ≤ per m s := by
  simp only [okW, Bool.and_eq_true, Nat.blt_eq] at h
  exact ⟨Nat.le_of_ble_eq_true h.1, Nat.le_of_ble_eq_true h.2.1, h.2.2.1, Nat.le_of_ble_eq_true h.2.2.2.1, Nat.le_of_ble_eq_true h.2.2.2.2⟩
/-- What is known of the two functions that the kernel does not run. -/
def extW (f : FuncId) (args : List AV) (H : AH) : Option (AV × AH) :=
  bif Nat.beq f 69 then
    match args with
    | [.agg [.int .i64 (.ofNat m), .int .i64 (.ofNat s), .int .i64 (.ofNat t)], .int .i64 (.ofNat k), .int .i64 to] => bif okW m s t && Nat.ble k t then some (.int .i64 (.ofNat (nbS m s t to m (k * s % m) k)), H) else none
    | _ => none
  else bif Nat.beq f 73 then
    match args with
    | [.agg [.int .i64 (.ofNat m), .int .i64 (.ofNat s), .int .i64 (.ofNat t)]] => bif okW m s t then some (.slice (some H.length) 0 t 0 1 false, H ++ [.row ((gapsS m s t).map (.int .i64)) 0 t false]) else none
    | _ => none
  else none
theorem extW_ok (f : FuncId) (args : List AV) (H : AH) (v : AV) (H' : AH) (h : extW f args H = some (v, H')) : AC Try.prog f args H fun u H2 => u = v ∧ H2 = H' := by
  unfold extW at h
  cases h1 : Nat.beq f 69 with
  | true =>
    have := Nat.eq_of_beq_eq_true h1
    subst this
    rw [h1] at h
    simp only [cond_true] at h
    split at h
    · rename_i m s t k to
      cases h2 : okW m s t && Nat.ble k t with
      | false => rw [h2] at h; cases h
      | true =>
        rw [h2] at h
        simp only [cond_true, Option.some.injEq, Prod.mk.injEq] at h
        obtain ⟨rfl, rfl⟩ := h
        simp only [Bool.and_eq_true] at h2
        obtain ⟨a1, a2, a3, a4, a5⟩ := okW_ok h2.1
        exact neigh_ac m s t k to a1 a2 a3 a4 a5 (Nat.le_of_ble_eq_true h2.2) _ _ ⟨rfl, rfl⟩
    · cases h
  | false =>
    rw [h1] at h
    simp only [cond_false] at h
    cases h3 : Nat.beq f 73 with
    | true =>
      have := Nat.eq_of_beq_eq_true h3
      subst this
      rw [h3] at h
      simp only [cond_true] at h
      split at h
      · rename_i m s t
        cases h2 : okW m s t with
        | false => rw [h2] at h; cases h
        | true =>
          rw [h2] at h
          simp only [cond_true, Option.some.injEq, Prod.mk.injEq] at h
          obtain ⟨rfl, rfl⟩ := h
          obtain ⟨a1, a2, a3, a4, a5⟩ := okW_ok h2
          exact gaps_x m s t a1 a2 a3 a4 a5 _ _ ⟨rfl, rfl⟩
      · cases h
    | false => rw [h3] at h; cases h
noncomputable def cxe : Cx Try.prog where
  good := goodT
  keep := keepT
  ext := extW
theorem cxe_ok : cxe.Ok where
  mixed := cx_ok.mixed
  ord f h := cx_ok.ord f h
  ext f args H v H' h := extW_ok f args H v H' h
theorem works_run : callN (runZ cxe 3000) 28 [] [] = some (.bool true, []) := by kernel_rfl
theorem works_ac (H : AH) (Q : AV → AH → Prop) (h : Q (.bool true) H) : AC Try.prog 28 [] H Q := AC_kernZ cxe_ok 3000 works_run .nil (.bool _) h
/-- The same context, in which the examples are known. -/
noncomputable def cxw : Cx Try.prog where
  good := goodT
  keep := keepT
  ext f args H := bif Nat.beq f 28 then (match args with | [] => some (.bool true, H) | _ => none) else extW f args H
theorem cxw_ok : cxw.Ok where
  mixed := cx_ok.mixed
  ord f h := cx_ok.ord f h
  ext f args H v H' h := by
    simp only [cxw] at h
    cases hf : Nat.beq f 28 with
    | false => rw [hf] at h; exact extW_ok f args H v H' h
    | true =>
      have := Nat.eq_of_beq_eq_true hf
      subst this
      rw [hf] at h
      cases args with
      | nil => simp at h; obtain ⟨rfl, rfl⟩ := h; exact works_ac _ _ ⟨rfl, rfl⟩
      | cons a l => simp at h
end Go.Proofs.Ytjfmiohgkcjdnaa

/- Widths of gaps, and numbers of turns for which they are even. -/
namespace Go.Proofs.Ytjfmiohgkcjdnaa
open Go Go.Proofs.Ytjfmiohgkcjdnaa.AX

theorem gapL_bound {m : Nat} : ∀ {ws : List Nat}, ws.Pairwise (· < ·) → (∀ w ∈ ws, w < m) → ∀ x ∈ gapL m ws, 1 ≤ x ∧ x ≤ m
  | [], _, _, x, hx => by simp [gapL] at hx
  | w :: ws, h, hl, x, hx => by
    obtain ⟨h1, h2⟩ := List.pairwise_cons.1 h
    simp only [gapL] at hx
    rcases List.mem_cons.1 hx with rfl | hx
    · have hw := hl w (by simp)
      cases ws with
      | nil => simp only [List.headD_nil]; omega
      | cons y ys =>
        have := h1 y (by simp)
        have := hl y (by simp)
        simp only [List.headD_cons]; omega
    · exact gapL_bound h2 (fun w hw => hl w (by simp [hw])) x hx
theorem gapsS_bound {m s t : Nat} : ∀ x ∈ gapsS m s t, 1 ≤ x ∧ x ≤ m := by
  refine gapL_bound (round_sorted m s t) fun w hw => ?_
  rw [round_marks] at hw
  exact List.mem_range.1 (List.mem_filter.1 hw).1
/-- How often each number up to 100 is there. -/
def cntA (L : List Int) : List Int := (List.range 101).map fun (w : Nat) => ((L.count (w : Int) : Nat) : Int)
theorem cntA_len (L : List Int) : (cntA L).length = 101 := by simp [cntA]
theorem cntA_get (L : List Int) {w : Nat} (h : w < 101) : (cntA L)[w]? = some ((L.count (w : Int) : Nat) : Int) := by simp [cntA, h]
theorem cntA_push (L : List Int) {w : Nat} (_h : w < 101) : (cntA L).set w (((L.count (w : Int) : Nat) : Int) + 1) = cntA (L ++ [(w : Int)]) := by
  apply List.ext_getElem?
  intro i
  rw [List.getElem?_set]
  by_cases hi : i < 101
  · rw [cntA_get _ hi, cntA_get _ hi, List.count_append]
    by_cases e : w = i
    · subst e
      simp [cntA_len, hi]
    · rw [if_neg e]
      have : ((w : Int) == (i : Int)) = false := by simp; omega
      simp [List.count_cons, this]
  · have h1 : (cntA L)[i]? = none := List.getElem?_eq_none (by rw [cntA_len]; omega)
    have h2 : (cntA (L ++ [(w : Int)]))[i]? = none := List.getElem?_eq_none (by rw [cntA_len]; omega)
    rw [h1, h2]
    by_cases e : w = i
    · subst e; omega
    · rw [if_neg e]
def widN (L : List Int) (k : Nat) : List (Nat × Nat) := (List.range k).filterMap fun (w : Nat) => if 0 < L.count (w : Int) then some (w, L.count (w : Int)) else none
def prs (l : List (Nat × Nat)) : List (List AV) := l.map fun p => [.int .i64 p.1, .int .i64 p.2]
theorem widN_succ (L : List Int) (k : Nat) : widN L (k + 1) = if 0 < L.count (k : Int) then widN L k ++ [(k, L.count (k : Int))] else widN L k := by
  unfold widN
  rw [List.range_succ, List.filterMap_append]
  by_cases h : 0 < L.count (k : Int)
  · rw [if_pos h, List.filterMap_cons_some (f := fun (w : Nat) => if 0 < L.count (w : Int) then some (w, L.count (w : Int)) else none) (b := (k, L.count (k : Int))) (if_pos h)]; rfl
  · rw [if_neg h, List.filterMap_cons_none (f := fun (w : Nat) => if 0 < L.count (w : Int) then some (w, L.count (w : Int)) else none) (if_neg h)]; simp
theorem widN_le (L : List Int) : ∀ k, (widN L k).length ≤ k
  | 0 => by simp [widN]
  | k + 1 => by
    have := widN_le L k
    rw [widN_succ]
    split <;> simp <;> omega
@[simp] theorem ixa98 (r off ver : Nat) (k : IntKind) (i : Int) : aIndexAddr Try.prog 98 (.ptr r off ver) (.int k i) = if 0 ≤ i ∧ i < (101 : Nat) then some (.ptr r (off + i.toNat * 1) ver) else none := ixa_ar (by kernel_rfl) ..
theorem zt98 : zeroT Try.prog 98 = some ((cntA []).map (.int .i64)) := by kernel_rfl
theorem ag98 : aggSz Try.prog 98 = some 101 := by kernel_rfl
@[simp] theorem ld98 (H : AH) (r off ver : Nat) : loadV Try.prog 98 H (.ptr r off ver) = (ldn H r ver 101 off).map .agg := load_agg ag98 ..
/-- An array of cells. -/
def arI (P : Program) (t : TypeId) (n : Nat) : Bool := match P.underlying t with | some (.array m e) => m == n && scal P e | _ => false
theorem idx_arr {P : Program} {t : TypeId} {n i : Nat} {cs : List AV} {v : AV} {k : IntKind} (h : arI P t n = true) (hi : i < n) (hc : cs[i]? = some v) : aIndex P t (.agg cs) (.int k i) = some v := by
  unfold arI at h
  split at h
  case h_2 => cases h
  rename_i m e hu
  simp only [Bool.and_eq_true, beq_iff_eq] at h
  obtain ⟨rfl, hs⟩ := h
  unfold scal at hs
  split at hs
  case h_2 => cases hs
  rename_i d ie h1 h2
  simp only [Bool.and_eq_true, Bool.not_eq_true', beq_iff_eq] at hs
  have hlt : (0 : Int) ≤ (i : Int) ∧ (i : Int) < (m : Nat) := ⟨by omega, by omega⟩
  simp only [aIndex, hu]
  rw [if_pos hlt]
  simp [aPart, h1, h2, hs.1, hs.2, hc]
theorem ar98 : arI Try.prog 98 101 = true := by kernel_rfl
theorem elk40 : elK Try.prog 40 2 = true := by kernel_rfl
@[simp] theorem built57 (a b : Int) : aBuilt Try.prog 57 [(0, .int .i64 a), (1, .int .i64 b)] = some [.int .i64 a, .int .i64 b] := by kernel_rfl
@[simp] theorem row40 (H : AH) (a b : Int) : rowV Try.prog 40 1 [(0, .agg [.int .i64 a, .int .i64 b])] H = some (some (.slice (some H.length) 0 1 0 2 false), H ++ [.row [.int .i64 a, .int .i64 b] 0 2 false]) := by kernel_rfl
@[simp] theorem len40 (r : Option Nat) (off len ver sz : Nat) (full : Bool) : aLen Try.prog 40 (.slice r off len ver sz full) = some (.int .i64 len) := len_sl (n := 2) (by kernel_rfl) ..
def widthsS (m s t : Nat) : List (Nat × Nat) := widN (gapsS m s t) 101
set_option maxRecDepth 100000 in
theorem widths_ac (m s t : Nat) (h1 : 1 ≤ m) (h2 : m ≤ 100) (h3 : s < m) (h5 : t ≤ per m s) (H : AH) (Q : AV → AH → Prop) (h : ∀ v H', OwnK 2 H.length H' v (prs (widthsS m s t)) → Ext H H' → Q v H') : AC Try.prog 75 [WV m s t] H Q := by
  refine L_body 37 Try.func75 rfl rfl ?_
  have hpm := per_le m s
  refine L_reg [1] (fun K hK => ?_)
  simp [AV.isU, acells, WV]
  apply hK; clear hK K
  obtain ⟨H1, e, hE, hl1, r1, b⟩ := box3 H m s t
  rw [e]
  obtain ⟨I98, hI98, hz98⟩ := zeroT_some zt98
  refine L_reg [1, 3] (fun K hK => ?_)
  simp [hI98, hz98]
  apply hK; clear hK K
  have hE2 := hE.trans (.push H1 [AObj.row ((cntA []).map (.int .i64)) 0 0 false])
  have b2 := b.ext (.push H1 [AObj.row ((cntA []).map (.int .i64)) 0 0 false])
  have ha : (H1 ++ [AObj.row ((cntA []).map (.int .i64)) 0 0 false])[H1.length]? = some (.row ((cntA []).map (.int .i64)) 0 0 false) := by simp
  have hlt2 : H1.length < (H1 ++ [AObj.row ((cntA []).map (.int .i64)) 0 0 false]).length := by simp
  generalize H1 ++ [AObj.row ((cntA []).map (.int .i64)) 0 0 false] = H2 at hE2 b2 ha hlt2 ⊢
  generalize hq : H1.length = q at *
  have hG := gapsS_bound (m := m) (s := s) (t := t)
  have hGl := gapsS_len (m := m) (s := s) (by omega) h5
  refine L_reg [3, 10, 11, 12] (fun K hK0 => ?_)
  simp [okFn_low, b2.la]
  refine gaps_ac m s t h1 h2 h3 h5 _ _ (fun v H3 hO hE3 => ?_)
  unfold widthsS at h
  generalize gapsS m s t = G at hO hG hGl h
  obtain ⟨r0, ver0, hv⟩ := hO.len
  have hLs : Ls H3 v G := hO.own.ls
  rw [List.length_map] at hv
  subst hv
  simp
  apply hK0; clear hK0 K
  have ha3 := hE3.row ha
  have hE03 := hE2.trans hE3
  have hvr : ∀ H', (∀ j, j < H3.length → j ≠ q → H'[j]? = H3[j]?) → Ls H' (.slice r0 0 G.length ver0 1 false) G := by
    intro H' hH
    rcases hO with ⟨g1, g2⟩ | ⟨r, ver, stale, gr, g1, g2⟩
    · have : G = [] := by simpa using g1
      subst this
      rw [g2]; exact Ls.nil _
    · rw [g1]
      have hlt : r < H3.length := (List.getElem?_eq_some_iff.1 g2).1
      have g3 : H'[r]? = _ := (hH r hlt (by omega)).trans g2
      simpa using Ls.row g3 false
  have hq3 : q < H3.length := by have := hE3.1; omega
  refine L_blockR (fun e' H' => ∃ v13 i : Nat, ∃ v : AV, ∃ s, H'[q]? = some (.row ((cntA G).map (.int .i64)) 0 s false) ∧ Ext H H' ∧ e' = [(3, .ptr q 0 0), (10, .slice r0 0 G.length ver0 1 false), (11, .int .i64 G.length), (12, .int .i64 i), (13, v)]) (L_loopV [12] (fun k vs H' => ∃ (i s : Nat), k = G.length - i ∧ i ≤ G.length ∧ vs = [.int .i64 i] ∧ H'[q]? = some (.row ((cntA (G.take i)).map (.int .i64)) 0 s false) ∧ H3.length = H'.length ∧ ∀ j, j < H3.length → j ≠ q → H'[j]? = H3[j]?) _ [.int .i64 (0 : Nat)] rfl ⟨0, 0, rfl, by omega, rfl, by simpa using ha3, rfl, fun j _ _ => rfl⟩ ?_) ?_
  · rintro k _ H4 ⟨i, s', rfl, hi, rfl, hrow, hl4, hoff⟩
    refine L_reg [3, 10, 11, 12, 13] (fun K hK => ?_)
    simp
    apply hK; clear hK K
    refine L_dec (i < G.length) (by simp) (fun hlt => ?_) (fun hge => L_exit ?_)
    · refine L_block ?_
      obtain ⟨r1', off1, ver1, sz1, full1, hv1, hld⟩ := hvr H4 hoff
      cases hv1
      obtain ⟨r', rfl, -, hld⟩ := hld i hlt
      have hgi := hG G[i] (by simp)
      obtain ⟨w, hw⟩ : ∃ w : Nat, G[i] = w := ⟨G[i].toNat, by omega⟩
      have hw101 : w < 101 := by omega
      rw [hw, Nat.zero_add] at hld
      refine L_reg [3, 5, 10, 11, 12] (fun K hK => ?_)
      simp [hlt, hld]
      apply hK; clear hK K
      have e5 : ld H4 q w 0 = some (.int .i64 (((G.take i).count (w : Int) : Nat) : Int)) := by rw [ld_row hrow, List.getElem?_map, cntA_get _ hw101]; rfl
      have hcl : (G.take i).count (w : Int) ≤ i := Nat.le_trans List.count_le_length (by simp; omega)
      have hst := store_row (P := Try.prog) (u := 3) (p := w) sc3 (x := .int .i64 ((((G.take i).count (w : Int) : Nat) : Int) + 1)) (y := .int .i64 (((G.take i).count (w : Int) : Nat) : Int)) rfl hrow (by rw [List.getElem?_map, cntA_get _ hw101]; rfl)
      have hset : ((cntA (G.take i)).map (AV.int .i64)).set w (.int .i64 ((((G.take i).count (w : Int) : Nat) : Int) + 1)) = (cntA (G.take (i + 1))).map (.int .i64) := by
        rw [← List.map_set, cntA_push _ hw101, ← hw, List.take_append_getElem hlt]
      rw [hset] at hst
      have hg := get_set (o' := AObj.row ((cntA (G.take (i + 1))).map (.int .i64)) 0 (min s' w) false) hrow
      generalize hcc : (G.take i).count (w : Int) = cc at e5 hst hcl
      generalize hcs : (cntA (G.take (i + 1))).map (AV.int .i64) = cs at hst hg
      refine L_reg [3, 10, 11, 12] (fun K hK => ?_)
      simp [show (w : Int) < 101 by omega, e5, wrap_i64 (a := (cc : Int) + 1) (by omega), hst]
      apply hK; clear hK K
      refine L_reg [3, 10, 11, 12] (fun K hK => ?_)
      simp [wrap_i64 (a := (i : Int) + 1) (by omega)]
      apply hK; clear hK K
      exact ⟨G.length - (i + 1), [.int .i64 (i + 1 : Nat)], by omega, by simp, i + 1, _, rfl, by omega, rfl, by rw [hcs]; exact hg, by simpa using hl4, fun j j1 j2 => by rw [set_ne (by omega)]; exact hoff j j1 j2⟩
    · have hi' : i = G.length := by omega
      refine ⟨0, i, _, s', by rw [hi', List.take_length] at hrow; exact hrow, ⟨by have := hE03.1; omega, fun j hj => by rw [hoff j (by have := hE03.1; omega) (by have := hE.1; omega), hE03.2 j hj]⟩, rfl⟩
  rintro _ H5 ⟨-, i, v13, s', hrow, hE5, rfl⟩
  refine L_reg [3, 6] (fun K hK => ?_)
  simp
  apply hK; clear hK K
  have hcA : (cntA G).length = 101 := cntA_len G
  have hla : ldn H5 q 0 101 0 = some ((cntA G).map (.int .i64)) := by
    rw [ldn_row hrow, List.drop_zero]
    have := takeKnown_row (l := (cntA G).map (AV.int .i64)) (fun v hv => by obtain ⟨x, -, rfl⟩ := List.mem_map.1 hv; simp) []
    simpa [hcA] using this
  have hget : ∀ w : Nat, w < 101 → ((cntA G).map (AV.int .i64))[w]? = some (.int .i64 ((G.count (w : Int) : Nat) : Int)) := fun w hw => by rw [List.getElem?_map, cntA_get _ hw]; rfl
  have hcl : ∀ w : Int, G.count w ≤ G.length := fun w => List.count_le_length
  have hGt : G.length ≤ 100 := by omega
  generalize (cntA G).map (AV.int .i64) = cs at hla hget
  refine L_reg [6, 22, 23] (fun K hK => ?_)
  simp [hla]
  apply hK; clear hK K
  refine L_block (L_loopV [6, 23] (fun k vs H' => ∃ (i : Nat) (v : AV), k = 101 - i ∧ i ≤ 101 ∧ vs = [v, .int .i64 i] ∧ OwnK 2 H.length H' v (prs (widN G i)) ∧ Ext H H') _ [.slice none 0 0 0 1 false, .int .i64 (0 : Nat)] rfl ⟨0, _, rfl, by omega, rfl, by simpa [widN, prs] using OwnK.nil 2 H.length H5, hE5⟩ ?_)
  clear hrow hE5 hla hvr hO hLs
  clear H5
  rintro k _ H5 ⟨i, v, rfl, hi, rfl, hO, hE5⟩
  refine L_reg [6, 22, 23, 24] (fun K hK => ?_)
  simp
  apply hK; clear hK K
  refine L_dec ((i : Int) < 101) (by simp) (fun hlt => ?_) (fun hge => L_exit ?_)
  · refine L_block ?_
    have hlt' : i < 101 := by omega
    refine L_reg [6, 7, 8, 22, 23] (fun K hK => ?_)
    simp [idx_arr ar98 hlt' (hget i hlt')]
    apply hK; clear hK K
    refine L_reg [6, 7, 8, 22, 23, 28] (fun K hK => ?_)
    simp
    apply hK; clear hK K
    have hsucc := widN_succ G i
    have hcli := hcl i
    refine L_dec (0 < G.count (i : Int)) (by simp) (fun hpos => ?_) (fun hpos => ?_)
    · rw [if_pos hpos] at hsucc
      have hwl := widN_le G i
      obtain ⟨v', H6, happ, hO6, hE6⟩ := ownK_append hE5 elk40 elk40 (x := [.int .i64 i, .int .i64 (G.count (i : Int) : Nat)]) (m := 2) hO rfl (by simp [AV.one]) (by simp [prs]; omega)
      refine L_reg [6, 22, 23] (fun K hK => ?_)
      simp [happ]
      apply hK; clear hK K
      refine L_reg [6, 22, 23] (fun K hK => ?_)
      simp [wrap_i64 (a := (i : Int) + 1) (by omega)]
      apply hK; clear hK K
      refine ⟨101 - (i + 1), [v', .int .i64 (i + 1 : Nat)], by omega, by simp, i + 1, v', rfl, by omega, rfl, ?_, hE6⟩
      rw [hsucc]
      simpa [prs] using hO6
    · rw [if_neg hpos] at hsucc
      refine L_reg [6, 22, 23] (fun K hK => ?_)
      simp [wrap_i64 (a := (i : Int) + 1) (by omega)]
      apply hK; clear hK K
      exact ⟨101 - (i + 1), [v, .int .i64 (i + 1 : Nat)], by omega, by simp, i + 1, v, rfl, by omega, rfl, by rw [hsucc]; exact hO, hE5⟩
  · have hi' : i = 101 := by omega
    subst hi'
    refine L_reg [2] (fun K hK => ?_)
    simp
    apply hK; clear hK K
    exact L_ret ⟨.inr rfl, _, rfl, h _ _ hO hE5⟩
theorem even_ac0 (m s t : Nat) (h1 : 1 ≤ m) (h2 : m ≤ 100) (h3 : s < m) (h5 : t ≤ per m s) (H : AH) (Q : AV → AH → Prop) (h : ∀ H', Ext H H' → Q (.bool (decide ((widthsS m s t).length ≤ 2))) H') : AC Try.prog 78 [WV m s t] H Q := by
  refine L_body 7 Try.func78 rfl rfl ?_
  refine L_reg [1, 2] (fun K hK => ?_)
  simp [AV.isU, acells, WV]
  apply hK; clear hK K
  obtain ⟨H1, e, hE, hl1, r1, b⟩ := box3 H m s t
  rw [e]
  refine L_reg [2] (fun K hK0 => ?_)
  simp [okFn_low, b.la]
  refine widths_ac m s t h1 h2 h3 h5 _ _ (fun v H3 hO hE3 => ?_)
  obtain ⟨r, ver, sz, rfl⟩ := hO.len
  simp [prs]
  apply hK0; clear hK0 K
  have e2 : decide (((widthsS m s t).length : Int) ≤ 2) = decide ((widthsS m s t).length ≤ 2) := by rw [decide_eq_decide]; omega
  have h6 := h _ (hE.trans hE3)
  rw [← e2] at h6
  exact L_ret ⟨.inr rfl, _, rfl, h6⟩
theorem even_ac (m s t : Nat) (h1 : 1 ≤ m) (h2 : m ≤ 100) (h3 : s < m) (h5 : t ≤ per m s) (H : AH) (Q : AV → AH → Prop) (h : Q (.bool (decide ((widthsS m s t).length ≤ 2))) H) : AC Try.prog 78 [WV m s t] H Q :=
  AC.quiet (belB_bool _ _ _) (fun Q h => even_ac0 m s t h1 h2 h3 h5 H Q h) Q h
end Go.Proofs.Ytjfmiohgkcjdnaa
