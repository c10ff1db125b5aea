/- Join: both ways. -/
import Derived.Test.YtjaefngmidllgaaJn
namespace Go.Proofs.Ytjaefngmidllgaa.St
open Go Go.Proofs.Ytjaefngmidllgaa Go.Proofs.Ytjaefngmidllgaa.AX
set_option maxRecDepth 100000
set_option linter.unusedVariables false
/-- Which cells behind a row's end are stale, once a list is relabelled. -/
def stl (L : List Nat) (f s : Nat) : Nat → Nat
  | 0 => s
  | i + 1 => if ga L i = f then min (stl L f s i) i else stl L f s i
theorem relabel_x (r ver s : Nat) (L : List Nat) (f t : Nat) (hlen : L.length ≤ 1000) (H : AH) (hr : H[r]? = some (.row ((il L).map (.int .i64)) ver s false)) (Q : AV → AH → Prop) (h : Q (.tuple []) (H.set r (.row ((il (relab L f t)).map (.int .i64)) ver (stl L f s L.length) false))) : AC Try.prog 73 [.slice (some r) 0 L.length ver 1 false, .int .i64 (f : Nat), .int .i64 (t : Nat)] H Q := by
  refine L_body 23 Try.func73 rfl rfl ?_
  have hrl := (List.getElem?_eq_some_iff.1 hr).1
  refine L_reg [0, 1, 2, 8, 9, 10] (fun K hK => ?_)
  simp
  apply hK; clear hK K
  have hself : H.set r (.row ((il L).map (.int .i64)) ver s false) = H := by
    apply List.ext_getElem?
    intro j
    rw [List.getElem?_set]
    split
    · rename_i e; subst e; rw [hr]; try rw [if_pos hrl]
    · rfl
  refine L_block (L_loopV [10] (fun q vs H' => ∃ i : Nat, q = L.length - i ∧ i ≤ L.length ∧ vs = [.int .i64 i] ∧ H' = H.set r (.row ((il (relab (L.take i) f t ++ L.drop i)).map (.int .i64)) ver (stl L f s i) false)) _ [.int .i64 (0 : Nat)] rfl ⟨0, rfl, by omega, rfl, by simp [relab, stl, hself]⟩ ?_)
  rintro q _ _ ⟨i, rfl, hi, rfl, rfl⟩
  refine L_reg [0, 1, 2, 8, 9, 10, 11] (fun K hK => ?_)
  simp
  apply hK; clear hK K
  refine L_dec (i < L.length) (by simp) (fun hlt => ?_) (fun hge => L_exit ?_)
  · refine L_block ?_
    have hl1 : (relab (L.take i) f t).length = i := by rw [relab_len]; simp; omega
    have hrow : (H.set r (.row ((il (relab (L.take i) f t ++ L.drop i)).map (.int .i64)) ver (stl L f s i) false))[r]? = some (.row ((il (relab (L.take i) f t ++ L.drop i)).map (.int .i64)) ver (stl L f s i) false) := get_set hr
    have hcell : ((il (relab (L.take i) f t ++ L.drop i)).map (AV.int .i64))[i]? = some (.int .i64 (L[i] : Nat)) := by
      simp only [il, List.getElem?_map]
      rw [List.getElem?_append_right (by omega), hl1, Nat.sub_self, List.getElem?_drop]
      simp [hlt]
    have hld : ld (H.set r (.row ((il (relab (L.take i) f t ++ L.drop i)).map (.int .i64)) ver (stl L f s i) false)) r i ver = some (.int .i64 (L[i] : Nat)) := by rw [ld_row hrow, hcell]; rfl
    have hnext : relab (L.take (i + 1)) f t ++ L.drop (i + 1) = (relab (L.take i) f t ++ L.drop i).set i (if L[i] = f then t else L[i]) := by
      rw [List.set_append, if_neg (by omega), hl1, Nat.sub_self, List.drop_eq_getElem_cons hlt, List.set_cons_zero, ← List.take_append_getElem hlt]
      unfold relab
      rw [List.map_append, List.append_assoc]
      rfl
    have hst := fun y : Nat => store_row (P := Try.prog) (u := 3) (p := i) sc3 (x := .int .i64 (y : Nat)) (y := .int .i64 (L[i] : Nat)) rfl hrow (by rw [hcell]; rfl)
    have hgi := ga_lt hlt
    have hsame : (relab (L.take i) f t ++ L.drop i).set i L[i] = relab (L.take i) f t ++ L.drop i := by
      rw [List.set_append, if_neg (by omega), hl1, Nat.sub_self, List.drop_eq_getElem_cons hlt, List.set_cons_zero]
    simp only [← List.map_set (f := AV.int .i64), il_set, List.set_set] at hst
    have hstl : stl L f s (i + 1) = if L[i] = f then min (stl L f s i) i else stl L f s i := by simp [stl, hgi]
    generalize L[i] = x at hld hnext hst hsame hstl
    refine L_reg [0, 1, 2, 6, 7, 8, 9, 10] (fun K hK => ?_)
    simp [hlt, hld]
    apply hK; clear hK K
    refine L_reg [0, 1, 2, 6, 8, 9, 10, 17] (fun K hK => ?_)
    simp
    apply hK; clear hK K
    by_cases c : x = f
    · rw [if_pos c] at hnext hstl
      have hst := hst t
      rw [← hnext, ← hstl] at hst
      refine L_true (by simp [c]) ?_
      refine L_reg [0, 1, 2, 8, 9, 10] (fun K hK => ?_)
      simp [hlt, hst]
      apply hK; clear hK K
      refine L_reg [0, 1, 2, 8, 9, 10] (fun K hK => ?_)
      simp [wrap_i64 (a := (i : Int) + 1) (by omega)]
      apply hK; clear hK K
      exact ⟨L.length - (i + 1), [.int .i64 (i + 1 : Nat)], by omega, by simp, i + 1, rfl, by omega, rfl, rfl⟩
    · rw [if_neg c] at hnext hstl
      rw [hsame] at hnext
      refine L_false (by simp; omega) ?_
      refine L_reg [0, 1, 2, 8, 9, 10] (fun K hK => ?_)
      simp [wrap_i64 (a := (i : Int) + 1) (by omega)]
      apply hK; clear hK K
      exact ⟨L.length - (i + 1), [.int .i64 (i + 1 : Nat)], by omega, by simp, i + 1, rfl, by omega, rfl, by rw [hnext, hstl]⟩
  · have e : i = L.length := by omega
    subst e
    rw [List.take_length, List.drop_length, List.append_nil]
    exact ⟨.inl rfl, _, rfl, h⟩
section
variable {a b : List Nat} (ha : OkD a) (hb : OkD b) (hab : a.length = b.length) (u v : AV) (H : AH) (hu : Ls H u (il a)) (hv : Ls H v (il b))
include ha hb hab hu hv
theorem Join_ok (Q : AV → AH → Prop) (h : ∀ v' H', OwnF H.length H' v' ((il (dv (JL a b a.length))).map (.int .i64)) → Ext H H' → Q (.tuple [v', .int .i64 0]) H') : AC Try.prog 31 [u, v] H Q := by
  have hpe := prE_ok ha hb hab
  have h9 := ha.len
  refine L_body 40 Try.func31 rfl rfl ?_
  refine L_reg [0, 1] (fun K hK => ?_)
  simp
  apply hK; clear hK K
  refine L_reg [0, 1, 6] (fun K hK => ?_)
  simp [okFn_low]
  refine pair_q 69 (.inl rfl) _ _ u v (il9 ha) (il9 hb) _ hu hv _ ?_
  simp [hpe]
  apply hK; clear hK K
  refine L_reg [0, 1, 6, 14] (fun K hK => ?_)
  simp
  apply hK; clear hK K
  refine L_false rfl ?_
  refine L_reg [1, 7] (fun K hK => ?_)
  simp [okFn_low]
  refine Clone_ac u (il a) H _ (il9 ha) hu fun w H1 ho hE => ?_
  simp
  apply hK; clear hK K
  rcases ho with ⟨h0, -⟩ | ⟨r, ver, s, hrN, rfl, hr⟩
  · have h1 : a = [] := by simpa [il] using h0
    exact absurd ha.pos (by rw [h1]; simp)
  rw [List.length_map, il_len]
  have hvl := ils_len (hv.ext hE)
  refine L_reg [1, 7, 18, 19, 20] (fun K hK => ?_)
  simp [hvl]
  apply hK; clear hK K
  refine L_block (L_loopV [20] (fun q vs H' => ∃ (i t : Nat), q = b.length - i ∧ i ≤ b.length ∧ vs = [.int .i64 i] ∧ Ext H H' ∧ H'[r]? = some (.row ((il (JL a b i)).map (.int .i64)) ver t false)) _ [.int .i64 (0 : Nat)] rfl ⟨0, s, rfl, by omega, rfl, hE, hr⟩ ?_)
  clear hE hr hvl H1
  rintro q _ H1 ⟨i, t, rfl, hi, rfl, hE, hr⟩
  have hv1 := hv.ext hE
  refine L_reg [1, 7, 18, 19, 20, 21] (fun K hK => ?_)
  simp
  apply hK; clear hK K
  refine L_dec (i < b.length) (by simp) (fun hlt => ?_) (fun hge => L_exit ?_)
  · refine L_block ?_
    obtain ⟨r1, p1, v1, x1, y1⟩ := il_ix hv1 hlt
    rw [← ga_lt hlt] at y1
    obtain ⟨f1, f2⟩ := first_of_b rfl hlt
    have hjl : (JL a b i).length = a.length := JL_len i
    have hcell : ∀ j, j < a.length → ld H1 r j ver = some (.int .i64 (ga (JL a b i) j : Nat)) := fun j hj => by
      rw [ld_row hr, ga_lt (by omega)]
      simp [il, show j < (JL a b i).length by omega, known]
    have y2 := hcell i (by omega)
    have y3 := hcell (b.idxOf (ga b i)) (by omega)
    have hmem : ((ga b i : Nat) : Int) ∈ il b := by rw [ga_lt hlt]; exact List.mem_map.2 ⟨_, List.getElem_mem hlt, rfl⟩
    have hix : ixI (il b) ((ga b i : Nat) : Int) = ((b.idxOf (ga b i) : Nat) : Int) := by
      unfold ixI
      rw [if_pos hmem]
      have : ∀ (l : List Nat) (x : Nat), (il l).idxOf (x : Int) = l.idxOf x := by
        intro l x
        induction l with
        | nil => rfl
        | cons y l ih =>
          show ((y : Int) :: il l).idxOf (x : Int) = _
          rw [List.idxOf_cons, List.idxOf_cons, ih]
          have : ((y : Int) == (x : Int)) = (y == x) := by rw [Bool.eq_iff_iff, beq_iff_eq, beq_iff_eq]; omega
          rw [this]
      rw [this]
    have hj : b.idxOf (ga b i) < a.length := by omega
    obtain ⟨j, hjd⟩ : ∃ j, b.idxOf (ga b i) = j := ⟨_, rfl⟩
    have hsuc := JL_succ (a := a) (b := b) i
    unfold stepJ at hsuc
    rw [hjd] at y3 hix hj hsuc
    refine L_reg [1, 7, 8, 9, 18, 19, 20] (fun K hK => ?_)
    simp [x1, y1]
    apply hK; clear hK K
    have hlt' : i < a.length := by omega
    refine L_regF mixed [] [false, false, false, false, true, false, false, false, false] [1, 7, 18, 19, 20] (by kernel_rfl) (fun K hK => ?_)
    simp [okFn_low, hlt', ldS, y2]
    refine exC_mk (fun Q hQ => Index_q (il b) ((ga b i : Nat) : Int) v (il9 hb) H1 hv1 Q (by rw [hix]; exact hQ)) ?_
    simp [okFn_low, hj, y3, KeepS.refl]
    have hrl := fun Q h => relabel_x r ver t (JL a b i) (ga (JL a b i) i) (ga (JL a b i) j) (by omega) H1 hr Q h
    rw [hjl] at hrl
    refine exC_mk hrl ?_
    simp
    apply hK; clear hK K
    rw [← hsuc]
    refine L_reg [1, 7, 18, 19, 20] (fun K hK => ?_)
    simp [wrap_i64 (a := (i : Int) + 1) (by omega)]
    apply hK; clear hK K
    exact ⟨b.length - (i + 1), [.int .i64 (i + 1 : Nat)], by omega, by simp, i + 1, _, rfl, by omega, rfl, hE.set _ hrN, get_set hr⟩
  · have e : i = b.length := by omega
    subst e
    have hl : Ls H1 (.slice (some r) 0 a.length ver 1 false) (il (JL a b b.length)) := by
      have := Ls.row hr false
      rwa [il_len, JL_len] at this
    refine L_reg [4, 5] (fun K hK => ?_)
    simp [okFn_low]
    refine div60_ac (il (JL a b b.length)) _ (by rw [il_len, JL_len]; omega) _ hl _ fun v' H' ho2 hE2 => ?_
    simp
    apply hK; clear hK K
    have hdi : dv (il (JL a b b.length)) = dv (JL a b a.length) := by
      rw [hab]
      refine dv_congr _ _ (by rw [il_len]) fun x y hx hy => ?_
      rw [il_len] at hx hy
      rw [il_get hx, il_get hy]
      omega
    rw [hdi] at ho2
    exact L_ret ⟨.inr rfl, _, rfl, h v' H' (ho2.mono hE.1) (hE.trans hE2)⟩
end
end Go.Proofs.Ytjaefngmidllgaa.St
