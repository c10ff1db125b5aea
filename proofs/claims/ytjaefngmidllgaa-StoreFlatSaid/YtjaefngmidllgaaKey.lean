/- Slices of arrays that are made and filled; both rooms as a key. -/
import Derived.Test.YtjaefngmidllgaaChk
namespace Go.Proofs.Ytjaefngmidllgaa.St
open Go Go.Proofs.Ytjaefngmidllgaa Go.Proofs.Ytjaefngmidllgaa.AX
set_option maxRecDepth 100000
set_option linter.unusedVariables false
/-- An array within a row is written. -/
theorem store_part {P : Program} {t : TypeId} {n : Nat} (h : aggSz P t = some n) {H : AH} {r ver s p : Nat} {c vs : List AV} (hr : H[r]? = some (.row c ver s false)) (hn : n ≠ 0) (hp : p + n ≤ c.length) (hk : ∀ v ∈ c, v ≠ .undef) (hl : vs.length = n) (ho : ∀ v ∈ vs, v.one = true) :
    storeV P t H (.ptr r p ver) (.agg vs) = some (none, H.set r (.row (c.take p ++ vs ++ c.drop (p + n)) ver (min s p) false)) := by
  unfold aggSz at h
  split at h
  case h_2 => cases h
  rename_i d i hd hi
  split at h
  case isFalse => cases h
  cases h
  cases vs with
  | nil => simp at hl; omega
  | cons v vs =>
    have ht : (takeKnown (v :: vs).length (c.drop p)).isSome = true := by
      have hlen : ((c.drop p).take i.size).length = i.size := by simp; omega
      have := takeKnown_row (l := (c.drop p).take i.size) (fun v hv => hk v (List.mem_of_mem_drop (List.mem_of_mem_take hv))) ((c.drop p).drop i.size)
      rw [List.take_append_drop, hlen] at this
      rw [hl, this]; rfl
    have hall : (v :: vs).all AV.one = true := by simpa using ho
    have hst : stn H r ver (v :: vs) p = some (H.set r (.row (c.take p ++ (v :: vs) ++ c.drop (p + i.size)) ver (min s p) false)) := by
      rw [hl] at ht
      simp only [stn, hr, ht, hall, and_self, if_true, hl]
    have hlen : ((v :: vs).length != i.size) = false := by rw [hl]; simp
    simp only [storeV, hi, acells, AV.isU, Bool.false_or, hlen, Bool.false_eq_true, if_false, hst, Option.map_some]
def isZ : AV → Bool
  | .int .i64 a => a == 0
  | _ => false
def elKz (P : Program) (t : TypeId) : Option Nat := match P.underlying t with
  | some (.slice e) => match tiOf P e with | some I => if 0 < I.size ∧ I.bytes ≤ 4096 ∧ I.zero.all isZ = true ∧ I.zero.length = I.size then some I.size else none | none => none
  | _ => none
theorem make_k {P : Program} {H : AH} {t : TypeId} {k : Nat} (h : elKz P t = some k) {n : Nat} (hn : n ≤ 16777216) : makeV P t H (.int .i64 n) (.int .i64 n) = some (some (.slice (some H.length) 0 n 0 k false), H ++ [.row (List.replicate (n * k) (.int .i64 0)) 0 0 false]) := by
  unfold elKz at h
  split at h
  case h_2 => cases h
  rename_i e he
  split at h
  case h_2 => cases h
  rename_i I hI
  split at h
  case isFalse => cases h
  rename_i hc
  cases h
  have hz : ∀ j (hj : j < I.zero.length), I.zero[j] = .int .i64 0 := fun j hj => by
    have := (List.all_eq_true.1 hc.2.2.1) _ (List.getElem_mem hj)
    generalize I.zero[j] = v at this
    unfold isZ at this
    split at this
    · rename_i a; rw [eq_of_beq this]
    · cases this
  have : (List.range (n * I.size)).map (fun i => (I.zero[i % I.zero.length]?).getD .undef) = List.replicate (n * I.size) (.int .i64 0) := by
    rw [List.eq_replicate_iff]
    refine ⟨by simp, fun b hb => ?_⟩
    obtain ⟨i, -, rfl⟩ := List.mem_map.1 hb
    have hlt : i % I.zero.length < I.zero.length := Nat.mod_lt _ (by omega)
    rw [List.getElem?_eq_getElem hlt, hz]
    rfl
  simp only [makeV, he, hI]
  rw [if_pos ⟨by omega, Int.le_refl _, by omega, hc.2.1, hc.1⟩, Int.toNat_natCast, this]
theorem ek74 : elKz Try.prog 74 = some 2 := by kernel_rfl
theorem ek85 : elKz Try.prog 85 = some 9 := by kernel_rfl
theorem flat_len {z : Nat} : ∀ {K : List (List Int)}, (∀ x ∈ K, x.length = z) → K.flatten.length = K.length * z
  | [], _ => by simp
  | x :: K, h => by
    have h1 := h x (by simp)
    have h2 := flat_len (K := K) fun y hy => h y (by simp [hy])
    simp only [List.flatten_cons, List.length_append, List.length_cons, h1, h2, Nat.succ_mul]; omega
theorem flat_at {z : Nat} : ∀ {K : List (List Int)} {i : Nat} (hi : i < K.length), (∀ x ∈ K, x.length = z) → ∀ y : List Int, K.flatten.take (i * z) ++ y ++ K.flatten.drop (i * z + z) = (K.set i y).flatten ∧ (K.flatten.drop (i * z)).take z = K[i]
  | x :: K, 0, hi, h, y => by
    have h1 := h x (by simp)
    constructor
    · simp [h1]
    · simp [h1]
  | x :: K, i + 1, hi, h, y => by
    have h1 := h x (by simp)
    obtain ⟨h2, h3⟩ := flat_at (K := K) (i := i) (by simpa using hi) (fun y hy => h y (by simp [hy])) y
    have e : (i + 1) * z = x.length + i * z := by rw [Nat.succ_mul, h1]; omega
    constructor
    · simp only [List.flatten_cons, List.set_cons_succ, e]
      rw [List.take_length_add_append, Nat.add_assoc, List.drop_length_add_append, ← h2]
      simp
    · simp only [List.flatten_cons, e, List.getElem_cons_succ]
      rw [List.drop_length_add_append]
      exact h3
/-- The row of keys that are filled in. -/
def rowK (z : Nat) (K : List (List Int)) (i : Nat) : List (List Int) := K.take i ++ List.replicate (K.length - i) (List.replicate z 0)
theorem rowK_zero (z : Nat) (K : List (List Int)) : (rowK z K 0).flatten = List.replicate (K.length * z) 0 := by
  simp [rowK]
theorem rowK_len (z : Nat) (K : List (List Int)) {i : Nat} (hi : i ≤ K.length) : (rowK z K i).length = K.length := by
  simp [rowK]; omega
theorem rowK_ok {z : Nat} {K : List (List Int)} (h : ∀ x ∈ K, x.length = z) (i : Nat) : ∀ x ∈ rowK z K i, x.length = z := by
  intro x hx
  unfold rowK at hx
  rcases List.mem_append.1 hx with hx | hx
  · exact h x (List.mem_of_mem_take hx)
  · rw [List.eq_of_mem_replicate hx]; simp
theorem rowK_set {z : Nat} {K : List (List Int)} {i : Nat} (hi : i < K.length) : (rowK z K i).set i K[i] = rowK z K (i + 1) := by
  unfold rowK
  rw [List.set_append, if_neg (by simp; omega), show K.length - i = (K.length - (i + 1)) + 1 by omega, List.replicate_succ, show i - (K.take i).length = 0 by simp; omega]
  simp only [List.set_cons_zero]
  rw [← List.take_append_getElem hi, List.append_assoc]
  rfl
theorem rowK_all (z : Nat) (K : List (List Int)) : rowK z K K.length = K := by simp [rowK]
def cellsK (L : List (List Int)) : List AV := L.flatten.map (.int .i64)
theorem store_key {t : TypeId} {z r s : Nat} (ht : aggSz Try.prog t = some z) (hz : z ≠ 0) {H : AH} {K : List (List Int)} (hK : ∀ x ∈ K, x.length = z) {i : Nat} (hi : i < K.length) (hr : H[r]? = some (.row (cellsK (rowK z K i)) 0 s false)) :
    storeV Try.prog t H (.ptr r (i * z) 0) (.agg (K[i].map (.int .i64))) = some (none, H.set r (.row (cellsK (rowK z K (i + 1))) 0 (min s (i * z)) false)) := by
  have hl := rowK_len z K (Nat.le_of_lt hi)
  have hfl := flat_len (rowK_ok hK i)
  have hi2 : i * z + z ≤ K.length * z := by rw [← Nat.succ_mul]; exact Nat.mul_le_mul_right _ hi
  unfold cellsK at hr ⊢
  rw [store_part ht hr hz (by rw [List.length_map, hfl, hl]; exact hi2) (fun v hv => by obtain ⟨a, -, rfl⟩ := List.mem_map.1 hv; intro h; cases h) (by rw [List.length_map]; exact hK _ (List.getElem_mem hi)) (fun v hv => by obtain ⟨a, -, rfl⟩ := List.mem_map.1 hv; rfl)]
  rw [← List.map_take, ← List.map_drop, ← List.map_append, ← List.map_append, (flat_at (i := i) (by omega) (rowK_ok hK i) K[i]).1, rowK_set hi]
theorem lk_row {z r s : Nat} {H : AH} {K : List (List Int)} (hK : ∀ x ∈ K, x.length = z) (hr : H[r]? = some (.row (cellsK K) 0 s false)) : Lk z H (.slice (some r) 0 K.length 0 z false) K := by
  refine ⟨r, 0, 0, false, rfl, fun i hi => ?_⟩
  unfold cellsK at hr
  rw [Nat.zero_add, ldn_row hr, ← List.map_drop]
  have h1 := (flat_at hi hK []).2
  have h2 : (K[i].map (AV.int .i64)).length = z := by rw [List.length_map]; exact hK _ (List.getElem_mem hi)
  have h3 := takeKnown_row (l := K[i].map (AV.int .i64)) (fun v hv => by obtain ⟨a, -, rfl⟩ := List.mem_map.1 hv; intro h; cases h) (((K.flatten.drop (i * z)).drop z).map (.int .i64))
  rw [h2, ← List.map_append, ← h1, List.take_append_drop] at h3
  rw [h3, h1]
theorem wf_small {a : Int} (h0 : 0 ≤ a) (h1 : a < 1000) : (Lit.int .i64 a).wf = true := by
  have h2 : IntKind.i64.min = -9223372036854775808 := rfl
  have h3 : IntKind.i64.max = 9223372036854775807 := rfl
  simp only [Lit.wf, h2, h3, Bool.and_eq_true, decide_eq_true_eq]
  omega
/-- Both rooms of each box. -/
def prs (a b : List Nat) : List (List Int) := List.zipWith (fun x y : Nat => [(x : Int), (y : Int)]) a b
theorem prs_len {a b : List Nat} (h : a.length = b.length) : (prs a b).length = a.length := by simp [prs, h]
theorem prs_get {a b : List Nat} {i : Nat} (ha : i < a.length) (hb : i < b.length) : (prs a b)[i]'(by simp [prs]; omega) = [(a[i] : Int), (b[i] : Int)] := by simp [prs]
theorem prs_two {a b : List Nat} : ∀ x ∈ prs a b, x.length = 2 := by
  intro x hx
  obtain ⟨i, hi, rfl⟩ := List.getElem_of_mem hx
  simp [prs]
theorem prs_ok {a b : List Nat} (ha : ∀ x ∈ a, x < 9) (hb : ∀ x ∈ b, x < 9) : ∀ x ∈ prs a b, okKey 2 x := by
  intro x hx
  obtain ⟨i, hi, rfl⟩ := List.getElem_of_mem hx
  simp only [prs, List.length_zipWith] at hi
  rw [prs_get (by omega) (by omega)]
  refine ⟨rfl, fun y hy => ?_⟩
  have h1 := ha _ (List.getElem_mem (show i < a.length by omega))
  have h2 := hb _ (List.getElem_mem (show i < b.length by omega))
  simp only [List.mem_cons, List.not_mem_nil, or_false] at hy
  rcases hy with rfl | rfl
  · exact wf_small (by omega) (by omega)
  · exact wf_small (by omega) (by omega)
theorem bd56 (x y : Int) : aBuilt Try.prog 56 [(0, .int .i64 x), (1, .int .i64 y)] = some [.int .i64 x, .int .i64 y] := by kernel_rfl
theorem meet_ac {a b : List Nat} (ha : OkD a) (hb : OkD b) (hab : a.length = b.length) (u v : AV) (H : AH) (hu : Ls H u (il a)) (hv : Ls H v (il b)) (Q : AV → AH → Prop) (h : ∀ v' H', OwnF H.length H' v' ((il (dv (prs a b))).map (.int .i64)) → Ext H H' → Q v' H') : AC Try.prog 71 [u, v] H Q := by
  have hul := ils_len hu
  have h9 := ha.len
  have hpl := prs_len hab
  refine L_body 30 Try.func71 rfl rfl ?_
  refine L_reg [0, 1] (fun K hK => ?_)
  simp
  apply hK; clear hK K
  refine L_reg [0, 1, 5] (fun K hK => ?_)
  simp [hul, make_k ek74 (show a.length ≤ 16777216 by omega)]
  apply hK; clear hK K
  have hE : Ext H (H ++ [AObj.row (List.replicate (a.length * 2) (AV.int .i64 0)) 0 0 false]) := .push _ _
  have hr : (H ++ [AObj.row (List.replicate (a.length * 2) (AV.int .i64 0)) 0 0 false])[H.length]? = some (.row (cellsK (rowK 2 (prs a b) 0)) 0 0 false) := by unfold cellsK; rw [rowK_zero, hpl]; simp
  generalize H ++ [AObj.row (List.replicate (a.length * 2) (AV.int .i64 0)) 0 0 false] = H1 at hE hr ⊢
  refine L_reg [0, 1, 5, 11, 12] (fun K hK => ?_)
  simp
  apply hK; clear hK K
  refine L_block (L_loopV [12] (fun q vs H' => ∃ (i t : Nat), q = a.length - i ∧ i ≤ a.length ∧ vs = [.int .i64 i] ∧ Ext H H' ∧ H'[H.length]? = some (.row (cellsK (rowK 2 (prs a b) i)) 0 t false)) _ [.int .i64 (0 : Nat)] rfl ⟨0, 0, rfl, by omega, rfl, hE, hr⟩ ?_)
  clear hE hr H1
  rintro q _ H1 ⟨i, t, rfl, hi, rfl, hE, hr⟩
  refine L_reg [0, 1, 5, 11, 12, 13] (fun K hK => ?_)
  simp
  apply hK; clear hK K
  refine L_dec (i < a.length) (by simp) (fun hlt => ?_) (fun hge => L_exit ?_)
  · refine L_block ?_
    obtain ⟨r1, p1, v1, x1, y1⟩ := il_ix (hu.ext hE) hlt
    obtain ⟨r2, p2, v2, x2, y2⟩ := il_ix (hv.ext hE) (i := i) (by omega)
    have hst := store_key ag56 (by decide) prs_two (i := i) (by omega) hr
    rw [prs_get hlt (by omega)] at hst
    simp only [List.map_cons, List.map_nil] at hst
    refine L_reg [0, 1, 5, 6, 11, 12] (fun K hK => ?_)
    simp
    apply hK; clear hK K
    refine L_regT mixed [0, 1, 5, 11, 12] (by kernel_rfl) (fun K hK => ?_)
    simp [x1, y1, x2, y2, bd56, hlt, hst]
    apply hK; clear hK K
    refine L_reg [0, 1, 5, 11, 12] (fun K hK => ?_)
    simp [wrap_i64 (a := (i : Int) + 1) (by omega)]
    apply hK; clear hK K
    exact ⟨a.length - (i + 1), [.int .i64 (i + 1 : Nat)], by omega, by simp, i + 1, _, rfl, by omega, rfl, hE.set _ (Nat.le_refl _), get_set hr⟩
  · have e : i = a.length := by omega
    subst e
    rw [← hpl, rowK_all] at hr
    have hk := lk_row prs_two hr
    rw [hpl] at hk
    refine L_reg [4] (fun K hK => ?_)
    simp [okFn_low]
    refine div89_ac (prs a b) _ (by omega) (prs_ok ha.lt hb.lt) _ hk _ fun v' H' ho hE2 => ?_
    simp
    apply hK; clear hK K
    exact L_ret ⟨.inr rfl, _, rfl, h v' H' (ho.mono hE.1) (hE.trans hE2)⟩
end Go.Proofs.Ytjaefngmidllgaa.St
