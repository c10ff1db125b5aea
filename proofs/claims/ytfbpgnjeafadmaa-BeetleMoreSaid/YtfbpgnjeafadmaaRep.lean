/- slices.Repeat of one number. -/
import Derived.Test.YtfbpgnjeafadmaaNear
import Derived.Test.YtfbpgnjeafadmaaAxQ
namespace Go.Proofs.Ytfbpgnjeafadmaa.Fl
open Go Go.Proofs.Ytfbpgnjeafadmaa Go.Proofs.Ytfbpgnjeafadmaa.AX
set_option maxRecDepth 100000

@[simp] theorem s_isc_copy (xs : Array Operand) (ts : Array TypeId) : isFnCall (.call ⟨.builtin .copy, xs, ts⟩) = false := rfl
@[simp] theorem x_copy {P : Program} {H : AH} {ρ : Operand → AV} (x y : Operand) (t u : TypeId) : execN P ρ H (.call ⟨.builtin .copy, #[x, y], #[t, u]⟩) = appV (aCopy P H t (ρ x) (ρ y)) := by
  have : execN P ρ H (.call ⟨.builtin .copy, #[x, y], #[t, u]⟩) = (aCopy P H t (ρ x) (ρ y)).map fun p => (some p.1, p.2) := rfl
  rw [this]
  cases aCopy P H t (ρ x) (ρ y) <;> rfl
theorem all_ints (l : List Int) : (l.map (AV.int .i64)).all AV.one = true := by
  rw [List.all_eq_true]
  intro x hx
  obtain ⟨y, -, rfl⟩ := List.mem_map.1 hx; rfl
theorem known_ints (l : List Int) : ∀ v ∈ l.map (AV.int .i64), v ≠ .undef := by
  intro x hx
  obtain ⟨y, -, rfl⟩ := List.mem_map.1 hx; simp
theorem ldn_ints {H : AH} {r ver : Nat} : ∀ {m : List Int} {p : Nat}, (∀ i (h : i < m.length), ld H r (p + i) ver = some (.int .i64 m[i])) → ldn H r ver m.length p = some (m.map (.int .i64))
  | [], _, _ => rfl
  | x :: m, p, h => by
    have h0 := h 0 (by simp)
    simp only [Nat.add_zero, List.getElem_cons_zero] at h0
    have h1 : ldn H r ver m.length (p + 1) = some (m.map (.int .i64)) := ldn_ints fun i hi => by
      have := h (i + 1) (by simpa using hi)
      simp only [List.getElem_cons_succ] at this
      rw [← this]; congr 1; omega
    rw [List.length_cons, ldn_succ, h0, Option.bind_some, h1]
    rfl
/-- Numbers are copied into the middle of a row. -/
theorem copy_mid {H : AH} {w s p n : Nat} {v : AV} {a b d m : List Int} (hw : H[w]? = some (.row ((a ++ b ++ d).map (.int .i64)) 0 s false)) (hp : a.length = p) (hb : b.length = m.length) (hm : 0 < m.length) (hn : m.length ≤ n) (hv : ∃ r off ver full k, v = .slice (some r) off k ver 1 full ∧ min k n = m.length ∧ ∀ i (h : i < m.length), ld H r (off + i) ver = some (.int .i64 m[i])) :
    aCopy Try.prog H 22 (.slice (some w) p n 0 1 false) v = some (.int .i64 m.length, H.set w (.row ((a ++ m ++ d).map (.int .i64)) 0 (min s p) false)) := by
  obtain ⟨e, I, h1, h2, h3, h4, -⟩ := elT_some el22
  obtain ⟨i, z, g1, g2, g3, -⟩ := (tiOf_some h2).2
  obtain ⟨r, off, ver, full, k, rfl, hk, hld⟩ := hv
  have hld2 : ldn H r ver m.length off = some (m.map (.int .i64)) := ldn_ints hld
  have hone := all_ints m
  have e1 : i.size = 1 := by rw [g3, h3]
  have hst : stn H w 0 (m.map (.int .i64)) p = some (H.set w (.row ((a ++ m ++ d).map (.int .i64)) 0 (min s p) false)) := by
    obtain ⟨y, m', rfl⟩ : ∃ y m', m = y :: m' := by cases m with
      | nil => simp at hm
      | cons y m' => exact ⟨y, m', rfl⟩
    have hdr : ((a ++ b ++ d).map (AV.int .i64)).drop p = b.map (.int .i64) ++ d.map (.int .i64) := by
      rw [List.append_assoc, List.map_append, List.map_append, ← hp, ← List.length_map (f := AV.int .i64), List.drop_left]
    have htk : (takeKnown ((y :: m').map (AV.int .i64)).length (((a ++ b ++ d).map (AV.int .i64)).drop p)).isSome = true := by
      rw [hdr, List.length_map, ← hb, ← List.length_map (f := AV.int .i64), take_pre (known_ints b)]; rfl
    have e2 : ((a ++ b ++ d).map (AV.int .i64)).take p = a.map (.int .i64) := by
      rw [List.append_assoc, List.map_append, ← hp, ← List.length_map (f := AV.int .i64), List.take_left]
    have e3 : ((a ++ b ++ d).map (AV.int .i64)).drop (p + ((y :: m').map (AV.int .i64)).length) = d.map (.int .i64) := by
      have e4 : p + ((y :: m').map (AV.int .i64)).length = ((a ++ b).map (AV.int .i64)).length := by
        rw [List.length_map, List.length_map, List.length_append, hp, hb]
      rw [e4, List.map_append (l₁ := a ++ b), List.drop_left]
    simp only [List.map_cons] at hone htk e3 ⊢
    simp only [stn, hw]
    rw [if_pos ⟨trivial, trivial, hone, htk⟩, e2, e3]
    simp
  simp only [aCopy, h1, g1, isNilSl, slParts, Bool.false_and, Bool.false_eq_true, if_false, hk, e1, Nat.mul_one]
  rw [if_neg (by omega), if_pos ⟨trivial, trivial⟩, hld2, Option.bind_some, if_pos hone, hst]
  rfl
noncomputable def mulR (n : Nat) : Bool := match callN (runZ cx 300) 94 [.int .u64 1, .int .u64 (.ofNat n)] [] with
  | some (.tuple [.int .u64 a, .int .u64 b], []) => ieq a 0 && ieq b (.ofNat n)
  | _ => false
theorem mul_all : (List.range 26).all mulR = true := by kernel_rfl
theorem mul_ac (n : Nat) (hn : n ≤ 25) (H : AH) (Q : AV → AH → Prop) (h : Q (.tuple [.int .u64 0, .int .u64 n]) H) : AC Try.prog 94 [.int .u64 1, .int .u64 n] H Q := by
  have h1 := List.all_eq_true.1 mul_all n (List.mem_range.2 (by omega))
  unfold mulR at h1
  split at h1
  · rename_i a b hm
    simp only [ieq_eq, Bool.and_eq_true, beq_iff_eq] at h1
    obtain ⟨rfl, rfl⟩ := h1
    exact AC_kernZ cx_ok 300 hm (.cons (.int ..) (.cons (.int ..) .nil)) (.tuple (.cons (.int ..) (.cons (.int ..) .nil))) h
  · cases h1
def rp (k n : Nat) : List Int := List.replicate k (-1) ++ List.replicate (n - k) 0
theorem bnd_lo {n k : Nat} (h : k ≤ n) : aBounds n (some (.int .i64 (k : Int))) none none = some (k, n, n) := by
  simp [aBounds, aBound, h]
theorem bnd_hi {n k : Nat} (h : k ≤ n) : aBounds n none (some (.int .i64 (k : Int))) none = some (0, k, n) := by
  simp [aBounds, aBound, h]
theorem repeat_ac (v : AV) (n : Nat) (h1 : 1 ≤ n) (hn : n ≤ 25) (H : AH) (Q : AV → AH → Prop) (hv : Ls H v [-1]) (h : ∀ v' H', OwnF H.length H' v' ((List.replicate n (-1 : Int)).map (.int .i64)) → Ext H H' → Q v' H') : AC Try.prog 86 [v, .int .i64 n] H Q := by
  refine L_body 48 Try.func86 rfl rfl ?_
  have hl := ls_len hv
  have w1 : IntKind.u64.wrap (n : Int) = n := wrap_u64 (by omega)
  have w2 : IntKind.i64.wrap (n : Int) = n := wrap_i64 (by omega)
  refine L_reg [0, 1] (fun K hK => ?_)
  simp
  apply hK; clear hK K
  refine L_reg [0, 1, 10] (fun K hK => ?_)
  simp
  apply hK; clear hK K
  refine L_false (by simp) ?_
  refine L_reg [0, 5, 6] (fun K hK => ?_)
  simp [okFn_low, hl, w1]
  refine mul_ac n hn _ _ ?_
  simp
  apply hK; clear hK K
  refine L_reg [0, 6, 26] (fun K hK => ?_)
  simp [pickV]
  apply hK; clear hK K
  refine L_false (by simp; omega) ?_
  refine L_reg [0, 7] (fun K hK => ?_)
  simp [w2, make_z elz22 (show n ≤ 16777216 by omega)]
  apply hK; clear hK K
  have d1 : (H ++ [AObj.row (List.replicate n (.int .i64 0)) 0 0 false])[H.length]? = some (.row ((([] : List Int) ++ [0] ++ List.replicate (n - 1) 0).map (.int .i64)) 0 0 false) := by
    obtain ⟨k, rfl⟩ : ∃ k, n = k + 1 := ⟨n - 1, by omega⟩
    simp [List.replicate_succ]
  have hE : Ext H (H ++ [AObj.row (List.replicate n (.int .i64 0)) 0 0 false]) := .push _ _
  generalize H ++ [AObj.row (List.replicate n (.int .i64 0)) 0 0 false] = H1 at d1 hE ⊢
  have hcp : aCopy Try.prog H1 22 (.slice (some H.length) 0 n 0 1 false) v = some (.int .i64 1, H1.set H.length (.row ((rp 1 n).map (.int .i64)) 0 (min 0 0) false)) := copy_mid (p := 0) (m := [-1]) (n := n) (v := v) d1 rfl rfl (by simp) (by simp; omega) (by
    obtain ⟨r, off, ver, sz, full, hve, hld⟩ := hv.ext hE
    obtain ⟨r', e1, e2, e3⟩ := hld 0 (by simp)
    subst e1 e2
    refine ⟨r', off, ver, full, 1, hve, by simp; omega, fun i hi => ?_⟩
    have : i = 0 := by simpa using hi
    subst this
    exact e3)
  refine L_reg [7, 8] (fun K hK => ?_)
  simp [hcp]
  apply hK; clear hK K
  refine L_block (L_loopV [8] (fun q vs H' => ∃ (k s : Nat), q = n - k ∧ 1 ≤ k ∧ k ≤ n ∧ vs = [.int .i64 k] ∧ Ext H H' ∧ H'[H.length]? = some (.row ((rp k n).map (.int .i64)) 0 s false)) _ [.int .i64 (1 : Nat)] rfl ⟨1, min 0 0, rfl, by omega, by omega, rfl, hE.set _ (Nat.le_refl _), get_set d1⟩ ?_)
  clear hcp d1 hE H1
  rintro q _ H1 ⟨k, s, rfl, hk1, hkn, rfl, hE, d1⟩
  refine L_reg [7, 8, 37] (fun K hK => ?_)
  simp
  apply hK; clear hK K
  refine L_dec (k < n) (by simp) (fun hlt => ?_) (fun hge => L_exit ?_)
  · refine L_block ?_
    obtain ⟨m, hm⟩ : ∃ m, min k (n - k) = m := ⟨_, rfl⟩
    have e1 : rp k n = List.replicate k (-1) ++ List.replicate m 0 ++ List.replicate (n - k - m) 0 := by
      rw [rp, List.append_assoc, List.replicate_append_replicate]; congr 2; omega
    have e2 : rp (k + m) n = List.replicate k (-1) ++ List.replicate m (-1) ++ List.replicate (n - k - m) 0 := by
      rw [rp, List.replicate_append_replicate]; congr 2; omega
    rw [e1] at d1
    have hrow : ∀ i, i < k → ld H1 H.length i 0 = some (.int .i64 (-1)) := by
      intro i hi
      rw [ld_row d1, List.getElem?_map, List.append_assoc, List.getElem?_append_left (by simpa using hi), List.getElem?_replicate, if_pos hi]
      rfl
    have hcp := copy_mid (p := k) (m := List.replicate m (-1)) (n := n - k) (v := .slice (some H.length) 0 k 0 1 false) d1 (by simp) (by simp) (by simp; omega) (by simp; omega) ⟨H.length, 0, 0, false, k, rfl, by simp; omega, fun i hi => by
      rw [Nat.zero_add, hrow i (by simp at hi; omega)]
      simp⟩
    have w3 : IntKind.i64.wrap ((k : Int) + (m : Nat)) = ((k + m : Nat) : Int) := by rw [wrap_i64 (by omega)]; omega
    simp only [List.length_replicate] at hcp
    refine L_regT mixed [7, 8] (by kernel_rfl) (fun K hK => ?_)
    simp [slice_sl slz22, hcp, w3, bnd_lo hkn, bnd_hi hkn]
    apply hK; clear hK K
    have := hE.1
    refine ⟨n - (k + m), [.int .i64 (k + m : Nat)], by omega, by simp, k + m, min s k, rfl, by omega, by omega, rfl, hE.set _ (Nat.le_refl _), ?_⟩
    rw [e2]
    have := get_set (o' := .row ((List.replicate k (-1 : Int) ++ List.replicate m (-1) ++ List.replicate (n - k - m) 0).map (.int .i64)) 0 (min s k) false) d1
    simpa using this
  · have e : k = n := by omega
    subst e
    have e1 : rp k k = List.replicate k (-1) := by simp [rp]
    rw [e1] at d1
    refine L_reg [4] (fun K hK => ?_)
    simp
    apply hK; clear hK K
    refine L_ret ⟨.inr rfl, _, rfl, h _ H1 (.inr ⟨H.length, 0, s, Nat.le_refl _, ?_, d1⟩) hE⟩
    simp
end Go.Proofs.Ytfbpgnjeafadmaa.Fl
