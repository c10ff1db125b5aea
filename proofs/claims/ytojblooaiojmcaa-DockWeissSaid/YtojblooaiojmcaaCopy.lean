/- Slices are copied; the reference's count. -/
import Derived.Test.YtojblooaiojmcaaMath3
namespace Go.Proofs.Ytojblooaiojmcaa
open Go Go.Proofs.Ytojblooaiojmcaa.AX

theorem ldn_ints {H : AH} {r ver : Nat} : ∀ {m : List Int} {p : Nat}, (∀ i (h : i < m.length), ld H r (p + i) ver = some (.int .i64 m[i])) → ldn H r ver m.length p = some (m.map (.int .i64))
  | [], _, _ => rfl
  | x :: m, p, h => by
    have h0 := h 0 (by simp)
    simp only [Nat.add_zero, List.getElem_cons_zero] at h0
    have h1 : ldn H r ver m.length (p + 1) = some (m.map (.int .i64)) := ldn_ints fun i hi => by
      have := h (i + 1) (by simpa using hi)
      simp only [List.getElem_cons_succ] at this
      rw [← this]; congr 1; omega
    rw [List.length_cons, ldn_succ, h0, Option.bind_some, h1]
    rfl
theorem src_ls {P : Program} {H : AH} {u : TypeId} {x : AV} {m : List Int} (hu : elT P u = true) (hx : Ls H x m) : aSrc P H u 1 x = some (m.length, m.map (.int .i64)) := by
  obtain ⟨e', I', g1, -⟩ := elT_some hu
  obtain ⟨r, off, ver, sz, full, rfl, hld⟩ := hx
  unfold aSrc
  rw [g1]
  cases m with
  | nil => cases r <;> simp
  | cons y m =>
    obtain ⟨r', rfl, rfl, -⟩ := hld 0 (by simp)
    have h1 : ldn H r' ver (y :: m).length off = some ((y :: m).map (.int .i64)) := ldn_ints fun i hi => by
      obtain ⟨r2, h2, -, h3⟩ := hld i hi
      obtain rfl := Option.some.inj h2
      exact h3
    simp only [Nat.mul_one, h1]
    simp
theorem all_ints (m : List Int) : (m.map (AV.int .i64)).all AV.one = true := by
  rw [List.all_eq_true]
  intro x hx
  obtain ⟨i, -, rfl⟩ := List.mem_map.1 hx
  rfl
/-- append([]int{}, x...) -/
theorem copy_append {P : Program} {H : AH} {t u : TypeId} (ht : elT P t = true) (hu : elT P u = true) {x : AV} {m : List Int} (hx : Ls H x m) (hm : m.length ≤ 16777216) :
    ∃ v' H', aAppend P (H ++ [.row [] 0 0 false]) t u (.slice (some H.length) 0 0 0 1 false) x = some (v', H') ∧ OwnF H.length H' v' (m.map (.int .i64)) ∧ Ext H H' := by
  obtain ⟨e, I, h1, h2, h3, h4, -⟩ := elT_some ht
  have hsrc := src_ls hu (hx.ext (.push H [.row [] 0 0 false]))
  have hall := all_ints m
  have hr : (H ++ [AObj.row [] 0 0 false])[H.length]? = some (.row [] 0 0 false) := by simp
  unfold aAppend
  cases m with
  | nil =>
    refine ⟨.slice (some H.length) 0 0 0 1 false, H ++ [.row [] 0 0 false], ?_, .inr ⟨H.length, 0, 0, Nat.le_refl _, rfl, hr⟩, .push _ _⟩
    simp only [List.length_nil, List.map_nil] at hsrc
    simp [h1, h2, h3, h4, hsrc]
  | cons y m =>
    refine ⟨.slice (some H.length) 0 (y :: m).length 1 1 false, (H ++ [AObj.row [] 0 0 false]).set H.length (.row ((y :: m).map (.int .i64)) 1 0 false), ?_, .inr ⟨H.length, 1, 0, Nat.le_refl _, by simp, by simp⟩, (Ext.push _ _).set _ (Nat.le_refl _)⟩
    have hlen : ((y :: m).map (AV.int .i64)).length = (y :: m).length := by simp
    generalize (y :: m).map (AV.int .i64) = vs at *
    have hne : (y :: m).length ≠ 0 := by simp
    generalize (y :: m).length = k at *
    simp [h1, h2, h3, h4, hsrc, hlen, hne, grow, hm]
    exact fun x hx => List.all_eq_true.1 hall x hx

theorem Ls.take {H : AH} {r : Option Nat} {off ver sz i : Nat} {full : Bool} {l : List Int} (h : Ls H (.slice r off l.length ver sz full) l) (hi : i ≤ l.length) (f : Bool) : Ls H (.slice r off i ver sz f) (l.take i) := by
  obtain ⟨r1, off1, ver1, sz1, full1, he, hld⟩ := h
  cases he
  refine ⟨r, off, ver, sz, f, by rw [List.length_take, Nat.min_eq_left hi], fun j hj => ?_⟩
  rw [List.length_take] at hj
  obtain ⟨r', h1, h2, h3⟩ := hld j (by omega)
  exact ⟨r', h1, h2, by rw [List.getElem_take]; exact h3⟩

theorem rcount_ac (n k : Nat) (v : AV) (l : List Nat) (H : AH) (Q : AV → AH → Prop) (hn : n ≤ 8) (hl : l.length ≤ 8) (hk : k ≤ 8) (hw : ∀ w ∈ l, w < n) (hv : Ls H v (l.map Int.ofNat))
    (h : Q (.int .i64 ((if -1 ∈ parkS n 0 l then 0 else tlF n k (setL n 0 l) : Nat) : Int)) H) : AC Try.prog 72 [.int .i64 n, v, .int .i64 k] H Q := by
  rw [← endS_tlF hw] at h
  refine L_body 13 Try.func72 rfl rfl ?_
  refine L_reg [0, 1, 2] (fun K hK => ?_)
  simp
  apply hK; clear hK K
  refine L_reg [6] (fun K hK => ?_)
  simp [okFn_low, wrap_i64 (a := (n : Int) - 1) (by omega)]
  refine endings_ac n v l hn hl n 0 k _ _ (Nat.le_refl _) hk (by omega) hv ?_
  simp
  apply hK; clear hK K
  exact L_ret ⟨.inr rfl, _, rfl, h⟩

theorem rCount_ac (n m : Int) (H : AH) (Q : AV → AH → Prop) (h : Q (.tuple [.int .i64 (countS n m), .int .i64 (cartsE n m)]) H) : AC Try.prog 34 [.int .i64 n, .int .i64 m] H Q := by
  refine L_body 18 Try.func34 rfl rfl ?_
  refine L_reg [0, 1] (fun K hK => ?_)
  simp
  apply hK; clear hK K
  by_cases h0 : cartsE n m = 0
  · obtain ⟨a, b, rfl, rfl, ha1, ha8, hb⟩ := cartsE_ok h0
    have hcs : countS a b = tlF a b 0 := by rw [countS, if_neg (by omega)]; rfl
    rw [hcs, h0] at h
    refine L_reg [0, 1, 14] (fun K hK => ?_)
    have c1 : (1 : Int) ≤ a := by omega
    have c2 : (a : Int) ≤ 8 := by omega
    have c3 : (b : Int) ≤ a := by omega
    simp [okFn_low]
    refine in_ac _ _ _ _ _ ?_
    simp [okFn_low, c1, c2]
    refine in_ac _ _ _ _ _ ?_
    simp
    apply hK; clear hK K
    refine L_false (by simp [hb]) ?_
    refine L_reg [4, 5] (fun K hK => ?_)
    simp [okFn_low]
    refine rcount_ac a b _ [] _ _ ha8 (by simp) (by omega) (by simp) (Ls.nil _) ?_
    simp
    apply hK; clear hK K
    exact L_ret ⟨.inr rfl, _, rfl, by simpa [parkS, setL] using h⟩
  · have h1 : cartsE n m = 1 := by
      unfold cartsE at *
      split at h0 <;> simp_all
    rw [countS, if_pos h0, h1] at h
    have hb : ¬ ((1 ≤ n ∧ n ≤ 8) ∧ 0 ≤ m ∧ m ≤ n) := by
      rintro ⟨⟨c1, c2⟩, c3, c4⟩
      apply h0
      unfold cartsE
      rcases okBays_cases n with ⟨ho, -⟩ | ⟨-, ho⟩
      · rw [ho, if_neg (by simp), if_neg (by omega)]
      · omega
    refine L_reg [0, 1, 14] (fun K hK => ?_)
    simp [okFn_low]
    refine in_ac _ _ _ _ _ ?_
    by_cases hc : 1 ≤ n ∧ n ≤ 8
    · simp [okFn_low, hc.1, hc.2]
      refine in_ac _ _ _ _ _ ?_
      simp
      apply hK; clear hK K
      refine L_true (by simp; omega) ?_
      refine L_reg [4, 5] (fun K hK => ?_)
      simp
      apply hK; clear hK K
      exact L_ret ⟨.inr rfl, _, rfl, h⟩
    · have : (decide (1 ≤ n) && decide (n ≤ 8)) = false := by simp; omega
      simp only [this]
      simp
      apply hK; clear hK K
      refine L_true (by simp) ?_
      refine L_reg [4, 5] (fun K hK => ?_)
      simp
      apply hK; clear hK K
      exact L_ret ⟨.inr rfl, _, rfl, h⟩
end Go.Proofs.Ytojblooaiojmcaa
