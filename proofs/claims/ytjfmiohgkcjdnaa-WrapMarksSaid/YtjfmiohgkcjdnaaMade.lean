/- Wrappers by numbers; how many marks are met; marks; lists that are equal. -/
import Derived.Test.YtjfmiohgkcjdnaaCe
namespace Go.Proofs.Ytjfmiohgkcjdnaa
open Go Go.Proofs.Ytjfmiohgkcjdnaa.AX

theorem lookup_none {x : Int} : ∀ {l : List (Int × AV)}, (∀ p ∈ l, x ≠ p.1) → l.lookup x = none
  | [], _ => rfl
  | p :: l, h => by
    have h1 : (x == p.1) = false := by simpa using h p (by simp)
    rw [List.lookup_cons, h1]; exact lookup_none fun q hq => h q (by simp [hq])
theorem putL_new {x : Int} {v : AV} : ∀ {l : List (Int × AV)}, (∀ p ∈ l, x ≠ p.1) → putL x v l = l ++ [(x, v)]
  | [], _ => rfl
  | p :: l, h => by
    have h1 : (x == p.1) = false := by simpa using h p (by simp)
    simp only [putL, h1, Bool.false_eq_true, if_false, List.cons_append]
    rw [putL_new fun q hq => h q (by simp [hq])]
def metL (m s k : Nat) : List (Int × AV) := (List.range k).map fun (j : Nat) => (((j * s % m : Nat) : Int), AV.bool true)
theorem metL_ne {m s k : Nat} (hm : 0 < m) (hk : k < per m s) : ∀ p ∈ metL m s k, ((k * s % m : Nat) : Int) ≠ p.1 := by
  intro p hp
  simp only [metL, List.mem_map, List.mem_range] at hp
  obtain ⟨j, hj, rfl⟩ := hp
  intro e
  have := mark_inj hm hk (show j < per m s by omega) (Int.natCast_inj.1 e)
  omega
theorem metL_zero {m s k : Nat} (hk : 0 < k) : (metL m s k).lookup 0 = some (.bool true) := by
  obtain ⟨k, rfl⟩ : ∃ k', k = k' + 1 := ⟨k - 1, by omega⟩
  have : metL m s (k + 1) = (((0 * s % m : Nat) : Int), AV.bool true) :: ((List.range k).map Nat.succ).map fun (j : Nat) => (((j * s % m : Nat) : Int), AV.bool true) := by
    unfold metL; rw [List.range_succ_eq_map]; rfl
  rw [this, List.lookup_cons]
  simp
theorem metL_succ (m s k : Nat) : metL m s (k + 1) = metL m s k ++ [(((k * s % m : Nat) : Int), AV.bool true)] := by
  unfold metL; rw [List.range_succ, List.map_append]; rfl
theorem step_mark (m s k : Nat) : (k * s % m + s) % m = (k + 1) * s % m := by rw [Nat.mod_add_mod, Nat.add_mul, Nat.one_mul]
set_option maxRecDepth 100000 in
theorem diff_ac0 (m s : Nat) (h1 : 1 ≤ m) (h2 : m ≤ 100) (h3 : s < m) (H : AH) (Q : AV → AH → Prop) (h : ∀ H', Ext H H' → Q (.int .i64 (per m s : Nat)) H') : AC Try.prog 49 [.int .i64 m, .int .i64 s] H Q := by
  refine L_body 23 Try.func49 rfl rfl ?_
  refine L_reg [0, 1] (fun K hK => ?_)
  simp
  apply hK; clear hK K
  refine L_reg [0, 1, 5] (fun K hK => ?_)
  simp
  apply hK; clear hK K
  refine L_reg [0, 1, 5, 6, 7] (fun K hK => ?_)
  simp [make_I mt93]
  apply hK; clear hK K
  have hM : MapI (H ++ [AObj.map (mapL [])]) H.length (metL m s 0) := by simp [MapI, metL]
  have hE := Ext.push H [AObj.map (mapL [])]
  generalize H ++ [AObj.map (mapL [])] = H1 at hM hE ⊢
  generalize hq : H.length = q at *
  have hpp := per_pos (m := m) (s := s) (by omega)
  have hpm := per_le m s
  refine L_block (L_loopV [5, 6] (fun n vs H' => ∃ k : Nat, n = per m s - k ∧ k ≤ per m s ∧ vs = [.int .i64 k, .int .i64 (k * s % m : Nat)] ∧ MapI H' q (metL m s k) ∧ Ext H H') _ [.int .i64 (0 : Nat), .int .i64 (0 : Nat)] rfl ⟨0, rfl, by omega, by simp, hM, hE⟩ ?_)
  clear hM hE H1
  rintro n _ H1 ⟨k, rfl, hk, rfl, hM, hE⟩
  have hml : k * s % m < m := Nat.mod_lt _ (by omega)
  by_cases hlt : k < per m s
  · have hne := metL_ne (by omega) hlt
    have hlook := look_I (ok := false) mt93 hM (k := ((k * s % m : Nat) : Int))
    rw [lookup_none hne] at hlook
    have hput := put_I mt93 hM (k := ((k * s % m : Nat) : Int)) (v := .bool true)
    rw [putL_new hne, ← metL_succ] at hput
    have hst := step_mark m s k
    generalize k * s % m = w at hlook hput hst hml
    refine L_reg [0, 1, 5, 6, 7, 12] (fun K hK => ?_)
    simp [hlook, lookV]
    apply hK; clear hK K
    refine L_true rfl ?_
    refine L_block ?_
    refine L_reg [0, 1, 5, 6, 7] (fun K hK => ?_)
    simp [hput]
    apply hK; clear hK K
    refine L_reg [0, 1, 5, 6, 7] (fun K hK => ?_)
    simp [wrap_i64 (a := (k : Int) + 1) (by omega)]
    apply hK; clear hK K
    have hne : m ≠ 0 := by omega
    have e2 : ((w : Int) + s).tmod m = (((k + 1) * s % m : Nat) : Int) := by
      rw [show (w : Int) + s = ((w + s : Nat) : Int) by omega, Int.tmod_eq_emod_of_nonneg (by omega), ← hst]; rfl
    generalize hw2 : (k + 1) * s % m = w2 at e2
    refine L_reg [0, 1, 5, 6, 7] (fun K hK => ?_)
    simp [hne, wrap_i64 (a := (w : Int) + s) (by omega), e2]
    apply hK; clear hK K
    refine ⟨per m s - (k + 1), [.int .i64 (k + 1 : Nat), .int .i64 w2], by omega, by simp, k + 1, rfl, by omega, by rw [hw2], ?_, hE.set _ (by omega)⟩
    have hql := (List.getElem?_eq_some_iff.1 hM).1
    simp [MapI, hql]
  · have hk' : k = per m s := by omega
    have hz : k * s % m = 0 := (per_dvd (by omega)).2 (by rw [hk']; exact Nat.dvd_refl _)
    have hlook := look_I (ok := false) mt93 hM (k := ((k * s % m : Nat) : Int))
    rw [hz] at hlook
    rw [show ((0 : Nat) : Int) = 0 from rfl, metL_zero (by omega)] at hlook
    rw [hz]
    refine L_reg [0, 1, 5, 6, 7, 12] (fun K hK => ?_)
    simp [hlook, lookV]
    apply hK; clear hK K
    refine L_false rfl (L_exit ?_)
    refine L_reg [4] (fun K hK => ?_)
    simp
    apply hK; clear hK K
    exact L_ret ⟨.inr rfl, _, rfl, by rw [hk']; exact h _ hE⟩
theorem diff_ac (m s : Nat) (h1 : 1 ≤ m) (h2 : m ≤ 100) (h3 : s < m) (H : AH) (Q : AV → AH → Prop) (h : Q (.int .i64 (per m s : Nat)) H) : AC Try.prog 49 [.int .i64 m, .int .i64 s] H Q :=
  AC.quiet (belB_int _ _ _ _) (fun Q h => diff_ac0 m s h1 h2 h3 H Q h) Q h
end Go.Proofs.Ytjfmiohgkcjdnaa
