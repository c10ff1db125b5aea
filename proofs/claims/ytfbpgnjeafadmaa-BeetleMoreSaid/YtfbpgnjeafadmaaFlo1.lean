/- Marks as values, bales beside bales, and what is reached. -/
import Derived.Test.YtfbpgnjeafadmaaTF
import Derived.Test.YtfbpgnjeafadmaaFldM
namespace Go.Proofs.Ytfbpgnjeafadmaa.Fl
open Go Go.Proofs.Ytfbpgnjeafadmaa Go.Proofs.Ytfbpgnjeafadmaa.AX

theorem rem_nat (a b : Nat) : ((a : Int)).tmod (b : Int) = ((a % b : Nat) : Int) := by
  rw [Int.tmod_eq_emod_of_nonneg (Int.natCast_nonneg _)]; simp
theorem quo_nat (a b : Nat) : ((a : Int)).tdiv (b : Int) = ((a / b : Nat) : Int) := by
  rw [Int.tdiv_eq_ediv_of_nonneg (Int.natCast_nonneg _)]; simp
def bA (S : Nat → Bool) : List AV := (mk S).map .bool
def mA (S : Nat → Bool) : AV := .agg (bA S)
def fA (r c : Nat) : AV := .agg [.int .i64 r, .int .i64 c]
theorem bA_len (S : Nat → Bool) : (bA S).length = 25 := by simp [bA, mk_len]
theorem bA_get (S : Nat → Bool) {i : Nat} (hi : i < 25) : (bA S)[i]? = some (.bool (S i)) := by
  rw [bA, List.getElem?_map, mk_get hi]; rfl
theorem bA_set (S : Nat → Bool) (i : Nat) (v : Bool) : (bA S).set i (.bool v) = bA (upd S i v) := by
  rw [bA, ← List.map_set, mk_set]; rfl
theorem bA_one (S : Nat → Bool) : ∀ v ∈ bA S, v.one = true := by
  intro x hx
  obtain ⟨y, -, rfl⟩ := List.mem_map.1 hx; rfl
theorem bA_known (S : Nat → Bool) : ∀ v ∈ bA S, v ≠ .undef := fun v hv => one_known (bA_one S v hv)
theorem bA_ext {S T : Nat → Bool} (h : ∀ b, b < 25 → S b = T b) : bA S = bA T := by
  rw [bA, bA, mk_eq.2 h]
theorem take_all : ∀ {l : List AV}, (∀ v ∈ l, v ≠ .undef) → takeKnown l.length l = some l
  | [], _ => rfl
  | v :: l, h => by
    have h1 : known (some v) = some v := by
      have := h v (by simp)
      cases v <;> simp_all [known]
    rw [List.length_cons, takeKnown_succ, List.getElem?_cons_zero, h1, List.drop_succ_cons, List.drop_zero, take_all (fun x hx => h x (by simp [hx]))]
    rfl
variable {H : AH} {p s i : Nat} {S T O : Nat → Bool} {ro : Bool}
theorem ld_b (hr : H[p]? = some (.row (bA S) 0 s ro)) (hi : i < 25) : ld H p i 0 = some (.bool (S i)) := by
  rw [ld_row hr, bA_get S hi]; rfl
theorem ldn_b (hr : H[p]? = some (.row (bA S) 0 s ro)) : ldn H p 0 25 0 = some (bA S) := by
  rw [ldn_row hr]
  simpa [bA_len] using take_all (bA_known S)
theorem ldn_f {r c : Nat} (hr : H[p]? = some (.row [.int .i64 r, .int .i64 c] 0 s ro)) : ldn H p 0 2 0 = some [.int .i64 r, .int .i64 c] := by
  rw [ldn_row hr]; rfl
theorem ld_f0 {r c : Nat} (hr : H[p]? = some (.row [.int .i64 r, .int .i64 c] 0 s ro)) : ld H p 0 0 = some (.int .i64 r) := by
  rw [ld_row hr]; rfl
theorem ld_f1 {r c : Nat} (hr : H[p]? = some (.row [.int .i64 r, .int .i64 c] 0 s ro)) : ld H p 1 0 = some (.int .i64 c) := by
  rw [ld_row hr]; rfl
theorem st_b {v : Bool} (hr : H[p]? = some (.row (bA S) 0 s false)) (hi : i < 25) : storeV Try.prog 4 H (.ptr p i 0) (.bool v) = some (none, H.set p (.row (bA (upd S i v)) 0 (min s i) false)) := by
  rw [store_row (P := Try.prog) (u := 4) (p := i) sc4 (x := .bool v) (y := .bool (S i)) rfl hr (by rw [bA_get S hi]; rfl), bA_set]
theorem st_m (hr : H[p]? = some (.row (bA S) 0 s false)) : storeV Try.prog 79 H (.ptr p 0 0) (.agg (bA T)) = some (none, H.set p (.row (bA T) 0 0 false)) :=
  store_agg ag79 hr (by decide) (bA_len S) (bA_known S) (bA_len T) (bA_one T)
theorem zt79' : zeroT Try.prog 79 = some (bA none') := by rw [zt79]; rfl
theorem belB_m (N : Nat) (S : Nat → Bool) : belB N 4 (.agg (bA S)) = true := by
  simp only [belB, List.all_eq_true]
  intro v hv
  obtain ⟨y, -, rfl⟩ := List.mem_map.1 hv
  exact belB_bool _ _ _
theorem ix79 (hi : i < 25) : aIndex Try.prog 79 (.agg (bA S)) (.int .i64 i) = some (.bool (S i)) := by
  obtain ⟨ie, hie⟩ := info_of_underlying Try.underlying4
  have hs : ie.size = 1 := by
    have : (Try.prog.info? 4).map (·.size) = some 1 := by kernel_rfl
    rw [hie] at this; simpa using this
  have h1 : aPart Try.prog 4 (bA S) (i * 1) = some (.bool (S i)) := by
    unfold aPart
    rw [Try.underlying4, hie]
    simp only []
    rw [if_neg (by decide), Nat.mul_one, bA_get S hi]
  unfold aIndex
  rw [Try.underlying79]
  simp only [hie, Option.bind_some, Int.toNat_natCast, hs, h1]
  rw [if_pos ⟨by omega, by omega⟩]
theorem eqAll_map (P : Program) {d : Nat} {e : TypeId} (he : P.underlying e = some .bool) (f g : Nat → Bool) : ∀ L : List Nat, eqAll (L.map fun i => (some (AV.bool (f i)), some (AV.bool (g i)), eqV P (d + 1) e)) = some (L.all fun i => f i == g i)
  | [] => rfl
  | x :: L => by
    have h1 : eqV P (d + 1) e (.bool (f x)) (.bool (g x)) = some (f x == g x) := by
      simp [eqV, he]
    rw [List.map_cons, eqAll, h1]
    cases h : f x == g x with
    | true => simp only [List.all_cons, h, Bool.true_and]; exact eqAll_map P he f g L
    | false => simp [h]
theorem eqV79 : eqV Try.prog 4 79 (.agg (bA S)) (.agg (bA T)) = some ((List.range 25).all fun i => S i == T i) := by
  obtain ⟨ie, hie⟩ := info_of_underlying Try.underlying4
  have hs : ie.size = 1 := by
    have : (Try.prog.info? 4).map (·.size) = some 1 := by kernel_rfl
    rw [hie] at this; simpa using this
  have hp : ∀ (S : Nat → Bool) (i : Nat), i < 25 → aPart Try.prog 4 (bA S) (i * ie.size) = some (.bool (S i)) := by
    intro S i hi
    unfold aPart
    rw [Try.underlying4, hie]
    simp only []
    rw [if_neg (by decide), hs, Nat.mul_one, bA_get S hi]
  unfold eqV
  rw [Try.underlying79]
  simp only [hie]
  rw [← eqAll_map Try.prog (d := 2) Try.underlying4 S T (List.range 25)]
  refine congrArg eqAll ?_
  exact List.map_congr_left fun i hi => by rw [hp S i (List.mem_range.1 hi), hp T i (List.mem_range.1 hi)]
theorem eg79 : Try.prog.eqGuardType Try.prog.depth 79 = false := by kernel_rfl
theorem b_eqB (l : Bool) : binV Try.prog .eql 79 l (.agg (bA S)) (.agg (bA T)) = some (.bool ((List.range 25).all fun i => S i == T i)) := by
  simp [binV, aBin, aCmp, aEqA, eqV79]
theorem b_neB (l : Bool) : binV Try.prog .neq 79 l (.agg (bA S)) (.agg (bA T)) = some (.bool (!(List.range 25).all fun i => S i == T i)) := by
  simp [binV, aBin, aCmp, aEqA, eqV79]
theorem all_eq : ((List.range 25).all fun i => S i == T i) = true ↔ ∀ b, b < 25 → S b = T b := by
  simp [List.all_eq_true]

theorem bes_eq (r c : Nat) (S : Nat → Bool) (b : Nat) : bes r c S b = (if decide (0 < b / c) && S (b - c) then 1 else 0) + (if decide (b / c + 1 < r) && S (b + c) then 1 else 0) + (if decide (0 < b % c) && S (b - 1) then 1 else 0) + (if decide (b % c + 1 < c) && S (b + 1) then 1 else 0) := by
  unfold bes nbs
  simp only [List.countP_append]
  congr 1
  · congr 1
    · congr 1
      · by_cases h : 0 < b / c <;> simp [h]
      · by_cases h : b / c + 1 < r <;> simp [h]
    · by_cases h : 0 < b % c <;> simp [h]
  · by_cases h : b % c + 1 < c <;> simp [h]
/-- Sides of a store. -/
structure Sd (r c : Nat) : Prop where
  r1 : 1 ≤ r
  r5 : r ≤ 5
  c1 : 1 ≤ c
  c5 : c ≤ 5
theorem Sd.le {r c : Nat} (h : Sd r c) : r * c ≤ 25 := Nat.mul_le_mul h.r5 h.c5
theorem Sd.pos {r c : Nat} (h : Sd r c) : 1 ≤ r * c := Nat.mul_pos h.r1 h.c1
theorem size_q {r c n : Nat} (hs : Sd r c) (hn : r * c = n) (H : AH) (Q : AV → AH → Prop) (h : Q (.int .i64 n) H) : AC Try.prog 58 [.agg [.int .i64 r, .int .i64 c]] H Q := by
  refine AC.quiet (belB_int _ _ _ _) (fun Q h => ?_) Q h
  have h5 := hs.le
  have e : (r : Int) * c = n := by rw [← hn]; simp
  rw [hn] at h5
  refine L_body 8 Try.func58 rfl rfl ?_
  refine L_reg [1] (fun K hK => ?_)
  simp [AV.isU, acells]
  apply hK; clear hK K
  have h1 : (H ++ [AObj.row [.int .i64 r, .int .i64 c] 0 0 false])[H.length]? = some (.row [.int .i64 r, .int .i64 c] 0 0 false) := by simp
  have hE : Ext H (H ++ [AObj.row [.int .i64 r, .int .i64 c] 0 0 false]) := .push _ _
  generalize H ++ [AObj.row [.int .i64 r, .int .i64 c] 0 0 false] = H1 at h1 hE ⊢
  have a0 := ld_f0 h1
  have a1 := ld_f1 h1
  refine L_reg [2] (fun K hK => ?_)
  simp [a0, a1, e, wrap_i64 (a := (n : Int)) (by omega)]
  apply hK; clear hK K
  exact L_ret ⟨.inr rfl, _, rfl, h _ hE⟩
theorem has_q {r c n : Nat} (hs : Sd r c) (hn : r * c = n) (x : Int) (H : AH) (Q : AV → AH → Prop) (h : Q (.bool (decide (0 ≤ x ∧ x < n))) H) : AC Try.prog 68 [.agg [.int .i64 r, .int .i64 c], .int .i64 x] H Q := by
  refine AC.quiet (belB_bool _ _ _) (fun Q h => ?_) Q h
  refine L_body 13 Try.func68 rfl rfl ?_
  refine L_reg [1, 2] (fun K hK => ?_)
  simp [AV.isU, acells]
  apply hK; clear hK K
  have h1 : (H ++ [AObj.row [.int .i64 r, .int .i64 c] 0 0 false])[H.length]? = some (.row [.int .i64 r, .int .i64 c] 0 0 false) := by simp
  have hE : Ext H (H ++ [AObj.row [.int .i64 r, .int .i64 c] 0 0 false]) := .push _ _
  generalize H ++ [AObj.row [.int .i64 r, .int .i64 c] 0 0 false] = H1 at h1 hE ⊢
  have a0 := ldn_f h1
  by_cases hx : 0 ≤ x
  · refine L_reg [4] (fun K hK => ?_)
    simp [okFn_low, hx, a0]
    refine size_q hs hn _ _ ?_
    simp [pickV]
    apply hK; clear hK K
    refine L_ret ⟨.inr rfl, _, rfl, ?_⟩
    simpa [hx] using h _ hE
  · refine L_reg [4] (fun K hK => ?_)
    simp [hx, pickV]
    apply hK; clear hK K
    refine L_ret ⟨.inr rfl, _, rfl, ?_⟩
    simpa [hx] using h _ hE
end Go.Proofs.Ytfbpgnjeafadmaa.Fl
