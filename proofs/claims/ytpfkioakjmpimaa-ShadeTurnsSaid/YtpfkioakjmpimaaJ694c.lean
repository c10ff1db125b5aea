/- Joined texts: OrdF, OrdG, OrdH, TurM, Vis55, WTurns, Bytes. -/
import Derived.Test.YtpfkioakjmpimaaJ694b
import Derived.Test.YtpfkioakjmpimaaJ694a
/- Orders: Number, of the program and of the reference. -/
namespace Go.Proofs.Ytpfkioakjmpimaa
open Go Go.Proofs.Ytpfkioakjmpimaa.AX
set_option linter.unusedVariables false
/-- How many turning orders come before, by the first i places. -/
def nu (l : List Int) : Nat → Int := sumN fun j => sumN (folS l.length (l.take j)) (g l j).toNat
def nuE (l : List Int) : Int := if orE l = 0 then (if altB l = true then 0 else 12) else orE l
def nuV (l : List Int) : Int := if nuE l = 0 then nu l l.length else 0
theorem sumN_ub {f : Nat → Int} {M : Int} : ∀ {n : Nat}, (∀ i, i < n → 0 ≤ f i ∧ f i ≤ M) → 0 ≤ sumN f n ∧ sumN f n ≤ M * n
  | 0, _ => by simp [sumN]
  | n + 1, h => by
    have h1 := sumN_ub (f := f) (M := M) (n := n) fun i hi => h i (by omega)
    have h2 := h n (by omega)
    simp only [sumN]
    rw [show ((n + 1 : Nat) : Int) = (n : Int) + 1 by omega, Int.mul_add]
    omega
structure Ord (l : List Int) : Prop where
  h1 : 1 ≤ l.length
  h9 : l.length ≤ 9
  rg : ∀ i, i < l.length → 0 ≤ g l i ∧ g l i < l.length
  bg : ∀ i, i ≤ l.length → Beg l.length (l.take i)
  nm : ∀ i, i < l.length → g l i ∉ l.take i
theorem ord_of {l : List Int} (h : orE l = 0) : Ord l := by
  obtain ⟨h1, h2, h3⟩ := orE_all h
  refine ⟨h1, h2, fun i hi => ?_, fun i hi => or_beg hi fun j hj => h3 j (by omega), fun i hi => ?_⟩
  · have := h3 i hi
    unfold orAt at this
    split at this
    · rename_i c; exact c
    · cases this
  · have := h3 i hi
    unfold orAt at this
    split at this
    · split at this
      · cases this
      · rename_i m; exact m
    · cases this
theorem Ord.fb {l : List Int} (h : Ord l) {i : Nat} (hi : i < l.length) : ∀ x, x < l.length → 0 ≤ folS l.length (l.take i) x ∧ folS l.length (l.take i) x ≤ 100000 := fun x hx =>
  fol_bd h.h9 (h.bg i (by omega)) (by simp; omega) hx
theorem Ord.ib {l : List Int} (h : Ord l) {i x : Nat} (hi : i < l.length) (hx : x ≤ l.length) : 0 ≤ sumN (folS l.length (l.take i)) x ∧ sumN (folS l.length (l.take i)) x ≤ 1000000 := by
  have := sumN_ub (f := folS l.length (l.take i)) (M := 100000) (n := x) fun y hy => h.fb hi y (by omega)
  have := h.h9
  omega
theorem Ord.nb {l : List Int} (h : Ord l) {i : Nat} (hi : i ≤ l.length) : 0 ≤ nu l i ∧ nu l i ≤ 10000000 := by
  have := sumN_ub (f := fun j => sumN (folS l.length (l.take j)) (g l j).toNat) (M := 1000000) (n := i) fun j hj => h.ib (by omega) (by have := h.rg j (by omega); omega)
  have := h.h9
  show 0 ≤ sumN _ i ∧ sumN _ i ≤ _
  omega
set_option maxRecDepth 100000 in
theorem Number_ac (v : AV) (l : List Int) (H : AH) (Q : AV → AH → Prop) (hlen : l.length ≤ 1000000) (hv : Ls H v l) (h : Q (.tuple [.int .i64 (nuV l), .int .i64 (nuE l)]) H) : AC Try.prog 43 [v] H Q := by
  have hl := ls_len hv
  refine L_body 43 Try.func43 rfl rfl ?_
  refine L_reg [0] (fun K hK => ?_)
  simp
  apply hK; clear hK K
  refine L_reg [0, 4, 5] (fun K hK => ?_)
  simp [okFn_low]
  refine Turning_ac v l _ _ hlen hv ?_
  simp
  apply hK; clear hK K
  refine L_reg [0, 4, 5, 16] (fun K hK => ?_)
  simp
  apply hK; clear hK K
  by_cases he : orE l = 0
  · refine L_false (by simp [he]) ?_
    have ht : turB l = altB l := by unfold turB; rw [if_pos he]
    refine L_reg [0, 19] (fun K hK => ?_)
    simp [ht]
    apply hK; clear hK K
    cases ha : altB l with
    | false =>
      have e1 : nuE l = 12 := by unfold nuE; rw [if_pos he, ha]; rfl
      have e2 : nuV l = 0 := by unfold nuV; rw [e1]; rfl
      rw [e1, e2] at h
      refine L_true rfl ?_
      refine L_reg [2, 3] (fun K hK => ?_)
      simp
      apply hK; clear hK K
      exact L_ret ⟨.inr rfl, _, rfl, h⟩
    | true =>
      have e1 : nuE l = 0 := by unfold nuE; rw [if_pos he, ha]; rfl
      have e2 : nuV l = nu l l.length := by unfold nuV; rw [if_pos e1]
      rw [e1, e2] at h
      have hO := ord_of he
      refine L_false rfl ?_
      refine L_reg [0, 6] (fun K hK => ?_)
      simp
      apply hK; clear hK K
      refine L_reg [0, 6, 20, 21, 22] (fun K hK => ?_)
      simp [hl]
      apply hK; clear hK K
      refine L_block (L_loopV [6, 22] (fun n vs H' => ∃ i : Nat, n = l.length - i ∧ i ≤ l.length ∧ vs = [.int .i64 (nu l i), .int .i64 i] ∧ H = H') _ [.int .i64 0, .int .i64 0] rfl ⟨0, rfl, by omega, rfl, rfl⟩ ?_)
      rintro _ _ _ ⟨i, rfl, hi, rfl, rfl⟩
      refine L_reg [0, 6, 20, 21, 22, 23] (fun K hK => ?_)
      simp
      apply hK; clear hK K
      refine L_dec (i < l.length) (by simp) (fun hlt => ?_) (fun hge => L_exit ?_)
      · refine L_block ?_
        obtain ⟨rz, pz, vz, hix, hld⟩ := ls_ix hv hlt
        have hg := hO.rg i hlt
        have hnb := hO.nb hi
        have hnx : nu l (i + 1) = nu l i + sumN (folS l.length (l.take i)) (g l i).toNat := rfl
        obtain ⟨y, hy⟩ : ∃ y : Nat, g l i = y := ⟨(g l i).toNat, by omega⟩
        rw [hy] at hg hnx hld
        rw [show ((y : Int)).toNat = y by omega] at hnx
        refine L_reg [0, 6, 7, 8, 20, 21, 22] (fun K hK => ?_)
        simp [hix, hld]
        apply hK; clear hK K
        refine L_reg [0, 6, 7, 20, 21, 22, 27, 28] (fun K hK => ?_)
        simp
        apply hK; clear hK K
        refine L_block (L_loopV [6, 28] (fun n vs H' => ∃ x : Nat, n = y - x ∧ x ≤ y ∧ vs = [.int .i64 (nu l i + sumN (folS l.length (l.take i)) x), .int .i64 x] ∧ H = H') _ [.int .i64 (nu l i), .int .i64 0] rfl ⟨0, rfl, by omega, by simp [sumN], rfl⟩ ?_)
        rintro _ _ _ ⟨x, rfl, hx, rfl, rfl⟩
        refine L_reg [0, 6, 7, 20, 21, 22, 27, 28, 29] (fun K hK => ?_)
        simp
        apply hK; clear hK K
        refine L_dec (x < y) (by simp) (fun hlx => ?_) (fun hgx => L_exit ?_)
        · refine L_block ?_
          refine L_reg [0, 6, 7, 9, 20, 21, 22, 27, 28] (fun K hK => ?_)
          simp
          apply hK; clear hK K
          obtain ⟨u, hu1, hu2⟩ := ls_hi hv (by omega) (m := i) (by omega)
          have hsb := hO.ib hlt (x := x) (by omega)
          have hfb := hO.fb hlt x (by omega)
          refine L_reg [0, 6, 7, 20, 21, 22, 27, 28] (fun K hK => ?_)
          simp [okFn_low, hl, hu1]
          refine following_ac l.length u (l.take i) x _ _ hO.h9 (hO.bg i hi) (by simp; omega) (by omega) hu2 ?_
          simp [wrap_i64 (a := nu l i + sumN (folS l.length (l.take i)) x + folS l.length (l.take i) x) (by omega)]
          apply hK; clear hK K
          refine L_reg [0, 6, 7, 20, 21, 22, 27, 28] (fun K hK => ?_)
          simp [wrap_i64 (a := (x : Int) + 1) (by omega)]
          apply hK; clear hK K
          exact ⟨y - (x + 1), [.int .i64 (nu l i + sumN (folS l.length (l.take i)) (x + 1)), .int .i64 (x + 1 : Nat)], by omega, by simp [sumN, Int.add_assoc], x + 1, rfl, by omega, rfl, rfl⟩
        · obtain rfl : x = y := by omega
          refine L_reg [0, 6, 20, 21, 22] (fun K hK => ?_)
          simp [wrap_i64 (a := (i : Int) + 1) (by omega)]
          apply hK; clear hK K
          exact ⟨l.length - (i + 1), [.int .i64 (nu l (i + 1)), .int .i64 (i + 1 : Nat)], by omega, by simp [hnx], i + 1, rfl, by omega, rfl, rfl⟩
      · obtain rfl : i = l.length := by omega
        refine L_reg [2, 3] (fun K hK => ?_)
        simp
        apply hK; clear hK K
        exact L_ret ⟨.inr rfl, _, rfl, h⟩
  · have e1 : nuE l = orE l := by unfold nuE; rw [if_neg he]
    have e2 : nuV l = 0 := by unfold nuV; rw [e1, if_neg he]
    rw [e1, e2] at h
    refine L_true (by simp [he]) ?_
    refine L_reg [2, 3] (fun K hK => ?_)
    simp
    apply hK; clear hK K
    exact L_ret ⟨.inr rfl, _, rfl, h⟩
end Go.Proofs.Ytpfkioakjmpimaa

/- Orders: At, of the program and of the reference. -/
namespace Go.Proofs.Ytpfkioakjmpimaa
open Go Go.Proofs.Ytpfkioakjmpimaa.AX
set_option linter.unusedVariables false
/-- Where a number falls among sums. -/
def Falls (F : Nat → Int) (k : Int) (x : Nat) : Prop := sumN F x ≤ k ∧ k < sumN F (x + 1)
theorem falls_ex {F : Nat → Int} {k : Int} (h0 : 0 ≤ k) : ∀ {n : Nat}, k < sumN F n → ∃ x, x < n ∧ Falls F k x
  | 0, h => by simp only [sumN] at h; omega
  | n + 1, h => by
    by_cases c : k < sumN F n
    · obtain ⟨x, h1, h2⟩ := falls_ex h0 c
      exact ⟨x, by omega, h2⟩
    · exact ⟨n, by omega, by omega, h⟩
theorem sumN_mono {F : Nat → Int} {n : Nat} (hF : ∀ i, i < n → 0 ≤ F i) : ∀ {x y : Nat}, x ≤ y → y ≤ n → sumN F x ≤ sumN F y
  | x, 0, h, _ => by rw [show x = 0 by omega]; exact Int.le_refl _
  | x, y + 1, h, hy => by
    by_cases e : x = y + 1
    · rw [e]; exact Int.le_refl _
    · have h1 := sumN_mono hF (x := x) (y := y) (by omega) (by omega)
      have h2 := hF y (by omega)
      simp only [sumN]; omega
/-- The first i numbers of the order that has a number, and what is left of it. -/
structure At (n : Nat) (k : Int) (o : List Int) (r : Int) : Prop where
  bg : Beg n o
  alt : altB o = true
  ge : 0 ≤ r
  lt : r < if o.length = n then 1 else sumN (folS n o) n
theorem at_next {n : Nat} {k r : Int} {o : List Int} (h9 : n ≤ 9) (h : At n k o r) (hl : o.length < n) : ∃ x, x < n ∧ Falls (folS n o) r x ∧ (x : Int) ∉ o ∧ At n k (o ++ [(x : Int)]) (r - sumN (folS n o) x) := by
  have hlt := h.lt
  rw [if_neg (by omega)] at hlt
  obtain ⟨x, hx, h1, h2⟩ := falls_ex h.ge hlt
  have hs : sumN (folS n o) (x + 1) = sumN (folS n o) x + folS n o x := rfl
  have hpos : 0 < folS n o x := by omega
  have hm : (x : Int) ∉ o := fun m => by
    have : folS n o x = 0 := by unfold folS; rw [if_pos (.inl m)]
    omega
  have ha : altB (o ++ [(x : Int)]) = true := by
    cases e : altB (o ++ [(x : Int)]) with
    | true => rfl
    | false =>
      have : folS n o x = 0 := by unfold folS; rw [if_pos (.inr e)]
      omega
  refine ⟨x, hx, ⟨h1, h2⟩, hm, h.bg.snoc hx hm, ha, by omega, ?_⟩
  have hc := cnt_fol n (n - 1 - o.length) o x h.bg (by omega) hx hm
  by_cases e : (o ++ [(x : Int)]).length = n
  · rw [if_pos e]
    have e2 : n - 1 - o.length = 0 := by simp at e; omega
    rw [e2] at hc
    unfold cntS at hc
    rw [ha, if_neg (by simp)] at hc
    omega
  · rw [if_neg e]
    obtain ⟨d, hd⟩ : ∃ d, n - 1 - o.length = d + 1 := ⟨n - 1 - o.length - 1, by simp at e; omega⟩
    rw [hd] at hc
    unfold cntS at hc
    rw [ha, if_neg (by simp)] at hc
    have e3 : sumN (fun y => if (y : Int) ∈ o ++ [(x : Int)] then 0 else cntS n d (o ++ [(x : Int)] ++ [(y : Int)])) n = sumN (folS n (o ++ [(x : Int)])) n := sumN_eq fun y hy => by
      by_cases m : (y : Int) ∈ o ++ [(x : Int)]
      · rw [if_pos m]; unfold folS; rw [if_pos (.inl m)]
      · rw [if_neg m, cnt_fol n d (o ++ [(x : Int)]) y (h.bg.snoc hx hm) (by simp; omega) hy m]
    rw [e3] at hc
    omega
theorem at_start {n : Nat} {k : Int} (h1 : 1 ≤ n) (hk : 0 ≤ k ∧ k < ec n) : At n k [] k := by
  refine ⟨.nil n, by simp [altB], hk.1, ?_⟩
  rw [if_neg (by simp; omega)]
  have : sumN (folS n []) n = ec n := by
    obtain ⟨m, rfl⟩ : ∃ m, n = m + 1 := ⟨n - 1, by omega⟩
    unfold ec
    rw [sum_N, ern_len, Nat.add_sub_cancel]
    exact sumN_eq fun x hx => by rw [fol_nil]; unfold eb; rw [Nat.add_sub_cancel]
  omega
/-- The steps from the beginning of an order to all of it. -/
inductive Path (n : Nat) : List Int → Int → List Int → Prop
  | done {o : List Int} {r : Int} : o.length = n → Path n o r o
  | next {o o' : List Int} {r : Int} {x : Nat} : o.length < n → x < n → Falls (folS n o) r x → (x : Int) ∉ o → Path n (o ++ [(x : Int)]) (r - sumN (folS n o) x) o' → Path n o r o'
theorem Path.inv {n : Nat} {o o' : List Int} {r : Int} (h : Path n o r o') (hl : o.length < n) : ∃ x, x < n ∧ Falls (folS n o) r x ∧ Path n (o ++ [(x : Int)]) (r - sumN (folS n o) x) o' := by
  cases h with
  | done hd => omega
  | next _ hx hf _ hp => exact ⟨_, hx, hf, hp⟩
theorem Path.fin {n : Nat} {o o' : List Int} {r : Int} (h : Path n o r o') (hl : ¬ o.length < n) : o' = o := by
  cases h with
  | done hd => rfl
  | next hl2 _ _ _ _ => exact absurd hl2 hl
theorem falls_eq {F : Nat → Int} {n : Nat} {k : Int} (hF : ∀ i, i < n → 0 ≤ F i) {x y : Nat} (hx : x < n) (hy : y < n) (h1 : Falls F k x) (h2 : Falls F k y) : x = y := by
  rcases Nat.lt_trichotomy x y with c | c | c
  · have h3 := sumN_mono hF (x := x + 1) (y := y) (by omega) (by omega)
    have := h1.2; have := h2.1; omega
  · exact c
  · have h3 := sumN_mono hF (x := y + 1) (y := x) (by omega) (by omega)
    have := h2.2; have := h1.1; omega
set_option maxRecDepth 100000 in
theorem pick_ac (n : Nat) (v : AV) (b : List Int) (k : Int) (x : Nat) (H : AH) (Q : AV → AH → Prop) (h9 : n ≤ 9) (hb : Beg n b) (hl : b.length < n) (hx : x < n) (hk : Falls (folS n b) k x) (hv : Ls H v b) (h : Q (.tuple [.int .i64 x, .int .i64 (sumN (folS n b) x)]) H) : AC Try.prog 83 [.int .i64 n, v, .int .i64 k] H Q := by
  have hF : ∀ i, i < n → 0 ≤ folS n b i ∧ folS n b i ≤ 100000 := fun i hi => fol_bd h9 hb hl hi
  refine L_body 28 Try.func83 rfl rfl ?_
  refine L_reg [0, 1, 2, 6, 7] (fun K hK => ?_)
  simp
  apply hK; clear hK K
  refine L_reg [0, 1, 2, 6, 7, 9, 10] (fun K hK => ?_)
  simp
  apply hK; clear hK K
  refine L_block (L_loopV [6, 7, 10] (fun m vs H' => ∃ (y : Nat) (z : Int), m = n - y ∧ y ≤ x ∧ vs = [.int .i64 z, .int .i64 (sumN (folS n b) y), .int .i64 y] ∧ H = H') _ [.int .i64 0, .int .i64 0, .int .i64 0] rfl ⟨0, 0, rfl, by omega, rfl, rfl⟩ ?_)
  rintro _ _ _ ⟨y, z, rfl, hy, rfl, rfl⟩
  have hsb := sumN_ub (f := folS n b) (M := 100000) (n := y) fun i hi => hF i (by omega)
  have hfb := hF y (by omega)
  refine L_reg [0, 1, 2, 6, 7, 9, 10, 11] (fun K hK => ?_)
  simp
  apply hK; clear hK K
  refine L_true (by simp; omega) ?_
  refine L_block ?_
  refine L_reg [0, 1, 2, 6, 7, 9, 10] (fun K hK => ?_)
  simp
  apply hK; clear hK K
  refine L_reg [0, 1, 2, 6, 7, 8, 9, 10] (fun K hK => ?_)
  simp [okFn_low]
  refine following_ac n v b y _ _ h9 hb hl (by omega) hv ?_
  simp
  apply hK; clear hK K
  have hs : sumN (folS n b) (y + 1) = sumN (folS n b) y + folS n b y := rfl
  refine L_reg [0, 1, 2, 6, 7, 8, 9, 10, 21] (fun K hK => ?_)
  simp [wrap_i64 (a := sumN (folS n b) y + folS n b y) (by omega)]
  apply hK; clear hK K
  by_cases c : y = x
  · subst c
    refine L_true (by simp; have := hk.2; omega) ?_
    refine L_exit ?_
    refine L_reg [6, 7] (fun K hK => ?_)
    simp
    apply hK; clear hK K
    exact L_ret ⟨.inr rfl, _, rfl, h⟩
  · have hm := sumN_mono (F := folS n b) (n := n) (fun i hi => (hF i hi).1) (x := y + 1) (y := x) (by omega) (by omega)
    refine L_false (by simp; have := hk.1; omega) ?_
    refine L_reg [0, 1, 2, 6, 7, 9, 10] (fun K hK => ?_)
    simp [wrap_i64 (a := sumN (folS n b) y + folS n b y) (by omega)]
    apply hK; clear hK K
    refine L_reg [0, 1, 2, 6, 7, 9, 10] (fun K hK => ?_)
    simp [wrap_i64 (a := (y : Int) + 1) (by omega)]
    apply hK; clear hK K
    exact ⟨n - (y + 1), [.int .i64 y, .int .i64 (sumN (folS n b) (y + 1)), .int .i64 (y + 1 : Nat)], by omega, by simp [hs], y + 1, _, rfl, by omega, rfl, rfl⟩
def atE (n k : Int) : Int := if (1 ≤ n ∧ n ≤ 9) ∧ 0 ≤ k ∧ k < ec n.toNat then 0 else 1
theorem ec_bd : ∀ n, n ≤ 9 → 0 ≤ ec n ∧ ec n ≤ 100000 := by decide
set_option maxRecDepth 100000 in
theorem At_ac (n k : Int) (o : List Int) (H : AH) (Q : AV → AH → Prop) (ho : atE n k = 0 → Path n.toNat [] k o) (ho2 : atE n k ≠ 0 → o = []) (h : ∀ w H', Ls H' w o → Ext H H' → Q (.tuple [w, .int .i64 (atE n k)]) H') : AC Try.prog 41 [.int .i64 n, .int .i64 k] H Q := by
  refine L_body 41 Try.func41 rfl rfl ?_
  refine L_reg [0, 1] (fun K hK => ?_)
  simp
  apply hK; clear hK K
  by_cases a : 1 ≤ n ∧ n ≤ 9
  · obtain ⟨m, rfl⟩ : ∃ m : Nat, n = m := ⟨n.toNat, by omega⟩
    have hec := ec_bd m (by omega)
    by_cases a4 : k < 0
    · have e : atE m k = 1 := by unfold atE; rw [if_neg (by omega)]
      rw [e] at h ho2
      refine L_reg [0, 1, 21] (fun K hK => ?_)
      simp [okFn_low]
      refine isOrder_ac _ true (by simp [a]) _ _ ?_
      simp [pickV, a4]
      apply hK; clear hK K
      refine L_true rfl ?_
      refine L_reg [4, 5] (fun K hK => ?_)
      simp
      apply hK; clear hK K
      have := ho2 (by decide); subst this
      exact L_ret ⟨.inr rfl, _, rfl, (h _ H (.nil _) (.refl _))⟩
    · by_cases a5 : ec m ≤ k
      · have e : atE m k = 1 := by unfold atE; rw [if_neg (by simp; omega)]
        rw [e] at h ho2
        refine L_reg [0, 1, 21] (fun K hK => ?_)
        simp [okFn_low]
        refine isOrder_ac _ true (by simp [a]) _ _ ?_
        simp [okFn_low, pickV, a4]
        refine count_ac m (by omega) (by omega) _ _ ?_
        simp [pickV, a5]
        apply hK; clear hK K
        refine L_true rfl ?_
        refine L_reg [4, 5] (fun K hK => ?_)
        simp
        apply hK; clear hK K
        have := ho2 (by decide); subst this
        exact L_ret ⟨.inr rfl, _, rfl, (h _ H (.nil _) (.refl _))⟩
      · have e : atE m k = 0 := by unfold atE; rw [if_pos (by simp; omega)]
        rw [e] at h ho ho2
        have hp := ho rfl
        rw [show ((m : Int)).toNat = m by omega] at hp
        refine L_reg [0, 1, 21] (fun K hK => ?_)
        simp [okFn_low]
        refine isOrder_ac _ true (by simp [a]) _ _ ?_
        simp [okFn_low, pickV, a4]
        refine count_ac m (by omega) (by omega) _ _ ?_
        simp [pickV, a5]
        apply hK; clear hK K
        refine L_false rfl ?_
        refine L_reg [0, 1, 6] (fun K hK => ?_)
        simp
        apply hK; clear hK K
        refine L_reg [0, 1, 6, 22, 23] (fun K hK => ?_)
        simp
        apply hK; clear hK K
        have hk1 : -1000000 ≤ k ∧ k ≤ 1000000 := by omega
        refine L_block (L_loopV [1, 6, 23] (fun q vs H' => ∃ (b : List Int) (w : AV) (r : Int), q = m - b.length ∧ b.length ≤ m ∧ Path m b r o ∧ At m k b r ∧ r ≤ 1000000 ∧ vs = [.int .i64 r, w, .int .i64 b.length] ∧ Ls H' w b ∧ Ext H H') _ [.int .i64 k, .slice none 0 0 0 1 false, .int .i64 0] rfl ⟨[], _, k, rfl, by simp, hp, at_start (by omega) (by omega), by omega, rfl, .nil _, .refl _⟩ ?_)
        rintro _ _ H1 ⟨b, w, r, rfl, hbl, hP, hA, hr, rfl, hw, hE⟩
        refine L_reg [0, 1, 6, 22, 23, 24] (fun K hK => ?_)
        simp
        apply hK; clear hK K
        refine L_dec (b.length < m) (by simp) (fun hlt => ?_) (fun hge => L_exit ?_)
        · refine L_block ?_
          obtain ⟨x, hx, hfl, hP2⟩ := hP.inv hlt
          obtain ⟨x', hx', hfl', -, hA'⟩ := at_next (by omega) hA hlt
          have hF : ∀ i, i < m → 0 ≤ folS m b i ∧ folS m b i ≤ 100000 := fun i hi => fol_bd (by omega) hA.bg hlt hi
          have hxx : x' = x := falls_eq (fun i hi => (hF i hi).1) hx' hx hfl' hfl
          subst hxx
          have hsb := sumN_ub (f := folS m b) (M := 100000) (n := x') fun i hi => hF i (by omega)
          have hsb2 := hfl.1
          refine L_reg [0, 1, 6, 7, 8, 22, 23] (fun K hK => ?_)
          simp [okFn_low]
          refine pick_ac m w b r x' _ _ (by omega) hA.bg hlt hx hfl hw ?_
          simp
          apply hK; clear hK K
          have hE1 : Ext H1 (H1 ++ [AObj.row [AV.int .i64 x'] 0 1 false]) := .push _ _
          have hs : Ls (H1 ++ [AObj.row [AV.int .i64 x'] 0 1 false]) (.slice (some H1.length) 0 1 0 1 false) [(x' : Int)] := Ls.row (ro := false) (l := [(x' : Int)]) (s := 1) (by simp) false
          refine L_reg [0, 1, 6, 8, 22, 23] (fun K hK => ?_)
          simp [okFn_low]
          refine joined_ac w _ b [(x' : Int)] _ _ (by simp) (by simp; omega) (hw.ext hE1) hs (fun w2 H2 hO hE2 => ?_)
          simp
          apply hK; clear hK K
          refine L_reg [0, 1, 6, 22, 23] (fun K hK => ?_)
          simp [wrap_i64 (a := r - sumN (folS m b) x') (by omega)]
          apply hK; clear hK K
          refine L_reg [0, 1, 6, 22, 23] (fun K hK => ?_)
          simp [wrap_i64 (a := (b.length : Int) + 1) (by omega)]
          apply hK; clear hK K
          exact ⟨m - (b ++ [(x' : Int)]).length, [.int .i64 (r - sumN (folS m b) x'), w2, .int .i64 (b ++ [(x' : Int)]).length], by simp; omega, by simp, b ++ [(x' : Int)], w2, _, rfl, by simp; omega, hP2, hA', by omega, rfl, hO.own.ls, hE.trans (hE1.trans hE2)⟩
        · have := hP.fin (by omega)
          subst this
          refine L_reg [4, 5] (fun K hK => ?_)
          simp
          apply hK; clear hK K
          exact L_ret ⟨.inr rfl, _, rfl, (h w H1 hw hE)⟩
  · have e : atE n k = 1 := by unfold atE; rw [if_neg (fun h => a h.1)]
    rw [e] at h ho2
    refine L_reg [0, 1, 21] (fun K hK => ?_)
    simp [okFn_low]
    refine isOrder_ac _ false (by simp; omega) _ _ ?_
    simp [pickV]
    apply hK; clear hK K
    refine L_true rfl ?_
    refine L_reg [4, 5] (fun K hK => ?_)
    simp
    apply hK; clear hK K
    have := ho2 (by decide); subst this
    exact L_ret ⟨.inr rfl, _, rfl, (h _ H (.nil _) (.refl _))⟩
end Go.Proofs.Ytpfkioakjmpimaa

/- Orders: At, of the reference; and the law's walk. -/
namespace Go.Proofs.Ytpfkioakjmpimaa
open Go Go.Proofs.Ytpfkioakjmpimaa.AX
set_option linter.unusedVariables false
theorem Path.len {n : Nat} {o o' : List Int} {r : Int} (h : Path n o r o') : o'.length = n := by
  induction h with
  | done hd => exact hd
  | next _ _ _ _ _ ih => exact ih
end Go.Proofs.Ytpfkioakjmpimaa

/- Turning orders in the order of all arrangements: the mathematics. -/
namespace Go.Proofs.Ytpfkioakjmpimaa
open Go Go.Proofs.Ytpfkioakjmpimaa.AX
set_option linter.unusedVariables false
/-- The numbers from 0 on. -/
def iot (n : Nat) : List Int := (List.range n).map fun (i : Nat) => (i : Int)
theorem iot_len (n : Nat) : (iot n).length = n := by simp [iot]
theorem g_iot {n i : Nat} (h : i < n) : g (iot n) i = i := by rw [g_lt (by rw [iot_len]; exact h)]; simp [iot]
theorem iot_asc (n : Nat) : Asc (iot n) := fun i j hij hj => by
  rw [iot_len] at hj
  rw [g_iot (by omega), g_iot hj]; omega
/-- How many turning orders came, and how many of them begin with each number. -/
def tally (st : Int × List Int) (l : List Int) : Int × List Int := if altB l = true then (st.1 + 1, st.2.set (g l 0).toNat (g st.2 (g l 0).toNat + 1)) else st
/-- A turning order has the number of those that came before. -/
def asks (n : Nat) (st : Int × List Int) (l : List Int) : Prop := altB l = true → st.1 = nu l n
/-- By the numbers that have begun. -/
def nuP (n : Nat) (b : List Int) : Int := sumN (fun j => sumN (folS n (b.take j)) (g b j).toNat) b.length
theorem nuP_snoc (n : Nat) (b : List Int) (x : Nat) : nuP n (b ++ [(x : Int)]) = nuP n b + sumN (folS n b) x := by
  unfold nuP
  rw [show (b ++ [(x : Int)]).length = b.length + 1 by simp]
  simp only [sumN]
  have e : sumN (fun j => sumN (folS n ((b ++ [(x : Int)]).take j)) (g (b ++ [(x : Int)]) j).toNat) b.length = sumN (fun j => sumN (folS n (b.take j)) (g b j).toNat) b.length := sumN_eq fun j hj => by
    rw [g_app1 hj, List.take_append_of_le_length (by omega)]
  rw [e, g_app2 (Nat.le_refl _), Nat.sub_self, List.take_append_of_le_length (Nat.le_refl _), List.take_length]
  rfl
theorem alt_take {b q : List Int} (h : altB (b ++ q) = true) : altB b = true := by
  rw [altB_iff] at h ⊢
  intro i hi
  have := h i (by simp; omega)
  unfold altAt at this ⊢
  rwa [g_app1 (by omega), g_app1 (by omega)] at this
theorem cnt_dead {n : Nat} : ∀ {d : Nat} {b : List Int}, altB b = false → cntS n d b = 0
  | 0, b, h => by unfold cntS; rw [h]; rfl
  | d + 1, b, h => by unfold cntS; rw [h]; rfl
/-- What the tally becomes by all orders that begin so. -/
def add (st : Int × List Int) (k : Nat) (c : Int) : Int × List Int := (st.1 + c, st.2.set k (g st.2 k + c))
theorem add_zero {st : Int × List Int} {k : Nat} (hk : k < st.2.length) : add st k 0 = st := by
  unfold add
  refine Prod.ext (by simp) ?_
  refine g_ext (by simp) fun i hi => ?_
  rw [g_set hk]; split
  · rename_i e; rw [e]; simp
  · rfl
theorem add_add {st : Int × List Int} {k : Nat} (hk : k < st.2.length) (a b : Int) : add (add st k a) k b = add st k (a + b) := by
  unfold add
  refine Prod.ext (by simp; omega) ?_
  refine g_ext (by simp) fun i hi => ?_
  simp only
  rw [g_set (by simpa using hk), g_set hk, g_set hk, g_set hk]
  split
  · rename_i e; simp; omega
  · rfl
theorem add_len (st : Int × List Int) (k : Nat) (c : Int) : (add st k c).2.length = st.2.length := by simp [add]
/-- The indices left are the numbers that have not begun. -/
def Left (n : Nat) (b : List Int) (I : List Nat) : Prop := I.Nodup ∧ ∀ i, i ∈ I ↔ i < n ∧ (i : Int) ∉ b
theorem Left.step {n : Nat} {b : List Int} {I : List Nat} (h : Left n b I) (i : Nat) : Left n (b ++ [(i : Int)]) (I.erase i) := ⟨h.1.erase _, fun j => by
  rw [h.1.mem_erase_iff, h.2 j]
  simp only [List.mem_append, List.mem_singleton]
  constructor
  · rintro ⟨h1, h2, h3⟩
    exact ⟨h2, fun hc => by rcases hc with hc | hc; exact h3 hc; omega⟩
  · rintro ⟨h1, h2⟩
    exact ⟨fun e => h2 (.inr (by omega)), h1, fun hc => h2 (.inl hc)⟩⟩
theorem fst_iff {n : Nat} {b : List Int} {I : List Nat} (h : Left n b I) {i : Nat} (hi : i < n) : fst' (iot n) I i ↔ (i : Int) ∉ b := by
  constructor
  · rintro ⟨h1, -⟩; exact ((h.2 i).1 h1).2
  · intro hm
    refine ⟨(h.2 i).2 ⟨hi, hm⟩, fun j hj hlt he => ?_⟩
    rw [g_iot (by omega), g_iot hi] at he; omega
/-- The tally goes through all orders that begin with some numbers, of which the first is k. -/
theorem tally_all {n : Nat} : ∀ (d : Nat) (b : List Int) (I : List Nat) (st : Int × List Int) (k : Nat), Beg n b → b.length + d = n → Left n b I → 1 ≤ b.length → g b 0 = k → k < st.2.length → st.1 = nuP n b →
    AllPre (asks n) tally st (enI (iot n) d b I) ∧ (enI (iot n) d b I).foldl tally st = add st k (cntS n d b)
  | 0, b, I, st, k, hB, hd, hL, h1, hk, hkl, hst => by
    have hn : nu b n = nuP n b := by unfold nu nuP; rw [show b.length = n by omega]
    refine ⟨⟨fun _ => by rw [hn, hst], trivial⟩, ?_⟩
    show tally st b = _
    unfold tally cntS
    cases ha : altB b with
    | true => rw [if_pos rfl, if_neg (by simp), hk]; rfl
    | false => rw [if_neg (by simp), if_pos rfl, add_zero hkl]
  | d + 1, b, I, st, k, hB, hd, hL, h1, hk, hkl, hst => by
    have key : ∀ m, m ≤ n → AllPre (asks n) tally st ((List.range m).flatMap fun i => if fst' (iot n) I i then enI (iot n) d (b ++ [g (iot n) i]) (I.erase i) else []) ∧ ((List.range m).flatMap fun i => if fst' (iot n) I i then enI (iot n) d (b ++ [g (iot n) i]) (I.erase i) else []).foldl tally st = add st k (sumN (folS n b) m) := by
      intro m
      induction m with
      | zero => intro _; exact ⟨trivial, (add_zero hkl).symm⟩
      | succ m ih =>
        intro hm
        obtain ⟨i1, i2⟩ := ih (by omega)
        rw [List.range_succ, List.flatMap_append, pre_app, List.foldl_append, i2]
        simp only [List.flatMap_cons, List.flatMap_nil, List.append_nil]
        by_cases c : (m : Int) ∈ b
        · rw [if_neg (fun h => (fst_iff hL (by omega)).1 h c)]
          have e : folS n b m = 0 := by unfold folS; rw [if_pos (.inl c)]
          refine ⟨⟨i1, trivial⟩, ?_⟩
          show add st k (sumN (folS n b) m) = add st k (sumN (folS n b) m + folS n b m)
          rw [e, Int.add_zero]
        · rw [if_pos ((fst_iff hL (by omega)).2 c), g_iot (by omega)]
          have hl := add_len st k (sumN (folS n b) m)
          obtain ⟨j1, j2⟩ := tally_all d (b ++ [(m : Int)]) (I.erase m) (add st k (sumN (folS n b) m)) k (hB.snoc (by omega) c) (by simp; omega) (hL.step m) (by simp) (by rw [g_app1 (by omega)]; exact hk) (by omega) (by rw [nuP_snoc, ← hst]; rfl)
          refine ⟨⟨i1, j1⟩, ?_⟩
          rw [j2, add_add hkl, cnt_fol n d b m hB (by omega) (by omega) c]
          rfl
    obtain ⟨k1, k2⟩ := key n (Nat.le_refl _)
    have hil : (iot n).length = n := iot_len n
    refine ⟨by simp only [enI, hil]; exact k1, ?_⟩
    simp only [enI, hil]
    rw [k2]
    cases ha : altB b with
    | true =>
      have : cntS n (d + 1) b = sumN (folS n b) n := by
        unfold cntS
        rw [ha, if_neg (by simp)]
        exact sumN_eq fun x hx => by
          by_cases c : (x : Int) ∈ b
          · rw [if_pos c]; unfold folS; rw [if_pos (.inl c)]
          · rw [if_neg c, cnt_fol n d b x hB (by omega) hx c]
      rw [this]
    | false =>
      rw [cnt_dead ha]
      have : sumN (folS n b) n = 0 := by
        have h0 : ∀ x, x < n → folS n b x = 0 := fun x hx => by
          unfold folS
          rw [if_pos]
          right
          cases e : altB (b ++ [(x : Int)]) with
          | false => rfl
          | true => rw [alt_take e] at ha; cases ha
        have h1 := sumN_eq (f := folS n b) (h := fun _ => 0) (n := n) h0
        rw [h1]
        have zz : ∀ n, sumN (fun _ => 0) n = 0 := fun n => by induction n with
          | zero => rfl
          | succ n ih => simp only [sumN, ih]; rfl
        exact zz n
      rw [this]
/-- All of it: the numbers of the triangle. -/
theorem tally_en {n : Nat} (h1 : 1 ≤ n) (h8 : n ≤ 8) : AllPre (asks n) tally (0, List.replicate 8 0) (en (iot n)) ∧ ∃ B : List Int, (en (iot n)).foldl tally (0, List.replicate 8 0) = (ec n, B) ∧ B.length = 8 ∧ ∀ j, j < n → g B j = eb n j := by
  obtain ⟨d, rfl⟩ : ∃ d, n = d + 1 := ⟨n - 1, by omega⟩
  obtain ⟨I0, hI0⟩ : ∃ I0, I0 = List.range (d + 1) := ⟨_, rfl⟩
  have hL : Left (d + 1) [] I0 := by rw [hI0]; exact ⟨List.nodup_range, fun i => by simp⟩
  have key : ∀ m, m ≤ d + 1 → AllPre (asks (d + 1)) tally (0, List.replicate 8 0) ((List.range m).flatMap fun i => if fst' (iot (d + 1)) I0 i then enI (iot (d + 1)) d ([] ++ [g (iot (d + 1)) i]) (I0.erase i) else []) ∧
      ∃ B : List Int, ((List.range m).flatMap fun i => if fst' (iot (d + 1)) I0 i then enI (iot (d + 1)) d ([] ++ [g (iot (d + 1)) i]) (I0.erase i) else []).foldl tally (0, List.replicate 8 0) = (sumN (eb (d + 1)) m, B) ∧ B.length = 8 ∧ (∀ j, j < m → g B j = eb (d + 1) j) ∧ ∀ j, m ≤ j → j < 8 → g B j = 0 := by
    intro m
    induction m with
    | zero => intro _; exact ⟨trivial, _, rfl, by simp, fun j hj => by omega, fun j _ hj => by simp only [g, List.getD_eq_getElem?_getD, List.getElem?_replicate, if_pos hj]; rfl⟩
    | succ m ih =>
      intro hm
      obtain ⟨i1, B, i2, i3, i4, i5⟩ := ih (by omega)
      rw [List.range_succ, List.flatMap_append, pre_app, List.foldl_append, i2]
      simp only [List.flatMap_cons, List.flatMap_nil, List.append_nil]
      rw [if_pos ((fst_iff hL (by omega)).2 (by simp)), g_iot (by omega)]
      have hB := (Beg.nil (d + 1)).snoc (x := m) (by omega) (by simp)
      obtain ⟨j1, j2⟩ := tally_all d ([] ++ [(m : Int)]) (I0.erase m) (sumN (eb (d + 1)) m, B) m hB (by simp; omega) (hL.step m) (by simp) rfl (by simp; omega) (by
        rw [nuP_snoc]
        show _ = 0 + _
        rw [Int.zero_add]
        exact sumN_eq fun x hx => (fol_nil (d + 1)).symm)
      refine ⟨⟨i1, j1⟩, (add (sumN (eb (d + 1)) m, B) m (cntS (d + 1) d ([] ++ [(m : Int)]))).2, ?_, by rw [add_len]; exact i3, fun j hj => ?_, fun j hj hj8 => ?_⟩
      · rw [j2, cnt_fol (d + 1) d [] m (.nil _) (by simp; omega) (by omega) (by simp), fol_nil]
        rfl
      · rw [cnt_fol (d + 1) d [] m (.nil _) (by simp; omega) (by omega) (by simp), fol_nil]
        unfold add
        simp only
        rw [g_set (by omega)]
        split
        · rename_i e; rw [i5 m (Nat.le_refl _) (by omega), e]; omega
        · exact i4 j (by omega)
      · unfold add
        simp only
        rw [g_set (by omega), if_neg (by omega)]
        exact i5 j (by omega) hj8
  obtain ⟨k1, B, k2, k3, k4, -⟩ := key (d + 1) (Nat.le_refl _)
  have hil : (iot (d + 1)).length = d + 1 := iot_len _
  unfold en
  rw [hil, ← hI0]
  refine ⟨by simp only [enI, hil]; exact k1, B, ?_, k3, k4⟩
  simp only [enI, hil]
  rw [k2]
  congr 1
  unfold ec
  rw [sum_N, ern_len, Nat.add_sub_cancel]
  exact sumN_eq fun x hx => by unfold eb; rw [Nat.add_sub_cancel]
end Go.Proofs.Ytpfkioakjmpimaa

/- Turning orders: what the law's visitor asks of each arrangement. -/
namespace Go.Proofs.Ytpfkioakjmpimaa
open Go Go.Proofs.Ytpfkioakjmpimaa.AX
set_option linter.unusedVariables false
theorem nu_next {l : List Int} {i : Nat} : nu l (i + 1) = nu l i + sumN (folS l.length (l.take i)) (g l i).toNat := rfl
/-- A turning order is what its number leads to. -/
theorem path_of {l : List Int} (hO : Ord l) (ha : altB l = true) : ∀ (e i : Nat), i + e = l.length → nu l l.length - nu l i < cntS l.length e (l.take i) ∧ nu l i ≤ nu l l.length ∧ Path l.length (l.take i) (nu l l.length - nu l i) l
  | 0, i, h => by
    obtain rfl : i = l.length := by omega
    rw [List.take_length]
    refine ⟨?_, Int.le_refl _, .done rfl⟩
    unfold cntS; rw [ha, if_neg (by simp)]; omega
  | e + 1, i, h => by
    have hi : i < l.length := by omega
    obtain ⟨h1, h2, h3⟩ := path_of hO ha e (i + 1) (by omega)
    have hg := hO.rg i hi
    have hn := nu_next (l := l) (i := i)
    have ht := take_snoc hi
    have hm := hO.nm i hi
    obtain ⟨x, hx⟩ : ∃ x : Nat, g l i = x := ⟨(g l i).toNat, by omega⟩
    rw [hx, show ((x : Int)).toNat = x by omega] at hn
    rw [hx] at ht hm hg
    rw [ht] at h1 h3
    have hB := hO.bg i (by omega)
    have hlen : (l.take i).length = i := by simp; omega
    rw [cnt_fol l.length e (l.take i) x hB (by omega) (by omega) hm] at h1
    have hF := hO.fb hi
    have hib := hO.ib hi (x := x) (by omega)
    have hs : sumN (folS l.length (l.take i)) (x + 1) = sumN (folS l.length (l.take i)) x + folS l.length (l.take i) x := rfl
    have hmo := sumN_mono (F := folS l.length (l.take i)) (n := l.length) (fun y hy => (hF y hy).1) (x := x + 1) (y := l.length) (by omega) (Nat.le_refl _)
    have hat : altB (l.take i) = true := alt_take (b := l.take i) (q := l.drop i) (by rw [List.take_append_drop]; exact ha)
    refine ⟨?_, by omega, ?_⟩
    · have : cntS l.length (e + 1) (l.take i) = sumN (folS l.length (l.take i)) l.length := by
        unfold cntS
        rw [hat, if_neg (by simp)]
        exact sumN_eq fun y hy => by
          by_cases c : (y : Int) ∈ l.take i
          · rw [if_pos c]; unfold folS; rw [if_pos (.inl c)]
          · rw [if_neg c, cnt_fol l.length e (l.take i) y hB (by omega) hy c]
      omega
    · refine .next (x := x) (by omega) (by omega) ⟨by omega, by omega⟩ hm ?_
      have : nu l l.length - nu l i - sumN (folS l.length (l.take i)) x = nu l l.length - nu l (i + 1) := by omega
      rw [this]; exact h3
theorem ord_perm {n : Nat} (h1 : 1 ≤ n) (h9 : n ≤ 9) {l : List Int} (hp : l.Perm (iot n)) : orE l = 0 := by
  have hl : l.length = n := by rw [hp.length_eq, iot_len]
  have hnd : l.Nodup := by
    refine (hp.nodup_iff).2 ?_
    unfold iot
    rw [List.nodup_iff_pairwise_ne, List.pairwise_map]
    exact (List.nodup_iff_pairwise_ne.1 List.nodup_range).imp fun h e => h (by omega)
  refine orE_ok (by unfold lenE; rw [if_neg (by omega), if_neg (by omega)]) fun i hi => ?_
  unfold orAt
  have hm := hp.mem_iff.1 (gmem hi)
  unfold iot at hm
  obtain ⟨x, hx, e⟩ := List.mem_map.1 hm
  have hx := List.mem_range.1 hx
  rw [if_pos (by omega), if_neg]
  intro hmt
  obtain ⟨j, hj, e2⟩ := memg hmt
  have hj' : j < i := by simp at hj; omega
  have : g (l.take i) j = g l j := by
    unfold g; simp only [List.getD_eq_getElem?_getD, List.getElem?_take]; rw [if_pos hj']
  rw [this] at e2
  exact nodup_ne hnd hj' hi e2
theorem eq_bx (l a b : Bool) : binV Try.prog .eql 4 l (.bool a) (.bool b) = some (.bool (a == b)) := by
  cases a <;> cases b <;> simp [binV, aBin, aCmp, Try.underlying4]
theorem eq_bb (l a : Bool) : binV Try.prog .eql 4 l (.bool a) (.bool a) = some (.bool true) := by
  cases a <;> simp [binV, aBin, aCmp, Try.underlying4]
def Wt (pg pc pb : Nat) : Nat → Prop := fun j => j = pg ∨ j = pc ∨ j = pb
structure TS (pg pn pc pb n : Nat) (st : Int × List Int) (H : AH) : Prop where
  g : ∃ m, H[pg]? = some (.row [.bool true] 0 m false)
  n : ∃ m, H[pn]? = some (.row [.int .i64 n] 0 m false)
  c : ∃ m, H[pc]? = some (.row [.int .i64 st.1] 0 m false)
  b : ∃ m, H[pb]? = some (.row (st.2.map (.int .i64)) 0 m false)
  len : st.2.length = 8
  bd : 0 ≤ st.1 ∧ ∀ j, j < 8 → 0 ≤ Go.Proofs.Ytpfkioakjmpimaa.g st.2 j ∧ Go.Proofs.Ytpfkioakjmpimaa.g st.2 j ≤ st.1
theorem TS.ext {pg pn pc pb n : Nat} {st : Int × List Int} {H H' : AH} (h : TS pg pn pc pb n st H) (hE : Ext H H') : TS pg pn pc pb n st H' := by
  obtain ⟨⟨m, a⟩, ⟨n, b⟩, ⟨o, c⟩, ⟨p, d⟩, e, f⟩ := h
  exact ⟨⟨m, hE.row a⟩, ⟨n, hE.row b⟩, ⟨o, hE.row c⟩, ⟨p, hE.row d⟩, e, f⟩
theorem TS.good {pg pn pc pb n : Nat} {st : Int × List Int} {H : AH} (h : TS pg pn pc pb n st H) (h1 : pg ≠ pn) (h2 : pg ≠ pc) (h3 : pg ≠ pb) : ∃ H', storeV Try.prog 4 H (.ptr pg 0 0) (.bool true) = some (none, H') ∧ TS pg pn pc pb n st H' ∧ Kp (Wt pg pc pb) H H' := by
  obtain ⟨⟨m, a⟩, ⟨n, b⟩, ⟨o, c⟩, ⟨p, d⟩, e, f⟩ := h
  have s := store_row (P := Try.prog) sc4 (r := pg) (x := .bool true) (y := .bool true) (p := 0) rfl a rfl
  refine ⟨_, s, ⟨⟨_, get_set a⟩, ⟨n, by rw [List.getElem?_set_ne h1, b]⟩, ⟨o, by rw [List.getElem?_set_ne h2, c]⟩, ⟨p, by rw [List.getElem?_set_ne h3, d]⟩, e, f⟩, ⟨by simp, fun j _ hw => by rw [List.getElem?_set_ne (fun e => hw (.inl e.symm))]⟩⟩
theorem TS.lds {pg pn pc pb n : Nat} {st : Int × List Int} {H : AH} (h : TS pg pn pc pb n st H) : ld H pg 0 0 = some (.bool true) ∧ ld H pn 0 0 = some (.int .i64 n) ∧ ld H pc 0 0 = some (.int .i64 st.1) := by
  obtain ⟨⟨m, a⟩, ⟨n, b⟩, ⟨o, c⟩, -, -, -⟩ := h
  exact ⟨by rw [ld_row a]; rfl, by rw [ld_row b]; rfl, by rw [ld_row c]; rfl⟩
set_option maxRecDepth 100000 in
set_option maxHeartbeats 2000000 in
theorem vis55 {n : Nat} (h1 : 1 ≤ n) (h7 : n ≤ 7) {pg pn pc pb N : Nat} (d1 : pg ≠ pn) (d2 : pg ≠ pc) (d3 : pg ≠ pb) (d4 : pn ≠ pc) (d5 : pn ≠ pb) (d6 : pc ≠ pb) (l1 : pg < N) (l2 : pc < N) (l3 : pb < N) : VisP (iot n) (Wt pg pc pb) N 55 [.ptr pg 0 0, .ptr pn 0 0, .ptr pc 0 0, .ptr pb 0 0] (TS pg pn pc pb n) tally (asks n) where
  ok := by kernel_rfl
  lt j h := by rcases h with rfl | rfl | rfl <;> assumption
  ext st H H' h hE := h.ext hE
  step st v l H Q hN hS hpre hv hrv hp h := by
    have hll : l.length = n := by rw [hp.length_eq, iot_len]
    have he := ord_perm h1 (by omega) hp
    have hO := ord_of he
    have hnd : l.Nodup := by have := hO.bg l.length (Nat.le_refl _); rw [List.take_length] at this; exact this.nd
    have hl := ls_len hv
    obtain ⟨lg, ln, lc⟩ := hS.lds
    refine L_body 111 Try.func55 rfl rfl ?_
    refine L_reg [0, 1, 2, 3, 4, 15] (fun K hK => ?_)
    simp [lg]
    apply hK; clear hK K
    refine L_false rfl ?_
    refine L_reg [0, 1, 2, 3, 4, 6] (fun K hK => ?_)
    simp
    apply hK; clear hK K
    refine L_reg [0, 1, 2, 3, 4, 6, 7] (fun K hK => ?_)
    simp
    apply hK; clear hK K
    refine L_block (L_loopV [6, 7] (fun q vs H' => ∃ i : Nat, q = n - i ∧ 1 ≤ i ∧ i ≤ n ∧ vs = [.bool ((List.range (i - 1)).all (altAt l)), .int .i64 i] ∧ H = H') _ [.bool true, .int .i64 1] rfl ⟨1, rfl, by omega, by omega, rfl, rfl⟩ ?_)
    rintro _ _ _ ⟨i, rfl, hi1, hi, rfl, rfl⟩
    refine L_reg [0, 1, 2, 3, 4, 6, 7, 18] (fun K hK => ?_)
    simp [ln]
    apply hK; clear hK K
    refine L_dec (i < n) (by simp) (fun hlt => ?_) (fun hge => L_exit ?_)
    · refine L_block ?_
      obtain ⟨j, rfl⟩ : ∃ j, i = j + 1 := ⟨i - 1, by omega⟩
      rw [Nat.add_sub_cancel]
      obtain ⟨rz, pz, vz, hix, hld⟩ := ls_ix hv (i := j + 1) (by omega)
      obtain ⟨ry, py, vy, hiy, hldy⟩ := ls_ix hv (i := j) (by omega)
      have hne := nodup_ne hnd (i := j) (j := j + 1) (by omega) (by omega)
      have hal := altAt_ne hne
      have hodd : (((j + 1 : Nat) : Int).tmod 2 == 1) = decide (j % 2 = 0) := by
        rw [Int.tmod_eq_emod_of_nonneg (by omega)]
        by_cases c : j % 2 = 0
        · rw [show ((j + 1 : Nat) : Int) % 2 = 1 by omega]; simp [c]
        · rw [show ((j + 1 : Nat) : Int) % 2 = 0 by omega]; simp [c]
      have hnx : (List.range (j + 1)).all (altAt l) = ((List.range j).all (altAt l) && altAt l j) := by rw [List.range_succ, List.all_append]; simp
      rw [show ((j + 1 : Nat) : Int) = (j : Int) + 1 by omega] at hix hodd ⊢
      generalize (List.range j).all (altAt l) = tb at *
      have hw0 : IntKind.i64.wrap (j : Int) = j := wrap_i64 (by omega)
      cases tb with
      | false =>
        refine L_regT mixed [0, 1, 2, 3, 4, 6, 7] (by kernel_rfl) (fun K hK => ?_)
        simp [pickV]
        apply hK; clear hK K
        refine L_reg [0, 1, 2, 3, 4, 6, 7] (fun K hK => ?_)
        simp [wrap_i64 (a := (j : Int) + 1 + 1) (by omega)]
        apply hK; clear hK K
        exact ⟨n - (j + 2), [.bool false, .int .i64 ((j : Int) + 1 + 1)], by omega, by simp, j + 2, rfl, by omega, by omega, by rw [show j + 2 - 1 = j + 1 by omega, hnx, show ((j + 2 : Nat) : Int) = (j : Int) + 1 + 1 by omega]; rfl, rfl⟩
      | true =>
        refine L_regT mixed [0, 1, 2, 3, 4, 6, 7] (by kernel_rfl) (fun K hK => ?_)
        simp [pickV, hix, hld, hw0, hiy, hldy, hodd, hal, eq_bx]
        apply hK; clear hK K
        refine L_reg [0, 1, 2, 3, 4, 6, 7] (fun K hK => ?_)
        simp [wrap_i64 (a := (j : Int) + 1 + 1) (by omega)]
        apply hK; clear hK K
        exact ⟨n - (j + 2), [.bool (altAt l j), .int .i64 ((j : Int) + 1 + 1)], by omega, by simp, j + 2, rfl, by omega, by omega, by rw [show j + 2 - 1 = j + 1 by omega, hnx, show ((j + 2 : Nat) : Int) = (j : Int) + 1 + 1 by omega]; rfl, rfl⟩
    · obtain rfl : i = n := by omega
      have htb : (List.range (i - 1)).all (altAt l) = altB l := by unfold altB; rw [hll]
      rw [htb]
      have htu : turB l = altB l := by unfold turB; rw [if_pos he]
      have hgl := hO.rg 0 (by omega)
      cases ha : altB l with
      | false =>
        have e1 : nuE l = 12 := by unfold nuE; rw [if_pos he, ha]; rfl
        have e2 : nuV l = 0 := by unfold nuV; rw [e1]; rfl
        have ht : tally st l = st := by unfold tally; rw [ha, if_neg (by simp)]
        rw [ht] at h
        by_cases c5 : st.1.tmod 5 = 0
        · refine L_reg [0, 1, 2, 3, 4, 6, 44] (fun K hK => ?_)
          simp [pickV, lc, c5]
          apply hK; clear hK K
          refine L_false rfl ?_
          refine L_reg [0, 1, 2, 3, 4, 6, 8, 9] (fun K hK => ?_)
          simp [okFn_low]
          refine Turning_ac v l _ _ (by omega) hv ?_
          simp [htu, ha, he]
          apply hK; clear hK K
          refine L_reg [0, 1, 2, 3, 4, 6, 8, 9, 10, 11] (fun K hK => ?_)
          simp [okFn_low]
          refine Number_ac v l _ _ (by omega) hv ?_
          simp [e1, e2]
          apply hK; clear hK K
          obtain ⟨H1, s1, hT1, hK1⟩ := hS.good d1 d2 d3
          refine L_reg [0, 1, 2, 3, 4, 6, 10, 11] (fun K hK => ?_)
          simp [pickV, eq_bb, s1]
          apply hK; clear hK K
          refine L_reg [0, 1, 2, 3, 4, 10, 11, 63] (fun K hK => ?_)
          simp
          apply hK; clear hK K
          refine L_true rfl ?_
          obtain ⟨lg1, ln1, lc1⟩ := hT1.lds
          obtain ⟨H2, s2, hT2, hK2⟩ := hT1.good d1 d2 d3
          refine L_reg [] (fun K hK => ?_)
          simp [lg1, pickV, s2]
          apply hK; clear hK K
          exact L_ret ⟨.inr rfl, _, rfl, (h H2 hT2 (hK1.trans hK2))⟩
        · refine L_reg [0, 1, 2, 3, 4, 6, 44] (fun K hK => ?_)
          simp [pickV, lc]
          apply hK; clear hK K
          refine L_true (by simp [c5]) ?_
          exact L_ret ⟨.inr rfl, _, rfl, (h H hS (.refl _ _))⟩
      | true =>
        have e1 : nuE l = 0 := by unfold nuE; rw [if_pos he, ha]; rfl
        have e2 : nuV l = st.1 := by unfold nuV; rw [if_pos e1, hll, hpre ha]
        have hnb := hO.nb (Nat.le_refl _)
        rw [hll, ← hpre ha] at hnb
        refine L_reg [0, 1, 2, 3, 4, 6, 44] (fun K hK => ?_)
        simp [pickV]
        apply hK; clear hK K
        refine L_false rfl ?_
        refine L_reg [0, 1, 2, 3, 4, 6, 8, 9] (fun K hK => ?_)
        simp [okFn_low]
        refine Turning_ac v l _ _ (by omega) hv ?_
        simp [htu, ha, he]
        apply hK; clear hK K
        refine L_reg [0, 1, 2, 3, 4, 6, 8, 9, 10, 11] (fun K hK => ?_)
        simp [okFn_low]
        refine Number_ac v l _ _ (by omega) hv ?_
        simp [e1, e2]
        apply hK; clear hK K
        obtain ⟨H1, s1, hT1, hK1⟩ := hS.good d1 d2 d3
        refine L_reg [0, 1, 2, 3, 4, 6, 10, 11] (fun K hK => ?_)
        simp [pickV, eq_bb, s1]
        apply hK; clear hK K
        refine L_reg [0, 1, 2, 3, 4, 10, 11, 63] (fun K hK => ?_)
        simp
        apply hK; clear hK K
        refine L_false rfl ?_
        obtain ⟨lg1, ln1, lc1⟩ := hT1.lds
        obtain ⟨H2, s2, hT2, hK2⟩ := hT1.good d1 d2 d3
        refine L_reg [0, 1, 2, 3, 4] (fun K hK => ?_)
        simp [lg1, lc1, pickV, s2]
        apply hK; clear hK K
        obtain ⟨lg2, ln2, lc2⟩ := hT2.lds
        have hK12 := hK1.trans hK2
        by_cases c3 : st.1.tmod 3 = 0
        · refine L_reg [0, 1, 2, 3, 4, 88] (fun K hK => ?_)
          simp [lg2, lc2, pickV, c3]
          apply hK; clear hK K
          refine L_true rfl ?_
          obtain ⟨q1, q2, q3⟩ := path_of hO ha l.length 0 (by omega)
          have z0 : nu l 0 = 0 := rfl
          rw [z0, Int.sub_zero, hll, ← hpre ha, List.take_zero] at q1 q3
          rw [cnt_all h1] at q1
          have eA : atE i st.1 = 0 := by unfold atE; rw [if_pos ⟨⟨by omega, by omega⟩, hnb.1, by rw [show ((i : Int)).toNat = i by omega]; exact q1⟩]
          refine L_reg [0, 1, 3, 4, 12, 13] (fun K hK => ?_)
          simp [okFn_low, ln2, lc2]
          refine At_ac i st.1 l _ _ (fun _ => by rw [show ((i : Int)).toNat = i by omega]; exact q3) (fun hne => absurd eA hne) (fun w H3 hw hE3 => ?_)
          simp [eA]
          apply hK; clear hK K
          have hT3 := hT2.ext hE3
          have hv3 := (hK12.ls hv hrv).ext hE3
          obtain ⟨H5, s5, hT5, hK35⟩ := hT3.good d1 d2 d3
          refine L_reg [0, 3, 4] (fun K hK => ?_)
          simp [okFn_low]
          refine same_ac w v l l _ _ (by omega) hw hv3 ?_
          simp [pickV, s5]
          apply hK; clear hK K
          have hK5 := (hK12.trans (Kp.of hE3)).trans hK35
          obtain ⟨gA, nA, cA, bA, lenA, bdA⟩ := hT5
          obtain ⟨mc5, rc5⟩ := cA
          obtain ⟨mb5, rb5⟩ := bA
          have lc5 : ld H5 pc 0 0 = some (.int .i64 st.1) := by rw [ld_row rc5]; rfl
          have hv5 := hK5.ls hv hrv
          obtain ⟨rz, pz, vz, hix, hld⟩ := ls_ix hv5 (i := 0) (by omega)
          have hix0 : aIndexAddr Try.prog 22 v (.int .i64 0) = some (.ptr rz pz vz) := hix .i64
          have hg0 := hO.rg 0 (by omega)
          obtain ⟨y, hy⟩ : ∃ y : Nat, g l 0 = y := ⟨(g l 0).toNat, by omega⟩
          rw [hy] at hld hg0
          have hy8 : y < 8 := by omega
          have lb5 : ld H5 pb y 0 = some (.int .i64 (g st.2 y)) := by
            rw [ld_row rb5, List.getElem?_map, List.getElem?_eq_getElem (by omega), ← g_lt (by omega)]; rfl
          have hbd := bdA.2 y (by omega)
          have sb := store_row (P := Try.prog) sc3 (r := pb) (x := .int .i64 (g st.2 y + 1)) (y := .int .i64 (g st.2 y)) (p := y) rfl rb5 (by rw [List.getElem?_map, List.getElem?_eq_getElem (by omega), ← g_lt (by omega)]; rfl)
          refine L_reg [3] (fun K hK => ?_)
          simp [hix0, hld, show (y : Int) < 8 by omega, lb5, wrap_i64 (a := g st.2 y + 1) (by omega), sb]
          apply hK; clear hK K
          have hpcb : pb ≠ pc := by omega
          have rc6 : (H5.set pb (AObj.row ((st.2.map (AV.int .i64)).set y (.int .i64 (g st.2 y + 1))) 0 (min mb5 y) false))[pc]? = some (.row [.int .i64 st.1] 0 mc5 false) := by rw [List.getElem?_set_ne hpcb, rc5]
          have lc6 : ld (H5.set pb (AObj.row ((st.2.map (AV.int .i64)).set y (.int .i64 (g st.2 y + 1))) 0 (min mb5 y) false)) pc 0 0 = some (.int .i64 st.1) := by rw [ld_row rc6]; rfl
          have sc := store_row (P := Try.prog) sc3 (r := pc) (x := .int .i64 (st.1 + 1)) (y := .int .i64 st.1) (p := 0) rfl rc6 rfl
          refine L_reg [] (fun K hK => ?_)
          simp [lc6, wrap_i64 (a := st.1 + 1) (by omega), sc]
          apply hK; clear hK K
          refine ⟨.inl rfl, _, rfl, h _ ?_ (hK5.trans ⟨by simp, fun j hj hw => ?_⟩)⟩
          · unfold tally
            rw [if_pos ha, hy, show ((y : Int)).toNat = y by omega]
            refine ⟨?_, ?_, ⟨_, get_set rc6⟩, ?_, by simpa using lenA, ?_, fun j hj => ?_⟩
            · obtain ⟨m, r⟩ := gA
              exact ⟨m, by rw [List.getElem?_set_ne (by omega), List.getElem?_set_ne (by omega), r]⟩
            · obtain ⟨m, r⟩ := nA
              exact ⟨m, by rw [List.getElem?_set_ne (by omega), List.getElem?_set_ne (by omega), r]⟩
            · exact ⟨_, by rw [List.getElem?_set_ne (by omega), get_set rb5, ← List.map_set]⟩
            · have := bdA.1; show 0 ≤ st.1 + 1; omega
            · have := bdA.2 j hj
              show 0 ≤ g (st.2.set y _) j ∧ g (st.2.set y _) j ≤ st.1 + 1
              rw [g_set (by omega)]; split <;> omega
          · rw [List.getElem?_set_ne (fun e => hw (.inr (.inl e.symm))), List.getElem?_set_ne (fun e => hw (.inr (.inr e.symm)))]
        · refine L_reg [0, 1, 2, 3, 4, 88] (fun K hK => ?_)
          simp [lg2, lc2, pickV]
          apply hK; clear hK K
          refine L_false (by simp [c3]) ?_
          have hT5 := hT2
          have hK5 := hK12
          generalize H2 = H5 at *
          obtain ⟨gA, nA, cA, bA, lenA, bdA⟩ := hT5
          obtain ⟨mc5, rc5⟩ := cA
          obtain ⟨mb5, rb5⟩ := bA
          have lc5 : ld H5 pc 0 0 = some (.int .i64 st.1) := by rw [ld_row rc5]; rfl
          have hv5 := hK5.ls hv hrv
          obtain ⟨rz, pz, vz, hix, hld⟩ := ls_ix hv5 (i := 0) (by omega)
          have hix0 : aIndexAddr Try.prog 22 v (.int .i64 0) = some (.ptr rz pz vz) := hix .i64
          have hg0 := hO.rg 0 (by omega)
          obtain ⟨y, hy⟩ : ∃ y : Nat, g l 0 = y := ⟨(g l 0).toNat, by omega⟩
          rw [hy] at hld hg0
          have hy8 : y < 8 := by omega
          have lb5 : ld H5 pb y 0 = some (.int .i64 (g st.2 y)) := by
            rw [ld_row rb5, List.getElem?_map, List.getElem?_eq_getElem (by omega), ← g_lt (by omega)]; rfl
          have hbd := bdA.2 y (by omega)
          have sb := store_row (P := Try.prog) sc3 (r := pb) (x := .int .i64 (g st.2 y + 1)) (y := .int .i64 (g st.2 y)) (p := y) rfl rb5 (by rw [List.getElem?_map, List.getElem?_eq_getElem (by omega), ← g_lt (by omega)]; rfl)
          refine L_reg [3] (fun K hK => ?_)
          simp [hix0, hld, show (y : Int) < 8 by omega, lb5, wrap_i64 (a := g st.2 y + 1) (by omega), sb]
          apply hK; clear hK K
          have hpcb : pb ≠ pc := by omega
          have rc6 : (H5.set pb (AObj.row ((st.2.map (AV.int .i64)).set y (.int .i64 (g st.2 y + 1))) 0 (min mb5 y) false))[pc]? = some (.row [.int .i64 st.1] 0 mc5 false) := by rw [List.getElem?_set_ne hpcb, rc5]
          have lc6 : ld (H5.set pb (AObj.row ((st.2.map (AV.int .i64)).set y (.int .i64 (g st.2 y + 1))) 0 (min mb5 y) false)) pc 0 0 = some (.int .i64 st.1) := by rw [ld_row rc6]; rfl
          have sc := store_row (P := Try.prog) sc3 (r := pc) (x := .int .i64 (st.1 + 1)) (y := .int .i64 st.1) (p := 0) rfl rc6 rfl
          refine L_reg [] (fun K hK => ?_)
          simp [lc6, wrap_i64 (a := st.1 + 1) (by omega), sc]
          apply hK; clear hK K
          refine ⟨.inl rfl, _, rfl, h _ ?_ (hK5.trans ⟨by simp, fun j hj hw => ?_⟩)⟩
          · unfold tally
            rw [if_pos ha, hy, show ((y : Int)).toNat = y by omega]
            refine ⟨?_, ?_, ⟨_, get_set rc6⟩, ?_, by simpa using lenA, ?_, fun j hj => ?_⟩
            · obtain ⟨m, r⟩ := gA
              exact ⟨m, by rw [List.getElem?_set_ne (by omega), List.getElem?_set_ne (by omega), r]⟩
            · obtain ⟨m, r⟩ := nA
              exact ⟨m, by rw [List.getElem?_set_ne (by omega), List.getElem?_set_ne (by omega), r]⟩
            · exact ⟨_, by rw [List.getElem?_set_ne (by omega), get_set rb5, ← List.map_set]⟩
            · have := bdA.1; show 0 ≤ st.1 + 1; omega
            · have := bdA.2 j hj
              show 0 ≤ g (st.2.set y _) j ∧ g (st.2.set y _) j ≤ st.1 + 1
              rw [g_set (by omega)]; split <;> omega
          · rw [List.getElem?_set_ne (fun e => hw (.inr (.inl e.symm))), List.getElem?_set_ne (fun e => hw (.inr (.inr e.symm)))]
end Go.Proofs.Ytpfkioakjmpimaa

/- Turning orders: the walk of the law. -/
namespace Go.Proofs.Ytpfkioakjmpimaa
open Go Go.Proofs.Ytpfkioakjmpimaa.AX
set_option linter.unusedVariables false
theorem next_ec {n : Nat} (h1 : 1 ≤ n) : eb (n + 1) 0 = ec n := by
  obtain ⟨m, rfl⟩ : ∃ m, n = m + 1 := ⟨n - 1, by omega⟩
  unfold eb ec
  rw [show m + 1 + 1 - 1 = m + 1 by omega, ern_g (by omega), Nat.add_sub_cancel, Nat.sub_zero, List.take_of_length_le (by rw [ern_len]; omega)]
set_option maxRecDepth 100000 in
set_option maxHeartbeats 2000000 in
theorem shadeTurns_ac (c : Int) (hc : 0 ≤ c ∧ c < 256) (H : AH) : AC Try.prog 10 [.int .u8 c] H fun u _ => u = .bool true := by
  refine L_body 108 Try.func10 rfl rfl ?_
  refine L_reg [0] (fun K hK => ?_)
  simp
  apply hK; clear hK K
  obtain ⟨n, hn, h1, h7⟩ : ∃ n : Nat, 1 + c.tmod 7 = (n : Int) ∧ 1 ≤ n ∧ n ≤ 7 := ⟨1 + (c.toNat % 7), by
    rw [Int.tmod_eq_emod_of_nonneg hc.1]; omega, by omega, by omega⟩
  have e7 : IntKind.i64.wrap (c.tmod 7) = c.tmod 7 := wrap_i64 (by rw [Int.tmod_eq_emod_of_nonneg hc.1]; omega)
  obtain ⟨I3, hI3, hz3⟩ := zeroT_some zt3
  obtain ⟨I4, hI4, hz4⟩ := zeroT_some zt4
  have s0 := store_last (P := Try.prog) (H := H) (u := 3) (c := [.int .i64 0]) (p := 0) (v := 0) (s := 0) sc3 (x := .int .i64 n) (y := .int .i64 0) rfl rfl
  simp at s0
  refine L_reg [3] (fun K hK => ?_)
  simp [wrap_i64 (a := c) (by omega), hn, wrap_i64 (a := (n : Int)) (by omega), hI3, hz3, s0]
  apply hK; clear hK K
  have rn : (H ++ [AObj.row [AV.int .i64 n] 0 0 false])[H.length]? = some (.row [.int .i64 n] 0 0 false) := by simp
  generalize H ++ [AObj.row [AV.int .i64 n] 0 0 false] = H1 at rn ⊢
  generalize H.length = pn at rn ⊢
  have lnn : ∀ {H' : AH} {m : Nat}, H'[pn]? = some (.row [.int .i64 n] 0 m false) → ld H' pn 0 0 = some (.int .i64 n) := fun h => by rw [ld_row h]; rfl
  refine L_reg [3, 4] (fun K hK => ?_)
  simp
  apply hK; clear hK K
  refine L_reg [3, 4, 24, 25] (fun K hK => ?_)
  simp [lnn rn]
  apply hK; clear hK K
  refine L_block (L_loopV [4, 25] (fun q vs H' => ∃ (i : Nat) (w : AV), q = n - i ∧ i ≤ n ∧ vs = [w, .int .i64 i] ∧ OwnF H1.length H' w (((iot n).take i).map (.int .i64)) ∧ Ext H1 H') _ [.slice none 0 0 0 1 false, .int .i64 0] rfl ⟨0, _, rfl, by omega, rfl, .nil _ _, .refl _⟩ ?_)
  rintro _ _ H2 ⟨i, w, rfl, hi, rfl, hO, hE⟩
  refine L_reg [3, 4, 24, 25, 26] (fun K hK => ?_)
  simp
  apply hK; clear hK K
  refine L_dec (i < n) (by simp) (fun hlt => ?_) (fun hge => L_exit ?_)
  · refine L_block ?_
    obtain ⟨v', H4, happ, hO4, hE4⟩ := ownF_append (P := Try.prog) hE el22 el22 (x := .int .i64 i) (m := 1) hO rfl (by simp; omega)
    refine L_reg [3, 4, 5, 24, 25] (fun K hK => ?_)
    simp
    apply hK; clear hK K
    refine L_reg [3, 4, 24, 25] (fun K hK => ?_)
    simp [happ]
    apply hK; clear hK K
    refine L_reg [3, 4, 24, 25] (fun K hK => ?_)
    simp [wrap_i64 (a := (i : Int) + 1) (by omega)]
    apply hK; clear hK K
    refine ⟨n - (i + 1), [v', .int .i64 (i + 1 : Nat)], by omega, by simp, i + 1, v', rfl, by omega, rfl, ?_, hE4⟩
    rw [take_snoc (by rw [iot_len]; exact hlt), g_iot hlt]
    simpa using hO4
  rw [List.take_of_length_le (by rw [iot_len]; omega)] at hO
  have hv := hO.own.ls
  have hrv : ∀ j, rowOf w = some j → j < H2.length := fun j hj => (ownF_rowlt hO hj).2
  have rn2 := hE.row rn
  have hpn : pn < H2.length := (List.getElem?_eq_some_iff.1 rn2).1
  refine L_reg [3, 4, 6] (fun K hK => ?_)
  simp [alloc_z zt59]
  apply hK; clear hK K
  have s1 := store_last (P := Try.prog) (H := H2 ++ [AObj.row [.int .i64 0, .int .i64 0, .int .i64 0, .int .i64 0, .int .i64 0, .int .i64 0, .int .i64 0, .int .i64 0] 0 0 false]) (u := 3) (c := [.int .i64 0]) (p := 0) (v := 0) (s := 0) sc3 (x := .int .i64 0) (y := .int .i64 0) rfl rfl
  simp at s1
  refine L_reg [3, 4, 6, 7] (fun K hK => ?_)
  simp [hI3, hz3, s1]
  apply hK; clear hK K
  have s2 := store_last (P := Try.prog) (H := H2 ++ [AObj.row [.int .i64 0, .int .i64 0, .int .i64 0, .int .i64 0, .int .i64 0, .int .i64 0, .int .i64 0, .int .i64 0] 0 0 false, AObj.row [.int .i64 0] 0 0 false]) (u := 4) (c := [.bool false]) (p := 0) (v := 0) (s := 0) sc4 (x := .bool true) (y := .bool false) rfl rfl
  simp at s2
  refine L_reg [3, 4, 6, 7, 8] (fun K hK => ?_)
  simp [hI4, hz4, s2]
  apply hK; clear hK K
  have hE5 : Ext H2 (H2 ++ [AObj.row [.int .i64 0, .int .i64 0, .int .i64 0, .int .i64 0, .int .i64 0, .int .i64 0, .int .i64 0, .int .i64 0] 0 0 false, AObj.row [.int .i64 0] 0 0 false, AObj.row [.bool true] 0 0 false]) := .push _ _
  have hTS : TS (H2.length + 2) pn (H2.length + 1) H2.length n (0, List.replicate 8 0) (H2 ++ [AObj.row [.int .i64 0, .int .i64 0, .int .i64 0, .int .i64 0, .int .i64 0, .int .i64 0, .int .i64 0, .int .i64 0] 0 0 false, AObj.row [.int .i64 0] 0 0 false, AObj.row [.bool true] 0 0 false]) := ⟨⟨0, by simp⟩, ⟨0, hE5.row rn2⟩, ⟨0, by simp⟩, ⟨0, by simp⟩, rfl, by decide, by decide⟩
  have hN5 : H2.length + 3 ≤ (H2 ++ [AObj.row [.int .i64 0, .int .i64 0, .int .i64 0, .int .i64 0, .int .i64 0, .int .i64 0, .int .i64 0, .int .i64 0] 0 0 false, AObj.row [.int .i64 0] 0 0 false, AObj.row [.bool true] 0 0 false]).length := by simp
  generalize hpb : H2.length = pb at *
  generalize H2 ++ [AObj.row [.int .i64 0, .int .i64 0, .int .i64 0, .int .i64 0, .int .i64 0, .int .i64 0, .int .i64 0, .int .i64 0] 0 0 false, AObj.row [.int .i64 0] 0 0 false, AObj.row [.bool true] 0 0 false] = H5 at *
  have hV := vis55 h1 h7 (pg := pb + 2) (pn := pn) (pc := pb + 1) (pb := pb) (N := pb + 3) (by omega) (by omega) (by omega) (by omega) (by omega) (by omega) (by omega) (by omega) (by omega)
  have hok : okFn Try.prog 55 = true := by kernel_rfl
  obtain ⟨tA, B, tB, tC, tD⟩ := tally_en h1 (show n ≤ 8 by omega)
  have hnn : ∀ x ∈ iot n, 0 ≤ x ∧ x ≤ 1000 := fun x hx => by
    unfold iot at hx
    obtain ⟨y, hy, rfl⟩ := List.mem_map.1 hx
    have := List.mem_range.1 hy
    omega
  have hrw : ∀ j, rowOf w = some j → ¬ Wt (pb + 2) (pb + 1) pb j := fun j hj hw => by have := hrv j hj; rcases hw with e | e | e <;> omega
  refine L_reg [3, 6, 7, 8] (fun K hK => ?_)
  simp [okFn_low]
  refine allP_ac hV (iot_asc n) hnn (by rw [iot_len]; exact h7) w (0, List.replicate 8 0) H5 _ (hv.ext hE5) hrw hN5 hTS tA (fun H6 hS6 hK6 => ?_)
  simp
  apply hK; clear hK K
  rw [tB] at hS6
  obtain ⟨lg, ln, lc⟩ := hS6.lds
  have lcc : ld H6 (pb + 1) 0 0 = some (.int .i64 (ec n)) := lc
  refine L_reg [3, 6, 7, 37] (fun K hK => ?_)
  simp [lg]
  apply hK; clear hK K
  refine L_false rfl ?_
  obtain ⟨mb, rb⟩ := hS6.b
  have hecb := ec_bd n (by omega)
  refine L_reg [3, 6, 7, 38, 39] (fun K hK => ?_)
  simp [ln]
  apply hK; clear hK K
  refine L_block (L_loopV [39] (fun q vs H' => ∃ k : Nat, q = n - k ∧ k ≤ n ∧ vs = [.int .i64 k] ∧ H6 = H') _ [.int .i64 0] rfl ⟨0, rfl, by omega, rfl, rfl⟩ ?_)
  rintro _ _ _ ⟨k, rfl, hk, rfl, rfl⟩
  refine L_reg [3, 6, 7, 38, 39, 40] (fun K hK => ?_)
  simp
  apply hK; clear hK K
  refine L_dec (k < n) (by simp) (fun hlt => ?_) (fun hge => L_exit ?_)
  · refine L_block ?_
    have g0 : bgE n k = 0 := by unfold bgE; rw [if_pos (by omega)]
    have v0 : bgV n k = eb n k := by unfold bgV; rw [if_pos (by omega)]; simp
    have lb : ld H6 pb k 0 = some (.int .i64 (eb n k)) := by
      rw [ld_row rb, List.getElem?_map, List.getElem?_eq_getElem (by show k < B.length; omega), ← g_lt (c := B) (by omega), tD k hlt]; rfl
    refine L_reg [3, 6, 7, 9, 38, 39] (fun K hK => ?_)
    simp
    apply hK; clear hK K
    refine L_reg [3, 6, 7, 9, 10, 11, 38, 39] (fun K hK => ?_)
    simp [okFn_low, ln]
    refine Begin_ac n k _ _ ?_
    simp [g0, v0]
    apply hK; clear hK K
    refine L_reg [3, 6, 7, 38, 39, 56] (fun K hK => ?_)
    simp [pickV, show (k : Int) < 8 by omega, lb]
    apply hK; clear hK K
    refine L_false rfl ?_
    refine L_reg [3, 6, 7, 38, 39] (fun K hK => ?_)
    simp [wrap_i64 (a := (k : Int) + 1) (by omega)]
    apply hK; clear hK K
    exact ⟨n - (k + 1), [.int .i64 (k + 1 : Nat)], by omega, by simp, k + 1, rfl, by omega, rfl, rfl⟩
  · have a1 : cnE n = 0 := by unfold cnE; rw [if_pos (by omega)]
    have a2 : cnV n = ec n := by unfold cnV; rw [if_pos (by omega)]; simp
    have a3 : bgE ((n + 1 : Nat) : Int) 0 = 0 := by unfold bgE; rw [if_pos (by omega)]
    have a4 : bgV ((n + 1 : Nat) : Int) 0 = ec n := by
      unfold bgV; rw [if_pos (by omega)]
      rw [show (((n + 1 : Nat) : Int)).toNat = n + 1 by omega]; exact next_ec h1
    rw [show ((n + 1 : Nat) : Int) = (n : Int) + 1 by omega] at a3 a4
    have a5 : atE n (ec n) = 1 := by unfold atE; rw [if_neg (by simp)]
    have a6 : bgE n n = 1 := by unfold bgE; rw [if_neg (by omega)]
    have w1 : IntKind.i64.wrap ((n : Int) + 1) = (n : Int) + 1 := wrap_i64 (by omega)
    refine L_reg [3, 7, 12, 13] (fun K hK => ?_)
    simp [okFn_low, ln]
    refine Count_ac n _ _ ?_
    simp [a1, a2]
    apply hK; clear hK K
    refine L_reg [3, 7, 12, 13, 14, 15] (fun K hK => ?_)
    simp [okFn_low, ln, w1]
    refine Begin_ac ((n : Int) + 1) 0 _ _ ?_
    simp [a3, a4]
    apply hK; clear hK K
    refine L_reg [3, 7, 12, 13, 14, 15, 17] (fun K hK => ?_)
    simp [okFn_low, ln, lcc]
    refine At_ac n (ec n) [] _ _ (fun h => by rw [a5] at h; cases h) (fun _ => rfl) (fun w7 H7 _ hE7 => ?_)
    simp [a5]
    apply hK; clear hK K
    have ln7 : ld H7 pn 0 0 = some (.int .i64 n) := hE7.ld ln
    have lc7 : ld H7 (pb + 1) 0 0 = some (.int .i64 (ec n)) := hE7.ld lcc
    refine L_reg [7, 12, 13, 14, 15, 17, 19] (fun K hK => ?_)
    simp [okFn_low, ln7]
    refine Begin_ac n n _ _ ?_
    simp [a6]
    apply hK; clear hK K
    refine L_reg [2] (fun K hK => ?_)
    simp [okFn_low, pickV, lc7]
    refine works_ac _ _ ?_
    simp [pickV]
    apply hK; clear hK K
    exact L_ret ⟨.inr rfl, _, rfl, rfl⟩
end Go.Proofs.Ytpfkioakjmpimaa

/- Bytes that came. -/
namespace Go.Proofs.Ytpfkioakjmpimaa
open Go Go.Proofs.Ytpfkioakjmpimaa.AX

theorem u8_of {a : Int} (h : (Lit.int .u8 a).wf = true) : ∃ n : Nat, a = n ∧ n < 256 := by
  have h1 : 0 ≤ a ∧ a ≤ 255 := by
    simp [Lit.wf, IntKind.min, IntKind.max, IntKind.bits, IntKind.signed] at h
    omega
  exact ⟨a.toNat, by omega, by omega⟩
theorem u8_in {a : Int} (h : (Lit.int .u8 a).wf = true) : 0 ≤ a ∧ a < 256 := by
  obtain ⟨n, rfl, hn⟩ := u8_of h
  omega
end Go.Proofs.Ytpfkioakjmpimaa
