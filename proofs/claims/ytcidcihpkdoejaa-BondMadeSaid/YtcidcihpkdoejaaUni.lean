/- The program's calls and the reference's: what both answer. -/
import Derived.Test.YtcidcihpkdoejaaRef4
import Derived.Test.YtcidcihpkdoejaaWorks
namespace Go.Proofs.Ytcidcihpkdoejaa.Bo
open Go Go.Proofs.Ytcidcihpkdoejaa Go.Proofs.Ytcidcihpkdoejaa.AX
set_option maxRecDepth 100000
/-- The answer of a call is a value and an error. -/
def AnsV (f : FuncId) (args : List AV) (s : AV) (l : List Int) (v : AV) (e : Int) : Prop := ∀ (H : AH), Ls H s l → ∀ Q : AV → AH → Prop, Q (.tuple [v, .int .i64 e]) H → AC Try.prog f args H Q
/-- The answer of a call is a list and an error. -/
def AnsL (f : FuncId) (args : List AV) (s : AV) (l L : List Int) (e : Int) : Prop := ∀ (H : AH), Ls H s l → ∀ Q : AV → AH → Prop, (∀ v H', Ls H' v L → Ext H H' → Q (.tuple [v, .int .i64 e]) H') → AC Try.prog f args H Q
/-- The answer of a call is a struct and an error. -/
def AnsS (f : FuncId) (args : List AV) (s : AV) (l : List Int) (m : Int) (L : List Int) (e : Int) : Prop := ∀ (H : AH), Ls H s l → ∀ Q : AV → AH → Prop, (∀ v H', Ls H' v L → Ext H H' → Q (.tuple [cA m v, .int .i64 e]) H') → AC Try.prog f args H Q
variable (n : Int) (l : List Int) (s : AV) (hlen : l.length ≤ 1000000)
include hlen
theorem Check_q (H : AH) (hs : Ls H s l) (Q : AV → AH → Prop) (h : Q (.int .i64 (chk n l)) H) : AC Try.prog 23 [cA n s] H Q := by
  by_cases hc : chk n l = 0
  · obtain ⟨m, k, rfl, rfl, hr⟩ := chk_ok hc
    rw [hc] at h
    exact Check_ok hr s H hs Q h
  · exact Check_bad n l s hlen hc H hs Q h
theorem CheckPlan_q (H : AH) (hs : Ls H s l) (Q : AV → AH → Prop) (h : Q (.int .i64 (chk n l)) H) : AC Try.prog 33 [cA n s] H Q := by
  by_cases hc : chk n l = 0
  · obtain ⟨m, k, rfl, rfl, hr⟩ := chk_ok hc
    rw [hc] at h
    exact CheckPlan_ok hr s H hs Q h
  · exact CheckPlan_bad n l s hlen hc H hs Q h
theorem May_u (g : Int) : ∃ (b : Bool) (e : Int), AnsV 16 [cA n s, .int .i64 g] s l (.bool b) e ∧ AnsV 17 [cA n s, .int .i64 g] s l (.bool b) e := by
  by_cases hc : chk n l = 0
  · obtain ⟨m, k, rfl, rfl, hr⟩ := chk_ok hc
    by_cases hg : 0 ≤ g ∧ g < ((2 ^ m : Nat) : Int)
    · obtain ⟨x, rfl⟩ : ∃ x : Nat, g = x := ⟨g.toNat, by omega⟩
      have hx : x < 2 ^ m := by have := hg.2; exact Int.ofNat_lt.1 this
      exact ⟨_, 0, fun H hs Q h => May_ok hr s x hx H hs Q h, fun H hs Q h => MayR_ok hr s x hx H hs Q h⟩
    · exact ⟨_, 2, fun H hs Q h => May_none hr s g hg H hs Q h, fun H hs Q h => MayR_none hr s g hg H hs Q h⟩
  · exact ⟨_, _, fun H hs Q h => May_bad n l s g hlen hc H hs Q h, fun H hs Q h => MayR_bad n l s g hlen hc H hs Q h⟩
theorem Opens_u (g : Int) : ∃ (b : Bool) (e : Int), AnsV 25 [cA n s, .int .i64 g] s l (.bool b) e ∧ AnsV 26 [cA n s, .int .i64 g] s l (.bool b) e := by
  by_cases hc : chk n l = 0
  · obtain ⟨m, k, rfl, rfl, hr⟩ := chk_ok hc
    by_cases hg : 0 ≤ g ∧ g < ((2 ^ m : Nat) : Int)
    · obtain ⟨x, rfl⟩ : ∃ x : Nat, g = x := ⟨g.toNat, by omega⟩
      have hx : x < 2 ^ m := by have := hg.2; exact Int.ofNat_lt.1 this
      exact ⟨_, 0, fun H hs Q h => Opens_ok hr s x hx H hs Q h, fun H hs Q h => OpensR_ok hr s x hx H hs Q h⟩
    · exact ⟨_, 2, fun H hs Q h => Opens_none hr s g hg H hs Q h, fun H hs Q h => OpensR_none hr s g hg H hs Q h⟩
  · exact ⟨_, _, fun H hs Q h => Opens_bad n l s g hlen hc H hs Q h, fun H hs Q h => OpensR_bad n l s g hlen hc H hs Q h⟩
theorem Lacks_u (g : Int) : ∃ (L : List Int) (e : Int), L.length ≤ 1000000 ∧ AnsL 27 [cA n s, .int .i64 g] s l L e ∧ AnsL 28 [cA n s, .int .i64 g] s l L e := by
  by_cases hc : chk n l = 0
  · obtain ⟨m, k, rfl, rfl, hr⟩ := chk_ok hc
    by_cases hg : 0 ≤ g ∧ g < ((2 ^ m : Nat) : Int)
    · obtain ⟨x, rfl⟩ : ∃ x : Nat, g = x := ⟨g.toNat, by omega⟩
      have hx : x < 2 ^ m := by have := hg.2; exact Int.ofNat_lt.1 this
      refine ⟨il (lackS 0 k x), 0, by rw [il_len]; have := lack_len k 0 x; have := hr.len; omega, fun H hs Q h => Lacks_ok hr s x hx H hs Q fun v H' ho hE => h v H' (ownF_ls ho) hE, fun H hs Q h => LacksR_ok hr s x hx H hs Q fun v H' ho hE => h v H' (ownF_ls ho) hE⟩
    · exact ⟨[], 2, by simp, fun H hs Q h => Lacks_none hr s g hg H hs Q (h _ H (Ls.nil H) (.refl H)), fun H hs Q h => LacksR_none hr s g hg H hs Q (h _ H (Ls.nil H) (.refl H))⟩
  · exact ⟨[], _, by simp, fun H hs Q h => Lacks_bad n l s g hlen hc H hs Q (h _ H (Ls.nil H) (.refl H)), fun H hs Q h => LacksR_bad n l s g hlen hc H hs Q (h _ H (Ls.nil H) (.refl H))⟩
theorem list_u {fa fb : FuncId} (F : Nat → List Nat → List Int) (hF : ∀ {m k}, OkR m k → (F m k).length ≤ 1000000)
    (b1 : chk n l ≠ 0 → ∀ H, Ls H s l → ∀ Q : AV → AH → Prop, Q (.tuple [nilS, .int .i64 (chk n l)]) H → AC Try.prog fa [cA n s] H Q) (b2 : chk n l ≠ 0 → ∀ H, Ls H s l → ∀ Q : AV → AH → Prop, Q (.tuple [nilS, .int .i64 (chk n l)]) H → AC Try.prog fb [cA n s] H Q)
    (o1 : ∀ {m k}, OkR m k → ∀ H, Ls H s (il k) → ∀ Q : AV → AH → Prop, (∀ v H', OwnF H.length H' v ((F m k).map (.int .i64)) → Ext H H' → Q (.tuple [v, .int .i64 0]) H') → AC Try.prog fa [cA m s] H Q) (o2 : ∀ {m k}, OkR m k → ∀ H, Ls H s (il k) → ∀ Q : AV → AH → Prop, (∀ v H', OwnF H.length H' v ((F m k).map (.int .i64)) → Ext H H' → Q (.tuple [v, .int .i64 0]) H') → AC Try.prog fb [cA m s] H Q) :
    ∃ (L : List Int) (e : Int), L.length ≤ 1000000 ∧ AnsL fa [cA n s] s l L e ∧ AnsL fb [cA n s] s l L e := by
  by_cases hc : chk n l = 0
  · obtain ⟨m, k, rfl, rfl, hr⟩ := chk_ok hc
    exact ⟨F m k, 0, hF hr, fun H hs Q h => o1 hr H hs Q fun v H' ho hE => h v H' (ownF_ls ho) hE, fun H hs Q h => o2 hr H hs Q fun v H' ho hE => h v H' (ownF_ls ho) hE⟩
  · exact ⟨[], _, by simp, fun H hs Q h => b1 hc H hs Q (h _ H (Ls.nil H) (.refl H)), fun H hs Q h => b2 hc H hs Q (h _ H (Ls.nil H) (.refl H))⟩
theorem Least_u : ∃ (L : List Int) (e : Int), L.length ≤ 1000000 ∧ AnsL 18 [cA n s] s l L e ∧ AnsL 19 [cA n s] s l L e :=
  list_u n l s hlen (fun m k => il (leastS (2 ^ m) (within k))) (fun {m k} hr => by rw [il_len]; have := least_len (2 ^ m) (within k); have := pw64 hr.n6; omega) (fun hc H hs Q h => Least_bad n l s hlen hc H hs Q h) (fun hc H hs Q h => LeastR_bad n l s hlen hc H hs Q h) (fun hr H hs Q h => Least_ok hr s H hs Q h) (fun hr H hs Q h => LeastR_ok hr s H hs Q h)
theorem Barred_u : ∃ (L : List Int) (e : Int), L.length ≤ 1000000 ∧ AnsL 20 [cA n s] s l L e ∧ AnsL 21 [cA n s] s l L e :=
  list_u n l s hlen (fun m k => il (mostS (2 ^ m) (within k))) (fun {m k} hr => by rw [il_len]; have := most_len (2 ^ m) (within k); have := pw64 hr.n6; omega) (fun hc H hs Q h => Barred_bad n l s hlen hc H hs Q h) (fun hc H hs Q h => BarredR_bad n l s hlen hc H hs Q h) (fun hr H hs Q h => Barred_ok hr s H hs Q h) (fun hr H hs Q h => BarredR_ok hr s H hs Q h)
theorem Smallest_u : ∃ (L : List Int) (e : Int), L.length ≤ 1000000 ∧ AnsL 29 [cA n s] s l L e ∧ AnsL 30 [cA n s] s l L e :=
  list_u n l s hlen (fun m k => il (leastS (2 ^ m) (meets k))) (fun {m k} hr => by rw [il_len]; have := least_len (2 ^ m) (meets k); have := pw64 hr.n6; omega) (fun hc H hs Q h => Smallest_bad n l s hlen hc H hs Q h) (fun hc H hs Q h => SmallestR_bad n l s hlen hc H hs Q h) (fun hr H hs Q h => Smallest_ok hr s H hs Q h) (fun hr H hs Q h => SmallestR_ok hr s H hs Q h)
theorem Keys_u : ∃ (L : List Int) (e : Int), L.length ≤ 1000000 ∧ AnsL 31 [cA n s] s l L e ∧ AnsL 32 [cA n s] s l L e :=
  list_u n l s hlen (fun m k => kL m (keyS k)) (fun {m k} hr => by rw [kL_len]; have := hr.n6; omega) (fun hc H hs Q h => Keys_bad n l s hlen hc H hs Q h) (fun hc H hs Q h => KeysR_bad n l s hlen hc H hs Q h) (fun hr H hs Q h => Keys_ok hr s H hs Q h) (fun hr H hs Q h => KeysR_ok hr s H hs Q h)
theorem struct_u {fa fb : FuncId} (F : Nat → List Nat → List Nat) (hF : ∀ {m k}, OkR m k → (F m k).length ≤ 1000000)
    (b1 : chk n l ≠ 0 → ∀ H, Ls H s l → ∀ Q : AV → AH → Prop, Q (.tuple [cA 0 nilS, .int .i64 (chk n l)]) H → AC Try.prog fa [cA n s] H Q) (b2 : chk n l ≠ 0 → ∀ H, Ls H s l → ∀ Q : AV → AH → Prop, Q (.tuple [cA 0 nilS, .int .i64 (chk n l)]) H → AC Try.prog fb [cA n s] H Q)
    (o1 : ∀ {m k}, OkR m k → ∀ H, Ls H s (il k) → ∀ Q : AV → AH → Prop, (∀ v H', OwnF H.length H' v ((il (F m k)).map (.int .i64)) → Ext H H' → Q (.tuple [cA m v, .int .i64 0]) H') → AC Try.prog fa [cA m s] H Q) (o2 : ∀ {m k}, OkR m k → ∀ H, Ls H s (il k) → ∀ Q : AV → AH → Prop, (∀ v H', OwnF H.length H' v ((il (F m k)).map (.int .i64)) → Ext H H' → Q (.tuple [cA m v, .int .i64 0]) H') → AC Try.prog fb [cA m s] H Q) :
    ∃ (m : Int) (L : List Int) (e : Int), L.length ≤ 1000000 ∧ AnsS fa [cA n s] s l m L e ∧ AnsS fb [cA n s] s l m L e := by
  by_cases hc : chk n l = 0
  · obtain ⟨m, k, rfl, rfl, hr⟩ := chk_ok hc
    exact ⟨m, il (F m k), 0, by rw [il_len]; exact hF hr, fun H hs Q h => o1 hr H hs Q fun v H' ho hE => h v H' (ownF_ls ho) hE, fun H hs Q h => o2 hr H hs Q fun v H' ho hE => h v H' (ownF_ls ho) hE⟩
  · exact ⟨0, [], _, by simp, fun H hs Q h => b1 hc H hs Q (h _ H (Ls.nil H) (.refl H)), fun H hs Q h => b2 hc H hs Q (h _ H (Ls.nil H) (.refl H))⟩
theorem Make_u : ∃ (m : Int) (L : List Int) (e : Int), L.length ≤ 1000000 ∧ AnsS 35 [cA n s] s l m L e ∧ AnsS 36 [cA n s] s l m L e :=
  struct_u n l s hlen (fun m k => locksS m k) (fun {m k} hr => by have : (locksS m k).length ≤ 2 ^ m := least_len _ _; have := pw64 hr.n6; omega) (fun hc H hs Q h => Make_bad n l s hlen hc H hs Q h) (fun hc H hs Q h => MakeR_bad n l s hlen hc H hs Q h) (fun hr H hs Q h => Make_ok hr s H hs Q h) (fun hr H hs Q h => MakeR_ok hr s H hs Q h)
theorem Thin_u : ∃ (m : Int) (L : List Int) (e : Int), L.length ≤ 1000000 ∧ AnsS 39 [cA n s] s l m L e ∧ AnsS 40 [cA n s] s l m L e :=
  struct_u n l s hlen (fun m k => leastS (2 ^ m) (hasG k)) (fun {m k} hr => by have := least_len (2 ^ m) (hasG k); have := pw64 hr.n6; omega) (fun hc H hs Q h => Thin_bad n l s hlen hc H hs Q h) (fun hc H hs Q h => ThinR_bad n l s hlen hc H hs Q h) (fun hr H hs Q h => Thin_ok hr s H hs Q h) (fun hr H hs Q h => ThinR_ok hr s H hs Q h)
omit hlen in
theorem sameI_q (u v : AV) (l : List Int) (hlen : l.length ≤ 1000000) (H : AH) (hu : Ls H u l) (hv : Ls H v l) (Q : AV → AH → Prop) (h : Q (.bool true) H) : AC Try.prog 22 [u, v] H Q :=
  same_q u v l l hlen hlen H hu hv Q (by simpa using h)
end Go.Proofs.Ytcidcihpkdoejaa.Bo
