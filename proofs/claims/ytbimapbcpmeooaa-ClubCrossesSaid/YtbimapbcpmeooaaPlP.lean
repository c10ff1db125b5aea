/- Plans are checked, and who sits with whom is kept in a table. -/
import Derived.Test.YtbimapbcpmeooaaPlM
import Derived.Test.YtbimapbcpmeooaaRefE
namespace Go.Proofs.Ytbimapbcpmeooaa.Cl
open Go Go.Proofs.Ytbimapbcpmeooaa Go.Proofs.Ytbimapbcpmeooaa.AX
set_option maxRecDepth 100000
set_option linter.unusedVariables false
def ti (L : List Ti) : List (List AV) := L.map fun p => [.int .i64 p.1, .int .i64 p.2]
theorem ti_len (L : List Ti) : (ti L).length = L.length := by simp [ti]
theorem ri_ix {H : AH} {v : AV} {T : List Ti} (h : Rs 2 H v (ti T)) {i : Nat} (hi : i < T.length) : ∃ r p ver, (∀ k, aIndexAddr Try.prog 32 v (.int k (i : Int)) = some (.ptr r p ver)) ∧ ld H r p ver = some (.int .i64 T[i].1) ∧ ld H r (p + 1) ver = some (.int .i64 T[i].2) ∧ loadV Try.prog 67 H (.ptr r p ver) = some (.agg [.int .i64 T[i].1, .int .i64 T[i].2]) := by
  obtain ⟨r, off, ver, sz, full, rfl, hld⟩ := h
  obtain ⟨r', rfl, rfl, hx⟩ := hld i (by rw [ti_len]; exact hi)
  have hx : ldn H r' ver 2 (off + i * 2) = some [.int .i64 T[i].1, .int .i64 T[i].2] := by rw [hx]; simp [ti]
  refine ⟨r', off + i * 2, ver, fun k => ?_, ?_, ?_, ?_⟩
  · rw [ixa32, ti_len]
    simp [hi]
  · rw [ldn_succ] at hx
    cases h1 : ld H r' (off + i * 2) ver with
    | none => rw [h1] at hx; cases hx
    | some x =>
      rw [h1, Option.bind_some] at hx
      cases h2 : ldn H r' ver 1 (off + i * 2 + 1) with
      | none => rw [h2] at hx; cases hx
      | some y => rw [h2] at hx; simp at hx; rw [hx.1]
  · rw [ldn_succ] at hx
    cases h1 : ld H r' (off + i * 2) ver with
    | none => rw [h1] at hx; cases hx
    | some x =>
      rw [h1, Option.bind_some, ldn_succ] at hx
      cases h2 : ld H r' (off + i * 2 + 1) ver with
      | none => rw [h2] at hx; cases hx
      | some y => rw [h2] at hx; simp [ldn] at hx; rw [hx.2]
  · rw [load_agg ag67, hx]; rfl
theorem ri_len {H : AH} {v : AV} {T : List Ti} (h : Rs 2 H v (ti T)) : aLen Try.prog 32 v = some (.int .i64 (T.length : Nat)) := by
  obtain ⟨r, off, ver, sz, full, rfl, -⟩ := h
  rw [len32, ti_len]
/-- The table of who sits with whom, as cells. -/
def bl (g : Nat → Nat → Bool) : List AV := (List.range 64).map fun i => .bool (g (i / 8) (i % 8))
theorem bl_len (g : Nat → Nat → Bool) : (bl g).length = 64 := by simp [bl]
theorem bl_get (g : Nat → Nat → Bool) {a b : Nat} (ha : a < 8) (hb : b < 8) : (bl g)[a * 8 + b]? = some (.bool (g a b)) := by
  unfold bl
  rw [List.getElem?_map, List.getElem?_range (by omega)]
  have e1 : (a * 8 + b) / 8 = a := by omega
  have e2 : (a * 8 + b) % 8 = b := by omega
  simp [e1, e2]
def updG (g : Nat → Nat → Bool) (a b : Nat) : Nat → Nat → Bool := fun x y => if x = a ∧ y = b then true else g x y
theorem bl_set (g : Nat → Nat → Bool) {a b : Nat} (ha : a < 8) (hb : b < 8) : (bl g).set (a * 8 + b) (.bool true) = bl (updG g a b) := by
  apply List.ext_getElem?
  intro i
  rw [List.getElem?_set]
  unfold bl
  by_cases hi : i < 64
  · simp only [List.getElem?_map, List.getElem?_range hi, List.length_map, List.length_range, Option.map_some]
    unfold updG
    by_cases c : a * 8 + b = i
    · subst c
      have e1 : (a * 8 + b) / 8 = a := by omega
      have e2 : (a * 8 + b) % 8 = b := by omega
      simp [e1, e2]; omega
    · rw [if_neg c, if_neg (by omega)]
  · rw [if_neg (by omega)]
    simp [List.getElem?_eq_none (show (List.range 64).length ≤ i by simp; omega)]
theorem bl_one (g : Nat → Nat → Bool) : ∀ x ∈ bl g, x.one = true := fun x hx => by
  obtain ⟨i, -, rfl⟩ := List.mem_map.1 hx
  rfl
theorem bl_zero : bl (fun _ _ => false) = List.replicate 64 (.bool false) := by simp [bl]; rfl
def se (n : Int) (g : Nat → Nat → Bool) : List AV := .int .i64 n :: bl g
theorem se_len (n : Int) (g : Nat → Nat → Bool) : (se n g).length = 65 := by simp [se, bl_len]
theorem se_one (n : Int) (g : Nat → Nat → Bool) : ∀ x ∈ se n g, x.one = true := fun x hx => by
  rcases List.mem_cons.1 hx with rfl | hx
  · rfl
  · exact bl_one g x hx
theorem se_get (n : Int) (g : Nat → Nat → Bool) {a b : Nat} (ha : a < 8) (hb : b < 8) : (se n g)[1 + a * 8 + b]? = some (.bool (g a b)) := by
  rw [se, show 1 + a * 8 + b = (a * 8 + b) + 1 by omega, List.getElem?_cons_succ, bl_get g ha hb]
theorem se_set (n : Int) (g : Nat → Nat → Bool) {a b : Nat} (ha : a < 8) (hb : b < 8) : (se n g).set (1 + a * 8 + b) (.bool true) = se n (updG g a b) := by
  rw [se, show 1 + a * 8 + b = (a * 8 + b) + 1 by omega, List.set_cons_succ, bl_set g ha hb]; rfl
theorem se_load {H : AH} {r s : Nat} {n : Int} {g : Nat → Nat → Bool} {ro : Bool} (hr : H[r]? = some (.row (se n g) 0 s ro)) : ldn H r 0 65 0 = some (se n g) := by
  rw [ldn_row hr]
  have := takeKnown_row (l := se n g) (fun v hv => one_known (se_one n g v hv)) []
  rw [List.append_nil, se_len] at this
  rw [List.drop_zero, this]
theorem has_ac (n : Int) (g : Nat → Nat → Bool) (a : Int) (H : AH) (Q : AV → AH → Prop) (h : ∀ H', Ext H H' → Q (.bool (okS n a)) H') : AC Try.prog 111 [.agg (se n g), .int .i64 a] H Q := by
  refine L_body 13 Try.func111 rfl rfl ?_
  refine L_reg [1, 2] (fun K hK => ?_)
  simp [AV.isU, acells]
  apply hK; clear hK K
  have hr : (H ++ [AObj.row (se n g) 0 0 false])[H.length]? = some (.row (se n g) 0 0 false) := by simp
  have hE : Ext H (H ++ [AObj.row (se n g) 0 0 false]) := .push _ _
  generalize H ++ [AObj.row (se n g) 0 0 false] = H1 at *
  have e0 : ld H1 H.length 0 0 = some (.int .i64 n) := by rw [ld_row hr]; rfl
  unfold okS at h
  by_cases c : 0 ≤ a
  · refine L_reg [4] (fun K hK => ?_)
    simp [e0, c, pickV]
    apply hK; clear hK K
    exact L_ret ⟨.inr rfl, _, rfl, by simpa [c] using h _ hE⟩
  · have c' : decide (0 ≤ a) = false := decide_eq_false c
    refine L_reg [4] (fun K hK => ?_)
    simp [c, pickV]
    apply hK; clear hK K
    exact L_ret ⟨.inr rfl, _, rfl, by simpa [c] using h _ hE⟩
theorem has_q (n : Int) (g : Nat → Nat → Bool) (a : Int) (H : AH) (Q : AV → AH → Prop) (h : Q (.bool (okS n a)) H) : AC Try.prog 111 [.agg (se n g), .int .i64 a] H Q :=
  AC.quiet (belB_bool _ _ _) (fun Q h => has_ac n g a H Q h) Q h
theorem add_ac (n : Int) (hn : n ≤ 8) (g : Nat → Nat → Bool) (r s : Nat) (a b : Int) (H : AH) (hr : H[r]? = some (.row (se n g) 0 s false)) (Q : AV → AH → Prop)
    (h1 : ¬ (okS n a = true ∧ okS n b = true) → Q (.int .i64 2) H) (h2 : a = b → okS n a = true ∧ okS n b = true → Q (.int .i64 13) H)
    (h3 : okS n a = true ∧ okS n b = true → a ≠ b → g a.toNat b.toNat = true → Q (.int .i64 6) H)
    (h4 : okS n a = true ∧ okS n b = true → a ≠ b → g a.toNat b.toNat = false → ∀ H' s', H'[r]? = some (.row (se n (updG (updG g a.toNat b.toNat) b.toNat a.toNat)) 0 s' false) → KeepX r H H' → Q (.int .i64 0) H') : AC Try.prog 95 [.ptr r 0 0, .int .i64 a, .int .i64 b] H Q := by
  have e0 := se_load hr
  refine L_body 46 Try.func95 rfl rfl ?_
  refine L_reg [0, 1, 2] (fun K hK => ?_)
  simp
  apply hK; clear hK K
  by_cases ca : okS n a = true
  · by_cases cb : okS n b = true
    · have hab := And.intro ca cb
      have h2 := fun e => h2 e hab
      have h3 := h3 hab
      have h4 := h4 hab
      refine L_reg [0, 1, 2, 20] (fun K hK => ?_)
      simp [okFn_low, aNil, e0]
      refine has_q n g a _ _ ?_
      simp [okFn_low, ca, aNil, e0, okFn_low]
      refine has_q n g b _ _ ?_
      simp [cb, pickV]
      apply hK; clear hK K
      refine L_false rfl ?_
      simp only [okS, Bool.and_eq_true, decide_eq_true_eq] at ca cb
      obtain ⟨x, rfl⟩ : ∃ x : Nat, a = x := ⟨a.toNat, by omega⟩
      obtain ⟨y, rfl⟩ : ∃ y : Nat, b = y := ⟨b.toNat, by omega⟩
      simp only [Int.toNat_natCast] at h3 h4
      have hx8 : x < 8 := by omega
      have hy8 : y < 8 := by omega
      refine L_reg [0, 1, 2, 23] (fun K hK => ?_)
      simp
      apply hK; clear hK K
      refine L_dec ((x : Int) = (y : Int)) (by simp [beqN]; omega) (fun c => ?_) (fun c => ?_)
      · refine L_reg [6] (fun K hK => ?_)
        simp
        apply hK; clear hK K
        exact L_ret ⟨.inr rfl, _, rfl, h2 c⟩
      have hg := se_get n g hx8 hy8
      have hld : ld H r (1 + x * 8 + y) 0 = some (.bool (g x y)) := by rw [ld_row hr, hg]; rfl
      refine L_reg [0, 1, 2, 31] (fun K hK => ?_)
      simp [aNil, hld, show (x : Int) < 8 by omega, show (y : Int) < 8 by omega]
      apply hK; clear hK K
      cases hgv : g x y with
      | true =>
        refine L_true rfl ?_
        refine L_reg [6] (fun K hK => ?_)
        simp
        apply hK; clear hK K
        exact L_ret ⟨.inr rfl, _, rfl, h3 c hgv⟩
      | false =>
        refine L_false rfl ?_
        have hst1 := store_row (P := Try.prog) (u := 4) (p := 1 + x * 8 + y) sc4 (x := .bool true) (y := .bool (g x y)) rfl hr (by rw [hg]; rfl)
        rw [se_set n g hx8 hy8] at hst1
        have hr2 := get_set (o' := .row (se n (updG g x y)) 0 (min s (1 + x * 8 + y)) false) hr
        have hst2 := store_row (P := Try.prog) (u := 4) (p := 1 + y * 8 + x) sc4 (x := .bool true) (y := .bool (updG g x y y x)) rfl hr2 (by rw [se_get n _ hy8 hx8]; rfl)
        rw [se_set n _ hy8 hx8] at hst2
        have hr3 := get_set (o' := .row (se n (updG (updG g x y) y x)) 0 (min (min s (1 + x * 8 + y)) (1 + y * 8 + x)) false) hr2
        have hK := ((KeepX.refl r H).set (.row (se n (updG g x y)) 0 (min s (1 + x * 8 + y)) false)).set (.row (se n (updG (updG g x y) y x)) 0 (min (min s (1 + x * 8 + y)) (1 + y * 8 + x)) false)
        generalize (H.set r (.row (se n (updG g x y)) 0 (min s (1 + x * 8 + y)) false)).set r (.row (se n (updG (updG g x y) y x)) 0 (min (min s (1 + x * 8 + y)) (1 + y * 8 + x)) false) = H2 at *
        refine L_regT mixed [] (by kernel_rfl) (fun K hK => ?_)
        simp [aNil, show (x : Int) < 8 by omega, show (y : Int) < 8 by omega, hst1, hst2]
        apply hK; clear hK K
        refine L_reg [6] (fun K hK => ?_)
        simp
        apply hK; clear hK K
        exact L_ret ⟨.inr rfl, _, rfl, h4 c hgv _ _ hr3 hK⟩
    · have cb' : okS n b = false := by simpa using cb
      refine L_reg [0, 1, 2, 20] (fun K hK => ?_)
      simp [okFn_low, aNil, e0]
      refine has_q n g a _ _ ?_
      simp [okFn_low, ca, aNil, e0, okFn_low]
      refine has_q n g b _ _ ?_
      simp [cb', pickV]
      apply hK; clear hK K
      refine L_true rfl ?_
      refine L_reg [6] (fun K hK => ?_)
      simp
      apply hK; clear hK K
      exact L_ret ⟨.inr rfl, _, rfl, h1 (fun h => cb h.2)⟩
  · have ca' : okS n a = false := by simpa using ca
    refine L_reg [0, 1, 2, 20] (fun K hK => ?_)
    simp [okFn_low, aNil, e0]
    refine has_q n g a _ _ ?_
    simp [ca', pickV]
    apply hK; clear hK K
    refine L_true rfl ?_
    refine L_reg [6] (fun K hK => ?_)
    simp
    apply hK; clear hK K
    exact L_ret ⟨.inr rfl, _, rfl, h1 (fun h => ca h.1)⟩
end Go.Proofs.Ytbimapbcpmeooaa.Cl
