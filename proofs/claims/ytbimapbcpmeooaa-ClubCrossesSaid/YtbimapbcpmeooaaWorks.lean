/- The examples that all laws of the stage ask for. -/
import Derived.Test.YtbimapbcpmeooaaSeekS
namespace Go.Proofs.Ytbimapbcpmeooaa.Cl
open Go Go.Proofs.Ytbimapbcpmeooaa Go.Proofs.Ytbimapbcpmeooaa.AX
set_option maxRecDepth 100000
set_option linter.unusedVariables false
theorem relVs_cons {σ : Inj} {v : AV} {vs : List AV} {cs : List Value} (h : RelVs σ (v :: vs) cs) : ∃ c cs', cs = c :: cs' ∧ RelV σ v c ∧ RelVs σ vs cs' := by
  cases h with
  | cons h1 h2 => exact ⟨_, _, rfl, h1, h2⟩
theorem relVs_nil {σ : Inj} {cs : List Value} (h : RelVs σ [] cs) : cs = [] := by
  cases h
  rfl
/-- A plan that a call returns may lie in a new row of its own: nothing else need be known. -/
theorem AC_finP {P : Program} {f : FuncId} {args : List AV} {H : AH} {Q : AV → AH → Prop} (h : AC P f args H fun v H' => PrefOk H H' ∧ ∃ k1 n u k2 e u' o, v = .tuple [.agg [.int k1 n, u], .int k2 e] ∧ finSlice H.length H' u = some (u', o) ∧ Q (.tuple [.agg [.int k1 n, u'], .int k2 e]) (H'.take H.length ++ [o])) : AC P f args H Q := by
  intro base w0 σ w cargs S hr
  refine (h base w0 σ w cargs S hr).mono ?_
  rintro en w' ⟨c, σ', v, H', rfl, h2, h3, h4, h5, k1, n, u, k2, e, u', o, rfl, hf, hq⟩
  cases h4 with
  | tuple hvs =>
    obtain ⟨c1, cs1, e1, ha, hb⟩ := relVs_cons hvs
    obtain ⟨c2, cs2, e2, hi2, hn2⟩ := relVs_cons hb
    obtain rfl := relVs_nil hn2
    subst e2
    cases ha with
    | agg has =>
      obtain ⟨d1, ds1, g1, hi, hu0⟩ := relVs_cons has
      obtain ⟨d2, ds2, g2, hu, hn⟩ := relVs_cons hu0
      obtain rfl := relVs_nil hn
      subst g2
      cases hi
      cases hi2
      obtain ⟨σ2, f1, _, f3, f4⟩ := finSlice_sound S h2 h3 h5 hf hu
      exact ⟨_, σ2, _, _, rfl, f1, f3, .tuple (by rw [e1]; exact .cons (.agg (by rw [g1]; exact .cons (.int _ _) (.cons f4 .nil))) (.cons (.int _ _) .nil)), hq⟩
theorem belB_tcl (N : Nat) (T : List Tb) : (tcl T).all (belB N 4) = true := by
  rw [List.all_eq_true]
  intro x hx
  obtain ⟨y, hy, hxy⟩ := List.mem_flatten.1 hx
  obtain ⟨p, -, rfl⟩ := List.mem_map.1 hy
  simp at hxy
  rcases hxy with rfl | rfl <;> rfl
/-- Make of counts that have a plan with tables, exactly. -/
theorem Make_x (c : List Nat) (T : List Tb) (hT : T ≠ []) (v : AV) (ho : Okc c) (hs : (sols c.length 0 c).head? = some T) (H : AH) (hv : Ls H v (il c)) (Q : AV → AH → Prop) (h : Q (.tuple [.agg [.int .i64 (c.length : Nat), .slice (some H.length) 0 T.length 0 2 false], .int .i64 0]) (H ++ [.row (tcl T) 0 (T.length * 2) false])) : AC Try.prog 23 [v] H Q := by
  have hc8 := ho.le
  refine AC_finP (Make_ac (il c) v (by rw [il_len]; omega) H hv _ (fun hn => absurd (okc_chk ho) hn) (fun d e _ hn => ?_) (fun d T' e _ hs' u H' hO hE => ?_))
  · rw [← il_inj e] at hn
    rw [hn] at hs
    cases hs
  · obtain rfl := il_inj e
    rw [hs] at hs'
    obtain rfl := Option.some.inj hs'
    refine ⟨⟨hE.1, fun r o hr ho => .inl (by rw [← hE.2 r hr]; exact ho)⟩, ?_⟩
    have ht : H'.take H.length = H := by
      obtain ⟨X, rfl⟩ := hE.app
      simp
    obtain ⟨-, ⟨h0, -⟩ | ⟨r, ver, st, hr, rfl, hrow⟩⟩ := hO
    · exact absurd (by simpa [tb] using h0) hT
    · have hl := tcl_len T
      refine ⟨.i64, _, _, .i64, 0, .slice (some H.length) 0 T.length 0 2 false, .row (tcl T) 0 (T.length * 2) false, rfl, ?_, by rw [ht]; exact h⟩
      have hrow : H'[r]? = some (.row (tcl T) ver st false) := hrow
      rw [tb_len]
      simp only [finSlice, hrow, if_pos hr, Nat.zero_add, List.drop_zero]
      rw [List.take_of_length_le (by omega), if_pos ⟨trivial, by omega, belB_tcl _ _⟩]
theorem Only_q (l : List Int) (v : AV) (hlen : l.length ≤ 1000000) (H : AH) (hv : Ls H v l) (Q : AV → AH → Prop) (h1 : chkC l ≠ 0 → Q (.tuple [.bool false, .int .i64 (chkC l)]) H) (h2 : ∀ c, l = il c → Okc c → Q (onlyA c) H) : AC Try.prog 28 [v] H Q := by
  by_cases c1 : chkC l = 0
  · obtain ⟨c, rfl, ho⟩ := chk_okc c1
    exact AC.quiet (v := onlyA c) (by unfold onlyA; split <;> simp [belB]) (fun Q h => Only_ac (il c) v hlen H hv Q (fun hn => absurd c1 hn) fun d e _ H' hE => by rw [← il_inj e]; exact h H' hE) Q (h2 c rfl ho)
  · exact AC.quiet (v := .tuple [.bool false, .int .i64 (chkC l)]) (by simp [belB]) (fun Q h => Only_ac l v hlen H hv Q (fun _ H' hE => h H' hE) fun c e ho => absurd (by rw [e]; exact okc_chk ho) c1) Q (h1 c1)
/-! ### Quick answers -/
def intsOf : List AV → Option (List Int)
  | [] => some []
  | .int .i64 x :: l => match intsOf l with
    | some m => some (x :: m)
    | none => none
  | _ => none
theorem intsOf_eq : ∀ {l : List AV} {m : List Int}, intsOf l = some m → l = m.map (.int .i64)
  | [], m, h => by simp [intsOf] at h; subst h; rfl
  | x :: l, m, h => by
    unfold intsOf at h
    split at h
    · rename_i e; cases e
    · rename_i y l' e
      cases e
      split at h
      · rename_i m' hm
        cases h
        rw [intsOf_eq hm]; rfl
      · cases h
    · cases h
def readL (H : AH) (v : AV) : Option (List Int) := match v with
  | .slice (some r) off n ver _ _ => match H[r]? with
    | some (.row cells v' _ _) => bif Nat.beq v' ver && Nat.beq cells.length n && Nat.beq off 0 then intsOf cells else none
    | _ => none
  | _ => none
theorem readL_ls {H : AH} {v : AV} {l : List Int} (h : readL H v = some l) (hsz : ∀ r off n ver sz f, v = .slice (some r) off n ver sz f → sz = 1) : Ls H v l := by
  unfold readL at h
  split at h
  · rename_i r off n ver sz f
    split at h
    · rename_i cells v' s ro hr
      cases hb : Nat.beq v' ver && Nat.beq cells.length n && Nat.beq off 0 with
      | false => rw [hb] at h; cases h
      | true =>
        rw [hb] at h
        rw [Bool.and_eq_true, Bool.and_eq_true] at hb
        obtain ⟨⟨e1, e2⟩, e3⟩ := hb
        have e1 := Nat.eq_of_beq_eq_true e1
        have e2 := Nat.eq_of_beq_eq_true e2
        have e3 := Nat.eq_of_beq_eq_true e3
        have h := intsOf_eq h
        subst h
        have := hsz r off n ver sz f rfl
        subst this; subst e1; subst e2; subst e3
        rw [List.length_map]
        exact Ls.row hr f
    · cases h
  · cases h
def size1 (v : AV) : Bool := match v with | .slice (some _) _ _ _ sz _ => Nat.beq sz 1 | _ => true
theorem size1_of {v : AV} (h : size1 v = true) : ∀ r off n ver sz f, v = .slice (some r) off n ver sz f → sz = 1 := by
  rintro r off n ver sz f rfl
  exact Nat.eq_of_beq_eq_true h
def okcB (c : List Nat) : Bool := Nat.ble 1 c.length && Nat.ble c.length 8 && c.all fun x => Nat.blt x c.length
theorem okcB_ok {c : List Nat} (h : okcB c = true) : Okc c := by
  unfold okcB at h
  rw [Bool.and_eq_true, Bool.and_eq_true, List.all_eq_true] at h
  exact ⟨Nat.le_of_ble_eq_true h.1.1, Nat.le_of_ble_eq_true h.1.2, fun x hx => Nat.le_of_ble_eq_true (h.2 x hx)⟩
/-- The counts that an argument is. -/
def qC (H : AH) (v : AV) : Option (List Nat) := match readL H v with
  | some l => bif size1 v && okcB (l.map Int.toNat) && l.all (fun x => match x with | .ofNat _ => true | .negSucc _ => false) then some (l.map Int.toNat) else none
  | none => none
theorem qC_ok {H : AH} {v : AV} {c : List Nat} (h : qC H v = some c) : Okc c ∧ Ls H v (il c) := by
  unfold qC at h
  split at h
  · rename_i l hl
    cases hb : size1 v && okcB (l.map Int.toNat) && l.all (fun x => match x with | .ofNat _ => true | .negSucc _ => false) with
    | false => rw [hb] at h; cases h
    | true =>
      rw [hb] at h
      rw [Bool.and_eq_true, Bool.and_eq_true, List.all_eq_true] at hb
      obtain rfl : l.map Int.toNat = c := by simpa using h
      refine ⟨okcB_ok hb.1.2, ?_⟩
      have e : il (l.map Int.toNat) = l := by
        unfold il
        rw [List.map_map]
        conv => rhs; rw [← List.map_id l]
        refine List.map_congr_left fun x hx => ?_
        have := hb.2 x hx
        cases x with
        | ofNat n => rfl
        | negSucc n => cases this
      rw [e]
      exact readL_ls hl (size1_of hb.1.1)
  · cases h
def qMk (f : Nat) (args : List AV) (H : AH) : Option (AV × AH) :=
  bif Nat.beq f 23 || Nat.beq f 26 || Nat.beq f 28 then
    match args with
    | [v] => match qC H v with
      | some c =>
        bif Nat.beq f 26 then some (.tuple [.int .i64 (cnt c.length c : Nat), .int .i64 0], H)
        else bif Nat.beq f 28 then some (onlyA c, H)
        else match (sols c.length 0 c).head? with
          | some (p :: T) => some (.tuple [.agg [.int .i64 (c.length : Nat), .slice (some H.length) 0 (p :: T).length 0 2 false], .int .i64 0], H ++ [.row (tcl (p :: T)) 0 ((p :: T).length * 2) false])
          | some [] => none
          | none => some (.tuple [zeroPlan, .int .i64 12], H)
      | none => none
    | _ => none
  else none
theorem Make_none (c : List Nat) (v : AV) (ho : Okc c) (hs : sols c.length 0 c = []) (H : AH) (hv : Ls H v (il c)) (Q : AV → AH → Prop) (h : Q (.tuple [zeroPlan, .int .i64 12]) H) : AC Try.prog 23 [v] H Q := by
  have hc8 := ho.le
  refine AC.quiet (v := .tuple [zeroPlan, .int .i64 12]) (by simp [belB, zeroPlan]) (fun Q h => Make_ac (il c) v (by rw [il_len]; omega) H hv Q (fun hn => absurd (okc_chk ho) hn) (fun d e _ hn H' hE => h H' hE) (fun d T' e _ hs' u H' hO hE => ?_)) Q h
  rw [← il_inj e, hs] at hs'
  cases hs'
theorem qMk_ok {f : Nat} {args : List AV} {H H' : AH} {v : AV} (h : qMk f args H = some (v, H')) : AC Try.prog f args H fun v2 H2 => v2 = v ∧ H2 = H' := by
  unfold qMk at h
  cases hf : Nat.beq f 23 || Nat.beq f 26 || Nat.beq f 28 with
  | false => rw [hf] at h; cases h
  | true =>
    rw [hf] at h
    simp only [cond_true] at h
    split at h
    · rename_i u
      split at h
      · rename_i c hc
        obtain ⟨ho, hv⟩ := qC_ok hc
        have hc8 := ho.le
        cases h26 : Nat.beq f 26 with
        | true =>
          rw [h26] at h
          obtain rfl := Nat.eq_of_beq_eq_true h26
          cases h
          exact Count_q (il c) u (by rw [il_len]; omega) H hv _ (fun hn => absurd (okc_chk ho) hn) fun d e _ => by rw [← il_inj e]; exact ⟨rfl, rfl⟩
        | false =>
          rw [h26] at h
          cases h28 : Nat.beq f 28 with
          | true =>
            rw [h28] at h
            obtain rfl := Nat.eq_of_beq_eq_true h28
            cases h
            exact Only_q (il c) u (by rw [il_len]; omega) H hv _ (fun hn => absurd (okc_chk ho) hn) fun d e _ => by rw [← il_inj e]; exact ⟨rfl, rfl⟩
          | false =>
            rw [h28] at h
            rw [h26, h28, Bool.or_false, Bool.or_false] at hf
            obtain rfl := Nat.eq_of_beq_eq_true hf
            simp only [cond_false] at h
            split at h
            · rename_i p T hT
              cases h
              exact Make_x c (p :: T) (by simp) u ho hT H hv _ ⟨rfl, rfl⟩
            · cases h
            · rename_i hT
              cases h
              exact Make_none c u ho (List.head?_eq_none_iff.1 hT) H hv _ ⟨rfl, rfl⟩
      · cases h
    · cases h
noncomputable def cxo : Cx Try.prog where
  good := goodT
  keep := keepT
  ext f args H := qMk f args H
theorem cxo_ok : cxo.Ok where
  mixed := cx_ok.mixed
  ord f h := cx_ok.ord f h
  ext f args H v H' h := qMk_ok h
theorem works_run : callN (runZ cxo 3000) 14 [] [] = some (.bool true, []) := by kernel_rfl
theorem works_ac (H : AH) (Q : AV → AH → Prop) (h : Q (.bool true) H) : AC Try.prog 14 [] H Q := AC_kernZ cxo_ok 3000 works_run .nil (.bool _) h
end Go.Proofs.Ytbimapbcpmeooaa.Cl
