/- The examples of the chapter that each law ends with. -/
import Derived.Test.YtjaefngmidllgaaDiv
import Derived.Test.YtjaefngmidllgaaCnt
namespace Go.Proofs.Ytjaefngmidllgaa.St
open Go Go.Proofs.Ytjaefngmidllgaa Go.Proofs.Ytjaefngmidllgaa.AX
set_option maxRecDepth 100000
set_option linter.unusedVariables false
/-- The keys of a map of rooms. -/
def keysI : Nat → List (AV × AV) → Option (List Int)
  | _, [] => some []
  | n, (.int .i64 k, .int .i64 m) :: es => if m = n then (keysI (n + 1) es).map (k :: ·) else none
  | _, _ => none
theorem keysI_eq : ∀ {es : List (AV × AV)} {n : Nat} {s : List Int}, keysI n es = some s → es = mapL (mpF n s)
  | [], n, s, h => by cases h; rfl
  | (k, m) :: es, n, s, h => by
    unfold keysI at h
    split at h
    · rename_i hh; cases hh
    · rename_i hh
      cases hh
      split at h
      · rename_i e
        obtain ⟨s', h1, rfl⟩ := Option.map_eq_some_iff.1 h
        rw [keysI_eq h1, e]
        rfl
      · cases h
    · cases h
def intsA : List AV → Option (List Int)
  | [] => some []
  | .int .i64 k :: l => if (Lit.int .i64 k).wf then (intsA l).map (k :: ·) else none
  | _ => none
theorem intsA_eq : ∀ {l : List AV} {k : List Int}, intsA l = some k → l = k.map (.int .i64) ∧ ∀ a ∈ k, (Lit.int .i64 a).wf = true
  | [], k, h => by cases h; exact ⟨rfl, by simp⟩
  | v :: l, k, h => by
    unfold intsA at h
    split at h
    · rename_i hh; cases hh
    · rename_i hh
      cases hh
      split at h
      · rename_i c
        obtain ⟨k', h1, rfl⟩ := Option.map_eq_some_iff.1 h
        obtain ⟨h2, h3⟩ := intsA_eq h1
        refine ⟨by rw [h2]; rfl, fun a ha => ?_⟩
        rcases List.mem_cons.1 ha with rfl | ha
        · exact c
        · exact h3 a ha
      · cases h
    · cases h
def keysA (z : Nat) : Nat → List (AV × AV) → Option (List (List Int))
  | _, [] => some []
  | n, (.agg l, .int .i64 m) :: es => match intsA l with
    | some k => if m = n ∧ k.length = z then (keysA z (n + 1) es).map (k :: ·) else none
    | none => none
  | _, _ => none
theorem keysA_eq {z : Nat} : ∀ {es : List (AV × AV)} {n : Nat} {s : List (List Int)}, keysA z n es = some s → es = mapLA (mpF n s) ∧ ∀ x ∈ s, okKey z x
  | [], n, s, h => by cases h; exact ⟨rfl, by simp⟩
  | (k, m) :: es, n, s, h => by
    unfold keysA at h
    split at h
    · rename_i hh; cases hh
    · rename_i hh
      cases hh
      split at h
      · rename_i c
        obtain ⟨h2, h3⟩ := intsA_eq c
        split at h
        · rename_i e
          obtain ⟨s', h1, rfl⟩ := Option.map_eq_some_iff.1 h
          obtain ⟨h4, h5⟩ := keysA_eq h1
          refine ⟨by rw [h4, h2, e.1]; rfl, fun x hx => ?_⟩
          rcases List.mem_cons.1 hx with rfl | hx
          · exact ⟨e.2, h3⟩
          · exact h5 x hx
        · cases h
      · cases h
    · cases h
def qRoom (H : AH) : List AV → Option (AV × AH)
  | [.agg [.map r], .int .i64 k] => match H[r]? with
    | some (.map es) => match keysI 0 es with
      | some s => some (.int .i64 (s.idxOf k : Nat), if k ∈ s then H ++ [AObj.row [.map r] 0 0 false] else (H ++ [AObj.row [.map r] 0 0 false]).set r (.map (mapL (mpF 0 (s ++ [k])))))
      | none => none
    | _ => none
  | _ => none
def qRoomA (z : Nat) (H : AH) : List AV → Option (AV × AH)
  | [.agg [.map r], .agg l] => match H[r]?, intsA l with
    | some (.map es), some k => match keysA z 0 es with
      | some s => if k.length = z then some (.int .i64 (s.idxOf k : Nat), if k ∈ s then H ++ [AObj.row [.map r] 0 0 false, AObj.row (k.map (.int .i64)) 0 0 false] else (H ++ [AObj.row [.map r] 0 0 false, AObj.row (k.map (.int .i64)) 0 0 false]).set r (.map (mapLA (mpF 0 (s ++ [k]))))) else none
      | none => none
    | _, _ => none
  | _ => none
theorem qRoom_ok {H H' : AH} {args : List AV} {v : AV} (h : qRoom H args = some (v, H')) : AC Try.prog 88 args H fun v2 H2 => v2 = v ∧ H2 = H' := by
  unfold qRoom at h
  split at h
  · split at h
    · rename_i hm
      split at h
      · rename_i s hs
        cases h
        have := keysI_eq hs
        subst this
        exact room_ac s _ _ H hm _ ⟨rfl, rfl⟩
      · cases h
    · cases h
  · cases h
theorem qRoomA_ok {z F : Nat} (hF : (z = 2 ∧ F = 95) ∨ (z = 9 ∧ F = 96)) {H H' : AH} {args : List AV} {v : AV} (h : qRoomA z H args = some (v, H')) : AC Try.prog F args H fun v2 H2 => v2 = v ∧ H2 = H' := by
  unfold qRoomA at h
  split at h
  · split at h
    · rename_i hm hi
      split at h
      · rename_i s hs
        split at h
        · rename_i hz
          cases h
          obtain ⟨h1, h2⟩ := keysA_eq hs
          obtain ⟨h3, h4⟩ := intsA_eq hi
          subst h1 h3
          rcases hF with ⟨rfl, rfl⟩ | ⟨rfl, rfl⟩
          · exact room95_ac s _ _ H hm ⟨hz, h4⟩ h2 _ ⟨rfl, rfl⟩
          · exact room96_ac s _ _ H hm ⟨hz, h4⟩ h2 _ ⟨rfl, rfl⟩
        · cases h
      · cases h
    · cases h
  · cases h
def qWays (H : AH) : List AV → Option (AV × AH)
  | [.int .i64 l, .int .i64 o] => if 0 ≤ l ∧ 0 ≤ o ∧ l + o ≤ 10 ∧ l ≤ 9 then some (.int .i64 (ways l.toNat o.toNat : Nat), H) else none
  | _ => none
theorem qWays_ok {H H' : AH} {args : List AV} {v : AV} (h : qWays H args = some (v, H')) : AC Try.prog 63 args H fun v2 H2 => v2 = v ∧ H2 = H' := by
  unfold qWays at h
  split at h
  · rename_i l o
    split at h
    · rename_i c
      cases h
      obtain ⟨l, rfl⟩ : ∃ x : Nat, l = x := ⟨l.toNat, by omega⟩
      obtain ⟨o, rfl⟩ : ∃ x : Nat, o = x := ⟨o.toNat, by omega⟩
      exact ways_q l o (by omega) (by omega) _ _ ⟨by simp, rfl⟩
    · cases h
  · cases h
def qInto (H : AH) : List AV → Option (AV × AH)
  | [.int .i64 l, .int .i64 o] => if 0 ≤ l ∧ 0 ≤ o ∧ o ≤ 9 ∧ l ≤ 9 then some (.int .i64 (sti l.toNat o.toNat : Nat), H) else none
  | _ => none
theorem qInto_ok {H H' : AH} {args : List AV} {v : AV} (h : qInto H args = some (v, H')) : AC Try.prog 68 args H fun v2 H2 => v2 = v ∧ H2 = H' := by
  unfold qInto at h
  split at h
  · rename_i l o
    split at h
    · rename_i c
      cases h
      obtain ⟨l, rfl⟩ : ∃ x : Nat, l = x := ⟨l.toNat, by omega⟩
      obtain ⟨o, rfl⟩ : ∃ x : Nat, o = x := ⟨o.toNat, by omega⟩
      exact into_q l o (by omega) (by omega) _ _ ⟨by simp, rfl⟩
    · cases h
  · cases h
def qOwn (f : Nat) (args : List AV) (H : AH) : Option (AV × AH) :=
  bif Nat.beq f 88 then qRoom H args else bif Nat.beq f 95 then qRoomA 2 H args else bif Nat.beq f 96 then qRoomA 9 H args else bif Nat.beq f 63 then qWays H args else bif Nat.beq f 68 then qInto H args else none
theorem qOwn_ok {f : Nat} {args : List AV} {H H' : AH} {v : AV} (h : qOwn f args H = some (v, H')) : AC Try.prog f args H fun v2 H2 => v2 = v ∧ H2 = H' := by
  unfold qOwn at h
  cases c1 : Nat.beq f 88 with
  | true => rw [c1] at h; rw [Nat.eq_of_beq_eq_true c1]; exact qRoom_ok h
  | false =>
  cases c2 : Nat.beq f 95 with
  | true => rw [c1, c2] at h; rw [Nat.eq_of_beq_eq_true c2]; exact qRoomA_ok (.inl ⟨rfl, rfl⟩) h
  | false =>
  cases c3 : Nat.beq f 96 with
  | true => rw [c1, c2, c3] at h; rw [Nat.eq_of_beq_eq_true c3]; exact qRoomA_ok (.inr ⟨rfl, rfl⟩) h
  | false =>
  cases c4 : Nat.beq f 63 with
  | true => rw [c1, c2, c3, c4] at h; rw [Nat.eq_of_beq_eq_true c4]; exact qWays_ok h
  | false =>
  cases c5 : Nat.beq f 68 with
  | true => rw [c1, c2, c3, c4, c5] at h; rw [Nat.eq_of_beq_eq_true c5]; exact qInto_ok h
  | false => rw [c1, c2, c3, c4, c5] at h; cases h
noncomputable def cxo : Cx Try.prog where
  good := goodT
  keep := keepT
  ext f args H := qOwn f args H
theorem cxo_ok : cxo.Ok where
  mixed := cx_ok.mixed
  ord f h := cx_ok.ord f h
  ext f args H v H' h := qOwn_ok h
theorem works_run : callN (runZ cxo 3000) 15 [] [] = some (.bool true, []) := by kernel_rfl
theorem works_ac (H : AH) (Q : AV → AH → Prop) (h : Q (.bool true) H) : AC Try.prog 15 [] H Q := AC_kernZ cxo_ok 3000 works_run .nil (.bool _) h
noncomputable def cxw : Cx Try.prog where
  good := goodT
  keep := keepT
  ext f args H := bif Nat.beq f 15 then (match args with | [] => some (.bool true, H) | _ => none) else qOwn f args H
theorem cxw_ok : cxw.Ok where
  mixed := cx_ok.mixed
  ord f h := cx_ok.ord f h
  ext f args H v H' h := by
    simp only [cxw] at h
    cases hf : Nat.beq f 15 with
    | false => rw [hf] at h; exact qOwn_ok h
    | true =>
      have := Nat.eq_of_beq_eq_true hf
      subst this
      rw [hf] at h
      cases args with
      | nil => simp at h; obtain ⟨rfl, rfl⟩ := h; exact works_ac _ _ ⟨rfl, rfl⟩
      | cons a l => simp at h
end Go.Proofs.Ytjaefngmidllgaa.St
