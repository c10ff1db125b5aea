/- The examples that each law ends with. -/
import Derived.Test.YtjldfcfomiopfaaDoorPoss
namespace Go.Proofs.YtjldfcfomiopfaaDoor
open Go Go.Proofs.YtjldfcfomiopfaaDoor.AX

/-- Heaps read off their cells. -/
def readN : List AV → Option (List (Nat × Nat))
  | [] => some []
  | .int .i64 (.ofNat a) :: .int .i64 (.ofNat b) :: rest => match readN rest with
    | some l => some ((a, b) :: l)
    | none => none
  | _ => none
theorem readN_get : ∀ {vs : List AV} {l : List (Nat × Nat)}, readN vs = some l → vs.length = l.length * 2 ∧ ∀ i (hi : i < l.length), (vs.drop (i * 2)).take 2 = two l[i].1 l[i].2
  | [], l, h => by
    simp [readN] at h; subst h
    exact ⟨rfl, fun i hi => by simp at hi⟩
  | [_], l, h => by simp [readN] at h
  | x :: y :: rest, l, h => by
    unfold readN at h
    split at h
    case h_1 => rename_i h0; simp at h0
    case h_3 => cases h
    rename_i a b rest' heq
    simp only [List.cons.injEq] at heq
    obtain ⟨rfl, rfl, rfl⟩ := heq
    split at h
    case h_2 => cases h
    rename_i l' hl
    cases h
    obtain ⟨h1, h2⟩ := readN_get hl
    refine ⟨by simp [h1]; omega, fun i hi => ?_⟩
    cases i with
    | zero => simp [two]
    | succ i =>
      have := h2 i (by simpa using hi)
      rw [show (i + 1) * 2 = i * 2 + 1 + 1 by omega, List.drop_succ_cons, List.drop_succ_cons, this]
      simp
/-- Heaps and hands read off a call's arguments. -/
noncomputable def heapsX {α : Type} (args : List AV) (H : AH) (no : α) (k : Nat → List (Nat × Nat) → α) : α :=
  match args with
  | [.slice r off len ver sz _, .int .i64 (.ofNat h)] =>
    bif Nat.ble len 1000 && Nat.ble h 1000 then
      match gfind H 0 with
      | some [.int .i64 (.ofNat 24), .int .i64 (.ofNat 24)] =>
        match r with
        | none => bif Nat.beq len 0 then k h [] else no
        | some r => bif Nat.beq sz 2 then
            match ldn H r ver (len * 2) off with
            | some vs => match readN vs with
              | some l => k h l
              | none => no
            | none => no
          else no
      | _ => no
    else no
  | _ => no
theorem hs_of {H : AH} {r off len ver : Nat} {full : Bool} {vs : List AV} {l : List (Nat × Nat)} (h : ldn H r ver (len * 2) off = some vs) (hl : readN vs = some l) : l.length = len ∧ Hs H (.slice (some r) off len ver 2 full) (natL l) := by
  obtain ⟨h1, h2⟩ := ldn_part h
  obtain ⟨h3, h4⟩ := readN_get hl
  have hlen : l.length = len := by omega
  refine ⟨hlen, some r, off, ver, 2, full, by simp [natL, hlen], fun i hi => ⟨r, rfl, rfl, ?_⟩⟩
  have hi' : i < l.length := by simpa [natL] using hi
  rw [h2 (i * 2) 2 (by omega), h4 i hi']
  simp [cells, natL]
theorem heapsX_ok {α : Type} {args : List AV} {H : AH} {no : Option α} {k : Nat → List (Nat × Nat) → Option α} {r : α} (h : heapsX args H no k = some r) : no = some r ∨
    ∃ v n l, args = [v, .int .i64 (.ofNat n)] ∧ l.length ≤ 1000 ∧ n ≤ 1000 ∧ HasG gs H ∧ Hs H v (natL l) ∧ k n l = some r := by
  unfold heapsX at h
  split at h
  case h_2 => exact .inl h
  rename_i r0 off len ver sz full n
  cases hb : Nat.ble len 1000 && Nat.ble n 1000 with
  | false => rw [hb] at h; exact .inl h
  | true =>
    rw [hb, cond_true] at h
    simp only [Bool.and_eq_true] at hb
    have hl1 := Nat.le_of_ble_eq_true hb.1
    have hk1 := Nat.le_of_ble_eq_true hb.2
    split at h
    case h_2 => exact .inl h
    rename_i hg
    have hG : HasG gs H := by
      intro x hx
      simp only [gs, List.mem_singleton] at hx
      subst hx
      exact ⟨hg, .cons (.int _ _) (.cons (.int _ _) .nil)⟩
    split at h
    · cases h0 : Nat.beq len 0 with
      | false => rw [h0] at h; exact .inl h
      | true =>
        have := Nat.eq_of_beq_eq_true h0
        subst this
        rw [h0, cond_true] at h
        exact .inr ⟨_, n, [], rfl, by simp, hk1, hG, ⟨none, off, ver, sz, full, rfl, fun i hi => by simp [natL] at hi⟩, h⟩
    · rename_i r1
      cases h0 : Nat.beq sz 2 with
      | false => rw [h0] at h; exact .inl h
      | true =>
        have := Nat.eq_of_beq_eq_true h0
        subst this
        rw [h0, cond_true] at h
        split at h
        case h_2 => exact .inl h
        rename_i vs hvs
        split at h
        case h_2 => exact .inl h
        rename_i l hl
        obtain ⟨h1, h2⟩ := hs_of (full := full) hvs hl
        exact .inr ⟨_, n, l, rfl, by omega, hk1, hG, h2, h⟩
noncomputable def possX (args : List AV) (H : AH) : Option (AV × AH) := heapsX args H none fun n l => some (.bool (possN n l), H)
noncomputable def firstX (args : List AV) (H : AH) : Option (AV × AH) := heapsX args H none fun n l => Prod.rec (fun a b => forceN a fun a => forceN b fun b => some (.agg [.int .i64 (.ofNat a), .int .i64 (.ofNat b)], H)) (fcN n l 601 0 0)
theorem possX_ok {args : List AV} {H : AH} {v : AV} {H' : AH} (h : possX args H = some (v, H')) : AC Tryd.prog 58 args H fun v' H2 => v' = v ∧ H2 = H' := by
  rcases heapsX_ok h with h | ⟨u, n, l, rfl, hl, hn, hG, hH, h⟩
  · cases h
  · cases h
    refine possible_ac n u (natL l) H _ (by simp [natL]; omega) hH ⟨Int.natCast_nonneg n, Int.ofNat_le.2 hn⟩ hG ⟨?_, rfl⟩
    rw [possN_eq]
theorem firstX_ok {args : List AV} {H : AH} {v : AV} {H' : AH} (h : firstX args H = some (v, H')) : AC Tryd.prog 69 args H fun v' H2 => v' = v ∧ H2 = H' := by
  rcases heapsX_ok h with h | ⟨u, n, l, rfl, hl, hn, hG, hH, h⟩
  · cases h
  · simp only [forceN_eq] at h
    cases h
    refine firstCrowded_q n u (natL l) H (by simp [natL]; omega) hH ⟨Int.natCast_nonneg n, Int.ofNat_le.2 hn⟩ hG _ ⟨?_, rfl⟩
    rw [firstS_nat]; rfl
/-- The context in which plans are reckoned at once. -/
noncomputable def cxp : Cx Tryd.prog where
  good := goodT
  keep := keepT
  ext f args H := bif Nat.beq f 58 then possX args H else bif Nat.beq f 69 then firstX args H else none
theorem cxp_ok : cxp.Ok where
  mixed := cx_ok.mixed
  ord f h := cx_ok.ord f h
  ext f args H v H' h := by
    simp only [cxp] at h
    cases hf : Nat.beq f 58 with
    | true =>
      have := Nat.eq_of_beq_eq_true hf
      subst this
      rw [hf] at h
      exact possX_ok h
    | false =>
      rw [hf, cond_false] at h
      cases hf2 : Nat.beq f 69 with
      | true =>
        have := Nat.eq_of_beq_eq_true hf2
        subst this
        rw [hf2] at h
        exact firstX_ok h
      | false => rw [hf2] at h; cases h

theorem works_run : runZ cxp 3000 16 [] (gRows gs) = some (.bool true, gRows gs) := by kernel_rfl
theorem works_ac (H : AH) (Q : AV → AH → Prop) (hg : HasG gs H) (h : Q (.bool true) H) : AC Tryd.prog 16 [] H Q := AC_kernG cxp_ok 3000 gs hg works_run .nil (.bool _) h
end Go.Proofs.YtjldfcfomiopfaaDoor
