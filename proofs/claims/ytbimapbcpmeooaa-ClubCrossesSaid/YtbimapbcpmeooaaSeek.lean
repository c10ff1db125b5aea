/- A search for all plans of counts: what it keeps, and how tables come and go. -/
import Derived.Test.YtbimapbcpmeooaaCanS
import Derived.Test.YtbimapbcpmeooaaAxR
namespace Go.Proofs.Ytbimapbcpmeooaa.Cl
open Go Go.Proofs.Ytbimapbcpmeooaa Go.Proofs.Ytbimapbcpmeooaa.AX
set_option maxRecDepth 100000
set_option linter.unusedVariables false
def tb (T : List Tb) : List (List AV) := T.map fun p => [.int .i64 (p.1 : Nat), .int .i64 (p.2 : Nat)]
theorem tb_len (T : List Tb) : (tb T).length = T.length := by simp [tb]
theorem tb_app (T S : List Tb) : tb (T ++ S) = tb T ++ tb S := by simp [tb]
theorem tb_ok (T : List Tb) : rowsOk 2 (tb T) := fun x hx => by
  obtain ⟨p, -, rfl⟩ := List.mem_map.1 hx
  exact ⟨rfl, by simp [AV.one]⟩
def tcl (T : List Tb) : List AV := (tb T).flatten
theorem tcl_len (T : List Tb) : (tcl T).length = T.length * 2 := by unfold tcl; rw [flat_len (tb_ok T), tb_len]
theorem tcl_app (T : List Tb) (a b : Nat) : tcl (T ++ [(a, b)]) = tcl T ++ [.int .i64 (a : Nat), .int .i64 (b : Nat)] := by simp [tcl, tb]
theorem ek32 : elK Try.prog 32 2 = true := by kernel_rfl
theorem bd67 (a b : Int) : aBuilt Try.prog 67 [(0, .int .i64 a), (1, .int .i64 b)] = some [.int .i64 a, .int .i64 b] := by kernel_rfl
theorem row32 (H : AH) (a b : Int) : rowV Try.prog 32 1 [(0, .agg [.int .i64 a, .int .i64 b])] H = some (some (.slice (some H.length) 0 1 0 2 false), H ++ [.row [.int .i64 a, .int .i64 b] 0 2 false]) := by kernel_rfl
/-- Tables in a row of the search's own, perhaps with something behind them. -/
def TB (M ps q : Nat) (H : AH) (v : AV) (T : List Tb) : Prop :=
  (T = [] ∧ v = .slice none 0 0 0 1 false) ∨ ∃ t ver s tl, M ≤ t ∧ t ≠ ps ∧ t ≠ q ∧ v = .slice (some t) 0 T.length ver 2 false ∧ H[t]? = some (.row (tcl T ++ tl) ver s false) ∧ ∀ x ∈ tl, x.one = true
/-- What was there before the search began, and two of its rows, are as they were. -/
def KM (M ps q : Nat) (H H' : AH) : Prop := H.length ≤ H'.length ∧ ∀ j, j < H.length → (j < M ∨ j = ps ∨ j = q) → H'[j]? = H[j]?
theorem known_one {x : AV} (h : x.one = true) : known (some x) = some x := by cases x <;> simp_all [AV.one, known]
theorem TB.rs {M ps q : Nat} {H : AH} {v : AV} {T : List Tb} (h : TB M ps q H v T) : Rs 2 H v (tb T) := by
  rcases h with ⟨rfl, rfl⟩ | ⟨t, ver, s, tl, h1, h2, h3, rfl, h4, h5⟩
  · exact Rs.nil 2 H
  · have hl := tcl_len T
    refine ⟨some t, 0, ver, 2, false, by rw [tb_len], fun i hi => ⟨t, rfl, rfl, ?_⟩⟩
    rw [tb_len] at hi
    rw [ldn_row h4, Nat.zero_add]
    have h6 := flat_get (tb_ok T) i (by rw [tb_len]; exact hi)
    have h7 : (tcl T ++ tl).drop (i * 2) = (tcl T).drop (i * 2) ++ tl := List.drop_append_of_le_length (by omega)
    rw [h7]
    have hd : (tcl T).drop (i * 2) = (tb T)[i]'(by rw [tb_len]; exact hi) ++ ((tcl T).drop (i * 2)).drop 2 := by
      have h8 := takeKnown_len (n := 2) (l := (tcl T).drop (i * 2)) (vs := (tb T)[i]'(by rw [tb_len]; exact hi)) h6
      unfold tcl at h6 ⊢
      have hx : (tb T)[i]'(by rw [tb_len]; exact hi) = [.int .i64 ((T[i].1 : Nat) : Int), .int .i64 ((T[i].2 : Nat) : Int)] := by simp [tb]
      rw [hx] at h6 ⊢
      generalize (tb T).flatten.drop (i * 2) = d at h6
      match d, h6 with
      | [], h6 => simp [takeKnown] at h6
      | [x], h6 => cases x <;> simp [takeKnown] at h6
      | x :: y :: d, h6 =>
        cases x <;> cases y <;> simp [takeKnown] at h6
        obtain ⟨⟨rfl, rfl⟩, rfl, rfl⟩ := h6
        rfl
    rw [hd, List.append_assoc]
    have := takeKnown_row (l := (tb T)[i]'(by rw [tb_len]; exact hi)) (fun v hv => one_known ((tb_ok T _ (List.getElem_mem _)).2 v hv)) (((tcl T).drop (i * 2)).drop 2 ++ tl)
    rw [(tb_ok T _ (List.getElem_mem _)).1] at this
    exact this
theorem TB.keep {M ps q : Nat} {H H' : AH} {v : AV} {T : List Tb} (h : TB M ps q H v T) (hk : ∀ j, M ≤ j → j ≠ ps → j ≠ q → j < H.length → H'[j]? = H[j]?) : TB M ps q H' v T := by
  rcases h with h | ⟨t, ver, s, tl, h1, h2, h3, rfl, h4, h5⟩
  · exact .inl h
  · exact .inr ⟨t, ver, s, tl, h1, h2, h3, rfl, by rw [hk t h1 h2 h3 (List.getElem?_eq_some_iff.1 h4).1]; exact h4, h5⟩
theorem TB.push {M ps q : Nat} {H : AH} {v : AV} {T : List Tb} (h : TB M ps q H v T) (a b : Nat) (hM : M ≤ H.length) (hp : ps < H.length) (hq : q < H.length) (hT : T.length < 1000) :
    ∃ v' H', aAppend Try.prog (H ++ [.row [.int .i64 (a : Nat), .int .i64 (b : Nat)] 0 2 false]) 32 32 v (.slice (some H.length) 0 1 0 2 false) = some (v', H') ∧ TB M ps q H' v' (T ++ [(a, b)]) ∧ KM M ps q H H' := by
  obtain ⟨e, I, h1, h2, h3, h4, hk0, -⟩ := elK_some ek32
  have hsrc : aSrc Try.prog (H ++ [AObj.row [.int .i64 (a : Nat), .int .i64 (b : Nat)] 0 2 false]) 32 2 (.slice (some H.length) 0 1 0 2 false) = some (1, [.int .i64 (a : Nat), .int .i64 (b : Nat)]) := by
    have : ldn (H ++ [AObj.row [.int .i64 (a : Nat), .int .i64 (b : Nat)] 0 2 false]) H.length 0 (1 * 2) 0 = some [.int .i64 (a : Nat), .int .i64 (b : Nat)] := by
      rw [ldn_row (c := [.int .i64 (a : Nat), .int .i64 (b : Nat)]) (s := 2) (ro := false) (by simp)]
      rfl
    simp only [aSrc, h1, this, true_and, Nat.zero_lt_one, if_true, Option.map_some]
  unfold aAppend
  rcases h with ⟨rfl, rfl⟩ | ⟨t, ver, s, tl, g1, g2, g3, rfl, hr, g5⟩
  · refine ⟨.slice (some (H.length + 1)) 0 1 0 2 false, H ++ [.row [.int .i64 (a : Nat), .int .i64 (b : Nat)] 0 2 false] ++ [.row [.int .i64 (a : Nat), .int .i64 (b : Nat)] 0 0 false], ?_, .inr ⟨H.length + 1, 0, 0, [], by omega, by omega, by omega, rfl, by simp [tcl, tb], by simp⟩, by simp, fun j hj _ => ?_⟩
    · simp [h1, h2, h3, h4, hsrc, AV.one]
    · rw [List.append_assoc, List.getElem?_append_left hj]
  · have hlt : t < H.length := (List.getElem?_eq_some_iff.1 hr).1
    have hr' : (H ++ [AObj.row [.int .i64 (a : Nat), .int .i64 (b : Nat)] 0 2 false])[t]? = some (.row (tcl T ++ tl) ver s false) := by rw [List.getElem?_append_left hlt]; exact hr
    have hfl := tcl_len T
    have hle' : T.length + 1 ≤ 16777216 := by omega
    by_cases c : 2 ≤ tl.length
    · obtain ⟨x, y, tl, rfl⟩ : ∃ x y r, tl = x :: y :: r := by
        match tl, c with
        | x :: y :: r, _ => exact ⟨x, y, r, rfl⟩
      have hx := g5 x (by simp)
      have hy := g5 y (by simp)
      refine ⟨.slice (some t) 0 (T.length + 1) ver 2 false, (H ++ [AObj.row [.int .i64 (a : Nat), .int .i64 (b : Nat)] 0 2 false]).set t (.row (tcl T ++ [.int .i64 (a : Nat), .int .i64 (b : Nat)] ++ tl) ver (min s (T.length * 2)) false), ?_, .inr ⟨t, ver, min s (T.length * 2), tl, g1, g2, g3, by simp, ?_, fun z hz => g5 z (by simp [hz])⟩, by simp, fun j hj h => ?_⟩
      · have hin : inPlace (H ++ [AObj.row [.int .i64 (a : Nat), .int .i64 (b : Nat)] 0 2 false]) t 0 T.length 1 ver 2 [.int .i64 (a : Nat), .int .i64 (b : Nat)] = some ((H ++ [AObj.row [.int .i64 (a : Nat), .int .i64 (b : Nat)] 0 2 false]).set t (.row (tcl T ++ [.int .i64 (a : Nat), .int .i64 (b : Nat)] ++ tl) ver (min s (T.length * 2)) false)) := by
          simp only [inPlace, hr']
          rw [if_pos ⟨trivial, by rw [List.length_append, hfl]; simp; omega⟩]
          simp only [stn, hr']
          have e1 : (tcl T ++ x :: y :: tl).drop (0 + T.length * 2) = x :: y :: tl := by rw [Nat.zero_add, ← hfl, List.drop_left]
          have e2 : (tcl T ++ x :: y :: tl).take (0 + T.length * 2) = tcl T := by rw [Nat.zero_add, ← hfl, List.take_left]
          have e3 : (tcl T ++ x :: y :: tl).drop (0 + T.length * 2 + [AV.int .i64 (a : Nat), AV.int .i64 (b : Nat)].length) = tl := by
            rw [← List.drop_drop, e1]; rfl
          have e4 : (takeKnown 2 (x :: y :: tl)).isSome = true := by
            have := takeKnown_row (l := [x, y]) (fun v hv => one_known (by simp at hv; rcases hv with rfl | rfl <;> assumption)) tl
            rw [show (2 : Nat) = [x, y].length from rfl, show x :: y :: tl = [x, y] ++ tl from rfl, this]; rfl
          rw [e1, e2, e3, if_pos ⟨trivial, trivial, by simp [AV.one], e4⟩, Nat.zero_add]
        simp only [h1, h2, h3, hsrc, hin, Option.bind_some]
        simp [h4, hle', AV.one]
      · rw [List.getElem?_set_self (by simp; omega), tcl_app]
      · rw [List.getElem?_set_ne (by omega), List.getElem?_append_left hj]
    · refine ⟨.slice (some t) 0 (T.length + 1) (ver + 1) 2 false, (H ++ [AObj.row [.int .i64 (a : Nat), .int .i64 (b : Nat)] 0 2 false]).set t (.row (tcl T ++ [.int .i64 (a : Nat), .int .i64 (b : Nat)]) (ver + 1) (min s (T.length * 2)) false), ?_, .inr ⟨t, ver + 1, min s (T.length * 2), [], g1, g2, g3, by simp, ?_, by simp⟩, by simp, fun j hj h => ?_⟩
      · have hin : inPlace (H ++ [AObj.row [.int .i64 (a : Nat), .int .i64 (b : Nat)] 0 2 false]) t 0 T.length 1 ver 2 [.int .i64 (a : Nat), .int .i64 (b : Nat)] = none := by
          simp only [inPlace, hr']
          rw [if_neg]
          rintro ⟨-, h5⟩
          rw [List.length_append, hfl] at h5
          omega
        have hgr : grow (H ++ [AObj.row [.int .i64 (a : Nat), .int .i64 (b : Nat)] 0 2 false]) t 0 (T.length * 2) ver [.int .i64 (a : Nat), .int .i64 (b : Nat)] = some ((H ++ [AObj.row [.int .i64 (a : Nat), .int .i64 (b : Nat)] 0 2 false]).set t (.row (tcl T ++ [.int .i64 (a : Nat), .int .i64 (b : Nat)]) (ver + 1) (min s (T.length * 2)) false), ver + 1) := by
          simp only [grow, hr']
          rw [if_pos ⟨trivial, by rw [List.length_append]; omega, .inl trivial⟩]
          have e2 : (tcl T ++ tl).take (T.length * 2) = tcl T := by rw [← hfl, List.take_left]
          simp only [List.replicate_zero, List.nil_append, List.drop_zero, Nat.zero_add, e2]
        simp only [h1, h2, h3, hsrc, hin, hgr, Option.bind_some, Option.map_some]
        simp [h4, hle', AV.one]
      · rw [List.getElem?_set_self (by simp; omega), tcl_app, List.append_nil]
      · rw [List.getElem?_set_ne (by omega), List.getElem?_append_left hj]
theorem TB.pop {M ps q : Nat} {H : AH} {v : AV} {T : List Tb} {p : Tb} (h : TB M ps q H v (T ++ [p])) :
    ∃ v', aLen Try.prog 32 v = some (.int .i64 ((T.length : Int) + 1)) ∧ aSlice Try.prog 32 v none (some (.int .i64 (T.length : Int))) none = some v' ∧ v'.one = true ∧ TB M ps q H v' T := by
  rcases h with ⟨h, -⟩ | ⟨t, ver, s, tl, g1, g2, g3, rfl, hr, g5⟩
  · simp at h
  · refine ⟨.slice (some t) 0 T.length ver 2 false, by simp, ?_, rfl, .inr ⟨t, ver, s, [.int .i64 (p.1 : Nat), .int .i64 (p.2 : Nat)] ++ tl, g1, g2, g3, rfl, ?_, ?_⟩⟩
    · rw [slice_hi slz32 _ _ _ _ _ (by simp)]; simp
    · rw [hr, tcl_app T p.1 p.2, List.append_assoc]
    · intro x hx
      rcases List.mem_append.1 hx with hx | hx
      · simp at hx; rcases hx with rfl | rfl <;> rfl
      · exact g5 x hx
theorem TB.one {M ps q : Nat} {H : AH} {v : AV} {T : List Tb} (h : TB M ps q H v T) : v.one = true := by
  rcases h with ⟨-, rfl⟩ | ⟨t, ver, s, tl, -, -, -, rfl, -, -⟩ <;> rfl
/-- What a search keeps: what is left of the counts, the tables that are chosen, and whom it tells. -/
structure Sst (ps q M n lv r : Nat) (L : List Nat) (T : List Tb) (H : AH) : Prop where
  len : L.length = n
  mps : M ≤ ps
  mq : M ≤ q
  ne : ps ≠ q
  rows : ∃ sq sp tv, H[ps]? = some (.row [.slice (some q) 0 n lv 1 false, tv, .yld r] 0 sp false) ∧ H[q]? = some (.row ((il L).map (.int .i64)) lv sq false) ∧ TB M ps q H tv T
/-- What was there before the search is as it was. -/
def KJ (M : Nat) (H H' : AH) : Prop := H.length ≤ H'.length ∧ ∀ j, j < M → H'[j]? = H[j]?
theorem KJ.refl (M : Nat) (H : AH) : KJ M H H := ⟨Nat.le_refl _, fun _ _ => rfl⟩
theorem KJ.trans {M : Nat} {A B C : AH} (h : KJ M A B) (k : KJ M B C) : KJ M A C := ⟨Nat.le_trans h.1 k.1, fun j hj => by rw [k.2 j hj, h.2 j hj]⟩
/-- Only the search's own two rows change. -/
def KPQ (ps q : Nat) (H H' : AH) : Prop := H.length ≤ H'.length ∧ ∀ j, j < H.length → j ≠ ps → j ≠ q → H'[j]? = H[j]?
theorem KPQ.trans {ps q : Nat} {A B C : AH} (h : KPQ ps q A B) (k : KPQ ps q B C) : KPQ ps q A C := ⟨Nat.le_trans h.1 k.1, fun j h1 h2 h3 => by rw [k.2 j (by have := h.1; omega) h2 h3, h.2 j h1 h2 h3]⟩
theorem KPQ.kj {ps q M : Nat} {A B : AH} (h : KPQ ps q A B) (h1 : M ≤ ps) (h2 : M ≤ q) (h3 : M ≤ A.length) : KJ M A B := ⟨h.1, fun j hj => h.2 j (by omega) (by omega) (by omega)⟩
section
variable {ps q M n lv r : Nat} {L : List Nat} {T : List Tb} {H : AH}
theorem Sst.lt (h : Sst ps q M n lv r L T H) : ps < H.length ∧ q < H.length := by
  obtain ⟨sq, sp, tv, h1, h2, -⟩ := h.rows
  exact ⟨(List.getElem?_eq_some_iff.1 h1).1, (List.getElem?_eq_some_iff.1 h2).1⟩
theorem Sst.get (h : Sst ps q M n lv r L T H) : ∃ tv, ld H ps 0 0 = some (.slice (some q) 0 n lv 1 false) ∧ ld H ps 1 0 = some tv ∧ ld H ps 2 0 = some (.yld r) ∧ TB M ps q H tv T ∧ ∀ i (hi : i < L.length), ld H q i lv = some (.int .i64 (L[i] : Nat)) := by
  obtain ⟨sq, sp, tv, h1, h2, h3⟩ := h.rows
  refine ⟨tv, by rw [ld_row h1]; rfl, by rw [ld_row h1]; exact known_one h3.one, by rw [ld_row h1]; rfl, h3, fun i hi => ?_⟩
  rw [ld_row h2]
  simp [il, hi]
theorem Sst.setL (h : Sst ps q M n lv r L T H) {i : Nat} (hi : i < L.length) (y : Nat) : ∃ H', storeV Try.prog 3 H (.ptr q i lv) (.int .i64 (y : Nat)) = some (none, H') ∧ Sst ps q M n lv r (L.set i y) T H' ∧ KPQ ps q H H' := by
  obtain ⟨sq, sp, tv, h1, h2, h3⟩ := h.rows
  have hst := store_row (P := Try.prog) (u := 3) (p := i) sc3 (x := .int .i64 (y : Nat)) (y := .int .i64 (L[i] : Nat)) rfl h2 (by simp [il, hi])
  refine ⟨_, hst, ⟨by simp [h.len], h.mps, h.mq, h.ne, min sq i, sp, tv, ?_, ?_, ?_⟩, by simp, fun j hj j1 j2 => ?_⟩
  · rw [List.getElem?_set_ne h.ne.symm]; exact h1
  · rw [get_set h2, ← List.map_set, il_set]
  · exact h3.keep fun j a1 a2 a3 a4 => List.getElem?_set_ne (Ne.symm a3)
  · exact List.getElem?_set_ne (Ne.symm j2)
theorem Sst.push (h : Sst ps q M n lv r L T H) (a b : Nat) (hT : T.length < 1000) : ∃ tv tv' H1 H2, ld H ps 1 0 = some tv ∧
    aAppend Try.prog (H ++ [.row [.int .i64 (a : Nat), .int .i64 (b : Nat)] 0 2 false]) 32 32 tv (.slice (some H.length) 0 1 0 2 false) = some (tv', H1) ∧ storeV Try.prog 32 H1 (.ptr ps 1 0) tv' = some (none, H2) ∧ Sst ps q M n lv r L (T ++ [(a, b)]) H2 ∧ KJ M H H2 := by
  obtain ⟨l1, l2⟩ := h.lt
  obtain ⟨sq, sp, tv, h1, h2, h3⟩ := h.rows
  have hmp := h.mps
  obtain ⟨tv', H1, g1, g2, g3⟩ := h3.push a b (by omega) l1 l2 hT
  have r1 := (g3.2 ps l1 (.inr (.inl rfl))).trans h1
  have r2 := (g3.2 q l2 (.inr (.inr rfl))).trans h2
  have hst := store_row (P := Try.prog) (u := 32) (p := 1) sc32 (x := tv') (y := tv) g2.one r1 (known_one h3.one)
  refine ⟨tv, tv', H1, _, by rw [ld_row h1]; exact known_one h3.one, g1, hst, ⟨h.len, h.mps, h.mq, h.ne, sq, min sp 1, tv', ?_, ?_, ?_⟩, ?_⟩
  · rw [get_set r1]; rfl
  · rw [List.getElem?_set_ne h.ne]; exact r2
  · exact g2.keep fun j a1 a2 a3 a4 => List.getElem?_set_ne (Ne.symm a2)
  · refine ⟨by rw [List.length_set]; exact g3.1, fun j hj => ?_⟩
    rw [List.getElem?_set_ne (by omega), g3.2 j (by omega) (.inl hj)]
theorem Sst.pop {p : Tb} (h : Sst ps q M n lv r L (T ++ [p]) H) : ∃ tv tv' H2, ld H ps 1 0 = some tv ∧ aLen Try.prog 32 tv = some (.int .i64 ((T.length : Int) + 1)) ∧
    aSlice Try.prog 32 tv none (some (.int .i64 (T.length : Int))) none = some tv' ∧ storeV Try.prog 32 H (.ptr ps 1 0) tv' = some (none, H2) ∧ Sst ps q M n lv r L T H2 ∧ KPQ ps q H H2 := by
  obtain ⟨sq, sp, tv, h1, h2, h3⟩ := h.rows
  obtain ⟨tv', g1, g2, g3, g4⟩ := h3.pop
  have hst := store_row (P := Try.prog) (u := 32) (p := 1) sc32 (x := tv') (y := tv) g3 h1 (known_one h3.one)
  refine ⟨tv, tv', _, by rw [ld_row h1]; exact known_one h3.one, g1, g2, hst, ⟨h.len, h.mps, h.mq, h.ne, sq, min sp 1, tv', ?_, ?_, ?_⟩, by simp, fun j hj j1 j2 => ?_⟩
  · rw [get_set h1]; rfl
  · rw [List.getElem?_set_ne h.ne]; exact h2
  · exact g4.keep fun j a1 a2 a3 a4 => List.getElem?_set_ne (Ne.symm a2)
  · exact List.getElem?_set_ne (Ne.symm j1)
theorem Sst.keep (h : Sst ps q M n lv r L T H) {H' : AH} (hk : ∀ j, M ≤ j → j < H.length → H'[j]? = H[j]?) : Sst ps q M n lv r L T H' := by
  obtain ⟨l1, l2⟩ := h.lt
  obtain ⟨sq, sp, tv, h1, h2, h3⟩ := h.rows
  exact ⟨h.len, h.mps, h.mq, h.ne, sq, sp, tv, (hk ps h.mps l1).trans h1, (hk q h.mq l2).trans h2, h3.keep fun j a1 _ _ a4 => hk j a1 a4⟩
end
end Go.Proofs.Ytbimapbcpmeooaa.Cl
