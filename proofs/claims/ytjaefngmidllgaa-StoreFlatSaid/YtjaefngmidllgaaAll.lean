/- The law's own walk through all divisions: Clip, put, all. -/
import Derived.Test.YtjaefngmidllgaaChk
namespace Go.Proofs.Ytjaefngmidllgaa.St
open Go Go.Proofs.Ytjaefngmidllgaa Go.Proofs.Ytjaefngmidllgaa.AX
set_option maxRecDepth 100000
set_option linter.unusedVariables false
/-- All rows but some are as they were. -/
def Kp (W : Nat → Prop) (H H' : AH) : Prop := H.length ≤ H'.length ∧ ∀ j, j < H.length → ¬ W j → H'[j]? = H[j]?
theorem Kp.refl (W : Nat → Prop) (H : AH) : Kp W H H := ⟨Nat.le_refl _, fun _ _ _ => rfl⟩
theorem Kp.trans {W : Nat → Prop} {A B C : AH} (h : Kp W A B) (k : Kp W B C) : Kp W A C := ⟨Nat.le_trans h.1 k.1, fun j h1 h2 => by rw [k.2 j (by have := h.1; omega) h2, h.2 j h1 h2]⟩
theorem Kp.of {W : Nat → Prop} {A B : AH} (h : Ext A B) : Kp W A B := ⟨h.1, fun j h1 _ => h.2 j h1⟩
theorem Kp.row {W : Nat → Prop} {A B : AH} (h : Kp W A B) {j : Nat} (hj : ¬ W j) {o : AObj} (ho : A[j]? = some o) : B[j]? = some o := by
  rw [h.2 j (List.getElem?_eq_some_iff.1 ho).1 hj, ho]
theorem Kp.ls {W : Nat → Prop} {A B : AH} (h : Kp W A B) {v : AV} {l : List Int} (hv : Ls A v l) (hr : ∀ j, rowOf v = some j → ¬ W j) : Ls B v l := ls_keep hv fun j h1 h2 => h.2 j h1 (hr j h2)
theorem Kp.set {W : Nat → Prop} {A B : AH} (h : Kp W A B) {r : Nat} (hr : W r) (o : AObj) : Kp W A (B.set r o) := ⟨by rw [List.length_set]; exact h.1, fun j h1 h2 => by
  rw [List.getElem?_set_ne (fun e : r = j => h2 (by rw [← e]; exact hr)), h.2 j h1 h2]⟩
/-- All divisions that begin so, as the law goes through them. -/
def enS : Nat → Nat → List Nat → List (List Nat)
  | 0, _, b => [b]
  | k + 1, o, b => (List.range (o + 1)).flatMap fun r => enS k (max o (r + 1)) (b ++ [r])
/-- All divisions. -/
def enA (n : Nat) : List (List Nat) := enS n 0 []
/-- A visitor: what it keeps of the divisions that it has seen. -/
structure Vis {σ : Type} (n : Nat) (W : Nat → Prop) (N : Nat) (fE : FuncId) (caps : List AV) (S : σ → AH → Prop) (vis : σ → List Nat → σ) : Prop where
  ok : okFn Try.prog fE = true
  lt : ∀ j, W j → j < N
  ext : ∀ st H H', S st H → Ext H H' → S st H'
  step : ∀ st v d H (Q : AV → AH → Prop), N ≤ H.length → S st H → Ls H v (il d) → (∀ j, rowOf v = some j → ¬ W j) → rg 0 d = true → d.length = n → (∀ H', S (vis st d) H' → Kp W H H' → Q (.tuple []) H') → AC Try.prog fE (v :: caps) H Q
theorem slice_clip {P : Program} {t : TypeId} {n : Nat} (h : slSz P t = some n) (r : Option Nat) (off len ver : Nat) (full : Bool) : aSlice P t (.slice r off len ver n full) none (some (.int .i64 (len : Int))) (some (.int .i64 (len : Int))) = some (clipOf r off len ver n) := by
  unfold slSz at h
  unfold aSlice
  split at h
  · rename_i e he
    rw [he]
    cases hi : P.info? e with
    | none => rw [hi] at h; cases h
    | some ie =>
      rw [hi] at h
      obtain rfl : ie.size = n := by simpa using h
      simp [hi, aBounds, aBound]
  · cases h
theorem clip_app {H : AH} {v : AV} {l : List Int} (h : Ls H v l) (hnil : l = [] → v = .slice none 0 0 0 1 false) (hl : l.length ≤ 100) : ∃ u, aSlice Try.prog 22 v none (some (.int .i64 (l.length : Int))) (some (.int .i64 (l.length : Int))) = some u ∧
    ∀ H1 p x, Ext H H1 → aSrc Try.prog H1 22 1 p = some (1, [x]) → x.one = true → aAppend Try.prog H1 22 22 u p = some (.slice (some H1.length) 0 (l.length + 1) 0 1 false, H1 ++ [.row (l.map (.int .i64) ++ [x]) 0 0 false]) := by
  obtain ⟨e, I, h1, h2, h3, h4, -⟩ := elT_some el22
  by_cases c : l = []
  · obtain rfl := hnil c
    subst c
    refine ⟨_, slice_clip slz22 .., fun H1 p x hE hs hx => ?_⟩
    simp [aAppend, clipOf, h1, h2, h3, h4, hs, hx]
  · obtain ⟨r, off, ver, sz, full, rfl, hld⟩ := h
    obtain ⟨r', rfl, rfl, -⟩ := hld 0 (List.length_pos_iff.2 c)
    refine ⟨_, slice_clip slz22 .., fun H1 p x hE hs hx => ?_⟩
    have hn : ldn H1 r' ver l.length off = some (l.map (.int .i64)) := ldn_ints fun i hi => by
      obtain ⟨r2, e2, -, e3⟩ := hld i hi
      obtain rfl := Option.some.inj e2
      exact hE.ld e3
    simp [aAppend, clipOf, h1, h2, h3, h4, hs, hx, hn]
    omega
theorem Clip_ac (v u : AV) (l : List Int) (H : AH) (Q : AV → AH → Prop) (hv : Ls H v l) (hu : aSlice Try.prog 22 v none (some (.int .i64 (l.length : Int))) (some (.int .i64 (l.length : Int))) = some u) (h : Q u H) : AC Try.prog 85 [v] H Q := by
  have hl := ls_len hv
  refine L_body 9 Try.func85 rfl rfl ?_
  refine L_reg [0] (fun K hK => ?_)
  simp
  apply hK; clear hK K
  refine L_reg [2] (fun K hK => ?_)
  simp [hl, hu]
  apply hK; clear hK K
  exact L_ret ⟨.inr rfl, _, rfl, h⟩
structure PA (ps pe pp : Nat) (sv E : AV) (H : AH) : Prop where
  s : ∃ m, H[ps]? = some (.row [sv] 0 m false)
  e : ∃ m, H[pe]? = some (.row [E] 0 m false)
  p : ∃ m, H[pp]? = some (.row [.func (.func 84) [] [.ptr ps 0 0, .ptr pe 0 0, .ptr pp 0 0]] 0 m false)
theorem PA.kp {ps pe pp : Nat} {sv E : AV} {W : Nat → Prop} {A B : AH} (h : PA ps pe pp sv E A) (k : Kp W A B) (h1 : ¬ W ps) (h2 : ¬ W pe) (h3 : ¬ W pp) : PA ps pe pp sv E B := by
  obtain ⟨⟨m, a⟩, ⟨n, b⟩, ⟨o, c⟩⟩ := h
  exact ⟨⟨m, k.row h1 a⟩, ⟨n, k.row h2 b⟩, ⟨o, k.row h3 c⟩⟩
set_option maxHeartbeats 2000000 in
theorem put_ac {σ : Type} {n : Nat} {W : Nat → Prop} {N : Nat} {fE : FuncId} {caps : List AV} {S : σ → AH → Prop} {vis : σ → List Nat → σ} (hV : Vis n W N fE caps S vis) (h9 : n ≤ 9)
    (ps pe pp : Nat) (w1 : ¬ W ps) (w2 : ¬ W pe) (w3 : ¬ W pp) :
    ∀ (k : Nat) (b : List Nat) (o : Nat) (v : AV) (st : σ) (H : AH) (Q : AV → AH → Prop), b.length + k = n → rg 0 b = true → opn 0 b = o →
      Ls H v (il b) → (b = [] → v = .slice none 0 0 0 1 false) → (∀ j, rowOf v = some j → ¬ W j) → N ≤ H.length → PA ps pe pp (.int .i64 (n : Nat)) (.func (.func fE) [] caps) H → S st H → (∀ H', S ((enS k o b).foldl vis st) H' → Kp W H H' → Q (.tuple []) H') → AC Try.prog 84 [v, .int .i64 (o : Nat), .ptr ps 0 0, .ptr pe 0 0, .ptr pp 0 0] H Q := by
  intro k
  induction k with
  | zero =>
    intro b o v st H Q hb hr ho hv hnl hrv hN hP hS h
    obtain ⟨⟨m1, r1⟩, ⟨m2, r2⟩, ⟨m3, r3⟩⟩ := id hP
    have l1 : ld H ps 0 0 = some (.int .i64 (n : Nat)) := by rw [ld_row r1]; rfl
    have l2 : ld H pe 0 0 = some (.func (.func fE) [] caps) := by rw [ld_row r2]; rfl
    have hvl := ils_len hv
    have hok := hV.ok
    refine L_body 31 Try.func84 rfl rfl ?_
    refine L_reg [0, 1, 3, 4, 11] (fun K hK => ?_)
    simp [hvl, l1]
    apply hK; clear hK K
    refine L_true (by simp; omega) ?_
    refine L_reg [] (fun K hK => ?_)
    simp [l2, hok]
    refine hV.step st v b H _ hN hS hv hrv hr (by omega) (fun H' hS' hK' => ?_)
    simp
    apply hK; clear hK K
    exact L_ret ⟨.inr rfl, _, rfl, (h H' (by simpa [enS] using hS') hK')⟩
  | succ k ih =>
    intro b o v st H Q hb hr ho hv hnl hrv hN hP hS h
    obtain ⟨⟨m1, r1⟩, ⟨m2, r2⟩, ⟨m3, r3⟩⟩ := id hP
    have l1 : ld H ps 0 0 = some (.int .i64 (n : Nat)) := by rw [ld_row r1]; rfl
    have hvl := ils_len hv
    have hole := opn_le b 0
    refine L_body 31 Try.func84 rfl rfl ?_
    refine L_reg [0, 1, 3, 4, 11] (fun K hK => ?_)
    simp [hvl, l1]
    apply hK; clear hK K
    refine L_false (by simp; omega) ?_
    refine L_reg [0, 1, 4, 7] (fun K hK => ?_)
    simp
    apply hK; clear hK K
    refine L_block (L_loopV [7] (fun q vs H' => ∃ (i : Nat), q = o + 1 - i ∧ i ≤ o + 1 ∧ vs = [.int .i64 i] ∧
      S (((List.range i).flatMap fun r => enS k (max o (r + 1)) (b ++ [r])).foldl vis st) H' ∧ Kp W H H') _ [.int .i64 (0 : Nat)] rfl ⟨0, rfl, by omega, rfl, hS, .refl _ _⟩ ?_)
    rintro _ _ H1 ⟨i, rfl, hi, rfl, hS1, hK1⟩
    refine L_reg [0, 1, 4, 7, 17] (fun K hK => ?_)
    simp
    apply hK; clear hK K
    refine L_dec (i < o + 1) (by simp; omega) (fun hlt => ?_) (fun hge => L_exit ?_)
    · refine L_block ?_
      have hv1 := hK1.ls hv hrv
      have hP1 := hP.kp hK1 w1 w2 w3
      have hup : (List.range (i + 1)).flatMap (fun r => enS k (max o (r + 1)) (b ++ [r])) = (List.range i).flatMap (fun r => enS k (max o (r + 1)) (b ++ [r])) ++ enS k (max o (i + 1)) (b ++ [i]) := by
        rw [List.range_succ, List.flatMap_append]; simp
      have hrow : Ext H1 (H1 ++ [AObj.row [AV.int .i64 (i : Int)] 0 1 false, .row ((il b).map (.int .i64) ++ [.int .i64 (i : Int)]) 0 0 false]) := Ext.push _ _
      obtain ⟨cu, hcu, hcapp⟩ := clip_app hv1 (fun e => hnl (by simpa [il] using e)) (by rw [il_len]; omega)
      rw [il_len] at hcapp
      have hcl1 := fun Q h => Clip_ac v cu (il b) H1 Q hv1 hcu h
      have hEB : Ext H1 (H1 ++ [AObj.row [AV.int .i64 (i : Int)] 0 1 false]) := .push _ _
      have hcl2 := fun Q h => Clip_ac v cu (il b) (H1 ++ [AObj.row [AV.int .i64 (i : Int)] 0 1 false]) Q (hv1.ext hEB) hcu h
      have hsx : Ls (H1 ++ [AObj.row [AV.int .i64 (i : Int)] 0 1 false]) (.slice (some H1.length) 0 1 0 1 false) [(i : Int)] := Ls.row (ro := false) (l := [(i : Int)]) (s := 1) (by simp) false
      have happ := hcapp (H1 ++ [AObj.row [AV.int .i64 (i : Int)] 0 1 false]) (.slice (some H1.length) 0 1 0 1 false) (.int .i64 (i : Int)) hEB (by have := src_ls el22 hsx; simpa using this) rfl
      have l3 : ld H1 pp 0 0 = some (.func (.func 84) [] [.ptr ps 0 0, .ptr pe 0 0, .ptr pp 0 0]) := by
        obtain ⟨_, _, ⟨m4, r4⟩⟩ := hP1
        rw [ld_row r4]; rfl
      have hok84 : okFn Try.prog 84 = true := by kernel_rfl
      have hw2 : Ls (H1 ++ [AObj.row [AV.int .i64 (i : Int)] 0 1 false, .row ((il b).map (.int .i64) ++ [.int .i64 (i : Int)]) 0 0 false]) (.slice (some (H1.length + 1)) 0 (b.length + 1) 0 1 false) (il (b ++ [i])) := by
        have hr3 : (H1 ++ [AObj.row [AV.int .i64 (i : Int)] 0 1 false, .row ((il b).map (.int .i64) ++ [.int .i64 (i : Int)]) 0 0 false])[H1.length + 1]? = some (.row ((il (b ++ [i])).map (.int .i64)) 0 0 false) := by rw [il_snoc]; simp
        have := Ls.row (ro := false) hr3 false
        rw [il_len, List.length_append] at this
        exact this
      have hge := hK1.1
      obtain ⟨M, hM⟩ : ∃ M, max o (i + 1) = M := ⟨_, rfl⟩
      have hmx : max (o : Int) ((i : Int) + 1) = (M : Int) := by omega
      have hom : opn 0 (b ++ [i]) = M := by rw [opn_snoc, ho, ← hM]; split <;> omega
      have tail : ∀ (Q : AV → AH → Prop), (∀ H4, S (((List.range (i + 1)).flatMap fun r => enS k (max o (r + 1)) (b ++ [r])).foldl vis st) H4 → Kp W H H4 → Q (.tuple []) H4) →
          AC Try.prog 84 [.slice (some (H1.length + 1)) 0 (b.length + 1) 0 1 false, .int .i64 (M : Nat), .ptr ps 0 0, .ptr pe 0 0, .ptr pp 0 0] (H1 ++ [AObj.row [AV.int .i64 (i : Int)] 0 1 false, .row ((il b).map (.int .i64) ++ [.int .i64 (i : Int)]) 0 0 false]) Q := by
        intro Q hQ
        refine ih (b ++ [i]) M _ _ _ _ (by simp; omega) (by rw [rg_snoc, hr, Bool.true_and, decide_eq_true_eq]; omega) hom hw2 (fun e => by simp at e) (fun j hj => ?_) (by simp; omega) (hP1.kp (.of hrow) w1 w2 w3) (hV.ext _ _ _ hS1 hrow) (fun H4 hS4 hK4 => hQ H4 ?_ (hK1.trans ((Kp.of hrow).trans hK4)))
        · have : H1.length + 1 = j := by simpa [rowOf] using hj
          intro hw
          have := hV.lt j hw
          omega
        · rw [hup, List.foldl_append, hM]; exact hS4
      refine L_regR mixed (fun K hK => ?_)
      have hfin : ∀ H4, S (((List.range (i + 1)).flatMap fun r => enS k (max o (r + 1)) (b ++ [r])).foldl vis st) H4 → Kp W H H4 → K .normal [(0, v), (1, .int .i64 (o : Nat)), (4, .ptr pp 0 0), (7, .int .i64 (i : Nat))] H4 := fun H4 hS4 hK4 => by
        apply hK; clear hK K
        refine L_reg [0, 1, 4, 7] (fun K hK => ?_)
        simp [wrap_i64 (a := (i : Int) + 1) (by omega)]
        apply hK; clear hK K
        exact ⟨o + 1 - (i + 1), [.int .i64 (i + 1 : Nat)], by omega, by simp, i + 1, rfl, by omega, rfl, hS4, hK4⟩
      refine AWR_pair (x := 2) (y := 4) (ord := [0, 1, 3, 4, 2, 5, 6, 7, 8, 9, 10]) (by kernel_rfl) ?_ ?_
      · refine AWR_UM [0, 1, 4, 7] [true, false, false, false, false, false, false, false, false, false] rfl (by kernel_rfl) ?_
        simp [addE, okFn_low, l3]
        refine exX_mk hcl1 (.refl _) ?_
        simp [happ, hEB, hok84, wrap_i64 (a := (i : Int) + 1) (by omega), hmx]
        refine ⟨fun _ => hrow, fun _ => hrow, tail _ fun H4 hS4 hK4 => ?_⟩
        simp
        exact hfin H4 hS4 hK4
      · refine AWR_UM [0, 1, 4, 7] [true, false, false, false, false, false, false, false, false, false] rfl (by kernel_rfl) ?_
        simp [addE, permL, okFn_low, l3]
        refine ⟨hEB, exX_mk hcl2 (.refl _) ?_⟩
        simp [happ, hok84, wrap_i64 (a := (i : Int) + 1) (by omega), hmx]
        refine ⟨fun _ => hrow, fun _ => hrow, tail _ fun H4 hS4 hK4 => ?_⟩
        simp
        exact hfin H4 hS4 hK4
    · obtain rfl : i = o + 1 := by omega
      exact ⟨.inl rfl, _, rfl, h H1 (by simpa only [enS] using hS1) hK1⟩
theorem all_ac {σ : Type} {n : Nat} {W : Nat → Prop} {N : Nat} {fE : FuncId} {caps : List AV} {S : σ → AH → Prop} {vis : σ → List Nat → σ} (hV : Vis n W N fE caps S vis) (h9 : n ≤ 9)
    (st : σ) (H : AH) (Q : AV → AH → Prop) (hN : N ≤ H.length) (hS : S st H) (h : ∀ H', S ((enA n).foldl vis st) H' → Kp W H H' → Q (.tuple []) H') : AC Try.prog 43 [.int .i64 (n : Nat), .func (.func fE) [] caps] H Q := by
  refine L_body 8 Try.func43 rfl rfl ?_
  refine L_reg [2, 3] (fun K hK => ?_)
  simp [AV.isU, acells]
  apply hK; clear hK K
  refine L_reg [2, 3, 4] (fun K hK => ?_)
  simp
  apply hK; clear hK K
  have hz : List.map (absV 2) Value.nilFunc.cells.toList = [AV.nilfunc] := by rfl
  have hst : storeV Try.prog 73 (H ++ [AObj.row [.int .i64 (n : Int)] 0 0 false, AObj.row [.func (.func fE) [] caps] 0 0 false, AObj.row [AV.nilfunc] 0 0 false]) (.ptr (H.length + 2) 0 0) (.func (.func 84) [] [.ptr H.length 0 0, .ptr (H.length + 1) 0 0, .ptr (H.length + 2) 0 0]) = some (none, H ++ [AObj.row [.int .i64 (n : Int)] 0 0 false, AObj.row [.func (.func fE) [] caps] 0 0 false, AObj.row [.func (.func 84) [] [.ptr H.length 0 0, .ptr (H.length + 1) 0 0, .ptr (H.length + 2) 0 0]] 0 0 false]) := by
    rw [store_row (c := [AV.nilfunc]) (v := 0) (s := 0) sc73 (y := .nilfunc) rfl (by simp) rfl]
    simp
  refine L_reg [4] (fun K hK => ?_)
  simp [hz, hst]
  apply hK; clear hK K
  have hE : Ext H (H ++ [AObj.row [.int .i64 (n : Int)] 0 0 false, AObj.row [.func (.func fE) [] caps] 0 0 false, AObj.row [.func (.func 84) [] [.ptr H.length 0 0, .ptr (H.length + 1) 0 0, .ptr (H.length + 2) 0 0]] 0 0 false]) := .push _ _
  have hP : PA H.length (H.length + 1) (H.length + 2) (.int .i64 (n : Nat)) (.func (.func fE) [] caps) (H ++ [AObj.row [.int .i64 (n : Int)] 0 0 false, AObj.row [.func (.func fE) [] caps] 0 0 false, AObj.row [.func (.func 84) [] [.ptr H.length 0 0, .ptr (H.length + 1) 0 0, .ptr (H.length + 2) 0 0]] 0 0 false]) := ⟨⟨0, by simp⟩, ⟨0, by simp⟩, ⟨0, by simp⟩⟩
  generalize H ++ [AObj.row [.int .i64 (n : Int)] 0 0 false, AObj.row [.func (.func fE) [] caps] 0 0 false, AObj.row [.func (.func 84) [] [.ptr H.length 0 0, .ptr (H.length + 1) 0 0, .ptr (H.length + 2) 0 0]] 0 0 false] = H1 at *
  have l3 : ld H1 (H.length + 2) 0 0 = some (.func (.func 84) [] [.ptr H.length 0 0, .ptr (H.length + 1) 0 0, .ptr (H.length + 2) 0 0]) := by
    obtain ⟨-, -, ⟨m4, r4⟩⟩ := hP
    rw [ld_row r4]; rfl
  have hok84 : okFn Try.prog 84 = true := by kernel_rfl
  have hW : ∀ k, ¬ W (H.length + k) := fun k hk => by have := hV.lt _ hk; omega
  have := hE.1
  refine L_reg [] (fun K hK => ?_)
  simp [l3, hok84]
  refine put_ac hV h9 H.length (H.length + 1) (H.length + 2) (hW 0) (hW 1) (hW 2) n [] 0 _ st H1 _ (by simp) rfl rfl (.nil _) (fun _ => rfl) (fun j hj => by simp [rowOf] at hj) (by omega) hP (hV.ext _ _ _ hS hE) (fun H4 hS4 hK4 => ?_)
  simp
  apply hK; clear hK K
  exact ⟨.inl rfl, _, rfl, h H4 hS4 ((Kp.of hE).trans hK4)⟩
end Go.Proofs.Ytjaefngmidllgaa.St
