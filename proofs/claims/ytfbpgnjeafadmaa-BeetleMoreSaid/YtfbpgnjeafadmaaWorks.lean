/- The examples: that each law ends with, and of the chapter. -/
import Derived.Test.YtfbpgnjeafadmaaMsk
import Derived.Test.YtfbpgnjeafadmaaDays
namespace Go.Proofs.Ytfbpgnjeafadmaa.Fl
open Go Go.Proofs.Ytfbpgnjeafadmaa Go.Proofs.Ytfbpgnjeafadmaa.AX

/-- What returns a list of its own and a number is as good as one that makes just the list's row. -/
theorem AC.tidyT {P : Program} {f : FuncId} {args : List AV} {l : List AV} {H : AH} {e : Int} (hne : l ≠ []) (hb : l.all (belB H.length 4) = true) (h : ∀ Q : AV → AH → Prop, (∀ v' H', OwnF H.length H' v' l → Ext H H' → Q (.tuple [v', .int .i64 e]) H') → AC P f args H Q) (Q : AV → AH → Prop)
    (hq : Q (.tuple [.slice (some H.length) 0 l.length 0 1 false, .int .i64 e]) (H ++ [.row l 0 l.length false])) : AC P f args H Q := by
  refine AC_fin (h _ fun v' H' hO hE => ?_)
  refine ⟨⟨hE.1, fun r o hr ho => .inl (by rw [← hE.2 r hr]; exact ho)⟩, ?_⟩
  have ht : H'.take H.length = H := by
    obtain ⟨T, rfl⟩ := hE.app
    simp
  rcases hO with ⟨h0, -⟩ | ⟨r, ver, stale, hr, rfl, hrow⟩
  · exact absurd h0 hne
  · have h0 : belB H.length 3 (.slice (some r) 0 l.length ver 1 false) = false := by simp [belB]; omega
    have h1 : belB H.length 4 (.slice (some r) 0 l.length ver 1 false) = false := by simp [belB]; omega
    have h1' : belB H.length 4 (.tuple [.slice (some r) 0 l.length ver 1 false, .int .i64 e]) = false := by
      simp [belB]; omega
    have h2 : finSlice H.length H' (.slice (some r) 0 l.length ver 1 false) = some (.slice (some H.length) 0 l.length 0 1 false, .row l 0 l.length false) := by
      simp only [finSlice, hrow, if_pos hr, Nat.mul_one, Nat.zero_add, List.drop_zero, List.take_length]
      rw [if_pos ⟨trivial, Nat.le_refl _, hb⟩]
    have hf : finish H.length H' (.tuple [.slice (some r) 0 l.length ver 1 false, .int .i64 e]) = (.tuple [.slice (some H.length) 0 l.length 0 1 false, .int .i64 e], H ++ [.row l 0 l.length false]) := by
      unfold finish
      rw [h1']
      simp only [Bool.false_eq_true, if_false, finList, h1, h2, List.all_cons, List.all_nil, belB_int, Bool.and_true, if_true, ht]
    rw [hf]; exact hq
def chV (H : AH) (l : List Int) : AV := match l with | [] => .slice none 0 0 0 1 false | _ :: _ => .slice (some H.length) 0 l.length 0 1 false
def chH (H : AH) (l : List Int) : AH := match l with | [] => H | _ :: _ => H ++ [.row (l.map (.int .i64)) 0 l.length false]
theorem AC.tidyN {P : Program} {f : FuncId} {args : List AV} {l : List Int} {H : AH} {e : Int} (h : ∀ Q : AV → AH → Prop, (∀ v' H', OwnN H.length H' v' l → Ext H H' → Q (.tuple [v', .int .i64 e]) H') → AC P f args H Q) (Q : AV → AH → Prop) (hq : Q (.tuple [chV H l, .int .i64 e]) (chH H l)) : AC P f args H Q := by
  cases l with
  | nil =>
    refine AC.quiet (v := .tuple [.slice none 0 0 0 1 false, .int .i64 e]) rfl (fun Q h2 => h Q fun v' H' hO hE => ?_) Q hq
    rw [hO.1 rfl]; exact h2 H' hE
  | cons x l =>
    refine AC.tidyT (l := (x :: l).map (.int .i64)) (by simp) (belB_ints _ _) (fun Q h2 => h Q fun v' H' hO hE => h2 v' H' hO.2 hE) Q ?_
    simpa [chV, chH] using hq
theorem beq_no {f k : Nat} (h : Nat.beq f k = false) : f ≠ k := fun e => by subst e; rw [Nat.beq_refl] at h; cases h
theorem cond_some {α : Type} {b : Bool} {x y : Option α} {r : α} (h : (bif b then x else y) = some r) : (b = true ∧ x = some r) ∨ y = some r := by
  cases b with
  | true => exact .inl ⟨rfl, h⟩
  | false => exact .inr h
def sdB (r c : Nat) : Bool := Nat.ble 1 r && (Nat.ble r 5 && (Nat.ble 1 c && Nat.ble c 5))
theorem sdB_sd {r c : Nat} (h : sdB r c = true) : Sd r c := by
  simp only [sdB, Bool.and_eq_true, Nat.ble_eq] at h
  exact ⟨h.1, h.2.1, h.2.2.1, h.2.2.2⟩
def opN (n z : Nat) : Nat := (2 ^ n - 1) &&& ((2 ^ 25 - 1) ^^^ z)
theorem opN_tb {n z : Nat} (hn : n ≤ 25) : tb (opN n z) = opn n (tb z) := by
  funext b
  show (opN n z).testBit b = (lt' n b && !tb z b)
  unfold opN lt' tb
  rw [Nat.testBit_and, Nat.testBit_xor, Nat.testBit_two_pow_sub_one, Nat.testBit_two_pow_sub_one]
  by_cases h : b < n
  · rw [decide_eq_true h, decide_eq_true (show b < 25 by omega)]; simp
  · rw [decide_eq_false h]; simp
theorem lt_tb (n : Nat) : tb (2 ^ n - 1) = lt' n := by
  funext b
  show (2 ^ n - 1).testBit b = decide (b < n)
  rw [Nat.testBit_two_pow_sub_one]
/-- The list that a slice of the memory reads as. -/
def rdL (H : AH) (r ver : Nat) : Nat → Nat → Option (List Int)
  | 0, _ => some []
  | n + 1, off => match ld H r off ver with
    | some (.int .i64 x) => (rdL H r ver n (off + 1)).map (x :: ·)
    | _ => none
def lsOf (H : AH) : AV → Option (List Int)
  | .slice none _ 0 _ _ _ => some []
  | .slice (some r) off len ver 1 _ => rdL H r ver len off
  | _ => none
theorem rdL_ok {H : AH} {r ver : Nat} : ∀ (n off : Nat) {l : List Int}, rdL H r ver n off = some l → l.length = n ∧ ∀ i (h : i < l.length), ld H r (off + i) ver = some (.int .i64 l[i])
  | 0, _, l, h => by cases h; exact ⟨rfl, fun i h => by simp at h⟩
  | n + 1, off, l, h => by
    simp only [rdL] at h
    split at h
    · rename_i x hx
      obtain ⟨m, h1, rfl⟩ := Option.map_eq_some_iff.1 h
      obtain ⟨h2, h3⟩ := rdL_ok n (off + 1) h1
      refine ⟨by simp [h2], fun i hi => ?_⟩
      cases i with
      | zero => simpa using hx
      | succ i =>
        have := h3 i (by simpa using hi)
        rw [show off + 1 + i = off + (i + 1) by omega] at this
        simpa using this
    · cases h
theorem lsOf_ok {H : AH} {u : AV} {l : List Int} (h : lsOf H u = some l) : Ls H u l := by
  unfold lsOf at h
  split at h
  · cases h; exact ⟨none, _, _, _, _, rfl, fun i h => by simp at h⟩
  · rename_i r off len ver full
    obtain ⟨h1, h2⟩ := rdL_ok _ _ h
    subst h1
    exact ⟨some r, off, ver, 1, full, rfl, fun i hi => ⟨r, rfl, rfl, h2 i hi⟩⟩
  · cases h
/-- Marks of a row of cells. -/
noncomputable def mskA {α : Type} (l : List AV) (k : Nat → Option α) : Option α := match boolsOf l with
  | some bs => bif Nat.beq bs.length 25 then forceN (maskL bs) k else none
  | none => none
theorem mskA_some {α : Type} {l : List AV} {k : Nat → Option α} {x : α} (h : mskA l k = some x) : ∃ m, l = bA (tb m) ∧ k m = some x := by
  unfold mskA at h
  split at h
  · rename_i bs hb
    cases hl : Nat.beq bs.length 25 with
    | false => rw [hl] at h; cases h
    | true =>
      rw [hl] at h
      exact ⟨maskL bs, bA_mask hb (Nat.eq_of_beq_eq_true hl), by rw [← forceN_eq (maskL bs) k]; exact h⟩
  · cases h
/-- What a call of reached answers. -/
noncomputable def reaX (r c k : Nat) (s o : List AV) (H : AH) : Option (AV × AH) := bif sdB r c then mskA s fun m => mskA o fun z => bif Nat.blt m (2 ^ (r * c)) then rowN (spN r c k z m) 25 0 fun l => some (.agg l, H) else none else none
noncomputable def dayX (r c : Nat) (cells : List AV) (H : AH) : Option (AV × AH) := bif sdB r c then mskA (cells.take 25) fun m => mskA (cells.drop 25) fun z => bif Nat.blt m (2 ^ (r * c)) then forceN (opN (r * c) z) fun o => some (.agg (iA fun b => dayF r c o b 26 0 m), H) else none else none
noncomputable def safX (r c : Nat) (cells t : List AV) (H : AH) : Option (AV × AH) := bif sdB r c then mskA (cells.take 25) fun m => mskA (cells.drop 25) fun z => mskA t fun y => bif Nat.blt y (2 ^ (r * c)) then some (.bool (safeS r c (r * c) (tb m) (tb z) (tb y)), H) else none else none
noncomputable def fitN (r c n T : Nat) : Bool := forceN (spN r c 2 (2 ^ n - 1) T) fun x => (List.range 25).all fun i => x.testBit i == (2 ^ n - 1).testBit i
theorem fitN_ok (r c n T : Nat) : fitN r c n T = fitP r c n (tb T) := by
  unfold fitN fitP
  rw [forceN_eq]
  have h1 := spN_tb r c 2 (2 ^ n - 1) T
  rw [lt_tb] at h1
  rw [← h1, ← lt_tb n]
  rfl
noncomputable def plaX (m k : Nat) (H : AH) : Option (AV × AH) := bif sdB m k then (let l := num (tb (chN (fitN m k (m * k)) (2 ^ (m * k) - 1) ((m + k + 1) / 2) 0 0).1); some (.tuple [chV H l, .int .i64 0], chH H l)) else none
theorem plaX_ok {m k : Nat} (h : sdB m k = true) : num (tb (chN (fitN m k (m * k)) (2 ^ (m * k) - 1) ((m + k + 1) / 2) 0 0).1) = plantS m k (m * k) := by
  have := (chN_ok (fits' := fitP m k (m * k)) (fitN_ok m k (m * k)) (2 ^ (m * k) - 1) ((m + k + 1) / 2) 0 0).1
  rw [lt_tb, tb_zero] at this
  rw [this]; rfl
/-- A set as a number. -/
noncomputable def mskF (S : Nat → Bool) : Nat := maskL (mk S)
theorem mskF_tb {S : Nat → Bool} (h : ∀ b, S b = true → b < 25) : tb (mskF S) = S := by
  funext b
  show (maskL (mk S)).testBit b = S b
  rw [maskL_tb, List.getD_eq_getElem?_getD]
  by_cases hb : b < 25
  · rw [mk_get hb]; rfl
  · have : (mk S)[b]? = none := by simp [mk]; omega
    rw [this]
    cases hs : S b with
    | false => rfl
    | true => exact absurd (h b hs) hb
noncomputable def fitKN (r c n s z b T : Nat) : Bool := !(spN r c 2 (opN n (z ||| T)) s).testBit b
theorem or_tb (z T : Nat) : tb (z ||| T) = or' (tb z) (tb T) := by
  funext b
  exact Nat.testBit_or ..
theorem fitKN_ok {r c n : Nat} (hn : n ≤ 25) (s z b T : Nat) : fitKN r c n s z b T = fitK r c n (tb s) (tb z) b (tb T) := by
  unfold fitKN fitK
  have h1 := spN_tb r c 2 (opN n (z ||| T)) s
  rw [opN_tb hn, or_tb] at h1
  rw [← h1]; rfl
/-- The least choice that keeps a bale, of so many at most. -/
noncomputable def keepF (f : Nat → Nat × Bool) : Nat → Nat → Option Nat := fun n => Nat.rec (fun _ => none) (fun _ ih j => match f j with | (T, true) => some T | _ => ih (Nat.succ j)) n
theorem keepF_some {f : Nat → Nat × Bool} : ∀ (n j : Nat) {T : Nat}, keepF f n j = some T → ∃ i, j ≤ i ∧ i < j + n ∧ f i = (T, true) ∧ ∀ a, j ≤ a → a < i → (f a).2 = false
  | 0, _, _, h => by cases h
  | n + 1, j, T, h => by
    have h : (match f j with | (T, true) => some T | _ => keepF f n (j + 1)) = some T := h
    rcases hx : f j with ⟨A, t⟩
    rw [hx] at h
    cases t with
    | true => cases h; exact ⟨j, Nat.le_refl _, by omega, hx, fun a h1 h2 => by omega⟩
    | false =>
      obtain ⟨i, h1, h2, h3, h4⟩ := keepF_some n (j + 1) h
      refine ⟨i, by omega, by omega, h3, fun a h5 h6 => ?_⟩
      by_cases e : a = j
      · rw [e, hx]
      · exact h4 a (by omega) h6
noncomputable def keeX (m k b : Nat) (u w : AV) (H : AH) : Option (AV × AH) := match lsOf H u, lsOf H w with
  | some l, some o => bif Nat.ble l.length 1000 && (Nat.ble o.length 1000 && decide (chkE m k l o = 0) && Nat.blt b (m * k)) then
      forceN (mskF (sickS m k l).1) fun s => forceN (mskF (coldS m k l o).1) fun z =>
        bif lostS m k (tb s) (tb z) b then some (.tuple [.slice none 0 0 0 1 false, .int .i64 12], H) else
        forceN (mskF (freeS (m * k) (tb s) (tb z) b)) fun fr => match keepF (fun j => chN (fitKN m k (m * k) s z b) fr j 0 0) 4 0 with
          | some T => some (.tuple [chV H (num (tb T)), .int .i64 0], chH H (num (tb T)))
          | none => none
    else none
  | _, _ => none
noncomputable def ext9 (f : FuncId) (args : List AV) (H : AH) : Option (AV × AH) := match args with
  | [.agg [.int .i64 (.ofNat r), .int .i64 (.ofNat c)], .agg s, .agg o, .int .i64 (.ofNat k)] => bif Nat.beq f 75 then reaX r c k s o H else none
  | [.agg (.int .i64 (.ofNat r) :: .int .i64 (.ofNat c) :: cells)] => bif Nat.beq f 57 then dayX r c cells H else none
  | [.agg (.int .i64 (.ofNat r) :: .int .i64 (.ofNat c) :: cells), .agg t] => bif Nat.beq f 69 then safX r c cells t H else none
  | [.int .i64 (.ofNat m), .int .i64 (.ofNat k)] => bif Nat.beq f 36 then plaX m k H else none
  | [.agg [.int .i64 (.ofNat m), .int .i64 (.ofNat k), u, w], .int .i64 (.ofNat b)] => bif Nat.beq f 38 then keeX m k b u w H else none
  | _ => none
theorem fl_of {r c : Nat} {cells : List AV} {m z : Nat} (h1 : cells.take 25 = bA (tb m)) (h2 : cells.drop 25 = bA (tb z)) : AV.int .i64 (Int.ofNat r) :: .int .i64 (Int.ofNat c) :: cells = fl r c (tb m) (tb z) := by
  rw [← List.take_append_drop 25 cells, h1, h2]; rfl
theorem ext9_ok {f : FuncId} {args : List AV} {H : AH} {v : AV} {H' : AH} (h : ext9 f args H = some (v, H')) : AC Try.prog f args H fun v' H2 => v' = v ∧ H2 = H' := by
  unfold ext9 at h
  split at h
  · rename_i r c s o k
    rcases cond_some h with ⟨e, hx⟩ | h
    · clear h
      have h := hx
      clear hx
      have := Nat.eq_of_beq_eq_true e; subst this
      unfold reaX at h
      rcases cond_some h with ⟨e9, h1⟩ | h1
      · have hs := sdB_sd e9
        clear h
        obtain ⟨m, rfl, h2⟩ := mskA_some h1
        clear h1
        obtain ⟨z, rfl, h3⟩ := mskA_some h2
        clear h2
        rcases cond_some h3 with ⟨e2, h⟩ | h
        · rw [rowN_bA, spN_tb] at h
          obtain ⟨rfl, rfl⟩ := Prod.mk.inj (Option.some.inj h)
          exact reached_q hs rfl k (tb m) (tb z) (tb_lt (by simpa [Nat.blt_eq] using e2)) _ _ ⟨rfl, rfl⟩
        · cases h
      · cases h1
    · cases h
  · rename_i r c cells
    rcases cond_some h with ⟨e, hx⟩ | h
    · clear h
      have h := hx
      clear hx
      have := Nat.eq_of_beq_eq_true e; subst this
      unfold dayX at h
      rcases cond_some h with ⟨e9, g1⟩ | g1
      · have hs := sdB_sd e9
        clear h
        obtain ⟨m, h1, g2⟩ := mskA_some g1
        clear g1
        obtain ⟨z, h2, g3⟩ := mskA_some g2
        clear g2
        rcases cond_some g3 with ⟨e2, h⟩ | h
        · rw [forceN_eq] at h
          obtain ⟨rfl, rfl⟩ := Prod.mk.inj (Option.some.inj h)
          rw [fl_of h1 h2]
          have hd : (fun b => dayF r c (opN (r * c) z) b 26 0 m) = day r c (opn (r * c) (tb z)) (tb m) := by
            funext b
            rw [dayF_day, opN_tb hs.le]
          rw [hd]
          refine AC.quiet (belB_i _ _) (fun Q hQ => days_ac hs rfl (tb m) (tb z) (tb_lt (by simpa [Nat.blt_eq] using e2)) _ Q hQ) _ ⟨rfl, rfl⟩
        · cases h
      · cases g1
    · cases h
  · rename_i r c cells t
    rcases cond_some h with ⟨e, hx⟩ | h
    · clear h
      have h := hx
      clear hx
      have := Nat.eq_of_beq_eq_true e; subst this
      unfold safX at h
      rcases cond_some h with ⟨e9, g1⟩ | g1
      · have hs := sdB_sd e9
        clear h
        obtain ⟨m, h1, g2⟩ := mskA_some g1
        clear g1
        obtain ⟨z, h2, g3⟩ := mskA_some g2
        clear g2
        obtain ⟨y, rfl, g4⟩ := mskA_some g3
        clear g3
        rcases cond_some g4 with ⟨e2, h⟩ | h
        · obtain ⟨rfl, rfl⟩ := Prod.mk.inj (Option.some.inj h)
          rw [fl_of h1 h2]
          exact safe_ac hs rfl (tb m) (tb z) (tb y) (tb_lt (by simpa [Nat.blt_eq] using e2)) _ _ ⟨rfl, rfl⟩
        · cases h
      · cases g1
    · cases h
  · rename_i m k
    rcases cond_some h with ⟨e, hx⟩ | h
    · clear h
      have h := hx
      clear hx
      have := Nat.eq_of_beq_eq_true e; subst this
      unfold plaX at h
      rcases cond_some h with ⟨e9, h⟩ | h
      · have hs := sdB_sd e9
        have hsd : okSides (m : Int) k := ⟨⟨by have := hs.r1; omega, by have := hs.r5; omega⟩, by have := hs.c1; omega, by have := hs.c5; omega⟩
        simp only [plaX_ok e9] at h
        obtain ⟨rfl, rfl⟩ := Prod.mk.inj (Option.some.inj h)
        exact AC.tidyN (fun Q hQ => Plant_ac m k H Q (fun hn => absurd hsd hn) fun _ => hQ) _ ⟨rfl, rfl⟩
      · cases h
    · cases h
  · rename_i m k u w b
    rcases cond_some h with ⟨e, hx⟩ | h
    · clear h
      have h := hx
      clear hx
      have := Nat.eq_of_beq_eq_true e; subst this
      unfold keeX at h
      split at h
      · rename_i l o hu hw
        rcases cond_some h with ⟨e9, h⟩ | h
        · simp only [Bool.and_eq_true, Nat.ble_eq, decide_eq_true_eq, Nat.blt_eq] at e9
          obtain ⟨e1, ⟨e2, e3⟩, e4⟩ := e9
          have hs := (chk_sides e3).sd
          rw [Int.toNat_natCast, Int.toNat_natCast] at hs
          have h25 := hs.le
          have hS := sickS_sup m k l
          have hZ := coldS_sup m k l o
          rw [Int.toNat_natCast, Int.toNat_natCast] at hS hZ
          rw [forceN_eq, forceN_eq, mskF_tb (fun b hb => Nat.lt_of_lt_of_le (hS b hb) h25), mskF_tb (fun b hb => Nat.lt_of_lt_of_le (hZ b hb) h25)] at h
          have hin : (0 : Int) ≤ (b : Int) ∧ (b : Int) < (((m : Int).toNat * (k : Int).toNat : Nat) : Int) := by
            rw [Int.toNat_natCast, Int.toNat_natCast]; omega
          have hu := lsOf_ok hu
          have hw := lsOf_ok hw
          generalize hSS : (sickS m k l).1 = S at h hS
          generalize hZZ : (coldS m k l o).1 = Z at h hZ
          have hS25 : ∀ b, S b = true → b < 25 := fun b hb => Nat.lt_of_lt_of_le (hS b hb) h25
          have hZ25 : ∀ b, Z b = true → b < 25 := fun b hb => Nat.lt_of_lt_of_le (hZ b hb) h25
          cases hlo : lostS m k S Z b with
          | true =>
            rw [hlo] at h
            obtain ⟨rfl, rfl⟩ := Prod.mk.inj (Option.some.inj (show some (AV.tuple [.slice none 0 0 0 1 false, .int .i64 12], H) = some (v, H') from h))
            refine AC.quiet (v := .tuple [.slice none 0 0 0 1 false, .int .i64 12]) rfl (fun Q hQ => ?_) _ ⟨rfl, rfl⟩
            refine Keep_ac m k u w l o b H Q hu hw (by omega) (by omega) (fun hc => absurd e3 hc) (fun _ hn => absurd hin hn) (fun _ _ _ => hQ) (fun _ _ hf => ?_) (fun _ _ hf => ?_)
            · rw [Int.toNat_natCast, Int.toNat_natCast, Int.toNat_natCast, hSS, hZZ, hlo] at hf; cases hf
            · rw [Int.toNat_natCast, Int.toNat_natCast, Int.toNat_natCast, hSS, hZZ, hlo] at hf; cases hf
          | false =>
            rw [hlo] at h
            have h : (forceN (mskF (freeS (m * k) S Z b)) fun fr => match keepF (fun j => chN (fitKN m k (m * k) (mskF S) (mskF Z) b) fr j 0 0) 4 0 with
              | some T => some (.tuple [chV H (num (tb T)), .int .i64 0], chH H (num (tb T)))
              | none => none) = some (v, H') := h
            rw [forceN_eq] at h
            split at h
            · rename_i T hT
              obtain ⟨rfl, rfl⟩ := Prod.mk.inj (Option.some.inj h)
              have hfr : ∀ x, freeS (m * k) S Z b x = true → x < 25 := by
                intro x hx
                simp only [freeS, upd, sub', opn, lt'] at hx
                split at hx
                · cases hx
                · simp only [Bool.and_eq_true, decide_eq_true_eq] at hx
                  omega
              have hch : ∀ j, okR (chN (fitKN m k (m * k) (mskF S) (mskF Z) b) (mskF (freeS (m * k) S Z b)) j 0 0) (chP (fitK m k (m * k) S Z b) (freeS (m * k) S Z b) j 0 none') := by
                intro j
                have := chN_ok (fits := fitKN m k (m * k) (mskF S) (mskF Z) b) (fits' := fitK m k (m * k) S Z b) (fun T => by rw [fitKN_ok h25 (mskF S) (mskF Z) b T, mskF_tb hS25, mskF_tb hZ25]) (mskF (freeS (m * k) S Z b)) j 0 0
                rwa [tb_zero, mskF_tb hfr] at this
              obtain ⟨i, -, hi4, hfi, hno⟩ := keepF_some 4 0 hT
              have hi2 : (chP (fitK m k (m * k) S Z b) (freeS (m * k) S Z b) i 0 none').2 = true := by rw [← (hch i).2, hfi]
              have hi1 : (chP (fitK m k (m * k) S Z b) (freeS (m * k) S Z b) i 0 none').1 = tb T := by rw [← (hch i).1, hfi]
              refine AC.tidyN (fun Q hQ => ?_) _ ⟨rfl, rfl⟩
              refine Keep_ac m k u w l o b H Q hu hw (by omega) (by omega) (fun hc => absurd e3 hc) (fun _ hn => absurd hin hn) (fun _ _ hf => ?_) (fun _ _ hf => ?_) (fun _ _ hf => ?_)
              · rw [Int.toNat_natCast, Int.toNat_natCast, Int.toNat_natCast, hSS, hZZ, hlo] at hf; cases hf
              · rw [Int.toNat_natCast, Int.toNat_natCast, Int.toNat_natCast, hSS, hZZ]
                exact ⟨i, by omega, hi2⟩
              · rw [Int.toNat_natCast, Int.toNat_natCast, Int.toNat_natCast, hSS, hZZ]
                intro j hj hno2 hj2
                have hji : j = i := by
                  rcases Nat.lt_trichotomy j i with h | h | h
                  · rw [← (hch j).2, hno j (Nat.zero_le _) h] at hj2; cases hj2
                  · exact h
                  · rw [hno2 i h] at hi2; cases hi2
                subst hji
                rw [hi1]
                exact hQ
            · cases h
        · cases h
      · cases h
    · cases h
  · cases h
noncomputable def cxw : Cx Try.prog where
  good := goodT
  keep := keepT
  ext := ext9
theorem cxw_ok : cxw.Ok where
  mixed := cx_ok.mixed
  ord f h := cx_ok.ord f h
  ext _f _args _H _v _H' h := ext9_ok h
set_option maxRecDepth 100000 in
theorem works_run : callN (runZ cxw 3000) 17 [] [] = some (.bool true, []) := by kernel_rfl
theorem works_ac (H : AH) (Q : AV → AH → Prop) (h : Q (.bool true) H) : AC Try.prog 17 [] H Q := AC_kernZ cxw_ok 3000 works_run .nil (.bool _) h
end Go.Proofs.Ytfbpgnjeafadmaa.Fl
