/- Joined texts: SrtM, OSort1, OSort2, OSort3, OPart, OPart2, OHeap, OHeap2, OBrk, OPins, OPdq, OSort, Jos, Small, Home, WGrown, TurnM, HomeR, Ints. -/
import Derived.Test.YtmlhekfkniibmaaJ062a
/- Sorting a part of a row: what is asked of lists. -/
namespace Go.Proofs.Ytmlhekfkniibmaa.Ord
open Go Go.Proofs.Ytmlhekfkniibmaa.AX Go.Proofs.Ytmlhekfkniibmaa
variable {sb : Bool}
theorem set_ne {H : AH} {i j : Nat} {o : AObj} (h : i ≠ j) : (H.set i o)[j]? = H[j]? := List.getElem?_set_ne h
/-- A row that begins with these numbers. -/
def Rw (r ver : Nat) (H : AH) (c : List Int) : Prop := ∃ s tl, H[r]? = some (.row (c.map (.int .i64) ++ tl) ver s false)
theorem Rw.ld {r ver i : Nat} {H : AH} {c : List Int} (h : Rw r ver H c) (hi : i < c.length) : AX.ld H r i ver = some (.int .i64 (g c i)) := by
  obtain ⟨s, tl, h⟩ := h
  rw [ld_row h, g_lt hi, List.getElem?_append_left (by simpa using hi)]; simp [hi]
theorem Rw.ext {r ver : Nat} {H H' : AH} {c : List Int} (h : Rw r ver H c) (hE : Ext H H') : Rw r ver H' c := by
  obtain ⟨s, tl, h⟩ := h
  exact ⟨s, tl, hE.row h⟩
theorem Rw.swap {r ver i j : Nat} {H : AH} {c : List Int} (h : Rw r ver H c) (hi : i < c.length) (hj : j < c.length) :
    ∃ H1 H2, storeV Try.prog 3 H (.ptr r i ver) (.int .i64 (g c j)) = some (none, H1) ∧ storeV Try.prog 3 H1 (.ptr r j ver) (.int .i64 (g c i)) = some (none, H2) ∧ Rw r ver H2 (sw c i j) ∧ KeepX r H H2 := by
  obtain ⟨s, tl, h⟩ := h
  have h1 := store_row (P := Try.prog) (u := 3) (p := i) sc3 (x := .int .i64 (g c j)) (y := .int .i64 c[i]) rfl h (by rw [List.getElem?_append_left (by simpa using hi)]; simp [hi])
  have e1 : (c.map (AV.int .i64) ++ tl).set i (.int .i64 (g c j)) = (c.set i (g c j)).map (.int .i64) ++ tl := by rw [List.set_append_left _ _ (by simpa using hi), List.map_set]
  rw [e1] at h1
  have hr1 := get_set (o' := .row ((c.set i (g c j)).map (.int .i64) ++ tl) ver (min s i) false) h
  have h2 := store_row (P := Try.prog) (u := 3) (p := j) sc3 (x := .int .i64 (g c i)) (y := .int .i64 ((c.set i (g c j))[j]'(by simpa using hj))) rfl hr1 (by rw [List.getElem?_append_left (by simpa using hj), List.getElem?_map, List.getElem?_eq_getElem (by simpa using hj)]; rfl)
  have e2 : ((c.set i (g c j)).map (AV.int .i64) ++ tl).set j (.int .i64 (g c i)) = (sw c i j).map (.int .i64) ++ tl := by rw [List.set_append_left _ _ (by simpa using hj), ← List.map_set]; rfl
  rw [e2] at h2
  exact ⟨_, _, h1, h2, ⟨_, tl, get_set hr1⟩, ((KeepX.refl r H).set _).set _⟩
/-- What a comparison says. -/
def cmpS (a b : Int) : Int := if a < b then -1 else if b < a then 1 else 0
theorem cmpS_neg {a b : Int} : cmpS a b < 0 ↔ a < b := by unfold cmpS; split <;> (try split) <;> omega
/-- Sorted between a and b. -/
def Srt (κ : Int → Int) (a b : Nat) (c : List Int) : Prop := ∀ p q, a ≤ p → p < q → q < b → κ (g c p) ≤ κ (g c q)
def All (D : Int → Prop) (c : List Int) : Prop := ∀ i, i < c.length → D (g c i)
theorem All.perm {D : Int → Prop} {c m : List Int} (h : All D c) (hp : m.Perm c) : All D m := by
  intro i hi
  have : m[i] ∈ c := hp.mem_iff.1 (by simp)
  obtain ⟨j, hj, e⟩ := List.mem_iff_getElem.1 this
  rw [g_lt hi, ← e, ← g_lt hj]; exact h j hj
/-- What stands while a pivot is chosen: the row, and how often two were out of order. -/
structure Piv (r ver sp : Nat) (B : AH) (c : List Int) (k : Nat) (H : AH) : Prop where
  keep : KeepX r B H
  row : Rw r ver H c
  lt : B.length ≤ sp
  ne : r ≠ sp
  cnt : ∃ s st : Nat, s ≤ k ∧ H[sp]? = some (.row [.int .i64 s] 0 st false)
theorem Piv.mono {r ver sp k k' : Nat} {B H : AH} {c : List Int} (h : Piv r ver sp B c k H) (hk : k ≤ k') : Piv r ver sp B c k' H :=
  ⟨h.keep, h.row, h.lt, h.ne, let ⟨s, st, h1, h2⟩ := h.cnt; ⟨s, st, by omega, h2⟩⟩
theorem part_fin {D κ : Int → Int} {a b j pv : Nat} {c d : List Int} {LOW : Int → Prop} (hLd : ∀ x, LOW x ↔ κ x < κ (g c pv)) (hb : b ≤ d.length) (haj : a ≤ j) (hjb : j < b) (hS : Shuf a b c d) (hpiv : g d a = g c pv) (hLo : ∀ k, a < k → k < j + 1 → LOW (g d k)) (hHi : ∀ k, j < k → k < b → ¬ LOW (g d k)) :
    Shuf a b c (sw d j a) ∧ (∀ k, a ≤ k → k < j → κ (g (sw d j a) k) ≤ κ (g (sw d j a) j)) ∧ (∀ k, j < k → k < b → κ (g (sw d j a) j) ≤ κ (g (sw d j a) k)) := by
  have w0 := sw_i (c := d) (i := j) (j := a) (by omega) (by omega)
  have w1 := sw_j (c := d) (i := j) (j := a) (by omega) (by omega)
  have w2 := fun (k : Nat) (k1 : k ≠ j) (k2 : k ≠ a) => sw_o (c := d) (i := j) (j := a) (by omega) (by omega) k1 k2
  refine ⟨hS.trans (.swap hb (by omega) (by omega)), fun k k1 k2 => ?_, fun k k1 k2 => ?_⟩
  · rw [w0, hpiv]
    by_cases k3 : k = a
    · rw [k3, w1]; exact Int.le_of_lt ((hLd _).1 (hLo j (by omega) (by omega)))
    · rw [w2 k (by omega) k3]; exact Int.le_of_lt ((hLd _).1 (hLo k (by omega) (by omega)))
  · rw [w0, hpiv, w2 k (by omega) (by omega)]
    exact Int.not_lt.1 fun h => hHi k k1 k2 ((hLd _).2 h)
/-- What lies below place i is not greater. -/
def Hp (κ : Int → Int) (f hi : Nat) (d : List Int) (i : Nat) : Prop := ∀ c, c = 2 * i + 1 ∨ c = 2 * i + 2 → c < hi → κ (g d (f + c)) ≤ κ (g d (f + i))
theorem heap_max {κ : Int → Int} {f hi : Nat} {d : List Int} (h : ∀ i, Hp κ f hi d i) : ∀ p, p < hi → κ (g d (f + p)) ≤ κ (g d (f + 0)) := by
  intro p
  induction p using Nat.strongRecOn with
  | _ p ih =>
    intro hp
    by_cases h0 : p = 0
    · subst h0; exact Int.le_refl _
    · have h1 := h ((p - 1) / 2) p (by omega) hp
      have h2 := ih ((p - 1) / 2) (by omega) (by omega)
      omega
def lenN (n : Nat) : Nat := if n < 1 then 0 else if n < 2 then 1 else if n < 4 then 2 else if n < 8 then 3 else if n < 16 then 4 else if n < 32 then 5 else if n < 64 then 6 else 7
theorem len_all : (List.range 128).all (fun s => match callN (runZ cx 300) 41 [.int .u64 (.ofNat s)] [] with | some (.int .i64 m, []) => ieq m (.ofNat (lenN s)) | _ => false) = true := by kernel_rfl
theorem Len_ac (n : Nat) (H : AH) (Q : AV → AH → Prop) (hn : n < 128) (h : Q (.int .i64 (lenN n)) H) : AC Try.prog 41 [.int .u64 n] H Q := by
  have := List.all_eq_true.1 len_all n (List.mem_range.2 hn)
  split at this
  · rename_i m hr
    rw [ieq_eq, beq_iff_eq] at this
    subst this
    exact AC_kernZ cx_ok 300 hr (.cons (.int _ _) .nil) (.int _ _) h
  · cases this
theorem pow_len {n : Nat} (h1 : 1 ≤ n) (h2 : n < 128) : 2 ^ lenN n ≤ 2 * n ∧ 1 ≤ 2 ^ lenN n ∧ lenN n ≤ 7 := by
  unfold lenN
  repeat' split
  all_goals omega
@[simp] theorem cvA (n : Nat) (hn : n ≤ 1000000) : aConv Try.prog 3 50 (.int .i64 n) = some (.int .u64 n) := by
  rw [cv_int (by kernel_rfl) (by kernel_rfl) n, wrap_u64 (by omega)]
theorem cvB (n : Nat) (hn : n ≤ 1000000) : aConv Try.prog 50 3 (.int .u64 n) = some (.int .i64 n) := by
  rw [cv_int (by kernel_rfl) (by kernel_rfl) n, wrap_i64 (by omega)]
theorem cvC (n : Nat) (hn : n ≤ 1000000) : aConv Try.prog 3 86 (.int .i64 n) = some (.int .u64 n) := by
  rw [cv_int (by kernel_rfl) (by kernel_rfl) n, wrap_u64 (by omega)]
theorem nextPow_ac (n : Nat) (H : AH) (Q : AV → AH → Prop) (h1 : 1 ≤ n) (hn : n < 128) (h : Q (.int .u64 (2 ^ lenN n : Nat)) H) : AC Try.prog 90 [.int .i64 n] H Q := by
  refine L_body 7 Try.func90 rfl rfl ?_
  refine L_reg [0] (fun K hK => ?_)
  simp
  apply hK; clear hK K
  have := pow_len h1 hn
  refine L_reg [2] (fun K hK => ?_)
  simp [okFn_low, cvA n (by omega)]
  refine Len_ac n H _ hn ?_
  simp [n_shl64' (lenN n) (by omega)]
  apply hK; clear hK K
  exact L_ret ⟨.inr rfl, _, rfl, by simpa using h⟩
theorem st86 {H : AH} {p s : Nat} {x : Int} (h : H[p]? = some (.row [.int .u64 x] 0 s false)) (z : Int) : storeV Try.prog 86 H (.ptr p 0 0) (.int .u64 z) = some (none, H.set p (.row [.int .u64 z] 0 0 false)) := by
  have := store_row (P := Try.prog) (u := 86) (p := 0) sc86 (x := .int .u64 z) (y := .int .u64 x) rfl h rfl
  simpa using this
theorem next_ac (p s : Nat) (x : Int) (H : AH) (Q : AV → AH → Prop) (hr : H[p]? = some (.row [.int .u64 x] 0 s false)) (h : ∀ (y : Int) (H' : AH), H'[p]? = some (.row [.int .u64 y] 0 0 false) → KeepX p H H' → Q (.int .u64 y) H') : AC Try.prog 91 [.ptr p 0 0] H Q := by
  refine L_body 33 Try.func91 rfl rfl ?_
  have e1 : ld H p 0 0 = some (.int .u64 x) := by rw [ld_row hr]; rfl
  refine L_reg [0] (fun K hK => ?_)
  simp
  apply hK; clear hK K
  refine L_regT mixed [0] (by kernel_rfl) (fun K hK => ?_)
  simp [aNil, e1, st86 hr]
  apply hK; clear hK K
  generalize IntKind.u64.wrap _ = y1
  have r1 := get_set (o' := AObj.row [.int .u64 y1] 0 0 false) hr
  have k1 := (KeepX.refl p H).set (AObj.row [.int .u64 y1] 0 0 false)
  generalize H.set p (AObj.row [.int .u64 y1] 0 0 false) = H1 at r1 k1 ⊢
  have e2 : ld H1 p 0 0 = some (.int .u64 y1) := by rw [ld_row r1]; rfl
  refine L_regT mixed [0] (by kernel_rfl) (fun K hK => ?_)
  simp [aNil, e2, st86 r1]
  apply hK; clear hK K
  generalize IntKind.u64.wrap _ = y2
  have r2 := get_set (o' := AObj.row [.int .u64 y2] 0 0 false) r1
  have k2 := k1.set (AObj.row [.int .u64 y2] 0 0 false)
  generalize H1.set p (AObj.row [.int .u64 y2] 0 0 false) = H2 at r2 k2 ⊢
  have e3 : ld H2 p 0 0 = some (.int .u64 y2) := by rw [ld_row r2]; rfl
  refine L_regT mixed [0] (by kernel_rfl) (fun K hK => ?_)
  simp [aNil, e3, st86 r2]
  apply hK; clear hK K
  generalize IntKind.u64.wrap _ = y3
  have r3 := get_set (o' := AObj.row [.int .u64 y3] 0 0 false) r2
  have k3 := k2.set (AObj.row [.int .u64 y3] 0 0 false)
  generalize H2.set p (AObj.row [.int .u64 y3] 0 0 false) = H3 at r3 k3 ⊢
  have e4 : ld H3 p 0 0 = some (.int .u64 y3) := by rw [ld_row r3]; rfl
  refine L_reg [2] (fun K hK => ?_)
  simp [aNil, e4]
  apply hK; clear hK K
  exact L_ret ⟨.inr rfl, _, rfl, h _ _ r3 k3⟩
theorem and_low {P : Program} {t : TypeId} {l : Bool} (y : Int) (m : Nat) (_hm : m ≤ 1000000) : ∃ z : Nat, z ≤ m ∧ binV P .and t l (.int .u64 y) (.int .u64 (m : Int)) = some (.int .u64 (z : Nat)) := by
  refine ⟨(BitVec.ofInt 64 y &&& BitVec.ofInt 64 (m : Int)).toNat, ?_, ?_⟩
  · rw [BitVec.toNat_and]
    refine Nat.le_trans Nat.and_le_right ?_
    rw [ofInt_nat, BitVec.toNat_ofNat]
    exact Nat.mod_le _ _
  · rw [b_and]
    congr 2
    exact wrapN64 (BitVec.isLt _)
theorem Srt.more {κ : Int → Int} {a i : Nat} {d : List Int} (h : Srt κ a (i + 1) d) (hi : a ≤ i) (h1 : κ (g d i) ≤ κ (g d (i + 1))) : Srt κ a (i + 2) d := by
  intro p q h2 h3 h4
  by_cases e : q = i + 1
  · subst e
    by_cases e2 : p = i
    · subst e2; exact h1
    · exact Int.le_trans (h p i h2 (by omega) (by omega)) h1
  · exact h p q h2 h3 (by omega)
/-- Sorted, but for what lies between a' and b'. -/
def OrdEx (κ : Int → Int) (a b a' b' : Nat) (d : List Int) : Prop := ∀ p q, a ≤ p → p < q → q < b → ¬ (a' ≤ p ∧ q < b') → κ (g d p) ≤ κ (g d q)
def Pre (κ : Int → Int) (a b : Nat) (d : List Int) : Prop := 0 < a → ∀ k, a ≤ k → k < b → κ (g d (a - 1)) ≤ κ (g d k)
theorem OrdEx.mix {κ : Int → Int} {a b a' b' : Nat} {d m : List Int} (h : OrdEx κ a b a' b' d) (hS : Shuf a' b' d m) (hb : b' ≤ d.length) (haa : a ≤ a') (hbb : b' ≤ b) : OrdEx κ a b a' b' m := by
  intro p q h1 h2 h3 h4
  by_cases hp : a' ≤ p ∧ p < b'
  · have hq : b' ≤ q := by omega
    rw [hS.2 q (by omega)]
    exact hS.all hb (p := fun x => κ x ≤ κ (g d q)) (fun k k1 k2 => h k q (by omega) (by omega) h3 (by omega)) p hp.1 hp.2
  · rw [hS.2 p (by omega)]
    by_cases hq : a' ≤ q ∧ q < b'
    · exact hS.all hb (p := fun x => κ (g d p) ≤ κ x) (fun k k1 k2 => h p k h1 (by omega) (by omega) (by omega)) q hq.1 hq.2
    · rw [hS.2 q (by omega)]
      exact h p q h1 h2 h3 h4
theorem Pre.mix {κ : Int → Int} {a b : Nat} {d m : List Int} (h : Pre κ a b d) (hS : Shuf a b d m) (hb : b ≤ d.length) : Pre κ a b m := by
  intro h0 k k1 k2
  rw [hS.2 (a - 1) (by omega)]
  exact hS.all hb (p := fun x => κ (g d (a - 1)) ≤ κ x) (fun k k1 k2 => h h0 k k1 k2) k k1 k2
theorem OrdEx.srt {κ : Int → Int} {a b a' b' : Nat} {m : List Int} (h : OrdEx κ a b a' b' m) (hs : Srt κ a' b' m) : Srt κ a b m := by
  intro p q h1 h2 h3
  by_cases e : a' ≤ p ∧ q < b'
  · exact hs p q e.1 h2 e.2
  · exact h p q h1 h2 h3 e
end Go.Proofs.Ytmlhekfkniibmaa.Ord

/- Sorting numbers (Sort1). -/
namespace Go.Proofs.Ytmlhekfkniibmaa.Ord
open Go Go.Proofs.Ytmlhekfkniibmaa.AX Go.Proofs.Ytmlhekfkniibmaa
variable {sb : Bool}

/-- What Less says of two numbers, by κ, as long as rows other than r stay. -/
def CmpO (D : Int → Prop) (κ : Int → Int) (r : Nat) (H : AH) : Prop :=
  True ∧ ∀ H', KeepX r H H' → ∀ x y, D x → D y → ∀ Q : AV → AH → Prop, Q (.bool (decide (cmpS (κ x) (κ y) < 0))) H' → AC Try.prog 86 [.int .i64 x, .int .i64 y] H' Q
theorem CmpO.keep {D : Int → Prop} {κ : Int → Int} {r : Nat} {H H1 : AH} (h : CmpO D κ r H) (hK : KeepX r H H1) : CmpO D κ r H1 := ⟨h.1, fun H' h1 => h.2 H' (hK.trans h1)⟩
set_option maxRecDepth 100000 in
theorem insertion_ac (D : Int → Prop) (κ : Int → Int) (r ver a b : Nat) (c : List Int) (H : AH) (Q : AV → AH → Prop) (hC : CmpO D κ r H) (hr : Rw r ver H c) (hD : All D c) (hl : c.length ≤ 1000000) (hab : a ≤ b) (hb : b ≤ c.length)
    (h : ∀ (H' : AH) (m : List Int), Shuf a b c m → Srt κ a b m → Rw r ver H' m → KeepX r H H' → Q (.tuple []) H') : AC Try.prog 80 [SV sb r 0 c.length ver, .int .i64 a, .int .i64 b] H Q := by
  refine L_body 49 Try.func80 rfl rfl ?_
  generalize hn : c.length = n at *
  refine L_reg [0, 1, 2, 6] (fun K hK => ?_)
  simp [wrap_i64 (a := (a : Int) + 1) (by omega)]
  apply hK; clear hK K
  refine L_block (L_loopV [6] (fun k vs H' => ∃ (i : Nat) (d : List Int), k = n - i ∧ a + 1 ≤ i ∧ i ≤ max (a + 1) b ∧ Shuf a b c d ∧ Srt κ a i d ∧ vs = [.int .i64 i] ∧ Rw r ver H' d ∧ KeepX r H H') _ [.int .i64 (a + 1 : Nat)] rfl ⟨a + 1, c, rfl, by omega, by omega, .refl _ _ _, fun p q h1 h2 h3 => by omega, rfl, hr, .refl r H⟩ ?_)
  rintro k _ H1 ⟨i, d, rfl, hi1, hi2, hS, ho, rfl, hrow, hK⟩
  refine L_reg [0, 1, 2, 6, 12] (fun K hK => ?_)
  simp
  apply hK; clear hK K
  refine L_dec (i < b) (by simp) (fun hlt => ?_) (fun hge => L_exit ?_)
  · refine L_block ?_
    refine L_reg [0, 1, 2, 6, 7] (fun K hK => ?_)
    simp
    apply hK; clear hK K
    refine L_block (L_loopV [7] (fun k vs H' => ∃ (j : Nat) (d : List Int), k = j ∧ a ≤ j ∧ j ≤ i ∧ Shuf a b c d ∧ (∀ p q, a ≤ p → p < q → q ≤ i → q ≠ j → κ (g d p) ≤ κ (g d q)) ∧ vs = [.int .i64 j] ∧ Rw r ver H' d ∧ KeepX r H H') _ [.int .i64 i] rfl ⟨i, d, rfl, by omega, by omega, hS, fun p q h1 h2 h3 h4 => ho p q h1 h2 (by omega), rfl, hrow, hK⟩ ?_)
    clear hS ho hrow hK d H1
    rintro k _ H1 ⟨j, d, rfl, haj, hj, hS, ho, rfl, hrow, hK⟩
    have hdl : d.length = n := by rw [hS.len]; exact hn
    have hdD := hD.perm hS.1
    by_cases hk : a < k
    · obtain ⟨j, rfl⟩ : ∃ j, k = j + 1 := ⟨k - 1, by omega⟩
      have hx := hrow.ld (i := j + 1) (by omega)
      have hy := hrow.ld (i := j) (by omega)
      have hw : IntKind.i64.wrap (j : Int) = (j : Int) := wrap_i64 (by omega)
      have hi1' : ((j : Int) + 1).toNat = j + 1 := by omega
      have g1 : (0 : Int) ≤ (j : Int) + 1 := by omega
      have g2 : (j : Int) + 1 < (n : Int) := by omega
      have g3 : j < n := by omega
      have g4 : (a : Int) < (j : Int) + 1 := by omega
      have hx0 := hdD (j + 1) (by omega)
      have hy0 := hdD j (by omega)
      have hCk := hC.keep hK
      refine L_regT mixed [0, 1, 2, 6, 7, 30] (by kernel_rfl) (fun K hK => ?_)
      simp [okFn_low, hw, hi1', g1, g2, g3, g4, hx, hy]
      refine exC_mk (fun Q hQ => hCk.2 H1 (.refl _ _) _ _ hx0 hy0 Q hQ) ?_
      simp [pickV]
      apply hK; clear hK K
      by_cases hyx : κ (g d (j + 1)) < κ (g d j)
      · have hneg := cmpS_neg.2 hyx
        refine L_true (by simp [hneg]) ?_
        obtain ⟨H2, H3, e1, e2, e3, e4⟩ := hrow.swap (i := j + 1) (j := j) (by omega) (by omega)
        refine L_block ?_
        refine L_regT mixed [0, 1, 2, 6, 7] (by kernel_rfl) (fun K hK => ?_)
        simp [hw, hi1', g1, g2, g3, hx, hy, e1, e2]
        apply hK; clear hK K
        refine L_reg [0, 1, 2, 6, 7] (fun K hK => ?_)
        simp [hw]
        apply hK; clear hK K
        refine ⟨j, [.int .i64 (j : Nat)], by omega, by simp, j, _, rfl, by omega, by omega, hS.trans (.swap (by omega) (by omega) (by omega)), fun p q h1 h2 h3 h4 => ?_, rfl, e3, hK.trans e4⟩
        have w0 := sw_i (c := d) (i := j + 1) (j := j) (by omega) (by omega)
        have w1 := sw_j (c := d) (i := j + 1) (j := j) (by omega) (by omega)
        have w2 := fun (k : Nat) (k1 : k ≠ j + 1) (k2 : k ≠ j) => sw_o (c := d) (i := j + 1) (j := j) (by omega) (by omega) k1 k2
        by_cases q1 : q = j + 1
        · subst q1
          by_cases p1 : p = j
          · subst p1; rw [w0, w1]; omega
          · rw [w0, w2 p (by omega) p1]
            exact ho p j h1 (by omega) (by omega) (by omega)
        · rw [w2 q q1 h4]
          by_cases p1 : p = j
          · subst p1; rw [w1]
            exact ho (p + 1) q (by omega) (by omega) h3 (by omega)
          · by_cases p2 : p = j + 1
            · subst p2; rw [w0]
              exact ho j q (by omega) (by omega) h3 (by omega)
            · rw [w2 p p2 p1]
              exact ho p q h1 h2 h3 (by omega)
      · have hneg : ¬ cmpS (κ (g d (j + 1))) (κ (g d j)) < 0 := fun h => hyx (cmpS_neg.1 h)
        refine L_false (by simp; omega) (L_exit ?_)
        refine L_reg [0, 1, 2, 6] (fun K hK => ?_)
        simp [wrap_i64 (a := (i : Int) + 1) (by omega)]
        apply hK; clear hK K
        refine ⟨n - (i + 1), [.int .i64 (i + 1 : Nat)], by omega, by simp, i + 1, _, rfl, by omega, by omega, hS, fun p q h1 h2 h3 => ?_, rfl, hrow, hK⟩
        by_cases q1 : q = j + 1
        · subst q1
          by_cases p1 : p = j
          · subst p1; omega
          · have := ho p j h1 (by omega) (by omega) (by omega)
            omega
        · exact ho p q h1 h2 (by omega) q1
    · have hka : k = a := by omega
      subst hka
      refine L_regT mixed [0, 1, 2, 6, 7, 30] (by kernel_rfl) (fun K hK => ?_)
      simp [pickV]
      apply hK; clear hK K
      refine L_false (by simp) (L_exit ?_)
      refine L_reg [0, 1, 2, 6] (fun K hK => ?_)
      simp [wrap_i64 (a := (i : Int) + 1) (by omega)]
      apply hK; clear hK K
      exact ⟨n - (i + 1), [.int .i64 (i + 1 : Nat)], by omega, by simp, i + 1, _, rfl, by omega, by omega, hS, fun p q h1 h2 h3 => ho p q h1 h2 (by omega) (by omega), rfl, hrow, hK⟩
  · have hbi : b ≤ i := by omega
    refine ⟨.inl rfl, _, rfl, h H1 d hS (fun p q h1 h2 h3 => ho p q h1 h2 (by omega)) hrow hK⟩
end Go.Proofs.Ytmlhekfkniibmaa.Ord

/- Sorting numbers (Sort2). -/
namespace Go.Proofs.Ytmlhekfkniibmaa.Ord
open Go Go.Proofs.Ytmlhekfkniibmaa.AX Go.Proofs.Ytmlhekfkniibmaa
variable {sb : Bool}

set_option maxRecDepth 100000 in
theorem reverse_ac (r ver a b : Nat) (c : List Int) (H : AH) (Q : AV → AH → Prop) (hr : Rw r ver H c) (hl : c.length ≤ 1000000) (hab : a < b) (hb : b ≤ c.length)
    (h : ∀ (H' : AH) (m : List Int), Shuf a b c m → Rw r ver H' m → KeepX r H H' → Q (.tuple []) H') : AC Try.prog 84 [SV sb r 0 c.length ver, .int .i64 a, .int .i64 b] H Q := by
  obtain ⟨b, rfl⟩ : ∃ b', b = b' + 1 := ⟨b - 1, by omega⟩
  refine L_body 32 Try.func84 rfl rfl ?_
  refine L_reg [0, 2, 6] (fun K hK => ?_)
  simp
  apply hK; clear hK K
  have hw : IntKind.i64.wrap (b : Int) = (b : Int) := wrap_i64 (by omega)
  refine L_reg [0, 6, 7] (fun K hK => ?_)
  simp [hw]
  apply hK; clear hK K
  generalize hn : c.length = n at *
  refine L_block (L_loopV [6, 7] (fun k vs H' => ∃ (i j : Nat) (d : List Int), k = j + 1 - i ∧ a ≤ i ∧ j ≤ b ∧ Shuf a (b + 1) c d ∧ vs = [.int .i64 i, .int .i64 j] ∧ Rw r ver H' d ∧ KeepX r H H') _ [.int .i64 a, .int .i64 b] rfl ⟨a, b, c, rfl, by omega, by omega, .refl _ _ _, rfl, hr, .refl r H⟩ ?_)
  rintro k _ H1 ⟨i, j, d, rfl, hi, hj, hS, rfl, hrow, hK⟩
  refine L_reg [0, 6, 7, 13] (fun K hK => ?_)
  simp
  apply hK; clear hK K
  have hdl : d.length = n := by rw [hS.len]; exact hn
  refine L_dec (i < j) (by simp) (fun hlt => ?_) (fun hge => L_exit ?_)
  · obtain ⟨j, rfl⟩ : ∃ j', j = j' + 1 := ⟨j - 1, by omega⟩
    have hx := hrow.ld (i := i) (by omega)
    have hy := hrow.ld (i := j + 1) (by omega)
    obtain ⟨H2, H3, e1, e2, e3, e4⟩ := hrow.swap (i := i) (j := j + 1) (by omega) (by omega)
    have g1 : i < n := by omega
    have g2 : (j : Int) + 1 < n := by omega
    have g3 : (0 : Int) ≤ (j : Int) + 1 := by omega
    have g4 : ((j : Int) + 1).toNat = j + 1 := by omega
    refine L_block ?_
    refine L_regT mixed [0, 6, 7] (by kernel_rfl) (fun K hK => ?_)
    simp [g1, g2, g3, g4, hx, hy, e1, e2]
    apply hK; clear hK K
    refine L_reg [0, 6, 7] (fun K hK => ?_)
    simp [wrap_i64 (a := (i : Int) + 1) (by omega)]
    apply hK; clear hK K
    refine L_reg [0, 6, 7] (fun K hK => ?_)
    simp [wrap_i64 (a := (j : Int)) (by omega)]
    apply hK; clear hK K
    exact ⟨j + 1 - (i + 1), [.int .i64 (i + 1 : Nat), .int .i64 j], by omega, by simp, i + 1, j, _, rfl, by omega, by omega, hS.trans (.swap (by omega) (by omega) (by omega)), rfl, e3, hK.trans e4⟩
  · exact ⟨.inl rfl, _, rfl, h H1 d hS hrow hK⟩

set_option maxRecDepth 100000 in
theorem order2_ac (D : Int → Prop) (κ : Int → Int) (r ver sp a b k : Nat) (c : List Int) (B H : AH) (Q : AV → AH → Prop) (hC : CmpO D κ r B) (hP : Piv r ver sp B c k H) (hk : k ≤ 1000) (hD : All D c) (_hl : c.length ≤ 1000000) (ha : a < c.length) (hb : b < c.length)
    (h : ∀ (H' : AH) (x y : Nat), (x = a ∧ y = b) ∨ (x = b ∧ y = a) → Piv r ver sp B c (k + 1) H' → Q (.tuple [.int .i64 x, .int .i64 y]) H') : AC Try.prog 95 [SV sb r 0 c.length ver, .int .i64 a, .int .i64 b, .ptr sp 0 0] H Q := by
  refine L_body 28 Try.func95 rfl rfl ?_
  refine L_reg [0, 1, 2, 3] (fun K hK => ?_)
  simp
  apply hK; clear hK K
  have hx := hP.row.ld ha
  have hy := hP.row.ld hb
  have hCk := hC.keep hP.keep
  refine L_regT mixed [1, 2, 3, 18] (by kernel_rfl) (fun K hK => ?_)
  simp [okFn_low, ha, hb, hx, hy]
  refine exC_mk (fun Q hQ => hCk.2 H (.refl _ _) _ _ (hD b hb) (hD a ha) Q hQ) ?_
  simp
  apply hK; clear hK K
  obtain ⟨s, st, hs, hrow⟩ := hP.cnt
  refine L_dec (cmpS (κ (g c b)) (κ (g c a)) < 0) (by simp) (fun hlt => ?_) (fun hge => ?_)
  · have e1 : ld H sp 0 0 = some (.int .i64 s) := by rw [ld_row hrow]; rfl
    have e2 := store_row (P := Try.prog) (u := 3) (p := 0) sc3 (x := .int .i64 ((s : Int) + 1)) (y := .int .i64 s) rfl hrow rfl
    refine L_reg [1, 2] (fun K hK => ?_)
    simp [aNil, e1, wrap_i64 (a := (s : Int) + 1) (by omega), e2]
    apply hK; clear hK K
    refine L_reg [8, 9] (fun K hK => ?_)
    simp
    apply hK; clear hK K
    exact L_ret ⟨.inr rfl, _, rfl, h _ b a (.inr ⟨rfl, rfl⟩) ⟨⟨by simpa using hP.keep.1, fun j h1 h2 => by rw [set_ne (by have := hP.lt; omega)]; exact hP.keep.2 j h1 h2⟩, (let ⟨s', h'⟩ := hP.row; ⟨s', by rw [set_ne (Ne.symm hP.ne)]; exact h'⟩), hP.lt, hP.ne, s + 1, _, by omega, by rw [get_set hrow]; rfl⟩⟩
  · refine L_reg [8, 9] (fun K hK => ?_)
    simp
    apply hK; clear hK K
    exact L_ret ⟨.inr rfl, _, rfl, h _ a b (.inl ⟨rfl, rfl⟩) (hP.mono (by omega))⟩
set_option maxRecDepth 100000 in
theorem median_ac (D : Int → Prop) (κ : Int → Int) (r ver sp a b d k : Nat) (c : List Int) (B H : AH) (Q : AV → AH → Prop) (hC : CmpO D κ r B) (hP : Piv r ver sp B c k H) (hk : k ≤ 900) (hD : All D c) (hl : c.length ≤ 1000000) (ha : a < c.length) (hb : b < c.length) (hd : d < c.length)
    (h : ∀ (H' : AH) (x : Nat), x = a ∨ x = b ∨ x = d → Piv r ver sp B c (k + 3) H' → Q (.int .i64 x) H') : AC Try.prog 93 [SV sb r 0 c.length ver, .int .i64 a, .int .i64 b, .int .i64 d, .ptr sp 0 0] H Q := by
  refine L_body 36 Try.func93 rfl rfl ?_
  refine L_reg [0, 1, 2, 3, 4] (fun K hK => ?_)
  simp
  apply hK; clear hK K
  refine L_reg [0, 1, 2, 3, 4] (fun K hK => ?_)
  simp [okFn_low]
  refine order2_ac D κ r ver sp a b k c B H _ hC hP (by omega) hD hl ha hb (fun H1 x y hxy hP1 => ?_)
  simp
  apply hK; clear hK K
  refine L_reg [0, 1, 2, 4] (fun K hK => ?_)
  simp [okFn_low]
  refine order2_ac D κ r ver sp y d (k + 1) c B H1 _ hC hP1 (by omega) hD hl (by omega) hd (fun H2 x2 y2 hxy2 hP2 => ?_)
  simp
  apply hK; clear hK K
  refine L_reg [2] (fun K hK => ?_)
  simp [okFn_low]
  refine order2_ac D κ r ver sp x x2 (k + 2) c B H2 _ hC hP2 (by omega) hD hl (by omega) (by omega) (fun H3 x3 y3 hxy3 hP3 => ?_)
  simp
  apply hK; clear hK K
  refine L_reg [10] (fun K hK => ?_)
  simp
  apply hK; clear hK K
  exact L_ret ⟨.inr rfl, _, rfl, h _ y3 (by omega) hP3⟩
set_option maxRecDepth 100000 in
theorem medianAdj_ac (D : Int → Prop) (κ : Int → Int) (r ver sp a k : Nat) (c : List Int) (B H : AH) (Q : AV → AH → Prop) (hC : CmpO D κ r B) (hP : Piv r ver sp B c k H) (hk : k ≤ 900) (hD : All D c) (hl : c.length ≤ 1000000) (ha : 1 ≤ a) (hb : a + 1 < c.length)
    (h : ∀ (H' : AH) (x : Nat), a ≤ x + 1 ∧ x ≤ a + 1 → Piv r ver sp B c (k + 3) H' → Q (.int .i64 x) H') : AC Try.prog 92 [SV sb r 0 c.length ver, .int .i64 a, .ptr sp 0 0] H Q := by
  obtain ⟨a, rfl⟩ : ∃ b', a = b' + 1 := ⟨a - 1, by omega⟩
  refine L_body 15 Try.func92 rfl rfl ?_
  refine L_reg [0, 1, 2] (fun K hK => ?_)
  simp
  apply hK; clear hK K
  refine L_reg [6] (fun K hK => ?_)
  simp [okFn_low, wrap_i64 (a := (a : Int)) (by omega), wrap_i64 (a := (a : Int) + 1 + 1) (by omega)]
  refine median_ac D κ r ver sp a (a + 1) (a + 1 + 1) k c B H _ hC hP hk hD hl (by omega) (by omega) (by omega) (fun H1 x hx hP1 => ?_)
  simp
  apply hK; clear hK K
  exact L_ret ⟨.inr rfl, _, rfl, h _ x (by omega) hP1⟩
end Go.Proofs.Ytmlhekfkniibmaa.Ord

/- Sorting numbers (Sort3). -/
namespace Go.Proofs.Ytmlhekfkniibmaa.Ord
open Go Go.Proofs.Ytmlhekfkniibmaa.AX Go.Proofs.Ytmlhekfkniibmaa
variable {sb : Bool}

set_option maxRecDepth 100000 in
theorem pivot_ac (D : Int → Prop) (κ : Int → Int) (r ver a l : Nat) (c : List Int) (H : AH) (Q : AV → AH → Prop) (hC : CmpO D κ r H) (hr : Rw r ver H c) (hrl : r < H.length) (hD : All D c) (hlen : c.length ≤ 1000000) (hl : 12 < l) (hb : a + l ≤ c.length)
    (h : ∀ (H' : AH) (x : Nat) (hint : Int), a ≤ x ∧ x < a + l → KeepX r H H' → Rw r ver H' c → Q (.tuple [.int .i64 x, .int .i64 hint]) H') : AC Try.prog 83 [SV sb r 0 c.length ver, .int .i64 a, .int .i64 (a + l : Nat)] H Q := by
  refine L_body 57 Try.func83 rfl rfl ?_
  refine L_reg [0, 1, 2] (fun K hK => ?_)
  simp
  apply hK; clear hK K
  have hq : ((l : Int)).tdiv 4 = ((l / 4 : Nat) : Int) := by rw [Int.tdiv_eq_ediv_of_nonneg (by omega)]; rfl
  obtain ⟨q, hq0⟩ : ∃ q, q = l / 4 := ⟨_, rfl⟩
  rw [← hq0] at hq
  obtain ⟨i, hi⟩ : ∃ i : Nat, (a : Int) + q = i := ⟨a + q, by omega⟩
  obtain ⟨j, hj⟩ : ∃ i : Nat, (a : Int) + (q : Int) * 2 = i := ⟨a + q * 2, by omega⟩
  obtain ⟨k, hk⟩ : ∃ i : Nat, (a : Int) + (q : Int) * 3 = i := ⟨a + q * 3, by omega⟩
  refine L_reg [0, 1, 8] (fun K hK => ?_)
  simp [wrap_i64 (a := (l : Int)) (by omega), show ((a : Int) + l - a) = l by omega]
  apply hK; clear hK K
  refine L_reg [0, 1, 8, 9] (fun K hK => ?_)
  simp [alloc_z zt3]
  apply hK; clear hK K
  have hP : Piv r ver H.length H c 0 (H ++ [.row [.int .i64 0] 0 0 false]) := ⟨(KeepX.refl r H).ext (.push _ _), hr.ext (.push _ _), Nat.le_refl _, by omega, 0, 0, Nat.le_refl _, by simp⟩
  generalize H ++ [AObj.row [.int .i64 0] 0 0 false] = H0 at hP ⊢
  generalize hsp : H.length = sp at hP ⊢
  refine L_reg [0, 1, 8, 9, 10] (fun K hK => ?_)
  simp [hq, wrap_i64 (a := (q : Int)) (by omega), hi, wrap_i64 (a := (i : Int)) (by omega)]
  apply hK; clear hK K
  refine L_reg [0, 1, 8, 9, 10, 11] (fun K hK => ?_)
  simp [hq, wrap_i64 (a := (q : Int)) (by omega), wrap_i64 (a := (q : Int) * 2) (by omega), hj, wrap_i64 (a := (j : Int)) (by omega)]
  apply hK; clear hK K
  refine L_reg [0, 8, 9, 10, 11, 12] (fun K hK => ?_)
  simp [hq, wrap_i64 (a := (q : Int)) (by omega), wrap_i64 (a := (q : Int) * 3) (by omega), hk, wrap_i64 (a := (k : Int)) (by omega)]
  apply hK; clear hK K
  refine L_reg [0, 8, 9, 10, 11, 12, 32] (fun K hK => ?_)
  simp
  apply hK; clear hK K
  refine L_true (by simp; omega) ?_
  refine L_reg [0, 9, 10, 11, 12, 34] (fun K hK => ?_)
  simp
  apply hK; clear hK K
  refine L_dec (50 ≤ (l : Int)) (by simp) (fun h50 => ?_) (fun h50 => ?_)
  · refine L_reg [0, 9, 10, 11, 12] (fun K hK => ?_)
    simp [okFn_low]
    refine medianAdj_ac D κ r ver sp i 0 c H H0 _ hC hP (by omega) hD hlen (by omega) (by omega) (fun H1 x hx hP => ?_)
    simp
    apply hK; clear hK K
    refine L_reg [0, 9, 10, 11, 12] (fun K hK => ?_)
    simp [okFn_low]
    refine medianAdj_ac D κ r ver sp j _ c H H1 _ hC hP (by omega) hD hlen (by omega) (by omega) (fun H2 y hy hP => ?_)
    simp
    apply hK; clear hK K
    refine L_reg [0, 9, 10, 11, 12] (fun K hK => ?_)
    simp [okFn_low]
    refine medianAdj_ac D κ r ver sp k _ c H H2 _ hC hP (by omega) hD hlen (by omega) (by omega) (fun H3 z hz hP => ?_)
    simp
    apply hK; clear hK K
    refine L_reg [9, 11] (fun K hK => ?_)
    simp [okFn_low]
    refine median_ac D κ r ver sp x y z _ c H H3 _ hC hP (by omega) hD hlen (by omega) (by omega) (by omega) (fun H4 w hw hP => ?_)
    simp
    apply hK; clear hK K
    obtain ⟨s, st, hs, hrow⟩ := hP.cnt
    have e1 : ld H4 sp 0 0 = some (.int .i64 s) := by rw [ld_row hrow]; rfl
    refine L_reg [11, 49] (fun K hK => ?_)
    simp [e1]
    apply hK; clear hK K
    refine L_block ?_
    refine L_reg [11, 49, 51] (fun K hK => ?_)
    simp
    apply hK; clear hK K
    refine L_split rfl (fun _ => ?_) (fun _ => ?_)
    · refine L_reg [6, 7] (fun K hK => ?_)
      simp
      apply hK; clear hK K
      exact L_ret ⟨.inr rfl, _, rfl, h _ w 1 (by omega) hP.keep hP.row⟩
    · refine L_reg [11, 54] (fun K hK => ?_)
      simp
      apply hK; clear hK K
      refine L_split rfl (fun _ => ?_) (fun _ => ?_)
      · refine L_reg [6, 7] (fun K hK => ?_)
        simp
        apply hK; clear hK K
        exact L_ret ⟨.inr rfl, _, rfl, h _ w 2 (by omega) hP.keep hP.row⟩
      · refine L_reg [6, 7] (fun K hK => ?_)
        simp
        apply hK; clear hK K
        exact L_ret ⟨.inr rfl, _, rfl, h _ w 0 (by omega) hP.keep hP.row⟩
  · refine L_reg [9, 11] (fun K hK => ?_)
    simp [okFn_low]
    refine median_ac D κ r ver sp i j k _ c H H0 _ hC hP (by omega) hD hlen (by omega) (by omega) (by omega) (fun H4 w hw hP => ?_)
    simp
    apply hK; clear hK K
    obtain ⟨s, st, hs, hrow⟩ := hP.cnt
    have e1 : ld H4 sp 0 0 = some (.int .i64 s) := by rw [ld_row hrow]; rfl
    refine L_reg [11, 49] (fun K hK => ?_)
    simp [e1]
    apply hK; clear hK K
    refine L_block ?_
    refine L_reg [11, 49, 51] (fun K hK => ?_)
    simp
    apply hK; clear hK K
    refine L_split rfl (fun _ => ?_) (fun _ => ?_)
    · refine L_reg [6, 7] (fun K hK => ?_)
      simp
      apply hK; clear hK K
      exact L_ret ⟨.inr rfl, _, rfl, h _ w 1 (by omega) hP.keep hP.row⟩
    · refine L_reg [11, 54] (fun K hK => ?_)
      simp
      apply hK; clear hK K
      refine L_split rfl (fun _ => ?_) (fun _ => ?_)
      · refine L_reg [6, 7] (fun K hK => ?_)
        simp
        apply hK; clear hK K
        exact L_ret ⟨.inr rfl, _, rfl, h _ w 2 (by omega) hP.keep hP.row⟩
      · refine L_reg [6, 7] (fun K hK => ?_)
        simp
        apply hK; clear hK K
        exact L_ret ⟨.inr rfl, _, rfl, h _ w 0 (by omega) hP.keep hP.row⟩
end Go.Proofs.Ytmlhekfkniibmaa.Ord

/- Sorting numbers (Part). -/
namespace Go.Proofs.Ytmlhekfkniibmaa.Ord
open Go Go.Proofs.Ytmlhekfkniibmaa.AX Go.Proofs.Ytmlhekfkniibmaa
variable {sb : Bool}

set_option maxRecDepth 100000 in
theorem partEq_ac (D : Int → Prop) (κ : Int → Int) (r ver a b pv : Nat) (c : List Int) (H : AH) (Q : AV → AH → Prop) (hC : CmpO D κ r H) (hr : Rw r ver H c) (hD : All D c) (hl : c.length ≤ 1000000) (hpa : a ≤ pv) (hpb : pv < b) (hb : b ≤ c.length)
    (h : ∀ (H' : AH) (m : List Int) (p : Nat), a < p → p ≤ b → Shuf a b c m → (∀ k, a ≤ k → k < p → κ (g m k) ≤ κ (g c pv)) → (∀ k, p ≤ k → k < b → κ (g c pv) < κ (g m k)) → Rw r ver H' m → KeepX r H H' → Q (.int .i64 p) H') : AC Try.prog 87 [SV sb r 0 c.length ver, .int .i64 a, .int .i64 b, .int .i64 pv] H Q := by
  refine L_body 84 Try.func87 rfl rfl ?_
  refine L_reg [0, 1, 2, 3] (fun K hK => ?_)
  simp
  apply hK; clear hK K
  generalize hn : c.length = n at *
  obtain ⟨b0, rfl⟩ : ∃ b', b = b' + 1 := ⟨b - 1, by omega⟩
  generalize hb0 : b0 + 1 = b at *
  have hx0 := hr.ld (i := pv) (by omega)
  have hy0 := hr.ld (i := a) (by omega)
  obtain ⟨H2, H3, e1, e2, e3, e4⟩ := hr.swap (i := a) (j := pv) (by omega) (by omega)
  have ga : a < n := by omega
  have gp : pv < n := by omega
  refine L_regT mixed [0, 1, 2] (by kernel_rfl) (fun K hK => ?_)
  simp [ga, gp, hx0, hy0, e1, e2]
  apply hK; clear hK K
  have hbi : (b : Int) - 1 = b0 := by omega
  refine L_reg [0, 1, 9, 10] (fun K hK => ?_)
  simp [wrap_i64 (a := (a : Int) + 1) (by omega), hbi, wrap_i64 (a := (b0 : Int)) (by omega)]
  apply hK; clear hK K
  have hS0 : Shuf a b c (sw c a pv) := .swap (by omega) (by omega) (by omega)
  have hpiv : g (sw c a pv) a = g c pv := sw_i (by omega) (by omega)
  generalize hd0 : sw c a pv = d0 at e3 hS0 hpiv
  clear e1 e2 hx0 hy0
  generalize hLOW : (fun x => ¬ κ (g c pv) < κ x) = LOW
  have hlow : ∀ x, (LOW x → ¬ cmpS (κ (g c pv)) (κ x) < 0) ∧ (¬ LOW x → cmpS (κ (g c pv)) (κ x) < 0) := by
    intro x
    rw [← hLOW]
    constructor
    · intro h1 h2; exact h1 (cmpS_neg.1 h2)
    · intro h1; exact cmpS_neg.2 (Decidable.not_not.1 h1)
  refine L_block (L_loopV [9, 10] (fun n' vs H' => ∃ (i j : Nat) (d : List Int), n' = j + 1 - i ∧ a + 1 ≤ i ∧ i ≤ j + 1 ∧ j < b ∧ Shuf a b c d ∧ g d a = g c pv ∧ (∀ k, a < k → k < i → LOW (g d k)) ∧ (∀ k, j < k → k < b → ¬ LOW (g d k)) ∧ vs = [.int .i64 i, .int .i64 j] ∧ Rw r ver H' d ∧ KeepX r H H') _ [.int .i64 (a + 1 : Nat), .int .i64 b0] rfl ⟨a + 1, b0, d0, rfl, by omega, by omega, by omega, hS0, hpiv, fun k k1 k2 => by omega, fun k k1 k2 => by omega, rfl, e3, e4⟩ ?_)
  clear e3 e4 hS0 hpiv hd0 d0 hr H2 H3
  rintro _ _ H1 ⟨i, j, d, rfl, hi, hij0, hjb, hS, hpiv, hLo, hHi, rfl, hrow, hK⟩
  have hdl : d.length = n := by rw [hS.len]; exact hn
  have hdD := hD.perm hS.1
  have hCk := hC.keep hK
  have ha0 := hrow.ld (i := a) (by omega)
  rw [hpiv] at ha0
  have hdDa : D (g c pv) := by rw [← hpiv]; exact hdD a (by omega)
  refine L_block ?_
  refine L_blockR (fun e' H' => ∃ (x2 : Nat) (v : AV), i ≤ x2 ∧ x2 ≤ j + 1 ∧ (∀ k, a < k → k < x2 → LOW (g d k)) ∧ (x2 ≤ j → ¬ LOW (g d x2)) ∧ e' = [(0, SV sb r 0 n ver), (1, .int .i64 a), (9, .int .i64 (x2 : Nat)), (10, .int .i64 (j : Nat)), (43, v)] ∧ H1 = H') (L_loopV [9] (fun n' vs H' => ∃ x2 : Nat, n' = j + 1 - x2 ∧ i ≤ x2 ∧ x2 ≤ j + 1 ∧ (∀ k, a < k → k < x2 → LOW (g d k)) ∧ vs = [.int .i64 x2] ∧ H1 = H') _ [.int .i64 i] rfl ⟨i, rfl, by omega, by omega, hLo, rfl, rfl⟩ ?_) ?_
  · rintro n' _ _ ⟨x2, rfl, h1, h2, hR, rfl, rfl⟩
    by_cases hij : x2 ≤ j
    · have hx := hrow.ld (i := x2) (by omega)
      have g1 : x2 < n := by omega
      refine L_regT mixed [0, 1, 9, 10, 43] (by kernel_rfl) (fun K hK => ?_)
      simp [okFn_low, hij, g1, ga, hx, ha0]
      refine exC_mk (fun Q hQ => hCk.2 H1 (.refl _ _) _ _ hdDa (hdD x2 (by omega)) Q hQ) ?_
      simp [pickV]
      apply hK; clear hK K
      have hc := hlow (g d x2)
      by_cases hL : LOW (g d x2)
      · refine L_true (by first | simpa using hc.1 hL | simpa using hc.2 hL) ?_
        refine L_block ?_
        refine L_reg [0, 1, 9, 10] (fun K hK => ?_)
        simp [wrap_i64 (a := (x2 : Int) + 1) (by omega)]
        apply hK; clear hK K
        refine ⟨j + 1 - (x2 + 1), [.int .i64 (x2 + 1 : Nat)], by omega, by simp, x2 + 1, rfl, by omega, by omega, fun k k1 k2 => ?_, rfl, rfl⟩
        by_cases k3 : k = x2
        · rw [k3]; exact hL
        · exact hR k k1 (by omega)
      · refine L_false (by first | simpa using hc.1 hL | simpa using hc.2 hL) (L_exit ?_)
        exact ⟨x2, _, h1, h2, hR, fun _ => hL, rfl, rfl⟩
    · refine L_regT mixed [0, 1, 9, 10, 43] (by kernel_rfl) (fun K hK => ?_)
      simp [pickV, hij]
      apply hK; clear hK K
      refine L_false (by simp) (L_exit ?_)
      exact ⟨x2, _, h1, h2, hR, fun h => absurd h hij, rfl, rfl⟩
  rintro _ _ ⟨i1, vu, h1u, h2u, hRu, hsu, rfl, rfl⟩
  refine L_blockR (fun e' H' => ∃ (x2 : Nat) (v : AV), x2 ≤ j ∧ i1 ≤ x2 + 1 ∧ (∀ k, x2 < k → k < b → ¬ LOW (g d k)) ∧ (i1 ≤ x2 → LOW (g d x2)) ∧ e' = [(0, SV sb r 0 n ver), (1, .int .i64 a), (9, .int .i64 (i1 : Nat)), (10, .int .i64 (x2 : Nat)), (43, vu), (59, v)] ∧ H1 = H') (L_loopV [10] (fun n' vs H' => ∃ x2 : Nat, n' = x2 + 1 - i1 ∧ x2 ≤ j ∧ i1 ≤ x2 + 1 ∧ (∀ k, x2 < k → k < b → ¬ LOW (g d k)) ∧ vs = [.int .i64 x2] ∧ H1 = H') _ [.int .i64 j] rfl ⟨j, rfl, by omega, by omega, hHi, rfl, rfl⟩ ?_) ?_
  · rintro n' _ _ ⟨x2, rfl, h1, h2, hR, rfl, rfl⟩
    by_cases hij : i1 ≤ x2
    · have hx := hrow.ld (i := x2) (by omega)
      have g1 : x2 < n := by omega
      refine L_regT mixed [0, 1, 9, 10, 43, 59] (by kernel_rfl) (fun K hK => ?_)
      simp [okFn_low, hij, g1, ga, hx, ha0]
      refine exC_mk (fun Q hQ => hCk.2 H1 (.refl _ _) _ _ hdDa (hdD x2 (by omega)) Q hQ) ?_
      simp [pickV]
      apply hK; clear hK K
      have hc := hlow (g d x2)
      by_cases hL : LOW (g d x2)
      · refine L_false (by first | simpa using hc.1 hL | simpa using hc.2 hL) (L_exit ?_)
        exact ⟨x2, _, h1, h2, hR, fun _ => hL, rfl, rfl⟩
      · refine L_true (by first | simpa using hc.1 hL | simpa using hc.2 hL) ?_
        refine L_block ?_
        obtain ⟨x3, rfl⟩ : ∃ x3, x2 = x3 + 1 := ⟨x2 - 1, by omega⟩
        refine L_reg [0, 1, 9, 10, 43] (fun K hK => ?_)
        simp [wrap_i64 (a := (x3 : Int)) (by omega)]
        apply hK; clear hK K
        refine ⟨x3 + 1 - i1, [.int .i64 (x3 : Nat)], by omega, by simp, x3, rfl, by omega, by omega, fun k k1 k2 => ?_, rfl, rfl⟩
        by_cases k3 : k = x3 + 1
        · rw [k3]; exact hL
        · exact hR k (by omega) k2
    · refine L_regT mixed [0, 1, 9, 10, 43, 59] (by kernel_rfl) (fun K hK => ?_)
      simp [pickV, hij]
      apply hK; clear hK K
      refine L_false (by simp) (L_exit ?_)
      exact ⟨x2, _, h1, h2, hR, fun h => absurd h hij, rfl, rfl⟩
  rintro _ _ ⟨j1, vd, h1d, h2d, hRd, hsd, rfl, rfl⟩
  refine L_reg [0, 1, 9, 10, 64] (fun K hK => ?_)
  simp
  apply hK; clear hK K
  refine L_dec (j1 < i1) (by simp) (fun hlt => L_exit ?_) (fun hge => ?_)
  · refine L_reg [8] (fun K hK => ?_)
    simp
    apply hK; clear hK K
    have hLd : ∀ x, LOW x ↔ κ x ≤ κ (g c pv) := fun x => by rw [← hLOW]; exact Int.not_lt
    have e : i1 = j1 + 1 := by omega
    have q1 : ∀ k, a ≤ k → k < i1 → κ (g d k) ≤ κ (g c pv) := by
      intro k k1 k2
      by_cases k3 : k = a
      · rw [k3, hpiv]; exact Int.le_refl _
      · exact (hLd _).1 (hRu k (by omega) k2)
    have q2 : ∀ k, i1 ≤ k → k < b → κ (g c pv) < κ (g d k) := fun k k1 k2 => Int.not_le.1 fun h5 => hRd k (by omega) k2 ((hLd _).2 h5)
    exact L_ret ⟨.inr rfl, _, rfl, h H1 d i1 (by omega) (by omega) hS q1 q2 hrow hK⟩
  · have hl1 := hsu (by omega)
    have hl2 := hsd (by omega)
    have hne : i1 ≠ j1 := by rintro rfl; exact hl1 hl2
    obtain ⟨j2, rfl⟩ : ∃ j2, j1 = j2 + 1 := ⟨j1 - 1, by omega⟩
    have hx := hrow.ld (i := i1) (by omega)
    have hy := hrow.ld (i := j2 + 1) (by omega)
    obtain ⟨H2, H3, e1, e2, e3, e4⟩ := hrow.swap (i := i1) (j := j2 + 1) (by omega) (by omega)
    have g1 : i1 < n := by omega
    have g2 : (j2 : Int) + 1 < n := by omega
    have g3 : (0 : Int) ≤ (j2 : Int) + 1 := by omega
    have g4 : ((j2 : Int) + 1).toNat = j2 + 1 := by omega
    refine L_regT mixed [0, 1, 9, 10] (by kernel_rfl) (fun K hK => ?_)
    simp [g1, g2, g3, g4, hx, hy, e1, e2]
    apply hK; clear hK K
    refine L_reg [0, 1, 9, 10] (fun K hK => ?_)
    simp [wrap_i64 (a := (i1 : Int) + 1) (by omega)]
    apply hK; clear hK K
    refine L_reg [0, 1, 9, 10] (fun K hK => ?_)
    simp [wrap_i64 (a := (j2 : Int)) (by omega)]
    apply hK; clear hK K
    have w0 := sw_i (c := d) (i := i1) (j := j2 + 1) (by omega) (by omega)
    have w1 := sw_j (c := d) (i := i1) (j := j2 + 1) (by omega) (by omega)
    have w2 := fun (k : Nat) (k1 : k ≠ i1) (k2 : k ≠ j2 + 1) => sw_o (c := d) (i := i1) (j := j2 + 1) (by omega) (by omega) k1 k2
    refine ⟨j2 + 1 - (i1 + 1), [.int .i64 (i1 + 1 : Nat), .int .i64 j2], by omega, by simp, i1 + 1, j2, _, rfl, by omega, by omega, by omega, hS.trans (.swap (by omega) (by omega) (by omega)), by rw [w2 a (by omega) (by omega)]; exact hpiv, fun k k1 k2 => ?_, fun k k1 k2 => ?_, rfl, e3, hK.trans e4⟩
    · by_cases k3 : k = i1
      · rw [k3, w0]; exact hl2
      · rw [w2 k k3 (by omega)]; exact hRu k k1 (by omega)
    · by_cases k3 : k = j2 + 1
      · rw [k3, w1]; exact hl1
      · rw [w2 k (by omega) k3]; exact hRd k (by omega) k2
end Go.Proofs.Ytmlhekfkniibmaa.Ord

/- Sorting numbers (Part2). -/
namespace Go.Proofs.Ytmlhekfkniibmaa.Ord
open Go Go.Proofs.Ytmlhekfkniibmaa.AX Go.Proofs.Ytmlhekfkniibmaa
variable {sb : Bool}

set_option maxRecDepth 100000 in
theorem part_ac (D : Int → Prop) (κ : Int → Int) (r ver a b pv : Nat) (c : List Int) (H : AH) (Q : AV → AH → Prop) (hC : CmpO D κ r H) (hr : Rw r ver H c) (hD : All D c) (hl : c.length ≤ 1000000) (hpa : a ≤ pv) (hpb : pv < b) (hb : b ≤ c.length)
    (h : ∀ (H' : AH) (m : List Int) (p : Nat) (bb : Bool), a ≤ p → p < b → Shuf a b c m → (∀ k, a ≤ k → k < p → κ (g m k) ≤ κ (g m p)) → (∀ k, p < k → k < b → κ (g m p) ≤ κ (g m k)) → Rw r ver H' m → KeepX r H H' → Q (.tuple [.int .i64 p, .bool bb]) H') : AC Try.prog 88 [SV sb r 0 c.length ver, .int .i64 a, .int .i64 b, .int .i64 pv] H Q := by
  refine L_body 168 Try.func88 rfl rfl ?_
  refine L_reg [0, 1, 2, 3] (fun K hK => ?_)
  simp
  apply hK; clear hK K
  generalize hn : c.length = n at *
  obtain ⟨b0, rfl⟩ : ∃ b', b = b' + 1 := ⟨b - 1, by omega⟩
  generalize hb0 : b0 + 1 = b at *
  have hx0 := hr.ld (i := pv) (by omega)
  have hy0 := hr.ld (i := a) (by omega)
  obtain ⟨H2, H3, e1, e2, e3, e4⟩ := hr.swap (i := a) (j := pv) (by omega) (by omega)
  have ga : a < n := by omega
  have gp : pv < n := by omega
  refine L_regT mixed [0, 1, 2] (by kernel_rfl) (fun K hK => ?_)
  simp [ga, gp, hx0, hy0, e1, e2]
  apply hK; clear hK K
  have hbi : (b : Int) - 1 = b0 := by omega
  obtain ⟨i, hi⟩ : ∃ i : Nat, (a : Int) + 1 = i := ⟨a + 1, by omega⟩
  refine L_reg [0, 1, 10, 11] (fun K hK => ?_)
  simp [hi, wrap_i64 (a := (i : Int)) (by omega), hbi, wrap_i64 (a := (b0 : Int)) (by omega)]
  apply hK; clear hK K
  have hS0 : Shuf a b c (sw c a pv) := .swap (by omega) (by omega) (by omega)
  have hpiv : g (sw c a pv) a = g c pv := sw_i (by omega) (by omega)
  generalize hd0 : sw c a pv = d0 at e3 hS0 hpiv
  clear e1 e2 hx0 hy0
  generalize hLOW : (fun x => κ x < κ (g c pv)) = LOW
  have hlow : ∀ x, (LOW x → cmpS (κ x) (κ (g c pv)) < 0) ∧ (¬ LOW x → ¬ cmpS (κ x) (κ (g c pv)) < 0) := by
    intro x
    rw [← hLOW]
    constructor
    · intro h1; exact cmpS_neg.2 h1
    · intro h1 h2; exact h1 (cmpS_neg.1 h2)
  have hLd : ∀ x, LOW x ↔ κ x < κ (g c pv) := fun x => by rw [← hLOW]
  have hdD := hD.perm hS0.1
  have hCk := hC.keep e4
  have hdl : d0.length = n := by rw [hS0.len]; exact hn
  have ha0 := e3.ld (i := a) (by omega)
  have hLo : ∀ k, a < k → k < i → LOW (g d0 k) := fun k k1 k2 => by omega
  have hHi : ∀ k, b0 < k → k < b → ¬ LOW (g d0 k) := fun k k1 k2 => by omega
  rw [hpiv] at ha0
  have hdDa : D (g c pv) := by rw [← hpiv]; exact hdD a (by omega)
  have hrow := e3
  clear e3
  clear hd0
  generalize H3 = H1 at *
  generalize d0 = d at *
  generalize hj0 : b0 = j at *
  refine L_blockR (fun e' H' => ∃ (x2 : Nat) (v : AV), i ≤ x2 ∧ x2 ≤ j + 1 ∧ (∀ k, a < k → k < x2 → LOW (g d k)) ∧ (x2 ≤ j → ¬ LOW (g d x2)) ∧ e' = [(0, SV sb r 0 n ver), (1, .int .i64 a), (10, .int .i64 (x2 : Nat)), (11, .int .i64 (j : Nat)), (43, v)] ∧ H1 = H') (L_loopV [10] (fun n' vs H' => ∃ x2 : Nat, n' = j + 1 - x2 ∧ i ≤ x2 ∧ x2 ≤ j + 1 ∧ (∀ k, a < k → k < x2 → LOW (g d k)) ∧ vs = [.int .i64 x2] ∧ H1 = H') _ [.int .i64 i] rfl ⟨i, rfl, by omega, by omega, hLo, rfl, rfl⟩ ?_) ?_
  · rintro n' _ _ ⟨x2, rfl, h1, h2, hR, rfl, rfl⟩
    by_cases hij : x2 ≤ j
    · have hx := hrow.ld (i := x2) (by omega)
      have g1 : x2 < n := by omega
      refine L_regT mixed [0, 1, 10, 11, 43] (by kernel_rfl) (fun K hK => ?_)
      simp [okFn_low, hij, g1, ga, hx, ha0]
      refine exC_mk (fun Q hQ => hCk.2 H1 (.refl _ _) _ _ (hdD x2 (by omega)) hdDa Q hQ) ?_
      simp [pickV]
      apply hK; clear hK K
      have hc := hlow (g d x2)
      by_cases hL : LOW (g d x2)
      · refine L_true (by first | simpa using hc.1 hL | simpa using hc.2 hL) ?_
        refine L_block ?_
        refine L_reg [0, 1, 10, 11] (fun K hK => ?_)
        simp [wrap_i64 (a := (x2 : Int) + 1) (by omega)]
        apply hK; clear hK K
        refine ⟨j + 1 - (x2 + 1), [.int .i64 (x2 + 1 : Nat)], by omega, by simp, x2 + 1, rfl, by omega, by omega, fun k k1 k2 => ?_, rfl, rfl⟩
        by_cases k3 : k = x2
        · rw [k3]; exact hL
        · exact hR k k1 (by omega)
      · refine L_false (by first | simpa using hc.1 hL | simpa using hc.2 hL) (L_exit ?_)
        exact ⟨x2, _, h1, h2, hR, fun _ => hL, rfl, rfl⟩
    · refine L_regT mixed [0, 1, 10, 11, 43] (by kernel_rfl) (fun K hK => ?_)
      simp [pickV, hij]
      apply hK; clear hK K
      refine L_false (by simp) (L_exit ?_)
      exact ⟨x2, _, h1, h2, hR, fun h => absurd h hij, rfl, rfl⟩
  rintro _ _ ⟨i1, vu, h1u, h2u, hRu, hsu, rfl, rfl⟩
  refine L_blockR (fun e' H' => ∃ (x2 : Nat) (v : AV), x2 ≤ j ∧ i1 ≤ x2 + 1 ∧ (∀ k, x2 < k → k < b → ¬ LOW (g d k)) ∧ (i1 ≤ x2 → LOW (g d x2)) ∧ e' = [(0, SV sb r 0 n ver), (1, .int .i64 a), (10, .int .i64 (i1 : Nat)), (11, .int .i64 (x2 : Nat)), (43, vu), (60, v)] ∧ H1 = H') (L_loopV [11] (fun n' vs H' => ∃ x2 : Nat, n' = x2 + 1 - i1 ∧ x2 ≤ j ∧ i1 ≤ x2 + 1 ∧ (∀ k, x2 < k → k < b → ¬ LOW (g d k)) ∧ vs = [.int .i64 x2] ∧ H1 = H') _ [.int .i64 j] rfl ⟨j, rfl, by omega, by omega, hHi, rfl, rfl⟩ ?_) ?_
  · rintro n' _ _ ⟨x2, rfl, h1, h2, hR, rfl, rfl⟩
    by_cases hij : i1 ≤ x2
    · have hx := hrow.ld (i := x2) (by omega)
      have g1 : x2 < n := by omega
      refine L_regT mixed [0, 1, 10, 11, 43, 60] (by kernel_rfl) (fun K hK => ?_)
      simp [okFn_low, hij, g1, ga, hx, ha0]
      refine exC_mk (fun Q hQ => hCk.2 H1 (.refl _ _) _ _ (hdD x2 (by omega)) hdDa Q hQ) ?_
      simp [pickV]
      apply hK; clear hK K
      have hc := hlow (g d x2)
      by_cases hL : LOW (g d x2)
      · refine L_false (by first | simpa using hc.1 hL | simpa using hc.2 hL) (L_exit ?_)
        exact ⟨x2, _, h1, h2, hR, fun _ => hL, rfl, rfl⟩
      · refine L_true (by first | simpa using hc.1 hL | simpa using hc.2 hL) ?_
        refine L_block ?_
        obtain ⟨x3, rfl⟩ : ∃ x3, x2 = x3 + 1 := ⟨x2 - 1, by omega⟩
        refine L_reg [0, 1, 10, 11, 43] (fun K hK => ?_)
        simp [wrap_i64 (a := (x3 : Int)) (by omega)]
        apply hK; clear hK K
        refine ⟨x3 + 1 - i1, [.int .i64 (x3 : Nat)], by omega, by simp, x3, rfl, by omega, by omega, fun k k1 k2 => ?_, rfl, rfl⟩
        by_cases k3 : k = x3 + 1
        · rw [k3]; exact hL
        · exact hR k (by omega) k2
    · refine L_regT mixed [0, 1, 10, 11, 43, 60] (by kernel_rfl) (fun K hK => ?_)
      simp [pickV, hij]
      apply hK; clear hK K
      refine L_false (by simp) (L_exit ?_)
      exact ⟨x2, _, h1, h2, hR, fun h => absurd h hij, rfl, rfl⟩
  rintro _ _ ⟨j1, vd, h1d, h2d, hRd, hsd, rfl, rfl⟩
  refine L_reg [0, 1, 10, 11, 65] (fun K hK => ?_)
  simp
  apply hK; clear hK K
  refine L_dec (j1 < i1) (by simp) (fun hlt => ?_) (fun hge => ?_)
  · have e : i1 = j1 + 1 := by omega
    obtain ⟨f1, f2, f3⟩ := part_fin (D := κ) hLd (by omega) (show a ≤ j1 by omega) (by omega) hS0 hpiv (by rw [← e]; exact hRu) hRd
    have hx := hrow.ld (i := j1) (by omega)
    obtain ⟨H4, H5, e1, e2, e3, e5⟩ := hrow.swap (i := j1) (j := a) (by omega) (by omega)
    rw [hpiv] at e1
    have g1 : j1 < n := by omega
    refine L_regT mixed [11] (by kernel_rfl) (fun K hK => ?_)
    simp [g1, ga, hx, ha0, e1, e2]
    apply hK; clear hK K
    refine L_reg [8, 9] (fun K hK => ?_)
    simp
    apply hK; clear hK K
    exact L_ret ⟨.inr rfl, _, rfl, h H5 _ j1 true (by omega) (by omega) f1 f2 f3 e3 (e4.trans e5)⟩
  · have hl1 := hsu (by omega)
    have hl2 := hsd (by omega)
    have hne : i1 ≠ j1 := by rintro rfl; exact hl1 hl2
    obtain ⟨j2, rfl⟩ : ∃ j2, j1 = j2 + 1 := ⟨j1 - 1, by omega⟩
    have hx := hrow.ld (i := i1) (by omega)
    have hy := hrow.ld (i := j2 + 1) (by omega)
    obtain ⟨H4, H5, e1, e2, e3, e5⟩ := hrow.swap (i := i1) (j := j2 + 1) (by omega) (by omega)
    have g1 : i1 < n := by omega
    have g2 : (j2 : Int) + 1 < n := by omega
    have g3 : (0 : Int) ≤ (j2 : Int) + 1 := by omega
    have g4 : ((j2 : Int) + 1).toNat = j2 + 1 := by omega
    refine L_regT mixed [0, 1, 10, 11] (by kernel_rfl) (fun K hK => ?_)
    simp [g1, g2, g3, g4, hx, hy, e1, e2]
    apply hK; clear hK K
    refine L_reg [0, 1, 10, 11] (fun K hK => ?_)
    simp [wrap_i64 (a := (i1 : Int) + 1) (by omega)]
    apply hK; clear hK K
    refine L_reg [0, 1, 10, 11] (fun K hK => ?_)
    simp [wrap_i64 (a := (j2 : Int)) (by omega)]
    apply hK; clear hK K
    have w0 := sw_i (c := d) (i := i1) (j := j2 + 1) (by omega) (by omega)
    have w1 := sw_j (c := d) (i := i1) (j := j2 + 1) (by omega) (by omega)
    have w2 := fun (k : Nat) (k1 : k ≠ i1) (k2 : k ≠ j2 + 1) => sw_o (c := d) (i := i1) (j := j2 + 1) (by omega) (by omega) k1 k2
    refine L_block (L_loopV [10, 11] (fun n' vs H' => ∃ (i j : Nat) (d : List Int), n' = j + 1 - i ∧ a + 1 ≤ i ∧ i ≤ j + 1 ∧ j < b ∧ Shuf a b c d ∧ g d a = g c pv ∧ (∀ k, a < k → k < i → LOW (g d k)) ∧ (∀ k, j < k → k < b → ¬ LOW (g d k)) ∧ vs = [.int .i64 i, .int .i64 j] ∧ Rw r ver H' d ∧ KeepX r H H') _ [.int .i64 (i1 + 1 : Nat), .int .i64 j2] rfl ⟨i1 + 1, j2, sw d i1 (j2 + 1), rfl, by omega, by omega, by omega, hS0.trans (.swap (by omega) (by omega) (by omega)), by rw [w2 a (by omega) (by omega)]; exact hpiv, fun k k1 k2 => ?_, fun k k1 k2 => ?_, rfl, e3, e4.trans e5⟩ ?_)
    · by_cases k3 : k = i1
      · rw [k3, w0]; exact hl2
      · rw [w2 k k3 (by omega)]; exact hRu k k1 (by omega)
    · by_cases k3 : k = j2 + 1
      · rw [k3, w1]; exact hl1
      · rw [w2 k (by omega) k3]; exact hRd k (by omega) k2
    clear w0 w1 w2 e1 e2 e3 e5 hx hy hl1 hl2 hsu hsd hRu hRd hne hrow e4 hS0 hpiv hdl hdD hCk ha0 hdDa hLo hHi g1 g2 g3 g4 hr
    clear H4 H5
    clear d
    clear H1
    rintro _ _ H1 ⟨i, j, d, rfl, hi, hij0, hjb, hS, hpiv, hLo, hHi, rfl, hrow, hK⟩
    have hdl : d.length = n := by rw [hS.len]; exact hn
    have hdD := hD.perm hS.1
    have hCk := hC.keep hK
    have ha0 := hrow.ld (i := a) (by omega)
    rw [hpiv] at ha0
    have hdDa : D (g c pv) := by rw [← hpiv]; exact hdD a (by omega)
    refine L_block ?_
    refine L_blockR (fun e' H' => ∃ (x2 : Nat) (v : AV), i ≤ x2 ∧ x2 ≤ j + 1 ∧ (∀ k, a < k → k < x2 → LOW (g d k)) ∧ (x2 ≤ j → ¬ LOW (g d x2)) ∧ e' = [(0, SV sb r 0 n ver), (1, .int .i64 a), (10, .int .i64 (x2 : Nat)), (11, .int .i64 (j : Nat)), (112, v)] ∧ H1 = H') (L_loopV [10] (fun n' vs H' => ∃ x2 : Nat, n' = j + 1 - x2 ∧ i ≤ x2 ∧ x2 ≤ j + 1 ∧ (∀ k, a < k → k < x2 → LOW (g d k)) ∧ vs = [.int .i64 x2] ∧ H1 = H') _ [.int .i64 i] rfl ⟨i, rfl, by omega, by omega, hLo, rfl, rfl⟩ ?_) ?_
    · rintro n' _ _ ⟨x2, rfl, h1, h2, hR, rfl, rfl⟩
      by_cases hij : x2 ≤ j
      · have hx := hrow.ld (i := x2) (by omega)
        have g1 : x2 < n := by omega
        refine L_regT mixed [0, 1, 10, 11, 112] (by kernel_rfl) (fun K hK => ?_)
        simp [okFn_low, hij, g1, ga, hx, ha0]
        refine exC_mk (fun Q hQ => hCk.2 H1 (.refl _ _) _ _ (hdD x2 (by omega)) hdDa Q hQ) ?_
        simp [pickV]
        apply hK; clear hK K
        have hc := hlow (g d x2)
        by_cases hL : LOW (g d x2)
        · refine L_true (by first | simpa using hc.1 hL | simpa using hc.2 hL) ?_
          refine L_block ?_
          refine L_reg [0, 1, 10, 11] (fun K hK => ?_)
          simp [wrap_i64 (a := (x2 : Int) + 1) (by omega)]
          apply hK; clear hK K
          refine ⟨j + 1 - (x2 + 1), [.int .i64 (x2 + 1 : Nat)], by omega, by simp, x2 + 1, rfl, by omega, by omega, fun k k1 k2 => ?_, rfl, rfl⟩
          by_cases k3 : k = x2
          · rw [k3]; exact hL
          · exact hR k k1 (by omega)
        · refine L_false (by first | simpa using hc.1 hL | simpa using hc.2 hL) (L_exit ?_)
          exact ⟨x2, _, h1, h2, hR, fun _ => hL, rfl, rfl⟩
      · refine L_regT mixed [0, 1, 10, 11, 112] (by kernel_rfl) (fun K hK => ?_)
        simp [pickV, hij]
        apply hK; clear hK K
        refine L_false (by simp) (L_exit ?_)
        exact ⟨x2, _, h1, h2, hR, fun h => absurd h hij, rfl, rfl⟩
    rintro _ _ ⟨i3, vu, h1u, h2u, hRu, hsu, rfl, rfl⟩
    refine L_blockR (fun e' H' => ∃ (x2 : Nat) (v : AV), x2 ≤ j ∧ i3 ≤ x2 + 1 ∧ (∀ k, x2 < k → k < b → ¬ LOW (g d k)) ∧ (i3 ≤ x2 → LOW (g d x2)) ∧ e' = [(0, SV sb r 0 n ver), (1, .int .i64 a), (10, .int .i64 (i3 : Nat)), (11, .int .i64 (x2 : Nat)), (112, vu), (129, v)] ∧ H1 = H') (L_loopV [11] (fun n' vs H' => ∃ x2 : Nat, n' = x2 + 1 - i3 ∧ x2 ≤ j ∧ i3 ≤ x2 + 1 ∧ (∀ k, x2 < k → k < b → ¬ LOW (g d k)) ∧ vs = [.int .i64 x2] ∧ H1 = H') _ [.int .i64 j] rfl ⟨j, rfl, by omega, by omega, hHi, rfl, rfl⟩ ?_) ?_
    · rintro n' _ _ ⟨x2, rfl, h1, h2, hR, rfl, rfl⟩
      by_cases hij : i3 ≤ x2
      · have hx := hrow.ld (i := x2) (by omega)
        have g1 : x2 < n := by omega
        refine L_regT mixed [0, 1, 10, 11, 112, 129] (by kernel_rfl) (fun K hK => ?_)
        simp [okFn_low, hij, g1, ga, hx, ha0]
        refine exC_mk (fun Q hQ => hCk.2 H1 (.refl _ _) _ _ (hdD x2 (by omega)) hdDa Q hQ) ?_
        simp [pickV]
        apply hK; clear hK K
        have hc := hlow (g d x2)
        by_cases hL : LOW (g d x2)
        · refine L_false (by first | simpa using hc.1 hL | simpa using hc.2 hL) (L_exit ?_)
          exact ⟨x2, _, h1, h2, hR, fun _ => hL, rfl, rfl⟩
        · refine L_true (by first | simpa using hc.1 hL | simpa using hc.2 hL) ?_
          refine L_block ?_
          obtain ⟨x3, rfl⟩ : ∃ x3, x2 = x3 + 1 := ⟨x2 - 1, by omega⟩
          refine L_reg [0, 1, 10, 11, 112] (fun K hK => ?_)
          simp [wrap_i64 (a := (x3 : Int)) (by omega)]
          apply hK; clear hK K
          refine ⟨x3 + 1 - i3, [.int .i64 (x3 : Nat)], by omega, by simp, x3, rfl, by omega, by omega, fun k k1 k2 => ?_, rfl, rfl⟩
          by_cases k3 : k = x3 + 1
          · rw [k3]; exact hL
          · exact hR k (by omega) k2
      · refine L_regT mixed [0, 1, 10, 11, 112, 129] (by kernel_rfl) (fun K hK => ?_)
        simp [pickV, hij]
        apply hK; clear hK K
        refine L_false (by simp) (L_exit ?_)
        exact ⟨x2, _, h1, h2, hR, fun h => absurd h hij, rfl, rfl⟩
    rintro _ _ ⟨j3, vd, h1d, h2d, hRd, hsd, rfl, rfl⟩
    refine L_reg [0, 1, 10, 11, 134] (fun K hK => ?_)
    simp
    apply hK; clear hK K
    refine L_dec (j3 < i3) (by simp) (fun hlt => L_exit ?_) (fun hge => ?_)
    · have e : i3 = j3 + 1 := by omega
      obtain ⟨f1, f2, f3⟩ := part_fin (D := κ) hLd (by omega) (show a ≤ j3 by omega) (by omega) hS hpiv (by rw [← e]; exact hRu) hRd
      have hx := hrow.ld (i := j3) (by omega)
      obtain ⟨H4, H5, e1, e2, e3, e5⟩ := hrow.swap (i := j3) (j := a) (by omega) (by omega)
      rw [hpiv] at e1
      have g1 : j3 < n := by omega
      refine L_regT mixed [11] (by kernel_rfl) (fun K hK => ?_)
      simp [g1, ga, hx, ha0, e1, e2]
      apply hK; clear hK K
      refine L_reg [8, 9] (fun K hK => ?_)
      simp
      apply hK; clear hK K
      exact L_ret ⟨.inr rfl, _, rfl, h H5 _ j3 false (by omega) (by omega) f1 f2 f3 e3 (hK.trans e5)⟩
    · have hl1 := hsu (by omega)
      have hl2 := hsd (by omega)
      have hne : i3 ≠ j3 := by rintro rfl; exact hl1 hl2
      obtain ⟨j2, rfl⟩ : ∃ j2, j3 = j2 + 1 := ⟨j3 - 1, by omega⟩
      have hx := hrow.ld (i := i3) (by omega)
      have hy := hrow.ld (i := j2 + 1) (by omega)
      obtain ⟨H2, H3, e1, e2, e3, e4⟩ := hrow.swap (i := i3) (j := j2 + 1) (by omega) (by omega)
      have g1 : i3 < n := by omega
      have g2 : (j2 : Int) + 1 < n := by omega
      have g3 : (0 : Int) ≤ (j2 : Int) + 1 := by omega
      have g4 : ((j2 : Int) + 1).toNat = j2 + 1 := by omega
      refine L_regT mixed [0, 1, 10, 11] (by kernel_rfl) (fun K hK => ?_)
      simp [g1, g2, g3, g4, hx, hy, e1, e2]
      apply hK; clear hK K
      refine L_reg [0, 1, 10, 11] (fun K hK => ?_)
      simp [wrap_i64 (a := (i3 : Int) + 1) (by omega)]
      apply hK; clear hK K
      refine L_reg [0, 1, 10, 11] (fun K hK => ?_)
      simp [wrap_i64 (a := (j2 : Int)) (by omega)]
      apply hK; clear hK K
      have w0 := sw_i (c := d) (i := i3) (j := j2 + 1) (by omega) (by omega)
      have w1 := sw_j (c := d) (i := i3) (j := j2 + 1) (by omega) (by omega)
      have w2 := fun (k : Nat) (k1 : k ≠ i3) (k2 : k ≠ j2 + 1) => sw_o (c := d) (i := i3) (j := j2 + 1) (by omega) (by omega) k1 k2
      refine ⟨j2 + 1 - (i3 + 1), [.int .i64 (i3 + 1 : Nat), .int .i64 j2], by omega, by simp, i3 + 1, j2, _, rfl, by omega, by omega, by omega, hS.trans (.swap (by omega) (by omega) (by omega)), by rw [w2 a (by omega) (by omega)]; exact hpiv, fun k k1 k2 => ?_, fun k k1 k2 => ?_, rfl, e3, hK.trans e4⟩
      · by_cases k3 : k = i3
        · rw [k3, w0]; exact hl2
        · rw [w2 k k3 (by omega)]; exact hRu k k1 (by omega)
      · by_cases k3 : k = j2 + 1
        · rw [k3, w1]; exact hl1
        · rw [w2 k (by omega) k3]; exact hRd k (by omega) k2
end Go.Proofs.Ytmlhekfkniibmaa.Ord

/- Sorting numbers (Heap). -/
namespace Go.Proofs.Ytmlhekfkniibmaa.Ord
open Go Go.Proofs.Ytmlhekfkniibmaa.AX Go.Proofs.Ytmlhekfkniibmaa
variable {sb : Bool}

set_option maxRecDepth 100000 in
theorem siftDown_ac (D : Int → Prop) (κ : Int → Int) (r ver lo hi fi : Nat) (c : List Int) (H : AH) (Q : AV → AH → Prop) (hC : CmpO D κ r H) (hr : Rw r ver H c) (hD : All D c) (hl : c.length ≤ 1000000) (hb : fi + hi ≤ c.length) (hlo : lo ≤ hi) (hH : ∀ i, lo < i → Hp κ fi hi c i)
    (h : ∀ (H' : AH) (m : List Int), Shuf (fi + lo) (fi + hi) c m → (∀ i, lo ≤ i → Hp κ fi hi m i) → Rw r ver H' m → KeepX r H H' → Q (.tuple []) H') : AC Try.prog 89 [SV sb r 0 c.length ver, .int .i64 lo, .int .i64 hi, .int .i64 fi] H Q := by
  refine L_body 76 Try.func89 rfl rfl ?_
  refine L_reg [0, 2, 3, 8] (fun K hK => ?_)
  simp
  apply hK; clear hK K
  generalize hn : c.length = n at *
  refine L_block (L_loopV [8] (fun k vs H' => ∃ (ro : Nat) (d : List Int), k = hi - ro ∧ lo ≤ ro ∧ ro ≤ hi ∧ Shuf (fi + lo) (fi + hi) c d ∧ (∀ i, lo ≤ i → i ≠ ro → Hp κ fi hi d i) ∧ (∀ i, lo ≤ i → ro = 2 * i + 1 ∨ ro = 2 * i + 2 → ∀ q, q = 2 * ro + 1 ∨ q = 2 * ro + 2 → q < hi → κ (g d (fi + q)) ≤ κ (g d (fi + i))) ∧ vs = [.int .i64 ro] ∧ Rw r ver H' d ∧ KeepX r H H') _ [.int .i64 lo] rfl ⟨lo, c, rfl, by omega, by omega, .refl _ _ _, fun i h1 h2 => hH i (by omega), fun i h1 h2 => by omega, rfl, hr, .refl r H⟩ ?_)
  rintro _ _ H1 ⟨ro, d, rfl, hro, hroh, hS, h1, h2, rfl, hrow, hK⟩
  have hdl : d.length = n := by rw [hS.len]; exact hn
  have hdD := hD.perm hS.1
  have hCk := hC.keep hK
  refine L_block ?_
  obtain ⟨ch, hch⟩ : ∃ ch : Nat, 2 * (ro : Int) + 1 = ch := ⟨2 * ro + 1, by omega⟩
  refine L_reg [0, 2, 3, 8, 9] (fun K hK => ?_)
  simp [wrap_i64 (a := 2 * (ro : Int)) (by omega), hch, wrap_i64 (a := (ch : Int)) (by omega)]
  apply hK; clear hK K
  refine L_reg [0, 2, 3, 8, 9, 16] (fun K hK => ?_)
  simp
  apply hK; clear hK K
  refine L_dec (hi ≤ ch) (by simp) (fun hge => L_exit ?_) (fun hlt => ?_)
  · refine ⟨.inl rfl, _, rfl, h H1 d hS (fun i hi1 => ?_) hrow hK⟩
    by_cases e : i = ro
    · subst e; intro c hc hch; omega
    · exact h1 i hi1 e
  obtain ⟨ix, hix⟩ : ∃ ix : Nat, (fi : Int) + ch = ix := ⟨fi + ch, by omega⟩
  have hixn : ix = fi + ch := by omega
  refine L_regT mixed [0, 2, 3, 8, 9, 36] (by kernel_rfl) (fun K hK0 => ?_)
  have hK2 : ∀ t : Bool, (t = true → ch + 1 < hi ∧ κ (g d (fi + ch)) < κ (g d (fi + (ch + 1)))) → (t = false → ch + 1 < hi → κ (g d (fi + (ch + 1))) ≤ κ (g d (fi + ch))) → K [(0, SV sb r 0 n ver), (2, .int .i64 hi), (3, .int .i64 fi), (8, .int .i64 ro), (9, .int .i64 ch), (36, .bool t)] H1 := by
    intro t ht1 ht2
    refine hK0 _ _ ?_
    clear hK0 K
    refine L_condK [0, 2, 3, 8, 9] (fun e' H' => ∃ c2 : Nat, (c2 = ch ∨ c2 = ch + 1) ∧ c2 < hi ∧ (∀ q, q = ch ∨ q = ch + 1 → q < hi → κ (g d (fi + q)) ≤ κ (g d (fi + c2))) ∧ e' = [(0, SV sb r 0 n ver), (2, .int .i64 hi), (3, .int .i64 fi), (8, .int .i64 ro), (9, .int .i64 (c2 : Nat))] ∧ H1 = H') (t := t) rfl (fun ht => ?_) (fun ht => ?_) ?_
    · obtain ⟨g1, g2⟩ := ht1 ht
      refine L_reg [0, 2, 3, 8, 9] (fun K hK => ?_)
      simp [wrap_i64 (a := (ch : Int) + 1) (by omega)]
      apply hK; clear hK K
      refine ⟨ch + 1, .inr rfl, g1, fun q hq1 hq2 => ?_, by simp, rfl⟩
      rcases hq1 with rfl | rfl <;> omega
    · refine ⟨ch, .inl rfl, by omega, fun q hq1 hq2 => ?_, by simp, rfl⟩
      rcases hq1 with rfl | rfl
      · omega
      · exact ht2 ht hq2
    · rintro _ _ ⟨c2, hc2, hc2h, hbig, rfl, rfl⟩
      clear ht1 ht2
      have hc2ro : c2 = 2 * ro + 1 ∨ c2 = 2 * ro + 2 := by omega
      obtain ⟨ia, hia⟩ : ∃ ix : Nat, (fi : Int) + ro = ix := ⟨fi + ro, by omega⟩
      obtain ⟨ib, hib⟩ : ∃ ix : Nat, (fi : Int) + c2 = ix := ⟨fi + c2, by omega⟩
      have hian : ia = fi + ro := by omega
      have hibn : ib = fi + c2 := by omega
      have hx := hrow.ld (i := ia) (by omega)
      have hy := hrow.ld (i := ib) (by omega)
      have ga : ia < n := by omega
      have gb : ib < n := by omega
      refine L_regT mixed [0, 2, 3, 8, 9, 52] (by kernel_rfl) (fun K hK => ?_)
      simp [okFn_low, hia, hib, ga, gb, hx, hy, wrap_i64 (a := (ia : Int)) (by omega), wrap_i64 (a := (ib : Int)) (by omega)]
      refine exC_mk (fun Q hQ => hCk.2 H1 (.refl _ _) _ _ (hdD ia (by omega)) (hdD ib (by omega)) Q hQ) ?_
      simp
      apply hK; clear hK K
      by_cases hless : κ (g d ia) < κ (g d ib)
      · refine L_false (by simpa using cmpS_neg.2 hless) ?_
        obtain ⟨H2, H3, e1, e2, e3, e4⟩ := hrow.swap (i := ia) (j := ib) (by omega) (by omega)
        refine L_regT mixed [0, 2, 3, 9] (by kernel_rfl) (fun K hK => ?_)
        simp [hia, hib, ga, gb, hx, hy, e1, e2, wrap_i64 (a := (ia : Int)) (by omega), wrap_i64 (a := (ib : Int)) (by omega)]
        apply hK; clear hK K
        refine L_reg [0, 2, 3, 8] (fun K hK => ?_)
        simp
        apply hK; clear hK K
        have w0 := sw_i (c := d) (i := ia) (j := ib) (by omega) (by omega)
        have w1 := sw_j (c := d) (i := ia) (j := ib) (by omega) (by omega)
        have w2 := fun (k : Nat) (k1 : k ≠ ia) (k2 : k ≠ ib) => sw_o (c := d) (i := ia) (j := ib) (by omega) (by omega) k1 k2
        subst hian
        subst hibn
        have v0 : g (sw d (fi + ro) (fi + c2)) (fi + ro) = g d (fi + c2) := w0
        have v1 : g (sw d (fi + ro) (fi + c2)) (fi + c2) = g d (fi + ro) := w1
        have v2 : ∀ k, k ≠ ro → k ≠ c2 → g (sw d (fi + ro) (fi + c2)) (fi + k) = g d (fi + k) := fun k k1 k2 => w2 _ (by omega) (by omega)
        refine ⟨hi - c2, [.int .i64 (c2 : Nat)], by omega, by simp, c2, _, rfl, by omega, by omega, hS.trans (.swap (by omega) (by omega) (by omega)), fun i i1 i2 q q1 q2 => ?_, fun i i1 i2 q q1 q2 => ?_, rfl, e3, hK.trans e4⟩
        · by_cases e : i = ro
          · subst e
            rw [v0]
            by_cases q3 : q = c2
            · rw [q3, v1]; omega
            · rw [v2 q (by omega) q3]; exact hbig q (by omega) q2
          · have h3 := h1 i i1 e q q1 q2
            rw [v2 i e i2]
            by_cases q3 : q = ro
            · rw [q3, v0]; exact h2 i i1 (by omega) c2 hc2ro hc2h
            · rw [v2 q q3 (by omega)]; exact h3
        · have : i = ro := by omega
          subst this
          rw [v0, v2 q (by omega) (by omega)]
          exact h1 c2 (by omega) (by omega) q q1 q2
      · have hneg : ¬ cmpS (κ (g d ia)) (κ (g d ib)) < 0 := fun h => hless (cmpS_neg.1 h)
        refine L_true (by simpa using hneg) ?_
        refine L_ret ⟨.inr rfl, _, rfl, h H1 d hS (fun i hi1 => ?_) hrow hK⟩
        by_cases e : i = ro
        · subst e
          intro q q1 q2
          have := hbig q (by omega) q2
          rw [hian, hibn] at hless
          omega
        · exact h1 i hi1 e
  by_cases hc1 : ch + 1 < hi
  · have hx := hrow.ld (i := ix) (by omega)
    have hy := hrow.ld (i := ix + 1) (by omega)
    have g1 : ix < n := by omega
    have g2 : (ix : Int) + 1 < n := by omega
    have g3 : (0 : Int) ≤ (ix : Int) + 1 := by omega
    have g4 : ((ix : Int) + 1).toNat = ix + 1 := by omega
    have g5 : (ch : Int) + 1 < hi := by omega
    simp [okFn_low, hix, g1, g2, g3, g4, g5, hx, hy, wrap_i64 (a := (ch : Int) + 1) (by omega), wrap_i64 (a := (ix : Int)) (by omega), wrap_i64 (a := (ix : Int) + 1) (by omega)]
    refine exC_mk (fun Q hQ => hCk.2 H1 (.refl _ _) _ _ (hdD ix (by omega)) (hdD (ix + 1) (by omega)) Q hQ) ?_
    simp [pickV]
    refine hK2 _ (fun ht => ⟨hc1, ?_⟩) (fun ht _ => ?_)
    · have := cmpS_neg.1 (of_decide_eq_true ht)
      rw [hixn] at this; exact this
    · have : ¬ κ (g d ix) < κ (g d (ix + 1)) := fun h => (of_decide_eq_false ht) (cmpS_neg.2 h)
      rw [hixn] at this
      exact Int.not_lt.1 this
  · have g5 : ¬ (ch : Int) + 1 < hi := by omega
    simp [pickV, g5, wrap_i64 (a := (ch : Int) + 1) (by omega)]
    exact hK2 false (fun h => by cases h) (fun _ h => absurd h hc1)
end Go.Proofs.Ytmlhekfkniibmaa.Ord

/- Sorting numbers (Heap2). -/
namespace Go.Proofs.Ytmlhekfkniibmaa.Ord
open Go Go.Proofs.Ytmlhekfkniibmaa.AX Go.Proofs.Ytmlhekfkniibmaa
variable {sb : Bool}

set_option maxRecDepth 100000 in
theorem heapSort_ac (D : Int → Prop) (κ : Int → Int) (r ver a l : Nat) (c : List Int) (H : AH) (Q : AV → AH → Prop) (hC : CmpO D κ r H) (hr : Rw r ver H c) (hD : All D c) (hl : c.length ≤ 1000000) (hb : a + l ≤ c.length) (hl1 : 1 ≤ l)
    (h : ∀ (H' : AH) (m : List Int), Shuf a (a + l) c m → Srt κ a (a + l) m → Rw r ver H' m → KeepX r H H' → Q (.tuple []) H') : AC Try.prog 81 [SV sb r 0 c.length ver, .int .i64 a, .int .i64 (a + l : Nat)] H Q := by
  refine L_body 56 Try.func81 rfl rfl ?_
  refine L_reg [0, 1, 2, 6] (fun K hK => ?_)
  simp
  apply hK; clear hK K
  refine L_reg [0, 1, 2, 6, 7] (fun K hK => ?_)
  simp
  apply hK; clear hK K
  refine L_reg [0, 6, 7, 8] (fun K hK => ?_)
  simp [show ((a : Int) + l - a) = l by omega, wrap_i64 (a := (l : Int)) (by omega)]
  apply hK; clear hK K
  obtain ⟨l0, rfl⟩ : ∃ l0, l = l0 + 1 := ⟨l - 1, by omega⟩
  generalize hL : l0 + 1 = L at *
  have hdiv : ((l0 : Int)).tdiv 2 = ((l0 / 2 : Nat) : Int) := by rw [Int.tdiv_eq_ediv_of_nonneg (by omega)]; rfl
  obtain ⟨q, hq⟩ : ∃ q, q = l0 / 2 := ⟨_, rfl⟩
  rw [← hq] at hdiv
  have hL1 : (L : Int) - 1 = l0 := by omega
  refine L_reg [0, 6, 7, 8, 9] (fun K hK => ?_)
  simp [hL1, hdiv, wrap_i64 (a := (l0 : Int)) (by omega), wrap_i64 (a := (q : Int)) (by omega)]
  apply hK; clear hK K
  generalize hn : c.length = n at *
  refine L_blockR (fun e' H' => ∃ (d : List Int) (v11 v21 : AV), Shuf a (a + L) c d ∧ (∀ i, Hp κ a L d i) ∧ Rw r ver H' d ∧ KeepX r H H' ∧ e' = [(0, SV sb r 0 n ver), (6, .int .i64 a), (7, .int .i64 0), (8, .int .i64 L), (9, v11), (19, v21)]) (L_loopV [9] (fun k vs H' => ∃ d : List Int, k ≤ q + 1 ∧ Shuf a (a + L) c d ∧ (∀ i, k ≤ i → Hp κ a L d i) ∧ vs = [.int .i64 ((k : Int) - 1)] ∧ Rw r ver H' d ∧ KeepX r H H') (q + 1) [.int .i64 q] rfl ⟨c, by omega, .refl _ _ _, fun i hi q1 q2 q3 => by omega, by simp, hr, .refl r H⟩ ?_) ?_
  · rintro k _ H1 ⟨d, hk, hS, hH, rfl, hrow, hK⟩
    have hdl : d.length = n := by rw [hS.len]; exact hn
    cases k with
    | zero =>
      refine L_reg [0, 6, 7, 8, 9, 19] (fun K hK => ?_)
      simp
      apply hK; clear hK K
      refine L_false (by simp) (L_exit ?_)
      exact ⟨d, _, _, hS, fun i => hH i (by omega), hrow, hK, rfl⟩
    | succ k =>
      have hk1 : (k : Int) + 1 - 1 = k := by omega
      refine L_reg [0, 6, 7, 8, 9, 19] (fun K hK => ?_)
      simp
      apply hK; clear hK K
      refine L_true (by simp) ?_
      refine L_block ?_
      refine L_reg [0, 6, 7, 8, 9] (fun K hK0 => ?_)
      simp [okFn_low]
      have := siftDown_ac (sb := sb) D κ r ver k L a d H1 (fun v H' => K [(0, SV sb r 0 n ver), (6, .int .i64 a), (7, .int .i64 0), (8, .int .i64 L), (9, .int .i64 k)] H') (hC.keep hK) hrow (hD.perm hS.1) (by omega) (by omega) (by omega) (fun i hi => hH i (by omega)) (fun H2 m hS2 hH2 hr2 hK2 => ?_)
      · rw [hdl] at this; exact this
      apply hK0; clear hK0 K
      refine L_reg [0, 6, 7, 8, 9] (fun K hK => ?_)
      simp [wrap_i64 (a := (k : Int) - 1) (by omega)]
      apply hK; clear hK K
      exact ⟨k, [.int .i64 ((k : Int) - 1)], by omega, by simp, m, by omega, hS.trans (hS2.wide (by omega) (by omega)), fun i hi => hH2 i hi, rfl, hr2, hK.trans hK2⟩
  rintro _ H1 ⟨d, v11, v21, hS, hH, hrow, hK, rfl⟩
  refine L_reg [0, 6, 7, 10] (fun K hK => ?_)
  simp [hL1, wrap_i64 (a := (l0 : Int)) (by omega)]
  apply hK; clear hK K
  refine L_block (L_loopV [10] (fun k vs H' => ∃ d : List Int, k ≤ L ∧ Shuf a (a + L) c d ∧ (∀ i, Hp κ a k d i) ∧ (∀ p q, p < q → k ≤ q → q < L → κ (g d (a + p)) ≤ κ (g d (a + q))) ∧ vs = [.int .i64 ((k : Int) - 1)] ∧ Rw r ver H' d ∧ KeepX r H H') L [.int .i64 l0] rfl ⟨d, Nat.le_refl _, hS, hH, fun p q h1 h2 h3 => by omega, by rw [hL1], hrow, hK⟩ ?_)
  clear hS hH hrow hK d H1
  rintro k _ H1 ⟨d, hk, hS, hH, hT, rfl, hrow, hK⟩
  have hdl : d.length = n := by rw [hS.len]; exact hn
  cases k with
  | zero =>
    refine L_reg [0, 6, 7, 10, 30] (fun K hK => ?_)
    simp
    apply hK; clear hK K
    refine L_false (by simp) (L_exit ?_)
    refine ⟨.inl rfl, _, rfl, h H1 d hS (fun p q h1 h2 h3 => ?_) hrow hK⟩
    have := hT (p - a) (q - a) (by omega) (by omega) (by omega)
    rw [show a + (p - a) = p by omega, show a + (q - a) = q by omega] at this
    exact this
  | succ k =>
    have hk1 : (k : Int) + 1 - 1 = k := by omega
    refine L_reg [0, 6, 7, 10, 30] (fun K hK => ?_)
    simp
    apply hK; clear hK K
    refine L_true (by simp) ?_
    refine L_block ?_
    obtain ⟨ib, hib⟩ : ∃ ix : Nat, (a : Int) + k = ix := ⟨a + k, by omega⟩
    have hibn : ib = a + k := by omega
    have hx := hrow.ld (i := a) (by omega)
    have hy := hrow.ld (i := ib) (by omega)
    have ga : a < n := by omega
    have gb : ib < n := by omega
    obtain ⟨H2, H3, e1, e2, e3, e4⟩ := hrow.swap (i := a) (j := ib) (by omega) (by omega)
    refine L_regT mixed [0, 6, 7, 10] (by kernel_rfl) (fun K hK => ?_)
    simp [hib, ga, gb, hx, hy, e1, e2, wrap_i64 (a := (ib : Int)) (by omega)]
    apply hK; clear hK K
    subst hibn
    have w0 := sw_i (c := d) (i := a) (j := a + k) (by omega) (by omega)
    have w1 := sw_j (c := d) (i := a) (j := a + k) (by omega) (by omega)
    have w2 := fun (k' : Nat) (k1 : k' ≠ a) (k2 : k' ≠ a + k) => sw_o (c := d) (i := a) (j := a + k) (by omega) (by omega) k1 k2
    have hmax := heap_max hH
    have hS3 : Shuf a (a + L) c (sw d a (a + k)) := hS.trans (.swap (by omega) (by omega) (by omega))
    have hl3 : (sw d a (a + k)).length = n := by rw [hS3.len]; exact hn
    have hK3 := hK.trans e4
    have hH3 : ∀ i, 0 < i → Hp κ a k (sw d a (a + k)) i := by
      intro i hi q' q1 q2
      rw [w2 _ (by omega) (by omega), w2 _ (by omega) (by omega)]
      exact hH i q' q1 (by omega)
    have hT3 : ∀ p q, p < q → k ≤ q → q < L → κ (g (sw d a (a + k)) (a + p)) ≤ κ (g (sw d a (a + k)) (a + q)) := by
      intro p q' h1 h2 h3
      by_cases e : q' = k
      · subst e
        rw [w1]
        by_cases e0 : p = 0
        · subst e0
          have := hmax q' (by omega)
          rw [Nat.add_zero] at *
          rw [w0]
          exact this
        · rw [w2 _ (by omega) (by omega)]
          exact hmax p (by omega)
      · rw [w2 (a + q') (by omega) (by omega)]
        by_cases e0 : p = 0
        · subst e0
          rw [Nat.add_zero, w0]
          exact hT k q' (by omega) (by omega) h3
        · by_cases e1 : p = k
          · subst e1
            rw [w1]
            exact hT 0 q' (by omega) (by omega) h3
          · rw [w2 (a + p) (by omega) (by omega)]
            exact hT p q' h1 (by omega) h3
    refine L_reg [0, 6, 7, 10] (fun K hK0 => ?_)
    simp [okFn_low]
    have := siftDown_ac (sb := sb) D κ r ver 0 k a (sw d a (a + k)) H3 (fun v H' => K [(0, SV sb r 0 n ver), (6, .int .i64 a), (7, .int .i64 0), (10, .int .i64 k)] H') (hC.keep hK3) e3 (hD.perm hS3.1) (by omega) (by omega) (by omega) hH3 (fun H4 m hS4 hH4 hr4 hK4 => ?_)
    · rw [hl3] at this; exact this
    apply hK0; clear hK0 K
    refine L_reg [0, 6, 7, 10] (fun K hK => ?_)
    simp [wrap_i64 (a := (k : Int) - 1) (by omega)]
    apply hK; clear hK K
    refine ⟨k, [.int .i64 ((k : Int) - 1)], by omega, by simp, m, by omega, hS3.trans (hS4.wide (by omega) (by omega)), fun i => hH4 i (by omega), fun p q' h1 h2 h3 => ?_, rfl, hr4, hK3.trans hK4⟩
    rw [hS4.2 (a + q') (by omega)]
    by_cases hp : p < k
    · have := hS4.all (by omega) (p := fun x => κ x ≤ κ (g (sw d a (a + k)) (a + q'))) (fun k' h4 h5 => by
        have := hT3 (k' - a) q' (by omega) h2 h3
        rw [show a + (k' - a) = k' by omega] at this
        exact this) (a + p) (by omega) (by omega)
      exact this
    · rw [hS4.2 (a + p) (by omega)]
      exact hT3 p q' h1 h2 h3
end Go.Proofs.Ytmlhekfkniibmaa.Ord

/- Sorting numbers (Brk). -/
namespace Go.Proofs.Ytmlhekfkniibmaa.Ord
open Go Go.Proofs.Ytmlhekfkniibmaa.AX Go.Proofs.Ytmlhekfkniibmaa
variable {sb : Bool}

set_option maxRecDepth 100000 in
theorem break_ac (r ver a l : Nat) (c : List Int) (H : AH) (Q : AV → AH → Prop) (hr : Rw r ver H c) (hrl : r < H.length) (hlen : c.length ≤ 127) (hl : 12 < l) (hb : a + l ≤ c.length)
    (h : ∀ (H' : AH) (m : List Int), Shuf a (a + l) c m → Rw r ver H' m → KeepX r H H' → Q (.tuple []) H') : AC Try.prog 82 [SV sb r 0 c.length ver, .int .i64 a, .int .i64 (a + l : Nat)] H Q := by
  refine L_body 65 Try.func82 rfl rfl ?_
  have hq : ((l : Int)).tdiv 4 = ((l / 4 : Nat) : Int) := by rw [Int.tdiv_eq_ediv_of_nonneg (by omega)]; rfl
  obtain ⟨q, hq0⟩ : ∃ q, q = l / 4 := ⟨_, rfl⟩
  rw [← hq0] at hq
  obtain ⟨j0, hj0⟩ : ∃ i : Nat, (a : Int) + (q : Int) * 2 = i := ⟨a + q * 2, by omega⟩
  obtain ⟨i0, hi0⟩ : ∃ i : Nat, (j0 : Int) - 1 = i := ⟨j0 - 1, by omega⟩
  generalize hn : c.length = n at *
  refine L_reg [0, 1, 6] (fun K hK => ?_)
  simp [show ((a : Int) + l - a) = l by omega, wrap_i64 (a := (l : Int)) (by omega)]
  apply hK; clear hK K
  refine L_reg [0, 1, 6, 15] (fun K hK => ?_)
  simp
  apply hK; clear hK K
  refine L_true (by simp; omega) ?_
  have hsv : ∀ x : Int, storeV Try.prog 86 (H ++ [AObj.row [.int .u64 0] 0 0 false]) (.ptr H.length 0 0) (.int .u64 x) = some (none, H ++ [.row [.int .u64 x] 0 0 false]) := fun x => store_last sc86 (y := .int .u64 0) rfl rfl
  refine L_reg [0, 1, 6, 7] (fun K hK => ?_)
  simp [cvC l (by omega), alloc_z zt86, hsv]
  apply hK; clear hK K
  have hK1 : KeepX r H (H ++ [AObj.row [.int .u64 l] 0 0 false]) := (KeepX.refl r H).ext (.push _ _)
  have hr1 := hr.ext (.push H [AObj.row [.int .u64 l] 0 0 false])
  have hx1 : (H ++ [AObj.row [.int .u64 l] 0 0 false])[H.length]? = some (.row [.int .u64 l] 0 0 false) := by simp
  generalize H ++ [AObj.row [.int .u64 l] 0 0 false] = H1 at hK1 hr1 hx1 ⊢
  generalize hp : H.length = p at *
  have hpl := pow_len (n := l) (by omega) (by omega)
  refine L_reg [0, 1, 6, 7, 8] (fun K hK => ?_)
  simp [okFn_low]
  refine nextPow_ac l H1 _ (by omega) (by omega) ?_
  generalize 2 ^ lenN l = md at hpl ⊢
  simp
  apply hK; clear hK K
  refine L_reg [0, 1, 6, 7, 8, 9] (fun K hK => ?_)
  simp [hq, wrap_i64 (a := (q : Int)) (by omega), wrap_i64 (a := (q : Int) * 2) (by omega), hj0, wrap_i64 (a := (j0 : Int)) (by omega), hi0, wrap_i64 (a := (i0 : Int)) (by omega)]
  apply hK; clear hK K
  refine L_block (L_loopV [9] (fun k vs H' => ∃ (i : Nat) (d : List Int) (x : Int) (s : Nat), k = j0 + 2 - i ∧ i0 ≤ i ∧ i ≤ j0 + 2 ∧ Shuf a (a + l) c d ∧ vs = [.int .i64 i] ∧ Rw r ver H' d ∧ KeepX r H H' ∧ H'[p]? = some (.row [.int .u64 x] 0 s false)) _ [.int .i64 i0] rfl ⟨i0, c, l, 0, rfl, by omega, by omega, .refl _ _ _, rfl, hr1, hK1, hx1⟩ ?_)
  clear hr1 hK1 hx1 H1
  rintro k _ H1 ⟨i, d, x, s, rfl, hi1, hi2, hS, rfl, hrow, hK, hx⟩
  have hdl : d.length = n := by rw [hS.len]; exact hn
  refine L_reg [0, 1, 6, 7, 8, 9, 33] (fun K hK => ?_)
  simp [hq, wrap_i64 (a := (q : Int)) (by omega), wrap_i64 (a := (q : Int) * 2) (by omega), hj0, wrap_i64 (a := (j0 : Int)) (by omega), wrap_i64 (a := (j0 : Int) + 1) (by omega)]
  apply hK; clear hK K
  refine L_dec ((i : Int) ≤ j0 + 1) (by simp) (fun hlt => ?_) (fun hge => L_exit ?_)
  · refine L_block ?_
    refine L_reg [0, 1, 6, 7, 8, 9, 10] (fun K hK0 => ?_)
    simp [okFn_low]
    refine next_ac p s x H1 _ hx (fun y H2 hy hK2 => ?_)
    have hmd : IntKind.u64.wrap ((md : Int) - 1) = ((md - 1 : Nat) : Int) := by rw [wrap_u64 (by omega)]; omega
    obtain ⟨m1, hm1⟩ : ∃ m1 : Nat, md - 1 = m1 := ⟨_, rfl⟩
    rw [hm1] at hmd
    obtain ⟨z, hz, hand⟩ := and_low (P := Try.prog) (t := 50) (l := (litOp (.tmp 36) || litOp (.tmp 38))) y m1 (by omega)
    simp [hmd, hand, cvB z (by omega)]
    apply hK0; clear hK0 K
    have hrow2 : Rw r ver H2 d := by
      obtain ⟨s', tl', h'⟩ := hrow
      exact ⟨s', tl', hK2.row (by omega) h'⟩
    have hK12 : KeepX r H H2 := ⟨Nat.le_trans hK.1 hK2.1, fun j j1 j2 => by rw [hK2.2 j (by omega) (by have := hK.1; omega), hK.2 j j1 j2]⟩
    refine L_reg [0, 1, 6, 7, 8, 9, 10, 43] (fun K hK => ?_)
    simp
    apply hK; clear hK K
    refine L_condK [0, 1, 6, 7, 8, 9, 10] (fun e' H' => ∃ o : Nat, o < l ∧ e' = [(0, SV sb r 0 n ver), (1, .int .i64 a), (6, .int .i64 l), (7, .ptr p 0 0), (8, .int .u64 md), (9, .int .i64 i), (10, .int .i64 (o : Nat))] ∧ H2 = H') (t := decide (l ≤ z)) (by simp) (fun ht => ?_) (fun ht => ?_) ?_
    · have hle : l ≤ z := of_decide_eq_true ht
      obtain ⟨o, ho⟩ : ∃ o : Nat, (z : Int) - l = o := ⟨z - l, by omega⟩
      refine L_reg [0, 1, 6, 7, 8, 9, 10] (fun K hK => ?_)
      simp [ho, wrap_i64 (a := (o : Int)) (by omega)]
      apply hK; clear hK K
      exact ⟨o, by omega, by simp, rfl⟩
    · exact ⟨z, by have := of_decide_eq_false ht; omega, by simp, rfl⟩
    rintro _ _ ⟨o, hol, rfl, rfl⟩
    obtain ⟨ib, hib⟩ : ∃ ix : Nat, (a : Int) + o = ix := ⟨a + o, by omega⟩
    have h1 := hrow2.ld (i := i) (by omega)
    have h2 := hrow2.ld (i := ib) (by omega)
    have ga : i < n := by omega
    have gb : ib < n := by omega
    obtain ⟨H3, H4, e1, e2, e3, e4⟩ := hrow2.swap (i := i) (j := ib) (by omega) (by omega)
    refine L_regT mixed [0, 1, 6, 7, 8, 9] (by kernel_rfl) (fun K hK => ?_)
    simp [hib, ga, gb, h1, h2, e1, e2, wrap_i64 (a := (ib : Int)) (by omega)]
    apply hK; clear hK K
    refine L_reg [0, 1, 6, 7, 8, 9] (fun K hK => ?_)
    simp [wrap_i64 (a := (i : Int) + 1) (by omega)]
    apply hK; clear hK K
    exact ⟨j0 + 2 - (i + 1), [.int .i64 (i + 1 : Nat)], by omega, by simp, i + 1, _, y, 0, rfl, by omega, by omega, hS.trans (.swap (by omega) (by omega) (by omega)), rfl, e3, hK12.trans e4, e4.row (by omega) hy⟩
  · exact ⟨.inl rfl, _, rfl, h H1 d hS hrow hK⟩
end Go.Proofs.Ytmlhekfkniibmaa.Ord

/- Sorting numbers (Pins). -/
namespace Go.Proofs.Ytmlhekfkniibmaa.Ord
open Go Go.Proofs.Ytmlhekfkniibmaa.AX Go.Proofs.Ytmlhekfkniibmaa
variable {sb : Bool}

set_option maxRecDepth 100000 in
theorem partial_ac (D : Int → Prop) (κ : Int → Int) (r ver a b : Nat) (c : List Int) (H : AH) (Q : AV → AH → Prop) (hC : CmpO D κ r H) (hr : Rw r ver H c) (hD : All D c) (hl : c.length ≤ 1000000) (hab : a < b) (hb : b ≤ c.length) (hpre : 0 < a → ∀ k, a ≤ k → k < b → κ (g c (a - 1)) ≤ κ (g c k))
    (h : ∀ (H' : AH) (m : List Int) (t : Bool), Shuf a b c m → (t = true → Srt κ a b m) → Rw r ver H' m → KeepX r H H' → Q (.bool t) H') : AC Try.prog 85 [SV sb r 0 c.length ver, .int .i64 a, .int .i64 b] H Q := by
  refine L_body 133 Try.func85 rfl rfl ?_
  generalize hn : c.length = n at *
  refine L_reg [0, 1, 2] (fun K hK => ?_)
  simp
  apply hK; clear hK K
  refine L_reg [0, 1, 2, 7] (fun K hK => ?_)
  simp [wrap_i64 (a := (a : Int) + 1) (by omega)]
  apply hK; clear hK K
  refine L_reg [0, 1, 2, 7, 8] (fun K hK => ?_)
  simp
  apply hK; clear hK K
  refine L_block (L_loopV [7, 8] (fun k vs H' => ∃ (i jj : Nat) (d : List Int), k = 5 - jj ∧ jj ≤ 5 ∧ a ≤ i ∧ i + 1 ≤ b ∧ Shuf a b c d ∧ Srt κ a (i + 1) d ∧ vs = [.int .i64 ((i : Int) + 1), .int .i64 jj] ∧ Rw r ver H' d ∧ KeepX r H H') _ [.int .i64 ((a : Int) + 1), .int .i64 (0 : Nat)] rfl ⟨a, 0, c, rfl, by omega, by omega, by omega, .refl _ _ _, fun p q h1 h2 h3 => by omega, rfl, hr, .refl r H⟩ ?_)
  rintro k _ H1 ⟨i, jj, d, rfl, hjj, hai, hib, hS, hso, rfl, hrow, hK⟩
  refine L_reg [0, 1, 2, 7, 8, 14] (fun K hK => ?_)
  simp
  apply hK; clear hK K
  refine L_dec ((jj : Int) < 5) (by simp) (fun hlt => ?_) (fun hge => L_exit ?_)
  · refine L_block ?_
    have hjl : jj < 5 := by omega
    have hdl : d.length = n := by rw [hS.len]; exact hn
    have hdD := hD.perm hS.1
    have hCk := hC.keep hK
    refine L_blockR (fun e' H' => ∃ (i2 : Nat) (v16 v : AV), i ≤ i2 ∧ i2 + 1 ≤ b ∧ Srt κ a (i2 + 1) d ∧ (i2 + 1 < b → κ (g d (i2 + 1)) < κ (g d i2)) ∧ e' = [(0, SV sb r 0 n ver), (1, .int .i64 a), (2, .int .i64 b), (7, .int .i64 ((i2 : Int) + 1)), (8, .int .i64 (jj : Nat)), (14, v16), (32, v)] ∧ H1 = H') (L_loopV [7] (fun k vs H' => ∃ i2 : Nat, k = b - i2 ∧ i ≤ i2 ∧ i2 + 1 ≤ b ∧ Srt κ a (i2 + 1) d ∧ vs = [.int .i64 ((i2 : Int) + 1)] ∧ H1 = H') _ [.int .i64 ((i : Int) + 1)] rfl ⟨i, rfl, by omega, by omega, hso, rfl, rfl⟩ ?_) ?_
    · rintro k _ _ ⟨i2, rfl, h1, h2, h3, rfl, rfl⟩
      by_cases hc : i2 + 1 < b
      · have hcq : (i2 : Int) + 1 < b := by omega
        have hx := hrow.ld (i := i2 + 1) (by omega)
        have hy := hrow.ld (i := i2) (by omega)
        have hw : IntKind.i64.wrap (i2 : Int) = (i2 : Int) := wrap_i64 (by omega)
        have t1 : ((i2 : Int) + 1).toNat = i2 + 1 := by omega
        have t2 : (0 : Int) ≤ (i2 : Int) + 1 := by omega
        have t3 : (i2 : Int) + 1 < (n : Int) := by omega
        have t4 : i2 < n := by omega
        refine L_regT mixed [0, 1, 2, 7, 8, 14, 32] (by kernel_rfl) (fun K hK => ?_)
        simp [okFn_low, hw, t1, t2, t3, t4, hx, hy, hcq]
        refine exC_mk (fun Q hQ => hCk.2 H1 (.refl _ _) _ _ (hdD (i2 + 1) (by omega)) (hdD i2 (by omega)) Q hQ) ?_
        simp [pickV]
        apply hK; clear hK K
        by_cases hless : κ (g d (i2 + 1)) < κ (g d i2)
        · have := cmpS_neg.2 hless
          refine L_false (by simpa using this) (L_exit ?_)
          exact ⟨i2, _, _, h1, h2, h3, fun _ => hless, rfl, rfl⟩
        · have : ¬ cmpS (κ (g d (i2 + 1))) (κ (g d i2)) < 0 := fun h => hless (cmpS_neg.1 h)
          refine L_true (by simpa using this) ?_
          refine L_block ?_
          refine L_reg [0, 1, 2, 7, 8, 14] (fun K hK => ?_)
          simp [wrap_i64 (a := (i2 : Int) + 1 + 1) (by omega)]
          apply hK; clear hK K
          exact ⟨b - (i2 + 1), [.int .i64 (((i2 + 1 : Nat) : Int) + 1)], by omega, by simp, i2 + 1, rfl, by omega, by omega, h3.more (by omega) (by omega), rfl, rfl⟩
      · have hcq : ¬ (i2 : Int) + 1 < b := by omega
        refine L_regT mixed [0, 1, 2, 7, 8, 14, 32] (by kernel_rfl) (fun K hK => ?_)
        simp [pickV, hcq]
        apply hK; clear hK K
        refine L_false (by simp) (L_exit ?_)
        exact ⟨i2, _, _, h1, h2, h3, fun h => absurd h hc, rfl, rfl⟩
    rintro _ _ ⟨i2, v16, v36, hi2, hi2b, hso2, hstop, rfl, rfl⟩
    clear hso
    refine L_reg [0, 1, 2, 7, 8, 37] (fun K hK => ?_)
    simp
    apply hK; clear hK K
    refine L_split rfl (fun heq => ?_) (fun hne => ?_)
    · have : i2 + 1 = b := by have := eq_of_beq heq; omega
      refine L_reg [6] (fun K hK => ?_)
      simp
      apply hK; clear hK K
      subst this
      exact L_ret ⟨.inr rfl, _, rfl, h H1 d true hS (fun _ => hso2) hrow hK⟩
    have hib2 : i2 + 1 < b := by
      have : ¬ (i2 : Int) + 1 = b := by simpa using hne
      omega
    refine L_reg [0, 1, 2, 7, 8, 41] (fun K hK => ?_)
    simp [wrap_i64 (a := (b : Int) - a) (by omega)]
    apply hK; clear hK K
    refine L_dec ((b : Int) - a < 50) (by simp) (fun h50 => ?_) (fun h50 => ?_)
    · refine L_reg [6] (fun K hK => ?_)
      simp
      apply hK; clear hK K
      exact L_ret ⟨.inr rfl, _, rfl, h H1 d false hS (fun h => by cases h) hrow hK⟩
    have hx := hrow.ld (i := i2 + 1) (by omega)
    have hy := hrow.ld (i := i2) (by omega)
    have hw : IntKind.i64.wrap (i2 : Int) = (i2 : Int) := wrap_i64 (by omega)
    have t1 : ((i2 : Int) + 1).toNat = i2 + 1 := by omega
    have t2 : (0 : Int) ≤ (i2 : Int) + 1 := by omega
    have t3 : (i2 : Int) + 1 < (n : Int) := by omega
    have t4 : i2 < n := by omega
    obtain ⟨H2, H3, e1, e2, e3, e4⟩ := hrow.swap (i := i2 + 1) (j := i2) (by omega) (by omega)
    refine L_regT mixed [0, 1, 2, 7, 8] (by kernel_rfl) (fun K hK => ?_)
    simp [hw, t1, t2, t3, t4, hx, hy, e1, e2]
    apply hK; clear hK K
    have w0 := sw_i (c := d) (i := i2 + 1) (j := i2) (by omega) (by omega)
    have w1 := sw_j (c := d) (i := i2 + 1) (j := i2) (by omega) (by omega)
    have w2 := fun (k : Nat) (k1 : k ≠ i2 + 1) (k2 : k ≠ i2) => sw_o (c := d) (i := i2 + 1) (j := i2) (by omega) (by omega) k1 k2
    have hS3 : Shuf a b c (sw d (i2 + 1) i2) := hS.trans (.swap (by omega) (by omega) (by omega))
    have hole : ∀ p q, a ≤ p → p < q → q ≤ i2 → q ≠ i2 → κ (g (sw d (i2 + 1) i2) p) ≤ κ (g (sw d (i2 + 1) i2) q) := by
      intro p q h1 h2 h3 h4
      rw [w2 p (by omega) (by omega), w2 q (by omega) (by omega)]
      exact hso2 p q h1 h2 (by omega)
    have hK3 := hK.trans e4
    generalize sw d (i2 + 1) i2 = d3 at e3 hS3 hole
    clear w0 w1 w2 e1 e2 hx hy hw t1 t2 t3 t4 hrow hK hdD hCk hdl hS hstop hso2 e4
    clear hlt hne h50
    clear H2
    have hrow := e3
    have hS := hS3
    have hK := hK3
    clear e3 hS3 hK3
    refine L_reg [0, 1, 2, 7, 8, 61] (fun K hK => ?_)
    simp [wrap_i64 (a := (i2 : Int) + 1 - a) (by omega)]
    apply hK; clear hK K
    refine L_condK [0, 1, 2, 7, 8] (fun e' H' => ∃ d : List Int, Shuf a b c d ∧ Srt κ a (i2 + 1) d ∧ Rw r ver H' d ∧ KeepX r H H' ∧ e' = [(0, SV sb r 0 n ver), (1, .int .i64 a), (2, .int .i64 b), (7, .int .i64 ((i2 : Int) + 1)), (8, .int .i64 (jj : Nat))]) (t := decide ((2 : Int) ≤ (i2 : Int) + 1 - a)) (by simp) (fun ht => ?_) (fun ht => ?_) ?_
    · have h2 : (2 : Int) ≤ (i2 : Int) + 1 - a := of_decide_eq_true ht
      refine L_reg [0, 1, 2, 7, 8, 9] (fun K hK => ?_)
      simp [wrap_i64 (a := (i2 : Int)) (by omega)]
      apply hK; clear hK K
      refine L_block (L_loopV [9] (fun k vs H' => ∃ (j : Nat) (d : List Int), k = j ∧ a ≤ j ∧ j ≤ i2 ∧ Shuf a b c d ∧ (∀ p q, a ≤ p → p < q → q ≤ i2 → q ≠ j → κ (g d p) ≤ κ (g d q)) ∧ vs = [.int .i64 j] ∧ Rw r ver H' d ∧ KeepX r H H') _ [.int .i64 i2] rfl ⟨i2, d3, rfl, by omega, by omega, hS, hole, rfl, hrow, hK⟩ ?_)
      clear hS hole hrow hK
      clear d3 H3 d H1
      rintro k _ H1 ⟨j, d, rfl, haj, hji, hS, ho, rfl, hrow, hK⟩
      have hdl : d.length = n := by rw [hS.len]; exact hn
      have hdD := hD.perm hS.1
      have hCk := hC.keep hK
      cases k with
      | zero =>
        refine L_reg [0, 1, 2, 7, 8, 9, 65] (fun K hK => ?_)
        simp
        apply hK; clear hK K
        refine L_false (by simp) (L_exit ?_)
        exact ⟨d, hS, fun p q h1 h2 h3 => ho p q h1 h2 (by omega) (by omega), hrow, hK, rfl⟩
      | succ j =>
        refine L_reg [0, 1, 2, 7, 8, 9, 65] (fun K hK => ?_)
        simp
        apply hK; clear hK K
        refine L_true (by simp; omega) ?_
        refine L_block ?_
        have hx := hrow.ld (i := j + 1) (by omega)
        have hy := hrow.ld (i := j) (by omega)
        have hw : IntKind.i64.wrap (j : Int) = (j : Int) := wrap_i64 (by omega)
        have t1 : ((j : Int) + 1).toNat = j + 1 := by omega
        have t2 : (0 : Int) ≤ (j : Int) + 1 := by omega
        have t3 : (j : Int) + 1 < (n : Int) := by omega
        have t4 : j < n := by omega
        refine L_regT mixed [0, 1, 2, 7, 8, 9, 78] (by kernel_rfl) (fun K hK => ?_)
        simp [okFn_low, hw, t1, t2, t3, t4, hx, hy]
        refine exC_mk (fun Q hQ => hCk.2 H1 (.refl _ _) _ _ (hdD (j + 1) (by omega)) (hdD j (by omega)) Q hQ) ?_
        simp
        apply hK; clear hK K
        by_cases hless : κ (g d (j + 1)) < κ (g d j)
        · have := cmpS_neg.2 hless
          refine L_false (by simpa using this) ?_
          have haj2 : a ≤ j := by
            by_cases e : a ≤ j
            · exact e
            · have ea : a = j + 1 := by omega
              exfalso
              have h5 := hS.all (by omega) (p := fun x => κ (g c (a - 1)) ≤ κ x) (fun k h6 h7 => hpre (by omega) k h6 h7) (j + 1) (by omega) (by omega)
              rw [← hS.2 (a - 1) (by omega), show a - 1 = j by omega] at h5
              have h5 : κ (g d j) ≤ κ (g d (j + 1)) := h5
              omega
          obtain ⟨H2, H3, e1, e2, e3, e4⟩ := hrow.swap (i := j + 1) (j := j) (by omega) (by omega)
          refine L_regT mixed [0, 1, 2, 7, 8, 9] (by kernel_rfl) (fun K hK => ?_)
          simp [hw, t1, t2, t3, t4, hx, hy, e1, e2]
          apply hK; clear hK K
          refine L_reg [0, 1, 2, 7, 8, 9] (fun K hK => ?_)
          simp [hw]
          apply hK; clear hK K
          refine ⟨j, [.int .i64 (j : Nat)], by omega, by simp, j, _, rfl, by omega, by omega, hS.trans (.swap (by omega) (by omega) (by omega)), fun p q h1 h2 h3 h4 => ?_, rfl, e3, hK.trans e4⟩
          have w0 := sw_i (c := d) (i := j + 1) (j := j) (by omega) (by omega)
          have w1 := sw_j (c := d) (i := j + 1) (j := j) (by omega) (by omega)
          have w2 := fun (k : Nat) (k1 : k ≠ j + 1) (k2 : k ≠ j) => sw_o (c := d) (i := j + 1) (j := j) (by omega) (by omega) k1 k2
          by_cases q1 : q = j + 1
          · subst q1
            by_cases p1 : p = j
            · subst p1; rw [w0, w1]; omega
            · rw [w0, w2 p (by omega) p1]
              exact ho p j h1 (by omega) (by omega) (by omega)
          · rw [w2 q q1 h4]
            by_cases p1 : p = j
            · subst p1; rw [w1]
              exact ho (p + 1) q (by omega) (by omega) h3 (by omega)
            · by_cases p2 : p = j + 1
              · subst p2; rw [w0]
                exact ho j q (by omega) (by omega) h3 (by omega)
              · rw [w2 p p2 p1]
                exact ho p q h1 h2 h3 (by omega)
        · have : ¬ cmpS (κ (g d (j + 1))) (κ (g d j)) < 0 := fun h => hless (cmpS_neg.1 h)
          refine L_true (by simpa using this) (L_exit ?_)
          refine ⟨d, hS, fun p q h1 h2 h3 => ?_, hrow, hK, rfl⟩
          by_cases q1 : q = j + 1
          · subst q1
            by_cases p1 : p = j
            · subst p1; omega
            · have := ho p j h1 (by omega) (by omega) (by omega)
              omega
          · exact ho p q h1 h2 (by omega) q1
    · have h2 : ¬ (2 : Int) ≤ (i2 : Int) + 1 - a := of_decide_eq_false ht
      exact ⟨d3, hS, fun p q h1 h2 h3 => by omega, hrow, hK, by simp⟩
    clear hS hole hrow hK
    clear d3 H3 d H1
    rintro _ H1 ⟨d, hS, hso, hrow, hK, rfl⟩
    refine L_reg [0, 1, 2, 7, 8, 98] (fun K hK => ?_)
    simp [wrap_i64 (a := (b : Int) - ((i2 : Int) + 1)) (by omega)]
    apply hK; clear hK K
    refine L_dec ((2 : Int) ≤ (b : Int) - ((i2 : Int) + 1)) (by simp) (fun h2 => ?_) (fun h2 => ?_)
    · refine L_reg [0, 1, 2, 7, 8, 10] (fun K hK => ?_)
      simp [wrap_i64 (a := (i2 : Int) + 1 + 1) (by omega)]
      apply hK; clear hK K
      refine L_blockR (fun e' H' => ∃ (d : List Int) (v12 v x : AV), Shuf a b c d ∧ Srt κ a (i2 + 1) d ∧ Rw r ver H' d ∧ KeepX r H H' ∧ (e' = [(0, SV sb r 0 n ver), (1, .int .i64 a), (2, .int .i64 b), (7, .int .i64 ((i2 : Int) + 1)), (8, .int .i64 (jj : Nat)), (10, v12), (103, v)] ∨ e' = [(0, SV sb r 0 n ver), (1, .int .i64 a), (2, .int .i64 b), (7, .int .i64 ((i2 : Int) + 1)), (8, .int .i64 (jj : Nat)), (10, v12), (116, v)])) (L_loopV [10] (fun k vs H' => ∃ (j : Nat) (d : List Int), k = b - j ∧ i2 + 1 ≤ j ∧ j + 1 ≤ b ∧ Shuf a b c d ∧ Srt κ a (i2 + 1) d ∧ vs = [.int .i64 ((j : Int) + 1)] ∧ Rw r ver H' d ∧ KeepX r H H') _ [.int .i64 ((i2 : Int) + 1 + 1)] rfl ⟨i2 + 1, d, rfl, by omega, by omega, hS, hso, rfl, hrow, hK⟩ ?_) ?_
      · clear hS hso hrow hK
        clear d H1
        rintro k _ H1 ⟨j, d, rfl, h1, h2, hS, hso, rfl, hrow, hK⟩
        have hdl : d.length = n := by rw [hS.len]; exact hn
        have hdD := hD.perm hS.1
        have hCk := hC.keep hK
        refine L_reg [0, 1, 2, 7, 8, 10, 103] (fun K hK => ?_)
        simp
        apply hK; clear hK K
        refine L_dec ((j : Int) + 1 < b) (by simp) (fun hlt => ?_) (fun hge => L_exit ?_)
        · refine L_block ?_
          have hx := hrow.ld (i := j + 1) (by omega)
          have hy := hrow.ld (i := j) (by omega)
          have hw : IntKind.i64.wrap (j : Int) = (j : Int) := wrap_i64 (by omega)
          have t1 : ((j : Int) + 1).toNat = j + 1 := by omega
          have t2 : (0 : Int) ≤ (j : Int) + 1 := by omega
          have t3 : (j : Int) + 1 < (n : Int) := by omega
          have t4 : j < n := by omega
          refine L_regT mixed [0, 1, 2, 7, 8, 10, 116] (by kernel_rfl) (fun K hK => ?_)
          simp [okFn_low, hw, t1, t2, t3, t4, hx, hy]
          refine exC_mk (fun Q hQ => hCk.2 H1 (.refl _ _) _ _ (hdD (j + 1) (by omega)) (hdD j (by omega)) Q hQ) ?_
          simp
          apply hK; clear hK K
          by_cases hless : κ (g d (j + 1)) < κ (g d j)
          · have := cmpS_neg.2 hless
            refine L_false (by simpa using this) ?_
            obtain ⟨H2, H3, e1, e2, e3, e4⟩ := hrow.swap (i := j + 1) (j := j) (by omega) (by omega)
            refine L_regT mixed [0, 1, 2, 7, 8, 10] (by kernel_rfl) (fun K hK => ?_)
            simp [hw, t1, t2, t3, t4, hx, hy, e1, e2]
            apply hK; clear hK K
            refine L_reg [0, 1, 2, 7, 8, 10] (fun K hK => ?_)
            simp [wrap_i64 (a := (j : Int) + 1 + 1) (by omega)]
            apply hK; clear hK K
            refine ⟨b - (j + 1), [.int .i64 (((j + 1 : Nat) : Int) + 1)], by omega, by simp, j + 1, _, rfl, by omega, by omega, hS.trans (.swap (by omega) (by omega) (by omega)), fun p q h1 h2 h3 => ?_, rfl, e3, hK.trans e4⟩
            have w2 := fun (k : Nat) (k1 : k ≠ j + 1) (k2 : k ≠ j) => sw_o (c := d) (i := j + 1) (j := j) (by omega) (by omega) k1 k2
            rw [w2 p (by omega) (by omega), w2 q (by omega) (by omega)]
            exact hso p q h1 h2 h3
          · have : ¬ cmpS (κ (g d (j + 1))) (κ (g d j)) < 0 := fun h => hless (cmpS_neg.1 h)
            refine L_true (by simpa using this) (L_exit ?_)
            exact ⟨d, _, _, .undef, hS, hso, hrow, hK, .inr rfl⟩
        · exact ⟨d, _, _, .undef, hS, hso, hrow, hK, .inl rfl⟩
      clear hS hso hrow hK
      clear d H1
      rintro _ H1 ⟨d, v12, v, -, hS, hso, hrow, hK, rfl | rfl⟩
      · refine L_reg [0, 1, 2, 7, 8] (fun K hK => ?_)
        simp [wrap_i64 (a := (jj : Int) + 1) (by omega)]
        apply hK; clear hK K
        exact ⟨5 - (jj + 1), [.int .i64 ((i2 : Int) + 1), .int .i64 (jj + 1 : Nat)], by omega, by simp, i2, jj + 1, d, rfl, by omega, by omega, by omega, hS, hso, rfl, hrow, hK⟩
      · refine L_reg [0, 1, 2, 7, 8] (fun K hK => ?_)
        simp [wrap_i64 (a := (jj : Int) + 1) (by omega)]
        apply hK; clear hK K
        exact ⟨5 - (jj + 1), [.int .i64 ((i2 : Int) + 1), .int .i64 (jj + 1 : Nat)], by omega, by simp, i2, jj + 1, d, rfl, by omega, by omega, by omega, hS, hso, rfl, hrow, hK⟩
    · refine L_reg [0, 1, 2, 7, 8] (fun K hK => ?_)
      simp [wrap_i64 (a := (jj : Int) + 1) (by omega)]
      apply hK; clear hK K
      exact ⟨5 - (jj + 1), [.int .i64 ((i2 : Int) + 1), .int .i64 (jj + 1 : Nat)], by omega, by simp, i2, jj + 1, d, rfl, by omega, by omega, by omega, hS, hso, rfl, hrow, hK⟩
  · refine L_reg [6] (fun K hK => ?_)
    simp
    apply hK; clear hK K
    exact L_ret ⟨.inr rfl, _, rfl, h H1 d false hS (fun h => by cases h) hrow hK⟩
end Go.Proofs.Ytmlhekfkniibmaa.Ord

/- Sorting numbers (Pdq). -/
namespace Go.Proofs.Ytmlhekfkniibmaa.Ord
open Go Go.Proofs.Ytmlhekfkniibmaa.AX Go.Proofs.Ytmlhekfkniibmaa
variable {sb : Bool}

set_option maxRecDepth 100000 in
theorem pivot_ac' (D : Int → Prop) (κ : Int → Int) (r ver a b l : Nat) (hbl : b = a + l) (c : List Int) (n : Nat) (hn : c.length = n) (H : AH) (Q : AV → AH → Prop) (hC : CmpO D κ r H) (hr : Rw r ver H c) (hrl : r < H.length) (hD : All D c) (hlen : n ≤ 1000000) (hl : 12 < l) (hb : b ≤ n)
    (h : ∀ (H' : AH) (x : Nat) (hint : Int), a ≤ x ∧ x < b → KeepX r H H' → Rw r ver H' c → Q (.tuple [.int .i64 x, .int .i64 hint]) H') : AC Try.prog 83 [SV sb r 0 n ver, .int .i64 a, .int .i64 b] H Q := by
  subst hbl; subst hn; exact pivot_ac D κ r ver a l c H Q hC hr hrl hD hlen hl hb h
set_option maxRecDepth 100000 in
theorem break_ac' (r ver a b l : Nat) (hbl : b = a + l) (c : List Int) (n : Nat) (hn : c.length = n) (H : AH) (Q : AV → AH → Prop) (hr : Rw r ver H c) (hrl : r < H.length) (hlen : n ≤ 127) (hl : 12 < l) (hb : b ≤ n)
    (h : ∀ (H' : AH) (m : List Int), Shuf a b c m → Rw r ver H' m → KeepX r H H' → Q (.tuple []) H') : AC Try.prog 82 [SV sb r 0 n ver, .int .i64 a, .int .i64 b] H Q := by
  subst hbl; subst hn; exact break_ac r ver a l c H Q hr hrl hlen hl hb h
set_option maxRecDepth 100000 in
theorem heapSort_ac' (D : Int → Prop) (κ : Int → Int) (r ver a b l : Nat) (hbl : b = a + l) (c : List Int) (n : Nat) (hn : c.length = n) (H : AH) (Q : AV → AH → Prop) (hC : CmpO D κ r H) (hr : Rw r ver H c) (hD : All D c) (hl : n ≤ 1000000) (hb : b ≤ n) (hl1 : 1 ≤ l)
    (h : ∀ (H' : AH) (m : List Int), Shuf a b c m → Srt κ a b m → Rw r ver H' m → KeepX r H H' → Q (.tuple []) H') : AC Try.prog 81 [SV sb r 0 n ver, .int .i64 a, .int .i64 b] H Q := by
  subst hbl; subst hn; exact heapSort_ac D κ r ver a l c H Q hC hr hD hl hb hl1 h
set_option maxRecDepth 100000 in
theorem partEq_ac' (D : Int → Prop) (κ : Int → Int) (r ver a b pv : Nat) (c : List Int) (n : Nat) (hn : c.length = n) (H : AH) (Q : AV → AH → Prop) (hC : CmpO D κ r H) (hr : Rw r ver H c) (hD : All D c) (hl : n ≤ 1000000) (hpa : a ≤ pv) (hpb : pv < b) (hb : b ≤ n)
    (h : ∀ (H' : AH) (m : List Int) (p : Nat), a < p → p ≤ b → Shuf a b c m → (∀ k, a ≤ k → k < p → κ (g m k) ≤ κ (g c pv)) → (∀ k, p ≤ k → k < b → κ (g c pv) < κ (g m k)) → Rw r ver H' m → KeepX r H H' → Q (.int .i64 p) H') : AC Try.prog 87 [SV sb r 0 n ver, .int .i64 a, .int .i64 b, .int .i64 pv] H Q := by
  subst hn; exact partEq_ac D κ r ver a b pv c H Q hC hr hD hl hpa hpb hb h
set_option maxRecDepth 100000 in
theorem part_ac' (D : Int → Prop) (κ : Int → Int) (r ver a b pv : Nat) (c : List Int) (n : Nat) (hn : c.length = n) (H : AH) (Q : AV → AH → Prop) (hC : CmpO D κ r H) (hr : Rw r ver H c) (hD : All D c) (hl : n ≤ 1000000) (hpa : a ≤ pv) (hpb : pv < b) (hb : b ≤ n)
    (h : ∀ (H' : AH) (m : List Int) (p : Nat) (bb : Bool), a ≤ p → p < b → Shuf a b c m → (∀ k, a ≤ k → k < p → κ (g m k) ≤ κ (g m p)) → (∀ k, p < k → k < b → κ (g m p) ≤ κ (g m k)) → Rw r ver H' m → KeepX r H H' → Q (.tuple [.int .i64 p, .bool bb]) H') : AC Try.prog 88 [SV sb r 0 n ver, .int .i64 a, .int .i64 b, .int .i64 pv] H Q := by
  subst hn; exact part_ac D κ r ver a b pv c H Q hC hr hD hl hpa hpb hb h
set_option maxRecDepth 100000 in
theorem pdq_ac (D : Int → Prop) (κ : Int → Int) (r ver n : Nat) (hn127 : n ≤ 127) : ∀ (N a b lim : Nat) (c : List Int) (H : AH) (Q : AV → AH → Prop), b - a < N → CmpO D κ r H → Rw r ver H c → r < H.length → All D c → c.length = n → a ≤ b → b ≤ n → lim ≤ 1000 → Pre κ a b c →
    (∀ (H' : AH) (m : List Int), Shuf a b c m → Srt κ a b m → Rw r ver H' m → KeepX r H H' → Q (.tuple []) H') → AC Try.prog 79 [SV sb r 0 n ver, .int .i64 a, .int .i64 b, .int .i64 lim] H Q := by
  intro N
  induction N with
  | zero => intro a b lim c H Q h; omega
  | succ N ih =>
  intro a b lim c H Q hN hC hr hrl hD hn hab hb hlim hpre h
  refine L_body 134 Try.func79 rfl rfl ?_
  refine L_reg [0, 1, 2, 3, 8] (fun K hK => ?_)
  simp
  apply hK; clear hK K
  refine L_reg [0, 1, 2, 3, 8, 9] (fun K hK => ?_)
  simp
  apply hK; clear hK K
  refine L_block (L_loopV [1, 2, 3, 8, 9] (fun k vs H' => ∃ (a' b' lm : Nat) (wb wp : Bool) (d : List Int), k = b' - a' ∧ a ≤ a' ∧ a' ≤ b' ∧ b' ≤ b ∧ lm ≤ 1000 ∧ Shuf a b c d ∧ OrdEx κ a b a' b' d ∧ Pre κ a' b' d ∧ vs = [.int .i64 a', .int .i64 b', .int .i64 lm, .bool wb, .bool wp] ∧ Rw r ver H' d ∧ KeepX r H H') _ [.int .i64 a, .int .i64 b, .int .i64 lim, .bool true, .bool true] rfl ⟨a, b, lim, true, true, c, rfl, by omega, hab, by omega, hlim, .refl _ _ _, fun p q h1 h2 h3 h4 => by omega, hpre, rfl, hr, .refl r H⟩ ?_)
  rintro _ _ H1 ⟨a', b', lm, wb, wp, d, rfl, haa, hab', hbb, hlm, hS, hO, hP, rfl, hrow, hK⟩
  refine L_block ?_
  obtain ⟨l, hbl⟩ : ∃ l, b' = a' + l := ⟨b' - a', by omega⟩
  have hdl : d.length = n := by rw [hS.len]; exact hn
  have hdD := hD.perm hS.1
  have hCk := hC.keep hK
  have hr1 : r < H1.length := by have := hK.1; omega
  refine L_reg [0, 1, 2, 3, 8, 9, 10] (fun K hK => ?_)
  simp [show ((b' : Int) - a') = l by omega, wrap_i64 (a := (l : Int)) (by omega)]
  apply hK; clear hK K
  refine L_reg [0, 1, 2, 3, 8, 9, 10, 23] (fun K hK => ?_)
  simp
  apply hK; clear hK K
  refine L_dec ((l : Int) ≤ 12) (by simp) (fun h12 => ?_) (fun h12 => ?_)
  · refine L_reg [] (fun K hK0 => ?_)
    simp [okFn_low]
    have := insertion_ac (sb := sb) D κ r ver a' b' d H1 (fun v H' => K [] H') hCk hrow hdD (by omega) (by omega) (by omega) (fun H2 m m1 m2 m3 m4 => ?_)
    · rw [hdl] at this; exact this
    apply hK0; clear hK0 K
    exact L_ret ⟨.inr rfl, _, rfl, h H2 m (hS.trans (m1.wide haa hbb)) ((hO.mix m1 (by omega) haa hbb).srt m2) m3 (hK.trans m4)⟩
  refine L_reg [0, 1, 2, 3, 8, 9, 10, 29] (fun K hK => ?_)
  simp
  apply hK; clear hK K
  refine L_split rfl (fun h0 => ?_) (fun h0 => ?_)
  · refine L_reg [] (fun K hK0 => ?_)
    simp [okFn_low]
    refine heapSort_ac' D κ r ver a' b' l hbl d n hdl H1 _ hCk hrow hdD (by omega) (by omega) (by omega) (fun H2 m m1 m2 m3 m4 => ?_)
    simp
    apply hK0; clear hK0 K
    exact L_ret ⟨.inr rfl, _, rfl, h H2 m (hS.trans (m1.wide haa hbb)) ((hO.mix m1 (by omega) haa hbb).srt m2) m3 (hK.trans m4)⟩
  have hlm0 : 1 ≤ lm := by
    have : (lm : Int) ≠ 0 := by simpa using h0
    omega
  refine L_reg [0, 1, 2, 3, 8, 9, 10, 35] (fun K hK => ?_)
  simp
  apply hK; clear hK K
  refine L_condK [0, 1, 2, 3, 8, 9, 10] (fun e' H' => ∃ (lm : Nat) (d : List Int), lm ≤ 1000 ∧ Shuf a b c d ∧ OrdEx κ a b a' b' d ∧ Pre κ a' b' d ∧ Rw r ver H' d ∧ KeepX r H H' ∧ e' = [(0, SV sb r 0 n ver), (1, .int .i64 a'), (2, .int .i64 b'), (3, .int .i64 (lm : Nat)), (8, .bool wb), (9, .bool wp), (10, .int .i64 l)]) (t := !wb) rfl (fun ht => ?_) (fun ht => ?_) ?_
  · refine L_reg [0, 1, 2, 3, 8, 9, 10] (fun K hK0 => ?_)
    simp [okFn_low]
    refine break_ac' r ver a' b' l hbl d n hdl H1 _ hrow hr1 hn127 (by omega) (by omega) (fun H2 m m1 m3 m4 => ?_)
    simp
    apply hK0; clear hK0 K
    obtain ⟨lm', rfl⟩ : ∃ x, lm = x + 1 := ⟨lm - 1, by omega⟩
    refine L_reg [0, 1, 2, 3, 8, 9, 10] (fun K hK => ?_)
    simp [wrap_i64 (a := (lm' : Int)) (by omega)]
    apply hK; clear hK K
    exact ⟨lm', m, by omega, hS.trans (m1.wide haa hbb), hO.mix m1 (by omega) haa hbb, hP.mix m1 (by omega), m3, hK.trans m4, by simp⟩
  · exact ⟨lm, d, hlm, hS, hO, hP, hrow, hK, by simp⟩
  clear hlm hS hO hP hrow hK hdl hdD hCk hr1 hlm0 h0
  clear d H1 lm
  rintro _ H1 ⟨lm, d, hlm, hS, hO, hP, hrow, hK, rfl⟩
  have hdl : d.length = n := by rw [hS.len]; exact hn
  have hdD := hD.perm hS.1
  have hr1 : r < H1.length := by have := hK.1; omega
  refine L_reg [0, 1, 2, 3, 8, 9, 10, 11, 12] (fun K hK0 => ?_)
  simp [okFn_low]
  refine pivot_ac' D κ r ver a' b' l hbl d n hdl H1 _ (hC.keep hK) hrow hr1 hdD (by omega) (by omega) (by omega) (fun H2 pv hint hpv m4 m3 => ?_)
  simp
  apply hK0; clear hK0 K
  have hK2 := hK.trans m4
  clear hrow hK hr1
  refine L_reg [0, 1, 2, 3, 8, 9, 10, 11, 12, 50] (fun K hK => ?_)
  simp
  apply hK; clear hK K
  refine L_condK [0, 1, 2, 3, 8, 9, 10, 11, 12] (fun e' H' => ∃ (pv : Nat) (hint : Int) (d : List Int), (a' ≤ pv ∧ pv < b') ∧ Shuf a b c d ∧ OrdEx κ a b a' b' d ∧ Pre κ a' b' d ∧ Rw r ver H' d ∧ KeepX r H H' ∧ e' = [(0, SV sb r 0 n ver), (1, .int .i64 a'), (2, .int .i64 b'), (3, .int .i64 lm), (8, .bool wb), (9, .bool wp), (10, .int .i64 l), (11, .int .i64 (pv : Nat)), (12, .int .i64 hint)]) (t := (hint == 2)) rfl (fun ht => ?_) (fun ht => ?_) ?_
  · refine L_reg [0, 1, 2, 3, 8, 9, 10, 11] (fun K hK0 => ?_)
    simp [okFn_low]
    have := reverse_ac (sb := sb) r ver a' b' d H2 (fun v H' => K [(0, SV sb r 0 n ver), (1, .int .i64 a'), (2, .int .i64 b'), (3, .int .i64 lm), (8, .bool wb), (9, .bool wp), (10, .int .i64 l), (11, .int .i64 pv)] H') m3 (by omega) (by omega) (by omega) (fun H3 m q1 q3 q4 => ?_)
    · rw [hdl] at this; exact this
    apply hK0; clear hK0 K
    obtain ⟨pv2, hpv2⟩ : ∃ x : Nat, (b' : Int) - 1 - ((pv : Int) - a') = x := ⟨b' - 1 - (pv - a'), by omega⟩
    refine L_reg [0, 1, 2, 3, 8, 9, 10, 11] (fun K hK => ?_)
    simp [wrap_i64 (a := (b' : Int) - 1) (by omega), wrap_i64 (a := (pv : Int) - a') (by omega), hpv2, wrap_i64 (a := (pv2 : Int)) (by omega)]
    apply hK; clear hK K
    refine L_reg [0, 1, 2, 3, 8, 9, 10, 11, 12] (fun K hK => ?_)
    simp
    apply hK; clear hK K
    exact ⟨pv2, 1, m, by omega, hS.trans (q1.wide haa hbb), hO.mix q1 (by omega) haa hbb, hP.mix q1 (by omega), q3, hK2.trans q4, by simp⟩
  · exact ⟨pv, hint, d, hpv, hS, hO, hP, m3, hK2, by simp⟩
  clear hS hO hP hdl hdD m3 m4 hK2 hpv
  clear d H1 H2 pv hint
  rintro _ H1 ⟨pv, hint, d, hpv, hS, hO, hP, hrow, hK, rfl⟩
  have hdl : d.length = n := by rw [hS.len]; exact hn
  have hdD := hD.perm hS.1
  refine L_reg [0, 1, 2, 3, 8, 9, 10, 11, 68] (fun K hK0 => ?_)
  have hK2 : ∀ t : Bool, K [(0, SV sb r 0 n ver), (1, .int .i64 a'), (2, .int .i64 b'), (3, .int .i64 lm), (8, .bool wb), (9, .bool wp), (10, .int .i64 l), (11, .int .i64 pv), (68, .bool t)] H1 := by
    intro t
    refine hK0 _ _ ?_
    clear hK0 K
    refine L_condK [0, 1, 2, 3, 8, 9, 10, 11] (fun e' H' => ∃ (d : List Int), Shuf a b c d ∧ OrdEx κ a b a' b' d ∧ Pre κ a' b' d ∧ Rw r ver H' d ∧ KeepX r H H' ∧ e' = [(0, SV sb r 0 n ver), (1, .int .i64 a'), (2, .int .i64 b'), (3, .int .i64 lm), (8, .bool wb), (9, .bool wp), (10, .int .i64 l), (11, .int .i64 (pv : Nat))]) (t := t) rfl (fun ht => ?_) (fun ht => ?_) ?_
    · refine L_reg [0, 1, 2, 3, 8, 9, 10, 11, 72] (fun K hK0 => ?_)
      simp [okFn_low]
      have := partial_ac (sb := sb) D κ r ver a' b' d H1 (fun v H' => K [(0, SV sb r 0 n ver), (1, .int .i64 a'), (2, .int .i64 b'), (3, .int .i64 lm), (8, .bool wb), (9, .bool wp), (10, .int .i64 l), (11, .int .i64 pv), (72, v)] H') (hC.keep hK) hrow hdD (by omega) (by omega) (by omega) hP (fun H3 m t q1 q2 q3 q4 => ?_)
      · rw [hdl] at this; exact this
      apply hK0; clear hK0 K
      cases t with
      | true =>
        refine L_true rfl ?_
        exact L_ret ⟨.inr rfl, _, rfl, h H3 m (hS.trans (q1.wide haa hbb)) ((hO.mix q1 (by omega) haa hbb).srt (q2 rfl)) q3 (hK.trans q4)⟩
      | false =>
        refine L_false rfl ?_
        exact ⟨m, hS.trans (q1.wide haa hbb), hO.mix q1 (by omega) haa hbb, hP.mix q1 (by omega), q3, hK.trans q4, by simp⟩
    · exact ⟨d, hS, hO, hP, hrow, hK, by simp⟩
    clear hS hO hP hrow hK hdl hdD
    clear d H1
    rintro _ H1 ⟨d, hS, hO, hP, hrow, hK, rfl⟩
    have hdl : d.length = n := by rw [hS.len]; exact hn
    have hdD := hD.perm hS.1
    have hCk := hC.keep hK
    refine L_regT mixed [0, 1, 2, 3, 8, 9, 10, 11, 87] (by kernel_rfl) (fun K hK0 => ?_)
    have hK2 : ∀ t : Bool, (t = true → 0 < a' ∧ ¬ κ (g d (a' - 1)) < κ (g d pv)) → K [(0, SV sb r 0 n ver), (1, .int .i64 a'), (2, .int .i64 b'), (3, .int .i64 lm), (8, .bool wb), (9, .bool wp), (10, .int .i64 l), (11, .int .i64 pv), (87, .bool t)] H1 := by
      intro t ht
      refine hK0 _ _ ?_
      clear hK0 K
      refine L_split rfl (fun ht2 => ?_) (fun ht2 => ?_)
      · obtain ⟨hpos, hge⟩ := ht ht2
        have hmin : ∀ k, a' ≤ k → k < b' → κ (g d pv) ≤ κ (g d k) := fun k k1 k2 => Int.le_trans (Int.not_lt.1 hge) (hP hpos k k1 k2)
        refine L_reg [0, 2, 3, 8, 9, 13] (fun K hK0 => ?_)
        simp [okFn_low]
        refine partEq_ac' D κ r ver a' b' pv d n hdl H1 _ hCk hrow hdD (by omega) hpv.1 hpv.2 (by omega) (fun H2 m p p1 p2 m1 m2 m5 m3 m4 => ?_)
        simp
        apply hK0; clear hK0 K
        have hmin2 := m1.all (by omega) (p := fun x => κ (g d pv) ≤ κ x) hmin
        refine L_reg [0, 1, 2, 3, 8, 9] (fun K hK => ?_)
        simp
        apply hK; clear hK K
        refine L_exit ?_
        refine ⟨b' - p, [.int .i64 (p : Nat), .int .i64 b', .int .i64 lm, .bool wb, .bool wp], by omega, by simp, p, b', lm, wb, wp, m, rfl, by omega, by omega, hbb, hlm, hS.trans (m1.wide haa hbb), fun q1 q2 h1 h2 h3 h4 => ?_, fun hp0 k k1 k2 => ?_, rfl, m3, hK.trans m4⟩
        · by_cases e : a' ≤ q1 ∧ q2 < b'
          · have e1 := m2 q1 e.1 (by omega)
            exact Int.le_trans e1 (hmin2 q2 (by omega) e.2)
          · exact (hO.mix m1 (by omega) haa hbb) q1 q2 h1 h2 h3 e
        · exact Int.le_trans (m2 (p - 1) (by omega) (by omega)) (Int.le_of_lt (m5 k k1 k2))
      · clear ht
        refine L_reg [0, 1, 2, 3, 10, 14, 15] (fun K hK0 => ?_)
        simp [okFn_low]
        refine part_ac' D κ r ver a' b' pv d n hdl H1 _ hCk hrow hdD (by omega) hpv.1 hpv.2 (by omega) (fun H2 m p bb p1 p2 m1 m2 m5 m3 m4 => ?_)
        simp
        apply hK0; clear hK0 K
        have hml : m.length = n := by rw [m1.len, hdl]
        have hS2 := hS.trans (m1.wide haa hbb)
        have hO2 := hO.mix m1 (by omega) haa hbb
        have hP2 := hP.mix m1 (by omega)
        have hK3 := hK.trans m4
        have hr3 : r < H2.length := by have := hK3.1; omega
        clear hS hO hP hrow hK hdl hdD hCk m1 m4
        clear hpv ht2 d H1
        refine L_reg [0, 1, 2, 3, 9, 10, 14] (fun K hK => ?_)
        simp
        apply hK; clear hK K
        obtain ⟨ll, hll⟩ : ∃ x : Nat, (p : Int) - a' = x := ⟨p - a', by omega⟩
        obtain ⟨rl, hrl2⟩ : ∃ x : Nat, (b' : Int) - p = x := ⟨b' - p, by omega⟩
        have hq8 : ((l : Int)).tdiv 8 = ((l / 8 : Nat) : Int) := by rw [Int.tdiv_eq_ediv_of_nonneg (by omega)]; rfl
        obtain ⟨q8, hq80⟩ : ∃ q, q = l / 8 := ⟨_, rfl⟩
        rw [← hq80] at hq8
        refine L_reg [0, 1, 2, 3, 9, 10, 14, 16, 17] (fun K hK => ?_)
        simp [hll, hrl2, wrap_i64 (a := (ll : Int)) (by omega), wrap_i64 (a := (rl : Int)) (by omega)]
        apply hK; clear hK K
        refine L_reg [0, 1, 2, 3, 9, 14, 16, 17, 18] (fun K hK => ?_)
        simp [hq8, wrap_i64 (a := (q8 : Int)) (by omega)]
        apply hK; clear hK K
        refine L_reg [0, 1, 2, 3, 9, 14, 16, 17, 18, 113] (fun K hK => ?_)
        simp
        apply hK; clear hK K
        refine L_dec (ll < rl) (by simp) (fun hlr => ?_) (fun hlr => ?_)
        · refine L_reg [0, 1, 2, 3, 8, 9, 14] (fun K hK => ?_)
          simp
          apply hK; clear hK K
          refine L_reg [0, 2, 3, 8, 9, 14] (fun K hK0 => ?_)
          simp [okFn_low]
          refine ih a' p lm m H2 _ (by omega) (hC.keep hK3) m3 hr3 (hD.perm hS2.1) hml p1 (by omega) hlm (fun h0 k k1 k2 => hP2 h0 k k1 (by omega)) (fun H3 m' s1 s2 s3 s4 => ?_)
          simp
          apply hK0; clear hK0 K
          refine L_reg [0, 1, 2, 3, 8, 9] (fun K hK => ?_)
          simp [wrap_i64 (a := (p : Int) + 1) (by omega)]
          apply hK; clear hK K
          have hm5 := s1.all (by omega) (p := fun x => κ x ≤ κ (g m p)) m2
          have hpm : g m' p = g m p := s1.2 p (by omega)
          refine ⟨b' - (p + 1), [.int .i64 (p + 1 : Nat), .int .i64 b', .int .i64 lm, .bool (decide (q8 ≤ ll)), .bool bb], by omega, by simp, p + 1, b', lm, decide (q8 ≤ ll), bb, m', rfl, by omega, by omega, hbb, hlm, hS2.trans (s1.wide haa (by omega)), fun q1 q2 h1 h2 h3 h4 => ?_, fun hp0 k k1 k2 => ?_, rfl, s3, hK3.trans s4⟩
          · by_cases e : a' ≤ q1 ∧ q2 < b'
            · by_cases e2 : q2 < p
              · exact s2 q1 q2 e.1 h2 e2
              · by_cases e3 : q2 = p
                · subst e3; rw [hpm]; exact hm5 q1 e.1 (by omega)
                · have e4 : κ (g m p) ≤ κ (g m' q2) := by rw [s1.2 q2 (by omega)]; exact m5 q2 (by omega) e.2
                  by_cases e5 : q1 = p
                  · rw [e5, hpm]; exact e4
                  · exact Int.le_trans (hm5 q1 e.1 (by omega)) e4
            · exact (hO2.mix (s1.wide (Nat.le_refl _) (by omega)) (by omega) haa hbb) q1 q2 h1 h2 h3 e
          · rw [show p + 1 - 1 = p by omega, hpm, s1.2 k (by omega)]
            exact m5 k (by omega) k2
        · refine L_reg [0, 1, 2, 3, 8, 9, 14] (fun K hK => ?_)
          simp
          apply hK; clear hK K
          refine L_reg [0, 1, 3, 8, 9, 14] (fun K hK0 => ?_)
          simp [okFn_low, wrap_i64 (a := (p : Int) + 1) (by omega)]
          refine ih (p + 1) b' lm m H2 _ (by omega) (hC.keep hK3) m3 hr3 (hD.perm hS2.1) hml (by omega) (by omega) hlm (fun h0 k k1 k2 => by rw [show p + 1 - 1 = p by omega]; exact m5 k (by omega) k2) (fun H3 m' s1 s2 s3 s4 => ?_)
          simp
          apply hK0; clear hK0 K
          refine L_reg [0, 1, 2, 3, 8, 9] (fun K hK => ?_)
          simp
          apply hK; clear hK K
          have hm5 := s1.all (by omega) (p := fun x => κ (g m p) ≤ κ x) (fun k k1 k2 => m5 k (by omega) k2)
          have hpm : g m' p = g m p := s1.2 p (by omega)
          refine ⟨p - a', [.int .i64 a', .int .i64 (p : Nat), .int .i64 lm, .bool (decide (q8 ≤ rl)), .bool bb], by omega, by simp, a', p, lm, decide (q8 ≤ rl), bb, m', rfl, by omega, by omega, by omega, hlm, hS2.trans (s1.wide (by omega) hbb), fun q1 q2 h1 h2 h3 h4 => ?_, fun hp0 k k1 k2 => ?_, rfl, s3, hK3.trans s4⟩
          · by_cases e : a' ≤ q1 ∧ q2 < b'
            · by_cases e2 : p < q1
              · exact s2 q1 q2 (by omega) h2 e.2
              · by_cases e3 : q1 = p
                · subst e3; rw [hpm]; exact hm5 q2 (by omega) e.2
                · have e4 : κ (g m' q1) ≤ κ (g m p) := by rw [s1.2 q1 (by omega)]; exact m2 q1 e.1 (by omega)
                  by_cases e5 : q2 = p
                  · rw [e5, hpm]; exact e4
                  · exact Int.le_trans e4 (hm5 q2 (by omega) e.2)
            · exact (hO2.mix (s1.wide (by omega) (Nat.le_refl _)) (by omega) haa hbb) q1 q2 h1 h2 h3 e
          · rw [s1.2 k (by omega), s1.2 (a' - 1) (by omega)]
            exact hP2 hp0 k k1 (by omega)
    by_cases hpos : 0 < a'
    · obtain ⟨a0, ha0⟩ : ∃ a0 : Nat, (a' : Int) - 1 = a0 := ⟨a' - 1, by omega⟩
      have ha0n : a' - 1 = a0 := by omega
      have hx := hrow.ld (i := a0) (by omega)
      have hy := hrow.ld (i := pv) (by omega)
      have t1 : a0 < n := by omega
      have t2 : pv < n := by omega
      simp [okFn_low, hpos, ha0, t1, t2, hx, hy, wrap_i64 (a := (a0 : Int)) (by omega)]
      refine exC_mk (fun Q hQ => hCk.2 H1 (.refl _ _) _ _ (hdD a0 (by omega)) (hdD pv (by omega)) Q hQ) ?_
      simp [pickV]
      refine hK2 _ (fun ht => ⟨hpos, fun h => ?_⟩)
      rw [ha0n] at h
      have := cmpS_neg.2 h
      simp at ht
      omega
    · have ha0 : a' = 0 := by omega
      subst ha0
      simp [pickV]
      exact hK2 false (fun h => by cases h)
  cases wb <;> cases wp <;> simp [pickV] <;> exact hK2 _
end Go.Proofs.Ytmlhekfkniibmaa.Ord

/- slices.Sort of a part of a row; slices.Equal. -/
namespace Go.Proofs.Ytmlhekfkniibmaa
open Go Go.Proofs.Ytmlhekfkniibmaa.AX
variable {sb : Bool}
theorem isNaN_ac (a : Int) (H : AH) (Q : AV → AH → Prop) (h : Q (.bool false) H) : AC Try.prog 94 [.int .i64 a] H Q := by
  refine L_body 6 Try.func94 rfl rfl ?_
  refine L_reg [0] (fun K hK => ?_)
  simp
  apply hK; clear hK K
  refine L_reg [2] (fun K hK => ?_)
  simp
  apply hK; clear hK K
  exact L_ret ⟨.inr rfl, _, rfl, by simpa using h⟩
theorem Less_ac (a b : Int) (H : AH) (Q : AV → AH → Prop) (h : Q (.bool (decide (a < b))) H) : AC Try.prog 86 [.int .i64 a, .int .i64 b] H Q := by
  refine L_body 17 Try.func86 rfl rfl ?_
  refine L_reg [0, 1] (fun K hK => ?_)
  simp
  apply hK; clear hK K
  refine L_reg [4] (fun K hK => ?_)
  simp [okFn_low]
  refine isNaN_ac a _ _ ?_
  simp [pickV]
  apply hK; clear hK K
  exact L_ret ⟨.inr rfl, _, rfl, by simpa using h⟩
theorem lessO (r : Nat) (H : AH) : Ord.CmpO (fun _ => True) (fun x => x) r H := by
  refine ⟨trivial, fun H' _ x y _ _ Q h => Less_ac x y H' Q ?_⟩
  have : decide (Ord.cmpS x y < 0) = decide (x < y) := by rw [decide_eq_decide]; exact Ord.cmpS_neg
  rw [this] at h; exact h
set_option maxRecDepth 100000 in
theorem Sort_ac (r ver : Nat) (c : List Int) (n : Nat) (hn : c.length = n) (H : AH) (Q : AV → AH → Prop) (hr : Ord.Rw r ver H c) (hrl : r < H.length) (hl : n ≤ 127)
    (h : ∀ (H' : AH) (m : List Int), m.Perm c → Ord.Srt (fun x => x) 0 n m → Ord.Rw r ver H' m → KeepX r H H' → Q (.tuple []) H') : AC Try.prog 76 [SV sb r 0 n ver] H Q := by
  refine L_body 11 Try.func76 rfl rfl ?_
  refine L_reg [0, 2] (fun K hK => ?_)
  simp
  apply hK; clear hK K
  refine L_reg [] (fun K hK0 => ?_)
  simp [okFn_low, Ord.cvA n (by omega)]
  refine Ord.Len_ac n H _ (by omega) ?_
  simp [okFn_low]
  have h7 : Ord.lenN n ≤ 7 := by
    unfold Ord.lenN
    repeat' split
    all_goals first | decide | omega
  have := Ord.pdq_ac (sb := sb) (fun _ => True) (fun x => x) r ver n hl (n + 1) 0 n (Ord.lenN n) c H (fun v H' => K [] H') (by omega) (lessO r H) hr hrl (fun _ _ => trivial) hn (by omega) (Nat.le_refl _) (by omega) (fun h0 => by omega) (fun H2 m s1 s2 s3 s4 => ?_)
  · exact this
  apply hK0; clear hK0 K
  exact ⟨.inl rfl, _, rfl, h H2 m s1.1 s2 s3 s4⟩
theorem Equal_ac (b : Bool) (r ver off n : Nat) (l m : List Int) (v : AV) (H : AH) (Q : AV → AH → Prop) (hr : ∀ i, i < n → ld H r (off + i) ver = some (.int .i64 (g l i))) (hn : l.length = n) (hlen : n ≤ 1000000) (hv : Ls H v m) (h : Q (.bool (decide (l = m))) H) : AC Try.prog 77 [SV b r off n ver, v] H Q := by
  obtain ⟨r2, off2, ver2, sz2, full2, rfl, hv⟩ := hv
  refine L_body 26 Try.func77 rfl rfl ?_
  refine L_reg [0, 1] (fun K hK => ?_)
  simp
  apply hK; clear hK K
  refine L_reg [0, 1, 10] (fun K hK => ?_)
  simp
  apply hK; clear hK K
  by_cases hlm : n = m.length
  case neg =>
    refine L_true (by simp; omega) ?_
    refine L_reg [4] (fun K hK => ?_)
    simp
    apply hK; clear hK K
    have : l ≠ m := fun e => hlm (by rw [← hn, e])
    rw [decide_eq_false this] at h
    exact L_ret ⟨.inr rfl, _, rfl, h⟩
  refine L_false (by simp [hlm]) ?_
  refine L_reg [0, 1, 12, 13] (fun K hK => ?_)
  simp
  apply hK; clear hK K
  refine L_block (L_loopV [13] (fun k vs H' => ∃ (i : Nat), k = n - i ∧ i ≤ n ∧ (l.drop i = m.drop i → l = m) ∧ vs = [.int .i64 i] ∧ H' = H) _ [.int .i64 (0 : Nat)] rfl ⟨0, rfl, by omega, by simp, rfl, rfl⟩ ?_)
  rintro k _ _ ⟨i, rfl, hi, hs, rfl, rfl⟩
  refine L_reg [0, 1, 12, 13, 14] (fun K hK => ?_)
  simp
  apply hK; clear hK K
  refine L_dec (i < n) (by simp) (fun hlt => ?_) (fun hge => L_exit ?_)
  · have hld := hr i hlt
    obtain ⟨r3, rfl, rfl, hld2⟩ := hv i (by omega)
    have him : i < m.length := by omega
    rw [List.drop_eq_getElem_cons (by omega : i < l.length), List.drop_eq_getElem_cons him] at hs
    rw [g_lt (by omega)] at hld
    refine L_block ?_
    refine L_reg [0, 1, 5, 12, 13] (fun K hK => ?_)
    simp
    apply hK; clear hK K
    refine L_regT mixed [0, 1, 12, 13, 24] (by kernel_rfl) (fun K hK => ?_)
    simp [hlt, him, hld, hld2]
    apply hK; clear hK K
    by_cases he : l[i] = m[i]
    · refine L_false (by simp [he]) ?_
      rw [he] at hs
      refine L_reg [0, 1, 12, 13] (fun K hK => ?_)
      simp [wrap_i64 (a := (i : Int) + 1) (by omega)]
      apply hK; clear hK K
      exact ⟨n - (i + 1), [.int .i64 (i + 1 : Nat)], by omega, by simp, i + 1, rfl, by omega, fun e => hs (by rw [e]), rfl, rfl⟩
    · refine L_true (by simp [he]) ?_
      refine L_reg [4] (fun K hK => ?_)
      simp
      apply hK; clear hK K
      have : l ≠ m := fun e => he (by subst e; rfl)
      rw [decide_eq_false this] at h
      exact L_ret ⟨.inr rfl, _, rfl, h⟩
  · refine L_reg [4] (fun K hK => ?_)
    simp
    apply hK; clear hK K
    have : l = m := hs (by rw [List.drop_eq_nil_of_le (by omega), List.drop_eq_nil_of_le (by omega)])
    rw [decide_eq_true this] at h
    exact L_ret ⟨.inr rfl, _, rfl, h⟩
/-- Sorted lists with the same members. -/
theorem sorted_ext : ∀ {l m : List Int}, l.Pairwise (· < ·) → m.Pairwise (· < ·) → (∀ z, z ∈ l ↔ z ∈ m) → l = m
  | [], [], _, _, _ => rfl
  | [], y :: m, _, _, h => by have := (h y).2 (by simp); simp at this
  | x :: l, [], _, _, h => by have := (h x).1 (by simp); simp at this
  | x :: l, y :: m, hl, hm, h => by
    obtain ⟨a1, a2⟩ := List.pairwise_cons.1 hl
    obtain ⟨b1, b2⟩ := List.pairwise_cons.1 hm
    have hxy : x = y := by
      rcases List.mem_cons.1 ((h x).1 (by simp)) with e | e
      · exact e
      · rcases List.mem_cons.1 ((h y).2 (by simp)) with e2 | e2
        · exact e2.symm
        · have := b1 x e; have := a1 y e2; omega
    subst hxy
    have : l = m := sorted_ext a2 b2 fun z => by
      constructor
      · intro hz
        rcases List.mem_cons.1 ((h z).1 (List.mem_cons_of_mem _ hz)) with e | e
        · have := a1 z hz; omega
        · exact e
      · intro hz
        rcases List.mem_cons.1 ((h z).2 (List.mem_cons_of_mem _ hz)) with e | e
        · have := b1 z hz; omega
        · exact e
    rw [this]
theorem perm_of_sub : ∀ {l m : List Int}, l.Nodup → (∀ x ∈ l, x ∈ m) → m.length ≤ l.length → l.Perm m
  | [], m, _, _, h => by
    have : m = [] := List.eq_nil_of_length_eq_zero (by simpa using h)
    rw [this]
  | x :: l, m, hd, hs, h => by
    obtain ⟨h1, h2⟩ := List.nodup_cons.1 hd
    have hx := hs x (by simp)
    have hp : (x :: m.erase x).Perm m := (List.perm_cons_erase hx).symm
    have hl := hp.length_eq
    refine (List.Perm.cons x (perm_of_sub h2 (fun y hy => ?_) (by simp at hl h; omega))).trans hp
    have hne : y ≠ x := fun e => h1 (by rw [← e]; exact hy)
    exact (List.mem_erase_of_ne hne).2 (hs y (by simp [hy]))
theorem ordS_perm (k : Nat) : ∀ (m : Nat) (l : List Int), l.length = m → (ordS k m l).Perm l
  | 0, l, h => by rw [List.eq_nil_of_length_eq_zero h]; exact .refl _
  | m + 1, l, h => by
    have hlt : (k - 1) % (m + 1) < l.length := by rw [h]; exact Nat.mod_lt _ (by omega)
    simp only [ordS]
    exact (List.Perm.cons _ (ordS_perm k m _ (by rw [rot_len hlt]; omega))).trans (rot_perm hlt)
theorem orderS_perm (n k : Nat) : (orderS n k).Perm (allS n) := ordS_perm k n _ (allS_len n)
end Go.Proofs.Ytmlhekfkniibmaa

/- One roller more; counts of 1 and 2. -/
namespace Go.Proofs.Ytmlhekfkniibmaa
open Go Go.Proofs.Ytmlhekfkniibmaa.AX

theorem g_map {f : Int → Int} {l : List Int} {i : Nat} (h : i < l.length) : g (l.map f) i = f (g l i) := by
  rw [g_lt (by simpa using h), g_lt h]; simp
theorem rot_map (f : Int → Int) (l : List Int) (a : Nat) : rot (l.map f) a = (rot l a).map f := by simp [rot, List.map_drop, List.map_take]
theorem ordS_map (k : Nat) (f : Int → Int) : ∀ (m : Nat) (l : List Int), l.length = m → ordS k m (l.map f) = (ordS k m l).map f
  | 0, _, _ => rfl
  | m + 1, l, h => by
    have hlt : (k - 1) % (m + 1) < l.length := by rw [h]; exact Nat.mod_lt _ (by omega)
    simp only [ordS, List.map_cons]
    rw [g_map hlt, rot_map, ordS_map k f m _ (by rw [rot_len hlt]; omega)]
theorem rot_all {n a : Nat} (ha : a ≤ n) : rot (allS (n + 1)) a = (allS n).map fun x => (x + (a + 1 : Nat)) % ((n + 1 : Nat) : Int) := by
  have hl : (rot (allS (n + 1)) a).length = n := by rw [rot_len (by rw [allS_len]; omega), allS_len]; rfl
  apply g_ext (by rw [hl]; simp [allS_len])
  intro i hi
  rw [hl] at hi
  rw [g_map (by rw [allS_len]; exact hi), g_all hi]
  unfold rot
  rw [g_app]
  simp only [List.length_drop, allS_len]
  split
  · rename_i h
    rw [g_drop, g_all (by omega), Int.emod_eq_of_lt (by omega) (by omega)]
    omega
  · rename_i h
    rw [g_take (by omega), g_all (by omega)]
    have e : (i : Int) + ((a + 1 : Nat) : Int) = ((i - (n + 1 - (a + 1)) : Nat) : Int) + ((n + 1 : Nat) : Int) := by omega
    rw [e, Int.add_emod_right, Int.emod_eq_of_lt (by omega) (by omega)]
theorem ord_last {k : Nat} : ∀ {n : Nat} {x : Int} {l : List Int}, 0 < n → g (x :: ordS k n l) n = g (ordS k n l) (n - 1) := by
  intro n x l hn
  obtain ⟨m, rfl⟩ : ∃ m, n = m + 1 := ⟨n - 1, by omega⟩
  simp [g]
theorem josephus {n k : Nat} (hn : 0 < n) (hk : 1 ≤ k) : g (orderS (n + 1) k) n = (g (orderS n k) (n - 1) + k) % ((n + 1 : Nat) : Int) := by
  unfold orderS
  have ha : (k - 1) % (n + 1) < n + 1 := Nat.mod_lt _ (by omega)
  simp only [ordS]
  rw [ord_last hn, rot_all (by omega), ordS_map k _ n _ (allS_len n), g_map (by rw [ordS_len]; omega)]
  have h1 := Nat.div_add_mod (k - 1) (n + 1)
  generalize (k - 1) % (n + 1) = a at *
  generalize (k - 1) / (n + 1) = q at *
  have e : (k : Int) = ((a + 1 : Nat) : Int) + ((n + 1 : Nat) : Int) * (q : Int) := by
    have h2 : (((n + 1) * q + a : Nat) : Int) = ((k - 1 : Nat) : Int) := by rw [h1]
    rw [Int.natCast_add, Int.natCast_mul] at h2
    omega
  rw [e, ← Int.add_assoc, Int.add_mul_emod_self_left]
theorem last_mem {n k : Nat} (hn : 0 < n) : 0 ≤ g (orderS n k) (n - 1) ∧ g (orderS n k) (n - 1) < n := by
  have h1 : g (orderS n k) (n - 1) ∈ orderS n k := by rw [g_lt (by rw [orderS_len]; omega)]; simp
  exact mem_allS.1 ((orderS_perm n k).mem_iff.1 h1)
theorem two_all : (List.range 19).all (fun i => decide (g (orderS (i + 1) 2) i = 2 * ((i + 1 : Nat) - (2 : Int) ^ (Ord.lenN (i + 1) - 1)))) = true := by decide +kernel
theorem last_two {n : Nat} (h1 : 1 ≤ n) (h2 : n ≤ 19) : g (orderS n 2) (n - 1) = 2 * ((n : Int) - 2 ^ (Ord.lenN n - 1)) := by
  have := List.all_eq_true.1 two_all (n - 1) (List.mem_range.2 (by omega))
  rw [decide_eq_true_iff, show n - 1 + 1 = n by omega] at this
  exact this
theorem one_all : (List.range 20).all (fun n => decide (orderS n 1 = allS n)) = true := by decide +kernel
theorem order_one {n : Nat} (h2 : n ≤ 19) : orderS n 1 = allS n := by
  have := List.all_eq_true.1 one_all n (List.mem_range.2 (by omega))
  exact of_decide_eq_true this
end Go.Proofs.Ytmlhekfkniibmaa

/- The smallest count that fits. -/
namespace Go.Proofs.Ytmlhekfkniibmaa
open Go Go.Proofs.Ytmlhekfkniibmaa.AX

theorem last_q (n k : Nat) (h0 : 1 ≤ n) (h1 : n ≤ 1000) (h3 : 1 ≤ k) (h4 : k ≤ 1000000000000) (H : AH) (Q : AV → AH → Prop) (h : Q (.int .i64 (g (orderS n k) (n - 1))) H) : AC Try.prog 48 [.int .i64 n, .int .i64 k] H Q :=
  AC.quiet (belB_int _ _ _ _) (fun Q h => last_ac n k h0 h1 h3 h4 H Q h) Q h
/-- A function that says whether a count fits, as long as what was there stays. -/
def FitsC (f : FuncId) (caps : List AV) (P : Nat → Prop) [DecidablePred P] (H : AH) : Prop :=
  okFn Try.prog f = true ∧ ∀ k H', 1 ≤ k → k ≤ 1000 → Ext H H' → ∀ Q : AV → AH → Prop, (∀ H'', Ext H' H'' → Q (.bool (decide (P k))) H'') → AC Try.prog f ([] ++ [.int .i64 k] ++ caps) H' Q
/-- The smallest count up to 1000 with P, or none. -/
def minQ (P : Nat → Prop) (Q : AV → AH → Prop) (H : AH) : Prop :=
  (∀ k : Nat, 1 ≤ k → k ≤ 1000 → P k → (∀ j, 1 ≤ j → j < k → ¬ P j) → Q (.tuple [.int .i64 k, .int .i64 0]) H) ∧ ((∀ j, 1 ≤ j → j ≤ 1000 → ¬ P j) → Q (.tuple [.int .i64 0, .int .i64 12]) H)
theorem smallest_ac (f : FuncId) (caps : List AV) (P : Nat → Prop) [DecidablePred P] (H : AH) (Q : AV → AH → Prop) (hF : FitsC f caps P H) (h : ∀ H', Ext H H' → minQ P Q H') : AC Try.prog 63 [.func (.func f) [] caps] H Q := by
  refine L_body 16 Try.func63 rfl rfl ?_
  refine L_reg [0] (fun K hK => ?_)
  simp
  apply hK; clear hK K
  refine L_reg [0, 6] (fun K hK => ?_)
  simp
  apply hK; clear hK K
  refine L_block (L_loopV [6] (fun m vs H' => ∃ i : Nat, m = 1000 - i ∧ i ≤ 1000 ∧ (∀ j, 1 ≤ j → j ≤ i → ¬ P j) ∧ vs = [.int .i64 i] ∧ Ext H H') _ [.int .i64 0] rfl ⟨0, rfl, by omega, fun j h1 h2 => by omega, rfl, .refl _⟩ ?_)
  rintro m _ H1 ⟨i, rfl, hi, hno, rfl, hE⟩
  refine L_reg [0, 6, 7] (fun K hK => ?_)
  simp
  apply hK; clear hK K
  refine L_dec (i < 1000) (by simp; omega) (fun hlt => ?_) (fun hge => L_exit ?_)
  · refine L_block ?_
    obtain ⟨k, hk⟩ : ∃ k : Nat, k = i + 1 := ⟨_, rfl⟩
    have hki : (i : Int) + 1 = (k : Int) := by omega
    refine L_reg [0, 4, 6] (fun K hK => ?_)
    simp
    apply hK; clear hK K
    refine L_reg [0, 5, 6] (fun K hK => ?_)
    simp [hki, wrap_i64 (a := (k : Int)) (by omega)]
    apply hK; clear hK K
    refine L_reg [0, 5, 6, 13] (fun K hK => ?_)
    simp [hF.1]
    refine hF.2 k H1 (by omega) (by omega) hE _ (fun H2 E2 => ?_)
    simp
    apply hK; clear hK K
    by_cases hP : P k
    · refine L_true (by simp [hP]) ?_
      refine L_reg [2, 3] (fun K hK => ?_)
      simp
      apply hK; clear hK K
      exact L_ret ⟨.inr rfl, _, rfl, (h H2 (hE.trans E2)).1 k (by omega) (by omega) hP (fun j h1 h2 => hno j h1 (by omega))⟩
    · refine L_false (by simp [hP]) ?_
      refine L_reg [0, 6] (fun K hK => ?_)
      simp [hki, wrap_i64 (a := (k : Int)) (by omega)]
      apply hK; clear hK K
      refine ⟨1000 - k, [.int .i64 (k : Nat)], by omega, rfl, k, rfl, by omega, fun j h1 h2 => ?_, rfl, hE.trans E2⟩
      by_cases e : j = k
      · rw [e]; exact hP
      · exact hno j h1 (by omega)
  · refine L_reg [2, 3] (fun K hK => ?_)
    simp
    apply hK; clear hK K
    exact L_ret ⟨.inr rfl, _, rfl, (h H1 hE).2 (fun j h1 h2 => hno j h1 (by omega))⟩
/-- Who stays last is x. -/
def LastIs (n : Nat) (x : Int) (k : Nat) : Prop := g (orderS n k) (n - 1) = x
instance (n : Nat) (x : Int) : DecidablePred (LastIs n x) := fun k => by unfold LastIs; infer_instance
theorem fitsS_ac (n : Nat) (x : Int) (p q s t : Nat) (h0 : 1 ≤ n) (h1 : n ≤ 1000) (H : AH) (hp : H[p]? = some (.row [.int .i64 n] 0 s false)) (hq : H[q]? = some (.row [.int .i64 x] 0 t false)) : FitsC 64 [.ptr p 0 0, .ptr q 0 0] (LastIs n x) H := by
  refine ⟨okFn_low (by omega) (by omega), fun k H1 k1 k2 hE Q hQ => ?_⟩
  have l1 : ld H1 p 0 0 = some (.int .i64 n) := by rw [ld_row (hE.row hp)]; rfl
  have l2 : ld H1 q 0 0 = some (.int .i64 x) := by rw [ld_row (hE.row hq)]; rfl
  refine L_body 10 Try.func64 rfl rfl ?_
  refine L_reg [0, 1, 2] (fun K hK => ?_)
  simp
  apply hK; clear hK K
  refine L_regQ mixed [4] (by kernel_rfl) (fun K hK => ?_)
  simp [okFn_low, l1]
  refine exQ_mk (fun Q hQ => last_q n k h0 h1 k1 (by omega) _ Q hQ) ?_
  simp [l2]
  apply hK; clear hK K
  have e : decide (g (orderS n k) (n - 1) = x) = decide (LastIs n x k) := rfl
  have h2 := hQ H1 (.refl _)
  rw [← e] at h2
  exact L_ret ⟨.inr rfl, _, rfl, by simpa [Bool.beq_eq_decide_eq] using h2⟩
/-- What Smallest is asked. -/
def smallQ (n x : Int) (H : AH) (Q : AV → AH → Prop) : Prop :=
  ((1 ≤ n ∧ n ≤ 20) ∧ (0 ≤ x ∧ x < n) → minQ (LastIs n.toNat x) Q H) ∧ ((1 ≤ n ∧ n ≤ 20) ∧ ¬ (0 ≤ x ∧ x < n) → Q (.tuple [.int .i64 0, .int .i64 2]) H) ∧ (¬ (1 ≤ n ∧ n ≤ 20) → Q (.tuple [.int .i64 0, .int .i64 1]) H)
theorem Smallest_ac (n x : Int) (H : AH) (Q : AV → AH → Prop) (h : ∀ H', Ext H H' → smallQ n x H' Q) : AC Try.prog 33 [.int .i64 n, .int .i64 x] H Q := by
  refine L_body 17 Try.func33 rfl rfl ?_
  refine L_reg [2, 3] (fun K hK => ?_)
  simp [AV.isU, acells]
  apply hK; clear hK K
  have hE0 : Ext H (H ++ [AObj.row [.int .i64 n] 0 0 false, AObj.row [.int .i64 x] 0 0 false]) := .push _ _
  have hp : (H ++ [AObj.row [.int .i64 n] 0 0 false, AObj.row [.int .i64 x] 0 0 false])[H.length]? = some (.row [.int .i64 n] 0 0 false) := by simp
  have hq : (H ++ [AObj.row [.int .i64 n] 0 0 false, AObj.row [.int .i64 x] 0 0 false])[H.length + 1]? = some (.row [.int .i64 x] 0 0 false) := by simp
  generalize H ++ [AObj.row [.int .i64 n] 0 0 false, AObj.row [.int .i64 x] 0 0 false] = H1 at hE0 hp hq ⊢
  have l1 : ld H1 H.length 0 0 = some (.int .i64 n) := by rw [ld_row hp]; rfl
  have l2 : ld H1 (H.length + 1) 0 0 = some (.int .i64 x) := by rw [ld_row hq]; rfl
  obtain ⟨a1, a2, a3⟩ := h H1 hE0
  by_cases h1 : 1 ≤ n ∧ n ≤ 20
  · refine L_reg [2, 3, 8] (fun K hK => ?_)
    simp [okFn_low, l1]
    refine isBench_ac _ _ _ ?_
    simp [decide_eq_true h1]
    apply hK; clear hK K
    refine L_false (by simp) ?_
    by_cases h2 : 0 ≤ x ∧ x < n
    · refine L_reg [2, 3, 12] (fun K hK => ?_)
      simp [okFn_low, l1, l2]
      refine isRoller_ac _ _ _ _ ?_
      simp [decide_eq_true h2]
      apply hK; clear hK K
      refine L_false (by simp) ?_
      obtain ⟨n, rfl⟩ : ∃ y : Nat, n = y := ⟨n.toNat, by omega⟩
      refine L_reg [4, 5] (fun K hK => ?_)
      simp [okFn_low]
      refine smallest_ac 64 _ (LastIs n x) _ _ (fitsS_ac n x _ _ 0 0 (by omega) (by omega) H1 hp hq) (fun H2 E2 => ?_)
      obtain ⟨b1, -, -⟩ := h H2 (hE0.trans E2)
      obtain ⟨c1, c2⟩ := b1 ⟨h1, h2⟩
      simp only [Int.toNat_natCast] at c1 c2
      refine ⟨fun k k1 k2 k3 k4 => ?_, fun hno => ?_⟩
      · simp
        apply hK; clear hK K
        exact L_ret ⟨.inr rfl, _, rfl, c1 k k1 k2 k3 k4⟩
      · simp
        apply hK; clear hK K
        exact L_ret ⟨.inr rfl, _, rfl, c2 hno⟩
    · refine L_reg [2, 3, 12] (fun K hK => ?_)
      simp [okFn_low, l1, l2]
      refine isRoller_ac _ _ _ _ ?_
      simp [decide_eq_false h2]
      apply hK; clear hK K
      refine L_true (by simp) ?_
      refine L_reg [4, 5] (fun K hK => ?_)
      simp
      apply hK; clear hK K
      exact L_ret ⟨.inr rfl, _, rfl, a2 ⟨h1, h2⟩⟩
  · refine L_reg [2, 3, 8] (fun K hK => ?_)
    simp [okFn_low, l1]
    refine isBench_ac _ _ _ ?_
    simp [decide_eq_false h1]
    apply hK; clear hK K
    refine L_true (by simp) ?_
    refine L_reg [4, 5] (fun K hK => ?_)
    simp
    apply hK; clear hK K
    exact L_ret ⟨.inr rfl, _, rfl, a3 h1⟩
theorem SmallestR_ac (n x : Int) (H : AH) (Q : AV → AH → Prop) (h : ∀ H', Ext H H' → smallQ n x H' Q) : AC Try.prog 34 [.int .i64 n, .int .i64 x] H Q := by
  refine L_body 29 Try.func34 rfl rfl ?_
  refine L_reg [0, 1] (fun K hK => ?_)
  simp
  apply hK; clear hK K
  obtain ⟨a1, a2, a3⟩ := h H (.refl _)
  by_cases h1 : 1 ≤ n ∧ n ≤ 20
  · refine L_reg [0, 1, 9] (fun K hK => ?_)
    simp [okFn_low]
    refine in_ac _ _ _ _ _ ?_
    simp [decide_eq_true h1]
    apply hK; clear hK K
    refine L_false (by simp) ?_
    have w1 : IntKind.i64.wrap (n - 1) = n - 1 := wrap_i64 (by omega)
    by_cases h2 : 0 ≤ x ∧ x < n
    · have h2' : 0 ≤ x ∧ x ≤ n - 1 := by omega
      refine L_reg [0, 1, 14] (fun K hK => ?_)
      simp [okFn_low, w1]
      refine in_ac _ _ _ _ _ ?_
      simp [decide_eq_true h2']
      apply hK; clear hK K
      refine L_false (by simp) ?_
      obtain ⟨n, rfl⟩ : ∃ y : Nat, n = y := ⟨n.toNat, by omega⟩
      refine L_reg [0, 1, 6] (fun K hK => ?_)
      simp
      apply hK; clear hK K
      refine L_block (L_loopV [6] (fun m vs H' => ∃ i : Nat, m = 1000 - i ∧ i ≤ 1000 ∧ (∀ j, 1 ≤ j → j ≤ i → ¬ LastIs n x j) ∧ vs = [.int .i64 (i + 1 : Nat)] ∧ Ext H H') _ [.int .i64 1] rfl ⟨0, rfl, by omega, fun j h1 h2 => by omega, rfl, .refl _⟩ ?_)
      rintro m _ H1 ⟨i, rfl, hi, hno, rfl, hE⟩
      obtain ⟨k, hk⟩ : ∃ k : Nat, k = i + 1 := ⟨_, rfl⟩
      rw [← hk]
      refine L_reg [0, 1, 6, 16] (fun K hK => ?_)
      simp
      apply hK; clear hK K
      obtain ⟨b1, -, -⟩ := h H1 hE
      obtain ⟨c1, c2⟩ := b1 ⟨h1, h2⟩
      simp only [Int.toNat_natCast] at c1 c2
      refine L_dec (k ≤ 1000) (by simp; omega) (fun hlt => ?_) (fun hge => L_exit ?_)
      · refine L_block ?_
        have hl := orderS_len n k
        refine L_reg [0, 1, 6, 27] (fun K hK => ?_)
        simp [okFn_low]
        refine orderR_ac n k (by omega) (by omega) (by omega) _ _ (fun v H2 o2 E2 => ?_)
        obtain ⟨r, off, ver, sz, full, rfl, hld⟩ := o2.own.ls
        obtain ⟨r', rfl, rfl, hrd⟩ := hld (n - 1) (by omega)
        rw [← g_lt (by omega)] at hrd
        have e1 : ((n : Int) - 1) = ((n - 1 : Nat) : Int) := by omega
        have hlt : n - 1 < n := by omega
        simp [e1, wrap_i64 (a := ((n - 1 : Nat) : Int)) (by omega), hl, hlt, hrd]
        apply hK; clear hK K
        obtain ⟨d1, -, -⟩ := h H2 (hE.trans E2)
        obtain ⟨e3, -⟩ := d1 ⟨h1, h2⟩
        simp only [Int.toNat_natCast] at e3
        by_cases hP : LastIs n x k
        · refine L_true (by simp; exact hP) ?_
          refine L_reg [4, 5] (fun K hK => ?_)
          simp
          apply hK; clear hK K
          exact L_ret ⟨.inr rfl, _, rfl, e3 k (by omega) (by omega) hP (fun j h1 h2 => hno j h1 (by omega))⟩
        · refine L_false (by simp; exact hP) ?_
          refine L_reg [0, 1, 6] (fun K hK => ?_)
          simp [wrap_i64 (a := (k : Int) + 1) (by omega)]
          apply hK; clear hK K
          refine ⟨1000 - k, [.int .i64 (k + 1 : Nat)], by omega, by simp, k, rfl, by omega, fun j h1 h2 => ?_, rfl, hE.trans E2⟩
          by_cases e : j = k
          · rw [e]; exact hP
          · exact hno j h1 (by omega)
      · refine L_reg [4, 5] (fun K hK => ?_)
        simp
        apply hK; clear hK K
        exact L_ret ⟨.inr rfl, _, rfl, c2 (fun j h1 h2 => hno j h1 (by omega))⟩
    · have h2' : ¬ (0 ≤ x ∧ x ≤ n - 1) := by omega
      refine L_reg [0, 1, 14] (fun K hK => ?_)
      simp [okFn_low, w1]
      refine in_ac _ _ _ _ _ ?_
      simp [decide_eq_false h2']
      apply hK; clear hK K
      refine L_true (by simp) ?_
      refine L_reg [4, 5] (fun K hK => ?_)
      simp
      apply hK; clear hK K
      exact L_ret ⟨.inr rfl, _, rfl, a2 ⟨h1, h2⟩⟩
  · refine L_reg [0, 1, 9] (fun K hK => ?_)
    simp [okFn_low]
    refine in_ac _ _ _ _ _ ?_
    simp [decide_eq_false h1]
    apply hK; clear hK K
    refine L_true (by simp) ?_
    refine L_reg [4, 5] (fun K hK => ?_)
    simp
    apply hK; clear hK K
    exact L_ret ⟨.inr rfl, _, rfl, a3 h1⟩
end Go.Proofs.Ytmlhekfkniibmaa

/- Some go first: the smallest count. -/
namespace Go.Proofs.Ytmlhekfkniibmaa
open Go Go.Proofs.Ytmlhekfkniibmaa.AX

def homI (n : Int) (l : List Int) : Nat → Nat → Int
  | 0, _ => 0
  | m + 1, i => if 0 ≤ g l i ∧ g l i < n then (if 0 < i ∧ g l i ≤ g l (i - 1) then 7 else homI n l m (i + 1)) else 2
def homeE (n : Int) (l : List Int) : Int := if 1 ≤ n ∧ n ≤ 20 then homI n l l.length 0 else 1
theorem homI_zero {n : Int} {l : List Int} : ∀ {m i : Nat}, homI n l m i = 0 → ∀ j, i ≤ j → j < i + m → (0 ≤ g l j ∧ g l j < n) ∧ (0 < j → g l (j - 1) < g l j)
  | 0, i, _, j, h1, h2 => by omega
  | m + 1, i, h, j, h1, h2 => by
    simp only [homI] at h
    split at h
    · rename_i h3
      split at h
      · cases h
      · rename_i h4
        rcases Nat.lt_or_ge i j with e | e
        · exact homI_zero h j (by omega) (by omega)
        · have : j = i := by omega
          subst this
          exact ⟨h3, fun h5 => by omega⟩
    · cases h
theorem homeE_zero {n : Int} {l : List Int} (h : homeE n l = 0) : (1 ≤ n ∧ n ≤ 20) ∧ (∀ x ∈ l, 0 ≤ x ∧ x < n) ∧ l.Pairwise (· < ·) ∧ (l.length : Int) ≤ n := by
  unfold homeE at h
  split at h
  · rename_i h1
    have h2 := homI_zero h
    have h3 : ∀ d i : Nat, i + d < l.length → g l i + d ≤ g l (i + d) := by
      intro d
      induction d with
      | zero => intro i hi; simp
      | succ d ih =>
        intro i hi
        have h4 := ih i (by omega)
        have h5 := (h2 (i + (d + 1)) (by omega) (by omega)).2 (by omega)
        rw [show i + (d + 1) - 1 = i + d by omega] at h5
        omega
    refine ⟨h1, fun x hx => ?_, ?_, ?_⟩
    · obtain ⟨i, hi, rfl⟩ := List.mem_iff_getElem.1 hx
      have := (h2 i (by omega) (by omega)).1
      rwa [g_lt hi] at this
    · rw [List.pairwise_iff_getElem]
      intro i j hi hj hij
      have := h3 (j - i) i (by omega)
      rw [show i + (j - i) = j by omega, g_lt hi, g_lt hj] at this
      omega
    · rcases Nat.eq_zero_or_pos l.length with e | e
      · omega
      · have h6 := h3 (l.length - 1) 0 (by omega)
        have h7 := (h2 (l.length - 1) (by omega) (by omega)).1
        have h8 := (h2 0 (by omega) (by omega)).1
        rw [Nat.zero_add] at h6
        omega
  · cases h
set_option maxHeartbeats 1000000 in
theorem checkHome_ac (n : Int) (v : AV) (l : List Int) (H : AH) (Q : AV → AH → Prop) (hv : Ls H v l) (hlen : l.length ≤ 1000000) (h : Q (.int .i64 (homeE n l)) H) : AC Try.prog 65 [.int .i64 n, v] H Q := by
  obtain ⟨r, off, ver, sz, full, rfl, hld⟩ := id hv
  refine L_body 33 Try.func65 rfl rfl ?_
  refine L_reg [0, 1] (fun K hK => ?_)
  simp
  apply hK; clear hK K
  unfold homeE at h
  by_cases h1 : 1 ≤ n ∧ n ≤ 20
  · rw [if_pos h1] at h
    refine L_reg [0, 1, 9] (fun K hK => ?_)
    simp [okFn_low]
    refine isBench_ac _ _ _ ?_
    simp [decide_eq_true h1]
    apply hK; clear hK K
    refine L_false (by simp) ?_
    refine L_reg [0, 1, 10, 11, 12] (fun K hK => ?_)
    simp
    apply hK; clear hK K
    refine L_block (L_loopV [12] (fun m vs H' => ∃ i : Nat, m = l.length - i ∧ i ≤ l.length ∧ homI n l (l.length - i) i = homI n l l.length 0 ∧ vs = [.int .i64 i] ∧ H = H') _ [.int .i64 0] rfl ⟨0, rfl, by omega, rfl, rfl, rfl⟩ ?_)
    rintro m _ _ ⟨i, rfl, hi, hc, rfl, rfl⟩
    refine L_reg [0, 1, 10, 11, 12, 13] (fun K hK => ?_)
    simp
    apply hK; clear hK K
    refine L_dec (i < l.length) (by simp) (fun hlt => ?_) (fun hge => L_exit ?_)
    · refine L_block ?_
      obtain ⟨r', rfl, rfl, hx⟩ := hld i hlt
      rw [← g_lt hlt] at hx
      obtain ⟨m, hm⟩ : ∃ m, l.length - i = m + 1 := ⟨l.length - i - 1, by omega⟩
      rw [hm] at hc
      simp only [homI] at hc
      refine L_reg [0, 1, 5, 6, 10, 11, 12] (fun K hK => ?_)
      simp [hx, hlt]
      apply hK; clear hK K
      by_cases h2 : 0 ≤ g l i ∧ g l i < n
      · rw [if_pos h2] at hc
        refine L_reg [0, 1, 5, 6, 10, 11, 12, 20] (fun K hK => ?_)
        simp [okFn_low]
        refine isRoller_ac _ _ _ _ ?_
        simp [decide_eq_true h2]
        apply hK; clear hK K
        refine L_false (by simp) ?_
        by_cases h0 : 0 < i
        · obtain ⟨j, rfl⟩ : ∃ j, i = j + 1 := ⟨i - 1, by omega⟩
          obtain ⟨r2, e2, -, hy⟩ := hld j (by omega)
          obtain rfl := Option.some.inj e2
          rw [← g_lt (by omega)] at hy
          have hji : (((j + 1 : Nat) : Int)) - 1 = (j : Int) := by omega
          have hj0 : 0 < ((j + 1 : Nat) : Int) := by omega
          have hjl : j < l.length := by omega
          rw [Nat.add_sub_cancel] at hc
          have hwj : IntKind.i64.wrap (j : Int) = (j : Int) := wrap_i64 (by omega)
          have hpos : (0 : Int) < (j : Int) + 1 := by omega
          refine L_reg [0, 1, 10, 11, 12, 31] (fun K hK => ?_)
          simp [pickV, hpos, hwj, hjl, hy]
          apply hK; clear hK K
          by_cases h3 : g l (j + 1) ≤ g l j
          · rw [if_pos ⟨h0, h3⟩] at hc
            refine L_true (by simp [h3]) ?_
            rw [← hc] at h
            refine L_reg [4] (fun K hK => ?_)
            simp
            apply hK; clear hK K
            exact L_ret ⟨.inr rfl, _, rfl, h⟩
          · rw [if_neg (fun e => h3 e.2)] at hc
            refine L_false (by simp; omega) ?_
            refine L_reg [0, 1, 10, 11, 12] (fun K hK => ?_)
            simp [wrap_i64 (a := (j : Int) + 1 + 1) (by omega)]
            apply hK; clear hK K
            exact ⟨l.length - (j + 1 + 1), [.int .i64 (j + 1 + 1 : Nat)], by omega, by simp, j + 1 + 1, rfl, by omega, by rw [show l.length - (j + 1 + 1) = m by omega]; exact hc, rfl, rfl⟩
        · have hi0 : i = 0 := by omega
          subst hi0
          rw [if_neg (fun e => h0 e.1)] at hc
          refine L_reg [0, 1, 10, 11, 12, 31] (fun K hK => ?_)
          simp [pickV]
          apply hK; clear hK K
          refine L_false (by simp) ?_
          refine L_reg [0, 1, 10, 11, 12] (fun K hK => ?_)
          simp [wrap_i64 (a := (1 : Int)) (by omega)]
          apply hK; clear hK K
          exact ⟨l.length - 1, [.int .i64 (1 : Nat)], by omega, by simp, 1, rfl, by omega, by rw [show l.length - 1 = m by omega]; exact hc, rfl, rfl⟩
      · rw [if_neg h2] at hc
        refine L_reg [0, 1, 5, 6, 10, 11, 12, 20] (fun K hK => ?_)
        simp [okFn_low]
        refine isRoller_ac _ _ _ _ ?_
        simp [decide_eq_false h2]
        apply hK; clear hK K
        refine L_true (by simp) ?_
        rw [← hc] at h
        refine L_reg [4] (fun K hK => ?_)
        simp
        apply hK; clear hK K
        exact L_ret ⟨.inr rfl, _, rfl, h⟩
    · have hi' : l.length - i = 0 := by omega
      rw [hi'] at hc
      simp only [homI] at hc
      rw [← hc] at h
      refine L_reg [4] (fun K hK => ?_)
      simp
      apply hK; clear hK K
      exact L_ret ⟨.inr rfl, _, rfl, h⟩
  · rw [if_neg h1] at h
    refine L_reg [0, 1, 9] (fun K hK => ?_)
    simp [okFn_low]
    refine isBench_ac _ _ _ ?_
    simp [decide_eq_false h1]
    apply hK; clear hK K
    refine L_true (by simp) ?_
    refine L_reg [4] (fun K hK => ?_)
    simp
    apply hK; clear hK K
    exact L_ret ⟨.inr rfl, _, rfl, h⟩
/-- The first ones of the order are all in a list. -/
def FirstIs (n : Nat) (l : List Int) (k : Nat) : Prop := ∀ x ∈ (orderS n k).take l.length, x ∈ l
instance (n : Nat) (l : List Int) : DecidablePred (FirstIs n l) := fun k => by unfold FirstIs; infer_instance
theorem first_iff {n k : Nat} {l m : List Int} (hl : l.Pairwise (· < ·)) (hlen : l.length ≤ n) (hm : m.Perm ((orderS n k).take l.length)) (hs : Ord.Srt (fun x => x) 0 m.length m) : m = l ↔ FirstIs n l k := by
  have hnd : (orderS n k).Nodup := (orderS_perm n k).nodup_iff.2 (allS_nodup n)
  have hnt : ((orderS n k).take l.length).Nodup := List.Pairwise.sublist (List.take_sublist _ _) hnd
  have hmd := hm.nodup_iff.2 hnt
  constructor
  · intro e x hx
    rw [← e]; exact hm.mem_iff.2 hx
  · intro hF
    have hp : ((orderS n k).take l.length).Perm l := perm_of_sub hnt hF (by simp [orderS_len]; omega)
    have hml := hm.trans hp
    refine sorted_ext ?_ hl (fun z => hml.mem_iff)
    rw [List.pairwise_iff_getElem]
    intro i j hi hj hij
    have h1 := hs i j (by omega) hij hj
    have h2 := (List.pairwise_iff_getElem.1 hmd) i j hi hj hij
    simp only [g_lt hi, g_lt hj] at h1
    omega
set_option maxHeartbeats 1000000 in
theorem goFirst_ac (n k : Nat) (v : AV) (l : List Int) (H : AH) (Q : AV → AH → Prop) (h0 : 1 ≤ n) (h1 : n ≤ 20) (h3 : 1 ≤ k) (h4 : k ≤ 1000000) (hv : Ls H v l) (hl : l.Pairwise (· < ·)) (hlen : l.length ≤ n) (h : ∀ H', Ext H H' → Q (.bool (decide (FirstIs n l k))) H') : AC Try.prog 67 [.int .i64 n, .int .i64 k, v] H Q := by
  obtain ⟨r0, off0, ver0, sz0, full0, hv0, -⟩ := id hv
  refine L_body 21 Try.func67 rfl rfl ?_
  have hol := orderS_len n k
  refine L_reg [0, 1, 2] (fun K hK => ?_)
  simp
  apply hK; clear hK K
  refine L_reg [2, 7] (fun K hK => ?_)
  simp [okFn_low]
  refine order_ac n k (by omega) h3 (by omega) _ _ (fun w H1 o1 E1 => ?_)
  have hv1 := hv.ext E1
  rcases o1 with ⟨e, -⟩ | ⟨r, ver, st, hr, rfl, hrow⟩
  · have := congrArg List.length e; simp [hol] at this; omega
  have s1 := sliceS22 (full := false) (r := r) (off := 0) (len := n) (ver := ver) hlen
  simp [hv0, hol, s1]
  apply hK; clear hK K
  have hrl : r < H1.length := (List.getElem?_eq_some_iff.1 hrow).1
  have hrT : Ord.Rw r ver H1 ((orderS n k).take l.length) := ⟨st, ((orderS n k).drop l.length).map (.int .i64), by rw [← List.map_append, List.take_append_drop]; exact hrow⟩
  refine L_reg [2, 7] (fun K hK => ?_)
  simp [okFn_low]
  refine Sort_ac (sb := true) r ver _ l.length (by simp [hol]; omega) _ _ hrT hrl (by omega) (fun H2 m m1 m2 m3 m4 => ?_)
  simp
  apply hK; clear hK K
  have hE2 : Ext H H2 := m4.new E1 hr
  have hml : m.length = l.length := by rw [m1.length_eq]; simp [hol]; omega
  have hv2 : Ls H2 (.slice r0 off0 l.length ver0 sz0 full0) l := by rw [← hv0]; exact hv.ext hE2
  rw [← hml] at m2
  have hiff := first_iff hl hlen m1 m2
  have hd : decide (m = l) = decide (FirstIs n l k) := decide_eq_decide.2 hiff
  refine L_reg [6] (fun K hK => ?_)
  simp [okFn_low]
  refine Equal_ac true r ver 0 l.length m l _ _ _ (fun i hi => by rw [Nat.zero_add]; exact m3.ld (by omega)) hml (by omega) hv2 ?_
  simp
  apply hK; clear hK K
  exact L_ret ⟨.inr rfl, _, rfl, by rw [hd]; exact h _ hE2⟩
theorem goFirst_q (n k : Nat) (v : AV) (l : List Int) (H : AH) (Q : AV → AH → Prop) (h0 : 1 ≤ n) (h1 : n ≤ 20) (h3 : 1 ≤ k) (h4 : k ≤ 1000000) (hv : Ls H v l) (hl : l.Pairwise (· < ·)) (hlen : l.length ≤ n) (h : Q (.bool (decide (FirstIs n l k))) H) : AC Try.prog 67 [.int .i64 n, .int .i64 k, v] H Q :=
  AC.quiet (belB_bool _ _ _) (fun Q h => goFirst_ac n k v l H Q h0 h1 h3 h4 hv hl hlen h) Q h
theorem fitsF_ac (n : Nat) (v : AV) (l : List Int) (p q s t : Nat) (h0 : 1 ≤ n) (h1 : n ≤ 20) (hl : l.Pairwise (· < ·)) (hlen : l.length ≤ n) (H : AH) (hv : Ls H v l) (hp : H[p]? = some (.row [.int .i64 n] 0 s false)) (hq : H[q]? = some (.row [v] 0 t false)) : FitsC 66 [.ptr p 0 0, .ptr q 0 0] (FirstIs n l) H := by
  refine ⟨okFn_low (by omega) (by omega), fun k H1 k1 k2 hE Q hQ => ?_⟩
  obtain ⟨r0, off0, ver0, sz0, full0, rfl, -⟩ := id hv
  have l1 : ld H1 p 0 0 = some (.int .i64 n) := by rw [ld_row (hE.row hp)]; rfl
  have l2 : ld H1 q 0 0 = some (.slice r0 off0 l.length ver0 sz0 full0) := by rw [ld_row (hE.row hq)]; rfl
  refine L_body 9 Try.func66 rfl rfl ?_
  refine L_reg [0, 1, 2] (fun K hK => ?_)
  simp
  apply hK; clear hK K
  refine L_reg [4] (fun K hK => ?_)
  simp [okFn_low, l1, l2]
  refine goFirst_q n k _ l _ _ h0 h1 k1 (by omega) (hv.ext hE) hl hlen ?_
  simp
  apply hK; clear hK K
  exact L_ret ⟨.inr rfl, _, rfl, hQ _ (.refl _)⟩
/-- What First is asked. -/
def firstQ (n : Int) (l : List Int) (H : AH) (Q : AV → AH → Prop) : Prop :=
  (homeE n l = 0 → minQ (FirstIs n.toNat l) Q H) ∧ (homeE n l ≠ 0 → Q (.tuple [.int .i64 0, .int .i64 (homeE n l)]) H)
theorem First_ac (n : Int) (v : AV) (l : List Int) (H : AH) (Q : AV → AH → Prop) (hv : Ls H v l) (hlen : l.length ≤ 1000000) (h : ∀ H', Ext H H' → firstQ n l H' Q) : AC Try.prog 35 [.int .i64 n, v] H Q := by
  obtain ⟨r0, off0, ver0, sz0, full0, rfl, -⟩ := id hv
  refine L_body 17 Try.func35 rfl rfl ?_
  refine L_reg [2, 3] (fun K hK => ?_)
  simp [AV.isU, acells]
  apply hK; clear hK K
  have hE0 : Ext H (H ++ [AObj.row [.int .i64 n] 0 0 false, AObj.row [.slice r0 off0 l.length ver0 sz0 full0] 0 0 false]) := .push _ _
  have hp : (H ++ [AObj.row [.int .i64 n] 0 0 false, AObj.row [.slice r0 off0 l.length ver0 sz0 full0] 0 0 false])[H.length]? = some (.row [.int .i64 n] 0 0 false) := by simp
  have hq : (H ++ [AObj.row [.int .i64 n] 0 0 false, AObj.row [.slice r0 off0 l.length ver0 sz0 full0] 0 0 false])[H.length + 1]? = some (.row [.slice r0 off0 l.length ver0 sz0 full0] 0 0 false) := by simp
  generalize H ++ [AObj.row [.int .i64 n] 0 0 false, AObj.row [.slice r0 off0 l.length ver0 sz0 full0] 0 0 false] = H1 at hE0 hp hq ⊢
  have l1 : ld H1 H.length 0 0 = some (.int .i64 n) := by rw [ld_row hp]; rfl
  have l2 : ld H1 (H.length + 1) 0 0 = some (.slice r0 off0 l.length ver0 sz0 full0) := by rw [ld_row hq]; rfl
  have hv1 := hv.ext hE0
  refine L_reg [2, 3, 6] (fun K hK => ?_)
  simp [okFn_low, l1, l2]
  refine checkHome_ac n _ l _ _ hv1 hlen ?_
  simp
  apply hK; clear hK K
  refine L_reg [2, 3, 6, 11] (fun K hK => ?_)
  simp
  apply hK; clear hK K
  by_cases h1 : homeE n l = 0
  · refine L_false (by simp [h1]) ?_
    obtain ⟨b1, -, b3, b4⟩ := homeE_zero h1
    obtain ⟨n, rfl⟩ : ∃ y : Nat, n = y := ⟨n.toNat, by omega⟩
    refine L_reg [4, 5] (fun K hK => ?_)
    simp [okFn_low]
    refine smallest_ac 66 _ (FirstIs n l) _ _ (fitsF_ac n _ l _ _ 0 0 (by omega) (by omega) b3 (by omega) H1 hv1 hp hq) (fun H2 E2 => ?_)
    obtain ⟨b1, -⟩ := h H2 (hE0.trans E2)
    obtain ⟨c1, c2⟩ := b1 h1
    simp only [Int.toNat_natCast] at c1 c2
    refine ⟨fun k k1 k2 k3 k4 => ?_, fun hno => ?_⟩
    · simp
      apply hK; clear hK K
      exact L_ret ⟨.inr rfl, _, rfl, c1 k k1 k2 k3 k4⟩
    · simp
      apply hK; clear hK K
      exact L_ret ⟨.inr rfl, _, rfl, c2 hno⟩
  · refine L_true (by simp [h1]) ?_
    refine L_reg [4, 5] (fun K hK => ?_)
    simp
    apply hK; clear hK K
    exact L_ret ⟨.inr rfl, _, rfl, (h H1 hE0).2 h1⟩
end Go.Proofs.Ytmlhekfkniibmaa

/- BenchGrown, walked. -/
namespace Go.Proofs.Ytmlhekfkniibmaa
open Go Go.Proofs.Ytmlhekfkniibmaa.AX
theorem okB_mk {n k : Nat} (h1 : 1 ≤ n) (h2 : n ≤ 20) (h3 : 1 ≤ k) (h4 : k ≤ 1000000000) : okB n k := ⟨by omega, by omega⟩
theorem LastN_ac (n k : Nat) (h1 : 1 ≤ n) (h2 : n ≤ 20) (h3 : 1 ≤ k) (h4 : k ≤ 1000000000) (H : AH) (Q : AV → AH → Prop) (h : ∀ H', Ext H H' → Q (.tuple [.int .i64 (g (orderS n k) (n - 1)), .int .i64 0]) H') : AC Try.prog 15 [.int .i64 n, .int .i64 k] H Q := by
  refine Last_ac n k H Q ?_
  have hk := okB_mk h1 h2 h3 h4
  rw [benchE_ok hk]
  unfold lastP
  rw [if_pos hk, Int.toNat_natCast, Int.toNat_natCast]
  exact h
theorem OrderN_ac (n k : Nat) (h1 : 1 ≤ n) (h2 : n ≤ 20) (h3 : 1 ≤ k) (h4 : k ≤ 1000000000) (H : AH) (Q : AV → AH → Prop) (h : ∀ v H', OwnF H.length H' v ((orderS n k).map (.int .i64)) → Ext H H' → Q (.tuple [v, .int .i64 0]) H') : AC Try.prog 13 [.int .i64 n, .int .i64 k] H Q := by
  refine Order_ac n k H Q ?_
  have hk := okB_mk h1 h2 h3 h4
  rw [benchE_ok hk]
  unfold orderP
  rw [if_pos hk, Int.toNat_natCast, Int.toNat_natCast]
  exact h
theorem shl_small {P : Program} {t : TypeId} {l : Bool} {k' : IntKind} {j : Nat} (hj : j ≤ 6) : binV P .shl t l (.int .i64 1) (.int k' (j : Int)) = some (.int .i64 ((2 : Int) ^ j)) := by
  rw [b_shl (Int.natCast_nonneg j)]
  have : j = 0 ∨ j = 1 ∨ j = 2 ∨ j = 3 ∨ j = 4 ∨ j = 5 ∨ j = 6 := by omega
  rcases this with rfl | rfl | rfl | rfl | rfl | rfl | rfl <;> rfl
theorem wrap_u32 {a : Int} (h : 0 ≤ a ∧ a ≤ 4294967295) : IntKind.u32.wrap a = a := by
  have e1 : (2 : Int) ^ 32 = 4294967296 := by decide
  unfold IntKind.wrap
  simp only [IntKind.bits, IntKind.signed, e1]
  have : a % 4294967296 = a := Int.emod_eq_of_lt (by omega) (by omega)
  simp [this]
set_option maxRecDepth 100000 in
set_option maxHeartbeats 4000000 in
theorem benchGrown_ac (a b : Nat) (ha : a < 256) (hb : b < 4294967296) (H : AH) : AC Try.prog 9 [.int .u8 a, .int .u32 b] H fun u _ => u = .bool true := by
  refine L_body 114 Try.func9 rfl rfl ?_
  refine L_reg [0, 1] (fun K hK => ?_)
  simp
  apply hK; clear hK K
  obtain ⟨n, hn⟩ : ∃ n : Nat, n = 1 + a % 19 := ⟨_, rfl⟩
  obtain ⟨k, hk⟩ : ∃ k : Nat, k = 1 + b % 1000000000 := ⟨_, rfl⟩
  have e1 : (1 : Int) + ((a : Int)).tmod 19 = (n : Int) := by rw [Int.tmod_eq_emod_of_nonneg (by omega)]; omega
  have e2 : (1 : Int) + ((b : Int)).tmod 1000000000 = (k : Int) := by rw [Int.tmod_eq_emod_of_nonneg (by omega)]; omega
  have hn1 : 1 ≤ n := by omega
  have hn2 : n ≤ 19 := by omega
  have hk1 : 1 ≤ k := by omega
  have hk2 : k ≤ 1000000000 := by omega
  have f1 : IntKind.i64.wrap ((a : Int).tmod 19) = (a : Int).tmod 19 := by rw [Int.tmod_eq_emod_of_nonneg (by omega)]; exact wrap_i64 (by omega)
  have f2 : IntKind.i64.wrap ((b : Int).tmod 1000000000) = (b : Int).tmod 1000000000 := by rw [Int.tmod_eq_emod_of_nonneg (by omega)]; exact wrap_i64 (by omega)
  have f3 : IntKind.u32.wrap ((b : Int).tmod 1000000000) = (b : Int).tmod 1000000000 := by rw [Int.tmod_eq_emod_of_nonneg (by omega)]; exact wrap_u32 (by omega)
  refine L_reg [5, 6] (fun K hK => ?_)
  simp [wrap_i64 (a := (a : Int)) (by omega), f2, e1, e2, wrap_i64 (a := (n : Int)) (by omega), wrap_i64 (a := (k : Int)) (by omega)]
  apply hK; clear hK K
  clear e1 e2 f1 f2 f3 hn hk ha hb
  have hj := josephus (n := n) (k := k) (by omega) hk1
  have hl := last_mem (n := n) (k := k) (by omega)
  have h2 := last_two hn1 hn2
  have ho := order_one hn2
  obtain ⟨m, hm⟩ : ∃ m : Nat, m = n + 1 := ⟨_, rfl⟩
  have hmi : (n : Int) + 1 = (m : Int) := by omega
  obtain ⟨x, hx⟩ : ∃ x : Nat, g (orderS n k) (n - 1) = x := ⟨(g (orderS n k) (n - 1)).toNat, by omega⟩
  have hL2 := LastN_ac m k (by omega) (by omega) hk1 hk2
  rw [← hm] at hj
  rw [show n = m - 1 by omega, show m - 1 - 1 = n - 1 by omega, show m - 1 = n by omega] at hj
  rw [show m - 1 = n by omega] at hL2
  rw [hj, hx] at hL2
  rw [hx] at hl
  have hL1 := LastN_ac n k hn1 (by omega) hk1 hk2
  rw [hx] at hL1
  have hL3 := LastN_ac n 2 hn1 (by omega) (by omega) (by omega)
  rw [h2] at hL3
  have hO := OrderN_ac n 1 hn1 (by omega) (by omega) (by omega)
  rw [ho] at hO
  have em := tmod_nat k m
  have em2 : ((x : Int) + ((k % m : Nat) : Int)).tmod (m : Int) = ((x : Int) + k) % (m : Int) := by
    rw [Int.tmod_eq_emod_of_nonneg (by omega), Int.natCast_emod, Int.add_emod_emod]
  have hkm := Nat.mod_lt k (show 0 < m by omega)
  obtain ⟨km, hkm2⟩ : ∃ km : Nat, km = k % m := ⟨_, rfl⟩
  rw [← hkm2] at em em2 hkm
  obtain ⟨y, hy⟩ : ∃ y : Int, y = ((x : Int) + k) % (m : Int) := ⟨_, rfl⟩
  have hy0 : 0 ≤ y ∧ y < m := by rw [hy]; exact ⟨Int.emod_nonneg _ (by omega), Int.emod_lt_of_pos _ (by omega)⟩
  rw [← hy] at em2 hL2
  have hLn : 1 ≤ Ord.lenN n ∧ Ord.lenN n ≤ 7 := by
    unfold Ord.lenN
    repeat' split
    all_goals omega
  obtain ⟨j, hj2⟩ : ∃ j, Ord.lenN n = j + 1 := ⟨Ord.lenN n - 1, by omega⟩
  have hji : ((Ord.lenN n : Nat) : Int) - 1 = (j : Int) := by omega
  rw [hj2, Nat.add_sub_cancel] at hL3
  have hpow : (2 : Int) ^ j ≤ 64 ∧ 1 ≤ (2 : Int) ^ j := by
    have : j = 0 ∨ j = 1 ∨ j = 2 ∨ j = 3 ∨ j = 4 ∨ j = 5 ∨ j = 6 := by omega
    rcases this with rfl | rfl | rfl | rfl | rfl | rfl | rfl <;> decide
  have hsh : ∀ (l : Bool), binV Try.prog .shl 3 l (.int .i64 1) (.int .i64 (j : Int)) = some (.int .i64 ((2 : Int) ^ j)) := fun l => shl_small (by omega)
  generalize hpw : (2 : Int) ^ j = pw at *
  have w0 : m ≠ 0 := by omega
  refine L_reg [5, 6, 7, 8] (fun K hK => ?_)
  simp [okFn_low]
  refine hL1 _ _ (fun H1 E1 => ?_)
  simp
  apply hK; clear hK K
  refine L_reg [5, 6, 7, 8, 9, 10] (fun K hK => ?_)
  simp [okFn_low, hmi, wrap_i64 (a := (m : Int)) (by omega)]
  refine hL2 _ _ (fun H2 E2 => ?_)
  simp
  apply hK; clear hK K
  refine L_reg [5, 6, 7, 8, 9, 10, 11, 12] (fun K hK => ?_)
  simp [okFn_low]
  refine hL3 _ _ (fun H3 E3 => ?_)
  simp
  apply hK; clear hK K
  refine L_reg [5, 6, 7, 8, 9, 10, 11, 12, 13, 14] (fun K hK => ?_)
  simp [okFn_low]
  refine hO _ _ (fun v H4 o4 E4 => ?_)
  simp
  apply hK; clear hK K
  obtain ⟨r, of, ver, sz, full, rfl, hld⟩ := o4.own.ls
  rw [allS_len]
  have g1 : ¬ (x : Int) < 0 := by omega
  have g2 : ¬ (n : Int) ≤ x := by omega
  have g2' : ¬ n ≤ x := by omega
  have g3 : IntKind.i64.wrap ((x : Int) + km) = (x : Int) + km := wrap_i64 (by omega)
  have g4 : IntKind.i64.wrap (n : Int) = n := wrap_i64 (by omega)
  have g5 : IntKind.u64.wrap (n : Int) = n := wrap_u64 (by omega)
  have g6 : IntKind.i64.wrap ((n : Int) - pw) = (n : Int) - pw := wrap_i64 (by omega)
  have g7 : IntKind.i64.wrap (2 * ((n : Int) - pw)) = 2 * ((n : Int) - pw) := wrap_i64 (by omega)
  have g8 : IntKind.i64.wrap (j : Int) = j := wrap_i64 (by omega)
  have g9 : IntKind.i64.wrap y = y := wrap_i64 (by omega)
  have g10 : IntKind.i64.wrap (km : Int) = km := wrap_i64 (by omega)
  have g11 : IntKind.i64.wrap (m : Int) = m := wrap_i64 (by omega)
  refine L_reg [13, 101] (fun K hK => ?_)
  simp (maxSteps := 3000000) [okFn_low, pickV, g1, g2, g3, g5, g11, hmi, w0, em, em2]
  refine Ord.Len_ac n _ _ (by omega) ?_
  simp (maxSteps := 3000000) [pickV, hji, g6, g7, g8, hsh]
  apply hK; clear hK K
  refine L_false (by simp) ?_
  refine L_reg [102, 103, 104] (fun K hK => ?_)
  simp
  apply hK; clear hK K
  refine L_block (L_loopV [104] (fun m vs H' => ∃ i : Nat, m = n - i ∧ i ≤ n ∧ vs = [.int .i64 i] ∧ H4 = H') _ [.int .i64 0] rfl ⟨0, rfl, by omega, rfl, rfl⟩ ?_)
  rintro _ _ _ ⟨i, rfl, hi, rfl, rfl⟩
  refine L_reg [102, 103, 104, 105] (fun K hK => ?_)
  simp
  apply hK; clear hK K
  refine L_dec (i < n) (by simp) (fun hlt => ?_) (fun hge => L_exit ?_)
  · refine L_block ?_
    obtain ⟨r', rfl, rfl, hxx⟩ := hld i (by rw [allS_len]; exact hlt)
    rw [← g_lt, g_all hlt] at hxx
    refine L_reg [15, 16, 102, 103, 104] (fun K hK => ?_)
    simp [hxx, hlt]
    apply hK; clear hK K
    refine L_reg [102, 103, 104, 111] (fun K hK => ?_)
    simp
    apply hK; clear hK K
    refine L_false (by simp) ?_
    refine L_reg [102, 103, 104] (fun K hK => ?_)
    simp [wrap_i64 (a := (i : Int) + 1) (by omega)]
    apply hK; clear hK K
    exact ⟨n - (i + 1), [.int .i64 (i + 1 : Nat)], by omega, by simp, i + 1, rfl, by omega, rfl, rfl⟩
  · refine L_reg [4] (fun K hK => ?_)
    simp [okFn_low]
    refine works_ac _ _ ?_
    simp
    apply hK; clear hK K
    exact L_ret ⟨.inr rfl, _, rfl, rfl⟩
end Go.Proofs.Ytmlhekfkniibmaa

/- Two counts that go around the other way; remainders of an order's count. -/
namespace Go.Proofs.Ytmlhekfkniibmaa
open Go Go.Proofs.Ytmlhekfkniibmaa.AX

theorem ordS_congr {k k' : Nat} : ∀ {m : Nat} (l : List Int), (∀ d, 1 ≤ d → d ≤ m → (k - 1) % d = (k' - 1) % d) → ordS k m l = ordS k' m l
  | 0, _, _ => rfl
  | m + 1, l, h => by
    simp only [ordS]
    rw [h (m + 1) (by omega) (by omega), ordS_congr _ (fun d h1 h2 => h d h1 (by omega))]
theorem dvd_lcmS {d n : Nat} (h1 : 1 ≤ d) (h2 : d ≤ n) : d ∣ lcmS n := by
  have h3 : d ∣ lcmS d := by
    cases d with
    | zero => omega
    | succ d => exact Nat.dvd_lcm_right _ _
  exact Nat.dvd_trans h3 (lcmS_mono h2)
theorem order_again {n k : Nat} (hk : 1 ≤ k) (c : Nat) : orderS n (k + c * lcmS n) = orderS n k := by
  unfold orderS
  refine ordS_congr _ fun d h1 h2 => ?_
  rw [show k + c * lcmS n - 1 = (k - 1) + c * lcmS n by omega]
  exact mod_add_dvd (Nat.dvd_trans (dvd_lcmS h1 h2) (Nat.dvd_mul_left _ _))
theorem rot_mir {l : List Int} {a m : Nat} (hl : l.length = m + 1) (ha : a ≤ m) : rot l.reverse (m - a) = (rot l a).reverse := by
  unfold rot
  rw [List.reverse_append, List.reverse_drop, List.reverse_take, hl]
  congr 2
  all_goals omega
theorem ordS_mir {k k' n : Nat} {c : Nat} : ∀ {m : Nat} (l : List Int), l.length = m → (∀ d, 1 ≤ d → d ≤ m → (k' - 1) % d = d - 1 - (k - 1) % d) → ordS k' m ((l.map fun x => (c : Int) - x).reverse) = (ordS k m l).map fun x => (c : Int) - x
  | 0, _, _, _ => rfl
  | m + 1, l, hl, h => by
    have ha : (k - 1) % (m + 1) < m + 1 := Nat.mod_lt _ (by omega)
    simp only [ordS, List.map_cons]
    rw [h (m + 1) (by omega) (by omega), show m + 1 - 1 = m by omega]
    have hl2 : (l.map fun x => (c : Int) - x).length = m + 1 := by simpa using hl
    rw [rot_mir hl2 (by omega), rot_map]
    rw [ordS_mir (k := k) (n := n) (rot l ((k - 1) % (m + 1))) (by rw [rot_len (by omega)]; omega) (fun d h1 h2 => h d h1 (by omega))]
    congr 1
    rw [g_lt (by simp; omega)]
    rw [List.getElem_reverse]
    simp only [List.getElem_map, List.length_map]
    rw [g_lt (by omega)]
    congr 2
    omega
theorem all_mir (n : Nat) : ((allS n).map fun x => ((n - 1 : Nat) : Int) - x).reverse = allS n := by
  apply g_ext (by simp)
  intro i hi
  simp [allS_len] at hi
  rw [g_lt (by simpa [allS_len] using hi), List.getElem_reverse, g_all hi]
  simp only [List.getElem_map, List.length_map, allS_len]
  simp only [allS, List.getElem_map, List.getElem_range]
  have : ∀ j : Nat, Int.ofNat j = (j : Int) := fun _ => rfl
  rw [this]
  omega
theorem mod_mir {A k d : Nat} (hk : 1 ≤ k) (hA : k ≤ A) (hd : 1 ≤ d) (hdv : d ∣ A) : (A + 1 - k - 1) % d = d - 1 - (k - 1) % d := by
  obtain ⟨t, rfl⟩ := hdv
  have h1 := Nat.div_add_mod (k - 1) d
  have h2 := Nat.mod_lt (k - 1) hd
  generalize (k - 1) % d = r at *
  generalize (k - 1) / d = q at *
  have hq : q < t := by
    apply Nat.lt_of_mul_lt_mul_left (a := d)
    omega
  obtain ⟨s, rfl⟩ : ∃ s, t = q + 1 + s := ⟨t - q - 1, by omega⟩
  have e : d * (q + 1 + s) + 1 - k - 1 = (d - 1 - r) + d * s := by
    rw [Nat.mul_add, Nat.mul_add, Nat.mul_one]; omega
  rw [e, Nat.add_mul_mod_self_left, Nat.mod_eq_of_lt (by omega)]
theorem order_mir {n k : Nat} (hk : 1 ≤ k) (hA : k ≤ lcmS n) : orderS n (lcmS n + 1 - k) = (orderS n k).map fun x => ((n - 1 : Nat) : Int) - x := by
  have h := ordS_mir (k := k) (k' := lcmS n + 1 - k) (n := n) (c := n - 1) (allS n) (allS_len n) (fun d h1 h2 => mod_mir hk hA h1 (dvd_lcmS h1 h2))
  rw [all_mir] at h
  exact h
theorem idx_g {l : List Int} (hd : l.Nodup) {p : Nat} (hp : p < l.length) : idx (g l p) l = p := by
  have h1 : g l p ∈ l := by rw [g_lt hp]; simp
  obtain ⟨q, hq⟩ : ∃ q : Nat, idx (g l p) l = q := ⟨(idx (g l p) l).toNat, by have := idx_mem h1; omega⟩
  obtain ⟨h2, h3⟩ := idx_get hq
  rw [hq, g_inj hd h2 hp h3]
theorem rem_ord {k : Nat} (hk : 1 ≤ k) : ∀ {m : Nat} {l : List Int}, l.length = m → l.Nodup → ∀ i, i < m → g (remS (ordS k m l) l) i = ((k % (m - i) : Nat) : Int)
  | 0, _, _, _, i, hi => by omega
  | m + 1, l, hl, hd, i, hi => by
    have ha : (k - 1) % (m + 1) < l.length := by rw [hl]; exact Nat.mod_lt _ (by omega)
    simp only [ordS, remS]
    rw [idx_g hd ha, Int.toNat_natCast]
    cases i with
    | zero =>
      simp only [g, List.getD_cons_zero, hl, Nat.sub_zero]
      congr 1
      rw [Nat.mod_add_mod, show k - 1 + 1 = k by omega]
    | succ i =>
      have h1 := rem_ord hk (m := m) (l := rot l ((k - 1) % (m + 1))) (by rw [rot_len ha]; omega) (rot_nodup ha hd).2 i (by omega)
      simp only [g, List.getD_cons_succ] at h1 ⊢
      rw [h1, show m + 1 - (i + 1) = m - i by omega]
theorem remL_len (l : List Int) : (remL l).length = l.length := remS_len _ _
theorem rem_order {n k i : Nat} (hk : 1 ≤ k) (hi : i < n) : g (remL (orderS n k)) i = ((k % (n - i) : Nat) : Int) := by
  unfold remL
  rw [orderS_len]
  exact rem_ord hk (allS_len n) (allS_nodup n) i hi
theorem lcmS_dvd {x : Nat} : ∀ {n : Nat}, (∀ d, 1 ≤ d → d ≤ n → d ∣ x) → lcmS n ∣ x
  | 0, _ => Nat.one_dvd x
  | n + 1, h => Nat.lcm_dvd (lcmS_dvd fun d h1 h2 => h d h1 (by omega)) (h (n + 1) (by omega) (by omega))
theorem count_order {n k : Nat} (hk : 1 ≤ k) (hA : k ≤ lcmS n) : Least (Fits (remL (orderS n k))) k := by
  have hl : (remL (orderS n k)).length = n := by rw [remL_len, orderS_len]
  refine ⟨hk, fun i hi => ?_, fun j hj hF => ?_⟩
  · rw [hl] at hi ⊢
    rw [rem_order hk hi]
  · rcases Nat.lt_or_ge j k with hlt | hge
    · exfalso
      have hd : lcmS n ∣ k - j := by
        refine lcmS_dvd fun d h1 h2 => ?_
        have h3 := hF (n - d) (by rw [hl]; omega)
        rw [hl, rem_order hk (by omega), show n - (n - d) = d by omega] at h3
        have h4 : j % d = k % d := by omega
        exact Nat.dvd_of_mod_eq_zero (Nat.sub_mod_eq_zero_of_mod_eq h4.symm)
      have := Nat.le_of_dvd (by omega) hd
      omega
    · exact hge
theorem chkS_ok {n : Nat} : ∀ {l pre : List Int}, (∀ x ∈ l, 0 ≤ x ∧ x < n) → (∀ x ∈ l, x ∉ pre) → l.Nodup → chkS n pre l = 0
  | [], _, _, _, _ => rfl
  | x :: l, pre, h1, h2, h3 => by
    obtain ⟨h4, h5⟩ := List.nodup_cons.1 h3
    simp only [chkS]
    rw [if_pos (h1 x (by simp)), if_neg (h2 x (by simp))]
    refine chkS_ok (fun y hy => h1 y (by simp [hy])) (fun y hy hp => ?_) h5
    rcases List.mem_append.1 hp with e | e
    · exact h2 y (by simp [hy]) e
    · simp at e; rw [e] at hy; exact h4 hy
theorem check_order {n k : Nat} (h1 : 1 ≤ n) (h2 : n ≤ 20) : checkP (orderS n k) = 0 := by
  unfold checkP
  rw [orderS_len, if_pos ⟨h1, h2⟩]
  exact chkS_ok (fun x hx => mem_allS.1 ((orderS_perm n k).mem_iff.1 hx)) (by simp) ((orderS_perm n k).nodup_iff.2 (allS_nodup n))
end Go.Proofs.Ytmlhekfkniibmaa

/- The reference's First; BenchTried, walked. -/
namespace Go.Proofs.Ytmlhekfkniibmaa
open Go Go.Proofs.Ytmlhekfkniibmaa.AX
set_option maxRecDepth 100000 in
set_option maxHeartbeats 2000000 in
theorem FirstR_ac (n : Int) (v : AV) (l : List Int) (H : AH) (Q : AV → AH → Prop) (hv : Ls H v l) (hlen : l.length ≤ 1000000) (h : ∀ H', Ext H H' → firstQ n l H' Q) : AC Try.prog 36 [.int .i64 n, v] H Q := by
  obtain ⟨r, off, ver, sz, full, rfl, hld⟩ := id hv
  refine L_body 67 Try.func36 rfl rfl ?_
  refine L_reg [0, 1] (fun K hK => ?_)
  simp
  apply hK; clear hK K
  have h0 := h H (.refl _)
  unfold firstQ homeE at h0
  by_cases h1 : 1 ≤ n ∧ n ≤ 20
  · rw [if_pos h1] at h0
    refine L_reg [0, 1, 13] (fun K hK => ?_)
    simp [okFn_low]
    refine in_ac _ _ _ _ _ ?_
    simp [decide_eq_true h1]
    apply hK; clear hK K
    refine L_false (by simp) ?_
    have w1 : IntKind.i64.wrap (n - 1) = n - 1 := wrap_i64 (by omega)
    refine L_reg [0, 1, 6] (fun K hK => ?_)
    simp
    apply hK; clear hK K
    refine L_block (L_loopV [6] (fun m vs H' => ∃ i : Nat, m = l.length - i ∧ i ≤ l.length ∧ homI n l (l.length - i) i = homI n l l.length 0 ∧ vs = [.int .i64 i] ∧ H = H') _ [.int .i64 0] rfl ⟨0, rfl, by omega, rfl, rfl, rfl⟩ ?_)
    rintro m _ _ ⟨i, rfl, hi, hc, rfl, rfl⟩
    refine L_reg [0, 1, 6, 17] (fun K hK => ?_)
    simp
    apply hK; clear hK K
    refine L_dec (i < l.length) (by simp) (fun hlt => ?_) (fun hge => L_exit ?_)
    · refine L_block ?_
      obtain ⟨r', rfl, rfl, hx⟩ := hld i hlt
      rw [← g_lt hlt] at hx
      obtain ⟨m, hm⟩ : ∃ m, l.length - i = m + 1 := ⟨l.length - i - 1, by omega⟩
      rw [hm] at hc
      simp only [homI] at hc
      by_cases h2 : 0 ≤ g l i ∧ g l i < n
      · rw [if_pos h2] at hc
        have h2' : 0 ≤ g l i ∧ g l i ≤ n - 1 := by omega
        refine L_reg [0, 1, 6, 27] (fun K hK => ?_)
        simp [okFn_low, hx, hlt, w1]
        refine in_ac _ _ _ _ _ ?_
        simp [decide_eq_true h2']
        apply hK; clear hK K
        refine L_false (by simp) ?_
        by_cases h3 : 0 < i
        · obtain ⟨j, rfl⟩ : ∃ j, i = j + 1 := ⟨i - 1, by omega⟩
          obtain ⟨r2, e2, -, hy⟩ := hld j (by omega)
          obtain rfl := Option.some.inj e2
          rw [← g_lt (by omega)] at hy
          have hjl : j < l.length := by omega
          rw [Nat.add_sub_cancel] at hc
          have hwj : IntKind.i64.wrap (j : Int) = (j : Int) := wrap_i64 (by omega)
          have hpos : (0 : Int) < (j : Int) + 1 := by omega
          have hj1 : (j : Int) + 1 < (l.length : Int) := by omega
          have hj0 : (0 : Int) ≤ (j : Int) + 1 := by omega
          have hjn : ((j : Int) + 1).toNat = j + 1 := by omega
          refine L_regQ mixed [0, 1, 6, 41] (by kernel_rfl) (fun K hK => ?_)
          simp [pickV, hpos, hwj, hjl, hy, hx, hj1, hj0, hjn]
          apply hK; clear hK K
          by_cases h4 : g l (j + 1) ≤ g l j
          · rw [if_pos ⟨h3, h4⟩] at hc
            refine L_true (by simp [h4]) ?_
            rw [← hc] at h0
            refine L_reg [4, 5] (fun K hK => ?_)
            simp
            apply hK; clear hK K
            exact L_ret ⟨.inr rfl, _, rfl, h0.2 (by decide)⟩
          · rw [if_neg (fun e => h4 e.2)] at hc
            refine L_false (by simp; omega) ?_
            refine L_reg [0, 1, 6] (fun K hK => ?_)
            simp [wrap_i64 (a := (j : Int) + 1 + 1) (by omega)]
            apply hK; clear hK K
            exact ⟨l.length - (j + 1 + 1), [.int .i64 (j + 1 + 1 : Nat)], by omega, by simp, j + 1 + 1, rfl, by omega, by rw [show l.length - (j + 1 + 1) = m by omega]; exact hc, rfl, rfl⟩
        · have hi0 : i = 0 := by omega
          subst hi0
          rw [if_neg (fun e => h3 e.1)] at hc
          refine L_regQ mixed [0, 1, 6, 41] (by kernel_rfl) (fun K hK => ?_)
          simp [pickV]
          apply hK; clear hK K
          refine L_false (by simp) ?_
          refine L_reg [0, 1, 6] (fun K hK => ?_)
          simp [wrap_i64 (a := (1 : Int)) (by omega)]
          apply hK; clear hK K
          exact ⟨l.length - 1, [.int .i64 (1 : Nat)], by omega, by simp, 1, rfl, by omega, by rw [show l.length - 1 = m by omega]; exact hc, rfl, rfl⟩
      · rw [if_neg h2] at hc
        have h2' : ¬ (0 ≤ g l i ∧ g l i ≤ n - 1) := by omega
        refine L_reg [0, 1, 6, 27] (fun K hK => ?_)
        simp [okFn_low, hx, hlt, w1]
        refine in_ac _ _ _ _ _ ?_
        simp [decide_eq_false h2']
        apply hK; clear hK K
        refine L_true (by simp) ?_
        rw [← hc] at h0
        refine L_reg [4, 5] (fun K hK => ?_)
        simp
        apply hK; clear hK K
        exact L_ret ⟨.inr rfl, _, rfl, h0.2 (by decide)⟩
    · have hi' : l.length - i = 0 := by omega
      rw [hi'] at hc
      simp only [homI] at hc
      have hz : homeE n l = 0 := by unfold homeE; rw [if_pos h1, ← hc]
      clear hc h0 hi hi' hge
      obtain ⟨-, -, b3, b4⟩ := homeE_zero hz
      obtain ⟨n, rfl⟩ : ∃ y : Nat, n = y := ⟨n.toNat, by omega⟩
      have hb4 : l.length ≤ n := by omega
      refine L_reg [0, 1, 7] (fun K hK => ?_)
      simp
      apply hK; clear hK K
      refine L_block (L_loopV [7] (fun m vs H' => ∃ i : Nat, m = 1000 - i ∧ i ≤ 1000 ∧ (∀ j, 1 ≤ j → j ≤ i → ¬ FirstIs n l j) ∧ vs = [.int .i64 (i + 1 : Nat)] ∧ Ext H H') _ [.int .i64 1] rfl ⟨0, rfl, by omega, fun j h1 h2 => by omega, rfl, .refl _⟩ ?_)
      rintro m _ H1 ⟨i, rfl, hi, hno, rfl, hE⟩
      obtain ⟨k, hk⟩ : ∃ k : Nat, k = i + 1 := ⟨_, rfl⟩
      rw [← hk]
      refine L_reg [0, 1, 7, 43] (fun K hK => ?_)
      simp
      apply hK; clear hK K
      refine L_dec (k ≤ 1000) (by simp; omega) (fun hlt => ?_) (fun hge => L_exit ?_)
      · refine L_block ?_
        have hol := orderS_len n k
        refine L_reg [0, 1, 7, 8] (fun K hK => ?_)
        simp [okFn_low]
        refine orderR_ac n k (by omega) (by omega) (by omega) _ _ (fun w H2 o2 E2 => ?_)
        simp
        apply hK; clear hK K
        have hE2 := hE.trans E2
        have hv2 := hv.ext hE2
        obtain ⟨d1, -⟩ := h H2 hE2
        obtain ⟨e3, -⟩ := d1 hz
        simp only [Int.toNat_natCast] at e3
        obtain ⟨rw', ofw, vew, szw, fuw, rfl, hld2⟩ := id o2.own.ls
        rw [hol]
        refine L_reg [0, 1, 7, 8, 9] (fun K hK => ?_)
        simp
        apply hK; clear hK K
        refine L_reg [0, 1, 7, 8, 9, 10] (fun K hK => ?_)
        simp
        apply hK; clear hK K
        refine L_block (L_loopV [9, 10] (fun m vs H' => ∃ (i : Nat) (b : Bool), m = l.length - i ∧ i ≤ l.length ∧ (b = true ↔ ∀ j, j < i → g (orderS n k) j ∈ l) ∧ vs = [.bool b, .int .i64 i] ∧ H2 = H') _ [.bool true, .int .i64 0] rfl ⟨0, true, rfl, by omega, ⟨fun _ j hj => by omega, fun _ => rfl⟩, rfl, rfl⟩ ?_)
        rintro m _ _ ⟨i, b, rfl, hi, hb, rfl, rfl⟩
        refine L_reg [0, 1, 7, 8, 9, 10, 52] (fun K hK => ?_)
        simp
        apply hK; clear hK K
        refine L_dec (i < l.length) (by simp) (fun hlt => ?_) (fun hge => L_exit ?_)
        · refine L_block ?_
          obtain ⟨r3, rfl, rfl, hx⟩ := hld2 i (by omega)
          rw [← g_lt (by omega)] at hx
          have hin : i < n := by omega
          cases b with
          | false =>
            refine L_reg [0, 1, 7, 8, 9, 10] (fun K hK => ?_)
            simp [pickV]
            apply hK; clear hK K
            refine L_reg [0, 1, 7, 8, 9, 10] (fun K hK => ?_)
            simp [wrap_i64 (a := (i : Int) + 1) (by omega)]
            apply hK; clear hK K
            exact ⟨l.length - (i + 1), [.bool false, .int .i64 (i + 1 : Nat)], by omega, by simp, i + 1, false, rfl, by omega, ⟨fun e => (by cases e), fun e => hb.2 (fun j hj => e j (by omega))⟩, rfl, rfl⟩
          | true =>
            refine L_reg [0, 1, 7, 8, 9, 10] (fun K hK => ?_)
            simp [okFn_low, hx, hin]
            refine place_ac _ l _ _ _ hlen hv2 ?_
            simp [pickV]
            apply hK; clear hK K
            refine L_reg [0, 1, 7, 8, 9, 10] (fun K hK => ?_)
            simp [wrap_i64 (a := (i : Int) + 1) (by omega)]
            apply hK; clear hK K
            refine ⟨l.length - (i + 1), [.bool (decide (0 ≤ idx (g (orderS n k) i) l)), .int .i64 (i + 1 : Nat)], by omega, by simp, i + 1, _, rfl, by omega, ?_, rfl, rfl⟩
            rw [decide_eq_true_iff, idx_iff]
            constructor
            · intro hm j hj
              by_cases e : j = i
              · rw [e]; exact hm
              · exact hb.1 rfl j (by omega)
            · intro hm; exact hm i (by omega)
        · have hi' : i = l.length := by omega
          subst hi'
          have hF : b = true ↔ FirstIs n l k := by
            rw [hb]
            constructor
            · intro hm x hx
              obtain ⟨j, hj, rfl⟩ := List.mem_iff_getElem.1 hx
              simp [hol] at hj
              have := hm j (by omega)
              rw [g_lt (by omega)] at this
              simpa using this
            · intro hm j hj
              refine hm _ ?_
              rw [g_lt (by omega)]
              exact List.mem_iff_getElem.2 ⟨j, by simp [hol]; omega, by simp⟩
          refine L_reg [0, 1, 7, 65] (fun K hK => ?_)
          simp
          apply hK; clear hK K
          cases b with
          | true =>
            refine L_true (by simp) ?_
            refine L_reg [4, 5] (fun K hK => ?_)
            simp
            apply hK; clear hK K
            exact L_ret ⟨.inr rfl, _, rfl, e3 k (by omega) (by omega) (hF.1 rfl) (fun j h1 h2 => hno j h1 (by omega))⟩
          | false =>
            refine L_false (by simp) ?_
            refine L_reg [0, 1, 7] (fun K hK => ?_)
            simp [wrap_i64 (a := (k : Int) + 1) (by omega)]
            apply hK; clear hK K
            refine ⟨1000 - k, [.int .i64 (k + 1 : Nat)], by omega, by simp, k, rfl, by omega, fun j h1 h2 => ?_, rfl, hE2⟩
            by_cases e : j = k
            · rw [e]; intro hP; have := hF.2 hP; cases this
            · exact hno j h1 (by omega)
      · obtain ⟨d1, -⟩ := h H1 hE
        obtain ⟨-, e4⟩ := d1 hz
        simp only [Int.toNat_natCast] at e4
        refine L_reg [4, 5] (fun K hK => ?_)
        simp
        apply hK; clear hK K
        exact L_ret ⟨.inr rfl, _, rfl, e4 (fun j h1 h2 => hno j h1 (by omega))⟩
  · rw [if_neg h1] at h0
    refine L_reg [0, 1, 13] (fun K hK => ?_)
    simp [okFn_low]
    refine in_ac _ _ _ _ _ ?_
    simp [decide_eq_false h1]
    apply hK; clear hK K
    refine L_true (by simp) ?_
    refine L_reg [4, 5] (fun K hK => ?_)
    simp
    apply hK; clear hK K
    exact L_ret ⟨.inr rfl, _, rfl, h0.2 (by decide)⟩
/-- What a search finds. -/
noncomputable def minV (P : Nat → Prop) : Int × Int :=
  open Classical in
  if h : ∃ k, (1 ≤ k ∧ k ≤ 1000 ∧ P k) ∧ ∀ j, 1 ≤ j → j < k → ¬ P j then ((Classical.choose h : Nat), 0) else (0, 12)
theorem minQ_mk {P : Nat → Prop} {Q : AV → AH → Prop} {H : AH} (h : Q (.tuple [.int .i64 (minV P).1, .int .i64 (minV P).2]) H) : minQ P Q H := by
  unfold minV at h
  constructor
  · intro k k1 k2 k3 k4
    have hex : ∃ k, (1 ≤ k ∧ k ≤ 1000 ∧ P k) ∧ ∀ j, 1 ≤ j → j < k → ¬ P j := ⟨k, ⟨k1, k2, k3⟩, k4⟩
    rw [dif_pos hex] at h
    have hc := Classical.choose_spec hex
    have : Classical.choose hex = k := by
      generalize Classical.choose hex = m at hc
      rcases Nat.lt_trichotomy m k with e | e | e
      · exact absurd hc.1.2.2 (k4 m hc.1.1 e)
      · exact e
      · exact absurd k3 (hc.2 k k1 e)
    rw [this] at h
    exact h
  · intro hno
    rw [dif_neg (fun ⟨k, h1, h2⟩ => hno k h1.1 h1.2.1 h1.2.2)] at h
    exact h
noncomputable def smallV (n x : Int) : Int × Int := if 1 ≤ n ∧ n ≤ 20 then (if 0 ≤ x ∧ x < n then minV (LastIs n.toNat x) else (0, 2)) else (0, 1)
theorem smallQ_mk {n x : Int} {Q : AV → AH → Prop} {H : AH} (h : Q (.tuple [.int .i64 (smallV n x).1, .int .i64 (smallV n x).2]) H) : smallQ n x H Q := by
  unfold smallV at h
  refine ⟨fun h1 => ?_, fun h1 => ?_, fun h1 => ?_⟩
  · rw [if_pos h1.1, if_pos h1.2] at h; exact minQ_mk h
  · rw [if_pos h1.1, if_neg h1.2] at h; exact h
  · rw [if_neg h1] at h; exact h
noncomputable def firstV (n : Int) (l : List Int) : Int × Int := if homeE n l = 0 then minV (FirstIs n.toNat l) else (0, homeE n l)
theorem firstQ_mk {n : Int} {l : List Int} {Q : AV → AH → Prop} {H : AH} (h : Q (.tuple [.int .i64 (firstV n l).1, .int .i64 (firstV n l).2]) H) : firstQ n l H Q := by
  unfold firstV at h
  refine ⟨fun h1 => ?_, fun h1 => ?_⟩
  · rw [if_pos h1] at h; exact minQ_mk h
  · rw [if_neg h1] at h; exact h
set_option maxHeartbeats 1000000 in
theorem benchTried_ac (n x : Int) (v : AV) (l : List Int) (H : AH) (hv : Ls H v l) : AC Try.prog 6 [.int .i64 n, .int .i64 x, v] H fun u _ => u = .bool true := by
  obtain ⟨r, off, ver, sz, full, rfl, -⟩ := id hv
  refine L_body 64 Try.func6 rfl rfl ?_
  refine L_reg [0, 1, 2] (fun K hK => ?_)
  simp
  apply hK; clear hK K
  refine L_reg [0, 1, 2, 17] (fun K hK => ?_)
  simp
  apply hK; clear hK K
  refine L_dec (60 < (l.length : Int)) (by simp) (fun hgt => ?_) (fun hle => ?_)
  · refine L_reg [6] (fun K hK => ?_)
    simp [okFn_low]
    refine works_ac _ _ ?_
    simp
    apply hK; clear hK K
    exact L_ret ⟨.inr rfl, _, rfl, rfl⟩
  · have hlen : l.length ≤ 1000000 := by omega
    refine L_reg [0, 1, 2, 7, 8] (fun K hK => ?_)
    simp [okFn_low]
    refine Smallest_ac n x _ _ (fun H1 E1 => smallQ_mk ?_)
    simp
    apply hK; clear hK K
    refine L_reg [0, 2, 7, 8, 9, 10] (fun K hK => ?_)
    simp [okFn_low]
    refine SmallestR_ac n x _ _ (fun H2 E2 => smallQ_mk ?_)
    simp
    apply hK; clear hK K
    refine L_reg [0, 2, 7, 8, 9, 10, 11, 12] (fun K hK => ?_)
    simp [okFn_low]
    refine First_ac n _ l _ _ ((hv.ext E1).ext E2) hlen (fun H3 E3 => firstQ_mk ?_)
    simp
    apply hK; clear hK K
    refine L_reg [7, 8, 9, 10, 11, 12, 13, 14] (fun K hK => ?_)
    simp [okFn_low]
    refine FirstR_ac n _ l _ _ (((hv.ext E1).ext E2).ext E3) hlen (fun H4 E4 => firstQ_mk ?_)
    simp
    apply hK; clear hK K
    refine L_reg [6] (fun K hK => ?_)
    simp [okFn_low, pickV]
    refine works_ac _ _ ?_
    simp [pickV]
    apply hK; clear hK K
    exact L_ret ⟨.inr rfl, _, rfl, rfl⟩
end Go.Proofs.Ytmlhekfkniibmaa

/- What a law's numbers are. -/
namespace Go.Proofs.Ytmlhekfkniibmaa
open Go Go.Proofs.Ytmlhekfkniibmaa.AX Go.RowKit
theorem u8_of {a : Int} (w : (Lit.int .u8 a).wf = true) : ∃ n : Nat, a = n ∧ n < 256 := by
  have h : IntKind.u8.min ≤ a ∧ a ≤ IntKind.u8.max := by simpa [Lit.wf] using w
  have h1 : IntKind.u8.min = 0 := rfl
  have h2 : IntKind.u8.max = 255 := rfl
  exact ⟨a.toNat, by omega, by omega⟩
theorem u32_of {a : Int} (w : (Lit.int .u32 a).wf = true) : ∃ n : Nat, a = n ∧ n < 4294967296 := by
  have h : IntKind.u32.min ≤ a ∧ a ≤ IntKind.u32.max := by simpa [Lit.wf] using w
  have h1 : IntKind.u32.min = 0 := rfl
  have h2 : IntKind.u32.max = 4294967295 := rfl
  exact ⟨a.toNat, by omega, by omega⟩
theorem grown_int (a b : Int) (wa : (Lit.int .u8 a).wf = true) (wb : (Lit.int .u32 b).wf = true) (H : AH) : AC Try.prog 9 [.int .u8 a, .int .u32 b] H fun u _ => u = .bool true := by
  obtain ⟨a, rfl, ha⟩ := u8_of wa
  obtain ⟨b, rfl, hb⟩ := u32_of wb
  exact benchGrown_ac a b ha hb H
end Go.Proofs.Ytmlhekfkniibmaa
