/- Joined texts: SrcM, Sim, Counts, Poss, PossT, PossP, WSeated, WPoss. -/
import Derived.Test.YtmlhekfkniibmaaJ062b
import Derived.Test.YtmlhekfkniibmaaJ062a
/- Lists by what is read of them; one is deleted; those who sit, by a place. -/
namespace Go.Proofs.Ytmlhekfkniibmaa
open Go Go.Proofs.Ytmlhekfkniibmaa.AX

theorem ls_len {H : AH} {v : AV} {l : List Int} (h : Ls H v l) : aLen Try.prog 22 v = some (.int .i64 l.length) := by
  obtain ⟨r, off, ver, sz, full, rfl, -⟩ := h
  exact len22 ..
theorem ls_ix {H : AH} {v : AV} {l : List Int} (h : Ls H v l) {i : Nat} (hi : i < l.length) : ∃ r p ver, (∀ k, aIndexAddr Try.prog 22 v (.int k (i : Int)) = some (.ptr r p ver)) ∧ ld H r p ver = some (.int .i64 (g l i)) := by
  obtain ⟨r, off, ver, sz, full, rfl, hld⟩ := h
  obtain ⟨r', rfl, rfl, hx⟩ := hld i hi
  rw [← g_lt hi] at hx
  exact ⟨r', off + i, ver, fun k => by simp [hi], hx⟩
theorem ls_hi {H : AH} {v : AV} {l : List Int} (h : Ls H v l) (h0 : 0 < l.length) {m : Nat} (hm : m ≤ l.length) : ∃ u, aSlice Try.prog 22 v none (some (.int .i64 (m : Int))) none = some u ∧ Ls H u (l.take m) := by
  obtain ⟨r, off, ver, sz, full, rfl, hsz, hsub⟩ := h.sub
  obtain rfl := hsz (by intro e; rw [e] at h0; simp at h0)
  have h2 := hsub 0 m (full && m == l.length) (by omega) hm
  rw [Nat.sub_zero, List.drop_zero] at h2
  exact ⟨_, slice_hi slz22 r off _ ver full hm, h2⟩
theorem un22 : ∃ e ie, Try.prog.underlying 22 = some (.slice e) ∧ Try.prog.info? e = some ie ∧ ie.size = 1 := by
  have h := slz22
  unfold slSz at h
  split at h
  case h_2 => cases h
  rename_i e he
  cases hi : Try.prog.info? e with
  | none => rw [hi] at h; cases h
  | some ie => rw [hi] at h; exact ⟨e, ie, he, hi, Option.some.inj h⟩
theorem clip3 (r ver n : Nat) (i : Nat) (hi : i < n) : ∃ v, aSlice Try.prog 22 (.slice (some r) 0 n ver 1 false) (some (.int .i64 (i : Int))) (some (.int .i64 ((i : Int) + 1))) (some (.int .i64 (n : Int))) = some v := by
  obtain ⟨e, ie, h1, h2, h3⟩ := un22
  have hb : aBounds n (some (.int .i64 (i : Int))) (some (.int .i64 ((i : Int) + 1))) (some (.int .i64 (n : Int))) = some (i, i + 1, n) := by
    simp [aBounds, aBound, show (0 : Int) ≤ (i : Int) + 1 by omega, show (i : Int) + 1 ≤ (n : Int) by omega, show ((i : Int) + 1).toNat = i + 1 by omega]
  simp only [aSlice, h1, h2, h3, if_true, hb, Option.map_some]
  exact ⟨_, rfl⟩
theorem more (H : AH) (r ver n s : Nat) (cells : List AV) (hr : H[r]? = some (.row cells ver s false)) (hn : 0 < n) (hc : n ≤ cells.length) :
    aSlice Try.prog 22 (.slice (some r) 0 (n - 1) ver 1 false) (some (.int .i64 ((n - 1 : Nat) : Int))) (some (.int .i64 (n : Int))) none = none ∧
    sliceR Try.prog 22 H (.slice (some r) 0 (n - 1) ver 1 false) (some (.int .i64 ((n - 1 : Nat) : Int))) (some (.int .i64 (n : Int))) none = some (.slice (some r) (n - 1) 1 ver 1 false) := by
  obtain ⟨e, ie, h1, h2, h3⟩ := un22
  have hb : aBounds (n - 1) (some (.int .i64 ((n - 1 : Nat) : Int))) (some (.int .i64 (n : Int))) none = none := by
    have : ¬ ((n : Int) ≤ ((n - 1 : Nat) : Int)) := by omega
    simp [aBounds, aBound]
    omega
  have hb2 : aBounds ((cells.length - 0) / 1) (some (.int .i64 ((n - 1 : Nat) : Int))) (some (.int .i64 (n : Int))) none = some (n - 1, n, (cells.length - 0) / 1) := by
    have h4 : (n : Int) ≤ (cells.length : Int) := by omega
    have h5 : ((n - 1 : Nat) : Int) ≤ (n : Int) := by omega
    simp only [aBounds, aBound, Nat.sub_zero, Nat.div_one, Option.bind_some]
    rw [if_pos ⟨by omega, h4⟩, Option.bind_some, if_pos ⟨by omega, by rw [Int.toNat_natCast]; exact h5⟩, Option.bind_some, Int.toNat_natCast, Int.toNat_natCast]
  constructor
  · simp only [aSlice, h1, h2, h3, if_true, hb, Option.map_none]
  · simp only [sliceR, h1, h2, h3, hr]
    rw [if_pos ⟨trivial, trivial, by omega, rfl, trivial⟩, hb2]
    simp
    omega
set_option maxRecDepth 100000 in
theorem Delete_ac (r ver stale : Nat) (tl : List AV) (l : List Int) (i : Nat) (H : AH) (Q : AV → AH → Prop) (hi : i < l.length) (hl : l.length ≤ 1000000) (hr : H[r]? = some (.row (l.map (.int .i64) ++ tl) ver stale false)) (hone : ∀ x ∈ l.map (.int .i64) ++ tl, x.one = true)
    (h : ∀ H' s' tl', H'[r]? = some (.row ((l.eraseIdx i).map (.int .i64) ++ tl') ver s' false) → (∀ x ∈ (l.eraseIdx i).map (.int .i64) ++ tl', x.one = true) → H'.length = H.length → (∀ j, j ≠ r → H'[j]? = H[j]?) → Q (.slice (some r) 0 (l.length - 1) ver 1 false) H') :
    AC Try.prog 42 [.slice (some r) 0 l.length ver 1 false, .int .i64 i, .int .i64 ((i : Int) + 1)] H Q := by
  obtain ⟨u, hu⟩ := clip3 r ver l.length i hi
  refine L_body 33 Try.func42 rfl rfl ?_
  refine L_reg [0, 1, 2] (fun K hK => ?_)
  simp
  apply hK; clear hK K
  refine L_reg [0, 1, 2] (fun K hK => ?_)
  simp [hu]
  apply hK; clear hK K
  refine L_reg [0, 1, 2, 16] (fun K hK => ?_)
  simp
  apply hK; clear hK K
  refine L_dec ((i : Int) = (i : Int) + 1) (by simp; rfl) (fun he => by omega) (fun he => ?_)
  refine L_reg [0, 1, 2, 7] (fun K hK => ?_)
  simp
  apply hK; clear hK K
  have hil : i < (l.map (AV.int .i64)).length := by simpa using hi
  obtain ⟨s', happ⟩ := del_append (H := H) (t := 22) el22 hr hone hil (by simp; omega) false
  simp only [List.length_map] at happ
  refine L_regT mixed [0, 7] (by kernel_rfl) (fun K hK => ?_)
  have e1 : aSlice Try.prog 22 (.slice (some r) 0 l.length ver 1 false) none (some (.int .i64 (i : Int))) none = some (.slice (some r) 0 i ver 1 false) := by
    have := slice_hi slz22 (some r) 0 l.length ver false (k := .i64) (i := i) (by omega)
    simpa using this
  have e2 : aSlice Try.prog 22 (.slice (some r) 0 l.length ver 1 false) (some (.int .i64 ((i : Int) + 1))) none none = some (.slice (some r) (i + 1) (l.length - (i + 1)) ver 1 false) := by
    have := slice_lo slz22 (some r) 0 l.length ver false (k := .i64) (i := i + 1) (by omega)
    simpa using this
  simp [happ, e1, e2]
  apply hK; clear hK K
  have hrl : r < H.length := (List.getElem?_eq_some_iff.1 hr).1
  obtain ⟨H1, hH1⟩ : ∃ H1, H1 = H.set r (AObj.row ((l.map (AV.int .i64)).eraseIdx i ++ ((l.map (AV.int .i64)).drop (l.length - 1) ++ tl)) ver s' false) := ⟨_, rfl⟩
  have hr1 : H1[r]? = some (AObj.row ((l.map (AV.int .i64)).eraseIdx i ++ ((l.map (AV.int .i64)).drop (l.length - 1) ++ tl)) ver s' false) := by
    rw [hH1, List.getElem?_set]; simp [hrl]
  have hX1 : H1.length = H.length ∧ ∀ j, j ≠ r → H1[j]? = H[j]? := by
    rw [hH1]
    exact ⟨by simp, fun j hj => by rw [List.getElem?_set]; simp [Ne.symm hj]⟩
  obtain ⟨x, hx⟩ : ∃ x, (l.map (AV.int .i64)).drop (l.length - 1) = [x] := by
    have : ((l.map (AV.int .i64)).drop (l.length - 1)).length = 1 := by simp; omega
    exact List.length_eq_one_iff.1 this
  have hxo : x.one = true := hone x (List.mem_append_left _ (List.mem_of_mem_drop (i := l.length - 1) (by rw [hx]; simp)))
  rw [hx, List.singleton_append] at hr1
  rw [← hH1]
  clear happ hH1
  have hel : ((l.map (AV.int .i64)).eraseIdx i).length = l.length - 1 := by rw [List.length_eraseIdx]; simp [hi]
  obtain ⟨e3, e4⟩ := more H1 r ver l.length s' _ hr1 (by omega) (by simp [hel]; omega)
  have e5 := del_clear elz22 hr1 hxo rfl hel false
  refine L_reg [0] (fun K hK => ?_)
  simp [e3, e4, e5]
  apply hK; clear hK K
  refine L_reg [6] (fun K hK => ?_)
  simp
  apply hK; clear hK K
  refine L_ret ⟨.inr rfl, _, rfl, ?_⟩
  have e6 : (l.map (AV.int .i64)).eraseIdx i = (l.eraseIdx i).map (.int .i64) := by rw [List.eraseIdx_eq_take_drop_succ, List.eraseIdx_eq_take_drop_succ, List.map_append, List.map_take, List.map_drop]
  refine h _ (min s' (l.length - 1)) (.int .i64 0 :: tl) ?_ ?_ (by simp [hX1.1]) fun j hj => by rw [List.getElem?_set, ← hX1.2 j hj]; simp [Ne.symm hj]
  · rw [← e6, List.getElem?_set]
    simp [(List.getElem?_eq_some_iff.1 hr1).1]
  · intro y hy
    rcases List.mem_append.1 hy with hy | hy
    · obtain ⟨z, -, rfl⟩ := List.mem_map.1 hy; rfl
    · rcases List.mem_cons.1 hy with rfl | hy
      · rfl
      · exact hone y (List.mem_append_right _ hy)


/-- Who sits, from a place on. -/
def rotL (s : List Int) (a : Nat) : List Int := s.drop a ++ s.take a
theorem rotL_len {s : List Int} {a : Nat} (h : a ≤ s.length) : (rotL s a).length = s.length := by simp [rotL]; omega
theorem rotL_g {s : List Int} {a b : Nat} (ha : a ≤ s.length) (hb : b < s.length) : g (rotL s a) b = g s ((a + b) % s.length) := by
  unfold rotL
  rw [g_app]
  simp only [List.length_drop]
  split
  · rename_i h
    rw [g_drop, Nat.mod_eq_of_lt (by omega)]
  · rename_i h
    rw [g_take (by omega), show a + b = (b - (s.length - a)) + s.length by omega, Nat.add_mod_right, Nat.mod_eq_of_lt (by omega)]
theorem rotL_rot {s : List Int} {a b : Nat} (ha : a ≤ s.length) (hb : b < s.length) : rot (rotL s a) b = rotL (s.eraseIdx ((a + b) % s.length)) ((a + b) % s.length) := by
  have hc : (a + b) % s.length < s.length := Nat.mod_lt _ (by omega)
  have e2 : rotL (s.eraseIdx ((a + b) % s.length)) ((a + b) % s.length) = s.drop ((a + b) % s.length + 1) ++ s.take ((a + b) % s.length) := by
    unfold rotL
    rw [List.eraseIdx_eq_take_drop_succ, List.drop_left' (by simp; omega), List.take_left' (by simp; omega)]
  rw [e2]
  apply g_ext
  · rw [rot_len (by rw [rotL_len ha]; exact hb), rotL_len ha]; simp; omega
  · intro i hi
    rw [rot_len (by rw [rotL_len ha]; exact hb), rotL_len ha] at hi
    unfold rot
    rw [g_app, g_app]
    simp only [List.length_drop, rotL_len ha]
    have hm : (a + b) % s.length = if a + b < s.length then a + b else a + b - s.length := by
      split
      · rename_i h; exact Nat.mod_eq_of_lt h
      · rename_i h; rw [show a + b = (a + b - s.length) + s.length by omega, Nat.add_mod_right, Nat.mod_eq_of_lt (by omega)]; omega
    have hgl : ∀ j, j < s.length → g (rotL s a) j = g s (if a + j < s.length then a + j else a + j - s.length) := fun j hj => by
      rw [rotL_g ha hj]
      congr 1
      split
      · rename_i h; exact Nat.mod_eq_of_lt h
      · rename_i h; rw [show a + j = (a + j - s.length) + s.length by omega, Nat.add_mod_right, Nat.mod_eq_of_lt (by omega)]; omega
    have hm' : (a + b < s.length ∧ (a + b) % s.length = a + b) ∨ (s.length ≤ a + b ∧ (a + b) % s.length = a + b - s.length) := by
      rw [hm]
      split
      · exact .inl ⟨by omega, rfl⟩
      · exact .inr ⟨by omega, rfl⟩
    clear hm e2
    generalize (a + b) % s.length = M at *
    by_cases h1 : i < s.length - (b + 1)
    · rw [if_pos h1, g_drop, hgl (b + 1 + i) (by omega)]
      by_cases h3 : i < s.length - (M + 1)
      · rw [if_pos h3, g_drop]; congr 1; split <;> omega
      · rw [if_neg h3, g_take (by omega)]; congr 1; split <;> omega
    · rw [if_neg h1, g_take (by omega), hgl (i - (s.length - (b + 1))) (by omega)]
      by_cases h3 : i < s.length - (M + 1)
      · rw [if_pos h3, g_drop]; congr 1; split <;> omega
      · rw [if_neg h3, g_take (by omega)]; congr 1; split <;> omega
theorem at_mod {a k m : Nat} (hk : 1 ≤ k) (_hm : 0 < m) : (a + k - 1) % m = (a + (k - 1) % m) % m := by
  rw [Nat.add_mod_mod, show a + k - 1 = a + (k - 1) by omega]
/-- What a search has found before a count. -/
def LV (P : Nat → Prop) (k v : Nat) : Prop := (v = 0 ∧ ∀ j, 1 ≤ j → j < k → ¬ P j) ∨ (1 ≤ v ∧ v < k ∧ P v ∧ ∀ j, 1 ≤ j → j < v → ¬ P j)
theorem lv_start (P : Nat → Prop) : LV P 1 0 := .inl ⟨rfl, fun j h1 h2 => by omega⟩
theorem lv_next {P : Nat → Prop} [DecidablePred P] {k v : Nat} (hk : 1 ≤ k) (h : LV P k v) : LV P (k + 1) (if v = 0 ∧ P k then k else v) := by
  rcases h with ⟨rfl, h⟩ | ⟨h1, h2, h3, h4⟩
  · by_cases hP : P k
    · rw [if_pos ⟨rfl, hP⟩]; exact .inr ⟨hk, by omega, hP, h⟩
    · rw [if_neg (fun e => hP e.2)]
      refine .inl ⟨rfl, fun j j1 j2 => ?_⟩
      by_cases e : j = k
      · rw [e]; exact hP
      · exact h j j1 (by omega)
  · rw [if_neg (by omega)]; exact .inr ⟨h1, by omega, h3, h4⟩
theorem minV_none {P : Nat → Prop} (h : ∀ j, 1 ≤ j → j ≤ 1000 → ¬ P j) : minV P = (0, 12) := by
  unfold minV
  rw [dif_neg (fun ⟨k, h1, h2⟩ => h k h1.1 h1.2.1 h1.2.2)]
theorem minV_some {P : Nat → Prop} {k : Nat} (k1 : 1 ≤ k) (k2 : k ≤ 1000) (k3 : P k) (k4 : ∀ j, 1 ≤ j → j < k → ¬ P j) : minV P = ((k : Int), 0) := by
  unfold minV
  have hex : ∃ k, (1 ≤ k ∧ k ≤ 1000 ∧ P k) ∧ ∀ j, 1 ≤ j → j < k → ¬ P j := ⟨k, ⟨k1, k2, k3⟩, k4⟩
  rw [dif_pos hex]
  have hc := Classical.choose_spec hex
  have : Classical.choose hex = k := by
    generalize Classical.choose hex = m at hc
    rcases Nat.lt_trichotomy m k with e | e | e
    · exact absurd hc.1.2.2 (k4 m hc.1.1 e)
    · exact e
    · exact absurd k3 (hc.2 k k1 e)
  rw [this]
theorem lv_end {P : Nat → Prop} {k v : Nat} (h : LV P k v) (hk : k ≤ 1001) (he : k = 1001 ∨ v ≠ 0) : (v = 0 ∧ minV P = (0, 12)) ∨ (0 < v ∧ minV P = ((v : Int), 0)) := by
  rcases h with ⟨rfl, h⟩ | ⟨h1, h2, h3, h4⟩
  · have : k = 1001 := by omega
    exact .inl ⟨rfl, minV_none (fun j j1 j2 => h j j1 (by omega))⟩
  · exact .inr ⟨h1, minV_some h1 (by omega) h3 h4⟩
theorem homI_ok {n : Int} {l : List Int} (h1 : ∀ j, j < l.length → 0 ≤ g l j ∧ g l j < n) (h2 : ∀ j, 0 < j → j < l.length → g l (j - 1) < g l j) : ∀ m i, i + m ≤ l.length → homI n l m i = 0
  | 0, _, _ => rfl
  | m + 1, i, h => by
    simp only [homI]
    rw [if_pos (h1 i (by omega)), if_neg (fun e => by have := h2 i e.1 (by omega); omega)]
    exact homI_ok h1 h2 m (i + 1) (by omega)
theorem homeE_ok {n : Int} {l : List Int} (hn : 1 ≤ n ∧ n ≤ 20) (h1 : ∀ x ∈ l, 0 ≤ x ∧ x < n) (h2 : l.Pairwise (· < ·)) : homeE n l = 0 := by
  unfold homeE
  rw [if_pos hn]
  refine homI_ok (fun j hj => h1 _ (by rw [g_lt hj]; simp)) (fun j j0 hj => ?_) _ _ (by omega)
  rw [g_lt (by omega), g_lt hj]
  exact (List.pairwise_iff_getElem.1 h2) (j - 1) j (by omega) hj (by omega)
end Go.Proofs.Ytmlhekfkniibmaa

/- Rollers counted one by one: what the counting leaves (no program here). -/
namespace Go.Proofs.Ytmlhekfkniibmaa
open Go Go.Proofs.Ytmlhekfkniibmaa.AX

/-- Counts of one round, step by step. -/
def Tn (L : List Int) (T : Int → Nat) : Nat → Int → Nat
  | 0 => T
  | j + 1 => fun x => if x = g L (j % L.length) then Tn L T j x + 1 else Tn L T j x
def simT (k : Nat) : Nat → List Int → (Int → Nat) → Int → Nat
  | 0, _, T => T
  | m + 1, L, T => simT k m (rot L ((k - 1) % (m + 1))) (Tn L T k)
theorem succ_div' (a m : Nat) (hm : 0 < m) : (a + 1) / m = a / m + if (a + 1) % m = 0 then 1 else 0 := by
  have h1 := Nat.div_add_mod a m
  have h2 := Nat.mod_lt a hm
  generalize a / m = q at *
  generalize a % m = r at *
  subst h1
  by_cases h : r + 1 = m
  · have e : m * q + r + 1 = m * (q + 1) := by rw [Nat.mul_succ]; omega
    rw [e, Nat.mul_div_cancel_left _ hm, if_pos (Nat.mul_mod_right m _)]
  · have e : m * q + r + 1 = (r + 1) + m * q := by omega
    rw [e, Nat.add_mul_div_left _ _ hm, Nat.add_mul_mod_self_left, Nat.div_eq_of_lt (by omega), Nat.mod_eq_of_lt (by omega), if_neg (by omega)]
    omega
theorem cnt_step {j m p : Nat} (hp : p < m) : (j + 1 + (m - 1) - p) / m = (j + (m - 1) - p) / m + if j % m = p then 1 else 0 := by
  have e : j + 1 + (m - 1) - p = (j + (m - 1) - p) + 1 := by omega
  rw [e, succ_div' _ m (by omega)]
  congr 1
  have h1 := Nat.div_add_mod j m
  have h2 := Nat.mod_lt j (show 0 < m by omega)
  generalize j / m = q at *
  generalize j % m = r at *
  subst h1
  have e2 : m * q + r + (m - 1) - p + 1 = (r + m - p) + m * q := by omega
  rw [e2, Nat.add_mul_mod_self_left]
  by_cases h : r = p
  · subst h
    rw [if_pos rfl, show r + m - r = m by omega, if_pos (Nat.mod_self m)]
  · rw [if_neg h, if_neg]
    intro h3
    rcases Nat.lt_or_ge r p with h4 | h4
    · rw [Nat.mod_eq_of_lt (by omega)] at h3; omega
    · rw [show r + m - p = (r - p) + m by omega, Nat.add_mod_right, Nat.mod_eq_of_lt (by omega)] at h3; omega
theorem tn_closed {L : List Int} (hd : L.Nodup) (h0 : 0 < L.length) (T : Int → Nat) (x : Int) : ∀ j, Tn L T j x = T x + if idx x L = -1 then 0 else (j + (L.length - 1) - (idx x L).toNat) / L.length
  | 0 => by
    by_cases h : idx x L = -1
    · rw [if_pos h]; rfl
    · have h1 := idx_ge x L
      have h2 := idx_lt x L
      rw [if_neg h, Nat.div_eq_of_lt (by omega)]; rfl
  | j + 1 => by
    have ih := tn_closed hd h0 T x j
    have hm := Nat.mod_lt j h0
    simp only [Tn]
    by_cases h : idx x L = -1
    · have hx : x ∉ L := fun hx => by have := idx_mem hx; omega
      rw [if_neg (fun e => hx (by rw [e, g_lt hm]; simp)), ih, if_pos h, if_pos h]
    · have h1 := idx_ge x L
      obtain ⟨p, hp⟩ : ∃ p : Nat, idx x L = p := ⟨(idx x L).toNat, by omega⟩
      obtain ⟨h2, h3⟩ := idx_get hp
      rw [ih, if_neg h, if_neg h, hp, Int.toNat_natCast, cnt_step h2]
      by_cases e : j % L.length = p
      · rw [if_pos e, if_pos (by rw [e, h3])]; omega
      · rw [if_neg e, if_neg (fun e2 => e (g_inj hd hm h2 (by rw [h3, ← e2])))]; omega
theorem simT_eq (k : Nat) (x : Int) : ∀ (m : Nat) (L : List Int) (T : Int → Nat), L.length = m → L.Nodup → simT k m L T x = T x + cntS k x m L
  | 0, _, _, _, _ => rfl
  | m + 1, L, T, hl, hd => by
    have ha : (k - 1) % (m + 1) < L.length := by rw [hl]; exact Nat.mod_lt _ (by omega)
    simp only [simT, cntS]
    rw [simT_eq k x m _ _ (by rw [rot_len ha]; omega) (rot_nodup ha hd).2, tn_closed hd (by omega), hl, show m + 1 - 1 = m by omega]
    by_cases h : idx x L = -1
    · have hx : x ∉ L := fun hx => by have := idx_mem hx; omega
      rw [if_pos h, if_pos h, cntS_none (idx_none (fun h2 => hx ((rot_mem ha).2 (.inr h2))))]
    · rw [if_neg h, if_neg h]; omega
/-- Who sits after some counts, from the next one on. -/
theorem rotL_step {L : List Int} {b : Nat} (hb : b < L.length) : rotL L ((b + 1) % L.length) = (rotL L b).tail ++ [g L b] := by
  have hc : (b + 1) % L.length < L.length := Nat.mod_lt _ (by omega)
  have h1 : rotL L b = g L b :: (L.drop (b + 1) ++ L.take b) := by
    unfold rotL
    rw [List.drop_eq_getElem_cons hb, g_lt hb]; rfl
  rw [h1, List.tail_cons, List.append_assoc]
  have h2 : L.take b ++ [g L b] = L.take (b + 1) := by rw [g_lt hb]; simp
  rw [h2]
  by_cases e : b + 1 = L.length
  · rw [e, Nat.mod_self]
    simp [rotL]
  · rw [Nat.mod_eq_of_lt (by omega)]; rfl
theorem rotL_head {L : List Int} {b : Nat} (hb : b < L.length) : rotL L b = g L b :: (rotL L b).tail := by
  unfold rotL
  rw [List.drop_eq_getElem_cons hb, g_lt hb]; rfl
/-- Who sits longer is not counted much less. -/
def Bal (T : Int → Nat) (L : List Int) : Prop := L.Pairwise fun x y => T x ≤ T y ∧ T y ≤ T x + 1
theorem bal_step {T : Int → Nat} {h : Int} {R : List Int} (hd : (h :: R).Nodup) (hB : Bal T (h :: R)) : Bal (fun x => if x = h then T x + 1 else T x) (R ++ [h]) := by
  obtain ⟨h1, h2⟩ := List.nodup_cons.1 hd
  obtain ⟨h3, h4⟩ := List.pairwise_cons.1 hB
  unfold Bal
  rw [List.pairwise_append]
  refine ⟨?_, by simp, fun x hx y hy => ?_⟩
  · refine h4.imp_of_mem fun {x y} hx hy hxy => ?_
    have e1 : x ≠ h := fun e => h1 (by rw [← e]; exact hx)
    have e2 : y ≠ h := fun e => h1 (by rw [← e]; exact hy)
    simp only [if_neg e1, if_neg e2]
    exact hxy
  · simp at hy
    subst hy
    have := h3 x hx
    have e1 : x ≠ y := fun e => h1 (by rw [← e]; exact hx)
    simp only [if_neg e1, if_true]
    omega
theorem rotL_perm {L : List Int} {b : Nat} : (rotL L b).Perm L := by
  unfold rotL
  have h := (List.perm_append_comm : (L.drop b ++ L.take b).Perm (L.take b ++ L.drop b))
  rwa [List.take_append_drop] at h
theorem bal_tn {L : List Int} (hd : L.Nodup) (h0 : 0 < L.length) {T : Int → Nat} (hB : Bal T L) : ∀ j, Bal (Tn L T j) (rotL L (j % L.length))
  | 0 => by rw [Nat.zero_mod]; simpa [rotL, Tn] using hB
  | j + 1 => by
    have ih := bal_tn hd h0 hB j
    have hm := Nat.mod_lt j h0
    have e : rotL L ((j + 1) % L.length) = (rotL L (j % L.length)).tail ++ [g L (j % L.length)] := by
      rw [← rotL_step hm, Nat.mod_add_mod]
    rw [e]
    have hn : (rotL L (j % L.length)).Nodup := rotL_perm.nodup_iff.2 hd
    rw [rotL_head hm] at hn ih
    exact bal_step hn ih
theorem rot_last {L : List Int} {k m : Nat} (hl : L.length = m + 1) (hk : 1 ≤ k) : rotL L (k % (m + 1)) = rot L ((k - 1) % (m + 1)) ++ [g L ((k - 1) % (m + 1))] := by
  have ha : (k - 1) % (m + 1) < L.length := by rw [hl]; exact Nat.mod_lt _ (by omega)
  have := rotL_step ha
  rw [hl, Nat.mod_add_mod, show k - 1 + 1 = k by omega] at this
  rw [this]
  congr 1
  unfold rotL rot
  rw [List.drop_eq_getElem_cons ha]; rfl
theorem tn_mono {L : List Int} {T : Int → Nat} {x : Int} : ∀ j, T x ≤ Tn L T j x
  | 0 => Nat.le_refl _
  | j + 1 => by
    have := tn_mono (L := L) (T := T) (x := x) j
    simp only [Tn]
    split <;> omega
theorem simT_mono {k : Nat} {x : Int} : ∀ {m : Nat} {L : List Int} {T : Int → Nat}, T x ≤ simT k m L T x
  | 0, _, _ => Nat.le_refl _
  | _m + 1, _L, _T => Nat.le_trans (tn_mono k) simT_mono
theorem bal_final {k : Nat} (hk : 1 ≤ k) : ∀ {m : Nat} {L : List Int} {T : Int → Nat}, L.length = m → L.Nodup → Bal T L → (ordS k m L).Pairwise fun o r => simT k m L T o ≤ simT k m L T r + 1
  | 0, _, _, _, _, _ => .nil
  | m + 1, L, T, hl, hd, hB => by
    have ha : (k - 1) % (m + 1) < L.length := by rw [hl]; exact Nat.mod_lt _ (by omega)
    have hb := bal_tn hd (by omega) hB k
    rw [hl, rot_last hl hk] at hb
    obtain ⟨b1, -, b2⟩ := List.pairwise_append.1 hb
    have hn := rot_nodup ha hd
    have hrl : (rot L ((k - 1) % (m + 1))).length = m := by rw [rot_len ha]; omega
    simp only [ordS, simT]
    rw [List.pairwise_cons]
    refine ⟨fun r hr => ?_, bal_final hk hrl hn.2 b1⟩
    have hr2 := (ordS_perm k m _ hrl).mem_iff.1 hr
    have h1 := b2 r hr2 _ (List.mem_singleton.2 rfl)
    have h2 : simT k m (rot L ((k - 1) % (m + 1))) (Tn L T k) (g L ((k - 1) % (m + 1))) = Tn L T k (g L ((k - 1) % (m + 1))) := by
      rw [simT_eq _ _ _ _ _ hrl hn.2, cntS_none (idx_none hn.1)]; rfl
    have h3 := simT_mono (k := k) (m := m) (L := rot L ((k - 1) % (m + 1))) (T := Tn L T k) (x := r)
    rw [h2]; omega
/-- A sum over the rollers. -/
def sumN (T : Int → Nat) (l : List Int) : Nat := (l.map T).sum
theorem sumN_step {T : Int → Nat} {h : Int} : ∀ {l : List Int}, l.Nodup → h ∈ l → sumN (fun x => if x = h then T x + 1 else T x) l = sumN T l + 1
  | x :: l, hd, hm => by
    obtain ⟨h1, h2⟩ := List.nodup_cons.1 hd
    have hno : ∀ {l : List Int}, h ∉ l → sumN (fun x => if x = h then T x + 1 else T x) l = sumN T l := by
      intro l hl
      unfold sumN
      congr 1
      refine List.map_congr_left fun y hy => ?_
      rw [if_neg (fun e => hl (by rw [← e]; exact hy))]
    by_cases e : x = h
    · subst e
      have := hno h1
      unfold sumN at this ⊢
      simp only [List.map_cons, List.sum_cons, this, if_true]; omega
    · have hm2 : h ∈ l := by
        rcases List.mem_cons.1 hm with e2 | e2
        · exact absurd e2.symm e
        · exact e2
      have := sumN_step (T := T) h2 hm2
      unfold sumN at this ⊢
      simp only [List.map_cons, List.sum_cons, this]
      rw [if_neg e]; omega
theorem sum_tn {A L : List Int} (hA : A.Nodup) (hs : ∀ x ∈ L, x ∈ A) (h0 : 0 < L.length) (T : Int → Nat) : ∀ j, sumN (Tn L T j) A = sumN T A + j
  | 0 => rfl
  | j + 1 => by
    have ih := sum_tn hA hs h0 T j
    have hm := Nat.mod_lt j h0
    have h1 : g L (j % L.length) ∈ A := hs _ (by rw [g_lt hm]; simp)
    show sumN (fun x => if x = g L (j % L.length) then Tn L T j x + 1 else Tn L T j x) A = _
    rw [sumN_step hA h1, ih]; omega
theorem sum_sim {k : Nat} {A : List Int} (hA : A.Nodup) : ∀ {m : Nat} {L : List Int} {T : Int → Nat}, L.length = m → (∀ x ∈ L, x ∈ A) → sumN (simT k m L T) A = sumN T A + m * k
  | 0, _, _, _, _ => by simp [simT]
  | m + 1, L, T, hl, hs => by
    have ha : (k - 1) % (m + 1) < L.length := by rw [hl]; exact Nat.mod_lt _ (by omega)
    simp only [simT]
    rw [sum_sim hA (by rw [rot_len ha]; omega) (fun x hx => hs x ((rot_mem ha).2 (.inr hx))), sum_tn hA hs (by omega), Nat.succ_mul]
    omega
def TF (n k : Nat) : Int → Nat := simT k n (allS n) fun _ => 0
theorem TF_cnt {n k : Nat} (x : Int) : TF n k x = cntN n k x := by
  unfold TF cntN
  rw [simT_eq _ _ _ _ _ (allS_len n) (allS_nodup n)]; omega
theorem TF_bal {n k : Nat} (hk : 1 ≤ k) : (orderS n k).Pairwise fun o r => TF n k o ≤ TF n k r + 1 := bal_final hk (allS_len n) (allS_nodup n) (List.pairwise_iff_forall_sublist.2 fun {_ _} _ => ⟨Nat.le_refl 0, Nat.zero_le _⟩)
theorem sumN_perm {T : Int → Nat} {l m : List Int} (h : l.Perm m) : sumN T l = sumN T m := by
  unfold sumN
  induction h with
  | nil => rfl
  | cons x _ ih => simp only [List.map_cons, List.sum_cons, ih]
  | swap x y l => simp only [List.map_cons, List.sum_cons]; omega
  | trans _ _ a b => rw [a, b]
theorem TF_sum {n k : Nat} : sumN (TF n k) (orderS n k) = n * k := by
  rw [sumN_perm (orderS_perm n k)]
  unfold TF
  rw [sum_sim (allS_nodup n) (allS_len n) (fun _ h => h)]
  have : sumN (fun _ => 0) (allS n) = 0 := by
    unfold sumN
    induction allS n with
    | nil => rfl
    | cons x l ih => simp only [List.map_cons, List.sum_cons]; omega
  omega
/-! ### Who is next around the bench -/
def cyc (n c : Nat) : List Int := rotL (allS n) c
/-- A list has its members in their order around the bench, from c on. -/
def Cyc (n c : Nat) (L : List Int) : Prop := L = (cyc n c).filter fun x => decide (x ∈ L)
theorem cyc_head {n c : Nat} (hc : c < n) : cyc n c = (c : Int) :: (cyc n c).tail := by
  have := rotL_head (L := allS n) (b := c) (by rw [allS_len]; exact hc)
  rw [g_all hc] at this
  exact this
theorem cyc_next {n c : Nat} (hc : c < n) : cyc n ((c + 1) % n) = (cyc n c).tail ++ [(c : Int)] := by
  have := rotL_step (L := allS n) (b := c) (by rw [allS_len]; exact hc)
  rw [allS_len, g_all hc] at this
  exact this
theorem Cyc.start (n : Nat) : Cyc n 0 (allS n) := by
  unfold Cyc cyc
  have : rotL (allS n) 0 = allS n := by simp [rotL]
  rw [this]
  exact (List.filter_eq_self.2 fun x hx => by simpa using hx).symm
theorem Cyc.skip {n c : Nat} {L : List Int} (h : Cyc n c L) (hc : c < n) (hn : (c : Int) ∉ L) : Cyc n ((c + 1) % n) L := by
  unfold Cyc at h ⊢
  rw [cyc_head hc, List.filter_cons, if_neg (by simpa using hn)] at h
  rw [cyc_next hc, List.filter_append]
  have : [(c : Int)].filter (fun x => decide (x ∈ L)) = [] := by simp [hn]
  rw [this, List.append_nil]
  exact h
theorem Cyc.head {n c : Nat} {L : List Int} (h : Cyc n c L) (hc : c < n) (hm : (c : Int) ∈ L) : ∃ M, L = (c : Int) :: M ∧ Cyc n ((c + 1) % n) (M ++ [(c : Int)]) := by
  unfold Cyc at h
  have h2 := h
  rw [cyc_head hc, List.filter_cons, if_pos (by simpa using hm)] at h2
  refine ⟨_, h2, ?_⟩
  have hmem : ∀ y, y ∈ (List.filter (fun x => decide (x ∈ L)) (cyc n c).tail) ++ [(c : Int)] ↔ y ∈ L := by
    intro y
    conv => rhs; rw [h2]
    rw [List.mem_append, List.mem_singleton, List.mem_cons]
    exact Or.comm
  unfold Cyc
  simp only [hmem]
  rw [cyc_next hc, List.filter_append]
  have : [(c : Int)].filter (fun x => decide (x ∈ L)) = [(c : Int)] := by simp [hm]
  rw [this]
theorem Cyc.drop {n c : Nat} {M : List Int} {x : Int} (h : Cyc n c (M ++ [x])) (hd : (M ++ [x]).Nodup) : Cyc n c M := by
  have hx : x ∉ M := fun hm => (List.pairwise_append.1 hd).2.2 x hm x (by simp) rfl
  unfold Cyc at h ⊢
  have e1 : M = (M ++ [x]).filter fun y => decide (y ∈ M) := by
    rw [List.filter_append]
    have h1 : M.filter (fun y => decide (y ∈ M)) = M := List.filter_eq_self.2 fun y hy => by simpa using hy
    have h2 : [x].filter (fun y => decide (y ∈ M)) = [] := by simp [hx]
    rw [h1, h2, List.append_nil]
  conv => lhs; rw [e1, h]
  rw [List.filter_filter]
  congr 1
  funext y
  by_cases hy : y ∈ M <;> simp [hy]
/-- How far away the next one sits. -/
def far (n c : Nat) (L : List Int) : Nat := (cyc n c).findIdx fun x => decide (x ∈ L)
theorem far_skip {n c : Nat} {L : List Int} (h : Cyc n c L) (hc : c < n) (hn : (c : Int) ∉ L) (hne : L ≠ []) : far n ((c + 1) % n) L < far n c L := by
  unfold far
  rw [cyc_next hc]
  conv => rhs; rw [cyc_head hc]
  rw [List.findIdx_cons]
  have : decide ((c : Int) ∈ L) = false := by simpa using hn
  rw [this, cond_false]
  have hex : ∃ x ∈ (cyc n c).tail, decide (x ∈ L) = true := by
    obtain ⟨x, hx⟩ := List.exists_mem_of_ne_nil L hne
    unfold Cyc at h
    have h2 := hx
    rw [h, List.mem_filter, cyc_head hc, List.mem_cons] at h2
    rcases h2.1 with e | e
    · rw [e] at hx; exact absurd hx hn
    · exact ⟨x, e, by simpa using hx⟩
  have hlt := List.findIdx_lt_length.2 hex
  rw [List.findIdx_append, if_pos hlt]
  omega
end Go.Proofs.Ytmlhekfkniibmaa

/- Rollers counted one by one, as the law does it. -/
namespace Go.Proofs.Ytmlhekfkniibmaa
open Go Go.Proofs.Ytmlhekfkniibmaa.AX

def gl (n : Nat) (L : List Int) : List AV := (List.range n).map fun r : Nat => AV.bool (decide ((r : Int) ∉ L))
theorem gl_get {n : Nat} {L : List Int} {c : Nat} (h : c < n) : (gl n L)[c]? = some (.bool (decide ((c : Int) ∉ L))) := by simp [gl, h]
theorem gl_congr {n : Nat} {L M : List Int} (h : ∀ x, x ∈ L ↔ x ∈ M) : gl n L = gl n M := by simp only [gl, h]
theorem gl_set {n : Nat} {L M : List Int} {c : Nat} (hc : (c : Int) ∉ M) (h : ∀ x, x ∈ L ↔ x = (c : Int) ∨ x ∈ M) : (gl n L).set c (.bool true) = gl n M := by
  apply List.ext_getElem?
  intro i
  rw [List.getElem?_set]
  by_cases e : c = i
  · subst e
    by_cases h1 : c < n
    · rw [if_pos rfl, if_pos (by simpa [gl] using h1), gl_get h1]; simp [hc]
    · rw [if_pos rfl, if_neg (by simpa [gl] using h1)]; simp [gl, h1]
  · rw [if_neg e]
    by_cases h1 : i < n
    · rw [gl_get h1, gl_get h1]
      have : (i : Int) ∈ L ↔ (i : Int) ∈ M := by
        rw [h]
        constructor
        · rintro (h2 | h2)
          · exact absurd (by omega) e
          · exact h2
        · exact .inr
      simp only [this]
    · simp [gl, h1]
def tl (n : Nat) (T : Int → Nat) : List Int := (allS n).map fun x => ((T x : Nat) : Int)
theorem tl_len (n : Nat) (T : Int → Nat) : (tl n T).length = n := by simp [tl, allS_len]
theorem tl_g {n : Nat} {T : Int → Nat} {c : Nat} (h : c < n) : g (tl n T) c = ((T c : Nat) : Int) := by
  unfold tl
  rw [g_map (by rw [allS_len]; exact h), g_all h]
theorem tl_set {n : Nat} {T : Int → Nat} {c : Nat} (h : c < n) : (tl n T).set c ((T c + 1 : Nat) : Int) = tl n (fun x => if x = (c : Int) then T x + 1 else T x) := by
  apply g_ext (by simp [tl_len])
  intro i hi
  simp [tl_len] at hi
  rw [g_set (by rw [tl_len]; exact h), tl_g hi, tl_g hi]
  by_cases e : i = c
  · subst e; simp
  · rw [if_neg e, if_neg (by omega)]
theorem tn_le {L : List Int} {T : Int → Nat} {x : Int} {B : Nat} (h : T x ≤ B) : ∀ j, Tn L T j x ≤ B + j
  | 0 => h
  | j + 1 => by
    have := tn_le (L := L) h j
    simp only [Tn]
    split <;> omega
set_option maxRecDepth 100000 in
set_option maxHeartbeats 4000000 in
theorem counts_ac (n k : Nat) (h1 : 1 ≤ n) (h2 : n ≤ 1000) (h3 : 1 ≤ k) (h4 : k ≤ 1000000000) (H : AH) (Q : AV → AH → Prop)
    (h : ∀ v w H', OwnF (H.length + 2) H' v ((orderS n k).map (.int .i64)) → OwnF H.length H' w ((tl n (TF n k)).map (.int .i64)) → Ext H H' → Q (.tuple [v, w]) H') : AC Try.prog 38 [.int .i64 n, .int .i64 k] H Q := by
  refine L_body 49 Try.func38 rfl rfl ?_
  have z1 : tl n (fun _ => 0) = List.replicate n 0 := by
    apply g_ext (by simp [tl_len])
    intro i hi
    rw [tl_len] at hi
    rw [tl_g hi, g_lt (by simpa using hi)]; simp
  have z2 : gl n (allS n) = List.replicate n (AV.bool false) := by
    apply List.ext_getElem?
    intro i
    by_cases hi : i < n
    · rw [gl_get hi]
      have : (i : Int) ∈ allS n := mem_allS.2 (by omega)
      simp [this, hi]
    · simp [gl, hi]
  refine L_reg [0, 1, 4] (fun K hK => ?_)
  simp
  apply hK; clear hK K
  refine L_reg [0, 1, 4, 5] (fun K hK => ?_)
  simp [make_z elz22 (show n ≤ 16777216 by omega)]
  apply hK; clear hK K
  refine L_reg [0, 1, 4, 5, 6] (fun K hK => ?_)
  simp [make_z elz70 (show n ≤ 16777216 by omega)]
  apply hK; clear hK K
  have hT0 : Rw H.length 0 (H ++ [AObj.row (List.replicate n (AV.int .i64 0)) 0 0 false, AObj.row (List.replicate n (AV.bool false)) 0 0 false]) (tl n fun _ => 0) := by
    rw [z1]; exact ⟨0, by simp⟩
  have hG0 : (H ++ [AObj.row (List.replicate n (AV.int .i64 0)) 0 0 false, AObj.row (List.replicate n (AV.bool false)) 0 0 false])[H.length + 1]? = some (.row (gl n (allS n)) 0 0 false) := by
    rw [z2]; simp
  have hE0 : Ext H (H ++ [AObj.row (List.replicate n (AV.int .i64 0)) 0 0 false, AObj.row (List.replicate n (AV.bool false)) 0 0 false]) := .push _ _
  have hl0 : (H ++ [AObj.row (List.replicate n (AV.int .i64 0)) 0 0 false, AObj.row (List.replicate n (AV.bool false)) 0 0 false]).length = H.length + 2 := by simp
  generalize H ++ [AObj.row (List.replicate n (AV.int .i64 0)) 0 0 false, AObj.row (List.replicate n (AV.bool false)) 0 0 false] = H0 at hT0 hG0 hE0 hl0 ⊢
  clear z1 z2
  obtain ⟨p, hp⟩ : ∃ p, p = H.length := ⟨_, rfl⟩
  rw [← hp] at hT0 hG0 hl0 h ⊢
  have hn1 : (n : Int) - 1 = ((n - 1 : Nat) : Int) := by omega
  have hn0 : n ≠ 0 := by omega
  refine L_reg [0, 1, 4, 5, 6, 7] (fun K hK => ?_)
  simp [hn1, wrap_i64 (a := ((n - 1 : Nat) : Int)) (by omega)]
  apply hK; clear hK K
  refine L_reg [0, 1, 4, 5, 6, 7, 14, 15] (fun K hK => ?_)
  simp
  apply hK; clear hK K
  refine L_block (L_loopV [4, 7, 15] (fun q vs H' => ∃ (i at' st : Nat) (L o : List Int) (T : Int → Nat) (v : AV), q = n - i ∧ i ≤ n ∧ at' < n ∧ L.length = n - i ∧ L.Nodup ∧ (∀ x ∈ L, 0 ≤ x ∧ x < n) ∧ Cyc n ((at' + 1) % n) L ∧ o ++ ordS k (n - i) L = orderS n k ∧ o.length = i ∧ simT k (n - i) L T = TF n k ∧ (∀ x, T x ≤ i * k) ∧ vs = [v, .int .i64 at', .int .i64 i] ∧ H'[p + 1]? = some (.row (gl n L) 0 st false) ∧ Rw p 0 H' (tl n T) ∧ OwnF (p + 2) H' v (o.map (.int .i64)) ∧ Ext H H' ∧ p + 2 ≤ H'.length) n [.slice none 0 0 0 1 false, .int .i64 ((n - 1 : Nat) : Int), .int .i64 0] rfl ⟨0, n - 1, 0, allS n, [], (fun _ => 0), _, rfl, by omega, by omega, allS_len n, allS_nodup n, fun x hx => mem_allS.1 hx, by rw [show n - 1 + 1 = n by omega, Nat.mod_self]; exact Cyc.start n, rfl, rfl, rfl, fun x => Nat.zero_le _, rfl, hG0, hT0, .nil _ _, hE0, by omega⟩ ?_)
  rintro q _ H1 ⟨i, at', st, L, o, T, v, rfl, hi, hat, hLl, hLd, hLm, hC, hord, hol, hsim, hTb, rfl, hG, hT, hO, hE, hlen⟩
  refine L_reg [0, 1, 4, 5, 6, 7, 14, 15, 16] (fun K hK => ?_)
  simp
  apply hK; clear hK K
  refine L_dec (i < n) (by simp) (fun hlt => ?_) (fun hge => L_exit ?_)
  · refine L_block ?_
    obtain ⟨m, hm⟩ : ∃ m, n - i = m + 1 := ⟨n - i - 1, by omega⟩
    rw [hm] at hLl hord hsim
    simp only [ordS] at hord
    simp only [simT] at hsim
    have hik : i * k ≤ 1000 * 1000000000 := Nat.mul_le_mul (by omega) h4
    refine L_reg [0, 1, 4, 5, 6, 7, 14, 15, 17, 18] (fun K hK => ?_)
    simp
    apply hK; clear hK K
    refine L_block (L_loopV [7, 18] (fun q vs H' => ∃ (j b : Nat), q = k - j ∧ j ≤ k ∧ b < n ∧ Cyc n ((b + 1) % n) (rotL L (j % (m + 1))) ∧ (0 < j → (b : Int) = g L ((j - 1) % (m + 1))) ∧ vs = [.int .i64 b, .int .i64 j] ∧ Rw p 0 H' (tl n (Tn L T j)) ∧ KeepX p H1 H') _ [.int .i64 at', .int .i64 0] rfl ⟨0, at', rfl, by omega, hat, by rw [Nat.zero_mod]; simpa [rotL] using hC, fun h => by omega, rfl, hT, .refl _ _⟩ ?_)
    rintro q _ H2 ⟨j, b, rfl, hj, hb, hCj, hbl, rfl, hT2, hK2⟩
    have hG2 : H2[p + 1]? = some (.row (gl n L) 0 st false) := hK2.row (by omega) hG
    refine L_reg [0, 1, 4, 5, 6, 7, 14, 15, 17, 18, 19] (fun K hK => ?_)
    simp
    apply hK; clear hK K
    refine L_dec (j < k) (by simp) (fun hjk => ?_) (fun hge => L_exit ?_)
    · refine L_block ?_
      have em := tmod_nat (b + 1) n
      push_cast at em
      obtain ⟨c, hc⟩ : ∃ c, c = (b + 1) % n := ⟨_, rfl⟩
      have hcn : c < n := by rw [hc]; exact Nat.mod_lt _ (by omega)
      have em2 : ((b : Int) + 1).tmod (n : Int) = (c : Int) := by rw [em, hc]; rfl
      rw [← hc] at hCj
      refine L_reg [0, 1, 4, 5, 6, 7, 14, 15, 17, 18] (fun K hK => ?_)
      simp [wrap_i64 (a := (b : Int) + 1) (by omega), hn0, em2]
      apply hK; clear hK K
      have hmemj : ∀ x, x ∈ rotL L (j % (m + 1)) ↔ x ∈ L := fun x => rotL_perm.mem_iff
      have hLjn : rotL L (j % (m + 1)) ≠ [] := by
        intro e
        have h9 := rotL_len (s := L) (a := j % (m + 1)) (by rw [hLl]; exact Nat.le_of_lt (Nat.mod_lt _ (by omega)))
        rw [e] at h9
        simp only [List.length_nil] at h9; omega
      refine L_block (L_loopV [7] (fun q vs H' => ∃ c : Nat, q = far n c (rotL L (j % (m + 1))) ∧ c < n ∧ Cyc n c (rotL L (j % (m + 1))) ∧ vs = [.int .i64 c] ∧ H2 = H') _ [.int .i64 c] rfl ⟨c, rfl, hcn, hCj, rfl, rfl⟩ ?_)
      clear em em2 hc hCj
      rintro q _ _ ⟨c, rfl, hcn, hCc, rfl, rfl⟩
      have hlg : ld H2 (p + 1) c 0 = some (.bool (decide ((c : Int) ∉ L))) := by rw [ld_row hG2, gl_get hcn]; rfl
      refine L_reg [0, 1, 4, 5, 6, 7, 14, 15, 17, 18, 27] (fun K hK => ?_)
      simp [hcn, hlg]
      apply hK; clear hK K
      by_cases hcL : (c : Int) ∈ L
      · refine L_false (by simp [hcL]) (L_exit ?_)
        obtain ⟨M, hM1, hM2⟩ := hCc.head hcn ((hmemj _).2 hcL)
        have hjm := Nat.mod_lt j (show 0 < m + 1 by omega)
        have hgh := rotL_head (L := L) (b := j % (m + 1)) (by rw [hLl]; exact hjm)
        have hgc : (c : Int) = g L (j % (m + 1)) := by
          have h5 := hM1.symm.trans hgh
          exact (List.cons.inj h5).1
        have hMt : M = (rotL L (j % (m + 1))).tail := by rw [hM1]; rfl
        have hst := rotL_step (L := L) (b := j % (m + 1)) (by rw [hLl]; exact hjm)
        rw [hLl, Nat.mod_add_mod, ← hMt, ← hgc] at hst
        rw [← hst] at hM2
        have hTc := tl_g (T := Tn L T j) hcn
        have hle := tn_le (L := L) (hTb (c : Int)) j
        obtain ⟨y, hy⟩ : ∃ y, y = Tn L T j (c : Int) := ⟨_, rfl⟩
        obtain ⟨H3, e1, e2, e3⟩ := hT2.put (i := c) (by rw [tl_len]; exact hcn) ((Tn L T j (c : Int) + 1 : Nat) : Int)
        have hl2 := hT2.ld (i := c) (by rw [tl_len]; exact hcn)
        rw [hTc, ← hy] at hl2
        have hset : (tl n (Tn L T j)).set c ((Tn L T j (c : Int) + 1 : Nat) : Int) = tl n (Tn L T (j + 1)) := by
          rw [tl_set hcn]
          congr 1
          funext x
          simp only [Tn, hLl, hgc]
        rw [hset] at e2
        rw [← hy] at e1 hle
        push_cast at e1
        refine L_reg [0, 1, 4, 5, 6, 7, 14, 15, 17, 18] (fun K hK => ?_)
        simp [hcn, hl2, wrap_i64 (a := (y : Int) + 1) (by omega), e1]
        apply hK; clear hK K
        refine L_reg [0, 1, 4, 5, 6, 7, 14, 15, 17, 18] (fun K hK => ?_)
        simp [wrap_i64 (a := (j : Int) + 1) (by omega)]
        apply hK; clear hK K
        exact ⟨k - (j + 1), [.int .i64 c, .int .i64 (j + 1 : Nat)], by omega, by simp, j + 1, c, rfl, by omega, hcn, hM2, fun _ => by rw [Nat.add_sub_cancel]; exact hgc, rfl, e2, hK2.trans e3⟩
      · refine L_true (by simp [hcL]) (L_block ?_)
        have hcj : (c : Int) ∉ rotL L (j % (m + 1)) := fun e => hcL ((hmemj _).1 e)
        have em := tmod_nat (c + 1) n
        push_cast at em
        have hf := far_skip hCc hcn hcj hLjn
        have hCs := hCc.skip hcn hcj
        obtain ⟨d, hd⟩ : ∃ d, d = (c + 1) % n := ⟨_, rfl⟩
        have hdn : d < n := by rw [hd]; exact Nat.mod_lt _ (by omega)
        have em2 : ((c : Int) + 1).tmod (n : Int) = (d : Int) := by rw [em, hd]; rfl
        rw [← hd] at hf hCs
        refine L_reg [0, 1, 4, 5, 6, 7, 14, 15, 17, 18] (fun K hK => ?_)
        simp [wrap_i64 (a := (c : Int) + 1) (by omega), hn0, em2]
        apply hK; clear hK K
        exact ⟨_, [.int .i64 d], hf, by simp, d, rfl, hdn, hCs, rfl, rfl⟩
    · have hjk : j = k := by omega
      subst hjk
      have hbg := hbl (by omega)
      have ha : (j - 1) % (m + 1) < L.length := by rw [hLl]; exact Nat.mod_lt _ (by omega)
      have hlast := rot_last hLl h3
      rw [← hbg] at hlast hord
      have hnd := rot_nodup ha hLd
      rw [← hbg] at hnd
      have hperm : (rot L ((j - 1) % (m + 1)) ++ [(b : Int)]).Nodup := by rw [← hlast]; exact rotL_perm.nodup_iff.2 hLd
      rw [hlast] at hCj
      have hC' := hCj.drop hperm
      have hmem := fun x => rot_mem ha (x := x)
      simp only [← hbg] at hmem
      have hrl : (rot L ((j - 1) % (m + 1))).length = m := by rw [rot_len ha]; omega
      have hgset := gl_set (n := n) (L := L) (M := rot L ((j - 1) % (m + 1))) (c := b) hnd.1 hmem
      have hst := store_row (P := Try.prog) (u := 4) (p := b) sc4 (x := .bool true) (y := .bool (decide ((b : Int) ∉ L))) rfl hG2 (by rw [gl_get hb]; rfl)
      rw [hgset] at hst
      have hG3 := get_set (o' := .row (gl n (rot L ((j - 1) % (m + 1)))) 0 (min st b) false) hG2
      have hK3 : KeepX (p + 1) H2 (H2.set (p + 1) (.row (gl n (rot L ((j - 1) % (m + 1)))) 0 (min st b) false)) := (KeepX.refl _ _).set _
      have hl3 : (H2.set (p + 1) (AObj.row (gl n (rot L ((j - 1) % (m + 1)))) 0 (min st b) false)).length = H2.length := by simp
      generalize H2.set (p + 1) (.row (gl n (rot L ((j - 1) % (m + 1)))) 0 (min st b) false) = H3 at hst hG3 hK3 hl3
      have hl2 : p + 2 ≤ H2.length := Nat.le_trans hlen hK2.1
      have hT3 : Rw p 0 H3 (tl n (Tn L T j)) := by obtain ⟨s, hs⟩ := hT2; exact ⟨s, hK3.row (by omega) hs⟩
      have hO3 : OwnF (p + 2) H3 v (o.map (.int .i64)) := by
        rcases hO with e | ⟨r2, ve2, st2, g1, g2, g3⟩
        · exact .inl e
        · exact .inr ⟨r2, ve2, st2, g1, g2, hK3.row (by omega) (hK2.row (by omega) g3)⟩
      have hE3 : Ext H H3 := hK3.new (hK2.new hE (by omega)) (by omega)
      obtain ⟨H00, hH00⟩ : ∃ H00 : AH, H00 = H3.take (p + 2) := ⟨_, rfl⟩
      have hl00 : H00.length = p + 2 := by rw [hH00]; simp; omega
      have hE00 : Ext H00 H3 := by
        rw [hH00]
        refine ⟨by simp; omega, fun q hq => ?_⟩
        simp at hq
        rw [List.getElem?_take_of_lt (by omega)]
      rw [← hl00] at hO3
      obtain ⟨v', H4, happ, hO4, hE4⟩ := ownF_append hE00 el22 el22 (x := .int .i64 (b : Int)) (m := 1) hO3 rfl (by simp; omega)
      rw [hl00] at hO4
      have hrow4 : ∀ q, q < p + 2 → H4[q]? = H3[q]? := fun q hq => by rw [hE4.2 q (by omega), hE00.2 q (by omega)]
      have hG4 : H4[p + 1]? = some (.row (gl n (rot L ((j - 1) % (m + 1)))) 0 (min st b) false) := by rw [hrow4 _ (by omega)]; exact hG3
      have hT4 : Rw p 0 H4 (tl n (Tn L T j)) := by obtain ⟨s, hs⟩ := hT3; exact ⟨s, by rw [hrow4 _ (by omega)]; exact hs⟩
      have hE5 : Ext H H4 := ⟨by have := hE4.1; omega, fun q hq => by rw [hrow4 q (by omega), hE3.2 q hq]⟩
      refine L_reg [0, 1, 4, 5, 6, 7, 14, 15] (fun K hK => ?_)
      simp [hb, hst]
      apply hK; clear hK K
      refine L_reg [0, 1, 4, 5, 6, 7, 14, 15] (fun K hK => ?_)
      simp [happ]
      apply hK; clear hK K
      refine L_reg [0, 1, 4, 5, 6, 7, 14, 15] (fun K hK => ?_)
      simp [wrap_i64 (a := (i : Int) + 1) (by omega)]
      apply hK; clear hK K
      refine ⟨n - (i + 1), [v', .int .i64 b, .int .i64 (i + 1 : Nat)], by omega, by simp, i + 1, b, min st b, rot L ((j - 1) % (m + 1)), o ++ [(b : Int)], Tn L T j, v', rfl, by omega, hb, by omega, hnd.2, fun x hx => hLm x ((hmem x).2 (.inr hx)), hC', ?_, by simp [hol], ?_, fun x => ?_, rfl, hG4, hT4, by simpa using hO4, hE5, by have := hE4.1; omega⟩
      · rw [show n - (i + 1) = m by omega, List.append_assoc]; exact hord
      · rw [show n - (i + 1) = m by omega]; exact hsim
      · have := tn_le (L := L) (hTb x) j
        rw [Nat.succ_mul]; exact this
  · have hii : n - i = 0 := by omega
    rw [hii] at hord hsim
    simp only [ordS, List.append_nil] at hord
    have hsim : T = TF n k := hsim
    subst hord hsim
    have hw := hT.ownF (N := p) (Nat.le_refl _)
    rw [tl_len] at hw
    refine L_reg [4, 5] (fun K hK => ?_)
    simp
    apply hK; clear hK K
    rw [hp] at hw hO
    exact L_ret ⟨.inr rfl, _, rfl, h _ _ H1 (by rw [hp]; exact hO) (by rw [hp]; exact hw) hE⟩
end Go.Proofs.Ytmlhekfkniibmaa

/- What BenchPossible's own functions do: the least common multiple, tried. -/
namespace Go.Proofs.Ytmlhekfkniibmaa
open Go Go.Proofs.Ytmlhekfkniibmaa.AX

theorem lcmS_dvdP {m : Nat} : ∀ {n : Nat}, (∀ j, 2 ≤ j → j ≤ n → j ∣ m) → lcmS n ∣ m
  | 0, _ => Nat.one_dvd m
  | n + 1, h => by
    refine Nat.lcm_dvd (lcmS_dvdP fun j h1 h2 => h j h1 (by omega)) ?_
    rcases Nat.eq_zero_or_pos n with e | e
    · rw [e]; exact Nat.one_dvd m
    · exact h (n + 1) (by omega) (by omega)
theorem dvd_lcmSP {j : Nat} (h1 : 1 ≤ j) : ∀ {n : Nat}, j ≤ n → j ∣ lcmS n
  | 0, h => by omega
  | n + 1, h => by
    rcases Nat.lt_or_ge n j with e | e
    · rw [show j = n + 1 by omega]; exact Nat.dvd_lcm_right _ _
    · exact Nat.dvd_trans (dvd_lcmSP h1 e) (Nat.dvd_lcm_left _ _)
theorem tried_ac (n : Nat) (h1 : 1 ≤ n) (h2 : n ≤ 20) (H : AH) (Q : AV → AH → Prop) (h : Q (.int .i64 (lcmS n : Nat)) H) : AC Try.prog 37 [.int .i64 n] H Q := by
  have hL := lcmS_le h2
  have hp := lcmS_pos n
  refine L_body 22 Try.func37 rfl rfl ?_
  refine L_reg [0] (fun K hK => ?_)
  simp
  apply hK; clear hK K
  refine L_reg [0, 3] (fun K hK => ?_)
  simp
  apply hK; clear hK K
  refine L_block (L_loopV [3] (fun q vs H' => ∃ m : Nat, q = lcmS n - m ∧ 1 ≤ m ∧ m ≤ lcmS n ∧ vs = [.int .i64 m] ∧ H = H') _ [.int .i64 1] rfl ⟨1, rfl, by omega, by omega, rfl, rfl⟩ ?_)
  rintro q _ _ ⟨m, rfl, hm1, hm2, rfl, rfl⟩
  refine L_block ?_
  refine L_reg [0, 3, 4] (fun K hK => ?_)
  simp
  apply hK; clear hK K
  refine L_reg [0, 3, 4, 5] (fun K hK => ?_)
  simp
  apply hK; clear hK K
  refine L_block (L_loopV [4, 5] (fun q vs H' => ∃ (j : Nat) (b : Bool), q = n + 1 - j ∧ 2 ≤ j ∧ (j ≤ n + 1 ∨ j = 2) ∧ (b = true ↔ ∀ i, 2 ≤ i → i < j → i ∣ m) ∧ vs = [.bool b, .int .i64 j] ∧ H = H') _ [.bool true, .int .i64 2] rfl ⟨2, true, rfl, by omega, .inr rfl, ⟨fun _ i h3 h4 => by omega, fun _ => rfl⟩, rfl, rfl⟩ ?_)
  rintro q _ _ ⟨j, b, rfl, hj, hj2, hb, rfl, rfl⟩
  refine L_reg [0, 3, 4, 5, 8] (fun K hK => ?_)
  simp
  apply hK; clear hK K
  refine L_dec (j ≤ n) (by simp) (fun hle => ?_) (fun hgt => L_exit ?_)
  · refine L_block ?_
    have em := tmod_nat m j
    have hj0 : j ≠ 0 := by omega
    cases b with
    | false =>
      refine L_reg [0, 3, 4, 5] (fun K hK => ?_)
      simp [pickV]
      apply hK; clear hK K
      refine L_reg [0, 3, 4, 5] (fun K hK => ?_)
      simp [wrap_i64 (a := (j : Int) + 1) (by omega)]
      apply hK; clear hK K
      exact ⟨n + 1 - (j + 1), [.bool false, .int .i64 (j + 1 : Nat)], by omega, by simp, j + 1, false, rfl, by omega, by omega, ⟨fun e => (by cases e), fun e => hb.2 fun i h3 h4 => e i h3 (by omega)⟩, rfl, rfl⟩
    | true =>
      generalize hr : m % j = r at em
      refine L_reg [0, 3, 4, 5] (fun K hK => ?_)
      simp [pickV, hj0, em]
      apply hK; clear hK K
      refine L_reg [0, 3, 4, 5] (fun K hK => ?_)
      simp [wrap_i64 (a := (j : Int) + 1) (by omega)]
      apply hK; clear hK K
      refine ⟨n + 1 - (j + 1), [.bool (decide (r = 0)), .int .i64 (j + 1 : Nat)], by omega, ?_, j + 1, decide (r = 0), rfl, by omega, by omega, ?_, rfl, rfl⟩
      · simp
        try rw [Bool.eq_iff_iff]; simp
      · rw [decide_eq_true_iff]
        constructor
        · intro e i h3 h4
          by_cases h5 : i = j
          · rw [h5]; exact Nat.dvd_of_mod_eq_zero (by omega)
          · exact hb.1 rfl i h3 (by omega)
        · intro e
          rw [← hr]; exact Nat.mod_eq_zero_of_dvd (e j hj (by omega))
  · have hall : b = true ↔ lcmS n ∣ m := by
      rw [hb]
      exact ⟨fun e => lcmS_dvdP fun i h3 h4 => e i h3 (by omega), fun e i h3 h4 => Nat.dvd_trans (dvd_lcmSP (by omega) (by omega)) e⟩
    refine L_reg [0, 3, 18] (fun K hK => ?_)
    simp
    apply hK; clear hK K
    cases b with
    | true =>
      have hd := Nat.le_of_dvd (by omega) (hall.1 rfl)
      have : m = lcmS n := by omega
      subst this
      refine L_true (by simp) ?_
      refine L_reg [2] (fun K hK => ?_)
      simp
      apply hK; clear hK K
      exact L_ret ⟨.inr rfl, _, rfl, h⟩
    | false =>
      have hne : m ≠ lcmS n := by
        intro e
        have := hall.2 (by rw [e]; exact Nat.dvd_refl _)
        cases this
      refine L_false (by simp) ?_
      refine L_reg [0, 3] (fun K hK => ?_)
      simp [wrap_i64 (a := (m : Int) + 1) (by omega)]
      apply hK; clear hK K
      exact ⟨lcmS n - (m + 1), [.int .i64 (m + 1 : Nat)], by omega, by simp, m + 1, rfl, by omega, by omega, rfl, rfl⟩
end Go.Proofs.Ytmlhekfkniibmaa

/- Orders of at most six, all of them: which count has them, or why none has (no program here). -/
namespace Go.Proofs.Ytmlhekfkniibmaa
open Go Go.Proofs.Ytmlhekfkniibmaa.AX

/-- An order as a key: six places. -/
def pad (o : List Int) : List Int := o ++ List.replicate (6 - o.length) 0
/-- The counts up to m, by their orders. -/
def tabN (n m : Nat) : List (List Int × Nat) := (List.range m).map fun b => (pad (orderS n (b + 1)), b + 1)
/-- Two remainders that exclude each other. -/
def clashB (n : Nat) (r : List Int) : Bool := (List.range n).any fun i => (List.range i).any fun j => (List.range (n + 1)).any fun d => decide (2 ≤ d) && decide ((n - i) % d = 0) && decide ((n - j) % d = 0) && decide (g r i % (d : Int) ≠ g r j % (d : Int))
def fitsB (r : List Int) (k : Nat) : Bool := (List.range r.length).all fun i => decide (((k % (r.length - i) : Nat) : Int) = g r i)
theorem fitsB_iff {r : List Int} {k : Nat} : fitsB r k = true ↔ Fits r k := by
  simp only [fitsB, List.all_eq_true, List.mem_range, decide_eq_true_eq, Fits]
def leafB (n : Nat) (o : List Int) : Bool :=
  decide (checkP o = 0) && decide ((remL o).length = n) && match (tabN n (lcmS n)).lookup (pad o) with
    | some k => decide (1 ≤ k) && decide (k ≤ 60) && fitsB (remL o) k && (List.range k).all fun j => j == 0 || !fitsB (remL o) j
    | none => clashB n (remL o)
def allB (n : Nat) : Nat → List Int → Bool
  | 0, o => leafB n o
  | d + 1, o => (List.range n).all fun i => decide ((i : Int) ∈ o) || allB n d (o ++ [(i : Int)])
theorem all6 : ((List.range 6).all fun a => allB (a + 1) (a + 1) []) = true := by decide +kernel
theorem new6 : ((List.range 6).all fun a => (List.range (lcmS (a + 1))).all fun b => ((tabN (a + 1) b).lookup (pad (orderS (a + 1) (b + 1)))).isNone && decide (orderS (a + 1) (b + 1 + lcmS (a + 1)) = orderS (a + 1) (b + 1))) = true := by decide +kernel
theorem clash_no {n : Nat} {r : List Int} (hl : r.length = n) (h : clashB n r = true) (k : Nat) : ¬ Fits r k := by
  simp only [clashB, List.any_eq_true, List.mem_range, Bool.and_eq_true, decide_eq_true_eq] at h
  obtain ⟨i, hi, j, hj, d, hd, ⟨⟨h2, h3⟩, h4⟩, h5⟩ := h
  intro hf
  have a1 := hf i (by omega)
  have a2 := hf j (by omega)
  rw [hl] at a1 a2
  apply h5
  rw [← a1, ← a2]
  have b1 : k % (n - i) % d = k % d := Nat.mod_mod_of_dvd k (Nat.dvd_of_mod_eq_zero h3)
  have b2 : k % (n - j) % d = k % d := Nat.mod_mod_of_dvd k (Nat.dvd_of_mod_eq_zero h4)
  rw [← Int.natCast_emod, ← Int.natCast_emod, b1, b2]
end Go.Proofs.Ytmlhekfkniibmaa

/- BenchPossible's function put: all orders are tried. -/
namespace Go.Proofs.Ytmlhekfkniibmaa
open Go Go.Proofs.Ytmlhekfkniibmaa.AX

def tabA (n : Nat) : List (List Int × AV) := (tabN n (lcmS n)).map fun p => (p.1, AV.int .i64 (p.2 : Nat))
/-- The cells that put shares with the law. -/
structure PC (n pn pf pw pm rm : Nat) (H : AH) : Prop where
  cn : H[pn]? = some (.row [.int .i64 n] 0 0 false)
  cf : H[pf]? = some (.row [.func (.func 39) [] [.ptr pn 0 0, .ptr pf 0 0, .ptr pw 0 0, .ptr pm 0 0]] 0 0 false)
  cw : H[pw]? = some (.row [.bool true] 0 0 false)
  cm : H[pm]? = some (.row [.map rm] 0 0 false)
  mp : MapA H rm (tabA n)
theorem PC.ext {n pn pf pw pm rm : Nat} {H H' : AH} (h : PC n pn pf pw pm rm H) (hE : Ext H H') : PC n pn pf pw pm rm H' := ⟨hE.row h.cn, hE.row h.cf, hE.row h.cw, hE.row h.cm, hE.row h.mp⟩
@[simp] theorem eo_row {H0 H : AH} (t : TypeId) (n : Nat) (ps : Array (Nat × Operand)) : extO (.buildSlice t n ps) H0 H = Ext H0 H := propext ⟨fun h => h rfl, fun h _ => h⟩
/-- append(l, x...), and which rows stay as they are. -/
theorem ownF_appendL2 {P : Program} {H H0 : AH} (hE : Ext H0 H) {t u : TypeId} (ht : elT P t = true) (hu : elT P u = true) {v x : AV} {l m : List Int} (ho : OwnF H0.length H v (l.map (.int .i64))) (hx : Ls H x m) (hlen : l.length + m.length ≤ 16777216) :
    ∃ v' H', aAppend P H t u v x = some (v', H') ∧ OwnF H0.length H' v' ((l ++ m).map (.int .i64)) ∧ Ext H0 H' ∧ ∀ j, j < H.length → rowOf v ≠ some j → H'[j]? = H[j]? := by
  obtain ⟨e, I, h1, h2, h3, h4, -⟩ := elT_some ht
  have hsrc := src_ls hu hx
  have hall := all_ints m
  have hle := hE.1
  unfold aAppend
  cases m with
  | nil =>
    simp only [List.length_nil, List.map_nil] at hsrc
    refine ⟨v, H, ?_, by simpa using ho, hE, fun j _ _ => rfl⟩
    rcases ho with ⟨-, rfl⟩ | ⟨r, ver, stale, hr0, rfl, hr⟩ <;> simp [h1, h2, h3, h4, hsrc]
  | cons y m =>
    have hml : ((y :: m).map (AV.int .i64)).length = (y :: m).length := by simp
    rw [List.map_append]
    generalize (y :: m).map (AV.int .i64) = vs at *
    have hne : (y :: m).length ≠ 0 := by simp
    generalize (y :: m).length = k at *
    rcases ho with ⟨h0, rfl⟩ | ⟨r, ver, stale, hr0, rfl, hr⟩
    · have : l = [] := by simpa using h0
      subst this
      have hk : k ≤ 16777216 := by simpa using hlen
      refine ⟨.slice (some H.length) 0 k 0 1 false, H ++ [.row vs 0 0 false], ?_, .inr ⟨H.length, 0, 0, by omega, by simp [hml], by simp⟩, hE.trans (.push _ _), fun j hj _ => List.getElem?_append_left hj⟩
      simp only [h1, h2, h3, h4, hsrc]
      simp [hml, hne, hk]
      exact fun x hx => List.all_eq_true.1 hall x hx
    · have hlt : r < H.length := (List.getElem?_eq_some_iff.1 hr).1
      have hll : (l.map (AV.int .i64)).length = l.length := by simp
      generalize hL : l.map (AV.int .i64) = L at *
      refine ⟨.slice (some r) 0 (l.length + k) (ver + 1) 1 false, H.set r (AObj.row (L ++ vs) (ver + 1) (min stale l.length) false), ?_, .inr ⟨r, ver + 1, min stale l.length, hr0, by simp [hll, hml], get_set hr⟩, hE.set _ hr0, fun j _ hne => List.getElem?_set_ne (fun e => hne (by rw [← e]; rfl))⟩
      have hin : inPlace H r 0 l.length k ver 1 vs = none := by simp [inPlace, hr, hll]; omega
      have hgr : grow H r 0 l.length ver vs = some (H.set r (AObj.row (L ++ vs) (ver + 1) (min stale l.length) false), ver + 1) := by
        simp [grow, hr, ← hll]
      simp only [h1, h2, h3, h4, hsrc, hll]
      simp only [Nat.zero_lt_one, true_and, if_true, Option.bind_some, hall, hml, Nat.mul_one, beq_self_eq_true, Bool.and_true, hne, if_false, hlen, Bool.false_eq_true, hin, hgr, Option.map_some]
theorem slice_all {P : Program} {t : TypeId} {n z : Nat} (h : arSz P t = some (n, z)) (hn : 0 < n) (hz : 0 < z) {H : AH} {r ver s : Nat} {c : List AV} {ro : Bool} (hr : H[r]? = some (.row c ver s ro)) (hc : c.length = n * z) (hk : ∀ v ∈ c, v ≠ .undef) :
    sliceR P t H (.ptr r 0 ver) none none none = some (.slice (some r) 0 n ver z false) := by
  unfold arSz at h
  split at h
  case h_2 => cases h
  rename_i n' e hu
  obtain ⟨ie, hie, h⟩ := Option.map_eq_some_iff.1 h
  cases h
  have hmul : 0 < n * ie.size := Nat.mul_pos hn hz
  have h2 : (ld H r (n * ie.size - 1) ver).isSome = true := by
    rw [ld_row hr]
    have hlt : n * ie.size - 1 < c.length := by omega
    rw [List.getElem?_eq_getElem hlt]
    have := hk _ (List.getElem_mem hlt)
    generalize c[n * ie.size - 1] = v at this
    cases v <;> first | rfl | exact absurd rfl this
  have h3 : endOk H r (n * ie.size) = true := by simp [endOk, hr, hc]
  simp [sliceR, hu, hie, hn, hz, h2, h3, aBounds, partOf]
theorem takeKnown_ints (n : Nat) : takeKnown n (List.replicate n (AV.int .i64 0)) = some (List.replicate n (AV.int .i64 0)) := by
  induction n with
  | zero => rfl
  | succ n ih => simp only [List.replicate_succ, takeKnown, ih]
@[simp] theorem x_copy {P : Program} {H : AH} {ρ : Operand → AV} (x y : Operand) (t u : TypeId) : execN P ρ H (.call ⟨.builtin .copy, #[x, y], #[t, u]⟩) = appV (aCopy P H t (ρ x) (ρ y)) := by
  have : execN P ρ H (.call ⟨.builtin .copy, #[x, y], #[t, u]⟩) = (aCopy P H t (ρ x) (ρ y)).map fun p => (some p.1, p.2) := rfl
  rw [this]
  cases aCopy P H t (ρ x) (ρ y) <;> rfl
theorem pad_len {o : List Int} (h : o.length ≤ 6) : (pad o).length = 6 := by simp [pad]; omega
theorem copy_pad {H1 : AH} {w : Nat} {v : AV} {l : List Int} (hl0 : 1 ≤ l.length) (hl : l.length ≤ 6) (hw : H1[w]? = some (.row (List.replicate 6 (.int .i64 0)) 0 0 false)) (hv : Ls H1 v l) :
    aCopy Try.prog H1 22 (.slice (some w) 0 6 0 1 false) v = some (.int .i64 l.length, H1.set w (.row ((pad l).map (.int .i64)) 0 0 false)) := by
  obtain ⟨e, I, h1, h2, h3, h4, -⟩ := elT_some el22
  obtain ⟨i, z, g1, g2, g3, -⟩ := (tiOf_some h2).2
  obtain ⟨r, off, ver, sz, full, rfl, hld⟩ := hv
  have hlw : w < H1.length := (List.getElem?_eq_some_iff.1 hw).1
  obtain ⟨r', rfl, rfl, -⟩ := hld 0 (by omega)
  have hld2 : ldn H1 r' ver l.length off = some (l.map (.int .i64)) := ldn_ints fun i hi => by
    obtain ⟨r2, e1, -, e3⟩ := hld i hi
    obtain rfl := Option.some.inj e1
    exact e3
  have hone := all_ints l
  obtain ⟨y, l', rfl⟩ : ∃ y l', l = y :: l' := by cases l with
    | nil => simp at hl0
    | cons y l' => exact ⟨y, l', rfl⟩
  have hk : (takeKnown (l'.length + 1) (List.replicate 6 (AV.int .i64 0))).isSome = true := by
    have : l'.length + 1 = 1 ∨ l'.length + 1 = 2 ∨ l'.length + 1 = 3 ∨ l'.length + 1 = 4 ∨ l'.length + 1 = 5 ∨ l'.length + 1 = 6 := by simp at hl; omega
    rcases this with h | h | h | h | h | h <;> rw [h] <;> rfl
  have hst : stn H1 w 0 ((y :: l').map (.int .i64)) 0 = some (H1.set w (.row ((pad (y :: l')).map (.int .i64)) 0 0 false)) := by
    simp only [List.map_cons] at hone ⊢
    simp only [stn, hw, List.drop_zero, List.length_cons, List.length_map]
    rw [if_pos ⟨trivial, trivial, hone, hk⟩]
    simp [pad]
    rw [show [AV.int .i64 0, AV.int .i64 0, AV.int .i64 0, AV.int .i64 0, AV.int .i64 0] = List.replicate 5 (AV.int .i64 0) from rfl, List.drop_replicate]
  have e1 : i.size = 1 := by rw [g3, h3]
  have hmin : min (y :: l').length 6 = (y :: l').length := by omega
  simp only [aCopy, h1, g1, isNilSl, slParts, Bool.false_and, Bool.false_eq_true, if_false, hmin, e1, Nat.mul_one]
  rw [if_neg (by simp), if_pos ⟨trivial, trivial⟩, hld2, Option.bind_some, if_pos hone, hst]
  rfl
/-- What Count says of an order, by the table. -/
def cvS (n : Nat) (o : List Int) : Int := match (tabN n (lcmS n)).lookup (pad o) with | some k => (k : Int) | none => 0
def evS (n : Nat) (o : List Int) : Int := match (tabN n (lcmS n)).lookup (pad o) with | some _ => 0 | none => 12
theorem leaf_check {n : Nat} {o : List Int} (h : leafB n o = true) : checkP o = 0 ∧ (remL o).length = n := by
  simp only [leafB, Bool.and_eq_true, decide_eq_true_eq] at h
  exact h.1
theorem countT_ac (n : Nat) (v : AV) (o : List Int) (H : AH) (Q : AV → AH → Prop) (hleaf : leafB n o = true) (hlen : o.length ≤ 1000000) (hv : Ls H v o) (h : ∀ H', Ext H H' → Q (.tuple [.int .i64 (cvS n o), .int .i64 (evS n o)]) H') : AC Try.prog 29 [v] H Q := by
  have hc := leaf_check hleaf
  refine Count_ac v o H Q hv hlen (fun H1 E1 => ⟨fun e => absurd hc.1 e, fun _ => ?_⟩)
  simp only [leafB, Bool.and_eq_true, decide_eq_true_eq] at hleaf
  have h := h H1 E1
  unfold cvS evS at h
  have hl := hleaf.2
  split at hl
  · rename_i k hk
    rw [hk] at h
    simp only [Bool.and_eq_true, decide_eq_true_eq, List.all_eq_true, List.mem_range, Bool.or_eq_true, beq_iff_eq, Bool.not_eq_true'] at hl
    obtain ⟨⟨⟨k1, k2⟩, k3⟩, k4⟩ := hl
    have hf := fitsB_iff.1 k3
    refine ⟨fun k' hk' => ?_, fun hno => absurd hf (hno k k1)⟩
    have : k' = k := by
      have a1 := hk'.2.2 k k1 hf
      rcases Nat.lt_or_ge k' k with e | e
      · rcases k4 k' e with e2 | e2
        · have := hk'.1; omega
        · have := fitsB_iff.2 hk'.2.1; rw [e2] at this; cases this
      · omega
    rw [this]; exact h
  · rename_i hk
    rw [hk] at h
    exact ⟨fun k' hk' => absurd hk'.2.1 (clash_no hc.2 hl k'), fun _ => h⟩
theorem mt40 : mapT Try.prog 40 = some (.array 6 3, .int .i64 0) := by kernel_rfl
theorem at40 : arrT Try.prog 40 = some (6, .i64) := by kernel_rfl
theorem wf_small {a : Int} (h0 : 0 ≤ a) (h1 : a < 1000) : (Lit.int .i64 a).wf = true := by
  have h2 : IntKind.i64.min = -9223372036854775808 := rfl
  have h3 : IntKind.i64.max = 9223372036854775807 := rfl
  simp only [Lit.wf, h2, h3, Bool.and_eq_true, decide_eq_true_eq]
  omega
theorem okKey_pad {o : List Int} (hl : o.length ≤ 6) (h : ∀ x ∈ o, 0 ≤ x ∧ x < 1000) : okKey 6 (pad o) := by
  refine ⟨pad_len hl, fun a ha => ?_⟩
  rcases List.mem_append.1 ha with ha | ha
  · exact wf_small (h a ha).1 (h a ha).2
  · rw [List.eq_of_mem_replicate ha]; exact wf_small (by omega) (by omega)
theorem tabA_ok {n m : Nat} (hn : n ≤ 6) : ∀ p ∈ (tabN n m).map (fun p => (p.1, AV.int .i64 (p.2 : Nat))), okKey 6 p.1 := by
  intro p hp
  obtain ⟨q, hq, rfl⟩ := List.mem_map.1 hp
  obtain ⟨b, -, rfl⟩ := List.mem_map.1 hq
  refine okKey_pad (by rw [orderS_len]; exact hn) fun x hx => ?_
  have := mem_allS.1 ((orderS_perm n (b + 1)).mem_iff.1 hx)
  omega
theorem lookup_mapA (k : List Int) : ∀ l : List (List Int × Nat), (l.map fun p => (p.1, AV.int .i64 (p.2 : Nat))).lookup k = (l.lookup k).map fun v => AV.int .i64 (v : Nat)
  | [] => rfl
  | p :: l => by
    simp only [List.map_cons, List.lookup]
    have := lookup_mapA k l
    cases h : k == p.1 <;> simp [this]
theorem look_tab {n rm : Nat} {H : AH} {o : List Int} (hn : n ≤ 6) (hm : MapA H rm (tabA n)) (hk : okKey 6 (pad o)) : aLook Try.prog H 40 (.map rm) (.agg ((pad o).map (.int .i64))) false = some (.int .i64 (cvS n o)) := by
  rw [look_A mt40 at40 hm hk (tabA_ok hn)]
  unfold tabA cvS
  rw [lookup_mapA]
  cases (tabN n (lcmS n)).lookup (pad o) <;> rfl
theorem ldn_row6 {H : AH} {r : Nat} {c : List Int} (hr : H[r]? = some (.row (c.map (.int .i64)) 0 0 false)) (hc : c.length = 6) : ldn H r 0 6 0 = some (c.map (.int .i64)) := by
  rw [← hc]
  refine ldn_ints (fun i hi => ?_)
  rw [ld_row hr]
  simp [hi]
theorem set_self {H : AH} {r : Nat} {o : AObj} (h : H[r]? = some o) : H.set r o = H := by
  apply List.ext_getElem?
  intro j
  rw [List.getElem?_set]
  split
  · rename_i e; subst e
    rw [h, if_pos (List.getElem?_eq_some_iff.1 h).1]
  · rfl
theorem st_true {H : AH} {pw : Nat} (h : H[pw]? = some (.row [.bool true] 0 0 false)) : storeV Try.prog 4 H (.ptr pw 0 0) (.bool true) = some (none, H) := by
  have := store_row (P := Try.prog) (u := 4) (p := 0) sc4 (x := .bool true) (y := .bool true) rfl h (by simp)
  rw [this]
  simp only [List.set_cons_zero, Nat.min_self]
  rw [set_self h]
set_option maxRecDepth 100000 in
set_option maxHeartbeats 2000000 in
theorem put_ac (n pn pf pw pm rm : Nat) (h1 : 1 ≤ n) (h2 : n ≤ 6) : ∀ (d : Nat) (o : List Int) (v : AV) (H : AH) (Q : AV → AH → Prop), o.length + d = n → allB n d o = true → Ls H v o → PC n pn pf pw pm rm H → (∀ H', Ext H H' → Q (.tuple []) H') → AC Try.prog 39 [v, .ptr pn 0 0, .ptr pf 0 0, .ptr pw 0 0, .ptr pm 0 0] H Q := by
  intro d
  induction d with
  | succ d ih =>
    intro o v H Q hod hall hv hP h
    have ihq : ∀ (o : List Int) (v : AV) (H : AH), o.length + d = n → allB n d o = true → Ls H v o → PC n pn pf pw pm rm H → ∀ Q : AV → AH → Prop, Q (.tuple []) H → AC Try.prog 39 [v, .ptr pn 0 0, .ptr pf 0 0, .ptr pw 0 0, .ptr pm 0 0] H Q :=
      fun o v H a1 a2 a3 a4 Q hq => AC.quiet (v := .tuple []) (by rfl) (fun Q h => ih o v H Q a1 a2 a3 a4 h) Q hq
    have hvl := ls_len hv
    have l0 : ld H pn 0 0 = some (.int .i64 n) := by rw [ld_row hP.cn]; rfl
    have hlt0 : (o.length : Int) < n := by omega
    refine L_body 160 Try.func39 rfl rfl ?_
    refine L_reg [0, 1, 2, 3, 4, 23] (fun K hK => ?_)
    simp [hvl, l0]
    apply hK; clear hK K
    refine L_true (by simp; omega) ?_
    refine L_reg [0, 2, 24, 25] (fun K hK => ?_)
    simp [l0]
    apply hK; clear hK K
    refine L_block (L_loopV [25] (fun q vs H' => ∃ i : Nat, q = n - i ∧ i ≤ n ∧ vs = [.int .i64 i] ∧ Ext H H') _ [.int .i64 0] rfl ⟨0, rfl, by omega, rfl, .refl _⟩ ?_)
    rintro q _ H1 ⟨i, rfl, hi, rfl, hE⟩
    have hP1 := hP.ext hE
    have hv1 := hv.ext hE
    refine L_reg [0, 2, 24, 25, 26] (fun K hK => ?_)
    simp
    apply hK; clear hK K
    refine L_dec (i < n) (by simp) (fun hlt => ?_) (fun hge => L_exit ?_)
    · refine L_block ?_
      refine L_reg [0, 2, 6, 24, 25] (fun K hK => ?_)
      simp
      apply hK; clear hK K
      refine L_reg [0, 2, 6, 24, 25, 31] (fun K hK => ?_)
      simp [okFn_low]
      refine Contains_ac v i o _ _ hv1 (by omega) ?_
      simp
      apply hK; clear hK K
      by_cases hm : (i : Int) ∈ o
      · refine L_false (by simp [hm]) ?_
        refine L_reg [0, 2, 24, 25] (fun K hK => ?_)
        simp [wrap_i64 (a := (i : Int) + 1) (by omega)]
        apply hK; clear hK K
        exact ⟨n - (i + 1), [.int .i64 (i + 1 : Nat)], by omega, by simp, i + 1, rfl, by omega, rfl, hE⟩
      · refine L_true (by simp [hm]) ?_
        have hnext : allB n d (o ++ [(i : Int)]) = true := by
          have := List.all_eq_true.1 hall i (List.mem_range.2 hlt)
          simpa [hm] using this
        have lf : ld H1 pf 0 0 = some (.func (.func 39) [] [.ptr pn 0 0, .ptr pf 0 0, .ptr pw 0 0, .ptr pm 0 0]) := by rw [ld_row hP1.cf]; rfl
        refine L_regU3 mixed 1 5 3 5 [0, 4, 5, 1, 2, 3, 6, 7] [0, 1, 2, 4, 5, 3, 6, 7] [true, false, false, false, false, false, false] [true, false, false, false, false, false, false] [true, false, false, false, false, false, false] [0, 2, 24, 25] (by kernel_rfl) rfl (by kernel_rfl) rfl rfl rfl (by kernel_rfl) (by kernel_rfl) (by kernel_rfl) (fun K hK => ?_)
        have hc : ∀ H8, Ext H1 H8 → K [(0, v), (2, .ptr pf 0 0), (24, .int .i64 n), (25, .int .i64 i)] H8 := by
          intro H8 E8
          apply hK; clear hK K
          have hE8 := hE.trans E8
          refine L_reg [0, 2, 24, 25] (fun K hK => ?_)
          simp [wrap_i64 (a := (i : Int) + 1) (by omega)]
          apply hK; clear hK K
          exact ⟨n - (i + 1), [.int .i64 (i + 1 : Nat)], by omega, by simp, i + 1, rfl, by omega, rfl, hE8⟩
        clear hK
        refine ⟨?_, ?_, ?_⟩
        · have hB0 : Ext H1 (H1 ++ [AObj.row [AV.int .i64 (i : Int)] 0 1 false]) := .push _ _
          have hB1 : Ext (H1 ++ [AObj.row [AV.int .i64 (i : Int)] 0 1 false]) (H1 ++ [AObj.row [AV.int .i64 (i : Int)] 0 1 false, AObj.row [] 0 0 false]) := by
            have := Ext.push (H1 ++ [AObj.row [AV.int .i64 (i : Int)] 0 1 false]) [AObj.row [] 0 0 false]
            rwa [List.append_assoc] at this
          have hO : OwnF (H1 ++ [AObj.row [AV.int .i64 (i : Int)] 0 1 false]).length (H1 ++ [AObj.row [AV.int .i64 (i : Int)] 0 1 false, AObj.row [] 0 0 false]) (.slice (some (H1.length + 1)) 0 0 0 1 false) (([] : List Int).map (.int .i64)) := .inr ⟨H1.length + 1, 0, 0, by simp, rfl, by simp⟩
          have hs : Ls (H1 ++ [AObj.row [AV.int .i64 (i : Int)] 0 1 false]) (.slice (some H1.length) 0 1 0 1 false) [(i : Int)] := Ls.row (ro := false) (l := [(i : Int)]) (s := 1) (by simp) false
          obtain ⟨u1, H2, p1, p2, p3⟩ := ownF_appendL hB1 el22 el22 hO ((hv1.ext hB0).ext hB1) (by simp; omega)
          obtain ⟨u2, H3, q1, q2, q3⟩ := ownF_appendL p3 el22 el22 p2 (hs.ext p3) (by simp; omega)
          have E3 := hB0.trans q3
          have hn1 := hB0.trans hB1
          simp [addE, permL, lf, p1, q1, okFn_low, hB0, hn1]
          refine ⟨fun _ => hB0.trans p3, fun _ => E3, exC_mk (fun Q hQ => ihq (o ++ [(i : Int)]) u2 H3 (by simp; omega) hnext (by simpa using q2.own.ls) (hP1.ext E3) Q hQ) ?_⟩
          simp
          exact hc H3 E3
        · have hB0 : Ext H1 (H1 ++ [AObj.row [] 0 0 false]) := .push _ _
          obtain ⟨u1, H2, p1, p2, p3⟩ := ownF_appendL hB0 el22 el22 (ownF_new H1) (hv1.ext hB0) (by simp; omega)
          have hB2 : Ext H2 (H2 ++ [AObj.row [AV.int .i64 (i : Int)] 0 1 false]) := .push _ _
          have hs : Ls (H2 ++ [AObj.row [AV.int .i64 (i : Int)] 0 1 false]) (.slice (some H2.length) 0 1 0 1 false) [(i : Int)] := Ls.row (ro := false) (l := [(i : Int)]) (s := 1) (by simp) false
          obtain ⟨u2, H3, q1, q2, q3⟩ := ownF_appendL (p3.trans hB2) el22 el22 (ownF_ext p2 hB2) hs (by simp; omega)
          have hn1 := p3.trans hB2
          simp [addE, lf, p1, q1, okFn_low, hB0, hn1]
          refine ⟨fun _ => p3, fun _ => q3, exC_mk (fun Q hQ => ihq (o ++ [(i : Int)]) u2 H3 (by simp; omega) hnext (by simpa using q2.own.ls) (hP1.ext q3) Q hQ) ?_⟩
          simp
          exact hc H3 q3
        · have hB0 : Ext H1 (H1 ++ [AObj.row [] 0 0 false]) := .push _ _
          have hB1 : Ext (H1 ++ [AObj.row [] 0 0 false]) (H1 ++ [AObj.row [] 0 0 false, AObj.row [AV.int .i64 (i : Int)] 0 1 false]) := by
            have := Ext.push (H1 ++ [AObj.row [] 0 0 false]) [AObj.row [AV.int .i64 (i : Int)] 0 1 false]
            rwa [List.append_assoc] at this
          have hn1 := hB0.trans hB1
          obtain ⟨u1, H2, p1, p2, p3, p4⟩ := ownF_appendL2 hn1 el22 el22 (ownF_ext (ownF_new H1) hB1) (hv1.ext hn1) (by simp; omega)
          have hs : Ls H2 (.slice (some (H1.length + 1)) 0 1 0 1 false) [(i : Int)] := by
            refine Ls.row (ro := false) (l := [(i : Int)]) (s := 1) ?_ false
            rw [p4 (H1.length + 1) (by simp) (by simp [rowOf])]
            simp
          obtain ⟨u2, H3, q1, q2, q3⟩ := ownF_appendL p3 el22 el22 p2 hs (by simp; omega)
          simp [addE, permL, lf, p1, q1, okFn_low, hB0, hn1]
          refine ⟨fun _ => p3, fun _ => q3, exC_mk (fun Q hQ => ihq (o ++ [(i : Int)]) u2 H3 (by simp; omega) hnext (by simpa using q2.own.ls) (hP1.ext q3) Q hQ) ?_⟩
          simp
          exact hc H3 q3
    · exact L_ret ⟨.inr rfl, _, rfl, h H1 hE⟩
  | zero =>
    intro o v H Q hod hall hv hP h
    have hleaf : leafB n o = true := hall
    have hcz := leaf_check hleaf
    have hon : o.length = n := by omega
    have hvl := ls_len hv
    rw [hon] at hvl
    have l0 : ld H pn 0 0 = some (.int .i64 n) := by rw [ld_row hP.cn]; rfl
    refine L_body 160 Try.func39 rfl rfl ?_
    refine L_reg [0, 1, 2, 3, 4, 23] (fun K hK => ?_)
    simp [hvl, l0]
    apply hK; clear hK K
    refine L_false (by simp) ?_
    obtain ⟨I, hI, hz⟩ := zeroT_some zt43
    refine L_reg [0, 1, 3, 4, 7] (fun K hK => ?_)
    simp [hI, hz]
    apply hK; clear hK K
    have hE0 : Ext H (H ++ [AObj.row [AV.int IntKind.i64 0, AV.int IntKind.i64 0, AV.int IntKind.i64 0, AV.int IntKind.i64 0, AV.int IntKind.i64 0, AV.int IntKind.i64 0] 0 0 false]) := .push _ _
    have hw0 : (H ++ [AObj.row [AV.int IntKind.i64 0, AV.int IntKind.i64 0, AV.int IntKind.i64 0, AV.int IntKind.i64 0, AV.int IntKind.i64 0, AV.int IntKind.i64 0] 0 0 false])[H.length]? = some (.row (List.replicate 6 (.int .i64 0)) 0 0 false) := by simp [List.replicate]
    generalize H ++ [AObj.row [AV.int IntKind.i64 0, AV.int IntKind.i64 0, AV.int IntKind.i64 0, AV.int IntKind.i64 0, AV.int IntKind.i64 0, AV.int IntKind.i64 0] 0 0 false] = H1 at hE0 hw0 ⊢
    have hsl := slice_all ar43 (by decide) (by decide) hw0 (by simp) (by simp)
    have hcp := copy_pad (by omega) (by omega) hw0 (hv.ext hE0)
    refine L_reg [0, 1, 3, 4, 7] (fun K hK => ?_)
    simp [noSlice ar43, hsl, hcp]
    apply hK; clear hK K
    have hE1 : Ext H (H1.set H.length (.row ((pad o).map (.int .i64)) 0 0 false)) := hE0.set _ (Nat.le_refl _)
    have hw1 := get_set (o' := .row ((pad o).map (.int .i64)) 0 0 false) hw0
    generalize H1.set H.length (.row ((pad o).map (.int .i64)) 0 0 false) = H2 at hE1 hw1 ⊢
    have hv2 := hv.ext hE1
    refine L_reg [0, 1, 3, 4, 7, 8, 9] (fun K hK => ?_)
    simp [okFn_low]
    refine countT_ac n v o _ _ hleaf (by omega) hv2 (fun H3 E3 => ?_)
    simp
    apply hK; clear hK K
    refine L_reg [1, 3, 4, 7, 8, 9, 10, 11] (fun K hK => ?_)
    simp [okFn_low]
    refine Remainders_ac v o _ _ (hv2.ext E3) (by omega) (fun w H4 hO E4 => ?_)
    simp
    apply hK; clear hK K
    rw [hcz.1]
    unfold remP at hO
    rw [if_pos hcz.1] at hO
    have hE4 := (hE1.trans E3).trans E4
    have hP4 := hP.ext hE4
    have hw4 := E4.row (E3.row hw1)
    have hwl := hO.own.ls
    have hll := ls_len hwl
    rw [hcz.2] at hll
    have l4 : ld H4 pn 0 0 = some (.int .i64 n) := by rw [ld_row hP4.cn]; rfl
    refine L_reg [1, 3, 4, 7, 8, 9, 10, 61] (fun K hK => ?_)
    simp [pickV, hll, l4]
    apply hK; clear hK K
    refine L_false (by simp) ?_
    have hbnd : ∀ x ∈ o, 0 ≤ x ∧ x < 1000 := fun x hx => by
      have := (checkP_zero hcz.1).2.2.1 x hx
      omega
    have lpm : ld H4 pm 0 0 = some (.map rm) := by rw [ld_row hP4.cm]; rfl
    have lpw : ld H4 pw 0 0 = some (.bool true) := by rw [ld_row hP4.cw]; rfl
    have lkey := ldn_row6 hw4 (pad_len (o := o) (by omega))
    have hlk := look_tab h2 hP4.mp (okKey_pad (by omega) hbnd)
    have hst := st_true hP4.cw
    refine L_reg [1, 3, 4, 7, 8, 9, 10, 65] (fun K hK => ?_)
    simp [lpm, lkey, hlk]
    apply hK; clear hK K
    simp only [leafB, Bool.and_eq_true, decide_eq_true_eq] at hleaf
    have hl := hleaf.2
    unfold cvS at hlk ⊢
    unfold evS
    split at hl
    · rename_i k hk
      rw [hk] at hlk ⊢
      simp only [Bool.and_eq_true, decide_eq_true_eq, List.all_eq_true, List.mem_range, Bool.or_eq_true, beq_iff_eq, Bool.not_eq_true'] at hl
      obtain ⟨⟨⟨k1, k2⟩, k3⟩, k4⟩ := hl
      have hf := fitsB_iff.1 k3
      refine L_true (by simp; omega) ?_
      refine L_reg [1, 3, 4, 7, 10] (fun K hK => ?_)
      simp [pickV, lpw, lpm, lkey, hlk, hst]
      apply hK; clear hK K
      refine L_reg [1, 3, 4, 7, 78, 79, 80] (fun K hK => ?_)
      simp [hll]
      apply hK; clear hK K
      refine L_block (L_loopV [80] (fun q vs H' => ∃ i : Nat, q = n - i ∧ i ≤ n ∧ vs = [.int .i64 i] ∧ H4 = H') _ [.int .i64 0] rfl ⟨0, rfl, by omega, rfl, rfl⟩ ?_)
      rintro q _ _ ⟨i, rfl, hi, rfl, rfl⟩
      refine L_reg [1, 3, 4, 7, 78, 79, 80, 81] (fun K hK => ?_)
      simp
      apply hK; clear hK K
      refine L_dec (i < n) (by simp) (fun hlt => ?_) (fun hge => L_exit ?_)
      · refine L_block ?_
        obtain ⟨rz, pz, vz, hix, hldz⟩ := ls_ix hwl (i := i) (by omega)
        have hfi := hf i (by omega)
        rw [hcz.2] at hfi
        rw [← hfi] at hldz
        have e1 : (n : Int) - i = ((n - i : Nat) : Int) := by omega
        have em := tmod_nat k (n - i)
        generalize k % (n - i) = y at em hldz
        generalize hni : n - i = m at em e1
        have hm0 : m ≠ 0 := by omega
        refine L_reg [1, 3, 4, 7, 12, 13, 78, 79, 80] (fun K hK => ?_)
        simp [hix, hldz]
        apply hK; clear hK K
        refine L_regT mixed [1, 3, 4, 7, 78, 79, 80] (by kernel_rfl) (fun K hK => ?_)
        simp [pickV, lpw, lpm, lkey, hlk, l4, e1, wrap_i64 (a := (m : Int)) (by omega), hm0, em, hst]
        apply hK; clear hK K
        refine L_reg [1, 3, 4, 7, 78, 79, 80] (fun K hK => ?_)
        simp [wrap_i64 (a := (i : Int) + 1) (by omega)]
        apply hK; clear hK K
        exact ⟨n - (i + 1), [.int .i64 (i + 1 : Nat)], by omega, by simp, i + 1, rfl, by omega, rfl, rfl⟩
      · exact L_ret ⟨.inr rfl, _, rfl, h _ hE4⟩
    · rename_i hk
      rw [hk] at hlk ⊢
      refine L_false (by simp) ?_
      refine L_reg [1, 3, 10] (fun K hK => ?_)
      simp [pickV, lpw, hst]
      apply hK; clear hK K
      have hcl := hl
      simp only [clashB, List.any_eq_true, List.mem_range, Bool.and_eq_true, decide_eq_true_eq] at hcl
      obtain ⟨i0, hi0, j0, hj0, d0, hd0, ⟨⟨q2, q3⟩, q4⟩, q5⟩ := hcl
      refine L_reg [1, 3, 10, 14] (fun K hK => ?_)
      simp
      apply hK; clear hK K
      refine L_reg [1, 3, 10, 14, 107, 108, 109] (fun K hK => ?_)
      simp [hll]
      apply hK; clear hK K
      refine L_block (L_loopV [14, 109] (fun q vs H' => ∃ (i : Nat) (b : Bool), q = n - i ∧ i ≤ n ∧ (i0 < i → b = true) ∧ vs = [.bool b, .int .i64 i] ∧ H4 = H') _ [.bool false, .int .i64 0] rfl ⟨0, false, rfl, by omega, fun e => by omega, rfl, rfl⟩ ?_)
      rintro q _ _ ⟨i, b, rfl, hi, hb, rfl, rfl⟩
      refine L_reg [1, 3, 10, 14, 107, 108, 109, 110] (fun K hK => ?_)
      simp
      apply hK; clear hK K
      refine L_dec (i < n) (by simp) (fun hlt => ?_) (fun hge => L_exit ?_)
      · refine L_block ?_
        obtain ⟨rz, pz, vz, hix, hldz⟩ := ls_ix hwl (i := i) (by omega)
        obtain ⟨u, hu1, hu2⟩ := ls_hi hwl (by omega) (m := i) (by omega)
        have hul := ls_len hu2
        rw [List.length_take, Nat.min_eq_left (by omega)] at hul
        refine L_reg [1, 3, 10, 14, 15, 16, 107, 108, 109] (fun K hK => ?_)
        simp [hix, hldz]
        apply hK; clear hK K
        refine L_reg [1, 3, 10, 14, 15, 16, 107, 108, 109, 116, 117, 118] (fun K hK => ?_)
        simp [hu1, hul]
        apply hK; clear hK K
        refine L_block (L_loopV [14, 118] (fun q vs H' => ∃ (j : Nat) (b : Bool), q = i - j ∧ j ≤ i ∧ ((i0 < i ∨ (i0 = i ∧ j0 < j)) → b = true) ∧ vs = [.bool b, .int .i64 j] ∧ H4 = H') _ [.bool b, .int .i64 0] rfl ⟨0, b, rfl, by omega, fun e => hb (by omega), rfl, rfl⟩ ?_)
        clear hb
        rintro q _ _ ⟨j, b, rfl, hj, hb, rfl, rfl⟩
        refine L_reg [1, 3, 10, 14, 15, 16, 107, 108, 109, 116, 117, 118, 119] (fun K hK => ?_)
        simp
        apply hK; clear hK K
        refine L_dec (j < i) (by simp) (fun hlt2 => ?_) (fun hge2 => L_exit ?_)
        · refine L_block ?_
          obtain ⟨ry, py, vy, hiy, hldy⟩ := ls_ix hu2 (i := j) (by rw [List.length_take]; omega)
          rw [g_take hlt2] at hldy
          refine L_reg [1, 3, 10, 14, 15, 16, 17, 18, 107, 108, 109, 116, 117, 118] (fun K hK => ?_)
          simp [hiy, hldy]
          apply hK; clear hK K
          refine L_reg [1, 3, 10, 14, 15, 16, 17, 18, 19, 107, 108, 109, 116, 117, 118] (fun K hK => ?_)
          simp
          apply hK; clear hK K
          refine L_block (L_loopV [14, 19] (fun q vs H' => ∃ (d : Nat) (b : Bool), q = n + 1 - d ∧ 2 ≤ d ∧ ((i0 < i ∨ (i0 = i ∧ (j0 < j ∨ (j0 = j ∧ d0 < d)))) → b = true) ∧ vs = [.bool b, .int .i64 d] ∧ H4 = H') _ [.bool b, .int .i64 2] rfl ⟨2, b, rfl, by omega, fun e => hb (by omega), rfl, rfl⟩ ?_)
          clear hb
          rintro q _ _ ⟨d, b, rfl, hd, hb, rfl, rfl⟩
          refine L_reg [1, 3, 10, 14, 15, 16, 17, 18, 19, 107, 108, 109, 116, 117, 118, 125] (fun K hK => ?_)
          simp [l4]
          apply hK; clear hK K
          refine L_dec (d ≤ n) (by simp) (fun hle => ?_) (fun hgt => L_exit ?_)
          · refine L_block ?_
            have e1 : (n : Int) - i = ((n - i : Nat) : Int) := by omega
            have e2 : (n : Int) - j = ((n - j : Nat) : Int) := by omega
            have em1 := tmod_nat (n - i) d
            have em2 := tmod_nat (n - j) d
            have hgi := remS_pos o (allS o.length) i (by have := hcz.2; unfold remL at this; omega)
            have hgj := remS_pos o (allS o.length) j (by have := hcz.2; unfold remL at this; omega)
            have em3 : (g (remL o) i).tmod (d : Int) = g (remL o) i % (d : Int) := Int.tmod_eq_emod_of_nonneg hgi
            have em4 : (g (remL o) j).tmod (d : Int) = g (remL o) j % (d : Int) := Int.tmod_eq_emod_of_nonneg hgj
            have hd0' : d ≠ 0 := by omega
            have key : i0 = i → j0 = j → d0 = d → (n - i) % d = 0 ∧ (n - j) % d = 0 ∧ g (remL o) i % (d : Int) ≠ g (remL o) j % (d : Int) := by rintro rfl rfl rfl; exact ⟨q3, q4, q5⟩
            generalize hx1 : (n - i) % d = x1 at em1 key
            generalize hx2 : (n - j) % d = x2 at em2 key
            generalize hx3 : g (remL o) i % (d : Int) = x3 at em3 key
            generalize hx4 : g (remL o) j % (d : Int) = x4 at em4 key
            generalize hm1 : n - i = m1 at e1 em1
            generalize hm2 : n - j = m2 at e2 em2
            cases b with
            | true =>
              refine L_regT mixed [1, 3, 10, 14, 15, 16, 17, 18, 19, 107, 108, 109, 116, 117, 118] (by kernel_rfl) (fun K hK => ?_)
              simp (maxSteps := 3000000) [pickV]
              apply hK; clear hK K
              refine L_reg [1, 3, 10, 14, 15, 16, 17, 18, 19, 107, 108, 109, 116, 117, 118] (fun K hK => ?_)
              simp [wrap_i64 (a := (d : Int) + 1) (by omega)]
              apply hK; clear hK K
              exact ⟨n + 1 - (d + 1), [.bool true, .int .i64 (d + 1 : Nat)], by omega, by simp, d + 1, true, rfl, by omega, fun _ => rfl, rfl, rfl⟩
            | false =>
              by_cases c1 : x1 = 0
              · by_cases c2 : x2 = 0
                · by_cases c3 : x3 = x4
                  · refine L_regT mixed [1, 3, 10, 14, 15, 16, 17, 18, 19, 107, 108, 109, 116, 117, 118] (by kernel_rfl) (fun K hK => ?_)
                    simp [pickV, l4, e1, e2, wrap_i64 (a := (m1 : Int)) (by omega), wrap_i64 (a := (m2 : Int)) (by omega), hd0', em1, em2, em3, em4, c1, c2, c3]
                    apply hK; clear hK K
                    refine L_reg [1, 3, 10, 14, 15, 16, 17, 18, 19, 107, 108, 109, 116, 117, 118] (fun K hK => ?_)
                    simp [wrap_i64 (a := (d : Int) + 1) (by omega)]
                    apply hK; clear hK K
                    exact ⟨n + 1 - (d + 1), [.bool false, .int .i64 (d + 1 : Nat)], by omega, by simp, d + 1, false, rfl, by omega, fun e => by
                      by_cases e2 : i0 = i ∧ j0 = j ∧ d0 = d
                      · exact absurd c3 (key e2.1 e2.2.1 e2.2.2).2.2
                      · exact hb (by omega), rfl, rfl⟩
                  · refine L_regT mixed [1, 3, 10, 14, 15, 16, 17, 18, 19, 107, 108, 109, 116, 117, 118] (by kernel_rfl) (fun K hK => ?_)
                    simp [pickV, l4, e1, e2, wrap_i64 (a := (m1 : Int)) (by omega), wrap_i64 (a := (m2 : Int)) (by omega), hd0', em1, em2, em3, em4, c1, c2]
                    apply hK; clear hK K
                    refine L_reg [1, 3, 10, 14, 15, 16, 17, 18, 19, 107, 108, 109, 116, 117, 118] (fun K hK => ?_)
                    simp [wrap_i64 (a := (d : Int) + 1) (by omega)]
                    apply hK; clear hK K
                    exact ⟨n + 1 - (d + 1), [.bool true, .int .i64 (d + 1 : Nat)], by omega, by simp [c3], d + 1, true, rfl, by omega, fun _ => rfl, rfl, rfl⟩
                · have c2b : ((x2 : Int) == 0) = false := by simp; omega
                  refine L_regT mixed [1, 3, 10, 14, 15, 16, 17, 18, 19, 107, 108, 109, 116, 117, 118] (by kernel_rfl) (fun K hK => ?_)
                  simp [pickV, l4, e1, e2, wrap_i64 (a := (m1 : Int)) (by omega), wrap_i64 (a := (m2 : Int)) (by omega), hd0', em1, em2, c1, c2b]
                  apply hK; clear hK K
                  refine L_reg [1, 3, 10, 14, 15, 16, 17, 18, 19, 107, 108, 109, 116, 117, 118] (fun K hK => ?_)
                  simp [wrap_i64 (a := (d : Int) + 1) (by omega)]
                  apply hK; clear hK K
                  exact ⟨n + 1 - (d + 1), [.bool false, .int .i64 (d + 1 : Nat)], by omega, by simp, d + 1, false, rfl, by omega, fun e => by
                    by_cases e2 : i0 = i ∧ j0 = j ∧ d0 = d
                    · exact absurd (key e2.1 e2.2.1 e2.2.2).2.1 c2
                    · exact hb (by omega), rfl, rfl⟩
              · have c1b : ((x1 : Int) == 0) = false := by simp; omega
                refine L_regT mixed [1, 3, 10, 14, 15, 16, 17, 18, 19, 107, 108, 109, 116, 117, 118] (by kernel_rfl) (fun K hK => ?_)
                simp [pickV, l4, e1, wrap_i64 (a := (m1 : Int)) (by omega), hd0', em1, c1b]
                apply hK; clear hK K
                refine L_reg [1, 3, 10, 14, 15, 16, 17, 18, 19, 107, 108, 109, 116, 117, 118] (fun K hK => ?_)
                simp [wrap_i64 (a := (d : Int) + 1) (by omega)]
                apply hK; clear hK K
                exact ⟨n + 1 - (d + 1), [.bool false, .int .i64 (d + 1 : Nat)], by omega, by simp, d + 1, false, rfl, by omega, fun e => by
                  by_cases e2 : i0 = i ∧ j0 = j ∧ d0 = d
                  · exact absurd (key e2.1 e2.2.1 e2.2.2).1 c1
                  · exact hb (by omega), rfl, rfl⟩
          · refine L_reg [1, 3, 10, 14, 15, 16, 107, 108, 109, 116, 117, 118] (fun K hK => ?_)
            simp [wrap_i64 (a := (j : Int) + 1) (by omega)]
            apply hK; clear hK K
            exact ⟨i - (j + 1), [.bool b, .int .i64 (j + 1 : Nat)], by omega, by simp, j + 1, b, rfl, by omega, fun e => hb (by omega), rfl, rfl⟩
        · refine L_reg [1, 3, 10, 14, 107, 108, 109] (fun K hK => ?_)
          simp [wrap_i64 (a := (i : Int) + 1) (by omega)]
          apply hK; clear hK K
          exact ⟨n - (i + 1), [.bool b, .int .i64 (i + 1 : Nat)], by omega, by simp, i + 1, b, rfl, by omega, fun e => hb (by omega), rfl, rfl⟩
      · have hbt := hb (by omega)
        subst hbt
        refine L_reg [] (fun K hK => ?_)
        simp [pickV, lpw, hst]
        apply hK; clear hK K
        exact ⟨.inl rfl, _, rfl, h _ hE4⟩
end Go.Proofs.Ytmlhekfkniibmaa

/- BenchSeated, walked. -/
namespace Go.Proofs.Ytmlhekfkniibmaa
open Go Go.Proofs.Ytmlhekfkniibmaa.AX Go.RowKit
theorem WhoN_ac (n k x : Nat) (h1 : 1 ≤ n) (h2 : n ≤ 20) (h3 : 1 ≤ k) (h4 : k ≤ 1000000000) (hx : x < n) (H : AH) (Q : AV → AH → Prop) (h : ∀ H', Ext H H' → Q (.tuple [.int .i64 (g (orderS n k) x), .int .i64 0]) H') : AC Try.prog 20 [.int .i64 n, .int .i64 k, .int .i64 x] H Q := by
  refine Who_ac n k x H Q ?_
  have hk : okO n k x := ⟨okB_mk h1 h2 h3 h4, by omega, by omega⟩
  rw [oneE_zero hk]
  unfold whoP
  rw [if_pos hk, Int.toNat_natCast, Int.toNat_natCast, Int.toNat_natCast]
  exact h
theorem WhenN_ac (n k p : Nat) (x : Int) (h1 : 1 ≤ n) (h2 : n ≤ 20) (h3 : 1 ≤ k) (h4 : k ≤ 1000000000) (hp : p < n) (hx : x = g (orderS n k) p) (H : AH) (Q : AV → AH → Prop) (h : ∀ H', Ext H H' → Q (.tuple [.int .i64 p, .int .i64 0]) H') : AC Try.prog 18 [.int .i64 n, .int .i64 k, .int .i64 x] H Q := by
  refine When_ac n k x H Q ?_
  have hl := orderS_len n k
  have hm : x ∈ orderS n k := by rw [hx, g_lt (by omega)]; simp
  have hr := mem_allS.1 ((orderS_perm n k).mem_iff.1 hm)
  have hk : okO n k x := ⟨okB_mk h1 h2 h3 h4, hr.1, hr.2⟩
  rw [oneE_zero hk]
  unfold whenP
  rw [if_pos hk, Int.toNat_natCast, Int.toNat_natCast, hx, idx_g ((orderS_perm n k).nodup_iff.2 (allS_nodup n)) (by omega)]
  exact h
theorem CountedN_ac (n k : Nat) (x : Int) (h1 : 1 ≤ n) (h2 : n ≤ 20) (h3 : 1 ≤ k) (h4 : k ≤ 1000000000) (hx : 0 ≤ x ∧ x < n) (H : AH) (Q : AV → AH → Prop) (h : ∀ H', Ext H H' → Q (.tuple [.int .i64 (TF n k x : Nat), .int .i64 0]) H') : AC Try.prog 23 [.int .i64 n, .int .i64 k, .int .i64 x] H Q := by
  refine Counted_ac n k x H Q ?_
  have hk : okO n k x := ⟨okB_mk h1 h2 h3 h4, hx.1, hx.2⟩
  rw [oneE_zero hk, if_pos hk, Int.toNat_natCast, Int.toNat_natCast, ← TF_cnt]
  exact h
theorem sumN_take {T : Int → Nat} {l : List Int} {p : Nat} (hp : p < l.length) : sumN T (l.take (p + 1)) = sumN T (l.take p) + T (g l p) := by
  have : l.take (p + 1) = l.take p ++ [g l p] := by rw [g_lt hp]; simp
  rw [this]
  unfold sumN
  simp
theorem sumN_le {T : Int → Nat} {l : List Int} {p : Nat} : sumN T (l.take p) ≤ sumN T l := by
  conv => rhs; rw [← List.take_append_drop p l]
  unfold sumN
  rw [List.map_append, List.sum_append]
  omega
set_option maxRecDepth 100000 in
set_option maxHeartbeats 8000000 in
theorem benchSeated_ac (a b : Nat) (ha : a < 256) (hb : b < 256) (H : AH) : AC Try.prog 8 [.int .u8 a, .int .u8 b] H fun u _ => u = .bool true := by
  refine L_body 154 Try.func8 rfl rfl ?_
  refine L_reg [0, 1] (fun K hK => ?_)
  simp
  apply hK; clear hK K
  obtain ⟨n, hn⟩ : ∃ n : Nat, n = 1 + a % 20 := ⟨_, rfl⟩
  obtain ⟨k, hk⟩ : ∃ k : Nat, k = 1 + b := ⟨_, rfl⟩
  have e1 : (1 : Int) + ((a : Int)).tmod 20 = (n : Int) := by rw [Int.tmod_eq_emod_of_nonneg (by omega)]; omega
  have e2 : (1 : Int) + (b : Int) = (k : Int) := by omega
  have f1 : IntKind.i64.wrap ((a : Int).tmod 20) = (a : Int).tmod 20 := by rw [Int.tmod_eq_emod_of_nonneg (by omega)]; exact wrap_i64 (by omega)
  refine L_reg [5, 6] (fun K hK => ?_)
  simp [wrap_i64 (a := (a : Int)) (by omega), wrap_i64 (a := (b : Int)) (by omega), e1, e2, wrap_i64 (a := (n : Int)) (by omega), wrap_i64 (a := (k : Int)) (by omega)]
  apply hK; clear hK K
  have hn1 : 1 ≤ n := by omega
  have hn2 : n ≤ 20 := by omega
  have hk1 : 1 ≤ k := by omega
  have hk2 : k ≤ 256 := by omega
  clear e1 e2 f1 hn hk ha hb
  have hol := orderS_len n k
  have hcnt := counts_ac n k hn1 (by omega) hk1 (by omega)
  have hOr := OrderN_ac n k hn1 hn2 hk1 (by omega)
  have hLa := LastN_ac n k hn1 hn2 hk1 (by omega)
  have hWho := fun x hx => WhoN_ac n k x hn1 hn2 hk1 (by omega) hx
  have hWhen := fun p x hp hx => WhenN_ac n k p x hn1 hn2 hk1 (by omega) hp hx
  have hCo := fun x hx => CountedN_ac n k x hn1 hn2 hk1 (by omega) hx
  have hbal := TF_bal (n := n) hk1
  have hsum := TF_sum (n := n) (k := k)
  have hnk : n * k ≤ 20 * 256 := Nat.mul_le_mul hn2 hk2
  have hmem : ∀ p, p < n → 0 ≤ g (orderS n k) p ∧ g (orderS n k) p < n := fun p hp => by
    have hm : g (orderS n k) p ∈ orderS n k := by rw [g_lt (by omega)]; simp
    exact mem_allS.1 ((orderS_perm n k).mem_iff.1 hm)
  have htl := tl_len n (TF n k)
  have htg := fun c (hc : c < n) => tl_g (n := n) (T := TF n k) hc
  generalize orderS n k = o at *
  generalize TF n k = T at *
  generalize tl n T = tt at *
  refine L_reg [5, 6, 7, 8] (fun K hK => ?_)
  simp [okFn_low]
  refine hcnt _ _ (fun v w H1 o1 o2 E1 => ?_)
  simp
  apply hK; clear hK K
  refine L_reg [5, 6, 7, 8, 9, 10] (fun K hK => ?_)
  simp [okFn_low]
  refine hOr _ _ (fun v2 H2 o3 E2 => ?_)
  simp
  apply hK; clear hK K
  refine L_reg [5, 6, 7, 8, 9, 10, 11, 12] (fun K hK => ?_)
  simp [okFn_low]
  refine hLa _ _ (fun H3 E3 => ?_)
  simp
  apply hK; clear hK K
  have L1 := (o1.own.ls.ext E2).ext E3
  have L2 := (o2.own.ls.ext E2).ext E3
  have L3 := o3.own.ls.ext E3
  have hvl := ls_len L1
  have hn3 : (n : Int) - 1 = ((n - 1 : Nat) : Int) := by omega
  obtain ⟨rq, pq, vq, hq1, hq2⟩ := ls_ix L1 (i := n - 1) (by omega)
  rw [hol] at hvl
  refine L_reg [5, 6, 7, 8, 69] (fun K hK => ?_)
  simp [okFn_low, pickV]
  refine same_ac v2 v o o _ _ (by omega) L3 L1 ?_
  simp [pickV, hn3, wrap_i64 (a := ((n - 1 : Nat) : Int)) (by omega), hq1, hq2]
  apply hK; clear hK K
  refine L_false (by simp) ?_
  clear hq1 hq2 hOr hLa hcnt o1 o2 o3 hn3
  refine L_reg [5, 6, 7, 8, 13] (fun K hK => ?_)
  simp
  apply hK; clear hK K
  refine L_reg [5, 6, 7, 8, 13, 70, 71, 72] (fun K hK => ?_)
  simp [hvl]
  apply hK; clear hK K
  refine L_block (L_loopV [13, 72] (fun m vs H' => ∃ (p s : Nat), m = n - p ∧ p ≤ n ∧ s = sumN T (o.take p) ∧ vs = [.int .i64 s, .int .i64 p] ∧ Ext H3 H') _ [.int .i64 0, .int .i64 0] rfl ⟨0, 0, rfl, by omega, rfl, rfl, .refl _⟩ ?_)
  rintro _ _ H4 ⟨p, s, rfl, hp, hs, rfl, hE⟩
  have hsle := sumN_le (T := T) (l := o) (p := p)
  refine L_reg [5, 6, 7, 8, 13, 70, 71, 72, 73] (fun K hK => ?_)
  simp
  apply hK; clear hK K
  refine L_dec (p < n) (by simp) (fun hlt => ?_) (fun hge => L_exit ?_)
  · refine L_block ?_
    obtain ⟨r1, p1, v1, hi1, hd1⟩ := ls_ix (L1.ext hE) (i := p) (by omega)
    obtain ⟨hx0, hxn⟩ := hmem p hlt
    have hst := sumN_take (T := T) (l := o) (p := p) (by omega)
    have hsle2 := sumN_le (T := T) (l := o) (p := p + 1)
    have hWho' := hWho p hlt
    have hWhen' := hWhen p _ hlt rfl
    have hCo' := hCo _ ⟨hx0, hxn⟩
    have hbp : ∀ q, q < p → T (g o q) ≤ T (g o p) + 1 := fun q hq => by
      have := (List.pairwise_iff_getElem.1 hbal) q p (by omega) (by omega) hq
      rwa [← g_lt, ← g_lt] at this
    obtain ⟨x, hx⟩ : ∃ x : Nat, g o p = x := ⟨(g o p).toNat, by omega⟩
    have htx := htg x (by omega)
    rw [hx] at hd1 hst hWho' hWhen' hCo' hbp
    obtain ⟨c, hc⟩ : ∃ c, c = T (x : Int) := ⟨_, rfl⟩
    rw [← hc] at hst hCo' hbp htx
    refine L_reg [5, 6, 7, 8, 13, 14, 15, 70, 71, 72] (fun K hK => ?_)
    simp [hi1, hd1]
    apply hK; clear hK K
    refine L_reg [5, 6, 7, 8, 13, 14, 15, 16, 17, 70, 71, 72] (fun K hK => ?_)
    simp [okFn_low]
    refine hWho' _ _ (fun H5 E5 => ?_)
    simp
    apply hK; clear hK K
    refine L_reg [5, 6, 7, 8, 13, 14, 15, 16, 17, 18, 19, 70, 71, 72] (fun K hK => ?_)
    simp [okFn_low]
    refine hWhen' _ _ (fun H6 E6 => ?_)
    simp
    apply hK; clear hK K
    refine L_reg [5, 6, 7, 8, 13, 14, 15, 16, 17, 18, 19, 20, 21, 70, 71, 72] (fun K hK => ?_)
    simp [okFn_low]
    refine hCo' _ _ (fun H7 E7 => ?_)
    simp
    apply hK; clear hK K
    have hE7 := ((hE.trans E5).trans E6).trans E7
    obtain ⟨r2, p2, v2', hi2, hd2⟩ := ls_ix (L2.ext hE7) (i := x) (by omega)
    rw [htx] at hd2
    refine L_reg [5, 6, 7, 8, 13, 14, 20, 70, 71, 72, 125] (fun K hK => ?_)
    simp [pickV, hi2, hd2]
    apply hK; clear hK K
    refine L_false (by simp) ?_
    refine L_reg [5, 6, 7, 8, 13, 14, 20, 70, 71, 72] (fun K hK => ?_)
    simp [wrap_i64 (a := (s : Int) + c) (by omega)]
    apply hK; clear hK K
    obtain ⟨z, hz1, hz2⟩ := ls_hi (L1.ext hE7) (by omega) (show p ≤ o.length by omega)
    have hzl := ls_len hz2
    rw [List.length_take, Nat.min_eq_left (by omega)] at hzl
    refine L_reg [5, 6, 7, 8, 13, 20, 70, 71, 72, 131, 132, 133] (fun K hK => ?_)
    simp [hz1, hzl]
    apply hK; clear hK K
    refine L_block (L_loopV [133] (fun m vs H' => ∃ q : Nat, m = p - q ∧ q ≤ p ∧ vs = [.int .i64 q] ∧ H7 = H') _ [.int .i64 0] rfl ⟨0, rfl, by omega, rfl, rfl⟩ ?_)
    rintro _ _ _ ⟨q, rfl, hq, rfl, rfl⟩
    refine L_reg [5, 6, 7, 8, 13, 20, 70, 71, 72, 131, 132, 133, 134] (fun K hK => ?_)
    simp
    apply hK; clear hK K
    refine L_dec (q < p) (by simp) (fun hqp => ?_) (fun hge => L_exit ?_)
    · refine L_block ?_
      obtain ⟨r3, p3, v3, hi3, hd3⟩ := ls_ix hz2 (i := q) (by rw [List.length_take]; omega)
      rw [g_take hqp] at hd3
      obtain ⟨hy0, hyn⟩ := hmem q (by omega)
      have hbq := hbp q hqp
      obtain ⟨y, hy⟩ : ∃ y : Nat, g o q = y := ⟨(g o q).toNat, by omega⟩
      have hty := htg y (by omega)
      rw [hy] at hd3 hbq
      obtain ⟨r4, p4, v4, hi4, hd4⟩ := ls_ix (L2.ext hE7) (i := y) (by omega)
      rw [hty] at hd4
      obtain ⟨d, hd⟩ : ∃ d, d = T (y : Int) := ⟨_, rfl⟩
      rw [← hd] at hd4 hbq
      have hnd : ¬ (c : Int) + 1 < d := by omega
      refine L_reg [5, 6, 7, 8, 13, 20, 23, 70, 71, 72, 131, 132, 133] (fun K hK => ?_)
      simp [hi3, hd3]
      apply hK; clear hK K
      refine L_reg [5, 6, 7, 8, 13, 20, 70, 71, 72, 131, 132, 133, 143] (fun K hK => ?_)
      simp [hi4, hd4, wrap_i64 (a := (c : Int) + 1) (by omega), hnd]
      apply hK; clear hK K
      refine L_false (by simp) ?_
      refine L_reg [5, 6, 7, 8, 13, 20, 70, 71, 72, 131, 132, 133] (fun K hK => ?_)
      simp [wrap_i64 (a := (q : Int) + 1) (by omega)]
      apply hK; clear hK K
      exact ⟨p - (q + 1), [.int .i64 (q + 1 : Nat)], by omega, by simp, q + 1, rfl, by omega, rfl, rfl⟩
    · refine L_reg [5, 6, 7, 8, 13, 70, 71, 72] (fun K hK => ?_)
      simp [wrap_i64 (a := (p : Int) + 1) (by omega)]
      apply hK; clear hK K
      exact ⟨n - (p + 1), [.int .i64 (s + c : Nat), .int .i64 (p + 1 : Nat)], by omega, by simp, p + 1, s + c, rfl, by omega, by omega, rfl, hE7⟩
  · have hpn : p = n := by omega
    have hss : s = n * k := by rw [hs, List.take_of_length_le (by omega), hsum]
    have hmul : IntKind.i64.wrap ((n : Int) * k) = (n : Int) * k := by
      have : (n : Int) * k = ((n * k : Nat) : Int) := by push_cast; rfl
      rw [this]; exact wrap_i64 (by omega)
    have hsi : (s : Int) = (n : Int) * k := by rw [hss]; push_cast; rfl
    refine L_reg [4] (fun K hK => ?_)
    simp [okFn_low, hmul, hsi]
    refine works_ac _ _ ?_
    simp [pickV]
    apply hK; clear hK K
    exact L_ret ⟨.inr rfl, _, rfl, rfl⟩
theorem seated_int (a b : Int) (wa : (Lit.int .u8 a).wf = true) (wb : (Lit.int .u8 b).wf = true) (H : AH) : AC Try.prog 8 [.int .u8 a, .int .u8 b] H fun u _ => u = .bool true := by
  obtain ⟨a, rfl, ha⟩ := u8_of wa
  obtain ⟨b, rfl, hb⟩ := u8_of wb
  exact benchSeated_ac a b ha hb H
end Go.Proofs.Ytmlhekfkniibmaa

/- Which orders are possible: the walk of the law. -/
namespace Go.Proofs.Ytmlhekfkniibmaa
open Go Go.Proofs.Ytmlhekfkniibmaa.AX
set_option linter.unusedVariables false
/-- The first m entries of the law's map. -/
def tabK (n m : Nat) : List (List Int × AV) := (tabN n m).map fun p => (p.1, AV.int .i64 (p.2 : Nat))
theorem tabN_succ (n m : Nat) : tabN n (m + 1) = tabN n m ++ [(pad (orderS n (m + 1)), m + 1)] := by
  unfold tabN; rw [List.range_succ, List.map_append]; rfl
theorem put_end {k : List Int} {v : AV} : ∀ {l : List (List Int × AV)}, l.lookup k = none → putLA k v l = l ++ [(k, v)]
  | [], _ => rfl
  | p :: l, h => by
    simp only [List.lookup] at h
    cases e : k == p.1 with
    | true => rw [e] at h; cases h
    | false =>
      rw [e] at h
      simp only [putLA, e]
      rw [put_end h]; rfl
theorem lcm6 : ∀ n, n ≤ 6 → lcmS n ≤ 60 := by decide
theorem orders_small (n : Nat) (h1 : 1 ≤ n) (h6 : n ≤ 6) : ordersP n = (lcmS n : Nat) ∧ rangeE n = 0 := by
  have : ∀ n : Nat, n ≤ 6 → 1 ≤ n → ordersP n = (lcmS n : Nat) ∧ rangeE n = 0 := by decide
  exact this n h6 h1
set_option maxRecDepth 100000 in
set_option maxHeartbeats 2000000 in
theorem benchPossible_ac (c : Int) (hc : 0 ≤ c ∧ c < 256) (H : AH) : AC Try.prog 7 [.int .u8 c] H fun u _ => u = .bool true := by
  refine L_body 97 Try.func7 rfl rfl ?_
  refine L_reg [0] (fun K hK => ?_)
  simp
  apply hK; clear hK K
  obtain ⟨n, hn, h1, h6⟩ : ∃ n : Nat, 1 + c.tmod 6 = (n : Int) ∧ 1 ≤ n ∧ n ≤ 6 := ⟨1 + (c.toNat % 6), by
    rw [Int.tmod_eq_emod_of_nonneg hc.1]; omega, by omega, by omega⟩
  have e6 : IntKind.i64.wrap (c.tmod 6) = c.tmod 6 := wrap_i64 (by rw [Int.tmod_eq_emod_of_nonneg hc.1]; omega)
  obtain ⟨I3, hI3, hz3⟩ := zeroT_some zt3
  obtain ⟨I4, hI4, hz4⟩ := zeroT_some zt4
  obtain ⟨I43, hI43, hz43⟩ := zeroT_some zt43
  have s0 := store_last (P := Try.prog) (H := H) (u := 3) (c := [.int .i64 0]) (p := 0) (v := 0) (s := 0) sc3 (x := .int .i64 n) (y := .int .i64 0) rfl rfl
  simp at s0
  refine L_reg [3] (fun K hK => ?_)
  simp [wrap_i64 (a := c) (by omega), hn, wrap_i64 (a := (n : Int)) (by omega), hI3, hz3, s0]
  apply hK; clear hK K
  have rn : (H ++ [AObj.row [AV.int .i64 n] 0 0 false])[H.length]? = some (.row [.int .i64 n] 0 0 false) := by simp
  generalize H ++ [AObj.row [AV.int .i64 n] 0 0 false] = H1 at rn ⊢
  generalize H.length = pn at rn ⊢
  have lnn : ∀ {H' : AH}, H'[pn]? = some (.row [.int .i64 n] 0 0 false) → ld H' pn 0 0 = some (.int .i64 n) := fun h => by rw [ld_row h]; rfl
  have hpn : pn < H1.length := (List.getElem?_eq_some_iff.1 rn).1
  obtain ⟨o1, o2⟩ := orders_small n h1 h6
  have hlc := lcm6 n h6
  refine L_reg [3, 4, 5] (fun K hK => ?_)
  simp [okFn_low, lnn rn]
  refine Orders_ac n _ _ ?_
  simp [o1, o2]
  apply hK; clear hK K
  refine L_reg [3, 4, 5, 6] (fun K hK => ?_)
  simp [okFn_low, lnn rn]
  refine tried_ac n h1 (by omega) _ _ ?_
  simp
  apply hK; clear hK K
  refine L_reg [3, 6, 35] (fun K hK => ?_)
  simp [pickV]
  apply hK; clear hK K
  refine L_false rfl ?_
  have hmk := fun H => make_A (H := H) mt40
  obtain ⟨I40, hI40, hz40⟩ := zeroT_some zt40
  have s1 := store_last (P := Try.prog) (H := H1 ++ [AObj.map (mapLA [])]) (u := 40) (c := I40.zero) (p := 0) (v := 0) (s := 0) sc40 (x := .map H1.length) (y := .nilmap) rfl (by rw [hz40]; rfl)
  rw [hz40] at s1
  simp at s1
  refine L_reg [3, 6, 7] (fun K hK => ?_)
  simp [hmk, hI40, hz40, s1]
  apply hK; clear hK K
  have hE2 : Ext H1 (H1 ++ [AObj.map (mapLA []), AObj.row [.map H1.length] 0 0 false]) := .push _ _
  have rm2 : MapA (H1 ++ [AObj.map (mapLA []), AObj.row [.map H1.length] 0 0 false]) H1.length (tabK n 0) := by unfold MapA tabK tabN; simp
  have rc2 : (H1 ++ [AObj.map (mapLA []), AObj.row [.map H1.length] 0 0 false])[H1.length + 1]? = some (.row [.map H1.length] 0 0 false) := by simp
  have rn2 := hE2.row rn
  generalize H1 ++ [AObj.map (mapLA []), AObj.row [.map H1.length] 0 0 false] = H2 at *
  generalize hrm : H1.length = rm at *
  refine L_reg [3, 6, 7, 8] (fun K hK => ?_)
  simp
  apply hK; clear hK K
  refine L_block (L_loopV [8] (fun q vs H' => ∃ b : Nat, q = lcmS n - b ∧ b ≤ lcmS n ∧ vs = [.int .i64 (b + 1 : Nat)] ∧ H'[pn]? = some (.row [.int .i64 n] 0 0 false) ∧ H'[rm + 1]? = some (.row [.map rm] 0 0 false) ∧ MapA H' rm (tabK n b)) _ [.int .i64 1] rfl ⟨0, rfl, by omega, rfl, rn2, rc2, rm2⟩ ?_)
  rintro _ _ H3 ⟨b, rfl, hb, rfl, rn3, rc3, rm3⟩
  refine L_reg [3, 6, 7, 8, 39] (fun K hK => ?_)
  simp
  apply hK; clear hK K
  refine L_dec (b < lcmS n) (by simp; omega) (fun hlt => ?_) (fun hge => L_exit ?_)
  · refine L_block ?_
    have hnew := new6
    simp only [List.all_eq_true, List.mem_range, Bool.and_eq_true, decide_eq_true_eq] at hnew
    obtain ⟨w1, w2⟩ := hnew (n - 1) (by omega) b (by rw [show n - 1 + 1 = n by omega]; exact hlt)
    rw [show n - 1 + 1 = n by omega] at w1 w2
    refine L_reg [3, 6, 7, 8, 9] (fun K hK => ?_)
    simp [okFn_low, lnn rn3]
    refine counts_ac n (b + 1) h1 (by omega) (by omega) (by omega) _ _ (fun v w H4 hO4 hO4' hE4 => ?_)
    simp
    apply hK; clear hK K
    have rn4 := hE4.row rn3
    have hx1 : IntKind.i64.wrap ((b : Int) + 1 + (lcmS n : Nat)) = ((b + 1 + lcmS n : Nat) : Int) := by rw [wrap_i64 (by omega)]; omega
    refine L_reg [3, 6, 7, 8, 9, 11, 12] (fun K hK => ?_)
    simp [okFn_low, lnn rn4]
    refine OrderN_ac n (b + 1) h1 (by omega) (by omega) (by omega) _ _ (fun v1 H5 hO5 hE5 => ?_)
    simp
    apply hK; clear hK K
    have rn5 := hE5.row rn4
    refine L_reg [3, 6, 7, 8, 9, 11, 12, 13, 14] (fun K hK => ?_)
    simp [okFn_low, lnn rn5, hx1]
    refine OrderN_ac n (b + 1 + lcmS n) h1 (by omega) (by omega) (by omega) _ _ (fun v2 H6 hO6 hE6 => ?_)
    simp
    apply hK; clear hK K
    rw [w2] at hO6
    have hv6 := (hO4.own.ls.ext hE5).ext hE6
    have hv16 := hO5.own.ls.ext hE6
    have hol := orderS_len n (b + 1)
    refine L_reg [3, 6, 7, 8, 9, 79] (fun K hK => ?_)
    simp [okFn_low, pickV]
    refine same_ac v1 v _ _ _ _ (by omega) hv16 hv6 ?_
    simp [okFn_low, pickV]
    refine same_ac v2 v _ _ _ _ (by omega) hO6.own.ls hv6 ?_
    simp [pickV]
    apply hK; clear hK K
    refine L_false rfl ?_
    have hE36 := (hE4.trans hE5).trans hE6
    refine L_reg [3, 6, 7, 8, 9, 15] (fun K hK => ?_)
    simp [hI43, hz43]
    apply hK; clear hK K
    have hE0 : Ext H6 (H6 ++ [AObj.row [AV.int IntKind.i64 0, AV.int IntKind.i64 0, AV.int IntKind.i64 0, AV.int IntKind.i64 0, AV.int IntKind.i64 0, AV.int IntKind.i64 0] 0 0 false]) := .push _ _
    have hw0 : (H6 ++ [AObj.row [AV.int IntKind.i64 0, AV.int IntKind.i64 0, AV.int IntKind.i64 0, AV.int IntKind.i64 0, AV.int IntKind.i64 0, AV.int IntKind.i64 0] 0 0 false])[H6.length]? = some (.row (List.replicate 6 (.int .i64 0)) 0 0 false) := by simp [List.replicate]
    generalize H6 ++ [AObj.row [AV.int IntKind.i64 0, AV.int IntKind.i64 0, AV.int IntKind.i64 0, AV.int IntKind.i64 0, AV.int IntKind.i64 0, AV.int IntKind.i64 0] 0 0 false] = H7 at hE0 hw0 ⊢
    have hsl := slice_all ar43 (by decide) (by decide) hw0 (by simp) (by simp)
    have hcp := copy_pad (by omega) (by omega) hw0 (hv6.ext hE0)
    refine L_reg [3, 6, 7, 8, 15] (fun K hK => ?_)
    simp [noSlice ar43, hsl, hcp]
    apply hK; clear hK K
    have hE1 : Ext H6 (H7.set H6.length (.row ((pad (orderS n (b + 1))).map (.int .i64)) 0 0 false)) := hE0.set _ (Nat.le_refl _)
    have hw1 := get_set (o' := .row ((pad (orderS n (b + 1))).map (.int .i64)) 0 0 false) hw0
    generalize H7.set H6.length (.row ((pad (orderS n (b + 1))).map (.int .i64)) 0 0 false) = H8 at hE1 hw1 ⊢
    have hE8 := hE36.trans hE1
    have rn8 := hE8.row rn3
    have rc8 := hE8.row rc3
    have rm8 : MapA H8 rm (tabK n b) := hE8.row rm3
    have hkey : okKey 6 (pad (orderS n (b + 1))) := okKey_pad (by omega) fun x hx => by
      have := mem_allS.1 ((orderS_perm n (b + 1)).mem_iff.1 hx)
      omega
    have hlk := look_A (ok := false) mt40 at40 rm8 hkey (tabA_ok h6)
    have hnone : (tabK n b).lookup (pad (orderS n (b + 1))) = none := by
      unfold tabK; rw [lookup_mapA]
      cases e : (tabN n b).lookup (pad (orderS n (b + 1))) with
      | none => rfl
      | some k => rw [e] at w1; cases w1
    rw [hnone] at hlk
    have hlk2 : aLook Try.prog H8 40 (.map rm) (.agg ((pad (orderS n (b + 1))).map (.int .i64))) false = some (.int .i64 0) := hlk
    have lpm : ld H8 (rm + 1) 0 0 = some (.map rm) := by rw [ld_row rc8]; rfl
    have lkey := ldn_row6 hw1 (pad_len (o := orderS n (b + 1)) (by omega))
    have hput := put_A (v := .int .i64 (b + 1 : Nat)) mt40 at40 rm8 hkey (tabA_ok h6)
    rw [put_end hnone, show ((b + 1 : Nat) : Int) = (b : Int) + 1 by omega] at hput
    have hrn : pn ≠ rm := by omega
    refine L_reg [3, 6, 7, 8, 15, 86] (fun K hK => ?_)
    simp [lpm, lkey, hlk2]
    apply hK; clear hK K
    refine L_false rfl ?_
    refine L_reg [3, 6, 7, 8] (fun K hK => ?_)
    simp [lpm, lkey, hput]
    apply hK; clear hK K
    refine L_reg [3, 6, 7, 8] (fun K hK => ?_)
    simp [wrap_i64 (a := (b : Int) + 1 + 1) (by omega)]
    apply hK; clear hK K
    refine ⟨lcmS n - (b + 1), [.int .i64 ((b + 1 + 1 : Nat) : Int)], by omega, by simp, b + 1, rfl, by omega, rfl, ?_, ?_, ?_⟩
    · rw [List.getElem?_set_ne (Ne.symm hrn), rn8]
    · rw [List.getElem?_set_ne (by omega), rc8]
    · unfold MapA
      rw [get_set rm8]
      unfold tabK
      rw [tabN_succ, List.map_append]; rfl
  · obtain rfl : b = lcmS n := by omega
    have s4 := store_last (P := Try.prog) (H := H3) (u := 4) (c := [.bool false]) (p := 0) (v := 0) (s := 0) sc4 (x := .bool true) (y := .bool false) rfl rfl
    simp at s4
    obtain ⟨I44, hI44, hz44⟩ := zeroT_some zt44
    refine L_reg [3, 7, 16] (fun K hK => ?_)
    simp [hI4, hz4, s4]
    apply hK; clear hK K
    refine L_reg [3, 7, 16, 17] (fun K hK => ?_)
    simp [hI44, hz44]
    apply hK; clear hK K
    have s5 := store_last (P := Try.prog) (H := H3 ++ [AObj.row [.bool true] 0 0 false]) (u := 44) (c := [.nilfunc]) (p := 0) (v := 0) (s := 0) sc44 (x := .func (.func 39) [] [.ptr pn 0 0, .ptr (H3.length + 1) 0 0, .ptr H3.length 0 0, .ptr (rm + 1) 0 0]) (y := .nilfunc) rfl rfl
    simp at s5
    refine L_reg [16, 17] (fun K hK => ?_)
    simp [s5]
    apply hK; clear hK K
    have hE9 : Ext H3 (H3 ++ [AObj.row [.bool true] 0 0 false, AObj.row [.func (.func 39) [] [.ptr pn 0 0, .ptr (H3.length + 1) 0 0, .ptr H3.length 0 0, .ptr (rm + 1) 0 0]] 0 0 false]) := .push _ _
    have hPC : PC n pn (H3.length + 1) H3.length (rm + 1) rm (H3 ++ [AObj.row [.bool true] 0 0 false, AObj.row [.func (.func 39) [] [.ptr pn 0 0, .ptr (H3.length + 1) 0 0, .ptr H3.length 0 0, .ptr (rm + 1) 0 0]] 0 0 false]) := ⟨hE9.row rn3, by simp, by simp, hE9.row rc3, hE9.row rm3⟩
    generalize H3 ++ [AObj.row [.bool true] 0 0 false, AObj.row [.func (.func 39) [] [.ptr pn 0 0, .ptr (H3.length + 1) 0 0, .ptr H3.length 0 0, .ptr (rm + 1) 0 0]] 0 0 false] = H9 at *
    have hall := all6
    simp only [List.all_eq_true, List.mem_range] at hall
    have hall := hall (n - 1) (by omega)
    rw [show n - 1 + 1 = n by omega] at hall
    have lf : ld H9 (H3.length + 1) 0 0 = some (.func (.func 39) [] [.ptr pn 0 0, .ptr (H3.length + 1) 0 0, .ptr H3.length 0 0, .ptr (rm + 1) 0 0]) := by rw [ld_row hPC.cf]; rfl
    have hok39 : okFn Try.prog 39 = true := by kernel_rfl
    refine L_reg [16] (fun K hK => ?_)
    simp [lf, hok39]
    refine put_ac n pn (H3.length + 1) H3.length (rm + 1) rm h1 h6 n [] _ H9 _ (by simp) hall (.nil _) hPC (fun H10 hE10 => ?_)
    simp
    apply hK; clear hK K
    have lw : ld H10 H3.length 0 0 = some (.bool true) := by rw [ld_row (hE10.row hPC.cw)]; rfl
    refine L_reg [2] (fun K hK => ?_)
    simp [okFn_low, lw]
    refine works_ac _ _ ?_
    simp [pickV]
    apply hK; clear hK K
    exact L_ret ⟨.inr rfl, _, rfl, rfl⟩
end Go.Proofs.Ytmlhekfkniibmaa
