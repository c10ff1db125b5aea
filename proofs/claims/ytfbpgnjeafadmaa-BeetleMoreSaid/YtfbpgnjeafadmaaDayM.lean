/- Days as an array of ints. -/
import Derived.Test.YtfbpgnjeafadmaaFlo7
namespace Go.Proofs.Ytfbpgnjeafadmaa.Fl
open Go Go.Proofs.Ytfbpgnjeafadmaa Go.Proofs.Ytfbpgnjeafadmaa.AX
set_option maxRecDepth 100000

def iA (f : Nat → Int) : List AV := (List.range 25).map fun b => .int .i64 (f b)
theorem iA_len (f : Nat → Int) : (iA f).length = 25 := by simp [iA]
theorem iA_get (f : Nat → Int) {i : Nat} (hi : i < 25) : (iA f)[i]? = some (.int .i64 (f i)) := by
  simp [iA, List.getElem?_range hi]
theorem iA_ext {f h : Nat → Int} (e : ∀ b, b < 25 → f b = h b) : iA f = iA h :=
  List.map_congr_left fun b hb => by rw [e b (List.mem_range.1 hb)]
def updI (f : Nat → Int) (b : Nat) (v : Int) : Nat → Int := fun x => if x = b then v else f x
theorem iA_set (f : Nat → Int) (b : Nat) (v : Int) : (iA f).set b (.int .i64 v) = iA (updI f b v) := by
  refine List.ext_getElem? fun i => ?_
  rw [List.getElem?_set]
  by_cases hi : i < 25
  · rw [iA_get _ hi, iA_get _ hi, iA_len]
    unfold updI
    split
    · rename_i h; subst h; simp [hi]
    · rename_i h; rw [if_neg (fun h' => h h'.symm)]
  · have h1 : ∀ f, (iA f)[i]? = none := fun f => by simp [iA]; omega
    rw [h1, h1, iA_len]
    split
    · simp; omega
    · rfl
theorem iA_one (f : Nat → Int) : ∀ v ∈ iA f, v.one = true := by
  intro x hx
  obtain ⟨y, -, rfl⟩ := List.mem_map.1 hx; rfl
theorem iA_known (f : Nat → Int) : ∀ v ∈ iA f, v ≠ .undef := fun v hv => one_known (iA_one f v hv)
theorem belB_i (N : Nat) (f : Nat → Int) : belB N 4 (.agg (iA f)) = true := by
  simp only [belB, List.all_eq_true]
  intro v hv
  obtain ⟨y, -, rfl⟩ := List.mem_map.1 hv
  exact belB_int ..
section
variable {H : AH} {p s i : Nat} {f h : Nat → Int} {ro : Bool}
theorem ld_i (hr : H[p]? = some (.row (iA f) 0 s ro)) (hi : i < 25) : ld H p i 0 = some (.int .i64 (f i)) := by
  rw [ld_row hr, iA_get f hi]; rfl
theorem ldn_i (hr : H[p]? = some (.row (iA f) 0 s ro)) : ldn H p 0 25 0 = some (iA f) := by
  rw [ldn_row hr]
  simpa [iA_len] using take_all (iA_known f)
theorem st_i {v : Int} (hr : H[p]? = some (.row (iA f) 0 s false)) (hi : i < 25) : storeV Try.prog 3 H (.ptr p i 0) (.int .i64 v) = some (none, H.set p (.row (iA (updI f i v)) 0 (min s i) false)) := by
  rw [store_row (P := Try.prog) (u := 3) (p := i) sc3 (x := .int .i64 v) (y := .int .i64 (f i)) rfl hr (by rw [iA_get f hi]; rfl), iA_set]
theorem st_I (hr : H[p]? = some (.row (iA f) 0 s false)) : storeV Try.prog 87 H (.ptr p 0 0) (.agg (iA h)) = some (none, H.set p (.row (iA h) 0 0 false)) :=
  store_agg ag87 hr (by decide) (iA_len f) (iA_known f) (iA_len h) (iA_one h)
end
theorem zt87' : zeroT Try.prog 87 = some (iA fun _ => 0) := by rw [zt87]; rfl

def prv (r c : Nat) (O S : Nat → Bool) : Nat → Nat → Bool
  | 0 => none'
  | t + 1 => D r c 2 O S t
def dl (r c : Nat) (O S : Nat → Bool) (t b : Nat) : Int := if prv r c O S t b then day r c O S b else -1
variable {r c n : Nat} {O S : Nat → Bool}
theorem prv_sub {t b : Nat} (h : prv r c O S t b = true) : D r c 2 O S t b = true := by
  cases t with
  | zero => cases h
  | succ t => exact D_grow h
theorem day_new {t b : Nat} (ht : t ≤ 25) (h1 : prv r c O S t b = false) (h2 : D r c 2 O S t b = true) : day r c O S b = (t : Nat) := by
  cases t with
  | zero =>
    have := (day_iff (t := 0) (b := b) (r := r) (c := c) (O := O) (S := S) (by omega)).2 h2
    omega
  | succ t => exact dayT_new (by omega) h1 h2
theorem dl_end (hS : ∀ b, S b = true → b < r * c) (hn : r * c ≤ 25) {t : Nat} (h : D r c 2 O S t = prv r c O S t) (b : Nat) : dl r c O S t b = day r c O S b := by
  cases t with
  | zero =>
    have h0 : S = none' := h
    have hd : ∀ t b, D r c 2 O S t b = false := by
      intro t
      induction t with
      | zero => intro b; show S b = false; rw [h0]; rfl
      | succ t ih =>
        intro b
        have : D r c 2 O S t = none' := funext ih
        rw [D_succ, this]
        have : bes r c none' b = 0 := by
          unfold bes
          rw [List.countP_eq_zero]
          intro x _
          simp [none']
        simp [nxt, none', this]
    have hday : ¬ 0 ≤ day r c O S b := by
      intro h9
      have := (day_iff (t := 25) (b := b) (r := r) (c := c) (O := O) (S := S) (by omega)).1 ⟨h9, (day_range b).2⟩
      rw [hd] at this; cases this
    have := (day_range (r := r) (c := c) (O := O) (S := S) b).1
    show (if none' b = true then _ else _) = _
    rw [if_neg (by simp [none'])]
    omega
  | succ t => exact dayT_end hS hn b (sp_stop hS h)
/-- The days while new bales are written. -/
def dj (r c : Nat) (O S : Nat → Bool) (t j b : Nat) : Int := if prv r c O S t b then day r c O S b else if (b : Int) ∈ (num (sub' (D r c 2 O S t) (prv r c O S t))).take j then (t : Nat) else -1
theorem dj_zero (t : Nat) : dj r c O S t 0 = dl r c O S t := by
  funext b
  simp [dj, dl]
theorem dj_succ {t j b : Nat} (hj : j < (num (sub' (D r c 2 O S t) (prv r c O S t))).length) (hb : g (num (sub' (D r c 2 O S t) (prv r c O S t))) j = b) (hp : prv r c O S t b = false) : updI (dj r c O S t j) b (t : Nat) = dj r c O S t (j + 1) := by
  funext x
  unfold updI dj
  rw [List.take_add_one, List.getElem?_eq_getElem hj, ← g_lt hj, hb]
  by_cases hx : x = b
  · subst hx
    simp [hp]
  · rw [if_neg hx]
    have : ((x : Int) ∈ List.take j (num (sub' (D r c 2 O S t) (prv r c O S t))) ++ (some (b : Int)).toList) ↔ ((x : Int) ∈ List.take j (num (sub' (D r c 2 O S t) (prv r c O S t)))) := by
      simp
      omega
    simp only [this]
theorem dj_end {t : Nat} (ht : t ≤ 25) : iA (dj r c O S t (num (sub' (D r c 2 O S t) (prv r c O S t))).length) = iA (dl r c O S (t + 1)) := by
  refine iA_ext fun b hb => ?_
  unfold dj dl
  rw [List.take_length]
  show _ = if D r c 2 O S t b = true then _ else _
  cases hp : prv r c O S t b with
  | true => rw [if_pos rfl, if_pos (prv_sub hp)]
  | false =>
    rw [if_neg (by decide)]
    cases hd : D r c 2 O S t b with
    | true =>
      rw [if_pos (mem_num.2 ⟨b, hb, by simp [sub', hd, hp], rfl⟩), if_pos rfl, day_new ht hp hd]
    | false =>
      have hm : ¬ (b : Int) ∈ num (sub' (D r c 2 O S t) (prv r c O S t)) := by
        intro hm
        obtain ⟨x, -, h2, h3⟩ := mem_num.1 hm
        have : x = b := by omega
        subst this
        simp [sub', hd] at h2
      rw [if_neg hm, if_neg (by decide)]
end Go.Proofs.Ytfbpgnjeafadmaa.Fl
