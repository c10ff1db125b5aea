/- Graphs of given counts: one sorter may sit with those of the greatest counts (Havel and Hakimi). Pure: needs nothing of the seat. -/
namespace Go.Proofs.Ytbimapbcpmeooaa.Cl
set_option linter.unusedVariables false
/-- Who sits with whom. -/
structure Gr (g : Nat → Nat → Bool) : Prop where
  sym : ∀ a b, g a b = g b a
  irr : ∀ a, g a a = false
def deg (n : Nat) (g : Nat → Nat → Bool) (v : Nat) : Nat := (List.range n).countP (g v)
/-- One place turned on: one more. -/
theorem cnt_up {p q : Nat → Bool} {a : Nat} : ∀ {l : List Nat}, l.Nodup → a ∈ l → (∀ x, x ≠ a → p x = q x) → p a = false → q a = true → l.countP q = l.countP p + 1
  | x :: l, hn, ha, h, h0, h1 => by
    obtain ⟨hx, hn⟩ := List.nodup_cons.1 hn
    rw [List.countP_cons, List.countP_cons]
    by_cases c : x = a
    · subst c
      have e : l.countP q = l.countP p := List.countP_congr fun y hy => by rw [h y (fun e => hx (e ▸ hy))]
      rw [e, h0, h1]; simp
    · have ih := cnt_up hn ((List.mem_cons.1 ha).resolve_left (fun e => c e.symm)) h h0 h1
      rw [ih, h x c]; omega
/-- One place turned off, another one on: as many. -/
theorem cnt_swap {p q : Nat → Bool} {a b n : Nat} (ha : a < n) (hb : b < n) (hab : a ≠ b) (h : ∀ x, x ≠ a → x ≠ b → p x = q x) (pa : p a = false) (qa : q a = true) (pb : p b = true) (qb : q b = false) : (List.range n).countP p = (List.range n).countP q := by
  have hn : (List.range n).Nodup := List.nodup_range
  have ma := List.mem_range.2 ha
  have mb := List.mem_range.2 hb
  -- r: both off
  let r : Nat → Bool := fun x => if x = b then false else p x
  have h1 : (List.range n).countP p = (List.range n).countP r + 1 := cnt_up hn mb (fun x hx => by simp [r, hx]) (by simp [r]) pb
  have h2 : (List.range n).countP q = (List.range n).countP r + 1 := cnt_up hn ma (fun x hx => by
    by_cases c : x = b
    · subst c; simp [r, qb]
    · simp [r, c, h x hx c]) (by simp [r, hab, pa]) qa
  omega
/-- More in one than in the other: one that is in the one only. -/
theorem cnt_ex {p q : Nat → Bool} {s n : Nat} (hs : s < n) (ps : p s = false) (qs : q s = true) (h : (List.range n).countP q ≤ (List.range n).countP p) : ∃ c, c < n ∧ p c = true ∧ q c = false := by
  apply Classical.byContradiction
  intro hc
  have hle : ∀ x ∈ List.range n, p x = true → q x = true := fun x hx hp => by
    cases hq : q x with
    | true => rfl
    | false => exact absurd ⟨x, List.mem_range.1 hx, hp, hq⟩ hc
  let r : Nat → Bool := fun x => if x = s then false else q x
  have h1 : (List.range n).countP q = (List.range n).countP r + 1 := cnt_up List.nodup_range (List.mem_range.2 hs) (fun x hx => by simp [r, hx]) (by simp [r]) qs
  have h2 : (List.range n).countP p ≤ (List.range n).countP r := List.countP_mono_left fun x hx hp => by
    have : x ≠ s := by rintro rfl; rw [ps] at hp; cases hp
    simp [r, this, hle x hx hp]
  omega
/-- Two tables are exchanged crosswise: s and b, a and c get up; s and a, b and c sit down. -/
def xch (g : Nat → Nat → Bool) (s a b c : Nat) (x y : Nat) : Bool :=
  if (x = s ∧ y = b) ∨ (x = b ∧ y = s) ∨ (x = a ∧ y = c) ∨ (x = c ∧ y = a) then false
  else if (x = s ∧ y = a) ∨ (x = a ∧ y = s) ∨ (x = b ∧ y = c) ∨ (x = c ∧ y = b) then true
  else g x y
section
variable {g : Nat → Nat → Bool} {n s a b c : Nat}
theorem xch_gr (hg : Gr g) (h1 : s ≠ a) (h2 : s ≠ b) (h3 : s ≠ c) (h4 : a ≠ b) (h5 : a ≠ c) (h6 : b ≠ c) : Gr (xch g s a b c) where
  sym x y := by
    unfold xch
    have e1 : ((x = s ∧ y = b) ∨ (x = b ∧ y = s) ∨ (x = a ∧ y = c) ∨ (x = c ∧ y = a)) ↔ ((y = s ∧ x = b) ∨ (y = b ∧ x = s) ∨ (y = a ∧ x = c) ∨ (y = c ∧ x = a)) := by omega
    have e2 : ((x = s ∧ y = a) ∨ (x = a ∧ y = s) ∨ (x = b ∧ y = c) ∨ (x = c ∧ y = b)) ↔ ((y = s ∧ x = a) ∨ (y = a ∧ x = s) ∨ (y = b ∧ x = c) ∨ (y = c ∧ x = b)) := by omega
    simp only [e1, e2, hg.sym x y]
  irr x := by
    unfold xch
    rw [if_neg (by omega), if_neg (by omega), hg.irr]
theorem xch_deg (hg : Gr g) (hs : s < n) (ha : a < n) (hb : b < n) (hc : c < n) (h1 : s ≠ a) (h2 : s ≠ b) (h3 : s ≠ c) (h4 : a ≠ b) (h5 : a ≠ c) (h6 : b ≠ c) (gsb : g s b = true) (gsa : g s a = false) (gac : g a c = true) (gbc : g b c = false) (v : Nat) : deg n (xch g s a b c) v = deg n g v := by
  unfold deg
  have gbs : g b s = true := by rw [hg.sym]; exact gsb
  have gas : g a s = false := by rw [hg.sym]; exact gsa
  have gca : g c a = true := by rw [hg.sym]; exact gac
  have gcb : g c b = false := by rw [hg.sym]; exact gbc
  by_cases v1 : v = s
  · subst v1
    refine (cnt_swap ha hb h4 (fun x x1 x2 => ?_) gsa ?_ gsb ?_).symm
    · unfold xch; rw [if_neg (by omega), if_neg (by omega)]
    · unfold xch; rw [if_neg (by omega), if_pos (by omega)]
    · unfold xch; rw [if_pos (by omega)]
  · by_cases v2 : v = a
    · subst v2
      refine (cnt_swap hs hc h3 (fun x x1 x2 => ?_) gas ?_ gac ?_).symm
      · unfold xch; rw [if_neg (by omega), if_neg (by omega)]
      · unfold xch; rw [if_neg (by omega), if_pos (by omega)]
      · unfold xch; rw [if_pos (by omega)]
    · by_cases v3 : v = b
      · subst v3
        refine (cnt_swap hc hs (Ne.symm h3) (fun x x1 x2 => ?_) gbc ?_ gbs ?_).symm
        · unfold xch; rw [if_neg (by omega), if_neg (by omega)]
        · unfold xch; rw [if_neg (by omega), if_pos (by omega)]
        · unfold xch; rw [if_pos (by omega)]
      · by_cases v4 : v = c
        · subst v4
          refine (cnt_swap hb ha (Ne.symm h4) (fun x x1 x2 => ?_) gcb ?_ gca ?_).symm
          · unfold xch; rw [if_neg (by omega), if_neg (by omega)]
          · unfold xch; rw [if_neg (by omega), if_pos (by omega)]
          · unfold xch; rw [if_pos (by omega)]
        · refine List.countP_congr fun x _ => ?_
          unfold xch; rw [if_neg (by omega), if_neg (by omega)]
end
/-- How many of those whom s sits with are among the chosen ones. -/
def agr (n : Nat) (g : Nat → Nat → Bool) (s : Nat) (T : Nat → Bool) : Nat := (List.range n).countP fun x => g s x && T x
/-- One step nearer to the chosen ones. -/
theorem hav_step {g : Nat → Nat → Bool} {n s : Nat} {T : Nat → Bool} (hg : Gr g) (hs : s < n) (hT : T s = false) (hsz : (List.range n).countP T = deg n g s) (hord : ∀ a b, a < n → b < n → T a = true → T b = false → b ≠ s → deg n g b ≤ deg n g a) (hne : ∃ x, x < n ∧ g s x ≠ T x) :
    ∃ g', Gr g' ∧ (∀ v, deg n g' v = deg n g v) ∧ agr n g' s T = agr n g s T + 1 := by
  have hss := hg.irr s
  -- a: chosen, not there; b: there, not chosen
  have hab : (∃ a, a < n ∧ T a = true ∧ g s a = false) ∧ ∃ b, b < n ∧ T b = false ∧ g s b = true := by
    unfold deg at hsz
    obtain ⟨x, hx, hxn⟩ := hne
    cases hT' : T x with
    | true =>
      have hgx : g s x = false := by cases h : g s x; rfl; rw [h, hT'] at hxn; exact absurd rfl hxn
      obtain ⟨b, b1, b2, b3⟩ := cnt_ex (p := g s) (q := T) hx hgx hT' (by omega)
      exact ⟨⟨x, hx, hT', hgx⟩, b, b1, b3, b2⟩
    | false =>
      have hgx : g s x = true := by cases h : g s x; rw [h, hT'] at hxn; exact absurd rfl hxn; rfl
      obtain ⟨a, a1, a2, a3⟩ := cnt_ex (p := T) (q := g s) hx hT' hgx (by omega)
      exact ⟨⟨a, a1, a2, a3⟩, x, hx, hT', hgx⟩
  obtain ⟨⟨a, a1, a2, a3⟩, b, b1, b2, b3⟩ := hab
  have hsa : s ≠ a := by rintro rfl; rw [hT] at a2; cases a2
  have hsb : s ≠ b := by rintro rfl; rw [hss] at b3; cases b3
  have hab : a ≠ b := by rintro rfl; rw [a2] at b2; cases b2
  have hd := hord a b a1 b1 a2 b2 (Ne.symm hsb)
  have gbs : g b s = true := by rw [hg.sym]; exact b3
  have gas : g a s = false := by rw [hg.sym]; exact a3
  -- c: sits with a, not with b
  have hc : ∃ c, c < n ∧ g a c = true ∧ g b c = false ∧ c ≠ b := by
    unfold deg at hd
    cases hgab : g a b with
    | false =>
      obtain ⟨c, c1, c2, c3⟩ := cnt_ex (p := g a) (q := g b) hs gas gbs hd
      exact ⟨c, c1, c2, c3, by rintro rfl; rw [hgab] at c2; cases c2⟩
    | true =>
      have hgba : g b a = true := by rw [hg.sym]; exact hgab
      -- leave a and b out
      let p : Nat → Bool := fun x => if x = b then false else g a x
      let q : Nat → Bool := fun x => if x = a then false else g b x
      have h1 : (List.range n).countP (g a) = (List.range n).countP p + 1 := cnt_up List.nodup_range (List.mem_range.2 b1) (fun x hx => by simp [p, hx]) (by simp [p]) hgab
      have h2 : (List.range n).countP (g b) = (List.range n).countP q + 1 := cnt_up List.nodup_range (List.mem_range.2 a1) (fun x hx => by simp [q, hx]) (by simp [q]) hgba
      obtain ⟨c, c1, c2, c3⟩ := cnt_ex (p := p) (q := q) hs (by simp [p, gas]) (by simp [q, hsa, gbs]) (by omega)
      have cb : c ≠ b := by rintro rfl; simp [p] at c2
      have ca : c ≠ a := by rintro rfl; simp [p, cb, hg.irr] at c2
      simp [p, cb] at c2
      simp [q, ca] at c3
      exact ⟨c, c1, c2, c3, cb⟩
  obtain ⟨c, c1, c2, c3, hcb⟩ := hc
  have hac : a ≠ c := by rintro rfl; rw [hg.irr] at c2; cases c2
  have hsc : s ≠ c := by rintro rfl; rw [gas] at c2; cases c2
  refine ⟨xch g s a b c, xch_gr hg hsa hsb hsc hab hac (Ne.symm hcb), fun v => xch_deg hg hs a1 b1 c1 hsa hsb hsc hab hac (Ne.symm hcb) b3 a3 c2 c3 v, ?_⟩
  unfold agr
  refine cnt_up List.nodup_range (List.mem_range.2 a1) (fun x hx => ?_) (by simp [a3]) ?_
  · by_cases e : x = b
    · subst e; simp [b2]
    · have : xch g s a b c s x = g s x := by unfold xch; rw [if_neg (by omega), if_neg (by omega)]
      rw [this]
  · have : xch g s a b c s a = true := by unfold xch; rw [if_neg (by omega), if_pos (by omega)]
    rw [this, a2]; rfl
theorem agr_le {g : Nat → Nat → Bool} {n s : Nat} {T : Nat → Bool} : agr n g s T ≤ (List.range n).countP T :=
  List.countP_mono_left fun x _ h => by simp only [Bool.and_eq_true] at h; exact h.2
/-- If there is a plan of counts, there is one in which s sits with the chosen ones, where these have the greatest counts of the others. -/
theorem hav {n s : Nat} {T : Nat → Bool} (hs : s < n) (hT : T s = false) : ∀ (k : Nat) (g : Nat → Nat → Bool), Gr g → (List.range n).countP T = deg n g s → (∀ a b, a < n → b < n → T a = true → T b = false → b ≠ s → deg n g b ≤ deg n g a) → agr n g s T + k = (List.range n).countP T →
    ∃ g', Gr g' ∧ (∀ v, deg n g' v = deg n g v) ∧ ∀ x, x < n → g' s x = T x := by
  intro k
  induction k with
  | zero =>
    intro g hg hsz hord hk
    refine ⟨g, hg, fun _ => rfl, fun x hx => ?_⟩
    apply Classical.byContradiction
    intro hne
    obtain ⟨g', -, -, h3⟩ := hav_step hg hs hT hsz hord ⟨x, hx, hne⟩
    have := agr_le (n := n) (g := g') (s := s) (T := T)
    omega
  | succ k ih =>
    intro g hg hsz hord hk
    have hne : ∃ x, x < n ∧ g s x ≠ T x := by
      apply Classical.byContradiction
      intro hc
      have : agr n g s T = (List.range n).countP T := by
        unfold agr
        refine List.countP_congr fun x hx => ?_
        have : g s x = T x := by
          apply Classical.byContradiction
          intro h
          exact hc ⟨x, List.mem_range.1 hx, h⟩
        rw [this]; simp
      omega
    obtain ⟨g', h1, h2, h3⟩ := hav_step hg hs hT hsz hord hne
    obtain ⟨g2, k1, k2, k3⟩ := ih g' h1 (by rw [h2]; exact hsz) (fun a b ha hb ta tb hb' => by rw [h2, h2]; exact hord a b ha hb ta tb hb') (by omega)
    exact ⟨g2, k1, fun v => by rw [k2, h2], k3⟩
end Go.Proofs.Ytbimapbcpmeooaa.Cl
