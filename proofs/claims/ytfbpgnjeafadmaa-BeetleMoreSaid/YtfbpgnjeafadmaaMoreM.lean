/- More beetles, or less frozen bales: no bale gets some later. -/
import Derived.Test.YtfbpgnjeafadmaaCut
namespace Go.Proofs.Ytfbpgnjeafadmaa.Fl
open Go Go.Proofs.Ytfbpgnjeafadmaa Go.Proofs.Ytfbpgnjeafadmaa.AX
set_option maxRecDepth 100000

theorem day_le {r c : Nat} {O S O' S' : Nat → Bool} (h : ∀ t b, D r c 2 O S t b = true → D r c 2 O' S' t b = true) (b : Nat) (ha : 0 ≤ day r c O S b) : 0 ≤ day r c O' S' b ∧ day r c O' S' b ≤ day r c O S b := by
  have hr := day_range (r := r) (c := c) (O := O) (S := S) b
  obtain ⟨t, ht⟩ : ∃ t : Nat, day r c O S b = t := ⟨(day r c O S b).toNat, by omega⟩
  have h1 := (day_iff (t := t) (by omega)).1 ⟨ha, by omega⟩
  have h2 := (day_iff (t := t) (by omega)).2 (h t b h1)
  omega
theorem opn_less {n : Nat} {Z Z' : Nat → Bool} (h : ∀ b, Z' b = true → Z b = true) (b : Nat) (hb : opn n Z b = true) : opn n Z' b = true := by
  simp only [opn, sub', Bool.and_eq_true, Bool.not_eq_true'] at hb ⊢
  refine ⟨hb.1, ?_⟩
  cases h1 : Z' b with
  | false => rfl
  | true => rw [h b h1] at hb; cases hb.2
/-- One bale more has beetles. -/
theorem more_perm {S : Nat → Bool} {k : Nat} {l : List Int} (hk : k < 25) (hS : S k = false) (hl : l.Perm (num S)) : ((k : Int) :: l).Perm (num (upd S k true)) := by
  refine (List.Perm.cons _ hl).trans ?_
  refine (List.perm_ext_iff_of_nodup ?_ (num_nodup _)).2 fun x => ?_
  · refine List.nodup_cons.2 ⟨fun h => ?_, num_nodup _⟩
    obtain ⟨b, -, h2, h3⟩ := mem_num.1 h
    obtain rfl : k = b := by omega
    rw [hS] at h2; cases h2
  · rw [List.mem_cons, mem_num, mem_num]
    constructor
    · rintro (rfl | ⟨b, h1, h2, rfl⟩)
      · exact ⟨k, hk, by simp [upd], rfl⟩
      · exact ⟨b, h1, by unfold upd; split <;> simp_all, rfl⟩
    · rintro ⟨b, h1, h2, rfl⟩
      unfold upd at h2
      split at h2
      · rename_i e; subst e; exact .inl rfl
      · exact .inr ⟨b, h1, h2, rfl⟩
/-- One frozen bale less. -/
theorem less_perm {Z : Nat → Bool} {o : List Int} {i : Nat} (hi : i < o.length) (ho : o.Perm (num Z)) : ∃ d : Nat, Z d = true ∧ (o.eraseIdx i).Perm (num (upd Z d false)) := by
  have hmem : o[i] ∈ num Z := ho.mem_iff.1 (List.getElem_mem hi)
  obtain ⟨d, h1, h2, h3⟩ := mem_num.1 hmem
  have hnd : o.Nodup := ho.nodup_iff.2 (num_nodup Z)
  have hp : (o[i] :: o.eraseIdx i).Perm o := by
    have e : o = o.take i ++ o[i] :: o.drop (i + 1) := by rw [← List.drop_eq_getElem_cons hi, List.take_append_drop]
    rw [List.eraseIdx_eq_take_drop_succ]
    have := (List.perm_middle (a := o[i]) (l₁ := o.take i) (l₂ := o.drop (i + 1))).symm
    rw [← e] at this
    exact this
  have hnd2 := hp.nodup_iff.2 hnd
  obtain ⟨hn1, hn2⟩ := List.nodup_cons.1 hnd2
  refine ⟨d, h2, (List.perm_ext_iff_of_nodup hn2 (num_nodup _)).2 fun x => ?_⟩
  have hx : x ∈ num Z ↔ x = o[i] ∨ x ∈ o.eraseIdx i := by rw [← ho.mem_iff, ← hp.mem_iff, List.mem_cons]
  rw [mem_num] at hx ⊢
  constructor
  · intro h
    obtain ⟨b, g1, g2, rfl⟩ := hx.2 (.inr h)
    refine ⟨b, g1, ?_, rfl⟩
    unfold upd
    rw [if_neg ?_]
    · exact g2
    · rintro rfl
      rw [← h3] at h
      exact hn1 h
  · rintro ⟨b, g1, g2, rfl⟩
    unfold upd at g2
    split at g2
    · cases g2
    · rename_i hne
      rcases hx.1 ⟨b, g1, g2, rfl⟩ with h | h
      · rw [h3] at h; omega
      · exact h
variable {H H' : AH} {r c n : Nat} {S Z : Nat → Bool} {u w : AV}
theorem St.more {k : Nat} {u' : AV} {l : List Int} (h : St H r c n S Z u w) (hk : k < n) (hS : S k = false) (hZ : Z k = false) (h3 : l.Perm (num S)) (hL : Ls H' u' ((k : Int) :: l)) (hE : Ext H H') : St H' r c n (upd S k true) Z u' w := by
  obtain ⟨-, o, -, h2, -, h4⟩ := h.ls
  have h25 := h.hs.le
  rw [h.hn] at h25
  refine ⟨h.hs, h.hn, fun b hb => ?_, h.hZ, fun b hb => ?_, _, o, hL, h2.ext hE, more_perm (by omega) hS h3, h4⟩
  · unfold upd at hb
    split at hb
    · omega
    · exact h.hS b hb
  · unfold upd
    split
    · rename_i e; subst e; rw [hZ] at hb; cases hb
    · exact h.hd b hb
theorem St.less {w' : AV} {o : List Int} {d : Nat} (h : St H r c n S Z u w) (h4 : o.Perm (num (upd Z d false))) (hL : Ls H' w' o) (hE : Ext H H') : St H' r c n S (upd Z d false) u w' := by
  obtain ⟨l, -, h1, -, h3, -⟩ := h.ls
  have sub : ∀ b, upd Z d false b = true → Z b = true := fun b hb => by unfold upd at hb; split at hb <;> simp_all
  exact ⟨h.hs, h.hn, h.hS, fun b hb => h.hZ b (sub b hb), fun b hb => h.hd b (sub b hb), l, o, h1.ext hE, hL, h3, h4⟩
theorem ownF_set {N q : Nat} {v : AV} {l : List AV} (h : OwnF N H v l) (hq : q < N) (o : AObj) : OwnF N (H.set q o) v l := by
  rcases h with ⟨h1, h2⟩ | ⟨r, ver, s, h1, h2, h3⟩
  · exact .inl ⟨h1, h2⟩
  · exact .inr ⟨r, ver, s, h1, h2, by rw [List.getElem?_set_ne (by omega)]; exact h3⟩
theorem more_D {r c n k : Nat} {S Z : Nat → Bool} (t b : Nat) (h : D r c 2 (opn n Z) S t b = true) : D r c 2 (opn n Z) (upd S k true) t b = true :=
  D_mono (fun _ h => h) (fun b h => by unfold upd; split <;> simp_all) t b h
theorem less_D {r c n d : Nat} {S Z : Nat → Bool} (t b : Nat) (h : D r c 2 (opn n Z) S t b = true) : D r c 2 (opn n (upd Z d false)) S t b = true :=
  D_mono (opn_less fun b h => by unfold upd at h; split at h <;> simp_all) (fun _ h => h) t b h
end Go.Proofs.Ytfbpgnjeafadmaa.Fl
