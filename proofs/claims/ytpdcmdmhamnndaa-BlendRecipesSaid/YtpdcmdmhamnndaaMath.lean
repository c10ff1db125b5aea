/- Blends: what the checks ask; rounds hold each blend once. -/
import Derived.Test.YtpdcmdmhamnndaaLack2
namespace Go.Proofs.Ytpdcmdmhamnndaa
open Go Go.Proofs.Ytpdcmdmhamnndaa.AX

def Okb (n : Nat) (b : List Int) : Prop := (∀ x ∈ b, 0 ≤ x ∧ x < n) ∧ b.Pairwise (· < ·)
theorem chk_ok {n : Nat} : ∀ {b : List Int} {p : Int}, chk n p b = 0 → (∀ x ∈ b, (0 ≤ x ∧ x < n) ∧ p < x) ∧ b.Pairwise (· < ·)
  | [], _, _ => ⟨by simp, .nil⟩
  | x :: l, p, h => by
    simp only [chk] at h
    split at h
    · cases h
    · split at h
      · cases h
      · obtain ⟨h1, h2⟩ := chk_ok h
        refine ⟨fun y hy => ?_, List.pairwise_cons.2 ⟨fun y hy => (h1 y hy).2, h2⟩⟩
        rcases List.mem_cons.1 hy with rfl | hy
        · omega
        · have := h1 y hy; omega
theorem okb_len : ∀ {n : Nat} {b : List Int}, Okb n b → b.length ≤ n
  | n, b, h => by
    rcases List.eq_nil_or_concat b with rfl | ⟨c, x, rfl⟩
    · simp
    · obtain ⟨h1, h2⟩ := h
      rw [List.concat_eq_append] at *
      have hx := h1 x (by simp)
      obtain ⟨n, rfl⟩ : ∃ m, n = m + 1 := ⟨n - 1, by omega⟩
      have hc : Okb n c := by
        refine ⟨fun y hy => ?_, (List.pairwise_append.1 h2).1⟩
        have := (List.pairwise_append.1 h2).2.2 y hy x (by simp)
        have := h1 y (by simp [hy])
        omega
      have := okb_len hc
      simp; omega
theorem okb_iota (n : Nat) : Okb n (iota n) := by
  constructor
  · intro x hx
    simp only [iota, List.mem_map, List.mem_range] at hx
    obtain ⟨i, hi, rfl⟩ := hx
    omega
  · unfold iota
    rw [List.pairwise_map]
    exact List.pairwise_lt_range.imp (by omega)
theorem okb_round : ∀ {n k : Nat} {l : List Int}, l ∈ roundS n k → Okb n l
  | 0, k, l, h => by
    simp only [roundS] at h
    split at h
    · simp at h; subst h; exact ⟨by simp, .nil⟩
    · simp at h
  | n + 1, k, l, h => by
    simp only [roundS] at h
    split at h
    · simp at h; subst h; exact ⟨by simp, .nil⟩
    · split at h
      · simp at h; subst h; exact okb_iota _
      · rw [List.mem_append] at h
        rcases h with h | h
        · obtain ⟨h1, h2⟩ := okb_round h
          exact ⟨fun x hx => by have := h1 x hx; omega, h2⟩
        · simp only [List.mem_map, List.mem_reverse] at h
          obtain ⟨m, hm, rfl⟩ := h
          obtain ⟨h1, h2⟩ := okb_round hm
          refine ⟨fun x hx => ?_, List.pairwise_append.2 ⟨h2, by simp, fun x hx y hy => ?_⟩⟩
          · rcases List.mem_append.1 hx with hx | hx
            · have := h1 x hx; omega
            · simp at hx; omega
          · simp at hy; have := h1 x hx; omega
theorem okb_mem : ∀ {n : Nat} {b : List Int}, Okb n b → b ∈ roundS n b.length
  | 0, b, h => by
    have := okb_len h
    obtain rfl : b = [] := List.eq_nil_of_length_eq_zero (by omega)
    simp [roundS]
  | n + 1, b, h => by
    rcases List.eq_nil_or_concat b with rfl | ⟨c, x, rfl⟩
    · simp [roundS]
    · rw [List.concat_eq_append] at *
      obtain ⟨h1, h2⟩ := h
      have hx := h1 x (by simp)
      obtain ⟨g1, -, g2⟩ := List.pairwise_append.1 h2
      have hc : Okb n c := by
        refine ⟨fun y hy => ?_, g1⟩
        have := g2 y hy x (by simp)
        have := h1 y (by simp [hy])
        omega
      have hcl := okb_len hc
      have hcm := okb_mem hc
      simp only [List.length_append, List.length_singleton, roundS]
      rw [if_neg (by omega)]
      by_cases hxn : x = n
      · subst hxn
        by_cases hf : c.length = n
        · rw [if_pos (by omega)]
          rw [hf, roundS_full] at hcm
          simp only [List.mem_singleton] at hcm
          rw [iota_succ, ← hcm]
          simp
        · rw [if_neg (by omega), List.mem_append]
          right
          simp only [List.mem_map, List.mem_reverse]
          exact ⟨c, by simpa using hcm, rfl⟩
      · have hb : Okb n (c ++ [x]) := ⟨fun y hy => by
          rcases List.mem_append.1 hy with hy | hy
          · have := hc.1 y hy; omega
          · simp at hy; omega, h2⟩
        have hl := okb_len hb
        simp only [List.length_append, List.length_singleton] at hl
        rw [if_neg (by omega), List.mem_append]
        left
        simpa using okb_mem hb
theorem round_le : ∀ (n k : Nat), (roundS n k).length ≤ 2 ^ n
  | 0, k => by simp only [roundS]; split <;> simp
  | n + 1, k => by
    simp only [roundS]
    have h1 := round_le n k
    have h2 := round_le n (k - 1)
    have h3 : 0 < 2 ^ n := Nat.pow_pos (by omega)
    split
    · simp; omega
    · split
      · simp; omega
      · simp; omega
theorem round_le2 {n k : Nat} (hn : n ≤ 10) : (roundS n k).length ≤ 1024 := Nat.le_trans (round_le n k) (Nat.pow_le_pow_right (by omega) hn)
theorem round_pos : ∀ {n k : Nat}, k ≤ n → 0 < (roundS n k).length
  | 0, k, h => by simp [roundS, show k = 0 by omega]
  | n + 1, k, h => by
    simp only [roundS]
    split
    · simp
    · split
      · simp
      · have := round_pos (n := n) (k := k) (by omega)
        simp; omega
theorem round_two {n k : Nat} (h0 : k ≠ 0) (h1 : k < n) : 2 ≤ (roundS n k).length := by
  obtain ⟨n, rfl⟩ : ∃ m, n = m + 1 := ⟨n - 1, by omega⟩
  have a := round_pos (n := n) (k := k) (by omega)
  have b := round_pos (n := n) (k := k - 1) (by omega)
  simp only [roundS]
  rw [if_neg h0, if_neg (by omega)]
  simp; omega
theorem round_one {n k : Nat} (h1 : k ≤ n) : (roundS n k).length = 1 ↔ k = 0 ∨ k = n := by
  constructor
  · intro h
    by_cases h0 : k = 0
    · exact .inl h0
    · by_cases hn : k = n
      · exact .inr hn
      · have := round_two h0 (show k < n by omega); omega
  · rintro (rfl | rfl)
    · simp [roundS_zero]
    · simp [roundS_full]
theorem round_nodup : ∀ (n k : Nat), (roundS n k).Pairwise (· ≠ ·)
  | 0, k => by simp only [roundS]; split <;> simp
  | n + 1, k => by
    simp only [roundS]
    split
    · simp
    · split
      · simp
      · rw [List.pairwise_append]
        refine ⟨round_nodup n k, ?_, ?_⟩
        · rw [List.pairwise_map, List.pairwise_reverse]
          exact (round_nodup n (k - 1)).imp fun h e => h (List.append_cancel_right e).symm
        · intro l hl m hm e
          simp only [List.mem_map, List.mem_reverse] at hm
          obtain ⟨c, hc, rfl⟩ := hm
          subst e
          have := (okb_round hl).1 n (by simp)
          omega
theorem idxS_get {b : List Int} : ∀ {F : List (List Int)}, b ∈ F → ∃ h : idxS b F < F.length, F[idxS b F] = b
  | l :: F, h => by
    simp only [idxS]
    by_cases hl : l = b
    · simp [hl]
    · rcases List.mem_cons.1 h with h | h
      · exact absurd h.symm hl
      · obtain ⟨g1, g2⟩ := idxS_get h
        simp only [if_neg hl]
        exact ⟨by simpa using g1, by simpa using g2⟩
theorem idxS_drop {b : List Int} {F : List (List Int)} {i : Nat} (hi : i < F.length) : idxS b (F.drop i) = if F[i] = b then 0 else idxS b (F.drop (i + 1)) + 1 := by
  rw [List.drop_eq_getElem_cons hi]; rfl
theorem sub_eq : ∀ {l m : List Int}, l.Pairwise (· < ·) → m.Pairwise (· < ·) → (∀ x ∈ l, x ∈ m) → m.length ≤ l.length → l = m
  | [], [], _, _, _, _ => rfl
  | [], y :: m, _, _, _, h => by simp at h
  | x :: l, [], _, _, h, _ => by have := h x (by simp); simp at this
  | x :: l, y :: m, hl, hm, h, hlen => by
    obtain ⟨a1, a2⟩ := List.pairwise_cons.1 hl
    obtain ⟨b1, b2⟩ := List.pairwise_cons.1 hm
    rcases List.mem_cons.1 (h x (by simp)) with rfl | hx
    · have := sub_eq a2 b2 (fun z hz => by
        rcases List.mem_cons.1 (h z (by simp [hz])) with rfl | h3
        · have := a1 _ hz; omega
        · exact h3) (by simpa using hlen)
      rw [this]
    · have hyx := b1 x hx
      have := sub_eq hl b2 (fun z hz => by
        rcases List.mem_cons.1 (h z hz) with rfl | h3
        · rcases List.mem_cons.1 hz with e | e
          · omega
          · have := a1 _ e; omega
        · exact h3) (by simp at hlen ⊢; omega)
      rw [this] at hlen
      simp at hlen
      omega
theorem lack_ne {n : Nat} {l m : List Int} (hl : Okb n l) (hm : Okb n m) (he : l.length = m.length) (hne : l ≠ m) : lack l m ≠ [] := by
  intro h
  apply hne
  refine sub_eq hl.2 hm.2 (fun x hx => ?_) (by omega)
  unfold lack at h
  rw [List.filter_eq_nil_iff] at h
  simpa using h x hx
theorem next_ne {n : Nat} {b : List Int} (hb : Okb n b) (h0 : b.length ≠ 0) (h1 : b.length ≠ n) :
    ∃ h : (idxS b (roundS n b.length) + 1) % (roundS n b.length).length < (roundS n b.length).length, (roundS n b.length)[(idxS b (roundS n b.length) + 1) % (roundS n b.length).length] ≠ b := by
  have hl := okb_len hb
  have h2 := round_two h0 (show b.length < n by omega)
  obtain ⟨g1, g2⟩ := idxS_get (okb_mem hb)
  have hnd := round_nodup n b.length
  generalize hF : roundS n b.length = F at *
  generalize hi : idxS b F = i at *
  have hlt : (i + 1) % F.length < F.length := Nat.mod_lt _ (by omega)
  refine ⟨hlt, fun e => ?_⟩
  have hne : (i + 1) % F.length ≠ i := by
    by_cases hc : i + 1 = F.length
    · rw [hc, Nat.mod_self]; omega
    · rw [Nat.mod_eq_of_lt (by omega)]; omega
  rw [List.pairwise_iff_getElem] at hnd
  rcases Nat.lt_or_gt_of_ne hne with h | h
  · exact hnd _ _ hlt g1 h (by rw [e, g2])
  · exact hnd _ _ g1 hlt h (by rw [e, g2])
end Go.Proofs.Ytpdcmdmhamnndaa
