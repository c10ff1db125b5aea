/- slices.Sort of a part of a row; slices.Equal. -/
import Derived.Test.YtcidcihpkdoejaaOPdq
namespace Go.Proofs.Ytcidcihpkdoejaa
open Go Go.Proofs.Ytcidcihpkdoejaa.AX
variable {sb : Bool} {tl : List AV}
theorem isNaN_ac (a : Int) (H : AH) (Q : AV → AH → Prop) (h : Q (.bool false) H) : AC Try.prog 110 [.int .i64 a] H Q := by
  refine L_body 6 Try.func110 rfl rfl ?_
  refine L_reg [0] (fun K hK => ?_)
  simp
  apply hK; clear hK K
  refine L_reg [2] (fun K hK => ?_)
  simp
  apply hK; clear hK K
  exact L_ret ⟨.inr rfl, _, rfl, by simpa using h⟩
theorem Less_ac (a b : Int) (H : AH) (Q : AV → AH → Prop) (h : Q (.bool (decide (a < b))) H) : AC Try.prog 99 [.int .i64 a, .int .i64 b] H Q := by
  refine L_body 17 Try.func99 rfl rfl ?_
  refine L_reg [0, 1] (fun K hK => ?_)
  simp
  apply hK; clear hK K
  refine L_reg [4] (fun K hK => ?_)
  simp [okFn_low]
  refine isNaN_ac a _ _ ?_
  simp [pickV]
  apply hK; clear hK K
  exact L_ret ⟨.inr rfl, _, rfl, by simpa using h⟩
theorem lessO (r : Nat) (H : AH) : Ord.CmpO (fun _ => True) (fun x => x) r H := by
  refine ⟨trivial, fun H' _ x y _ _ Q h => Less_ac x y H' Q ?_⟩
  have : decide (Ord.cmpS x y < 0) = decide (x < y) := by rw [decide_eq_decide]; exact Ord.cmpS_neg
  rw [this] at h; exact h
set_option maxRecDepth 100000 in
theorem Sort_ac (r ver : Nat) (c : List Int) (n : Nat) (hn : c.length = n) (H : AH) (Q : AV → AH → Prop) (hr : Ord.Rw tl r ver H c) (hrl : r < H.length) (hl : n ≤ 127)
    (h : ∀ (H' : AH) (m : List Int), m.Perm c → Ord.Srt (fun x => x) 0 n m → Ord.Rw tl r ver H' m → KeepX r H H' → Q (.tuple []) H') : AC Try.prog 54 [SV sb r 0 n ver] H Q := by
  refine L_body 11 Try.func54 rfl rfl ?_
  refine L_reg [0, 2] (fun K hK => ?_)
  simp
  apply hK; clear hK K
  refine L_reg [] (fun K hK0 => ?_)
  simp [okFn_low, Ord.cvA n (by omega)]
  refine Ord.Len_ac n H _ (by omega) ?_
  simp [okFn_low]
  have h7 : Ord.lenN n ≤ 7 := by
    unfold Ord.lenN
    repeat' split
    all_goals first | decide | omega
  have := Ord.pdq_ac (sb := sb) (fun _ => True) (fun x => x) r ver n hl (n + 1) 0 n (Ord.lenN n) c H (fun v H' => K [] H') (by omega) (lessO r H) hr hrl (fun _ _ => trivial) hn (by omega) (Nat.le_refl _) (by omega) (fun h0 => by omega) (fun H2 m s1 s2 s3 s4 => ?_)
  · exact this
  apply hK0; clear hK0 K
  exact ⟨.inl rfl, _, rfl, h H2 m s1.1 s2 s3 s4⟩
/-- Sorted lists with the same members. -/
theorem sorted_ext : ∀ {l m : List Int}, l.Pairwise (· < ·) → m.Pairwise (· < ·) → (∀ z, z ∈ l ↔ z ∈ m) → l = m
  | [], [], _, _, _ => rfl
  | [], y :: m, _, _, h => by have := (h y).2 (by simp); simp at this
  | x :: l, [], _, _, h => by have := (h x).1 (by simp); simp at this
  | x :: l, y :: m, hl, hm, h => by
    obtain ⟨a1, a2⟩ := List.pairwise_cons.1 hl
    obtain ⟨b1, b2⟩ := List.pairwise_cons.1 hm
    have hxy : x = y := by
      rcases List.mem_cons.1 ((h x).1 (by simp)) with e | e
      · exact e
      · rcases List.mem_cons.1 ((h y).2 (by simp)) with e2 | e2
        · exact e2.symm
        · have := b1 x e; have := a1 y e2; omega
    subst hxy
    have : l = m := sorted_ext a2 b2 fun z => by
      constructor
      · intro hz
        rcases List.mem_cons.1 ((h z).1 (List.mem_cons_of_mem _ hz)) with e | e
        · have := a1 z hz; omega
        · exact e
      · intro hz
        rcases List.mem_cons.1 ((h z).2 (List.mem_cons_of_mem _ hz)) with e | e
        · have := b1 z hz; omega
        · exact e
    rw [this]
theorem perm_of_sub : ∀ {l m : List Int}, l.Nodup → (∀ x ∈ l, x ∈ m) → m.length ≤ l.length → l.Perm m
  | [], m, _, _, h => by
    have : m = [] := List.eq_nil_of_length_eq_zero (by simpa using h)
    rw [this]
  | x :: l, m, hd, hs, h => by
    obtain ⟨h1, h2⟩ := List.nodup_cons.1 hd
    have hx := hs x (by simp)
    have hp : (x :: m.erase x).Perm m := (List.perm_cons_erase hx).symm
    have hl := hp.length_eq
    refine (List.Perm.cons x (perm_of_sub h2 (fun y hy => ?_) (by simp at hl h; omega))).trans hp
    have hne : y ≠ x := fun e => h1 (by rw [← e]; exact hy)
    exact (List.mem_erase_of_ne hne).2 (hs y (by simp [hy]))
end Go.Proofs.Ytcidcihpkdoejaa
