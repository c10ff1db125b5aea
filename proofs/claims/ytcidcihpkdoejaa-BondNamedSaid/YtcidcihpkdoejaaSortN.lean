/- A list of its own is sorted, and made thin. -/
import Derived.Test.YtcidcihpkdoejaaKinds
import Derived.Test.YtcidcihpkdoejaaOSort
namespace Go.Proofs.Ytcidcihpkdoejaa
open Go Go.Proofs.Ytcidcihpkdoejaa Go.Proofs.Ytcidcihpkdoejaa.AX
set_option maxRecDepth 100000
theorem sort_nil : callN (runZ cx 300) 54 [.slice none 0 0 0 1 false] [] = some (.tuple [], []) := by kernel_rfl
theorem srt_pw {m : List Int} (h : Ord.Srt (fun x => x) 0 m.length m) : m.Pairwise (· ≤ ·) := by
  rw [List.pairwise_iff_getElem]
  intro i j hi hj hij
  have := h i j (by omega) hij (by omega)
  simpa [g_lt hi, g_lt hj] using this
theorem sort_own {H0 H : AH} {v : AV} {l : List Int} (hE : Ext H0 H) (ho : OwnF H0.length H v (l.map (.int .i64))) (hlen : l.length ≤ 127) (Q : AV → AH → Prop) (h : ∀ (H' : AH) (m : List Int), m.Perm l → m.Pairwise (· ≤ ·) → OwnF H0.length H' v (m.map (.int .i64)) → Ext H0 H' → Q (.tuple []) H') : AC Try.prog 54 [v] H Q := by
  rcases ho with ⟨h1, rfl⟩ | ⟨r, ver, stale, h1, rfl, h3⟩
  · obtain rfl : l = [] := by simpa using h1
    exact AC_kernZ cx_ok 300 sort_nil (.cons (by exact Bel.nilslice ..) .nil) (.tuple .nil) (h H [] (.refl _) .nil (.inl ⟨rfl, rfl⟩) hE)
  · rw [List.length_map]
    refine Sort_ac (tl := []) (sb := false) r ver l l.length rfl H Q ⟨stale, by rw [List.append_nil]; exact h3⟩ (List.getElem?_eq_some_iff.1 h3).1 hlen fun H' m hp hs hr hK => ?_
    have hl := hp.length_eq
    refine h H' m hp (srt_pw (by rw [hl]; exact hs)) ?_ (hK.new hE h1)
    obtain ⟨s, hr⟩ := hr
    exact .inr ⟨r, ver, s, h1, by simp [hl], by rw [List.append_nil] at hr; exact hr⟩
theorem compact_nil : callN (runZ cx 300) 55 [.slice none 0 0 0 1 false] [] = some (.slice none 0 0 0 1 false, []) := by kernel_rfl
/-- What is left of a sorted list is the list of its members in ascending order. -/
theorem compact_own {H0 H : AH} {v : AV} {l d : List Int} (hE : Ext H0 H) (hn : l = [] → v = .slice none 0 0 0 1 false) (ho : OwnF H0.length H v (l.map (.int .i64))) (hlen : l.length ≤ 127) (hs : l.Pairwise (· ≤ ·)) (hd : d.Pairwise (· < ·)) (hm : ∀ x, x ∈ l ↔ x ∈ d) (Q : AV → AH → Prop) (h : ∀ (v' : AV) (H' : AH), Ls H' v' d → Ext H0 H' → Q v' H') : AC Try.prog 55 [v] H Q := by
  rcases ho with ⟨h1, rfl⟩ | ⟨r, ver, stale, h1, rfl, h3⟩
  · obtain rfl : l = [] := by simpa using h1
    have : d = [] := List.eq_nil_iff_forall_not_mem.2 fun x hx => by simpa using (hm x).2 hx
    subst this
    exact AC_kernZ cx_ok 300 compact_nil (.cons (by exact Bel.nilslice ..) .nil) (by exact Bel.nilslice ..) (h _ H (Ls.nil H) hE)
  · rw [List.length_map]
    have hsort : ∀ i j, i < j → j < l.length → g l i ≤ g l j := fun i j hij hj => by
      rw [g_lt (by omega), g_lt hj]
      exact List.pairwise_iff_getElem.1 hs i j (by omega) hj hij
    have e : dqN l l.length = d := sorted_ext (dqN_lt hsort l.length (Nat.le_refl _)) hd fun x => by
      rw [dqN_mem, ← hm]
      constructor
      · rintro ⟨i, hi, rfl⟩
        rw [g_lt hi]; exact List.getElem_mem hi
      · intro hx
        obtain ⟨i, hi, rfl⟩ := List.getElem_of_mem hx
        exact ⟨i, hi, g_lt hi⟩
    by_cases h0 : l = []
    · have := hn h0; cases this
    · have hl1 : 1 ≤ l.length := List.length_pos_iff.2 h0
      refine Compact_ac r ver stale l l.length rfl hl1 (by omega) H Q h3 fun f H' hls hK => ?_
      rw [e] at hls ⊢
      exact h _ H' hls (hK.new hE h1)
end Go.Proofs.Ytcidcihpkdoejaa
