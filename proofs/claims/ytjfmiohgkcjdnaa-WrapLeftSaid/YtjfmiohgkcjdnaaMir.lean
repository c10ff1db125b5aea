/- Steps for the other hand: gaps come in the opposite order. -/
import Derived.Test.YtjfmiohgkcjdnaaPub
import Derived.Test.YtjfmiohgkcjdnaaWNear
namespace Go.Proofs.Ytjfmiohgkcjdnaa
open Go Go.Proofs.Ytjfmiohgkcjdnaa.AX

theorem per_mir {m s : Nat} (h : s ≤ m) : per m (m - s) = per m s := by unfold per; rw [Nat.gcd_self_sub_right h]
theorem mark_mir {m s : Nat} (hm : 0 < m) (h : s ≤ m) (k : Nat) : k * (m - s) % m = if k * s % m = 0 then 0 else m - k * s % m := by
  have h1 : (k * (m - s) + k * s) % m = 0 := by rw [← Nat.mul_add, show m - s + s = m by omega]; exact Nat.mul_mod_left k m
  rw [Nat.add_mod] at h1
  have h2 := Nat.mod_lt (k * (m - s)) hm
  have h3 := Nat.mod_lt (k * s) hm
  generalize k * (m - s) % m = x at *
  generalize k * s % m = y at *
  rcases Nat.lt_or_ge (x + y) m with h4 | h4
  · rw [Nat.mod_eq_of_lt h4] at h1
    rw [if_pos (by omega)]; omega
  · rw [mod_wrap h4 (by omega)] at h1
    split <;> omega
theorem dist_mir {m s : Nat} (hm : 0 < m) (h : s ≤ m) (k : Nat) : distN m (m - s) k = distN m s k := by
  unfold distN
  rw [mark_mir hm h]
  have h3 := Nat.mod_lt (k * s) hm
  split <;> omega
theorem nrS_mir {m s : Nat} (hm : 0 < m) (h : s ≤ m) : ∀ k, nrS m (m - s) k = nrS m s k
  | 0 => rfl
  | k + 1 => by simp only [nrS, nrS_mir hm h k, dist_mir hm h]
/-- Differences of a list. -/
def dif : List Nat → List Int
  | [] => []
  | [_] => []
  | a :: b :: l => ((b : Int) - a) :: dif (b :: l)
theorem gapL_dif (m : Nat) : ∀ l : List Nat, gapL m l = dif (l ++ [m])
  | [] => rfl
  | [a] => rfl
  | a :: b :: l => by
    have := gapL_dif m (b :: l)
    simp only [gapL, List.headD_cons, List.cons_append, dif] at this ⊢
    rw [← this]
theorem dif_snoc (x y : Nat) : ∀ l : List Nat, dif (l ++ [x, y]) = dif (l ++ [x]) ++ [(y : Int) - x]
  | [] => rfl
  | [a] => rfl
  | a :: b :: l => by
    have := dif_snoc x y (b :: l)
    simp only [List.cons_append, dif] at this ⊢
    rw [this]
theorem dif_mir (c : Nat) : ∀ l : List Nat, (∀ x ∈ l, x ≤ c) → dif ((l.map (c - ·)).reverse) = (dif l).reverse
  | [], _ => rfl
  | [a], _ => rfl
  | a :: b :: l, h => by
    have h1 := dif_mir c (b :: l) (fun x hx => h x (by simp [hx]))
    have ha := h a (by simp)
    have hb := h b (by simp)
    simp only [List.map_cons, List.reverse_cons, dif] at h1 ⊢
    rw [List.append_assoc, List.singleton_append, dif_snoc, h1]
    congr 2
    omega
theorem marks_zero {m s t : Nat} (hm : 0 < m) (ht : t ≤ per m s) (h1 : 1 ≤ t) : ∃ W : List Nat, (roundS m s t).map (markN m s) = 0 :: W := by
  have h := round_sorted m s t
  have h0 : 0 ∈ (roundS m s t).map (markN m s) := List.mem_map.2 ⟨(0 : Nat), (mem_roundS hm ht).2 ⟨0, by omega, rfl⟩, by simp [markN]⟩
  cases hl : (roundS m s t).map (markN m s) with
  | nil => rw [hl] at h0; simp at h0
  | cons w W =>
    rw [hl] at h h0
    rcases List.mem_cons.1 h0 with e | e
    · exact ⟨W, by rw [e]⟩
    · have := (List.pairwise_cons.1 h).1 0 e; omega
theorem mem_marks {m s t : Nat} (hm : 0 < m) (ht : t ≤ per m s) (z : Nat) : z ∈ (roundS m s t).map (markN m s) ↔ ∃ k, k < t ∧ z = k * s % m := by
  simp only [List.mem_map, mem_roundS hm ht]
  constructor
  · rintro ⟨x, ⟨k, hk, rfl⟩, rfl⟩; exact ⟨k, hk, rfl⟩
  · rintro ⟨k, hk, rfl⟩; exact ⟨k, ⟨k, hk, rfl⟩, rfl⟩
theorem gaps_mir {m s t : Nat} (hm : 0 < m) (h : s ≤ m) (ht : t ≤ per m s) (h1 : 1 ≤ t) : gapsS m (m - s) t = (gapsS m s t).reverse := by
  have ht2 : t ≤ per m (m - s) := by rw [per_mir h]; exact ht
  obtain ⟨W, hW⟩ := marks_zero (s := s) hm ht h1
  have hs := round_sorted m s t
  have hmem := mem_marks (s := s) hm ht
  have hlt : ∀ x ∈ W, x < m := fun x hx => by
    obtain ⟨k, -, e⟩ := (hmem x).1 (by rw [hW]; simp [hx])
    rw [e]; exact Nat.mod_lt _ hm
  unfold gapsS
  rw [hW] at hs hmem ⊢
  obtain ⟨p1, p2⟩ := List.pairwise_cons.1 hs
  have e2 : (roundS m (m - s) t).map (markN m (m - s)) = 0 :: (W.map (m - ·)).reverse := by
    refine sorted_ext (round_sorted m (m - s) t) ?_ (fun z => ?_)
    · rw [List.pairwise_cons]
      refine ⟨fun x hx => ?_, ?_⟩
      · obtain ⟨y, hy, rfl⟩ := List.mem_map.1 (List.mem_reverse.1 hx)
        have := hlt y hy; omega
      · rw [List.pairwise_reverse, List.pairwise_map]
        exact p2.imp_of_mem fun {a b} ha hb hab => by have := hlt a ha; have := hlt b hb; omega
    · rw [mem_marks hm ht2]
      simp only [List.mem_cons, List.mem_reverse, List.mem_map]
      constructor
      · rintro ⟨k, hk, rfl⟩
        rw [mark_mir hm h]
        split
        · exact .inl rfl
        · rename_i h0
          have := (hmem (k * s % m)).2 ⟨k, hk, rfl⟩
          rcases List.mem_cons.1 this with e | e
          · exact absurd e h0
          · exact .inr ⟨_, e, rfl⟩
      · rintro (rfl | ⟨x, hx, rfl⟩)
        · exact ⟨0, by omega, by simp⟩
        · obtain ⟨k, hk, e⟩ := (hmem x).1 (by simp [hx])
          refine ⟨k, hk, ?_⟩
          have := p1 x hx
          rw [mark_mir hm h, ← e, if_neg (by omega)]
  rw [e2, gapL_dif, gapL_dif, ← dif_mir m]
  · congr 1
    simp
  · intro x hx
    simp only [List.cons_append, List.mem_cons, List.mem_append, List.not_mem_nil, or_false] at hx
    rcases hx with rfl | hx | rfl
    · omega
    · have := hlt x hx; omega
    · omega
theorem widths_mir {m s t : Nat} (hm : 0 < m) (h : s ≤ m) (ht : t ≤ per m s) (h1 : 1 ≤ t) : widthsS m (m - s) t = widthsS m s t := by
  unfold widthsS widN
  rw [gaps_mir hm h ht h1]
  simp only [List.count_reverse]
theorem evS_mir {m s : Nat} (hm : 0 < m) (h : s ≤ m) : ∀ k, k ≤ per m s → evS m (m - s) k = evS m s k
  | 0, _ => rfl
  | k + 1, hk => by rw [evS_succ, evS_succ, evS_mir hm h k (by omega), widths_mir hm h hk (by omega)]
set_option maxRecDepth 100000 in
/-- slices.Reverse turns a list in its row round. -/
theorem Reverse_ac (r ver : Nat) (c : List Int) (H : AH) (Q : AV → AH → Prop) (hr : Rw r ver H c) (hl : c.length ≤ 1000000)
    (h : ∀ (H' : AH), Rw r ver H' c.reverse → KeepX r H H' → Q (.tuple []) H') : AC Try.prog 55 [.slice (some r) 0 c.length ver 1 false] H Q := by
  refine L_body 28 Try.func55 rfl rfl ?_
  have hw : IntKind.i64.wrap ((c.length : Int) - 1) = (c.length : Int) - 1 := wrap_i64 (by omega)
  refine L_reg [0, 2, 3] (fun K hK => ?_)
  simp [hw]
  apply hK; clear hK K
  generalize hn : c.length = n at *
  refine L_block (L_loopV [2, 3] (fun k vs H' => ∃ (i : Nat) (d : List Int), k = n - i ∧ 2 * i ≤ n + 1 ∧ i ≤ n ∧ d.length = n ∧ (∀ x, x < n → g d x = if x < i ∨ n ≤ x + i then g c (n - 1 - x) else g c x) ∧ vs = [.int .i64 i, .int .i64 ((n : Int) - 1 - i)] ∧ Rw r ver H' d ∧ KeepX r H H') _ [.int .i64 0, .int .i64 ((n : Int) - 1)] rfl ⟨0, c, rfl, by omega, by omega, hn, fun x hx => by rw [if_neg (by omega)], by simp, hr, .refl r H⟩ ?_)
  rintro k _ H1 ⟨i, d, rfl, hi, hin, hdl, hd, rfl, hrow, hK⟩
  refine L_reg [0, 2, 3, 9] (fun K hK => ?_)
  simp
  apply hK; clear hK K
  refine L_dec ((i : Int) < (n : Int) - 1 - i) (by simp) (fun hlt => ?_) (fun hge => L_exit ?_)
  · obtain ⟨j, hj⟩ : ∃ j : Nat, n = i + 1 + j := ⟨n - i - 1, by omega⟩
    have hji : (n : Int) - 1 - i = (j : Int) := by omega
    have hx := hrow.ld (i := i) (by omega)
    have hy := hrow.ld (i := j) (by omega)
    obtain ⟨H2, H3, e1, e2, e3, e4⟩ := hrow.swap (i := i) (j := j) (by omega) (by omega)
    have g1 : i < n := by omega
    have g2 : j < n := by omega
    refine L_block ?_
    rw [hji]
    refine L_regT mixed [0, 2, 3] (by kernel_rfl) (fun K hK => ?_)
    simp [g1, g2, hx, hy, e1, e2]
    apply hK; clear hK K
    refine L_reg [0, 2, 3] (fun K hK => ?_)
    simp [wrap_i64 (a := (i : Int) + 1) (by omega), wrap_i64 (a := (j : Int) - 1) (by omega)]
    apply hK; clear hK K
    refine ⟨n - (i + 1), [.int .i64 (i + 1 : Nat), .int .i64 ((n : Int) - 1 - (i + 1 : Nat))], by omega, by simp; omega, i + 1, _, rfl, by omega, by omega, by rw [sw_len]; exact hdl, fun x hx => ?_, rfl, e3, hK.trans e4⟩
    rw [g_sw (by omega) (by omega)]
    by_cases e : x = j
    · subst e
      rw [if_pos rfl, if_pos (by omega), hd i (by omega), if_neg (by omega)]
      congr 1; omega
    · rw [if_neg e]
      by_cases e2 : x = i
      · subst e2
        rw [if_pos rfl, if_pos (by omega), hd j (by omega), if_neg (by omega)]
        congr 1; omega
      · rw [if_neg e2, hd x hx]
        by_cases h3 : x < i ∨ n ≤ x + i
        · rw [if_pos h3, if_pos (by omega)]
        · rw [if_neg h3, if_neg (by omega)]
  · have e : d = c.reverse := by
      apply List.ext_getElem (by simp; omega)
      intro x h1 h2
      have h3 := hd x (by omega)
      rw [List.getElem_reverse]
      rw [g_lt h1] at h3
      rw [h3]
      by_cases h4 : x < i ∨ n ≤ x + i
      · rw [if_pos h4, g_lt (by omega)]; simp only [hn]
      · rw [if_neg h4, g_lt (by omega)]
        congr 1; omega
    rw [e] at hrow
    exact ⟨.inl rfl, _, rfl, h H1 hrow hK⟩
end Go.Proofs.Ytjfmiohgkcjdnaa
