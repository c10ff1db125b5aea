/- The different numbers of a list, in ascending order. -/
import Derived.Test.YtjfmiohgkcjdnaaMf
import Derived.Test.YtjfmiohgkcjdnaaMc
namespace Go.Proofs.Ytjfmiohgkcjdnaa
open Go Go.Proofs.Ytjfmiohgkcjdnaa.AX

/-- The different ones of the first numbers of a sorted list. -/
def dqN (c : List Int) : Nat → List Int
  | 0 => []
  | n + 1 => if n = 0 ∨ g c n ≠ g c (n - 1) then dqN c n ++ [g c n] else dqN c n
theorem dqN_len (c : List Int) : ∀ n, (dqN c n).length ≤ n
  | 0 => by simp [dqN]
  | n + 1 => by
    have := dqN_len c n
    unfold dqN
    split <;> simp <;> omega
theorem dqN_mem {c : List Int} : ∀ {n} {x : Int}, x ∈ dqN c n ↔ ∃ i, i < n ∧ g c i = x
  | 0, x => by simp [dqN]
  | n + 1, x => by
    have ih := dqN_mem (c := c) (n := n) (x := x)
    unfold dqN
    split
    · rw [List.mem_append, ih]
      constructor
      · rintro (⟨i, hi, e⟩ | h)
        · exact ⟨i, by omega, e⟩
        · exact ⟨n, by omega, (List.mem_singleton.1 h).symm⟩
      · rintro ⟨i, hi, e⟩
        by_cases h : i = n
        · right; subst h; simp [e]
        · exact .inl ⟨i, by omega, e⟩
    · rename_i h
      rw [ih]
      constructor
      · rintro ⟨i, hi, e⟩; exact ⟨i, by omega, e⟩
      · rintro ⟨i, hi, e⟩
        by_cases h2 : i = n
        · subst h2
          exact ⟨i - 1, by omega, by have h3 : g c i = g c (i - 1) := Decidable.not_not.1 fun h4 => h (.inr h4)
                                     omega⟩
        · exact ⟨i, by omega, e⟩
theorem dqN_lt {c : List Int} (hs : ∀ i j, i < j → j < c.length → g c i ≤ g c j) : ∀ n, n ≤ c.length → (dqN c n).Pairwise (· < ·)
  | 0, _ => by simp [dqN]
  | n + 1, hn => by
    have ih := dqN_lt hs n (by omega)
    unfold dqN
    split
    · rename_i h
      rw [List.pairwise_append]
      refine ⟨ih, by simp, fun x hx y hy => ?_⟩
      obtain ⟨i, hi, e⟩ := dqN_mem.1 hx
      simp at hy
      rw [hy]
      have h1 := hs (n - 1) n (by omega) (by omega)
      have h3 : g c n ≠ g c (n - 1) := by
        rcases h with h | h
        · omega
        · exact h
      by_cases h2 : i = n - 1
      · rw [h2] at e; omega
      · have := hs i (n - 1) (by omega) (by omega); omega
    · exact ih
theorem clear_ints {r ver st i n : Nat} {c : List Int} {H : AH} (hr : H[r]? = some (.row (c.map (.int .i64)) ver st false)) (hn : c.length = n) (hi : i < n) (f : Bool) : aClear Try.prog H 36 (.slice (some r) i (n - i) ver 1 f) = some (H.set r (.row ((c.take i ++ List.replicate (n - i) (0 : Int)).map (.int .i64)) ver (min st i) false)) := by
  have hz := elz36
  unfold elZ at hz
  split at hz
  case h_2 => cases hz
  rename_i e he
  split at hz
  case h_2 => cases hz
  rename_i I hI
  split at hz
  case isFalse => cases hz
  rename_i hc
  split at hz
  case h_2 => cases hz
  rename_i z' hz'
  obtain rfl := Option.some.inj hz
  unfold aClear
  have hne : ¬ n - i = 0 := by omega
  have hrep : (List.range ((n - i) * 1)).map (fun j => (([AV.int .i64 0] : List AV)[j % 1]?).getD .undef) = List.replicate (n - i) (AV.int .i64 0) := by
    apply List.ext_getElem (by simp)
    intro j h1 h2
    simp [Nat.mod_one]
  have hk : (takeKnown (n - i) ((c.map (AV.int .i64)).drop i)).isSome = true := by
    have := takeKnown_row (l := (c.map (AV.int .i64)).drop i) (fun v hv => by
      obtain ⟨x, -, rfl⟩ := List.mem_map.1 (List.mem_of_mem_drop hv); simp) []
    rw [List.append_nil] at this
    rw [show ((c.map (AV.int .i64)).drop i).length = n - i by simp [hn]] at this
    rw [this]; rfl
  simp only [he, hI, isNilSl, slParts, hc.1, hz']
  obtain ⟨k, hk0⟩ : ∃ k, n - i = k + 1 := ⟨n - i - 1, by omega⟩
  rw [hk0] at hrep hk hne ⊢
  simp only [hne, if_false]
  have hstn : stn H r ver (List.replicate (k + 1) (AV.int .i64 0)) i = some (H.set r (.row ((c.take i ++ List.replicate (k + 1) (0 : Int)).map (.int .i64)) ver (min st i) false)) := by
    rw [List.replicate_succ]
    simp only [stn, hr]
    rw [if_pos ⟨trivial, trivial, by simp [AV.one], by simpa using hk⟩]
    have hd : (c.map (AV.int .i64)).drop (i + (AV.int .i64 0 :: List.replicate k (AV.int .i64 0)).length) = [] := List.drop_of_length_le (by simp; omega)
    rw [hd, ← List.replicate_succ]
    simp
  rw [← hrep] at hstn
  simpa using hstn
set_option maxRecDepth 100000 in
theorem Compact_ac (r ver st : Nat) (c : List Int) (n : Nat) (hn : c.length = n) (h1 : 1 ≤ n) (hl : n ≤ 1000000) (H : AH) (Q : AV → AH → Prop) (hr : H[r]? = some (.row (c.map (.int .i64)) ver st false)) (h : ∀ (f : Bool) H', Ls H' (.slice (some r) 0 (dqN c n).length ver 1 f) (dqN c n) → KeepX r H H' → Q (.slice (some r) 0 (dqN c n).length ver 1 f) H') : AC Try.prog 83 [.slice (some r) 0 n ver 1 false] H Q := by
  have hg : ∀ i, i < n → ld H r i ver = some (.int .i64 (g c i)) := fun i hi => (show Rw r ver H c from ⟨st, hr⟩).ld (by omega)
  have hself : Ls H (.slice (some r) 0 n ver 1 false) c := by
    have := Ls.row hr false
    rw [hn] at this; exact this
  refine L_body 61 Try.func83 rfl rfl ?_
  refine L_reg [0] (fun K hK => ?_)
  simp
  apply hK; clear hK K
  refine L_reg [0, 8] (fun K hK => ?_)
  simp
  apply hK; clear hK K
  refine L_dec ((n : Int) < 2) (by simp) (fun h2 => ?_) (fun h2 => ?_)
  · have hn1 : n = 1 := by omega
    have hd : dqN c n = c := by
      subst hn1
      obtain ⟨x, rfl⟩ : ∃ x, c = [x] := by
        match c, hn with
        | [x], _ => exact ⟨x, rfl⟩
      simp [dqN, g]
    rw [hd, hn] at h
    refine L_reg [2] (fun K hK => ?_)
    simp
    apply hK; clear hK K
    exact L_ret ⟨.inr rfl, _, rfl, h false H hself (.refl r H)⟩
  refine L_reg [0, 3] (fun K hK => ?_)
  simp
  apply hK; clear hK K
  refine L_block (L_loopV [3] (fun k vs H' => ∃ i : Nat, k = n - i ∧ 1 ≤ i ∧ i ≤ n ∧ dqN c i = c.take i ∧ vs = [.int .i64 i] ∧ H = H') _ [.int .i64 1] rfl ⟨1, rfl, by omega, by omega, ?_, rfl, rfl⟩ ?_)
  · cases c with
    | nil => simp at hn; omega
    | cons x l => simp [dqN, g]
  rintro k _ _ ⟨i, rfl, hi1, hi, hdq, rfl, rfl⟩
  refine L_reg [0, 3, 13] (fun K hK => ?_)
  simp
  apply hK; clear hK K
  refine L_dec (i < n) (by simp) (fun hlt => ?_) (fun hge => L_exit ?_)
  · refine L_block ?_
    have e1 := hg i hlt
    have e2 := hg (i - 1) (by omega)
    refine L_regQ mixed [0, 3, 25] (by kernel_rfl) (fun K hK => ?_)
    simp [hlt, e1, e2, wrap_i64 (a := (i : Int) - 1) (by omega), show ((i : Int) - 1).toNat = i - 1 by omega, show (1 : Int) ≤ i by omega, show (i : Int) - 1 < n by omega]
    apply hK; clear hK K
    by_cases he : g c i = g c (i - 1)
    · refine L_true (by simp [he]) ?_
      have hsl := slice_lo (P := Try.prog) (t := 36) slz36 (some r) 0 n ver false (k := .i64) (i := i) (by omega)
      refine L_reg [0, 3, 4] (fun K hK => ?_)
      simp [hsl]
      apply hK; clear hK K
      refine L_reg [0, 3, 4, 5] (fun K hK => ?_)
      simp
      apply hK; clear hK K
      have hdq1 : dqN c (i + 1) = dqN c i := by
        show (if i = 0 ∨ g c i ≠ g c (i - 1) then dqN c i ++ [g c i] else dqN c i) = _
        rw [if_neg (by omega)]
      have hlen0 : (dqN c (i + 1)).length = i := by rw [hdq1, hdq]; simp; omega
      refine L_block (L_loopV [3, 5] (fun k' vs H' => ∃ (k i2 st2 : Nat) (d : List Int), k' = n - i - k ∧ 1 ≤ k ∧ k ≤ n - i ∧ d.length = n ∧ H'[r]? = some (.row (d.map (.int .i64)) ver st2 false) ∧ (dqN c (i + k)).length = i2 ∧ i2 ≤ i + k - 1 ∧ d.take i2 = dqN c (i + k) ∧ (∀ j, i + k - 1 ≤ j → j < n → g d j = g c j) ∧ vs = [.int .i64 i2, .int .i64 k] ∧ KeepX r H H') _ [.int .i64 i, .int .i64 1] rfl ⟨1, i, st, c, rfl, by omega, by omega, hn, hr, hlen0, by omega, by rw [hdq1, hdq], fun j _ _ => rfl, rfl, .refl r H⟩ ?_)
      rintro k' _ H1 ⟨k, i2, st2, d, rfl, hk1, hk, hdn, hrow, hi2, hi2k, htk, hrest, rfl, hK⟩
      refine L_reg [0, 3, 4, 5, 32] (fun K hK => ?_)
      simp [show ((n - i : Nat) : Int) = (n : Int) - i by omega]
      apply hK; clear hK K
      refine L_dec ((k : Int) < (n : Int) - i) (by simp) (fun hlt2 => ?_) (fun hge2 => L_exit ?_)
      · refine L_block ?_
        have hRw : Rw r ver H1 d := ⟨st2, hrow⟩
        have f1 := hRw.ld (i := i + k) (by omega)
        have f2 := hRw.ld (i := i + (k - 1)) (by omega)
        rw [hrest _ (by omega) (by omega)] at f1 f2
        have hsucc : dqN c (i + k + 1) = if i + k = 0 ∨ g c (i + k) ≠ g c (i + k - 1) then dqN c (i + k) ++ [g c (i + k)] else dqN c (i + k) := rfl
        rw [show i + k - 1 = i + (k - 1) by omega] at hsucc
        refine L_regQ mixed [0, 3, 4, 5, 44] (by kernel_rfl) (fun K hK => ?_)
        simp [f1, f2, wrap_i64 (a := (k : Int) - 1) (by omega), show ((k : Int) - 1).toNat = k - 1 by omega, show (1 : Int) ≤ k by omega, show (k : Int) - 1 < (n : Int) - i by omega, show ((n - i : Nat) : Int) = (n : Int) - i by omega, hlt2]
        apply hK; clear hK K
        by_cases he2 : g c (i + k) = g c (i + (k - 1))
        · rw [if_neg (by omega)] at hsucc
          refine L_false (by simp [he2]) ?_
          refine L_reg [0, 3, 4, 5] (fun K hK => ?_)
          simp [wrap_i64 (a := (k : Int) + 1) (by omega)]
          apply hK; clear hK K
          exact ⟨n - i - (k + 1), [.int .i64 i2, .int .i64 ((k + 1 : Nat) : Int)], by omega, by simp, k + 1, i2, st2, d, rfl, by omega, by omega, hdn, hrow, by rw [← hi2]; exact congrArg List.length hsucc, by omega, by rw [htk]; exact hsucc.symm, fun j j1 j2 => hrest j (by omega) j2, rfl, hK⟩
        · rw [if_pos (.inr he2)] at hsucc
          refine L_true (by simp [he2]) ?_
          have hst := store_row (P := Try.prog) (u := 3) (p := i2) sc3 (x := .int .i64 (g c (i + k))) (y := .int .i64 (g d i2)) rfl hrow (by rw [List.getElem?_map, List.getElem?_eq_getElem (by omega), g_lt (by omega)]; rfl)
          rw [← List.map_set] at hst
          have hrow2 := get_set (o' := AObj.row ((d.set i2 (g c (i + k))).map (AV.int .i64)) ver (min st2 i2) false) hrow
          have hKs := hK.set (AObj.row ((d.set i2 (g c (i + k))).map (AV.int .i64)) ver (min st2 i2) false)
          generalize H1.set r (AObj.row ((d.set i2 (g c (i + k))).map (AV.int .i64)) ver (min st2 i2) false) = Hs at hst hrow2 hKs
          refine L_reg [0, 3, 4, 5] (fun K hK => ?_)
          simp [f1, hst, show ((n - i : Nat) : Int) = (n : Int) - i by omega, hlt2, show (i2 : Int) < n by omega]
          apply hK; clear hK K
          refine L_reg [0, 3, 4, 5] (fun K hK => ?_)
          simp [wrap_i64 (a := (i2 : Int) + 1) (by omega)]
          apply hK; clear hK K
          refine L_reg [0, 3, 4, 5] (fun K hK => ?_)
          simp [wrap_i64 (a := (k : Int) + 1) (by omega)]
          apply hK; clear hK K
          refine ⟨n - i - (k + 1), [.int .i64 ((i2 + 1 : Nat) : Int), .int .i64 ((k + 1 : Nat) : Int)], by omega, by simp, k + 1, i2 + 1, min st2 i2, d.set i2 (g c (i + k)), rfl, by omega, by omega, by simpa using hdn, hrow2, by rw [show i + (k + 1) = i + k + 1 by omega, hsucc]; simp [hi2], by omega, ?_, fun j j1 j2 => ?_, rfl, hKs⟩
          · rw [show i + (k + 1) = i + k + 1 by omega, hsucc, ← htk, List.set_eq_take_append_cons_drop, if_pos (by omega), List.take_append, List.length_take, Nat.min_eq_left (by omega), show i2 + 1 - i2 = 1 by omega, List.take_of_length_le (by simp; omega)]
            rfl
          · have := hrest j (by omega) j2
            rw [← this]
            simp [g, List.getD_eq_getElem?_getD, List.getElem?_set_ne (show i2 ≠ j by omega)]
      · have hkn : i + k = n := by omega
        rw [hkn] at hi2 htk
        have hcl := clear_ints hrow hdn (i := i2) (by omega) false
        have hsl2 := slice_lo (P := Try.prog) (t := 36) slz36 (some r) 0 n ver false (k := .i64) (i := i2) (by omega)
        have hsl3 := slice_hi (P := Try.prog) (t := 36) slz36 (some r) 0 n ver false (k := .i64) (i := i2) (by omega)
        simp only [Nat.zero_add, Nat.mul_one] at hsl2
        have hrow3 := get_set (o' := AObj.row ((d.take i2 ++ List.replicate (n - i2) (0 : Int)).map (AV.int .i64)) ver (min st2 i2) false) hrow
        have hK5 := hK.set (AObj.row ((d.take i2 ++ List.replicate (n - i2) (0 : Int)).map (AV.int .i64)) ver (min st2 i2) false)
        generalize H1.set r (AObj.row ((d.take i2 ++ List.replicate (n - i2) (0 : Int)).map (AV.int .i64)) ver (min st2 i2) false) = H5 at hcl hrow3 hK5
        refine L_reg [0, 3] (fun K hK => ?_)
        simp [hsl2, hcl]
        apply hK; clear hK K
        refine L_reg [2] (fun K hK => ?_)
        simp [hsl3]
        apply hK; clear hK K
        rw [hi2] at h
        have hLs : Ls H5 (.slice (some r) 0 i2 ver 1 false) (dqN c n) := by
          refine ⟨some r, 0, ver, 1, false, by rw [hi2], fun j hj => ⟨r, rfl, rfl, ?_⟩⟩
          rw [ld_row hrow3, Nat.zero_add, List.getElem?_map, htk, List.getElem?_append_left hj, List.getElem?_eq_getElem hj]
          rfl
        exact L_ret ⟨.inr rfl, _, rfl, by simpa using h false H5 hLs hK5⟩
    · refine L_false (by simp [he]) ?_
      refine L_reg [0, 3] (fun K hK => ?_)
      simp [wrap_i64 (a := (i : Int) + 1) (by omega)]
      apply hK; clear hK K
      refine ⟨n - (i + 1), [.int .i64 ((i + 1 : Nat) : Int)], by omega, by simp, i + 1, rfl, by omega, by omega, ?_, rfl, rfl⟩
      show (if i = 0 ∨ g c i ≠ g c (i - 1) then dqN c i ++ [g c i] else dqN c i) = _
      rw [if_pos (.inr he), hdq, List.take_add_one, List.getElem?_eq_getElem (by omega), g_lt (by omega)]
      rfl
  · have hin : i = n := by omega
    have hd : dqN c n = c := by rw [← hin, hdq, List.take_of_length_le (by omega)]
    rw [hd, hn] at h
    refine L_reg [2] (fun K hK => ?_)
    simp
    apply hK; clear hK K
    exact L_ret ⟨.inr rfl, _, rfl, h false H hself (.refl r H)⟩
end Go.Proofs.Ytjfmiohgkcjdnaa

/- Gaps have at most three widths: WrapThree, walked. -/
namespace Go.Proofs.Ytjfmiohgkcjdnaa
open Go Go.Proofs.Ytjfmiohgkcjdnaa.AX

theorem kinds_ac (l : List Int) (v : AV) (hone : v.one = true) (H : AH) (Q : AV → AH → Prop) (h1 : 1 ≤ l.length) (hlen : l.length ≤ 127) (hv : Ls H v l)
    (h : ∀ r ver f H' (K : List Int), K.Pairwise (· < ·) → (∀ x, x ∈ K ↔ x ∈ l) → Ls H' (.slice (some r) 0 K.length ver 1 f) K → Ext H H' → Q (.slice (some r) 0 K.length ver 1 f) H') : AC Try.prog 47 [v] H Q := by
  refine L_body 7 Try.func47 rfl rfl ?_
  refine L_reg [0] (fun K hK => ?_)
  simp
  apply hK; clear hK K
  refine L_reg [2] (fun K hK => ?_)
  simp [okFn_low]
  refine values_ac v hone _ _ ?_
  have hE3 := Ext.push H [AObj.row [v] 0 0 false]
  have hrow : (H ++ [AObj.row [v] 0 0 false])[H.length]? = some (.row [v] 0 0 false) := by simp
  have hL1 := hv.ext hE3
  generalize H ++ [AObj.row [v] 0 0 false] = H3 at hE3 hrow hL1 ⊢
  simp [okFn_low]
  refine Sorted_ac l v H.length H3 _ h1 hlen hrow hL1 (fun v2 H4 M hp hs hO4 hE4 => ?_)
  have hml := hp.length_eq
  rcases hO4 with ⟨g1, -⟩ | ⟨r, ver, st, g1, rfl, g3⟩
  · have : M = [] := by simpa using g1
    subst this; simp at hml; omega
  rw [List.length_map]
  have hsg : ∀ i j, i < j → j < M.length → g M i ≤ g M j := fun i j hij hj => by
    rw [g_lt (by omega), g_lt hj]
    exact List.pairwise_iff_getElem.1 hs i j (by omega) hj hij
  have hlt := dqN_lt hsg M.length (Nat.le_refl _)
  have hmem : ∀ x, x ∈ dqN M M.length ↔ x ∈ l := fun x => by
    rw [dqN_mem, ← hp.mem_iff]
    constructor
    · rintro ⟨i, hi, e⟩
      rw [g_lt hi] at e
      rw [← e]; exact List.getElem_mem hi
    · intro hx
      obtain ⟨i, hi, e⟩ := List.mem_iff_getElem.1 hx
      exact ⟨i, hi, by rw [g_lt hi]; exact e⟩
  simp [okFn_low]
  refine Compact_ac r ver st M M.length rfl (by omega) (by omega) H4 _ g3 (fun f H5 hL5 hK5 => ?_)
  simp
  apply hK; clear hK K
  exact L_ret ⟨.inr rfl, _, rfl, h r ver f H5 _ hlt hmem hL5 ⟨by have := hE3.1; have := hE4.1; have := hK5.1; omega, fun j hj => by rw [hK5.2 j (by have := hE3.1; omega) (by have := hE3.1; have := hE4.1; omega), hE4.2 j (by have := hE3.1; omega), hE3.2 j hj]⟩⟩
theorem Contains_ac (v : AV) (l : List Int) (x : Int) (H : AH) (Q : AV → AH → Prop) (hlen : l.length ≤ 1000000) (hv : Ls H v l) (h : Q (.bool (decide (x ∈ l))) H) : AC Try.prog 48 [v, .int .i64 x] H Q := by
  refine L_body 9 Try.func48 rfl rfl ?_
  refine L_reg [0, 1] (fun K hK => ?_)
  simp
  apply hK; clear hK K
  refine L_reg [4] (fun K hK => ?_)
  simp [okFn_low]
  refine Index_ac v l x H _ hlen hv (fun i hi _ => ?_) (fun hno => ?_)
  · have hx : x ∈ l := List.mem_of_getElem? hi
    simp
    apply hK; clear hK K
    exact L_ret ⟨.inr rfl, _, rfl, by simpa [hx] using h⟩
  · simp
    apply hK; clear hK K
    exact L_ret ⟨.inr rfl, _, rfl, by simpa [hno] using h⟩
theorem sortedI_ext : ∀ {l m : List Int}, l.Pairwise (· < ·) → m.Pairwise (· < ·) → (∀ z, z ∈ l ↔ z ∈ m) → l = m
  | [], [], _, _, _ => rfl
  | [], y :: m, _, _, h => by have := (h y).2 (by simp); simp at this
  | x :: l, [], _, _, h => by have := (h x).1 (by simp); simp at this
  | x :: l, y :: m, hl, hm, h => by
    obtain ⟨a1, a2⟩ := List.pairwise_cons.1 hl
    obtain ⟨b1, b2⟩ := List.pairwise_cons.1 hm
    have hxy : x = y := by
      rcases List.mem_cons.1 ((h x).1 (by simp)) with e | e
      · exact e
      · rcases List.mem_cons.1 ((h y).2 (by simp)) with e2 | e2
        · exact e2.symm
        · have := b1 x e; have := a1 y e2; omega
    subst hxy
    rw [sortedI_ext a2 b2 fun z => ?_]
    have := h z
    simp only [List.mem_cons] at this
    constructor
    · intro hz
      rcases this.1 (.inr hz) with e | e
      · have := a1 z hz; omega
      · exact e
    · intro hz
      rcases this.2 (.inr hz) with e | e
      · have := b1 z hz; omega
      · exact e
def kindW (m s t : Nat) : List Int := (widthsS m s t).map fun p => (p.1 : Int)
theorem widN_mem (L : List Int) : ∀ k (w : Nat), (∃ c, (w, c) ∈ widN L k) ↔ w < k ∧ (w : Int) ∈ L
  | 0, w => by simp [widN]
  | k + 1, w => by
    have ih := widN_mem L k w
    rw [widN_succ]
    by_cases h : 0 < L.count (k : Int)
    · rw [if_pos h]
      simp only [List.mem_append, List.mem_singleton, Prod.mk.injEq]
      constructor
      · rintro ⟨c, h1 | ⟨rfl, -⟩⟩
        · have := ih.1 ⟨c, h1⟩; exact ⟨by omega, this.2⟩
        · exact ⟨by omega, List.count_pos_iff.1 h⟩
      · rintro ⟨h1, h2⟩
        by_cases e : w = k
        · subst e; exact ⟨_, .inr ⟨rfl, rfl⟩⟩
        · obtain ⟨c, hc⟩ := ih.2 ⟨by omega, h2⟩
          exact ⟨c, .inl hc⟩
    · rw [if_neg h, ih]
      constructor
      · rintro ⟨h1, h2⟩; exact ⟨by omega, h2⟩
      · rintro ⟨h1, h2⟩
        refine ⟨?_, h2⟩
        by_cases e : w = k
        · subst e; exact absurd (List.count_pos_iff.2 h2) h
        · omega
theorem widN_fst (L : List Int) : ∀ k, ((widN L k).map fun p => p.1).Pairwise (· < ·) ∧ ∀ p ∈ widN L k, p.2 = L.count (p.1 : Int)
  | 0 => by simp [widN]
  | k + 1 => by
    obtain ⟨h1, h2⟩ := widN_fst L k
    rw [widN_succ]
    by_cases h : 0 < L.count (k : Int)
    · rw [if_pos h]
      refine ⟨?_, fun p hp => ?_⟩
      · rw [List.map_append, List.pairwise_append]
        refine ⟨h1, by simp, fun x hx y hy => ?_⟩
        obtain ⟨⟨w, c⟩, hp, rfl⟩ := List.mem_map.1 hx
        have := ((widN_mem L k w).1 ⟨c, hp⟩).1
        simp at hy
        rw [hy]; exact this
      · rcases List.mem_append.1 hp with hp | hp
        · exact h2 p hp
        · simp at hp; rw [hp]
    · rw [if_neg h]; exact ⟨h1, h2⟩
theorem kindW_eq {m s t : Nat} (h2 : m ≤ 100) {K : List Int} (hK : K.Pairwise (· < ·)) (hm : ∀ x, x ∈ K ↔ x ∈ gapsS m s t) : K = kindW m s t := by
  have hb := gapsS_bound (m := m) (s := s) (t := t)
  refine sortedI_ext hK ?_ (fun z => ?_)
  · have := (widN_fst (gapsS m s t) 101).1
    rw [List.pairwise_map] at this
    unfold kindW
    rw [List.pairwise_map]
    exact this.imp fun h => by omega
  · rw [hm]
    simp only [kindW, List.mem_map]
    constructor
    · intro hz
      have := hb z hz
      obtain ⟨w, rfl⟩ : ∃ w : Nat, z = w := ⟨z.toNat, by omega⟩
      obtain ⟨c, hc⟩ := (widN_mem (gapsS m s t) 101 w).2 ⟨by omega, hz⟩
      exact ⟨(w, c), hc, rfl⟩
    · rintro ⟨⟨w, c⟩, hp, rfl⟩
      exact ((widN_mem (gapsS m s t) 101 w).1 ⟨c, hp⟩).2
theorem three {K : List Int} {A B : Int} (hA : 0 < A) (hB : 0 < B) (hK : K.Pairwise (· < ·)) (h : ∀ x ∈ K, x = A ∨ x = B ∨ x = A + B) : K.length ≤ 3 ∧ (K.length = 3 → ∃ a b c, K = [a, b, c] ∧ c = a + b) := by
  match K, hK, h with
  | [], _, _ => exact ⟨by simp, fun h => by simp at h⟩
  | [a], _, _ => exact ⟨by simp, fun h => by simp at h⟩
  | [a, b], _, _ => exact ⟨by simp, fun h => by simp at h⟩
  | [a, b, c], hK, h =>
    refine ⟨by simp, fun _ => ⟨a, b, c, rfl, ?_⟩⟩
    have h1 := h a (by simp)
    have h2 := h b (by simp)
    have h3 := h c (by simp)
    simp at hK
    omega
  | a :: b :: c :: d :: l, hK, h =>
    exfalso
    have h1 := h a (by simp)
    have h2 := h b (by simp)
    have h3 := h c (by simp)
    have h4 := h d (by simp)
    simp at hK
    omega
theorem three_gaps {m s t : Nat} (hm : 0 < m) (h1 : 1 ≤ t) (ht : t ≤ per m s) {K : List Int} (hK : K.Pairwise (· < ·)) (h : ∀ x, x ∈ K ↔ x ∈ gapsS m s t) : K.length ≤ 3 ∧ (K.length = 3 → ∃ a b c, K = [a, b, c] ∧ c = a + b) := by
  by_cases h2 : 2 ≤ t
  · obtain ⟨a, b, hab⟩ := exists_ab m s hm h2
    have xb := X_lt (s := s) hm b
    refine three (A := ((a * s % m : Nat) : Int)) (B := ((m - b * s % m : Nat) : Int)) (by have := hab.pos hm ht; omega) (by omega) hK (fun x hx => ?_)
    obtain ⟨k, -, rfl⟩ := (hab.gaps hm ht x).1 ((h x).1 hx)
    unfold wd
    split
    · left; rfl
    · split
      · right; left; rfl
      · right; right; omega
  · have : t = 1 := by omega
    subst this
    refine three (A := (m : Int)) (B := (m : Int)) (by omega) (by omega) hK (fun x hx => ?_)
    have hx := (h x).1 hx
    have hgl := gapsS_len hm ht
    obtain ⟨i, hi, e⟩ := List.mem_iff_getElem.1 hx
    have hi0 : i = 0 := by omega
    subst hi0
    have g0 := gapsS_get hm ht (Nat.lt_succ_self 0)
    rw [if_neg (by omega), mkR_zero hm ht (Nat.le_refl _), List.getElem?_eq_getElem hi, e] at g0
    have := Option.some.inj g0
    left; omega
theorem mem_evS {m s k : Nat} {x : Int} : x ∈ evS m s k ↔ ∃ t : Nat, x = t ∧ 1 ≤ t ∧ t ≤ k ∧ (widthsS m s t).length ≤ 2 := by
  unfold evS
  simp only [List.mem_map, List.mem_filter, List.mem_range, decide_eq_true_eq]
  constructor
  · rintro ⟨a, ⟨h1, h2⟩, rfl⟩; exact ⟨a + 1, by omega, by omega, by omega, h2⟩
  · rintro ⟨t, rfl, h1, h2, h3⟩
    exact ⟨t - 1, ⟨by omega, by rw [show t - 1 + 1 = t by omega]; exact h3⟩, by omega⟩
theorem evS_lt (m s k : Nat) : (evS m s k).Pairwise (· < ·) := by
  unfold evS
  rw [List.pairwise_map]
  exact ((List.pairwise_lt_range (n := k)).sublist List.filter_sublist).imp fun h => by omega
end Go.Proofs.Ytjfmiohgkcjdnaa

/- WrapThree, walked. -/
namespace Go.Proofs.Ytjfmiohgkcjdnaa
open Go Go.Proofs.Ytjfmiohgkcjdnaa.AX

theorem zt57 : zeroT Try.prog 57 = some [.int .i64 0, .int .i64 0] := by kernel_rfl
theorem new57 (H : AH) (a b : Int) : storeV Try.prog 57 (H ++ [AObj.row [.int .i64 0, .int .i64 0] 0 0 false]) (.ptr H.length 0 0) (.agg [.int .i64 a, .int .i64 b]) = some (none, H ++ [.row [.int .i64 a, .int .i64 b] 0 0 false]) := by
  rw [store_agg ag57 (c := [.int .i64 0, .int .i64 0]) (s := 0) (by simp) (by decide) rfl (by simp) rfl (by simp [AV.one])]
  simp
theorem neqB (l a b : Bool) : binV Try.prog .neq 4 l (.bool a) (.bool b) = some (.bool (a != b)) := by cases l <;> cases a <;> cases b <;> kernel_rfl
set_option maxHeartbeats 1600000 in
set_option maxRecDepth 100000 in
theorem wrapThree_ac (a b c : Nat) (ha : a < 256) (hb : b < 256) (hc : c < 256) (H : AH) : AC Try.prog 7 [.agg [.int .u8 a, .int .u8 b, .int .u8 c]] H fun u _ => u = .bool true := by
  refine L_body 161 Try.func7 rfl rfl ?_
  obtain ⟨H1, e, hE, hl1, r1, l0, l1, l2, la⟩ := box3u H a b c
  refine L_reg [1] (fun K hK => ?_)
  simp [AV.isU, acells]
  apply hK; clear hK K
  rw [e]
  have hm := mM_ok a
  have hs := mS_ok a b
  have ht := mT_ok a b c
  refine L_reg [3] (fun K hK => ?_)
  simp [okFn_low, la]
  refine made_ac a b c ha hb hc _ _ ?_
  generalize mM a = m at *
  generalize mS a b = s at *
  generalize mT a b c = t at *
  simp [alloc_z zt23, newW, WV]
  apply hK; clear hK K
  obtain ⟨H2, e2, hE2, hl2, r2, bx⟩ := box3 H1 m s t
  rw [e2]
  generalize hp : H1.length = p at *
  have hm0 : 0 < m := by omega
  have hmne : m ≠ 0 := by omega
  have hpm := per_le m s
  have hck1 : checkE m s t = 0 := checkE_ok hm.1 hm.2 hs ht.1 ht.2
  have hcz : circleE m s = 0 := by unfold circleE; rw [if_neg (by omega)]
  have hgl := gapsS_len (m := m) (s := s) hm0 ht.2
  have hb := gapsS_bound (m := m) (s := s) (t := t)
  refine L_reg [3, 4] (fun K hK => ?_)
  simp [okFn_low, bx.la]
  refine lgaps_ac m s t hm.1 hm.2 hs ht.1 ht.2 _ _ (fun v1 H3 hO1 hE3 => ?_)
  simp
  apply hK; clear hK K
  have bx3 := bx.ext hE3
  have hL1 := hO1.own.ls
  obtain ⟨r1', ver1, hv1⟩ := hO1.len
  rw [List.length_map, hgl] at hv1
  subst hv1
  clear hO1
  refine L_reg [3, 4, 5] (fun K hK => ?_)
  simp [okFn_low]
  refine kinds_ac _ _ rfl _ _ (by omega) (by omega) hL1 (fun r5 ver5 f5 H4 Kd hKs hKm hL5 hE4 => ?_)
  simp
  apply hK; clear hK K
  obtain ⟨h3a, h3b⟩ := three_gaps hm0 ht.1 ht.2 hKs hKm
  have hKe := kindW_eq hm.2 hKs hKm
  have bx4 := bx3.ext hE4
  have hL1 := hL1.ext hE4
  have hkl : Kd.length = (widthsS m s t).length := by rw [hKe]; simp [kindW]
  refine L_regQ mixed [3, 4, 5, 45] (by kernel_rfl) (fun K hK => ?_)
  suffices hS : K [(3, .ptr p 0 0), (4, .slice r1' 0 t ver1 1 false), (5, .slice (some r5) 0 Kd.length ver5 1 f5), (45, .bool false)] H4 by
    have hle : ¬ ((3 : Int) < Kd.length) := by omega
    by_cases hk3 : Kd.length = 3
    · obtain ⟨x, y, z, hxyz, hz⟩ := h3b hk3
      have hb3 : ((Kd.length : Int) == 3) = true := by simp [hk3]
      obtain ⟨q5, off5, w5, s5, g5, he5, hld5⟩ := id hL5
      cases he5
      obtain ⟨q, hq, -, l0'⟩ := hld5 0 (by omega)
      cases hq
      obtain ⟨q, hq, -, l1'⟩ := hld5 1 (by omega)
      cases hq
      obtain ⟨q, hq, -, l2'⟩ := hld5 2 (by omega)
      cases hq
      have x0 : Kd[0]'(by omega) = x := by simp [hxyz]
      have x1 : Kd[1]'(by omega) = y := by simp [hxyz]
      have x2 : Kd[2]'(by omega) = z := by simp [hxyz]
      rw [x0] at l0'
      rw [x1] at l1'
      rw [x2] at l2'
      simp only [Nat.zero_add, Nat.add_zero] at l0' l1' l2'
      have m0 := hb x ((hKm x).1 (by rw [hxyz]; simp))
      have m1 := hb y ((hKm y).1 (by rw [hxyz]; simp))
      simp [pickV, hle, hb3, l0', l1', l2', show (1 : Int) < Kd.length by omega, show (2 : Int) < Kd.length by omega, show 0 < Kd.length by omega, wrap_i64 (a := x + y) (by omega), hz]
      exact hS
    · have hb3 : ((Kd.length : Int) == 3) = false := by simp; omega
      simp [pickV, hle, hb3]
      exact hS
  apply hK; clear hK K
  refine L_false (by simp) ?_
  refine L_reg [3, 4, 5, 6, 7] (fun K hK => ?_)
  simp [okFn_low, bx4.la]
  refine Gaps_ac m s t _ _ (fun v6 H5 hO6 hE5 => ?_)
  rw [hck1]
  simp
  apply hK; clear hK K
  have bx5 := bx4.ext hE5
  have hL1 := hL1.ext hE5
  have hL5 := hL5.ext hE5
  have G1 : gapsR m s t = gapsS m s t := by unfold gapsR; rw [if_pos hck1]; rfl
  have W1 : widthsR m s t = widthsS m s t := by unfold widthsR; rw [if_pos hck1]; rfl
  have E1 : evensR m s = evS m s (per m s) := by unfold evensR; rw [if_pos hcz]; rfl
  rw [G1] at hO6
  have hL6 := hO6.own.ls
  clear hO6
  refine L_reg [3, 4, 5, 6, 7, 8, 9] (fun K hK => ?_)
  simp [okFn_low, bx5.la]
  refine Widths_ac m s t _ _ (fun v8 H6 hO8 hE6 => ?_)
  rw [hck1]
  simp
  apply hK; clear hK K
  have bx6 := bx5.ext hE6
  have hL1 := hL1.ext hE6
  have hL5 := hL5.ext hE6
  have hL6 := hL6.ext hE6
  rw [W1] at hO8
  have hR8 := hO8.rs
  obtain ⟨r8, ver8, sz8, hv8⟩ := hO8.len
  have hpl : (prs (widthsS m s t)).length = Kd.length := by rw [hkl]; simp [prs]
  rw [hpl] at hv8
  subst hv8
  clear hO8
  refine L_reg [3, 4, 5, 6, 7, 8, 9, 10, 11] (fun K hK => ?_)
  simp [okFn_low, bx6.l0, bx6.l1]
  refine Evens_ac m s _ _ (fun v10 H7 hO10 hE7 => ?_)
  rw [hcz]
  simp
  apply hK; clear hK K
  have bx7 := bx6.ext hE7
  have hL1 := hL1.ext hE7
  have hL5 := hL5.ext hE7
  have hL6 := hL6.ext hE7
  have hR8 := hR8.ext hE7
  rw [E1] at hO10
  have hL10 := hO10.own.ls
  have hel := evS_len m s (per m s)
  obtain ⟨r10, ver10, hv10⟩ := hO10.len
  rw [List.length_map] at hv10
  subst hv10
  clear hO10
  have hdec : decide ((t : Int) ∈ evS m s (per m s)) = decide ((Kd.length : Int) < 3) := by
    rw [decide_eq_decide, mem_evS]
    constructor
    · rintro ⟨t', e', -, -, h⟩
      have : t' = t := by omega
      subst this; omega
    · intro h
      exact ⟨t, rfl, ht.1, ht.2, by omega⟩
  refine L_reg [3, 4, 5, 8, 10, 96] (fun K hK => ?_)
  simp [okFn_low, pickV]
  refine same_ac _ _ _ _ H7 _ (by omega) hL6 hL1 ?_
  simp [okFn_low, pickV, bx7.l2]
  refine Contains_ac _ _ _ H7 _ (by omega) hL10 ?_
  rw [hdec]
  simp [pickV, neqB]
  apply hK; clear hK K
  refine L_false (by simp) ?_
  refine L_reg [3, 4, 5, 10, 97, 98, 99] (fun K hK => ?_)
  simp
  apply hK; clear hK K
  have hwf := (widN_fst (gapsS m s t) 101).2
  have hwg : ∀ i (h : i < Kd.length), ∃ w : Nat, Kd[i] = (w : Int) ∧ (prs (widthsS m s t))[i]? = some [.int .i64 w, .int .i64 ((gapsS m s t).count (w : Int) : Nat)] := fun i h => by
    have hi : i < (widthsS m s t).length := by omega
    refine ⟨((widthsS m s t)[i]).1, ?_, ?_⟩
    · simp [hKe, kindW]
    · have := hwf _ (List.getElem_mem (l := widthsS m s t) hi)
      simp only [prs, List.getElem?_map, List.getElem?_eq_getElem hi, Option.map_some]
      rw [this]
  refine L_block (L_loopV [99] (fun n vs H' => ∃ i : Nat, n = Kd.length - i ∧ i ≤ Kd.length ∧ vs = [.int .i64 i] ∧ Ext H7 H') _ [.int .i64 0] rfl ⟨0, rfl, by omega, rfl, .refl _⟩ ?_)
  rintro n _ H8 ⟨i, rfl, hi, rfl, hE8⟩
  have bx8 := bx7.ext hE8
  have hL1 := hL1.ext hE8
  have hL5 := hL5.ext hE8
  have hR8 := hR8.ext hE8
  have hL10 := hL10.ext hE8
  refine L_reg [3, 4, 5, 10, 97, 98, 99, 100] (fun K hK => ?_)
  simp
  apply hK; clear hK K
  refine L_dec (i < Kd.length) (by simp) (fun hlt => ?_) (fun hge => L_exit ?_)
  · refine L_block ?_
    obtain ⟨w, hw1, hw2⟩ := hwg i hlt
    obtain ⟨q8, off8, wv8, s8, g8, he8, hld8⟩ := hR8
    rw [hpl] at he8
    cases he8
    obtain ⟨q, rfl, rfl, hrd8⟩ := hld8 i (by omega)
    have hw3 : (prs (widthsS m s t))[i]'(by omega) = [.int .i64 w, .int .i64 ((gapsS m s t).count (w : Int) : Nat)] := by
      rw [List.getElem?_eq_getElem (by omega)] at hw2
      exact Option.some.inj hw2
    rw [hw3] at hrd8
    simp only [Nat.zero_add] at hrd8
    have hcl : (gapsS m s t).count (w : Int) ≤ t := Nat.le_trans List.count_le_length (by omega)
    generalize hcc : (gapsS m s t).count (w : Int) = cc at *
    refine L_reg [3, 4, 5, 10, 12, 13, 97, 98, 99] (fun K hK => ?_)
    simp [hrd8, hlt, alloc_z zt57, new57]
    apply hK; clear hK K
    have hE9 := Ext.push H8 [AObj.row [.int .i64 w, .int .i64 cc] 0 0 false]
    have r9 : (H8 ++ [AObj.row [.int .i64 w, .int .i64 cc] 0 0 false])[H8.length]? = some (.row [.int .i64 w, .int .i64 cc] 0 0 false) := by simp
    have bx9 := bx8.ext hE9
    have hL1 := hL1.ext hE9
    have hL5 := hL5.ext hE9
    have hE79 := hE8.trans hE9
    generalize H8.length = p8 at *
    generalize H8 ++ [AObj.row [.int .i64 w, .int .i64 cc] 0 0 false] = H9 at *
    have hl9 : ldn H9 p8 0 2 0 = some [.int .i64 w, .int .i64 cc] := by rw [ldn_row r9]; rfl
    obtain ⟨q5, off5, w5, s5, g5, he5, hld5⟩ := id hL5
    cases he5
    obtain ⟨q5', hq5, -, hrd5⟩ := hld5 i hlt
    cases hq5
    rw [hw1] at hrd5
    simp only [Nat.zero_add] at hrd5
    obtain ⟨q1, off1, w1, s1, g1, he1, hld1⟩ := id hL1
    rw [hgl] at he1
    cases he1
    refine L_reg [3, 4, 5, 10, 12, 13, 14, 97, 98, 99] (fun K hK => ?_)
    simp
    apply hK; clear hK K
    refine L_reg [3, 4, 5, 10, 12, 13, 14, 97, 98, 99, 104, 105, 106] (fun K hK => ?_)
    simp
    apply hK; clear hK K
    refine L_block (L_loopV [14, 106] (fun n vs H' => ∃ j : Nat, n = t - j ∧ j ≤ t ∧ vs = [.int .i64 (((gapsS m s t).take j).count (w : Int) : Nat), .int .i64 j] ∧ H9 = H') _ [.int .i64 0, .int .i64 0] rfl ⟨0, rfl, by omega, by simp, rfl⟩ ?_)
    rintro n _ _ ⟨j, rfl, hj, rfl, rfl⟩
    refine L_reg [3, 4, 5, 10, 12, 13, 14, 97, 98, 99, 104, 105, 106, 107] (fun K hK => ?_)
    simp
    apply hK; clear hK K
    have hcj : ((gapsS m s t).take j).count (w : Int) ≤ j := Nat.le_trans List.count_le_length (by simp; omega)
    refine L_dec (j < t) (by simp) (fun hlt2 => ?_) (fun hge2 => L_exit ?_)
    · refine L_block ?_
      obtain ⟨q1', rfl, -, hrd1⟩ := hld1 j (by omega)
      simp only [Nat.zero_add] at hrd1
      have hsu : ((gapsS m s t).take (j + 1)).count (w : Int) = ((gapsS m s t).take j).count (w : Int) + (if (gapsS m s t)[j]'(by omega) = (w : Int) then 1 else 0) := by
        rw [List.take_add_one, List.getElem?_eq_getElem (by omega), List.count_append]
        by_cases e : (gapsS m s t)[j]'(by omega) = (w : Int)
        · simp [e]
        · simp [e]
      generalize (gapsS m s t)[j]'(by omega) = x at hrd1 hsu
      generalize hc2 : ((gapsS m s t).take (j + 1)).count (w : Int) = c2 at hsu
      generalize ((gapsS m s t).take j).count (w : Int) = c1 at hsu hcj
      refine L_reg [3, 4, 5, 10, 12, 13, 14, 16, 97, 98, 99, 104, 105, 106] (fun K hK => ?_)
      simp [hrd1, hlt2]
      apply hK; clear hK K
      refine L_reg [3, 4, 5, 10, 12, 13, 14, 97, 98, 99, 104, 105, 106, 115] (fun K hK => ?_)
      simp [hrd5, hlt]
      apply hK; clear hK K
      by_cases hx : x = w
      · refine L_true (by simp [hx]) ?_
        rw [if_pos hx] at hsu
        refine L_reg [3, 4, 5, 10, 12, 13, 14, 97, 98, 99, 104, 105, 106] (fun K hK => ?_)
        simp [wrap_i64 (a := (c1 : Int) + 1) (by omega)]
        apply hK; clear hK K
        refine L_reg [3, 4, 5, 10, 12, 13, 14, 97, 98, 99, 104, 105, 106] (fun K hK => ?_)
        simp [wrap_i64 (a := (j : Int) + 1) (by omega)]
        apply hK; clear hK K
        exact ⟨t - (j + 1), [.int .i64 ((c1 : Int) + 1), .int .i64 ((j + 1 : Nat) : Int)], by omega, by simp, j + 1, rfl, by omega, by rw [hc2, hsu]; rfl, rfl⟩
      · refine L_false (by simp [hx]) ?_
        rw [if_neg hx] at hsu
        refine L_reg [3, 4, 5, 10, 12, 13, 14, 97, 98, 99, 104, 105, 106] (fun K hK => ?_)
        simp [wrap_i64 (a := (j : Int) + 1) (by omega)]
        apply hK; clear hK K
        exact ⟨t - (j + 1), [.int .i64 (c1 : Int), .int .i64 ((j + 1 : Nat) : Int)], by omega, by simp, j + 1, rfl, by omega, by rw [hc2, hsu]; rfl, rfl⟩
    · have hG2 : (gapsS m s t).take j = gapsS m s t := by rw [List.take_of_length_le (by omega)]
      rw [hG2, hcc]
      refine L_regQ mixed [3, 4, 5, 10, 97, 98, 99, 126] (by kernel_rfl) (fun K hK => ?_)
      simp [hl9, hrd5, hlt]
      apply hK; clear hK K
      refine L_false (by simp) ?_
      refine L_reg [3, 4, 5, 10, 97, 98, 99] (fun K hK => ?_)
      simp [wrap_i64 (a := (i : Int) + 1) (by omega)]
      apply hK; clear hK K
      exact ⟨Kd.length - (i + 1), [.int .i64 ((i + 1 : Nat) : Int)], by omega, by simp, i + 1, rfl, by omega, rfl, hE79⟩
  · have hev := evS_lt m s (per m s)
    have hmem := fun x => mem_evS (m := m) (s := s) (k := per m s) (x := x)
    generalize evS m s (per m s) = E at *
    refine L_reg [3, 10, 128, 129, 130] (fun K hK => ?_)
    simp
    apply hK; clear hK K
    refine L_block (L_loopV [130] (fun n vs H' => ∃ i : Nat, n = E.length - i ∧ i ≤ E.length ∧ vs = [.int .i64 i] ∧ H8 = H') _ [.int .i64 0] rfl ⟨0, rfl, by omega, rfl, rfl⟩ ?_)
    rintro n _ _ ⟨j, rfl, hj, rfl, rfl⟩
    obtain ⟨q, off, wv, s0, g0, he0, hld⟩ := id hL10
    cases he0
    refine L_reg [3, 10, 128, 129, 130, 131] (fun K hK => ?_)
    simp
    apply hK; clear hK K
    refine L_dec (j < E.length) (by simp) (fun hlt => ?_) (fun hge => L_exit ?_)
    · refine L_block ?_
      obtain ⟨q', rfl, -, hrd⟩ := hld j hlt
      obtain ⟨tt, ht1, ht2, ht3, -⟩ := (hmem E[j]).1 (List.getElem_mem hlt)
      rw [ht1] at hrd
      simp only [Nat.zero_add] at hrd
      refine L_reg [3, 10, 17, 18, 128, 129, 130] (fun K hK => ?_)
      simp [hrd, hlt]
      apply hK; clear hK K
      refine L_reg [3, 10, 128, 129, 130, 158] (fun K hK => ?_)
      simp [okFn_low, show ¬ ((tt : Int) < 1) by omega, bx8.l0, bx8.l1]
      refine diff_ac m s hm.1 hm.2 hs _ _ ?_
      by_cases hj0 : j = 0
      · simp [pickV, show ¬ ((per m s : Int) < tt) by omega, show ¬ (0 < j) by omega]
        apply hK; clear hK K
        refine L_false (by simp) ?_
        refine L_reg [3, 10, 128, 129, 130] (fun K hK => ?_)
        simp [wrap_i64 (a := (j : Int) + 1) (by omega)]
        apply hK; clear hK K
        exact ⟨E.length - (j + 1), [.int .i64 ((j + 1 : Nat) : Int)], by omega, by simp, j + 1, rfl, by omega, rfl, rfl⟩
      · obtain ⟨q'', hq'', -, hrd2⟩ := hld (j - 1) (by omega)
        cases hq''
        obtain ⟨t2, ht4, ht5, ht6, -⟩ := (hmem (E[j - 1]'(by omega))).1 (List.getElem_mem (by omega))
        rw [ht4] at hrd2
        simp only [Nat.zero_add] at hrd2
        have hlt3 := List.pairwise_iff_getElem.1 hev (j - 1) j (by omega) hlt (by omega)
        rw [ht1, ht4] at hlt3
        simp [pickV, show ¬ ((per m s : Int) < tt) by omega, show 0 < j by omega, wrap_i64 (a := (j : Int) - 1) (by omega), show ((j : Int) - 1).toNat = j - 1 by omega, show (1 : Int) ≤ j by omega, show (j : Int) - 1 < E.length by omega, hrd2]
        apply hK; clear hK K
        refine L_false (by simp; omega) ?_
        refine L_reg [3, 10, 128, 129, 130] (fun K hK => ?_)
        simp [wrap_i64 (a := (j : Int) + 1) (by omega)]
        apply hK; clear hK K
        exact ⟨E.length - (j + 1), [.int .i64 ((j + 1 : Nat) : Int)], by omega, by simp, j + 1, rfl, by omega, rfl, rfl⟩
    · refine L_reg [2] (fun K hK => ?_)
      simp [okFn_low]
      refine works_ac _ _ ?_
      simp
      apply hK; clear hK K
      exact L_ret ⟨.inr rfl, _, rfl, rfl⟩
theorem wrapThree_int (n : List Int) (e : n.length = 3) (b : ∀ x ∈ n, IntKind.u8.min ≤ x ∧ x ≤ IntKind.u8.max) (H : AH) : AC Try.prog 7 [.agg (n.map (.int .u8))] H fun u _ => u = .bool true := by
  obtain ⟨x, y, z, rfl, hx, hy, hz⟩ := roll_int e b
  exact wrapThree_ac x y z hx hy hz H
end Go.Proofs.Ytjfmiohgkcjdnaa
