/- slices.Compact: a sorted list without what comes again. -/
import Derived.Test.YtcidcihpkdoejaaCut
import Derived.Test.YtcidcihpkdoejaaRev
namespace Go.Proofs.Ytcidcihpkdoejaa
open Go Go.Proofs.Ytcidcihpkdoejaa Go.Proofs.Ytcidcihpkdoejaa.AX

def dqN (c : List Int) : Nat → List Int
  | 0 => []
  | n + 1 => if n = 0 ∨ g c n ≠ g c (n - 1) then dqN c n ++ [g c n] else dqN c n
theorem dqN_len (c : List Int) : ∀ n, (dqN c n).length ≤ n
  | 0 => by simp [dqN]
  | n + 1 => by
    have := dqN_len c n
    unfold dqN
    split <;> simp <;> omega
theorem dqN_mem {c : List Int} : ∀ {n} {x : Int}, x ∈ dqN c n ↔ ∃ i, i < n ∧ g c i = x
  | 0, x => by simp [dqN]
  | n + 1, x => by
    have ih := dqN_mem (c := c) (n := n) (x := x)
    unfold dqN
    split
    · rw [List.mem_append, ih]
      constructor
      · rintro (⟨i, hi, e⟩ | h)
        · exact ⟨i, by omega, e⟩
        · exact ⟨n, by omega, (List.mem_singleton.1 h).symm⟩
      · rintro ⟨i, hi, e⟩
        by_cases h : i = n
        · right; subst h; simp [e]
        · exact .inl ⟨i, by omega, e⟩
    · rename_i h
      rw [ih]
      constructor
      · rintro ⟨i, hi, e⟩; exact ⟨i, by omega, e⟩
      · rintro ⟨i, hi, e⟩
        by_cases h2 : i = n
        · subst h2
          exact ⟨i - 1, by omega, by have h3 : g c i = g c (i - 1) := Decidable.not_not.1 fun h4 => h (.inr h4)
                                     omega⟩
        · exact ⟨i, by omega, e⟩
theorem dqN_lt {c : List Int} (hs : ∀ i j, i < j → j < c.length → g c i ≤ g c j) : ∀ n, n ≤ c.length → (dqN c n).Pairwise (· < ·)
  | 0, _ => by simp [dqN]
  | n + 1, hn => by
    have ih := dqN_lt hs n (by omega)
    unfold dqN
    split
    · rename_i h
      rw [List.pairwise_append]
      refine ⟨ih, by simp, fun x hx y hy => ?_⟩
      obtain ⟨i, hi, e⟩ := dqN_mem.1 hx
      simp at hy
      rw [hy]
      have h1 := hs (n - 1) n (by omega) (by omega)
      have h3 : g c n ≠ g c (n - 1) := by
        rcases h with h | h
        · omega
        · exact h
      by_cases h2 : i = n - 1
      · rw [h2] at e; omega
      · have := hs i (n - 1) (by omega) (by omega); omega
    · exact ih
theorem clear_ints {r ver st i n : Nat} {c : List Int} {H : AH} (hr : H[r]? = some (.row (c.map (.int .i64)) ver st false)) (hn : c.length = n) (hi : i < n) (f : Bool) : aClear Try.prog H 22 (.slice (some r) i (n - i) ver 1 f) = some (H.set r (.row ((c.take i ++ List.replicate (n - i) (0 : Int)).map (.int .i64)) ver (min st i) false)) := by
  have hz := elz22
  unfold elZ at hz
  split at hz
  case h_2 => cases hz
  rename_i e he
  split at hz
  case h_2 => cases hz
  rename_i I hI
  split at hz
  case isFalse => cases hz
  rename_i hc
  split at hz
  case h_2 => cases hz
  rename_i z' hz'
  obtain rfl := Option.some.inj hz
  unfold aClear
  have hne : ¬ n - i = 0 := by omega
  have hrep : (List.range ((n - i) * 1)).map (fun j => (([AV.int .i64 0] : List AV)[j % 1]?).getD .undef) = List.replicate (n - i) (AV.int .i64 0) := by
    apply List.ext_getElem (by simp)
    intro j h1 h2
    simp [Nat.mod_one]
  have hk : (takeKnown (n - i) ((c.map (AV.int .i64)).drop i)).isSome = true := by
    have := takeKnown_row (l := (c.map (AV.int .i64)).drop i) (fun v hv => by
      obtain ⟨x, -, rfl⟩ := List.mem_map.1 (List.mem_of_mem_drop hv); simp) []
    rw [List.append_nil] at this
    rw [show ((c.map (AV.int .i64)).drop i).length = n - i by simp [hn]] at this
    rw [this]; rfl
  simp only [he, hI, isNilSl, slParts, hc.1, hz']
  obtain ⟨k, hk0⟩ : ∃ k, n - i = k + 1 := ⟨n - i - 1, by omega⟩
  rw [hk0] at hrep hk hne ⊢
  simp only [hne, if_false]
  have hstn : stn H r ver (List.replicate (k + 1) (AV.int .i64 0)) i = some (H.set r (.row ((c.take i ++ List.replicate (k + 1) (0 : Int)).map (.int .i64)) ver (min st i) false)) := by
    rw [List.replicate_succ]
    simp only [stn, hr]
    rw [if_pos ⟨trivial, trivial, by simp [AV.one], by simpa using hk⟩]
    have hd : (c.map (AV.int .i64)).drop (i + (AV.int .i64 0 :: List.replicate k (AV.int .i64 0)).length) = [] := List.drop_of_length_le (by simp; omega)
    rw [hd, ← List.replicate_succ]
    simp
  rw [← hrep] at hstn
  simpa using hstn
set_option maxRecDepth 100000 in
theorem Compact_ac (r ver st : Nat) (c : List Int) (n : Nat) (hn : c.length = n) (h1 : 1 ≤ n) (hl : n ≤ 1000000) (H : AH) (Q : AV → AH → Prop) (hr : H[r]? = some (.row (c.map (.int .i64)) ver st false)) (h : ∀ (f : Bool) H', Ls H' (.slice (some r) 0 (dqN c n).length ver 1 f) (dqN c n) → KeepX r H H' → Q (.slice (some r) 0 (dqN c n).length ver 1 f) H') : AC Try.prog 55 [.slice (some r) 0 n ver 1 false] H Q := by
  have hg : ∀ i, i < n → ld H r i ver = some (.int .i64 (g c i)) := fun i hi => (show Rw r ver H c from ⟨st, hr⟩).ld (by omega)
  have hself : Ls H (.slice (some r) 0 n ver 1 false) c := by
    have := Ls.row hr false
    rw [hn] at this; exact this
  refine L_body 61 Try.func55 rfl rfl ?_
  refine L_reg [0] (fun K hK => ?_)
  simp
  apply hK; clear hK K
  refine L_reg [0, 8] (fun K hK => ?_)
  simp
  apply hK; clear hK K
  refine L_dec ((n : Int) < 2) (by simp) (fun h2 => ?_) (fun h2 => ?_)
  · have hn1 : n = 1 := by omega
    have hd : dqN c n = c := by
      subst hn1
      obtain ⟨x, rfl⟩ : ∃ x, c = [x] := by
        match c, hn with
        | [x], _ => exact ⟨x, rfl⟩
      simp [dqN, g]
    rw [hd, hn] at h
    refine L_reg [2] (fun K hK => ?_)
    simp
    apply hK; clear hK K
    exact L_ret ⟨.inr rfl, _, rfl, h false H hself (.refl r H)⟩
  refine L_reg [0, 3] (fun K hK => ?_)
  simp
  apply hK; clear hK K
  refine L_block (L_loopV [3] (fun k vs H' => ∃ i : Nat, k = n - i ∧ 1 ≤ i ∧ i ≤ n ∧ dqN c i = c.take i ∧ vs = [.int .i64 i] ∧ H = H') _ [.int .i64 1] rfl ⟨1, rfl, by omega, by omega, ?_, rfl, rfl⟩ ?_)
  · cases c with
    | nil => simp at hn; omega
    | cons x l => simp [dqN, g]
  rintro k _ _ ⟨i, rfl, hi1, hi, hdq, rfl, rfl⟩
  refine L_reg [0, 3, 13] (fun K hK => ?_)
  simp
  apply hK; clear hK K
  refine L_dec (i < n) (by simp) (fun hlt => ?_) (fun hge => L_exit ?_)
  · refine L_block ?_
    have e1 := hg i hlt
    have e2 := hg (i - 1) (by omega)
    refine L_regQ mixed [0, 3, 25] (by kernel_rfl) (fun K hK => ?_)
    simp [hlt, e1, e2, wrap_i64 (a := (i : Int) - 1) (by omega), show ((i : Int) - 1).toNat = i - 1 by omega, show (1 : Int) ≤ i by omega, show (i : Int) - 1 < n by omega]
    apply hK; clear hK K
    by_cases he : g c i = g c (i - 1)
    · refine L_true (by simp [he]) ?_
      have hsl := slice_lo (P := Try.prog) (t := 22) slz22 (some r) 0 n ver false (k := .i64) (i := i) (by omega)
      refine L_reg [0, 3, 4] (fun K hK => ?_)
      simp [hsl]
      apply hK; clear hK K
      refine L_reg [0, 3, 4, 5] (fun K hK => ?_)
      simp
      apply hK; clear hK K
      have hdq1 : dqN c (i + 1) = dqN c i := by
        show (if i = 0 ∨ g c i ≠ g c (i - 1) then dqN c i ++ [g c i] else dqN c i) = _
        rw [if_neg (by omega)]
      have hlen0 : (dqN c (i + 1)).length = i := by rw [hdq1, hdq]; simp; omega
      refine L_block (L_loopV [3, 5] (fun k' vs H' => ∃ (k i2 st2 : Nat) (d : List Int), k' = n - i - k ∧ 1 ≤ k ∧ k ≤ n - i ∧ d.length = n ∧ H'[r]? = some (.row (d.map (.int .i64)) ver st2 false) ∧ (dqN c (i + k)).length = i2 ∧ i2 ≤ i + k - 1 ∧ d.take i2 = dqN c (i + k) ∧ (∀ j, i + k - 1 ≤ j → j < n → g d j = g c j) ∧ vs = [.int .i64 i2, .int .i64 k] ∧ KeepX r H H') _ [.int .i64 i, .int .i64 1] rfl ⟨1, i, st, c, rfl, by omega, by omega, hn, hr, hlen0, by omega, by rw [hdq1, hdq], fun j _ _ => rfl, rfl, .refl r H⟩ ?_)
      rintro k' _ H1 ⟨k, i2, st2, d, rfl, hk1, hk, hdn, hrow, hi2, hi2k, htk, hrest, rfl, hK⟩
      refine L_reg [0, 3, 4, 5, 32] (fun K hK => ?_)
      simp [show ((n - i : Nat) : Int) = (n : Int) - i by omega]
      apply hK; clear hK K
      refine L_dec ((k : Int) < (n : Int) - i) (by simp) (fun hlt2 => ?_) (fun hge2 => L_exit ?_)
      · refine L_block ?_
        have hRw : Rw r ver H1 d := ⟨st2, hrow⟩
        have f1 := hRw.ld (i := i + k) (by omega)
        have f2 := hRw.ld (i := i + (k - 1)) (by omega)
        rw [hrest _ (by omega) (by omega)] at f1 f2
        have hsucc : dqN c (i + k + 1) = if i + k = 0 ∨ g c (i + k) ≠ g c (i + k - 1) then dqN c (i + k) ++ [g c (i + k)] else dqN c (i + k) := rfl
        rw [show i + k - 1 = i + (k - 1) by omega] at hsucc
        refine L_regQ mixed [0, 3, 4, 5, 44] (by kernel_rfl) (fun K hK => ?_)
        simp [f1, f2, wrap_i64 (a := (k : Int) - 1) (by omega), show ((k : Int) - 1).toNat = k - 1 by omega, show (1 : Int) ≤ k by omega, show (k : Int) - 1 < (n : Int) - i by omega, show ((n - i : Nat) : Int) = (n : Int) - i by omega, hlt2]
        apply hK; clear hK K
        by_cases he2 : g c (i + k) = g c (i + (k - 1))
        · rw [if_neg (by omega)] at hsucc
          refine L_false (by simp [he2]) ?_
          refine L_reg [0, 3, 4, 5] (fun K hK => ?_)
          simp [wrap_i64 (a := (k : Int) + 1) (by omega)]
          apply hK; clear hK K
          exact ⟨n - i - (k + 1), [.int .i64 i2, .int .i64 ((k + 1 : Nat) : Int)], by omega, by simp, k + 1, i2, st2, d, rfl, by omega, by omega, hdn, hrow, by rw [← hi2]; exact congrArg List.length hsucc, by omega, by rw [htk]; exact hsucc.symm, fun j j1 j2 => hrest j (by omega) j2, rfl, hK⟩
        · rw [if_pos (.inr he2)] at hsucc
          refine L_true (by simp [he2]) ?_
          have hst := store_row (P := Try.prog) (u := 3) (p := i2) sc3 (x := .int .i64 (g c (i + k))) (y := .int .i64 (g d i2)) rfl hrow (by rw [List.getElem?_map, List.getElem?_eq_getElem (by omega), g_lt (by omega)]; rfl)
          rw [← List.map_set] at hst
          have hrow2 := get_set (o' := AObj.row ((d.set i2 (g c (i + k))).map (AV.int .i64)) ver (min st2 i2) false) hrow
          have hKs := hK.set (AObj.row ((d.set i2 (g c (i + k))).map (AV.int .i64)) ver (min st2 i2) false)
          generalize H1.set r (AObj.row ((d.set i2 (g c (i + k))).map (AV.int .i64)) ver (min st2 i2) false) = Hs at hst hrow2 hKs
          refine L_reg [0, 3, 4, 5] (fun K hK => ?_)
          simp [f1, hst, show ((n - i : Nat) : Int) = (n : Int) - i by omega, hlt2, show (i2 : Int) < n by omega]
          apply hK; clear hK K
          refine L_reg [0, 3, 4, 5] (fun K hK => ?_)
          simp [wrap_i64 (a := (i2 : Int) + 1) (by omega)]
          apply hK; clear hK K
          refine L_reg [0, 3, 4, 5] (fun K hK => ?_)
          simp [wrap_i64 (a := (k : Int) + 1) (by omega)]
          apply hK; clear hK K
          refine ⟨n - i - (k + 1), [.int .i64 ((i2 + 1 : Nat) : Int), .int .i64 ((k + 1 : Nat) : Int)], by omega, by simp, k + 1, i2 + 1, min st2 i2, d.set i2 (g c (i + k)), rfl, by omega, by omega, by simpa using hdn, hrow2, by rw [show i + (k + 1) = i + k + 1 by omega, hsucc]; simp [hi2], by omega, ?_, fun j j1 j2 => ?_, rfl, hKs⟩
          · rw [show i + (k + 1) = i + k + 1 by omega, hsucc, ← htk, List.set_eq_take_append_cons_drop, if_pos (by omega), List.take_append, List.length_take, Nat.min_eq_left (by omega), show i2 + 1 - i2 = 1 by omega, List.take_of_length_le (by simp; omega)]
            rfl
          · have := hrest j (by omega) j2
            rw [← this]
            simp [g, List.getD_eq_getElem?_getD, List.getElem?_set_ne (show i2 ≠ j by omega)]
      · have hkn : i + k = n := by omega
        rw [hkn] at hi2 htk
        have hcl := clear_ints hrow hdn (i := i2) (by omega) false
        have hsl2 := slice_lo (P := Try.prog) (t := 22) slz22 (some r) 0 n ver false (k := .i64) (i := i2) (by omega)
        have hsl3 := slice_hi (P := Try.prog) (t := 22) slz22 (some r) 0 n ver false (k := .i64) (i := i2) (by omega)
        simp only [Nat.zero_add, Nat.mul_one] at hsl2
        have hrow3 := get_set (o' := AObj.row ((d.take i2 ++ List.replicate (n - i2) (0 : Int)).map (AV.int .i64)) ver (min st2 i2) false) hrow
        have hK5 := hK.set (AObj.row ((d.take i2 ++ List.replicate (n - i2) (0 : Int)).map (AV.int .i64)) ver (min st2 i2) false)
        generalize H1.set r (AObj.row ((d.take i2 ++ List.replicate (n - i2) (0 : Int)).map (AV.int .i64)) ver (min st2 i2) false) = H5 at hcl hrow3 hK5
        refine L_reg [0, 3] (fun K hK => ?_)
        simp [hsl2, hcl]
        apply hK; clear hK K
        refine L_reg [2] (fun K hK => ?_)
        simp [hsl3]
        apply hK; clear hK K
        rw [hi2] at h
        have hLs : Ls H5 (.slice (some r) 0 i2 ver 1 false) (dqN c n) := by
          refine ⟨some r, 0, ver, 1, false, by rw [hi2], fun j hj => ⟨r, rfl, rfl, ?_⟩⟩
          rw [ld_row hrow3, Nat.zero_add, List.getElem?_map, htk, List.getElem?_append_left hj, List.getElem?_eq_getElem hj]
          rfl
        exact L_ret ⟨.inr rfl, _, rfl, by simpa using h false H5 hLs hK5⟩
    · refine L_false (by simp [he]) ?_
      refine L_reg [0, 3] (fun K hK => ?_)
      simp [wrap_i64 (a := (i : Int) + 1) (by omega)]
      apply hK; clear hK K
      refine ⟨n - (i + 1), [.int .i64 ((i + 1 : Nat) : Int)], by omega, by simp, i + 1, rfl, by omega, by omega, ?_, rfl, rfl⟩
      show (if i = 0 ∨ g c i ≠ g c (i - 1) then dqN c i ++ [g c i] else dqN c i) = _
      rw [if_pos (.inr he), hdq, List.take_add_one, List.getElem?_eq_getElem (by omega), g_lt (by omega)]
      rfl
  · have hin : i = n := by omega
    have hd : dqN c n = c := by rw [← hin, hdq, List.take_of_length_le (by omega)]
    rw [hd, hn] at h
    refine L_reg [2] (fun K hK => ?_)
    simp
    apply hK; clear hK K
    exact L_ret ⟨.inr rfl, _, rfl, h false H hself (.refl r H)⟩

end Go.Proofs.Ytcidcihpkdoejaa
