/- BlendMetric, walked. -/
import Derived.Test.YtpdcmdmhamnndaaChosen
import Derived.Test.YtpdcmdmhamnndaaWays2
namespace Go.Proofs.Ytpdcmdmhamnndaa
open Go Go.Proofs.Ytpdcmdmhamnndaa.AX

/-! ### What holds of distances -/
theorem chk_of {n : Nat} : ∀ {l : List Int} {p : Int}, (∀ x ∈ l, (0 ≤ x ∧ x < n) ∧ p < x) → l.Pairwise (· < ·) → chk n p l = 0
  | [], _, _, _ => rfl
  | x :: l, p, h, hs => by
    have hx := h x List.mem_cons_self
    obtain ⟨h1, h2⟩ := List.pairwise_cons.1 hs
    simp only [chk]
    rw [if_neg (by omega), if_neg (by omega)]
    exact chk_of (fun y hy => ⟨(h y (List.mem_cons_of_mem _ hy)).1, h1 y hy⟩) h2
theorem check_of {n : Nat} {b : List Int} (hb : Okb n b) (h1 : 1 ≤ n) (h2 : n ≤ 10) : checkE n b = 0 := by
  unfold checkE
  rw [if_pos (rleaves.1 ⟨by omega, by omega⟩)]
  exact chk_of (fun x hx => ⟨hb.1 x hx, by have := hb.1 x hx; omega⟩) hb.2
theorem both_of {n : Nat} {a b : List Int} (ha : Okb n a) (hb : Okb n b) (h : a.length = b.length) (h1 : 1 ≤ n) (h2 : n ≤ 10) : bothE n a b = 0 ∧ awayS n a b = (lack a b).length := by
  have : bothE n a b = 0 := by unfold bothE; rw [if_pos (check_of ha h1 h2), if_pos (check_of hb h1 h2), if_pos h]
  exact ⟨this, by unfold awayS; rw [if_pos this]⟩
theorem lack_part (l m : List Int) : (l.filter fun y => decide (y ∈ m)).length + (lack l m).length = l.length := by
  unfold lack
  induction l with
  | nil => rfl
  | cons x l ih => by_cases hx : x ∈ m <;> simp [hx] at ih ⊢ <;> omega
def othS (n : Nat) (l : List Int) : List Int := lack (iota n) l
theorem othS_okb (n : Nat) (l : List Int) : Okb n (othS n l) := by
  obtain ⟨h1, h2⟩ := okb_iota n
  exact ⟨fun x hx => h1 x (mem_lack.1 hx).1, lack_sorted h2⟩
theorem othS_len {n : Nat} {l : List Int} (hl : Okb n l) : (othS n l).length = n - l.length := by
  have h := lack_part (iota n) l
  have e : (iota n).filter (fun y => decide (y ∈ l)) = l := by
    refine sorted_ext ((okb_iota n).2.sublist List.filter_sublist) hl.2 fun x => ?_
    simp only [List.mem_filter, decide_eq_true_eq]
    exact ⟨fun h => h.2, fun h => ⟨mem_iota.2 (hl.1 x h), h⟩⟩
  rw [e, iota_len] at h
  unfold othS; omega
theorem lack_oth {n : Nat} {a b : List Int} (ha : Okb n a) (hb : Okb n b) : lack (othS n a) (othS n b) = lack b a := by
  refine sorted_ext (lack_sorted (othS_okb n a).2) (lack_sorted hb.2) fun x => ?_
  simp only [mem_lack, othS, mem_iota]
  constructor
  · rintro ⟨⟨h1, h2⟩, h3⟩
    refine ⟨Classical.byContradiction fun h => h3 ⟨h1, h⟩, h2⟩
  · rintro ⟨h1, h2⟩
    exact ⟨⟨hb.1 x h1, h2⟩, fun h => h.2 h1⟩
theorem lack_tri {n : Nat} {a b c : List Int} (ha : Okb n a) (hc : Okb n c) : (lack a b).length ≤ (lack a c).length + (lack c b).length := by
  have h := lack_part (lack a b) c
  have e1 : lack (lack a b) c = lack (lack a c) b := by
    refine sorted_ext (lack_sorted (lack_sorted ha.2)) (lack_sorted (lack_sorted ha.2)) fun x => ?_
    simp only [mem_lack]
    exact ⟨fun h => ⟨⟨h.1.1, h.2⟩, h.1.2⟩, fun h => ⟨⟨h.1.1, h.2⟩, h.1.2⟩⟩
  have e2 : (lack a b).filter (fun y => decide (y ∈ c)) = (lack c b).filter (fun y => decide (y ∈ a)) := by
    refine sorted_ext ((lack_sorted ha.2).sublist List.filter_sublist) ((lack_sorted hc.2).sublist List.filter_sublist) fun x => ?_
    simp only [List.mem_filter, mem_lack, decide_eq_true_eq]
    exact ⟨fun h => ⟨⟨h.2, h.1.2⟩, h.1.1⟩, fun h => ⟨⟨h.2, h.1.2⟩, h.1.1⟩⟩
  have h1 : (lack (lack a c) b).length ≤ (lack a c).length := by unfold lack; exact List.length_filter_le _ _
  have h2 : ((lack c b).filter (fun y => decide (y ∈ a))).length ≤ (lack c b).length := List.length_filter_le _ _
  rw [e1, e2] at h
  omega
theorem lack_most {n : Nat} {a b : List Int} (ha : Okb n a) (hb : Okb n b) : (lack a b).length ≤ a.length ∧ (lack a b).length ≤ n - b.length := by
  have h1 : (lack a b).length ≤ a.length := by unfold lack; exact List.length_filter_le _ _
  refine ⟨h1, ?_⟩
  have e : (othS n b).filter (fun y => decide (y ∈ a)) = lack a b := by
    refine sorted_ext ((othS_okb n b).2.sublist List.filter_sublist) (lack_sorted ha.2) fun x => ?_
    simp only [List.mem_filter, othS, mem_lack, mem_iota, decide_eq_true_eq]
    exact ⟨fun h => ⟨h.2, h.1.2⟩, fun h => ⟨⟨ha.1 x h.1, h.2⟩, h.1⟩⟩
  rw [← e, ← othS_len hb]
  exact List.length_filter_le _ _
theorem lack_zero {n : Nat} {a b : List Int} (ha : Okb n a) (hb : Okb n b) (h : a.length = b.length) : (lack a b).length = 0 ↔ a = b := by
  constructor
  · intro h0
    have h1 := lack_len ha.2 hb.2 h
    exact way_end ha hb (List.eq_nil_of_length_eq_zero h0) (List.eq_nil_of_length_eq_zero (by omega))
  · rintro rfl; rw [lack_self]; rfl

/-! ### The functions -/
theorem away_q (n : Int) (u v : AV) (a b : List Int) (H : AH) (ha : a.length ≤ 1000000) (hb : b.length ≤ 1000000) (hu : Ls H u a) (hv : Ls H v b) (Q : AV → AH → Prop) (h : Q (.tuple [.int .i64 (awayS n a b), .int .i64 (bothE n a b)]) H) : AC Try.prog 27 [.int .i64 n, u, v] H Q :=
  AC.quiet rfl (fun Q h => Away_ac n u v a b H Q ha hb hu hv h) Q h
theorem others_ac (n : Nat) (hn : n ≤ 1000) (v : AV) (l : List Int) (q s : Nat) (H : AH) (Q : AV → AH → Prop) (hl : l.length ≤ 1000000) (hv : Ls H v l) (hq : H[q]? = some (.row [.int .i64 n] 0 s false)) (h : ∀ v' H', OwnN H.length H' v' (othS n l) → Ext H H' → Q v' H') : AC Try.prog 49 [v, .ptr q 0 0] H Q := by
  have e : ld H q 0 0 = some (.int .i64 n) := by rw [ld_row hq]; rfl
  refine L_body 20 Try.func49 rfl rfl ?_
  refine L_reg [0, 1] (fun K hK => ?_)
  simp
  apply hK; clear hK K
  refine L_reg [0, 1, 4] (fun K hK => ?_)
  simp
  apply hK; clear hK K
  refine L_reg [0, 4, 6, 7] (fun K hK => ?_)
  simp [e]
  apply hK; clear hK K
  refine L_block (L_loopV [4, 7] (fun k vs H' => ∃ (i : Nat) (w : AV), k = n - i ∧ i ≤ n ∧ OwnN H.length H' w (othS i l) ∧ Ext H H' ∧ vs = [w, .int .i64 i]) _ [.slice none 0 0 0 1 false, .int .i64 (0 : Nat)] rfl ⟨0, _, rfl, by omega, ⟨fun _ => rfl, .nil _ _⟩, .refl H, rfl⟩ ?_)
  rintro k _ H1 ⟨i, w, rfl, hi, ⟨hO0, hO⟩, hE, rfl⟩
  refine L_reg [0, 4, 6, 7, 8] (fun K hK => ?_)
  simp
  apply hK; clear hK K
  refine L_dec (i < n) (by simp) (fun hlt => ?_) (fun hge => L_exit ?_)
  · have hs : othS (i + 1) l = othS i l ++ if (i : Int) ∈ l then [] else [(i : Int)] := by
      unfold othS lack
      rw [iota_succ, List.filter_append]
      by_cases hm : (i : Int) ∈ l <;> simp [hm]
    have hlen : (othS i l).length ≤ i := by
      unfold othS lack
      exact Nat.le_trans (List.length_filter_le _ _) (by simp)
    refine L_block ?_
    refine L_reg [0, 4, 5, 6, 7] (fun K hK => ?_)
    simp
    apply hK; clear hK K
    refine L_reg [0, 4, 5, 6, 7, 13] (fun K hK => ?_)
    simp [okFn_low]
    refine Contains_ac v l i H1 _ hl (hv.ext hE) ?_
    simp
    apply hK; clear hK K
    by_cases hm : (i : Int) ∈ l
    · refine L_false (by simp [hm]) ?_
      rw [if_pos hm, List.append_nil] at hs
      refine L_reg [0, 4, 6, 7] (fun K hK => ?_)
      simp [wrap_i64 (a := (i : Int) + 1) (by omega)]
      apply hK; clear hK K
      exact ⟨n - (i + 1), [w, .int .i64 (i + 1 : Nat)], by omega, by simp, i + 1, w, rfl, by omega, by rw [hs]; exact ⟨hO0, hO⟩, hE, rfl⟩
    · refine L_true (by simp [hm]) ?_
      rw [if_neg hm] at hs
      obtain ⟨v', H', he, hO', hE'⟩ := ownF_append hE el22 el22 (x := .int .i64 (i : Int)) (m := 1) hO rfl (by simp; omega)
      refine L_reg [0, 4, 6, 7] (fun K hK => ?_)
      simp [he]
      apply hK; clear hK K
      refine L_reg [0, 4, 6, 7] (fun K hK => ?_)
      simp [wrap_i64 (a := (i : Int) + 1) (by omega)]
      apply hK; clear hK K
      exact ⟨n - (i + 1), [v', .int .i64 (i + 1 : Nat)], by omega, by simp, i + 1, v', rfl, by omega, by rw [hs]; exact ⟨fun h => by simp at h, by simpa using hO'⟩, hE', rfl⟩
  · obtain rfl : i = n := by omega
    refine L_reg [3] (fun K hK => ?_)
    simp
    apply hK; clear hK K
    exact L_ret ⟨.inr rfl, _, rfl, h _ _ ⟨hO0, hO⟩ hE⟩
theorem others_q (n : Nat) (hn : n ≤ 1000) (v : AV) (l : List Int) (q s : Nat) (H : AH) (hl : l.length ≤ 1000000) (hv : Ls H v l) (hq : H[q]? = some (.row [.int .i64 n] 0 s false)) (Q : AV → AH → Prop) (h : Q (chV H (othS n l)) (chH H (othS n l))) : AC Try.prog 49 [v, .ptr q 0 0] H Q :=
  AC.tidyN (fun Q h => others_ac n hn v l q s H Q hl hv hq h) Q h
end Go.Proofs.Ytpdcmdmhamnndaa
