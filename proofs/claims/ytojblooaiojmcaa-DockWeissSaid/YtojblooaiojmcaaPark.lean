/- Dock: carts park. -/
import Derived.Test.YtojblooaiojmcaaOver
import Derived.Test.YtojblooaiojmcaaAxX
namespace Go.Proofs.Ytojblooaiojmcaa
open Go Go.Proofs.Ytojblooaiojmcaa.AX

def idxS (l : List Int) (x : Int) : Int := if x ∈ l then (l.idxOf x : Int) else -1
theorem idxS_hit {l : List Int} {x : Int} {i : Nat} (hi : i < l.length) (hx : x = l[i]) (hn : x ∉ l.take i) : idxS l x = i := by
  have hm : x ∈ l := by rw [hx]; exact List.getElem_mem hi
  have e : l = l.take i ++ x :: l.drop (i + 1) := by rw [hx, ← List.drop_eq_getElem_cons hi, List.take_append_drop]
  rw [idxS, if_pos hm]
  conv => lhs; rw [e]
  rw [List.idxOf_append, if_neg hn, List.idxOf_cons_self]
  simp; omega
theorem idxS_geq (l : List Int) (x : Int) : decide (0 ≤ idxS l x) = decide (x ∈ l) := by
  unfold idxS
  split <;> simp_all

theorem Index_ac (v : AV) (l : List Int) (x : Int) (H : AH) (Q : AV → AH → Prop) (hl : l.length ≤ 1048576) (hv : Ls H v l) (h : Q (.int .i64 (idxS l x)) H) : AC Try.prog 78 [v, .int .i64 x] H Q := by
  obtain ⟨r, off, ver, sz, full, rfl, hv⟩ := hv
  refine L_body 19 Try.func78 rfl rfl ?_
  refine L_reg [0, 1] (fun K hK => ?_)
  simp
  apply hK; clear hK K
  refine L_reg [0, 1, 7, 8] (fun K hK => ?_)
  simp
  apply hK; clear hK K
  refine L_block (L_loopV [8] (fun k vs H' => ∃ i : Nat, k = l.length - i ∧ i ≤ l.length ∧ x ∉ l.take i ∧ vs = [.int .i64 i] ∧ H' = H) _ [.int .i64 (0 : Nat)] rfl ⟨0, rfl, by omega, by simp, rfl, rfl⟩ ?_)
  rintro k _ _ ⟨i, rfl, hi, hx, rfl, rfl⟩
  refine L_reg [0, 1, 7, 8, 9] (fun K hK => ?_)
  simp
  apply hK; clear hK K
  refine L_dec (i < l.length) (by simp) (fun hlt => ?_) (fun hge => L_exit ?_)
  · obtain ⟨r', rfl, rfl, hld⟩ := hv i hlt
    refine L_block ?_
    refine L_reg [0, 1, 5, 7, 8] (fun K hK => ?_)
    simp
    apply hK; clear hK K
    refine L_reg [0, 1, 5, 7, 8, 16] (fun K hK => ?_)
    simp [hlt, hld]
    apply hK; clear hK K
    refine L_dec (x = l[i]) (by simp; rfl) (fun he => ?_) (fun hne => ?_)
    · refine L_reg [4] (fun K hK => ?_)
      simp
      apply hK; clear hK K
      rw [idxS_hit hlt he hx] at h
      exact L_ret ⟨.inr rfl, _, rfl, h⟩
    · refine L_reg [0, 1, 7, 8] (fun K hK => ?_)
      simp [wrap_i64 (a := (i : Int) + 1) (by omega)]
      apply hK; clear hK K
      have hx' : x ∉ l.take (i + 1) := by
        intro hm
        rw [List.take_succ_eq_append_getElem hlt] at hm
        rcases List.mem_append.1 hm with h1 | h1
        · exact hx h1
        · exact hne (List.mem_singleton.1 h1)
      exact ⟨l.length - (i + 1), [.int .i64 (i + 1 : Nat)], by omega, rfl, i + 1, rfl, by omega, hx', rfl, rfl⟩
  · refine L_reg [4] (fun K hK => ?_)
    simp
    apply hK; clear hK K
    rw [List.take_of_length_le (by omega)] at hx
    rw [idxS, if_neg hx] at h
    exact L_ret ⟨.inr rfl, _, rfl, h⟩

theorem Contains_ac (v : AV) (l : List Int) (x : Int) (H : AH) (Q : AV → AH → Prop) (hl : l.length ≤ 1048576) (hv : Ls H v l) (h : Q (.bool (decide (x ∈ l))) H) : AC Try.prog 45 [v, .int .i64 x] H Q := by
  refine L_body 9 Try.func45 rfl rfl ?_
  refine L_reg [0, 1] (fun K hK => ?_)
  simp
  apply hK; clear hK K
  refine L_reg [4] (fun K hK => ?_)
  simp [okFn_low]
  refine Index_ac _ _ _ _ _ hl hv ?_
  simp [idxS_geq]
  apply hK; clear hK K
  exact L_ret ⟨.inr rfl, _, rfl, h⟩

/-- The set of bays behind a cart. -/
def nextSet (n s w : Nat) : Nat := if ff s (n - w) w < n then s ||| 2 ^ ff s (n - w) w else s
/-- Where carts park. -/
def parkS (n : Nat) : Nat → List Nat → List Int
  | _, [] => []
  | s, w :: l => (if ff s (n - w) w < n then (ff s (n - w) w : Int) else -1) :: parkS n (nextSet n s w) l
theorem parkS_length (n : Nat) : ∀ (l : List Nat) (s : Nat), (parkS n s l).length = l.length
  | [], _ => rfl
  | w :: l, s => by simp [parkS, parkS_length n l]
theorem nextSet_lt {n s w : Nat} (hn : n ≤ 8) (hs : s < 256) : nextSet n s w < 256 := by
  unfold nextSet
  split
  · rename_i h
    have : (256 : Nat) = 2 ^ 8 := rfl
    rw [this] at hs ⊢
    exact Nat.or_lt_two_pow hs (Nat.pow_lt_pow_right (by decide) (by omega))
  · exact hs

theorem inv91 : invF Try.prog 91 "vitola/dock.leaves" = some 125 := by kernel_rfl
theorem inv93 : invF Try.prog 93 "vitola/dock.leaves" = some 126 := by kernel_rfl
theorem okFn125 : okFn Try.prog 125 = true := by kernel_rfl

theorem fa91 (r off ver : Nat) : aFieldAddr Try.prog 91 (.ptr r off ver) 0 = some (.ptr r (off + 0) ver) := by kernel_rfl
theorem leaves_ac (b s : Nat) (H : AH) (Q : AV → AH → Prop) (hs : s < 2 ^ 64) (hb : b < 64) (h : ∀ H', Ext H H' → Q (.int .u64 ((s ||| 2 ^ b : Nat) : Int)) H') : AC Try.prog 125 [.agg [.int .i64 b], .int .u64 s] H Q := by
  refine L_body 9 Try.func125 rfl rfl ?_
  refine L_reg [1, 2] (fun K hK => ?_)
  simp [AV.isU, acells]
  apply hK; clear hK K
  refine L_reg [4] (fun K hK => ?_)
  simp [okFn_low, fa91, ld_last]
  refine with_ac s b _ _ hs hb ?_
  simp
  apply hK; clear hK K
  exact L_ret ⟨.inr rfl, _, rfl, h _ (.push _ _)⟩
theorem stays_ac (s : Nat) (H : AH) (Q : AV → AH → Prop) (h : ∀ H', Ext H H' → Q (.int .u64 (s : Int)) H') : AC Try.prog 126 [.agg [], .int .u64 s] H Q := by
  refine L_body 6 Try.func126 rfl rfl ?_
  refine L_reg [1] (fun K hK => ?_)
  simp [AV.isU, acells]
  apply hK; clear hK K
  refine L_reg [4] (fun K hK => ?_)
  simp
  apply hK; clear hK K
  exact L_ret ⟨.inr rfl, _, rfl, h _ (.push _ _)⟩

theorem okFn126 : okFn Try.prog 126 = true := by kernel_rfl
theorem elz22 : elZ Try.prog 22 = some (.int .i64 0) := by kernel_rfl
theorem sc3 : scal Try.prog 3 = true := by kernel_rfl

theorem park_ac (n : Nat) (v : AV) (l : List Nat) (H : AH) (Q : AV → AH → Prop) (hn : n ≤ 8) (hl : l.length ≤ 8) (hv : Ls H v (l.map Int.ofNat)) (h : ∀ v' H', Ls H' v' (parkS n 0 l) → Ext H H' → Q v' H') : AC Try.prog 56 [.int .i64 n, v] H Q := by
  obtain ⟨r, off, ver, sz, full, rfl, hv⟩ := hv
  simp only [List.length_map] at hv ⊢
  refine L_body 34 Try.func56 rfl rfl ?_
  refine L_reg [0, 1] (fun K hK => ?_)
  simp
  apply hK; clear hK K
  refine L_reg [0, 1, 5] (fun K hK => ?_)
  simp [make_z elz22 (show l.length ≤ 16777216 by omega)]
  apply hK; clear hK K
  refine L_reg [0, 1, 5, 6] (fun K hK => ?_)
  simp
  apply hK; clear hK K
  refine L_reg [0, 5, 6, 13, 14, 15] (fun K hK => ?_)
  simp
  apply hK; clear hK K
  refine L_block (L_loopV [6, 15] (fun k vs H' => ∃ (i s : Nat) (done : List Int), k = l.length - i ∧ i ≤ l.length ∧ s < 256 ∧ done.length = i ∧ done ++ parkS n s (l.drop i) = parkS n 0 l ∧ vs = [.int .u64 s, .int .i64 i] ∧
    Ext H H' ∧ H'[H.length]? = some (.row ((done ++ List.replicate (l.length - i) 0).map (.int .i64)) 0 0 false)) _ [.int .u64 (0 : Nat), .int .i64 (0 : Nat)] rfl ⟨0, 0, [], rfl, by omega, by omega, rfl, by simp, rfl, .push _ _, by simp⟩ ?_)
  rintro k _ H1 ⟨i, s, done, rfl, hi, hs, hd, hp, rfl, hE, hrow⟩
  refine L_reg [0, 5, 6, 13, 14, 15, 16] (fun K hK => ?_)
  simp
  apply hK; clear hK K
  refine L_dec (i < l.length) (by simp) (fun hlt => ?_) (fun hge => L_exit ?_)
  · obtain ⟨r', rfl, rfl, hld⟩ := hv i hlt
    have hld' := hE.ld hld
    simp only [List.getElem_map] at hld'
    rw [List.drop_eq_getElem_cons hlt, parkS] at hp
    refine L_block ?_
    refine L_reg [0, 5, 6, 7, 8, 13, 14, 15] (fun K hK => ?_)
    simp [hlt, hld']
    apply hK; clear hK K
    refine L_reg [0, 5, 6, 7, 9, 13, 14, 15] (fun K hK => ?_)
    simp [okFn_low]
    refine drive_ac n s l[i] _ _ (by omega) hn ?_
    simp
    apply hK; clear hK K
    generalize hb : ff s (n - l[i]) l[i] = b at hp
    have hst := store_row (P := Try.prog) (u := 3) (p := i) sc3 (x := .int .i64 (if b < n then (b : Int) else -1)) (y := .int .i64 0) rfl hrow (by
      rw [List.getElem?_map, List.getElem?_append_right (by omega), hd]; simp [show 0 < l.length - i by omega])
    refine L_reg [0, 5, 6, 9, 13, 14, 15] (fun K hK => ?_)
    simp [okFn_low]
    refine bayOf_ac _ _ _ _ ?_
    simp [hlt, hst]
    apply hK; clear hK K
    have hset : ((done ++ List.replicate (l.length - i) (0 : Int)).map (AV.int .i64)).set i (.int .i64 (if b < n then (b : Int) else -1)) = ((done ++ [if b < n then (b : Int) else -1]) ++ List.replicate (l.length - (i + 1)) 0).map (.int .i64) := by
      rw [show l.length - i = (l.length - (i + 1)) + 1 by omega, List.replicate_succ, ← hd]
      simp
    have hE2 := hE.set (.row (((done ++ List.replicate (l.length - i) (0 : Int)).map (AV.int .i64)).set i (.int .i64 (if b < n then (b : Int) else -1))) 0 0 false) (Nat.le_refl H.length)
    have hrow2 := get_set (o' := .row (((done ++ List.replicate (l.length - i) (0 : Int)).map (AV.int .i64)).set i (.int .i64 (if b < n then (b : Int) else -1))) 0 0 false) hrow
    simp only [List.map_append, List.map_replicate] at hE2 hrow2 hset
    refine L_reg [0, 5, 6, 13, 14, 15] (fun K hK => ?_)
    have hnx : nextSet n s l[i] = if b < n then s ||| 2 ^ b else s := by rw [nextSet, hb]
    have hnl := nextSet_lt (w := l[i]) hn hs
    rw [hnx] at hnl hp
    by_cases hbn : b < n
    · simp only [hbn, if_true] at hnl hp hset hrow2 hE2
      simp [fateV, hbn, invS_some inv91]
      refine leaves_ac b s _ _ (by omega) (by omega) (fun H3 hE3 => ?_)
      simp
      apply hK; clear hK K
      refine L_reg [0, 5, 6, 13, 14, 15] (fun K hK => ?_)
      simp [wrap_i64 (a := (i : Int) + 1) (by omega)]
      apply hK; clear hK K
      refine ⟨l.length - (i + 1), [.int .u64 (s ||| 2 ^ b : Nat), .int .i64 (i + 1 : Nat)], by omega, rfl, i + 1, s ||| 2 ^ b, done ++ [(b : Int)], rfl, by omega, hnl, by simp [hd], by simpa using hp, rfl, hE2.trans hE3, ?_⟩
      rw [hE3.row hrow2, hset]; simp
    · simp only [hbn, if_false] at hnl hp hset hrow2 hE2
      simp [fateV, hbn, invS_some inv93]
      refine stays_ac s _ _ (fun H3 hE3 => ?_)
      simp
      apply hK; clear hK K
      refine L_reg [0, 5, 6, 13, 14, 15] (fun K hK => ?_)
      simp [wrap_i64 (a := (i : Int) + 1) (by omega)]
      apply hK; clear hK K
      refine ⟨l.length - (i + 1), [.int .u64 s, .int .i64 (i + 1 : Nat)], by omega, rfl, i + 1, s, done ++ [(-1 : Int)], rfl, by omega, hnl, by simp [hd], by simpa using hp, rfl, hE2.trans hE3, ?_⟩
      rw [hE3.row hrow2, hset]; simp
  · refine L_reg [4] (fun K hK => ?_)
    simp
    apply hK; clear hK K
    refine L_ret ⟨.inr rfl, _, rfl, ?_⟩
    have hi' : i = l.length := by omega
    subst hi'
    simp [parkS] at hp
    subst hp
    refine h _ _ ?_ hE
    have := Ls.row (l := parkS n 0 l) (f := false) (by simpa using hrow)
    rw [parkS_length] at this
    exact this

/-- Wishes that are bays. -/
theorem okL_nat {n : Int} {l : List Int} (h : okL n l = true) : ∃ l' : List Nat, l = l'.map Int.ofNat ∧ ∀ w ∈ l', (w : Int) < n := by
  refine ⟨l.map Int.toNat, ?_, fun w hw => ?_⟩
  · rw [List.map_map]
    conv => lhs; rw [← List.map_id l]
    refine List.map_congr_left fun b hb => ?_
    have := List.all_eq_true.1 h b hb
    simp only [Bool.and_eq_true, decide_eq_true_eq] at this
    simp [Int.toNat_of_nonneg this.1]
  · obtain ⟨b, hb, rfl⟩ := List.mem_map.1 hw
    have := List.all_eq_true.1 h b hb
    simp only [Bool.and_eq_true, decide_eq_true_eq] at this
    omega

theorem serves_ac (n : Nat) (v : AV) (l : List Nat) (H : AH) (Q : AV → AH → Prop) (hn : n ≤ 8) (hl : l.length ≤ 8) (hv : Ls H v (l.map Int.ofNat)) (h : ∀ H', Ext H H' → Q (.bool (!decide (-1 ∈ parkS n 0 l))) H') : AC Try.prog 58 [.int .i64 n, v] H Q := by
  refine L_body 10 Try.func58 rfl rfl ?_
  refine L_reg [0, 1] (fun K hK => ?_)
  simp
  apply hK; clear hK K
  refine L_reg [4] (fun K hK => ?_)
  simp [okFn_low]
  refine park_ac n v l _ _ hn hl hv (fun v' H' hv' hE => ?_)
  simp [okFn_low]
  refine Contains_ac _ _ _ _ _ (by rw [parkS_length]; omega) hv' ?_
  simp
  apply hK; clear hK K
  exact L_ret ⟨.inr rfl, _, rfl, by simpa using h _ hE⟩
end Go.Proofs.Ytojblooaiojmcaa
