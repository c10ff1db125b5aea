/- What BlendWalked calls. -/
import Derived.Test.YtpdcmdmhamnndaaMetric2
import Derived.Test.YtpdcmdmhamnndaaWays3
namespace Go.Proofs.Ytpdcmdmhamnndaa
open Go Go.Proofs.Ytpdcmdmhamnndaa.AX

theorem len_of_lack {a b : List Int} (ha : a.Pairwise (· < ·)) (hb : b.Pairwise (· < ·)) (h : (lack a b).length = (lack b a).length) : a.length = b.length := by
  have e : a.filter (fun y => decide (y ∈ b)) = b.filter (fun y => decide (y ∈ a)) := by
    refine sorted_ext (ha.sublist List.filter_sublist) (hb.sublist List.filter_sublist) fun x => ?_
    simp [and_comm]
  have h1 := lack_part a b
  have h2 := lack_part b a
  rw [e] at h1
  omega
/-- What the way holds at each place. -/
theorem way_at {N : Nat} {b : List Int} (hb : Okb N b) : ∀ {os is a : List Int}, Okb N a → lack a b = os → lack b a = is → os.length = is.length →
    (wayS N a os is).length = os.length + 1 ∧ (∀ i c, (wayS N a os is)[i]? = some c → Okb N c ∧ lack c b = os.drop i ∧ lack b c = is.drop i) ∧
    ∀ i c o x, (wayS N a os is)[i]? = some c → os[i]? = some o → is[i]? = some x → (wayS N a os is)[i + 1]? = some (exS N c o x)
  | [], is, a, ha, h1, h2, hl => by
    have : is = [] := List.eq_nil_of_length_eq_zero (by simpa using hl.symm)
    subst this
    rw [wayS_nil]
    refine ⟨rfl, fun i c hi => ?_, fun i c o x _ ho => by simp at ho⟩
    cases i with
    | zero => obtain rfl : a = c := by simpa using hi
              exact ⟨ha, h1, h2⟩
    | succ i => simp at hi
  | o :: os, [], a, ha, h1, h2, hl => by simp at hl
  | o :: os, x :: is, a, ha, h1, h2, hl => by
    obtain ⟨s1, s2⟩ := lack_step ha hb h1 h2
    obtain ⟨r1, r2, r3⟩ := way_at hb (exS_okb N a o x) s1 s2 (by simpa using hl)
    simp only [wayS]
    refine ⟨by simp [r1], fun i c hi => ?_, fun i c o' x' hi ho hx => ?_⟩
    · cases i with
      | zero => obtain rfl : a = c := by simpa using hi
                exact ⟨ha, h1, h2⟩
      | succ i => simpa using r2 i c (by simpa using hi)
    · cases i with
      | zero =>
        obtain rfl : a = c := by simpa using hi
        obtain rfl : o = o' := by simpa using ho
        obtain rfl : x = x' := by simpa using hx
        cases os with
        | nil => rw [wayS_nil]; rfl
        | cons o2 os => cases is with
          | nil => simp at hl
          | cons x2 is => rfl
      | succ i => simpa using r3 i c o' x' (by simpa using hi) (by simpa using ho) (by simpa using hx)
theorem apart_ac (u v : AV) (l o : List Int) (H : AH) (Q : AV → AH → Prop) (hl : l.length ≤ 1000000) (ho : o.length ≤ 1000000) (hu : Ls H u l) (hv : Ls H v o) (h : Q (.int .i64 (lack l o).length) H) : AC Try.prog 45 [u, v] H Q := by
  obtain ⟨r, off, ver, sz, full, rfl, hld⟩ := hu
  refine L_body 22 Try.func45 rfl rfl ?_
  refine L_reg [0, 1] (fun K hK => ?_)
  simp
  apply hK; clear hK K
  refine L_reg [0, 1, 5] (fun K hK => ?_)
  simp
  apply hK; clear hK K
  refine L_reg [1, 5, 8, 9, 10] (fun K hK => ?_)
  simp
  apply hK; clear hK K
  refine L_block (L_loopV [5, 10] (fun k vs H' => ∃ (i : Nat), k = l.length - i ∧ i ≤ l.length ∧ vs = [.int .i64 (lack (l.take i) o).length, .int .i64 i] ∧ H = H') _ [.int .i64 (0 : Nat), .int .i64 (0 : Nat)] rfl ⟨0, rfl, by omega, rfl, rfl⟩ ?_)
  rintro k _ _ ⟨i, rfl, hi, rfl, rfl⟩
  refine L_reg [1, 5, 8, 9, 10, 11] (fun K hK => ?_)
  simp
  apply hK; clear hK K
  refine L_dec (i < l.length) (by simp) (fun hlt => ?_) (fun hge => L_exit ?_)
  · obtain ⟨r', rfl, rfl, hrd⟩ := hld i hlt
    have hlk : (lack (l.take i) o).length ≤ i := by
      unfold lack
      exact Nat.le_trans (List.length_filter_le _ _) (by simp; omega)
    refine L_block ?_
    refine L_reg [1, 5, 7, 8, 9, 10] (fun K hK => ?_)
    simp [hlt, hrd]
    apply hK; clear hK K
    refine L_reg [1, 5, 8, 9, 10, 17] (fun K hK => ?_)
    simp [okFn_low]
    refine Contains_ac v o l[i] _ _ ho hv ?_
    simp
    apply hK; clear hK K
    by_cases hm : l[i] ∈ o
    · refine L_false (by simp [hm]) ?_
      refine L_reg [1, 5, 8, 9, 10] (fun K hK => ?_)
      simp [wrap_i64 (a := (i : Int) + 1) (by omega)]
      apply hK; clear hK K
      exact ⟨l.length - (i + 1), [.int .i64 (lack (l.take i) o).length, .int .i64 (i + 1 : Nat)], by omega, by simp, i + 1, rfl, by omega, by rw [lack_take hlt]; simp [hm], rfl⟩
    · refine L_true (by simp [hm]) ?_
      refine L_reg [1, 5, 8, 9, 10] (fun K hK => ?_)
      simp [wrap_i64 (a := ((lack (l.take i) o).length : Int) + 1) (by omega)]
      apply hK; clear hK K
      refine L_reg [1, 5, 8, 9, 10] (fun K hK => ?_)
      simp [wrap_i64 (a := (i : Int) + 1) (by omega)]
      apply hK; clear hK K
      exact ⟨l.length - (i + 1), [.int .i64 ((lack (l.take i) o).length + 1 : Nat), .int .i64 (i + 1 : Nat)], by omega, by simp, i + 1, rfl, by omega, by rw [lack_take hlt]; simp [hm], rfl⟩
  · obtain rfl : i = l.length := by omega
    rw [List.take_length]
    refine L_reg [4] (fun K hK => ?_)
    simp
    apply hK; clear hK K
    exact L_ret ⟨.inr rfl, _, rfl, h⟩
theorem out1_ac (v : AV) (l : List Int) (H : AH) (Q : AV → AH → Prop) (hv : Ls H v l) (h : Q (.int .i64 (l.head?.getD (-1))) H) : AC Try.prog 48 [v] H Q := by
  obtain ⟨r, off, ver, sz, full, rfl, hld⟩ := hv
  refine L_body 9 Try.func48 rfl rfl ?_
  refine L_reg [0] (fun K hK => ?_)
  simp
  apply hK; clear hK K
  refine L_reg [0, 5] (fun K hK => ?_)
  simp
  apply hK; clear hK K
  cases l with
  | nil =>
    refine L_true (by simp) ?_
    refine L_reg [2] (fun K hK => ?_)
    simp
    apply hK; clear hK K
    exact L_ret ⟨.inr rfl, _, rfl, h⟩
  | cons x l =>
    refine L_false (by simp; omega) ?_
    obtain ⟨r', rfl, rfl, hrd⟩ := hld 0 (by simp)
    rw [Nat.add_zero] at hrd
    refine L_reg [2] (fun K hK => ?_)
    simp [hrd]
    apply hK; clear hK K
    exact L_ret ⟨.inr rfl, _, rfl, by simpa using h⟩
theorem valid_ac (n : Nat) (k : Nat) (v : AV) (l : List Int) (H : AH) (Q : AV → AH → Prop) (hn : n ≤ 1000) (hl : l.length ≤ 1000000) (hok : Okb n l) (hk : l.length = k) (hv : Ls H v l) (h : Q (.bool true) H) : AC Try.prog 44 [v, .int .i64 n, .int .i64 k] H Q := by
  obtain ⟨r, off, ver, sz, full, rfl, hld⟩ := hv
  refine L_body 41 Try.func44 rfl rfl ?_
  refine L_reg [0, 1, 2] (fun K hK => ?_)
  simp
  apply hK; clear hK K
  refine L_reg [0, 1, 2, 9, 10, 11] (fun K hK => ?_)
  simp
  apply hK; clear hK K
  refine L_block (L_loopV [11] (fun k vs H' => ∃ (i : Nat), k = l.length - i ∧ i ≤ l.length ∧ vs = [.int .i64 i] ∧ H = H') _ [.int .i64 (0 : Nat)] rfl ⟨0, rfl, by omega, rfl, rfl⟩ ?_)
  rintro k' _ _ ⟨i, rfl, hi, rfl, rfl⟩
  refine L_reg [0, 1, 2, 9, 10, 11, 12] (fun K hK => ?_)
  simp
  apply hK; clear hK K
  refine L_dec (i < l.length) (by simp) (fun hlt => ?_) (fun hge => L_exit ?_)
  · obtain ⟨r', rfl, rfl, hrd⟩ := hld i hlt
    have hx := hok.1 _ (List.getElem_mem hlt)
    refine L_block ?_
    refine L_reg [0, 1, 2, 7, 8, 9, 10, 11] (fun K hK => ?_)
    simp [hlt, hrd]
    apply hK; clear hK K
    cases i with
    | zero =>
      generalize l[0] = x at hx
      refine L_reg [0, 1, 2, 9, 10, 11, 35] (fun K hK => ?_)
      simp [pickV, show ¬ x < 0 by omega, show ¬ (n : Int) ≤ x by omega]
      apply hK; clear hK K
      refine L_false (by simp) ?_
      refine L_reg [0, 1, 2, 9, 10, 11] (fun K hK => ?_)
      simp [wrap_i64 (a := 1) (by omega)]
      apply hK; clear hK K
      exact ⟨l.length - 1, [.int .i64 (1 : Nat)], by omega, by simp, 1, rfl, by omega, rfl, rfl⟩
    | succ i =>
      obtain ⟨r2, h3, -, hrd2⟩ := hld i (by omega)
      obtain rfl := Option.some.inj h3
      have hlt2 : l[i] < l[i + 1] := by
        have := List.pairwise_iff_getElem.1 hok.2 i (i + 1) (by omega) hlt (by omega)
        exact this
      generalize l[i + 1] = x at hx hlt2
      generalize l[i] = y at hrd2 hlt2
      have hw : IntKind.i64.wrap (i : Int) = (i : Int) := wrap_i64 (by omega)
      refine L_reg [0, 1, 2, 9, 10, 11, 35] (fun K hK => ?_)
      simp [pickV, show ¬ x < 0 by omega, show ¬ (n : Int) ≤ x by omega, show (0 : Int) < (i : Int) + 1 by omega, hw, show i < l.length by omega, hrd2, show ¬ x ≤ y by omega]
      apply hK; clear hK K
      refine L_false (by simp) ?_
      refine L_reg [0, 1, 2, 9, 10, 11] (fun K hK => ?_)
      simp [wrap_i64 (a := (i : Int) + 1 + 1) (by omega)]
      apply hK; clear hK K
      exact ⟨l.length - (i + 1 + 1), [.int .i64 (i + 1 + 1 : Nat)], by omega, by simp, i + 1 + 1, rfl, by omega, rfl, rfl⟩
  · subst hk
    refine L_reg [6] (fun K hK => ?_)
    simp
    apply hK; clear hK K
    exact L_ret ⟨.inr rfl, _, rfl, h⟩
/-- An own list grows; all other rows stay. -/
theorem own_grow {P : Program} {N : Nat} {H : AH} {t u : TypeId} (ht : elT P t = true) (hu : elT P u = true) {v x : AV} {l : List AV} {m : Nat} (hN : N ≤ H.length) (ho : OwnF N H v l) (hx : x.one = true) (hlen : l.length < 16777216) :
    ∃ r ver s H', aAppend P (H ++ [AObj.row [x] 0 m false]) t u v (.slice (some H.length) 0 1 0 1 false) = some (.slice (some r) 0 (l.length + 1) ver 1 false, H') ∧ N ≤ r ∧ H'[r]? = some (.row (l ++ [x]) ver s false) ∧ KeepX r H H' ∧ (∀ r0 ver0, v = .slice (some r0) 0 l.length ver0 1 false → r = r0) ∧ (v = .slice none 0 0 0 1 false → H.length ≤ r) := by
  obtain ⟨e, I, h1, h2, h3, h4, -⟩ := elT_some ht
  obtain ⟨e', I', g1, -⟩ := elT_some hu
  have hsrc : aSrc P (H ++ [AObj.row [x] 0 m false]) u 1 (.slice (some H.length) 0 1 0 1 false) = some (1, [x]) := by
    cases x <;> simp_all [aSrc, ldn, takeKnown, AV.one]
  unfold aAppend
  rcases ho with ⟨rfl, rfl⟩ | ⟨r, ver, stale, hr0, rfl, hr⟩
  · refine ⟨H.length + 1, 0, 0, H ++ [AObj.row [x] 0 m false] ++ [AObj.row [x] 0 0 false], ?_, by omega, by simp, ?_, fun r0 v0 h => (by cases h), fun _ => by omega⟩
    · simp [h1, h2, h3, h4, hsrc, hx]
    · rw [List.append_assoc]; exact (KeepX.refl _ H).ext (.push _ _)
  · have hlt : r < H.length := (List.getElem?_eq_some_iff.1 hr).1
    have hr' : (H ++ [AObj.row [x] 0 m false])[r]? = some (AObj.row l ver stale false) := by rw [List.getElem?_append_left hlt]; exact hr
    refine ⟨r, ver + 1, min stale l.length, (H ++ [AObj.row [x] 0 m false]).set r (AObj.row (l ++ [x]) (ver + 1) (min stale l.length) false), ?_, hr0, get_set hr', ((KeepX.refl r H).ext (.push _ _)).set _, fun r0 v0 h => (by cases h; rfl), fun h => (by cases h)⟩
    have : l.length + 1 ≤ 16777216 := hlen
    have hin : inPlace (H ++ [AObj.row [x] 0 m false]) r 0 l.length 1 ver 1 [x] = none := by simp [inPlace, hr']; omega
    simp [h1, h2, h3, h4, hsrc, hx, grow, hr', this, hin]
end Go.Proofs.Ytpdcmdmhamnndaa
