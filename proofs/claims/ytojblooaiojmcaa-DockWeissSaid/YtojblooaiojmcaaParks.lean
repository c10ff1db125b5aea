/- Dock and its reference: Park, Serves, Next, Way, Lucky. -/
import Derived.Test.YtojblooaiojmcaaRef
namespace Go.Proofs.Ytojblooaiojmcaa
open Go Go.Proofs.Ytojblooaiojmcaa.AX

theorem rpark_ac (n : Nat) (v : AV) (l : List Nat) (H : AH) (Q : AV → AH → Prop) (hn : n ≤ 8) (hl : l.length ≤ 8) (hw : ∀ w ∈ l, w < n) (hv : Ls H v (l.map Int.ofNat)) (h : ∀ v' H', Ls H' v' (parkS n 0 l) → Ext H H' → Q v' H') : AC Try.prog 57 [.int .i64 n, v] H Q := by
  obtain ⟨r, off, ver, sz, full, rfl, hv⟩ := hv
  simp only [List.length_map] at hv ⊢
  refine L_body 24 Try.func57 rfl rfl ?_
  refine L_reg [0, 1] (fun K hK => ?_)
  simp
  apply hK; clear hK K
  refine L_reg [0, 1, 5] (fun K hK => ?_)
  simp
  apply hK; clear hK K
  refine L_reg [0, 1, 5, 6] (fun K hK => ?_)
  simp
  apply hK; clear hK K
  refine L_block (L_loopV [5, 6] (fun k vs H' => ∃ (i s : Nat) (u : AV) (done : List Int), k = l.length - i ∧ i ≤ l.length ∧ s < 256 ∧ done.length = i ∧ SameB s done ∧ done ++ parkS n s (l.drop i) = parkS n 0 l ∧ vs = [u, .int .i64 i] ∧
    Ext H H' ∧ OwnF H.length H' u (done.map (.int .i64))) _ [.slice none 0 0 0 1 false, .int .i64 (0 : Nat)] rfl ⟨0, 0, _, [], rfl, by omega, by omega, rfl, .zero, by simp, rfl, .refl _, .nil _ _⟩ ?_)
  rintro k _ H1 ⟨i, s, u, done, rfl, hi, hs, hd, hsb, hp, rfl, hE, hO⟩
  refine L_reg [0, 1, 5, 6, 10] (fun K hK => ?_)
  simp
  apply hK; clear hK K
  refine L_dec (i < l.length) (by simp) (fun hlt => ?_) (fun hge => L_exit ?_)
  · obtain ⟨r', rfl, rfl, hld⟩ := hv i hlt
    have hld' := hE.ld hld
    simp only [List.getElem_map] at hld'
    rw [List.drop_eq_getElem_cons hlt, parkS] at hp
    have hwn := hw l[i] (List.getElem_mem hlt)
    have hnl := nextSet_lt (w := l[i]) hn hs
    have hnr := nr_ff' hsb hwn
    have hcond : (nr done (n - l[i]) l[i] = -1 ∧ nextSet n s l[i] = s) ∨ ∃ b : Nat, b < n ∧ nr done (n - l[i]) l[i] = b ∧ nextSet n s l[i] = s ||| 2 ^ b := by
      rw [hnr, nextSet]
      by_cases hb : ff s (n - l[i]) l[i] < n
      · exact .inr ⟨_, hb, by rw [if_pos hb], by rw [if_pos hb]⟩
      · exact .inl ⟨by rw [if_neg hb], by rw [if_neg hb]⟩
    have hsb' : SameB (nextSet n s l[i]) (done ++ [nr done (n - l[i]) l[i]]) := by
      rcases hcond with ⟨h1, h2⟩ | ⟨b, -, h1, h2⟩
      · rw [h1, h2]; exact hsb.away
      · rw [h1, h2]; exact hsb.add b
    rw [← hnr] at hp
    obtain ⟨ur, uv, hu⟩ := hO.len
    refine L_block ?_
    refine L_reg [0, 1, 5, 6] (fun K hK => ?_)
    simp [okFn_low, hlt, hld']
    refine rnext_ac n l[i] u done _ _ hn (by omega) hO.own.ls ?_
    generalize nr done (n - l[i]) l[i] = x at hp hsb'
    obtain ⟨v', H', he, hO', hE'⟩ := ownF_append hE el22 el22 (x := .int .i64 x) (m := 1) hO rfl (by simp; omega)
    simp [he]
    apply hK; clear hK K
    refine L_reg [0, 1, 5, 6] (fun K hK => ?_)
    simp [wrap_i64 (a := (i : Int) + 1) (by omega)]
    apply hK; clear hK K
    exact ⟨l.length - (i + 1), [v', .int .i64 (i + 1 : Nat)], by omega, rfl, i + 1, nextSet n s l[i], v', done ++ [x], rfl, by omega, hnl, by simp [hd], hsb', by simpa using hp, rfl, hE', by simpa using hO'⟩
  · refine L_reg [4] (fun K hK => ?_)
    simp
    apply hK; clear hK K
    refine L_ret ⟨.inr rfl, _, rfl, ?_⟩
    have hi' : i = l.length := by omega
    subst hi'
    simp [parkS] at hp
    subst hp
    exact h _ _ hO.own.ls hE

theorem rserves_ac (n : Nat) (v : AV) (l : List Nat) (H : AH) (Q : AV → AH → Prop) (hn : n ≤ 8) (hl : l.length ≤ 8) (hw : ∀ w ∈ l, w < n) (hv : Ls H v (l.map Int.ofNat)) (h : ∀ H', Ext H H' → Q (.bool (!decide (-1 ∈ parkS n 0 l))) H') : AC Try.prog 59 [.int .i64 n, v] H Q := by
  refine L_body 10 Try.func59 rfl rfl ?_
  refine L_reg [0, 1] (fun K hK => ?_)
  simp
  apply hK; clear hK K
  refine L_reg [4] (fun K hK => ?_)
  simp [okFn_low]
  refine rpark_ac n v l _ _ hn hl hw hv (fun v' H' hv' hE => ?_)
  simp [okFn_low]
  refine rhas_ac _ _ _ _ _ (by rw [parkS_length]; omega) hv' ?_
  simp
  apply hK; clear hK K
  exact L_ret ⟨.inr rfl, _, rfl, by simpa using h _ hE⟩

/-- Checked wishes, as numbers. -/
theorem checked {n : Int} {l : List Int} (h : checkS n l = 0) : ∃ (m : Nat) (l' : List Nat), n = m ∧ 1 ≤ m ∧ m ≤ 8 ∧ l = l'.map Int.ofNat ∧ l'.length ≤ m ∧ ∀ w ∈ l', w < m := by
  obtain ⟨h1, h2⟩ := checkS_ok h
  obtain ⟨m, rfl⟩ := Int.eq_ofNat_of_zero_le (show 0 ≤ n by omega)
  have hl : l.length ≤ m ∧ okL m l = true := by
    unfold checkS at h
    split at h
    · cases h
    · split at h
      · cases h
      · split at h
        · rename_i h3 h4; exact ⟨by omega, h4⟩
        · cases h
  obtain ⟨l', rfl, hw⟩ := okL_nat hl.2
  exact ⟨m, l', rfl, by omega, by omega, rfl, by simpa using hl.1, fun w hw' => by have := hw w hw'; omega⟩

def natL (l : List Int) : List Nat := l.map Int.toNat
theorem natL_of (l : List Nat) : natL (l.map Int.ofNat) = l := by
  simp [natL, List.map_map]
  conv => rhs; rw [← List.map_id l]
  exact List.map_congr_left fun _ _ => rfl
def parkedS (n : Int) (l : List Int) : List Int := if checkS n l ≠ 0 then [] else parkS n.toNat 0 (natL l)
def servesS (n : Int) (l : List Int) : Bool := if checkS n l ≠ 0 then false else !decide (-1 ∈ parkS n.toNat 0 (natL l))
theorem parkedS_ok {m : Nat} {l : List Nat} (h : checkS m (l.map Int.ofNat) = 0) : parkedS m (l.map Int.ofNat) = parkS m 0 l := by
  rw [parkedS, if_neg (by simp only [h, ne_eq, not_true_eq_false, not_false_eq_true]), natL_of]; rfl
theorem servesS_ok {m : Nat} {l : List Nat} (h : checkS m (l.map Int.ofNat) = 0) : servesS m (l.map Int.ofNat) = !decide (-1 ∈ parkS m 0 l) := by
  rw [servesS, if_neg (by simp only [h, ne_eq, not_true_eq_false, not_false_eq_true]), natL_of]; rfl

theorem Park_ac (n : Int) (v : AV) (l : List Int) (H : AH) (Q : AV → AH → Prop) (hl : l.length ≤ 1048576) (hv : Ls H v l) (h : ∀ v' H', Ls H' v' (parkedS n l) → Ext H H' → Q (.tuple [v', .int .i64 (checkS n l)]) H') : AC Try.prog 16 [.int .i64 n, v] H Q := by
  refine L_body 16 Try.func16 rfl rfl ?_
  refine L_reg [0, 1] (fun K hK => ?_)
  simp
  apply hK; clear hK K
  refine L_reg [0, 1, 6] (fun K hK => ?_)
  simp [okFn_low]
  refine Check_ac _ _ l _ _ hl hv ?_
  simp
  apply hK; clear hK K
  refine L_reg [0, 1, 6, 11] (fun K hK => ?_)
  simp
  apply hK; clear hK K
  by_cases h0 : checkS n l = 0
  · refine L_false (by simp [h0]) ?_
    obtain ⟨m, l', rfl, hm1, hm8, rfl, hlen, hw⟩ := checked h0
    rw [parkedS_ok h0, h0] at h
    refine L_reg [4, 5] (fun K hK => ?_)
    simp [okFn_low]
    refine park_ac m v l' _ _ hm8 (by omega) hv (fun v' H' hv' hE => ?_)
    simp
    apply hK; clear hK K
    exact L_ret ⟨.inr rfl, _, rfl, h _ _ hv' hE⟩
  · refine L_true (by simp [h0]) ?_
    refine L_reg [4, 5] (fun K hK => ?_)
    simp
    apply hK; clear hK K
    rw [parkedS, if_pos h0] at h
    exact L_ret ⟨.inr rfl, _, rfl, h _ _ (.nil _) (.refl _)⟩

theorem rPark_ac (n : Int) (v : AV) (l : List Int) (H : AH) (Q : AV → AH → Prop) (hl : l.length ≤ 1048576) (hv : Ls H v l) (h : ∀ v' H', Ls H' v' (parkedS n l) → Ext H H' → Q (.tuple [v', .int .i64 (checkS n l)]) H') : AC Try.prog 17 [.int .i64 n, v] H Q := by
  refine L_body 16 Try.func17 rfl rfl ?_
  refine L_reg [0, 1] (fun K hK => ?_)
  simp
  apply hK; clear hK K
  refine L_reg [0, 1, 6] (fun K hK => ?_)
  simp [okFn_low]
  refine refCheck_ac _ _ l _ _ hl hv ?_
  simp
  apply hK; clear hK K
  refine L_reg [0, 1, 6, 11] (fun K hK => ?_)
  simp
  apply hK; clear hK K
  by_cases h0 : checkS n l = 0
  · refine L_false (by simp [h0]) ?_
    obtain ⟨m, l', rfl, hm1, hm8, rfl, hlen, hw⟩ := checked h0
    rw [parkedS_ok h0, h0] at h
    refine L_reg [4, 5] (fun K hK => ?_)
    simp [okFn_low]
    refine rpark_ac m v l' _ _ hm8 (by omega) hw hv (fun v' H' hv' hE => ?_)
    simp
    apply hK; clear hK K
    exact L_ret ⟨.inr rfl, _, rfl, h _ _ hv' hE⟩
  · refine L_true (by simp [h0]) ?_
    refine L_reg [4, 5] (fun K hK => ?_)
    simp
    apply hK; clear hK K
    rw [parkedS, if_pos h0] at h
    exact L_ret ⟨.inr rfl, _, rfl, h _ _ (.nil _) (.refl _)⟩

theorem Serves_ac (n : Int) (v : AV) (l : List Int) (H : AH) (Q : AV → AH → Prop) (hl : l.length ≤ 1048576) (hv : Ls H v l) (h : ∀ H', Ext H H' → Q (.tuple [.bool (servesS n l), .int .i64 (checkS n l)]) H') : AC Try.prog 18 [.int .i64 n, v] H Q := by
  refine L_body 16 Try.func18 rfl rfl ?_
  refine L_reg [0, 1] (fun K hK => ?_)
  simp
  apply hK; clear hK K
  refine L_reg [0, 1, 6] (fun K hK => ?_)
  simp [okFn_low]
  refine Check_ac _ _ l _ _ hl hv ?_
  simp
  apply hK; clear hK K
  refine L_reg [0, 1, 6, 11] (fun K hK => ?_)
  simp
  apply hK; clear hK K
  by_cases h0 : checkS n l = 0
  · refine L_false (by simp [h0]) ?_
    obtain ⟨m, l', rfl, hm1, hm8, rfl, hlen, hw⟩ := checked h0
    rw [servesS_ok h0, h0] at h
    refine L_reg [4, 5] (fun K hK => ?_)
    simp [okFn_low]
    refine serves_ac m v l' _ _ hm8 (by omega) hv (fun H' hE => ?_)
    simp
    apply hK; clear hK K
    exact L_ret ⟨.inr rfl, _, rfl, by simpa using h _ hE⟩
  · refine L_true (by simp [h0]) ?_
    refine L_reg [4, 5] (fun K hK => ?_)
    simp
    apply hK; clear hK K
    rw [servesS, if_pos h0] at h
    exact L_ret ⟨.inr rfl, _, rfl, h _ (.refl _)⟩

theorem rServes_ac (n : Int) (v : AV) (l : List Int) (H : AH) (Q : AV → AH → Prop) (hl : l.length ≤ 1048576) (hv : Ls H v l) (h : ∀ H', Ext H H' → Q (.tuple [.bool (servesS n l), .int .i64 (checkS n l)]) H') : AC Try.prog 19 [.int .i64 n, v] H Q := by
  refine L_body 16 Try.func19 rfl rfl ?_
  refine L_reg [0, 1] (fun K hK => ?_)
  simp
  apply hK; clear hK K
  refine L_reg [0, 1, 6] (fun K hK => ?_)
  simp [okFn_low]
  refine refCheck_ac _ _ l _ _ hl hv ?_
  simp
  apply hK; clear hK K
  refine L_reg [0, 1, 6, 11] (fun K hK => ?_)
  simp
  apply hK; clear hK K
  by_cases h0 : checkS n l = 0
  · refine L_false (by simp [h0]) ?_
    obtain ⟨m, l', rfl, hm1, hm8, rfl, hlen, hw⟩ := checked h0
    rw [servesS_ok h0, h0] at h
    refine L_reg [4, 5] (fun K hK => ?_)
    simp [okFn_low]
    refine rserves_ac m v l' _ _ hm8 (by omega) hw hv (fun H' hE => ?_)
    simp
    apply hK; clear hK K
    exact L_ret ⟨.inr rfl, _, rfl, by simpa using h _ hE⟩
  · refine L_true (by simp [h0]) ?_
    refine L_reg [4, 5] (fun K hK => ?_)
    simp
    apply hK; clear hK K
    rw [servesS, if_pos h0] at h
    exact L_ret ⟨.inr rfl, _, rfl, h _ (.refl _)⟩
end Go.Proofs.Ytojblooaiojmcaa
