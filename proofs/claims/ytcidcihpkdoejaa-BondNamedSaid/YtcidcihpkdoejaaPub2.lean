/- The largest groups that may not open, keys, and groups for which a rule and a plan differ. -/
import Derived.Test.YtcidcihpkdoejaaPub
namespace Go.Proofs.Ytcidcihpkdoejaa.Bo
open Go Go.Proofs.Ytcidcihpkdoejaa Go.Proofs.Ytcidcihpkdoejaa.AX
set_option maxRecDepth 100000
theorem il_rev (l : List Nat) : (il l).reverse = il l.reverse := by simp [il]
theorem il_app (l m : List Nat) : il (l ++ m) = il l ++ il m := by simp [il]
/-- What is one bit of a group. -/
def bN (x h : Nat) : Nat := if x.testBit h then 1 else 0
section
variable {P : Program} {t : TypeId} {l : Bool}
theorem n_shr (x h : Nat) (hh : h < 64) : binV P .shr t l (.int .i64 (x : Int)) (.int .i64 (h : Int)) = some (.int .i64 ((x >>> h : Nat) : Int)) := by
  rw [b_shr (Int.natCast_nonneg h)]
  have h1 : h ≤ IntKind.i64.bits := Nat.le_of_lt hh
  have e : ((2 : Int) ^ h) = ((2 ^ h : Nat) : Int) := by simp
  rw [Int.toNat_natCast, Nat.min_eq_left h1, e, Int.fdiv_eq_ediv_of_nonneg _ (Int.natCast_nonneg _), ← Int.natCast_ediv, Nat.shiftRight_eq_div_pow]
theorem n_bit (x h : Nat) (hx : x < 64) : binV P .and t l (.int .i64 ((x >>> h : Nat) : Int)) (.int .i64 1) = some (.int .i64 (bN x h : Nat)) := by
  have h1 : x >>> h < 64 := Nat.lt_of_le_of_lt (by rw [Nat.shiftRight_eq_div_pow]; exact Nat.div_le_self _ _) hx
  have := n_and (P := P) (t := t) (l := l) (x >>> h) 1 h1 (by decide)
  rw [show ((1 : Nat) : Int) = 1 from rfl] at this
  rw [this, Nat.and_one_is_mod]
  congr 2
  unfold bN
  rw [Nat.testBit, Nat.and_comm, Nat.and_one_is_mod]
  rcases Nat.mod_two_eq_zero_or_one (x >>> h) with h | h <;> simp [h]
end

theorem Barred_bad (n : Int) (l : List Int) (s : AV) (hlen : l.length ≤ 1000000) (hc : chk n l ≠ 0) (H : AH) (hs : Ls H s l) (Q : AV → AH → Prop) (h : Q (.tuple [nilS, .int .i64 (chk n l)]) H) : AC Try.prog 20 [cA n s] H Q := by
  refine AC.quiet (belB_ne _ _ _) (fun Q h => ?_) Q h
  refine L_body 36 Try.func20 rfl rfl ?_
  have hk := ls_known hs
  refine L_reg [1] (fun K hK => ?_)
  simp [cA, AV.isU, acells]
  apply hK; clear hK K
  have h1 : (H ++ [AObj.row [.int .i64 n, s] 0 0 false])[H.length]? = some (.row [.int .i64 n, s] 0 0 false) := by simp
  have hE : Ext H (H ++ [AObj.row [.int .i64 n, s] 0 0 false]) := .push _ _
  generalize H ++ [AObj.row [.int .i64 n, s] 0 0 false] = H1 at h1 hE ⊢
  have a1 := ldn_c h1 hk
  obtain ⟨I, hI, hz⟩ := zeroT_some zt94
  refine L_reg [4, 5] (fun K hK => ?_)
  simp [okFn_low, a1]
  refine checkedRule_ac n l s hlen _ (hs.ext hE) _ fun H2 hE2 => ?_
  have hst := st2 (t := 94) ag94 (n := 0) (s := nilS) (k := 0) (n' := 0) (s' := nilS) (p := H2.length) (H := H2 ++ [AObj.row [.int .i64 0, nilS] 0 0 false]) (by simp) (by intro h; cases h) rfl
  simp [hI, hz, inS_bad hc, hst, cA]
  apply hK; clear hK K
  have h4 : (H2 ++ [AObj.row [.int .i64 0, nilS] 0 0 false])[H2.length]? = some (.row [.int .i64 0, nilS] 0 0 false) := by simp
  have hE3 : Ext H (H2 ++ [AObj.row [.int .i64 0, nilS] 0 0 false]) := (hE.trans hE2).trans (.push _ _)
  generalize H2 ++ [AObj.row [.int .i64 0, nilS] 0 0 false] = H3 at h4 hE3 ⊢
  refine L_reg [4, 5, 15] (fun K hK => ?_)
  simp
  apply hK; clear hK K
  refine L_true (by simp [hc]) ?_
  refine L_reg [2, 3] (fun K hK => ?_)
  simp
  apply hK; clear hK K
  exact L_ret ⟨.inr rfl, _, rfl, h _ hE3⟩
theorem Barred_ok {n : Nat} {l : List Nat} (hr : OkR n l) (s : AV) (H : AH) (hs : Ls H s (il l)) (Q : AV → AH → Prop) (h : ∀ v H', OwnF H.length H' v ((il (mostS (2 ^ n) (within l))).map (.int .i64)) → Ext H H' → Q (.tuple [v, .int .i64 0]) H') : AC Try.prog 20 [cA n s] H Q := by
  have hc := ok_chk hr
  have hlen : (il l).length ≤ 1000000 := by rw [il_len]; have := hr.len; omega
  have h64 := pw64 hr.n6
  have hp := pw n
  refine L_body 36 Try.func20 rfl rfl ?_
  have hk := ls_known hs
  refine L_reg [1] (fun K hK => ?_)
  simp [cA, AV.isU, acells]
  apply hK; clear hK K
  have h1 : (H ++ [AObj.row [.int .i64 n, s] 0 0 false])[H.length]? = some (.row [.int .i64 n, s] 0 0 false) := by simp
  have hE : Ext H (H ++ [AObj.row [.int .i64 n, s] 0 0 false]) := .push _ _
  generalize H ++ [AObj.row [.int .i64 n, s] 0 0 false] = H1 at h1 hE ⊢
  have a1 := ldn_c h1 hk
  obtain ⟨I, hI, hz⟩ := zeroT_some zt94
  refine L_reg [4, 5] (fun K hK => ?_)
  simp [okFn_low, a1]
  refine checkedRule_ac n (il l) s hlen _ (hs.ext hE) _ fun H2 hE2 => ?_
  have hst := st2 (t := 94) ag94 (n := n) (s := s) (k := 0) (n' := 0) (s' := nilS) (p := H2.length) (H := H2 ++ [AObj.row [.int .i64 0, nilS] 0 0 false]) (by simp) (by intro h; cases h) (ls_one hs)
  simp [hI, hz, inS_ok hc, hst, cA]
  apply hK; clear hK K
  have h4 : (H2 ++ [AObj.row [.int .i64 n, s] 0 0 false])[H2.length]? = some (.row [.int .i64 n, s] 0 0 false) := by simp
  have hE3 : Ext H (H2 ++ [AObj.row [.int .i64 n, s] 0 0 false]) := (hE.trans hE2).trans (.push _ _)
  generalize H2 ++ [AObj.row [.int .i64 n, s] 0 0 false] = H3 at h4 hE3 ⊢
  have a4 := ldn_c h4 hk
  have c0 := ld_c0 h4
  have c1 := ld_c1 h4 hk
  have hs3 := hs.ext hE3
  refine L_reg [4, 5, 15] (fun K hK => ?_)
  simp [hc]
  apply hK; clear hK K
  refine L_false (by simp) ?_
  refine L_reg [4, 6] (fun K hK => ?_)
  simp
  apply hK; clear hK K
  refine L_reg [4, 6, 18, 19, 20] (fun K hK => ?_)
  simp [okFn_low, a4]
  refine locks_ac hr s _ hs3 _ fun w H4 how hE4 => ?_
  have hln := ownF_ln how.2
  have hm := most_is n (within l)
  have hok := locks_ok n l
  have hll : (locksS n l).length ≤ 2 ^ n := least_len _ _
  change ((locksS n l).map (cm n)).reverse = _ at hm
  simp [hln, il_len]
  apply hK; clear hK K
  have hlw := ownF_ls how.2
  have h6 : H4[H2.length]? = some (.row [.int .i64 n, s] 0 0 false) := by rw [hE4.2 _ (List.getElem?_eq_some_iff.1 h4).1]; exact h4
  have hp6 := (List.getElem?_eq_some_iff.1 h6).1
  clear how hln
  obtain ⟨L, hL⟩ : ∃ L, locksS n l = L := ⟨_, rfl⟩
  rw [hL] at hlw hm hok hll ⊢
  have hsx := hs3.ext hE4
  refine L_block (L_loopV [6, 20] (fun q vs H' => ∃ (i : Nat) (v : AV), q = L.length - i ∧ i ≤ L.length ∧ vs = [v, .int .i64 i] ∧ Ext H4 H' ∧ OwnF H4.length H' v ((il ((L.take i).map (cm n))).map (.int .i64))) _ [nilS, .int .i64 (0 : Nat)] rfl ⟨0, _, rfl, by omega, rfl, .refl _, OwnF.nil _ _⟩ ?_)
  rintro q _ H5 ⟨i, v, rfl, hi, rfl, hE5, ho⟩
  refine L_reg [4, 6, 18, 19, 20, 21] (fun K hK => ?_)
  simp
  apply hK; clear hK K
  refine L_dec (i < L.length) (by simp) (fun hlt => ?_) (fun hge => L_exit ?_)
  · refine L_block ?_
    obtain ⟨rz, pz, vz, hix, hldz⟩ := il_ix (hlw.ext hE5) hlt
    have hx := hok L[i] (List.getElem_mem hlt)
    have htk : L.take (i + 1) = L.take i ++ [L[i]] := by rw [List.take_succ_eq_append_getElem hlt]
    generalize L[i] = x at hldz hx htk
    refine L_reg [4, 6, 8, 18, 19, 20] (fun K hK => ?_)
    simp [hix, hldz]
    apply hK; clear hK K
    have h7 : H5[H2.length]? = some (.row [.int .i64 n, s] 0 0 false) := by rw [hE5.2 _ hp6]; exact h6
    have a7 := ldn_c h7 hk
    have han : ∀ tt ll, binV Try.prog .andNot tt ll (.int .i64 ((2 ^ n - 1 : Nat) : Int)) (.int .i64 (x : Int)) = some (.int .i64 (cm n x : Nat)) := fun _ _ => by rw [n_andNot (2 ^ n - 1) x (by omega) (by omega), adn_cm hr.n6 hx]
    obtain ⟨v', H6, happ, ho2, hE6⟩ := ownF_append (P := Try.prog) (m := 1) (x := .int .i64 (cm n x : Nat)) hE5 el22 el22 ho rfl (by simp [il_len]; omega)
    refine L_reg [4, 6, 18, 19, 20] (fun K hK => ?_)
    simp [okFn_low, a7]
    refine everybody_q hr.n6 s hk _ _ ?_
    simp [han, happ]
    apply hK; clear hK K
    refine L_reg [4, 6, 18, 19, 20] (fun K hK => ?_)
    simp [wrap_i64 (a := (i : Int) + 1) (by omega)]
    apply hK; clear hK K
    refine ⟨L.length - (i + 1), [v', .int .i64 (i + 1 : Nat)], by omega, by simp, i + 1, v', rfl, by omega, rfl, hE6, ?_⟩
    rw [htk]
    simpa [il] using ho2
  · have e : i = L.length := by omega
    subst e
    rw [List.take_length] at ho
    refine L_reg [6] (fun K hK => ?_)
    simp [okFn_low]
    refine reverse_own hE5 ho (by simp [il_len]; omega) _ fun H6 ho6 hE6 => ?_
    simp
    apply hK; clear hK K
    rw [il_rev, hm] at ho6
    refine L_reg [2, 3] (fun K hK => ?_)
    simp
    apply hK; clear hK K
    exact L_ret ⟨.inr rfl, _, rfl, h v H6 (ho6.mono (Nat.le_trans hE3.1 hE4.1)) ((hE3.trans hE4).trans hE6)⟩
/-- Keys of holders. -/
def kL (n : Nat) (f : Nat → Nat) : List Int := (List.range n).map fun x => (f x : Int)
def upN (f : Nat → Nat) (i v : Nat) : Nat → Nat := fun x => if x = i then v else f x
theorem kL_len (n : Nat) (f : Nat → Nat) : (kL n f).length = n := by simp [kL]
theorem kL_get {n : Nat} (f : Nat → Nat) {i : Nat} (h : i < n) : ((kL n f).map (AV.int .i64))[i]? = some (.int .i64 (f i : Nat)) := by simp [kL, h]
theorem kL_set {n : Nat} (f : Nat → Nat) {i : Nat} (v : Nat) (_h : i < n) : ((kL n f).map (AV.int .i64)).set i (.int .i64 (v : Nat)) = (kL n (upN f i v)).map (AV.int .i64) := by
  apply List.ext_getElem
  · simp [kL]
  · intro j h1 h2
    simp only [kL, List.map_map, List.getElem_set, List.getElem_map, List.getElem_range, Function.comp, upN]
    by_cases e : i = j
    · subst e; simp
    · rw [if_neg e, if_neg (by omega)]
theorem kL_rep (n : Nat) : List.replicate n (AV.int .i64 0) = (kL n (fun _ => 0)).map (.int .i64) := by
  apply List.ext_getElem
  · simp [kL]
  · intro j h1 h2; simp [kL]
theorem kL_ext {n : Nat} {f g : Nat → Nat} (h : ∀ x, x < n → f x = g x) : kL n f = kL n g := by
  unfold kL
  apply List.map_congr_left
  intro x hx
  rw [h x (List.mem_range.1 hx)]
/-- The keys after so many locks, and in one lock after so many holders. -/
def kA (l : List Nat) (i h : Nat) : Nat → Nat := fun x => if x < h then keyS (l.take (i + 1)) x else keyS (l.take i) x
theorem kA_zero (l : List Nat) (i : Nat) : kA l i 0 = keyS (l.take i) := by funext x; simp [kA]
theorem keyS_snoc (l : List Nat) (o x : Nat) : keyS (l ++ [o]) x = keyS l x + bN o x := by
  unfold keyS bN
  rw [List.countP_append]
  cases h : o.testBit x <;> simp [h]
theorem kA_step {l : List Nat} {i : Nat} (hi : i < l.length) (h : Nat) : upN (kA l i h) h (kA l i h h + bN l[i] h) = kA l i (h + 1) := by
  funext x
  unfold upN
  by_cases e : x = h
  · subst e
    rw [if_pos rfl]
    unfold kA
    rw [if_neg (by omega), if_pos (by omega), List.take_succ_eq_append_getElem hi, keyS_snoc]
  · rw [if_neg e]
    unfold kA
    by_cases h2 : x < h
    · rw [if_pos h2, if_pos (by omega)]
    · rw [if_neg h2, if_neg (by omega)]
theorem keyS_le (l : List Nat) (x : Nat) : keyS l x ≤ l.length := List.countP_le_length
theorem Keys_bad (n : Int) (l : List Int) (s : AV) (hlen : l.length ≤ 1000000) (hc : chk n l ≠ 0) (H : AH) (hs : Ls H s l) (Q : AV → AH → Prop) (h : Q (.tuple [nilS, .int .i64 (chk n l)]) H) : AC Try.prog 31 [cA n s] H Q := by
  refine AC.quiet (belB_ne _ _ _) (fun Q h => ?_) Q h
  refine L_body 48 Try.func31 rfl rfl ?_
  have hk := ls_known hs
  refine L_reg [1] (fun K hK => ?_)
  simp [cA, AV.isU, acells]
  apply hK; clear hK K
  have h1 : (H ++ [AObj.row [.int .i64 n, s] 0 0 false])[H.length]? = some (.row [.int .i64 n, s] 0 0 false) := by simp
  have hE : Ext H (H ++ [AObj.row [.int .i64 n, s] 0 0 false]) := .push _ _
  generalize H ++ [AObj.row [.int .i64 n, s] 0 0 false] = H1 at h1 hE ⊢
  have a1 := ldn_c h1 hk
  obtain ⟨I, hI, hz⟩ := zeroT_some zt104
  refine L_reg [4, 5] (fun K hK => ?_)
  simp [okFn_low, a1]
  refine checkedPlan_ac n l s hlen _ (hs.ext hE) _ fun H2 hE2 => ?_
  have hst := st2 (t := 104) ag104 (n := 0) (s := nilS) (k := 0) (n' := 0) (s' := nilS) (p := H2.length) (H := H2 ++ [AObj.row [.int .i64 0, nilS] 0 0 false]) (by simp) (by intro h; cases h) rfl
  simp [hI, hz, inS_bad hc, hst, cA]
  apply hK; clear hK K
  have h4 : (H2 ++ [AObj.row [.int .i64 0, nilS] 0 0 false])[H2.length]? = some (.row [.int .i64 0, nilS] 0 0 false) := by simp
  have hE3 : Ext H (H2 ++ [AObj.row [.int .i64 0, nilS] 0 0 false]) := (hE.trans hE2).trans (.push _ _)
  generalize H2 ++ [AObj.row [.int .i64 0, nilS] 0 0 false] = H3 at h4 hE3 ⊢
  refine L_reg [4, 5, 16] (fun K hK => ?_)
  simp
  apply hK; clear hK K
  refine L_true (by simp [hc]) ?_
  refine L_reg [2, 3] (fun K hK => ?_)
  simp
  apply hK; clear hK K
  exact L_ret ⟨.inr rfl, _, rfl, h _ hE3⟩
theorem Keys_ok {n : Nat} {l : List Nat} (hr : OkR n l) (s : AV) (H : AH) (hs : Ls H s (il l)) (Q : AV → AH → Prop) (h : ∀ v H', OwnF H.length H' v ((kL n (keyS l)).map (.int .i64)) → Ext H H' → Q (.tuple [v, .int .i64 0]) H') : AC Try.prog 31 [cA n s] H Q := by
  have hc := ok_chk hr
  have hlen : (il l).length ≤ 1000000 := by rw [il_len]; have := hr.len; omega
  have h64 := pw64 hr.n6
  have hp := pw n
  refine L_body 48 Try.func31 rfl rfl ?_
  have hk := ls_known hs
  refine L_reg [1] (fun K hK => ?_)
  simp [cA, AV.isU, acells]
  apply hK; clear hK K
  have h1 : (H ++ [AObj.row [.int .i64 n, s] 0 0 false])[H.length]? = some (.row [.int .i64 n, s] 0 0 false) := by simp
  have hE : Ext H (H ++ [AObj.row [.int .i64 n, s] 0 0 false]) := .push _ _
  generalize H ++ [AObj.row [.int .i64 n, s] 0 0 false] = H1 at h1 hE ⊢
  have a1 := ldn_c h1 hk
  obtain ⟨I, hI, hz⟩ := zeroT_some zt104
  refine L_reg [4, 5] (fun K hK => ?_)
  simp [okFn_low, a1]
  refine checkedPlan_ac n (il l) s hlen _ (hs.ext hE) _ fun H2 hE2 => ?_
  have hst := st2 (t := 104) ag104 (n := n) (s := s) (k := 0) (n' := 0) (s' := nilS) (p := H2.length) (H := H2 ++ [AObj.row [.int .i64 0, nilS] 0 0 false]) (by simp) (by intro h; cases h) (ls_one hs)
  simp [hI, hz, inS_ok hc, hst, cA]
  apply hK; clear hK K
  have h4 : (H2 ++ [AObj.row [.int .i64 n, s] 0 0 false])[H2.length]? = some (.row [.int .i64 n, s] 0 0 false) := by simp
  have hE3 : Ext H (H2 ++ [AObj.row [.int .i64 n, s] 0 0 false]) := (hE.trans hE2).trans (.push _ _)
  generalize H2 ++ [AObj.row [.int .i64 n, s] 0 0 false] = H3 at h4 hE3 ⊢
  have a4 := ldn_c h4 hk
  have c0 := ld_c0 h4
  have c1 := ld_c1 h4 hk
  have hs3 := hs.ext hE3
  have hn6 := hr.n6
  refine L_reg [4, 5, 16] (fun K hK => ?_)
  simp [hc]
  apply hK; clear hK K
  refine L_false (by simp) ?_
  refine L_reg [4, 6] (fun K hK => ?_)
  simp [c0, make_z elz22 (show n ≤ 16777216 by omega)]
  apply hK; clear hK K
  have hE4 : Ext H3 (H3 ++ [AObj.row (List.replicate n (AV.int .i64 0)) 0 0 false]) := .push _ _
  have hz4 : (H3 ++ [AObj.row (List.replicate n (AV.int .i64 0)) 0 0 false])[H3.length]? = some (.row ((kL n (kA l 0 0)).map (.int .i64)) 0 0 false) := by
    rw [kA_zero, List.take_zero, ← show (fun _ => 0) = keyS [] from by funext x; simp [keyS], ← kL_rep]; simp
  have hlen' := hr.len
  generalize H3 ++ [AObj.row (List.replicate n (AV.int .i64 0)) 0 0 false] = H4 at hE4 hz4 ⊢
  have c4 : ld H4 H2.length 1 0 = some s := ld_c1 (n := n) (k := 0) (ro := false) (by rw [hE4.2 _ (List.getElem?_eq_some_iff.1 h4).1]; exact h4) hk
  have hvl := ls_len (hs3.ext hE4)
  rw [il_len] at hvl
  refine L_reg [6, 24, 25, 26] (fun K hK => ?_)
  simp [c4, hvl]
  apply hK; clear hK K
  have hp3 := (List.getElem?_eq_some_iff.1 h4).1
  refine L_block (L_loopV [26] (fun q vs H' => ∃ (i t : Nat), q = l.length - i ∧ i ≤ l.length ∧ vs = [.int .i64 i] ∧ Ext H3 H' ∧ H'[H3.length]? = some (.row ((kL n (kA l i 0)).map (.int .i64)) 0 t false)) _ [.int .i64 (0 : Nat)] rfl ⟨0, 0, rfl, by omega, rfl, hE4, hz4⟩ ?_)
  clear c4 hvl hz4 hE4 H4
  rintro q _ H4 ⟨i, t, rfl, hi, rfl, hE4, hz4⟩
  refine L_reg [6, 24, 25, 26, 27] (fun K hK => ?_)
  simp
  apply hK; clear hK K
  refine L_dec (i < l.length) (by simp) (fun hlt => ?_) (fun hge => L_exit ?_)
  · refine L_block ?_
    obtain ⟨rz, pz, vz, hix, hldz⟩ := il_ix (hs3.ext hE4) hlt
    have hx := hr.ok64 l[i] (List.getElem_mem hlt)
    have hkA := fun h => kA_step hlt h
    generalize hxe : l[i] = x at hldz hx hkA
    refine L_reg [6, 8, 24, 25, 26] (fun K hK => ?_)
    simp [hix, hldz]
    apply hK; clear hK K
    refine L_reg [6, 8, 24, 25, 26, 31, 32] (fun K hK => ?_)
    simp
    apply hK; clear hK K
    refine L_block (L_loopV [32] (fun q vs H' => ∃ (j t : Nat), q = n - j ∧ j ≤ n ∧ vs = [.int .i64 j] ∧ Ext H3 H' ∧ H'[H3.length]? = some (.row ((kL n (kA l i j)).map (.int .i64)) 0 t false)) _ [.int .i64 (0 : Nat)] rfl ⟨0, t, rfl, by omega, rfl, hE4, hz4⟩ ?_)
    clear hz4 hE4 hldz H4
    rintro q _ H4 ⟨j, t, rfl, hj, rfl, hE4, hz4⟩
    refine L_reg [6, 8, 24, 25, 26, 31, 32, 33] (fun K hK => ?_)
    simp
    apply hK; clear hK K
    refine L_dec (j < n) (by simp) (fun hjl => ?_) (fun hjg => L_exit ?_)
    · refine L_block ?_
      refine L_reg [6, 8, 9, 24, 25, 26, 31, 32] (fun K hK => ?_)
      simp
      apply hK; clear hK K
      have hshr : ∀ tt ll, binV Try.prog .shr tt ll (.int .i64 (x : Int)) (.int .i64 (j : Int)) = some (.int .i64 ((x >>> j : Nat) : Int)) := fun _ _ => n_shr x j (by omega)
      have hbit : ∀ tt ll, binV Try.prog .and tt ll (.int .i64 ((x >>> j : Nat) : Int)) (.int .i64 1) = some (.int .i64 (bN x j : Nat)) := fun _ _ => n_bit x j hx
      have hldk : ld H4 H3.length j 0 = some (.int .i64 (kA l i j j : Nat)) := by rw [ld_row hz4, kL_get _ hjl]; rfl
      have hb1 : bN x j ≤ 1 := by unfold bN; split <;> omega
      have hk1 : kA l i j j ≤ 64 := by
        unfold kA
        split <;> exact Nat.le_trans (keyS_le _ _) (by rw [List.length_take]; omega)
      have hst := store_row (P := Try.prog) (u := 3) (p := j) sc3 (x := .int .i64 (kA l i j j + bN x j : Nat)) (y := .int .i64 (kA l i j j : Nat)) rfl hz4 (by rw [kL_get _ hjl]; rfl)
      rw [kL_set _ _ hjl, hkA j] at hst
      have hww : IntKind.i64.wrap ((kA l i j j : Int) + (bN x j : Int)) = ((kA l i j j + bN x j : Nat) : Int) := by rw [wrap_i64 (by omega)]; simp
      generalize kA l i j j = u at hldk hst hww hk1
      generalize bN x j = b at hbit hst hww hb1
      generalize x >>> j = y at hshr hbit
      have hst' : storeV Try.prog 3 H4 (.ptr H3.length j 0) (.int .i64 ((u : Int) + b)) = some (none, H4.set H3.length (AObj.row (List.map (AV.int IntKind.i64) (kL n (kA l i (j + 1)))) 0 (min t j) false)) := by
        rw [← hst]; simp
      refine L_regT mixed [6, 8, 24, 25, 26, 31, 32] (by kernel_rfl) (fun K hK => ?_)
      simp [hjl, hldk, hshr, hbit, hww, hst']
      apply hK; clear hK K
      refine L_reg [6, 8, 24, 25, 26, 31, 32] (fun K hK => ?_)
      simp [wrap_i64 (a := (j : Int) + 1) (by omega)]
      apply hK; clear hK K
      exact ⟨n - (j + 1), [.int .i64 (j + 1 : Nat)], by omega, by simp, j + 1, _, rfl, by omega, rfl, hE4.set _ (Nat.le_refl _), get_set hz4⟩
    · have e : j = n := by omega
      subst e
      refine L_reg [6, 24, 25, 26] (fun K hK => ?_)
      simp [wrap_i64 (a := (i : Int) + 1) (by omega)]
      apply hK; clear hK K
      refine ⟨l.length - (i + 1), [.int .i64 (i + 1 : Nat)], by omega, by simp, i + 1, t, rfl, by omega, rfl, hE4, ?_⟩
      rw [hz4, kL_ext (f := kA l i j) (g := kA l (i + 1) 0) fun x hx => by rw [kA_zero]; unfold kA; rw [if_pos hx]]
  · have e : i = l.length := by omega
    subst e
    rw [kA_zero, List.take_length] at hz4
    refine L_reg [2, 3] (fun K hK => ?_)
    simp
    apply hK; clear hK K
    exact L_ret ⟨.inr rfl, _, rfl, h _ _ (.inr ⟨H3.length, 0, t, hE3.1, by simp [kL_len], hz4⟩) (hE3.trans hE4)⟩
end Go.Proofs.Ytcidcihpkdoejaa.Bo
