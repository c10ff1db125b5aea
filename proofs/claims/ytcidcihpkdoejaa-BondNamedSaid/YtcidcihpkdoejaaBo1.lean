/- Circles: all holders, whether a number is a group, whether one lies in another, and whether a rule or a plan is right. -/
import Derived.Test.YtcidcihpkdoejaaTF
import Derived.Test.YtcidcihpkdoejaaBoM4
namespace Go.Proofs.Ytcidcihpkdoejaa.Bo
open Go Go.Proofs.Ytcidcihpkdoejaa Go.Proofs.Ytcidcihpkdoejaa.AX
set_option maxRecDepth 100000

/-- Holders and a list, as a value. -/
def cA (n : Int) (s : AV) : AV := .agg [.int .i64 n, s]
/-- Groups as ints. -/
def il (l : List Nat) : List Int := l.map fun x : Nat => (x : Int)
theorem il_len (l : List Nat) : (il l).length = l.length := by simp [il]
theorem il_get {l : List Nat} {i : Nat} (h : i < l.length) : (il l)[i]'(by rw [il_len]; exact h) = (l[i] : Int) := by simp [il]
section
variable {P : Program} {t : TypeId} {l : Bool}
theorem n_shl (n : Nat) (h : n ≤ 6) : binV P .shl t l (.int .i64 1) (.int .i64 (n : Int)) = some (.int .i64 ((2 ^ n : Nat) : Int)) := by
  match n, h with
  | 0, _ => rfl
  | 1, _ => rfl
  | 2, _ => rfl
  | 3, _ => rfl
  | 4, _ => rfl
  | 5, _ => rfl
  | 6, _ => rfl
theorem n_and (x y : Nat) (hx : x < 64) (hy : y < 64) : binV P .and t l (.int .i64 (x : Int)) (.int .i64 (y : Int)) = some (.int .i64 ((x &&& y : Nat) : Int)) := by
  simp only [b_and]
  have h1 : (BitVec.ofInt IntKind.i64.bits (x : Int) &&& BitVec.ofInt IntKind.i64.bits (y : Int)).toNat = x &&& y := by
    show (BitVec.ofInt 64 (x : Int) &&& BitVec.ofInt 64 (y : Int)).toNat = x &&& y
    simp only [BitVec.toNat_and, BitVec.ofInt_natCast, BitVec.toNat_ofNat]
    rw [Nat.mod_eq_of_lt (by omega), Nat.mod_eq_of_lt (by omega)]
  have h2 : x &&& y ≤ x := Nat.and_le_left
  rw [h1, wrap_i64 (by omega)]
def adn (x y : Nat) : Nat := (BitVec.ofNat 64 x &&& ~~~BitVec.ofNat 64 y).toNat
theorem adn_bit {x y : Nat} (hx : x < 64) (hy : y < 64) (i : Nat) : (adn x y).testBit i = (x.testBit i && !y.testBit i) := by
  unfold adn
  by_cases hi : i < 64
  · rw [BitVec.toNat_and, BitVec.toNat_not, Nat.testBit_and, BitVec.toNat_ofNat, BitVec.toNat_ofNat, Nat.mod_eq_of_lt (show x < 2 ^ 64 by omega), Nat.mod_eq_of_lt (show y < 2 ^ 64 by omega)]
    have e : 2 ^ 64 - 1 - y = 2 ^ 64 - (y + 1) := by omega
    rw [e, Nat.testBit_two_pow_sub_succ (by omega)]
    simp [hi]
  · rw [Nat.testBit_lt_two_pow (Nat.lt_of_lt_of_le (BitVec.isLt _) (Nat.pow_le_pow_right (show 0 < 2 by decide) (show 64 ≤ i by omega))), Nat.testBit_lt_two_pow (Nat.lt_of_lt_of_le hx (Nat.pow_le_pow_right (show 0 < 2 by decide) (show 6 ≤ i by omega)))]
    rfl
theorem adn_lt {x y : Nat} (hx : x < 64) (hy : y < 64) : adn x y < 64 := by
  apply Nat.lt_pow_two_of_testBit (n := 6)
  intro i hi
  rw [adn_bit hx hy, Nat.testBit_lt_two_pow (Nat.lt_of_lt_of_le hx (Nat.pow_le_pow_right (show 0 < 2 by decide) hi))]
  rfl
theorem n_andNot (x y : Nat) (hx : x < 64) (hy : y < 64) : binV P .andNot t l (.int .i64 (x : Int)) (.int .i64 (y : Int)) = some (.int .i64 (adn x y : Nat)) := by
  have h0 : binV P .andNot t l (.int .i64 (x : Int)) (.int .i64 (y : Int)) = some (.int .i64 (IntKind.i64.wrap (BitVec.ofInt IntKind.i64.bits (x : Int) &&& ~~~BitVec.ofInt IntKind.i64.bits (y : Int)).toNat)) := by simp [binV, aBin]
  rw [h0]
  have h1 : (BitVec.ofInt IntKind.i64.bits (x : Int) &&& ~~~BitVec.ofInt IntKind.i64.bits (y : Int)).toNat = adn x y := by
    show (BitVec.ofInt 64 (x : Int) &&& ~~~BitVec.ofInt 64 (y : Int)).toNat = adn x y
    simp only [BitVec.ofInt_natCast, adn]
  have h2 := adn_lt hx hy
  rw [h1, wrap_i64 (by omega)]
end
theorem adn_cm {n g : Nat} (hn : n ≤ 6) (hg : g < 2 ^ n) : adn (2 ^ n - 1) g = cm n g := by
  have h := pw64 hn
  have hp := pw n
  apply Nat.eq_of_testBit_eq
  intro i
  rw [adn_bit (by omega) (by omega), tb_cm hg, Nat.testBit_two_pow_sub_one]
theorem adn_sub {x y : Nat} (hx : x < 64) (hy : y < 64) : decide (adn x y = 0) = sub x y := by
  rw [Bool.eq_iff_iff, decide_eq_true_eq, sub_iff]
  constructor
  · intro h i hi
    have := adn_bit hx hy i
    rw [h, hi] at this
    cases hb : y.testBit i with
    | true => rfl
    | false => rw [hb] at this; simp at this
  · intro h
    apply Nat.eq_of_testBit_eq
    intro i
    rw [adn_bit hx hy, Nat.zero_testBit]
    cases hi : x.testBit i with
    | false => rfl
    | true => rw [h i hi]; rfl
theorem ld_c0 {H : AH} {p k : Nat} {n : Int} {s : AV} {ro : Bool} (hr : H[p]? = some (.row [.int .i64 n, s] 0 k ro)) : ld H p 0 0 = some (.int .i64 n) := by
  rw [ld_row hr]; rfl
theorem ls_known {H : AH} {s : AV} {l : List Int} (h : Ls H s l) : known (some s) = some s := by
  obtain ⟨r, off, ver, sz, full, rfl, -⟩ := h.sub
  rfl
theorem ld_c1 {H : AH} {p k : Nat} {n : Int} {s : AV} {ro : Bool} (hr : H[p]? = some (.row [.int .i64 n, s] 0 k ro)) (hs : known (some s) = some s) : ld H p 1 0 = some s := by
  rw [ld_row hr]; simpa using hs
theorem ldn_c {H : AH} {p k : Nat} {n : Int} {s : AV} {ro : Bool} (hr : H[p]? = some (.row [.int .i64 n, s] 0 k ro)) (hs : known (some s) = some s) : ldn H p 0 2 0 = some [.int .i64 n, s] := by
  rw [ldn_row hr]
  have h0 : known (some (AV.int .i64 n)) = some (.int .i64 n) := rfl
  have h1 : takeKnown 1 [s] = some [s] := by
    rw [takeKnown_succ, List.getElem?_cons_zero, hs]; rfl
  show takeKnown 2 [.int .i64 n, s] = _
  rw [takeKnown_succ, List.getElem?_cons_zero, h0]
  show Option.map _ (takeKnown 1 [s]) = _
  rw [h1]; rfl
theorem everybody_q {n : Nat} (hn : n ≤ 6) (s : AV) (_hk : known (some s) = some s) (H : AH) (Q : AV → AH → Prop) (h : Q (.int .i64 ((2 ^ n - 1 : Nat) : Int)) H) : AC Try.prog 71 [cA n s] H Q := by
  refine AC.quiet (belB_int _ _ _ _) (fun Q h => ?_) Q h
  refine L_body 7 Try.func71 rfl rfl ?_
  have hp := pw n
  have h64 := pw64 hn
  refine L_reg [1] (fun K hK => ?_)
  simp [cA, AV.isU, acells]
  apply hK; clear hK K
  have h1 : (H ++ [AObj.row [.int .i64 n, s] 0 0 false])[H.length]? = some (.row [.int .i64 n, s] 0 0 false) := by simp
  have hE : Ext H (H ++ [AObj.row [.int .i64 n, s] 0 0 false]) := .push _ _
  generalize H ++ [AObj.row [.int .i64 n, s] 0 0 false] = H1 at h1 hE ⊢
  have a0 := ld_c0 h1
  have hshl : ∀ tt ll, binV Try.prog .shl tt ll (.int .i64 1) (.int .i64 (n : Int)) = some (.int .i64 ((2 ^ n : Nat) : Int)) := fun _ _ => n_shl n hn
  have e : ((2 ^ n : Nat) : Int) - 1 = ((2 ^ n - 1 : Nat) : Int) := by omega
  generalize 2 ^ n = N at *
  refine L_reg [2] (fun K hK => ?_)
  simp [a0, hshl, e, wrap_i64 (a := ((N - 1 : Nat) : Int)) (by omega)]
  apply hK; clear hK K
  exact L_ret ⟨.inr rfl, _, rfl, h _ hE⟩
/-- A circle's list. -/
theorem has_q {n : Nat} (hn : n ≤ 6) (s : AV) (hk : known (some s) = some s) (x : Int) (H : AH) (Q : AV → AH → Prop) (h : Q (.bool (decide (0 ≤ x ∧ x < ((2 ^ n : Nat) : Int)))) H) : AC Try.prog 64 [cA n s, .int .i64 x] H Q := by
  refine AC.quiet (belB_bool _ _ _) (fun Q h => ?_) Q h
  refine L_body 13 Try.func64 rfl rfl ?_
  have hp := pw n
  refine L_reg [1, 2] (fun K hK => ?_)
  simp [cA, AV.isU, acells]
  apply hK; clear hK K
  have h1 : (H ++ [AObj.row [.int .i64 n, s] 0 0 false])[H.length]? = some (.row [.int .i64 n, s] 0 0 false) := by simp
  have hE : Ext H (H ++ [AObj.row [.int .i64 n, s] 0 0 false]) := .push _ _
  generalize H ++ [AObj.row [.int .i64 n, s] 0 0 false] = H1 at h1 hE ⊢
  have a0 := ldn_c h1 hk
  by_cases hx : 0 ≤ x
  · have e : decide (x ≤ ((2 ^ n - 1 : Nat) : Int)) = decide (x < ((2 ^ n : Nat) : Int)) := by rw [decide_eq_decide]; omega
    refine L_reg [4] (fun K hK => ?_)
    simp [okFn_low, hx, a0]
    refine everybody_q hn s hk _ _ ?_
    simp [pickV, e]
    apply hK; clear hK K
    refine L_ret ⟨.inr rfl, _, rfl, ?_⟩
    simpa [hx] using h _ hE
  · refine L_reg [4] (fun K hK => ?_)
    simp [hx, pickV]
    apply hK; clear hK K
    refine L_ret ⟨.inr rfl, _, rfl, ?_⟩
    simpa [hx] using h _ hE
theorem ls_len {H : AH} {v : AV} {l : List Int} (h : Ls H v l) : aLen Try.prog 22 v = some (.int .i64 l.length) := by
  obtain ⟨r, off, ver, sz, full, rfl, -⟩ := h
  exact len22 ..
theorem ls_ix {H : AH} {v : AV} {l : List Int} (h : Ls H v l) {i : Nat} (hi : i < l.length) : ∃ r p ver, (∀ k, aIndexAddr Try.prog 22 v (.int k (i : Int)) = some (.ptr r p ver)) ∧ ld H r p ver = some (.int .i64 l[i]) := by
  obtain ⟨r, off, ver, sz, full, rfl, hld⟩ := h
  obtain ⟨r', rfl, rfl, h3⟩ := hld i hi
  refine ⟨r', off + i, ver, fun k => ?_, by rw [h3]⟩
  rw [ixa22]
  simp
  omega
theorem ownF_ls {N : Nat} {H : AH} {v : AV} {l : List Int} (h : OwnF N H v (l.map (.int .i64))) : Ls H v l := by
  rcases h with ⟨h1, rfl⟩ | ⟨r, ver, stale, h1, rfl, h3⟩
  · obtain rfl : l = [] := by simpa using h1
    exact Ls.nil H
  · have := Ls.row h3 false
    simpa using this
theorem il_ix {H : AH} {v : AV} {l : List Nat} (h : Ls H v (il l)) {i : Nat} (hi : i < l.length) : ∃ r p ver, (∀ k, aIndexAddr Try.prog 22 v (.int k (i : Int)) = some (.ptr r p ver)) ∧ ld H r p ver = some (.int .i64 (l[i] : Nat)) := by
  obtain ⟨r, p, ver, h1, h2⟩ := ls_ix h (i := i) (by rw [il_len]; exact hi)
  exact ⟨r, p, ver, h1, by rw [h2, il_get hi]⟩
theorem any_cons (p : Nat → Bool) {l : List Nat} {i : Nat} (hi : i < l.length) : (l.drop i).any p = (p l[i] || (l.drop (i + 1)).any p) := by
  rw [List.drop_eq_getElem_cons hi, List.any_cons]
theorem oneLies_q (l : List Nat) (u : AV) (g : Nat) (hg : g < 64) (hl : okG 64 l) (hlen : l.length ≤ 1000000) (H : AH) (hu : Ls H u (il l)) (Q : AV → AH → Prop) (h : Q (.bool (within l g)) H) : AC Try.prog 90 [u, .int .i64 g] H Q := by
  refine AC.quiet (belB_bool _ _ _) (fun Q h => ?_) Q h
  refine L_body 18 Try.func90 rfl rfl ?_
  have hvl := ls_len hu
  rw [il_len] at hvl
  refine L_reg [0, 1] (fun K hK => ?_)
  simp
  apply hK; clear hK K
  refine L_reg [1, 7, 8, 9] (fun K hK => ?_)
  simp [hvl]
  apply hK; clear hK K
  refine L_block (L_loopV [9] (fun q vs H' => ∃ i : Nat, q = l.length - i ∧ i ≤ l.length ∧ vs = [.int .i64 i] ∧ H = H' ∧ (l.drop i).any (fun o => sub o g) = within l g) _ [.int .i64 (0 : Nat)] rfl ⟨0, rfl, by omega, rfl, rfl, rfl⟩ ?_)
  rintro q _ _ ⟨i, rfl, hi, rfl, rfl, hc⟩
  refine L_reg [1, 7, 8, 9, 10] (fun K hK => ?_)
  simp
  apply hK; clear hK K
  refine L_dec (i < l.length) (by simp) (fun hlt => ?_) (fun hge => L_exit ?_)
  · refine L_block ?_
    obtain ⟨rz, pz, vz, hix, hldz⟩ := il_ix hu hlt
    rw [any_cons _ hlt] at hc
    have hx64 := hl l[i] (List.getElem_mem hlt)
    generalize l[i] = x at hldz hc hx64
    refine L_reg [1, 6, 7, 8, 9] (fun K hK => ?_)
    simp [hix, hldz]
    apply hK; clear hK K
    have han : ∀ tt ll, binV Try.prog .andNot tt ll (.int .i64 (x : Int)) (.int .i64 (g : Int)) = some (.int .i64 (adn x g : Nat)) := fun _ _ => n_andNot x g hx64 hg
    have hsb := adn_sub hx64 hg
    refine L_reg [1, 7, 8, 9, 16] (fun K hK => ?_)
    simp [han]
    apply hK; clear hK K
    cases hs : sub x g with
    | true =>
      rw [hs] at hc hsb
      refine L_true (by simpa using hsb) ?_
      refine L_reg [4] (fun K hK => ?_)
      simp
      apply hK; clear hK K
      refine L_ret ⟨.inr rfl, _, rfl, ?_⟩
      rw [← hc] at h
      simpa using h _ (.refl _)
    | false =>
      rw [hs, Bool.false_or] at hc
      rw [hs] at hsb
      refine L_false (by simpa using hsb) ?_
      refine L_reg [1, 7, 8, 9] (fun K hK => ?_)
      simp [wrap_i64 (a := (i : Int) + 1) (by omega)]
      apply hK; clear hK K
      exact ⟨l.length - (i + 1), [.int .i64 (i + 1 : Nat)], by omega, by simp, i + 1, rfl, by omega, rfl, rfl, hc⟩
  · have e : i = l.length := by omega
    subst e
    rw [List.drop_length, List.any_nil] at hc
    refine L_reg [4] (fun K hK => ?_)
    simp
    apply hK; clear hK K
    refine L_ret ⟨.inr rfl, _, rfl, ?_⟩
    rw [← hc] at h
    exact h _ (.refl _)
end Go.Proofs.Ytcidcihpkdoejaa.Bo
