/- What the steps ask of the types of this program. -/
import Derived.Test.YtjfmiohgkcjdnaaBase
import Derived.Test.YtjfmiohgkcjdnaaAxR
import Derived.Test.YtjfmiohgkcjdnaaAx3
import Derived.Test.YtjfmiohgkcjdnaaAx5
namespace Go.Proofs.Ytjfmiohgkcjdnaa
open Go Go.Proofs.Ytjfmiohgkcjdnaa.AX
@[simp] theorem len36 (r : Option Nat) (off len ver sz : Nat) (full : Bool) : aLen Try.prog 36 (.slice r off len ver sz full) = some (.int .i64 len) := len_sl (n := 1) (by kernel_rfl) ..
@[simp] theorem ixa36 (r off len ver : Nat) (full : Bool) (k : IntKind) (i : Int) : aIndexAddr Try.prog 36 (.slice (some r) off len ver 1 full) (.int k i) = if 0 ≤ i ∧ i < len then some (.ptr r (off + i.toNat * 1) ver) else none := ixa_sl (by kernel_rfl) ..
@[simp] theorem ld3 (H : AH) (r off ver : Nat) : loadV Try.prog 3 H (.ptr r off ver) = ld H r off ver := ld_sc (by kernel_rfl) ..
@[simp] theorem ld4 (H : AH) (r off ver : Nat) : loadV Try.prog 4 H (.ptr r off ver) = ld H r off ver := ld_sc (by kernel_rfl) ..
@[simp] theorem ld5 (H : AH) (r off ver : Nat) : loadV Try.prog 5 H (.ptr r off ver) = ld H r off ver := ld_sc (by kernel_rfl) ..
@[simp] theorem ld36 (H : AH) (r off ver : Nat) : loadV Try.prog 36 H (.ptr r off ver) = ld H r off ver := ld_sc (by kernel_rfl) ..
theorem ag23 : aggSz Try.prog 23 = some 3 := by kernel_rfl
theorem ag24 : aggSz Try.prog 24 = some 3 := by kernel_rfl
theorem ag52 : aggSz Try.prog 52 = some 3 := by kernel_rfl
@[simp] theorem ld23 (H : AH) (r off ver : Nat) : loadV Try.prog 23 H (.ptr r off ver) = (ldn H r ver 3 off).map .agg := load_agg ag23 ..
@[simp] theorem ld24 (H : AH) (r off ver : Nat) : loadV Try.prog 24 H (.ptr r off ver) = (ldn H r ver 3 off).map .agg := load_agg ag24 ..
@[simp] theorem ld52 (H : AH) (r off ver : Nat) : loadV Try.prog 52 H (.ptr r off ver) = (ldn H r ver 3 off).map .agg := load_agg ag52 ..
@[simp] theorem fa230 (r off ver : Nat) : aFieldAddr Try.prog 23 (.ptr r off ver) 0 = some (.ptr r (off + 0) ver) := fld_ptr (by kernel_rfl) ..
@[simp] theorem fa231 (r off ver : Nat) : aFieldAddr Try.prog 23 (.ptr r off ver) 1 = some (.ptr r (off + 1) ver) := fld_ptr (by kernel_rfl) ..
@[simp] theorem fa232 (r off ver : Nat) : aFieldAddr Try.prog 23 (.ptr r off ver) 2 = some (.ptr r (off + 2) ver) := fld_ptr (by kernel_rfl) ..
@[simp] theorem fa240 (r off ver : Nat) : aFieldAddr Try.prog 24 (.ptr r off ver) 0 = some (.ptr r (off + 0) ver) := fld_ptr (by kernel_rfl) ..
@[simp] theorem fa241 (r off ver : Nat) : aFieldAddr Try.prog 24 (.ptr r off ver) 1 = some (.ptr r (off + 1) ver) := fld_ptr (by kernel_rfl) ..
@[simp] theorem fa242 (r off ver : Nat) : aFieldAddr Try.prog 24 (.ptr r off ver) 2 = some (.ptr r (off + 2) ver) := fld_ptr (by kernel_rfl) ..
@[simp] theorem fa520 (r off ver : Nat) : aFieldAddr Try.prog 52 (.ptr r off ver) 0 = some (.ptr r (off + 0) ver) := fld_ptr (by kernel_rfl) ..
@[simp] theorem fa521 (r off ver : Nat) : aFieldAddr Try.prog 52 (.ptr r off ver) 1 = some (.ptr r (off + 1) ver) := fld_ptr (by kernel_rfl) ..
@[simp] theorem fa522 (r off ver : Nat) : aFieldAddr Try.prog 52 (.ptr r off ver) 2 = some (.ptr r (off + 2) ver) := fld_ptr (by kernel_rfl) ..
theorem sc3 : scal Try.prog 3 = true := by kernel_rfl
theorem sc4 : scal Try.prog 4 = true := by kernel_rfl
theorem sc36 : scal Try.prog 36 = true := by kernel_rfl
theorem el36 : elT Try.prog 36 = true := by kernel_rfl
theorem elz36 : elZ Try.prog 36 = some (.int .i64 0) := by kernel_rfl
theorem slz36 : slSz Try.prog 36 = some 1 := by kernel_rfl
theorem zt3 : zeroT Try.prog 3 = some [.int .i64 0] := by kernel_rfl
theorem zt23 : zeroT Try.prog 23 = some [.int .i64 0, .int .i64 0, .int .i64 0] := by kernel_rfl
theorem zt24 : zeroT Try.prog 24 = some [.int .i64 0, .int .i64 0, .int .i64 0] := by kernel_rfl
theorem mt93 : mapT Try.prog 93 = some (.int .i64, .bool false) := by kernel_rfl
@[simp] theorem row36 (H : AH) (b : Int) : rowV Try.prog 36 1 [(0, .int .i64 b)] H = some (some (.slice (some H.length) 0 1 0 1 false), H ++ [.row [.int .i64 b] 0 1 false]) := row1 el36 rfl rfl
@[simp] theorem built23 (a b c : Int) : aBuilt Try.prog 23 [(0, .int .i64 a), (1, .int .i64 b), (2, .int .i64 c)] = some [.int .i64 a, .int .i64 b, .int .i64 c] := by kernel_rfl
@[simp] theorem built23_1 (a : Int) : aBuilt Try.prog 23 [(0, .int .i64 a)] = some [.int .i64 a, .int .i64 0, .int .i64 0] := by kernel_rfl
@[simp] theorem built23_0 : aBuilt Try.prog 23 [] = some [.int .i64 0, .int .i64 0, .int .i64 0] := by kernel_rfl
@[simp] theorem built24 (a b : Int) : aBuilt Try.prog 24 [(0, .int .i64 a), (1, .int .i64 b)] = some [.int .i64 a, .int .i64 b, .int .i64 0] := by kernel_rfl
@[simp] theorem cv53 (k : IntKind) (n : Int) : aConv Try.prog 5 3 (.int k n) = some (.int .i64 (IntKind.i64.wrap n)) := cv_int (by kernel_rfl) (by kernel_rfl) n
theorem get_set {H : AH} {r : Nat} {o o' : AObj} (h : H[r]? = some o) : (H.set r o')[r]? = some o' := by
  have := (List.getElem?_eq_some_iff.1 h).1
  simp [this]
theorem set_ne {H : AH} {i j : Nat} {o : AObj} (h : i ≠ j) : (H.set i o)[j]? = H[j]? := List.getElem?_set_ne h

/-! ### Wrappers -/
def WV (m s t : Int) : AV := .agg [.int .i64 m, .int .i64 s, .int .i64 t]
/-- A wrapper in row p. -/
structure Bx (H : AH) (p : Nat) (m s t : Int) : Prop where
  l0 : ld H p 0 0 = some (.int .i64 m)
  l1 : ld H p 1 0 = some (.int .i64 s)
  l2 : ld H p 2 0 = some (.int .i64 t)
  la : ldn H p 0 3 0 = some [.int .i64 m, .int .i64 s, .int .i64 t]
theorem Bx.ext {H H1 : AH} {p : Nat} {m s t : Int} (h : Bx H p m s t) (hE : Ext H H1) : Bx H1 p m s t := ⟨hE.ld h.l0, hE.ld h.l1, hE.ld h.l2, ldn_ext hE h.la⟩
theorem Bx.row {H : AH} {p st : Nat} {m s t : Int} {ro : Bool} (h : H[p]? = some (.row [.int .i64 m, .int .i64 s, .int .i64 t] 0 st ro)) : Bx H p m s t := by
  refine ⟨?_, ?_, ?_, ?_⟩
  · rw [ld_row h]; rfl
  · rw [ld_row h]; rfl
  · rw [ld_row h]; rfl
  · rw [ldn_row h]; rfl
theorem box3 (H : AH) (m s t : Int) : ∃ H1, H ++ [AObj.row [.int .i64 m, .int .i64 s, .int .i64 t] 0 0 false] = H1 ∧ Ext H H1 ∧ H.length < H1.length ∧ H1[H.length]? = some (.row [.int .i64 m, .int .i64 s, .int .i64 t] 0 0 false) ∧ Bx H1 H.length m s t :=
  ⟨_, rfl, .push _ _, by simp, by simp, Bx.row (st := 0) (ro := false) (by simp)⟩

theorem mark_ac0 (m s k : Nat) (t : Int) (hm : 0 < m) (hk : k * s ≤ 1000000) (H : AH) (Q : AV → AH → Prop) (h : ∀ H', Ext H H' → Q (.int .i64 (k * s % m : Nat)) H') : AC Try.prog 60 [WV m s t, .int .i64 k] H Q := by
  refine L_body 12 Try.func60 rfl rfl ?_
  refine L_reg [1, 2] (fun K hK => ?_)
  simp [AV.isU, acells, WV]
  apply hK; clear hK K
  obtain ⟨H1, e, hE, -, -, b⟩ := box3 H m s t
  rw [e]
  have hne : m ≠ 0 := by omega
  have hw : IntKind.i64.wrap ((k : Int) * s) = ((k * s : Nat) : Int) := by rw [wrap_i64] <;> push_cast <;> omega
  refine L_reg [4] (fun K hK => ?_)
  simp [b.l0, b.l1, hne, hw]
  apply hK; clear hK K
  have e2 : ((k : Int) * s).tmod m = ((k * s % m : Nat) : Int) := by rw [Int.tmod_eq_emod_of_nonneg (by omega)]; rfl
  have h2 := h _ hE
  rw [← e2] at h2
  exact L_ret ⟨.inr rfl, _, rfl, h2⟩
theorem mark_ac (m s k : Nat) (t : Int) (hm : 0 < m) (hk : k * s ≤ 1000000) (H : AH) (Q : AV → AH → Prop) (h : Q (.int .i64 (k * s % m : Nat)) H) : AC Try.prog 60 [WV m s t, .int .i64 k] H Q :=
  AC.quiet (belB_int _ _ _ _) (fun Q h => mark_ac0 m s k t hm hk H Q h) Q h
end Go.Proofs.Ytjfmiohgkcjdnaa

/- Quotients, and how many turns begin at different marks. -/
namespace Go.Proofs.Ytjfmiohgkcjdnaa
open Go Go.Proofs.Ytjfmiohgkcjdnaa.AX

/-- The quotients of a by b, and so on. -/
def quos (a b : Nat) : List Int := if _h : b = 0 then [] else ((a / b : Nat) : Int) :: quos b (a % b)
termination_by b
decreasing_by exact Nat.mod_lt _ (Nat.pos_of_ne_zero _h)
theorem quos_zero (a : Nat) : quos a 0 = [] := by rw [quos]; rfl
theorem quos_pos (a : Nat) {b : Nat} (h : b ≠ 0) : quos a b = ((a / b : Nat) : Int) :: quos b (a % b) := by rw [quos]; simp [h]
set_option maxRecDepth 100000 in
theorem chain_ac0 (a b : Nat) (ha : a ≤ 1000) (hb : b ≤ 1000) (H : AH) (Q : AV → AH → Prop) (h : ∀ v H', OwnF H.length H' v ((quos a b).map (.int .i64)) → Ext H H' → Q (.tuple [v, .int .i64 (Nat.gcd a b : Nat)]) H') : AC Try.prog 80 [.int .i64 a, .int .i64 b] H Q := by
  refine L_body 20 Try.func80 rfl rfl ?_
  refine L_reg [0, 1, 4] (fun K hK => ?_)
  simp
  apply hK; clear hK K
  refine L_block (L_loopV [0, 1, 4] (fun k vs H' => ∃ (x y : Nat) (v : AV) (d : List Int), k = y ∧ x ≤ 1000 ∧ y ≤ 1000 ∧ d.length + y ≤ 1000 ∧ d ++ quos x y = quos a b ∧ Nat.gcd x y = Nat.gcd a b ∧ vs = [.int .i64 x, .int .i64 y, v] ∧ OwnF H.length H' v (d.map (.int .i64)) ∧ Ext H H') _ [.int .i64 a, .int .i64 b, .slice none 0 0 0 1 false] rfl ⟨a, b, _, [], rfl, ha, hb, by simpa using hb, rfl, rfl, rfl, .nil _ _, .refl _⟩ ?_)
  rintro k _ H1 ⟨x, y, v, d, rfl, hx, hy, hd, hq, hg, rfl, hO, hE⟩
  refine L_reg [0, 1, 4, 7] (fun K hK => ?_)
  simp
  apply hK; clear hK K
  by_cases hy0 : k = 0
  · subst hy0
    refine L_false (by simp) (L_exit ?_)
    refine L_reg [4, 5] (fun K hK => ?_)
    simp
    apply hK; clear hK K
    have hq' : d = quos a b := by rw [← hq, quos_zero]; simp
    have h2 := h v H1 (by rw [← hq']; exact hO) hE
    rw [← hg, Nat.gcd_zero_right] at h2
    exact L_ret ⟨.inr rfl, _, rfl, h2⟩
  · refine L_true (by simp [hy0]) ?_
    refine L_block ?_
    have hq2 := quos_pos x hy0
    have hg2 : Nat.gcd k (x % k) = Nat.gcd x k := by rw [Nat.gcd_comm x k, Nat.gcd_rec k x, Nat.gcd_comm]
    have hdiv : ((x : Int)).tdiv k = ((x / k : Nat) : Int) := by rw [Int.tdiv_eq_ediv_of_nonneg (by omega)]; rfl
    have hmod : ((x : Int)).tmod k = ((x % k : Nat) : Int) := by rw [Int.tmod_eq_emod_of_nonneg (by omega)]; rfl
    have hq0 : x / k ≤ x := Nat.div_le_self _ _
    have hr0 : x % k < k := Nat.mod_lt _ (by omega)
    generalize x / k = q at hq2 hdiv hq0
    generalize x % k = r at hq2 hg2 hmod hr0
    obtain ⟨v', H', he, hO', hE'⟩ := ownF_append hE el36 el36 (x := .int .i64 (q : Int)) (m := 1) hO rfl (by simp; omega)
    refine L_reg [0, 1, 4] (fun K hK => ?_)
    simp [hy0, hdiv, wrap_i64 (a := (q : Int)) (by omega), he]
    apply hK; clear hK K
    refine L_regT mixed [0, 1, 4] (by kernel_rfl) (fun K hK => ?_)
    simp [hy0, hmod]
    apply hK; clear hK K
    refine ⟨r, _, by omega, by simp, k, r, v', d ++ [(q : Int)], rfl, hy, by omega, by simp; omega, ?_, ?_, rfl, by simpa using hO', hE'⟩
    · rw [List.append_assoc, ← hq, hq2]; rfl
    · rw [← hg, hg2]
/-- How many turns begin at different marks. -/
def per (m s : Nat) : Nat := m / Nat.gcd m s
theorem per_pos {m s : Nat} (hm : 0 < m) : 0 < per m s := Nat.div_pos (Nat.le_of_dvd hm (Nat.gcd_dvd_left m s)) (Nat.gcd_pos_of_pos_left _ hm)
theorem per_le (m s : Nat) : per m s ≤ m := Nat.div_le_self _ _
theorem differ_ac0 (m s : Nat) (t : Int) (hm : 0 < m) (hm2 : m ≤ 1000) (hs : s ≤ 1000) (H : AH) (Q : AV → AH → Prop) (h : ∀ H', Ext H H' → Q (.int .i64 (per m s : Nat)) H') : AC Try.prog 66 [WV m s t] H Q := by
  refine L_body 17 Try.func66 rfl rfl ?_
  refine L_reg [1, 2] (fun K hK => ?_)
  simp [AV.isU, acells, WV]
  apply hK; clear hK K
  obtain ⟨H1, e, hE, -, -, b⟩ := box3 H m s t
  rw [e]
  refine L_reg [1, 4] (fun K hK => ?_)
  simp [okFn_low, b.l0, b.l1]
  refine chain_ac0 m s hm2 hs _ _ (fun v H2 hv hE2 => ?_)
  simp
  apply hK; clear hK K
  have b2 := b.ext hE2
  have hg : Nat.gcd m s ≠ 0 := by have := Nat.gcd_pos_of_pos_left s hm; omega
  have hg0 : (Nat.gcd m s : Int) ≠ 0 := by omega
  have hdiv : ((m : Int)).tdiv (Nat.gcd m s : Int) = ((per m s : Nat) : Int) := by rw [Int.tdiv_eq_ediv_of_nonneg (by omega)]; rfl
  have := per_le m s
  refine L_reg [2] (fun K hK => ?_)
  simp [b2.l0, hg, hdiv, wrap_i64 (a := ((per m s : Nat) : Int)) (by omega)]
  apply hK; clear hK K
  exact L_ret ⟨.inr rfl, _, rfl, h _ (hE.trans hE2)⟩
theorem differ_ac (m s : Nat) (t : Int) (hm : 0 < m) (hm2 : m ≤ 1000) (hs : s ≤ 1000) (H : AH) (Q : AV → AH → Prop) (h : Q (.int .i64 (per m s : Nat)) H) : AC Try.prog 66 [WV m s t] H Q :=
  AC.quiet (belB_int _ _ _ _) (fun Q h => differ_ac0 m s t hm hm2 hs H Q h) Q h
end Go.Proofs.Ytjfmiohgkcjdnaa

/- Wrappers are checked; turns and marks. -/
namespace Go.Proofs.Ytjfmiohgkcjdnaa
open Go Go.Proofs.Ytjfmiohgkcjdnaa.AX

def checkE (m s t : Int) : Int := if m < 1 ∨ 100 < m ∨ s < 0 ∨ m ≤ s ∨ t < 1 then 1 else if (per m.toNat s.toNat : Int) < t then 3 else 0
theorem checkE_zero {m s t : Int} (h : checkE m s t = 0) : ∃ m' s' t' : Nat, m = m' ∧ s = s' ∧ t = t' ∧ 1 ≤ m' ∧ m' ≤ 100 ∧ s' < m' ∧ 1 ≤ t' ∧ t' ≤ per m' s' := by
  unfold checkE at h
  split at h
  · cases h
  · split at h
    · cases h
    · exact ⟨m.toNat, s.toNat, t.toNat, by omega, by omega, by omega, by omega, by omega, by omega, by omega, by omega⟩
theorem checkE_ok {m s t : Nat} (h1 : 1 ≤ m) (h2 : m ≤ 100) (h3 : s < m) (h4 : 1 ≤ t) (h5 : t ≤ per m s) : checkE m s t = 0 := by
  unfold checkE
  rw [if_neg (by omega), if_neg (by simp; omega)]
set_option maxRecDepth 100000 in
theorem Check_ac0 (m s t : Int) (H : AH) (Q : AV → AH → Prop) (h : ∀ H', Ext H H' → Q (.int .i64 (checkE m s t)) H') : AC Try.prog 20 [WV m s t] H Q := by
  refine L_body 33 Try.func20 rfl rfl ?_
  refine L_reg [1, 2] (fun K hK => ?_)
  simp [AV.isU, acells, WV]
  apply hK; clear hK K
  obtain ⟨H1, e, hE, -, -, b⟩ := box3 H m s t
  rw [e]
  by_cases h1 : m < 1
  · refine L_reg [1, 27] (fun K hK => ?_)
    simp [b.l0, pickV, h1]
    apply hK; clear hK K
    refine L_true (by simp) ?_
    refine L_reg [2] (fun K hK => ?_)
    simp
    apply hK; clear hK K
    exact L_ret ⟨.inr rfl, _, rfl, by simpa [checkE, h1] using h _ hE⟩
  by_cases h2 : 100 < m
  · refine L_reg [1, 27] (fun K hK => ?_)
    simp [b.l0, pickV, h1, h2]
    apply hK; clear hK K
    refine L_true (by simp) ?_
    refine L_reg [2] (fun K hK => ?_)
    simp
    apply hK; clear hK K
    exact L_ret ⟨.inr rfl, _, rfl, by simpa [checkE, h1, h2] using h _ hE⟩
  by_cases h3 : s < 0
  · refine L_reg [1, 27] (fun K hK => ?_)
    simp [b.l0, b.l1, pickV, h1, h2, h3]
    apply hK; clear hK K
    refine L_true (by simp) ?_
    refine L_reg [2] (fun K hK => ?_)
    simp
    apply hK; clear hK K
    exact L_ret ⟨.inr rfl, _, rfl, by simpa [checkE, h1, h2, h3] using h _ hE⟩
  by_cases h4 : m ≤ s
  · refine L_reg [1, 27] (fun K hK => ?_)
    simp [b.l0, b.l1, pickV, h1, h2, h3, h4]
    apply hK; clear hK K
    refine L_true (by simp) ?_
    refine L_reg [2] (fun K hK => ?_)
    simp
    apply hK; clear hK K
    exact L_ret ⟨.inr rfl, _, rfl, by simpa [checkE, h1, h2, h3, h4] using h _ hE⟩
  by_cases h5 : t < 1
  · refine L_reg [1, 27] (fun K hK => ?_)
    simp [b.l0, b.l1, b.l2, pickV, h1, h2, h3, h4, h5]
    apply hK; clear hK K
    refine L_true (by simp) ?_
    refine L_reg [2] (fun K hK => ?_)
    simp
    apply hK; clear hK K
    exact L_ret ⟨.inr rfl, _, rfl, by simpa [checkE, h1, h2, h3, h4, h5] using h _ hE⟩
  obtain ⟨m, rfl⟩ : ∃ k : Nat, m = k := ⟨m.toNat, by omega⟩
  obtain ⟨s, rfl⟩ : ∃ k : Nat, s = k := ⟨s.toNat, by omega⟩
  refine L_reg [1, 27] (fun K hK => ?_)
  simp [b.l0, b.l1, b.l2, pickV, h1, h2, h3, h4, h5]
  apply hK; clear hK K
  refine L_false (by simp) ?_
  refine L_regQ mixed [32] (by kernel_rfl) (fun K hK => ?_)
  simp [okFn_low, b.l2, b.la]
  refine exQ_mk (fun Q hQ => differ_ac m s t (by omega) (by omega) (by omega) H1 Q hQ) ?_
  simp
  apply hK; clear hK K
  refine L_dec ((per m s : Int) < t) (by simp) (fun h6 => ?_) (fun h6 => ?_)
  · refine L_reg [2] (fun K hK => ?_)
    simp
    apply hK; clear hK K
    exact L_ret ⟨.inr rfl, _, rfl, by simpa [checkE, h1, h2, h3, h4, h5, h6] using h _ hE⟩
  · refine L_reg [2] (fun K hK => ?_)
    simp
    apply hK; clear hK K
    exact L_ret ⟨.inr rfl, _, rfl, by simpa [checkE, h1, h2, h3, h4, h5, h6] using h _ hE⟩
theorem Check_ac (m s t : Int) (H : AH) (Q : AV → AH → Prop) (h : Q (.int .i64 (checkE m s t)) H) : AC Try.prog 20 [WV m s t] H Q :=
  AC.quiet (belB_int _ _ _ _) (fun Q h => Check_ac0 m s t H Q h) Q h
theorem isTurn_ac0 (m s t k : Int) (H : AH) (Q : AV → AH → Prop) (h : ∀ H', Ext H H' → Q (.bool (decide (0 ≤ k ∧ k < t))) H') : AC Try.prog 84 [WV m s t, .int .i64 k] H Q := by
  refine L_body 13 Try.func84 rfl rfl ?_
  refine L_reg [1, 2] (fun K hK => ?_)
  simp [AV.isU, acells, WV]
  apply hK; clear hK K
  obtain ⟨H1, e, hE, -, -, b⟩ := box3 H m s t
  rw [e]
  by_cases h1 : 0 ≤ k
  · refine L_reg [4] (fun K hK => ?_)
    simp [b.l2, pickV, h1]
    apply hK; clear hK K
    exact L_ret ⟨.inr rfl, _, rfl, by simpa [h1] using h _ hE⟩
  · refine L_reg [4] (fun K hK => ?_)
    simp [pickV, h1]
    apply hK; clear hK K
    exact L_ret ⟨.inr rfl, _, rfl, by simpa [h1] using h _ hE⟩
theorem isTurn_ac (m s t k : Int) (H : AH) (Q : AV → AH → Prop) (h : Q (.bool (decide (0 ≤ k ∧ k < t))) H) : AC Try.prog 84 [WV m s t, .int .i64 k] H Q :=
  AC.quiet (belB_bool _ _ _) (fun Q h => isTurn_ac0 m s t k H Q h) Q h
theorem isMark_ac0 (m s t k : Int) (H : AH) (Q : AV → AH → Prop) (h : ∀ H', Ext H H' → Q (.bool (decide (0 ≤ k ∧ k < m))) H') : AC Try.prog 63 [WV m s t, .int .i64 k] H Q := by
  refine L_body 13 Try.func63 rfl rfl ?_
  refine L_reg [1, 2] (fun K hK => ?_)
  simp [AV.isU, acells, WV]
  apply hK; clear hK K
  obtain ⟨H1, e, hE, -, -, b⟩ := box3 H m s t
  rw [e]
  by_cases h1 : 0 ≤ k
  · refine L_reg [4] (fun K hK => ?_)
    simp [b.l0, pickV, h1]
    apply hK; clear hK K
    exact L_ret ⟨.inr rfl, _, rfl, by simpa [h1] using h _ hE⟩
  · refine L_reg [4] (fun K hK => ?_)
    simp [pickV, h1]
    apply hK; clear hK K
    exact L_ret ⟨.inr rfl, _, rfl, by simpa [h1] using h _ hE⟩
theorem isMark_ac (m s t k : Int) (H : AH) (Q : AV → AH → Prop) (h : Q (.bool (decide (0 ≤ k ∧ k < m))) H) : AC Try.prog 63 [WV m s t, .int .i64 k] H Q :=
  AC.quiet (belB_bool _ _ _) (fun Q h => isMark_ac0 m s t k H Q h) Q h
def turnE (m s t k : Int) : Int := if checkE m s t = 0 then (if 0 ≤ k ∧ k < t then 0 else 2) else checkE m s t
theorem checkTurn_ac0 (m s t k : Int) (H : AH) (Q : AV → AH → Prop) (h : ∀ H', Ext H H' → Q (.int .i64 (turnE m s t k)) H') : AC Try.prog 59 [WV m s t, .int .i64 k] H Q := by
  refine L_body 15 Try.func59 rfl rfl ?_
  refine L_reg [1, 2] (fun K hK => ?_)
  simp [AV.isU, acells, WV]
  apply hK; clear hK K
  obtain ⟨H1, e, hE, -, -, b⟩ := box3 H m s t
  rw [e]
  refine L_reg [1, 2, 5] (fun K hK => ?_)
  simp [okFn_low, b.la]
  refine Check_ac m s t _ _ ?_
  simp
  apply hK; clear hK K
  refine L_reg [1, 2, 5, 9] (fun K hK => ?_)
  simp
  apply hK; clear hK K
  by_cases h0 : checkE m s t = 0
  · refine L_false (by simp [h0]) ?_
    refine L_reg [14] (fun K hK => ?_)
    simp [okFn_low, b.la]
    refine isTurn_ac m s t k _ _ ?_
    simp
    apply hK; clear hK K
    by_cases h1 : 0 ≤ k ∧ k < t
    · refine L_false (by simp [h1]) ?_
      refine L_reg [4] (fun K hK => ?_)
      simp
      apply hK; clear hK K
      exact L_ret ⟨.inr rfl, _, rfl, by simpa [turnE, h0, h1] using h _ hE⟩
    · refine L_true (by simp; omega) ?_
      refine L_reg [4] (fun K hK => ?_)
      simp
      apply hK; clear hK K
      exact L_ret ⟨.inr rfl, _, rfl, by simpa [turnE, h0, h1] using h _ hE⟩
  · refine L_true (by simp [h0]) ?_
    refine L_reg [4] (fun K hK => ?_)
    simp
    apply hK; clear hK K
    exact L_ret ⟨.inr rfl, _, rfl, by simpa [turnE, h0] using h _ hE⟩
theorem checkTurn_ac (m s t k : Int) (H : AH) (Q : AV → AH → Prop) (h : Q (.int .i64 (turnE m s t k)) H) : AC Try.prog 59 [WV m s t, .int .i64 k] H Q :=
  AC.quiet (belB_int _ _ _ _) (fun Q h => checkTurn_ac0 m s t k H Q h) Q h
end Go.Proofs.Ytjfmiohgkcjdnaa

/- The mark of a turn; the first turn at some marks. -/
namespace Go.Proofs.Ytjfmiohgkcjdnaa
open Go Go.Proofs.Ytjfmiohgkcjdnaa.AX

theorem turnE_zero {m s t k : Int} (h : turnE m s t k = 0) : ∃ m' s' t' k' : Nat, m = m' ∧ s = s' ∧ t = t' ∧ k = k' ∧ 1 ≤ m' ∧ m' ≤ 100 ∧ s' < m' ∧ 1 ≤ t' ∧ t' ≤ per m' s' ∧ k' < t' := by
  unfold turnE at h
  by_cases h0 : checkE m s t = 0
  · rw [if_pos h0] at h
    obtain ⟨m', s', t', rfl, rfl, rfl, a1, a2, a3, a4, a5⟩ := checkE_zero h0
    split at h
    · exact ⟨m', s', t', k.toNat, rfl, rfl, rfl, by omega, a1, a2, a3, a4, a5, by omega⟩
    · cases h
  · rw [if_neg h0] at h; exact absurd h h0
/-- The mark of a turn, with its error. -/
def markS (m s t k : Int) : Int × Int := if turnE m s t k = 0 then (((k.toNat * s.toNat % m.toNat : Nat) : Int), 0) else (0, turnE m s t k)
theorem bound {m s t k : Nat} (h2 : m ≤ 100) (h3 : s < m) (h5 : t ≤ per m s) (h6 : k ≤ t) : k * s ≤ 10000 := by
  have h7 := per_le m s
  calc k * s ≤ 100 * 100 := Nat.mul_le_mul (by omega) (by omega)
    _ ≤ 10000 := by decide
theorem Mark_ac0 (m s t k : Int) (H : AH) (Q : AV → AH → Prop) (h : ∀ H', Ext H H' → Q (.tuple [.int .i64 (markS m s t k).1, .int .i64 (markS m s t k).2]) H') : AC Try.prog 16 [WV m s t, .int .i64 k] H Q := by
  refine L_body 16 Try.func16 rfl rfl ?_
  refine L_reg [1, 2] (fun K hK => ?_)
  simp [AV.isU, acells, WV]
  apply hK; clear hK K
  obtain ⟨H1, e, hE, -, -, b⟩ := box3 H m s t
  rw [e]
  refine L_reg [1, 2, 6] (fun K hK => ?_)
  simp [okFn_low, b.la]
  refine checkTurn_ac m s t k _ _ ?_
  simp
  apply hK; clear hK K
  refine L_reg [1, 2, 6, 11] (fun K hK => ?_)
  simp
  apply hK; clear hK K
  by_cases h0 : turnE m s t k = 0
  · refine L_false (by simp [h0]) ?_
    obtain ⟨m, s, t, k, rfl, rfl, rfl, rfl, a1, a2, a3, a4, a5, a6⟩ := turnE_zero h0
    have := bound a2 a3 a5 (Nat.le_of_lt a6)
    refine L_reg [4, 5] (fun K hK => ?_)
    simp [okFn_low, b.la]
    refine mark_ac m s k t (by omega) (by omega) _ _ ?_
    simp
    apply hK; clear hK K
    exact L_ret ⟨.inr rfl, _, rfl, by simpa [markS, h0] using h _ hE⟩
  · refine L_true (by simp [h0]) ?_
    refine L_reg [4, 5] (fun K hK => ?_)
    simp
    apply hK; clear hK K
    exact L_ret ⟨.inr rfl, _, rfl, by simpa [markS, h0] using h _ hE⟩
theorem Mark_ac (m s t k : Int) (H : AH) (Q : AV → AH → Prop) (h : Q (.tuple [.int .i64 (markS m s t k).1, .int .i64 (markS m s t k).2]) H) : AC Try.prog 16 [WV m s t, .int .i64 k] H Q :=
  AC.quiet (by simp [belB]) (fun Q h => Mark_ac0 m s t k H Q h) Q h

/-- The first of the turns below t, from turn k on, at a mark from low to high. -/
def firstS (m s : Nat) (low high : Int) : Nat → Nat → Int × Int
  | 0, _ => (0, 12)
  | n + 1, k => if low ≤ ((k * s % m : Nat) : Int) ∧ ((k * s % m : Nat) : Int) ≤ high then ((k : Int), 0) else firstS m s low high n (k + 1)
set_option maxRecDepth 100000 in
theorem first_ac0 (m s t : Nat) (low high : Int) (h1 : 1 ≤ m) (h2 : m ≤ 100) (h3 : s < m) (h5 : t ≤ per m s) (H : AH) (Q : AV → AH → Prop) (h : ∀ H', Ext H H' → Q (.tuple [.int .i64 (firstS m s low high t 0).1, .int .i64 (firstS m s low high t 0).2]) H') : AC Try.prog 64 [WV m s t, .int .i64 low, .int .i64 high] H Q := by
  refine L_body 28 Try.func64 rfl rfl ?_
  refine L_reg [1, 2, 3] (fun K hK => ?_)
  simp [AV.isU, acells, WV]
  apply hK; clear hK K
  obtain ⟨H1, e, hE, -, -, b⟩ := box3 H m s t
  rw [e]
  refine L_reg [1, 2, 3, 11, 12] (fun K hK => ?_)
  simp [b.l2]
  apply hK; clear hK K
  refine L_block (L_loopV [12] (fun n vs H' => ∃ k : Nat, n = t - k ∧ k ≤ t ∧ firstS m s low high (t - k) k = firstS m s low high t 0 ∧ vs = [.int .i64 k] ∧ H1 = H') _ [.int .i64 (0 : Nat)] rfl ⟨0, rfl, by omega, rfl, rfl, rfl⟩ ?_)
  rintro n _ _ ⟨k, rfl, hk, hf, rfl, rfl⟩
  refine L_reg [1, 2, 3, 11, 12, 13] (fun K hK => ?_)
  simp
  apply hK; clear hK K
  refine L_dec (k < t) (by simp) (fun hlt => ?_) (fun hge => L_exit ?_)
  · refine L_block ?_
    have hbd := bound h2 h3 h5 hk
    have e1 : t - k = (t - (k + 1)) + 1 := by omega
    rw [e1] at hf
    simp only [firstS] at hf
    refine L_reg [1, 2, 3, 8, 11, 12] (fun K hK => ?_)
    simp
    apply hK; clear hK K
    generalize hw : k * s % m = w at hf
    refine L_reg [1, 2, 3, 8, 9, 11, 12] (fun K hK => ?_)
    simp [okFn_low, b.la]
    refine mark_ac m s k t (by omega) (by omega) _ _ ?_
    simp [hw]
    apply hK; clear hK K
    by_cases c1 : low ≤ (w : Int)
    · by_cases c2 : (w : Int) ≤ high
      · refine L_reg [1, 2, 3, 8, 11, 12, 25] (fun K hK => ?_)
        simp [pickV, c1, c2]
        apply hK; clear hK K
        refine L_true (by simp) ?_
        refine L_reg [6, 7] (fun K hK => ?_)
        simp
        apply hK; clear hK K
        rw [if_pos ⟨c1, c2⟩] at hf
        have h4 := h _ hE
        rw [← hf] at h4
        exact L_ret ⟨.inr rfl, _, rfl, h4⟩
      · rw [if_neg (fun h => c2 h.2)] at hf
        refine L_reg [1, 2, 3, 8, 11, 12, 25] (fun K hK => ?_)
        simp [pickV, c1, c2]
        apply hK; clear hK K
        refine L_false (by simp) ?_
        refine L_reg [1, 2, 3, 11, 12] (fun K hK => ?_)
        simp [wrap_i64 (a := (k : Int) + 1) (by have := per_le m s; omega)]
        apply hK; clear hK K
        exact ⟨t - (k + 1), _, by omega, by simp, k + 1, rfl, by omega, hf, rfl, rfl⟩
    · rw [if_neg (fun h => c1 h.1)] at hf
      refine L_reg [1, 2, 3, 8, 11, 12, 25] (fun K hK => ?_)
      simp [pickV, c1]
      apply hK; clear hK K
      refine L_false (by simp) ?_
      refine L_reg [1, 2, 3, 11, 12] (fun K hK => ?_)
      simp [wrap_i64 (a := (k : Int) + 1) (by have := per_le m s; omega)]
      apply hK; clear hK K
      exact ⟨t - (k + 1), _, by omega, by simp, k + 1, rfl, by omega, hf, rfl, rfl⟩
  · refine L_reg [6, 7] (fun K hK => ?_)
    simp
    apply hK; clear hK K
    have e1 : t - k = 0 := by omega
    rw [e1] at hf
    have h4 := h _ hE
    rw [← hf] at h4
    exact L_ret ⟨.inr rfl, _, rfl, h4⟩
theorem first_ac (m s t : Nat) (low high : Int) (h1 : 1 ≤ m) (h2 : m ≤ 100) (h3 : s < m) (h5 : t ≤ per m s) (H : AH) (Q : AV → AH → Prop) (h : Q (.tuple [.int .i64 (firstS m s low high t 0).1, .int .i64 (firstS m s low high t 0).2]) H) : AC Try.prog 64 [WV m s t, .int .i64 low, .int .i64 high] H Q :=
  AC.quiet (by simp [belB]) (fun Q h => first_ac0 m s t low high h1 h2 h3 h5 H Q h) Q h
/-- The turn at a mark, with its error. -/
def whichS (m s t k : Int) : Int × Int := if checkE m s t = 0 then (if 0 ≤ k ∧ k < m then firstS m.toNat s.toNat k k t.toNat 0 else (0, 2)) else (0, checkE m s t)
theorem Which_ac0 (m s t k : Int) (H : AH) (Q : AV → AH → Prop) (h : ∀ H', Ext H H' → Q (.tuple [.int .i64 (whichS m s t k).1, .int .i64 (whichS m s t k).2]) H') : AC Try.prog 18 [WV m s t, .int .i64 k] H Q := by
  refine L_body 22 Try.func18 rfl rfl ?_
  refine L_reg [1, 2] (fun K hK => ?_)
  simp [AV.isU, acells, WV]
  apply hK; clear hK K
  obtain ⟨H1, e, hE, -, -, b⟩ := box3 H m s t
  rw [e]
  refine L_reg [1, 2, 6] (fun K hK => ?_)
  simp [okFn_low, b.la]
  refine Check_ac m s t _ _ ?_
  simp
  apply hK; clear hK K
  refine L_reg [1, 2, 6, 10] (fun K hK => ?_)
  simp
  apply hK; clear hK K
  by_cases h0 : checkE m s t = 0
  · refine L_false (by simp [h0]) ?_
    refine L_reg [1, 2, 15] (fun K hK => ?_)
    simp [okFn_low, b.la]
    refine isMark_ac m s t k _ _ ?_
    simp
    apply hK; clear hK K
    by_cases h1 : 0 ≤ k ∧ k < m
    · refine L_false (by simp [h1]) ?_
      have h4 := h _ hE
      rw [whichS, if_pos h0, if_pos h1] at h4
      obtain ⟨m, s, t, rfl, rfl, rfl, a1, a2, a3, a4, a5⟩ := checkE_zero h0
      refine L_reg [4, 5] (fun K hK => ?_)
      simp [okFn_low, b.la]
      refine first_ac m s t k k a1 a2 a3 a5 _ _ ?_
      simp
      apply hK; clear hK K
      exact L_ret ⟨.inr rfl, _, rfl, by simpa using h4⟩
    · refine L_true (by simp; omega) ?_
      refine L_reg [4, 5] (fun K hK => ?_)
      simp
      apply hK; clear hK K
      exact L_ret ⟨.inr rfl, _, rfl, by simpa [whichS, h0, h1] using h _ hE⟩
  · refine L_true (by simp [h0]) ?_
    refine L_reg [4, 5] (fun K hK => ?_)
    simp
    apply hK; clear hK K
    exact L_ret ⟨.inr rfl, _, rfl, by simpa [whichS, h0] using h _ hE⟩
theorem Which_ac (m s t k : Int) (H : AH) (Q : AV → AH → Prop) (h : Q (.tuple [.int .i64 (whichS m s t k).1, .int .i64 (whichS m s t k).2]) H) : AC Try.prog 18 [WV m s t, .int .i64 k] H Q :=
  AC.quiet (by simp [belB]) (fun Q h => Which_ac0 m s t k H Q h) Q h
end Go.Proofs.Ytjfmiohgkcjdnaa

/- The wrapper that has all turns; the first turn at some marks; what comes nearer. -/
namespace Go.Proofs.Ytjfmiohgkcjdnaa
open Go Go.Proofs.Ytjfmiohgkcjdnaa.AX

theorem res_cell_tmp {P : Program} {fn : Func} {e : Env} {H : AH} {a b : Tmp} {t : TypeId} {v u : AV} (hr : fn.results = #[.cell a t, .tmp b]) (hv : loadV P t H (eget e a) = some v) (hb : eget e b = u) : aResults P fn e H = some (.tuple [v, u]) := by
  have h1 : aRes1 P e H (.cell a t) = some v := hv
  have h2 : aRes1 P e H (.tmp b) = some u := by simp [aRes1, hb]
  simp [aResults, hr, aResList, h1, h2]
theorem newW (H : AH) (a b c : Int) : storeV Try.prog 23 (H ++ [AObj.row [.int .i64 0, .int .i64 0, .int .i64 0] 0 0 false]) (.ptr H.length 0 0) (.agg [.int .i64 a, .int .i64 b, .int .i64 c]) = some (none, H ++ [.row [.int .i64 a, .int .i64 b, .int .i64 c] 0 0 false]) := by
  rw [store_agg ag23 (c := [.int .i64 0, .int .i64 0, .int .i64 0]) (s := 0) (by simp) (by decide) rfl (by simp) rfl (by simp [AV.one])]
  simp
theorem setW {H : AH} {p s : Nat} {x y z : Int} (h : H[p]? = some (.row [.int .i64 x, .int .i64 y, .int .i64 z] 0 s false)) (a b c : Int) : storeV Try.prog 23 H (.ptr p 0 0) (.agg [.int .i64 a, .int .i64 b, .int .i64 c]) = some (none, H.set p (.row [.int .i64 a, .int .i64 b, .int .i64 c] 0 0 false)) :=
  store_agg ag23 h (by decide) rfl (by simp) rfl (by simp [AV.one])
theorem setT {H : AH} {p s : Nat} {x y z : Int} (h : H[p]? = some (.row [.int .i64 x, .int .i64 y, .int .i64 z] 0 s false)) (c : Int) : storeV Try.prog 3 H (.ptr p 2 0) (.int .i64 c) = some (none, H.set p (.row [.int .i64 x, .int .i64 y, .int .i64 c] 0 (min s 2) false)) :=
  store_row (P := Try.prog) (u := 3) (p := 2) sc3 (x := .int .i64 c) (y := .int .i64 z) rfl h rfl
theorem setS {H : AH} {p s : Nat} {x y z : Int} (h : H[p]? = some (.row [.int .i64 x, .int .i64 y, .int .i64 z] 0 s false)) (c : Int) : storeV Try.prog 3 H (.ptr p 1 0) (.int .i64 c) = some (none, H.set p (.row [.int .i64 x, .int .i64 c, .int .i64 z] 0 (min s 1) false)) :=
  store_row (P := Try.prog) (u := 3) (p := 1) sc3 (x := .int .i64 c) (y := .int .i64 y) rfl h rfl
theorem belB_W (N : Nat) (a b c d : Int) : belB N 4 (.tuple [WV a b c, .int .i64 d]) = true := by simp [belB, WV]
def circleE (m s : Int) : Int := if m < 1 ∨ 100 < m ∨ s < 0 ∨ m ≤ s then 1 else 0
theorem checkE_one (m s : Int) : checkE m s 1 = circleE m s := by
  unfold checkE circleE
  by_cases h : m < 1 ∨ 100 < m ∨ s < 0 ∨ m ≤ s
  · rw [if_pos h, if_pos (by omega)]
  · rw [if_neg h, if_neg (by omega)]
    have : 0 < per m.toNat s.toNat := per_pos (by omega)
    rw [if_neg (by omega)]
theorem circleE_zero {m s : Int} (h : circleE m s = 0) : ∃ m' s' : Nat, m = m' ∧ s = s' ∧ 1 ≤ m' ∧ m' ≤ 100 ∧ s' < m' := by
  unfold circleE at h
  split at h
  · cases h
  · exact ⟨m.toNat, s.toNat, by omega, by omega, by omega, by omega, by omega⟩
def wholeV (m s : Int) : AV := if circleE m s = 0 then WV m s (per m.toNat s.toNat : Nat) else WV 0 0 0
set_option maxRecDepth 100000 in
theorem whole_ac0 (m s : Int) (H : AH) (Q : AV → AH → Prop) (h : ∀ H', Ext H H' → Q (.tuple [wholeV m s, .int .i64 (circleE m s)]) H') : AC Try.prog 77 [.int .i64 m, .int .i64 s] H Q := by
  refine L_body 21 Try.func77 rfl rfl ?_
  refine L_reg [0, 1, 4] (fun K hK => ?_)
  simp [alloc_z zt23]
  apply hK; clear hK K
  obtain ⟨H1, e, hE, hl, r1, -⟩ := box3 H 0 0 0
  rw [e]
  generalize hp : H.length = p at hl r1 ⊢
  refine L_reg [4, 6] (fun K hK => ?_)
  simp [alloc_z zt23, newW]
  apply hK; clear hK K
  obtain ⟨H2, e2, hE2, hl2, r2, b⟩ := box3 H1 m s 1
  rw [e2]
  generalize H1.length = q at hl hl2 r2 b ⊢
  refine L_reg [4, 6, 7] (fun K hK => ?_)
  simp [okFn_low, b.la]
  refine Check_ac m s 1 _ _ ?_
  simp
  apply hK; clear hK K
  refine L_reg [4, 6, 7, 14] (fun K hK => ?_)
  simp
  apply hK; clear hK K
  have r1' := hE2.row r1
  rw [checkE_one]
  by_cases h0 : circleE m s = 0
  · refine L_false (by simp [h0]) ?_
    have hv : wholeV m s = WV m s (per m.toNat s.toNat : Nat) := by rw [wholeV, if_pos h0]
    rw [hv, h0] at h
    obtain ⟨m, s, rfl, rfl, a1, a2, a3⟩ := circleE_zero h0
    refine L_reg [4, 6] (fun K hK => ?_)
    simp [okFn_low, b.la]
    refine differ_ac m s 1 (by omega) (by omega) (by omega) _ _ ?_
    simp [setT r2]
    apply hK; clear hK K
    have r3 := get_set (o' := AObj.row [.int .i64 m, .int .i64 s, .int .i64 (per m s : Nat)] 0 (min 0 2) false) r2
    have r3' : (H2.set q (AObj.row [.int .i64 m, .int .i64 s, .int .i64 (per m s : Nat)] 0 (min 0 2) false))[p]? = _ := (set_ne (by omega)).trans r1'
    have hE3 : Ext H (H2.set q (AObj.row [.int .i64 m, .int .i64 s, .int .i64 (per m s : Nat)] 0 (min 0 2) false)) := (hE.trans hE2).set _ (by omega)
    simp only [Nat.zero_min] at r3 r3' hE3 ⊢
    generalize H2.set q (AObj.row [.int .i64 m, .int .i64 s, .int .i64 (per m s : Nat)] 0 0 false) = H3 at r3 r3' hE3 ⊢
    refine L_reg [4, 5] (fun K hK => ?_)
    simp [(Bx.row r3).la, setW r3']
    apply hK; clear hK K
    have hE4 : Ext H (H3.set p (AObj.row [.int .i64 m, .int .i64 s, .int .i64 (per m s : Nat)] 0 0 false)) := hE3.set _ (by omega)
    refine L_ret ⟨.inr rfl, _, ?_, h _ hE4⟩
    refine res_cell_tmp rfl ?_ rfl
    simp [(Bx.row (get_set r3')).la, WV]
  · refine L_true (by simp [h0]) ?_
    have hv : wholeV m s = WV 0 0 0 := by rw [wholeV, if_neg h0]
    rw [hv] at h
    refine L_reg [4, 5] (fun K hK => ?_)
    simp [setW r1']
    apply hK; clear hK K
    refine L_ret ⟨.inr rfl, _, ?_, h _ ((hE.trans hE2).set _ (by omega))⟩
    refine res_cell_tmp rfl ?_ rfl
    simp [(Bx.row (get_set r1')).la, WV]
theorem whole_ac (m s : Int) (H : AH) (Q : AV → AH → Prop) (h : Q (.tuple [wholeV m s, .int .i64 (circleE m s)]) H) : AC Try.prog 77 [.int .i64 m, .int .i64 s] H Q :=
  AC.quiet (by unfold wholeV; split <;> exact belB_W ..) (fun Q h => whole_ac0 m s H Q h) Q h

/-- The first turn at marks from low to high, with its error. -/
def firstR (m s low high : Int) : Int × Int :=
  if circleE m s = 0 then (if (0 ≤ low ∧ low < m) ∧ (0 ≤ high ∧ high < m) then (if high < low then (0, 7) else firstS m.toNat s.toNat low high (per m.toNat s.toNat) 0) else (0, 2)) else (0, circleE m s)
theorem First_ac0 (m s low high : Int) (H : AH) (Q : AV → AH → Prop) (h : ∀ H', Ext H H' → Q (.tuple [.int .i64 (firstR m s low high).1, .int .i64 (firstR m s low high).2]) H') : AC Try.prog 43 [.int .i64 m, .int .i64 s, .int .i64 low, .int .i64 high] H Q := by
  refine L_body 40 Try.func43 rfl rfl ?_
  refine L_reg [0, 1, 2, 3] (fun K hK => ?_)
  simp
  apply hK; clear hK K
  by_cases h0 : circleE m s = 0
  · rw [firstR, if_pos h0] at h
    have hv : wholeV m s = WV m s (per m.toNat s.toNat : Nat) := by rw [wholeV, if_pos h0]
    refine L_reg [2, 3, 10, 11] (fun K hK => ?_)
    simp [okFn_low]
    refine whole_ac m s _ _ ?_
    simp [alloc_z zt23, hv, h0, WV, newW]
    apply hK; clear hK K
    obtain ⟨m, s, rfl, rfl, a1, a2, a3⟩ := circleE_zero h0
    obtain ⟨H1, e, hE, -, -, b⟩ := box3 H m s (per m s : Nat)
    simp only [Int.toNat_natCast] at h ⊢
    rw [e]
    refine L_reg [2, 3, 10, 11, 19] (fun K hK => ?_)
    simp
    apply hK; clear hK K
    refine L_false (by simp) ?_
    by_cases c1 : 0 ≤ low ∧ low < (m : Int)
    · refine L_reg [2, 3, 10, 30] (fun K hK => ?_)
      simp [okFn_low, b.la]
      refine isMark_ac m s (per m s : Nat) low _ _ ?_
      simp [c1, okFn_low, b.la]
      refine isMark_ac m s (per m s : Nat) high _ _ ?_
      simp [pickV]
      apply hK; clear hK K
      by_cases c2 : 0 ≤ high ∧ high < (m : Int)
      · refine L_false (by simp; omega) ?_
        rw [if_pos ⟨c1, c2⟩] at h
        refine L_reg [2, 3, 10, 33] (fun K hK => ?_)
        simp
        apply hK; clear hK K
        refine L_dec (high < low) (by simp) (fun c3 => ?_) (fun c3 => ?_)
        · refine L_reg [8, 9] (fun K hK => ?_)
          simp
          apply hK; clear hK K
          rw [if_pos c3] at h
          exact L_ret ⟨.inr rfl, _, rfl, h _ hE⟩
        · rw [if_neg c3] at h
          refine L_reg [8, 9] (fun K hK => ?_)
          simp [okFn_low, b.la]
          refine first_ac m s (per m s) low high a1 a2 a3 (Nat.le_refl _) _ _ ?_
          simp
          apply hK; clear hK K
          exact L_ret ⟨.inr rfl, _, rfl, by simpa using h _ hE⟩
      · refine L_true (by simp; omega) ?_
        rw [if_neg (fun h => c2 h.2)] at h
        refine L_reg [8, 9] (fun K hK => ?_)
        simp
        apply hK; clear hK K
        exact L_ret ⟨.inr rfl, _, rfl, h _ hE⟩
    · refine L_reg [2, 3, 10, 30] (fun K hK => ?_)
      simp [okFn_low, b.la]
      refine isMark_ac m s (per m s : Nat) low _ _ ?_
      simp [c1, pickV]
      apply hK; clear hK K
      refine L_true (by simp) ?_
      rw [if_neg (fun h => c1 h.1)] at h
      refine L_reg [8, 9] (fun K hK => ?_)
      simp
      apply hK; clear hK K
      exact L_ret ⟨.inr rfl, _, rfl, h _ hE⟩
  · rw [firstR, if_neg h0] at h
    have hv : wholeV m s = WV 0 0 0 := by rw [wholeV, if_neg h0]
    refine L_reg [2, 3, 10, 11] (fun K hK => ?_)
    simp [okFn_low]
    refine whole_ac m s _ _ ?_
    simp [alloc_z zt23, hv, WV, newW]
    apply hK; clear hK K
    refine L_reg [2, 3, 10, 11, 19] (fun K hK => ?_)
    simp
    apply hK; clear hK K
    refine L_true (by simp [h0]) ?_
    refine L_reg [8, 9] (fun K hK => ?_)
    simp
    apply hK; clear hK K
    exact L_ret ⟨.inr rfl, _, rfl, by simpa using h _ (.push _ _)⟩
theorem First_ac (m s low high : Int) (H : AH) (Q : AV → AH → Prop) (h : Q (.tuple [.int .i64 (firstR m s low high).1, .int .i64 (firstR m s low high).2]) H) : AC Try.prog 43 [.int .i64 m, .int .i64 s, .int .i64 low, .int .i64 high] H Q :=
  AC.quiet (by simp [belB]) (fun Q h => First_ac0 m s low high H Q h) Q h
end Go.Proofs.Ytjfmiohgkcjdnaa

/- The turn that is met first if one goes to a side. -/
namespace Go.Proofs.Ytjfmiohgkcjdnaa
open Go Go.Proofs.Ytjfmiohgkcjdnaa.AX

def stepS (m : Nat) (to : Int) (w : Nat) : Nat := if to = 1 then (w + m - 1) % m else (w + 1) % m
theorem beside_ac0 (m s w : Nat) (t to : Int) (h1 : 1 ≤ m) (h2 : m ≤ 100) (h3 : w < m) (H : AH) (Q : AV → AH → Prop) (h : ∀ H', Ext H H' → Q (.int .i64 (stepS m to w : Nat)) H') : AC Try.prog 85 [WV m s t, .int .i64 w, .int .i64 to] H Q := by
  refine L_body 22 Try.func85 rfl rfl ?_
  refine L_reg [1, 2, 3] (fun K hK => ?_)
  simp [AV.isU, acells, WV]
  apply hK; clear hK K
  obtain ⟨H1, e, hE, -, -, b⟩ := box3 H m s t
  rw [e]
  have hne : m ≠ 0 := by omega
  refine L_reg [1, 3, 8] (fun K hK => ?_)
  simp
  apply hK; clear hK K
  by_cases h4 : to = 1
  · refine L_true (by simp [h4]) ?_
    have e2 : ((w : Int) + m - 1).tmod m = (((w + m - 1) % m : Nat) : Int) := by
      rw [show (w : Int) + m - 1 = ((w + m - 1 : Nat) : Int) by omega, Int.tmod_eq_emod_of_nonneg (by omega)]; rfl
    rw [stepS, if_pos h4] at h
    generalize (w + m - 1) % m = r at e2 h
    refine L_reg [6] (fun K hK => ?_)
    simp [b.l0, hne, wrap_i64 (a := (w : Int) + m) (by omega), wrap_i64 (a := (w : Int) + m - 1) (by omega), e2]
    apply hK; clear hK K
    exact L_ret ⟨.inr rfl, _, rfl, h _ hE⟩
  · refine L_false (by simp [h4]) ?_
    have e2 : ((w : Int) + 1).tmod m = (((w + 1) % m : Nat) : Int) := by
      rw [show (w : Int) + 1 = ((w + 1 : Nat) : Int) by omega, Int.tmod_eq_emod_of_nonneg (by omega)]; rfl
    rw [stepS, if_neg h4] at h
    generalize (w + 1) % m = r at e2 h
    refine L_reg [6] (fun K hK => ?_)
    simp [b.l0, hne, wrap_i64 (a := (w : Int) + 1) (by omega), e2]
    apply hK; clear hK K
    exact L_ret ⟨.inr rfl, _, rfl, h _ hE⟩
theorem beside_ac (m s w : Nat) (t to : Int) (h1 : 1 ≤ m) (h2 : m ≤ 100) (h3 : w < m) (H : AH) (Q : AV → AH → Prop) (h : Q (.int .i64 (stepS m to w : Nat)) H) : AC Try.prog 85 [WV m s t, .int .i64 w, .int .i64 to] H Q :=
  AC.quiet (belB_int _ _ _ _) (fun Q h => beside_ac0 m s w t to h1 h2 h3 H Q h) Q h
theorem stepS_lt {m w : Nat} (to : Int) (h1 : 1 ≤ m) : stepS m to w < m := by
  unfold stepS
  split <;> exact Nat.mod_lt _ (by omega)
/-- The first of n turns, from turn k on, that begins at mark w. -/
def atS (m s w : Nat) : Nat → Nat → Option Nat
  | 0, _ => none
  | n + 1, k => if k * s % m = w then some k else atS m s w n (k + 1)
/-- Up to n marks are looked at. -/
def nbS (m s t : Nat) (to : Int) : Nat → Nat → Nat → Nat
  | 0, _, met => met
  | n + 1, w, _ => match atS m s (stepS m to w) t 0 with
    | some k => k
    | none => nbS m s t to n (stepS m to w) (t - 1)
set_option maxRecDepth 100000 in
theorem neigh_ac0 (m s t k : Nat) (to : Int) (h1 : 1 ≤ m) (h2 : m ≤ 100) (h3 : s < m) (h4 : 1 ≤ t) (h5 : t ≤ per m s) (h6 : k ≤ t) (H : AH) (Q : AV → AH → Prop) (h : ∀ H', Ext H H' → Q (.int .i64 (nbS m s t to m (k * s % m) k : Nat)) H') : AC Try.prog 69 [WV m s t, .int .i64 k, .int .i64 to] H Q := by
  refine L_body 34 Try.func69 rfl rfl ?_
  refine L_reg [1, 2, 3] (fun K hK => ?_)
  simp [AV.isU, acells, WV]
  apply hK; clear hK K
  obtain ⟨H1, e, hE, -, -, b⟩ := box3 H m s t
  rw [e]
  have hbk := bound h2 h3 h5 h6
  have hmp := per_le m s
  refine L_scope ?_
  generalize hw0 : k * s % m = w0 at h
  have hw0l : w0 < m := by rw [← hw0]; exact Nat.mod_lt _ (by omega)
  refine L_reg [2, 3, 7, 8] (fun K hK => ?_)
  simp [okFn_low, b.la]
  refine mark_ac m s k t (by omega) (by omega) _ _ ?_
  simp [hw0]
  apply hK; clear hK K
  refine L_reg [2, 3, 7, 8, 14, 15] (fun K hK => ?_)
  simp [b.l0]
  apply hK; clear hK K
  have fin : ∀ (r : Nat) (Q' : Ex → Env → AH → Prop), nbS m s t to m w0 k = r → True := fun _ _ _ => trivial
  refine L_block (L_loopV [7, 8, 15] (fun n vs H' => ∃ w met i : Nat, n = m - i ∧ i ≤ m ∧ w < m ∧ met ≤ t ∧ nbS m s t to (m - i) w met = nbS m s t to m w0 k ∧ vs = [.int .i64 w, .int .i64 met, .int .i64 i] ∧ H1 = H') _ [.int .i64 w0, .int .i64 k, .int .i64 (0 : Nat)] rfl ⟨w0, k, 0, rfl, by omega, hw0l, h6, rfl, rfl, rfl⟩ ?_)
  rintro n _ _ ⟨w, met, i, rfl, hi, hw, hmet, hn, rfl, rfl⟩
  refine L_reg [2, 3, 7, 8, 14, 15, 16] (fun K hK => ?_)
  simp
  apply hK; clear hK K
  refine L_dec (i < m) (by simp) (fun hlt => ?_) (fun hge => L_exit ?_)
  · refine L_block ?_
    have e1 : m - i = (m - (i + 1)) + 1 := by omega
    rw [e1] at hn
    simp only [nbS] at hn
    have hsl := stepS_lt (w := w) to h1
    generalize hst : stepS m to w = w' at hn hsl
    refine L_reg [2, 3, 7, 8, 14, 15] (fun K hK => ?_)
    simp [okFn_low, b.la]
    refine beside_ac m s w t to h1 h2 hw _ _ ?_
    simp [hst]
    apply hK; clear hK K
    refine L_reg [2, 3, 7, 8, 14, 15, 22, 23] (fun K hK => ?_)
    simp [b.l2]
    apply hK; clear hK K
    refine L_block (L_loopV [8, 23] (fun n vs H' => ∃ met' j : Nat, n = t - j ∧ j ≤ t ∧ met' ≤ t ∧ (0 < j → met' = j - 1) ∧ atS m s w' (t - j) j = atS m s w' t 0 ∧ vs = [.int .i64 met', .int .i64 j] ∧ H1 = H') _ [.int .i64 met, .int .i64 (0 : Nat)] rfl ⟨met, 0, rfl, by omega, hmet, fun h => by omega, rfl, rfl, rfl⟩ ?_)
    rintro n _ _ ⟨met', j, rfl, hj, hmet', hm1, ha, rfl, rfl⟩
    refine L_reg [2, 3, 7, 8, 14, 15, 22, 23, 24] (fun K hK => ?_)
    simp
    apply hK; clear hK K
    refine L_dec (j < t) (by simp) (fun hjt => ?_) (fun hge => L_exit ?_)
    · refine L_block ?_
      have e2 : t - j = (t - (j + 1)) + 1 := by omega
      rw [e2] at ha
      simp only [atS] at ha
      refine L_reg [2, 3, 7, 8, 14, 15, 22, 23] (fun K hK => ?_)
      simp
      apply hK; clear hK K
      have hbj := bound (k := j) h2 h3 h5 hj
      generalize hv : j * s % m = v at ha
      refine L_reg [2, 3, 7, 8, 14, 15, 22, 23, 30] (fun K hK => ?_)
      simp [okFn_low, b.la]
      refine mark_ac m s j t (by omega) (by omega) _ _ ?_
      simp [hv]
      apply hK; clear hK K
      by_cases hvw : v = w'
      · rw [if_pos hvw] at ha
        refine L_true (by simp [hvw]) (L_exit ?_)
        rw [← ha] at hn
        refine L_reg [6] (fun K hK => ?_)
        simp
        apply hK; clear hK K
        have h7 := h _ hE
        rw [← hn] at h7
        exact L_ret ⟨.inr rfl, _, rfl, h7⟩
      · rw [if_neg hvw] at ha
        refine L_false (by simp; omega) ?_
        refine L_reg [2, 3, 7, 8, 14, 15, 22, 23] (fun K hK => ?_)
        simp [wrap_i64 (a := (j : Int) + 1) (by omega)]
        apply hK; clear hK K
        exact ⟨t - (j + 1), [.int .i64 j, .int .i64 (j + 1 : Nat)], by omega, by simp, j, j + 1, rfl, by omega, by omega, fun _ => by omega, ha, rfl, rfl⟩
    · have e2 : t - j = 0 := by omega
      rw [e2] at ha
      simp only [atS] at ha
      rw [← ha] at hn
      have hm2 := hm1 (by omega)
      refine L_reg [2, 3, 7, 8, 14, 15] (fun K hK => ?_)
      simp [wrap_i64 (a := (i : Int) + 1) (by omega)]
      apply hK; clear hK K
      refine ⟨m - (i + 1), [.int .i64 w', .int .i64 met', .int .i64 (i + 1 : Nat)], by omega, by simp, w', met', i + 1, rfl, by omega, hsl, hmet', ?_, rfl, rfl⟩
      rw [← hn, show met' = t - 1 by omega]
  · refine L_reg [6] (fun K hK => ?_)
    simp
    apply hK; clear hK K
    have e1 : m - i = 0 := by omega
    rw [e1] at hn
    simp only [nbS] at hn
    have h7 := h _ hE
    rw [← hn] at h7
    exact L_ret ⟨.inr rfl, _, rfl, h7⟩
theorem neigh_ac (m s t k : Nat) (to : Int) (h1 : 1 ≤ m) (h2 : m ≤ 100) (h3 : s < m) (h4 : 1 ≤ t) (h5 : t ≤ per m s) (h6 : k ≤ t) (H : AH) (Q : AV → AH → Prop) (h : Q (.int .i64 (nbS m s t to m (k * s % m) k : Nat)) H) : AC Try.prog 69 [WV m s t, .int .i64 k, .int .i64 to] H Q :=
  AC.quiet (belB_int _ _ _ _) (fun Q h => neigh_ac0 m s t k to h1 h2 h3 h4 h5 h6 H Q h) Q h
end Go.Proofs.Ytjfmiohgkcjdnaa

/- A list from its end on; gaps. -/
namespace Go.Proofs.Ytjfmiohgkcjdnaa
open Go Go.Proofs.Ytjfmiohgkcjdnaa.AX

/-- All of a list is yielded, from its end on. -/
theorem back_ac (r pb : Nat) (l : List Int) (v : AV) (J : Nat → AH → Prop) (H : AH) (Q : AV → AH → Prop) (hlen : l.length ≤ 1000000) (hJ : ∀ i H', J i H' → ld H' pb 0 0 = some v ∧ Ls H' v l)
    (hs : ∀ i (hi : i < l.length) H', J (i + 1) H' → AYld Try.prog r [.int .i64 i, .int .i64 l[i]] H' fun u H2 => u = .bool true ∧ J i H2) (h0 : J l.length H) (h : ∀ H', J 0 H' → Q (.tuple []) H') : AC Try.prog 96 [.yld r, .ptr pb 0 0] H Q := by
  obtain ⟨r2, off, ver, sz, full, rfl, -⟩ := (hJ _ _ h0).2
  refine L_body 19 Try.func96 rfl rfl ?_
  refine L_reg [0, 1, 3] (fun K hK => ?_)
  simp [(hJ _ _ h0).1, wrap_i64 (a := (l.length : Int) - 1) (by omega)]
  apply hK; clear hK K
  refine L_block (L_loopV [3] (fun k vs H' => k ≤ l.length ∧ vs = [.int .i64 ((k : Int) - 1)] ∧ J k H') _ [.int .i64 ((l.length : Int) - 1)] rfl ⟨Nat.le_refl _, rfl, h0⟩ ?_)
  rintro k _ H1 ⟨hk, rfl, hk1⟩
  cases k with
  | zero =>
    refine L_reg [0, 1, 3, 8] (fun K hK => ?_)
    simp
    apply hK; clear hK K
    refine L_false (by simp) (L_exit ?_)
    exact ⟨.inl rfl, _, rfl, h _ hk1⟩
  | succ k =>
    refine L_reg [0, 1, 3, 8] (fun K hK => ?_)
    simp
    apply hK; clear hK K
    refine L_true (by simp) ?_
    refine L_block ?_
    obtain ⟨e1, e2⟩ := hJ _ _ hk1
    obtain ⟨r2', off', ver', sz', full', he, hld⟩ := e2
    cases he
    obtain ⟨r3, rfl, rfl, hrd⟩ := hld k (by omega)
    have hk2 : ((k : Int) + 1 - 1) = k := by omega
    have hk3 : k < l.length := by omega
    refine L_reg [0, 1, 3, 18] (fun K hK => ?_)
    simp [e1, hrd, hk3]
    refine (hs k hk3 H1 hk1).mono ?_
    rintro u H2 ⟨rfl, hJ2⟩
    simp
    apply hK; clear hK K
    refine L_false rfl ?_
    refine L_reg [0, 1, 3] (fun K hK => ?_)
    simp [wrap_i64 (a := (k : Int) - 1) (by omega)]
    apply hK; clear hK K
    exact ⟨k, [.int .i64 ((k : Int) - 1)], by omega, by simp, by omega, rfl, hJ2⟩
theorem backward_ac (v : AV) (hv : v.one = true) (H : AH) (Q : AV → AH → Prop) (h : Q (.func (.func 96) [] [.ptr H.length 0 0]) (H ++ [.row [v] 0 0 false])) : AC Try.prog 89 [v] H Q := by
  refine L_body 4 Try.func89 rfl rfl ?_
  have h1 : v.isU = false := by cases v <;> first | rfl | (simp [AV.one] at hv)
  have h2 : acells v = [v] := by cases v <;> first | rfl | (simp [AV.one] at hv)
  refine L_reg [1] (fun K hK => ?_)
  simp [h1, h2]
  apply hK; clear hK K
  refine L_reg [2] (fun K hK => ?_)
  simp
  apply hK; clear hK K
  exact L_ret ⟨.inr rfl, _, rfl, h⟩

def markN (m s : Nat) (x : Int) : Nat := x.toNat * s % m
/-- The gaps behind marks in their order. -/
def gapL (m : Nat) : List Nat → List Int
  | [] => []
  | w :: ws => (((ws.headD m : Nat) : Int) - w) :: gapL m ws
theorem gapL_len (m : Nat) : ∀ l : List Nat, (gapL m l).length = l.length
  | [] => rfl
  | _ :: l => by simp [gapL, gapL_len m l]
def RoundOk (m s t : Nat) (l : List Int) : Prop := ∀ (H : AH) (Q : AV → AH → Prop), (∀ v H', OwnF H.length H' v (l.map (.int .i64)) → Ext H H' → Q v H') → AC Try.prog 71 [WV m s t] H Q
theorem rows4 (H : AH) (a b c d : AObj) : (H ++ [a, b, c, d])[H.length]? = some a ∧ (H ++ [a, b, c, d])[H.length + 1]? = some b ∧ (H ++ [a, b, c, d])[H.length + 2]? = some c ∧ (H ++ [a, b, c, d])[H.length + 3]? = some d ∧ (H ++ [a, b, c, d]).length = H.length + 4 ∧ Ext H (H ++ [a, b, c, d]) := by
  refine ⟨?_, ?_, ?_, ?_, by simp, .push _ _⟩ <;> simp
theorem st_zero (H : AH) (v : Int) : storeV Try.prog 3 (H ++ [AObj.row [AV.int .i64 0] 0 0 false]) (.ptr H.length 0 0) (.int .i64 v) = some (none, H ++ [.row [.int .i64 v] 0 0 false]) := store_last sc3 (y := .int .i64 0) rfl rfl
theorem zt36 : zeroT Try.prog 36 = some [.slice none 0 0 0 1 false] := by kernel_rfl
theorem st_slice (H : AH) (r : Option Nat) (off len ver sz : Nat) (full : Bool) : storeV Try.prog 36 (H ++ [AObj.row [.slice none 0 0 0 1 false] 0 0 false]) (.ptr H.length 0 0) (.slice r off len ver sz full) = some (none, H ++ [.row [.slice r off len ver sz full] 0 0 false]) := store_last sc36 (y := .slice none 0 0 0 1 false) rfl rfl
theorem below_ext {H H1 H2 : AH} {w : Nat} (hE : Ext H H1) (hw : H.length ≤ w) (hl : w ≤ H2.length) (h : ∀ j, j < w → H2[j]? = H1[j]?) : Ext H H2 := ⟨by omega, fun j hj => by rw [h j (by omega), hE.2 j hj]⟩
set_option maxRecDepth 100000 in
theorem gaps_ac0 (m s t : Nat) (l : List Int) (h1 : 1 ≤ m) (h2 : m ≤ 100) (h3 : s < m) (h5 : t ≤ per m s) (hR : RoundOk m s t l) (hl : ∀ x ∈ l, 0 ≤ x ∧ x < t) (hln : l.length ≤ 1000) (H : AH) (Q : AV → AH → Prop)
    (h : ∀ v H', OwnF H.length H' v ((gapL m (l.map (markN m s))).map (.int .i64)) → Ext H H' → Q v H') : AC Try.prog 73 [WV m s t] H Q := by
  refine L_body 31 Try.func73 rfl rfl ?_
  refine L_reg [1, 6, 7] (fun K hK => ?_)
  simp [AV.isU, acells, WV]
  apply hK; clear hK K
  obtain ⟨H1, e, hE, hl1, r1, b⟩ := box3 H m s t
  rw [e]
  generalize hp : H.length = p at hl1 r1 b ⊢
  refine L_reg [1, 3, 6, 7] (fun K hK => ?_)
  simp [okFn_low, b.la]
  refine hR _ _ (fun v H2 hO hE2 => ?_)
  simp
  apply hK; clear hK K
  have r2 := hE2.row r1
  have b2 := b.ext hE2
  obtain ⟨r0, ver0, hv⟩ := hO.len
  have hLs : Ls H2 v l := hO.own.ls
  rw [List.length_map] at hv
  subst hv
  have hE02 := hE.trans hE2
  have hp2 : p < H2.length := by have := hE2.1; omega
  obtain ⟨I36, hI36, hz36⟩ := zeroT_some zt36
  have hst : storeV Try.prog 36 (H2 ++ [AObj.row (List.replicate l.length (AV.int .i64 0)) 0 0 false, AObj.row [.slice none 0 0 0 1 false] 0 0 false]) (.ptr (H2.length + 1) 0 0) (.slice (some H2.length) 0 l.length 0 1 false) = some (none, H2 ++ [AObj.row (List.replicate l.length (AV.int .i64 0)) 0 0 false, AObj.row [.slice (some H2.length) 0 l.length 0 1 false] 0 0 false]) := by
    have := st_slice (H2 ++ [AObj.row (List.replicate l.length (AV.int .i64 0)) 0 0 false]) (some H2.length) 0 l.length 0 1 false
    simpa using this
  refine L_reg [1, 3, 4, 6, 7] (fun K hK => ?_)
  simp [make_z elz36 (show l.length ≤ 16777216 by omega), hI36, hz36, hst]
  apply hK; clear hK K
  have bb := b2.ext (.push H2 [AObj.row (List.replicate l.length (AV.int .i64 0)) 0 0 false, AObj.row [.slice (some H2.length) 0 l.length 0 1 false] 0 0 false])
  have hst3 : storeV Try.prog 3 (H2 ++ [AObj.row (List.replicate l.length (AV.int .i64 0)) 0 0 false, AObj.row [.slice (some H2.length) 0 l.length 0 1 false] 0 0 false, AObj.row [.int .i64 0] 0 0 false]) (.ptr (H2.length + 2) 0 0) (.int .i64 m) = some (none, H2 ++ [AObj.row (List.replicate l.length (AV.int .i64 0)) 0 0 false, AObj.row [.slice (some H2.length) 0 l.length 0 1 false] 0 0 false, AObj.row [.int .i64 m] 0 0 false]) := by
    have := st_zero (H2 ++ [AObj.row (List.replicate l.length (AV.int .i64 0)) 0 0 false, AObj.row [.slice (some H2.length) 0 l.length 0 1 false] 0 0 false]) m
    simpa using this
  obtain ⟨I3, hI3, hz3⟩ := zeroT_some zt3
  refine L_reg [1, 3, 4, 5, 6, 7] (fun K hK => ?_)
  simp [bb.l0, hI3, hz3, hst3]
  apply hK; clear hK K
  refine L_reg [1, 4, 5, 6, 7, 16] (fun K hK => ?_)
  simp [okFn_low]
  refine backward_ac _ rfl _ _ ?_
  simp
  apply hK; clear hK K
  obtain ⟨a0, a1, a2, a3, a4, a5⟩ := rows4 H2 (.row (List.replicate l.length (AV.int .i64 0)) 0 0 false) (.row [.slice (some H2.length) 0 l.length 0 1 false] 0 0 false) (.row [.int .i64 m] 0 0 false) (.row [.slice r0 0 l.length ver0 1 false] 0 0 false)
  have b3 := b2.ext a5
  have r3 := a5.row r2
  have hLs3 := hLs.ext a5
  have hE03 := hE02.trans a5
  clear bb hst hst3
  generalize H2 ++ [AObj.row (List.replicate l.length (AV.int .i64 0)) 0 0 false, AObj.row [.slice (some H2.length) 0 l.length 0 1 false] 0 0 false, AObj.row [.int .i64 m] 0 0 false, AObj.row [.slice r0 0 l.length ver0 1 false] 0 0 false] = H3 at a0 a1 a2 a3 a4 a5 b3 r3 hLs3 hE03 ⊢
  generalize hq : H2.length = q at a0 a1 a2 a3 a4 ⊢
  refine L_block (L_range [1, 4, 5, 6, 7] rfl (okFn_low (by omega) (by omega)) ?_)
  generalize hL : (⟨31, _, _, _, _⟩ : LR) = L
  have hnt : L.nt = 31 := by rw [← hL]
  have hps : L.ps = #[17, 18] := by rw [← hL]
  have hass := congrArg LR.assign hL.symm
  have he : L.e = [(1, .ptr p 0 0), (4, .ptr (q + 1) 0 0), (5, .ptr (q + 2) 0 0)] := by rw [← hL]; rfl
  have hbody := congrArg LR.body hL.symm
  clear hL
  have hr0 : (H3 ++ [AObj.loop .ready .normal L])[H3.length]? = some (.loop .ready .normal L) := by simp
  have hin : ∀ j, j < H3.length → (H3 ++ [AObj.loop .ready .normal L])[j]? = H3[j]? := fun j hj => List.getElem?_append_left hj
  have hvL : ∀ H' : AH, (∀ j, j < H3.length → j ≠ q → j ≠ q + 2 → H'[j]? = H3[j]?) → Ls H' (.slice r0 0 l.length ver0 1 false) l := by
    intro H' hH
    rcases hO with ⟨g1, g2⟩ | ⟨r, ver, stale, -, g1, g2⟩
    · have : l = [] := by simpa using g1
      subst this
      rw [g2]; exact Ls.nil _
    · rw [g1]
      have hlt : r < q := by rw [← hq]; exact (List.getElem?_eq_some_iff.1 g2).1
      have g3 : H'[r]? = _ := (hH r (by omega) (by omega) (by omega)).trans (a5.row g2)
      have := Ls.row g3 false
      simpa using this
  have hwl : (l.map (markN m s)).length = l.length := by simp
  refine back_ac H3.length (q + 3) l (.slice r0 0 l.length ver0 1 false) (fun i H' => i ≤ l.length ∧ H3.length < H'.length ∧ H'[q]? = some (.row ((List.replicate i (0 : Int) ++ gapL m ((l.map (markN m s)).drop i)).map (.int .i64)) 0 0 false) ∧ (∃ st, H'[q + 2]? = some (.row [.int .i64 (((l.map (markN m s)).drop i).headD m : Nat)] 0 st false)) ∧
      (∀ j, j < H3.length → j ≠ q → j ≠ q + 2 → H'[j]? = H3[j]?) ∧ H'[H3.length]? = some (.loop .ready .normal L)) _ _ (by omega) ?_ ?_ ?_ ?_
  · rintro i H' ⟨g1, g2, g3, g4, g5, g6⟩
    have g7 : H'[q + 3]? = _ := (g5 _ (by omega) (by omega) (by omega)).trans a3
    exact ⟨by rw [ld_row g7]; rfl, hvL H' g5⟩
  · rintro i hi H' ⟨g1, g2, g3, ⟨st, g4⟩, g5, g6⟩
    have hd : (l.map (markN m s)).drop i = markN m s l[i] :: (l.map (markN m s)).drop (i + 1) := by
      rw [List.drop_eq_getElem_cons (by omega)]; simp
    have hm0 := hl l[i] (by simp)
    obtain ⟨k, hk⟩ : ∃ k : Nat, l[i] = k := ⟨l[i].toNat, by omega⟩
    have hbk := bound (k := k) h2 h3 h5 (by omega)
    have hmk : markN m s l[i] = k * s % m := by rw [markN, hk]; simp
    have hmlt : k * s % m < m := Nat.mod_lt _ (by omega)
    refine AYld_mkA g6 (by rw [hps]; rfl) (by rw [hps, hnt]; simp) ?_
    rw [hnt, hps, he, hass]
    refine L_reg [1, 4, 5, 6, 18] (fun K hK => ?_)
    simp [psEnv]
    apply hK; clear hK K
    refine L_reg [1, 4, 5, 6, 7] (fun K hK => ?_)
    simp
    apply hK; clear hK K
    refine ⟨rfl, .normal, L, g6, ?_⟩
    rw [hbody]
    generalize hHb : H'.set H3.length (.loop .busy .normal L) = Hb
    have hOff : ∀ j, j ≠ H3.length → Hb[j]? = H'[j]? := fun j hj => by rw [← hHb, set_ne (Ne.symm hj)]
    have c0 : Hb[q]? = _ := (hOff _ (by omega)).trans g3
    have c1 : Hb[q + 1]? = _ := ((hOff _ (by omega)).trans (g5 _ (by omega) (by omega) (by omega))).trans a1
    have c2 : Hb[q + 2]? = _ := (hOff _ (by omega)).trans g4
    have c3 : Hb[p]? = _ := ((hOff _ (by omega)).trans (g5 _ (by omega) (by omega) (by omega))).trans r3
    have br : Hb[H3.length]? = some (.loop .busy .normal L) := by rw [← hHb, List.getElem?_set_self (by omega)]
    have cb := Bx.row c3
    have e1 : ld Hb (q + 1) 0 0 = some (.slice (some q) 0 l.length 0 1 false) := by rw [ld_row c1]; rfl
    generalize hws : l.map (markN m s) = ws at *
    have hen : (ws.drop (i + 1)).headD m ≤ m := by
      cases hdd : ws.drop (i + 1) with
      | nil => exact Nat.le_refl _
      | cons y ys =>
        show y ≤ m
        have : y ∈ ws := List.mem_of_mem_drop (by rw [hdd]; simp)
        rw [← hws] at this
        obtain ⟨x, -, rfl⟩ := List.mem_map.1 this
        exact Nat.le_of_lt (Nat.mod_lt _ (by omega))
    have e2 : ld Hb (q + 2) 0 0 = some (.int .i64 ((ws.drop (i + 1)).headD m : Nat)) := by rw [ld_row c2]; rfl
    have hst := store_row (P := Try.prog) (u := 3) (p := i) sc3 (x := .int .i64 (((ws.drop (i + 1)).headD m : Nat) - (k * s % m : Nat) : Int)) (y := .int .i64 0) rfl c0 (by simp [List.getElem?_append_left])
    have hset : ((List.replicate (i + 1) (0 : Int) ++ gapL m (ws.drop (i + 1))).map (AV.int .i64)).set i (.int .i64 (((ws.drop (i + 1)).headD m : Nat) - (k * s % m : Nat) : Int)) = (List.replicate i (0 : Int) ++ gapL m (ws.drop i)).map (.int .i64) := by
      rw [hd, gapL, hmk, List.replicate_succ']
      simp [List.set_append_right]
    rw [hset, Nat.zero_min] at hst
    generalize hcs : (List.replicate i (0 : Int) ++ gapL m (ws.drop i)).map (AV.int .i64) = cs at hst
    have hhead : (ws.drop i).headD m = k * s % m := by rw [hd, hmk]; rfl
    rw [hk]
    clear hset
    generalize hgap : (ws.drop (i + 1)).headD m = en at hst e2 hen c2
    generalize hmw : k * s % m = w at *
    refine L_block ?_
    refine L_regW mixed 8 [1, 5, 7] (by kernel_rfl) (fun K hK => ?_)
    simp [okFn_low, e1, e2, cb.la]
    refine exX_mk (fun Q hQ => mark_ac m s k t (by omega) (by omega) Hb Q (by rw [hmw]; exact hQ)) (.refl _) ?_
    simp [wrap_i64 (a := (en : Int) - w) (by omega), hi, hst]
    apply hK; clear hK K
    have d0 := get_set (o' := AObj.row cs 0 0 false) c0
    generalize hHc : Hb.set q (AObj.row cs 0 0 false) = Hc at d0 ⊢
    have hOc : ∀ j, j ≠ q → Hc[j]? = Hb[j]? := fun j hj => by rw [← hHc, set_ne (Ne.symm hj)]
    have db := Bx.row ((hOc p (by omega)).trans c3)
    have d2 : Hc[q + 2]? = _ := (hOc _ (by omega)).trans c2
    have hst2 := store_row (P := Try.prog) (u := 3) (p := 0) sc3 (x := .int .i64 (w : Int)) (y := .int .i64 (en : Int)) rfl d2 rfl
    have hlenc : Hc.length = H'.length := by rw [← hHc, ← hHb]; simp
    refine L_reg [] (fun K hK => ?_)
    simp [okFn_low, db.la]
    refine mark_ac m s k t (by omega) (by omega) _ _ ?_
    simp [hmw, hst2]
    apply hK; clear hK K
    refine ⟨.busy, .normal, L, by rw [set_ne (by omega), hOc _ (by omega)]; exact br, rfl, by omega, by simp; omega, ?_, ⟨0, ?_⟩, fun j hj1 hj2 hj3 => ?_, ?_⟩
    · rw [set_ne (by omega), set_ne (by omega)]; exact d0
    · rw [set_ne (by omega), get_set d2, hhead]
    · rw [set_ne (by omega), set_ne (by omega), hOc _ hj2, hOff _ (by omega), g5 _ hj1 hj2 hj3]
    · simp only [if_true]
      rw [List.getElem?_set_self (by simp; omega)]
  · refine ⟨Nat.le_refl _, by simp, ?_, ⟨0, ?_⟩, fun j h1 _ _ => hin j h1, hr0⟩
    · rw [hin _ (by omega), a0, List.drop_of_length_le (by simp)]; simp [gapL]
    · rw [hin _ (by omega), a2, List.drop_of_length_le (by simp)]; rfl
  · rintro H' ⟨g1, g2, g3, ⟨st, g4⟩, g5, g6⟩
    refine ⟨.ready, .normal, L, g6, by simp, ?_⟩
    show AWL _ _ _ _ _ _
    have k1 : (H'.set H3.length (.loop .exhausted .normal L))[q + 1]? = _ := (set_ne (by omega)).trans ((g5 _ (by omega) (by omega) (by omega)).trans a1)
    have k0 : (H'.set H3.length (.loop .exhausted .normal L))[q]? = _ := (set_ne (by omega)).trans g3
    have e1 : ld (H'.set H3.length (.loop .exhausted .normal L)) (q + 1) 0 0 = some (.slice (some q) 0 l.length 0 1 false) := by rw [ld_row k1]; rfl
    refine L_reg [2] (fun K hK => ?_)
    simp [e1]
    apply hK; clear hK K
    exact L_ret ⟨.inr rfl, _, rfl, h _ _ (.inr ⟨q, 0, 0, by omega, by simp [gapL_len], by simpa using k0⟩) ⟨by simp; omega, fun j hj => by rw [set_ne (by omega), g5 j (by omega) (by omega) (by omega), hE03.2 j hj]⟩⟩
end Go.Proofs.Ytjfmiohgkcjdnaa
