/- Whether a list has a group, how many are in a group, and the locks of a rule. -/
import Derived.Test.YtcidcihpkdoejaaBo3
import Derived.Test.YtcidcihpkdoejaaWorks
namespace Go.Proofs.Ytcidcihpkdoejaa.Bo
open Go Go.Proofs.Ytcidcihpkdoejaa Go.Proofs.Ytcidcihpkdoejaa.AX
set_option maxRecDepth 100000

/-- A group is one of a list. -/
def hasG (l : List Nat) (g : Nat) : Bool := l.contains g
def ixN : Nat → List Nat → Nat → Int
  | _, [], _ => -1
  | i, o :: l, g => if g = o then (i : Int) else ixN (i + 1) l g
theorem ixN_has : ∀ (l : List Nat) (i g : Nat), decide (0 ≤ ixN i l g) = hasG l g
  | [], _, _ => rfl
  | o :: l, i, g => by
    have ih := ixN_has l (i + 1) g
    unfold hasG at *
    by_cases h : g = o
    · subst h; simp [ixN]
    · rw [ixN, if_neg h, ih]
      simp [h]
theorem index_q (l : List Nat) (u : AV) (g : Nat) (hlen : l.length ≤ 1000000) (H : AH) (hu : Ls H u (il l)) (Q : AV → AH → Prop) (h : Q (.int .i64 (ixN 0 l g)) H) : AC Try.prog 104 [u, .int .i64 g] H Q := by
  refine AC.quiet (belB_int _ _ _ _) (fun Q h => ?_) Q h
  refine L_body 19 Try.func104 rfl rfl ?_
  have hvl := ls_len hu
  rw [il_len] at hvl
  refine L_reg [0, 1] (fun K hK => ?_)
  simp
  apply hK; clear hK K
  refine L_reg [0, 1, 7, 8] (fun K hK => ?_)
  simp [hvl]
  apply hK; clear hK K
  refine L_block (L_loopV [8] (fun q vs H' => ∃ i : Nat, q = l.length - i ∧ i ≤ l.length ∧ vs = [.int .i64 i] ∧ H = H' ∧ ixN i (l.drop i) g = ixN 0 l g) _ [.int .i64 (0 : Nat)] rfl ⟨0, rfl, by omega, rfl, rfl, rfl⟩ ?_)
  rintro q _ _ ⟨i, rfl, hi, rfl, rfl, hc⟩
  refine L_reg [0, 1, 7, 8, 9] (fun K hK => ?_)
  simp
  apply hK; clear hK K
  refine L_dec (i < l.length) (by simp) (fun hlt => ?_) (fun hge => L_exit ?_)
  · refine L_block ?_
    obtain ⟨rz, pz, vz, hix, hldz⟩ := il_ix hu hlt
    rw [List.drop_eq_getElem_cons hlt, ixN] at hc
    generalize l[i] = x at hldz hc
    refine L_reg [0, 1, 5, 7, 8] (fun K hK => ?_)
    simp
    apply hK; clear hK K
    refine L_reg [0, 1, 5, 7, 8, 16] (fun K hK => ?_)
    simp [hix, hldz]
    apply hK; clear hK K
    by_cases hx : g = x
    · rw [if_pos hx] at hc
      refine L_true (by simp [hx]) ?_
      refine L_reg [4] (fun K hK => ?_)
      simp
      apply hK; clear hK K
      refine L_ret ⟨.inr rfl, _, rfl, ?_⟩
      rw [← hc] at h
      exact h _ (.refl _)
    · rw [if_neg hx] at hc
      refine L_false (by simp; omega) ?_
      refine L_reg [0, 1, 7, 8] (fun K hK => ?_)
      simp [wrap_i64 (a := (i : Int) + 1) (by omega)]
      apply hK; clear hK K
      exact ⟨l.length - (i + 1), [.int .i64 (i + 1 : Nat)], by omega, by simp, i + 1, rfl, by omega, rfl, rfl, hc⟩
  · have e : i = l.length := by omega
    subst e
    rw [List.drop_length, ixN] at hc
    refine L_reg [4] (fun K hK => ?_)
    simp
    apply hK; clear hK K
    refine L_ret ⟨.inr rfl, _, rfl, ?_⟩
    rw [← hc] at h
    exact h _ (.refl _)
theorem contains_q (l : List Nat) (u : AV) (g : Nat) (hlen : l.length ≤ 1000000) (H : AH) (hu : Ls H u (il l)) (Q : AV → AH → Prop) (h : Q (.bool (hasG l g)) H) : AC Try.prog 92 [u, .int .i64 g] H Q := by
  refine L_body 9 Try.func92 rfl rfl ?_
  refine L_reg [0, 1] (fun K hK => ?_)
  simp
  apply hK; clear hK K
  have e := ixN_has l 0 g
  refine L_reg [4] (fun K hK => ?_)
  simp [okFn_low]
  refine index_q l u g hlen _ hu _ ?_
  simp [e]
  apply hK; clear hK K
  exact L_ret ⟨.inr rfl, _, rfl, h⟩
theorem lists_q {n : Nat} {l : List Nat} (hr : OkR n l) (g : Nat) (s : AV) (H : AH) (hs : Ls H s (il l)) (Q : AV → AH → Prop) (h : Q (.bool (hasG l g)) H) : AC Try.prog 79 [cA n s, .int .i64 g] H Q := by
  refine AC.quiet (belB_bool _ _ _) (fun Q h => ?_) Q h
  refine L_body 9 Try.func79 rfl rfl ?_
  have hk := ls_known hs
  have hlen := hr.len
  refine L_reg [1, 2] (fun K hK => ?_)
  simp [cA, AV.isU, acells]
  apply hK; clear hK K
  have h1 : (H ++ [AObj.row [.int .i64 n, s] 0 0 false])[H.length]? = some (.row [.int .i64 n, s] 0 0 false) := by simp
  have hE : Ext H (H ++ [AObj.row [.int .i64 n, s] 0 0 false]) := .push _ _
  generalize H ++ [AObj.row [.int .i64 n, s] 0 0 false] = H1 at h1 hE ⊢
  have a1 := ld_c1 h1 hk
  refine L_reg [4] (fun K hK => ?_)
  simp [okFn_low, a1]
  refine contains_q l s g (by omega) _ (hs.ext hE) _ ?_
  simp
  apply hK; clear hK K
  exact L_ret ⟨.inr rfl, _, rfl, h _ hE⟩
noncomputable def onesB (g : Nat) : Bool := match callN (runZ cx 300) 51 [.int .u64 (.ofNat g)] [] with
  | some (.int .i64 m, []) => m == (pop g : Int)
  | _ => false
theorem ones_all : (List.range 64).all onesB = true := by kernel_rfl
theorem ones_q (g : Nat) (hg : g < 64) (H : AH) (Q : AV → AH → Prop) (h : Q (.int .i64 (pop g : Nat)) H) : AC Try.prog 51 [.int .u64 g] H Q := by
  have h1 := ones_all
  rw [List.all_eq_true] at h1
  have h2 := h1 g (List.mem_range.2 hg)
  unfold onesB at h2
  split at h2
  case h_2 => cases h2
  rename_i m hm
  rw [beq_iff_eq] at h2
  subst h2
  exact AC_kernZ cx_ok 300 hm (.cons (.int _ _) .nil) (.int _ _) h
theorem enough_q {k g c p : Nat} (hg : g < 64) (H : AH) (hp : H[c]? = some (.row [.int .i64 k] 0 p false)) (Q : AV → AH → Prop) (h : Q (.bool (anyG k g)) H) : AC Try.prog 80 [.int .i64 g, .ptr c 0 0] H Q := by
  refine L_body 9 Try.func80 rfl rfl ?_
  refine L_reg [0, 1] (fun K hK => ?_)
  simp
  apply hK; clear hK K
  have fq : ld H c 0 0 = some (.int .i64 k) := by rw [ld_row hp]; rfl
  have hw : IntKind.u64.wrap (g : Int) = g := by
    have h1 : ∀ g : Nat, g < 64 → IntKind.u64.wrap (g : Int) = g := by decide
    exact h1 g hg
  refine L_regQ mixed [3] (by kernel_rfl) (fun K hK => ?_)
  simp [okFn_low, hw, okFn_low]
  refine exQ_mk (fun Q hQ => ones_q g hg _ Q hQ) ?_
  simp [fq]
  apply hK; clear hK K
  have e : decide (((pop g : Nat) : Int) ≥ (k : Int)) = anyG k g := by
    unfold anyG; rw [decide_eq_decide]; omega
  exact L_ret ⟨.inr rfl, _, rfl, h⟩
/-- The fewest locks. -/
theorem locks_ac {n : Nat} {l : List Nat} (hr : OkR n l) (s : AV) (H : AH) (hs : Ls H s (il l)) (Q : AV → AH → Prop) (h : ∀ v H', OwnN H.length H' v (il (locksS n l)) → Ext H H' → Q v H') : AC Try.prog 70 [cA n s] H Q := by
  refine L_body 8 Try.func70 rfl rfl ?_
  have hk := ls_known hs
  have h64 := pw64 hr.n6
  refine L_reg [1] (fun K hK => ?_)
  simp [cA, AV.isU, acells]
  apply hK; clear hK K
  have h1 : (H ++ [AObj.row [.int .i64 n, s] 0 0 false])[H.length]? = some (.row [.int .i64 n, s] 0 0 false) := by simp
  have hE : Ext H (H ++ [AObj.row [.int .i64 n, s] 0 0 false]) := .push _ _
  generalize hH1 : H ++ [AObj.row [.int .i64 n, s] 0 0 false] = H1 at h1 hE ⊢
  have a2 := ldn_c h1 hk
  refine L_reg [2] (fun K hK => ?_)
  simp [okFn_low, a2]
  refine smallest_ac hr.n6 91 [cA n s] [] (need n (within l)) s (by kernel_rfl) _ hk (fun g hg H' hE' Q hQ => needed_q hr g hg s _ (hs.ext (hE.trans hE')) Q hQ) _ (fun v H2 ho hE2 => ?_)
  simp
  apply hK; clear hK K
  exact L_ret ⟨.inr rfl, _, rfl, h v H2 ⟨ho.1, ho.2.mono hE.1⟩ (hE.trans hE2)⟩
end Go.Proofs.Ytcidcihpkdoejaa.Bo
