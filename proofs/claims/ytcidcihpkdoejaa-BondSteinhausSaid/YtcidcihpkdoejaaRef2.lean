/- The reference's calls: who may open, who opens, the smallest and the largest groups. -/
import Derived.Test.YtcidcihpkdoejaaRef1
namespace Go.Proofs.Ytcidcihpkdoejaa.Bo
open Go Go.Proofs.Ytcidcihpkdoejaa Go.Proofs.Ytcidcihpkdoejaa.AX
set_option maxRecDepth 100000
/-- A question that no group so far answers by yes. -/
def flS (c : Nat → Bool) (b : Bool) (j : Nat) : Bool := b && (List.range j).all fun o => !c o
theorem flS_zero (c : Nat → Bool) (b : Bool) : flS c b 0 = b := by simp [flS]
theorem flS_step (c : Nat → Bool) (b : Bool) (j : Nat) : flS c b (j + 1) = (flS c b j && !c j) := by
  unfold flS
  rw [List.range_succ, List.all_append]
  cases b <;> simp
def cL (so : Nat → Bool) (g o : Nat) : Bool := !(o == g) && sub o g && so o
def cM (so : Nat → Bool) (g o : Nat) : Bool := !(o == g) && sub g o && !so o
theorem fl_lst (N : Nat) (so : Nat → Bool) (g : Nat) : flS (cL so g) (so g) N = lst N so g := rfl
theorem fl_mst (N : Nat) (so : Nat → Bool) (g : Nat) : flS (cM so g) (!so g) N = mst N so g := rfl
theorem mst_next (N : Nat) (so : Nat → Bool) (g : Nat) : (List.range (g + 1)).filter (mst N so) = (List.range g).filter (mst N so) ++ (if mst N so g then [g] else []) := rng_next _ _

theorem MayR_bad (n : Int) (l : List Int) (s : AV) (g : Int) (hlen : l.length ≤ 1000000) (hc : chk n l ≠ 0) (H : AH) (hs : Ls H s l) (Q : AV → AH → Prop) (h : Q (.tuple [.bool false, .int .i64 (chk n l)]) H) : AC Try.prog 17 [cA n s, .int .i64 g] H Q := by
  refine AC.quiet (belB_be _ _ _ _) (fun Q h => ?_) Q h
  refine L_body 26 Try.func17 rfl rfl ?_
  have hk := ls_known hs
  refine L_reg [1, 2] (fun K hK => ?_)
  simp [cA, AV.isU, acells]
  apply hK; clear hK K
  have h1 : (H ++ [AObj.row [.int .i64 n, s] 0 0 false])[H.length]? = some (.row [.int .i64 n, s] 0 0 false) := by simp
  have hE : Ext H (H ++ [AObj.row [.int .i64 n, s] 0 0 false]) := .push _ _
  generalize H ++ [AObj.row [.int .i64 n, s] 0 0 false] = HB at h1 hE ⊢
  have hp1 := (List.getElem?_eq_some_iff.1 h1).1
  have c0 := ld_c0 h1
  have c1 := ld_c1 h1 hk
  have a2 := ldn_c h1 hk
  have hsB := hs.ext hE
  refine L_reg [1, 2, 6] (fun K hK => ?_)
  simp [okFn_low, a2]
  refine CheckR_q n l s hlen _ hsB _ ?_
  simp
  apply hK; clear hK K
  have hcb : (chk n l == 0) = false := by simpa using hc
  refine L_reg [1, 2, 6, 19] (fun K hK => ?_)
  simp [hcb, pickV]
  apply hK; clear hK K
  refine L_false rfl ?_
  refine L_reg [1, 2, 6, 21] (fun K hK => ?_)
  simp
  apply hK; clear hK K
  refine L_true (by simp [hc]) ?_
  refine L_reg [4, 5] (fun K hK => ?_)
  simp
  apply hK; clear hK K
  exact L_ret ⟨.inr rfl, _, rfl, h _ hE⟩
theorem MayR_none {n : Nat} {l : List Nat} (hr : OkR n l) (s : AV) (g : Int) (hg : ¬ (0 ≤ g ∧ g < ((2 ^ n : Nat) : Int))) (H : AH) (hs : Ls H s (il l)) (Q : AV → AH → Prop) (h : Q (.tuple [.bool false, .int .i64 2]) H) : AC Try.prog 17 [cA n s, .int .i64 g] H Q := by
  have hc := ok_chk hr
  have hlen : (il l).length ≤ 1000000 := by rw [il_len]; have := hr.len; omega
  have h64 := pw64 hr.n6
  have hp := pw n
  refine AC.quiet (belB_be _ _ _ _) (fun Q h => ?_) Q h
  refine L_body 26 Try.func17 rfl rfl ?_
  have hk := ls_known hs
  refine L_reg [1, 2] (fun K hK => ?_)
  simp [cA, AV.isU, acells]
  apply hK; clear hK K
  have h1 : (H ++ [AObj.row [.int .i64 n, s] 0 0 false])[H.length]? = some (.row [.int .i64 n, s] 0 0 false) := by simp
  have hE : Ext H (H ++ [AObj.row [.int .i64 n, s] 0 0 false]) := .push _ _
  generalize H ++ [AObj.row [.int .i64 n, s] 0 0 false] = HB at h1 hE ⊢
  have hp1 := (List.getElem?_eq_some_iff.1 h1).1
  have c0 := ld_c0 h1
  have c1 := ld_c1 h1 hk
  have a2 := ldn_c h1 hk
  have hsB := hs.ext hE
  have hshl : ∀ tt ll, binV Try.prog .shl tt ll (.int .i64 1) (.int .i64 (n : Int)) = some (.int .i64 ((2 ^ n : Nat) : Int)) := fun _ _ => n_shl n hr.n6
  refine L_reg [1, 2, 6] (fun K hK => ?_)
  simp [okFn_low, a2]
  refine CheckR_q n (il l) s hlen _ hsB _ ?_
  simp [hc]
  apply hK; clear hK K
  obtain ⟨N, hN⟩ : ∃ N, 2 ^ n = N := ⟨_, rfl⟩
  rw [hN] at hshl hp h64 hg
  have e : (N : Int) - 1 = ((N - 1 : Nat) : Int) := by omega
  have hd : decide (0 ≤ g ∧ g ≤ ((N - 1 : Nat) : Int)) = false := by rw [decide_eq_false_iff_not]; omega
  refine L_reg [1, 2, 6, 19] (fun K hK => ?_)
  simp [c0, hshl, e, wrap_i64 (a := ((N - 1 : Nat) : Int)) (by omega), okFn_low]
  refine in_q g 0 ((N - 1 : Nat) : Int) _ _ ?_
  rw [hd]
  simp [pickV]
  apply hK; clear hK K
  refine L_true rfl ?_
  refine L_reg [1, 2, 6] (fun K hK => ?_)
  simp
  apply hK; clear hK K
  refine L_reg [1, 2, 6, 21] (fun K hK => ?_)
  simp
  apply hK; clear hK K
  refine L_true rfl ?_
  refine L_reg [4, 5] (fun K hK => ?_)
  simp
  apply hK; clear hK K
  exact L_ret ⟨.inr rfl, _, rfl, h _ hE⟩
theorem MayR_ok {n : Nat} {l : List Nat} (hr : OkR n l) (s : AV) (x : Nat) (hx : x < 2 ^ n) (H : AH) (hs : Ls H s (il l)) (Q : AV → AH → Prop) (h : Q (.tuple [.bool (within l x), .int .i64 0]) H) : AC Try.prog 17 [cA n s, .int .i64 (x : Int)] H Q := by
  have hc := ok_chk hr
  have hlen : (il l).length ≤ 1000000 := by rw [il_len]; have := hr.len; omega
  have h64 := pw64 hr.n6
  have hp := pw n
  refine AC.quiet (belB_be _ _ _ _) (fun Q h => ?_) Q h
  refine L_body 26 Try.func17 rfl rfl ?_
  have hk := ls_known hs
  refine L_reg [1, 2] (fun K hK => ?_)
  simp [cA, AV.isU, acells]
  apply hK; clear hK K
  have h1 : (H ++ [AObj.row [.int .i64 n, s] 0 0 false])[H.length]? = some (.row [.int .i64 n, s] 0 0 false) := by simp
  have hE : Ext H (H ++ [AObj.row [.int .i64 n, s] 0 0 false]) := .push _ _
  generalize H ++ [AObj.row [.int .i64 n, s] 0 0 false] = HB at h1 hE ⊢
  have hp1 := (List.getElem?_eq_some_iff.1 h1).1
  have c0 := ld_c0 h1
  have c1 := ld_c1 h1 hk
  have a2 := ldn_c h1 hk
  have hsB := hs.ext hE
  have hshl : ∀ tt ll, binV Try.prog .shl tt ll (.int .i64 1) (.int .i64 (n : Int)) = some (.int .i64 ((2 ^ n : Nat) : Int)) := fun _ _ => n_shl n hr.n6
  refine L_reg [1, 2, 6] (fun K hK => ?_)
  simp [okFn_low, a2]
  refine CheckR_q n (il l) s hlen _ hsB _ ?_
  simp [hc]
  apply hK; clear hK K
  obtain ⟨N, hN⟩ : ∃ N, 2 ^ n = N := ⟨_, rfl⟩
  have hxN := hx
  rw [hN] at hshl hp h64 hxN
  have e : (N : Int) - 1 = ((N - 1 : Nat) : Int) := by omega
  have hd : decide (0 ≤ (x : Int) ∧ (x : Int) ≤ ((N - 1 : Nat) : Int)) = true := by rw [decide_eq_true_eq]; omega
  refine L_reg [1, 2, 6, 19] (fun K hK => ?_)
  simp [c0, hshl, e, wrap_i64 (a := ((N - 1 : Nat) : Int)) (by omega), okFn_low]
  refine in_q x 0 ((N - 1 : Nat) : Int) _ _ ?_
  rw [hd]
  simp [pickV]
  apply hK; clear hK K
  refine L_false rfl ?_
  refine L_reg [1, 2, 6, 21] (fun K hK => ?_)
  simp
  apply hK; clear hK K
  refine L_false rfl ?_
  refine L_reg [4, 5] (fun K hK => ?_)
  simp [okFn_low, a2]
  refine mayR_q hr x (by omega) s _ hsB _ ?_
  simp
  apply hK; clear hK K
  exact L_ret ⟨.inr rfl, _, rfl, h _ hE⟩
theorem LacksR_bad (n : Int) (l : List Int) (s : AV) (g : Int) (hlen : l.length ≤ 1000000) (hc : chk n l ≠ 0) (H : AH) (hs : Ls H s l) (Q : AV → AH → Prop) (h : Q (.tuple [nilS, .int .i64 (chk n l)]) H) : AC Try.prog 28 [cA n s, .int .i64 g] H Q := by
  refine AC.quiet (belB_ne _ _ _) (fun Q h => ?_) Q h
  refine L_body 26 Try.func28 rfl rfl ?_
  have hk := ls_known hs
  refine L_reg [1, 2] (fun K hK => ?_)
  simp [cA, AV.isU, acells]
  apply hK; clear hK K
  have h1 : (H ++ [AObj.row [.int .i64 n, s] 0 0 false])[H.length]? = some (.row [.int .i64 n, s] 0 0 false) := by simp
  have hE : Ext H (H ++ [AObj.row [.int .i64 n, s] 0 0 false]) := .push _ _
  generalize H ++ [AObj.row [.int .i64 n, s] 0 0 false] = HB at h1 hE ⊢
  have hp1 := (List.getElem?_eq_some_iff.1 h1).1
  have c0 := ld_c0 h1
  have c1 := ld_c1 h1 hk
  have a2 := ldn_c h1 hk
  have hsB := hs.ext hE
  refine L_reg [1, 2, 6] (fun K hK => ?_)
  simp [okFn_low, a2]
  refine CheckP_q n l s hlen _ hsB _ ?_
  simp
  apply hK; clear hK K
  have hcb : (chk n l == 0) = false := by simpa using hc
  refine L_reg [1, 2, 6, 19] (fun K hK => ?_)
  simp [hcb, pickV]
  apply hK; clear hK K
  refine L_false rfl ?_
  refine L_reg [1, 2, 6, 21] (fun K hK => ?_)
  simp
  apply hK; clear hK K
  refine L_true (by simp [hc]) ?_
  refine L_reg [4, 5] (fun K hK => ?_)
  simp
  apply hK; clear hK K
  exact L_ret ⟨.inr rfl, _, rfl, h _ hE⟩
theorem LacksR_none {n : Nat} {l : List Nat} (hr : OkR n l) (s : AV) (g : Int) (hg : ¬ (0 ≤ g ∧ g < ((2 ^ n : Nat) : Int))) (H : AH) (hs : Ls H s (il l)) (Q : AV → AH → Prop) (h : Q (.tuple [nilS, .int .i64 2]) H) : AC Try.prog 28 [cA n s, .int .i64 g] H Q := by
  have hc := ok_chk hr
  have hlen : (il l).length ≤ 1000000 := by rw [il_len]; have := hr.len; omega
  have h64 := pw64 hr.n6
  have hp := pw n
  refine AC.quiet (belB_ne _ _ _) (fun Q h => ?_) Q h
  refine L_body 26 Try.func28 rfl rfl ?_
  have hk := ls_known hs
  refine L_reg [1, 2] (fun K hK => ?_)
  simp [cA, AV.isU, acells]
  apply hK; clear hK K
  have h1 : (H ++ [AObj.row [.int .i64 n, s] 0 0 false])[H.length]? = some (.row [.int .i64 n, s] 0 0 false) := by simp
  have hE : Ext H (H ++ [AObj.row [.int .i64 n, s] 0 0 false]) := .push _ _
  generalize H ++ [AObj.row [.int .i64 n, s] 0 0 false] = HB at h1 hE ⊢
  have hp1 := (List.getElem?_eq_some_iff.1 h1).1
  have c0 := ld_c0 h1
  have c1 := ld_c1 h1 hk
  have a2 := ldn_c h1 hk
  have hsB := hs.ext hE
  have hshl : ∀ tt ll, binV Try.prog .shl tt ll (.int .i64 1) (.int .i64 (n : Int)) = some (.int .i64 ((2 ^ n : Nat) : Int)) := fun _ _ => n_shl n hr.n6
  refine L_reg [1, 2, 6] (fun K hK => ?_)
  simp [okFn_low, a2]
  refine CheckP_q n (il l) s hlen _ hsB _ ?_
  simp [hc]
  apply hK; clear hK K
  obtain ⟨N, hN⟩ : ∃ N, 2 ^ n = N := ⟨_, rfl⟩
  rw [hN] at hshl hp h64 hg
  have e : (N : Int) - 1 = ((N - 1 : Nat) : Int) := by omega
  have hd : decide (0 ≤ g ∧ g ≤ ((N - 1 : Nat) : Int)) = false := by rw [decide_eq_false_iff_not]; omega
  refine L_reg [1, 2, 6, 19] (fun K hK => ?_)
  simp [c0, hshl, e, wrap_i64 (a := ((N - 1 : Nat) : Int)) (by omega), okFn_low]
  refine in_q g 0 ((N - 1 : Nat) : Int) _ _ ?_
  rw [hd]
  simp [pickV]
  apply hK; clear hK K
  refine L_true rfl ?_
  refine L_reg [1, 2, 6] (fun K hK => ?_)
  simp
  apply hK; clear hK K
  refine L_reg [1, 2, 6, 21] (fun K hK => ?_)
  simp
  apply hK; clear hK K
  refine L_true rfl ?_
  refine L_reg [4, 5] (fun K hK => ?_)
  simp
  apply hK; clear hK K
  exact L_ret ⟨.inr rfl, _, rfl, h _ hE⟩
theorem LacksR_ok {n : Nat} {l : List Nat} (hr : OkR n l) (s : AV) (x : Nat) (hx : x < 2 ^ n) (H : AH) (hs : Ls H s (il l)) (Q : AV → AH → Prop) (h : ∀ v H', OwnF H.length H' v ((il (lackS 0 l x)).map (.int .i64)) → Ext H H' → Q (.tuple [v, .int .i64 0]) H') : AC Try.prog 28 [cA n s, .int .i64 (x : Int)] H Q := by
  have hc := ok_chk hr
  have hlen : (il l).length ≤ 1000000 := by rw [il_len]; have := hr.len; omega
  have h64 := pw64 hr.n6
  have hp := pw n
  refine L_body 26 Try.func28 rfl rfl ?_
  have hk := ls_known hs
  refine L_reg [1, 2] (fun K hK => ?_)
  simp [cA, AV.isU, acells]
  apply hK; clear hK K
  have h1 : (H ++ [AObj.row [.int .i64 n, s] 0 0 false])[H.length]? = some (.row [.int .i64 n, s] 0 0 false) := by simp
  have hE : Ext H (H ++ [AObj.row [.int .i64 n, s] 0 0 false]) := .push _ _
  generalize H ++ [AObj.row [.int .i64 n, s] 0 0 false] = HB at h1 hE ⊢
  have hp1 := (List.getElem?_eq_some_iff.1 h1).1
  have c0 := ld_c0 h1
  have c1 := ld_c1 h1 hk
  have a2 := ldn_c h1 hk
  have hsB := hs.ext hE
  have hshl : ∀ tt ll, binV Try.prog .shl tt ll (.int .i64 1) (.int .i64 (n : Int)) = some (.int .i64 ((2 ^ n : Nat) : Int)) := fun _ _ => n_shl n hr.n6
  refine L_reg [1, 2, 6] (fun K hK => ?_)
  simp [okFn_low, a2]
  refine CheckP_q n (il l) s hlen _ hsB _ ?_
  simp [hc]
  apply hK; clear hK K
  obtain ⟨N, hN⟩ : ∃ N, 2 ^ n = N := ⟨_, rfl⟩
  have hxN := hx
  rw [hN] at hshl hp h64 hxN
  have e : (N : Int) - 1 = ((N - 1 : Nat) : Int) := by omega
  have hd : decide (0 ≤ (x : Int) ∧ (x : Int) ≤ ((N - 1 : Nat) : Int)) = true := by rw [decide_eq_true_eq]; omega
  refine L_reg [1, 2, 6, 19] (fun K hK => ?_)
  simp [c0, hshl, e, wrap_i64 (a := ((N - 1 : Nat) : Int)) (by omega), okFn_low]
  refine in_q x 0 ((N - 1 : Nat) : Int) _ _ ?_
  rw [hd]
  simp [pickV]
  apply hK; clear hK K
  refine L_false rfl ?_
  refine L_reg [1, 2, 6, 21] (fun K hK => ?_)
  simp
  apply hK; clear hK K
  refine L_false rfl ?_
  refine L_reg [4, 5] (fun K hK => ?_)
  simp [okFn_low, a2]
  refine lacksR_ac hr x (by omega) s _ hsB _ fun v H4 ho hE4 => ?_
  simp
  apply hK; clear hK K
  exact L_ret ⟨.inr rfl, _, rfl, h v H4 (ho.mono hE.1) (hE.trans hE4)⟩
theorem OpensR_bad (n : Int) (l : List Int) (s : AV) (g : Int) (hlen : l.length ≤ 1000000) (hc : chk n l ≠ 0) (H : AH) (hs : Ls H s l) (Q : AV → AH → Prop) (h : Q (.tuple [.bool false, .int .i64 (chk n l)]) H) : AC Try.prog 26 [cA n s, .int .i64 g] H Q := by
  refine AC.quiet (belB_be _ _ _ _) (fun Q h => ?_) Q h
  refine L_body 22 Try.func26 rfl rfl ?_
  have hk := ls_known hs
  refine L_reg [1, 2] (fun K hK => ?_)
  simp [cA, AV.isU, acells]
  apply hK; clear hK K
  have h1 : (H ++ [AObj.row [.int .i64 n, s] 0 0 false])[H.length]? = some (.row [.int .i64 n, s] 0 0 false) := by simp
  have hE : Ext H (H ++ [AObj.row [.int .i64 n, s] 0 0 false]) := .push _ _
  generalize H ++ [AObj.row [.int .i64 n, s] 0 0 false] = HB at h1 hE ⊢
  have hp1 := (List.getElem?_eq_some_iff.1 h1).1
  have c0 := ld_c0 h1
  have c1 := ld_c1 h1 hk
  have a2 := ldn_c h1 hk
  have hsB := hs.ext hE
  refine L_reg [6, 7] (fun K hK => ?_)
  simp [okFn_low, a2]
  refine LacksR_bad n l s g hlen hc _ hsB _ ?_
  simp
  apply hK; clear hK K
  have hcb : (chk n l == 0) = false := by simpa using hc
  refine L_reg [4, 5] (fun K hK => ?_)
  simp [hcb, pickV]
  apply hK; clear hK K
  exact L_ret ⟨.inr rfl, _, rfl, h _ hE⟩
theorem OpensR_none {n : Nat} {l : List Nat} (hr : OkR n l) (s : AV) (g : Int) (hg : ¬ (0 ≤ g ∧ g < ((2 ^ n : Nat) : Int))) (H : AH) (hs : Ls H s (il l)) (Q : AV → AH → Prop) (h : Q (.tuple [.bool false, .int .i64 2]) H) : AC Try.prog 26 [cA n s, .int .i64 g] H Q := by
  refine AC.quiet (belB_be _ _ _ _) (fun Q h => ?_) Q h
  refine L_body 22 Try.func26 rfl rfl ?_
  have hk := ls_known hs
  refine L_reg [1, 2] (fun K hK => ?_)
  simp [cA, AV.isU, acells]
  apply hK; clear hK K
  have h1 : (H ++ [AObj.row [.int .i64 n, s] 0 0 false])[H.length]? = some (.row [.int .i64 n, s] 0 0 false) := by simp
  have hE : Ext H (H ++ [AObj.row [.int .i64 n, s] 0 0 false]) := .push _ _
  generalize H ++ [AObj.row [.int .i64 n, s] 0 0 false] = HB at h1 hE ⊢
  have hp1 := (List.getElem?_eq_some_iff.1 h1).1
  have c0 := ld_c0 h1
  have c1 := ld_c1 h1 hk
  have a2 := ldn_c h1 hk
  have hsB := hs.ext hE
  refine L_reg [6, 7] (fun K hK => ?_)
  simp [okFn_low, a2]
  refine LacksR_none hr s g hg _ hsB _ ?_
  simp
  apply hK; clear hK K
  refine L_reg [4, 5] (fun K hK => ?_)
  simp [pickV]
  apply hK; clear hK K
  exact L_ret ⟨.inr rfl, _, rfl, h _ hE⟩
theorem OpensR_ok {n : Nat} {l : List Nat} (hr : OkR n l) (s : AV) (x : Nat) (hx : x < 2 ^ n) (H : AH) (hs : Ls H s (il l)) (Q : AV → AH → Prop) (h : Q (.tuple [.bool (meets l x), .int .i64 0]) H) : AC Try.prog 26 [cA n s, .int .i64 (x : Int)] H Q := by
  refine AC.quiet (belB_be _ _ _ _) (fun Q h => ?_) Q h
  refine L_body 22 Try.func26 rfl rfl ?_
  have hk := ls_known hs
  refine L_reg [1, 2] (fun K hK => ?_)
  simp [cA, AV.isU, acells]
  apply hK; clear hK K
  have h1 : (H ++ [AObj.row [.int .i64 n, s] 0 0 false])[H.length]? = some (.row [.int .i64 n, s] 0 0 false) := by simp
  have hE : Ext H (H ++ [AObj.row [.int .i64 n, s] 0 0 false]) := .push _ _
  generalize H ++ [AObj.row [.int .i64 n, s] 0 0 false] = HB at h1 hE ⊢
  have hp1 := (List.getElem?_eq_some_iff.1 h1).1
  have c0 := ld_c0 h1
  have c1 := ld_c1 h1 hk
  have a2 := ldn_c h1 hk
  have hsB := hs.ext hE
  refine L_reg [6, 7] (fun K hK => ?_)
  simp [okFn_low, a2]
  refine LacksR_ok hr s x hx _ hsB _ fun v H4 ho hE4 => ?_
  simp
  apply hK; clear hK K
  have hln := ownF_ln ho
  have e : (((lackS 0 l x).length : Int) == 0) = meets l x := by
    rw [Bool.eq_iff_iff, beq_iff_eq, ← lack_nil l 0 x, ← List.length_eq_zero_iff]; omega
  refine L_reg [4, 5] (fun K hK => ?_)
  simp [hln, il_len, pickV, e]
  apply hK; clear hK K
  exact L_ret ⟨.inr rfl, _, rfl, h _ (hE.trans hE4)⟩
theorem ownF_ext {N : Nat} {H H' : AH} {v : AV} {l : List AV} (h : OwnF N H v l) (hE : Ext H H') : OwnF N H' v l := by
  rcases h with h | ⟨r, ver, stale, h1, h2, h3⟩
  · exact .inl h
  · exact .inr ⟨r, ver, stale, h1, h2, by rw [hE.2 _ (List.getElem?_eq_some_iff.1 h3).1]; exact h3⟩
theorem LeastR_bad (n : Int) (l : List Int) (s : AV) (hlen : l.length ≤ 1000000) (hc : chk n l ≠ 0) (H : AH) (hs : Ls H s l) (Q : AV → AH → Prop) (h : Q (.tuple [nilS, .int .i64 (chk n l)]) H) : AC Try.prog 19 [cA n s] H Q := by
  refine AC.quiet (belB_ne _ _ _) (fun Q h => ?_) Q h
  refine L_body 54 Try.func19 rfl rfl ?_
  have hk := ls_known hs
  refine L_reg [1] (fun K hK => ?_)
  simp [cA, AV.isU, acells]
  apply hK; clear hK K
  have h1 : (H ++ [AObj.row [.int .i64 n, s] 0 0 false])[H.length]? = some (.row [.int .i64 n, s] 0 0 false) := by simp
  have hE : Ext H (H ++ [AObj.row [.int .i64 n, s] 0 0 false]) := .push _ _
  generalize H ++ [AObj.row [.int .i64 n, s] 0 0 false] = HB at h1 hE ⊢
  have hp1 := (List.getElem?_eq_some_iff.1 h1).1
  have c0 := ld_c0 h1
  have c1 := ld_c1 h1 hk
  have a2 := ldn_c h1 hk
  have hsB := hs.ext hE
  refine L_reg [1, 4] (fun K hK => ?_)
  simp [okFn_low, a2]
  refine CheckR_q n l s hlen _ hsB _ ?_
  simp
  apply hK; clear hK K
  refine L_reg [1, 4, 12] (fun K hK => ?_)
  simp
  apply hK; clear hK K
  refine L_true (by simp [hc]) ?_
  refine L_reg [2, 3] (fun K hK => ?_)
  simp
  apply hK; clear hK K
  exact L_ret ⟨.inr rfl, _, rfl, h _ hE⟩
theorem LeastR_ok {n : Nat} {l : List Nat} (hr : OkR n l) (s : AV) (H : AH) (hs : Ls H s (il l)) (Q : AV → AH → Prop) (h : ∀ v H', OwnF H.length H' v ((il (leastS (2 ^ n) (within l))).map (.int .i64)) → Ext H H' → Q (.tuple [v, .int .i64 0]) H') : AC Try.prog 19 [cA n s] H Q := by
  have hc := ok_chk hr
  have hlen : (il l).length ≤ 1000000 := by rw [il_len]; have := hr.len; omega
  have h64 := pw64 hr.n6
  have hp := pw n
  refine L_body 54 Try.func19 rfl rfl ?_
  have hk := ls_known hs
  refine L_reg [1] (fun K hK => ?_)
  simp [cA, AV.isU, acells]
  apply hK; clear hK K
  have h1 : (H ++ [AObj.row [.int .i64 n, s] 0 0 false])[H.length]? = some (.row [.int .i64 n, s] 0 0 false) := by simp
  have hE : Ext H (H ++ [AObj.row [.int .i64 n, s] 0 0 false]) := .push _ _
  generalize H ++ [AObj.row [.int .i64 n, s] 0 0 false] = HB at h1 hE ⊢
  have hp1 := (List.getElem?_eq_some_iff.1 h1).1
  have c0 := ld_c0 h1
  have c1 := ld_c1 h1 hk
  have a2 := ldn_c h1 hk
  have hsB := hs.ext hE
  have hshl : ∀ tt ll, binV Try.prog .shl tt ll (.int .i64 1) (.int .i64 (n : Int)) = some (.int .i64 ((2 ^ n : Nat) : Int)) := fun _ _ => n_shl n hr.n6
  refine L_reg [1, 4] (fun K hK => ?_)
  simp [okFn_low, a2]
  refine CheckR_q n (il l) s hlen _ hsB _ ?_
  simp [hc]
  apply hK; clear hK K
  refine L_reg [1, 4, 12] (fun K hK => ?_)
  simp
  apply hK; clear hK K
  refine L_false rfl ?_
  refine L_reg [1, 5] (fun K hK => ?_)
  simp
  apply hK; clear hK K
  refine L_reg [1, 5, 6] (fun K hK => ?_)
  simp
  apply hK; clear hK K
  obtain ⟨N, hN⟩ : ∃ N, 2 ^ n = N := ⟨_, rfl⟩
  rw [hN] at hshl hp h64
  refine L_block (L_loopV [5, 6] (fun q vs H' => ∃ (i : Nat) (v : AV), q = N - i ∧ i ≤ N ∧ vs = [v, .int .i64 i] ∧ Ext HB H' ∧ OwnF HB.length H' v ((il ((List.range i).filter (lst N (within l)))).map (.int .i64))) _ [nilS, .int .i64 (0 : Nat)] rfl ⟨0, _, rfl, by omega, rfl, .refl _, OwnF.nil _ _⟩ ?_)
  clear c0 c1 a2
  rintro q _ H1 ⟨i, v, rfl, hi, rfl, hE1, ho⟩
  have h1' : H1[H.length]? = some (.row [.int .i64 n, s] 0 0 false) := by rw [hE1.2 _ hp1]; exact h1
  have c0 := ld_c0 h1'
  have a2 := ldn_c h1' hk
  have hs1 := hsB.ext hE1
  refine L_reg [1, 5, 6, 18] (fun K hK => ?_)
  simp [c0, hshl]
  apply hK; clear hK K
  refine L_dec (i < N) (by simp) (fun hlt => ?_) (fun hge => L_exit ?_)
  · refine L_block ?_
    refine L_reg [1, 5, 6, 7] (fun K hK => ?_)
    simp [okFn_low, a2]
    refine mayR_q hr i (by omega) s _ hs1 _ ?_
    simp
    apply hK; clear hK K
    refine L_reg [1, 5, 6, 7, 8] (fun K hK => ?_)
    simp
    apply hK; clear hK K
    refine L_block (L_loopV [7, 8] (fun q vs H' => ∃ j : Nat, q = N - j ∧ j ≤ N ∧ vs = [.bool (flS (cL (within l) i) ((within l) i) j), .int .i64 j] ∧ Ext H1 H' ∧ OwnF HB.length H' v ((il ((List.range i).filter (lst N (within l)))).map (.int .i64))) _ [.bool ((within l) i), .int .i64 (0 : Nat)] rfl ⟨0, rfl, by omega, by rw [flS_zero], .refl _, ho⟩ ?_)
    clear c0 a2
    rintro q _ H2 ⟨j, rfl, hj, rfl, hE2, ho2⟩
    have h1' : H2[H.length]? = some (.row [.int .i64 n, s] 0 0 false) := by rw [hE2.2 _ (List.getElem?_eq_some_iff.1 h1').1]; exact h1'
    have c0 := ld_c0 h1'
    have a2 := ldn_c h1' hk
    have hs2 := hs1.ext hE2
    refine L_reg [1, 5, 6, 7, 8, 28] (fun K hK => ?_)
    simp [c0, hshl]
    apply hK; clear hK K
    refine L_dec (j < N) (by simp) (fun hjl => ?_) (fun hjg => L_exit ?_)
    · refine L_block ?_
      have hstep := flS_step (cL (within l) i) ((within l) i) j
      have hj64 : j < 64 := by omega
      have hi64 : i < 64 := by omega
      refine L_reg [1, 5, 6, 7, 8] (fun K hK => ?_)
      suffices hk : ∀ H3, Ext H2 H3 → OwnF HB.length H3 v ((il ((List.range i).filter (lst N (within l)))).map (.int .i64)) → K [(1, .ptr H.length 0 0), (5, v), (6, .int .i64 i), (7, .bool (flS (cL (within l) i) ((within l) i) (j + 1))), (8, .int .i64 j)] H3 by
        rw [hstep] at hk
        generalize flS (cL (within l) i) ((within l) i) j = bb at hk ⊢
        cases bb with
        | false =>
          simp [pickV]
          simpa using hk H2 (.refl _) ho2
        | true =>
          by_cases hji : j = i
          · have e1 : cL (within l) i j = false := by simp [cL, hji]
            rw [e1] at hk
            have e2 : ((j : Int) != (i : Int)) = false := by simp; omega
            simp [e2, pickV]
            simpa using hk H2 (.refl _) ho2
          · have e2 : ((j : Int) != (i : Int)) = true := by simp; omega
            have e3 : cL (within l) i j = (sub j i && (within l) j) := by unfold cL; rw [beq_false_of_ne hji]; rfl
            rw [e3] at hk
            simp [e2, okFn_low]
            refine lies_q j i hj64 hi64 _ _ ?_
            cases hsb : sub j i with
            | false =>
              rw [hsb] at hk
              simp [pickV]
              simpa using hk H2 (.refl _) ho2
            | true =>
              rw [hsb] at hk
              simp [pickV, okFn_low, a2]
              refine mayR_q hr j hj64 s _ hs2 _ ?_
              simp [pickV]
              simpa using hk H2 (.refl _) ho2
      intro H3 hE3 ho3
      apply hK; clear hK K
      refine L_reg [1, 5, 6, 7, 8] (fun K hK => ?_)
      simp [wrap_i64 (a := (j : Int) + 1) (by omega)]
      apply hK; clear hK K
      exact ⟨N - (j + 1), [.bool (flS (cL (within l) i) ((within l) i) (j + 1)), .int .i64 (j + 1 : Nat)], by omega, by simp, j + 1, rfl, by omega, rfl, hE2.trans hE3, ho3⟩
    · have e : N = j := by omega
      subst e
      rw [fl_lst]
      refine L_reg [1, 5, 6, 48] (fun K hK => ?_)
      simp
      apply hK; clear hK K
      have hnx := range_next N (within l) i
      cases hl : lst N (within l) i with
      | true =>
        obtain ⟨v', H3, happ, ho3, hE3⟩ := ownF_append (P := Try.prog) (m := 1) (x := .int .i64 i) (hE1.trans hE2) el22 el22 ho2 rfl (by have := filter_len (N := i) (lst N (within l)); simp [il_len]; omega)
        refine L_true (by simp) ?_
        refine L_reg [1, 5, 6] (fun K hK => ?_)
        simp [happ]
        apply hK; clear hK K
        refine L_reg [1, 5, 6] (fun K hK => ?_)
        simp [wrap_i64 (a := (i : Int) + 1) (by omega)]
        apply hK; clear hK K
        refine ⟨N - (i + 1), [v', .int .i64 (i + 1 : Nat)], by omega, by simp, i + 1, v', rfl, by omega, rfl, hE3, ?_⟩
        rw [hnx, hl, if_pos rfl, nats_snoc]
        exact ho3
      | false =>
        refine L_false (by simp) ?_
        refine L_reg [1, 5, 6] (fun K hK => ?_)
        simp [wrap_i64 (a := (i : Int) + 1) (by omega)]
        apply hK; clear hK K
        refine ⟨N - (i + 1), [v, .int .i64 (i + 1 : Nat)], by omega, by simp, i + 1, v, rfl, by omega, rfl, hE1.trans hE2, ?_⟩
        rw [hnx, hl, if_neg (by simp), List.append_nil]
        exact ho2
  · have e : N = i := by omega
    subst e
    refine L_reg [2, 3] (fun K hK => ?_)
    simp
    apply hK; clear hK K
    rw [hN] at h
    exact L_ret ⟨.inr rfl, _, rfl, h v _ (ho.mono hE.1) (hE.trans hE1)⟩
theorem SmallestR_bad (n : Int) (l : List Int) (s : AV) (hlen : l.length ≤ 1000000) (hc : chk n l ≠ 0) (H : AH) (hs : Ls H s l) (Q : AV → AH → Prop) (h : Q (.tuple [nilS, .int .i64 (chk n l)]) H) : AC Try.prog 30 [cA n s] H Q := by
  refine AC.quiet (belB_ne _ _ _) (fun Q h => ?_) Q h
  refine L_body 58 Try.func30 rfl rfl ?_
  have hk := ls_known hs
  refine L_reg [1] (fun K hK => ?_)
  simp [cA, AV.isU, acells]
  apply hK; clear hK K
  have h1 : (H ++ [AObj.row [.int .i64 n, s] 0 0 false])[H.length]? = some (.row [.int .i64 n, s] 0 0 false) := by simp
  have hE : Ext H (H ++ [AObj.row [.int .i64 n, s] 0 0 false]) := .push _ _
  generalize H ++ [AObj.row [.int .i64 n, s] 0 0 false] = HB at h1 hE ⊢
  have hp1 := (List.getElem?_eq_some_iff.1 h1).1
  have c0 := ld_c0 h1
  have c1 := ld_c1 h1 hk
  have a2 := ldn_c h1 hk
  have hsB := hs.ext hE
  refine L_reg [1, 4] (fun K hK => ?_)
  simp [okFn_low, a2]
  refine CheckP_q n l s hlen _ hsB _ ?_
  simp
  apply hK; clear hK K
  refine L_reg [1, 4, 12] (fun K hK => ?_)
  simp
  apply hK; clear hK K
  refine L_true (by simp [hc]) ?_
  refine L_reg [2, 3] (fun K hK => ?_)
  simp
  apply hK; clear hK K
  exact L_ret ⟨.inr rfl, _, rfl, h _ hE⟩
theorem SmallestR_ok {n : Nat} {l : List Nat} (hr : OkR n l) (s : AV) (H : AH) (hs : Ls H s (il l)) (Q : AV → AH → Prop) (h : ∀ v H', OwnF H.length H' v ((il (leastS (2 ^ n) (meets l))).map (.int .i64)) → Ext H H' → Q (.tuple [v, .int .i64 0]) H') : AC Try.prog 30 [cA n s] H Q := by
  have hc := ok_chk hr
  have hlen : (il l).length ≤ 1000000 := by rw [il_len]; have := hr.len; omega
  have h64 := pw64 hr.n6
  have hp := pw n
  refine L_body 58 Try.func30 rfl rfl ?_
  have hk := ls_known hs
  refine L_reg [1] (fun K hK => ?_)
  simp [cA, AV.isU, acells]
  apply hK; clear hK K
  have h1 : (H ++ [AObj.row [.int .i64 n, s] 0 0 false])[H.length]? = some (.row [.int .i64 n, s] 0 0 false) := by simp
  have hE : Ext H (H ++ [AObj.row [.int .i64 n, s] 0 0 false]) := .push _ _
  generalize H ++ [AObj.row [.int .i64 n, s] 0 0 false] = HB at h1 hE ⊢
  have hp1 := (List.getElem?_eq_some_iff.1 h1).1
  have c0 := ld_c0 h1
  have c1 := ld_c1 h1 hk
  have a2 := ldn_c h1 hk
  have hsB := hs.ext hE
  have hshl : ∀ tt ll, binV Try.prog .shl tt ll (.int .i64 1) (.int .i64 (n : Int)) = some (.int .i64 ((2 ^ n : Nat) : Int)) := fun _ _ => n_shl n hr.n6
  refine L_reg [1, 4] (fun K hK => ?_)
  simp [okFn_low, a2]
  refine CheckP_q n (il l) s hlen _ hsB _ ?_
  simp [hc]
  apply hK; clear hK K
  refine L_reg [1, 4, 12] (fun K hK => ?_)
  simp
  apply hK; clear hK K
  refine L_false rfl ?_
  refine L_reg [1, 5] (fun K hK => ?_)
  simp
  apply hK; clear hK K
  refine L_reg [1, 5, 6] (fun K hK => ?_)
  simp
  apply hK; clear hK K
  obtain ⟨N, hN⟩ : ∃ N, 2 ^ n = N := ⟨_, rfl⟩
  rw [hN] at hshl hp h64
  refine L_block (L_loopV [5, 6] (fun q vs H' => ∃ (i : Nat) (v : AV), q = N - i ∧ i ≤ N ∧ vs = [v, .int .i64 i] ∧ Ext HB H' ∧ OwnF HB.length H' v ((il ((List.range i).filter (lst N (meets l)))).map (.int .i64))) _ [nilS, .int .i64 (0 : Nat)] rfl ⟨0, _, rfl, by omega, rfl, .refl _, OwnF.nil _ _⟩ ?_)
  clear c0 c1 a2
  rintro q _ H1 ⟨i, v, rfl, hi, rfl, hE1, ho⟩
  have h1' : H1[H.length]? = some (.row [.int .i64 n, s] 0 0 false) := by rw [hE1.2 _ hp1]; exact h1
  have c0 := ld_c0 h1'
  have a2 := ldn_c h1' hk
  have hs1 := hsB.ext hE1
  refine L_reg [1, 5, 6, 18] (fun K hK => ?_)
  simp [c0, hshl]
  apply hK; clear hK K
  refine L_dec (i < N) (by simp) (fun hlt => ?_) (fun hge => L_exit ?_)
  · refine L_block ?_
    refine L_reg [1, 5, 6, 7] (fun K hK => ?_)
    simp [okFn_low, a2]
    refine lacksR_ac hr i (by omega) s _ hs1 _ fun vv G1 hov hEG => ?_
    have hln := ownF_ln hov
    have e0 : (((lackS 0 l i).length : Int) == 0) = meets l i := by
      rw [Bool.eq_iff_iff, beq_iff_eq, ← lack_nil l 0 i, ← List.length_eq_zero_iff]; omega
    simp [hln, il_len, e0]
    apply hK; clear hK K
    have hoG := ownF_ext ho hEG
    refine L_reg [1, 5, 6, 7, 8] (fun K hK => ?_)
    simp
    apply hK; clear hK K
    refine L_block (L_loopV [7, 8] (fun q vs H' => ∃ j : Nat, q = N - j ∧ j ≤ N ∧ vs = [.bool (flS (cL (meets l) i) ((meets l) i) j), .int .i64 j] ∧ Ext H1 H' ∧ OwnF HB.length H' v ((il ((List.range i).filter (lst N (meets l)))).map (.int .i64))) _ [.bool ((meets l) i), .int .i64 (0 : Nat)] rfl ⟨0, rfl, by omega, by rw [flS_zero], hEG, hoG⟩ ?_)
    clear c0 a2
    rintro q _ H2 ⟨j, rfl, hj, rfl, hE2, ho2⟩
    have h1' : H2[H.length]? = some (.row [.int .i64 n, s] 0 0 false) := by rw [hE2.2 _ (List.getElem?_eq_some_iff.1 h1').1]; exact h1'
    have c0 := ld_c0 h1'
    have a2 := ldn_c h1' hk
    have hs2 := hs1.ext hE2
    refine L_reg [1, 5, 6, 7, 8, 30] (fun K hK => ?_)
    simp [c0, hshl]
    apply hK; clear hK K
    refine L_dec (j < N) (by simp) (fun hjl => ?_) (fun hjg => L_exit ?_)
    · refine L_block ?_
      have hstep := flS_step (cL (meets l) i) ((meets l) i) j
      have hj64 : j < 64 := by omega
      have hi64 : i < 64 := by omega
      refine L_reg [1, 5, 6, 7, 8] (fun K hK => ?_)
      suffices hk : ∀ H3, Ext H2 H3 → OwnF HB.length H3 v ((il ((List.range i).filter (lst N (meets l)))).map (.int .i64)) → K [(1, .ptr H.length 0 0), (5, v), (6, .int .i64 i), (7, .bool (flS (cL (meets l) i) ((meets l) i) (j + 1))), (8, .int .i64 j)] H3 by
        rw [hstep] at hk
        generalize flS (cL (meets l) i) ((meets l) i) j = bb at hk ⊢
        cases bb with
        | false =>
          simp [pickV]
          simpa using hk H2 (.refl _) ho2
        | true =>
          by_cases hji : j = i
          · have e1 : cL (meets l) i j = false := by simp [cL, hji]
            rw [e1] at hk
            have e2 : ((j : Int) != (i : Int)) = false := by simp; omega
            simp [e2, pickV]
            simpa using hk H2 (.refl _) ho2
          · have e2 : ((j : Int) != (i : Int)) = true := by simp; omega
            have e3 : cL (meets l) i j = (sub j i && (meets l) j) := by unfold cL; rw [beq_false_of_ne hji]; rfl
            rw [e3] at hk
            simp [e2, okFn_low]
            refine lies_q j i hj64 hi64 _ _ ?_
            cases hsb : sub j i with
            | false =>
              rw [hsb] at hk
              simp [pickV]
              simpa using hk H2 (.refl _) ho2
            | true =>
              rw [hsb] at hk
              simp [pickV, okFn_low, a2]
              refine lacksR_ac hr j hj64 s _ hs2 _ fun vv G1 hov hEG => ?_
              have hln := ownF_ln hov
              have e0 : (((lackS 0 l j).length : Int) == 0) = meets l j := by
                rw [Bool.eq_iff_iff, beq_iff_eq, ← lack_nil l 0 j, ← List.length_eq_zero_iff]; omega
              simp [hln, il_len, e0, pickV]
              simpa using hk G1 hEG (ownF_ext ho2 hEG)
      intro H3 hE3 ho3
      apply hK; clear hK K
      refine L_reg [1, 5, 6, 7, 8] (fun K hK => ?_)
      simp [wrap_i64 (a := (j : Int) + 1) (by omega)]
      apply hK; clear hK K
      exact ⟨N - (j + 1), [.bool (flS (cL (meets l) i) ((meets l) i) (j + 1)), .int .i64 (j + 1 : Nat)], by omega, by simp, j + 1, rfl, by omega, rfl, hE2.trans hE3, ho3⟩
    · have e : N = j := by omega
      subst e
      rw [fl_lst]
      refine L_reg [1, 5, 6, 52] (fun K hK => ?_)
      simp
      apply hK; clear hK K
      have hnx := range_next N (meets l) i
      cases hl : lst N (meets l) i with
      | true =>
        obtain ⟨v', H3, happ, ho3, hE3⟩ := ownF_append (P := Try.prog) (m := 1) (x := .int .i64 i) (hE1.trans hE2) el22 el22 ho2 rfl (by have := filter_len (N := i) (lst N (meets l)); simp [il_len]; omega)
        refine L_true (by simp) ?_
        refine L_reg [1, 5, 6] (fun K hK => ?_)
        simp [happ]
        apply hK; clear hK K
        refine L_reg [1, 5, 6] (fun K hK => ?_)
        simp [wrap_i64 (a := (i : Int) + 1) (by omega)]
        apply hK; clear hK K
        refine ⟨N - (i + 1), [v', .int .i64 (i + 1 : Nat)], by omega, by simp, i + 1, v', rfl, by omega, rfl, hE3, ?_⟩
        rw [hnx, hl, if_pos rfl, nats_snoc]
        exact ho3
      | false =>
        refine L_false (by simp) ?_
        refine L_reg [1, 5, 6] (fun K hK => ?_)
        simp [wrap_i64 (a := (i : Int) + 1) (by omega)]
        apply hK; clear hK K
        refine ⟨N - (i + 1), [v, .int .i64 (i + 1 : Nat)], by omega, by simp, i + 1, v, rfl, by omega, rfl, hE1.trans hE2, ?_⟩
        rw [hnx, hl, if_neg (by simp), List.append_nil]
        exact ho2
  · have e : N = i := by omega
    subst e
    refine L_reg [2, 3] (fun K hK => ?_)
    simp
    apply hK; clear hK K
    rw [hN] at h
    exact L_ret ⟨.inr rfl, _, rfl, h v _ (ho.mono hE.1) (hE.trans hE1)⟩
theorem barredR_ac {n : Nat} {l : List Nat} (hr : OkR n l) (s : AV) (H : AH) (hs : Ls H s (il l)) (Q : AV → AH → Prop) (h : ∀ v H', OwnF H.length H' v ((il (mostS (2 ^ n) (within l))).map (.int .i64)) → Ext H H' → Q v H') : AC Try.prog 73 [cA n s] H Q := by
  have hc := ok_chk hr
  have hlen : (il l).length ≤ 1000000 := by rw [il_len]; have := hr.len; omega
  have h64 := pw64 hr.n6
  have hp := pw n
  refine L_body 49 Try.func73 rfl rfl ?_
  have hk := ls_known hs
  refine L_reg [1] (fun K hK => ?_)
  simp [cA, AV.isU, acells]
  apply hK; clear hK K
  have h1 : (H ++ [AObj.row [.int .i64 n, s] 0 0 false])[H.length]? = some (.row [.int .i64 n, s] 0 0 false) := by simp
  have hE : Ext H (H ++ [AObj.row [.int .i64 n, s] 0 0 false]) := .push _ _
  generalize H ++ [AObj.row [.int .i64 n, s] 0 0 false] = HB at h1 hE ⊢
  have hp1 := (List.getElem?_eq_some_iff.1 h1).1
  have c0 := ld_c0 h1
  have c1 := ld_c1 h1 hk
  have a2 := ldn_c h1 hk
  have hsB := hs.ext hE
  have hshl : ∀ tt ll, binV Try.prog .shl tt ll (.int .i64 1) (.int .i64 (n : Int)) = some (.int .i64 ((2 ^ n : Nat) : Int)) := fun _ _ => n_shl n hr.n6
  refine L_reg [1, 3] (fun K hK => ?_)
  simp
  apply hK; clear hK K
  refine L_reg [1, 3, 4] (fun K hK => ?_)
  simp
  apply hK; clear hK K
  obtain ⟨N, hN⟩ : ∃ N, 2 ^ n = N := ⟨_, rfl⟩
  rw [hN] at hshl hp h64
  refine L_block (L_loopV [3, 4] (fun q vs H' => ∃ (i : Nat) (v : AV), q = N - i ∧ i ≤ N ∧ vs = [v, .int .i64 i] ∧ Ext HB H' ∧ OwnF HB.length H' v ((il ((List.range i).filter (mst N (within l)))).map (.int .i64))) _ [nilS, .int .i64 (0 : Nat)] rfl ⟨0, _, rfl, by omega, rfl, .refl _, OwnF.nil _ _⟩ ?_)
  clear c0 c1 a2
  rintro q _ H1 ⟨i, v, rfl, hi, rfl, hE1, ho⟩
  have h1' : H1[H.length]? = some (.row [.int .i64 n, s] 0 0 false) := by rw [hE1.2 _ hp1]; exact h1
  have c0 := ld_c0 h1'
  have a2 := ldn_c h1' hk
  have hs1 := hsB.ext hE1
  refine L_reg [1, 3, 4, 11] (fun K hK => ?_)
  simp [c0, hshl]
  apply hK; clear hK K
  refine L_dec (i < N) (by simp) (fun hlt => ?_) (fun hge => L_exit ?_)
  · refine L_block ?_
    refine L_reg [1, 3, 4, 5] (fun K hK => ?_)
    simp [okFn_low, a2]
    refine mayR_q hr i (by omega) s _ hs1 _ ?_
    simp
    apply hK; clear hK K
    refine L_reg [1, 3, 4, 5, 6] (fun K hK => ?_)
    simp
    apply hK; clear hK K
    refine L_block (L_loopV [5, 6] (fun q vs H' => ∃ j : Nat, q = N - j ∧ j ≤ N ∧ vs = [.bool (flS (cM (within l) i) (!(within l) i) j), .int .i64 j] ∧ Ext H1 H' ∧ OwnF HB.length H' v ((il ((List.range i).filter (mst N (within l)))).map (.int .i64))) _ [.bool (!(within l) i), .int .i64 (0 : Nat)] rfl ⟨0, rfl, by omega, by rw [flS_zero], .refl _, ho⟩ ?_)
    clear c0 a2
    rintro q _ H2 ⟨j, rfl, hj, rfl, hE2, ho2⟩
    have h1' : H2[H.length]? = some (.row [.int .i64 n, s] 0 0 false) := by rw [hE2.2 _ (List.getElem?_eq_some_iff.1 h1').1]; exact h1'
    have c0 := ld_c0 h1'
    have a2 := ldn_c h1' hk
    have hs2 := hs1.ext hE2
    refine L_reg [1, 3, 4, 5, 6, 22] (fun K hK => ?_)
    simp [c0, hshl]
    apply hK; clear hK K
    refine L_dec (j < N) (by simp) (fun hjl => ?_) (fun hjg => L_exit ?_)
    · refine L_block ?_
      have hstep := flS_step (cM (within l) i) (!(within l) i) j
      have hj64 : j < 64 := by omega
      have hi64 : i < 64 := by omega
      refine L_reg [1, 3, 4, 5, 6] (fun K hK => ?_)
      suffices hk : ∀ H3, Ext H2 H3 → OwnF HB.length H3 v ((il ((List.range i).filter (mst N (within l)))).map (.int .i64)) → K [(1, .ptr H.length 0 0), (3, v), (4, .int .i64 i), (5, .bool (flS (cM (within l) i) (!(within l) i) (j + 1))), (6, .int .i64 j)] H3 by
        rw [hstep] at hk
        generalize flS (cM (within l) i) (!(within l) i) j = bb at hk ⊢
        cases bb with
        | false =>
          simp [pickV]
          simpa using hk H2 (.refl _) ho2
        | true =>
          by_cases hji : j = i
          · have e1 : cM (within l) i j = false := by simp [cM, hji]
            rw [e1] at hk
            have e2 : ((j : Int) != (i : Int)) = false := by simp; omega
            simp [e2, pickV]
            simpa using hk H2 (.refl _) ho2
          · have e2 : ((j : Int) != (i : Int)) = true := by simp; omega
            have e3 : cM (within l) i j = (sub i j && !(within l) j) := by unfold cM; rw [beq_false_of_ne hji]; rfl
            rw [e3] at hk
            simp [e2, okFn_low]
            refine lies_q i j hi64 hj64 _ _ ?_
            cases hsb : sub i j with
            | false =>
              rw [hsb] at hk
              simp [pickV]
              simpa using hk H2 (.refl _) ho2
            | true =>
              rw [hsb] at hk
              simp [pickV, okFn_low, a2]
              refine mayR_q hr j hj64 s _ hs2 _ ?_
              simp [pickV]
              simpa using hk H2 (.refl _) ho2
      intro H3 hE3 ho3
      apply hK; clear hK K
      refine L_reg [1, 3, 4, 5, 6] (fun K hK => ?_)
      simp [wrap_i64 (a := (j : Int) + 1) (by omega)]
      apply hK; clear hK K
      exact ⟨N - (j + 1), [.bool (flS (cM (within l) i) (!(within l) i) (j + 1)), .int .i64 (j + 1 : Nat)], by omega, by simp, j + 1, rfl, by omega, rfl, hE2.trans hE3, ho3⟩
    · have e : N = j := by omega
      subst e
      rw [fl_mst]
      refine L_reg [1, 3, 4, 43] (fun K hK => ?_)
      simp
      apply hK; clear hK K
      have hnx := mst_next N (within l) i
      cases hl : mst N (within l) i with
      | true =>
        obtain ⟨v', H3, happ, ho3, hE3⟩ := ownF_append (P := Try.prog) (m := 1) (x := .int .i64 i) (hE1.trans hE2) el22 el22 ho2 rfl (by have := filter_len (N := i) (mst N (within l)); simp [il_len]; omega)
        refine L_true (by simp) ?_
        refine L_reg [1, 3, 4] (fun K hK => ?_)
        simp [happ]
        apply hK; clear hK K
        refine L_reg [1, 3, 4] (fun K hK => ?_)
        simp [wrap_i64 (a := (i : Int) + 1) (by omega)]
        apply hK; clear hK K
        refine ⟨N - (i + 1), [v', .int .i64 (i + 1 : Nat)], by omega, by simp, i + 1, v', rfl, by omega, rfl, hE3, ?_⟩
        rw [hnx, hl, if_pos rfl, nats_snoc]
        exact ho3
      | false =>
        refine L_false (by simp) ?_
        refine L_reg [1, 3, 4] (fun K hK => ?_)
        simp [wrap_i64 (a := (i : Int) + 1) (by omega)]
        apply hK; clear hK K
        refine ⟨N - (i + 1), [v, .int .i64 (i + 1 : Nat)], by omega, by simp, i + 1, v, rfl, by omega, rfl, hE1.trans hE2, ?_⟩
        rw [hnx, hl, if_neg (by simp), List.append_nil]
        exact ho2
  · have e : N = i := by omega
    subst e
    refine L_reg [2] (fun K hK => ?_)
    simp
    apply hK; clear hK K
    rw [hN] at h
    exact L_ret ⟨.inr rfl, _, rfl, h v _ (ho.mono hE.1) (hE.trans hE1)⟩
theorem BarredR_bad (n : Int) (l : List Int) (s : AV) (hlen : l.length ≤ 1000000) (hc : chk n l ≠ 0) (H : AH) (hs : Ls H s l) (Q : AV → AH → Prop) (h : Q (.tuple [nilS, .int .i64 (chk n l)]) H) : AC Try.prog 21 [cA n s] H Q := by
  refine AC.quiet (belB_ne _ _ _) (fun Q h => ?_) Q h
  refine L_body 12 Try.func21 rfl rfl ?_
  have hk := ls_known hs
  refine L_reg [1] (fun K hK => ?_)
  simp [cA, AV.isU, acells]
  apply hK; clear hK K
  have h1 : (H ++ [AObj.row [.int .i64 n, s] 0 0 false])[H.length]? = some (.row [.int .i64 n, s] 0 0 false) := by simp
  have hE : Ext H (H ++ [AObj.row [.int .i64 n, s] 0 0 false]) := .push _ _
  generalize H ++ [AObj.row [.int .i64 n, s] 0 0 false] = HB at h1 hE ⊢
  have hp1 := (List.getElem?_eq_some_iff.1 h1).1
  have c0 := ld_c0 h1
  have c1 := ld_c1 h1 hk
  have a2 := ldn_c h1 hk
  have hsB := hs.ext hE
  refine L_reg [1, 4] (fun K hK => ?_)
  simp [okFn_low, a2]
  refine CheckR_q n l s hlen _ hsB _ ?_
  simp
  apply hK; clear hK K
  refine L_reg [1, 4, 8] (fun K hK => ?_)
  simp
  apply hK; clear hK K
  refine L_true (by simp [hc]) ?_
  refine L_reg [2, 3] (fun K hK => ?_)
  simp
  apply hK; clear hK K
  exact L_ret ⟨.inr rfl, _, rfl, h _ hE⟩
theorem BarredR_ok {n : Nat} {l : List Nat} (hr : OkR n l) (s : AV) (H : AH) (hs : Ls H s (il l)) (Q : AV → AH → Prop) (h : ∀ v H', OwnF H.length H' v ((il (mostS (2 ^ n) (within l))).map (.int .i64)) → Ext H H' → Q (.tuple [v, .int .i64 0]) H') : AC Try.prog 21 [cA n s] H Q := by
  have hc := ok_chk hr
  have hlen : (il l).length ≤ 1000000 := by rw [il_len]; have := hr.len; omega
  have h64 := pw64 hr.n6
  have hp := pw n
  refine L_body 12 Try.func21 rfl rfl ?_
  have hk := ls_known hs
  refine L_reg [1] (fun K hK => ?_)
  simp [cA, AV.isU, acells]
  apply hK; clear hK K
  have h1 : (H ++ [AObj.row [.int .i64 n, s] 0 0 false])[H.length]? = some (.row [.int .i64 n, s] 0 0 false) := by simp
  have hE : Ext H (H ++ [AObj.row [.int .i64 n, s] 0 0 false]) := .push _ _
  generalize H ++ [AObj.row [.int .i64 n, s] 0 0 false] = HB at h1 hE ⊢
  have hp1 := (List.getElem?_eq_some_iff.1 h1).1
  have c0 := ld_c0 h1
  have c1 := ld_c1 h1 hk
  have a2 := ldn_c h1 hk
  have hsB := hs.ext hE
  refine L_reg [1, 4] (fun K hK => ?_)
  simp [okFn_low, a2]
  refine CheckR_q n (il l) s hlen _ hsB _ ?_
  simp [hc]
  apply hK; clear hK K
  refine L_reg [1, 4, 8] (fun K hK => ?_)
  simp
  apply hK; clear hK K
  refine L_false rfl ?_
  refine L_reg [2, 3] (fun K hK => ?_)
  simp [okFn_low, a2]
  refine barredR_ac hr s _ hsB _ fun v H4 ho hE4 => ?_
  simp
  apply hK; clear hK K
  exact L_ret ⟨.inr rfl, _, rfl, h v H4 (ho.mono hE.1) (hE.trans hE4)⟩
end Go.Proofs.Ytcidcihpkdoejaa.Bo
