/- Bales that are lost, kept, idle, and safe. -/
import Derived.Test.YtfbpgnjeafadmaaCho
namespace Go.Proofs.Ytfbpgnjeafadmaa.Fl
open Go Go.Proofs.Ytfbpgnjeafadmaa Go.Proofs.Ytfbpgnjeafadmaa.AX
set_option maxRecDepth 100000

theorem store_aggP {P : Program} {t : TypeId} {n : Nat} (h : aggSz P t = some n) {H : AH} {r ver s p : Nat} {a c d vs : List AV} (hr : H[r]? = some (.row (a ++ c ++ d) ver s false)) (hn : n ≠ 0) (hp : a.length = p) (hc : c.length = n) (hk : ∀ v ∈ c, v ≠ .undef) (hl : vs.length = n) (ho : ∀ v ∈ vs, v.one = true) :
    storeV P t H (.ptr r p ver) (.agg vs) = some (none, H.set r (.row (a ++ vs ++ d) ver (min s p) false)) := by
  unfold aggSz at h
  split at h
  case h_2 => cases h
  rename_i e i hd hi
  split at h
  case isFalse => cases h
  cases h
  cases vs with
  | nil => simp at hl; omega
  | cons v vs =>
    have hdr : (a ++ c ++ d).drop p = c ++ d := by rw [List.append_assoc, ← hp, List.drop_left]
    have ht : (takeKnown (v :: vs).length ((a ++ c ++ d).drop p)).isSome = true := by
      rw [hdr, hl, ← hc, take_pre hk]; rfl
    have hall : (v :: vs).all AV.one = true := by simpa using ho
    have e1 : (a ++ c ++ d).take p = a := by rw [List.append_assoc, ← hp, List.take_left]
    have e2 : (a ++ c ++ d).drop (p + (v :: vs).length) = d := by
      rw [hl, ← hc, ← hp, ← List.length_append, List.drop_left]
    have hst : stn H r ver (v :: vs) p = some (H.set r (.row (a ++ (v :: vs) ++ d) ver (min s p) false)) := by
      simp only [stn, hr, ht, hall, and_self, if_true, e1, e2]
    have hlen : ((v :: vs).length != i.size) = false := by rw [hl]; simp
    simp only [storeV, hi, acells, AV.isU, Bool.false_or, hlen, Bool.false_eq_true, if_false, hst, Option.map_some]
section
variable {H : AH} {p s r c b : Nat} {S Z T : Nat → Bool} {ro : Bool}
theorem fl_get1 (hb : b < 25) : (fl r c S Z)[2 + b]? = some (.bool (S b)) := by
  rw [fl, show 2 + b = b + 1 + 1 by omega, List.getElem?_cons_succ, List.getElem?_cons_succ, List.getElem?_append_left (by rw [bA_len]; exact hb), bA_get S hb]
theorem fl_get2 (hb : b < 25) : (fl r c S Z)[27 + b]? = some (.bool (Z b)) := by
  rw [fl, show 27 + b = (25 + b) + 1 + 1 by omega, List.getElem?_cons_succ, List.getElem?_cons_succ, List.getElem?_append_right (by rw [bA_len]; omega), bA_len, show 25 + b - 25 = b by omega, bA_get Z hb]
theorem ld_F1 (hr : H[p]? = some (.row (fl r c S Z) 0 s ro)) (hb : b < 25) : ld H p (2 + b) 0 = some (.bool (S b)) := by
  rw [ld_row hr, fl_get1 hb]; rfl
theorem ld_F2 (hr : H[p]? = some (.row (fl r c S Z) 0 s ro)) (hb : b < 25) : ld H p (27 + b) 0 = some (.bool (Z b)) := by
  rw [ld_row hr, fl_get2 hb]; rfl
theorem st_F1 {v : Bool} (hr : H[p]? = some (.row (fl r c S Z) 0 s false)) (hb : b < 25) : storeV Try.prog 4 H (.ptr p (2 + b) 0) (.bool v) = some (none, H.set p (.row (fl r c (upd S b v) Z) 0 (min s (2 + b)) false)) := by
  rw [store_row (P := Try.prog) (u := 4) (p := 2 + b) sc4 (x := .bool v) (y := .bool (S b)) rfl hr (by rw [fl_get1 hb]; rfl)]
  have : (fl r c S Z).set (2 + b) (.bool v) = fl r c (upd S b v) Z := by
    rw [fl, show 2 + b = b + 1 + 1 by omega, List.set_cons_succ, List.set_cons_succ, List.set_append_left _ _ (by rw [bA_len]; exact hb), bA_set]
    rfl
  rw [this]
theorem st_F2 (hr : H[p]? = some (.row (fl r c S Z) 0 s false)) : storeV Try.prog 79 H (.ptr p 27 0) (.agg (bA T)) = some (none, H.set p (.row (fl r c S T) 0 (min s 27) false)) := by
  have e : ∀ Z, fl r c S Z = (.int .i64 r :: .int .i64 c :: bA S) ++ bA Z ++ [] := fun Z => by simp [fl]
  rw [e Z] at hr
  rw [store_aggP ag79 hr (by decide) (by simp [bA_len]) (bA_len Z) (bA_known Z) (bA_len T) (bA_one T), ← e T]
end
theorem lost_q {r c n : Nat} (hs : Sd r c) (hn : r * c = n) (S Z : Nat → Bool) (b : Nat) (hb : b < n) (H : AH) (Q : AV → AH → Prop) (h : Q (.bool (S b || (!Z b && decide (2 ≤ bes r c S b)))) H) : AC Try.prog 78 [.agg (fl r c S Z), .int .i64 b] H Q := by
  refine AC.quiet (belB_bool _ _ _) (fun Q h => ?_) Q h
  have h25 := hs.le
  have hb25 : b < 25 := by omega
  have hbi : (b : Int) < 25 := by omega
  refine L_body 25 Try.func78 rfl rfl ?_
  refine L_reg [1, 2] (fun K hK => ?_)
  simp [AV.isU, acells]
  apply hK; clear hK K
  have h1 : (H ++ [AObj.row (fl r c S Z) 0 0 false])[H.length]? = some (.row (fl r c S Z) 0 0 false) := by simp
  have hE : Ext H (H ++ [AObj.row (fl r c S Z) 0 0 false]) := .push _ _
  generalize H ++ [AObj.row (fl r c S Z) 0 0 false] = H1 at h1 hE ⊢
  have a1 := ld_F1 h1 hb25
  have a2 := ld_F2 h1 hb25
  have a3 := ldn_F0 h1
  have a4 := ldn_F1 h1
  cases hSb : S b with
  | true =>
    rw [hSb] at a1 h
    refine L_reg [4] (fun K hK => ?_)
    simp [hbi, a1, pickV]
    apply hK; clear hK K
    exact L_ret ⟨.inr rfl, _, rfl, h _ hE⟩
  | false =>
    rw [hSb, Bool.false_or] at h
    rw [hSb] at a1
    cases hZb : Z b with
    | true =>
      rw [hZb] at a2 h
      refine L_reg [4] (fun K hK => ?_)
      simp [hbi, a1, a2, pickV]
      apply hK; clear hK K
      exact L_ret ⟨.inr rfl, _, rfl, h _ hE⟩
    | false =>
      rw [hZb] at a2 h
      refine L_reg [4] (fun K hK => ?_)
      simp [okFn_low, hbi, a1, a2, a3, a4]
      refine beside_q hs b (by omega) S _ _ ?_
      simp [pickV]
      apply hK; clear hK K
      refine L_ret ⟨.inr rfl, _, rfl, ?_⟩
      have e : decide ((2 : Int) ≤ (bes r c S b : Nat)) = decide (2 ≤ bes r c S b) := decide_eq_decide.2 (by omega)
      rw [e]
      simpa using h _ hE
theorem keeps_q {r c n : Nat} (hs : Sd r c) (hn : r * c = n) (S Z T : Nat → Bool) (hS : ∀ b, S b = true → b < n) (b : Nat) (hb : b < n) (H : AH) (Q : AV → AH → Prop) (h : Q (.bool (!sp r c 2 (opn n (or' Z T)) S b)) H) : AC Try.prog 82 [.agg (fl r c S Z), .int .i64 b, .agg (bA T)] H Q := by
  refine AC.quiet (belB_bool _ _ _) (fun Q h => ?_) Q h
  have h25 := hs.le
  have hb25 : b < 25 := by omega
  refine L_body 19 Try.func82 rfl rfl ?_
  obtain ⟨I, hI, hz⟩ := zeroT_some zt81'
  refine L_reg [1, 3, 5] (fun K hK => ?_)
  simp [AV.isU, acells]
  apply hK; clear hK K
  have h3 : (H ++ [AObj.row (fl r c S Z) 0 0 false, AObj.row (bA T) 0 0 false])[H.length]? = some (.row (fl r c S Z) 0 0 false) := by simp
  have h5 : (H ++ [AObj.row (fl r c S Z) 0 0 false, AObj.row (bA T) 0 0 false])[H.length + 1]? = some (.row (bA T) 0 0 false) := by simp
  have hl : (H ++ [AObj.row (fl r c S Z) 0 0 false, AObj.row (bA T) 0 0 false]).length = H.length + 2 := by simp
  have hE : Ext H (H ++ [AObj.row (fl r c S Z) 0 0 false, AObj.row (bA T) 0 0 false]) := .push _ _
  generalize H ++ [AObj.row (fl r c S Z) 0 0 false, AObj.row (bA T) 0 0 false] = H1 at h3 h5 hl hE ⊢
  have a3 := ldn_F h3
  have hst1 : storeV Try.prog 81 (H1 ++ [AObj.row (fl 0 0 none' none') 0 0 false]) (.ptr H1.length 0 0) (.agg (fl r c S Z)) = some (none, H1 ++ [AObj.row (fl r c S Z) 0 0 false]) := by
    rw [st_F (r := 0) (c := 0) (S := none') (Z := none') (s := 0) (by simp)]
    simp
  refine L_reg [1, 3, 5, 7] (fun K hK => ?_)
  simp [a3, hI, hz, hst1]
  apply hK; clear hK K
  have h7 : (H1 ++ [AObj.row (fl r c S Z) 0 0 false])[H.length + 2]? = some (.row (fl r c S Z) 0 0 false) := by rw [← hl]; simp
  have hE2 : Ext H1 (H1 ++ [AObj.row (fl r c S Z) 0 0 false]) := .push _ _
  rw [hl]
  replace h3 := hE2.row h3
  replace h5 := hE2.row h5
  replace hE := hE.trans hE2
  clear a3 hst1 hE2
  generalize H1 ++ [AObj.row (fl r c S Z) 0 0 false] = H2 at h3 h5 h7 hE ⊢
  have a3 := ldn_F2 h3
  have a5 := ldn_b h5
  have hst := st_F2 (T := or' Z T) h7
  refine L_reg [1, 7] (fun K hK => ?_)
  simp [okFn_low, a3, a5]
  refine and_q Z T _ _ ?_
  simp [hst]
  apply hK; clear hK K
  have g7 := get_set (o' := .row (fl r c S (or' Z T)) 0 (min 0 27) false) h7
  have gE : Ext H (H2.set (H.length + 2) (.row (fl r c S (or' Z T)) 0 (min 0 27) false)) := hE.set _ (by omega)
  rw [Nat.zero_min] at g7 gE
  generalize H2.set (H.length + 2) (.row (fl r c S (or' Z T)) 0 0 false) = H3 at g7 gE ⊢
  have a7 := ldn_F g7
  have a9 := ix79 (S := sp r c 2 (opn n (or' Z T)) S) hb25
  refine L_reg [6] (fun K hK => ?_)
  simp [okFn_low, a7]
  refine spread_q hs hn S (or' Z T) hS _ _ ?_
  simp [a9]
  apply hK; clear hK K
  exact L_ret ⟨.inr rfl, _, rfl, h _ gE⟩
theorem idle_q {r c n : Nat} (hs : Sd r c) (hn : r * c = n) (S Z : Nat → Bool) (hS : ∀ b, S b = true → b < n) (b : Nat) (hb : b < n) (H : AH) (Q : AV → AH → Prop) (h : Q (.bool ((List.range 25).all fun i => sp r c 2 (opn n Z) (upd S b false) i == sp r c 2 (opn n Z) S i)) H) : AC Try.prog 67 [.agg (fl r c S Z), .int .i64 b] H Q := by
  refine AC.quiet (belB_bool _ _ _) (fun Q h => ?_) Q h
  have h25 := hs.le
  have hb25 : b < 25 := by omega
  have hbi : (b : Int) < 25 := by omega
  refine L_body 15 Try.func67 rfl rfl ?_
  obtain ⟨I, hI, hz⟩ := zeroT_some zt81'
  refine L_reg [1, 2] (fun K hK => ?_)
  simp [AV.isU, acells]
  apply hK; clear hK K
  have h2 : (H ++ [AObj.row (fl r c S Z) 0 0 false])[H.length]? = some (.row (fl r c S Z) 0 0 false) := by simp
  have hl : (H ++ [AObj.row (fl r c S Z) 0 0 false]).length = H.length + 1 := by simp
  have hE : Ext H (H ++ [AObj.row (fl r c S Z) 0 0 false]) := .push _ _
  generalize H ++ [AObj.row (fl r c S Z) 0 0 false] = H1 at h2 hl hE ⊢
  have a2 := ldn_F h2
  have hst1 : storeV Try.prog 81 (H1 ++ [AObj.row (fl 0 0 none' none') 0 0 false]) (.ptr H1.length 0 0) (.agg (fl r c S Z)) = some (none, H1 ++ [AObj.row (fl r c S Z) 0 0 false]) := by
    rw [st_F (r := 0) (c := 0) (S := none') (Z := none') (s := 0) (by simp)]
    simp
  refine L_reg [1, 2, 5] (fun K hK => ?_)
  simp [a2, hI, hz, hst1]
  apply hK; clear hK K
  have h5 : (H1 ++ [AObj.row (fl r c S Z) 0 0 false])[H.length + 1]? = some (.row (fl r c S Z) 0 0 false) := by rw [← hl]; simp
  have hE2 : Ext H1 (H1 ++ [AObj.row (fl r c S Z) 0 0 false]) := .push _ _
  rw [hl]
  replace h2 := hE2.row h2
  replace hE := hE.trans hE2
  clear a2 hst1 hE2
  generalize H1 ++ [AObj.row (fl r c S Z) 0 0 false] = H2 at h2 h5 hE ⊢
  have hst := st_F1 (v := false) h5 hb25
  refine L_reg [2, 5] (fun K hK => ?_)
  simp [hbi, hst]
  apply hK; clear hK K
  have g5 := get_set (o' := .row (fl r c (upd S b false) Z) 0 (min 0 (2 + b)) false) h5
  have g2 : (H2.set (H.length + 1) (.row (fl r c (upd S b false) Z) 0 (min 0 (2 + b)) false))[H.length]? = some (.row (fl r c S Z) 0 0 false) := by rw [List.getElem?_set_ne (by omega)]; exact h2
  have gE : Ext H (H2.set (H.length + 1) (.row (fl r c (upd S b false) Z) 0 (min 0 (2 + b)) false)) := hE.set _ (by omega)
  rw [Nat.zero_min] at g5 g2 gE
  generalize H2.set (H.length + 1) (.row (fl r c (upd S b false) Z) 0 0 false) = H3 at g5 g2 gE ⊢
  have a5 := ldn_F g5
  have a2 := ldn_F g2
  have hS2 : ∀ x, upd S b false x = true → x < n := by
    intro x hx
    unfold upd at hx
    split at hx
    · cases hx
    · exact hS x hx
  refine L_regZ mixed [] [0, 0, 1, 0] [] [4] (by kernel_rfl) (fun K hK => ?_)
  simp [okFn_low, a5]
  refine exX_mk (fun Q hQ => spread_q hs hn _ Z hS2 _ Q hQ) (.refl _) ?_
  simp [okFn_low, a2]
  refine exX_mk (fun Q hQ => spread_q hs hn _ Z hS _ Q hQ) (.refl _) ?_
  simp [b_eqB]
  apply hK; clear hK K
  refine L_ret ⟨.inr rfl, _, rfl, ?_⟩
  simpa using h _ gE
end Go.Proofs.Ytfbpgnjeafadmaa.Fl
