/- The closure of the law of all lists. -/
import Derived.Test.YtojblooaiojmcaaMath4
import Derived.Test.YtojblooaiojmcaaWay
namespace Go.Proofs.Ytojblooaiojmcaa
open Go Go.Proofs.Ytojblooaiojmcaa.AX

theorem okBays_nat {n : Nat} (h1 : 1 ≤ n) (h8 : n ≤ 8) : okBays (n : Int) = 0 := by
  rcases okBays_cases (n : Int) with ⟨ho, -⟩ | ⟨-, h⟩
  · exact ho
  · omega
theorem checkS_of {n : Nat} {l : List Nat} (h1 : 1 ≤ n) (h8 : n ≤ 8) (hl : l.length ≤ n) (hw : ∀ w ∈ l, w < n) : checkS n (l.map Int.ofNat) = 0 := by
  unfold checkS
  rw [okBays_nat h1 h8, if_neg (by simp), if_neg (by simp; omega), if_pos]
  unfold okL
  rw [List.all_eq_true]
  intro x hx
  obtain ⟨w, hm, rfl⟩ := List.mem_map.1 hx
  have := hw w hm
  simp; omega
theorem cartsE_of {n m : Nat} (h1 : 1 ≤ n) (h8 : n ≤ 8) (hm : m ≤ n) : cartsE n m = 0 := by
  unfold cartsE
  rw [okBays_nat h1 h8, if_neg (by simp), if_neg (by omega)]

/-- All rows stay but two. -/
def Keep2 (a b : Nat) (H H' : AH) : Prop := H.length ≤ H'.length ∧ ∀ j, j < H.length → j ≠ a → j ≠ b → H'[j]? = H[j]?
theorem Keep2.of_ext {a b : Nat} {H H' : AH} (h : Ext H H') : Keep2 a b H H' := ⟨h.1, fun j hj _ _ => h.2 j hj⟩
theorem Keep2.trans {a b : Nat} {A B C : AH} (h : Keep2 a b A B) (k : Keep2 a b B C) : Keep2 a b A C :=
  ⟨Nat.le_trans h.1 k.1, fun j hj h1 h2 => by rw [k.2 j (by have := h.1; omega) h1 h2, h.2 j hj h1 h2]⟩
theorem Keep2.set_l {a b : Nat} {H : AH} {o : AObj} : Keep2 a b H (H.set a o) :=
  ⟨by simp, fun j _ h1 _ => by rw [List.getElem?_set_ne (by omega)]⟩
theorem Keep2.set_r {a b : Nat} {H : AH} {o : AObj} : Keep2 a b H (H.set b o) :=
  ⟨by simp, fun j _ _ h2 => by rw [List.getElem?_set_ne (by omega)]⟩
theorem Keep2.row {a b j : Nat} {H H' : AH} {o : AObj} (h : Keep2 a b H H') (hr : H[j]? = some o) (h1 : j ≠ a) (h2 : j ≠ b) : H'[j]? = some o := by
  rw [h.2 j (List.getElem?_eq_some_iff.1 hr).1 h1 h2]; exact hr

set_option maxRecDepth 100000 in
theorem weiss1_ac (a c rn rm w n m : Nat) (l : List Nat) (H : AH) (Q : AV → AH → Prop) (hn1 : 1 ≤ n) (hn : n ≤ 5) (hm : m ≤ n) (hl : l.length = m) (hw : ∀ x ∈ l, x < n)
    (ha : H[a]? = some (.row [.bool true] 0 0 false)) (hc : H[c]? = some (.row [.int .i64 (rk n 0 l : Nat)] 0 0 false)) (hrn : H[rn]? = some (.row [.int .i64 n] 0 0 false)) (hrm : H[rm]? = some (.row [.int .i64 m] 0 0 false))
    (hrow : H[w]? = some (.row ((l.map Int.ofNat).map (.int .i64)) 0 0 false)) (hac : a ≠ c) (hna : rn ≠ a) (hnc : rn ≠ c) (hma : rm ≠ a) (hmc : rm ≠ c) (hwa : w ≠ a) (hwc : w ≠ c)
    (h : ∀ H', Keep2 a c H H' → H'[a]? = some (.row [.bool true] 0 0 false) → H'[c]? = some (.row [.int .i64 (rk n 0 l + sv n 0 l : Nat)] 0 0 false) → Q (.tuple []) H') :
    AC Try.prog 44 [.slice (some w) 0 l.length 0 1 false, .ptr a 0 0, .ptr rn 0 0, .ptr c 0 0, .ptr rm 0 0] H Q := by
  have hck := checkS_of hn1 (by omega) (by omega) hw
  have hce := cartsE_of hn1 (show n ≤ 8 by omega) hm
  have hls : ∀ {H' : AH}, H'[w]? = some (.row ((l.map Int.ofNat).map (.int .i64)) 0 0 false) → Ls H' (.slice (some w) 0 l.length 0 1 false) (l.map Int.ofNat) := fun hr => by
    have := Ls.row (l := l.map Int.ofNat) (f := false) hr
    simpa using this
  refine L_body 82 Try.func44 rfl rfl ?_
  have l1 : ld H a 0 0 = some (.bool true) := by rw [ld_row ha]; rfl
  refine L_reg [0, 1, 2, 3, 4, 14] (fun K hK => ?_)
  simp [l1]
  apply hK; clear hK K
  refine L_false (by simp) ?_
  have l2 : ld H rn 0 0 = some (.int .i64 n) := by rw [ld_row hrn]; rfl
  refine L_reg [0, 1, 2, 3, 4, 6] (fun K hK => ?_)
  simp [okFn_low, l2]
  refine come_ac n _ l _ _ (by omega) (by omega) hw (hls hrow) (fun v1 H1 hv1 hE1 => ?_)
  simp [okFn_low]
  refine Contains_ac v1 (parkS n 0 l) (-1) _ _ (by rw [parkS_length]; omega) hv1 ?_
  simp
  apply hK; clear hK K
  have l3 : ld H1 rn 0 0 = some (.int .i64 n) := by rw [ld_row (hE1.row hrn)]; rfl
  refine L_reg [0, 1, 2, 3, 4, 6, 7, 8] (fun K hK => ?_)
  simp [okFn_low, l3]
  refine Serves_ac n _ _ _ _ (by simp; omega) (hls (hE1.row hrow)) (fun H2 hE2 => ?_)
  rw [servesS_ok hck, hck]
  simp
  apply hK; clear hK K
  have hE2' := hE1.trans hE2
  have l4 : ld H2 rn 0 0 = some (.int .i64 n) := by rw [ld_row (hE2'.row hrn)]; rfl
  refine L_reg [0, 1, 2, 3, 4, 6, 7, 8, 9, 10] (fun K hK => ?_)
  simp [okFn_low, l4]
  refine Number_ac n _ (l.map Int.ofNat) _ _ (by simp; omega) (hls (hE2'.row hrow)) (fun H3 hE3 => ?_)
  simp
  apply hK; clear hK K
  have hE3' := hE2'.trans hE3
  have hst := store_row (P := Try.prog) (u := 4) (p := 0) sc4 (x := .bool true) (y := .bool true) rfl (hE3'.row ha) rfl
  simp at hst
  have k4 : Keep2 a c H (H3.set a (.row [.bool true] 0 0 false)) := (Keep2.of_ext hE3').trans .set_l
  have a4 := get_set (o' := AObj.row [.bool true] 0 0 false) (hE3'.row ha)
  have c4 : (H3.set a (AObj.row [.bool true] 0 0 false))[c]? = some (.row [.int .i64 (rk n 0 l : Nat)] 0 0 false) := by rw [List.getElem?_set_ne hac]; exact hE3'.row hc
  refine L_reg [0, 1, 2, 3, 4, 6, 9, 10] (fun K hK => ?_)
  simp [eqlB4, pickV, hst]
  apply hK; clear hK K
  generalize H3.set a (AObj.row [.bool true] 0 0 false) = H4 at *
  have l5 : ld H4 a 0 0 = some (.bool true) := by rw [ld_row a4]; rfl
  have hst4 := store_row (P := Try.prog) (u := 4) (p := 0) sc4 (x := .bool true) (y := .bool true) rfl a4 rfl
  simp at hst4
  have a5 := get_set (o' := AObj.row [.bool true] 0 0 false) a4
  have k5 : Keep2 a c H (H4.set a (.row [.bool true] 0 0 false)) := k4.trans .set_l
  have c5 : (H4.set a (AObj.row [.bool true] 0 0 false))[c]? = some (.row [.int .i64 (rk n 0 l : Nat)] 0 0 false) := by rw [List.getElem?_set_ne hac]; exact c4
  by_cases hs : -1 ∈ parkS n 0 l
  case pos =>
    have hsv : sv n 0 l = 0 := by rw [sv, if_pos hs]
    have hE : numE n (l.map Int.ofNat) = 14 := by rw [numE, if_neg (by omega), natL_of, Int.toNat_natCast, if_pos hs]
    have hV : numV n (l.map Int.ofNat) = 0 := by rw [numV, hE, if_pos (by decide)]
    rw [hE, hV]
    rw [hsv, Nat.add_zero] at h
    refine L_reg [0, 1, 2, 3, 4, 9, 10, 40] (fun K hK => ?_)
    simp [hs]
    apply hK; clear hK K
    refine L_true (by simp) ?_
    refine L_reg [] (fun K hK => ?_)
    simp [l5, pickV, hst4]
    apply hK; clear hK K
    exact L_ret ⟨.inr rfl, _, rfl, h _ k5 a5 c5⟩
  have hsv : sv n 0 l = 1 := by rw [sv, if_neg hs]
  have hE : numE n (l.map Int.ofNat) = 0 := by rw [numE, if_neg (by omega), natL_of, Int.toNat_natCast, if_neg hs]
  have hnr := numS_rk n l 0 hs
  have hV : numV n (l.map Int.ofNat) = (rk n 0 l : Nat) := by rw [numV, hE, if_neg (by decide), natL_of, Int.toNat_natCast, hnr]
  have hlt := numS_lt n l 0 hs hw
  have hat := atS_numS n l 0 hs hw
  have hbd := Nat.le_trans (tlF_le (show n ≤ 8 by omega) l.length 0) (pow8 (show l.length ≤ 8 by omega))
  rw [hnr] at hlt hat
  rw [hE, hV]
  rw [hsv] at h
  refine L_reg [0, 1, 2, 3, 4, 9, 10, 40] (fun K hK => ?_)
  simp [hs]
  apply hK; clear hK K
  refine L_false (by simp) ?_
  have l6 : ld H4 c 0 0 = some (.int .i64 (rk n 0 l : Nat)) := by rw [ld_row c4]; rfl
  refine L_reg [0, 1, 2, 3, 4, 9] (fun K hK => ?_)
  simp [l5, l6, pickV, hst4]
  apply hK; clear hK K
  generalize H4.set a (AObj.row [.bool true] 0 0 false) = H5 at *
  have l7 : ld H5 a 0 0 = some (.bool true) := by rw [ld_row a5]; rfl
  have l8 : ld H5 c 0 0 = some (.int .i64 (rk n 0 l : Nat)) := by rw [ld_row c5]; rfl
  refine L_reg [0, 1, 2, 3, 4, 9, 65] (fun K hK => ?_)
  simp [l7, l8, pickV]
  apply hK; clear hK K
  have last : ∀ H6, Keep2 a c H H6 → H6[a]? = some (.row [.bool true] 0 0 false) → H6[c]? = some (.row [.int .i64 (rk n 0 l : Nat)] 0 0 false) →
      storeV Try.prog 3 H6 (.ptr c 0 0) (.int .i64 ((rk n 0 l : Nat) + 1)) = some (none, H6.set c (.row [.int .i64 (rk n 0 l + 1 : Nat)] 0 0 false)) ∧ Q (.tuple []) (H6.set c (.row [.int .i64 (rk n 0 l + 1 : Nat)] 0 0 false)) := by
    intro H6 k6 a6 c6
    refine ⟨?_, h _ (k6.trans .set_r) (by rw [List.getElem?_set_ne (by omega)]; exact a6) (get_set c6)⟩
    have := store_row (P := Try.prog) (u := 3) (p := 0) sc3 (x := .int .i64 ((rk n 0 l : Nat) + 1)) (y := .int .i64 (rk n 0 l : Nat)) rfl c6 rfl
    simpa using this
  refine L_dec ((rk n 0 l : Int).tmod 3 = 0) (by simp; rfl) (fun h3 => ?_) (fun h3 => ?_)
  · have l9 : ld H5 rn 0 0 = some (.int .i64 n) := by rw [ld_row (k5.row hrn hna hnc)]; rfl
    have l10 : ld H5 rm 0 0 = some (.int .i64 m) := by rw [ld_row (k5.row hrm hma hmc)]; rfl
    have hae : atE n m (rk n 0 l : Nat) = 0 := by
      rw [atE, if_neg (by omega), if_neg]
      rw [Int.toNat_natCast, Int.toNat_natCast, ← hl]; omega
    have hal : atL n m (rk n 0 l : Nat) = l := by
      rw [atL, hae, if_neg (by decide), Int.toNat_natCast, Int.toNat_natCast, Int.toNat_natCast, ← hl]; exact hat
    refine L_reg [0, 1, 3, 11, 12] (fun K hK => ?_)
    simp [okFn_low, l9, l10]
    refine At_ac n m (rk n 0 l : Nat) _ _ (fun v6 H6 hv6 hE6 => ?_)
    rw [hae]
    rw [hal] at hv6
    simp
    apply hK; clear hK K
    have hr6 := hE6.row (k5.row hrow hwa hwc)
    have a6 := hE6.row a5
    have c6 := hE6.row c5
    have hst6 := store_row (P := Try.prog) (u := 4) (p := 0) sc4 (x := .bool true) (y := .bool true) rfl a6 rfl
    simp at hst6
    have c7 : (H6.set a (AObj.row [.bool true] 0 0 false))[c]? = some (.row [.int .i64 (rk n 0 l : Nat)] 0 0 false) := by rw [List.getElem?_set_ne hac]; exact c6
    have a7 := get_set (o' := AObj.row [.bool true] 0 0 false) a6
    have k7 : Keep2 a c H (H6.set a (.row [.bool true] 0 0 false)) := (k5.trans (.of_ext hE6)).trans .set_l
    refine L_reg [3] (fun K hK => ?_)
    simp [okFn_low, pickV]
    refine same_ac _ _ (l.map Int.ofNat) (l.map Int.ofNat) _ _ (by simp; omega) hv6 (hls hr6) ?_
    simp [pickV, hst6]
    apply hK; clear hK K
    generalize H6.set a (AObj.row [.bool true] 0 0 false) = H7 at *
    obtain ⟨s8, q8⟩ := last H7 k7 a7 c7
    have l11 : ld H7 c 0 0 = some (.int .i64 (rk n 0 l : Nat)) := by rw [ld_row c7]; rfl
    refine L_reg [] (fun K hK => ?_)
    simp [l11, wrap_i64 (a := (rk n 0 l : Int) + 1) (by omega), s8]
    apply hK; clear hK K
    exact ⟨.inl rfl, _, rfl, q8⟩
  · obtain ⟨s6, q6⟩ := last H5 k5 a5 c5
    refine L_reg [] (fun K hK => ?_)
    simp [l8, wrap_i64 (a := (rk n 0 l : Int) + 1) (by omega), s6]
    apply hK; clear hK K
    exact ⟨.inl rfl, _, rfl, q6⟩
end Go.Proofs.Ytojblooaiojmcaa
