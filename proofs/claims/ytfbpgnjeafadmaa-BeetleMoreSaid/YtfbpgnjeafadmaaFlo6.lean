/- A store is checked. -/
import Derived.Test.YtfbpgnjeafadmaaFlo5
namespace Go.Proofs.Ytfbpgnjeafadmaa.Fl
open Go Go.Proofs.Ytfbpgnjeafadmaa Go.Proofs.Ytfbpgnjeafadmaa.AX

theorem res_cell_tmp {P : Program} {fn : Func} {e : Env} {H : AH} {a b : Tmp} {t : TypeId} {v u : AV} (hr : fn.results = #[.cell a t, .tmp b]) (hv : loadV P t H (eget e a) = some v) (hb : eget e b = u) : aResults P fn e H = some (.tuple [v, u]) := by
  have h1 : aRes1 P e H (.cell a t) = some v := hv
  have h2 : aRes1 P e H (.tmp b) = some u := by simp [aRes1, hb]
  simp [aResults, hr, aResList, h1, h2]
def colS (n : Nat) (T : Nat → Bool) : (Nat → Bool) → List Int → (Nat → Bool) × Int
  | S, [] => (S, 0)
  | S, x :: l => if x < 0 ∨ (n : Int) ≤ x then (none', 2) else if S x.toNat = true then (none', 6) else if T x.toNat = true then (none', 13) else colS n T (upd S x.toNat true) l
theorem bd79 : aBuilt Try.prog 79 [] = some (bA none') := by kernel_rfl
theorem belB_me (N : Nat) (S : Nat → Bool) (k : IntKind) (e : Int) : belB N 4 (.tuple [.agg (bA S), .int k e]) = true := by
  simp only [belB, List.all_cons, List.all_nil, Bool.and_true, List.all_eq_true]
  intro v hv
  obtain ⟨y, -, rfl⟩ := List.mem_map.1 hv
  exact belB_bool _ _ _
set_option maxRecDepth 100000 in
theorem collect_q {r c n : Nat} (hs : Sd r c) (hn : r * c = n) (T : Nat → Bool) (u : AV) (l : List Int) (H : AH) (Q : AV → AH → Prop) (hu : Ls H u l) (hlen : l.length ≤ 1000000) (h : Q (.tuple [.agg (bA (colS n T none' l).1), .int .i64 (colS n T none' l).2]) H) : AC Try.prog 87 [.agg [.int .i64 r, .int .i64 c], u, .agg (bA T)] H Q := by
  refine AC.quiet (belB_me _ _ _ _) (fun Q h => ?_) Q h
  have h25 := hs.le
  rw [hn] at h25
  refine L_body 34 Try.func87 rfl rfl ?_
  obtain ⟨I, hI, hz⟩ := zeroT_some zt79'
  refine L_reg [1, 3, 5, 6] (fun K hK => ?_)
  simp [AV.isU, acells, hI, hz]
  apply hK; clear hK K
  refine L_reg [1, 3, 5, 6, 8] (fun K hK => ?_)
  simp [hI, hz]
  apply hK; clear hK K
  have h3 : (H ++ [AObj.row [.int .i64 r, .int .i64 c] 0 0 false, AObj.row (bA T) 0 0 false, AObj.row (bA none') 0 0 false, AObj.row (bA none') 0 0 false])[H.length]? = some (.row [.int .i64 r, .int .i64 c] 0 0 false) := by simp
  have h5 : (H ++ [AObj.row [.int .i64 r, .int .i64 c] 0 0 false, AObj.row (bA T) 0 0 false, AObj.row (bA none') 0 0 false, AObj.row (bA none') 0 0 false])[H.length + 1]? = some (.row (bA T) 0 0 false) := by simp
  have h6 : (H ++ [AObj.row [.int .i64 r, .int .i64 c] 0 0 false, AObj.row (bA T) 0 0 false, AObj.row (bA none') 0 0 false, AObj.row (bA none') 0 0 false])[H.length + 2]? = some (.row (bA none') 0 0 false) := by simp
  have h8 : (H ++ [AObj.row [.int .i64 r, .int .i64 c] 0 0 false, AObj.row (bA T) 0 0 false, AObj.row (bA none') 0 0 false, AObj.row (bA none') 0 0 false])[H.length + 3]? = some (.row (bA none') 0 0 false) := by simp
  have hE : Ext H (H ++ [AObj.row [.int .i64 r, .int .i64 c] 0 0 false, AObj.row (bA T) 0 0 false, AObj.row (bA none') 0 0 false, AObj.row (bA none') 0 0 false]) := .push _ _
  generalize H ++ [AObj.row [.int .i64 r, .int .i64 c] 0 0 false, AObj.row (bA T) 0 0 false, AObj.row (bA none') 0 0 false, AObj.row (bA none') 0 0 false] = H1 at h3 h5 h6 h8 hE ⊢
  have hvl := ls_len (hu.ext hE)
  refine L_reg [3, 5, 6, 8, 11, 12, 13] (fun K hK => ?_)
  simp [hvl]
  apply hK; clear hK K
  refine L_block (L_loopV [13] (fun q vs H' => ∃ (i s : Nat) (S : Nat → Bool), q = l.length - i ∧ i ≤ l.length ∧ vs = [.int .i64 i] ∧ Ext H H' ∧ H'[H.length]? = some (.row [.int .i64 r, .int .i64 c] 0 0 false) ∧ H'[H.length + 1]? = some (.row (bA T) 0 0 false) ∧ H'[H.length + 2]? = some (.row (bA none') 0 0 false) ∧ H'[H.length + 3]? = some (.row (bA S) 0 s false) ∧ colS n T S (l.drop i) = colS n T none' l) _ [.int .i64 (0 : Nat)] rfl ⟨0, 0, none', rfl, by omega, rfl, hE, h3, h5, h6, h8, rfl⟩ ?_)
  clear h3 h5 h6 h8 hE hvl H1
  rintro q _ H1 ⟨i, s, S, rfl, hi, rfl, hE, h3, h5, h6, h8, hc⟩
  refine L_reg [3, 5, 6, 8, 11, 12, 13, 14] (fun K hK => ?_)
  simp
  apply hK; clear hK K
  refine L_dec (i < l.length) (by simp) (fun hlt => ?_) (fun hge => L_exit ?_)
  · refine L_block ?_
    obtain ⟨rz, pz, vz, hix, hldz⟩ := ls_ix (hu.ext hE) hlt
    have a3 := ldn_f h3
    rw [List.drop_eq_getElem_cons hlt, ← g_lt hlt] at hc
    obtain ⟨x, hx⟩ : ∃ x, g l i = x := ⟨_, rfl⟩
    rw [hx] at hldz hc
    simp only [colS] at hc
    refine L_reg [3, 5, 6, 8, 10, 11, 12, 13] (fun K hK => ?_)
    simp [hix, hldz]
    apply hK; clear hK K
    refine L_reg [3, 5, 6, 8, 10, 11, 12, 13, 20] (fun K hK => ?_)
    simp [okFn_low, a3]
    refine has_q hs hn x _ _ ?_
    simp
    apply hK; clear hK K
    by_cases hin : 0 ≤ x ∧ x < n
    case neg =>
      rw [if_pos (by omega)] at hc
      have hst := st_m (T := none') h6
      refine L_true (by simp; omega) ?_
      rw [← hc] at h
      refine L_reg [6, 7] (fun K hK => ?_)
      simp [bd79, hst]
      apply hK; clear hK K
      refine L_ret ⟨.inr rfl, _, res_cell_tmp rfl ?_ rfl, h _ (hE.set _ (by omega))⟩
      simp [ldn_b (get_set h6)]
    obtain ⟨b, rfl⟩ : ∃ b : Nat, x = b := ⟨x.toNat, by omega⟩
    rw [if_neg (by omega), Int.toNat_natCast] at hc
    have hb25 : b < 25 := by omega
    have hbi : (b : Int) < 25 := by omega
    have a8 := ld_b h8 hb25
    have a5 := ld_b h5 hb25
    refine L_false (by simp; omega) ?_
    refine L_reg [3, 5, 6, 8, 10, 11, 12, 13, 24] (fun K hK => ?_)
    simp [hbi, a8]
    apply hK; clear hK K
    cases hSb : S b with
    | true =>
      rw [if_pos hSb] at hc
      have hst := st_m (T := none') h6
      refine L_true (by simp) ?_
      rw [← hc] at h
      refine L_reg [6, 7] (fun K hK => ?_)
      simp [bd79, hst]
      apply hK; clear hK K
      refine L_ret ⟨.inr rfl, _, res_cell_tmp rfl ?_ rfl, h _ (hE.set _ (by omega))⟩
      simp [ldn_b (get_set h6)]
    | false =>
      rw [if_neg (by simp [hSb])] at hc
      refine L_false (by simp) ?_
      refine L_reg [3, 5, 6, 8, 10, 11, 12, 13, 28] (fun K hK => ?_)
      simp [hbi, a5]
      apply hK; clear hK K
      cases hTb : T b with
      | true =>
        rw [if_pos hTb] at hc
        have hst := st_m (T := none') h6
        refine L_true (by simp) ?_
        rw [← hc] at h
        refine L_reg [6, 7] (fun K hK => ?_)
        simp [bd79, hst]
        apply hK; clear hK K
        refine L_ret ⟨.inr rfl, _, res_cell_tmp rfl ?_ rfl, h _ (hE.set _ (by omega))⟩
        simp [ldn_b (get_set h6)]
      | false =>
        rw [if_neg (by simp [hTb])] at hc
        have hst := st_b (v := true) h8 hb25
        refine L_false (by simp) ?_
        refine L_reg [3, 5, 6, 8, 11, 12, 13] (fun K hK => ?_)
        simp [hbi, hst]
        apply hK; clear hK K
        refine L_reg [3, 5, 6, 8, 11, 12, 13] (fun K hK => ?_)
        simp [wrap_i64 (a := (i : Int) + 1) (by omega)]
        apply hK; clear hK K
        refine ⟨l.length - (i + 1), [.int .i64 (i + 1 : Nat)], by omega, by simp, i + 1, min s b, upd S b true, rfl, by omega, rfl, hE.set _ (by omega), ?_, ?_, ?_, get_set h8, hc⟩
        · rw [List.getElem?_set_ne (by omega)]; exact h3
        · rw [List.getElem?_set_ne (by omega)]; exact h5
        · rw [List.getElem?_set_ne (by omega)]; exact h6
  · obtain rfl : i = l.length := by omega
    rw [List.drop_length] at hc
    simp only [colS] at hc
    rw [← hc] at h
    have l8 := ldn_b h8
    have hst := st_m (T := S) h6
    refine L_reg [6, 7] (fun K hK => ?_)
    simp [l8, hst]
    apply hK; clear hK K
    refine L_ret ⟨.inr rfl, _, res_cell_tmp rfl ?_ rfl, h _ (hE.set _ (by omega))⟩
    simp [ldn_b (get_set h6)]
theorem checkSides_q (m n : Int) (H : AH) (Q : AV → AH → Prop) (h : Q (.int .i64 (if (1 ≤ m ∧ m ≤ 5) ∧ 1 ≤ n ∧ n ≤ 5 then 0 else 1)) H) : AC Try.prog 71 [.int .i64 m, .int .i64 n] H Q := by
  refine L_body 19 Try.func71 rfl rfl ?_
  refine L_reg [0, 1] (fun K hK => ?_)
  simp
  apply hK; clear hK K
  by_cases c1 : m < 1
  · rw [if_neg (by omega)] at h
    refine L_reg [18] (fun K hK => ?_)
    simp [c1, pickV]
    apply hK; clear hK K
    refine L_true (by simp) ?_
    refine L_reg [4] (fun K hK => ?_)
    simp
    apply hK; clear hK K
    exact L_ret ⟨.inr rfl, _, rfl, h⟩
  · by_cases c2 : 5 < m
    · rw [if_neg (by omega)] at h
      refine L_reg [18] (fun K hK => ?_)
      simp [c1, c2, pickV]
      apply hK; clear hK K
      refine L_true (by simp) ?_
      refine L_reg [4] (fun K hK => ?_)
      simp
      apply hK; clear hK K
      exact L_ret ⟨.inr rfl, _, rfl, h⟩
    · by_cases c3 : n < 1
      · rw [if_neg (by omega)] at h
        refine L_reg [18] (fun K hK => ?_)
        simp [c1, c2, c3, pickV]
        apply hK; clear hK K
        refine L_true (by simp) ?_
        refine L_reg [4] (fun K hK => ?_)
        simp
        apply hK; clear hK K
        exact L_ret ⟨.inr rfl, _, rfl, h⟩
      · by_cases c4 : 5 < n
        · rw [if_neg (by omega)] at h
          refine L_reg [18] (fun K hK => ?_)
          simp [c1, c2, c3, c4, pickV]
          apply hK; clear hK K
          refine L_true (by simp) ?_
          refine L_reg [4] (fun K hK => ?_)
          simp
          apply hK; clear hK K
          exact L_ret ⟨.inr rfl, _, rfl, h⟩
        · rw [if_pos (by omega)] at h
          refine L_reg [18] (fun K hK => ?_)
          simp [c1, c2, c3, c4, pickV]
          apply hK; clear hK K
          refine L_false (by simp) ?_
          refine L_reg [4] (fun K hK => ?_)
          simp
          apply hK; clear hK K
          exact L_ret ⟨.inr rfl, _, rfl, h⟩
/-- A field. -/
def fl (r c : Nat) (S Z : Nat → Bool) : List AV := .int .i64 r :: .int .i64 c :: (bA S ++ bA Z)
theorem bd81 (r c : Nat) (S Z : Nat → Bool) : aBuilt Try.prog 81 [(0, .agg [.int .i64 r, .int .i64 c]), (1, .agg (bA S)), (2, .agg (bA Z))] = some (fl r c S Z) := by kernel_rfl
theorem bd81z : aBuilt Try.prog 81 [] = some (fl 0 0 none' none') := by kernel_rfl
theorem bd77 (m n : Int) : aBuilt Try.prog 77 [(0, .int .i64 m), (1, .int .i64 n)] = some [.int .i64 m, .int .i64 n] := by kernel_rfl
theorem zt81' : zeroT Try.prog 81 = some (fl 0 0 none' none') := by rw [zt81]; rfl
theorem fl_len (r c : Nat) (S Z : Nat → Bool) : (fl r c S Z).length = 52 := by simp [fl, bA_len]
theorem fl_one (r c : Nat) (S Z : Nat → Bool) : ∀ v ∈ fl r c S Z, v.one = true := by
  intro v hv
  simp only [fl, List.mem_cons, List.mem_append] at hv
  rcases hv with rfl | rfl | hv | hv
  · rfl
  · rfl
  · exact bA_one S v hv
  · exact bA_one Z v hv
theorem fl_known (r c : Nat) (S Z : Nat → Bool) : ∀ v ∈ fl r c S Z, v ≠ .undef := fun v hv => one_known (fl_one r c S Z v hv)
theorem fl_all (N r c : Nat) (S Z : Nat → Bool) (d : Nat) : (fl r c S Z).all (belB N d) = true := by
  rw [List.all_eq_true]
  intro v hv
  simp only [fl, List.mem_cons, List.mem_append] at hv
  rcases hv with rfl | rfl | hv | hv
  · exact belB_int ..
  · exact belB_int ..
  · obtain ⟨y, -, rfl⟩ := List.mem_map.1 hv
    exact belB_bool ..
  · obtain ⟨y, -, rfl⟩ := List.mem_map.1 hv
    exact belB_bool ..
theorem belB_fe (N r c : Nat) (S Z : Nat → Bool) (k : IntKind) (e : Int) : belB N 4 (.tuple [.agg (fl r c S Z), .int k e]) = true := by
  simp only [belB, List.all_cons, List.all_nil, Bool.and_true]
  exact fl_all ..
section
variable {H : AH} {p s r c : Nat} {S Z S' Z' : Nat → Bool} {ro : Bool}
theorem take_pre : ∀ {l m : List AV}, (∀ v ∈ l, v ≠ .undef) → takeKnown l.length (l ++ m) = some l
  | [], _, _ => rfl
  | v :: l, m, h => by
    have h1 : known (some v) = some v := by
      have := h v (by simp)
      cases v <;> simp_all [known]
    rw [List.length_cons, takeKnown_succ, List.cons_append, List.getElem?_cons_zero, h1, List.drop_succ_cons, List.drop_zero, take_pre (fun x hx => h x (by simp [hx]))]
    rfl
theorem ldn_F (hr : H[p]? = some (.row (fl r c S Z) 0 s ro)) : ldn H p 0 52 0 = some (fl r c S Z) := by
  rw [ldn_row hr]
  simpa [fl_len] using take_all (fl_known r c S Z)
theorem ldn_F0 (hr : H[p]? = some (.row (fl r c S Z) 0 s ro)) : ldn H p 0 2 0 = some [.int .i64 r, .int .i64 c] := by
  rw [ldn_row hr]; rfl
theorem ldn_F1 (hr : H[p]? = some (.row (fl r c S Z) 0 s ro)) : ldn H p 0 25 2 = some (bA S) := by
  rw [ldn_row hr]
  have := take_pre (l := bA S) (m := bA Z) (bA_known S)
  rw [bA_len] at this
  simpa [fl] using this
theorem ldn_F2 (hr : H[p]? = some (.row (fl r c S Z) 0 s ro)) : ldn H p 0 25 27 = some (bA Z) := by
  rw [ldn_row hr]
  have := take_all (bA_known Z)
  rw [bA_len] at this
  have e : (fl r c S Z).drop 27 = bA Z := by
    rw [fl, show (27 : Nat) = 25 + 1 + 1 from rfl, List.drop_succ_cons, List.drop_succ_cons]
    rw [List.drop_append_of_le_length (by simp [bA_len]), List.drop_of_length_le (by simp [bA_len]), List.nil_append]
  simpa [e] using this
theorem st_F (hr : H[p]? = some (.row (fl r c S Z) 0 s false)) {r' c' : Nat} : storeV Try.prog 81 H (.ptr p 0 0) (.agg (fl r' c' S' Z')) = some (none, H.set p (.row (fl r' c' S' Z') 0 0 false)) :=
  store_agg ag81 hr (by decide) (fl_len r c S Z) (fl_known r c S Z) (fl_len r' c' S' Z') (fl_one r' c' S' Z')
end
theorem ldn4 {H : AH} {p s : Nat} {ro : Bool} {m k : Int} {u w : AV} (hr : H[p]? = some (.row [.int .i64 m, .int .i64 k, u, w] 0 s ro)) (hu : u ≠ .undef) (hw : w ≠ .undef) : ldn H p 0 4 0 = some [.int .i64 m, .int .i64 k, u, w] := by
  rw [ldn_row hr]
  have := take_all (l := [.int .i64 m, .int .i64 k, u, w]) (by simp [hu, hw])
  simpa using this
theorem ls_known {H : AH} {u : AV} {l : List Int} (h : Ls H u l) : u ≠ .undef := by
  obtain ⟨r, off, ver, sz, full, rfl, -⟩ := h
  simp
end Go.Proofs.Ytfbpgnjeafadmaa.Fl
