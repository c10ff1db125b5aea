/- One sorter can sit with those who have the greatest counts: the walk. -/
import Derived.Test.YtbimapbcpmeooaaCut
import Derived.Test.YtbimapbcpmeooaaWCan
import Derived.Test.YtbimapbcpmeooaaBytes
namespace Go.Proofs.Ytbimapbcpmeooaa.Cl
open Go Go.Proofs.Ytbimapbcpmeooaa Go.Proofs.Ytbimapbcpmeooaa.AX
set_option maxRecDepth 100000
set_option linter.unusedVariables false
/-- One less for each of the first i. -/
theorem left_get (k : Nat) (R : List Nat) (j : Nat) (hk : k ≤ R.length) : (left k R)[j]? = if j < k then (R[j]?).map (· - 1) else R[j]? := by
  have e : left k R = (R.take k).map (· - 1) ++ R.drop k := rfl
  rw [e]
  by_cases c : j < k
  · rw [if_pos c, List.getElem?_append_left (by simp; omega), List.getElem?_map, List.getElem?_take_of_lt c]
  · rw [if_neg c, List.getElem?_append_right (by simp; omega), List.getElem?_drop]
    congr 1
    simp; omega
theorem left_step {R : List Nat} {i : Nat} (h : i < R.length) : left (i + 1) R = (left i R).set i (R[i] - 1) := by
  apply List.ext_getElem?
  intro j
  rw [left_get (i + 1) R j (by omega), List.getElem?_set, left_len, left_get i R j (by omega)]
  by_cases c1 : i = j
  · subst c1
    rw [if_pos (by omega), if_pos rfl, if_pos h, List.getElem?_eq_getElem h]
    rfl
  · rw [if_neg c1]
    by_cases c2 : j < i
    · rw [if_pos (by omega), if_pos c2]
    · rw [if_neg (by omega), if_neg c2]
theorem left_zero (R : List Nat) : left 0 R = R := by simp [left]
/-- What is told of one sorter and the others. -/
theorem havel_can {c : List Nat} {s : Nat} (hc : Okc c) (hs : s < c.length) (h2 : 2 ≤ c.length) {R : List Nat} (hR : R = srtD (c.eraseIdx s)) :
    (0 < c[s] → R.getD (c[s] - 1) 0 = 0 → canB c = false) ∧ ((0 < c[s] → 0 < R.getD (c[s] - 1) 0) → (∀ i (h : i < R.length), i < c[s] → 0 < R[i]) ∧ ((∃ x ∈ left c[s] R, R.length ≤ x) → canB c = false) ∧ canB c = canB (left c[s] R)) := by
  have hlen : R.length + 1 = c.length := by rw [hR, srt_len, List.length_eraseIdx_of_lt hs]; omega
  have hp : c.Perm (c[s] :: c.eraseIdx s) := by
    have h1 : c = c.take s ++ c[s] :: c.drop (s + 1) := by rw [← List.drop_eq_getElem_cons hs, List.take_append_drop]
    rw [List.eraseIdx_eq_take_drop_succ]
    conv => lhs; rw [h1]
    exact List.perm_middle
  have hD : Dsc R := by rw [hR]; exact srtD_dsc _
  have hreal : real c ↔ (∀ i (hi : i < R.length), i < c[s] → 0 < R[i]) ∧ real (left c[s] R) := by
    rw [real_perm hp, havel]
    have hlt := hc.lt _ (List.getElem_mem hs)
    have h5 : c[s] ≤ (c.eraseIdx s).length := by rw [List.length_eraseIdx_of_lt hs]; omega
    subst hR
    exact ⟨fun h => h.2, fun h => ⟨h5, h⟩⟩
  have hg : ∀ k, k < R.length → R.getD k 0 = R.getD k 0 := fun _ _ => rfl
  have hlt := hc.lt _ (List.getElem_mem hs)
  have hgc := gallai8 hc.le
  have hll : (left c[s] R).length = R.length := left_len
  have hgl := gallai8 (l := left c[s] R) (by rw [hll]; have := hc.le; omega)
  refine ⟨fun h0 hz => ?_, fun h => ?_⟩
  · cases hb : canB c with
    | false => rfl
    | true =>
      have h3 := (hreal.1 (hgc.2 hb)).1 (c[s] - 1) (by omega) (by omega)
      rw [List.getD_eq_getElem?_getD, List.getElem?_eq_getElem (by omega)] at hz
      simp at hz
      omega
  · have hall : ∀ i (hi : i < R.length), i < c[s] → 0 < R[i] := by
      intro i hi hic
      have h3 := h (by omega)
      rw [List.getD_eq_getElem?_getD, List.getElem?_eq_getElem (by omega)] at h3
      simp at h3
      rcases Nat.lt_or_eq_of_le (show i ≤ c[s] - 1 by omega) with h4 | h4
      · have := (List.pairwise_iff_getElem.1 hD) i (c[s] - 1) hi (by omega) h4
        omega
      · subst h4; exact h3
    have hrl : real c ↔ real (left c[s] R) := ⟨fun h => (hreal.1 h).2, fun h => hreal.2 ⟨hall, h⟩⟩
    have hcc : canB c = canB (left c[s] R) := by rw [Bool.eq_iff_iff, ← hgc, ← hgl, hrl]
    refine ⟨hall, fun ⟨x, hx, hge⟩ => ?_, hcc⟩
    cases hb : canB c with
    | false => rfl
    | true =>
      rw [hcc, ← hgl] at hb
      obtain ⟨g, hg1, hg2⟩ := hb
      obtain ⟨v, hv, rfl⟩ := List.getElem_of_mem hx
      have h1 := hg2 v hv
      have h2 : deg (left c[s] R).length g v < (left c[s] R).length := by
        unfold deg
        have h3 : (List.range (left c[s] R).length).countP (g v) + (List.range (left c[s] R).length).countP (fun u => !g v u) = (left c[s] R).length := by
          have := List.length_eq_countP_add_countP (g v) (l := List.range (left c[s] R).length)
          rw [List.length_range] at this
          have e : (fun u => !g v u) = fun u => decide (¬ g v u = true) := by funext u; cases g v u <;> rfl
          rw [e]
          exact this.symm
        have h4 : 0 < (List.range (left c[s] R).length).countP (fun u => !g v u) := List.countP_pos_iff.2 ⟨v, List.mem_range.2 hv, by simp [hg1.irr]⟩
        omega
      omega
theorem cmp55 (x y : Int) (hx : 0 ≤ x ∧ x ≤ 8) (hy : 0 ≤ y ∧ y ≤ 8) (H : AH) (Q : AV → AH → Prop) (h : Q (.int .i64 (y - x)) H) : AC Try.prog 55 [.int .i64 x, .int .i64 y] H Q := by
  refine L_body 8 Try.func55 rfl rfl ?_
  refine L_reg [0, 1] (fun K hK => ?_)
  simp
  apply hK; clear hK K
  refine L_reg [4] (fun K hK => ?_)
  simp [wrap_i64 (a := y - x) (by omega)]
  apply hK; clear hK K
  exact L_ret ⟨.inr rfl, _, rfl, h⟩
theorem RwT.ls {tl : List AV} {r ver : Nat} {H : AH} {c : List Int} (h : RwT tl r ver H c) : Ls H (.slice (some r) 0 c.length ver 1 false) c := by
  refine ⟨some r, 0, ver, 1, false, rfl, fun i hi => ⟨r, rfl, rfl, ?_⟩⟩
  rw [Nat.zero_add, h.ld hi, g_lt hi]
theorem RwT.put {tl : List AV} {r ver i : Nat} {H : AH} {c : List Int} (h : RwT tl r ver H c) (hi : i < c.length) (x : Int) : ∃ H', storeV Try.prog 3 H (.ptr r i ver) (.int .i64 x) = some (none, H') ∧ RwT tl r ver H' (c.set i x) ∧ KeepX r H H' := by
  obtain ⟨s, h⟩ := h
  have h1 := store_row (P := Try.prog) (u := 3) (p := i) sc3 (x := .int .i64 x) (y := .int .i64 c[i]) rfl h (by rw [List.getElem?_append_left (by simpa using hi)]; simp [hi])
  have e1 : (c.map (AV.int .i64) ++ tl).set i (.int .i64 x) = (c.set i x).map (.int .i64) ++ tl := by rw [List.set_append_left _ _ (by simpa using hi), List.map_set]
  rw [e1] at h1
  exact ⟨_, h1, ⟨_, get_set h⟩, (KeepX.refl r H).set _⟩
/-- The counts that the bytes make. -/
def bc (bs : List Nat) (n : Nat) : List Nat := (List.range n).map fun i => bs.getD i 0 % n
theorem bc_len (bs : List Nat) (n : Nat) : (bc bs n).length = n := by simp [bc]
theorem bc_okc (bs : List Nat) {n : Nat} (h1 : 1 ≤ n) (h8 : n ≤ 8) : Okc (bc bs n) := by
  refine ⟨by rw [bc_len]; exact h1, by rw [bc_len]; exact h8, fun x hx => ?_⟩
  rw [bc_len]
  obtain ⟨i, -, rfl⟩ := List.mem_map.1 hx
  exact Nat.mod_lt _ (by omega)
theorem fill_step {c : List Nat} {n i : Nat} (hc : c.length = n) (hi : i < n) : (c.take i ++ List.replicate (n - i) 0).set i (c[i]'(by omega)) = c.take (i + 1) ++ List.replicate (n - (i + 1)) 0 := by
  have ht : c.take (i + 1) = c.take i ++ [c[i]'(by omega)] := by rw [List.take_add_one, List.getElem?_eq_getElem (by omega)]; rfl
  have e : i - (c.take i).length = 0 := by simp; omega
  rw [List.set_append_right _ _ (by simp; omega), e, show n - i = (n - (i + 1)) + 1 by omega, List.replicate_succ, ht, List.append_assoc]
  rfl
theorem tmodN (a b : Nat) : ((a : Int).tmod (b : Int)) = ((a % b : Nat) : Int) := by rw [Int.tmod_eq_emod_of_nonneg (by omega)]; exact (Int.natCast_emod a b).symm
theorem fmax : ∀ (l : List Int) (a : Int), (l.foldl max a = a ∨ l.foldl max a ∈ l) ∧ a ≤ l.foldl max a ∧ ∀ x ∈ l, x ≤ l.foldl max a
  | [], a => by simp
  | y :: l, a => by
    obtain ⟨h1, h2, h3⟩ := fmax l (max a y)
    rw [List.foldl_cons]
    refine ⟨?_, by omega, fun x hx => ?_⟩
    · rcases h1 with h1 | h1
      · rw [h1]
        by_cases c : a ≤ y
        · right; rw [show max a y = y by omega]; simp
        · left; omega
      · right; exact List.mem_cons_of_mem _ h1
    · rcases List.mem_cons.1 hx with rfl | hx
      · omega
      · exact h3 x hx
set_option maxHeartbeats 4000000 in
theorem havel_ac (bs : List Nat) (hb8 : bs.length = 8) (hbb : ∀ z ∈ bs, z < 256) (x y : Nat) (hx : x < 256) (hy : y < 256) (H : AH) : AC Try.prog 11 [.agg (sV bs), .int .u8 x, .int .u8 y] H fun r _ => r = .bool true := by
  refine L_body 117 Try.func11 rfl rfl ?_
  refine L_reg [1, 2, 3] (fun K hK => ?_)
  simp [AV.isU, acells]
  apply hK; clear hK K
  obtain ⟨m, hm⟩ : ∃ m, x % 7 = m := ⟨_, rfl⟩
  obtain ⟨n, hn⟩ : ∃ n, n = 2 + m := ⟨_, rfl⟩
  have hx7 : (x : Int).tmod 7 = (m : Int) := by rw [← hm]; exact tmodN x 7
  have e2n : IntKind.i64.wrap (2 + (m : Int)) = (n : Int) := by rw [show (2 : Int) + m = (n : Int) by omega]; exact wrap_i64 (by omega)
  have hn8 : n ≤ 8 := by omega
  have hrb : (H ++ [AObj.row (sV bs) 0 0 false])[H.length]? = some (.row (sV bs) 0 0 false) := by simp
  have hE0 : Ext H (H ++ [AObj.row (sV bs) 0 0 false]) := .push _ _
  have hl0 : (H ++ [AObj.row (sV bs) 0 0 false]).length = H.length + 1 := by simp
  refine L_reg [2, 3, 7] (fun K hK => ?_)
  simp [wrap_i64 (a := (x : Int)) (by omega), hx7, e2n]
  apply hK; clear hK K
  generalize H ++ [AObj.row (sV bs) 0 0 false] = HB at *
  refine L_reg [2, 3, 7, 8] (fun K hK => ?_)
  simp [make_z elz22 (show n ≤ 16777216 by omega)]
  apply hK; clear hK K
  have hrw : (HB ++ [AObj.row (List.replicate n (AV.int .i64 0)) 0 0 false])[HB.length]? = some (.row (List.replicate n (AV.int .i64 0)) 0 0 false) := by simp
  have hE1 : Ext HB (HB ++ [AObj.row (List.replicate n (AV.int .i64 0)) 0 0 false]) := .push _ _
  refine L_reg [2, 3, 7, 8, 24, 25] (fun K hK => ?_)
  simp
  apply hK; clear hK K
  generalize HB ++ [AObj.row (List.replicate n (AV.int .i64 0)) 0 0 false] = HC at *
  have hrbC := hE1.row hrb
  have hlC := (List.getElem?_eq_some_iff.1 hrw).1
  obtain ⟨c, hc⟩ : ∃ c, bc bs n = c := ⟨_, rfl⟩
  have hcl : c.length = n := by rw [← hc, bc_len]
  have hok : Okc c := by rw [← hc]; exact bc_okc bs (by omega) hn8
  have hcg : ∀ i (hi : i < n), c[i]'(by omega) = bs[i]'(by omega) % n := fun i hi => by
    subst hc
    simp [bc, List.getD_eq_getElem?_getD, List.getElem?_eq_getElem (show i < bs.length by omega)]
  obtain ⟨w, hw⟩ : ∃ w, HB.length = w := ⟨_, rfl⟩
  rw [hw] at hrw hlC ⊢
  have hwH : w = H.length + 1 := by omega
  refine L_block (L_loopV [25] (fun q vs H' => ∃ (i : Nat) (st : Nat), q = n - i ∧ i ≤ n ∧ vs = [.int .i64 i] ∧ H'[w]? = some (.row ((il (c.take i ++ List.replicate (n - i) 0)).map (.int .i64)) 0 st false) ∧ H'[H.length]? = some (.row (sV bs) 0 0 false) ∧ w < H'.length) _ [.int .i64 (0 : Nat)] rfl ⟨0, 0, rfl, by omega, rfl, by rw [hrw]; simp [il], hrbC, hlC⟩ ?_)
  rintro q _ H1 ⟨i, st, rfl, hi, rfl, hr1, hr2, hl1⟩
  refine L_reg [2, 3, 7, 8, 24, 25, 26] (fun K hK => ?_)
  simp
  apply hK; clear hK K
  refine L_dec (i < n) (by simp) (fun hlt => ?_) (fun hge => L_exit ?_)
  · refine L_block ?_
    have hcgi := hcg i hlt
    have hfs := fill_step hcl hlt
    have hldb : ld H1 H.length i 0 = some (.int .u8 (bs[i]'(by omega) : Nat)) := by rw [ld_row hr2]; simp [sV, show i < bs.length by omega]
    have hz := hbb _ (List.getElem_mem (show i < bs.length by omega))
    generalize bs[i]'(by omega) = z at hldb hcgi hz
    have hmd := tmodN z n
    rw [← hcgi] at hmd
    have hcn := hok.lt _ (List.getElem_mem (show i < c.length by omega))
    generalize c[i]'(by omega) = d at hmd hfs hcn
    have hst := store_row (P := Try.prog) (u := 3) (p := i) sc3 (x := .int .i64 (d : Nat)) (y := .int .i64 ((c.take i ++ List.replicate (n - i) 0)[i]'(by simp; omega) : Nat)) rfl hr1 (by rw [List.getElem?_map]; simp only [il, List.getElem?_map]; rw [List.getElem?_eq_getElem (by simp; omega)]; rfl)
    have e1 : ((il (c.take i ++ List.replicate (n - i) 0)).map (AV.int .i64)).set i (.int .i64 (d : Nat)) = (il (c.take (i + 1) ++ List.replicate (n - (i + 1)) 0)).map (.int .i64) := by rw [← hfs, il_set, List.map_set]
    rw [e1] at hst
    have k1 := get_set (o' := .row ((il (c.take (i + 1) ++ List.replicate (n - (i + 1)) 0)).map (.int .i64)) 0 (min st i) false) hr1
    refine L_reg [2, 3, 7, 8, 9, 24, 25] (fun K hK => ?_)
    simp
    apply hK; clear hK K
    have hn0 : (n : Int) ≠ 0 := by omega
    have hn0' : n ≠ 0 := by omega
    refine L_reg [2, 3, 7, 8, 24, 25] (fun K hK => ?_)
    simp [hldb, wrap_i64 (a := (z : Int)) (by omega), hn0', hmd, hst, hlt, show (i : Int) < 8 by omega]
    apply hK; clear hK K
    refine L_reg [2, 3, 7, 8, 24, 25] (fun K hK => ?_)
    simp [wrap_i64 (a := (i : Int) + 1) (by omega)]
    apply hK; clear hK K
    exact ⟨n - (i + 1), [.int .i64 (i + 1 : Nat)], by omega, by simp, i + 1, _, rfl, by omega, rfl, k1, by rw [set_ne (by omega)]; exact hr2, by simpa using hl1⟩
  have ei : i = n := by omega
  subst ei
  rw [List.take_of_length_le (by omega), Nat.sub_self, List.replicate_zero, List.append_nil] at hr1
  obtain ⟨s, hs⟩ : ∃ s, y % i = s := ⟨_, rfl⟩
  have hsn : s < c.length := by rw [← hs, hcl]; exact Nat.mod_lt _ (by omega)
  have hmd := tmodN y i
  rw [hs] at hmd
  have hn0 : (i : Int) ≠ 0 := by omega
  have hn0' : i ≠ 0 := by omega
  refine L_reg [7, 8, 10] (fun K hK => ?_)
  simp [wrap_i64 (a := (y : Int)) (by omega), hn0', hmd]
  apply hK; clear hK K
  have hv := Ls.row hr1 false
  rw [il_len, hcl] at hv
  have hX : canX (il c) = canB c := by unfold canX; rw [if_pos (okc_chk hok), il_nat]
  have hK0 := okc_chk hok
  refine L_reg [7, 8, 10, 11, 12] (fun K hK => ?_)
  simp [okFn_low]
  refine Can_t 15 (.inl rfl) (il c) _ (by rw [il_len]; omega) _ hv _ ?_
  simp
  apply hK; clear hK K
  rw [hX, hK0]
  refine L_reg [7, 8, 10, 11, 48] (fun K hK => ?_)
  simp
  apply hK; clear hK K
  refine L_false (by simp) ?_
  refine L_reg [7, 8, 10, 11, 13] (fun K hK => ?_)
  simp [okFn_low]
  refine Clone_ac _ (il c) _ _ (by rw [il_len]; omega) hv (fun u H2 hO hE2 => ?_)
  rcases hO with ⟨h0, -⟩ | ⟨r, ver, st2, g1, rfl, g3⟩
  · have : c.length = 0 := by have := congrArg List.length h0; simpa [il] using this
    omega
  rw [List.length_map, il_len]
  simp [okFn_low, wrap_i64 (a := (s : Int) + 1) (by omega)]
  have hdel := Delete_ac r ver st2 [] (il c) s H2
  rw [il_len] at hdel
  refine hdel _ (by omega) (by omega) (by rw [List.append_nil]; exact g3) (by rw [List.append_nil]; intro z hz; obtain ⟨q, -, rfl⟩ := List.mem_map.1 hz; rfl) (fun H3 s3 tl q1 q2 q3 q4 => ?_)
  simp
  apply hK; clear hK K
  have hr2' := hE2.row hr1
  have hwr : w ≠ r := by omega
  have hr3 := (q4 w hwr).trans hr2'
  have her : (il c).eraseIdx s = il (c.eraseIdx s) := by simp [il, List.eraseIdx_eq_take_drop_succ]
  rw [her] at q1
  have hel : (c.eraseIdx s).length = c.length - 1 := List.length_eraseIdx_of_lt hsn
  have hsf := SortFuncG_ac (tl := tl) (fun a b => b - a) 55 [] (fun z => 0 ≤ z ∧ z ≤ 8) (fun z => -z) r ver (il (c.eraseIdx s)) H3
  rw [il_len, hel] at hsf
  have hDz : All (fun z => 0 ≤ z ∧ z ≤ 8) (il (c.eraseIdx s)) := by
    intro j hj
    rw [g_lt hj]
    have h1 : (il (c.eraseIdx s))[j] ∈ il (c.eraseIdx s) := List.getElem_mem hj
    obtain ⟨z, hz, e⟩ := List.mem_map.1 h1
    rw [← e]
    have := hok.b z (List.mem_of_mem_eraseIdx hz)
    omega
  rw [hcl] at hsf hsn
  refine L_reg [7, 8, 10, 11, 13] (fun K hK => ?_)
  simp [okFn_low]
  have hcl1 : ((il c).length - 1) = i - 1 := by rw [il_len, hcl]
  try rw [hcl]
  refine hsf _ ⟨by kernel_rfl, fun a b _ _ => by show b - a < 0 ↔ -a < -b; omega, fun H' _ a b ha hb Q hQ => cmp55 a b ha hb H' Q hQ⟩ ⟨s3, q1⟩ hDz (by omega) (fun H4 mm p1 p2 p3 p4 => ?_)
  simp
  apply hK; clear hK K
  obtain ⟨d, rfl, hpd⟩ := perm_il p1.1
  have hdl : d.length = i - 1 := by rw [hpd.length_eq, hel, hcl]
  have hds : d = srtD (c.eraseIdx s) := srtD_of hpd (down_il (by
    rw [List.pairwise_iff_getElem]
    intro a b ha hb hab
    rw [il_len] at ha hb
    have h9 : -(g (il d) a) ≤ -(g (il d) b) := p2 a b (by omega) hab (by rw [← hcl, ← hel, ← hpd.length_eq]; exact hb)
    rw [g_lt (by rw [il_len]; exact ha), g_lt (by rw [il_len]; exact hb)] at h9
    omega))
  obtain ⟨hA, hB⟩ := havel_can hok (by omega) (by omega) hds
  obtain ⟨ds, hdsv⟩ : ∃ ds, c[s]'(by omega) = ds := ⟨_, rfl⟩
  rw [hdsv] at hA hB
  have hds8 : ds < i := by have h9 := hok.lt _ (List.getElem_mem (show s < c.length by omega)); rw [hdsv] at h9; omega
  have hr4 := p4.row hwr hr3
  have hcs : ld H4 w s 0 = some (.int .i64 (ds : Nat)) := by rw [ld_row hr4, ← hdsv]; simp [il, show s < c.length by omega]
  have hsl : s < i := hsn
  have hdg : ∀ j, j < i - 1 → ld H4 r j ver = some (.int .i64 (d.getD j 0 : Nat)) := fun j hj => by
    rw [p3.ld (by rw [il_len]; omega), g_lt (by rw [il_len]; omega), il_get (by omega), List.getD_eq_getElem?_getD, List.getElem?_eq_getElem (by omega)]; rfl
  obtain ⟨bz, hbz⟩ : ∃ bz, (decide (0 < ds) && decide (d.getD (ds - 1) 0 = 0)) = bz := ⟨_, rfl⟩
  have hkey : ∀ (K : Env → AH → Prop), True := fun _ => trivial
  refine L_reg [7, 8, 10, 11, 13, 72] (fun K hK => ?_)
  suffices hk : K [(7, .int .i64 (i : Nat)), (8, .slice (some w) 0 i 0 1 false), (10, .int .i64 (s : Nat)), (11, .bool (canB c)), (13, .slice (some r) 0 (i - 1) ver 1 false), (72, .bool bz)] H4 by
    by_cases hd0 : ds = 0
    · subst hd0
      have : bz = false := by rw [← hbz]; rfl
      rw [this] at hk
      simp [hcs, hsl, pickV]
      exact hk
    · obtain ⟨e, rfl⟩ : ∃ e, ds = e + 1 := ⟨ds - 1, by omega⟩
      have hde := hdg e (by omega)
      have hbe : (((d.getD e 0 : Nat) : Int) == 0) = bz := by rw [← hbz, beq0]; simp
      generalize d.getD e 0 = z at hde hbe
      have he1 : (e : Int) < ((i - 1 : Nat) : Int) := by omega
      have he2 : e < i - 1 := by omega
      simp [hcs, hsl, pickV, show (0 : Int) < (e : Int) + 1 by omega, wrap_i64 (a := (e : Int)) (by omega), he1, hde, hbe]
      exact hk
  apply hK; clear hK K
  cases bz with
  | true =>
    rw [Bool.and_eq_true, decide_eq_true_eq, decide_eq_true_eq] at hbz
    have hcf := hA hbz.1 hbz.2
    rw [hcf]
    refine L_true rfl ?_
    refine L_reg [6] (fun K hK => ?_)
    simp [okFn_low]
    refine works_ac _ _ ?_
    simp [pickV]
    apply hK; clear hK K
    exact L_ret ⟨.inr rfl, _, rfl, rfl⟩
  | false =>
    obtain ⟨hall, hbig, hcc⟩ := hB (fun h0 => by
      rw [decide_eq_true h0, Bool.true_and, decide_eq_false_iff_not] at hbz
      omega)
    refine L_false rfl ?_
    refine L_reg [7, 11, 13, 81, 82] (fun K hK => ?_)
    simp [hcs, hsl]
    apply hK; clear hK K
    refine L_block (L_loopV [82] (fun q vs H' => ∃ (k : Nat), q = ds - k ∧ k ≤ ds ∧ vs = [.int .i64 k] ∧ RwT tl r ver H' (il (left k d))) _ [.int .i64 (0 : Nat)] rfl ⟨0, rfl, by omega, rfl, by rw [left_zero]; exact p3⟩ ?_)
    rintro q _ H5 ⟨k, rfl, hk, rfl, hrr⟩
    refine L_reg [7, 11, 13, 81, 82, 83] (fun K hK => ?_)
    simp
    apply hK; clear hK K
    refine L_dec (k < ds) (by simp) (fun hlt2 => ?_) (fun hge2 => L_exit ?_)
    · refine L_block ?_
      have hkd : k < d.length := by omega
      have hpos := hall k hkd hlt2
      have hst3 := left_step hkd
      have hgk := left_get k d k (by omega)
      rw [if_neg (by omega), List.getElem?_eq_getElem hkd] at hgk
      have hll : (left k d).length = d.length := left_len
      have hld := hrr.ld (i := k) (by rw [il_len, hll]; exact hkd)
      have hgv : g (il (left k d)) k = (d[k] : Int) := by
        rw [g_lt (by rw [il_len, hll]; exact hkd), il_get (by rw [hll]; exact hkd)]
        obtain ⟨h7, h8⟩ := List.getElem?_eq_some_iff.1 hgk
        rw [h8]
      rw [hgv] at hld
      have hdk8 : d[k] ≤ 8 := by
        have : d[k] ∈ d := List.getElem_mem hkd
        exact hok.b _ (List.mem_of_mem_eraseIdx (hpd.mem_iff.1 this))
      obtain ⟨z, hz⟩ : ∃ z, d[k] = z + 1 := ⟨d[k] - 1, by omega⟩
      rw [hz, Nat.add_sub_cancel] at hst3
      rw [hz] at hld hdk8
      obtain ⟨H6, hput, hrr6, -⟩ := RwT.put hrr (i := k) (by rw [il_len, hll]; exact hkd) (z : Int)
      rw [← il_set, ← hst3] at hrr6
      have hk1 : (k : Int) < ((i - 1 : Nat) : Int) := by omega
      have hk2 : k < i - 1 := by omega
      refine L_reg [7, 11, 13, 14, 81, 82] (fun K hK => ?_)
      simp
      apply hK; clear hK K
      refine L_reg [7, 11, 13, 81, 82] (fun K hK => ?_)
      simp [hk1, hld, wrap_i64 (a := (z : Int)) (by omega), hput]
      apply hK; clear hK K
      refine L_reg [7, 11, 13, 81, 82] (fun K hK => ?_)
      simp [wrap_i64 (a := (k : Int) + 1) (by omega)]
      apply hK; clear hK K
      exact ⟨ds - (k + 1), [.int .i64 (k + 1 : Nat)], by omega, by simp, k + 1, rfl, by omega, rfl, hrr6⟩
    have ek : k = ds := by omega
    subst ek
    have hv5 := RwT.ls hrr
    rw [il_len, left_len, hdl] at hv5
    obtain ⟨f1, f2, f3⟩ := fmax (il (left k d)) (g (il (left k d)) 0)
    have hLl : (il (left k d)).length = i - 1 := by rw [il_len, left_len, hdl]
    have hg0 : g (il (left k d)) 0 ∈ il (left k d) := by rw [g_lt (by omega)]; exact List.getElem_mem _
    have hmem : (il (left k d)).foldl max (g (il (left k d)) 0) ∈ il (left k d) := by
      rcases f1 with f1 | f1
      · rw [f1]; exact hg0
      · exact f1
    obtain ⟨M, hM⟩ : ∃ M, (il (left k d)).foldl max (g (il (left k d)) 0) = M := ⟨_, rfl⟩
    rw [hM] at f2 f3 hmem
    have hmx := Max_ac (.slice (some r) 0 (i - 1) ver 1 false) (il (left k d)) H5
    rw [hM] at hmx
    obtain ⟨Mn, hMn, rfl⟩ := List.mem_map.1 hmem
    refine L_reg [11, 13, 96] (fun K hK => ?_)
    simp [okFn_low]
    refine hmx _ (by omega) (by omega) hv5 ?_
    simp [wrap_i64 (a := (i : Int) - 2) (by omega)]
    apply hK; clear hK K
    refine L_dec ((i : Int) - 2 < (Mn : Int)) (by simp) (fun cM => ?_) (fun cM => ?_)
    · have hcf := hbig ⟨Mn, hMn, by omega⟩
      rw [hcf]
      refine L_reg [6] (fun K hK => ?_)
      simp [okFn_low]
      refine works_ac _ _ ?_
      simp [pickV]
      apply hK; clear hK K
      exact L_ret ⟨.inr rfl, _, rfl, rfl⟩
    · have hok2 : Okc (left k d) := ⟨by rw [left_len]; omega, by rw [left_len]; omega, fun x hx => by
        have h7 := f3 _ (List.mem_map_of_mem (f := fun x : Nat => (x : Int)) hx)
        rw [left_len]
        have h8 : (x : Int) ≤ Mn := h7
        omega⟩
      have hX2 : canX (il (left k d)) = canB (left k d) := by unfold canX; rw [if_pos (okc_chk hok2), il_nat]
      have hK2 := okc_chk hok2
      refine L_reg [11, 15, 16] (fun K hK => ?_)
      simp [okFn_low]
      refine Can_t 15 (.inl rfl) (il (left k d)) _ (by omega) _ hv5 _ ?_
      simp
      apply hK; clear hK K
      rw [hX2, hK2, hcc]
      refine L_reg [6] (fun K hK => ?_)
      simp [okFn_low, pickV]
      refine works_ac _ _ ?_
      simp [pickV]
      apply hK; clear hK K
      exact L_ret ⟨.inr rfl, _, rfl, rfl⟩
end Go.Proofs.Ytbimapbcpmeooaa.Cl
