/- Away and Way, and the reference's. -/
import Derived.Test.YtpdcmdmhamnndaaExch
import Derived.Test.YtpdcmdmhamnndaaRef3
namespace Go.Proofs.Ytpdcmdmhamnndaa
open Go Go.Proofs.Ytpdcmdmhamnndaa.AX

def bothE (n : Int) (a b : List Int) : Int := if checkE n a = 0 then (if checkE n b = 0 then (if a.length = b.length then 0 else 5) else checkE n b) else checkE n a
theorem both_ok {n : Int} {a b : List Int} (h : bothE n a b = 0) : ∃ N : Nat, n = (N : Int) ∧ N ≤ 10 ∧ Okb N a ∧ Okb N b ∧ a.length = b.length := by
  unfold bothE at h
  split at h
  · rename_i h1
    split at h
    · rename_i h2
      split at h
      · rename_i h3
        obtain ⟨N, rfl, hN, -, ha⟩ := check_ok h1
        obtain ⟨M, hM, -, -, hb⟩ := check_ok h2
        obtain rfl : N = M := by omega
        exact ⟨N, rfl, hN, ha, hb, h3⟩
      · cases h
    · contradiction
  · contradiction
theorem checkTwo_ac (n : Int) (u v : AV) (a b : List Int) (H : AH) (Q : AV → AH → Prop) (ha : a.length ≤ 1000000) (hb : b.length ≤ 1000000) (hu : Ls H u a) (hv : Ls H v b) (h : Q (.int .i64 (bothE n a b)) H) : AC Try.prog 70 [.int .i64 n, u, v] H Q := by
  obtain ⟨r0, off0, ver0, sz0, full0, rfl, -⟩ := id hu
  obtain ⟨r1, off1, ver1, sz1, full1, rfl, -⟩ := id hv
  refine L_body 26 Try.func70 rfl rfl ?_
  refine L_reg [0, 1, 2] (fun K hK => ?_)
  simp
  apply hK; clear hK K
  refine L_reg [0, 1, 2, 7] (fun K hK => ?_)
  simp [okFn_low]
  refine Check_ac n _ a _ _ ha hu ?_
  simp
  apply hK; clear hK K
  refine L_reg [0, 1, 2, 7, 13] (fun K hK => ?_)
  simp
  apply hK; clear hK K
  unfold bothE at h
  refine L_split rfl (fun ht => ?_) (fun hf => ?_)
  · have hne : checkE n a ≠ 0 := by simpa using ht
    rw [if_neg hne] at h
    refine L_reg [6] (fun K hK => ?_)
    simp
    apply hK; clear hK K
    exact L_ret ⟨.inr rfl, _, rfl, h⟩
  · have he : checkE n a = 0 := by simpa using hf
    rw [if_pos he] at h
    refine L_reg [1, 2, 8] (fun K hK => ?_)
    simp [okFn_low]
    refine Check_ac n _ b _ _ hb hv ?_
    simp
    apply hK; clear hK K
    refine L_reg [1, 2, 8, 19] (fun K hK => ?_)
    simp
    apply hK; clear hK K
    refine L_split rfl (fun ht => ?_) (fun hf => ?_)
    · have hne : checkE n b ≠ 0 := by simpa using ht
      rw [if_neg hne] at h
      refine L_reg [6] (fun K hK => ?_)
      simp
      apply hK; clear hK K
      exact L_ret ⟨.inr rfl, _, rfl, h⟩
    · have he : checkE n b = 0 := by simpa using hf
      rw [if_pos he] at h
      refine L_reg [25] (fun K hK => ?_)
      simp
      apply hK; clear hK K
      by_cases hl : a.length = b.length
      · refine L_false (by simp [hl]) ?_
        rw [if_pos hl] at h
        refine L_reg [6] (fun K hK => ?_)
        simp
        apply hK; clear hK K
        exact L_ret ⟨.inr rfl, _, rfl, h⟩
      · refine L_true (by simp; omega) ?_
        rw [if_neg hl] at h
        refine L_reg [6] (fun K hK => ?_)
        simp
        apply hK; clear hK K
        exact L_ret ⟨.inr rfl, _, rfl, h⟩
theorem both_ac (n : Int) (u v : AV) (a b : List Int) (H : AH) (Q : AV → AH → Prop) (ha : a.length ≤ 1000000) (hb : b.length ≤ 1000000) (hu : Ls H u a) (hv : Ls H v b) (h : Q (.int .i64 (bothE n a b)) H) : AC Try.prog 72 [.int .i64 n, u, v] H Q := by
  obtain ⟨r0, off0, ver0, sz0, full0, rfl, -⟩ := id hu
  obtain ⟨r1, off1, ver1, sz1, full1, rfl, -⟩ := id hv
  refine L_body 26 Try.func72 rfl rfl ?_
  refine L_reg [0, 1, 2] (fun K hK => ?_)
  simp
  apply hK; clear hK K
  refine L_reg [0, 1, 2, 7] (fun K hK => ?_)
  simp [okFn_low]
  refine rCheck_ac n _ a _ _ ha hu ?_
  simp
  apply hK; clear hK K
  refine L_reg [0, 1, 2, 7, 12] (fun K hK => ?_)
  simp
  apply hK; clear hK K
  unfold bothE at h
  refine L_split rfl (fun ht => ?_) (fun hf => ?_)
  · have he : checkE n a = 0 := by simpa using ht
    rw [if_pos he] at h
    refine L_reg [1, 2, 7] (fun K hK => ?_)
    simp [okFn_low]
    refine rCheck_ac n _ b _ _ hb hv ?_
    simp
    apply hK; clear hK K
    by_cases he2 : checkE n b = 0
    · rw [if_pos he2] at h
      refine L_reg [7, 24] (fun K hK => ?_)
      simp [he2, pickV]
      apply hK; clear hK K
      by_cases hl : a.length = b.length
      · refine L_false (by simp [hl]) ?_
        rw [if_pos hl] at h
        refine L_reg [6] (fun K hK => ?_)
        simp
        apply hK; clear hK K
        exact L_ret ⟨.inr rfl, _, rfl, h⟩
      · refine L_true (by simp; omega) ?_
        rw [if_neg hl] at h
        refine L_reg [7] (fun K hK => ?_)
        simp
        apply hK; clear hK K
        refine L_reg [6] (fun K hK => ?_)
        simp
        apply hK; clear hK K
        exact L_ret ⟨.inr rfl, _, rfl, h⟩
    · rw [if_neg he2] at h
      refine L_reg [7, 24] (fun K hK => ?_)
      simp [show (checkE n b == 0) = false by simpa using he2, pickV]
      apply hK; clear hK K
      refine L_false (by simp) ?_
      refine L_reg [6] (fun K hK => ?_)
      simp
      apply hK; clear hK K
      exact L_ret ⟨.inr rfl, _, rfl, h⟩
  · have he : checkE n a ≠ 0 := by simpa using hf
    rw [if_neg he] at h
    refine L_reg [7, 24] (fun K hK => ?_)
    simp [show (checkE n a == 0) = false by simpa using he, pickV]
    apply hK; clear hK K
    refine L_false (by simp) ?_
    refine L_reg [6] (fun K hK => ?_)
    simp
    apply hK; clear hK K
    exact L_ret ⟨.inr rfl, _, rfl, h⟩
theorem ownG_ls {N : Nat} {H : AH} {v : AV} {l : List Int} (h : OwnG N H v l) : Ls H v l := by
  rcases h with h | h
  · exact ownF_ls h
  · exact h.ls
theorem distance_ac (u v : AV) (a b : List Int) (H : AH) (Q : AV → AH → Prop) (ha : a.length ≤ 1000000) (hb : b.length ≤ 1000000) (hu : Ls H u a) (hv : Ls H v b) (h : ∀ H', Ext H H' → Q (.int .i64 (lack a b).length) H') : AC Try.prog 71 [u, v] H Q := by
  refine L_body 9 Try.func71 rfl rfl ?_
  refine L_reg [0, 1] (fun K hK => ?_)
  simp
  apply hK; clear hK K
  refine L_reg [4] (fun K hK => ?_)
  simp [okFn_low]
  refine lacking_ac u v a b H _ ha hb hu hv (fun w H1 hO hE => ?_)
  obtain ⟨r0, off0, ver0, sz0, full0, rfl, -⟩ := ownG_ls hO
  simp
  apply hK; clear hK K
  exact L_ret ⟨.inr rfl, _, rfl, h _ hE⟩
def awayS (n : Int) (a b : List Int) : Int := if bothE n a b = 0 then ((lack a b).length : Int) else 0
theorem Away_ac (n : Int) (u v : AV) (a b : List Int) (H : AH) (Q : AV → AH → Prop) (ha : a.length ≤ 1000000) (hb : b.length ≤ 1000000) (hu : Ls H u a) (hv : Ls H v b) (h : ∀ H', Ext H H' → Q (.tuple [.int .i64 (awayS n a b), .int .i64 (bothE n a b)]) H') : AC Try.prog 27 [.int .i64 n, u, v] H Q := by
  refine L_body 19 Try.func27 rfl rfl ?_
  refine L_reg [0, 1, 2] (fun K hK => ?_)
  simp
  apply hK; clear hK K
  refine L_reg [1, 2, 8] (fun K hK => ?_)
  simp [okFn_low]
  refine checkTwo_ac n u v a b _ _ ha hb hu hv ?_
  simp
  apply hK; clear hK K
  refine L_reg [1, 2, 8, 14] (fun K hK => ?_)
  simp
  apply hK; clear hK K
  unfold awayS at h
  refine L_split rfl (fun ht => ?_) (fun hf => ?_)
  · have hne : bothE n a b ≠ 0 := by simpa using ht
    rw [if_neg hne] at h
    refine L_reg [6, 7] (fun K hK => ?_)
    simp
    apply hK; clear hK K
    exact L_ret ⟨.inr rfl, _, rfl, h _ (.refl H)⟩
  · have he : bothE n a b = 0 := by simpa using hf
    rw [if_pos he, he] at h
    refine L_reg [6, 7] (fun K hK => ?_)
    simp [okFn_low]
    refine distance_ac u v a b H _ ha hb hu hv (fun H1 hE => ?_)
    simp
    apply hK; clear hK K
    exact L_ret ⟨.inr rfl, _, rfl, h _ hE⟩
theorem rAway_ac (n : Int) (u v : AV) (a b : List Int) (H : AH) (Q : AV → AH → Prop) (ha : a.length ≤ 1000000) (hb : b.length ≤ 1000000) (hu : Ls H u a) (hv : Ls H v b) (h : ∀ H', Ext H H' → Q (.tuple [.int .i64 (awayS n a b), .int .i64 (bothE n a b)]) H') : AC Try.prog 28 [.int .i64 n, u, v] H Q := by
  refine L_body 20 Try.func28 rfl rfl ?_
  refine L_reg [0, 1, 2] (fun K hK => ?_)
  simp
  apply hK; clear hK K
  refine L_reg [1, 2, 8] (fun K hK => ?_)
  simp [okFn_low]
  refine both_ac n u v a b _ _ ha hb hu hv ?_
  simp
  apply hK; clear hK K
  refine L_reg [1, 2, 8, 14] (fun K hK => ?_)
  simp
  apply hK; clear hK K
  unfold awayS at h
  refine L_split rfl (fun ht => ?_) (fun hf => ?_)
  · have hne : bothE n a b ≠ 0 := by simpa using ht
    rw [if_neg hne] at h
    refine L_reg [6, 7] (fun K hK => ?_)
    simp
    apply hK; clear hK K
    exact L_ret ⟨.inr rfl, _, rfl, h _ (.refl H)⟩
  · have he : bothE n a b = 0 := by simpa using hf
    rw [if_pos he, he] at h
    refine L_reg [6, 7] (fun K hK => ?_)
    simp [okFn_low]
    refine rless_ac u v a b H _ ha hb hu hv (fun w H1 hO hE => ?_)
    obtain ⟨r0, off0, ver0, sz0, full0, rfl, -⟩ := ownF_ls hO
    simp
    apply hK; clear hK K
    exact L_ret ⟨.inr rfl, _, rfl, h _ hE⟩

/-- A list that lies in rows other than one. -/
def LsX (r : Nat) (H : AH) (v : AV) (l : List Int) : Prop := ∃ rr off ver sz full, v = .slice rr off l.length ver sz full ∧ ∀ i (h : i < l.length), ∃ r', rr = some r' ∧ sz = 1 ∧ r' ≠ r ∧ ld H r' (off + i) ver = some (.int .i64 l[i])
theorem LsX.ls {r : Nat} {H : AH} {v : AV} {l : List Int} (h : LsX r H v l) : Ls H v l := by
  obtain ⟨rr, off, ver, sz, full, h1, h2⟩ := h
  exact ⟨rr, off, ver, sz, full, h1, fun i hi => by obtain ⟨r', a, b, -, c⟩ := h2 i hi; exact ⟨r', a, b, c⟩⟩
theorem ld_same {H H' : AH} {r p ver : Nat} (h : H'[r]? = H[r]?) : ld H' r p ver = ld H r p ver := by unfold ld; rw [h]
theorem LsX.keep {r : Nat} {H H' : AH} {v : AV} {l : List Int} (h : LsX r H v l) (hK : KeepX r H H') : LsX r H' v l := by
  obtain ⟨rr, off, ver, sz, full, h1, h2⟩ := h
  refine ⟨rr, off, ver, sz, full, h1, fun i hi => ?_⟩
  obtain ⟨r', a, b, c, d⟩ := h2 i hi
  exact ⟨r', a, b, c, by rw [ld_same (hK.2 r' c (ld_lt d))]; exact d⟩
theorem Ls.below {r : Nat} {H : AH} {v : AV} {l : List Int} (h : Ls H v l) (hr : H.length ≤ r) : LsX r H v l := by
  obtain ⟨rr, off, ver, sz, full, h1, h2⟩ := h
  refine ⟨rr, off, ver, sz, full, h1, fun i hi => ?_⟩
  obtain ⟨r', a, b, d⟩ := h2 i hi
  exact ⟨r', a, b, by have := ld_lt d; omega, d⟩
theorem LsX.ext {r : Nat} {H H' : AH} {v : AV} {l : List Int} (h : LsX r H v l) (hE : Ext H H') : LsX r H' v l := h.keep ((KeepX.refl r H).ext hE)
theorem LsX.row {r r' ver s : Nat} {H : AH} {l : List Int} (hr : H[r']? = some (.row (l.map (.int .i64)) ver s false)) (hne : r' ≠ r) : LsX r H (.slice (some r') 0 l.length ver 1 false) l := by
  refine ⟨some r', 0, ver, 1, false, rfl, fun i hi => ⟨r', rfl, rfl, hne, ?_⟩⟩
  rw [ld_row hr]; simp [hi]
theorem ownG_X {N r : Nat} {H : AH} {v : AV} {l : List Int} (h : OwnG N H v l) (hr : r < N) : LsX r H v l := by
  rcases h with (⟨h1, rfl⟩ | ⟨r', ver, stale, h1, rfl, h3⟩) | ⟨r', ver, stale, tl, h1, rfl, h3, -⟩
  · obtain rfl : l = [] := by simpa using h1
    exact ⟨none, 0, 0, 1, false, rfl, fun i hi => by simp at hi⟩
  · have := LsX.row (r := r) h3 (by omega)
    simpa using this
  · refine ⟨some r', 0, ver, 1, false, by simp, fun i hi => ⟨r', rfl, rfl, by omega, ?_⟩⟩
    rw [ld_row h3, Nat.zero_add, List.getElem?_append_left (by simpa using hi)]
    simp [hi]
/-- Lists in a row. -/
def Lss (H : AH) (v : AV) (l : List (List Int)) : Prop := ∃ r off ver sz full, v = .slice r off l.length ver sz full ∧ ∀ i (hi : i < l.length), ∃ r' w, r = some r' ∧ sz = 1 ∧ ld H r' (off + i) ver = some w ∧ Ls H w l[i]
theorem Lss.ext {H H' : AH} {v : AV} {l : List (List Int)} (h : Lss H v l) (hE : Ext H H') : Lss H' v l := by
  obtain ⟨r, off, ver, sz, full, h1, h2⟩ := h
  refine ⟨r, off, ver, sz, full, h1, fun i hi => ?_⟩
  obtain ⟨r', w, a, b, c, d⟩ := h2 i hi
  exact ⟨r', w, a, b, hE.ld c, d.ext hE⟩
theorem Lss.nil (H : AH) : Lss H (.slice none 0 0 0 1 false) [] := ⟨none, 0, 0, 1, false, rfl, fun i h => by simp at h⟩
theorem Rnd.lss {N : Nat} {H : AH} {v : AV} {l : List (List Int)} (h : Rnd N H v l) : Lss H v l := by
  obtain ⟨r, ver, rfl, hg⟩ := h.get
  refine ⟨some r, 0, ver, 1, false, rfl, fun i hi => ?_⟩
  obtain ⟨w, a, b⟩ := hg i hi
  exact ⟨r, w, rfl, rfl, by simpa using a, b⟩
set_option maxRecDepth 100000 in
theorem lists_ac (u v : AV) (l m : List (List Int)) (H : AH) (Q : AV → AH → Prop) (hl : l.length ≤ 1000000) (hls : ∀ x ∈ l, x.length ≤ 1000000) (hu : Lss H u l) (hv : Lss H v m) (h : Q (.bool (decide (l = m))) H) : AC Try.prog 31 [u, v] H Q := by
  obtain ⟨r, off, ver, sz, full, rfl, hld⟩ := hu
  obtain ⟨r2, off2, ver2, sz2, full2, rfl, hld2⟩ := hv
  refine L_body 27 Try.func31 rfl rfl ?_
  refine L_reg [0, 1] (fun K hK => ?_)
  simp
  apply hK; clear hK K
  refine L_reg [0, 1, 10] (fun K hK => ?_)
  simp
  apply hK; clear hK K
  by_cases hlen : l.length = m.length
  case neg =>
    refine L_true (by simp; omega) ?_
    refine L_reg [4] (fun K hK => ?_)
    simp
    apply hK; clear hK K
    have : l ≠ m := fun e => hlen (by rw [e])
    rw [decide_eq_false this] at h
    exact L_ret ⟨.inr rfl, _, rfl, h⟩
  refine L_false (by simp [hlen]) ?_
  refine L_reg [0, 1, 5] (fun K hK => ?_)
  simp
  apply hK; clear hK K
  refine L_block (L_loopV [5] (fun k vs H' => ∃ (i : Nat), k = l.length - i ∧ i ≤ l.length ∧ (l.drop i = m.drop i → l = m) ∧ vs = [.int .i64 i] ∧ H = H') _ [.int .i64 (0 : Nat)] rfl ⟨0, rfl, by omega, by simp, rfl, rfl⟩ ?_)
  rintro k _ _ ⟨i, rfl, hi, hs, rfl, rfl⟩
  refine L_reg [0, 1, 5, 14] (fun K hK => ?_)
  simp
  apply hK; clear hK K
  refine L_dec (i < l.length) (by simp) (fun hlt => ?_) (fun hge => L_exit ?_)
  · obtain ⟨r', w, rfl, rfl, hrd, hw⟩ := hld i hlt
    obtain ⟨r3, w2, rfl, rfl, hrd2, hw2⟩ := hld2 i (by omega)
    rw [List.drop_eq_getElem_cons hlt, List.drop_eq_getElem_cons (by omega : i < m.length)] at hs
    have hle := hls _ (List.getElem_mem hlt)
    refine L_block ?_
    refine L_regT mixed [0, 1, 5, 26] (by kernel_rfl) (fun K hK => ?_)
    simp [okFn_low, hlt, ← hlen, hrd, hrd2]
    refine exC_mk (fun Q hQ => same_ac w w2 l[i] m[i] H Q (by omega) hw hw2 hQ) ?_
    simp
    apply hK; clear hK K
    by_cases he : l[i] = m[i]
    · refine L_false (by simp [he]) ?_
      rw [he] at hs
      refine L_reg [0, 1, 5] (fun K hK => ?_)
      simp [wrap_i64 (a := (i : Int) + 1) (by omega)]
      apply hK; clear hK K
      exact ⟨l.length - (i + 1), [.int .i64 (i + 1 : Nat)], by omega, by simp [hlen], i + 1, rfl, by omega, fun e => hs (by rw [e]), rfl, rfl⟩
    · refine L_true (by simp [he]) ?_
      refine L_reg [4] (fun K hK => ?_)
      simp
      apply hK; clear hK K
      have : l ≠ m := fun e => he (by subst e; rfl)
      rw [decide_eq_false this] at h
      exact L_ret ⟨.inr rfl, _, rfl, h⟩
  · refine L_reg [4] (fun K hK => ?_)
    simp
    apply hK; clear hK K
    have : l = m := hs (by rw [List.drop_eq_nil_of_le (by omega), List.drop_eq_nil_of_le (by omega)])
    rw [decide_eq_true this] at h
    exact L_ret ⟨.inr rfl, _, rfl, h⟩
theorem row37_2 (H : AH) {x y : AV} (hx : x.one = true) (hy : y.one = true) (hc : acells x = [x]) (hd : acells y = [y]) : rowV Try.prog 37 2 [(0, x), (1, y)] H = some (some (.slice (some H.length) 0 2 0 1 false), H ++ [.row [x, y] 0 2 false]) := by
  obtain ⟨e, I, h1, h2, h3, h4, hzz⟩ := elT_some el37
  have hu : x.isU = false := by cases x <;> simp_all [AV.one, AV.isU]
  have hw : y.isU = false := by cases y <;> simp_all [AV.one, AV.isU]
  simp [rowV, h1, h2, h3, aFill, hu, hw, hc, hd, hzz, List.range_succ]
/-- What is asked of lists. -/
theorem larges_ac (ls : List (List Int)) (v : AV) (H : AH) (Q : AV → AH → Prop) (hl : ls.length ≤ 1000000) (hv : Lss H v ls) (h : Q (.bool (ls.any fun l => decide (60 < l.length))) H) : AC Try.prog 14 [v] H Q := by
  obtain ⟨r, off, ver, sz, full, rfl, hld⟩ := hv
  refine L_body 16 Try.func14 rfl rfl ?_
  refine L_reg [0] (fun K hK => ?_)
  simp
  apply hK; clear hK K
  refine L_reg [0, 3] (fun K hK => ?_)
  simp
  apply hK; clear hK K
  refine L_block (L_loopV [3] (fun k vs H' => ∃ i : Nat, k = ls.length - i ∧ i ≤ ls.length ∧ ls.any (fun l => decide (60 < l.length)) = (ls.drop i).any (fun l => decide (60 < l.length)) ∧ vs = [.int .i64 i] ∧ H = H') _ [.int .i64 (0 : Nat)] rfl ⟨0, rfl, by omega, rfl, rfl, rfl⟩ ?_)
  rintro k _ _ ⟨i, rfl, hi, hx, rfl, rfl⟩
  refine L_reg [0, 3, 7] (fun K hK => ?_)
  simp
  apply hK; clear hK K
  refine L_dec (i < ls.length) (by simp) (fun hlt => ?_) (fun hge => L_exit ?_)
  · obtain ⟨r', w, rfl, rfl, hrd, hw⟩ := hld i hlt
    obtain ⟨rw0, ow, vw, zw, fw, hww, -⟩ := hw
    rw [hww] at hrd
    rw [List.drop_eq_getElem_cons hlt, List.any_cons] at hx
    refine L_block ?_
    refine L_reg [0, 3, 15] (fun K hK => ?_)
    simp [hlt, hrd]
    apply hK; clear hK K
    refine L_dec ((60 : Int) < ls[i].length) (by simp) (fun h1 => ?_) (fun h1 => ?_)
    · rw [decide_eq_true (by omega : 60 < ls[i].length), Bool.true_or] at hx
      rw [hx] at h
      refine L_reg [2] (fun K hK => ?_)
      simp
      apply hK; clear hK K
      exact L_ret ⟨.inr rfl, _, rfl, h⟩
    · rw [decide_eq_false (by omega : ¬ 60 < ls[i].length), Bool.false_or] at hx
      refine L_reg [0, 3] (fun K hK => ?_)
      simp [wrap_i64 (a := (i : Int) + 1) (by omega)]
      apply hK; clear hK K
      exact ⟨ls.length - (i + 1), [.int .i64 (i + 1 : Nat)], by omega, by simp, i + 1, rfl, by omega, hx, rfl, rfl⟩
  · obtain rfl : i = ls.length := by omega
    rw [List.drop_length, List.any_nil] at hx
    rw [hx] at h
    refine L_reg [2] (fun K hK => ?_)
    simp
    apply hK; clear hK K
    exact L_ret ⟨.inr rfl, _, rfl, h⟩
end Go.Proofs.Ytpdcmdmhamnndaa
