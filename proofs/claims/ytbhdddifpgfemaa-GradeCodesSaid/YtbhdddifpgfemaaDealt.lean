/- Orders by numbers. -/
import Derived.Test.YtbhdddifpgfemaaFacts
namespace Go.Proofs.Ytbhdddifpgfemaa
open Go Go.Proofs.Ytbhdddifpgfemaa.AX

@[simp] theorem ixa53 (r off ver : Nat) (k : IntKind) (i : Int) : aIndexAddr Try.prog 53 (.ptr r off ver) (.int k i) = if 0 ≤ i ∧ i < (7 : Nat) then some (.ptr r (off + i.toNat * 1) ver) else none := ixa_ar (by kernel_rfl) ..
@[simp] theorem cv53 (k : IntKind) (n : Int) : aConv Try.prog 5 3 (.int k n) = some (.int .i64 (IntKind.i64.wrap n)) := cv_int (by kernel_rfl) (by kernel_rfl) n
theorem rem_nat (a b : Nat) : ((a : Int)).tmod (b : Int) = ((a % b : Nat) : Int) := by
  rw [Int.tmod_eq_emod_of_nonneg (Int.natCast_nonneg _)]; simp
theorem ownF_ext {N : Nat} {H H1 : AH} {v : AV} {l : List AV} (h : OwnF N H v l) (hE : ∀ j, N ≤ j → ∀ o, H[j]? = some o → H1[j]? = some o) : OwnF N H1 v l := by
  rcases h with h | ⟨r, ver, stale, h1, h2, h3⟩
  · exact .inl h
  · exact .inr ⟨r, ver, stale, h1, h2, hE r h1 _ h3⟩
theorem ext_take (H : AH) (N : Nat) (hN : N ≤ H.length) : ∃ H0 : AH, H0.length = N ∧ Ext H0 H :=
  ⟨H.take N, by simp [hN], by simp; omega, fun j hj => by rw [List.getElem?_take, if_pos (by simp at hj; omega)]⟩
def u8s (ns : List Nat) : List AV := ns.map fun n : Nat => .int .u8 (n : Int)
def iota (n : Nat) : List Int := (List.range n).map fun i : Nat => (i : Int)
theorem iota_succ (n : Nat) : iota (n + 1) = iota n ++ [(n : Int)] := by simp [iota, List.range_succ]
@[simp] theorem iota_len (n : Nat) : (iota n).length = n := by simp [iota]
def dealS : List Int → List Nat → List Int
  | _, [] => []
  | left, k :: ks => left[k % left.length]?.getD 0 :: dealS (left.eraseIdx (k % left.length)) ks

set_option maxRecDepth 100000 in
theorem dealt_ac (n : Nat) (ns : List Nat) (H : AH) (Q : AV → AH → Prop) (hn : 1 ≤ n ∧ n ≤ 7) (hns : ns.length = 7) (hb : ∀ x ∈ ns, x < 256)
    (h : ∀ v' H', OwnF H.length H' v' ((dealS (iota n) (ns.take n)).map (.int .i64)) → Ext H H' → Q v' H') : AC Try.prog 102 [.int .i64 n, .agg (u8s ns)] H Q := by
  refine L_body 44 Try.func102 rfl rfl ?_
  refine L_reg [0, 3] (fun K hK => ?_)
  simp [AV.isU, acells]
  apply hK; clear hK K
  have hE1 : Ext H (H ++ [AObj.row (u8s ns) 0 0 false]) := .push _ _
  have hb1 : (H ++ [AObj.row (u8s ns) 0 0 false])[H.length]? = some (.row (u8s ns) 0 0 false) := by simp
  have hbl : H.length < (H ++ [AObj.row (u8s ns) 0 0 false]).length := by simp
  generalize H ++ [AObj.row (u8s ns) 0 0 false] = H1 at hE1 hb1 hbl ⊢
  generalize hb0 : H.length = b at hb1 hbl h ⊢
  refine L_reg [0, 3, 5, 6] (fun K hK => ?_)
  simp
  apply hK; clear hK K
  refine L_reg [0, 3, 5, 6, 10, 11] (fun K hK => ?_)
  simp
  apply hK; clear hK K
  refine L_block (L_loopV [5, 11] (fun k vs H' => ∃ (i : Nat) (u : AV), k = n - i ∧ i ≤ n ∧ vs = [u, .int .i64 i] ∧ Ext H1 H' ∧ OwnF H1.length H' u ((iota i).map (.int .i64))) _ [.slice none 0 0 0 1 false, .int .i64 (0 : Nat)] rfl
    ⟨0, _, rfl, by omega, rfl, .refl _, OwnF.nil _ _⟩ ?_)
  rintro k _ H2 ⟨i, u, rfl, hi, rfl, hE2, hO⟩
  refine L_reg [0, 3, 5, 6, 10, 11, 12] (fun K hK => ?_)
  simp
  apply hK; clear hK K
  refine L_dec (i < n) (by simp) (fun hlt => ?_) (fun hge => L_exit ?_)
  · refine L_block ?_
    refine L_reg [0, 3, 5, 6, 7, 10, 11] (fun K hK => ?_)
    simp
    apply hK; clear hK K
    obtain ⟨u', H3, happ, hO3, hE3⟩ := ownF_append (P := Try.prog) hE2 el22 el22 (x := .int .i64 i) (m := 1) hO rfl (by simp; omega)
    refine L_reg [0, 3, 5, 6, 10, 11] (fun K hK => ?_)
    simp [happ]
    apply hK; clear hK K
    refine L_reg [0, 3, 5, 6, 10, 11] (fun K hK => ?_)
    simp [wrap_i64 (a := (i : Int) + 1) (by omega)]
    apply hK; clear hK K
    refine ⟨n - (i + 1), [u', .int .i64 (i + 1 : Nat)], by omega, by simp, i + 1, u', rfl, by omega, rfl, hE3, ?_⟩
    rw [iota_succ]
    simpa using hO3
  · have : i = n := by omega
    subst this
    obtain ⟨r, ver, s, hr1, rfl, hr2⟩ : ∃ r ver s, H1.length ≤ r ∧ u = .slice (some r) 0 i ver 1 false ∧ H2[r]? = some (.row ((iota i).map (.int .i64)) ver s false) := by
      rcases hO with ⟨h0, -⟩ | ⟨r, ver, s, g1, g2, g3⟩
      · have := congrArg List.length h0
        simp at this; omega
      · exact ⟨r, ver, s, g1, by simpa using g2, g3⟩
    have hrl : r < H2.length := (List.getElem?_eq_some_iff.1 hr2).1
    refine L_reg [3, 5, 6, 19, 20] (fun K hK => ?_)
    simp
    apply hK; clear hK K
    refine L_block (L_loopV [5, 6, 20] (fun k vs H' => ∃ (j m : Nat) (o : AV) (left out : List Int) (s : Nat) (tl : List AV), k = m ∧ i = j + m ∧ vs = [.slice (some r) 0 m ver 1 false, o, .int .i64 j] ∧ left.length = m ∧ out.length = j ∧ out ++ dealS left ((ns.take i).drop j) = dealS (iota i) (ns.take i) ∧
        H'[r]? = some (.row (left.map (.int .i64) ++ tl) ver s false) ∧ (∀ x ∈ left.map (.int .i64) ++ tl, x.one = true) ∧ OwnF H2.length H' o (out.map (.int .i64)) ∧ Ext H1 H' ∧ H2.length ≤ H'.length) _ [.slice (some r) 0 i ver 1 false, .slice none 0 0 0 1 false, .int .i64 (0 : Nat)] rfl
      ⟨0, i, _, iota i, [], s, [], rfl, by omega, rfl, by simp, rfl, by simp, by simpa using hr2, by simp [iota, AV.one], OwnF.nil _ _, hE2, Nat.le_refl _⟩ ?_)
    rintro m _ H3 ⟨j, _, o, left, out, s3, tl, rfl, hjm, rfl, hll, hol, hD, hr3, hone, hO3, hE3, hN3⟩
    refine L_reg [3, 5, 6, 19, 20, 21] (fun K hK => ?_)
    simp
    apply hK; clear hK K
    refine L_dec (j < i) (by simp) (fun hlt => ?_) (fun hge => L_exit ?_)
    · have hm0 : m ≠ 0 := by omega
      have hjn : j < ns.length := by omega
      have hbj := hb _ (List.getElem_mem hjn)
      have hld : ld H3 b j 0 = some (.int .u8 (ns[j] : Nat)) := by
        rw [ld_row (hE3.row hb1)]
        simp [u8s, hjn]
      have hdr : (ns.take i).drop j = ns[j] :: (ns.take i).drop (j + 1) := by
        rw [List.drop_eq_getElem_cons (by simp; omega)]; simp
      rw [hdr] at hD
      simp only [dealS, hll] at hD
      generalize ns[j] = x at hbj hld hD
      have hr := rem_nat x m
      have hdm : x % m < m := Nat.mod_lt _ (by omega)
      generalize x % m = d at hr hdm hD
      have hdl : d < left.length := by omega
      rw [List.getElem?_eq_getElem hdl, Option.getD_some] at hD
      have hld2 : ld H3 r d ver = some (.int .i64 left[d]) := by
        rw [ld_row hr3, List.getElem?_append_left (by simpa using hdl)]
        simp [hdl]
      generalize left[d] = y at hD hld2
      refine L_block ?_
      refine L_reg [3, 5, 6, 8, 19, 20] (fun K hK => ?_)
      simp
      apply hK; clear hK K
      refine L_reg [3, 5, 6, 9, 19, 20] (fun K hK => ?_)
      simp [show (j : Int) < 7 by omega, hld, wrap_i64 (a := (x : Int)) (by omega), hm0, hr]
      apply hK; clear hK K
      obtain ⟨H0, hH0, hT⟩ := ext_take H3 H2.length hN3
      rw [← hH0] at hO3
      obtain ⟨o', H4, happ, hO4, hE4⟩ := ownF_append (P := Try.prog) hT el22 el22 (x := .int .i64 y) (m := 1) hO3 rfl (by simp; omega)
      rw [hH0] at hO4
      have hk4 : ∀ j, j < H2.length → H4[j]? = H3[j]? := fun j hj => by rw [hE4.2 j (by omega), hT.2 j (by omega)]
      have hN4 : H2.length ≤ H4.length := by have := hE4.1; omega
      refine L_reg [3, 5, 6, 9, 19, 20] (fun K hK => ?_)
      simp [hdm, hld2, happ]
      apply hK; clear hK K
      rw [← hk4 r hrl] at hr3
      refine L_reg [3, 5, 6, 19, 20] (fun K hK => ?_)
      subst hll
      simp [wrap_i64 (a := (d : Int) + 1) (by omega)]
      refine Delete_ac r ver s3 tl left d H4 _ hdl (by omega) hr3 hone (fun H5 s5 tl5 hr5 hone5 hl5 hk5 => ?_)
      simp
      apply hK; clear hK K
      have hH21 := hE2.1
      refine L_reg [3, 5, 6, 19, 20] (fun K hK => ?_)
      simp [wrap_i64 (a := (j : Int) + 1) (by omega)]
      apply hK; clear hK K
      refine ⟨left.length - 1, [.slice (some r) 0 (left.length - 1) ver 1 false, o', .int .i64 (j + 1 : Nat)], by omega, by simp, j + 1, left.length - 1, o', left.eraseIdx d, out ++ [y], s5, tl5, rfl, by omega, rfl, by rw [List.length_eraseIdx, if_pos hdl], by simp [hol], ?_, hr5, hone5, ?_, ?_, by omega⟩
      · rw [← hD]; simp
      · have := ownF_ext (H1 := H5) hO4 (fun q hq o ho => by rw [hk5 q (by omega)]; exact ho)
        simpa using this
      · refine ⟨by omega, fun q hq => ?_⟩
        rw [hk5 q (by omega), hk4 q (by omega), hE3.2 q hq]
    · have hm0 : m = 0 := by omega
      subst hm0
      have hdr : (ns.take i).drop j = [] := by apply List.drop_eq_nil_of_le; simp; omega
      rw [hdr] at hD
      simp only [dealS, List.append_nil] at hD
      refine L_reg [4] (fun K hK => ?_)
      simp
      apply hK; clear hK K
      refine L_ret ⟨.inr rfl, _, rfl, ?_⟩
      exact h _ _ (by rw [← hD]; exact hO3.mono (by have := hE2.1; omega)) (hE1.trans hE3)
theorem dealS_len : ∀ {left : List Int} {ks : List Nat}, (dealS left ks).length = ks.length
  | _, [] => rfl
  | _, _ :: ks => by simp [dealS, dealS_len]
def ordV (H : AH) (l : List Int) : AV := .slice (some H.length) 0 l.length 0 1 false
def ordH (H : AH) (l : List Int) : AH := H ++ [.row (l.map (.int .i64)) 0 l.length false]
theorem ordLs (H : AH) (l : List Int) : Ls (ordH H l) (ordV H l) l := Ls.last l false
theorem ordE (H : AH) (l : List Int) : Ext H (ordH H l) := .push _ _
theorem dealt_q (n : Nat) (ns : List Nat) (H : AH) (hn : 1 ≤ n ∧ n ≤ 7) (hns : ns.length = 7) (hb : ∀ x ∈ ns, x < 256) (Q : AV → AH → Prop)
    (h : Q (ordV H (dealS (iota n) (ns.take n))) (ordH H (dealS (iota n) (ns.take n)))) : AC Try.prog 102 [.int .i64 n, .agg (u8s ns)] H Q := by
  refine AC.tidy (l := (dealS (iota n) (ns.take n)).map (.int .i64)) ?_ (belB_ints _ _) (fun Q h => dealt_ac n ns H Q hn hns hb h) Q ?_
  · intro h0
    have := congrArg List.length h0
    rw [List.length_map, dealS_len, List.length_take, List.length_nil, hns] at this
    omega
  · simpa [ordV, ordH] using h
end Go.Proofs.Ytbhdddifpgfemaa
