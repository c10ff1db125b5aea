/- Joined texts: WChr, Open. -/
import Derived.Test.YtlghgbdelmiakaaJ6b2a
import Derived.Test.YtlghgbdelmiakaaAxT
import Derived.Shelf.Vars
/- Of all words just the turns of the even word are even: the walk. -/
namespace Go.Proofs.Ytlghgbdelmiakaa
open Go Go.Proofs.Ytlghgbdelmiakaa.AX

def rowF (n s : Nat) : List AV := (List.range (n + 1)).map fun k => .str (fstK n k s)
def rowC (n s : Nat) : List AV := (List.range (n + 1)).map fun k => .int .i64 (cntK n k s)
theorem rowF_zero {n q : Nat} (hq : q = n + 1) : List.replicate q (AV.str []) = rowF n 0 := by
  subst hq
  refine List.ext_getElem (by simp [rowF]) fun i h1 h2 => ?_
  simp [rowF, fstK, cntK_zero]
theorem rowC_zero {n q : Nat} (hq : q = n + 1) : List.replicate q (AV.int .i64 0) = rowC n 0 := by
  subst hq
  refine List.ext_getElem (by simp [rowC]) fun i h1 h2 => ?_
  simp [rowC, cntK_zero]
theorem rowF_at {n s k : Nat} (hk : k ≤ n) : known (rowF n s)[k]? = some (.str (fstK n k s)) := by
  simp [rowF, show k < n + 1 by omega, known]
theorem rowC_at {n s k : Nat} (hk : k ≤ n) : known (rowC n s)[k]? = some (.int .i64 (cntK n k s)) := by
  simp [rowC, show k < n + 1 by omega, known]
theorem rowF_set {n s s2 k : Nat} {w : List UInt8} (h : fstK n k s2 = w) (h2 : ∀ j, j ≠ k → fstK n j s2 = fstK n j s) : (rowF n s).set k (.str w) = rowF n s2 := by
  refine List.ext_getElem (by simp [rowF]) fun i g1 g2 => ?_
  rw [List.getElem_set]
  split
  · rename_i e; subst e; simp [rowF, h]
  · rename_i e; simp [rowF, h2 i (Ne.symm e)]
theorem rowC_set {n s s2 k : Nat} {c : Int} (h : (cntK n k s2 : Int) = c) (h2 : ∀ j, j ≠ k → cntK n j s2 = cntK n j s) : (rowC n s).set k (.int .i64 c) = rowC n s2 := by
  refine List.ext_getElem (by simp [rowC]) fun i g1 g2 => ?_
  rw [List.getElem_set]
  split
  · rename_i e; subst e; simp [rowC, h]
  · rename_i e; simp [rowC, h2 i (Ne.symm e)]
def HH (H : AH) (F C : List AV) : AH := H ++ [.row F 0 0 false, .row C 0 0 false]
theorem HH_F (H : AH) (F C : List AV) : (HH H F C)[H.length]? = some (.row F 0 0 false) := by simp [HH]
theorem HH_C (H : AH) (F C : List AV) : (HH H F C)[H.length + 1]? = some (.row C 0 0 false) := by simp [HH]
theorem ldF {H : AH} {F C : List AV} {k : Nat} {y : AV} (h : known F[k]? = some y) : ld (HH H F C) H.length k 0 = some y := by rw [ld_row (HH_F H F C), h]
theorem ldC {H : AH} {F C : List AV} {k : Nat} {y : AV} (h : known C[k]? = some y) : ld (HH H F C) (H.length + 1) k 0 = some y := by rw [ld_row (HH_C H F C), h]
theorem stF {H : AH} {F C F2 : List AV} {k : Nat} {x y : AV} (hx : x.one = true) (h : known F[k]? = some y) (h2 : F.set k x = F2) : storeV Try.prog 9 (HH H F C) (.ptr H.length k 0) x = some (none, HH H F2 C) := by
  rw [store_row sc9 hx (HH_F H F C) h, h2]
  simp [HH]
theorem stC {H : AH} {F C C2 : List AV} {k : Nat} {x y : AV} (hx : x.one = true) (h : known C[k]? = some y) (h2 : C.set k x = C2) : storeV Try.prog 3 (HH H F C) (.ptr (H.length + 1) k 0) x = some (none, HH H F C2) := by
  rw [store_row sc3 hx (HH_C H F C) h, h2]
  simp [HH]
theorem evenV_in {w : List UInt8} (h : Wok w) : evenV w = .tuple [.bool (evenB w), .int .i64 0] := by unfold evenV; rw [if_pos h.chk]
theorem sameV_in {a b : List UInt8} (ha : Wok a) (hb : Wok b) (hl : a.length = b.length) {i : Nat} (h : sameS a b 0 = some i) : sameV a b = .tuple [.int .i64 i, .int .i64 0] := by
  unfold sameV
  rw [if_neg (fun h => h ha.chk), if_neg (fun h => h hb.chk), if_neg (fun h => h hl), h]
theorem turnsV_in {w : List UInt8} (h : Wok w) {x : Int} (hx : turnI w w 1 = x) : turnsV w = .tuple [.int .i64 x, .int .i64 0] := by unfold turnsV; rw [if_pos h.chk, hx]
theorem bnd_lt {w : List UInt8} : bnd w ≤ w.length := List.count_le_length
set_option maxRecDepth 100000 in
set_option maxHeartbeats 1000000 in
theorem bandChristoffel_ac {m : Int} (a : Nat) (ha : a < 256) (H : AH) (hg : GM m H) : AC Try.prog 7 [.int .u8 a] H fun v _ => v = .bool true := by
  refine L_body 158 Try.func7 rfl rfl ?_
  refine L_reg [0] (fun K hK => ?_)
  simp
  apply hK; clear hK K
  have t1 := tmod_nat a 10
  obtain ⟨n, hn⟩ : ∃ n, n = 1 + a % 10 := ⟨_, rfl⟩
  have hn1 : 1 ≤ n ∧ n ≤ 10 := by omega
  have hn2 : (1 : Int) + (a : Int) % 10 = n := by omega
  rw [show ((10 : Nat) : Int) = 10 from rfl] at t1
  refine L_reg [3] (fun K hK => ?_)
  simp [wrap_i64 (a := (a : Int)) (by omega), t1, hn2, wrap_i64 (a := (n : Int)) (by omega)]
  apply hK; clear hK K
  obtain ⟨q, hq⟩ : ∃ q, q = n + 1 := ⟨_, rfl⟩
  have hq2 : (n : Int) + 1 = q := by omega
  have hmF := make_z elz43 (H := H) (show q ≤ 16777216 by omega)
  rw [rowF_zero hq] at hmF
  refine L_reg [3, 4] (fun K hK => ?_)
  simp [hq2, wrap_i64 (a := (q : Int)) (by omega), hmF]
  apply hK; clear hK K
  have hmC := make_z elz44 (H := H ++ [.row (rowF n 0) 0 0 false]) (show q ≤ 16777216 by omega)
  rw [rowC_zero hq, List.append_assoc, List.singleton_append, List.length_append, List.length_singleton] at hmC
  rw [show H ++ [AObj.row (rowF n 0) 0 0 false, AObj.row (rowC n 0) 0 0 false] = HH H (rowF n 0) (rowC n 0) from rfl] at hmC
  refine L_reg [3, 4, 5] (fun K hK => ?_)
  simp [hq2, wrap_i64 (a := (q : Int)) (by omega), hmC]
  apply hK; clear hK K
  have hsh : ∀ l', binV Try.prog .shl 45 l' (.int .u16 1) (.int .i64 (n : Int)) = some (.int .u16 ((2 ^ n : Nat) : Int)) := fun l' => n_shl16 n (by omega)
  have hfull := @cntK_full n hn1.1 hn1.2
  have hsame := @ev_same n hn1.1 hn1.2
  have hfirst := @ev_first n hn1.1 hn1.2
  have hones := @ones_ac n hn1.1 hn1.2
  have hN2 : 2 ^ n ≤ 2 ^ 10 := Nat.pow_le_pow_right (by decide) hn1.2
  obtain ⟨N, hN⟩ : ∃ N, 2 ^ n = N := ⟨_, rfl⟩
  rw [hN] at hfull hN2
  simp only [hN] at hsh hsame hfirst hones
  refine L_reg [3, 4, 5, 29, 30] (fun K hK => ?_)
  simp [hsh]
  apply hK; clear hK K
  refine L_block (L_loopV [30] (fun r vs H' => ∃ s : Nat, r = N - s ∧ s ≤ N ∧ vs = [.int .u16 s] ∧ H' = HH H (rowF n s) (rowC n s)) _ [.int .u16 0] rfl ⟨0, rfl, by omega, rfl, rfl⟩ ?_)
  rintro r _ _ ⟨s, rfl, hs, rfl, rfl⟩
  refine L_reg [3, 4, 5, 29, 30, 31] (fun K hK => ?_)
  simp
  apply hK; clear hK K
  refine L_dec (s < N) (by simp) (fun hlt => ?_) (fun hge => L_exit ?_)
  · refine L_block ?_
    refine L_reg [3, 4, 5, 6, 29, 30] (fun K hK => ?_)
    simp
    apply hK; clear hK K
    have hgs : ∀ F C, GM m (HH H F C) := fun F C => gfind_app hg
    have hsc := fun k => cntK_succ n k s
    have hcl := fun k => cntK_le n k s
    have hW0 := spell_len n s
    have hWo := spell_ok n s
    have h3 := @hsame s hlt
    have h4 := @hfirst s hlt
    have h5 := @hones s hlt
    clear hsame hfirst hones
    refine L_reg [3, 4, 5, 6, 7, 29, 30] (fun K hK => ?_)
    simp [okFn_low]
    refine spelled_ac n s (by omega) (by omega) (by omega) _ _ ?_
    simp
    apply hK; clear hK K
    generalize spell n s = w at *
    have hk : Wok w := ⟨by omega, by omega, hWo⟩
    refine L_reg [3, 4, 5, 6, 7, 8, 9, 29, 30] (fun K hK => ?_)
    simp [okFn_low]
    refine Even_ac w _ _ ?_
    simp [evenV_in hk]
    apply hK; clear hK K
    refine L_reg [3, 4, 5, 6, 7, 8, 29, 30, 48] (fun K hK => ?_)
    simp [okFn_low]
    refine evenL_ac w hk.lo (by omega) _ _ ?_
    simp [neqB4, pickV]
    apply hK; clear hK K
    refine L_false (by simp) ?_
    refine L_reg [3, 4, 5, 6, 7, 29, 30, 50] (fun K hK => ?_)
    simp
    apply hK; clear hK K
    cases hev : evenB w with
    | false =>
      refine L_true (by simp) ?_
      refine L_exit ?_
      refine L_reg [3, 4, 5, 29, 30] (fun K hK => ?_)
      simp [wrap_u16 (a := (s : Int) + 1) (by omega)]
      apply hK; clear hK K
      have e1 : ∀ k, cntK n k (s + 1) = cntK n k s := fun k => by rw [hsc, hev]; rfl
      have e2 : rowF n (s + 1) = rowF n s := by simp only [rowF, fstK, e1]
      have e3 : rowC n (s + 1) = rowC n s := by simp only [rowC, e1]
      exact ⟨N - (s + 1), [.int .u16 (s + 1 : Nat)], by omega, by simp, s + 1, rfl, by omega, rfl, by rw [e2, e3]⟩
    | true =>
      refine L_false (by simp) ?_
      have h3 := h3 hev
      have h4 := h4 hev
      refine L_reg [3, 4, 5, 7, 10, 29, 30] (fun K hK => ?_)
      simp [okFn_low]
      refine h5 hev _ _ ?_
      simp
      apply hK; clear hK K
      clear h5
      have hbl : bnd w ≤ w.length := bnd_lt
      have e0 : ∀ j, j ≠ bnd w → cntK n j (s + 1) = cntK n j s := fun j hj => by
        rw [hsc, hev]
        have : Nat.beq (bnd w) j = false := by
          cases h : Nat.beq (bnd w) j with
          | false => rfl
          | true => exact absurd (Nat.eq_of_beq_eq_true h).symm hj
        rw [this]; rfl
      have e1 : cntK n (bnd w) (s + 1) = cntK n (bnd w) s + 1 := by
        rw [hsc, hev, Nat.beq_refl]; rfl
      have hcl2 := hcl (bnd w)
      generalize bnd w = k at *
      have e2 : fstK n k (s + 1) = madeS n k := by unfold fstK; rw [if_neg (by omega)]
      have e3 : ∀ j, j ≠ k → fstK n j (s + 1) = fstK n j s := fun j hj => by unfold fstK; rw [e0 j hj]
      have lC := fun F => ldC (H := H) (F := F) (rowC_at (n := n) (s := s) (k := k) (by omega))
      have sC := fun F => stC (H := H) (F := F) (x := .int .i64 ((cntK n k s : Int) + 1)) rfl (rowC_at (n := n) (s := s) (k := k) (by omega)) (rowC_set (s2 := s + 1) (by rw [e1]; rfl) e0)
      have lF := fun C => ldF (H := H) (C := C) (rowF_at (n := n) (s := s) (k := k) (by omega))
      have lF2 := fun C => ldF (H := H) (C := C) (rowF_at (n := n) (s := s + 1) (k := k) (by omega))
      rw [e2] at lF2
      have hkq : k < q := by omega
      have hMl := madeS_len n k
      have hM : Wok (madeS n k) := ⟨by omega, by omega, madeS_ok n k⟩
      obtain ⟨i, hi⟩ := h3
      have hsv := sameV_in hM hk (by omega) hi
      obtain ⟨i1, i2⟩ := sameS_turn hi
      have hsf : ∀ k', aSlice Try.prog 9 (.str (madeS n k)) (some (.int k' (i : Int))) none none = some (.str ((madeS n k).drop i)) := fun k' => slFrom9 (by omega) k'
      have hst : ∀ k', aSlice Try.prog 9 (.str (madeS n k)) none (some (.int k' (i : Int))) none = some (.str ((madeS n k).take i)) := fun k' => slTo9 (by omega) k'
      have hadd : ∀ l', binV Try.prog .add 9 l' (.str ((madeS n k).drop i)) (.str ((madeS n k).take i)) = some (.str w) := fun l' => by rw [← i2]; exact b_addS (by simp; omega)
      refine L_reg [3, 4, 5, 7, 10, 29, 30] (fun K hK => ?_)
      simp [hkq, lC, sC, wrap_i64 (a := (cntK n k s : Int) + 1) (by omega)]
      apply hK; clear hK K
      refine L_reg [3, 4, 5, 7, 10, 29, 30, 63] (fun K hK => ?_)
      simp [hkq, lF]
      apply hK; clear hK K
      by_cases h0 : cntK n k s = 0
      · have hwm := h4 h0
        have e4 : fstK n k s = [] := by unfold fstK; rw [if_pos h0]
        have sF := fun C => stF (H := H) (C := C) (x := .str w) rfl (rowF_at (n := n) (s := s) (k := k) (by omega)) (rowF_set (s2 := s + 1) (by rw [e2, hwm]) e3)
        refine L_true (by simp [e4]) ?_
        refine L_reg [3, 4, 5, 7, 10, 29, 30] (fun K hK => ?_)
        simp [hkq, sF]
        apply hK; clear hK K
        refine L_reg [3, 4, 5, 7, 10, 11, 12, 29, 30] (fun K hK => ?_)
        simp [okFn_low, hkq, lF2]
        refine Same_ac _ _ _ (hgs _ _) _ ?_
        simp [hsv]
        apply hK; clear hK K
        refine L_regQ mixed [3, 4, 5, 29, 30, 104] (by kernel_rfl) (fun K hK => ?_)
        have g1 : ¬ (i : Int) < 0 := by omega
        have g2 : ¬ n ≤ i := by omega
        simp [pickV, hkq, lF2, g1, g2, hsf, hst, hadd]
        apply hK; clear hK K
        refine L_false (by simp) ?_
        refine L_reg [3, 4, 5, 29, 30] (fun K hK => ?_)
        simp [wrap_u16 (a := (s : Int) + 1) (by omega)]
        apply hK; clear hK K
        exact ⟨N - (s + 1), [.int .u16 (s + 1 : Nat)], by omega, by simp, s + 1, rfl, by omega, rfl, rfl⟩
      · have e4 : fstK n k s = madeS n k := by unfold fstK; rw [if_neg h0]
        have e5 : rowF n s = rowF n (s + 1) := by
          unfold rowF
          congr 1
          funext j
          by_cases hj : j = k
          · subst hj; rw [e2, e4]
          · rw [e3 j hj]
        have e6 : madeS n k ≠ [] := fun e => by rw [e] at hMl; simp at hMl; omega
        refine L_false (by simp [e4, e6]) ?_
        rw [e5]
        refine L_reg [3, 4, 5, 7, 10, 11, 12, 29, 30] (fun K hK => ?_)
        simp [okFn_low, hkq, lF2]
        refine Same_ac _ _ _ (hgs _ _) _ ?_
        simp [hsv]
        apply hK; clear hK K
        refine L_regQ mixed [3, 4, 5, 29, 30, 104] (by kernel_rfl) (fun K hK => ?_)
        have g1 : ¬ (i : Int) < 0 := by omega
        have g2 : ¬ n ≤ i := by omega
        simp [pickV, hkq, lF2, g1, g2, hsf, hst, hadd]
        apply hK; clear hK K
        refine L_false (by simp) ?_
        refine L_reg [3, 4, 5, 29, 30] (fun K hK => ?_)
        simp [wrap_u16 (a := (s : Int) + 1) (by omega)]
        apply hK; clear hK K
        exact ⟨N - (s + 1), [.int .u16 (s + 1 : Nat)], by omega, by simp, s + 1, rfl, by omega, rfl, rfl⟩
  · have hsN : s = N := by omega
    subst hsN
    have hgs : ∀ F C, GM m (HH H F C) := fun F C => gfind_app hg
    have hturn := @ev_turns n hn1.1 hn1.2
    clear hsame hfirst hones hge hsh t1
    refine L_reg [3, 4, 5, 107, 108] (fun K hK => ?_)
    simp [hq2, wrap_i64 (a := (q : Int)) (by omega)]
    apply hK; clear hK K
    refine L_block (L_loopV [108] (fun r vs H' => ∃ k : Nat, r = q - k ∧ k ≤ q ∧ vs = [.int .i64 k] ∧ H' = HH H (rowF n s) (rowC n s)) _ [.int .i64 0] rfl ⟨0, rfl, by omega, rfl, rfl⟩ ?_)
    rintro r _ _ ⟨k, rfl, hk, rfl, rfl⟩
    refine L_reg [3, 4, 5, 107, 108, 109] (fun K hK => ?_)
    simp
    apply hK; clear hK K
    refine L_dec (k < q) (by simp) (fun hkq => ?_) (fun hge => L_exit ?_)
    · refine L_block ?_
      refine L_reg [3, 4, 5, 13, 107, 108] (fun K hK => ?_)
      simp
      apply hK; clear hK K
      refine L_reg [3, 4, 5, 13, 14, 15, 107, 108] (fun K hK => ?_)
      simp [okFn_low]
      refine Make_ac _ _ _ _ ?_
      simp [makeV_in (n := n) (k := k) hn1.1 (by omega) (by omega)]
      apply hK; clear hK K
      have hMl := madeS_len n k
      have hM : Wok (madeS n k) := ⟨by omega, by omega, madeS_ok n k⟩
      have hT := turnsV_in hM (hturn (by omega))
      have hF := hfull (k := k) (by omega)
      have lC := fun F => ldC (H := H) (F := F) (rowC_at (n := n) (s := s) (k := k) (by omega))
      have lF := fun C => ldF (H := H) (C := C) (rowF_at (n := n) (s := s) (k := k) (by omega))
      have hd0 : 0 < Nat.gcd n k := Nat.gcd_pos_of_pos_left _ (by omega)
      have hd1 : Nat.gcd n k ≤ n := Nat.gcd_le_left _ (by omega)
      have hd2 : 0 < n / Nat.gcd n k := Nat.div_pos hd1 hd0
      have hd3 : n / Nat.gcd n k ≤ n := Nat.div_le_self _ _
      have hdl := divL_ac n k (by omega) (by omega) (HH H (rowF n s) (rowC n s))
      have htd := tdiv_nat n (Nat.gcd n k)
      clear hturn hfull
      have e1 : fstK n k s = madeS n k := by unfold fstK; rw [if_neg (by omega)]
      rw [hF] at lC
      rw [e1] at lF
      generalize n / Nat.gcd n k = x at *
      generalize Nat.gcd n k = d at *
      generalize madeS n k = w at *
      refine L_reg [3, 4, 5, 13, 14, 15, 16, 17, 107, 108] (fun K hK => ?_)
      simp [okFn_low]
      refine Turns_ac w _ (hgs _ _) _ ?_
      simp [hT]
      apply hK; clear hK K
      have hd4 : ¬ d = 0 := by omega
      refine L_regQ mixed [3, 4, 5, 107, 108, 155] (by kernel_rfl) (fun K hK => ?_)
      simp [okFn_low, pickV, hkq, lF, lC]
      refine exQ_mk (fun Q hQ => hdl Q hQ) ?_
      simp [pickV, hkq, lC, hd4, htd, wrap_i64 (a := (x : Int)) (by omega)]
      apply hK; clear hK K
      refine L_false (by simp) ?_
      refine L_reg [3, 4, 5, 107, 108] (fun K hK => ?_)
      simp [wrap_i64 (a := (k : Int) + 1) (by omega)]
      apply hK; clear hK K
      exact ⟨q - (k + 1), [.int .i64 (k + 1 : Nat)], by omega, by simp, k + 1, rfl, by omega, rfl, rfl⟩
    · refine L_reg [2] (fun K hK => ?_)
      simp [okFn_low]
      refine works_ac _ (hgs _ _) _ ?_
      simp
      apply hK; clear hK K
      exact L_ret ⟨.inr rfl, _, rfl, rfl⟩
theorem bandChristoffel_u {m : Int} {H : AH} (a : Int) (wa : (Lit.int .u8 a).wf = true) (hg : GM m H) : AC Try.prog 7 [.int .u8 a] H fun v _ => v = .bool true := by
  obtain ⟨a, rfl, ha⟩ := u8_of wa
  exact bandChristoffel_ac a ha H hg
end Go.Proofs.Ytlghgbdelmiakaa

/- The library's variable, of which the rows say nothing. -/
namespace Go.Proofs.Ytlghgbdelmiakaa
open Go Go.Proofs.Ytlghgbdelmiakaa.AX
theorem maxLen_cells {W : World} (h : W.ShapedOpen Try.prog) : ∃ m : Int, ∀ x ∈ gsM m, ∃ C e fz, W.heap[x.1]? = some (.cells C e fz) ∧ RelVs .empty x.2 C.toList := by
  obtain ⟨m, hm⟩ := cell_of_shapedOpen_int (P := Try.prog) (g := 0) (t := 3) (zero := #[.int .i64 0]) h (of_decide_eq_true (by kernel_rfl)) (by kernel_rfl) rfl (by kernel_rfl) (by kernel_rfl) Try.underlying3
  obtain ⟨cs, hh, hs, -⟩ := h.1 0 #[.int .i64 0] 3 (of_decide_eq_true (by kernel_rfl)) (by kernel_rfl)
  refine ⟨m, fun x hx => ?_⟩
  simp only [gsM, List.mem_singleton] at hx
  subst hx
  refine ⟨cs, _, _, hh, ?_⟩
  have h1 : cs.size = 1 := by simpa using hs
  have hc : W.cell? ⟨0, 0, none⟩ = cs[0]? := by rw [cell_of hh]
  rw [hc] at hm
  have : cs.toList = [.int .i64 m] := by
    have hl : cs.toList.length = 1 := by simpa using h1
    match hq : cs.toList, hl with
    | [v], _ =>
      rw [← Array.getElem?_toList, hq] at hm
      simp at hm
      rw [hm]
  rw [this]
  exact .cons (.int _ _) .nil
end Go.Proofs.Ytlghgbdelmiakaa
