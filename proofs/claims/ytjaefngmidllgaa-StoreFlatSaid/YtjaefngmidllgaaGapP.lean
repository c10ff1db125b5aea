/- The division of the gaps, the program's way. -/
import Derived.Test.YtjaefngmidllgaaArcR
import Derived.Test.YtjaefngmidllgaaKey
namespace Go.Proofs.Ytjaefngmidllgaa.St
open Go Go.Proofs.Ytjaefngmidllgaa Go.Proofs.Ytjaefngmidllgaa.AX
set_option maxRecDepth 100000
set_option linter.unusedVariables false
def nine (f : Nat → Nat) : List Nat := (List.range 9).map f
theorem nine_len (f : Nat → Nat) : (nine f).length = 9 := by simp [nine]
theorem nine_get {f : Nat → Nat} {r : Nat} (h : r < 9) : (nine f)[r]'(by rw [nine_len]; exact h) = f r := by simp [nine]
theorem nine_ga {f : Nat → Nat} {r : Nat} (h : r < 9) : ga (nine f) r = f r := by rw [ga_lt (by rw [nine_len]; exact h), nine_get h]
theorem nine_set {f g : Nat → Nat} {x : Nat} (hx : x < 9) (h : ∀ r, r < 9 → r ≠ x → g r = f r) : (nine f).set x (g x) = nine g := by
  apply List.ext_getElem (by simp [nine])
  intro r h1 h2
  have h3 : r < 9 := by simpa [nine] using h2
  rw [List.getElem_set]
  split
  · rename_i e; subst e; rw [nine_get h3]
  · rename_i e; rw [nine_get h3, nine_get h3, h r h3 (fun h => e h.symm)]
theorem nine_ext {f g : Nat → Nat} (h : ∀ r, r < 9 → f r = g r) : nine f = nine g := by
  unfold nine
  exact List.map_congr_left fun r hr => h r (List.mem_range.1 hr)
theorem count_step {d : List Nat} {i : Nat} (h : i < d.length) (r : Nat) : (d.take (i + 1)).count r = (d.take i).count r + if d[i] = r then 1 else 0 := by
  rw [← List.take_append_getElem h, List.count_append]
  congr 1
  simp [List.count_singleton]
def ctF (d : List Nat) (i r : Nat) : Nat := (d.take i).count r
def bfF (d : List Nat) (i r : Nat) : Nat := (d.take i).count r % d.count r
theorem ct_set {d : List Nat} {i : Nat} (h : i < d.length) (h9 : d[i] < 9) : (nine (ctF d i)).set d[i] (ctF d i d[i] + 1) = nine (ctF d (i + 1)) := by
  have := nine_set (f := ctF d i) (g := ctF d (i + 1)) h9 fun r _ hr => by
    unfold ctF; rw [count_step h, if_neg (fun e => hr e.symm)]; rfl
  rw [← this]
  congr 1
  unfold ctF; rw [count_step h, if_pos rfl]
theorem bf_set {d : List Nat} {i : Nat} (h : i < d.length) (h9 : d[i] < 9) : (nine (bfF d i)).set d[i] ((bfF d i d[i] + 1) % d.count d[i]) = nine (bfF d (i + 1)) := by
  have := nine_set (f := bfF d i) (g := bfF d (i + 1)) h9 fun r _ hr => by
    unfold bfF; rw [count_step h, if_neg (fun e => hr e.symm)]; rfl
  rw [← this]
  congr 1
  unfold bfF; rw [count_step h, if_pos rfl, Nat.mod_add_mod]
theorem key_bf (d : List Nat) (i : Nat) : keyG d i = nine (bfF d (i + 1)) := rfl
theorem bd84 : aBuilt Try.prog 84 [] = some [.int .i64 0, .int .i64 0, .int .i64 0, .int .i64 0, .int .i64 0, .int .i64 0, .int .i64 0, .int .i64 0, .int .i64 0] := by kernel_rfl
def zs9 : List AV := [.int .i64 0, .int .i64 0, .int .i64 0, .int .i64 0, .int .i64 0, .int .i64 0, .int .i64 0, .int .i64 0, .int .i64 0]
theorem st84 (H : AH) : storeV Try.prog 84 (H ++ [AObj.row [.int .i64 0, .int .i64 0, .int .i64 0, .int .i64 0, .int .i64 0, .int .i64 0, .int .i64 0, .int .i64 0, .int .i64 0] 0 0 false]) (.ptr H.length 0 0) (.agg [.int .i64 0, .int .i64 0, .int .i64 0, .int .i64 0, .int .i64 0, .int .i64 0, .int .i64 0, .int .i64 0, .int .i64 0]) = some (none, H ++ [AObj.row zs9 0 0 false]) := by
  rw [store_agg ag84 (c := [.int .i64 0, .int .i64 0, .int .i64 0, .int .i64 0, .int .i64 0, .int .i64 0, .int .i64 0, .int .i64 0, .int .i64 0]) (s := 0) (by simp) (by decide) rfl (by simp) rfl (by simp [AV.one])]
  simp [zs9]
theorem zs_nine : zs9 = (il (nine fun _ => 0)).map (.int .i64) := rfl
theorem rem_nat (a b : Nat) : ((a : Int)).tmod (b : Int) = ((a % b : Nat) : Int) := by
  rw [Int.tmod_eq_emod_of_nonneg (Int.natCast_nonneg _)]; simp
/-- Keys as ints. -/
def keysI9 (d : List Nat) : List (List Int) := (keysG d).map il
theorem keysI9_len (d : List Nat) : (keysI9 d).length = d.length := by simp [keysI9, keysG_len]
theorem keysI9_get {d : List Nat} {i : Nat} (h : i < d.length) : (keysI9 d)[i]'(by rw [keysI9_len]; exact h) = il (keyG d i) := by simp [keysI9, keysG]
theorem keysI9_ok {d : List Nat} (h9 : d.length ≤ 9) : ∀ x ∈ keysI9 d, okKey 9 x := by
  intro x hx
  obtain ⟨i, hi, rfl⟩ := List.getElem_of_mem hx
  rw [keysI9_len] at hi
  rw [keysI9_get hi, key_bf]
  refine ⟨by rw [il_len, nine_len], fun y hy => ?_⟩
  obtain ⟨z, hz, rfl⟩ := List.mem_map.1 hy
  obtain ⟨r, hr, rfl⟩ := List.mem_map.1 hz
  have h1 : bfF d (i + 1) r ≤ 9 := by
    unfold bfF
    refine Nat.le_trans (Nat.mod_le _ _) (Nat.le_trans List.count_le_length ?_)
    rw [List.length_take]; omega
  exact wf_small (by omega) (by omega)
theorem dv_keysI9 (d : List Nat) : dv (keysI9 d) = gp d := by
  unfold gp
  refine dv_congr _ _ (by rw [keysI9_len, keysG_len]) fun i j hi hj => ?_
  rw [keysI9_len] at hi hj
  rw [keysI9_get hi, keysI9_get hj, keysG_get hi, keysG_get hj]
  exact ⟨il_inj, fun e => by rw [e]⟩
theorem cell_nine {H : AH} {r t : Nat} {f : Nat → Nat} (hr : H[r]? = some (.row ((il (nine f)).map (.int .i64)) 0 t false)) {j : Nat} (hj : j < 9) : ld H r j 0 = some (.int .i64 (f j : Nat)) := by
  rw [ld_row hr]
  simp [il, nine, hj, known]
theorem set_nine {H : AH} {r t : Nat} {f : Nat → Nat} (hr : H[r]? = some (.row ((il (nine f)).map (.int .i64)) 0 t false)) {j : Nat} (hj : j < 9) (x : Nat) : storeV Try.prog 3 H (.ptr r j 0) (.int .i64 (x : Nat)) = some (none, H.set r (.row ((il ((nine f).set j x)).map (.int .i64)) 0 (min t j) false)) := by
  have := store_row (P := Try.prog) (u := 3) (p := j) sc3 (x := .int .i64 (x : Nat)) (y := .int .i64 (f j : Nat)) rfl hr (by simp [il, nine, hj, known])
  rw [this, ← List.map_set (f := AV.int .i64), il_set]
set_option maxHeartbeats 2000000 in
theorem gapsOf_ac {d : List Nat} (hd : OkD d) (v : AV) (H : AH) (hv : Ls H v (il d)) (Q : AV → AH → Prop) (h : ∀ v' H', OwnF H.length H' v' ((il (gp d)).map (.int .i64)) → Ext H H' → Q v' H') : AC Try.prog 80 [v] H Q := by
  have h9 := hd.len
  have hvl := ils_len hv
  refine L_body 51 Try.func80 rfl rfl ?_
  obtain ⟨I, hI, hz⟩ := zeroT_some zt84
  refine L_reg [0] (fun K hK => ?_)
  simp
  apply hK; clear hK K
  refine L_reg [0, 3] (fun K hK => ?_)
  simp [bd84, hI, hz, st84]
  apply hK; clear hK K
  have hE : Ext H (H ++ [AObj.row zs9 0 0 false]) := .push _ _
  have r1 : (H ++ [AObj.row zs9 0 0 false])[H.length]? = some (.row ((il (nine (ctF d 0))).map (.int .i64)) 0 0 false) := by
    rw [zs_nine, show nine (ctF d 0) = nine fun _ => 0 from nine_ext fun r _ => by simp [ctF]]; simp
  generalize H ++ [AObj.row zs9 0 0 false] = H1 at hE r1 ⊢
  refine L_reg [0, 3, 11, 12, 13] (fun K hK => ?_)
  simp [hvl]
  apply hK; clear hK K
  refine L_block (L_loopV [13] (fun q vs H' => ∃ (i t : Nat), q = d.length - i ∧ i ≤ d.length ∧ vs = [.int .i64 i] ∧ Ext H H' ∧ H'[H.length]? = some (.row ((il (nine (ctF d i))).map (.int .i64)) 0 t false)) _ [.int .i64 (0 : Nat)] rfl ⟨0, 0, rfl, by omega, rfl, hE, r1⟩ ?_)
  clear hE r1 H1
  rintro q _ H1 ⟨i, t, rfl, hi, rfl, hE, r1⟩
  refine L_reg [0, 3, 11, 12, 13, 14] (fun K hK => ?_)
  simp
  apply hK; clear hK K
  refine L_dec (i < d.length) (by simp) (fun hlt => ?_) (fun hge => L_exit ?_)
  · refine L_block ?_
    have hx9 := hd.lt d[i] (List.getElem_mem hlt)
    obtain ⟨ra, pa, va, x1, y1⟩ := il_ix (hv.ext hE) hlt
    have hst := set_nine r1 hx9 (ctF d i d[i] + 1)
    rw [ct_set hlt hx9] at hst
    have hcl := cell_nine r1 hx9
    have hle : ctF d i d[i] ≤ 9 := by unfold ctF; exact Nat.le_trans List.count_le_length (by rw [List.length_take]; omega)
    generalize d[i] = x at y1 hst hx9 hcl hle
    generalize ctF d i x = c at hst hcl hle
    have hst' : storeV Try.prog 3 H1 (.ptr H.length x 0) (.int .i64 ((c : Int) + 1)) = some (none, H1.set H.length (.row ((il (nine (ctF d (i + 1)))).map (.int .i64)) 0 (min t x) false)) := by rw [← hst]; simp
    refine L_reg [0, 3, 5, 11, 12, 13] (fun K hK => ?_)
    simp [x1, y1]
    apply hK; clear hK K
    refine L_reg [0, 3, 11, 12, 13] (fun K hK => ?_)
    simp [show (x : Int) < 9 by omega, hcl, wrap_i64 (a := (c : Int) + 1) (by omega), hst']
    apply hK; clear hK K
    refine L_reg [0, 3, 11, 12, 13] (fun K hK => ?_)
    simp [wrap_i64 (a := (i : Int) + 1) (by omega)]
    apply hK; clear hK K
    exact ⟨d.length - (i + 1), [.int .i64 (i + 1 : Nat)], by omega, by simp, i + 1, _, rfl, by omega, rfl, hE.set _ (Nat.le_refl _), get_set r1⟩
  have e : i = d.length := by omega
  subst e
  have hct : nine (ctF d d.length) = nine fun r => d.count r := nine_ext fun r _ => by unfold ctF; rw [List.take_length]
  rw [hct] at r1
  refine L_reg [0, 3, 6] (fun K hK => ?_)
  simp [bd84, hI, hz, st84]
  apply hK; clear hK K
  have hE2 : Ext H1 (H1 ++ [AObj.row zs9 0 0 false]) := .push _ _
  have r2 : (H1 ++ [AObj.row zs9 0 0 false])[H1.length]? = some (.row ((il (nine (bfF d 0))).map (.int .i64)) 0 0 false) := by
    rw [zs_nine, show nine (bfF d 0) = nine fun _ => 0 from nine_ext fun r _ => by simp [bfF]]; simp
  have r1 := hE2.row r1
  have hE3 := hE.trans hE2
  have hpl : H.length < H1.length := Nat.lt_of_lt_of_le (List.getElem?_eq_some_iff.1 (by assumption : H1[H.length]? = _)).1 (Nat.le_refl _)
  have hpb := (List.getElem?_eq_some_iff.1 r2).1
  generalize H1.length = pb at r2 hpl hpb ⊢
  generalize H1 ++ [AObj.row zs9 0 0 false] = H2 at r1 r2 hE3 hpb ⊢
  have hvl2 := ils_len (hv.ext hE3)
  refine L_reg [0, 3, 6, 7] (fun K hK => ?_)
  simp [hvl2, make_k ek85 (show d.length ≤ 16777216 by omega)]
  apply hK; clear hK K
  have hE4 : Ext H2 (H2 ++ [AObj.row (List.replicate (d.length * 9) (AV.int .i64 0)) 0 0 false]) := .push _ _
  have r3 : (H2 ++ [AObj.row (List.replicate (d.length * 9) (AV.int .i64 0)) 0 0 false])[H2.length]? = some (.row (cellsK (rowK 9 (keysI9 d) 0)) 0 0 false) := by unfold cellsK; rw [rowK_zero, keysI9_len]; simp
  have r1 := hE4.row r1
  have r2 := hE4.row r2
  have hE5 := hE3.trans hE4
  have hpc := (List.getElem?_eq_some_iff.1 r3).1
  generalize H2.length = pc at r3 hpb hpc ⊢
  generalize H2 ++ [AObj.row (List.replicate (d.length * 9) (AV.int .i64 0)) 0 0 false] = H3 at r1 r2 r3 hE5 hpc ⊢
  have hvl3 := ils_len (hv.ext hE5)
  refine L_reg [3, 6, 7, 27, 28, 29] (fun K hK => ?_)
  simp [hvl3]
  apply hK; clear hK K
  have hke : ∀ x ∈ keysI9 d, x.length = 9 := fun x hx => (keysI9_ok h9 x hx).1
  refine L_block (L_loopV [29] (fun q vs H' => ∃ (i s2 s3 : Nat), q = d.length - i ∧ i ≤ d.length ∧ vs = [.int .i64 i] ∧ Ext H H' ∧ H'[H.length]? = some (.row ((il (nine fun r => d.count r)).map (.int .i64)) 0 t false) ∧ H'[pb]? = some (.row ((il (nine (bfF d i))).map (.int .i64)) 0 s2 false) ∧ H'[pc]? = some (.row (cellsK (rowK 9 (keysI9 d) i)) 0 s3 false)) _ [.int .i64 (0 : Nat)] rfl ⟨0, 0, 0, rfl, by omega, rfl, hE5, r1, r2, r3⟩ ?_)
  clear hE hE2 hE3 hE4 hE5 r1 r2 r3 hpc hvl2 hvl3 hge hi
  rintro q _ H4 ⟨i, s2, s3, rfl, hi, rfl, hE, r1, r2, r3⟩
  refine L_reg [3, 6, 7, 27, 28, 29, 30] (fun K hK => ?_)
  simp
  apply hK; clear hK K
  refine L_dec (i < d.length) (by simp) (fun hlt => ?_) (fun hge => L_exit ?_)
  · refine L_block ?_
    have hx9 := hd.lt d[i] (List.getElem_mem hlt)
    obtain ⟨ra, pa, va, x1, y1⟩ := il_ix (hv.ext hE) hlt
    have hcp : 0 < d.count d[i] := List.count_pos_iff.2 (List.getElem_mem hlt)
    have hst := set_nine r2 hx9 ((bfF d i d[i] + 1) % d.count d[i])
    rw [bf_set hlt hx9] at hst
    have hc2 := cell_nine r2 hx9
    have hc1 := cell_nine r1 hx9
    have hle : bfF d i d[i] ≤ 9 := by unfold bfF; exact Nat.le_trans (Nat.mod_le _ _) (Nat.le_trans List.count_le_length (by rw [List.length_take]; omega))
    have hle2 : d.count d[i] ≤ 9 := Nat.le_trans List.count_le_length h9
    generalize d[i] = x at y1 hst hx9 hc1 hc2 hle hcp hle2
    generalize bfF d i x = c at hst hc2 hle
    generalize d.count x = m at hst hc1 hcp hle2
    have hm0 : (m : Int) ≠ 0 := by omega
    have hrem : ∀ tt ll, binV Try.prog .rem tt ll (.int .i64 ((c : Int) + 1)) (.int .i64 (m : Int)) = some (.int .i64 ((c + 1) % m : Nat)) := fun tt ll => by
      rw [b_rem hm0, ← rem_nat]; simp
    generalize (c + 1) % m = z at hst hrem
    refine L_reg [3, 6, 7, 8, 9, 27, 28, 29] (fun K hK => ?_)
    simp [x1, y1]
    apply hK; clear hK K
    refine L_regT mixed [3, 6, 7, 8, 27, 28, 29] (by kernel_rfl) (fun K hK => ?_)
    simp [show (x : Int) < 9 by omega, hc1, hc2, wrap_i64 (a := (c : Int) + 1) (by omega), hrem, hst]
    apply hK; clear hK K
    have r1b : (H4.set pb (.row ((il (nine (bfF d (i + 1)))).map (.int .i64)) 0 (min s2 x) false))[H.length]? = some (.row ((il (nine fun r => d.count r)).map (.int .i64)) 0 t false) := by rw [set_ne (by omega)]; exact r1
    have r2b := get_set (o' := AObj.row ((il (nine (bfF d (i + 1)))).map (.int .i64)) 0 (min s2 x) false) r2
    have r3b : (H4.set pb (.row ((il (nine (bfF d (i + 1)))).map (.int .i64)) 0 (min s2 x) false))[pc]? = some (.row (cellsK (rowK 9 (keysI9 d) i)) 0 s3 false) := by rw [set_ne (by omega)]; exact r3
    have hE6 := hE.set (r := pb) (AObj.row ((il (nine (bfF d (i + 1)))).map (.int .i64)) 0 (min s2 x) false) (by omega)
    generalize H4.set pb (.row ((il (nine (bfF d (i + 1)))).map (.int .i64)) 0 (min s2 x) false) = H5 at r1b r2b r3b hE6 ⊢
    have hld : ldn H5 pb 0 9 0 = some ((il (nine (bfF d (i + 1)))).map (.int .i64)) := by
      have := ldn_ints_row r2b
      rwa [il_len, nine_len] at this
    have hst2 := store_key ag84 (by decide) hke (i := i) (by rw [keysI9_len]; exact hlt) r3b
    rw [keysI9_get hlt, key_bf] at hst2
    refine L_reg [3, 6, 7, 27, 28, 29] (fun K hK => ?_)
    simp [hld, hlt, hst2]
    apply hK; clear hK K
    refine L_reg [3, 6, 7, 27, 28, 29] (fun K hK => ?_)
    simp [wrap_i64 (a := (i : Int) + 1) (by omega)]
    apply hK; clear hK K
    exact ⟨d.length - (i + 1), [.int .i64 (i + 1 : Nat)], by omega, by simp, i + 1, _, _, rfl, by omega, rfl, hE6.set _ (by omega), by rw [set_ne (by omega)]; exact r1b, by rw [set_ne (by omega)]; exact r2b, get_set r3b⟩
  · have e : i = d.length := by omega
    subst e
    rw [← keysI9_len, rowK_all] at r3
    have hk := lk_row hke r3
    rw [keysI9_len] at hk
    refine L_reg [2] (fun K hK => ?_)
    simp [okFn_low]
    refine div91_ac (keysI9 d) _ (by rw [keysI9_len]; omega) (keysI9_ok h9) _ hk _ fun v' H' ho hE2 => ?_
    simp
    apply hK; clear hK K
    rw [dv_keysI9] at ho
    exact L_ret ⟨.inr rfl, _, rfl, h v' H' (ho.mono hE.1) (hE.trans hE2)⟩
end Go.Proofs.Ytjaefngmidllgaa.St
