/- The walk through all lists. -/
import Derived.Test.YtojblooaiojmcaaWeiss
import Derived.Test.YtojblooaiojmcaaWorks
import Derived.Test.YtojblooaiojmcaaPollak
import Derived.Test.YtojblooaiojmcaaCome
namespace Go.Proofs.Ytojblooaiojmcaa
open Go Go.Proofs.Ytojblooaiojmcaa.AX

theorem s_opcall_tmp {P : Program} {ρ : Operand → AV} (k : Nat) (xs : Array Operand) (ts : Array TypeId) : opCall P ρ (.call ⟨.value (.tmp k), xs, ts⟩) = (match ρ (.tmp k) with | .func (.func f) first cap => if okFn P f then some (f, first ++ xs.toList.map ρ ++ cap) else none | _ => none) := rfl

set_option maxRecDepth 100000 in
theorem all_ac (a c rn rm n m : Nat) (H : AH) (Q : AV → AH → Prop) (hn1 : 1 ≤ n) (hn : n ≤ 5) (hm : m ≤ n)
    (ha : H[a]? = some (.row [.bool true] 0 0 false)) (hc : H[c]? = some (.row [.int .i64 (0 : Nat)] 0 0 false)) (hrn : H[rn]? = some (.row [.int .i64 n] 0 0 false)) (hrm : H[rm]? = some (.row [.int .i64 m] 0 0 false))
    (hac : a ≠ c) (hna : rn ≠ a) (hnc : rn ≠ c) (hma : rm ≠ a) (hmc : rm ≠ c)
    (h : ∀ H', Keep2 a c H H' → H'[a]? = some (.row [.bool true] 0 0 false) → H'[c]? = some (.row [.int .i64 (tlF n m 0 : Nat)] 0 0 false) → Q (.tuple []) H') :
    AC Try.prog 43 [.int .i64 m, .int .i64 n, .func (.func 44) [] [.ptr a 0 0, .ptr rn 0 0, .ptr c 0 0, .ptr rm 0 0]] H Q := by
  have la := (List.getElem?_eq_some_iff.1 ha).1
  have lc := (List.getElem?_eq_some_iff.1 hc).1
  refine L_body 39 Try.func43 rfl rfl ?_
  refine L_reg [0, 1, 2, 6] (fun K hK => ?_)
  simp [make_z elz22 (show m ≤ 16777216 by omega)]
  apply hK; clear hK K
  have hr0 : (H ++ [AObj.row (List.replicate m (.int .i64 0)) 0 0 false])[H.length]? = some (.row (((List.replicate m 0).map Int.ofNat).map (.int .i64)) 0 0 false) := by simp
  have hE0 : Ext H (H ++ [AObj.row (List.replicate m (AV.int .i64 0)) 0 0 false]) := .push _ _
  generalize H ++ [AObj.row (List.replicate m (AV.int .i64 0)) 0 0 false] = H0 at *
  generalize hw : H.length = w at *
  refine L_block (L_loopV [] (fun k vs H' => ∃ l : List Nat, k = n ^ m - vl n l ∧ l.length = m ∧ (∀ x ∈ l, x < n) ∧ vs = [] ∧ Keep2 a c H H' ∧ H'[a]? = some (.row [.bool true] 0 0 false) ∧
    H'[c]? = some (.row [.int .i64 (rk n 0 l : Nat)] 0 0 false) ∧ H'[w]? = some (.row ((l.map Int.ofNat).map (.int .i64)) 0 0 false)) _ [] rfl
    ⟨List.replicate m 0, rfl, by simp, by intro x hx; rw [List.eq_of_mem_replicate hx]; omega, rfl, .of_ext hE0, hE0.row ha, by rw [rk_zero]; exact hE0.row hc, hr0⟩ ?_)
  rintro k _ H1 ⟨l, rfl, hl, hlw, rfl, k1, a1, c1, w1⟩
  refine L_block ?_
  refine L_reg [0, 1, 2, 6] (fun K hK => ?_)
  simp [s_opcall_tmp, okFn_low]
  rw [← hl]
  refine weiss1_ac a c rn rm w n m l _ _ hn1 hn hm hl hlw a1 c1 (k1.row hrn hna hnc) (k1.row hrm hma hmc) w1 hac hna hnc hma hmc (by omega) (by omega) (fun H2 k2 a2 c2 => ?_)
  rw [hl]
  have k2' := k1.trans k2
  have w2 := k2.row w1 (by omega) (by omega)
  simp
  apply hK; clear hK K
  refine L_reg [0, 1, 2, 6, 7] (fun K hK => ?_)
  simp [wrap_i64 (a := (m : Int) - 1) (by omega)]
  apply hK; clear hK K
  refine L_block (L_loopV [7] (fun k' vs H' => ∃ i : Nat, k' = i ∧ i ≤ m ∧ l = l.take i ++ List.replicate (m - i) (n - 1) ∧ vs = [.int .i64 ((i : Int) - 1)] ∧ Keep2 a c H H' ∧ H'[a]? = some (.row [.bool true] 0 0 false) ∧
    H'[c]? = some (.row [.int .i64 (rk n 0 l + sv n 0 l : Nat)] 0 0 false) ∧ H'[w]? = some (.row (((l.take i ++ List.replicate (m - i) 0).map Int.ofNat).map (.int .i64)) 0 0 false)) _ [.int .i64 ((m : Int) - 1)] rfl
    ⟨m, rfl, by omega, by simp [← hl], rfl, k2', a2, c2, by simpa [← hl] using w2⟩ ?_)
  rintro i _ H3 ⟨_, rfl, hi, hsp, rfl, k3, a3, c3, w3⟩
  cases i with
  | zero =>
    rw [List.take_zero, List.nil_append, Nat.sub_zero] at hsp
    refine L_reg [0, 1, 2, 6, 7, 25] (fun K hK => ?_)
    simp [pickV]
    apply hK; clear hK K
    refine L_false (by simp) (L_exit ?_)
    refine L_reg [0, 1, 2, 6, 7, 32] (fun K hK => ?_)
    simp
    apply hK; clear hK K
    refine L_true (by simp) ?_
    have ht := rk_top hn1 m 0
    rw [← hsp] at ht
    rw [ht] at c3
    exact L_ret ⟨.inr rfl, _, rfl, h _ k3 a3 c3⟩
  | succ q =>
    have hql : q < l.length := by omega
    have hqm : q < m := by omega
    rw [show ((q + 1 : Nat) : Int) - 1 = (q : Int) by omega]
    have htk := List.take_succ_eq_append_getElem hql
    have hwq := hlw l[q] (List.getElem_mem hql)
    rw [htk] at hsp w3
    have htw : ∀ x ∈ l.take q, x < n := fun x hx => hlw x (List.mem_of_mem_take hx)
    have hlen : (l.take q).length = q := by simp; omega
    generalize l[q] = y at *
    generalize hp : l.take q = p at *
    have hsp2 : l = p ++ y :: List.replicate (m - (q + 1)) (n - 1) := by rw [hsp]; simp
    have hcell : (((p ++ [y] ++ List.replicate (m - (q + 1)) 0).map Int.ofNat).map (AV.int .i64))[q]? = some (.int .i64 y) := by
      rw [List.append_assoc, List.map_append, List.map_append, List.getElem?_append_right (by simp [hlen])]
      simp [hlen]
    have l3 : ld H3 w q 0 = some (.int .i64 y) := by rw [ld_row w3, hcell]; rfl
    have hset : ∀ z : Nat, (((p ++ [y] ++ List.replicate (m - (q + 1)) 0).map Int.ofNat).map (AV.int .i64)).set q (.int .i64 z) = ((p ++ z :: List.replicate (m - (q + 1)) 0).map Int.ofNat).map (.int .i64) := by
      intro z
      simp [← hlen]
    have hst : ∀ z : Nat, storeV Try.prog 3 H3 (.ptr w q 0) (.int .i64 z) = some (none, H3.set w (.row (((p ++ z :: List.replicate (m - (q + 1)) 0).map Int.ofNat).map (.int .i64)) 0 0 false)) := by
      intro z
      have := store_row (P := Try.prog) (u := 3) (p := q) sc3 (x := .int .i64 z) (y := .int .i64 y) rfl w3 (by rw [hcell]; rfl)
      rwa [hset, Nat.zero_min] at this
    have hk4 : ∀ o, Keep2 a c H (H3.set w o) ∧ (H3.set w o)[a]? = some (.row [.bool true] 0 0 false) ∧ (H3.set w o)[c]? = some (.row [.int .i64 (rk n 0 l + sv n 0 l : Nat)] 0 0 false) ∧ (H3.set w o)[w]? = some o := by
      intro o
      refine ⟨⟨by simp; exact k3.1, fun j hj h1 h2 => by rw [List.getElem?_set_ne (by omega)]; exact k3.2 j hj h1 h2⟩, by rw [List.getElem?_set_ne (by omega)]; exact a3, by rw [List.getElem?_set_ne (by omega)]; exact c3, get_set w3⟩
    refine L_reg [0, 1, 2, 6, 7, 25] (fun K hK => ?_)
    simp [pickV, hqm, l3, wrap_i64 (a := (n : Int) - 1) (by omega)]
    apply hK; clear hK K
    refine L_dec ((y : Int) = (n : Int) - 1) (by simp; rfl) (fun he => ?_) (fun hne => L_exit ?_)
    · obtain ⟨hk, ha4, hc4, hw4⟩ := hk4 (.row (((p ++ 0 :: List.replicate (m - (q + 1)) 0).map Int.ofNat).map (.int .i64)) 0 0 false)
      have hs0 := hst 0
      generalize H3.set w (.row (((p ++ 0 :: List.replicate (m - (q + 1)) 0).map Int.ofNat).map (.int .i64)) 0 0 false) = H4 at hs0 hk ha4 hc4 hw4
      refine L_block ?_
      refine L_reg [0, 1, 2, 6, 7] (fun K hK => ?_)
      simp at hs0
      simp [hqm, hs0]
      apply hK; clear hK K
      refine L_reg [0, 1, 2, 6, 7] (fun K hK => ?_)
      simp [wrap_i64 (a := (q : Int) - 1) (by omega)]
      apply hK; clear hK K
      have hy : y = n - 1 := by omega
      have hmq : m - q = (m - (q + 1)) + 1 := by omega
      refine ⟨q, [.int .i64 ((q : Int) - 1)], by omega, by simp, q, rfl, by omega, by rw [hp, hmq, List.replicate_succ, ← hy]; rw [← hy] at hsp2; exact hsp2, rfl, hk, ha4, hc4, ?_⟩
      rw [hp, hmq, List.replicate_succ]
      simpa using hw4
    · have hyn : y + 1 < n := by omega
      obtain ⟨hk, ha4, hc4, hw4⟩ := hk4 (.row (((p ++ (y + 1) :: List.replicate (m - (q + 1)) 0).map Int.ofNat).map (.int .i64)) 0 0 false)
      have hs0 := hst (y + 1)
      generalize H3.set w (.row (((p ++ (y + 1) :: List.replicate (m - (q + 1)) 0).map Int.ofNat).map (.int .i64)) 0 0 false) = H4 at hs0 hk ha4 hc4 hw4
      refine L_reg [0, 1, 2, 6, 7, 32] (fun K hK => ?_)
      simp
      apply hK; clear hK K
      refine L_false (by simp) ?_
      refine L_reg [0, 1, 2, 6] (fun K hK => ?_)
      simp at hs0
      simp [hqm, l3, wrap_i64 (a := (y : Int) + 1) (by omega), hs0]
      apply hK; clear hK K
      have hrk := rk_next hn1 y (m - (q + 1)) p 0
      have hvl := vl_next hn1 y (m - (q + 1)) p
      rw [← hsp2] at hrk hvl
      rw [hrk] at hc4
      have hl' : (p ++ (y + 1) :: List.replicate (m - (q + 1)) 0).length = m := by simp [hlen]; omega
      have hlw' : ∀ x ∈ p ++ (y + 1) :: List.replicate (m - (q + 1)) 0, x < n := by
        intro x hx
        rcases List.mem_append.1 hx with h1 | h1
        · exact htw x h1
        · rcases List.mem_cons.1 h1 with h1 | h1
          · omega
          · rw [List.eq_of_mem_replicate h1]; omega
      have hlt := vl_lt hn1 hlw'
      rw [hl'] at hlt
      exact ⟨n ^ m - vl n (p ++ (y + 1) :: List.replicate (m - (q + 1)) 0), [], by omega, by simp, _, rfl, hl', hlw', rfl, hk, ha4, hc4, by simpa using hw4⟩
end Go.Proofs.Ytojblooaiojmcaa

/- The walk of the law of all lists. -/
namespace Go.Proofs.Ytojblooaiojmcaa
open Go Go.Proofs.Ytojblooaiojmcaa.AX

theorem power_ac (b e : Nat) (H : AH) (Q : AV → AH → Prop) (hb : b ≤ 6) (he : e ≤ 5) (h : Q (.int .i64 (b ^ e : Nat)) H) : AC Try.prog 47 [.int .i64 b, .int .i64 e] H Q := by
  have hpw : ∀ i, i ≤ 5 → b ^ i ≤ 7776 := fun i hi => Nat.le_trans (Nat.pow_le_pow_left hb i) (Nat.le_trans (Nat.pow_le_pow_right (by decide) hi) (by decide))
  refine L_body 14 Try.func47 rfl rfl ?_
  refine L_reg [0, 1] (fun K hK => ?_)
  simp
  apply hK; clear hK K
  refine L_reg [0, 1, 5] (fun K hK => ?_)
  simp
  apply hK; clear hK K
  refine L_reg [0, 5, 6, 7] (fun K hK => ?_)
  simp
  apply hK; clear hK K
  refine L_block (L_loopV [5, 7] (fun k vs H' => ∃ i : Nat, k = e - i ∧ i ≤ e ∧ vs = [.int .i64 (b ^ i : Nat), .int .i64 i] ∧ H = H') _ [.int .i64 (1 : Nat), .int .i64 (0 : Nat)] rfl ⟨0, rfl, by omega, rfl, rfl⟩ ?_)
  rintro k _ _ ⟨i, rfl, hi, rfl, rfl⟩
  refine L_reg [0, 5, 6, 7, 8] (fun K hK => ?_)
  simp
  apply hK; clear hK K
  refine L_dec (i < e) (by simp) (fun hlt => ?_) (fun hge => L_exit ?_)
  · have h1 := hpw (i + 1) (by omega)
    have hx : (b : Int) ^ i * (b : Int) = ((b ^ (i + 1) : Nat) : Int) := by rw [Nat.pow_succ]; simp
    have hwr : IntKind.i64.wrap ((b : Int) ^ i * (b : Int)) = ((b ^ (i + 1) : Nat) : Int) := by
      rw [hx]; exact wrap_i64 (by omega)
    refine L_block ?_
    refine L_reg [0, 5, 6, 7] (fun K hK => ?_)
    simp [hwr, -Int.natCast_pow]
    try simp [hwr]
    apply hK; clear hK K
    refine L_reg [0, 5, 6, 7] (fun K hK => ?_)
    simp [wrap_i64 (a := (i : Int) + 1) (by omega)]
    apply hK; clear hK K
    exact ⟨e - (i + 1), [.int .i64 (b ^ (i + 1) : Nat), .int .i64 (i + 1 : Nat)], by omega, by simp, i + 1, rfl, by omega, rfl, rfl⟩
  · have : i = e := by omega
    subst this
    refine L_reg [4] (fun K hK => ?_)
    simp
    apply hK; clear hK K
    exact L_ret ⟨.inr rfl, _, rfl, by simpa using h⟩
end Go.Proofs.Ytojblooaiojmcaa

/- The law of all lists, walked. -/
namespace Go.Proofs.Ytojblooaiojmcaa
open Go Go.Proofs.Ytojblooaiojmcaa.AX

theorem az3 : zeroT Try.prog 3 = some [.int .i64 0] := by kernel_rfl
theorem az4 : zeroT Try.prog 4 = some [.bool false] := by kernel_rfl
theorem cell3 (H : AH) (v : Int) : storeV Try.prog 3 (H ++ [.row [.int .i64 0] 0 0 false]) (.ptr H.length 0 0) (.int .i64 v) = some (none, H ++ [.row [.int .i64 v] 0 0 false]) := by
  have := store_last (P := Try.prog) (H := H) (c := [.int .i64 0]) (v := 0) (s := 0) (p := 0) sc3 (x := .int .i64 v) (y := .int .i64 0) rfl rfl
  simpa using this
theorem cell4 (H : AH) (v : Bool) : storeV Try.prog 4 (H ++ [.row [.bool false] 0 0 false]) (.ptr H.length 0 0) (.bool v) = some (none, H ++ [.row [.bool v] 0 0 false]) := by
  have := store_last (P := Try.prog) (H := H) (c := [.bool false]) (v := 0) (s := 0) (p := 0) sc4 (x := .bool v) (y := .bool false) rfl rfl
  simpa using this

set_option maxRecDepth 100000 in
theorem dockWeiss_ac (x y : Nat) (H : AH) (hx : x < 256) (hy : y < 256) : AC Try.prog 7 [.int .u8 x, .int .u8 y] H fun u _ => u = .bool true := by
  have hrem : (x : Int).tmod 5 = ((x % 5 : Nat) : Int) := rem_nat x 5
  have hx5 : x % 5 < 5 := Nat.mod_lt _ (by decide)
  obtain ⟨n, hn⟩ : ∃ n, n = 1 + x % 5 := ⟨_, rfl⟩
  have hrem2 := rem_nat y (n + 1)
  have hmn : y % (n + 1) < n + 1 := Nat.mod_lt _ (by omega)
  obtain ⟨m, hm⟩ : ∃ m, m = y % (n + 1) := ⟨_, rfl⟩
  rw [← hm] at hrem2 hmn
  simp only [Int.natCast_add, Int.natCast_one] at hrem2
  have hn1 : 1 ≤ n := by omega
  have hn5 : n ≤ 5 := by omega
  have hne : ((n : Int) + 1) ≠ 0 := by omega
  have hwn : IntKind.i64.wrap (1 + ((x % 5 : Nat) : Int)) = (n : Int) := by rw [wrap_i64 (by omega)]; omega
  refine L_body 74 Try.func7 rfl rfl ?_
  refine L_reg [0, 1] (fun K hK => ?_)
  simp
  apply hK; clear hK K
  refine L_reg [1, 5] (fun K hK => ?_)
  simp [alloc_z az3, wrap_i64 (a := (x : Int)) (by omega), hrem, hwn, cell3, -Int.natCast_emod]
  apply hK; clear hK K
  have r1 : (H ++ [AObj.row [.int .i64 (n : Int)] 0 0 false])[H.length]? = some (.row [.int .i64 (n : Int)] 0 0 false) := by simp
  have b1 : H.length < (H ++ [AObj.row [.int .i64 (n : Int)] 0 0 false]).length := by simp
  generalize H ++ [AObj.row [.int .i64 (n : Int)] 0 0 false] = H1 at r1 b1 ⊢
  generalize H.length = p1 at r1 b1 ⊢
  have d1 : ld H1 p1 0 0 = some (.int .i64 n) := by rw [ld_row r1]; rfl
  refine L_reg [5, 6] (fun K hK => ?_)
  simp [alloc_z az3, d1, wrap_i64 (a := (y : Int)) (by omega), wrap_i64 (a := (n : Int) + 1) (by omega), hne, hrem2, cell3]
  apply hK; clear hK K
  have r2 : (H1 ++ [AObj.row [.int .i64 (m : Int)] 0 0 false])[H1.length]? = some (.row [.int .i64 (m : Int)] 0 0 false) := by simp
  have b2 : H1.length < (H1 ++ [AObj.row [.int .i64 (m : Int)] 0 0 false]).length := by simp
  have e2 : Ext H1 (H1 ++ [AObj.row [.int .i64 (m : Int)] 0 0 false]) := .push _ _
  generalize H1 ++ [AObj.row [.int .i64 (m : Int)] 0 0 false] = H2 at r2 b2 e2 ⊢
  have r1 := e2.row r1
  have n12 : p1 < H1.length := b1
  generalize H1.length = p2 at r2 b2 n12 ⊢
  refine L_reg [5, 6, 7] (fun K hK => ?_)
  simp [alloc_z az3, cell3]
  apply hK; clear hK K
  have r3 : (H2 ++ [AObj.row [.int .i64 (0 : Nat)] 0 0 false])[H2.length]? = some (.row [.int .i64 (0 : Nat)] 0 0 false) := by simp
  have b3 : H2.length < (H2 ++ [AObj.row [.int .i64 (0 : Nat)] 0 0 false]).length := by simp
  have e3 : Ext H2 (H2 ++ [AObj.row [.int .i64 (0 : Nat)] 0 0 false]) := .push _ _
  simp only [Int.natCast_zero] at r3 b3 e3
  generalize H2 ++ [AObj.row [.int .i64 0] 0 0 false] = H3 at r3 b3 e3 ⊢
  have r1 := e3.row r1
  have r2 := e3.row r2
  have n23 : p2 < H2.length := b2
  generalize H2.length = p3 at r3 b3 n23 ⊢
  refine L_reg [5, 6, 7, 8] (fun K hK => ?_)
  simp [alloc_z az4, cell4]
  apply hK; clear hK K
  have r4 : (H3 ++ [AObj.row [.bool true] 0 0 false])[H3.length]? = some (.row [.bool true] 0 0 false) := by simp
  have e4 : Ext H3 (H3 ++ [AObj.row [.bool true] 0 0 false]) := .push _ _
  generalize H3 ++ [AObj.row [.bool true] 0 0 false] = H4 at r4 e4 ⊢
  have r1 := e4.row r1
  have r2 := e4.row r2
  have r3 := e4.row r3
  have n34 : p3 < H3.length := b3
  generalize H3.length = p4 at r4 n34 ⊢
  have d1 : ld H4 p1 0 0 = some (.int .i64 n) := by rw [ld_row r1]; rfl
  have d2 : ld H4 p2 0 0 = some (.int .i64 m) := by rw [ld_row r2]; rfl
  refine L_reg [5, 6, 7, 8] (fun K hK => ?_)
  simp [okFn_low, d1, d2]
  refine all_ac p4 p3 p1 p2 n m _ _ hn1 hn5 (by omega) r4 r3 r1 r2 (by omega) (by omega) (by omega) (by omega) (by omega) (fun H5 k5 a5 c5 => ?_)
  simp
  apply hK; clear hK K
  have r1 := k5.row r1 (by omega) (by omega)
  have r2 := k5.row r2 (by omega) (by omega)
  have hform := formula hn5 (show m ≤ n by omega)
  have d1 : ld H5 p1 0 0 = some (.int .i64 n) := by rw [ld_row r1]; rfl
  have d2 : ld H5 p2 0 0 = some (.int .i64 m) := by rw [ld_row r2]; rfl
  have hce := cartsE_of hn1 (show n ≤ 8 by omega) (show m ≤ n by omega)
  refine L_reg [5, 6, 7, 8, 9, 10] (fun K hK => ?_)
  simp [okFn_low, d1, d2]
  refine Count_ac n m _ _ (fun H6 e6 => ?_)
  simp [countS, hce]
  apply hK; clear hK K
  have r1 := e6.row r1
  have r2 := e6.row r2
  have a5 := e6.row a5
  have c5 := e6.row c5
  have d1 : ld H6 p1 0 0 = some (.int .i64 n) := by rw [ld_row r1]; rfl
  have d2 : ld H6 p2 0 0 = some (.int .i64 m) := by rw [ld_row r2]; rfl
  have d3 : ld H6 p3 0 0 = some (.int .i64 (tlF n m 0 : Nat)) := by rw [ld_row c5]; rfl
  have hae : atE n m (tlF n m 0 : Nat) = 1 := by
    unfold atE
    rw [hce]
    simp
  refine L_reg [5, 6, 7, 8, 9, 10, 12] (fun K hK => ?_)
  simp [okFn_low, d1, d2, d3]
  refine At_ac n m _ _ _ (fun v7 H7 _ e7 => ?_)
  simp [hae]
  apply hK; clear hK K
  have r1 := e7.row r1
  have r2 := e7.row r2
  have a5 := e7.row a5
  have c5 := e7.row c5
  have d1 : ld H7 p1 0 0 = some (.int .i64 n) := by rw [ld_row r1]; rfl
  have d2 : ld H7 p2 0 0 = some (.int .i64 m) := by rw [ld_row r2]; rfl
  have d3 : ld H7 p3 0 0 = some (.int .i64 (tlF n m 0 : Nat)) := by rw [ld_row c5]; rfl
  have d4 : ld H7 p4 0 0 = some (.bool true) := by rw [ld_row a5]; rfl
  refine L_reg [5, 6, 7, 8, 9, 10, 12, 13] (fun K hK => ?_)
  simp
  apply hK; clear hK K
  refine L_reg [5, 6, 7, 8, 9, 10, 12, 13, 41] (fun K hK => ?_)
  simp [d2]
  apply hK; clear hK K
  refine L_dec ((0 : Int) < (m : Int)) (by simp) (fun hlt => ?_) (fun hge => ?_)
  · have hm0 : m ≠ 0 := by omega
    rw [if_neg hm0] at hform
    have hpw : (n + 1) ^ (m - 1) ≤ 7776 := Nat.le_trans (Nat.pow_le_pow_left (show n + 1 ≤ 6 by omega) _) (Nat.le_trans (Nat.pow_le_pow_right (by decide) (show m - 1 ≤ 5 by omega)) (by decide))
    have hmul : (n + 1 - m) * (n + 1) ^ (m - 1) ≤ 6 * 7776 := Nat.mul_le_mul (by omega) hpw
    have hpc : AC Try.prog 47 [.int .i64 ((n : Int) + 1), .int .i64 ((m : Int) - 1)] H7 fun v' H' => v' = .int .i64 (((n + 1) ^ (m - 1) : Nat) : Int) ∧ H' = H7 := by
      have := power_ac (n + 1) (m - 1) H7 (fun v' H' => v' = .int .i64 (((n + 1) ^ (m - 1) : Nat) : Int) ∧ H' = H7) (by omega) (by omega) ⟨rfl, rfl⟩
      rwa [show (((n + 1 : Nat) : Int)) = (n : Int) + 1 by omega, show ((m - 1 : Nat) : Int) = (m : Int) - 1 by omega] at this
    generalize hpow : (n + 1) ^ (m - 1) = pw at *
    have hprod : ((n : Int) + 1 - (m : Int)) * (pw : Int) = ((tlF n m 0 : Nat) : Int) := by
      rw [hform, Int.natCast_mul]
      congr 1
      omega
    have hb : (tlF n m 0 : Nat) ≤ 6 * 7776 := by rw [hform]; exact hmul
    refine L_regQ mixed [7, 8, 9, 10, 12, 13] (by kernel_rfl) (fun K hK => ?_)
    simp [okFn_low, d1, d2, wrap_i64 (a := (n : Int) + 1) (by omega), wrap_i64 (a := (n : Int) + 1 - (m : Int)) (by omega), wrap_i64 (a := (m : Int) - 1) (by omega)]
    refine ⟨_, hpc, ?_⟩
    simp [hprod, wrap_i64 (a := ((tlF n m 0 : Nat) : Int)) (by omega)]
    apply hK; clear hK K
    refine L_reg [4] (fun K hK => ?_)
    simp [okFn_low, d3, d4, pickV]
    refine works_ac _ _ ?_
    simp [pickV]
    apply hK; clear hK K
    exact L_ret ⟨.inr rfl, _, rfl, by simp⟩
  · have hm0 : m = 0 := by omega
    rw [if_pos hm0] at hform
    rw [hform] at d3 ⊢
    refine L_reg [4] (fun K hK => ?_)
    simp [okFn_low, d3, d4, pickV]
    refine works_ac _ _ ?_
    simp [pickV]
    apply hK; clear hK K
    exact L_ret ⟨.inr rfl, _, rfl, by simp⟩

theorem u8_of {a : Int} (h : (Lit.int .u8 a).wf = true) : ∃ n : Nat, a = n ∧ n < 256 := by
  have h1 : 0 ≤ a ∧ a ≤ 255 := by
    simp [Lit.wf, IntKind.has, IntKind.min, IntKind.max, IntKind.bits, IntKind.signed] at h
    omega
  exact ⟨a.toNat, by omega, by omega⟩
theorem dockWeiss_int (a b : Int) (ha : (Lit.int .u8 a).wf = true) (hb : (Lit.int .u8 b).wf = true) (H : AH) : AC Try.prog 7 [.int .u8 a, .int .u8 b] H fun u _ => u = .bool true := by
  obtain ⟨x, rfl, hx⟩ := u8_of ha
  obtain ⟨y, rfl, hy⟩ := u8_of hb
  exact dockWeiss_ac x y H hx hy
end Go.Proofs.Ytojblooaiojmcaa
