/- Dock: the counting of lists of wishes. -/
import Derived.Test.YtojblooaiojmcaaTails
namespace Go.Proofs.Ytojblooaiojmcaa
open Go Go.Proofs.Ytojblooaiojmcaa.AX

theorem shl8 : ∀ n : Fin 9, IntKind.i64.wrap ((1 : Int) * 2 ^ (min ((n.val : Int)).toNat IntKind.i64.bits)) = ((2 ^ n.val : Nat) : Int) := by decide
theorem shl1 {t : TypeId} {l : Bool} {n N : Nat} (hn : n ≤ 8) (hN : 2 ^ n = N) : binV Try.prog .shl t l (.int .i64 1) (.int .i64 (n : Int)) = some (.int .i64 (N : Int)) := by
  rw [b_shl (Int.natCast_nonneg n)]
  have := shl8 ⟨n, by omega⟩
  simp only at this
  rw [this, hN]
theorem pow_le256 {n : Nat} (hn : n ≤ 8) : 2 ^ n ≤ 256 := Nat.pow_le_pow_right (n := 2) (by decide) hn
theorem aRead_load {P : Program} {ρ : Operand → AV} {H : AH} {t : TypeId} {x : Operand} : aRead P ρ H (.load t x) = loadV P t H (ρ x) := rfl
theorem res71 {e : Env} {H : AH} {r : Nat} {f : Nat → Nat} (h4 : eget e 4 = .ptr r 0 0) (hrow : H[r]? = some (.row (tailsV f) 0 0 false)) : aResults Try.prog Try.f71 e H = some (.agg (tailsV f)) := by
  have hr : Try.f71.results.toList = [.cell 4 78] := rfl
  have hl : aRead Try.prog (oval e) H (.load 78 (.tmp 4)) = some (.agg (tailsV f)) := by
    rw [aRead_load, s_oval_tmp, h4]
    exact load_agg (n := 256) (by kernel_rfl) hrow (tailsV_len f) (fun v hv => by obtain ⟨b, -, rfl⟩ := List.mem_map.1 hv; simp)
  simp only [aResults, hr, aResList, aRes1, hl, Option.bind_some, Option.map_some]
theorem stn_all {H : AH} {r : Nat} {c : List AV} {v s : Nat} {vs : List AV} (hr : H[r]? = some (.row c v s false)) (hl : vs.length = c.length) (h1 : vs.all AV.one = true) (hk : ∀ x ∈ c, x ≠ .undef) (hne : vs ≠ []) : stn H r v vs 0 = some (H.set r (.row vs v (min s 0) false)) := by
  cases vs with
  | nil => exact absurd rfl hne
  | cons x vs =>
    have ht := takeKnown_all c hk
    have h2 : (takeKnown (x :: vs).length (c.drop 0)).isSome = true := by rw [hl, List.drop_zero, ht]; rfl
    simp only [stn, hr]
    rw [if_pos ⟨trivial, trivial, h1, h2⟩]
    congr 3
    rw [List.take_zero, List.nil_append, List.drop_of_length_le (by omega), List.append_nil]
theorem tailsV_known {f : Nat → Nat} : ∀ x ∈ tailsV f, x ≠ .undef := fun v hv => by obtain ⟨b, -, rfl⟩ := List.mem_map.1 hv; simp
theorem store78 {H : AH} {r s : Nat} {f g : Nat → Nat} (hr : H[r]? = some (.row (tailsV f) 0 s false)) : storeV Try.prog 78 H (.ptr r 0 0) (.agg (tailsV g)) = some (none, H.set r (.row (tailsV g) 0 0 false)) := by
  have hi : (Try.prog.info? 78).map (·.size) = some 256 := by kernel_rfl
  cases h78 : Try.prog.info? 78 with
  | none => rw [h78] at hi; cases hi
  | some i =>
    rw [h78] at hi
    have hsz : i.size = 256 := by simpa using hi
    have hne : tailsV g ≠ [] := fun h => by have := tailsV_len g; rw [h] at this; cases this
    have hst := stn_all (vs := tailsV g) hr (by rw [tailsV_len, tailsV_len]) (by rw [List.all_eq_true]; intro x hx; obtain ⟨b, -, rfl⟩ := List.mem_map.1 hx; rfl) tailsV_known hne
    rw [Nat.min_zero] at hst
    simp only [storeV, h78, AV.isU, acells, tailsV_len, hsz, Bool.false_or, bne_self_eq_false, Bool.false_eq_true, if_false, hst, Option.map_some]

theorem tlS_top {n m s : Nat} (h : 2 ^ n ≤ s) : tlS n m s = 0 := by rw [tlS, if_neg (by omega)]

set_option maxRecDepth 100000 in
theorem countTails_ac (n m : Nat) (H : AH) (Q : AV → AH → Prop) (hn : n ≤ 8) (hm : m ≤ n) (h : ∀ H', Ext H H' → Q (.agg (tailsV (tlS n m))) H') : AC Try.prog 71 [.int .i64 n, .int .i64 m] H Q := by
  have hN := pow_le256 hn
  have htop := fun s => tlS_top (n := n) (m := m) (s := s)
  obtain ⟨N, hNN⟩ : ∃ N, 2 ^ n = N := ⟨_, rfl⟩
  rw [hNN] at hN
  refine L_body 46 Try.func71 rfl rfl ?_
  refine L_reg [0, 1, 4] (fun K hK => ?_)
  simp [alloc_z z78]
  apply hK; clear hK K
  have hq0 : (H ++ [AObj.row (tailsV fun _ => 0) 0 0 false])[H.length]? = some (.row (tailsV fun _ => 0) 0 0 false) := by simp
  have hqE : Ext H (H ++ [AObj.row (tailsV fun _ => 0) 0 0 false]) := .push _ _
  have hql : (H ++ [AObj.row (tailsV fun _ => 0) 0 0 false]).length = H.length + 1 := by simp
  generalize H ++ [AObj.row (tailsV fun _ => 0) 0 0 false] = H0 at *
  refine L_reg [0, 1, 4, 5] (fun K hK => ?_)
  simp [alloc_z z78]
  apply hK; clear hK K
  rw [hql]
  have hp1 : (H0 ++ [AObj.row (tailsV fun _ => 0) 0 0 false])[H.length + 1]? = some (.row (tailsV fun _ => 0) 0 0 false) := by rw [← hql]; simp
  have hp0 := (Ext.push H0 [AObj.row (tailsV fun _ => 0) 0 0 false]).row hq0
  have hpE := hqE.trans (.push H0 [AObj.row (tailsV fun _ => 0) 0 0 false])
  generalize H0 ++ [AObj.row (tailsV fun _ => 0) 0 0 false] = H00 at *
  refine L_reg [0, 1, 4, 5, 6] (fun K hK => ?_)
  simp [shl1 hn hNN, wrap_i64 (a := (N : Int) - 1) (by omega), -b_shl]
  apply hK; clear hK K
  refine L_block (L_loopV [6] (fun k vs H' => ∃ c : Nat, k = c ∧ c ≤ N ∧ vs = [.int .i64 ((c : Int) - 1)] ∧ Ext H H' ∧ H'[H.length]? = some (.row (tailsV fun _ => 0) 0 0 false) ∧ H'[H.length + 1]? = some (.row (tailsV fun s => if c ≤ s then tlS n m s else 0) 0 0 false)) _ [.int .i64 ((N : Int) - 1)] rfl
    ⟨N, rfl, by omega, rfl, hpE, hp0, by
      rw [hp1]
      congr 2
      apply tailsV_congr
      intro b _
      split
      · rw [htop b (by omega)]
      · rfl⟩ ?_)
  rintro k _ H1 ⟨c, rfl, hc, rfl, hE, hr0, hr1⟩
  have hlen1 : H.length + 1 < H1.length := (List.getElem?_eq_some_iff.1 hr1).1
  refine L_reg [0, 1, 4, 5, 6, 13] (fun K hK => ?_)
  simp
  apply hK; clear hK K
  cases k with
  | zero =>
    refine L_false (by simp) (L_exit ?_)
    refine L_reg [4] (fun K hK => ?_)
    have hl := load_agg (P := Try.prog) (t := 78) (n := 256) (by kernel_rfl) hr1 (tailsV_len _) tailsV_known
    simp only [Nat.zero_le, if_true] at hl
    have hst := store78 (g := tlS n m) hr0
    simp [hl, hst]
    apply hK; clear hK K
    refine L_ret ⟨.inr rfl, _, res71 (r := H.length) rfl (get_set hr0), h _ (hE.set _ (Nat.le_refl _))⟩
  | succ c =>
    refine L_true (by simp; omega) ?_
    have e : ((c + 1 : Nat) : Int) - 1 = c := by omega
    simp only [e]
    have hcont : ∀ H2, Ext H H2 → H2[H.length]? = some (.row (tailsV fun _ => 0) 0 0 false) → H2[H.length + 1]? = some (.row (tailsV fun s => if c ≤ s then tlS n m s else 0) 0 0 false) → ∃ n' vs', n' < c + 1 ∧ ([(0, AV.int .i64 n), (1, .int .i64 m), (4, .ptr H.length 0 0), (5, .ptr (H.length + 1) 0 0), (6, .int .i64 ((c : Int) - 1))] : Env) = esets [(0, .int .i64 n), (1, .int .i64 m), (4, .ptr H.length 0 0), (5, .ptr (H.length + 1) 0 0), (6, .int .i64 ((N : Int) - 1))] [6] vs' ∧
        ∃ c : Nat, n' = c ∧ c ≤ N ∧ vs' = [.int .i64 ((c : Int) - 1)] ∧ Ext H H2 ∧ H2[H.length]? = some (.row (tailsV fun _ => 0) 0 0 false) ∧ H2[H.length + 1]? = some (.row (tailsV fun s => if c ≤ s then tlS n m s else 0) 0 0 false) :=
      fun H2 h1 h2 h3 => ⟨c, [.int .i64 ((c : Int) - 1)], by omega, by simp, c, rfl, by omega, rfl, h1, h2, h3⟩
    have hc256 : c < 256 := by omega
    refine L_block ?_
    refine L_reg [0, 1, 4, 5, 6, 7] (fun K hK => ?_)
    simp [okFn_low, wrapN64 (show c < 2 ^ 64 by omega)]
    refine ones_ac c _ _ hc256 ?_
    simp
    apply hK; clear hK K
    refine L_reg [0, 1, 4, 5, 6, 7, 21] (fun K hK => ?_)
    simp
    apply hK; clear hK K
    have hrow' : ∀ {g : Nat → Nat}, g c = tlS n m c → (∀ b, b ≠ c → g b = if c + 1 ≤ b then tlS n m b else 0) → tailsV g = tailsV fun s => if c ≤ s then tlS n m s else 0 := by
      intro g h1 h2
      apply tailsV_congr
      intro b _
      by_cases hb : b = c
      · subst hb; rw [h1, if_pos (Nat.le_refl _)]
      · rw [h2 b hb]
        by_cases h3 : c + 1 ≤ b
        · rw [if_pos h3, if_pos (by omega)]
        · rw [if_neg h3, if_neg (by omega)]
    rcases Nat.lt_trichotomy (popc c) m with hp | hp | hp
    · refine L_false (by simp; omega) ?_
      refine L_reg [0, 1, 4, 5, 6, 26] (fun K hK => ?_)
      simp
      apply hK; clear hK K
      refine L_false (by simp; omega) ?_
      refine L_reg [0, 1, 4, 5, 6, 27, 28] (fun K hK => ?_)
      simp
      apply hK; clear hK K
      obtain ⟨k, hk⟩ : ∃ k, m - popc c = k + 1 := ⟨m - popc c - 1, by omega⟩
      let g : Nat → Nat := fun w => if ff c (n - w) w < n then tlF n k (c ||| 2 ^ ff c (n - w) w) else 0
      have hg8 : ∀ w, g w ≤ 8 ^ k := by
        intro w
        show (if _ then _ else _) ≤ _
        split
        · exact tlF_le hn k _
        · exact Nat.zero_le _
      have hk7 : 8 ^ k ≤ 2097152 := Nat.le_trans (Nat.pow_le_pow_right (by decide) (show k ≤ 7 by omega)) (by decide)
      have hsum : ∀ w, w ≤ 8 → sW g w ≤ 16777216 := by
        intro w hw
        have h1 := sW_le hg8 w
        have h2 : w * 8 ^ k ≤ 8 * 2097152 := Nat.mul_le_mul hw hk7
        omega
      have hfin : sW g n = tlS n m c := by
        rw [tlS, if_pos ⟨by omega, by omega⟩, hk]; rfl
      refine L_block (L_loopV [28] (fun k vs H' => ∃ w : Nat, k = n - w ∧ w ≤ n ∧ vs = [.int .i64 w] ∧ Ext H H' ∧ H'[H.length]? = some (.row (tailsV fun _ => 0) 0 0 false) ∧ H'[H.length + 1]? = some (.row (tailsV fun s => if s = c then sW g w else if c + 1 ≤ s then tlS n m s else 0) 0 0 false)) _ [.int .i64 (0 : Nat)] rfl
        ⟨0, rfl, by omega, rfl, hE, hr0, by
          rw [hr1]
          congr 2
          apply tailsV_congr
          intro b _
          by_cases hb : b = c
          · subst hb; rw [if_neg (by omega), if_pos rfl]; rfl
          · rw [if_neg hb]⟩ ?_)
      rintro k2 _ H2 ⟨w, rfl, hw, rfl, hE2, hr02, hr12⟩
      refine L_reg [0, 1, 4, 5, 6, 27, 28, 29] (fun K hK => ?_)
      simp
      apply hK; clear hK K
      refine L_dec (w < n) (by simp) (fun hwn => ?_) (fun hwn => L_exit ?_)
      · refine L_block ?_
        refine L_reg [0, 1, 4, 5, 6, 8, 27, 28] (fun K hK => ?_)
        simp
        apply hK; clear hK K
        have hld : ld H2 (H.length + 1) c 0 = some (.int .i64 (sW g w : Nat)) := by rw [ld_row hr12, tailsV_get _ hc256]; simp
        have hs1 := hsum w (by omega)
        have hs2 := hsum (w + 1) (by omega)
        rw [sW] at hs2
        obtain ⟨f1, f2, f3, f4⟩ := ff_spec c (n - w) w
        rw [show w + (n - w) = n by omega] at f2 f4
        have hgw : g w = if ff c (n - w) w < n then tlF n k (c ||| 2 ^ ff c (n - w) w) else 0 := rfl
        generalize hb : ff c (n - w) w = b at *
        have hstep : ∀ H3, Ext H2 H3 → ∃ H4, storeV Try.prog 3 H3 (.ptr (H.length + 1) c 0) (.int .i64 ((sW g w + g w : Nat) : Int)) = some (none, H4) ∧ Ext H H4 ∧ H4[H.length]? = some (.row (tailsV fun _ => 0) 0 0 false) ∧ H4[H.length + 1]? = some (.row (tailsV fun s => if s = c then sW g (w + 1) else if c + 1 ≤ s then tlS n m s else 0) 0 0 false) := by
          intro H3 hE3
          have hrow3 := hE3.row hr12
          have hst := store_row (P := Try.prog) (u := 3) (p := c) sc3 (x := .int .i64 ((sW g w + g w : Nat) : Int)) (y := .int .i64 (sW g w : Nat)) rfl hrow3 (by rw [tailsV_get _ hc256]; simp)
          rw [tailsV_set, Nat.zero_min] at hst
          refine ⟨_, hst, (hE2.trans hE3).set _ (by omega), by rw [List.getElem?_set_ne (by omega)]; exact hE3.row hr02, ?_⟩
          rw [get_set hrow3]
          congr 2
          apply tailsV_congr
          intro s _
          by_cases hsc : s = c
          · simp [hsc, sW]
          · simp [hsc]
        have hround : ∀ H4, Ext H H4 → H4[H.length]? = some (.row (tailsV fun _ => 0) 0 0 false) → H4[H.length + 1]? = some (.row (tailsV fun s => if s = c then sW g (w + 1) else if c + 1 ≤ s then tlS n m s else 0) 0 0 false) →
            ∃ n' vs', n' < n - w ∧ ([(0, AV.int .i64 n), (1, .int .i64 m), (4, .ptr H.length 0 0), (5, .ptr (H.length + 1) 0 0), (6, .int .i64 c), (27, .int .i64 n), (28, .int .i64 ((w : Int) + 1))] : Env) = esets [(0, .int .i64 n), (1, .int .i64 m), (4, .ptr H.length 0 0), (5, .ptr (H.length + 1) 0 0), (6, .int .i64 c), (27, .int .i64 n), (28, .int .i64 0)] [28] vs' ∧
              ∃ w : Nat, n' = n - w ∧ w ≤ n ∧ vs' = [.int .i64 w] ∧ Ext H H4 ∧ H4[H.length]? = some (.row (tailsV fun _ => 0) 0 0 false) ∧ H4[H.length + 1]? = some (.row (tailsV fun s => if s = c then sW g w else if c + 1 ≤ s then tlS n m s else 0) 0 0 false) :=
          fun H4 h1 h2 h3 => ⟨n - (w + 1), [.int .i64 (w + 1 : Nat)], by omega, by simp, w + 1, rfl, by omega, rfl, h1, h2, h3⟩
        by_cases hbn : b < n
        · have hfree := f4 hbn
          have hx := lt256 hc256 (show b < 8 by omega)
          have hxN : c ||| 2 ^ b < 2 ^ n := Nat.or_lt_two_pow (by omega) (Nat.pow_lt_pow_right (by decide) hbn)
          have hxc : c + 1 ≤ c ||| 2 ^ b := by
            have h1 : c ≤ c ||| 2 ^ b := Nat.left_le_or
            have h2 : c ≠ c ||| 2 ^ b := by
              intro he
              have := congrArg (fun z => Nat.testBit z b) he
              simp [hfree] at this
            omega
          have hpx : popc (c ||| 2 ^ b) = popc c + 1 := by
            unfold popc
            rw [bc_or hfree, if_pos ⟨Nat.zero_le _, by omega⟩]
          have hval : (if c ||| 2 ^ b = c then sW g w else if c + 1 ≤ c ||| 2 ^ b then tlS n m (c ||| 2 ^ b) else 0) = g w := by
            rw [if_neg (by omega), if_pos hxc, hgw, if_pos hbn, tlS, if_pos ⟨hxN, by omega⟩, hpx, show m - (popc c + 1) = k by omega]
          obtain ⟨H4, hst, hE4, h4a, h4b⟩ := hstep (H2 ++ [.row [.int .i64 b] 0 0 false]) (.push _ _)
          refine L_regX mixed [0, 1, 4, 5, 6, 27, 28] (by kernel_rfl) (fun K hK => ?_)
          simp [okFn_low, show (c : Int) < 256 by omega, hld, wrapN64 (show c < 2 ^ 64 by omega)]
          refine exX_mk (fun Q hQ => drive_ac n c w _ Q (by omega) hn hQ) (.refl _) ?_
          rw [hb]
          simp [okFn_low, wrapN64 (show c < 2 ^ 64 by omega)]
          refine exX_mk (v := .int .i64 ((g w : Nat) : Int)) (fun Q hQ => behind_yes (H.length + 1) n b c _ _ Q hn hbn hc256 hr12 (by rw [hval]; exact hQ)) (.push _ _) ?_
          have hadd : ((sW g w : Nat) : Int) + ((g w : Nat) : Int) = ((sW g w + g w : Nat) : Int) := by simp
          generalize H2 ++ [AObj.row [.int .i64 b] 0 0 false] = H3 at *
          generalize g w = gw at *
          simp [hadd, wrap_i64 (a := ((sW g w + gw : Nat) : Int)) (by omega), show (c : Int) < 256 by omega, hst, -Int.natCast_add]
          apply hK; clear hK K
          refine L_reg [0, 1, 4, 5, 6, 27, 28] (fun K hK => ?_)
          simp [wrap_i64 (a := (w : Int) + 1) (by omega)]
          apply hK; clear hK K
          exact hround H4 hE4 h4a h4b
        · have hg0 : g w = 0 := by rw [hgw, if_neg hbn]
          obtain ⟨H4, hst, hE4, h4a, h4b⟩ := hstep H2 (.refl _)
          simp only [hg0, Nat.add_zero] at hst
          have hsx := hs1
          generalize sW g w = x at hst hld hsx
          refine L_regX mixed [0, 1, 4, 5, 6, 27, 28] (by kernel_rfl) (fun K hK => ?_)
          simp [okFn_low, show (c : Int) < 256 by omega, hld, wrapN64 (show c < 2 ^ 64 by omega)]
          refine exX_mk (fun Q hQ => drive_ac n c w _ Q (by omega) hn hQ) (.refl _) ?_
          rw [hb]
          simp [okFn_low, wrapN64 (show c < 2 ^ 64 by omega)]
          refine exX_mk (fun Q hQ => behind_no (H.length + 1) n b c _ Q hbn hQ) (.refl _) ?_
          simp [wrap_i64 (a := ((x : Nat) : Int)) (by omega), show (c : Int) < 256 by omega, hst]
          apply hK; clear hK K
          refine L_reg [0, 1, 4, 5, 6, 27, 28] (fun K hK => ?_)
          simp [wrap_i64 (a := (w : Int) + 1) (by omega)]
          apply hK; clear hK K
          exact hround H4 hE4 h4a h4b
      · have hwe : w = n := by omega
        subst hwe
        refine L_reg [0, 1, 4, 5, 6] (fun K hK => ?_)
        simp [wrap_i64 (a := (c : Int) - 1) (by omega)]
        apply hK; clear hK K
        refine hcont H2 hE2 hr02 ?_
        rw [hr12, hrow' (by rw [if_pos rfl, hfin]) (fun b hb => by rw [if_neg hb])]
    · refine L_true (by simp; omega) ?_
      have hst := store_row (P := Try.prog) (u := 3) (p := c) sc3 (x := .int .i64 ((1 : Nat) : Int)) (y := .int .i64 ((if c + 1 ≤ c then tlS n m c else 0 : Nat) : Int)) rfl hr1 (by rw [tailsV_get _ hc256]; rfl)
      rw [tailsV_set, Nat.zero_min, hrow' (by rw [if_pos rfl, tlS, if_pos ⟨by omega, by omega⟩, hp, Nat.sub_self]; rfl) (fun b hb => by rw [if_neg hb])] at hst
      have hr12 := get_set (o' := AObj.row (tailsV fun s => if c ≤ s then tlS n m s else 0) 0 0 false) hr1
      have hE2 := hE.set (AObj.row (tailsV fun s => if c ≤ s then tlS n m s else 0) 0 0 false) (show H.length ≤ H.length + 1 by omega)
      have hr02 : (H1.set (H.length + 1) (AObj.row (tailsV fun s => if c ≤ s then tlS n m s else 0) 0 0 false))[H.length]? = some (.row (tailsV fun _ => 0) 0 0 false) := by rw [List.getElem?_set_ne (by omega)]; exact hr0
      generalize H1.set (H.length + 1) (AObj.row (tailsV fun s => if c ≤ s then tlS n m s else 0) 0 0 false) = H2 at *
      refine L_reg [0, 1, 4, 5, 6, 7] (fun K hK => ?_)
      simp only [Int.natCast_one] at hst
      simp [show (c : Int) < 256 by omega, hst]
      apply hK; clear hK K
      refine L_reg [0, 1, 4, 5, 6, 26] (fun K hK => ?_)
      simp
      apply hK; clear hK K
      refine L_true (by simp; omega) ?_
      refine L_exit ?_
      refine L_reg [0, 1, 4, 5, 6] (fun K hK => ?_)
      simp [wrap_i64 (a := (c : Int) - 1) (by omega)]
      apply hK; clear hK K
      exact hcont H2 hE2 hr02 hr12
    · refine L_false (by simp; omega) ?_
      refine L_reg [0, 1, 4, 5, 6, 26] (fun K hK => ?_)
      simp
      apply hK; clear hK K
      refine L_true (by simp; omega) ?_
      refine L_exit ?_
      refine L_reg [0, 1, 4, 5, 6] (fun K hK => ?_)
      simp [wrap_i64 (a := (c : Int) - 1) (by omega)]
      apply hK; clear hK K
      refine hcont H1 hE hr0 ?_
      rw [hr1, hrow' (by rw [if_neg (by omega), tlS, if_neg (by omega)]) (fun b hb => rfl)]
end Go.Proofs.Ytojblooaiojmcaa
