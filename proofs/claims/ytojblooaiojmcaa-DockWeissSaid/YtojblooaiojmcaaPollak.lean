/- The law of turns around a circle with one place more. -/
import Derived.Test.YtojblooaiojmcaaMath2
namespace Go.Proofs.Ytojblooaiojmcaa
open Go Go.Proofs.Ytojblooaiojmcaa.AX

theorem turnsS_ok {n : Nat} {l : List Nat} (h1 : 1 ≤ n) (h8 : n ≤ 8) (hl : l.length ≤ n) (hw : ∀ w ∈ l, w < n + 1) : turnsE n (l.map Int.ofNat) = 0 ∧ turnsS n (l.map Int.ofNat) = turnsL n l (n + 1) := by
  have h0 : okBays n = 0 := by rcases okBays_cases (n : Int) with ⟨h, -, -⟩ | ⟨-, h⟩; exact h; omega
  have hok : okP n (l.map Int.ofNat) = true := by
    rw [okP, List.all_eq_true]
    intro b hb
    obtain ⟨w, hw', rfl⟩ := List.mem_map.1 hb
    have := hw w hw'
    simp; omega
  have hE : turnsE n (l.map Int.ofNat) = 0 := by rw [turnsE, if_neg (by omega), if_neg (by simp; omega), if_pos hok]
  refine ⟨hE, ?_⟩
  rw [turnsS, hE, if_neg (by decide), natL_of]; rfl

set_option maxRecDepth 100000 in
theorem dockPollak_ac (a c : Nat) (bs : List Nat) (H : AH) (ha : a < 256) (hc : c < 256) (hb8 : bs.length = 8) (hb : ∀ b ∈ bs, b < 256) : AC Try.prog 8 [.agg (cartsV a c bs)] H fun u _ => u = .bool true := by
  refine L_body 78 Try.func8 rfl rfl ?_
  refine L_reg [1] (fun K hK => ?_)
  simp [AV.isU, acells]
  apply hK; clear hK K
  have hrow : (H ++ [AObj.row (cartsV a c bs) 0 0 false])[H.length]? = some (.row (cartsV a c bs) 0 0 false) := by simp
  generalize H ++ [AObj.row (cartsV a c bs) 0 0 false] = H1 at hrow ⊢
  refine L_reg [3, 4] (fun K hK => ?_)
  simp [okFn_low, load48 hrow hb8]
  refine made_ac a c 8 1 bs _ _ ha hc hb8 hb (by omega) (by omega) (by omega) (fun v H2 hv hE => ?_)
  simp
  apply hK; clear hK K
  have hn1 : 1 ≤ madeN a 8 := by unfold madeN; omega
  have hn8 : madeN a 8 ≤ 8 := by unfold madeN; omega
  have hll := madeL_len c (madeN a 8) 1 bs
  have hlw := madeL_lt (c := c) (more := 1) hn1 (bs := bs)
  generalize madeN a 8 = n at *
  generalize madeL c n 1 bs = l at *
  clear hrow hE H1 hb hb8 ha hc
  obtain ⟨hte, hts⟩ := turnsS_ok hn1 hn8 hll hlw
  have hpol := pollak hn1 hn8 hll
  refine L_reg [3, 4, 5, 6] (fun K hK => ?_)
  simp [okFn_low]
  refine Turns_ac n v _ _ _ (by simp; omega) hv (fun v3 H3 hv3 hE3 => ?_)
  rw [hts] at hv3
  rw [hte]
  simp
  apply hK; clear hK K
  have hvA := hv.ext hE3
  clear hv hE3 hte hts H2
  obtain ⟨r3, off3, ver3, sz3, full3, rfl, hld3⟩ := id hv3
  obtain ⟨r, off, ver, sz, full, rfl, hld⟩ := id hvA
  have hbl : l.length ≤ 8 := by omega
  simp only [List.length_map] at hld hvA ⊢
  have hcmp : (((turnsL n l (n + 1)).length : Int) != (n : Int) + 1 - (l.length : Int)) = false := by
    rw [bne_eq_false_iff_eq, hpol]; omega
  refine L_reg [3, 4, 5, 34] (fun K hK => ?_)
  simp [pickV, wrap_i64 (a := (n : Int) + 1) (by omega), wrap_i64 (a := (n : Int) + 1 - (l.length : Int)) (by omega), hcmp]
  apply hK; clear hK K
  refine L_false (by simp) ?_
  refine L_reg [3, 4, 5, 7] (fun K hK => ?_)
  simp
  apply hK; clear hK K
  refine L_reg [3, 4, 5, 7, 36, 37] (fun K hK => ?_)
  simp [wrap_i64 (a := (n : Int) + 1) (by omega)]
  apply hK; clear hK K
  refine L_block (L_loopV [7, 37] (fun k vs H' => ∃ (b : Nat) (u : AV), k = n + 1 - b ∧ b ≤ n + 1 ∧ vs = [u, .int .i64 b] ∧ Ext H3 H' ∧ OwnF H3.length H' u ((turnsL n l b).map (.int .i64))) _ [.slice none 0 0 0 1 false, .int .i64 (0 : Nat)] rfl ⟨0, _, rfl, by omega, rfl, .refl _, .nil _ _⟩ ?_)
  rintro k _ H1 ⟨b, u, rfl, hb, rfl, hE, hO⟩
  refine L_reg [3, 4, 5, 7, 36, 37, 38] (fun K hK => ?_)
  simp
  apply hK; clear hK K
  refine L_dec (b < n + 1) (by simp; omega) (fun hlt => ?_) (fun hge => L_exit ?_)
  · have hts := turnsL_succ n l b
    have htl := turnsL_len n l b
    refine L_block ?_
    refine L_reg [3, 4, 5, 7, 8, 36, 37] (fun K hK => ?_)
    simp
    apply hK; clear hK K
    refine L_reg [3, 4, 5, 7, 8, 9, 36, 37] (fun K hK => ?_)
    simp
    apply hK; clear hK K
    refine L_reg [3, 4, 5, 7, 8, 9, 36, 37, 40, 41, 42] (fun K hK => ?_)
    simp
    apply hK; clear hK K
    refine L_block (L_loopV [9, 42] (fun k vs H' => ∃ (i : Nat) (u2 : AV), k = l.length - i ∧ i ≤ l.length ∧ vs = [u2, .int .i64 i] ∧ Ext H1 H' ∧ OwnF H1.length H' u2 (((turnL n b (l.take i)).map Int.ofNat).map (.int .i64))) _ [.slice none 0 0 0 1 false, .int .i64 (0 : Nat)] rfl ⟨0, _, rfl, by omega, rfl, .refl _, .nil _ _⟩ ?_)
    rintro k _ H2 ⟨i, u2, rfl, hi2, rfl, hE2, hO2⟩
    refine L_reg [3, 4, 5, 7, 8, 9, 36, 37, 40, 41, 42, 43] (fun K hK => ?_)
    simp
    apply hK; clear hK K
    refine L_dec (i < l.length) (by simp) (fun hlt2 => ?_) (fun hge2 => L_exit ?_)
    · obtain ⟨r', rfl, rfl, hldi⟩ := hld i hlt2
      have hld' := (hE.trans hE2).ld hldi
      simp only [List.getElem_map] at hld'
      have hpn := hlw l[i] (List.getElem_mem hlt2)
      have htk : turnL n b (l.take (i + 1)) = turnL n b (l.take i) ++ [(l[i] + b) % (n + 1)] := by
        rw [List.take_succ_eq_append_getElem hlt2]; simp only [turnL, List.map_append, List.map_cons, List.map_nil]
      have hlen2 : (turnL n b (l.take i)).length = i := by rw [turnL_length]; simp; omega
      generalize l[i] = p at hld' hpn htk
      generalize turnL n b (l.take i) = done at hO2 htk hlen2
      have hrem := rem_nat (p + b) (n + 1)
      simp only [Int.natCast_add, Int.natCast_one] at hrem
      have hne : ((n : Int) + 1) ≠ 0 := by omega
      obtain ⟨v', H', he, hO', hE'⟩ := ownF_append hE2 el22 el22 (x := .int .i64 (((p + b) % (n + 1) : Nat) : Int)) (m := 1) hO2 rfl (by simp; omega)
      obtain ⟨ur, uv, hu⟩ := hO2.len
      refine L_block ?_
      refine L_reg [3, 4, 5, 7, 8, 9, 11, 36, 37, 40, 41, 42] (fun K hK => ?_)
      simp [hlt2, hld']
      apply hK; clear hK K
      refine L_reg [3, 4, 5, 7, 8, 9, 36, 37, 40, 41, 42] (fun K hK => ?_)
      simp [wrap_i64 (a := (p : Int) + (b : Int)) (by omega), wrap_i64 (a := (n : Int) + 1) (by omega), hne, hrem, he, -Int.natCast_emod]
      apply hK; clear hK K
      refine L_reg [3, 4, 5, 7, 8, 9, 36, 37, 40, 41, 42] (fun K hK => ?_)
      simp [wrap_i64 (a := (i : Int) + 1) (by omega)]
      apply hK; clear hK K
      exact ⟨l.length - (i + 1), [v', .int .i64 (i + 1 : Nat)], by omega, by simp, i + 1, v', rfl, by omega, rfl, hE', by rw [htk]; simpa using hO'⟩
    · have hi' : i = l.length := by omega
      subst hi'
      rw [List.take_length] at hO2
      have hv2 := hO2.own.ls
      have hEE := hE.trans hE2
      have hOu := hO.ext hE2
      have hcont : ∀ u' H4, Ext H3 H4 → OwnF H3.length H4 u' ((turnsL n l (b + 1)).map (.int .i64)) → ∃ n' vs', n' < n + 1 - b ∧ ([(3, AV.int .i64 n), (4, .slice r off l.length ver sz full), (5, .slice r3 off3 (turnsL n l (n + 1)).length ver3 sz3 full3), (7, u'), (36, .int .i64 ((n : Int) + 1)), (37, .int .i64 ((b : Int) + 1))] : Env) = esets [(3, .int .i64 n), (4, .slice r off l.length ver sz full), (5, .slice r3 off3 (turnsL n l (n + 1)).length ver3 sz3 full3), (7, .slice none 0 0 0 1 false), (36, .int .i64 ((n : Int) + 1)), (37, .int .i64 0)] [7, 37] vs' ∧
          ∃ (b : Nat) (u : AV), n' = n + 1 - b ∧ b ≤ n + 1 ∧ vs' = [u, .int .i64 b] ∧ Ext H3 H4 ∧ OwnF H3.length H4 u ((turnsL n l b).map (.int .i64)) :=
        fun u' H4 h1 h2 => ⟨n + 1 - (b + 1), [u', .int .i64 (b + 1 : Nat)], by omega, by simp, b + 1, u', rfl, by omega, rfl, h1, h2⟩
      have hle : ∀ w ∈ turnL n b l, w ≤ n := by
        intro w hw
        obtain ⟨p, -, rfl⟩ := List.mem_map.1 hw
        exact Nat.le_of_lt_succ (Nat.mod_lt _ (by omega))
      have htlen := turnL_length n b l
      have hsv : servT n l b = (checkS n ((turnL n b l).map Int.ofNat) == 0 && !decide (-1 ∈ parkS n 0 (turnL n b l))) := rfl
      generalize turnL n b l = w at *
      by_cases hc : (n : Int) ∈ w.map Int.ofNat
      · have hck : (checkS n (w.map Int.ofNat) == 0) = false := by
          rw [beq_eq_false_iff_ne]
          intro h0
          obtain ⟨m', l2, e1, -, -, e2, -, hw2⟩ := checked h0
          rw [e2] at hc
          obtain ⟨x, hx, hxe⟩ := List.mem_map.1 hc
          have := hw2 x hx
          simp only [Int.ofNat_eq_natCast] at hxe
          omega
        rw [hck, Bool.false_and] at hsv
        rw [hsv] at hts
        refine L_reg [3, 4, 5, 7, 8, 36, 37, 66] (fun K hK => ?_)
        simp [okFn_low]
        refine Contains_ac _ _ _ _ _ (by simp; omega) hv2 ?_
        rw [decide_eq_true hc]
        simp [pickV]
        apply hK; clear hK K
        refine L_false (by simp) ?_
        refine L_reg [3, 4, 5, 7, 36, 37] (fun K hK => ?_)
        simp [wrap_i64 (a := (b : Int) + 1) (by omega)]
        apply hK; clear hK K
        exact hcont u H2 hEE (by rw [hts]; simpa using hOu)
      · have hw : ∀ x ∈ w, x < n := by
          intro x hx
          have h1 := hle x hx
          have : x ≠ n := by
            rintro rfl
            exact hc (List.mem_map.2 ⟨x, hx, rfl⟩)
          omega
        have hck := check_ok hn1 hn8 (by omega) hw
        rw [hck] at hsv
        simp only [beq_self_eq_true, Bool.true_and] at hsv
        refine L_reg [3, 4, 5, 7, 8, 36, 37, 66] (fun K hK => ?_)
        simp [okFn_low]
        refine Contains_ac _ _ _ _ _ (by simp; omega) hv2 ?_
        rw [decide_eq_false hc]
        simp [okFn_low]
        refine come_ac n u2 w _ _ hn8 (by omega) hw hv2 (fun v5 H5 hv5 hE5 => ?_)
        simp [okFn_low]
        refine Contains_ac _ _ _ _ _ (by rw [parkS_length]; omega) hv5 ?_
        simp only [s_holdQ]
        simp [pickV]
        apply hK; clear hK K
        have hO3 := hOu.ext hE5
        have hEEE := hEE.trans hE5
        cases hg : servT n l b with
        | true =>
          rw [hg] at hts hsv
          have hnot : ¬ (-1 ∈ parkS n 0 w) := by simpa using hsv.symm
          refine L_true (by simp [hnot]) ?_
          obtain ⟨ur, uv, hu⟩ := hO3.len
          obtain ⟨v', H', he, hO', hE'⟩ := ownF_append hEEE el22 el22 (x := .int .i64 (b : Int)) (m := 1) hO3 rfl (by simp; omega)
          refine L_reg [3, 4, 5, 7, 36, 37] (fun K hK => ?_)
          simp [he]
          apply hK; clear hK K
          refine L_reg [3, 4, 5, 7, 36, 37] (fun K hK => ?_)
          simp [wrap_i64 (a := (b : Int) + 1) (by omega)]
          apply hK; clear hK K
          exact hcont v' H' hE' (by rw [hts]; simpa using hO')
        | false =>
          rw [hg] at hts hsv
          have hyes : -1 ∈ parkS n 0 w := by simpa using hsv.symm
          refine L_false (by simp [hyes]) ?_
          refine L_reg [3, 4, 5, 7, 36, 37] (fun K hK => ?_)
          simp [wrap_i64 (a := (b : Int) + 1) (by omega)]
          apply hK; clear hK K
          exact hcont u H5 hEEE (by rw [hts]; simpa using hO3)
  · have : b = n + 1 := by omega
    subst this
    refine L_reg [2] (fun K hK => ?_)
    simp [okFn_low]
    refine same_ac _ _ _ _ _ _ (by omega) (hv3.ext hE) hO.own.ls ?_
    simp [okFn_low, pickV]
    refine works_ac _ _ ?_
    simp [pickV]
    apply hK; clear hK K
    exact L_ret ⟨.inr rfl, _, rfl, by simp⟩
theorem dockPollak_ns (ns : List Int) (hl : ns.length = 10) (hb : ∀ x ∈ ns, IntKind.u8.min ≤ x ∧ x ≤ IntKind.u8.max) (H : AH) : AC Try.prog 8 [.agg (ns.map (.int .u8))] H fun u _ => u = .bool true := by
  obtain ⟨a, c, bs, e, ha, hc, hb8, hbs⟩ := carts_of hl hb
  rw [e]
  exact dockPollak_ac a c bs H ha hc hb8 hbs
end Go.Proofs.Ytojblooaiojmcaa
