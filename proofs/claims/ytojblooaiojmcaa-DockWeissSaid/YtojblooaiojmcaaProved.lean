/- Wishes by numbers; the law of carts that go away. -/
import Derived.Test.YtojblooaiojmcaaCome
namespace Go.Proofs.Ytojblooaiojmcaa
open Go Go.Proofs.Ytojblooaiojmcaa.AX

def cartsV (a c : Nat) (bs : List Nat) : List AV := .int .u8 a :: .int .u8 c :: bs.map fun (b : Nat) => .int .u8 b
theorem fa48_0 (r off ver : Nat) : aFieldAddr Try.prog 48 (.ptr r off ver) 0 = some (.ptr r (off + 0) ver) := by kernel_rfl
theorem fa48_1 (r off ver : Nat) : aFieldAddr Try.prog 48 (.ptr r off ver) 1 = some (.ptr r (off + 1) ver) := by kernel_rfl
theorem fa48_2 (r off ver : Nat) : aFieldAddr Try.prog 48 (.ptr r off ver) 2 = some (.ptr r (off + 2) ver) := by kernel_rfl
theorem ixa46 (r off ver : Nat) (k : IntKind) (i : Int) : aIndexAddr Try.prog 46 (.ptr r off ver) (.int k i) = if 0 ≤ i ∧ i < (8 : Nat) then some (.ptr r (off + i.toNat * 1) ver) else none := ixa_ar (by kernel_rfl) ..
def madeN (a most : Nat) : Nat := 1 + a % most
def madeL (c n more : Nat) (bs : List Nat) : List Nat := (bs.take (c % (n + 1))).map fun b => b % (n + more)
theorem madeL_len (c n more : Nat) (bs : List Nat) : (madeL c n more bs).length ≤ n := by
  have : c % (n + 1) < n + 1 := Nat.mod_lt _ (by omega)
  simp [madeL]; omega
theorem madeL_lt {c n more : Nat} (hn : 1 ≤ n) {bs : List Nat} : ∀ w ∈ madeL c n more bs, w < n + more := by
  intro w hw
  obtain ⟨b, -, rfl⟩ := List.mem_map.1 hw
  exact Nat.mod_lt _ (by omega)

theorem made_ac (a c most more : Nat) (bs : List Nat) (H : AH) (Q : AV → AH → Prop) (ha : a < 256) (hc : c < 256) (hb8 : bs.length = 8) (hb : ∀ b ∈ bs, b < 256) (h1 : 1 ≤ most) (h8 : most ≤ 8) (hm : more ≤ 8)
    (h : ∀ v' H', Ls H' v' ((madeL c (madeN a most) more bs).map Int.ofNat) → Ext H H' → Q (.tuple [.int .i64 (madeN a most), v']) H') : AC Try.prog 48 [.agg (cartsV a c bs), .int .i64 most, .int .i64 more] H Q := by
  have hn1 : 1 ≤ madeN a most := by unfold madeN; omega
  have hn8 : madeN a most ≤ 8 := by have := Nat.mod_lt a (show 0 < most by omega); unfold madeN; omega
  refine L_body 41 Try.func48 rfl rfl ?_
  refine L_reg [1, 2, 3] (fun K hK => ?_)
  simp [AV.isU, acells]
  apply hK; clear hK K
  have hrow : (H ++ [AObj.row (cartsV a c bs) 0 0 false])[H.length]? = some (.row (cartsV a c bs) 0 0 false) := by simp
  have hE : Ext H (H ++ [AObj.row (cartsV a c bs) 0 0 false]) := .push _ _
  generalize H ++ [AObj.row (cartsV a c bs) 0 0 false] = H1 at hrow hE ⊢
  have l0 : ld H1 H.length 0 0 = some (.int .u8 a) := by rw [ld_row hrow]; rfl
  have l1 : ld H1 H.length 1 0 = some (.int .u8 c) := by rw [ld_row hrow]; rfl
  have hrem := rem_nat a most
  have hmne : most ≠ 0 := by omega
  have hN : 1 + ((a % most : Nat) : Int) = (madeN a most : Int) := by simp [madeN]
  generalize hnn : madeN a most = n at *
  refine L_reg [2, 3, 8] (fun K hK => ?_)
  simp [fa48_0, l0, wrap_i64 (a := (a : Int)) (by omega), hmne, hrem, hN, wrap_i64 (a := (n : Int)) (by omega), -Int.natCast_emod]
  apply hK; clear hK K
  refine L_reg [2, 3, 8, 9] (fun K hK => ?_)
  simp
  apply hK; clear hK K
  have hrem2 := rem_nat c (n + 1)
  simp only [Int.natCast_add, Int.natCast_one] at hrem2
  have hne2 : (n : Int) + 1 ≠ 0 := by omega
  have hk : c % (n + 1) ≤ n := Nat.le_of_lt_succ (Nat.mod_lt _ (by omega))
  refine L_reg [2, 3, 8, 9, 22, 23] (fun K hK => ?_)
  simp [fa48_1, l1, wrap_i64 (a := (c : Int)) (by omega), wrap_i64 (a := (n : Int) + 1) (by omega), hne2, hrem2, -Int.natCast_emod]
  apply hK; clear hK K
  have hfin : ∀ v' H', Ls H' v' ((madeL c n more bs).map Int.ofNat) → Ext H H' → Q (.tuple [.int .i64 n, v']) H' := h
  unfold madeL at hfin
  generalize c % (n + 1) = k at *
  refine L_block (L_loopV [9, 23] (fun m vs H' => ∃ (i : Nat) (u : AV), m = k - i ∧ i ≤ k ∧ vs = [u, .int .i64 i] ∧ Ext H H' ∧ H'[H.length]? = some (.row (cartsV a c bs) 0 0 false) ∧
    OwnF (H.length + 1) H' u ((((bs.take i).map fun b => b % (n + more)).map Int.ofNat).map (.int .i64))) _ [.slice none 0 0 0 1 false, .int .i64 (0 : Nat)] rfl ⟨0, _, rfl, by omega, rfl, hE, hrow, .nil _ _⟩ ?_)
  rintro m _ H2 ⟨i, u, rfl, hi, rfl, hE2, hrow2, hO⟩
  have hH2 : H.length < H2.length := (List.getElem?_eq_some_iff.1 hrow2).1
  refine L_reg [2, 3, 8, 9, 22, 23, 24] (fun K hK => ?_)
  simp
  apply hK; clear hK K
  refine L_dec (i < k) (by simp) (fun hlt => ?_) (fun hge => L_exit ?_)
  · have hib : i < bs.length := by omega
    have htk : (bs.take (i + 1)).map (fun b => b % (n + more)) = (bs.take i).map (fun b => b % (n + more)) ++ [bs[i] % (n + more)] := by
      rw [List.take_succ_eq_append_getElem hib, List.map_append]; rfl
    have hbi := hb bs[i] (List.getElem_mem hib)
    have hld : ld H2 H.length (2 + i) 0 = some (.int .u8 (bs[i] : Nat)) := by
      rw [ld_row hrow2]
      have : (cartsV a c bs)[2 + i]? = some (.int .u8 (bs[i] : Nat)) := by
        rw [show 2 + i = i + 1 + 1 by omega]
        simp [cartsV, hib]
      rw [this]; rfl
    have hdl : ((bs.take i).map (fun b => b % (n + more))).length = i := by simp; omega
    generalize bs[i] = b at hbi hld htk
    generalize (bs.take i).map (fun b => b % (n + more)) = done at hO htk hdl
    have hrem3 := rem_nat b (n + more)
    simp only [Int.natCast_add] at hrem3
    have hne3 : (n : Int) + (more : Int) ≠ 0 := by omega
    obtain ⟨ur, uv, hu⟩ := hO.len
    obtain ⟨v', H', he, hO', hN', hrest⟩ := ownF_append' (show H.length + 1 ≤ H2.length by omega) el22 el22 (x := .int .i64 ((b % (n + more) : Nat) : Int)) (m := 1) hO rfl (by simp; omega)
    refine L_block ?_
    refine L_reg [2, 3, 8, 9, 10, 22, 23] (fun K hK => ?_)
    simp
    apply hK; clear hK K
    refine L_reg [2, 3, 8, 9, 22, 23] (fun K hK => ?_)
    simp [fa48_2, ixa46, show (i : Int) < 8 by omega, hld, wrap_i64 (a := (b : Int)) (by omega), wrap_i64 (a := (n : Int) + (more : Int)) (by omega), hne3, hrem3, he, -Int.natCast_emod]
    apply hK; clear hK K
    refine L_reg [2, 3, 8, 9, 22, 23] (fun K hK => ?_)
    simp [wrap_i64 (a := (i : Int) + 1) (by omega)]
    apply hK; clear hK K
    exact ⟨k - (i + 1), [v', .int .i64 (i + 1 : Nat)], by omega, by simp, i + 1, v', rfl, by omega, rfl, ⟨by omega, fun j hj => by rw [hrest j (by omega), hE2.2 j hj]⟩, by rw [hrest _ (by omega), hrow2], by rw [htk]; simpa using hO'⟩
  · have : i = k := by omega
    subst this
    refine L_reg [6, 7] (fun K hK => ?_)
    simp
    apply hK; clear hK K
    exact L_ret ⟨.inr rfl, _, rfl, hfin _ _ hO.own.ls hE2⟩

theorem check_ok {n : Nat} {l : List Nat} (h1 : 1 ≤ n) (h8 : n ≤ 8) (hl : l.length ≤ n) (hw : ∀ w ∈ l, w < n) : checkS n (l.map Int.ofNat) = 0 := by
  have h0 : okBays n = 0 := by rcases okBays_cases (n : Int) with ⟨h, -, -⟩ | ⟨-, h⟩; exact h; omega
  have hok : okL n (l.map Int.ofNat) = true := by
    rw [okL, List.all_eq_true]
    intro b hb
    obtain ⟨w, hw', rfl⟩ := List.mem_map.1 hb
    have := hw w hw'
    simp; omega
  rw [checkS, if_neg (by omega), if_neg (by simp; omega), if_pos hok]

/-- The smallest number of last bays that are wished for too often, among those above k. -/
def Least (n : Nat) (l : List Int) (k x : Nat) : Prop := (∀ j : Nat, k < j → j ≤ n → over n l j = true → x ≠ 0 ∧ x ≤ j) ∧ (x ≠ 0 → k < x ∧ x ≤ n ∧ over n l x = true)
theorem fo_least {n : Nat} {l : List Int} {x : Nat} : ∀ (m k : Nat), k + m = n → Least n l k x → (∀ j : Nat, j ≤ k → 1 ≤ j → over n l j = false) → fo n l m ((k : Int) + 1) = if x = 0 then (0, 13) else ((x : Int), 0)
  | 0, k, hm, hL, _ => by
    rw [fo, if_pos]
    rcases Nat.eq_zero_or_pos x with h | h
    · exact h
    · have := hL.2 (by omega); omega
  | m + 1, k, hm, hL, hb => by
    rw [fo]
    have e : ((k : Int) + 1) = ((k + 1 : Nat) : Int) := by omega
    rw [e]
    cases ho : over n l ((k + 1 : Nat) : Int) with
    | true =>
      have h1 := hL.1 (k + 1) (by omega) (by omega) ho
      have h2 := hL.2 h1.1
      have : x = k + 1 := by omega
      subst this
      simp
    | false =>
      simp only [Bool.false_eq_true, if_false]
      refine fo_least m (k + 1) (by omega) ⟨fun j h1 h2 h3 => hL.1 j (by omega) h2 h3, fun hx => ?_⟩ (fun j h1 h2 => ?_)
      · obtain ⟨g1, g2, g3⟩ := hL.2 hx
        refine ⟨?_, g2, g3⟩
        rcases Nat.lt_or_ge (k + 1) x with h | h
        · exact h
        · have : x = k + 1 := by omega
          rw [this, ho] at g3; cases g3
      · rcases Nat.lt_or_ge j (k + 1) with h | h
        · exact hb j (by omega) h2
        · have : j = k + 1 := by omega
          rw [this]; exact ho

theorem takeKnown_all : ∀ (c : List AV), (∀ v ∈ c, v ≠ .undef) → takeKnown c.length c = some c
  | [], _ => rfl
  | v :: c, h => by
    have hv := h v (by simp)
    have ih := takeKnown_all c (fun u hu => h u (by simp [hu]))
    cases v <;> simp [takeKnown, ih] at hv ⊢
theorem cartsV_known {a c : Nat} {bs : List Nat} : ∀ v ∈ cartsV a c bs, v ≠ .undef := by
  intro v hv
  simp only [cartsV, List.mem_cons, List.mem_map] at hv
  rcases hv with rfl | rfl | ⟨b, -, rfl⟩ <;> simp
def aggSz (P : Program) (t : TypeId) : Option Nat := match P.underlying t, P.info? t with | some d, some i => if isAggD d then some i.size else none | _, _ => none
theorem load_agg {P : Program} {t : TypeId} {n : Nat} (h : aggSz P t = some n) {H : AH} {r v s : Nat} {ro : Bool} {c : List AV} (hr : H[r]? = some (.row c v s ro)) (hl : c.length = n) (hk : ∀ x ∈ c, x ≠ .undef) : loadV P t H (.ptr r 0 v) = some (.agg c) := by
  unfold aggSz at h
  split at h
  case h_2 => cases h
  rename_i d i h1 h2
  split at h
  case isFalse => cases h
  rename_i hd
  cases h
  have : ldn H r v i.size 0 = some c := by
    rw [← hl]
    cases c with
    | nil => rfl
    | cons x c => simp only [ldn, List.length_cons, hr]; rw [if_pos (.inl trivial)]; exact takeKnown_all (x :: c) hk
  simp [loadV, h1, h2, hd, this]
theorem load48 {H : AH} {r : Nat} {a c : Nat} {bs : List Nat} (hr : H[r]? = some (.row (cartsV a c bs) 0 0 false)) (hb8 : bs.length = 8) : loadV Try.prog 48 H (.ptr r 0 0) = some (.agg (cartsV a c bs)) :=
  load_agg (n := 10) (by kernel_rfl) hr (by simp [cartsV, hb8]) cartsV_known

set_option maxRecDepth 100000 in
theorem dockProved_ac (a c : Nat) (bs : List Nat) (H : AH) (ha : a < 256) (hc : c < 256) (hb8 : bs.length = 8) (hb : ∀ b ∈ bs, b < 256) : AC Try.prog 9 [.agg (cartsV a c bs)] H fun u _ => u = .bool true := by
  refine L_body 109 Try.func9 rfl rfl ?_
  refine L_reg [1] (fun K hK => ?_)
  simp [AV.isU, acells]
  apply hK; clear hK K
  have hrow : (H ++ [AObj.row (cartsV a c bs) 0 0 false])[H.length]? = some (.row (cartsV a c bs) 0 0 false) := by simp
  generalize H ++ [AObj.row (cartsV a c bs) 0 0 false] = H1 at hrow ⊢
  refine L_reg [3, 4] (fun K hK => ?_)
  simp [okFn_low, load48 hrow hb8]
  refine made_ac a c 8 0 bs _ _ ha hc hb8 hb (by omega) (by omega) (by omega) (fun v H2 hv hE => ?_)
  simp
  apply hK; clear hK K
  have hn1 : 1 ≤ madeN a 8 := by unfold madeN; omega
  have hn8 : madeN a 8 ≤ 8 := by unfold madeN; omega
  have hll := madeL_len c (madeN a 8) 0 bs
  have hlw := madeL_lt (c := c) (more := 0) hn1 (bs := bs)
  generalize madeN a 8 = n at *
  generalize madeL c n 0 bs = l at *
  rw [Nat.add_zero] at hlw
  clear hrow hE H1 hb hb8 ha hc
  have hck := check_ok hn1 hn8 hll hlw
  have hpk := parkedS_ok hck
  refine L_reg [3, 4, 5, 6] (fun K hK => ?_)
  simp [okFn_low]
  refine Park_ac n v _ _ _ (by simp; omega) hv (fun v3 H3 hv3 hE3 => ?_)
  rw [hpk] at hv3
  rw [hck]
  simp
  apply hK; clear hK K
  have hvA := hv.ext hE3
  refine L_reg [3, 4, 5, 35] (fun K hK => ?_)
  simp [okFn_low]
  refine come_ac n v l _ _ hn8 (by omega) hlw hvA (fun v4 H4 hv4 hE4 => ?_)
  simp [okFn_low]
  refine same_ac _ _ _ _ _ _ (by rw [parkS_length]; omega) (hv3.ext hE4) hv4 ?_
  simp [pickV]
  apply hK; clear hK K
  have hvB := hvA.ext hE4
  have hv3B := hv3.ext hE4
  clear hv hv3 hvA hv4 hE3 hE4 H2 H3
  refine L_false (by simp) ?_
  obtain ⟨r, off, ver, sz, full, rfl, hld⟩ := id hvB
  simp only [List.length_map] at hld hvB ⊢
  refine L_reg [3, 4, 5, 7] (fun K hK => ?_)
  simp
  apply hK; clear hK K
  refine L_reg [3, 4, 5, 7, 8] (fun K hK => ?_)
  simp
  apply hK; clear hK K
  refine L_block (L_loopV [7, 8] (fun m vs H' => ∃ (k x : Nat), m = k ∧ k ≤ n ∧ Least n (l.map Int.ofNat) k x ∧ vs = [.int .i64 x, .int .i64 k] ∧ H4 = H') _ [.int .i64 (0 : Nat), .int .i64 (n : Nat)] rfl ⟨n, 0, rfl, by omega, ⟨fun j h1 h2 => by omega, by simp⟩, rfl, rfl⟩ ?_)
  rintro m _ _ ⟨k, x, hmk, hk, hL, rfl, rfl⟩
  refine L_reg [3, 4, 5, 7, 8, 38] (fun K hK => ?_)
  simp
  apply hK; clear hK K
  refine L_dec (1 ≤ k) (by simp; omega) (fun hk1 => ?_) (fun hk0 => L_exit ?_)
  · refine L_block ?_
    refine L_reg [3, 4, 5, 7, 8, 9] (fun K hK => ?_)
    simp
    apply hK; clear hK K
    refine L_reg [3, 4, 5, 7, 8, 9, 41, 42, 43] (fun K hK => ?_)
    simp
    apply hK; clear hK K
    refine L_block (L_loopV [9, 43] (fun m vs H' => ∃ (i cc : Nat), m = l.length - i ∧ i ≤ l.length ∧ cc = ((l.map Int.ofNat).take i).countP (fun w => decide ((n : Int) - k ≤ w)) ∧ vs = [.int .i64 cc, .int .i64 i] ∧ H4 = H') _ [.int .i64 (0 : Nat), .int .i64 (0 : Nat)] rfl ⟨0, 0, rfl, by omega, by simp, rfl, rfl⟩ ?_)
    rintro m2 _ _ ⟨i, cc, rfl, hi, hcc, rfl, rfl⟩
    refine L_reg [3, 4, 5, 7, 8, 9, 41, 42, 43, 44] (fun K hK => ?_)
    simp
    apply hK; clear hK K
    refine L_dec (i < l.length) (by simp) (fun hlt => ?_) (fun hge => L_exit ?_)
    · obtain ⟨r', rfl, rfl, hldi⟩ := hld i hlt
      have hts := countP_take_succ (l := l.map Int.ofNat) (p := fun w => decide ((n : Int) - k ≤ w)) (i := i) (by simpa using hlt)
      rw [← hcc] at hts
      simp only [List.getElem_map] at hldi hts
      have hcl : cc ≤ i := by rw [hcc]; exact Nat.le_trans List.countP_le_length (by simp; omega)
      generalize l[i] = w at *
      refine L_block ?_
      refine L_reg [3, 4, 5, 7, 8, 9, 11, 41, 42, 43] (fun K hK => ?_)
      simp [hlt, hldi]
      apply hK; clear hK K
      refine L_reg [3, 4, 5, 7, 8, 9, 41, 42, 43, 51] (fun K hK => ?_)
      simp [wrap_i64 (a := (n : Int) - (k : Int)) (by omega)]
      apply hK; clear hK K
      by_cases hx : (n : Int) - k ≤ w
      · rw [if_pos (by simpa using hx)] at hts
        refine L_true (by simp; omega) ?_
        refine L_reg [3, 4, 5, 7, 8, 9, 41, 42, 43] (fun K hK => ?_)
        simp [wrap_i64 (a := (cc : Int) + 1) (by omega)]
        apply hK; clear hK K
        refine L_reg [3, 4, 5, 7, 8, 9, 41, 42, 43] (fun K hK => ?_)
        simp [wrap_i64 (a := (i : Int) + 1) (by omega)]
        apply hK; clear hK K
        exact ⟨l.length - (i + 1), [.int .i64 (cc + 1 : Nat), .int .i64 (i + 1 : Nat)], by omega, by simp, i + 1, cc + 1, rfl, by omega, hts.symm, rfl, rfl⟩
      · rw [if_neg (by simpa using hx)] at hts
        refine L_false (by simp; omega) ?_
        refine L_reg [3, 4, 5, 7, 8, 9, 41, 42, 43] (fun K hK => ?_)
        simp [wrap_i64 (a := (i : Int) + 1) (by omega)]
        apply hK; clear hK K
        exact ⟨l.length - (i + 1), [.int .i64 (cc : Nat), .int .i64 (i + 1 : Nat)], by omega, by simp, i + 1, cc, rfl, by omega, hts.symm, rfl, rfl⟩
    · have hil : i = l.length := by omega
      subst hil
      rw [List.take_of_length_le (by simp)] at hcc
      have hov : over n (l.map Int.ofNat) k = decide (k < cc) := by
        rw [over, ← hcc]; simp
      have hpr : provesS n (l.map Int.ofNat) k = if over n (l.map Int.ofNat) k then 0 else 14 := by
        rw [provesS, if_neg (by omega), if_neg (by omega)]
      refine L_reg [3, 4, 5, 7, 8, 9, 12] (fun K hK => ?_)
      simp [okFn_low]
      refine Proves_ac n k _ _ _ _ (by simp; omega) hvB ?_
      rw [hpr, hov]
      simp
      apply hK; clear hK K
      by_cases hx : k < cc
      · rw [decide_eq_true hx] at hov
        refine L_reg [3, 4, 5, 7, 8, 9, 72] (fun K hK => ?_)
        simp [hx, neqB4, pickV]
        apply hK; clear hK K
        refine L_false (by simp) ?_
        refine L_reg [3, 4, 5, 7, 8, 75] (fun K hK => ?_)
        simp
        apply hK; clear hK K
        refine L_true (by simp [hx]) ?_
        refine L_reg [3, 4, 5, 7, 8] (fun K hK => ?_)
        simp
        apply hK; clear hK K
        refine L_reg [3, 4, 5, 7, 8] (fun K hK => ?_)
        simp [wrap_i64 (a := (k : Int) - 1) (by omega)]
        apply hK; clear hK K
        refine ⟨k - 1, [.int .i64 (k : Nat), .int .i64 ((k - 1 : Nat) : Int)], by omega, by simp; omega, k - 1, k, rfl, by omega, ⟨fun j h1 h2 h3 => ⟨by omega, by omega⟩, fun _ => ⟨by omega, hk, hov⟩⟩, rfl, rfl⟩
      · rw [decide_eq_false hx] at hov
        refine L_reg [3, 4, 5, 7, 8, 9, 72] (fun K hK => ?_)
        simp [hx, neqB4, pickV]
        apply hK; clear hK K
        refine L_false (by simp) ?_
        refine L_reg [3, 4, 5, 7, 8, 75] (fun K hK => ?_)
        simp
        apply hK; clear hK K
        refine L_false (by simp [hx]) ?_
        refine L_reg [3, 4, 5, 7, 8] (fun K hK => ?_)
        simp [wrap_i64 (a := (k : Int) - 1) (by omega)]
        apply hK; clear hK K
        refine ⟨k - 1, [.int .i64 (x : Nat), .int .i64 ((k - 1 : Nat) : Int)], by omega, by simp; omega, k - 1, x, rfl, by omega, ⟨fun j h1 h2 h3 => ?_, fun h => ?_⟩, rfl, rfl⟩
        · rcases Nat.lt_or_ge k j with h | h
          · exact hL.1 j h h2 h3
          · have : j = k := by omega
            rw [this, hov] at h3; cases h3
        · have := hL.2 h
          exact ⟨by omega, this.2⟩
  · have hk' : k = 0 := by omega
    subst hk'
    have hag : againstS n (l.map Int.ofNat) = if x = 0 then (0, 13) else ((x : Int), 0) := by
      rw [againstS, if_neg (by omega)]
      exact fo_least n 0 (by omega) hL (fun j h1 h2 => by omega)
    have haw := away_over (n := n) (l := l) hlw
    have hiff : (-1 ∈ parkS n 0 l) ↔ x ≠ 0 := by
      rw [haw]
      constructor
      · rintro ⟨k, h1, h2, h3⟩
        exact (hL.1 k (by omega) h2 h3).1
      · intro hx
        obtain ⟨h1, h2, h3⟩ := hL.2 hx
        exact ⟨x, by omega, h2, h3⟩
    refine L_reg [5, 7, 13, 14] (fun K hK => ?_)
    simp [okFn_low]
    refine Against_ac n _ _ _ _ (by simp; omega) hvB ?_
    rw [hag]
    simp
    apply hK; clear hK K
    refine L_reg [7, 13, 14, 87] (fun K hK => ?_)
    simp [okFn_low]
    refine Contains_ac _ _ _ _ _ (by rw [parkS_length]; omega) hv3B ?_
    simp only [hiff]
    simp [neqB4, pickV]
    apply hK; clear hK K
    by_cases hx : x = 0
    · subst hx
      refine L_false (by simp) ?_
      refine L_reg [7, 13, 14, 89] (fun K hK => ?_)
      simp
      apply hK; clear hK K
      refine L_true (by simp) ?_
      refine L_reg [2] (fun K hK => ?_)
      simp [okFn_low, pickV]
      refine works_ac _ _ ?_
      simp [pickV]
      apply hK; clear hK K
      exact L_ret ⟨.inr rfl, _, rfl, by simp⟩
    · refine L_false (by simp [hx]; omega) ?_
      refine L_reg [7, 13, 14, 89] (fun K hK => ?_)
      simp
      apply hK; clear hK K
      refine L_false (by simp [hx]) ?_
      refine L_reg [2] (fun K hK => ?_)
      simp [okFn_low, pickV, hx]
      refine works_ac _ _ ?_
      simp [pickV]
      apply hK; clear hK K
      exact L_ret ⟨.inr rfl, _, rfl, by simp⟩

theorem carts_of {ns : List Int} (hl : ns.length = 10) (hb : ∀ x ∈ ns, IntKind.u8.min ≤ x ∧ x ≤ IntKind.u8.max) : ∃ (a c : Nat) (bs : List Nat), ns.map (AV.int .u8) = cartsV a c bs ∧ a < 256 ∧ c < 256 ∧ bs.length = 8 ∧ ∀ b ∈ bs, b < 256 := by
  have e1 : IntKind.u8.min = 0 := by decide
  have e2 : IntKind.u8.max = 255 := by decide
  rw [e1, e2] at hb
  match ns, hl, hb with
  | x :: y :: zs, hl, hb =>
    have hx := hb x (by simp)
    have hy := hb y (by simp)
    have hz : ∀ z ∈ zs, 0 ≤ z ∧ z ≤ 255 := fun z h => hb z (by simp [h])
    refine ⟨x.toNat, y.toNat, zs.map Int.toNat, ?_, by omega, by omega, by simpa using hl, fun b h => ?_⟩
    · simp only [cartsV, List.map_cons, List.map_map]
      rw [Int.toNat_of_nonneg hx.1, Int.toNat_of_nonneg hy.1]
      congr 2
      refine List.map_congr_left fun z hz' => ?_
      simp [Int.toNat_of_nonneg (hz z hz').1]
    · obtain ⟨z, hz', rfl⟩ := List.mem_map.1 h
      have := hz z hz'
      omega
theorem dockProved_ns (ns : List Int) (hl : ns.length = 10) (hb : ∀ x ∈ ns, IntKind.u8.min ≤ x ∧ x ≤ IntKind.u8.max) (H : AH) : AC Try.prog 9 [.agg (ns.map (.int .u8))] H fun u _ => u = .bool true := by
  obtain ⟨a, c, bs, e, ha, hc, hb8, hbs⟩ := carts_of hl hb
  rw [e]
  exact dockProved_ac a c bs H ha hc hb8 hbs
end Go.Proofs.Ytojblooaiojmcaa
