/- No plan with fewer locks does what a rule says: the walk. -/
import Derived.Test.YtcidcihpkdoejaaEdg
import Derived.Test.YtcidcihpkdoejaaSteM
import Derived.Test.YtcidcihpkdoejaaWMore
import Derived.Test.YtcidcihpkdoejaaWCounted
namespace Go.Proofs.Ytcidcihpkdoejaa.Bo
open Go Go.Proofs.Ytcidcihpkdoejaa Go.Proofs.Ytcidcihpkdoejaa.AX
set_option maxRecDepth 100000
theorem u_shl {P : Program} {t : TypeId} {l : Bool} (n : Nat) (h : n ≤ 3) : binV P .shl t l (.int .u64 1) (.int .i64 (n : Int)) = some (.int .u64 ((2 ^ n : Nat) : Int)) := by
  match n, h with
  | 0, _ => rfl
  | 1, _ => rfl
  | 2, _ => rfl
  | 3, _ => rfl
theorem w_shl {P : Program} {t : TypeId} {l : Bool} (n : Nat) (h : n ≤ 3) : binV P .shl t l (.int .i64 1) (.int .u64 ((2 ^ n : Nat) : Int)) = some (.int .i64 ((2 ^ 2 ^ n : Nat) : Int)) := by
  match n, h with
  | 0, _ => rfl
  | 1, _ => rfl
  | 2, _ => rfl
  | 3, _ => rfl
theorem w_le {n : Nat} (h : n ≤ 3) : 2 ^ 2 ^ n ≤ 256 := by
  match n, h with
  | 0, _ => decide
  | 1, _ => decide
  | 2, _ => decide
  | 3, _ => decide
theorem n_bitL {P : Program} {t : TypeId} {l : Bool} (x h : Nat) (hx : x < 256) : binV P .and t l (.int .i64 ((x >>> h : Nat) : Int)) (.int .i64 1) = some (.int .i64 (bN x h : Nat)) := by
  have h1 : x >>> h < 256 := Nat.lt_of_le_of_lt (by rw [Nat.shiftRight_eq_div_pow]; exact Nat.div_le_self _ _) hx
  rw [b_and]
  have h2 : (BitVec.ofInt IntKind.i64.bits ((x >>> h : Nat) : Int) &&& BitVec.ofInt IntKind.i64.bits 1).toNat = x >>> h &&& 1 := by
    show (BitVec.ofInt 64 ((x >>> h : Nat) : Int) &&& BitVec.ofInt 64 ((1 : Nat) : Int)).toNat = x >>> h &&& 1
    simp only [BitVec.toNat_and, BitVec.ofInt_natCast, BitVec.toNat_ofNat]
    rw [Nat.mod_eq_of_lt (by omega), Nat.mod_eq_of_lt (by decide)]
  have h3 : x >>> h &&& 1 ≤ x >>> h := Nat.and_le_left
  rw [h2, wrap_i64 (by omega), Nat.and_one_is_mod]
  congr 2
  unfold bN
  rw [Nat.testBit, Nat.and_comm, Nat.and_one_is_mod]
  rcases Nat.mod_two_eq_zero_or_one (x >>> h) with h | h <;> simp [h]
theorem belB_cA {N : Nat} {H : AH} {v : AV} {l : List AV} (h : OwnF N H v l) (n : Int) : belB H.length 4 (cA n v) = true := by
  rcases h with ⟨-, rfl⟩ | ⟨r, ver, stale, -, rfl, h3⟩
  · simp [belB, cA]
  · have := (List.getElem?_eq_some_iff.1 h3).1
    simp [belB, cA]; omega
theorem plan_x {N : Nat} {H : AH} {v : AV} {l : List Int} (h : OwnF N H v (l.map (.int .i64))) (n : Int) (Q : AV → AH → Prop) (hq : Q (cA n v) H) : AC Try.prog 47 [.int .i64 n, v] H Q :=
  AC.quiet (belB_cA h n) (fun Q h2 => plan_ac n v l H (ownF_ls h) Q h2) Q hq
theorem rule_x {N : Nat} {H : AH} {v : AV} {l : List Int} (h : OwnF N H v (l.map (.int .i64))) (n : Int) (Q : AV → AH → Prop) (hq : Q (cA n v) H) : AC Try.prog 44 [.int .i64 n, v] H Q :=
  AC.quiet (belB_cA h n) (fun Q h2 => rule_ac n v l H (ownF_ls h) Q h2) Q hq
set_option maxHeartbeats 4000000 in
theorem stein_ac {b : List Nat} (hb : Sb b) (H : AH) : AC Try.prog 7 [.agg (sV b)] H fun v _ => v = .bool true := by
  refine L_body 217 Try.func7 rfl rfl ?_
  obtain ⟨I, hI, hz⟩ := zeroT_some zt24
  obtain ⟨J, hJ, hzJ⟩ := zeroT_some zt40
  refine L_reg [1] (fun K hK => ?_)
  simp [AV.isU, acells]
  apply hK; clear hK K
  have r1 : (H ++ [AObj.row (sV b) 0 0 false])[H.length]? = some (.row (sV b) 0 0 false) := by simp
  generalize H ++ [AObj.row (sV b) 0 0 false] = H1 at r1 ⊢
  have a1 := ldn_sV hb.len r1
  refine L_reg [3, 4] (fun K hK => ?_)
  simp [okFn_low, a1]
  refine made_ac (most := 3) (by decide) (by decide) hb _ _ (fun v H2 hO hE2 => ?_)
  simp
  apply hK; clear hK K
  have hr := okS (most := 3) (by decide) (by decide) hb.len
  have hn3 := (sN_le (most := 3) (by decide) b).2
  have hll := sL_len 3 hb.len
  have hm9 := Nat.mod_lt b[1]! (show 0 < 9 by decide)
  clear a1 r1 hE2
  generalize sN 3 b = n at hr hn3 ⊢
  generalize sL 3 b = l at hr hll hO ⊢
  have lv := ownF_ls hO
  clear hO
  have hp := pw n
  have h64 := pw64 hr.n6
  have h8 : 2 ^ n ≤ 8 := by
    have : 2 ^ n ≤ 2 ^ 3 := Nat.pow_le_pow_right (by decide) hn3
    simpa using this
  have hK1 := locks_ok n l
  have hK2 : (locksS n l).length ≤ 2 ^ n := least_len _ _
  have hrK : OkR n (locksS n l) := ⟨hr.n1, hr.n6, by omega, hK1⟩
  have hKB := locks_len n l
  have hfew := few_is hr.n6 l
  have hfit := fun g (hg : g < 2 ^ n) => locks_fit (l := l) hg
  have hbm := most_ok (2 ^ n) (within l)
  have hbn := most_nodup (2 ^ n) (within l)
  have hone := fun b (hb : b ∈ mostS (2 ^ n) (within l)) => one_lack hb
  obtain ⟨k, hk⟩ : ∃ k, locksS n l = k := ⟨_, rfl⟩
  obtain ⟨B, hBe⟩ : ∃ B, mostS (2 ^ n) (within l) = B := ⟨_, rfl⟩
  rw [hk] at hK1 hK2 hrK hKB hfew hfit
  simp only [hk, hBe] at hone
  rw [hBe] at hKB hbm hbn
  refine L_reg [3, 4, 5] (fun K hK => ?_)
  simp [okFn_low]
  refine rule_ac n v (il l) _ lv _ (fun G1 hEG1 => ?_)
  have hstgr := st2 (t := 24) ag24 (n := n) (s := v) (k := 0) (n' := 0) (s' := nilS) (p := G1.length) (H := G1 ++ [AObj.row [.int .i64 0, nilS] 0 0 false]) (by simp) (by intro h; cases h) (ls_one lv)
  simp [hI, hz, hstgr, cA]
  apply hK; clear hK K
  have gr : (G1 ++ [AObj.row [.int .i64 n, v] 0 0 false])[G1.length]? = some (.row [.int .i64 n, v] 0 0 false) := by simp
  have hPgr : Ext G1 (G1 ++ [AObj.row [.int .i64 n, v] 0 0 false]) := .push _ _
  have hQgr := hEG1.trans hPgr
  have lv := lv.ext hQgr
  clear hstgr
  generalize G1 ++ [AObj.row [.int .i64 n, v] 0 0 false] = G2 at *
  generalize G1.length = pgr at *
  have hvk := ls_known lv
  have cr := ldn_c gr hvk
  refine L_reg [3, 4, 5, 6, 7] (fun K hK => ?_)
  simp [okFn_low, cr]
  refine Make_ok hr v _ lv _ (fun m G3 hOm hEG3 => ?_)
  rw [hk] at hOm
  have hstgm := st2 (t := 40) ag40 (n := n) (s := m) (k := 0) (n' := 0) (s' := nilS) (p := G3.length) (H := G3 ++ [AObj.row [.int .i64 0, nilS] 0 0 false]) (by simp) (by intro h; cases h) (ls_one (ownF_ls hOm))
  simp [hJ, hzJ, hstgm, cA]
  apply hK; clear hK K
  have gm : (G3 ++ [AObj.row [.int .i64 n, m] 0 0 false])[G3.length]? = some (.row [.int .i64 n, m] 0 0 false) := by simp
  have hPgm : Ext G3 (G3 ++ [AObj.row [.int .i64 n, m] 0 0 false]) := .push _ _
  have hQgm := hEG3.trans hPgm
  have lv := lv.ext hQgm
  have gr : (G3 ++ [AObj.row [.int .i64 n, m] 0 0 false])[pgr]? = some (.row [.int .i64 n, v] 0 0 false) := by rw [hQgm.2 _ (List.getElem?_eq_some_iff.1 gr).1]; exact gr
  have lm := (ownF_ls hOm).ext hPgm
  clear hstgm
  generalize G3 ++ [AObj.row [.int .i64 n, m] 0 0 false] = G4 at *
  generalize G3.length = pgm at *
  have hmk := ls_known lm
  have cr := ldn_c gr hvk
  refine L_reg [3, 4, 5, 6, 7, 8, 9] (fun K hK => ?_)
  simp [okFn_low, cr]
  refine Barred_ok hr v _ lv _ (fun y G5 hOy hEG5 => ?_)
  rw [hBe] at hOy
  simp
  apply hK; clear hK K
  have lv := lv.ext hEG5
  have lm := lm.ext hEG5
  have gr : G5[pgr]? = some (.row [.int .i64 n, v] 0 0 false) := by rw [hEG5.2 _ (List.getElem?_eq_some_iff.1 gr).1]; exact gr
  have gm : G5[pgm]? = some (.row [.int .i64 n, m] 0 0 false) := by rw [hEG5.2 _ (List.getElem?_eq_some_iff.1 gm).1]; exact gm
  have ly := (ownF_ls hOy)
  have c0 := ld_c0 gm
  have c1 := ld_c1 gm hmk
  have cm := ldn_c gm hmk
  have cr := ldn_c gr hvk
  have lnm := ls_len lm
  have lny := ls_len ly
  have lnv := ls_len lv
  rw [il_len] at lnm lny lnv
  have hshl : ∀ tt ll, binV Try.prog .shl tt ll (.int .i64 1) (.int .i64 (n : Int)) = some (.int .i64 ((2 ^ n : Nat) : Int)) := fun _ _ => n_shl n hr.n6
  have hush : ∀ tt ll, binV Try.prog .shl tt ll (.int .u64 1) (.int .i64 (n : Int)) = some (.int .u64 ((2 ^ n : Nat) : Int)) := fun _ _ => u_shl n hn3
  have hwsh : ∀ tt ll, binV Try.prog .shl tt ll (.int .i64 1) (.int .u64 ((2 ^ n : Nat) : Int)) = some (.int .i64 ((2 ^ 2 ^ n : Nat) : Int)) := fun _ _ => w_shl n hn3
  have hwle := w_le hn3
  have hFO := fun k2 (hk2 : OkR n k2) => fits_ok hr hk2
  have hFK := hFO k hrK
  obtain ⟨N, hN⟩ : ∃ N, 2 ^ n = N := ⟨_, rfl⟩
  rw [hN] at hp h64 h8 hK1 hK2 hfew hfit hbm hshl hush hwsh hwle hFO hFK
  obtain ⟨M, hM⟩ : ∃ M, 2 ^ N = M := ⟨_, rfl⟩
  rw [hM] at hwsh hwle hfew
  have e1 : (N : Int) - 1 = ((N - 1 : Nat) : Int) := by omega
  have hkN : ¬ (N : Int) < (k.length : Int) := by omega
  have hkB : ((k.length : Int) != (B.length : Int)) = false := by rw [hKB]; simp
  refine L_regQ mixed [3, 4, 5, 6, 8, 72] (by kernel_rfl) (fun K hK => ?_)
  simp [pickV, c0, c1, lnm, lny, hshl, hkN, hkB]
  apply hK; clear hK K
  refine L_false rfl ?_
  refine L_reg [3, 4, 5, 6, 8, 74, 75, 76] (fun K hK => ?_)
  simp [c1, lnm]
  apply hK; clear hK K
  refine L_block (L_loopV [76] (fun q vs H' => ∃ i : Nat, q = k.length - i ∧ i ≤ k.length ∧ vs = [.int .i64 i] ∧ G5 = H') _ [.int .i64 (0 : Nat)] rfl ⟨0, rfl, by omega, rfl, rfl⟩ ?_)
  rintro q _ _ ⟨i, rfl, hi, rfl, rfl⟩
  refine L_reg [3, 4, 5, 6, 8, 74, 75, 76, 77] (fun K hK => ?_)
  simp
  apply hK; clear hK K
  refine L_dec (i < k.length) (by simp) (fun hlt => ?_) (fun hge => L_exit ?_)
  · refine L_block ?_
    obtain ⟨rz, pz, vz, hix, hldz⟩ := il_ix lm hlt
    have hx := hK1 k[i] (List.getElem_mem hlt)
    generalize k[i] = x at hldz hx
    refine L_reg [3, 4, 5, 6, 8, 11, 74, 75, 76] (fun K hK => ?_)
    simp [hix, hldz]
    apply hK; clear hK K
    have hxn : ¬ (N : Int) ≤ (x : Int) := by omega
    have hx0 : ¬ (x : Int) < 0 := by omega
    refine L_reg [3, 4, 5, 6, 8, 74, 75, 76, 87] (fun K hK => ?_)
    simp [hx0, hshl, hxn, pickV]
    apply hK; clear hK K
    refine L_false (by simp) ?_
    refine L_reg [3, 4, 5, 6, 8, 74, 75, 76] (fun K hK => ?_)
    simp [wrap_i64 (a := (i : Int) + 1) (by omega)]
    apply hK; clear hK K
    exact ⟨k.length - (i + 1), [.int .i64 (i + 1 : Nat)], by omega, by simp, i + 1, rfl, by omega, rfl, rfl⟩
  refine L_reg [3, 4, 5, 6, 8, 12] (fun K hK => ?_)
  simp
  apply hK; clear hK K
  refine L_reg [3, 4, 5, 6, 8, 12, 91, 92] (fun K hK => ?_)
  simp [hush, hwsh]
  apply hK; clear hK K
  have hpr := (List.getElem?_eq_some_iff.1 gr).1
  have hpm := (List.getElem?_eq_some_iff.1 gm).1
  clear i hi hge
  refine L_block (L_loopV [12, 92] (fun q vs H' => ∃ s : Nat, q = M - s ∧ s ≤ M ∧ vs = [.int .i64 (fewS N l s : Nat), .int .i64 s] ∧ Ext G5 H') _ [.int .i64 (100 : Nat), .int .i64 (0 : Nat)] rfl ⟨0, rfl, by omega, rfl, .refl _⟩ ?_)
  rintro q _ H3 ⟨s, rfl, hs, rfl, hE3⟩
  refine L_reg [3, 4, 5, 6, 8, 12, 91, 92, 93] (fun K hK => ?_)
  simp
  apply hK; clear hK K
  refine L_dec (s < M) (by simp) (fun hlt => ?_) (fun hge => L_exit ?_)
  · refine L_block ?_
    have hs256 : s < 256 := by omega
    refine L_reg [3, 4, 5, 6, 8, 12, 13, 91, 92] (fun K hK => ?_)
    simp
    apply hK; clear hK K
    refine L_reg [3, 4, 5, 6, 8, 12, 13, 14, 91, 92] (fun K hK => ?_)
    simp
    apply hK; clear hK K
    refine L_reg [3, 4, 5, 6, 8, 12, 13, 14, 91, 92, 96, 97] (fun K hK => ?_)
    simp [hshl]
    apply hK; clear hK K
    refine L_block (L_loopV [14, 97] (fun q vs H' => ∃ (x : Nat) (u : AV), q = N - x ∧ x ≤ N ∧ vs = [u, .int .i64 x] ∧ Ext H3 H' ∧ OwnF H3.length H' u ((il ((List.range x).filter fun x => s.testBit x)).map (.int .i64))) _ [nilS, .int .i64 (0 : Nat)] rfl ⟨0, _, rfl, by omega, rfl, .refl _, OwnF.nil _ _⟩ ?_)
    rintro q _ H4 ⟨x, u, rfl, hx, rfl, hE4, ho⟩
    refine L_reg [3, 4, 5, 6, 8, 12, 13, 14, 91, 92, 96, 97, 98] (fun K hK => ?_)
    simp
    apply hK; clear hK K
    refine L_dec (x < N) (by simp) (fun hxl => ?_) (fun hxg => L_exit ?_)
    · refine L_block ?_
      refine L_reg [3, 4, 5, 6, 8, 12, 13, 14, 15, 91, 92, 96, 97] (fun K hK => ?_)
      simp
      apply hK; clear hK K
      have hshr : ∀ tt ll, binV Try.prog .shr tt ll (.int .i64 (s : Int)) (.int .i64 (x : Int)) = some (.int .i64 ((s >>> x : Nat) : Int)) := fun _ _ => n_shr s x (by omega)
      have hbit : ∀ tt ll, binV Try.prog .and tt ll (.int .i64 ((s >>> x : Nat) : Int)) (.int .i64 1) = some (.int .i64 (bN s x : Nat)) := fun _ _ => n_bitL s x hs256
      have hbe : bN s x = if s.testBit x then 1 else 0 := rfl
      generalize s >>> x = y0 at hshr hbit
      refine L_reg [3, 4, 5, 6, 8, 12, 13, 14, 15, 91, 92, 96, 97, 104] (fun K hK => ?_)
      simp [hshr, hbit]
      apply hK; clear hK K
      have hnx := rng_next (fun x => s.testBit x) x
      have hfl := filter_len (N := x) (fun x => s.testBit x)
      cases ht : s.testBit x with
      | true =>
        rw [ht] at hnx hbe
        obtain ⟨u', H5, happ, ho5, hE5⟩ := ownF_append (P := Try.prog) (m := 1) (x := .int .i64 x) hE4 el22 el22 ho rfl (by simp [il_len]; omega)
        refine L_true (by simp [hbe]) ?_
        refine L_reg [3, 4, 5, 6, 8, 12, 13, 14, 91, 92, 96, 97] (fun K hK => ?_)
        simp [happ]
        apply hK; clear hK K
        refine L_reg [3, 4, 5, 6, 8, 12, 13, 14, 91, 92, 96, 97] (fun K hK => ?_)
        simp [wrap_i64 (a := (x : Int) + 1) (by omega)]
        apply hK; clear hK K
        refine ⟨N - (x + 1), [u', .int .i64 (x + 1 : Nat)], by omega, by simp, x + 1, u', rfl, by omega, rfl, hE5, ?_⟩
        rw [hnx, if_pos rfl, nats_snoc]; exact ho5
      | false =>
        rw [ht] at hnx hbe
        refine L_false (by simp [hbe]) ?_
        refine L_reg [3, 4, 5, 6, 8, 12, 13, 14, 91, 92, 96, 97] (fun K hK => ?_)
        simp [wrap_i64 (a := (x : Int) + 1) (by omega)]
        apply hK; clear hK K
        refine ⟨N - (x + 1), [u, .int .i64 (x + 1 : Nat)], by omega, by simp, x + 1, u, rfl, by omega, rfl, hE4, ?_⟩
        rw [hnx, if_neg (by simp), List.append_nil]; exact ho
    have e : x = N := by omega
    rw [e] at ho
    change OwnF H3.length H4 u ((il (setK N s)).map (.int .i64)) at ho
    have hso := setK_ok N s
    have hsl := setK_len N s
    have hrS : OkR n (setK N s) := ⟨hr.n1, hr.n6, by omega, by rw [hN]; exact hso⟩
    have hFS := hFO _ hrS
    have hfs := fD_fit N (dfS l (setK N s))
    have hfb : fitB N l s = true ↔ ∀ g, g < N → dfS l (setK N s) g = false := by simp [fitB, List.all_eq_true]
    have hfw : fewS N l (s + 1) = if fitB N l s then min (fewS N l s) (setK N s).length else fewS N l s := rfl
    have hf100 := few_100 N l s
    have hso64 : okG 64 (setK N s) := fun o ho => by have := hso o ho; omega
    have hlo64 : okG 64 l := fun o ho => by have := hr.ok64 o ho; omega
    have hE5 := hE3.trans hE4
    have lv4 := lv.ext hE5
    have lu := ownF_ls ho
    have lnu := ls_len lu
    have lnv4 := ls_len lv4
    rw [il_len] at lnu lnv4
    have gr4 : H4[pgr]? = some (.row [.int .i64 n, v] 0 0 false) := by rw [hE5.2 _ hpr]; exact gr
    have cr4 := ldn_c gr4 hvk
    generalize setK N s = S at *
    refine L_reg [3, 4, 5, 6, 8, 12, 13, 14, 16, 91, 92] (fun K hK => ?_)
    simp
    apply hK; clear hK K
    refine L_reg [3, 4, 5, 6, 8, 12, 13, 14, 16, 17, 91, 92] (fun K hK => ?_)
    simp [hshl, e1, wrap_i64 (a := ((N - 1 : Nat) : Int)) (by omega)]
    apply hK; clear hK K
    refine L_block (L_loopV [16, 17] (fun q vs H' => ∃ j : Nat, q = j ∧ j ≤ N ∧ vs = [.int .i64 (fD (dfS l S) (N - j) j), .int .i64 ((j : Int) - 1)] ∧ H4 = H') _ [.int .i64 (-1), .int .i64 ((N - 1 : Nat) : Int)] rfl ⟨N, rfl, Nat.le_refl _, by rw [Nat.sub_self, ← e1]; rfl, rfl⟩ ?_)
    rintro j _ _ ⟨_, rfl, hj, rfl, rfl⟩
    refine L_reg [3, 4, 5, 6, 8, 12, 13, 14, 16, 17, 91, 92, 114] (fun K hK => ?_)
    simp
    apply hK; clear hK K
    refine L_dec (1 ≤ j) (by simp; omega) (fun hjl => ?_) (fun hjg => L_exit ?_)
    · refine L_block ?_
      obtain ⟨g, hg⟩ : ∃ g, j = g + 1 := ⟨j - 1, by omega⟩
      subst hg
      have hg1 : ((g + 1 : Nat) : Int) - 1 = (g : Int) := by omega
      rw [hg1]
      have hstep : fD (dfS l S) (N - g) g = if dfS l S g then (g : Int) else fD (dfS l S) (N - (g + 1)) (g + 1) := by
        rw [show N - g = (N - (g + 1)) + 1 by omega]; rfl
      generalize fD (dfS l S) (N - (g + 1)) (g + 1) = f0 at hstep ⊢
      refine L_reg [3, 4, 5, 6, 8, 12, 13, 14, 16, 17, 91, 92, 123] (fun K hK => ?_)
      simp [okFn_low]
      refine withinL_q l hlo64 (by omega) v g (by omega) _ lv4 _ ?_
      simp [okFn_low]
      refine meetsL_q S hso64 (by omega) u g (by omega) _ lu _ ?_
      simp [b_neqB Try.underlying4]
      apply hK; clear hK K
      have hdd : dfS l S g = !(within l g == meets S g) := rfl
      cases hd : dfS l S g with
      | true =>
        rw [hd, if_pos rfl] at hstep
        rw [hd] at hdd
        refine L_true (by simpa using hdd.symm) ?_
        refine L_reg [3, 4, 5, 6, 8, 12, 13, 14, 16, 17, 91, 92] (fun K hK => ?_)
        simp
        apply hK; clear hK K
        refine L_reg [3, 4, 5, 6, 8, 12, 13, 14, 16, 17, 91, 92] (fun K hK => ?_)
        simp [wrap_i64 (a := (g : Int) - 1) (by omega)]
        apply hK; clear hK K
        exact ⟨g, [.int .i64 (fD (dfS l S) (N - g) g), .int .i64 ((g : Int) - 1)], by omega, by rw [hstep]; rfl, g, rfl, by omega, rfl, rfl⟩
      | false =>
        rw [hd, if_neg (by simp)] at hstep
        rw [hd] at hdd
        refine L_false (by simpa using hdd.symm) ?_
        refine L_reg [3, 4, 5, 6, 8, 12, 13, 14, 16, 17, 91, 92] (fun K hK => ?_)
        simp [wrap_i64 (a := (g : Int) - 1) (by omega)]
        apply hK; clear hK K
        exact ⟨g, [.int .i64 (fD (dfS l S) (N - g) g), .int .i64 ((g : Int) - 1)], by omega, by rw [hstep]; rfl, g, rfl, by omega, rfl, rfl⟩
    have e : j = 0 := by omega
    subst e
    rw [Nat.sub_zero]
    generalize fD (dfS l S) N 0 = F at hfs ⊢
    refine L_reg [3, 4, 5, 6, 8, 12, 13, 14, 16, 91, 92, 126] (fun K hK => ?_)
    simp
    apply hK; clear hK K
    refine L_condK [3, 4, 5, 6, 8, 12, 13, 14, 16, 91, 92] (fun e' H' => e' = [(3, .int .i64 n), (4, v), (5, .ptr pgr 0 0), (6, .ptr pgm 0 0), (8, y), (12, .int .i64 (fewS N l (s + 1) : Nat)), (13, .int .i64 s), (14, u), (16, .int .i64 F), (91, .int .i64 M), (92, .int .i64 s)] ∧ H4 = H') (t := decide (F < 0)) (by simp) (fun ht => ?_) (fun ht => ?_) ?_
    · have hF := of_decide_eq_true ht
      have hfa : fitB N l s = true := by
        rcases hfs with ⟨-, -, -, h⟩ | ⟨h, -⟩
        · exact hfb.2 h
        · omega
      rw [hfa, if_pos rfl] at hfw
      have hmin : (min (fewS N l s) S.length : Nat) = fewS N l (s + 1) := hfw.symm
      refine L_reg [3, 4, 5, 6, 8, 12, 13, 14, 16, 91, 92] (fun K hK => ?_)
      simp [lnu]
      apply hK; clear hK K
      refine ⟨?_, rfl⟩
      rw [← hmin]
      simp
      omega
    · have hF := of_decide_eq_false ht
      have hfa : fitB N l s = false := by
        rcases hfs with ⟨h, -⟩ | ⟨-, -, -, g, h1, h2⟩
        · omega
        · cases hc : fitB N l s with
          | false => rfl
          | true => rw [hfb.1 hc g h1] at h2; cases h2
      rw [hfa, if_neg (by simp)] at hfw
      rw [hfw]
      exact ⟨rfl, rfl⟩
    rintro _ _ ⟨rfl, rfl⟩
    have m1 : (s : Int).tmod 5 = ((s % 5 : Nat) : Int) := rem_nat s 5
    have m2 : (l.length : Int).tmod 5 = ((l.length % 5 : Nat) : Int) := rem_nat l.length 5
    have mb1 := Nat.mod_lt s (show 0 < 5 by decide)
    have mb2 := Nat.mod_lt l.length (show 0 < 5 by decide)
    generalize s % 5 = z1 at m1 mb1
    generalize l.length % 5 = z2 at m2 mb2
    refine L_reg [3, 4, 5, 6, 8, 12, 14, 16, 91, 92, 136] (fun K hK => ?_)
    simp [m1, lnv4, m2]
    apply hK; clear hK K
    by_cases hz : z1 = z2
    · refine L_true (by simp [hz]) ?_
      refine L_regU mixed [true, false, false, false] [3, 4, 5, 6, 8, 12, 16, 18, 19, 91, 92] (by kernel_rfl) (fun K hK => ?_)
      simp [okFn_low, cr4]
      refine exX_mk (fun Q hQ => plan_x ho n Q hQ) (.refl _) ?_
      simp [okFn_low]
      refine exC_mk (fun Q hQ => Fits_q n n (il l) (il S) v u (by rw [il_len]; omega) (by rw [il_len]; omega) _ lv4 lu Q hQ) ?_
      rw [hFS.1, hFS.2]
      simp
      apply hK; clear hK K
      refine L_reg [3, 4, 5, 6, 8, 12, 91, 92, 167] (fun K hK => ?_)
      suffices hk2 : K [(3, .int .i64 n), (4, v), (5, .ptr pgr 0 0), (6, .ptr pgm 0 0), (8, y), (12, .int .i64 (fewS N l (s + 1) : Nat)), (91, .int .i64 M), (92, .int .i64 s), (167, .bool false)] H4 by
        rcases hfs with ⟨f1, f2, f3, -⟩ | ⟨f1, f2, f3, -⟩
        · rw [f2, f3]
          have g1 : ¬ 0 ≤ F := by omega
          simp [f1, g1, pickV]
          exact hk2
        · rw [f2, f3]
          have g1 : ¬ F < 0 := by omega
          simp [f1, g1, pickV]
          exact hk2
      apply hK; clear hK K
      refine L_false rfl ?_
      refine L_reg [3, 4, 5, 6, 8, 12, 91, 92] (fun K hK => ?_)
      simp [wrap_i64 (a := (s : Int) + 1) (by omega)]
      apply hK; clear hK K
      exact ⟨M - (s + 1), [.int .i64 (fewS N l (s + 1) : Nat), .int .i64 (s + 1 : Nat)], by omega, by simp, s + 1, rfl, by omega, rfl, hE5⟩
    · refine L_false (by simp; omega) ?_
      refine L_reg [3, 4, 5, 6, 8, 12, 91, 92] (fun K hK => ?_)
      simp [wrap_i64 (a := (s : Int) + 1) (by omega)]
      apply hK; clear hK K
      exact ⟨M - (s + 1), [.int .i64 (fewS N l (s + 1) : Nat), .int .i64 (s + 1 : Nat)], by omega, by simp, s + 1, rfl, by omega, rfl, hE5⟩
  have e : s = M := by omega
  subst e
  rw [hfew]
  have gr3 : H3[pgr]? = some (.row [.int .i64 n, v] 0 0 false) := by rw [hE3.2 _ hpr]; exact gr
  have gm3 : H3[pgm]? = some (.row [.int .i64 n, m] 0 0 false) := by rw [hE3.2 _ hpm]; exact gm
  have cr3 := ldn_c gr3 hvk
  have cm3 := ldn_c gm3 hmk
  have d1 := ld_c1 gm3 hmk
  have lv3 := lv.ext hE3
  have lm3 := lm.ext hE3
  have ly3 := ly.ext hE3
  have lnm3 := ls_len lm3
  have lny3 := ls_len ly3
  rw [il_len] at lnm3 lny3
  refine L_reg [6, 8, 12, 21] (fun K hK => ?_)
  simp [okFn_low, cr3, cm3]
  refine Fits_q n n (il l) (il k) v m (by rw [il_len]; omega) (by rw [il_len]; omega) _ lv3 lm3 _ ?_
  have hnone := fit_none (N := N) (p := dfS l k) (fun g hg => by unfold dfS; rw [hfit g hg]; simp)
  rw [hFK.2, hnone.2]
  simp
  apply hK; clear hK K
  refine L_reg [6, 8, 183] (fun K hK => ?_)
  simp [d1, lnm3, pickV]
  apply hK; clear hK K
  refine L_false (by simp) ?_
  refine L_reg [6, 8, 22] (fun K hK => ?_)
  simp [make_I (P := Try.prog) (t := 75) (d := (.int .i64, .bool false)) (by kernel_rfl)]
  apply hK; clear hK K
  have hm0 : MapI (H3 ++ [AObj.map (mapL [])]) H3.length [] := by simp [MapI]
  have hE0 : Ext H3 (H3 ++ [AObj.map (mapL [])]) := .push _ _
  generalize H3 ++ [AObj.map (mapL [])] = HM at hm0 hE0 ⊢
  obtain ⟨pm, hpme⟩ : ∃ pm, H3.length = pm := ⟨_, rfl⟩
  rw [hpme] at hm0
  try rw [hpme]
  have lny0 := ls_len (ly3.ext hE0)
  rw [il_len] at lny0
  refine L_reg [6, 22, 185, 186, 187] (fun K hK => ?_)
  simp [lny0]
  apply hK; clear hK K
  refine L_block (L_loopV [187] (fun q vs H' => ∃ (i : Nat) (Mp : List (Int × AV)), q = B.length - i ∧ i ≤ B.length ∧ vs = [.int .i64 i] ∧ Ext H3 H' ∧ MapI H' pm Mp ∧ ∀ x : Int, (Mp.lookup x).isSome = true → ∃ b', b' ∈ B.take i ∧ ∃ j : Nat, lackS 0 k b' = [j] ∧ x = j) _ [.int .i64 (0 : Nat)] rfl ⟨0, [], rfl, by omega, rfl, hE0, hm0, fun x hx => by simp [List.lookup] at hx⟩ ?_)
  clear hm0 hE0 lny0 HM
  rintro q _ H4 ⟨i, Mp, rfl, hi, rfl, hE4, hm4, hinv⟩
  refine L_reg [6, 22, 185, 186, 187, 188] (fun K hK => ?_)
  simp
  apply hK; clear hK K
  refine L_dec (i < B.length) (by simp) (fun hil => ?_) (fun hig => L_exit ?_)
  · refine L_block ?_
    obtain ⟨rz, pz, vz, hix, hldz⟩ := il_ix (ly3.ext hE4) hil
    have hxB : B[i] ∈ B := List.getElem_mem hil
    have hxN := hbm B[i] hxB
    obtain ⟨j, j1, j2, j3⟩ := hone B[i] hxB
    have htk : B.take (i + 1) = B.take i ++ [B[i]] := by rw [List.take_succ_eq_append_getElem hil]
    have hnot : B[i] ∉ B.take i := by
      have hn := hbn
      rw [← List.take_append_drop i B, List.drop_eq_getElem_cons hil, List.nodup_append] at hn
      intro hm
      exact hn.2.2 _ hm _ List.mem_cons_self rfl
    have hlook : Mp.lookup (j : Int) = none := by
      cases hc : Mp.lookup (j : Int) with
      | none => rfl
      | some z =>
        exfalso
        obtain ⟨b', b1, j', b2, b3⟩ := hinv j (by rw [hc]; rfl)
        obtain ⟨j'', c1, c2, c3⟩ := hone b' (List.mem_of_mem_take b1)
        have hjj : j' = j'' := by rw [b2] at c1; simpa using c1
        have hjx : j = j' := by omega
        have hcm : Bo.cm n b' = Bo.cm n B[i] := by rw [← c3, ← j3, ← hjj, hjx]
        have hb'N := hbm b' (List.mem_of_mem_take b1)
        have : b' = B[i] := by
          have e1 := cm_cm (n := n) (g := b') (by rw [hN]; exact hb'N)
          have e2 := cm_cm (n := n) (g := B[i]) (by rw [hN]; exact hxN)
          rw [← e1, ← e2, hcm]
        rw [this] at b1
        exact hnot b1
    generalize hxe : B[i] = x at hldz hxN j1 htk
    refine L_reg [6, 22, 24, 185, 186, 187] (fun K hK => ?_)
    simp [hix, hldz]
    apply hK; clear hK K
    have gm4 : H4[pgm]? = some (.row [.int .i64 n, m] 0 0 false) := by rw [hE4.2 _ (List.getElem?_eq_some_iff.1 gm3).1]; exact gm3
    have cm4 := ldn_c gm4 hmk
    refine L_reg [6, 22, 25, 26, 185, 186, 187] (fun K hK => ?_)
    simp [okFn_low, cm4]
    refine Lacks_ok hrK m x (by rw [hN]; exact hxN) _ (lm3.ext hE4) _ (fun v' H5 ho5 hE5 => ?_)
    rw [j1] at ho5
    simp
    apply hK; clear hK K
    have l5 := ownF_ls ho5
    have ln5 := ls_len l5
    obtain ⟨r5, p5, v5, hix5, hld5⟩ := il_ix (l := [j]) l5 (i := 0) (by simp)
    have hix50 : ∀ k : IntKind, aIndexAddr Try.prog 22 v' (.int k 0) = some (.ptr r5 p5 v5) := fun k => by simpa using hix5 k
    have hld50 : ld H5 r5 p5 v5 = some (.int .i64 (j : Nat)) := hld5
    have hm5 : MapI H5 pm Mp := by
      unfold MapI at hm4 ⊢
      rw [hE5.2 _ (List.getElem?_eq_some_iff.1 hm4).1]; exact hm4
    have hlk := look_I (P := Try.prog) (t := 75) (z := .bool false) (k := (j : Int)) (ok := false) (by kernel_rfl) hm5
    rw [hlook] at hlk
    have hlk2 : aLook Try.prog H5 75 (.map pm) (.int .i64 (j : Int)) false = some (.bool false) := hlk
    have hput := put_I (P := Try.prog) (t := 75) (z := .bool false) (k := (j : Int)) (v := .bool true) (by kernel_rfl) hm5
    have ln5' : aLen Try.prog 22 v' = some (.int .i64 1) := by simpa [il] using ln5
    refine L_reg [6, 22, 25, 185, 186, 187, 210] (fun K hK => ?_)
    simp [ln5', hix50, hld50, hlk2, pickV]
    apply hK; clear hK K
    refine L_false rfl ?_
    refine L_reg [6, 22, 185, 186, 187] (fun K hK => ?_)
    simp [hix50, hld50, hput]
    apply hK; clear hK K
    refine L_reg [6, 22, 185, 186, 187] (fun K hK => ?_)
    simp [wrap_i64 (a := (i : Int) + 1) (by omega)]
    apply hK; clear hK K
    refine ⟨B.length - (i + 1), [.int .i64 (i + 1 : Nat)], by omega, by simp, i + 1, AX.putL (j : Int) (.bool true) Mp, rfl, by omega, rfl, (hE4.trans hE5).set _ (by omega), get_set hm5, fun z hz => ?_⟩
    rw [putL_look] at hz
    by_cases hzj : z = j
    · exact ⟨x, by rw [htk]; simp, j, j1, hzj⟩
    · rw [if_neg hzj] at hz
      obtain ⟨b', b1, b2⟩ := hinv z hz
      exact ⟨b', by rw [htk]; simp [b1], b2⟩
  refine L_reg [2] (fun K hK => ?_)
  simp [okFn_low]
  refine works_ac _ _ ?_
  simp
  apply hK; clear hK K
  exact L_ret ⟨.inr rfl, _, rfl, rfl⟩
end Go.Proofs.Ytcidcihpkdoejaa.Bo
