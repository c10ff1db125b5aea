/- Groups with other numbers, and lists that are sorted. -/
import Derived.Test.YtcidcihpkdoejaaSortN
import Derived.Test.YtcidcihpkdoejaaPub4
import Derived.Test.YtcidcihpkdoejaaThree
import Derived.Test.YtcidcihpkdoejaaWMore
namespace Go.Proofs.Ytcidcihpkdoejaa.Bo
open Go Go.Proofs.Ytcidcihpkdoejaa Go.Proofs.Ytcidcihpkdoejaa.AX
set_option maxRecDepth 100000
theorem n_shlb {P : Program} {t : TypeId} {l : Bool} (b x : Nat) (hb : b ≤ 1) (h : x ≤ 6) : binV P .shl t l (.int .i64 (b : Int)) (.int .i64 (x : Int)) = some (.int .i64 ((b <<< x : Nat) : Int)) := by
  rcases (show b = 0 ∨ b = 1 by omega) with rfl | rfl
  · match x, h with
    | 0, _ => rfl
    | 1, _ => rfl
    | 2, _ => rfl
    | 3, _ => rfl
    | 4, _ => rfl
    | 5, _ => rfl
    | 6, _ => rfl
  · match x, h with
    | 0, _ => rfl
    | 1, _ => rfl
    | 2, _ => rfl
    | 3, _ => rfl
    | 4, _ => rfl
    | 5, _ => rfl
    | 6, _ => rfl
theorem bN_bt (x h : Nat) : bN x h = bt x h := by rw [bt_bit]; rfl
theorem Re.plt {n : Nat} {to : List Nat} (h : Re n to) (g : Nat) {j : Nat} (hj : j ≤ n) : mv to g j < 2 ^ n := by
  apply Nat.lt_pow_two_of_testBit
  intro i hi
  cases hb : (mv to g j).testBit i with
  | false => rfl
  | true =>
    obtain ⟨x, h1, h2, -⟩ := (mv_bit to g j i).1 hb
    have := h.lt (i := x) (by omega)
    omega
def mvL (n : Nat) (to l : List Nat) : List Nat := l.map fun o => mv to o n
theorem moved_n {n : Nat} (hn : n ≤ 6) {to : List Nat} (hR : Re n to) (l : List Nat) (hl : okG (2 ^ n) l) (hlen : l.length ≤ 1000000) {u t : AV} {p5 p8 k5 k8 : Nat} (H : AH) (hu : Ls H u (il l)) (h5 : H[p5]? = some (.row [.int .i64 n] 0 k5 false)) (h8 : H[p8]? = some (.row [t] 0 k8 false)) (ht : Ls H t (il to))
    (Q : AV → AH → Prop) (h : ∀ v H', OwnN H.length H' v (il (mvL n to l)) → Ext H H' → Q v H') : AC Try.prog 58 [u, .ptr p5 0 0, .ptr p8 0 0] H Q := by
  refine L_body 38 Try.func58 rfl rfl ?_
  have h64 := pw64 hn
  have hvl := ls_len hu
  rw [il_len] at hvl
  have htl := hR.len
  refine L_reg [0, 1, 2] (fun K hK => ?_)
  simp
  apply hK; clear hK K
  refine L_reg [0, 1, 2, 5] (fun K hK => ?_)
  simp
  apply hK; clear hK K
  refine L_reg [1, 2, 5, 10, 11, 12] (fun K hK => ?_)
  simp [hvl]
  apply hK; clear hK K
  refine L_block (L_loopV [5, 12] (fun q vs H' => ∃ (i : Nat) (v : AV), q = l.length - i ∧ i ≤ l.length ∧ vs = [v, .int .i64 i] ∧ Ext H H' ∧ OwnN H.length H' v (il (mvL n to (l.take i)))) _ [nilS, .int .i64 (0 : Nat)] rfl ⟨0, _, rfl, by omega, rfl, .refl _, fun _ => rfl, OwnF.nil _ _⟩ ?_)
  rintro q _ H1 ⟨i, v, rfl, hi, rfl, hE1, ho⟩
  refine L_reg [1, 2, 5, 10, 11, 12, 13] (fun K hK => ?_)
  simp
  apply hK; clear hK K
  refine L_dec (i < l.length) (by simp) (fun hlt => ?_) (fun hge => L_exit ?_)
  · refine L_block ?_
    obtain ⟨rz, pz, vz, hix, hldz⟩ := il_ix (hu.ext hE1) hlt
    have hx := hl l[i] (List.getElem_mem hlt)
    have htk : mvL n to (l.take (i + 1)) = mvL n to (l.take i) ++ [mv to l[i] n] := by
      unfold mvL
      rw [List.take_succ_eq_append_getElem hlt, List.map_append]; rfl
    generalize l[i] = x at hldz hx htk
    have f5 : ld H1 p5 0 0 = some (.int .i64 n) := by
      rw [ld_row (s := k5) (ro := false) (by rw [hE1.2 _ (List.getElem?_eq_some_iff.1 h5).1]; exact h5)]; rfl
    have f8 : ld H1 p8 0 0 = some t := by
      rw [ld_row (s := k8) (ro := false) (by rw [hE1.2 _ (List.getElem?_eq_some_iff.1 h8).1]; exact h8)]; simpa using ls_known ht
    refine L_reg [1, 2, 5, 7, 10, 11, 12] (fun K hK => ?_)
    simp [hix, hldz]
    apply hK; clear hK K
    refine L_reg [1, 2, 5, 7, 8, 10, 11, 12] (fun K hK => ?_)
    simp
    apply hK; clear hK K
    refine L_reg [1, 2, 5, 7, 8, 10, 11, 12, 16, 17] (fun K hK => ?_)
    simp [f5]
    apply hK; clear hK K
    refine L_block (L_loopV [8, 17] (fun q vs H' => ∃ j : Nat, q = n - j ∧ j ≤ n ∧ vs = [.int .i64 (mv to x j : Nat), .int .i64 j] ∧ H1 = H') _ [.int .i64 (0 : Nat), .int .i64 (0 : Nat)] rfl ⟨0, rfl, by omega, rfl, rfl⟩ ?_)
    rintro q _ _ ⟨j, rfl, hj, rfl, rfl⟩
    refine L_reg [1, 2, 5, 7, 8, 10, 11, 12, 16, 17, 18] (fun K hK => ?_)
    simp
    apply hK; clear hK K
    refine L_dec (j < n) (by simp) (fun hjl => ?_) (fun hjg => L_exit ?_)
    · refine L_block ?_
      refine L_reg [1, 2, 5, 7, 8, 9, 10, 11, 12, 16, 17] (fun K hK => ?_)
      simp
      apply hK; clear hK K
      obtain ⟨r2, q2, v2, hix2, hld2⟩ := il_ix (ht.ext hE1) (i := j) (by omega)
      have hto : to[j]'(by omega) = to[j]! := (getElem!_pos to j (by omega)).symm
      rw [hto] at hld2
      have hlt2 := hR.lt hjl
      have hmv : mv to x (j + 1) = mv to x j ||| bN x j <<< to[j]! := by rw [bN_bt]; rfl
      have hml := hR.plt x (show j ≤ n by omega)
      have hm2 := hR.plt x (show j + 1 ≤ n by omega)
      have hb1 : bN x j ≤ 1 := by unfold bN; split <;> omega
      generalize to[j]! = z at hld2 hlt2 hmv
      have hsl : bN x j <<< z < 64 := by
        rw [Nat.shiftLeft_eq]
        have : 2 ^ z ≤ 2 ^ 5 := Nat.pow_le_pow_right (by decide) (by omega)
        have : bN x j * 2 ^ z ≤ 1 * 2 ^ 5 := Nat.mul_le_mul hb1 this
        omega
      have hshr : ∀ tt ll, binV Try.prog .shr tt ll (.int .i64 (x : Int)) (.int .i64 (j : Int)) = some (.int .i64 ((x >>> j : Nat) : Int)) := fun _ _ => n_shr x j (by omega)
      have hbit : ∀ tt ll, binV Try.prog .and tt ll (.int .i64 ((x >>> j : Nat) : Int)) (.int .i64 1) = some (.int .i64 (bN x j : Nat)) := fun _ _ => n_bit x j (by omega)
      have hshl : ∀ tt ll, binV Try.prog .shl tt ll (.int .i64 (bN x j : Nat)) (.int .i64 (z : Int)) = some (.int .i64 ((bN x j <<< z : Nat) : Int)) := fun _ _ => n_shlb _ z hb1 (by omega)
      have hor : ∀ tt ll, binV Try.prog .or tt ll (.int .i64 (mv to x j : Nat)) (.int .i64 ((bN x j <<< z : Nat) : Int)) = some (.int .i64 (mv to x (j + 1) : Nat)) := fun _ _ => by rw [n_or _ _ (by omega) hsl, hmv]
      generalize bN x j <<< z = w at hshl hor
      generalize bN x j = b at hbit hshl
      generalize x >>> j = y at hshr hbit
      generalize hM2 : mv to x (j + 1) = m2 at hor hm2
      generalize mv to x j = m1 at hor ⊢
      refine L_regT mixed [1, 2, 5, 7, 8, 10, 11, 12, 16, 17] (by kernel_rfl) (fun K hK => ?_)
      simp [hshr, hbit, f8, hix2, hld2, hshl, hor]
      apply hK; clear hK K
      refine L_reg [1, 2, 5, 7, 8, 10, 11, 12, 16, 17] (fun K hK => ?_)
      simp [wrap_i64 (a := (j : Int) + 1) (by omega)]
      apply hK; clear hK K
      exact ⟨n - (j + 1), [.int .i64 (mv to x (j + 1) : Nat), .int .i64 (j + 1 : Nat)], by omega, by rw [hM2]; simp, j + 1, rfl, by omega, rfl, rfl⟩
    · have e : j = n := by omega
      subst e
      obtain ⟨v', H3, happ, ho3, hE3⟩ := ownF_append (P := Try.prog) (m := 1) (x := .int .i64 (mv to x j : Nat)) hE1 el22 el22 ho.2 rfl (by simp [il_len, mvL]; omega)
      refine L_reg [1, 2, 5, 10, 11, 12] (fun K hK => ?_)
      simp [happ]
      apply hK; clear hK K
      refine L_reg [1, 2, 5, 10, 11, 12] (fun K hK => ?_)
      simp [wrap_i64 (a := (i : Int) + 1) (by omega)]
      apply hK; clear hK K
      refine ⟨l.length - (i + 1), [v', .int .i64 (i + 1 : Nat)], by omega, by simp, i + 1, v', rfl, by omega, rfl, hE3, ?_⟩
      rw [htk]
      exact ⟨fun h0 => by simp [il] at h0, by rw [nats_snoc]; exact ho3⟩
  · have e : i = l.length := by omega
    subst e
    rw [List.take_length] at ho
    refine L_reg [4] (fun K hK => ?_)
    simp
    apply hK; clear hK K
    exact L_ret ⟨.inr rfl, _, rfl, h v H1 ho hE1⟩
/-- A sorted copy. -/
theorem sorted_n {u : AV} {L d : List Int} (hL : L.length ≤ 127) (hd : d.Pairwise (· < ·)) (hp : d.Perm L) (H : AH) (hu : Ls H u L) (hnil : L = [] → u = nilS) (Q : AV → AH → Prop) (h : ∀ v H', OwnN H.length H' v d → Ext H H' → Q v H') : AC Try.prog 59 [u] H Q := by
  refine L_body 9 Try.func59 rfl rfl ?_
  refine L_reg [0] (fun K hK => ?_)
  simp
  apply hK; clear hK K
  have hCl : ∀ Q : AV → AH → Prop, (∀ v' H', OwnN H.length H' v' L → Ext H H' → Q v' H') → AC Try.prog 56 [u] H Q := fun Q hq => by
    by_cases h0 : L = []
    · have hu0 := hnil h0
      subst hu0
      refine L_body 8 Try.func56 rfl rfl ?_
      refine L_reg [0] (fun K hK => ?_)
      simp
      apply hK; clear hK K
      refine L_reg [0, 4] (fun K hK => ?_)
      simp [eq_nil]
      apply hK; clear hK K
      refine L_true rfl ?_
      refine L_reg [2] (fun K hK => ?_)
      simp
      apply hK; clear hK K
      subst h0
      exact L_ret ⟨.inr rfl, _, rfl, hq _ _ ⟨fun _ => rfl, .nil _ _⟩ (.refl _)⟩
    · exact Clone_ac u L H Q (by omega) hu fun v' H' ho hE => hq v' H' ⟨fun e => absurd e h0, ho⟩ hE
  refine L_reg [3] (fun K hK => ?_)
  simp [okFn_low]
  refine hCl _ (fun v' H1 ho hE1 => ?_)
  simp
  apply hK; clear hK K
  refine L_reg [3] (fun K hK => ?_)
  simp [okFn_low]
  refine sort_own hE1 ho.2 hL _ fun H2 m hmp hms ho2 hE2 => ?_
  simp
  apply hK; clear hK K
  have hdn : d.Nodup := hd.imp (by intro a b h; omega)
  have hmn : m.Nodup := (hmp.trans hp.symm).nodup_iff.2 hdn
  have hmd : m = d := sorted_ext (hms.imp₂ (fun a b h1 h2 => by omega) hmn) hd fun x => (hmp.trans hp.symm).mem_iff
  subst hmd
  refine L_reg [2] (fun K hK => ?_)
  simp
  apply hK; clear hK K
  exact L_ret ⟨.inr rfl, _, rfl, h v' H2 ⟨fun h0 => ho.1 (by have := hp.length_eq; rw [h0] at this; exact List.length_eq_zero_iff.1 this.symm), ho2⟩ hE2⟩
end Go.Proofs.Ytcidcihpkdoejaa.Bo
