/- Stores by numbers. -/
import Derived.Test.YtfbpgnjeafadmaaLSpr
namespace Go.Proofs.Ytfbpgnjeafadmaa.Fl
open Go Go.Proofs.Ytfbpgnjeafadmaa Go.Proofs.Ytfbpgnjeafadmaa.AX
set_option maxRecDepth 100000

def lsV (H : AH) (l : List Int) : AV := match l with | [] => .slice none 0 0 0 1 false | _ :: _ => .slice (some H.length) 0 l.length 0 1 false
def lsH (H : AH) (l : List Int) : AH := match l with | [] => H | _ :: _ => H ++ [.row (l.map (.int .i64)) 0 l.length false]
theorem AC.tidyL {P : Program} {f : FuncId} {args : List AV} {l : List Int} {H : AH} (h : ∀ Q : AV → AH → Prop, (∀ v' H', OwnN H.length H' v' l → Ext H H' → Q v' H') → AC P f args H Q) (Q : AV → AH → Prop) (hq : Q (lsV H l) (lsH H l)) : AC P f args H Q := by
  cases l with
  | nil =>
    refine AC.quiet (v := .slice none 0 0 0 1 false) rfl (fun Q h2 => h Q fun v' H' hO hE => ?_) Q hq
    rw [hO.1 rfl]; exact h2 H' hE
  | cons x l =>
    refine AC.tidy (l := (x :: l).map (.int .i64)) (by simp) (belB_ints _ _) (fun Q h2 => h Q fun v' H' hO hE => h2 v' H' hO.2 hE) Q ?_
    simpa [lsV, lsH] using hq
theorem lsH_ext (H : AH) (l : List Int) : Ext H (lsH H l) := by
  cases l with
  | nil => exact .refl _
  | cons x l => exact .push _ _
theorem lsV_own (H : AH) (l : List Int) (N : Nat) (hN : N ≤ H.length) : OwnF N (lsH H l) (lsV H l) (l.map (.int .i64)) := by
  cases l with
  | nil => exact OwnF.nil _ _
  | cons x l => exact .inr ⟨H.length, 0, (x :: l).length, hN, by simp [lsV], by simp [lsH]⟩
def rowOf : AV → Option Nat
  | .slice (some r) _ _ _ _ _ => some r
  | _ => none
theorem ownF_row {N : Nat} {H : AH} {v : AV} {l : List AV} (h : OwnF N H v l) {j : Nat} (hj : rowOf v = some j) : N ≤ j := by
  rcases h with ⟨-, rfl⟩ | ⟨r, ver, s, h1, rfl, -⟩
  · cases hj
  · cases hj; exact h1
theorem ownF_at {N : Nat} {H H' : AH} {v : AV} {l : List AV} (h : OwnF N H v l) (he : ∀ j, rowOf v = some j → H'[j]? = H[j]?) : OwnF N H' v l := by
  rcases h with h | ⟨r, ver, s, h1, rfl, h3⟩
  · exact .inl h
  · exact .inr ⟨r, ver, s, h1, rfl, by rw [he r rfl]; exact h3⟩
theorem reverse_own (N : Nat) (v : AV) (l : List Int) (H : AH) (Q : AV → AH → Prop) (hO : OwnF N H v (l.map (.int .i64))) (hl : l.length ≤ 1000000) (h : ∀ H', OwnF N H' v (l.reverse.map (.int .i64)) → (∀ j, rowOf v ≠ some j → H'[j]? = H[j]?) → H'.length = H.length → Q (.tuple []) H') : AC Try.prog 84 [v] H Q := by
  rcases hO with ⟨h1, rfl⟩ | ⟨w, ver, s, h1, rfl, h3⟩
  · have hnil : l = [] := by simpa using h1
    subst hnil
    have hww : IntKind.i64.wrap ((0 : Int) - 1) = -1 := wrap_i64 (by omega)
    refine L_body 28 Try.func84 rfl rfl ?_
    refine L_reg [0, 2, 3] (fun K hK => ?_)
    simp [wrap_i64 (a := (-1 : Int)) (by omega)]
    apply hK; clear hK K
    refine L_block (L_loopV [2, 3] (fun q vs H' => q = 0 ∧ vs = [.int .i64 0, .int .i64 (-1)] ∧ H = H') 0 [.int .i64 0, .int .i64 (-1)] rfl ⟨rfl, rfl, rfl⟩ ?_)
    rintro q _ _ ⟨rfl, rfl, rfl⟩
    refine L_reg [0, 2, 3, 9] (fun K hK => ?_)
    simp
    apply hK; clear hK K
    refine L_false (by simp) ?_
    refine L_exit ?_
    exact ⟨.inl rfl, _, rfl, h H (OwnF.nil _ _) (fun _ _ => rfl) rfl⟩
  · rw [List.length_map]
    refine reverse_ac w ver s l H Q h3 hl fun s' => h _ ?_ (fun j hj => ?_) (by simp)
    · exact .inr ⟨w, ver, s', h1, by simp, get_set h3⟩
    · rw [List.getElem?_set_ne]
      intro e
      exact hj (by rw [e]; rfl)
def adn (p q : Nat) : Nat := (BitVec.ofNat 32 p &&& ~~~BitVec.ofNat 32 q).toNat
theorem adn_bit {p q : Nat} (hp : p < 4294967296) (i : Nat) : (adn p q).testBit i = (p.testBit i && !q.testBit i) := by
  unfold adn
  rw [BitVec.testBit_toNat, BitVec.getLsbD_and, BitVec.getLsbD_not, BitVec.getLsbD_ofNat, BitVec.getLsbD_ofNat]
  by_cases hi : i < 32
  · simp [hi]
  · have : p.testBit i = false := Nat.testBit_lt_two_pow (Nat.lt_of_lt_of_le hp (Nat.pow_le_pow_right (n := 2) (i := 32) (by decide) (by omega)))
    simp [hi, this]
theorem adn_lt {p q n : Nat} (hp : p < 4294967296) (h : p < 2 ^ n) : adn p q < 2 ^ n := by
  refine Nat.lt_pow_two_of_testBit _ fun i hi => ?_
  rw [adn_bit hp, Nat.testBit_lt_two_pow (Nat.lt_of_lt_of_le h (Nat.pow_le_pow_right (by decide) hi))]
  rfl
theorem n_adn {P : Program} {t : TypeId} {l : Bool} (p q : Nat) : binV P .andNot t l (.int .u32 (p : Int)) (.int .u32 (q : Int)) = some (.int .u32 (adn p q : Nat)) := by
  rw [b_andNot]
  have h1 : (BitVec.ofInt IntKind.u32.bits (p : Int) &&& ~~~BitVec.ofInt IntKind.u32.bits (q : Int)).toNat = adn p q := by
    show (BitVec.ofInt 32 (p : Int) &&& ~~~BitVec.ofInt 32 (q : Int)).toNat = adn p q
    rw [ofInt_nat, ofInt_nat]; rfl
  rw [h1, wrapN32 (BitVec.isLt _)]
theorem res_cell4 {P : Program} {fn : Func} {e : Env} {H : AH} {a b c d : Tmp} {t u : TypeId} {v1 v2 u1 u2 : AV} (hr : fn.results = #[.cell a t, .cell b u, .tmp c, .tmp d]) (hv : loadV P t H (eget e a) = some v1) (hw : loadV P u H (eget e b) = some v2) (h2 : eget e c = u1) (h3 : eget e d = u2) :
    aResults P fn e H = some (.tuple [v1, v2, u1, u2]) := by
  have g1 : aRes1 P e H (.cell a t) = some v1 := hv
  have g0 : aRes1 P e H (.cell b u) = some v2 := hw
  have g2 : ∀ x, aRes1 P e H (.tmp x) = some (eget e x) := fun _ => rfl
  simp [aResults, hr, aResList, g0, g1, g2, h2, h3]
theorem bd57 (m n : Int) : aBuilt Try.prog 57 [(0, .int .i64 m), (1, .int .i64 n)] = some [.int .i64 m, .int .i64 n] := by kernel_rfl
theorem bd24s (m n : Int) (a : Option Nat) (b c d e : Nat) (f : Bool) (a' : Option Nat) (b' c' d' e' : Nat) (f' : Bool) : aBuilt Try.prog 24 [(0, .int .i64 m), (1, .int .i64 n), (2, .slice a b c d e f), (3, .slice a' b' c' d' e' f')] = some [.int .i64 m, .int .i64 n, .slice a b c d e f, .slice a' b' c' d' e' f'] := by kernel_rfl
theorem lsV_slice (H : AH) (l : List Int) : ∃ a b c d e f, lsV H l = .slice a b c d e f := by
  cases l <;> exact ⟨_, _, _, _, _, _, rfl⟩
theorem bd24l (m n : Int) (H H' : AH) (l l' : List Int) : aBuilt Try.prog 24 [(0, .int .i64 m), (1, .int .i64 n), (2, lsV H l), (3, lsV H' l')] = some [.int .i64 m, .int .i64 n, lsV H l, lsV H' l'] := by
  obtain ⟨a, b, c, d, e, f, h1⟩ := lsV_slice H l
  obtain ⟨a', b', c', d', e', f', h2⟩ := lsV_slice H' l'
  rw [h1, h2, bd24s]
theorem st24 {H : AH} {p s : Nat} {m n : Int} {c : List AV} {u w : AV} (hr : H[p]? = some (.row c 0 s false)) (hc : c.length = 4) (hk : ∀ v ∈ c, v ≠ .undef) (hu : u.one = true) (hw : w.one = true) : storeV Try.prog 24 H (.ptr p 0 0) (.agg [.int .i64 m, .int .i64 n, u, w]) = some (none, H.set p (.row [.int .i64 m, .int .i64 n, u, w] 0 0 false)) :=
  store_agg ag24 hr (by decide) hc hk rfl (by
    intro v hv
    simp only [List.mem_cons, List.not_mem_nil, or_false] at hv
    rcases hv with rfl | rfl | rfl | rfl
    · rfl
    · rfl
    · exact hu
    · exact hw)
theorem st57 {H : AH} {p s : Nat} {m n : Int} {a b : Int} (hr : H[p]? = some (.row [.int .i64 a, .int .i64 b] 0 s false)) : storeV Try.prog 57 H (.ptr p 0 0) (.agg [.int .i64 m, .int .i64 n]) = some (none, H.set p (.row [.int .i64 m, .int .i64 n] 0 0 false)) :=
  store_agg ag57 hr (by decide) rfl (by simp) rfl (by simp [AV.one])
def zst0 : Unit := ()
theorem pt24 {H G : AH} {p : Nat} {m n : Int} {u w : AV} (hr : H[p]? = some (.row [.int .i64 0, .int .i64 0, .slice none 0 0 0 1 false, .slice none 0 0 0 1 false] 0 0 false)) (hu : u.one = true) (hw : w.one = true) (hG : H.set p (.row [.int .i64 m, .int .i64 n, u, w] 0 0 false) = G) : storeV Try.prog 24 H (.ptr p 0 0) (.agg [.int .i64 m, .int .i64 n, u, w]) = some (none, G) := by
  rw [st24 hr rfl (by simp) hu hw, hG]
def zst : List AV := [.int .i64 0, .int .i64 0, .slice none 0 0 0 1 false, .slice none 0 0 0 1 false]
set_option maxHeartbeats 2000000 in
theorem made_ac (a b x y most : Nat) (fz : Bool) (ha : a < 256) (hb : b < 256) (hx : x < 4294967296) (hy : y < 4294967296) (hm : most = 3 ∨ most = 5) (H : AH) (Q : AV → AH → Prop)
    (h : ∀ r c n s z v1 v2 H', r ≤ most → c ≤ most → Sd r c → r * c = n → s < 2 ^ n → z < 2 ^ n → (∀ b, tb z b = true → tb s b = false) → (fz = false → z = 0) → OwnF H.length H' v1 ((num (tb s)).reverse.map (.int .i64)) → OwnF H.length H' v2 ((num (tb z)).map (.int .i64)) → Ext H H' → Q (.tuple [.agg [.int .i64 r, .int .i64 c, v1, v2], .agg [.int .i64 r, .int .i64 c], .int .u32 s, .int .u32 z]) H') :
    AC Try.prog 40 [.agg [.int .u8 a, .int .u8 b, .int .u32 x, .int .u32 y], .int .i64 most, .bool fz] H Q := by
  refine L_body 62 Try.func40 rfl rfl ?_
  obtain ⟨I, hI, hz⟩ := zeroT_some zt24
  obtain ⟨J, hJ, hj⟩ := zeroT_some zt57
  have hz : I.zero = zst := hz
  refine L_reg [1, 2, 3, 6, 7] (fun K hK => ?_)
  simp [AV.isU, acells, hI, hz, hJ, hj]
  apply hK; clear hK K
  have d3 : (H ++ [AObj.row [.int .u8 a, .int .u8 b, .int .u32 x, .int .u32 y] 0 0 false, AObj.row zst 0 0 false, AObj.row [.int .i64 0, .int .i64 0] 0 0 false])[H.length]? = some (.row [.int .u8 a, .int .u8 b, .int .u32 x, .int .u32 y] 0 0 false) := by simp
  have d6 : (H ++ [AObj.row [.int .u8 a, .int .u8 b, .int .u32 x, .int .u32 y] 0 0 false, AObj.row zst 0 0 false, AObj.row [.int .i64 0, .int .i64 0] 0 0 false])[H.length + 1]? = some (.row zst 0 0 false) := by simp
  have d7 : (H ++ [AObj.row [.int .u8 a, .int .u8 b, .int .u32 x, .int .u32 y] 0 0 false, AObj.row zst 0 0 false, AObj.row [.int .i64 0, .int .i64 0] 0 0 false])[H.length + 2]? = some (.row [.int .i64 0, .int .i64 0] 0 0 false) := by simp
  have hE : Ext H (H ++ [AObj.row [.int .u8 a, .int .u8 b, .int .u32 x, .int .u32 y] 0 0 false, AObj.row zst 0 0 false, AObj.row [.int .i64 0, .int .i64 0] 0 0 false]) := .push _ _
  have hL : (H ++ [AObj.row [.int .u8 a, .int .u8 b, .int .u32 x, .int .u32 y] 0 0 false, AObj.row zst 0 0 false, AObj.row [.int .i64 0, .int .i64 0] 0 0 false]).length = H.length + 3 := by simp
  generalize H ++ [AObj.row [.int .u8 a, .int .u8 b, .int .u32 x, .int .u32 y] 0 0 false, AObj.row zst 0 0 false, AObj.row [.int .i64 0, .int .i64 0] 0 0 false] = H1 at d3 d6 d7 hE hL ⊢
  obtain ⟨r, hr⟩ : ∃ r, 1 + a % most = r := ⟨_, rfl⟩
  obtain ⟨c, hc⟩ : ∃ c, 1 + b % most = c := ⟨_, rfl⟩
  have hm1 : 1 ≤ most := by omega
  have hrm : r ≤ most := by have := Nat.mod_lt a hm1; omega
  have hcm : c ≤ most := by have := Nat.mod_lt b hm1; omega
  have hs : Sd r c := ⟨by omega, by omega, by omega, by omega⟩
  obtain ⟨n, hn⟩ : ∃ n, r * c = n := ⟨_, rfl⟩
  have h25 := hs.le
  rw [hn] at h25
  have e0 : ld H1 H.length 0 0 = some (.int .u8 a) := by rw [ld_row d3]; rfl
  have e1 : ld H1 H.length 1 0 = some (.int .u8 b) := by rw [ld_row d3]; rfl
  have m0 : (most : Int) ≠ 0 := by omega
  have m0' : most ≠ 0 := by omega
  have ra := rem_nat a most
  have rb := rem_nat b most
  have wa : IntKind.i64.wrap (a : Int) = a := wrap_i64 (by omega)
  have wb : IntKind.i64.wrap (b : Int) = b := wrap_i64 (by omega)
  obtain ⟨a', ha'⟩ : ∃ a', a % most = a' := ⟨_, rfl⟩
  obtain ⟨b', hb'⟩ : ∃ b', b % most = b' := ⟨_, rfl⟩
  rw [ha'] at ra hr
  rw [hb'] at rb hc
  have wr : IntKind.i64.wrap (1 + (a' : Int)) = r := by rw [wrap_i64 (by omega)]; omega
  have wc : IntKind.i64.wrap (1 + (b' : Int)) = c := by rw [wrap_i64 (by omega)]; omega
  have hst1 : storeV Try.prog 57 (H1 ++ [AObj.row [.int .i64 0, .int .i64 0] 0 0 false]) (.ptr H1.length 0 0) (.agg [.int .i64 r, .int .i64 c]) = some (none, H1 ++ [AObj.row [.int .i64 r, .int .i64 c] 0 0 false]) := by
    rw [st57 (a := 0) (b := 0) (s := 0) (by simp)]; simp
  have ex1 : ∀ l : AH, Ext H1 (H1 ++ l) := fun l => .push _ _
  refine L_regU mixed [false, true, false, false, false, false, false, true, false, false, false, false, false, false] [2, 3, 6, 7, 10] (by kernel_rfl) (fun K hK => ?_)
  simp [e0, e1, m0', ra, rb, wa, wb, wr, wc, hJ, hj, hst1, ex1]
  apply hK; clear hK K
  have d10 : (H1 ++ [AObj.row [.int .i64 r, .int .i64 c] 0 0 false])[H.length + 3]? = some (.row [.int .i64 r, .int .i64 c] 0 0 false) := by rw [← hL]; simp
  have hL2 : (H1 ++ [AObj.row [.int .i64 r, .int .i64 c] 0 0 false]).length = H.length + 4 := by simp [hL]
  rw [hL]
  replace d3 := (ex1 [AObj.row [.int .i64 r, .int .i64 c] 0 0 false]).row d3
  replace d6 := (ex1 [AObj.row [.int .i64 r, .int .i64 c] 0 0 false]).row d6
  replace d7 := (ex1 [AObj.row [.int .i64 r, .int .i64 c] 0 0 false]).row d7
  replace hE := hE.trans (ex1 [AObj.row [.int .i64 r, .int .i64 c] 0 0 false])
  clear e0 e1 hst1 ex1 hL
  generalize H1 ++ [AObj.row [.int .i64 r, .int .i64 c] 0 0 false] = H2 at d3 d6 d7 d10 hE hL2 ⊢
  have e0 := ld_f0 d10
  have e1 := ld_f1 d10
  have e2 : ld H2 H.length 2 0 = some (.int .u32 x) := by rw [ld_row d3]; rfl
  have e3 : ld H2 H.length 3 0 = some (.int .u32 y) := by rw [ld_row d3]; rfl
  have em : (r : Int) * c = n := by rw [← hn]; simp
  have wn : IntKind.i64.wrap (n : Int) = n := wrap_i64 (by omega)
  have hshl : ∀ tt ll, binV Try.prog .shl tt ll (.int .u32 1) (.int .i64 (n : Int)) = some (.int .u32 ((1 <<< n : Nat) : Int)) := fun tt ll => n_shl32 n (by omega)
  have hp : 1 <<< n = 2 ^ n := by rw [Nat.shiftLeft_eq, Nat.one_mul]
  have hp1 : 1 ≤ 2 ^ n := Nat.one_le_two_pow
  have hp2 : 2 ^ n ≤ 33554432 := Nat.le_trans (Nat.pow_le_pow_right (by decide) h25) (by decide)
  rw [hp] at hshl
  obtain ⟨A, hA⟩ : ∃ A, 2 ^ n - 1 = A := ⟨_, rfl⟩
  obtain ⟨B, hB⟩ : ∃ B, 2 ^ n = B := ⟨_, rfl⟩
  rw [hB] at hshl hp1 hp2 hA
  have wA : IntKind.u32.wrap ((B : Int) - 1) = A := by rw [wrap_u32 (by omega)]; omega
  refine L_reg [2, 3, 6, 7, 10, 11] (fun K hK => ?_)
  simp [e0, e1, em, wn, hshl, wA]
  apply hK; clear hK K
  have hA32 : A < 4294967296 := by omega
  have handx : ∀ tt ll, binV Try.prog .and tt ll (.int .u32 (x : Int)) (.int .u32 (A : Int)) = some (.int .u32 ((x &&& A : Nat) : Int)) := fun tt ll => n_and32 x A hx hA32
  have handy : ∀ tt ll, binV Try.prog .and tt ll (.int .u32 (y : Int)) (.int .u32 (A : Int)) = some (.int .u32 ((y &&& A : Nat) : Int)) := fun tt ll => n_and32 y A hy hA32
  have hxl : x &&& A < 2 ^ n := by rw [← hA, ← hB]; exact Nat.lt_of_le_of_lt Nat.and_le_right (by omega)
  have hyl : y &&& A < 2 ^ n := by rw [← hA, ← hB]; exact Nat.lt_of_le_of_lt Nat.and_le_right (by omega)
  obtain ⟨s, hsx⟩ : ∃ s, x &&& A = s := ⟨_, rfl⟩
  obtain ⟨p, hpx⟩ : ∃ p, y &&& A = p := ⟨_, rfl⟩
  rw [hsx] at hxl handx
  rw [hpx] at hyl handy
  refine L_reg [2, 3, 6, 7, 10, 11, 12] (fun K hK => ?_)
  simp [e2, handx]
  apply hK; clear hK K
  refine L_reg [2, 3, 6, 7, 10, 11, 12, 13] (fun K hK => ?_)
  simp
  apply hK; clear hK K
  refine L_reg [3, 6, 7, 10, 11, 12, 13, 39] (fun K hK => ?_)
  simp
  apply hK; clear hK K
  have hp32 := p32 h25 hyl
  refine L_condK [6, 7, 10, 12, 13] (fun e' H' => ∃ z : Nat, z < 2 ^ n ∧ (∀ b, tb z b = true → tb s b = false) ∧ (fz = false → z = 0) ∧ e' = [(6, .ptr (H.length + 1) 0 0), (7, .ptr (H.length + 2) 0 0), (10, .ptr (H.length + 3) 0 0), (12, .int .u32 s), (13, .int .u32 z)] ∧ H2 = H') (t := fz) (by simp) (fun ht => ?_) (fun ht => ?_) ?_
  · have hadn : ∀ tt ll, binV Try.prog .andNot tt ll (.int .u32 (p : Int)) (.int .u32 (s : Int)) = some (.int .u32 (adn p s : Nat)) := fun tt ll => n_adn p s
    refine L_reg [6, 7, 10, 12, 13] (fun K hK => ?_)
    simp [e3, handy, hadn]
    apply hK; clear hK K
    refine ⟨adn p s, adn_lt hp32 hyl, fun b hb => ?_, fun hf => (by rw [ht] at hf; cases hf), by simp, rfl⟩
    have : (adn p s).testBit b = true := hb
    rw [adn_bit hp32] at this
    simp only [Bool.and_eq_true, Bool.not_eq_true'] at this
    exact this.2
  · exact ⟨0, Nat.two_pow_pos n, fun b hb => by simp [tb] at hb, fun _ => rfl, rfl, rfl⟩
  rintro _ _ ⟨z, hzl, hdis, hz0, rfl, rfl⟩
  have hs32 := p32 h25 hxl
  have hz32 := p32 h25 hzl
  have hfin2 : ∀ v1 v2 H', OwnF H.length H' v1 ((num (tb s)).reverse.map (.int .i64)) → OwnF H.length H' v2 ((num (tb z)).map (.int .i64)) → Ext H H' → Q (.tuple [.agg [.int .i64 r, .int .i64 c, v1, v2], .agg [.int .i64 r, .int .i64 c], .int .u32 s, .int .u32 z]) H' := fun v1 v2 H' g1 g2 g3 => h r c n s z v1 v2 H' hrm hcm hs hn hxl hzl hdis hz0 g1 g2 g3
  clear h hdis hz0 handx handy hshl e2 e3 hyl hpx hsx
  have ex : ∀ l : AH, Ext H2 (H2 ++ l) := fun l => .push _ _
  have ex1 : ∀ a (l : AH), Ext (H2 ++ [a]) (H2 ++ a :: l) := fun a l => by have := Ext.push (H2 ++ [a]) l; simpa using this
  have ex2 : ∀ a b (l : AH), Ext (H2 ++ [a, b]) (H2 ++ a :: b :: l) := fun a b l => by have := Ext.push (H2 ++ [a, b]) l; simpa using this
  have hbs : ∀ (H : AH) (Q : AV → AH → Prop), Q (lsV H (num (tb s))) (lsH H (num (tb s))) → AC Try.prog 43 [.int .u32 s] H Q := fun H Q hQ => AC.tidyL (fun Q h => bits_ac s hs32 H Q h) Q hQ
  have hbz : ∀ (H : AH) (Q : AV → AH → Prop), Q (lsV H (num (tb z))) (lsH H (num (tb z))) → AC Try.prog 43 [.int .u32 z] H Q := fun H Q hQ => AC.tidyL (fun Q h => bits_ac z hz32 H Q h) Q hQ
  have hnl := num_len (tb s)
  obtain ⟨L, hLs⟩ : ∃ L, num (tb s) = L := ⟨_, rfl⟩
  obtain ⟨M, hMz⟩ : ∃ M, num (tb z) = M := ⟨_, rfl⟩
  rw [hLs] at hbs hfin2 hnl
  rw [hMz] at hbz hfin2
  refine L_regR mixed (fun K hK => ?_)
  have hfin : ∀ (p : Nat) (v1 v2 : AV) (H9 : AH), H2.length ≤ p → v1.one = true → v2.one = true → OwnF H2.length H9 v1 (L.map (.int .i64)) → OwnF H2.length H9 v2 (M.map (.int .i64)) → (∀ a, rowOf v1 = some a → a ≠ p ∧ rowOf v2 ≠ some a) → H9[p]? = some (.row [.int .i64 r, .int .i64 c, v1, v2] 0 0 false) → Ext H2 H9 →
      K .normal [(6, .ptr (H.length + 1) 0 0), (7, .ptr (H.length + 2) 0 0), (10, .ptr (H.length + 3) 0 0), (12, .int .u32 s), (13, .int .u32 z), (14, .ptr p 0 0)] H9 := by
    intro p v1 v2 H9 hp hv1 hv2 hO1 hO2 hdis hrow hE9
    apply hK; clear hK K
    replace d6 := hE9.row d6
    replace d7 := hE9.row d7
    replace d10 := hE9.row d10
    replace hE := hE.trans hE9
    have k1 : v1 ≠ .undef := one_known hv1
    have k2 : v2 ≠ .undef := one_known hv2
    have a2 : ld H9 p 2 0 = some v1 := by rw [ld_row hrow]; show known (some v1) = some v1; cases v1 <;> first | rfl | exact absurd rfl k1
    refine L_reg [6, 7, 10, 12, 13, 14] (fun K hK => ?_)
    simp [okFn_low, a2]
    refine reverse_own H2.length v1 L H9 _ hO1 (by omega) (fun H10 hO3 hk hlen => ?_)
    simp
    apply hK; clear hK K
    have hg : ∀ j, j < H2.length → H10[j]? = H9[j]? := fun j hj => hk j fun e => by
      have := ownF_row hO1 e
      omega
    have c6 : H10[H.length + 1]? = some (.row zst 0 0 false) := by rw [hg _ (by omega)]; exact d6
    have c7 : H10[H.length + 2]? = some (.row [.int .i64 0, .int .i64 0] 0 0 false) := by rw [hg _ (by omega)]; exact d7
    have c10 : H10[H.length + 3]? = some (.row [.int .i64 r, .int .i64 c] 0 0 false) := by rw [hg _ (by omega)]; exact d10
    have cp : H10[p]? = some (.row [.int .i64 r, .int .i64 c, v1, v2] 0 0 false) := by rw [hk p fun e => (hdis p e).1 rfl]; exact hrow
    have cO2 : OwnF H2.length H10 v2 (M.map (.int .i64)) := ownF_at hO2 fun j hj => hk j fun e => (hdis j e).2 hj
    have cE : Ext H H10 := ⟨by rw [hlen]; exact hE.1, fun j hj => by rw [hg j (by omega)]; exact hE.2 j hj⟩
    clear d6 d7 d10 hrow hO1 hO2 hE a2 hk hg
    have a14 := ldn4 cp k1 k2
    have a10 := ldn_f c10
    have hst6 := st24 (m := r) (n := c) c6 rfl (by simp [zst]) hv1 hv2
    have c7' : (H10.set (H.length + 1) (.row [.int .i64 r, .int .i64 c, v1, v2] 0 0 false))[H.length + 2]? = some (.row [.int .i64 0, .int .i64 0] 0 0 false) := by rw [List.getElem?_set_ne (by omega)]; exact c7
    have hst7 := st57 (m := r) (n := c) c7'
    have f6 : ((H10.set (H.length + 1) (.row [.int .i64 r, .int .i64 c, v1, v2] 0 0 false)).set (H.length + 2) (.row [.int .i64 r, .int .i64 c] 0 0 false))[H.length + 1]? = some (.row [.int .i64 r, .int .i64 c, v1, v2] 0 0 false) := by rw [List.getElem?_set_ne (by omega)]; exact get_set c6
    have f7 := get_set (o' := .row [.int .i64 r, .int .i64 c] 0 0 false) c7'
    have hlate : ∀ j, H2.length ≤ j → ((H10.set (H.length + 1) (.row [.int .i64 r, .int .i64 c, v1, v2] 0 0 false)).set (H.length + 2) (.row [.int .i64 r, .int .i64 c] 0 0 false))[j]? = H10[j]? := fun j hj => by rw [List.getElem?_set_ne (by omega), List.getElem?_set_ne (by omega)]
    have fE : Ext H ((H10.set (H.length + 1) (.row [.int .i64 r, .int .i64 c, v1, v2] 0 0 false)).set (H.length + 2) (.row [.int .i64 r, .int .i64 c] 0 0 false)) := (cE.set _ (by omega)).set _ (by omega)
    refine L_regS mixed [H.length + 1, H.length + 2] [false, true, false, false, false] [6, 7, 8, 9] (by kernel_rfl) (fun K hK => ?_)
    simp [a14, a10, hst6, hst7]
    refine ⟨(KeepS.refl _ _).set (by simp) _, ?_⟩
    apply hK; clear hK K
    have ld24' := ldn4 f6 k1 k2
    refine L_ret ⟨.inr rfl, _, res_cell4 rfl (by simp [ld24']) (by simp [ldn_f f7]) rfl rfl, hfin2 v1 v2 _ ?_ ?_ fE⟩
    · exact (ownF_at hO3 fun j hj => hlate j (ownF_row hO3 hj)).mono (by omega)
    · exact (ownF_at cO2 fun j hj => hlate j (ownF_row cO2 hj)).mono (by omega)
  clear hLs hMz hnl
  have hzz : I.zero = [.int .i64 0, .int .i64 0, .slice none 0 0 0 1 false, .slice none 0 0 0 1 false] := hz
  rcases L with _ | ⟨l0, L0⟩ <;> rcases M with _ | ⟨m0, M0⟩
  · -- [] []
    refine AWR_pair (x := 5) (y := 9) (ord := [0, 1, 2, 3, 4, 6, 9, 5, 7, 8, 10]) (by kernel_rfl) ?_ ?_
    · refine AWR_pair (x := 7) (y := 9) (ord := [0, 1, 2, 3, 4, 5, 6, 9, 7, 8, 10]) (by kernel_rfl) ?_ ?_
      · refine AWR_U [6, 7, 10, 12, 13, 14] [false, true, false, true, false, false, false, false, false, false] rfl (by kernel_rfl) ?_
        have hpt : storeV Try.prog 24 (H2 ++ [.row zst 0 0 false]) (.ptr H2.length 0 0) (.agg [.int .i64 r, .int .i64 c, .slice none 0 0 0 1 false, .slice none 0 0 0 1 false]) = some (none, H2 ++ [.row [.int .i64 r, .int .i64 c, .slice none 0 0 0 1 false, .slice none 0 0 0 1 false] 0 0 false]) := pt24 (by simp [zst]) rfl rfl (by simp)
        simp [zst] at hpt
        simp [addE, okFn_low, e0, e1]
        first | refine exX_mk (fun Q hQ => hbs _ Q hQ) (.refl _) ?_ | refine exX_mk (fun Q hQ => hbs _ Q hQ) (ex _) ?_ | refine exC_mk (fun Q hQ => hbs _ Q hQ) ?_
        simp [okFn_low, lsV, lsH]
        first | refine exX_mk (fun Q hQ => hbz _ Q hQ) (.refl _) ?_ | refine exX_mk (fun Q hQ => hbz _ Q hQ) (ex _) ?_ | refine exC_mk (fun Q hQ => hbz _ Q hQ) ?_
        simp [bd24s, hI, hz, ex, lsV, lsH, zst, hpt]
        refine hfin H2.length (.slice none 0 0 0 1 false) (.slice none 0 0 0 1 false) (H2 ++ [.row [.int .i64 r, .int .i64 c, .slice none 0 0 0 1 false, .slice none 0 0 0 1 false] 0 0 false]) (by omega) rfl rfl ?_ ?_ ?_ ?_ (ex _)
        · exact OwnF.nil _ _
        · exact OwnF.nil _ _
        · intro a ha; first | (cases ha; done) | (cases ha; exact ⟨by omega, fun e => by first | cases e | (have := Option.some.inj e; omega)⟩)
        · simp
      · refine AWR_U [6, 7, 10, 12, 13, 14] [false, true, false, true, false, false, false, false, false] rfl (by kernel_rfl) ?_
        have hpt : storeV Try.prog 24 (H2 ++ [.row zst 0 0 false]) (.ptr H2.length 0 0) (.agg [.int .i64 r, .int .i64 c, .slice none 0 0 0 1 false, .slice none 0 0 0 1 false]) = some (none, H2 ++ [.row [.int .i64 r, .int .i64 c, .slice none 0 0 0 1 false, .slice none 0 0 0 1 false] 0 0 false]) := pt24 (by simp [zst]) rfl rfl (by simp)
        simp [zst] at hpt
        simp [addE, permL, okFn_low, e0, e1]
        first | refine exX_mk (fun Q hQ => hbs _ Q hQ) (.refl _) ?_ | refine exX_mk (fun Q hQ => hbs _ Q hQ) (ex _) ?_ | refine exC_mk (fun Q hQ => hbs _ Q hQ) ?_
        simp [okFn_low, hI, hz, ex, lsV, lsH]
        first | refine exX_mk (fun Q hQ => hbz _ Q hQ) (.refl _) ?_ | refine exX_mk (fun Q hQ => hbz _ Q hQ) (ex _) ?_ | refine exC_mk (fun Q hQ => hbz _ Q hQ) ?_
        simp [bd24s, lsV, lsH, zst, hpt]
        refine hfin H2.length (.slice none 0 0 0 1 false) (.slice none 0 0 0 1 false) (H2 ++ [.row [.int .i64 r, .int .i64 c, .slice none 0 0 0 1 false, .slice none 0 0 0 1 false] 0 0 false]) (by omega) rfl rfl ?_ ?_ ?_ ?_ (ex _)
        · exact OwnF.nil _ _
        · exact OwnF.nil _ _
        · intro a ha; first | (cases ha; done) | (cases ha; exact ⟨by omega, fun e => by first | cases e | (have := Option.some.inj e; omega)⟩)
        · simp
    · refine AWR_U [6, 7, 10, 12, 13, 14] [false, true, false, true, false, false, false, false, false] rfl (by kernel_rfl) ?_
      have hpt : storeV Try.prog 24 (H2 ++ [.row zst 0 0 false]) (.ptr H2.length 0 0) (.agg [.int .i64 r, .int .i64 c, .slice none 0 0 0 1 false, .slice none 0 0 0 1 false]) = some (none, H2 ++ [.row [.int .i64 r, .int .i64 c, .slice none 0 0 0 1 false, .slice none 0 0 0 1 false] 0 0 false]) := pt24 (by simp [zst]) rfl rfl (by simp)
      simp [zst] at hpt
      simp [addE, permL, okFn_low, e0, e1, hI, hz, ex]
      first | refine exX_mk (fun Q hQ => hbs _ Q hQ) (.refl _) ?_ | refine exX_mk (fun Q hQ => hbs _ Q hQ) (ex _) ?_ | refine exC_mk (fun Q hQ => hbs _ Q hQ) ?_
      simp [okFn_low, lsV, lsH]
      first | refine exX_mk (fun Q hQ => hbz _ Q hQ) (.refl _) ?_ | refine exX_mk (fun Q hQ => hbz _ Q hQ) (ex _) ?_ | refine exC_mk (fun Q hQ => hbz _ Q hQ) ?_
      simp [bd24s, lsV, lsH, zst, hpt]
      refine hfin H2.length (.slice none 0 0 0 1 false) (.slice none 0 0 0 1 false) (H2 ++ [.row [.int .i64 r, .int .i64 c, .slice none 0 0 0 1 false, .slice none 0 0 0 1 false] 0 0 false]) (by omega) rfl rfl ?_ ?_ ?_ ?_ (ex _)
      · exact OwnF.nil _ _
      · exact OwnF.nil _ _
      · intro a ha; first | (cases ha; done) | (cases ha; exact ⟨by omega, fun e => by first | cases e | (have := Option.some.inj e; omega)⟩)
      · simp
  · -- [] (m0 :: M0)
    refine AWR_pair (x := 5) (y := 9) (ord := [0, 1, 2, 3, 4, 6, 9, 5, 7, 8, 10]) (by kernel_rfl) ?_ ?_
    · refine AWR_pair (x := 7) (y := 9) (ord := [0, 1, 2, 3, 4, 5, 6, 9, 7, 8, 10]) (by kernel_rfl) ?_ ?_
      · refine AWR_U [6, 7, 10, 12, 13, 14] [false, true, false, true, false, false, false, false, false, false] rfl (by kernel_rfl) ?_
        have hpt : storeV Try.prog 24 (H2 ++ [.row ((m0 :: M0).map (.int .i64)) 0 (m0 :: M0).length false, .row zst 0 0 false]) (.ptr (H2.length + 1) 0 0) (.agg [.int .i64 r, .int .i64 c, .slice none 0 0 0 1 false, .slice (some H2.length) 0 (m0 :: M0).length 0 1 false]) = some (none, H2 ++ [.row ((m0 :: M0).map (.int .i64)) 0 (m0 :: M0).length false, .row [.int .i64 r, .int .i64 c, .slice none 0 0 0 1 false, .slice (some H2.length) 0 (m0 :: M0).length 0 1 false] 0 0 false]) := pt24 (by simp [zst]) rfl rfl (by simp)
        simp [zst] at hpt
        simp [addE, okFn_low, e0, e1]
        first | refine exX_mk (fun Q hQ => hbs _ Q hQ) (.refl _) ?_ | refine exX_mk (fun Q hQ => hbs _ Q hQ) (ex _) ?_ | refine exC_mk (fun Q hQ => hbs _ Q hQ) ?_
        simp [okFn_low, lsV, lsH]
        first | refine exX_mk (fun Q hQ => hbz _ Q hQ) (.refl _) ?_ | refine exX_mk (fun Q hQ => hbz _ Q hQ) (ex _) ?_ | refine exC_mk (fun Q hQ => hbz _ Q hQ) ?_
        simp [bd24s, hI, hz, ex, lsV, lsH, zst, hpt]
        refine hfin (H2.length + 1) (.slice none 0 0 0 1 false) (.slice (some H2.length) 0 (m0 :: M0).length 0 1 false) (H2 ++ [.row ((m0 :: M0).map (.int .i64)) 0 (m0 :: M0).length false, .row [.int .i64 r, .int .i64 c, .slice none 0 0 0 1 false, .slice (some H2.length) 0 (m0 :: M0).length 0 1 false] 0 0 false]) (by omega) rfl rfl ?_ ?_ ?_ ?_ (ex _)
        · exact OwnF.nil _ _
        · exact .inr ⟨H2.length, 0, ((m0 :: M0)).length, by omega, by simp, by simp⟩
        · intro a ha; first | (cases ha; done) | (cases ha; exact ⟨by omega, fun e => by first | cases e | (have := Option.some.inj e; omega)⟩)
        · simp
      · refine AWR_U [6, 7, 10, 12, 13, 14] [false, true, false, true, false, false, false, false, false] rfl (by kernel_rfl) ?_
        have hpt : storeV Try.prog 24 (H2 ++ [.row zst 0 0 false, .row ((m0 :: M0).map (.int .i64)) 0 (m0 :: M0).length false]) (.ptr H2.length 0 0) (.agg [.int .i64 r, .int .i64 c, .slice none 0 0 0 1 false, .slice (some (H2.length + 1)) 0 (m0 :: M0).length 0 1 false]) = some (none, H2 ++ [.row [.int .i64 r, .int .i64 c, .slice none 0 0 0 1 false, .slice (some (H2.length + 1)) 0 (m0 :: M0).length 0 1 false] 0 0 false, .row ((m0 :: M0).map (.int .i64)) 0 (m0 :: M0).length false]) := pt24 (by simp [zst]) rfl rfl (by simp)
        simp [zst] at hpt
        simp [addE, permL, okFn_low, e0, e1]
        first | refine exX_mk (fun Q hQ => hbs _ Q hQ) (.refl _) ?_ | refine exX_mk (fun Q hQ => hbs _ Q hQ) (ex _) ?_ | refine exC_mk (fun Q hQ => hbs _ Q hQ) ?_
        simp [okFn_low, hI, hz, ex, lsV, lsH]
        first | refine exX_mk (fun Q hQ => hbz _ Q hQ) (.refl _) ?_ | refine exX_mk (fun Q hQ => hbz _ Q hQ) (ex _) ?_ | refine exC_mk (fun Q hQ => hbz _ Q hQ) ?_
        simp [bd24s, ex1, lsV, lsH, zst, hpt]
        refine hfin H2.length (.slice none 0 0 0 1 false) (.slice (some (H2.length + 1)) 0 (m0 :: M0).length 0 1 false) (H2 ++ [.row [.int .i64 r, .int .i64 c, .slice none 0 0 0 1 false, .slice (some (H2.length + 1)) 0 (m0 :: M0).length 0 1 false] 0 0 false, .row ((m0 :: M0).map (.int .i64)) 0 (m0 :: M0).length false]) (by omega) rfl rfl ?_ ?_ ?_ ?_ (ex _)
        · exact OwnF.nil _ _
        · exact .inr ⟨(H2.length + 1), 0, ((m0 :: M0)).length, by omega, by simp, by simp⟩
        · intro a ha; first | (cases ha; done) | (cases ha; exact ⟨by omega, fun e => by first | cases e | (have := Option.some.inj e; omega)⟩)
        · simp
    · refine AWR_U [6, 7, 10, 12, 13, 14] [false, true, false, true, false, false, false, false, false] rfl (by kernel_rfl) ?_
      have hpt : storeV Try.prog 24 (H2 ++ [.row zst 0 0 false, .row ((m0 :: M0).map (.int .i64)) 0 (m0 :: M0).length false]) (.ptr H2.length 0 0) (.agg [.int .i64 r, .int .i64 c, .slice none 0 0 0 1 false, .slice (some (H2.length + 1)) 0 (m0 :: M0).length 0 1 false]) = some (none, H2 ++ [.row [.int .i64 r, .int .i64 c, .slice none 0 0 0 1 false, .slice (some (H2.length + 1)) 0 (m0 :: M0).length 0 1 false] 0 0 false, .row ((m0 :: M0).map (.int .i64)) 0 (m0 :: M0).length false]) := pt24 (by simp [zst]) rfl rfl (by simp)
      simp [zst] at hpt
      simp [addE, permL, okFn_low, e0, e1, hI, hz, ex]
      first | refine exX_mk (fun Q hQ => hbs _ Q hQ) (.refl _) ?_ | refine exX_mk (fun Q hQ => hbs _ Q hQ) (ex _) ?_ | refine exC_mk (fun Q hQ => hbs _ Q hQ) ?_
      simp [okFn_low, lsV, lsH]
      first | refine exX_mk (fun Q hQ => hbz _ Q hQ) (.refl _) ?_ | refine exX_mk (fun Q hQ => hbz _ Q hQ) (ex _) ?_ | refine exC_mk (fun Q hQ => hbz _ Q hQ) ?_
      simp [bd24s, ex1, lsV, lsH, zst, hpt]
      refine hfin H2.length (.slice none 0 0 0 1 false) (.slice (some (H2.length + 1)) 0 (m0 :: M0).length 0 1 false) (H2 ++ [.row [.int .i64 r, .int .i64 c, .slice none 0 0 0 1 false, .slice (some (H2.length + 1)) 0 (m0 :: M0).length 0 1 false] 0 0 false, .row ((m0 :: M0).map (.int .i64)) 0 (m0 :: M0).length false]) (by omega) rfl rfl ?_ ?_ ?_ ?_ (ex _)
      · exact OwnF.nil _ _
      · exact .inr ⟨(H2.length + 1), 0, ((m0 :: M0)).length, by omega, by simp, by simp⟩
      · intro a ha; first | (cases ha; done) | (cases ha; exact ⟨by omega, fun e => by first | cases e | (have := Option.some.inj e; omega)⟩)
      · simp
  · -- (l0 :: L0) []
    refine AWR_pair (x := 5) (y := 9) (ord := [0, 1, 2, 3, 4, 6, 9, 5, 7, 8, 10]) (by kernel_rfl) ?_ ?_
    · refine AWR_pair (x := 7) (y := 9) (ord := [0, 1, 2, 3, 4, 5, 6, 9, 7, 8, 10]) (by kernel_rfl) ?_ ?_
      · refine AWR_U [6, 7, 10, 12, 13, 14] [false, true, false, true, false, false, false, false, false, false] rfl (by kernel_rfl) ?_
        have hpt : storeV Try.prog 24 (H2 ++ [.row ((l0 :: L0).map (.int .i64)) 0 (l0 :: L0).length false, .row zst 0 0 false]) (.ptr (H2.length + 1) 0 0) (.agg [.int .i64 r, .int .i64 c, .slice (some H2.length) 0 (l0 :: L0).length 0 1 false, .slice none 0 0 0 1 false]) = some (none, H2 ++ [.row ((l0 :: L0).map (.int .i64)) 0 (l0 :: L0).length false, .row [.int .i64 r, .int .i64 c, .slice (some H2.length) 0 (l0 :: L0).length 0 1 false, .slice none 0 0 0 1 false] 0 0 false]) := pt24 (by simp [zst]) rfl rfl (by simp)
        simp [zst] at hpt
        simp [addE, okFn_low, e0, e1]
        first | refine exX_mk (fun Q hQ => hbs _ Q hQ) (.refl _) ?_ | refine exX_mk (fun Q hQ => hbs _ Q hQ) (ex _) ?_ | refine exC_mk (fun Q hQ => hbs _ Q hQ) ?_
        simp [okFn_low, lsV, lsH]
        first | refine exX_mk (fun Q hQ => hbz _ Q hQ) (.refl _) ?_ | refine exX_mk (fun Q hQ => hbz _ Q hQ) (ex _) ?_ | refine exC_mk (fun Q hQ => hbz _ Q hQ) ?_
        simp [bd24s, hI, hz, ex, lsV, lsH, zst, hpt]
        refine hfin (H2.length + 1) (.slice (some H2.length) 0 (l0 :: L0).length 0 1 false) (.slice none 0 0 0 1 false) (H2 ++ [.row ((l0 :: L0).map (.int .i64)) 0 (l0 :: L0).length false, .row [.int .i64 r, .int .i64 c, .slice (some H2.length) 0 (l0 :: L0).length 0 1 false, .slice none 0 0 0 1 false] 0 0 false]) (by omega) rfl rfl ?_ ?_ ?_ ?_ (ex _)
        · exact .inr ⟨H2.length, 0, ((l0 :: L0)).length, by omega, by simp, by simp⟩
        · exact OwnF.nil _ _
        · intro a ha; first | (cases ha; done) | (cases ha; exact ⟨by omega, fun e => by first | cases e | (have := Option.some.inj e; omega)⟩)
        · simp
      · refine AWR_U [6, 7, 10, 12, 13, 14] [false, true, false, true, false, false, false, false, false] rfl (by kernel_rfl) ?_
        have hpt : storeV Try.prog 24 (H2 ++ [.row ((l0 :: L0).map (.int .i64)) 0 (l0 :: L0).length false, .row zst 0 0 false]) (.ptr (H2.length + 1) 0 0) (.agg [.int .i64 r, .int .i64 c, .slice (some H2.length) 0 (l0 :: L0).length 0 1 false, .slice none 0 0 0 1 false]) = some (none, H2 ++ [.row ((l0 :: L0).map (.int .i64)) 0 (l0 :: L0).length false, .row [.int .i64 r, .int .i64 c, .slice (some H2.length) 0 (l0 :: L0).length 0 1 false, .slice none 0 0 0 1 false] 0 0 false]) := pt24 (by simp [zst]) rfl rfl (by simp)
        simp [zst] at hpt
        simp [addE, permL, okFn_low, e0, e1]
        first | refine exX_mk (fun Q hQ => hbs _ Q hQ) (.refl _) ?_ | refine exX_mk (fun Q hQ => hbs _ Q hQ) (ex _) ?_ | refine exC_mk (fun Q hQ => hbs _ Q hQ) ?_
        simp [okFn_low, hI, hz, ex, lsV, lsH]
        first | refine exX_mk (fun Q hQ => hbz _ Q hQ) (.refl _) ?_ | refine exX_mk (fun Q hQ => hbz _ Q hQ) (ex _) ?_ | refine exC_mk (fun Q hQ => hbz _ Q hQ) ?_
        simp [bd24s, lsV, lsH, zst, hpt]
        refine hfin (H2.length + 1) (.slice (some H2.length) 0 (l0 :: L0).length 0 1 false) (.slice none 0 0 0 1 false) (H2 ++ [.row ((l0 :: L0).map (.int .i64)) 0 (l0 :: L0).length false, .row [.int .i64 r, .int .i64 c, .slice (some H2.length) 0 (l0 :: L0).length 0 1 false, .slice none 0 0 0 1 false] 0 0 false]) (by omega) rfl rfl ?_ ?_ ?_ ?_ (ex _)
        · exact .inr ⟨H2.length, 0, ((l0 :: L0)).length, by omega, by simp, by simp⟩
        · exact OwnF.nil _ _
        · intro a ha; first | (cases ha; done) | (cases ha; exact ⟨by omega, fun e => by first | cases e | (have := Option.some.inj e; omega)⟩)
        · simp
    · refine AWR_U [6, 7, 10, 12, 13, 14] [false, true, false, true, false, false, false, false, false] rfl (by kernel_rfl) ?_
      have hpt : storeV Try.prog 24 (H2 ++ [.row zst 0 0 false, .row ((l0 :: L0).map (.int .i64)) 0 (l0 :: L0).length false]) (.ptr H2.length 0 0) (.agg [.int .i64 r, .int .i64 c, .slice (some (H2.length + 1)) 0 (l0 :: L0).length 0 1 false, .slice none 0 0 0 1 false]) = some (none, H2 ++ [.row [.int .i64 r, .int .i64 c, .slice (some (H2.length + 1)) 0 (l0 :: L0).length 0 1 false, .slice none 0 0 0 1 false] 0 0 false, .row ((l0 :: L0).map (.int .i64)) 0 (l0 :: L0).length false]) := pt24 (by simp [zst]) rfl rfl (by simp)
      simp [zst] at hpt
      simp [addE, permL, okFn_low, e0, e1, hI, hz, ex]
      first | refine exX_mk (fun Q hQ => hbs _ Q hQ) (.refl _) ?_ | refine exX_mk (fun Q hQ => hbs _ Q hQ) (ex _) ?_ | refine exC_mk (fun Q hQ => hbs _ Q hQ) ?_
      simp [okFn_low, ex1, lsV, lsH]
      first | refine exX_mk (fun Q hQ => hbz _ Q hQ) (.refl _) ?_ | refine exX_mk (fun Q hQ => hbz _ Q hQ) (ex _) ?_ | refine exC_mk (fun Q hQ => hbz _ Q hQ) ?_
      simp [bd24s, lsV, lsH, zst, hpt]
      refine hfin H2.length (.slice (some (H2.length + 1)) 0 (l0 :: L0).length 0 1 false) (.slice none 0 0 0 1 false) (H2 ++ [.row [.int .i64 r, .int .i64 c, .slice (some (H2.length + 1)) 0 (l0 :: L0).length 0 1 false, .slice none 0 0 0 1 false] 0 0 false, .row ((l0 :: L0).map (.int .i64)) 0 (l0 :: L0).length false]) (by omega) rfl rfl ?_ ?_ ?_ ?_ (ex _)
      · exact .inr ⟨(H2.length + 1), 0, ((l0 :: L0)).length, by omega, by simp, by simp⟩
      · exact OwnF.nil _ _
      · intro a ha; first | (cases ha; done) | (cases ha; exact ⟨by omega, fun e => by first | cases e | (have := Option.some.inj e; omega)⟩)
      · simp
  · -- (l0 :: L0) (m0 :: M0)
    refine AWR_pair (x := 5) (y := 9) (ord := [0, 1, 2, 3, 4, 6, 9, 5, 7, 8, 10]) (by kernel_rfl) ?_ ?_
    · refine AWR_pair (x := 7) (y := 9) (ord := [0, 1, 2, 3, 4, 5, 6, 9, 7, 8, 10]) (by kernel_rfl) ?_ ?_
      · refine AWR_U [6, 7, 10, 12, 13, 14] [false, true, false, true, false, false, false, false, false, false] rfl (by kernel_rfl) ?_
        have hpt : storeV Try.prog 24 (H2 ++ [.row ((l0 :: L0).map (.int .i64)) 0 (l0 :: L0).length false, .row ((m0 :: M0).map (.int .i64)) 0 (m0 :: M0).length false, .row zst 0 0 false]) (.ptr (H2.length + 2) 0 0) (.agg [.int .i64 r, .int .i64 c, .slice (some H2.length) 0 (l0 :: L0).length 0 1 false, .slice (some (H2.length + 1)) 0 (m0 :: M0).length 0 1 false]) = some (none, H2 ++ [.row ((l0 :: L0).map (.int .i64)) 0 (l0 :: L0).length false, .row ((m0 :: M0).map (.int .i64)) 0 (m0 :: M0).length false, .row [.int .i64 r, .int .i64 c, .slice (some H2.length) 0 (l0 :: L0).length 0 1 false, .slice (some (H2.length + 1)) 0 (m0 :: M0).length 0 1 false] 0 0 false]) := pt24 (by simp [zst]) rfl rfl (by simp)
        simp [zst] at hpt
        simp [addE, okFn_low, e0, e1]
        first | refine exX_mk (fun Q hQ => hbs _ Q hQ) (.refl _) ?_ | refine exX_mk (fun Q hQ => hbs _ Q hQ) (ex _) ?_ | refine exC_mk (fun Q hQ => hbs _ Q hQ) ?_
        simp [okFn_low, lsV, lsH]
        first | refine exX_mk (fun Q hQ => hbz _ Q hQ) (.refl _) ?_ | refine exX_mk (fun Q hQ => hbz _ Q hQ) (ex _) ?_ | refine exC_mk (fun Q hQ => hbz _ Q hQ) ?_
        simp [bd24s, hI, hz, ex, ex1, lsV, lsH, zst, hpt]
        refine hfin (H2.length + 2) (.slice (some H2.length) 0 (l0 :: L0).length 0 1 false) (.slice (some (H2.length + 1)) 0 (m0 :: M0).length 0 1 false) (H2 ++ [.row ((l0 :: L0).map (.int .i64)) 0 (l0 :: L0).length false, .row ((m0 :: M0).map (.int .i64)) 0 (m0 :: M0).length false, .row [.int .i64 r, .int .i64 c, .slice (some H2.length) 0 (l0 :: L0).length 0 1 false, .slice (some (H2.length + 1)) 0 (m0 :: M0).length 0 1 false] 0 0 false]) (by omega) rfl rfl ?_ ?_ ?_ ?_ (ex _)
        · exact .inr ⟨H2.length, 0, ((l0 :: L0)).length, by omega, by simp, by simp⟩
        · exact .inr ⟨(H2.length + 1), 0, ((m0 :: M0)).length, by omega, by simp, by simp⟩
        · intro a ha; first | (cases ha; done) | (cases ha; exact ⟨by omega, fun e => by first | cases e | (have := Option.some.inj e; omega)⟩)
        · simp
      · refine AWR_U [6, 7, 10, 12, 13, 14] [false, true, false, true, false, false, false, false, false] rfl (by kernel_rfl) ?_
        have hpt : storeV Try.prog 24 (H2 ++ [.row ((l0 :: L0).map (.int .i64)) 0 (l0 :: L0).length false, .row zst 0 0 false, .row ((m0 :: M0).map (.int .i64)) 0 (m0 :: M0).length false]) (.ptr (H2.length + 1) 0 0) (.agg [.int .i64 r, .int .i64 c, .slice (some H2.length) 0 (l0 :: L0).length 0 1 false, .slice (some (H2.length + 2)) 0 (m0 :: M0).length 0 1 false]) = some (none, H2 ++ [.row ((l0 :: L0).map (.int .i64)) 0 (l0 :: L0).length false, .row [.int .i64 r, .int .i64 c, .slice (some H2.length) 0 (l0 :: L0).length 0 1 false, .slice (some (H2.length + 2)) 0 (m0 :: M0).length 0 1 false] 0 0 false, .row ((m0 :: M0).map (.int .i64)) 0 (m0 :: M0).length false]) := pt24 (by simp [zst]) rfl rfl (by simp)
        simp [zst] at hpt
        simp [addE, permL, okFn_low, e0, e1]
        first | refine exX_mk (fun Q hQ => hbs _ Q hQ) (.refl _) ?_ | refine exX_mk (fun Q hQ => hbs _ Q hQ) (ex _) ?_ | refine exC_mk (fun Q hQ => hbs _ Q hQ) ?_
        simp [okFn_low, hI, hz, ex, lsV, lsH]
        first | refine exX_mk (fun Q hQ => hbz _ Q hQ) (.refl _) ?_ | refine exX_mk (fun Q hQ => hbz _ Q hQ) (ex _) ?_ | refine exC_mk (fun Q hQ => hbz _ Q hQ) ?_
        simp [bd24s, ex2, lsV, lsH, zst, hpt]
        refine hfin (H2.length + 1) (.slice (some H2.length) 0 (l0 :: L0).length 0 1 false) (.slice (some (H2.length + 2)) 0 (m0 :: M0).length 0 1 false) (H2 ++ [.row ((l0 :: L0).map (.int .i64)) 0 (l0 :: L0).length false, .row [.int .i64 r, .int .i64 c, .slice (some H2.length) 0 (l0 :: L0).length 0 1 false, .slice (some (H2.length + 2)) 0 (m0 :: M0).length 0 1 false] 0 0 false, .row ((m0 :: M0).map (.int .i64)) 0 (m0 :: M0).length false]) (by omega) rfl rfl ?_ ?_ ?_ ?_ (ex _)
        · exact .inr ⟨H2.length, 0, ((l0 :: L0)).length, by omega, by simp, by simp⟩
        · exact .inr ⟨(H2.length + 2), 0, ((m0 :: M0)).length, by omega, by simp, by simp⟩
        · intro a ha; first | (cases ha; done) | (cases ha; exact ⟨by omega, fun e => by first | cases e | (have := Option.some.inj e; omega)⟩)
        · simp
    · refine AWR_U [6, 7, 10, 12, 13, 14] [false, true, false, true, false, false, false, false, false] rfl (by kernel_rfl) ?_
      have hpt : storeV Try.prog 24 (H2 ++ [.row zst 0 0 false, .row ((l0 :: L0).map (.int .i64)) 0 (l0 :: L0).length false, .row ((m0 :: M0).map (.int .i64)) 0 (m0 :: M0).length false]) (.ptr H2.length 0 0) (.agg [.int .i64 r, .int .i64 c, .slice (some (H2.length + 1)) 0 (l0 :: L0).length 0 1 false, .slice (some (H2.length + 2)) 0 (m0 :: M0).length 0 1 false]) = some (none, H2 ++ [.row [.int .i64 r, .int .i64 c, .slice (some (H2.length + 1)) 0 (l0 :: L0).length 0 1 false, .slice (some (H2.length + 2)) 0 (m0 :: M0).length 0 1 false] 0 0 false, .row ((l0 :: L0).map (.int .i64)) 0 (l0 :: L0).length false, .row ((m0 :: M0).map (.int .i64)) 0 (m0 :: M0).length false]) := pt24 (by simp [zst]) rfl rfl (by simp)
      simp [zst] at hpt
      simp [addE, permL, okFn_low, e0, e1, hI, hz, ex]
      first | refine exX_mk (fun Q hQ => hbs _ Q hQ) (.refl _) ?_ | refine exX_mk (fun Q hQ => hbs _ Q hQ) (ex _) ?_ | refine exC_mk (fun Q hQ => hbs _ Q hQ) ?_
      simp [okFn_low, ex1, lsV, lsH]
      first | refine exX_mk (fun Q hQ => hbz _ Q hQ) (.refl _) ?_ | refine exX_mk (fun Q hQ => hbz _ Q hQ) (ex _) ?_ | refine exC_mk (fun Q hQ => hbz _ Q hQ) ?_
      simp [bd24s, ex2, lsV, lsH, zst, hpt]
      refine hfin H2.length (.slice (some (H2.length + 1)) 0 (l0 :: L0).length 0 1 false) (.slice (some (H2.length + 2)) 0 (m0 :: M0).length 0 1 false) (H2 ++ [.row [.int .i64 r, .int .i64 c, .slice (some (H2.length + 1)) 0 (l0 :: L0).length 0 1 false, .slice (some (H2.length + 2)) 0 (m0 :: M0).length 0 1 false] 0 0 false, .row ((l0 :: L0).map (.int .i64)) 0 (l0 :: L0).length false, .row ((m0 :: M0).map (.int .i64)) 0 (m0 :: M0).length false]) (by omega) rfl rfl ?_ ?_ ?_ ?_ (ex _)
      · exact .inr ⟨(H2.length + 1), 0, ((l0 :: L0)).length, by omega, by simp, by simp⟩
      · exact .inr ⟨(H2.length + 2), 0, ((m0 :: M0)).length, by omega, by simp, by simp⟩
      · intro a ha; first | (cases ha; done) | (cases ha; exact ⟨by omega, fun e => by first | cases e | (have := Option.some.inj e; omega)⟩)
      · simp
end Go.Proofs.Ytfbpgnjeafadmaa.Fl
