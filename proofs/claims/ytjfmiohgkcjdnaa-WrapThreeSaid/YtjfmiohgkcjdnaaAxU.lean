/- A plain reading of runs: numbers that are not below zero. -/
import Derived.Test.YtjfmiohgkcjdnaaAxS
namespace Go.Proofs.Ytjfmiohgkcjdnaa.AX
open Go Go.RowKit
section
variable {P : Program} {t : TypeId} {l : Bool} {k' : IntKind}

theorem n_shr {k : IntKind} (s b : Nat) (hb : b ≤ k.bits) : binV P .shr t l (.int k (s : Int)) (.int k' (b : Int)) = some (.int k ((s >>> b : Nat) : Int)) := by
  rw [b_shr (Int.natCast_nonneg b)]
  have e : ((2 : Int) ^ b) = ((2 ^ b : Nat) : Int) := by simp
  rw [Int.toNat_natCast, Nat.min_eq_left hb, e, Int.fdiv_eq_ediv_of_nonneg _ (Int.natCast_nonneg _), ← Int.natCast_ediv, Nat.shiftRight_eq_div_pow]

theorem wrapN64 {n : Nat} (h : n < 2 ^ 64) : IntKind.u64.wrap (n : Int) = n := by
  have e : (2 : Nat) ^ 64 = 18446744073709551616 := by decide
  rw [e] at h
  exact wrap_u64 ⟨by omega, by omega⟩
theorem wrapN8 {n : Nat} (h : n < 256) : IntKind.u8.wrap (n : Int) = n := wrap_u8 ⟨by omega, by omega⟩

theorem ofInt_nat {w n : Nat} : BitVec.ofInt w (n : Int) = BitVec.ofNat w n := BitVec.ofInt_natCast w n

theorem n_and64 (x y : Nat) (hx : x < 2 ^ 64) (hy : y < 2 ^ 64) : binV P .and t l (.int .u64 (x : Int)) (.int .u64 (y : Int)) = some (.int .u64 ((x &&& y : Nat) : Int)) := by
  rw [b_and]
  have h1 : (BitVec.ofInt IntKind.u64.bits (x : Int) &&& BitVec.ofInt IntKind.u64.bits (y : Int)).toNat = x &&& y := by
    show (BitVec.ofInt 64 (x : Int) &&& BitVec.ofInt 64 (y : Int)).toNat = x &&& y
    rw [ofInt_nat, ofInt_nat, BitVec.toNat_and, BitVec.toNat_ofNat, BitVec.toNat_ofNat, Nat.mod_eq_of_lt hx, Nat.mod_eq_of_lt hy]
  rw [h1, wrapN64 (Nat.and_lt_two_pow x hy)]
theorem n_or64 (x y : Nat) (hx : x < 2 ^ 64) (hy : y < 2 ^ 64) : binV P .or t l (.int .u64 (x : Int)) (.int .u64 (y : Int)) = some (.int .u64 ((x ||| y : Nat) : Int)) := by
  rw [b_or]
  have h1 : (BitVec.ofInt IntKind.u64.bits (x : Int) ||| BitVec.ofInt IntKind.u64.bits (y : Int)).toNat = x ||| y := by
    show (BitVec.ofInt 64 (x : Int) ||| BitVec.ofInt 64 (y : Int)).toNat = x ||| y
    rw [ofInt_nat, ofInt_nat, BitVec.toNat_or, BitVec.toNat_ofNat, BitVec.toNat_ofNat, Nat.mod_eq_of_lt hx, Nat.mod_eq_of_lt hy]
  rw [h1, wrapN64 (Nat.or_lt_two_pow hx hy)]
theorem n_and8 (x y : Nat) (hx : x < 256) (hy : y < 256) : binV P .and t l (.int .u8 (x : Int)) (.int .u8 (y : Int)) = some (.int .u8 ((x &&& y : Nat) : Int)) := by
  rw [b_and]
  have h1 : (BitVec.ofInt IntKind.u8.bits (x : Int) &&& BitVec.ofInt IntKind.u8.bits (y : Int)).toNat = x &&& y := by
    show (BitVec.ofInt 8 (x : Int) &&& BitVec.ofInt 8 (y : Int)).toNat = x &&& y
    rw [ofInt_nat, ofInt_nat, BitVec.toNat_and, BitVec.toNat_ofNat, BitVec.toNat_ofNat, Nat.mod_eq_of_lt hx, Nat.mod_eq_of_lt hy]
  rw [h1, wrapN8 (Nat.and_lt_two_pow x (n := 8) hy)]
theorem n_shl64 (b : Nat) (hb : b < 64) : binV P .shl t l (.int .u64 1) (.int k' (b : Int)) = some (.int .u64 ((2 ^ b : Nat) : Int)) := by
  rw [b_shl (Int.natCast_nonneg b)]
  have : b ≤ IntKind.u64.bits := Nat.le_of_lt hb
  have e : ((2 : Int) ^ b) = ((2 ^ b : Nat) : Int) := by simp
  rw [Int.toNat_natCast, Nat.min_eq_left this, Int.one_mul, e, wrapN64 (Nat.pow_lt_pow_right (by decide) hb)]

/-- Whether a bit is set, as Go asks it. -/
theorem bit64 (s b : Nat) (hs : s < 2 ^ 64) (_hb : b < 64) : binV P .and t l (.int .u64 ((s >>> b : Nat) : Int)) (.int .u64 1) = some (.int .u64 (if s.testBit b then 1 else 0)) := by
  have h1 : s >>> b < 2 ^ 64 := Nat.lt_of_le_of_lt (by rw [Nat.shiftRight_eq_div_pow]; exact Nat.div_le_self _ _) hs
  have := n_and64 (P := P) (t := t) (l := l) (s >>> b) 1 h1 (by decide)
  rw [show ((1 : Nat) : Int) = 1 from rfl] at this
  rw [this, Nat.and_one_is_mod, Nat.testBit, Nat.and_comm, Nat.and_one_is_mod]
  rcases Nat.mod_two_eq_zero_or_one (s >>> b) with h | h <;> simp [h]
theorem bit8 (s b : Nat) (hs : s < 256) : binV P .and t l (.int .u8 ((s >>> b : Nat) : Int)) (.int .u8 1) = some (.int .u8 (if s.testBit b then 1 else 0)) := by
  have h1 : s >>> b < 256 := Nat.lt_of_le_of_lt (by rw [Nat.shiftRight_eq_div_pow]; exact Nat.div_le_self _ _) hs
  have := n_and8 (P := P) (t := t) (l := l) (s >>> b) 1 h1 (by decide)
  rw [show ((1 : Nat) : Int) = 1 from rfl] at this
  rw [this, Nat.and_one_is_mod, Nat.testBit, Nat.and_comm, Nat.and_one_is_mod]
  rcases Nat.mod_two_eq_zero_or_one (s >>> b) with h | h <;> simp [h]
theorem n_shr' {k : IntKind} (s b : Nat) (hb : b ≤ k.bits) : binV P .shr t l (.int k (s : Int)) (.int k' (b : Int)) = some (.int k ((s : Int) >>> b)) := by
  rw [n_shr s b hb]; rfl
theorem bit64' (s b : Nat) (hs : s < 2 ^ 64) (hb : b < 64) : binV P .and t l (.int .u64 ((s : Int) >>> b)) (.int .u64 1) = some (.int .u64 (if s.testBit b then 1 else 0)) := bit64 s b hs hb
theorem bit8' (s b : Nat) (hs : s < 256) : binV P .and t l (.int .u8 ((s : Int) >>> b)) (.int .u8 1) = some (.int .u8 (if s.testBit b then 1 else 0)) := bit8 s b hs
theorem n_shl64' (b : Nat) (hb : b < 64) : binV P .shl t l (.int .u64 1) (.int k' (b : Int)) = some (.int .u64 (2 ^ b)) := by
  rw [n_shl64 b hb]; simp
theorem or64' (s b : Nat) (hs : s < 2 ^ 64) (hb : b < 64) : binV P .or t l (.int .u64 (s : Int)) (.int .u64 (2 ^ b)) = some (.int .u64 ((s ||| 2 ^ b : Nat) : Int)) := by
  have := n_or64 (P := P) (t := t) (l := l) s (2 ^ b) hs (Nat.pow_lt_pow_right (by decide) hb)
  rw [← this]; simp

/-! ### Types, as far as a step asks for them -/
def storeV (P : Program) (t : TypeId) (H : AH) (x y : AV) : Option (Option AV × AH) := match P.info? t, x with
    | some i, .ptr r off ver => if y.isU || (acells y).length != i.size then none else (stn H r ver (acells y) off).map fun H' => (none, H')
    | _, _ => none
def notI (P : Program) (t : TypeId) : Bool := match P.underlying t with | some d => !TypeDesc.isIface d | none => false
def slSz (P : Program) (t : TypeId) : Option Nat := match P.underlying t with | some (.slice e) => (P.info? e).map (·.size) | _ => none
def arSz (P : Program) (t : TypeId) : Option (Nat × Nat) := match P.underlying t with | some (.array n e) => (P.info? e).map fun i => (n, i.size) | _ => none
def scal (P : Program) (t : TypeId) : Bool := match P.underlying t, P.info? t with | some d, some i => !isAggD d && i.size == 1 | _, _ => false
def intT (P : Program) (t : TypeId) : Option IntKind := match P.underlying t with | some (.int k) => some k | _ => none
variable {ρ : Operand → AV} {H : AH}
@[simp] theorem x_mkIface (t : TypeId) (x : Operand) : execN P ρ H (.makeInterface t x) = if notI P t then some (some (.iface t (ρ x)), H) else none := by
  show (aPure P ρ (.makeInterface t x)).map _ = _
  cases hn : notI P t with
  | true =>
    unfold notI at hn
    split at hn
    · rename_i d h; simp at hn; simp [aPure, h, hn]
    · cases hn
  | false =>
    unfold notI at hn
    split at hn
    · rename_i d h; simp at hn; simp [aPure, h, hn]
    · rename_i h; simp [aPure, h]
@[simp] theorem s_isc_len (as : Array Operand) (ts : Array TypeId) : isFnCall (.call ⟨.builtin .len, as, ts⟩) = false := rfl
@[simp] theorem x_len (x : Operand) (u : TypeId) : execN P ρ H (.call ⟨.builtin .len, #[x], #[u]⟩) = val1 H (aLen P u (ρ x)) := by rw [← map_val1]; rfl
theorem len_sl {u : TypeId} {n : Nat} (h : slSz P u = some n) (r : Option Nat) (off len ver sz : Nat) (full : Bool) : aLen P u (.slice r off len ver sz full) = some (.int .i64 len) := by
  unfold slSz at h
  unfold aLen
  split at h
  · rename_i e he; rw [he]
  · cases h
theorem ixa_sl {u : TypeId} {n : Nat} (h : slSz P u = some n) (r : Nat) (off len ver : Nat) (full : Bool) (k : IntKind) (i : Int) : aIndexAddr P u (.slice (some r) off len ver n full) (.int k i) = if 0 ≤ i ∧ i < len then some (.ptr r (off + i.toNat * n) ver) else none := by
  unfold slSz at h
  unfold aIndexAddr
  split at h
  · rename_i e he
    rw [he]
    cases hi : P.info? e with
    | none => rw [hi] at h; cases h
    | some ie => rw [hi] at h; simp at h; simp [h, hi]
  · cases h
theorem ixa_ar {u : TypeId} {n z : Nat} (h : arSz P u = some (n, z)) (r : Nat) (off ver : Nat) (k : IntKind) (i : Int) : aIndexAddr P u (.ptr r off ver) (.int k i) = if 0 ≤ i ∧ i < n then some (.ptr r (off + i.toNat * z) ver) else none := by
  unfold arSz at h
  unfold aIndexAddr
  split at h
  · rename_i m e he
    rw [he]
    cases hi : P.info? e with
    | none => rw [hi] at h; cases h
    | some ie => rw [hi] at h; simp at h; simp [h, hi]
  · cases h
theorem ld_sc {u : TypeId} (h : scal P u = true) (r off ver : Nat) : loadV P u H (.ptr r off ver) = ld H r off ver := by
  unfold scal at h
  unfold loadV
  split at h
  · rename_i d i h1 h2
    simp at h
    simp [h1, h2, h.1]
  · cases h
theorem cv_int {u v : TypeId} {k k0 : IntKind} (h1 : (P.underlying u).isSome = true) (h : intT P v = some k) (n : Int) : aConv P u v (.int k0 n) = some (.int k (k.wrap n)) := by
  unfold intT at h
  unfold aConv
  split at h
  · rename_i k' he
    cases h
    cases hu : P.underlying u with
    | none => rw [hu] at h1; cases h1
    | some d => rw [he]
  · cases h
@[simp] theorem x_store (u : TypeId) (x y : Operand) : execN P ρ H (.store u x y) = storeV P u H (ρ x) (ρ y) := rfl
theorem ite_beq_one (c : Bool) : ((if c = true then (1 : Int) else 0) == 1) = c := by cases c <;> rfl
end

/-- What a run over no rows gives, it gives over all. -/
theorem AC_kern {P : Program} {C : Cx P} (hC : C.Ok) (n : Nat) {f : FuncId} {args : List AV} {v : AV} {H : AH} {Q : AV → AH → Prop} (h : runF C n f args [] = some (v, [])) (ha : Bels 0 args) (hv : Bel 0 v) (hq : Q v H) : AC P f args H Q :=
  ((AC_run hC n h).closed ha hv H).mono fun v' H' ⟨h1, h2⟩ => by rw [h1, h2]; exact hq

/-- A slice of ints that holds a list. -/
def Ls (H : AH) (v : AV) (l : List Int) : Prop :=
  ∃ r off ver sz full, v = .slice r off l.length ver sz full ∧ ∀ i (h : i < l.length), ∃ r', r = some r' ∧ sz = 1 ∧ ld H r' (off + i) ver = some (.int .i64 l[i])
theorem Ls.nil (H : AH) : Ls H (.slice none 0 0 0 1 false) [] := ⟨none, 0, 0, 1, false, rfl, fun i h => by simp at h⟩
end Go.Proofs.Ytjfmiohgkcjdnaa.AX
