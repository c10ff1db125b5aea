/- Heaps by numbers. -/
import Derived.Test.YtjldfcfomiopfaaDoorFacts
namespace Go.Proofs.YtjldfcfomiopfaaDoor
open Go Go.Proofs.YtjldfcfomiopfaaDoor.AX
theorem ar56 : arSz Tryd.prog 56 = some (8, 2) := by kernel_rfl
@[simp] theorem len110 (r : Option Nat) (off len ver sz : Nat) (full : Bool) : aLen Tryd.prog 110 (.slice r off len ver sz full) = some (.int .i64 len) := len_sl (n := 2) (by kernel_rfl) ..
@[simp] theorem ixa110 (r off len ver : Nat) (full : Bool) (k : IntKind) (i : Int) : aIndexAddr Tryd.prog 110 (.slice (some r) off len ver 2 full) (.int k i) = if 0 ≤ i ∧ i < len then some (.ptr r (off + i.toNat * 2) ver) else none := ixa_sl (by kernel_rfl) ..
theorem ag54 : aggSz Tryd.prog 54 = some 2 := by kernel_rfl
@[simp] theorem ld54 (H : AH) (r off ver : Nat) : loadV Tryd.prog 54 H (.ptr r off ver) = (ldn H r ver 2 off).map .agg := load_agg ag54 ..
@[simp] theorem ixa54 (r off ver : Nat) (k : IntKind) (i : Int) : aIndexAddr Tryd.prog 54 (.ptr r off ver) (.int k i) = if 0 ≤ i ∧ i < (2 : Nat) then some (.ptr r (off + i.toNat * 1) ver) else none := ixa_ar (by kernel_rfl) ..
theorem zt54 : zeroT Tryd.prog 54 = some [.int .u8 0, .int .u8 0] := by kernel_rfl
@[simp] theorem cv53 (k : IntKind) (n : Int) : aConv Tryd.prog 5 3 (.int k n) = some (.int .i64 (IntKind.i64.wrap n)) := cv_int (by kernel_rfl) (by kernel_rfl) n
theorem ek22 : elK Tryd.prog 22 2 = true := by kernel_rfl
theorem rem_nat (a b : Nat) : ((a : Int)).tmod (b : Int) = ((a % b : Nat) : Int) := by
  rw [Int.tmod_eq_emod_of_nonneg (Int.natCast_nonneg a), Int.natCast_emod]
def tub (a b : Nat) : List AV := [.int .u8 a, .int .u8 b]
theorem put54 (H : AH) (a b : Int) : storeV Tryd.prog 54 (H ++ [.row [.int .u8 0, .int .u8 0] 0 0 false]) (.ptr H.length 0 0) (.agg [.int .u8 a, .int .u8 b]) = some (none, H ++ [.row [.int .u8 a, .int .u8 b] 0 0 false]) := by
  rw [store_agg ag54 (c := [.int .u8 0, .int .u8 0]) (s := 0) (by simp) (by decide) rfl (by simp) rfl (by simp [AV.one])]
  simp
theorem row22 (H : AH) (a b : Int) : rowV Tryd.prog 22 1 [(0, .agg [.int .i64 a, .int .i64 b])] H = some (some (.slice (some H.length) 0 1 0 2 false), H ++ [.row (two a b) 0 2 false]) := by
  have h1 : (match Tryd.prog.underlying 22 with | some (.slice e) => (tiOf Tryd.prog e).map fun I => (I.size, I.zero) | _ => none) = some (2, [.int .i64 0, .int .i64 0]) := by kernel_rfl
  split at h1
  case h_2 => cases h1
  rename_i e hu
  obtain ⟨I, hI, h2⟩ := Option.map_eq_some_iff.1 h1
  simp only [Prod.mk.injEq] at h2
  simp [rowV, hu, hI, h2.1, h2.2, aFill, AV.isU, acells, List.range_succ, two]

/-- Heaps by numbers: 'ns' the 16 numbers of a yard. -/
def mFrom (ns : List Nat) (hours first i : Nat) : Nat := first + (ns[2 * i]?.getD 0) % hours
def mTo (ns : List Nat) (hours first i : Nat) : Nat := first + min (hours - 1) ((ns[2 * i]?.getD 0) % hours + (ns[2 * i + 1]?.getD 0) % 4)
def madeN (many most : Nat) : Nat := min (many % (most + 1)) 8
def madeL (ns : List Nat) (m hours first : Nat) : List (Nat × Nat) := (List.range m).map fun i => (mFrom ns hours first i, mTo ns hours first i)
def intL (l : List (Nat × Nat)) : List (Int × Int) := l.map fun h => ((h.1 : Int), (h.2 : Int))
theorem madeL_succ (ns : List Nat) (m hours first : Nat) : madeL ns (m + 1) hours first = madeL ns m hours first ++ [(mFrom ns hours first m, mTo ns hours first m)] := by
  simp [madeL, List.range_succ]
def yardV (ns : List Nat) : List AV := ns.map fun n : Nat => .int .u8 (n : Int)

set_option maxRecDepth 100000 in
theorem made_ac (ns : List Nat) (many most hours first : Nat) (H : AH) (Q : AV → AH → Prop) (hns : ns.length = 16) (hb : ∀ x ∈ ns, x < 256) (_hmany : many ≤ 1000) (hmost : most ≤ 100) (hh : 1 ≤ hours ∧ hours ≤ 100) (hf : first ≤ 100)
    (h : ∀ v' H', Hs H' v' (intL (madeL ns (madeN many most) hours first)) → Ext H H' → Q v' H') : AC Tryd.prog 41 [.agg (yardV ns), .int .i64 many, .int .i64 most, .int .i64 hours, .int .i64 first] H Q := by
  obtain ⟨I, hI, hz⟩ := zeroT_some zt54
  have hrem := rem_nat many (most + 1)
  simp only [Int.natCast_add, Int.natCast_one] at hrem
  have hne : ((most : Int) + 1) ≠ 0 := by omega
  have hmod : many % (most + 1) < most + 1 := Nat.mod_lt _ (by omega)
  refine L_body 53 Tryd.func41 rfl rfl ?_
  refine L_reg [1, 2, 3, 4, 5] (fun K hK => ?_)
  simp [AV.isU, acells]
  apply hK; clear hK K
  have hE0 : Ext H (H ++ [AObj.row (yardV ns) 0 0 false]) := .push _ _
  have h0 : (H ++ [AObj.row (yardV ns) 0 0 false])[H.length]? = some (.row (yardV ns) 0 0 false) := by simp
  generalize H ++ [AObj.row (yardV ns) 0 0 false] = H1 at hE0 h0 ⊢
  generalize H.length = w at h0 ⊢
  refine L_reg [1, 2, 3, 4, 5, 11] (fun K hK => ?_)
  simp
  apply hK; clear hK K
  have hmin : min ((many % (most + 1) : Nat) : Int) 8 = ((madeN many most : Nat) : Int) := by unfold madeN; omega
  have hm8 : madeN many most ≤ 8 := by unfold madeN; omega
  generalize madeN many most = m at hmin hm8 h
  refine L_reg [3, 4, 11, 21, 22, 23] (fun K hK => ?_)
  have hsl : sliceR Tryd.prog 56 H1 (.ptr w 0 0) none (some (.int .i64 (m : Int))) none = some (.slice (some w) 0 m 0 2 false) := slice_arr ar56 (by decide) (by decide) h0 (by simp [yardV, hns]) (by simp [yardV]) (by omega)
  simp [wrap_i64 (a := (most : Int) + 1) (by omega), hne, hrem, hmin, noSlice ar56, hsl, -Int.natCast_emod]
  apply hK; clear hK K
  have hrd : ∀ i, i < 8 → ldn H1 w 0 2 (i * 2) = some [.int .u8 ((ns[2 * i]?.getD 0 : Nat) : Int), .int .u8 ((ns[2 * i + 1]?.getD 0 : Nat) : Int)] := by
    intro i hi
    rw [ldn_row h0]
    have h1 : 2 * i < ns.length := by omega
    have h2 : 2 * i + 1 < ns.length := by omega
    have e : (yardV ns).drop (i * 2) = [.int .u8 ((ns[2 * i] : Nat) : Int), .int .u8 ((ns[2 * i + 1] : Nat) : Int)] ++ (yardV ns).drop (i * 2 + 2) := by
      rw [List.drop_eq_getElem_cons (by simp [yardV]; omega), List.drop_eq_getElem_cons (by simp [yardV]; omega)]
      simp [yardV, Nat.mul_comm]
    rw [e, List.getElem?_eq_getElem h1, List.getElem?_eq_getElem h2]
    exact takeKnown_row (l := [.int .u8 ((ns[2 * i] : Nat) : Int), .int .u8 ((ns[2 * i + 1] : Nat) : Int)]) (by simp) _
  refine L_block (L_loopV [11, 23] (fun k vs H' => ∃ (i : Nat) (u : AV), k = m - i ∧ i ≤ m ∧ vs = [u, .int .i64 i] ∧ Ext H1 H' ∧ OwnK 2 H1.length H' u (cells (intL (madeL ns i hours first)))) _ [.slice none 0 0 0 1 false, .int .i64 (0 : Nat)] rfl ⟨0, _, rfl, by omega, rfl, .refl _, OwnK.nil _ _ _⟩ ?_)
  rintro k _ H2 ⟨i, u, rfl, hi, rfl, hE, hO⟩
  have hlen : (cells (intL (madeL ns i hours first))).length = i := by simp [intL, madeL]
  obtain ⟨ur, uv, us, hu⟩ := hO.len
  rw [hlen] at hu
  refine L_reg [3, 4, 11, 21, 22, 23, 24] (fun K hK => ?_)
  simp
  apply hK; clear hK K
  refine L_dec (i < m) (by simp) (fun hlt => ?_) (fun hge => L_exit ?_)
  · have hrd2 := ldn_ext hE (hrd i (by omega))
    have hmem : ∀ j : Nat, (ns[j]?.getD 0) < 256 := by
      intro j
      cases hj : ns[j]? with
      | none => simp
      | some x => simpa using hb x (List.mem_of_getElem? hj)
    have h1 := hmem (2 * i)
    have h2 := hmem (2 * i + 1)
    have hsuc := madeL_succ ns i hours first
    unfold mFrom mTo at hsuc
    generalize ns[2 * i]?.getD 0 = x at hrd2 h1 hsuc
    generalize ns[2 * i + 1]?.getD 0 = y at hrd2 h2 hsuc
    refine L_block ?_
    refine L_reg [3, 4, 11, 13, 21, 22, 23] (fun K hK => ?_)
    simp [hlt, hrd2, hI, hz, put54]
    apply hK; clear hK K
    have hbx : (H2 ++ [AObj.row [AV.int .u8 (x : Int), AV.int .u8 (y : Int)] 0 0 false])[H2.length]? = some (.row [.int .u8 (x : Int), .int .u8 (y : Int)] 0 0 false) := by simp
    have hE1 : Ext H2 (H2 ++ [AObj.row [AV.int .u8 (x : Int), AV.int .u8 (y : Int)] 0 0 false]) := .push _ _
    generalize H2 ++ [AObj.row [AV.int .u8 (x : Int), AV.int .u8 (y : Int)] 0 0 false] = H3 at hbx hE1 ⊢
    generalize H2.length = b at hbx ⊢
    have e0 : ld H3 b 0 0 = some (.int .u8 (x : Int)) := by rw [ld_row hbx]; rfl
    have e1 : ld H3 b 1 0 = some (.int .u8 (y : Int)) := by rw [ld_row hbx]; rfl
    have hE3 := hE.trans hE1
    have hO3 := hO.ext hE1
    have hr1 := rem_nat x hours
    have hr2 : (y : Int).tmod 4 = ((y % 4 : Nat) : Int) := rem_nat y 4
    have hhne : hours ≠ 0 := by omega
    have hxm : x % hours < hours := Nat.mod_lt _ (by omega)
    have hym : y % 4 < 4 := Nat.mod_lt _ (by decide)
    generalize x % hours = xm at hr1 hxm hsuc
    generalize y % 4 = ym at hr2 hym hsuc
    refine L_reg [3, 4, 11, 13, 14, 21, 22, 23] (fun K hK => ?_)
    simp [e0, wrap_i64 (a := (x : Int)) (by omega), hhne, hr1]
    apply hK; clear hK K
    have hmin2 : min ((hours : Int) - 1) ((xm : Int) + (ym : Int)) = ((min (hours - 1) (xm + ym) : Nat) : Int) := by omega
    refine L_reg [3, 4, 11, 14, 15, 21, 22, 23] (fun K hK => ?_)
    simp [e1, wrap_i64 (a := (y : Int)) (by omega), wrap_i64 (a := (hours : Int) - 1) (by omega), hr2, wrap_i64 (a := (xm : Int) + (ym : Int)) (by omega), hmin2]
    apply hK; clear hK K
    have hmn : min (hours - 1) (xm + ym) ≤ 100 := by omega
    generalize min (hours - 1) (xm + ym) = mn at hmn hsuc
    obtain ⟨u', H4, happ, hO4, hE4⟩ := ownK_append (P := Tryd.prog) hE3 ek22 ek22 (x := two ((first + xm : Nat) : Int) ((first + mn : Nat) : Int)) (m := 2) hO3 rfl (by simp [two, AV.one]) (by omega)
    rw [hu] at happ
    refine L_reg [3, 4, 11, 21, 22, 23] (fun K hK => ?_)
    simp only [Int.natCast_add] at happ
    simp [wrap_i64 (a := (first : Int) + (xm : Int)) (by omega), wrap_i64 (a := (first : Int) + (mn : Int)) (by omega), row22, hu, happ]
    apply hK; clear hK K
    refine L_reg [3, 4, 11, 21, 22, 23] (fun K hK => ?_)
    simp [wrap_i64 (a := (i : Int) + 1) (by omega)]
    apply hK; clear hK K
    refine ⟨m - (i + 1), [u', .int .i64 (i + 1 : Nat)], by omega, by simp, i + 1, u', rfl, by omega, rfl, hE4, ?_⟩
    rw [hsuc]
    simpa [cells, intL] using hO4
  · have : i = m := by omega
    subst this
    refine L_reg [10] (fun K hK => ?_)
    simp
    apply hK; clear hK K
    exact L_ret ⟨.inr rfl, _, rfl, by simpa using h _ _ hO.rs (hE0.trans hE)⟩
end Go.Proofs.YtjldfcfomiopfaaDoor
