/- A slice of pairs of ints that comes in; a struct of an int and such a slice. -/
import Derived.Test.YtbimapbcpmeooaaAxT
import Derived.Test.YtbimapbcpmeooaaAxR
namespace Go.Proofs.Ytbimapbcpmeooaa.AX
open Go Go.RowKit Go.ChangeShapes Go.WideShapes Go.ChangeAt
variable {P : Program}
structure CameP (W : World) (v : Value) (k : IntKind) (l : List (Int × Int)) : Prop where
  all : (v = .slice none 0 0 ∧ l = []) ∨ ∃ b o cap C e fz, v = .slice (some ⟨b, o, none⟩) l.length cap ∧ l.length ≤ cap ∧ W.heap[b]? = some (.cells C e fz) ∧ (cap ≠ 0 → o + cap * 2 ≤ C.size) ∧ ∀ i (h : i < l.length), C[o + i * 2]? = some (.int k l[i].1) ∧ C[o + i * 2 + 1]? = some (.int k l[i].2)
  max : l.length ≤ maxLen
theorem pair_trod {H : Type} {enc : TypeId × Value → H} {e te : TypeId} {k : IntKind} {W : World} {base : Nat} {spare : Nat → Bool} {held : Bool} {fuel : Nat} {cs : List Value} {x : DataW H × List MemPlace} (he : P.underlying e = some (.array 2 te)) (hte : P.underlying te = some (.int k)) (hc : P.cellsOf e = 2) (hc1 : P.cellsOf te = 1)
    (h : DataW.trod enc P W base spare held fuel e cs = some x) : ∃ a b : Int, cs = [.int k a, .int k b] := by
  obtain ⟨xs, m, -, -, hl, hx, hf⟩ := DataW.trod_array he h
  rw [hc] at hl
  obtain ⟨c0, c1, rfl⟩ : ∃ c0 c1, cs = [c0, c1] := by
    match cs, hl with
    | [a, b], _ => exact ⟨a, b, rfl⟩
  have h0 := hf 0 (by omega)
  have h1 := hf 1 (by omega)
  rw [hc1] at h0 h1
  simp only [Nat.zero_mul, Nat.one_mul, List.drop_zero, List.take_succ_cons, List.take_zero, List.drop_succ_cons] at h0 h1
  rw [List.getElem?_eq_getElem (by omega)] at h0 h1
  obtain ⟨a, e0, -⟩ := DataW.trod_int hte h0
  obtain ⟨b, e1, -⟩ := DataW.trod_int hte h1
  cases e0; cases e1
  exact ⟨a, b, rfl⟩
theorem camep {H : Type} {enc : TypeId × Value → H} {t e te : TypeId} {k : IntKind} {W : World} {base : Nat} {v : Value} {d : DataW H} {ps : List MemPlace} (ht : P.underlying t = some (.slice e)) (he : P.underlying e = some (.array 2 te)) (hte : P.underlying te = some (.int k)) (hc : P.cellsOf e = 2) (hc1 : P.cellsOf te = 1)
    (hok : Value.okWide P W .any base t v) (h : DataW.Trod enc P W 0 (fun _ => true) true t v d ps) : ∃ l, CameP W v k l := by
  obtain ⟨a0, len0, cap0, rfl⟩ := okWide_slice ht hok
  obtain ⟨n, hn⟩ := h
  have hcells : (Value.slice a0 len0 cap0).cells.toList = [.slice a0 len0 cap0] := rfl
  rw [hcells] at hn
  rcases DataW.trod_slice ht hn with ⟨hcs, -⟩ | ⟨a, len, cap, elems, rest, n, -, hcs, -, -, hl, hm, hlen, hel, hsp, -⟩
  · cases hcs
    exact ⟨[], .inl ⟨rfl, rfl⟩, by simp⟩
  · cases hcs
    have hhas : W.has P .any base a e cap0 := by
      simp only [Value.okWide, ht, Cell.okWide, Cell.ok] at hok
      exact hok.2.2
    obtain ⟨-, hsp0, row, cells, hsh, -⟩ := hhas
    obtain ⟨b, o, sp⟩ := a
    simp only at hsp0 hsh
    subst hsp0
    have hblk : ∃ C et fz, W.heap[b]? = some (.cells C et fz) := by
      unfold World.shape? at hsh
      cases hh : W.heap[b]? with
      | none => rw [hh] at hsh; simp at hsh
      | some ob =>
        rw [hh] at hsh
        cases ob with
        | cells C et fz => exact ⟨C, et, fz, rfl⟩
        | _ => simp at hsh
    obtain ⟨C, et, fz, hC⟩ := hblk
    obtain ⟨hrl, hr⟩ := hsp rfl
    have hpair : ∀ i, i < cap0 → ∃ p : Int × Int, C[o + i * 2]? = some (.int k p.1) ∧ C[o + i * 2 + 1]? = some (.int k p.2) := by
      intro i hi
      have hb' : ∃ y, (W.cells? 0 ((⟨b, o, none⟩ : Addr).add (i * P.cellsOf e)) (P.cellsOf e)).bind (DataW.trod enc P W 0 (fun _ => true) true n e) = some y := by
        by_cases c : i < len0
        · rw [hel i c]
          exact ⟨_, List.getElem?_eq_getElem (by omega)⟩
        · have := hr (i - len0) (by omega)
          rw [show len0 + (i - len0) = i by omega] at this
          rw [this]
          exact ⟨_, List.getElem?_eq_getElem (by omega)⟩
      obtain ⟨y, hy⟩ := hb'
      obtain ⟨cs, hcs, hy⟩ := Option.bind_eq_some_iff.1 hy
      obtain ⟨x1, x2, rfl⟩ := pair_trod he hte hc hc1 hy
      rw [hc] at hcs
      obtain ⟨-, -, g⟩ := World.cells?_some hcs
      have g0 := g 0 (by omega)
      have g1 := g 1 (by omega)
      rw [Addr.add_mid, Addr.add_mid, cell_of hC] at g0 g1
      exact ⟨(x1, x2), by simpa using g0, by simpa using g1⟩
    obtain ⟨f, hf⟩ : ∃ f : Nat → Int × Int, ∀ i, i < cap0 → C[o + i * 2]? = some (.int k (f i).1) ∧ C[o + i * 2 + 1]? = some (.int k (f i).2) := by
      classical
      exact ⟨fun i => if h : i < cap0 then Classical.choose (hpair i h) else (0, 0), fun i hi => by simp only [dif_pos hi]; exact Classical.choose_spec (hpair i hi)⟩
    refine ⟨(List.range len0).map f, .inr ⟨b, o, cap0, C, et, fz, by simp, by simpa using hl, hC, fun h0 => ?_, fun i hi => ?_⟩, by simp; omega⟩
    · have := (hf (cap0 - 1) (by omega)).2
      have := (Array.getElem?_eq_some_iff.1 this).1
      omega
    · have hi' : i < len0 := by simpa using hi
      have := hf i (by omega)
      simpa using this
theorem CameP.block {W : World} {v : Value} {k : IntKind} {l : List (Int × Int)} (h : CameP W v k l) : ∀ b ∈ blockOf v, ∃ C e fz, W.heap[b]? = some (.cells C e fz) := by
  rcases h.all with ⟨rfl, -⟩ | ⟨b, o, cap, C, e, fz, rfl, -, hC, -⟩
  · intro b hb; simp [blockOf] at hb
  · intro b' hb; simp [blockOf] at hb; subst hb; exact ⟨C, e, fz, hC⟩
theorem CameP.rs {W : World} {v : Value} {k : IntKind} {l : List (Int × Int)} (h : CameP W v k l) {bs : List Nat} (hn : bs.Nodup) (hb : ∀ b ∈ blockOf v, b ∈ bs) :
    ∃ a, RelV (inj0 W bs) a v ∧ Rs 2 (H0 W bs) a (l.map fun p => [.int k p.1, .int k p.2]) := by
  rcases h.all with ⟨rfl, rfl⟩ | ⟨b, o, cap, C, e, fz, rfl, hlc, hC, hcap, hget⟩
  · exact ⟨.slice none 0 0 0 1 false, .nilslice, Rs.nil 2 _⟩
  · obtain ⟨i0, hi0, he0⟩ := List.mem_iff_getElem.1 (hb b (by simp [blockOf]))
    have hi0' : bs[i0]? = some b := by rw [List.getElem?_eq_getElem hi0, he0]
    have hcells : cellsOf0 W b = C := by simp [cellsOf0, hC]
    refine ⟨.slice (some i0) o l.length 0 2 false, ?_, some i0, o, 0, 2, false, by simp, fun i hi => ⟨i0, rfl, rfl, ?_⟩⟩
    · refine .slice (d := 0) (n := (cellsOf0 W b).size) ?_ (Nat.le_refl _) (fun _ => ?_) hlc (fun h0 => ⟨by simp, ?_, rfl⟩) (fun h => by cases h) (fun _ => Nat.zero_le _)
      · simp [inj0, idxOf_nodup hn hi0']
      · simp [inj0, List.getD, hi0']
      · rw [hcells]; exact hcap h0
    · have hrow : (H0 W bs)[i0]? = some (.row (C.toList.map (absV 3)) 0 0 true) := by simp [H0, hi0', hcells]
      have hi' : i < l.length := by simpa using hi
      obtain ⟨g0, g1⟩ := hget i hi'
      have s0 := (Array.getElem?_eq_some_iff.1 g0).1
      have s1 := (Array.getElem?_eq_some_iff.1 g1).1
      rw [ldn_succ, ldn_succ]
      have l0 : ld (H0 W bs) i0 (o + i * 2) 0 = some (.int k l[i].1) := by
        simp only [ld, hrow]
        rw [if_pos (.inl trivial), List.getElem?_map, Array.getElem?_toList, g0]
        rfl
      have l1 : ld (H0 W bs) i0 (o + i * 2 + 1) 0 = some (.int k l[i].2) := by
        simp only [ld, hrow]
        rw [if_pos (.inl trivial), List.getElem?_map, Array.getElem?_toList, g1]
        rfl
      rw [l0, Option.bind_some, l1]
      simp [ldn]
/-- A struct of an int and a slice. -/
def tailP2 (P : Program) (t ti ts : TypeId) : Bool := match P.underlying t with
  | some (.struct fs) => match fs.toList with
    | [f0, f1] => f0.type == ti && f0.offset == 0 && (f1.type == ts && f1.offset == 1)
    | _ => false
  | _ => false
theorem rec2p_came {H : Type} {enc : TypeId × Value → H} {t ts te ti : TypeId} {k : IntKind} {W : World} {base : Nat} {v : Value} {d : DataW H} {ps : List MemPlace} (hh : tailP2 P t ti ts = true) (ht : P.cellTypes P.depth t = some [ti, ts]) (hn : P.cellsOf t = 2) (hc1 : P.cellsOf ts = 1)
    (hts : P.underlying ts = some (.slice te)) (hee : P.underlying te = some (.array 2 ti)) (hce : P.cellsOf te = 2) (hci : P.cellsOf ti = 1) (hti : P.underlying ti = some (.int k)) (hok : Value.okWide P W .any base t v) (h : DataW.Trod enc P W 0 (fun _ => true) true t v d ps) :
    ∃ (s : Value) (m : Int) (l : List (Int × Int)), v = .agg #[.int k m, s] ∧ (Lit.int k m).wf = true ∧ CameP W s k l := by
  unfold tailP2 at hh
  split at hh
  case h_2 => cases hh
  rename_i fs hu
  have h1 : ∃ cs, v = .agg cs ∧ cs.size = P.cellsOf t ∧ Row.okWide P W .any base t cs := by
    unfold Value.okWide at hok
    split at hok
    · exact hok
    · exact hok
    · rename_i h1 h2
      exact absurd hu (h1 _)
  obtain ⟨cs, rfl, hsz, ts', hts', -, hcell⟩ := h1
  rw [ht] at hts'
  cases hts'
  rw [hn] at hsz
  obtain ⟨c0, c1, hcs⟩ : ∃ c0 c1, cs.toList = [c0, c1] := by
    have : cs.toList.length = 2 := by simpa using hsz
    match hl : cs.toList, this with
    | [a, b], _ => exact ⟨a, b, rfl⟩
  have hcs2 : cs = #[c0, c1] := by rw [← Array.toList_inj]; exact hcs
  subst hcs2
  obtain ⟨u0, e0, k0⟩ := hcell 0 c0 rfl
  obtain ⟨u1, e1, k1⟩ := hcell 1 c1 rfl
  cases e0; cases e1
  have hint : ∀ c : Value, Cell.okWide P W .any base ti c → ∃ m : Int, c = .int k m ∧ (Lit.int k m).wf = true := by
    intro c hc
    simp only [Cell.okWide, hti, Cell.ok] at hc
    split at hc <;> simp_all [IntKind.has, Lit.wf]
  obtain ⟨m, rfl, w1⟩ := hint c0 k0
  have hok2 : Value.okWide P W .any base ts c1 := by
    unfold Value.okWide
    rw [hts]
    exact k1
  obtain ⟨a2, len2, cap2, rfl⟩ := okWide_slice hts hok2
  obtain ⟨fuel, hf⟩ := h
  cases fuel with
  | zero => cases hf
  | succ fuel =>
    have hf : (match P.underlying t, [Value.int k m, .slice a2 len2 cap2] with
      | some (.struct fs), cs => if cs.length = P.cellsOf t then (fs.toList.mapM fun f => DataW.trod enc P W 0 (fun _ => true) true fuel f.type ((cs.drop f.offset).take (P.cellsOf f.type))).map fun xs => (DataW.agg (xs.map (·.1)), xs.flatMap (·.2)) else none
      | _, _ => none) = some (d, ps) := by
      rw [hu]
      unfold DataW.trod at hf
      rw [hu] at hf
      exact hf
    rw [hu] at hf
    simp only [] at hf
    split at hf
    case isFalse => cases hf
    obtain ⟨xs, hx, -⟩ := Option.map_eq_some_iff.1 hf
    split at hh
    case h_2 => cases hh
    rename_i f0 f1 hfs
    simp only [Bool.and_eq_true, beq_iff_eq] at hh
    obtain ⟨-, t1, o1⟩ := hh
    rw [hfs, List.mapM_cons] at hx
    obtain ⟨x0, -, hx⟩ := Option.bind_eq_some_iff.1 hx
    obtain ⟨y0, hx, -⟩ := Option.bind_eq_some_iff.1 hx
    rw [List.mapM_cons, t1, o1, hc1] at hx
    obtain ⟨x1, hx1, -⟩ := Option.bind_eq_some_iff.1 hx
    obtain ⟨l, hl⟩ := camep (d := x1.1) (ps := x1.2) hts hee hti hce hci hok2 ⟨fuel, hx1⟩
    exact ⟨_, m, l, rfl, w1, hl⟩
end Go.Proofs.Ytbimapbcpmeooaa.AX
