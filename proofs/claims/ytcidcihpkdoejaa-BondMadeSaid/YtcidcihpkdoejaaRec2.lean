/- A struct of an int and a slice that comes in. -/
import Derived.Test.YtcidcihpkdoejaaAxT
namespace Go.Proofs.Ytcidcihpkdoejaa.AX
open Go Go.RowKit Go.ChangeShapes Go.WideShapes Go.ChangeAt
variable {P : Program}
/-- A struct of an int and a slice. -/
def tailT2 (P : Program) (t ti ts : TypeId) : Bool := match P.underlying t with
  | some (.struct fs) => match fs.toList with
    | [f0, f1] => f0.type == ti && f0.offset == 0 && (f1.type == ts && f1.offset == 1)
    | _ => false
  | _ => false
theorem rec2_came {H : Type} {enc : TypeId × Value → H} {t ts te ti : TypeId} {k : IntKind} {W : World} {base : Nat} {v : Value} {d : DataW H} {ps : List MemPlace} (hh : tailT2 P t ti ts = true) (ht : P.cellTypes P.depth t = some [ti, ts]) (hn : P.cellsOf t = 2) (hc1 : P.cellsOf ts = 1)
    (hts : P.underlying ts = some (.slice te)) (hte : P.underlying te = some (.int k)) (hce : P.cellsOf te = 1) (hti : P.underlying ti = some (.int k)) (hok : Value.okWide P W .any base t v) (h : DataW.Trod enc P W 0 (fun _ => true) true t v d ps) :
    ∃ (s : Value) (m : Int) (l : List Int), v = .agg #[.int k m, s] ∧ (Lit.int k m).wf = true ∧ Came W s k l := by
  unfold tailT2 at hh
  split at hh
  case h_2 => cases hh
  rename_i fs hu
  have h1 : ∃ cs, v = .agg cs ∧ cs.size = P.cellsOf t ∧ Row.okWide P W .any base t cs := by
    unfold Value.okWide at hok
    split at hok
    · exact hok
    · exact hok
    · rename_i h1 h2
      exact absurd hu (h1 _)
  obtain ⟨cs, rfl, hsz, ts', hts', -, hcell⟩ := h1
  rw [ht] at hts'
  cases hts'
  rw [hn] at hsz
  obtain ⟨c0, c1, hcs⟩ : ∃ c0 c1, cs.toList = [c0, c1] := by
    have : cs.toList.length = 2 := by simpa using hsz
    match hl : cs.toList, this with
    | [a, b], _ => exact ⟨a, b, rfl⟩
  have hcs2 : cs = #[c0, c1] := by rw [← Array.toList_inj]; exact hcs
  subst hcs2
  obtain ⟨u0, e0, k0⟩ := hcell 0 c0 rfl
  obtain ⟨u1, e1, k1⟩ := hcell 1 c1 rfl
  cases e0; cases e1
  have hint : ∀ c : Value, Cell.okWide P W .any base ti c → ∃ m : Int, c = .int k m ∧ (Lit.int k m).wf = true := by
    intro c hc
    simp only [Cell.okWide, hti, Cell.ok] at hc
    split at hc <;> simp_all [IntKind.has, Lit.wf]
  obtain ⟨m, rfl, w1⟩ := hint c0 k0
  have hok2 : Value.okWide P W .any base ts c1 := by
    unfold Value.okWide
    rw [hts]
    exact k1
  obtain ⟨a2, len2, cap2, rfl⟩ := okWide_slice hts hok2
  obtain ⟨fuel, hf⟩ := h
  cases fuel with
  | zero => cases hf
  | succ fuel =>
    have hf : (match P.underlying t, [Value.int k m, .slice a2 len2 cap2] with
      | some (.struct fs), cs => if cs.length = P.cellsOf t then (fs.toList.mapM fun f => DataW.trod enc P W 0 (fun _ => true) true fuel f.type ((cs.drop f.offset).take (P.cellsOf f.type))).map fun xs => (DataW.agg (xs.map (·.1)), xs.flatMap (·.2)) else none
      | _, _ => none) = some (d, ps) := by
      rw [hu]
      unfold DataW.trod at hf
      rw [hu] at hf
      exact hf
    rw [hu] at hf
    simp only [] at hf
    split at hf
    case isFalse => cases hf
    obtain ⟨xs, hx, -⟩ := Option.map_eq_some_iff.1 hf
    split at hh
    case h_2 => cases hh
    rename_i f0 f1 hfs
    simp only [Bool.and_eq_true, beq_iff_eq] at hh
    obtain ⟨-, t1, o1⟩ := hh
    rw [hfs, List.mapM_cons] at hx
    obtain ⟨x0, -, hx⟩ := Option.bind_eq_some_iff.1 hx
    obtain ⟨y0, hx, -⟩ := Option.bind_eq_some_iff.1 hx
    rw [List.mapM_cons, t1, o1, hc1] at hx
    obtain ⟨x1, hx1, -⟩ := Option.bind_eq_some_iff.1 hx
    obtain ⟨l, hl⟩ := came (d := x1.1) (ps := x1.2) hts hte hce hok2 ⟨fuel, hx1⟩
    exact ⟨_, m, l, rfl, w1, hl⟩
end Go.Proofs.Ytcidcihpkdoejaa.AX
