/- Joined texts: Laid. -/
import Derived.Test.YticlfkmjmhjiaaaGreatDoorJ77ca
import Derived.Test.YticlfkmjmhjiaaaGreatDoorRows
import Derived.Test.YticlfkmjmhjiaaaGreatDoorAxT
import Derived.LaidMore
import Derived.OpenShut
import Derived.Stop.Joined
import Derived.SevenTiedAt
/- What the listed package variable gives. -/
namespace Go.Proofs.YticlfkmjmhjiaaaGreatDoor
open Go Go.Proofs.YticlfkmjmhjiaaaGreatDoor.AX Go.ChangeShapes Go.WideShapes Go.ChangeAt Go.RowKit
def laid : List (String × DataW Unit) := [("vitola/heap.past", Rows.laid_vitola_heap_past)]
theorem own : ownKnob Tryz.prog.godebug = none := by kernel_rfl
def doorSteps : Nat := 400
theorem door_met (os : Os) (args : Array Value) : laidMetH Tryz.prog laid ((World.doorLaid Tryz.prog doorSteps os).forCall (fun _ _ => 0) ⟨#[], args, []⟩).memory :=
  laidMetH_of_parts3 (fuel := 8) (laidMet_of_run' 8 (by kernel_rfl) (by kernel_rfl)) (by kernel_rfl) (by kernel_rfl)
theorem gPast : Tryz.prog.globalNamed "vitola/heap.past" = some 0 := by kernel_rfl
theorem tPast : (Tryz.prog.globals[0]?).map (·.type) = some 135 := by kernel_rfl
set_option maxRecDepth 100000 in
theorem of_laid {W : World} (h : laidMetH Tryz.prog laid W) : ∀ x ∈ gs, ∃ C e fz, W.heap[x.1]? = some (.cells C e fz) ∧ RelVs .empty x.2 C.toList := by
  rw [MakeChecks.laidMetH_plain _ _ _ (by kernel_rfl)] at h
  obtain ⟨ps, ⟨g0, t0, cs0, f0, p0, q0, hg0, ht0, hv0, hd0, _, _⟩, _, _⟩ := h
  obtain rfl := Option.some.inj (gPast.symm.trans hg0)
  obtain rfl := Option.some.inj (tPast.symm.trans ht0)
  intro x hx
  simp only [gs, List.mem_singleton] at hx
  subst hx
  unfold World.var? at hv0
  rw [gPast] at hv0
  simp only [Option.bind_some] at hv0
  split at hv0
  case h_2 => cases hv0
  rename_i C e fz hC
  have hcs := Option.some.inj hv0
  rw [hcs] at hC
  refine ⟨cs0, e, fz, hC, ?_⟩
  have hu := Tryz.underlying135
  obtain ⟨xs, m, -, hx1, hlen, hn, hel⟩ := DataW.trod_struct hu hd0
  have c3 : Tryz.prog.cellsOf 3 = 1 := by kernel_rfl
  have c135 : Tryz.prog.cellsOf 135 = 2 := by kernel_rfl
  obtain ⟨l⟩ := cs0
  have h0 : DataW.trod _ Tryz.prog W 0 _ false m 3 ((l.drop 0).take (Tryz.prog.cellsOf 3)) = xs[0]? := hel 0 _ rfl
  have h1 : DataW.trod _ Tryz.prog W 0 _ false m 3 ((l.drop 1).take (Tryz.prog.cellsOf 3)) = xs[1]? := hel 1 _ rfl
  rw [c135] at hlen
  rw [c3] at h0 h1
  have hx1 : [DataW.lit (Lit.int .i64 24), DataW.lit (Lit.int .i64 24)] = xs.map (·.1) := DataW.agg.inj (congrArg Prod.fst hx1)
  match l, hlen, xs, hn, hx1, h0, h1 with
  | [a, b], _, [x0, x1], _, hx1, h0, h1 =>
    simp only [List.map_cons, List.map_nil, List.cons.injEq] at hx1
    obtain ⟨n0, e1, e2, _⟩ := DataW.trod_int Tryz.underlying3 (show DataW.trod _ Tryz.prog W 0 _ false m 3 [a] = some x0 from h0)
    obtain ⟨n1, e3, e4, _⟩ := DataW.trod_int Tryz.underlying3 (show DataW.trod _ Tryz.prog W 0 _ false m 3 [b] = some x1 from h1)
    cases e1
    cases e3
    rw [e2, e4] at hx1
    have q0 : (24 : Int) = n0 := by simpa using hx1.1
    have q1 : (24 : Int) = n1 := by simpa using hx1.2
    subst q0
    subst q1
    exact .cons (.int _ _) (.cons (.int _ _) .nil)
theorem hasG_H0 {W : World} {bs : List Nat} : HasG gs (H0 W bs ++ gRows gs) := by
  intro x hx
  simp only [gs, List.mem_singleton] at hx
  subst hx
  exact ⟨by rw [gfind_H0]; rfl, .cons (.int _ _) (.cons (.int _ _) .nil)⟩
theorem wants_of {P : Program} {ts : Array TypeId} (h : (ts.toList.all fun t => !P.wantsStandIn t) = true) : ∀ (j : Nat) (t : TypeId), ts[j]? = some t → P.wantsStandIn t = false := by
  intro j t ht
  have := List.all_eq_true.1 h t (by rw [Array.mem_toList_iff]; exact Array.mem_of_getElem? ht)
  simpa using this
end Go.Proofs.YticlfkmjmhjiaaaGreatDoor
