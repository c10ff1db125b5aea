/- A law whose call leaves all that was there as it was. -/
import Derived.Test.YtpijmamkmhfocaaRows
import Derived.WalkKit
import Derived.ProofKit
import Derived.OpenShut
import Derived.Below
import Derived.ChangeSame
import Derived.Test.YtpijmamkmhfocaaAxN
namespace Go.Proofs.Ytpijmamkmhfocaa
open Go Go.Proofs.Ytpijmamkmhfocaa.AX Go.ChangeShapes Go.WideShapes Go.ChangeAt Go.RowKit

section
variable {H : Type} {enc : TypeId × Value → H} {P : Program}
theorem postB {f : Func} {s : ChangeSpec} {apart fresh handsOn again : Bool} {W W' : World} {args : Array Value} {v : Value} {ds gs : List (DataW H)} {before : List MemPlace} (hb : Below W.heap.size W W')
    (hW : DataW.Whole enc P f.params.toList s.vars apart W args.toList ds gs before) {pa pv : List MemPlace} (hps : before = pa ++ pv)
    (hargs : ∀ sp : Nat → Bool, (∀ p ∈ before, sp p.block = true) → DataW.TrodAll enc P W' 0 sp true f.params.toList args.toList (s.fn H (ds ++ gs)).args pa)
    (hvars : ∀ sp : Nat → Bool, (∀ p ∈ before, sp p.block = true) → DataW.TrodVars enc P W' sp s.vars (s.fn H (ds ++ gs)).vars pv)
    (hres : ∀ (b : Nat) (sp : Nat → Bool) (hd : Bool), DataW.TrodAll enc P W' b sp hd f.resultTypes.toList (v.resultList f.resultTypes.size) (s.fn H (ds ++ gs)).results [])
    (hok : ∀ (j : Nat) (t : TypeId) (r : Value), f.resultTypes[j]? = some t → (v.resultList f.resultTypes.size)[j]? = some r → Value.okWide P W' .any 0 t r) : s.post enc P f apart fresh handsOn again W args v W' := by
  have low : ∀ p ∈ before, p.block < W.heap.size := fun p hp => hW.lt p hp
  have A := hargs (fun b => decide (b < W.heap.size)) fun p hp => decide_eq_true (low p hp)
  have V := hvars (fun b => decide (b < W.heap.size)) fun p hp => decide_eq_true (low p hp)
  have A1 := hargs (fun _ => true) fun _ _ => rfl
  have V1 := hvars (fun _ => true) fun _ _ => rfl
  obtain ⟨p1, q1, g1, g2, g3, gz, gn⟩ := id hW
  have T := trodAll_append A1 (hres 0 (fun _ => true) true)
  have hin : ∀ p, p ∈ ([] ++ pa) ++ pv → p ∈ before := fun p hp => by rw [hps]; exact hp
  refine ⟨ds, gs, before, [], pa, pv, hW, hres _ _ _, A, V, World.keptBut_mono (fun p hp => ⟨hp, .inr (List.mem_append.1 (hps ▸ hp))⟩) (hb.frame fun p => p ∈ before), fun _ => ⟨hok, _, _, _, ⟨_, pv, T, V1, rfl, fun b off hp => ?_, fun ha => ?_⟩, fun p hp _ => hin p hp⟩⟩
  · rw [hb.frozen (low _ (hin _ hp))]
    exact gz b off (hin _ hp)
  · have := gn ha
    rw [hps] at this
    exact this
end

theorem okU8 {a : Int} (h : (Lit.int .u8 a).wf = true) : 0 ≤ a ∧ a < 256 := by
  simp only [Lit.wf, Bool.and_eq_true, decide_eq_true_eq] at h
  have e1 : IntKind.u8.min = 0 := by decide
  have e2 : IntKind.u8.max = 255 := by decide
  omega
end Go.Proofs.Ytpijmamkmhfocaa
