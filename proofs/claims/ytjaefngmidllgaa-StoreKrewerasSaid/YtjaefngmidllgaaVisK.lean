/- Flat divisions and those of their gaps: what the visitor keeps. -/
import Derived.Test.YtjaefngmidllgaaKrT
import Derived.Test.YtjaefngmidllgaaKrU
import Derived.Test.YtjaefngmidllgaaRms
import Derived.Test.YtjaefngmidllgaaLArc
import Derived.Test.YtjaefngmidllgaaOwn
import Derived.Test.YtjaefngmidllgaaUni
namespace Go.Proofs.Ytjaefngmidllgaa.St
open Go Go.Proofs.Ytjaefngmidllgaa Go.Proofs.Ytjaefngmidllgaa.AX
set_option maxRecDepth 100000
set_option linter.unusedVariables false
/-- A map of texts. -/
def mapS (l : List (List UInt8)) : List (AV × AV) := l.map fun k => (.str k, .bool true)
theorem mt41 : mapT Try.prog 41 = some (.string, .bool false) := by kernel_rfl
theorem mfind_S (k : List UInt8) : ∀ l : List (List UInt8), mfind .string (.str k) (mapS l) = some (if l.contains k then some (.bool true) else none)
  | [] => rfl
  | x :: l => by
    have := mfind_S k l
    simp only [mapS] at this
    simp only [mapS, List.map_cons, mfind, sameKeyA, this, List.contains_cons]
    cases h : k == x <;> simp
theorem mput_S (k : List UInt8) : ∀ l : List (List UInt8), mput .string (.str k) (.bool true) (mapS l) = some (mapS (if l.contains k then l else l ++ [k]))
  | [] => rfl
  | x :: l => by
    have := mput_S k l
    simp only [mapS] at this
    simp only [mapS, List.map_cons, mput, sameKeyA, this, List.contains_cons]
    cases h : k == x with
    | true => have := eq_of_beq h; subst this; simp
    | false =>
      simp only [Bool.false_or]
      split <;> simp
theorem look_S {H : AH} {r : Nat} {l : List (List UInt8)} (h : H[r]? = some (.map (mapS l))) (k : List UInt8) : aLook Try.prog H 41 (.map r) (.str k) false = some (.bool (l.contains k)) := by
  have hr : mrow H r = some (mapS l) := by unfold mrow; rw [h]
  simp only [aLook, aLookF, mt41, keyOkA, if_true, hr, Option.bind_some, mfind_S, Option.map_some]
  cases l.contains k <;> rfl
theorem put_S {H : AH} {r : Nat} {l : List (List UInt8)} (h : H[r]? = some (.map (mapS l))) (k : List UInt8) : aMapPut Try.prog H 41 (.map r) (.str k) (.bool true) = some (H.set r (.map (mapS (if l.contains k then l else l ++ [k])))) := by
  have hr : mrow H r = some (mapS l) := by unfold mrow; rw [h]
  simp only [aMapPut, aPutF, mt41, keyOkA, if_true, hr, Option.bind_some, mput_S, Option.map_some]
structure SK (pg pc pn pm r n : Nat) (st : Bool × Int × List (List UInt8)) (H : AH) : Prop where
  g : ∃ m, H[pg]? = some (.row [.bool st.1] 0 m false)
  c : ∃ m, H[pc]? = some (.row [.int .i64 st.2.1] 0 m false)
  n : ∃ m, H[pn]? = some (.row [.int .i64 (n : Nat)] 0 m false)
  m : ∃ m, H[pm]? = some (.row [.map r] 0 m false)
  r : H[r]? = some (.map (mapS st.2.2))
def WK (pg pc r : Nat) (j : Nat) : Prop := j = pg ∨ j = pc ∨ j = r
theorem ownF_row {N : Nat} {H : AH} {v : AV} {l : List AV} (h : OwnF N H v l) : ∀ j, rowOf v = some j → N ≤ j := by
  rcases h with ⟨-, rfl⟩ | ⟨r, ver, st, h1, rfl, -⟩
  · intro j hj; cases hj
  · intro j hj
    have : r = j := by simpa [rowOf] using hj
    omega
theorem enc_small : ∀ x : Nat, x < 9 → (Utf8.encode ((97 + x : Nat) : Int)).data.toList = [UInt8.ofNat (97 + x)] := by decide +kernel
theorem cv21 (x : Nat) (hx : x < 9) : aConv Try.prog 21 9 (.int .i32 ((97 + x : Nat) : Int)) = some (.str [UInt8.ofNat (97 + x)]) := by
  have h : ∀ n : Int, aConv Try.prog 21 9 (.int .i32 n) = some (.str (Utf8.encode n).data.toList) := fun n => by
    have u1 : Try.prog.underlying 21 = some (.int .i32) := by kernel_rfl
    have u2 : Try.prog.underlying 9 = some .string := by kernel_rfl
    simp [aConv, u1, u2]
  rw [h, enc_small x hx]
end Go.Proofs.Ytjaefngmidllgaa.St
