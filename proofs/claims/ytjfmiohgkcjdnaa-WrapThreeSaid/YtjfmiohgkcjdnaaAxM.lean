/- A plain reading of runs: what is kept between statements. -/
import Derived.Test.YtjfmiohgkcjdnaaAxL
namespace Go.Proofs.Ytjfmiohgkcjdnaa.AX
open Go Go.RowKit

def insN (x : Nat) : List Nat → List Nat
  | [] => [x]
  | y :: l => if x < y then x :: y :: l else if x = y then y :: l else y :: insN x l

def opTmps (o : Op) : List Nat := o.operands.toList.filterMap fun | .tmp t => some t | _ => none

/-- The temporaries that a statement reads before it writes them. -/
def regionUp : List Oper → List Nat → List Nat → List Nat
  | [], _, acc => acc
  | o :: l, d, acc =>
    regionUp l (match o.dst with | some t => t :: d | none => d) ((opTmps o.op).foldl (fun a t => if d.contains t then a else insN t a) acc)

def keepCode : Code → List Nat → List Nat
  | .region _ ops _, acc => regionUp ops.toList [] acc
  | .seq a b, acc => keepCode b (keepCode a acc)
  | .cond x a b, acc => keepCode b (keepCode a (match x with | .tmp t => insN t acc | _ => acc))
  | .block _ a, acc => keepCode a acc
  | .loop a, acc => keepCode a acc
  | .scope a, acc => keepCode a acc
  | .rangeFunc x _ a b, acc => keepCode b (keepCode a (match x with | .tmp t => insN t acc | _ => acc))
  | _, acc => acc

def keepFn (fn : Func) : List Nat :=
  match fn.body with
  | none => []
  | some c => keepCode c (fn.results.toList.foldl (fun a r => match r with | .tmp t => insN t a | .cell t _ => insN t a) [])

end Go.Proofs.Ytjfmiohgkcjdnaa.AX
