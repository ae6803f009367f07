/- What the proofs of this seat's rows share: the listed variables give what the walks ask of a world; a world for the witness. -/
import Derived.Test.YtcmmjmgbanafgaaRows
import Derived.Test.YtcmmjmgbanafgaaW4
import Derived.ProofKit
import Derived.OpenShut
import Derived.ShutString
import Derived.ChangeOld
import Derived.Deep.DeepHandedRow
import Derived.Lib.LaidTab
namespace Go.Proofs.Ytcmmjmgbanafgaa
open Go.ChangeShapes Go.WideShapes Go.ChangeAt Go.RowKit Go.Proofs.Url

theorem own_knob : ownKnob Try.prog.godebug = none := by kernel_rfl
theorem laid_out : laidOutB Try.prog = true := by kernel_rfl

theorem envM_of {W : World} (hS : W.ShapedOpen Try.prog) : EnvM W :=
  cell_of_shapedOpen_int (zero := #[.int .i64 0]) (t := 3) hS (of_decide_eq_true (by kernel_rfl)) (by kernel_rfl) rfl (by kernel_rfl) (by kernel_rfl) Try.underlying3
/-- WHAT A ROW GIVES THE WALKS: the world's shape (MaxLen holds a number) and the listed table. -/
theorem env_of {W : World} (_hL : laidMetH Try.prog Rows.showTellsRow.laid W) (hS : W.ShapedOpen Try.prog) : Env W := ⟨envM_of hS, trivial⟩

def flat1 : DataW Unit → List Value
  | .lit (.int k n) => [.int k n]
  | _ => []
def flat2 : DataW Unit → List Value
  | .agg l => l.flatMap flat1
  | d => flat1 d
def flat3 : DataW Unit → List Value
  | .agg l => l.flatMap flat2
  | d => flat2 d
def lay (cs : Array Value) : Obj → Obj
  | .cells _ t frozen => .cells cs t frozen
  | o => o
/-- The listed tables, laid into the blocks of a world's variables: for the witness. -/
def layAll (h : Array Obj) : Array Obj := h

end Go.Proofs.Ytcmmjmgbanafgaa
