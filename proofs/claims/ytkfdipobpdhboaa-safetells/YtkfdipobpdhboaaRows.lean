/-
  No cell of these rows narrows 'for every input' (looked for: loops, veiled, ifaces, maps, wideKeys, modest, calm, conditions, laid).
  DERIVED. THE GIVEN ROWS OF THIS SEAT. 3 by the template 'for every input the law returns true; each argument reads behind the call as it read before'; 0 by the template 'total and deterministic' (their statements: YtkfdipobpdhboaaTotals.lean).
  GIVEN WITH THE SEED: the statements are not yours to turn. If you find one false, say at which input.
  Laid BY PROGRAM, IN A SANDBOX (cutbox-rows.mjs): the forced cells as the released guide's own fill.sh prints them over the translation 2c9cc1c9ee5d88aa… (all of the seat's roots in one cut). By AI agents, Wed Nov 11 2026. No macro, syntax, notation, axiom, sorry.
-/
import Derived.Test.YtkfdipobpdhboaaChecked
import GoSem.Claim
import GoSem.ClaimJoined
import GoSem.ClaimMapViews
import Derived.JoinedTies
import Derived.KernelRfl
namespace Go.Proofs.Ytkfdipobpdhboaa
/- THE CELL 'sum', in the pinned program and in every row, IS THE sha256 OF THE DUMP (.gsa) THAT YtkfdipobpdhboaaProg.lean LOADS. Nothing in Lean hashes anything: it is a label: what it is worth is what the hold of that sum in a sandbox is worth. -/
noncomputable def Try.pinned : Pinned := { name := "ytkfdipobpdhboaa", sum := "2c9cc1c9ee5d88aacf4551308a3265ae3298ea9cb2bf722725fc77e1db9d7dbf", checked := Try.checked }
namespace Rows
def none {H : Type} : Left H := { results := [], args := [] }

/-- 'moatlaw4.SafeTells': WHATEVER THE INPUT: true; the input reads as it did. -/
def safeTellsSpec : ChangeSpec := { name := "safeTells", fn := fun _ => fun
  | [d1, d2] => { results := [.lit (.bool true)], args := [d1, d2] }
  | _ => none }
def safeTellsRow : OpenClaim := { program := "ytkfdipobpdhboaa", sum := "2c9cc1c9ee5d88aacf4551308a3265ae3298ea9cb2bf722725fc77e1db9d7dbf", func := "moat/moatlaw4.SafeTells", spec := "safeTells", apart := false }
def SafeTellsSaid : Prop := safeTellsRow.holds Try.pinned (OpenSpec.ofChange safeTellsSpec)

/-- ITS FALSE NEIGHBOUR: 'it returns false'. Refute it at one input. -/
def safeTellsWrong : ChangeSpec := { name := "safeTells", fn := fun _ => fun
  | [d1, d2] => { results := [.lit (.bool false)], args := [d1, d2] }
  | _ => none }
def SafeTellsWrongFalsely : Prop := safeTellsRow.holds Try.pinned (OpenSpec.ofChange safeTellsWrong)

/-- 'moatlaw4.SafeMore': WHATEVER THE INPUT: true; the input reads as it did. -/
def safeMoreSpec : ChangeSpec := { name := "safeMore", fn := fun _ => fun
  | [d1, d2, d3] => { results := [.lit (.bool true)], args := [d1, d2, d3] }
  | _ => none }
def safeMoreRow : OpenClaim := { program := "ytkfdipobpdhboaa", sum := "2c9cc1c9ee5d88aacf4551308a3265ae3298ea9cb2bf722725fc77e1db9d7dbf", func := "moat/moatlaw4.SafeMore", spec := "safeMore", apart := false }
def SafeMoreSaid : Prop := safeMoreRow.holds Try.pinned (OpenSpec.ofChange safeMoreSpec)

/-- ITS FALSE NEIGHBOUR: 'it returns false'. Refute it at one input. -/
def safeMoreWrong : ChangeSpec := { name := "safeMore", fn := fun _ => fun
  | [d1, d2, d3] => { results := [.lit (.bool false)], args := [d1, d2, d3] }
  | _ => none }
def SafeMoreWrongFalsely : Prop := safeMoreRow.holds Try.pinned (OpenSpec.ofChange safeMoreWrong)

/-- 'moatlaw4.SafeRows': WHATEVER THE INPUT: true; the input reads as it did. -/
def safeRowsSpec : ChangeSpec := { name := "safeRows", fn := fun _ => fun
  | [d1, d2] => { results := [.lit (.bool true)], args := [d1, d2] }
  | _ => none }
def safeRowsRow : OpenClaim := { program := "ytkfdipobpdhboaa", sum := "2c9cc1c9ee5d88aacf4551308a3265ae3298ea9cb2bf722725fc77e1db9d7dbf", func := "moat/moatlaw4.SafeRows", spec := "safeRows", apart := false }
def SafeRowsSaid : Prop := safeRowsRow.holds Try.pinned (OpenSpec.ofChange safeRowsSpec)

/-- ITS FALSE NEIGHBOUR: 'it returns false'. Refute it at one input. -/
def safeRowsWrong : ChangeSpec := { name := "safeRows", fn := fun _ => fun
  | [d1, d2] => { results := [.lit (.bool false)], args := [d1, d2] }
  | _ => none }
def SafeRowsWrongFalsely : Prop := safeRowsRow.holds Try.pinned (OpenSpec.ofChange safeRowsWrong)

/- THE SECOND FORM. 'bulk': how many values and letters a reading holds, each counted each time it is reached (what is shared counts as often as it is met; a slice's spare places count too). A statement '..UptoSaid' is the law's where the arguments, and the package variables that the reading takes, are together of bulk at most 1048576: NARROWER than '..Said'. Prove '..Said' where nothing that the law and all that it calls make is longer than what came in: it says more and counts as full. Else prove '..UptoSaid'. A law counts once. -/
mutual
def uptoBulk {H : Type} : DataW H → Nat
  | .lit (.string bytes) => bytes.length + 1
  | .lit _ => 1
  | .nil => 1
  | .ptr d => uptoBulk d + 1
  | .slice elems spare => uptoBulkAll elems + uptoBulkAll spare + 1
  | .agg parts => uptoBulkAll parts + 1
  | .iface _ d => uptoBulk d + 1
  | .map entries => uptoBulkEntries entries + 1
  | .held _ => 1
def uptoBulkAll {H : Type} : List (DataW H) → Nat
  | [] => 0
  | d :: r => uptoBulk d + uptoBulkAll r
def uptoBulkEntries {H : Type} : List (Lit × DataW H) → Nat
  | [] => 0
  | x :: r => uptoBulkEntry x + uptoBulkEntries r
def uptoBulkEntry {H : Type} : Lit × DataW H → Nat
  | (.string bytes, d) => bytes.length + uptoBulk d + 1
  | (_, d) => uptoBulk d + 1
 end
def uptoSmall : (H : Type) → List (DataW H) → Bool := fun _ ds => decide (uptoBulkAll ds ≤ 1048576)
def OpenSpec.upto (s : _root_.Go.ChangeSpec) : _root_.Go.OpenSpec := { _root_.Go.OpenSpec.ofChange s with cond := some uptoSmall }

/-- 'moatlaw4.SafeTells', WHERE WHAT IT READS IS OF BULK AT MOST 1048576: true; the input reads as it did. -/
def safeTellsUptoRow : OpenClaim := { program := "ytkfdipobpdhboaa", sum := "2c9cc1c9ee5d88aacf4551308a3265ae3298ea9cb2bf722725fc77e1db9d7dbf", func := "moat/moatlaw4.SafeTells", spec := "safeTells", apart := false, narrowed := true }
def SafeTellsUptoSaid : Prop := safeTellsUptoRow.holds Try.pinned (OpenSpec.upto safeTellsSpec)

/-- 'moatlaw4.SafeMore', WHERE WHAT IT READS IS OF BULK AT MOST 1048576: true; the input reads as it did. -/
def safeMoreUptoRow : OpenClaim := { program := "ytkfdipobpdhboaa", sum := "2c9cc1c9ee5d88aacf4551308a3265ae3298ea9cb2bf722725fc77e1db9d7dbf", func := "moat/moatlaw4.SafeMore", spec := "safeMore", apart := false, narrowed := true }
def SafeMoreUptoSaid : Prop := safeMoreUptoRow.holds Try.pinned (OpenSpec.upto safeMoreSpec)

/-- 'moatlaw4.SafeRows', WHERE WHAT IT READS IS OF BULK AT MOST 1048576: true; the input reads as it did. -/
def safeRowsUptoRow : OpenClaim := { program := "ytkfdipobpdhboaa", sum := "2c9cc1c9ee5d88aacf4551308a3265ae3298ea9cb2bf722725fc77e1db9d7dbf", func := "moat/moatlaw4.SafeRows", spec := "safeRows", apart := false, narrowed := true }
def SafeRowsUptoSaid : Prop := safeRowsUptoRow.holds Try.pinned (OpenSpec.upto safeRowsSpec)

end Rows
end Go.Proofs.Ytkfdipobpdhboaa
