/- A text loaded in a region that draws its order and only reads, its cell told of all worlds of the class. -/
import Derived.Test.YtlmchmhdojkokaaDoorQL
namespace Go.Proofs.YtlmchmhdojkokaaDoor
open Go.RowKit Go.Proofs.Url

theorem run_loadStr (w : World) (b o : Nat) (v : Value) (h : w.cell? ⟨b, o, none⟩ = some v) : (loadVar 9 ⟨b, o, none⟩).run Tryd.prog w = .ok v w := by
  simp [loadVar, isAgg, go_sem, h]
theorem wpQuiet_str {ops : Array Oper} {C : World → Prop} {Q : Act → Prop} {a : Act} {op : Oper} {rest : List Oper} (hw : Region.wanted op (yielded ops a.tmps) = true) (x : Operand) (ho : op.op = .load 9 x)
    (b o : Nat) (hx : a.eval x = .pointer (some ⟨b, o, none⟩)) (v : Value) (hC : ∀ w, C w → w.cell? ⟨b, o, none⟩ = some v)
    (h : wpQuiet Tryd.prog ops C Q rest (a.put op.dst v)) : wpQuiet Tryd.prog ops C Q (op :: rest) a :=
  BigFrame.wpQuiet_want hw fun K hK => ⟨v, fun w hw' => by
    unfold Oper.quietAt execOp
    simp only [ho, hx, Instr.loadAt, Instr.sureAddr, Sem.run_bind, Sem.run_pure, Result.andThen_ok, run_loadStr w b o v (hC w hw')]
    exact ⟨rfl, rfl⟩, hK _ h⟩
theorem quiet_cell {W : World} {b o : Nat} {v : Value} (h : W.cell? ⟨b, o, none⟩ = some v) : ∀ W', (∃ p : Regrown, W' = Sort.grow (redrawn W p.d) p.os) → W'.cell? ⟨b, o, none⟩ = some v := by
  rintro W' ⟨p, rfl⟩
  exact cell_regrown h p.d p.os
end Go.Proofs.YtlmchmhdojkokaaDoor
