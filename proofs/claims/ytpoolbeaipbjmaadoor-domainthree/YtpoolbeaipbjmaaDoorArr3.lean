/- A parameter of the type [3]int: how it is opened, and shut again. -/
import Derived.Test.YtpoolbeaipbjmaaDoorFrame
import Derived.Laws.IdiomArrays
import Derived.Lib.SmallJoins
namespace Go.Proofs.YtpoolbeaipbjmaaDoor
open Go.ChangeShapes Go.WideShapes Go.ChangeAt Go.RowKit Go.Proofs.Url Go.Joins

theorem cells_arr3 : Tryd.prog.cellsOf 30 = 3 := by kernel_rfl
theorem cells_arr3i : Tryd.prog.cellsOf 3 = 1 := by kernel_rfl
theorem open_arr3 {H : Type} {enc : TypeId × Value → H} {W : World} {base : Nat} {v : Value} {d : DataW H} {p : List MemPlace}
    (hv : Value.okWide Tryd.prog W .any base 30 v) (h : DataW.Trod enc Tryd.prog W 0 (fun _ => true) true 30 v d p) :
    ∃ x y z : Int, v = .agg #[.int .i64 x, .int .i64 y, .int .i64 z] ∧ d = .agg [.lit (.int .i64 x), .lit (.int .i64 y), .lit (.int .i64 z)] ∧ p = [] ∧
      ∀ (W' : World) (sp : Nat → Bool), DataW.Trod enc Tryd.prog W' 0 sp true 30 v d [] := by
  unfold Value.okWide at hv
  rw [Tryd.underlying30] at hv
  obtain ⟨cs, rfl, hsz, _⟩ := hv
  obtain ⟨c0, c1, c2, rfl⟩ := array3 (hsz.trans cells_arr3)
  obtain ⟨fuel, hf⟩ := h
  obtain ⟨y0, y1, y2, m, hx, hy0, hy1, hy2⟩ := trod_array3 Tryd.underlying30 cells_arr3i hf
  obtain ⟨x, e0, rfl, w0⟩ := DataW.trod_int Tryd.underlying3 hy0
  obtain ⟨y, e1, rfl, w1⟩ := DataW.trod_int Tryd.underlying3 hy1
  obtain ⟨z, e2, rfl, w2⟩ := DataW.trod_int Tryd.underlying3 hy2
  simp at e0 e1 e2
  subst e0 e1 e2
  simp only [Prod.mk.injEq, List.append_nil] at hx
  obtain ⟨rfl, rfl⟩ := hx
  refine ⟨x, y, z, rfl, rfl, rfl, fun W' sp => ⟨2, ?_⟩⟩
  have r3 : List.range 3 = [0, 1, 2] := rfl
  simp [Value.cells, DataW.trod, Tryd.underlying30, Tryd.underlying3, cells_arr3, cells_arr3i, r3, w0, w1, w2]
end Go.Proofs.YtpoolbeaipbjmaaDoor
