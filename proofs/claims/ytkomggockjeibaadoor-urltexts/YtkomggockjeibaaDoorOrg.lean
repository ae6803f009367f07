/- A parameter of the type api.Origin: how it is opened, and shut again. -/
import Derived.Test.YtkomggockjeibaaDoorFrame
import Derived.Lib.SmallJoins
namespace Go.Proofs.YtkomggockjeibaaDoor
open Go.ChangeShapes Go.WideShapes Go.ChangeAt Go.RowKit Go.Proofs.Url Go.Joins

theorem cells_origin : Tryd.prog.cellsOf 24 = 4 := by kernel_rfl
theorem open_origin {H : Type} {enc : TypeId × Value → H} {W : World} {base : Nat} {v : Value} {d : DataW H} {p : List MemPlace}
    (hv : Value.okWide Tryd.prog W .any base 24 v) (h : DataW.Trod enc Tryd.prog W 0 (fun _ => true) true 24 v d p) :
    ∃ (nm sc ho : ByteArray) (po : Int), v = .agg #[.string nm, .string sc, .string ho, .int .i64 po] ∧ d = .agg [.lit (.string nm.data.toList), .lit (.string sc.data.toList), .lit (.string ho.data.toList), .lit (.int .i64 po)] ∧ p = [] ∧ (Lit.int .i64 po).wf = true ∧
      ∀ (W' : World) (sp : Nat → Bool), DataW.Trod enc Tryd.prog W' 0 sp true 24 v d [] := by
  obtain ⟨v0, v1, v2, v3, y0, y1, y2, y3, m, rfl, rfl, rfl, h0, h1, h2, h3⟩ := open_agg4 Tryd.underlying24 (by kernel_rfl) cells_origin hv h
  obtain ⟨nm, e0, rfl, s0⟩ := DataW.trod_string Tryd.underlying9 h0
  obtain ⟨sc, e1, rfl, s1⟩ := DataW.trod_string Tryd.underlying9 h1
  obtain ⟨ho, e2, rfl, s2⟩ := DataW.trod_string Tryd.underlying9 h2
  obtain ⟨po, e3, rfl, w3⟩ := DataW.trod_int Tryd.underlying3 h3
  simp at e0 e1 e2 e3
  subst e0 e1 e2 e3
  refine ⟨nm, sc, ho, po, rfl, rfl, rfl, w3, fun W' sp => ?_⟩
  exact shut_agg4 (y0 := (.lit (.string nm.data.toList), [])) (y1 := (.lit (.string sc.data.toList), [])) (y2 := (.lit (.string ho.data.toList), [])) (y3 := (.lit (.int .i64 po), [])) Tryd.underlying24 (by kernel_rfl) cells_origin
    ⟨1, by simp [DataW.trod, Tryd.underlying9, s0]⟩ ⟨1, by simp [DataW.trod, Tryd.underlying9, s1]⟩ ⟨1, by simp [DataW.trod, Tryd.underlying9, s2]⟩ ⟨1, by simp [DataW.trod, Tryd.underlying3, w3]⟩
/-- The reach of two origins. -/
theorem reach_origins {H : Type} {a b c a' b' c' : List UInt8} {m n : Int}
    (h : (DataW.weightsEach (H := H) Tryd.prog [24, 24] [.agg [.lit (.string a), .lit (.string b), .lit (.string c), .lit (.int .i64 m)], .agg [.lit (.string a'), .lit (.string b'), .lit (.string c'), .lit (.int .i64 n)]]).all (· ≤ reachBytes) = true) :
    a.length ≤ reachBytes ∧ b.length ≤ reachBytes ∧ c.length ≤ reachBytes ∧ a'.length ≤ reachBytes ∧ b'.length ≤ reachBytes ∧ c'.length ≤ reachBytes := by
  simp [DataW.weightsEach, DataW.weights, Tryd.underlying24] at h
  omega
end Go.Proofs.YtkomggockjeibaaDoor
