/- A parameter of the type api.Cookie: how it is opened. -/
import Derived.Test.YtfbalmamhcbojaaDoorFrame
import Derived.Test.YtfbalmamhcbojaaDoorY7
import Derived.Lib.SmallJoins
namespace Go.Proofs.YtfbalmamhcbojaaDoor
open Go.ChangeShapes Go.WideShapes Go.ChangeAt Go.RowKit Go.Proofs.Url Go.Joins

theorem cells_cookie : Tryd.prog.cellsOf 23 = 7 := by kernel_rfl
theorem array7 {α : Type} {cs : Array α} (h : cs.size = 7) : ∃ c0 c1 c2 c3 c4 c5 c6, cs = #[c0, c1, c2, c3, c4, c5, c6] := by
  obtain ⟨l⟩ := cs
  match l, h with
  | [c0, c1, c2, c3, c4, c5, c6], _ => exact ⟨c0, c1, c2, c3, c4, c5, c6, rfl⟩
theorem list7 {α : Type} {l : List α} (h : l.length = 7) : ∃ c0 c1 c2 c3 c4 c5 c6, l = [c0, c1, c2, c3, c4, c5, c6] := by
  match l, h with
  | [c0, c1, c2, c3, c4, c5, c6], _ => exact ⟨c0, c1, c2, c3, c4, c5, c6, rfl⟩
theorem cells_one_ck : Tryd.prog.cellsOf 3 = 1 ∧ Tryd.prog.cellsOf 9 = 1 ∧ Tryd.prog.cellsOf 4 = 1 := ⟨by kernel_rfl, by kernel_rfl, by kernel_rfl⟩
set_option maxHeartbeats 1000000 in
theorem open_cookie {H : Type} {enc : TypeId × Value → H} {W : World} {base : Nat} {v : Value} {d : DataW H} {p : List MemPlace}
    (hv : Value.okWide Tryd.prog W .any base 23 v) (h : DataW.Trod enc Tryd.prog W 0 (fun _ => true) true 23 v d p) :
    ∃ (nm : ByteArray) (o : Int) (dom way : List UInt8) (sec htt : Bool) (same : Int), v = ckIn nm o dom way sec htt same ∧
      d = .agg [.lit (.string nm.data.toList), .lit (.int .i64 o), .lit (.string dom), .lit (.string way), .lit (.bool sec), .lit (.bool htt), .lit (.int .i64 same)] := by
  obtain ⟨k1, k2, k3⟩ := cells_one_ck
  obtain ⟨cs, rfl, hsz⟩ := okWide_struct Tryd.underlying23 hv
  obtain ⟨c0, c1, c2, c3, c4, c5, c6, rfl⟩ := array7 (hsz.trans cells_cookie)
  obtain ⟨n, hf⟩ := h
  have hf' : DataW.trod enc Tryd.prog W 0 (fun _ => true) true n 23 [c0, c1, c2, c3, c4, c5, c6] = some (d, p) := by simpa [Value.cells] using hf
  clear hf
  obtain ⟨xs, m, _, hx, _, hlen, hg⟩ := DataW.trod_struct Tryd.underlying23 hf'
  obtain ⟨x0, x1, x2, x3, x4, x5, x6, rfl⟩ := list7 (by simpa using hlen)
  have h0 := hg 0 _ rfl
  have h1 := hg 1 _ rfl
  have h2 := hg 2 _ rfl
  have h3 := hg 3 _ rfl
  have h4 := hg 4 _ rfl
  have h5 := hg 5 _ rfl
  have h6 := hg 6 _ rfl
  simp [k2] at h0
  simp [k1] at h1
  simp [k2] at h2
  simp [k2] at h3
  simp [k3] at h4
  simp [k3] at h5
  simp [k1] at h6
  obtain ⟨nm, e0, rfl, -⟩ := DataW.trod_string Tryd.underlying9 h0
  obtain ⟨o, e1, rfl, -⟩ := DataW.trod_int Tryd.underlying3 h1
  obtain ⟨dom, e2, rfl, -⟩ := DataW.trod_string Tryd.underlying9 h2
  obtain ⟨way, e3, rfl, -⟩ := DataW.trod_string Tryd.underlying9 h3
  obtain ⟨sec, e4, rfl⟩ := DataW.trod_bool Tryd.underlying4 h4
  obtain ⟨htt, e5, rfl⟩ := DataW.trod_bool Tryd.underlying4 h5
  obtain ⟨same, e6, rfl, -⟩ := DataW.trod_int Tryd.underlying3 h6
  simp at e0 e1 e2 e3 e4 e5 e6 hx
  subst e0 e1 e2 e3 e4 e5 e6
  refine ⟨nm, o, dom.data.toList, way.data.toList, sec, htt, same, ?_, hx.1⟩
  unfold ckIn
  simp only [mk_data]
/-- The reach of two texts and a cookie. -/
theorem reach_cookie {H : Type} {a b n dom way : List UInt8} {o same : Int} {sec htt : Bool}
    (h : (DataW.weightsEach (H := H) Tryd.prog [9, 9, 23] [.lit (.string a), .lit (.string b), .agg [.lit (.string n), .lit (.int .i64 o), .lit (.string dom), .lit (.string way), .lit (.bool sec), .lit (.bool htt), .lit (.int .i64 same)]]).all (· ≤ reachBytes) = true) :
    a.length ≤ reachBytes ∧ b.length ≤ reachBytes ∧ dom.length ≤ reachBytes ∧ way.length ≤ reachBytes := by
  simp [DataW.weightsEach, DataW.weights, Tryd.underlying23] at h
  omega
end Go.Proofs.YtfbalmamhcbojaaDoor
