/- A parameter of the type api.Endpoint: how it is opened. -/
import Derived.Test.YthljekiomfcjiaaFrame
import Derived.Test.YthljekiomfcjiaaStrs
import Derived.Test.YthljekiomfcjiaaE1
import Derived.Lib.SmallJoins
namespace Go.Proofs.Ythljekiomfcjiaa
open Go.ChangeShapes Go.WideShapes Go.ChangeAt Go.RowKit Go.Proofs.Url Go.Joins

theorem cells_endpoint : Try.prog.cellsOf 25 = 21 := by kernel_rfl
theorem array21 {α : Type} {cs : Array α} (h : cs.size = 21) : ∃ c0 c1 c2 c3 c4 c5 c6 c7 c8 c9 c10 c11 c12 c13 c14 c15 c16 c17 c18 c19 c20, cs = #[c0, c1, c2, c3, c4, c5, c6, c7, c8, c9, c10, c11, c12, c13, c14, c15, c16, c17, c18, c19, c20] := by
  obtain ⟨l⟩ := cs
  match l, h with
  | [c0, c1, c2, c3, c4, c5, c6, c7, c8, c9, c10, c11, c12, c13, c14, c15, c16, c17, c18, c19, c20], _ => exact ⟨c0, c1, c2, c3, c4, c5, c6, c7, c8, c9, c10, c11, c12, c13, c14, c15, c16, c17, c18, c19, c20, rfl⟩
/-- One field of it, by its place. -/
theorem ep_field {H : Type} {enc : TypeId × Value → H} {W : World} {cs : List Value} {n : Nat} {fs : Array Field} {d : DataW H} {p : List MemPlace} (hu : Try.prog.underlying 25 = some (.struct fs))
    (h : DataW.trod enc Try.prog W 0 (fun _ => true) true n 25 cs = some (d, p)) (k : Nat) (f : Field) (hf : fs[k]? = some f) :
    ∃ m y, DataW.trod enc Try.prog W 0 (fun _ => true) true m f.type ((cs.drop f.offset).take (Try.prog.cellsOf f.type)) = some y := by
  obtain ⟨xs, m, _, _, hl, hlen, hx⟩ := DataW.trod_struct hu h
  have hk : k < xs.length := by
    have := (Array.getElem?_eq_some_iff.1 hf).1
    omega
  exact ⟨m, xs[k], by have := hx k f hf; rw [this]; simp [hk]⟩
theorem nums_of {H : Type} {enc : TypeId × Value → H} {W : World} {n : Nat} {v : Value} {y : DataW H × List MemPlace}
    (h : DataW.trod enc Try.prog W 0 (fun _ => true) true n 22 [v] = some y) : ∃ a cap, ∃ cs : List Int, v = .slice a cs.length cap ∧ NumsAt W a cs ∧ cs.length ≤ maxLen := by
  rcases open_ints Try.underlying22 Try.underlying3 (by kernel_rfl) h with ⟨hcs, _⟩ | ⟨x, l, c, zs, hcs, _, hl, hm, hz, _, hcell, _⟩
  · simp at hcs
    exact ⟨none, 0, [], by rw [hcs]; rfl, fun k hk => by simp at hk, by simp⟩
  · simp at hcs
    have hz' : zs.length = c := by simpa using hz
    have hlen : (zs.take l).length = l := by rw [List.length_take]; omega
    refine ⟨some x, c, zs.take l, by rw [hcs, hlen], fun k hk => ?_, by omega⟩
    rw [hlen] at hk
    have hc := hcell k (by omega)
    obtain ⟨b, off, spot⟩ := x
    have hspot : spot = none := by simpa [Addr.add] using World.cell?_spot (hcell 0 (by omega))
    subst hspot
    have hplain : (⟨b, off, none⟩ : Addr).add k = ⟨b, off + k, none⟩ := by unfold Addr.add; split <;> simp_all
    refine ⟨b, off, rfl, ?_⟩
    rw [← hplain, hc]
    have hkz : k < zs.length := by omega
    simp [hkz]
theorem texts_of {H : Type} {enc : TypeId × Value → H} {W : World} {n : Nat} {v : Value} {y : DataW H × List MemPlace}
    (h : DataW.trod enc Try.prog W 0 (fun _ => true) true n 23 [v] = some y) : ∃ a cap, ∃ hs : List (List UInt8), v = .slice a hs.length cap ∧ HeadsAt W a hs ∧ hs.length ≤ maxLen := by
  obtain ⟨a, l, c, hv⟩ := slice_form Try.underlying23 h
  simp at hv
  subst hv
  obtain ⟨d, p⟩ := y
  obtain ⟨hs, rfl, h1, h2⟩ := strs_of (a := a) (len := l) (cap := c) (d := d) (p := p) ⟨n, by simpa [Value.cells] using h⟩
  exact ⟨a, c, hs, rfl, h1, h2⟩
theorem cells_one_ep : Try.prog.cellsOf 3 = 1 ∧ Try.prog.cellsOf 9 = 1 ∧ Try.prog.cellsOf 4 = 1 ∧ Try.prog.cellsOf 22 = 1 ∧ Try.prog.cellsOf 23 = 1 := ⟨by kernel_rfl, by kernel_rfl, by kernel_rfl, by kernel_rfl, by kernel_rfl⟩
set_option maxHeartbeats 1000000 in
theorem open_endpoint {H : Type} {enc : TypeId × Value → H} {W : World} {base : Nat} {v : Value} {d : DataW H} {p : List MemPlace}
    (hv : Value.okWide Try.prog W .any base 25 v) (h : DataW.Trod enc Try.prog W 0 (fun _ => true) true 25 v d p) :
    ∃ e : Ep, v = e.v ∧ EpAt W e ∧ e.hs.length ≤ maxLen ∧ e.al.length ≤ maxLen ∧ e.ms.length ≤ maxLen ∧ e.cs.length ≤ maxLen := by
  obtain ⟨k1, k2, k3, k4, k5⟩ := cells_one_ep
  obtain ⟨cs, rfl, hsz⟩ := okWide_struct Try.underlying25 hv
  obtain ⟨c0, c1, c2, c3, c4, c5, c6, c7, c8, c9, c10, c11, c12, c13, c14, c15, c16, c17, c18, c19, c20, rfl⟩ := array21 (hsz.trans cells_endpoint)
  obtain ⟨n, hf⟩ := h
  have hf' : DataW.trod enc Try.prog W 0 (fun _ => true) true n 25 [c0, c1, c2, c3, c4, c5, c6, c7, c8, c9, c10, c11, c12, c13, c14, c15, c16, c17, c18, c19, c20] = some (d, p) := by simpa [Value.cells] using hf
  clear hf
  obtain ⟨m1, y1, h1⟩ := ep_field Try.underlying25 hf' 1 _ rfl
  obtain ⟨m2, y2, h2⟩ := ep_field Try.underlying25 hf' 2 _ rfl
  obtain ⟨m8, y8, h8⟩ := ep_field Try.underlying25 hf' 8 _ rfl
  obtain ⟨m15, y15, h15⟩ := ep_field Try.underlying25 hf' 15 _ rfl
  obtain ⟨m16, y16, h16⟩ := ep_field Try.underlying25 hf' 16 _ rfl
  obtain ⟨m17, y17, h17⟩ := ep_field Try.underlying25 hf' 17 _ rfl
  obtain ⟨m18, y18, h18⟩ := ep_field Try.underlying25 hf' 18 _ rfl
  obtain ⟨m19, y19, h19⟩ := ep_field Try.underlying25 hf' 19 _ rfl
  simp [k1] at h1
  simp [k2] at h2
  simp [k5] at h8
  simp [k3] at h15
  simp [k3] at h16
  simp [k4] at h17
  simp [k5] at h18
  simp [k5] at h19
  obtain ⟨o, e1, -, -⟩ := DataW.trod_int Try.underlying3 h1
  obtain ⟨m, e2, -, -⟩ := DataW.trod_string Try.underlying9 h2
  obtain ⟨ho, hc, hs, e8, q8, l8⟩ := texts_of h8
  obtain ⟨an, e15, -⟩ := DataW.trod_bool Try.underlying4 h15
  obtain ⟨cr, e16, -⟩ := DataW.trod_bool Try.underlying4 h16
  obtain ⟨co, cc, ns, e17, q17, l17⟩ := nums_of h17
  obtain ⟨lo, lc, al, e18, q18, l18⟩ := texts_of h18
  obtain ⟨mo, mc, ms, e19, q19, l19⟩ := texts_of h19
  simp at e1 e2 e15 e16
  subst e1 e2 e8 e15 e16 e17 e18 e19
  refine ⟨⟨c0, c3, c4, c5, c6, c7, c9, c10, c11, c12, c13, c14, c20, o, m.data.toList, hs, al, ms, an, cr, ns, ho, co, lo, mo, hc, cc, lc, mc⟩, ?_, ⟨q8, q18, q19, q17⟩, l8, l18, l19, l17⟩
  simp only [Ep.v, mk_data]
end Go.Proofs.Ythljekiomfcjiaa
