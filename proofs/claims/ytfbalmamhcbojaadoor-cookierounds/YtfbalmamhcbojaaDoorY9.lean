/- The walk over moatlaw7.awake: it answers true. -/
import Derived.Test.YtfbalmamhcbojaaDoorY8
import Derived.Test.YtfbalmamhcbojaaDoorY4
namespace Go.Proofs.YtfbalmamhcbojaaDoor
open Go.RowKit Go.Proofs.Url

theorem low_nat (x : Int) (n : Nat) (h : 1 ≤ n) : ∃ k : Nat, low x n = (k : Int) ∧ k < n := by
  have a := low_nn x n (by omega)
  have b := low_lt x n (by omega)
  exact ⟨(low x n).toNat, by omega, by omega⟩
theorem read_some (h s : List UInt8) (w : World) (henv : Env w) (hh : h.length < 4294967281) (hs : s.length < 4294967281) {c : Ck} (he : cookieS h s = some c) :
    Calls Tryd.prog 7 #[.string ⟨h.toArray⟩, .string ⟨s.toArray⟩] w fun e w' => e = .returned (.tuple #[.agg #[.string ⟨#[]⟩, .int .i64 0, .string ⟨c.dom.toArray⟩, .string ⟨c.way.toArray⟩, .bool c.sec, .bool c.htt, .int .i64 c.same], .bool true]) ∧ Below w.heap.size w w' := by
  have := cookieRead_any h s w henv hh hs
  rw [he] at this; exact this
theorem read_none (h s : List UInt8) (w : World) (henv : Env w) (hh : h.length < 4294967281) (hs : s.length < 4294967281) (he : cookieS h s = none) :
    Calls Tryd.prog 7 #[.string ⟨h.toArray⟩, .string ⟨s.toArray⟩] w fun e w' => e = .returned (.tuple #[.agg #[.string ⟨#[]⟩, .int .i64 0, .string ⟨#[]⟩, .string ⟨#[]⟩, .bool false, .bool false, .int .i64 0], .bool false]) ∧ Below w.heap.size w w' := by
  have := cookieRead_any h s w henv hh hs
  rw [he] at this; exact this
/-- A cookie laid into a block of its own. -/
def ckO (c : Ck) : Obj := .cells #[.string ⟨#[]⟩, .int .i64 0, .string ⟨c.dom.toArray⟩, .string ⟨c.way.toArray⟩, .bool c.sec, .bool c.htt, .int .i64 c.same] 23
def ckW : Ck := ⟨[98, 46, 116, 101, 115, 116], [47], true, false, 1⟩
theorem ac1 : cookieS [97, 46, 98, 46, 116, 101, 115, 116] [68, 111, 109, 97, 105, 110, 61, 98, 46, 116, 101, 115, 116, 59, 32, 83, 101, 99, 117, 114, 101, 59, 32, 83, 97, 109, 101, 83, 105, 116, 101, 61, 110, 111, 110, 101] = some ckW := sameCk_eq (by decide +kernel)
theorem ac2 : cookieS [97, 46, 116, 101, 115, 116] [83, 101, 99, 117, 114, 101, 61, 49] = none := by
  have h : (cookieS [97, 46, 116, 101, 115, 116] [83, 101, 99, 117, 114, 101, 61, 49]).isNone = true := by decide +kernel
  simpa using h
theorem ac3 : textC ckW.dom ckW.way true false 1 = [68, 111, 109, 97, 105, 110, 61, 98, 46, 116, 101, 115, 116, 59, 32, 80, 97, 116, 104, 61, 47, 59, 32, 83, 101, 99, 117, 114, 101, 59, 32, 83, 97, 109, 101, 83, 105, 116, 101, 61, 78, 111, 110, 101] := by decide +kernel
theorem ad1 (w : World) (henv : Env w) : Calls Tryd.prog 7 #[.string ⟨#[97, 46, 98, 46, 116, 101, 115, 116]⟩, .string ⟨#[68, 111, 109, 97, 105, 110, 61, 98, 46, 116, 101, 115, 116, 59, 32, 83, 101, 99, 117, 114, 101, 59, 32, 83, 97, 109, 101, 83, 105, 116, 101, 61, 110, 111, 110, 101]⟩] w fun e w' => e = .returned (.tuple #[.agg #[.string ⟨#[]⟩, .int .i64 0, .string ⟨#[98, 46, 116, 101, 115, 116]⟩, .string ⟨#[47]⟩, .bool true, .bool false, .int .i64 1], .bool true]) ∧ Below w.heap.size w w' := by
  have h := cookieRead_any [97, 46, 98, 46, 116, 101, 115, 116] [68, 111, 109, 97, 105, 110, 61, 98, 46, 116, 101, 115, 116, 59, 32, 83, 101, 99, 117, 114, 101, 59, 32, 83, 97, 109, 101, 83, 105, 116, 101, 61, 110, 111, 110, 101] w henv (by decide) (by decide)
  rw [ac1] at h; exact h
theorem ad2 (w : World) (henv : Env w) : Calls Tryd.prog 7 #[.string ⟨#[97, 46, 116, 101, 115, 116]⟩, .string ⟨#[83, 101, 99, 117, 114, 101, 61, 49]⟩] w fun e w' => e = .returned (.tuple #[.agg #[.string ⟨#[]⟩, .int .i64 0, .string ⟨#[]⟩, .string ⟨#[]⟩, .bool false, .bool false, .int .i64 0], .bool false]) ∧ Below w.heap.size w w' := by
  have h := cookieRead_any [97, 46, 116, 101, 115, 116] [83, 101, 99, 117, 114, 101, 61, 49] w henv (by decide) (by decide)
  rw [ac2] at h; exact h
theorem ad3 (w : World) : Calls Tryd.prog 9 #[.agg #[.string ⟨#[]⟩, .int .i64 0, .string ⟨#[98, 46, 116, 101, 115, 116]⟩, .string ⟨#[47]⟩, .bool true, .bool false, .int .i64 1]] w fun e w' => e = .returned (.string ⟨#[68, 111, 109, 97, 105, 110, 61, 98, 46, 116, 101, 115, 116, 59, 32, 80, 97, 116, 104, 61, 47, 59, 32, 83, 101, 99, 117, 114, 101, 59, 32, 83, 97, 109, 101, 83, 105, 116, 101, 61, 78, 111, 110, 101]⟩) ∧ Below w.heap.size w w' := by
  have h := cookieText_any ⟨#[]⟩ ckW.dom ckW.way 0 true false 1 w (by decide)
  rw [ac3] at h; exact h

set_option maxHeartbeats 1000000 in
theorem awake7_any (w : World) (henv : Env w) :
    Calls Tryd.prog 6 #[] w fun e w' => e = .returned (.bool true) ∧ Below w.heap.size w w' := by
  go_enter Tryd.func6, Tryd.ntmps6
  go_wp2_with fail
  refine (ad1 _ henv).mono ?_
  rintro e w1 ⟨rfl, hb1⟩
  have E1 := hide (henv.keep hb1)
  have B1 := hide hb1
  clear hb1
  go_wp2_with fail
  refine (ad2 _ (E1.out.keep ((Below.refl _ _).alloc (Nat.le_refl _) _))).mono ?_
  rintro e w2 ⟨rfl, hb2⟩
  have C2 : Hid (CBox w2 w1.heap.size ckW) := (CBox.newC w1 23 ckW).keep hb2
  have B2 := hide ((B1.out.alloc B1.out.size _).trans (hb2.mono (by have := B1.out.size; simp; omega)))
  have hlt := C2.out.lt
  obtain ⟨c0, c1, c2, c3, c4, c5, c6, _⟩ := C2.out
  unfold ckW at c2 c3 c4 c5 c6
  simp only at c2 c3 c4 c5 c6
  clear hb2
  go_wp2_with fail
  refine (ad3 _).mono ?_
  rintro e w3 ⟨rfl, hb3⟩
  have B3 := hide ((B2.out.alloc B2.out.size _).trans (hb3.mono (by have := B2.out.size; simp; omega)))
  clear hb3
  go_wp2_with fail
  go_ret
  exact ⟨rfl, B3.out⟩
end Go.Proofs.YtfbalmamhcbojaaDoor
