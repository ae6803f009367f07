/- The walk over moatlaw8.awake: it answers true. -/
import Derived.Test.YtlmchmhdojkokaaDoorT4
namespace Go.Proofs.YtlmchmhdojkokaaDoor
open Go.RowKit Go.Proofs.Url

def atest : List UInt8 := [97, 46, 116, 101, 115, 116]
theorem aj1 : fitsJ [] [47] false atest http atest [47, 120] = true := by decide +kernel
theorem ae1 (w : World) (henv : Env w) : Calls Tryd.prog 10 #[.agg #[.string ⟨#[]⟩, .int .i64 0, .string ⟨#[]⟩, .string ⟨#[47]⟩, .bool false, .bool true, .int .i64 3], .string ⟨#[97, 46, 116, 101, 115, 116]⟩, .agg #[.string ⟨#[]⟩, .string ⟨#[104, 116, 116, 112]⟩, .string ⟨#[97, 46, 116, 101, 115, 116]⟩, .int .i64 0], .string ⟨#[47, 120]⟩] w
    fun e w' => e = .returned (.bool true) ∧ Below w.heap.size w w' := by
  have h := fits_any ⟨#[]⟩ 0 [] [47] false true 3 atest ⟨#[]⟩ http atest 0 [47, 120] w henv (by decide) (by decide) (by decide)
  rw [aj1] at h; exact h
theorem ae2 (w : World) (henv : Env w) : Calls Tryd.prog 11 #[.agg #[.string ⟨#[]⟩, .int .i64 0, .string ⟨#[]⟩, .string ⟨#[47]⟩, .bool false, .bool true, .int .i64 3], .string ⟨#[97, 46, 116, 101, 115, 116]⟩, .agg #[.string ⟨#[]⟩, .string ⟨#[104, 116, 116, 112]⟩, .string ⟨#[97, 46, 116, 101, 115, 116]⟩, .int .i64 0], .string ⟨#[47, 120]⟩] w
    fun e w' => e = .returned (.bool false) ∧ Below w.heap.size w w' :=
  visible_any ⟨#[]⟩ 0 [] [47] false true 3 atest ⟨#[]⟩ http atest 0 [47, 120] w henv (by decide) (by decide) (by decide)
theorem ae3 (w : World) : Calls Tryd.prog 12 #[.agg #[.string ⟨#[]⟩, .int .i64 0, .string ⟨#[]⟩, .string ⟨#[47]⟩, .bool false, .bool true, .int .i64 3], .bool false, .bool true, .string ⟨#[71, 69, 84]⟩] w
    fun e w' => e = .returned (.bool false) ∧ Below w.heap.size w w' := goes_any ⟨#[]⟩ 0 [] [47] false true 3 false true [71, 69, 84] w
theorem ae4 (w : World) : Calls Tryd.prog 12 #[.agg #[.string ⟨#[]⟩, .int .i64 0, .string ⟨#[]⟩, .string ⟨#[47]⟩, .bool false, .bool true, .int .i64 3], .bool true, .bool false, .string ⟨#[80, 85, 84]⟩] w
    fun e w' => e = .returned (.bool true) ∧ Below w.heap.size w w' := goes_any ⟨#[]⟩ 0 [] [47] false true 3 true false [80, 85, 84] w
theorem ae5 (w : World) (henv : Env w) : Calls Tryd.prog 14 #[.int .i64 (-2), .int .i64 0, .slice none 0 0] w
    fun e w' => e = .returned (.bool true) ∧ Below w.heap.size w w' := near_any (-2) 0 none [] 0 w henv (fun k h => absurd h (by simp)) (fun x hx => by simp at hx)
theorem ae6 (w : World) (ao : Option Addr) (cap : Nat) : Calls Tryd.prog 14 #[.int .i64 (-1), .int .i64 0, .slice ao 1 cap] w
    fun e w' => e = .returned (.bool false) ∧ Below w.heap.size w w' := near_no (-1) 0 ao 1 cap w (by decide) (by decide)
def awC : List Value := [.string ⟨#[]⟩, .int .i64 0, .string ⟨#[]⟩, .string ⟨#[47]⟩, .bool false, .bool true, .int .i64 3]
def awO : List Value := [.string ⟨#[]⟩, .string ⟨#[104, 116, 116, 112]⟩, .string ⟨#[97, 46, 116, 101, 115, 116]⟩, .int .i64 0]
theorem cells7_of {W : World} {g : Nat} {a b c d e f k : Value} (h : W.rangeAt g 0 [a, b, c, d, e, f, k]) :
    W.cell? ⟨g, 0, none⟩ = some a ∧ W.cell? ⟨g, 1, none⟩ = some b ∧ W.cell? ⟨g, 2, none⟩ = some c ∧ W.cell? ⟨g, 3, none⟩ = some d ∧ W.cell? ⟨g, 4, none⟩ = some e ∧ W.cell? ⟨g, 5, none⟩ = some f ∧ W.cell? ⟨g, 6, none⟩ = some k :=
  ⟨h 0 a rfl, h 1 b rfl, h 2 c rfl, h 3 d rfl, h 4 e rfl, h 5 f rfl, h 6 k rfl⟩
theorem cells4_of {W : World} {g : Nat} {a b c d : Value} (h : W.rangeAt g 0 [a, b, c, d]) :
    W.cell? ⟨g, 0, none⟩ = some a ∧ W.cell? ⟨g, 1, none⟩ = some b ∧ W.cell? ⟨g, 2, none⟩ = some c ∧ W.cell? ⟨g, 3, none⟩ = some d :=
  ⟨h 0 a rfl, h 1 b rfl, h 2 c rfl, h 3 d rfl⟩

/-- The two rows that it lays, and all that was there before. -/
structure AwIn (w W : World) : Prop where
  rc : W.rangeAt w.heap.size 0 awC
  ro : W.rangeAt (w.heap.size + 1) 0 awO
  bl : Below w.heap.size w W
  hi : w.heap.size + 1 < W.heap.size
theorem AwIn.keep {w W W' : World} (h : AwIn w W) (hb : Below W.heap.size W W') : AwIn w W' :=
  ⟨row_keep h.rc hb (by have := h.hi; omega), row_keep h.ro hb h.hi, h.bl.trans (hb.mono (by have := h.hi; omega)), Nat.lt_of_lt_of_le h.hi hb.size⟩
theorem AwIn.new (w : World) (s t : TypeId) : AwIn w ((w.alloc (Obj.cells awC.toArray s)).alloc (Obj.cells awO.toArray t)) := by
  have e : (w.alloc (Obj.cells awC.toArray s)).heap.size = w.heap.size + 1 := by simp
  have b : Below (w.heap.size + 1) (w.alloc (Obj.cells awC.toArray s)) ((w.alloc (Obj.cells awC.toArray s)).alloc (Obj.cells awO.toArray t)) := (Below.refl _ _).alloc (by rw [e]; exact Nat.le_refl _) _
  have r := row_new (w.alloc (Obj.cells awC.toArray s)) awO t
  rw [e] at r
  exact ⟨row_keep (row_new w awC s) b (Nat.lt_succ_self _), r, two_new w _ _, by simp⟩

set_option maxHeartbeats 2000000 in
theorem awake8_any (w : World) (henv : Env w) :
    Calls Tryd.prog 8 #[] w fun e w' => e = .returned (.bool true) ∧ Below w.heap.size w w' := by
  have HE := hide henv
  clear henv
  go_enter Tryd.func8, Tryd.ntmps8
  go_wp2_with fail
  have A0 := hide (AwIn.new w 23 25)
  refine (ae1 _ (HE.out.keep A0.out.bl)).mono ?_
  rintro e w1 ⟨rfl, hb1⟩
  have A1 : Hid (AwIn w w1) := A0.out.keep hb1
  clear hb1 A0
  have hi := A1.out.hi
  obtain ⟨c0, c1, c2, c3, c4, c5, c6⟩ := cells7_of A1.out.rc
  obtain ⟨o0, o1, o2, o3⟩ := cells4_of A1.out.ro
  go_wp2_with fail
  refine (ae2 _ (HE.out.keep A1.out.bl)).mono ?_
  rintro e w2 ⟨rfl, hb2⟩
  have A2 : Hid (AwIn w w2) := A1.out.keep hb2
  clear hb2 A1 hi c0 c1 c2 c3 c4 c5 c6 o0 o1 o2 o3
  have hi := A2.out.hi
  obtain ⟨c0, c1, c2, c3, c4, c5, c6⟩ := cells7_of A2.out.rc
  go_wp2_with fail
  refine (ae3 _).mono ?_
  rintro e w3 ⟨rfl, hb3⟩
  have A3 : Hid (AwIn w w3) := A2.out.keep hb3
  clear hb3 A2 hi c0 c1 c2 c3 c4 c5 c6
  have hi := A3.out.hi
  obtain ⟨c0, c1, c2, c3, c4, c5, c6⟩ := cells7_of A3.out.rc
  go_wp2_with fail
  refine (ae4 _).mono ?_
  rintro e w4 ⟨rfl, hb4⟩
  have A4 : Hid (AwIn w w4) := A3.out.keep hb4
  clear hb4 A3 hi c0 c1 c2 c3 c4 c5 c6
  go_wp2_with fail
  refine (ae5 _ (HE.out.keep A4.out.bl)).mono ?_
  rintro e w5 ⟨rfl, hb5⟩
  have A5 : Hid (AwIn w w5) := A4.out.keep hb5
  clear hb5 A4
  have hi := A5.out.hi
  obtain ⟨o0, o1, o2, o3⟩ := cells4_of A5.out.ro
  go_wp2_with fail
  have B5 := hide (A5.out.bl.alloc A5.out.bl.size (Obj.cells awO.toArray 25))
  refine (ae6 _ _ _).mono ?_
  rintro e w6 ⟨rfl, hb6⟩
  have B6 : Hid (Below w.heap.size w w6) := B5.out.trans (hb6.mono B5.out.size)
  clear hb6
  go_wp2_with fail
  go_ret
  exact ⟨rfl, B6.out⟩
end Go.Proofs.YtlmchmhdojkokaaDoor
