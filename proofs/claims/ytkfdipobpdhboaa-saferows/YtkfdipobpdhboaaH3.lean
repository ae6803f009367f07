/- The walk over moatlaw4.awake: it answers true. -/
import Derived.Test.YtkfdipobpdhboaaH2
namespace Go.Proofs.Ytkfdipobpdhboaa
open Go.RowKit Go.Proofs.Url

theorem methodB_any (l : List UInt8) (w : World) :
    Calls Try.prog 10 #[.string ⟨l.toArray⟩] w fun e w' => e = .returned (.bool (methodS l)) ∧ Below w.heap.size w w' := by
  refine (method_any l w).mono ?_
  rintro e w' ⟨rfl, rfl⟩
  exact ⟨rfl, Below.refl _ _⟩
theorem knownB_any (l : List UInt8) (w : World) :
    Calls Try.prog 12 #[.string ⟨l.toArray⟩] w fun e w' => e = .returned (.bool (knownS l)) ∧ Below w.heap.size w w' := by
  refine (known_any l w).mono ?_
  rintro e w' ⟨rfl, rfl⟩
  exact ⟨rfl, Below.refl _ _⟩
theorem aq1 : methodS [71, 69, 84] = true := by decide +kernel
theorem aq2 : methodS [80, 85, 84] = false := by decide +kernel
theorem aq3 : knownS [80, 85, 84] = true := by decide +kernel
theorem aq4 : headS [65, 99, 99, 101, 112, 116] = true := by decide +kernel
theorem aq5 : simpleS [80, 79, 83, 84] [[114, 97, 110, 103, 101]] = true := by decide +kernel
theorem aq6 : simpleS [80, 79, 83, 84] [[120, 45, 97]] = false := by decide +kernel

set_option maxHeartbeats 1000000 in
theorem awake4_any (w : World) :
    Calls Try.prog 7 #[] w fun e w' => e = .returned (.bool true) ∧ Below w.heap.size w w' := by
  go_enter Try.func7, Try.ntmps7
  go_wp2_with fail
  refine (methodB_any [71, 69, 84] _).mono ?_
  rintro e w1 ⟨rfl, hb1⟩
  rw [aq1]
  have B1 := hide hb1
  clear hb1
  go_wp2_with fail
  refine (methodB_any [80, 85, 84] _).mono ?_
  rintro e w2 ⟨rfl, hb2⟩
  rw [aq2]
  have B2 := hide (B1.out.trans (hb2.mono B1.out.size))
  clear hb2
  go_wp2_with fail
  refine (knownB_any [80, 85, 84] _).mono ?_
  rintro e w3 ⟨rfl, hb3⟩
  rw [aq3]
  have B3 := hide (B2.out.trans (hb3.mono B2.out.size))
  clear hb3
  go_wp2_with fail
  refine (head_any [65, 99, 99, 101, 112, 116] _ (by decide)).mono ?_
  rintro e w4 ⟨rfl, hb4⟩
  rw [aq4]
  have B4 := hide (B3.out.trans (hb4.mono B3.out.size))
  clear hb4
  go_wp2_with fail
  refine (simple_any [80, 79, 83, 84] _ [[114, 97, 110, 103, 101]] _ _ (heads_new w4 [[114, 97, 110, 103, 101]] 9) (by decide) (by decide)).mono ?_
  rintro e w5 ⟨rfl, hb5⟩
  rw [aq5]
  have B5 := hide ((B4.out.alloc B4.out.size _).trans (hb5.mono (by have := B4.out.size; simp; omega)))
  clear hb5
  go_wp2_with fail
  refine (simple_any [80, 79, 83, 84] _ [[120, 45, 97]] _ _ (heads_new w5 [[120, 45, 97]] 9) (by decide) (by decide)).mono ?_
  rintro e w6 ⟨rfl, hb6⟩
  rw [aq6]
  have B6 := hide ((B5.out.alloc B5.out.size _).trans (hb6.mono (by have := B5.out.size; simp; omega)))
  clear hb6
  go_wp2_with fail
  go_ret
  exact ⟨rfl, B6.out⟩
end Go.Proofs.Ytkfdipobpdhboaa
