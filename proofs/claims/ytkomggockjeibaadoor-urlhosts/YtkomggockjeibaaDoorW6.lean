/- The walk over moatlaw1.awake: it answers true. -/
import Derived.Test.YtkomggockjeibaaDoorW5
namespace Go.Proofs.YtkomggockjeibaaDoor
open Go.RowKit Go.Proofs.Url

def aEx : List UInt8 := [97, 46, 101, 120, 97, 109, 112, 108, 101]
def aEx2 : List UInt8 := [65, 46, 101, 120, 97, 109, 112, 108, 101]
theorem rd1 : readS (https ++ slashes ++ aEx) = some (https, aEx, 443) := by decide +kernel
theorem rd2 : readS (https ++ slashes ++ aEx2) = none := by decide +kernel
theorem tx1 : textS https aEx 443 = https ++ slashes ++ aEx := by decide +kernel
theorem hs1 : host [97] = true := by decide +kernel
theorem pt1 : path [47, 97] = true := by decide +kernel
theorem pt2 : path [97] = false := by decide +kernel

theorem read1 (w : World) (henv : Env w) :
    Calls Tryd.prog 9 #[.string ⟨#[104, 116, 116, 112, 115, 58, 47, 47, 97, 46, 101, 120, 97, 109, 112, 108, 101]⟩] w
      fun e w' => e = .returned (.tuple #[.agg #[.string ⟨#[]⟩, .string ⟨#[104, 116, 116, 112, 115]⟩, .string ⟨#[97, 46, 101, 120, 97, 109, 112, 108, 101]⟩, .int .i64 443], .bool true]) ∧ Below w.heap.size w w' := by
  refine (read_any ⟨(https ++ slashes ++ aEx).toArray⟩ w henv (by decide)).mono ?_
  rintro e w' ⟨rfl, hb⟩
  refine ⟨?_, hb⟩
  show Ending.returned (.tuple #[originV (readS (https ++ slashes ++ aEx)), .bool (readS (https ++ slashes ++ aEx)).isSome]) = _
  rw [rd1]; rfl
theorem read2 (w : World) (henv : Env w) :
    Calls Tryd.prog 9 #[.string ⟨#[104, 116, 116, 112, 115, 58, 47, 47, 65, 46, 101, 120, 97, 109, 112, 108, 101]⟩] w
      fun e w' => e = .returned (.tuple #[.agg #[.string ⟨#[]⟩, .string ⟨#[]⟩, .string ⟨#[]⟩, .int .i64 0], .bool false]) ∧ Below w.heap.size w w' := by
  refine (read_any ⟨(https ++ slashes ++ aEx2).toArray⟩ w henv (by decide)).mono ?_
  rintro e w' ⟨rfl, hb⟩
  refine ⟨?_, hb⟩
  show Ending.returned (.tuple #[originV (readS (https ++ slashes ++ aEx2)), .bool (readS (https ++ slashes ++ aEx2)).isSome]) = _
  rw [rd2]; rfl
theorem text1 (w : World) (henv : Env w) :
    Calls Tryd.prog 17 #[.agg #[.string ⟨#[]⟩, .string ⟨#[104, 116, 116, 112, 115]⟩, .string ⟨#[97, 46, 101, 120, 97, 109, 112, 108, 101]⟩, .int .i64 443]] w
      fun e w' => e = .returned (.string ⟨#[104, 116, 116, 112, 115, 58, 47, 47, 97, 46, 101, 120, 97, 109, 112, 108, 101]⟩) ∧ Below w.heap.size w w' := by
  refine (text_any [] https aEx 443 w henv (by decide) (by decide)).mono ?_
  rintro e w' ⟨rfl, hb⟩
  refine ⟨?_, hb⟩
  rw [tx1]; rfl
theorem host1 (w : World) (henv : Env w) : Calls Tryd.prog 13 #[.string ⟨#[97]⟩] w fun e w' => e = .returned (.bool true) ∧ Below w.heap.size w w' := by
  refine (hostL_any [97] w henv (by decide)).mono ?_
  rintro e w' ⟨rfl, hb⟩
  exact ⟨by rw [hs1], hb⟩
theorem path1 (w : World) : Calls Tryd.prog 15 #[.string ⟨#[47, 97]⟩] w fun e w' => e = .returned (.bool true) ∧ w' = w := by
  refine (path_any ⟨[47, 97].toArray⟩ w (by decide)).mono ?_
  rintro e w' ⟨rfl, hb⟩
  exact ⟨ret_bool pt1, hb⟩
theorem path2 (w : World) : Calls Tryd.prog 15 #[.string ⟨#[97]⟩] w fun e w' => e = .returned (.bool false) ∧ w' = w := by
  refine (path_any ⟨[97].toArray⟩ w (by decide)).mono ?_
  rintro e w' ⟨rfl, hb⟩
  exact ⟨ret_bool pt2, hb⟩
theorem same1 (w : World) : Calls Tryd.prog 19 #[.agg #[.string ⟨#[]⟩, .string ⟨#[104, 116, 116, 112, 115]⟩, .string ⟨#[97, 46, 101, 120, 97, 109, 112, 108, 101]⟩, .int .i64 443], .agg #[.string ⟨#[]⟩, .string ⟨#[104, 116, 116, 112, 115]⟩, .string ⟨#[97, 46, 101, 120, 97, 109, 112, 108, 101]⟩, .int .i64 443]] w
    fun e w' => e = .returned (.bool true) ∧ Below w.heap.size w w' := by
  refine (same_any _ _ _ _ _ _ _ _ w).mono ?_
  rintro e w' ⟨rfl, hb⟩
  exact ⟨ret_bool (by simp), hb⟩

set_option maxHeartbeats 1000000 in
theorem awake_any (w : World) (henv : Env w) :
    Calls Tryd.prog 8 #[] w fun e w' => e = .returned (.bool true) ∧ Below w.heap.size w w' := by
  go_enter Tryd.func8, Tryd.ntmps8
  go_wp2_with fail
  refine (read1 _ henv).mono ?_
  rintro e w1 ⟨rfl, hb1⟩
  have e1 := henv.keep hb1
  have E1 := hide e1
  clear e1
  go_wp2_with fail
  refine (read2 _ (E1.out.alloc _)).mono ?_
  rintro e w2 ⟨rfl, hb2⟩
  obtain ⟨hc2, hf2⟩ := bcell hb2
  have hz2 : w1.heap.size < w2.heap.size := by have := hb2.size; simp at this; omega
  have hz2' : w1.heap.size < w2.heap.size + 1 := by omega
  have E2 := hide ((E1.out.alloc (.cells #[.string ⟨#[]⟩, .string ⟨#[104, 116, 116, 112, 115]⟩, .string ⟨#[97, 46, 101, 120, 97, 109, 112, 108, 101]⟩, .int .i64 443] 24)).keep hb2)
  have B2 : Hid (Below w.heap.size w w2) := (hb1.trans ((Below.alloc (Below.refl _ _) (Nat.le_refl _) _).mono hb1.size)).trans (hb2.mono (by have := hb1.size; simp; omega))
  clear hb1 hb2
  go_wp2_with fail
  refine (text1 _ (E2.out.alloc _)).mono ?_
  rintro e w3 ⟨rfl, hb3⟩
  obtain ⟨hc3, hf3⟩ := bcell hb3
  have hz3 : w1.heap.size < w3.heap.size := by have := hb3.size; simp at this; omega
  have E3 := hide ((E2.out.alloc (.cells #[.string ⟨#[]⟩, .string ⟨#[]⟩, .string ⟨#[]⟩, .int .i64 0] 24)).keep hb3)
  have s2 : w.heap.size ≤ w2.heap.size := B2.out.size
  have B3 : Hid (Below w.heap.size w w3) := (B2.out.trans ((Below.alloc (Below.refl _ _) (Nat.le_refl _) _).mono s2)).trans (hb3.mono (by simp; omega))
  clear hb3
  go_wp2_with fail
  refine (host1 _ E3.out).mono ?_
  rintro e w4 ⟨rfl, hb4⟩
  obtain ⟨hc4, hf4⟩ := bcell hb4
  have hz4 : w1.heap.size < w4.heap.size := by have := hb4.size; omega
  have B4 : Hid (Below w.heap.size w w4) := B3.out.trans (hb4.mono B3.out.size)
  clear hb4
  go_wp2_with fail
  refine (path1 _).mono ?_
  rintro e w5 ⟨rfl, rfl⟩
  go_wp2_with fail
  refine (path2 _).mono ?_
  rintro e w6 ⟨rfl, rfl⟩
  go_wp2_with fail
  refine (same1 _).mono ?_
  rintro e w7 ⟨rfl, hb7⟩
  have B7 : Hid (Below w.heap.size w w7) := B4.out.trans (hb7.mono B4.out.size)
  clear hb7
  go_wp2_with fail
  go_ret
  exact ⟨rfl, B7.out⟩
end Go.Proofs.YtkomggockjeibaaDoor
