/- Walks over package field: trimmed, Trim. -/
import Derived.Test.YtfbalmamhcbojaaDoorS3
import Derived.Test.YtfbalmamhcbojaaDoorV0
import Derived.Shelf.Strings.SlTrimAscii
namespace Go.Proofs.YtfbalmamhcbojaaDoor
open Go.RowKit Go.Proofs.Url

set_option maxHeartbeats 400000 in
theorem trimmed_any (l : List UInt8) (w : World) (h : l.length < 4294967281) :
    Calls Tryd.prog 29 #[.string ⟨l.toArray⟩] w fun e w' => e = .returned (.string ⟨(trimS l).toArray⟩) ∧ Below w.heap.size w w' := by
  have HL : Hid (∀ W, Calls Tryd.prog 44 #[.string ⟨l.toArray⟩, .string ⟨#[32, 9]⟩] W fun e w' => e = .returned (.string ⟨(trimS l).toArray⟩) ∧ Below W.heap.size W w') := by
    intro W
    have := Any.strings_Trim_laid Tryd.lays160 (by kernel_rfl) ⟨l.toArray⟩ ⟨#[32, 9]⟩ W (by rw [size_mk]; omega) (by decide) (ascii_of_all (by decide))
    rw [show Lib.trimS (⟨l.toArray⟩ : ByteArray).data.toList (⟨#[32, 9]⟩ : ByteArray).data.toList = trimS l from trim_lib l] at this
    exact this
  go_enter Tryd.func29, Tryd.ntmps29
  go_wp2_with (go_at_call 44; refine (HL.out _).mono ?_; rintro e w' ⟨rfl, hb⟩)
  go_ret
  exact ⟨rfl, hb⟩

set_option maxHeartbeats 400000 in
theorem trim_any (l : List UInt8) (w : World) (h : l.length < 4294967281) :
    Calls Tryd.prog 30 #[.string ⟨l.toArray⟩] w fun e w' => e = .returned (.string ⟨(trimS l).toArray⟩) ∧ Below w.heap.size w w' := by
  have hl := trimS_len l
  go_enter Tryd.func30, Tryd.ntmps30
  go_wp2_with fail
  refine (trimmed_any l _ h).mono ?_
  rintro e w1 ⟨rfl, hb1⟩
  have B1 := hide hb1
  clear hb1
  go_wp2_with fail
  refine (cloneL_any (trimS l) _ (by omega)).mono ?_
  rintro e w2 ⟨rfl, hb2⟩
  have B2 := hide (B1.out.trans (hb2.mono B1.out.size))
  clear hb2
  go_wp2_with fail
  go_ret
  exact ⟨rfl, B2.out⟩
end Go.Proofs.YtfbalmamhcbojaaDoor
