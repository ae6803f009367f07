/- Walks over the small functions of url: a byte, a port number, a scheme's own port; a path, a label. -/
import Derived.Test.YtlmchmhdojkokaaDoorRows
import Derived.Test.YtlmchmhdojkokaaDoorPlain
import Derived.WalkKit
import Derived.WalkSpells
import Derived.WalkLawsBesides
namespace Go.Proofs.YtlmchmhdojkokaaDoor
open Go.RowKit Go.Proofs.Url

set_option maxHeartbeats 400000 in
theorem isDigit_any (n : Int) (w : World) (h0 : 0 ≤ n) (h1 : n ≤ 255) :
    Calls Tryd.prog 45 #[.int .u8 n] w fun e w' => e = .returned (.bool (digI n)) ∧ w' = w := by
  go_enter Tryd.func45, Tryd.ntmps45
  go_wp2
  all_goals go_ret
  all_goals exact ⟨ret_bool (by unfold digI; simp; try omega), rfl⟩

set_option maxHeartbeats 400000 in
theorem isLabelByte_any (n : Int) (w : World) (h0 : 0 ≤ n) (h1 : n ≤ 255) :
    Calls Tryd.prog 40 #[.int .u8 n] w fun e w' => e = .returned (.bool (labI n)) ∧ w' = w := by
  go_enter Tryd.func40, Tryd.ntmps40
  go_wp2
  all_goals go_ret
  all_goals exact ⟨ret_bool (by unfold labI digI; simp at *; omega), rfl⟩

theorem path_no {s : ByteArray} (h : s.size = 0 ∨ 60 < s.size ∨ (∃ h : 0 < s.size, ¬ s[0].toNat = 47) ∨ ∃ (k : Nat) (h : k < s.size), pth s[k] = false) : path s.data.toList = false := by
  unfold path
  rcases h with h | h | ⟨h, h'⟩ | ⟨k, h, h'⟩
  · simp [h]
  · simp; omega
  · rw [head_eq s h]; simp [← UInt8.toNat_inj, h']
  · rw [all_false_of pth s k h h']; simp
theorem path_yes {s : ByteArray} (h0 : 0 < s.size) (h1 : s.size ≤ 60) (h2 : s[0].toNat = 47) (h3 : s.data.toList.all pth = true) : path s.data.toList = true := by
  unfold path; rw [head_eq s h0, h3]; simp [← UInt8.toNat_inj, h2]; omega

end Go.Proofs.YtlmchmhdojkokaaDoor
