/- Walks over the small functions of url: a byte, a port number, a scheme's own port; a path, a label. -/
import Derived.Test.YtcmmjmgbanafgaaRows
import Derived.Test.YtcmmjmgbanafgaaPlain
import Derived.WalkKit
import Derived.WalkSpells
import Derived.WalkLawsBesides
namespace Go.Proofs.Ytcmmjmgbanafgaa
open Go.RowKit Go.Proofs.Url

theorem path_no {s : ByteArray} (h : s.size = 0 ∨ 60 < s.size ∨ (∃ h : 0 < s.size, ¬ s[0].toNat = 47) ∨ ∃ (k : Nat) (h : k < s.size), pth s[k] = false) : path s.data.toList = false := by
  unfold path
  rcases h with h | h | ⟨h, h'⟩ | ⟨k, h, h'⟩
  · simp [h]
  · simp; omega
  · rw [head_eq s h]; simp [← UInt8.toNat_inj, h']
  · rw [all_false_of pth s k h h']; simp
theorem path_yes {s : ByteArray} (h0 : 0 < s.size) (h1 : s.size ≤ 60) (h2 : s[0].toNat = 47) (h3 : s.data.toList.all pth = true) : path s.data.toList = true := by
  unfold path; rw [head_eq s h0, h3]; simp [← UInt8.toNat_inj, h2]; omega

end Go.Proofs.Ytcmmjmgbanafgaa
