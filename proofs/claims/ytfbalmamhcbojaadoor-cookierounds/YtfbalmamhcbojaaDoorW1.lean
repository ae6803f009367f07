/- Walks over the small functions of url: a byte, a port number, a scheme's own port; a path, a label. -/
import Derived.Test.YtfbalmamhcbojaaDoorRows
import Derived.Test.YtfbalmamhcbojaaDoorPlain
import Derived.WalkKit
import Derived.WalkSpells
import Derived.WalkLawsBesides
namespace Go.Proofs.YtfbalmamhcbojaaDoor
open Go.RowKit Go.Proofs.Url

set_option maxHeartbeats 400000 in
theorem isDigit_any (n : Int) (w : World) (h0 : 0 ≤ n) (h1 : n ≤ 255) :
    Calls Tryd.prog 54 #[.int .u8 n] w fun e w' => e = .returned (.bool (digI n)) ∧ w' = w := by
  go_enter Tryd.func54, Tryd.ntmps54
  go_wp2
  all_goals go_ret
  all_goals exact ⟨ret_bool (by unfold digI; simp; try omega), rfl⟩

set_option maxHeartbeats 400000 in
theorem isLabelByte_any (n : Int) (w : World) (h0 : 0 ≤ n) (h1 : n ≤ 255) :
    Calls Tryd.prog 41 #[.int .u8 n] w fun e w' => e = .returned (.bool (labI n)) ∧ w' = w := by
  go_enter Tryd.func41, Tryd.ntmps41
  go_wp2
  all_goals go_ret
  all_goals exact ⟨ret_bool (by unfold labI digI; simp at *; omega), rfl⟩

set_option maxHeartbeats 400000 in
theorem isPathByte_any (n : Int) (w : World) (h0 : 0 ≤ n) (h1 : n ≤ 255) :
    Calls Tryd.prog 48 #[.int .u8 n] w fun e w' => e = .returned (.bool (pathI n)) ∧ w' = w := by
  go_enter Tryd.func48, Tryd.ntmps48
  go_wp2_with (go_at_call 41; refine (isLabelByte_any _ _ h0 h1).mono ?_; rintro e w' ⟨rfl, rfl⟩)
  all_goals go_ret
  all_goals exact ⟨ret_bool (by unfold pathI; simp_all), rfl⟩

theorem path_no {s : ByteArray} (h : s.size = 0 ∨ 60 < s.size ∨ (∃ h : 0 < s.size, ¬ s[0].toNat = 47) ∨ ∃ (k : Nat) (h : k < s.size), pth s[k] = false) : path s.data.toList = false := by
  unfold path
  rcases h with h | h | ⟨h, h'⟩ | ⟨k, h, h'⟩
  · simp [h]
  · simp; omega
  · rw [head_eq s h]; simp [← UInt8.toNat_inj, h']
  · rw [all_false_of pth s k h h']; simp
theorem path_yes {s : ByteArray} (h0 : 0 < s.size) (h1 : s.size ≤ 60) (h2 : s[0].toNat = 47) (h3 : s.data.toList.all pth = true) : path s.data.toList = true := by
  unfold path; rw [head_eq s h0, h3]; simp [← UInt8.toNat_inj, h2]; omega

set_option maxHeartbeats 400000 in
theorem path_any (s : ByteArray) (w : World) (hs : s.size ≤ maxLen) :
    Calls Tryd.prog 32 #[.string s] w fun e w' => e = .returned (.bool (path s.data.toList)) ∧ w' = w := by
  unfold maxLen at hs
  by_cases h0 : s.size = 0
  · have he := emp_t s h0
    have HN : Hid (path s.data.toList = false) := path_no (.inl h0)
    clear h0
    go_enter Tryd.func32, Tryd.ntmps32
    go_wp2
    go_ret
    exact ⟨ret_bool HN.out.symm, rfl⟩
  have hpos : 0 < s.size := by omega
  have he := emp_f s hpos
  by_cases h60 : 60 < s.size
  · have HN : Hid (path s.data.toList = false) := path_no (.inr (.inl h60))
    go_enter Tryd.func32, Tryd.ntmps32
    go_wp2
    go_ret
    exact ⟨ret_bool HN.out.symm, rfl⟩
  by_cases h47 : s[0].toNat = 47
  rotate_left
  · have HN : Hid (path s.data.toList = false) := path_no (.inr (.inr (.inl ⟨hpos, h47⟩)))
    have hb : ((s[0].toNat : Int) != 47) = true := by rw [bne_iff_ne]; omega
    clear h47
    go_enter Tryd.func32, Tryd.ntmps32
    go_wp2
    go_ret
    exact ⟨ret_bool HN.out.symm, rfl⟩
  have HY : Hid (s.data.toList.all pth = true → path s.data.toList = true) := path_yes hpos (by omega) h47
  have hb : ((s[0].toNat : Int) != 47) = false := by simp; omega
  clear h47
  go_enter Tryd.func32, Tryd.ntmps32
  go_wp2_with fail
  go_loop [15] (fun i => ∃ k : Nat, k ≤ s.size ∧ i = .int .i64 k ∧ Hid ((s.data.toList.take k).all pth = true)) (fun i => s.size - (intOf i).toNat)
  case atStart => exact ⟨0, Nat.zero_le _, rfl, rfl⟩
  case round =>
    obtain ⟨k, hk, rfl, hall⟩ := hrel
    by_cases hlt : k < s.size
    · have hc : s[k].toNat < 256 := s[k].toNat_lt
      have HS : Hid ((s.data.toList.take (k + 1)).all pth = ((s.data.toList.take k).all pth && pth s[k])) := all_take_succ pth s k hlt
      by_cases hp : pth s[k] = true
      · have hp' : pathI s[k].toNat = true := hp
        go_wp2_with (go_at_call 48; refine (isPathByte_any _ _ (by omega) (by omega)).mono ?_; rintro e w' ⟨rfl, rfl⟩)
        go_round
        case rel => exact ⟨k + 1, by omega, by go_num, by unfold Hid; rw [HS.out, hall.out, hp]; rfl⟩
        case measure => simp [intOf]; omega
      · have hp' : pathI s[k].toNat = false := by simpa [pth] using hp
        have HN : Hid (path s.data.toList = false) := path_no (.inr (.inr (.inr ⟨k, hlt, hp'⟩)))
        clear hp
        go_wp2_with (go_at_call 48; refine (isPathByte_any _ _ (by omega) (by omega)).mono ?_; rintro e w' ⟨rfl, rfl⟩)
        go_ret
        exact ⟨ret_bool HN.out.symm, rfl⟩
    · go_wp2
      go_ret
      exact ⟨ret_bool (HY.out (all_of_take pth s k (by omega) hall.out)).symm, rfl⟩
end Go.Proofs.YtfbalmamhcbojaaDoor
