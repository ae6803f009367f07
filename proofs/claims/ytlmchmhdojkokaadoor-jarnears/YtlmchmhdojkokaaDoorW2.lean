/- Walks over url.isLabel, url.ownPort, moatlaw0.Low, url.cutScheme, strings.Clone, url.Same. -/
import Derived.Test.YtlmchmhdojkokaaDoorW1
import Derived.Test.YtlmchmhdojkokaaDoorShelf
namespace Go.Proofs.YtlmchmhdojkokaaDoor
open Go.RowKit Go.Proofs.Url

theorem label_no {s : ByteArray} (h : s.size = 0 ∨ 20 < s.size ∨ (∃ h : 0 < s.size, s[0].toNat = 45) ∨ (∃ h : s.size - 1 < s.size, s[s.size - 1].toNat = 45) ∨ ∃ (k : Nat) (h : k < s.size), lab s[k] = false) : label s.data.toList = false := by
  unfold label
  rcases h with h | h | ⟨h, h'⟩ | ⟨h, h'⟩ | ⟨k, h, h'⟩
  · simp [h]
  · simp; omega
  · rw [head_eq s h]; simp [← UInt8.toNat_inj, h']
  · rw [last_eq s h]; simp [← UInt8.toNat_inj, h']
  · rw [all_false_of lab s k h h']; simp
theorem label_yes {s : ByteArray} (h0 : 0 < s.size) (h1 : s.size ≤ 20) (h2 : ¬ s[0].toNat = 45) (h' : s.size - 1 < s.size) (h4 : ¬ s[s.size - 1].toNat = 45) (h3 : s.data.toList.all lab = true) : label s.data.toList = true := by
  unfold label; rw [head_eq s h0, last_eq s h', h3]; simp [← UInt8.toNat_inj, h2, h4]; omega

set_option maxHeartbeats 400000 in
theorem isLabel_any (s : ByteArray) (w : World) (hs : s.size ≤ maxLen) :
    Calls Tryd.prog 36 #[.string s] w fun e w' => e = .returned (.bool (label s.data.toList)) ∧ w' = w := by
  unfold maxLen at hs
  by_cases h0 : s.size = 0
  · have he : ((s.size : Int) == 0) = true := beq_iff_eq.2 (by omega)
    have HN : Hid (label s.data.toList = false) := label_no (.inl h0)
    clear h0
    go_enter Tryd.func36, Tryd.ntmps36
    go_wp2
    go_ret
    exact ⟨ret_bool HN.out.symm, rfl⟩
  have hpos : 0 < s.size := by omega
  have he : ((s.size : Int) == 0) = false := beq_eq_false_iff_ne.2 (by omega)
  by_cases h20 : 20 < s.size
  · have HN : Hid (label s.data.toList = false) := label_no (.inr (.inl h20))
    go_enter Tryd.func36, Tryd.ntmps36
    go_wp2
    go_ret
    exact ⟨ret_bool HN.out.symm, rfl⟩
  have hl : s.size - 1 < s.size := by omega
  by_cases h1 : s[0].toNat = 45
  · have HN : Hid (label s.data.toList = false) := label_no (.inr (.inr (.inl ⟨hpos, h1⟩)))
    have hb : ((s[0].toNat : Int) == 45) = true := beq_iff_eq.2 (by omega)
    clear h1
    go_enter Tryd.func36, Tryd.ntmps36
    go_wp2
    go_ret
    exact ⟨ret_bool HN.out.symm, rfl⟩
  by_cases h2 : s[s.size - 1].toNat = 45
  · have HN : Hid (label s.data.toList = false) := label_no (.inr (.inr (.inr (.inl ⟨hl, h2⟩))))
    have hb : ((s[0].toNat : Int) == 45) = false := beq_eq_false_iff_ne.2 (by omega)
    have hb' : ((s[s.size - 1].toNat : Int) == 45) = true := beq_iff_eq.2 (by omega)
    clear h1 h2
    go_enter Tryd.func36, Tryd.ntmps36
    go_wp2
    go_ret
    exact ⟨ret_bool HN.out.symm, rfl⟩
  have HY : Hid (s.data.toList.all lab = true → label s.data.toList = true) := label_yes hpos (by omega) h1 hl h2
  have hb : ((s[0].toNat : Int) == 45) = false := beq_eq_false_iff_ne.2 (by omega)
  have hb' : ((s[s.size - 1].toNat : Int) == 45) = false := beq_eq_false_iff_ne.2 (by omega)
  clear h1 h2
  go_enter Tryd.func36, Tryd.ntmps36
  go_wp2_with fail
  go_loop [21] (fun i => ∃ k : Nat, k ≤ s.size ∧ i = .int .i64 k ∧ Hid ((s.data.toList.take k).all lab = true)) (fun i => s.size - (intOf i).toNat)
  case atStart => exact ⟨0, Nat.zero_le _, rfl, rfl⟩
  case round =>
    obtain ⟨k, hk, rfl, hall⟩ := hrel
    by_cases hlt : k < s.size
    · have hc : s[k].toNat < 256 := s[k].toNat_lt
      have HS : Hid ((s.data.toList.take (k + 1)).all lab = ((s.data.toList.take k).all lab && lab s[k])) := all_take_succ lab s k hlt
      by_cases hp : lab s[k] = true
      · have hp' : labI s[k].toNat = true := hp
        go_wp2_with (go_at_call 40; refine (isLabelByte_any _ _ (by omega) (by omega)).mono ?_; rintro e w' ⟨rfl, rfl⟩)
        go_round
        case rel => exact ⟨k + 1, by omega, by go_num, by unfold Hid; rw [HS.out, hall.out, hp]; rfl⟩
        case measure => simp [intOf]; omega
      · have hp' : labI s[k].toNat = false := by simpa [lab] using hp
        have HN : Hid (label s.data.toList = false) := label_no (.inr (.inr (.inr (.inr ⟨k, hlt, hp'⟩))))
        clear hp
        go_wp2_with (go_at_call 40; refine (isLabelByte_any _ _ (by omega) (by omega)).mono ?_; rintro e w' ⟨rfl, rfl⟩)
        go_ret
        exact ⟨ret_bool HN.out.symm, rfl⟩
    · go_wp2
      go_ret
      exact ⟨ret_bool (HY.out (all_of_take lab s k (by omega) hall.out)).symm, rfl⟩

theorem ret_two {a a' : Int} {b b' : Bool} (h : a = a') (h' : b = b') : Ending.returned (.tuple #[.int .i64 a, .bool b]) = .returned (.tuple #[.int .i64 a', .bool b']) := by rw [h, h']

theorem low_eq (x n : Int) (h1 : 1 ≤ n) (h2 : n ≤ 70000) : wrap64 ((IntKind.u64.wrap x).tmod n) = low x n := by
  have e : IntKind.u64.wrap x = x % big := by rw [IntKind.wrap_u64]; rfl
  have h0 : 0 ≤ x % big := Int.emod_nonneg _ (by unfold big; omega)
  rw [e, Int.tmod_eq_emod_of_nonneg h0]
  unfold low
  have a := Int.emod_nonneg (x % big) (show n ≠ 0 by omega)
  have b := Int.emod_lt_of_pos (x % big) (show 0 < n by omega)
  exact IntWalk.wrap64_in _ ⟨by omega, by omega⟩
theorem low_nn (x n : Int) (h1 : 1 ≤ n) : 0 ≤ low x n := Int.emod_nonneg _ (by omega)
theorem low_lt (x n : Int) (h1 : 1 ≤ n) : low x n < n := Int.emod_lt_of_pos _ (by omega)
set_option maxHeartbeats 400000 in
theorem low_any (x n : Int) (w : World) (h1 : 1 ≤ n) (h2 : n ≤ 70000) :
    Calls Tryd.prog 16 #[.int .i64 x, .int .i64 n] w fun e w' => e = .returned (.int .i64 (low x n)) ∧ w' = w := by
  go_enter Tryd.func16, Tryd.ntmps16
  go_wp2
  go_ret
  exact ⟨ret_int (low_eq x n h1 h2), rfl⟩

set_option maxHeartbeats 400000 in
theorem clone_any (s : ByteArray) (w : World) (hs : s.size ≤ 281474976710656) :
    Calls Tryd.prog 33 #[.string s] w fun e w' => e = .returned (.string s) ∧ Below w.heap.size w w' := by
  go_enter Tryd.func33, Tryd.ntmps33
  go_wp2_with (go_at_call 38; refine (Tryd.stringslite_Clone _ _ hs).mono ?_; rintro e w' ⟨rfl, hb⟩)
  go_ret
  exact ⟨rfl, hb⟩
end Go.Proofs.YtlmchmhdojkokaaDoor
