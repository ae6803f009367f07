/- Walks over url.isLabel, url.ownPort, moatlaw0.Low, url.cutScheme, strings.Clone, url.Same. -/
import Derived.Test.YtcmmjmgbanafgaaW1
import Derived.Test.YtcmmjmgbanafgaaShelf
namespace Go.Proofs.Ytcmmjmgbanafgaa
open Go.RowKit Go.Proofs.Url

theorem label_no {s : ByteArray} (h : s.size = 0 ∨ 20 < s.size ∨ (∃ h : 0 < s.size, s[0].toNat = 45) ∨ (∃ h : s.size - 1 < s.size, s[s.size - 1].toNat = 45) ∨ ∃ (k : Nat) (h : k < s.size), lab s[k] = false) : label s.data.toList = false := by
  unfold label
  rcases h with h | h | ⟨h, h'⟩ | ⟨h, h'⟩ | ⟨k, h, h'⟩
  · simp [h]
  · simp; omega
  · rw [head_eq s h]; simp [← UInt8.toNat_inj, h']
  · rw [last_eq s h]; simp [← UInt8.toNat_inj, h']
  · rw [all_false_of lab s k h h']; simp
theorem label_yes {s : ByteArray} (h0 : 0 < s.size) (h1 : s.size ≤ 20) (h2 : ¬ s[0].toNat = 45) (h' : s.size - 1 < s.size) (h4 : ¬ s[s.size - 1].toNat = 45) (h3 : s.data.toList.all lab = true) : label s.data.toList = true := by
  unfold label; rw [head_eq s h0, last_eq s h', h3]; simp [← UInt8.toNat_inj, h2, h4]; omega

theorem ret_two {a a' : Int} {b b' : Bool} (h : a = a') (h' : b = b') : Ending.returned (.tuple #[.int .i64 a, .bool b]) = .returned (.tuple #[.int .i64 a', .bool b']) := by rw [h, h']

theorem low_eq (x n : Int) (h1 : 1 ≤ n) (h2 : n ≤ 70000) : wrap64 ((IntKind.u64.wrap x).tmod n) = low x n := by
  have e : IntKind.u64.wrap x = x % big := by rw [IntKind.wrap_u64]; rfl
  have h0 : 0 ≤ x % big := Int.emod_nonneg _ (by unfold big; omega)
  rw [e, Int.tmod_eq_emod_of_nonneg h0]
  unfold low
  have a := Int.emod_nonneg (x % big) (show n ≠ 0 by omega)
  have b := Int.emod_lt_of_pos (x % big) (show 0 < n by omega)
  exact IntWalk.wrap64_in _ ⟨by omega, by omega⟩
theorem low_nn (x n : Int) (h1 : 1 ≤ n) : 0 ≤ low x n := Int.emod_nonneg _ (by omega)
theorem low_lt (x n : Int) (h1 : 1 ≤ n) : low x n < n := Int.emod_lt_of_pos _ (by omega)
set_option maxHeartbeats 400000 in
theorem low_any (x n : Int) (w : World) (h1 : 1 ≤ n) (h2 : n ≤ 70000) :
    Calls Try.prog 13 #[.int .i64 x, .int .i64 n] w fun e w' => e = .returned (.int .i64 (low x n)) ∧ w' = w := by
  go_enter Try.func13, Try.ntmps13
  go_wp2
  go_ret
  exact ⟨ret_int (low_eq x n h1 h2), rfl⟩

set_option maxHeartbeats 400000 in
theorem clone_any (s : ByteArray) (w : World) (hs : s.size ≤ 281474976710656) :
    Calls Try.prog 50 #[.string s] w fun e w' => e = .returned (.string s) ∧ Below w.heap.size w w' := by
  go_enter Try.func50, Try.ntmps50
  go_wp2_with (go_at_call 71; refine (Try.stringslite_Clone _ _ hs).mono ?_; rintro e w' ⟨rfl, hb⟩)
  go_ret
  exact ⟨rfl, hb⟩
end Go.Proofs.Ytcmmjmgbanafgaa
