/- Walks over moatref3: Name, Lower, Trim. -/
import Derived.Test.YtaabficekcnlnaaDoorV0
namespace Go.Proofs.YtaabficekcnlnaaDoor
open Go.RowKit Go.Proofs.Url

theorem name_len (s : ByteArray) (h : s.data.toList.all nameB = true) : nameS s.data.toList = (decide (1 ≤ (s.size : Int)) && decide ((s.size : Int) ≤ 40)) := by
  unfold nameS; rw [h, Bool.and_true, len_eq, Bool.eq_iff_iff]; simp; omega

set_option maxHeartbeats 4000000 in
theorem refName_any (s : ByteArray) (w : World) (hs : s.size ≤ maxLen) :
    Calls Tryd.prog 15 #[.string s] w fun e w' => e = .returned (.bool (nameS s.data.toList)) ∧ w' = w := by
  unfold maxLen at hs
  go_enter Tryd.func15, Tryd.ntmps15
  go_wp2_with fail
  go_loop [3] (fun i => ∃ k : Nat, k ≤ s.size ∧ i = .int .i64 k ∧ Hid ((s.data.toList.take k).all nameB = true)) (fun i => s.size - (intOf i).toNat)
  case atStart => exact ⟨0, Nat.zero_le _, rfl, rfl⟩
  case round =>
    obtain ⟨k, hk, rfl, hall⟩ := hrel
    by_cases hlt : k < s.size
    · have hc : s[k].toNat < 256 := s[k].toNat_lt
      have HS : Hid ((s.data.toList.take (k + 1)).all nameB = ((s.data.toList.take k).all nameB && nameB s[k])) := all_take_succ nameB s k hlt
      have HI := hide (nameI_eq s[k])
      have HN : Hid (nameB s[k] = false → nameS s.data.toList = false) := fun h => name_no (.inr (.inr ⟨k, hlt, h⟩))
      generalize hx : (s[k].toNat : Int) = n
      have hn0 : 0 ≤ n := by omega
      have hn1 : n ≤ 255 := by omega
      rw [hx] at HI
      clear hc
      go_wp2_with fail
      all_goals first
        | (refine ⟨⟨k + 1, by omega, by go_num, ?_⟩, by simp [intOf]; omega⟩; unfold Hid; rw [HS.out, hall.out, Bool.true_and, ← HI.out]; unfold nameI; simp at *; omega)
        | (go_ret; refine ⟨ret_bool ?_, rfl⟩; rw [HN.out (by rw [← HI.out]; unfold nameI; simp at *; omega)])
    · have HA : Hid (nameS s.data.toList = (decide (1 ≤ (s.size : Int)) && decide ((s.size : Int) ≤ 40))) := name_len s (all_of_take nameB s k (by omega) hall.out)
      clear hall
      go_wp2_with fail
      all_goals go_ret
      all_goals exact ⟨ret_bool (by rw [HA.out, Bool.eq_iff_iff]; simp at *; omega), rfl⟩
theorem refNameL_any (l : List UInt8) (w : World) (h : l.length < 4294967281) :
    Calls Tryd.prog 15 #[.string ⟨l.toArray⟩] w fun e w' => e = .returned (.bool (nameS l)) ∧ w' = w := refName_any ⟨l.toArray⟩ w (by rw [Lib.size_mk]; unfold maxLen; omega)

theorem up_no {c : UInt8} (h : upB c = false) : ¬ ((65 : Int) ≤ (c.toNat : Int) ∧ (c.toNat : Int) ≤ 90) := by
  intro h'
  have : upB c = true := by unfold upB; exact decide_eq_true (by omega)
  rw [h] at this; cases this

set_option maxHeartbeats 400000 in
theorem refLower_any (l : List UInt8) (w : World) (hs : l.length < 4294967281) :
    Calls Tryd.prog 17 #[.string ⟨l.toArray⟩] w fun e w' => e = .returned (.string ⟨(lowerS l).toArray⟩) ∧ Below w.heap.size w w' := by
  have kc := fun w => convB l w
  go_enter Tryd.func17, Tryd.ntmps17
  go_wp2_with fail
  go_loopw [4] (fun i W => ∃ (k : Nat), k ≤ l.length ∧ i = .int .i64 k ∧ Hid (BytesAt W w.heap.size (lowK l k)) ∧ Hid (Below w.heap.size w W)) (fun i _ => l.length - (intOf i).toNat)
  case atStart => exact ⟨0, Nat.zero_le _, rfl, bytes_new l w _, ((Below.refl _ _).alloc (Nat.le_refl _) _).drew⟩
  case round =>
    clear kc
    obtain ⟨k, hk, rfl, hat, hB⟩ := hrel
    by_cases hlt : k < l.length
    · have hlt' : k < (lowK l k).length := by rw [lowK_len]; exact hlt
      obtain ⟨hcell, hfr⟩ := hat.out k hlt'
      rw [lowK_at l k hlt hlt'] at hcell
      have hsz := hB.out.size
      have hgz : w.heap.size < wr.heap.size := World.block_lt_of_cell? wr _ hcell
      have hc : l[k].toNat < 256 := l[k].toNat_lt
      cases hu : upB l[k] with
      | true =>
        obtain ⟨h1, h2, h3⟩ := lower_up hu
        have HN : Hid (BytesAt (wr.setCell ⟨w.heap.size, k, none⟩ (.int .u8 (lowerB l[k]).toNat)) w.heap.size (lowK l (k + 1))) := by
          unfold Hid; rw [← lowK_next l k hlt]; exact bytes_set hat.out k _
        rw [h3] at HN
        clear hu hat h3
        go_wp2_with fail
        refine ⟨⟨k + 1, by omega, by go_num, HN, hB.out.setCell (p := ⟨w.heap.size, k, none⟩) (Nat.le_refl _) _⟩, by simp [intOf]; omega⟩
      | false =>
        have HN : Hid (BytesAt wr w.heap.size (lowK l (k + 1))) := by unfold Hid; rw [← lowK_same l k hlt hu]; exact hat.out
        have hno := up_no hu
        clear hu hat
        go_wp2_with fail
        all_goals refine ⟨⟨k + 1, by omega, by go_num, HN, hB⟩, by simp [intOf]; omega⟩
    · have HE : Hid (BytesAt wr w.heap.size (lowerS l)) := by have := hat.out; rw [lowK_all l k (by omega)] at this; exact this
      have kb := fun cap => bytes_back HE.out l.length cap (lowerS_len l).symm
      clear hat
      go_wp2_with fail
      go_ret
      exact ⟨rfl, hB.out⟩
end Go.Proofs.YtaabficekcnlnaaDoor
