/- Walks over moatref3: Name, Lower, Trim. -/
import Derived.Test.YtfbalmamhcbojaaDoorV0
namespace Go.Proofs.YtfbalmamhcbojaaDoor
open Go.RowKit Go.Proofs.Url

theorem name_len (s : ByteArray) (h : s.data.toList.all nameB = true) : nameS s.data.toList = (decide (1 ≤ (s.size : Int)) && decide ((s.size : Int) ≤ 40)) := by
  unfold nameS; rw [h, Bool.and_true, len_eq, Bool.eq_iff_iff]; simp; omega

theorem up_no {c : UInt8} (h : upB c = false) : ¬ ((65 : Int) ≤ (c.toNat : Int) ∧ (c.toNat : Int) ≤ 90) := by
  intro h'
  have : upB c = true := by unfold upB; exact decide_eq_true (by omega)
  rw [h] at this; cases this

set_option maxHeartbeats 400000 in
theorem refLower_any (l : List UInt8) (w : World) (hs : l.length < 4294967281) :
    Calls Tryd.prog 20 #[.string ⟨l.toArray⟩] w fun e w' => e = .returned (.string ⟨(lowerS l).toArray⟩) ∧ Below w.heap.size w w' := by
  have kc := fun w => convB l w
  go_enter Tryd.func20, Tryd.ntmps20
  go_wp2_with fail
  go_loopw [4] (fun i W => ∃ (k : Nat), k ≤ l.length ∧ i = .int .i64 k ∧ Hid (BytesAt W w.heap.size (lowK l k)) ∧ Hid (Below w.heap.size w W)) (fun i _ => l.length - (intOf i).toNat)
  case atStart => exact ⟨0, Nat.zero_le _, rfl, bytes_new l w _, ((Below.refl _ _).alloc (Nat.le_refl _) _).drew⟩
  case round =>
    clear kc
    obtain ⟨k, hk, rfl, hat, hB⟩ := hrel
    by_cases hlt : k < l.length
    · have hlt' : k < (lowK l k).length := by rw [lowK_len]; exact hlt
      obtain ⟨hcell, hfr⟩ := hat.out k hlt'
      rw [lowK_at l k hlt hlt'] at hcell
      have hsz := hB.out.size
      have hgz : w.heap.size < wr.heap.size := World.block_lt_of_cell? wr _ hcell
      have hc : l[k].toNat < 256 := l[k].toNat_lt
      cases hu : upB l[k] with
      | true =>
        obtain ⟨h1, h2, h3⟩ := lower_up hu
        have HN : Hid (BytesAt (wr.setCell ⟨w.heap.size, k, none⟩ (.int .u8 (lowerB l[k]).toNat)) w.heap.size (lowK l (k + 1))) := by
          unfold Hid; rw [← lowK_next l k hlt]; exact bytes_set hat.out k _
        rw [h3] at HN
        clear hu hat h3
        go_wp2_with fail
        refine ⟨⟨k + 1, by omega, by go_num, HN, hB.out.setCell (p := ⟨w.heap.size, k, none⟩) (Nat.le_refl _) _⟩, by simp [intOf]; omega⟩
      | false =>
        have HN : Hid (BytesAt wr w.heap.size (lowK l (k + 1))) := by unfold Hid; rw [← lowK_same l k hlt hu]; exact hat.out
        have hno := up_no hu
        clear hu hat
        go_wp2_with fail
        all_goals refine ⟨⟨k + 1, by omega, by go_num, HN, hB⟩, by simp [intOf]; omega⟩
    · have HE : Hid (BytesAt wr w.heap.size (lowerS l)) := by have := hat.out; rw [lowK_all l k (by omega)] at this; exact this
      have kb := fun cap => bytes_back HE.out l.length cap (lowerS_len l).symm
      clear hat
      go_wp2_with fail
      go_ret
      exact ⟨rfl, hB.out⟩
end Go.Proofs.YtfbalmamhcbojaaDoor
