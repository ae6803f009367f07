/- Walks over moatref9: small, caps, gap, Word. -/
import Derived.Test.YtcmmjmgbanafgaaS3
import Derived.Test.YtcmmjmgbanafgaaRows5
import Derived.Test.YtcmmjmgbanafgaaLx1
import Derived.Deep.DeepCutAuto
namespace Go.Proofs.Ytcmmjmgbanafgaa
open Go.RowKit Go.Proofs.Url

theorem drop_at (s : List UInt8) (i : Nat) (h : i < (⟨s.toArray⟩ : ByteArray).size) : s.drop i = (⟨s.toArray⟩ : ByteArray)[i] :: s.drop (i + 1) := by
  have h' : i < s.length := by rw [size_mk] at h; exact h
  rw [List.drop_eq_getElem_cons h']; rfl
theorem gap_end (b : Bool) (s : List UInt8) (i : Nat) (h : s.length ≤ i) : gapB b (s.drop i) = 0 := by
  rw [List.drop_eq_nil_of_le h]; cases b <;> rfl
theorem gap_blank {s : List UInt8} {i : Nat} (h : i < (⟨s.toArray⟩ : ByteArray).size) (hb : blankB (⟨s.toArray⟩ : ByteArray)[i] = true) : gapB false (s.drop i) = 1 + gapB false (s.drop (i + 1)) := by
  rw [drop_at s i h, gapB, if_pos hb]
theorem gap_hash {s : List UInt8} {i : Nat} (h : i < (⟨s.toArray⟩ : ByteArray).size) (hb : (⟨s.toArray⟩ : ByteArray)[i].toNat = 35) : gapB false (s.drop i) = gapB true (s.drop i) := by
  rw [drop_at s i h, gapB, gapB, if_neg (by unfold blankB; simp [hb]), if_pos hb, if_neg (by omega)]
theorem gap_stop {s : List UInt8} {i : Nat} (h : i < (⟨s.toArray⟩ : ByteArray).size) (hb : blankB (⟨s.toArray⟩ : ByteArray)[i] = false) (hh : ¬ (⟨s.toArray⟩ : ByteArray)[i].toNat = 35) : gapB false (s.drop i) = 0 := by
  rw [drop_at s i h, gapB, if_neg (by simp [hb]), if_neg hh]
theorem gap_line {s : List UInt8} {i : Nat} (h : i < (⟨s.toArray⟩ : ByteArray).size) (hb : (⟨s.toArray⟩ : ByteArray)[i].toNat = 10) : gapB true (s.drop i) = gapB false (s.drop i) := by
  rw [drop_at s i h, gapB, gapB, if_pos hb, if_pos (by unfold blankB; simp [hb])]
theorem gap_on {s : List UInt8} {i : Nat} (h : i < (⟨s.toArray⟩ : ByteArray).size) (hb : ¬ (⟨s.toArray⟩ : ByteArray)[i].toNat = 10) : gapB true (s.drop i) = 1 + gapB true (s.drop (i + 1)) := by
  rw [drop_at s i h, gapB, if_neg hb]

set_option maxHeartbeats 400000 in
theorem refSmall_any (c : UInt8) (w : World) :
    Calls Try.prog 76 #[.int .u8 c.toNat] w fun e w' => e = .returned (.bool (smallB c)) ∧ w' = w := by
  have hc := c.toNat_lt
  go_enter Try.func76, Try.ntmps76
  go_wp2
  all_goals go_ret
  all_goals exact ⟨ret_bool (by unfold smallB; rw [Bool.eq_iff_iff]; simp; try omega), rfl⟩
set_option maxHeartbeats 400000 in
theorem refCaps_any (c : UInt8) (w : World) :
    Calls Try.prog 78 #[.int .u8 c.toNat] w fun e w' => e = .returned (.bool (capB c)) ∧ w' = w := by
  have hc := c.toNat_lt
  go_enter Try.func78, Try.ntmps78
  go_wp2
  all_goals go_ret
  all_goals exact ⟨ret_bool (by unfold capB; rw [Bool.eq_iff_iff]; simp; try omega), rfl⟩

set_option maxHeartbeats 2000000 in
theorem refGap_any (s : List UInt8) (i : Nat) (hi : i ≤ s.length) (w : World) (hs : s.length < 4294967281) :
    Calls Try.prog 59 #[.string ⟨s.toArray⟩, .int .i64 i] w fun e w' => e = .returned (.int .i64 ((i + gapB false (s.drop i) : Nat) : Int)) ∧ w' = w := by
  go_enter Try.func59, Try.ntmps59
  go_wp2_with fail
  go_loop [1] (fun iv => ∃ j : Nat, j ≤ s.length ∧ iv = .int .i64 j ∧ Hid (i + gapB false (s.drop i) = j + gapB false (s.drop j))) (fun iv => s.length - (intOf iv).toNat)
  case atStart => exact ⟨i, hi, rfl, rfl⟩
  case round =>
    obtain ⟨j, hj, rfl, hE⟩ := hrel
    by_cases hlt : j < s.length
    · have hlI : (j : Int) < (s.length : Int) := by omega
      have hjB : j < (⟨s.toArray⟩ : ByteArray).size := by rw [size_mk]; exact hlt
      have hc : (⟨s.toArray⟩ : ByteArray)[j].toNat < 256 := (⟨s.toArray⟩ : ByteArray)[j].toNat_lt
      cases hb : blankB (⟨s.toArray⟩ : ByteArray)[j] with
      | true =>
        have HN : Hid (i + gapB false (s.drop i) = (j + 1) + gapB false (s.drop (j + 1))) := by unfold Hid; rw [hE.out, gap_blank hjB hb]; omega
        have h4 : (⟨s.toArray⟩ : ByteArray)[j].toNat = 32 ∨ (⟨s.toArray⟩ : ByteArray)[j].toNat = 9 ∨ (⟨s.toArray⟩ : ByteArray)[j].toNat = 10 ∨ (⟨s.toArray⟩ : ByteArray)[j].toNat = 13 := by
          unfold blankB at hb; simpa [or_assoc] using hb
        clear hb hE
        rcases h4 with h | h | h | h
        all_goals (
          go_wp2_with fail
          go_round
          case rel => exact ⟨j + 1, by omega, by go_num, HN⟩
          case measure => simp [intOf]; omega)
      | false =>
        have h4 : ¬ (⟨s.toArray⟩ : ByteArray)[j].toNat = 32 ∧ ¬ (⟨s.toArray⟩ : ByteArray)[j].toNat = 9 ∧ ¬ (⟨s.toArray⟩ : ByteArray)[j].toNat = 10 ∧ ¬ (⟨s.toArray⟩ : ByteArray)[j].toNat = 13 := by
          unfold blankB at hb; simpa [and_assoc] using hb
        have b1 : (((⟨s.toArray⟩ : ByteArray)[j].toNat : Int) == 32) = false := beq_eq_false_iff_ne.2 (by omega)
        have b2 : (((⟨s.toArray⟩ : ByteArray)[j].toNat : Int) == 9) = false := beq_eq_false_iff_ne.2 (by omega)
        have b3 : (((⟨s.toArray⟩ : ByteArray)[j].toNat : Int) == 10) = false := beq_eq_false_iff_ne.2 (by omega)
        have b4 : (((⟨s.toArray⟩ : ByteArray)[j].toNat : Int) == 13) = false := beq_eq_false_iff_ne.2 (by omega)
        by_cases hh : (⟨s.toArray⟩ : ByteArray)[j].toNat = 35
        · have HN : Hid (i + gapB false (s.drop i) = j + gapB true (s.drop j)) := by unfold Hid; rw [hE.out, gap_hash hjB hh]
          have b5 : (((⟨s.toArray⟩ : ByteArray)[j].toNat : Int) == 35) = true := beq_iff_eq.2 (by omega)
          have H35 := hide hh
          clear hb hE h4 hh
          go_wp2_with fail
          go_loop [1] (fun iv => ∃ k : Nat, j ≤ k ∧ k ≤ s.length ∧ iv = .int .i64 k ∧ Hid (i + gapB false (s.drop i) = k + gapB true (s.drop k))) (fun iv => s.length - (intOf iv).toNat)
          case atStart => exact ⟨j, Nat.le_refl _, by omega, rfl, HN⟩
          case round =>
            obtain ⟨k, hjk, hk, rfl, hE⟩ := hrel
            by_cases hlt2 : k < s.length
            · have hlI2 : (k : Int) < (s.length : Int) := by omega
              have hkB : k < (⟨s.toArray⟩ : ByteArray).size := by rw [size_mk]; exact hlt2
              have hc2 : (⟨s.toArray⟩ : ByteArray)[k].toNat < 256 := (⟨s.toArray⟩ : ByteArray)[k].toNat_lt
              by_cases h10 : (⟨s.toArray⟩ : ByteArray)[k].toNat = 10
              · have hne : j < k := by
                  rcases Nat.lt_or_ge j k with h | h
                  · exact h
                  · have : j = k := by omega
                    subst this
                    have := H35.out
                    omega
                have HX : Hid (i + gapB false (s.drop i) = k + gapB false (s.drop k)) := by unfold Hid; rw [hE.out, gap_line hkB h10]
                have e1 : (((⟨s.toArray⟩ : ByteArray)[k].toNat : Int) == 10) = true := beq_iff_eq.2 (by omega)
                clear h10 hE b1 b2 b3 b4 b5
                go_wp2_with fail
                go_round
                case rel => exact ⟨k, by omega, rfl, HX⟩
                case measure => simp [intOf]; omega
              · have HX : Hid (i + gapB false (s.drop i) = (k + 1) + gapB true (s.drop (k + 1))) := by unfold Hid; rw [hE.out, gap_on hkB h10]; omega
                have e1 : (((⟨s.toArray⟩ : ByteArray)[k].toNat : Int) == 10) = false := beq_eq_false_iff_ne.2 (by omega)
                clear h10 hE b1 b2 b3 b4 b5
                go_wp2_with fail
                go_round
                case rel => exact ⟨k + 1, by omega, by omega, by go_num, HX⟩
                case measure => simp [intOf]; omega
            · have HX : Hid (i + gapB false (s.drop i) = k + gapB false (s.drop k)) := by unfold Hid; rw [hE.out, gap_end true s k (by omega), gap_end false s k (by omega)]
              clear hE b1 b2 b3 b4 b5
              go_wp2_with fail
              go_round
              case rel => exact ⟨k, by omega, rfl, HX⟩
              case measure => simp [intOf]; omega
        · have HN : Hid (gapB false (s.drop j) = 0) := gap_stop hjB hb hh
          have b5 : (((⟨s.toArray⟩ : ByteArray)[j].toNat : Int) == 35) = false := beq_eq_false_iff_ne.2 (by omega)
          clear hb h4 hh
          go_wp2_with fail
          go_ret
          exact ⟨ret_int (by have h1 := hE.out; have h2 := HN.out; omega), rfl⟩
    · have HN : Hid (gapB false (s.drop j) = 0) := gap_end _ _ _ (by omega)
      go_wp2_with fail
      go_ret
      exact ⟨ret_int (by have h1 := hE.out; have h2 := HN.out; omega), rfl⟩

theorem words9_len : ∀ x ∈ words9, x.length ≤ 11 := by decide +kernel
theorem word_yes {l : List UInt8} {k : Nat} (h : k < 32) (e : words9.getD k [] = l) : wordS l = true := by
  unfold wordS
  have hk : k < words9.length := h
  rw [List.contains_iff_mem, ← e, List.getD_eq_getElem?_getD, List.getElem?_eq_getElem hk]
  exact List.getElem_mem hk
theorem word_no {l : List UInt8} (h : ∀ j, j < 32 → words9.getD j [] ≠ l) : wordS l = false := by
  cases e : wordS l
  · rfl
  · unfold wordS at e
    rw [List.contains_iff_mem, List.mem_iff_getElem] at e
    obtain ⟨j, hj, e⟩ := e
    exact absurd (by rw [List.getD_eq_getElem?_getD, List.getElem?_eq_getElem hj]; exact e) (h j hj)

set_option maxHeartbeats 1000000 in
set_option maxRecDepth 100000 in
theorem refWord_any (l : List UInt8) (w : World) :
    Calls Try.prog 77 #[.string ⟨l.toArray⟩] w fun e w' => e = .returned (.bool (wordS l)) ∧ Below w.heap.size w w' := by
  go_enter Try.func77, Try.ntmps77
  go_upto_region 2 with fail
  obtain ⟨W0, hW0⟩ : ∃ W0, W0 = w.alloc (Obj.cells (words9.map (fun l => Value.string ⟨l.toArray⟩)).toArray 9) := ⟨_, rfl⟩
  have HL : Hid (LitsAt W0 w.heap.size words9) := by unfold Hid; rw [hW0]; exact lits_new w words9 9
  have HB : Hid (Below w.heap.size w W0) := by unfold Hid; rw [hW0]; exact (Below.refl _ _).alloc (Nat.le_refl _) _
  simp only [words9, List.map] at hW0
  rw [← hW0]
  clear hW0
  go_wp2_with fail
  go_loop [4] (fun iv => ∃ k : Nat, k ≤ 32 ∧ iv = .int .i64 k ∧ Hid (∀ j, j < k → words9.getD j [] ≠ l)) (fun iv => 32 - (intOf iv).toNat)
  case atStart => exact ⟨0, by omega, rfl, fun j hj => absurd hj (by omega)⟩
  case round =>
    obtain ⟨k, hk, rfl, hno⟩ := hrel
    by_cases hlt : k < 32
    · have hc := HL.out k hlt
      have hlI : (k : Int) < 32 := by omega
      by_cases he : words9.getD k [] = l
      · have HY := hide (word_yes hlt he)
        have hb : (words9.getD k [] == l) = true := beq_iff_eq.2 he
        clear he hno
        generalize words9.getD k [] = wd at *
        go_wp2_with fail
        go_ret
        exact ⟨ret_bool HY.out.symm, HB.out⟩
      · have hb : (words9.getD k [] == l) = false := beq_eq_false_iff_ne.2 he
        have HN : Hid (∀ j, j < k + 1 → words9.getD j [] ≠ l) := fun j hj => by
          rcases Nat.lt_or_ge j k with h | h
          · exact hno.out j h
          · have : j = k := by omega
            rw [this]; exact he
        clear he hno
        generalize words9.getD k [] = wd at *
        go_wp2_with fail
        go_round
        case rel => exact ⟨k + 1, by omega, by go_num, HN⟩
        case measure => simp [intOf]; omega
    · have HN := hide (word_no (l := l) (fun j hj => hno.out j (by omega)))
      clear hno
      go_wp2_with fail
      go_ret
      exact ⟨ret_bool HN.out.symm, HB.out⟩
end Go.Proofs.Ytcmmjmgbanafgaa
