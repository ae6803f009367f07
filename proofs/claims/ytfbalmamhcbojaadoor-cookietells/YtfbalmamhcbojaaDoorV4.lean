/- The walk over moatref3.Trim. -/
import Derived.Test.YtfbalmamhcbojaaDoorV1
import Derived.Test.YtfbalmamhcbojaaDoorV3
namespace Go.Proofs.YtfbalmamhcbojaaDoor
open Go.RowKit Go.Proofs.Url

theorem gap_iff (c : UInt8) : gapB c = (((c.toNat : Int) == 32) || ((c.toNat : Int) == 9)) :=
  of_decide_eq_true (all_bytes (fun c => decide (gapB c = (((c.toNat : Int) == 32) || ((c.toNat : Int) == 9)))) (by decide +kernel) c)
theorem cons_of (s : ByteArray) (h : 0 < s.size) : s.data.toList = s[0] :: s.data.toList.drop 1 := by
  have hk : 0 < s.data.toList.length := by simpa using h
  have := List.drop_eq_getElem_cons hk
  rw [List.drop_zero] at this
  exact this
theorem trim_tail (s : ByteArray) (h : 0 < s.size) (hg : gapB s[0] = true) : trimS (s.extract 1 s.size).data.toList = trimS s.data.toList := by
  rw [drop_end, cons_of s h]
  unfold trimS trimL
  rw [List.dropWhile_cons, if_pos hg, List.drop_one, List.tail_cons]
theorem trim_head (s : ByteArray) (h : s.size = 0 ∨ ∃ h : 0 < s.size, gapB s[0] = false) : trimR s.data.toList = trimS s.data.toList := by
  rcases h with h | ⟨h, hg⟩
  · have : s.data.toList = [] := List.eq_nil_of_length_eq_zero (by rw [len_eq]; exact h)
    rw [this]; rfl
  · unfold trimS; rw [trimL_same (head_eq s h) hg]
theorem snoc_of (s : ByteArray) (h : s.size - 1 < s.size) : s.data.toList = (s.extract 0 (s.size - 1)).data.toList ++ [s[s.size - 1]] := by
  have h1 := take_snoc s (s.size - 1) h
  rw [Lib.extract_from_zero, ← h1, List.take_of_length_le (by rw [len_eq]; omega)]
theorem trim_init (s : ByteArray) (h : s.size - 1 < s.size) (hg : gapB s[s.size - 1] = true) : trimR (s.extract 0 (s.size - 1)).data.toList = trimR s.data.toList := by
  conv => rhs; rw [snoc_of s h]
  rw [trimR_all]
  rw [List.all_cons, hg]; rfl
theorem trim_done (s : ByteArray) (h : s.size = 0 ∨ ∃ h : s.size - 1 < s.size, gapB s[s.size - 1] = false) : trimR s.data.toList = s.data.toList := by
  rcases h with h | ⟨h, hg⟩
  · have : s.data.toList = [] := List.eq_nil_of_length_eq_zero (by rw [len_eq]; exact h)
    rw [this]; rfl
  · exact trimR_same (last_eq s h) hg

set_option maxHeartbeats 2000000 in
theorem refTrim_any (l : List UInt8) (w : World) (hs : l.length < 4294967281) :
    Calls Tryd.prog 35 #[.string ⟨l.toArray⟩] w fun e w' => e = .returned (.string ⟨(trimS l).toArray⟩) ∧ w' = w := by
  go_enter Tryd.func35, Tryd.ntmps35
  go_wp2_with fail
  go_loop [0] (fun v => ∃ cur : ByteArray, v = .string cur ∧ cur.size ≤ l.length ∧ Hid (trimS cur.data.toList = trimS l)) (fun v => szOf v)
  case atStart => exact ⟨⟨l.toArray⟩, rfl, by rw [size_mk]; exact Nat.le_refl _, rfl⟩
  case round =>
    obtain ⟨cur, rfl, hcur, HT⟩ := hrel
    by_cases h0 : cur.size = 0
    · have HR : Hid (trimR cur.data.toList = trimS l) := by unfold Hid; rw [trim_head cur (.inl h0)]; exact HT.out
      have hn : ¬ (0 : Int) < (cur.size : Int) := by omega
      clear HT h0
      go_wp2_with fail
      clear hn
      go_loop [0] (fun v => ∃ cur : ByteArray, v = .string cur ∧ cur.size ≤ l.length ∧ Hid (trimR cur.data.toList = trimS l)) (fun v => szOf v)
      case atStart => exact ⟨cur, rfl, hcur, HR⟩
      case round =>
        clear hcur HR
        obtain ⟨cu2, rfl, hcu2, HR⟩ := hrel
        by_cases h0 : cu2.size = 0
        · have HF : Hid (cu2.data.toList = trimS l) := by unfold Hid; rw [← trim_done cu2 (.inl h0)]; exact HR.out
          have hn : ¬ (0 : Int) < (cu2.size : Int) := by omega
          clear HR h0
          go_wp2_with fail
          go_ret
          exact ⟨ret_str (dataEq HF.out), rfl⟩
        · have hpos : cu2.size - 1 < cu2.size := by omega
          have hposI : (0 : Int) < (cu2.size : Int) := by omega
          cases hg : gapB cu2[cu2.size - 1] with
          | true =>
            have HN : Hid (trimR (cu2.extract 0 (cu2.size - 1)).data.toList = trimS l) := by unfold Hid; rw [trim_init cu2 hpos hg]; exact HR.out
            have hsz : (cu2.extract 0 (cu2.size - 1)).size = cu2.size - 1 := by rw [ByteArray.size_extract]; omega
            rw [gap_iff] at hg
            clear HR
            cases hb : ((cu2[cu2.size - 1].toNat : Int) == 32) with
            | true =>
              clear hg
              go_wp2_with fail
              go_round
              case rel => exact ⟨_, rfl, by omega, HN⟩
              case measure => simp [szOf]; omega
            | false =>
              rw [hb, Bool.false_or] at hg
              go_wp2_with fail
              go_round
              case rel => exact ⟨_, rfl, by omega, HN⟩
              case measure => simp [szOf]; omega
          | false =>
            have HF : Hid (cu2.data.toList = trimS l) := by unfold Hid; rw [← trim_done cu2 (.inr ⟨hpos, hg⟩)]; exact HR.out
            rw [gap_iff, Bool.or_eq_false_iff] at hg
            obtain ⟨hg1, hg2⟩ := hg
            clear HR
            go_wp2_with fail
            go_ret
            exact ⟨ret_str (dataEq HF.out), rfl⟩
    · have hpos : 0 < cur.size := by omega
      have hposI : (0 : Int) < (cur.size : Int) := by omega
      cases hg : gapB cur[0] with
      | true =>
        have HN : Hid (trimS (cur.extract 1 cur.size).data.toList = trimS l) := by unfold Hid; rw [trim_tail cur hpos hg]; exact HT.out
        have hsz : (cur.extract 1 cur.size).size = cur.size - 1 := by rw [ByteArray.size_extract]; omega
        rw [gap_iff] at hg
        clear HT
        cases hb : ((cur[0].toNat : Int) == 32) with
        | true =>
          clear hg
          go_wp2_with fail
          go_round
          case rel => exact ⟨_, rfl, by omega, HN⟩
          case measure => simp [szOf]; omega
        | false =>
          rw [hb, Bool.false_or] at hg
          go_wp2_with fail
          go_round
          case rel => exact ⟨_, rfl, by omega, HN⟩
          case measure => simp [szOf]; omega
      | false =>
        have HR : Hid (trimR cur.data.toList = trimS l) := by unfold Hid; rw [trim_head cur (.inr ⟨hpos, hg⟩)]; exact HT.out
        rw [gap_iff, Bool.or_eq_false_iff] at hg
        obtain ⟨hg1, hg2⟩ := hg
        clear HT
        go_wp2_with fail
        clear hg1 hg2 hposI h0
        go_loop [0] (fun v => ∃ cur : ByteArray, v = .string cur ∧ cur.size ≤ l.length ∧ Hid (trimR cur.data.toList = trimS l)) (fun v => szOf v)
        case atStart => exact ⟨cur, rfl, hcur, HR⟩
        case round =>
          clear hcur HR
          obtain ⟨cu2, rfl, hcu2, HR⟩ := hrel
          by_cases h0 : cu2.size = 0
          · have HF : Hid (cu2.data.toList = trimS l) := by unfold Hid; rw [← trim_done cu2 (.inl h0)]; exact HR.out
            have hn : ¬ (0 : Int) < (cu2.size : Int) := by omega
            clear HR h0
            go_wp2_with fail
            go_ret
            exact ⟨ret_str (dataEq HF.out), rfl⟩
          · have hpos : cu2.size - 1 < cu2.size := by omega
            have hposI : (0 : Int) < (cu2.size : Int) := by omega
            cases hg : gapB cu2[cu2.size - 1] with
            | true =>
              have HN : Hid (trimR (cu2.extract 0 (cu2.size - 1)).data.toList = trimS l) := by unfold Hid; rw [trim_init cu2 hpos hg]; exact HR.out
              have hsz : (cu2.extract 0 (cu2.size - 1)).size = cu2.size - 1 := by rw [ByteArray.size_extract]; omega
              rw [gap_iff] at hg
              clear HR
              cases hb : ((cu2[cu2.size - 1].toNat : Int) == 32) with
              | true =>
                clear hg
                go_wp2_with fail
                go_round
                case rel => exact ⟨_, rfl, by omega, HN⟩
                case measure => simp [szOf]; omega
              | false =>
                rw [hb, Bool.false_or] at hg
                go_wp2_with fail
                go_round
                case rel => exact ⟨_, rfl, by omega, HN⟩
                case measure => simp [szOf]; omega
            | false =>
              have HF : Hid (cu2.data.toList = trimS l) := by unfold Hid; rw [← trim_done cu2 (.inr ⟨hpos, hg⟩)]; exact HR.out
              rw [gap_iff, Bool.or_eq_false_iff] at hg
              obtain ⟨hg1, hg2⟩ := hg
              clear HR
              go_wp2_with fail
              go_ret
              exact ⟨ret_str (dataEq HF.out), rfl⟩
end Go.Proofs.YtfbalmamhcbojaaDoor
