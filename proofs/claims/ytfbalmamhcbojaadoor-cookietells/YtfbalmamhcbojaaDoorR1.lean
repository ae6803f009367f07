/- Walks over moatref1: Path, label, Own, Head, Same. -/
import Derived.Test.YtfbalmamhcbojaaDoorW5
import Derived.Deep.DeepCutAuto
namespace Go.Proofs.YtfbalmamhcbojaaDoor
open Go.RowKit Go.Proofs.Url

set_option maxHeartbeats 1000000 in
set_option maxRecDepth 100000 in
theorem refPath_any (s : ByteArray) (w : World) (hs : s.size ≤ maxLen) :
    Calls Tryd.prog 19 #[.string s] w fun e w' => e = .returned (.bool (path s.data.toList)) ∧ w' = w := by
  unfold maxLen at hs
  go_enter Tryd.func19, Tryd.ntmps19
  go_wp2_with fail
  go_loop [3] (fun i => ∃ k : Nat, k ≤ s.size ∧ i = .int .i64 k ∧ Hid ((s.data.toList.take k).all pth = true)) (fun i => s.size - (intOf i).toNat)
  case atStart => exact ⟨0, Nat.zero_le _, rfl, rfl⟩
  case round =>
    obtain ⟨k, hk, rfl, hall⟩ := hrel
    by_cases hlt : k < s.size
    · have hc : s[k].toNat < 256 := s[k].toNat_lt
      have HS : Hid ((s.data.toList.take (k + 1)).all pth = ((s.data.toList.take k).all pth && pth s[k])) := all_take_succ pth s k hlt
      have HN : Hid (pth s[k] = false → path s.data.toList = false) := fun h => path_no (.inr (.inr (.inr ⟨k, hlt, h⟩)))
      go_upto_region 5 with fail
      go_cut [4, 44] (fun c t wx => c = .int .u8 s[k].toNat ∧ t = .bool (!pth s[k]) ∧ wx = w)
      case first =>
        go_wp2_with fail
        all_goals go_meet
        all_goals (case rel => exact ⟨congrArg (Value.int .u8) (by omega), congrArg Value.bool (by rw [Bool.eq_iff_iff]; simp [pth, pathI, labI, digI] at *; omega), rfl⟩)
      case rest =>
        obtain ⟨rfl, rfl, rfl⟩ := hcut
        cases hp : pth s[k]
        · have HN' := hide (HN.out hp)
          clear HN hp
          go_wp2_with fail
          go_ret
          exact ⟨ret_bool HN'.out.symm, rfl⟩
        · have HP := hide hp
          clear HN hp
          go_wp2_with fail
          go_round
          case rel => exact ⟨k + 1, by omega, by go_num, by unfold Hid; rw [HS.out, hall.out, HP.out]; rfl⟩
          case measure => simp [intOf]; omega
    · have HA : Hid (s.data.toList.all pth = true) := all_of_take pth s k (by omega) hall.out
      by_cases h1 : (1 : Int) ≤ (s.size : Int)
      · have hpos : 0 < s.size := by omega
        by_cases h60 : (s.size : Int) ≤ 60
        · have HY : Hid (path s.data.toList = ((s[0].toNat : Int) == 47)) := by
            unfold Hid
            by_cases e : s[0].toNat = 47
            · rw [path_yes hpos (by omega) e HA.out, e]; rfl
            · rw [path_no (.inr (.inr (.inl ⟨hpos, e⟩)))]; exact (beq_eq_false_iff_ne.2 (by omega)).symm
          go_wp2_with fail
          go_ret
          exact ⟨ret_bool HY.out.symm, rfl⟩
        · have HN : Hid (path s.data.toList = false) := path_no (.inr (.inl (by omega)))
          go_wp2_with fail
          go_ret
          exact ⟨ret_bool HN.out.symm, rfl⟩
      · have HN : Hid (path s.data.toList = false) := path_no (.inl (by omega))
        go_wp2_with fail
        go_ret
        exact ⟨ret_bool HN.out.symm, rfl⟩

def okI (k n c : Int) : Bool := decide (97 ≤ c ∧ c ≤ 122) || decide (48 ≤ c ∧ c ≤ 57) || decide (c = 45 ∧ 0 < k ∧ k < n - 1)
theorem ok_lab {k n c : Int} (h : okI k n c = true) : labI c = true := by unfold okI at h; unfold labI digI; simp at *; omega
theorem ok_not {s : ByteArray} {k : Nat} (hk : k < s.size) (h : okI k s.size s[k].toNat = false) : label s.data.toList = false := by
  by_cases hl : lab s[k] = false
  · exact label_no (.inr (.inr (.inr (.inr ⟨k, hk, hl⟩))))
  · have hl' : lab s[k] = true := by simpa using hl
    have h45 : s[k].toNat = 45 ∧ ¬ (0 < k ∧ k < s.size - 1) := by
      unfold okI at h; unfold lab labI digI at hl'; simp at h hl'; omega
    by_cases h0 : k = 0
    · subst h0; exact label_no (.inr (.inr (.inl ⟨hk, h45.1⟩)))
    · obtain rfl : k = s.size - 1 := by omega
      exact label_no (.inr (.inr (.inr (.inl ⟨hk, h45.1⟩))))
theorem ok_all {s : ByteArray} (h : ∀ k (hk : k < s.size), okI k s.size s[k].toNat = true) (h1 : 1 ≤ s.size) (h2 : s.size ≤ 20) : label s.data.toList = true := by
  have a := h 0 (by omega)
  have b := h (s.size - 1) (by omega)
  refine label_yes (by omega) h2 ?_ (by omega) ?_ ?_
  · intro e; unfold okI at a; rw [e] at a; simp at a
  · intro e; unfold okI at b; rw [e] at b; simp at b; omega
  · rw [List.all_eq_true]
    intro x hx
    obtain ⟨i, hi, rfl⟩ := List.getElem_of_mem hx
    have hi' : i < s.size := by simpa using hi
    exact ok_lab (h i hi')

set_option maxHeartbeats 1000000 in
set_option maxRecDepth 100000 in
theorem refLabel_any (s : ByteArray) (w : World) (hs : s.size ≤ maxLen) :
    Calls Tryd.prog 36 #[.string s] w fun e w' => e = .returned (.bool (label s.data.toList)) ∧ w' = w := by
  unfold maxLen at hs
  go_enter Tryd.func36, Tryd.ntmps36
  go_wp2_with fail
  go_loop [3] (fun i => ∃ k : Nat, k ≤ s.size ∧ i = .int .i64 k ∧ Hid (∀ j (hj : j < s.size), j < k → okI j s.size s[j].toNat = true)) (fun i => s.size - (intOf i).toNat)
  case atStart => exact ⟨0, Nat.zero_le _, rfl, fun j _ h => absurd h (by omega)⟩
  case round =>
    obtain ⟨k, hk, rfl, hall⟩ := hrel
    by_cases hlt : k < s.size
    · have hc : s[k].toNat < 256 := s[k].toNat_lt
      have HN : Hid (okI k s.size s[k].toNat = false → label s.data.toList = false) := ok_not hlt
      go_upto_region 5 with fail
      go_cut [4, 43] (fun c t wx => c = .int .u8 s[k].toNat ∧ t = .bool (!okI k s.size s[k].toNat) ∧ wx = w)
      case first =>
        go_wp2_with fail
        all_goals go_meet
        all_goals (case rel => exact ⟨congrArg (Value.int .u8) (by omega), congrArg Value.bool (by rw [Bool.eq_iff_iff]; simp [okI] at *; omega), rfl⟩)
      case rest =>
        obtain ⟨rfl, rfl, rfl⟩ := hcut
        cases hp : okI k s.size s[k].toNat
        · have HN' := hide (HN.out hp)
          clear HN hp
          go_wp2_with fail
          go_ret
          exact ⟨ret_bool HN'.out.symm, rfl⟩
        · have HP := hide hp
          clear HN hp
          go_wp2_with fail
          go_round
          case rel =>
            refine ⟨k + 1, by omega, by go_num, fun j hj hlt' => ?_⟩
            by_cases e : j = k
            · subst e; exact HP.out
            · exact hall.out j hj (by omega)
          case measure => simp [intOf]; omega
    · by_cases h1 : (1 : Int) ≤ (s.size : Int)
      · have HY : Hid (label s.data.toList = decide ((s.size : Int) ≤ 20)) := by
          unfold Hid
          by_cases e : (s.size : Int) ≤ 20
          · rw [ok_all (fun j hj => hall.out j hj (by omega)) (by omega) (by omega)]; exact (decide_eq_true e).symm
          · rw [label_no (.inr (.inl (by omega)))]; exact (decide_eq_false e).symm
        go_wp2_with fail
        all_goals go_ret
        all_goals exact ⟨ret_bool HY.out.symm, rfl⟩
      · have HN : Hid (label s.data.toList = false) := label_no (.inl (by omega))
        go_wp2_with fail
        go_ret
        exact ⟨ret_bool HN.out.symm, rfl⟩

end Go.Proofs.YtfbalmamhcbojaaDoor
