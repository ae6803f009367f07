/- The walks over moatref10's told, deep. -/
import Derived.Test.YtilfdbkceiejgaaSx14
import Derived.Test.YtilfdbkceiejgaaSx5
namespace Go.Proofs.Ytilfdbkceiejgaa
open Go.RowKit Go.Proofs.Url Go.Proofs.Url.Syn

set_option maxHeartbeats 1000000 in
theorem told_any (t : Tk) (w : World) (hs : (toldS t).length < 4294967281) :
    Calls Try.prog 26 #[tokV t] w fun e w' => e = .returned (.string ⟨(toldS t).toArray⟩) ∧ Below w.heap.size w w' := by
  have B0 := hide (fun o => (Below.refl w.heap.size w).alloc (Nat.le_refl _) o)
  unfold tokV
  unfold toldS at hs ⊢
  by_cases h0 : t.kind = 0
  · clear hs
    rw [if_pos h0, h0]
    go_enter Try.func26, Try.ntmps26
    go_wp2_with fail
    go_ret
    exact ⟨rfl, B0.out _⟩
  · rw [if_neg h0]
    have b0 : ((t.kind : Int) == 0) = false := beq_eq_false_iff_ne.2 (by omega)
    by_cases h3 : t.kind = 3
    · rw [if_neg h0, if_pos h3] at hs
      rw [if_pos h3]
      have ht : t.text.length < 4294967281 := by simp at hs; omega
      clear hs
      rw [h3] at b0 ⊢
      clear h0 h3
      go_enter Try.func26, Try.ntmps26
      go_wp2_with fail
      go_ret
      exact ⟨congrArg Ending.returned (congrArg Value.string (dataEq (by simp))), B0.out _⟩
    · rw [if_neg h0, if_neg h3] at hs
      rw [if_neg h3]
      have ht : t.text.length < 4294967281 := by simp at hs; omega
      clear hs
      have b3 : ((t.kind : Int) == 3) = false := beq_eq_false_iff_ne.2 (by omega)
      clear h0 h3
      go_enter Try.func26, Try.ntmps26
      go_wp2_with fail
      go_ret
      exact ⟨congrArg Ending.returned (congrArg Value.string (dataEq (by simp))), B0.out _⟩

/-- How deep, from a place on. -/
theorem deepF_le : ∀ (l : List UInt8) (n m : Int), m ≤ deepF n m l
  | [], _, m => Int.le_refl m
  | c :: r, n, m => by unfold deepF; exact Int.le_trans (by omega) (deepF_le r _ _)
set_option maxHeartbeats 2000000 in
theorem deep_any (s : List UInt8) (w : World) (hs : s.length < 4294967281) :
    Calls Try.prog 24 #[.string ⟨s.toArray⟩] w fun e w' => e = .returned (.int .i64 (deepS s)) ∧ w' = w := by
  go_enter Try.func24, Try.ntmps24
  go_wp2_with fail
  go_loop [3, 4, 5] (fun nv mv iv => ∃ (i : Nat) (n m : Int), i ≤ s.length ∧ nv = .int .i64 n ∧ mv = .int .i64 m ∧ iv = .int .i64 i ∧ -(i : Int) ≤ n ∧ n ≤ i ∧ 0 ≤ m ∧ m ≤ i ∧ Hid (deepS s = deepF n m (s.drop i))) (fun _ _ iv => s.length - (intOf iv).toNat)
  case atStart => exact ⟨0, 0, 0, Nat.zero_le _, rfl, rfl, rfl, by omega, by omega, by omega, by omega, rfl⟩
  case round =>
    obtain ⟨i, n, m, hi, rfl, rfl, rfl, a1, a2, a3, a4, hE⟩ := hrel
    by_cases hlt : i < s.length
    · have hlI : (i : Int) < (s.length : Int) := by omega
      have hiB : i < (⟨s.toArray⟩ : ByteArray).size := by rw [size_mk]; exact hlt
      have hc : (⟨s.toArray⟩ : ByteArray)[i].toNat < 256 := (⟨s.toArray⟩ : ByteArray)[i].toNat_lt
      have hE2 : Hid (deepS s = deepF (if (⟨s.toArray⟩ : ByteArray)[i] = 40 then n + 1 else if (⟨s.toArray⟩ : ByteArray)[i] = 41 then n - 1 else n) (max m (if (⟨s.toArray⟩ : ByteArray)[i] = 40 then n + 1 else if (⟨s.toArray⟩ : ByteArray)[i] = 41 then n - 1 else n)) (s.drop (i + 1))) := by
        unfold Hid; rw [hE.out, drop_at s i hiB, deepF]
      by_cases h40 : (⟨s.toArray⟩ : ByteArray)[i].toNat = 40
      · have hN : Hid (deepS s = deepF (n + 1) (max m (n + 1)) (s.drop (i + 1))) := by
          unfold Hid; rw [hE2.out, if_pos (UInt8.toNat_inj.1 h40)]
        clear hE hE2
        go_wp2_with fail
        all_goals go_round
        all_goals (first
          | (case rel => exact ⟨i + 1, n + 1, max m (n + 1), by omega, rfl, by first | rfl | (congr 1; omega), by go_num, by omega, by omega, by omega, by omega, hN⟩)
          | skip)
        all_goals (case measure => simp [intOf]; omega)
      · have b40 : (((⟨s.toArray⟩ : ByteArray)[i].toNat : Int) == 40) = false := beq_eq_false_iff_ne.2 (by omega)
        have n40 : ¬ (⟨s.toArray⟩ : ByteArray)[i] = 40 := fun e => h40 (by rw [e]; rfl)
        by_cases h41 : (⟨s.toArray⟩ : ByteArray)[i].toNat = 41
        · have hN : Hid (deepS s = deepF (n - 1) (max m (n - 1)) (s.drop (i + 1))) := by
            unfold Hid; rw [hE2.out, if_neg n40, if_pos (UInt8.toNat_inj.1 h41)]
          clear hE hE2 n40
          go_wp2_with fail
          all_goals go_round
          all_goals (first
            | (case rel => exact ⟨i + 1, n - 1, max m (n - 1), by omega, rfl, by first | rfl | (congr 1; omega), by go_num, by omega, by omega, by omega, by omega, hN⟩)
            | skip)
          all_goals (case measure => simp [intOf]; omega)
        · have b41 : (((⟨s.toArray⟩ : ByteArray)[i].toNat : Int) == 41) = false := beq_eq_false_iff_ne.2 (by omega)
          have n41 : ¬ (⟨s.toArray⟩ : ByteArray)[i] = 41 := fun e => h41 (by rw [e]; rfl)
          have hN : Hid (deepS s = deepF n (max m n) (s.drop (i + 1))) := by
            unfold Hid; rw [hE2.out, if_neg n40, if_neg n41]
          clear hE hE2 n40 n41
          go_wp2_with fail
          all_goals go_round
          all_goals (first
            | (case rel => exact ⟨i + 1, n, max m n, by omega, rfl, by first | rfl | (congr 1; omega), by go_num, by omega, by omega, by omega, by omega, hN⟩)
            | skip)
          all_goals (case measure => simp [intOf]; omega)
    · have hN : Hid (deepS s = m) := by unfold Hid; rw [hE.out, List.drop_eq_nil_of_le (by omega), deepF]
      go_wp2_with fail
      go_ret
      exact ⟨by rw [hN.out]; rfl, rfl⟩
end Go.Proofs.Ytilfdbkceiejgaa
