/- Walks over package jar: pathFits, onlyReads, isIn. -/
import Derived.Test.YtlmchmhdojkokaaDoorW1
import Derived.Test.YtlmchmhdojkokaaDoorT1
namespace Go.Proofs.YtlmchmhdojkokaaDoor
open Go.RowKit Go.Proofs.Url

theorem len_mk (l : List UInt8) : (⟨l.toArray⟩ : ByteArray).size = l.length := by simp [ByteArray.size]
theorem take_ext (l : List UInt8) (n : Nat) : ((⟨l.toArray⟩ : ByteArray).extract 0 n).toList = l.take n := by
  rw [ByteArray.toList_eq, Lib.extract_data]; simp

set_option maxHeartbeats 1000000 in
theorem pathFits_any (t p : List UInt8) (w : World) (hp : p.length < 4294967281) :
    Calls Tryd.prog 19 #[.string ⟨t.toArray⟩, .string ⟨p.toArray⟩] w fun e w' => e = .returned (.bool (pathJ t p)) ∧ w' = w := by
  go_enter Tryd.func19, Tryd.ntmps19
  go_wp2_with fail
  go_loop [8] (fun i => ∃ k : Nat, k ≤ p.length ∧ i = .int .i64 k ∧ Hid ((List.range k).any (hitJ t p) = false)) (fun i => p.length - (intOf i).toNat)
  case atStart => exact ⟨0, Nat.zero_le _, rfl, rfl⟩
  case round =>
    obtain ⟨k, hk, rfl, hno⟩ := hrel
    by_cases hlt : k < p.length
    · have hlI : (k : Int) < (p.length : Int) := by omega
      have hkB : k < (⟨p.toArray⟩ : ByteArray).size := by rw [len_mk]; exact hlt
      have hpk : p[k]? = some ((⟨p.toArray⟩ : ByteArray)[k]) := by rw [List.getElem?_eq_getElem hlt]; rfl
      have hc : (⟨p.toArray⟩ : ByteArray)[k].toNat < 256 := (⟨p.toArray⟩ : ByteArray)[k].toNat_lt
      by_cases h47 : (⟨p.toArray⟩ : ByteArray)[k].toNat = 47
      · have hc47 : p[k]? = some 47 := by rw [hpk, show (⟨p.toArray⟩ : ByteArray)[k] = 47 from UInt8.toNat_inj.1 h47]
        have HT := hide (hit_at (top := t) hc47)
        by_cases e1 : p.take k = t
        · have HY := hide (path_hit hlt (show hitJ t p k = true by rw [HT.out]; simp [e1]))
          have hb : (((⟨p.toArray⟩ : ByteArray)[k].toNat : Int) == 47) = true := beq_iff_eq.2 (by omega)
          have hb1 : (((⟨p.toArray⟩ : ByteArray).extract 0 k).toList == t) = true := by rw [take_ext]; exact beq_iff_eq.2 e1
          clear h47 hpk hc47 e1 HT hno
          go_wp2_with fail
          go_ret
          exact ⟨ret_bool HY.out.symm, rfl⟩
        have hb1 : (((⟨p.toArray⟩ : ByteArray).extract 0 k).toList == t) = false := by rw [take_ext]; exact beq_eq_false_iff_ne.2 e1
        have hb : (((⟨p.toArray⟩ : ByteArray)[k].toNat : Int) == 47) = true := beq_iff_eq.2 (by omega)
        by_cases e2 : p.take (k + 1) = t
        · have HY := hide (path_hit hlt (show hitJ t p k = true by rw [HT.out]; simp [e2]))
          have hb2 : (((⟨p.toArray⟩ : ByteArray).extract 0 (k + 1)).toList == t) = true := by rw [take_ext]; exact beq_iff_eq.2 e2
          clear h47 hpk hc47 e1 e2 HT hno
          go_wp2_with fail
          go_ret
          exact ⟨ret_bool HY.out.symm, rfl⟩
        · have HN := hide (hits_next hno.out (show hitJ t p k = false by rw [HT.out]; simp [e1, e2]))
          have hb2 : (((⟨p.toArray⟩ : ByteArray).extract 0 (k + 1)).toList == t) = false := by rw [take_ext]; exact beq_eq_false_iff_ne.2 e2
          clear h47 hpk hc47 e1 e2 HT hno
          go_wp2_with fail
          go_round
          case rel => exact ⟨k + 1, by omega, by go_num, HN⟩
          case measure => simp [intOf]; omega
      · have HN := hide (hits_next hno.out (hit_no (top := t) hpk (fun e => h47 (by rw [e]; rfl))))
        have hb : (((⟨p.toArray⟩ : ByteArray)[k].toNat : Int) == 47) = false := beq_eq_false_iff_ne.2 (by omega)
        clear h47 hpk hno
        go_wp2_with fail
        go_round
        case rel => exact ⟨k + 1, by omega, by go_num, HN⟩
        case measure => simp [intOf]; omega
    · have HE := hide (path_end (by omega) hno.out)
      go_wp2_with fail
      go_ret
      exact ⟨ret_bool (by rw [HE.out, Bool.beq_eq_decide_eq]), rfl⟩

set_option maxHeartbeats 400000 in
theorem onlyReads_any (m : List UInt8) (w : World) :
    Calls Tryd.prog 21 #[.string ⟨m.toArray⟩] w fun e w' => e = .returned (.bool (readsJ m)) ∧ w' = w := by
  go_enter Tryd.func21, Tryd.ntmps21
  go_wp2
  all_goals go_ret
  all_goals exact ⟨ret_bool (by unfold readsJ getT headT; simp only [← Bool.beq_eq_decide_eq]; try simp_all), rfl⟩

set_option maxHeartbeats 400000 in
theorem isIn_any (n : Int) (ao : Option Addr) (len cap : Nat) (w : World) :
    Calls Tryd.prog 22 #[.int .i64 n, .slice ao len cap] w fun e w' => e = .returned (.bool (decide (0 ≤ n ∧ n < len))) ∧ w' = w := by
  go_enter Tryd.func22, Tryd.ntmps22
  go_wp2
  all_goals go_ret
  all_goals exact ⟨ret_bool (by simp; try omega), rfl⟩
end Go.Proofs.YtlmchmhdojkokaaDoor
