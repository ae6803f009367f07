/- Walks over package safe: Method, Known, Head, Simple. -/
import Derived.Test.YthljekiomfcjiaaH1
namespace Go.Proofs.Ythljekiomfcjiaa
open Go.RowKit Go.Proofs.Url

set_option maxHeartbeats 400000 in
theorem method_any (l : List UInt8) (w : World) :
    Calls Try.prog 28 #[.string ⟨l.toArray⟩] w fun e w' => e = .returned (.bool (methodS l)) ∧ w' = w := by
  go_enter Try.func28, Try.ntmps28
  go_wp2
  all_goals go_ret
  all_goals exact ⟨ret_bool (by simp_all [methodS, methods3, mGET, mHEAD, mPOST]), rfl⟩
set_option maxHeartbeats 400000 in
theorem head_any (l : List UInt8) (w : World) (hl : l.length < 4294967281) :
    Calls Try.prog 29 #[.string ⟨l.toArray⟩] w fun e w' => e = .returned (.bool (headS l)) ∧ Below w.heap.size w w' := by
  have HH : Hid (headS l = heads4.contains (lowerS l)) := rfl
  go_enter Try.func29, Try.ntmps29
  go_wp2_with fail
  refine (lower_any l _ hl).mono ?_
  rintro e w1 ⟨rfl, hb1⟩
  generalize lowerS l = lo at *
  go_wp2_with fail
  all_goals go_ret
  all_goals exact ⟨ret_bool (by rw [HH.out]; simp_all [heads4]), hb1⟩

set_option maxHeartbeats 1000000 in
theorem simple_any (m : List UInt8) (ao : Option Addr) (hs : List (List UInt8)) (cap : Nat) (w : World) (hq : HeadsAt w ao hs) (hl : hs.length < 4294967281) (hz : ∀ h ∈ hs, h.length < 4294967281) :
    Calls Try.prog 18 #[.string ⟨m.toArray⟩, .slice ao hs.length cap] w fun e w' => e = .returned (.bool (simpleS m hs)) ∧ Below w.heap.size w w' := by
  have HQ := hide hq
  have HZ := hide hz
  clear hq hz
  cases hm : methodS m with
  | false =>
    have HM := hide hm
    have HN : Hid (simpleS m hs = false) := by unfold Hid simpleS; rw [hm]; rfl
    clear hm
    go_enter Try.func18, Try.ntmps18
    go_wp2_with fail
    refine (method_any m _).mono ?_
    rintro e w1 ⟨rfl, rfl⟩
    rw [HM.out]
    go_wp2_with fail
    go_ret
    exact ⟨ret_bool HN.out.symm, Below.refl _ _⟩
  | true =>
    have HM := hide hm
    have HS : Hid (simpleS m hs = hs.all headS) := by unfold Hid simpleS; rw [hm]; rfl
    clear hm
    go_enter Try.func18, Try.ntmps18
    go_wp2_with fail
    refine (method_any m _).mono ?_
    rintro e w1 ⟨rfl, hw1⟩
    subst hw1
    rw [HM.out]
    go_wp2_with fail
    go_loopw [12] (fun i W => ∃ k : Nat, k ≤ hs.length ∧ i = .int .i64 k ∧ Hid ((hs.take k).all headS = true) ∧ Hid (Below w1.heap.size w1 W)) (fun i _ => hs.length - (intOf i).toNat)
    case atStart => exact ⟨0, Nat.zero_le _, rfl, rfl, Below.refl _ _⟩
    case round =>
      obtain ⟨k, hk, rfl, hall, hB⟩ := hrel
      by_cases hlt : k < hs.length
      · obtain ⟨b, off, rfl, hc⟩ := HQ.out.keep hB.out k hlt
        have hlI : (k : Int) < (hs.length : Int) := by omega
        have hzk := HZ.out hs[k] (List.getElem_mem hlt)
        cases hh : headS hs[k] with
        | true =>
          have HH := hide hh
          have HA : Hid ((hs.take (k + 1)).all headS = true) := by unfold Hid; rw [List.take_succ_eq_append_getElem hlt, List.all_append, hall.out, List.all_cons, hh]; rfl
          clear hh hall
          go_wp2_with fail
          refine (head_any hs[k] _ hzk).mono ?_
          rintro e w2 ⟨rfl, hb2⟩
          rw [HH.out]
          have B2 := hide (hB.out.trans (hb2.mono hB.out.size))
          clear hb2
          go_wp2_with fail
          refine ⟨⟨k + 1, by omega, by go_num, HA, B2⟩, by simp [intOf]; omega⟩
        | false =>
          have HH := hide hh
          have HN : Hid (simpleS m hs = false) := by unfold Hid; rw [HS.out, List.all_eq_false]; exact ⟨hs[k], List.getElem_mem hlt, by simp [hh]⟩
          clear hh hall
          go_wp2_with fail
          refine (head_any hs[k] _ hzk).mono ?_
          rintro e w2 ⟨rfl, hb2⟩
          rw [HH.out]
          have B2 := hide (hB.out.trans (hb2.mono hB.out.size))
          clear hb2
          go_wp2_with fail
          go_ret
          exact ⟨ret_bool HN.out.symm, B2.out⟩
      · have HY : Hid (simpleS m hs = true) := by
          have := hall.out
          rw [List.take_of_length_le (by omega)] at this
          unfold Hid; rw [HS.out]; exact this
        clear hall
        go_wp2_with fail
        go_ret
        exact ⟨ret_bool HY.out.symm, hB.out⟩
end Go.Proofs.Ythljekiomfcjiaa
