/- The walk over moatlaw5.great. -/
import Derived.Test.YthljekiomfcjiaaE2
namespace Go.Proofs.Ythljekiomfcjiaa
open Go.RowKit Go.Proofs.Url

def greatEp (e : Ep) : Bool := decide (20 < (e.m.length : Int)) || decide (8 < (e.cs.length : Int)) || greatS e.hs 6 50 || greatS e.al 6 50 || greatS e.ms 6 20
theorem greatEp_no {e : Ep} (h : greatEp e = false) : e.m.length ≤ 20 ∧ e.cs.length ≤ 8 ∧ e.hs.length ≤ 6 ∧ e.al.length ≤ 6 ∧ e.ms.length ≤ 6 ∧ (∀ x ∈ e.hs, x.length ≤ 50) ∧ (∀ x ∈ e.al, x.length ≤ 50) ∧ (∀ x ∈ e.ms, x.length ≤ 20) := by
  unfold greatEp at h
  simp only [Bool.or_eq_false_iff] at h
  obtain ⟨⟨⟨⟨h1, h2⟩, h3⟩, h4⟩, h5⟩ := h
  have a1 := of_decide_eq_false h1
  have a2 := of_decide_eq_false h2
  obtain ⟨a3, b3⟩ := great_no h3
  obtain ⟨a4, b4⟩ := great_no h4
  obtain ⟨a5, b5⟩ := great_no h5
  exact ⟨by omega, by omega, by omega, by omega, by omega, fun x hx => by have := b3 x hx; omega, fun x hx => by have := b4 x hx; omega, fun x hx => by have := b5 x hx; omega⟩

set_option maxHeartbeats 2000000 in
set_option maxRecDepth 100000 in
theorem great_any (e : Ep) (w : World) (hq : EpAt w e) (hl2 : e.hs.length ≤ maxLen) (hl3 : e.al.length ≤ maxLen) (hl4 : e.ms.length ≤ maxLen) :
    Calls Try.prog 7 #[e.v] w fun r w' => r = .returned (.bool (greatEp e)) ∧ Below w.heap.size w w' := by
  have HQ := hide hq
  clear hq
  have B0 : Hid (∀ o, Below w.heap.size w (w.alloc o)) := fun o => (Below.refl _ _).alloc (Nat.le_refl _) _
  have C1 := hide (fun W (h : EpAt W e) => greatTexts_any e.ho e.hs e.hc 6 50 W h.hs hl2)
  have C2 := hide (fun W (h : EpAt W e) => greatTexts_any e.lo e.al e.lc 6 50 W h.al hl3)
  have C3 := hide (fun W (h : EpAt W e) => greatTexts_any e.mo e.ms e.mc 6 20 W h.ms hl4)
  have HR : Hid (greatEp e = (decide (20 < (e.m.length : Int)) || decide (8 < (e.cs.length : Int)) || greatS e.hs 6 50 || greatS e.al 6 50 || greatS e.ms 6 20)) := rfl
  have RG := hide (range_new w e.cells 25)
  generalize greatEp e = res at *
  generalize greatS e.hs 6 50 = g1 at *
  generalize greatS e.al 6 50 = g2 at *
  generalize greatS e.ms 6 20 = g3 at *
  clear hl2 hl3 hl4
  simp only [Ep.v]
  by_cases h1 : 20 < (e.m.length : Int)
  · have HT : Hid (res = true) := by unfold Hid; rw [HR.out, decide_eq_true h1]; rfl
    go_enter Try.func7, Try.ntmps7
    go_wp2_with fail
    go_ret
    exact ⟨ret_bool HT.out.symm, B0.out _⟩
  by_cases h2 : 8 < (e.cs.length : Int)
  · have HT : Hid (res = true) := by unfold Hid; rw [HR.out, decide_eq_true h2]; simp
    go_enter Try.func7, Try.ntmps7
    go_wp2_with fail
    go_ret
    exact ⟨ret_bool HT.out.symm, B0.out _⟩
  have HG : Hid (res = (g1 || g2 || g3)) := by unfold Hid; rw [HR.out, decide_eq_false h1, decide_eq_false h2]; simp
  go_enter Try.func7, Try.ntmps7
  go_wp2_with fail
  refine (C1.out _ (HQ.out.keep (B0.out _))).mono ?_
  rintro r w1 ⟨rfl, hb1⟩
  have B1 := hide ((B0.out _).trans (hb1.mono (B0.out _).size))
  have Q1 := hide ((HQ.out.keep (B0.out _)).keep hb1)
  have R1 := hide (range_keep RG.out hb1 (by simp))
  have hg1 : w.heap.size < w1.heap.size := by have := hb1.size; simp at this; omega
  have c18 := range_cell R1.out 18 _ rfl
  clear hb1
  cases g1 with
  | true =>
    have HT : Hid (res = true) := by unfold Hid; rw [HG.out]; simp
    go_wp2_with fail
    go_ret
    exact ⟨ret_bool HT.out.symm, B1.out⟩
  | false =>
    go_wp2_with fail
    refine (C2.out _ Q1.out).mono ?_
    rintro r w2 ⟨rfl, hb2⟩
    have B2 := hide (B1.out.trans (hb2.mono B1.out.size))
    have Q2 := hide (Q1.out.keep hb2)
    have R2 := hide (range_keep R1.out hb2 hg1)
    have c19 := range_cell R2.out 19 _ rfl
    have hg2 : w.heap.size < w2.heap.size := by have := hb2.size; omega
    clear hb2 c18
    cases g2 with
    | true =>
      have HT : Hid (res = true) := by unfold Hid; rw [HG.out]; simp
      go_wp2_with fail
      go_ret
      exact ⟨ret_bool HT.out.symm, B2.out⟩
    | false =>
      have HT : Hid (res = g3) := by unfold Hid; rw [HG.out]; simp
      go_wp2_with fail
      refine (C3.out _ Q2.out).mono ?_
      rintro r w3 ⟨rfl, hb3⟩
      have B3 := hide (B2.out.trans (hb3.mono B2.out.size))
      clear hb3
      go_wp2_with fail
      go_ret
      exact ⟨ret_bool HT.out.symm, B3.out⟩
end Go.Proofs.Ythljekiomfcjiaa
