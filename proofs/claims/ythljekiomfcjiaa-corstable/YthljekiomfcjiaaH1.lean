/- Walks over moatref5: In, Safe, Known, Head, Simple; moatlaw0.GreatTexts. -/
import Derived.Test.YthljekiomfcjiaaS3
import Derived.Test.YthljekiomfcjiaaV3
import Derived.Test.YthljekiomfcjiaaG1
namespace Go.Proofs.Ythljekiomfcjiaa
open Go.RowKit Go.Proofs.Url

/-- A row of texts anywhere in memory, as far as a walk reads it. -/
def HeadsAt (w : World) (ao : Option Addr) (hs : List (List UInt8)) : Prop :=
  ∀ k (h : k < hs.length), ∃ b off, ao = some ⟨b, off, none⟩ ∧ w.cell? ⟨b, off + k, none⟩ = some (.string ⟨hs[k].toArray⟩)
theorem HeadsAt.keep {w w' : World} {ao : Option Addr} {hs : List (List UInt8)} (h : HeadsAt w ao hs) (hb : Below w.heap.size w w') : HeadsAt w' ao hs := by
  intro k hk
  obtain ⟨b, off, h1, h2⟩ := h k hk
  exact ⟨b, off, h1, by rw [hb.cell (World.block_lt_of_cell? w _ h2)]; exact h2⟩
theorem heads_new (w : World) (ls : List (List UInt8)) (t : TypeId) : HeadsAt (w.alloc (Obj.cells (ls.map (fun l => Value.string ⟨l.toArray⟩)).toArray t)) (some ⟨w.heap.size, 0, none⟩) ls := by
  intro k hk
  refine ⟨w.heap.size, 0, rfl, ?_⟩
  rw [Nat.zero_add]
  exact lit_cell w ls t k hk

theorem heads_own {w : World} {base : Nat} {ao : Option Addr} {cap : Nat} {qs : List (List UInt8)} (h : w.ownsRow base 9 1 (.slice ao qs.length cap) qs.length (qs.map (fun q => Value.string ⟨q.toArray⟩))) : HeadsAt w ao qs := by
  intro k hk
  rcases h.2 with ⟨hv, h0⟩ | ⟨g, cap', cur, hv, hg, hh, hn, hm, hsz, htk⟩
  · omega
  · simp only [Value.slice.injEq, true_and] at hv
    obtain ⟨rfl, rfl⟩ := hv
    refine ⟨g, 0, rfl, ?_⟩
    have : (cur.toList.take (qs.length * 1))[k]? = (qs.map (fun q => Value.string ⟨q.toArray⟩))[k]? := by rw [htk]
    rw [List.getElem?_take, if_pos (by omega)] at this
    have e : w.cell? ⟨g, 0 + k, none⟩ = cur[k]? := by simp [World.cell?, hh]
    rw [e]; simpa [hk] using this

set_option maxHeartbeats 400000 in
theorem refIn_any (l : List UInt8) (ao : Option Addr) (qs : List (List UInt8)) (cap : Nat) (w : World) (hq : HeadsAt w ao qs) (hl : qs.length < 4294967281) :
    Calls Try.prog 24 #[.string ⟨l.toArray⟩, .slice ao qs.length cap] w fun e w' => e = .returned (.bool (qs.contains l)) ∧ Below w.heap.size w w' := by
  have HQ := hide hq
  clear hq
  go_enter Try.func24, Try.ntmps24
  go_wp2_with fail
  go_loopw [5] (fun i W => ∃ k : Nat, k ≤ qs.length ∧ i = .int .i64 k ∧ Hid (∀ x ∈ qs.take k, x ≠ l) ∧ Hid (Below w.heap.size w W)) (fun i _ => qs.length - (intOf i).toNat)
  case atStart => exact ⟨0, Nat.zero_le _, rfl, by intro x hx; simp at hx, Below.refl _ _⟩
  case round =>
    obtain ⟨k, hk, rfl, hfree, hB⟩ := hrel
    by_cases hlt : k < qs.length
    · obtain ⟨b, off, rfl, hc⟩ := HQ.out.keep hB.out k hlt
      have hlI : (k : Int) < (qs.length : Int) := by omega
      by_cases he : qs[k] = l
      · have HT : Hid (qs.contains l = true) := by unfold Hid; rw [List.contains_iff_mem]; rw [← he]; exact List.getElem_mem hlt
        have hb : (qs[k] == l) = true := beq_iff_eq.2 he
        clear he hfree
        go_wp2_with fail
        go_ret
        exact ⟨ret_bool HT.out.symm, hB.out⟩
      · have hb : (qs[k] == l) = false := beq_eq_false_iff_ne.2 he
        have HF : Hid (∀ x ∈ qs.take (k + 1), x ≠ l) := by
          intro x hx
          rw [List.take_succ_eq_append_getElem hlt, List.mem_append, List.mem_singleton] at hx
          rcases hx with hx | rfl
          · exact hfree.out x hx
          · exact he
        clear he hfree
        go_wp2_with fail
        refine ⟨⟨k + 1, by omega, by go_num, HF, hB⟩, by simp [intOf]; omega⟩
    · have HN : Hid (qs.contains l = false) := by
        have := hfree.out
        rw [List.take_of_length_le (by omega)] at this
        unfold Hid
        cases h : qs.contains l
        · rfl
        · rw [List.contains_iff_mem] at h; exact absurd rfl (this l h)
      clear hfree
      go_wp2_with fail
      go_ret
      exact ⟨ret_bool HN.out.symm, hB.out⟩

set_option maxHeartbeats 400000 in
theorem refSafe_any (l : List UInt8) (w : World) :
    Calls Try.prog 23 #[.string ⟨l.toArray⟩] w fun e w' => e = .returned (.bool (methodS l)) ∧ Below w.heap.size w w' := by
  go_enter Try.func23, Try.ntmps23
  go_wp2_with fail
  refine (refIn_any l _ methods3 _ _ (heads_new w methods3 9) (by decide)).mono ?_
  rintro e w1 ⟨rfl, hb1⟩
  rw [show methods3.contains l = methodS l from rfl]
  have B1 := hide (((Below.refl _ _).alloc (Nat.le_refl _) _).trans (hb1.mono (by simp)))
  clear hb1
  go_wp2_with fail
  go_ret
  exact ⟨rfl, B1.out⟩
set_option maxHeartbeats 400000 in
theorem refHead_any5 (l : List UInt8) (w : World) (hl : l.length < 4294967281) :
    Calls Try.prog 25 #[.string ⟨l.toArray⟩] w fun e w' => e = .returned (.bool (headS l)) ∧ Below w.heap.size w w' := by
  go_enter Try.func25, Try.ntmps25
  go_wp2_with fail
  refine (refLower_any l _ hl).mono ?_
  rintro e w1 ⟨rfl, hb1⟩
  have B1 := hide hb1
  clear hb1
  go_wp2_with fail
  refine (refIn_any (lowerS l) _ heads4 _ _ (heads_new w1 heads4 9) (by decide)).mono ?_
  rintro e w2 ⟨rfl, hb2⟩
  rw [show heads4.contains (lowerS l) = headS l from rfl]
  have B2 := hide ((B1.out.alloc B1.out.size _).trans (hb2.mono (by have := B1.out.size; simp; omega)))
  clear hb2
  go_wp2_with fail
  go_ret
  exact ⟨rfl, B2.out⟩

set_option maxHeartbeats 1000000 in
theorem refSimple_any (m : List UInt8) (ao : Option Addr) (hs : List (List UInt8)) (cap : Nat) (w : World) (hq : HeadsAt w ao hs) (hl : hs.length < 4294967281) (hz : ∀ h ∈ hs, h.length < 4294967281) :
    Calls Try.prog 20 #[.string ⟨m.toArray⟩, .slice ao hs.length cap] w fun e w' => e = .returned (.bool (simpleS m hs)) ∧ Below w.heap.size w w' := by
  have HQ := hide hq
  have HZ := hide hz
  clear hq hz
  go_enter Try.func20, Try.ntmps20
  go_wp2_with fail
  go_loopw [5] (fun i W => ∃ k : Nat, k ≤ hs.length ∧ i = .int .i64 k ∧ Hid ((hs.take k).all headS = true) ∧ Hid (Below w.heap.size w W)) (fun i _ => hs.length - (intOf i).toNat)
  case atStart => exact ⟨0, Nat.zero_le _, rfl, rfl, Below.refl _ _⟩
  case round =>
    obtain ⟨k, hk, rfl, hall, hB⟩ := hrel
    by_cases hlt : k < hs.length
    · obtain ⟨b, off, rfl, hc⟩ := HQ.out.keep hB.out k hlt
      have hlI : (k : Int) < (hs.length : Int) := by omega
      have hzk := HZ.out hs[k] (List.getElem_mem hlt)
      cases hh : headS hs[k] with
      | true =>
        have HH := hide hh
        have HA : Hid ((hs.take (k + 1)).all headS = true) := by unfold Hid; rw [List.take_succ_eq_append_getElem hlt, List.all_append, hall.out, List.all_cons, hh]; rfl
        clear hh hall
        go_wp2_with fail
        refine (refHead_any5 hs[k] _ hzk).mono ?_
        rintro e w1 ⟨rfl, hb1⟩
        rw [HH.out]
        have B1 := hide (hB.out.trans (hb1.mono hB.out.size))
        clear hb1
        go_wp2_with fail
        refine ⟨⟨k + 1, by omega, by go_num, HA, B1⟩, by simp [intOf]; omega⟩
      | false =>
        have HH := hide hh
        have HN : Hid (simpleS m hs = false) := by
          have : hs.all headS = false := by rw [List.all_eq_false]; exact ⟨hs[k], List.getElem_mem hlt, by simp [hh]⟩
          unfold Hid simpleS; rw [this, Bool.and_false]
        clear hh hall
        go_wp2_with fail
        refine (refHead_any5 hs[k] _ hzk).mono ?_
        rintro e w1 ⟨rfl, hb1⟩
        rw [HH.out]
        have B1 := hide (hB.out.trans (hb1.mono hB.out.size))
        clear hb1
        go_wp2_with fail
        go_ret
        exact ⟨ret_bool HN.out.symm, B1.out⟩
    · have HY : Hid (simpleS m hs = methodS m) := by
        have := hall.out
        rw [List.take_of_length_le (by omega)] at this
        unfold Hid simpleS; rw [this, Bool.and_true]
      clear hall
      go_wp2_with fail
      refine (refSafe_any m _).mono ?_
      rintro e w1 ⟨rfl, hb1⟩
      have B1 := hide (hB.out.trans (hb1.mono hB.out.size))
      clear hb1
      go_wp2_with fail
      go_ret
      exact ⟨ret_bool HY.out.symm, B1.out⟩

/-- Are texts more than is gone through? -/
def greatS (hs : List (List UInt8)) (many long : Int) : Bool := decide (many < (hs.length : Int)) || hs.any (fun h => decide (long < (h.length : Int)))
set_option maxHeartbeats 1000000 in
theorem greatTexts_any (ao : Option Addr) (hs : List (List UInt8)) (cap : Nat) (many long : Int) (w : World) (hq : HeadsAt w ao hs) (hl : hs.length ≤ maxLen) :
    Calls Try.prog 16 #[.slice ao hs.length cap, .int .i64 many, .int .i64 long] w fun e w' => e = .returned (.bool (greatS hs many long)) ∧ Below w.heap.size w w' := by
  unfold maxLen at hl
  have HQ := hide hq
  clear hq
  by_cases hm : many < (hs.length : Int)
  · have HT : Hid (greatS hs many long = true) := by unfold Hid greatS; rw [decide_eq_true hm]; rfl
    go_enter Try.func16, Try.ntmps16
    go_wp2_with fail
    go_ret
    exact ⟨ret_bool HT.out.symm, Below.refl _ _⟩
  · have HG : Hid (greatS hs many long = hs.any (fun h => decide (long < (h.length : Int)))) := by unfold Hid greatS; rw [decide_eq_false hm]; rfl
    go_enter Try.func16, Try.ntmps16
    go_wp2_with fail
    go_loopw [7] (fun i W => ∃ k : Nat, k ≤ hs.length ∧ i = .int .i64 k ∧ Hid ((hs.take k).any (fun h => decide (long < (h.length : Int))) = false) ∧ Hid (Below w.heap.size w W)) (fun i _ => hs.length - (intOf i).toNat)
    case atStart => exact ⟨0, Nat.zero_le _, rfl, rfl, Below.refl _ _⟩
    case round =>
      obtain ⟨k, hk, rfl, hall, hB⟩ := hrel
      by_cases hlt : k < hs.length
      · obtain ⟨b, off, rfl, hc⟩ := HQ.out.keep hB.out k hlt
        have hlI : (k : Int) < (hs.length : Int) := by omega
        by_cases hg : long < (hs[k].length : Int)
        · have HT : Hid (greatS hs many long = true) := by unfold Hid; rw [HG.out, List.any_eq_true]; exact ⟨hs[k], List.getElem_mem hlt, decide_eq_true hg⟩
          clear hall
          go_wp2_with fail
          go_ret
          exact ⟨ret_bool HT.out.symm, hB.out⟩
        · have HA : Hid ((hs.take (k + 1)).any (fun h => decide (long < (h.length : Int))) = false) := by unfold Hid; rw [List.take_succ_eq_append_getElem hlt, List.any_append, hall.out]; simp [hg]
          clear hall
          go_wp2_with fail
          refine ⟨⟨k + 1, by omega, by go_num, HA, hB⟩, by simp [intOf]; omega⟩
      · have HN : Hid (greatS hs many long = false) := by
          have := hall.out
          rw [List.take_of_length_le (by omega)] at this
          unfold Hid; rw [HG.out]; exact this
        clear hall
        go_wp2_with fail
        go_ret
        exact ⟨ret_bool HN.out.symm, hB.out⟩
theorem great_no {hs : List (List UInt8)} {many long : Int} (h : greatS hs many long = false) : (hs.length : Int) ≤ many ∧ ∀ x ∈ hs, (x.length : Int) ≤ long := by
  unfold greatS at h
  rw [Bool.or_eq_false_iff] at h
  refine ⟨?_, fun x hx => ?_⟩
  · have := of_decide_eq_false h.1; omega
  · have h2 := List.any_eq_false.1 h.2 x hx
    have : ¬ long < (x.length : Int) := by simpa using h2
    omega
end Go.Proofs.Ythljekiomfcjiaa
