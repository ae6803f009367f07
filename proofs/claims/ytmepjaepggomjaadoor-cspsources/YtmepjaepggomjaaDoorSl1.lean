/- slices.Index, slices.Contains of texts, as the program has them. -/
import Derived.Test.YtmepjaepggomjaaDoorH1
namespace Go.Proofs.YtmepjaepggomjaaDoor
open Go.RowKit Go.Proofs.Url

theorem txts_yes {hs : List (List UInt8)} {k : Nat} {m : List UInt8} (h : k < hs.length) (he : hs[k] = m) : hs.contains m = true := by
  rw [List.contains_iff_mem, ← he]; exact List.getElem_mem h
theorem txts_no {hs : List (List UInt8)} {k : Nat} {m : List UInt8} (h : hs.length ≤ k) (hf : ∀ x ∈ hs.take k, x ≠ m) : hs.contains m = false := by
  rw [List.take_of_length_le h] at hf
  cases e : hs.contains m
  · rfl
  · rw [List.contains_iff_mem] at e; exact absurd rfl (hf m e)
theorem txts_next {hs : List (List UInt8)} {k : Nat} {m : List UInt8} (h : k < hs.length) (he : ¬ hs[k] = m) (hf : ∀ x ∈ hs.take k, x ≠ m) : ∀ x ∈ hs.take (k + 1), x ≠ m := by
  intro x hx
  rw [List.take_succ_eq_append_getElem h, List.mem_append, List.mem_singleton] at hx
  rcases hx with hx | rfl
  · exact hf x hx
  · exact he
set_option maxHeartbeats 1000000 in
theorem indexS_any (m : List UInt8) (ao : Option Addr) (hs : List (List UInt8)) (cap : Nat) (w : World) (hq : HeadsAt w ao hs) (hl : hs.length < 4294967281) :
    Calls Tryd.prog 28 #[.slice ao hs.length cap, .string ⟨m.toArray⟩] w fun e w' => ∃ r : Int, e = .returned (.int .i64 r) ∧ ((hs.contains m = true ∧ 0 ≤ r) ∨ (hs.contains m = false ∧ r = -1)) ∧ w' = w := by
  have HQ := hide hq
  clear hq
  go_enter Tryd.func28, Tryd.ntmps28
  go_wp2_with fail
  go_loop [8] (fun i => ∃ k : Nat, k ≤ hs.length ∧ i = .int .i64 k ∧ Hid (∀ x ∈ hs.take k, x ≠ m)) (fun i => hs.length - (intOf i).toNat)
  case atStart => exact ⟨0, Nat.zero_le _, rfl, by intro x hx; simp at hx⟩
  case round =>
    obtain ⟨k, hk, rfl, hfree⟩ := hrel
    by_cases hlt : k < hs.length
    · obtain ⟨g, off, rfl, hc⟩ := HQ.out k hlt
      have hlI : (k : Int) < (hs.length : Int) := by omega
      by_cases he : hs[k] = m
      · have HY := hide (txts_yes hlt he)
        have hb : (m == hs[k]) = true := beq_iff_eq.2 he.symm
        clear he hfree
        go_wp2_with fail
        go_ret
        exact ⟨_, rfl, .inl ⟨by simpa using HY.out, by omega⟩, rfl⟩
      · have hb : (m == hs[k]) = false := beq_eq_false_iff_ne.2 (fun h => he h.symm)
        have HF := hide (txts_next hlt he hfree.out)
        clear he hfree
        go_wp2_with fail
        go_round
        case rel => exact ⟨k + 1, by omega, by go_num, HF⟩
        case measure => simp [intOf]; omega
    · have HN := hide (txts_no (m := m) (show hs.length ≤ k by omega) hfree.out)
      clear hfree
      go_wp2_with fail
      go_ret
      exact ⟨_, rfl, .inr ⟨by simpa using HN.out, rfl⟩, rfl⟩
set_option maxHeartbeats 1000000 in
theorem containsS_any (m : List UInt8) (ao : Option Addr) (hs : List (List UInt8)) (cap : Nat) (w : World) (hq : HeadsAt w ao hs) (hl : hs.length < 4294967281) :
    Calls Tryd.prog 18 #[.slice ao hs.length cap, .string ⟨m.toArray⟩] w fun e w' => e = .returned (.bool (hs.contains m)) ∧ w' = w := by
  have HQ := hide hq
  clear hq
  go_enter Tryd.func18, Tryd.ntmps18
  go_wp2_with fail
  refine (indexS_any m ao hs cap _ HQ.out hl).mono ?_
  rintro e w1 ⟨r, rfl, hr, rfl⟩
  rcases hr with ⟨hc, hr⟩ | ⟨hc, rfl⟩
  · have HC := hide hc
    clear hc
    go_wp2_with fail
    go_ret
    exact ⟨ret_bool HC.out.symm, rfl⟩
  · have HC := hide hc
    clear hc
    go_wp2_with fail
    go_ret
    exact ⟨ret_bool HC.out.symm, rfl⟩
end Go.Proofs.YtmepjaepggomjaaDoor
