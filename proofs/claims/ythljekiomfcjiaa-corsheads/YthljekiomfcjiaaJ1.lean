/- The walks over slices.Index, slices.Contains (of integers, of texts); over package cors: named, asked, methodLet. -/
import Derived.Test.YthljekiomfcjiaaE5
import Derived.Test.YthljekiomfcjiaaH2
namespace Go.Proofs.Ythljekiomfcjiaa
open Go.RowKit Go.Proofs.Url

set_option maxHeartbeats 1000000 in
theorem indexI_any (b : Int) (ao : Option Addr) (cs : List Int) (cap : Nat) (w : World) (hq : NumsAt w ao cs) (hl : cs.length < 4294967281) :
    Calls Try.prog 33 #[.slice ao cs.length cap, .int .i64 b] w fun e w' => ∃ r : Int, e = .returned (.int .i64 r) ∧ ((cs.contains b = true ∧ 0 ≤ r) ∨ (cs.contains b = false ∧ r = -1)) ∧ w' = w := by
  have HQ := hide hq
  clear hq
  go_enter Try.func33, Try.ntmps33
  go_wp2_with fail
  go_loop [8] (fun i => ∃ k : Nat, k ≤ cs.length ∧ i = .int .i64 k ∧ Hid (∀ x ∈ cs.take k, x ≠ b)) (fun i => cs.length - (intOf i).toNat)
  case atStart => exact ⟨0, Nat.zero_le _, rfl, by intro x hx; simp at hx⟩
  case round =>
    obtain ⟨k, hk, rfl, hfree⟩ := hrel
    by_cases hlt : k < cs.length
    · obtain ⟨g, off, rfl, hc⟩ := HQ.out k hlt
      have hlI : (k : Int) < (cs.length : Int) := by omega
      by_cases he : cs[k] = b
      · have HY := hide (nums_yes hlt he)
        have hb : (b == cs[k]) = true := beq_iff_eq.2 he.symm
        clear he hfree
        go_wp2_with fail
        go_ret
        exact ⟨_, rfl, .inl ⟨by simpa using HY.out, by omega⟩, rfl⟩
      · have hb : (b == cs[k]) = false := beq_eq_false_iff_ne.2 (fun h => he h.symm)
        have HF := hide (nums_next hlt he hfree.out)
        clear he hfree
        go_wp2_with fail
        go_round
        case rel => exact ⟨k + 1, by omega, by go_num, HF⟩
        case measure => simp [intOf]; omega
    · have HN := hide (nums_no (b := b) (show cs.length ≤ k by omega) hfree.out)
      clear hfree
      go_wp2_with fail
      go_ret
      exact ⟨_, rfl, .inr ⟨by simpa using HN.out, rfl⟩, rfl⟩
set_option maxHeartbeats 1000000 in
theorem containsI_any (b : Int) (ao : Option Addr) (cs : List Int) (cap : Nat) (w : World) (hq : NumsAt w ao cs) (hl : cs.length < 4294967281) :
    Calls Try.prog 27 #[.slice ao cs.length cap, .int .i64 b] w fun e w' => e = .returned (.bool (cs.contains b)) ∧ w' = w := by
  have HQ := hide hq
  clear hq
  go_enter Try.func27, Try.ntmps27
  go_wp2_with fail
  refine (indexI_any b ao cs cap _ HQ.out hl).mono ?_
  rintro e w1 ⟨r, rfl, hr, rfl⟩
  rcases hr with ⟨hc, hr⟩ | ⟨hc, rfl⟩
  · have HC := hide hc
    clear hc
    go_wp2_with fail
    go_ret
    exact ⟨ret_bool HC.out.symm, rfl⟩
  · have HC := hide hc
    clear hc
    go_wp2_with fail
    go_ret
    exact ⟨ret_bool HC.out.symm, rfl⟩

theorem txts_yes {hs : List (List UInt8)} {k : Nat} {m : List UInt8} (h : k < hs.length) (he : hs[k] = m) : hs.contains m = true := by
  rw [List.contains_iff_mem, ← he]; exact List.getElem_mem h
theorem txts_no {hs : List (List UInt8)} {k : Nat} {m : List UInt8} (h : hs.length ≤ k) (hf : ∀ x ∈ hs.take k, x ≠ m) : hs.contains m = false := by
  rw [List.take_of_length_le h] at hf
  cases e : hs.contains m
  · rfl
  · rw [List.contains_iff_mem] at e; exact absurd rfl (hf m e)
theorem txts_next {hs : List (List UInt8)} {k : Nat} {m : List UInt8} (h : k < hs.length) (he : ¬ hs[k] = m) (hf : ∀ x ∈ hs.take k, x ≠ m) : ∀ x ∈ hs.take (k + 1), x ≠ m := by
  intro x hx
  rw [List.take_succ_eq_append_getElem h, List.mem_append, List.mem_singleton] at hx
  rcases hx with hx | rfl
  · exact hf x hx
  · exact he
set_option maxHeartbeats 1000000 in
theorem indexS_any (m : List UInt8) (ao : Option Addr) (hs : List (List UInt8)) (cap : Nat) (w : World) (hq : HeadsAt w ao hs) (hl : hs.length < 4294967281) :
    Calls Try.prog 34 #[.slice ao hs.length cap, .string ⟨m.toArray⟩] w fun e w' => ∃ r : Int, e = .returned (.int .i64 r) ∧ ((hs.contains m = true ∧ 0 ≤ r) ∨ (hs.contains m = false ∧ r = -1)) ∧ w' = w := by
  have HQ := hide hq
  clear hq
  go_enter Try.func34, Try.ntmps34
  go_wp2_with fail
  go_loop [8] (fun i => ∃ k : Nat, k ≤ hs.length ∧ i = .int .i64 k ∧ Hid (∀ x ∈ hs.take k, x ≠ m)) (fun i => hs.length - (intOf i).toNat)
  case atStart => exact ⟨0, Nat.zero_le _, rfl, by intro x hx; simp at hx⟩
  case round =>
    obtain ⟨k, hk, rfl, hfree⟩ := hrel
    by_cases hlt : k < hs.length
    · obtain ⟨g, off, rfl, hc⟩ := HQ.out k hlt
      have hlI : (k : Int) < (hs.length : Int) := by omega
      by_cases he : hs[k] = m
      · have HY := hide (txts_yes hlt he)
        have hb : (m == hs[k]) = true := beq_iff_eq.2 he.symm
        clear he hfree
        go_wp2_with fail
        go_ret
        exact ⟨_, rfl, .inl ⟨by simpa using HY.out, by omega⟩, rfl⟩
      · have hb : (m == hs[k]) = false := beq_eq_false_iff_ne.2 (fun h => he h.symm)
        have HF := hide (txts_next hlt he hfree.out)
        clear he hfree
        go_wp2_with fail
        go_round
        case rel => exact ⟨k + 1, by omega, by go_num, HF⟩
        case measure => simp [intOf]; omega
    · have HN := hide (txts_no (m := m) (show hs.length ≤ k by omega) hfree.out)
      clear hfree
      go_wp2_with fail
      go_ret
      exact ⟨_, rfl, .inr ⟨by simpa using HN.out, rfl⟩, rfl⟩
set_option maxHeartbeats 1000000 in
theorem containsS_any (m : List UInt8) (ao : Option Addr) (hs : List (List UInt8)) (cap : Nat) (w : World) (hq : HeadsAt w ao hs) (hl : hs.length < 4294967281) :
    Calls Try.prog 30 #[.slice ao hs.length cap, .string ⟨m.toArray⟩] w fun e w' => e = .returned (.bool (hs.contains m)) ∧ w' = w := by
  have HQ := hide hq
  clear hq
  go_enter Try.func30, Try.ntmps30
  go_wp2_with fail
  refine (indexS_any m ao hs cap _ HQ.out hl).mono ?_
  rintro e w1 ⟨r, rfl, hr, rfl⟩
  rcases hr with ⟨hc, hr⟩ | ⟨hc, rfl⟩
  · have HC := hide hc
    clear hc
    go_wp2_with fail
    go_ret
    exact ⟨ret_bool HC.out.symm, rfl⟩
  · have HC := hide hc
    clear hc
    go_wp2_with fail
    go_ret
    exact ⟨ret_bool HC.out.symm, rfl⟩

def namedS (cs : List Int) (b : Int) : Bool := decide (¬ b = -2 ∧ ¬ b = -3) && cs.contains b
theorem lets_named (o : Int) (any cr : Bool) (cs : List Int) (b : Int) (creds : Bool) : letsS o any cr cs b creds = (decide (b = o) || (namedS cs b && (cr || !creds)) || (any && !creds)) := by
  unfold letsS namedS
  cases decide (b = o) <;> cases any <;> cases creds <;> cases cr <;> cases decide (¬ b = -2 ∧ ¬ b = -3) <;> cases cs.contains b <;> rfl

set_option maxHeartbeats 1000000 in
theorem named_any (e : Ep) (b : Int) (w : World) (hq : EpAt w e) (hs : EpSmall e) :
    Calls Try.prog 17 #[.agg e.cells.toArray, .int .i64 b] w fun r w' => r = .returned (.bool (namedS e.cs b)) ∧ Below w.heap.size w w' := by
  have HQ := hide hq
  have SM := hide hs
  clear hq hs
  have HL : Hid (namedS e.cs b = (decide (¬ b = -2 ∧ ¬ b = -3) && e.cs.contains b)) := rfl
  generalize namedS e.cs b = res at *
  have B0 : Hid (∀ o, Below w.heap.size w (w.alloc o)) := fun o => (Below.refl _ _).alloc (Nat.le_refl _) _
  simp only [Ep.cells]
  by_cases h2 : b = -2
  · have HT : Hid (res = false) := by unfold Hid; rw [HL.out]; simp [h2]
    subst h2
    go_enter Try.func17, Try.ntmps17
    go_wp2_with fail
    go_ret
    exact ⟨ret_bool HT.out.symm, B0.out _⟩
  by_cases h3 : b = -3
  · have HT : Hid (res = false) := by unfold Hid; rw [HL.out]; simp [h3]
    clear h2
    subst h3
    go_enter Try.func17, Try.ntmps17
    go_wp2_with fail
    go_ret
    exact ⟨ret_bool HT.out.symm, B0.out _⟩
  have hb2 : (b == -2) = false := beq_eq_false_iff_ne.2 h2
  have hb3 : (b == -3) = false := beq_eq_false_iff_ne.2 h3
  have HT : Hid (res = e.cs.contains b) := by unfold Hid; rw [HL.out, decide_eq_true ⟨h2, h3⟩]; rfl
  clear h2 h3
  go_enter Try.func17, Try.ntmps17
  go_wp2_with fail
  refine (containsI_any b e.co e.cs e.cc _ (HQ.out.cs.keep (B0.out _)) SM.out.cs).mono ?_
  rintro r w1 ⟨rfl, rfl⟩
  generalize e.cs.contains b = cb at *
  go_wp2_with fail
  go_ret
  exact ⟨ret_bool HT.out.symm, B0.out _⟩

set_option maxHeartbeats 1000000 in
theorem asked_yes (e : Ep) (w : World) :
    Calls Try.prog 19 #[.agg e.cells.toArray, .bool true] w fun r w' => r = .returned (.slice e.ho e.hs.length e.hc) ∧ Below w.heap.size w w' := by
  have B0 : Hid (∀ o, Below w.heap.size w (w.alloc o)) := fun o => (Below.refl _ _).alloc (Nat.le_refl _) _
  simp only [Ep.cells]
  go_enter Try.func19, Try.ntmps19
  go_wp2_with fail
  go_ret
  exact ⟨rfl, B0.out _⟩
set_option maxHeartbeats 1000000 in
theorem asked_no (e : Ep) (w : World) :
    Calls Try.prog 19 #[.agg e.cells.toArray, .bool false] w fun r w' => r = .returned (.slice none 0 0) ∧ Below w.heap.size w w' := by
  have B0 : Hid (∀ o, Below w.heap.size w (w.alloc o)) := fun o => (Below.refl _ _).alloc (Nat.le_refl _) _
  simp only [Ep.cells]
  go_enter Try.func19, Try.ntmps19
  go_wp2_with fail
  go_ret
  exact ⟨rfl, B0.out _⟩

set_option maxHeartbeats 1000000 in
theorem methodLet_any (e : Ep) (w : World) (hq : EpAt w e) (hs : EpSmall e) :
    Calls Try.prog 21 #[.agg e.cells.toArray] w fun r w' => r = .returned (.bool (methodS e.m || e.ms.contains e.m)) ∧ Below w.heap.size w w' := by
  have HQ := hide hq
  have SM := hide hs
  clear hq hs
  have B0 : Hid (∀ o, Below w.heap.size w (w.alloc o)) := fun o => (Below.refl _ _).alloc (Nat.le_refl _) _
  have CS := hide (fun W => method_any e.m W)
  have CI := hide (fun W (h : EpAt W e) => containsS_any e.m e.mo e.ms e.mc W h.ms SM.out.ms)
  generalize methodS e.m = me at *
  generalize e.ms.contains e.m = li at *
  simp only [Ep.cells]
  go_enter Try.func21, Try.ntmps21
  go_wp2_with fail
  refine (CS.out _).mono ?_
  rintro r w1 ⟨rfl, rfl⟩
  cases me with
  | true =>
    go_wp2_with fail
    go_ret
    exact ⟨rfl, B0.out _⟩
  | false =>
    go_wp2_with fail
    refine (CI.out _ (HQ.out.keep (B0.out _))).mono ?_
    rintro r w1 ⟨rfl, rfl⟩
    go_wp2_with fail
    go_ret
    exact ⟨ret_bool (by cases li <;> rfl), B0.out _⟩
end Go.Proofs.Ythljekiomfcjiaa
