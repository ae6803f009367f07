/- A value of type api.Endpoint; the walk over moatref5.Lets. -/
import Derived.Test.YthljekiomfcjiaaH1
import Derived.Test.YthljekiomfcjiaaG2
import Derived.Deep.QuietTactic
import Derived.BigQuiet
import Derived.BigRegion
namespace Go.Proofs.Ythljekiomfcjiaa
open Go.RowKit Go.Proofs.Url

/-- A row of integers anywhere in memory, as far as a walk reads it. -/
def NumsAt (w : World) (ao : Option Addr) (cs : List Int) : Prop :=
  ∀ k (h : k < cs.length), ∃ b off, ao = some ⟨b, off, none⟩ ∧ w.cell? ⟨b, off + k, none⟩ = some (.int .i64 cs[k])
theorem NumsAt.keep {w w' : World} {ao : Option Addr} {cs : List Int} (h : NumsAt w ao cs) (hb : Below w.heap.size w w') : NumsAt w' ao cs := by
  intro k hk
  obtain ⟨b, off, h1, h2⟩ := h k hk
  exact ⟨b, off, h1, by rw [hb.cell (World.block_lt_of_cell? w _ h2)]; exact h2⟩
/-- What a walk reads of an endpoint: the other fields are whatever they are. -/
structure Ep where
  (v0 v3 v4 v5 v6 v7 v9 v10 v11 v12 v13 v14 v20 : Value)
  (o : Int)
  (m : List UInt8)
  (hs al ms : List (List UInt8))
  (any cr : Bool)
  (cs : List Int)
  (ho co lo mo : Option Addr)
  (hc cc lc mc : Nat)
def Ep.v (e : Ep) : Value := .agg #[e.v0, .int .i64 e.o, .string ⟨e.m.toArray⟩, e.v3, e.v4, e.v5, e.v6, e.v7, .slice e.ho e.hs.length e.hc, e.v9, e.v10, e.v11, e.v12, e.v13, e.v14, .bool e.any, .bool e.cr, .slice e.co e.cs.length e.cc, .slice e.lo e.al.length e.lc, .slice e.mo e.ms.length e.mc, e.v20]
/-- The rows that it names lie in memory. -/
structure EpAt (w : World) (e : Ep) : Prop where
  hs : HeadsAt w e.ho e.hs
  al : HeadsAt w e.lo e.al
  ms : HeadsAt w e.mo e.ms
  cs : NumsAt w e.co e.cs
theorem EpAt.keep {w w' : World} {e : Ep} (h : EpAt w e) (hb : Below w.heap.size w w') : EpAt w' e := ⟨h.hs.keep hb, h.al.keep hb, h.ms.keep hb, h.cs.keep hb⟩

theorem lets_scan {o : Int} {any cr : Bool} {cs : List Int} {b : Int} {creds : Bool} (h1 : ¬ b = o) (h2 : ¬ b = -2) (h3 : ¬ b = -3) : letsS o any cr cs b creds = ((any && !creds) || (cs.contains b && (!creds || cr))) := by
  unfold letsS
  rw [decide_eq_false h1, decide_eq_true ⟨h2, h3⟩]; simp

theorem lets_none {o : Int} {any cr : Bool} {cs : List Int} {b : Int} {creds : Bool} (h1 : ¬ b = o) (h2 : b = -2 ∨ b = -3) : letsS o any cr cs b creds = (any && !creds) := by
  unfold letsS
  rw [decide_eq_false h1, decide_eq_false (by omega)]; simp
theorem nums_yes {cs : List Int} {k : Nat} {b : Int} (h : k < cs.length) (he : cs[k] = b) : cs.contains b = true := by
  rw [List.contains_iff_mem, ← he]; exact List.getElem_mem h
theorem nums_no {cs : List Int} {k : Nat} {b : Int} (h : cs.length ≤ k) (hf : ∀ x ∈ cs.take k, x ≠ b) : cs.contains b = false := by
  rw [List.take_of_length_le h] at hf
  cases e : cs.contains b
  · rfl
  · rw [List.contains_iff_mem] at e; exact absurd rfl (hf b e)
theorem nums_next {cs : List Int} {k : Nat} {b : Int} (h : k < cs.length) (he : ¬ cs[k] = b) (hf : ∀ x ∈ cs.take k, x ≠ b) : ∀ x ∈ cs.take (k + 1), x ≠ b := by
  intro x hx
  rw [List.take_succ_eq_append_getElem h, List.mem_append, List.mem_singleton] at hx
  rcases hx with hx | rfl
  · exact hf x hx
  · exact he

set_option maxHeartbeats 1000000 in
theorem refLets_any (e : Ep) (b : Int) (creds : Bool) (w : World) (hq : EpAt w e) (hl : e.cs.length < 4294967281) :
    Calls Try.prog 10 #[e.v, .int .i64 b, .bool creds] w fun r w' => r = .returned (.bool (letsS e.o e.any e.cr e.cs b creds)) ∧ Below w.heap.size w w' := by
  have HC := hide (hq.cs)
  clear hq
  rcases e with ⟨v0, v3, v4, v5, v6, v7, v9, v10, v11, v12, v13, v14, v20, o, m, hs, al, ms, any, cr, cs, ho, co, lo, mo, hc, cc, lc, mc⟩
  simp only at hl HC
  simp only [Ep.v]
  have B0 : Hid (∀ o, Below w.heap.size w (w.alloc o)) := fun o => (Below.refl _ _).alloc (Nat.le_refl _) _
  by_cases h1 : b = o
  · have HT : Hid (letsS o any cr cs b creds = true) := by unfold Hid letsS; rw [decide_eq_true h1]; rfl
    have hb : (b == o) = true := beq_iff_eq.2 h1
    clear h1
    go_enter Try.func10, Try.ntmps10
    go_wp2_with fail
    go_ret
    exact ⟨ret_bool HT.out.symm, B0.out _⟩
  have hb : (b == o) = false := beq_eq_false_iff_ne.2 h1
  by_cases h2 : b = -2
  · have HT : Hid (letsS o any cr cs b creds = (any && !creds)) := lets_none h1 (.inl h2)
    clear h1
    subst h2
    go_enter Try.func10, Try.ntmps10
    cases any <;> cases creds
    all_goals go_wp2_with fail
    all_goals go_ret
    all_goals exact ⟨ret_bool HT.out.symm, B0.out _⟩
  by_cases h3 : b = -3
  · have HT : Hid (letsS o any cr cs b creds = (any && !creds)) := lets_none h1 (.inr h3)
    clear h1 h2
    subst h3
    go_enter Try.func10, Try.ntmps10
    cases any <;> cases creds
    all_goals go_wp2_with fail
    all_goals go_ret
    all_goals exact ⟨ret_bool HT.out.symm, B0.out _⟩
  have hb2 : (b == -2) = false := beq_eq_false_iff_ne.2 h2
  have hb3 : (b == -3) = false := beq_eq_false_iff_ne.2 h3
  have HS : Hid (letsS o any cr cs b creds = ((any && !creds) || (cs.contains b && (!creds || cr)))) := lets_scan h1 h2 h3
  clear h1 h2 h3
  go_enter Try.func10, Try.ntmps10
  go_wp2_with fail
  go_loop [7] (fun i => ∃ k : Nat, k ≤ cs.length ∧ i = .int .i64 k ∧ Hid (∀ x ∈ cs.take k, x ≠ b)) (fun i => cs.length - (intOf i).toNat)
  case atStart => exact ⟨0, Nat.zero_le _, rfl, by intro x hx; simp at hx⟩
  case round =>
    obtain ⟨k, hk, rfl, hfree⟩ := hrel
    by_cases hlt : k < cs.length
    · obtain ⟨g, off, rfl, hcell⟩ := HC.out k hlt
      have hgz : g < w.heap.size := World.block_lt_of_cell? w _ hcell
      have hlI : (k : Int) < (cs.length : Int) := by omega
      by_cases he : cs[k] = b
      · have HY := hide (nums_yes hlt he)
        have hbe : (cs[k] == b) = true := beq_iff_eq.2 he
        clear he hfree
        rw [HY.out] at HS
        cases any <;> cases creds <;> cases cr
        all_goals go_wp2_with fail
        all_goals go_ret
        all_goals exact ⟨ret_bool HS.out.symm, B0.out _⟩
      · have hbe : (cs[k] == b) = false := beq_eq_false_iff_ne.2 he
        have HF := hide (nums_next hlt he hfree.out)
        clear he hfree
        go_wp2_with fail
        go_round
        case rel => exact ⟨k + 1, by omega, by go_num, HF⟩
        case measure => simp [intOf]; omega
    · have HN := hide (nums_no (b := b) (show cs.length ≤ k by omega) hfree.out)
      clear hfree
      rw [HN.out] at HS
      cases any <;> cases creds
      all_goals go_wp2_with fail
      all_goals go_ret
      all_goals exact ⟨ret_bool (by rw [HS.out]; simp), B0.out _⟩

set_option maxHeartbeats 1000000 in
theorem refAhead_any (e : Ep) (b : Int) (heads : Bool) (w : World) (hq : EpAt w e) (hl : e.hs.length < 4294967281) (hz : ∀ h ∈ e.hs, h.length < 4294967281) :
    Calls Try.prog 12 #[e.v, .int .i64 b, .bool heads] w fun r w' => r = .returned (.bool (aheadS e.o e.m e.hs b heads)) ∧ Below w.heap.size w w' := by
  have HH := hide (hq.hs)
  have HZ := hide hz
  clear hq hz
  rcases e with ⟨v0, v3, v4, v5, v6, v7, v9, v10, v11, v12, v13, v14, v20, o, m, hs, al, ms, any, cr, cs, ho, co, lo, mo, hc, cc, lc, mc⟩
  simp only at hl HH HZ
  simp only [Ep.v]
  have B0 : Hid (∀ o, Below w.heap.size w (w.alloc o)) := fun o => (Below.refl _ _).alloc (Nat.le_refl _) _
  by_cases h1 : b = o
  · have HT : Hid (aheadS o m hs b heads = false) := by unfold Hid aheadS; rw [decide_eq_true h1]; rfl
    have hb : (b != o) = false := by simp [h1]
    clear h1
    go_enter Try.func12, Try.ntmps12
    cases heads
    all_goals go_wp2_with fail
    all_goals go_ret
    all_goals exact ⟨ret_bool HT.out.symm, B0.out _⟩
  have hb : (b != o) = true := by simp [h1]
  cases heads with
  | true =>
    have HT : Hid (aheadS o m hs b true = !simpleS m hs) := by unfold Hid aheadS; rw [decide_eq_false h1]; simp
    clear h1
    go_enter Try.func12, Try.ntmps12
    go_wp2_with fail
    refine (refSimple_any m ho hs hc _ (HH.out.keep (B0.out _)) hl HZ.out).mono ?_
    rintro e w1 ⟨rfl, hb1⟩
    have B1 := hide ((B0.out _).trans (hb1.mono (B0.out _).size))
    clear hb1
    generalize simpleS m hs = ss at *
    go_wp2_with fail
    go_ret
    exact ⟨ret_bool HT.out.symm, B1.out⟩
  | false =>
    have HT : Hid (aheadS o m hs b false = !simpleS m []) := by unfold Hid aheadS; rw [decide_eq_false h1]; simp
    clear h1
    go_enter Try.func12, Try.ntmps12
    go_wp2_with fail
    refine (refSimple_any m none [] 0 _ (fun k hk => by simp at hk) (by decide) (fun h hh => by simp at hh)).mono ?_
    rintro e w1 ⟨rfl, hb1⟩
    have B1 := hide ((B0.out _).trans (hb1.mono (B0.out _).size))
    clear hb1
    generalize simpleS m [] = ss at *
    go_wp2_with fail
    go_ret
    exact ⟨ret_bool HT.out.symm, B1.out⟩
end Go.Proofs.Ythljekiomfcjiaa
