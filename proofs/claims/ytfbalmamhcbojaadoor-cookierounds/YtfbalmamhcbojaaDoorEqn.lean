/- A call that ends, panics nowhere and leaves the world as it was, as an equation: moatlaw0.Low. -/
import Derived.Test.YtfbalmamhcbojaaDoorW2
import Derived.Room.Bridge
import Derived.Barred
import Derived.KernelRfl
namespace Go.Proofs.YtfbalmamhcbojaaDoor
open Go.RowKit Go.Proofs.Url

/-- Is the first goroutine's frame not in a panic? -/
def calmM (m : Machine) : Bool := match m.gs[0]? with
  | some g => (match g.frame.mode with
    | .panicking _ => false
    | _ => true)
  | none => false
/-- So it is at each of so many steps. -/
def calmRun (P : Program) : Nat → Machine → Bool
  | 0, _ => true
  | n + 1, m => calmM m && (match step P m with
    | .next m' => calmRun P n m'
    | _ => true)
theorem calm_at {P : Program} : ∀ (N : Nat) (m : Machine) (n : Nat) (m2 : Machine), calmRun P N m = true → n < N → runN P n m = .next m2 → calmM m2 = true
  | 0, _, _, _, _, h, _ => absurd h (Nat.not_lt_zero _)
  | N + 1, m, 0, m2, hc, _, hr => by
    simp only [runN, Stepped.next.injEq] at hr
    subst hr
    simp only [calmRun, Bool.and_eq_true] at hc
    exact hc.1
  | N + 1, m, n + 1, m2, hc, hn, hr => by
    simp only [calmRun, Bool.and_eq_true] at hc
    simp only [runN] at hr
    cases hs : step P m with
    | next m' =>
      rw [hs] at hc hr
      exact calm_at N m' n m2 hc.2 (by omega) hr
    | ended o w => rw [hs] at hr; cases hr
/-- Has it ended within so many steps? -/
def endedB (P : Program) (N : Nat) (m : Machine) : Bool := match runN P N m with
  | .ended _ _ => true
  | _ => false
theorem ended_of {P : Program} {N : Nat} {m : Machine} (h : endedB P N m = true) : ∃ o w', runN P N m = .ended o w' := by
  unfold endedB at h
  split at h
  · exact ⟨_, _, by assumption⟩
  · cases h
theorem ended_one {P : Program} {a b : Nat} {m : Machine} {o o' : Outcome} {w w' : World} (h : runN P a m = .ended o w) (h' : runN P b m = .ended o' w') : o = o' ∧ w = w' := by
  have e := (runN_ended h b).symm.trans ((congrArg (fun k => runN P k m) (Nat.add_comm a b)).trans (runN_ended h' a))
  exact Stepped.ended.inj e
theorem calls_eqn {P : Program} {f : FuncId} {args : Array Value} {w : World} {v : Value} (N : Nat)
    (hE : endsUnmarked P (lone (Frame.enter P f args .normal) [] w) N = true) (hN : endedB P N (lone (Frame.enter P f args .normal) [] w) = true) (hM : calmRun P N (lone (Frame.enter P f args .normal) [] w) = true)
    (hi : P.inits.idxOf? f = none) (h : Calls P f args w fun e w' => e = .returned v ∧ w' = w) (R : Ending → World → Prop) : Calls P f args w R = R (.returned v) w := by
  refine propext ⟨fun hR => ?_, fun hr => h.mono fun e w' ⟨he, hw⟩ => by subst he; subst hw; exact hr⟩
  obtain ⟨e, w2, fr2, hr2, hc2, hf2, hl2⟩ := hR []
  obtain ⟨e1, w1, fr1, ⟨he1, hw1⟩, hc1, hf1, hl1⟩ := h []
  subst he1
  subst hw1
  obtain ⟨n1, hn1⟩ : Steps P _ _ := hc1
  have hend : ∀ {n : Nat} {fr : Frame} {w' : World} {u : Value}, runN P n (lone (Frame.enter P f args .normal) [] w1) = .next (lone fr [] w') → fr.fn = f → fr.leaving P w' (.returned u) → runN P (n + 1) (lone (Frame.enter P f args .normal) [] w1) = .ended (.done u) w' := by
    intro n fr w' u hn hf hl
    rw [runN_add, hn]
    simp only [runN]
    rw [step_leave_done hl (by rw [hf]; exact hi)]
  cases e with
  | returned v2 =>
    obtain ⟨n2, hn2⟩ : Steps P _ _ := hc2
    obtain ⟨h1, h2⟩ := ended_one (hend hn1 hf1 hl1) (hend hn2 hf2 hl2)
    cases h1
    rw [h2]
    exact hr2
  | panicked chain =>
    obtain ⟨n2, hn2⟩ : Steps P _ _ := hc2
    obtain ⟨o, wN, hN⟩ := ended_of hN
    have hlt : n2 < N := by
      apply Classical.byContradiction
      intro hge
      have := runN_ended hN (n2 - N)
      rw [show N + (n2 - N) = n2 by omega, hn2] at this
      cases this
    have := calm_at N _ n2 _ hM hlt hn2
    obtain ⟨hm, _⟩ := hl2
    simp [calmM, lone, hm] at this
  | outgrown => exact absurd hc2 (not_outgrown_of_endsUnmarked hE)
theorem lowE4 (x : Int) (w : World) (R : Ending → World → Prop) : Calls Tryd.prog 11 #[.int .i64 x, .int .i64 4] w R = R (.returned (.int .i64 (low x 4))) w :=
  calls_eqn 60 (by kernel_rfl) (by kernel_rfl) (by kernel_rfl) (by kernel_rfl) (low_any x 4 w (by decide) (by decide)) R
theorem lowE3 (x : Int) (w : World) (R : Ending → World → Prop) : Calls Tryd.prog 11 #[.int .i64 x, .int .i64 3] w R = R (.returned (.int .i64 (low x 3))) w :=
  calls_eqn 60 (by kernel_rfl) (by kernel_rfl) (by kernel_rfl) (by kernel_rfl) (low_any x 3 w (by decide) (by decide)) R
end Go.Proofs.YtfbalmamhcbojaaDoor
