/- The walk over tree.fits. -/
import Derived.Test.YtcmmjmgbanafgaaLx2
import Derived.Test.YtcmmjmgbanafgaaBut
import Derived.Test.YtcmmjmgbanafgaaTq1r
namespace Go.Proofs.Ytcmmjmgbanafgaa
open Go.RowKit Go.Proofs.Url Go.Proofs.Url.Syn

theorem fit_lits (want : List UInt8) (hp : plainW want = true) : ((want == w_NAME) = false ∧ (want == w_CAPS) = false) ∧ (want == w_TEXT) = false ∧ (want == w_orNAME) = false := by
  unfold plainW at hp
  simp only [Bool.and_eq_true, Bool.not_eq_true'] at hp
  exact ⟨⟨hp.1.1.1, hp.1.1.2⟩, hp.1.2, hp.2⟩
set_option maxHeartbeats 1000000 in
theorem fits_lit (k a : Nat) (tt want : List UInt8) (hp : plainW want = true) (w : World) :
    Calls Try.prog 91 #[.agg #[.int .i64 k, .int .i64 a, .string ⟨tt.toArray⟩], .string ⟨want.toArray⟩] w fun e w' => e = .returned (.bool ((k == 2 || k == 4) && tt == want)) ∧ Below w.heap.size w w' := by
  obtain ⟨⟨h1, h2⟩, h3, h4⟩ := fit_lits want hp
  clear hp
  by_cases k2 : k = 2
  · subst k2
    have hz : ((2 == 2 || 2 == 4) && tt == want) = (tt == want) := by simp
    rw [hz]
    go_enter Try.func91, Try.ntmps91
    go_wp2_with fail
    go_ret
    exact ⟨rfl, (Below.refl _ _).alloc (Nat.le_refl _) _⟩
  · by_cases k4 : k = 4
    · subst k4
      have hz : ((4 == 2 || 4 == 4) && tt == want) = (tt == want) := by simp
      rw [hz]
      clear k2
      go_enter Try.func91, Try.ntmps91
      go_wp2_with fail
      go_ret
      exact ⟨rfl, (Below.refl _ _).alloc (Nat.le_refl _) _⟩
    · have b2 : ((k : Int) == 2) = false := beq_eq_false_iff_ne.2 (by omega)
      have b4 : ((k : Int) == 4) = false := beq_eq_false_iff_ne.2 (by omega)
      have hz : ((k == 2 || k == 4) && tt == want) = false := by simp [k2, k4]
      rw [hz]
      clear k2 k4 hz
      go_enter Try.func91, Try.ntmps91
      go_wp2_with fail
      go_ret
      exact ⟨rfl, (Below.refl _ _).alloc (Nat.le_refl _) _⟩
set_option maxHeartbeats 1000000 in
theorem fits_name (k a : Nat) (tt : List UInt8) (w : World) :
    Calls Try.prog 91 #[.agg #[.int .i64 k, .int .i64 a, .string ⟨tt.toArray⟩], .string ⟨#[78, 65, 77, 69]⟩] w fun e w' => e = .returned (.bool (k == 1)) ∧ Below w.heap.size w w' := by
  obtain ⟨b, hb⟩ : ∃ b, b = (k == 1) := ⟨_, rfl⟩
  have hk : ((k : Int) == 1) = b := by rw [hb]; cases h : (k == 1) <;> simp_all <;> omega
  rw [← hb]
  clear hb
  go_enter Try.func91, Try.ntmps91
  go_wp2_with fail
  go_ret
  exact ⟨rfl, (Below.refl _ _).alloc (Nat.le_refl _) _⟩
set_option maxHeartbeats 1000000 in
theorem fits_caps (k a : Nat) (tt : List UInt8) (w : World) :
    Calls Try.prog 91 #[.agg #[.int .i64 k, .int .i64 a, .string ⟨tt.toArray⟩], .string ⟨#[67, 65, 80, 83]⟩] w fun e w' => e = .returned (.bool (k == 5)) ∧ Below w.heap.size w w' := by
  obtain ⟨b, hb⟩ : ∃ b, b = (k == 5) := ⟨_, rfl⟩
  have hk : ((k : Int) == 5) = b := by rw [hb]; cases h : (k == 5) <;> simp_all <;> omega
  rw [← hb]
  clear hb
  go_enter Try.func91, Try.ntmps91
  go_wp2_with fail
  go_ret
  exact ⟨rfl, (Below.refl _ _).alloc (Nat.le_refl _) _⟩
set_option maxHeartbeats 1000000 in
theorem fits_text (k a : Nat) (tt : List UInt8) (w : World) :
    Calls Try.prog 91 #[.agg #[.int .i64 k, .int .i64 a, .string ⟨tt.toArray⟩], .string ⟨#[84, 69, 88, 84]⟩] w fun e w' => e = .returned (.bool (k == 3)) ∧ Below w.heap.size w w' := by
  obtain ⟨b, hb⟩ : ∃ b, b = (k == 3) := ⟨_, rfl⟩
  have hk : ((k : Int) == 3) = b := by rw [hb]; cases h : (k == 3) <;> simp_all <;> omega
  rw [← hb]
  clear hb
  go_enter Try.func91, Try.ntmps91
  go_wp2_with fail
  go_ret
  exact ⟨rfl, (Below.refl _ _).alloc (Nat.le_refl _) _⟩
set_option maxHeartbeats 1000000 in
theorem fits_or (k a : Nat) (tt : List UInt8) (w : World) :
    Calls Try.prog 91 #[.agg #[.int .i64 k, .int .i64 a, .string ⟨tt.toArray⟩], .string ⟨#[97, 110, 121, 32, 111, 114, 32, 78, 65, 77, 69]⟩] w fun e w' => e = .returned (.bool (k == 1 || litS ⟨k, a, tt⟩ w_any)) ∧ Below w.heap.size w w' := by
  have H1 := hide (fun W => fits_name k a tt W)
  cases hb : (k == 1) with
  | true =>
    rw [hb] at H1
    clear hb
    rw [Bool.true_or]
    go_enter Try.func91, Try.ntmps91
    go_wp2_with fail
    refine (H1.out _).mono ?_
    rintro e w1 ⟨rfl, B1⟩
    have B1 := hide (((Below.refl w.heap.size w).alloc (Nat.le_refl _) _).trans (B1.mono (Nat.le_of_lt (by simp))))
    go_wp2_with fail
    go_ret
    exact ⟨rfl, B1.out⟩
  | false =>
    have H2 := hide (fun W => fits_lit k a tt w_any (by decide) W)
    rw [hb] at H1
    clear hb
    rw [Bool.false_or]
    have e : litS ⟨k, a, tt⟩ w_any = ((k == 2 || k == 4) && tt == w_any) := rfl
    rw [e]
    clear e
    generalize ((k == 2 || k == 4) && tt == w_any) = bb at *
    go_enter Try.func91, Try.ntmps91
    go_wp2_with fail
    refine (H1.out _).mono ?_
    rintro e w1 ⟨rfl, B1⟩
    have c0 : w1.cell? ⟨w.heap.size, 0, none⟩ = some (.int .i64 k) := by rw [B1.cell (p := ⟨w.heap.size, 0, none⟩) (by simp), World.cell?_alloc_new]; rfl
    have c1 : w1.cell? ⟨w.heap.size, 1, none⟩ = some (.int .i64 a) := by rw [B1.cell (p := ⟨w.heap.size, 1, none⟩) (by simp), World.cell?_alloc_new]; rfl
    have c2 : w1.cell? ⟨w.heap.size, 2, none⟩ = some (.string ⟨tt.toArray⟩) := by rw [B1.cell (p := ⟨w.heap.size, 2, none⟩) (by simp), World.cell?_alloc_new]; rfl
    have hl := World.block_lt_of_cell? w1 _ c0
    have B1 := hide (((Below.refl w.heap.size w).alloc (Nat.le_refl _) _).trans (B1.mono (Nat.le_of_lt (by simp))))
    go_wp2_with fail
    refine (H2.out _).mono ?_
    rintro e w2 ⟨rfl, B2⟩
    have B2 := hide (B1.out.trans (B2.mono B1.out.size))
    go_wp2_with fail
    go_ret
    exact ⟨rfl, B2.out⟩
theorem fits_any (t : Tk) (want : List UInt8) (w : World) :
    Calls Try.prog 91 #[.agg #[.int .i64 t.kind, .int .i64 t.at', .string ⟨t.text.toArray⟩], .string ⟨want.toArray⟩] w fun e w' => e = .returned (.bool (fitS t want)) ∧ Below w.heap.size w w' := by
  by_cases h1 : want = w_NAME
  · subst h1; rw [fit_name]; exact fits_name _ _ _ w
  by_cases h2 : want = w_CAPS
  · subst h2; rw [fit_caps]; exact fits_caps _ _ _ w
  by_cases h3 : want = w_TEXT
  · subst h3; rw [fit_text]; exact fits_text _ _ _ w
  by_cases h4 : want = w_orNAME
  · subst h4; rw [fit_orname]; exact fits_or _ _ _ w
  have hp : plainW want = true := by unfold plainW; simp [h1, h2, h3, h4]
  rw [fitS_lit hp]
  exact fits_lit _ _ _ want hp w
end Go.Proofs.Ytcmmjmgbanafgaa
