/- The walk over moatlaw7.CookieBad (text by make/l24.py). -/
import Derived.Test.YtfbalmamhcbojaaDoorY9
import Derived.BigRegion
namespace Go.Proofs.YtfbalmamhcbojaaDoor
open Go.RowKit Go.Proofs.Url

theorem bad16_at (s : Nat) (h : s < 16) : [Value.string ⟨#[83, 101, 99, 117, 114, 101, 61]⟩, .string ⟨#[83, 101, 99, 117, 114, 101, 61, 49]⟩, .string ⟨#[72, 116, 116, 112, 79, 110, 108, 121, 61, 120]⟩, .string ⟨#[83, 97, 109, 101, 83, 105, 116, 101]⟩, .string ⟨#[83, 97, 109, 101, 83, 105, 116, 101, 61]⟩, .string ⟨#[83, 97, 109, 101, 83, 105, 116, 101, 61, 110, 111]⟩, .string ⟨#[80, 97, 116, 104]⟩, .string ⟨#[80, 97, 116, 104, 61, 120]⟩, .string ⟨#[80, 97, 116, 104, 61, 47, 65]⟩, .string ⟨#[68, 111, 109, 97, 105, 110, 61]⟩, .string ⟨#[68, 111, 109, 97, 105, 110, 61, 116, 101, 115, 116]⟩, .string ⟨#[68, 111, 109, 97, 105, 110, 61, 98, 46, 116, 101, 115, 116]⟩, .string ⟨#[68, 111, 109, 97, 105, 110, 61, 99, 46, 97, 46, 116, 101, 115, 116]⟩, .string ⟨#[77, 97, 120, 45, 65, 103, 101, 61, 53]⟩, .string ⟨#[61, 120]⟩, .string ⟨#[83, 97, 109, 101, 83, 105, 116, 101, 61, 78, 111, 110, 101]⟩][s] = .string ⟨(bad16.getD s []).toArray⟩ := by
  match s, h with
  | 0, _ => rfl
  | 1, _ => rfl
  | 2, _ => rfl
  | 3, _ => rfl
  | 4, _ => rfl
  | 5, _ => rfl
  | 6, _ => rfl
  | 7, _ => rfl
  | 8, _ => rfl
  | 9, _ => rfl
  | 10, _ => rfl
  | 11, _ => rfl
  | 12, _ => rfl
  | 13, _ => rfl
  | 14, _ => rfl
  | 15, _ => rfl
  | n + 16, h => exact absurd h (by omega)
theorem oth4_at (s : Nat) (h : s < 4) : [Value.string ⟨#[]⟩, .string ⟨#[59, 32, 72, 116, 116, 112, 79, 110, 108, 121]⟩, .string ⟨#[59, 32, 80, 97, 116, 104, 61, 47, 120]⟩, .string ⟨#[59, 32, 68, 111, 109, 97, 105, 110, 61, 97, 46, 116, 101, 115, 116]⟩][s] = .string ⟨(oth4.getD s []).toArray⟩ := by
  match s, h with
  | 0, _ => rfl
  | 1, _ => rfl
  | 2, _ => rfl
  | 3, _ => rfl
  | n + 4, h => exact absurd h (by omega)
def badC (k b : Nat) : Bool := decide ((k = 2 ∧ b = 1) ∨ (6 ≤ k ∧ k ≤ 8 ∧ b = 2) ∨ (9 ≤ k ∧ k ≤ 12 ∧ b = 3))
theorem oth_yes {k b : Nat} (h : badC k b = true) : othB k b = [] := by unfold othB; exact if_pos (of_decide_eq_true h)
theorem oth_no {k b : Nat} (h : badC k b = false) : othB k b = oth4.getD b [] := by unfold othB; exact if_neg (of_decide_eq_false h)

set_option maxHeartbeats 2000000 in
set_option maxRecDepth 100000 in
theorem cookieBad_walk (which beside : Int) (w : World) (henv : Env w) :
    Calls Tryd.prog 5 #[.int .i64 which, .int .i64 beside] w fun r w' => r = .returned (.bool true) ∧ Below w.heap.size w w' := by
  have HE := hide henv
  clear henv
  obtain ⟨k, hk, hk16⟩ := low_nat which 16 (by decide)
  obtain ⟨b, hb, hb4⟩ := low_nat beside 4 (by decide)
  have HT := hide (bad_tells ⟨k, hk16⟩ ⟨b, hb4⟩)
  simp only at HT
  have HLk : Hid (low which 16 = (k : Int)) := hk
  have hLb : low beside 4 = (b : Int) := hb
  have i1 : (k : Int) < 16 := by omega
  have i2 : (b : Int) < 4 := by omega
  clear hk hb
  have l1 := bad16_at k hk16
  have l2 := oth4_at b hb4
  go_enter Tryd.func5, Tryd.ntmps5
  go_wp2_with fail
  refine (low_any _ _ _ (by decide) (by decide)).mono ?_
  rintro r w1 ⟨rfl, hw⟩
  subst hw
  rw [show low which 16 = (k : Int) from HLk.out]
  go_wp2_with fail
  refine (low_any _ _ _ (by decide) (by decide)).mono ?_
  rintro r w1 ⟨rfl, hw⟩
  subst hw
  rw [hLb]
  go_upto_region 4 with fail
  obtain ⟨W0, hW0⟩ : ∃ W0, W0 = (w.alloc (Obj.cells #[.string ⟨#[83, 101, 99, 117, 114, 101, 61]⟩, .string ⟨#[83, 101, 99, 117, 114, 101, 61, 49]⟩, .string ⟨#[72, 116, 116, 112, 79, 110, 108, 121, 61, 120]⟩, .string ⟨#[83, 97, 109, 101, 83, 105, 116, 101]⟩, .string ⟨#[83, 97, 109, 101, 83, 105, 116, 101, 61]⟩, .string ⟨#[83, 97, 109, 101, 83, 105, 116, 101, 61, 110, 111]⟩, .string ⟨#[80, 97, 116, 104]⟩, .string ⟨#[80, 97, 116, 104, 61, 120]⟩, .string ⟨#[80, 97, 116, 104, 61, 47, 65]⟩, .string ⟨#[68, 111, 109, 97, 105, 110, 61]⟩, .string ⟨#[68, 111, 109, 97, 105, 110, 61, 116, 101, 115, 116]⟩, .string ⟨#[68, 111, 109, 97, 105, 110, 61, 98, 46, 116, 101, 115, 116]⟩, .string ⟨#[68, 111, 109, 97, 105, 110, 61, 99, 46, 97, 46, 116, 101, 115, 116]⟩, .string ⟨#[77, 97, 120, 45, 65, 103, 101, 61, 53]⟩, .string ⟨#[61, 120]⟩, .string ⟨#[83, 97, 109, 101, 83, 105, 116, 101, 61, 78, 111, 110, 101]⟩] 9)).alloc (Obj.cells #[.string ⟨#[]⟩, .string ⟨#[59, 32, 72, 116, 116, 112, 79, 110, 108, 121]⟩, .string ⟨#[59, 32, 80, 97, 116, 104, 61, 47, 120]⟩, .string ⟨#[59, 32, 68, 111, 109, 97, 105, 110, 61, 97, 46, 116, 101, 115, 116]⟩] 9) := ⟨_, rfl⟩
  rw [← hW0]
  have B0 : Hid (Below w.heap.size w W0) := by unfold Hid; rw [hW0]; exact ((Below.refl _ _).alloc (Nat.le_refl _) _).alloc (by rw [World.size_alloc]; omega) _
  have K0 : W0.cell? ⟨w.heap.size, k, none⟩ = some (.string ⟨(bad16.getD k []).toArray⟩) := by
    rw [hW0]
    exact (LitsAt.keep (lits_new w bad16 9) ((Below.refl _ _).alloc (Nat.le_refl _) _)) k hk16
  clear hW0 l1 l2
  go_cut [52] (fun v W => v = .bool (badC k b) ∧ W = W0)
  case first => as_aux_lemma =>
    clear B0 K0 HT HE
    match k, hk16 with
    | 0, _ =>
      go_wp2_with (go_at_call 11; refine (low_any _ _ _ (by decide) (by decide)).mono ?_; rintro e w' ⟨rfl, hw'⟩; rw [hw', hLb])
      all_goals go_meet
      all_goals (case rel => exact ⟨congrArg Value.bool (by unfold badC; rw [Bool.eq_iff_iff]; simp at * <;> omega), rfl⟩)
    | 1, _ =>
      go_wp2_with (go_at_call 11; refine (low_any _ _ _ (by decide) (by decide)).mono ?_; rintro e w' ⟨rfl, hw'⟩; rw [hw', hLb])
      all_goals go_meet
      all_goals (case rel => exact ⟨congrArg Value.bool (by unfold badC; rw [Bool.eq_iff_iff]; simp at * <;> omega), rfl⟩)
    | 2, _ =>
      go_wp2_with (go_at_call 11; refine (low_any _ _ _ (by decide) (by decide)).mono ?_; rintro e w' ⟨rfl, hw'⟩; rw [hw', hLb])
      all_goals go_meet
      all_goals (case rel => exact ⟨congrArg Value.bool (by unfold badC; rw [Bool.eq_iff_iff]; simp at * <;> omega), rfl⟩)
    | 3, _ =>
      go_wp2_with (go_at_call 11; refine (low_any _ _ _ (by decide) (by decide)).mono ?_; rintro e w' ⟨rfl, hw'⟩; rw [hw', hLb])
      all_goals go_meet
      all_goals (case rel => exact ⟨congrArg Value.bool (by unfold badC; rw [Bool.eq_iff_iff]; simp at * <;> omega), rfl⟩)
    | 4, _ =>
      go_wp2_with (go_at_call 11; refine (low_any _ _ _ (by decide) (by decide)).mono ?_; rintro e w' ⟨rfl, hw'⟩; rw [hw', hLb])
      all_goals go_meet
      all_goals (case rel => exact ⟨congrArg Value.bool (by unfold badC; rw [Bool.eq_iff_iff]; simp at * <;> omega), rfl⟩)
    | 5, _ =>
      go_wp2_with (go_at_call 11; refine (low_any _ _ _ (by decide) (by decide)).mono ?_; rintro e w' ⟨rfl, hw'⟩; rw [hw', hLb])
      all_goals go_meet
      all_goals (case rel => exact ⟨congrArg Value.bool (by unfold badC; rw [Bool.eq_iff_iff]; simp at * <;> omega), rfl⟩)
    | 6, _ =>
      go_wp2_with (go_at_call 11; refine (low_any _ _ _ (by decide) (by decide)).mono ?_; rintro e w' ⟨rfl, hw'⟩; rw [hw', hLb])
      all_goals go_meet
      all_goals (case rel => exact ⟨congrArg Value.bool (by unfold badC; rw [Bool.eq_iff_iff]; simp at * <;> omega), rfl⟩)
    | 7, _ =>
      go_wp2_with (go_at_call 11; refine (low_any _ _ _ (by decide) (by decide)).mono ?_; rintro e w' ⟨rfl, hw'⟩; rw [hw', hLb])
      all_goals go_meet
      all_goals (case rel => exact ⟨congrArg Value.bool (by unfold badC; rw [Bool.eq_iff_iff]; simp at * <;> omega), rfl⟩)
    | 8, _ =>
      go_wp2_with (go_at_call 11; refine (low_any _ _ _ (by decide) (by decide)).mono ?_; rintro e w' ⟨rfl, hw'⟩; rw [hw', hLb])
      all_goals go_meet
      all_goals (case rel => exact ⟨congrArg Value.bool (by unfold badC; rw [Bool.eq_iff_iff]; simp at * <;> omega), rfl⟩)
    | 9, _ =>
      go_wp2_with (go_at_call 11; refine (low_any _ _ _ (by decide) (by decide)).mono ?_; rintro e w' ⟨rfl, hw'⟩; rw [hw', hLb])
      all_goals go_meet
      all_goals (case rel => exact ⟨congrArg Value.bool (by unfold badC; rw [Bool.eq_iff_iff]; simp at * <;> omega), rfl⟩)
    | 10, _ =>
      go_wp2_with (go_at_call 11; refine (low_any _ _ _ (by decide) (by decide)).mono ?_; rintro e w' ⟨rfl, hw'⟩; rw [hw', hLb])
      all_goals go_meet
      all_goals (case rel => exact ⟨congrArg Value.bool (by unfold badC; rw [Bool.eq_iff_iff]; simp at * <;> omega), rfl⟩)
    | 11, _ =>
      go_wp2_with (go_at_call 11; refine (low_any _ _ _ (by decide) (by decide)).mono ?_; rintro e w' ⟨rfl, hw'⟩; rw [hw', hLb])
      all_goals go_meet
      all_goals (case rel => exact ⟨congrArg Value.bool (by unfold badC; rw [Bool.eq_iff_iff]; simp at * <;> omega), rfl⟩)
    | 12, _ =>
      go_wp2_with (go_at_call 11; refine (low_any _ _ _ (by decide) (by decide)).mono ?_; rintro e w' ⟨rfl, hw'⟩; rw [hw', hLb])
      all_goals go_meet
      all_goals (case rel => exact ⟨congrArg Value.bool (by unfold badC; rw [Bool.eq_iff_iff]; simp at * <;> omega), rfl⟩)
    | 13, _ =>
      go_wp2_with (go_at_call 11; refine (low_any _ _ _ (by decide) (by decide)).mono ?_; rintro e w' ⟨rfl, hw'⟩; rw [hw', hLb])
      all_goals go_meet
      all_goals (case rel => exact ⟨congrArg Value.bool (by unfold badC; rw [Bool.eq_iff_iff]; simp at * <;> omega), rfl⟩)
    | 14, _ =>
      go_wp2_with (go_at_call 11; refine (low_any _ _ _ (by decide) (by decide)).mono ?_; rintro e w' ⟨rfl, hw'⟩; rw [hw', hLb])
      all_goals go_meet
      all_goals (case rel => exact ⟨congrArg Value.bool (by unfold badC; rw [Bool.eq_iff_iff]; simp at * <;> omega), rfl⟩)
    | 15, _ =>
      go_wp2_with (go_at_call 11; refine (low_any _ _ _ (by decide) (by decide)).mono ?_; rintro e w' ⟨rfl, hw'⟩; rw [hw', hLb])
      all_goals go_meet
      all_goals (case rel => exact ⟨congrArg Value.bool (by unfold badC; rw [Bool.eq_iff_iff]; simp at * <;> omega), rfl⟩)
    | n + 16, h => exact absurd h (by omega)
  case rest =>
  obtain ⟨rfl, hwc⟩ := hcut
  subst hwc
  have hgl := World.block_lt_of_cell? _ _ K0
  simp only at hgl
  go_upto_if 52 with fail
  go_cut [7] (fun v W => v = .string ⟨(othB k b).toArray⟩ ∧ W = wc)
  case first => as_aux_lemma =>
    clear B0 K0 HT HE
    cases hc : badC k b with
    | true =>
      have HO := hide (oth_yes hc)
      go_wp2_with fail
      go_meet
      case rel => exact ⟨by rw [HO.out], rfl⟩
    | false =>
      have HO := hide (oth_no hc)
      go_wp2_with fail
      go_meet
      case rel => exact ⟨by rw [HO.out]; simp, rfl⟩
  case rest =>
  obtain ⟨rfl, hwc⟩ := hcut
  subst hwc
  obtain ⟨t1, t2, t3, t4⟩ := HT.out
  generalize bad16.getD k [] = bk at *
  generalize othB k b = ot at *
  obtain ⟨c2, e2⟩ : ∃ c, cookieS hostB ot = some c := by
    cases e : cookieS hostB ot with
    | none => rw [e] at t2; cases t2
    | some c => exact ⟨c, rfl⟩
  have X2 := hide (fun W hE => read_some hostB ot W hE (by decide) (by omega) e2)
  have XA := hide (fun W hb => awake7_any W (HE.out.keep (w' := W) hb))
  clear t2 e2 HT HLk
  by_cases hk0 : k = 0
  · have hz : ((k : Int) == 0) = true := beq_iff_eq.2 (by omega)
    obtain ⟨c1, e1⟩ : ∃ c, cookieS hostB (bk ++ ot) = some c := by
      cases e : cookieS hostB (bk ++ ot) with
      | none => rw [e, decide_eq_true hk0] at t1; cases t1
      | some c => exact ⟨c, rfl⟩
    have X1 := hide (fun W hE => read_some hostB (bk ++ ot) W hE (by decide) (by rw [List.length_append]; omega) e1)
    rw [← mk_append] at X1
    clear t1 e1 hk0
    go_wp2_with fail
    refine (X1.out _ (HE.out.keep B0.out)).mono ?_
    rintro r w2 ⟨rfl, hb2⟩
    have B2 := hide (B0.out.trans (hb2.mono B0.out.size))
    clear hb2 B0
    go_wp2_with fail
    have B3 := hide (B2.out.alloc B2.out.size (ckO c1))
    refine (X2.out _ (HE.out.keep B3.out)).mono ?_
    rintro r w3 ⟨rfl, hb3⟩
    have B4 := hide (B3.out.trans (hb3.mono B3.out.size))
    clear hb3
    go_wp2_with fail
    have B5 := hide (B4.out.alloc B4.out.size (ckO c2))
    refine (XA.out _ B5.out).mono ?_
    rintro r w4 ⟨rfl, hb4⟩
    have B6 := hide (B5.out.trans (hb4.mono B5.out.size))
    clear hb4
    go_wp2_with fail
    go_ret
    exact ⟨rfl, B6.out⟩
  · have hz : ((k : Int) == 0) = false := beq_eq_false_iff_ne.2 (by omega)
    have e1 : cookieS hostB (bk ++ ot) = none := by
      cases e : cookieS hostB (bk ++ ot) with
      | none => rfl
      | some c => rw [e, decide_eq_false hk0] at t1; cases t1
    have X1 := hide (fun W hE => read_none hostB (bk ++ ot) W hE (by decide) (by rw [List.length_append]; omega) e1)
    rw [← mk_append] at X1
    clear t1 e1 hk0
    go_wp2_with fail
    refine (X1.out _ (HE.out.keep B0.out)).mono ?_
    rintro r w2 ⟨rfl, hb2⟩
    have B2 := hide (B0.out.trans (hb2.mono B0.out.size))
    clear hb2 B0
    go_wp2_with fail
    have B3 := hide (B2.out.alloc B2.out.size (ckO zeroC))
    refine (X2.out _ (HE.out.keep B3.out)).mono ?_
    rintro r w3 ⟨rfl, hb3⟩
    have C3 : Hid (CBox w3 w2.heap.size zeroC) := (CBox.new w2 23).keep hb3
    have B4 := hide (B3.out.trans (hb3.mono B3.out.size))
    have hlt := C3.out.lt
    obtain ⟨y0, y1, y2, y3, y4, y5, y6, _⟩ := C3.out
    unfold zeroC at y2 y3 y4 y5 y6
    simp only at y2 y3 y4 y5 y6
    clear hb3
    go_wp2_with fail
    have B5 := hide (B4.out.alloc B4.out.size (ckO c2))
    refine (XA.out _ B5.out).mono ?_
    rintro r w4 ⟨rfl, hb4⟩
    have B6 := hide (B5.out.trans (hb4.mono B5.out.size))
    clear hb4
    go_wp2_with fail
    go_ret
    exact ⟨rfl, B6.out⟩
end Go.Proofs.YtfbalmamhcbojaaDoor
