/- The walk over moatlaw9.LexTexts, by what package lex gives. -/
import Derived.Test.YtkpkpiikhcggkaaLx5
import Derived.Test.YtkpkpiikhcggkaaLx6
import Derived.Test.YtkpkpiikhcggkaaLT
namespace Go.Proofs.Ytkpkpiikhcggkaa
open Go.RowKit Go.Proofs.Url

theorem gaps9_at (r : Nat) (h : r < 3) : [Value.string ⟨#[]⟩, .string ⟨#[32]⟩, .string ⟨#[10]⟩][r] = .string ⟨(gaps9.getD r []).toArray⟩ := by
  match r, h with
  | 0, _ => rfl
  | 1, _ => rfl
  | 2, _ => rfl
theorem take_all_next {f : UInt8 → Bool} {s : List UInt8} {k : Nat} (h : k < (⟨s.toArray⟩ : ByteArray).size) : (s.take (k + 1)).all f = ((s.take k).all f && f (⟨s.toArray⟩ : ByteArray)[k]) := by
  have h' : k < s.length := by rw [size_mk] at h; exact h
  rw [List.take_succ_eq_append_getElem h', List.all_append]
  simp
  rfl

set_option maxHeartbeats 4000000 in
set_option maxRecDepth 100000 in
theorem lexTexts_walk (ok : LexOk) (s : List UInt8) (gp : Int) (w : World) (henv : Env w) (hs : s.length ≤ maxLen) :
    Calls Try.prog 7 #[.string ⟨s.toArray⟩, .int .i64 gp] w fun e w' => e = .returned (.bool true) ∧ Below w.heap.size w w' := by
  have OK := hide ok
  have HE := hide henv
  have XA := hide (fun W hb => awake9_any ok W (henv.keep (w' := W) hb))
  clear ok henv
  unfold maxLen at hs
  by_cases h2 : 60 < s.length
  · have i2 : (60 : Int) < (s.length : Int) := by omega
    clear h2
    go_enter Try.func7, Try.ntmps7
    go_wp2_with fail
    refine (XA.out _ (Below.refl _ _)).mono ?_
    rintro e w1 ⟨rfl, hb1⟩
    go_wp2_with fail
    go_ret
    exact ⟨rfl, hb1⟩
  have i2 : ¬ (60 : Int) < (s.length : Int) := by omega
  have h3 : s.length ≤ 60 := by omega
  clear hs h2
  go_enter Try.func7, Try.ntmps7
  go_wp2_with fail
  go_loop [5, 6] (fun mv iv => ∃ (k : Nat) (b : Bool), k ≤ s.length ∧ iv = .int .i64 k ∧ mv = .bool b ∧ Hid (b = (s.take k).all textB)) (fun _ iv => s.length - (intOf iv).toNat)
  case atStart => exact ⟨0, true, Nat.zero_le _, rfl, rfl, rfl⟩
  case round =>
    obtain ⟨k, b, hk, rfl, rfl, hB⟩ := hrel
    by_cases hlt : k < s.length
    · have hlI : (k : Int) < (s.length : Int) := by omega
      have hkB : k < (⟨s.toArray⟩ : ByteArray).size := by rw [size_mk]; exact hlt
      have hc : (⟨s.toArray⟩ : ByteArray)[k].toNat < 256 := (⟨s.toArray⟩ : ByteArray)[k].toNat_lt
      have HN : Hid ((s.take (k + 1)).all textB = (b && textB (⟨s.toArray⟩ : ByteArray)[k])) := by unfold Hid; rw [take_all_next hkB, hB.out]
      clear hB
      cases b with
      | false =>
        go_wp2_with fail
        go_round
        case rel => exact ⟨k + 1, false, by omega, by go_num, rfl, by unfold Hid; rw [HN.out]; rfl⟩
        case measure => simp [intOf]; omega
      | true =>
        cases ht : textB (⟨s.toArray⟩ : ByteArray)[k] with
        | true =>
          have h4 : 32 ≤ (⟨s.toArray⟩ : ByteArray)[k].toNat ∧ (⟨s.toArray⟩ : ByteArray)[k].toNat ≤ 126 ∧ ¬ (⟨s.toArray⟩ : ByteArray)[k].toNat = 34 := by
            unfold textB at ht; simpa [and_assoc] using ht
          have i3 : (32 : Int) ≤ ((⟨s.toArray⟩ : ByteArray)[k].toNat : Int) := by omega
          have i4 : ((⟨s.toArray⟩ : ByteArray)[k].toNat : Int) ≤ 126 := by omega
          have i5 : (((⟨s.toArray⟩ : ByteArray)[k].toNat : Int) != 34) = true := bne_iff_ne.2 (by omega)
          have HN2 : Hid ((s.take (k + 1)).all textB = true) := by unfold Hid; rw [HN.out, ht]; rfl
          clear h4 ht HN
          go_wp2_with fail
          go_round
          case rel => exact ⟨k + 1, true, by omega, by go_num, rfl, HN2.out.symm⟩
          case measure => simp [intOf]; omega
        | false =>
          have h4 : (⟨s.toArray⟩ : ByteArray)[k].toNat = 34 ∨ (⟨s.toArray⟩ : ByteArray)[k].toNat < 32 ∨ 126 < (⟨s.toArray⟩ : ByteArray)[k].toNat := by
            unfold textB at ht; simp at ht; omega
          have HN2 : Hid ((s.take (k + 1)).all textB = false) := by unfold Hid; rw [HN.out, ht]; rfl
          clear ht HN
          rcases h4 with h4 | h4 | h4
          · have i3 : (32 : Int) ≤ ((⟨s.toArray⟩ : ByteArray)[k].toNat : Int) := by omega
            have i4 : ((⟨s.toArray⟩ : ByteArray)[k].toNat : Int) ≤ 126 := by omega
            have i5 : (((⟨s.toArray⟩ : ByteArray)[k].toNat : Int) != 34) = false := by rw [bne_eq_false_iff_eq]; omega
            clear h4
            go_wp2_with fail
            go_round
            case rel => exact ⟨k + 1, false, by omega, by go_num, rfl, HN2.out.symm⟩
            case measure => simp [intOf]; omega
          · have i3 : ¬ (32 : Int) ≤ ((⟨s.toArray⟩ : ByteArray)[k].toNat : Int) := by omega
            go_wp2_with fail
            go_round
            case rel => exact ⟨k + 1, false, by omega, by go_num, rfl, HN2.out.symm⟩
            case measure => simp [intOf]; omega
          · have i3 : (32 : Int) ≤ ((⟨s.toArray⟩ : ByteArray)[k].toNat : Int) := by omega
            have i4 : ¬ ((⟨s.toArray⟩ : ByteArray)[k].toNat : Int) ≤ 126 := by omega
            go_wp2_with fail
            go_round
            case rel => exact ⟨k + 1, false, by omega, by go_num, rfl, HN2.out.symm⟩
            case measure => simp [intOf]; omega
    · have HM : Hid (b = s.all textB) := by unfold Hid; rw [hB.out, List.take_of_length_le (by omega)]
      have hr3 : lowT gp 3 < 3 := lowT_lt gp 3 (by decide)
      have l3 := gaps9_at (lowT gp 3) hr3
      have hrI : (lowT gp 3 : Int) < 3 := by omega
      have HSum : Hid (∀ r, ((⟨#[111, 119, 110]⟩ : ByteArray) ++ ⟨(gaps9.getD r []).toArray⟩ ++ ⟨#[34]⟩ ++ ⟨s.toArray⟩ ++ ⟨#[34]⟩) = ⟨(inpT r s).toArray⟩) := fun r => dataEq (by unfold inpT own9; simp)
      have hgl : (gaps9.getD (lowT gp 3) []).length ≤ 1 := by
        have : ∀ r : Fin 3, (gaps9.getD r []).length ≤ 1 := by decide
        exact this ⟨_, hr3⟩
      have hsum := HSum.out (lowT gp 3)
      have HY := hide (inpT_yes ⟨lowT gp 3, hr3⟩ s h3)
      have HNo := hide (inpT_no ⟨lowT gp 3, hr3⟩ s h3)
      have hil : (inpT (lowT gp 3) s).length < 4294967281 := by rw [inpT_len]; omega
      simp only at HY HNo
      generalize gaps9.getD (lowT gp 3) [] = gx at *
      generalize inpT (lowT gp 3) s = inp at *
      have HSm := hide hsum
      clear hB HSum hsum
      go_wp2_with (go_at_call 14; refine (lowT_any _ _ _ (by decide) (by decide)).mono ?_; rintro e w' ⟨rfl, hw'⟩; rw [hw'])
      rw [HSm.out]
      have b1 : Below w.heap.size w (w.alloc (Obj.cells #[.string ⟨#[]⟩, .string ⟨#[32]⟩, .string ⟨#[10]⟩] 9)) := (Below.refl _ _).alloc (Nat.le_refl _) _
      have B1 := hide b1
      clear b1 l3
      cases b with
      | true =>
        have hall : ∀ x ∈ s, textB x = true := List.all_eq_true.1 HM.out.symm
        refine (OK.out.good (HY.out hall) _ (HE.out.keep B1.out) hil).mono ?_
        rintro e w2 ⟨ao, cap, rfl, hT, hb2⟩
        obtain ⟨ga, rfl, hga, x1, x2, x3⟩ := hT 1 (by simp)
        have b3 : Below w2.heap.size w2 (w2.alloc (Obj.cells #[.int .i64 0, .int .i64 0] 26)) := (Below.refl _ _).alloc (Nat.le_refl _) _
        have B3 := hide ((B1.out.trans (hb2.mono B1.out.size)).trans (b3.mono (B1.out.trans (hb2.mono B1.out.size)).size))
        have hss : (s == s) = true := by simp
        simp only [List.getElem_cons_zero, List.getElem_cons_succ] at x1 x2 x3
        clear hb2 hT HY HNo HM HSm hall b3 B1
        go_wp2_with fail
        refine (XA.out _ B3.out).mono ?_
        rintro e w4 ⟨rfl, hb4⟩
        have B4 := hide (B3.out.trans (hb4.mono B3.out.size))
        clear hb4
        go_wp2_with fail
        go_ret
        exact ⟨rfl, B4.out⟩
      | false =>
        rcases HNo.out with ⟨c, p, h1, h2, h3'⟩ | ⟨ts, h1, h2⟩
        · refine (OK.out.bad h1 _ (HE.out.keep B1.out) hil).mono ?_
          rintro e w2 ⟨ao, cap, rfl, hb2⟩
          have b3 : Below w2.heap.size w2 (w2.alloc (Obj.cells #[.int .i64 c, .int .i64 p] 26)) := (Below.refl _ _).alloc (Nat.le_refl _) _
          have B3 := hide ((B1.out.trans (hb2.mono B1.out.size)).trans (b3.mono (B1.out.trans (hb2.mono B1.out.size)).size))
          have e1 : ((c : Int) == 0) = false := beq_eq_false_iff_ne.2 (by omega)
          have e3 : ((c : Int) != 0) = true := bne_iff_ne.2 (by omega)
          have e4 : ¬ c = 0 := h2
          have e2 : (3 : Int) ≤ (p : Int) := by omega
          clear hb2 HY HNo HM HSm b3 B1 h1 h2
          go_wp2_with fail
          refine (XA.out _ B3.out).mono ?_
          rintro e w4 ⟨rfl, hb4⟩
          have B4 := hide (B3.out.trans (hb4.mono B3.out.size))
          clear hb4
          go_wp2_with fail
          go_ret
          exact ⟨rfl, B4.out⟩
        · refine (OK.out.good h1 _ (HE.out.keep B1.out) hil).mono ?_
          rintro e w2 ⟨ao, cap, rfl, hT, hb2⟩
          have b3 : Below w2.heap.size w2 (w2.alloc (Obj.cells #[.int .i64 0, .int .i64 0] 26)) := (Below.refl _ _).alloc (Nat.le_refl _) _
          have B3 := hide ((B1.out.trans (hb2.mono B1.out.size)).trans (b3.mono (B1.out.trans (hb2.mono B1.out.size)).size))
          have e2 : (2 : Int) ≤ (ts.length : Int) := by omega
          clear hb2 HY HNo HM HSm b3 B1 h1 hT
          go_wp2_with fail
          refine (XA.out _ B3.out).mono ?_
          rintro e w4 ⟨rfl, hb4⟩
          have B4 := hide (B3.out.trans (hb4.mono B3.out.size))
          clear hb4
          go_wp2_with fail
          go_ret
          exact ⟨rfl, B4.out⟩
end Go.Proofs.Ytkpkpiikhcggkaa
