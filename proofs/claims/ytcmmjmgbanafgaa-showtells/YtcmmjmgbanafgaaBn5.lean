import Derived.Test.YtcmmjmgbanafgaaLx3
import Derived.Test.YtcmmjmgbanafgaaLx2
import Derived.Test.YtcmmjmgbanafgaaBn4
/- Walks over package lex as landed at 1c89fe9: its bytes, span, gapEnd, lineEnd, Word, mostBytes, check, textAt, tokenAt. -/
namespace Go.Proofs.Url
/-- A token's kind as lex.tokenAt tells it: words count as names, what is none is 0. -/
def rawK (o : One) : Nat := if o.code = 3 then 0 else if o.kind = 2 then 1 else o.kind
def mostN (k : Nat) : Nat := if k = 4 then 1 else if k = 3 then 202 else 20
def chkN (k sz n : Nat) : Nat := if k = 0 then 3 else if mostN k < sz ∨ n = 2000 then 6 else 0
theorem chk_zero (sz n : Nat) : chkN 0 sz n = 3 := rfl
theorem chk_long {k sz : Nat} (n : Nat) (hk : k ≠ 0) (h : mostN k < sz) : chkN k sz n = 6 := by unfold chkN; rw [if_neg hk, if_pos (.inl h)]
theorem chk_rest {k sz : Nat} (n : Nat) (hk : k ≠ 0) (h : ¬ mostN k < sz) : chkN k sz n = if n = 2000 then 6 else 0 := by
  unfold chkN; rw [if_neg hk]
  by_cases hn : n = 2000
  · rw [if_pos (.inr hn), if_pos hn]
  · rw [if_neg (by simp [h, hn]), if_neg hn]
theorem chk_oneC (c : UInt8) (r : List UInt8) (n : Nat) : chkN (rawK (oneC c r)) (oneC c r).len n = if (oneC c r).code ≠ 0 then (oneC c r).code else if n = 2000 then 6 else 0 := by
  have fin : ∀ (o : One) (k m : Nat), rawK o = k → k ≠ 0 → mostN k = m → ((m < o.len ∧ o.code = 6) ∨ (¬ m < o.len ∧ o.code = 0)) → chkN (rawK o) o.len n = if o.code ≠ 0 then o.code else if n = 2000 then 6 else 0 := by
    intro o k m hk h0 hm h
    rw [hk]
    rcases h with ⟨h1, h2⟩ | ⟨h1, h2⟩
    · rw [chk_long n h0 (by rw [hm]; exact h1), h2]; rfl
    · rw [chk_rest n h0 (by rw [hm]; exact h1), h2]; rfl
  cases h1 : smallB c with
  | true =>
    rw [oneC_small r h1]
    by_cases hl : 20 < ((c :: r).takeWhile nameB9).length
    · refine fin _ 1 20 ?_ (by decide) rfl (.inl ⟨hl, by rw [if_pos hl]⟩)
      unfold rawK; simp only [if_pos hl]
      cases wordS ((c :: r).takeWhile nameB9) <;> rfl
    · refine fin _ 1 20 ?_ (by decide) rfl (.inr ⟨hl, by rw [if_neg hl]⟩)
      unfold rawK; simp only [if_neg hl]
      cases wordS ((c :: r).takeWhile nameB9) <;> rfl
  | false =>
    cases h2 : capB c with
    | true =>
      rw [oneC_cap r h1 h2]
      by_cases hl : 20 < ((c :: r).takeWhile capB).length
      · refine fin _ 5 20 ?_ (by decide) rfl (.inl ⟨hl, by rw [if_pos hl]⟩)
        unfold rawK; simp only [if_pos hl]; rfl
      · refine fin _ 5 20 ?_ (by decide) rfl (.inr ⟨hl, by rw [if_neg hl]⟩)
        unfold rawK; simp only [if_neg hl]; rfl
    | false =>
      by_cases h3 : c.toNat = 34
      · by_cases hq : r[(r.takeWhile textB).length]? = some 34
        · rw [oneC_text r h1 h2 h3 hq]
          by_cases hl : 200 < (r.takeWhile textB).length
          · refine fin _ 3 202 ?_ (by decide) rfl (.inl ⟨by show 202 < (r.takeWhile textB).length + 2; omega, by rw [if_pos hl]⟩)
            unfold rawK; simp only [if_pos hl]; rfl
          · refine fin _ 3 202 ?_ (by decide) rfl (.inr ⟨by show ¬ 202 < (r.takeWhile textB).length + 2; omega, by rw [if_neg hl]⟩)
            unfold rawK; simp only [if_neg hl]; rfl
        · rw [oneC_open r h1 h2 h3 hq]; rfl
      · cases h4 : signB c with
        | true =>
          rw [oneC_sign r h1 h2 h3 h4]
          exact fin _ 4 1 rfl (by decide) rfl (.inr ⟨Nat.lt_irrefl 1, rfl⟩)
        | false => rw [oneC_none r h1 h2 h3 h4]; rfl
end Go.Proofs.Url
namespace Go.Proofs.Ytcmmjmgbanafgaa
open Go.RowKit Go.Proofs.Url

set_option maxHeartbeats 400000 in
theorem isSmall9_any (c : UInt8) (w : World) :
    Calls Try.prog 44 #[.int .u8 c.toNat] w fun e w' => e = .returned (.bool (smallB c)) ∧ w' = w := by
  have hc := c.toNat_lt
  go_enter Try.func44, Try.ntmps44
  go_wp2
  all_goals go_ret
  all_goals exact ⟨ret_bool (by unfold smallB; rw [Bool.eq_iff_iff]; simp; try omega), rfl⟩
set_option maxHeartbeats 400000 in
theorem isCapital9_any (c : UInt8) (w : World) :
    Calls Try.prog 47 #[.int .u8 c.toNat] w fun e w' => e = .returned (.bool (capB c)) ∧ w' = w := by
  have hc := c.toNat_lt
  go_enter Try.func47, Try.ntmps47
  go_wp2
  all_goals go_ret
  all_goals exact ⟨ret_bool (by unfold capB; rw [Bool.eq_iff_iff]; simp; try omega), rfl⟩
theorem nameB_small {c : UInt8} (h : smallB c = true) : nameB9 c = true := by unfold nameB9; rw [h]; rfl
theorem nameB_digit {c : UInt8} (h1 : 48 ≤ c.toNat) (h2 : c.toNat ≤ 57) : nameB9 c = true := by unfold nameB9; simp [h1, h2]
theorem nameB_line {c : UInt8} (h : c.toNat = 95) : nameB9 c = true := by unfold nameB9; simp [h]
theorem nameB_no {c : UInt8} (h0 : smallB c = false) (h1 : ¬ (48 ≤ c.toNat ∧ c.toNat ≤ 57)) (h2 : ¬ c.toNat = 95) : nameB9 c = false := by unfold nameB9; rw [h0]; simp; omega
set_option maxHeartbeats 1000000 in
theorem inName9_any (c : UInt8) (w : World) :
    Calls Try.prog 46 #[.int .u8 c.toNat] w fun e w' => e = .returned (.bool (nameB9 c)) ∧ w' = w := by
  have hc := c.toNat_lt
  cases h0 : smallB c with
  | true =>
    rw [nameB_small h0]
    go_enter Try.func46, Try.ntmps46
    go_wp2_with (go_at_call 44; refine (isSmall9_any c _).mono ?_; rintro e w' ⟨rfl, hw'⟩; rw [hw', h0])
    go_ret
    exact ⟨rfl, rfl⟩
  | false =>
    rcases (by omega : (48 ≤ c.toNat ∧ c.toNat ≤ 57) ∨ c.toNat < 48 ∨ (57 < c.toNat ∧ c.toNat = 95) ∨ (57 < c.toNat ∧ c.toNat ≠ 95)) with h | h | h | h
    · rw [nameB_digit h.1 h.2]
      have i3 : (48 : Int) ≤ (c.toNat : Int) := by omega
      have i4 : (c.toNat : Int) ≤ 57 := by omega
      clear h
      go_enter Try.func46, Try.ntmps46
      go_wp2_with (go_at_call 44; refine (isSmall9_any c _).mono ?_; rintro e w' ⟨rfl, hw'⟩; rw [hw', h0])
      go_ret
      exact ⟨rfl, rfl⟩
    · rw [nameB_no h0 (by omega) (by omega)]
      have i3 : ¬ (48 : Int) ≤ (c.toNat : Int) := by omega
      have i5 : ((c.toNat : Int) == 95) = false := beq_eq_false_iff_ne.2 (by omega)
      clear h
      go_enter Try.func46, Try.ntmps46
      go_wp2_with (go_at_call 44; refine (isSmall9_any c _).mono ?_; rintro e w' ⟨rfl, hw'⟩; rw [hw', h0])
      go_ret
      exact ⟨rfl, rfl⟩
    · rw [nameB_line h.2]
      have i3 : (48 : Int) ≤ (c.toNat : Int) := by omega
      have i4 : ¬ (c.toNat : Int) ≤ 57 := by omega
      have i5 : ((c.toNat : Int) == 95) = true := beq_iff_eq.2 (by omega)
      clear h
      go_enter Try.func46, Try.ntmps46
      go_wp2_with (go_at_call 44; refine (isSmall9_any c _).mono ?_; rintro e w' ⟨rfl, hw'⟩; rw [hw', h0])
      go_ret
      exact ⟨rfl, rfl⟩
    · rw [nameB_no h0 (by omega) h.2]
      have i3 : (48 : Int) ≤ (c.toNat : Int) := by omega
      have i4 : ¬ (c.toNat : Int) ≤ 57 := by omega
      have i5 : ((c.toNat : Int) == 95) = false := beq_eq_false_iff_ne.2 (by omega)
      clear h
      go_enter Try.func46, Try.ntmps46
      go_wp2_with (go_at_call 44; refine (isSmall9_any c _).mono ?_; rintro e w' ⟨rfl, hw'⟩; rw [hw', h0])
      go_ret
      exact ⟨ret_bool (decide_eq_false (by omega)), rfl⟩
set_option maxHeartbeats 1000000 in
theorem inText9_any (c : UInt8) (w : World) :
    Calls Try.prog 70 #[.int .u8 c.toNat] w fun e w' => e = .returned (.bool (textB c)) ∧ w' = w := by
  have hc := c.toNat_lt
  go_enter Try.func70, Try.ntmps70
  go_wp2
  all_goals go_ret
  all_goals exact ⟨ret_bool (by unfold textB; rw [Bool.eq_iff_iff]; simp; try omega), rfl⟩
theorem enters_inName : ∀ args w, (callFunc 46 args).run Try.prog w = .ok (.enter 46 args) w := enters_of Try.func46 (by kernel_rfl) rfl
theorem enters_inText : ∀ args w, (callFunc 70 args).run Try.prog w = .ok (.enter 70 args) w := enters_of Try.func70 (by kernel_rfl) rfl
theorem enters_isCapital : ∀ args w, (callFunc 47 args).run Try.prog w = .ok (.enter 47 args) w := enters_of Try.func47 (by kernel_rfl) rfl

set_option maxHeartbeats 1000000 in
theorem span_any (f : UInt8 → Bool) (fn : FuncId) (eg : ∀ args w, (callFunc fn args).run Try.prog w = .ok (.enter fn args) w)
    (hf : ∀ (c : UInt8) (w : World), Calls Try.prog fn #[.int .u8 c.toNat] w fun e w' => e = .returned (.bool (f c)) ∧ w' = w)
    (s : List UInt8) (i : Nat) (hi : i ≤ s.length) (w : World) (hs : s.length < 4294967281) :
    Calls Try.prog 45 #[.string ⟨s.toArray⟩, .int .i64 i, .func (.func fn) #[] #[]] w fun e w' => e = .returned (.int .i64 ((i + ((s.drop i).takeWhile f).length : Nat) : Int)) ∧ w' = w := by
  have HF := hide hf
  clear hf
  go_enter Try.func45, Try.ntmps45
  go_wp2_with fail
  go_loop [1] (fun iv => ∃ j : Nat, j ≤ s.length ∧ iv = .int .i64 j ∧ Hid (i + ((s.drop i).takeWhile f).length = j + ((s.drop j).takeWhile f).length)) (fun iv => s.length - (intOf iv).toNat)
  case atStart => exact ⟨i, hi, rfl, rfl⟩
  case round =>
    obtain ⟨j, hj, rfl, hE⟩ := hrel
    by_cases hlt : j < s.length
    · have hlI : (j : Int) < (s.length : Int) := by omega
      have hjB : j < (⟨s.toArray⟩ : ByteArray).size := by rw [size_mk]; exact hlt
      have hc : (⟨s.toArray⟩ : ByteArray)[j].toNat < 256 := (⟨s.toArray⟩ : ByteArray)[j].toNat_lt
      cases hb : f (⟨s.toArray⟩ : ByteArray)[j] with
      | true =>
        have HN : Hid (i + ((s.drop i).takeWhile f).length = (j + 1) + ((s.drop (j + 1)).takeWhile f).length) := by unfold Hid; rw [hE.out, run_on hjB hb]; omega
        clear hE
        go_wp2_with fail
        refine (HF.out _ _).mono ?_
        rintro e w' ⟨rfl, hw'⟩
        rw [hw', hb]
        go_wp2_with fail
        go_round
        case rel => exact ⟨j + 1, by omega, by go_num, HN⟩
        case measure => simp [intOf]; omega
      | false =>
        have HN : Hid (((s.drop j).takeWhile f).length = 0) := run_stop hjB hb
        go_wp2_with fail
        refine (HF.out _ _).mono ?_
        rintro e w' ⟨rfl, hw'⟩
        rw [hw', hb]
        go_wp2_with fail
        go_ret
        exact ⟨ret_int (by have h1 := hE.out; have h2 := HN.out; omega), rfl⟩
    · have HN : Hid (((s.drop j).takeWhile f).length = 0) := run_end f s j (by omega)
      go_wp2_with fail
      go_ret
      exact ⟨ret_int (by have h1 := hE.out; have h2 := HN.out; omega), rfl⟩

set_option maxHeartbeats 1000000 in
theorem lineEnd_any (s : List UInt8) (i : Nat) (hi : i ≤ s.length) (w : World) (hs : s.length < 4294967281) :
    Calls Try.prog 42 #[.string ⟨s.toArray⟩, .int .i64 i] w fun e w' => ∃ k : Nat, e = .returned (.int .i64 k) ∧ i ≤ k ∧ k ≤ s.length ∧ Hid (i + gapB true (s.drop i) = k + gapB false (s.drop k)) ∧ Hid (∀ h : i < (⟨s.toArray⟩ : ByteArray).size, ¬ (⟨s.toArray⟩ : ByteArray)[i].toNat = 10 → i < k) ∧ w' = w := by
  go_enter Try.func42, Try.ntmps42
  go_wp2_with fail
  go_loop [1] (fun iv => ∃ j : Nat, i ≤ j ∧ j ≤ s.length ∧ iv = .int .i64 j ∧ Hid (i + gapB true (s.drop i) = j + gapB true (s.drop j))) (fun iv => s.length - (intOf iv).toNat)
  case atStart => exact ⟨i, Nat.le_refl _, hi, rfl, rfl⟩
  case round =>
    obtain ⟨k, hjk, hk, rfl, hE⟩ := hrel
    by_cases hlt2 : k < s.length
    · have hlI2 : (k : Int) < (s.length : Int) := by omega
      have hkB : k < (⟨s.toArray⟩ : ByteArray).size := by rw [size_mk]; exact hlt2
      have hc2 : (⟨s.toArray⟩ : ByteArray)[k].toNat < 256 := (⟨s.toArray⟩ : ByteArray)[k].toNat_lt
      by_cases h10 : (⟨s.toArray⟩ : ByteArray)[k].toNat = 10
      · have HX : Hid (i + gapB true (s.drop i) = k + gapB false (s.drop k)) := by unfold Hid; rw [hE.out, gap_line hkB h10]
        have HS : Hid (∀ h : i < (⟨s.toArray⟩ : ByteArray).size, ¬ (⟨s.toArray⟩ : ByteArray)[i].toNat = 10 → i < k) := by
          intro h hn
          rcases Nat.lt_or_ge i k with h' | h'
          · exact h'
          · have : i = k := by omega
            subst this
            exact absurd h10 hn
        have e1 : (((⟨s.toArray⟩ : ByteArray)[k].toNat : Int) == 10) = true := beq_iff_eq.2 (by omega)
        clear h10 hE
        go_wp2_with fail
        go_ret
        exact ⟨k, rfl, hjk, by omega, HX, HS, rfl⟩
      · have HX : Hid (i + gapB true (s.drop i) = (k + 1) + gapB true (s.drop (k + 1))) := by unfold Hid; rw [hE.out, gap_on hkB h10]; omega
        have e1 : (((⟨s.toArray⟩ : ByteArray)[k].toNat : Int) == 10) = false := beq_eq_false_iff_ne.2 (by omega)
        clear h10 hE
        go_wp2_with fail
        go_round
        case rel => exact ⟨k + 1, by omega, by omega, by go_num, HX⟩
        case measure => simp [intOf]; omega
    · have HX : Hid (i + gapB true (s.drop i) = k + gapB false (s.drop k)) := by unfold Hid; rw [hE.out, gap_end true s k (by omega), gap_end false s k (by omega)]
      have HS : Hid (∀ h : i < (⟨s.toArray⟩ : ByteArray).size, ¬ (⟨s.toArray⟩ : ByteArray)[i].toNat = 10 → i < k) := by
        intro h _
        rw [size_mk] at h
        omega
      clear hE
      go_wp2_with fail
      go_ret
      exact ⟨k, rfl, hjk, hk, HX, HS, rfl⟩

set_option maxHeartbeats 2000000 in
theorem gapEnd_any (s : List UInt8) (i : Nat) (hi : i ≤ s.length) (w : World) (hs : s.length < 4294967281) :
    Calls Try.prog 22 #[.string ⟨s.toArray⟩, .int .i64 i] w fun e w' => e = .returned (.int .i64 ((i + gapB false (s.drop i) : Nat) : Int)) ∧ w' = w := by
  go_enter Try.func22, Try.ntmps22
  go_wp2_with fail
  go_loop [1] (fun iv => ∃ j : Nat, j ≤ s.length ∧ iv = .int .i64 j ∧ Hid (i + gapB false (s.drop i) = j + gapB false (s.drop j))) (fun iv => s.length - (intOf iv).toNat)
  case atStart => exact ⟨i, hi, rfl, rfl⟩
  case round =>
    obtain ⟨j, hj, rfl, hE⟩ := hrel
    by_cases hlt : j < s.length
    · have hlI : (j : Int) < (s.length : Int) := by omega
      have hjB : j < (⟨s.toArray⟩ : ByteArray).size := by rw [size_mk]; exact hlt
      have hc : (⟨s.toArray⟩ : ByteArray)[j].toNat < 256 := (⟨s.toArray⟩ : ByteArray)[j].toNat_lt
      cases hb : blankB (⟨s.toArray⟩ : ByteArray)[j] with
      | true =>
        have HN : Hid (i + gapB false (s.drop i) = (j + 1) + gapB false (s.drop (j + 1))) := by unfold Hid; rw [hE.out, gap_blank hjB hb]; omega
        have h4 : (⟨s.toArray⟩ : ByteArray)[j].toNat = 32 ∨ (⟨s.toArray⟩ : ByteArray)[j].toNat = 9 ∨ (⟨s.toArray⟩ : ByteArray)[j].toNat = 10 ∨ (⟨s.toArray⟩ : ByteArray)[j].toNat = 13 := by
          unfold blankB at hb; simpa [or_assoc] using hb
        clear hb hE
        rcases h4 with h | h | h | h
        all_goals (
          go_wp2_with fail
          go_round
          case rel => exact ⟨j + 1, by omega, by go_num, HN⟩
          case measure => simp [intOf]; omega)
      | false =>
        have h4 : ¬ (⟨s.toArray⟩ : ByteArray)[j].toNat = 32 ∧ ¬ (⟨s.toArray⟩ : ByteArray)[j].toNat = 9 ∧ ¬ (⟨s.toArray⟩ : ByteArray)[j].toNat = 10 ∧ ¬ (⟨s.toArray⟩ : ByteArray)[j].toNat = 13 := by
          unfold blankB at hb; simpa [and_assoc] using hb
        have b1 : (((⟨s.toArray⟩ : ByteArray)[j].toNat : Int) == 32) = false := beq_eq_false_iff_ne.2 (by omega)
        have b2 : (((⟨s.toArray⟩ : ByteArray)[j].toNat : Int) == 9) = false := beq_eq_false_iff_ne.2 (by omega)
        have b3 : (((⟨s.toArray⟩ : ByteArray)[j].toNat : Int) == 10) = false := beq_eq_false_iff_ne.2 (by omega)
        have b4 : (((⟨s.toArray⟩ : ByteArray)[j].toNat : Int) == 13) = false := beq_eq_false_iff_ne.2 (by omega)
        by_cases hh : (⟨s.toArray⟩ : ByteArray)[j].toNat = 35
        · have HN : Hid (i + gapB false (s.drop i) = j + gapB true (s.drop j)) := by unfold Hid; rw [hE.out, gap_hash hjB hh]
          have b5 : (((⟨s.toArray⟩ : ByteArray)[j].toNat : Int) == 35) = true := beq_iff_eq.2 (by omega)
          have HI : Hid (¬ (⟨s.toArray⟩ : ByteArray)[j].toNat = 10) := by unfold Hid; omega
          clear hb hE h4 hh
          go_wp2_with fail
          refine (lineEnd_any s j hj _ hs).mono ?_
          rintro e w' ⟨k, rfl, hjk, hk, hX, hS, hw'⟩
          rw [hw']
          have hjk' : j < k := hS.out hjB HI.out
          have HX : Hid (i + gapB false (s.drop i) = k + gapB false (s.drop k)) := by unfold Hid; rw [HN.out, hX.out]
          clear hX hS b1 b2 b3 b4 b5 HN HI
          go_wp2_with fail
          go_round
          case rel => exact ⟨k, hk, rfl, HX⟩
          case measure => simp [intOf]; omega
        · have HN : Hid (gapB false (s.drop j) = 0) := gap_stop hjB hb hh
          have b5 : (((⟨s.toArray⟩ : ByteArray)[j].toNat : Int) == 35) = false := beq_eq_false_iff_ne.2 (by omega)
          clear hb h4 hh
          go_wp2_with fail
          go_ret
          exact ⟨ret_int (by have h1 := hE.out; have h2 := HN.out; omega), rfl⟩
    · have HN : Hid (gapB false (s.drop j) = 0) := gap_end _ _ _ (by omega)
      go_wp2_with fail
      go_ret
      exact ⟨ret_int (by have h1 := hE.out; have h2 := HN.out; omega), rfl⟩

set_option maxHeartbeats 400000 in
theorem mostBytes_any (k : Nat) (w : World) :
    Calls Try.prog 48 #[.int .i64 k] w fun e w' => e = .returned (.int .i64 (mostN k)) ∧ w' = w := by
  by_cases h4 : k = 4
  · subst h4
    go_enter Try.func48, Try.ntmps48
    go_wp2
    go_ret
    exact ⟨rfl, rfl⟩
  · by_cases h3 : k = 3
    · subst h3
      go_enter Try.func48, Try.ntmps48
      go_wp2
      go_ret
      exact ⟨rfl, rfl⟩
    · have hm : mostN k = 20 := by unfold mostN; rw [if_neg h4, if_neg h3]
      rw [hm]
      have b4 : ((k : Int) == 4) = false := beq_eq_false_iff_ne.2 (by omega)
      have b3 : ((k : Int) == 3) = false := beq_eq_false_iff_ne.2 (by omega)
      clear h4 h3 hm
      go_enter Try.func48, Try.ntmps48
      go_wp2
      go_ret
      exact ⟨rfl, rfl⟩
set_option maxHeartbeats 1000000 in
theorem check_any (k sz n : Nat) (z : Int) (hz : z = sz) (w : World) :
    Calls Try.prog 24 #[.int .i64 k, .int .i64 z, .int .i64 n] w fun e w' => e = .returned (.int .i64 (chkN k sz n)) ∧ w' = w := by
  subst hz
  by_cases hk : k = 0
  · subst hk
    go_enter Try.func24, Try.ntmps24
    go_wp2
    go_ret
    exact ⟨rfl, rfl⟩
  · have b0 : ((k : Int) == 0) = false := beq_eq_false_iff_ne.2 (by omega)
    by_cases hm : mostN k < sz
    · rw [chk_long n hk hm]
      have i1 : (mostN k : Int) < (sz : Int) := by omega
      clear hk hm
      go_enter Try.func24, Try.ntmps24
      go_wp2_with (go_at_call 48; refine (mostBytes_any k _).mono ?_; rintro e w' ⟨rfl, hw'⟩; rw [hw'])
      go_ret
      exact ⟨rfl, rfl⟩
    · rw [chk_rest n hk hm]
      have i1 : ¬ (mostN k : Int) < (sz : Int) := by omega
      by_cases hn : n = 2000
      · rw [if_pos hn]
        have i2 : ((n : Int) == 2000) = true := beq_iff_eq.2 (by omega)
        clear hk hm hn
        go_enter Try.func24, Try.ntmps24
        go_wp2_with (go_at_call 48; refine (mostBytes_any k _).mono ?_; rintro e w' ⟨rfl, hw'⟩; rw [hw'])
        go_ret
        exact ⟨rfl, rfl⟩
      · rw [if_neg hn]
        have i2 : ((n : Int) == 2000) = false := beq_eq_false_iff_ne.2 (by omega)
        clear hk hm hn
        go_enter Try.func24, Try.ntmps24
        go_wp2_with (go_at_call 48; refine (mostBytes_any k _).mono ?_; rintro e w' ⟨rfl, hw'⟩; rw [hw'])
        go_ret
        exact ⟨rfl, rfl⟩

theorem quote_no {s : List UInt8} {i E : Nat} (hE : i + 1 + ((s.drop (i + 1)).takeWhile textB).length = E) (h : s.length ≤ E) : ¬ (s.drop (i + 1))[((s.drop (i + 1)).takeWhile textB).length]? = some 34 := by
  rw [List.getElem?_drop, hE, List.getElem?_eq_none h]; simp
theorem quote_at {s : List UInt8} {i E : Nat} (hE : i + 1 + ((s.drop (i + 1)).takeWhile textB).length = E) (h : E < (⟨s.toArray⟩ : ByteArray).size) : (s.drop (i + 1))[((s.drop (i + 1)).takeWhile textB).length]? = some (⟨s.toArray⟩ : ByteArray)[E] := by
  have h' : E < s.length := by rw [size_mk] at h; exact h
  rw [List.getElem?_drop, hE, List.getElem?_eq_getElem h']; rfl
/-- What lex.tokenAt hands back. -/
def RawPost (s : List UInt8) (i : Nat) (e : Ending) : Prop := e = .returned (.tuple #[.int .i64 ((rawK (oneS (s.drop i)) : Nat) : Int), .int .i64 ((i + (oneS (s.drop i)).len : Nat) : Int)])
theorem raw_of {s : List UInt8} {i : Nat} {o : One} (ho : oneS (s.drop i) = o) {a b : Nat} (ha : a = rawK o) (hb : b = i + o.len) : RawPost s i (.returned (.tuple #[.int .i64 (a : Int), .int .i64 (b : Int)])) := by
  unfold RawPost; rw [ho, ha, hb]

set_option maxHeartbeats 1000000 in
theorem textAt_any (s : List UInt8) (i : Nat) (hi : i < (⟨s.toArray⟩ : ByteArray).size) (hq : (⟨s.toArray⟩ : ByteArray)[i].toNat = 34) (w : World) (hs : s.length < 4294967281) :
    Calls Try.prog 43 #[.string ⟨s.toArray⟩, .int .i64 i] w fun e w' => RawPost s i e ∧ w' = w := by
  have hil : i < s.length := by rw [size_mk] at hi; exact hi
  have hiI : (i : Int) < (s.length : Int) := by omega
  have h1 : smallB (⟨s.toArray⟩ : ByteArray)[i] = false := by unfold smallB; rw [hq]; rfl
  have h2 : capB (⟨s.toArray⟩ : ByteArray)[i] = false := by unfold capB; rw [hq]; rfl
  have HX := hide (span_any textB 70 enters_inText inText9_any s (i + 1) (by omega) w hs)
  have hle := takeWhile_le textB (s.drop (i + 1))
  rw [List.length_drop] at hle
  obtain ⟨E, hE⟩ : ∃ E, i + 1 + ((s.drop (i + 1)).takeWhile textB).length = E := ⟨_, rfl⟩
  have HE := hide hE
  have hEl : E ≤ s.length := by omega
  have hEi : i + 1 ≤ E := by omega
  rw [hE] at HX
  by_cases hend : E = s.length
  · have HO : Hid (oneS (s.drop i) = ⟨3, 0, [], 0⟩) := by unfold Hid; rw [one_drop hi, oneC_open _ h1 h2 hq (quote_no hE (by omega))]
    have hb : ((E : Int) == (s.length : Int)) = true := beq_iff_eq.2 (by omega)
    clear hE hle h1 h2 hq
    go_enter Try.func43, Try.ntmps43
    go_wp2_with fail
    refine HX.out.mono ?_
    rintro e w' ⟨rfl, hw'⟩
    rw [hw']
    clear hend
    go_wp2_with fail
    go_ret2
    exact ⟨raw_of HO.out rfl rfl, rfl⟩
  · have hb : ((E : Int) == (s.length : Int)) = false := beq_eq_false_iff_ne.2 (by omega)
    have hEI : (E : Int) < (s.length : Int) := by omega
    have hEB : E < (⟨s.toArray⟩ : ByteArray).size := by rw [size_mk]; omega
    have hc : (⟨s.toArray⟩ : ByteArray)[E].toNat < 256 := (⟨s.toArray⟩ : ByteArray)[E].toNat_lt
    by_cases h34 : (⟨s.toArray⟩ : ByteArray)[E].toNat = 34
    · have HO : Hid (oneS (s.drop i) = ⟨if 200 < ((s.drop (i + 1)).takeWhile textB).length then 6 else 0, 3, (s.drop (i + 1)).takeWhile textB, ((s.drop (i + 1)).takeWhile textB).length + 2⟩) := by
        unfold Hid; rw [one_drop hi, oneC_text _ h1 h2 hq (by rw [quote_at hE hEB]; congr 1; exact UInt8.toNat_inj.1 h34)]
      have e1 : (((⟨s.toArray⟩ : ByteArray)[E].toNat : Int) == 34) = true := beq_iff_eq.2 (by omega)
      clear hE hle h1 h2 hq h34
      go_enter Try.func43, Try.ntmps43
      go_wp2_with fail
      refine HX.out.mono ?_
      rintro e w' ⟨rfl, hw'⟩
      rw [hw']
      clear hend
      go_wp2_with fail
      go_ret2
      refine ⟨raw_of (a := 3) (b := E + 1) HO.out ?_ ?_, rfl⟩
      · unfold rawK; simp only []; split <;> simp_all
      · have := HE.out; simp only []; omega
    · have HO : Hid (oneS (s.drop i) = ⟨3, 0, [], 0⟩) := by
        unfold Hid; rw [one_drop hi, oneC_open _ h1 h2 hq (by rw [quote_at hE hEB]; intro h; apply h34; rw [Option.some.inj h]; rfl)]
      have e1 : (((⟨s.toArray⟩ : ByteArray)[E].toNat : Int) == 34) = false := beq_eq_false_iff_ne.2 (by omega)
      clear hE hle h1 h2 hq h34
      go_enter Try.func43, Try.ntmps43
      go_wp2_with fail
      refine HX.out.mono ?_
      rintro e w' ⟨rfl, hw'⟩
      rw [hw']
      clear hend
      go_wp2_with fail
      go_ret2
      exact ⟨raw_of HO.out rfl rfl, rfl⟩

theorem sign_six {c : UInt8} (h : signB c = true) : c.toNat = 123 ∨ c.toNat = 125 ∨ c.toNat = 40 ∨ c.toNat = 41 ∨ c.toNat = 59 ∨ c.toNat = 61 := by
  unfold signB at h; simpa using h
theorem sign_none {c : UInt8} (h : signB c = false) : ¬ c.toNat = 123 ∧ ¬ c.toNat = 125 ∧ ¬ c.toNat = 40 ∧ ¬ c.toNat = 41 ∧ ¬ c.toNat = 59 ∧ ¬ c.toNat = 61 := by
  unfold signB at h; simpa using h
theorem sign_not {c : UInt8} (h : signB c = true) : smallB c = false ∧ capB c = false ∧ ¬ c.toNat = 34 := by
  have := sign_six h
  unfold smallB capB
  refine ⟨?_, ?_, ?_⟩
  · simp; omega
  · simp; omega
  · omega
theorem small_range {c : UInt8} (h : smallB c = true) : 97 ≤ c.toNat ∧ c.toNat ≤ 122 := by unfold smallB at h; simpa using h
theorem cap_range {c : UInt8} (h : capB c = true) : 65 ≤ c.toNat ∧ c.toNat ≤ 90 := by unfold capB at h; simpa using h

set_option maxHeartbeats 2000000 in
theorem tokenAt_any (s : List UInt8) (i : Nat) (hi : i < (⟨s.toArray⟩ : ByteArray).size) (w : World) (hs : s.length < 4294967281) :
    Calls Try.prog 23 #[.string ⟨s.toArray⟩, .int .i64 i] w fun e w' => RawPost s i e ∧ w' = w := by
  have hil : i < s.length := by rw [size_mk] at hi; exact hi
  have hiI : (i : Int) < (s.length : Int) := by omega
  have hc : (⟨s.toArray⟩ : ByteArray)[i].toNat < 256 := (⟨s.toArray⟩ : ByteArray)[i].toNat_lt
  cases h4 : signB (⟨s.toArray⟩ : ByteArray)[i] with
  | true =>
    obtain ⟨n1, n2, n3⟩ := sign_not h4
    have HO : Hid (oneS (s.drop i) = ⟨0, 4, [(⟨s.toArray⟩ : ByteArray)[i]], 1⟩) := by unfold Hid; rw [one_drop hi, oneC_sign _ n1 n2 n3 h4]
    have h6 := sign_six h4
    clear n1 n2 n3 h4
    rcases h6 with h | h | h | h | h | h
    all_goals (
      go_enter Try.func23, Try.ntmps23
      go_wp2_with fail
      go_ret2
      exact ⟨raw_of (a := 4) (b := i + 1) HO.out rfl rfl, rfl⟩)
  | false =>
    have hn := sign_none h4
    have b1 : (((⟨s.toArray⟩ : ByteArray)[i].toNat : Int) == 123) = false := beq_eq_false_iff_ne.2 (by omega)
    have b2 : (((⟨s.toArray⟩ : ByteArray)[i].toNat : Int) == 125) = false := beq_eq_false_iff_ne.2 (by omega)
    have b3 : (((⟨s.toArray⟩ : ByteArray)[i].toNat : Int) == 40) = false := beq_eq_false_iff_ne.2 (by omega)
    have b4 : (((⟨s.toArray⟩ : ByteArray)[i].toNat : Int) == 41) = false := beq_eq_false_iff_ne.2 (by omega)
    have b5 : (((⟨s.toArray⟩ : ByteArray)[i].toNat : Int) == 59) = false := beq_eq_false_iff_ne.2 (by omega)
    have b6 : (((⟨s.toArray⟩ : ByteArray)[i].toNat : Int) == 61) = false := beq_eq_false_iff_ne.2 (by omega)
    clear hn
    by_cases h3 : (⟨s.toArray⟩ : ByteArray)[i].toNat = 34
    · have b7 : (((⟨s.toArray⟩ : ByteArray)[i].toNat : Int) == 34) = true := beq_iff_eq.2 (by omega)
      have HX := hide (textAt_any s i hi h3 w hs)
      clear h4 h3
      go_enter Try.func23, Try.ntmps23
      go_wp2_with fail
      refine HX.out.mono ?_
      rintro e w' ⟨hp, hw'⟩
      have HP := hide hp
      unfold RawPost at hp
      rw [hw', hp]
      clear hp
      go_wp2_with fail
      go_ret2
      exact ⟨rfl, rfl⟩
    · have b7 : (((⟨s.toArray⟩ : ByteArray)[i].toNat : Int) == 34) = false := beq_eq_false_iff_ne.2 (by omega)
      cases h1 : smallB (⟨s.toArray⟩ : ByteArray)[i] with
      | true =>
        have HO : Hid (oneS (s.drop i) = oneC (⟨s.toArray⟩ : ByteArray)[i] (s.drop (i + 1))) := one_drop hi
        have HS := hide (oneC_small (s.drop (i + 1)) h1)
        have HX := hide (span_any nameB9 46 enters_inName inName9_any s i (by omega) w hs)
        clear h4 h3
        have HT : Hid (((s.drop i).takeWhile nameB9).length = (oneS (s.drop i)).len) := by unfold Hid; rw [HO.out, HS.out, drop_at s i hi]
        go_enter Try.func23, Try.ntmps23
        go_wp2_with (go_at_call 44; refine (isSmall9_any _ _).mono ?_; rintro e w' ⟨rfl, hw'⟩; rw [hw', h1])
        refine HX.out.mono ?_
        rintro e w' ⟨rfl, hw'⟩
        rw [hw']
        go_wp2_with fail
        go_ret2
        refine ⟨raw_of (a := 1) HO.out ?_ ?_, rfl⟩
        · rw [HS.out]; unfold rawK; simp only []; split <;> split <;> simp_all
        · rw [← HO.out, HT.out]
      | false =>
        cases h2 : capB (⟨s.toArray⟩ : ByteArray)[i] with
        | true =>
          have HO : Hid (oneS (s.drop i) = oneC (⟨s.toArray⟩ : ByteArray)[i] (s.drop (i + 1))) := one_drop hi
          have HS := hide (oneC_cap (s.drop (i + 1)) h1 h2)
          have HX := hide (span_any capB 47 enters_isCapital isCapital9_any s i (by omega) w hs)
          clear h4 h3
          have HT : Hid (((s.drop i).takeWhile capB).length = (oneS (s.drop i)).len) := by unfold Hid; rw [HO.out, HS.out, drop_at s i hi]
          go_enter Try.func23, Try.ntmps23
          go_wp2_with first
            | (go_at_call 44; refine (isSmall9_any _ _).mono ?_; rintro e w' ⟨rfl, hw'⟩; rw [hw', h1])
            | (go_at_call 47; refine (isCapital9_any _ _).mono ?_; rintro e w' ⟨rfl, hw'⟩; rw [hw', h2])
          refine HX.out.mono ?_
          rintro e w' ⟨rfl, hw'⟩
          rw [hw']
          go_wp2_with fail
          go_ret2
          refine ⟨raw_of (a := 5) HO.out ?_ ?_, rfl⟩
          · rw [HS.out]; unfold rawK; simp only []; split <;> simp_all
          · rw [← HO.out, HT.out]
        | false =>
          have HO : Hid (oneS (s.drop i) = ⟨3, 0, [], 0⟩) := by unfold Hid; rw [one_drop hi, oneC_none _ h1 h2 h3 h4]
          clear h4 h3
          go_enter Try.func23, Try.ntmps23
          go_wp2_with first
            | (go_at_call 44; refine (isSmall9_any _ _).mono ?_; rintro e w' ⟨rfl, hw'⟩; rw [hw', h1])
            | (go_at_call 47; refine (isCapital9_any _ _).mono ?_; rintro e w' ⟨rfl, hw'⟩; rw [hw', h2])
          go_ret2
          exact ⟨raw_of HO.out rfl rfl, rfl⟩
end Go.Proofs.Ytcmmjmgbanafgaa

/- The walk over lex.Word as landed at 1c89fe9. -/
namespace Go.Proofs.Ytcmmjmgbanafgaa
open Go.RowKit Go.Proofs.Url

set_option maxHeartbeats 4000000 in
set_option maxRecDepth 100000 in
theorem Word_any (l : List UInt8) (w : World) :
    Calls Try.prog 49 #[.string ⟨l.toArray⟩] w fun e w' => e = .returned (.bool (wordS l)) ∧ w' = w := by
  go_enter Try.func49, Try.ntmps49
  go_wp2
  all_goals go_ret
  all_goals (refine ⟨ret_bool ?_, rfl⟩; simp_all [wordS, words9])
end Go.Proofs.Ytcmmjmgbanafgaa

/- Walks over lex.makeToken and lex.Tokens as landed at 1c89fe9; what the laws ask of package lex (lex_ok). -/
namespace Go.Proofs.Url
theorem words9_head : ∀ x ∈ words9, (x.head?).any smallB = true := by decide +kernel
theorem word_head {c : UInt8} {r : List UInt8} (h : smallB c = false) : wordS (c :: r) = false := by
  cases e : wordS (c :: r)
  · rfl
  · unfold wordS at e
    rw [List.contains_iff_mem] at e
    have := words9_head _ e
    simp [h] at this
theorem oneC_le (c : UInt8) (r : List UInt8) : (oneC c r).len ≤ r.length + 1 := by
  cases h1 : smallB c with
  | true => rw [oneC_small r h1]; exact (run_pos r (small_name h1)).2
  | false =>
    cases h2 : capB c with
    | true => rw [oneC_cap r h1 h2]; exact (run_pos r h2).2
    | false =>
      by_cases h3 : c.toNat = 34
      · by_cases hq : r[(r.takeWhile textB).length]? = some 34
        · have : (r.takeWhile textB).length < r.length := by
            rcases Nat.lt_or_ge (r.takeWhile textB).length r.length with h | h
            · exact h
            · rw [List.getElem?_eq_none h] at hq; cases hq
          rw [oneC_text r h1 h2 h3 hq]
          simp; omega
        · rw [oneC_open r h1 h2 h3 hq]; simp
      · cases h4 : signB c with
        | true => rw [oneC_sign r h1 h2 h3 h4]; simp
        | false => rw [oneC_none r h1 h2 h3 h4]; simp
theorem one_le (l : List UInt8) (h : 0 < l.length) : (oneS l).len ≤ l.length := by
  cases l with
  | nil => simp at h
  | cons c r => exact oneC_le c r
end Go.Proofs.Url
namespace Go.Proofs.Ytcmmjmgbanafgaa
open Go.RowKit Go.Proofs.Url

theorem quoted_mid (T : List UInt8) : (⟨(34 :: (T ++ [34])).toArray⟩ : ByteArray).extract 1 (T.length + 1) = ⟨T.toArray⟩ := by
  refine dataEq ?_
  rw [Lib.extract_data]
  simp
theorem resReadMk {W : World} {r : Nat} {a b : Int} {c : List UInt8} {tmps : Array Value} (h : TB W r a b c) (h6 : tmps[6]?.getD undef = .pointer (some ⟨r, 0, none⟩)) :
    (results Try.f25 tmps).run Try.prog W = .ok (.agg #[.int .i64 a, .int .i64 b, .string ⟨c.toArray⟩]) W := by
  obtain ⟨c0, c1, c2, _⟩ := h
  simp [results, Try.results25, go_sem, h6, c0, c1, c2]

set_option maxHeartbeats 2000000 in
theorem mkText_any (T : List UInt8) (i : Nat) (w : World) (hl : T.length < 4294967279) :
    Calls Try.prog 25 #[.int .i64 3, .int .i64 i, .string ⟨(34 :: (T ++ [34])).toArray⟩] w fun e w' => e = .returned (.agg #[.int .i64 3, .int .i64 i, .string ⟨T.toArray⟩]) ∧ Below w.heap.size w w' := by
  have hx := quoted_mid T
  obtain ⟨P, hP⟩ : ∃ P, P = 34 :: (T ++ [34]) := ⟨_, rfl⟩
  have hPl : P.length = T.length + 2 := by rw [hP]; simp
  rw [← hP] at hx ⊢
  have i1 : (1 : Int) ≤ (P.length : Int) - 1 := by omega
  have i2 : ((P.length : Int) - 1).toNat = T.length + 1 := by omega
  have i3 : (P.length : Int) - 1 ≤ (P.length : Int) := by omega
  have hLim : P.length < 4294967281 := by omega
  have HT : Hid (T.length < 4294967279) := hl
  clear hP hPl hl
  go_enter Try.func25, Try.ntmps25
  go_upto_region 1 with fail
  have R0 := hide (TB.new w 0 0 [] 39)
  have B0 := hide ((Below.refl w.heap.size w).alloc (Nat.le_refl _) (.cells #[.int .i64 0, .int .i64 0, .string ⟨#[]⟩] 39))
  obtain ⟨W0, hW0⟩ : ∃ W0, W0 = w.alloc (.cells #[.int .i64 0, .int .i64 0, .string ⟨#[]⟩] 39) := ⟨_, rfl⟩
  rw [← hW0]
  replace R0 : Hid (TB W0 w.heap.size 0 0 []) := by unfold Hid; rw [hW0]; exact R0.out
  rw [← hW0] at B0
  clear hW0
  go_wp2_with fail
  refine (clone_any ⟨T.toArray⟩ _ (by rw [size_mk]; have := HT.out; omega)).mono ?_
  rintro e w1 ⟨rfl, hb1⟩
  have R1 := hide (R0.out.keep hb1)
  have B1 := hide (B0.out.trans (hb1.mono B0.out.size))
  clear hb1 R0 B0
  have r0 := R1.out.c0
  have r1 := R1.out.c1
  have r2 := R1.out.c2
  have q0 := R1.out.fr 0 (by decide)
  have q1 := R1.out.fr 1 (by decide)
  have q2 := R1.out.fr 2 (by decide)
  have hgl := R1.out.lt
  have HP : Hid (TB (put3 w1 w.heap.size 3 i T) w.heap.size 3 i T) := R1.out.put _ _ _
  have HB : Hid (Below w.heap.size w (put3 w1 w.heap.size 3 i T)) := put3_below B1.out _ (Nat.le_refl _) _ _ _
  unfold put3 at HP HB
  go_wp2_with fail
  refine bodyPost_ret (v := .agg #[.int .i64 3, .int .i64 i, .string ⟨T.toArray⟩]) ?_ rfl ?_
  · exact resReadMk HP.out rfl
  · exact ⟨rfl, HB.out⟩

set_option maxHeartbeats 2000000 in
theorem mkPlain_at (k i m : Nat) (T : List UInt8) (hk : k ≠ 3) (hm : m = if wordS T then 2 else k) (w : World) (hl : T.length < 4294967281) :
    Calls Try.prog 25 #[.int .i64 k, .int .i64 i, .string ⟨T.toArray⟩] w fun e w' => e = .returned (.agg #[.int .i64 m, .int .i64 i, .string ⟨T.toArray⟩]) ∧ Below w.heap.size w w' := by
  have b3 : ((k : Int) == 3) = false := beq_eq_false_iff_ne.2 (by omega)
  have HT : Hid (T.length < 4294967281) := hl
  clear hk hl
  go_enter Try.func25, Try.ntmps25
  go_upto_region 1 with fail
  have R0 := hide (TB.new w 0 0 [] 39)
  have B0 := hide ((Below.refl w.heap.size w).alloc (Nat.le_refl _) (.cells #[.int .i64 0, .int .i64 0, .string ⟨#[]⟩] 39))
  obtain ⟨W0, hW0⟩ : ∃ W0, W0 = w.alloc (.cells #[.int .i64 0, .int .i64 0, .string ⟨#[]⟩] 39) := ⟨_, rfl⟩
  rw [← hW0]
  replace R0 : Hid (TB W0 w.heap.size 0 0 []) := by unfold Hid; rw [hW0]; exact R0.out
  rw [← hW0] at B0
  clear hW0
  go_wp2_with fail
  refine (Word_any T _).mono ?_
  rintro e w' ⟨rfl, hw'⟩
  rw [hw']
  cases hw : wordS T with
  | true =>
    obtain rfl : m = 2 := by rw [hm, hw]; rfl
    clear hm
    go_wp2_with fail
    refine (clone_any ⟨T.toArray⟩ _ (by rw [size_mk]; have := HT.out; omega)).mono ?_
    rintro e w1 ⟨rfl, hb1⟩
    have R1 := hide (R0.out.keep hb1)
    have B1 := hide (B0.out.trans (hb1.mono B0.out.size))
    clear hb1 R0 B0
    have r0 := R1.out.c0
    have r1 := R1.out.c1
    have r2 := R1.out.c2
    have q0 := R1.out.fr 0 (by decide)
    have q1 := R1.out.fr 1 (by decide)
    have q2 := R1.out.fr 2 (by decide)
    have hgl := R1.out.lt
    have HP : Hid (TB (put3 w1 w.heap.size 2 i T) w.heap.size 2 i T) := R1.out.put _ _ _
    have HB : Hid (Below w.heap.size w (put3 w1 w.heap.size 2 i T)) := put3_below B1.out _ (Nat.le_refl _) _ _ _
    unfold put3 at HP HB
    go_wp2_with fail
    refine bodyPost_ret (v := .agg #[.int .i64 2, .int .i64 i, .string ⟨T.toArray⟩]) ?_ rfl ?_
    · exact resReadMk HP.out rfl
    · exact ⟨rfl, HB.out⟩
  | false =>
    obtain rfl : m = k := by rw [hm, hw]; rfl
    clear hm
    go_wp2_with fail
    refine (clone_any ⟨T.toArray⟩ _ (by rw [size_mk]; have := HT.out; omega)).mono ?_
    rintro e w1 ⟨rfl, hb1⟩
    have R1 := hide (R0.out.keep hb1)
    have B1 := hide (B0.out.trans (hb1.mono B0.out.size))
    clear hb1 R0 B0
    have r0 := R1.out.c0
    have r1 := R1.out.c1
    have r2 := R1.out.c2
    have q0 := R1.out.fr 0 (by decide)
    have q1 := R1.out.fr 1 (by decide)
    have q2 := R1.out.fr 2 (by decide)
    have hgl := R1.out.lt
    have HP : Hid (TB (put3 w1 w.heap.size m i T) w.heap.size m i T) := R1.out.put _ _ _
    have HB : Hid (Below w.heap.size w (put3 w1 w.heap.size m i T)) := put3_below B1.out _ (Nat.le_refl _) _ _ _
    unfold put3 at HP HB
    go_wp2_with fail
    refine bodyPost_ret (v := .agg #[.int .i64 m, .int .i64 i, .string ⟨T.toArray⟩]) ?_ rfl ?_
    · exact resReadMk HP.out rfl
    · exact ⟨rfl, HB.out⟩

theorem mkPlain_any (k i : Nat) (T : List UInt8) (hk : k ≠ 3) (w : World) (hl : T.length < 4294967281) :
    Calls Try.prog 25 #[.int .i64 k, .int .i64 i, .string ⟨T.toArray⟩] w fun e w' => e = .returned (.agg #[.int .i64 (((if wordS T then 2 else k) : Nat) : Int), .int .i64 i, .string ⟨T.toArray⟩]) ∧ Below w.heap.size w w' := mkPlain_at k i _ T hk rfl w hl

theorem text_cut {s : List UInt8} {i : Nat} (h : i < (⟨s.toArray⟩ : ByteArray).size) (hq : (⟨s.toArray⟩ : ByteArray)[i].toNat = 34) (hr : (s.drop (i + 1))[((s.drop (i + 1)).takeWhile textB).length]? = some 34) :
    (⟨s.toArray⟩ : ByteArray).extract i (i + (((s.drop (i + 1)).takeWhile textB).length + 2)) = ⟨(34 :: ((s.drop (i + 1)).takeWhile textB ++ [34])).toArray⟩ := by
  refine dataEq ?_
  rw [Lib.extract_data]
  simp only
  rw [drop_at s i h, show i + (((s.drop (i + 1)).takeWhile textB).length + 2) - i = ((s.drop (i + 1)).takeWhile textB).length + 1 + 1 by omega, List.take_succ_cons]
  have e1 : (⟨s.toArray⟩ : ByteArray)[i] = 34 := UInt8.toNat_inj.1 hq
  rw [e1]
  congr 1
  generalize s.drop (i + 1) = r at *
  obtain ⟨q, hq'⟩ := List.takeWhile_prefix textB (l := r)
  generalize r.takeWhile textB = t at *
  rw [← hq', List.getElem?_append_right (Nat.le_refl _), Nat.sub_self] at hr
  rw [← hq', List.take_length_add_append]
  cases q with
  | nil => simp at hr
  | cons a q => simp at hr; rw [hr]; rfl

theorem mk_any (s : List UInt8) (i : Nat) (hi : i < (⟨s.toArray⟩ : ByteArray).size) (hc : (oneS (s.drop i)).code = 0) (w : World) (hs : s.length < 4294967281) :
    Calls Try.prog 25 #[.int .i64 (rawK (oneS (s.drop i))), .int .i64 i, .string ((⟨s.toArray⟩ : ByteArray).extract i (i + (oneS (s.drop i)).len))] w fun e w' => e = .returned (.agg #[.int .i64 ((oneS (s.drop i)).kind : Nat), .int .i64 i, .string ⟨(oneS (s.drop i)).text.toArray⟩]) ∧ Below w.heap.size w w' := by
  have hil : i < s.length := by rw [size_mk] at hi; exact hi
  have HO := one_drop hi
  have hle : ∀ f, ((s.drop i).takeWhile f).length ≤ s.length := fun f => by
    have := takeWhile_le f (s.drop i)
    rw [List.length_drop] at this; omega
  cases h1 : smallB (⟨s.toArray⟩ : ByteArray)[i] with
  | true =>
    have HS := oneC_small (s.drop (i + 1)) h1
    rw [← drop_at s i hi] at HS
    rw [HO, HS] at hc ⊢
    have e : rawK ⟨if 20 < ((s.drop i).takeWhile nameB9).length then 6 else 0, if wordS ((s.drop i).takeWhile nameB9) then 2 else 1, (s.drop i).takeWhile nameB9, ((s.drop i).takeWhile nameB9).length⟩ = 1 := by
      unfold rawK; rw [if_neg (by rw [hc]; decide)]
      cases wordS ((s.drop i).takeWhile nameB9) <;> rfl
    rw [e]
    simp only []
    rw [run_text nameB9 s i _ rfl]
    exact mkPlain_any 1 i _ (by decide) w (Nat.lt_of_le_of_lt (hle _) hs)
  | false =>
    cases h2 : capB (⟨s.toArray⟩ : ByteArray)[i] with
    | true =>
      have HS := oneC_cap (s.drop (i + 1)) h1 h2
      rw [← drop_at s i hi] at HS
      rw [HO, HS] at hc ⊢
      have e : rawK ⟨if 20 < ((s.drop i).takeWhile capB).length then 6 else 0, 5, (s.drop i).takeWhile capB, ((s.drop i).takeWhile capB).length⟩ = 5 := by
        unfold rawK; rw [if_neg (by rw [hc]; decide)]; rfl
      rw [e]
      simp only []
      rw [run_text capB s i _ rfl]
      have hw : wordS ((s.drop i).takeWhile capB) = false := by rw [drop_at s i hi, List.takeWhile_cons, if_pos h2]; exact word_head h1
      have := mkPlain_any 5 i _ (by decide) w (Nat.lt_of_le_of_lt (hle capB) hs)
      rw [hw] at this
      exact this
    | false =>
      by_cases h3 : (⟨s.toArray⟩ : ByteArray)[i].toNat = 34
      · by_cases hq : (s.drop (i + 1))[((s.drop (i + 1)).takeWhile textB).length]? = some 34
        · have HS := oneC_text (s.drop (i + 1)) h1 h2 h3 hq
          rw [HO, HS] at hc ⊢
          have e : rawK ⟨if 200 < ((s.drop (i + 1)).takeWhile textB).length then 6 else 0, 3, (s.drop (i + 1)).takeWhile textB, ((s.drop (i + 1)).takeWhile textB).length + 2⟩ = 3 := by
            unfold rawK; rw [if_neg (by rw [hc]; decide)]; rfl
          rw [e]
          simp only []
          rw [text_cut hi h3 hq]
          refine mkText_any _ i w ?_
          have hl2 : ((s.drop (i + 1)).takeWhile textB).length < (s.drop (i + 1)).length := by
            rcases Nat.lt_or_ge ((s.drop (i + 1)).takeWhile textB).length (s.drop (i + 1)).length with h | h
            · exact h
            · rw [List.getElem?_eq_none h] at hq; cases hq
          rw [List.length_drop] at hl2
          omega
        · rw [HO, oneC_open _ h1 h2 h3 hq] at hc; cases hc
      · cases h4 : signB (⟨s.toArray⟩ : ByteArray)[i] with
        | true =>
          rw [HO, oneC_sign _ h1 h2 h3 h4]
          simp only []
          rw [one_byte s i hi]
          have := mkPlain_any 4 i [(⟨s.toArray⟩ : ByteArray)[i]] (by decide) w (by simp)
          rw [word_head h1] at this
          exact this
        | false => rw [HO, oneC_none _ h1 h2 h3 h4] at hc; cases hc

theorem resReadTok {W : World} {r : Nat} {a b : Int} {v : Value} {tmps : Array Value} (h : WB W r a b) (h2 : tmps[2]?.getD undef = v) (h3 : tmps[3]?.getD undef = .pointer (some ⟨r, 0, none⟩)) :
    (results Try.f12 tmps).run Try.prog W = .ok (.tuple #[v, .agg #[.int .i64 a, .int .i64 b]]) W := by
  obtain ⟨c0, c1, _⟩ := h
  simp [results, Try.results12, go_sem, h2, h3, c0, c1]
theorem chk_one {s : List UInt8} {i : Nat} (h : i < (⟨s.toArray⟩ : ByteArray).size) (n : Nat) : chkN (rawK (oneS (s.drop i))) (oneS (s.drop i)).len n = if (oneS (s.drop i)).code ≠ 0 then (oneS (s.drop i)).code else if n = 2000 then 6 else 0 := by
  rw [one_drop h]; exact chk_oneC _ _ _

set_option maxHeartbeats 4000000 in
set_option maxRecDepth 100000 in
theorem Tokens_any (s : List UInt8) (w : World) (hs : s.length < 4294967281) :
    Calls Try.prog 12 #[.string ⟨s.toArray⟩] w fun e w' => TokPost s w e w' := by
  obtain ⟨i0, hi, hz0, hz1, hz2⟩ := info_parts infoT
  by_cases h8 : 8000 < s.length
  · have i8 : (8000 : Int) < (s.length : Int) := by omega
    have HT : Hid (toksS s = .bad 6 0) := by unfold Hid toksS; rw [if_pos h8]
    clear h8 hi hz0 hz1 hz2
    go_enter Try.func12, Try.ntmps12
    go_upto_region 1 with fail
    have R0 := hide (WB.new w 0 0 25)
    have B0 := hide ((Below.refl w.heap.size w).alloc (Nat.le_refl _) (.cells #[.int .i64 0, .int .i64 0] 25))
    obtain ⟨W0, hW0⟩ : ∃ W0, W0 = w.alloc (.cells #[.int .i64 0, .int .i64 0] 25) := ⟨_, rfl⟩
    rw [← hW0] at R0 B0 ⊢
    clear hW0
    have r0 := R0.out.c0
    have r1 := R0.out.c1
    have q0 := R0.out.fr 0 (by decide)
    have q1 := R0.out.fr 1 (by decide)
    have hgl := R0.out.lt
    have HP : Hid (WB (put2 W0 w.heap.size 6 0) w.heap.size 6 0) := R0.out.put _ _
    have HB : Hid (Below w.heap.size w (put2 W0 w.heap.size 6 0)) := put2_below B0.out _ (Nat.le_refl _) _ _
    unfold put2 at HP HB
    go_wp2_with fail
    refine bodyPost_ret (v := .tuple #[.slice none 0 0, .agg #[.int .i64 6, .int .i64 0]]) ?_ rfl ?_
    · exact resReadTok HP.out rfl rfl
    · exact tok_bad HT.out HB.out
  have i8 : ¬ (8000 : Int) < (s.length : Int) := by omega
  have HS := hide (toksS_small (s := s) (by omega))
  have HI := hide hi
  have HZ0 := hide hz0
  have HZ1 := hide hz1
  have HZ2 := hide hz2
  clear hi hz0 hz1 hz2
  have HG0 := hide (toksAt_gap s 0 0)
  have hg0 := gapB_le false (s.drop 0)
  rw [List.length_drop] at hg0
  go_enter Try.func12, Try.ntmps12
  go_upto_region 1 with fail
  have R0 := hide (WB.new w 0 0 25)
  have B0 := hide ((Below.refl w.heap.size w).alloc (Nat.le_refl _) (.cells #[.int .i64 0, .int .i64 0] 25))
  obtain ⟨W0, hW0⟩ : ∃ W0, W0 = w.alloc (.cells #[.int .i64 0, .int .i64 0] 25) := ⟨_, rfl⟩
  rw [← hW0] at R0 B0 ⊢
  clear hW0
  go_wp2_with fail
  refine (gapEnd_any s 0 (Nat.zero_le _) _ hs).mono ?_
  rintro e w' ⟨rfl, hw'⟩
  rw [hw']
  replace hg0 : 0 + gapB false (s.drop 0) ≤ s.length := by omega
  generalize 0 + gapB false (s.drop 0) = j0 at *
  go_wp2_with fail
  go_loopw [4, 5] (fun ov iv W => ∃ (j : Nat) (ts : List Tk) (ao : Option Addr) (cv : Nat), j ≤ s.length ∧ iv = .int .i64 j ∧ ov = .slice ao ts.length cv ∧ ts.length ≤ 2000 ∧ Hid (toksS s = (toksG s j ts.length).put ts) ∧
      Hid (WB W w.heap.size 0 0) ∧ Hid (W.ownsRow (w.heap.size + 1) 39 3 (.slice ao ts.length cv) ts.length (ts.flatMap tkCells)) ∧ Hid (Below w.heap.size w W)) (fun _ iv _ => s.length - (intOf iv).toNat)
  case atStart => exact ⟨j0, [], none, 0, by omega, rfl, rfl, Nat.zero_le _, by unfold Hid; rw [put_nil, HS.out, HG0.out]; rfl, R0, World.ownsRow_nil _ _ _ _, B0⟩
  case round =>
    obtain ⟨j, ts, ao, cv, hj, rfl, rfl, hts, hT, hR, hO, hB⟩ := hrel
    have hRl := hR.out.lt
    by_cases hlt : j < s.length
    · have hlI : (j : Int) < (s.length : Int) := by omega
      have hjB : j < (⟨s.toArray⟩ : ByteArray).size := by rw [size_mk]; exact hlt
      have HK := hide (chk_one hjB ts.length)
      have HM := hide (mk_any s j hjB)
      have HJ := hide hjB
      clear hjB
      go_wp2_with fail
      refine (tokenAt_any s j HJ.out _ hs).mono ?_
      rintro e w' ⟨hp, hw'⟩
      unfold RawPost at hp
      rw [hw', hp]
      clear hp
      have hkl : j + (oneS (s.drop j)).len ≤ s.length := by
        have := one_le (s.drop j) (by rw [List.length_drop]; omega)
        rw [List.length_drop] at this; omega
      by_cases hc : (oneS (s.drop j)).code = 0
      · have hlen := one_len hc
        have hkj : j < j + (oneS (s.drop j)).len := by omega
        have HC := hide hc
        have HM1 := hide (fun w => HM.out hc w hs)
        by_cases hn : ts.length = 2000
        · have HK1 : Hid (chkN (rawK (oneS (s.drop j))) (oneS (s.drop j)).len ts.length = 6) := by unfold Hid; rw [HK.out, if_neg (by simp [hc]), if_pos hn]
          have HT : Hid (toksS s = .bad 6 j) := by unfold Hid; rw [hT.out, hn, toksG_full hlt HC.out]; rfl
          clear hn hT hc hlen HM HM1 HK
          generalize (oneS (s.drop j)).len = ln at *
          generalize rawK (oneS (s.drop j)) = rk at *
          have r0 := hR.out.c0
          have r1 := hR.out.c1
          have q0 := hR.out.fr 0 (by decide)
          have q1 := hR.out.fr 1 (by decide)
          have HP : Hid (WB (put2 wr w.heap.size 6 j) w.heap.size 6 j) := hR.out.put _ _
          have HB : Hid (Below w.heap.size w (put2 wr w.heap.size 6 j)) := put2_below hB.out _ (Nat.le_refl _) _ _
          unfold put2 at HP HB
          clear hR hO hB
          go_wp2_with (go_at_call 24; refine (check_any rk ln ts.length _ (by omega) _).mono ?_; rintro e w' ⟨rfl, hw'⟩; rw [hw', HK1.out])
          refine bodyPost_ret (v := .tuple #[.slice none 0 0, .agg #[.int .i64 6, .int .i64 j]]) ?_ rfl ?_
          · exact resReadTok HP.out rfl rfl
          · exact tok_bad HT.out HB.out
        · have HK1 : Hid (chkN (rawK (oneS (s.drop j))) (oneS (s.drop j)).len ts.length = 0) := by unfold Hid; rw [HK.out, if_neg (by simp [hc]), if_neg hn]
          have HN : Hid (toksS s = (toksG s (j + (oneS (s.drop j)).len + gapB false (s.drop (j + (oneS (s.drop j)).len))) (ts.length + 1)).put (ts ++ [⟨(oneS (s.drop j)).kind, j, (oneS (s.drop j)).text⟩])) := by
            unfold Hid; rw [hT.out, toksG_on hlt HC.out hn, put_put, toksAt_gap]
          have hg2 : j + (oneS (s.drop j)).len + gapB false (s.drop (j + (oneS (s.drop j)).len)) ≤ s.length := by
            have := gapB_le false (s.drop (j + (oneS (s.drop j)).len))
            rw [List.length_drop] at this; omega
          have hg3 : j < j + (oneS (s.drop j)).len + gapB false (s.drop (j + (oneS (s.drop j)).len)) := by omega
          have HGp := hide (fun W => gapEnd_any s (j + (oneS (s.drop j)).len) hkl W hs)
          have hklI : (j : Int) + ((oneS (s.drop j)).len : Int) ≤ (s.length : Int) := by omega
          clear hT hc hlen HM HK HC
          generalize (oneS (s.drop j)).kind = kd at *
          generalize (oneS (s.drop j)).text = tx at *
          generalize rawK (oneS (s.drop j)) = rk at *
          generalize (oneS (s.drop j)).len = ln at *
          obtain ⟨j2, hj2⟩ : ∃ j2, j2 = j + ln + gapB false (s.drop (j + ln)) := ⟨_, rfl⟩
          rw [← hj2] at HN hg2 hg3 HGp
          have hn2 : ts.length + 1 ≤ 2000 := by omega
          clear hn hj2
          go_wp2_with (go_at_call 24; refine (check_any rk ln ts.length _ (by omega) _).mono ?_; rintro e w' ⟨rfl, hw'⟩; rw [hw', HK1.out])
          refine (HM1.out _).mono ?_
          rintro e w1 ⟨rfl, hb1⟩
          have R2 := hide (hR.out.keep hb1)
          have O2 := hide (owns_below hO.out hb1)
          have B2 := hide (hB.out.trans (hb1.mono hB.out.size))
          have hs2 := hb1.size
          clear hb1 hR hO hB
          have hw2 : w.heap.size + 1 ≤ w1.heap.size := by omega
          have HBs : Hid (∀ j, (Value.slice ao ts.length cv).ownBlock = some j → w.heap.size + 1 ≤ j) := fun j hj => owns_base O2.out j hj
          go_wp2_with (at_builtin; refine wpList_append_own _ rfl _ _ 35 rfl (w.heap.size + 1) 39 i0 _ 3 32 Try.underlying35 HI.out HZ0.out HZ1.out HZ2.out rfl (by decide) _ _ _ rfl (O2.out.alloc _) ⟨w1.heap.size, 0, none⟩ 1 1 (tkCells ⟨kd, j, tx⟩) rfl rfl (cell_row_at _ _ _) (fun x hx => by simp [tkCells] at hx; rcases hx with rfl | rfl | rfl <;> rfl) (by unfold maxLen; omega) (by omega) (by simp; omega) ?_; intro v' w4 hown' hgrow4 hnil4)
          have B4 : Below (w.heap.size + 1) w1 w4 := Below.trans ((Below.refl _ _).alloc (by omega) _) (Below.grown (Below.refl _ _) hgrow4 (by simp; omega) HBs.out)
          obtain ⟨ao2, cv2, rfl, hown3⟩ := toks_roundB hown'
          have R4 := hide (R2.out.keepB B4 (Nat.lt_succ_self _))
          have B5 := hide (B2.out.trans (B4.mono (Nat.le_succ _)))
          clear hown' hgrow4 hnil4 B4 R2 B2 O2 HBs
          refine (HGp.out _).mono ?_
          rintro e w' ⟨rfl, hw'⟩
          rw [hw']
          have hl2 : (ts ++ [(⟨kd, j, tx⟩ : Tk)]).length = ts.length + 1 := by simp
          go_wp2_with fail
          exact ⟨⟨j2, ts ++ [⟨kd, j, tx⟩], ao2, cv2, hg2, rfl, by rw [hl2], by rw [hl2]; exact hn2, by unfold Hid; rw [hl2]; exact HN.out, R4, hown3, B5⟩, by simp [intOf]; omega⟩
      · have HK1 : Hid (chkN (rawK (oneS (s.drop j))) (oneS (s.drop j)).len ts.length = (oneS (s.drop j)).code) := by unfold Hid; rw [HK.out, if_pos hc]
        have HT : Hid (toksS s = .bad (oneS (s.drop j)).code j) := by unfold Hid; rw [hT.out, toksG_bad _ hlt hc]; rfl
        have hcb : (((oneS (s.drop j)).code : Int) == 0) = false := beq_eq_false_iff_ne.2 (by omega)
        clear hc hT HM HK
        generalize (oneS (s.drop j)).code = cd at *
        generalize rawK (oneS (s.drop j)) = rk at *
        generalize (oneS (s.drop j)).len = ln at *
        have r0 := hR.out.c0
        have r1 := hR.out.c1
        have q0 := hR.out.fr 0 (by decide)
        have q1 := hR.out.fr 1 (by decide)
        have HP : Hid (WB (put2 wr w.heap.size cd j) w.heap.size cd j) := hR.out.put _ _
        have HB : Hid (Below w.heap.size w (put2 wr w.heap.size cd j)) := put2_below hB.out _ (Nat.le_refl _) _ _
        unfold put2 at HP HB
        clear hR hO hB
        go_wp2_with (go_at_call 24; refine (check_any rk ln ts.length _ (by omega) _).mono ?_; rintro e w' ⟨rfl, hw'⟩; rw [hw', HK1.out])
        refine bodyPost_ret (v := .tuple #[.slice none 0 0, .agg #[.int .i64 cd, .int .i64 j]]) ?_ rfl ?_
        · exact resReadTok HP.out rfl rfl
        · exact tok_bad HT.out HB.out
    · have hlI : ¬ (j : Int) < (s.length : Int) := by omega
      have HT : Hid (toksS s = .ok ts) := by unfold Hid; rw [hT.out, toksG_end _ (by omega)]; simp [Toks.put]
      have r0 := hR.out.c0
      have r1 := hR.out.c1
      have q0 := hR.out.fr 0 (by decide)
      have q1 := hR.out.fr 1 (by decide)
      have HP : Hid (WB (put2 wr w.heap.size 0 0) w.heap.size 0 0) := hR.out.put _ _
      have HB : Hid (Below w.heap.size w (put2 wr w.heap.size 0 0)) := put2_below hB.out _ (Nat.le_refl _) _ _
      have HOw : Hid ((put2 wr w.heap.size 0 0).ownsRow w.heap.size 39 3 (.slice ao ts.length cv) ts.length (ts.flatMap tkCells)) := owns_lowT (owns_put2 hO.out _ (Nat.lt_succ_self _) _ _) (Nat.le_succ _)
      unfold put2 at HP HB HOw
      clear hT hR hO hB
      go_wp2_with fail
      refine bodyPost_ret (v := .tuple #[.slice ao ts.length cv, .agg #[.int .i64 0, .int .i64 0]]) ?_ rfl ?_
      · exact resReadTok HP.out rfl rfl
      · exact ⟨ao, cv, ts, 0, 0, rfl, HOw.out, .inl ⟨HT.out, rfl, rfl⟩, HB.out⟩
theorem lex_ok : LexOk := ⟨fun s w _ hs => Tokens_any s w hs, fun s w _ _ => (Word_any s w).mono (by rintro e w' ⟨rfl, rfl⟩; exact ⟨rfl, Below.refl _ _⟩)⟩
end Go.Proofs.Ytcmmjmgbanafgaa
