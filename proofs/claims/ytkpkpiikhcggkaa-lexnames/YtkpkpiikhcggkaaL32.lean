/- The walk over moatlaw9.LexNames, by what package lex gives. -/
import Derived.Test.YtkpkpiikhcggkaaLx5
import Derived.Test.YtkpkpiikhcggkaaLx7
import Derived.Test.YtkpkpiikhcggkaaLT
namespace Go.Proofs.Ytkpkpiikhcggkaa
open Go.RowKit Go.Proofs.Url

theorem alph_ext (k : Nat) (h : k < 37) : (⟨#[97, 98, 99, 100, 101, 102, 103, 104, 105, 106, 107, 108, 109, 110, 111, 112, 113, 114, 115, 116, 117, 118, 119, 120, 121, 122, 48, 49, 50, 51, 52, 53, 54, 55, 56, 57, 95]⟩ : ByteArray).extract k (k + 1) = ⟨[alphAt k].toArray⟩ := by
  have hk : k < (⟨alph9.toArray⟩ : ByteArray).size := by rw [size_mk]; exact h
  have e := one_byte alph9 k hk
  have e2 : (⟨alph9.toArray⟩ : ByteArray)[k] = alphAt k := by
    have : k < alph9.length := h
    unfold alphAt
    rw [List.getD_eq_getElem?_getD, List.getElem?_eq_getElem this]
    rfl
  rw [e2] at e
  exact e

set_option maxHeartbeats 4000000 in
set_option maxRecDepth 100000 in
theorem lexNames_walk (ok : LexOk) (a0 : Option Addr) (len0 cap0 : Nat) (z : Nat → Int) (w : World) (henv : Env w) (hrow : RowI w a0 len0 z) :
    Calls Try.prog 6 #[.slice a0 len0 cap0] w fun e w' => e = .returned (.bool true) ∧ Below w.heap.size w w' := by
  have OK := hide ok
  have HE := hide henv
  have XA := hide (fun W hb => awake9_any ok W (henv.keep (w' := W) hb))
  clear ok henv
  by_cases h0 : len0 = 0
  · subst h0
    clear hrow
    go_enter Try.func6, Try.ntmps6
    go_wp2_with fail
    refine (XA.out _ (Below.refl _ _)).mono ?_
    rintro e w1 ⟨rfl, hb1⟩
    go_wp2_with fail
    go_ret
    exact ⟨rfl, hb1⟩
  have i0 : ((len0 : Int) == 0) = false := beq_eq_false_iff_ne.2 (by omega)
  by_cases h30 : 30 < len0
  · have i1 : (30 : Int) < (len0 : Int) := by omega
    clear h30 hrow h0
    go_enter Try.func6, Try.ntmps6
    go_wp2_with fail
    refine (XA.out _ (Below.refl _ _)).mono ?_
    rintro e w1 ⟨rfl, hb1⟩
    go_wp2_with fail
    go_ret
    exact ⟨rfl, hb1⟩
  have i1 : ¬ (30 : Int) < (len0 : Int) := by omega
  have HRow := hide hrow
  have H0 := hide h0
  clear hrow h0
  go_enter Try.func6, Try.ntmps6
  go_wp2_with fail
  go_loop [3, 4] (fun sv iv => ∃ (k : Nat) (s : List UInt8), k ≤ len0 ∧ iv = .int .i64 k ∧ sv = .string ⟨s.toArray⟩ ∧ Hid (s.length = k) ∧ s.length ≤ 30 ∧ Hid (NameOk s)) (fun _ iv => len0 - (intOf iv).toNat)
  case atStart => exact ⟨0, [], Nat.zero_le _, rfl, rfl, rfl, by simp, name_nil⟩
  case round =>
    obtain ⟨k, s, hk, rfl, rfl, hsl, hs30, hno⟩ := hrel
    by_cases hlt : k < len0
    · obtain ⟨b, off, rfl, hbw, hcell⟩ := HRow.out k hlt
      have hlI : (k : Int) < (len0 : Int) := by omega
      have hK : lowT (z k) 37 < 37 := lowT_lt _ 37 (by decide)
      by_cases hk0 : k = 0
      · have hkb : ((k : Int) == 0) = true := beq_iff_eq.2 (by omega)
        have HS0 : Hid (s = []) := by
          have := hsl.out
          exact List.eq_nil_of_length_eq_zero (by omega)
        have hM : lowT (z k) 37 % 26 < 26 := Nat.mod_lt _ (by decide)
        have hx := alph_ext (lowT (z k) 37 % 26) (by omega)
        have HN : Hid (NameOk (s ++ [alphAt (lowT (z k) 37 % 26)])) := name_more hno.out (alph_name ⟨lowT (z k) 37 % 26, by omega⟩) (fun _ => alph_small ⟨lowT (z k) 37 % 26, hM⟩)
        have hk1 : k + 1 ≤ len0 := by omega
        have hsl1 : Hid ((s ++ [alphAt (lowT (z k) 37 % 26)]).length = k + 1) := by unfold Hid; rw [List.length_append, hsl.out]; rfl
        have hs31 : (s ++ [alphAt (lowT (z k) 37 % 26)]).length ≤ 30 := by rw [hsl1.out]; omega
        clear hk0 hno hsl HS0
        go_upto_region 10 with (go_at_call 14; refine (lowT_any _ _ _ (by decide) (by decide)).mono ?_; rintro e w' ⟨rfl, hw'⟩; rw [hw'])
        have hm : ((lowT (z k) 37 : Int) % 26) = ((lowT (z k) 37 % 26 : Nat) : Int) := by omega
        rw [hm]
        generalize lowT (z k) 37 % 26 = M at *
        have hMI : (M : Int) < 26 := by omega
        have hsum : ((⟨s.toArray⟩ : ByteArray) ++ ⟨[alphAt M].toArray⟩) = ⟨(s ++ [alphAt M]).toArray⟩ := dataEq (by simp)
        have HSm := hide hsum
        clear hsum hm
        go_wp2_with fail
        exact ⟨⟨k + 1, s ++ [alphAt M], hk1, by go_num, congrArg Value.string HSm.out, hsl1, hs31, HN⟩, by simp [intOf]; omega⟩
      · have hkb : ((k : Int) == 0) = false := beq_eq_false_iff_ne.2 (by omega)
        have HS0 : Hid (¬ s = []) := fun h => hk0 (by have := hsl.out; rw [h] at this; exact this.symm)
        have hx := alph_ext (lowT (z k) 37) hK
        have HN : Hid (NameOk (s ++ [alphAt (lowT (z k) 37)])) := name_more hno.out (alph_name ⟨lowT (z k) 37, hK⟩) (fun h => absurd h HS0.out)
        have hk1 : k + 1 ≤ len0 := by omega
        have hsl1 : Hid ((s ++ [alphAt (lowT (z k) 37)]).length = k + 1) := by unfold Hid; rw [List.length_append, hsl.out]; rfl
        have hs31 : (s ++ [alphAt (lowT (z k) 37)]).length ≤ 30 := by rw [hsl1.out]; omega
        clear hk0 hno hsl HS0
        go_upto_region 10 with (go_at_call 14; refine (lowT_any _ _ _ (by decide) (by decide)).mono ?_; rintro e w' ⟨rfl, hw'⟩; rw [hw'])
        generalize lowT (z k) 37 = M at *
        have hMI : (M : Int) < 37 := by omega
        have hsum : ((⟨s.toArray⟩ : ByteArray) ++ ⟨[alphAt M].toArray⟩) = ⟨(s ++ [alphAt M]).toArray⟩ := dataEq (by simp)
        have HSm := hide hsum
        clear hsum
        go_wp2_with fail
        exact ⟨⟨k + 1, s ++ [alphAt M], hk1, by go_num, congrArg Value.string HSm.out, hsl1, hs31, HN⟩, by simp [intOf]; omega⟩
    · have hne : s ≠ [] := by
        intro h
        have h1 := hsl.out
        have h2 := H0.out
        rw [h] at h1
        simp at h1
        omega
      have HT := hide (inpN_tell hno.out hne hs30)
      have hsum : ((⟨#[65, 66]⟩ : ByteArray) ++ ⟨s.toArray⟩ ++ ⟨#[67]⟩) = ⟨(inpN s).toArray⟩ := dataEq (by unfold inpN; simp)
      have HSm := hide hsum
      have hil : (inpN s).length < 4294967281 := by unfold inpN; simp; omega
      clear hsum hno hne hsl HRow
      generalize inpN s = inp at *
      go_wp2_with fail
      rw [HSm.out]
      by_cases h20 : 20 < s.length
      · have hI : (20 : Int) < (s.length : Int) := by omega
        have HT2 : toksS inp = .bad 6 2 := by rw [HT.out, if_pos h20]
        refine (OK.out.bad HT2 _ HE.out hil).mono ?_
        rintro e w2 ⟨ao, cap, rfl, hb2⟩
        have b3 : Below w2.heap.size w2 (w2.alloc (Obj.cells #[.int .i64 6, .int .i64 2] 26)) := (Below.refl _ _).alloc (Nat.le_refl _) _
        have B3 := hide (hb2.trans (b3.mono hb2.size))
        clear hb2 HT HT2 HSm b3 h20
        go_wp2_with fail
        refine (XA.out _ B3.out).mono ?_
        rintro e w4 ⟨rfl, hb4⟩
        have B4 := hide (B3.out.trans (hb4.mono B3.out.size))
        clear hb4
        go_wp2_with fail
        go_ret
        exact ⟨rfl, B4.out⟩
      · have hI : ¬ (20 : Int) < (s.length : Int) := by omega
        have HT2 : toksS inp = .ok [⟨5, 0, [65, 66]⟩, ⟨if wordS s then 2 else 1, 2, s⟩, ⟨5, 2 + s.length, [67]⟩] := by rw [HT.out, if_neg h20]
        refine (OK.out.good HT2 _ HE.out hil).mono ?_
        rintro e w2 ⟨ao, cap, rfl, hT, hb2⟩
        have b3 : Below w2.heap.size w2 (w2.alloc (Obj.cells #[.int .i64 0, .int .i64 0] 26)) := (Below.refl _ _).alloc (Nat.le_refl _) _
        have B3 := hide (hb2.trans (b3.mono hb2.size))
        have T3 := hide (hT.keep b3)
        have hss : (s == s) = true := by simp
        clear hb2 hT HT HT2 HSm h20
        go_upto_region 12 with fail
        obtain ⟨W3, hW3⟩ : ∃ W3, W3 = w2.alloc (Obj.cells #[.int .i64 0, .int .i64 0] 26) := ⟨_, rfl⟩
        have R3 : Hid (WB W3 w2.heap.size 0 0) := by unfold Hid; rw [hW3]; exact WB.new w2 0 0 26
        rw [← hW3] at B3 T3 ⊢
        clear hW3 b3
        obtain ⟨kd, hkd⟩ : ∃ kd : Nat, kd = if wordS s then 2 else 1 := ⟨_, rfl⟩
        rw [← hkd] at T3
        have HK := hide hkd
        clear hkd
        go_wp2_with fail
        refine (OK.out.word s _ (HE.out.keep B3.out) (by omega)).mono ?_
        rintro e w5 ⟨rfl, hb5⟩
        have T5 := hide (T3.out.keep hb5)
        have R5 := hide (R3.out.keep hb5)
        have B5 := hide (B3.out.trans (hb5.mono B3.out.size))
        clear hb5 T3 R3 B3
        obtain ⟨ga, rfl, hga, x1, x2, x3⟩ := T5.out 0 (by simp)
        obtain ⟨gb, hgb, _, y1, y2, y3⟩ := T5.out 1 (by simp)
        obtain ⟨gc, hgc, _, z1, z2, z3⟩ := T5.out 2 (by simp)
        cases hgb
        cases hgc
        have r0 := R5.out.c0
        have r1 := R5.out.c1
        have hrl := R5.out.lt
        simp only [List.getElem_cons_zero, List.getElem_cons_succ] at x1 x2 x3 y1 y2 y3 z1 z2 z3
        cases hwd : wordS s with
        | true =>
          obtain rfl : kd = 2 := by rw [HK.out, hwd]; rfl
          go_wp2_with fail
          refine (XA.out _ B5.out).mono ?_
          rintro e w4 ⟨rfl, hb4⟩
          have B4 := hide (B5.out.trans (hb4.mono B5.out.size))
          clear hb4
          go_wp2_with fail
          go_ret
          exact ⟨rfl, B4.out⟩
        | false =>
          obtain rfl : kd = 1 := by rw [HK.out, hwd]; rfl
          go_wp2_with fail
          refine (XA.out _ B5.out).mono ?_
          rintro e w4 ⟨rfl, hb4⟩
          have B4 := hide (B5.out.trans (hb4.mono B5.out.size))
          clear hb4
          go_wp2_with fail
          go_ret
          exact ⟨rfl, B4.out⟩
end Go.Proofs.Ytkpkpiikhcggkaa
