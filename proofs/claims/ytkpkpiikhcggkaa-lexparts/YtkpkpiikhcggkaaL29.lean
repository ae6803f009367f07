/- The walk over moatlaw9.LexTells, by what package lex gives. -/
import Derived.Test.YtkpkpiikhcggkaaLx5
namespace Go.Proofs.Url
theorem toksF_count : ∀ (f pos : Nat) (l : List UInt8) (n : Nat) (ts : List Tk), toksF f pos l n = .ok ts → n ≤ 2000 → n + ts.length ≤ 2000
  | 0, _, _, n, ts, h, hn => by
    cases h; simpa using hn
  | f + 1, pos, l, n, ts, h, hn => by
    rw [toksF_succ] at h
    by_cases h1 : (l.drop (gapB false l)).isEmpty
    · rw [if_pos h1] at h; cases h; simpa using hn
    · rw [if_neg h1] at h
      by_cases h2 : (oneS (l.drop (gapB false l))).code ≠ 0
      · rw [if_pos h2] at h; cases h
      · rw [if_neg h2] at h
        by_cases h3 : n = 2000
        · rw [if_pos h3] at h; cases h
        · rw [if_neg h3] at h
          cases hr : toksF f (pos + gapB false l + (oneS (l.drop (gapB false l))).len) ((l.drop (gapB false l)).drop (oneS (l.drop (gapB false l))).len) (n + 1) with
          | bad c p => rw [hr] at h; cases h
          | ok us =>
            rw [hr] at h
            have := toksF_count f _ _ _ us hr (by omega)
            simp only [Toks.put, Toks.ok.injEq] at h
            rw [← h]; simp; omega
theorem toks_count {s : List UInt8} {ts : List Tk} (h : toksS s = .ok ts) : ts.length ≤ 2000 := by
  unfold toksS at h
  split at h
  · cases h
  · have := toksF_count _ _ _ _ _ h (by omega); omega
end Go.Proofs.Url
namespace Go.Proofs.Ytkpkpiikhcggkaa
open Go.RowKit Go.Proofs.Url

set_option maxHeartbeats 2000000 in
theorem lexTells_walk (ok : LexOk) (s : List UInt8) (w : World) (henv : Env w) (hs : s.length ≤ maxLen) :
    Calls Try.prog 3 #[.string ⟨s.toArray⟩] w fun e w' => e = .returned (.bool true) ∧ Below w.heap.size w w' := by
  have OK := hide ok
  have HE := hide henv
  have XA := hide (fun W hb => awake9_any ok W (henv.keep (w' := W) hb))
  clear ok henv
  unfold maxLen at hs
  by_cases h2 : 2000 < s.length
  · have i2 : (2000 : Int) < (s.length : Int) := by omega
    clear h2
    go_enter Try.func3, Try.ntmps3
    go_wp2_with fail
    refine (XA.out _ (Below.refl _ _)).mono ?_
    rintro e w1 ⟨rfl, hb1⟩
    go_wp2_with fail
    go_ret
    exact ⟨rfl, hb1⟩
  have i2 : ¬ (2000 : Int) < (s.length : Int) := by omega
  have h3 : s.length ≤ 2000 := by omega
  clear hs h2
  go_enter Try.func3, Try.ntmps3
  go_wp2_with fail
  refine (OK.out.toks s _ HE.out (by omega)).mono ?_
  rintro e w1 ⟨ao, ca, ts, c, p, rfl, hown, ht, hb1⟩
  have hcount : ts.length ≤ 2000 := by
    rcases ht with ⟨h, _⟩ | ⟨_, h⟩
    · exact toks_count h
    · rw [h]; simp
  have T1 := hide (owns_tks hown)
  have b2 : Below w1.heap.size w1 (w1.alloc (Obj.cells #[.int .i64 c, .int .i64 p] 26)) := (Below.refl _ _).alloc (Nat.le_refl _) _
  have T2 := hide (T1.out.keep b2)
  have R2 := hide (WB.new w1 c p 26)
  have B2 := hide (hb1.trans (b2.mono hb1.size))
  clear hown hb1 T1 b2
  go_wp2_with fail
  refine (refTokens_any s _ (by omega)).mono ?_
  rintro e w3 ⟨bo, cb, us, c2, p2, rfl, hown2, ht2, hb3⟩
  obtain ⟨rfl, rfl, rfl⟩ : us = ts ∧ c2 = c ∧ p2 = p := by
    rcases ht with ⟨h, h1, h2⟩ | ⟨h, h1⟩
    · rcases ht2 with ⟨k, k1, k2⟩ | ⟨k, k1⟩
      · rw [h] at k; cases k; exact ⟨rfl, by omega, by omega⟩
      · rw [h] at k; cases k
    · rcases ht2 with ⟨k, k1, k2⟩ | ⟨k, k1⟩
      · rw [h] at k; cases k
      · rw [h] at k; cases k; exact ⟨by rw [h1, k1], rfl, rfl⟩
  have b4 : Below w3.heap.size w3 (w3.alloc (Obj.cells #[.int .i64 c2, .int .i64 p2] 26)) := (Below.refl _ _).alloc (Nat.le_refl _) _
  have S4 := hide ((owns_tks hown2).keep b4)
  have T4 := hide ((T2.out.keep hb3).keep b4)
  have R4 := hide ((R2.out.keep hb3).keep b4)
  have B3 := hide (B2.out.trans (hb3.mono B2.out.size))
  have B4 := hide (B3.out.trans (b4.mono B3.out.size))
  clear hown2 ht ht2 hb3 b4 T2 R2 B2 B3
  go_upto_region 5 with fail
  obtain ⟨W4, hW4⟩ : ∃ W4, W4 = w3.alloc (Obj.cells #[.int .i64 c2, .int .i64 p2] 26) := ⟨_, rfl⟩
  have R5 : Hid (WB W4 w3.heap.size c2 p2) := by unfold Hid; rw [hW4]; exact WB.new w3 c2 p2 26
  rw [← hW4] at S4 T4 R4 B4 ⊢
  clear hW4
  go_wp2_with fail
  refine (sameTk_any ao bo us ca cb _ T4.out S4.out (by omega)).mono ?_
  rintro e w5 ⟨rfl, hb5⟩
  have R6 := hide (R4.out.keep hb5)
  have R7 := hide (R5.out.keep hb5)
  have B5 := hide (B4.out.trans (hb5.mono B4.out.size))
  clear hb5 S4 T4 R4 R5 B4
  have r0 := R6.out.c0
  have r1 := R6.out.c1
  have s0 := R7.out.c0
  have s1 := R7.out.c1
  have hl1 := R6.out.lt
  have hl2 := R7.out.lt
  go_wp2_with fail
  refine (OK.out.word s _ (HE.out.keep B5.out) (by omega)).mono ?_
  rintro e w8 ⟨rfl, hb8⟩
  have B8 := hide (B5.out.trans (hb8.mono B5.out.size))
  clear hb8 R6 R7 r0 r1 s0 s1 hl1 hl2 B5
  go_wp2_with fail
  refine (refWord_any s _).mono ?_
  rintro e w9 ⟨rfl, hb9⟩
  have B9 := hide (B8.out.trans (hb9.mono B8.out.size))
  clear hb9 B8
  have hw : (wordS s == wordS s) = true := by simp
  generalize wordS s = wd at *
  go_wp2_with fail
  refine (XA.out _ B9.out).mono ?_
  rintro e w10 ⟨rfl, hb10⟩
  have B10 := hide (B9.out.trans (hb10.mono B9.out.size))
  clear hb10
  go_wp2_with fail
  go_ret
  exact ⟨rfl, B10.out⟩
end Go.Proofs.Ytkpkpiikhcggkaa
