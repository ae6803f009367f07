/- The walk over moatlaw2.DomainRows: it answers true, whatever it is handed. -/
import Derived.Test.YtpoolbeaipbjmaaDoorS3
import Derived.Test.YtpoolbeaipbjmaaDoorD3
import Derived.Lib.QuietBelow
import Derived.Deep.QuietTactic
import Derived.BigQuiet
namespace Go.Proofs.YtpoolbeaipbjmaaDoor
open Go.RowKit Go.Proofs.Url

/-- A slice of integers that came in, as far as a walk reads it: each element lies in a cell of old memory. -/
def RowH (w : World) (a : Option Addr) (len : Nat) (z : Nat → Int) : Prop :=
  ∀ k, k < len → ∃ b off, a = some ⟨b, off, none⟩ ∧ b < w.heap.size ∧ w.cell? ⟨b, off + k, none⟩ = some (.int .i64 (z k))
theorem RowH.keep {w W : World} {a : Option Addr} {len : Nat} {z : Nat → Int} (h : RowH w a len z) (hb : Below w.heap.size w W) : ∀ k, k < len → ∃ b off, a = some ⟨b, off, none⟩ ∧ b < w.heap.size ∧ W.cell? ⟨b, off + k, none⟩ = some (.int .i64 (z k)) := by
  intro k hk
  obtain ⟨b, off, h1, h2, h3⟩ := h k hk
  exact ⟨b, off, h1, h2, by rw [hb.cell (p := ⟨b, off + k, none⟩) h2]; exact h3⟩
/-- The seven words, in a block. -/
def WordsAt (W : World) (g : Nat) : Prop := ∀ r, r < 7 → W.cell? ⟨g, r, none⟩ = some (.string ⟨(words.getD r []).toArray⟩)
theorem WordsAt.keep {w w' : World} {g : Nat} (h : WordsAt w g) (hb : Below w.heap.size w w') : WordsAt w' g := fun r hr => by
  rw [hb.cell (World.block_lt_of_cell? w _ (h r hr))]; exact h r hr
theorem words_new (w : World) (t : TypeId) : WordsAt (w.alloc (Obj.cells #[.string ⟨#[97]⟩, .string ⟨#[98, 99]⟩, .string ⟨#[100, 45, 101]⟩, .string ⟨#[102, 48]⟩, .string ⟨#[120, 121, 122]⟩, .string ⟨#[101, 118, 105, 108]⟩, .string ⟨#[116, 101, 115, 116]⟩] t)) w.heap.size := by
  intro r hr
  have h := lit_cell w words t r hr
  have e : words[r]'hr = words.getD r [] := by rw [List.getD_eq_getElem?_getD, List.getElem?_eq_getElem hr]; rfl
  rw [e] at h; exact h

theorem lowB_any (x n : Int) (w : World) (h1 : 1 ≤ n) (h2 : n ≤ 70000) :
    Calls Tryd.prog 7 #[.int .i64 x, .int .i64 n] w fun e w' => e = .returned (.int .i64 (low x n)) ∧ Below w.heap.size w w' := by
  refine (low_any x n w h1 h2).mono ?_
  rintro e w' ⟨rfl, rfl⟩
  exact ⟨rfl, Below.refl _ _⟩

set_option maxHeartbeats 4000000 in
set_option maxRecDepth 100000 in
theorem domainRows_walk (a0 : Option Addr) (len0 cap0 : Nat) (z : Nat → Int) (w : World) (henv : Env w) (hrow : RowH w a0 len0 z) :
    Calls Tryd.prog 3 #[.slice a0 len0 cap0] w fun e w' => e = .returned (.bool true) ∧ Below w.heap.size w w' := by
  by_cases h1 : (len0 : Int) < 2
  · clear hrow
    go_enter Tryd.func3, Tryd.ntmps3
    go_wp2_with fail
    refine (awake2_any _ henv).mono ?_
    rintro e w1 ⟨rfl, hb1⟩
    go_wp2_with fail
    go_ret
    exact ⟨rfl, hb1⟩
  by_cases h8 : 8 < (len0 : Int)
  · clear hrow
    go_enter Tryd.func3, Tryd.ntmps3
    go_wp2_with fail
    refine (awake2_any _ henv).mono ?_
    rintro e w1 ⟨rfl, hb1⟩
    go_wp2_with fail
    go_ret
    exact ⟨rfl, hb1⟩
  have HRow := hide hrow
  clear hrow
  have h8' : len0 ≤ 8 := by omega
  have h2' : 2 ≤ len0 := by omega
  go_enter Tryd.func3, Tryd.ntmps3
  go_wp2_with fail
  go_loopw [4, 5] (fun hv iv W => ∃ (k : Nat) (h : List UInt8), k ≤ len0 ∧ iv = .int .i64 ((k : Int) - 1) ∧ hv = .string ⟨h.toArray⟩ ∧ h.length ≤ 40 ∧ Hid (RowsInv (wordAt (z (len0 - 2))) (wordAt (z (len0 - 1))) (len0 - k) h) ∧ Hid (WordsAt W w.heap.size) ∧ Hid (Below w.heap.size w W)) (fun _ iv _ => (intOf iv + 1).toNat)
  case atStart => exact ⟨len0, [], Nat.le_refl _, by go_num, rfl, by simp, by rw [Nat.sub_self]; exact rows_start _ _, words_new _ _, (Below.refl _ _).alloc (Nat.le_refl _) _⟩
  case round =>
    obtain ⟨k, h, hk, rfl, rfl, hhl, hinv, hW, hB⟩ := hrel
    cases k with
    | zero =>
      rw [show ((0 : Nat) : Int) - 1 = -1 from rfl]
      obtain ⟨hh, hn⟩ := hinv.out.2.1 (by omega)
      have Fu := hide (under_self hh)
      have Fn : Hid ((labelsS h).length = len0) := hn
      clear hinv hh hn HRow
      go_wp2_with fail
      refine (under_any h h _ (henv.keep hB.out) (by omega) (by omega)).mono ?_
      rintro e w1 ⟨rfl, hb1⟩
      rw [Fu.out]
      have B1 := hide (hB.out.trans (hb1.mono hB.out.size))
      clear hb1
      go_wp2_with fail
      refine (labels_len h _ (henv.keep B1.out) (by omega)).mono ?_
      rintro e w2 ⟨ao, cap, rfl, hb2⟩
      rw [Fn.out]
      have B2 := hide (B1.out.trans (hb2.mono B1.out.size))
      clear hb2
      go_wp2_with fail
      refine (awake2_any _ (henv.keep B2.out)).mono ?_
      rintro e w3 ⟨rfl, hb3⟩
      have B3 := hide (B2.out.trans (hb3.mono B2.out.size))
      clear hb3
      go_wp2_with fail
      go_ret
      exact ⟨rfl, B3.out⟩
    | succ i =>
      rw [show ((i + 1 : Nat) : Int) - 1 = (i : Int) by omega]
      have hi : i < len0 := by omega
      obtain ⟨b, off, rfl, hbw, hcell⟩ := HRow.out.keep hB.out i hi
      have c0 := low_nn (z i) 7 (by omega)
      have c7 := low_lt (z i) 7 (by omega)
      have LZ := hide (fun W => low_any (z i) 7 W (by omega) (by omega))
      have HWz : Hid (wordAt (z i) = words.getD (low (z i) 7).toNat []) := rfl
      have hwc := hW.out (low (z i) 7).toNat (by omega)
      obtain ⟨hwl, hw4⟩ := word_ok (z i)
      rw [← HWz.out] at hwc
      clear HWz
      by_cases hj : i = len0 - 1
      · have eh : h = [] := hinv.out.1 (by omega)
        have HI : Hid (RowsInv (wordAt (z (len0 - 2))) (wordAt (z (len0 - 1))) (len0 - i) (wordAt (z i))) := by
          have e1 : len0 - i = 1 := by omega
          rw [e1, hj]; exact rows_first (word_ok _).1 (word_ok _).2
        have hlt : decide ((2 : Int) ≤ (len0 : Int) - (i : Int)) = false := decide_eq_false (by omega)
        subst eh
        clear hinv hj hwl
        generalize wordAt (z i) = p at *
        generalize low (z i) 7 = r at *
        obtain ⟨R, rfl⟩ := Int.eq_ofNat_of_zero_le c0
        rw [Int.toNat_natCast] at hwc
        go_wp2_with fail
        refine (LZ.out _).mono ?_
        rintro e w1 ⟨rfl, rfl⟩
        go_wp2_with fail
        go_quiet (fail)
        go_wp2_with fail
        refine ⟨⟨i, p, by omega, by go_num, rfl, by omega, HI, hW.out.keep (below_drewN (Below.refl _ _) _), below_drewN hB.out _⟩, by simp [intOf]⟩
      · obtain ⟨hh, hn⟩ := hinv.out.2.1 (by omega)
        have hne : h.isEmpty = false := by cases e : h; exact absurd e (host_ne hh); rfl
        have HI : Hid (RowsInv (wordAt (z (len0 - 2))) (wordAt (z (len0 - 1))) (len0 - i) (wordAt (z i) ++ 46 :: h)) := by
          have := rows_next hinv.out (by omega) (by omega) hwl hw4 (fun e => by rw [show i = len0 - 2 by omega])
          rwa [show len0 - (i + 1) + 1 = len0 - i by omega] at this
        have hlt : (2 : Int) ≤ (len0 : Int) - (i : Int) := by omega
        have hm : host (wordAt (z i) ++ 46 :: h) = true := host_more hwl hh (by omega)
        have Fs : Hid (siteS (wordAt (z i) ++ 46 :: h) = wordAt (z (len0 - 2)) ++ 46 :: wordAt (z (len0 - 1))) := HI.out.2.2.2.2 (by omega)
        have Fu1 := hide (under_cons hm).1
        have Fu2 := hide (under_cons hm).2
        have Fu3 := hide (under_glued 113 (wordAt (z i) ++ 46 :: h) (by decide))
        have hEl : (wordAt (z i) ++ 46 :: h).length ≤ 40 := by
          have := HI.out.2.2.1; omega
        clear hinv hj hwl hh hn hm
        generalize wordAt (z i) = p at *
        generalize low (z i) 7 = r at *
        obtain ⟨R, rfl⟩ := Int.eq_ofNat_of_zero_le c0
        rw [Int.toNat_natCast] at hwc
        have eE : (⟨p.toArray⟩ ++ ⟨#[46]⟩ ++ ⟨h.toArray⟩ : ByteArray) = ⟨(p ++ 46 :: h).toArray⟩ := dataEq (by simp)
        have EE := hide eE
        clear eE
        go_wp2_with fail
        refine (LZ.out _).mono ?_
        rintro e w1 ⟨rfl, rfl⟩
        clear hcell LZ c0
        go_wp2_with fail
        rw [EE.out]
        clear EE hwc c7
        generalize p ++ 46 :: h = E at *
        have hzB := hB.out.size
        refine (under_any E h _ (henv.keep hB.out) (by omega) (by omega)).mono ?_
        rintro e w2 ⟨rfl, hb2⟩
        rw [Fu1.out]
        have W2 := hide (hW.out.keep hb2)
        have B2 := hide (hB.out.trans (hb2.mono hB.out.size))
        clear hb2 hB hW
        go_wp2_with fail
        refine (under_any h E _ (henv.keep B2.out) (by omega) (by omega)).mono ?_
        rintro e w3 ⟨rfl, hb3⟩
        rw [Fu2.out]
        have W3 := hide (W2.out.keep hb3)
        have B3 := hide (B2.out.trans (hb3.mono B2.out.size))
        clear hb3 B2 W2
        go_wp2_with fail
        rw [show (⟨#[113]⟩ ++ ⟨E.toArray⟩ : ByteArray) = ⟨(113 :: E).toArray⟩ from dataEq (by simp)]
        refine (under_any (113 :: E) E _ (henv.keep B3.out) (by rw [List.length_cons]; omega) (by omega)).mono ?_
        rintro e w4 ⟨rfl, hb4⟩
        rw [Fu3.out]
        have W4 := hide (W3.out.keep hb4)
        have B4 := hide (B3.out.trans (hb4.mono B3.out.size))
        clear hb4 B3 W3
        obtain ⟨N2, e2⟩ : ∃ N2 : Nat, N2 = len0 - 2 := ⟨_, rfl⟩
        obtain ⟨N1, e1⟩ : ∃ N1 : Nat, N1 = len0 - 1 := ⟨_, rfl⟩
        have i2 : (len0 : Int) - 2 = (N2 : Int) := by omega
        have i1 : (len0 : Int) - 1 = (N1 : Int) := by omega
        have n2 : N2 < len0 := by omega
        have n1 : N1 < len0 := by omega
        have HI' := HI
        rw [← e2, ← e1] at HI Fs
        obtain ⟨b', off', eb, _, hc2⟩ := HRow.out.keep B4.out N2 n2
        obtain ⟨b'', off'', eb', _, hc1⟩ := HRow.out.keep B4.out N1 n1
        obtain ⟨rfl, rfl⟩ : b = b' ∧ off = off' := by simpa using eb
        obtain ⟨rfl, rfl⟩ : b = b'' ∧ off = off'' := by simpa using eb'
        clear eb eb' e1 e2
        have a2 := low_nn (z N2) 7 (by omega)
        have b2 := low_lt (z N2) 7 (by omega)
        have a1 := low_nn (z N1) 7 (by omega)
        have b1 := low_lt (z N1) 7 (by omega)
        have hw2 := W4.out (low (z N2) 7).toNat (by omega)
        have hw1 := W4.out (low (z N1) 7).toNat (by omega)
        have q2 := (word_ok (z N2)).2
        have q1 := (word_ok (z N1)).2
        have LL := fun x W => lowB_any x 7 W (by omega) (by omega)
        rw [show words.getD (low (z N2) 7).toNat [] = wordAt (z N2) from rfl] at hw2
        rw [show words.getD (low (z N1) 7).toNat [] = wordAt (z N1) from rfl] at hw1
        clear HI
        generalize wordAt (z N2) = P at hw2 Fs q2
        generalize wordAt (z N1) = Q at hw1 Fs q1
        obtain ⟨R2, r2⟩ := Int.eq_ofNat_of_zero_le a2
        obtain ⟨R1, r1⟩ := Int.eq_ofNat_of_zero_le a1
        rw [r2] at hw2 b2
        rw [r1] at hw1 b1
        rw [Int.toNat_natCast] at hw1 hw2
        clear a1 a2
        have S4 := fun W (h : Env W) => siteL_any E W h (by omega)
        rw [Fs.out] at S4
        have cS := fun d os => Calls.regrown_of (S4 (Sort.grow (redrawn w4 d) os) ((henv.keep B4.out).keep (below_regrown w4 d os)))
        have cL := fun x d os => Calls.regrown_of (LL x (Sort.grow (redrawn w4 d) os))
        have CS := hide cS
        have CL := hide cL
        have k1 := cell_regrown hc1
        have k2 := cell_regrown hc2
        have l1 := cell_regrown hw1
        have l2 := cell_regrown hw2
        have hn2 : (N2 : Int) < (len0 : Int) := by omega
        have hn1 : (N1 : Int) < (len0 : Int) := by omega
        have m1 : ¬ 9223372036854775807 < P.length + 1 := by omega
        have m2 : ¬ 9223372036854775807 < P.length + 1 + Q.length := by omega
        clear cS cL S4 LL hc1 hc2 hw1 hw2
        go_wp2_with fail
        refine wp_region_quiet_below (by kernel_rfl) (by kernel_rfl) ?_
        repeat (go_big_quiet_step (first | (go_at_call 9; exact CS.out _ _) | (go_at_call 7; exact CL.out _ _ _)))
        refine wpQuiet_nil ?_
        rintro _ ⟨pq, rfl⟩
        have hb5 := below_regrown w4 pq.d pq.os
        clear k1 k2 l1 l2 CS CL m1 m2 hn1 hn2
        rw [← i1]
        clear i1 i2
        have hq : (!P ++ 46 :: Q == ((⟨P.toArray⟩ ++ ⟨#[46]⟩ ++ ⟨Q.toArray⟩ : ByteArray)).toList) = false := by
          rw [ByteArray.toList_eq]; simp
        generalize Sort.grow (redrawn w4 pq.d) pq.os = w5 at *
        have W5 := hide (W4.out.keep hb5)
        have B5 := hide (B4.out.trans (hb5.mono B4.out.size))
        clear hb5 W4 B4
        go_wp2_with fail
        · rename_i hx; rw [hq] at hx; cases hx
        · refine ⟨⟨i, E, by omega, by go_num, rfl, by omega, HI', W5, B5⟩, by simp [intOf]⟩
end Go.Proofs.YtpoolbeaipbjmaaDoor
