/- The walk over moatlaw2.DomainThree: it answers true, whatever it is handed. -/
import Derived.Test.YtpoolbeaipbjmaaDoorS4
import Derived.Lib.QuietBelow
import Derived.Deep.QuietTactic
import Derived.BigQuiet
import Derived.Deep.RegionWith
namespace Go.Proofs.YtpoolbeaipbjmaaDoor
open Go.RowKit Go.Proofs.Url

set_option maxHeartbeats 4000000 in
set_option maxRecDepth 100000 in
theorem domainThree_walk (n0 n1 n2 bt : Int) (w : World) (henv : Env w) :
    Calls Tryd.prog 4 #[.agg #[.int .i64 n0, .int .i64 n1, .int .i64 n2], .int .i64 bt] w fun e w' => e = .returned (.bool true) ∧ Below w.heap.size w w' := by
  go_enter Tryd.func4, Tryd.ntmps4
  go_wp2_with fail
  go_loopw [7] (fun iv W => ∃ (k : Nat) (s h : Nat → List UInt8), k ≤ 3 ∧ iv = .int .i64 k ∧ Hid (Mem3 w W n0 n1 n2 k s h) ∧ Hid (Below w.heap.size w W)) (fun iv _ => 3 - (intOf iv).toNat)
  case atStart => exact ⟨0, fun _ => [], fun _ => [], by omega, rfl, mem3_start w n0 n1 n2 _ _ _ _ _, (((Below.refl _ _).alloc (Nat.le_refl _) _).alloc (by simp) _).alloc (by simp; omega) _⟩
  case round =>
    obtain ⟨k, s, h, hk, rfl, hM, hB⟩ := hrel
    by_cases hlt : (k : Int) < 3
    · have hk3 : k < 3 := by omega
      obtain ⟨r, hr, hbits⟩ := and_mask (bt / 2 ^ k) 1 (by omega)
      have hbits' : bits BinOp.and IntKind.i64 (bt / 2 ^ k) 1 = (r : Int) := hbits
      have hns := hM.out.ns k hk3
      have c0 := low_nn (num3 n0 n1 n2 k) 7 (by omega)
      have c7 := low_lt (num3 n0 n1 n2 k) 7 (by omega)
      have LZ := hide (fun W => low_any (num3 n0 n1 n2 k) 7 W (by omega) (by omega))
      generalize low (num3 n0 n1 n2 k) 7 = rr at *
      obtain ⟨R, rfl⟩ := Int.eq_ofNat_of_zero_le c0
      have hhs := hM.out.hs R (by simp [hosts7]; omega)
      obtain ⟨hok, hol⟩ := hosts7_ok R (by omega)
      generalize hosts7.getD R [] = ho at *
      have hsc := lits_new wr sch2 9 r (by simp [sch2]; omega)
      obtain ⟨hsn, hsl⟩ := sch2_ok r hr
      generalize sch2.getD r [] = sc at *
      simp only [sch2, http, https, List.map_cons, List.map_nil] at hsc
      have hsz := hM.out.sz
      have hz0 : w.heap.size < wr.heap.size := by omega
      have hz1 : w.heap.size + 1 < wr.heap.size := by omega
      have hz2 : w.heap.size + 1 + 1 < wr.heap.size := hsz
      obtain ⟨v0, t0⟩ := Option.isSome_iff_exists.1 (hM.out.there (k * 4) (by omega))
      obtain ⟨v1, t1⟩ := Option.isSome_iff_exists.1 (hM.out.there (k * 4 + 1) (by omega))
      obtain ⟨v2, t2⟩ := Option.isSome_iff_exists.1 (hM.out.there (k * 4 + 2) (by omega))
      obtain ⟨v3, t3⟩ := Option.isSome_iff_exists.1 (hM.out.there (k * 4 + 3) (by omega))
      have f0 := hM.out.free (k * 4)
      have f1 := hM.out.free (k * 4 + 1)
      have f2 := hM.out.free (k * 4 + 2)
      have f3 := hM.out.free (k * 4 + 3)
      have hr1 : (r : Int) < 2 := by omega
      have hR7 : (R : Int) < 7 := by omega
      clear hbits c0 c7
      go_wp2_with fail
      go_region_with (go_at_call 7; refine (LZ.out _).mono ?_; rintro e w' ⟨rfl, rfl⟩)
      all_goals rw [wrap_one k hk3]
      all_goals go_wp2_with fail
      all_goals exact ⟨⟨k + 1, upd s k sc, upd h k ho, by omega, by go_num, mem3_step hM.out hk3 hsn hsl hok hol _ _, below_drewN ((put4_below hB.out _ _ (by omega) _ _ _ _).alloc (by rw [put4_size]; omega) _) 1⟩, by simp [intOf]; omega⟩
    · obtain rfl : k = 3 := by omega
      obtain ⟨hs0, hl0, hh0, hm0⟩ := hM.out.ok 0 (by omega)
      obtain ⟨hs1, hl1, hh1, hm1⟩ := hM.out.ok 1 (by omega)
      obtain ⟨hs2, hl2, hh2, hm2⟩ := hM.out.ok 2 (by omega)
      obtain ⟨c0, c1, c2, c3⟩ := hM.out.laid 0 (by omega)
      obtain ⟨d0, d1, d2, d3⟩ := hM.out.laid 1 (by omega)
      obtain ⟨e0, e1, e2, e3⟩ := hM.out.laid 2 (by omega)
      have E0 := hide (henv.keep hB.out)
      have hzB := hB.out.size
      have hzM := hM.out.sz
      clear hM
      generalize s 0 = s0 at *
      generalize s 1 = s1 at *
      generalize s 2 = s2 at *
      generalize h 0 = h0 at *
      generalize h 1 = h1 at *
      generalize h 2 = h2 at *
      rw [show ((1 : Int) + ((0 : Nat) : Int)) = 1 from rfl] at c3
      rw [show ((1 : Int) + ((1 : Nat) : Int)) = 2 from rfl] at d3
      rw [show ((1 : Int) + ((2 : Nat) : Int)) = 3 from rfl] at e3
      simp only [Nat.zero_mul, Nat.one_mul, Nat.zero_add, show 2 * 4 = 8 from rfl, Nat.reduceAdd] at c0 c1 c2 c3 d0 d1 d2 d3 e0 e1 e2 e3
      rw [show ((3 : Nat) : Int) = 3 from rfl]
      clear hlt hk
      have cS := fun (s t g h : List UInt8) (p1 p2 : Int) (hg : g.length ≤ 10) (hh : h.length ≤ 10) d os => Calls.regrown_of (sameSite_any ⟨#[]⟩ ⟨#[]⟩ s t g h p1 p2 (Sort.grow (redrawn wr d) os) (E0.out.keep (below_regrown wr d os)) (by omega) (by omega))
      have CS := hide cS
      have kc0 := cell_regrown c0
      have kc1 := cell_regrown c1
      have kc2 := cell_regrown c2
      have kc3 := cell_regrown c3
      have kd0 := cell_regrown d0
      have kd1 := cell_regrown d1
      have kd2 := cell_regrown d2
      have kd3 := cell_regrown d3
      have ke0 := cell_regrown e0
      have ke1 := cell_regrown e1
      have ke2 := cell_regrown e2
      have ke3 := cell_regrown e3
      clear cS
      go_wp2_with fail
      refine wp_region_quiet_below (by kernel_rfl) (by kernel_rfl) ?_
      repeat (go_big_quiet_step ((go_at_call 11; exact CS.out _ _ _ _ _ _ (by omega) (by omega) _ _)))
      refine wpQuiet_nil ?_
      rintro _ ⟨pq, rfl⟩
      replace c0 := kc0 pq.d pq.os
      replace c1 := kc1 pq.d pq.os
      replace c2 := kc2 pq.d pq.os
      replace c3 := kc3 pq.d pq.os
      replace d0 := kd0 pq.d pq.os
      replace d1 := kd1 pq.d pq.os
      replace d2 := kd2 pq.d pq.os
      replace d3 := kd3 pq.d pq.os
      replace e0 := ke0 pq.d pq.os
      replace e1 := ke1 pq.d pq.os
      replace e2 := ke2 pq.d pq.os
      replace e3 := ke3 pq.d pq.os
      have hb1 := below_regrown wr pq.d pq.os
      clear kc0 kc1 kc2 kc3 kd0 kd1 kd2 kd3 ke0 ke1 ke2 ke3 CS
      generalize Sort.grow (redrawn wr pq.d) pq.os = w1 at *
      have E1 := hide (E0.out.keep hb1)
      have B1 := hide (hB.out.trans (hb1.mono hB.out.size))
      have hz1 : w.heap.size + 1 + 1 < w1.heap.size := by have := hb1.size; omega
      clear hb1 E0 hB hzB hzM
      have S10 := hide (sameP_symm s1 s0 h1 h0)
      have S00 := hide (sameP_self hs0 hh0)
      have T3 : Hid (sameP s0 s1 h0 h1 = true → sameP s1 s2 h1 h2 = true → sameP s0 s2 h0 h2 = true) := sameP_trans
      have TU : Hid (underS h0 h1 = true → 2 ≤ (labelsS h1).length → s0 = s1 → sameP s0 s1 h0 h1 = true) := sameP_under hs0
      clear hs0 hs1 hs2 hh0 hh1 hh2 hl0 hl1 hl2
      generalize sameP s0 s1 h0 h1 = a at *
      generalize sameP s1 s2 h1 h2 = b at *
      generalize sameP s0 s2 h0 h2 = c at *
      clear e0 e1 e2 e3 hm2
      have habc : Hid (a = false ∨ (a = true ∧ b = false) ∨ (a = true ∧ b = true ∧ c = true)) := by
        have := T3.out
        unfold Hid
        cases a
        · exact .inl rfl
        · cases b
          · exact .inr (.inl ⟨rfl, rfl⟩)
          · exact .inr (.inr ⟨rfl, rfl, this rfl rfl⟩)
      clear T3
      cases hu : underS h0 h1 with
      | false =>
        have Fu := hide hu
        clear hu TU
        rcases habc.out with rfl | ⟨rfl, rfl⟩ | ⟨rfl, rfl, rfl⟩
        · clear habc
          go_wp2_with fail
          refine (under_any h0 h1 _ E1.out (by omega) (by omega)).mono ?_
          rintro e w2 ⟨rfl, hb⟩
          rw [Fu.out]
          obtain ⟨g2, q2⟩ := bcell hb
          have hz2 : w.heap.size + 1 + 1 < w2.heap.size := by have := hb.size; omega
          replace B1 := hide (B1.out.trans (hb.mono B1.out.size))
          replace E1 := hide (E1.out.keep hb)
          clear hb
          go_wp2_with fail
          refine (sameSite_any ⟨#[]⟩ ⟨#[]⟩ s1 s0 h1 h0 2 1 _ E1.out (by omega) (by omega)).mono ?_
          rintro e w3 ⟨rfl, hb⟩
          rw [S10.out]
          obtain ⟨g3, q3⟩ := bcell hb
          have hz3 : w.heap.size + 1 + 1 < w3.heap.size := by have := hb.size; omega
          replace B1 := hide (B1.out.trans (hb.mono B1.out.size))
          replace E1 := hide (E1.out.keep hb)
          clear hb
          go_wp2_with fail
          refine (sameSite_any ⟨#[]⟩ ⟨#[]⟩ s0 s0 h0 h0 1 1 _ E1.out (by omega) (by omega)).mono ?_
          rintro e w4 ⟨rfl, hb⟩
          rw [S00.out]
          obtain ⟨g4, q4⟩ := bcell hb
          have hz4 : w.heap.size + 1 + 1 < w4.heap.size := by have := hb.size; omega
          replace B1 := hide (B1.out.trans (hb.mono B1.out.size))
          replace E1 := hide (E1.out.keep hb)
          clear hb
          go_wp2_with fail
          refine (awake2_any _ E1.out).mono ?_
          rintro e w5 ⟨rfl, hb⟩
          obtain ⟨g5, q5⟩ := bcell hb
          have hz5 : w.heap.size + 1 + 1 < w5.heap.size := by have := hb.size; omega
          replace B1 := hide (B1.out.trans (hb.mono B1.out.size))
          replace E1 := hide (E1.out.keep hb)
          clear hb
          go_wp2_with fail
          go_ret
          exact ⟨rfl, B1.out⟩
        · clear habc
          go_wp2_with fail
          refine (under_any h0 h1 _ E1.out (by omega) (by omega)).mono ?_
          rintro e w2 ⟨rfl, hb⟩
          rw [Fu.out]
          obtain ⟨g2, q2⟩ := bcell hb
          have hz2 : w.heap.size + 1 + 1 < w2.heap.size := by have := hb.size; omega
          replace B1 := hide (B1.out.trans (hb.mono B1.out.size))
          replace E1 := hide (E1.out.keep hb)
          clear hb
          go_wp2_with fail
          refine (sameSite_any ⟨#[]⟩ ⟨#[]⟩ s1 s0 h1 h0 2 1 _ E1.out (by omega) (by omega)).mono ?_
          rintro e w3 ⟨rfl, hb⟩
          rw [S10.out]
          obtain ⟨g3, q3⟩ := bcell hb
          have hz3 : w.heap.size + 1 + 1 < w3.heap.size := by have := hb.size; omega
          replace B1 := hide (B1.out.trans (hb.mono B1.out.size))
          replace E1 := hide (E1.out.keep hb)
          clear hb
          go_wp2_with fail
          refine (sameSite_any ⟨#[]⟩ ⟨#[]⟩ s0 s0 h0 h0 1 1 _ E1.out (by omega) (by omega)).mono ?_
          rintro e w4 ⟨rfl, hb⟩
          rw [S00.out]
          obtain ⟨g4, q4⟩ := bcell hb
          have hz4 : w.heap.size + 1 + 1 < w4.heap.size := by have := hb.size; omega
          replace B1 := hide (B1.out.trans (hb.mono B1.out.size))
          replace E1 := hide (E1.out.keep hb)
          clear hb
          go_wp2_with fail
          refine (awake2_any _ E1.out).mono ?_
          rintro e w5 ⟨rfl, hb⟩
          obtain ⟨g5, q5⟩ := bcell hb
          have hz5 : w.heap.size + 1 + 1 < w5.heap.size := by have := hb.size; omega
          replace B1 := hide (B1.out.trans (hb.mono B1.out.size))
          replace E1 := hide (E1.out.keep hb)
          clear hb
          go_wp2_with fail
          go_ret
          exact ⟨rfl, B1.out⟩
        · clear habc
          go_wp2_with fail
          refine (under_any h0 h1 _ E1.out (by omega) (by omega)).mono ?_
          rintro e w2 ⟨rfl, hb⟩
          rw [Fu.out]
          obtain ⟨g2, q2⟩ := bcell hb
          have hz2 : w.heap.size + 1 + 1 < w2.heap.size := by have := hb.size; omega
          replace B1 := hide (B1.out.trans (hb.mono B1.out.size))
          replace E1 := hide (E1.out.keep hb)
          clear hb
          go_wp2_with fail
          refine (sameSite_any ⟨#[]⟩ ⟨#[]⟩ s1 s0 h1 h0 2 1 _ E1.out (by omega) (by omega)).mono ?_
          rintro e w3 ⟨rfl, hb⟩
          rw [S10.out]
          obtain ⟨g3, q3⟩ := bcell hb
          have hz3 : w.heap.size + 1 + 1 < w3.heap.size := by have := hb.size; omega
          replace B1 := hide (B1.out.trans (hb.mono B1.out.size))
          replace E1 := hide (E1.out.keep hb)
          clear hb
          go_wp2_with fail
          refine (sameSite_any ⟨#[]⟩ ⟨#[]⟩ s0 s0 h0 h0 1 1 _ E1.out (by omega) (by omega)).mono ?_
          rintro e w4 ⟨rfl, hb⟩
          rw [S00.out]
          obtain ⟨g4, q4⟩ := bcell hb
          have hz4 : w.heap.size + 1 + 1 < w4.heap.size := by have := hb.size; omega
          replace B1 := hide (B1.out.trans (hb.mono B1.out.size))
          replace E1 := hide (E1.out.keep hb)
          clear hb
          go_wp2_with fail
          refine (awake2_any _ E1.out).mono ?_
          rintro e w5 ⟨rfl, hb⟩
          obtain ⟨g5, q5⟩ := bcell hb
          have hz5 : w.heap.size + 1 + 1 < w5.heap.size := by have := hb.size; omega
          replace B1 := hide (B1.out.trans (hb.mono B1.out.size))
          replace E1 := hide (E1.out.keep hb)
          clear hb
          go_wp2_with fail
          go_ret
          exact ⟨rfl, B1.out⟩
      | true =>
        have Fu := hide hu
        by_cases hn : 2 ≤ (labelsS h1).length
        · have hnI : (2 : Int) ≤ ((labelsS h1).length : Int) := by omega
          by_cases hs : s0 = s1
          · have hsb : (s0 == s1) = true := beq_iff_eq.2 hs
            obtain rfl : a = true := TU.out hu hn hs
            have habc2 : Hid (b = false ∨ (b = true ∧ c = true)) := by
              rcases habc.out with h | ⟨_, h⟩ | ⟨_, h, h'⟩
              · cases h
              · exact .inl h
              · exact .inr ⟨h, h'⟩
            clear hs hu hn TU habc
            rcases habc2.out with rfl | ⟨rfl, rfl⟩
            · clear habc2
              go_wp2_with fail
              refine (under_any h0 h1 _ E1.out (by omega) (by omega)).mono ?_
              rintro e w2 ⟨rfl, hb⟩
              rw [Fu.out]
              obtain ⟨g2, q2⟩ := bcell hb
              have hz2 : w.heap.size + 1 + 1 < w2.heap.size := by have := hb.size; omega
              replace B1 := hide (B1.out.trans (hb.mono B1.out.size))
              replace E1 := hide (E1.out.keep hb)
              clear hb
              go_wp2_with fail
              refine (labels_len h1 _ E1.out (by omega)).mono ?_
              rintro e w3 ⟨ao, cap, rfl, hb⟩
              obtain ⟨g3, q3⟩ := bcell hb
              have hz3 : w.heap.size + 1 + 1 < w3.heap.size := by have := hb.size; omega
              replace B1 := hide (B1.out.trans (hb.mono B1.out.size))
              replace E1 := hide (E1.out.keep hb)
              clear hb
              go_wp2_with fail
              refine (sameSite_any ⟨#[]⟩ ⟨#[]⟩ s1 s0 h1 h0 2 1 _ E1.out (by omega) (by omega)).mono ?_
              rintro e w4 ⟨rfl, hb⟩
              rw [S10.out]
              obtain ⟨g4, q4⟩ := bcell hb
              have hz4 : w.heap.size + 1 + 1 < w4.heap.size := by have := hb.size; omega
              replace B1 := hide (B1.out.trans (hb.mono B1.out.size))
              replace E1 := hide (E1.out.keep hb)
              clear hb
              go_wp2_with fail
              refine (sameSite_any ⟨#[]⟩ ⟨#[]⟩ s0 s0 h0 h0 1 1 _ E1.out (by omega) (by omega)).mono ?_
              rintro e w5 ⟨rfl, hb⟩
              rw [S00.out]
              obtain ⟨g5, q5⟩ := bcell hb
              have hz5 : w.heap.size + 1 + 1 < w5.heap.size := by have := hb.size; omega
              replace B1 := hide (B1.out.trans (hb.mono B1.out.size))
              replace E1 := hide (E1.out.keep hb)
              clear hb
              go_wp2_with fail
              refine (awake2_any _ E1.out).mono ?_
              rintro e w6 ⟨rfl, hb⟩
              obtain ⟨g6, q6⟩ := bcell hb
              have hz6 : w.heap.size + 1 + 1 < w6.heap.size := by have := hb.size; omega
              replace B1 := hide (B1.out.trans (hb.mono B1.out.size))
              replace E1 := hide (E1.out.keep hb)
              clear hb
              go_wp2_with fail
              go_ret
              exact ⟨rfl, B1.out⟩
            · clear habc2
              go_wp2_with fail
              refine (under_any h0 h1 _ E1.out (by omega) (by omega)).mono ?_
              rintro e w2 ⟨rfl, hb⟩
              rw [Fu.out]
              obtain ⟨g2, q2⟩ := bcell hb
              have hz2 : w.heap.size + 1 + 1 < w2.heap.size := by have := hb.size; omega
              replace B1 := hide (B1.out.trans (hb.mono B1.out.size))
              replace E1 := hide (E1.out.keep hb)
              clear hb
              go_wp2_with fail
              refine (labels_len h1 _ E1.out (by omega)).mono ?_
              rintro e w3 ⟨ao, cap, rfl, hb⟩
              obtain ⟨g3, q3⟩ := bcell hb
              have hz3 : w.heap.size + 1 + 1 < w3.heap.size := by have := hb.size; omega
              replace B1 := hide (B1.out.trans (hb.mono B1.out.size))
              replace E1 := hide (E1.out.keep hb)
              clear hb
              go_wp2_with fail
              refine (sameSite_any ⟨#[]⟩ ⟨#[]⟩ s1 s0 h1 h0 2 1 _ E1.out (by omega) (by omega)).mono ?_
              rintro e w4 ⟨rfl, hb⟩
              rw [S10.out]
              obtain ⟨g4, q4⟩ := bcell hb
              have hz4 : w.heap.size + 1 + 1 < w4.heap.size := by have := hb.size; omega
              replace B1 := hide (B1.out.trans (hb.mono B1.out.size))
              replace E1 := hide (E1.out.keep hb)
              clear hb
              go_wp2_with fail
              refine (sameSite_any ⟨#[]⟩ ⟨#[]⟩ s0 s0 h0 h0 1 1 _ E1.out (by omega) (by omega)).mono ?_
              rintro e w5 ⟨rfl, hb⟩
              rw [S00.out]
              obtain ⟨g5, q5⟩ := bcell hb
              have hz5 : w.heap.size + 1 + 1 < w5.heap.size := by have := hb.size; omega
              replace B1 := hide (B1.out.trans (hb.mono B1.out.size))
              replace E1 := hide (E1.out.keep hb)
              clear hb
              go_wp2_with fail
              refine (awake2_any _ E1.out).mono ?_
              rintro e w6 ⟨rfl, hb⟩
              obtain ⟨g6, q6⟩ := bcell hb
              have hz6 : w.heap.size + 1 + 1 < w6.heap.size := by have := hb.size; omega
              replace B1 := hide (B1.out.trans (hb.mono B1.out.size))
              replace E1 := hide (E1.out.keep hb)
              clear hb
              go_wp2_with fail
              go_ret
              exact ⟨rfl, B1.out⟩
          · have hsb : (s0 == s1) = false := beq_eq_false_iff_ne.2 hs
            clear hs hu hn TU
            rcases habc.out with rfl | ⟨rfl, rfl⟩ | ⟨rfl, rfl, rfl⟩
            · clear habc
              go_wp2_with fail
              refine (under_any h0 h1 _ E1.out (by omega) (by omega)).mono ?_
              rintro e w2 ⟨rfl, hb⟩
              rw [Fu.out]
              obtain ⟨g2, q2⟩ := bcell hb
              have hz2 : w.heap.size + 1 + 1 < w2.heap.size := by have := hb.size; omega
              replace B1 := hide (B1.out.trans (hb.mono B1.out.size))
              replace E1 := hide (E1.out.keep hb)
              clear hb
              go_wp2_with fail
              refine (labels_len h1 _ E1.out (by omega)).mono ?_
              rintro e w3 ⟨ao, cap, rfl, hb⟩
              obtain ⟨g3, q3⟩ := bcell hb
              have hz3 : w.heap.size + 1 + 1 < w3.heap.size := by have := hb.size; omega
              replace B1 := hide (B1.out.trans (hb.mono B1.out.size))
              replace E1 := hide (E1.out.keep hb)
              clear hb
              go_wp2_with fail
              refine (sameSite_any ⟨#[]⟩ ⟨#[]⟩ s1 s0 h1 h0 2 1 _ E1.out (by omega) (by omega)).mono ?_
              rintro e w4 ⟨rfl, hb⟩
              rw [S10.out]
              obtain ⟨g4, q4⟩ := bcell hb
              have hz4 : w.heap.size + 1 + 1 < w4.heap.size := by have := hb.size; omega
              replace B1 := hide (B1.out.trans (hb.mono B1.out.size))
              replace E1 := hide (E1.out.keep hb)
              clear hb
              go_wp2_with fail
              refine (sameSite_any ⟨#[]⟩ ⟨#[]⟩ s0 s0 h0 h0 1 1 _ E1.out (by omega) (by omega)).mono ?_
              rintro e w5 ⟨rfl, hb⟩
              rw [S00.out]
              obtain ⟨g5, q5⟩ := bcell hb
              have hz5 : w.heap.size + 1 + 1 < w5.heap.size := by have := hb.size; omega
              replace B1 := hide (B1.out.trans (hb.mono B1.out.size))
              replace E1 := hide (E1.out.keep hb)
              clear hb
              go_wp2_with fail
              refine (awake2_any _ E1.out).mono ?_
              rintro e w6 ⟨rfl, hb⟩
              obtain ⟨g6, q6⟩ := bcell hb
              have hz6 : w.heap.size + 1 + 1 < w6.heap.size := by have := hb.size; omega
              replace B1 := hide (B1.out.trans (hb.mono B1.out.size))
              replace E1 := hide (E1.out.keep hb)
              clear hb
              go_wp2_with fail
              go_ret
              exact ⟨rfl, B1.out⟩
            · clear habc
              go_wp2_with fail
              refine (under_any h0 h1 _ E1.out (by omega) (by omega)).mono ?_
              rintro e w2 ⟨rfl, hb⟩
              rw [Fu.out]
              obtain ⟨g2, q2⟩ := bcell hb
              have hz2 : w.heap.size + 1 + 1 < w2.heap.size := by have := hb.size; omega
              replace B1 := hide (B1.out.trans (hb.mono B1.out.size))
              replace E1 := hide (E1.out.keep hb)
              clear hb
              go_wp2_with fail
              refine (labels_len h1 _ E1.out (by omega)).mono ?_
              rintro e w3 ⟨ao, cap, rfl, hb⟩
              obtain ⟨g3, q3⟩ := bcell hb
              have hz3 : w.heap.size + 1 + 1 < w3.heap.size := by have := hb.size; omega
              replace B1 := hide (B1.out.trans (hb.mono B1.out.size))
              replace E1 := hide (E1.out.keep hb)
              clear hb
              go_wp2_with fail
              refine (sameSite_any ⟨#[]⟩ ⟨#[]⟩ s1 s0 h1 h0 2 1 _ E1.out (by omega) (by omega)).mono ?_
              rintro e w4 ⟨rfl, hb⟩
              rw [S10.out]
              obtain ⟨g4, q4⟩ := bcell hb
              have hz4 : w.heap.size + 1 + 1 < w4.heap.size := by have := hb.size; omega
              replace B1 := hide (B1.out.trans (hb.mono B1.out.size))
              replace E1 := hide (E1.out.keep hb)
              clear hb
              go_wp2_with fail
              refine (sameSite_any ⟨#[]⟩ ⟨#[]⟩ s0 s0 h0 h0 1 1 _ E1.out (by omega) (by omega)).mono ?_
              rintro e w5 ⟨rfl, hb⟩
              rw [S00.out]
              obtain ⟨g5, q5⟩ := bcell hb
              have hz5 : w.heap.size + 1 + 1 < w5.heap.size := by have := hb.size; omega
              replace B1 := hide (B1.out.trans (hb.mono B1.out.size))
              replace E1 := hide (E1.out.keep hb)
              clear hb
              go_wp2_with fail
              refine (awake2_any _ E1.out).mono ?_
              rintro e w6 ⟨rfl, hb⟩
              obtain ⟨g6, q6⟩ := bcell hb
              have hz6 : w.heap.size + 1 + 1 < w6.heap.size := by have := hb.size; omega
              replace B1 := hide (B1.out.trans (hb.mono B1.out.size))
              replace E1 := hide (E1.out.keep hb)
              clear hb
              go_wp2_with fail
              go_ret
              exact ⟨rfl, B1.out⟩
            · clear habc
              go_wp2_with fail
              refine (under_any h0 h1 _ E1.out (by omega) (by omega)).mono ?_
              rintro e w2 ⟨rfl, hb⟩
              rw [Fu.out]
              obtain ⟨g2, q2⟩ := bcell hb
              have hz2 : w.heap.size + 1 + 1 < w2.heap.size := by have := hb.size; omega
              replace B1 := hide (B1.out.trans (hb.mono B1.out.size))
              replace E1 := hide (E1.out.keep hb)
              clear hb
              go_wp2_with fail
              refine (labels_len h1 _ E1.out (by omega)).mono ?_
              rintro e w3 ⟨ao, cap, rfl, hb⟩
              obtain ⟨g3, q3⟩ := bcell hb
              have hz3 : w.heap.size + 1 + 1 < w3.heap.size := by have := hb.size; omega
              replace B1 := hide (B1.out.trans (hb.mono B1.out.size))
              replace E1 := hide (E1.out.keep hb)
              clear hb
              go_wp2_with fail
              refine (sameSite_any ⟨#[]⟩ ⟨#[]⟩ s1 s0 h1 h0 2 1 _ E1.out (by omega) (by omega)).mono ?_
              rintro e w4 ⟨rfl, hb⟩
              rw [S10.out]
              obtain ⟨g4, q4⟩ := bcell hb
              have hz4 : w.heap.size + 1 + 1 < w4.heap.size := by have := hb.size; omega
              replace B1 := hide (B1.out.trans (hb.mono B1.out.size))
              replace E1 := hide (E1.out.keep hb)
              clear hb
              go_wp2_with fail
              refine (sameSite_any ⟨#[]⟩ ⟨#[]⟩ s0 s0 h0 h0 1 1 _ E1.out (by omega) (by omega)).mono ?_
              rintro e w5 ⟨rfl, hb⟩
              rw [S00.out]
              obtain ⟨g5, q5⟩ := bcell hb
              have hz5 : w.heap.size + 1 + 1 < w5.heap.size := by have := hb.size; omega
              replace B1 := hide (B1.out.trans (hb.mono B1.out.size))
              replace E1 := hide (E1.out.keep hb)
              clear hb
              go_wp2_with fail
              refine (awake2_any _ E1.out).mono ?_
              rintro e w6 ⟨rfl, hb⟩
              obtain ⟨g6, q6⟩ := bcell hb
              have hz6 : w.heap.size + 1 + 1 < w6.heap.size := by have := hb.size; omega
              replace B1 := hide (B1.out.trans (hb.mono B1.out.size))
              replace E1 := hide (E1.out.keep hb)
              clear hb
              go_wp2_with fail
              go_ret
              exact ⟨rfl, B1.out⟩
        · have hnI : ¬ (2 : Int) ≤ ((labelsS h1).length : Int) := by omega
          clear hu hn TU
          rcases habc.out with rfl | ⟨rfl, rfl⟩ | ⟨rfl, rfl, rfl⟩
          · clear habc
            go_wp2_with fail
            refine (under_any h0 h1 _ E1.out (by omega) (by omega)).mono ?_
            rintro e w2 ⟨rfl, hb⟩
            rw [Fu.out]
            obtain ⟨g2, q2⟩ := bcell hb
            have hz2 : w.heap.size + 1 + 1 < w2.heap.size := by have := hb.size; omega
            replace B1 := hide (B1.out.trans (hb.mono B1.out.size))
            replace E1 := hide (E1.out.keep hb)
            clear hb
            go_wp2_with fail
            refine (labels_len h1 _ E1.out (by omega)).mono ?_
            rintro e w3 ⟨ao, cap, rfl, hb⟩
            obtain ⟨g3, q3⟩ := bcell hb
            have hz3 : w.heap.size + 1 + 1 < w3.heap.size := by have := hb.size; omega
            replace B1 := hide (B1.out.trans (hb.mono B1.out.size))
            replace E1 := hide (E1.out.keep hb)
            clear hb
            go_wp2_with fail
            refine (sameSite_any ⟨#[]⟩ ⟨#[]⟩ s1 s0 h1 h0 2 1 _ E1.out (by omega) (by omega)).mono ?_
            rintro e w4 ⟨rfl, hb⟩
            rw [S10.out]
            obtain ⟨g4, q4⟩ := bcell hb
            have hz4 : w.heap.size + 1 + 1 < w4.heap.size := by have := hb.size; omega
            replace B1 := hide (B1.out.trans (hb.mono B1.out.size))
            replace E1 := hide (E1.out.keep hb)
            clear hb
            go_wp2_with fail
            refine (sameSite_any ⟨#[]⟩ ⟨#[]⟩ s0 s0 h0 h0 1 1 _ E1.out (by omega) (by omega)).mono ?_
            rintro e w5 ⟨rfl, hb⟩
            rw [S00.out]
            obtain ⟨g5, q5⟩ := bcell hb
            have hz5 : w.heap.size + 1 + 1 < w5.heap.size := by have := hb.size; omega
            replace B1 := hide (B1.out.trans (hb.mono B1.out.size))
            replace E1 := hide (E1.out.keep hb)
            clear hb
            go_wp2_with fail
            refine (awake2_any _ E1.out).mono ?_
            rintro e w6 ⟨rfl, hb⟩
            obtain ⟨g6, q6⟩ := bcell hb
            have hz6 : w.heap.size + 1 + 1 < w6.heap.size := by have := hb.size; omega
            replace B1 := hide (B1.out.trans (hb.mono B1.out.size))
            replace E1 := hide (E1.out.keep hb)
            clear hb
            go_wp2_with fail
            go_ret
            exact ⟨rfl, B1.out⟩
          · clear habc
            go_wp2_with fail
            refine (under_any h0 h1 _ E1.out (by omega) (by omega)).mono ?_
            rintro e w2 ⟨rfl, hb⟩
            rw [Fu.out]
            obtain ⟨g2, q2⟩ := bcell hb
            have hz2 : w.heap.size + 1 + 1 < w2.heap.size := by have := hb.size; omega
            replace B1 := hide (B1.out.trans (hb.mono B1.out.size))
            replace E1 := hide (E1.out.keep hb)
            clear hb
            go_wp2_with fail
            refine (labels_len h1 _ E1.out (by omega)).mono ?_
            rintro e w3 ⟨ao, cap, rfl, hb⟩
            obtain ⟨g3, q3⟩ := bcell hb
            have hz3 : w.heap.size + 1 + 1 < w3.heap.size := by have := hb.size; omega
            replace B1 := hide (B1.out.trans (hb.mono B1.out.size))
            replace E1 := hide (E1.out.keep hb)
            clear hb
            go_wp2_with fail
            refine (sameSite_any ⟨#[]⟩ ⟨#[]⟩ s1 s0 h1 h0 2 1 _ E1.out (by omega) (by omega)).mono ?_
            rintro e w4 ⟨rfl, hb⟩
            rw [S10.out]
            obtain ⟨g4, q4⟩ := bcell hb
            have hz4 : w.heap.size + 1 + 1 < w4.heap.size := by have := hb.size; omega
            replace B1 := hide (B1.out.trans (hb.mono B1.out.size))
            replace E1 := hide (E1.out.keep hb)
            clear hb
            go_wp2_with fail
            refine (sameSite_any ⟨#[]⟩ ⟨#[]⟩ s0 s0 h0 h0 1 1 _ E1.out (by omega) (by omega)).mono ?_
            rintro e w5 ⟨rfl, hb⟩
            rw [S00.out]
            obtain ⟨g5, q5⟩ := bcell hb
            have hz5 : w.heap.size + 1 + 1 < w5.heap.size := by have := hb.size; omega
            replace B1 := hide (B1.out.trans (hb.mono B1.out.size))
            replace E1 := hide (E1.out.keep hb)
            clear hb
            go_wp2_with fail
            refine (awake2_any _ E1.out).mono ?_
            rintro e w6 ⟨rfl, hb⟩
            obtain ⟨g6, q6⟩ := bcell hb
            have hz6 : w.heap.size + 1 + 1 < w6.heap.size := by have := hb.size; omega
            replace B1 := hide (B1.out.trans (hb.mono B1.out.size))
            replace E1 := hide (E1.out.keep hb)
            clear hb
            go_wp2_with fail
            go_ret
            exact ⟨rfl, B1.out⟩
          · clear habc
            go_wp2_with fail
            refine (under_any h0 h1 _ E1.out (by omega) (by omega)).mono ?_
            rintro e w2 ⟨rfl, hb⟩
            rw [Fu.out]
            obtain ⟨g2, q2⟩ := bcell hb
            have hz2 : w.heap.size + 1 + 1 < w2.heap.size := by have := hb.size; omega
            replace B1 := hide (B1.out.trans (hb.mono B1.out.size))
            replace E1 := hide (E1.out.keep hb)
            clear hb
            go_wp2_with fail
            refine (labels_len h1 _ E1.out (by omega)).mono ?_
            rintro e w3 ⟨ao, cap, rfl, hb⟩
            obtain ⟨g3, q3⟩ := bcell hb
            have hz3 : w.heap.size + 1 + 1 < w3.heap.size := by have := hb.size; omega
            replace B1 := hide (B1.out.trans (hb.mono B1.out.size))
            replace E1 := hide (E1.out.keep hb)
            clear hb
            go_wp2_with fail
            refine (sameSite_any ⟨#[]⟩ ⟨#[]⟩ s1 s0 h1 h0 2 1 _ E1.out (by omega) (by omega)).mono ?_
            rintro e w4 ⟨rfl, hb⟩
            rw [S10.out]
            obtain ⟨g4, q4⟩ := bcell hb
            have hz4 : w.heap.size + 1 + 1 < w4.heap.size := by have := hb.size; omega
            replace B1 := hide (B1.out.trans (hb.mono B1.out.size))
            replace E1 := hide (E1.out.keep hb)
            clear hb
            go_wp2_with fail
            refine (sameSite_any ⟨#[]⟩ ⟨#[]⟩ s0 s0 h0 h0 1 1 _ E1.out (by omega) (by omega)).mono ?_
            rintro e w5 ⟨rfl, hb⟩
            rw [S00.out]
            obtain ⟨g5, q5⟩ := bcell hb
            have hz5 : w.heap.size + 1 + 1 < w5.heap.size := by have := hb.size; omega
            replace B1 := hide (B1.out.trans (hb.mono B1.out.size))
            replace E1 := hide (E1.out.keep hb)
            clear hb
            go_wp2_with fail
            refine (awake2_any _ E1.out).mono ?_
            rintro e w6 ⟨rfl, hb⟩
            obtain ⟨g6, q6⟩ := bcell hb
            have hz6 : w.heap.size + 1 + 1 < w6.heap.size := by have := hb.size; omega
            replace B1 := hide (B1.out.trans (hb.mono B1.out.size))
            replace E1 := hide (E1.out.keep hb)
            clear hb
            go_wp2_with fail
            go_ret
            exact ⟨rfl, B1.out⟩
end Go.Proofs.YtpoolbeaipbjmaaDoor
