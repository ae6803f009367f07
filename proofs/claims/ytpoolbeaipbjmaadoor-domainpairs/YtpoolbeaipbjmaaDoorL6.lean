/- Walks over moatlaw2.host and moatlaw2.DomainPairs. -/
import Derived.Test.YtpoolbeaipbjmaaDoorS3
import Derived.Test.YtpoolbeaipbjmaaDoorD3
namespace Go.Proofs.YtpoolbeaipbjmaaDoor
open Go.RowKit Go.Proofs.Url

set_option maxHeartbeats 1000000 in
set_option maxRecDepth 100000 in
theorem host2_any (n : Int) (w : World) :
    Calls Tryd.prog 12 #[.int .i64 n] w fun e w' => ∃ l : List UInt8, e = .returned (.string ⟨l.toArray⟩) ∧ host l = true ∧ l.length ≤ 10 ∧ Below w.heap.size w w' := by
  have LA := hide (fun W => low_any n 4096 W (by omega) (by omega))
  have a0 := low_nn n 4096 (by omega)
  have a1 := low_lt n 4096 (by omega)
  generalize low n 4096 = A0 at *
  obtain ⟨A, rfl⟩ := Int.eq_ofNat_of_zero_le a0
  go_enter Tryd.func12, Tryd.ntmps12
  go_wp2_with fail
  refine (LA.out _).mono ?_
  rintro e w1 ⟨rfl, rfl⟩
  have hk : A % 2 < 2 := Nat.mod_lt _ (by omega)
  have hcell := lit_cell w1 [[99], [100]] 9 (A % 2) hk
  have hl : ([[99], [100]] : List (List UInt8))[A % 2].length = 1 ∧ host ([[99], [100]] : List (List UInt8))[A % 2] = true := by
    generalize A % 2 = r at *
    match r, hk with
    | 0, _ => exact ⟨rfl, (by decide +kernel : host [99] = true)⟩
    | 1, _ => exact ⟨rfl, (by decide +kernel : host [100] = true)⟩
  generalize ([[99], [100]] : List (List UInt8))[A % 2] = l0 at *
  simp only [List.map_cons, List.map_nil] at hcell
  obtain ⟨hl0, hh0⟩ := hl
  have HH0 := hide hh0
  clear hh0
  go_wp2_with fail
  clear hcell hk
  go_loopw [3, 4] (fun sv iv W => ∃ (k : Nat) (l : List UInt8), k ≤ 3 ∧ iv = .int .i64 k ∧ sv = .string ⟨l.toArray⟩ ∧ l.length ≤ 1 + 3 * k ∧ Hid (host l = true) ∧ Hid (Below w1.heap.size w1 W)) (fun _ iv _ => 4 - (intOf iv).toNat)
  case atStart => exact ⟨0, l0, by omega, rfl, rfl, by omega, HH0, (Below.refl _ _).alloc (Nat.le_refl _) _⟩
  case round =>
    obtain ⟨k, l, hk, rfl, rfl, hl, hh, hB⟩ := hrel
    by_cases hlt : (k : Int) < (A : Int) / 2 % 4
    · obtain ⟨r, hr, hbits⟩ := and_mask ((A : Int) / 8 / 2 ^ (2 * k)) 3 (by omega)
      have hr' : r < 4 := by omega
      have hcell := lit_cell wr [[97], [98], [97, 98], [99]] 9 r hr'
      have hls : ([[97], [98], [97, 98], [99]] : List (List UInt8))[r].length ≤ 2 ∧ label ([[97], [98], [97, 98], [99]] : List (List UInt8))[r] = true := by
        match r, hr' with
        | 0, _ => exact ⟨(by simp), (by decide +kernel : label [97] = true)⟩
        | 1, _ => exact ⟨(by simp), (by decide +kernel : label [98] = true)⟩
        | 2, _ => exact ⟨(by simp), (by decide +kernel : label [97, 98] = true)⟩
        | 3, _ => exact ⟨(by simp), (by decide +kernel : label [99] = true)⟩
      generalize ([[97], [98], [97, 98], [99]] : List (List UInt8))[r] = p at *
      simp only [List.map_cons, List.map_nil] at hcell
      obtain ⟨hp2, hpl⟩ := hls
      have HL : Hid (host (p ++ 46 :: l) = true) := host_more hpl hh.out (by omega)
      have hbits' : bits BinOp.and IntKind.i64 ((A : Int) / 8 / 2 ^ (2 * k)) 3 = (r : Int) := hbits
      clear hbits hpl
      go_wp2_with fail
      refine ⟨⟨k + 1, p ++ 46 :: l, by omega, by go_num, congrArg Value.string (dataEq (by simp)), by simp; omega, HL, hB.out.alloc hB.out.size _⟩, by simp [intOf]; omega⟩
    · go_wp2_with fail
      go_ret
      exact ⟨l, rfl, hh.out, by omega, hB.out⟩

set_option maxHeartbeats 4000000 in
set_option maxRecDepth 100000 in
theorem domainPairs_walk (a b c : Int) (w : World) (henv : Env w) :
    Calls Tryd.prog 5 #[.int .i64 a, .int .i64 b, .int .i64 c] w fun e w' => e = .returned (.bool true) ∧ Below w.heap.size w w' := by
  have HA := hide (host2_any a)
  have HB := hide (host2_any b)
  have HC := hide (host2_any c)
  go_enter Tryd.func5, Tryd.ntmps5
  go_wp2_with fail
  refine (HA.out _).mono ?_
  rintro e w1 ⟨x, rfl, hx, hxl, hb1⟩
  have B1 := hide hb1
  clear hb1 HA
  go_wp2_with fail
  refine (HB.out _).mono ?_
  rintro e w2 ⟨y, rfl, hy, hyl, hb2⟩
  have B2 := hide (B1.out.trans (hb2.mono B1.out.size))
  clear hb2 HB B1
  go_wp2_with fail
  refine (HC.out _).mono ?_
  rintro e w3 ⟨z, rfl, hz, hzl, hb3⟩
  have B := hide (B2.out.trans (hb3.mono B2.out.size))
  clear hb3 HC B2
  have sl : (siteS x).length ≤ 60 := host_len (site_host hx).1
  have Fxx := hide (under_self hx)
  have Fxs := hide (site_host hx).2.1
  have Fss := hide (site_site hx)
  have T1 : Hid (underS x y = true → underS y z = true → underS x z = true) := under_trans
  have T2 : Hid (underS x y = true → underS y x = true → x = y) := under_anti
  have T3 : Hid (underS x y = true → 2 ≤ (labelsS y).length → siteS x = siteS y) := site_under
  clear hx hy hz
  cases h1 : underS x y with
  | false =>
    have Fxy := hide h1
    clear T1 T2 T3 h1
    go_wp2_with fail
    refine (under_any x y _ (henv.keep B.out) (by omega) (by omega)).mono ?_
    rintro e w4 ⟨rfl, hb4⟩
    rw [Fxy.out]
    replace B := hide (B.out.trans (hb4.mono B.out.size))
    clear hb4
    go_wp2_with fail
    refine (under_any x y _ (henv.keep B.out) (by omega) (by omega)).mono ?_
    rintro e w4 ⟨rfl, hb4⟩
    rw [Fxy.out]
    replace B := hide (B.out.trans (hb4.mono B.out.size))
    clear hb4
    go_wp2_with fail
    refine (under_any x y _ (henv.keep B.out) (by omega) (by omega)).mono ?_
    rintro e w4 ⟨rfl, hb4⟩
    rw [Fxy.out]
    replace B := hide (B.out.trans (hb4.mono B.out.size))
    clear hb4
    go_wp2_with fail
    refine (under_any x x _ (henv.keep B.out) (by omega) (by omega)).mono ?_
    rintro e w4 ⟨rfl, hb4⟩
    rw [Fxx.out]
    replace B := hide (B.out.trans (hb4.mono B.out.size))
    clear hb4
    go_wp2_with fail
    refine (siteL_any x _ (henv.keep B.out) (by omega)).mono ?_
    rintro e w4 ⟨rfl, hb4⟩
    replace B := hide (B.out.trans (hb4.mono B.out.size))
    clear hb4
    go_wp2_with fail
    refine (under_any x (siteS x) _ (henv.keep B.out) (by omega) (by omega)).mono ?_
    rintro e w4 ⟨rfl, hb4⟩
    rw [Fxs.out]
    replace B := hide (B.out.trans (hb4.mono B.out.size))
    clear hb4
    go_wp2_with fail
    refine (siteL_any x _ (henv.keep B.out) (by omega)).mono ?_
    rintro e w4 ⟨rfl, hb4⟩
    replace B := hide (B.out.trans (hb4.mono B.out.size))
    clear hb4
    go_wp2_with fail
    refine (siteL_any (siteS x) _ (henv.keep B.out) (by omega)).mono ?_
    rintro e w4 ⟨rfl, hb4⟩
    rw [Fss.out]
    replace B := hide (B.out.trans (hb4.mono B.out.size))
    clear hb4
    go_wp2_with fail
    refine (siteL_any x _ (henv.keep B.out) (by omega)).mono ?_
    rintro e w4 ⟨rfl, hb4⟩
    replace B := hide (B.out.trans (hb4.mono B.out.size))
    clear hb4
    go_wp2_with fail
    refine (awake2_any _ (henv.keep B.out)).mono ?_
    rintro e w4 ⟨rfl, hb4⟩
    replace B := hide (B.out.trans (hb4.mono B.out.size))
    clear hb4
    go_wp2_with fail
    go_ret
    exact ⟨rfl, B.out⟩
  | true =>
    have Fxy := hide h1
    have t1 := hide (T1.out h1)
    have t2 := hide (T2.out h1)
    have t3 := hide (T3.out h1)
    clear T1 T2 T3 h1
    cases h2 : underS y z with
    | true =>
      have Fyz := hide h2
      have Fxz := hide (t1.out h2)
      clear h2 t1
      cases h4 : underS y x with
      | true =>
        have Fyx := hide h4
        have hxy : (x == y) = true := beq_iff_eq.2 (t2.out h4)
        clear h4 t2
        by_cases h3 : 2 ≤ (labelsS y).length
        · have hn : (2 : Int) ≤ ((labelsS y).length : Int) := by omega
          have hs : (siteS x == siteS y) = true := beq_iff_eq.2 (t3.out h3)
          clear h3 t3
          go_wp2_with fail
          refine (under_any x y _ (henv.keep B.out) (by omega) (by omega)).mono ?_
          rintro e w4 ⟨rfl, hb4⟩
          rw [Fxy.out]
          replace B := hide (B.out.trans (hb4.mono B.out.size))
          clear hb4
          go_wp2_with fail
          refine (under_any y z _ (henv.keep B.out) (by omega) (by omega)).mono ?_
          rintro e w4 ⟨rfl, hb4⟩
          rw [Fyz.out]
          replace B := hide (B.out.trans (hb4.mono B.out.size))
          clear hb4
          go_wp2_with fail
          refine (under_any x z _ (henv.keep B.out) (by omega) (by omega)).mono ?_
          rintro e w4 ⟨rfl, hb4⟩
          rw [Fxz.out]
          replace B := hide (B.out.trans (hb4.mono B.out.size))
          clear hb4
          go_wp2_with fail
          refine (under_any x y _ (henv.keep B.out) (by omega) (by omega)).mono ?_
          rintro e w4 ⟨rfl, hb4⟩
          rw [Fxy.out]
          replace B := hide (B.out.trans (hb4.mono B.out.size))
          clear hb4
          go_wp2_with fail
          refine (under_any y x _ (henv.keep B.out) (by omega) (by omega)).mono ?_
          rintro e w4 ⟨rfl, hb4⟩
          rw [Fyx.out]
          replace B := hide (B.out.trans (hb4.mono B.out.size))
          clear hb4
          go_wp2_with fail
          refine (under_any x y _ (henv.keep B.out) (by omega) (by omega)).mono ?_
          rintro e w4 ⟨rfl, hb4⟩
          rw [Fxy.out]
          replace B := hide (B.out.trans (hb4.mono B.out.size))
          clear hb4
          go_wp2_with fail
          refine (labels_len y _ (henv.keep B.out) (by omega)).mono ?_
          rintro e w4 ⟨ao, cap, rfl, hb4⟩
          replace B := hide (B.out.trans (hb4.mono B.out.size))
          clear hb4
          go_wp2_with fail
          refine (siteL_any x _ (henv.keep B.out) (by omega)).mono ?_
          rintro e w4 ⟨rfl, hb4⟩
          replace B := hide (B.out.trans (hb4.mono B.out.size))
          clear hb4
          go_wp2_with fail
          refine (siteL_any y _ (henv.keep B.out) (by omega)).mono ?_
          rintro e w4 ⟨rfl, hb4⟩
          replace B := hide (B.out.trans (hb4.mono B.out.size))
          clear hb4
          go_wp2_with fail
          refine (under_any x x _ (henv.keep B.out) (by omega) (by omega)).mono ?_
          rintro e w4 ⟨rfl, hb4⟩
          rw [Fxx.out]
          replace B := hide (B.out.trans (hb4.mono B.out.size))
          clear hb4
          go_wp2_with fail
          refine (siteL_any x _ (henv.keep B.out) (by omega)).mono ?_
          rintro e w4 ⟨rfl, hb4⟩
          replace B := hide (B.out.trans (hb4.mono B.out.size))
          clear hb4
          go_wp2_with fail
          refine (under_any x (siteS x) _ (henv.keep B.out) (by omega) (by omega)).mono ?_
          rintro e w4 ⟨rfl, hb4⟩
          rw [Fxs.out]
          replace B := hide (B.out.trans (hb4.mono B.out.size))
          clear hb4
          go_wp2_with fail
          refine (siteL_any x _ (henv.keep B.out) (by omega)).mono ?_
          rintro e w4 ⟨rfl, hb4⟩
          replace B := hide (B.out.trans (hb4.mono B.out.size))
          clear hb4
          go_wp2_with fail
          refine (siteL_any (siteS x) _ (henv.keep B.out) (by omega)).mono ?_
          rintro e w4 ⟨rfl, hb4⟩
          rw [Fss.out]
          replace B := hide (B.out.trans (hb4.mono B.out.size))
          clear hb4
          go_wp2_with fail
          refine (siteL_any x _ (henv.keep B.out) (by omega)).mono ?_
          rintro e w4 ⟨rfl, hb4⟩
          replace B := hide (B.out.trans (hb4.mono B.out.size))
          clear hb4
          go_wp2_with fail
          refine (awake2_any _ (henv.keep B.out)).mono ?_
          rintro e w4 ⟨rfl, hb4⟩
          replace B := hide (B.out.trans (hb4.mono B.out.size))
          clear hb4
          go_wp2_with fail
          go_ret
          exact ⟨rfl, B.out⟩
        · have hn : ¬ (2 : Int) ≤ ((labelsS y).length : Int) := by omega
          clear h3 t3
          go_wp2_with fail
          refine (under_any x y _ (henv.keep B.out) (by omega) (by omega)).mono ?_
          rintro e w4 ⟨rfl, hb4⟩
          rw [Fxy.out]
          replace B := hide (B.out.trans (hb4.mono B.out.size))
          clear hb4
          go_wp2_with fail
          refine (under_any y z _ (henv.keep B.out) (by omega) (by omega)).mono ?_
          rintro e w4 ⟨rfl, hb4⟩
          rw [Fyz.out]
          replace B := hide (B.out.trans (hb4.mono B.out.size))
          clear hb4
          go_wp2_with fail
          refine (under_any x z _ (henv.keep B.out) (by omega) (by omega)).mono ?_
          rintro e w4 ⟨rfl, hb4⟩
          rw [Fxz.out]
          replace B := hide (B.out.trans (hb4.mono B.out.size))
          clear hb4
          go_wp2_with fail
          refine (under_any x y _ (henv.keep B.out) (by omega) (by omega)).mono ?_
          rintro e w4 ⟨rfl, hb4⟩
          rw [Fxy.out]
          replace B := hide (B.out.trans (hb4.mono B.out.size))
          clear hb4
          go_wp2_with fail
          refine (under_any y x _ (henv.keep B.out) (by omega) (by omega)).mono ?_
          rintro e w4 ⟨rfl, hb4⟩
          rw [Fyx.out]
          replace B := hide (B.out.trans (hb4.mono B.out.size))
          clear hb4
          go_wp2_with fail
          refine (under_any x y _ (henv.keep B.out) (by omega) (by omega)).mono ?_
          rintro e w4 ⟨rfl, hb4⟩
          rw [Fxy.out]
          replace B := hide (B.out.trans (hb4.mono B.out.size))
          clear hb4
          go_wp2_with fail
          refine (labels_len y _ (henv.keep B.out) (by omega)).mono ?_
          rintro e w4 ⟨ao, cap, rfl, hb4⟩
          replace B := hide (B.out.trans (hb4.mono B.out.size))
          clear hb4
          go_wp2_with fail
          refine (under_any x x _ (henv.keep B.out) (by omega) (by omega)).mono ?_
          rintro e w4 ⟨rfl, hb4⟩
          rw [Fxx.out]
          replace B := hide (B.out.trans (hb4.mono B.out.size))
          clear hb4
          go_wp2_with fail
          refine (siteL_any x _ (henv.keep B.out) (by omega)).mono ?_
          rintro e w4 ⟨rfl, hb4⟩
          replace B := hide (B.out.trans (hb4.mono B.out.size))
          clear hb4
          go_wp2_with fail
          refine (under_any x (siteS x) _ (henv.keep B.out) (by omega) (by omega)).mono ?_
          rintro e w4 ⟨rfl, hb4⟩
          rw [Fxs.out]
          replace B := hide (B.out.trans (hb4.mono B.out.size))
          clear hb4
          go_wp2_with fail
          refine (siteL_any x _ (henv.keep B.out) (by omega)).mono ?_
          rintro e w4 ⟨rfl, hb4⟩
          replace B := hide (B.out.trans (hb4.mono B.out.size))
          clear hb4
          go_wp2_with fail
          refine (siteL_any (siteS x) _ (henv.keep B.out) (by omega)).mono ?_
          rintro e w4 ⟨rfl, hb4⟩
          rw [Fss.out]
          replace B := hide (B.out.trans (hb4.mono B.out.size))
          clear hb4
          go_wp2_with fail
          refine (siteL_any x _ (henv.keep B.out) (by omega)).mono ?_
          rintro e w4 ⟨rfl, hb4⟩
          replace B := hide (B.out.trans (hb4.mono B.out.size))
          clear hb4
          go_wp2_with fail
          refine (awake2_any _ (henv.keep B.out)).mono ?_
          rintro e w4 ⟨rfl, hb4⟩
          replace B := hide (B.out.trans (hb4.mono B.out.size))
          clear hb4
          go_wp2_with fail
          go_ret
          exact ⟨rfl, B.out⟩
      | false =>
        have Fyx := hide h4
        clear h4 t2
        by_cases h3 : 2 ≤ (labelsS y).length
        · have hn : (2 : Int) ≤ ((labelsS y).length : Int) := by omega
          have hs : (siteS x == siteS y) = true := beq_iff_eq.2 (t3.out h3)
          clear h3 t3
          go_wp2_with fail
          refine (under_any x y _ (henv.keep B.out) (by omega) (by omega)).mono ?_
          rintro e w4 ⟨rfl, hb4⟩
          rw [Fxy.out]
          replace B := hide (B.out.trans (hb4.mono B.out.size))
          clear hb4
          go_wp2_with fail
          refine (under_any y z _ (henv.keep B.out) (by omega) (by omega)).mono ?_
          rintro e w4 ⟨rfl, hb4⟩
          rw [Fyz.out]
          replace B := hide (B.out.trans (hb4.mono B.out.size))
          clear hb4
          go_wp2_with fail
          refine (under_any x z _ (henv.keep B.out) (by omega) (by omega)).mono ?_
          rintro e w4 ⟨rfl, hb4⟩
          rw [Fxz.out]
          replace B := hide (B.out.trans (hb4.mono B.out.size))
          clear hb4
          go_wp2_with fail
          refine (under_any x y _ (henv.keep B.out) (by omega) (by omega)).mono ?_
          rintro e w4 ⟨rfl, hb4⟩
          rw [Fxy.out]
          replace B := hide (B.out.trans (hb4.mono B.out.size))
          clear hb4
          go_wp2_with fail
          refine (under_any y x _ (henv.keep B.out) (by omega) (by omega)).mono ?_
          rintro e w4 ⟨rfl, hb4⟩
          rw [Fyx.out]
          replace B := hide (B.out.trans (hb4.mono B.out.size))
          clear hb4
          go_wp2_with fail
          refine (under_any x y _ (henv.keep B.out) (by omega) (by omega)).mono ?_
          rintro e w4 ⟨rfl, hb4⟩
          rw [Fxy.out]
          replace B := hide (B.out.trans (hb4.mono B.out.size))
          clear hb4
          go_wp2_with fail
          refine (labels_len y _ (henv.keep B.out) (by omega)).mono ?_
          rintro e w4 ⟨ao, cap, rfl, hb4⟩
          replace B := hide (B.out.trans (hb4.mono B.out.size))
          clear hb4
          go_wp2_with fail
          refine (siteL_any x _ (henv.keep B.out) (by omega)).mono ?_
          rintro e w4 ⟨rfl, hb4⟩
          replace B := hide (B.out.trans (hb4.mono B.out.size))
          clear hb4
          go_wp2_with fail
          refine (siteL_any y _ (henv.keep B.out) (by omega)).mono ?_
          rintro e w4 ⟨rfl, hb4⟩
          replace B := hide (B.out.trans (hb4.mono B.out.size))
          clear hb4
          go_wp2_with fail
          refine (under_any x x _ (henv.keep B.out) (by omega) (by omega)).mono ?_
          rintro e w4 ⟨rfl, hb4⟩
          rw [Fxx.out]
          replace B := hide (B.out.trans (hb4.mono B.out.size))
          clear hb4
          go_wp2_with fail
          refine (siteL_any x _ (henv.keep B.out) (by omega)).mono ?_
          rintro e w4 ⟨rfl, hb4⟩
          replace B := hide (B.out.trans (hb4.mono B.out.size))
          clear hb4
          go_wp2_with fail
          refine (under_any x (siteS x) _ (henv.keep B.out) (by omega) (by omega)).mono ?_
          rintro e w4 ⟨rfl, hb4⟩
          rw [Fxs.out]
          replace B := hide (B.out.trans (hb4.mono B.out.size))
          clear hb4
          go_wp2_with fail
          refine (siteL_any x _ (henv.keep B.out) (by omega)).mono ?_
          rintro e w4 ⟨rfl, hb4⟩
          replace B := hide (B.out.trans (hb4.mono B.out.size))
          clear hb4
          go_wp2_with fail
          refine (siteL_any (siteS x) _ (henv.keep B.out) (by omega)).mono ?_
          rintro e w4 ⟨rfl, hb4⟩
          rw [Fss.out]
          replace B := hide (B.out.trans (hb4.mono B.out.size))
          clear hb4
          go_wp2_with fail
          refine (siteL_any x _ (henv.keep B.out) (by omega)).mono ?_
          rintro e w4 ⟨rfl, hb4⟩
          replace B := hide (B.out.trans (hb4.mono B.out.size))
          clear hb4
          go_wp2_with fail
          refine (awake2_any _ (henv.keep B.out)).mono ?_
          rintro e w4 ⟨rfl, hb4⟩
          replace B := hide (B.out.trans (hb4.mono B.out.size))
          clear hb4
          go_wp2_with fail
          go_ret
          exact ⟨rfl, B.out⟩
        · have hn : ¬ (2 : Int) ≤ ((labelsS y).length : Int) := by omega
          clear h3 t3
          go_wp2_with fail
          refine (under_any x y _ (henv.keep B.out) (by omega) (by omega)).mono ?_
          rintro e w4 ⟨rfl, hb4⟩
          rw [Fxy.out]
          replace B := hide (B.out.trans (hb4.mono B.out.size))
          clear hb4
          go_wp2_with fail
          refine (under_any y z _ (henv.keep B.out) (by omega) (by omega)).mono ?_
          rintro e w4 ⟨rfl, hb4⟩
          rw [Fyz.out]
          replace B := hide (B.out.trans (hb4.mono B.out.size))
          clear hb4
          go_wp2_with fail
          refine (under_any x z _ (henv.keep B.out) (by omega) (by omega)).mono ?_
          rintro e w4 ⟨rfl, hb4⟩
          rw [Fxz.out]
          replace B := hide (B.out.trans (hb4.mono B.out.size))
          clear hb4
          go_wp2_with fail
          refine (under_any x y _ (henv.keep B.out) (by omega) (by omega)).mono ?_
          rintro e w4 ⟨rfl, hb4⟩
          rw [Fxy.out]
          replace B := hide (B.out.trans (hb4.mono B.out.size))
          clear hb4
          go_wp2_with fail
          refine (under_any y x _ (henv.keep B.out) (by omega) (by omega)).mono ?_
          rintro e w4 ⟨rfl, hb4⟩
          rw [Fyx.out]
          replace B := hide (B.out.trans (hb4.mono B.out.size))
          clear hb4
          go_wp2_with fail
          refine (under_any x y _ (henv.keep B.out) (by omega) (by omega)).mono ?_
          rintro e w4 ⟨rfl, hb4⟩
          rw [Fxy.out]
          replace B := hide (B.out.trans (hb4.mono B.out.size))
          clear hb4
          go_wp2_with fail
          refine (labels_len y _ (henv.keep B.out) (by omega)).mono ?_
          rintro e w4 ⟨ao, cap, rfl, hb4⟩
          replace B := hide (B.out.trans (hb4.mono B.out.size))
          clear hb4
          go_wp2_with fail
          refine (under_any x x _ (henv.keep B.out) (by omega) (by omega)).mono ?_
          rintro e w4 ⟨rfl, hb4⟩
          rw [Fxx.out]
          replace B := hide (B.out.trans (hb4.mono B.out.size))
          clear hb4
          go_wp2_with fail
          refine (siteL_any x _ (henv.keep B.out) (by omega)).mono ?_
          rintro e w4 ⟨rfl, hb4⟩
          replace B := hide (B.out.trans (hb4.mono B.out.size))
          clear hb4
          go_wp2_with fail
          refine (under_any x (siteS x) _ (henv.keep B.out) (by omega) (by omega)).mono ?_
          rintro e w4 ⟨rfl, hb4⟩
          rw [Fxs.out]
          replace B := hide (B.out.trans (hb4.mono B.out.size))
          clear hb4
          go_wp2_with fail
          refine (siteL_any x _ (henv.keep B.out) (by omega)).mono ?_
          rintro e w4 ⟨rfl, hb4⟩
          replace B := hide (B.out.trans (hb4.mono B.out.size))
          clear hb4
          go_wp2_with fail
          refine (siteL_any (siteS x) _ (henv.keep B.out) (by omega)).mono ?_
          rintro e w4 ⟨rfl, hb4⟩
          rw [Fss.out]
          replace B := hide (B.out.trans (hb4.mono B.out.size))
          clear hb4
          go_wp2_with fail
          refine (siteL_any x _ (henv.keep B.out) (by omega)).mono ?_
          rintro e w4 ⟨rfl, hb4⟩
          replace B := hide (B.out.trans (hb4.mono B.out.size))
          clear hb4
          go_wp2_with fail
          refine (awake2_any _ (henv.keep B.out)).mono ?_
          rintro e w4 ⟨rfl, hb4⟩
          replace B := hide (B.out.trans (hb4.mono B.out.size))
          clear hb4
          go_wp2_with fail
          go_ret
          exact ⟨rfl, B.out⟩
    | false =>
      have Fyz := hide h2
      clear h2 t1
      cases h4 : underS y x with
      | true =>
        have Fyx := hide h4
        have hxy : (x == y) = true := beq_iff_eq.2 (t2.out h4)
        clear h4 t2
        by_cases h3 : 2 ≤ (labelsS y).length
        · have hn : (2 : Int) ≤ ((labelsS y).length : Int) := by omega
          have hs : (siteS x == siteS y) = true := beq_iff_eq.2 (t3.out h3)
          clear h3 t3
          go_wp2_with fail
          refine (under_any x y _ (henv.keep B.out) (by omega) (by omega)).mono ?_
          rintro e w4 ⟨rfl, hb4⟩
          rw [Fxy.out]
          replace B := hide (B.out.trans (hb4.mono B.out.size))
          clear hb4
          go_wp2_with fail
          refine (under_any y z _ (henv.keep B.out) (by omega) (by omega)).mono ?_
          rintro e w4 ⟨rfl, hb4⟩
          rw [Fyz.out]
          replace B := hide (B.out.trans (hb4.mono B.out.size))
          clear hb4
          go_wp2_with fail
          refine (under_any x y _ (henv.keep B.out) (by omega) (by omega)).mono ?_
          rintro e w4 ⟨rfl, hb4⟩
          rw [Fxy.out]
          replace B := hide (B.out.trans (hb4.mono B.out.size))
          clear hb4
          go_wp2_with fail
          refine (under_any y x _ (henv.keep B.out) (by omega) (by omega)).mono ?_
          rintro e w4 ⟨rfl, hb4⟩
          rw [Fyx.out]
          replace B := hide (B.out.trans (hb4.mono B.out.size))
          clear hb4
          go_wp2_with fail
          refine (under_any x y _ (henv.keep B.out) (by omega) (by omega)).mono ?_
          rintro e w4 ⟨rfl, hb4⟩
          rw [Fxy.out]
          replace B := hide (B.out.trans (hb4.mono B.out.size))
          clear hb4
          go_wp2_with fail
          refine (labels_len y _ (henv.keep B.out) (by omega)).mono ?_
          rintro e w4 ⟨ao, cap, rfl, hb4⟩
          replace B := hide (B.out.trans (hb4.mono B.out.size))
          clear hb4
          go_wp2_with fail
          refine (siteL_any x _ (henv.keep B.out) (by omega)).mono ?_
          rintro e w4 ⟨rfl, hb4⟩
          replace B := hide (B.out.trans (hb4.mono B.out.size))
          clear hb4
          go_wp2_with fail
          refine (siteL_any y _ (henv.keep B.out) (by omega)).mono ?_
          rintro e w4 ⟨rfl, hb4⟩
          replace B := hide (B.out.trans (hb4.mono B.out.size))
          clear hb4
          go_wp2_with fail
          refine (under_any x x _ (henv.keep B.out) (by omega) (by omega)).mono ?_
          rintro e w4 ⟨rfl, hb4⟩
          rw [Fxx.out]
          replace B := hide (B.out.trans (hb4.mono B.out.size))
          clear hb4
          go_wp2_with fail
          refine (siteL_any x _ (henv.keep B.out) (by omega)).mono ?_
          rintro e w4 ⟨rfl, hb4⟩
          replace B := hide (B.out.trans (hb4.mono B.out.size))
          clear hb4
          go_wp2_with fail
          refine (under_any x (siteS x) _ (henv.keep B.out) (by omega) (by omega)).mono ?_
          rintro e w4 ⟨rfl, hb4⟩
          rw [Fxs.out]
          replace B := hide (B.out.trans (hb4.mono B.out.size))
          clear hb4
          go_wp2_with fail
          refine (siteL_any x _ (henv.keep B.out) (by omega)).mono ?_
          rintro e w4 ⟨rfl, hb4⟩
          replace B := hide (B.out.trans (hb4.mono B.out.size))
          clear hb4
          go_wp2_with fail
          refine (siteL_any (siteS x) _ (henv.keep B.out) (by omega)).mono ?_
          rintro e w4 ⟨rfl, hb4⟩
          rw [Fss.out]
          replace B := hide (B.out.trans (hb4.mono B.out.size))
          clear hb4
          go_wp2_with fail
          refine (siteL_any x _ (henv.keep B.out) (by omega)).mono ?_
          rintro e w4 ⟨rfl, hb4⟩
          replace B := hide (B.out.trans (hb4.mono B.out.size))
          clear hb4
          go_wp2_with fail
          refine (awake2_any _ (henv.keep B.out)).mono ?_
          rintro e w4 ⟨rfl, hb4⟩
          replace B := hide (B.out.trans (hb4.mono B.out.size))
          clear hb4
          go_wp2_with fail
          go_ret
          exact ⟨rfl, B.out⟩
        · have hn : ¬ (2 : Int) ≤ ((labelsS y).length : Int) := by omega
          clear h3 t3
          go_wp2_with fail
          refine (under_any x y _ (henv.keep B.out) (by omega) (by omega)).mono ?_
          rintro e w4 ⟨rfl, hb4⟩
          rw [Fxy.out]
          replace B := hide (B.out.trans (hb4.mono B.out.size))
          clear hb4
          go_wp2_with fail
          refine (under_any y z _ (henv.keep B.out) (by omega) (by omega)).mono ?_
          rintro e w4 ⟨rfl, hb4⟩
          rw [Fyz.out]
          replace B := hide (B.out.trans (hb4.mono B.out.size))
          clear hb4
          go_wp2_with fail
          refine (under_any x y _ (henv.keep B.out) (by omega) (by omega)).mono ?_
          rintro e w4 ⟨rfl, hb4⟩
          rw [Fxy.out]
          replace B := hide (B.out.trans (hb4.mono B.out.size))
          clear hb4
          go_wp2_with fail
          refine (under_any y x _ (henv.keep B.out) (by omega) (by omega)).mono ?_
          rintro e w4 ⟨rfl, hb4⟩
          rw [Fyx.out]
          replace B := hide (B.out.trans (hb4.mono B.out.size))
          clear hb4
          go_wp2_with fail
          refine (under_any x y _ (henv.keep B.out) (by omega) (by omega)).mono ?_
          rintro e w4 ⟨rfl, hb4⟩
          rw [Fxy.out]
          replace B := hide (B.out.trans (hb4.mono B.out.size))
          clear hb4
          go_wp2_with fail
          refine (labels_len y _ (henv.keep B.out) (by omega)).mono ?_
          rintro e w4 ⟨ao, cap, rfl, hb4⟩
          replace B := hide (B.out.trans (hb4.mono B.out.size))
          clear hb4
          go_wp2_with fail
          refine (under_any x x _ (henv.keep B.out) (by omega) (by omega)).mono ?_
          rintro e w4 ⟨rfl, hb4⟩
          rw [Fxx.out]
          replace B := hide (B.out.trans (hb4.mono B.out.size))
          clear hb4
          go_wp2_with fail
          refine (siteL_any x _ (henv.keep B.out) (by omega)).mono ?_
          rintro e w4 ⟨rfl, hb4⟩
          replace B := hide (B.out.trans (hb4.mono B.out.size))
          clear hb4
          go_wp2_with fail
          refine (under_any x (siteS x) _ (henv.keep B.out) (by omega) (by omega)).mono ?_
          rintro e w4 ⟨rfl, hb4⟩
          rw [Fxs.out]
          replace B := hide (B.out.trans (hb4.mono B.out.size))
          clear hb4
          go_wp2_with fail
          refine (siteL_any x _ (henv.keep B.out) (by omega)).mono ?_
          rintro e w4 ⟨rfl, hb4⟩
          replace B := hide (B.out.trans (hb4.mono B.out.size))
          clear hb4
          go_wp2_with fail
          refine (siteL_any (siteS x) _ (henv.keep B.out) (by omega)).mono ?_
          rintro e w4 ⟨rfl, hb4⟩
          rw [Fss.out]
          replace B := hide (B.out.trans (hb4.mono B.out.size))
          clear hb4
          go_wp2_with fail
          refine (siteL_any x _ (henv.keep B.out) (by omega)).mono ?_
          rintro e w4 ⟨rfl, hb4⟩
          replace B := hide (B.out.trans (hb4.mono B.out.size))
          clear hb4
          go_wp2_with fail
          refine (awake2_any _ (henv.keep B.out)).mono ?_
          rintro e w4 ⟨rfl, hb4⟩
          replace B := hide (B.out.trans (hb4.mono B.out.size))
          clear hb4
          go_wp2_with fail
          go_ret
          exact ⟨rfl, B.out⟩
      | false =>
        have Fyx := hide h4
        clear h4 t2
        by_cases h3 : 2 ≤ (labelsS y).length
        · have hn : (2 : Int) ≤ ((labelsS y).length : Int) := by omega
          have hs : (siteS x == siteS y) = true := beq_iff_eq.2 (t3.out h3)
          clear h3 t3
          go_wp2_with fail
          refine (under_any x y _ (henv.keep B.out) (by omega) (by omega)).mono ?_
          rintro e w4 ⟨rfl, hb4⟩
          rw [Fxy.out]
          replace B := hide (B.out.trans (hb4.mono B.out.size))
          clear hb4
          go_wp2_with fail
          refine (under_any y z _ (henv.keep B.out) (by omega) (by omega)).mono ?_
          rintro e w4 ⟨rfl, hb4⟩
          rw [Fyz.out]
          replace B := hide (B.out.trans (hb4.mono B.out.size))
          clear hb4
          go_wp2_with fail
          refine (under_any x y _ (henv.keep B.out) (by omega) (by omega)).mono ?_
          rintro e w4 ⟨rfl, hb4⟩
          rw [Fxy.out]
          replace B := hide (B.out.trans (hb4.mono B.out.size))
          clear hb4
          go_wp2_with fail
          refine (under_any y x _ (henv.keep B.out) (by omega) (by omega)).mono ?_
          rintro e w4 ⟨rfl, hb4⟩
          rw [Fyx.out]
          replace B := hide (B.out.trans (hb4.mono B.out.size))
          clear hb4
          go_wp2_with fail
          refine (under_any x y _ (henv.keep B.out) (by omega) (by omega)).mono ?_
          rintro e w4 ⟨rfl, hb4⟩
          rw [Fxy.out]
          replace B := hide (B.out.trans (hb4.mono B.out.size))
          clear hb4
          go_wp2_with fail
          refine (labels_len y _ (henv.keep B.out) (by omega)).mono ?_
          rintro e w4 ⟨ao, cap, rfl, hb4⟩
          replace B := hide (B.out.trans (hb4.mono B.out.size))
          clear hb4
          go_wp2_with fail
          refine (siteL_any x _ (henv.keep B.out) (by omega)).mono ?_
          rintro e w4 ⟨rfl, hb4⟩
          replace B := hide (B.out.trans (hb4.mono B.out.size))
          clear hb4
          go_wp2_with fail
          refine (siteL_any y _ (henv.keep B.out) (by omega)).mono ?_
          rintro e w4 ⟨rfl, hb4⟩
          replace B := hide (B.out.trans (hb4.mono B.out.size))
          clear hb4
          go_wp2_with fail
          refine (under_any x x _ (henv.keep B.out) (by omega) (by omega)).mono ?_
          rintro e w4 ⟨rfl, hb4⟩
          rw [Fxx.out]
          replace B := hide (B.out.trans (hb4.mono B.out.size))
          clear hb4
          go_wp2_with fail
          refine (siteL_any x _ (henv.keep B.out) (by omega)).mono ?_
          rintro e w4 ⟨rfl, hb4⟩
          replace B := hide (B.out.trans (hb4.mono B.out.size))
          clear hb4
          go_wp2_with fail
          refine (under_any x (siteS x) _ (henv.keep B.out) (by omega) (by omega)).mono ?_
          rintro e w4 ⟨rfl, hb4⟩
          rw [Fxs.out]
          replace B := hide (B.out.trans (hb4.mono B.out.size))
          clear hb4
          go_wp2_with fail
          refine (siteL_any x _ (henv.keep B.out) (by omega)).mono ?_
          rintro e w4 ⟨rfl, hb4⟩
          replace B := hide (B.out.trans (hb4.mono B.out.size))
          clear hb4
          go_wp2_with fail
          refine (siteL_any (siteS x) _ (henv.keep B.out) (by omega)).mono ?_
          rintro e w4 ⟨rfl, hb4⟩
          rw [Fss.out]
          replace B := hide (B.out.trans (hb4.mono B.out.size))
          clear hb4
          go_wp2_with fail
          refine (siteL_any x _ (henv.keep B.out) (by omega)).mono ?_
          rintro e w4 ⟨rfl, hb4⟩
          replace B := hide (B.out.trans (hb4.mono B.out.size))
          clear hb4
          go_wp2_with fail
          refine (awake2_any _ (henv.keep B.out)).mono ?_
          rintro e w4 ⟨rfl, hb4⟩
          replace B := hide (B.out.trans (hb4.mono B.out.size))
          clear hb4
          go_wp2_with fail
          go_ret
          exact ⟨rfl, B.out⟩
        · have hn : ¬ (2 : Int) ≤ ((labelsS y).length : Int) := by omega
          clear h3 t3
          go_wp2_with fail
          refine (under_any x y _ (henv.keep B.out) (by omega) (by omega)).mono ?_
          rintro e w4 ⟨rfl, hb4⟩
          rw [Fxy.out]
          replace B := hide (B.out.trans (hb4.mono B.out.size))
          clear hb4
          go_wp2_with fail
          refine (under_any y z _ (henv.keep B.out) (by omega) (by omega)).mono ?_
          rintro e w4 ⟨rfl, hb4⟩
          rw [Fyz.out]
          replace B := hide (B.out.trans (hb4.mono B.out.size))
          clear hb4
          go_wp2_with fail
          refine (under_any x y _ (henv.keep B.out) (by omega) (by omega)).mono ?_
          rintro e w4 ⟨rfl, hb4⟩
          rw [Fxy.out]
          replace B := hide (B.out.trans (hb4.mono B.out.size))
          clear hb4
          go_wp2_with fail
          refine (under_any y x _ (henv.keep B.out) (by omega) (by omega)).mono ?_
          rintro e w4 ⟨rfl, hb4⟩
          rw [Fyx.out]
          replace B := hide (B.out.trans (hb4.mono B.out.size))
          clear hb4
          go_wp2_with fail
          refine (under_any x y _ (henv.keep B.out) (by omega) (by omega)).mono ?_
          rintro e w4 ⟨rfl, hb4⟩
          rw [Fxy.out]
          replace B := hide (B.out.trans (hb4.mono B.out.size))
          clear hb4
          go_wp2_with fail
          refine (labels_len y _ (henv.keep B.out) (by omega)).mono ?_
          rintro e w4 ⟨ao, cap, rfl, hb4⟩
          replace B := hide (B.out.trans (hb4.mono B.out.size))
          clear hb4
          go_wp2_with fail
          refine (under_any x x _ (henv.keep B.out) (by omega) (by omega)).mono ?_
          rintro e w4 ⟨rfl, hb4⟩
          rw [Fxx.out]
          replace B := hide (B.out.trans (hb4.mono B.out.size))
          clear hb4
          go_wp2_with fail
          refine (siteL_any x _ (henv.keep B.out) (by omega)).mono ?_
          rintro e w4 ⟨rfl, hb4⟩
          replace B := hide (B.out.trans (hb4.mono B.out.size))
          clear hb4
          go_wp2_with fail
          refine (under_any x (siteS x) _ (henv.keep B.out) (by omega) (by omega)).mono ?_
          rintro e w4 ⟨rfl, hb4⟩
          rw [Fxs.out]
          replace B := hide (B.out.trans (hb4.mono B.out.size))
          clear hb4
          go_wp2_with fail
          refine (siteL_any x _ (henv.keep B.out) (by omega)).mono ?_
          rintro e w4 ⟨rfl, hb4⟩
          replace B := hide (B.out.trans (hb4.mono B.out.size))
          clear hb4
          go_wp2_with fail
          refine (siteL_any (siteS x) _ (henv.keep B.out) (by omega)).mono ?_
          rintro e w4 ⟨rfl, hb4⟩
          rw [Fss.out]
          replace B := hide (B.out.trans (hb4.mono B.out.size))
          clear hb4
          go_wp2_with fail
          refine (siteL_any x _ (henv.keep B.out) (by omega)).mono ?_
          rintro e w4 ⟨rfl, hb4⟩
          replace B := hide (B.out.trans (hb4.mono B.out.size))
          clear hb4
          go_wp2_with fail
          refine (awake2_any _ (henv.keep B.out)).mono ?_
          rintro e w4 ⟨rfl, hb4⟩
          replace B := hide (B.out.trans (hb4.mono B.out.size))
          clear hb4
          go_wp2_with fail
          go_ret
          exact ⟨rfl, B.out⟩
end Go.Proofs.YtpoolbeaipbjmaaDoor
