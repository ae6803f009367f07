/- The walk over moatlaw1.UrlHosts: it answers true, whatever it is handed. -/
import Derived.Test.YtkomggockjeibaaDoorW6
import Derived.Test.YtkomggockjeibaaDoorPlain6
import Derived.Deep.DeepCutAuto
namespace Go.Proofs.YtkomggockjeibaaDoor
open Go.RowKit Go.Proofs.Url

/-- A slice of integers that came in, as far as a walk reads it: each element lies in a cell of old memory. -/
def RowH (w : World) (a : Option Addr) (len : Nat) (z : Nat → Int) : Prop :=
  ∀ k, k < len → ∃ b off, a = some ⟨b, off, none⟩ ∧ b < w.heap.size ∧ w.cell? ⟨b, off + k, none⟩ = some (.int .i64 (z k))

theorem dataEq {a b : ByteArray} (h : a.data.toList = b.data.toList) : a = b := by
  cases a; cases b; simp only at h; rw [Array.toList_inj] at h; rw [h]
theorem piece (r : Nat) (hr : r < 11) : ∃ c : UInt8, (⟨#[97, 98, 99, 120, 121, 122, 48, 49, 56, 57, 45]⟩ : ByteArray).extract r (r + 1) = ⟨#[c]⟩ ∧ midB c = true := by
  have : r = 0 ∨ r = 1 ∨ r = 2 ∨ r = 3 ∨ r = 4 ∨ r = 5 ∨ r = 6 ∨ r = 7 ∨ r = 8 ∨ r = 9 ∨ r = 10 := by omega
  rcases this with rfl | rfl | rfl | rfl | rfl | rfl | rfl | rfl | rfl | rfl | rfl
  · exact ⟨97, by decide +kernel, by decide⟩
  · exact ⟨98, by decide +kernel, by decide⟩
  · exact ⟨99, by decide +kernel, by decide⟩
  · exact ⟨120, by decide +kernel, by decide⟩
  · exact ⟨121, by decide +kernel, by decide⟩
  · exact ⟨122, by decide +kernel, by decide⟩
  · exact ⟨48, by decide +kernel, by decide⟩
  · exact ⟨49, by decide +kernel, by decide⟩
  · exact ⟨56, by decide +kernel, by decide⟩
  · exact ⟨57, by decide +kernel, by decide⟩
  · exact ⟨45, by decide +kernel, by decide⟩

set_option maxHeartbeats 2000000 in
set_option maxRecDepth 100000 in
theorem urlHosts_walk (a0 : Option Addr) (len0 cap0 : Nat) (z : Nat → Int) (at_ how : Int) (w : World) (henv : Env w) (hrow : RowH w a0 len0 z) (hlen : len0 ≤ maxLen) :
    Calls Tryd.prog 6 #[.slice a0 len0 cap0, .int .i64 at_, .int .i64 how] w fun e w' => e = .returned (.bool true) ∧ Below w.heap.size w w' := by
  unfold maxLen at hlen
  by_cases h1 : (len0 : Int) < 1
  · clear hrow
    go_enter Tryd.func6, Tryd.ntmps6
    go_wp2_with fail
    refine (awake_any _ henv).mono ?_
    rintro e w1 ⟨rfl, hb1⟩
    go_wp2_with fail
    go_ret
    exact ⟨rfl, hb1⟩
  by_cases h6 : 6 < (len0 : Int)
  · clear hrow
    go_enter Tryd.func6, Tryd.ntmps6
    go_wp2_with fail
    refine (awake_any _ henv).mono ?_
    rintro e w1 ⟨rfl, hb1⟩
    go_wp2_with fail
    go_ret
    exact ⟨rfl, hb1⟩
  have LA := hide (fun W => low_any at_ len0 W (by omega) (by omega))
  have a0' := low_nn at_ len0 (by omega)
  have a1' := low_lt at_ len0 (by omega)
  generalize low at_ len0 = A0 at *
  obtain ⟨A, rfl⟩ := Int.eq_ofNat_of_zero_le a0'
  have LH := hide (fun W => low_any how 6 W (by omega) (by omega))
  have b0' := low_nn how 6 (by omega)
  have b1' := low_lt how 6 (by omega)
  generalize low how 6 = H0 at *
  obtain ⟨H, rfl⟩ := Int.eq_ofNat_of_zero_le b0'
  have HRow := hide hrow
  clear hrow
  go_enter Tryd.func6, Tryd.ntmps6
  go_wp2_with fail
  go_loop [7, 8] (fun s i => ∃ (k : Nat) (l : List UInt8), k ≤ len0 ∧ i = .int .i64 k ∧ s = .string ⟨l.toArray⟩ ∧ l.length ≤ 10 * k ∧ Hid (HostInv A H k l)) (fun _ i => len0 - (intOf i).toNat)
  case atStart => exact ⟨0, [], Nat.zero_le _, rfl, rfl, by simp, ⟨by simp, by simp, fun _ => rfl, fun h => by omega⟩⟩
  case round =>
    obtain ⟨k, l, hk, rfl, rfl, hll, hinv⟩ := hrel
    by_cases hlt : k < len0
    · obtain ⟨b, off, rfl, hbw, hcell⟩ := HRow.out k hlt
      go_wp2_with fail
      refine (low_any _ _ _ (by omega) (by omega)).mono ?_
      rintro e w1 ⟨rfl, rfl⟩
      have c0 := low_nn (z k) 65536 (by omega)
      have c6 := low_lt (z k) 65536 (by omega)
      generalize low (z k) 65536 = r at *
      obtain ⟨N, rfl⟩ := Int.eq_ofNat_of_zero_le c0
      clear hcell HRow
      go_wp2_with fail
      go_loop [10, 11] (fun lb j => ∃ (q : Nat) (m : List UInt8), q ≤ 5 ∧ (q : Int) ≤ (N : Int) % 6 ∧ j = .int .i64 q ∧ lb = .string ⟨(113 :: m).toArray⟩ ∧ m.length ≤ q ∧ Hid (m.all midB = true)) (fun _ j => 6 - (intOf j).toNat)
      case atStart => exact ⟨0, [], by omega, by omega, rfl, rfl, by simp, rfl⟩
      case round =>
        obtain ⟨q, m, hq5, hqN, rfl, rfl, hml, hmm⟩ := hrel
        by_cases hq : (q : Int) < (N : Int) % 6
        · go_wp2_with fail
          refine ⟨?_, by simp [intOf]; omega⟩
          obtain ⟨c, hc, hcm⟩ := piece ((N / 7 + q * 3) % 11) (Nat.mod_lt _ (by omega))
          refine ⟨q + 1, m ++ [c], by omega, by omega, by go_num, ?_, by simp; omega, ?_⟩
          · rw [hc]; rfl
          · unfold Hid; rw [List.all_append, hmm.out]; simp [hcm]
        · have hml5 : m.length ≤ 5 := by omega
          have hq' : ¬ (q : Int) < (N : Int) % 6 := hq
          clear hqN hq hq5 c0 c6
          go_upto_if 64 with (go_at_call 21; refine (LA.out _).mono ?_; rintro e w2 ⟨rfl, rfl⟩)
          go_cut [10] (fun v wx => ∃ lb : List UInt8, v = .string ⟨lb.toArray⟩ ∧ lb.length ≤ 9 ∧ Hid (lb.all plainB = true) ∧ Hid (label lb = decide (H = 0 ∨ ¬ k = A)) ∧ wx = w2)
          case first =>
            by_cases hkA : k = A
            · have hb : ((k : Int) == (A : Int)) = true := beq_iff_eq.2 (by omega)
              have HL : Hid (label (turn H m) = decide (H = 0 ∨ ¬ k = A)) := by
                unfold Hid; rw [turn_label H hmm.out hml5]; exact decide_eq_decide.2 (by omega)
              have HPl : Hid ((turn H m).all plainB = true) := turn_plain H hmm.out
              have HLn := turn_len H m hml5
              clear hkA
              have hH : H = 0 ∨ H = 1 ∨ H = 2 ∨ H = 3 ∨ H = 4 ∨ H = 5 := by omega
              rcases hH with rfl | rfl | rfl | rfl | rfl | rfl
              all_goals go_wp2_with (go_at_call 21; refine (LH.out _).mono ?_; rintro e w3 ⟨rfl, rfl⟩)
              all_goals go_meet
              all_goals (case rel => exact ⟨turn _ m, congrArg Value.string (dataEq (by simp [turn, lbl])), HLn, HPl, HL, rfl⟩)
            · have hb : ((k : Int) == (A : Int)) = false := beq_eq_false_iff_ne.2 (by omega)
              have HL : Hid (label (turn 0 m) = decide (H = 0 ∨ ¬ k = A)) := by
                unfold Hid; rw [turn_label 0 hmm.out hml5]; exact decide_eq_decide.2 (by omega)
              have HPl : Hid ((turn 0 m).all plainB = true) := turn_plain 0 hmm.out
              have HLn := turn_len 0 m hml5
              clear hkA
              go_wp2_with fail
              go_meet
              case rel => exact ⟨turn 0 m, congrArg Value.string (dataEq (by simp [turn, lbl])), HLn, HPl, HL, rfl⟩
          case rest =>
            obtain ⟨lb, rfl, hlb, hpl, hlab, rfl⟩ := hcut
            by_cases hk0 : k = 0
            · have HI : Hid (HostInv A H (k + 1) (l ++ lb)) := by
                unfold Hid; rw [hinv.out.2.2.1 hk0, List.nil_append]; subst hk0; exact host_first hpl.out hlb hlab.out
              have hk1 : ¬ 0 < (k : Int) := by omega
              clear hk0 hinv
              go_wp2_with fail
              go_round
              case rel => exact ⟨k + 1, l ++ lb, by omega, by go_num, congrArg Value.string (dataEq (by simp)), by simp; omega, HI⟩
              case measure => simp [intOf]; omega
            · have HI : Hid (HostInv A H (k + 1) (l ++ 46 :: lb)) := host_next hinv.out (by omega) hpl.out hlb hlab.out
              have hk1 : 0 < (k : Int) := by omega
              clear hk0 hinv
              go_wp2_with fail
              go_round
              case rel => exact ⟨k + 1, l ++ 46 :: lb, by omega, by go_num, congrArg Value.string (dataEq (by simp)), by simp; omega, HI⟩
              case measure => simp [intOf]; omega
    · clear HRow
      have hkl : k = len0 := by omega
      obtain ⟨hh, hr⟩ := host_done hinv.out (by omega) (by omega) (by omega : A < k)
      have eS : ((⟨#[104, 116, 116, 112, 58, 47, 47]⟩ : ByteArray) ++ ⟨l.toArray⟩) = ⟨(http ++ slashes ++ l).toArray⟩ := dataEq (by simp [http, slashes])
      have R0 := fun W (h : Env W) => read_any ⟨(http ++ slashes ++ l).toArray⟩ W h (by rw [size_mk]; simp [http, slashes]; omega)
      have R1 : ∀ W, Env W → Calls Tryd.prog 9 #[.string ((⟨#[104, 116, 116, 112, 58, 47, 47]⟩ : ByteArray) ++ ⟨l.toArray⟩)] W fun e w' => e = .returned (.tuple #[originV (readS (http ++ slashes ++ l)), .bool (readS (http ++ slashes ++ l)).isSome]) ∧ Below W.heap.size W w' := by
        intro W h; rw [eS]; exact R0 W h
      have RH := fun W (h : Env W) => hostL_any l W h (by omega)
      rw [hr] at R1
      rw [hh] at RH
      clear eS R0 hh hr hkl hinv
      by_cases hH0 : H = 0
      · rw [if_pos hH0] at R1
        rw [decide_eq_true hH0] at RH
        have hb : ((H : Int) == 0) = true := beq_iff_eq.2 (by omega)
        have R1' := hide R1
        have RH' := hide RH
        clear R1 RH hH0
        go_wp2_with fail
        refine (LH.out _).mono ?_
        rintro e w1 ⟨rfl, rfl⟩
        go_wp2_with fail
        refine (R1'.out _ henv).mono ?_
        rintro e w2 ⟨rfl, hb2⟩
        have E2 := hide (henv.keep hb2)
        have B2 := hide hb2
        have s2 := hb2.size
        clear hb2
        simp only [originV, Option.isSome]
        go_wp2_with fail
        refine (RH'.out _ (E2.out.alloc _)).mono ?_
        rintro e w3 ⟨rfl, hb3⟩
        obtain ⟨hc3, hf3⟩ := bcell hb3
        have E3 := hide ((E2.out.alloc _).keep hb3)
        have B3 : Hid (Below w1.heap.size w1 w3) := (B2.out.alloc s2 _).trans (hb3.mono (by simp; omega))
        have hz3 : w2.heap.size < w3.heap.size := by have := hb3.size; simp at this; omega
        clear hb3
        go_wp2_with fail
        refine (awake_any _ E3.out).mono ?_
        rintro e w4 ⟨rfl, hb4⟩
        have B4 : Hid (Below w1.heap.size w1 w4) := B3.out.trans (hb4.mono B3.out.size)
        clear hb4
        go_wp2_with fail
        go_ret
        exact ⟨rfl, B4.out⟩
      · rw [if_neg hH0] at R1
        rw [decide_eq_false hH0] at RH
        have hb : ((H : Int) == 0) = false := beq_eq_false_iff_ne.2 (by omega)
        have R1' := hide R1
        have RH' := hide RH
        clear R1 RH hH0
        go_wp2_with fail
        refine (LH.out _).mono ?_
        rintro e w1 ⟨rfl, rfl⟩
        go_wp2_with fail
        refine (R1'.out _ henv).mono ?_
        rintro e w2 ⟨rfl, hb2⟩
        have E2 := hide (henv.keep hb2)
        have B2 := hide hb2
        have s2 := hb2.size
        clear hb2
        simp only [originV, Option.isSome]
        go_wp2_with fail
        refine (RH'.out _ (E2.out.alloc _)).mono ?_
        rintro e w3 ⟨rfl, hb3⟩
        have E3 := hide ((E2.out.alloc _).keep hb3)
        have B3 : Hid (Below w1.heap.size w1 w3) := (B2.out.alloc s2 _).trans (hb3.mono (by simp; omega))
        clear hb3
        go_wp2_with fail
        refine (awake_any _ E3.out).mono ?_
        rintro e w4 ⟨rfl, hb4⟩
        have B4 : Hid (Below w1.heap.size w1 w4) := B3.out.trans (hb4.mono B3.out.size)
        clear hb4
        go_wp2_with fail
        go_ret
        exact ⟨rfl, B4.out⟩
end Go.Proofs.YtkomggockjeibaaDoor
