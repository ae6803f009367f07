/- The walk over moatlaw5.CorsLess, by what package cors answers. -/
import Derived.Test.YthljekiomfcjiaaL16
import Derived.Deep.DeepCutAuto
namespace Go.Proofs.Ythljekiomfcjiaa
open Go.RowKit Go.Proofs.Url

theorem less_lets {e : Ep} {b : Int} (h : e.lets b true = true) : e.lets b false = true := by
  unfold Ep.lets letsS at *
  simp at *
  rcases h with h | ⟨h1, h2⟩
  · exact .inl (.inl h)
  · exact .inr h1
theorem less_may {e : Ep} {b : Int} {hd : Bool} (h : e.may b true hd = true) : e.may b false hd = true := by
  unfold Ep.may mayS at *
  have := @less_lets e b
  unfold Ep.lets at this
  cases ha : aheadS e.o e.m e.hs b hd
  · simp
  · rw [ha] at h
    simp at h ⊢
    exact ⟨⟨this h.1.1, h.1.2⟩, h.2⟩
theorem simple_less {m : List UInt8} {hs : List (List UInt8)} (h : simpleS m hs = true) : simpleS m [] = true := by
  unfold simpleS at *
  simp at *
  exact h.1
theorem less_heads {e : Ep} {b : Int} {c : Bool} (h : e.may b c true = true) : e.may b c false = true := by
  unfold Ep.may mayS aheadS at *
  cases hb : decide (b = e.o)
  · rw [hb] at h
    simp at h ⊢
    rcases h with h | h
    · exact .inl (simple_less h)
    · exact .inr h.1
  · simp
theorem own_lets (e : Ep) (c : Bool) : e.lets e.o c = true := by unfold Ep.lets letsS; simp
theorem own_ahead (e : Ep) (hd : Bool) : e.ahead e.o hd = false := by unfold Ep.ahead aheadS; simp
theorem own_may (e : Ep) (c hd : Bool) : e.may e.o c hd = true := by unfold Ep.may mayS aheadS; simp
theorem opaque_lets {e : Ep} (h : ¬ e.o = -3) (c : Bool) : e.lets (-3) c = (e.any && !c) := by unfold Ep.lets; exact lets_none (by omega) (.inr rfl)

set_option maxHeartbeats 2000000 in
set_option maxRecDepth 100000 in
theorem corsLess_walk (ok : CorsOk) (e : Ep) (b : Int) (w : World) (hq : EpAt w e) (hl2 : e.hs.length ≤ maxLen) (hl3 : e.al.length ≤ maxLen) (hl4 : e.ms.length ≤ maxLen) :
    Calls Try.prog 4 #[e.v, .int .i64 b] w fun r w' => r = .returned (.bool true) ∧ Below w.heap.size w w' := by
  have OK := hide ok
  have HQ := hide hq
  have C0 := hide (fun W (h : EpAt W e) => great_any e W h hl2 hl3 hl4)
  clear ok hq hl2 hl3 hl4
  have B0 : Hid (∀ o, Below w.heap.size w (w.alloc o)) := fun o => (Below.refl _ _).alloc (Nat.le_refl _) _
  have R0 := hide (range_new w e.cells 25)
  have IF : Hid ((Try.prog.info? 25).map (·.size) = some e.cells.length) := by unfold Hid; kernel_rfl
  cases hg : greatEp e with
  | true =>
    have HG := hide hg
    clear hg
    simp only [Ep.v]
    go_enter Try.func4, Try.ntmps4
    go_wp2_with (first | (refine wpList_load_mid rfl 25 _ rfl w.heap.size 0 rfl e.cells _ R0.out Try.underlying25 rfl IF.out ?_) | (refine wpList_load_want rfl 25 _ rfl w.heap.size 0 rfl e.cells _ R0.out Try.underlying25 rfl IF.out ?_))
    refine (C0.out _ (HQ.out.keep (B0.out _))).mono ?_
    rintro r w1 ⟨rfl, hb1⟩
    rw [HG.out]
    have B1 := hide ((B0.out _).trans (hb1.mono (B0.out _).size))
    clear hb1
    go_wp2_with fail
    refine (awake5_any OK.out _).mono ?_
    rintro r w2 ⟨rfl, hb2⟩
    have B2 := hide (B1.out.trans (hb2.mono B1.out.size))
    clear hb2
    go_wp2_with fail
    go_ret
    exact ⟨rfl, B2.out⟩
  | false =>
    have HG := hide hg
    have SM := hide (small_of hg)
    clear hg
    simp only [Ep.v]
    go_enter Try.func4, Try.ntmps4
    go_wp2_with (first | (refine wpList_load_mid rfl 25 _ rfl w.heap.size 0 rfl e.cells _ R0.out Try.underlying25 rfl IF.out ?_) | (refine wpList_load_want rfl 25 _ rfl w.heap.size 0 rfl e.cells _ R0.out Try.underlying25 rfl IF.out ?_))
    refine (C0.out _ (HQ.out.keep (B0.out _))).mono ?_
    rintro r w1 ⟨rfl, hb1⟩
    rw [HG.out]
    have B1 := hide ((B0.out _).trans (hb1.mono (B0.out _).size))
    have Q1 := hide ((HQ.out.keep (B0.out _)).keep hb1)
    have R1 := hide (range_keep R0.out hb1 (by simp))
    have hg1 : w.heap.size < w1.heap.size := by have := hb1.size; simp at this; omega
    clear hb1
    go_wp2_with fail
    go_loopw [5] (fun i W => ∃ k : Nat, k ≤ 2 ∧ i = .int .i64 k ∧ Hid (Below w1.heap.size w1 W)) (fun i _ => 2 - (intOf i).toNat)
    case atStart => exact ⟨0, by omega, rfl, Below.refl _ _⟩
    case round =>
      obtain ⟨k, hk, rfl, hB⟩ := hrel
      have BB := hB
      have QQ := hide (Q1.out.keep hB.out)
      have RR := hide (range_keep R1.out hB.out hg1)
      have hgg : w.heap.size < wr.heap.size := by have := hB.out.size; omega
      clear hB
      by_cases hlt : k < 2
      · have hlI : (k : Int) < 2 := by omega
        obtain ⟨hd, hhd⟩ : ∃ hd, ((k : Int) == 1) = hd := ⟨_, rfl⟩
        go_upto_region 7 with fail
        go_cut [50] (fun v W => v = .bool false ∧ Hid (Below w1.heap.size w1 W))
        case first =>
          cases h0 : e.lets b true with
          | true =>
            have H0 := hide h0
            have L0 := hide (less_lets h0)
            clear h0
            go_wp2_with (first | (refine wpList_load_mid rfl 25 _ rfl w.heap.size 0 rfl e.cells _ RR.out Try.underlying25 rfl IF.out ?_) | (refine wpList_load_want rfl 25 _ rfl w.heap.size 0 rfl e.cells _ RR.out Try.underlying25 rfl IF.out ?_))
            refine (OK.out.lets e b true _ QQ.out SM.out).mono ?_
            rintro r w11 ⟨rfl, hb⟩
            rw [H0.out]
            replace BB := hide (BB.out.trans (hb.mono BB.out.size))
            replace QQ := hide (QQ.out.keep hb)
            replace RR := hide (range_keep RR.out hb hgg)
            replace hgg : w.heap.size < w11.heap.size := by have := hb.size; omega
            clear hb
            go_wp2_with (first | (refine wpList_load_mid rfl 25 _ rfl w.heap.size 0 rfl e.cells _ RR.out Try.underlying25 rfl IF.out ?_) | (refine wpList_load_want rfl 25 _ rfl w.heap.size 0 rfl e.cells _ RR.out Try.underlying25 rfl IF.out ?_))
            refine (OK.out.lets e b false _ QQ.out SM.out).mono ?_
            rintro r w12 ⟨rfl, hb⟩
            rw [L0.out]
            replace BB := hide (BB.out.trans (hb.mono BB.out.size))
            replace QQ := hide (QQ.out.keep hb)
            replace RR := hide (range_keep RR.out hb hgg)
            replace hgg : w.heap.size < w12.heap.size := by have := hb.size; omega
            clear hb
            clear H0 L0
            cases h1 : e.may b true hd with
            | true =>
              have H1 := hide h1
              have L1 := hide (less_may h1)
              clear h1
              go_wp2_with (first | (refine wpList_load_mid rfl 25 _ rfl w.heap.size 0 rfl e.cells _ RR.out Try.underlying25 rfl IF.out ?_) | (refine wpList_load_want rfl 25 _ rfl w.heap.size 0 rfl e.cells _ RR.out Try.underlying25 rfl IF.out ?_))
              refine (OK.out.may e b true hd _ QQ.out SM.out).mono ?_
              rintro r w13 ⟨rfl, hb⟩
              rw [H1.out]
              replace BB := hide (BB.out.trans (hb.mono BB.out.size))
              replace QQ := hide (QQ.out.keep hb)
              replace RR := hide (range_keep RR.out hb hgg)
              replace hgg : w.heap.size < w13.heap.size := by have := hb.size; omega
              clear hb
              go_wp2_with (first | (refine wpList_load_mid rfl 25 _ rfl w.heap.size 0 rfl e.cells _ RR.out Try.underlying25 rfl IF.out ?_) | (refine wpList_load_want rfl 25 _ rfl w.heap.size 0 rfl e.cells _ RR.out Try.underlying25 rfl IF.out ?_))
              refine (OK.out.may e b false hd _ QQ.out SM.out).mono ?_
              rintro r w14 ⟨rfl, hb⟩
              rw [L1.out]
              replace BB := hide (BB.out.trans (hb.mono BB.out.size))
              replace QQ := hide (QQ.out.keep hb)
              replace RR := hide (range_keep RR.out hb hgg)
              replace hgg : w.heap.size < w14.heap.size := by have := hb.size; omega
              clear hb
              clear H1 L1
              cases h2 : e.may b hd true with
              | true =>
                have H2 := hide h2
                have L2 := hide (less_heads h2)
                clear h2
                go_wp2_with (first | (refine wpList_load_mid rfl 25 _ rfl w.heap.size 0 rfl e.cells _ RR.out Try.underlying25 rfl IF.out ?_) | (refine wpList_load_want rfl 25 _ rfl w.heap.size 0 rfl e.cells _ RR.out Try.underlying25 rfl IF.out ?_))
                refine (OK.out.may e b hd true _ QQ.out SM.out).mono ?_
                rintro r w15 ⟨rfl, hb⟩
                rw [H2.out]
                replace BB := hide (BB.out.trans (hb.mono BB.out.size))
                replace QQ := hide (QQ.out.keep hb)
                replace RR := hide (range_keep RR.out hb hgg)
                replace hgg : w.heap.size < w15.heap.size := by have := hb.size; omega
                clear hb
                go_wp2_with (first | (refine wpList_load_mid rfl 25 _ rfl w.heap.size 0 rfl e.cells _ RR.out Try.underlying25 rfl IF.out ?_) | (refine wpList_load_want rfl 25 _ rfl w.heap.size 0 rfl e.cells _ RR.out Try.underlying25 rfl IF.out ?_))
                refine (OK.out.may e b hd false _ QQ.out SM.out).mono ?_
                rintro r w16 ⟨rfl, hb⟩
                rw [L2.out]
                replace BB := hide (BB.out.trans (hb.mono BB.out.size))
                replace QQ := hide (QQ.out.keep hb)
                replace RR := hide (range_keep RR.out hb hgg)
                replace hgg : w.heap.size < w16.heap.size := by have := hb.size; omega
                clear hb
                clear H2 L2
                go_wp2_with fail
                go_meet
                case rel => exact ⟨rfl, BB⟩
              | false =>
                have H2 := hide h2
                clear h2
                go_wp2_with (first | (refine wpList_load_mid rfl 25 _ rfl w.heap.size 0 rfl e.cells _ RR.out Try.underlying25 rfl IF.out ?_) | (refine wpList_load_want rfl 25 _ rfl w.heap.size 0 rfl e.cells _ RR.out Try.underlying25 rfl IF.out ?_))
                refine (OK.out.may e b hd true _ QQ.out SM.out).mono ?_
                rintro r w17 ⟨rfl, hb⟩
                rw [H2.out]
                replace BB := hide (BB.out.trans (hb.mono BB.out.size))
                replace QQ := hide (QQ.out.keep hb)
                replace RR := hide (range_keep RR.out hb hgg)
                replace hgg : w.heap.size < w17.heap.size := by have := hb.size; omega
                clear hb
                clear H2
                go_wp2_with fail
                go_meet
                case rel => exact ⟨rfl, BB⟩
            | false =>
              have H1 := hide h1
              clear h1
              go_wp2_with (first | (refine wpList_load_mid rfl 25 _ rfl w.heap.size 0 rfl e.cells _ RR.out Try.underlying25 rfl IF.out ?_) | (refine wpList_load_want rfl 25 _ rfl w.heap.size 0 rfl e.cells _ RR.out Try.underlying25 rfl IF.out ?_))
              refine (OK.out.may e b true hd _ QQ.out SM.out).mono ?_
              rintro r w18 ⟨rfl, hb⟩
              rw [H1.out]
              replace BB := hide (BB.out.trans (hb.mono BB.out.size))
              replace QQ := hide (QQ.out.keep hb)
              replace RR := hide (range_keep RR.out hb hgg)
              replace hgg : w.heap.size < w18.heap.size := by have := hb.size; omega
              clear hb
              clear H1
              cases h2 : e.may b hd true with
              | true =>
                have H2 := hide h2
                have L2 := hide (less_heads h2)
                clear h2
                go_wp2_with (first | (refine wpList_load_mid rfl 25 _ rfl w.heap.size 0 rfl e.cells _ RR.out Try.underlying25 rfl IF.out ?_) | (refine wpList_load_want rfl 25 _ rfl w.heap.size 0 rfl e.cells _ RR.out Try.underlying25 rfl IF.out ?_))
                refine (OK.out.may e b hd true _ QQ.out SM.out).mono ?_
                rintro r w19 ⟨rfl, hb⟩
                rw [H2.out]
                replace BB := hide (BB.out.trans (hb.mono BB.out.size))
                replace QQ := hide (QQ.out.keep hb)
                replace RR := hide (range_keep RR.out hb hgg)
                replace hgg : w.heap.size < w19.heap.size := by have := hb.size; omega
                clear hb
                go_wp2_with (first | (refine wpList_load_mid rfl 25 _ rfl w.heap.size 0 rfl e.cells _ RR.out Try.underlying25 rfl IF.out ?_) | (refine wpList_load_want rfl 25 _ rfl w.heap.size 0 rfl e.cells _ RR.out Try.underlying25 rfl IF.out ?_))
                refine (OK.out.may e b hd false _ QQ.out SM.out).mono ?_
                rintro r w20 ⟨rfl, hb⟩
                rw [L2.out]
                replace BB := hide (BB.out.trans (hb.mono BB.out.size))
                replace QQ := hide (QQ.out.keep hb)
                replace RR := hide (range_keep RR.out hb hgg)
                replace hgg : w.heap.size < w20.heap.size := by have := hb.size; omega
                clear hb
                clear H2 L2
                go_wp2_with fail
                go_meet
                case rel => exact ⟨rfl, BB⟩
              | false =>
                have H2 := hide h2
                clear h2
                go_wp2_with (first | (refine wpList_load_mid rfl 25 _ rfl w.heap.size 0 rfl e.cells _ RR.out Try.underlying25 rfl IF.out ?_) | (refine wpList_load_want rfl 25 _ rfl w.heap.size 0 rfl e.cells _ RR.out Try.underlying25 rfl IF.out ?_))
                refine (OK.out.may e b hd true _ QQ.out SM.out).mono ?_
                rintro r w21 ⟨rfl, hb⟩
                rw [H2.out]
                replace BB := hide (BB.out.trans (hb.mono BB.out.size))
                replace QQ := hide (QQ.out.keep hb)
                replace RR := hide (range_keep RR.out hb hgg)
                replace hgg : w.heap.size < w21.heap.size := by have := hb.size; omega
                clear hb
                clear H2
                go_wp2_with fail
                go_meet
                case rel => exact ⟨rfl, BB⟩
          | false =>
            have H0 := hide h0
            clear h0
            go_wp2_with (first | (refine wpList_load_mid rfl 25 _ rfl w.heap.size 0 rfl e.cells _ RR.out Try.underlying25 rfl IF.out ?_) | (refine wpList_load_want rfl 25 _ rfl w.heap.size 0 rfl e.cells _ RR.out Try.underlying25 rfl IF.out ?_))
            refine (OK.out.lets e b true _ QQ.out SM.out).mono ?_
            rintro r w22 ⟨rfl, hb⟩
            rw [H0.out]
            replace BB := hide (BB.out.trans (hb.mono BB.out.size))
            replace QQ := hide (QQ.out.keep hb)
            replace RR := hide (range_keep RR.out hb hgg)
            replace hgg : w.heap.size < w22.heap.size := by have := hb.size; omega
            clear hb
            clear H0
            cases h1 : e.may b true hd with
            | true =>
              have H1 := hide h1
              have L1 := hide (less_may h1)
              clear h1
              go_wp2_with (first | (refine wpList_load_mid rfl 25 _ rfl w.heap.size 0 rfl e.cells _ RR.out Try.underlying25 rfl IF.out ?_) | (refine wpList_load_want rfl 25 _ rfl w.heap.size 0 rfl e.cells _ RR.out Try.underlying25 rfl IF.out ?_))
              refine (OK.out.may e b true hd _ QQ.out SM.out).mono ?_
              rintro r w23 ⟨rfl, hb⟩
              rw [H1.out]
              replace BB := hide (BB.out.trans (hb.mono BB.out.size))
              replace QQ := hide (QQ.out.keep hb)
              replace RR := hide (range_keep RR.out hb hgg)
              replace hgg : w.heap.size < w23.heap.size := by have := hb.size; omega
              clear hb
              go_wp2_with (first | (refine wpList_load_mid rfl 25 _ rfl w.heap.size 0 rfl e.cells _ RR.out Try.underlying25 rfl IF.out ?_) | (refine wpList_load_want rfl 25 _ rfl w.heap.size 0 rfl e.cells _ RR.out Try.underlying25 rfl IF.out ?_))
              refine (OK.out.may e b false hd _ QQ.out SM.out).mono ?_
              rintro r w24 ⟨rfl, hb⟩
              rw [L1.out]
              replace BB := hide (BB.out.trans (hb.mono BB.out.size))
              replace QQ := hide (QQ.out.keep hb)
              replace RR := hide (range_keep RR.out hb hgg)
              replace hgg : w.heap.size < w24.heap.size := by have := hb.size; omega
              clear hb
              clear H1 L1
              cases h2 : e.may b hd true with
              | true =>
                have H2 := hide h2
                have L2 := hide (less_heads h2)
                clear h2
                go_wp2_with (first | (refine wpList_load_mid rfl 25 _ rfl w.heap.size 0 rfl e.cells _ RR.out Try.underlying25 rfl IF.out ?_) | (refine wpList_load_want rfl 25 _ rfl w.heap.size 0 rfl e.cells _ RR.out Try.underlying25 rfl IF.out ?_))
                refine (OK.out.may e b hd true _ QQ.out SM.out).mono ?_
                rintro r w25 ⟨rfl, hb⟩
                rw [H2.out]
                replace BB := hide (BB.out.trans (hb.mono BB.out.size))
                replace QQ := hide (QQ.out.keep hb)
                replace RR := hide (range_keep RR.out hb hgg)
                replace hgg : w.heap.size < w25.heap.size := by have := hb.size; omega
                clear hb
                go_wp2_with (first | (refine wpList_load_mid rfl 25 _ rfl w.heap.size 0 rfl e.cells _ RR.out Try.underlying25 rfl IF.out ?_) | (refine wpList_load_want rfl 25 _ rfl w.heap.size 0 rfl e.cells _ RR.out Try.underlying25 rfl IF.out ?_))
                refine (OK.out.may e b hd false _ QQ.out SM.out).mono ?_
                rintro r w26 ⟨rfl, hb⟩
                rw [L2.out]
                replace BB := hide (BB.out.trans (hb.mono BB.out.size))
                replace QQ := hide (QQ.out.keep hb)
                replace RR := hide (range_keep RR.out hb hgg)
                replace hgg : w.heap.size < w26.heap.size := by have := hb.size; omega
                clear hb
                clear H2 L2
                go_wp2_with fail
                go_meet
                case rel => exact ⟨rfl, BB⟩
              | false =>
                have H2 := hide h2
                clear h2
                go_wp2_with (first | (refine wpList_load_mid rfl 25 _ rfl w.heap.size 0 rfl e.cells _ RR.out Try.underlying25 rfl IF.out ?_) | (refine wpList_load_want rfl 25 _ rfl w.heap.size 0 rfl e.cells _ RR.out Try.underlying25 rfl IF.out ?_))
                refine (OK.out.may e b hd true _ QQ.out SM.out).mono ?_
                rintro r w27 ⟨rfl, hb⟩
                rw [H2.out]
                replace BB := hide (BB.out.trans (hb.mono BB.out.size))
                replace QQ := hide (QQ.out.keep hb)
                replace RR := hide (range_keep RR.out hb hgg)
                replace hgg : w.heap.size < w27.heap.size := by have := hb.size; omega
                clear hb
                clear H2
                go_wp2_with fail
                go_meet
                case rel => exact ⟨rfl, BB⟩
            | false =>
              have H1 := hide h1
              clear h1
              go_wp2_with (first | (refine wpList_load_mid rfl 25 _ rfl w.heap.size 0 rfl e.cells _ RR.out Try.underlying25 rfl IF.out ?_) | (refine wpList_load_want rfl 25 _ rfl w.heap.size 0 rfl e.cells _ RR.out Try.underlying25 rfl IF.out ?_))
              refine (OK.out.may e b true hd _ QQ.out SM.out).mono ?_
              rintro r w28 ⟨rfl, hb⟩
              rw [H1.out]
              replace BB := hide (BB.out.trans (hb.mono BB.out.size))
              replace QQ := hide (QQ.out.keep hb)
              replace RR := hide (range_keep RR.out hb hgg)
              replace hgg : w.heap.size < w28.heap.size := by have := hb.size; omega
              clear hb
              clear H1
              cases h2 : e.may b hd true with
              | true =>
                have H2 := hide h2
                have L2 := hide (less_heads h2)
                clear h2
                go_wp2_with (first | (refine wpList_load_mid rfl 25 _ rfl w.heap.size 0 rfl e.cells _ RR.out Try.underlying25 rfl IF.out ?_) | (refine wpList_load_want rfl 25 _ rfl w.heap.size 0 rfl e.cells _ RR.out Try.underlying25 rfl IF.out ?_))
                refine (OK.out.may e b hd true _ QQ.out SM.out).mono ?_
                rintro r w29 ⟨rfl, hb⟩
                rw [H2.out]
                replace BB := hide (BB.out.trans (hb.mono BB.out.size))
                replace QQ := hide (QQ.out.keep hb)
                replace RR := hide (range_keep RR.out hb hgg)
                replace hgg : w.heap.size < w29.heap.size := by have := hb.size; omega
                clear hb
                go_wp2_with (first | (refine wpList_load_mid rfl 25 _ rfl w.heap.size 0 rfl e.cells _ RR.out Try.underlying25 rfl IF.out ?_) | (refine wpList_load_want rfl 25 _ rfl w.heap.size 0 rfl e.cells _ RR.out Try.underlying25 rfl IF.out ?_))
                refine (OK.out.may e b hd false _ QQ.out SM.out).mono ?_
                rintro r w30 ⟨rfl, hb⟩
                rw [L2.out]
                replace BB := hide (BB.out.trans (hb.mono BB.out.size))
                replace QQ := hide (QQ.out.keep hb)
                replace RR := hide (range_keep RR.out hb hgg)
                replace hgg : w.heap.size < w30.heap.size := by have := hb.size; omega
                clear hb
                clear H2 L2
                go_wp2_with fail
                go_meet
                case rel => exact ⟨rfl, BB⟩
              | false =>
                have H2 := hide h2
                clear h2
                go_wp2_with (first | (refine wpList_load_mid rfl 25 _ rfl w.heap.size 0 rfl e.cells _ RR.out Try.underlying25 rfl IF.out ?_) | (refine wpList_load_want rfl 25 _ rfl w.heap.size 0 rfl e.cells _ RR.out Try.underlying25 rfl IF.out ?_))
                refine (OK.out.may e b hd true _ QQ.out SM.out).mono ?_
                rintro r w31 ⟨rfl, hb⟩
                rw [H2.out]
                replace BB := hide (BB.out.trans (hb.mono BB.out.size))
                replace QQ := hide (QQ.out.keep hb)
                replace RR := hide (range_keep RR.out hb hgg)
                replace hgg : w.heap.size < w31.heap.size := by have := hb.size; omega
                clear hb
                clear H2
                go_wp2_with fail
                go_meet
                case rel => exact ⟨rfl, BB⟩
        case rest =>
          obtain ⟨rfl, hB⟩ := hcut
          replace BB := hB
          replace QQ := hide (Q1.out.keep hB.out)
          replace RR := hide (range_keep R1.out hB.out hg1)
          replace hgg : w.heap.size < wc.heap.size := by have := hB.out.size; omega
          clear hB
          have c1 := range_cell RR.out 1 _ rfl
          go_wp2_with (first | (refine wpList_load_mid rfl 25 _ rfl w.heap.size 0 rfl e.cells _ RR.out Try.underlying25 rfl IF.out ?_) | (refine wpList_load_want rfl 25 _ rfl w.heap.size 0 rfl e.cells _ RR.out Try.underlying25 rfl IF.out ?_))
          refine (OK.out.may e e.o true hd _ QQ.out SM.out).mono ?_
          rintro r w32 ⟨rfl, hb⟩
          rw [own_may]
          replace BB := hide (BB.out.trans (hb.mono BB.out.size))
          replace QQ := hide (QQ.out.keep hb)
          replace RR := hide (range_keep RR.out hb hgg)
          replace hgg : w.heap.size < w32.heap.size := by have := hb.size; omega
          clear hb
          clear c1
          have c1 := range_cell RR.out 1 _ rfl
          go_wp2_with (first | (refine wpList_load_mid rfl 25 _ rfl w.heap.size 0 rfl e.cells _ RR.out Try.underlying25 rfl IF.out ?_) | (refine wpList_load_want rfl 25 _ rfl w.heap.size 0 rfl e.cells _ RR.out Try.underlying25 rfl IF.out ?_))
          refine (OK.out.ahead e e.o true hd _ QQ.out SM.out).mono ?_
          rintro r w33 ⟨rfl, hb⟩
          rw [own_ahead]
          replace BB := hide (BB.out.trans (hb.mono BB.out.size))
          replace QQ := hide (QQ.out.keep hb)
          replace RR := hide (range_keep RR.out hb hgg)
          replace hgg : w.heap.size < w33.heap.size := by have := hb.size; omega
          clear hb
          clear c1
          have c1 := range_cell RR.out 1 _ rfl
          go_wp2_with (first | (refine wpList_load_mid rfl 25 _ rfl w.heap.size 0 rfl e.cells _ RR.out Try.underlying25 rfl IF.out ?_) | (refine wpList_load_want rfl 25 _ rfl w.heap.size 0 rfl e.cells _ RR.out Try.underlying25 rfl IF.out ?_))
          refine (OK.out.lets e e.o hd _ QQ.out SM.out).mono ?_
          rintro r w34 ⟨rfl, hb⟩
          rw [own_lets]
          replace BB := hide (BB.out.trans (hb.mono BB.out.size))
          replace QQ := hide (QQ.out.keep hb)
          replace RR := hide (range_keep RR.out hb hgg)
          replace hgg : w.heap.size < w34.heap.size := by have := hb.size; omega
          clear hb
          clear c1
          go_wp2_with fail
          exact ⟨⟨k + 1, by omega, by go_num, BB⟩, by simp [intOf]; omega⟩
      · have hlI : ¬ (k : Int) < 2 := by omega
        have QR := fun d os => QQ.out.keep (below_regrown wr d os)
        have a3 := hide (fun d os => Calls.regrown_of (awake5_any OK.out (Sort.grow (redrawn wr d) os)))
        have RC : Hid (∀ W, (∃ p : Regrown, W = Sort.grow (redrawn wr p.d) p.os) → W.rangeAt w.heap.size 0 e.cells) := by
          rintro W ⟨p, rfl⟩
          exact range_keep RR.out (below_regrown wr p.d p.os) hgg
        have k1 := cell_regrown (range_cell RR.out 1 _ rfl)
        have k15 := cell_regrown (range_cell RR.out 15 _ rfl)
        have e0 : (e.any == e.any) = true := by simp
        obtain ⟨lt, hlt1⟩ : ∃ lt : Bool → Bool, ∀ c, e.lets (-3) c = lt c := ⟨_, fun _ => rfl⟩
        have al := fun c d os => Calls.regrown_of (OK.out.lets e (-3) c (Sort.grow (redrawn wr d) os) (QR d os) SM.out)
        simp only [hlt1] at al
        have AL := hide al
        clear al QR
        by_cases ho : e.o = -3
        · have hoe : (e.o == -3) = true := beq_iff_eq.2 ho
          clear ho
          go_wp2_with fail
          refine wp_region_quiet_below (by kernel_rfl) (by kernel_rfl) ?_
          repeat (go_big_quiet_step (first | (go_at_call 9; exact AL.out _ _ _) | (go_at_call 8; exact a3.out _ _)))
          refine wpQuiet_nil ?_
          rintro _ ⟨pq, rfl⟩
          have hb5 := below_regrown wr pq.d pq.os
          generalize Sort.grow (redrawn wr pq.d) pq.os = w5 at *
          have B5 := hide (B1.out.trans ((BB.out.trans (hb5.mono BB.out.size)).mono B1.out.size))
          clear hb5 a3 RC AL k1 k15
          go_wp2_with fail
          go_ret
          exact ⟨rfl, B5.out⟩
        · have hoe : (e.o == -3) = false := beq_eq_false_iff_ne.2 ho
          have O1 : lt false = e.any := by rw [← hlt1, opaque_lets ho]; simp
          have O2 : lt true = false := by rw [← hlt1, opaque_lets ho]; simp
          clear ho hlt1
          go_wp2_with fail
          refine wp_region_quiet_below (by kernel_rfl) (by kernel_rfl) ?_
          iterate 4 (go_big_quiet_step (first | (go_at_call 9; exact AL.out _ _ _) | (go_at_call 8; exact a3.out _ _)))
          (refine wpQuiet_load rfl 25 _ rfl w.heap.size 0 rfl e.cells _ RC.out Try.underlying25 rfl IF.out ?_; simp only [Act.put, List.setIfInBounds_toArray, List.set_cons_succ, List.set_cons_zero])
          iterate 5 (go_big_quiet_step (first | (go_at_call 9; exact AL.out _ _ _) | (go_at_call 8; exact a3.out _ _)))
          (refine wpQuiet_load rfl 25 _ rfl w.heap.size 0 rfl e.cells _ RC.out Try.underlying25 rfl IF.out ?_; simp only [Act.put, List.setIfInBounds_toArray, List.set_cons_succ, List.set_cons_zero])
          iterate 8 (go_big_quiet_step (first | (go_at_call 9; exact AL.out _ _ _) | (go_at_call 8; exact a3.out _ _)))
          refine wpQuiet_nil ?_
          rintro _ ⟨pq, rfl⟩
          have hb5 := below_regrown wr pq.d pq.os
          generalize Sort.grow (redrawn wr pq.d) pq.os = w5 at *
          have B5 := hide (B1.out.trans ((BB.out.trans (hb5.mono BB.out.size)).mono B1.out.size))
          clear hb5 a3 RC AL k1 k15
          go_wp2_with fail
          go_ret
          exact ⟨rfl, B5.out⟩
end Go.Proofs.Ythljekiomfcjiaa
