/- The walk over moatlaw4.SafeMore. -/
import Derived.Test.YtkfdipobpdhboaaL13
import Derived.Test.YtkfdipobpdhboaaStep
namespace Go.Proofs.Ytkfdipobpdhboaa
open Go.RowKit Go.Proofs.Url

theorem back_step (hs : List (List UInt8)) (i : Nat) (h : i < hs.length) : backS (hs.drop i) = backS (hs.drop (i + 1)) ++ [hs[i], hs[i]] := by
  unfold backS
  rw [List.drop_eq_getElem_cons h, List.reverse_cons, List.flatMap_append]
  simp
theorem back_len (hs : List (List UInt8)) : (backS hs).length = 2 * hs.length := by
  induction hs with
  | nil => rfl
  | cons x r ih =>
    unfold backS at *
    rw [List.reverse_cons, List.flatMap_append, List.length_append, ih]
    simp; omega

theorem texts_round2 {B : Nat} {w3 : World} {qs : List (List UInt8)} {x y : List UInt8} {v' : Value}
    (hown : w3.ownsRow B 9 1 v' (qs.length + 2) (qs.map (fun q => Value.string ⟨q.toArray⟩) ++ [.string ⟨x.toArray⟩, .string ⟨y.toArray⟩])) :
    ∃ (ao : Option Addr) (cv : Nat), v' = .slice ao (qs ++ [x, y]).length cv ∧ Hid (w3.ownsRow B 9 1 (.slice ao (qs ++ [x, y]).length cv) (qs ++ [x, y]).length ((qs ++ [x, y]).map (fun q => Value.string ⟨q.toArray⟩))) := by
  have hq : (qs ++ [x, y]).length = qs.length + 2 := by simp
  obtain ⟨g, cap, hv⟩ : ∃ g cap, v' = .slice (some ⟨g, 0, none⟩) (qs.length + 2) cap := by
    rcases hown.2 with ⟨_, h⟩ | ⟨g, cap, _, h, _⟩
    · omega
    · exact ⟨g, cap, h⟩
  subst hv
  refine ⟨some ⟨g, 0, none⟩, cap, by rw [hq], ?_⟩
  unfold Hid; rw [hq, List.map_append]; exact hown
/-- A row as append leaves it: where it lies. -/
theorem row_form {w : World} {B n : Nat} {v : Value} {qs : List (List UInt8)} {xs : List Value} (h : w.ownsRow B 9 1 v n xs) (hn : n = qs.length) (hx : xs = qs.map (fun q => Value.string ⟨q.toArray⟩)) : ∃ bo cb, v = .slice bo qs.length cb ∧ HeadsAt w bo qs := by
  subst hn; subst hx
  rcases h.2 with ⟨hv, h0⟩ | ⟨g, cp, cur, hv, hg, hh, hn, hm, hsz, htk⟩
  · exact ⟨none, 0, by rw [hv, h0], fun k hk => by omega⟩
  · rw [hv] at h
    exact ⟨_, _, hv, heads_own h⟩

set_option maxHeartbeats 4000000 in
set_option maxRecDepth 100000 in
theorem safeMore_walk (m : List UInt8) (ao : Option Addr) (hs : List (List UInt8)) (cap : Nat) (more : List UInt8) (w : World) (hq : HeadsAt w ao hs) (hl : hs.length ≤ maxLen) :
    Calls Try.prog 4 #[.string ⟨m.toArray⟩, .slice ao hs.length cap, .string ⟨more.toArray⟩] w fun e w' => e = .returned (.bool true) ∧ Below w.heap.size w w' := by
  obtain ⟨i0, hi, hz0, hz1, hz2⟩ := info_parts infoS
  have HQ := hide hq
  have HL := hide hl
  clear hq hl
  by_cases h60 : 60 < (m.length : Int)
  · go_enter Try.func4, Try.ntmps4
    go_wp2_with fail
    refine (awake4_any _).mono ?_
    rintro e w1 ⟨rfl, hb1⟩
    go_wp2_with fail
    go_ret
    exact ⟨rfl, hb1⟩
  by_cases h61 : 60 < (more.length : Int)
  · go_enter Try.func4, Try.ntmps4
    go_wp2_with fail
    refine (awake4_any _).mono ?_
    rintro e w1 ⟨rfl, hb1⟩
    go_wp2_with fail
    go_ret
    exact ⟨rfl, hb1⟩
  cases hg : greatS hs 8 60 with
  | true =>
    have HG := hide hg
    clear hg
    go_enter Try.func4, Try.ntmps4
    go_wp2_with fail
    refine (greatTexts_any ao hs cap 8 60 _ HQ.out HL.out).mono ?_
    rintro e w1 ⟨rfl, hb1⟩
    rw [HG.out]
    have B1 := hide hb1
    clear hb1
    go_wp2_with fail
    refine (awake4_any _).mono ?_
    rintro e w2 ⟨rfl, hb2⟩
    have B2 := hide (B1.out.trans (hb2.mono B1.out.size))
    clear hb2
    go_wp2_with fail
    go_ret
    exact ⟨rfl, B2.out⟩
  | false =>
    have HG := hide hg
    obtain ⟨g1, g2⟩ := great_no hg
    have HZ : Hid (∀ h ∈ hs, h.length < 4294967281) := fun h hh => by have := g2 h hh; omega
    have hl8 : hs.length ≤ 8 := by omega
    clear hg g1 g2
    go_enter Try.func4, Try.ntmps4
    go_wp2_with fail
    refine (greatTexts_any ao hs cap 8 60 _ HQ.out HL.out).mono ?_
    rintro e w1 ⟨rfl, hb1⟩
    rw [HG.out]
    have B1 := hide hb1
    have Q1 := hide (HQ.out.keep hb1)
    clear hb1 HQ
    go_wp2_with fail
    go_loopw [7, 8] (fun bv iv W => ∃ (k : Nat) (qs : List (List UInt8)) (bo : Option Addr) (cv : Nat), k ≤ hs.length ∧ iv = .int .i64 ((k : Int) - 1) ∧ bv = .slice bo qs.length cv ∧ qs.length ≤ 16 ∧ Hid (qs = backS (hs.drop k)) ∧ Hid (W.ownsRow w1.heap.size 9 1 (.slice bo qs.length cv) qs.length (qs.map (fun q => Value.string ⟨q.toArray⟩))) ∧ Hid (Below w1.heap.size w1 W)) (fun _ iv _ => (intOf iv + 1).toNat)
    case atStart => exact ⟨hs.length, [], none, 0, Nat.le_refl _, by go_num, rfl, by simp, by unfold Hid; rw [List.drop_eq_nil_of_le (Nat.le_refl _)]; rfl, World.ownsRow_nil _ _ _ _, Below.refl _ _⟩
    case round =>
      obtain ⟨k, qs, bo, cv, hk, rfl, rfl, hql, HQs, hown, hB⟩ := hrel
      cases k with
      | zero =>
        rw [show ((0 : Nat) : Int) - 1 = -1 from rfl]
        have HQe : Hid (qs = backS hs) := by have := HQs.out; rw [List.drop_zero] at this; exact this
        have HZb : Hid (∀ h ∈ qs, h.length < 4294967281) := by
          intro x hx
          rw [HQe.out] at hx
          obtain ⟨y, hy, hxy⟩ := List.mem_flatMap.1 hx
          have : x = y := by simpa using hxy
          subst this
          exact HZ.out x (List.mem_reverse.1 hy)
        have HZm : Hid (∀ h ∈ hs ++ [more], h.length < 4294967281) := by
          intro x hx
          rw [List.mem_append, List.mem_singleton] at hx
          rcases hx with hx | rfl
          · exact HZ.out x hx
          · omega
        have HS3 : Hid (simpleS m qs = simpleS m hs) := by unfold Hid; rw [HQe.out]; exact simple_back m hs
        have HS2 : Hid (simpleS m (hs ++ [more]) = (simpleS m hs && headS more)) := simple_snoc m hs more
        have C1 := hide (fun W ao' cap' h => simple_any m ao' hs cap' W h (by omega) HZ.out)
        have C2 := hide (fun W ao' cap' h => simple_any m ao' (hs ++ [more]) cap' W h (by rw [List.length_append, List.length_singleton]; omega) HZm.out)
        have C3 := hide (fun W ao' cap' h => simple_any m ao' qs cap' W h (by omega) HZb.out)
        rw [HS2.out] at C2
        rw [HS3.out] at C3
        have C4 := hide (fun W => head_any more W (by omega))
        generalize simpleS m hs = sa at *
        generalize headS more = hm at *
        have BF := hide (B1.out.trans (hB.out.mono B1.out.size))
        have QF := hide (Q1.out.keep hB.out)
        have KF := hide (heads_own hown.out)
        clear HS2 HS3 HZ HZb HZm HQe HQs Q1 hown hB B1
        cases ao with
        | none =>
          have h0 : hs = [] := by
            cases hs with
            | nil => rfl
            | cons x r => obtain ⟨b, off, h, _⟩ := QF.out 0 (by simp); cases h
          subst h0
          rw [List.length_nil]
          go_wp2_with fail
          refine (C1.out _ _ _ QF.out).mono ?_
          rintro e w2 ⟨rfl, hb2⟩
          have B2 := hide (BF.out.trans (hb2.mono BF.out.size))
          have K2 := hide (KF.out.keep hb2)
          clear hb2
          go_wp2_with (at_builtin; refine wpList_append_own _ rfl _ _ 22 rfl w.heap.size 9 i0 (.string ByteArray.empty) 1 16 Try.underlying22 hi hz0 hz1 hz2 rfl (by decide) (.slice none 0 0) 0 [] rfl (World.ownsRow_nil _ _ _ _) ⟨w2.heap.size, 0, none⟩ 1 1 [.string ⟨more.toArray⟩] rfl rfl (cell_one_new _ _ _) (fun x hx => by simp at hx; subst hx; rfl) (by decide) (by decide) (by have := B2.out.size; simp; omega) ?_; intro v4 w4 hown4 hgrow4 hnil4)
          obtain ⟨bo4, cb4, hv4, H4⟩ := row_form (qs := [] ++ [more]) hown4 rfl rfl
          have B4 : Below w2.heap.size w2 w4 := Below.trans ((Below.refl _ _).alloc (Nat.le_refl _) _) (Below.grown (Below.refl _ _) hgrow4 (by simp) (fun j hj => by cases hj))
          have D4 := hide (B2.out.trans (B4.mono B2.out.size))
          have K4 := hide (K2.out.keep B4)
          have HH4 := hide H4
          subst hv4
          clear hown4 hgrow4 hnil4 H4 B4
          refine (C2.out _ _ _ HH4.out).mono ?_
          rintro e w10 ⟨rfl, hb10⟩
          have BZ := hide (D4.out.trans (hb10.mono D4.out.size))
          have KZ := hide (K4.out.keep hb10)
          clear hb10
          cases sa with
          | true =>
            have e0 : (true && hm) = hm := by simp
            rw [e0]
            cases hm with
            | true =>
              go_wp2_with fail
              refine (C4.out _).mono ?_
              rintro e w11 ⟨rfl, hb11⟩
              have B11 := hide (BZ.out.trans (hb11.mono BZ.out.size))
              have K11 := hide (KZ.out.keep hb11)
              clear hb11
              go_wp2_with fail
              refine (C3.out _ _ _ K11.out).mono ?_
              rintro e w12 ⟨rfl, hb12⟩
              have B12 := hide (B11.out.trans (hb12.mono B11.out.size))
              clear hb12
              go_wp2_with fail
              refine (awake4_any _).mono ?_
              rintro e w13 ⟨rfl, hb13⟩
              have B13 := hide (B12.out.trans (hb13.mono B12.out.size))
              clear hb13
              go_wp2_with fail
              go_ret
              exact ⟨rfl, B13.out⟩
            | false =>
              go_wp2_with fail
              refine (C4.out _).mono ?_
              rintro e w11 ⟨rfl, hb11⟩
              have B11 := hide (BZ.out.trans (hb11.mono BZ.out.size))
              have K11 := hide (KZ.out.keep hb11)
              clear hb11
              go_wp2_with fail
              refine (C3.out _ _ _ K11.out).mono ?_
              rintro e w12 ⟨rfl, hb12⟩
              have B12 := hide (B11.out.trans (hb12.mono B11.out.size))
              clear hb12
              go_wp2_with fail
              refine (awake4_any _).mono ?_
              rintro e w13 ⟨rfl, hb13⟩
              have B13 := hide (B12.out.trans (hb13.mono B12.out.size))
              clear hb13
              go_wp2_with fail
              go_ret
              exact ⟨rfl, B13.out⟩
          | false =>
            have e0 : (false && hm) = false := by simp
            rw [e0]
            go_wp2_with fail
            refine (C3.out _ _ _ KZ.out).mono ?_
            rintro e w12 ⟨rfl, hb12⟩
            have B12 := hide (BZ.out.trans (hb12.mono BZ.out.size))
            clear hb12
            go_wp2_with fail
            refine (awake4_any _).mono ?_
            rintro e w13 ⟨rfl, hb13⟩
            have B13 := hide (B12.out.trans (hb13.mono B12.out.size))
            clear hb13
            go_wp2_with fail
            go_ret
            exact ⟨rfl, B13.out⟩
        | some ad =>
          have HNw : Hid (∀ W, HeadsAt W (some ad) hs → ∀ j u, (hs.map (fun q => Value.string ⟨q.toArray⟩))[j]? = some u → W.cell? (ad.add j) = some u) := by
            intro W hW j u hu
            have hj : j < hs.length := by have := (List.getElem?_eq_some_iff.1 hu).1; simpa using this
            obtain ⟨b, off, h, hc⟩ := hW j hj
            cases h
            rw [show (⟨b, off, none⟩ : Addr).add j = ⟨b, off + j, none⟩ by unfold Addr.add; split <;> simp_all, hc]
            simpa [hj] using hu
          have HOn : Hid (∀ u ∈ hs.map (fun q => Value.string ⟨q.toArray⟩), u.oneCell' = true) := fun u hu => by
            obtain ⟨q, _, rfl⟩ := List.mem_map.1 hu; rfl
          go_wp2_with (at_builtin; refine wpList_append_own _ rfl _ _ 22 rfl w.heap.size 9 i0 (.string ByteArray.empty) 1 16 Try.underlying22 hi hz0 hz1 hz2 rfl (by decide) (.slice none 0 0) 0 [] rfl (World.ownsRow_nil _ _ _ _) ad hs.length cap (hs.map (fun q => Value.string ⟨q.toArray⟩)) rfl (by simp) (HNw.out _ QF.out) HOn.out (by unfold maxLen; omega) (by omega) BF.out.size ?_; intro v3 w3 hown3 hgrow3 hnil3)
          obtain ⟨bo3, cb3, hv3, H3⟩ := row_form (qs := hs) hown3 (by omega) rfl
          have B3 : Below wr.heap.size wr w3 := Below.grown (Below.refl _ _) hgrow3 (Nat.le_refl _) (fun j hj => by cases hj)
          have D3 := hide (BF.out.trans (B3.mono BF.out.size))
          have Q3 := hide (QF.out.keep B3)
          have K3 := hide (KF.out.keep B3)
          have HH3 := hide H3
          subst hv3
          clear hown3 hgrow3 hnil3 H3 B3
          refine (C1.out _ _ _ HH3.out).mono ?_
          rintro e w2 ⟨rfl, hb2⟩
          have B2 := hide (D3.out.trans (hb2.mono D3.out.size))
          have Q2 := hide (Q3.out.keep hb2)
          have K2 := hide (K3.out.keep hb2)
          clear hb2 HH3
          go_wp2_with (first
            | (at_builtin; refine wpList_append_own _ rfl _ _ 22 rfl w2.heap.size 9 i0 (.string ByteArray.empty) 1 16 Try.underlying22 hi hz0 hz1 hz2 rfl (by decide) _ _ _ rfl (hown4.alloc _) ⟨w4.heap.size, 0, none⟩ 1 1 [.string ⟨more.toArray⟩] rfl rfl (cell_one_new _ _ _) (fun x hx => by simp at hx; subst hx; rfl) (by unfold maxLen; omega) (by omega) (by have := B4.size; simp; omega) ?_; intro v5 w5 hown5 hgrow5 hnil5)
            | (at_builtin; refine wpList_append_own _ rfl _ _ 22 rfl w2.heap.size 9 i0 (.string ByteArray.empty) 1 16 Try.underlying22 hi hz0 hz1 hz2 rfl (by decide) (.slice none 0 0) 0 [] rfl (World.ownsRow_nil _ _ _ _) ad hs.length cap (hs.map (fun q => Value.string ⟨q.toArray⟩)) rfl (by simp) (HNw.out _ Q2.out) HOn.out (by unfold maxLen; omega) (by omega) (Nat.le_refl _) ?_; intro v4 w4 hown4 hgrow4 hnil4; have B4 : Below w2.heap.size w2 w4 := Below.grown (Below.refl _ _) hgrow4 (Nat.le_refl _) (fun j hj => by cases hj)))
          have hbs : ∀ j, v4.ownBlock = some j → w2.heap.size ≤ j := fun j hj => owns_base hown4 j hj
          have hz4 := B4.size
          have B5 : Below w2.heap.size w2 w5 := Below.trans (B4.alloc hz4 _) (Below.grown (Below.refl _ _) hgrow5 (by simp; omega) hbs)
          obtain ⟨bo5, cb5, hv5, H5⟩ := row_form (qs := hs ++ [more]) hown5 (by simp) (by simp)
          have D5 := hide (B2.out.trans (B5.mono B2.out.size))
          have K5 := hide (K2.out.keep B5)
          have HH5 := hide H5
          subst hv5
          clear hown4 hgrow4 hnil4 hown5 hgrow5 hnil5 H5 B5 B4 hbs
          refine (C2.out _ _ _ HH5.out).mono ?_
          rintro e w10 ⟨rfl, hb10⟩
          have BZ := hide (D5.out.trans (hb10.mono D5.out.size))
          have KZ := hide (K5.out.keep hb10)
          clear hb10
          cases sa with
          | true =>
            have e0 : (true && hm) = hm := by simp
            rw [e0]
            cases hm with
            | true =>
              go_wp2_with fail
              refine (C4.out _).mono ?_
              rintro e w11 ⟨rfl, hb11⟩
              have B11 := hide (BZ.out.trans (hb11.mono BZ.out.size))
              have K11 := hide (KZ.out.keep hb11)
              clear hb11
              go_wp2_with fail
              refine (C3.out _ _ _ K11.out).mono ?_
              rintro e w12 ⟨rfl, hb12⟩
              have B12 := hide (B11.out.trans (hb12.mono B11.out.size))
              clear hb12
              go_wp2_with fail
              refine (awake4_any _).mono ?_
              rintro e w13 ⟨rfl, hb13⟩
              have B13 := hide (B12.out.trans (hb13.mono B12.out.size))
              clear hb13
              go_wp2_with fail
              go_ret
              exact ⟨rfl, B13.out⟩
            | false =>
              go_wp2_with fail
              refine (C4.out _).mono ?_
              rintro e w11 ⟨rfl, hb11⟩
              have B11 := hide (BZ.out.trans (hb11.mono BZ.out.size))
              have K11 := hide (KZ.out.keep hb11)
              clear hb11
              go_wp2_with fail
              refine (C3.out _ _ _ K11.out).mono ?_
              rintro e w12 ⟨rfl, hb12⟩
              have B12 := hide (B11.out.trans (hb12.mono B11.out.size))
              clear hb12
              go_wp2_with fail
              refine (awake4_any _).mono ?_
              rintro e w13 ⟨rfl, hb13⟩
              have B13 := hide (B12.out.trans (hb13.mono B12.out.size))
              clear hb13
              go_wp2_with fail
              go_ret
              exact ⟨rfl, B13.out⟩
          | false =>
            have e0 : (false && hm) = false := by simp
            rw [e0]
            go_wp2_with fail
            refine (C3.out _ _ _ KZ.out).mono ?_
            rintro e w12 ⟨rfl, hb12⟩
            have B12 := hide (BZ.out.trans (hb12.mono BZ.out.size))
            clear hb12
            go_wp2_with fail
            refine (awake4_any _).mono ?_
            rintro e w13 ⟨rfl, hb13⟩
            have B13 := hide (B12.out.trans (hb13.mono B12.out.size))
            clear hb13
            go_wp2_with fail
            go_ret
            exact ⟨rfl, B13.out⟩
      | succ i =>
        rw [show ((i + 1 : Nat) : Int) - 1 = (i : Int) by omega]
        have hlt : i < hs.length := by omega
        obtain ⟨b, off, rfl, hc⟩ := Q1.out.keep hB.out i hlt
        have hlI : (i : Int) < (hs.length : Int) := by omega
        have HB' : Hid (qs ++ [hs[i], hs[i]] = backS (hs.drop i)) := by unfold Hid; rw [back_step hs i hlt, ← HQs.out]
        have hbl := back_len (hs.drop i)
        rw [← HB'.out, List.length_append, List.length_drop] at hbl
        simp only [List.length_cons, List.length_nil] at hbl
        have hq16 : qs.length + 2 ≤ 16 := by omega
        have HBs : Hid (∀ j, (Value.slice bo qs.length cv).ownBlock = some j → w1.heap.size ≤ j) := fun j hj => owns_base hown.out j hj
        have hown1 := hown.out
        have hsz := hB.out.size
        clear hbl HQs
        generalize hs[i] = hx at *
        have f1 : Hid (∀ o, (wr.alloc o).drew.ownsRow w1.heap.size 9 1 (.slice bo qs.length cv) qs.length (qs.map (fun q => Value.string ⟨q.toArray⟩))) := fun o => owns_drew (hown1.alloc o)
        have f2 : Hid (∀ u ∈ [Value.string ⟨hx.toArray⟩, Value.string ⟨hx.toArray⟩], u.oneCell' = true) := fun x hx => by simp at hx; subst hx; rfl
        have f3 : Hid (qs.length + 2 ≤ maxLen) := by unfold Hid maxLen; omega
        have f4 : Hid ((qs.length + 2) * 16 ≤ 140737488355328) := by unfold Hid; omega
        have f5 : Hid (∀ o, w1.heap.size ≤ ((wr.alloc o).drew).heap.size) := fun o => by show w1.heap.size ≤ (wr.alloc o).heap.size; simp; omega
        go_wp2_with fail
        go_region_law (refine step_append_own rfl (.tmp 31) (.tmp 40) 22 rfl w1.heap.size 9 i0 _ 1 16 Try.underlying22 hi hz0 hz1 hz2 rfl (by decide) (.slice bo qs.length cv) qs.length (qs.map (fun q => Value.string ⟨q.toArray⟩)) (by simp [Act.eval]) (f1.out _) ⟨wr.heap.size, 0, none⟩ 2 2 [.string ⟨hx.toArray⟩, .string ⟨hx.toArray⟩] (by simp [Act.eval]) rfl (cell_two_drew _ _ _ _) f2.out f3.out f4.out (f5.out _) ?_; intro v' w6 hown' hgrow6)
        all_goals go_wp2_with fail
        all_goals (
          have B6 : Below w1.heap.size wr w6 := Below.trans (((Below.refl _ _).alloc (by omega) _).drew) (Below.grown (Below.refl _ _) hgrow6 (f5.out _) HBs.out)
          obtain ⟨ao2, cv2, hv2, hown3⟩ := texts_round2 hown'
          have hq1 : (qs ++ [hx, hx]).length ≤ 16 := by rw [List.length_append]; exact hq16
          exact ⟨⟨i, qs ++ [hx, hx], ao2, cv2, by omega, by go_num, hv2, hq1, HB', hown3, hB.out.trans B6⟩, by simp [intOf]⟩)
theorem safeMore_string (s : ByteArray) (ao : Option Addr) (hs : List (List UInt8)) (cap : Nat) (r : ByteArray) (w : World) (hq : HeadsAt w ao hs) (hl : hs.length ≤ maxLen) :
    Calls Try.prog 4 #[.string s, .slice ao hs.length cap, .string r] w fun e w' => e = .returned (.bool true) ∧ Below w.heap.size w w' := by
  have h := safeMore_walk s.data.toList ao hs cap r.data.toList w hq hl
  rw [mk_data, mk_data] at h; exact h
end Go.Proofs.Ytkfdipobpdhboaa
