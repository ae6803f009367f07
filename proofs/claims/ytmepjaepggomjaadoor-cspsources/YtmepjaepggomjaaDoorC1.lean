/- What package csp answers, as contracts; moatlaw0.SameTexts over rows that begin anywhere; moatlaw6.own, moatlaw6.awake. -/
import Derived.Test.YtmepjaepggomjaaDoorG3
import Derived.Test.YtmepjaepggomjaaDoorH1
import Derived.Deep.RegionHeld3
namespace Go.Proofs.YtmepjaepggomjaaDoor
open Go.RowKit Go.Proofs.Url

/-- What the walks over the landed package csp must give. -/
structure CspOk : Prop where
  matches_ : ∀ (l ss sh os oh : List UInt8) (n1 n2 : ByteArray) (sp op : Int) (w : World), Env w → l.length < 4294967281 → os.length < 4294967281 → oh.length < 4294967281 →
    Calls Tryd.prog 7 #[.string ⟨l.toArray⟩, .agg #[.string n1, .string ⟨ss.toArray⟩, .string ⟨sh.toArray⟩, .int .i64 sp], .agg #[.string n2, .string ⟨os.toArray⟩, .string ⟨oh.toArray⟩, .int .i64 op]] w fun r w' => r = .returned (.bool (matchS l ss sh sp os oh op)) ∧ Below w.heap.size w w'
  lets : ∀ (l ss sh os oh : List UInt8) (n1 n2 : ByteArray) (sp op : Int) (w : World), Env w → l.length < 4294967281 → os.length < 4294967281 → oh.length < 4294967281 →
    Calls Tryd.prog 9 #[.string ⟨l.toArray⟩, .agg #[.string n1, .string ⟨ss.toArray⟩, .string ⟨sh.toArray⟩, .int .i64 sp], .agg #[.string n2, .string ⟨os.toArray⟩, .string ⟨oh.toArray⟩, .int .i64 op]] w fun r w' => r = .returned (.bool (letsP l ss sh sp os oh op)) ∧ Below w.heap.size w w'
  inline : ∀ (l : List UInt8) (w : World), Env w → l.length < 4294967281 → Calls Tryd.prog 10 #[.string ⟨l.toArray⟩] w fun r w' => r = .returned (.bool (inlineP l)) ∧ Below w.heap.size w w'
  sources : ∀ (l : List UInt8) (w : World), Env w → l.length < 4294967281 → Calls Tryd.prog 11 #[.string ⟨l.toArray⟩] w fun r w' => ∃ (ao : Option Addr) (cap : Nat) (ps : List (List UInt8)), r = .returned (.tuple #[.slice ao ps.length cap, .bool (sourcesS l).isSome]) ∧ ps = (sourcesS l).getD [] ∧ HeadsAt w' ao ps ∧ Below w.heap.size w w'

set_option maxHeartbeats 400000 in
theorem sameHeads_any (ao bo : Option Addr) (ps qs : List (List UInt8)) (ca cb : Nat) (w : World) (ha : HeadsAt w ao ps) (hb : HeadsAt w bo qs) (hl : ps.length < 4294967281) (hl' : qs.length < 4294967281) :
    Calls Tryd.prog 12 #[.slice ao ps.length ca, .slice bo qs.length cb] w fun e w' => e = .returned (.bool (decide (ps = qs))) ∧ Below w.heap.size w w' := by
  by_cases h0 : ps.length = qs.length
  · have hb0 : ((ps.length : Int) == (qs.length : Int)) = true := beq_iff_eq.2 (by omega)
    have H0 := hide h0
    have HA := hide ha
    have HB := hide hb
    clear h0 ha hb
    go_enter Tryd.func12, Tryd.ntmps12
    go_wp2_with fail
    go_loopw [5] (fun i W => ∃ k : Nat, k ≤ ps.length ∧ i = .int .i64 k ∧ Hid (ps.take k = qs.take k) ∧ Hid (Below w.heap.size w W)) (fun i _ => ps.length - (intOf i).toNat)
    case atStart => exact ⟨0, Nat.zero_le _, rfl, rfl, Below.refl _ _⟩
    case round =>
      obtain ⟨k, hk, rfl, hall, hB⟩ := hrel
      by_cases hlt : k < ps.length
      · have hlt' : k < qs.length := by rw [← H0.out]; exact hlt
        obtain ⟨g, o1, rfl, hc⟩ := HA.out.keep hB.out k hlt
        obtain ⟨g', o2, rfl, hc'⟩ := HB.out.keep hB.out k hlt'
        have hlI : (k : Int) < (ps.length : Int) := by omega
        have hlI' : (k : Int) < (qs.length : Int) := by omega
        by_cases he : ps[k] = qs[k]
        · have HT : Hid (ps.take (k + 1) = qs.take (k + 1)) := take_eq_of hall.out hlt hlt' he
          have hb1 : (ps[k] == qs[k]) = true := by rw [he]; simp
          clear he hall
          go_wp2_with fail
          go_quiet (fail)
          go_wp2_with fail
          refine ⟨⟨k + 1, by omega, by go_num, HT, _root_.Go.below_drewN hB.out _⟩, by simp [intOf]; omega⟩
        · have HN : Hid (decide (ps = qs) = false) := decide_eq_false (fun e => he (by subst e; rfl))
          have hb1 : (ps[k] == qs[k]) = false := beq_eq_false_iff_ne.2 he
          clear he hall
          go_wp2_with fail
          go_quiet (fail)
          go_wp2_with fail
          go_ret
          exact ⟨ret_bool HN.out.symm, _root_.Go.below_drewN hB.out _⟩
      · have HY : Hid (decide (ps = qs) = true) := decide_eq_true (by
          have := hall.out
          rwa [List.take_of_length_le (by omega), List.take_of_length_le (by rw [← H0.out]; omega)] at this)
        clear hall
        go_wp2_with fail
        go_ret
        exact ⟨ret_bool HY.out.symm, hB.out⟩
  · have hb0 : ((ps.length : Int) == (qs.length : Int)) = false := beq_eq_false_iff_ne.2 (by omega)
    have HN : Hid (decide (ps = qs) = false) := decide_eq_false (fun e => h0 (by rw [e]))
    clear h0
    go_enter Tryd.func12, Tryd.ntmps12
    go_wp2_with fail
    go_ret
    exact ⟨ret_bool HN.out.symm, Below.refl _ _⟩

theorem sameHeads_self (ao bo : Option Addr) (ps : List (List UInt8)) (ca cb : Nat) (w : World) (ha : HeadsAt w ao ps) (hb : HeadsAt w bo ps) (hl : ps.length < 4294967281) :
    Calls Tryd.prog 12 #[.slice ao ps.length ca, .slice bo ps.length cb] w fun e w' => e = .returned (.bool true) ∧ Below w.heap.size w w' := by
  have h := sameHeads_any ao bo ps ps ca cb w ha hb hl hl
  rwa [decide_eq_true (rfl : ps = ps)] at h
theorem own6_any (w : World) : Calls Tryd.prog 8 #[] w fun e w' => e = .returned (.agg #[.string ⟨#[]⟩, .string ⟨#[104, 116, 116, 112, 115]⟩, .string ⟨#[97, 46, 116, 101, 115, 116]⟩, .int .i64 443]) ∧ Below w.heap.size w w' := by
  go_enter Tryd.func8, Tryd.ntmps8
  go_wp2_with fail
  refine bodyPost_ret (v := .agg #[.string ⟨#[]⟩, .string ⟨#[104, 116, 116, 112, 115]⟩, .string ⟨#[97, 46, 116, 101, 115, 116]⟩, .int .i64 443]) ?_ rfl ⟨rfl, (Below.refl _ _).alloc (Nat.le_refl _) _⟩
  simp [results, Tryd.results8, go_sem]

theorem keepc {W W' : World} {a : Addr} {v : Value} (hb : Below W.heap.size W W') (h : W.cell? a = some v) : W'.cell? a = some v := by
  rw [hb.cell (World.block_lt_of_cell? W _ h)]; exact h
/-- An origin in a block, and all that was there is as it was. -/
theorem held_call {a W W' : World} {g : Nat} {v0 v1 v2 v3 : Value} (h : Hid (Below a.heap.size a W) ∧ W.cell? ⟨g, 0, none⟩ = some v0 ∧ W.cell? ⟨g, 1, none⟩ = some v1 ∧ W.cell? ⟨g, 2, none⟩ = some v2 ∧ W.cell? ⟨g, 3, none⟩ = some v3) (hb : Below W.heap.size W W') :
    Hid (Below a.heap.size a W') ∧ W'.cell? ⟨g, 0, none⟩ = some v0 ∧ W'.cell? ⟨g, 1, none⟩ = some v1 ∧ W'.cell? ⟨g, 2, none⟩ = some v2 ∧ W'.cell? ⟨g, 3, none⟩ = some v3 :=
  ⟨h.1.out.trans (hb.mono h.1.out.size), keepc hb h.2.1, keepc hb h.2.2.1, keepc hb h.2.2.2.1, keepc hb h.2.2.2.2⟩
theorem held_end {b a W : World} {P : Prop} (hn : Below b.heap.size b a) (h : Hid (Below a.heap.size a W) ∧ P) : Below b.heap.size b W := hn.trans (h.1.out.mono hn.size)
theorem below_new (W : World) (o : Obj) : Below W.heap.size W (W.alloc o) := (Below.refl _ _).alloc (Nat.le_refl _) _
theorem below_drew (W : World) : Below W.heap.size W W.drew := (Below.refl _ _).drew
theorem heads2 (w : World) (a b : List UInt8) (t : TypeId) : HeadsAt (w.alloc (.cells #[.string ⟨a.toArray⟩, .string ⟨b.toArray⟩] t)) (some ⟨w.heap.size, 0, none⟩) [a, b] := heads_new w [a, b] t

def pol0 : List UInt8 := [100, 101, 102, 97, 117, 108, 116, 45, 115, 114, 99, 32, 42, 59, 32, 115, 99, 114, 105, 112, 116, 45, 115, 114, 99, 32, 39, 115, 101, 108, 102, 39, 32, 98, 46, 116, 101, 115, 116]
theorem pol0_src : sourcesS pol0 = some [selfW, [98, 46, 116, 101, 115, 116]] := by decide +kernel
theorem k6s (ok : CspOk) (w : World) (henv : Env w) : Calls Tryd.prog 11 #[.string ⟨#[100, 101, 102, 97, 117, 108, 116, 45, 115, 114, 99, 32, 42, 59, 32, 115, 99, 114, 105, 112, 116, 45, 115, 114, 99, 32, 39, 115, 101, 108, 102, 39, 32, 98, 46, 116, 101, 115, 116]⟩] w fun r w' => ∃ (ao : Option Addr) (cap : Nat), r = .returned (.tuple #[.slice ao 2 cap, .bool true]) ∧ HeadsAt w' ao [selfW, [98, 46, 116, 101, 115, 116]] ∧ Below w.heap.size w w' := by
  refine (ok.sources pol0 w henv (by decide)).mono ?_
  rw [pol0_src]
  rintro r w' ⟨ao, cap, ps, rfl, rfl, hH, hB⟩
  exact ⟨ao, cap, rfl, hH, hB⟩
theorem a6m1 : matchS [42, 46, 97, 46, 116, 101, 115, 116] [104, 116, 116, 112, 115] [97, 46, 116, 101, 115, 116] 443 [104, 116, 116, 112, 115] [98, 46, 97, 46, 116, 101, 115, 116] 443 = true := by decide +kernel
theorem a6m2 : matchS [39, 115, 101, 108, 102, 39] [104, 116, 116, 112, 115] [97, 46, 116, 101, 115, 116] 443 [104, 116, 116, 112, 115] [98, 46, 97, 46, 116, 101, 115, 116] 443 = false := by decide +kernel
theorem a6l1 : letsP [] [104, 116, 116, 112, 115] [97, 46, 116, 101, 115, 116] 443 [104, 116, 116, 112, 115] [98, 46, 97, 46, 116, 101, 115, 116] 443 = true := by decide +kernel
theorem a6l2 : letsP [115, 99, 114, 105, 112, 116, 45, 115, 114, 99, 32, 39, 110, 111, 110, 101, 39] [104, 116, 116, 112, 115] [97, 46, 116, 101, 115, 116] 443 [104, 116, 116, 112, 115] [98, 46, 97, 46, 116, 101, 115, 116] 443 = false := by decide +kernel
theorem a6i1 : inlineP [115, 99, 114, 105, 112, 116, 45, 115, 114, 99, 32, 39, 115, 101, 108, 102, 39] = false := by decide +kernel

set_option maxHeartbeats 2000000 in
set_option maxRecDepth 100000 in
theorem awake6_any (ok : CspOk) (w : World) (henv : Env w) :
    Calls Tryd.prog 5 #[] w fun r w' => r = .returned (.bool true) ∧ Below w.heap.size w w' := by
  have OK := hide ok
  have HE := hide henv
  clear ok henv
  go_enter Tryd.func5, Tryd.ntmps5
  go_wp2_with fail
  have hbn := below_new w (Obj.cells #[.string ⟨#[]⟩, .string ⟨#[104, 116, 116, 112, 115]⟩, .string ⟨#[98, 46, 97, 46, 116, 101, 115, 116]⟩, .int .i64 443] 27)
  have c0 : (w.alloc (Obj.cells #[.string ⟨#[]⟩, .string ⟨#[104, 116, 116, 112, 115]⟩, .string ⟨#[98, 46, 97, 46, 116, 101, 115, 116]⟩, .int .i64 443] 27)).cell? ⟨w.heap.size, 0, none⟩ = some (.string ⟨#[]⟩) := by simp
  have c1 : (w.alloc (Obj.cells #[.string ⟨#[]⟩, .string ⟨#[104, 116, 116, 112, 115]⟩, .string ⟨#[98, 46, 97, 46, 116, 101, 115, 116]⟩, .int .i64 443] 27)).cell? ⟨w.heap.size, 1, none⟩ = some (.string ⟨#[104, 116, 116, 112, 115]⟩) := by simp
  have c2 : (w.alloc (Obj.cells #[.string ⟨#[]⟩, .string ⟨#[104, 116, 116, 112, 115]⟩, .string ⟨#[98, 46, 97, 46, 116, 101, 115, 116]⟩, .int .i64 443] 27)).cell? ⟨w.heap.size, 2, none⟩ = some (.string ⟨#[98, 46, 97, 46, 116, 101, 115, 116]⟩) := by simp
  have c3 : (w.alloc (Obj.cells #[.string ⟨#[]⟩, .string ⟨#[104, 116, 116, 112, 115]⟩, .string ⟨#[98, 46, 97, 46, 116, 101, 115, 116]⟩, .int .i64 443] 27)).cell? ⟨w.heap.size, 3, none⟩ = some (.int .i64 443) := by simp
  refine (k6s OK.out _ (HE.out.keep hbn)).mono ?_
  rintro r w1 ⟨ao, cap, rfl, hH, hb1⟩
  have HH := hide hH
  replace c0 := keepc hb1 c0
  replace c1 := keepc hb1 c1
  replace c2 := keepc hb1 c2
  replace c3 := keepc hb1 c3
  have B1 := hide (hbn.trans (hb1.mono hbn.size))
  have E1 := hide (HE.out.keep B1.out)
  clear hH hb1 hbn HE
  go_wp2_with fail
  have C1 := hide (fun W (h : HeadsAt W ao [selfW, [98, 46, 116, 101, 115, 116]]) => sameHeads_self ao (some ⟨W.heap.size, 0, none⟩) [selfW, [98, 46, 116, 101, 115, 116]] cap 2 (W.alloc (.cells #[.string ⟨#[39, 115, 101, 108, 102, 39]⟩, .string ⟨#[98, 46, 116, 101, 115, 116]⟩] 9)) (h.keep (below_new _ _)) (heads2 _ _ _ _) (by decide))
  have CM := hide (fun l W (h : Hid (Below w1.heap.size w1 W) ∧ W.cell? ⟨w.heap.size, 0, none⟩ = some (.string ⟨#[]⟩) ∧ W.cell? ⟨w.heap.size, 1, none⟩ = some (.string ⟨#[104, 116, 116, 112, 115]⟩) ∧ W.cell? ⟨w.heap.size, 2, none⟩ = some (.string ⟨#[98, 46, 97, 46, 116, 101, 115, 116]⟩) ∧ W.cell? ⟨w.heap.size, 3, none⟩ = some (.int .i64 443)) (hl : l.length < 4294967281) => OK.out.matches_ l [104, 116, 116, 112, 115] [97, 46, 116, 101, 115, 116] [104, 116, 116, 112, 115] [98, 46, 97, 46, 116, 101, 115, 116] ⟨#[]⟩ ⟨#[]⟩ 443 443 W (E1.out.keep h.1.out) hl (by decide) (by decide))
  have CL := hide (fun l W (h : Hid (Below w1.heap.size w1 W) ∧ W.cell? ⟨w.heap.size, 0, none⟩ = some (.string ⟨#[]⟩) ∧ W.cell? ⟨w.heap.size, 1, none⟩ = some (.string ⟨#[104, 116, 116, 112, 115]⟩) ∧ W.cell? ⟨w.heap.size, 2, none⟩ = some (.string ⟨#[98, 46, 97, 46, 116, 101, 115, 116]⟩) ∧ W.cell? ⟨w.heap.size, 3, none⟩ = some (.int .i64 443)) (hl : l.length < 4294967281) => OK.out.lets l [104, 116, 116, 112, 115] [97, 46, 116, 101, 115, 116] [104, 116, 116, 112, 115] [98, 46, 97, 46, 116, 101, 115, 116] ⟨#[]⟩ ⟨#[]⟩ 443 443 W (E1.out.keep h.1.out) hl (by decide) (by decide))
  have CI := hide (fun l W (h : Hid (Below w1.heap.size w1 W) ∧ W.cell? ⟨w.heap.size, 0, none⟩ = some (.string ⟨#[]⟩) ∧ W.cell? ⟨w.heap.size, 1, none⟩ = some (.string ⟨#[104, 116, 116, 112, 115]⟩) ∧ W.cell? ⟨w.heap.size, 2, none⟩ = some (.string ⟨#[98, 46, 97, 46, 116, 101, 115, 116]⟩) ∧ W.cell? ⟨w.heap.size, 3, none⟩ = some (.int .i64 443)) (hl : l.length < 4294967281) => OK.out.inline l W (E1.out.keep h.1.out) hl)
  go_region_held3 (fun W => Hid (Below w1.heap.size w1 W) ∧ W.cell? ⟨w.heap.size, 0, none⟩ = some (.string ⟨#[]⟩) ∧ W.cell? ⟨w.heap.size, 1, none⟩ = some (.string ⟨#[104, 116, 116, 112, 115]⟩) ∧ W.cell? ⟨w.heap.size, 2, none⟩ = some (.string ⟨#[98, 46, 97, 46, 116, 101, 115, 116]⟩) ∧ W.cell? ⟨w.heap.size, 3, none⟩ = some (.int .i64 443))
    (first | exact held_call (by assumption) hb | exact held_call (by assumption) (below_new _ _) | exact held_call ⟨hide (Below.refl _ _), c0, c1, c2, c3⟩ (below_drew _))
    (first
      | (go_at_call 8; refine (own6_any _).mono ?_; rintro e w' ⟨rfl, hb⟩)
      | (go_at_call 12; refine (C1.out _ (HH.out.keep (below_drew _))).mono ?_; rintro e w' ⟨rfl, hb⟩)
      | (go_at_call 7; refine (CM.out _ _ (by assumption) (by decide)).mono ?_; rintro e w' ⟨rfl, hb⟩; first | rw [a6m1] | rw [a6m2])
      | (go_at_call 9; refine (CL.out _ _ (by assumption) (by decide)).mono ?_; rintro e w' ⟨rfl, hb⟩; first | rw [a6l1] | rw [a6l2])
      | (go_at_call 10; refine (CI.out _ _ (by assumption) (by decide)).mono ?_; rintro e w' ⟨rfl, hb⟩; rw [a6i1]))
  all_goals go_wp2_with fail
  all_goals go_ret
  all_goals exact ⟨rfl, held_end B1.out (by assumption)⟩
end Go.Proofs.YtmepjaepggomjaaDoor
