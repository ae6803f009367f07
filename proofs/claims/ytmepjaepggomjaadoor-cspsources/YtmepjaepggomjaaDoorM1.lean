/- Walks over the landed package csp: cutScheme, schemeFits, hostFits, ownPort, portFits, matchHost, Match. -/
import Derived.Test.YtmepjaepggomjaaDoorC1
import Derived.Test.YtmepjaepggomjaaDoorC3
import Derived.Test.YtmepjaepggomjaaDoorV0
import Derived.Deep.QuietTactic
import Derived.BigQuiet
import Derived.Lib.QuietBelow
namespace Go.Proofs.YtmepjaepggomjaaDoor
open Go.RowKit Go.Proofs.Url

/-- An origin as a value. -/
abbrev orgV (n : ByteArray) (s h : List UInt8) (p : Int) : Value := .agg #[.string n, .string ⟨s.toArray⟩, .string ⟨h.toArray⟩, .int .i64 p]

set_option maxHeartbeats 400000 in
theorem cspOwn_any (l : List UInt8) (w : World) :
    Calls Tryd.prog 36 #[.string ⟨l.toArray⟩] w fun e w' => e = .returned (.int .i64 (own l)) ∧ w' = w := by
  go_enter Tryd.func36, Tryd.ntmps36
  go_wp2
  all_goals go_ret
  all_goals refine ⟨ret_int ?_, rfl⟩
  all_goals simp only [beq_iff_eq, beq_eq_false_iff_ne] at *
  all_goals simp [own, http, https, *]

set_option maxHeartbeats 400000 in
theorem cspCut_any (l : List UInt8) (w : World) :
    Calls Tryd.prog 22 #[.string ⟨l.toArray⟩] w fun e w' => e = .returned (.tuple #[.string ⟨(cutC l).1.toArray⟩, .string ⟨(cutC l).2.toArray⟩]) ∧ w' = w := by
  by_cases h1 : Lib.hasPrefix l [104, 116, 116, 112, 58, 47, 47] = true
  · have HC : Hid (cutC l = (http, l.drop 7)) := by unfold cutC Hid; rw [show httpP = [104, 116, 116, 112, 58, 47, 47] from rfl, if_pos h1]
    have HT : Hid (Lib.trimPrefix l [104, 116, 116, 112, 58, 47, 47] = l.drop 7) := trimmed l _ h1
    go_enter Tryd.func22, Tryd.ntmps22
    go_wp2_with fail
    refine (Tryd.strings_CutPrefix _ _ _).mono ?_
    rintro e w' ⟨rfl, rfl⟩
    go_wp2_with fail
    go_ret2
    exact ⟨ret_ss (a := http) (by rw [HC.out]) (by rw [HC.out]; exact HT.out), rfl⟩
  have h1' : Lib.hasPrefix l [104, 116, 116, 112, 58, 47, 47] = false := by simpa using h1
  clear h1
  by_cases h2 : Lib.hasPrefix l [104, 116, 116, 112, 115, 58, 47, 47] = true
  · have HC : Hid (cutC l = (https, l.drop 8)) := by unfold cutC Hid; rw [show httpP = [104, 116, 116, 112, 58, 47, 47] from rfl, if_neg (by simp [h1']), show httpsP = [104, 116, 116, 112, 115, 58, 47, 47] from rfl, if_pos h2]
    have HT : Hid (Lib.trimPrefix l [104, 116, 116, 112, 115, 58, 47, 47] = l.drop 8) := trimmed l _ h2
    go_enter Tryd.func22, Tryd.ntmps22
    go_wp2_with fail
    refine (Tryd.strings_CutPrefix _ _ _).mono ?_
    rintro e w' ⟨rfl, rfl⟩
    go_wp2_with fail
    refine (Tryd.strings_CutPrefix _ _ _).mono ?_
    rintro e w' ⟨rfl, rfl⟩
    go_wp2_with fail
    go_ret2
    exact ⟨ret_ss (a := https) (by rw [HC.out]) (by rw [HC.out]; exact HT.out), rfl⟩
  have h2' : Lib.hasPrefix l [104, 116, 116, 112, 115, 58, 47, 47] = false := by simpa using h2
  clear h2
  have HC : Hid (cutC l = ([], l)) := by unfold cutC Hid; rw [show httpP = [104, 116, 116, 112, 58, 47, 47] from rfl, if_neg (by simp [h1']), show httpsP = [104, 116, 116, 112, 115, 58, 47, 47] from rfl, if_neg (by simp [h2'])]
  go_enter Tryd.func22, Tryd.ntmps22
  go_wp2_with fail
  refine (Tryd.strings_CutPrefix _ _ _).mono ?_
  rintro e w' ⟨rfl, rfl⟩
  go_wp2_with fail
  refine (Tryd.strings_CutPrefix _ _ _).mono ?_
  rintro e w' ⟨rfl, rfl⟩
  go_wp2_with fail
  go_ret2
  exact ⟨ret_ss (a := []) (b := l) (by rw [HC.out]) (by rw [HC.out]), rfl⟩

set_option maxHeartbeats 400000 in
theorem cspScheme_any (sch ss sh os oh : List UInt8) (n1 n2 : ByteArray) (sp op : Int) (w : World) :
    Calls Tryd.prog 24 #[.string ⟨sch.toArray⟩, orgV n1 ss sh sp, orgV n2 os oh op] w fun e w' => e = .returned (.bool (schemeF sch ss os)) ∧ Below w.heap.size w w' := by
  go_enter Tryd.func24, Tryd.ntmps24
  go_wp2
  all_goals go_ret
  all_goals refine ⟨ret_bool ?_, ((Below.refl _ _).alloc (Nat.le_refl _) _).alloc (by simp) _⟩
  all_goals unfold schemeF
  · simp_all
  · rename_i h1 h2
    rw [if_pos (by simpa using h1), decide_eq_false h2]
    rw [Bool.eq_iff_iff]
    simp [h2, https]
    exact ⟨fun h => decide_eq_true h, fun h => of_decide_eq_true h⟩
  · rename_i h1
    rw [if_neg (by simpa using h1)]
    rw [Bool.eq_iff_iff]
    simp

set_option maxHeartbeats 400000 in
theorem cspHost_any (h os oh : List UInt8) (n2 : ByteArray) (op : Int) (w : World) (henv : Env w) (hh : h.length < 4294967281) (ho : oh.length < 4294967281) :
    Calls Tryd.prog 25 #[.string ⟨h.toArray⟩, orgV n2 os oh op] w fun e w' => e = .returned (.bool (hostF h oh)) ∧ Below w.heap.size w w' := by
  have HE := hide henv
  clear henv
  have b0 : Hid (∀ o, Below w.heap.size w (w.alloc o)) := fun o => (Below.refl _ _).alloc (Nat.le_refl _) _
  by_cases h1 : Lib.hasPrefix h [42, 46] = true
  · have HF : Hid (hostF h oh = (!decide (oh = h.drop 2) && underS oh (h.drop 2))) := by unfold hostF Hid; rw [if_pos h1]
    have HT : Hid (Lib.trimPrefix h [42, 46] = h.drop 2) := trimmed h _ h1
    have hd : (h.drop 2).length < 4294967281 := by simp; omega
    go_enter Tryd.func25, Tryd.ntmps25
    go_wp2_with fail
    refine (Tryd.strings_CutPrefix _ _ _).mono ?_
    rintro e w' ⟨rfl, rfl⟩
    rw [show Lib.trimPrefix (⟨h.toArray⟩ : ByteArray).data.toList [42, 46] = h.drop 2 from HT.out]
    clear HT
    generalize h.drop 2 = d at *
    cases he : (oh == d)
    · have HX : Hid (decide (oh = d) = false) := decide_eq_false (beq_eq_false_iff_ne.1 he)
      go_wp2_with fail
      refine (under_any oh d _ (HE.out.alloc _) ho hd).mono ?_
      rintro e w1 ⟨rfl, hb1⟩
      have B1 := hide ((b0.out _).trans (hb1.mono (b0.out _).size))
      clear hb1
      go_wp2_with fail
      go_ret
      exact ⟨ret_bool (by rw [HF.out, HX.out]; rfl), B1.out⟩
    · have HX : Hid (decide (oh = d) = true) := decide_eq_true (beq_iff_eq.1 he)
      go_wp2_with fail
      go_ret
      exact ⟨ret_bool (by rw [HF.out, HX.out]; rfl), b0.out _⟩
  · have h1' : Lib.hasPrefix h [42, 46] = false := by simpa using h1
    have HF : Hid (hostF h oh = (decide (oh = h) && host h)) := by unfold hostF Hid; rw [if_neg h1]
    clear h1
    go_enter Tryd.func25, Tryd.ntmps25
    go_wp2_with fail
    refine (Tryd.strings_CutPrefix _ _ _).mono ?_
    rintro e w' ⟨rfl, rfl⟩
    cases he : (oh == h)
    · have HX : Hid (decide (oh = h) = false) := decide_eq_false (beq_eq_false_iff_ne.1 he)
      go_wp2_with fail
      go_ret
      exact ⟨ret_bool (by rw [HF.out, HX.out]; rfl), b0.out _⟩
    · have HX : Hid (decide (oh = h) = true) := decide_eq_true (beq_iff_eq.1 he)
      go_wp2_with fail
      refine (hostL_any h _ (HE.out.alloc _) hh).mono ?_
      rintro e w1 ⟨rfl, hb1⟩
      have B1 := hide ((b0.out _).trans (hb1.mono (b0.out _).size))
      clear hb1
      go_wp2_with fail
      go_ret
      exact ⟨ret_bool (by rw [HF.out, HX.out]; rfl), B1.out⟩

set_option maxHeartbeats 400000 in
theorem cspPort_any (q os oh : List UInt8) (told : Bool) (n2 : ByteArray) (op : Int) (w : World) (hq : q.length < 4294967281) :
    Calls Tryd.prog 26 #[.string ⟨q.toArray⟩, .bool told, orgV n2 os oh op] w fun e w' => e = .returned (.bool (portF q told os op)) ∧ Below w.heap.size w w' := by
  have b0 : Hid (∀ o, Below w.heap.size w (w.alloc o)) := fun o => (Below.refl _ _).alloc (Nat.le_refl _) _
  cases told
  · have HF : Hid (portF q false os op = (op == own os)) := by unfold portF Hid; simp; rfl
    go_enter Tryd.func26, Tryd.ntmps26
    go_wp2_with fail
    go_quiet ((go_at_call 36; exact Calls.quiet_of_same (cspOwn_any os _)))
    go_wp2_with fail
    go_ret
    exact ⟨ret_bool HF.out.symm, _root_.Go.below_drewN (b0.out _) _⟩
  · by_cases h1 : q = [42]
    · subst h1
      go_enter Tryd.func26, Tryd.ntmps26
      go_wp2_with fail
      go_ret
      exact ⟨rfl, b0.out _⟩
    · have HF : Hid (portF q true os op = (portOk q && decide (op = port q))) := by unfold portF Hid; rw [if_pos rfl, if_neg h1]
      have hb : (q == [42]) = false := beq_eq_false_iff_ne.2 h1
      clear h1
      go_enter Tryd.func26, Tryd.ntmps26
      go_wp2_with fail
      refine (portL_any q _ hq).mono ?_
      rintro e w1 ⟨rfl, rfl⟩
      cases hp : portOk q
      · go_wp2_with fail
        go_ret
        exact ⟨ret_bool (by rw [HF.out, hp]; rfl), b0.out _⟩
      · go_wp2_with fail
        go_ret
        exact ⟨ret_bool (by rw [HF.out, hp]; rfl), b0.out _⟩

theorem cut_le58 (l : List UInt8) : (Lib.cut l [58]).1.length ≤ l.length ∧ (Lib.cut l [58]).2.1.length ≤ l.length := ⟨cut_le1 l, cut_le2 l⟩
set_option maxHeartbeats 1000000 in
theorem cspMatchH_any (l ss sh os oh : List UInt8) (n1 n2 : ByteArray) (sp op : Int) (w : World) (henv : Env w) (hl : l.length < 4294967281) (ho : oh.length < 4294967281) :
    Calls Tryd.prog 15 #[.string ⟨l.toArray⟩, orgV n1 ss sh sp, orgV n2 os oh op] w fun e w' => e = .returned (.bool (matchH l ss os oh op)) ∧ Below w.heap.size w w' := by
  have HE := hide henv
  clear henv
  have HM : Hid (matchH l ss os oh op = (schemeF (cutC l).1 ss os && hostF (Lib.cut (cutC l).2 [58]).1 oh && portF (Lib.cut (cutC l).2 [58]).2.1 (Lib.cut (cutC l).2 [58]).2.2 os op)) := rfl
  have z1 := cutC_le l
  have z2 := cut_le58 (cutC l).2
  obtain ⟨z2, z3⟩ := z2
  obtain ⟨W0, hW0⟩ : ∃ W0, W0 = (w.alloc (Obj.cells #[.string n1, .string ⟨ss.toArray⟩, .string ⟨sh.toArray⟩, .int .i64 sp] 27)).alloc (Obj.cells #[.string n2, .string ⟨os.toArray⟩, .string ⟨oh.toArray⟩, .int .i64 op] 27) := ⟨_, rfl⟩
  have b0 : Hid (Below w.heap.size w W0) := by rw [hW0]; exact ((Below.refl _ _).alloc (Nat.le_refl _) _).alloc (by simp) _
  have a0 : W0.cell? ⟨w.heap.size, 0, none⟩ = some (.string n1) := by rw [hW0]; simp
  have a1 : W0.cell? ⟨w.heap.size, 1, none⟩ = some (.string ⟨ss.toArray⟩) := by rw [hW0]; simp
  have a2 : W0.cell? ⟨w.heap.size, 2, none⟩ = some (.string ⟨sh.toArray⟩) := by rw [hW0]; simp
  have a3 : W0.cell? ⟨w.heap.size, 3, none⟩ = some (.int .i64 sp) := by rw [hW0]; simp
  have c0 : W0.cell? ⟨w.heap.size + 1, 0, none⟩ = some (.string n2) := by rw [hW0]; simp
  have c1 : W0.cell? ⟨w.heap.size + 1, 1, none⟩ = some (.string ⟨os.toArray⟩) := by rw [hW0]; simp
  have c2 : W0.cell? ⟨w.heap.size + 1, 2, none⟩ = some (.string ⟨oh.toArray⟩) := by rw [hW0]; simp
  have c3 : W0.cell? ⟨w.heap.size + 1, 3, none⟩ = some (.int .i64 op) := by rw [hW0]; simp
  go_enter Tryd.func15, Tryd.ntmps15
  go_wp2_with fail
  rw [← hW0]
  clear hW0
  refine (cspCut_any l _).mono ?_
  rintro e w1 ⟨rfl, rfl⟩
  generalize (cutC l).1 = sch at *
  generalize (cutC l).2 = rest at *
  go_wp2_with fail
  refine (cutL_any rest w1 (HE.out.keep b0.out) (by omega)).mono ?_
  rintro e w2 ⟨rfl, nd, rfl⟩
  generalize (Lib.cut rest [58]).1 = hst at *
  generalize (Lib.cut rest [58]).2.1 = prt at *
  generalize (Lib.cut rest [58]).2.2 = told at *
  have B1 : Hid (Below w.heap.size w (w1.drewN nd)) := _root_.Go.below_drewN b0.out nd
  replace a0 : (w1.drewN nd).cell? ⟨w.heap.size, 0, none⟩ = some (.string n1) := a0
  replace a1 : (w1.drewN nd).cell? ⟨w.heap.size, 1, none⟩ = some (.string ⟨ss.toArray⟩) := a1
  replace a2 : (w1.drewN nd).cell? ⟨w.heap.size, 2, none⟩ = some (.string ⟨sh.toArray⟩) := a2
  replace a3 : (w1.drewN nd).cell? ⟨w.heap.size, 3, none⟩ = some (.int .i64 sp) := a3
  replace c0 : (w1.drewN nd).cell? ⟨w.heap.size + 1, 0, none⟩ = some (.string n2) := c0
  replace c1 : (w1.drewN nd).cell? ⟨w.heap.size + 1, 1, none⟩ = some (.string ⟨os.toArray⟩) := c1
  replace c2 : (w1.drewN nd).cell? ⟨w.heap.size + 1, 2, none⟩ = some (.string ⟨oh.toArray⟩) := c2
  replace c3 : (w1.drewN nd).cell? ⟨w.heap.size + 1, 3, none⟩ = some (.int .i64 op) := c3
  generalize w1.drewN nd = W at *
  clear b0
  go_wp2_with fail
  refine (cspScheme_any sch ss sh os oh n1 n2 sp op W).mono ?_
  rintro e w2 ⟨rfl, hb⟩
  replace c0 := keepc hb c0
  replace c1 := keepc hb c1
  replace c2 := keepc hb c2
  replace c3 := keepc hb c3
  have B2 := hide (B1.out.trans (hb.mono B1.out.size))
  clear hb B1 a0 a1 a2 a3
  cases hs : schemeF sch ss os
  · go_wp2_with fail
    go_ret
    exact ⟨ret_bool (by rw [HM.out, hs]; rfl), B2.out⟩
  go_wp2_with fail
  refine (cspHost_any hst os oh n2 op w2 (HE.out.keep B2.out) (by omega) ho).mono ?_
  rintro e w3 ⟨rfl, hb⟩
  replace c0 := keepc hb c0
  replace c1 := keepc hb c1
  replace c2 := keepc hb c2
  replace c3 := keepc hb c3
  have B3 := hide (B2.out.trans (hb.mono B2.out.size))
  clear hb B2
  cases hh : hostF hst oh
  · go_wp2_with fail
    go_ret
    exact ⟨ret_bool (by rw [HM.out, hs, hh]; rfl), B3.out⟩
  go_wp2_with fail
  refine (cspPort_any prt os oh told n2 op w3 (by omega)).mono ?_
  rintro e w4 ⟨rfl, hb⟩
  have B4 := hide (B3.out.trans (hb.mono B3.out.size))
  clear hb B3
  go_wp2_with fail
  go_ret
  exact ⟨ret_bool (by rw [HM.out, hs, hh]; rfl), B4.out⟩

theorem colon_eq (a b : List UInt8) : (a ++ [58] = b ++ [58]) ↔ a = b := by simp
set_option maxHeartbeats 1000000 in
theorem cspMatch_any (l ss sh os oh : List UInt8) (n1 n2 : ByteArray) (sp op : Int) (w : World) (henv : Env w) (hl : l.length < 4294967281) (hz : os.length < 4294967281) (ho : oh.length < 4294967281) :
    Calls Tryd.prog 7 #[.string ⟨l.toArray⟩, orgV n1 ss sh sp, orgV n2 os oh op] w fun e w' => e = .returned (.bool (matchS l ss sh sp os oh op)) ∧ Below w.heap.size w w' := by
  have HE := hide henv
  clear henv
  have hl' : (lowerS l).length < 4294967281 := by rw [lowerS_len]; exact hl
  unfold matchS
  generalize hR : matchL (lowerS l) ss sh sp os oh op = R
  have HM := hide hR
  clear hR
  obtain ⟨W0, hW0⟩ : ∃ W0, W0 = (w.alloc (Obj.cells #[.string n1, .string ⟨ss.toArray⟩, .string ⟨sh.toArray⟩, .int .i64 sp] 27)).alloc (Obj.cells #[.string n2, .string ⟨os.toArray⟩, .string ⟨oh.toArray⟩, .int .i64 op] 27) := ⟨_, rfl⟩
  have b0 : Hid (Below w.heap.size w W0) := by rw [hW0]; exact ((Below.refl _ _).alloc (Nat.le_refl _) _).alloc (by simp) _
  have a0 : W0.cell? ⟨w.heap.size, 0, none⟩ = some (.string n1) := by rw [hW0]; simp
  have a1 : W0.cell? ⟨w.heap.size, 1, none⟩ = some (.string ⟨ss.toArray⟩) := by rw [hW0]; simp
  have a2 : W0.cell? ⟨w.heap.size, 2, none⟩ = some (.string ⟨sh.toArray⟩) := by rw [hW0]; simp
  have a3 : W0.cell? ⟨w.heap.size, 3, none⟩ = some (.int .i64 sp) := by rw [hW0]; simp
  have c0 : W0.cell? ⟨w.heap.size + 1, 0, none⟩ = some (.string n2) := by rw [hW0]; simp
  have c1 : W0.cell? ⟨w.heap.size + 1, 1, none⟩ = some (.string ⟨os.toArray⟩) := by rw [hW0]; simp
  have c2 : W0.cell? ⟨w.heap.size + 1, 2, none⟩ = some (.string ⟨oh.toArray⟩) := by rw [hW0]; simp
  have c3 : W0.cell? ⟨w.heap.size + 1, 3, none⟩ = some (.int .i64 op) := by rw [hW0]; simp
  go_enter Tryd.func7, Tryd.ntmps7
  go_wp2_with fail
  rw [← hW0]
  clear hW0
  refine (lower_any l W0 hl).mono ?_
  rintro e w1 ⟨rfl, hb⟩
  generalize lowerS l = s at *
  replace a0 := keepc hb a0
  replace a1 := keepc hb a1
  replace a2 := keepc hb a2
  replace a3 := keepc hb a3
  replace c0 := keepc hb c0
  replace c1 := keepc hb c1
  replace c2 := keepc hb c2
  replace c3 := keepc hb c3
  have B1 := hide (b0.out.trans (hb.mono b0.out.size))
  clear hb b0
  by_cases e1 : s = noneW
  · subst e1
    have HR := hide (HM.out.symm.trans (match_none ss sh sp os oh op))
    clear HM
    go_wp2_with fail
    go_ret
    exact ⟨ret_bool HR.out.symm, B1.out⟩
  by_cases e2 : s = inlineW
  · subst e2
    have HR := hide (HM.out.symm.trans (match_inline ss sh sp os oh op))
    clear HM
    go_wp2_with fail
    go_ret
    exact ⟨ret_bool HR.out.symm, B1.out⟩
  by_cases e3 : s = selfW
  · subst e3
    have HR := hide (HM.out.symm.trans (match_self ss sh sp os oh op))
    clear HM
    go_wp2_with fail
    refine (same_any n2 ⟨os.toArray⟩ ⟨oh.toArray⟩ n1 ⟨ss.toArray⟩ ⟨sh.toArray⟩ op sp w1).mono ?_
    rintro e w2 ⟨rfl, hb⟩
    have B2 := hide (B1.out.trans (hb.mono B1.out.size))
    clear hb
    go_wp2_with fail
    go_ret
    exact ⟨ret_bool (by rw [HR.out]; simp), B2.out⟩
  by_cases e4 : s = [42]
  · subst e4
    have HR := hide (HM.out.symm.trans (match_star ss sh sp os oh op))
    clear HM
    go_wp2_with fail
    go_ret
    exact ⟨ret_bool HR.out.symm, B1.out⟩
  by_cases e5 : s = httpC
  · subst e5
    have HR := hide (HM.out.symm.trans (match_http ss sh sp os oh op))
    clear HM
    go_wp2_with fail
    go_ret
    refine ⟨ret_bool ?_, B1.out⟩
    rw [HR.out, Bool.eq_iff_iff]
    rw [decide_eq_true_iff, beq_iff_eq, ByteArray.toList_eq]
    simp [httpC, http]
    exact ⟨fun h => (List.append_left_inj [58]).1 (h : os ++ [58] = [104, 116, 116, 112] ++ [58]), fun h => by rw [h]; rfl⟩
  by_cases e6 : s = httpsC
  · subst e6
    have HR := hide (HM.out.symm.trans (match_https ss sh sp os oh op))
    clear HM
    go_wp2_with fail
    go_ret
    refine ⟨ret_bool ?_, B1.out⟩
    rw [HR.out, Bool.eq_iff_iff]
    rw [decide_eq_true_iff, beq_iff_eq, ByteArray.toList_eq]
    simp [httpsC, https]
    exact ⟨fun h => (List.append_left_inj [58]).1 (h : os ++ [58] = [104, 116, 116, 112, 115] ++ [58]), fun h => by rw [h]; rfl⟩
  have HR := hide (HM.out.symm.trans (match_else s ss sh sp os oh op e3 e4 e5 e6))
  clear HM
  have f1 : (s == [39, 110, 111, 110, 101, 39]) = false := beq_eq_false_iff_ne.2 e1
  have f2 : (s == [39, 117, 110, 115, 97, 102, 101, 45, 105, 110, 108, 105, 110, 101, 39]) = false := beq_eq_false_iff_ne.2 e2
  have f3 : (s == [39, 115, 101, 108, 102, 39]) = false := beq_eq_false_iff_ne.2 e3
  have f4 : (s == [42]) = false := beq_eq_false_iff_ne.2 e4
  have f5 : (s == [104, 116, 116, 112, 58]) = false := beq_eq_false_iff_ne.2 e5
  have f6 : (s == [104, 116, 116, 112, 115, 58]) = false := beq_eq_false_iff_ne.2 e6
  clear e1 e2 e3 e4 e5 e6
  go_wp2_with fail
  refine (cspMatchH_any s ss sh os oh n1 n2 sp op w1 (HE.out.keep B1.out) hl' ho).mono ?_
  rintro e w2 ⟨rfl, hb⟩
  have B2 := hide (B1.out.trans (hb.mono B1.out.size))
  clear hb
  go_wp2_with fail
  go_ret
  exact ⟨ret_bool HR.out.symm, B2.out⟩
end Go.Proofs.YtmepjaepggomjaaDoor
