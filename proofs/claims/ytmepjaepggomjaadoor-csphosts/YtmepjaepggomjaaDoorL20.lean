/- The walk over moatlaw6.CspHosts, by what package csp answers. -/
import Derived.Test.YtmepjaepggomjaaDoorC1
import Derived.Test.YtmepjaepggomjaaDoorG4
import Derived.Lib.QuietBelow
import Derived.Deep.QuietTactic
import Derived.BigQuiet
import Derived.BigRegion
import Derived.Deep.DeepCutAuto
namespace Go.Proofs.YtmepjaepggomjaaDoor
open Go.RowKit Go.Proofs.Url

theorem low_nat (x : Int) (n : Nat) (h : 1 ≤ n) : ∃ k : Nat, low x n = (k : Int) ∧ k < n := by
  have a := low_nn x n (by omega)
  have b := low_lt x n (by omega)
  exact ⟨(low x n).toNat, by omega, by omega⟩
theorem string_append (a b : List UInt8) : (⟨a.toArray⟩ : ByteArray) ++ ⟨b.toArray⟩ = ⟨(a ++ b).toArray⟩ := by
  apply dataEq; simp

set_option maxHeartbeats 2000000 in
set_option maxRecDepth 100000 in
theorem cspHosts_walk (ok : CspOk) (wild : Bool) (scheme port hst at_ : Int) (ht own : Bool) (w : World) (henv : Env w) :
    Calls Tryd.prog 4 #[.bool wild, .int .i64 scheme, .int .i64 port, .int .i64 hst, .int .i64 at_, .bool ht, .bool own] w fun r w' => r = .returned (.bool true) ∧ Below w.heap.size w w' := by
  have OK := hide ok
  have HE := hide henv
  clear ok henv
  obtain ⟨s, hs, hs3⟩ := low_nat scheme 3 (by decide)
  obtain ⟨p, hp, hp4⟩ := low_nat port 4 (by decide)
  obtain ⟨h, hh, hh4⟩ := low_nat hst 4 (by decide)
  obtain ⟨a, ha, ha3⟩ := low_nat at_ 3 (by decide)
  have HM := hide (hosts_match wild ht own ⟨s, hs3⟩ ⟨p, hp4⟩ ⟨h, hh4⟩ ⟨a, ha3⟩)
  have HT := hide (hosts_lets wild ht own ⟨s, hs3⟩ ⟨p, hp4⟩ ⟨h, hh4⟩ ⟨a, ha3⟩)
  simp only [srcH] at HM HT
  have l1 := heads3_at s hs3
  have l2 := ports4_at p hp4
  have l3 := hosts4_at h hh4
  have l4 := nums3_at a ha3
  have z1 := hosts_len.1 ⟨s, hs3⟩
  have z2 := hosts_len.2.1 ⟨p, hp4⟩
  have z3 := hosts_len.2.2 ⟨h, hh4⟩
  simp only at z1 z2 z3
  generalize heads3.getD s [] = hd at *
  generalize ports4.getD p [] = pt at *
  generalize hosts4.getD h [] = ho at *
  generalize nums3.getD a 0 = n at *
  have HW : Hid (∃ b, b = (hostsB wild h && schemesB s ht own && endsB p n (stdB ht))) := ⟨_, rfl⟩
  have XM : Hid (∀ W, Below w.heap.size w W → Calls Tryd.prog 7 #[.string ⟨(hd ++ starB wild ++ [97, 46, 116, 101, 115, 116] ++ pt).toArray⟩, .agg #[.string ⟨#[]⟩, .string ⟨(schemeB own).toArray⟩, .string ⟨#[113, 46, 116, 101, 115, 116]⟩, .int .i64 443], .agg #[.string ⟨#[]⟩, .string ⟨(schemeB ht).toArray⟩, .string ⟨ho.toArray⟩, .int .i64 n]] W fun r w' => r = .returned (.bool (hostsB wild h && schemesB s ht own && endsB p n (stdB ht))) ∧ Below W.heap.size W w') := fun W hb => by
    have := OK.out.matches_ (hd ++ starB wild ++ [97, 46, 116, 101, 115, 116] ++ pt) (schemeB own) [113, 46, 116, 101, 115, 116] (schemeB ht) ho ⟨#[]⟩ ⟨#[]⟩ 443 n W (HE.out.keep hb) (by cases wild <;> simp [starB] <;> omega) (by cases ht <;> decide) (by omega)
    rwa [HM.out] at this
  have XL : Hid (∀ W, Below w.heap.size w W → Calls Tryd.prog 9 #[.string (⟨#[115, 99, 114, 105, 112, 116, 45, 115, 114, 99, 32, 39, 110, 111, 110, 101, 39, 32]⟩ ++ ⟨(hd ++ starB wild ++ [97, 46, 116, 101, 115, 116] ++ pt).toArray⟩), .agg #[.string ⟨#[]⟩, .string ⟨(schemeB own).toArray⟩, .string ⟨#[113, 46, 116, 101, 115, 116]⟩, .int .i64 443], .agg #[.string ⟨#[]⟩, .string ⟨(schemeB ht).toArray⟩, .string ⟨ho.toArray⟩, .int .i64 n]] W fun r w' => r = .returned (.bool (hostsB wild h && schemesB s ht own && endsB p n (stdB ht))) ∧ Below W.heap.size W w') := fun W hb => by
    have := OK.out.lets ([115, 99, 114, 105, 112, 116, 45, 115, 114, 99, 32, 39, 110, 111, 110, 101, 39, 32] ++ (hd ++ starB wild ++ [97, 46, 116, 101, 115, 116] ++ pt)) (schemeB own) [113, 46, 116, 101, 115, 116] (schemeB ht) ho ⟨#[]⟩ ⟨#[]⟩ 443 n W (HE.out.keep hb) (by cases wild <;> simp [starB] <;> omega) (by cases ht <;> decide) (by omega)
    rw [HT.out] at this
    rw [← string_append [115, 99, 114, 105, 112, 116, 45, 115, 114, 99, 32, 39, 110, 111, 110, 101, 39, 32] (hd ++ starB wild ++ [97, 46, 116, 101, 115, 116] ++ pt)] at this
    exact this
  have XA : Hid (∀ W, Below w.heap.size w W → Calls Tryd.prog 5 #[] W fun r w' => r = .returned (.bool true) ∧ Below W.heap.size W w') := fun W hb => awake6_any OK.out W (HE.out.keep hb)
  clear HM HT HW OK HE
  have HLs := hide hs
  have HLp := hide hp
  have HLh := hide hh
  have HLa := hide ha
  clear hs hp hh ha z3
  have zs : (starB wild).length ≤ 2 := by cases wild <;> decide
  have i1 : (s : Int) < 3 := by omega
  have i2 : (p : Int) < 4 := by omega
  have i3 : (h : Int) < 4 := by omega
  have i4 : (a : Int) < 3 := by omega
  go_enter Tryd.func4, Tryd.ntmps4
  go_wp2_with fail
  refine (low_any _ _ _ (by decide) (by decide)).mono ?_
  rintro r w1 ⟨rfl, hw⟩
  subst hw
  rw [show low scheme 3 = (s : Int) from HLs.out]
  go_wp2_with fail
  refine (low_any _ _ _ (by decide) (by decide)).mono ?_
  rintro r w1 ⟨rfl, hw⟩
  subst hw
  rw [show low port 4 = (p : Int) from HLp.out]
  clear HLs HLp
  go_upto_if 39 with fail
  obtain ⟨W0, hW0⟩ : ∃ W0, W0 = ((w.alloc (Obj.cells #[.string ⟨#[]⟩, .string ⟨#[104, 116, 116, 112, 58, 47, 47]⟩, .string ⟨#[104, 116, 116, 112, 115, 58, 47, 47]⟩] 9)).alloc (Obj.cells #[.string ⟨#[]⟩, .string ⟨#[58, 42]⟩, .string ⟨#[58, 56, 52, 52, 51]⟩, .string ⟨#[58, 52, 52, 51]⟩] 9)) := ⟨_, rfl⟩
  rw [← hW0]
  have b0 : Below w.heap.size w W0 := by rw [hW0]; exact ((Below.refl _ _).alloc (Nat.le_refl _) _).alloc (by simp) _
  have hcp : W0.cell? ⟨w.heap.size + 1, p, none⟩ = some (.string ⟨pt.toArray⟩) := by
    rw [hW0, show w.heap.size + 1 = (w.alloc (Obj.cells #[.string ⟨#[]⟩, .string ⟨#[104, 116, 116, 112, 58, 47, 47]⟩, .string ⟨#[104, 116, 116, 112, 115, 58, 47, 47]⟩] 9)).heap.size by simp, World.cell?_alloc_new, ← l2]
    simp [hp4]
  have B0 := hide b0
  clear hW0 b0 l1 l2
  go_cut [19] (fun v W => v = .string ⟨(hd ++ starB wild).toArray⟩ ∧ W = W0)
  case first => as_aux_lemma =>
    cases wild with
    | true =>
      go_wp2_with fail
      go_meet
      case rel => exact ⟨congrArg Value.string (dataEq (by simp [starB])), rfl⟩
    | false =>
      go_wp2_with fail
      go_meet
      case rel => exact ⟨congrArg Value.string (dataEq (by simp [starB])), rfl⟩
  case rest =>
    obtain ⟨rfl, hwc⟩ := hcut
    subst hwc
    go_upto_region 6 with fail
    go_cut [19] (fun v W => v = .string ⟨(hd ++ starB wild ++ [97, 46, 116, 101, 115, 116] ++ pt).toArray⟩ ∧ W = wc)
    case first => as_aux_lemma =>
      go_wp2_with fail
      go_meet
      case rel => exact ⟨congrArg Value.string (dataEq (by simp)), rfl⟩
    case rest =>
    obtain ⟨rfl, hwc⟩ := hcut

    subst hwc
    have hcp' := World.block_lt_of_cell? _ _ hcp
    simp only at hcp'
    clear hcp
    have zz : (hd ++ starB wild ++ [97, 46, 116, 101, 115, 116] ++ pt).length ≤ 30 := by simp; omega
    generalize hd ++ starB wild ++ [97, 46, 116, 101, 115, 116] ++ pt = src at *
    clear zs z1 z2
    go_upto_region 7 with fail
    go_cut [20, 21] (fun v u W => v = .int .i64 (h : Int) ∧ u = .int .i64 n ∧ Hid (Below wc.heap.size wc W))
    case first => as_aux_lemma =>
      clear XM XL XA B0 zz
      have hLh : low hst 4 = (h : Int) := HLh.out
      have hLa : low at_ 3 = (a : Int) := HLa.out
      go_wp2_with fail
      go_region_with (go_at_call 6; refine (low_any _ _ _ (by decide) (by decide)).mono ?_; rintro e w' ⟨rfl, rfl⟩; first | rw [hLh] | rw [hLa])
      all_goals (go_wp2_with fail; go_meet)
      all_goals (case rel => exact ⟨rfl, rfl, hide (_root_.Go.below_drewN ((Below.refl _ _).alloc (Nat.le_refl _) _) _)⟩)
    case rest =>
    obtain ⟨rfl, rfl, hwb⟩ := hcut
    have B1 := hide (B0.out.trans (hwb.out.mono B0.out.size))
    clear hwb B0 hcp'
    go_upto_if 63 with fail
    generalize hA : wc.alloc (Obj.cells #[.string ⟨#[97, 46, 116, 101, 115, 116]⟩, .string ⟨#[98, 46, 97, 46, 116, 101, 115, 116]⟩, .string ⟨#[98, 97, 46, 116, 101, 115, 116]⟩, .string ⟨#[99, 46, 98, 46, 97, 46, 116, 101, 115, 116]⟩] 9) = W1
    have hW1 : W1.heap.size = wc.heap.size + 1 := by rw [← hA]; simp
    have B2 : Hid (Below w.heap.size w W1) := by unfold Hid; rw [← hA]; exact B1.out.alloc B1.out.size _
    rw [← hW1]
    clear hW1 hA B1
    go_cut [24] (fun v W => v = .int .i64 (stdB ht) ∧ W = (W1.alloc (Obj.cells #[.string ⟨#[]⟩, .string ⟨(schemeB ht).toArray⟩, .string ⟨ho.toArray⟩, .int .i64 n] 27)).alloc (Obj.cells #[.string ⟨#[]⟩, .string ⟨#[104, 116, 116, 112, 115]⟩, .string ⟨#[113, 46, 116, 101, 115, 116]⟩, .int .i64 443] 27))
    case first => as_aux_lemma =>
      cases ht with
      | true =>
        go_wp2_with fail
        go_meet
        case rel => exact ⟨rfl, rfl⟩
      | false =>
        go_wp2_with fail
        go_meet
        case rel => exact ⟨rfl, rfl⟩
    case rest =>
    obtain ⟨rfl, hwc⟩ := hcut
    subst hwc
    go_upto_if 65 with fail
    go_cut [] (fun W => W = (W1.alloc (Obj.cells #[.string ⟨#[]⟩, .string ⟨(schemeB ht).toArray⟩, .string ⟨ho.toArray⟩, .int .i64 n] 27)).alloc (Obj.cells #[.string ⟨#[]⟩, .string ⟨(schemeB own).toArray⟩, .string ⟨#[113, 46, 116, 101, 115, 116]⟩, .int .i64 443] 27))
    case first => as_aux_lemma =>
      cases own with
      | true =>
        go_wp2_with fail
        go_meet
        case rel => exact rfl
      | false =>
        go_wp2_with fail
        go_meet
        case rel => exact rfl
    case rest =>
    have hwc := hcut
    have B3 : Hid (Below w.heap.size w wc) := by unfold Hid; rw [hwc]; exact (B2.out.alloc B2.out.size _).alloc (by have := B2.out.size; simp; omega) _
    have o0 : wc.cell? ⟨W1.heap.size, 0, none⟩ = some (.string ⟨#[]⟩) := by rw [hwc]; simp
    have o1 : wc.cell? ⟨W1.heap.size, 1, none⟩ = some (.string ⟨(schemeB ht).toArray⟩) := by rw [hwc]; simp
    have o2 : wc.cell? ⟨W1.heap.size, 2, none⟩ = some (.string ⟨ho.toArray⟩) := by rw [hwc]; simp
    have o3 : wc.cell? ⟨W1.heap.size, 3, none⟩ = some (.int .i64 n) := by rw [hwc]; simp
    have s0 : wc.cell? ⟨W1.heap.size + 1, 0, none⟩ = some (.string ⟨#[]⟩) := by rw [hwc]; simp
    have s1 : wc.cell? ⟨W1.heap.size + 1, 1, none⟩ = some (.string ⟨(schemeB own).toArray⟩) := by rw [hwc]; simp
    have s2 : wc.cell? ⟨W1.heap.size + 1, 2, none⟩ = some (.string ⟨#[113, 46, 116, 101, 115, 116]⟩) := by rw [hwc]; simp
    have s3 : wc.cell? ⟨W1.heap.size + 1, 3, none⟩ = some (.int .i64 443) := by rw [hwc]; simp
    clear hwc hcut B2 l3 l4 HLh HLa
    generalize W1.heap.size = g at *
    generalize schemeB ht = sh at *
    generalize schemeB own = so at *
    go_upto_region 16 with fail
    go_cut [25] (fun v W => v = .bool (hostsB wild h) ∧ W = wc)
    case first => as_aux_lemma =>
      clear XM XL XA o0 o1 o2 o3 s0 s1 s2 s3 B3
      match h, hh4 with
      | 0, _ =>
        cases wild
        all_goals (go_wp2_with fail; go_meet)
        all_goals (case rel => exact ⟨rfl, rfl⟩)
      | 1, _ =>
        cases wild
        all_goals (go_wp2_with fail; go_meet)
        all_goals (case rel => exact ⟨rfl, rfl⟩)
      | 2, _ =>
        cases wild
        all_goals (go_wp2_with fail; go_meet)
        all_goals (case rel => exact ⟨rfl, rfl⟩)
      | 3, _ =>
        cases wild
        all_goals (go_wp2_with fail; go_meet)
        all_goals (case rel => exact ⟨rfl, rfl⟩)
    case rest =>
    obtain ⟨rfl, hwc⟩ := hcut
    subst hwc
    generalize hostsB wild h = bh at *
    go_upto_region 17 with fail
    go_cut [26] (fun v W => v = .bool (schemesB s ht own) ∧ W = wc)
    case first => as_aux_lemma =>
      clear XM XL XA o0 o1 o2 o3 s0 s1 s2 s3 B3
      match s, hs3 with
      | 0, _ =>
        cases ht <;> cases own
        all_goals (go_wp2_with fail; go_meet)
        all_goals (case rel => exact ⟨rfl, rfl⟩)
      | 1, _ =>
        cases ht <;> cases own
        all_goals (go_wp2_with fail; go_meet)
        all_goals (case rel => exact ⟨rfl, rfl⟩)
      | 2, _ =>
        cases ht <;> cases own
        all_goals (go_wp2_with fail; go_meet)
        all_goals (case rel => exact ⟨rfl, rfl⟩)
    case rest =>
    obtain ⟨rfl, hwc⟩ := hcut
    subst hwc
    generalize schemesB s ht own = bs at *
    generalize stdB ht = sd at *
    go_upto_region 18 with fail
    go_cut [27] (fun v W => v = .bool (endsB p n sd) ∧ W = wc)
    case first => as_aux_lemma =>
      clear XM XL XA o0 o1 o2 o3 s0 s1 s2 s3 B3
      match p, hp4 with
      | 0, _ =>
        have HE : Hid (endsB 0 n sd = (n == sd)) := by unfold Hid endsB; simp
        cases hx : (n == sd)
        all_goals have HX := hide hx
        all_goals (go_wp2_with fail; go_meet)
        all_goals (case rel => exact ⟨congrArg Value.bool (by rw [HE.out, HX.out]), rfl⟩)
      | 1, _ =>
        have HE : Hid (endsB 1 n sd = true) := by unfold Hid endsB; simp
        go_wp2_with fail
        go_meet
        case rel => exact ⟨congrArg Value.bool HE.out.symm, rfl⟩
      | 2, _ =>
        have HE : Hid (endsB 2 n sd = (n == 8443)) := by unfold Hid endsB; simp
        cases hx : (n == 8443)
        all_goals have HX := hide hx
        all_goals (go_wp2_with fail; go_meet)
        all_goals (case rel => exact ⟨congrArg Value.bool (by rw [HE.out, HX.out]), rfl⟩)
      | 3, _ =>
        have HE : Hid (endsB 3 n sd = (n == 443)) := by unfold Hid endsB; simp
        cases hx : (n == 443)
        all_goals have HX := hide hx
        all_goals (go_wp2_with fail; go_meet)
        all_goals (case rel => exact ⟨congrArg Value.bool (by rw [HE.out, HX.out]), rfl⟩)
    case rest =>
    obtain ⟨rfl, hwc⟩ := hcut
    subst hwc
    generalize endsB p n sd = be at *
    go_upto_region 19 with fail
    go_cut [28] (fun v W => v = .bool (bh && bs && be) ∧ W = wc)
    case first => as_aux_lemma =>
      clear XM XL XA o0 o1 o2 o3 s0 s1 s2 s3 B3
      cases bh
      · go_wp2_with fail
        go_meet
        case rel => exact ⟨rfl, rfl⟩
      · cases bs
        · go_wp2_with fail
          go_meet
          case rel => exact ⟨rfl, rfl⟩
        · go_wp2_with fail
          go_meet
          case rel => exact ⟨by cases be <;> rfl, rfl⟩
    case rest =>
    obtain ⟨rfl, hwc⟩ := hcut
    subst hwc
    generalize (bh && bs && be) = want at *
    have hww : (want == want) = true := by simp
    go_wp2_with fail
    refine (XM.out _ B3.out).mono ?_
    rintro r w2 ⟨rfl, hb2⟩
    replace o0 := keepc hb2 o0
    replace o1 := keepc hb2 o1
    replace o2 := keepc hb2 o2
    replace o3 := keepc hb2 o3
    replace s0 := keepc hb2 s0
    replace s1 := keepc hb2 s1
    replace s2 := keepc hb2 s2
    replace s3 := keepc hb2 s3
    have B4 := hide (B3.out.trans (hb2.mono B3.out.size))
    clear hb2 B3 XM
    go_wp2_with fail
    refine (XL.out _ B4.out).mono ?_
    rintro r w3 ⟨rfl, hb3⟩
    have B5 := hide (B4.out.trans (hb3.mono B4.out.size))
    clear hb3 B4 XL o0 o1 o2 o3 s0 s1 s2 s3
    go_wp2_with fail
    refine (XA.out _ B5.out).mono ?_
    rintro r w4 ⟨rfl, hb4⟩
    have B6 := hide (B5.out.trans (hb4.mono B5.out.size))
    clear hb4 B5 XA
    go_wp2_with fail
    go_ret
    exact ⟨rfl, B6.out⟩
end Go.Proofs.YtmepjaepggomjaaDoor
