/- Walks over the landed package csp: isSpace, directive, Sources; strings.Split at a semicolon, strings.FieldsFunc at blanks and tabs. -/
import Derived.Test.YtmepjaepggomjaaDoorM1
import Derived.Test.YtmepjaepggomjaaDoorC2
import Derived.Test.YtmepjaepggomjaaDoorC4
import Derived.Test.YtmepjaepggomjaaDoorRows5
namespace Go.Proofs.YtmepjaepggomjaaDoor
open Go.RowKit Go.Proofs.Url

theorem enters_space : ∀ args w, (callFunc 31 args).run Tryd.prog w = .ok (.enter 31 args) w := enters_of Tryd.func31 (by kernel_rfl) rfl
theorem isSpace_at (w : World) : PredAt Tryd.prog 31 #[] encR gapN w := by
  intro W r _
  unfold FnGives
  have HG : Hid (gapN r = (((r : Int) == 32) || ((r : Int) == 9))) := by
    unfold gapN Hid
    rw [Bool.eq_iff_iff]
    simp
    omega
  cases h1 : ((r : Int) == 32)
  · cases h2 : ((r : Int) == 9)
    · have HX : Hid (gapN r = false) := by unfold Hid; rw [HG.out, h1, h2]; rfl
      go_enter Tryd.func31, Tryd.ntmps31
      go_wp2_with fail
      go_ret
      exact ⟨ret_bool HX.out.symm, 0, rfl⟩
    · have HX : Hid (gapN r = true) := by unfold Hid; rw [HG.out, h1, h2]; rfl
      go_enter Tryd.func31, Tryd.ntmps31
      go_wp2_with fail
      go_ret
      exact ⟨ret_bool HX.out.symm, 0, rfl⟩
  · have HX : Hid (gapN r = true) := by unfold Hid; rw [HG.out, h1]; rfl
    go_enter Tryd.func31, Tryd.ntmps31
    go_wp2_with fail
    go_ret
    exact ⟨ret_bool HX.out.symm, 0, rfl⟩
theorem mk_lists (ps : List ByteArray) : (ps.map (·.data.toList)).map (fun q => Value.string ⟨q.toArray⟩) = ps.map Value.string := by
  rw [List.map_map]
  apply List.map_congr_left
  intro x _
  show Value.string ⟨x.data.toList.toArray⟩ = Value.string x
  rw [mk_data]
theorem fields_any (l : List UInt8) (w : World) (hl : l.length < 4294967281) :
    Calls Tryd.prog 30 #[.string ⟨l.toArray⟩, .func (.func 31) #[] #[]] w fun e w' => ∃ A, e = .returned (.slice (some ⟨A, 0, none⟩) (wordsS l).length (wordsS l).length) ∧ HeadsAt w' (some ⟨A, 0, none⟩) (wordsS l) ∧ Below w.heap.size w w' := by
  refine (Tryd.strings_FieldsFunc 31 #[] enters_space gapN ⟨l.toArray⟩ w (by rw [size_mk]; omega) (isSpace_at w)).mono ?_
  have e := fields_words ⟨l.toArray⟩
  rw [show (⟨l.toArray⟩ : ByteArray).data.toList = l by simp] at e
  have e1 : (Lib.goFieldsP gapN ⟨l.toArray⟩).length = (wordsS l).length := by rw [← e, List.length_map]
  rintro r w' ⟨A, rfl, _, hown, hB⟩
  refine ⟨A, by rw [e1], ?_, hB⟩
  rw [e1, ← mk_lists, e] at hown
  exact heads_own hown
theorem splitS_any (l : List UInt8) (w : World) (henv : Env w) (hl : l.length < 4294967281) :
    Calls Tryd.prog 19 #[.string ⟨l.toArray⟩, .string ⟨#[59]⟩] w fun e w' => ∃ (ao : Option Addr) (cap : Nat) (ps : List (List UInt8)), e = .returned (.slice ao ps.length cap) ∧ ps = parts 59 l ∧ HeadsAt w' ao ps ∧ Below w.heap.size w w' := by
  obtain ⟨⟨m, hm⟩, _⟩ := henv
  refine (Tryd.strings_Split ⟨l.toArray⟩ ⟨#[59]⟩ m w (by rw [size_mk]; omega) hm (by decide)).mono ?_
  have e := parts_split ⟨l.toArray⟩ 59
  have e2 := parts_len 59 ⟨l.toArray⟩
  rw [show (⟨l.toArray⟩ : ByteArray).data.toList = l by simp] at e
  rintro r w' ⟨rfl, rfl⟩
  refine ⟨some ⟨w.heap.size, 0, none⟩, Lib.countB ⟨l.toArray⟩ ⟨#[59]⟩ + 1, parts 59 l, ?_, rfl, ?_, below_new _ _⟩
  · rw [← e, List.length_map, e2]
  · rw [← mk_lists, e]
    exact heads_new w _ _

theorem heads_tail {w : World} {A : Nat} {n : List UInt8} {ws : List (List UInt8)} (h : HeadsAt w (some ⟨A, 0, none⟩) (n :: ws)) : HeadsAt w (some ⟨A, 1, none⟩) ws := by
  intro k hk
  obtain ⟨b, off, h1, h2⟩ := h (k + 1) (by simp; omega)
  cases h1
  refine ⟨A, 1, rfl, ?_⟩
  rw [show 1 + k = 0 + (k + 1) by omega, h2]
  rfl
theorem heads_nil (w : World) (ao : Option Addr) : HeadsAt w ao [] := fun k h => by simp at h

set_option maxHeartbeats 1000000 in
theorem directive_any (ao : Option Addr) (ps : List (List UInt8)) (cap : Nat) (name : List UInt8) (w : World) (hq : HeadsAt w ao ps) (hl : ps.length < 4294967299) (hz : ∀ h ∈ ps, h.length < 4294967281) :
    Calls Tryd.prog 20 #[.slice ao ps.length cap, .string ⟨name.toArray⟩] w fun e w' => ∃ (ao' : Option Addr) (cap' : Nat) (ws : List (List UInt8)), e = .returned (.tuple #[.slice ao' ws.length cap', .bool (dirP name ps).isSome]) ∧ ws = (dirP name ps).getD [] ∧ HeadsAt w' ao' ws ∧ Below w.heap.size w w' := by
  have HQ := hide hq
  have HZ := hide hz
  clear hq hz
  go_enter Tryd.func20, Tryd.ntmps20
  go_wp2_with fail
  go_loopw [11] (fun i W => ∃ k : Nat, k ≤ ps.length ∧ i = .int .i64 k ∧ Hid (dirP name ps = dirP name (ps.drop k)) ∧ Hid (Below w.heap.size w W)) (fun i _ => ps.length - (intOf i).toNat)
  case atStart => exact ⟨0, Nat.zero_le _, rfl, rfl, Below.refl _ _⟩
  case round =>
    obtain ⟨k, hk, rfl, hd, hB⟩ := hrel
    by_cases hlt : k < ps.length
    · obtain ⟨g, off, rfl, hc⟩ := HQ.out.keep hB.out k hlt
      have hlI : (k : Int) < (ps.length : Int) := by omega
      have hzk := HZ.out ps[k] (List.getElem_mem hlt)
      have HC : Hid (ps.drop k = ps[k] :: ps.drop (k + 1)) := List.drop_eq_getElem_cons hlt
      generalize hpk : ps[k] = pk at *
      clear hpk
      go_wp2_with fail
      refine (fields_any pk _ hzk).mono ?_
      rintro e w1 ⟨A, rfl, hH, hb1⟩
      have B1 := hide (hB.out.trans (hb1.mono hB.out.size))
      have zc := words_count pk
      have zl := words_le pk
      clear hb1 hB
      cases hw : wordsS pk with
      | nil =>
        have HN : Hid (dirP name ps = dirP name (ps.drop (k + 1))) := by unfold Hid; rw [hd.out, HC.out, dirP_nil hw]
        clear hw hd HC hH zc zl
        go_wp2_with fail
        exact ⟨⟨k + 1, by omega, by go_num, HN, B1⟩, by simp [intOf]; omega⟩
      | cons n ws =>
        rw [hw] at hH zc zl
        obtain ⟨b', o', hA, hc0⟩ := hH 0 (by simp)
        cases hA
        have T1 := hide (heads_tail hH)
        have hn := zl n (List.mem_cons_self ..)
        simp only [List.length_cons] at zc
        clear zl hH hc
        simp only [List.getElem_cons_zero, Nat.zero_add] at hc0
        go_wp2_with fail
        refine (lower_any n _ (by omega)).mono ?_
        rintro e w2 ⟨rfl, hb2⟩
        have B2 := hide (B1.out.trans (hb2.mono B1.out.size))
        have T2 := hide (T1.out.keep hb2)
        clear hb2 T1 B1 hc0
        by_cases he : lowerS n = name
        · have HY : Hid (dirP name ps = some ws) := by unfold Hid; rw [hd.out, HC.out, dirP_yes hw he]
          have hb : (lowerS n == name) = true := beq_iff_eq.2 he
          clear he hw hd HC
          cases ws with
          | nil =>
            go_wp2_with fail
            go_ret2
            rw [HY.out]
            exact ⟨some ⟨A, 0, none⟩, 0, [], rfl, rfl, heads_nil _ _, B2.out⟩
          | cons x xs =>
            go_wp2_with fail
            go_ret2
            rw [HY.out]
            exact ⟨some ⟨A, 1, none⟩, (x :: xs).length, x :: xs, rfl, rfl, T2.out, B2.out⟩
        · have HN : Hid (dirP name ps = dirP name (ps.drop (k + 1))) := by unfold Hid; rw [hd.out, HC.out, dirP_no hw he]
          have hb : (lowerS n == name) = false := beq_eq_false_iff_ne.2 he
          clear he hw hd HC
          go_wp2_with fail
          exact ⟨⟨k + 1, by omega, by go_num, HN, B2⟩, by simp [intOf]; omega⟩
    · have HN : Hid (dirP name ps = none) := by unfold Hid; rw [hd.out, List.drop_eq_nil_of_le (by omega)]; rfl
      clear hd
      go_wp2_with fail
      go_ret2
      rw [HN.out]
      exact ⟨none, 0, [], rfl, rfl, heads_nil _ _, hB.out⟩

theorem src_some {l : List UInt8} {ws : List (List UInt8)} (h : srcP (parts 59 l) = some ws) : sourcesS l = some (ws.map lowerS) := by rw [src_low, h]; rfl
theorem src_none {l : List UInt8} (h : srcP (parts 59 l) = none) : sourcesS l = none := by rw [src_low, h]; rfl
set_option maxHeartbeats 2000000 in
theorem cspSources_any (l : List UInt8) (w : World) (henv : Env w) (hl : l.length < 4294967281) :
    Calls Tryd.prog 11 #[.string ⟨l.toArray⟩] w fun r w' => ∃ (ao : Option Addr) (cap : Nat) (ps : List (List UInt8)), r = .returned (.tuple #[.slice ao ps.length cap, .bool (sourcesS l).isSome]) ∧ ps = (sourcesS l).getD [] ∧ HeadsAt w' ao ps ∧ Below w.heap.size w w' := by
  obtain ⟨i0, hi, hz0, hz1, hz2⟩ := info_parts infoS
  have hpc := parts_count 59 l
  have HPL := hide (parts_le 59 l)
  go_enter Tryd.func11, Tryd.ntmps11
  go_wp2_with fail
  refine (splitS_any l w henv hl).mono ?_
  rintro e w1 ⟨ad, cd, ds, rfl, hds, hD, hb1⟩
  have HS := hide (fun ws => src_some (l := l) (ws := ws))
  have HN := hide (src_none (l := l))
  rw [← hds] at hpc HPL HS HN
  have HZ : Hid (∀ h ∈ ds, h.length < 4294967281) := fun h hh => by have := HPL.out h hh; omega
  have HD := hide hD
  have B1 := hide hb1
  clear hds hb1 HPL hD henv
  have C1 := hide (fun (name : List UInt8) W (h : HeadsAt W ad ds) => directive_any ad ds cd name W h (by omega) HZ.out)
  have KK : Hid (∀ (ws : List (List UInt8)) (aw : Option Addr) (cw : Nat) (W : World), srcP ds = some ws → HeadsAt W aw ws → Below w.heap.size w W → Hid (HeadsAt W aw ws) ∧ Hid (Below w.heap.size w W) ∧ Hid (sourcesS l = some (ws.map lowerS)) ∧ ws.length < 4294967281 ∧ Hid (∀ x ∈ ws, x.length < 4294967281)) := by
    intro ws aw cw W hs hH hB
    have hx : ws.length < 4294967281 ∧ ∀ x ∈ ws, x.length < 4294967281 := by
      unfold srcP at hs
      cases hd : dirP scriptSrc ds with
      | some vs => rw [hd] at hs; cases hs; exact dirP_len hd HZ.out
      | none => rw [hd] at hs; exact dirP_len hs HZ.out
    exact ⟨hH, hB, HS.out ws hs, hx.1, hx.2⟩
  clear HZ HS hpc
  go_wp2_with fail
  refine (C1.out scriptSrc _ HD.out).mono ?_
  rintro e w2 ⟨a2, c2, ws, rfl, hws, hH, hb2⟩
  have B2 := hide (B1.out.trans (hb2.mono B1.out.size))
  have HD2 := hide (HD.out.keep hb2)
  have H2 := hide hH
  clear hb2 hH HD B1
  have HSrc : Hid (srcP ds = match dirP scriptSrc ds with | some ws => some ws | none => dirP defaultSrc ds) := rfl
  have HW := hide hws
  clear hws
  go_upto_if 18 with fail
  go_cut [5, 6] (fun v b W => ∃ (aw : Option Addr) (cw : Nat) (vs : List (List UInt8)), v = .slice aw vs.length cw ∧ b = .bool (srcP ds).isSome ∧ Hid (vs = (srcP ds).getD []) ∧ Hid (HeadsAt W aw vs) ∧ Hid (Below w.heap.size w W))
  case first => as_aux_lemma =>
    clear KK HN
    cases hd : dirP scriptSrc ds with
    | some vs =>
      have HE : Hid (srcP ds = some vs) := by unfold Hid; rw [HSrc.out, hd]
      have hE : (srcP ds).isSome = true := by rw [HE.out]; rfl
      have HV : Hid (ws = vs) := by unfold Hid; rw [HW.out, hd, Option.getD_some]
      clear hd HW HSrc
      go_wp2_with fail
      go_meet
      case rel => exact ⟨a2, c2, ws, rfl, by rw [HE.out, Option.isSome_some], by unfold Hid; rw [HE.out]; exact HV.out, H2, B2⟩
    | none =>
      have HE : Hid (srcP ds = dirP defaultSrc ds) := by unfold Hid; rw [HSrc.out, hd]
      clear hd HW HSrc
      go_wp2_with fail
      refine (C1.out defaultSrc _ HD2.out).mono ?_
      rintro e w3 ⟨a3, c3, vs, rfl, hvs, hH, hb3⟩
      have B3 := hide (B2.out.trans (hb3.mono B2.out.size))
      have H3 := hide hH
      have HV := hide hvs
      clear hb3 hH hvs
      go_wp2_with fail
      go_meet
      case rel => exact ⟨a3, c3, vs, rfl, by rw [HE.out], by unfold Hid; rw [HE.out]; exact HV.out, H3, B3⟩
  case rest =>
  obtain ⟨aw, cw, vs, rfl, rfl, HV, HH, HB⟩ := hcut
  clear C1 HSrc HW H2 B2 HD2
  cases hs : srcP ds with
  | none =>
    have HR := hide (HN.out hs)
    go_wp2_with fail
    go_ret2
    rw [HR.out]
    exact ⟨none, 0, [], rfl, rfl, heads_nil _ _, HB.out⟩
  | some us =>
    have hv : vs = us := by rw [HV.out, hs]; rfl
    subst hv
    obtain ⟨_, _, HR, hz, HZ⟩ := KK.out vs aw cw wc hs HH.out HB.out
    clear KK HV hs HN
    simp only [Option.isSome_some]
    go_wp2_with fail
    go_loopw [7, 28] (fun nv iv W => ∃ (k : Nat) (qs : List (List UInt8)) (ao' : Option Addr) (cv : Nat), k ≤ vs.length ∧ iv = .int .i64 k ∧ nv = .slice ao' qs.length cv ∧ qs.length ≤ k ∧ Hid (qs = (vs.take k).map lowerS) ∧
      Hid (W.ownsRow wc.heap.size 9 1 (.slice ao' qs.length cv) qs.length (qs.map (fun q => Value.string ⟨q.toArray⟩))) ∧ Hid (Below wc.heap.size wc W)) (fun _ iv _ => vs.length - (intOf iv).toNat)
    case atStart => exact ⟨0, [], none, 0, Nat.zero_le _, rfl, rfl, Nat.le_refl _, rfl, World.ownsRow_nil _ _ _ _, Below.refl _ _⟩
    case round =>
      obtain ⟨k, qs, ao', cv, hk, rfl, rfl, hqk, HQ1, hown, hB⟩ := hrel
      have hsize := hB.out.size
      by_cases hlt : k < vs.length
      · obtain ⟨g, off, rfl, hcell⟩ := HH.out.keep hB.out k hlt
        have hlI : (k : Int) < (vs.length : Int) := by omega
        have hpl := HZ.out vs[k] (List.getElem_mem hlt)
        have HBs : Hid (∀ j, (Value.slice ao' qs.length cv).ownBlock = some j → wc.heap.size ≤ j) := fun j hj => owns_base hown.out j hj
        have HQ' : Hid (qs ++ [lowerS vs[k]] = (vs.take (k + 1)).map lowerS) := by unfold Hid; rw [HQ1.out, List.take_succ_eq_append_getElem hlt, List.map_append]; rfl
        clear HQ1
        go_wp2_with fail
        refine (lower_any vs[k] _ (by omega)).mono ?_
        rintro e w3 ⟨rfl, hb3⟩
        have B3 := hide (hB.out.trans (hb3.mono hB.out.size))
        have hown3 := owns_below hown.out hb3
        have hsize3 := B3.out.size
        clear hb3 hB hown
        generalize lowerS vs[k] = lo at *
        go_wp2_with (at_builtin; refine wpList_append_own _ rfl _ _ 24 rfl wc.heap.size 9 i0 (.string ByteArray.empty) 1 16 Tryd.underlying24 hi hz0 hz1 hz2 rfl (by decide) _ _ _ rfl (hown3.alloc _) ⟨w3.heap.size, 0, none⟩ 1 1 [.string ⟨lo.toArray⟩] rfl rfl (cell_one_new _ _ _) (fun x hx => by simp at hx; subst hx; rfl) (by unfold maxLen; omega) (by omega) (by simp; omega) ?_; intro v' w4 hown' hgrow4 hnil4)
        obtain ⟨ao2, cv2, hv2, hown2⟩ := texts_roundB hown'
        have hq1 : (qs ++ [lo]).length ≤ k + 1 := by rw [List.length_append, List.length_singleton]; omega
        refine ⟨⟨k + 1, qs ++ [lo], ao2, cv2, by omega, by go_num, hv2, hq1, HQ', hown2, hide (Below.trans (B3.out.alloc hsize3 _) (Below.grown (Below.refl _ _) hgrow4 (by simp; omega) HBs.out))⟩, by simp [intOf]; omega⟩
      · have HS : Hid (vs.map lowerS = qs) := by unfold Hid; rw [HQ1.out, List.take_of_length_le (by omega)]
        clear HQ1
        go_wp2_with fail
        go_ret2
        rw [HR.out, HS.out]
        exact ⟨ao', cv, qs, rfl, rfl, heads_own hown.out, HB.out.trans (hB.out.mono HB.out.size)⟩
end Go.Proofs.YtmepjaepggomjaaDoor
