/- The walk over moatref3.Pairs. -/
import Derived.Test.YtfbalmamhcbojaaDoorV8
import Derived.Test.YtfbalmamhcbojaaDoorStep
namespace Go.Proofs.YtfbalmamhcbojaaDoor
open Go.RowKit Go.Proofs.Url

theorem cut_at {t : List UInt8} {j : Nat} (h : j < t.length) (hf : ∀ x ∈ t.take j, x ≠ 61) (he : t[j] = 61) : Lib.cut t [61] = (t.take j, t.drop (j + 1), true) := by
  have e : t = t.take j ++ 61 :: t.drop (j + 1) := by
    have h2 := List.take_append_drop j t
    rw [List.drop_eq_getElem_cons h, he] at h2
    exact h2.symm
  have := cutc_app 61 (t.take j) (t.drop (j + 1)) hf
  rw [← e] at this; exact this

def resT (s : ByteArray) : ByteArray := ⟨(trimS s.data.toList).toArray⟩
theorem refTrimB_any (s : ByteArray) (w : World) (hs : s.size < 4294967281) :
    Calls Tryd.prog 35 #[.string s] w fun e w' => e = .returned (.string (resT s)) ∧ w' = w := by
  have h := refTrim_any s.data.toList w (by rw [len_eq]; exact hs)
  rw [mk_data] at h; exact h

set_option maxHeartbeats 4000000 in
theorem refPairs_any (l : List UInt8) (w : World) (hl : l.length < 4294967281) :
    Calls Tryd.prog 16 #[.string ⟨l.toArray⟩] w fun e w' => ∃ (ao : Option Addr) (cap : Nat), e = .returned (.slice ao (pairsS l).length cap) ∧
      w'.ownsRow w.heap.size 36 2 (.slice ao (pairsS l).length cap) (pairsS l).length ((pairsS l).flatMap pairV) ∧ Below w.heap.size w w' := by
  obtain ⟨i0, hi, hz0, hz1, hz2⟩ := info_parts infoP
  have hcount := parts_count 59 l
  have HL := hide (parts_le 59 l)
  have HIt : Hid (pairsS l = (((parts 59 l).map trimS).filter (fun t => !t.isEmpty)).map pairOf) := rfl
  go_enter Tryd.func16, Tryd.ntmps16
  go_wp2_with fail
  refine (cut_texts 59 l _ hl).mono ?_
  rintro e w1 ⟨ao, cap, ps, rfl, hps, hcap, hT, hb1⟩
  rw [← hps] at hcount HL HIt
  have HT := hide hT
  have B1 := hide hb1
  clear hT hb1 hps
  go_wp2_with fail
  go_loopw [4, 5] (fun nv iv W => ∃ (k : Nat) (qs : List (List UInt8 × List UInt8)) (ao' : Option Addr) (cv : Nat), k ≤ ps.length ∧ iv = .int .i64 k ∧ nv = .slice ao' qs.length cv ∧ qs.length ≤ k ∧ Hid (qs = (gath trimS ps k).map pairOf) ∧
      Hid (W.ownsRow w1.heap.size 36 2 (.slice ao' qs.length cv) qs.length (qs.flatMap pairV)) ∧ Hid (Below w1.heap.size w1 W)) (fun _ iv _ => ps.length - (intOf iv).toNat)
  case atStart => exact ⟨0, [], none, 0, Nat.zero_le _, rfl, rfl, Nat.le_refl _, rfl, World.ownsRow_nil _ _ _ _, Below.refl _ _⟩
  case round =>
    obtain ⟨k, qs, ao', cv, hk, rfl, rfl, hqk, HQ, hown, hB⟩ := hrel
    have hsize := hB.out.size
    by_cases hlt : k < ps.length
    · obtain ⟨g, rfl, hcell⟩ := texts_cell (HT.out.keep hB.out) k hlt
      have hlI : (k : Int) < (ps.length : Int) := by omega
      have hpl := HL.out ps[k] (List.getElem_mem hlt)
      have hpt := trimS_len ps[k]
      by_cases he : trimS ps[k] = []
      · have HE := hide he
        have HQ' : Hid (qs = (gath trimS ps (k + 1)).map pairOf) := by unfold Hid; rw [gath_skip _ ps k hlt he]; exact HQ.out
        clear he HQ
        go_wp2_with fail
        refine (refTrim_any ps[k] _ (by omega)).mono ?_
        rintro e w2 ⟨rfl, rfl⟩
        rw [HE.out]
        go_wp2_with fail
        refine ⟨⟨k + 1, qs, ao', cv, by omega, by go_num, rfl, by omega, HQ', hown, hB⟩, by simp [intOf]; omega⟩
      · have hem : (trimS ps[k]).isEmpty = false := by cases e : trimS ps[k]; exact absurd e he; rfl
        have HQ' : Hid (qs ++ [pairOf (trimS ps[k])] = (gath trimS ps (k + 1)).map pairOf) := by unfold Hid; rw [gath_add _ ps k hlt hem, List.map_append, ← HQ.out]; rfl
        have HBs : Hid (∀ j, (Value.slice ao' qs.length cv).ownBlock = some j → w1.heap.size ≤ j) := fun j hj => owns_base hown.out j hj
        clear HQ he
        go_wp2_with fail
        refine (refTrim_any ps[k] _ (by omega)).mono ?_
        rintro e w2 ⟨rfl, rfl⟩
        have htl : (trimS ps[k]).length ≤ l.length := by omega
        generalize trimS ps[k] = t at *
        go_wp2_with fail
        go_loop [7] (fun jv => ∃ j : Nat, j ≤ t.length ∧ jv = .int .i64 j ∧ Hid (∀ x ∈ t.take j, x ≠ 61)) (fun jv => t.length - (intOf jv).toNat)
        case atStart => exact ⟨0, Nat.zero_le _, rfl, by intro x hx; simp at hx⟩
        case round =>
          obtain ⟨j, hj, rfl, hfree⟩ := hrel
          by_cases hjl : j < t.length
          · have hjI : (j : Int) < (t.length : Int) := by omega
            have hjB : j < (⟨t.toArray⟩ : ByteArray).size := by rw [size_mk]; exact hjl
            by_cases h61 : t[j] = 61
            · have hb : (((⟨t.toArray⟩ : ByteArray)[j].toNat : Int) != 61) = false := by
                rw [show (⟨t.toArray⟩ : ByteArray)[j] = t[j] from rfl, h61]; rfl
              obtain ⟨T1, hT1⟩ : ∃ T1, T1 = t.take j := ⟨_, rfl⟩
              obtain ⟨T2, hT2⟩ : ∃ T2, T2 = t.drop (j + 1) := ⟨_, rfl⟩
              have HC : Hid (pairOf t = (lowerS (trimS T1), trimS T2)) := by unfold Hid pairOf; rw [cut_at hjl hfree.out h61, hT1, hT2]
              have l1 : T1.length ≤ t.length := by rw [hT1, List.length_take]; omega
              obtain ⟨J, hJ⟩ : ∃ J, J = j + 1 := ⟨_, rfl⟩
              have hmin : min (IntKind.i64.wrap ((j : Int) + 1)) (t.length : Int) = (J : Int) := by
                rw [show (j : Int) + 1 = ((j + 1 : Nat) : Int) by omega, wrap_i64_small _ (by omega)]; omega
              have hJI : (J : Int) ≤ (t.length : Int) := by omega
              obtain ⟨X1, hX1⟩ : ∃ X1, (⟨t.toArray⟩ : ByteArray).extract 0 j = X1 := ⟨_, rfl⟩
              obtain ⟨X2, hX2⟩ : ∃ X2, (⟨t.toArray⟩ : ByteArray).extract J t.length = X2 := ⟨_, rfl⟩
              have e1 : X1.data.toList = T1 := by rw [← hX1, hT1, Lib.extract_from_zero]
              have e2 : X2.data.toList = T2 := by
                have e := drop_end (⟨t.toArray⟩ : ByteArray) (j + 1)
                rw [size_mk] at e
                rw [← hX2, hT2, hJ]; exact e
              have s1 : X1.size ≤ t.length := by rw [← len_eq, e1]; exact l1
              have s2 : X2.size ≤ t.length := by rw [← len_eq, e2, hT2, List.length_drop]; omega
              clear hT1 hT2 hJ h61
              obtain ⟨ky, hky⟩ : ∃ ky, ky = trimS T1 := ⟨_, rfl⟩
              obtain ⟨va, hva⟩ : ∃ va, va = trimS T2 := ⟨_, rfl⟩
              have hk1 : ky.length ≤ l.length := by rw [hky]; have := trimS_len T1; omega
              have r1 : resT X1 = ⟨ky.toArray⟩ := by rw [hky, ← e1]; rfl
              have r2 : resT X2 = ⟨va.toArray⟩ := by rw [hva, ← e2]; rfl
              rw [HC.out, ← hky, ← hva] at HQ'
              have CT : Hid (∀ X W, X.size ≤ t.length → Calls Tryd.prog 35 #[.string X] W fun e w' => e = .returned (.string (resT X)) ∧ w' = W) := fun X W h => refTrimB_any X W (by omega)
              have C3 : Hid (∀ W, Calls Tryd.prog 20 #[.string ⟨ky.toArray⟩] W fun e w' => e = .returned (.string ⟨(lowerS ky).toArray⟩) ∧ Below W.heap.size W w') := fun W => refLower_any ky W (by omega)
              generalize lowerS ky = lo at *
              have f2 : Hid (∀ u ∈ [Value.string ⟨lo.toArray⟩, Value.string ⟨va.toArray⟩], u.oneCell' = true) := fun x hx => by simp at hx; rcases hx with rfl | rfl <;> rfl
              have f3 : Hid (qs.length + 1 ≤ maxLen) := by unfold Hid maxLen; omega
              have f4 : Hid ((qs.length + 1) * 32 ≤ 140737488355328) := by unfold Hid; omega
              clear hky hva e1 e2 l1 HC hk1 hfree
              go_wp2_with fail
              go_region_law (first
                | (refine step_append_own rfl (.tmp 35) (.tmp 50) 34 rfl w1.heap.size 36 i0 _ 2 32 Tryd.underlying34 hi hz0 hz1 hz2 rfl (by decide) (.slice ao' qs.length cv) qs.length (qs.flatMap pairV) (by simp [Act.eval]) ((owns_below (owns_drew hown.out) hb4).alloc _) ⟨_, 0, none⟩ 1 1 [.string ⟨lo.toArray⟩, .string ⟨va.toArray⟩] (by simp [Act.eval]) rfl (cell_two_new _ _ _ _) f2.out f3.out f4.out ?_ ?_; (have := hb4.size; simp at this ⊢; omega); intro v' w6 hown' hgrow6)
                | (go_simp; go_at_call 20; refine (C3.out _).mono ?_; rintro e w4 ⟨rfl, hb4⟩)
                | (go_simp; go_at_call 35; refine (CT.out _ _ (by assumption)).mono ?_; rintro e w3 ⟨rfl, rfl⟩))
              all_goals go_wp2_with fail
              all_goals (
                have B4 := hB.out.drew.trans (hb4.mono hsize)
                have hz4 := B4.size
                have B6 : Below w1.heap.size w1 w6 := Below.trans (B4.alloc hz4 _) (Below.grown (Below.refl _ _) hgrow6 (by simp; omega) HBs.out)
                obtain ⟨ao2, cv2, hv2, hown3⟩ := pairs_roundB (x := (lo, va)) hown'
                have hq1 : (qs ++ [(lo, va)]).length ≤ k + 1 := by rw [List.length_append, List.length_singleton]; omega
                exact ⟨⟨k + 1, qs ++ [(lo, va)], ao2, cv2, by omega, by go_num, hv2, hq1, HQ', hown3, B6⟩, by simp [intOf]; omega⟩)
            · have hb : (((⟨t.toArray⟩ : ByteArray)[j].toNat : Int) != 61) = true := by
                rw [show (⟨t.toArray⟩ : ByteArray)[j] = t[j] from rfl, bne_iff_ne]
                intro e
                exact h61 (UInt8.toNat_inj.1 (by show t[j].toNat = 61; omega))
              have HF : Hid (∀ x ∈ t.take (j + 1), x ≠ 61) := by
                intro x hx
                rw [List.take_succ_eq_append_getElem hjl, List.mem_append, List.mem_singleton] at hx
                rcases hx with hx | rfl
                · exact hfree.out x hx
                · exact h61
              clear h61 hfree
              go_wp2_with fail
              go_round
              case rel => exact ⟨j + 1, by omega, by go_num, HF⟩
              case measure => simp [intOf]; omega
          · have hjj : j = t.length := by omega
            obtain ⟨T1, hT1⟩ : ∃ T1, T1 = t := ⟨_, rfl⟩
            obtain ⟨T2, hT2⟩ : ∃ T2, T2 = ([] : List UInt8) := ⟨_, rfl⟩
            have hfr : ∀ x ∈ t, x ≠ 61 := by have := hfree.out; rwa [List.take_of_length_le (by omega)] at this
            have HC : Hid (pairOf t = (lowerS (trimS T1), trimS T2)) := by unfold Hid pairOf; rw [cutc_none 61 t hfr, hT1, hT2]
            have l1 : T1.length ≤ t.length := by rw [hT1]; exact Nat.le_refl _
            obtain ⟨J, hJ⟩ : ∃ J, J = t.length := ⟨_, rfl⟩
            have hmin : min (IntKind.i64.wrap ((j : Int) + 1)) (t.length : Int) = (J : Int) := by
              rw [show (j : Int) + 1 = ((j + 1 : Nat) : Int) by omega, wrap_i64_small _ (by omega)]; omega
            have hJI : (J : Int) ≤ (t.length : Int) := by omega
            obtain ⟨X1, hX1⟩ : ∃ X1, (⟨t.toArray⟩ : ByteArray).extract 0 j = X1 := ⟨_, rfl⟩
            obtain ⟨X2, hX2⟩ : ∃ X2, (⟨t.toArray⟩ : ByteArray).extract J t.length = X2 := ⟨_, rfl⟩
            have e1 : X1.data.toList = T1 := by rw [← hX1, hT1, Lib.extract_from_zero]; exact List.take_of_length_le (by show t.length ≤ j; omega)
            have e2 : X2.data.toList = T2 := by
              have e := drop_end (⟨t.toArray⟩ : ByteArray) t.length
              rw [size_mk] at e
              rw [← hX2, hT2, hJ, e]; exact List.drop_eq_nil_of_le (Nat.le_refl _)
            have s1 : X1.size ≤ t.length := by rw [← len_eq, e1]; exact l1
            have s2 : X2.size ≤ t.length := by rw [← len_eq, e2, hT2]; simp
            have hjn : ¬ (j : Int) < (t.length : Int) := by omega
            clear hT1 hT2 hJ hjj hfr
            obtain ⟨ky, hky⟩ : ∃ ky, ky = trimS T1 := ⟨_, rfl⟩
            obtain ⟨va, hva⟩ : ∃ va, va = trimS T2 := ⟨_, rfl⟩
            have hk1 : ky.length ≤ l.length := by rw [hky]; have := trimS_len T1; omega
            have r1 : resT X1 = ⟨ky.toArray⟩ := by rw [hky, ← e1]; rfl
            have r2 : resT X2 = ⟨va.toArray⟩ := by rw [hva, ← e2]; rfl
            rw [HC.out, ← hky, ← hva] at HQ'
            have CT : Hid (∀ X W, X.size ≤ t.length → Calls Tryd.prog 35 #[.string X] W fun e w' => e = .returned (.string (resT X)) ∧ w' = W) := fun X W h => refTrimB_any X W (by omega)
            have C3 : Hid (∀ W, Calls Tryd.prog 20 #[.string ⟨ky.toArray⟩] W fun e w' => e = .returned (.string ⟨(lowerS ky).toArray⟩) ∧ Below W.heap.size W w') := fun W => refLower_any ky W (by omega)
            generalize lowerS ky = lo at *
            have f2 : Hid (∀ u ∈ [Value.string ⟨lo.toArray⟩, Value.string ⟨va.toArray⟩], u.oneCell' = true) := fun x hx => by simp at hx; rcases hx with rfl | rfl <;> rfl
            have f3 : Hid (qs.length + 1 ≤ maxLen) := by unfold Hid maxLen; omega
            have f4 : Hid ((qs.length + 1) * 32 ≤ 140737488355328) := by unfold Hid; omega
            clear hky hva e1 e2 l1 HC hk1 hfree
            go_wp2_with fail
            go_region_law (first
              | (refine step_append_own rfl (.tmp 35) (.tmp 50) 34 rfl w1.heap.size 36 i0 _ 2 32 Tryd.underlying34 hi hz0 hz1 hz2 rfl (by decide) (.slice ao' qs.length cv) qs.length (qs.flatMap pairV) (by simp [Act.eval]) ((owns_below (owns_drew hown.out) hb4).alloc _) ⟨_, 0, none⟩ 1 1 [.string ⟨lo.toArray⟩, .string ⟨va.toArray⟩] (by simp [Act.eval]) rfl (cell_two_new _ _ _ _) f2.out f3.out f4.out ?_ ?_; (have := hb4.size; simp at this ⊢; omega); intro v' w6 hown' hgrow6)
              | (go_simp; go_at_call 20; refine (C3.out _).mono ?_; rintro e w4 ⟨rfl, hb4⟩)
              | (go_simp; go_at_call 35; refine (CT.out _ _ (by assumption)).mono ?_; rintro e w3 ⟨rfl, rfl⟩))
            all_goals go_wp2_with fail
            all_goals (
              have B4 := hB.out.drew.trans (hb4.mono hsize)
              have hz4 := B4.size
              have B6 : Below w1.heap.size w1 w6 := Below.trans (B4.alloc hz4 _) (Below.grown (Below.refl _ _) hgrow6 (by simp; omega) HBs.out)
              obtain ⟨ao2, cv2, hv2, hown3⟩ := pairs_roundB (x := (lo, va)) hown'
              have hq1 : (qs ++ [(lo, va)]).length ≤ k + 1 := by rw [List.length_append, List.length_singleton]; omega
              exact ⟨⟨k + 1, qs ++ [(lo, va)], ao2, cv2, by omega, by go_num, hv2, hq1, HQ', hown3, B6⟩, by simp [intOf]; omega⟩)
    · have HS : Hid (pairsS l = qs) := by unfold Hid; rw [HIt.out, HQ.out, gath_all _ ps k (by omega)]
      clear HQ
      go_wp2_with fail
      go_ret
      rw [HS.out]
      exact ⟨ao', cv, rfl, owns_low hown.out B1.out.size, B1.out.trans (hB.out.mono B1.out.size)⟩
end Go.Proofs.YtfbalmamhcbojaaDoor
