/- The walk over moatlaw4.SafeRows. -/
import Derived.Test.YtkfdipobpdhboaaH3
import Derived.Test.YtkfdipobpdhboaaRows5
import Derived.BigRegion
import Derived.Deep.DeepCutAuto
namespace Go.Proofs.Ytkfdipobpdhboaa
open Go.RowKit Go.Proofs.Url

theorem lits8 (a b c d e f g h : List UInt8) (r : Nat) (hr : r < 8) : [Value.string ⟨a.toArray⟩, Value.string ⟨b.toArray⟩, Value.string ⟨c.toArray⟩, Value.string ⟨d.toArray⟩, Value.string ⟨e.toArray⟩, Value.string ⟨f.toArray⟩, Value.string ⟨g.toArray⟩, Value.string ⟨h.toArray⟩][r] = .string ⟨([a, b, c, d, e, f, g, h].getD r []).toArray⟩ := by
  match r, hr with
  | 0, _ => rfl
  | 1, _ => rfl
  | 2, _ => rfl
  | 3, _ => rfl
  | 4, _ => rfl
  | 5, _ => rfl
  | 6, _ => rfl
  | 7, _ => rfl

set_option maxHeartbeats 4000000 in
set_option maxRecDepth 100000 in
theorem safeRows_walk (me : Int) (a0 : Option Addr) (len0 cap0 : Nat) (z : Nat → Int) (w : World) (hrow : RowI w a0 len0 z) :
    Calls Try.prog 5 #[.int .i64 me, .slice a0 len0 cap0] w fun e w' => e = .returned (.bool true) ∧ Below w.heap.size w w' := by
  obtain ⟨i0, hi, hz0, hz1, hz2⟩ := info_parts infoS
  by_cases h8 : 8 < (len0 : Int)
  · clear hrow
    go_enter Try.func5, Try.ntmps5
    go_wp2_with fail
    refine (awake4_any _).mono ?_
    rintro e w1 ⟨rfl, hb1⟩
    go_wp2_with fail
    go_ret
    exact ⟨rfl, hb1⟩
  have HRow := hide hrow
  clear hrow
  have h8' : len0 ≤ 8 := by omega
  obtain ⟨M, hM, hM8⟩ : ∃ M : Nat, low me 8 = (M : Int) ∧ M < 8 := by
    have a := low_nn me 8 (by decide)
    have b := low_lt me 8 (by decide)
    exact ⟨(low me 8).toNat, by omega, by omega⟩
  have HM := hide hM
  clear hM
  go_enter Try.func5, Try.ntmps5
  go_wp2_with fail
  refine (low_any _ _ _ (by decide) (by decide)).mono ?_
  rintro e w1 ⟨rfl, hw1⟩
  subst hw1
  rw [HM.out]
  go_wp2_with fail
  go_loopw [7, 8, 9] (fun hv fv iv W => ∃ (k : Nat) (qs : List (List UInt8)) (f : Bool) (ao : Option Addr) (cv : Nat), k ≤ len0 ∧ iv = .int .i64 k ∧ hv = .slice ao qs.length cv ∧ fv = .bool f ∧ qs.length ≤ k ∧ Hid (f = (decide (M < 3) && qs.all headS)) ∧ Hid (∀ h ∈ qs, h.length ≤ 16) ∧
      Hid (LitsAt W w1.heap.size rows8) ∧ Hid (W.ownsRow (w1.heap.size + 1) 9 1 (.slice ao qs.length cv) qs.length (qs.map (fun q => Value.string ⟨q.toArray⟩))) ∧ Hid (Below w1.heap.size w1 W) ∧ w1.heap.size + 1 ≤ W.heap.size) (fun _ _ iv _ => len0 - (intOf iv).toNat)
  case atStart =>
    refine ⟨0, [], _, none, 0, Nat.zero_le _, rfl, rfl, rfl, by simp, ?_, by intro h hh; simp at hh, lits_new _ rows8 _, World.ownsRow_nil _ _ _ _, (Below.refl _ _).alloc (Nat.le_refl _) _, by simp⟩
    unfold Hid
    rw [List.all_nil, Bool.and_true]
    exact decide_eq_decide.2 (by omega)
  case round =>
    obtain ⟨k, qs, f, ao, cv, hk, rfl, rfl, rfl, hql, HF, HL, hA, hown, hB, hsz⟩ := hrel
    by_cases hlt : k < len0
    · obtain ⟨b, off, rfl, hbw, hcell⟩ := HRow.out.keep hB.out k hlt
      have hlI : (k : Int) < (len0 : Int) := by omega
      go_wp2_with fail
      refine (low_any _ _ _ (by decide) (by decide)).mono ?_
      rintro e w2 ⟨rfl, hw2⟩
      subst hw2
      obtain ⟨K, hK, hK8⟩ : ∃ K : Nat, low (z k) 8 = (K : Int) ∧ K < 8 := by
        have a := low_nn (z k) 8 (by decide)
        have b := low_lt (z k) 8 (by decide)
        exact ⟨(low (z k) 8).toNat, by omega, by omega⟩
      rw [hK]
      clear hK hcell
      have hKI : (K : Int) < 8 := by omega
      have hcA := hA.out K hK8
      obtain ⟨r1, r2⟩ := rows8_ok ⟨K, hK8⟩
      simp only at r1 r2
      have HH := hide r1
      clear r1
      generalize rows8.getD K [] = hd at *
      have HBs : Hid (∀ j, (Value.slice ao qs.length cv).ownBlock = some j → w1.heap.size + 1 ≤ j) := fun j hj => owns_base hown.out j hj
      have hown1 := hown.out
      by_cases hK4 : K < 4
      · have hd4 : (K : Int) < 4 := by omega
        have HF' : Hid (f = (decide (M < 3) && (qs ++ [hd]).all headS)) := by unfold Hid; rw [HF.out, List.all_append, List.all_cons, HH.out, decide_eq_true hK4]; simp
        rw [decide_eq_true hK4] at HH
        clear hK4 HF
        cases f with
        | true =>
          go_wp2_with (at_builtin; refine wpList_append_own _ rfl _ _ 22 rfl (w1.heap.size + 1) 9 i0 (.string ByteArray.empty) 1 16 Try.underlying22 hi hz0 hz1 hz2 rfl (by decide) _ _ _ rfl (hown1.alloc _) ⟨w2.heap.size, 0, none⟩ 1 1 [.string ⟨hd.toArray⟩] rfl rfl (cell_one_new _ _ _) (fun x hx => by simp at hx; subst hx; rfl) (by unfold maxLen; omega) (by omega) (by simp; omega) ?_; intro v' w4 hown' hgrow4 hnil4; have B4 : Below (w1.heap.size + 1) w2 w4 := Below.trans ((Below.refl _ _).alloc (by omega) _) (Below.grown (Below.refl _ _) hgrow4 (by simp; omega) HBs.out); have hc4 : w4.cell? ⟨w1.heap.size, K, none⟩ = some (.string ⟨hd.toArray⟩) := by rw [B4.cell (p := ⟨w1.heap.size, K, none⟩) (by show w1.heap.size < w1.heap.size + 1; omega)]; exact hcA)
          refine (head_any hd _ (by omega)).mono ?_
          rintro e w5 ⟨rfl, hb5⟩
          rw [HH.out]
          obtain ⟨ao2, cv2, hv2, hown3⟩ := texts_roundB hown'
          have O5 := hide (owns_below hown3.out hb5)
          have hz4 := B4.size
          have hz5 := hb5.size
          have L5 := hide ((hA.out.keepB B4 (by omega)).keep hb5)
          have B5 := hide (hB.out.trans ((B4.mono (by omega)).trans (hb5.mono (by omega))))
          have hq1 : (qs ++ [hd]).length ≤ k + 1 := by rw [List.length_append, List.length_singleton]; omega
          have HL' : Hid (∀ h ∈ qs ++ [hd], h.length ≤ 16) := by
            intro x hx
            rw [List.mem_append, List.mem_singleton] at hx
            rcases hx with hx | rfl
            · exact HL.out x hx
            · exact r2
          have HV2 := hide hv2
          clear hv2 hb5 hown' hown3 hgrow4 hnil4 B4 hA hB hown hown1 hcA hc4
          go_wp2_with fail
          exact ⟨⟨k + 1, qs ++ [hd], _, ao2, cv2, by omega, by go_num, HV2.out, rfl, hq1, (by first | exact HF' | (rw [decide_eq_true (by omega)]; exact HF') | (rw [decide_eq_false (by omega)]; exact HF')), HL', L5, O5, B5, by omega⟩, by simp [intOf]; omega⟩
        | false =>
          go_wp2_with (at_builtin; refine wpList_append_own _ rfl _ _ 22 rfl (w1.heap.size + 1) 9 i0 (.string ByteArray.empty) 1 16 Try.underlying22 hi hz0 hz1 hz2 rfl (by decide) _ _ _ rfl (hown1.alloc _) ⟨w2.heap.size, 0, none⟩ 1 1 [.string ⟨hd.toArray⟩] rfl rfl (cell_one_new _ _ _) (fun x hx => by simp at hx; subst hx; rfl) (by unfold maxLen; omega) (by omega) (by simp; omega) ?_; intro v' w4 hown' hgrow4 hnil4; have B4 : Below (w1.heap.size + 1) w2 w4 := Below.trans ((Below.refl _ _).alloc (by omega) _) (Below.grown (Below.refl _ _) hgrow4 (by simp; omega) HBs.out); have hc4 : w4.cell? ⟨w1.heap.size, K, none⟩ = some (.string ⟨hd.toArray⟩) := by rw [B4.cell (p := ⟨w1.heap.size, K, none⟩) (by show w1.heap.size < w1.heap.size + 1; omega)]; exact hcA)
          refine (head_any hd _ (by omega)).mono ?_
          rintro e w5 ⟨rfl, hb5⟩
          rw [HH.out]
          obtain ⟨ao2, cv2, hv2, hown3⟩ := texts_roundB hown'
          have O5 := hide (owns_below hown3.out hb5)
          have hz4 := B4.size
          have hz5 := hb5.size
          have L5 := hide ((hA.out.keepB B4 (by omega)).keep hb5)
          have B5 := hide (hB.out.trans ((B4.mono (by omega)).trans (hb5.mono (by omega))))
          have hq1 : (qs ++ [hd]).length ≤ k + 1 := by rw [List.length_append, List.length_singleton]; omega
          have HL' : Hid (∀ h ∈ qs ++ [hd], h.length ≤ 16) := by
            intro x hx
            rw [List.mem_append, List.mem_singleton] at hx
            rcases hx with hx | rfl
            · exact HL.out x hx
            · exact r2
          have HV2 := hide hv2
          clear hv2 hb5 hown' hown3 hgrow4 hnil4 B4 hA hB hown hown1 hcA hc4
          go_wp2_with fail
          exact ⟨⟨k + 1, qs ++ [hd], _, ao2, cv2, by omega, by go_num, HV2.out, rfl, hq1, (by first | exact HF' | (rw [decide_eq_true (by omega)]; exact HF') | (rw [decide_eq_false (by omega)]; exact HF')), HL', L5, O5, B5, by omega⟩, by simp [intOf]; omega⟩
      · have hd4 : ¬ (K : Int) < 4 := by omega
        have HF' : Hid (false = (decide (M < 3) && (qs ++ [hd]).all headS)) := by unfold Hid; rw [List.all_append, List.all_cons, HH.out, decide_eq_false hK4]; simp
        rw [decide_eq_false hK4] at HH
        clear hK4 HF
        cases f with
        | true =>
          go_wp2_with (at_builtin; refine wpList_append_own _ rfl _ _ 22 rfl (w1.heap.size + 1) 9 i0 (.string ByteArray.empty) 1 16 Try.underlying22 hi hz0 hz1 hz2 rfl (by decide) _ _ _ rfl (hown1.alloc _) ⟨w2.heap.size, 0, none⟩ 1 1 [.string ⟨hd.toArray⟩] rfl rfl (cell_one_new _ _ _) (fun x hx => by simp at hx; subst hx; rfl) (by unfold maxLen; omega) (by omega) (by simp; omega) ?_; intro v' w4 hown' hgrow4 hnil4; have B4 : Below (w1.heap.size + 1) w2 w4 := Below.trans ((Below.refl _ _).alloc (by omega) _) (Below.grown (Below.refl _ _) hgrow4 (by simp; omega) HBs.out); have hc4 : w4.cell? ⟨w1.heap.size, K, none⟩ = some (.string ⟨hd.toArray⟩) := by rw [B4.cell (p := ⟨w1.heap.size, K, none⟩) (by show w1.heap.size < w1.heap.size + 1; omega)]; exact hcA)
          refine (head_any hd _ (by omega)).mono ?_
          rintro e w5 ⟨rfl, hb5⟩
          rw [HH.out]
          obtain ⟨ao2, cv2, hv2, hown3⟩ := texts_roundB hown'
          have O5 := hide (owns_below hown3.out hb5)
          have hz4 := B4.size
          have hz5 := hb5.size
          have L5 := hide ((hA.out.keepB B4 (by omega)).keep hb5)
          have B5 := hide (hB.out.trans ((B4.mono (by omega)).trans (hb5.mono (by omega))))
          have hq1 : (qs ++ [hd]).length ≤ k + 1 := by rw [List.length_append, List.length_singleton]; omega
          have HL' : Hid (∀ h ∈ qs ++ [hd], h.length ≤ 16) := by
            intro x hx
            rw [List.mem_append, List.mem_singleton] at hx
            rcases hx with hx | rfl
            · exact HL.out x hx
            · exact r2
          have HV2 := hide hv2
          clear hv2 hb5 hown' hown3 hgrow4 hnil4 B4 hA hB hown hown1 hcA hc4
          go_wp2_with fail
          exact ⟨⟨k + 1, qs ++ [hd], _, ao2, cv2, by omega, by go_num, HV2.out, rfl, hq1, (by first | exact HF' | (rw [decide_eq_true (by omega)]; exact HF') | (rw [decide_eq_false (by omega)]; exact HF')), HL', L5, O5, B5, by omega⟩, by simp [intOf]; omega⟩
        | false =>
          go_wp2_with (at_builtin; refine wpList_append_own _ rfl _ _ 22 rfl (w1.heap.size + 1) 9 i0 (.string ByteArray.empty) 1 16 Try.underlying22 hi hz0 hz1 hz2 rfl (by decide) _ _ _ rfl (hown1.alloc _) ⟨w2.heap.size, 0, none⟩ 1 1 [.string ⟨hd.toArray⟩] rfl rfl (cell_one_new _ _ _) (fun x hx => by simp at hx; subst hx; rfl) (by unfold maxLen; omega) (by omega) (by simp; omega) ?_; intro v' w4 hown' hgrow4 hnil4; have B4 : Below (w1.heap.size + 1) w2 w4 := Below.trans ((Below.refl _ _).alloc (by omega) _) (Below.grown (Below.refl _ _) hgrow4 (by simp; omega) HBs.out); have hc4 : w4.cell? ⟨w1.heap.size, K, none⟩ = some (.string ⟨hd.toArray⟩) := by rw [B4.cell (p := ⟨w1.heap.size, K, none⟩) (by show w1.heap.size < w1.heap.size + 1; omega)]; exact hcA)
          refine (head_any hd _ (by omega)).mono ?_
          rintro e w5 ⟨rfl, hb5⟩
          rw [HH.out]
          obtain ⟨ao2, cv2, hv2, hown3⟩ := texts_roundB hown'
          have O5 := hide (owns_below hown3.out hb5)
          have hz4 := B4.size
          have hz5 := hb5.size
          have L5 := hide ((hA.out.keepB B4 (by omega)).keep hb5)
          have B5 := hide (hB.out.trans ((B4.mono (by omega)).trans (hb5.mono (by omega))))
          have hq1 : (qs ++ [hd]).length ≤ k + 1 := by rw [List.length_append, List.length_singleton]; omega
          have HL' : Hid (∀ h ∈ qs ++ [hd], h.length ≤ 16) := by
            intro x hx
            rw [List.mem_append, List.mem_singleton] at hx
            rcases hx with hx | rfl
            · exact HL.out x hx
            · exact r2
          have HV2 := hide hv2
          clear hv2 hb5 hown' hown3 hgrow4 hnil4 B4 hA hB hown hown1 hcA hc4
          go_wp2_with fail
          exact ⟨⟨k + 1, qs ++ [hd], _, ao2, cv2, by omega, by go_num, HV2.out, rfl, hq1, (by first | exact HF' | (rw [decide_eq_true (by omega)]; exact HF') | (rw [decide_eq_false (by omega)]; exact HF')), HL', L5, O5, B5, by omega⟩, by simp [intOf]; omega⟩
    · have H0 := hide (heads_own hown.out)
      have hn8 : [Value.string ⟨#[71, 69, 84]⟩, Value.string ⟨#[72, 69, 65, 68]⟩, Value.string ⟨#[80, 79, 83, 84]⟩, Value.string ⟨#[80, 85, 84]⟩, Value.string ⟨#[68, 69, 76, 69, 84, 69]⟩, Value.string ⟨#[80, 65, 84, 67, 72]⟩, Value.string ⟨#[103, 101, 116]⟩, Value.string ⟨#[84, 82, 65, 67, 69]⟩][M] = .string ⟨(names8.getD M []).toArray⟩ := lits8 mGET mHEAD mPOST mPUT mDELETE mPATCH [103, 101, 116] [84, 82, 65, 67, 69] M hM8
      obtain ⟨n1, n2, n3⟩ := names8_ok ⟨M, hM8⟩
      simp only at n1 n2 n3
      have hMI : (M : Int) < 8 := by omega
      have e3 : decide (M < 3) = decide ((M : Int) < 3) := decide_eq_decide.2 (by omega)
      have e6 : decide (M < 6) = decide ((M : Int) < 6) := decide_eq_decide.2 (by omega)
      have HS : Hid (simpleS (names8.getD M []) qs = f) := by unfold Hid simpleS; rw [n1]; exact HF.out.symm
      rw [e3] at n1
      rw [e6] at n2
      have N1 := hide n1
      have N2 := hide n2
      generalize names8.getD M [] = nm at *
      clear n1 n2 e3 e6 hA HF HRow
      go_wp2_with fail
      refine (simple_any nm ao qs cv _ (H0.out.keep ((Below.refl _ _).alloc (Nat.le_refl _) _)) (by omega) (fun h hh => by have := HL.out h hh; omega)).mono ?_
      rintro e w2 ⟨rfl, hb2⟩
      rw [HS.out]
      have B2 := hide ((hB.out.alloc hB.out.size _).trans (hb2.mono (by have := hB.out.size; simp; omega)))
      clear hb2
      have hff : (f == f) = true := by simp
      go_wp2_with fail
      refine (methodB_any nm _).mono ?_
      rintro e w3 ⟨rfl, hb3⟩
      rw [N1.out]
      have B3 := hide (B2.out.trans (hb3.mono B2.out.size))
      clear hb3
      have h33 : (decide ((M : Int) < 3) == decide ((M : Int) < 3)) = true := by simp
      go_wp2_with fail
      refine (knownB_any nm _).mono ?_
      rintro e w4 ⟨rfl, hb4⟩
      rw [N2.out]
      have B4 := hide (B3.out.trans (hb4.mono B3.out.size))
      clear hb4
      have h66 : (decide ((M : Int) < 6) == decide ((M : Int) < 6)) = true := by simp
      go_wp2_with fail
      refine (awake4_any _).mono ?_
      rintro e w5 ⟨rfl, hb5⟩
      have B5 := hide (B4.out.trans (hb5.mono B4.out.size))
      clear hb5
      go_wp2_with fail
      go_ret
      exact ⟨rfl, B5.out⟩
end Go.Proofs.Ytkfdipobpdhboaa
