/- The walks over package cors: lowered, headsLet. -/
import Derived.Test.YthljekiomfcjiaaJ1
import Derived.Test.YthljekiomfcjiaaRows5
namespace Go.Proofs.Ythljekiomfcjiaa
open Go.RowKit Go.Proofs.Url

theorem inLow_map (al : List (List UInt8)) (h : List UInt8) : (al.map lowerS).contains (lowerS h) = inLow al h := by
  unfold inLow
  induction al with
  | nil => rfl
  | cons a t ih => rw [List.map_cons, List.contains_cons, ih, List.any_cons, Bool.beq_comm]

set_option maxHeartbeats 1000000 in
theorem lowered_any (ao : Option Addr) (hs : List (List UInt8)) (cap : Nat) (w : World) (hq : HeadsAt w ao hs) (hl : hs.length < 4294967281) (hz : ∀ h ∈ hs, h.length < 4294967281) :
    Calls Try.prog 31 #[.slice ao hs.length cap] w fun e w' => ∃ (ao' : Option Addr) (cap' : Nat), e = .returned (.slice ao' hs.length cap') ∧ HeadsAt w' ao' (hs.map lowerS) ∧ Below w.heap.size w w' := by
  obtain ⟨i0, hi, hz0, hz1, hz2⟩ := info_parts infoS
  have HQ := hide hq
  have HZ := hide hz
  clear hq hz
  go_enter Try.func31, Try.ntmps31
  go_wp2_with (refine wpList_make_own _ rfl _ _ 23 rfl w.heap.size 9 i0 (.string ByteArray.empty) 1 Try.underlying23 hi hz0 hz1 .i64 .i64 _ hs.length rfl rfl rfl (by rw [hz2]; omega) (by unfold maxLen; omega) (by omega) ?_; intro w1 hown0 hgrow0)
  have B1 : Hid (Below w.heap.size w w1) := Below.grown (Below.refl _ _) hgrow0 (Nat.le_refl _) (fun j hj => by cases hj)
  have O1 := hide hown0
  clear hown0 hgrow0
  go_wp2_with fail
  go_loopw [3, 11] (fun nv iv W => ∃ (k : Nat) (qs : List (List UInt8)) (ao' : Option Addr) (cv : Nat), k ≤ hs.length ∧ iv = .int .i64 k ∧ nv = .slice ao' qs.length cv ∧ qs.length ≤ k ∧ Hid (qs = (hs.take k).map lowerS) ∧
      Hid (W.ownsRow w.heap.size 9 1 (.slice ao' qs.length cv) qs.length (qs.map (fun q => Value.string ⟨q.toArray⟩))) ∧ Hid (Below w.heap.size w W)) (fun _ iv _ => hs.length - (intOf iv).toNat)
  case atStart => exact ⟨0, [], some ⟨w.heap.size, 0, none⟩, hs.length, Nat.zero_le _, rfl, rfl, Nat.le_refl _, rfl, O1, B1⟩
  case round =>
    obtain ⟨k, qs, ao', cv, hk, rfl, rfl, hqk, HQ1, hown, hB⟩ := hrel
    have hsize := hB.out.size
    by_cases hlt : k < hs.length
    · obtain ⟨g, off, rfl, hcell⟩ := HQ.out.keep hB.out k hlt
      have hlI : (k : Int) < (hs.length : Int) := by omega
      have hpl := HZ.out hs[k] (List.getElem_mem hlt)
      have HBs : Hid (∀ j, (Value.slice ao' qs.length cv).ownBlock = some j → w.heap.size ≤ j) := fun j hj => owns_base hown.out j hj
      have HQ' : Hid (qs ++ [lowerS hs[k]] = (hs.take (k + 1)).map lowerS) := by unfold Hid; rw [HQ1.out, List.take_succ_eq_append_getElem hlt, List.map_append]; rfl
      clear HQ1
      go_wp2_with fail
      refine (lower_any hs[k] _ (by omega)).mono ?_
      rintro e w3 ⟨rfl, hb3⟩
      have B3 := hide (hB.out.trans (hb3.mono hB.out.size))
      have hown3 := owns_below hown.out hb3
      have hsize3 := B3.out.size
      clear hb3 hB hown
      generalize lowerS hs[k] = lo at *
      go_wp2_with (at_builtin; refine wpList_append_own _ rfl _ _ 23 rfl w.heap.size 9 i0 (.string ByteArray.empty) 1 16 Try.underlying23 hi hz0 hz1 hz2 rfl (by decide) _ _ _ rfl (hown3.alloc _) ⟨w3.heap.size, 0, none⟩ 1 1 [.string ⟨lo.toArray⟩] rfl rfl (cell_one_new _ _ _) (fun x hx => by simp at hx; subst hx; rfl) (by unfold maxLen; omega) (by omega) (by simp; omega) ?_; intro v' w4 hown' hgrow4 hnil4)
      obtain ⟨ao2, cv2, hv2, hown2⟩ := texts_roundB hown'
      have hq1 : (qs ++ [lo]).length ≤ k + 1 := by rw [List.length_append, List.length_singleton]; omega
      refine ⟨⟨k + 1, qs ++ [lo], ao2, cv2, by omega, by go_num, hv2, hq1, HQ', hown2, hide (Below.trans (B3.out.alloc hsize3 _) (Below.grown (Below.refl _ _) hgrow4 (by simp; omega) HBs.out))⟩, by simp [intOf]; omega⟩
    · have HS : Hid (hs.map lowerS = qs) := by unfold Hid; rw [HQ1.out, List.take_of_length_le (by omega)]
      have HL : Hid (qs.length = hs.length) := by unfold Hid; rw [← HS.out, List.length_map]
      clear HQ1
      go_wp2_with fail
      go_ret
      rw [HS.out, ← HL.out]
      exact ⟨ao', cv, rfl, heads_own hown.out, hB.out⟩

set_option maxHeartbeats 2000000 in
theorem headsLet_any (e : Ep) (ao : Option Addr) (hs : List (List UInt8)) (cap : Nat) (w : World) (hq : EpAt w e) (hsm : EpSmall e) (hh : HeadsAt w ao hs) (hl : hs.length < 4294967281) (hz : ∀ h ∈ hs, h.length < 4294967281) :
    Calls Try.prog 22 #[.agg e.cells.toArray, .slice ao hs.length cap] w fun r w' => r = .returned (.bool (allowS hs e.al)) ∧ Below w.heap.size w w' := by
  have HQ := hide hq
  have SM := hide hsm
  have HH := hide hh
  have HZ := hide hz
  clear hq hsm hh hz
  have HA : Hid (allowS hs e.al = hs.all (fun h => headS h || inLow e.al h)) := rfl
  generalize allowS hs e.al = res at *
  have B0 : Hid (∀ o, Below w.heap.size w (w.alloc o)) := fun o => (Below.refl _ _).alloc (Nat.le_refl _) _
  have CL := hide (fun W (h : EpAt W e) => lowered_any e.lo e.al e.lc W h.al SM.out.al SM.out.za)
  simp only [Ep.cells]
  go_enter Try.func22, Try.ntmps22
  go_wp2_with fail
  refine (CL.out _ (HQ.out.keep (B0.out _))).mono ?_
  rintro r w1 ⟨a1, c1, rfl, hl1, hb1⟩
  have B1 := hide ((B0.out _).trans (hb1.mono (B0.out _).size))
  have L1 := hide hl1
  have hal : (e.al.map lowerS).length < 4294967281 := by rw [List.length_map]; exact SM.out.al
  have CC := hide (fun (m : List UInt8) W (h : HeadsAt W a1 (e.al.map lowerS)) => containsS_any m a1 (e.al.map lowerS) c1 W h hal)
  rw [List.length_map] at CC
  clear hl1 hb1 CL hal
  go_wp2_with fail
  go_loopw [13] (fun iv W => ∃ i : Nat, i ≤ hs.length ∧ iv = .int .i64 i ∧ Hid ((hs.take i).all (fun h => headS h || inLow e.al h) = true) ∧ Hid (Below w1.heap.size w1 W)) (fun iv _ => hs.length - (intOf iv).toNat)
  case atStart => exact ⟨0, Nat.zero_le _, rfl, rfl, Below.refl _ _⟩
  case round =>
    obtain ⟨i, hi, rfl, hall, hBi⟩ := hrel
    by_cases hlt : i < hs.length
    · have hlI : (i : Int) < (hs.length : Int) := by omega
      obtain ⟨bk, off, rfl, hc⟩ := (HH.out.keep B1.out).keep hBi.out i hlt
      have hzi := HZ.out hs[i] (List.getElem_mem hlt)
      cases hd : headS hs[i] with
      | true =>
        have HD := hide hd
        have HN : Hid ((hs.take (i + 1)).all (fun h => headS h || inLow e.al h) = true) := by unfold Hid; rw [List.take_succ_eq_append_getElem hlt, List.all_append, hall.out, List.all_cons, hd]; rfl
        clear hd hall
        go_wp2_with fail
        refine (head_any hs[i] _ hzi).mono ?_
        rintro r wh ⟨rfl, hb⟩
        rw [HD.out]
        have B2 := hide (hBi.out.trans (hb.mono hBi.out.size))
        clear hb
        go_wp2_with fail
        exact ⟨⟨i + 1, by omega, by go_num, HN, B2⟩, by simp [intOf]; omega⟩
      | false =>
        have HD := hide hd
        clear hd
        go_wp2_with fail
        refine (head_any hs[i] _ hzi).mono ?_
        rintro r wh ⟨rfl, hb⟩
        rw [HD.out]
        replace hBi := hide (hBi.out.trans (hb.mono hBi.out.size))
        clear hb hc
        go_wp2_with fail
        refine (lower_any hs[i] _ hzi).mono ?_
        rintro r wl ⟨rfl, hb⟩
        replace hBi := hide (hBi.out.trans (hb.mono hBi.out.size))
        clear hb
        have IL := hide (inLow_map e.al hs[i])
        generalize lowerS hs[i] = lo at *
        go_wp2_with fail
        refine (CC.out lo _ (L1.out.keep hBi.out)).mono ?_
        rintro r wc ⟨rfl, rfl⟩
        rw [IL.out]
        cases hil : inLow e.al hs[i] with
        | true =>
          have HN : Hid ((hs.take (i + 1)).all (fun h => headS h || inLow e.al h) = true) := by unfold Hid; rw [List.take_succ_eq_append_getElem hlt, List.all_append, hall.out, List.all_cons, hil]; simp
          clear hil hall IL
          go_wp2_with fail
          exact ⟨⟨i + 1, by omega, by go_num, HN, hBi⟩, by simp [intOf]; omega⟩
        | false =>
          have HR2 : Hid (res = false) := by unfold Hid; rw [HA.out, List.all_eq_false]; exact ⟨hs[i], List.getElem_mem hlt, by rw [HD.out, hil]; simp⟩
          clear hil hall IL
          go_wp2_with fail
          go_ret
          exact ⟨ret_bool HR2.out.symm, B1.out.trans (hBi.out.mono B1.out.size)⟩
    · have HR2 : Hid (res = true) := by
        have := hall.out
        rw [List.take_of_length_le (by omega)] at this
        unfold Hid; rw [HA.out]; exact this
      clear hall
      go_wp2_with fail
      go_ret
      exact ⟨ret_bool HR2.out.symm, B1.out.trans (hBi.out.mono B1.out.size)⟩
end Go.Proofs.Ythljekiomfcjiaa
