/- Walks over moatref3.List, moatlaw0.OverTexts. -/
import Derived.Test.YtaabficekcnlnaaDoorV4
import Derived.Test.YtaabficekcnlnaaDoorV7
import Derived.Test.YtaabficekcnlnaaDoorRC
namespace Go.Proofs.YtaabficekcnlnaaDoor
open Go.RowKit Go.Proofs.Url

/-- What moatref1.Cut hands back, written out. -/
theorem cut_texts (c : UInt8) (l : List UInt8) (w : World) (hl : l.length < 4294967281) :
    Calls Tryd.prog 22 #[.string ⟨l.toArray⟩, .int .u8 c.toNat] w fun e w' => ∃ (ao : Option Addr) (cap : Nat) (ps : List (List UInt8)), e = .returned (.slice ao ps.length cap) ∧ ps = parts c l ∧ ps.length ≤ cap ∧ TextsAt w' ao (ps.map (fun p => ⟨p.toArray⟩)) ∧ Below w.heap.size w w' := by
  refine (refCut_any ⟨l.toArray⟩ c w (by rw [Lib.size_mk]; exact hl)).mono ?_
  rintro e w' ⟨v, ps, rfl, hps, hown, hB⟩
  obtain ⟨ao, cap, rfl, hcap, hT⟩ := owns_texts hown
  have hps' : ps.map (fun x : ByteArray => x.data.toList) = parts c l := hps
  have e1 : ps.length = (parts c l).length := by rw [← hps', List.length_map]
  refine ⟨ao, cap, parts c l, by rw [e1], rfl, by rw [← e1]; exact hcap, ?_, hB⟩
  rw [← hps', List.map_map]
  have : ps.map ((fun p : List UInt8 => (⟨p.toArray⟩ : ByteArray)) ∘ (fun x : ByteArray => x.data.toList)) = ps := by
    have : ((fun p : List UInt8 => (⟨p.toArray⟩ : ByteArray)) ∘ (fun x : ByteArray => x.data.toList)) = id := funext fun x => mk_data x
    rw [this, List.map_id]
  rw [this]; exact hT

/-- What was gathered of so many parts. -/
def gath (f : List UInt8 → List UInt8) (ps : List (List UInt8)) (k : Nat) : List (List UInt8) := ((ps.take k).map f).filter (fun t => !t.isEmpty)
theorem gath_zero (f : List UInt8 → List UInt8) (ps : List (List UInt8)) : gath f ps 0 = [] := rfl
theorem gath_add (f : List UInt8 → List UInt8) (ps : List (List UInt8)) (k : Nat) (h : k < ps.length) (he : (f ps[k]).isEmpty = false) : gath f ps (k + 1) = gath f ps k ++ [f ps[k]] := by
  unfold gath; rw [List.take_succ_eq_append_getElem h, List.map_append, List.filter_append]; simp [he]
theorem gath_skip (f : List UInt8 → List UInt8) (ps : List (List UInt8)) (k : Nat) (h : k < ps.length) (he : f ps[k] = []) : gath f ps (k + 1) = gath f ps k := by
  unfold gath; rw [List.take_succ_eq_append_getElem h, List.map_append, List.filter_append]; simp [he]
theorem gath_all (f : List UInt8 → List UInt8) (ps : List (List UInt8)) (k : Nat) (h : ps.length ≤ k) : gath f ps k = (ps.map f).filter (fun t => !t.isEmpty) := by
  unfold gath; rw [List.take_of_length_le h]
theorem gath_mem (f : List UInt8 → List UInt8) (ps : List (List UInt8)) (k : Nat) (h : k < ps.length) (he : (f ps[k]).isEmpty = false) : f ps[k] ∈ (ps.map f).filter (fun t => !t.isEmpty) :=
  List.mem_filter.2 ⟨List.mem_map.2 ⟨ps[k], List.getElem_mem h, rfl⟩, by simp [he]⟩

set_option maxHeartbeats 1000000 in
theorem refList_any (l : List UInt8) (w : World) (hl : l.length < 4294967281) :
    Calls Tryd.prog 9 #[.string ⟨l.toArray⟩] w fun e w' => ∃ (ao : Option Addr) (cap : Nat), e = .returned (.tuple #[.slice ao (listS l).length cap, .bool (listOk l)]) ∧
      w'.ownsRow w.heap.size 9 1 (.slice ao (listS l).length cap) (listS l).length ((listS l).map (fun q => Value.string ⟨q.toArray⟩)) ∧ Below w.heap.size w w' := by
  obtain ⟨i0, hi, hz0, hz1, hz2⟩ := info_parts infoS
  have hcount := parts_count 44 l
  have HL := hide (parts_le 44 l)
  have HIt : Hid (itemsS l = ((parts 44 l).map (fun p => lowerS (trimS p))).filter (fun t => !t.isEmpty)) := rfl
  go_enter Tryd.func9, Tryd.ntmps9
  go_wp2_with fail
  refine (cut_texts 44 l _ hl).mono ?_
  rintro e w1 ⟨ao, cap, ps, rfl, hps, hcap, hT, hb1⟩
  rw [← hps] at hcount HL HIt
  have HT := hide hT
  have B1 := hide hb1
  clear hT hb1 hps
  go_wp2_with fail
  go_loopw [5, 6] (fun nv iv W => ∃ (k : Nat) (qs : List (List UInt8)) (ao' : Option Addr) (cv : Nat), k ≤ ps.length ∧ iv = .int .i64 k ∧ nv = .slice ao' qs.length cv ∧ qs.length ≤ k ∧ Hid (qs = gath (fun p => lowerS (trimS p)) ps k) ∧ Hid (qs.all nameS = true) ∧
      Hid (W.ownsRow w1.heap.size 9 1 (.slice ao' qs.length cv) qs.length (qs.map (fun q => Value.string ⟨q.toArray⟩))) ∧ Hid (Below w1.heap.size w1 W)) (fun _ iv _ => ps.length - (intOf iv).toNat)
  case atStart => exact ⟨0, [], none, 0, Nat.zero_le _, rfl, rfl, Nat.le_refl _, rfl, rfl, World.ownsRow_nil _ _ _ _, Below.refl _ _⟩
  case round =>
    obtain ⟨k, qs, ao', cv, hk, rfl, rfl, hqk, HQ, HA, hown, hB⟩ := hrel
    have hsize := hB.out.size
    by_cases hlt : k < ps.length
    · obtain ⟨g, rfl, hcell⟩ := texts_cell (HT.out.keep hB.out) k hlt
      have hlI : (k : Int) < (ps.length : Int) := by omega
      have hpl := HL.out ps[k] (List.getElem_mem hlt)
      have hpt := trimS_len ps[k]
      have HBs : Hid (∀ j, (Value.slice ao' qs.length cv).ownBlock = some j → w1.heap.size ≤ j) := fun j hj => owns_base hown.out j hj
      by_cases he : lowerS (trimS ps[k]) = []
      · have HE := hide he
        have HQ' : Hid (qs = gath (fun p => lowerS (trimS p)) ps (k + 1)) := by unfold Hid; rw [gath_skip _ ps k hlt he]; exact HQ.out
        clear he HQ
        go_wp2_with fail
        refine (refTrim_any ps[k] _ (by omega)).mono ?_
        rintro e w2 ⟨rfl, rfl⟩
        go_wp2_with fail
        refine (refLower_any (trimS ps[k]) _ (by omega)).mono ?_
        rintro e w3 ⟨rfl, hb3⟩
        rw [HE.out]
        have B3 := hide (hB.out.trans (hb3.mono hB.out.size))
        have O3 := hide (owns_below hown.out hb3)
        clear hb3 hB hown
        go_wp2_with fail
        refine ⟨⟨k + 1, qs, ao', cv, by omega, by go_num, rfl, by omega, HQ', HA, O3, B3⟩, by simp [intOf]; omega⟩
      · have hem : (lowerS (trimS ps[k])).isEmpty = false := by cases e : lowerS (trimS ps[k]); exact absurd e he; rfl
        have hll : (lowerS (trimS ps[k])).length ≤ l.length := by rw [lowerS_len]; omega
        cases hn : nameS (lowerS (trimS ps[k])) with
        | true =>
          have HN := hide hn
          have HQ' : Hid (qs ++ [lowerS (trimS ps[k])] = gath (fun p => lowerS (trimS p)) ps (k + 1)) := by unfold Hid; rw [gath_add _ ps k hlt hem, ← HQ.out]
          have HA' : Hid ((qs ++ [lowerS (trimS ps[k])]).all nameS = true) := by unfold Hid; rw [List.all_append, HA.out, List.all_cons, hn]; rfl
          clear hn HQ HA he
          go_wp2_with fail
          refine (refTrim_any ps[k] _ (by omega)).mono ?_
          rintro e w2 ⟨rfl, rfl⟩
          go_wp2_with fail
          refine (refLower_any (trimS ps[k]) _ (by omega)).mono ?_
          rintro e w3 ⟨rfl, hb3⟩
          have B3 := hide (hB.out.trans (hb3.mono hB.out.size))
          have hown3 := owns_below hown.out hb3
          have hsize3 := B3.out.size
          clear hb3 hB hown
          generalize lowerS (trimS ps[k]) = lo at *
          go_wp2_with fail
          refine (refNameL_any lo _ (by omega)).mono ?_
          rintro e w4 ⟨rfl, rfl⟩
          rw [HN.out]
          go_wp2_with (at_builtin; refine wpList_append_own _ rfl _ _ 23 rfl w1.heap.size 9 i0 (.string ByteArray.empty) 1 16 Tryd.underlying23 hi hz0 hz1 hz2 rfl (by decide) _ _ _ rfl (hown3.alloc _) ⟨w4.heap.size, 0, none⟩ 1 1 [.string ⟨lo.toArray⟩] rfl rfl (cell_one_new _ _ _) (fun x hx => by simp at hx; subst hx; rfl) (by unfold maxLen; omega) (by omega) (by simp; omega) ?_; intro v' w5 hown' hgrow5 hnil5)
          obtain ⟨ao2, cv2, hv2, hown2⟩ := texts_round hown'
          have hq1 : (qs ++ [lo]).length ≤ k + 1 := by rw [List.length_append, List.length_singleton]; omega
          refine ⟨⟨k + 1, qs ++ [lo], ao2, cv2, by omega, by go_num, hv2, hq1, HQ', HA', hown2, hide (Below.trans (B3.out.alloc hsize3 _) (Below.grown (Below.refl _ _) hgrow5 (by simp; omega) HBs.out))⟩, by simp [intOf]; omega⟩
        | false =>
          have HN := hide hn
          have HF : Hid (listOk l = false) := by unfold Hid listOk; rw [HIt.out, List.all_eq_false]; exact ⟨lowerS (trimS ps[k]), gath_mem (fun p => lowerS (trimS p)) ps k hlt hem, by simp [hn]⟩
          have HS : Hid (listS l = []) := by unfold Hid listS; rw [if_neg (by simp [HF.out])]
          clear hn HQ HA he
          go_wp2_with fail
          refine (refTrim_any ps[k] _ (by omega)).mono ?_
          rintro e w2 ⟨rfl, rfl⟩
          go_wp2_with fail
          refine (refLower_any (trimS ps[k]) _ (by omega)).mono ?_
          rintro e w3 ⟨rfl, hb3⟩
          have B3 := hide (hB.out.trans (hb3.mono hB.out.size))
          clear hb3 hB hown
          generalize lowerS (trimS ps[k]) = lo at *
          go_wp2_with fail
          refine (refNameL_any lo _ (by omega)).mono ?_
          rintro e w4 ⟨rfl, rfl⟩
          rw [HN.out]
          go_wp2_with fail
          go_ret2
          rw [HF.out, HS.out]
          exact ⟨none, 0, rfl, World.ownsRow_nil _ _ _ _, B1.out.trans (B3.out.mono B1.out.size)⟩
    · have HQe : Hid (itemsS l = qs) := by unfold Hid; rw [HIt.out, HQ.out, gath_all _ ps k (by omega)]
      have HF : Hid (listOk l = true) := by unfold Hid listOk; rw [HQe.out]; exact HA.out
      have HS : Hid (listS l = qs) := by unfold Hid listS; rw [if_pos HF.out]; exact HQe.out
      clear HQ HA HQe
      go_wp2_with fail
      go_ret2
      rw [HF.out, HS.out]
      exact ⟨ao', cv, rfl, owns_low hown.out B1.out.size, B1.out.trans (hB.out.mono B1.out.size)⟩
end Go.Proofs.YtaabficekcnlnaaDoor
