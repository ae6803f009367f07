/- The walk over field.List. -/
import Derived.Test.YtaabficekcnlnaaDoorV2
namespace Go.Proofs.YtaabficekcnlnaaDoor
open Go.RowKit Go.Proofs.Url

theorem owns_low {w : World} {b b' : Nat} {e : TypeId} {size : Nat} {v : Value} {n : Nat} {xs : List Value} (h : w.ownsRow b e size v n xs) (hb : b' ≤ b) : w.ownsRow b' e size v n xs := by
  refine ⟨h.1, ?_⟩
  rcases h.2 with h1 | ⟨g, cap, cur, hv, hg, r⟩
  · exact .inl h1
  · exact .inr ⟨g, cap, cur, hv, Nat.le_trans hb hg, r⟩
theorem owns_texts {w : World} {base : Nat} {v : Value} {ps : List ByteArray} (h : w.ownsRow base 9 1 v ps.length (ps.map Value.string)) : ∃ (ao : Option Addr) (cap : Nat), v = .slice ao ps.length cap ∧ ps.length ≤ cap ∧ TextsAt w ao ps := by
  rcases h.2 with ⟨rfl, h0⟩ | ⟨g, cap, cur, rfl, hb, hh, hn, _, hsz, htk⟩
  · exact ⟨none, 0, by rw [h0], by omega, fun k h => by omega⟩
  · refine ⟨some ⟨g, 0, none⟩, cap, rfl, hn, fun k hk => ⟨g, rfl, ?_⟩⟩
    have : (cur.toList.take (ps.length * 1))[k]? = (ps.map Value.string)[k]? := by rw [htk]
    rw [List.getElem?_take, if_pos (by omega)] at this
    have e : w.cell? ⟨g, k, none⟩ = cur[k]? := by simp [World.cell?, hh]
    rw [e]; simpa [hk] using this
/-- What pieces hands back, written out. -/
theorem pieces_out (d : UInt8) (l : List UInt8) (w : World) (henv : Env w) (hl : l.length < 4294967281) :
    Calls Tryd.prog 21 #[.string ⟨l.toArray⟩, .string ⟨#[d]⟩] w fun e w' => ∃ (ao : Option Addr) (cap : Nat) (ps : List (List UInt8)), e = .returned (.slice ao ps.length cap) ∧ ps = piecesS d l ∧ ps.length ≤ cap ∧ TextsAt w' ao (ps.map (fun p => ⟨p.toArray⟩)) ∧ Below w.heap.size w w' := by
  refine (pieces_any d l w henv hl).mono ?_
  rintro e w' ⟨v, ps, rfl, hps, hown, hB⟩
  obtain ⟨ao, cap, rfl, hcap, hT⟩ := owns_texts hown
  have e1 : ps.length = (piecesS d l).length := by rw [← hps, List.length_map]
  refine ⟨ao, cap, piecesS d l, by rw [e1], rfl, by rw [← e1]; exact hcap, ?_, hB⟩
  rw [← hps, List.map_map]
  have : ps.map ((fun p : List UInt8 => (⟨p.toArray⟩ : ByteArray)) ∘ (fun x : ByteArray => x.data.toList)) = ps := by
    have : ((fun p : List UInt8 => (⟨p.toArray⟩ : ByteArray)) ∘ (fun x : ByteArray => x.data.toList)) = id := funext fun x => mk_data x
    rw [this, List.map_id]
  rw [this]; exact hT
theorem texts_cell {w : World} {ao : Option Addr} {ps : List (List UInt8)} (h : TextsAt w ao (ps.map (fun p => ⟨p.toArray⟩))) (k : Nat) (hk : k < ps.length) : ∃ g, ao = some ⟨g, 0, none⟩ ∧ w.cell? ⟨g, k, none⟩ = some (.string ⟨ps[k].toArray⟩) := by
  obtain ⟨g, h1, h2⟩ := h k (by simpa using hk)
  exact ⟨g, h1, by rw [h2]; simp⟩

theorem texts_round {w1 w3 : World} {qs : List (List UInt8)} {x : List UInt8} {v' : Value}
    (hown : w3.ownsRow w1.heap.size 9 1 v' (qs.length + 1) (qs.map (fun q => Value.string ⟨q.toArray⟩) ++ [.string ⟨x.toArray⟩])) :
    ∃ (ao : Option Addr) (cv : Nat), v' = .slice ao (qs ++ [x]).length cv ∧ Hid (w3.ownsRow w1.heap.size 9 1 (.slice ao (qs ++ [x]).length cv) (qs ++ [x]).length ((qs ++ [x]).map (fun q => Value.string ⟨q.toArray⟩))) := by
  have hq : (qs ++ [x]).length = qs.length + 1 := by simp
  obtain ⟨g, cap, hv⟩ : ∃ g cap, v' = .slice (some ⟨g, 0, none⟩) (qs.length + 1) cap := by
    rcases hown.2 with ⟨_, h⟩ | ⟨g, cap, _, h, _⟩
    · omega
    · exact ⟨g, cap, h⟩
  subst hv
  refine ⟨some ⟨g, 0, none⟩, cap, by rw [hq], ?_⟩
  unfold Hid; rw [hq, List.map_append]; exact hown

set_option maxHeartbeats 1000000 in
theorem list_any (l : List UInt8) (w : World) (henv : Env w) (hl : l.length < 4294967281) :
    Calls Tryd.prog 8 #[.string ⟨l.toArray⟩] w fun e w' => ∃ (ao : Option Addr) (cap : Nat), e = .returned (.tuple #[.slice ao (listS l).length cap, .bool (listOk l)]) ∧
      w'.ownsRow w.heap.size 9 1 (.slice ao (listS l).length cap) (listS l).length ((listS l).map (fun q => Value.string ⟨q.toArray⟩)) ∧ Below w.heap.size w w' := by
  obtain ⟨i0, hi, hz0, hz1, hz2⟩ := info_parts infoS
  have HOk := hide (listOk_pieces l)
  have HIt := hide (items_pieces l)
  have hcount := pieces_count 44 l
  have HL := hide (pieces_le 44 l)
  go_enter Tryd.func8, Tryd.ntmps8
  go_wp2_with fail
  refine (pieces_out 44 l _ henv hl).mono ?_
  rintro e w1 ⟨ao, cap, ps, rfl, hps, hcap, hT, hb1⟩
  rw [← hps] at HOk HIt hcount HL
  have HT := hide hT
  have B1 := hide hb1
  clear hT hb1 hps
  go_wp2_with fail
  go_loopw [4, 10] (fun nv iv W => ∃ (k : Nat) (qs : List (List UInt8)) (ao' : Option Addr) (cv : Nat), k ≤ ps.length ∧ iv = .int .i64 k ∧ nv = .slice ao' qs.length cv ∧ qs.length ≤ k ∧ Hid (qs = (ps.take k).map lowerS) ∧ Hid ((ps.take k).all nameS = true) ∧
      Hid (W.ownsRow w1.heap.size 9 1 (.slice ao' qs.length cv) qs.length (qs.map (fun q => Value.string ⟨q.toArray⟩))) ∧ Hid (Below w1.heap.size w1 W)) (fun _ iv _ => ps.length - (intOf iv).toNat)
  case atStart => exact ⟨0, [], none, 0, Nat.zero_le _, rfl, rfl, Nat.le_refl _, rfl, rfl, World.ownsRow_nil _ _ _ _, Below.refl _ _⟩
  case round =>
    obtain ⟨k, qs, ao', cv, hk, rfl, rfl, hqk, HQ, HA, hown, hB⟩ := hrel
    have hsize := hB.out.size
    by_cases hlt : k < ps.length
    · obtain ⟨g, rfl, hcell⟩ := texts_cell (HT.out.keep hB.out) k hlt
      have hlI : (k : Int) < (ps.length : Int) := by omega
      have hpl := HL.out ps[k] (List.getElem_mem hlt)
      have HBs : Hid (∀ j, (Value.slice ao' qs.length cv).ownBlock = some j → w1.heap.size ≤ j) := fun j hj => owns_base hown.out j hj
      cases hn : nameS ps[k] with
      | true =>
        have HN := hide hn
        have HQ' : Hid (qs ++ [lowerS ps[k]] = (ps.take (k + 1)).map lowerS) := by unfold Hid; rw [HQ.out, List.take_succ_eq_append_getElem hlt, List.map_append]; rfl
        have HA' : Hid ((ps.take (k + 1)).all nameS = true) := by unfold Hid; rw [List.take_succ_eq_append_getElem hlt, List.all_append, HA.out, List.all_cons, hn]; rfl
        clear hn HQ HA
        go_wp2_with fail
        refine (nameL_any ps[k] _ (by omega)).mono ?_
        rintro e w2 ⟨rfl, rfl⟩
        rw [HN.out]
        go_wp2_with fail
        refine (lower_any ps[k] _ (by omega)).mono ?_
        rintro e w3 ⟨rfl, hb3⟩
        have B3 := hide (hB.out.trans (hb3.mono hB.out.size))
        have hown3 := owns_below hown.out hb3
        have hsize3 := B3.out.size
        clear hb3 hB hown
        generalize lowerS ps[k] = lo at *
        go_wp2_with (at_builtin; refine wpList_append_own _ rfl _ _ 23 rfl w1.heap.size 9 i0 (.string ByteArray.empty) 1 16 Tryd.underlying23 hi hz0 hz1 hz2 rfl (by decide) _ _ _ rfl (hown3.alloc _) ⟨w3.heap.size, 0, none⟩ 1 1 [.string ⟨lo.toArray⟩] rfl rfl (cell_one_new _ _ _) (fun x hx => by simp at hx; subst hx; rfl) (by unfold maxLen; omega) (by omega) (by simp; omega) ?_; intro v' w4 hown' hgrow4 hnil4)
        obtain ⟨ao2, cv2, hv2, hown2⟩ := texts_round hown'
        have hq1 : (qs ++ [lo]).length ≤ k + 1 := by rw [List.length_append, List.length_singleton]; omega
        refine ⟨⟨k + 1, qs ++ [lo], ao2, cv2, by omega, by go_num, hv2, hq1, HQ', HA', hown2, hide (Below.trans (B3.out.alloc hsize3 _) (Below.grown (Below.refl _ _) hgrow4 (by simp; omega) HBs.out))⟩, by simp [intOf]; omega⟩
      | false =>
        have HN := hide hn
        have HF : Hid (listOk l = false) := by unfold Hid; rw [HOk.out, List.all_eq_false]; exact ⟨ps[k], List.getElem_mem hlt, by simp [hn]⟩
        have HS : Hid (listS l = []) := by unfold Hid listS; rw [if_neg (by simp [HF.out])]
        clear hn HQ HA
        go_wp2_with fail
        refine (nameL_any ps[k] _ (by omega)).mono ?_
        rintro e w2 ⟨rfl, rfl⟩
        rw [HN.out]
        go_wp2_with fail
        go_ret2
        rw [HF.out, HS.out]
        exact ⟨none, 0, rfl, World.ownsRow_nil _ _ _ _, B1.out.trans (hB.out.mono B1.out.size)⟩
    · have hkp : k = ps.length := by omega
      have HF : Hid (listOk l = true) := by have := HA.out; unfold Hid; rw [HOk.out]; rwa [List.take_of_length_le (by omega)] at this
      have HS : Hid (listS l = qs) := by unfold Hid listS; rw [if_pos HF.out, HIt.out, HQ.out, List.take_of_length_le (by omega)]
      clear HQ HA hkp
      go_wp2_with fail
      go_ret2
      rw [HF.out, HS.out]
      exact ⟨ao', cv, rfl, owns_low hown.out B1.out.size, B1.out.trans (hB.out.mono B1.out.size)⟩
end Go.Proofs.YtaabficekcnlnaaDoor
