/- The walk over field.Pairs. -/
import Derived.Test.YtfbalmamhcbojaaDoorV5
namespace Go.Proofs.YtfbalmamhcbojaaDoor
open Go.RowKit Go.Proofs.Url

theorem infoP : (Tryd.prog.info? 36).map (fun i => (i.zero, i.size, i.bytes)) = some (some (.agg #[.string ByteArray.empty, .string ByteArray.empty]), 2, 32) := by kernel_rfl
def pairV (p : List UInt8 × List UInt8) : List Value := [.string ⟨p.1.toArray⟩, .string ⟨p.2.toArray⟩]

theorem cell_two_new (w : World) (x y : Value) (t : TypeId) : ∀ j u, [x, y][j]? = some u → (w.alloc (.cells #[x, y] t)).cell? ((⟨w.heap.size, 0, none⟩ : Addr).add j) = some u := by
  intro j u hj
  rw [show (⟨w.heap.size, 0, none⟩ : Addr).add j = ⟨w.heap.size, j, none⟩ by cases j <;> simp [Addr.add], World.cell?_alloc_new]
  simpa using hj
theorem cut_le (c : UInt8) (p : List UInt8) : (Lib.cut p [c]).1.length ≤ p.length ∧ (Lib.cut p [c]).2.1.length ≤ p.length := by
  rcases splitc c p with h | ⟨a, b, rfl, h⟩
  · rw [cutc_none c p h]; simp
  · rw [cutc_app c a b h]; simp; omega
theorem pairs_round {w1 w3 : World} {qs : List (List UInt8 × List UInt8)} {x : List UInt8 × List UInt8} {v' : Value}
    (hown : w3.ownsRow w1.heap.size 36 2 v' (qs.length + 1) (qs.flatMap pairV ++ [.string ⟨x.1.toArray⟩, .string ⟨x.2.toArray⟩])) :
    ∃ (ao : Option Addr) (cv : Nat), v' = .slice ao (qs ++ [x]).length cv ∧ Hid (w3.ownsRow w1.heap.size 36 2 (.slice ao (qs ++ [x]).length cv) (qs ++ [x]).length ((qs ++ [x]).flatMap pairV)) := by
  have hq : (qs ++ [x]).length = qs.length + 1 := by simp
  obtain ⟨g, cap, hv⟩ : ∃ g cap, v' = .slice (some ⟨g, 0, none⟩) (qs.length + 1) cap := by
    rcases hown.2 with ⟨_, h⟩ | ⟨g, cap, _, h, _⟩
    · omega
    · exact ⟨g, cap, h⟩
  subst hv
  refine ⟨some ⟨g, 0, none⟩, cap, by rw [hq], ?_⟩
  unfold Hid; rw [hq, List.flatMap_append]
  have : [x].flatMap pairV = [.string ⟨x.1.toArray⟩, .string ⟨x.2.toArray⟩] := by simp [pairV]
  rw [this]; exact hown

set_option maxHeartbeats 1000000 in
theorem pairs_any (l : List UInt8) (w : World) (henv : Env w) (hl : l.length < 4294967281) :
    Calls Tryd.prog 13 #[.string ⟨l.toArray⟩] w fun e w' => ∃ (ao : Option Addr) (cap : Nat), e = .returned (.slice ao (pairsS l).length cap) ∧
      w'.ownsRow w.heap.size 36 2 (.slice ao (pairsS l).length cap) (pairsS l).length ((pairsS l).flatMap pairV) ∧ Below w.heap.size w w' := by
  obtain ⟨i0, hi, hz0, hz1, hz2⟩ := info_parts infoP
  have HPp := hide (pairs_pieces l)
  have hcount := pieces_count 59 l
  have HL := hide (pieces_le 59 l)
  go_enter Tryd.func13, Tryd.ntmps13
  go_wp2_with fail
  refine (pieces_out 59 l _ henv hl).mono ?_
  rintro e w1 ⟨ao, cap, ps, rfl, hps, hcap, hT, hb1⟩
  rw [← hps] at HPp hcount HL
  have HT := hide hT
  have B1 := hide hb1
  clear hT hb1 hps
  have HE := hide (henv.keep B1.out)
  go_wp2_with fail
  go_loopw [3, 12] (fun nv iv W => ∃ (k : Nat) (qs : List (List UInt8 × List UInt8)) (ao' : Option Addr) (cv : Nat), k ≤ ps.length ∧ iv = .int .i64 k ∧ nv = .slice ao' qs.length cv ∧ qs.length ≤ k ∧ Hid (qs = (ps.take k).map pairOf) ∧
      Hid (W.ownsRow w1.heap.size 36 2 (.slice ao' qs.length cv) qs.length (qs.flatMap pairV)) ∧ Hid (Below w1.heap.size w1 W)) (fun _ iv _ => ps.length - (intOf iv).toNat)
  case atStart => exact ⟨0, [], none, 0, Nat.zero_le _, rfl, rfl, Nat.le_refl _, rfl, World.ownsRow_nil _ _ _ _, Below.refl _ _⟩
  case round =>
    obtain ⟨k, qs, ao', cv, hk, rfl, rfl, hqk, HQ, hown, hB⟩ := hrel
    have hsize := hB.out.size
    by_cases hlt : k < ps.length
    · obtain ⟨g, rfl, hcell⟩ := texts_cell (HT.out.keep hB.out) k hlt
      have hlI : (k : Int) < (ps.length : Int) := by omega
      have hpl := HL.out ps[k] (List.getElem_mem hlt)
      have HBs : Hid (∀ j, (Value.slice ao' qs.length cv).ownBlock = some j → w1.heap.size ≤ j) := fun j hj => owns_base hown.out j hj
      have HQ' : Hid (qs ++ [pairOf ps[k]] = (ps.take (k + 1)).map pairOf) := by unfold Hid; rw [HQ.out, List.take_succ_eq_append_getElem hlt, List.map_append]; rfl
      obtain ⟨hc1, hc2⟩ := cut_le 61 ps[k]
      have HP : Hid (pairOf ps[k] = (lowerS (trimS (Lib.cut ps[k] [61]).1), trimS (Lib.cut ps[k] [61]).2.1)) := rfl
      have HE2 := hide (HE.out.keep hB.out)
      clear HQ
      go_wp2_with fail
      refine (cutC_any 61 ps[k] _ HE2.out (by omega)).mono ?_
      rintro e w2 ⟨rfl, hb2⟩
      have B2 := hide (hB.out.trans (hb2.mono hB.out.size))
      have O2 := hide (owns_below hown.out hb2)
      clear hb2 hB hown HE2
      generalize (Lib.cut ps[k] [61]).1 = ky at *
      generalize (Lib.cut ps[k] [61]).2.1 = va at *
      generalize (Lib.cut ps[k] [61]).2.2 = fo at *
      have HT1 := trimS_len ky
      go_wp2_with fail
      refine (trimmed_any ky _ (by omega)).mono ?_
      rintro e w3 ⟨rfl, hb3⟩
      have B3 := hide (B2.out.trans (hb3.mono B2.out.size))
      have O3 := hide (owns_below O2.out hb3)
      clear hb3 B2 O2
      go_wp2_with fail
      refine (lower_any (trimS ky) _ (by omega)).mono ?_
      rintro e w4 ⟨rfl, hb4⟩
      have B4 := hide (B3.out.trans (hb4.mono B3.out.size))
      have O4 := hide (owns_below O3.out hb4)
      clear hb4 B3 O3
      go_wp2_with fail
      refine (trim_any va _ (by omega)).mono ?_
      rintro e w5 ⟨rfl, hb5⟩
      have B5 := hide (B4.out.trans (hb5.mono B4.out.size))
      have hown5 := owns_below O4.out hb5
      have hsize5 := B5.out.size
      clear hb5 B4 O4 HT1
      generalize lowerS (trimS ky) = lo at *
      generalize trimS va = tv at *
      go_wp2_with (at_builtin; refine wpList_append_own _ rfl _ _ 34 rfl w1.heap.size 36 i0 _ 2 32 Tryd.underlying34 hi hz0 hz1 hz2 rfl (by decide) _ _ _ rfl (hown5.alloc _) ⟨w5.heap.size, 0, none⟩ 1 1 [.string ⟨lo.toArray⟩, .string ⟨tv.toArray⟩] rfl rfl (cell_two_new _ _ _ _) (fun x hx => by simp at hx; rcases hx with rfl | rfl <;> rfl) (by unfold maxLen; omega) (by omega) (by simp; omega) ?_; intro v' w6 hown' hgrow6 hnil6)
      obtain ⟨ao2, cv2, hv2, hown2⟩ := pairs_round (x := (lo, tv)) hown'
      have hq1 : (qs ++ [(lo, tv)]).length ≤ k + 1 := by rw [List.length_append, List.length_singleton]; omega
      rw [HP.out] at HQ'
      refine ⟨⟨k + 1, qs ++ [(lo, tv)], ao2, cv2, by omega, by go_num, hv2, hq1, HQ', hown2, hide (Below.trans (B5.out.alloc hsize5 _) (Below.grown (Below.refl _ _) hgrow6 (by simp; omega) HBs.out))⟩, by simp [intOf]; omega⟩
    · have HS : Hid (pairsS l = qs) := by unfold Hid; rw [HPp.out, HQ.out, List.take_of_length_le (by omega)]
      clear HQ
      go_wp2_with fail
      go_ret
      rw [HS.out]
      exact ⟨ao', cv, rfl, owns_low hown.out B1.out.size, B1.out.trans (hB.out.mono B1.out.size)⟩
end Go.Proofs.YtfbalmamhcbojaaDoor
