/- The walk over moatlaw3.FieldTells. -/
import Derived.Test.YtaabficekcnlnaaDoorV9
import Derived.Test.YtaabficekcnlnaaDoorV10
namespace Go.Proofs.YtaabficekcnlnaaDoor
open Go.RowKit Go.Proofs.Url

theorem listS_len (l : List UInt8) : (listS l).length ≤ l.length + 1 := by
  unfold listS
  split
  · rw [items_pieces, List.length_map]; exact pieces_count 44 l
  · simp
theorem pairsS_len (l : List UInt8) : (pairsS l).length ≤ l.length + 1 := by
  rw [pairs_pieces, List.length_map]; exact pieces_count 59 l

set_option maxHeartbeats 2000000 in
theorem tells_law (l : List UInt8) (w : World) (henv : Env w) :
    Calls Tryd.prog 3 #[.string ⟨l.toArray⟩] w fun e w' => e = .returned (.bool true) ∧ Below w.heap.size w w' := by
  by_cases h300 : 300 < l.length
  · have h2 : (300 : Int) < (l.length : Int) := by omega
    go_enter Tryd.func3, Tryd.ntmps3
    go_wp2_with fail
    refine (awake3_any _ henv).mono ?_
    rintro e w1 ⟨rfl, hb1⟩
    go_wp2_with fail
    go_ret
    exact ⟨rfl, hb1⟩
  have h2 : ¬ (300 : Int) < (l.length : Int) := by omega
  have h300' : l.length ≤ 300 := by omega
  have hll := listS_len l
  have hpl := pairsS_len l
  have CA := hide (fun W hW => list_any l W hW (by omega))
  have CB := hide (fun W => refList_any l W (by omega))
  have CX := hide (fun W hW => pairs_any l W hW (by omega))
  have CY := hide (fun W => refPairs_any l W (by omega))
  clear h300
  generalize listS l = L at *
  generalize listOk l = ok at *
  generalize pairsS l = Ps at *
  go_enter Tryd.func3, Tryd.ntmps3
  go_wp2_with fail
  refine (CA.out _ henv).mono ?_
  rintro e w1 ⟨ao, ca, rfl, hoA, hb1⟩
  have B1 := hide hb1
  have OA1 := hide hoA
  clear hb1 hoA
  go_wp2_with fail
  refine (CB.out _).mono ?_
  rintro e w2 ⟨bo, cb, rfl, hoB, hb2⟩
  have B2 := hide (B1.out.trans (hb2.mono B1.out.size))
  have OA2 := hide (owns_below OA1.out hb2)
  have OB2 := hide hoB
  clear hb2 hoB OA1
  go_wp2_with fail
  refine (CX.out _ (henv.keep B2.out)).mono ?_
  rintro e w3 ⟨xo, cx, rfl, hoX, hb3⟩
  have B3 := hide (B2.out.trans (hb3.mono B2.out.size))
  have OA3 := hide (owns_below OA2.out hb3)
  have OB3 := hide (owns_below OB2.out hb3)
  have OX3 := hide hoX
  clear hb3 hoX OA2 OB2
  go_wp2_with fail
  refine (CY.out _).mono ?_
  rintro e w4 ⟨yo, cy, rfl, hoY, hb4⟩
  have B4 := hide (B3.out.trans (hb4.mono B3.out.size))
  have OA4 := hide (owns_below OA3.out hb4)
  have TB4 := hide (owns_textsL (owns_below OB3.out hb4))
  have TA4 := hide (owns_textsL OA4.out)
  have PX4 := hide (owns_pairsL (owns_below OX3.out hb4))
  have PY4 := hide (owns_pairsL hoY)
  clear hb4 hoY OA3 OB3 OX3 CA CB CX CY B1 B2 B3
  go_wp2_with fail
  refine (sameL_any ao bo L ca cb _ TA4.out TB4.out (by unfold maxLen; omega)).mono ?_
  rintro e w5 ⟨rfl, hb5⟩
  have B5 := hide (B4.out.trans (hb5.mono B4.out.size))
  have OA5 := hide (owns_below OA4.out hb5)
  have PX5 := hide (PX4.out.keep hb5)
  have PY5 := hide (PY4.out.keep hb5)
  clear hb5 OA4 TA4 TB4 PX4 PY4 B4
  have hok : (ok != ok) = false := by simp
  go_wp2_with fail
  go_loopw [9] (fun iv W => ∃ q : Nat, q ≤ Ps.length ∧ iv = .int .i64 q ∧ Hid (Below w5.heap.size w5 W)) (fun iv _ => Ps.length - (intOf iv).toNat)
  case atStart => exact ⟨0, Nat.zero_le _, rfl, Below.refl _ _⟩
  case round =>
    obtain ⟨q, hq, rfl, hBq⟩ := hrel
    by_cases hqlt : q < Ps.length
    · obtain ⟨ga, rfl, hx1, hx2⟩ := pairs_cell (PX5.out.keep hBq.out) q hqlt
      obtain ⟨gb, rfl, hy1, hy2⟩ := pairs_cell (PY5.out.keep hBq.out) q hqlt
      have hqI : (q : Int) < (Ps.length : Int) := by omega
      have ke := fun w a b c d => eqTwo w a b c d
      go_wp2_with fail
      go_quiet (fail)
      go_wp2_with fail
      refine ⟨⟨q + 1, by omega, by go_num, below_drewN hBq.out _⟩, by simp [intOf]; omega⟩
    · have BF := hide (B5.out.trans (hBq.out.mono B5.out.size))
      have OA6 := hide (owns_below OA5.out hBq.out)
      have hnL : L.length < 1000 := by omega
      clear PX5 PY5 OA5
      go_wp2_with fail
      refine (overTexts_any ao L.length ca w.heap.size _ _ OA6.out hnL BF.out.size).mono ?_
      rintro e w6 ⟨⟨vv, rfl⟩, hb6⟩
      have B6 := hide (BF.out.trans hb6)
      clear hb6 OA6 BF
      go_wp2_with fail
      refine (nameL_any l _ (by omega)).mono ?_
      rintro e w7 ⟨rfl, rfl⟩
      go_wp2_with fail
      refine (refNameL_any l _ (by omega)).mono ?_
      rintro e w8 ⟨rfl, rfl⟩
      have hnm : (nameS l == nameS l) = true := by simp
      generalize nameS l = nm at *
      go_wp2_with fail
      refine (lower_any l _ (by omega)).mono ?_
      rintro e w9 ⟨rfl, hb9⟩
      have B9 := hide (B6.out.trans (hb9.mono B6.out.size))
      clear hb9
      go_wp2_with fail
      refine (refLower_any l _ (by omega)).mono ?_
      rintro e w10 ⟨rfl, hb10⟩
      have B10 := hide (B9.out.trans (hb10.mono B9.out.size))
      clear hb10
      generalize lowerS l = lo at *
      go_wp2_with fail
      refine (trim_any l _ (by omega)).mono ?_
      rintro e w11 ⟨rfl, hb11⟩
      have B11 := hide (B10.out.trans (hb11.mono B10.out.size))
      clear hb11
      go_wp2_with fail
      refine (refTrim_any l _ (by omega)).mono ?_
      rintro e w12 ⟨rfl, rfl⟩
      generalize trimS l = tr at *
      go_wp2_with fail
      refine (awake3_any _ (henv.keep B11.out)).mono ?_
      rintro e w13 ⟨rfl, hb13⟩
      have B13 := hide (B11.out.trans (hb13.mono B11.out.size))
      clear hb13
      go_wp2_with fail
      go_ret
      exact ⟨rfl, B13.out⟩
theorem tells_string (s : ByteArray) (w : World) (henv : Env w) :
    Calls Tryd.prog 3 #[.string s] w fun e w' => e = .returned (.bool true) ∧ Below w.heap.size w w' := by
  have h := tells_law s.data.toList w henv
  rw [mk_data] at h
  exact h
end Go.Proofs.YtaabficekcnlnaaDoor
