/- The walk over moatlaw3.awake: it answers true. -/
import Derived.Test.YtaabficekcnlnaaDoorV6
import Derived.Lib.QuietBelow
import Derived.ChangeKeysEq
namespace Go.Proofs.YtaabficekcnlnaaDoor
open Go.RowKit Go.Proofs.Url

theorem al1 : listS [88, 45, 65, 44, 32, 98, 44] = [[120, 45, 97], [98]] ∧ listOk [88, 45, 65, 44, 32, 98, 44] = true := by decide +kernel
theorem al2 : listS [97, 32, 98] = [] ∧ listOk [97, 32, 98] = false := by decide +kernel
theorem al3 : pairsS [80, 97, 116, 104, 61, 47, 97, 59, 32, 83, 101, 99, 117, 114, 101] = [([112, 97, 116, 104], [47, 97]), ([115, 101, 99, 117, 114, 101], [])] := by decide +kernel
theorem al4 : nameS [120, 45, 97] = true := by decide +kernel
theorem al5 : lowerS [65, 98, 67] = [97, 98, 99] := by decide +kernel
theorem al6 : trimS [32, 97, 32] = [97] := by decide +kernel

/-- A row of pairs in a block of its own, as far as a walk reads it. -/
def PairsAt (w : World) (ao : Option Addr) (ps : List (List UInt8 × List UInt8)) : Prop :=
  ∀ k (h : k < ps.length), ∃ g, ao = some ⟨g, 0, none⟩ ∧ w.cell? ⟨g, 2 * k, none⟩ = some (.string ⟨ps[k].1.toArray⟩) ∧ w.cell? ⟨g, 2 * k + 1, none⟩ = some (.string ⟨ps[k].2.toArray⟩)
theorem PairsAt.keep {w w' : World} {ao : Option Addr} {ps : List (List UInt8 × List UInt8)} (h : PairsAt w ao ps) (hb : Below w.heap.size w w') : PairsAt w' ao ps := by
  intro k hk
  obtain ⟨g, hg, h1, h2⟩ := h k hk
  exact ⟨g, hg, by rw [hb.cell (World.block_lt_of_cell? w _ h1)]; exact h1, by rw [hb.cell (World.block_lt_of_cell? w _ h2)]; exact h2⟩
theorem flat_at (ps : List (List UInt8 × List UInt8)) : ∀ k (h : k < ps.length), (ps.flatMap pairV)[2 * k]? = some (.string ⟨ps[k].1.toArray⟩) ∧ (ps.flatMap pairV)[2 * k + 1]? = some (.string ⟨ps[k].2.toArray⟩) := by
  induction ps with
  | nil => intro k h; simp at h
  | cons p ps ih =>
    intro k h
    rw [List.flatMap_cons]
    unfold pairV
    cases k with
    | zero => exact ⟨rfl, rfl⟩
    | succ k =>
      have := ih k (by simpa using h)
      refine ⟨?_, ?_⟩
      · rw [List.getElem?_append_right (by simp; omega)]; simp only [List.length_cons, List.length_nil]; rw [show 2 * (k + 1) - (0 + 1 + 1) = 2 * k by omega]; exact this.1
      · rw [List.getElem?_append_right (by simp; omega)]; simp only [List.length_cons, List.length_nil]; rw [show 2 * (k + 1) + 1 - (0 + 1 + 1) = 2 * k + 1 by omega]; exact this.2
theorem owns_pairs {w : World} {base : Nat} {v : Value} {ps : List (List UInt8 × List UInt8)} (h : w.ownsRow base 29 2 v ps.length (ps.flatMap pairV)) : ∃ (ao : Option Addr) (cap : Nat), v = .slice ao ps.length cap ∧ ps.length ≤ cap ∧ PairsAt w ao ps := by
  rcases h.2 with ⟨rfl, h0⟩ | ⟨g, cap, cur, rfl, hb, hh, hn, _, hsz, htk⟩
  · exact ⟨none, 0, by rw [h0], by omega, fun k h => by omega⟩
  · refine ⟨some ⟨g, 0, none⟩, cap, rfl, hn, fun k hk => ⟨g, rfl, ?_⟩⟩
    have hc : ∀ j, j < ps.length * 2 → w.cell? ⟨g, j, none⟩ = (ps.flatMap pairV)[j]? := by
      intro j hj
      have : (cur.toList.take (ps.length * 2))[j]? = (ps.flatMap pairV)[j]? := by rw [htk]
      rw [List.getElem?_take, if_pos hj] at this
      have e : w.cell? ⟨g, j, none⟩ = cur[j]? := by simp [World.cell?, hh]
      rw [e, ← this]; simp
    obtain ⟨f1, f2⟩ := flat_at ps k hk
    exact ⟨by rw [hc _ (by omega)]; exact f1, by rw [hc _ (by omega)]; exact f2⟩
theorem pairs_out (l : List UInt8) (w : World) (henv : Env w) (hl : l.length < 4294967281) :
    Calls Tryd.prog 10 #[.string ⟨l.toArray⟩] w fun e w' => ∃ (ao : Option Addr) (cap : Nat), e = .returned (.slice ao (pairsS l).length cap) ∧ (pairsS l).length ≤ cap ∧ PairsAt w' ao (pairsS l) ∧ Below w.heap.size w w' := by
  refine (pairs_any l w henv hl).mono ?_
  rintro e w' ⟨ao, cap, rfl, hown, hB⟩
  obtain ⟨ao', cap', hv, hc, hP⟩ := owns_pairs hown
  cases hv
  exact ⟨ao, cap, rfl, hc, hP, hB⟩
theorem list_out (l : List UInt8) (w : World) (henv : Env w) (hl : l.length < 4294967281) :
    Calls Tryd.prog 8 #[.string ⟨l.toArray⟩] w fun e w' => ∃ (ao : Option Addr) (cap : Nat), e = .returned (.tuple #[.slice ao (listS l).length cap, .bool (listOk l)]) ∧ (listS l).length ≤ cap ∧ TextsAt w' ao ((listS l).map (fun q => ⟨q.toArray⟩)) ∧ Below w.heap.size w w' := by
  refine (list_any l w henv hl).mono ?_
  rintro e w' ⟨ao, cap, rfl, hown, hB⟩
  have hm : (listS l).map (fun q => Value.string ⟨q.toArray⟩) = ((listS l).map (fun q => (⟨q.toArray⟩ : ByteArray))).map Value.string := by rw [List.map_map]; rfl
  have hlen : (listS l).length = ((listS l).map (fun q => (⟨q.toArray⟩ : ByteArray))).length := by rw [List.length_map]
  rw [hm] at hown
  have hown2 : w'.ownsRow w.heap.size 9 1 (.slice ao (listS l).length cap) ((listS l).map (fun q => (⟨q.toArray⟩ : ByteArray))).length (((listS l).map (fun q => (⟨q.toArray⟩ : ByteArray))).map Value.string) := by rw [← hlen]; exact hown
  obtain ⟨ao', cap', hv, hc, hP⟩ := owns_texts hown2
  simp only [Value.slice.injEq] at hv
  obtain ⟨rfl, _, rfl⟩ := hv
  exact ⟨ao, cap, rfl, by rw [hlen]; exact hc, hP, hB⟩
theorem ak1 (w : World) (henv : Env w) : Calls Tryd.prog 8 #[.string ⟨#[88, 45, 65, 44, 32, 98, 44]⟩] w fun e w' => ∃ (g cap : Nat), e = .returned (.tuple #[.slice (some ⟨g, 0, none⟩) 2 cap, .bool true]) ∧ TextsAt w' (some ⟨g, 0, none⟩) [⟨#[120, 45, 97]⟩, ⟨#[98]⟩] ∧ Below w.heap.size w w' := by
  refine (list_out [88, 45, 65, 44, 32, 98, 44] w henv (by decide)).mono ?_
  rw [al1.1, al1.2]
  rintro e w' ⟨ao, cap, rfl, _, hT, hB⟩
  obtain ⟨g, rfl, _⟩ := hT 0 (by decide)
  exact ⟨g, cap, rfl, hT, hB⟩
theorem ak2 (w : World) (henv : Env w) : Calls Tryd.prog 8 #[.string ⟨#[97, 32, 98]⟩] w fun e w' => ∃ (ao : Option Addr) (cap : Nat), e = .returned (.tuple #[.slice ao 0 cap, .bool false]) ∧ Below w.heap.size w w' := by
  refine (list_out [97, 32, 98] w henv (by decide)).mono ?_
  rw [al2.1, al2.2]
  rintro e w' ⟨ao, cap, rfl, _, hT, hB⟩
  exact ⟨ao, cap, rfl, hB⟩
theorem ak3 (w : World) (henv : Env w) : Calls Tryd.prog 10 #[.string ⟨#[80, 97, 116, 104, 61, 47, 97, 59, 32, 83, 101, 99, 117, 114, 101]⟩] w fun e w' => ∃ (g cap : Nat), e = .returned (.slice (some ⟨g, 0, none⟩) 2 cap) ∧
    (w'.cell? ⟨g, 0, none⟩ = some (.string ⟨#[112, 97, 116, 104]⟩) ∧ w'.cell? ⟨g, 1, none⟩ = some (.string ⟨#[47, 97]⟩) ∧ w'.cell? ⟨g, 2, none⟩ = some (.string ⟨#[115, 101, 99, 117, 114, 101]⟩) ∧ w'.cell? ⟨g, 3, none⟩ = some (.string ⟨#[]⟩)) ∧ Below w.heap.size w w' := by
  refine (pairs_out [80, 97, 116, 104, 61, 47, 97, 59, 32, 83, 101, 99, 117, 114, 101] w henv (by decide)).mono ?_
  rw [al3]
  rintro e w' ⟨ao, cap, rfl, _, hT, hB⟩
  obtain ⟨g, rfl, h1, h2⟩ := hT 0 (by decide)
  obtain ⟨g', hg', h3, h4⟩ := hT 1 (by decide)
  cases hg'
  exact ⟨g, cap, rfl, ⟨h1, h2, h3, h4⟩, hB⟩
theorem ak4 (w : World) : Calls Tryd.prog 14 #[.string ⟨#[120, 45, 97]⟩] w fun e w' => e = .returned (.bool true) ∧ w' = w := by
  have h := nameL_any [120, 45, 97] w (by decide)
  rw [al4] at h; exact h
theorem ak5 (w : World) : Calls Tryd.prog 16 #[.string ⟨#[65, 98, 67]⟩] w fun e w' => e = .returned (.string ⟨#[97, 98, 99]⟩) ∧ Below w.heap.size w w' := by
  have h := lower_any [65, 98, 67] w (by decide)
  rw [al5] at h; exact h
theorem ak6 (w : World) : Calls Tryd.prog 18 #[.string ⟨#[32, 97, 32]⟩] w fun e w' => e = .returned (.string ⟨#[97]⟩) ∧ Below w.heap.size w w' := by
  have h := trim_any [32, 97, 32] w (by decide)
  rw [al6] at h; exact h

/-- Two arrays of two texts, compared. -/
theorem eqTwo (w : World) (a b c d : List UInt8) : (Op.equalIn 10000 29 (.agg #[.string ⟨a.toArray⟩, .string ⟨b.toArray⟩]) (.agg #[.string ⟨c.toArray⟩, .string ⟨d.toArray⟩])).run Tryd.prog w = .ok (a == c && b == d) w := by
  obtain ⟨i0, hi, _⟩ := info_parts infoS
  have he : Tryd.prog.plainKey 9 = true := by kernel_rfl
  have hc : Tryd.prog.cellsOf 9 = 1 := by kernel_rfl
  rw [show (10000 : Nat) = 9999 + 1 from rfl, run_equalIn_array w 9999 _ _ Tryd.underlying29 hi, hc, show List.range 2 = [0, 1] from rfl]
  have p1 : (part 9 #[.string ⟨a.toArray⟩, .string ⟨b.toArray⟩] (0 * 1)).run Tryd.prog w = .ok (.string ⟨a.toArray⟩) w := run_part_plain w he rfl
  have p2 : (part 9 #[.string ⟨c.toArray⟩, .string ⟨d.toArray⟩] (0 * 1)).run Tryd.prog w = .ok (.string ⟨c.toArray⟩) w := run_part_plain w he rfl
  have p3 : (part 9 #[.string ⟨a.toArray⟩, .string ⟨b.toArray⟩] 1).run Tryd.prog w = .ok (.string ⟨b.toArray⟩) w := run_part_plain w he rfl
  have p4 : (part 9 #[.string ⟨c.toArray⟩, .string ⟨d.toArray⟩] 1).run Tryd.prog w = .ok (.string ⟨d.toArray⟩) w := run_part_plain w he rfl
  have q1 : (Op.equalIn 9999 9 (.string ⟨a.toArray⟩) (.string ⟨c.toArray⟩)).run Tryd.prog w = .ok (a == c) w := by
    rw [show (9999 : Nat) = 9998 + 1 from rfl, run_equalIn_string w 9998 _ _ _ Tryd.underlying9, ByteArray.toList_eq, ByteArray.toList_eq]
  have q2 : (Op.equalIn 9999 9 (.string ⟨b.toArray⟩) (.string ⟨d.toArray⟩)).run Tryd.prog w = .ok (b == d) w := by
    rw [show (9999 : Nat) = 9998 + 1 from rfl, run_equalIn_string w 9998 _ _ _ Tryd.underlying9, ByteArray.toList_eq, ByteArray.toList_eq]
  simp only [Op.eqItems, Sem.run_bind, p1, p2, q1, Result.andThen_ok]
  cases (a == c)
  · simp
  · cases h : (b == d) <;> simp [p3, p4, q2, h]
theorem keepc {W W' : World} {a : Addr} {v : Value} (hb : Below W.heap.size W W') (h : W.cell? a = some v) : W'.cell? a = some v := by
  rw [hb.cell (World.block_lt_of_cell? W _ h)]; exact h

set_option maxHeartbeats 1000000 in
theorem awake3_any (w : World) (henv : Env w) :
    Calls Tryd.prog 7 #[] w fun e w' => e = .returned (.bool true) ∧ Below w.heap.size w w' := by
  go_enter Tryd.func7, Tryd.ntmps7
  go_wp2_with fail
  refine (ak1 _ henv).mono ?_
  rintro e w1 ⟨g1, cap1, rfl, hT1, hb1⟩
  have HT1 := hide hT1
  have E1 := hide (henv.keep hb1)
  have B1 := hide hb1
  clear hb1 hT1
  go_wp2_with fail
  refine (ak2 _ E1.out).mono ?_
  rintro e w2 ⟨ao2, cap2, rfl, hb2⟩
  have HT2 := hide (HT1.out.keep hb2)
  have E2 := hide (E1.out.keep hb2)
  have B2 := hide (B1.out.trans (hb2.mono B1.out.size))
  clear hb2 HT1 E1 B1
  go_wp2_with fail
  refine (ak3 _ E2.out).mono ?_
  rintro e w3 ⟨g3, cap3, rfl, ⟨hc0, hc1, hc2, hc3⟩, hb3⟩
  have HT3 := hide (HT2.out.keep hb3)
  have B3 := hide (B2.out.trans (hb3.mono B2.out.size))
  clear hb3 HT2 B2
  have hg3 : g3 < w3.heap.size := World.block_lt_of_cell? w3 _ hc0
  go_wp2_with fail
  refine (sameTexts_any _ _ [⟨#[120, 45, 97]⟩, ⟨#[98]⟩] [⟨#[120, 45, 97]⟩, ⟨#[98]⟩] _ _ _ (HT3.out.keep ((Below.refl _ _).alloc (Nat.le_refl _) _)) (texts2 _ _ _ _) (by decide) (by decide)).mono ?_
  rintro e w4 ⟨rfl, hb4⟩
  have hb4' : Below w3.heap.size w3 w4 := ((Below.refl _ _).alloc (Nat.le_refl _) _).trans (hb4.mono (by simp))
  replace hc0 := keepc hb4' hc0
  replace hc1 := keepc hb4' hc1
  replace hc2 := keepc hb4' hc2
  replace hc3 := keepc hb4' hc3
  have B4 := hide (B3.out.trans (hb4'.mono B3.out.size))
  clear hb4 hb4' HT3 B3 hg3
  have hg3 : g3 < w4.heap.size := World.block_lt_of_cell? w4 _ hc0
  rw [show decide (([⟨#[120, 45, 97]⟩, ⟨#[98]⟩] : List ByteArray) = [⟨#[120, 45, 97]⟩, ⟨#[98]⟩]) = true from decide_eq_true rfl]
  have ke := fun w a b c d => eqTwo w a b c d
  go_wp2_with fail
  refine (ak4 _).mono ?_
  rintro e w5 ⟨rfl, rfl⟩
  go_wp2_with fail
  refine (ak5 _).mono ?_
  rintro e w6 ⟨rfl, hb6⟩
  have B6 := hide (B4.out.trans (hb6.mono B4.out.size))
  clear hb6 hc0 hc1 hc2 hc3 hg3
  go_wp2_with fail
  refine (ak6 _).mono ?_
  rintro e w7 ⟨rfl, hb7⟩
  have B7 := hide (B6.out.trans (hb7.mono B6.out.size))
  clear hb7
  go_wp2_with fail
  go_ret
  exact ⟨rfl, B7.out⟩
end Go.Proofs.YtaabficekcnlnaaDoor
