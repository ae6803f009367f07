/- The walk over moatlaw3.awake: it answers true. -/
import Derived.Test.YtfbalmamhcbojaaDoorV6
import Derived.Lib.QuietBelow
import Derived.ChangeKeysEq
namespace Go.Proofs.YtfbalmamhcbojaaDoor
open Go.RowKit Go.Proofs.Url

theorem al1 : listS [88, 45, 65, 44, 32, 98, 44] = [[120, 45, 97], [98]] ∧ listOk [88, 45, 65, 44, 32, 98, 44] = true := by decide +kernel
theorem al2 : listS [97, 32, 98] = [] ∧ listOk [97, 32, 98] = false := by decide +kernel
theorem al3 : pairsS [80, 97, 116, 104, 61, 47, 97, 59, 32, 83, 101, 99, 117, 114, 101] = [([112, 97, 116, 104], [47, 97]), ([115, 101, 99, 117, 114, 101], [])] := by decide +kernel
theorem al4 : nameS [120, 45, 97] = true := by decide +kernel
theorem al5 : lowerS [65, 98, 67] = [97, 98, 99] := by decide +kernel
theorem al6 : trimS [32, 97, 32] = [97] := by decide +kernel

/-- A row of pairs in a block of its own, as far as a walk reads it. -/
def PairsAt (w : World) (ao : Option Addr) (ps : List (List UInt8 × List UInt8)) : Prop :=
  ∀ k (h : k < ps.length), ∃ g, ao = some ⟨g, 0, none⟩ ∧ w.cell? ⟨g, 2 * k, none⟩ = some (.string ⟨ps[k].1.toArray⟩) ∧ w.cell? ⟨g, 2 * k + 1, none⟩ = some (.string ⟨ps[k].2.toArray⟩)
theorem PairsAt.keep {w w' : World} {ao : Option Addr} {ps : List (List UInt8 × List UInt8)} (h : PairsAt w ao ps) (hb : Below w.heap.size w w') : PairsAt w' ao ps := by
  intro k hk
  obtain ⟨g, hg, h1, h2⟩ := h k hk
  exact ⟨g, hg, by rw [hb.cell (World.block_lt_of_cell? w _ h1)]; exact h1, by rw [hb.cell (World.block_lt_of_cell? w _ h2)]; exact h2⟩
theorem flat_at (ps : List (List UInt8 × List UInt8)) : ∀ k (h : k < ps.length), (ps.flatMap pairV)[2 * k]? = some (.string ⟨ps[k].1.toArray⟩) ∧ (ps.flatMap pairV)[2 * k + 1]? = some (.string ⟨ps[k].2.toArray⟩) := by
  induction ps with
  | nil => intro k h; simp at h
  | cons p ps ih =>
    intro k h
    rw [List.flatMap_cons]
    unfold pairV
    cases k with
    | zero => exact ⟨rfl, rfl⟩
    | succ k =>
      have := ih k (by simpa using h)
      refine ⟨?_, ?_⟩
      · rw [List.getElem?_append_right (by simp; omega)]; simp only [List.length_cons, List.length_nil]; rw [show 2 * (k + 1) - (0 + 1 + 1) = 2 * k by omega]; exact this.1
      · rw [List.getElem?_append_right (by simp; omega)]; simp only [List.length_cons, List.length_nil]; rw [show 2 * (k + 1) + 1 - (0 + 1 + 1) = 2 * k + 1 by omega]; exact this.2
theorem owns_pairs {w : World} {base : Nat} {v : Value} {ps : List (List UInt8 × List UInt8)} (h : w.ownsRow base 36 2 v ps.length (ps.flatMap pairV)) : ∃ (ao : Option Addr) (cap : Nat), v = .slice ao ps.length cap ∧ ps.length ≤ cap ∧ PairsAt w ao ps := by
  rcases h.2 with ⟨rfl, h0⟩ | ⟨g, cap, cur, rfl, hb, hh, hn, _, hsz, htk⟩
  · exact ⟨none, 0, by rw [h0], by omega, fun k h => by omega⟩
  · refine ⟨some ⟨g, 0, none⟩, cap, rfl, hn, fun k hk => ⟨g, rfl, ?_⟩⟩
    have hc : ∀ j, j < ps.length * 2 → w.cell? ⟨g, j, none⟩ = (ps.flatMap pairV)[j]? := by
      intro j hj
      have : (cur.toList.take (ps.length * 2))[j]? = (ps.flatMap pairV)[j]? := by rw [htk]
      rw [List.getElem?_take, if_pos hj] at this
      have e : w.cell? ⟨g, j, none⟩ = cur[j]? := by simp [World.cell?, hh]
      rw [e, ← this]; simp
    obtain ⟨f1, f2⟩ := flat_at ps k hk
    exact ⟨by rw [hc _ (by omega)]; exact f1, by rw [hc _ (by omega)]; exact f2⟩
theorem pairs_roundB {B : Nat} {w3 : World} {qs : List (List UInt8 × List UInt8)} {x : List UInt8 × List UInt8} {v' : Value}
    (hown : w3.ownsRow B 36 2 v' (qs.length + 1) (qs.flatMap pairV ++ [.string ⟨x.1.toArray⟩, .string ⟨x.2.toArray⟩])) :
    ∃ (ao : Option Addr) (cv : Nat), v' = .slice ao (qs ++ [x]).length cv ∧ Hid (w3.ownsRow B 36 2 (.slice ao (qs ++ [x]).length cv) (qs ++ [x]).length ((qs ++ [x]).flatMap pairV)) := by
  have hq : (qs ++ [x]).length = qs.length + 1 := by simp
  obtain ⟨g, cap, hv⟩ : ∃ g cap, v' = .slice (some ⟨g, 0, none⟩) (qs.length + 1) cap := by
    rcases hown.2 with ⟨_, h⟩ | ⟨g, cap, _, h, _⟩
    · omega
    · exact ⟨g, cap, h⟩
  subst hv
  refine ⟨some ⟨g, 0, none⟩, cap, by rw [hq], ?_⟩
  unfold Hid; rw [hq, List.flatMap_append]
  have : [x].flatMap pairV = [.string ⟨x.1.toArray⟩, .string ⟨x.2.toArray⟩] := by simp [pairV]
  rw [this]; exact hown
theorem pairs_out (l : List UInt8) (w : World) (henv : Env w) (hl : l.length < 4294967281) :
    Calls Tryd.prog 13 #[.string ⟨l.toArray⟩] w fun e w' => ∃ (ao : Option Addr) (cap : Nat), e = .returned (.slice ao (pairsS l).length cap) ∧ (pairsS l).length ≤ cap ∧ PairsAt w' ao (pairsS l) ∧ Below w.heap.size w w' := by
  refine (pairs_any l w henv hl).mono ?_
  rintro e w' ⟨ao, cap, rfl, hown, hB⟩
  obtain ⟨ao', cap', hv, hc, hP⟩ := owns_pairs hown
  cases hv
  exact ⟨ao, cap, rfl, hc, hP, hB⟩
theorem ak3 (w : World) (henv : Env w) : Calls Tryd.prog 13 #[.string ⟨#[80, 97, 116, 104, 61, 47, 97, 59, 32, 83, 101, 99, 117, 114, 101]⟩] w fun e w' => ∃ (g cap : Nat), e = .returned (.slice (some ⟨g, 0, none⟩) 2 cap) ∧
    (w'.cell? ⟨g, 0, none⟩ = some (.string ⟨#[112, 97, 116, 104]⟩) ∧ w'.cell? ⟨g, 1, none⟩ = some (.string ⟨#[47, 97]⟩) ∧ w'.cell? ⟨g, 2, none⟩ = some (.string ⟨#[115, 101, 99, 117, 114, 101]⟩) ∧ w'.cell? ⟨g, 3, none⟩ = some (.string ⟨#[]⟩)) ∧ Below w.heap.size w w' := by
  refine (pairs_out [80, 97, 116, 104, 61, 47, 97, 59, 32, 83, 101, 99, 117, 114, 101] w henv (by decide)).mono ?_
  rw [al3]
  rintro e w' ⟨ao, cap, rfl, _, hT, hB⟩
  obtain ⟨g, rfl, h1, h2⟩ := hT 0 (by decide)
  obtain ⟨g', hg', h3, h4⟩ := hT 1 (by decide)
  cases hg'
  exact ⟨g, cap, rfl, ⟨h1, h2, h3, h4⟩, hB⟩
theorem ak5 (w : World) : Calls Tryd.prog 28 #[.string ⟨#[65, 98, 67]⟩] w fun e w' => e = .returned (.string ⟨#[97, 98, 99]⟩) ∧ Below w.heap.size w w' := by
  have h := lower_any [65, 98, 67] w (by decide)
  rw [al5] at h; exact h
theorem ak6 (w : World) : Calls Tryd.prog 30 #[.string ⟨#[32, 97, 32]⟩] w fun e w' => e = .returned (.string ⟨#[97]⟩) ∧ Below w.heap.size w w' := by
  have h := trim_any [32, 97, 32] w (by decide)
  rw [al6] at h; exact h

/-- Two arrays of two texts, compared. -/
theorem eqTwo (w : World) (a b c d : List UInt8) : (Op.equalIn 10000 36 (.agg #[.string ⟨a.toArray⟩, .string ⟨b.toArray⟩]) (.agg #[.string ⟨c.toArray⟩, .string ⟨d.toArray⟩])).run Tryd.prog w = .ok (a == c && b == d) w := by
  obtain ⟨i0, hi, _⟩ := info_parts infoS
  have he : Tryd.prog.plainKey 9 = true := by kernel_rfl
  have hc : Tryd.prog.cellsOf 9 = 1 := by kernel_rfl
  rw [show (10000 : Nat) = 9999 + 1 from rfl, run_equalIn_array w 9999 _ _ Tryd.underlying36 hi, hc, show List.range 2 = [0, 1] from rfl]
  have p1 : (part 9 #[.string ⟨a.toArray⟩, .string ⟨b.toArray⟩] (0 * 1)).run Tryd.prog w = .ok (.string ⟨a.toArray⟩) w := run_part_plain w he rfl
  have p2 : (part 9 #[.string ⟨c.toArray⟩, .string ⟨d.toArray⟩] (0 * 1)).run Tryd.prog w = .ok (.string ⟨c.toArray⟩) w := run_part_plain w he rfl
  have p3 : (part 9 #[.string ⟨a.toArray⟩, .string ⟨b.toArray⟩] 1).run Tryd.prog w = .ok (.string ⟨b.toArray⟩) w := run_part_plain w he rfl
  have p4 : (part 9 #[.string ⟨c.toArray⟩, .string ⟨d.toArray⟩] 1).run Tryd.prog w = .ok (.string ⟨d.toArray⟩) w := run_part_plain w he rfl
  have q1 : (Op.equalIn 9999 9 (.string ⟨a.toArray⟩) (.string ⟨c.toArray⟩)).run Tryd.prog w = .ok (a == c) w := by
    rw [show (9999 : Nat) = 9998 + 1 from rfl, run_equalIn_string w 9998 _ _ _ Tryd.underlying9, ByteArray.toList_eq, ByteArray.toList_eq]
  have q2 : (Op.equalIn 9999 9 (.string ⟨b.toArray⟩) (.string ⟨d.toArray⟩)).run Tryd.prog w = .ok (b == d) w := by
    rw [show (9999 : Nat) = 9998 + 1 from rfl, run_equalIn_string w 9998 _ _ _ Tryd.underlying9, ByteArray.toList_eq, ByteArray.toList_eq]
  simp only [Op.eqItems, Sem.run_bind, p1, p2, q1, Result.andThen_ok]
  cases (a == c)
  · simp
  · cases h : (b == d) <;> simp [p3, p4, q2, h]
theorem keepc {W W' : World} {a : Addr} {v : Value} (hb : Below W.heap.size W W') (h : W.cell? a = some v) : W'.cell? a = some v := by
  rw [hb.cell (World.block_lt_of_cell? W _ h)]; exact h

end Go.Proofs.YtfbalmamhcbojaaDoor
