/- The walk over moatlaw3.FieldTrims. -/
import Derived.Test.YtaabficekcnlnaaDoorV4
import Derived.Test.YtaabficekcnlnaaDoorV7
namespace Go.Proofs.YtaabficekcnlnaaDoor
open Go.RowKit Go.Proofs.Url

theorem gaps5 (m : Nat) (h : m < 5) : ∃ g : List UInt8, [Value.string { data := #[] }, Value.string { data := #[32] }, Value.string { data := #[9] }, Value.string { data := #[32, 9, 32] }, Value.string { data := #[9, 9] }][m] = .string ⟨g.toArray⟩ ∧ g.all gapB = true ∧ g.length ≤ 3 := by
  match m, h with
  | 0, _ => exact ⟨[], rfl, rfl, by decide⟩
  | 1, _ => exact ⟨[32], rfl, by decide, by decide⟩
  | 2, _ => exact ⟨[9], rfl, by decide, by decide⟩
  | 3, _ => exact ⟨[32, 9, 32], rfl, by decide, by decide⟩
  | 4, _ => exact ⟨[9, 9], rfl, by decide, by decide⟩

theorem trim_sum (g l : List UInt8) (hg : g.all gapB = true) (hl : l.length ≤ 200) (hg3 : g.length ≤ 3) (W : World) :
    Calls Tryd.prog 18 #[.string ((⟨g.toArray⟩ : ByteArray) ++ ⟨l.toArray⟩ ++ ⟨g.toArray⟩)] W fun e w' => e = .returned (.string ⟨(trimS l).toArray⟩) ∧ Below W.heap.size W w' := by
  have h := trim_any (g ++ l ++ g) W (by simp; omega)
  rw [trimS_gaps hg hg l] at h
  rw [show ((⟨g.toArray⟩ : ByteArray) ++ ⟨l.toArray⟩ ++ ⟨g.toArray⟩) = ⟨(g ++ l ++ g).toArray⟩ from dataEq (by simp)]
  exact h
theorem ends_of {t : List UInt8} {a b : UInt8} (ha : t.head? = some a) (hb : t.getLast? = some b) (ga : gapB a = false) (gb : gapB b = false) : ∃ (h : 0 < t.length) (h' : t.length - 1 < t.length), gapB t[0] = false ∧ gapB t[t.length - 1] = false := by
  cases t with
  | nil => simp at ha
  | cons x r =>
    refine ⟨by simp, by simp, ?_, ?_⟩
    · have : x = a := by simpa using ha
      show gapB x = false
      rw [this]; exact ga
    · rw [List.getLast?_eq_getElem?, List.getElem?_eq_getElem (by simp)] at hb
      rw [Option.some.inj hb]; exact gb

set_option maxHeartbeats 1000000 in
theorem trims_law (l : List UInt8) (gap : Int) (w : World) (henv : Env w) :
    Calls Tryd.prog 6 #[.string ⟨l.toArray⟩, .int .i64 gap] w fun e w' => e = .returned (.bool true) ∧ Below w.heap.size w w' := by
  by_cases h200 : 200 < l.length
  · have h2 : (200 : Int) < (l.length : Int) := by omega
    go_enter Tryd.func6, Tryd.ntmps6
    go_wp2_with fail
    refine (awake3_any _ henv).mono ?_
    rintro e w1 ⟨rfl, hb1⟩
    go_wp2_with fail
    go_ret
    exact ⟨rfl, hb1⟩
  have h2 : ¬ (200 : Int) < (l.length : Int) := by omega
  have h200' : l.length ≤ 200 := by omega
  clear h200
  obtain ⟨m, hm, hml⟩ : ∃ m : Nat, low gap 5 = (m : Int) ∧ m < 5 := by
    have a := low_nn gap 5 (by decide)
    have b := low_lt gap 5 (by decide)
    exact ⟨(low gap 5).toNat, by omega, by omega⟩
  have HM := hide hm
  clear hm
  go_enter Tryd.func6, Tryd.ntmps6
  go_wp2_with fail
  refine (low_any _ _ _ (by decide) (by decide)).mono ?_
  rintro e w1 ⟨rfl, hw1⟩
  subst hw1
  rw [HM.out]
  go_wp2_with fail
  obtain ⟨g, hg, hgg, hg3⟩ := gaps5 m hml
  rw [hg]
  have HG := hide hgg
  clear hg hgg HM hml
  have B0 : Hid (∀ o, Below w.heap.size w (w.alloc o)) := fun o => (Below.refl _ _).alloc (Nat.le_refl _) _
  refine (trim_any l _ (by omega)).mono ?_
  rintro e w2 ⟨rfl, hb2⟩
  have B2 := hide ((B0.out _).trans (hb2.mono (B0.out _).size))
  clear hb2
  go_wp2_with fail
  refine (lower_any l _ (by omega)).mono ?_
  rintro e w3 ⟨rfl, hb3⟩
  have B3 := hide (B2.out.trans (hb3.mono B2.out.size))
  clear hb3
  go_wp2_with fail
  refine (trim_sum g l HG.out (by omega) hg3 _).mono ?_
  rintro e w4 ⟨rfl, hb4⟩
  have B4 := hide (B3.out.trans (hb4.mono B3.out.size))
  clear hb4 B2 B3 HG hg3
  have HTL := trimS_len l
  have HTT := hide (trimS_trimS l)
  have HE := hide (trimS_ends l)
  generalize trimS l = t at *
  have HLL := hide (lowerS_lowerS l)
  have HLe := hide (lowerS_len l)
  have hlo : (lowerS l).length ≤ 200 := by rw [lowerS_len]; exact h200'
  have HLN := hide (nameS_lowerS l)
  have hbl : (((lowerS l).length : Int) != (l.length : Int)) = false := by rw [HLe.out]; simp
  generalize lowerS l = lo at *
  go_wp2_with fail
  refine (trim_any t _ (by omega)).mono ?_
  rintro e w5 ⟨rfl, hb5⟩
  rw [HTT.out]
  have B5 := hide (B4.out.trans (hb5.mono B4.out.size))
  clear hb5 B4
  go_wp2_with fail
  refine (lower_any lo _ (by omega)).mono ?_
  rintro e w6 ⟨rfl, hb6⟩
  rw [HLL.out]
  have B6 := hide (B5.out.trans (hb6.mono B5.out.size))
  clear hb6 B5
  go_wp2_with fail
  refine (nameL_any l _ (by omega)).mono ?_
  rintro e w7 ⟨rfl, rfl⟩
  go_wp2_with fail
  refine (nameL_any lo _ (by omega)).mono ?_
  rintro e w8 ⟨rfl, rfl⟩
  rw [HLN.out]
  have E7 := hide (henv.keep B6.out)
  have hnn : (nameS l != nameS l) = false := by simp
  have hnn2 : (nameS l == nameS l) = true := by simp
  generalize nameS l = nm at *
  rcases HE.out with rfl | ⟨a, b, ha, hb, ga, gb⟩
  · go_wp2_with fail
    refine (awake3_any _ E7.out).mono ?_
    rintro e w9 ⟨rfl, hb9⟩
    have B9 := hide (B6.out.trans (hb9.mono B6.out.size))
    clear hb9
    go_wp2_with fail
    go_ret
    exact ⟨rfl, B9.out⟩
  · obtain ⟨hpos, hpos', g0, g1⟩ := ends_of ha hb ga gb
    rw [gap_iff, Bool.or_eq_false_iff] at g0 g1
    obtain ⟨g2, g3⟩ := g0
    obtain ⟨g4, g5⟩ := g1
    have hem : t.isEmpty = false := by cases t; simp at hpos; rfl
    have s0 : 0 < (⟨t.toArray⟩ : ByteArray).size := by rw [size_mk]; exact hpos
    have s1 : t.length - 1 < (⟨t.toArray⟩ : ByteArray).size := by rw [size_mk]; exact hpos'
    have q2 : (((⟨t.toArray⟩ : ByteArray)[0].toNat : Int) != 32) = true := by rw [bne, show (⟨t.toArray⟩ : ByteArray)[0] = t[0] from rfl, g2]; rfl
    have q3 : (((⟨t.toArray⟩ : ByteArray)[0].toNat : Int) != 9) = true := by rw [bne, show (⟨t.toArray⟩ : ByteArray)[0] = t[0] from rfl, g3]; rfl
    have q4 : (((⟨t.toArray⟩ : ByteArray)[t.length - 1].toNat : Int) != 32) = true := by rw [bne, show (⟨t.toArray⟩ : ByteArray)[t.length - 1] = t[t.length - 1] from rfl, g4]; rfl
    have q5 : (((⟨t.toArray⟩ : ByteArray)[t.length - 1].toNat : Int) != 9) = true := by rw [bne, show (⟨t.toArray⟩ : ByteArray)[t.length - 1] = t[t.length - 1] from rfl, g5]; rfl
    clear ha hb ga gb HE HTT HLL HLN g2 g3 g4 g5
    go_wp2_with fail
    refine (awake3_any _ E7.out).mono ?_
    rintro e w9 ⟨rfl, hb9⟩
    have B9 := hide (B6.out.trans (hb9.mono B6.out.size))
    clear hb9
    go_wp2_with fail
    go_ret
    exact ⟨rfl, B9.out⟩
theorem trims_string (s : ByteArray) (gap : Int) (w : World) (henv : Env w) :
    Calls Tryd.prog 6 #[.string s, .int .i64 gap] w fun e w' => e = .returned (.bool true) ∧ Below w.heap.size w w' := by
  have h := trims_law s.data.toList gap w henv
  rw [mk_data] at h
  exact h
end Go.Proofs.YtaabficekcnlnaaDoor
