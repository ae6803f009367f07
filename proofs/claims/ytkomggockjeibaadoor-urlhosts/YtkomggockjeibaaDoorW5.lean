/- Walks over url.Text and moatlaw1.awake. -/
import Derived.Test.YtkomggockjeibaaDoorW4
import Derived.Lib.ItoaLen
import Derived.Lib.QuietBelow
import Derived.BigQuiet
namespace Go.Proofs.YtkomggockjeibaaDoor
open Go.RowKit Go.Proofs.Url

theorem below_grow (w : World) (q : Nat) (os : Array Obj) : Below w.heap.size w (Sort.grow (w.drewN q) os) :=
  ⟨rfl, rfl, rfl, by first | (simp [Sort.grow]; done) | (simp [Sort.grow]; omega), fun i hi => by
    show ((w.drewN q).heap ++ os)[i]? = _
    rw [Array.getElem?_append_left (by show i < w.heap.size; omega)]
    rfl⟩

theorem itoa_any (p : Int) (hp1 : 1 ≤ p) (hp2 : p ≤ 65535) (w : World) (henv : Env w) :
    Calls Tryd.prog 36 #[.int .i64 p] w fun e w' => e = .returned (.string ⟨(Lib.decDigits p.toNat).toArray⟩) ∧ Below w.heap.size w w' := by
  have hI : Lib.itoa p = Lib.decDigits p.toNat := by unfold Lib.itoa; rw [if_neg (by omega)]
  refine (Tryd.strconv_Itoa p (by omega) (by omega) _ henv.2).mono ?_
  rintro e w2 ⟨rfl, k, os, rfl⟩
  exact ⟨by rw [hI], below_grow w k os⟩

set_option maxHeartbeats 400000 in
theorem text_any (nm sch hst : List UInt8) (p : Int) (w : World) (henv : Env w) (h1 : sch.length < 1000000000) (h2 : hst.length < 1000000000) :
    Calls Tryd.prog 17 #[.agg #[.string ⟨nm.toArray⟩, .string ⟨sch.toArray⟩, .string ⟨hst.toArray⟩, .int .i64 p]] w
      fun e w' => e = .returned (.string ⟨(textS sch hst p).toArray⟩) ∧ Below w.heap.size w w' := by
  by_cases h0 : own sch = 0
  · have HR : Hid (textS sch hst p = []) := by unfold textS Hid; rw [if_pos (.inl h0)]
    go_enter Tryd.func17, Tryd.ntmps17
    go_wp2_with fail
    refine (ownPortL_any _ _).mono ?_
    rintro e w' ⟨rfl, rfl⟩
    rw [h0]
    go_wp2_with fail
    go_ret
    exact ⟨by rw [HR.out]; rfl, (Below.refl _ _).alloc (Nat.le_refl _) _⟩
  have h0' : decide (own sch = 0) = false := by simpa using h0
  go_enter Tryd.func17, Tryd.ntmps17
  go_wp2_with fail
  refine (ownPortL_any _ _).mono ?_
  rintro e w' ⟨rfl, rfl⟩
  rw [h0']
  generalize hP : own sch = P at *
  have HPo := hide hP
  clear hP h0'
  go_wp2_with fail
  refine (hostL_any _ _ (henv.alloc _) (by omega)).mono ?_
  rintro e w1 ⟨rfl, hb⟩
  obtain ⟨hc, hf⟩ := bcell hb
  have hz : w.heap.size < w1.heap.size := by have := hb.size; simp at this; omega
  have hbw : Below w.heap.size w w1 := ((Below.refl _ _).alloc (Nat.le_refl _) _).trans (hb.mono (by simp))
  by_cases hh : host hst = false
  · have HR : Hid (textS sch hst p = []) := by unfold textS Hid; rw [if_pos (.inr (.inl hh))]
    rw [hh]
    clear hh
    go_wp2_with fail
    go_ret
    exact ⟨by rw [HR.out]; rfl, hbw⟩
  have HH : Hid (host hst = true) := by unfold Hid; simpa using hh
  clear hh
  rw [HH.out]
  go_wp2_with fail
  refine (isPort_any _ _).mono ?_
  rintro e w' ⟨rfl, rfl⟩
  by_cases hp : 1 ≤ p ∧ p ≤ 65535
  rotate_left
  · have HR : Hid (textS sch hst p = []) := by unfold textS Hid; rw [if_pos (.inr (.inr hp))]
    rw [show decide (1 ≤ p ∧ p ≤ 65535) = false from decide_eq_false hp]
    clear hp
    go_wp2_with fail
    go_ret
    exact ⟨by rw [HR.out]; rfl, hbw⟩
  rw [show decide (1 ≤ p ∧ p ≤ 65535) = true from decide_eq_true hp]
  obtain ⟨hp1, hp2⟩ := hp
  by_cases hq : p = P
  · have HR : Hid (textS sch hst p = sch ++ slashes ++ hst) := by
      unfold textS Hid; rw [if_neg (by rw [HPo.out, HH.out]; simp; omega), if_pos (by rw [HPo.out]; exact hq)]
    have hq' : (p == P) = true := beq_iff_eq.2 hq
    clear hq
    go_wp2_with fail
    go_ret
    exact ⟨by rw [HR.out]; rfl, hbw⟩
  have HR : Hid (textS sch hst p = sch ++ slashes ++ hst ++ [58] ++ Lib.decDigits p.toNat) := by
    unfold textS Hid; rw [if_neg (by rw [HPo.out, HH.out]; simp; omega), if_neg (by rw [HPo.out]; exact hq)]
  have hq' : (p == P) = false := beq_eq_false_iff_ne.2 hq
  have HE := hide ((henv.alloc (.cells #[.string ⟨nm.toArray⟩, .string ⟨sch.toArray⟩, .string ⟨hst.toArray⟩, .int .i64 p] 24)).keep hb)
  have hdl : (Lib.decDigits p.toNat).length ≤ 21 := by
    have := Lib.itoa_length_le p (by omega) (by omega)
    unfold Lib.itoa at this; rwa [if_neg (by omega)] at this
  have k1 := cell_regrown (show w'.cell? ⟨w.heap.size, 1, none⟩ = some (.string ⟨sch.toArray⟩) by rw [hc _ _ (by simp)]; simp)
  have k2 := cell_regrown (show w'.cell? ⟨w.heap.size, 2, none⟩ = some (.string ⟨hst.toArray⟩) by rw [hc _ _ (by simp)]; simp)
  have k3 := cell_regrown (show w'.cell? ⟨w.heap.size, 3, none⟩ = some (.int .i64 p) by rw [hc _ _ (by simp)]; simp)
  have cI : ∀ d os, Calls Tryd.prog 36 #[.int .i64 p] (Sort.grow (redrawn w' d) os) fun e w'' => e = .returned (.string ⟨(Lib.decDigits p.toNat).toArray⟩) ∧ ∃ q : Regrown, w'' = Sort.grow (redrawn w' q.d) q.os :=
    fun d os => Calls.regrown_of (itoa_any p hp1 hp2 _ (HE.out.keep (below_regrown w' d os)))
  clear hq
  go_wp2_with fail
  clear hc hf hb
  refine wp_region_quiet_below (by kernel_rfl) (by kernel_rfl) ?_
  have m1 : ¬ 9223372036854775807 < sch.length + 3 := by omega
  have m2 : ¬ 9223372036854775807 < sch.length + 3 + hst.length := by omega
  have m3 : ¬ 9223372036854775807 < sch.length + 3 + hst.length + 1 := by omega
  have m4 : ¬ 9223372036854775807 < sch.length + 3 + hst.length + 1 + (Lib.decDigits p.toNat).length := by omega
  repeat (quiet_step (exact cI _ _))
  refine wpQuiet_nil ?_
  intro _ hw'
  obtain ⟨⟨dq, osq⟩, hw''⟩ := hw'
  subst hw''
  go_wp2_with fail
  go_ret
  exact ⟨by rw [HR.out]; rfl, hbw.trans ((below_regrown w' dq osq).mono (by omega))⟩
end Go.Proofs.YtkomggockjeibaaDoor
