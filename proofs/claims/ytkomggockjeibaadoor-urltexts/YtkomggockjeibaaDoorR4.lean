/- The walk over moatref1.Text. -/
import Derived.Test.YtkomggockjeibaaDoorR3
import Derived.Deep.QuietTactic
import Derived.BigQuiet
namespace Go.Proofs.YtkomggockjeibaaDoor
open Go.RowKit Go.Proofs.Url

theorem refHostL_any (l : List UInt8) (w : World) (h : l.length < 4294967281) :
    Calls Tryd.prog 14 #[.string ⟨l.toArray⟩] w fun e w' => e = .returned (.bool (host l)) ∧ Below w.heap.size w w' := refHost_any ⟨l.toArray⟩ w (by rw [size_mk]; exact h)

set_option maxHeartbeats 1000000 in
theorem refText_any (nm sch hst : List UInt8) (p : Int) (w : World) (h1 : sch.length < 1000000000) (h2 : hst.length < 1000000000) :
    Calls Tryd.prog 18 #[.agg #[.string ⟨nm.toArray⟩, .string ⟨sch.toArray⟩, .string ⟨hst.toArray⟩, .int .i64 p]] w
      fun e w' => e = .returned (.string ⟨(textS sch hst p).toArray⟩) ∧ Below w.heap.size w w' := by
  by_cases h0 : own sch = 0
  · have HR : Hid (textS sch hst p = []) := by unfold textS Hid; rw [if_pos (.inl h0)]
    go_enter Tryd.func18, Tryd.ntmps18
    go_wp2_with fail
    refine (refOwn_any _ _).mono ?_
    rintro e w' ⟨rfl, rfl⟩
    rw [h0]
    go_wp2_with fail
    go_ret
    exact ⟨by rw [HR.out]; rfl, (Below.refl _ _).alloc (Nat.le_refl _) _⟩
  have h0' : (own sch == 0) = false := beq_eq_false_iff_ne.2 h0
  have HOwn := hide (fun W => refOwn_any sch W)
  generalize hP : own sch = P at *
  have HPo := hide hP
  have H0 := hide h0
  clear hP h0
  go_enter Tryd.func18, Tryd.ntmps18
  go_wp2_with fail
  refine (HOwn.out _).mono ?_
  rintro e w' ⟨rfl, rfl⟩
  go_wp2_with fail
  refine (refHostL_any _ _ (by omega)).mono ?_
  rintro e w1 ⟨rfl, hb⟩
  obtain ⟨hc, hf⟩ := bcell hb
  have hz : w.heap.size < w1.heap.size := by have := hb.size; simp at this; omega
  have hbw : Below w.heap.size w w1 := ((Below.refl _ _).alloc (Nat.le_refl _) _).trans (hb.mono (by simp))
  have HBW := hide hbw
  clear hbw
  cases hh : host hst
  · have HR : Hid (textS sch hst p = []) := by unfold textS Hid; rw [if_pos (.inr (.inl hh))]
    clear hh
    go_wp2_with fail
    go_ret
    exact ⟨by rw [HR.out]; rfl, HBW.out⟩
  have HH := hide hh
  clear hh
  by_cases hp1 : p < 1
  · have HR : Hid (textS sch hst p = []) := by unfold textS Hid; rw [if_pos (.inr (.inr (by omega)))]
    go_wp2_with fail
    go_ret
    exact ⟨by rw [HR.out]; rfl, HBW.out⟩
  by_cases hp2 : 65535 < p
  · have HR : Hid (textS sch hst p = []) := by unfold textS Hid; rw [if_pos (.inr (.inr (by omega)))]
    go_wp2_with fail
    go_ret
    exact ⟨by rw [HR.out]; rfl, HBW.out⟩
  have c1 : w1.cell? ⟨w.heap.size, 1, none⟩ = some (.string ⟨sch.toArray⟩) := by rw [hc _ _ (by simp)]; simp
  have c3 : w1.cell? ⟨w.heap.size, 3, none⟩ = some (.int .i64 p) := by rw [hc _ _ (by simp)]; simp
  by_cases hq : p = P
  · have HR : Hid (textS sch hst p = sch ++ slashes ++ hst) := by
      unfold textS Hid; rw [if_neg (by have := H0.out; rw [HPo.out, HH.out]; simp; omega), if_pos (by rw [HPo.out]; exact hq)]
    have hq' : (p != P) = false := by simp [hq]
    clear hq
    go_wp2_with fail
    go_quiet ((go_at_call 28; exact Calls.quiet_of_same (HOwn.out _)))
    go_wp2_with fail
    go_ret
    exact ⟨by rw [HR.out]; rfl, below_drewN HBW.out _⟩
  · have HR : Hid (textS sch hst p = sch ++ slashes ++ hst ++ [58] ++ Lib.decDigits p.toNat) := by
      unfold textS Hid; rw [if_neg (by have := H0.out; rw [HPo.out, HH.out]; simp; omega), if_neg (by rw [HPo.out]; exact hq)]
    have hq' : (p != P) = true := by rw [bne_iff_ne]; exact hq
    have hdl := dec_len 4 p.toNat (by omega)
    have HD : Hid (∀ W, Calls Tryd.prog 22 #[.int .i64 p] W fun e w' => e = .returned (.string ⟨(Lib.decDigits p.toNat).toArray⟩) ∧ Below W.heap.size W w') := by
      intro W
      have := digits_any p.toNat W (by omega)
      rwa [Int.toNat_of_nonneg (by omega)] at this
    clear hq
    go_wp2_with fail
    go_quiet ((go_at_call 28; exact Calls.quiet_of_same (HOwn.out _)))
    go_wp2_with fail
    refine (HD.out _).mono ?_
    rintro e w2 ⟨rfl, hb2⟩
    have HB2 : Hid (Below w.heap.size w w2) := (below_drewN HBW.out _).trans (hb2.mono HBW.out.size)
    clear hb2
    go_wp2_with fail
    go_ret
    exact ⟨by rw [HR.out]; rfl, HB2.out⟩
end Go.Proofs.YtkomggockjeibaaDoor
