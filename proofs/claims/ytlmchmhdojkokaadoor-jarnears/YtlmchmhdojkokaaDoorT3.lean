/- Walks over package jar: hostFits, Fits, Visible, Goes. -/
import Derived.Test.YtlmchmhdojkokaaDoorS2
import Derived.Test.YtlmchmhdojkokaaDoorT2
namespace Go.Proofs.YtlmchmhdojkokaaDoor
open Go.RowKit Go.Proofs.Url

set_option maxHeartbeats 400000 in
theorem hostFits_any (d o h : List UInt8) (w : World) (henv : Env w) (hd : d.length < 4294967281) (hh : h.length < 4294967281) :
    Calls Tryd.prog 20 #[.string ⟨d.toArray⟩, .string ⟨o.toArray⟩, .string ⟨h.toArray⟩] w fun e w' => e = .returned (.bool (hostJ d o h)) ∧ Below w.heap.size w w' := by
  by_cases h1 : h = o
  · have HE : Hid (hostJ d o h = true) := by unfold Hid hostJ; simp [h1]
    have hb : (h == o) = true := beq_iff_eq.2 h1
    clear h1
    go_enter Tryd.func20, Tryd.ntmps20
    go_wp2_with fail
    go_ret
    exact ⟨ret_bool HE.out.symm, Below.refl _ _⟩
  have hb : (h == o) = false := beq_eq_false_iff_ne.2 h1
  by_cases h2 : d = []
  · have HE : Hid (hostJ d o h = false) := by unfold Hid hostJ; simp [h1, h2]
    subst h2
    clear h1
    go_enter Tryd.func20, Tryd.ntmps20
    go_wp2_with fail
    go_ret
    exact ⟨ret_bool HE.out.symm, Below.refl _ _⟩
  have HE : Hid (hostJ d o h = underS h d) := by unfold Hid hostJ; simp [h1, h2]
  have hc : d.isEmpty = false := by cases d; exact absurd rfl h2; rfl
  have UA := hide (fun W hW => under_any h d W hW hh hd)
  clear h1 h2
  generalize underS h d = ub at *
  go_enter Tryd.func20, Tryd.ntmps20
  go_wp2_with fail
  refine (UA.out _ henv).mono ?_
  rintro e w1 ⟨rfl, hb1⟩
  go_wp2_with fail
  go_ret
  exact ⟨ret_bool HE.out.symm, hb1⟩

/-- A cookie, an origin, as they are handed over. -/
def cookV (nm : ByteArray) (o : Int) (dom way : List UInt8) (sec htt : Bool) (same : Int) : Value := .agg #[.string nm, .int .i64 o, .string ⟨dom.toArray⟩, .string ⟨way.toArray⟩, .bool sec, .bool htt, .int .i64 same]
def orgV (nm : ByteArray) (sch hst : List UInt8) (port : Int) : Value := .agg #[.string nm, .string ⟨sch.toArray⟩, .string ⟨hst.toArray⟩, .int .i64 port]
theorem two_new (w : World) (a b : Obj) : Below w.heap.size w ((w.alloc a).alloc b) := ((Below.refl _ _).alloc (Nat.le_refl _) _).alloc (by simp) _

set_option maxHeartbeats 1000000 in
theorem fits_any (nm : ByteArray) (o : Int) (dom way : List UInt8) (sec htt : Bool) (same : Int) (own : List UInt8) (on : ByteArray) (sch hst : List UInt8) (port : Int) (path : List UInt8) (w : World) (henv : Env w)
    (h1 : dom.length < 4294967281) (h2 : path.length < 4294967281) (h3 : hst.length < 4294967281) :
    Calls Tryd.prog 10 #[cookV nm o dom way sec htt same, .string ⟨own.toArray⟩, orgV on sch hst port, .string ⟨path.toArray⟩] w
      fun e w' => e = .returned (.bool (fitsJ dom way sec own sch hst path)) ∧ Below w.heap.size w w' := by
  have B0 : Hid (∀ a b, Below w.heap.size w ((w.alloc a).alloc b)) := two_new w
  have HH := hide (fun W hW => hostFits_any dom own hst W hW h1 h3)
  have HP := hide (fun W => pathFits_any way path W h2)
  have HF : Hid (fitsJ dom way sec own sch hst path = ((!sec || decide (sch = https)) && pathJ way path && hostJ dom own hst)) := rfl
  unfold cookV orgV
  by_cases h : sec = true ∧ sch ≠ https
  · obtain ⟨rfl, hs⟩ := h
    have HE : Hid (fitsJ dom way true own sch hst path = false) := by unfold Hid; rw [HF.out]; simp [hs]
    have hb : (sch == [104, 116, 116, 112, 115]) = false := beq_eq_false_iff_ne.2 hs
    clear hs HF
    go_enter Tryd.func10, Tryd.ntmps10
    go_wp2_with fail
    go_ret
    exact ⟨ret_bool HE.out.symm, B0.out _ _⟩
  have HF2 : Hid (fitsJ dom way sec own sch hst path = (pathJ way path && hostJ dom own hst)) := by
    unfold Hid; rw [HF.out]
    cases sec
    · rfl
    · have : sch = https := by
        by_cases e : sch = https
        · exact e
        · exact absurd ⟨rfl, e⟩ h
      simp [this]
  generalize fitsJ dom way sec own sch hst path = F at *
  generalize pathJ way path = pj at *
  generalize hostJ dom own hst = hj at *
  clear HF
  cases pj with
  | false =>
    have HE : Hid (F = false) := HF2.out
    cases sec with
    | false =>
      clear h HF2
      go_enter Tryd.func10, Tryd.ntmps10
      go_wp2_with fail
      refine (HP.out _).mono ?_
      rintro e w1 ⟨rfl, hw1⟩
      subst hw1
      go_wp2_with fail
      go_ret
      exact ⟨ret_bool HE.out.symm, B0.out _ _⟩
    | true =>
      have hb : (sch == [104, 116, 116, 112, 115]) = true := by
        rw [beq_iff_eq]
        by_cases e : sch = https
        · exact e
        · exact absurd ⟨rfl, e⟩ h
      clear h HF2
      go_enter Tryd.func10, Tryd.ntmps10
      go_wp2_with fail
      refine (HP.out _).mono ?_
      rintro e w1 ⟨rfl, hw1⟩
      subst hw1
      go_wp2_with fail
      go_ret
      exact ⟨ret_bool HE.out.symm, B0.out _ _⟩
  | true =>
    have HE : Hid (F = hj) := HF2.out
    cases sec with
    | false =>
      clear h HF2
      go_enter Tryd.func10, Tryd.ntmps10
      go_wp2_with fail
      refine (HP.out _).mono ?_
      rintro e w1 ⟨rfl, hw1⟩
      subst hw1
      go_wp2_with fail
      refine (HH.out _ (henv.keep (B0.out _ _))).mono ?_
      rintro e w2 ⟨rfl, hb2⟩
      have B2 := hide ((B0.out _ _).trans (hb2.mono (B0.out _ _).size))
      clear hb2
      go_wp2_with fail
      go_ret
      exact ⟨ret_bool HE.out.symm, B2.out⟩
    | true =>
      have hb : (sch == [104, 116, 116, 112, 115]) = true := by
        rw [beq_iff_eq]
        by_cases e : sch = https
        · exact e
        · exact absurd ⟨rfl, e⟩ h
      clear h HF2
      go_enter Tryd.func10, Tryd.ntmps10
      go_wp2_with fail
      refine (HP.out _).mono ?_
      rintro e w1 ⟨rfl, hw1⟩
      subst hw1
      go_wp2_with fail
      refine (HH.out _ (henv.keep (B0.out _ _))).mono ?_
      rintro e w2 ⟨rfl, hb2⟩
      have B2 := hide ((B0.out _ _).trans (hb2.mono (B0.out _ _).size))
      clear hb2
      go_wp2_with fail
      go_ret
      exact ⟨ret_bool HE.out.symm, B2.out⟩

set_option maxHeartbeats 1000000 in
theorem visible_any (nm : ByteArray) (o : Int) (dom way : List UInt8) (sec htt : Bool) (same : Int) (own : List UInt8) (on : ByteArray) (sch hst : List UInt8) (port : Int) (path : List UInt8) (w : World) (henv : Env w)
    (h1 : dom.length < 4294967281) (h2 : path.length < 4294967281) (h3 : hst.length < 4294967281) :
    Calls Tryd.prog 11 #[cookV nm o dom way sec htt same, .string ⟨own.toArray⟩, orgV on sch hst port, .string ⟨path.toArray⟩] w
      fun e w' => e = .returned (.bool (!htt && fitsJ dom way sec own sch hst path)) ∧ Below w.heap.size w w' := by
  have B0 : Hid (∀ a b, Below w.heap.size w ((w.alloc a).alloc b)) := two_new w
  have FA := hide (fun W hW => fits_any nm o dom way sec htt same own on sch hst port path W hW h1 h2 h3)
  generalize fitsJ dom way sec own sch hst path = F at *
  unfold cookV orgV at *
  cases htt with
  | true =>
    go_enter Tryd.func11, Tryd.ntmps11
    go_wp2_with fail
    go_ret
    exact ⟨rfl, B0.out _ _⟩
  | false =>
    go_enter Tryd.func11, Tryd.ntmps11
    go_wp2_with fail
    refine (FA.out _ (henv.keep (B0.out _ _))).mono ?_
    rintro e w2 ⟨rfl, hb2⟩
    have B2 := hide ((B0.out _ _).trans (hb2.mono (B0.out _ _).size))
    clear hb2
    go_wp2_with fail
    go_ret
    exact ⟨ret_bool (by simp), B2.out⟩

set_option maxHeartbeats 1000000 in
theorem goes_any (nm : ByteArray) (o : Int) (dom way : List UInt8) (sec htt : Bool) (same : Int) (near top : Bool) (m : List UInt8) (w : World) :
    Calls Tryd.prog 12 #[cookV nm o dom way sec htt same, .bool near, .bool top, .string ⟨m.toArray⟩] w
      fun e w' => e = .returned (.bool (goesJ same near top m)) ∧ Below w.heap.size w w' := by
  have B0 : Hid (∀ a, Below w.heap.size w (w.alloc a)) := fun a => (Below.refl _ _).alloc (Nat.le_refl _) _
  have HF : Hid (goesJ same near top m = (near || decide (same = 1) || (decide (same = 2) && top && readsJ m))) := rfl
  have RA := hide (fun W => onlyReads_any m W)
  generalize goesJ same near top m = F at *
  generalize readsJ m = rm at *
  unfold cookV
  cases near with
  | true =>
    have HE : Hid (F = true) := by unfold Hid; rw [HF.out]; rfl
    clear HF
    go_enter Tryd.func12, Tryd.ntmps12
    go_wp2_with fail
    go_ret
    exact ⟨ret_bool HE.out.symm, B0.out _⟩
  | false =>
    by_cases s1 : same = 1
    · have HE : Hid (F = true) := by unfold Hid; rw [HF.out]; simp [s1]
      have hb : (same == 1) = true := beq_iff_eq.2 s1
      clear HF s1
      go_enter Tryd.func12, Tryd.ntmps12
      go_wp2_with fail
      go_ret
      exact ⟨ret_bool HE.out.symm, B0.out _⟩
    have hb : (same == 1) = false := beq_eq_false_iff_ne.2 s1
    by_cases s2 : same = 2
    · have hb2 : (same == 2) = true := beq_iff_eq.2 s2
      cases top with
      | false =>
        have HE : Hid (F = false) := by unfold Hid; rw [HF.out]; simp [s1]
        clear HF s1 s2
        go_enter Tryd.func12, Tryd.ntmps12
        go_wp2_with fail
        go_ret
        exact ⟨ret_bool HE.out.symm, B0.out _⟩
      | true =>
        have HE : Hid (F = rm) := by unfold Hid; rw [HF.out]; simp [s2]
        clear HF s1 s2
        go_enter Tryd.func12, Tryd.ntmps12
        go_wp2_with fail
        refine (RA.out _).mono ?_
        rintro e w1 ⟨rfl, hw1⟩
        subst hw1
        go_wp2_with fail
        go_ret
        exact ⟨ret_bool HE.out.symm, B0.out _⟩
    · have hb2 : (same == 2) = false := beq_eq_false_iff_ne.2 s2
      have HE : Hid (F = false) := by unfold Hid; rw [HF.out]; simp [s1, s2]
      clear HF s1 s2
      go_enter Tryd.func12, Tryd.ntmps12
      go_wp2_with fail
      go_ret
      exact ⟨ret_bool HE.out.symm, B0.out _⟩
end Go.Proofs.YtlmchmhdojkokaaDoor
