/- Walks over jar.Near and moatlaw8.awake. -/
import Derived.Test.YtlmchmhdojkokaaDoorT3
import Derived.Test.YtlmchmhdojkokaaDoorQL
namespace Go.Proofs.YtlmchmhdojkokaaDoor
open Go.RowKit Go.Proofs.Url

/-- An origin in a row of them. -/
structure Og where
  nm : List UInt8
  sch : List UInt8
  hst : List UInt8
  port : Int
def ogCells (x : Og) : List Value := [.string ⟨x.nm.toArray⟩, .string ⟨x.sch.toArray⟩, .string ⟨x.hst.toArray⟩, .int .i64 x.port]
def OrgsAt (W : World) (ao : Option Addr) (os : List Og) : Prop :=
  ∀ k (h : k < os.length), ∃ g, ao = some ⟨g, 0, none⟩ ∧ g < W.heap.size ∧ W.rangeAt g (k * 4) (ogCells os[k])
theorem rangeO_keep {W W' : World} {B g o : Nat} {cs : List Value} (h : W.rangeAt g o cs) (hb : Below B W W') (hg : g < B) : W'.rangeAt g o cs := by
  intro j v hj
  rw [hb.cell (p := ⟨g, o + j, none⟩) hg]; exact h j v hj
theorem OrgsAt.keep {W W' : World} {ao : Option Addr} {os : List Og} (h : OrgsAt W ao os) (hb : Below W.heap.size W W') : OrgsAt W' ao os := by
  intro k hk
  obtain ⟨g, h1, h2, h3⟩ := h k hk
  exact ⟨g, h1, Nat.lt_of_lt_of_le h2 hb.size, rangeO_keep h3 hb h2⟩
/-- Who is near, as the program tells it. -/
def nearJ (b t : Int) (os : List Og) : Bool :=
  decide (b = -2) || (decide (0 ≤ b ∧ b < os.length) && decide (0 ≤ t ∧ t < os.length) && (match os[b.toNat]?, os[t.toNat]? with
    | some x, some y => sameP x.sch y.sch x.hst y.hst
    | _, _ => false))
theorem nearJ_user (t : Int) (os : List Og) : nearJ (-2) t os = true := rfl
theorem nearJ_no1 {b t : Int} {os : List Og} (h0 : b ≠ -2) (h : ¬ (0 ≤ b ∧ b < os.length)) : nearJ b t os = false := by unfold nearJ; simp [h0, h]
theorem nearJ_no2 {b t : Int} {os : List Og} (h0 : b ≠ -2) (h : ¬ (0 ≤ t ∧ t < os.length)) : nearJ b t os = false := by unfold nearJ; simp [h0, h]
theorem nearJ_at {b t : Nat} {os : List Og} (hb : b < os.length) (ht : t < os.length) : nearJ b t os = sameP os[b].sch os[t].sch os[b].hst os[t].hst := by
  unfold nearJ
  have e1 : os[(b : Int).toNat]? = some os[b] := by simp [hb]
  have e2 : os[(t : Int).toNat]? = some os[t] := by simp [ht]
  rw [e1, e2]
  have : ¬ ((b : Int) = -2) := by omega
  simp [this, hb, ht]
theorem quiet_at {W : World} {cs : List Value} {g o : Nat} (h : W.rangeAt g o cs) (hg : g < W.heap.size) : ∀ W', (∃ p : Regrown, W' = Sort.grow (redrawn W p.d) p.os) → W'.rangeAt g o cs := by
  rintro W' ⟨p, rfl⟩
  exact rangeO_keep h (below_regrown W p.d p.os) hg

def isInS (n : Int) (len : Nat) : Bool := decide (0 ≤ n ∧ n < len)
theorem isInB_any (ao : Option Addr) (len cap : Nat) (n : Int) (w : World) :
    Calls Tryd.prog 22 #[.int .i64 n, .slice ao len cap] w fun e w' => e = .returned (.bool (isInS n len)) ∧ Below w.heap.size w w' := by
  refine (isIn_any n ao len cap w).mono ?_
  rintro e w' ⟨rfl, rfl⟩
  exact ⟨rfl, Below.refl _ _⟩
theorem sameSiteO_any (x y : Og) (w : World) (henv : Env w) (hg : x.hst.length < 4294967281) (hh : y.hst.length < 4294967281) :
    Calls Tryd.prog 23 #[.agg (ogCells x).toArray, .agg (ogCells y).toArray] w fun e w' => e = .returned (.bool (sameP x.sch y.sch x.hst y.hst)) ∧ Below w.heap.size w w' :=
  sameSite_any ⟨x.nm.toArray⟩ ⟨y.nm.toArray⟩ x.sch y.sch x.hst y.hst x.port y.port w henv hg hh

set_option maxHeartbeats 2000000 in
theorem near_no (b t : Int) (ao : Option Addr) (n cap : Nat) (w : World) (u : b ≠ -2) (i1 : ¬ (0 ≤ b ∧ b < n)) :
    Calls Tryd.prog 14 #[.int .i64 b, .int .i64 t, .slice ao n cap] w fun e w' => e = .returned (.bool false) ∧ Below w.heap.size w w' := by
  have hu : (b == -2) = false := beq_eq_false_iff_ne.2 u
  have I1 := hide (fun d o m => Calls.regrown_of (isInB_any ao n cap m (Sort.grow (redrawn w d) o)))
  have f1 : isInS b n = false := decide_eq_false i1
  clear u i1
  go_enter Tryd.func14, Tryd.ntmps14
  go_upto_region 3 with fail
  go_wp2_with fail
  refine wp_region_quiet_below (by kernel_rfl) (by kernel_rfl) ?_
  repeat (first | (go_big_quiet_step (first | (go_at_call 22; exact I1.out _ _ _))) | (simp only [f1]))
  refine wpQuiet_nil ?_
  rintro _ ⟨pq, rfl⟩
  have hb6 := below_regrown w pq.d pq.os
  go_wp2_with fail
  go_ret
  exact ⟨rfl, hb6⟩

set_option maxHeartbeats 2000000 in
theorem near_any (b t : Int) (ao : Option Addr) (os : List Og) (cap : Nat) (w : World) (henv : Env w) (hos : OrgsAt w ao os) (hl : ∀ x ∈ os, x.hst.length < 4294967281) :
    Calls Tryd.prog 14 #[.int .i64 b, .int .i64 t, .slice ao os.length cap] w fun e w' => e = .returned (.bool (nearJ b t os)) ∧ Below w.heap.size w w' := by
  by_cases u : b = -2
  · have HE : Hid (nearJ b t os = true) := by unfold Hid; rw [u]; rfl
    subst u
    go_enter Tryd.func14, Tryd.ntmps14
    go_wp2_with fail
    go_ret
    exact ⟨ret_bool HE.out.symm, Below.refl _ _⟩
  have hu : (b == -2) = false := beq_eq_false_iff_ne.2 u
  have I1 := hide (fun d o n => Calls.regrown_of (isInB_any ao os.length cap n (Sort.grow (redrawn w d) o)))
  have HOS := hide hos
  have HL := hide hl
  clear hos hl
  by_cases i1 : 0 ≤ b ∧ b < os.length
  · have f1 : isInS b os.length = true := decide_eq_true i1
    by_cases i2 : 0 ≤ t ∧ t < os.length
    · have f2 : isInS t os.length = true := decide_eq_true i2
      obtain ⟨B, rfl⟩ := Int.eq_ofNat_of_zero_le i1.1
      obtain ⟨T, rfl⟩ := Int.eq_ofNat_of_zero_le i2.1
      have hB : B < os.length := by omega
      have hT : T < os.length := by omega
      have hBI : (B : Int) < (os.length : Int) := by omega
      have hTI : (T : Int) < (os.length : Int) := by omega
      have HE := hide (nearJ_at hB hT)
      obtain ⟨g, rfl, hg, rb⟩ := HOS.out B hB
      obtain ⟨g', hgg, _, rt⟩ := HOS.out T hT
      cases hgg
      have Q1 := hide (quiet_at rb hg)
      have Q2 := hide (quiet_at rt hg)
      have IF : Hid ((Tryd.prog.info? 25).map (·.size) = some 4) := by unfold Hid; kernel_rfl
      have S1 := hide (fun d o => Calls.regrown_of (sameSiteO_any os[B] os[T] (Sort.grow (redrawn w d) o) (henv.keep (below_regrown w d o)) (HL.out _ (List.getElem_mem hB)) (HL.out _ (List.getElem_mem hT))))
      generalize os[B] = x at *
      generalize os[T] = y at *
      clear rb rt u i1 i2 HOS HL hB hT
      go_enter Tryd.func14, Tryd.ntmps14
      go_upto_region 3 with fail
      go_wp2_with fail
      refine wp_region_quiet_below (by kernel_rfl) (by kernel_rfl) ?_
      repeat (first
        | (refine wpQuiet_row rfl 25 _ rfl g (B * 4) rfl (ogCells x) _ Q1.out Tryd.underlying25 rfl IF.out ?_; simp only [ogCells, Act.put, List.setIfInBounds_toArray, List.set_cons_succ, List.set_cons_zero])
        | (refine wpQuiet_row rfl 25 _ rfl g (T * 4) rfl (ogCells y) _ Q2.out Tryd.underlying25 rfl IF.out ?_; simp only [ogCells, Act.put, List.setIfInBounds_toArray, List.set_cons_succ, List.set_cons_zero])
        | (go_big_quiet_step (first | (go_at_call 22; exact I1.out _ _ _) | (go_at_call 23; exact S1.out _ _))) | (simp only [f1, f2]))
      refine wpQuiet_nil ?_
      rintro _ ⟨pq, rfl⟩
      have hb6 := below_regrown w pq.d pq.os
      go_wp2_with fail
      go_ret
      exact ⟨ret_bool HE.out.symm, hb6⟩
    · have f2 : isInS t os.length = false := decide_eq_false i2
      have HE := hide (nearJ_no2 u i2)
      clear u i1 i2 HOS HL
      go_enter Tryd.func14, Tryd.ntmps14
      go_upto_region 3 with fail
      go_wp2_with fail
      refine wp_region_quiet_below (by kernel_rfl) (by kernel_rfl) ?_
      repeat (first | (go_big_quiet_step (first | (go_at_call 22; exact I1.out _ _ _))) | (simp only [f1, f2]))
      refine wpQuiet_nil ?_
      rintro _ ⟨pq, rfl⟩
      have hb6 := below_regrown w pq.d pq.os
      go_wp2_with fail
      go_ret
      exact ⟨ret_bool HE.out.symm, hb6⟩
  · rw [nearJ_no1 (t := t) u i1]; exact near_no b t ao os.length cap w u i1
end Go.Proofs.YtlmchmhdojkokaaDoor
