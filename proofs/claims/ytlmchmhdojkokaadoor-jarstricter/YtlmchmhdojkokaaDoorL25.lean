/- The walk over moatlaw8.JarStricter. -/
import Derived.Test.YtlmchmhdojkokaaDoorT5
import Derived.Deep.DeepCutAuto
namespace Go.Proofs.YtlmchmhdojkokaaDoor
open Go.RowKit Go.Proofs.Url

def ckS (n : Int) : List Value := [.string ⟨#[]⟩, .int .i64 0, .string ⟨#[]⟩, .string ⟨#[]⟩, .bool false, .bool false, .int .i64 n]
theorem goesS_any (n : Int) (near top : Bool) (m : List UInt8) (w : World) :
    Calls Tryd.prog 12 #[.agg (ckS n).toArray, .bool near, .bool top, .string ⟨m.toArray⟩] w
      fun e w' => e = .returned (.bool (goesJ n near top m)) ∧ Below w.heap.size w w' := goes_any ⟨#[]⟩ 0 [] [] false false n near top m w
theorem three_new (w : World) (a b c : List Value) (t : TypeId) :
    (((w.alloc (Obj.cells a.toArray t)).alloc (Obj.cells b.toArray t)).alloc (Obj.cells c.toArray t)).rangeAt w.heap.size 0 a ∧
    (((w.alloc (Obj.cells a.toArray t)).alloc (Obj.cells b.toArray t)).alloc (Obj.cells c.toArray t)).rangeAt (w.heap.size + 1) 0 b ∧
    (((w.alloc (Obj.cells a.toArray t)).alloc (Obj.cells b.toArray t)).alloc (Obj.cells c.toArray t)).rangeAt (w.heap.size + 2) 0 c ∧
    Below w.heap.size w (((w.alloc (Obj.cells a.toArray t)).alloc (Obj.cells b.toArray t)).alloc (Obj.cells c.toArray t)) ∧
    (((w.alloc (Obj.cells a.toArray t)).alloc (Obj.cells b.toArray t)).alloc (Obj.cells c.toArray t)).heap.size = w.heap.size + 3 := by
  have e1 : (w.alloc (Obj.cells a.toArray t)).heap.size = w.heap.size + 1 := by simp
  have e2 : ((w.alloc (Obj.cells a.toArray t)).alloc (Obj.cells b.toArray t)).heap.size = w.heap.size + 2 := by simp
  have b1 : Below (w.heap.size + 1) (w.alloc (Obj.cells a.toArray t)) ((w.alloc (Obj.cells a.toArray t)).alloc (Obj.cells b.toArray t)) := (Below.refl _ _).alloc (by rw [e1]; exact Nat.le_refl _) _
  have b2 : Below (w.heap.size + 2) ((w.alloc (Obj.cells a.toArray t)).alloc (Obj.cells b.toArray t)) (((w.alloc (Obj.cells a.toArray t)).alloc (Obj.cells b.toArray t)).alloc (Obj.cells c.toArray t)) := (Below.refl _ _).alloc (by rw [e2]; exact Nat.le_refl _) _
  have r2 := row_new (w.alloc (Obj.cells a.toArray t)) b t
  rw [e1] at r2
  have r3 := row_new ((w.alloc (Obj.cells a.toArray t)).alloc (Obj.cells b.toArray t)) c t
  rw [e2] at r3
  exact ⟨row_keep (row_keep (row_new w a t) b1 (by omega)) b2 (by omega), row_keep r2 b2 (by omega), r3, (two_new w _ _).alloc (by simp; omega) _, by simp⟩

set_option maxHeartbeats 2000000 in
theorem jarStricter_walk (m : List UInt8) (b : Int) (w : World) (henv : Env w) :
    Calls Tryd.prog 4 #[.string ⟨m.toArray⟩, .int .i64 b] w fun e w' => e = .returned (.bool true) ∧ Below w.heap.size w w' := by
  have XA := hide (fun W hb => awake8_any W (henv.keep (w' := W) hb))
  by_cases h20 : 20 < m.length
  · have i1 : (20 : Int) < (m.length : Int) := by omega
    clear h20
    go_enter Tryd.func4, Tryd.ntmps4
    go_wp2_with fail
    refine (XA.out _ (Below.refl _ _)).mono ?_
    rintro e w1 ⟨rfl, hb1⟩
    go_wp2_with fail
    go_ret
    exact ⟨rfl, hb1⟩
  have i1 : ¬ (20 : Int) < (m.length : Int) := by omega
  clear h20
  obtain ⟨near, hnear⟩ : ∃ v, (bits .and .i64 b 1 == 1) = v := ⟨_, rfl⟩
  obtain ⟨top, htop⟩ : ∃ v, (bits .and .i64 b 2 == 2) = v := ⟨_, rfl⟩
  obtain ⟨rd, hrd⟩ : ∃ v, readsJ m = v := ⟨_, rfl⟩
  have HR := hide hrd
  have E1 : goesJ 1 near top m = true := by unfold goesJ; simp
  have E2 : goesJ 2 near top m = (near || (top && rd)) := by unfold goesJ; rw [hrd]; cases near <;> cases top <;> cases rd <;> rfl
  have E3 : goesJ 3 near top m = near := by unfold goesJ; cases near <;> rfl
  clear hrd
  go_enter Tryd.func4, Tryd.ntmps4
  go_upto_region 5 with fail
  obtain ⟨r1, r2, r3, bl, hsz⟩ := three_new w (ckS 1) (ckS 2) (ckS 3) 23
  obtain ⟨W3, hW3⟩ : ∃ W3, W3 = ((w.alloc (Obj.cells (ckS 1).toArray 23)).alloc (Obj.cells (ckS 2).toArray 23)).alloc (Obj.cells (ckS 3).toArray 23) := ⟨_, rfl⟩
  rw [← hW3] at r1 r2 r3 bl hsz
  have BL := hide bl
  have HW : Hid (W3 = _) := hW3
  clear bl hW3
  simp only [ckS] at HW
  rw [← HW.out]
  clear HW
  have Q1 := hide (quiet_at r1 (by omega))
  have Q2 := hide (quiet_at r2 (by omega))
  have Q3 := hide (quiet_at r3 (by omega))
  have IF : Hid ((Tryd.prog.info? 23).map (·.size) = some 7) := by unfold Hid; kernel_rfl
  have G := hide (fun n d o => Calls.regrown_of (goesS_any n near top m (Sort.grow (redrawn W3 d) o)))
  simp only [ckS] at G
  clear r1 r2 r3
  go_wp2_with fail
  refine wp_region_quiet_below (by kernel_rfl) (by kernel_rfl) ?_
  repeat (first
    | (refine wpQuiet_row rfl 23 _ rfl w.heap.size 0 rfl (ckS 1) _ Q1.out Tryd.underlying23 rfl IF.out ?_; simp only [ckS, Act.put, List.setIfInBounds_toArray, List.set_cons_succ, List.set_cons_zero])
    | (refine wpQuiet_row rfl 23 _ rfl (w.heap.size + 1) 0 rfl (ckS 2) _ Q2.out Tryd.underlying23 rfl IF.out ?_; simp only [ckS, Act.put, List.setIfInBounds_toArray, List.set_cons_succ, List.set_cons_zero])
    | (refine wpQuiet_row rfl 23 _ rfl (w.heap.size + 2) 0 rfl (ckS 3) _ Q3.out Tryd.underlying23 rfl IF.out ?_; simp only [ckS, Act.put, List.setIfInBounds_toArray, List.set_cons_succ, List.set_cons_zero])
    | (go_big_quiet_step (first | (go_at_call 12; exact G.out _ _ _))))
  refine wpQuiet_nil ?_
  rintro _ ⟨pq, rfl⟩
  have hb6 := below_regrown W3 pq.d pq.os
  generalize Sort.grow (redrawn W3 pq.d) pq.os = w6 at *
  have B6 := hide (BL.out.trans (hb6.mono BL.out.size))
  clear hb6 Q1 Q2 Q3 G BL
  rw [E1, E2, E3]
  clear E1 E2 E3 hsz
  go_upto_region 6 with fail
  go_cut [13] (fun v W => v = .bool rd ∧ W = w6)
  case first => as_aux_lemma =>
    by_cases e1 : m = [71, 69, 84]
    · have hb : (m == [71, 69, 84]) = true := beq_iff_eq.2 e1
      have HY : Hid (rd = true) := by unfold Hid; rw [← HR.out]; unfold readsJ getT; simp [e1]
      clear e1 HR
      go_wp2_with fail
      go_meet
      case rel => exact ⟨congrArg Value.bool HY.out.symm, rfl⟩
    · have hb : (m == [71, 69, 84]) = false := beq_eq_false_iff_ne.2 e1
      have HY : Hid (rd = (m == [72, 69, 65, 68])) := by unfold Hid; rw [← HR.out]; unfold readsJ getT headT; simp [e1, Bool.beq_eq_decide_eq]
      clear e1 HR
      go_wp2_with fail
      go_meet
      case rel => exact ⟨congrArg Value.bool HY.out.symm, rfl⟩
  case rest =>
  obtain ⟨rfl, hwc⟩ := hcut
  subst hwc
  clear HR hnear htop
  cases near <;> cases top <;> cases rd
  all_goals (
    go_wp2_with fail
    refine (XA.out _ B6.out).mono ?_
    rintro e w7 ⟨rfl, hb7⟩
    have B7 : Hid (Below w.heap.size w w7) := B6.out.trans (hb7.mono B6.out.size)
    clear hb7
    go_wp2_with fail
    go_ret
    exact ⟨rfl, B7.out⟩)
end Go.Proofs.YtlmchmhdojkokaaDoor
