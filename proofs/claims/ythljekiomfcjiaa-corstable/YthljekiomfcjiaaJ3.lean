/- The walks over package cors: Lets, Ahead, May; what the walks of the laws want of package cors. -/
import Derived.Test.YthljekiomfcjiaaJ2
import Derived.Test.YthljekiomfcjiaaL16
namespace Go.Proofs.Ythljekiomfcjiaa
open Go.RowKit Go.Proofs.Url

set_option maxHeartbeats 2000000 in
set_option maxRecDepth 100000 in
theorem corsLets_any (e : Ep) (b : Int) (creds : Bool) (w : World) (hq : EpAt w e) (hs : EpSmall e) :
    Calls Try.prog 9 #[.agg e.cells.toArray, .int .i64 b, .bool creds] w fun r w' => r = .returned (.bool (e.lets b creds)) ∧ Below w.heap.size w w' := by
  have HQ := hide hq
  have SM := hide hs
  clear hq hs
  have B0 : Hid (∀ o, Below w.heap.size w (w.alloc o)) := fun o => (Below.refl _ _).alloc (Nat.le_refl _) _
  have CN := hide (fun W (h : EpAt W e) => named_any e b W h SM.out)
  have HM : Hid (e.lets b creds = (decide (b = e.o) || (namedS e.cs b && (e.cr || !creds)) || (e.any && !creds))) := lets_named _ _ _ _ _ _
  generalize e.lets b creds = res at *
  generalize namedS e.cs b = nm at *
  have RR := hide (range_new w e.cells 25)
  have IF : Hid ((Try.prog.info? 25).map (·.size) = some e.cells.length) := by unfold Hid; kernel_rfl
  have BB : Hid (Below w.heap.size w (w.alloc (Obj.cells e.cells.toArray 25))) := B0.out _
  have QQ := hide (HQ.out.keep BB.out)
  have hgg : w.heap.size < (w.alloc (Obj.cells e.cells.toArray 25)).heap.size := by simp
  simp only [Ep.cells]
  by_cases h1 : b = e.o
  · have HT : Hid (res = true) := by unfold Hid; rw [HM.out, decide_eq_true h1]; rfl
    have hb : (b == e.o) = true := beq_iff_eq.2 h1
    clear h1
    go_enter Try.func9, Try.ntmps9
    go_wp2_with fail
    go_ret
    exact ⟨ret_bool HT.out.symm, BB.out⟩
  have hb : (b == e.o) = false := beq_eq_false_iff_ne.2 h1
  have HT : Hid (res = ((nm && (e.cr || !creds)) || (e.any && !creds))) := by unfold Hid; rw [HM.out, decide_eq_false h1]; rfl
  clear h1
  go_enter Try.func9, Try.ntmps9
  go_wp2_with (refine wpList_load_mid rfl 25 _ rfl w.heap.size 0 rfl e.cells _ RR.out Try.underlying25 rfl IF.out ?_)
  refine (CN.out _ QQ.out).mono ?_
  rintro r w1 ⟨rfl, hb1⟩
  replace BB := hide (BB.out.trans (hb1.mono BB.out.size))
  replace RR := hide (range_keep RR.out hb1 hgg)
  clear hb1
  have c15 := range_cell RR.out 15 _ rfl
  have c16 := range_cell RR.out 16 _ rfl
  generalize e.cr = cr at *
  generalize e.any = any at *
  cases nm with
  | false =>
    cases any
    all_goals go_wp2_with fail
    all_goals go_ret
    all_goals exact ⟨ret_bool (by rw [HT.out]; cases creds <;> rfl), BB.out⟩
  | true =>
    cases cr with
    | true =>
      go_wp2_with fail
      go_ret
      exact ⟨ret_bool (by rw [HT.out]; rfl), BB.out⟩
    | false =>
      cases creds
      all_goals cases any
      all_goals go_wp2_with fail
      all_goals go_ret
      all_goals exact ⟨ret_bool (by rw [HT.out]; rfl), BB.out⟩

/-- What a region of cors reads and calls, over each world that it may meet. -/
theorem quiet_range {W : World} {cs : List Value} {g : Nat} (h : W.rangeAt g 0 cs) (hg : g < W.heap.size) : ∀ W', (∃ p : Regrown, W' = Sort.grow (redrawn W p.d) p.os) → W'.rangeAt g 0 cs := by
  rintro W' ⟨p, rfl⟩
  exact range_keep h (below_regrown W p.d p.os) hg

set_option maxHeartbeats 2000000 in
set_option maxRecDepth 100000 in
theorem corsAhead_any (e : Ep) (b : Int) (creds heads : Bool) (w : World) (hq : EpAt w e) (hs : EpSmall e) :
    Calls Try.prog 11 #[.agg e.cells.toArray, .int .i64 b, .bool creds, .bool heads] w fun r w' => r = .returned (.bool (e.ahead b heads)) ∧ Below w.heap.size w w' := by
  have HQ := hide hq
  have SM := hide hs
  clear hq hs
  have HM : Hid (e.ahead b heads = aheadS e.o e.m e.hs b heads) := rfl
  generalize e.ahead b heads = res at *
  have BB : Hid (Below w.heap.size w (w.alloc (Obj.cells e.cells.toArray 25))) := (Below.refl _ _).alloc (Nat.le_refl _) _
  have QQ := hide (HQ.out.keep BB.out)
  have RR := hide (range_new w e.cells 25)
  have IF : Hid ((Try.prog.info? 25).map (·.size) = some e.cells.length) := by unfold Hid; kernel_rfl
  have hgg : w.heap.size < (w.alloc (Obj.cells e.cells.toArray 25)).heap.size := by simp
  have RC := hide (quiet_range RR.out hgg)
  have QR := hide (fun d os => QQ.out.keep (below_regrown _ d os))
  clear hgg
  by_cases h1 : b = e.o
  · have HT : Hid (res = false) := by unfold Hid; rw [HM.out]; unfold aheadS; rw [decide_eq_true h1]; rfl
    have hb : (b == e.o) = true := beq_iff_eq.2 h1
    clear h1
    simp only [Ep.cells]
    go_enter Try.func11, Try.ntmps11
    go_wp2_with fail
    go_ret
    exact ⟨ret_bool HT.out.symm, BB.out⟩
  have hb : (b == e.o) = false := beq_eq_false_iff_ne.2 h1
  cases heads with
  | true =>
    have HT : Hid (res = !simpleS e.m e.hs) := by unfold Hid; rw [HM.out]; unfold aheadS; rw [decide_eq_false h1]; simp
    have c2 := hide (fun d os => Calls.regrown_of (simple_any e.m e.ho e.hs e.hc _ (QR.out d os).hs SM.out.hs SM.out.zh))
    have c1 := hide (fun d os => Calls.regrown_of (asked_yes e (Sort.grow (redrawn (w.alloc (Obj.cells e.cells.toArray 25)) d) os)))
    have cm := fun d os => cell_regrown (range_cell RR.out 2 _ rfl) d os
    clear h1
    generalize simpleS e.m e.hs = ss at *
    simp only [Ep.cells] at cm
    simp only [Ep.cells]
    go_enter Try.func11, Try.ntmps11
    go_wp2_with fail
    refine wp_region_quiet_below (by kernel_rfl) (by kernel_rfl) ?_
    repeat (first
      | (refine wpQuiet_load rfl 25 _ rfl w.heap.size 0 rfl e.cells _ RC.out Try.underlying25 rfl IF.out ?_; simp only [Act.put, List.setIfInBounds_toArray, List.set_cons_succ, List.set_cons_zero])
      | (go_big_quiet_step (first | (go_at_call 19; exact c1.out _ _) | (go_at_call 18; exact c2.out _ _))))
    refine wpQuiet_nil ?_
    rintro _ ⟨pq, rfl⟩
    have B5 := hide (BB.out.trans ((below_regrown (w.alloc (Obj.cells e.cells.toArray 25)) pq.d pq.os).mono BB.out.size))
    go_wp2_with fail
    go_ret
    exact ⟨ret_bool HT.out.symm, B5.out⟩
  | false =>
    have HT : Hid (res = !simpleS e.m []) := by unfold Hid; rw [HM.out]; unfold aheadS; rw [decide_eq_false h1]; simp
    have c2 := hide (fun d os => Calls.regrown_of (simple_any e.m none [] 0 (Sort.grow (redrawn (w.alloc (Obj.cells e.cells.toArray 25)) d) os) (fun k hk => by simp at hk) (by decide) (fun h hh => by simp at hh)))
    have c1 := hide (fun d os => Calls.regrown_of (asked_no e (Sort.grow (redrawn (w.alloc (Obj.cells e.cells.toArray 25)) d) os)))
    have cm := fun d os => cell_regrown (range_cell RR.out 2 _ rfl) d os
    clear h1
    generalize simpleS e.m [] = ss at *
    simp only [Ep.cells] at cm
    simp only [Ep.cells]
    go_enter Try.func11, Try.ntmps11
    go_wp2_with fail
    refine wp_region_quiet_below (by kernel_rfl) (by kernel_rfl) ?_
    repeat (first
      | (refine wpQuiet_load rfl 25 _ rfl w.heap.size 0 rfl e.cells _ RC.out Try.underlying25 rfl IF.out ?_; simp only [Act.put, List.setIfInBounds_toArray, List.set_cons_succ, List.set_cons_zero])
      | (go_big_quiet_step (first | (go_at_call 19; exact c1.out _ _) | (go_at_call 18; exact c2.out _ _))))
    refine wpQuiet_nil ?_
    rintro _ ⟨pq, rfl⟩
    have B5 := hide (BB.out.trans ((below_regrown (w.alloc (Obj.cells e.cells.toArray 25)) pq.d pq.os).mono BB.out.size))
    go_wp2_with fail
    go_ret
    exact ⟨ret_bool HT.out.symm, B5.out⟩

end Go.Proofs.Ythljekiomfcjiaa
