/- The walk over cors.May; what the walks of the laws want of package cors. -/
import Derived.Test.YthljekiomfcjiaaJ3
namespace Go.Proofs.Ythljekiomfcjiaa
open Go.RowKit Go.Proofs.Url

set_option maxHeartbeats 4000000 in
set_option maxRecDepth 100000 in
theorem corsMay_any (e : Ep) (b : Int) (creds heads : Bool) (w : World) (hq : EpAt w e) (hs : EpSmall e) :
    Calls Try.prog 13 #[.agg e.cells.toArray, .int .i64 b, .bool creds, .bool heads] w fun r w' => r = .returned (.bool (e.may b creds heads)) ∧ Below w.heap.size w w' := by
  have HQ := hide hq
  have SM := hide hs
  clear hq hs
  have CA := hide (fun W (h : EpAt W e) => corsAhead_any e b creds heads W h SM.out)
  have CL := hide (fun W (h : EpAt W e) => corsLets_any e b creds W h SM.out)
  have CM := hide (fun W (h : EpAt W e) => methodLet_any e W h SM.out)
  have HM : Hid (e.may b creds heads = (!e.ahead b heads || (e.lets b creds && (methodS e.m || e.ms.contains e.m) && (!heads || allowS e.hs e.al)))) := rfl
  generalize e.may b creds heads = res at *
  generalize e.ahead b heads = ah at *
  generalize e.lets b creds = le at *
  generalize (methodS e.m || e.ms.contains e.m) = me at *
  have BB : Hid (Below w.heap.size w (w.alloc (Obj.cells e.cells.toArray 25))) := (Below.refl _ _).alloc (Nat.le_refl _) _
  have QQ := hide (HQ.out.keep BB.out)
  have RR := hide (range_new w e.cells 25)
  have IF : Hid ((Try.prog.info? 25).map (·.size) = some e.cells.length) := by unfold Hid; kernel_rfl
  have hgg : w.heap.size < (w.alloc (Obj.cells e.cells.toArray 25)).heap.size := by simp
  simp only [Ep.cells]
  go_enter Try.func13, Try.ntmps13
  go_wp2_with (refine wpList_load_mid rfl 25 _ rfl w.heap.size 0 rfl e.cells _ RR.out Try.underlying25 rfl IF.out ?_)
  refine (CA.out _ QQ.out).mono ?_
  rintro r w1 ⟨rfl, hb⟩
  replace BB := hide (BB.out.trans (hb.mono BB.out.size))
  replace QQ := hide (QQ.out.keep hb)
  replace RR := hide (range_keep RR.out hb hgg)
  replace hgg : w.heap.size < w1.heap.size := by have := hb.size; omega
  have RC := hide (quiet_range RR.out hgg)
  have QR := hide (fun d os => QQ.out.keep (below_regrown _ d os))
  clear hb hgg CA RR
  cases ah with
  | false =>
    have HR : Hid (res = true) := by unfold Hid; rw [HM.out]; simp
    go_wp2_with fail
    go_ret
    exact ⟨ret_bool HR.out.symm, BB.out⟩
  | true =>
    have c1 := hide (fun d os => Calls.regrown_of (CL.out _ (QR.out d os)))
    have c2 := hide (fun d os => Calls.regrown_of (CM.out _ (QR.out d os)))
    clear CL CM QQ
    cases le with
    | false =>
      have HR : Hid (res = false) := by unfold Hid; rw [HM.out]; simp
      clear c2 QR
      go_wp2_with fail
      refine wp_region_quiet_below (by kernel_rfl) (by kernel_rfl) ?_
      repeat (first
        | (refine wpQuiet_load rfl 25 _ rfl w.heap.size 0 rfl e.cells _ RC.out Try.underlying25 rfl IF.out ?_; simp only [Act.put, List.setIfInBounds_toArray, List.set_cons_succ, List.set_cons_zero])
        | (go_big_quiet_step (first | (go_at_call 9; exact c1.out _ _))))
      refine wpQuiet_nil ?_
      rintro _ ⟨pq, rfl⟩
      have hb5 := below_regrown w1 pq.d pq.os
      generalize Sort.grow (redrawn w1 pq.d) pq.os = w5 at *
      replace BB := hide (BB.out.trans (hb5.mono BB.out.size))
      clear hb5
      go_wp2_with fail
      go_ret
      exact ⟨ret_bool HR.out.symm, BB.out⟩
    | true =>
      cases me with
      | false =>
        have HR : Hid (res = false) := by unfold Hid; rw [HM.out]; simp
        clear QR
        go_wp2_with fail
        refine wp_region_quiet_below (by kernel_rfl) (by kernel_rfl) ?_
        repeat (first
          | (refine wpQuiet_load rfl 25 _ rfl w.heap.size 0 rfl e.cells _ RC.out Try.underlying25 rfl IF.out ?_; simp only [Act.put, List.setIfInBounds_toArray, List.set_cons_succ, List.set_cons_zero])
          | (go_big_quiet_step (first | (go_at_call 9; exact c1.out _ _) | (go_at_call 21; exact c2.out _ _))))
        refine wpQuiet_nil ?_
        rintro _ ⟨pq, rfl⟩
        have hb5 := below_regrown w1 pq.d pq.os
        generalize Sort.grow (redrawn w1 pq.d) pq.os = w5 at *
        replace BB := hide (BB.out.trans (hb5.mono BB.out.size))
        clear hb5
        go_wp2_with fail
        go_ret
        exact ⟨ret_bool HR.out.symm, BB.out⟩
      | true =>
        cases heads with
        | false =>
          have HR : Hid (res = true) := by unfold Hid; rw [HM.out]; simp
          have c3 := hide (fun d os => Calls.regrown_of (asked_no e (Sort.grow (redrawn w1 d) os)))
          have c4 := hide (fun d os => Calls.regrown_of (headsLet_any e none [] 0 _ (QR.out d os) SM.out (fun k hk => by simp at hk) (by decide) (fun h hh => by simp at hh)))
          have A0 : allowS [] e.al = true := rfl
          rw [A0] at c4
          clear QR A0
          go_wp2_with fail
          refine wp_region_quiet_below (by kernel_rfl) (by kernel_rfl) ?_
          repeat (first
            | (refine wpQuiet_load rfl 25 _ rfl w.heap.size 0 rfl e.cells _ RC.out Try.underlying25 rfl IF.out ?_; simp only [Act.put, List.setIfInBounds_toArray, List.set_cons_succ, List.set_cons_zero])
            | (go_big_quiet_step (first | (go_at_call 9; exact c1.out _ _) | (go_at_call 21; exact c2.out _ _) | (go_at_call 19; exact c3.out _ _) | (go_at_call 22; exact c4.out _ _))))
          refine wpQuiet_nil ?_
          rintro _ ⟨pq, rfl⟩
          have hb5 := below_regrown w1 pq.d pq.os
          generalize Sort.grow (redrawn w1 pq.d) pq.os = w5 at *
          replace BB := hide (BB.out.trans (hb5.mono BB.out.size))
          clear hb5
          go_wp2_with fail
          go_ret
          exact ⟨ret_bool HR.out.symm, BB.out⟩
        | true =>
          have HR : Hid (res = allowS e.hs e.al) := by unfold Hid; rw [HM.out]; simp
          have c3 := hide (fun d os => Calls.regrown_of (asked_yes e (Sort.grow (redrawn w1 d) os)))
          have c4 := hide (fun d os => Calls.regrown_of (headsLet_any e e.ho e.hs e.hc _ (QR.out d os) SM.out (QR.out d os).hs SM.out.hs SM.out.zh))
          clear QR
          generalize allowS e.hs e.al = aa at *
          go_wp2_with fail
          refine wp_region_quiet_below (by kernel_rfl) (by kernel_rfl) ?_
          repeat (first
            | (refine wpQuiet_load rfl 25 _ rfl w.heap.size 0 rfl e.cells _ RC.out Try.underlying25 rfl IF.out ?_; simp only [Act.put, List.setIfInBounds_toArray, List.set_cons_succ, List.set_cons_zero])
            | (go_big_quiet_step (first | (go_at_call 9; exact c1.out _ _) | (go_at_call 21; exact c2.out _ _) | (go_at_call 19; exact c3.out _ _) | (go_at_call 22; exact c4.out _ _))))
          refine wpQuiet_nil ?_
          rintro _ ⟨pq, rfl⟩
          have hb5 := below_regrown w1 pq.d pq.os
          generalize Sort.grow (redrawn w1 pq.d) pq.os = w5 at *
          replace BB := hide (BB.out.trans (hb5.mono BB.out.size))
          clear hb5
          go_wp2_with fail
          go_ret
          exact ⟨ret_bool HR.out.symm, BB.out⟩
theorem cors_ok : CorsOk := ⟨corsLets_any, corsAhead_any, corsMay_any⟩
end Go.Proofs.Ythljekiomfcjiaa
