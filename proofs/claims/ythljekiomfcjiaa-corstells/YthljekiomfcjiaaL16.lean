/- The walk over moatlaw5.CorsTells, by what package cors answers. -/
import Derived.Test.YthljekiomfcjiaaE5
import Derived.Lib.QuietBelow
import Derived.Deep.QuietTactic
import Derived.BigQuiet
namespace Go.Proofs.Ythljekiomfcjiaa
open Go.RowKit Go.Proofs.Url

theorem small_of {e : Ep} (h : greatEp e = false) : EpSmall e := by
  obtain ⟨_, h2, h3, h4, h5, h6, h7, _⟩ := greatEp_no h
  exact ⟨by omega, by omega, by omega, by omega, fun x hx => by have := h6 x hx; omega, fun x hx => by have := h7 x hx; omega⟩

theorem ep_v (e : Ep) : e.v = .agg e.cells.toArray := rfl
/-- A load of a whole struct, as one step of a quiet walk. -/
theorem wpQuiet_load {P : Program} {ops : Array Oper} {C : World → Prop} {Q : Act → Prop} {a : Act} {op : Oper} {rest : List Oper} (hw : Region.wanted op (yielded ops a.tmps) = true) (ty : TypeId) (x : Operand) (ho : op.op = .load ty x)
    (b o : Nat) (hx : a.eval x = .pointer (some ⟨b, o, none⟩)) (cs : List Value) (d : TypeDesc) (hC : ∀ w, C w → w.rangeAt b o cs)
    (hu : P.underlying ty = some d) (hd : d.isRow = true) (hi : (P.info? ty).map (·.size) = some cs.length)
    (h : wpQuiet P ops C Q rest (a.put op.dst (.agg cs.toArray))) : wpQuiet P ops C Q (op :: rest) a :=
  BigFrame.wpQuiet_want hw fun K hK => ⟨.agg cs.toArray, fun w hw' => by
    unfold Oper.quietAt execOp
    simp only [ho, hx, Instr.loadAt, Instr.sureAddr, Sem.run_bind, Sem.run_pure, Result.andThen_ok, run_loadVar_mid w b o ty cs d (hC w hw') hu hd hi]
    exact ⟨rfl, rfl⟩, hK _ h⟩

set_option maxHeartbeats 2000000 in
set_option maxRecDepth 100000 in
theorem corsTells_walk (ok : CorsOk) (e : Ep) (b : Int) (creds heads : Bool) (w : World) (hq : EpAt w e) (hl2 : e.hs.length ≤ maxLen) (hl3 : e.al.length ≤ maxLen) (hl4 : e.ms.length ≤ maxLen) :
    Calls Try.prog 3 #[e.v, .int .i64 b, .bool creds, .bool heads] w fun r w' => r = .returned (.bool true) ∧ Below w.heap.size w w' := by
  have OK := hide ok
  have HQ := hide hq
  have C0 := hide (fun W (h : EpAt W e) => great_any e W h hl2 hl3 hl4)
  clear ok hq hl2 hl3 hl4
  have B0 : Hid (∀ o, Below w.heap.size w (w.alloc o)) := fun o => (Below.refl _ _).alloc (Nat.le_refl _) _
  have R0 := hide (range_new w e.cells 25)
  have IF : Hid ((Try.prog.info? 25).map (·.size) = some e.cells.length) := by unfold Hid; kernel_rfl
  cases hg : greatEp e with
  | true =>
    have HG := hide hg
    clear hg
    simp only [Ep.v]
    go_enter Try.func3, Try.ntmps3
    go_wp2_with (first | (refine wpList_load_mid rfl 25 _ rfl w.heap.size 0 rfl e.cells _ R0.out Try.underlying25 rfl IF.out ?_) | (refine wpList_load_want rfl 25 _ rfl w.heap.size 0 rfl e.cells _ R0.out Try.underlying25 rfl IF.out ?_))
    refine (C0.out _ (HQ.out.keep (B0.out _))).mono ?_
    rintro r w1 ⟨rfl, hb1⟩
    rw [HG.out]
    have B1 := hide ((B0.out _).trans (hb1.mono (B0.out _).size))
    clear hb1
    go_wp2_with fail
    refine (awake5_any OK.out _).mono ?_
    rintro r w2 ⟨rfl, hb2⟩
    have B2 := hide (B1.out.trans (hb2.mono B1.out.size))
    clear hb2
    go_wp2_with fail
    go_ret
    exact ⟨rfl, B2.out⟩
  | false =>
    have HG := hide hg
    have SM := small_of hg
    have CL := hide (fun W h => OK.out.lets e b creds W h SM)
    have CA := hide (fun W h => OK.out.ahead e b creds heads W h SM)
    have CM := hide (fun W h => OK.out.may e b creds heads W h SM)
    have rl := fun W h => refLets_any e b creds W h SM.cs
    have ra := fun W h => refAhead_any e b heads W h SM.hs SM.zh
    have rm := fun W h => refMay_any e b creds heads W h SM.cs SM.hs SM.al SM.ms SM.zh SM.za
    simp only [ep_v] at rl ra rm
    have RL := hide rl
    have RA := hide ra
    have RM := hide rm
    clear rl ra rm hg SM
    simp only [Ep.lets, Ep.ahead, Ep.may] at CL CA CM
    generalize letsS e.o e.any e.cr e.cs b creds = le at *
    generalize aheadS e.o e.m e.hs b heads = ah at *
    generalize mayS e.o e.m e.hs e.any e.cr e.cs e.al e.ms b creds heads = ma at *
    simp only [Ep.v]
    go_enter Try.func3, Try.ntmps3
    go_wp2_with (first | (refine wpList_load_mid rfl 25 _ rfl w.heap.size 0 rfl e.cells _ R0.out Try.underlying25 rfl IF.out ?_) | (refine wpList_load_want rfl 25 _ rfl w.heap.size 0 rfl e.cells _ R0.out Try.underlying25 rfl IF.out ?_))
    refine (C0.out _ (HQ.out.keep (B0.out _))).mono ?_
    rintro r w1 ⟨rfl, hb1⟩
    rw [HG.out]
    have B1 := hide ((B0.out _).trans (hb1.mono (B0.out _).size))
    have Q1 := hide ((HQ.out.keep (B0.out _)).keep hb1)
    have R1 := hide (range_keep R0.out hb1 (by simp))
    have hg1 : w.heap.size < w1.heap.size := by have := hb1.size; simp at this; omega
    clear hb1
    have QR := fun d os => Q1.out.keep (below_regrown w1 d os)
    have c1 := hide (fun d os => Calls.regrown_of (CL.out (Sort.grow (redrawn w1 d) os) (QR d os)))
    have c2 := hide (fun d os => Calls.regrown_of (RL.out (Sort.grow (redrawn w1 d) os) (QR d os)))
    have c3 := hide (fun d os => Calls.regrown_of (CA.out (Sort.grow (redrawn w1 d) os) (QR d os)))
    have c4 := hide (fun d os => Calls.regrown_of (RA.out (Sort.grow (redrawn w1 d) os) (QR d os)))
    have c5 := hide (fun d os => Calls.regrown_of (CM.out (Sort.grow (redrawn w1 d) os) (QR d os)))
    have c6 := hide (fun d os => Calls.regrown_of (RM.out (Sort.grow (redrawn w1 d) os) (QR d os)))
    have c7 := hide (fun d os => Calls.regrown_of (awake5_any OK.out (Sort.grow (redrawn w1 d) os)))
    have RC : Hid (∀ W, (∃ p : Regrown, W = Sort.grow (redrawn w1 p.d) p.os) → W.rangeAt w.heap.size 0 e.cells) := by
      rintro W ⟨p, rfl⟩
      exact range_keep R1.out (below_regrown w1 p.d p.os) hg1
    clear QR CL CA CM RL RA RM Q1 R1
    have e0 : (le == le) = true := by simp
    have e1 : (ah == ah) = true := by simp
    have e2 : (ma == ma) = true := by simp
    go_wp2_with fail
    refine wp_region_quiet_below (by kernel_rfl) (by kernel_rfl) ?_
    repeat (first
      | (refine wpQuiet_load rfl 25 _ rfl w.heap.size 0 rfl e.cells _ RC.out Try.underlying25 rfl IF.out ?_; simp only [Act.put, List.setIfInBounds_toArray, List.set_cons_succ, List.set_cons_zero])
      | (go_big_quiet_step (first | (go_at_call 9; exact c1.out _ _) | (go_at_call 10; exact c2.out _ _) | (go_at_call 11; exact c3.out _ _) | (go_at_call 12; exact c4.out _ _) | (go_at_call 13; exact c5.out _ _) | (go_at_call 14; exact c6.out _ _) | (go_at_call 8; exact c7.out _ _))))
    refine wpQuiet_nil ?_
    rintro _ ⟨pq, rfl⟩
    have hb5 := below_regrown w1 pq.d pq.os
    generalize Sort.grow (redrawn w1 pq.d) pq.os = w5 at *
    have B5 := hide (B1.out.trans (hb5.mono B1.out.size))
    clear hb5 c1 c2 c3 c4 c5 c6 c7 RC
    go_wp2_with fail
    go_ret
    exact ⟨rfl, B5.out⟩
end Go.Proofs.Ythljekiomfcjiaa
