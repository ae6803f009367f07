/- The walk over moatref10's Line. -/
import Derived.Test.YtilfdbkceiejgaaSx15
import Derived.Test.YtilfdbkceiejgaaSx13
import Derived.Lib.QuietBelow
import Derived.Deep.DeepCutAuto
namespace Go.Proofs.Ytilfdbkceiejgaa
open Go.RowKit Go.Proofs.Url Go.Proofs.Url.Syn
open Go.Sort (grow)

theorem told_grown (t : Tk) (w : World) (hs : (toldS t).length < 4294967281) (d : Nat) (os : Array Obj) :
    Calls Try.prog 26 #[tokV t] (grow (redrawn w d) os) fun e w' => e = .returned (.string ⟨(toldS t).toArray⟩) ∧ ∃ p : Regrown, w' = grow (redrawn w p.d) p.os := Calls.regrown_of (told_any t _ hs)
theorem flatMap_take_le (f : Atr → List UInt8) (l : List Atr) (i : Nat) (h : i < l.length) : ((l.take i).flatMap f).length + (f l[i]).length ≤ (l.flatMap f).length := by
  have e : l.flatMap f = (l.take i).flatMap f ++ (f l[i] ++ (l.drop (i + 1)).flatMap f) := by
    rw [← List.flatMap_cons, ← List.drop_eq_getElem_cons h, ← List.flatMap_append, List.take_append_drop]
  rw [e]; simp
theorem attrs_length : ∀ (l : List Atr), l.length ≤ (l.flatMap attrS).length
  | [] => Nat.le_refl _
  | a :: r => by
    have := attrs_length r
    rw [List.flatMap_cons, List.length_append, List.length_cons]
    have : 1 ≤ (attrS a).length := by simp [attrS]
    omega
set_option maxHeartbeats 4000000 in
set_option maxRecDepth 100000 in
theorem line_any (g : Nat) (cs : List Value) (y : Itm) (w : World) (h : ItmAt w g cs y) (hs : (lineS y).length < 4294967281) :
    Calls Try.prog 13 #[.agg cs.toArray] w fun e w' => e = .returned (.string ⟨(lineS y).toArray⟩) ∧ Below w.heap.size w w' := by
  obtain ⟨k, a, nm, wh, cp, tx, l, f⟩ := y
  obtain ⟨ao, cv, pf, rfl, hA, hF⟩ := h
  simp only [] at hA hF
  obtain ⟨b, hb⟩ : ∃ b, b = w.heap.size := ⟨_, rfl⟩
  obtain ⟨W0, hW0⟩ : ∃ W0, W0 = w.alloc (Obj.cells (itmCells k a nm wh cp tx (.slice ao l.length cv) pf).toArray 40) := ⟨_, rfl⟩
  have X0 : Hid (BX W0 b (itmCells k a nm wh cp tx (.slice ao l.length cv) pf)) := by unfold Hid; rw [hW0, hb]; exact BX.new w _ rfl 40
  have B0 : Hid (Below w.heap.size w W0) := by unfold Hid; rw [hW0]; exact (Below.refl _ _).alloc (Nat.le_refl _) _
  have HA := hide hA
  have HF := hide hF
  have HW := hide hW0
  have HB := hide hb
  clear hA hF hW0 hb
  have HL0 : Hid (lineS ⟨k, a, nm, wh, cp, tx, l, f⟩ = k ++ toldS nm ++ (if wh.kind = 0 then [] else [32, 97, 116] ++ toldS wh) ++ toldS cp ++ toldS tx ++ l.flatMap attrS ++ (match f with | none => [] | some f => 32 :: formS f) ++ [10]) := rfl
  have hsz : k.length + (toldS nm).length + (if wh.kind = 0 then [] else [32, 97, 116] ++ toldS wh).length + (toldS cp).length + (toldS tx).length + (l.flatMap attrS).length + (match f with | none => [] | some f => 32 :: formS f).length < 4294967281 := by
    rw [HL0.out] at hs; simp only [List.length_append] at hs; omega
  clear hs
  have T1 := hide (fun d os => told_grown nm W0 (by omega) d os)
  have c0 := fun d os => cell_regrown (X0.out.c 0 _ rfl) d os
  have c2 := fun d os => cell_regrown (X0.out.c 2 _ rfl) d os
  have c3 := fun d os => cell_regrown (X0.out.c 3 _ rfl) d os
  have c4 := fun d os => cell_regrown (X0.out.c 4 _ rfl) d os
  have hbl := X0.out.lt
  have hz1 : k.length < 4294967281 := by omega
  have hz2 : k.length + (toldS nm).length < 4294967281 := by omega
  have HSZ := hide hsz
  clear hsz
  go_enter Try.func13, Try.ntmps13
  go_upto_region 1 with fail
  rw [← HW.out, ← HB.out]
  refine wp_region_quiet_below (by kernel_rfl) (by kernel_rfl) ?_
  repeat (go_big_quiet_step (first | (go_at_call 26; exact T1.out _ _)))
  refine wpQuiet_nil ?_
  rintro _ ⟨pq, rfl⟩
  have b1 := below_regrown W0 pq.d pq.os
  generalize grow (redrawn W0 pq.d) pq.os = W1 at *
  have X1 := hide (X0.out.same (b1.block b hbl))
  have B1 := hide (B0.out.trans (b1.mono B0.out.size))
  clear b1 X0 B0 c0 c2 c3 c4 T1 hz1 hbl
  have c5 := X1.out.c 5 _ rfl
  have c6 := X1.out.c 6 _ rfl
  have c7 := X1.out.c 7 _ rfl
  have hbl := X1.out.lt
  obtain ⟨S2, hS2⟩ : ∃ S2, S2 = (if wh.kind = 0 then [] else [32, 97, 116] ++ toldS wh) := ⟨_, rfl⟩
  have HS2 := hide hS2
  rw [← hS2] at HL0 HSZ
  clear hS2
  go_upto_if 14 with fail
  go_cut [3] (fun v W => v = .string ⟨(k ++ toldS nm ++ S2).toArray⟩ ∧ Hid (Below w.heap.size w W) ∧ Hid (BX W b (itmCells k a nm wh cp tx (.slice ao l.length cv) pf)))
  case first => as_aux_lemma =>
    by_cases h0 : wh.kind = 0
    · have e0 : ((wh.kind : Int) != 0) = false := by simp [h0]
      have HE : Hid (S2 = []) := by unfold Hid; rw [HS2.out, if_pos h0]
      clear h0
      go_wp2_with fail
      go_meet
      case rel => exact ⟨congrArg Value.string (dataEq (by rw [HE.out]; simp)), B1, X1⟩
    · have e0 : ((wh.kind : Int) != 0) = true := by simp [h0]
      have HE : Hid (S2 = [32, 97, 116] ++ toldS wh) := by unfold Hid; rw [HS2.out, if_neg h0]
      have hz3 : k.length + (toldS nm).length + 3 + (toldS wh).length < 4294967281 := by
        have h := HSZ.out; rw [HE.out, List.length_append] at h; simp at h; omega
      have T2 := hide (told_any wh W1 (by omega))
      clear h0
      go_wp2_with fail
      refine T2.out.mono ?_
      rintro e W2 ⟨rfl, b2⟩
      have X2 := hide (X1.out.same (b2.block b hbl))
      have B2 := hide (B1.out.trans (b2.mono B1.out.size))
      clear b2 T2
      go_wp2_with fail
      go_meet
      case rel => exact ⟨congrArg Value.string (dataEq (by rw [HE.out]; simp)), B2, X2⟩
  case rest =>
  obtain ⟨rfl, B2, X2⟩ := hcut
  obtain ⟨pre, hpre⟩ : ∃ pre, pre = k ++ toldS nm ++ S2 := ⟨_, rfl⟩
  rw [← hpre] at HL0 ⊢
  have hpl : pre.length = k.length + (toldS nm).length + S2.length := by rw [hpre]; simp; omega
  have hsz := HSZ.out
  have hz3 : pre.length + (toldS cp).length + (toldS tx).length + (l.flatMap attrS).length + (match f with | none => [] | some f => 32 :: formS f).length < 4294967281 := by omega
  have HSZ2 := hide hz3
  have hz4 : pre.length + (toldS cp).length < 4294967281 := by omega
  have hz5 : pre.length + (toldS cp).length + (toldS tx).length < 4294967281 := by omega
  clear hpre hpl hsz hz3 HSZ HS2 X1 B1 c5 c6 c7 hz2 hbl
  have T3 := hide (fun d os => told_grown cp wc (by omega) d os)
  have T4 := hide (fun d os => told_grown tx wc (by omega) d os)
  have c8 := fun d os => cell_regrown (X2.out.c 8 _ rfl) d os
  have c9 := fun d os => cell_regrown (X2.out.c 9 _ rfl) d os
  have c10 := fun d os => cell_regrown (X2.out.c 10 _ rfl) d os
  have c11 := fun d os => cell_regrown (X2.out.c 11 _ rfl) d os
  have c12 := fun d os => cell_regrown (X2.out.c 12 _ rfl) d os
  have c13 := fun d os => cell_regrown (X2.out.c 13 _ rfl) d os
  have hbl := X2.out.lt
  go_upto_region 4 with fail
  refine wp_region_quiet_below (by kernel_rfl) (by kernel_rfl) ?_
  iterate 3 (go_big_quiet_step (fail))
  go_big_quiet_step (first | (go_at_call 26; exact T3.out _ _))
  iterate 3 (go_big_quiet_step (fail))
  go_big_quiet_step (first | (go_at_call 26; exact T4.out _ _))
  iterate 2 (go_big_quiet_step (fail))
  refine wpQuiet_nil ?_
  rintro _ ⟨pq3, rfl⟩
  have b3 := below_regrown wc pq3.d pq3.os
  generalize grow (redrawn wc pq3.d) pq3.os = W3 at *
  have X3 := hide (X2.out.same (b3.block b hbl))
  have B3 := hide (B2.out.trans (b3.mono B2.out.size))
  clear b3 X2 B2 c8 c9 c10 c11 c12 c13 T3 T4 hz4 hbl
  obtain ⟨pr2, hpr2⟩ : ∃ x, x = pre ++ toldS cp ++ toldS tx := ⟨_, rfl⟩
  have HP2 := hide hpr2
  have hp2l : pr2.length = pre.length + (toldS cp).length + (toldS tx).length := by rw [hpr2]; simp; omega
  clear hpr2
  have HSZ3 : Hid (pr2.length + (l.flatMap attrS).length + (match f with | none => [] | some f => 32 :: formS f).length < 4294967281) := by unfold Hid; have := HSZ2.out; omega
  have HL1 : Hid (lineS ⟨k, a, nm, wh, cp, tx, l, f⟩ = pr2 ++ l.flatMap attrS ++ (match f with | none => [] | some f => 32 :: formS f) ++ [10]) := by unfold Hid; rw [HL0.out, HP2.out]
  clear hp2l HSZ2 HL0 hz5
  have A3 := hide (HA.out.but (ButP.of (g := g) B3.out))
  have F3 := hide (HF.out.but (ButP.of (g := g) B3.out))
  clear HA HF HW HB
  go_wp2_with fail
  go_loopw [3, 4] (fun sv iv W => ∃ i : Nat, i ≤ l.length ∧ iv = .int .i64 i ∧ sv = .string ⟨(pr2 ++ (l.take i).flatMap attrS).toArray⟩ ∧ Hid (Below w.heap.size w W) ∧ Hid (BX W b (itmCells k a nm wh cp tx (.slice ao l.length cv) pf)) ∧ Hid (AtrsAt W g ao l) ∧ Hid (FAt W g pf f)) (fun _ iv _ => l.length - (intOf iv).toNat)
  case atStart => exact ⟨0, Nat.zero_le _, rfl, congrArg Value.string (dataEq (by rw [HP2.out]; simp)), B3, X3, A3, F3⟩
  case round =>
    obtain ⟨i, hi, rfl, rfl, hB, hX, hA, hF⟩ := hrel
    have x14 := hX.out.c 14 _ rfl
    have hbl := hX.out.lt
    by_cases hlt : i < l.length
    · have hlI : (i : Int) < (l.length : Int) := by omega
      have hiI : (i : Int) < 4294967281 := by have h1 := attrs_length l; have h2 := HSZ3.out; omega
      obtain ⟨bb, hbb, _, k1, k2, k3, k4, k5⟩ := hA.out i hlt
      have hst := flatMap_take_le attrS l i hlt
      have hz := HSZ3.out
      obtain ⟨pa, hpa⟩ : ∃ x, x = pr2 ++ (l.take i).flatMap attrS := ⟨_, rfl⟩
      have hpl : pa.length = pr2.length + ((l.take i).flatMap attrS).length := by rw [hpa]; simp
      have hal : (attrS l[i]).length = l[i].k.length + (toldS l[i].t).length + 3 := by simp [attrS]; omega
      have hz6 : pa.length + l[i].k.length + (toldS l[i].t).length + 3 < 4294967281 := by omega
      have HNx : Hid (pr2 ++ (l.take (i + 1)).flatMap attrS = pa ++ (32 :: 40 :: (l[i].k ++ toldS l[i].t ++ [41]))) := by
        unfold Hid; rw [List.take_succ_eq_append_getElem hlt, List.flatMap_append, hpa]; simp [attrS]
      rw [← hpa]
      clear hst hz hpa hpl hal k2
      subst hbb
      have T5 := hide (fun d os => told_grown l[i].t wr (by omega) d os)
      have e14 := fun d os => cell_regrown x14 d os
      have e1 := fun d os => cell_regrown k1 d os
      have e3 := fun d os => cell_regrown k3 d os
      have e4 := fun d os => cell_regrown k4 d os
      have e5 := fun d os => cell_regrown k5 d os
      have hbl2 := World.block_lt_of_cell? wr _ k1
      have hz7 : pa.length + 2 < 4294967281 := by omega
      have hz8 : pa.length + 2 + l[i].k.length < 4294967281 := by omega
      have hz9 : pa.length + 2 + l[i].k.length + (toldS l[i].t).length < 4294967281 := by omega
      clear k1 k3 k4 k5
      go_upto_region 8 with fail
      clear x14
      refine wp_region_quiet_below (by kernel_rfl) (by kernel_rfl) ?_
      repeat (go_big_quiet_step (first | (go_at_call 26; exact T5.out _ _)))
      refine wpQuiet_nil ?_
      rintro _ ⟨pq5, rfl⟩
      have b5 := below_regrown wr pq5.d pq5.os
      generalize grow (redrawn wr pq5.d) pq5.os = W5 at *
      have X5 := hide (hX.out.same (b5.block b hbl))
      have B5 := hide (hB.out.trans (b5.mono hB.out.size))
      have A5 := hide (hA.out.but (ButP.of (g := g) b5))
      have F5 := hide (hF.out.but (ButP.of (g := g) b5))
      clear b5 hX hB hA hF e14 e1 e3 e4 e5 T5 hbl hbl2
      go_wp2_with fail
      exact ⟨⟨i + 1, by omega, by go_num, congrArg Value.string (dataEq (by rw [HNx.out]; simp)), B5, X5, A5, F5⟩, by simp [intOf]; omega⟩
    · have hge : l.length ≤ i := by omega
      rw [List.take_of_length_le hge]
      obtain ⟨pa, hpa⟩ : ∃ x, x = pr2 ++ l.flatMap attrS := ⟨_, rfl⟩
      have hpl : pa.length = pr2.length + (l.flatMap attrS).length := by rw [hpa]; simp
      have HL2 : Hid (lineS ⟨k, a, nm, wh, cp, tx, l, f⟩ = pa ++ (match f with | none => [] | some f => 32 :: formS f) ++ [10]) := by unfold Hid; rw [HL1.out, hpa]
      have hz := HSZ3.out
      have x15 := hX.out.c 15 _ rfl
      rw [← hpa]
      clear hpa HL1
      cases f with
      | none =>
        have hp : pf = none := hF.out
        subst hp
        have hz6 : pa.length < 4294967281 := by omega
        clear hz hF hA hpl
        go_wp2_with fail
        go_ret
        rw [HL2.out]
        exact ⟨congrArg Ending.returned (congrArg Value.string (dataEq (by simp))), hB.out⟩
      | some f =>
        have hN : NodeAt wr g pf f := hF.out
        have hz6 : pa.length + (formS f).length + 1 < 4294967281 := by simp only [List.length_cons] at hz; omega
        have hFo := hide (form_any g wr f pf hN (by omega))
        obtain ⟨nn, rfl⟩ : ∃ nn, pf = some nn := by
          cases f <;> (obtain ⟨n, _⟩ := hN <;> rename_i h <;> first | exact ⟨_, h.1⟩ | (obtain ⟨_, _, h, _⟩ := h; exact ⟨_, h⟩) | (obtain ⟨_, _, _, h, _⟩ := h; exact ⟨_, h⟩))
        unfold FormOk at hFo
        have HL3 : Hid (lineS ⟨k, a, nm, wh, cp, tx, l, some f⟩ = pa ++ (32 :: formS f) ++ [10]) := HL2.out
        clear hz hF hA hpl hN HL2
        generalize formS f = ff at *
        go_wp2_with fail
        refine hFo.out.mono ?_
        rintro e w' ⟨rfl, hw'⟩
        rw [hw']
        go_wp2_with fail
        go_ret
        rw [HL3.out]
        exact ⟨congrArg Ending.returned (congrArg Value.string (dataEq (by simp))), hB.out⟩
end Go.Proofs.Ytilfdbkceiejgaa
