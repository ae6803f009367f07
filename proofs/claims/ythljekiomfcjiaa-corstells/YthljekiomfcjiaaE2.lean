/- The walk over moatref5.May. -/
import Derived.Test.YthljekiomfcjiaaE1
import Derived.Deep.MidRow
import Derived.Lib.QuietBelow
namespace Go.Proofs.Ythljekiomfcjiaa
open Go.RowKit Go.Proofs.Url

theorem refLower_low (h : List UInt8) : lowerS (lowerS h) = lowerS h := lowerS_lowerS h
/-- Where the inner loop stands. -/
def okK (al : List (List UInt8)) (h : List UInt8) (k : Nat) : Bool := headS h || (al.take k).any (fun a => lowerS a == lowerS h)
theorem okK_zero (al : List (List UInt8)) (h : List UInt8) : okK al h 0 = headS h := by unfold okK; simp
theorem okK_next (al : List (List UInt8)) (h : List UInt8) (k : Nat) (hk : k < al.length) : okK al h (k + 1) = (okK al h k || (lowerS al[k] == lowerS h)) := by
  unfold okK; rw [List.take_succ_eq_append_getElem hk, List.any_append]; simp [Bool.or_assoc]
theorem okK_all (al : List (List UInt8)) (h : List UInt8) (k : Nat) (hk : al.length ≤ k) : okK al h k = (headS h || inLow al h) := by
  unfold okK inLow; rw [List.take_of_length_le hk]

def Ep.cells (e : Ep) : List Value := [e.v0, .int .i64 e.o, .string ⟨e.m.toArray⟩, e.v3, e.v4, e.v5, e.v6, e.v7, .slice e.ho e.hs.length e.hc, e.v9, e.v10, e.v11, e.v12, e.v13, e.v14, .bool e.any, .bool e.cr, .slice e.co e.cs.length e.cc, .slice e.lo e.al.length e.lc, .slice e.mo e.ms.length e.mc, e.v20]
theorem range_new (w : World) (cs : List Value) (t : TypeId) : (w.alloc (Obj.cells cs.toArray t)).rangeAt w.heap.size 0 cs := by
  intro j v hj
  rw [Nat.zero_add, World.cell?_alloc_new]
  simpa using hj
theorem range_keep {W W' : World} {B g : Nat} {cs : List Value} (h : W.rangeAt g 0 cs) (hb : Below B W W') (hg : g < B) : W'.rangeAt g 0 cs := by
  intro j v hj
  rw [hb.cell (p := ⟨g, 0 + j, none⟩) hg]; exact h j v hj
theorem range_cell {W : World} {g : Nat} {cs : List Value} (h : W.rangeAt g 0 cs) (j : Nat) (v : Value) (hj : cs[j]? = some v) : W.cell? ⟨g, j, none⟩ = some v := by
  have := h j v hj
  rwa [Nat.zero_add] at this
theorem ep_load (e : Ep) (W : World) (g : Nat) (h : W.rangeAt g 0 e.cells) : (Instr.loadAt 25 (.pointer (some ⟨g, 0, none⟩))).run Try.prog W = .ok (.agg e.cells.toArray) W :=
  run_loadAt_mid W g 0 25 e.cells _ h Try.underlying25 rfl (by kernel_rfl)

set_option maxHeartbeats 4000000 in
set_option maxRecDepth 100000 in
theorem refMay_any (e : Ep) (b : Int) (creds heads : Bool) (w : World) (hq : EpAt w e) (hl1 : e.cs.length < 4294967281) (hl2 : e.hs.length < 4294967281) (hl3 : e.al.length < 4294967281) (hl4 : e.ms.length < 4294967281)
    (hz1 : ∀ h ∈ e.hs, h.length < 4294967281) (hz2 : ∀ h ∈ e.al, h.length < 4294967281) :
    Calls Try.prog 14 #[e.v, .int .i64 b, .bool creds, .bool heads] w fun r w' => r = .returned (.bool (mayS e.o e.m e.hs e.any e.cr e.cs e.al e.ms b creds heads)) ∧ Below w.heap.size w w' := by
  have HQ := hide hq
  have HZ1 := hide hz1
  have HZ2 := hide hz2
  clear hq hz1 hz2
  have B0 : Hid (∀ o, Below w.heap.size w (w.alloc o)) := fun o => (Below.refl _ _).alloc (Nat.le_refl _) _
  have ca := fun W (h : EpAt W e) => refAhead_any e b heads W h hl2 HZ1.out
  have cl := fun W (h : EpAt W e) => refLets_any e b creds W h hl1
  have CS := hide (fun W => refSafe_any e.m W)
  have CI := hide (fun W (h : EpAt W e) => refIn_any e.m e.mo e.ms e.mc W h.ms hl4)
  have HM : Hid (mayS e.o e.m e.hs e.any e.cr e.cs e.al e.ms b creds heads = (!aheadS e.o e.m e.hs b heads || (letsS e.o e.any e.cr e.cs b creds && (methodS e.m || e.ms.contains e.m) && (!heads || allowS e.hs e.al)))) := rfl
  generalize mayS e.o e.m e.hs e.any e.cr e.cs e.al e.ms b creds heads = res at *
  generalize aheadS e.o e.m e.hs b heads = ah at *
  generalize letsS e.o e.any e.cr e.cs b creds = le at *
  generalize methodS e.m = me at *
  generalize e.ms.contains e.m = li at *
  simp only [Ep.v] at ca cl
  have CA := hide ca
  have CL := hide cl
  clear ca cl
  simp only [Ep.v]
  have rg := range_new w e.cells 25
  have RG := hide rg
  clear rg
  have IF : Hid ((Try.prog.info? 25).map (·.size) = some e.cells.length) := by unfold Hid; kernel_rfl
  cases ah with
  | false =>
    have HR : Hid (res = true) := by unfold Hid; rw [HM.out]; rfl
    go_enter Try.func14, Try.ntmps14
    go_wp2_with (refine wpList_load_mid rfl 25 _ rfl w.heap.size 0 rfl _ _ RG.out Try.underlying25 rfl IF.out ?_)
    refine (CA.out _ (HQ.out.keep (B0.out _))).mono ?_
    rintro r w1 ⟨rfl, hb1⟩
    have B1 := hide ((B0.out _).trans (hb1.mono (B0.out _).size))
    clear hb1
    go_wp2_with fail
    go_ret
    exact ⟨ret_bool HR.out.symm, B1.out⟩
  | true =>
    go_enter Try.func14, Try.ntmps14
    go_wp2_with (refine wpList_load_mid rfl 25 _ rfl w.heap.size 0 rfl _ _ RG.out Try.underlying25 rfl IF.out ?_)
    refine (CA.out _ (HQ.out.keep (B0.out _))).mono ?_
    rintro r w1 ⟨rfl, hb1⟩
    have B1 := hide ((B0.out _).trans (hb1.mono (B0.out _).size))
    have Q1 := hide ((HQ.out.keep (B0.out _)).keep hb1)
    have R1 := hide (range_keep RG.out hb1 (by simp))
    have hz1 := hb1.size
    have hg1 : w.heap.size < w1.heap.size := by simp at hz1; omega
    clear hb1 hz1 RG HQ B0 CA
    go_wp2_with (refine wpList_load_mid rfl 25 _ rfl w.heap.size 0 rfl _ _ R1.out Try.underlying25 rfl IF.out ?_)
    refine (CL.out _ Q1.out).mono ?_
    rintro r w2 ⟨rfl, hb2⟩
    have B2 := hide (B1.out.trans (hb2.mono B1.out.size))
    have Q2 := hide (Q1.out.keep hb2)
    have R2 := hide (range_keep R1.out hb2 hg1)
    have hg2 : w.heap.size < w2.heap.size := by have := hb2.size; omega
    clear hb2 R1 Q1 B1 CL hg1
    have c2 := range_cell R2.out 2 _ rfl
    have c19 := range_cell R2.out 19 _ rfl
    cases le with
    | false =>
      have HR : Hid (res = false) := by unfold Hid; rw [HM.out]; simp
      go_wp2_with fail
      go_ret
      exact ⟨ret_bool HR.out.symm, B2.out⟩
    | true =>
      go_wp2_with fail
      refine (CS.out _).mono ?_
      rintro r w3 ⟨rfl, hb3⟩
      have B3 := hide (B2.out.trans (hb3.mono B2.out.size))
      have Q3 := hide (Q2.out.keep hb3)
      have R3 := hide (range_keep R2.out hb3 hg2)
      have hg3 : w.heap.size < w3.heap.size := by have := hb3.size; omega
      clear hb3 R2 Q2 B2 CS hg2 c2 c19
      have c2 := range_cell R3.out 2 _ rfl
      have c19 := range_cell R3.out 19 _ rfl
      cases me with
      | true =>
        obtain ⟨wz, hwz⟩ : ∃ wz, wz = w3 := ⟨_, rfl⟩
        subst hwz
        have RZ := R3
        have QZ := Q3
        have BZ := B3
        have hgz := hg3
        clear R3 Q3 B3 hg3 c2 c19
        cases heads with
        | false =>
          have HR : Hid (res = true) := by unfold Hid; rw [HM.out]; simp
          have c8 := range_cell RZ.out 8 _ rfl
          go_wp2_with fail
          go_loopw [9] (fun iv W => iv = .int .i64 0 ∧ W = wz) (fun iv _ => 0)
          case atStart => exact ⟨rfl, rfl⟩
          case round =>
            obtain ⟨rfl, rfl⟩ := hrel
            by_cases h0 : (0 : Int) < (e.hs.length : Int)
            · go_wp2_with fail
              go_ret
              exact ⟨ret_bool HR.out.symm, BZ.out⟩
            · go_wp2_with fail
              go_ret
              exact ⟨ret_bool HR.out.symm, BZ.out⟩
        | true =>
          have HR : Hid (res = allowS e.hs e.al) := by unfold Hid; rw [HM.out]; simp
          go_wp2_with fail
          go_loopw [9] (fun iv W => ∃ i : Nat, i ≤ e.hs.length ∧ iv = .int .i64 i ∧ Hid ((e.hs.take i).all (fun h => headS h || inLow e.al h) = true) ∧ Hid (Below wz.heap.size wz W)) (fun iv _ => e.hs.length - (intOf iv).toNat)
          case atStart => exact ⟨0, Nat.zero_le _, rfl, rfl, Below.refl _ _⟩
          case round =>
            obtain ⟨i, hi, rfl, hall, hB⟩ := hrel
            have RI := hide (range_keep RZ.out hB.out hgz)
            have QI := hide (QZ.out.keep hB.out)
            have hgi : w.heap.size < wr.heap.size := by have := hB.out.size; omega
            have c8 := range_cell RI.out 8 _ rfl
            have c18 := range_cell RI.out 18 _ rfl
            by_cases hlt : i < e.hs.length
            · have hlI : (i : Int) < (e.hs.length : Int) := by omega
              obtain ⟨bk, off, hho, hc⟩ := QI.out.hs i hlt
              have HHo := hide hho
              clear hho
              rw [HHo.out] at c8
              have hbk : bk < wr.heap.size := World.block_lt_of_cell? wr _ hc
              have hzi := HZ1.out e.hs[i] (List.getElem_mem hlt)
              go_wp2_with fail
              refine (refHead_any5 e.hs[i] _ hzi).mono ?_
              rintro r wh ⟨rfl, hbh⟩
              have RH := hide (range_keep RI.out hbh hgi)
              have QH := hide (QI.out.keep hbh)
              have BH := hide (hB.out.trans (hbh.mono hB.out.size))
              have hgh : w.heap.size < wh.heap.size := by have := hbh.size; omega
              clear hbh c8 c18 hc hbk RI QI hB
              rw [show headS e.hs[i] = okK e.al e.hs[i] 0 from (okK_zero _ _).symm]
              go_wp2_with fail
              go_loopw [10, 11] (fun ov kv W => ∃ k : Nat, k ≤ e.al.length ∧ kv = .int .i64 k ∧ ov = .bool (okK e.al e.hs[i] k) ∧ Hid (Below wh.heap.size wh W)) (fun _ kv _ => e.al.length - (intOf kv).toNat)
              case atStart => exact ⟨0, Nat.zero_le _, rfl, rfl, Below.refl _ _⟩
              case round =>
                obtain ⟨k, hk, rfl, rfl, hBk⟩ := hrel
                have RK := hide (range_keep RH.out hBk.out hgh)
                have QK := hide (QH.out.keep hBk.out)
                have c8 := range_cell RK.out 8 _ rfl
                have c18 := range_cell RK.out 18 _ rfl
                rw [HHo.out] at c8
                obtain ⟨bk', off', hho', hc⟩ := QK.out.hs i hlt
                rw [HHo.out] at hho'
                obtain ⟨rfl, rfl⟩ : bk = bk' ∧ off = off' := by simpa using hho'
                clear hho'
                by_cases hkl : k < e.al.length
                · have hkI : (k : Int) < (e.al.length : Int) := by omega
                  obtain ⟨ba, offa, hla, hca⟩ := QK.out.al k hkl
                  rw [hla] at c18
                  clear hla
                  have hza := HZ2.out e.al[k] (List.getElem_mem hkl)
                  have HN := hide (okK_next e.al e.hs[i] k hkl)
                  cases hok : okK e.al e.hs[i] k with
                  | true =>
                    rw [hok] at HN
                    clear hok
                    go_wp2_with fail
                    go_quiet (fail)
                    go_wp2_with fail
                    refine ⟨⟨k + 1, by omega, by go_num, congrArg Value.bool (by rw [HN.out]; simp), below_drewN hBk.out _⟩, by simp [intOf]; omega⟩
                  | false =>
                    rw [hok] at HN
                    clear hok
                    have CLo := hide (fun l (h : l.length < 4294967281) d os => Calls.regrown_of (refLower_any l (Sort.grow (redrawn wr d) os) h))
                    have k1 := cell_regrown hc
                    have k2 := cell_regrown hca
                    have k3 := cell_regrown c8
                    have k4 := cell_regrown c18
                    go_wp2_with fail
                    refine wp_region_quiet_below (by kernel_rfl) (by kernel_rfl) ?_
                    repeat (go_big_quiet_step (first | (go_at_call 26; exact CLo.out _ (by assumption) _ _)))
                    refine wpQuiet_nil ?_
                    rintro _ ⟨pq, rfl⟩
                    have hb5 := below_regrown wr pq.d pq.os
                    generalize Sort.grow (redrawn wr pq.d) pq.os = w5 at *
                    have B5 := hide (hBk.out.trans (hb5.mono hBk.out.size))
                    clear hb5 k1 k2 k3 k4 CLo
                    go_wp2_with fail
                    refine ⟨⟨k + 1, by omega, by go_num, congrArg Value.bool (by rw [HN.out]; simp), B5⟩, by simp [intOf]; omega⟩
                · have HA := hide (okK_all e.al e.hs[i] k (by omega))
                  cases hok : okK e.al e.hs[i] k with
                  | true =>
                    rw [hok] at HA
                    have HNx : Hid ((e.hs.take (i + 1)).all (fun h => headS h || inLow e.al h) = true) := by unfold Hid; rw [List.take_succ_eq_append_getElem hlt, List.all_append, hall.out, List.all_cons, ← HA.out]; rfl
                    go_wp2_with fail
                    refine ⟨⟨i + 1, by omega, by go_num, HNx, BH.out.trans (hBk.out.mono BH.out.size)⟩, by simp [intOf]; omega⟩
                  | false =>
                    rw [hok] at HA
                    have HR2 : Hid (res = false) := by unfold Hid; rw [HR.out]; unfold allowS; rw [List.all_eq_false]; exact ⟨e.hs[i], List.getElem_mem hlt, by rw [← HA.out]; simp⟩
                    go_wp2_with fail
                    go_ret
                    exact ⟨ret_bool HR2.out.symm, BZ.out.trans ((BH.out.trans (hBk.out.mono BH.out.size)).mono BZ.out.size)⟩
            · have HR2 : Hid (res = true) := by
                have := hall.out
                rw [List.take_of_length_le (by omega)] at this
                unfold Hid; rw [HR.out]; exact this
              clear hall
              go_wp2_with fail
              go_ret
              exact ⟨ret_bool HR2.out.symm, BZ.out.trans (hB.out.mono BZ.out.size)⟩
      | false =>
        go_wp2_with fail
        refine (CI.out _ Q3.out).mono ?_
        rintro r w4 ⟨rfl, hb4⟩
        have B4 := hide (B3.out.trans (hb4.mono B3.out.size))
        have Q4 := hide (Q3.out.keep hb4)
        have R4 := hide (range_keep R3.out hb4 hg3)
        have hg4 : w.heap.size < w4.heap.size := by have := hb4.size; omega
        clear hb4 R3 Q3 B3 CI hg3 c2 c19
        cases li with
        | false =>
          have HR : Hid (res = false) := by unfold Hid; rw [HM.out]; simp
          go_wp2_with fail
          go_ret
          exact ⟨ret_bool HR.out.symm, B4.out⟩
        | true =>
          obtain ⟨wz, hwz⟩ : ∃ wz, wz = w4 := ⟨_, rfl⟩
          subst hwz
          have RZ := R4
          have QZ := Q4
          have BZ := B4
          have hgz := hg4
          clear R4 Q4 B4 hg4
          cases heads with
          | false =>
            have HR : Hid (res = true) := by unfold Hid; rw [HM.out]; simp
            have c8 := range_cell RZ.out 8 _ rfl
            go_wp2_with fail
            go_loopw [9] (fun iv W => iv = .int .i64 0 ∧ W = wz) (fun iv _ => 0)
            case atStart => exact ⟨rfl, rfl⟩
            case round =>
              obtain ⟨rfl, rfl⟩ := hrel
              by_cases h0 : (0 : Int) < (e.hs.length : Int)
              · go_wp2_with fail
                go_ret
                exact ⟨ret_bool HR.out.symm, BZ.out⟩
              · go_wp2_with fail
                go_ret
                exact ⟨ret_bool HR.out.symm, BZ.out⟩
          | true =>
            have HR : Hid (res = allowS e.hs e.al) := by unfold Hid; rw [HM.out]; simp
            go_wp2_with fail
            go_loopw [9] (fun iv W => ∃ i : Nat, i ≤ e.hs.length ∧ iv = .int .i64 i ∧ Hid ((e.hs.take i).all (fun h => headS h || inLow e.al h) = true) ∧ Hid (Below wz.heap.size wz W)) (fun iv _ => e.hs.length - (intOf iv).toNat)
            case atStart => exact ⟨0, Nat.zero_le _, rfl, rfl, Below.refl _ _⟩
            case round =>
              obtain ⟨i, hi, rfl, hall, hB⟩ := hrel
              have RI := hide (range_keep RZ.out hB.out hgz)
              have QI := hide (QZ.out.keep hB.out)
              have hgi : w.heap.size < wr.heap.size := by have := hB.out.size; omega
              have c8 := range_cell RI.out 8 _ rfl
              have c18 := range_cell RI.out 18 _ rfl
              by_cases hlt : i < e.hs.length
              · have hlI : (i : Int) < (e.hs.length : Int) := by omega
                obtain ⟨bk, off, hho, hc⟩ := QI.out.hs i hlt
                have HHo := hide hho
                clear hho
                rw [HHo.out] at c8
                have hbk : bk < wr.heap.size := World.block_lt_of_cell? wr _ hc
                have hzi := HZ1.out e.hs[i] (List.getElem_mem hlt)
                go_wp2_with fail
                refine (refHead_any5 e.hs[i] _ hzi).mono ?_
                rintro r wh ⟨rfl, hbh⟩
                have RH := hide (range_keep RI.out hbh hgi)
                have QH := hide (QI.out.keep hbh)
                have BH := hide (hB.out.trans (hbh.mono hB.out.size))
                have hgh : w.heap.size < wh.heap.size := by have := hbh.size; omega
                clear hbh c8 c18 hc hbk RI QI hB
                rw [show headS e.hs[i] = okK e.al e.hs[i] 0 from (okK_zero _ _).symm]
                go_wp2_with fail
                go_loopw [10, 11] (fun ov kv W => ∃ k : Nat, k ≤ e.al.length ∧ kv = .int .i64 k ∧ ov = .bool (okK e.al e.hs[i] k) ∧ Hid (Below wh.heap.size wh W)) (fun _ kv _ => e.al.length - (intOf kv).toNat)
                case atStart => exact ⟨0, Nat.zero_le _, rfl, rfl, Below.refl _ _⟩
                case round =>
                  obtain ⟨k, hk, rfl, rfl, hBk⟩ := hrel
                  have RK := hide (range_keep RH.out hBk.out hgh)
                  have QK := hide (QH.out.keep hBk.out)
                  have c8 := range_cell RK.out 8 _ rfl
                  have c18 := range_cell RK.out 18 _ rfl
                  rw [HHo.out] at c8
                  obtain ⟨bk', off', hho', hc⟩ := QK.out.hs i hlt
                  rw [HHo.out] at hho'
                  obtain ⟨rfl, rfl⟩ : bk = bk' ∧ off = off' := by simpa using hho'
                  clear hho'
                  by_cases hkl : k < e.al.length
                  · have hkI : (k : Int) < (e.al.length : Int) := by omega
                    obtain ⟨ba, offa, hla, hca⟩ := QK.out.al k hkl
                    rw [hla] at c18
                    clear hla
                    have hza := HZ2.out e.al[k] (List.getElem_mem hkl)
                    have HN := hide (okK_next e.al e.hs[i] k hkl)
                    cases hok : okK e.al e.hs[i] k with
                    | true =>
                      rw [hok] at HN
                      clear hok
                      go_wp2_with fail
                      go_quiet (fail)
                      go_wp2_with fail
                      refine ⟨⟨k + 1, by omega, by go_num, congrArg Value.bool (by rw [HN.out]; simp), below_drewN hBk.out _⟩, by simp [intOf]; omega⟩
                    | false =>
                      rw [hok] at HN
                      clear hok
                      have CLo := hide (fun l (h : l.length < 4294967281) d os => Calls.regrown_of (refLower_any l (Sort.grow (redrawn wr d) os) h))
                      have k1 := cell_regrown hc
                      have k2 := cell_regrown hca
                      have k3 := cell_regrown c8
                      have k4 := cell_regrown c18
                      go_wp2_with fail
                      refine wp_region_quiet_below (by kernel_rfl) (by kernel_rfl) ?_
                      repeat (go_big_quiet_step (first | (go_at_call 26; exact CLo.out _ (by assumption) _ _)))
                      refine wpQuiet_nil ?_
                      rintro _ ⟨pq, rfl⟩
                      have hb5 := below_regrown wr pq.d pq.os
                      generalize Sort.grow (redrawn wr pq.d) pq.os = w5 at *
                      have B5 := hide (hBk.out.trans (hb5.mono hBk.out.size))
                      clear hb5 k1 k2 k3 k4 CLo
                      go_wp2_with fail
                      refine ⟨⟨k + 1, by omega, by go_num, congrArg Value.bool (by rw [HN.out]; simp), B5⟩, by simp [intOf]; omega⟩
                  · have HA := hide (okK_all e.al e.hs[i] k (by omega))
                    cases hok : okK e.al e.hs[i] k with
                    | true =>
                      rw [hok] at HA
                      have HNx : Hid ((e.hs.take (i + 1)).all (fun h => headS h || inLow e.al h) = true) := by unfold Hid; rw [List.take_succ_eq_append_getElem hlt, List.all_append, hall.out, List.all_cons, ← HA.out]; rfl
                      go_wp2_with fail
                      refine ⟨⟨i + 1, by omega, by go_num, HNx, BH.out.trans (hBk.out.mono BH.out.size)⟩, by simp [intOf]; omega⟩
                    | false =>
                      rw [hok] at HA
                      have HR2 : Hid (res = false) := by unfold Hid; rw [HR.out]; unfold allowS; rw [List.all_eq_false]; exact ⟨e.hs[i], List.getElem_mem hlt, by rw [← HA.out]; simp⟩
                      go_wp2_with fail
                      go_ret
                      exact ⟨ret_bool HR2.out.symm, BZ.out.trans ((BH.out.trans (hBk.out.mono BH.out.size)).mono BZ.out.size)⟩
              · have HR2 : Hid (res = true) := by
                  have := hall.out
                  rw [List.take_of_length_le (by omega)] at this
                  unfold Hid; rw [HR.out]; exact this
                clear hall
                go_wp2_with fail
                go_ret
                exact ⟨ret_bool HR2.out.symm, BZ.out.trans (hB.out.mono BZ.out.size)⟩
end Go.Proofs.Ythljekiomfcjiaa
