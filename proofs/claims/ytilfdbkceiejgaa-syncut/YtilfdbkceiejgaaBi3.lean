import Derived.Test.YtilfdbkceiejgaaW2
import Derived.Test.YtilfdbkceiejgaaBi2
import Derived.Test.YtilfdbkceiejgaaBi1
import Derived.Deep.QuietTactic
import Derived.BigQuiet
import Derived.Test.YtilfdbkceiejgaaFrame
/- moatlaw0.Low as a natural number (L26 has it, too: never both in one seat). -/
namespace Go.Proofs.Ytilfdbkceiejgaa
open Go.RowKit Go.Proofs.Url

/-- What Low gives, as a natural number. -/
def lowT (x n : Int) : Nat := (low x n).toNat
theorem lowT_lt (x : Int) (n : Nat) (h : 1 ≤ n) : lowT x n < n := by
  have a := low_nn x n (by omega)
  have b := low_lt x n (by omega)
  unfold lowT; omega
theorem lowT_any (x n : Int) (w : World) (h1 : 1 ≤ n) (h2 : n ≤ 70000) :
    Calls Try.prog 16 #[.int .i64 x, .int .i64 n] w fun e w' => e = .returned (.int .i64 (lowT x n : Int)) ∧ w' = w := by
  refine (low_any x n w (by omega) (by omega)).mono ?_
  rintro e w' ⟨rfl, rfl⟩
  have a := low_nn x n (by omega)
  exact ⟨by unfold lowT; rw [Int.toNat_of_nonneg a], rfl⟩
end Go.Proofs.Ytilfdbkceiejgaa

/- The walk over moatlaw10.SynCut, by what package syn gives. -/
namespace Go.Proofs.Ytilfdbkceiejgaa
open Go.RowKit Go.Proofs.Url Go.Proofs.Url.Syn

set_option maxHeartbeats 4000000 in
set_option maxRecDepth 100000 in
theorem synCut_walk (ok : SynOk) (s : List UInt8) (at0 : Int) (w : World) :
    Calls Try.prog 4 #[.string ⟨s.toArray⟩, .int .i64 at0] w fun e w' => e = .returned (.bool true) ∧ Below w.heap.size w w' := by
  have OK := hide ok
  have XA := hide (fun W => awake10_any ok W)
  clear ok
  by_cases hs9 : 900 < s.length
  · have i1 : ((900 : Int) < (s.length : Int)) = True := eq_true (by omega)
    clear hs9
    go_enter Try.func4, Try.ntmps4
    go_wp2_with fail
    refine (XA.out _).mono ?_
    rintro e w1 ⟨rfl, hb1⟩
    go_wp2_with fail
    go_ret
    exact ⟨rfl, hb1⟩
  have i1 : ((900 : Int) < (s.length : Int)) = False := eq_false (by omega)
  have hsl : s.length ≤ 900 := by omega
  have S1 : Hid (s.length < 4294967281) := by unfold Hid; omega
  have HF := hide (cut_facts (s := s))
  have HFa := hide (itemsR_few (s := s))
  have HLa := hide (dumpR_len (s := s))
  obtain ⟨ds, hds⟩ : ∃ v, dumpR s = v := ⟨_, rfl⟩
  obtain ⟨es, hes⟩ : ∃ v, itemsR s = v := ⟨_, rfl⟩
  rw [hds] at HLa
  rw [hes] at HFa
  rw [hds, hes] at HF
  have O1 := hide (fun W => by have h := OK.out.dump s W S1.out; rw [hds] at h; exact h)
  have O3 := hide (fun W => by have h := OK.out.items s W S1.out; rw [hes] at h; exact h)
  obtain ⟨la, c1, q1⟩ := ds
  obtain ⟨A, c3, q3⟩ := es
  have hAl : A.length ≤ 900 := Nat.le_trans HFa.out hsl
  clear HFa
  simp only at HF HLa O1 O3
  clear hds hes hs9
  go_enter Try.func4, Try.ntmps4
  go_wp2_with fail
  clear i1
  refine (O1.out _).mono ?_
  rintro e w1 ⟨hb, rfl⟩
  have B1 := hide hb
  clear hb
  go_upto_region 4 with fail
  obtain ⟨W1, hW⟩ : ∃ v, v = w1.alloc (Obj.cells #[.int .i64 c1, .int .i64 q1] 25) := ⟨_, rfl⟩
  have b : Below w1.heap.size w1 W1 := by rw [hW]; exact (Below.refl _ _).alloc (Nat.le_refl _) _
  have R1 : Hid (WB W1 w1.heap.size c1 q1) := by unfold Hid; rw [hW]; exact WB.new w1 _ _ _
  rw [← hW]
  replace B1 := hide (B1.out.trans (b.mono B1.out.size))
  clear b hW
  go_wp2_with fail
  refine (O3.out _).mono ?_
  rintro e w3 ⟨hb, ao, ca, rfl, hI⟩
  replace R1 := hide (R1.out.keep hb)
  have IA := hide hI
  have B3 := hide (B1.out.trans (hb.mono B1.out.size))
  clear hb B1 hI
  go_upto_region 5 with fail
  obtain ⟨W3, hW⟩ : ∃ v, v = w3.alloc (Obj.cells #[.int .i64 c3, .int .i64 q3] 25) := ⟨_, rfl⟩
  have b : Below w3.heap.size w3 W3 := by rw [hW]; exact (Below.refl _ _).alloc (Nat.le_refl _) _
  rw [← hW]
  replace B3 := hide (B3.out.trans (b.mono B3.out.size))
  replace R1 := hide (R1.out.keep b)
  replace IA := hide (IA.out.keep b)
  clear b hW O1 O3
  have r0 := R1.out.c0
  have hl1 := R1.out.lt
  by_cases hc1 : ¬ c1 = 0
  · have e1 : ((c1 : Int) == 0) = false := beq_eq_false_iff_ne.2 (by omega)
    clear hc1 HF
    go_wp2_with fail
    refine (XA.out _).mono ?_
    rintro e w5 ⟨rfl, hb⟩
    have B5 := hide (B3.out.trans (hb.mono B3.out.size))
    clear hb
    go_wp2_with fail
    go_ret
    exact ⟨rfl, B5.out⟩
  replace hc1 : c1 = 0 := Decidable.not_not.1 hc1
  subst hc1
  by_cases hA0 : A.length = 0
  · have e1 : ((A.length : Int) == 0) = true := beq_iff_eq.2 (by omega)
    have e2 : A = [] := List.length_eq_zero_iff.1 hA0
    subst e2
    clear hA0 HF e1
    go_wp2_with fail
    refine (XA.out _).mono ?_
    rintro e w5 ⟨rfl, hb⟩
    have B5 := hide (B3.out.trans (hb.mono B3.out.size))
    clear hb
    go_wp2_with fail
    go_ret
    exact ⟨rfl, B5.out⟩
  have hA1 : 1 ≤ A.length := by omega
  have hkA : lowT at0 (A.length : Int) < A.length := lowT_lt at0 A.length hA1
  have e1 : A.isEmpty = false := by cases A with
    | nil => exact absurd rfl hA0
    | cons x l => rfl
  have e2 : ((A.length : Int) == 0) = false := beq_eq_false_iff_ne.2 (by omega)
  obtain ⟨d1, p, g1, g2, g3, g4, g5, g6⟩ := HF.out rfl _ hkA
  have LZ := hide (fun W => lowT_any at0 (A.length : Int) W (by omega) (by omega))
  generalize lowT at0 (A.length : Int) = k at *
  obtain ⟨ga, rfl, hca⟩ := IA.out k hkA
  rw [g1] at hca
  have i2 : ((p : Int) < 0) = False := eq_false (by omega)
  have i3 : ((s.length : Int) < (p : Int)) = False := eq_false (by omega)
  have hkI : ((k : Int) < (A.length : Int)) = True := eq_true (by omega)
  have HT : Hid ((s.take p).length < 4294967281) := by unfold Hid; rw [List.length_take]; omega
  have O5 := hide (fun W => by have h := OK.out.dump (s.take p) W HT.out; rw [g3] at h; exact h)
  simp only at O5
  have G4 := hide g4
  have G5 := hide g5
  have G6 := hide g6
  clear g1 g3 g4 g5 g6 HF e2 hA0 R1
  go_wp2_with fail
  refine (LZ.out _).mono ?_
  rintro e w4 ⟨rfl, hw4⟩
  subst hw4
  clear LZ r0 hl1
  go_wp2_with fail
  have HE1 : Hid ((⟨s.toArray⟩ : ByteArray).extract 0 p = ⟨(s.take p).toArray⟩) := dataEq (by simp)
  have HE2 : Hid ((⟨la.toArray⟩ : ByteArray).extract 0 d1.length = ⟨d1.toArray⟩) := dataEq (by rw [← G5.out]; simp)
  rw [HE1.out]
  refine (O5.out _).mono ?_
  rintro e w5 ⟨hb, rfl⟩
  have B5 := hide (B3.out.trans (hb.mono B3.out.size))
  clear hb B3 O5 HE1 IA
  go_upto_region 11 with fail
  obtain ⟨W5, hW⟩ : ∃ v, v = w5.alloc (Obj.cells #[.int .i64 0, .int .i64 0] 25) := ⟨_, rfl⟩
  have b : Below w5.heap.size w5 W5 := by rw [hW]; exact (Below.refl _ _).alloc (Nat.le_refl _) _
  have R5 : Hid (WB W5 w5.heap.size 0 0) := by unfold Hid; rw [hW]; exact WB.new w5 _ _ _
  rw [← hW]
  replace B5 := hide (B5.out.trans (b.mono B5.out.size))
  clear b hW hca hkI i2 i3 hkA hA1 g2
  go_wp2_with fail
  go_loopw [12, 13] (fun nv iv W => ∃ i : Nat, Hid (i ≤ d1.length) ∧ iv = .int .i64 i ∧ nv = .int .i64 ((d1.take i).count 10 : Nat) ∧ Hid (Below W5.heap.size W5 W)) (fun _ iv _ => d1.length - (intOf iv).toNat)
  case atStart => exact ⟨0, Nat.zero_le _, rfl, rfl, Below.refl _ _⟩
  case round =>
    obtain ⟨i, hi, rfl, rfl, hB⟩ := hrel
    by_cases hlt : i < d1.length
    · have hlI : ((i : Int) < (d1.length : Int)) = True := eq_true (by omega)
      have hil : i < 16200000 := by have := HLa.out; have := G6.out; omega
      have hcl : (d1.take i).count 10 ≤ i := Nat.le_trans List.count_le_length (by rw [List.length_take]; omega)
      obtain ⟨y, hy⟩ : ∃ y, y = (⟨d1.toArray⟩ : ByteArray)[i]'hlt := ⟨_, rfl⟩
      have hct : (d1.take (i + 1)).count 10 = (d1.take i).count 10 + (if y = 10 then 1 else 0) := by
        have h2 : d1[i] = y := hy.symm
        rw [List.take_succ_eq_append_getElem hlt, List.count_append, List.count_singleton, h2]
        simp
      have HM : Hid (d1.length - (i + 1) < d1.length - i) := by unfold Hid; omega
      have HI2 : Hid (i + 1 ≤ d1.length) := hlt
      by_cases hx : y = 10
      · have e1 : ((((⟨d1.toArray⟩ : ByteArray)[i]'hlt).toNat : Int) == 10) = true := by rw [← hy, hx]; rfl
        have HC : Hid ((d1.take (i + 1)).count 10 = (d1.take i).count 10 + 1) := by unfold Hid; rw [hct, if_pos hx]
        clear hct hx hy
        generalize (d1.take i).count 10 = c at *
        go_wp2_with fail
        exact ⟨⟨i + 1, HI2, by go_num, by rw [HC.out]; go_num, hB⟩, by have := HM.out; simp [intOf]; omega⟩
      · have hyn : ¬ y.toNat = 10 := fun e => hx (UInt8.toNat_inj.1 e)
        have e1 : ((((⟨d1.toArray⟩ : ByteArray)[i]'hlt).toNat : Int) == 10) = false := by rw [← hy]; exact beq_eq_false_iff_ne.2 (by omega)
        have HC : Hid ((d1.take (i + 1)).count 10 = (d1.take i).count 10) := by unfold Hid; rw [hct, if_neg hx]; rfl
        clear hct hx hy hyn
        generalize (d1.take i).count 10 = c at *
        go_wp2_with fail
        exact ⟨⟨i + 1, HI2, by go_num, by rw [HC.out], hB⟩, by have := HM.out; simp [intOf]; omega⟩
    · have hlI : ((i : Int) < (d1.length : Int)) = False := eq_false (by omega)
      have hid : i = d1.length := by have := hi.out; omega
      have hcnt : (d1.take i).count 10 = k := by rw [hid, List.take_length]; exact G4.out
      rw [hcnt]
      have R7 := hide (R5.out.keep hB.out)
      have B7 := hide (B5.out.trans (hB.out.mono B5.out.size))
      have r0 := R7.out.c0
      have hl1 := R7.out.lt
      have hgl := G6.out
      have hgI : ((d1.length : Int) ≤ (la.length : Int)) = True := eq_true (by omega)
      have he2 := HE2.out
      have hdd : (d1 == d1) = true := by simp
      have hkk : ((k : Int) == (k : Int)) = true := by simp
      clear hcnt hid hi hlt R5 HT
      go_wp2_with fail
      refine (XA.out _).mono ?_
      rintro e w9 ⟨rfl, hb⟩
      have B9 := hide (B7.out.trans (hb.mono B7.out.size))
      clear hb
      go_wp2_with fail
      go_ret
      exact ⟨rfl, B9.out⟩
end Go.Proofs.Ytilfdbkceiejgaa

/- Whatever it is handed, moatlaw10.SynCut answers true and leaves its arguments as they read before: the row of SynCut is proved. Conditions: those of the row alone. -/
namespace Go.Proofs.Ytilfdbkceiejgaa
open Go.ChangeShapes Go.WideShapes Go.ChangeAt Go.RowKit Go.Proofs.Url
open Go.ChangeMaps (open_string shut_string)

set_option maxRecDepth 100000 in
theorem synCut_contract (H : Type) (enc : TypeId × Value → H) (W : World) (base : Nat) (args : Array Value) (ds gs : List (DataW H)) (before : List MemPlace)
    (hval : ∀ (j : Nat) t v, Try.f4.params[j]? = some t → args[j]? = some v → Value.okWide Try.prog W .any base t v)
    (hW : DataW.Whole enc Try.prog Try.f4.params.toList Rows.synCutSpec.vars false W args.toList ds gs before) (_henv : Env W) :
    Calls Try.prog 4 args W fun e W' => ∃ v, e = .returned v ∧ Rows.synCutSpec.post enc Try.prog Try.f4 false true false false W args v W' := by
  have hW' := hW
  obtain ⟨p, q, hA0, hV, rfl, hfz, hnd⟩ := hW
  have hA : DataW.TrodAll enc Try.prog W 0 (fun _ => true) true Try.f4.params.toList args.toList ds p := hA0
  rw [Try.params4] at hA hval
  obtain ⟨v0, vs0, d0, ds0, p0, q0, hargs, rfl, rfl, h0, r0⟩ := trodAll_cons hA
  obtain ⟨v1, vs1, d1, ds1, p1, q1, rfl, rfl, rfl, h1, r1⟩ := trodAll_cons r0
  obtain ⟨rfl, rfl, rfl⟩ := trodAll_nil r1
  obtain rfl : args = #[v0, v1] := by cases args; simp_all
  obtain ⟨rfl, rfl⟩ := trodVars_none hV
  obtain ⟨x0, rfl, rfl, rfl, hs0⟩ := open_string Try.underlying9 (hval 0 9 v0 rfl rfl) h0
  obtain ⟨x1, rfl, rfl, rfl, w1⟩ := open_int Try.underlying3 (hval 1 3 v1 rfl rfl) h1
  clear hA0
  obtain ⟨a0, rfl⟩ : ∃ l : List UInt8, x0 = ⟨l.toArray⟩ := ⟨x0.data.toList, by cases x0; simp⟩
  refine (synCut_walk syn_ok a0 x1 W).mono fun e W' ⟨he, bel⟩ => ?_
  subst he
  exact ⟨_, rfl, _, _, _, [], _, [], hW', trodAll_mk1 (shut_bool Try.underlying4 _), (trodAll_cons_mk (shut_string Try.underlying9 hs0) (trodAll_cons_mk (shut_int Try.underlying3 w1) trodAll_mk0)), rfl, bel.frame _, fun h => by cases h⟩

theorem synCut_laid (os : Os) : laidMet Try.prog Rows.synCutRow.laid (({ World.holding Try.prog os ⟨#[], #[], []⟩ with heap := layAll (World.holding Try.prog os ⟨#[], #[], []⟩).heap } : World).forCall (fun _ _ => 0) ⟨#[], #[.string ⟨#[]⟩, .int .i64 0], []⟩).memory :=
  laidMet_of_run' 8 (by kernel_rfl) (by kernel_rfl)
theorem synCut_reads (os : Os) {H : Type} (enc : TypeId × Value → H) : ∃ places, DataW.whole enc Try.prog (({ World.holding Try.prog os ⟨#[], #[], []⟩ with heap := layAll (World.holding Try.prog os ⟨#[], #[], []⟩).heap } : World).forCall (fun _ _ => 0) ⟨#[], #[.string ⟨#[]⟩, .int .i64 0], []⟩).memory Try.f4.params.toList Rows.synCutSpec.vars false #[Value.string ⟨#[]⟩, .int .i64 0].toList 8 = some ([.lit (.string []), .lit (.int .i64 0)], [], places) :=
  ⟨[], by kernel_rfl⟩

set_option maxRecDepth 100000 in
theorem synCut_lifted (os : Os) (started : os.Started) (H : Type) (enc : TypeId × Value → H) (F : Stop.Interp) :
    ReturnsInHanded {} Try.checked os 4 .any ((OpenSpec.ofChange Rows.synCutSpec).preRow enc Try.prog Try.f4 Rows.synCutRow.domain false Rows.synCutRow.laid) (((OpenSpec.ofChange Rows.synCutSpec).at F).post enc Try.prog Try.f4 false true false false) := by
  obtain ⟨places, hx⟩ := synCut_reads os enc
  refine returnsInHanded_of_row (C := Try.checked) (s := OpenSpec.ofChange Rows.synCutSpec) own_knob started (by kernel_rfl) Try.func4
    (witness_row_at (enc := enc) (C := Try.checked) false { World.holding Try.prog os ⟨#[], #[], []⟩ with heap := layAll (World.holding Try.prog os ⟨#[], #[], []⟩).heap } #[.string ⟨#[]⟩, .int .i64 0] rfl (by kernel_rfl) (by kernel_rfl) (by kernel_rfl)
      (OpenSpec.preRow_of_cond 8 hx (by kernel_rfl) (fun k hk => by cases hk) (by kernel_rfl) (synCut_laid os))) ?_
  intro W base args ds gs before hval hW _ _ _ hL hS _
  exact synCut_contract H enc W base args ds gs before hval hW (env_of hL hS)

theorem synCut_said : Rows.SynCutSaid :=
  OpenClaim.holds_of_cond 4 Try.f4 rfl rfl rfl rfl rfl rfl rfl ⟨rfl, rfl, rfl, rfl, rfl⟩ rfl rfl rfl rfl rfl (by kernel_rfl) Try.func4 (by kernel_rfl)
    (of_decide_eq_true (by kernel_rfl)) (by unfold Func.isWrapper; first | (rw [if_pos (by decide +kernel)]; kernel_rfl) | (rw [if_neg (by decide +kernel)]; exact ⟨rfl, rfl⟩))
    (fun os started H enc _ F => by rw [OpenClaim.pre_eq_preRow]; exact synCut_lifted os started H enc F)

end Go.Proofs.Ytilfdbkceiejgaa
