import Derived.Test.YtilfdbkceiejgaaBh2
import Derived.Test.YtilfdbkceiejgaaBh1
import Derived.Deep.QuietTactic
import Derived.BigQuiet
import Derived.Test.YtilfdbkceiejgaaFrame
/- The walk over moatlaw10.SynJoins, by what package syn gives. -/
namespace Go.Proofs.Ytilfdbkceiejgaa
open Go.RowKit Go.Proofs.Url Go.Proofs.Url.Syn

set_option maxHeartbeats 4000000 in
set_option maxRecDepth 100000 in
theorem synJoins_walk (ok : SynOk) (s t : List UInt8) (w : World) :
    Calls Try.prog 7 #[.string ⟨s.toArray⟩, .string ⟨t.toArray⟩] w fun e w' => e = .returned (.bool true) ∧ Below w.heap.size w w' := by
  have OK := hide ok
  have XA := hide (fun W => awake10_any ok W)
  clear ok
  by_cases hs9 : 900 < s.length
  · have i1 : ((900 : Int) < (s.length : Int)) = True := eq_true (by omega)
    clear hs9
    go_enter Try.func7, Try.ntmps7
    go_wp2_with fail
    refine (XA.out _).mono ?_
    rintro e w1 ⟨rfl, hb1⟩
    go_wp2_with fail
    go_ret
    exact ⟨rfl, hb1⟩
  by_cases ht9 : 900 < t.length
  · have i1 : ((900 : Int) < (s.length : Int)) = False := eq_false (by omega)
    have i2 : ((900 : Int) < (t.length : Int)) = True := eq_true (by omega)
    clear hs9 ht9
    go_enter Try.func7, Try.ntmps7
    go_wp2_with fail
    refine (XA.out _).mono ?_
    rintro e w1 ⟨rfl, hb1⟩
    go_wp2_with fail
    go_ret
    exact ⟨rfl, hb1⟩
  have i1 : ((900 : Int) < (s.length : Int)) = False := eq_false (by omega)
  have i2 : ((900 : Int) < (t.length : Int)) = False := eq_false (by omega)
  have hsl : s.length ≤ 900 := by omega
  have htl : t.length ≤ 900 := by omega
  have S1 : Hid (s.length < 4294967281) := by unfold Hid; omega
  have S2 : Hid (t.length < 4294967281) := by unfold Hid; omega
  have S3 : Hid ((s ++ 10 :: t).length < 4294967281) := by unfold Hid; rw [List.length_append, List.length_cons]; omega
  have HJ := hide (dumpR_join hsl htl)
  have HPa := hide (itemsR_in (s := s))
  have HPb := hide (itemsR_in (s := t))
  have HU : Hid (((⟨s.toArray⟩ : ByteArray) ++ ⟨#[10]⟩ ++ ⟨t.toArray⟩) = ⟨(s ++ 10 :: t).toArray⟩) := dataEq (by simp)
  obtain ⟨ds, hds⟩ : ∃ v, dumpR s = v := ⟨_, rfl⟩
  obtain ⟨dt, hdt⟩ : ∃ v, dumpR t = v := ⟨_, rfl⟩
  obtain ⟨es, hes⟩ : ∃ v, itemsR s = v := ⟨_, rfl⟩
  obtain ⟨et, het⟩ : ∃ v, itemsR t = v := ⟨_, rfl⟩
  have HLa := hide (dumpR_len (s := s))
  have HLb := hide (dumpR_len (s := t))
  rw [hds] at HLa
  rw [hdt] at HLb
  rw [hds, hdt, hes, het] at HJ
  have HFa := hide (itemsR_few (s := s))
  have HFb := hide (itemsR_few (s := t))
  rw [hes] at HPa HFa
  rw [het] at HPb HFb
  have O1 := hide (fun W => by have h := OK.out.dump s W S1.out; rw [hds] at h; exact h)
  have O2 := hide (fun W => by have h := OK.out.dump t W S2.out; rw [hdt] at h; exact h)
  have O3 := hide (fun W => by have h := OK.out.items s W S1.out; rw [hes] at h; exact h)
  have O4 := hide (fun W => by have h := OK.out.items t W S2.out; rw [het] at h; exact h)
  obtain ⟨la, c1, q1⟩ := ds
  obtain ⟨lb, c2, q2⟩ := dt
  obtain ⟨A, c3, q3⟩ := es
  obtain ⟨B, c4, q4⟩ := et
  have hAl : A.length ≤ 900 := Nat.le_trans HFa.out hsl
  have hBl : B.length ≤ 900 := Nat.le_trans HFb.out htl
  clear HFa HFb
  simp only at HLa HLb HJ HPa HPb O1 O2 O3 O4
  clear hds hdt hes het hs9 ht9
  go_enter Try.func7, Try.ntmps7
  go_wp2_with fail
  clear i1 i2
  refine (O1.out _).mono ?_
  rintro e w1 ⟨hb, rfl⟩
  have B1 := hide hb
  clear hb
  go_upto_region 4 with fail
  obtain ⟨W1, hW⟩ : ∃ v, v = w1.alloc (Obj.cells #[.int .i64 c1, .int .i64 q1] 25) := ⟨_, rfl⟩
  have b : Below w1.heap.size w1 W1 := by rw [hW]; exact (Below.refl _ _).alloc (Nat.le_refl _) _
  have R1 : Hid (WB W1 w1.heap.size c1 q1) := by unfold Hid; rw [hW]; exact WB.new w1 _ _ _
  rw [← hW]
  replace B1 := hide (B1.out.trans (b.mono B1.out.size))
  clear b hW
  go_wp2_with fail
  refine (O2.out _).mono ?_
  rintro e w2 ⟨hb, rfl⟩
  replace R1 := hide (R1.out.keep hb)
  have B2 := hide (B1.out.trans (hb.mono B1.out.size))
  clear hb B1
  go_upto_region 5 with fail
  obtain ⟨W2, hW⟩ : ∃ v, v = w2.alloc (Obj.cells #[.int .i64 c2, .int .i64 q2] 25) := ⟨_, rfl⟩
  have b : Below w2.heap.size w2 W2 := by rw [hW]; exact (Below.refl _ _).alloc (Nat.le_refl _) _
  have R2 : Hid (WB W2 w2.heap.size c2 q2) := by unfold Hid; rw [hW]; exact WB.new w2 _ _ _
  rw [← hW]
  replace B2 := hide (B2.out.trans (b.mono B2.out.size))
  replace R1 := hide (R1.out.keep b)
  clear b hW
  go_wp2_with fail
  refine (O3.out _).mono ?_
  rintro e w3 ⟨hb, ao, ca, rfl, hI⟩
  replace R1 := hide (R1.out.keep hb)
  replace R2 := hide (R2.out.keep hb)
  have IA := hide hI
  have B3 := hide (B2.out.trans (hb.mono B2.out.size))
  clear hb B2 hI
  go_upto_region 6 with fail
  obtain ⟨W3, hW⟩ : ∃ v, v = w3.alloc (Obj.cells #[.int .i64 c3, .int .i64 q3] 25) := ⟨_, rfl⟩
  have b : Below w3.heap.size w3 W3 := by rw [hW]; exact (Below.refl _ _).alloc (Nat.le_refl _) _
  rw [← hW]
  replace B3 := hide (B3.out.trans (b.mono B3.out.size))
  replace R1 := hide (R1.out.keep b)
  replace R2 := hide (R2.out.keep b)
  replace IA := hide (IA.out.keep b)
  clear b hW
  go_wp2_with fail
  refine (O4.out _).mono ?_
  rintro e w4 ⟨hb, bo, cb, rfl, hI⟩
  replace R1 := hide (R1.out.keep hb)
  replace R2 := hide (R2.out.keep hb)
  replace IA := hide (IA.out.keep hb)
  have IB := hide hI
  have B4 := hide (B3.out.trans (hb.mono B3.out.size))
  clear hb B3 hI
  go_upto_region 7 with fail
  obtain ⟨W4, hW⟩ : ∃ v, v = w4.alloc (Obj.cells #[.int .i64 c4, .int .i64 q4] 25) := ⟨_, rfl⟩
  have b : Below w4.heap.size w4 W4 := by rw [hW]; exact (Below.refl _ _).alloc (Nat.le_refl _) _
  rw [← hW]
  replace B4 := hide (B4.out.trans (b.mono B4.out.size))
  replace R1 := hide (R1.out.keep b)
  replace R2 := hide (R2.out.keep b)
  replace IA := hide (IA.out.keep b)
  replace IB := hide (IB.out.keep b)
  clear b hW O1 O2 O3 O4
  have r0 := R1.out.c0
  have t0 := R2.out.c0
  have hl1 := R1.out.lt
  have hl2 := R2.out.lt
  by_cases hc1 : ¬ c1 = 0
  · have e1 : ((c1 : Int) == 0) = false := beq_eq_false_iff_ne.2 (by omega)
    clear hc1 HJ
    go_wp2_with fail
    refine (XA.out _).mono ?_
    rintro e w5 ⟨rfl, hb⟩
    have B5 := hide (B4.out.trans (hb.mono B4.out.size))
    clear hb
    go_wp2_with fail
    go_ret
    exact ⟨rfl, B5.out⟩
  replace hc1 : c1 = 0 := Decidable.not_not.1 hc1
  subst hc1
  by_cases hc2 : ¬ c2 = 0
  · have e2 : ((c2 : Int) == 0) = false := beq_eq_false_iff_ne.2 (by omega)
    clear hc2 HJ
    go_wp2_with fail
    refine (XA.out _).mono ?_
    rintro e w5 ⟨rfl, hb⟩
    have B5 := hide (B4.out.trans (hb.mono B4.out.size))
    clear hb
    go_wp2_with fail
    go_ret
    exact ⟨rfl, B5.out⟩
  replace hc2 : c2 = 0 := Decidable.not_not.1 hc2
  subst hc2
  obtain ⟨j1, j2⟩ := HJ.out rfl rfl
  have O5 := hide (fun W => by have h := OK.out.dump (s ++ 10 :: t) W S3.out; rw [j1] at h; exact h)
  have O6 := hide (fun W => by have h := OK.out.items (s ++ 10 :: t) W S3.out; rw [j2] at h; exact h)
  simp only at O5 O6
  clear j1 j2 HJ
  go_wp2_with fail
  rw [HU.out]
  refine (O5.out _).mono ?_
  rintro e w5 ⟨hb, rfl⟩
  replace IA := hide (IA.out.keep hb)
  replace IB := hide (IB.out.keep hb)
  have B5 := hide (B4.out.trans (hb.mono B4.out.size))
  clear hb B4 R1 R2 r0 t0 hl1 hl2 O5
  go_upto_region 10 with fail
  obtain ⟨W5, hW⟩ : ∃ v, v = w5.alloc (Obj.cells #[.int .i64 0, .int .i64 0] 25) := ⟨_, rfl⟩
  have b : Below w5.heap.size w5 W5 := by rw [hW]; exact (Below.refl _ _).alloc (Nat.le_refl _) _
  have R5 : Hid (WB W5 w5.heap.size 0 0) := by unfold Hid; rw [hW]; exact WB.new w5 _ _ _
  rw [← hW]
  replace B5 := hide (B5.out.trans (b.mono B5.out.size))
  replace IA := hide (IA.out.keep b)
  replace IB := hide (IB.out.keep b)
  clear b hW
  go_wp2_with fail
  rw [HU.out]
  refine (O6.out _).mono ?_
  rintro e w6 ⟨hb, ko, ck, rfl, hI⟩
  replace R5 := hide (R5.out.keep hb)
  replace IA := hide (IA.out.keep hb)
  replace IB := hide (IB.out.keep hb)
  have IK := hide hI
  have B6 := hide (B5.out.trans (hb.mono B5.out.size))
  clear hb B5 hI O6
  go_upto_region 11 with fail
  obtain ⟨W6, hW⟩ : ∃ v, v = w6.alloc (Obj.cells #[.int .i64 0, .int .i64 0] 25) := ⟨_, rfl⟩
  have b : Below w6.heap.size w6 W6 := by rw [hW]; exact (Below.refl _ _).alloc (Nat.le_refl _) _
  have R6 : Hid (WB W6 w6.heap.size 0 0) := by unfold Hid; rw [hW]; exact WB.new w6 _ _ _
  rw [← hW]
  replace B6 := hide (B6.out.trans (b.mono B6.out.size))
  replace R5 := hide (R5.out.keep b)
  replace IA := hide (IA.out.keep b)
  replace IB := hide (IB.out.keep b)
  replace IK := hide (IK.out.keep b)
  clear b hW
  have r0 := R5.out.c0
  have t0 := R6.out.c0
  have hl1 := R5.out.lt
  have hl2 := R6.out.lt
  obtain ⟨ou, hou⟩ : ∃ v, la ++ lb = v := ⟨_, rfl⟩
  have ho : ((⟨la.toArray⟩ : ByteArray) ++ ⟨lb.toArray⟩) = ⟨ou.toArray⟩ := dataEq (by rw [← hou]; simp)
  rw [hou]
  have hoo : (ou == ou) = true := by simp
  clear hou
  obtain ⟨K, hK⟩ : ∃ v, A ++ B.map (fun p => p + ((s.length + 1 : Nat) : Int)) = v := ⟨_, rfl⟩
  rw [hK] at IK
  have HK := hide hK
  have hkl : K.length = A.length + B.length := by rw [← hK, List.length_append, List.length_map]
  have HKl := hide hkl
  clear hK hkl
  have hla := HLa.out
  have hlb := HLb.out
  clear HLa HLb
  go_wp2_with fail
  clear hla hlb r0 t0 hl1 hl2 ho hoo R5 R6 HU
  go_loopw [17] (fun iv W => ∃ k : Nat, k ≤ A.length + B.length ∧ iv = .int .i64 k ∧ Hid (Below W6.heap.size W6 W)) (fun iv _ => A.length + B.length - (intOf iv).toNat)
  case atStart => exact ⟨0, Nat.zero_le _, rfl, Below.refl _ _⟩
  case round =>
    obtain ⟨k, hk, rfl, hB⟩ := hrel
    by_cases hlt : k < A.length + B.length
    · have hlI : ((k : Int) < (A.length : Int) + (B.length : Int)) = True := eq_true (by omega)
      have HM : Hid (A.length + B.length - (k + 1) < A.length + B.length - k) := by unfold Hid; omega
      have HK2 : Hid (k + 1 ≤ A.length + B.length) := hlt
      have hk18 : k < 1800 := by omega
      have hkK : k < K.length := by rw [HKl.out]; exact hlt
      obtain ⟨gk, rfl, hck⟩ := IK.out.keep hB.out k hkK
      by_cases hka : k < A.length
      · obtain ⟨ga, rfl, hca⟩ := IA.out.keep hB.out k hka
        have hv : K[k]'hkK = A[k] := by
          have := HK.out
          subst this
          exact List.getElem_append_left hka
        rw [hv] at hck
        have i1 : ((k : Int) < (A.length : Int)) = True := eq_true (by omega)
        have i2 : ((A.length : Int) ≤ (k : Int)) = False := eq_false (by omega)
        have hbb : (A[k] == A[k]) = true := by simp
        generalize A[k] = av at *
        clear hlt hv
        go_wp2_with fail
        go_quiet (fail)
        go_wp2_with fail
        exact ⟨⟨k + 1, HK2, by go_num, _root_.Go.below_drewN hB.out _⟩, by have := HM.out; simp [intOf]; omega⟩
      · obtain ⟨j, rfl⟩ : ∃ j, k = A.length + j := ⟨k - A.length, by omega⟩
        have hjl : j < B.length := by omega
        obtain ⟨gb, rfl, hcb⟩ := IB.out.keep hB.out j hjl
        have hv : K[A.length + j]'hkK = B[j] + (s.length : Int) + 1 := by
          have := HK.out
          subst this
          rw [List.getElem_append_right (by omega)]
          simp only [Nat.add_sub_cancel_left, List.getElem_map]
          omega
        rw [hv] at hck
        obtain ⟨hb0, hb1⟩ := HPb.out B[j] (List.getElem_mem hjl)
        have hb2 : B[j] ≤ 900 := by omega
        generalize B[j] = bv at *
        clear hv hb1 hlt hkK
        obtain ⟨k, hkj⟩ : ∃ k, A.length + j = k := ⟨_, rfl⟩
        have HKJ := hide hkj
        rw [hkj] at hck HK2 HM hka hk18 hk ⊢
        have i0 : ((k : Int) < (A.length : Int) + (B.length : Int)) = True := eq_true (by omega)
        have i1 : ((k : Int) < (A.length : Int)) = False := eq_false (by omega)
        have i2 : ((A.length : Int) ≤ (k : Int)) = True := eq_true (by omega)
        have hsub : (k : Int) - (A.length : Int) = (j : Int) := by omega
        have hjI : ((j : Int) < (B.length : Int)) = True := eq_true (by omega)
        have hjt : (j < B.length) = True := eq_true hjl
        obtain ⟨kv, hkv⟩ : ∃ kv, bv + (s.length : Int) + 1 = kv := ⟨_, rfl⟩
        rw [hkv] at hck
        have hbb : (kv == kv) = true := by simp
        clear hlI hkj hka hjl
        go_wp2_with fail
        go_quiet (fail)
        go_wp2_with fail
        exact ⟨⟨k + 1, HK2, by go_num, _root_.Go.below_drewN hB.out _⟩, by have := HM.out; simp [intOf]; omega⟩
    · have hlI : ((k : Int) < (A.length : Int) + (B.length : Int)) = False := eq_false (by omega)
      have B7 := hide (B6.out.trans (hB.out.mono B6.out.size))
      clear hlt hk
      go_wp2_with fail
      refine (XA.out _).mono ?_
      rintro e w9 ⟨rfl, hb⟩
      have B9 := hide (B7.out.trans (hb.mono B7.out.size))
      clear hb
      go_wp2_with fail
      go_ret
      exact ⟨rfl, B9.out⟩
end Go.Proofs.Ytilfdbkceiejgaa

/- Whatever it is handed, moatlaw10.SynJoins answers true and leaves its arguments as they read before: the row of SynJoins is proved. Conditions: those of the row alone. -/
namespace Go.Proofs.Ytilfdbkceiejgaa
open Go.ChangeShapes Go.WideShapes Go.ChangeAt Go.RowKit Go.Proofs.Url
open Go.ChangeMaps (open_string shut_string)

set_option maxRecDepth 100000 in
theorem synJoins_contract (H : Type) (enc : TypeId × Value → H) (W : World) (base : Nat) (args : Array Value) (ds gs : List (DataW H)) (before : List MemPlace)
    (hval : ∀ (j : Nat) t v, Try.f7.params[j]? = some t → args[j]? = some v → Value.okWide Try.prog W .any base t v)
    (hW : DataW.Whole enc Try.prog Try.f7.params.toList Rows.synJoinsSpec.vars false W args.toList ds gs before) (_henv : Env W) :
    Calls Try.prog 7 args W fun e W' => ∃ v, e = .returned v ∧ Rows.synJoinsSpec.post enc Try.prog Try.f7 false true false false W args v W' := by
  have hW' := hW
  obtain ⟨p, q, hA0, hV, rfl, hfz, hnd⟩ := hW
  have hA : DataW.TrodAll enc Try.prog W 0 (fun _ => true) true Try.f7.params.toList args.toList ds p := hA0
  rw [Try.params7] at hA hval
  obtain ⟨v0, vs0, d0, ds0, p0, q0, hargs, rfl, rfl, h0, r0⟩ := trodAll_cons hA
  obtain ⟨v1, vs1, d1, ds1, p1, q1, rfl, rfl, rfl, h1, r1⟩ := trodAll_cons r0
  obtain ⟨rfl, rfl, rfl⟩ := trodAll_nil r1
  obtain rfl : args = #[v0, v1] := by cases args; simp_all
  obtain ⟨rfl, rfl⟩ := trodVars_none hV
  obtain ⟨x0, rfl, rfl, rfl, hs0⟩ := open_string Try.underlying9 (hval 0 9 v0 rfl rfl) h0
  obtain ⟨x1, rfl, rfl, rfl, hs1⟩ := open_string Try.underlying9 (hval 1 9 v1 rfl rfl) h1
  clear hA0
  obtain ⟨a0, rfl⟩ : ∃ l : List UInt8, x0 = ⟨l.toArray⟩ := ⟨x0.data.toList, by cases x0; simp⟩
  obtain ⟨a1, rfl⟩ : ∃ l : List UInt8, x1 = ⟨l.toArray⟩ := ⟨x1.data.toList, by cases x1; simp⟩
  refine (synJoins_walk syn_ok a0 a1 W).mono fun e W' ⟨he, bel⟩ => ?_
  subst he
  exact ⟨_, rfl, _, _, _, [], _, [], hW', trodAll_mk1 (shut_bool Try.underlying4 _), (trodAll_cons_mk (shut_string Try.underlying9 hs0) (trodAll_cons_mk (shut_string Try.underlying9 hs1) trodAll_mk0)), rfl, bel.frame _, fun h => by cases h⟩

theorem synJoins_laid (os : Os) : laidMet Try.prog Rows.synJoinsRow.laid (({ World.holding Try.prog os ⟨#[], #[], []⟩ with heap := layAll (World.holding Try.prog os ⟨#[], #[], []⟩).heap } : World).forCall (fun _ _ => 0) ⟨#[], #[.string ⟨#[]⟩, .string ⟨#[]⟩], []⟩).memory :=
  laidMet_of_run' 8 (by kernel_rfl) (by kernel_rfl)
theorem synJoins_reads (os : Os) {H : Type} (enc : TypeId × Value → H) : ∃ places, DataW.whole enc Try.prog (({ World.holding Try.prog os ⟨#[], #[], []⟩ with heap := layAll (World.holding Try.prog os ⟨#[], #[], []⟩).heap } : World).forCall (fun _ _ => 0) ⟨#[], #[.string ⟨#[]⟩, .string ⟨#[]⟩], []⟩).memory Try.f7.params.toList Rows.synJoinsSpec.vars false #[Value.string ⟨#[]⟩, .string ⟨#[]⟩].toList 8 = some ([.lit (.string []), .lit (.string [])], [], places) :=
  ⟨[], by kernel_rfl⟩

set_option maxRecDepth 100000 in
theorem synJoins_lifted (os : Os) (started : os.Started) (H : Type) (enc : TypeId × Value → H) (F : Stop.Interp) :
    ReturnsInHanded {} Try.checked os 7 .any ((OpenSpec.ofChange Rows.synJoinsSpec).preRow enc Try.prog Try.f7 Rows.synJoinsRow.domain false Rows.synJoinsRow.laid) (((OpenSpec.ofChange Rows.synJoinsSpec).at F).post enc Try.prog Try.f7 false true false false) := by
  obtain ⟨places, hx⟩ := synJoins_reads os enc
  refine returnsInHanded_of_row (C := Try.checked) (s := OpenSpec.ofChange Rows.synJoinsSpec) own_knob started (by kernel_rfl) Try.func7
    (witness_row_at (enc := enc) (C := Try.checked) false { World.holding Try.prog os ⟨#[], #[], []⟩ with heap := layAll (World.holding Try.prog os ⟨#[], #[], []⟩).heap } #[.string ⟨#[]⟩, .string ⟨#[]⟩] rfl (by kernel_rfl) (by kernel_rfl) (by kernel_rfl)
      (OpenSpec.preRow_of_cond 8 hx (by kernel_rfl) (fun k hk => by cases hk) (by kernel_rfl) (synJoins_laid os))) ?_
  intro W base args ds gs before hval hW _ _ _ hL hS _
  exact synJoins_contract H enc W base args ds gs before hval hW (env_of hL hS)

theorem synJoins_said : Rows.SynJoinsSaid :=
  OpenClaim.holds_of_cond 7 Try.f7 rfl rfl rfl rfl rfl rfl rfl ⟨rfl, rfl, rfl, rfl, rfl⟩ rfl rfl rfl rfl rfl (by kernel_rfl) Try.func7 (by kernel_rfl)
    (of_decide_eq_true (by kernel_rfl)) (by unfold Func.isWrapper; first | (rw [if_pos (by decide +kernel)]; kernel_rfl) | (rw [if_neg (by decide +kernel)]; exact ⟨rfl, rfl⟩))
    (fun os started H enc _ F => by rw [OpenClaim.pre_eq_preRow]; exact synJoins_lifted os started H enc F)

end Go.Proofs.Ytilfdbkceiejgaa
