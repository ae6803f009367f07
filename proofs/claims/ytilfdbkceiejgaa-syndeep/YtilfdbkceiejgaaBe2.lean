import Derived.Test.YtilfdbkceiejgaaW2
import Derived.Test.YtilfdbkceiejgaaBe1
import Derived.Test.YtilfdbkceiejgaaFrame
/- moatlaw0.Low as a natural number (L26 has it, too: never both in one seat). -/
namespace Go.Proofs.Ytilfdbkceiejgaa
open Go.RowKit Go.Proofs.Url

/-- What Low gives, as a natural number. -/
def lowT (x n : Int) : Nat := (low x n).toNat
theorem lowT_lt (x : Int) (n : Nat) (h : 1 ≤ n) : lowT x n < n := by
  have a := low_nn x n (by omega)
  have b := low_lt x n (by omega)
  unfold lowT; omega
theorem lowT_any (x n : Int) (w : World) (h1 : 1 ≤ n) (h2 : n ≤ 70000) :
    Calls Try.prog 16 #[.int .i64 x, .int .i64 n] w fun e w' => e = .returned (.int .i64 (lowT x n : Int)) ∧ w' = w := by
  refine (low_any x n w (by omega) (by omega)).mono ?_
  rintro e w' ⟨rfl, rfl⟩
  have a := low_nn x n (by omega)
  exact ⟨by unfold lowT; rw [Int.toNat_of_nonneg a], rfl⟩
end Go.Proofs.Ytilfdbkceiejgaa

/- The walk over moatlaw10.SynDeep, by what package syn gives. -/
namespace Go.Proofs.Url
open Syn
/-- The text's beginning, d parts deep. -/
def sD (b : Bool) : Nat → List UInt8
  | 0 => [112, 114, 111, 112, 101, 114, 116, 121, 32, 112, 32, 61, 32]
  | d + 1 => sD b d ++ (if b then [40] else [110, 111, 116, 32])
def eD (b : Bool) : Nat → List UInt8
  | 0 => []
  | d + 1 => if b then eD b d ++ [41] else eD b d
def wantD (b : Bool) (d : Nat) : Nat := if b then 1 else d + 1
def textD (b : Bool) (d : Nat) : List UInt8 := sD b d ++ [107, 110, 111, 119, 115, 32, 120] ++ eD b d ++ [59]
def deepOk (b : Bool) (d : Nat) : Bool := if 16 < wantD b d then dumpR (textD b d) == ([], 5, 0) else (dumpR (textD b d)).2 == (0, 0) && decide (0 < (dumpR (textD b d)).1.length)
theorem deep_all : ∀ d, d < 30 → deepOk true d = true ∧ deepOk false d = true := by decide +kernel
theorem deep_one (b : Bool) (d : Nat) (h : d < 30) : deepOk b d = true := by cases b; exact (deep_all d h).2; exact (deep_all d h).1
theorem sD_len (b : Bool) (d : Nat) : (sD b d).length ≤ 13 + 4 * d := by
  induction d with
  | zero => simp [sD]
  | succ d ih => cases b <;> simp [sD] at ih ⊢ <;> omega
theorem eD_len (b : Bool) (d : Nat) : (eD b d).length ≤ d := by
  induction d with
  | zero => simp [eD]
  | succ d ih => cases b <;> simp [eD] at ih ⊢ <;> omega
end Go.Proofs.Url
namespace Go.Proofs.Ytilfdbkceiejgaa
open Go.RowKit Go.Proofs.Url Go.Proofs.Url.Syn

set_option maxHeartbeats 4000000 in
set_option maxRecDepth 100000 in
theorem synDeep_walk (ok : SynOk) (dp : Int) (b : Bool) (w : World) :
    Calls Try.prog 5 #[.int .i64 dp, .bool b] w fun e w' => e = .returned (.bool true) ∧ Below w.heap.size w w' := by
  have OK := hide ok
  have XA := hide (fun W => awake10_any ok W)
  clear ok
  have hk : lowT dp 30 < 30 := lowT_lt dp 30 (by decide)
  go_enter Try.func5, Try.ntmps5
  go_upto_region 2 with (go_at_call 16; refine (lowT_any _ _ _ (by decide) (by decide)).mono ?_; rintro e w' ⟨rfl, hw'⟩; rw [hw'])
  generalize lowT dp 30 = k at *
  have B0 : Hid (Below w.heap.size w w) := Below.refl _ _
  have HK := hide hk
  clear hk
  go_wp2_with fail
  go_loopw [5, 6, 7, 8] (fun sv ev nv iv W => ∃ d : Nat, Hid (d ≤ k) ∧ iv = .int .i64 d ∧ nv = .int .i64 (wantD b d : Nat) ∧ sv = .string ⟨(sD b d).toArray⟩ ∧ ev = .string ⟨(eD b d).toArray⟩ ∧ Hid (Below w.heap.size w W)) (fun _ _ _ iv _ => k - (intOf iv).toNat)
  case atStart => exact ⟨0, Nat.zero_le _, rfl, by cases b <;> rfl, rfl, rfl, B0⟩
  case round =>
    obtain ⟨d, hd, rfl, rfl, rfl, rfl, hB⟩ := hrel
    have hsz := hB.out.size
    have HSL : Hid ((sD b d).length ≤ 200) := by have := sD_len b d; have := HK.out; have := hd.out; unfold Hid; omega
    have HEL : Hid ((eD b d).length ≤ 200) := by have := eD_len b d; have := HK.out; have := hd.out; unfold Hid; omega
    by_cases hlt : d < k
    · have hlI : ((d : Int) < (k : Int)) = True := eq_true (by omega)
      have hk2 := HK.out
      have HM : Hid (k - (d + 1) < k - d) := by unfold Hid; omega
      have HD2 : Hid (d + 1 ≤ k) := hlt
      have hdl : d < 30 := by omega
      clear hlt hd
      have hsl := HSL.out
      have hel := HEL.out
      cases b with
      | true =>
        have HS1 : Hid (((⟨(sD true d).toArray⟩ : ByteArray) ++ ⟨#[40]⟩) = ⟨(sD true (d + 1)).toArray⟩) := dataEq (by simp [sD])
        have HE1 : Hid (((⟨(eD true d).toArray⟩ : ByteArray) ++ ⟨#[41]⟩) = ⟨(eD true (d + 1)).toArray⟩) := dataEq (by simp [eD])
        have HW1 : Hid (wantD true (d + 1) = 1) := rfl
        have e0 : (wantD true d : Nat) = 1 := rfl
        generalize sD true d = sd at *
        generalize eD true d = ed at *
        rw [e0]
        clear hlI e0
        have hlI : ((d : Int) < (k : Int)) = True := eq_true (by have := HD2.out; omega)
        go_wp2_with fail
        exact ⟨⟨d + 1, HD2, by go_num, rfl, congrArg Value.string HS1.out, congrArg Value.string HE1.out, hB⟩, by have := HM.out; simp [intOf]; omega⟩
      | false =>
        have HS1 : Hid (((⟨(sD false d).toArray⟩ : ByteArray) ++ ⟨#[110, 111, 116, 32]⟩) = ⟨(sD false (d + 1)).toArray⟩) := dataEq (by simp [sD])
        have HE1 : Hid (eD false (d + 1) = eD false d) := rfl
        have HW1 : Hid (wantD false (d + 1) = d + 2) := rfl
        have e0 : (wantD false d : Nat) = d + 1 := rfl
        rw [e0]
        generalize sD false d = sd at *
        generalize eD false d = ed at *
        clear e0
        go_wp2_with fail
        exact ⟨⟨d + 1, HD2, by go_num, by rw [HW1.out]; go_num, congrArg Value.string HS1.out, by rw [HE1.out], hB⟩, by have := HM.out; simp [intOf]; omega⟩
    · have hdk : d = k := by have := hd.out; omega
      subst hdk
      have hlI : ((d : Int) < (d : Int)) = False := eq_false (by omega)
      have HT := hide (deep_one b d HK.out)
      unfold deepOk at HT
      have HIn : Hid (((⟨(sD b d).toArray⟩ : ByteArray) ++ ⟨#[107, 110, 111, 119, 115, 32, 120]⟩ ++ ⟨(eD b d).toArray⟩ ++ ⟨#[59]⟩) = ⟨(textD b d).toArray⟩) := dataEq (by simp [textD])
      have HTL : Hid ((textD b d).length < 4294967281) := by
        have := HSL.out; have := HEL.out
        unfold Hid textD; simp; omega
      have hwl : wantD b d ≤ 200 := by have := HK.out; unfold wantD; split <;> omega
      have hsl := HSL.out
      have hel := HEL.out
      clear hlt hd
      generalize textD b d = tx at *
      generalize sD b d = sd at *
      generalize eD b d = ed at *
      by_cases hm : 16 < wantD b d
      · have HD : Hid (dumpR tx = ([], 5, 0)) := by have h := HT.out; rw [if_pos hm] at h; exact eq_of_beq h
        have i3 : ((16 : Int) < (wantD b d : Nat)) = True := eq_true (by omega)
        clear hm HT
        generalize wantD b d = wn at *
        go_wp2_with fail
        rw [HIn.out]
        refine (OK.out.dump tx _ HTL.out).mono ?_
        rintro e w2 ⟨hb2, rfl⟩
        rw [HD.out]
        have B2 := hide (hB.out.trans (hb2.mono hB.out.size))
        clear hb2 hB
        go_upto_region 12 with fail
        obtain ⟨W3, hW3⟩ : ∃ W3, W3 = w2.alloc (Obj.cells #[.int .i64 5, .int .i64 0] 25) := ⟨_, rfl⟩
        have b3 : Below w2.heap.size w2 W3 := by rw [hW3]; exact (Below.refl _ _).alloc (Nat.le_refl _) _
        have R3 : Hid (WB W3 w2.heap.size 5 0) := by unfold Hid; rw [hW3]; exact WB.new w2 5 0 25
        try rw [show Obj.cells #[.int .i64 ((5 : Nat) : Int), .int .i64 ((0 : Nat) : Int)] 25 = Obj.cells #[.int .i64 5, .int .i64 0] 25 from rfl]
        rw [← hW3]
        have B3 := hide (B2.out.trans (b3.mono B2.out.size))
        clear b3 hW3 B2
        have r0 := R3.out.c0
        have r1 := R3.out.c1
        have hl := R3.out.lt
        go_wp2_with fail
        refine (XA.out _).mono ?_
        rintro e w4 ⟨rfl, hb4⟩
        have B4 := hide (B3.out.trans (hb4.mono B3.out.size))
        clear hb4
        go_wp2_with fail
        go_ret
        exact ⟨rfl, B4.out⟩
      · have HD : Hid (∃ D, dumpR tx = (D, 0, 0) ∧ 0 < D.length) := by
          have h := HT.out
          rw [if_neg hm, Bool.and_eq_true] at h
          refine ⟨(dumpR tx).1, ?_, of_decide_eq_true h.2⟩
          have h1 := eq_of_beq h.1
          rw [← h1]
        have i3 : ((16 : Int) < (wantD b d : Nat)) = False := eq_false (by omega)
        clear hm HT
        obtain ⟨D, hD, hDl⟩ := HD.out
        have HD2 := hide hD
        have hDl2 : (0 < D.length) = True := eq_true hDl
        clear HD hD hDl
        generalize wantD b d = wn at *
        go_wp2_with fail
        rw [HIn.out]
        refine (OK.out.dump tx _ HTL.out).mono ?_
        rintro e w2 ⟨hb2, rfl⟩
        rw [HD2.out]
        have B2 := hide (hB.out.trans (hb2.mono hB.out.size))
        clear hb2 hB
        go_upto_region 12 with fail
        obtain ⟨W3, hW3⟩ : ∃ W3, W3 = w2.alloc (Obj.cells #[.int .i64 0, .int .i64 0] 25) := ⟨_, rfl⟩
        have b3 : Below w2.heap.size w2 W3 := by rw [hW3]; exact (Below.refl _ _).alloc (Nat.le_refl _) _
        have R3 : Hid (WB W3 w2.heap.size 0 0) := by unfold Hid; rw [hW3]; exact WB.new w2 0 0 25
        rw [← hW3]
        have B3 := hide (B2.out.trans (b3.mono B2.out.size))
        clear b3 hW3 B2
        have r0 := R3.out.c0
        have r1 := R3.out.c1
        have hl := R3.out.lt
        go_wp2_with fail
        refine (XA.out _).mono ?_
        rintro e w4 ⟨rfl, hb4⟩
        have B4 := hide (B3.out.trans (hb4.mono B3.out.size))
        clear hb4
        go_wp2_with fail
        go_ret
        exact ⟨rfl, B4.out⟩
end Go.Proofs.Ytilfdbkceiejgaa

/- Whatever it is handed, moatlaw10.SynDeep answers true and leaves its arguments as they read before: the row of SynDeep is proved. Conditions: those of the row alone. -/
namespace Go.Proofs.Ytilfdbkceiejgaa
open Go.ChangeShapes Go.WideShapes Go.ChangeAt Go.RowKit Go.Proofs.Url

set_option maxRecDepth 100000 in
theorem synDeep_contract (H : Type) (enc : TypeId × Value → H) (W : World) (base : Nat) (args : Array Value) (ds gs : List (DataW H)) (before : List MemPlace)
    (hval : ∀ (j : Nat) t v, Try.f5.params[j]? = some t → args[j]? = some v → Value.okWide Try.prog W .any base t v)
    (hW : DataW.Whole enc Try.prog Try.f5.params.toList Rows.synDeepSpec.vars false W args.toList ds gs before) (_henv : Env W) :
    Calls Try.prog 5 args W fun e W' => ∃ v, e = .returned v ∧ Rows.synDeepSpec.post enc Try.prog Try.f5 false true false false W args v W' := by
  have hW' := hW
  obtain ⟨p, q, hA0, hV, rfl, hfz, hnd⟩ := hW
  have hA : DataW.TrodAll enc Try.prog W 0 (fun _ => true) true Try.f5.params.toList args.toList ds p := hA0
  rw [Try.params5] at hA hval
  obtain ⟨v0, vs0, d0, ds0, p0, q0, hargs, rfl, rfl, h0, r0⟩ := trodAll_cons hA
  obtain ⟨v1, vs1, d1, ds1, p1, q1, rfl, rfl, rfl, h1, r1⟩ := trodAll_cons r0
  obtain ⟨rfl, rfl, rfl⟩ := trodAll_nil r1
  obtain rfl : args = #[v0, v1] := by cases args; simp_all
  obtain ⟨rfl, rfl⟩ := trodVars_none hV
  obtain ⟨x0, rfl, rfl, rfl, w0⟩ := open_int Try.underlying3 (hval 0 3 v0 rfl rfl) h0
  obtain ⟨x1, rfl, rfl, rfl⟩ := open_bool Try.underlying4 (hval 1 4 v1 rfl rfl) h1
  clear hA0
  refine (synDeep_walk syn_ok x0 x1 W).mono fun e W' ⟨he, bel⟩ => ?_
  subst he
  exact ⟨_, rfl, _, _, _, [], _, [], hW', trodAll_mk1 (shut_bool Try.underlying4 _), (trodAll_cons_mk (shut_int Try.underlying3 w0) (trodAll_cons_mk (shut_bool Try.underlying4 _) trodAll_mk0)), rfl, bel.frame _, fun h => by cases h⟩

theorem synDeep_laid (os : Os) : laidMet Try.prog Rows.synDeepRow.laid (({ World.holding Try.prog os ⟨#[], #[], []⟩ with heap := layAll (World.holding Try.prog os ⟨#[], #[], []⟩).heap } : World).forCall (fun _ _ => 0) ⟨#[], #[.int .i64 0, .bool false], []⟩).memory :=
  laidMet_of_run' 8 (by kernel_rfl) (by kernel_rfl)
theorem synDeep_reads (os : Os) {H : Type} (enc : TypeId × Value → H) : ∃ places, DataW.whole enc Try.prog (({ World.holding Try.prog os ⟨#[], #[], []⟩ with heap := layAll (World.holding Try.prog os ⟨#[], #[], []⟩).heap } : World).forCall (fun _ _ => 0) ⟨#[], #[.int .i64 0, .bool false], []⟩).memory Try.f5.params.toList Rows.synDeepSpec.vars false #[Value.int .i64 0, .bool false].toList 8 = some ([.lit (.int .i64 0), .lit (.bool false)], [], places) :=
  ⟨[], by kernel_rfl⟩

set_option maxRecDepth 100000 in
theorem synDeep_lifted (os : Os) (started : os.Started) (H : Type) (enc : TypeId × Value → H) (F : Stop.Interp) :
    ReturnsInHanded {} Try.checked os 5 .any ((OpenSpec.ofChange Rows.synDeepSpec).preRow enc Try.prog Try.f5 Rows.synDeepRow.domain false Rows.synDeepRow.laid) (((OpenSpec.ofChange Rows.synDeepSpec).at F).post enc Try.prog Try.f5 false true false false) := by
  obtain ⟨places, hx⟩ := synDeep_reads os enc
  refine returnsInHanded_of_row (C := Try.checked) (s := OpenSpec.ofChange Rows.synDeepSpec) own_knob started (by kernel_rfl) Try.func5
    (witness_row_at (enc := enc) (C := Try.checked) false { World.holding Try.prog os ⟨#[], #[], []⟩ with heap := layAll (World.holding Try.prog os ⟨#[], #[], []⟩).heap } #[.int .i64 0, .bool false] rfl (by kernel_rfl) (by kernel_rfl) (by kernel_rfl)
      (OpenSpec.preRow_of_cond 8 hx (by kernel_rfl) (fun k hk => by cases hk) (by kernel_rfl) (synDeep_laid os))) ?_
  intro W base args ds gs before hval hW _ _ _ hL hS _
  exact synDeep_contract H enc W base args ds gs before hval hW (env_of hL hS)

theorem synDeep_said : Rows.SynDeepSaid :=
  OpenClaim.holds_of_cond 5 Try.f5 rfl rfl rfl rfl rfl rfl rfl ⟨rfl, rfl, rfl, rfl, rfl⟩ rfl rfl rfl rfl rfl (by kernel_rfl) Try.func5 (by kernel_rfl)
    (of_decide_eq_true (by kernel_rfl)) (by unfold Func.isWrapper; first | (rw [if_pos (by decide +kernel)]; kernel_rfl) | (rw [if_neg (by decide +kernel)]; exact ⟨rfl, rfl⟩))
    (fun os started H enc _ F => by rw [OpenClaim.pre_eq_preRow]; exact synDeep_lifted os started H enc F)

end Go.Proofs.Ytilfdbkceiejgaa
