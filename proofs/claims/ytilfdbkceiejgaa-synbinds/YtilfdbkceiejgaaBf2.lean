import Derived.Test.YtilfdbkceiejgaaBf1
import Derived.Test.YtilfdbkceiejgaaW2
import Derived.Test.YtilfdbkceiejgaaFrame
/- Plain: rows of and, or, as moatlaw10.SynBinds lays them: what Dump answers. -/
namespace Go.Proofs.Url
open Syn
def nmB (d : Nat) : UInt8 := UInt8.ofNat (98 + d)
def tB : List UInt8 := [40, 107, 110, 111, 119, 115, 32]
/-- The text, the sum, the term behind d rounds. -/
def sB (f : Nat → Bool) : Nat → List UInt8
  | 0 => [112, 114, 111, 112, 101, 114, 116, 121, 32, 112, 32, 61, 32, 107, 110, 111, 119, 115, 32, 97]
  | d + 1 => sB f d ++ (if f d then [32, 97, 110, 100, 32, 107, 110, 111, 119, 115, 32] else [32, 111, 114, 32, 107, 110, 111, 119, 115, 32]) ++ [nmB d]
def termB (f : Nat → Bool) : Nat → List UInt8
  | 0 => [40, 107, 110, 111, 119, 115, 32, 97, 41]
  | d + 1 => if f d then [40, 97, 110, 100, 32] ++ termB f d ++ [32, 40, 107, 110, 111, 119, 115, 32] ++ [nmB d] ++ [41, 41] else [40, 107, 110, 111, 119, 115, 32] ++ [nmB d] ++ [41]
def sumB (f : Nat → Bool) : Nat → List UInt8
  | 0 => []
  | d + 1 => if f d then sumB f d else if sumB f d = [] then termB f d else [40, 111, 114, 32] ++ sumB f d ++ [32] ++ termB f d ++ [41]
def lastB (f : Nat → Bool) (d : Nat) : List UInt8 := if sumB f d = [] then termB f d else [40, 111, 114, 32] ++ sumB f d ++ [32] ++ termB f d ++ [41]
def bindOk (f : Nat → Bool) (d : Nat) : Bool := dumpR (sB f d ++ [59]) == ([112, 114, 111, 112, 101, 114, 116, 121, 32, 112, 32] ++ lastB f d ++ [10], 0, 0)
theorem b_congr {f g : Nat → Bool} : ∀ {d : Nat}, (∀ i, i < d → f i = g i) → sB f d = sB g d ∧ termB f d = termB g d ∧ sumB f d = sumB g d
  | 0, _ => ⟨rfl, rfl, rfl⟩
  | d + 1, h => by
    obtain ⟨h1, h2, h3⟩ := b_congr (d := d) fun i hi => h i (by omega)
    have hd := h d (by omega)
    exact ⟨by simp only [sB, h1, hd], by simp only [termB, h2, hd], by simp only [sumB, h2, h3, hd]⟩
def allB : Nat → List (List Bool)
  | 0 => [[]]
  | n + 1 => (allB n).flatMap fun l => [l ++ [true], l ++ [false]]
theorem mem_allB (f : Nat → Bool) : ∀ n, (List.range n).map f ∈ allB n
  | 0 => List.mem_singleton.2 rfl
  | n + 1 => by
    rw [List.range_succ, List.map_append, allB, List.mem_flatMap]
    refine ⟨_, mem_allB f n, ?_⟩
    cases h : f n <;> simp [h]
def ofL (l : List Bool) : Nat → Bool := fun i => l.getD i false
/-- All rows of n bits, then t. -/
def bindAt (n : Nat) (t : List Bool) : Bool := (allB n).all fun l => bindOk (ofL (l ++ t)) (n + t.length)
theorem ba0_ : bindAt 0 [] = true := by decide +kernel
theorem ba1_ : bindAt 1 [] = true := by decide +kernel
theorem ba2_ : bindAt 2 [] = true := by decide +kernel
theorem ba3_ : bindAt 3 [] = true := by decide +kernel
theorem ba4_ : bindAt 4 [] = true := by decide +kernel
theorem ba5_ : bindAt 5 [] = true := by decide +kernel
theorem ba6_0 : bindAt 5 [false] = true := by decide +kernel
theorem ba6_1 : bindAt 5 [true] = true := by decide +kernel
theorem ba7_00 : bindAt 5 [false, false] = true := by decide +kernel
theorem ba7_01 : bindAt 5 [false, true] = true := by decide +kernel
theorem ba7_10 : bindAt 5 [true, false] = true := by decide +kernel
theorem ba7_11 : bindAt 5 [true, true] = true := by decide +kernel
theorem ba8_000 : bindAt 5 [false, false, false] = true := by decide +kernel
theorem ba8_001 : bindAt 5 [false, false, true] = true := by decide +kernel
theorem ba8_010 : bindAt 5 [false, true, false] = true := by decide +kernel
theorem ba8_011 : bindAt 5 [false, true, true] = true := by decide +kernel
theorem ba8_100 : bindAt 5 [true, false, false] = true := by decide +kernel
theorem ba8_101 : bindAt 5 [true, false, true] = true := by decide +kernel
theorem ba8_110 : bindAt 5 [true, true, false] = true := by decide +kernel
theorem ba8_111 : bindAt 5 [true, true, true] = true := by decide +kernel
theorem bindAt_one {n : Nat} {t : List Bool} (h : bindAt n t = true) (f : Nat → Bool) {d : Nat} (hd : n + t.length = d) (ht : (List.range d).map f = (List.range n).map f ++ t) : dumpR (sB f d ++ [59]) = ([112, 114, 111, 112, 101, 114, 116, 121, 32, 112, 32] ++ lastB f d ++ [10], 0, 0) := by
  have k := List.all_eq_true.1 h _ (mem_allB f n)
  rw [hd, ← ht] at k
  have e : ∀ i, i < d → ofL ((List.range d).map f) i = f i := fun i hi => by simp [ofL, List.getD, hi]
  obtain ⟨e1, e2, e3⟩ := b_congr e
  unfold bindOk lastB at k
  rw [e1, e2, e3] at k
  exact eq_of_beq k
theorem bind_one (f : Nat → Bool) (d : Nat) (h : d < 9) : dumpR (sB f d ++ [59]) = ([112, 114, 111, 112, 101, 114, 116, 121, 32, 112, 32] ++ lastB f d ++ [10], 0, 0) := by
  match d, h with
  | 0, _ => exact bindAt_one ba0_ f rfl (by simp)
  | 1, _ => exact bindAt_one ba1_ f rfl (by simp)
  | 2, _ => exact bindAt_one ba2_ f rfl (by simp)
  | 3, _ => exact bindAt_one ba3_ f rfl (by simp)
  | 4, _ => exact bindAt_one ba4_ f rfl (by simp)
  | 5, _ => exact bindAt_one ba5_ f rfl (by simp)
  | 6, _ =>
    cases h5 : f 5 with
    | false =>
      exact bindAt_one ba6_0 f rfl (by simp [List.range_succ, h5])
    | true =>
      exact bindAt_one ba6_1 f rfl (by simp [List.range_succ, h5])
  | 7, _ =>
    cases h5 : f 5 with
    | false =>
      cases h6 : f 6 with
      | false =>
        exact bindAt_one ba7_00 f rfl (by simp [List.range_succ, h5, h6])
      | true =>
        exact bindAt_one ba7_01 f rfl (by simp [List.range_succ, h5, h6])
    | true =>
      cases h6 : f 6 with
      | false =>
        exact bindAt_one ba7_10 f rfl (by simp [List.range_succ, h5, h6])
      | true =>
        exact bindAt_one ba7_11 f rfl (by simp [List.range_succ, h5, h6])
  | 8, _ =>
    cases h5 : f 5 with
    | false =>
      cases h6 : f 6 with
      | false =>
        cases h7 : f 7 with
        | false =>
          exact bindAt_one ba8_000 f rfl (by simp [List.range_succ, h5, h6, h7])
        | true =>
          exact bindAt_one ba8_001 f rfl (by simp [List.range_succ, h5, h6, h7])
      | true =>
        cases h7 : f 7 with
        | false =>
          exact bindAt_one ba8_010 f rfl (by simp [List.range_succ, h5, h6, h7])
        | true =>
          exact bindAt_one ba8_011 f rfl (by simp [List.range_succ, h5, h6, h7])
    | true =>
      cases h6 : f 6 with
      | false =>
        cases h7 : f 7 with
        | false =>
          exact bindAt_one ba8_100 f rfl (by simp [List.range_succ, h5, h6, h7])
        | true =>
          exact bindAt_one ba8_101 f rfl (by simp [List.range_succ, h5, h6, h7])
      | true =>
        cases h7 : f 7 with
        | false =>
          exact bindAt_one ba8_110 f rfl (by simp [List.range_succ, h5, h6, h7])
        | true =>
          exact bindAt_one ba8_111 f rfl (by simp [List.range_succ, h5, h6, h7])
theorem b_len (f : Nat → Bool) (d : Nat) : d ≤ 9 → (sB f d).length ≤ 20 + 12 * d ∧ (termB f d).length ≤ 9 + 16 * d ∧ (sumB f d).length ≤ 160 * d := by
  induction d with
  | zero => intro _; simp [sB, termB, sumB]
  | succ d ih =>
    intro hd
    obtain ⟨h1, h2, h3⟩ := ih (by omega)
    refine ⟨?_, ?_, ?_⟩
    · cases h : f d <;> simp [sB, h] <;> omega
    · cases h : f d <;> simp [termB, h] <;> omega
    · cases h : f d
      · simp only [sumB, h]
        split
        · contradiction
        · split
          · omega
          · simp; omega
      · simp only [sumB, h]; simp; omega
end Go.Proofs.Url

/- moatlaw0.Low as a natural number (L26 has it, too: never both in one seat). -/
namespace Go.Proofs.Ytilfdbkceiejgaa
open Go.RowKit Go.Proofs.Url

/-- What Low gives, as a natural number. -/
def lowT (x n : Int) : Nat := (low x n).toNat
theorem lowT_lt (x : Int) (n : Nat) (h : 1 ≤ n) : lowT x n < n := by
  have a := low_nn x n (by omega)
  have b := low_lt x n (by omega)
  unfold lowT; omega
theorem lowT_any (x n : Int) (w : World) (h1 : 1 ≤ n) (h2 : n ≤ 70000) :
    Calls Try.prog 16 #[.int .i64 x, .int .i64 n] w fun e w' => e = .returned (.int .i64 (lowT x n : Int)) ∧ w' = w := by
  refine (low_any x n w (by omega) (by omega)).mono ?_
  rintro e w' ⟨rfl, rfl⟩
  have a := low_nn x n (by omega)
  exact ⟨by unfold lowT; rw [Int.toNat_of_nonneg a], rfl⟩
end Go.Proofs.Ytilfdbkceiejgaa

/- The walk over moatlaw10.SynBinds, by what package syn gives. -/
namespace Go.Proofs.Ytilfdbkceiejgaa
open Go.RowKit Go.Proofs.Url Go.Proofs.Url.Syn

theorem conv35 (w : World) (d : Nat) (hd : d < 9) : (convert 47 9 (.slice (some ⟨w.heap.size, 0, none⟩) 1 1)).run Try.prog (w.alloc (.cells #[.int .u8 (98 + (d : Int))] 5)) = .ok (.string ⟨[nmB d].toArray⟩) (w.alloc (.cells #[.int .u8 (98 + (d : Int))] 5)) := by
  have e : (98 + (d : Int)) = ((nmB d).toNat : Int) := by unfold nmB; rw [UInt8.toNat_ofNat']; omega
  rw [e]
  exact run_convert_bytes_back (P := Try.prog) (w.alloc (.cells #[.int .u8 (nmB d).toNat] 5)) 47 9 5 ⟨w.heap.size, 0, none⟩ 1 [nmB d] Try.underlying47 Try.underlying5 Try.underlying9 (fun j hj => by
    obtain rfl : j = 0 := by simpa using hj
    exact World.cell?_alloc_new _ _ _ _)
set_option maxHeartbeats 4000000 in
set_option maxRecDepth 100000 in
theorem synBinds_walk (ok : SynOk) (mn bt : Int) (w : World) :
    Calls Try.prog 6 #[.int .i64 mn, .int .i64 bt] w fun e w' => e = .returned (.bool true) ∧ Below w.heap.size w w' := by
  have OK := hide ok
  have XA := hide (fun W => awake10_any ok W)
  clear ok
  have hk : lowT mn 9 < 9 := lowT_lt mn 9 (by decide)
  go_enter Try.func6, Try.ntmps6
  go_upto_region 2 with (go_at_call 16; refine (lowT_any _ _ _ (by decide) (by decide)).mono ?_; rintro e w' ⟨rfl, hw'⟩; rw [hw'])
  generalize lowT mn 9 = k at *
  have B0 : Hid (Below w.heap.size w w) := Below.refl _ _
  have HK := hide hk
  clear hk
  obtain ⟨f, hf⟩ : ∃ f : Nat → Bool, ∀ d, f d = (bits BinOp.and IntKind.i64 (bt / 2 ^ d) 1 == 1) := ⟨_, fun _ => rfl⟩
  have HF := hide hf
  clear hf
  go_wp2_with fail
  go_loopw [5, 6, 7, 8] (fun sv uv tv iv W => ∃ d : Nat, Hid (d ≤ k) ∧ iv = .int .i64 d ∧ sv = .string ⟨(sB f d).toArray⟩ ∧ uv = .string ⟨(sumB f d).toArray⟩ ∧ tv = .string ⟨(termB f d).toArray⟩ ∧ Hid (Below w.heap.size w W)) (fun _ _ _ iv _ => k - (intOf iv).toNat)
  case atStart => exact ⟨0, Nat.zero_le _, rfl, rfl, rfl, rfl, B0⟩
  case round =>
    obtain ⟨d, hd, rfl, rfl, rfl, rfl, hB⟩ := hrel
    have hsz := hB.out.size
    have hd8 : d < 9 := by have := HK.out; have := hd.out; omega
    obtain ⟨hsl, htl, hul⟩ := b_len f d (by omega)
    have hsl2 : (sB f d).length ≤ 200 := by omega
    have htl2 : (termB f d).length ≤ 200 := by omega
    have hul2 : (sumB f d).length ≤ 2000 := by omega
    clear hsl htl hul
    by_cases hlt : d < k
    · have hlI : ((d : Int) < (k : Int)) = True := eq_true (by omega)
      have HM : Hid (k - (d + 1) < k - d) := by unfold Hid; omega
      have HD2 : Hid (d + 1 ≤ k) := hlt
      clear hlt hd
      have hfd := HF.out d
      have hcv := conv35 wr d hd8
      have HB1 : Hid (Below w.heap.size w (wr.alloc (.cells #[.int .u8 (98 + (d : Int))] 5))) := hB.out.alloc hsz _
      cases hfv : f d with
      | true =>
        have hbit : bits BinOp.and IntKind.i64 (bt / 2 ^ d) 1 = 1 := eq_of_beq (by rw [← hfd, hfv])
        have HS1 : Hid (((⟨(sB f d).toArray⟩ : ByteArray) ++ ⟨#[32, 97, 110, 100, 32, 107, 110, 111, 119, 115, 32]⟩ ++ ⟨#[nmB d]⟩) = ⟨(sB f (d + 1)).toArray⟩) := dataEq (by simp [sB, hfv])
        have HU1 : Hid (sumB f (d + 1) = sumB f d) := by unfold Hid; simp [sumB, hfv]
        have HT1 : Hid (((⟨#[40, 97, 110, 100, 32]⟩ : ByteArray) ++ ⟨(termB f d).toArray⟩ ++ ⟨#[32, 40, 107, 110, 111, 119, 115, 32]⟩ ++ ⟨#[nmB d]⟩ ++ ⟨#[41, 41]⟩) = ⟨(termB f (d + 1)).toArray⟩) := dataEq (by simp [termB, hfv])
        clear hfd
        go_wp2_with fail
        exact ⟨⟨d + 1, HD2, by go_num, congrArg Value.string HS1.out, by rw [HU1.out], congrArg Value.string HT1.out, HB1⟩, by have := HM.out; simp [intOf]; omega⟩
      | false =>
        have hbit : (bits BinOp.and IntKind.i64 (bt / 2 ^ d) 1 == 1) = false := by rw [← hfd, hfv]
        have HS1 : Hid (((⟨(sB f d).toArray⟩ : ByteArray) ++ ⟨#[32, 111, 114, 32, 107, 110, 111, 119, 115, 32]⟩ ++ ⟨#[nmB d]⟩) = ⟨(sB f (d + 1)).toArray⟩) := dataEq (by simp [sB, hfv])
        have HT1 : Hid (((⟨#[40, 107, 110, 111, 119, 115, 32]⟩ : ByteArray) ++ ⟨#[nmB d]⟩ ++ ⟨#[41]⟩) = ⟨(termB f (d + 1)).toArray⟩) := dataEq (by simp [termB, hfv])
        clear hfd
        cases hz : (sumB f d).isEmpty with
        | true =>
          have HU1 : Hid (sumB f (d + 1) = termB f d) := by unfold Hid; simp [sumB, hfv, List.isEmpty_iff.1 hz]
          go_wp2_with fail
          exact ⟨⟨d + 1, HD2, by go_num, congrArg Value.string HS1.out, by rw [HU1.out], congrArg Value.string HT1.out, HB1⟩, by have := HM.out; simp [intOf]; omega⟩
        | false =>
          have hne : sumB f d ≠ [] := fun e => by rw [e] at hz; cases hz
          have HU1 : Hid (((⟨#[40, 111, 114, 32]⟩ : ByteArray) ++ ⟨(sumB f d).toArray⟩ ++ ⟨#[32]⟩ ++ ⟨(termB f d).toArray⟩ ++ ⟨#[41]⟩) = ⟨(sumB f (d + 1)).toArray⟩) := dataEq (by simp [sumB, hfv, hne])
          clear hne
          go_wp2_with fail
          exact ⟨⟨d + 1, HD2, by go_num, congrArg Value.string HS1.out, congrArg Value.string HU1.out, congrArg Value.string HT1.out, HB1⟩, by have := HM.out; simp [intOf]; omega⟩
    · have hdk : d = k := by have := hd.out; omega
      subst hdk
      have hlI : ((d : Int) < (d : Int)) = False := eq_false (by omega)
      have HT := hide (bind_one f d HK.out)
      have HIn : Hid (((⟨(sB f d).toArray⟩ : ByteArray) ++ ⟨#[59]⟩) = ⟨(sB f d ++ [59]).toArray⟩) := dataEq (by simp)
      have HTL : Hid ((sB f d ++ [59]).length < 4294967281) := by unfold Hid; simp; omega
      have HLD := hide (show lastB f d = _ from rfl)
      clear hlt hd HF
      cases hz : (sumB f d).isEmpty with
      | true =>
        have HL2 : Hid (lastB f d = termB f d) := by unfold Hid lastB; rw [if_pos (List.isEmpty_iff.1 hz)]
        clear HLD
        generalize sB f d ++ [59] = tx at *
        generalize lastB f d = ld at *
        have HOut : Hid (((⟨#[112, 114, 111, 112, 101, 114, 116, 121, 32, 112, 32]⟩ : ByteArray) ++ ⟨(termB f d).toArray⟩ ++ ⟨#[10]⟩) = ⟨([112, 114, 111, 112, 101, 114, 116, 121, 32, 112, 32] ++ ld ++ [10]).toArray⟩) := dataEq (by rw [HL2.out]; simp)
        generalize [112, 114, 111, 112, 101, 114, 116, 121, 32, 112, 32] ++ ld ++ [10] = ou at *
        generalize termB f d = te at *
        generalize sumB f d = su at *
        generalize sB f d = sb at *
        clear HL2
        go_wp2_with fail
        rw [HIn.out]
        refine (OK.out.dump tx _ HTL.out).mono ?_
        rintro e w2 ⟨hb2, rfl⟩
        rw [HT.out]
        have B2 := hide (hB.out.trans (hb2.mono hB.out.size))
        clear hb2 hB
        go_upto_region 19 with fail
        obtain ⟨W3, hW3⟩ : ∃ W3, W3 = w2.alloc (Obj.cells #[.int .i64 0, .int .i64 0] 25) := ⟨_, rfl⟩
        have b3 : Below w2.heap.size w2 W3 := by rw [hW3]; exact (Below.refl _ _).alloc (Nat.le_refl _) _
        have R3 : Hid (WB W3 w2.heap.size 0 0) := by unfold Hid; rw [hW3]; exact WB.new w2 0 0 25
        rw [← hW3]
        have B3 := hide (B2.out.trans (b3.mono B2.out.size))
        clear b3 hW3 B2
        have r0 := R3.out.c0
        have r1 := R3.out.c1
        have hl := R3.out.lt
        have ho := HOut.out
        have hoo : (ou == ou) = true := by simp
        go_wp2_with fail
        refine (XA.out _).mono ?_
        rintro e w4 ⟨rfl, hb4⟩
        have B4 := hide (B3.out.trans (hb4.mono B3.out.size))
        clear hb4
        go_wp2_with fail
        go_ret
        exact ⟨rfl, B4.out⟩
      | false =>
        have hne : sumB f d ≠ [] := fun e => by rw [e] at hz; cases hz
        have HL2 : Hid (lastB f d = [40, 111, 114, 32] ++ sumB f d ++ [32] ++ termB f d ++ [41]) := by unfold Hid lastB; rw [if_neg hne]
        clear hne HLD
        generalize sB f d ++ [59] = tx at *
        generalize lastB f d = ld at *
        have HOut : Hid (((⟨#[112, 114, 111, 112, 101, 114, 116, 121, 32, 112, 32]⟩ : ByteArray) ++ (⟨#[40, 111, 114, 32]⟩ ++ ⟨(sumB f d).toArray⟩ ++ ⟨#[32]⟩ ++ ⟨(termB f d).toArray⟩ ++ ⟨#[41]⟩) ++ ⟨#[10]⟩) = ⟨([112, 114, 111, 112, 101, 114, 116, 121, 32, 112, 32] ++ ld ++ [10]).toArray⟩) := dataEq (by rw [HL2.out]; simp)
        generalize [112, 114, 111, 112, 101, 114, 116, 121, 32, 112, 32] ++ ld ++ [10] = ou at *
        generalize termB f d = te at *
        generalize sumB f d = su at *
        generalize sB f d = sb at *
        clear HL2
        go_wp2_with fail
        rw [HIn.out]
        refine (OK.out.dump tx _ HTL.out).mono ?_
        rintro e w2 ⟨hb2, rfl⟩
        rw [HT.out]
        have B2 := hide (hB.out.trans (hb2.mono hB.out.size))
        clear hb2 hB
        go_upto_region 19 with fail
        obtain ⟨W3, hW3⟩ : ∃ W3, W3 = w2.alloc (Obj.cells #[.int .i64 0, .int .i64 0] 25) := ⟨_, rfl⟩
        have b3 : Below w2.heap.size w2 W3 := by rw [hW3]; exact (Below.refl _ _).alloc (Nat.le_refl _) _
        have R3 : Hid (WB W3 w2.heap.size 0 0) := by unfold Hid; rw [hW3]; exact WB.new w2 0 0 25
        rw [← hW3]
        have B3 := hide (B2.out.trans (b3.mono B2.out.size))
        clear b3 hW3 B2
        have r0 := R3.out.c0
        have r1 := R3.out.c1
        have hl := R3.out.lt
        have ho := HOut.out
        have hoo : (ou == ou) = true := by simp
        go_wp2_with fail
        refine (XA.out _).mono ?_
        rintro e w4 ⟨rfl, hb4⟩
        have B4 := hide (B3.out.trans (hb4.mono B3.out.size))
        clear hb4
        go_wp2_with fail
        go_ret
        exact ⟨rfl, B4.out⟩
end Go.Proofs.Ytilfdbkceiejgaa

/- Whatever it is handed, moatlaw10.SynBinds answers true and leaves its arguments as they read before: the row of SynBinds is proved. Conditions: those of the row alone. -/
namespace Go.Proofs.Ytilfdbkceiejgaa
open Go.ChangeShapes Go.WideShapes Go.ChangeAt Go.RowKit Go.Proofs.Url

set_option maxRecDepth 100000 in
theorem synBinds_contract (H : Type) (enc : TypeId × Value → H) (W : World) (base : Nat) (args : Array Value) (ds gs : List (DataW H)) (before : List MemPlace)
    (hval : ∀ (j : Nat) t v, Try.f6.params[j]? = some t → args[j]? = some v → Value.okWide Try.prog W .any base t v)
    (hW : DataW.Whole enc Try.prog Try.f6.params.toList Rows.synBindsSpec.vars false W args.toList ds gs before) (_henv : Env W) :
    Calls Try.prog 6 args W fun e W' => ∃ v, e = .returned v ∧ Rows.synBindsSpec.post enc Try.prog Try.f6 false true false false W args v W' := by
  have hW' := hW
  obtain ⟨p, q, hA0, hV, rfl, hfz, hnd⟩ := hW
  have hA : DataW.TrodAll enc Try.prog W 0 (fun _ => true) true Try.f6.params.toList args.toList ds p := hA0
  rw [Try.params6] at hA hval
  obtain ⟨v0, vs0, d0, ds0, p0, q0, hargs, rfl, rfl, h0, r0⟩ := trodAll_cons hA
  obtain ⟨v1, vs1, d1, ds1, p1, q1, rfl, rfl, rfl, h1, r1⟩ := trodAll_cons r0
  obtain ⟨rfl, rfl, rfl⟩ := trodAll_nil r1
  obtain rfl : args = #[v0, v1] := by cases args; simp_all
  obtain ⟨rfl, rfl⟩ := trodVars_none hV
  obtain ⟨x0, rfl, rfl, rfl, w0⟩ := open_int Try.underlying3 (hval 0 3 v0 rfl rfl) h0
  obtain ⟨x1, rfl, rfl, rfl, w1⟩ := open_int Try.underlying3 (hval 1 3 v1 rfl rfl) h1
  clear hA0
  refine (synBinds_walk syn_ok x0 x1 W).mono fun e W' ⟨he, bel⟩ => ?_
  subst he
  exact ⟨_, rfl, _, _, _, [], _, [], hW', trodAll_mk1 (shut_bool Try.underlying4 _), (trodAll_cons_mk (shut_int Try.underlying3 w0) (trodAll_cons_mk (shut_int Try.underlying3 w1) trodAll_mk0)), rfl, bel.frame _, fun h => by cases h⟩

theorem synBinds_laid (os : Os) : laidMet Try.prog Rows.synBindsRow.laid (({ World.holding Try.prog os ⟨#[], #[], []⟩ with heap := layAll (World.holding Try.prog os ⟨#[], #[], []⟩).heap } : World).forCall (fun _ _ => 0) ⟨#[], #[.int .i64 0, .int .i64 0], []⟩).memory :=
  laidMet_of_run' 8 (by kernel_rfl) (by kernel_rfl)
theorem synBinds_reads (os : Os) {H : Type} (enc : TypeId × Value → H) : ∃ places, DataW.whole enc Try.prog (({ World.holding Try.prog os ⟨#[], #[], []⟩ with heap := layAll (World.holding Try.prog os ⟨#[], #[], []⟩).heap } : World).forCall (fun _ _ => 0) ⟨#[], #[.int .i64 0, .int .i64 0], []⟩).memory Try.f6.params.toList Rows.synBindsSpec.vars false #[Value.int .i64 0, .int .i64 0].toList 8 = some ([.lit (.int .i64 0), .lit (.int .i64 0)], [], places) :=
  ⟨[], by kernel_rfl⟩

set_option maxRecDepth 100000 in
theorem synBinds_lifted (os : Os) (started : os.Started) (H : Type) (enc : TypeId × Value → H) (F : Stop.Interp) :
    ReturnsInHanded {} Try.checked os 6 .any ((OpenSpec.ofChange Rows.synBindsSpec).preRow enc Try.prog Try.f6 Rows.synBindsRow.domain false Rows.synBindsRow.laid) (((OpenSpec.ofChange Rows.synBindsSpec).at F).post enc Try.prog Try.f6 false true false false) := by
  obtain ⟨places, hx⟩ := synBinds_reads os enc
  refine returnsInHanded_of_row (C := Try.checked) (s := OpenSpec.ofChange Rows.synBindsSpec) own_knob started (by kernel_rfl) Try.func6
    (witness_row_at (enc := enc) (C := Try.checked) false { World.holding Try.prog os ⟨#[], #[], []⟩ with heap := layAll (World.holding Try.prog os ⟨#[], #[], []⟩).heap } #[.int .i64 0, .int .i64 0] rfl (by kernel_rfl) (by kernel_rfl) (by kernel_rfl)
      (OpenSpec.preRow_of_cond 8 hx (by kernel_rfl) (fun k hk => by cases hk) (by kernel_rfl) (synBinds_laid os))) ?_
  intro W base args ds gs before hval hW _ _ _ hL hS _
  exact synBinds_contract H enc W base args ds gs before hval hW (env_of hL hS)

theorem synBinds_said : Rows.SynBindsSaid :=
  OpenClaim.holds_of_cond 6 Try.f6 rfl rfl rfl rfl rfl rfl rfl ⟨rfl, rfl, rfl, rfl, rfl⟩ rfl rfl rfl rfl rfl (by kernel_rfl) Try.func6 (by kernel_rfl)
    (of_decide_eq_true (by kernel_rfl)) (by unfold Func.isWrapper; first | (rw [if_pos (by decide +kernel)]; kernel_rfl) | (rw [if_neg (by decide +kernel)]; exact ⟨rfl, rfl⟩))
    (fun os started H enc _ F => by rw [OpenClaim.pre_eq_preRow]; exact synBinds_lifted os started H enc F)

end Go.Proofs.Ytilfdbkceiejgaa
