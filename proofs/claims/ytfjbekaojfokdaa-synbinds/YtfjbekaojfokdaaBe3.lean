import Derived.Test.YtfjbekaojfokdaaW2
import Derived.Test.YtfjbekaojfokdaaBe2
/- moatlaw0.Low as a natural number (L26 has it, too: never both in one seat). -/
namespace Go.Proofs.Ytfjbekaojfokdaa
open Go.RowKit Go.Proofs.Url

/-- What Low gives, as a natural number. -/
def lowT (x n : Int) : Nat := (low x n).toNat
theorem lowT_lt (x : Int) (n : Nat) (h : 1 ≤ n) : lowT x n < n := by
  have a := low_nn x n (by omega)
  have b := low_lt x n (by omega)
  unfold lowT; omega
theorem lowT_any (x n : Int) (w : World) (h1 : 1 ≤ n) (h2 : n ≤ 70000) :
    Calls Try.prog 16 #[.int .i64 x, .int .i64 n] w fun e w' => e = .returned (.int .i64 (lowT x n : Int)) ∧ w' = w := by
  refine (low_any x n w (by omega) (by omega)).mono ?_
  rintro e w' ⟨rfl, rfl⟩
  have a := low_nn x n (by omega)
  exact ⟨by unfold lowT; rw [Int.toNat_of_nonneg a], rfl⟩
end Go.Proofs.Ytfjbekaojfokdaa

/- The walk over moatlaw10.SynBinds, by what package syn gives. -/
namespace Go.Proofs.Ytfjbekaojfokdaa
open Go.RowKit Go.Proofs.Url Go.Proofs.Url.Syn

theorem conv35 (w : World) (d : Nat) (hd : d < 9) : (convert 47 9 (.slice (some ⟨w.heap.size, 0, none⟩) 1 1)).run Try.prog (w.alloc (.cells #[.int .u8 (98 + (d : Int))] 5)) = .ok (.string ⟨[nmB d].toArray⟩) (w.alloc (.cells #[.int .u8 (98 + (d : Int))] 5)) := by
  have e : (98 + (d : Int)) = ((nmB d).toNat : Int) := by unfold nmB; rw [UInt8.toNat_ofNat']; omega
  rw [e]
  exact run_convert_bytes_back (P := Try.prog) (w.alloc (.cells #[.int .u8 (nmB d).toNat] 5)) 47 9 5 ⟨w.heap.size, 0, none⟩ 1 [nmB d] Try.underlying47 Try.underlying5 Try.underlying9 (fun j hj => by
    obtain rfl : j = 0 := by simpa using hj
    exact World.cell?_alloc_new _ _ _ _)
set_option maxHeartbeats 4000000 in
set_option maxRecDepth 100000 in
theorem synBinds_walk (ok : SynOk) (mn bt : Int) (w : World) :
    Calls Try.prog 6 #[.int .i64 mn, .int .i64 bt] w fun e w' => e = .returned (.bool true) ∧ Below w.heap.size w w' := by
  have OK := hide ok
  have XA := hide (fun W => awake10_any ok W)
  clear ok
  have hk : lowT mn 9 < 9 := lowT_lt mn 9 (by decide)
  go_enter Try.func6, Try.ntmps6
  go_upto_region 2 with (go_at_call 16; refine (lowT_any _ _ _ (by decide) (by decide)).mono ?_; rintro e w' ⟨rfl, hw'⟩; rw [hw'])
  generalize lowT mn 9 = k at *
  have B0 : Hid (Below w.heap.size w w) := Below.refl _ _
  have HK := hide hk
  clear hk
  obtain ⟨f, hf⟩ : ∃ f : Nat → Bool, ∀ d, f d = (bits BinOp.and IntKind.i64 (bt / 2 ^ d) 1 == 1) := ⟨_, fun _ => rfl⟩
  have HF := hide hf
  clear hf
  go_wp2_with fail
  go_loopw [5, 6, 7, 8] (fun sv uv tv iv W => ∃ d : Nat, Hid (d ≤ k) ∧ iv = .int .i64 d ∧ sv = .string ⟨(sB f d).toArray⟩ ∧ uv = .string ⟨(sumB f d).toArray⟩ ∧ tv = .string ⟨(termB f d).toArray⟩ ∧ Hid (Below w.heap.size w W)) (fun _ _ _ iv _ => k - (intOf iv).toNat)
  case atStart => exact ⟨0, Nat.zero_le _, rfl, rfl, rfl, rfl, B0⟩
  case round =>
    obtain ⟨d, hd, rfl, rfl, rfl, rfl, hB⟩ := hrel
    have hsz := hB.out.size
    have hd8 : d < 9 := by have := HK.out; have := hd.out; omega
    obtain ⟨hsl, htl, hul⟩ := b_len f d (by omega)
    have hsl2 : (sB f d).length ≤ 200 := by omega
    have htl2 : (termB f d).length ≤ 200 := by omega
    have hul2 : (sumB f d).length ≤ 2000 := by omega
    clear hsl htl hul
    by_cases hlt : d < k
    · have hlI : ((d : Int) < (k : Int)) = True := eq_true (by omega)
      have HM : Hid (k - (d + 1) < k - d) := by unfold Hid; omega
      have HD2 : Hid (d + 1 ≤ k) := hlt
      clear hlt hd
      have hfd := HF.out d
      have hcv := conv35 wr d hd8
      have HB1 : Hid (Below w.heap.size w (wr.alloc (.cells #[.int .u8 (98 + (d : Int))] 5))) := hB.out.alloc hsz _
      cases hfv : f d with
      | true =>
        have hbit : bits BinOp.and IntKind.i64 (bt / 2 ^ d) 1 = 1 := eq_of_beq (by rw [← hfd, hfv])
        have HS1 : Hid (((⟨(sB f d).toArray⟩ : ByteArray) ++ ⟨#[32, 97, 110, 100, 32, 107, 110, 111, 119, 115, 32]⟩ ++ ⟨#[nmB d]⟩) = ⟨(sB f (d + 1)).toArray⟩) := dataEq (by simp [sB, hfv])
        have HU1 : Hid (sumB f (d + 1) = sumB f d) := by unfold Hid; simp [sumB, hfv]
        have HT1 : Hid (((⟨#[40, 97, 110, 100, 32]⟩ : ByteArray) ++ ⟨(termB f d).toArray⟩ ++ ⟨#[32, 40, 107, 110, 111, 119, 115, 32]⟩ ++ ⟨#[nmB d]⟩ ++ ⟨#[41, 41]⟩) = ⟨(termB f (d + 1)).toArray⟩) := dataEq (by simp [termB, hfv])
        clear hfd
        go_wp2_with fail
        exact ⟨⟨d + 1, HD2, by go_num, congrArg Value.string HS1.out, by rw [HU1.out], congrArg Value.string HT1.out, HB1⟩, by have := HM.out; simp [intOf]; omega⟩
      | false =>
        have hbit : (bits BinOp.and IntKind.i64 (bt / 2 ^ d) 1 == 1) = false := by rw [← hfd, hfv]
        have HS1 : Hid (((⟨(sB f d).toArray⟩ : ByteArray) ++ ⟨#[32, 111, 114, 32, 107, 110, 111, 119, 115, 32]⟩ ++ ⟨#[nmB d]⟩) = ⟨(sB f (d + 1)).toArray⟩) := dataEq (by simp [sB, hfv])
        have HT1 : Hid (((⟨#[40, 107, 110, 111, 119, 115, 32]⟩ : ByteArray) ++ ⟨#[nmB d]⟩ ++ ⟨#[41]⟩) = ⟨(termB f (d + 1)).toArray⟩) := dataEq (by simp [termB, hfv])
        clear hfd
        cases hz : (sumB f d).isEmpty with
        | true =>
          have HU1 : Hid (sumB f (d + 1) = termB f d) := by unfold Hid; simp [sumB, hfv, List.isEmpty_iff.1 hz]
          go_wp2_with fail
          exact ⟨⟨d + 1, HD2, by go_num, congrArg Value.string HS1.out, by rw [HU1.out], congrArg Value.string HT1.out, HB1⟩, by have := HM.out; simp [intOf]; omega⟩
        | false =>
          have hne : sumB f d ≠ [] := fun e => by rw [e] at hz; cases hz
          have HU1 : Hid (((⟨#[40, 111, 114, 32]⟩ : ByteArray) ++ ⟨(sumB f d).toArray⟩ ++ ⟨#[32]⟩ ++ ⟨(termB f d).toArray⟩ ++ ⟨#[41]⟩) = ⟨(sumB f (d + 1)).toArray⟩) := dataEq (by simp [sumB, hfv, hne])
          clear hne
          go_wp2_with fail
          exact ⟨⟨d + 1, HD2, by go_num, congrArg Value.string HS1.out, congrArg Value.string HU1.out, congrArg Value.string HT1.out, HB1⟩, by have := HM.out; simp [intOf]; omega⟩
    · have hdk : d = k := by have := hd.out; omega
      subst hdk
      have hlI : ((d : Int) < (d : Int)) = False := eq_false (by omega)
      have HT := hide (bind_one f d HK.out)
      have HIn : Hid (((⟨(sB f d).toArray⟩ : ByteArray) ++ ⟨#[59]⟩) = ⟨(sB f d ++ [59]).toArray⟩) := dataEq (by simp)
      have HTL : Hid ((sB f d ++ [59]).length < 4294967281) := by unfold Hid; simp; omega
      have HLD := hide (show lastB f d = _ from rfl)
      clear hlt hd HF
      cases hz : (sumB f d).isEmpty with
      | true =>
        have HL2 : Hid (lastB f d = termB f d) := by unfold Hid lastB; rw [if_pos (List.isEmpty_iff.1 hz)]
        clear HLD
        generalize sB f d ++ [59] = tx at *
        generalize lastB f d = ld at *
        have HOut : Hid (((⟨#[112, 114, 111, 112, 101, 114, 116, 121, 32, 112, 32]⟩ : ByteArray) ++ ⟨(termB f d).toArray⟩ ++ ⟨#[10]⟩) = ⟨([112, 114, 111, 112, 101, 114, 116, 121, 32, 112, 32] ++ ld ++ [10]).toArray⟩) := dataEq (by rw [HL2.out]; simp)
        generalize [112, 114, 111, 112, 101, 114, 116, 121, 32, 112, 32] ++ ld ++ [10] = ou at *
        generalize termB f d = te at *
        generalize sumB f d = su at *
        generalize sB f d = sb at *
        clear HL2
        go_wp2_with fail
        rw [HIn.out]
        refine (OK.out.dump tx _ HTL.out).mono ?_
        rintro e w2 ⟨hb2, rfl⟩
        rw [HT.out]
        have B2 := hide (hB.out.trans (hb2.mono hB.out.size))
        clear hb2 hB
        go_upto_region 19 with fail
        obtain ⟨W3, hW3⟩ : ∃ W3, W3 = w2.alloc (Obj.cells #[.int .i64 0, .int .i64 0] 25) := ⟨_, rfl⟩
        have b3 : Below w2.heap.size w2 W3 := by rw [hW3]; exact (Below.refl _ _).alloc (Nat.le_refl _) _
        have R3 : Hid (WB W3 w2.heap.size 0 0) := by unfold Hid; rw [hW3]; exact WB.new w2 0 0 25
        rw [← hW3]
        have B3 := hide (B2.out.trans (b3.mono B2.out.size))
        clear b3 hW3 B2
        have r0 := R3.out.c0
        have r1 := R3.out.c1
        have hl := R3.out.lt
        have ho := HOut.out
        have hoo : (ou == ou) = true := by simp
        go_wp2_with fail
        refine (XA.out _).mono ?_
        rintro e w4 ⟨rfl, hb4⟩
        have B4 := hide (B3.out.trans (hb4.mono B3.out.size))
        clear hb4
        go_wp2_with fail
        go_ret
        exact ⟨rfl, B4.out⟩
      | false =>
        have hne : sumB f d ≠ [] := fun e => by rw [e] at hz; cases hz
        have HL2 : Hid (lastB f d = [40, 111, 114, 32] ++ sumB f d ++ [32] ++ termB f d ++ [41]) := by unfold Hid lastB; rw [if_neg hne]
        clear hne HLD
        generalize sB f d ++ [59] = tx at *
        generalize lastB f d = ld at *
        have HOut : Hid (((⟨#[112, 114, 111, 112, 101, 114, 116, 121, 32, 112, 32]⟩ : ByteArray) ++ (⟨#[40, 111, 114, 32]⟩ ++ ⟨(sumB f d).toArray⟩ ++ ⟨#[32]⟩ ++ ⟨(termB f d).toArray⟩ ++ ⟨#[41]⟩) ++ ⟨#[10]⟩) = ⟨([112, 114, 111, 112, 101, 114, 116, 121, 32, 112, 32] ++ ld ++ [10]).toArray⟩) := dataEq (by rw [HL2.out]; simp)
        generalize [112, 114, 111, 112, 101, 114, 116, 121, 32, 112, 32] ++ ld ++ [10] = ou at *
        generalize termB f d = te at *
        generalize sumB f d = su at *
        generalize sB f d = sb at *
        clear HL2
        go_wp2_with fail
        rw [HIn.out]
        refine (OK.out.dump tx _ HTL.out).mono ?_
        rintro e w2 ⟨hb2, rfl⟩
        rw [HT.out]
        have B2 := hide (hB.out.trans (hb2.mono hB.out.size))
        clear hb2 hB
        go_upto_region 19 with fail
        obtain ⟨W3, hW3⟩ : ∃ W3, W3 = w2.alloc (Obj.cells #[.int .i64 0, .int .i64 0] 25) := ⟨_, rfl⟩
        have b3 : Below w2.heap.size w2 W3 := by rw [hW3]; exact (Below.refl _ _).alloc (Nat.le_refl _) _
        have R3 : Hid (WB W3 w2.heap.size 0 0) := by unfold Hid; rw [hW3]; exact WB.new w2 0 0 25
        rw [← hW3]
        have B3 := hide (B2.out.trans (b3.mono B2.out.size))
        clear b3 hW3 B2
        have r0 := R3.out.c0
        have r1 := R3.out.c1
        have hl := R3.out.lt
        have ho := HOut.out
        have hoo : (ou == ou) = true := by simp
        go_wp2_with fail
        refine (XA.out _).mono ?_
        rintro e w4 ⟨rfl, hb4⟩
        have B4 := hide (B3.out.trans (hb4.mono B3.out.size))
        clear hb4
        go_wp2_with fail
        go_ret
        exact ⟨rfl, B4.out⟩
end Go.Proofs.Ytfjbekaojfokdaa
