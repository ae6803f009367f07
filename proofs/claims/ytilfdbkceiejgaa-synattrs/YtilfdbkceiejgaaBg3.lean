import Derived.Test.YtilfdbkceiejgaaW2
import Derived.Test.YtilfdbkceiejgaaBg2
import Derived.Test.YtilfdbkceiejgaaBg1
import Derived.Test.YtilfdbkceiejgaaRows5
import Derived.Test.YtilfdbkceiejgaaFrame
/- moatlaw0.Low as a natural number (L26 has it, too: never both in one seat). -/
namespace Go.Proofs.Ytilfdbkceiejgaa
open Go.RowKit Go.Proofs.Url

/-- What Low gives, as a natural number. -/
def lowT (x n : Int) : Nat := (low x n).toNat
theorem lowT_lt (x : Int) (n : Nat) (h : 1 ≤ n) : lowT x n < n := by
  have a := low_nn x n (by omega)
  have b := low_lt x n (by omega)
  unfold lowT; omega
theorem lowT_any (x n : Int) (w : World) (h1 : 1 ≤ n) (h2 : n ≤ 70000) :
    Calls Try.prog 16 #[.int .i64 x, .int .i64 n] w fun e w' => e = .returned (.int .i64 (lowT x n : Int)) ∧ w' = w := by
  refine (low_any x n w (by omega) (by omega)).mono ?_
  rintro e w' ⟨rfl, rfl⟩
  have a := low_nn x n (by omega)
  exact ⟨by unfold lowT; rw [Int.toNat_of_nonneg a], rfl⟩
end Go.Proofs.Ytilfdbkceiejgaa

/- The walk over moatlaw10.SynAttrs, by what package syn gives. -/
namespace Go.Proofs.Url
def g3 (k : Nat) : List UInt8 := gs3.getD k []
theorem g3_mem (k : Nat) (h : k < 3) : g3 k ∈ gs3 := by
  match k, h with
  | 0, _ => decide
  | 1, _ => decide
  | 2, _ => decide
theorem gs3_len {g : List UInt8} (h : g ∈ gs3) : g.length ≤ 5 := by
  simp only [gs3, List.mem_cons, List.not_mem_nil, or_false] at h
  rcases h with rfl | rfl | rfl <;> decide
theorem a17_len : ∀ k, k < 17 → (a17 k).length ≤ 13 := by decide
theorem bodyT_next (g : List UInt8) (ks : List Nat) (k : Nat) : bodyT g (ks ++ [k]) = bodyT g ks ++ (g ++ a17 k ++ g ++ [59]) := by unfold bodyT; rw [List.flatMap_append]; simp
theorem wantT_next (ks : List Nat) (k : Nat) : wantT (ks ++ [k]) = wantT ks ++ ([32, 40] ++ a17 k ++ [41]) := by unfold wantT; rw [List.flatMap_append]; simp
theorem wantT_len : ∀ (ks : List Nat), (∀ k ∈ ks, k < 17) → (wantT ks).length ≤ 16 * ks.length
  | [], _ => Nat.le_refl _
  | k :: ks, h => by
    have h1 := a17_len k (h k (List.mem_cons_self ..))
    have h2 := wantT_len ks fun j hj => h j (List.mem_cons_of_mem k hj)
    unfold wantT at *
    rw [List.flatMap_cons, List.length_append, List.length_cons]
    simp only [List.length_append, List.length_cons, List.length_nil]
    omega
end Go.Proofs.Url
namespace Go.Proofs.Ytilfdbkceiejgaa
open Go.RowKit Go.Proofs.Url Go.Proofs.Url.Syn

theorem g3_at (k : Nat) (h : k < 3) : [Value.string ⟨#[32]⟩, .string ⟨#[10, 9]⟩, .string ⟨#[32, 35, 32, 99, 10]⟩][k] = .string ⟨(g3 k).toArray⟩ := by
  match k, h with
  | 0, _ => rfl
  | 1, _ => rfl
  | 2, _ => rfl
theorem ah8 (ao : Option Addr) (ca cb : Nat) (w : World) (ha : IntsAt w ao [0, 8]) (t : TypeId) :
    Calls Try.prog 14 #[.slice ao 2 ca, .slice (some ⟨w.heap.size, 0, none⟩) 2 cb] (w.alloc (Obj.cells #[.int .i64 0, .int .i64 8] t)) fun e w' => e = .returned (.bool true) ∧ Below w.heap.size w w' := by
  refine (sameInts_any ao _ [0, 8] [0, 8] ca cb _ (ha.keep ((Below.refl _ _).alloc (Nat.le_refl _) _)) (ints2 w 0 8 t) (by decide) (by decide)).mono ?_
  rintro e w' ⟨rfl, hb⟩
  refine ⟨rfl, ?_⟩
  have b0 : Below w.heap.size w (w.alloc (Obj.cells #[.int .i64 0, .int .i64 8] t)) := (Below.refl _ _).alloc (Nat.le_refl _) _
  exact b0.trans (hb.mono b0.size)

set_option maxHeartbeats 4000000 in
set_option maxRecDepth 100000 in
theorem synAttrs_walk (ok : SynOk) (a0 : Option Addr) (len0 cap0 : Nat) (z : Nat → Int) (gp : Int) (w : World) (hrow : RowI w a0 len0 z) :
    Calls Try.prog 8 #[.slice a0 len0 cap0, .int .i64 gp] w fun e w' => e = .returned (.bool true) ∧ Below w.heap.size w w' := by
  have OK := hide ok
  have XA := hide (fun W => awake10_any ok W)
  clear ok
  by_cases h14 : 14 < (len0 : Int)
  · clear hrow
    go_enter Try.func8, Try.ntmps8
    go_wp2_with fail
    refine (XA.out _).mono ?_
    rintro e w1 ⟨rfl, hb1⟩
    go_wp2_with fail
    go_ret
    exact ⟨rfl, hb1⟩
  have HRow := hide hrow
  clear hrow
  have h14' : len0 ≤ 14 := by omega
  have hk : lowT gp 3 < 3 := lowT_lt gp 3 (by decide)
  have hkI : (lowT gp 3 : Int) < 3 := by omega
  have l1 := g3_at (lowT gp 3) hk
  go_enter Try.func8, Try.ntmps8
  go_upto_region 4 with fail
  obtain ⟨W0, hW0⟩ : ∃ W0, W0 = w.alloc (Obj.cells #[.string ⟨#[112, 97, 103, 101]⟩, .string ⟨#[105, 110, 106, 101, 99, 116]⟩, .string ⟨#[111, 119, 110]⟩, .string ⟨#[99, 104, 97, 110, 103, 101, 115]⟩, .string ⟨#[111, 112, 101, 110]⟩, .string ⟨#[99, 114, 101, 100, 101, 110, 116, 105, 97, 108, 115]⟩, .string ⟨#[115, 99, 114, 105, 112, 116, 32, 120]⟩, .string ⟨#[110, 101, 101, 100, 115, 32, 121]⟩, .string ⟨#[115, 101, 116, 115, 32, 122]⟩, .string ⟨#[103, 105, 118, 101, 115, 32, 115]⟩, .string ⟨#[114, 101, 100, 105, 114, 101, 99, 116, 32, 101]⟩, .string ⟨#[99, 111, 114, 115, 32, 97, 110, 121]⟩, .string ⟨#[99, 111, 114, 115, 32, 101, 118, 105, 108]⟩, .string ⟨#[104, 101, 97, 100, 101, 114, 32, 34, 88, 34]⟩, .string ⟨#[97, 108, 108, 111, 119, 32, 34, 97, 44, 32, 98, 34]⟩, .string ⟨#[109, 101, 116, 104, 111, 100, 115, 32, 34, 34]⟩, .string ⟨#[99, 115, 112, 32, 34, 39, 115, 101, 108, 102, 39, 34]⟩] 9) := ⟨_, rfl⟩
  have B0 : Hid (Below w.heap.size w W0) := by unfold Hid; rw [hW0]; exact (Below.refl _ _).alloc (Nat.le_refl _) _
  have L0 : Hid (LitsAt W0 w.heap.size all17) := by unfold Hid; rw [hW0]; exact lits_new w all17 _
  have hs0 : w.heap.size < W0.heap.size := World.block_lt_of_cell? W0 _ (L0.out 0 (by decide))
  rw [← hW0]
  clear hW0
  go_upto_region 5 with (go_at_call 16; refine (lowT_any _ _ _ (by decide) (by decide)).mono ?_; rintro e w' ⟨rfl, hw'⟩; rw [hw'])
  have hg := g3_mem _ hk
  have b1 : Below W0.heap.size W0 (W0.alloc (Obj.cells #[.string ⟨#[32]⟩, .string ⟨#[10, 9]⟩, .string ⟨#[32, 35, 32, 99, 10]⟩] 9)) := (Below.refl _ _).alloc (Nat.le_refl _) _
  have B1 := hide (B0.out.trans (b1.mono (Nat.le_of_lt hs0)))
  have L1 := hide (L0.out.keep b1)
  obtain ⟨W1, hW1⟩ : ∃ v, v = W0.alloc (Obj.cells #[.string ⟨#[32]⟩, .string ⟨#[10, 9]⟩, .string ⟨#[32, 35, 32, 99, 10]⟩] 9) := ⟨_, rfl⟩
  rw [← hW1] at B1 L1 ⊢
  clear hW1 b1 B0 L0 l1 hkI
  generalize g3 (lowT gp 3) = g at *
  have hgl := gs3_len hg
  have HG := hide hg
  clear hg hk hs0
  go_wp2_with fail
  go_loopw [7, 8, 9] (fun sv nv iv W => ∃ (k : Nat) (ks : List Nat), Hid (k ≤ len0) ∧ iv = .int .i64 k ∧ Hid (ks.length = k) ∧ Hid (∀ j ∈ ks, j < 17) ∧ sv = .string ⟨(hdT ++ bodyT g ks).toArray⟩ ∧ nv = .string ⟨(hdW ++ wantT ks).toArray⟩ ∧ Hid (LitsAt W w.heap.size all17) ∧ Hid (Below w.heap.size w W) ∧ w.heap.size < W.heap.size) (fun _ _ iv _ => len0 - (intOf iv).toNat)
  case atStart => exact ⟨0, [], Nat.zero_le _, rfl, rfl, fun j h => absurd h (by simp), rfl, rfl, L1, B1, World.block_lt_of_cell? _ _ (L1.out 0 (by decide))⟩
  case round =>
    obtain ⟨k, ks, hk, rfl, hkl, hks, rfl, rfl, hL, hB, hsz⟩ := hrel
    have hsl : (hdT ++ bodyT g ks).length ≤ 500 := by
      have h1 := (body_len HG.out ks hks.out).2.2
      have h2 := hkl.out; have h3 := hk.out
      have e1 : hdT.length = 25 := rfl
      rw [List.length_append, e1]; omega
    have hwl : (hdW ++ wantT ks).length ≤ 500 := by
      have h1 := wantT_len ks hks.out
      have h2 := hkl.out; have h3 := hk.out
      have e1 : hdW.length = 23 := rfl
      rw [List.length_append, e1]; omega
    by_cases hlt : k < len0
    · obtain ⟨b, off, rfl, hbw, hcell⟩ := HRow.out.keep hB.out k hlt
      have hlI : ((k : Int) < (len0 : Int)) = True := eq_true (by omega)
      have hk14 : k < 14 := by omega
      have HM : Hid (len0 - (k + 1) < len0 - k) := by unfold Hid; omega
      have HK2 : Hid (k + 1 ≤ len0) := hlt
      have hbw2 : b < wr.heap.size := by omega
      have hK : lowT (z k) 17 < 17 := lowT_lt (z k) 17 (by decide)
      have hcA := hL.out (lowT (z k) 17) hK
      have hKI : ((lowT (z k) 17 : Int) < 17) := by omega
      have hal := a17_len _ hK
      have HS1 : Hid (((⟨(hdT ++ bodyT g ks).toArray⟩ : ByteArray) ++ ⟨g.toArray⟩ ++ ⟨(a17 (lowT (z k) 17)).toArray⟩ ++ ⟨g.toArray⟩ ++ ⟨#[59]⟩) = ⟨(hdT ++ bodyT g (ks ++ [lowT (z k) 17])).toArray⟩) := dataEq (by rw [bodyT_next]; simp)
      have HW1 : Hid (((⟨(hdW ++ wantT ks).toArray⟩ : ByteArray) ++ ⟨#[32, 40]⟩ ++ ⟨(a17 (lowT (z k) 17)).toArray⟩ ++ ⟨#[41]⟩) = ⟨(hdW ++ wantT (ks ++ [lowT (z k) 17])).toArray⟩) := dataEq (by rw [wantT_next]; simp)
      have HKs : Hid (∀ j ∈ ks ++ [lowT (z k) 17], j < 17) := fun j hj => by
        rcases List.mem_append.1 hj with hj | hj
        · exact hks.out j hj
        · rw [List.mem_singleton] at hj; rw [hj]; exact hK
      have HKl : Hid ((ks ++ [lowT (z k) 17]).length = k + 1) := by unfold Hid; rw [List.length_append, List.length_singleton, hkl.out]
      rw [show all17.getD (lowT (z k) 17) [] = a17 (lowT (z k) 17) from rfl] at hcA
      have LZ := hide (fun W => lowT_any (z k) 17 W (by decide) (by decide))
      generalize lowT (z k) 17 = K at *
      generalize hdT ++ bodyT g ks = sx at *
      generalize hdW ++ wantT ks = wx at *
      generalize a17 K = ax at *
      clear hlt hk hkl hks
      go_wp2_with fail
      refine (LZ.out _).mono ?_
      rintro e w1 ⟨rfl, hw1⟩
      subst hw1
      clear hcell LZ
      go_wp2_with fail
      exact ⟨⟨k + 1, ks ++ [K], HK2, by go_num, HKl, HKs, congrArg Value.string HS1.out, congrArg Value.string HW1.out, hL, hB, hsz⟩, by have := HM.out; simp [intOf]; omega⟩
    · have hkl2 : ks.length ≤ 14 := by have := hkl.out; have := hk.out; omega
      have hlI : ((k : Int) < (len0 : Int)) = False := eq_false (by omega)
      have HD1 := hide (attrs_dump HG.out hks.out hkl2)
      have HD2 := hide (attrs_bad HG.out hks.out hkl2)
      have HD3 := hide (attrs_items HG.out hks.out hkl2)
      have HI1 : Hid (((⟨(hdT ++ bodyT g ks).toArray⟩ : ByteArray) ++ ⟨#[125]⟩) = ⟨(hdT ++ bodyT g ks ++ [125]).toArray⟩) := dataEq (by simp)
      have HI2 : Hid (((⟨(hdT ++ bodyT g ks).toArray⟩ : ByteArray) ++ ⟨g.toArray⟩ ++ ⟨#[112, 97, 103, 101, 32, 125]⟩) = ⟨(hdT ++ bodyT g ks ++ (g ++ [112, 97, 103, 101, 32, 125])).toArray⟩) := dataEq (by simp)
      have HI3 : Hid (((⟨#[110, 101, 116, 119, 111, 114, 107, 59]⟩ : ByteArray) ++ ⟨(hdT ++ bodyT g ks).toArray⟩ ++ ⟨#[125]⟩) = ⟨([110, 101, 116, 119, 111, 114, 107, 59] ++ (hdT ++ bodyT g ks ++ [125])).toArray⟩) := dataEq (by simp)
      have HW : Hid (((⟨(hdW ++ wantT ks).toArray⟩ : ByteArray) ++ ⟨#[10]⟩) = ⟨(hdW ++ wantT ks ++ [10]).toArray⟩) := dataEq (by simp)
      have hs1 : Hid ((hdT ++ bodyT g ks ++ [125]).length < 4294967281) := by unfold Hid; rw [List.length_append (bs := [125])]; show _ + 1 < _; omega
      have hs2 : Hid ((hdT ++ bodyT g ks ++ (g ++ [112, 97, 103, 101, 32, 125])).length < 4294967281) := by unfold Hid; rw [List.length_append (bs := g ++ _), List.length_append (bs := [112, 97, 103, 101, 32, 125])]; show _ + (_ + 6) < _; omega
      have hs3 : Hid (([110, 101, 116, 119, 111, 114, 107, 59] ++ (hdT ++ bodyT g ks ++ [125])).length < 4294967281) := by unfold Hid; rw [List.length_append (bs := hdT ++ bodyT g ks ++ [125]), List.length_append (bs := [125])]; show 8 + (_ + 1) < _; omega
      obtain ⟨P, HP⟩ := HD2.out
      have HD2 := hide HP
      clear HP hL hlt hk hkl hks h14 h14' HRow
      generalize [110, 101, 116, 119, 111, 114, 107, 59] ++ (hdT ++ bodyT g ks ++ [125]) = t3 at *
      generalize hdT ++ bodyT g ks ++ (g ++ [112, 97, 103, 101, 32, 125]) = t2 at *
      generalize hdT ++ bodyT g ks ++ [125] = t1 at *
      generalize hdW ++ wantT ks ++ [10] = ow at *
      generalize hdT ++ bodyT g ks = sx at *
      generalize hdW ++ wantT ks = wx at *
      go_wp2_with fail
      rw [HI1.out]
      refine (OK.out.dump t1 _ hs1.out).mono ?_
      rintro e w2 ⟨hb2, rfl⟩
      rw [HD1.out]
      have B2 := hide (hB.out.trans (hb2.mono hB.out.size))
      clear hb2 hB HD1
      go_upto_region 13 with fail
      obtain ⟨W3, hW3⟩ : ∃ W3, W3 = w2.alloc (Obj.cells #[.int .i64 0, .int .i64 0] 25) := ⟨_, rfl⟩
      have b3 : Below w2.heap.size w2 W3 := by rw [hW3]; exact (Below.refl _ _).alloc (Nat.le_refl _) _
      have R3 : Hid (WB W3 w2.heap.size 0 0) := by unfold Hid; rw [hW3]; exact WB.new w2 0 0 25
      rw [← hW3]
      have B3 := hide (B2.out.trans (b3.mono B2.out.size))
      clear b3 hW3 B2
      go_wp2_with fail
      rw [HI2.out]
      refine (OK.out.dump t2 _ hs2.out).mono ?_
      rintro e w4 ⟨hb4, rfl⟩
      rw [HD2.out]
      have B4 := hide (B3.out.trans (hb4.mono B3.out.size))
      have R4 := hide (R3.out.keep hb4)
      clear hb4 B3 R3 HD2
      go_upto_region 14 with fail
      obtain ⟨W5, hW5⟩ : ∃ v, v = w4.alloc (Obj.cells #[.int .i64 4, .int .i64 P] 25) := ⟨_, rfl⟩
      have b5 : Below w4.heap.size w4 W5 := by rw [hW5]; exact (Below.refl _ _).alloc (Nat.le_refl _) _
      have S5 : Hid (WB W5 w4.heap.size 4 P) := by unfold Hid; rw [hW5]; exact WB.new w4 4 P 25
      rw [← hW5]
      have B5 := hide (B4.out.trans (b5.mono B4.out.size))
      have R5 := hide (R4.out.keep b5)
      clear b5 hW5 B4 R4
      go_wp2_with fail
      rw [HI3.out]
      refine (OK.out.items t3 _ hs3.out).mono ?_
      rintro e w6 ⟨hb6, ao, cap, rfl, hI⟩
      rw [HD3.out] at hI ⊢
      have B6 := hide (B5.out.trans (hb6.mono B5.out.size))
      have R6 := hide (R5.out.keep hb6)
      have S6 := hide (S5.out.keep hb6)
      have I6 := hide hI
      clear hb6 R5 B5 S5 hI HD3
      go_upto_region 15 with fail
      obtain ⟨W7, hW7⟩ : ∃ v, v = w6.alloc (Obj.cells #[.int .i64 0, .int .i64 0] 25) := ⟨_, rfl⟩
      have b7 : Below w6.heap.size w6 W7 := by rw [hW7]; exact (Below.refl _ _).alloc (Nat.le_refl _) _
      rw [← hW7]
      have B7 := hide (B6.out.trans (b7.mono B6.out.size))
      have R7 := hide (R6.out.keep b7)
      have S7 := hide (S6.out.keep b7)
      have I7 := hide (I6.out.keep b7)
      clear b7 hW7 B6 R6 S6 I6
      have r0 := R7.out.c0
      have s0 := S7.out.c0
      have hl1 := R7.out.lt
      have hl2 := S7.out.lt
      have ho := HW.out
      have hoo : (ow == ow) = true := by simp
      go_wp2_with fail
      refine (ah8 ao _ _ W7 I7.out _).mono ?_
      rintro e w8 ⟨rfl, hb8⟩
      have B8 := hide (B7.out.trans (hb8.mono B7.out.size))
      clear hb8
      go_wp2_with fail
      refine (XA.out _).mono ?_
      rintro e w9 ⟨rfl, hb9⟩
      have B9 := hide (B8.out.trans (hb9.mono B8.out.size))
      clear hb9
      go_wp2_with fail
      go_ret
      exact ⟨rfl, B9.out⟩
end Go.Proofs.Ytilfdbkceiejgaa

/- Whatever it is handed, moatlaw10.SynAttrs answers true and leaves its arguments as they read before: the row of SynAttrs is proved. Conditions: those of the row alone. -/
namespace Go.Proofs.Ytilfdbkceiejgaa
open Go.ChangeShapes Go.WideShapes Go.ChangeAt Go.RowKit Go.Proofs.Url

set_option maxRecDepth 100000 in
theorem synAttrs_contract (H : Type) (enc : TypeId × Value → H) (W : World) (base : Nat) (args : Array Value) (ds gs : List (DataW H)) (before : List MemPlace)
    (hval : ∀ (j : Nat) t v, Try.f8.params[j]? = some t → args[j]? = some v → Value.okWide Try.prog W .any base t v)
    (hW : DataW.Whole enc Try.prog Try.f8.params.toList Rows.synAttrsSpec.vars false W args.toList ds gs before) (_henv : Env W) :
    Calls Try.prog 8 args W fun e W' => ∃ v, e = .returned v ∧ Rows.synAttrsSpec.post enc Try.prog Try.f8 false true false false W args v W' := by
  have hW' := hW
  obtain ⟨p, q, hA0, hV, rfl, hfz, hnd⟩ := hW
  have hA : DataW.TrodAll enc Try.prog W 0 (fun _ => true) true Try.f8.params.toList args.toList ds p := hA0
  rw [Try.params8] at hA hval
  obtain ⟨v0, vs0, d0, ds0, p0, q0, hargs, rfl, rfl, h0, r0⟩ := trodAll_cons hA
  obtain ⟨v1, vs1, d1, ds1, p1, q1, rfl, rfl, rfl, h1, r1⟩ := trodAll_cons r0
  obtain ⟨rfl, rfl, rfl⟩ := trodAll_nil r1
  obtain rfl : args = #[v0, v1] := by cases args; simp_all
  obtain ⟨rfl, rfl⟩ := trodVars_none hV
  obtain ⟨a0, len0, cap0, rfl⟩ := okWide_slice Try.underlying28 (hval 0 28 v0 rfl rfl)
  have k0 := h0
  have lt0 : ∀ x ∈ p0, x.block < W.heap.size := by obtain ⟨m, hm⟩ := k0; exact DataW.trod_lt m _ _ _ hm
  obtain ⟨z0, hrow0, hlen0⟩ := row_of h0
  obtain ⟨x1, rfl, rfl, rfl, w1⟩ := open_int Try.underlying3 (hval 1 3 v1 rfl rfl) h1
  clear hA0
  refine (synAttrs_walk syn_ok a0 len0 cap0 z0 x1 W hrow0).mono fun e W' ⟨he, bel⟩ => ?_
  subst he
  exact ⟨_, rfl, _, _, _, [], _, [], hW', trodAll_mk1 (shut_bool Try.underlying4 _), (trodAll_cons_mk (Below.trod laid_out (by kernel_rfl) (of_decide_eq_true (by kernel_rfl)) k0 bel lt0) (trodAll_cons_mk (shut_int Try.underlying3 w1) trodAll_mk0)), rfl, bel.frame _, fun h => by cases h⟩

theorem synAttrs_laid (os : Os) : laidMet Try.prog Rows.synAttrsRow.laid (({ World.holding Try.prog os ⟨#[], #[], []⟩ with heap := layAll (World.holding Try.prog os ⟨#[], #[], []⟩).heap } : World).forCall (fun _ _ => 0) ⟨#[], #[.slice none 0 0, .int .i64 0], []⟩).memory :=
  laidMet_of_run' 8 (by kernel_rfl) (by kernel_rfl)
theorem synAttrs_reads (os : Os) {H : Type} (enc : TypeId × Value → H) : ∃ places, DataW.whole enc Try.prog (({ World.holding Try.prog os ⟨#[], #[], []⟩ with heap := layAll (World.holding Try.prog os ⟨#[], #[], []⟩).heap } : World).forCall (fun _ _ => 0) ⟨#[], #[.slice none 0 0, .int .i64 0], []⟩).memory Try.f8.params.toList Rows.synAttrsSpec.vars false #[Value.slice none 0 0, .int .i64 0].toList 8 = some ([.nil, .lit (.int .i64 0)], [], places) :=
  ⟨[], by kernel_rfl⟩

set_option maxRecDepth 100000 in
theorem synAttrs_lifted (os : Os) (started : os.Started) (H : Type) (enc : TypeId × Value → H) (F : Stop.Interp) :
    ReturnsInHanded {} Try.checked os 8 .any ((OpenSpec.ofChange Rows.synAttrsSpec).preRow enc Try.prog Try.f8 Rows.synAttrsRow.domain false Rows.synAttrsRow.laid) (((OpenSpec.ofChange Rows.synAttrsSpec).at F).post enc Try.prog Try.f8 false true false false) := by
  obtain ⟨places, hx⟩ := synAttrs_reads os enc
  refine returnsInHanded_of_row (C := Try.checked) (s := OpenSpec.ofChange Rows.synAttrsSpec) own_knob started (by kernel_rfl) Try.func8
    (witness_row_at (enc := enc) (C := Try.checked) false { World.holding Try.prog os ⟨#[], #[], []⟩ with heap := layAll (World.holding Try.prog os ⟨#[], #[], []⟩).heap } #[.slice none 0 0, .int .i64 0] rfl (by kernel_rfl) (by kernel_rfl) (by kernel_rfl)
      (OpenSpec.preRow_of_cond 8 hx (by kernel_rfl) (fun k hk => by cases hk) (by kernel_rfl) (synAttrs_laid os))) ?_
  intro W base args ds gs before hval hW _ _ _ hL hS _
  exact synAttrs_contract H enc W base args ds gs before hval hW (env_of hL hS)

theorem synAttrs_said : Rows.SynAttrsSaid :=
  OpenClaim.holds_of_cond 8 Try.f8 rfl rfl rfl rfl rfl rfl rfl ⟨rfl, rfl, rfl, rfl, rfl⟩ rfl rfl rfl rfl rfl (by kernel_rfl) Try.func8 (by kernel_rfl)
    (of_decide_eq_true (by kernel_rfl)) (by unfold Func.isWrapper; first | (rw [if_pos (by decide +kernel)]; kernel_rfl) | (rw [if_neg (by decide +kernel)]; exact ⟨rfl, rfl⟩))
    (fun os started H enc _ F => by rw [OpenClaim.pre_eq_preRow]; exact synAttrs_lifted os started H enc F)

end Go.Proofs.Ytilfdbkceiejgaa
