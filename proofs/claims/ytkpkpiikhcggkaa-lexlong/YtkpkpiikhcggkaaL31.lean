/- The walk over moatlaw9.LexLong, by what package lex gives. -/
import Derived.Test.YtkpkpiikhcggkaaLx5
import Derived.Test.YtkpkpiikhcggkaaLx9
import Derived.Test.YtkpkpiikhcggkaaLT
import Derived.Test.YtkpkpiikhcggkaaReg
import Derived.BigRegion
import Derived.Deep.RegionWith
import Derived.Deep.DeepCutAuto
namespace Go.Proofs.Ytkpkpiikhcggkaa
open Go.RowKit Go.Proofs.Url

theorem keepc31 {W W' : World} {a : Addr} {v : Value} (hb : Below W.heap.size W W') (h : W.cell? a = some v) : W'.cell? a = some v := by
  rw [hb.cell (World.block_lt_of_cell? W _ h)]; exact h
theorem below_new31 (w : World) (ob : Obj) : Below w.heap.size w (w.alloc ob) := (Below.refl _ _).alloc (Nat.le_refl _) ob
theorem below_drew31 (w : World) : Below w.heap.size w (w.drew) := (Below.refl _ _).drew
theorem some_of31 {o : Option Value} {b : Bool} (h : o.getD undef = .bool b) : o = some (.bool b) := by
  cases o with
  | none => exact absurd h (by simp [undef])
  | some v => rw [show v = .bool b from h]
theorem mostL_at (k : Nat) (h : k < 3) : [Value.int .i64 20, .int .i64 20, .int .i64 200][k] = .int .i64 (mostL k) := by
  match k, h with
  | 0, _ => rfl
  | 1, _ => rfl
  | 2, _ => rfl
theorem cL_at (k : Nat) (h : k < 3) : [Value.string ⟨#[97]⟩, .string ⟨#[65]⟩, .string ⟨#[120]⟩][k] = .string ⟨(cL k).toArray⟩ := by
  match k, h with
  | 0, _ => rfl
  | 1, _ => rfl
  | 2, _ => rfl
theorem kindL_at (k : Nat) (h : k < 3) : [Value.int .i64 1, .int .i64 5, .int .i64 3][k] = .int .i64 (kindL k) := by
  match k, h with
  | 0, _ => rfl
  | 1, _ => rfl
  | 2, _ => rfl
theorem mostL_le (k : Nat) : mostL k ≤ 200 := by
  match k with
  | 0 => decide
  | 1 => decide
  | 2 => decide
  | k + 3 => simp [mostL]

set_option maxHeartbeats 4000000 in
set_option maxRecDepth 100000 in
theorem lexLong_walk (ok : LexOk) (kd lg : Int) (w : World) (henv : Env w) :
    Calls Try.prog 5 #[.int .i64 kd, .int .i64 lg] w fun e w' => e = .returned (.bool true) ∧ Below w.heap.size w w' := by
  have OK := hide ok
  have HE := hide henv
  have XA := hide (fun W hb => awake9_any ok W (henv.keep (w' := W) hb))
  clear ok henv
  have hk : lowT kd 3 < 3 := lowT_lt kd 3 (by decide)
  have hkI : (lowT kd 3 : Int) < 3 := by omega
  have l1 := mostL_at (lowT kd 3) hk
  have hm := mostL_le (lowT kd 3)
  go_enter Try.func5, Try.ntmps5
  go_upto_region 3 with (go_at_call 14; refine (lowT_any _ _ _ (by decide) (by decide)).mono ?_; rintro e w' ⟨rfl, hw'⟩; rw [hw'])
  have b0 : Below w.heap.size w (w.alloc (Obj.cells #[.int .i64 20, .int .i64 20, .int .i64 200] 3)) := (Below.refl _ _).alloc (Nat.le_refl _) _
  have B0 := hide b0
  obtain ⟨W0, hW0⟩ : ∃ W0, W0 = w.alloc (Obj.cells #[.int .i64 20, .int .i64 20, .int .i64 200] 3) := ⟨_, rfl⟩
  rw [← hW0] at B0 ⊢
  clear hW0 b0 l1
  have HT := hide (fun n hn => long_tell (lowT kd 3) n hk hn)
  have l2 := cL_at (lowT kd 3) hk
  generalize lowT kd 3 = k at *
  have hr : lowT lg ((mostL k : Int) + 6) < mostL k + 6 := by
    have := lowT_lt lg (mostL k + 6) (by omega)
    rwa [show ((mostL k + 6 : Nat) : Int) = (mostL k : Int) + 6 by omega] at this
  go_upto_region 5 with (go_at_call 14; refine (lowT_any _ _ _ (by omega) (by omega)).mono ?_; rintro e w' ⟨rfl, hw'⟩; rw [hw'])
  generalize lowT lg ((mostL k : Int) + 6) = r at *
  have HT2 := hide (HT.out r hr)
  have hrl := hide (rowL_len k hk)
  have hcl := cL_len k hk
  clear HT
  go_wp2_with fail
  go_loopw [7, 8] (fun sv iv W => ∃ j : Nat, j ≤ r + 1 ∧ iv = .int .i64 j ∧ sv = .string ⟨(rowL k j).toArray⟩ ∧ Hid (Below w.heap.size w W)) (fun _ iv _ => r + 1 - (intOf iv).toNat)
  case atStart => exact ⟨0, Nat.zero_le _, rfl, rfl, B0⟩
  case round =>
    obtain ⟨j, hj, rfl, rfl, hB⟩ := hrel
    by_cases hlt : j < r + 1
    · have hlI : (j : Int) < 1 + (r : Int) := by omega
      have hsz := hB.out.size
      have hsum : ((⟨(rowL k j).toArray⟩ : ByteArray) ++ ⟨(cL k).toArray⟩) = ⟨(rowL k (j + 1)).toArray⟩ := dataEq (by rw [rowL_next]; simp)
      have hl1 : (rowL k j).length ≤ 300 := by rw [hrl.out]; omega
      have HSm := hide hsum
      clear hsum
      generalize rowL k j = rj at *
      generalize cL k = ck at *
      go_wp2_with fail
      exact ⟨⟨j + 1, by omega, by go_num, congrArg Value.string HSm.out, hB.out.alloc hsz _⟩, by simp [intOf]; omega⟩
    · have hjr : j = r + 1 := by omega
      have hlI : ¬ (j : Int) < 1 + (r : Int) := by omega
      have HTx : Hid (textL k (r + 1) = if k = 2 then 34 :: (rowL k j ++ [34]) else rowL k j) := by unfold Hid textL; rw [hjr]
      have HIn : Hid (((⟨#[32]⟩ : ByteArray) ++ ⟨(textL k (r + 1)).toArray⟩ ++ ⟨#[32, 59]⟩) = ⟨(longIn k (r + 1)).toArray⟩) := dataEq (by unfold longIn; simp)
      have hl1 : (rowL k j).length ≤ 300 := by rw [hrl.out]; omega
      have hl2 : (textL k (r + 1)).length ≤ 302 := by
        rw [HTx.out]; split
        · simp; omega
        · omega
      have hil : (longIn k (r + 1)).length < 4294967281 := by unfold longIn; simp; omega
      have HS : Hid (rowL k (r + 1) = rowL k j) := by rw [hjr]; rfl
      rw [HS.out] at HT2
      clear hjr HS hrl
      generalize longIn k (r + 1) = inp at *
      generalize textL k (r + 1) = tx at *
      generalize rowL k j = rj at *
      go_upto_if 36 with fail
      go_cut [9] (fun v W => v = .string ⟨tx.toArray⟩ ∧ W = wr)
      case first => as_aux_lemma =>
        by_cases h2 : k = 2
        · have e1 : ((k : Int) == 2) = true := beq_iff_eq.2 (by omega)
          have HX : Hid (tx = 34 :: (rj ++ [34])) := by unfold Hid; rw [HTx.out, if_pos h2]
          clear h2
          go_wp2_with fail
          go_meet
          case rel => exact ⟨congrArg Value.string (dataEq (by rw [HX.out]; simp)), rfl⟩
        · have e1 : ((k : Int) == 2) = false := beq_eq_false_iff_ne.2 (by omega)
          have HX : Hid (tx = rj) := by unfold Hid; rw [HTx.out, if_neg h2]
          clear h2
          go_wp2_with fail
          go_meet
          case rel => exact ⟨by rw [HX.out], rfl⟩
      case rest =>
      obtain ⟨rfl, hwc⟩ := hcut
      subst hwc
      go_wp2_with fail
      rw [HIn.out]
      by_cases hm1 : mostL k < r + 1
      · have i3 : (mostL k : Int) < 1 + (r : Int) := by omega
        have HB : toksS inp = .bad 6 1 := by rw [HT2.out, if_pos hm1]
        refine (OK.out.bad HB _ (HE.out.keep hB.out) hil).mono ?_
        rintro e w2 ⟨ao, cap, rfl, hb2⟩
        have b3 : Below w2.heap.size w2 (w2.alloc (Obj.cells #[.int .i64 6, .int .i64 1] 26)) := (Below.refl _ _).alloc (Nat.le_refl _) _
        have B2 := hide (hB.out.trans (hb2.mono hB.out.size))
        have B3 := hide (B2.out.trans (b3.mono B2.out.size))
        clear hb2 b3 HB HT2 B2 hm1
        go_wp2_with fail
        refine (XA.out _ B3.out).mono ?_
        rintro e w4 ⟨rfl, hb4⟩
        have B4 := hide (B3.out.trans (hb4.mono B3.out.size))
        clear hb4
        go_wp2_with fail
        go_ret
        exact ⟨rfl, B4.out⟩
      · have i3 : ¬ (mostL k : Int) < 1 + (r : Int) := by omega
        have HB : toksS inp = .ok [⟨kindL k, 1, rj⟩, ⟨4, tx.length + 2, [59]⟩] := by rw [HT2.out, if_neg hm1]
        refine (OK.out.good HB _ (HE.out.keep hB.out) hil).mono ?_
        rintro e w2 ⟨ao, cap, rfl, hT, hb2⟩
        have b3 : Below w2.heap.size w2 (w2.alloc (Obj.cells #[.int .i64 0, .int .i64 0] 26)) := (Below.refl _ _).alloc (Nat.le_refl _) _
        have B2 := hide (hB.out.trans (hb2.mono hB.out.size))
        have B3 := hide (B2.out.trans (b3.mono B2.out.size))
        have T3 := hide (hT.keep b3)
        clear hb2 HB HT2 B2 hm1 hT
        go_upto_region 15 with fail
        obtain ⟨W3, hW3⟩ : ∃ W3, W3 = w2.alloc (Obj.cells #[.int .i64 0, .int .i64 0] 26) := ⟨_, rfl⟩
        have R3 : Hid (WB W3 w2.heap.size 0 0) := by unfold Hid; rw [hW3]; exact WB.new w2 0 0 26
        rw [← hW3] at B3 T3 ⊢
        clear hW3 b3
        obtain ⟨ga, rfl, hga, x1, x2, x3⟩ := T3.out 0 (by simp)
        simp only [List.getElem_cons_zero] at x1 x2 x3
        have r0 := R3.out.c0
        have r1 := R3.out.c1
        have hrl2 := R3.out.lt
        have kl := kindL_at k hk
        have hrr : (rj == rj) = true := by simp
        have hkk : ((kindL k : Int) == (kindL k : Int)) = true := by simp
        generalize kindL k = kk at *
        clear HTx HIn hm hr hcl hj hlt hil hl1 hl2 hlI T3 R3
        have C0 := r0
        refine wp_region_posts (l := [_, _, _, _, _, _, _, _, _, _, _, _, _, _, _, _, _, _, _, _, _, _, _, _]) (by kernel_rfl) (fun W => Below W3.heap.size W3 W) (fun W W' => Below W.heap.size W W')
          [some 61, some 62, some 63, some 64, some 65, some 66, some 67, some 68, some 69, some 70, some 71, some 72, some 73, some 74, some 75, some 76, some 77, some 78, some 79, some 80, some 81, some 82, some 83, some 4]
          [[], [0], [1], [2], [3], [3, 4], [3, 5], [3, 6], [7], [8], [8, 9], [8, 10], [8], [8], [8, 12, 13], [8, 14], [8], [8, 15, 16], [8, 11, 17], [8, 18], [19], [20], [20, 21], [22]]
          [fun v _ => v = .pointer (some ⟨w2.heap.size, 0, none⟩),
   fun v _ => v = .int .i64 0,
   fun v _ => v = .bool true,
   fun v _ => v = .bool true,
   fun v _ => v = .slice (some ⟨ga, 0, none⟩) 2 cap,
   fun v _ => v = .int .i64 2,
   fun v _ => v = .bool true,
   fun v _ => v = .bool true,
   fun v _ => v = .bool true,
   fun v _ => v = .slice (some ⟨ga, 0, none⟩) 2 cap,
   fun v _ => v = .pointer (some ⟨ga, 0, none⟩),
   fun v _ => v = .agg #[.int .i64 kk, .int .i64 1, .string ⟨rj.toArray⟩],
   fun v W => ∃ b : Nat, v = .slice (some ⟨b, 0, none⟩) 3 3 ∧ W.cell? ⟨b, k, none⟩ = some (.int .i64 kk),
   fun v _ => v = .int .i64 k,
   fun v W => ∃ b : Nat, v = .pointer (some ⟨b, k, none⟩) ∧ W.cell? ⟨b, k, none⟩ = some (.int .i64 kk),
   fun v _ => v = .int .i64 kk,
   fun v _ => v = .string ⟨rj.toArray⟩,
   fun v _ => v = .agg #[.int .i64 kk, .int .i64 1, .string ⟨rj.toArray⟩],
   fun v _ => v = .bool true,
   fun v _ => v = .bool true,
   fun v _ => v = .bool true,
   fun v _ => v = .bool true,
   fun v _ => v = .bool true,
   fun v _ => v = .bool true]
          rfl (by kernel_rfl) (by kernel_rfl) (by kernel_rfl) (by kernel_rfl) ?_ ?_ ?_ ?_
        · refine .eq (.eq (.eq (.eq (.eq (.eq (.eq (.eq (.eq (.eq (.eq (.eq (.cons ?_ (.eq (.cons ?_ (.eq (.eq (.eq (.eq (.eq (.eq (.eq (.eq (.eq (.nil))))))))))))))))))))))))
          · exact fun v w w' _ hk ⟨b, h1, h2⟩ => ⟨b, h1, keepc31 hk h2⟩
          · exact fun v w w' _ hk ⟨b, h1, h2⟩ => ⟨b, h1, keepc31 hk h2⟩
        · exact below_drew31 _
        · refine .cons ?_ (.cons ?_ (.cons ?_ (.cons ?_ (.cons ?_ (.cons ?_ (.cons ?_ (.cons ?_ (.cons ?_ (.cons ?_ (.cons ?_ (.cons ?_ (.cons ?_ (.cons ?_ (.cons ?_ (.cons ?_ (.cons ?_ (.cons ?_ (.cons ?_ (.cons ?_ (.cons ?_ (.cons ?_ (.cons ?_ (.cons ?_ (.nil))))))))))))))))))))))))
          all_goals intro A W hC old nd
          · refine runs_none rfl ?_
            have e11 : (A.tmps[11]?).getD undef = .pointer (some ⟨w2.heap.size, 0, none⟩) := old 11 (by kernel_rfl)
            simp [Oper.gives, gives, go_sem, e11]
            exact ⟨hC, Below.refl _ _, rfl⟩
          · refine runs_none rfl ?_
            obtain ⟨n0, _⟩ := nd
            replace n0 : (A.tmps[61]?).getD undef = .pointer (some ⟨w2.heap.size, 0, none⟩) := n0
            have c0 := keepc31 hC C0
            simp [Oper.gives, gives, go_sem, n0, c0]
            exact ⟨hC, Below.refl _ _, rfl⟩
          · refine runs_none rfl ?_
            obtain ⟨n1, _⟩ := nd
            replace n1 : (A.tmps[62]?).getD undef = .int .i64 0 := n1
            simp [Oper.gives, gives, go_sem, n1]
            exact ⟨hC, Below.refl _ _, rfl⟩
          · refine runs_none rfl ?_
            obtain ⟨n2, _⟩ := nd
            replace n2 : (A.tmps[63]?).getD undef = .bool true := n2
            simp [Oper.gives, gives, go_sem, n2]
            exact ⟨hC, Below.refl _ _, rfl⟩
          · skip
            obtain ⟨n3, _⟩ := nd
            replace n3 : (A.tmps[64]?).getD undef = .bool true := n3
            have g3 := some_of31 n3
            have e10 : (A.tmps[10]?).getD undef = .slice (some ⟨ga, 0, none⟩) 2 cap := old 10 (by kernel_rfl)
            simp [runs, Region.wanted, yielded, Oper.gives, gives, go_sem, g3, e10]
            exact ⟨hC, Below.refl _ _, rfl⟩
          · skip
            obtain ⟨n3, n4, _⟩ := nd
            replace n3 : (A.tmps[64]?).getD undef = .bool true := n3
            have g3 := some_of31 n3
            replace n4 : (A.tmps[65]?).getD undef = .slice (some ⟨ga, 0, none⟩) 2 cap := n4
            simp [runs, Region.wanted, yielded, Oper.gives, gives, go_sem, g3, n4]
            exact ⟨hC, Below.refl _ _, rfl⟩
          · skip
            obtain ⟨n3, n5, _⟩ := nd
            replace n3 : (A.tmps[64]?).getD undef = .bool true := n3
            have g3 := some_of31 n3
            replace n5 : (A.tmps[66]?).getD undef = .int .i64 2 := n5
            simp [runs, Region.wanted, yielded, Oper.gives, gives, go_sem, g3, n5]
            exact ⟨hC, Below.refl _ _, rfl⟩
          · refine runs_none rfl ?_
            obtain ⟨n3, n6, _⟩ := nd
            replace n3 : (A.tmps[64]?).getD undef = .bool true := n3
            replace n6 : (A.tmps[67]?).getD undef = .bool true := n6
            simp [Oper.gives, gives, go_sem, n3, n6]
            exact ⟨hC, Below.refl _ _, rfl⟩
          · refine runs_none rfl ?_
            obtain ⟨n7, _⟩ := nd
            replace n7 : (A.tmps[68]?).getD undef = .bool true := n7
            simp [Oper.gives, gives, go_sem, n7]
            exact ⟨hC, Below.refl _ _, rfl⟩
          · skip
            obtain ⟨n8, _⟩ := nd
            replace n8 : (A.tmps[69]?).getD undef = .bool true := n8
            have g8 := some_of31 n8
            have e10 : (A.tmps[10]?).getD undef = .slice (some ⟨ga, 0, none⟩) 2 cap := old 10 (by kernel_rfl)
            simp [runs, Region.wanted, yielded, Oper.gives, gives, go_sem, g8, e10]
            exact ⟨hC, Below.refl _ _, rfl⟩
          · skip
            obtain ⟨n8, n9, _⟩ := nd
            replace n8 : (A.tmps[69]?).getD undef = .bool true := n8
            have g8 := some_of31 n8
            replace n9 : (A.tmps[70]?).getD undef = .slice (some ⟨ga, 0, none⟩) 2 cap := n9
            simp [runs, Region.wanted, yielded, Oper.gives, gives, go_sem, g8, n9]
            exact ⟨hC, Below.refl _ _, rfl⟩
          · skip
            obtain ⟨n8, n10, _⟩ := nd
            replace n8 : (A.tmps[69]?).getD undef = .bool true := n8
            have g8 := some_of31 n8
            replace n10 : (A.tmps[71]?).getD undef = .pointer (some ⟨ga, 0, none⟩) := n10
            have y1 := keepc31 hC x1
            have y2 := keepc31 hC x2
            have y3 := keepc31 hC x3
            simp [runs, Region.wanted, yielded, Oper.gives, gives, go_sem, g8, n10, y1, y2, y3]
            exact ⟨hC, Below.refl _ _, rfl⟩
          · skip
            obtain ⟨n8, _⟩ := nd
            replace n8 : (A.tmps[69]?).getD undef = .bool true := n8
            have g8 := some_of31 n8
            simp [runs, Region.wanted, yielded, Oper.gives, gives, go_sem, g8]
            exact ⟨hC.alloc hC.size _, below_new31 _ _, _, rfl, by simp [kl, hk]⟩
          · skip
            obtain ⟨n8, _⟩ := nd
            replace n8 : (A.tmps[69]?).getD undef = .bool true := n8
            have g8 := some_of31 n8
            have e5 : (A.tmps[5]?).getD undef = .int .i64 k := old 5 (by kernel_rfl)
            simp [runs, Region.wanted, yielded, Oper.gives, gives, go_sem, g8, e5]
            exact ⟨hC, Below.refl _ _, rfl⟩
          · skip
            obtain ⟨n8, ⟨b, n12, hb⟩, n13, _⟩ := nd
            replace n8 : (A.tmps[69]?).getD undef = .bool true := n8
            have g8 := some_of31 n8
            replace n12 : (A.tmps[73]?).getD undef = .slice (some ⟨b, 0, none⟩) 3 3 := n12
            replace n13 : (A.tmps[74]?).getD undef = .int .i64 k := n13
            simp [runs, Region.wanted, yielded, Oper.gives, gives, go_sem, g8, n12, n13, hkI]
            exact ⟨hC, Below.refl _ _, b, rfl, hb⟩
          · skip
            obtain ⟨n8, ⟨b, n14, hb⟩, _⟩ := nd
            replace n8 : (A.tmps[69]?).getD undef = .bool true := n8
            have g8 := some_of31 n8
            replace n14 : (A.tmps[75]?).getD undef = .pointer (some ⟨b, k, none⟩) := n14
            simp [runs, Region.wanted, yielded, Oper.gives, gives, go_sem, g8, n14, hb]
            exact ⟨hC, Below.refl _ _, rfl⟩
          · skip
            obtain ⟨n8, _⟩ := nd
            replace n8 : (A.tmps[69]?).getD undef = .bool true := n8
            have g8 := some_of31 n8
            have e7 : (A.tmps[7]?).getD undef = .string ⟨rj.toArray⟩ := old 7 (by kernel_rfl)
            simp [runs, Region.wanted, yielded, Oper.gives, gives, go_sem, g8, e7]
            exact ⟨hC, Below.refl _ _, rfl⟩
          · skip
            obtain ⟨n8, n15, n16, _⟩ := nd
            replace n8 : (A.tmps[69]?).getD undef = .bool true := n8
            have g8 := some_of31 n8
            replace n15 : (A.tmps[76]?).getD undef = .int .i64 kk := n15
            replace n16 : (A.tmps[77]?).getD undef = .string ⟨rj.toArray⟩ := n16
            simp [runs, Region.wanted, yielded, Oper.gives, gives, go_sem, g8, n15, n16]
            exact ⟨hC, Below.refl _ _, rfl⟩
          · skip
            obtain ⟨n8, n11, n17, _⟩ := nd
            replace n8 : (A.tmps[69]?).getD undef = .bool true := n8
            have g8 := some_of31 n8
            replace n11 : (A.tmps[72]?).getD undef = .agg #[.int .i64 kk, .int .i64 1, .string ⟨rj.toArray⟩] := n11
            replace n17 : (A.tmps[78]?).getD undef = .agg #[.int .i64 kk, .int .i64 1, .string ⟨rj.toArray⟩] := n17
            simp [runs, Region.wanted, yielded, Oper.gives, gives, go_sem, g8, n11, n17]
            exact ⟨hC, Below.refl _ _, rfl⟩
          · refine runs_none rfl ?_
            obtain ⟨n8, n18, _⟩ := nd
            replace n8 : (A.tmps[69]?).getD undef = .bool true := n8
            replace n18 : (A.tmps[79]?).getD undef = .bool true := n18
            simp [Oper.gives, gives, go_sem, n8, n18]
            exact ⟨hC, Below.refl _ _, rfl⟩
          · refine runs_none rfl ?_
            obtain ⟨n19, _⟩ := nd
            replace n19 : (A.tmps[80]?).getD undef = .bool true := n19
            simp [Oper.gives, gives, go_sem, n19]
            exact ⟨hC, Below.refl _ _, rfl⟩
          · skip
            obtain ⟨n20, _⟩ := nd
            replace n20 : (A.tmps[81]?).getD undef = .bool true := n20
            have g20 := some_of31 n20
            simp [runs, Region.wanted, yielded, Oper.gives, gives, go_sem, g20]
            exact (XA.out W (B3.out.trans (hC.mono B3.out.size))).mono (by rintro e w' ⟨rfl, hb⟩; exact ⟨_, rfl, hC.trans (hb.mono hC.size), hb, rfl⟩)
          · refine runs_none rfl ?_
            obtain ⟨n20, n21, _⟩ := nd
            replace n20 : (A.tmps[81]?).getD undef = .bool true := n20
            replace n21 : (A.tmps[82]?).getD undef = .bool true := n21
            simp [Oper.gives, gives, go_sem, n20, n21]
            exact ⟨hC, Below.refl _ _, rfl⟩
          · refine runs_none rfl ?_
            obtain ⟨n22, _⟩ := nd
            replace n22 : (A.tmps[83]?).getD undef = .bool true := n22
            simp [Oper.gives, gives, go_sem, n22]
            exact ⟨hC, Below.refl _ _, rfl⟩
        · intro W hC E hE
          refine .cons fun v61 h61 => .cons fun v62 h62 => .cons fun v63 h63 => .cons fun v64 h64 => .cons fun v65 h65 => .cons fun v66 h66 => .cons fun v67 h67 => .cons fun v68 h68 => .cons fun v69 h69 => .cons fun v70 h70 => .cons fun v71 h71 => .cons fun v72 h72 => .cons fun v73 h73 => .cons fun v74 h74 => .cons fun v75 h75 => .cons fun v76 h76 => .cons fun v77 h77 => .cons fun v78 h78 => .cons fun v79 h79 => .cons fun v80 h80 => .cons fun v81 h81 => .cons fun v82 h82 => .cons fun v83 h83 => .cons fun v4 h4 => .nil ?_
          subst h4
          clear h61 h62 h63 h64 h65 h66 h67 h68 h69 h70 h71 h72 h73 h74 h75 h76 h77 h78 h79 h80 h81 h82 h83 C0 x1 x2 x3 r0 r1
          have HR := hide (B3.out.trans (hC.mono B3.out.size))
          clear hC kl
          simp only [Act.put, List.setIfInBounds_toArray, List.set_cons_zero, List.set_cons_succ]
          refine hE _ ?_
          go_wp2_with fail
          go_ret
          exact ⟨rfl, HR.out⟩
end Go.Proofs.Ytkpkpiikhcggkaa
