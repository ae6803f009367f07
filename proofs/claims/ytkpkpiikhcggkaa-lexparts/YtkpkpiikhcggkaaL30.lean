/- The walk over moatlaw9.LexParts, by what package lex gives. -/
import Derived.Test.YtkpkpiikhcggkaaL29
import Derived.Test.YtkpkpiikhcggkaaLx8
import Derived.Test.YtkpkpiikhcggkaaLT
namespace Go.Proofs.Ytkpkpiikhcggkaa
open Go.RowKit Go.Proofs.Url

theorem seps9_at (r : Nat) (h : r < 4) : [Value.string ⟨#[32]⟩, .string ⟨#[10]⟩, .string ⟨#[35, 32, 120, 32, 34, 32, 123, 10]⟩, .string ⟨#[9, 13]⟩][r] = .string ⟨(seps9.getD r []).toArray⟩ := by
  match r, h with
  | 0, _ => rfl
  | 1, _ => rfl
  | 2, _ => rfl
  | 3, _ => rfl
theorem seps9_len (r : Nat) : (seps9.getD r []).length ≤ 8 := by
  match r with
  | 0 => decide
  | 1 => decide
  | 2 => decide
  | 3 => decide
  | r + 4 => simp [seps9]
theorem pre_ext {s t : List UInt8} {a : Nat} (h : t <+: s.drop a) : (⟨s.toArray⟩ : ByteArray).extract a (a + t.length) = ⟨t.toArray⟩ := by
  refine dataEq ?_
  rw [Lib.extract_data]
  obtain ⟨r, hr⟩ := h
  simp only
  rw [show a + t.length - a = t.length by omega, ← hr, List.take_left]

theorem kt_at {us ts : List Tk} (h : us.map kt = ts.map kt) (q : Nat) (h1 : q < us.length) (h2 : q < ts.length) : us[q].kind = ts[q].kind ∧ us[q].text = ts[q].text := by
  have e : (us.map kt)[q]? = (ts.map kt)[q]? := by rw [h]
  rw [List.getElem?_map, List.getElem?_map, List.getElem?_eq_getElem h1, List.getElem?_eq_getElem h2] at e
  simp only [Option.map_some, Option.some.injEq, kt, Prod.mk.injEq] at e
  exact e

set_option maxHeartbeats 4000000 in
set_option maxRecDepth 100000 in
theorem lexParts_walk (ok : LexOk) (s : List UInt8) (gp : Int) (w : World) (henv : Env w) (hs : s.length ≤ maxLen) :
    Calls Try.prog 4 #[.string ⟨s.toArray⟩, .int .i64 gp] w fun e w' => e = .returned (.bool true) ∧ Below w.heap.size w w' := by
  have OK := hide ok
  have HE := hide henv
  have XA := hide (fun W hb => awake9_any ok W (henv.keep (w' := W) hb))
  clear ok henv
  unfold maxLen at hs
  by_cases h2 : 600 < s.length
  · have i2 : (600 : Int) < (s.length : Int) := by omega
    clear h2
    go_enter Try.func4, Try.ntmps4
    go_wp2_with fail
    refine (XA.out _ (Below.refl _ _)).mono ?_
    rintro e w1 ⟨rfl, hb1⟩
    go_wp2_with fail
    go_ret
    exact ⟨rfl, hb1⟩
  have i2 : ¬ (600 : Int) < (s.length : Int) := by omega
  have h3 : s.length ≤ 600 := by omega
  clear hs h2
  go_enter Try.func4, Try.ntmps4
  go_wp2_with fail
  refine (OK.out.toks s _ HE.out (by omega)).mono ?_
  rintro e w1 ⟨ao, ca, ts, c, p, rfl, hown, ht, hb1⟩
  rcases ht with ⟨ht, rfl, rfl⟩ | ⟨ht, rfl⟩
  rotate_left
  · have hc := toksS_badc ht
    have e1 : ((c : Int) == 0) = false := beq_eq_false_iff_ne.2 (by omega)
    have e3 : ((c : Int) != 0) = true := bne_iff_ne.2 (by omega)
    have b2 : Below w1.heap.size w1 (w1.alloc (Obj.cells #[.int .i64 c, .int .i64 p] 26)) := (Below.refl _ _).alloc (Nat.le_refl _) _
    have B2 := hide (hb1.trans (b2.mono hb1.size))
    clear hown hb1 b2 ht
    go_wp2_with fail
    refine (XA.out _ B2.out).mono ?_
    rintro e w3 ⟨rfl, hb3⟩
    have B3 := hide (B2.out.trans (hb3.mono B2.out.size))
    clear hb3
    go_wp2_with fail
    go_ret
    exact ⟨rfl, B3.out⟩
  have T1 := hide (owns_tks hown)
  have hcount := toks_count ht
  have HC := hide (chain_start ht)
  have b2 : Below w1.heap.size w1 (w1.alloc (Obj.cells #[.int .i64 0, .int .i64 0] 26)) := (Below.refl _ _).alloc (Nat.le_refl _) _
  have T2 := hide (T1.out.keep b2)
  have B2 := hide (hb1.trans (b2.mono hb1.size))
  clear hown hb1 T1 ht
  go_upto_region 6 with fail
  obtain ⟨W2, hW2⟩ : ∃ W2, W2 = w1.alloc (Obj.cells #[.int .i64 0, .int .i64 0] 26) := ⟨_, rfl⟩
  rw [← hW2] at B2 T2 ⊢
  clear hW2 b2
  go_wp2_with fail
  go_loopw [7, 8, 9] (fun av ev iv W => ∃ (k en : Nat) (ps : List (Nat × Tk)), k ≤ ts.length ∧ iv = .int .i64 k ∧ ev = .int .i64 en ∧ av = .string ⟨(allP ps).toArray⟩ ∧ Hid (ps.map (·.2) = ts.take k) ∧ Hid (∀ p ∈ ps, p.1 < 4 ∧ Good9 p.2) ∧ Hid (Chain s en (ts.drop k)) ∧
      (allP ps).length ≤ 8 * k + en ∧ k ≤ en ∧ en ≤ s.length ∧ Hid (Below W2.heap.size W2 W)) (fun _ _ iv _ => ts.length - (intOf iv).toNat)
  case atStart => exact ⟨0, 0, [], Nat.zero_le _, rfl, rfl, rfl, rfl, fun p hp => by simp at hp, HC.out, by simp [allP], Nat.le_refl _, Nat.zero_le _, Below.refl _ _⟩
  case round =>
    obtain ⟨k, en, ps, hk, rfl, rfl, rfl, hmap, hgood, hch, hal, hke, hel, hB⟩ := hrel
    by_cases hlt : k < ts.length
    · obtain ⟨ga, rfl, hga, x1, x2, x3⟩ := (T2.out.keep hB.out) k hlt
      have hlI : (k : Int) < (ts.length : Int) := by omega
      obtain ⟨q1, q2, q3, q4, q5⟩ := chain_at hlt hch.out
      have hx := pre_ext q2
      have HGd := hide q3
      have HCh := hide q5
      have hrl := q3.len
      have hmap2 : Hid (ps.map (·.2) ++ [ts[k]] = ts.take (k + 1)) := by unfold Hid; rw [hmap.out, List.take_succ_eq_append_getElem hlt]
      have HR : Hid (raw9 ts[k] = if ts[k].kind = 3 then 34 :: (ts[k].text ++ [34]) else ts[k].text) := rfl
      clear q2 q3 q5 hch hmap
      generalize ts[k] = tk at *
      obtain ⟨kd, A, tx⟩ := tk
      simp only at x1 x2 x3 q1 q4 hx HR
      obtain ⟨R, hR⟩ : ∃ R, R = raw9 ⟨kd, A, tx⟩ := ⟨_, rfl⟩
      rw [← hR] at hx hrl q4 HR HCh
      have HRR := hide hR
      clear hR
      go_upto_if 48 with fail
      go_cut [10] (fun v W => v = .string ⟨R.toArray⟩ ∧ W = wr)
      case first => as_aux_lemma =>
        have htl : tx.length ≤ R.length := by
          rw [HR.out]
          split
          · simp; omega
          · exact Nat.le_refl _
        by_cases h3 : kd = 3
        · have e1 : ((kd : Int) == 3) = true := beq_iff_eq.2 (by omega)
          have HR2 : Hid (R = 34 :: (tx ++ [34])) := by unfold Hid; rw [HR.out, if_pos h3]
          clear h3 HR
          go_wp2_with fail
          go_meet
          case rel => exact ⟨congrArg Value.string (dataEq (by rw [HR2.out]; simp)), rfl⟩
        · have e1 : ((kd : Int) == 3) = false := beq_eq_false_iff_ne.2 (by omega)
          have HR2 : Hid (R = tx) := by unfold Hid; rw [HR.out, if_neg h3]
          clear h3 HR
          go_wp2_with fail
          go_meet
          case rel => exact ⟨by rw [HR2.out], rfl⟩
      case rest =>
      obtain ⟨rfl, hwc⟩ := hcut
      subst hwc
      have g1 : ¬ (A : Int) < (en : Int) := by omega
      have g2 : ¬ (s.length : Int) < (A : Int) + (R.length : Int) := by omega
      have g3 : decide (A < en) = false := decide_eq_false (by omega)
      have g4 : (R == R) = true := by simp
      have g5 : (A : Int) + (R.length : Int) ≤ (s.length : Int) := by omega
      go_upto_region 14 with fail
      go_quiet (fail)
      have bd := _root_.Go.below_drewN (Below.refl wc.heap.size wc) nq
      have y2 : (wc.drewN nq).cell? ⟨ga, k * 3 + 1, none⟩ = some (.int .i64 A) := by rw [bd.cell (p := ⟨ga, k * 3 + 1, none⟩) hga]; exact x2
      have hsd : wc.heap.size ≤ (wc.drewN nq).heap.size := bd.size
      have hgd : ga < (wc.drewN nq).heap.size := Nat.lt_of_lt_of_le hga bd.size
      have BD := hide (hB.out.trans (bd.mono hB.out.size))
      clear bd x1 x2 x3 g1 g2 g3 g4 hB hx
      generalize wc.drewN nq = Wd at *
      have hr4 : lowT (wrap64 (gp + (k : Int))) 4 < 4 := lowT_lt (wrap64 (gp + (k : Int))) 4 (by decide)
      have l4 := seps9_at (lowT (wrap64 (gp + (k : Int))) 4) hr4
      have hrI : (lowT (wrap64 (gp + (k : Int))) 4 : Int) < 4 := by omega
      have hsl := seps9_len (lowT (wrap64 (gp + (k : Int))) 4)
      have hnx := allP_next ps (lowT (wrap64 (gp + (k : Int))) 4) ⟨kd, A, tx⟩
      rw [← HRR.out] at hnx
      have hsum : ((⟨(allP ps).toArray⟩ : ByteArray) ++ ⟨(seps9.getD (lowT (wrap64 (gp + (k : Int))) 4) []).toArray⟩ ++ ⟨R.toArray⟩) = ⟨(allP (ps ++ [(lowT (wrap64 (gp + (k : Int))) 4, ⟨kd, A, tx⟩)])).toArray⟩ := dataEq (by rw [hnx]; simp)
      have hl2 : (allP (ps ++ [(lowT (wrap64 (gp + (k : Int))) 4, ⟨kd, A, tx⟩)])).length ≤ 8 * (k + 1) + (A + R.length) := by
        rw [hnx, List.length_append, List.length_append]; omega
      have hal2 : (allP ps).length ≤ 6000 := by omega
      have hg2 : Hid (∀ p ∈ ps ++ [(lowT (wrap64 (gp + (k : Int))) 4, (⟨kd, A, tx⟩ : Tk))], p.1 < 4 ∧ Good9 p.2) := by
        intro p hp
        rw [List.mem_append, List.mem_singleton] at hp
        rcases hp with hp | rfl
        · exact hgood.out p hp
        · exact ⟨hr4, HGd.out⟩
      have hm2 : Hid ((ps ++ [(lowT (wrap64 (gp + (k : Int))) 4, (⟨kd, A, tx⟩ : Tk))]).map (·.2) = ts.take (k + 1)) := by unfold Hid; rw [List.map_append]; exact hmap2.out
      have HSm := hide hsum
      have HL2 := hide hl2
      have hR6 : R.length ≤ 600 := by omega
      clear hsum hnx hl2 hgood hmap2 HGd HRR HR
      generalize seps9.getD (lowT (wrap64 (gp + (k : Int))) 4) [] = sp at *
      go_wp2_with (go_at_call 14; refine (lowT_any _ _ _ (by decide) (by decide)).mono ?_; rintro e w' ⟨rfl, hw'⟩; rw [hw'])
      all_goals (
        generalize lowT (wrap64 (gp + (k : Int))) 4 = r at *
        have bl : Below wc.heap.size Wd (Wd.alloc (Obj.cells #[.string ⟨#[32]⟩, .string ⟨#[10]⟩, .string ⟨#[35, 32, 120, 32, 34, 32, 123, 10]⟩, .string ⟨#[9, 13]⟩] 9)) := (Below.refl _ _).alloc hsd _
        exact ⟨⟨k + 1, A + R.length, ps ++ [(r, ⟨kd, A, tx⟩)], by omega, by go_num, by go_num, congrArg Value.string HSm.out, hm2, hg2, HCh, HL2.out, by omega, q4, BD.out.alloc BD.out.size _⟩, by simp [intOf]; omega⟩)
    · have hkl : k = ts.length := by omega
      have hps : ps.map (·.2) = ts := by rw [hmap.out, hkl, List.take_length]
      have hpl : ps.length = ts.length := by rw [← hps, List.length_map]
      obtain ⟨us, hu, huk⟩ := toksS_retok hgood.out (by omega) (by omega)
      have huk2 : us.map kt = ts.map kt := by
        rw [huk, ← hps, List.map_map]; rfl
      have hul : us.length = ts.length := by have := congrArg List.length huk2; simpa using this
      have hil : (allP ps).length < 4294967281 := by omega
      have HU := hide hu
      have HK := hide huk2
      have HUl := hide hul
      have BW := hide (B2.out.trans (hB.out.mono B2.out.size))
      have T5 := hide (T2.out.keep hB.out)
      clear hps hpl hu huk huk2 hmap hgood hch hal hB T2 hkl
      generalize allP ps = A at *
      go_wp2_with fail
      refine (OK.out.good HU.out _ (HE.out.keep BW.out) hil).mono ?_
      rintro e w6 ⟨bo, cb, rfl, hT6, hb6⟩
      rw [HUl.out]
      have b7 : Below w6.heap.size w6 (w6.alloc (Obj.cells #[.int .i64 0, .int .i64 0] 26)) := (Below.refl _ _).alloc (Nat.le_refl _) _
      have T7 := hide ((T5.out.keep hb6).keep b7)
      have S7 := hide (hT6.keep b7)
      have B6 := hide (BW.out.trans (hb6.mono BW.out.size))
      have B7 := hide (B6.out.trans (b7.mono B6.out.size))
      clear hb6 hT6 T5 BW
      go_upto_region 19 with fail
      obtain ⟨W7, hW7⟩ : ∃ W7, W7 = w6.alloc (Obj.cells #[.int .i64 0, .int .i64 0] 26) := ⟨_, rfl⟩
      have R7 : Hid (WB W7 w6.heap.size 0 0) := by unfold Hid; rw [hW7]; exact WB.new w6 0 0 26
      rw [← hW7] at B7 T7 S7 ⊢
      clear hW7 b7 B6
      have r0 := R7.out.c0
      have hrl := R7.out.lt
      go_wp2_with fail
      go_loopw [13] (fun iv W => ∃ q : Nat, q ≤ ts.length ∧ iv = .int .i64 q ∧ Hid (Below W7.heap.size W7 W)) (fun iv _ => ts.length - (intOf iv).toNat)
      case atStart => exact ⟨0, Nat.zero_le _, rfl, Below.refl _ _⟩
      case round =>
        obtain ⟨q, hq, rfl, hBq⟩ := hrel
        by_cases hqlt : q < ts.length
        · obtain ⟨ga, rfl, hga, x1, x2, x3⟩ := (T7.out.keep hBq.out) q hqlt
          have hqu : q < us.length := by omega
          obtain ⟨gb, rfl, hgb, y1, y2, y3⟩ := (S7.out.keep hBq.out) q hqu
          obtain ⟨k1, k2⟩ := kt_at HK.out q hqu hqlt
          have hqI : (q : Int) < (ts.length : Int) := by omega
          rw [k1] at y1
          rw [k2] at y3
          have k3 : (ts[q].text == ts[q].text) = true := by simp
          clear k1 k2 x2 y2
          generalize ts[q].kind = kd at *
          generalize ts[q].text = tx at *
          go_wp2_with fail
          go_quiet (fail)
          go_wp2_with fail
          refine ⟨⟨q + 1, by omega, by go_num, _root_.Go.below_drewN hBq.out _⟩, by simp [intOf]; omega⟩
        · have BF := hide (B7.out.trans (hBq.out.mono B7.out.size))
          clear T7 S7 R7 r0 hrl hBq B7
          go_wp2_with fail
          refine (XA.out _ BF.out).mono ?_
          rintro e w8 ⟨rfl, hb8⟩
          have B8 := hide (BF.out.trans (hb8.mono BF.out.size))
          clear hb8
          go_wp2_with fail
          go_ret
          exact ⟨rfl, B8.out⟩
end Go.Proofs.Ytkpkpiikhcggkaa
