/- The walk over moatlaw8.JarPaths. -/
import Derived.Test.YtlmchmhdojkokaaDoorL26
import Derived.Test.YtlmchmhdojkokaaDoorQS
namespace Go.Proofs.YtlmchmhdojkokaaDoor
open Go.RowKit Go.Proofs.Url

theorem parts4_at (s : Nat) (h : s < 4) : [Value.string ⟨#[97]⟩, .string ⟨#[98, 98]⟩, .string ⟨#[99, 46, 100]⟩, .string ⟨#[101, 45, 102]⟩][s] = .string ⟨(parts4.getD s []).toArray⟩ := by
  match s, h with
  | 0, _ => rfl
  | 1, _ => rfl
  | 2, _ => rfl
  | 3, _ => rfl
theorem owns_at {w : World} {base : Nat} {ao : Option Addr} {cap : Nat} {qs : List (List UInt8)} (h : w.ownsRow base 9 1 (.slice ao qs.length cap) qs.length (qs.map (fun q => Value.string ⟨q.toArray⟩))) (k : Nat) (hk : k < qs.length) :
    ∃ g, ao = some ⟨g, 0, none⟩ ∧ base ≤ g ∧ g < w.heap.size ∧ w.cell? ⟨g, k, none⟩ = some (.string ⟨qs[k].toArray⟩) := by
  rcases h.2 with ⟨hv, h0⟩ | ⟨g', cap', cur, hv, hg, hh, hn, hm, hsz, htk⟩
  · omega
  · simp only [Value.slice.injEq, true_and] at hv
    obtain ⟨rfl, rfl⟩ := hv
    have hlt : g' < w.heap.size := by
      rcases Nat.lt_or_ge g' w.heap.size with h | h
      · exact h
      · rw [Array.getElem?_eq_none h] at hh; cases hh
    refine ⟨g', rfl, hg, hlt, ?_⟩
    have : (cur.toList.take (qs.length * 1))[k]? = (qs.map (fun q => Value.string ⟨q.toArray⟩))[k]? := by rw [htk]
    rw [List.getElem?_take, if_pos (by omega)] at this
    have e : w.cell? ⟨g', k, none⟩ = cur[k]? := by simp [World.cell?, hh]
    rw [e]; simpa [hk] using this
def orgP : List Value := [.string ⟨#[]⟩, .string ⟨#[104, 116, 116, 112, 115]⟩, .string ⟨#[97, 46, 116, 101, 115, 116]⟩, .int .i64 443]
def ckP (e : List UInt8) : List Value := [.string ⟨#[]⟩, .int .i64 0, .string ⟨#[]⟩, .string ⟨e.toArray⟩, .bool false, .bool false, .int .i64 0]
/-- Does that cookie's path fit that path? -/
def fitP (e : List UInt8) (p : ByteArray) : Bool := pathJ e p.data.toList
theorem fitP_any (e : List UInt8) (p : ByteArray) (w : World) (henv : Env w) (h : p.size < 4294967281) :
    Calls Tryd.prog 10 #[.agg (ckP e).toArray, .string ⟨#[97, 46, 116, 101, 115, 116]⟩, .agg orgP.toArray, .string p] w fun e' w' => e' = .returned (.bool (fitP e p)) ∧ Below w.heap.size w w' := by
  have hh := fits_any ⟨#[]⟩ 0 [] e false false 0 atest ⟨#[]⟩ https atest 443 p.data.toList w henv (by decide) (by simpa using h) (by decide)
  rw [fits_path] at hh
  have e2 : (⟨p.data.toList.toArray⟩ : ByteArray) = p := by cases p; simp
  rw [e2] at hh
  exact hh

set_option maxHeartbeats 4000000 in
set_option maxRecDepth 100000 in
theorem jarPaths_walk (a0 : Option Addr) (len0 cap0 : Nat) (z : Nat → Int) (cut : Int) (w : World) (henv : Env w) (hrow : RowI w a0 len0 z) :
    Calls Tryd.prog 5 #[.slice a0 len0 cap0, .int .i64 cut] w fun e w' => e = .returned (.bool true) ∧ Below w.heap.size w w' := by
  have HE := hide henv
  have XA := hide (fun W hb => awake8_any W (henv.keep (w' := W) hb))
  obtain ⟨i0, hi, hz0, hz1, hz2⟩ := info_parts infoS
  clear henv
  by_cases h5 : 5 < len0
  · have i1 : (5 : Int) < (len0 : Int) := by omega
    clear h5 hrow hi hz0 hz1 hz2
    go_enter Tryd.func5, Tryd.ntmps5
    go_wp2_with fail
    refine (XA.out _ (Below.refl _ _)).mono ?_
    rintro e w1 ⟨rfl, hb1⟩
    go_wp2_with fail
    go_ret
    exact ⟨rfl, hb1⟩
  have i1 : ¬ (5 : Int) < (len0 : Int) := by omega
  by_cases h0 : len0 = 0
  · subst h0
    clear h5 hrow hi hz0 hz1 hz2
    go_enter Tryd.func5, Tryd.ntmps5
    go_wp2_with fail
    refine (XA.out _ (Below.refl _ _)).mono ?_
    rintro e w1 ⟨rfl, hb1⟩
    go_wp2_with fail
    go_ret
    exact ⟨rfl, hb1⟩
  have i2 : ((len0 : Int) == 0) = false := beq_eq_false_iff_ne.2 (by omega)
  have HRow := hide hrow
  clear hrow
  have HI := hide hi
  have HZ0 := hide hz0
  have HZ1 := hide hz1
  have HZ2 := hide hz2
  clear hi hz0 hz1 hz2
  go_enter Tryd.func5, Tryd.ntmps5
  go_wp2_with fail
  go_loopw [6, 7, 8] (fun sv nv iv W => ∃ (ks : List Nat) (ao : Option Addr) (cv : Nat), ks.length ≤ len0 ∧ iv = .int .i64 ks.length ∧ sv = .string ⟨(wholeN ks).toArray⟩ ∧ nv = .slice ao (endsN ks).length cv ∧ Hid (∀ k ∈ ks, k < 4) ∧
      Hid (W.rangeAt w.heap.size 0 orgP) ∧ Hid (W.ownsRow (w.heap.size + 1) 9 1 (.slice ao (endsN ks).length cv) (endsN ks).length ((endsN ks).map (fun q => Value.string ⟨q.toArray⟩))) ∧ Hid (Below w.heap.size w W) ∧ w.heap.size + 1 ≤ W.heap.size) (fun _ _ iv _ => len0 - (intOf iv).toNat)
  case atStart => exact ⟨[], none, 0, Nat.zero_le _, rfl, rfl, rfl, by intro k hk; simp at hk, row_new w orgP 25, World.ownsRow_nil _ _ _ _, (Below.refl _ _).alloc (Nat.le_refl _) _, by simp⟩
  case round =>
    obtain ⟨ks, ao, cv, hk, rfl, rfl, rfl, hks, hO, hown, hB, hsz⟩ := hrel
    by_cases hlt : ks.length < len0
    · obtain ⟨b, off, rfl, hbw, hcell⟩ := HRow.out.keep hB.out ks.length hlt
      have hlI : (ks.length : Int) < (len0 : Int) := by omega
      have hbr : b < wr.heap.size := by omega
      have hK4 : lowT (z ks.length) 4 < 4 := lowT_lt _ 4 (by decide)
      have hKI : (lowT (z ks.length) 4 : Int) < 4 := by omega
      have l4 := parts4_at _ hK4
      have hwl := whole_len ks hks.out
      have hsum : ((⟨(wholeN ks).toArray⟩ : ByteArray) ++ ⟨#[47]⟩ ++ ⟨(parts4.getD (lowT (z ks.length) 4) []).toArray⟩) = ⟨(wholeN (ks ++ [lowT (z ks.length) 4])).toArray⟩ := dataEq (by rw [whole_next]; simp)
      have hen := ends_next ks (lowT (z ks.length) 4)
      have hks' : Hid (∀ k ∈ ks ++ [lowT (z ks.length) 4], k < 4) := by
        intro k hk
        rw [List.mem_append, List.mem_singleton] at hk
        rcases hk with hk | rfl
        · exact hks.out k hk
        · exact hK4
      have hwl1 : (wholeN ks).length ≤ 20 := by omega
      have hpl := (parts4_good ⟨_, hK4⟩).2.1
      simp only at hpl
      have HSum := hide hsum
      have HEn := hide hen
      clear hsum hen hwl
      generalize parts4.getD (lowT (z ks.length) 4) [] = pt at *
      generalize hwn : wholeN (ks ++ [lowT (z ks.length) 4]) = wn at *
      have HWn := hide hwn
      clear hwn
      go_upto_region 10 with (go_at_call 16; refine (lowT_any _ _ _ (by decide) (by decide)).mono ?_; rintro e w' ⟨rfl, hw'⟩; rw [hw'])
      rw [HSum.out]
      obtain ⟨W1, hW1⟩ : ∃ W1, W1 = wr.alloc (Obj.cells #[.string ⟨#[97]⟩, .string ⟨#[98, 98]⟩, .string ⟨#[99, 46, 100]⟩, .string ⟨#[101, 45, 102]⟩] 9) := ⟨_, rfl⟩
      rw [← hW1]
      have b1 : Below wr.heap.size wr W1 := by rw [hW1]; exact (Below.refl _ _).alloc (Nat.le_refl _) _
      have hs1 := b1.size
      have O1 := hide (owns_below hown.out b1)
      have RO := hide (row_keep hO.out b1 (by omega))
      have B1 := hide (hB.out.trans (b1.mono hB.out.size))
      clear hW1 b1 hO hB hown HSum l4 hcell hbr hK4 hKI hpl hwl1
      generalize lowT (z ks.length) 4 = kk at *
      have hel := ends_len ks
      have hkl : (ks ++ [kk]).length = ks.length + 1 := by simp
      generalize endsN ks = en at *
      generalize hkl0 : ks.length = kl at *
      have HBs : Hid (∀ j, (Value.slice ao en.length cv).ownBlock = some j → w.heap.size + 1 ≤ j) := fun j hj => owns_base O1.out j hj
      go_wp2_with (at_builtin; refine wpList_append_own _ rfl _ _ 34 rfl (w.heap.size + 1) 9 i0 (.string ByteArray.empty) 1 16 Tryd.underlying34 HI.out HZ0.out HZ1.out HZ2.out rfl (by decide) _ _ _ rfl (O1.out.alloc _) ⟨W1.heap.size, 0, none⟩ 1 1 [.string ⟨wn.toArray⟩] rfl rfl (cell_one_new _ _ _) (fun x hx => by simp at hx; subst hx; rfl) (by unfold maxLen; omega) (by omega) (by simp; omega) ?_; intro v' w4 hown' hgrow4 hnil4)
      have B4 : Below (w.heap.size + 1) W1 w4 := Below.trans ((Below.refl _ _).alloc (by omega) _) (Below.grown (Below.refl _ _) hgrow4 (by simp; omega) HBs.out)
      obtain ⟨ao2, cv2, hv2, hown3⟩ := texts_roundB hown'
      have hz4 := B4.size
      rw [← HEn.out] at hv2 hown3
      exact ⟨⟨ks ++ [kk], ao2, cv2, by omega, by rw [hkl]; go_num, by rw [HWn.out], hv2, hks', row_keep RO.out B4 (by omega), hown3, B1.out.trans (B4.mono (by omega)), by omega⟩, by simp [intOf]; omega⟩
    · have hkl : ks.length = len0 := by omega
      have hsz0 := hB.out.size
      have hel := ends_len ks
      have hwl := whole_len ks hks.out
      have ET := hide (ends_tell ks hks.out)
      have EL := hide (ends_less ks)
      have TK := hide (fun n h1 hn => pathJ_take (p := wholeN ks) (n := n) h1 hn)
      have w1 : 1 ≤ (wholeN ks).length := by omega
      have w2 : (wholeN ks).length ≤ 20 := by omega
      clear hk hlt hwl HRow HI HZ0 HZ1 HZ2
      generalize ks.length = kl at *
      subst hkl
      generalize endsN ks = en at *
      generalize wholeN ks = wl at *
      clear hks
      generalize wr = Wm at *
      go_wp2_with fail
      go_loopw [9] (fun iv W => ∃ q : Nat, q ≤ en.length ∧ iv = .int .i64 q ∧ Hid (Below Wm.heap.size Wm W)) (fun iv _ => en.length - (intOf iv).toNat)
      case atStart => exact ⟨0, Nat.zero_le _, rfl, Below.refl _ _⟩
      case round =>
        obtain ⟨q, hq, rfl, hBq⟩ := hrel
        by_cases hlt : q < en.length
        · obtain ⟨ge, rfl, hge1, hge2, hce⟩ := owns_at hown.out q hlt
          have hlI : (q : Int) < (en.length : Int) := by omega
          obtain ⟨f1, f2, f3, f4, hel2⟩ := ET.out q hlt
          have hBs := hBq.out.size
          have hge3 : ge < wr.heap.size := by omega
          have hce3 : wr.cell? ⟨ge, q, none⟩ = some (.string ⟨en[q].toArray⟩) := by rw [hBq.out.cell (p := ⟨ge, q, none⟩) hge2]; exact hce
          have RO3 := hide (row_keep hO.out hBq.out (by omega))
          have B3 := hide (hB.out.trans (hBq.out.mono (by omega)))
          go_upto_region 15 with fail
          obtain ⟨W3, hW3⟩ : ∃ W3, W3 = wr.alloc (Obj.cells (ckP en[q]).toArray 23) := ⟨_, rfl⟩
          have b3 : Below wr.heap.size wr W3 := by rw [hW3]; exact (Below.refl _ _).alloc (Nat.le_refl _) _
          have rc : W3.rangeAt wr.heap.size 0 (ckP en[q]) := by rw [hW3]; exact row_new wr (ckP en[q]) 23
          have hs3 : W3.heap.size = wr.heap.size + 1 := by rw [hW3, World.size_alloc]
          have Q1 := hide (quiet_at rc (by omega))
          have Q2 := hide (quiet_at (row_keep RO3.out b3 (by omega)) (by omega))
          have B4 := hide (hBq.out.trans (b3.mono hBs))
          have B5 := hide (B3.out.trans (b3.mono (by omega)))
          have hce4 : W3.cell? ⟨ge, q, none⟩ = some (.string ⟨en[q].toArray⟩) := by rw [b3.cell (p := ⟨ge, q, none⟩) hge3]; exact hce3
          simp only [ckP] at hW3
          rw [← hW3]
          clear hW3 b3 rc RO3 B3
          have IC : Hid ((Tryd.prog.info? 23).map (·.size) = some 7) := by unfold Hid; kernel_rfl
          have IO : Hid ((Tryd.prog.info? 25).map (·.size) = some 4) := by unfold Hid; kernel_rfl
          have FP := hide (fun p d o hs => Calls.regrown_of (fitP_any en[q] p (Sort.grow (redrawn W3 d) o) (HE.out.keep (B5.out.trans ((below_regrown W3 d o).mono B5.out.size))) hs))
          simp only [ckP, orgP] at FP
          have Q3 := hide (quiet_cell hce4)
          have g1 : fitP en[q] ⟨wl.toArray⟩ = true := by unfold fitP; simpa using f1
          have g2 : fitP en[q] ⟨en[q].toArray⟩ = true := by unfold fitP; simpa using f2
          have g3 : fitP en[q] ((⟨en[q].toArray⟩ : ByteArray) ++ ⟨#[47]⟩) = true := by unfold fitP; simpa using f3
          have g4 : fitP en[q] ((⟨en[q].toArray⟩ : ByteArray) ++ ⟨#[120]⟩) = false := by unfold fitP; simpa using f4
          have s1 : (⟨wl.toArray⟩ : ByteArray).size < 4294967281 := by rw [size_mk]; omega
          have s2 : (⟨en[q].toArray⟩ : ByteArray).size < 4294967281 := by rw [size_mk]; omega
          have s3 : ((⟨en[q].toArray⟩ : ByteArray) ++ ⟨#[47]⟩).size < 4294967281 := by rw [ByteArray.size_append, size_mk]; have : (⟨#[47]⟩ : ByteArray).size = 1 := rfl; omega
          have s4 : ((⟨en[q].toArray⟩ : ByteArray) ++ ⟨#[120]⟩).size < 4294967281 := by rw [ByteArray.size_append, size_mk]; have : (⟨#[120]⟩ : ByteArray).size = 1 := rfl; omega
          have n1 : en[q].length ≤ 20 := by omega
          clear f1 f2 f3 f4 hce hce3 hce4 hel2
          by_cases hq0 : q = 0
          · have hqb : decide (0 < q) = false := decide_eq_false (by omega)
            clear hq0
            generalize en[q] = e at *
            go_wp2_with fail
            refine wp_region_quiet_below (by kernel_rfl) (by kernel_rfl) ?_
            refine wpQuiet_row rfl 23 _ rfl wr.heap.size 0 rfl (ckP e) _ Q1.out Tryd.underlying23 rfl IC.out ?_
            simp only [ckP, Act.put, List.setIfInBounds_toArray, List.set_cons_succ, List.set_cons_zero]
            refine wpQuiet_row rfl 25 _ rfl w.heap.size 0 rfl orgP _ Q2.out Tryd.underlying25 rfl IO.out ?_
            simp only [orgP, Act.put, List.setIfInBounds_toArray, List.set_cons_succ, List.set_cons_zero]
            (go_big_quiet_step (fail))
            go_big_quiet_step (first | (go_at_call 10; exact FP.out _ _ _ s1))
            simp only [g1]
            iterate 2 (go_big_quiet_step (fail))
            refine wpQuiet_row rfl 23 _ rfl wr.heap.size 0 rfl (ckP e) _ Q1.out Tryd.underlying23 rfl IC.out ?_
            simp only [ckP, Act.put, List.setIfInBounds_toArray, List.set_cons_succ, List.set_cons_zero]
            refine wpQuiet_row rfl 25 _ rfl w.heap.size 0 rfl orgP _ Q2.out Tryd.underlying25 rfl IO.out ?_
            simp only [orgP, Act.put, List.setIfInBounds_toArray, List.set_cons_succ, List.set_cons_zero]
            iterate 3 (go_big_quiet_step (fail))
            refine wpQuiet_str rfl _ rfl ge q rfl (.string ⟨e.toArray⟩) Q3.out ?_
            simp only [Act.put, List.setIfInBounds_toArray, List.set_cons_succ, List.set_cons_zero]
            go_big_quiet_step (first | (go_at_call 10; exact FP.out _ _ _ s2))
            simp only [g2]
            iterate 3 (go_big_quiet_step (fail))
            refine wpQuiet_row rfl 23 _ rfl wr.heap.size 0 rfl (ckP e) _ Q1.out Tryd.underlying23 rfl IC.out ?_
            simp only [ckP, Act.put, List.setIfInBounds_toArray, List.set_cons_succ, List.set_cons_zero]
            refine wpQuiet_row rfl 25 _ rfl w.heap.size 0 rfl orgP _ Q2.out Tryd.underlying25 rfl IO.out ?_
            simp only [orgP, Act.put, List.setIfInBounds_toArray, List.set_cons_succ, List.set_cons_zero]
            iterate 3 (go_big_quiet_step (fail))
            refine wpQuiet_str rfl _ rfl ge q rfl (.string ⟨e.toArray⟩) Q3.out ?_
            simp only [Act.put, List.setIfInBounds_toArray, List.set_cons_succ, List.set_cons_zero]
            (go_big_quiet_step (fail))
            go_big_quiet_step (first | (go_at_call 10; exact FP.out _ _ _ s3))
            simp only [g3]
            iterate 3 (go_big_quiet_step (fail))
            refine wpQuiet_row rfl 23 _ rfl wr.heap.size 0 rfl (ckP e) _ Q1.out Tryd.underlying23 rfl IC.out ?_
            simp only [ckP, Act.put, List.setIfInBounds_toArray, List.set_cons_succ, List.set_cons_zero]
            refine wpQuiet_row rfl 25 _ rfl w.heap.size 0 rfl orgP _ Q2.out Tryd.underlying25 rfl IO.out ?_
            simp only [orgP, Act.put, List.setIfInBounds_toArray, List.set_cons_succ, List.set_cons_zero]
            iterate 3 (go_big_quiet_step (fail))
            refine wpQuiet_str rfl _ rfl ge q rfl (.string ⟨e.toArray⟩) Q3.out ?_
            simp only [Act.put, List.setIfInBounds_toArray, List.set_cons_succ, List.set_cons_zero]
            (go_big_quiet_step (fail))
            go_big_quiet_step (first | (go_at_call 10; exact FP.out _ _ _ s4))
            simp only [g4]
            iterate 2 (go_big_quiet_step (fail))
            iterate 3 (go_big_quiet_step (fail))
            iterate 10 (go_big_quiet_step (fail))
            refine wpQuiet_nil ?_
            rintro _ ⟨pq, rfl⟩
            have b6 := below_regrown W3 pq.d pq.os
            have B6 := hide (B4.out.trans (b6.mono B4.out.size))
            go_wp2_with fail
            refine ⟨⟨q + 1, by omega, by go_num, B6⟩, by simp [intOf]; omega⟩
          · have hqb : decide (0 < q) = true := decide_eq_true (by omega)
            have hq1 : q - 1 < en.length := by omega
            obtain ⟨ge', hgg, _, _, hcf⟩ := owns_at hown.out (q - 1) hq1
            cases hgg
            have hcf4 : W3.cell? ⟨ge, q - 1, none⟩ = some (.string ⟨en[q - 1].toArray⟩) := by
              rw [B4.out.cell (p := ⟨ge, q - 1, none⟩) hge2]; exact hcf
            have Q4 := hide (quiet_cell hcf4)
            have hl5 := (ET.out (q - 1) hq1).2.2.2.2
            have g5 : fitP en[q] ⟨en[q - 1].toArray⟩ = false := by
              have h := EL.out (q - 1) (by omega)
              have e : q - 1 + 1 = q := by omega
              simp only [e] at h
              unfold fitP; simpa using h
            have s5 : (⟨en[q - 1].toArray⟩ : ByteArray).size < 4294967281 := by rw [size_mk]; omega
            have hqI : (1 : Int) ≤ (q : Int) := by omega
            clear hcf hcf4 hl5
            generalize en[q] = e at *
            generalize en[q - 1] = e1 at *
            clear hq0
            go_wp2_with fail
            refine wp_region_quiet_below (by kernel_rfl) (by kernel_rfl) ?_
            refine wpQuiet_row rfl 23 _ rfl wr.heap.size 0 rfl (ckP e) _ Q1.out Tryd.underlying23 rfl IC.out ?_
            simp only [ckP, Act.put, List.setIfInBounds_toArray, List.set_cons_succ, List.set_cons_zero]
            refine wpQuiet_row rfl 25 _ rfl w.heap.size 0 rfl orgP _ Q2.out Tryd.underlying25 rfl IO.out ?_
            simp only [orgP, Act.put, List.setIfInBounds_toArray, List.set_cons_succ, List.set_cons_zero]
            (go_big_quiet_step (fail))
            go_big_quiet_step (first | (go_at_call 10; exact FP.out _ _ _ s1))
            simp only [g1]
            iterate 2 (go_big_quiet_step (fail))
            refine wpQuiet_row rfl 23 _ rfl wr.heap.size 0 rfl (ckP e) _ Q1.out Tryd.underlying23 rfl IC.out ?_
            simp only [ckP, Act.put, List.setIfInBounds_toArray, List.set_cons_succ, List.set_cons_zero]
            refine wpQuiet_row rfl 25 _ rfl w.heap.size 0 rfl orgP _ Q2.out Tryd.underlying25 rfl IO.out ?_
            simp only [orgP, Act.put, List.setIfInBounds_toArray, List.set_cons_succ, List.set_cons_zero]
            iterate 3 (go_big_quiet_step (fail))
            refine wpQuiet_str rfl _ rfl ge q rfl (.string ⟨e.toArray⟩) Q3.out ?_
            simp only [Act.put, List.setIfInBounds_toArray, List.set_cons_succ, List.set_cons_zero]
            go_big_quiet_step (first | (go_at_call 10; exact FP.out _ _ _ s2))
            simp only [g2]
            iterate 3 (go_big_quiet_step (fail))
            refine wpQuiet_row rfl 23 _ rfl wr.heap.size 0 rfl (ckP e) _ Q1.out Tryd.underlying23 rfl IC.out ?_
            simp only [ckP, Act.put, List.setIfInBounds_toArray, List.set_cons_succ, List.set_cons_zero]
            refine wpQuiet_row rfl 25 _ rfl w.heap.size 0 rfl orgP _ Q2.out Tryd.underlying25 rfl IO.out ?_
            simp only [orgP, Act.put, List.setIfInBounds_toArray, List.set_cons_succ, List.set_cons_zero]
            iterate 3 (go_big_quiet_step (fail))
            refine wpQuiet_str rfl _ rfl ge q rfl (.string ⟨e.toArray⟩) Q3.out ?_
            simp only [Act.put, List.setIfInBounds_toArray, List.set_cons_succ, List.set_cons_zero]
            (go_big_quiet_step (fail))
            go_big_quiet_step (first | (go_at_call 10; exact FP.out _ _ _ s3))
            simp only [g3]
            iterate 3 (go_big_quiet_step (fail))
            refine wpQuiet_row rfl 23 _ rfl wr.heap.size 0 rfl (ckP e) _ Q1.out Tryd.underlying23 rfl IC.out ?_
            simp only [ckP, Act.put, List.setIfInBounds_toArray, List.set_cons_succ, List.set_cons_zero]
            refine wpQuiet_row rfl 25 _ rfl w.heap.size 0 rfl orgP _ Q2.out Tryd.underlying25 rfl IO.out ?_
            simp only [orgP, Act.put, List.setIfInBounds_toArray, List.set_cons_succ, List.set_cons_zero]
            iterate 3 (go_big_quiet_step (fail))
            refine wpQuiet_str rfl _ rfl ge q rfl (.string ⟨e.toArray⟩) Q3.out ?_
            simp only [Act.put, List.setIfInBounds_toArray, List.set_cons_succ, List.set_cons_zero]
            (go_big_quiet_step (fail))
            go_big_quiet_step (first | (go_at_call 10; exact FP.out _ _ _ s4))
            simp only [g4]
            iterate 2 (go_big_quiet_step (fail))
            iterate 3 (go_big_quiet_step (fail))
            refine wpQuiet_row rfl 23 _ rfl wr.heap.size 0 rfl (ckP e) _ Q1.out Tryd.underlying23 rfl IC.out ?_
            simp only [ckP, Act.put, List.setIfInBounds_toArray, List.set_cons_succ, List.set_cons_zero]
            refine wpQuiet_row rfl 25 _ rfl w.heap.size 0 rfl orgP _ Q2.out Tryd.underlying25 rfl IO.out ?_
            simp only [orgP, Act.put, List.setIfInBounds_toArray, List.set_cons_succ, List.set_cons_zero]
            iterate 4 (go_big_quiet_step (fail))
            refine wpQuiet_str rfl _ rfl ge (q - 1) rfl (.string ⟨e1.toArray⟩) Q4.out ?_
            simp only [Act.put, List.setIfInBounds_toArray, List.set_cons_succ, List.set_cons_zero]
            go_big_quiet_step (first | (go_at_call 10; exact FP.out _ _ _ s5))
            simp only [g5]
            iterate 2 (go_big_quiet_step (fail))
            refine wpQuiet_nil ?_
            rintro _ ⟨pq, rfl⟩
            have b6 := below_regrown W3 pq.d pq.os
            have B6 := hide (B4.out.trans (b6.mono B4.out.size))
            go_wp2_with fail
            refine ⟨⟨q + 1, by omega, by go_num, B6⟩, by simp [intOf]; omega⟩
        · have BF := hide (hB.out.trans (hBq.out.mono (by omega)))
          have hBs := hBq.out.size
          have RO3 := hide (row_keep hO.out hBq.out (by omega))
          have hr := lowT_lt cut wl.length w1
          have hrI : 1 + (lowT cut (wl.length : Int) : Int) ≤ (wl.length : Int) := by omega
          have hgw : w.heap.size < wr.heap.size := by omega
          clear hown hO hB hBq ET EL
          go_upto_region 18 with (go_at_call 16; refine (lowT_any _ _ _ (by omega) (by omega)).mono ?_; rintro e w' ⟨rfl, hw'⟩; rw [hw'])
          generalize lowT cut (wl.length : Int) = r at *
          obtain ⟨cp, hcp⟩ : ∃ cp, cp = wl.take (1 + r) := ⟨_, rfl⟩
          have hcl : cp.length = 1 + r := by rw [hcp, List.length_take]; omega
          have hext : (⟨wl.toArray⟩ : ByteArray).extract 0 (1 + r) = ⟨cp.toArray⟩ := dataEq (by rw [hcp, Lib.extract_data]; simp)
          have hG := TK.out (1 + r) (by omega) (by omega)
          rw [← hcp] at hG
          have hcg : ∀ (h : cp.length - 1 < cp.length), cp[cp.length - 1]? = wl[cp.length - 1]? := fun h => by rw [hcp, List.getElem?_take, if_pos (by rw [← hcp]; omega)]
          rw [hext]
          rw [← hcl] at hG
          have c1 : 1 ≤ cp.length := by omega
          have c2 : cp.length ≤ wl.length := by omega
          clear hext hcp hcl hr hrI TK
          obtain ⟨W5, hW5⟩ : ∃ W5, W5 = wr.alloc (Obj.cells (ckP cp).toArray 23) := ⟨_, rfl⟩
          have b5 : Below wr.heap.size wr W5 := by rw [hW5]; exact (Below.refl _ _).alloc (Nat.le_refl _) _
          have R5 : Hid (W5.rangeAt wr.heap.size 0 (ckP cp)) := by unfold Hid; rw [hW5]; exact row_new wr (ckP cp) 23
          have RO5 := hide (row_keep RO3.out b5 hgw)
          have B5 := hide (BF.out.trans (b5.mono BF.out.size))
          have hs5 : W5.heap.size = wr.heap.size + 1 := by rw [hW5, World.size_alloc]
          simp only [ckP] at hW5
          rw [← hW5]
          clear hW5 b5 RO3 BF
          obtain ⟨G, hGG⟩ : ∃ G, G = pathJ cp wl := ⟨_, rfl⟩
          rw [← hGG] at hG
          have HG := hide hG
          have HGG := hide hGG
          have HCG := hide hcg
          clear hG hGG hcg
          obtain ⟨k0, k1, k2, k3, k4, k5, k6⟩ := cells7_of R5.out
          have hgc : wr.heap.size < W5.heap.size := by omega
          go_upto_region 19 with fail
          have hi1 : cp.length - 1 < (⟨cp.toArray⟩ : ByteArray).size := by rw [size_mk]; omega
          go_cut [13] (fun v W => v = .bool G ∧ W = W5)
          case first => as_aux_lemma =>
            clear RO5 B5 HGG HE XA
            by_cases hn : cp.length = wl.length
            · have e1 : ((cp.length : Int) == (wl.length : Int)) = true := beq_iff_eq.2 (by omega)
              have HT : Hid (G = true) := by unfold Hid; rw [HG.out, decide_eq_true hn]; rfl
              clear hn
              go_wp2_with fail
              go_meet
              case rel => exact ⟨congrArg Value.bool HT.out.symm, rfl⟩
            have e1 : ((cp.length : Int) == (wl.length : Int)) = false := beq_eq_false_iff_ne.2 (by omega)
            have hlt2 : (cp.length : Int) < (wl.length : Int) := by omega
            have c1I : (1 : Int) ≤ (cp.length : Int) := by omega
            have hj1 : cp.length - 1 < cp.length := by omega
            have hj2 : cp.length < wl.length := by omega
            have hj3 : cp.length < (⟨wl.toArray⟩ : ByteArray).size := by rw [size_mk]; exact hj2
            have x1 : wl[cp.length - 1]? = some ((⟨cp.toArray⟩ : ByteArray)[cp.length - 1]) := by rw [← HCG.out hj1, List.getElem?_eq_getElem hj1]; rfl
            have x2 : wl[cp.length]? = some ((⟨wl.toArray⟩ : ByteArray)[cp.length]) := by rw [List.getElem?_eq_getElem hj2]; rfl
            have HG2 : Hid (G = ((⟨cp.toArray⟩ : ByteArray)[cp.length - 1] == 47 || (⟨wl.toArray⟩ : ByteArray)[cp.length] == 47)) := by
              unfold Hid; rw [HG.out, decide_eq_false hn, x1, x2]; rfl
            clear hn x1 x2 HG HCG
            by_cases hb : (⟨cp.toArray⟩ : ByteArray)[cp.length - 1].toNat = 47
            · have e2 : (((⟨cp.toArray⟩ : ByteArray)[cp.length - 1].toNat : Int) == 47) = true := beq_iff_eq.2 (by omega)
              have HT : Hid (G = true) := by unfold Hid; rw [HG2.out, show (⟨cp.toArray⟩ : ByteArray)[cp.length - 1] = 47 from UInt8.toNat_inj.1 hb]; rfl
              clear hb HG2
              go_wp2_with fail
              go_meet
              case rel => exact ⟨congrArg Value.bool HT.out.symm, rfl⟩
            · have e2 : (((⟨cp.toArray⟩ : ByteArray)[cp.length - 1].toNat : Int) == 47) = false := beq_eq_false_iff_ne.2 (by omega)
              have e3 : ((⟨cp.toArray⟩ : ByteArray)[cp.length - 1] == 47) = false := beq_eq_false_iff_ne.2 (fun h => hb (by rw [h]; rfl))
              have HT : Hid (G = (((⟨wl.toArray⟩ : ByteArray)[cp.length].toNat : Int) == 47)) := by
                unfold Hid; rw [HG2.out, e3, Bool.false_or, Bool.eq_iff_iff, beq_iff_eq, beq_iff_eq, ← UInt8.toNat_inj]
                show _ = 47 ↔ _
                omega
              clear hb HG2 e3
              go_wp2_with fail
              go_meet
              case rel => exact ⟨congrArg Value.bool HT.out.symm, rfl⟩
          case rest =>
          obtain ⟨rfl, hwc⟩ := hcut
          subst hwc
          obtain ⟨o0, o1, o2, o3⟩ := cells4_of RO5.out
          have hg0 : w.heap.size < wc.heap.size := by omega
          have FA := hide (fitP_any cp ⟨wl.toArray⟩ wc (HE.out.keep B5.out) (by rw [size_mk]; omega))
          have hfg : fitP cp ⟨wl.toArray⟩ = G := by rw [HGG.out]; unfold fitP; simp
          have kG : (G == G) = true := by simp
          rw [hfg] at FA
          clear HG HGG HCG hfg
          go_wp2_with fail
          refine FA.out.mono ?_
          rintro e w6 ⟨rfl, hb6⟩
          have B6 := hide (B5.out.trans (hb6.mono B5.out.size))
          clear hb6 FA R5 RO5 B5 k0 k1 k2 k3 k4 k5 k6 o0 o1 o2 o3 hgc hg0
          go_wp2_with fail
          refine (XA.out _ B6.out).mono ?_
          rintro e w7 ⟨rfl, hb7⟩
          have B7 : Hid (Below w.heap.size w w7) := B6.out.trans (hb7.mono B6.out.size)
          clear hb7
          go_wp2_with fail
          go_ret
          exact ⟨rfl, B7.out⟩
end Go.Proofs.YtlmchmhdojkokaaDoor
