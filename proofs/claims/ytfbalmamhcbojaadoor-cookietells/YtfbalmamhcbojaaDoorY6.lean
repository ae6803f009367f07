/- The walk over moatref7.Read (text by make/y6.py). -/
import Derived.Test.YtfbalmamhcbojaaDoorY5
import Derived.Test.YtfbalmamhcbojaaDoorRH
import Derived.Test.YtfbalmamhcbojaaDoorV9
namespace Go.Proofs.YtfbalmamhcbojaaDoor
open Go.RowKit Go.Proofs.Url

theorem resRef {W : World} {r : Nat} {c : Ck} {b : Bool} {tmps : Array Value} (h : CBox W r c) (h4 : tmps[4]?.getD undef = .pointer (some ⟨r, 0, none⟩)) (h5 : tmps[5]?.getD undef = .bool b) :
    (results Tryd.f8 tmps).run Tryd.prog W = .ok (.tuple #[ckA c, .bool b]) W := by
  obtain ⟨c0, c1, c2, c3, c4, c5, c6, _⟩ := h
  simp [results, Tryd.results8, go_sem, h4, h5, c0, c1, c2, c3, c4, c5, c6, ckA]
/-- A key that was there before: no cookie; one that was not: by itself. -/
theorem step_old {h : List UInt8} {ps : List (List UInt8 × List UInt8)} {c : Ck} {k j : Nat} (hk : k < ps.length) (hf : foldC h (ps.take k) = some c) (hj : j < k) (he : (ps[j]'(by omega)).1 = ps[k].1) : stepC h c ps[k] = none := by
  have hs := fold_keys h _ _ rfl c hf ps[k].1
  have hm : (keysOf (ps.take k)).contains ps[k].1 = true := by
    rw [List.contains_iff_mem, ← he]
    unfold keysOf
    refine List.mem_map.2 ⟨ps[j], ?_, rfl⟩
    rw [List.mem_take_iff_getElem]
    exact ⟨j, by omega, rfl⟩
  unfold stepC
  rw [hs, hm]; simp
theorem step_fresh {h : List UInt8} {ps : List (List UInt8 × List UInt8)} {c : Ck} {k : Nat} (hk : k < ps.length) (hf : foldC h (ps.take k) = some c) (hn : ∀ i (hi : i < ps.length), i < k → ps[i].1 ≠ ps[k].1) :
    stepC h c ps[k] = if okA h ps[k].1 ps[k].2 = true then some (setA c ps[k].1 ps[k].2) else none := by
  have hs := fold_keys h _ _ rfl c hf ps[k].1
  have hm : (keysOf (ps.take k)).contains ps[k].1 = false := by
    cases e : (keysOf (ps.take k)).contains ps[k].1
    · rfl
    · rw [List.contains_iff_mem] at e
      unfold keysOf at e
      obtain ⟨q, hq, he⟩ := List.mem_map.1 e
      rw [List.mem_take_iff_getElem] at hq
      obtain ⟨i, hi, rfl⟩ := hq
      exact absurd he (hn i (by omega) (by omega))
  unfold stepC
  rw [hs, hm]; simp
theorem fold_next {h : List UInt8} {ps : List (List UInt8 × List UInt8)} {c : Ck} {k : Nat} {b : Bool} {p : List UInt8 × List UInt8} (hb : b = true) (ht : foldC h (ps.take (k + 1)) = if okA h p.1 p.2 = true then some (setA c p.1 p.2) else none) (ho : okA h p.1 p.2 = b) :
    foldC h (ps.take (k + 1)) = some (setA c p.1 p.2) := by rw [ht, ho, if_pos hb]
theorem fill_next {W : World} {g : Nat} {h k v : List UInt8} {c d : Ck} (ho : okA h k v = true) (hd : setA (fillC c) k v = d) (hb : CBox W g d) : CBox W g (fillC (setA c k v)) := by rw [fill_set ho, hd]; exact hb
theorem okA_dom (h v : List UInt8) : okA h kDomain v = mayDom h v := by unfold okA; rw [if_pos rfl]
theorem okA_path (h v : List UInt8) : okA h kPath v = path v := by unfold okA; rw [if_neg keys_apart.1, if_pos rfl]
theorem okA_sec (h v : List UInt8) : okA h kSecure v = v.isEmpty := by unfold okA; rw [if_neg keys_apart.2.1, if_neg keys_apart.2.2.1, if_pos rfl]
theorem okA_http (h v : List UInt8) : okA h kHttp v = v.isEmpty := by unfold okA; rw [if_neg keys_apart.2.2.2.1, if_neg keys_apart.2.2.2.2.1, if_neg keys_apart.2.2.2.2.2.1, if_pos rfl]
theorem okA_same (h v : List UInt8) : okA h kSame v = decide (0 < sameV v) := by
  obtain ⟨_, _, _, _, _, _, a, b, d, e⟩ := keys_apart
  unfold okA; rw [if_neg a, if_neg b, if_neg d, if_neg e, if_pos rfl]
theorem okA_else (h k v : List UInt8) (h1 : k ≠ kDomain) (h2 : k ≠ kPath) (h3 : k ≠ kSecure) (h4 : k ≠ kHttp) (h5 : k ≠ kSame) : okA h k v = false := by
  unfold okA; simp [h1, h2, h3, h4, h5]

theorem refPathL_any (l : List UInt8) (w : World) (h : l.length < 4294967281) :
    Calls Tryd.prog 19 #[.string ⟨l.toArray⟩] w fun e w' => e = .returned (.bool (path l)) ∧ w' = w := refPath_any ⟨l.toArray⟩ w (by rw [size_mk]; unfold maxLen; omega)
set_option maxHeartbeats 4000000 in
set_option maxRecDepth 100000 in
theorem refRead7_any (h s : List UInt8) (w : World) (hh : h.length < 4294967281) (hs : s.length < 4294967281) :
    Calls Tryd.prog 8 #[.string ⟨h.toArray⟩, .string ⟨s.toArray⟩] w fun e w' => e = .returned (ckV (cookieS h s)) ∧ Below w.heap.size w w' := by
  have HLe := hide (pairs_le s)
  have hcnt : (pairsS s).length ≤ s.length + 1 := by rw [pairs_pieces, List.length_map]; exact pieces_count 59 s
  go_enter Tryd.func8, Tryd.ntmps8
  go_wp2_with fail
  obtain ⟨W1, hW1⟩ : ∃ W1, W1 = (w.alloc (Obj.cells #[.string ⟨#[]⟩, .int .i64 0, .string ⟨#[]⟩, .string ⟨#[]⟩, .bool false, .bool false, .int .i64 0] 23)).alloc (Obj.cells #[.string ⟨#[]⟩, .int .i64 0, .string ⟨#[]⟩, .string ⟨#[47]⟩, .bool false, .bool false, .int .i64 2] 23) := ⟨_, rfl⟩
  rw [← hW1]
  have Z1 : Hid (CBox W1 w.heap.size zeroC) := by
    unfold Hid; rw [hW1]
    exact (CBox.new w 23).keep ((Below.refl _ _).alloc (Nat.le_refl _) _)
  have C1 : Hid (CBox W1 (w.heap.size + 1) (fillC zeroC)) := by
    have hc := CBox.newC (w.alloc (Obj.cells #[.string ⟨#[]⟩, .int .i64 0, .string ⟨#[]⟩, .string ⟨#[]⟩, .bool false, .bool false, .int .i64 0] 23)) 23 (fillC zeroC)
    rw [World.size_alloc] at hc
    unfold Hid; rw [hW1]
    exact hc
  have B1 : Hid (Below w.heap.size w W1) := by
    unfold Hid; rw [hW1]
    exact ((Below.refl _ _).alloc (Nat.le_refl _) _).alloc (by rw [World.size_alloc]; omega) _
  have hsz : W1.heap.size = w.heap.size + 2 := by rw [hW1]; simp only [World.size_alloc]
  clear hW1
  refine (refPairs_any s _ hs).mono ?_
  rintro e w2 ⟨ao, cap, rfl, hown, hb2⟩
  have Z2 := hide (Z1.out.keep hb2)
  have C2 := hide (C1.out.keep hb2)
  have B2 := hide (B1.out.trans (hb2.mono (by omega)))
  have P2 : Hid (PairsFar w2 (w.heap.size + 2) ao (pairsS s)) := by
    have := pairsFar_own hown
    rw [hsz] at this
    exact this
  clear hb2 hown Z1 C1 B1 hsz
  clear W1
  obtain ⟨g, hg⟩ : ∃ g, g = w.heap.size + 1 := ⟨_, rfl⟩
  rw [← hg] at C2
  rw [show w.heap.size + 2 = g + 1 by omega] at P2
  have hrg : w.heap.size < g := by omega
  rw [← hg]
  clear hg
  go_wp2_with fail
  go_loopw [8] (fun iv W => ∃ (k : Nat) (c : Ck), k ≤ (pairsS s).length ∧ iv = .int .i64 k ∧ Hid (foldC h ((pairsS s).take k) = some c) ∧ Hid (CBox W w.heap.size zeroC) ∧ Hid (CBox W g (fillC c)) ∧ Hid (PairsFar W (g + 1) ao (pairsS s)) ∧ Hid (Below w.heap.size w W)) (fun iv _ => (pairsS s).length - (intOf iv).toNat)
  case atStart => exact ⟨0, zeroC, Nat.zero_le _, rfl, rfl, Z2, C2, P2, B2⟩
  case round =>
    clear Z2 C2 P2 B2
    obtain ⟨k, c, hk, rfl, HF, HZ, HC, HP, HB⟩ := hrel
    by_cases hlt : k < (pairsS s).length
    · have hlI : (k : Int) < ((pairsS s).length : Int) := by omega
      go_wp2_with fail
      go_loopw [9] (fun jv W => ∃ (j : Nat), j ≤ k ∧ jv = .int .i64 j ∧ Hid (∀ i (hi : i < (pairsS s).length), i < j → (pairsS s)[i].1 ≠ (pairsS s)[k].1) ∧ Hid (CBox W w.heap.size zeroC) ∧ Hid (CBox W g (fillC c)) ∧ Hid (PairsFar W (g + 1) ao (pairsS s)) ∧ Hid (Below w.heap.size w W)) (fun jv _ => k - (intOf jv).toNat)
      case atStart => exact ⟨0, Nat.zero_le _, rfl, fun i _ hi => absurd hi (by omega), HZ, HC, HP, HB⟩
      case round =>
        clear HZ HC HP HB
        obtain ⟨j, hj, rfl, HJ, HZ, HC, HP, HB⟩ := hrel
        obtain ⟨b, hgb, rfl, hc1, hc2⟩ := HP.out k hlt
        rw [Nat.mul_comm] at hc1 hc2
        have hgl := HC.out.lt
        have hZl := HZ.out.lt
        by_cases hjk : j < k
        · have hjI : (j : Int) < (k : Int) := by omega
          have hjl : j < (pairsS s).length := by omega
          have hjI2 : (j : Int) < ((pairsS s).length : Int) := by omega
          obtain ⟨b', _, hbe, hd1, _⟩ := HP.out j hjl
          cases hbe
          rw [Nat.mul_comm] at hd1
          by_cases he : (pairsS s)[j].1 = (pairsS s)[k].1
          · have HN : Hid (cookieS h s = none) := cookie_dead (foldC_dead hlt HF.out (step_old hlt HF.out hjk he))
            have hbt : ((pairsS s)[j].1 == (pairsS s)[k].1) = true := beq_iff_eq.2 he
            clear he
            go_wp2_with fail
            go_quiet (fail)
            have hD : Below wr.heap.size wr (wr.drewN nq) := _root_.Go.below_drewN (Below.refl _ _) _
            have HZn := hide (HZ.out.keep hD)
            have HCn := hide (HC.out.keep hD)
            have HPn := hide (HP.out.keep hD)
            have HBn := hide (HB.out.trans (hD.mono HB.out.size))
            clear hD HZ HC HP HB hc1 hc2 hd1 hgl hZl
            generalize wr.drewN nq = wq at *
            have HZw := hide (CBox.put HZn.out zeroC)
            have HBw := hide (put_below HBn.out w.heap.size (Nat.le_refl _) zeroC)
            have hltz := HZn.out.lt
            obtain ⟨z0, z1, z2, z3, z4, z5, z6, zf⟩ := HZn.out
            have f0 := zf 0 (by decide)
            have f1 := zf 1 (by decide)
            have f2 := zf 2 (by decide)
            have f3 := zf 3 (by decide)
            have f4 := zf 4 (by decide)
            have f5 := zf 5 (by decide)
            have f6 := zf 6 (by decide)
            clear zf
            go_wp2_with fail
            unfold put7 zeroC at HZw HBw
            simp only at HZw HBw
            refine bodyPost_ret (v := ckV none) ?_ rfl ⟨by rw [HN.out], HBw.out⟩
            exact resRef (b := false) HZw.out rfl rfl
          · have hbt : ((pairsS s)[j].1 == (pairsS s)[k].1) = false := beq_eq_false_iff_ne.2 he
            have HJ2 : Hid (∀ i (hi : i < (pairsS s).length), i < j + 1 → (pairsS s)[i].1 ≠ (pairsS s)[k].1) := fun i hi hij => by
              by_cases e : i = j
              · subst e; exact he
              · exact HJ.out i hi (by omega)
            clear he
            go_wp2_with fail
            go_quiet (fail)
            have hD : Below wr.heap.size wr (wr.drewN nq) := _root_.Go.below_drewN (Below.refl _ _) _
            have HZn := hide (HZ.out.keep hD)
            have HCn := hide (HC.out.keep hD)
            have HPn := hide (HP.out.keep hD)
            have HBn := hide (HB.out.trans (hD.mono HB.out.size))
            clear hD HZ HC HP HB hc1 hc2 hd1 hgl hZl
            generalize wr.drewN nq = wq at *
            go_wp2_with fail
            exact ⟨⟨j + 1, by omega, by go_num, HJ2, HZn, HCn, HPn, HBn⟩, by simp [intOf]; omega⟩
        · have HS := hide (step_fresh hlt HF.out (fun i hi hik => HJ.out i hi (by omega)))
          have HT := hide ((foldC_take hlt HF.out).trans HS.out)
          have HD : Hid (okA h (pairsS s)[k].1 (pairsS s)[k].2 = false → cookieS h s = none) := fun ho => cookie_dead (foldC_dead hlt HF.out (by rw [HS.out, ho]; rfl))
          have hv := (HLe.out _ (List.getElem_mem hlt)).2
          have hjI : ¬ (j : Int) < (k : Int) := by omega
          clear HJ HS HF
          generalize (pairsS s)[k] = p at *
          obtain ⟨key, v⟩ := p
          simp only at hc1 hc2 hv HT HD
          by_cases k1 : key = kDomain
          · subst k1
            have HOk := hide (okA_dom h v)
            have HMd : Hid (mayDom h v = (underS h v && decide (2 ≤ (labelsS v).length))) := rfl
            unfold kDomain at hc1
            have hXa := (But.refl g wr.heap.size wr).set 2 (.string ⟨v.toArray⟩)
            have HZa := hide (HZ.out.but hXa (by omega))
            have HPa := hide (HP.out.but (Nat.lt_succ_self g) hXa)
            have HBa := hide (HB.out.setCell (p := ⟨g, 2, none⟩) (Nat.le_of_lt hrg) (.string ⟨v.toArray⟩))
            have HCa := hide (HC.out.setDom v)
            have qca := HC.out.c2
            have qfa := HC.out.fr 2 (by decide)
            clear hXa
            go_wp2_with fail
            refine (refUnder_any h v _ hh (by omega)).mono ?_
            rintro e w4 ⟨rfl, hb4⟩
            have HZb := hide (HZa.out.keep hb4)
            have HCb := hide (HCa.out.keep hb4)
            have HPb := hide (HPa.out.keep hb4)
            have HBb := hide (HBa.out.trans (hb4.mono HBa.out.size))
            clear hb4 HZa HCa HPa HBa
            clear HZ HC HP HB qca qfa hgl hZl
            cases hu : underS h v with
            | false =>
              have HO : Hid (okA h kDomain v = false) := by unfold Hid; rw [HOk.out, HMd.out, hu]; rfl
              have HZn := HZb
              have HBn := HBb
              have HN := hide (HD.out HO.out)
              clear HD HT HO HCb HPb hu hc1 hc2
              have HZw := hide (CBox.put HZn.out zeroC)
              have HBw := hide (put_below HBn.out w.heap.size (Nat.le_refl _) zeroC)
              have hltz := HZn.out.lt
              obtain ⟨z0, z1, z2, z3, z4, z5, z6, zf⟩ := HZn.out
              have f0 := zf 0 (by decide)
              have f1 := zf 1 (by decide)
              have f2 := zf 2 (by decide)
              have f3 := zf 3 (by decide)
              have f4 := zf 4 (by decide)
              have f5 := zf 5 (by decide)
              have f6 := zf 6 (by decide)
              clear zf
              go_wp2_with fail
              unfold put7 zeroC at HZw HBw
              simp only at HZw HBw
              refine bodyPost_ret (v := ckV none) ?_ rfl ⟨by rw [HN.out], HBw.out⟩
              exact resRef (b := false) HZw.out rfl rfl
            | true =>
              have HOk2 : Hid (okA h kDomain v = decide (2 ≤ (labelsS v).length)) := by unfold Hid; rw [HOk.out, HMd.out, hu]; rfl
              clear hu HOk HMd
              go_wp2_with fail
              refine (refLabels_len v _ (by omega)).mono ?_
              rintro e w5 ⟨ao5, cap5, rfl, hb5⟩
              have HZn := hide (HZb.out.keep hb5)
              have HCn := hide (HCb.out.keep hb5)
              have HPn := hide (HPb.out.keep hb5)
              have HBn := hide (HBb.out.trans (hb5.mono HBb.out.size))
              clear hb5 HZb HCb HPb HBb
              obtain ⟨n, hn⟩ : ∃ n, n = (labelsS v).length := ⟨_, rfl⟩
              rw [← hn]
              rw [← hn] at HOk2
              clear hn
              by_cases h2 : 2 ≤ n
              · have h2I : (2 : Int) ≤ (n : Int) := by omega
                have HO : Hid (okA h kDomain v = true) := by unfold Hid; rw [HOk2.out, decide_eq_true h2]
                clear h2 HOk2 HD hc1 hc2
                have HF2 : Hid (foldC h ((pairsS s).take (k + 1)) = some (setA c kDomain v)) := by unfold Hid; rw [HT.out, HO.out]; rfl
                have HC2 := hide (fill_next HO.out (set_dom (fillC c) v) HCn.out)
                clear HT HO HCn
                go_wp2_with fail
                exact ⟨⟨k + 1, _, by omega, by go_num, HF2, HZn, HC2, HPn, HBn⟩, by simp [intOf]; omega⟩
              · have h2I : ¬ (2 : Int) ≤ (n : Int) := by omega
                have HO : Hid (okA h kDomain v = false) := by unfold Hid; rw [HOk2.out, decide_eq_false h2]
                have hd2 : decide ((2 : Int) ≤ (n : Int)) = false := decide_eq_false h2I
                clear h2 HOk2 h2I
                have HN := hide (HD.out HO.out)
                clear HD HT HO HCn HPn hc1 hc2
                have HZw := hide (CBox.put HZn.out zeroC)
                have HBw := hide (put_below HBn.out w.heap.size (Nat.le_refl _) zeroC)
                have hltz := HZn.out.lt
                obtain ⟨z0, z1, z2, z3, z4, z5, z6, zf⟩ := HZn.out
                have f0 := zf 0 (by decide)
                have f1 := zf 1 (by decide)
                have f2 := zf 2 (by decide)
                have f3 := zf 3 (by decide)
                have f4 := zf 4 (by decide)
                have f5 := zf 5 (by decide)
                have f6 := zf 6 (by decide)
                clear zf
                go_wp2_with fail
                unfold put7 zeroC at HZw HBw
                simp only at HZw HBw
                refine bodyPost_ret (v := ckV none) ?_ rfl ⟨by rw [HN.out], HBw.out⟩
                exact resRef (b := false) HZw.out rfl rfl
          by_cases k2 : key = kPath
          · subst k2
            clear k1
            have HOk := hide (okA_path h v)
            have HPa := hide (fun W => refPathL_any v W (by omega))
            unfold kPath at hc1
            have hXn := (But.refl g wr.heap.size wr).set 3 (.string ⟨v.toArray⟩)
            have HZn := hide (HZ.out.but hXn (by omega))
            have HPn := hide (HP.out.but (Nat.lt_succ_self g) hXn)
            have HBn := hide (HB.out.setCell (p := ⟨g, 3, none⟩) (Nat.le_of_lt hrg) (.string ⟨v.toArray⟩))
            have HCn := hide (HC.out.setWay v)
            have qcn := HC.out.c3
            have qfn := HC.out.fr 3 (by decide)
            clear hXn
            go_wp2_with fail
            refine (HPa.out _).mono ?_
            rintro e w4 ⟨rfl, hw4⟩
            subst hw4
            cases hp : path v with
            | true =>
              have HO : Hid (okA h kPath v = true) := by unfold Hid; rw [HOk.out, hp]
              clear hp HOk HD hc1 hc2 HZ HC HP HB qcn qfn hgl hZl
              have HF2 : Hid (foldC h ((pairsS s).take (k + 1)) = some (setA c kPath v)) := by unfold Hid; rw [HT.out, HO.out]; rfl
              have HC2 := hide (fill_next HO.out (set_path (fillC c) v) HCn.out)
              clear HT HO HCn
              go_wp2_with fail
              exact ⟨⟨k + 1, _, by omega, by go_num, HF2, HZn, HC2, HPn, HBn⟩, by simp [intOf]; omega⟩
            | false =>
              have HO : Hid (okA h kPath v = false) := by unfold Hid; rw [HOk.out, hp]
              clear hp HOk
              have HN := hide (HD.out HO.out)
              clear HD HT HO HCn HPn hc1 hc2
              have HZw := hide (CBox.put HZn.out zeroC)
              have HBw := hide (put_below HBn.out w.heap.size (Nat.le_refl _) zeroC)
              obtain ⟨z0, z1, z2, z3, z4, z5, z6, zf⟩ := HZ.out
              have f0 := zf 0 (by decide)
              have f1 := zf 1 (by decide)
              have f2 := zf 2 (by decide)
              have f3 := zf 3 (by decide)
              have f4 := zf 4 (by decide)
              have f5 := zf 5 (by decide)
              have f6 := zf 6 (by decide)
              clear zf
              go_wp2_with fail
              unfold put7 zeroC at HZw HBw
              simp only at HZw HBw
              refine bodyPost_ret (v := ckV none) ?_ rfl ⟨by rw [HN.out], HBw.out⟩
              exact resRef (b := false) HZw.out rfl rfl
          by_cases k3 : key = kSecure
          · subst k3
            clear k1 k2
            have HOk := hide (okA_sec h v)
            unfold kSecure at hc1
            have hXn := (But.refl g wr.heap.size wr).set 4 (.bool true)
            have HZn := hide (HZ.out.but hXn (by omega))
            have HPn := hide (HP.out.but (Nat.lt_succ_self g) hXn)
            have HBn := hide (HB.out.setCell (p := ⟨g, 4, none⟩) (Nat.le_of_lt hrg) (.bool true))
            have HCn := hide (HC.out.setSec true)
            have qcn := HC.out.c4
            have qfn := HC.out.fr 4 (by decide)
            clear hXn
            cases hp : v.isEmpty with
            | true =>
              have HO : Hid (okA h kSecure v = true) := by unfold Hid; rw [HOk.out, hp]
              clear HOk HD
              have HF2 : Hid (foldC h ((pairsS s).take (k + 1)) = some (setA c kSecure v)) := by unfold Hid; rw [HT.out, HO.out]; rfl
              have HC2 := hide (fill_next HO.out (set_sec (fillC c) v) HCn.out)
              clear HT HO HCn
              go_wp2_with fail
              exact ⟨⟨k + 1, _, by omega, by go_num, HF2, HZn, HC2, HPn, HBn⟩, by simp [intOf]; omega⟩
            | false =>
              have HO : Hid (okA h kSecure v = false) := by unfold Hid; rw [HOk.out, hp]
              clear HOk
              have HN := hide (HD.out HO.out)
              clear HD HT HO HCn HPn
              have HZw := hide (CBox.put HZn.out zeroC)
              have HBw := hide (put_below HBn.out w.heap.size (Nat.le_refl _) zeroC)
              obtain ⟨z0, z1, z2, z3, z4, z5, z6, zf⟩ := HZ.out
              have f0 := zf 0 (by decide)
              have f1 := zf 1 (by decide)
              have f2 := zf 2 (by decide)
              have f3 := zf 3 (by decide)
              have f4 := zf 4 (by decide)
              have f5 := zf 5 (by decide)
              have f6 := zf 6 (by decide)
              clear zf
              go_wp2_with fail
              unfold put7 zeroC at HZw HBw
              simp only at HZw HBw
              refine bodyPost_ret (v := ckV none) ?_ rfl ⟨by rw [HN.out], HBw.out⟩
              exact resRef (b := false) HZw.out rfl rfl
          by_cases k4 : key = kHttp
          · subst k4
            clear k1 k2 k3
            have HOk := hide (okA_http h v)
            unfold kHttp at hc1
            have hXn := (But.refl g wr.heap.size wr).set 5 (.bool true)
            have HZn := hide (HZ.out.but hXn (by omega))
            have HPn := hide (HP.out.but (Nat.lt_succ_self g) hXn)
            have HBn := hide (HB.out.setCell (p := ⟨g, 5, none⟩) (Nat.le_of_lt hrg) (.bool true))
            have HCn := hide (HC.out.setHtt true)
            have qcn := HC.out.c5
            have qfn := HC.out.fr 5 (by decide)
            clear hXn
            cases hp : v.isEmpty with
            | true =>
              have HO : Hid (okA h kHttp v = true) := by unfold Hid; rw [HOk.out, hp]
              clear HOk HD
              have HF2 : Hid (foldC h ((pairsS s).take (k + 1)) = some (setA c kHttp v)) := by unfold Hid; rw [HT.out, HO.out]; rfl
              have HC2 := hide (fill_next HO.out (set_http (fillC c) v) HCn.out)
              clear HT HO HCn
              go_wp2_with fail
              exact ⟨⟨k + 1, _, by omega, by go_num, HF2, HZn, HC2, HPn, HBn⟩, by simp [intOf]; omega⟩
            | false =>
              have HO : Hid (okA h kHttp v = false) := by unfold Hid; rw [HOk.out, hp]
              clear HOk
              have HN := hide (HD.out HO.out)
              clear HD HT HO HCn HPn
              have HZw := hide (CBox.put HZn.out zeroC)
              have HBw := hide (put_below HBn.out w.heap.size (Nat.le_refl _) zeroC)
              obtain ⟨z0, z1, z2, z3, z4, z5, z6, zf⟩ := HZ.out
              have f0 := zf 0 (by decide)
              have f1 := zf 1 (by decide)
              have f2 := zf 2 (by decide)
              have f3 := zf 3 (by decide)
              have f4 := zf 4 (by decide)
              have f5 := zf 5 (by decide)
              have f6 := zf 6 (by decide)
              clear zf
              go_wp2_with fail
              unfold put7 zeroC at HZw HBw
              simp only at HZw HBw
              refine bodyPost_ret (v := ckV none) ?_ rfl ⟨by rw [HN.out], HBw.out⟩
              exact resRef (b := false) HZw.out rfl rfl
          by_cases k5 : key = kSame
          · subst k5
            clear k1 k2 k3 k4
            have HOk := hide (okA_same h v)
            have HSv : Hid (sameV v = lowV (lowerS v)) := rfl
            have HLo := hide (fun W => refLower_any v W (by omega))
            unfold kSame at hc1
            have hXa := (But.refl g wr.heap.size wr).set 6 (.int .i64 0)
            have HZa := hide (HZ.out.but hXa (by omega))
            have HPa := hide (HP.out.but (Nat.lt_succ_self g) hXa)
            have HBa := hide (HB.out.setCell (p := ⟨g, 6, none⟩) (Nat.le_of_lt hrg) (.int .i64 0))
            have HCa := hide (HC.out.setSame 0)
            have qca := HC.out.c6
            have qfa := HC.out.fr 6 (by decide)
            clear hXa
            go_wp2_with fail
            refine (HLo.out _).mono ?_
            rintro e w4 ⟨rfl, hb4⟩
            have HZb := hide (HZa.out.keep hb4)
            have HCb := hide (HCa.out.keep hb4)
            have HPb := hide (HPa.out.keep hb4)
            have HBb := hide (HBa.out.trans (hb4.mono HBa.out.size))
            clear hb4 HZa HCa HPa HBa
            clear HZ HC HP HB qca qfa hgl hZl HLo hc1 hc2
            have hgl4 := HCb.out.lt
            have hzl4 := HZb.out.lt
            generalize lowerS v = lo at *
            by_cases l1 : lo = vNone
            · have HV : Hid (sameV v = 1) := by unfold Hid; rw [HSv.out, lowV, if_pos l1]
              have HO : Hid (okA h kSame v = true) := by unfold Hid; rw [HOk.out, HV.out]; rfl
              have e1 : (lo == [110, 111, 110, 101]) = true := beq_iff_eq.2 l1
              clear l1 HOk HSv HD
              have hXn := (But.refl g w4.heap.size w4).set 6 (.int .i64 1)
              have HZn := hide (HZb.out.but hXn (by omega))
              have HPn := hide (HPb.out.but (Nat.lt_succ_self g) hXn)
              have HBn := hide (HBb.out.setCell (p := ⟨g, 6, none⟩) (Nat.le_of_lt hrg) (.int .i64 1))
              have HCn := hide (HCb.out.setSame 1)
              have qcn := HCb.out.c6
              have qfn := HCb.out.fr 6 (by decide)
              clear hXn
              clear HZb HCb HPb HBb
              have HF2 : Hid (foldC h ((pairsS s).take (k + 1)) = some (setA c kSame v)) := by unfold Hid; rw [HT.out, HO.out]; rfl
              have HC2 := hide (fill_next HO.out (by rw [set_same, HV.out]) HCn.out)
              clear HT HO HCn
              go_wp2_with fail
              exact ⟨⟨k + 1, _, by omega, by go_num, HF2, HZn, HC2, HPn, HBn⟩, by simp [intOf]; omega⟩
            by_cases l2 : lo = vLax
            · have HV : Hid (sameV v = 2) := by unfold Hid; rw [HSv.out, lowV, if_neg l1, if_pos l2]
              have HO : Hid (okA h kSame v = true) := by unfold Hid; rw [HOk.out, HV.out]; rfl
              have e1 : (lo == [110, 111, 110, 101]) = false := beq_eq_false_iff_ne.2 l1
              have e2 : (lo == [108, 97, 120]) = true := beq_iff_eq.2 l2
              clear l1 l2 HOk HSv HD
              have hXn := (But.refl g w4.heap.size w4).set 6 (.int .i64 2)
              have HZn := hide (HZb.out.but hXn (by omega))
              have HPn := hide (HPb.out.but (Nat.lt_succ_self g) hXn)
              have HBn := hide (HBb.out.setCell (p := ⟨g, 6, none⟩) (Nat.le_of_lt hrg) (.int .i64 2))
              have HCn := hide (HCb.out.setSame 2)
              have qcn := HCb.out.c6
              have qfn := HCb.out.fr 6 (by decide)
              clear hXn
              clear HZb HCb HPb HBb
              have HF2 : Hid (foldC h ((pairsS s).take (k + 1)) = some (setA c kSame v)) := by unfold Hid; rw [HT.out, HO.out]; rfl
              have HC2 := hide (fill_next HO.out (by rw [set_same, HV.out]) HCn.out)
              clear HT HO HCn
              go_wp2_with fail
              exact ⟨⟨k + 1, _, by omega, by go_num, HF2, HZn, HC2, HPn, HBn⟩, by simp [intOf]; omega⟩
            by_cases l3 : lo = vStrict
            · have HV : Hid (sameV v = 3) := by unfold Hid; rw [HSv.out, lowV, if_neg l1, if_neg l2, if_pos l3]
              have HO : Hid (okA h kSame v = true) := by unfold Hid; rw [HOk.out, HV.out]; rfl
              have e1 : (lo == [110, 111, 110, 101]) = false := beq_eq_false_iff_ne.2 l1
              have e2 : (lo == [108, 97, 120]) = false := beq_eq_false_iff_ne.2 l2
              have e3 : (lo == [115, 116, 114, 105, 99, 116]) = true := beq_iff_eq.2 l3
              clear l1 l2 l3 HOk HSv HD
              have hXn := (But.refl g w4.heap.size w4).set 6 (.int .i64 3)
              have HZn := hide (HZb.out.but hXn (by omega))
              have HPn := hide (HPb.out.but (Nat.lt_succ_self g) hXn)
              have HBn := hide (HBb.out.setCell (p := ⟨g, 6, none⟩) (Nat.le_of_lt hrg) (.int .i64 3))
              have HCn := hide (HCb.out.setSame 3)
              have qcn := HCb.out.c6
              have qfn := HCb.out.fr 6 (by decide)
              clear hXn
              clear HZb HCb HPb HBb
              have HF2 : Hid (foldC h ((pairsS s).take (k + 1)) = some (setA c kSame v)) := by unfold Hid; rw [HT.out, HO.out]; rfl
              have HC2 := hide (fill_next HO.out (by rw [set_same, HV.out]) HCn.out)
              clear HT HO HCn
              go_wp2_with fail
              exact ⟨⟨k + 1, _, by omega, by go_num, HF2, HZn, HC2, HPn, HBn⟩, by simp [intOf]; omega⟩
            have HV : Hid (sameV v = 0) := by unfold Hid; rw [HSv.out, lowV, if_neg l1, if_neg l2, if_neg l3]
            have HO : Hid (okA h kSame v = false) := by unfold Hid; rw [HOk.out, HV.out]; rfl
            have e1 : (lo == [110, 111, 110, 101]) = false := beq_eq_false_iff_ne.2 l1
            have e2 : (lo == [108, 97, 120]) = false := beq_eq_false_iff_ne.2 l2
            have e3 : (lo == [115, 116, 114, 105, 99, 116]) = false := beq_eq_false_iff_ne.2 l3
            have qc := HCb.out.c6
            clear l1 l2 l3 HOk HSv
            have HZn := HZb
            have HBn := HBb
            have HN := hide (HD.out HO.out)
            clear HD HT HO HCb HPb HV
            have HZw := hide (CBox.put HZn.out zeroC)
            have HBw := hide (put_below HBn.out w.heap.size (Nat.le_refl _) zeroC)
            have hltz := HZn.out.lt
            obtain ⟨z0, z1, z2, z3, z4, z5, z6, zf⟩ := HZn.out
            have f0 := zf 0 (by decide)
            have f1 := zf 1 (by decide)
            have f2 := zf 2 (by decide)
            have f3 := zf 3 (by decide)
            have f4 := zf 4 (by decide)
            have f5 := zf 5 (by decide)
            have f6 := zf 6 (by decide)
            clear zf
            go_wp2_with fail
            unfold put7 zeroC at HZw HBw
            simp only at HZw HBw
            refine bodyPost_ret (v := ckV none) ?_ rfl ⟨by rw [HN.out], HBw.out⟩
            exact resRef (b := false) HZw.out rfl rfl
          have HO := hide (okA_else h key v k1 k2 k3 k4 k5)
          have HN := hide (HD.out HO.out)
          have e1 : (key == [100, 111, 109, 97, 105, 110]) = false := beq_eq_false_iff_ne.2 k1
          have e2 : (key == [112, 97, 116, 104]) = false := beq_eq_false_iff_ne.2 k2
          have e3 : (key == [115, 101, 99, 117, 114, 101]) = false := beq_eq_false_iff_ne.2 k3
          have e4 : (key == [104, 116, 116, 112, 111, 110, 108, 121]) = false := beq_eq_false_iff_ne.2 k4
          have e5 : (key == [115, 97, 109, 101, 115, 105, 116, 101]) = false := beq_eq_false_iff_ne.2 k5
          have HZn := HZ
          have HBn := HB
          clear k1 k2 k3 k4 k5 HD HT HO
          have HZw := hide (CBox.put HZn.out zeroC)
          have HBw := hide (put_below HBn.out w.heap.size (Nat.le_refl _) zeroC)
          have hltz := HZn.out.lt
          obtain ⟨z0, z1, z2, z3, z4, z5, z6, zf⟩ := HZn.out
          have f0 := zf 0 (by decide)
          have f1 := zf 1 (by decide)
          have f2 := zf 2 (by decide)
          have f3 := zf 3 (by decide)
          have f4 := zf 4 (by decide)
          have f5 := zf 5 (by decide)
          have f6 := zf 6 (by decide)
          clear zf
          go_wp2_with fail
          unfold put7 zeroC at HZw HBw
          simp only at HZw HBw
          refine bodyPost_ret (v := ckV none) ?_ rfl ⟨by rw [HN.out], HBw.out⟩
          exact resRef (b := false) HZw.out rfl rfl
    · have HF2 : Hid (foldC h (pairsS s) = some c) := by
        have := HF.out
        rwa [List.take_of_length_le (by omega)] at this
      have hkI : ¬ (k : Int) < ((pairsS s).length : Int) := by omega
      have HL := hide (fun hho => cookie_live (h := h) (s := s) hho HF2.out)
      clear HF HF2 HP
      generalize fillC c = d at *
      go_wp2_with fail
      refine (refHostL_any h _ hh).mono ?_
      rintro e w4 ⟨rfl, hb4⟩
      have HZn := hide (HZ.out.keep hb4)
      have HCn := hide (HC.out.keep hb4)
      have HBn := hide (HB.out.trans (hb4.mono HB.out.size))
      clear hb4 HZ HC HB
      have hlg4 := HCn.out.lt
      cases hho : host h with
      | false =>
        have HN := hide (cookie_nohost (s := s) hho)
        clear hho HL HCn
        have HZw := hide (CBox.put HZn.out zeroC)
        have HBw := hide (put_below HBn.out w.heap.size (Nat.le_refl _) zeroC)
        have hltz := HZn.out.lt
        obtain ⟨z0, z1, z2, z3, z4, z5, z6, zf⟩ := HZn.out
        have f0 := zf 0 (by decide)
        have f1 := zf 1 (by decide)
        have f2 := zf 2 (by decide)
        have f3 := zf 3 (by decide)
        have f4 := zf 4 (by decide)
        have f5 := zf 5 (by decide)
        have f6 := zf 6 (by decide)
        clear zf
        go_wp2_with fail
        unfold put7 zeroC at HZw HBw
        simp only at HZw HBw
        refine bodyPost_ret (v := ckV none) ?_ rfl ⟨by rw [HN.out], HBw.out⟩
        exact resRef (b := false) HZw.out rfl rfl
      | true =>
        have HL2 := hide (HL.out hho)
        clear hho HL
        obtain ⟨y0, y1, y2, y3, y4, y5, y6, yf⟩ := HCn.out
        clear yf HCn
        by_cases hn : d.same = 1 ∧ d.sec = false
        · obtain ⟨hn1, hn2⟩ := hn
          have HN : Hid (cookieS h s = none) := by unfold Hid; rw [HL2.out, lastC, hn1, hn2]; rfl
          have hb1 : ((d.same : Int) == 1) = true := beq_iff_eq.2 (by omega)
          rw [hn2] at y4
          clear hn1 hn2
          have HZw := hide (CBox.put HZn.out zeroC)
          have HBw := hide (put_below HBn.out w.heap.size (Nat.le_refl _) zeroC)
          have hltz := HZn.out.lt
          obtain ⟨z0, z1, z2, z3, z4, z5, z6, zf⟩ := HZn.out
          have f0 := zf 0 (by decide)
          have f1 := zf 1 (by decide)
          have f2 := zf 2 (by decide)
          have f3 := zf 3 (by decide)
          have f4 := zf 4 (by decide)
          have f5 := zf 5 (by decide)
          have f6 := zf 6 (by decide)
          clear zf
          go_wp2_with fail
          unfold put7 zeroC at HZw HBw
          simp only at HZw HBw
          refine bodyPost_ret (v := ckV none) ?_ rfl ⟨by rw [HN.out], HBw.out⟩
          exact resRef (b := false) HZw.out rfl rfl
        · have HN : Hid (cookieS h s = some d) := by
            unfold Hid; rw [HL2.out, lastC]
            by_cases h1 : d.same = 1
            · have h2 : d.sec = true := by cases hq : d.sec; exact absurd ⟨h1, hq⟩ hn; rfl
              rw [h2]; simp
            · rw [decide_eq_false h1]; rfl
          have HZw := hide (HZn.out.put d)
          have HBw := hide (put_below HBn.out w.heap.size (Nat.le_refl _) d)
          obtain ⟨z0, z1, z2, z3, z4, z5, z6, zf⟩ := HZn.out
          have f0 := zf 0 (by decide)
          have f1 := zf 1 (by decide)
          have f2 := zf 2 (by decide)
          have f3 := zf 3 (by decide)
          have f4 := zf 4 (by decide)
          have f5 := zf 5 (by decide)
          have f6 := zf 6 (by decide)
          have hltz := HZn.out.lt
          clear zf
          by_cases hq : d.same = 1
          · have h2 : d.sec = true := by cases hq' : d.sec; exact absurd ⟨hq, hq'⟩ hn; rfl
            have hb1 : ((d.same : Int) == 1) = true := beq_iff_eq.2 (by omega)
            rw [h2] at y4
            unfold put7 at HZw HBw
            rw [h2] at HZw HBw
            clear hn hq h2
            go_wp2_with fail
            refine bodyPost_ret (v := .tuple #[ckA d, .bool true]) ?_ rfl ⟨by rw [HN.out]; rfl, HBw.out⟩
            exact resRef (b := true) HZw.out rfl rfl
          · have hb1 : ((d.same : Int) == 1) = false := beq_eq_false_iff_ne.2 (by omega)
            unfold put7 at HZw HBw
            clear hn hq
            go_wp2_with fail
            refine bodyPost_ret (v := .tuple #[ckA d, .bool true]) ?_ rfl ⟨by rw [HN.out]; rfl, HBw.out⟩
            exact resRef (b := true) HZw.out rfl rfl
end Go.Proofs.YtfbalmamhcbojaaDoor
