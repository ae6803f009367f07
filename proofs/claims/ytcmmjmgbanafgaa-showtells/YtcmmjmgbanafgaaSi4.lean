/- The walk over moatref10.Parser's item, one way (text by make/sx13.py). -/
import Derived.Test.YtcmmjmgbanafgaaSx17
namespace Go.Proofs.Ytcmmjmgbanafgaa
open Go.RowKit Go.Proofs.Url Go.Proofs.Url.Syn

set_option maxHeartbeats 8000000 in
set_option maxRecDepth 100000 in
theorem item_w4 (g : Nat) (ao : Option Addr) (cap : Nat) (ts r : List Tk) (w : World) (h : PS w g ao cap ts r false) (hne : r ≠ []) (hl : ts.length < 4294967281) (hq0 : isT [111, 114, 105, 103, 105, 110] r = false) (hq1 : isT [99, 111, 111, 107, 105, 101] r = false) (hq2 : isT [115, 101, 99, 114, 101, 116] r = false) (hq3 : isT [110, 101, 116, 119, 111, 114, 107] r = false) (hq : isT [101, 110, 100, 112, 111, 105, 110, 116] r = true) :
    Calls Try.prog 34 #[.pointer (some ⟨g, 0, none⟩)] w fun e w' => OutI (itemR r) g ao cap ts w e w' := by
  have HL := hide hl
  have HQ0 := hide hq0
  clear hq0
  have HQ1 := hide hq1
  clear hq1
  have HQ2 := hide hq2
  clear hq2
  have HQ3 := hide hq3
  clear hq3
  have hglw := h.lt
  obtain ⟨n, hn⟩ : ∃ n, n = w.heap.size := ⟨_, rfl⟩
  obtain ⟨W0, hW0⟩ : ∃ W0, W0 = w.alloc (Obj.cells #[.string ⟨#[]⟩, .int .i64 0, .int .i64 0, .int .i64 0, .string ⟨#[]⟩, .int .i64 0, .int .i64 0, .string ⟨#[]⟩, .int .i64 0, .int .i64 0, .string ⟨#[]⟩, .int .i64 0, .int .i64 0, .string ⟨#[]⟩, .slice none 0 0, .pointer none] 65) := ⟨_, rfl⟩
  have R0 : Hid (BX W0 n zeroI) := by unfold Hid; rw [hW0, hn]; exact BX.new w zeroI rfl 65
  have S0 : Hid (PS W0 g ao cap ts r false) := by unfold Hid; rw [hW0]; exact h.alloc _
  have B0 : Hid (ButP g w W0) := by unfold Hid; rw [hW0]; exact ButP.alloc _ _ _
  have HN : Hid (g < n ∧ w.heap.size ≤ n) := by unfold Hid; omega
  have HW := hide hW0
  have HNw := hide hn
  clear hW0 h hl hn
  obtain ⟨i, hi, hr, hp⟩ := S0.out.ex
  simp only [Bool.false_eq_true, if_false] at hp
  have c0 := hp.c0
  have c1 := hp.c1
  have hgl := hp.lt
  clear hp
  have hlt : i < ts.length := by
    rcases Nat.lt_or_ge i ts.length with h | h
    · exact h
    · rw [List.drop_eq_nil_of_le h] at hr; exact absurd hr.symm hne
  have hlI : (i : Int) < (ts.length : Int) := by omega
  obtain ⟨tg, rfl, htg, k1, k2, k3⟩ := S0.out.tk i hlt
  have hr2 : r = ts[i] :: ts.drop (i + 1) := by rw [← hr, List.drop_eq_getElem_cons hlt]
  have HT : Hid (headText r = ts[i].text) := by unfold Hid; rw [hr2]; rfl
  have HA : Hid (headAt r = ts[i].at') := by unfold Hid; rw [hr2]; rfl
  have htl : tg < W0.heap.size := by omega
  have hn1 := R0.out.lt
  clear hr hr2 hi htg hne
  generalize ts[i].kind = tk at *
  generalize ts[i].at' = ta at *
  generalize ts[i].text = tt at *
  go_enter Try.func34, Try.ntmps34
  go_upto_region 1 with fail
  rw [← HW.out, ← HNw.out]
  go_region
  obtain ⟨m, hm⟩ : ∃ m, m = W0.heap.size := ⟨_, rfl⟩
  obtain ⟨W2, hW2⟩ : ∃ W2, W2 = (W0.alloc (Obj.cells #[.string ⟨tt.toArray⟩, .int .i64 ta, .int .i64 0, .int .i64 0, .string ⟨#[]⟩, .int .i64 0, .int .i64 0, .string ⟨#[]⟩, .int .i64 0, .int .i64 0, .string ⟨#[]⟩, .int .i64 0, .int .i64 0, .string ⟨#[]⟩, .slice none 0 0, .pointer none] 65)).drew := ⟨_, rfl⟩
  have b2 : Below W0.heap.size W0 W2 := by rw [hW2]; exact ((Below.refl _ _).alloc (Nat.le_refl _) _).drew
  have HX : Hid (ItIn w W2 g n m (some ⟨tg, 0, none⟩) cap ts (r, false) (itmCells tt ta zeroT zeroT zeroT zeroT (.slice none 0 0) none)) :=
    ⟨R0.out.but (ButP.of (g := g) b2) (by have := HN.out; omega), by rw [hW2, hm]; exact (BX.new W0 (itmCells tt ta zeroT zeroT zeroT zeroT (.slice none 0 0) none) rfl 65).same rfl, S0.out.keep b2, B0.out.trans (ButP.of b2), HN.out.1, HN.out.2, by omega⟩
  rw [← hW2, ← hm]
  clear hW2 b2 hm R0 S0 B0 c0 c1 k1 k2 k3 hn1 htl hgl hlI hlt
  go_wp2_with fail
  refine (takeNo (s := [111, 114, 105, 103, 105, 110]) HX.out.ps HL.out HQ0.out).mono ?_
  rintro e W3_0 ⟨rfl, S4, B4⟩
  have HX := hide (HX.out.step (s' := (r, false)) S4 B4)
  clear S4 B4
  go_wp2_with fail
  refine (takeNo (s := [99, 111, 111, 107, 105, 101]) HX.out.ps HL.out HQ1.out).mono ?_
  rintro e W3_1 ⟨rfl, S4, B4⟩
  have HX := hide (HX.out.step (s' := (r, false)) S4 B4)
  clear S4 B4
  go_wp2_with fail
  refine (takeNo (s := [115, 101, 99, 114, 101, 116]) HX.out.ps HL.out HQ2.out).mono ?_
  rintro e W3_2 ⟨rfl, S4, B4⟩
  have HX := hide (HX.out.step (s' := (r, false)) S4 B4)
  clear S4 B4
  go_wp2_with fail
  refine (takeNo (s := [110, 101, 116, 119, 111, 114, 107]) HX.out.ps HL.out HQ3.out).mono ?_
  rintro e W3_3 ⟨rfl, S4, B4⟩
  have HX := hide (HX.out.step (s' := (r, false)) S4 B4)
  clear S4 B4
  go_wp2_with fail
  refine (takeYes (s := [101, 110, 100, 112, 111, 105, 110, 116]) HX.out.ps HL.out hq).mono ?_
  rintro e W4 ⟨rfl, S4, B4⟩
  have HX := hide (HX.out.step (s' := (r.tail, false)) S4 B4)
  clear S4 B4
  go_wp2_with fail
  refine (pKindS 1 HX.out.ps HL.out).mono ?_
  rintro e W5 ⟨rfl, S5, B5⟩
  have HX := hide (HX.out.step S5 B5)
  clear S5 B5
  obtain ⟨s1, s1e⟩ : ∃ x, x = kindSt 1 (r.tail, false) := ⟨_, rfl⟩
  rw [← s1e] at HX
  have S1E := hide s1e
  clear s1e
  obtain ⟨t1, t1e⟩ : ∃ x, x = kindTok 1 ((r.tail, false) : St) := ⟨_, rfl⟩
  rw [← t1e]
  unfold tokV
  have T1E := hide t1e
  clear t1e
  have a2 := HX.out.own.c 2 _ rfl
  have q2 := HX.out.own.fr 2 (by decide)
  have a3 := HX.out.own.c 3 _ rfl
  have q3 := HX.out.own.fr 3 (by decide)
  have a4 := HX.out.own.c 4 _ rfl
  have q4 := HX.out.own.fr 4 (by decide)
  have hl2 := HX.out.own.lt
  go_wp2_with fail
  have HX := hide (HX.out.putT 2 3 4 (by decide) (by decide) (by decide) t1)
  unfold putT at HX
  have HX : Hid (ItIn w _ g n m (some ⟨tg, 0, none⟩) cap ts s1 (itmCells tt ta t1 zeroT zeroT zeroT (.slice none 0 0) none)) := HX
  clear a2 q2 a3 q3 a4 q4 hl2
  refine (pNeedS w_at HX.out.ps HL.out).mono ?_
  rintro e W6 ⟨rfl, S6, B6⟩
  have HX := hide (HX.out.step S6 B6)
  clear S6 B6
  obtain ⟨s2, s2e⟩ : ∃ x, x = needSt w_at s1 := ⟨_, rfl⟩
  rw [← s2e] at HX
  have S2E := hide s2e
  clear s2e
  go_wp2_with fail
  refine (pKindS 1 HX.out.ps HL.out).mono ?_
  rintro e W7 ⟨rfl, S7, B7⟩
  have HX := hide (HX.out.step S7 B7)
  clear S7 B7
  obtain ⟨s3, s3e⟩ : ∃ x, x = kindSt 1 s2 := ⟨_, rfl⟩
  rw [← s3e] at HX
  have S3E := hide s3e
  clear s3e
  obtain ⟨t2, t2e⟩ : ∃ x, x = kindTok 1 s2 := ⟨_, rfl⟩
  rw [← t2e]
  unfold tokV
  have T2E := hide t2e
  clear t2e
  go_wp2_with fail
  refine (pKindS 5 HX.out.ps HL.out).mono ?_
  rintro e W8 ⟨rfl, S8, B8⟩
  have HX := hide (HX.out.step S8 B8)
  clear S8 B8
  obtain ⟨s4, s4e⟩ : ∃ x, x = kindSt 5 s3 := ⟨_, rfl⟩
  rw [← s4e] at HX
  have S4E := hide s4e
  clear s4e
  obtain ⟨t3, t3e⟩ : ∃ x, x = kindTok 5 s3 := ⟨_, rfl⟩
  rw [← t3e]
  unfold tokV
  have T3E := hide t3e
  clear t3e
  go_wp2_with fail
  refine (pKindS 3 HX.out.ps HL.out).mono ?_
  rintro e W9 ⟨rfl, S9, B9⟩
  have HX := hide (HX.out.step S9 B9)
  clear S9 B9
  obtain ⟨s5, s5e⟩ : ∃ x, x = kindSt 3 s4 := ⟨_, rfl⟩
  rw [← s5e] at HX
  have S5E := hide s5e
  clear s5e
  obtain ⟨t4, t4e⟩ : ∃ x, x = kindTok 3 s4 := ⟨_, rfl⟩
  rw [← t4e]
  unfold tokV
  have T4E := hide t4e
  clear t4e
  have a5 := HX.out.own.c 5 _ rfl
  have q5 := HX.out.own.fr 5 (by decide)
  have a6 := HX.out.own.c 6 _ rfl
  have q6 := HX.out.own.fr 6 (by decide)
  have a7 := HX.out.own.c 7 _ rfl
  have q7 := HX.out.own.fr 7 (by decide)
  have a8 := HX.out.own.c 8 _ rfl
  have q8 := HX.out.own.fr 8 (by decide)
  have a9 := HX.out.own.c 9 _ rfl
  have q9 := HX.out.own.fr 9 (by decide)
  have a10 := HX.out.own.c 10 _ rfl
  have q10 := HX.out.own.fr 10 (by decide)
  have a11 := HX.out.own.c 11 _ rfl
  have q11 := HX.out.own.fr 11 (by decide)
  have a12 := HX.out.own.c 12 _ rfl
  have q12 := HX.out.own.fr 12 (by decide)
  have a13 := HX.out.own.c 13 _ rfl
  have q13 := HX.out.own.fr 13 (by decide)
  have hl2 := HX.out.own.lt
  go_wp2_with fail
  have HX := hide (((HX.out.putT 5 6 7 (by decide) (by decide) (by decide) t2).putT 8 9 10 (by decide) (by decide) (by decide) t3).putT 11 12 13 (by decide) (by decide) (by decide) t4)
  unfold putT at HX
  have HX : Hid (ItIn w _ g n m (some ⟨tg, 0, none⟩) cap ts s5 (itmCells tt ta t1 t2 t3 t4 (.slice none 0 0) none)) := HX
  clear a5 q5 a6 q6 a7 q7 a8 q8 a9 q9 a10 q10 a11 q11 a12 q12 a13 q13 hl2
  refine (pNeedS w_lbr HX.out.ps HL.out).mono ?_
  rintro e W10 ⟨rfl, S10, B10⟩
  have HX := hide (HX.out.step S10 B10)
  clear S10 B10
  obtain ⟨s6, s6e⟩ : ∃ x, x = needSt w_lbr s5 := ⟨_, rfl⟩
  rw [← s6e] at HX
  have S6E := hide s6e
  clear s6e
  obtain ⟨i0, hi0, hz0, hz1, hz2⟩ := info_parts infoA
  have HI := hide hi0
  have HZ0 := hide hz0
  have HZ1' := hide hz1
  have HZ2 := hide hz2
  clear hi0 hz0 hz1 hz2
  have HEp := hide (fun s7 => item_endpoint HQ0.out HQ1.out HQ2.out HQ3.out hq s1 s2 s3 s4 s5 s6 s7 S1E.out S2E.out S3E.out S4E.out S5E.out S6E.out)
  rw [HT.out, HA.out, ← T1E.out, ← T2E.out, ← T3E.out, ← T4E.out] at HEp
  have HMN : Hid (n ≤ m ∧ g ≤ m ∧ g < m) := by unfold Hid; have := HX.out.hg; have := HX.out.hm; omega
  clear hq S1E S2E S3E S4E S5E S6E T1E T2E T3E T4E
  go_wp2_with fail
  go_loopw [] (fun W => ∃ (l : List Atr) (s : St) (ao2 : Option Addr) (cv : Nat), Hid (ItIn w W g n m (some ⟨tg, 0, none⟩) cap ts s (itmCells tt ta t1 t2 t3 t4 (.slice ao2 l.length cv) none)) ∧ Hid (W.ownsRow (m + 1) 87 5 (.slice ao2 l.length cv) l.length (l.flatMap atrCells)) ∧ ((s.2 = false ∧ ∃ kk, s.1.length ≤ kk ∧ l.length + s.1.length ≤ ts.length ∧ Hid (attrsRd s6 = (attrsF (kk + 1) s.1).map (fun x => l ++ x))) ∨ (s.2 = true ∧ Hid (attrsRd s6 = .bad s.1)))) (fun W => leftOf W g ts.length)
  case atStart =>
    refine ⟨[], s6, none, 0, HX, World.ownsRow_nil _ _ _ _, ?_⟩
    cases hb : s6.2 with
    | true => exact .inr ⟨rfl, by unfold Hid attrsRd; rw [hb]; rfl⟩
    | false =>
      refine .inl ⟨rfl, s6.1.length, Nat.le_refl _, ?_, ?_⟩
      · obtain ⟨i', hi', hr', _⟩ := HX.out.ps.ex
        rw [← hr', List.length_drop]; simp
      · unfold Hid attrsRd; rw [hb, if_neg (by decide)]; cases attrsF (s6.1.length + 1) s6.1 <;> rfl
  case round =>
    obtain ⟨l, s, ao2, cv, HX, HO, hst⟩ := hrel
    have HK := hide (pOk_any g (some ⟨tg, 0, none⟩) cap ts s.1 s.2 wr HX.out.ps)
    rcases hst with ⟨hb, kk, hkk, hll, hE⟩ | ⟨hb, hE⟩
    · rw [hb] at HK
      cases hq : isT w_rbr s.1 with
      | true =>
        have HEnd : Hid (attrsRd s6 = .ok l s.1) := by unfold Hid; rw [hE.out, attrs_end _ hq]; simp [Rd.map]
        have hps : PS wr g (some ⟨tg, 0, none⟩) cap ts s.1 false := by have := HX.out.ps; rwa [hb] at this
        have HIs := hide (pIs_any w_rbr g (some ⟨tg, 0, none⟩) cap ts s.1 false wr hps)
        rw [hq] at HIs
        clear hps hq hE
        go_wp2_with fail
        refine HK.out.mono ?_
        rintro e w' ⟨rfl, hw'⟩
        rw [hw']
        simp only [Bool.not_false]
        go_wp2_with fail
        refine HIs.out.mono ?_
        rintro e W20 ⟨rfl, b20⟩
        simp only [Bool.not_false, Bool.and_self]
        have HO := hide (owns_but HO.out (ButP.of (g := g) b20) (by have := HMN.out; omega))
        have HX := hide (HX.out.step (HX.out.ps.keep b20) (ButP.of b20))
        clear b20 HK HIs
        go_wp2_with fail
        refine (pNeedS w_rbr HX.out.ps HL.out).mono ?_
        rintro e W21 ⟨rfl, S21, B21⟩
        have HA2 := hide (owns_atrs (B := m) (owns_but HO.out B21 (by have := HMN.out; omega)) (Nat.lt_succ_self _))
        have HX := hide (HX.out.step S21 B21)
        clear S21 B21 HO
        obtain ⟨s7, hs7⟩ : ∃ x, x = needSt w_rbr s := ⟨_, rfl⟩
        rw [← hs7] at HX
        have HS7 : Hid (s7 = needSt w_rbr (s.1, false)) := by unfold Hid; rw [hs7, ← hb]
        clear hs7
        have HZ1 : Hid (∀ w', ButP g w w' → ButP n W21 w' → PS w' g (some ⟨tg, 0, none⟩) cap ts s7.1 s7.2 → OutI (itemR r) g (some ⟨tg, 0, none⟩) cap ts w (.returned (.agg (itmCells tt ta t1 t2 t3 t4 (.slice ao2 l.length cv) none).toArray)) w') := by
          intro w' h1 h2 h3
          have h := (HEp.out s7).1 l s.1 HEnd.out HS7.out
          exact OutI.ends h h1 h3 ((HA2.out.but2 h2 HMN.out.1).mono (by have := HX.out.hn; have := HX.out.hm; omega)) rfl
        clear HEp HEnd HS7 HA2 HMN hkk hll hb HI HZ0 HZ1' HZ2
        obtain ⟨CS, hCS⟩ : ∃ x, x = itmCells tt ta t1 t2 t3 t4 (.slice ao2 l.length cv) none := ⟨_, rfl⟩
        have ON : Hid (CS.toArray.all (·.oneCell') = true) := by unfold Hid; rw [hCS]; exact itm_one tt ta t1 t2 t3 t4 ao2 l.length cv none
        rw [← hCS] at HX HZ1
        clear hCS
        have hlen := HX.out.own.len
        have IF : Hid ((Try.prog.info? 65).map (·.size) = some CS.length) := by unfold Hid; rw [hlen]; kernel_rfl
        have IS : Hid ((Try.prog.info? 65).map (·.size) = some CS.toArray.size) := by unfold Hid; rw [List.size_toArray, hlen]; kernel_rfl
        have HR := hide HX.out.own.range
        have TH : Hid (W21.there n 0 CS.toArray.size) := by unfold Hid; rw [List.size_toArray, hlen]; exact HX.out.res.there
        obtain ⟨WE, hWE⟩ : ∃ x, x = W21.setCells n 0 CS.toArray.toList := ⟨_, rfl⟩
        have HP : Hid (BX WE n CS) := by unfold Hid; rw [hWE]; exact HX.out.res.setCells CS hlen
        have HB : Hid (ButP g w WE) := by unfold Hid; rw [hWE]; exact But.trans HX.out.bt (But.below (setCells_below HX.out.hn _ _ _))
        have HBn : Hid (ButP n W21 WE) := by unfold Hid; rw [hWE]; exact setCells_but _ _ _
        have HS : Hid (PS WE g (some ⟨tg, 0, none⟩) cap ts s7.1 s7.2) := by unfold Hid; rw [hWE]; exact HX.out.ps.above (setCells_below HX.out.hg _ _ _)
        have HWE := hide hWE
        clear hWE hlen HX
        go_wp2_with (first | (refine wpList_load_mid rfl 65 _ rfl m 0 rfl CS _ HR.out Try.underlying65 rfl IF.out ?_) | (refine wpList_store_mid rfl 65 _ _ rfl n 0 CS.toArray rfl rfl TH.out IS.out ON.out ?_; rw [← HWE.out]))
        refine bodyPost_ret (v := .agg CS.toArray) ?_ rfl ?_
        · exact resReadItem HP.out rfl
        · exact HZ1.out _ HB.out HBn.out HS.out
      | false =>
        have hps : PS wr g (some ⟨tg, 0, none⟩) cap ts s.1 false := by have := HX.out.ps; rwa [hb] at this
        have HIs := hide (pIs_any w_rbr g (some ⟨tg, 0, none⟩) cap ts s.1 false wr hps)
        rw [hq] at HIs
        have HLf : Hid (leftOf wr g ts.length = s.1.length + 1) := hps.left
        have HSt := hide (fun k s' h => attrs_step (r := s.1) k hq s' h)
        clear hps hq
        go_wp2_with fail
        refine HK.out.mono ?_
        rintro e w' ⟨rfl, hw'⟩
        rw [hw']
        simp only [Bool.not_false]
        go_wp2_with fail
        refine HIs.out.mono ?_
        rintro e W20 ⟨rfl, b20⟩
        simp only [Bool.not_false, Bool.and_false]
        have HO := hide (owns_but HO.out (ButP.of (g := g) b20) (by have := HMN.out; omega))
        have HX := hide (HX.out.step (HX.out.ps.keep b20) (ButP.of b20))
        clear b20 HK HIs
        have HB2 := hide hb
        have HPSd : Hid (PS W20.drew g (some ⟨tg, 0, none⟩) cap ts s.1 false) := by
          unfold Hid; have := HX.out.ps.keep ((Below.refl W20.heap.size W20).drew); rwa [hb] at this
        have HXd := hide (fun (W5 : World) (r' : St) (hp : PS W5 g (some ⟨tg, 0, none⟩) cap ts r'.1 r'.2) (hb : ButP g W20.drew W5) => HX.out.step hp ((ButP.of (g := g) ((Below.refl W20.heap.size W20).drew)).trans hb))
        have HOd := hide (fun (W5 : World) (hb : ButP g W20.drew W5) => owns_but (owns_drew HO.out) hb (show g < m + 1 by have := HMN.out; omega))
        have c14 := HX.out.own.c 14 _ rfl
        have hml := HX.out.own.lt
        have hgl := HX.out.ps.lt
        go_upto_region 18 with fail
        go_cut [] (fun W => ∃ (va : Atr) (ao6 : Option Addr) (cv6 : Nat), Hid (ItIn w W g n m (some ⟨tg, 0, none⟩) cap ts (rdSt (attrR s.1)) (itmCells tt ta t1 t2 t3 t4 (.slice ao6 (l ++ [va]).length cv6) none)) ∧ Hid (W.ownsRow (m + 1) 87 5 (.slice ao6 (l ++ [va]).length cv6) (l ++ [va]).length ((l ++ [va]).flatMap atrCells)) ∧ Hid (∀ a r', attrR s.1 = .ok a r' → va = a))
        case first => as_aux_lemma =>
          have HBs : Hid (∀ j, (Value.slice ao2 l.length cv).ownBlock = some j → m + 1 ≤ j) := fun j hj => owns_base HO.out j hj
          have OB : Hid (∀ j, (Value.slice ao2 l.length cv).ownBlock = some j → j < W20.heap.size) := fun j hj => owns_ltB HO.out j hj
          have f3 : Hid (l.length + 1 ≤ maxLen) := by unfold Hid maxLen; have := HL.out; omega
          have f4 : Hid ((l.length + 1) * 56 ≤ 140737488355328) := by unfold Hid; have := HL.out; omega
          have HXs : Hid (ItIn w W20 g n m (some ⟨tg, 0, none⟩) cap ts (s.1, false) (itmCells tt ta t1 t2 t3 t4 (.slice ao2 l.length cv) none)) := HX.out.step (by have := HX.out.ps; rwa [HB2.out] at this) (But.refl _ _ _)
          have HG : Hid (g < m ∧ m < W20.heap.size) := ⟨HMN.out.2.2, HX.out.own.lt⟩
          clear HX hE hkk hll hb HB2 HPSd HSt HLf HEp HXd HOd c14 hml hgl
          refine wp_region_posts_last (l := [_, _, _, _, _, _, _]) (ol := _) rfl (by kernel_rfl) (RC18 w W20.heap.size g n m (some ⟨tg, 0, none⟩) cap ts s (itmCells tt ta t1 t2 t3 t4 (.slice ao2 l.length cv) none) (fun W => W.ownsRow (m + 1) 87 5 (.slice ao2 l.length cv) l.length (l.flatMap atrCells))) (RK18 g W20.heap.size)
            [some 87, some 88, some 89, some 90, some 91, some 92, some 93]
            [[], [0], [], [2], [2, 3], [0, 1, 2, 3, 4], [], [0, 1, 2, 3, 4, 5, 6]]
            [fun v _ => v = .pointer (some ⟨m, 14, none⟩), fun v _ => v = .slice ao2 l.length cv, fun v _ => v = .pointer (some ⟨g, 0, none⟩), fun v _ => ∃ va, v = atrV va ∧ (∀ a r', attrR s.1 = .ok a r' → va = a),
             fun v W => ∃ b va, v = .slice (some ⟨b, 0, none⟩) 1 1 ∧ W20.heap.size ≤ b ∧ (∀ j u, (atrCells va)[j]? = some u → W.cell? ⟨b, j, none⟩ = some u) ∧ (∀ a r', attrR s.1 = .ok a r' → va = a),
             fun v W => ∃ va ao6 cv6 N, Hid (N = (l ++ [va]).length) ∧ v = .slice ao6 N cv6 ∧ W.ownsRow (m + 1) 87 5 (.slice ao6 N cv6) N ((l ++ [va]).flatMap atrCells) ∧ (∀ a r', attrR s.1 = .ok a r' → va = a),
             fun v _ => v = .pointer (some ⟨m, 14, none⟩)]
            rfl (by kernel_rfl) (by kernel_rfl) (by kernel_rfl) (by kernel_rfl) (by kernel_rfl) rfl rfl ?_ ?_ ?_ ?_
          · refine .eq (.eq (.eq (.cons (fun _ _ _ _ _ _ _ h => h) (.cons ?_ (.cons ?_ (.eq .nil))))))
            · rintro i v W W' h1 h2 hk ⟨b, va, e, hb, hc, hv⟩
              refine ⟨b, va, e, hb, fun j u hj => ?_, hv⟩
              have hlt : b < W.heap.size := World.block_lt_of_cell? W _ (hc 0 _ rfl)
              have hh : W'.heap[b]? = W.heap[b]? := by
                unfold RK18 at hk
                split at hk
                · exact hk b hb hlt
                · exact hk.block b hlt (by have := HG.out; omega)
              rw [World.cell?_of_block (w := W) hh]; exact hc j u hj
            · rintro i v W W' h1 h2 hk ⟨va, ao6, cv6, N, hN, e, ho, hv⟩
              unfold RK18 at hk
              rw [if_neg h1] at hk
              exact ⟨va, ao6, cv6, N, hN, e, owns_but ho hk (by have := HG.out; omega), hv⟩
          · intro L hL
            exact ⟨by rw [hL 3]; exact HXs.out.step (HXs.out.ps.keep ((Below.refl W20.heap.size W20).drew)) (ButP.of ((Below.refl W20.heap.size W20).drew)), Nat.le_refl _, fun _ => owns_drew HO.out⟩
          · refine .cons ?_ (.cons ?_ (.cons ?_ (.cons ?_ (.cons ?_ (.cons ?_ (.cons ?_ .nil))))))
            all_goals (intro L A W hLi hC old nd)
            all_goals (try refine runs_none rfl ?_)
            · have e3 : (A.tmps[3]?).getD undef = .pointer (some ⟨m, 0, none⟩) := old 3 (by kernel_rfl)
              simp [Oper.gives, gives, go_sem, e3]
              exact ⟨hC.pure 0 (by decide) (by decide), RK18.same _ _ _ _, rfl⟩
            · have e1 : (A.tmps[87]?).getD undef = .pointer (some ⟨m, 14, none⟩) := nd.1
              have d14 := hC.it.own.c 14 _ rfl
              simp [Oper.gives, gives, go_sem, e1, d14]
              exact ⟨hC.pure 1 (by decide) (by decide), RK18.same _ _ _ _, rfl⟩
            · have e3 : (A.tmps[0]?).getD undef = .pointer (some ⟨g, 0, none⟩) := old 0 (by kernel_rfl)
              simp [Oper.gives, gives, go_sem, e3]
              exact ⟨hC.pure 2 (by decide) (by decide), RK18.same _ _ _ _, rfl⟩
            · have e1 : (A.tmps[89]?).getD undef = .pointer (some ⟨g, 0, none⟩) := nd.1
              have it := hC.it
              rw [hLi] at it
              simp [Oper.gives, gives, go_sem, e1]
              refine (pAttr_any g (some ⟨tg, 0, none⟩) cap ts s.1 W it.ps HL.out).mono fun e W' h => ?_
              obtain ⟨va, rfl, B5, S5, HV5⟩ := OutA.split h
              refine ⟨_, rfl, ⟨?_, Nat.le_trans hC.up B5.size, fun hL5 => owns_but (hC.own ?_) B5 (by have := HG.out; omega)⟩, RK18.but (by decide) B5, va, rfl, HV5⟩
              · rw [also_self]; exact it.step S5 B5
              · rw [← hL5]; unfold also; rw [if_neg (by decide)]
            · obtain ⟨_, ⟨va, e1, hv⟩, _⟩ := nd
              replace e1 : (A.tmps[90]?).getD undef = .agg #[.string ⟨va.k.toArray⟩, .int .i64 va.at', .int .i64 va.t.kind, .int .i64 va.t.at', .string ⟨va.t.text.toArray⟩] := e1
              simp [Oper.gives, gives, go_sem, e1]
              have hb : ButP g W (W.alloc (Obj.cells #[.string ⟨va.k.toArray⟩, .int .i64 va.at', .int .i64 va.t.kind, .int .i64 va.t.at', .string ⟨va.t.text.toArray⟩] 87)) := ButP.alloc _ _ _
              refine ⟨⟨?_, Nat.le_trans hC.up hb.size, fun hL5 => owns_but (hC.own ?_) hb (by have := HG.out; omega)⟩, RK18.but (by decide) hb, _, rfl, hC.up, va, fun j u hj => ?_, hv⟩
              · have e : also L 4 3 = L 3 := by unfold also; rw [if_neg (by decide)]
                rw [e]; exact hC.it.step (hC.it.ps.alloc _) hb
              · rw [← hL5]; unfold also; rw [if_neg (by decide)]
              · rw [World.cell?_alloc_new]; simpa [atrCells] using hj
            · obtain ⟨_, e1, _, _, ⟨b, va, e2, hb, hc, hv⟩, _⟩ := nd
              replace e1 : (A.tmps[88]?).getD undef = .slice ao2 l.length cv := e1
              replace e2 : (A.tmps[91]?).getD undef = .slice (some ⟨b, 0, none⟩) 1 1 := e2
              refine gives_append_own (.tmp 88) (.tmp 91) 62 rfl (m + 1) 87 i0 _ 5 56 Try.underlying62 HI.out HZ0.out HZ1'.out HZ2.out rfl (by decide) (.slice ao2 l.length cv) l.length (l.flatMap atrCells) (by simpa [Act.eval] using e1) (hC.own hLi) ⟨b, 0, none⟩ 1 1 (atrCells va) (by simpa [Act.eval] using e2) rfl (fun j u hj => by rw [Addr.add_mid, Nat.zero_add]; exact hc j u hj) (atr_one va) f3.out f4.out (by have := hC.up; have := HG.out; omega) ?_
              intro v' w6 hown' hgrow6
              have B6 : Below (m + 1) W w6 := Below.grown (Below.refl _ _) hgrow6 (by have := hC.up; have := HG.out; omega) HBs.out
              obtain ⟨ao6, cv6, rfl, hown6⟩ := atrs_roundB (x := va) hown'
              refine ⟨⟨?_, Nat.le_trans hC.up hgrow6.size, fun hL5 => ?_⟩, ?_, va, ao6, cv6, _, rfl, rfl, hown6.out, hv⟩
              · have e : also L 5 3 = L 3 := by unfold also; rw [if_neg (by decide)]
                rw [e]; exact hC.it.belowM B6
              · rw [also_self] at hL5; cases hL5
              · unfold RK18; rw [if_pos rfl]
                exact fun k hk1 hk2 => hgrow6.block k hk2 (fun e => by have := OB.out k e.symm; omega)
            · have e3 : (A.tmps[3]?).getD undef = .pointer (some ⟨m, 0, none⟩) := old 3 (by kernel_rfl)
              simp [Oper.gives, gives, go_sem, e3]
              exact ⟨hC.pure 6 (by decide) (by decide), RK18.same _ _ _ _, rfl⟩
          · intro L W hall hC E hE
            refine .cons fun v87 h87 => .cons fun v88 h88 => .cons fun v89 h89 => .cons fun v90 h90 => .cons fun v91 h91 => .cons fun v92 h92 => .cons fun v93 h93 => .nil ?_
            obtain ⟨va, ao6, cv6, N, hN, rfl, hown, hv⟩ := h92
            subst h93
            clear h87 h88 h89 h90 h91
            have it := hC.it
            rw [hall 3 (by decide)] at it
            have IT := hide it
            have d14 := it.own.c 14 _ rfl
            have e14 := it.own.fr 14 (by decide)
            have hm6 := it.own.lt
            have HOW := hide hown
            have HVV := hide hv
            clear it hown hv hC
            simp only [Act.put, List.setIfInBounds_toArray, List.set_cons_zero, List.set_cons_succ]
            refine hE _ ?_
            simp [Oper.gives, gives, go_sem, d14, e14]
            go_wp2_with fail
            go_meet
            case rel =>
              have e := hN.out
              subst e
              exact ⟨va, ao6, cv6, IT.out.set 14 (by decide) _, owns_but HOW.out ((But.refl m _ _).set 14 _) (Nat.lt_succ_self m), HVV⟩
        case rest =>
        obtain ⟨va, ao6, cv6, HX, HO, HV⟩ := hcut
        go_wp2_with fail
        refine (pNeedS w_semi HX.out.ps HL.out).mono ?_
        rintro e W22 ⟨rfl, S22, B22⟩
        have HO := hide (owns_but HO.out B22 (by have := HMN.out; omega))
        have HX := hide (HX.out.step S22 B22)
        clear S22 B22
        obtain ⟨s', hs'⟩ : ∃ x, x = needSt w_semi (rdSt (attrR s.1)) := ⟨_, rfl⟩
        rw [← hs'] at HX
        have HS' := hide hs'
        clear hs' c14 hml hgl HPSd HXd HOd
        have HRel : Hid ((s'.2 = false ∧ ∃ kk, s'.1.length ≤ kk ∧ (l ++ [va]).length + s'.1.length ≤ ts.length ∧ Hid (attrsRd s6 = (attrsF (kk + 1) s'.1).map (fun x => (l ++ [va]) ++ x))) ∨ (s'.2 = true ∧ Hid (attrsRd s6 = .bad s'.1))) := by
          unfold Hid
          have h := HSt.out kk s' HS'.out
          cases hb' : s'.2 with
          | true => exact .inr ⟨rfl, by rw [hE.out, h.2 hb']; rfl⟩
          | false =>
            obtain ⟨a, r1, ha, h1, h2⟩ := h.1 hb'
            have := HV.out a r1 ha
            subst this
            obtain ⟨k', rfl⟩ : ∃ k', kk = k' + 1 := ⟨kk - 1, by omega⟩
            refine .inl ⟨rfl, k', by omega, by rw [List.length_append, List.length_singleton]; omega, ?_⟩
            rw [hE.out, h1, map_map_rd]; congr 1; funext x; simp
        have HMe : Hid (leftOf W22 g ts.length < leftOf wr g ts.length) := by
          unfold Hid
          rw [HLf.out]
          have h := HSt.out kk s' HS'.out
          have hp := HX.out.ps
          cases hb' : s'.2 with
          | true => rw [hb'] at hp; rw [hp.left0]; omega
          | false =>
            obtain ⟨a, r1, _, _, h2⟩ := h.1 hb'
            rw [hb'] at hp; rw [hp.left]; omega
        clear HSt HV HS' HLf hE hkk hll hb HB2
        go_wp2_with fail
        exact ⟨⟨l ++ [va], s', ao6, cv6, HX, HO, HRel.out⟩, HMe.out⟩
    · rw [hb] at HK
      go_wp2_with fail
      refine HK.out.mono ?_
      rintro e w' ⟨rfl, hw'⟩
      rw [hw']
      simp only [Bool.not_true]
      clear HK
      go_wp2_with fail
      have HPb : Hid (PS wr g (some ⟨tg, 0, none⟩) cap ts s.1 true) := by unfold Hid; have := HX.out.ps; rwa [hb] at this
      refine (needBad w_rbr HPb.out HL.out).mono ?_
      rintro e W21 ⟨rfl, S21, B21⟩
      have HX := hide (HX.out.step (s' := (s.1, true)) S21 B21)
      clear S21 B21 HO HPb
      have HZ1 : Hid (∀ w', ButP g w w' → ButP n W21 w' → PS w' g (some ⟨tg, 0, none⟩) cap ts ((s.1, true) : St).1 ((s.1, true) : St).2 → OutI (itemR r) g (some ⟨tg, 0, none⟩) cap ts w (.returned (.agg (itmCells tt ta t1 t2 t3 t4 (.slice ao2 l.length cv) none).toArray)) w') := by
        intro w' h1 _ h3
        exact OutI.fails ((HEp.out s6).2 s.1 hE.out) _ _ _ _ _ _ _ _ _ _ h1 h3
      clear HEp HMN hE hb HI HZ0 HZ1' HZ2
      obtain ⟨CS, hCS⟩ : ∃ x, x = itmCells tt ta t1 t2 t3 t4 (.slice ao2 l.length cv) none := ⟨_, rfl⟩
      have ON : Hid (CS.toArray.all (·.oneCell') = true) := by unfold Hid; rw [hCS]; exact itm_one tt ta t1 t2 t3 t4 ao2 l.length cv none
      rw [← hCS] at HX HZ1
      clear hCS
      have hlen := HX.out.own.len
      have IF : Hid ((Try.prog.info? 65).map (·.size) = some CS.length) := by unfold Hid; rw [hlen]; kernel_rfl
      have IS : Hid ((Try.prog.info? 65).map (·.size) = some CS.toArray.size) := by unfold Hid; rw [List.size_toArray, hlen]; kernel_rfl
      have HR := hide HX.out.own.range
      have TH : Hid (W21.there n 0 CS.toArray.size) := by unfold Hid; rw [List.size_toArray, hlen]; exact HX.out.res.there
      obtain ⟨WE, hWE⟩ : ∃ x, x = W21.setCells n 0 CS.toArray.toList := ⟨_, rfl⟩
      have HP : Hid (BX WE n CS) := by unfold Hid; rw [hWE]; exact HX.out.res.setCells CS hlen
      have HB : Hid (ButP g w WE) := by unfold Hid; rw [hWE]; exact But.trans HX.out.bt (But.below (setCells_below HX.out.hn _ _ _))
      have HBn : Hid (ButP n W21 WE) := by unfold Hid; rw [hWE]; exact setCells_but _ _ _
      have HS : Hid (PS WE g (some ⟨tg, 0, none⟩) cap ts ((s.1, true) : St).1 ((s.1, true) : St).2) := by unfold Hid; rw [hWE]; exact HX.out.ps.above (setCells_below HX.out.hg _ _ _)
      have HWE := hide hWE
      clear hWE hlen HX
      go_wp2_with (first | (refine wpList_load_mid rfl 65 _ rfl m 0 rfl CS _ HR.out Try.underlying65 rfl IF.out ?_) | (refine wpList_store_mid rfl 65 _ _ rfl n 0 CS.toArray rfl rfl TH.out IS.out ON.out ?_; rw [← HWE.out]))
      refine bodyPost_ret (v := .agg CS.toArray) ?_ rfl ?_
      · exact resReadItem HP.out rfl
      · exact HZ1.out _ HB.out HBn.out HS.out
end Go.Proofs.Ytcmmjmgbanafgaa
