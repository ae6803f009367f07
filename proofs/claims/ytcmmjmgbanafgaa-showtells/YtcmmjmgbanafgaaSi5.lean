/- The walk over moatref10.Parser's item, one way (text by make/sx13.py). -/
import Derived.Test.YtcmmjmgbanafgaaSx17
namespace Go.Proofs.Ytcmmjmgbanafgaa
open Go.RowKit Go.Proofs.Url Go.Proofs.Url.Syn

set_option maxHeartbeats 8000000 in
set_option maxRecDepth 100000 in
theorem item_w5 (g : Nat) (ao : Option Addr) (cap : Nat) (ts r : List Tk) (w : World) (h : PS w g ao cap ts r false) (hne : r ≠ []) (hl : ts.length < 4294967281) (hq0 : isT [111, 114, 105, 103, 105, 110] r = false) (hq1 : isT [99, 111, 111, 107, 105, 101] r = false) (hq2 : isT [115, 101, 99, 114, 101, 116] r = false) (hq3 : isT [110, 101, 116, 119, 111, 114, 107] r = false) (hq4 : isT [101, 110, 100, 112, 111, 105, 110, 116] r = false) (hq : isT [112, 114, 111, 112, 101, 114, 116, 121] r = true) :
    Calls Try.prog 34 #[.pointer (some ⟨g, 0, none⟩)] w fun e w' => OutI (itemR r) g ao cap ts w e w' := by
  have HL := hide hl
  have HQ0 := hide hq0
  clear hq0
  have HQ1 := hide hq1
  clear hq1
  have HQ2 := hide hq2
  clear hq2
  have HQ3 := hide hq3
  clear hq3
  have HQ4 := hide hq4
  clear hq4
  have hglw := h.lt
  obtain ⟨n, hn⟩ : ∃ n, n = w.heap.size := ⟨_, rfl⟩
  obtain ⟨W0, hW0⟩ : ∃ W0, W0 = w.alloc (Obj.cells #[.string ⟨#[]⟩, .int .i64 0, .int .i64 0, .int .i64 0, .string ⟨#[]⟩, .int .i64 0, .int .i64 0, .string ⟨#[]⟩, .int .i64 0, .int .i64 0, .string ⟨#[]⟩, .int .i64 0, .int .i64 0, .string ⟨#[]⟩, .slice none 0 0, .pointer none] 65) := ⟨_, rfl⟩
  have R0 : Hid (BX W0 n zeroI) := by unfold Hid; rw [hW0, hn]; exact BX.new w zeroI rfl 65
  have S0 : Hid (PS W0 g ao cap ts r false) := by unfold Hid; rw [hW0]; exact h.alloc _
  have B0 : Hid (ButP g w W0) := by unfold Hid; rw [hW0]; exact ButP.alloc _ _ _
  have HN : Hid (g < n ∧ w.heap.size ≤ n) := by unfold Hid; omega
  have HW := hide hW0
  have HNw := hide hn
  clear hW0 h hl hn
  obtain ⟨i, hi, hr, hp⟩ := S0.out.ex
  simp only [Bool.false_eq_true, if_false] at hp
  have c0 := hp.c0
  have c1 := hp.c1
  have hgl := hp.lt
  clear hp
  have hlt : i < ts.length := by
    rcases Nat.lt_or_ge i ts.length with h | h
    · exact h
    · rw [List.drop_eq_nil_of_le h] at hr; exact absurd hr.symm hne
  have hlI : (i : Int) < (ts.length : Int) := by omega
  obtain ⟨tg, rfl, htg, k1, k2, k3⟩ := S0.out.tk i hlt
  have hr2 : r = ts[i] :: ts.drop (i + 1) := by rw [← hr, List.drop_eq_getElem_cons hlt]
  have HT : Hid (headText r = ts[i].text) := by unfold Hid; rw [hr2]; rfl
  have HA : Hid (headAt r = ts[i].at') := by unfold Hid; rw [hr2]; rfl
  have htl : tg < W0.heap.size := by omega
  have hn1 := R0.out.lt
  clear hr hr2 hi htg hne
  generalize ts[i].kind = tk at *
  generalize ts[i].at' = ta at *
  generalize ts[i].text = tt at *
  go_enter Try.func34, Try.ntmps34
  go_upto_region 1 with fail
  rw [← HW.out, ← HNw.out]
  go_region
  obtain ⟨m, hm⟩ : ∃ m, m = W0.heap.size := ⟨_, rfl⟩
  obtain ⟨W2, hW2⟩ : ∃ W2, W2 = (W0.alloc (Obj.cells #[.string ⟨tt.toArray⟩, .int .i64 ta, .int .i64 0, .int .i64 0, .string ⟨#[]⟩, .int .i64 0, .int .i64 0, .string ⟨#[]⟩, .int .i64 0, .int .i64 0, .string ⟨#[]⟩, .int .i64 0, .int .i64 0, .string ⟨#[]⟩, .slice none 0 0, .pointer none] 65)).drew := ⟨_, rfl⟩
  have b2 : Below W0.heap.size W0 W2 := by rw [hW2]; exact ((Below.refl _ _).alloc (Nat.le_refl _) _).drew
  have HX : Hid (ItIn w W2 g n m (some ⟨tg, 0, none⟩) cap ts (r, false) (itmCells tt ta zeroT zeroT zeroT zeroT (.slice none 0 0) none)) :=
    ⟨R0.out.but (ButP.of (g := g) b2) (by have := HN.out; omega), by rw [hW2, hm]; exact (BX.new W0 (itmCells tt ta zeroT zeroT zeroT zeroT (.slice none 0 0) none) rfl 65).same rfl, S0.out.keep b2, B0.out.trans (ButP.of b2), HN.out.1, HN.out.2, by omega⟩
  rw [← hW2, ← hm]
  clear hW2 b2 hm R0 S0 B0 c0 c1 k1 k2 k3 hn1 htl hgl hlI hlt
  go_wp2_with fail
  refine (takeNo (s := [111, 114, 105, 103, 105, 110]) HX.out.ps HL.out HQ0.out).mono ?_
  rintro e W3_0 ⟨rfl, S4, B4⟩
  have HX := hide (HX.out.step (s' := (r, false)) S4 B4)
  clear S4 B4
  go_wp2_with fail
  refine (takeNo (s := [99, 111, 111, 107, 105, 101]) HX.out.ps HL.out HQ1.out).mono ?_
  rintro e W3_1 ⟨rfl, S4, B4⟩
  have HX := hide (HX.out.step (s' := (r, false)) S4 B4)
  clear S4 B4
  go_wp2_with fail
  refine (takeNo (s := [115, 101, 99, 114, 101, 116]) HX.out.ps HL.out HQ2.out).mono ?_
  rintro e W3_2 ⟨rfl, S4, B4⟩
  have HX := hide (HX.out.step (s' := (r, false)) S4 B4)
  clear S4 B4
  go_wp2_with fail
  refine (takeNo (s := [110, 101, 116, 119, 111, 114, 107]) HX.out.ps HL.out HQ3.out).mono ?_
  rintro e W3_3 ⟨rfl, S4, B4⟩
  have HX := hide (HX.out.step (s' := (r, false)) S4 B4)
  clear S4 B4
  go_wp2_with fail
  refine (takeNo (s := [101, 110, 100, 112, 111, 105, 110, 116]) HX.out.ps HL.out HQ4.out).mono ?_
  rintro e W3_4 ⟨rfl, S4, B4⟩
  have HX := hide (HX.out.step (s' := (r, false)) S4 B4)
  clear S4 B4
  go_wp2_with fail
  refine (takeYes (s := [112, 114, 111, 112, 101, 114, 116, 121]) HX.out.ps HL.out hq).mono ?_
  rintro e W4 ⟨rfl, S4, B4⟩
  have HX := hide (HX.out.step (s' := (r.tail, false)) S4 B4)
  clear S4 B4
  go_wp2_with fail
  refine (pKindS 1 HX.out.ps HL.out).mono ?_
  rintro e W5 ⟨rfl, S5, B5⟩
  have HX := hide (HX.out.step S5 B5)
  clear S5 B5
  obtain ⟨s1, s1e⟩ : ∃ x, x = kindSt 1 (r.tail, false) := ⟨_, rfl⟩
  rw [← s1e] at HX
  have S1E := hide s1e
  clear s1e
  obtain ⟨t1, t1e⟩ : ∃ x, x = kindTok 1 ((r.tail, false) : St) := ⟨_, rfl⟩
  rw [← t1e]
  unfold tokV
  have T1E := hide t1e
  clear t1e
  have a2 := HX.out.own.c 2 _ rfl
  have q2 := HX.out.own.fr 2 (by decide)
  have a3 := HX.out.own.c 3 _ rfl
  have q3 := HX.out.own.fr 3 (by decide)
  have a4 := HX.out.own.c 4 _ rfl
  have q4 := HX.out.own.fr 4 (by decide)
  have hl2 := HX.out.own.lt
  go_wp2_with fail
  have HX := hide (HX.out.putT 2 3 4 (by decide) (by decide) (by decide) t1)
  unfold putT at HX
  have HX : Hid (ItIn w _ g n m (some ⟨tg, 0, none⟩) cap ts s1 (itmCells tt ta t1 zeroT zeroT zeroT (.slice none 0 0) none)) := HX
  clear a2 q2 a3 q3 a4 q4 hl2
  refine (pNeedS w_eq HX.out.ps HL.out).mono ?_
  rintro e W6 ⟨rfl, S6, B6⟩
  have HX := hide (HX.out.step S6 B6)
  clear S6 B6
  obtain ⟨s2, s2e⟩ : ∃ x, x = needSt w_eq s1 := ⟨_, rfl⟩
  rw [← s2e] at HX
  have S2E := hide s2e
  clear s2e
  go_wp2_with fail
  have hmz := HX.out.own.lt
  refine (pFormulaS HX.out.ps HL.out).mono ?_
  rintro e W7 ⟨pf, rfl, BF, hO⟩
  have HIt := hide (item_property HQ0.out HQ1.out HQ2.out HQ3.out HQ4.out hq s1 s2 (needSt w_semi ((rdSt (forRd s2)).1, false)) S1E.out S2E.out)
  have HS5 : Hid (PS W7 g (some ⟨tg, 0, none⟩) cap ts (rdSt (forRd s2)).1 (rdSt (forRd s2)).2) := by
    unfold Hid
    cases hx : forRd s2 with
    | ok f r2 => rw [hx] at hO; exact hO.2
    | bad r2 => rw [hx] at hO; exact hO
  have HX := hide (HX.out.step HS5.out BF)
  have HF : Hid (∀ f r2, forRd s2 = .ok f r2 → NodeAt W7 m pf f) := by
    intro f r2 hx
    rw [hx] at hO
    exact hO.1 m (by have := HX.out.hg; have := HX.out.hm; omega) hmz
  clear hO HS5 BF hq S1E S2E hmz
  have a15 := HX.out.own.c 15 _ rfl
  have q15 := HX.out.own.fr 15 (by decide)
  have hl2 := HX.out.own.lt
  go_wp2_with fail
  have HX := hide (HX.out.set 15 (by decide) (.pointer pf))
  have HX : Hid (ItIn w _ g n m (some ⟨tg, 0, none⟩) cap ts (rdSt (forRd s2)) (itmCells tt ta t1 zeroT zeroT zeroT (.slice none 0 0) pf)) := HX
  clear a15 q15 hl2
  have HF : Hid (∀ f r2, forRd s2 = .ok f r2 → NodeAt (W7.setCell ⟨m, 15, none⟩ (.pointer pf)) m pf f) := fun f r2 hx => (HF.out f r2 hx).but ((But.refl m _ _).set 15 _) (Nat.le_refl _)
  refine (pNeedS w_semi HX.out.ps HL.out).mono ?_
  rintro e W8 ⟨rfl, S8, B8⟩
  have HF : Hid (∀ f r2, forRd s2 = .ok f r2 → NodeAt W8 m pf f) := fun f r2 hx => (HF.out f r2 hx).but B8 (by have := HX.out.hg; have := HX.out.hm; omega)
  have HX := hide (HX.out.step S8 B8)
  clear S8 B8
  have hmn := Nat.le_of_lt HX.out.hm
  have hgm : w.heap.size - 1 ≤ m := by have := HX.out.hn; omega
  have HMN := hide hmn
  have HGM := hide hgm
  clear hmn hgm
  have HZ1 : Hid (∀ w', ButP g w w' → ButP n W8 w' → PS w' g (some ⟨tg, 0, none⟩) cap ts (needSt w_semi (rdSt (forRd s2))).1 (needSt w_semi (rdSt (forRd s2))).2 → OutI (itemR r) g (some ⟨tg, 0, none⟩) cap ts w (.returned (.agg (itmCells tt ta t1 zeroT zeroT zeroT (.slice none 0 0) pf).toArray)) w') := by
    intro w' h1 h2 h3
    cases hx : forRd s2 with
    | ok f r2 =>
      rw [hx] at h3
      have h := HIt.out.1 f r2 hx (by rw [hx]; rfl)
      rw [HT.out, HA.out, ← T1E.out, hx] at h
      exact OutI.ends h h1 h3 (AtrsAt.nil _ _) (((HF.out f r2 hx).but h2 HMN.out).mono HGM.out)
    | bad r2 =>
      rw [hx] at h3
      exact OutI.fails (HIt.out.2 r2 hx) _ _ _ _ _ _ _ _ _ _ h1 h3
  clear T1E HIt HF HMN HGM
  obtain ⟨s3, hs3⟩ : ∃ x, x = needSt w_semi (rdSt (forRd s2)) := ⟨_, rfl⟩
  rw [← hs3] at HX HZ1
  clear hs3
  obtain ⟨CS, hCS⟩ : ∃ x, x = itmCells tt ta t1 zeroT zeroT zeroT (.slice none 0 0) pf := ⟨_, rfl⟩
  have ON : Hid (CS.toArray.all (·.oneCell') = true) := by unfold Hid; rw [hCS]; exact itm_one tt ta t1 zeroT zeroT zeroT none 0 0 pf
  rw [← hCS] at HX HZ1
  clear hCS
  have hlen := HX.out.own.len
  have IF : Hid ((Try.prog.info? 65).map (·.size) = some CS.length) := by unfold Hid; rw [hlen]; kernel_rfl
  have IS : Hid ((Try.prog.info? 65).map (·.size) = some CS.toArray.size) := by unfold Hid; rw [List.size_toArray, hlen]; kernel_rfl
  have HR := hide HX.out.own.range
  have TH : Hid (W8.there n 0 CS.toArray.size) := by unfold Hid; rw [List.size_toArray, hlen]; exact HX.out.res.there
  obtain ⟨WE, hWE⟩ : ∃ x, x = W8.setCells n 0 CS.toArray.toList := ⟨_, rfl⟩
  have HP : Hid (BX WE n CS) := by unfold Hid; rw [hWE]; exact HX.out.res.setCells CS hlen
  have HB : Hid (ButP g w WE) := by unfold Hid; rw [hWE]; exact But.trans HX.out.bt (But.below (setCells_below HX.out.hn _ _ _))
  have HBn : Hid (ButP n W8 WE) := by unfold Hid; rw [hWE]; exact setCells_but _ _ _
  have HS : Hid (PS WE g (some ⟨tg, 0, none⟩) cap ts s3.1 s3.2) := by unfold Hid; rw [hWE]; exact HX.out.ps.above (setCells_below HX.out.hg _ _ _)
  have HWE := hide hWE
  clear hWE hlen HX
  go_wp2_with (first | (refine wpList_load_mid rfl 65 _ rfl m 0 rfl CS _ HR.out Try.underlying65 rfl IF.out ?_) | (refine wpList_store_mid rfl 65 _ _ rfl n 0 CS.toArray rfl rfl TH.out IS.out ON.out ?_; rw [← HWE.out]))
  refine bodyPost_ret (v := .agg CS.toArray) ?_ rfl ?_
  · exact resReadItem HP.out rfl
  · exact HZ1.out _ HB.out HBn.out HS.out
end Go.Proofs.Ytcmmjmgbanafgaa
