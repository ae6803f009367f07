/- The walk over cookie.Read: what attributes make of a cookie. -/
import Derived.Test.YtfbalmamhcbojaaDoorY3
import Derived.Test.YtfbalmamhcbojaaDoorV7
namespace Go.Proofs.YtfbalmamhcbojaaDoor
open Go.RowKit Go.Proofs.Url

/-- A row of pairs behind a bound. -/
def PairsFar (W : World) (B : Nat) (ao : Option Addr) (ps : List (List UInt8 × List UInt8)) : Prop :=
  ∀ k (h : k < ps.length), ∃ b, B ≤ b ∧ ao = some ⟨b, 0, none⟩ ∧ W.cell? ⟨b, 2 * k, none⟩ = some (.string ⟨ps[k].1.toArray⟩) ∧ W.cell? ⟨b, 2 * k + 1, none⟩ = some (.string ⟨ps[k].2.toArray⟩)
theorem PairsFar.keep {W W' : World} {B : Nat} {ao : Option Addr} {ps : List (List UInt8 × List UInt8)} (h : PairsFar W B ao ps) (hb : Below W.heap.size W W') : PairsFar W' B ao ps := fun k hk => by
  obtain ⟨b, h0, h1, h2, h3⟩ := h k hk
  exact ⟨b, h0, h1, by rw [hb.cell (World.block_lt_of_cell? W _ h2)]; exact h2, by rw [hb.cell (World.block_lt_of_cell? W _ h3)]; exact h3⟩
theorem PairsFar.but {W W' : World} {B g : Nat} {ao : Option Addr} {ps : List (List UInt8 × List UInt8)} (h : PairsFar W B ao ps) (hg : g < B) (hb : But g W.heap.size W W') : PairsFar W' B ao ps := fun k hk => by
  obtain ⟨b, h0, h1, h2, h3⟩ := h k hk
  exact ⟨b, h0, h1, by rw [hb.cell (World.block_lt_of_cell? W _ h2) (by show b ≠ g; omega)]; exact h2, by rw [hb.cell (World.block_lt_of_cell? W _ h3) (by show b ≠ g; omega)]; exact h3⟩
theorem pairsFar_own {w : World} {base : Nat} {ao : Option Addr} {cap n : Nat} {ps : List (List UInt8 × List UInt8)} (h : w.ownsRow base 36 2 (.slice ao n cap) ps.length (ps.flatMap pairV)) : PairsFar w base ao ps := by
  obtain ⟨ao', cap', hv, _, hP⟩ := owns_pairs h
  cases hv
  intro k hk
  obtain ⟨b, h1, h2, h3⟩ := hP k hk
  exact ⟨b, owns_base h b (by rw [h1]; rfl), h1, h2, h3⟩
theorem mayDomain_any (h v : List UInt8) (w : World) (henv : Env w) (hh : h.length < 4294967281) (hv : v.length < 4294967281) :
    Calls Tryd.prog 31 #[.string ⟨h.toArray⟩, .string ⟨v.toArray⟩] w fun e w' => e = .returned (.bool (mayDom h v)) ∧ Below w.heap.size w w' := by
  have HD : Hid (mayDom h v = (underS h v && decide (2 ≤ (labelsS v).length))) := rfl
  go_enter Tryd.func31, Tryd.ntmps31
  go_wp2_with fail
  refine (under_any h v _ henv hh hv).mono ?_
  rintro e w1 ⟨rfl, hb1⟩
  have HE := hide (henv.keep hb1)
  have B1 := hide hb1
  clear hb1 henv
  cases hu : underS h v with
  | true =>
    have HD2 : Hid (mayDom h v = decide (2 ≤ (labelsS v).length)) := by unfold Hid; rw [HD.out, hu, Bool.true_and]
    clear hu
    go_wp2_with fail
    refine (labels_len v _ HE.out hv).mono ?_
    rintro e w2 ⟨ao, cap, rfl, hb2⟩
    have B2 := hide (B1.out.trans (hb2.mono B1.out.size))
    clear hb2
    go_wp2_with fail
    go_ret
    exact ⟨ret_bool (by rw [HD2.out]; exact decide_eq_decide.2 (by omega)), B2.out⟩
  | false =>
    have HD2 : Hid (mayDom h v = false) := by unfold Hid; rw [HD.out, hu, Bool.false_and]
    clear hu
    go_wp2_with fail
    go_ret
    exact ⟨ret_bool HD2.out.symm, B1.out⟩

def ckV (o : Option Ck) : Value := .tuple #[ckA (o.getD zeroC), .bool o.isSome]
theorem resRead {W : World} {r : Nat} {c : Ck} {b : Bool} {tmps : Array Value} (h : CBox W r c) (h4 : tmps[4]?.getD undef = .pointer (some ⟨r, 0, none⟩)) (h5 : tmps[5]?.getD undef = .bool b) :
    (results Tryd.f7 tmps).run Tryd.prog W = .ok (.tuple #[ckA c, .bool b]) W := by
  obtain ⟨c0, c1, c2, c3, c4, c5, c6, _⟩ := h
  simp [results, Tryd.results7, go_sem, h4, h5, c0, c1, c2, c3, c4, c5, c6, ckA]

theorem pairs_le (l : List UInt8) : ∀ p ∈ pairsS l, p.1.length ≤ l.length ∧ p.2.length ≤ l.length := by
  intro p hp
  rw [pairs_pieces, List.mem_map] at hp
  obtain ⟨t, ht, rfl⟩ := hp
  have h1 := pieces_le 59 l t ht
  have h2 := cut_le 61 t
  unfold pairOf
  have h3 := trimS_len (Lib.cut t [61]).1
  have h4 := trimS_len (Lib.cut t [61]).2.1
  simp only [lowerS_len]
  omega

set_option maxHeartbeats 2000000 in
theorem cookieRead_any (h s : List UInt8) (w : World) (henv : Env w) (hh : h.length < 4294967281) (hs : s.length < 4294967281) :
    Calls Tryd.prog 7 #[.string ⟨h.toArray⟩, .string ⟨s.toArray⟩] w fun e w' => e = .returned (ckV (cookieS h s)) ∧ Below w.heap.size w w' := by
  have HE := hide henv
  clear henv
  have HLe := hide (pairs_le s)
  have hcnt : (pairsS s).length ≤ s.length + 1 := by rw [pairs_pieces, List.length_map]; exact pieces_count 59 s
  cases hho : host h with
  | false =>
    have HH := hide hho
    have HN := hide (cookie_nohost (s := s) hho)
    clear hho
    go_enter Tryd.func7, Tryd.ntmps7
    go_wp2_with fail
    refine (hostL_any h _ (HE.out.keep ((Below.refl _ _).alloc (Nat.le_refl _) _)) (by omega)).mono ?_
    rintro e w1 ⟨rfl, hb1⟩
    rw [HH.out]
    have B1 := hide (((Below.refl w.heap.size w).alloc (Nat.le_refl _) _).trans (hb1.mono (by simp)))
    have Z1 := (CBox.new w 23).keep hb1
    obtain ⟨z0, z1, z2, z3, z4, z5, z6, zf⟩ := Z1
    have f0 := zf 0 (by decide)
    have f1 := zf 1 (by decide)
    have f2 := zf 2 (by decide)
    have f3 := zf 3 (by decide)
    have f4 := zf 4 (by decide)
    have f5 := zf 5 (by decide)
    have f6 := zf 6 (by decide)
    have hlt := World.block_lt_of_cell? _ _ z0
    have Z1f := hide zf
    clear hb1 zf
    go_wp2_with fail
    have HP : Hid (CBox (put7 w1 w.heap.size zeroC) w.heap.size zeroC) := CBox.put ⟨z0, z1, z2, z3, z4, z5, z6, Z1f.out⟩ zeroC
    have HB := hide (put_below B1.out w.heap.size (Nat.le_refl _) zeroC)
    unfold put7 zeroC at HP HB
    simp only at HP HB
    refine bodyPost_ret (v := ckV (cookieS h s)) ?_ rfl ⟨rfl, HB.out⟩
    rw [HN.out]
    refine (resRead (b := false) HP.out ?_ ?_).trans ?_
    · rfl
    · rfl
    · rfl
  | true =>
    have HH := hide hho
    clear hho
    go_enter Tryd.func7, Tryd.ntmps7
    go_wp2_with fail
    refine (hostL_any h _ (HE.out.keep ((Below.refl _ _).alloc (Nat.le_refl _) _)) (by omega)).mono ?_
    rintro e w1 ⟨rfl, hb1⟩
    rw [HH.out]
    have B1 := hide (((Below.refl w.heap.size w).alloc (Nat.le_refl _) _).trans (hb1.mono (by simp)))
    have Z1 := hide ((CBox.new w 23).keep hb1)
    have hrg : w.heap.size < w1.heap.size := Z1.out.lt
    clear hb1
    go_wp2_with fail
    have E2 := hide (HE.out.keep (B1.out.alloc (Nat.le_of_lt hrg) (Obj.cells #[.string ⟨#[]⟩, .int .i64 0, .string ⟨#[]⟩, .string ⟨#[]⟩, .bool false, .bool false, .int .i64 0] 23)))
    refine (pairs_any s _ E2.out hs).mono ?_
    rintro e w2 ⟨ao, cap, rfl, hown, hb2⟩
    have Z2 := hide ((Z1.out.keep ((Below.refl _ _).alloc (Nat.le_refl _) _)).keep hb2)
    have C2 := hide ((CBox.new w1 23).keep hb2)
    have B2 := hide ((B1.out.alloc (Nat.le_of_lt hrg) (Obj.cells #[.string ⟨#[]⟩, .int .i64 0, .string ⟨#[]⟩, .string ⟨#[]⟩, .bool false, .bool false, .int .i64 0] 23)).trans (hb2.mono (by simp; omega)))
    have P2 : Hid (PairsFar w2 (w1.heap.size + 1) ao (pairsS s)) := by
      have := pairsFar_own hown
      unfold Hid; simpa using this
    clear hb2 hown E2 B1 Z1
    generalize w1.heap.size = g at *
    clear w1
    go_wp2_with fail
    go_loopw [16] (fun iv W => ∃ (k : Nat) (c : Ck), k ≤ (pairsS s).length ∧ iv = .int .i64 k ∧ Hid (foldC h ((pairsS s).take k) = some c) ∧ Hid (CBox W w.heap.size zeroC) ∧ Hid (CBox W g c) ∧ Hid (PairsFar W (g + 1) ao (pairsS s)) ∧ Hid (Below w.heap.size w W)) (fun iv _ => (pairsS s).length - (intOf iv).toNat)
    case atStart => exact ⟨0, zeroC, Nat.zero_le _, rfl, rfl, Z2, C2, P2, B2⟩
    case round =>
      clear Z2 C2 P2 B2
      obtain ⟨k, c, hk, rfl, HF, HZ, HC, HP, HB⟩ := hrel
      by_cases hlt : k < (pairsS s).length
      · have hlI : (k : Int) < ((pairsS s).length : Int) := by omega
        obtain ⟨b, hgb, rfl, hc1, hc2⟩ := HP.out k hlt
        have hv := (HLe.out _ (List.getElem_mem hlt)).2
        have hgl := HC.out.lt
        have hZl := HZ.out.lt
        have HT := hide (foldC_take hlt HF.out)
        have HD := hide (fun hd => cookie_dead (h := h) (s := s) (foldC_dead hlt HF.out hd))
        generalize (pairsS s)[k] = p at *
        rw [Nat.mul_comm] at hc1 hc2
        go_wp2_with fail
        have HZa := hide (HZ.out.keep ((Below.refl _ _).alloc (Nat.le_refl _) (Obj.cells #[.string ⟨p.1.toArray⟩, .string ⟨p.2.toArray⟩] 36)))
        have HCa := hide (HC.out.keep ((Below.refl _ _).alloc (Nat.le_refl _) (Obj.cells #[.string ⟨p.1.toArray⟩, .string ⟨p.2.toArray⟩] 36)))
        have HPa := hide (HP.out.keep ((Below.refl _ _).alloc (Nat.le_refl _) (Obj.cells #[.string ⟨p.1.toArray⟩, .string ⟨p.2.toArray⟩] 36)))
        have HBa := hide (HB.out.alloc HB.out.size (Obj.cells #[.string ⟨p.1.toArray⟩, .string ⟨p.2.toArray⟩] 36))
        refine (readPair_any h p.1 p.2 c g _ HCa.out (by omega) (fun W hW => mayDomain_any h p.2 W (HE.out.keep (HBa.out.trans (hW.mono (by omega)))) hh (by omega))).mono ?_
        rintro e w4 ⟨rfl, hyes, hbut⟩
        have HZb := hide (HZa.out.but hbut (by omega))
        have HPb := hide (HPa.out.but (Nat.lt_succ_self g) hbut)
        have HBb := hide (HBa.out.trans (hbut.low (Nat.le_of_lt hrg) HBa.out.size))
        clear HZ HC HP HB HZa HCa HPa HBa hbut hc1 hc2
        cases hst : stepC h c (p.1, p.2) with
        | none =>
          have HN := hide (HD.out hst)
          obtain ⟨z0, z1, z2, z3, z4, z5, z6, zf⟩ := HZb.out
          have f0 := zf 0 (by decide)
          have f1 := zf 1 (by decide)
          have f2 := zf 2 (by decide)
          have f3 := zf 3 (by decide)
          have f4 := zf 4 (by decide)
          have f5 := zf 5 (by decide)
          have f6 := zf 6 (by decide)
          have HP : Hid (CBox (put7 w4 w.heap.size zeroC) w.heap.size zeroC) := CBox.put HZb.out zeroC
          have HB := hide (put_below HBb.out w.heap.size (Nat.le_refl _) zeroC)
          have hlt4 := HZb.out.lt
          clear zf HD HT hst hyes hlt hlI
          go_wp2_with fail
          unfold put7 zeroC at HP HB
          simp only at HP HB
          refine bodyPost_ret (v := ckV (cookieS h s)) ?_ rfl ⟨rfl, HB.out⟩
          rw [HN.out]
          refine (resRead (b := false) HP.out ?_ ?_).trans ?_
          · rfl
          · rfl
          · rfl
        | some d =>
          have HF2 : Hid (foldC h ((pairsS s).take (k + 1)) = some d) := HT.out.trans hst
          have HC2 := hide (hyes d hst)
          clear HF HD HT hst hyes
          go_wp2_with fail
          refine ⟨⟨k + 1, d, by omega, by go_num, HF2, HZb, HC2, HPb, HBb⟩, by simp [intOf]; omega⟩
      · have HF2 : Hid (foldC h (pairsS s) = some c) := by
          have := HF.out
          rwa [List.take_of_length_le (by omega)] at this
        have HL := hide (cookie_live HH.out HF2.out)
        have hgl := HC.out.lt
        clear HF HF2
        go_wp2_with fail
        refine (fillIn_any g c _ HC.out).mono ?_
        rintro e w4 ⟨⟨ve, rfl⟩, hC4, hbut⟩
        have HZb := hide (HZ.out.but hbut (by omega))
        have HBb := hide (HB.out.trans (hbut.low (Nat.le_of_lt hrg) HB.out.size))
        clear HZ HC HP HB hbut
        generalize fillC c = d at *
        obtain ⟨y0, y1, y2, y3, y4, y5, y6, yf⟩ := hC4
        obtain ⟨z0, z1, z2, z3, z4, z5, z6, zf⟩ := HZb.out
        have f0 := zf 0 (by decide)
        have f1 := zf 1 (by decide)
        have f2 := zf 2 (by decide)
        have f3 := zf 3 (by decide)
        have f4 := zf 4 (by decide)
        have f5 := zf 5 (by decide)
        have f6 := zf 6 (by decide)
        have hlt4 := HZb.out.lt
        have hlg4 := World.block_lt_of_cell? _ _ y0
        clear zf yf
        by_cases hn : d.same = 1 ∧ d.sec = false
        · obtain ⟨hn1, hn2⟩ := hn
          have HN : Hid (cookieS h s = none) := by unfold Hid; rw [HL.out, lastC, hn1, hn2]; rfl
          have hb1 : ((d.same : Int) == 1) = true := beq_iff_eq.2 (by omega)
          rw [hn2] at y4
          have HP : Hid (CBox (put7 w4 w.heap.size zeroC) w.heap.size zeroC) := CBox.put HZb.out zeroC
          have HB := hide (put_below HBb.out w.heap.size (Nat.le_refl _) zeroC)
          clear hn1 hn2
          go_wp2_with fail
          unfold put7 zeroC at HP HB
          simp only at HP HB
          refine bodyPost_ret (v := ckV (cookieS h s)) ?_ rfl ⟨rfl, HB.out⟩
          rw [HN.out]
          refine (resRead (b := false) HP.out ?_ ?_).trans ?_
          · rfl
          · rfl
          · rfl
        · have HN : Hid (cookieS h s = some d) := by
            unfold Hid; rw [HL.out, lastC]
            by_cases h1 : d.same = 1
            · have h2 : d.sec = true := by cases hq : d.sec; exact absurd ⟨h1, hq⟩ hn; rfl
              rw [h2]; simp
            · rw [decide_eq_false h1]; rfl
          have HP : Hid (CBox (put7 w4 w.heap.size d) w.heap.size d) := CBox.put HZb.out d
          have HB := hide (put_below HBb.out w.heap.size (Nat.le_refl _) d)
          by_cases hq : d.same = 1
          · have h2 : d.sec = true := by cases hq' : d.sec; exact absurd ⟨hq, hq'⟩ hn; rfl
            have hb1 : ((d.same : Int) == 1) = true := beq_iff_eq.2 (by omega)
            rw [h2] at y4
            unfold put7 at HP HB
            rw [h2] at HP HB
            clear hn hq h2
            go_wp2_with fail
            refine bodyPost_ret (v := .tuple #[ckA d, .bool true]) ?_ rfl ⟨by rw [HN.out]; rfl, HB.out⟩
            exact resRead (b := true) HP.out rfl rfl
          · have hb1 : ((d.same : Int) == 1) = false := beq_eq_false_iff_ne.2 (by omega)
            clear hn hq
            go_wp2_with fail
            unfold put7 at HP HB
            refine bodyPost_ret (v := .tuple #[ckA d, .bool true]) ?_ rfl ⟨by rw [HN.out]; rfl, HB.out⟩
            exact resRead (b := true) HP.out rfl rfl
end Go.Proofs.YtfbalmamhcbojaaDoor
