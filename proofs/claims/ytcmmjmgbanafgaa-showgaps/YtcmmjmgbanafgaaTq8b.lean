/- The walk over tree.reader's endpoint. -/
import Derived.Test.YtcmmjmgbanafgaaTq8
namespace Go.Proofs.Ytcmmjmgbanafgaa
open Go.RowKit Go.Proofs.Url Go.Proofs.Url.Syn

set_option maxHeartbeats 4000000 in
set_option maxRecDepth 100000 in
theorem endpoint_any (g : Nat) (ao : Option Addr) (cap : Nat) (ts r : List Tk) (sz : Nat) (w : World) (h : RS w g ao cap ts r sz) (ht : TokOk ts) (hl : ts.length < 4294967281) (hw : wordR r = w_endpoint) :
    Calls Try.prog 74 #[.pointer (some ⟨g, 0, none⟩)] w fun e w' => OutG ShI (itemR r) g ao cap ts sz w e w' := by
  have HH := hide (end_head (h.tok ht) hw)
  have HIF := hide (fun r W (a : RS W g ao cap ts r sz) => attribute_any g ao cap ts r sz W a ht hl)
  have hgw := h.lt
  have R0 := hide (RN.new h (.slice none 0 0) (.slice none 0 0) 51)
  have HL := hide hl
  have HT := hide ht
  obtain ⟨i0, hi, hz0, hz1, hz2⟩ := info_parts infoN
  have HI := hide hi
  have HZ0 := hide hz0
  have HZ1 := hide hz1
  have HZ2 := hide hz2
  clear h hw hl ht hi hz0 hz1 hz2
  go_enter Try.func74, Try.ntmps74
  go_upto_region 1 with fail
  obtain ⟨W0, hW0⟩ : ∃ x, x = w.alloc (Obj.cells #[.slice none 0 0, .slice none 0 0] 51) := ⟨_, rfl⟩
  rw [← hW0] at R0 ⊢
  clear hW0
  have hml := R0.out.nb.lt
  have hsw := R0.out.bt.size
  go_wp2_with fail
  have R2 := hide (fun o => R0.out.alloc o)
  refine (leaf_full [w_endpoint, w_NAME, w_at, w_NAME, w_CAPS, w_TEXT, w_lbr] W0.heap.size g ao cap ts r sz _ (R2.out _).rs (lits_new W0 [w_endpoint, w_NAME, w_at, w_NAME, w_CAPS, w_TEXT, w_lbr] 9) (by omega) (by simp) (by decide) HL.out).mono ?_
  rintro e w3 ⟨B3, h3⟩
  have hs3 : W0.heap.size + 1 ≤ w3.heap.size := by simpa using B3.size
  cases hq : takesR [w_endpoint, w_NAME, w_at, w_NAME, w_CAPS, w_TEXT, w_lbr] r with
  | bad r' =>
    rw [hq] at h3
    obtain ⟨rfl, S3⟩ := h3
    have R3 := hide ((R2.out _).but hgw B3 S3)
    have HX := hide (HH.out.1 _ hq)
    clear B3 S3 R0 R2 hq HH
    go_wp2_with fail
    exact ⟨rfl, OutG.isBad HX.out R3.out.bt R3.out.rs⟩
  | ok l r1 =>
    rw [hq] at h3
    obtain ⟨b1, n1, rfl, N3, S3⟩ := h3
    obtain ⟨Y, hYa, hYs, hYe⟩ := HH.out.2 _ _ hq
    have HYs := hide hYs
    have HYe := hide hYe
    have R3 := hide ((R2.out _).but hgw B3 S3)
    have N3 : Hid (TA w3 (In (W0.heap.size + 1) w3.heap.size) b1 l) := by unfold Hid; simpa using N3
    have HR1 := hide S3.le
    clear B3 S3 R0 R2 hq HH hYa hYs hYe
    go_wp2_with fail
    obtain ⟨W4, hW4⟩ : ∃ x, x = w3.alloc (Obj.cells #[.slice b1 l.length n1, .slice none 0 0] 51) := ⟨_, rfl⟩
    have b4 : Below w3.heap.size w3 W4 := by rw [hW4]; exact (Below.refl _ _).alloc (Nat.le_refl _) _
    have M4 : Hid (NB W4 w3.heap.size (.slice b1 l.length n1) (.slice none 0 0)) := by unfold Hid; rw [hW4]; exact NB.new _ _ _ _
    have R4 := hide (R3.out.below b4)
    have N4 : Hid (TA W4 (In (W0.heap.size + 1) w3.heap.size) b1 l) := N3.out.keep (KeptIn.below b4 (Nat.le_refl _) _)
    rw [← hW4]
    clear hW4 b4 R3 N3
    have hmg : g < w3.heap.size := by omega
    have hm03 : w.heap.size < w3.heap.size := by omega
    go_loopw [] (fun W => ∃ (kk : Nat) (acc : List Atr) (ns : List Nd) (xs : List Value) (r' : List Tk) (a2 : Option Addr) (cv : Nat), r'.length ≤ kk ∧ ns.length + r'.length ≤ ts.length ∧ Hid (attrsF (r1.length + 1) r1 = (attrsF (kk + 1) r').map (fun x => acc ++ x)) ∧ Hid (ShAs (Fo.ofL ns) acc) ∧
      Hid (RN w W w.heap.size g ao cap ts r' sz (.slice none 0 0) (.slice none 0 0)) ∧ Hid (NB W w3.heap.size (.slice b1 l.length n1) (.slice a2 ns.length cv)) ∧ Hid (W.ownsRow (w3.heap.size + 1) 51 2 (.slice a2 ns.length cv) ns.length xs) ∧
      Hid (RowN W (KR w3.heap.size W a2) ns xs) ∧ Hid (TA W (In (W0.heap.size + 1) w3.heap.size) b1 l)) (fun W => leftR W g ts.length)
    case atStart => exact ⟨r1.length, [], [], [], r1, none, 0, Nat.le_refl _, by simpa using HR1.out, by unfold Hid; rw [map_idq], trivial, R4, M4, World.ownsRow_nil _ _ _ _, rfl, N4⟩
    case round =>
      obtain ⟨kk, acc, ns, xs, r', a2, cv, hkk, hnl, hE, hA, hR, hM, hO, hX, hN⟩ := hrel
      clear R4 M4 N4
      have hrl : Hid (leftR wr g ts.length = r'.length) := hR.out.rs.left
      cases hq : isT w_rbr r' with
      | true =>
        have HSe : Hid (∀ W, RS W g ao cap ts r' sz → Calls Try.prog 85 #[.pointer (some ⟨g, 0, none⟩), .string ⟨#[125]⟩] W fun e w' => e = .returned (.bool true) ∧ Below W.heap.size W w') := fun W a => by
          have := sees_any w_rbr g ao cap ts r' sz W a; rwa [fitT_lit (by decide), hq] at this
        have hnd : needR w_rbr r' = .ok () r'.tail := by unfold needR; rw [hq]; rfl
        have HX : Hid (itemR r = .ok { Y with attrs := acc } r'.tail) := by
          unfold Hid
          rw [HYe.out, hE.out, attrs_succq, if_pos hq]
          simp only [Rd.map, Rd.then, List.append_nil]
          rw [hnd]
        have HTk : Hid (takesR [w_rbr] r' = .ok [] r'.tail) := by
          unfold Hid
          rw [take_sign (by decide) (by decide) (hR.out.rs.tok HT.out), hnd]; rfl
        have HY7 := hide (HYs.out _ _ hA.out)
        clear hE hq hnd hA HYs HYe
        go_wp2_with fail
        refine (HSe.out _ hR.out.rs).mono ?_
        rintro e w4 ⟨rfl, b4⟩
        have R4 := hide (hR.out.below b4)
        have M4 := hide (hM.out.below b4)
        have hmw := hM.out.lt
        have O4 := hide (ownsq_kept hO.out (KeptIn.below b4 (Nat.le_refl _) _))
        have X4 : Hid (RowN w4 (KR w3.heap.size w4 a2) ns xs) := (hX.out.keep (KeptIn.belowK b4 fun _ k => k.2.1)).sub fun _ k => ⟨k.1, Nat.lt_of_lt_of_le k.2.1 b4.size, k.2.2⟩
        have N4 := hide (hN.out.keep (KeptIn.below b4 (by omega) _))
        clear b4 hR hM hO hX hN HSe
        have hml4 := M4.out.lt
        have hzl4 := R4.out.nb.lt
        go_wp2_with fail
        have R5 := hide (fun o => R4.out.alloc o)
        refine (take_any [w_rbr] w4.heap.size g ao cap ts r' sz _ (R5.out _).rs (lits_new w4 [w_rbr] 9) (by omega) (by simp) (by decide) HL.out).mono ?_
        rintro e w8 ⟨B8, h8⟩
        rw [HTk.out] at h8
        obtain ⟨j1, j2, rfl, T8, S8⟩ := h8
        have hs8 : w4.heap.size + 1 ≤ w8.heap.size := by simpa using B8.size
        have RF := hide ((R5.out _).but hgw B8 S8)
        have ba : Below w4.heap.size w4 (w4.alloc (Obj.cells #[.string ⟨w_rbr.toArray⟩] 9)) := (Below.refl _ _).alloc (Nat.le_refl _) _
        have M8 := hide ((M4.out.below ba).but B8 (by omega))
        have kp : ∀ (K : Nat → Prop), (∀ b, K b → g < b ∧ b < w4.heap.size) → KeptIn K w4 w8 := fun K hK => (KeptIn.belowK ba fun b k => (hK b k).2).trans (KeptIn.butK B8 (fun k => absurd (hK g k).1 (Nat.lt_irrefl _)) fun b k => by have := (hK b k).2; simp; omega)
        have O8 := hide (ownsq_kept O4.out (kp _ fun b k => ⟨by have := k.1; omega, k.2⟩))
        have X8 := hide (X4.out.keep (kp _ fun b k => ⟨by have := k.1; omega, k.2.1⟩))
        have N8 := hide (N4.out.keep (kp _ fun b k => ⟨by have := k.1; omega, by have := k.2; omega⟩))
        clear B8 S8 R4 R5 M4 O4 X4 N4 ba kp T8 HTk
        have x0 := M8.out.c0
        have x1 := M8.out.c1
        have hm8 := M8.out.lt
        have NN : Hid (NA w8 (KC w.heap.size w3.heap.size w8) b1 a2 (l, Fo.ofL ns)) := by
          refine ⟨N8.out.sub fun b k => ⟨by have := k.1; omega, by have := k.2; omega, by have := k.2; omega⟩, ?_⟩
          by_cases hn0 : ns = []
          · rw [hn0]; exact .inl rfl
          · have hpos : 0 < ns.length := List.length_pos_iff.2 hn0
            obtain ⟨q, rfl, hq1, hq2, hqc⟩ := owns_cells O8.out hpos
            refine .inr ⟨q, rfl, ⟨by omega, by omega, hq2⟩, ?_⟩
            exact (X8.out.fc (k := 0) (fun j v hj => by rw [Nat.zero_mul, Nat.zero_add]; exact hqc j v hj)).sub fun b k => ⟨by have := k.1; omega, by have := k.1; omega, by have := k.2.1; omega⟩
        clear O8 X8 N8
        have z0 := RF.out.nb.c0
        have z1 := RF.out.nb.c1
        have u0 := RF.out.nb.f0
        have u1 := RF.out.nb.f1
        have hml8 := RF.out.nb.lt
        have NF := hide (RF.out.nb.put (.slice b1 l.length n1) (.slice a2 ns.length cv))
        have HO : Hid (OutG ShI (itemR r) g ao cap ts sz w (.returned (.agg #[.slice b1 l.length n1, .slice a2 ns.length cv])) (putN w8 w.heap.size (.slice b1 l.length n1) (.slice a2 ns.length cv))) := by
          have := RF.out.outK (Sh := ShI) (c1 := n1) (c2 := cv) hgw HX.out NN.out (fun b k => ⟨by have := k.1; omega, k.2.2, by have := k.1; omega⟩) HY7.out
          rw [show (l, Fo.ofL ns).2.len = ns.length from Fo.ofL_len ns] at this
          exact this
        unfold putN at NF HO
        clear RF NN M8 HX HY7
        go_wp2_with fail
        refine bodyPost_ret (v := .agg #[.slice b1 l.length n1, .slice a2 ns.length cv]) ?_ rfl ?_
        · exact resReadEnd NF.out rfl
        · exact HO.out
      | false =>
        have HSe : Hid (∀ W, RS W g ao cap ts r' sz → Calls Try.prog 85 #[.pointer (some ⟨g, 0, none⟩), .string ⟨#[125]⟩] W fun e w' => e = .returned (.bool false) ∧ Below W.heap.size W w') := fun W a => by
          have := sees_any w_rbr g ao cap ts r' sz W a; rwa [fitT_lit (by decide), hq] at this
        have HE2 : Hid (attrsF (r1.length + 1) r1 = ((semiR (attrR r')).then fun a r => (attrsF kk r).map fun l => a :: l).map (fun x => acc ++ x)) := by
          unfold Hid; rw [hE.out, attrs_succq, if_neg (by rw [hq]; decide)]
        clear hE hq
        go_wp2_with fail
        refine (HSe.out _ hR.out.rs).mono ?_
        rintro e w4 ⟨rfl, b4⟩
        have R4 := hide (hR.out.below b4)
        have M4 := hide (hM.out.below b4)
        have hmw := hM.out.lt
        have O4 := hide (ownsq_kept hO.out (KeptIn.below b4 (Nat.le_refl _) _))
        have X4 : Hid (RowN w4 (KR w3.heap.size w4 a2) ns xs) := (hX.out.keep (KeptIn.belowK b4 fun _ k => k.2.1)).sub fun _ k => ⟨k.1, Nat.lt_of_lt_of_le k.2.1 b4.size, k.2.2⟩
        have N4 := hide (hN.out.keep (KeptIn.below b4 (by omega) _))
        clear b4 hR hM hO hX hN HSe
        have hml4 := M4.out.lt
        have hzl4 := R4.out.nb.lt
        go_upto_region 3 with fail
        have hm3g : g < w3.heap.size + 1 := by omega
        cases hx : semiR (attrR r') with
        | bad r3 =>
          have HX : Hid (itemR r = .bad r3) := by unfold Hid; rw [HYe.out, HE2.out, hx]; rfl
          have HCall : Hid (∀ W, RS W g ao cap ts r' sz → Calls Try.prog 86 #[.pointer (some ⟨g, 0, none⟩)] W fun e w' => ButP g W w' ∧ e = .panicked stuckE ∧ RS w' g ao cap ts r3 sz) := fun W a => by
            have := HIF.out r' W a; rw [hx] at this; exact this
          clear hx HE2 HYs HYe O4 X4 N4 hA
          refine RP.wp_region_posts_last (X := fun ch W => ch = stuckE ∧ ButP g w4 W ∧ RS W g ao cap ts r3 sz) (l := [_, _, _, _, _, _, _]) (ol := _) rfl (by kernel_rfl) (RC4 w4 g ao cap ts r' r' sz 3) (fun _ W W' => ButP g W W')
            [some 10, some 11, some 12, some 13, some 14, some 15, some 16] [[], [0], [], [2], [2, 3], [0, 1, 2, 3, 4], [], [0, 1, 2, 3, 4, 5, 6]]
            [fun v _ => v = .pointer (some ⟨w3.heap.size, 1, none⟩), fun v _ => v = .slice a2 ns.length cv, fun v _ => v = .pointer (some ⟨g, 0, none⟩), fun _ _ => False, fun _ _ => False, fun _ _ => False, fun v _ => v = .pointer (some ⟨w3.heap.size, 1, none⟩)]
            ?_ rfl (by kernel_rfl) (by kernel_rfl) (by kernel_rfl) (by kernel_rfl) (by kernel_rfl) rfl rfl ?_ ?_ ?_ ?_
          · intro ch A W hs hd ho hx
            obtain ⟨rfl, BW, SW⟩ := hx
            exact And.intro hd (OutG.isBad HX.out (R4.out.bt.trans BW) SW)
          · exact .eq (.eq (.eq (.cons (fun _ _ _ _ _ _ _ h => h) (.cons (fun _ _ _ _ _ _ _ h => h) (.cons (fun _ _ _ _ _ _ _ h => h) (.eq .nil))))))
          · intro L hL
            exact RC4.none R4.out.rs (hL 3)
          · refine .cons ?_ (.cons ?_ (.cons ?_ (.cons ?_ (.cons ?_ (.cons ?_ (.cons ?_ .nil))))))
            all_goals (intro L A W hLi hC old nd)
            all_goals (refine RP.runs_none rfl ?_)
            · have e3 : (A.tmps[3]?).getD undef = .pointer (some ⟨w3.heap.size, 0, none⟩) := old 3 (by kernel_rfl)
              simp [RP.Oper.gives, RP.gives, go_sem, e3]
              exact ⟨hC.same (by decide) (Below.refl _ _), But.refl _ _ _, rfl⟩
            · have e10 : (A.tmps[10]?).getD undef = .pointer (some ⟨w3.heap.size, 1, none⟩) := nd.1
              have x1 := (M4.out.but hC.bt (by omega)).c1
              simp [RP.Oper.gives, RP.gives, go_sem, e10, x1]
              exact ⟨hC.same (by decide) (Below.refl _ _), But.refl _ _ _, rfl⟩
            · have e0 : (A.tmps[0]?).getD undef = .pointer (some ⟨g, 0, none⟩) := old 0 (by kernel_rfl)
              simp [RP.Oper.gives, RP.gives, go_sem, e0]
              exact ⟨hC.same (by decide) (Below.refl _ _), But.refl _ _ _, rfl⟩
            · have e12 : (A.tmps[12]?).getD undef = .pointer (some ⟨g, 0, none⟩) := nd.1
              have S := hC.rs
              rw [hLi] at S
              simp [RP.Oper.gives, RP.gives, go_sem, e12]
              refine (HCall.out W S).mono fun e W' h => ?_
              exact ⟨_, h.2.1, rfl, hC.bt.trans h.1, h.2.2⟩
            · exact nd.2.1.elim
            · exact nd.2.2.2.1.elim
            · have e3 : (A.tmps[3]?).getD undef = .pointer (some ⟨w3.heap.size, 0, none⟩) := old 3 (by kernel_rfl)
              simp [RP.Oper.gives, RP.gives, go_sem, e3]
              exact ⟨hC.same (by decide) (Below.refl _ _), But.refl _ _ _, rfl⟩
          · intro L W hall hC E hE
            exact .cons fun v1 h1 => .cons fun v2 h2 => .cons fun v3 h3 => .cons fun v4 h4 => h4.elim
        | ok a r3 =>
          have hsh := semi_short hx
          have HCall : Hid (∀ W, RS W g ao cap ts r' sz → Calls Try.prog 86 #[.pointer (some ⟨g, 0, none⟩)] W fun e w' => ButP g W w' ∧ ∃ (y2 : Nd) (p1 : Option Addr) (q1 : Nat) (p2 : Option Addr) (q2 : Nat), e = .returned (.agg #[.slice p1 y2.1.length q1, .slice p2 y2.2.len q2]) ∧ NA w' (In W.heap.size w'.heap.size) p1 p2 y2 ∧ ShA y2 a ∧ RS w' g ao cap ts r3 sz) := fun W b => by
            have := HIF.out r' W b; rw [hx] at this; exact this
          obtain ⟨k', rfl⟩ : ∃ k, kk = k + 1 := ⟨kk - 1, by omega⟩
          have HE3 : Hid (attrsF (r1.length + 1) r1 = (attrsF (k' + 1) r3).map (fun x => (acc ++ [a]) ++ x)) := by
            unfold Hid; rw [HE2.out, hx]
            simp only [Rd.then]
            rw [map_mapq]; congr 1; funext x; simp
          have hkk3 : r3.length ≤ k' := by omega
          have hl3 : r3.length < r'.length := by omega
          have hnl3 : ns.length + 1 + r3.length ≤ ts.length := by omega
          have HOB : Hid (∀ j, (Value.slice a2 ns.length cv).ownBlock = some j → w3.heap.size + 1 ≤ j ∧ j < w4.heap.size ∧ a2 = some ⟨j, 0, none⟩) := by
            intro j hj
            rcases O4.out.2 with ⟨hv, _⟩ | ⟨q, c, cur, hv, hq1, hh, _⟩
            · rw [hv] at hj; cases hj
            · have hlt : q < w4.heap.size := by
                rcases Nat.lt_or_ge q w4.heap.size with h | h
                · exact h
                · rw [Array.getElem?_eq_none h] at hh; cases hh
              simp only [Value.slice.injEq] at hv
              obtain ⟨rfl, _, _⟩ := hv
              cases hj
              exact ⟨hq1, hlt, rfl⟩
          have f3 : Hid (ns.length + 1 ≤ maxLen) := by unfold Hid maxLen; have := HL.out; omega
          have f4 : Hid ((ns.length + 1) * 48 ≤ 140737488355328) := by unfold Hid; have := HL.out; omega
          have hw34 : w3.heap.size < w4.heap.size := hml4
          have hKg : ¬ KE (W0.heap.size + 1) w3.heap.size w4 a2 g := fun k => by
            rcases k with k | k
            · have := k.1; omega
            · have := k.1; omega
          have hKl : ∀ b, KE (W0.heap.size + 1) w3.heap.size w4 a2 b → b < w4.heap.size := fun b k => by
            rcases k with k | k
            · exact k.2.1
            · have := k.2; omega
          have hKo : ∀ b, KE (W0.heap.size + 1) w3.heap.size w4 a2 b → some b ≠ (Value.slice a2 ns.length cv).ownBlock := fun b k e => by
            have := HOB.out b e.symm
            rcases k with k | k
            · exact k.2.2 this.2.2
            · have := k.2; omega
          clear hx HE2 hsh hkk hnl
          refine RP.wp_region_posts_last (X := fun _ _ => False) (l := [_, _, _, _, _, _, _]) (ol := _) rfl (by kernel_rfl)
            (RE w w4 w.heap.size w3.heap.size g ao cap ts r' r3 sz (.slice b1 l.length n1) (.slice a2 ns.length cv) (KE (W0.heap.size + 1) w3.heap.size w4 a2) (fun W => W.ownsRow (w3.heap.size + 1) 51 2 (.slice a2 ns.length cv) ns.length xs)) (RKE g w4.heap.size)
            [some 10, some 11, some 12, some 13, some 14, some 15, some 16] [[], [0], [], [2], [2, 3], [0, 1, 2, 3, 4], [], [0, 1, 2, 3, 4, 5, 6]]
            [fun v _ => v = .pointer (some ⟨w3.heap.size, 1, none⟩), fun v _ => v = .slice a2 ns.length cv, fun v _ => v = .pointer (some ⟨g, 0, none⟩), fun v W => AttP w4.heap.size a v W, fun v W => AttR w4.heap.size a v W, fun v W => AttG w4.heap.size w3.heap.size (.slice a2 ns.length cv) ns.length xs a v W, fun v _ => v = .pointer (some ⟨w3.heap.size, 1, none⟩)]
            (fun _ _ _ _ _ _ h => h.elim) rfl (by kernel_rfl) (by kernel_rfl) (by kernel_rfl) (by kernel_rfl) (by kernel_rfl) rfl rfl ?_ ?_ ?_ ?_
          · refine .eq (.eq (.eq (.cons ?_ (.cons ?_ (.cons ?_ (.eq .nil))))))
            · rintro i v W W' h1 h2 hk ⟨y2, p1, q1, p2, q2, e, hn, hs⟩
              exact ⟨y2, p1, q1, p2, q2, e, (hn.keep (hk.kept (by omega))).mono (Nat.le_refl _) hk.size, hs⟩
            · rintro i v W W' h1 h2 hk ⟨q, y2, p1, q1, p2, q2, e, hq, hc, hn, hs⟩
              refine ⟨q, y2, p1, q1, p2, q2, e, hq, fun j u hj => ?_, (hn.keep (hk.kept (by omega))).mono (Nat.le_refl _) hk.size, hs⟩
              exact (hk.kept (by omega)).cell ⟨hq, World.block_lt_of_cell? W _ (hc j u hj)⟩ (hc j u hj)
            · rintro i v W W' h1 h2 hk ⟨q6, c6, y2, p1, q1, p2, q2, e, ho, hn, hs, hw⟩
              have bt := hk.rest h1
              refine ⟨q6, c6, y2, p1, q1, p2, q2, e, ownsq_kept ho (KeptIn.but bt hm3g (Nat.le_refl _)), (hn.keep (KeptIn.butK bt (fun k => by have := k.1; omega) fun b k => k.2.1)).sub fun b k => ⟨k.1, Nat.lt_of_lt_of_le k.2.1 bt.size, k.2.2⟩, hs, hw⟩
          · intro L hL
            exact ⟨by rw [hL 3]; exact R4.out.below ((Below.refl _ _).drew), M4.out.below ((Below.refl _ _).drew), Nat.le_refl _, fun _ => owns_drew O4.out, KeptIn.refl _ _⟩
          · refine .cons ?_ (.cons ?_ (.cons ?_ (.cons ?_ (.cons ?_ (.cons ?_ (.cons ?_ .nil))))))
            all_goals (intro L A W hLi hC old nd)
            all_goals (refine RP.runs_none rfl ?_)
            · have e3 : (A.tmps[3]?).getD undef = .pointer (some ⟨w3.heap.size, 0, none⟩) := old 3 (by kernel_rfl)
              simp [RP.Oper.gives, RP.gives, go_sem, e3]
              exact ⟨hC.pure 0 (by decide) (by decide), RKE.same _ _ _ _, rfl⟩
            · have e10 : (A.tmps[10]?).getD undef = .pointer (some ⟨w3.heap.size, 1, none⟩) := nd.1
              have x1 := hC.nb.c1
              simp [RP.Oper.gives, RP.gives, go_sem, e10, x1]
              exact ⟨hC.pure 1 (by decide) (by decide), RKE.same _ _ _ _, rfl⟩
            · have e0 : (A.tmps[0]?).getD undef = .pointer (some ⟨g, 0, none⟩) := old 0 (by kernel_rfl)
              simp [RP.Oper.gives, RP.gives, go_sem, e0]
              exact ⟨hC.pure 2 (by decide) (by decide), RKE.same _ _ _ _, rfl⟩
            · have e12 : (A.tmps[12]?).getD undef = .pointer (some ⟨g, 0, none⟩) := nd.1
              have rn := hC.rn
              rw [hLi] at rn
              simp [RP.Oper.gives, RP.gives, go_sem, e12]
              refine (HCall.out W rn.rs).mono fun e W' h => ?_
              obtain ⟨BB, y2, p1, q1, p2, q2, rfl, hn, hs, S2⟩ := h
              have hup := hC.up
              refine ⟨_, rfl, ⟨?_, hC.nb.but BB (by omega), Nat.le_trans hC.up BB.size, fun hL5 => ownsq_kept (hC.own ?_) (KeptIn.but BB hm3g (Nat.le_refl _)), hC.row.trans (KeptIn.butK BB hKg fun b k => by have := hKl b k; omega)⟩, RKE.but (by decide) BB, ⟨y2, p1, q1, p2, q2, rfl, hn.mono hC.up (Nat.le_refl _), hs⟩⟩
              · rw [RP.also_self]; exact rn.but hgw BB S2
              · rw [← hL5]; unfold RP.also; rw [if_neg (by decide)]
            · obtain ⟨_, ⟨y2, p1, q1, p2, q2, e13, hn, hs⟩, _⟩ := nd
              replace e13 : (A.tmps[13]?).getD undef = .agg #[.slice p1 y2.1.length q1, .slice p2 y2.2.len q2] := e13
              simp [RP.Oper.gives, RP.gives, go_sem, e13]
              have bb : Below W.heap.size W (W.alloc (Obj.cells #[.slice p1 y2.1.length q1, .slice p2 y2.2.len q2] 51)) := (Below.refl _ _).alloc (Nat.le_refl _) _
              have hup := hC.up
              refine ⟨⟨?_, hC.nb.below bb, Nat.le_trans hC.up bb.size, fun hL5 => ownsq_kept (hC.own ?_) (KeptIn.below bb (Nat.le_refl _) _), hC.row.trans (KeptIn.belowK bb fun b k => by have := hKl b k; omega)⟩, RKE.but (by decide) (ButP.of bb), ⟨W.heap.size, y2, p1, q1, p2, q2, rfl, hC.up, fun j u hj => ?_, (hn.keep (KeptIn.below bb (Nat.le_refl _) _)).mono (Nat.le_refl _) bb.size, hs⟩⟩
              · have e : RP.also L 4 3 = L 3 := by unfold RP.also; rw [if_neg (by decide)]
                rw [e]; exact hC.rn.below bb
              · rw [← hL5]; unfold RP.also; rw [if_neg (by decide)]
              · rw [World.cell?_alloc_new, Nat.zero_add]; simpa using hj
            · obtain ⟨_, e11, _, _, ⟨q, y2, p1, q1, p2, q2, e14, hq, hc, hn, hs⟩, _⟩ := nd
              replace e11 : (A.tmps[11]?).getD undef = .slice a2 ns.length cv := e11
              replace e14 : (A.tmps[14]?).getD undef = .slice (some ⟨q, 0, none⟩) 1 1 := e14
              have hup := hC.up
              refine RP.gives_append (.tmp 11) (.tmp 14) 43 rfl (w3.heap.size + 1) 51 i0 _ 2 48 Try.underlying43 HI.out HZ0.out HZ1.out HZ2.out rfl (by decide) (.slice a2 ns.length cv) ns.length xs (by simpa [Act.eval] using e11) (hC.own hLi) ⟨q, 0, none⟩ 1 [.slice p1 y2.1.length q1, .slice p2 y2.2.len q2] (by simpa [Act.eval] using e14) rfl (fun j u hj => by rw [Addr.add_mid]; exact hc j u hj) (one2 _ _ rfl rfl) f3.out f4.out (by omega) ?_
              intro q6 c6 w6 hown' hgrow6 hwh
              have B6 : Below (w3.heap.size + 1) W w6 := Below.grown (Below.refl _ _) hgrow6 (by omega) (fun j hj => (HOB.out j hj).1)
              refine ⟨⟨?_, hC.nb.same (B6.block _ (Nat.lt_succ_self _)), Nat.le_trans hC.up hgrow6.size, fun hL5 => ?_, hC.row.trans fun b k => hgrow6.block b (by have := hKl b k; omega) (hKo b k)⟩, ⟨hgrow6.size, fun _ b h1 h2 => hgrow6.block b h2 (fun e => by have := HOB.out b e.symm; omega), fun h => absurd rfl h⟩, ⟨q6, c6, y2, p1, q1, p2, q2, rfl, hown', ?_, hs, ?_⟩⟩
              · have e : RP.also L 5 3 = L 3 := by unfold RP.also; rw [if_neg (by decide)]
                rw [e]; exact hC.rn.belowB B6 (by omega) (by omega)
              · rw [RP.also_self] at hL5; cases hL5
              · refine (hn.keep fun b k => hgrow6.block b k.2 (fun e => by have := HOB.out b e.symm; have := k.1; omega)).sub fun b k => ⟨k.1, Nat.lt_of_lt_of_le k.2 hgrow6.size, fun e => ?_⟩
                rcases hwh with h | h
                · have := HOB.out q6 h; have := k.1; omega
                · have := k.2; omega
              · rcases hwh with h | h
                · exact .inl h
                · exact .inr (by omega)
            · have e3 : (A.tmps[3]?).getD undef = .pointer (some ⟨w3.heap.size, 0, none⟩) := old 3 (by kernel_rfl)
              simp [RP.Oper.gives, RP.gives, go_sem, e3]
              exact ⟨hC.pure 6 (by decide) (by decide), RKE.same _ _ _ _, rfl⟩
          · intro L W hall hC E hE
            refine .cons fun v1 h1 => .cons fun v2 h2 => .cons fun v3 h3 => .cons fun v4 h4 => .cons fun v5 h5 => .cons fun v6 h6 => .cons fun v7 h7 => .nil ?_
            obtain ⟨q6, c6, y2, p1, q1, p2, q2, rfl, hown, hn, hs, hwh⟩ := h6
            subst h7
            clear h1 h2 h3 h4 h5
            have rn := hC.rn
            rw [hall 3 (by decide)] at rn
            have hW := hC.up
            have R8 := hide rn
            have M8 := hide hC.nb
            have X8 := hide (X4.out.keep (hC.row.sub fun b k => .inl k))
            have N8 := hide (N4.out.keep (hC.row.sub fun b k => .inr k))
            have HOW := hide hown
            have HN := hide hn
            have HA2 := hide (shAs_snoc hA.out hs)
            have HWh : Hid (∀ b, KR w3.heap.size w4 a2 b → b ≠ q6) := fun b k e => by
              rcases hwh with h | h
              · have := HOB.out q6 h; exact k.2.2 (by rw [e]; exact this.2.2)
              · have := k.2.1; omega
            have hlen : (ns ++ [y2]).length = ns.length + 1 := by simp
            have x1 := M8.out.c1
            have u1 := M8.out.f1
            have hm8 := M8.out.lt
            clear rn hown hn hs hwh R4 M4 O4 X4 N4 hC hA
            simp only [Act.put, List.setIfInBounds_toArray, List.set_cons_zero, List.set_cons_succ]
            refine hE _ ?_
            simp [RP.Oper.gives, RP.gives, go_sem, x1, u1]
            obtain ⟨W9, hW9⟩ : ∃ x, x = W.setCell ⟨w3.heap.size, 1, none⟩ (.slice (some ⟨q6, 0, none⟩) (ns.length + 1) c6) := ⟨_, rfl⟩
            have s9 : W9.heap.size = W.heap.size := by rw [hW9, size_set]
            have hk9 : ∀ (K : Nat → Prop), ¬ K w3.heap.size → KeptIn K W W9 := fun K hK => by rw [hW9]; exact KeptIn.setK hK
            have M9 : Hid (NB W9 w3.heap.size (.slice b1 l.length n1) (.slice (some ⟨q6, 0, none⟩) (ns ++ [y2]).length c6)) := by unfold Hid; rw [hW9, hlen]; exact M8.out.set1 _
            have R9 : Hid (RN w W9 w.heap.size g ao cap ts r3 sz (.slice none 0 0) (.slice none 0 0)) := by unfold Hid; rw [hW9]; exact R8.out.setO hm03 hmg _
            rw [← hW9]
            have O9 : Hid (W9.ownsRow (w3.heap.size + 1) 51 2 (.slice (some ⟨q6, 0, none⟩) (ns ++ [y2]).length c6) (ns ++ [y2]).length (xs ++ [.slice p1 y2.1.length q1, .slice p2 y2.2.len q2])) := by
              unfold Hid; rw [hlen]
              exact ownsq_kept HOW.out (hk9 _ (fun k => by have := k.1; omega))
            have X9 : Hid (RowN W9 (KR w3.heap.size W9 (some ⟨q6, 0, none⟩)) (ns ++ [y2]) (xs ++ [.slice p1 y2.1.length q1, .slice p2 y2.2.len q2])) := by
              refine RowN.snoc ((HN.out.keep (hk9 _ (fun k => by have := k.1; omega))).sub fun b k => ⟨by have := k.1; omega, by have := k.2.1; omega, fun e => k.2.2 (by cases e; rfl)⟩) ?_
              exact (X8.out.keep (hk9 _ (fun k => by have := k.1; omega))).sub fun b k => ⟨k.1, by have := k.2.1; omega, fun e => HWh.out b k (by cases e; rfl)⟩
            have N9 := hide (N8.out.keep (hk9 _ (fun k => by have := k.2; omega)))
            have HLr := hide hl3
            clear hW9 R8 M8 X8 N8 HOW HN HWh hk9 s9 x1 u1 hm8
            go_wp2_with fail
            exact ⟨⟨k', acc ++ [a], ns ++ [y2], _, r3, some ⟨q6, 0, none⟩, c6, hkk3, by rw [hlen]; exact hnl3, HE3, HA2, R9, M9, O9, X9, N9⟩, by rw [hrl.out, R9.out.rs.left]; exact HLr.out⟩
end Go.Proofs.Ytcmmjmgbanafgaa
