/- The walk over tree.reader's property. -/
import Derived.Test.YtcmmjmgbanafgaaTq6b
namespace Go.Proofs.Ytcmmjmgbanafgaa
open Go.RowKit Go.Proofs.Url Go.Proofs.Url.Syn

theorem resReadProp {W : World} {m : Nat} {v1 v2 : Value} {tmps : Array Value} (h : NB W m v1 v2) (h2 : tmps[2]?.getD undef = .pointer (some ⟨m, 0, none⟩)) :
    (results Try.f75 tmps).run Try.prog W = .ok (.agg #[v1, v2]) W := by
  obtain ⟨c0, c1, _⟩ := h
  simp [results, Try.results75, go_sem, h2, c0, c1]
set_option maxHeartbeats 2000000 in
set_option maxRecDepth 100000 in
theorem property_any (g : Nat) (ao : Option Addr) (cap : Nat) (ts r : List Tk) (sz : Nat) (w : World) (h : RS w g ao cap ts r sz) (ht : TokOk ts) (hl : ts.length < 4294967281) (hw : wordR r = w_property) :
    Calls Try.prog 75 #[.pointer (some ⟨g, 0, none⟩)] w fun e w' => OutG ShI (itemR r) g ao cap ts sz w e w' := by
  have HH := hide (prop_head (h.tok ht) hw)
  have HIF := hide (fun r W (a : RS W g ao cap ts r sz) => formula_any g ao cap ts r sz W a ht hl)
  have hgw := h.lt
  have R0 := hide (RN.new h (.slice none 0 0) (.slice none 0 0) 51)
  have HL := hide hl
  have HT := hide ht
  clear h hw hl ht
  go_enter Try.func75, Try.ntmps75
  go_upto_region 1 with fail
  obtain ⟨W0, hW0⟩ : ∃ x, x = w.alloc (Obj.cells #[.slice none 0 0, .slice none 0 0] 51) := ⟨_, rfl⟩
  rw [← hW0] at R0 ⊢
  clear hW0
  have hml := R0.out.nb.lt
  have hsw := R0.out.bt.size
  go_wp2_with fail
  have R2 := hide (fun o => R0.out.alloc o)
  refine (leaf_any [w_property, w_NAME, w_eq] W0.heap.size g ao cap ts r sz _ (R2.out _).rs (lits_new W0 [w_property, w_NAME, w_eq] 9) (by omega) (by simp) (by decide) HL.out).mono ?_
  rintro e w3 ⟨B3, h3⟩
  have hs3 : W0.heap.size + 1 ≤ w3.heap.size := by simpa using B3.size
  cases hq : takesR [w_property, w_NAME, w_eq] r with
  | bad r' =>
    rw [hq] at h3
    obtain ⟨rfl, S3⟩ := h3
    have R3 := hide ((R2.out _).but hgw B3 S3)
    have HX := hide (HH.out.1 _ hq)
    clear B3 S3 R0 R2 hq HH
    go_wp2_with fail
    exact ⟨rfl, OutG.isBad HX.out R3.out.bt R3.out.rs⟩
  | ok l r1 =>
    rw [hq] at h3
    obtain ⟨yt, b1, n1, b2, d2, he, N3, hyt, S3⟩ := h3
    subst hyt
    obtain ⟨Y, hYa, hYs, hYe⟩ := HH.out.2 _ _ hq
    have HYs := hide hYs
    have HYe := hide hYe
    replace he : e = .returned (.agg #[.slice b1 l.length n1, .slice b2 0 d2]) := he
    subst he
    have R3 := hide ((R2.out _).but hgw B3 S3)
    have N3 : Hid (NA w3 (In (W0.heap.size + 1) w3.heap.size) b1 b2 (l, .nil)) := by unfold Hid; simpa using N3
    clear B3 S3 R0 R2 hq HH hYa hYs hYe
    go_upto_region 2 with fail
    obtain ⟨W4, hW4⟩ : ∃ x, x = w3.alloc (Obj.cells #[.slice b1 l.length n1, .slice b2 0 d2] 51) := ⟨_, rfl⟩
    have b4 : Below w3.heap.size w3 W4 := by rw [hW4]; exact (Below.refl _ _).alloc (Nat.le_refl _) _
    have M4 : Hid (NB W4 w3.heap.size (.slice b1 l.length n1) (.slice b2 0 d2)) := by unfold Hid; rw [hW4]; exact NB.new _ _ _ _
    have R4 := hide (R3.out.below b4)
    have N4 : Hid (NA W4 (In (W0.heap.size + 1) w3.heap.size) b1 b2 (l, .nil)) := N3.out.keep (KeptIn.below b4 (Nat.le_refl _) _)
    rw [← hW4]
    clear hW4 b4 R3 N3
    have hm4 := M4.out.lt
    have hmg : g < w3.heap.size := by omega
    go_wp2_with fail
    refine (HIF.out r1 _ R4.out.rs).mono ?_
    rintro e w5 ⟨B5, h5⟩
    have hs5 := B5.size
    cases hx : forS r1 with
    | bad r' =>
      rw [hx] at h5
      obtain ⟨rfl, S5⟩ := h5
      have R5 := hide (R4.out.but hgw B5 S5)
      have HX : Hid (itemR r = .bad r') := by unfold Hid; rw [HYe.out, hx]; rfl
      clear hx B5 S5 R4 HYe HYs N4 M4
      go_wp2_with fail
      exact ⟨rfl, OutG.isBad HX.out R5.out.bt R5.out.rs⟩
    | ok f r2 =>
      rw [hx] at h5
      obtain ⟨y, a1, c1, a2, c2, rfl, N5, hy, S5⟩ := h5
      have HX : Hid (itemR r = (needR w_semi r2).then fun _ r'' => .ok { Y with f := some f } r'') := by unfold Hid; rw [HYe.out, hx]; rfl
      have bb : Below w5.heap.size w5 (w5.alloc (Obj.cells #[.slice a1 y.1.length c1, .slice a2 y.2.len c2] 51)) := (Below.refl _ _).alloc (Nat.le_refl _) _
      obtain ⟨W6, hW6⟩ : ∃ x, x = w5.alloc (Obj.cells #[.slice a1 y.1.length c1, .slice a2 y.2.len c2] 51) := ⟨_, rfl⟩
      rw [← hW6] at bb
      have R6 := hide ((R4.out.but hgw B5 S5).below bb)
      have M6 := hide ((M4.out.but B5 (by omega)).below bb)
      have N6 : Hid (NA W6 (In (W0.heap.size + 1) w3.heap.size) b1 b2 (l, .nil)) := (N4.out.keep (KeptIn.but B5 (by omega) (by omega))).keep (KeptIn.below bb (by omega) _)
      have N6y : Hid (NA W6 (In W4.heap.size w5.heap.size) a1 a2 y) := N5.keep (KeptIn.below bb (Nat.le_refl _) _)
      have Q6 : Hid (NB W6 w5.heap.size (.slice a1 y.1.length c1) (.slice a2 y.2.len c2)) := by unfold Hid; rw [hW6]; exact NB.new _ _ _ _
      have HY := hide hy
      have HW6 := hide hW6
      have x1 := M6.out.c1
      have u1 := M6.out.f1
      have x0 := M6.out.c0
      have hm6 := M6.out.lt
      rw [hW6] at x1 u1 x0
      clear hx B5 S5 R4 HYe N4 M4 N5 hy bb hW6
      go_upto_region 3 with fail
      rw [← HW6.out]
      obtain ⟨W7, hW7⟩ : ∃ x, x = W6.setCell ⟨w3.heap.size, 1, none⟩ (.slice (some ⟨w5.heap.size, 0, none⟩) 1 1) := ⟨_, rfl⟩
      have s7 : W7.heap.size = W6.heap.size := by rw [hW7, size_set]
      have hk7 : ∀ (K : Nat → Prop), ¬ K w3.heap.size → KeptIn K W6 W7 := fun K hK => by rw [hW7]; exact KeptIn.setK hK
      have M7 : Hid (NB W7 w3.heap.size (.slice b1 l.length n1) (.slice (some ⟨w5.heap.size, 0, none⟩) 1 1)) := by unfold Hid; rw [hW7]; exact M6.out.set1 _
      have R7 : Hid (RN w W7 w.heap.size g ao cap ts r2 sz (.slice none 0 0) (.slice none 0 0)) := by unfold Hid; rw [hW7]; exact R6.out.setO (by omega) hmg _
      rw [← hW7]
      have hq5 := Q6.out.lt
      have N7 : Hid (NA W7 (KC w.heap.size w3.heap.size W7) b1 (some ⟨w5.heap.size, 0, none⟩) (l, .cons y.1 y.2 .nil)) := by
        have hq7 : KeptIn (fun b => b = w5.heap.size) W6 W7 := hk7 _ (by show ¬ w3.heap.size = w5.heap.size; omega)
        refine ⟨((N6.out.keep (hk7 _ (fun k => by have := k.2; omega))).t).sub (fun b k => ⟨by have := k.1; omega, by have := k.2; omega, by have := k.2; omega⟩), .inr ⟨w5.heap.size, rfl, ⟨by omega, by omega, by omega⟩, ?_⟩⟩
        exact FC.one (c1 := c1) (c2 := c2) (x := y) ((N6y.out.keep (hk7 _ (fun k => by have := k.1; omega))).sub (fun b k => ⟨by have := k.1; omega, by have := k.1; omega, by have := k.2; omega⟩)) (hq7.cell rfl Q6.out.c0) (hq7.cell rfl Q6.out.c1)
      have HY7 : Hid (ShI (l, .cons y.1 y.2 .nil) { Y with f := some f }) := HYs.out y f HY.out
      have hs7 : w3.heap.size < W7.heap.size ∧ W4.heap.size ≤ W7.heap.size := by omega
      clear hW7 R6 M6 N6 N6y Q6 HY HYs HW6 x0 x1 u1 hk7 s7
      have hm7 := M7.out.lt
      have hz7 := R7.out.nb.lt
      go_wp2_with fail
      have R8 := hide (fun o => R7.out.alloc o)
      refine (take_any [w_semi] W7.heap.size g ao cap ts r2 sz _ (R8.out _).rs (lits_new W7 [w_semi] 9) (by omega) (by simp) (by decide) HL.out).mono ?_
      rintro e w8 ⟨B8, h8⟩
      have hs8 : W7.heap.size + 1 ≤ w8.heap.size := by simpa using B8.size
      have htk := take_sign (w := w_semi) (by decide) (by decide) (R7.out.rs.tok HT.out)
      rw [htk] at h8
      cases hx : needR w_semi r2 with
      | bad r'' =>
        rw [hx] at h8
        obtain ⟨rfl, S8⟩ := h8
        have RF := hide ((R8.out _).but hgw B8 S8)
        have HX3 : Hid (itemR r = .bad r'') := by unfold Hid; rw [HX.out, hx]; rfl
        clear hx B8 S8 R7 R8 HX htk N7 M7 HY7
        go_wp2_with fail
        exact ⟨rfl, OutG.isBad HX3.out RF.out.bt RF.out.rs⟩
      | ok u r'' =>
        rw [hx] at h8
        obtain ⟨j1, j2, rfl, T8, S8⟩ := h8
        have RF := hide ((R8.out _).but hgw B8 S8)
        have HX3 : Hid (itemR r = .ok { Y with f := some f } r'') := by unfold Hid; rw [HX.out, hx]; rfl
        have ba : Below W7.heap.size W7 (W7.alloc (Obj.cells #[.string ⟨w_semi.toArray⟩] 9)) := (Below.refl _ _).alloc (Nat.le_refl _) _
        have M8 := hide ((M7.out.below ba).but B8 (by omega))
        have N8 : Hid (NA w8 (KC w.heap.size w3.heap.size w8) b1 (some ⟨w5.heap.size, 0, none⟩) (l, .cons y.1 y.2 .nil)) := (N7.out.belowC ba).butC hgw B8
        clear hx B8 S8 R7 R8 HX htk N7 M7 T8 ba
        have x0 := M8.out.c0
        have x1 := M8.out.c1
        have hm8 := M8.out.lt
        have z0 := RF.out.nb.c0
        have z1 := RF.out.nb.c1
        have u0 := RF.out.nb.f0
        have u1 := RF.out.nb.f1
        have hml8 := RF.out.nb.lt
        have NF := hide (RF.out.nb.put (.slice b1 l.length n1) (.slice (some ⟨w5.heap.size, 0, none⟩) 1 1))
        have HO := hide (RF.out.outK (Sh := ShI) (c1 := n1) (c2 := 1) hgw HX3.out N8.out (fun b k => ⟨by have := k.1; omega, k.2.2, by have := k.1; omega⟩) HY7.out)
        unfold putN at NF HO
        clear RF N8 M8 HX3 HY7
        go_wp2_with fail
        refine bodyPost_ret (v := .agg #[.slice b1 l.length n1, .slice (some ⟨w5.heap.size, 0, none⟩) 1 1]) ?_ rfl ?_
        · exact resReadProp NF.out rfl
        · exact HO.out
end Go.Proofs.Ytcmmjmgbanafgaa
