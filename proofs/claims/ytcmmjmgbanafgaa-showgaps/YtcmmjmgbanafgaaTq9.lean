/- The walk over tree.reader's item (text by make/tq9.py). -/
import Derived.Test.YtcmmjmgbanafgaaTq8b
namespace Go.Proofs.Ytcmmjmgbanafgaa
open Go.RowKit Go.Proofs.Url Go.Proofs.Url.Syn

theorem resReadItm {W : World} {m : Nat} {v1 v2 : Value} {tmps : Array Value} (h : NB W m v1 v2) (h2 : tmps[2]?.getD undef = .pointer (some ⟨m, 0, none⟩)) :
    (results Try.f53 tmps).run Try.prog W = .ok (.agg #[v1, v2]) W := by
  obtain ⟨c0, c1, _⟩ := h
  simp [results, Try.results53, go_sem, h2, c0, c1]

set_option maxHeartbeats 2000000 in
set_option maxRecDepth 100000 in
theorem item_originT (g : Nat) (ao : Option Addr) (cap : Nat) (ts r : List Tk) (n : Nat) (w : World) (h : RS w g ao cap ts r n) (ht : TokOk ts) (hl : ts.length < 4294967281) (hw : wordR r = [111, 114, 105, 103, 105, 110]) :
    Calls Try.prog 53 #[.pointer (some ⟨g, 0, none⟩)] w fun e w' => OutG ShI (itemR r) g ao cap ts n w e w' := by
  have HW : Hid (∀ W, RS W g ao cap ts r n → Calls Try.prog 72 #[.pointer (some ⟨g, 0, none⟩)] W fun e w' => e = .returned (.string ⟨([111, 114, 105, 103, 105, 110] : List UInt8).toArray⟩) ∧ Below W.heap.size W w') := fun W a => by
    have := word_any g ao cap ts r n W a; rwa [hw] at this
  have HRel := hide (RelR.imp (rel_origin (h.tok ht) hw) fun l y hs (z : Nd) (hz : z = (l, .nil)) => (by rw [hz]; exact hs : ShI z y))
  have hgw := h.lt
  have R0 := hide (RN.new h (.slice none 0 0) (.slice none 0 0) 51)
  have HL := hide hl
  clear h hw hl ht
  go_enter Try.func53, Try.ntmps53
  go_upto_region 1 with fail
  obtain ⟨W0, hW0⟩ : ∃ x, x = w.alloc (Obj.cells #[.slice none 0 0, .slice none 0 0] 51) := ⟨_, rfl⟩
  rw [← hW0] at R0 ⊢
  clear hW0
  go_wp2_with fail
  refine (HW.out _ R0.out.rs).mono ?_
  rintro e w1 ⟨rfl, b1⟩
  have R1 := hide (R0.out.below b1)
  clear b1 R0 HW
  have hml := R1.out.nb.lt
  have hsw := R1.out.bt.size
  go_wp2_with fail
  have R2 := hide (fun o => R1.out.alloc o)
  refine ((leaf_any [w_origin, w_NAME, w_TEXT, w_semi] w1.heap.size g ao cap ts r n _ (R2.out _).rs (lits_new w1 [w_origin, w_NAME, w_TEXT, w_semi] 9) (by omega) (by simp) (by decide) HL.out).mono fun _ _ o => o.rel HRel.out).mono ?_
  rintro e w3 ⟨B3, h3⟩
  have hs3 := B3.size
  cases hx : itemR r with
  | bad r' =>
    rw [hx] at h3
    obtain ⟨rfl, S3⟩ := h3
    have R3 := hide ((R2.out _).but hgw B3 S3)
    have HX := hide hx
    clear hx B3 S3 R1 R2
    go_wp2_with fail
    exact ⟨rfl, OutG.isBad HX.out R3.out.bt R3.out.rs⟩
  | ok l r' =>
    rw [hx] at h3
    obtain ⟨y, a1, c1, a2, c2, rfl, N3, hy, S3⟩ := h3
    have R3 := hide ((R2.out _).but hgw B3 S3)
    have HO := hide (fun hm => R3.out.out (Sh := ShI) (c1 := c1) (c2 := c2) hgw hx N3 hm (by simp; omega) hy)
    have x0 := R3.out.nb.c0
    have x1 := R3.out.nb.c1
    have y0 := R3.out.nb.f0
    have y1 := R3.out.nb.f1
    have hml3 := R3.out.nb.lt
    have NF := hide (R3.out.nb.put (.slice a1 y.1.length c1) (.slice a2 y.2.len c2))
    unfold putN at NF HO
    clear hx B3 S3 R1 R2 N3 hy R3
    go_wp2_with fail
    refine bodyPost_ret (v := .agg #[.slice a1 y.1.length c1, .slice a2 y.2.len c2]) ?_ rfl ?_
    · exact resReadItm NF.out rfl
    · exact HO.out (by simp; omega)

set_option maxHeartbeats 2000000 in
set_option maxRecDepth 100000 in
theorem item_cookieT (g : Nat) (ao : Option Addr) (cap : Nat) (ts r : List Tk) (n : Nat) (w : World) (h : RS w g ao cap ts r n) (ht : TokOk ts) (hl : ts.length < 4294967281) (hw : wordR r = [99, 111, 111, 107, 105, 101]) :
    Calls Try.prog 53 #[.pointer (some ⟨g, 0, none⟩)] w fun e w' => OutG ShI (itemR r) g ao cap ts n w e w' := by
  have HW : Hid (∀ W, RS W g ao cap ts r n → Calls Try.prog 72 #[.pointer (some ⟨g, 0, none⟩)] W fun e w' => e = .returned (.string ⟨([99, 111, 111, 107, 105, 101] : List UInt8).toArray⟩) ∧ Below W.heap.size W w') := fun W a => by
    have := word_any g ao cap ts r n W a; rwa [hw] at this
  have HRel := hide (RelR.imp (rel_cookie (h.tok ht) hw) fun l y hs (z : Nd) (hz : z = (l, .nil)) => (by rw [hz]; exact hs : ShI z y))
  have hgw := h.lt
  have R0 := hide (RN.new h (.slice none 0 0) (.slice none 0 0) 51)
  have HL := hide hl
  clear h hw hl ht
  go_enter Try.func53, Try.ntmps53
  go_upto_region 1 with fail
  obtain ⟨W0, hW0⟩ : ∃ x, x = w.alloc (Obj.cells #[.slice none 0 0, .slice none 0 0] 51) := ⟨_, rfl⟩
  rw [← hW0] at R0 ⊢
  clear hW0
  go_wp2_with fail
  refine (HW.out _ R0.out.rs).mono ?_
  rintro e w1 ⟨rfl, b1⟩
  have R1 := hide (R0.out.below b1)
  clear b1 R0 HW
  have hml := R1.out.nb.lt
  have hsw := R1.out.bt.size
  go_wp2_with fail
  have R2 := hide (fun o => R1.out.alloc o)
  refine ((leaf_any [w_cookie, w_NAME, w_at, w_NAME, w_TEXT, w_semi] w1.heap.size g ao cap ts r n _ (R2.out _).rs (lits_new w1 [w_cookie, w_NAME, w_at, w_NAME, w_TEXT, w_semi] 9) (by omega) (by simp) (by decide) HL.out).mono fun _ _ o => o.rel HRel.out).mono ?_
  rintro e w3 ⟨B3, h3⟩
  have hs3 := B3.size
  cases hx : itemR r with
  | bad r' =>
    rw [hx] at h3
    obtain ⟨rfl, S3⟩ := h3
    have R3 := hide ((R2.out _).but hgw B3 S3)
    have HX := hide hx
    clear hx B3 S3 R1 R2
    go_wp2_with fail
    exact ⟨rfl, OutG.isBad HX.out R3.out.bt R3.out.rs⟩
  | ok l r' =>
    rw [hx] at h3
    obtain ⟨y, a1, c1, a2, c2, rfl, N3, hy, S3⟩ := h3
    have R3 := hide ((R2.out _).but hgw B3 S3)
    have HO := hide (fun hm => R3.out.out (Sh := ShI) (c1 := c1) (c2 := c2) hgw hx N3 hm (by simp; omega) hy)
    have x0 := R3.out.nb.c0
    have x1 := R3.out.nb.c1
    have y0 := R3.out.nb.f0
    have y1 := R3.out.nb.f1
    have hml3 := R3.out.nb.lt
    have NF := hide (R3.out.nb.put (.slice a1 y.1.length c1) (.slice a2 y.2.len c2))
    unfold putN at NF HO
    clear hx B3 S3 R1 R2 N3 hy R3
    go_wp2_with fail
    refine bodyPost_ret (v := .agg #[.slice a1 y.1.length c1, .slice a2 y.2.len c2]) ?_ rfl ?_
    · exact resReadItm NF.out rfl
    · exact HO.out (by simp; omega)

set_option maxHeartbeats 2000000 in
set_option maxRecDepth 100000 in
theorem item_secretT (g : Nat) (ao : Option Addr) (cap : Nat) (ts r : List Tk) (n : Nat) (w : World) (h : RS w g ao cap ts r n) (ht : TokOk ts) (hl : ts.length < 4294967281) (hw : wordR r = [115, 101, 99, 114, 101, 116]) :
    Calls Try.prog 53 #[.pointer (some ⟨g, 0, none⟩)] w fun e w' => OutG ShI (itemR r) g ao cap ts n w e w' := by
  have HW : Hid (∀ W, RS W g ao cap ts r n → Calls Try.prog 72 #[.pointer (some ⟨g, 0, none⟩)] W fun e w' => e = .returned (.string ⟨([115, 101, 99, 114, 101, 116] : List UInt8).toArray⟩) ∧ Below W.heap.size W w') := fun W a => by
    have := word_any g ao cap ts r n W a; rwa [hw] at this
  have HRel := hide (RelR.imp (rel_secret (h.tok ht) hw) fun l y hs (z : Nd) (hz : z = (l, .nil)) => (by rw [hz]; exact hs : ShI z y))
  have hgw := h.lt
  have R0 := hide (RN.new h (.slice none 0 0) (.slice none 0 0) 51)
  have HL := hide hl
  clear h hw hl ht
  go_enter Try.func53, Try.ntmps53
  go_upto_region 1 with fail
  obtain ⟨W0, hW0⟩ : ∃ x, x = w.alloc (Obj.cells #[.slice none 0 0, .slice none 0 0] 51) := ⟨_, rfl⟩
  rw [← hW0] at R0 ⊢
  clear hW0
  go_wp2_with fail
  refine (HW.out _ R0.out.rs).mono ?_
  rintro e w1 ⟨rfl, b1⟩
  have R1 := hide (R0.out.below b1)
  clear b1 R0 HW
  have hml := R1.out.nb.lt
  have hsw := R1.out.bt.size
  go_wp2_with fail
  have R2 := hide (fun o => R1.out.alloc o)
  refine ((leaf_any [w_secret, w_NAME, w_semi] w1.heap.size g ao cap ts r n _ (R2.out _).rs (lits_new w1 [w_secret, w_NAME, w_semi] 9) (by omega) (by simp) (by decide) HL.out).mono fun _ _ o => o.rel HRel.out).mono ?_
  rintro e w3 ⟨B3, h3⟩
  have hs3 := B3.size
  cases hx : itemR r with
  | bad r' =>
    rw [hx] at h3
    obtain ⟨rfl, S3⟩ := h3
    have R3 := hide ((R2.out _).but hgw B3 S3)
    have HX := hide hx
    clear hx B3 S3 R1 R2
    go_wp2_with fail
    exact ⟨rfl, OutG.isBad HX.out R3.out.bt R3.out.rs⟩
  | ok l r' =>
    rw [hx] at h3
    obtain ⟨y, a1, c1, a2, c2, rfl, N3, hy, S3⟩ := h3
    have R3 := hide ((R2.out _).but hgw B3 S3)
    have HO := hide (fun hm => R3.out.out (Sh := ShI) (c1 := c1) (c2 := c2) hgw hx N3 hm (by simp; omega) hy)
    have x0 := R3.out.nb.c0
    have x1 := R3.out.nb.c1
    have y0 := R3.out.nb.f0
    have y1 := R3.out.nb.f1
    have hml3 := R3.out.nb.lt
    have NF := hide (R3.out.nb.put (.slice a1 y.1.length c1) (.slice a2 y.2.len c2))
    unfold putN at NF HO
    clear hx B3 S3 R1 R2 N3 hy R3
    go_wp2_with fail
    refine bodyPost_ret (v := .agg #[.slice a1 y.1.length c1, .slice a2 y.2.len c2]) ?_ rfl ?_
    · exact resReadItm NF.out rfl
    · exact HO.out (by simp; omega)

set_option maxHeartbeats 2000000 in
set_option maxRecDepth 100000 in
theorem item_networkT (g : Nat) (ao : Option Addr) (cap : Nat) (ts r : List Tk) (n : Nat) (w : World) (h : RS w g ao cap ts r n) (ht : TokOk ts) (hl : ts.length < 4294967281) (hw : wordR r = [110, 101, 116, 119, 111, 114, 107]) :
    Calls Try.prog 53 #[.pointer (some ⟨g, 0, none⟩)] w fun e w' => OutG ShI (itemR r) g ao cap ts n w e w' := by
  have HW : Hid (∀ W, RS W g ao cap ts r n → Calls Try.prog 72 #[.pointer (some ⟨g, 0, none⟩)] W fun e w' => e = .returned (.string ⟨([110, 101, 116, 119, 111, 114, 107] : List UInt8).toArray⟩) ∧ Below W.heap.size W w') := fun W a => by
    have := word_any g ao cap ts r n W a; rwa [hw] at this
  have HRel := hide (RelR.imp (rel_network (h.tok ht) hw) fun l y hs (z : Nd) (hz : z = (l, .nil)) => (by rw [hz]; exact hs : ShI z y))
  have hgw := h.lt
  have R0 := hide (RN.new h (.slice none 0 0) (.slice none 0 0) 51)
  have HL := hide hl
  clear h hw hl ht
  go_enter Try.func53, Try.ntmps53
  go_upto_region 1 with fail
  obtain ⟨W0, hW0⟩ : ∃ x, x = w.alloc (Obj.cells #[.slice none 0 0, .slice none 0 0] 51) := ⟨_, rfl⟩
  rw [← hW0] at R0 ⊢
  clear hW0
  go_wp2_with fail
  refine (HW.out _ R0.out.rs).mono ?_
  rintro e w1 ⟨rfl, b1⟩
  have R1 := hide (R0.out.below b1)
  clear b1 R0 HW
  have hml := R1.out.nb.lt
  have hsw := R1.out.bt.size
  go_wp2_with fail
  have R2 := hide (fun o => R1.out.alloc o)
  refine ((leaf_any [w_network, w_semi] w1.heap.size g ao cap ts r n _ (R2.out _).rs (lits_new w1 [w_network, w_semi] 9) (by omega) (by simp) (by decide) HL.out).mono fun _ _ o => o.rel HRel.out).mono ?_
  rintro e w3 ⟨B3, h3⟩
  have hs3 := B3.size
  cases hx : itemR r with
  | bad r' =>
    rw [hx] at h3
    obtain ⟨rfl, S3⟩ := h3
    have R3 := hide ((R2.out _).but hgw B3 S3)
    have HX := hide hx
    clear hx B3 S3 R1 R2
    go_wp2_with fail
    exact ⟨rfl, OutG.isBad HX.out R3.out.bt R3.out.rs⟩
  | ok l r' =>
    rw [hx] at h3
    obtain ⟨y, a1, c1, a2, c2, rfl, N3, hy, S3⟩ := h3
    have R3 := hide ((R2.out _).but hgw B3 S3)
    have HO := hide (fun hm => R3.out.out (Sh := ShI) (c1 := c1) (c2 := c2) hgw hx N3 hm (by simp; omega) hy)
    have x0 := R3.out.nb.c0
    have x1 := R3.out.nb.c1
    have y0 := R3.out.nb.f0
    have y1 := R3.out.nb.f1
    have hml3 := R3.out.nb.lt
    have NF := hide (R3.out.nb.put (.slice a1 y.1.length c1) (.slice a2 y.2.len c2))
    unfold putN at NF HO
    clear hx B3 S3 R1 R2 N3 hy R3
    go_wp2_with fail
    refine bodyPost_ret (v := .agg #[.slice a1 y.1.length c1, .slice a2 y.2.len c2]) ?_ rfl ?_
    · exact resReadItm NF.out rfl
    · exact HO.out (by simp; omega)

set_option maxHeartbeats 2000000 in
set_option maxRecDepth 100000 in
theorem item_endpointT (g : Nat) (ao : Option Addr) (cap : Nat) (ts r : List Tk) (n : Nat) (w : World) (h : RS w g ao cap ts r n) (ht : TokOk ts) (hl : ts.length < 4294967281) (hw : wordR r = [101, 110, 100, 112, 111, 105, 110, 116]) :
    Calls Try.prog 53 #[.pointer (some ⟨g, 0, none⟩)] w fun e w' => OutG ShI (itemR r) g ao cap ts n w e w' := by
  have HW : Hid (∀ W, RS W g ao cap ts r n → Calls Try.prog 72 #[.pointer (some ⟨g, 0, none⟩)] W fun e w' => e = .returned (.string ⟨([101, 110, 100, 112, 111, 105, 110, 116] : List UInt8).toArray⟩) ∧ Below W.heap.size W w') := fun W a => by
    have := word_any g ao cap ts r n W a; rwa [hw] at this
  have HRel := hide (fun W (a : RS W g ao cap ts r n) => endpoint_any g ao cap ts r n W a ht hl hw)
  have hgw := h.lt
  have R0 := hide (RN.new h (.slice none 0 0) (.slice none 0 0) 51)
  have HL := hide hl
  clear h hw hl ht
  go_enter Try.func53, Try.ntmps53
  go_upto_region 1 with fail
  obtain ⟨W0, hW0⟩ : ∃ x, x = w.alloc (Obj.cells #[.slice none 0 0, .slice none 0 0] 51) := ⟨_, rfl⟩
  rw [← hW0] at R0 ⊢
  clear hW0
  go_wp2_with fail
  refine (HW.out _ R0.out.rs).mono ?_
  rintro e w1 ⟨rfl, b1⟩
  have R1 := hide (R0.out.below b1)
  clear b1 R0 HW
  have hml := R1.out.nb.lt
  have hsw := R1.out.bt.size
  go_wp2_with fail
  refine (HRel.out _ R1.out.rs).mono ?_
  rintro e w3 ⟨B3, h3⟩
  have hs3 := B3.size
  cases hx : itemR r with
  | bad r' =>
    rw [hx] at h3
    obtain ⟨rfl, S3⟩ := h3
    have R3 := hide (R1.out.but hgw B3 S3)
    have HX := hide hx
    clear hx B3 S3 R1 HRel
    go_wp2_with fail
    exact ⟨rfl, OutG.isBad HX.out R3.out.bt R3.out.rs⟩
  | ok l r' =>
    rw [hx] at h3
    obtain ⟨y, a1, c1, a2, c2, rfl, N3, hy, S3⟩ := h3
    have R3 := hide (R1.out.but hgw B3 S3)
    have HO := hide (fun hm => R3.out.out (Sh := ShI) (c1 := c1) (c2 := c2) hgw hx N3 hm (by omega) hy)
    have x0 := R3.out.nb.c0
    have x1 := R3.out.nb.c1
    have y0 := R3.out.nb.f0
    have y1 := R3.out.nb.f1
    have hml3 := R3.out.nb.lt
    have NF := hide (R3.out.nb.put (.slice a1 y.1.length c1) (.slice a2 y.2.len c2))
    unfold putN at NF HO
    clear hx B3 S3 R1 HRel N3 hy R3
    go_wp2_with fail
    refine bodyPost_ret (v := .agg #[.slice a1 y.1.length c1, .slice a2 y.2.len c2]) ?_ rfl ?_
    · exact resReadItm NF.out rfl
    · exact HO.out (by omega)

set_option maxHeartbeats 2000000 in
set_option maxRecDepth 100000 in
theorem item_propertyT (g : Nat) (ao : Option Addr) (cap : Nat) (ts r : List Tk) (n : Nat) (w : World) (h : RS w g ao cap ts r n) (ht : TokOk ts) (hl : ts.length < 4294967281) (hw : wordR r = [112, 114, 111, 112, 101, 114, 116, 121]) :
    Calls Try.prog 53 #[.pointer (some ⟨g, 0, none⟩)] w fun e w' => OutG ShI (itemR r) g ao cap ts n w e w' := by
  have HW : Hid (∀ W, RS W g ao cap ts r n → Calls Try.prog 72 #[.pointer (some ⟨g, 0, none⟩)] W fun e w' => e = .returned (.string ⟨([112, 114, 111, 112, 101, 114, 116, 121] : List UInt8).toArray⟩) ∧ Below W.heap.size W w') := fun W a => by
    have := word_any g ao cap ts r n W a; rwa [hw] at this
  have HRel := hide (fun W (a : RS W g ao cap ts r n) => property_any g ao cap ts r n W a ht hl hw)
  have hgw := h.lt
  have R0 := hide (RN.new h (.slice none 0 0) (.slice none 0 0) 51)
  have HL := hide hl
  clear h hw hl ht
  go_enter Try.func53, Try.ntmps53
  go_upto_region 1 with fail
  obtain ⟨W0, hW0⟩ : ∃ x, x = w.alloc (Obj.cells #[.slice none 0 0, .slice none 0 0] 51) := ⟨_, rfl⟩
  rw [← hW0] at R0 ⊢
  clear hW0
  go_wp2_with fail
  refine (HW.out _ R0.out.rs).mono ?_
  rintro e w1 ⟨rfl, b1⟩
  have R1 := hide (R0.out.below b1)
  clear b1 R0 HW
  have hml := R1.out.nb.lt
  have hsw := R1.out.bt.size
  go_wp2_with fail
  refine (HRel.out _ R1.out.rs).mono ?_
  rintro e w3 ⟨B3, h3⟩
  have hs3 := B3.size
  cases hx : itemR r with
  | bad r' =>
    rw [hx] at h3
    obtain ⟨rfl, S3⟩ := h3
    have R3 := hide (R1.out.but hgw B3 S3)
    have HX := hide hx
    clear hx B3 S3 R1 HRel
    go_wp2_with fail
    exact ⟨rfl, OutG.isBad HX.out R3.out.bt R3.out.rs⟩
  | ok l r' =>
    rw [hx] at h3
    obtain ⟨y, a1, c1, a2, c2, rfl, N3, hy, S3⟩ := h3
    have R3 := hide (R1.out.but hgw B3 S3)
    have HO := hide (fun hm => R3.out.out (Sh := ShI) (c1 := c1) (c2 := c2) hgw hx N3 hm (by omega) hy)
    have x0 := R3.out.nb.c0
    have x1 := R3.out.nb.c1
    have y0 := R3.out.nb.f0
    have y1 := R3.out.nb.f1
    have hml3 := R3.out.nb.lt
    have NF := hide (R3.out.nb.put (.slice a1 y.1.length c1) (.slice a2 y.2.len c2))
    unfold putN at NF HO
    clear hx B3 S3 R1 HRel N3 hy R3
    go_wp2_with fail
    refine bodyPost_ret (v := .agg #[.slice a1 y.1.length c1, .slice a2 y.2.len c2]) ?_ rfl ?_
    · exact resReadItm NF.out rfl
    · exact HO.out (by omega)

set_option maxHeartbeats 2000000 in
set_option maxRecDepth 100000 in
theorem item_otherT (g : Nat) (ao : Option Addr) (cap : Nat) (ts r : List Tk) (n : Nat) (w : World) (h : RS w g ao cap ts r n) (hn : ∀ x ∈ [w_origin, w_cookie, w_secret, w_network, w_endpoint, w_property], (wordR r == x) = false) :
    Calls Try.prog 53 #[.pointer (some ⟨g, 0, none⟩)] w fun e w' => OutG ShI (.bad r) g ao cap ts n w e w' := by
  have HW := hide (fun W (a : RS W g ao cap ts r n) => word_any g ao cap ts r n W a)
  generalize wordR r = wd at *
  have e0 : (wd == [111, 114, 105, 103, 105, 110]) = false := hn _ (by decide)
  have e1 : (wd == [99, 111, 111, 107, 105, 101]) = false := hn _ (by decide)
  have e2 : (wd == [115, 101, 99, 114, 101, 116]) = false := hn _ (by decide)
  have e3 : (wd == [110, 101, 116, 119, 111, 114, 107]) = false := hn _ (by decide)
  have e4 : (wd == [101, 110, 100, 112, 111, 105, 110, 116]) = false := hn _ (by decide)
  have e5 : (wd == [112, 114, 111, 112, 101, 114, 116, 121]) = false := hn _ (by decide)
  have R0 := hide (RN.new h (.slice none 0 0) (.slice none 0 0) 51)
  clear h hn
  go_enter Try.func53, Try.ntmps53
  go_upto_region 1 with fail
  obtain ⟨W0, hW0⟩ : ∃ x, x = w.alloc (Obj.cells #[.slice none 0 0, .slice none 0 0] 51) := ⟨_, rfl⟩
  rw [← hW0] at R0 ⊢
  clear hW0
  go_wp2_with fail
  refine (HW.out _ R0.out.rs).mono ?_
  rintro e w1 ⟨rfl, b1⟩
  have R1 := hide (R0.out.below b1)
  clear b1 R0 HW
  go_wp2_with fail
  exact ⟨rfl, OutG.isBad rfl R1.out.bt R1.out.rs⟩
theorem item_any (g : Nat) (ao : Option Addr) (cap : Nat) (ts r : List Tk) (n : Nat) (w : World) (h : RS w g ao cap ts r n) (ht : TokOk ts) (hl : ts.length < 4294967281) :
    Calls Try.prog 53 #[.pointer (some ⟨g, 0, none⟩)] w fun e w' => OutG ShI (itemR r) g ao cap ts n w e w' := by
  by_cases q_origin : wordR r = [111, 114, 105, 103, 105, 110]
  · exact item_originT g ao cap ts r n w h ht hl q_origin
  by_cases q_cookie : wordR r = [99, 111, 111, 107, 105, 101]
  · exact item_cookieT g ao cap ts r n w h ht hl q_cookie
  by_cases q_secret : wordR r = [115, 101, 99, 114, 101, 116]
  · exact item_secretT g ao cap ts r n w h ht hl q_secret
  by_cases q_network : wordR r = [110, 101, 116, 119, 111, 114, 107]
  · exact item_networkT g ao cap ts r n w h ht hl q_network
  by_cases q_endpoint : wordR r = [101, 110, 100, 112, 111, 105, 110, 116]
  · exact item_endpointT g ao cap ts r n w h ht hl q_endpoint
  by_cases q_property : wordR r = [112, 114, 111, 112, 101, 114, 116, 121]
  · exact item_propertyT g ao cap ts r n w h ht hl q_property
  have hn : ∀ x ∈ [w_origin, w_cookie, w_secret, w_network, w_endpoint, w_property], (wordR r == x) = false := by
    intro x hx
    refine beq_eq_false_iff_ne.2 fun e => ?_
    simp at hx
    rcases hx with rfl | rfl | rfl | rfl | rfl | rfl
    all_goals contradiction
  have := item_otherT g ao cap ts r n w h hn
  rwa [← item_noneq (h.tok ht) (not_contains hn)] at this
end Go.Proofs.Ytcmmjmgbanafgaa
