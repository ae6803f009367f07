/- The walks over tree.reader's factor; formulas whole (text by make/tq6.py). -/
import Derived.Test.YtcmmjmgbanafgaaTq6
namespace Go.Proofs.Ytcmmjmgbanafgaa
open Go.RowKit Go.Proofs.Url Go.Proofs.Url.Syn

set_option maxHeartbeats 2000000 in
set_option maxRecDepth 100000 in
theorem fac_changed (g : Nat) (ao : Option Addr) (cap : Nat) (ts r : List Tk) (sz : Nat) (w : World) (h : RS w g ao cap ts r sz) (hl : ts.length < 4294967281) (hw : wordR r = [99, 104, 97, 110, 103, 101, 100]) :
    Calls Try.prog 94 #[.pointer (some ⟨g, 0, none⟩)] w fun e w' => OutG (fun y l => y = (l, .nil)) (takesR [[99, 104, 97, 110, 103, 101, 100], w_NAME] r) g ao cap ts sz w e w' := by
  have HW : Hid (∀ W, RS W g ao cap ts r sz → Calls Try.prog 72 #[.pointer (some ⟨g, 0, none⟩)] W fun e w' => e = .returned (.string ⟨([99, 104, 97, 110, 103, 101, 100] : List UInt8).toArray⟩) ∧ Below W.heap.size W w') := fun W a => by
    have := word_any g ao cap ts r sz W a; rwa [hw] at this
  have hgw := h.lt
  have R0 := hide (RN.new h (.slice none 0 0) (.slice none 0 0) 51)
  have HL := hide hl
  clear h hw hl
  go_enter Try.func94, Try.ntmps94
  go_upto_region 1 with fail
  obtain ⟨W0, hW0⟩ : ∃ x, x = w.alloc (Obj.cells #[.slice none 0 0, .slice none 0 0] 51) := ⟨_, rfl⟩
  rw [← hW0] at R0 ⊢
  clear hW0
  go_wp2_with fail
  refine (HW.out _ R0.out.rs).mono ?_
  rintro e w1 ⟨rfl, b1⟩
  have R1 := hide (R0.out.below b1)
  clear b1 R0 HW
  have hml := R1.out.nb.lt
  have hsw := R1.out.bt.size
  go_wp2_with fail
  have R2 := hide (fun o => R1.out.alloc o)
  refine (leaf_any [[99, 104, 97, 110, 103, 101, 100], w_NAME] w1.heap.size g ao cap ts r sz _ (R2.out _).rs (lits_new w1 [[99, 104, 97, 110, 103, 101, 100], w_NAME] 9) (by omega) (by simp) (by decide) HL.out).mono ?_
  rintro e w3 ⟨B3, h3⟩
  have hs3 := B3.size
  cases hx : takesR [[99, 104, 97, 110, 103, 101, 100], w_NAME] r with
  | bad r' =>
    rw [hx] at h3
    obtain ⟨rfl, S3⟩ := h3
    have R3 := hide ((R2.out _).but hgw B3 S3)
    have HX := hide hx
    clear hx B3 S3 R1 R2
    go_wp2_with fail
    exact ⟨rfl, OutG.isBad HX.out R3.out.bt R3.out.rs⟩
  | ok l r' =>
    rw [hx] at h3
    obtain ⟨y, a1, c1, a2, c2, rfl, N3, hy, S3⟩ := h3
    have R3 := hide ((R2.out _).but hgw B3 S3)
    have HO := hide (fun hm => R3.out.out (Sh := fun y l => y = (l, .nil)) (c1 := c1) (c2 := c2) hgw hx N3 hm (by simp; omega) hy)
    have x0 := R3.out.nb.c0
    have x1 := R3.out.nb.c1
    have y0 := R3.out.nb.f0
    have y1 := R3.out.nb.f1
    have hml3 := R3.out.nb.lt
    have NF := hide (R3.out.nb.put (.slice a1 y.1.length c1) (.slice a2 y.2.len c2))
    unfold putN at NF HO
    clear hx B3 S3 R1 R2 N3 hy R3
    go_wp2_with fail
    refine bodyPost_ret (v := .agg #[.slice a1 y.1.length c1, .slice a2 y.2.len c2]) ?_ rfl ?_
    · exact resReadFac NF.out rfl
    · exact HO.out (by simp; omega)

set_option maxHeartbeats 2000000 in
set_option maxRecDepth 100000 in
theorem fac_forged (g : Nat) (ao : Option Addr) (cap : Nat) (ts r : List Tk) (sz : Nat) (w : World) (h : RS w g ao cap ts r sz) (hl : ts.length < 4294967281) (hw : wordR r = [102, 111, 114, 103, 101, 100]) :
    Calls Try.prog 94 #[.pointer (some ⟨g, 0, none⟩)] w fun e w' => OutG (fun y l => y = (l, .nil)) (takesR [[102, 111, 114, 103, 101, 100], w_NAME] r) g ao cap ts sz w e w' := by
  have HW : Hid (∀ W, RS W g ao cap ts r sz → Calls Try.prog 72 #[.pointer (some ⟨g, 0, none⟩)] W fun e w' => e = .returned (.string ⟨([102, 111, 114, 103, 101, 100] : List UInt8).toArray⟩) ∧ Below W.heap.size W w') := fun W a => by
    have := word_any g ao cap ts r sz W a; rwa [hw] at this
  have hgw := h.lt
  have R0 := hide (RN.new h (.slice none 0 0) (.slice none 0 0) 51)
  have HL := hide hl
  clear h hw hl
  go_enter Try.func94, Try.ntmps94
  go_upto_region 1 with fail
  obtain ⟨W0, hW0⟩ : ∃ x, x = w.alloc (Obj.cells #[.slice none 0 0, .slice none 0 0] 51) := ⟨_, rfl⟩
  rw [← hW0] at R0 ⊢
  clear hW0
  go_wp2_with fail
  refine (HW.out _ R0.out.rs).mono ?_
  rintro e w1 ⟨rfl, b1⟩
  have R1 := hide (R0.out.below b1)
  clear b1 R0 HW
  have hml := R1.out.nb.lt
  have hsw := R1.out.bt.size
  go_wp2_with fail
  have R2 := hide (fun o => R1.out.alloc o)
  refine (leaf_any [[102, 111, 114, 103, 101, 100], w_NAME] w1.heap.size g ao cap ts r sz _ (R2.out _).rs (lits_new w1 [[102, 111, 114, 103, 101, 100], w_NAME] 9) (by omega) (by simp) (by decide) HL.out).mono ?_
  rintro e w3 ⟨B3, h3⟩
  have hs3 := B3.size
  cases hx : takesR [[102, 111, 114, 103, 101, 100], w_NAME] r with
  | bad r' =>
    rw [hx] at h3
    obtain ⟨rfl, S3⟩ := h3
    have R3 := hide ((R2.out _).but hgw B3 S3)
    have HX := hide hx
    clear hx B3 S3 R1 R2
    go_wp2_with fail
    exact ⟨rfl, OutG.isBad HX.out R3.out.bt R3.out.rs⟩
  | ok l r' =>
    rw [hx] at h3
    obtain ⟨y, a1, c1, a2, c2, rfl, N3, hy, S3⟩ := h3
    have R3 := hide ((R2.out _).but hgw B3 S3)
    have HO := hide (fun hm => R3.out.out (Sh := fun y l => y = (l, .nil)) (c1 := c1) (c2 := c2) hgw hx N3 hm (by simp; omega) hy)
    have x0 := R3.out.nb.c0
    have x1 := R3.out.nb.c1
    have y0 := R3.out.nb.f0
    have y1 := R3.out.nb.f1
    have hml3 := R3.out.nb.lt
    have NF := hide (R3.out.nb.put (.slice a1 y.1.length c1) (.slice a2 y.2.len c2))
    unfold putN at NF HO
    clear hx B3 S3 R1 R2 N3 hy R3
    go_wp2_with fail
    refine bodyPost_ret (v := .agg #[.slice a1 y.1.length c1, .slice a2 y.2.len c2]) ?_ rfl ?_
    · exact resReadFac NF.out rfl
    · exact HO.out (by simp; omega)

set_option maxHeartbeats 2000000 in
set_option maxRecDepth 100000 in
theorem fac_knows (g : Nat) (ao : Option Addr) (cap : Nat) (ts r : List Tk) (sz : Nat) (w : World) (h : RS w g ao cap ts r sz) (hl : ts.length < 4294967281) (hw : wordR r = [107, 110, 111, 119, 115]) :
    Calls Try.prog 94 #[.pointer (some ⟨g, 0, none⟩)] w fun e w' => OutG (fun y l => y = (l, .nil)) (takesR [[107, 110, 111, 119, 115], w_NAME] r) g ao cap ts sz w e w' := by
  have HW : Hid (∀ W, RS W g ao cap ts r sz → Calls Try.prog 72 #[.pointer (some ⟨g, 0, none⟩)] W fun e w' => e = .returned (.string ⟨([107, 110, 111, 119, 115] : List UInt8).toArray⟩) ∧ Below W.heap.size W w') := fun W a => by
    have := word_any g ao cap ts r sz W a; rwa [hw] at this
  have hgw := h.lt
  have R0 := hide (RN.new h (.slice none 0 0) (.slice none 0 0) 51)
  have HL := hide hl
  clear h hw hl
  go_enter Try.func94, Try.ntmps94
  go_upto_region 1 with fail
  obtain ⟨W0, hW0⟩ : ∃ x, x = w.alloc (Obj.cells #[.slice none 0 0, .slice none 0 0] 51) := ⟨_, rfl⟩
  rw [← hW0] at R0 ⊢
  clear hW0
  go_wp2_with fail
  refine (HW.out _ R0.out.rs).mono ?_
  rintro e w1 ⟨rfl, b1⟩
  have R1 := hide (R0.out.below b1)
  clear b1 R0 HW
  have hml := R1.out.nb.lt
  have hsw := R1.out.bt.size
  go_wp2_with fail
  have R2 := hide (fun o => R1.out.alloc o)
  refine (leaf_any [[107, 110, 111, 119, 115], w_NAME] w1.heap.size g ao cap ts r sz _ (R2.out _).rs (lits_new w1 [[107, 110, 111, 119, 115], w_NAME] 9) (by omega) (by simp) (by decide) HL.out).mono ?_
  rintro e w3 ⟨B3, h3⟩
  have hs3 := B3.size
  cases hx : takesR [[107, 110, 111, 119, 115], w_NAME] r with
  | bad r' =>
    rw [hx] at h3
    obtain ⟨rfl, S3⟩ := h3
    have R3 := hide ((R2.out _).but hgw B3 S3)
    have HX := hide hx
    clear hx B3 S3 R1 R2
    go_wp2_with fail
    exact ⟨rfl, OutG.isBad HX.out R3.out.bt R3.out.rs⟩
  | ok l r' =>
    rw [hx] at h3
    obtain ⟨y, a1, c1, a2, c2, rfl, N3, hy, S3⟩ := h3
    have R3 := hide ((R2.out _).but hgw B3 S3)
    have HO := hide (fun hm => R3.out.out (Sh := fun y l => y = (l, .nil)) (c1 := c1) (c2 := c2) hgw hx N3 hm (by simp; omega) hy)
    have x0 := R3.out.nb.c0
    have x1 := R3.out.nb.c1
    have y0 := R3.out.nb.f0
    have y1 := R3.out.nb.f1
    have hml3 := R3.out.nb.lt
    have NF := hide (R3.out.nb.put (.slice a1 y.1.length c1) (.slice a2 y.2.len c2))
    unfold putN at NF HO
    clear hx B3 S3 R1 R2 N3 hy R3
    go_wp2_with fail
    refine bodyPost_ret (v := .agg #[.slice a1 y.1.length c1, .slice a2 y.2.len c2]) ?_ rfl ?_
    · exact resReadFac NF.out rfl
    · exact HO.out (by simp; omega)

set_option maxHeartbeats 2000000 in
set_option maxRecDepth 100000 in
theorem fac_stolen (g : Nat) (ao : Option Addr) (cap : Nat) (ts r : List Tk) (sz : Nat) (w : World) (h : RS w g ao cap ts r sz) (hl : ts.length < 4294967281) (hw : wordR r = [115, 116, 111, 108, 101, 110]) :
    Calls Try.prog 94 #[.pointer (some ⟨g, 0, none⟩)] w fun e w' => OutG (fun y l => y = (l, .nil)) (takesR [[115, 116, 111, 108, 101, 110], w_NAME] r) g ao cap ts sz w e w' := by
  have HW : Hid (∀ W, RS W g ao cap ts r sz → Calls Try.prog 72 #[.pointer (some ⟨g, 0, none⟩)] W fun e w' => e = .returned (.string ⟨([115, 116, 111, 108, 101, 110] : List UInt8).toArray⟩) ∧ Below W.heap.size W w') := fun W a => by
    have := word_any g ao cap ts r sz W a; rwa [hw] at this
  have hgw := h.lt
  have R0 := hide (RN.new h (.slice none 0 0) (.slice none 0 0) 51)
  have HL := hide hl
  clear h hw hl
  go_enter Try.func94, Try.ntmps94
  go_upto_region 1 with fail
  obtain ⟨W0, hW0⟩ : ∃ x, x = w.alloc (Obj.cells #[.slice none 0 0, .slice none 0 0] 51) := ⟨_, rfl⟩
  rw [← hW0] at R0 ⊢
  clear hW0
  go_wp2_with fail
  refine (HW.out _ R0.out.rs).mono ?_
  rintro e w1 ⟨rfl, b1⟩
  have R1 := hide (R0.out.below b1)
  clear b1 R0 HW
  have hml := R1.out.nb.lt
  have hsw := R1.out.bt.size
  go_wp2_with fail
  have R2 := hide (fun o => R1.out.alloc o)
  refine (leaf_any [[115, 116, 111, 108, 101, 110], w_NAME] w1.heap.size g ao cap ts r sz _ (R2.out _).rs (lits_new w1 [[115, 116, 111, 108, 101, 110], w_NAME] 9) (by omega) (by simp) (by decide) HL.out).mono ?_
  rintro e w3 ⟨B3, h3⟩
  have hs3 := B3.size
  cases hx : takesR [[115, 116, 111, 108, 101, 110], w_NAME] r with
  | bad r' =>
    rw [hx] at h3
    obtain ⟨rfl, S3⟩ := h3
    have R3 := hide ((R2.out _).but hgw B3 S3)
    have HX := hide hx
    clear hx B3 S3 R1 R2
    go_wp2_with fail
    exact ⟨rfl, OutG.isBad HX.out R3.out.bt R3.out.rs⟩
  | ok l r' =>
    rw [hx] at h3
    obtain ⟨y, a1, c1, a2, c2, rfl, N3, hy, S3⟩ := h3
    have R3 := hide ((R2.out _).but hgw B3 S3)
    have HO := hide (fun hm => R3.out.out (Sh := fun y l => y = (l, .nil)) (c1 := c1) (c2 := c2) hgw hx N3 hm (by simp; omega) hy)
    have x0 := R3.out.nb.c0
    have x1 := R3.out.nb.c1
    have y0 := R3.out.nb.f0
    have y1 := R3.out.nb.f1
    have hml3 := R3.out.nb.lt
    have NF := hide (R3.out.nb.put (.slice a1 y.1.length c1) (.slice a2 y.2.len c2))
    unfold putN at NF HO
    clear hx B3 S3 R1 R2 N3 hy R3
    go_wp2_with fail
    refine bodyPost_ret (v := .agg #[.slice a1 y.1.length c1, .slice a2 y.2.len c2]) ?_ rfl ?_
    · exact resReadFac NF.out rfl
    · exact HO.out (by simp; omega)

set_option maxHeartbeats 2000000 in
set_option maxRecDepth 100000 in
theorem fac_ran (g : Nat) (ao : Option Addr) (cap : Nat) (ts r : List Tk) (sz : Nat) (w : World) (h : RS w g ao cap ts r sz) (hl : ts.length < 4294967281) (hw : wordR r = [114, 97, 110]) :
    Calls Try.prog 94 #[.pointer (some ⟨g, 0, none⟩)] w fun e w' => OutG (fun y l => y = (l, .nil)) (takesR [[114, 97, 110], w_NAME] r) g ao cap ts sz w e w' := by
  have HW : Hid (∀ W, RS W g ao cap ts r sz → Calls Try.prog 72 #[.pointer (some ⟨g, 0, none⟩)] W fun e w' => e = .returned (.string ⟨([114, 97, 110] : List UInt8).toArray⟩) ∧ Below W.heap.size W w') := fun W a => by
    have := word_any g ao cap ts r sz W a; rwa [hw] at this
  have hgw := h.lt
  have R0 := hide (RN.new h (.slice none 0 0) (.slice none 0 0) 51)
  have HL := hide hl
  clear h hw hl
  go_enter Try.func94, Try.ntmps94
  go_upto_region 1 with fail
  obtain ⟨W0, hW0⟩ : ∃ x, x = w.alloc (Obj.cells #[.slice none 0 0, .slice none 0 0] 51) := ⟨_, rfl⟩
  rw [← hW0] at R0 ⊢
  clear hW0
  go_wp2_with fail
  refine (HW.out _ R0.out.rs).mono ?_
  rintro e w1 ⟨rfl, b1⟩
  have R1 := hide (R0.out.below b1)
  clear b1 R0 HW
  have hml := R1.out.nb.lt
  have hsw := R1.out.bt.size
  go_wp2_with fail
  have R2 := hide (fun o => R1.out.alloc o)
  refine (leaf_any [[114, 97, 110], w_NAME] w1.heap.size g ao cap ts r sz _ (R2.out _).rs (lits_new w1 [[114, 97, 110], w_NAME] 9) (by omega) (by simp) (by decide) HL.out).mono ?_
  rintro e w3 ⟨B3, h3⟩
  have hs3 := B3.size
  cases hx : takesR [[114, 97, 110], w_NAME] r with
  | bad r' =>
    rw [hx] at h3
    obtain ⟨rfl, S3⟩ := h3
    have R3 := hide ((R2.out _).but hgw B3 S3)
    have HX := hide hx
    clear hx B3 S3 R1 R2
    go_wp2_with fail
    exact ⟨rfl, OutG.isBad HX.out R3.out.bt R3.out.rs⟩
  | ok l r' =>
    rw [hx] at h3
    obtain ⟨y, a1, c1, a2, c2, rfl, N3, hy, S3⟩ := h3
    have R3 := hide ((R2.out _).but hgw B3 S3)
    have HO := hide (fun hm => R3.out.out (Sh := fun y l => y = (l, .nil)) (c1 := c1) (c2 := c2) hgw hx N3 hm (by simp; omega) hy)
    have x0 := R3.out.nb.c0
    have x1 := R3.out.nb.c1
    have y0 := R3.out.nb.f0
    have y1 := R3.out.nb.f1
    have hml3 := R3.out.nb.lt
    have NF := hide (R3.out.nb.put (.slice a1 y.1.length c1) (.slice a2 y.2.len c2))
    unfold putN at NF HO
    clear hx B3 S3 R1 R2 N3 hy R3
    go_wp2_with fail
    refine bodyPost_ret (v := .agg #[.slice a1 y.1.length c1, .slice a2 y.2.len c2]) ?_ rfl ?_
    · exact resReadFac NF.out rfl
    · exact HO.out (by simp; omega)
/-- What is told of a word of a formula. -/
theorem rel_un (n : Nat) {ts : List Tk} (h : TokOk ts) {w : List UInt8} (hw : wordR ts = w) (hm : words5.contains w = true) : RelR (fun l f => ShF (l, .nil) f) (takesR [w, w_NAME] ts) (facF (n + 1) ts) := by
  rw [List.contains_iff_mem] at hm
  have hl : (1 < w.length ∧ plainW w = true) ∧ (w == w_not_) = false := (by decide : ∀ w ∈ words5, (1 < w.length ∧ plainW w = true) ∧ (w == w_not_) = false) w hm
  have hpl : isT w_lpa ts = false := by
    obtain ⟨t, r, rfl, hk, ht⟩ := wordR_head (by omega) hw
    rw [isT_lit]
    unfold litS
    have : (t.text == w_lpa) = false := beq_eq_false_iff_ne.2 (fun e => by rw [ht] at e; rw [e] at hl; exact absurd hl.1.1 (by decide))
    simp [this]
  have h5 : word5 ts = true := by
    unfold word5
    rw [any_word (by decide) h, hw, List.any_eq_true]
    exact ⟨w, hm, by simp⟩
  have hf : facF (n + 1) ts = (kindR 1 ts.tail).map fun t => .un (headText ts) t.text t.at' := by
    rw [facF_succ, isT_word (by decide) h, hw, hl.2, hpl, h5]; rfl
  obtain ⟨t, r, rfl, hk, ht⟩ := wordR_head (by omega) hw
  rw [hf, takesR_word hl.1.2 hl.1.1 _ h, need_word hk ht]
  simp only [takesR_kind (k := 1) (by decide) fit_name, ok_thenq, List.headD_cons, List.tail_cons, map_thenq, then_thenq]
  refine RelR.bind fun t2 r2 h2 => ?_
  obtain ⟨rfl, hk2⟩ := kind_tok h2
  have h3 := (h.tail t2 List.mem_cons_self).2.2 hk2
  exact RelR.ok ⟨t, t2, rfl, hk, rfl, hk2, rfl, rfl, by show t.text ∈ words5; rw [ht]; exact hm, h3.1, h3.2⟩
theorem fac_noword (n : Nat) {ts : List Tk} (h : TokOk ts) (hn : ∀ x ∈ w_not_ :: words5, (wordR ts == x) = false) : facF (n + 1) ts = if isT w_lpa ts then (forF n ts.tail).then fun a r => (needR w_rpa r).map fun _ => a else .bad ts := by
  have h5 : word5 ts = false := by
    unfold word5
    rw [any_word (by decide) h, List.any_eq_false]
    intro x hx
    rw [hn x (List.mem_cons_of_mem _ hx)]; decide
  rw [facF_succ, isT_word (by decide) h, hn w_not_ List.mem_cons_self, h5]
  rfl
theorem take_sign {w : List UInt8} (hp : plainW w = true) (hl : w.length = 1) {r : List Tk} (h : TokOk r) : takesR [w] r = (needR w r).map fun _ => [] := by
  rw [takesR_sign hp hl _ h, map_thenq]
  rfl
set_option maxHeartbeats 2000000 in
set_option maxRecDepth 100000 in
theorem fac_notT (n : Nat) (IF : FacT n) (g : Nat) (ao : Option Addr) (cap : Nat) (ts r : List Tk) (sz : Nat) (w : World) (h : RS w g ao cap ts r sz) (ht : TokOk ts) (hl : ts.length < 4294967281) (hf : 3 * r.length + 1 ≤ n + 1) (hw : wordR r = w_not_) :
    Calls Try.prog 94 #[.pointer (some ⟨g, 0, none⟩)] w fun e w' => OutG ShF (facF (n + 1) r) g ao cap ts sz w e w' := by
  have HW : Hid (∀ W, RS W g ao cap ts r sz → Calls Try.prog 72 #[.pointer (some ⟨g, 0, none⟩)] W fun e w' => e = .returned (.string ⟨#[110, 111, 116]⟩) ∧ Below W.heap.size W w') := fun W a => by
    have := word_any g ao cap ts r sz W a; rwa [hw] at this
  have hq : isT w_not_ r = true := by rw [isT_word (by decide) (h.tok ht), hw]; decide
  obtain ⟨t, hr', hk, htx, htk⟩ := take_one (by decide) (by decide) (h.tok ht) hq
  have HE : Hid (facF (n + 1) r = (facF n r.tail).map .no) := by unfold Hid; rw [facF_succ, if_pos hq]
  have hlen := isT_len hq
  have HK := hide hk
  have HTX := hide htx
  have HTK := hide htk
  have HFu : Hid (3 * r.tail.length + 1 ≤ n) := by unfold Hid; omega
  have HIF := hide (fun W (a : RS W g ao cap ts r.tail sz) => IF g ao cap ts r.tail sz W a ht hl HFu.out)
  have hgw := h.lt
  have R0 := hide (RN.new h (.slice none 0 0) (.slice none 0 0) 51)
  have HL := hide hl
  clear h hw hl hq hr' hk htx htk hf ht IF hlen HFu
  go_enter Try.func94, Try.ntmps94
  go_upto_region 1 with fail
  obtain ⟨W0, hW0⟩ : ∃ x, x = w.alloc (Obj.cells #[.slice none 0 0, .slice none 0 0] 51) := ⟨_, rfl⟩
  rw [← hW0] at R0 ⊢
  clear hW0
  go_wp2_with fail
  refine (HW.out _ R0.out.rs).mono ?_
  rintro e w1 ⟨rfl, b1⟩
  have R1 := hide (R0.out.below b1)
  clear b1 R0 HW
  have hml := R1.out.nb.lt
  have hsw := R1.out.bt.size
  go_wp2_with fail
  have R2 := hide (fun o => R1.out.alloc o)
  refine (leaf_any [w_not_] w1.heap.size g ao cap ts r sz _ (R2.out _).rs (lits_new w1 [w_not_] 9) (by omega) (by simp) (by decide) HL.out).mono ?_
  rintro e w3 ⟨B3, h3⟩
  rw [HTK.out] at h3
  obtain ⟨yt, b1, d1, b2, d2, he, N3, hyt, S3⟩ := h3
  subst hyt
  replace he : e = .returned (.agg #[.slice b1 1 d1, .slice b2 0 d2]) := he
  subst he
  have hs3 : w1.heap.size + 1 ≤ w3.heap.size := by simpa using B3.size
  have R3 := hide ((R2.out _).but hgw B3 S3)
  have N3 : Hid (NA w3 (In (w1.heap.size + 1) w3.heap.size) b1 b2 ([t], .nil)) := by unfold Hid; simpa using N3
  clear B3 S3 R1 R2
  go_wp2_with fail
  obtain ⟨W4, hW4⟩ : ∃ x, x = w3.alloc (Obj.cells #[.slice b1 1 d1, .slice b2 0 d2] 51) := ⟨_, rfl⟩
  have b4 : Below w3.heap.size w3 W4 := by rw [hW4]; exact (Below.refl _ _).alloc (Nat.le_refl _) _
  have M4 : Hid (NB W4 w3.heap.size (.slice b1 1 d1) (.slice b2 0 d2)) := by unfold Hid; rw [hW4]; exact NB.new _ _ _ _
  have R4 := hide (R3.out.below b4)
  have N4 : Hid (NA W4 (In (w1.heap.size + 1) w3.heap.size) b1 b2 ([t], .nil)) := N3.out.keep (KeptIn.below b4 (Nat.le_refl _) _)
  rw [← hW4]
  clear hW4 b4 R3 N3
  have hm4 := M4.out.lt
  have hmg : g < w3.heap.size := by omega
  refine (HIF.out _ R4.out.rs).mono ?_
  rintro e w5 ⟨B5, h5⟩
  have hs5 := B5.size
  cases hx : facF n r.tail with
  | bad r' =>
    rw [hx] at h5
    obtain ⟨rfl, S5⟩ := h5
    have R5 := hide (R4.out.but hgw B5 S5)
    have HX : Hid (facF (n + 1) r = .bad r') := by unfold Hid; rw [HE.out, hx]; rfl
    clear hx B5 S5 R4 HE N4 M4
    go_wp2_with fail
    exact ⟨rfl, OutG.isBad HX.out R5.out.bt R5.out.rs⟩
  | ok f r' =>
    rw [hx] at h5
    obtain ⟨y, a1, c1, a2, c2, rfl, N5, hy, S5⟩ := h5
    have HX : Hid (facF (n + 1) r = .ok (.no f) r') := by unfold Hid; rw [HE.out, hx]; rfl
    have bb : Below w5.heap.size w5 (w5.alloc (Obj.cells #[.slice a1 y.1.length c1, .slice a2 y.2.len c2] 51)) := (Below.refl _ _).alloc (Nat.le_refl _) _
    obtain ⟨W6, hW6⟩ : ∃ x, x = w5.alloc (Obj.cells #[.slice a1 y.1.length c1, .slice a2 y.2.len c2] 51) := ⟨_, rfl⟩
    rw [← hW6] at bb
    have R6 := hide ((R4.out.but hgw B5 S5).below bb)
    have M6 := hide ((M4.out.but B5 (by omega)).below bb)
    have N6 : Hid (NA W6 (In (w1.heap.size + 1) w3.heap.size) b1 b2 ([t], .nil)) := (N4.out.keep (KeptIn.but B5 (by omega) (by omega))).keep (KeptIn.below bb (by omega) _)
    have N6y : Hid (NA W6 (In W4.heap.size w5.heap.size) a1 a2 y) := N5.keep (KeptIn.below bb (Nat.le_refl _) _)
    have Q6 : Hid (NB W6 w5.heap.size (.slice a1 y.1.length c1) (.slice a2 y.2.len c2)) := by unfold Hid; rw [hW6]; exact NB.new _ _ _ _
    have HY := hide hy
    have HW6 := hide hW6
    have x1 := M6.out.c1
    have u1 := M6.out.f1
    have x0 := M6.out.c0
    have hm6 := M6.out.lt
    rw [hW6] at x1 u1 x0
    clear hx B5 S5 R4 HE N4 M4 N5 hy bb hW6
    go_upto_region 10 with fail
    rw [← HW6.out]
    obtain ⟨W7, hW7⟩ : ∃ x, x = W6.setCell ⟨w3.heap.size, 1, none⟩ (.slice (some ⟨w5.heap.size, 0, none⟩) 1 1) := ⟨_, rfl⟩
    have s7 : W7.heap.size = W6.heap.size := by rw [hW7, size_set]
    have hk7 : ∀ (K : Nat → Prop), ¬ K w3.heap.size → KeptIn K W6 W7 := fun K hK => by rw [hW7]; exact KeptIn.setK hK
    have M7 : Hid (NB W7 w3.heap.size (.slice b1 1 d1) (.slice (some ⟨w5.heap.size, 0, none⟩) 1 1)) := by unfold Hid; rw [hW7]; exact M6.out.set1 _
    have R7 : Hid (RN w W7 w.heap.size g ao cap ts r' sz (.slice none 0 0) (.slice none 0 0)) := by unfold Hid; rw [hW7]; exact R6.out.setO (by omega) hmg _
    rw [← hW7]
    have hq5 := Q6.out.lt
    have N7 : Hid (NA W7 (In (w1.heap.size + 1) W7.heap.size) b1 (some ⟨w5.heap.size, 0, none⟩) ([t], .cons y.1 y.2 .nil)) := by
      have hq7 : KeptIn (fun b => b = w5.heap.size) W6 W7 := hk7 _ (by show ¬ w3.heap.size = w5.heap.size; omega)
      refine ⟨((N6.out.keep (hk7 _ (fun k => by have := k.2; omega))).t).sub (fun b k => ⟨k.1, by have := k.2; omega⟩), .inr ⟨w5.heap.size, rfl, ⟨by omega, by omega⟩, ?_⟩⟩
      exact FC.one (c1 := c1) (c2 := c2) (x := y) ((N6y.out.keep (hk7 _ (fun k => by have := k.1; omega))).sub (fun b k => ⟨by have := k.1; omega, by have := k.2; omega⟩)) (hq7.cell rfl Q6.out.c0) (hq7.cell rfl Q6.out.c1)
    have HY7 : Hid (ShF ([t], .cons y.1 y.2 .nil) (.no f)) := ⟨t, y, rfl, HK.out, HTX.out, HY.out⟩
    clear hW7 R6 M6 N6 N6y Q6 HY HW6 x0 x1 u1 hk7
    have x0 := M7.out.c0
    have x1 := M7.out.c1
    have hm7 := M7.out.lt
    have z0 := R7.out.nb.c0
    have z1 := R7.out.nb.c1
    have u0 := R7.out.nb.f0
    have u1 := R7.out.nb.f1
    have hml7 := R7.out.nb.lt
    have NF := hide (R7.out.nb.put (.slice b1 1 d1) (.slice (some ⟨w5.heap.size, 0, none⟩) 1 1))
    have HO := hide (R7.out.outK (Sh := ShF) (c1 := d1) (c2 := 1) hgw HX.out N7.out (fun b k => ⟨by have := k.1; omega, k.2, by have := k.1; omega⟩) HY7.out)
    unfold putN at NF HO
    clear R7 N7 M7 HX HY7
    go_wp2_with fail
    refine bodyPost_ret (v := .agg #[.slice b1 1 d1, .slice (some ⟨w5.heap.size, 0, none⟩) 1 1]) ?_ rfl ?_
    · exact resReadFac NF.out rfl
    · exact HO.out
set_option maxHeartbeats 2000000 in
set_option maxRecDepth 100000 in
theorem fac_parenT (n : Nat) (IO : ForT n) (g : Nat) (ao : Option Addr) (cap : Nat) (ts r : List Tk) (sz : Nat) (w : World) (h : RS w g ao cap ts r sz) (ht : TokOk ts) (hl : ts.length < 4294967281) (hf : 3 * r.length + 1 ≤ n + 1) (hn : ∀ x ∈ w_not_ :: words5, (wordR r == x) = false) :
    Calls Try.prog 94 #[.pointer (some ⟨g, 0, none⟩)] w fun e w' => OutG ShF (facF (n + 1) r) g ao cap ts sz w e w' := by
  have HW := hide (fun W (a : RS W g ao cap ts r sz) => word_any g ao cap ts r sz W a)
  have HE := hide (fac_noword n (h.tok ht) hn)
  have HTk := hide (take_sign (w := w_lpa) (by decide) (by decide) (h.tok ht))
  generalize wordR r = wd at *
  have e0 : (wd == [110, 111, 116]) = false := hn _ (by decide)
  have e1 : (wd == [99, 104, 97, 110, 103, 101, 100]) = false := hn _ (by decide)
  have e2 : (wd == [102, 111, 114, 103, 101, 100]) = false := hn _ (by decide)
  have e3 : (wd == [107, 110, 111, 119, 115]) = false := hn _ (by decide)
  have e4 : (wd == [115, 116, 111, 108, 101, 110]) = false := hn _ (by decide)
  have e5 : (wd == [114, 97, 110]) = false := hn _ (by decide)
  have hgw := h.lt
  have R0 := hide (RN.new h (.slice none 0 0) (.slice none 0 0) 51)
  have HL := hide hl
  have HT := hide ht
  have HF := hide hf
  have HIO := hide IO
  clear h hl hf ht IO hn
  go_enter Try.func94, Try.ntmps94
  go_upto_region 1 with fail
  obtain ⟨W0, hW0⟩ : ∃ x, x = w.alloc (Obj.cells #[.slice none 0 0, .slice none 0 0] 51) := ⟨_, rfl⟩
  rw [← hW0] at R0 ⊢
  clear hW0
  go_wp2_with fail
  refine (HW.out _ R0.out.rs).mono ?_
  rintro e w1 ⟨rfl, b1⟩
  have R1 := hide (R0.out.below b1)
  clear b1 R0 HW
  have hml := R1.out.nb.lt
  have hsw := R1.out.bt.size
  go_wp2_with fail
  have R2 := hide (fun o => R1.out.alloc o)
  refine (take_any [w_lpa] w1.heap.size g ao cap ts r sz _ (R2.out _).rs (lits_new w1 [w_lpa] 9) (by omega) (by simp) (by decide) HL.out).mono ?_
  rintro e w3 ⟨B3, h3⟩
  have hs3 : w1.heap.size + 1 ≤ w3.heap.size := by simpa using B3.size
  rw [HTk.out] at h3
  cases hq : isT w_lpa r with
  | false =>
    have hnd : needR w_lpa r = .bad r := by unfold needR; rw [hq]; rfl
    rw [hnd] at h3
    obtain ⟨rfl, S3⟩ := h3
    have R3 := hide ((R2.out _).but hgw B3 S3)
    have HX : Hid (facF (n + 1) r = .bad r) := by unfold Hid; rw [HE.out, hq]; rfl
    clear B3 S3 R1 R2 hq hnd
    go_wp2_with fail
    exact ⟨rfl, OutG.isBad HX.out R3.out.bt R3.out.rs⟩
  | true =>
    have hnd : needR w_lpa r = .ok () r.tail := by unfold needR; rw [hq]; rfl
    rw [hnd] at h3
    obtain ⟨k1, k2, rfl, T3, S3⟩ := h3
    have R3 := hide ((R2.out _).but hgw B3 S3)
    have hlen := isT_len hq
    have HX : Hid (facF (n + 1) r = (forF n r.tail).then fun a r => (needR w_rpa r).map fun _ => a) := by unfold Hid; rw [HE.out, hq]; rfl
    have HIF := hide (fun W (a : RS W g ao cap ts r.tail sz) => HIO.out g ao cap ts r.tail sz W a HT.out HL.out (by have := HF.out; omega))
    clear B3 S3 R1 R2 hq hnd HE HF HIO T3 HTk
    go_wp2_with fail
    refine (HIF.out _ R3.out.rs).mono ?_
    rintro e w5 ⟨B5, h5⟩
    have hs5 := B5.size
    cases hx : forF n r.tail with
    | bad r' =>
      rw [hx] at h5
      obtain ⟨rfl, S5⟩ := h5
      have R5 := hide (R3.out.but hgw B5 S5)
      have HX2 : Hid (facF (n + 1) r = .bad r') := by unfold Hid; rw [HX.out, hx]; rfl
      clear hx B5 S5 R3 HX HIF
      go_wp2_with fail
      exact ⟨rfl, OutG.isBad HX2.out R5.out.bt R5.out.rs⟩
    | ok f r' =>
      rw [hx] at h5
      obtain ⟨y, a1, c1, a2, c2, rfl, N5, hy, S5⟩ := h5
      have HX2 : Hid (facF (n + 1) r = (needR w_rpa r').map fun _ => f) := by unfold Hid; rw [HX.out, hx]; rfl
      have R5 := hide (R3.out.but hgw B5 S5)
      have N5 := hide N5
      have HY := hide hy
      clear hx B5 S5 R3 HX HIF hy
      go_upto_region 5 with fail
      obtain ⟨W6, hW6⟩ : ∃ x, x = w5.alloc (Obj.cells #[.slice a1 y.1.length c1, .slice a2 y.2.len c2] 51) := ⟨_, rfl⟩
      have b6 : Below w5.heap.size w5 W6 := by rw [hW6]; exact (Below.refl _ _).alloc (Nat.le_refl _) _
      have M6 : Hid (NB W6 w5.heap.size (.slice a1 y.1.length c1) (.slice a2 y.2.len c2)) := by unfold Hid; rw [hW6]; exact NB.new _ _ _ _
      have R6 := hide (R5.out.below b6)
      have N6 : Hid (NA W6 (In w3.heap.size w5.heap.size) a1 a2 y) := N5.out.keep (KeptIn.below b6 (Nat.le_refl _) _)
      rw [← hW6]
      have hm6 := M6.out.lt
      clear hW6 b6 R5 N5
      go_wp2_with fail
      have R7 := hide (fun o => R6.out.alloc o)
      refine (take_any [w_rpa] W6.heap.size g ao cap ts r' sz _ (R7.out _).rs (lits_new W6 [w_rpa] 9) (by omega) (by simp) (by decide) HL.out).mono ?_
      rintro e w8 ⟨B8, h8⟩
      have hs8 : W6.heap.size + 1 ≤ w8.heap.size := by simpa using B8.size
      have htk := take_sign (w := w_rpa) (by decide) (by decide) (R6.out.rs.tok HT.out)
      rw [htk] at h8
      cases hx : needR w_rpa r' with
      | bad r'' =>
        rw [hx] at h8
        obtain ⟨rfl, S8⟩ := h8
        have R8 := hide ((R7.out _).but hgw B8 S8)
        have HX3 : Hid (facF (n + 1) r = .bad r'') := by unfold Hid; rw [HX2.out, hx]; rfl
        clear hx B8 S8 R6 R7 HX2 htk N6 M6
        go_wp2_with fail
        exact ⟨rfl, OutG.isBad HX3.out R8.out.bt R8.out.rs⟩
      | ok u r'' =>
        rw [hx] at h8
        obtain ⟨j1, j2, rfl, T8, S8⟩ := h8
        have R8 := hide ((R7.out _).but hgw B8 S8)
        have HX3 : Hid (facF (n + 1) r = .ok f r'') := by unfold Hid; rw [HX2.out, hx]; rfl
        have ba : Below W6.heap.size W6 (W6.alloc (Obj.cells #[.string ⟨w_rpa.toArray⟩] 9)) := (Below.refl _ _).alloc (Nat.le_refl _) _
        have M8 := hide ((M6.out.below ba).but B8 (by omega))
        have N8 := hide ((N6.out.keep (KeptIn.below ba (by omega) _)).keep (KeptIn.but B8 (by omega) (by simp; omega)))
        clear hx B8 S8 R6 R7 HX2 htk N6 M6 T8 ba
        have x0 := M8.out.c0
        have x1 := M8.out.c1
        have hm8 := M8.out.lt
        have z0 := R8.out.nb.c0
        have z1 := R8.out.nb.c1
        have u0 := R8.out.nb.f0
        have u1 := R8.out.nb.f1
        have hml8 := R8.out.nb.lt
        have NF := hide (R8.out.nb.put (.slice a1 y.1.length c1) (.slice a2 y.2.len c2))
        have HO := hide (R8.out.outK (Sh := ShF) (c1 := c1) (c2 := c2) hgw HX3.out N8.out (fun b k => ⟨by have := k.1; omega, by have := k.2; omega, by have := k.1; omega⟩) HY.out)
        unfold putN at NF HO
        clear R8 N8 M8 HX3 HY
        go_wp2_with fail
        refine bodyPost_ret (v := .agg #[.slice a1 y.1.length c1, .slice a2 y.2.len c2]) ?_ rfl ?_
        · exact resReadFac NF.out rfl
        · exact HO.out

theorem fac_stepT (n : Nat) (IF : FacT n) (IO : ForT n) : FacT (n + 1) := by
  intro g ao cap ts r sz w h ht hl hf
  by_cases qn : wordR r = w_not_
  · exact fac_notT n IF g ao cap ts r sz w h ht hl hf qn
  · have hn := qn
    by_cases q_changed : wordR r = [99, 104, 97, 110, 103, 101, 100]
    · exact (fac_changed g ao cap ts r sz w h hl q_changed).mono fun e w' o => o.rel (RelR.imp (rel_un n (h.tok ht) q_changed (by decide)) fun _ _ hs z hz => by rw [hz]; exact hs)
    by_cases q_forged : wordR r = [102, 111, 114, 103, 101, 100]
    · exact (fac_forged g ao cap ts r sz w h hl q_forged).mono fun e w' o => o.rel (RelR.imp (rel_un n (h.tok ht) q_forged (by decide)) fun _ _ hs z hz => by rw [hz]; exact hs)
    by_cases q_knows : wordR r = [107, 110, 111, 119, 115]
    · exact (fac_knows g ao cap ts r sz w h hl q_knows).mono fun e w' o => o.rel (RelR.imp (rel_un n (h.tok ht) q_knows (by decide)) fun _ _ hs z hz => by rw [hz]; exact hs)
    by_cases q_stolen : wordR r = [115, 116, 111, 108, 101, 110]
    · exact (fac_stolen g ao cap ts r sz w h hl q_stolen).mono fun e w' o => o.rel (RelR.imp (rel_un n (h.tok ht) q_stolen (by decide)) fun _ _ hs z hz => by rw [hz]; exact hs)
    by_cases q_ran : wordR r = [114, 97, 110]
    · exact (fac_ran g ao cap ts r sz w h hl q_ran).mono fun e w' o => o.rel (RelR.imp (rel_un n (h.tok ht) q_ran (by decide)) fun _ _ hs z hz => by rw [hz]; exact hs)
    refine fac_parenT n IO g ao cap ts r sz w h ht hl hf fun x hx => beq_eq_false_iff_ne.2 fun e => ?_
    simp [words5] at hx
    rcases hx with rfl | rfl | rfl | rfl | rfl | rfl
    all_goals contradiction
theorem parse_allT : ∀ n, FacT n ∧ TerT n ∧ ForT n := by
  intro n
  induction n using Nat.strongRecOn with
  | ind n ih =>
    cases n with
    | zero => exact ⟨fun _ _ _ _ _ _ _ _ _ _ hf => absurd hf (by omega), fun _ _ _ _ _ _ _ _ _ _ hf => absurd hf (by omega), fun _ _ _ _ _ _ _ _ _ _ hf => absurd hf (by omega)⟩
    | succ n => exact ⟨fac_stepT n (ih n (Nat.lt_succ_self _)).1 (ih n (Nat.lt_succ_self _)).2.2, ter_stepT n (fun m hm => (ih m (Nat.lt_succ_of_le hm)).1), for_stepT n (fun m hm => (ih m (Nat.lt_succ_of_le hm)).2.1)⟩
theorem formula_any (g : Nat) (ao : Option Addr) (cap : Nat) (ts r : List Tk) (sz : Nat) (w : World) (h : RS w g ao cap ts r sz) (ht : TokOk ts) (hl : ts.length < 4294967281) :
    Calls Try.prog 87 #[.pointer (some ⟨g, 0, none⟩)] w fun e w' => OutG ShF (forS r) g ao cap ts sz w e w' := (parse_allT (3 * r.length + 3)).2.2 g ao cap ts r sz w h ht hl (Nat.le_refl _)
end Go.Proofs.Ytcmmjmgbanafgaa
