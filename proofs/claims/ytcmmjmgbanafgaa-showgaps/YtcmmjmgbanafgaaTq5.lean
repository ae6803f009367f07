/- The walk over tree.reader's attribute (text by make/tq5.py). -/
import Derived.Test.YtcmmjmgbanafgaaTq4
namespace Go.Proofs.Ytcmmjmgbanafgaa
open Go.RowKit Go.Proofs.Url Go.Proofs.Url.Syn

theorem resReadAttr {W : World} {m : Nat} {v1 v2 : Value} {tmps : Array Value} (h : NB W m v1 v2) (h2 : tmps[2]?.getD undef = .pointer (some ⟨m, 0, none⟩)) :
    (results Try.f86 tmps).run Try.prog W = .ok (.agg #[v1, v2]) W := by
  obtain ⟨c0, c1, _⟩ := h
  simp [results, Try.results86, go_sem, h2, c0, c1]
/-- What a function's own result cell, its reader and the rest are, ahead of a call and behind it. -/
structure RN (w W : World) (m g : Nat) (ao : Option Addr) (cap : Nat) (ts r : List Tk) (n : Nat) (v1 v2 : Value) : Prop where
  nb : NB W m v1 v2
  rs : RS W g ao cap ts r n
  bt : ButP g w W
  hm : w.heap.size ≤ m
theorem RN.new {w : World} {g : Nat} {ao : Option Addr} {cap : Nat} {ts r : List Tk} {n : Nat} (h : RS w g ao cap ts r n) (v1 v2 : Value) (t : TypeId) : RN w (w.alloc (.cells #[v1, v2] t)) w.heap.size g ao cap ts r n v1 v2 :=
  ⟨NB.new w v1 v2 t, h.alloc _, ButP.allocq _ _ _, Nat.le_refl _⟩
theorem RN.below {w W W' : World} {m g : Nat} {ao : Option Addr} {cap : Nat} {ts r : List Tk} {n : Nat} {v1 v2 : Value} (h : RN w W m g ao cap ts r n v1 v2) (hb : Below W.heap.size W W') : RN w W' m g ao cap ts r n v1 v2 :=
  ⟨h.nb.below hb, h.rs.keep hb, h.bt.trans (ButP.of hb), h.hm⟩
theorem RN.alloc {w W : World} {m g : Nat} {ao : Option Addr} {cap : Nat} {ts r : List Tk} {n : Nat} {v1 v2 : Value} (h : RN w W m g ao cap ts r n v1 v2) (o : Obj) : RN w (W.alloc o) m g ao cap ts r n v1 v2 := h.below ((Below.refl _ _).alloc (Nat.le_refl _) _)
theorem RN.but {w W W' : World} {m g : Nat} {ao : Option Addr} {cap : Nat} {ts r r' : List Tk} {n : Nat} {v1 v2 : Value} (h : RN w W m g ao cap ts r n v1 v2) (hg : g < w.heap.size) (hb : ButP g W W') (hs : RS W' g ao cap ts r' n) : RN w W' m g ao cap ts r' n v1 v2 :=
  ⟨h.nb.but hb (by have := h.hm; omega), hs, h.bt.trans hb, h.hm⟩
/-- What is stored there at the end. -/
theorem RN.out {α : Type} {Sh : Nd → α → Prop} {x : Rd α} {a : α} {w W W1 : World} {m g : Nat} {ao : Option Addr} {cap : Nat} {ts r : List Tk} {n : Nat} {v1 v2 : Value} {y : Nd} {a1 a2 : Option Addr} {c1 c2 : Nat} (h : RN w W m g ao cap ts r n v1 v2) (hg : g < w.heap.size) (hx : x = .ok a r)
    (hy : NA W (In W1.heap.size W.heap.size) a1 a2 y) (hm1 : m < W1.heap.size) (hw1 : w.heap.size ≤ W1.heap.size) (hsh : Sh y a) :
    OutG Sh x g ao cap ts n w (.returned (.agg #[.slice a1 y.1.length c1, .slice a2 y.2.len c2])) (putN W m (.slice a1 y.1.length c1) (.slice a2 y.2.len c2)) := by
  refine OutG.isOk hx (putN_but h.bt h.hm _ _) ?_ hsh (putN_rs h.rs _ _ (by have := h.hm; omega))
  rw [putN_size]
  exact (hy.keep (putN_kept (.inl hm1))).mono hw1 (Nat.le_refl _)

set_option maxHeartbeats 2000000 in
set_option maxRecDepth 100000 in
theorem attr_page (g : Nat) (ao : Option Addr) (cap : Nat) (ts r : List Tk) (n : Nat) (w : World) (h : RS w g ao cap ts r n) (hl : ts.length < 4294967281) (hw : wordR r = [112, 97, 103, 101]) :
    Calls Try.prog 86 #[.pointer (some ⟨g, 0, none⟩)] w fun e w' => OutG (fun y l => y = (l, .nil)) (takesR [[112, 97, 103, 101], w_semi] r) g ao cap ts n w e w' := by
  have HW : Hid (∀ W, RS W g ao cap ts r n → Calls Try.prog 72 #[.pointer (some ⟨g, 0, none⟩)] W fun e w' => e = .returned (.string ⟨([112, 97, 103, 101] : List UInt8).toArray⟩) ∧ Below W.heap.size W w') := fun W a => by
    have := word_any g ao cap ts r n W a; rwa [hw] at this
  have hgw := h.lt
  have R0 := hide (RN.new h (.slice none 0 0) (.slice none 0 0) 51)
  have HL := hide hl
  clear h hw hl
  go_enter Try.func86, Try.ntmps86
  go_upto_region 1 with fail
  obtain ⟨W0, hW0⟩ : ∃ x, x = w.alloc (Obj.cells #[.slice none 0 0, .slice none 0 0] 51) := ⟨_, rfl⟩
  rw [← hW0] at R0 ⊢
  clear hW0
  go_wp2_with fail
  refine (HW.out _ R0.out.rs).mono ?_
  rintro e w1 ⟨rfl, b1⟩
  have R1 := hide (R0.out.below b1)
  clear b1 R0 HW
  have hml := R1.out.nb.lt
  have hsw := R1.out.bt.size
  go_wp2_with fail
  have R2 := hide (fun o => R1.out.alloc o)
  refine (leaf_any [[112, 97, 103, 101], w_semi] w1.heap.size g ao cap ts r n _ (R2.out _).rs (lits_new w1 [[112, 97, 103, 101], w_semi] 9) (by omega) (by simp) (by decide) HL.out).mono ?_
  rintro e w3 ⟨B3, h3⟩
  have hs3 := B3.size
  cases hx : takesR [[112, 97, 103, 101], w_semi] r with
  | bad r' =>
    rw [hx] at h3
    obtain ⟨rfl, S3⟩ := h3
    have R3 := hide ((R2.out _).but hgw B3 S3)
    have HX := hide hx
    clear hx B3 S3 R1 R2
    go_wp2_with fail
    exact ⟨rfl, OutG.isBad HX.out R3.out.bt R3.out.rs⟩
  | ok l r' =>
    rw [hx] at h3
    obtain ⟨y, a1, c1, a2, c2, rfl, N3, hy, S3⟩ := h3
    have R3 := hide ((R2.out _).but hgw B3 S3)
    have HO := hide (fun hm => R3.out.out (Sh := fun y l => y = (l, .nil)) (c1 := c1) (c2 := c2) hgw hx N3 hm (by simp; omega) hy)
    have x0 := R3.out.nb.c0
    have x1 := R3.out.nb.c1
    have y0 := R3.out.nb.f0
    have y1 := R3.out.nb.f1
    have hml3 := R3.out.nb.lt
    have NF := hide (R3.out.nb.put (.slice a1 y.1.length c1) (.slice a2 y.2.len c2))
    unfold putN at NF HO
    clear hx B3 S3 R1 R2 N3 hy R3
    go_wp2_with fail
    refine bodyPost_ret (v := .agg #[.slice a1 y.1.length c1, .slice a2 y.2.len c2]) ?_ rfl ?_
    · exact resReadAttr NF.out rfl
    · exact HO.out (by simp; omega)

set_option maxHeartbeats 2000000 in
set_option maxRecDepth 100000 in
theorem attr_inject (g : Nat) (ao : Option Addr) (cap : Nat) (ts r : List Tk) (n : Nat) (w : World) (h : RS w g ao cap ts r n) (hl : ts.length < 4294967281) (hw : wordR r = [105, 110, 106, 101, 99, 116]) :
    Calls Try.prog 86 #[.pointer (some ⟨g, 0, none⟩)] w fun e w' => OutG (fun y l => y = (l, .nil)) (takesR [[105, 110, 106, 101, 99, 116], w_semi] r) g ao cap ts n w e w' := by
  have HW : Hid (∀ W, RS W g ao cap ts r n → Calls Try.prog 72 #[.pointer (some ⟨g, 0, none⟩)] W fun e w' => e = .returned (.string ⟨([105, 110, 106, 101, 99, 116] : List UInt8).toArray⟩) ∧ Below W.heap.size W w') := fun W a => by
    have := word_any g ao cap ts r n W a; rwa [hw] at this
  have hgw := h.lt
  have R0 := hide (RN.new h (.slice none 0 0) (.slice none 0 0) 51)
  have HL := hide hl
  clear h hw hl
  go_enter Try.func86, Try.ntmps86
  go_upto_region 1 with fail
  obtain ⟨W0, hW0⟩ : ∃ x, x = w.alloc (Obj.cells #[.slice none 0 0, .slice none 0 0] 51) := ⟨_, rfl⟩
  rw [← hW0] at R0 ⊢
  clear hW0
  go_wp2_with fail
  refine (HW.out _ R0.out.rs).mono ?_
  rintro e w1 ⟨rfl, b1⟩
  have R1 := hide (R0.out.below b1)
  clear b1 R0 HW
  have hml := R1.out.nb.lt
  have hsw := R1.out.bt.size
  go_wp2_with fail
  have R2 := hide (fun o => R1.out.alloc o)
  refine (leaf_any [[105, 110, 106, 101, 99, 116], w_semi] w1.heap.size g ao cap ts r n _ (R2.out _).rs (lits_new w1 [[105, 110, 106, 101, 99, 116], w_semi] 9) (by omega) (by simp) (by decide) HL.out).mono ?_
  rintro e w3 ⟨B3, h3⟩
  have hs3 := B3.size
  cases hx : takesR [[105, 110, 106, 101, 99, 116], w_semi] r with
  | bad r' =>
    rw [hx] at h3
    obtain ⟨rfl, S3⟩ := h3
    have R3 := hide ((R2.out _).but hgw B3 S3)
    have HX := hide hx
    clear hx B3 S3 R1 R2
    go_wp2_with fail
    exact ⟨rfl, OutG.isBad HX.out R3.out.bt R3.out.rs⟩
  | ok l r' =>
    rw [hx] at h3
    obtain ⟨y, a1, c1, a2, c2, rfl, N3, hy, S3⟩ := h3
    have R3 := hide ((R2.out _).but hgw B3 S3)
    have HO := hide (fun hm => R3.out.out (Sh := fun y l => y = (l, .nil)) (c1 := c1) (c2 := c2) hgw hx N3 hm (by simp; omega) hy)
    have x0 := R3.out.nb.c0
    have x1 := R3.out.nb.c1
    have y0 := R3.out.nb.f0
    have y1 := R3.out.nb.f1
    have hml3 := R3.out.nb.lt
    have NF := hide (R3.out.nb.put (.slice a1 y.1.length c1) (.slice a2 y.2.len c2))
    unfold putN at NF HO
    clear hx B3 S3 R1 R2 N3 hy R3
    go_wp2_with fail
    refine bodyPost_ret (v := .agg #[.slice a1 y.1.length c1, .slice a2 y.2.len c2]) ?_ rfl ?_
    · exact resReadAttr NF.out rfl
    · exact HO.out (by simp; omega)

set_option maxHeartbeats 2000000 in
set_option maxRecDepth 100000 in
theorem attr_own (g : Nat) (ao : Option Addr) (cap : Nat) (ts r : List Tk) (n : Nat) (w : World) (h : RS w g ao cap ts r n) (hl : ts.length < 4294967281) (hw : wordR r = [111, 119, 110]) :
    Calls Try.prog 86 #[.pointer (some ⟨g, 0, none⟩)] w fun e w' => OutG (fun y l => y = (l, .nil)) (takesR [[111, 119, 110], w_semi] r) g ao cap ts n w e w' := by
  have HW : Hid (∀ W, RS W g ao cap ts r n → Calls Try.prog 72 #[.pointer (some ⟨g, 0, none⟩)] W fun e w' => e = .returned (.string ⟨([111, 119, 110] : List UInt8).toArray⟩) ∧ Below W.heap.size W w') := fun W a => by
    have := word_any g ao cap ts r n W a; rwa [hw] at this
  have hgw := h.lt
  have R0 := hide (RN.new h (.slice none 0 0) (.slice none 0 0) 51)
  have HL := hide hl
  clear h hw hl
  go_enter Try.func86, Try.ntmps86
  go_upto_region 1 with fail
  obtain ⟨W0, hW0⟩ : ∃ x, x = w.alloc (Obj.cells #[.slice none 0 0, .slice none 0 0] 51) := ⟨_, rfl⟩
  rw [← hW0] at R0 ⊢
  clear hW0
  go_wp2_with fail
  refine (HW.out _ R0.out.rs).mono ?_
  rintro e w1 ⟨rfl, b1⟩
  have R1 := hide (R0.out.below b1)
  clear b1 R0 HW
  have hml := R1.out.nb.lt
  have hsw := R1.out.bt.size
  go_wp2_with fail
  have R2 := hide (fun o => R1.out.alloc o)
  refine (leaf_any [[111, 119, 110], w_semi] w1.heap.size g ao cap ts r n _ (R2.out _).rs (lits_new w1 [[111, 119, 110], w_semi] 9) (by omega) (by simp) (by decide) HL.out).mono ?_
  rintro e w3 ⟨B3, h3⟩
  have hs3 := B3.size
  cases hx : takesR [[111, 119, 110], w_semi] r with
  | bad r' =>
    rw [hx] at h3
    obtain ⟨rfl, S3⟩ := h3
    have R3 := hide ((R2.out _).but hgw B3 S3)
    have HX := hide hx
    clear hx B3 S3 R1 R2
    go_wp2_with fail
    exact ⟨rfl, OutG.isBad HX.out R3.out.bt R3.out.rs⟩
  | ok l r' =>
    rw [hx] at h3
    obtain ⟨y, a1, c1, a2, c2, rfl, N3, hy, S3⟩ := h3
    have R3 := hide ((R2.out _).but hgw B3 S3)
    have HO := hide (fun hm => R3.out.out (Sh := fun y l => y = (l, .nil)) (c1 := c1) (c2 := c2) hgw hx N3 hm (by simp; omega) hy)
    have x0 := R3.out.nb.c0
    have x1 := R3.out.nb.c1
    have y0 := R3.out.nb.f0
    have y1 := R3.out.nb.f1
    have hml3 := R3.out.nb.lt
    have NF := hide (R3.out.nb.put (.slice a1 y.1.length c1) (.slice a2 y.2.len c2))
    unfold putN at NF HO
    clear hx B3 S3 R1 R2 N3 hy R3
    go_wp2_with fail
    refine bodyPost_ret (v := .agg #[.slice a1 y.1.length c1, .slice a2 y.2.len c2]) ?_ rfl ?_
    · exact resReadAttr NF.out rfl
    · exact HO.out (by simp; omega)

set_option maxHeartbeats 2000000 in
set_option maxRecDepth 100000 in
theorem attr_changes (g : Nat) (ao : Option Addr) (cap : Nat) (ts r : List Tk) (n : Nat) (w : World) (h : RS w g ao cap ts r n) (hl : ts.length < 4294967281) (hw : wordR r = [99, 104, 97, 110, 103, 101, 115]) :
    Calls Try.prog 86 #[.pointer (some ⟨g, 0, none⟩)] w fun e w' => OutG (fun y l => y = (l, .nil)) (takesR [[99, 104, 97, 110, 103, 101, 115], w_semi] r) g ao cap ts n w e w' := by
  have HW : Hid (∀ W, RS W g ao cap ts r n → Calls Try.prog 72 #[.pointer (some ⟨g, 0, none⟩)] W fun e w' => e = .returned (.string ⟨([99, 104, 97, 110, 103, 101, 115] : List UInt8).toArray⟩) ∧ Below W.heap.size W w') := fun W a => by
    have := word_any g ao cap ts r n W a; rwa [hw] at this
  have hgw := h.lt
  have R0 := hide (RN.new h (.slice none 0 0) (.slice none 0 0) 51)
  have HL := hide hl
  clear h hw hl
  go_enter Try.func86, Try.ntmps86
  go_upto_region 1 with fail
  obtain ⟨W0, hW0⟩ : ∃ x, x = w.alloc (Obj.cells #[.slice none 0 0, .slice none 0 0] 51) := ⟨_, rfl⟩
  rw [← hW0] at R0 ⊢
  clear hW0
  go_wp2_with fail
  refine (HW.out _ R0.out.rs).mono ?_
  rintro e w1 ⟨rfl, b1⟩
  have R1 := hide (R0.out.below b1)
  clear b1 R0 HW
  have hml := R1.out.nb.lt
  have hsw := R1.out.bt.size
  go_wp2_with fail
  have R2 := hide (fun o => R1.out.alloc o)
  refine (leaf_any [[99, 104, 97, 110, 103, 101, 115], w_semi] w1.heap.size g ao cap ts r n _ (R2.out _).rs (lits_new w1 [[99, 104, 97, 110, 103, 101, 115], w_semi] 9) (by omega) (by simp) (by decide) HL.out).mono ?_
  rintro e w3 ⟨B3, h3⟩
  have hs3 := B3.size
  cases hx : takesR [[99, 104, 97, 110, 103, 101, 115], w_semi] r with
  | bad r' =>
    rw [hx] at h3
    obtain ⟨rfl, S3⟩ := h3
    have R3 := hide ((R2.out _).but hgw B3 S3)
    have HX := hide hx
    clear hx B3 S3 R1 R2
    go_wp2_with fail
    exact ⟨rfl, OutG.isBad HX.out R3.out.bt R3.out.rs⟩
  | ok l r' =>
    rw [hx] at h3
    obtain ⟨y, a1, c1, a2, c2, rfl, N3, hy, S3⟩ := h3
    have R3 := hide ((R2.out _).but hgw B3 S3)
    have HO := hide (fun hm => R3.out.out (Sh := fun y l => y = (l, .nil)) (c1 := c1) (c2 := c2) hgw hx N3 hm (by simp; omega) hy)
    have x0 := R3.out.nb.c0
    have x1 := R3.out.nb.c1
    have y0 := R3.out.nb.f0
    have y1 := R3.out.nb.f1
    have hml3 := R3.out.nb.lt
    have NF := hide (R3.out.nb.put (.slice a1 y.1.length c1) (.slice a2 y.2.len c2))
    unfold putN at NF HO
    clear hx B3 S3 R1 R2 N3 hy R3
    go_wp2_with fail
    refine bodyPost_ret (v := .agg #[.slice a1 y.1.length c1, .slice a2 y.2.len c2]) ?_ rfl ?_
    · exact resReadAttr NF.out rfl
    · exact HO.out (by simp; omega)

set_option maxHeartbeats 2000000 in
set_option maxRecDepth 100000 in
theorem attr_open (g : Nat) (ao : Option Addr) (cap : Nat) (ts r : List Tk) (n : Nat) (w : World) (h : RS w g ao cap ts r n) (hl : ts.length < 4294967281) (hw : wordR r = [111, 112, 101, 110]) :
    Calls Try.prog 86 #[.pointer (some ⟨g, 0, none⟩)] w fun e w' => OutG (fun y l => y = (l, .nil)) (takesR [[111, 112, 101, 110], w_semi] r) g ao cap ts n w e w' := by
  have HW : Hid (∀ W, RS W g ao cap ts r n → Calls Try.prog 72 #[.pointer (some ⟨g, 0, none⟩)] W fun e w' => e = .returned (.string ⟨([111, 112, 101, 110] : List UInt8).toArray⟩) ∧ Below W.heap.size W w') := fun W a => by
    have := word_any g ao cap ts r n W a; rwa [hw] at this
  have hgw := h.lt
  have R0 := hide (RN.new h (.slice none 0 0) (.slice none 0 0) 51)
  have HL := hide hl
  clear h hw hl
  go_enter Try.func86, Try.ntmps86
  go_upto_region 1 with fail
  obtain ⟨W0, hW0⟩ : ∃ x, x = w.alloc (Obj.cells #[.slice none 0 0, .slice none 0 0] 51) := ⟨_, rfl⟩
  rw [← hW0] at R0 ⊢
  clear hW0
  go_wp2_with fail
  refine (HW.out _ R0.out.rs).mono ?_
  rintro e w1 ⟨rfl, b1⟩
  have R1 := hide (R0.out.below b1)
  clear b1 R0 HW
  have hml := R1.out.nb.lt
  have hsw := R1.out.bt.size
  go_wp2_with fail
  have R2 := hide (fun o => R1.out.alloc o)
  refine (leaf_any [[111, 112, 101, 110], w_semi] w1.heap.size g ao cap ts r n _ (R2.out _).rs (lits_new w1 [[111, 112, 101, 110], w_semi] 9) (by omega) (by simp) (by decide) HL.out).mono ?_
  rintro e w3 ⟨B3, h3⟩
  have hs3 := B3.size
  cases hx : takesR [[111, 112, 101, 110], w_semi] r with
  | bad r' =>
    rw [hx] at h3
    obtain ⟨rfl, S3⟩ := h3
    have R3 := hide ((R2.out _).but hgw B3 S3)
    have HX := hide hx
    clear hx B3 S3 R1 R2
    go_wp2_with fail
    exact ⟨rfl, OutG.isBad HX.out R3.out.bt R3.out.rs⟩
  | ok l r' =>
    rw [hx] at h3
    obtain ⟨y, a1, c1, a2, c2, rfl, N3, hy, S3⟩ := h3
    have R3 := hide ((R2.out _).but hgw B3 S3)
    have HO := hide (fun hm => R3.out.out (Sh := fun y l => y = (l, .nil)) (c1 := c1) (c2 := c2) hgw hx N3 hm (by simp; omega) hy)
    have x0 := R3.out.nb.c0
    have x1 := R3.out.nb.c1
    have y0 := R3.out.nb.f0
    have y1 := R3.out.nb.f1
    have hml3 := R3.out.nb.lt
    have NF := hide (R3.out.nb.put (.slice a1 y.1.length c1) (.slice a2 y.2.len c2))
    unfold putN at NF HO
    clear hx B3 S3 R1 R2 N3 hy R3
    go_wp2_with fail
    refine bodyPost_ret (v := .agg #[.slice a1 y.1.length c1, .slice a2 y.2.len c2]) ?_ rfl ?_
    · exact resReadAttr NF.out rfl
    · exact HO.out (by simp; omega)

set_option maxHeartbeats 2000000 in
set_option maxRecDepth 100000 in
theorem attr_credentials (g : Nat) (ao : Option Addr) (cap : Nat) (ts r : List Tk) (n : Nat) (w : World) (h : RS w g ao cap ts r n) (hl : ts.length < 4294967281) (hw : wordR r = [99, 114, 101, 100, 101, 110, 116, 105, 97, 108, 115]) :
    Calls Try.prog 86 #[.pointer (some ⟨g, 0, none⟩)] w fun e w' => OutG (fun y l => y = (l, .nil)) (takesR [[99, 114, 101, 100, 101, 110, 116, 105, 97, 108, 115], w_semi] r) g ao cap ts n w e w' := by
  have HW : Hid (∀ W, RS W g ao cap ts r n → Calls Try.prog 72 #[.pointer (some ⟨g, 0, none⟩)] W fun e w' => e = .returned (.string ⟨([99, 114, 101, 100, 101, 110, 116, 105, 97, 108, 115] : List UInt8).toArray⟩) ∧ Below W.heap.size W w') := fun W a => by
    have := word_any g ao cap ts r n W a; rwa [hw] at this
  have hgw := h.lt
  have R0 := hide (RN.new h (.slice none 0 0) (.slice none 0 0) 51)
  have HL := hide hl
  clear h hw hl
  go_enter Try.func86, Try.ntmps86
  go_upto_region 1 with fail
  obtain ⟨W0, hW0⟩ : ∃ x, x = w.alloc (Obj.cells #[.slice none 0 0, .slice none 0 0] 51) := ⟨_, rfl⟩
  rw [← hW0] at R0 ⊢
  clear hW0
  go_wp2_with fail
  refine (HW.out _ R0.out.rs).mono ?_
  rintro e w1 ⟨rfl, b1⟩
  have R1 := hide (R0.out.below b1)
  clear b1 R0 HW
  have hml := R1.out.nb.lt
  have hsw := R1.out.bt.size
  go_wp2_with fail
  have R2 := hide (fun o => R1.out.alloc o)
  refine (leaf_any [[99, 114, 101, 100, 101, 110, 116, 105, 97, 108, 115], w_semi] w1.heap.size g ao cap ts r n _ (R2.out _).rs (lits_new w1 [[99, 114, 101, 100, 101, 110, 116, 105, 97, 108, 115], w_semi] 9) (by omega) (by simp) (by decide) HL.out).mono ?_
  rintro e w3 ⟨B3, h3⟩
  have hs3 := B3.size
  cases hx : takesR [[99, 114, 101, 100, 101, 110, 116, 105, 97, 108, 115], w_semi] r with
  | bad r' =>
    rw [hx] at h3
    obtain ⟨rfl, S3⟩ := h3
    have R3 := hide ((R2.out _).but hgw B3 S3)
    have HX := hide hx
    clear hx B3 S3 R1 R2
    go_wp2_with fail
    exact ⟨rfl, OutG.isBad HX.out R3.out.bt R3.out.rs⟩
  | ok l r' =>
    rw [hx] at h3
    obtain ⟨y, a1, c1, a2, c2, rfl, N3, hy, S3⟩ := h3
    have R3 := hide ((R2.out _).but hgw B3 S3)
    have HO := hide (fun hm => R3.out.out (Sh := fun y l => y = (l, .nil)) (c1 := c1) (c2 := c2) hgw hx N3 hm (by simp; omega) hy)
    have x0 := R3.out.nb.c0
    have x1 := R3.out.nb.c1
    have y0 := R3.out.nb.f0
    have y1 := R3.out.nb.f1
    have hml3 := R3.out.nb.lt
    have NF := hide (R3.out.nb.put (.slice a1 y.1.length c1) (.slice a2 y.2.len c2))
    unfold putN at NF HO
    clear hx B3 S3 R1 R2 N3 hy R3
    go_wp2_with fail
    refine bodyPost_ret (v := .agg #[.slice a1 y.1.length c1, .slice a2 y.2.len c2]) ?_ rfl ?_
    · exact resReadAttr NF.out rfl
    · exact HO.out (by simp; omega)

set_option maxHeartbeats 2000000 in
set_option maxRecDepth 100000 in
theorem attr_script (g : Nat) (ao : Option Addr) (cap : Nat) (ts r : List Tk) (n : Nat) (w : World) (h : RS w g ao cap ts r n) (hl : ts.length < 4294967281) (hw : wordR r = [115, 99, 114, 105, 112, 116]) :
    Calls Try.prog 86 #[.pointer (some ⟨g, 0, none⟩)] w fun e w' => OutG (fun y l => y = (l, .nil)) (takesR [[115, 99, 114, 105, 112, 116], w_NAME, w_semi] r) g ao cap ts n w e w' := by
  have HW : Hid (∀ W, RS W g ao cap ts r n → Calls Try.prog 72 #[.pointer (some ⟨g, 0, none⟩)] W fun e w' => e = .returned (.string ⟨([115, 99, 114, 105, 112, 116] : List UInt8).toArray⟩) ∧ Below W.heap.size W w') := fun W a => by
    have := word_any g ao cap ts r n W a; rwa [hw] at this
  have hgw := h.lt
  have R0 := hide (RN.new h (.slice none 0 0) (.slice none 0 0) 51)
  have HL := hide hl
  clear h hw hl
  go_enter Try.func86, Try.ntmps86
  go_upto_region 1 with fail
  obtain ⟨W0, hW0⟩ : ∃ x, x = w.alloc (Obj.cells #[.slice none 0 0, .slice none 0 0] 51) := ⟨_, rfl⟩
  rw [← hW0] at R0 ⊢
  clear hW0
  go_wp2_with fail
  refine (HW.out _ R0.out.rs).mono ?_
  rintro e w1 ⟨rfl, b1⟩
  have R1 := hide (R0.out.below b1)
  clear b1 R0 HW
  have hml := R1.out.nb.lt
  have hsw := R1.out.bt.size
  go_wp2_with fail
  have R2 := hide (fun o => R1.out.alloc o)
  refine (leaf_any [[115, 99, 114, 105, 112, 116], w_NAME, w_semi] w1.heap.size g ao cap ts r n _ (R2.out _).rs (lits_new w1 [[115, 99, 114, 105, 112, 116], w_NAME, w_semi] 9) (by omega) (by simp) (by decide) HL.out).mono ?_
  rintro e w3 ⟨B3, h3⟩
  have hs3 := B3.size
  cases hx : takesR [[115, 99, 114, 105, 112, 116], w_NAME, w_semi] r with
  | bad r' =>
    rw [hx] at h3
    obtain ⟨rfl, S3⟩ := h3
    have R3 := hide ((R2.out _).but hgw B3 S3)
    have HX := hide hx
    clear hx B3 S3 R1 R2
    go_wp2_with fail
    exact ⟨rfl, OutG.isBad HX.out R3.out.bt R3.out.rs⟩
  | ok l r' =>
    rw [hx] at h3
    obtain ⟨y, a1, c1, a2, c2, rfl, N3, hy, S3⟩ := h3
    have R3 := hide ((R2.out _).but hgw B3 S3)
    have HO := hide (fun hm => R3.out.out (Sh := fun y l => y = (l, .nil)) (c1 := c1) (c2 := c2) hgw hx N3 hm (by simp; omega) hy)
    have x0 := R3.out.nb.c0
    have x1 := R3.out.nb.c1
    have y0 := R3.out.nb.f0
    have y1 := R3.out.nb.f1
    have hml3 := R3.out.nb.lt
    have NF := hide (R3.out.nb.put (.slice a1 y.1.length c1) (.slice a2 y.2.len c2))
    unfold putN at NF HO
    clear hx B3 S3 R1 R2 N3 hy R3
    go_wp2_with fail
    refine bodyPost_ret (v := .agg #[.slice a1 y.1.length c1, .slice a2 y.2.len c2]) ?_ rfl ?_
    · exact resReadAttr NF.out rfl
    · exact HO.out (by simp; omega)

set_option maxHeartbeats 2000000 in
set_option maxRecDepth 100000 in
theorem attr_needs (g : Nat) (ao : Option Addr) (cap : Nat) (ts r : List Tk) (n : Nat) (w : World) (h : RS w g ao cap ts r n) (hl : ts.length < 4294967281) (hw : wordR r = [110, 101, 101, 100, 115]) :
    Calls Try.prog 86 #[.pointer (some ⟨g, 0, none⟩)] w fun e w' => OutG (fun y l => y = (l, .nil)) (takesR [[110, 101, 101, 100, 115], w_NAME, w_semi] r) g ao cap ts n w e w' := by
  have HW : Hid (∀ W, RS W g ao cap ts r n → Calls Try.prog 72 #[.pointer (some ⟨g, 0, none⟩)] W fun e w' => e = .returned (.string ⟨([110, 101, 101, 100, 115] : List UInt8).toArray⟩) ∧ Below W.heap.size W w') := fun W a => by
    have := word_any g ao cap ts r n W a; rwa [hw] at this
  have hgw := h.lt
  have R0 := hide (RN.new h (.slice none 0 0) (.slice none 0 0) 51)
  have HL := hide hl
  clear h hw hl
  go_enter Try.func86, Try.ntmps86
  go_upto_region 1 with fail
  obtain ⟨W0, hW0⟩ : ∃ x, x = w.alloc (Obj.cells #[.slice none 0 0, .slice none 0 0] 51) := ⟨_, rfl⟩
  rw [← hW0] at R0 ⊢
  clear hW0
  go_wp2_with fail
  refine (HW.out _ R0.out.rs).mono ?_
  rintro e w1 ⟨rfl, b1⟩
  have R1 := hide (R0.out.below b1)
  clear b1 R0 HW
  have hml := R1.out.nb.lt
  have hsw := R1.out.bt.size
  go_wp2_with fail
  have R2 := hide (fun o => R1.out.alloc o)
  refine (leaf_any [[110, 101, 101, 100, 115], w_NAME, w_semi] w1.heap.size g ao cap ts r n _ (R2.out _).rs (lits_new w1 [[110, 101, 101, 100, 115], w_NAME, w_semi] 9) (by omega) (by simp) (by decide) HL.out).mono ?_
  rintro e w3 ⟨B3, h3⟩
  have hs3 := B3.size
  cases hx : takesR [[110, 101, 101, 100, 115], w_NAME, w_semi] r with
  | bad r' =>
    rw [hx] at h3
    obtain ⟨rfl, S3⟩ := h3
    have R3 := hide ((R2.out _).but hgw B3 S3)
    have HX := hide hx
    clear hx B3 S3 R1 R2
    go_wp2_with fail
    exact ⟨rfl, OutG.isBad HX.out R3.out.bt R3.out.rs⟩
  | ok l r' =>
    rw [hx] at h3
    obtain ⟨y, a1, c1, a2, c2, rfl, N3, hy, S3⟩ := h3
    have R3 := hide ((R2.out _).but hgw B3 S3)
    have HO := hide (fun hm => R3.out.out (Sh := fun y l => y = (l, .nil)) (c1 := c1) (c2 := c2) hgw hx N3 hm (by simp; omega) hy)
    have x0 := R3.out.nb.c0
    have x1 := R3.out.nb.c1
    have y0 := R3.out.nb.f0
    have y1 := R3.out.nb.f1
    have hml3 := R3.out.nb.lt
    have NF := hide (R3.out.nb.put (.slice a1 y.1.length c1) (.slice a2 y.2.len c2))
    unfold putN at NF HO
    clear hx B3 S3 R1 R2 N3 hy R3
    go_wp2_with fail
    refine bodyPost_ret (v := .agg #[.slice a1 y.1.length c1, .slice a2 y.2.len c2]) ?_ rfl ?_
    · exact resReadAttr NF.out rfl
    · exact HO.out (by simp; omega)

set_option maxHeartbeats 2000000 in
set_option maxRecDepth 100000 in
theorem attr_sets (g : Nat) (ao : Option Addr) (cap : Nat) (ts r : List Tk) (n : Nat) (w : World) (h : RS w g ao cap ts r n) (hl : ts.length < 4294967281) (hw : wordR r = [115, 101, 116, 115]) :
    Calls Try.prog 86 #[.pointer (some ⟨g, 0, none⟩)] w fun e w' => OutG (fun y l => y = (l, .nil)) (takesR [[115, 101, 116, 115], w_NAME, w_semi] r) g ao cap ts n w e w' := by
  have HW : Hid (∀ W, RS W g ao cap ts r n → Calls Try.prog 72 #[.pointer (some ⟨g, 0, none⟩)] W fun e w' => e = .returned (.string ⟨([115, 101, 116, 115] : List UInt8).toArray⟩) ∧ Below W.heap.size W w') := fun W a => by
    have := word_any g ao cap ts r n W a; rwa [hw] at this
  have hgw := h.lt
  have R0 := hide (RN.new h (.slice none 0 0) (.slice none 0 0) 51)
  have HL := hide hl
  clear h hw hl
  go_enter Try.func86, Try.ntmps86
  go_upto_region 1 with fail
  obtain ⟨W0, hW0⟩ : ∃ x, x = w.alloc (Obj.cells #[.slice none 0 0, .slice none 0 0] 51) := ⟨_, rfl⟩
  rw [← hW0] at R0 ⊢
  clear hW0
  go_wp2_with fail
  refine (HW.out _ R0.out.rs).mono ?_
  rintro e w1 ⟨rfl, b1⟩
  have R1 := hide (R0.out.below b1)
  clear b1 R0 HW
  have hml := R1.out.nb.lt
  have hsw := R1.out.bt.size
  go_wp2_with fail
  have R2 := hide (fun o => R1.out.alloc o)
  refine (leaf_any [[115, 101, 116, 115], w_NAME, w_semi] w1.heap.size g ao cap ts r n _ (R2.out _).rs (lits_new w1 [[115, 101, 116, 115], w_NAME, w_semi] 9) (by omega) (by simp) (by decide) HL.out).mono ?_
  rintro e w3 ⟨B3, h3⟩
  have hs3 := B3.size
  cases hx : takesR [[115, 101, 116, 115], w_NAME, w_semi] r with
  | bad r' =>
    rw [hx] at h3
    obtain ⟨rfl, S3⟩ := h3
    have R3 := hide ((R2.out _).but hgw B3 S3)
    have HX := hide hx
    clear hx B3 S3 R1 R2
    go_wp2_with fail
    exact ⟨rfl, OutG.isBad HX.out R3.out.bt R3.out.rs⟩
  | ok l r' =>
    rw [hx] at h3
    obtain ⟨y, a1, c1, a2, c2, rfl, N3, hy, S3⟩ := h3
    have R3 := hide ((R2.out _).but hgw B3 S3)
    have HO := hide (fun hm => R3.out.out (Sh := fun y l => y = (l, .nil)) (c1 := c1) (c2 := c2) hgw hx N3 hm (by simp; omega) hy)
    have x0 := R3.out.nb.c0
    have x1 := R3.out.nb.c1
    have y0 := R3.out.nb.f0
    have y1 := R3.out.nb.f1
    have hml3 := R3.out.nb.lt
    have NF := hide (R3.out.nb.put (.slice a1 y.1.length c1) (.slice a2 y.2.len c2))
    unfold putN at NF HO
    clear hx B3 S3 R1 R2 N3 hy R3
    go_wp2_with fail
    refine bodyPost_ret (v := .agg #[.slice a1 y.1.length c1, .slice a2 y.2.len c2]) ?_ rfl ?_
    · exact resReadAttr NF.out rfl
    · exact HO.out (by simp; omega)

set_option maxHeartbeats 2000000 in
set_option maxRecDepth 100000 in
theorem attr_gives (g : Nat) (ao : Option Addr) (cap : Nat) (ts r : List Tk) (n : Nat) (w : World) (h : RS w g ao cap ts r n) (hl : ts.length < 4294967281) (hw : wordR r = [103, 105, 118, 101, 115]) :
    Calls Try.prog 86 #[.pointer (some ⟨g, 0, none⟩)] w fun e w' => OutG (fun y l => y = (l, .nil)) (takesR [[103, 105, 118, 101, 115], w_NAME, w_semi] r) g ao cap ts n w e w' := by
  have HW : Hid (∀ W, RS W g ao cap ts r n → Calls Try.prog 72 #[.pointer (some ⟨g, 0, none⟩)] W fun e w' => e = .returned (.string ⟨([103, 105, 118, 101, 115] : List UInt8).toArray⟩) ∧ Below W.heap.size W w') := fun W a => by
    have := word_any g ao cap ts r n W a; rwa [hw] at this
  have hgw := h.lt
  have R0 := hide (RN.new h (.slice none 0 0) (.slice none 0 0) 51)
  have HL := hide hl
  clear h hw hl
  go_enter Try.func86, Try.ntmps86
  go_upto_region 1 with fail
  obtain ⟨W0, hW0⟩ : ∃ x, x = w.alloc (Obj.cells #[.slice none 0 0, .slice none 0 0] 51) := ⟨_, rfl⟩
  rw [← hW0] at R0 ⊢
  clear hW0
  go_wp2_with fail
  refine (HW.out _ R0.out.rs).mono ?_
  rintro e w1 ⟨rfl, b1⟩
  have R1 := hide (R0.out.below b1)
  clear b1 R0 HW
  have hml := R1.out.nb.lt
  have hsw := R1.out.bt.size
  go_wp2_with fail
  have R2 := hide (fun o => R1.out.alloc o)
  refine (leaf_any [[103, 105, 118, 101, 115], w_NAME, w_semi] w1.heap.size g ao cap ts r n _ (R2.out _).rs (lits_new w1 [[103, 105, 118, 101, 115], w_NAME, w_semi] 9) (by omega) (by simp) (by decide) HL.out).mono ?_
  rintro e w3 ⟨B3, h3⟩
  have hs3 := B3.size
  cases hx : takesR [[103, 105, 118, 101, 115], w_NAME, w_semi] r with
  | bad r' =>
    rw [hx] at h3
    obtain ⟨rfl, S3⟩ := h3
    have R3 := hide ((R2.out _).but hgw B3 S3)
    have HX := hide hx
    clear hx B3 S3 R1 R2
    go_wp2_with fail
    exact ⟨rfl, OutG.isBad HX.out R3.out.bt R3.out.rs⟩
  | ok l r' =>
    rw [hx] at h3
    obtain ⟨y, a1, c1, a2, c2, rfl, N3, hy, S3⟩ := h3
    have R3 := hide ((R2.out _).but hgw B3 S3)
    have HO := hide (fun hm => R3.out.out (Sh := fun y l => y = (l, .nil)) (c1 := c1) (c2 := c2) hgw hx N3 hm (by simp; omega) hy)
    have x0 := R3.out.nb.c0
    have x1 := R3.out.nb.c1
    have y0 := R3.out.nb.f0
    have y1 := R3.out.nb.f1
    have hml3 := R3.out.nb.lt
    have NF := hide (R3.out.nb.put (.slice a1 y.1.length c1) (.slice a2 y.2.len c2))
    unfold putN at NF HO
    clear hx B3 S3 R1 R2 N3 hy R3
    go_wp2_with fail
    refine bodyPost_ret (v := .agg #[.slice a1 y.1.length c1, .slice a2 y.2.len c2]) ?_ rfl ?_
    · exact resReadAttr NF.out rfl
    · exact HO.out (by simp; omega)

set_option maxHeartbeats 2000000 in
set_option maxRecDepth 100000 in
theorem attr_redirect (g : Nat) (ao : Option Addr) (cap : Nat) (ts r : List Tk) (n : Nat) (w : World) (h : RS w g ao cap ts r n) (hl : ts.length < 4294967281) (hw : wordR r = [114, 101, 100, 105, 114, 101, 99, 116]) :
    Calls Try.prog 86 #[.pointer (some ⟨g, 0, none⟩)] w fun e w' => OutG (fun y l => y = (l, .nil)) (takesR [[114, 101, 100, 105, 114, 101, 99, 116], w_NAME, w_semi] r) g ao cap ts n w e w' := by
  have HW : Hid (∀ W, RS W g ao cap ts r n → Calls Try.prog 72 #[.pointer (some ⟨g, 0, none⟩)] W fun e w' => e = .returned (.string ⟨([114, 101, 100, 105, 114, 101, 99, 116] : List UInt8).toArray⟩) ∧ Below W.heap.size W w') := fun W a => by
    have := word_any g ao cap ts r n W a; rwa [hw] at this
  have hgw := h.lt
  have R0 := hide (RN.new h (.slice none 0 0) (.slice none 0 0) 51)
  have HL := hide hl
  clear h hw hl
  go_enter Try.func86, Try.ntmps86
  go_upto_region 1 with fail
  obtain ⟨W0, hW0⟩ : ∃ x, x = w.alloc (Obj.cells #[.slice none 0 0, .slice none 0 0] 51) := ⟨_, rfl⟩
  rw [← hW0] at R0 ⊢
  clear hW0
  go_wp2_with fail
  refine (HW.out _ R0.out.rs).mono ?_
  rintro e w1 ⟨rfl, b1⟩
  have R1 := hide (R0.out.below b1)
  clear b1 R0 HW
  have hml := R1.out.nb.lt
  have hsw := R1.out.bt.size
  go_wp2_with fail
  have R2 := hide (fun o => R1.out.alloc o)
  refine (leaf_any [[114, 101, 100, 105, 114, 101, 99, 116], w_NAME, w_semi] w1.heap.size g ao cap ts r n _ (R2.out _).rs (lits_new w1 [[114, 101, 100, 105, 114, 101, 99, 116], w_NAME, w_semi] 9) (by omega) (by simp) (by decide) HL.out).mono ?_
  rintro e w3 ⟨B3, h3⟩
  have hs3 := B3.size
  cases hx : takesR [[114, 101, 100, 105, 114, 101, 99, 116], w_NAME, w_semi] r with
  | bad r' =>
    rw [hx] at h3
    obtain ⟨rfl, S3⟩ := h3
    have R3 := hide ((R2.out _).but hgw B3 S3)
    have HX := hide hx
    clear hx B3 S3 R1 R2
    go_wp2_with fail
    exact ⟨rfl, OutG.isBad HX.out R3.out.bt R3.out.rs⟩
  | ok l r' =>
    rw [hx] at h3
    obtain ⟨y, a1, c1, a2, c2, rfl, N3, hy, S3⟩ := h3
    have R3 := hide ((R2.out _).but hgw B3 S3)
    have HO := hide (fun hm => R3.out.out (Sh := fun y l => y = (l, .nil)) (c1 := c1) (c2 := c2) hgw hx N3 hm (by simp; omega) hy)
    have x0 := R3.out.nb.c0
    have x1 := R3.out.nb.c1
    have y0 := R3.out.nb.f0
    have y1 := R3.out.nb.f1
    have hml3 := R3.out.nb.lt
    have NF := hide (R3.out.nb.put (.slice a1 y.1.length c1) (.slice a2 y.2.len c2))
    unfold putN at NF HO
    clear hx B3 S3 R1 R2 N3 hy R3
    go_wp2_with fail
    refine bodyPost_ret (v := .agg #[.slice a1 y.1.length c1, .slice a2 y.2.len c2]) ?_ rfl ?_
    · exact resReadAttr NF.out rfl
    · exact HO.out (by simp; omega)

set_option maxHeartbeats 2000000 in
set_option maxRecDepth 100000 in
theorem attr_cors (g : Nat) (ao : Option Addr) (cap : Nat) (ts r : List Tk) (n : Nat) (w : World) (h : RS w g ao cap ts r n) (hl : ts.length < 4294967281) (hw : wordR r = [99, 111, 114, 115]) :
    Calls Try.prog 86 #[.pointer (some ⟨g, 0, none⟩)] w fun e w' => OutG (fun y l => y = (l, .nil)) (takesR [w_cors, w_orNAME, w_semi] r) g ao cap ts n w e w' := by
  have HW : Hid (∀ W, RS W g ao cap ts r n → Calls Try.prog 72 #[.pointer (some ⟨g, 0, none⟩)] W fun e w' => e = .returned (.string ⟨([99, 111, 114, 115] : List UInt8).toArray⟩) ∧ Below W.heap.size W w') := fun W a => by
    have := word_any g ao cap ts r n W a; rwa [hw] at this
  have hgw := h.lt
  have R0 := hide (RN.new h (.slice none 0 0) (.slice none 0 0) 51)
  have HL := hide hl
  clear h hw hl
  go_enter Try.func86, Try.ntmps86
  go_upto_region 1 with fail
  obtain ⟨W0, hW0⟩ : ∃ x, x = w.alloc (Obj.cells #[.slice none 0 0, .slice none 0 0] 51) := ⟨_, rfl⟩
  rw [← hW0] at R0 ⊢
  clear hW0
  go_wp2_with fail
  refine (HW.out _ R0.out.rs).mono ?_
  rintro e w1 ⟨rfl, b1⟩
  have R1 := hide (R0.out.below b1)
  clear b1 R0 HW
  have hml := R1.out.nb.lt
  have hsw := R1.out.bt.size
  go_wp2_with fail
  have R2 := hide (fun o => R1.out.alloc o)
  refine (leaf_any [w_cors, w_orNAME, w_semi] w1.heap.size g ao cap ts r n _ (R2.out _).rs (lits_new w1 [w_cors, w_orNAME, w_semi] 9) (by omega) (by simp) (by decide) HL.out).mono ?_
  rintro e w3 ⟨B3, h3⟩
  have hs3 := B3.size
  cases hx : takesR [w_cors, w_orNAME, w_semi] r with
  | bad r' =>
    rw [hx] at h3
    obtain ⟨rfl, S3⟩ := h3
    have R3 := hide ((R2.out _).but hgw B3 S3)
    have HX := hide hx
    clear hx B3 S3 R1 R2
    go_wp2_with fail
    exact ⟨rfl, OutG.isBad HX.out R3.out.bt R3.out.rs⟩
  | ok l r' =>
    rw [hx] at h3
    obtain ⟨y, a1, c1, a2, c2, rfl, N3, hy, S3⟩ := h3
    have R3 := hide ((R2.out _).but hgw B3 S3)
    have HO := hide (fun hm => R3.out.out (Sh := fun y l => y = (l, .nil)) (c1 := c1) (c2 := c2) hgw hx N3 hm (by simp; omega) hy)
    have x0 := R3.out.nb.c0
    have x1 := R3.out.nb.c1
    have y0 := R3.out.nb.f0
    have y1 := R3.out.nb.f1
    have hml3 := R3.out.nb.lt
    have NF := hide (R3.out.nb.put (.slice a1 y.1.length c1) (.slice a2 y.2.len c2))
    unfold putN at NF HO
    clear hx B3 S3 R1 R2 N3 hy R3
    go_wp2_with fail
    refine bodyPost_ret (v := .agg #[.slice a1 y.1.length c1, .slice a2 y.2.len c2]) ?_ rfl ?_
    · exact resReadAttr NF.out rfl
    · exact HO.out (by simp; omega)

set_option maxHeartbeats 2000000 in
set_option maxRecDepth 100000 in
theorem attr_header (g : Nat) (ao : Option Addr) (cap : Nat) (ts r : List Tk) (n : Nat) (w : World) (h : RS w g ao cap ts r n) (hl : ts.length < 4294967281) (hw : wordR r = [104, 101, 97, 100, 101, 114]) :
    Calls Try.prog 86 #[.pointer (some ⟨g, 0, none⟩)] w fun e w' => OutG (fun y l => y = (l, .nil)) (takesR [[104, 101, 97, 100, 101, 114], w_TEXT, w_semi] r) g ao cap ts n w e w' := by
  have HW : Hid (∀ W, RS W g ao cap ts r n → Calls Try.prog 72 #[.pointer (some ⟨g, 0, none⟩)] W fun e w' => e = .returned (.string ⟨([104, 101, 97, 100, 101, 114] : List UInt8).toArray⟩) ∧ Below W.heap.size W w') := fun W a => by
    have := word_any g ao cap ts r n W a; rwa [hw] at this
  have hgw := h.lt
  have R0 := hide (RN.new h (.slice none 0 0) (.slice none 0 0) 51)
  have HL := hide hl
  clear h hw hl
  go_enter Try.func86, Try.ntmps86
  go_upto_region 1 with fail
  obtain ⟨W0, hW0⟩ : ∃ x, x = w.alloc (Obj.cells #[.slice none 0 0, .slice none 0 0] 51) := ⟨_, rfl⟩
  rw [← hW0] at R0 ⊢
  clear hW0
  go_wp2_with fail
  refine (HW.out _ R0.out.rs).mono ?_
  rintro e w1 ⟨rfl, b1⟩
  have R1 := hide (R0.out.below b1)
  clear b1 R0 HW
  have hml := R1.out.nb.lt
  have hsw := R1.out.bt.size
  go_wp2_with fail
  have R2 := hide (fun o => R1.out.alloc o)
  refine (leaf_any [[104, 101, 97, 100, 101, 114], w_TEXT, w_semi] w1.heap.size g ao cap ts r n _ (R2.out _).rs (lits_new w1 [[104, 101, 97, 100, 101, 114], w_TEXT, w_semi] 9) (by omega) (by simp) (by decide) HL.out).mono ?_
  rintro e w3 ⟨B3, h3⟩
  have hs3 := B3.size
  cases hx : takesR [[104, 101, 97, 100, 101, 114], w_TEXT, w_semi] r with
  | bad r' =>
    rw [hx] at h3
    obtain ⟨rfl, S3⟩ := h3
    have R3 := hide ((R2.out _).but hgw B3 S3)
    have HX := hide hx
    clear hx B3 S3 R1 R2
    go_wp2_with fail
    exact ⟨rfl, OutG.isBad HX.out R3.out.bt R3.out.rs⟩
  | ok l r' =>
    rw [hx] at h3
    obtain ⟨y, a1, c1, a2, c2, rfl, N3, hy, S3⟩ := h3
    have R3 := hide ((R2.out _).but hgw B3 S3)
    have HO := hide (fun hm => R3.out.out (Sh := fun y l => y = (l, .nil)) (c1 := c1) (c2 := c2) hgw hx N3 hm (by simp; omega) hy)
    have x0 := R3.out.nb.c0
    have x1 := R3.out.nb.c1
    have y0 := R3.out.nb.f0
    have y1 := R3.out.nb.f1
    have hml3 := R3.out.nb.lt
    have NF := hide (R3.out.nb.put (.slice a1 y.1.length c1) (.slice a2 y.2.len c2))
    unfold putN at NF HO
    clear hx B3 S3 R1 R2 N3 hy R3
    go_wp2_with fail
    refine bodyPost_ret (v := .agg #[.slice a1 y.1.length c1, .slice a2 y.2.len c2]) ?_ rfl ?_
    · exact resReadAttr NF.out rfl
    · exact HO.out (by simp; omega)

set_option maxHeartbeats 2000000 in
set_option maxRecDepth 100000 in
theorem attr_allow (g : Nat) (ao : Option Addr) (cap : Nat) (ts r : List Tk) (n : Nat) (w : World) (h : RS w g ao cap ts r n) (hl : ts.length < 4294967281) (hw : wordR r = [97, 108, 108, 111, 119]) :
    Calls Try.prog 86 #[.pointer (some ⟨g, 0, none⟩)] w fun e w' => OutG (fun y l => y = (l, .nil)) (takesR [[97, 108, 108, 111, 119], w_TEXT, w_semi] r) g ao cap ts n w e w' := by
  have HW : Hid (∀ W, RS W g ao cap ts r n → Calls Try.prog 72 #[.pointer (some ⟨g, 0, none⟩)] W fun e w' => e = .returned (.string ⟨([97, 108, 108, 111, 119] : List UInt8).toArray⟩) ∧ Below W.heap.size W w') := fun W a => by
    have := word_any g ao cap ts r n W a; rwa [hw] at this
  have hgw := h.lt
  have R0 := hide (RN.new h (.slice none 0 0) (.slice none 0 0) 51)
  have HL := hide hl
  clear h hw hl
  go_enter Try.func86, Try.ntmps86
  go_upto_region 1 with fail
  obtain ⟨W0, hW0⟩ : ∃ x, x = w.alloc (Obj.cells #[.slice none 0 0, .slice none 0 0] 51) := ⟨_, rfl⟩
  rw [← hW0] at R0 ⊢
  clear hW0
  go_wp2_with fail
  refine (HW.out _ R0.out.rs).mono ?_
  rintro e w1 ⟨rfl, b1⟩
  have R1 := hide (R0.out.below b1)
  clear b1 R0 HW
  have hml := R1.out.nb.lt
  have hsw := R1.out.bt.size
  go_wp2_with fail
  have R2 := hide (fun o => R1.out.alloc o)
  refine (leaf_any [[97, 108, 108, 111, 119], w_TEXT, w_semi] w1.heap.size g ao cap ts r n _ (R2.out _).rs (lits_new w1 [[97, 108, 108, 111, 119], w_TEXT, w_semi] 9) (by omega) (by simp) (by decide) HL.out).mono ?_
  rintro e w3 ⟨B3, h3⟩
  have hs3 := B3.size
  cases hx : takesR [[97, 108, 108, 111, 119], w_TEXT, w_semi] r with
  | bad r' =>
    rw [hx] at h3
    obtain ⟨rfl, S3⟩ := h3
    have R3 := hide ((R2.out _).but hgw B3 S3)
    have HX := hide hx
    clear hx B3 S3 R1 R2
    go_wp2_with fail
    exact ⟨rfl, OutG.isBad HX.out R3.out.bt R3.out.rs⟩
  | ok l r' =>
    rw [hx] at h3
    obtain ⟨y, a1, c1, a2, c2, rfl, N3, hy, S3⟩ := h3
    have R3 := hide ((R2.out _).but hgw B3 S3)
    have HO := hide (fun hm => R3.out.out (Sh := fun y l => y = (l, .nil)) (c1 := c1) (c2 := c2) hgw hx N3 hm (by simp; omega) hy)
    have x0 := R3.out.nb.c0
    have x1 := R3.out.nb.c1
    have y0 := R3.out.nb.f0
    have y1 := R3.out.nb.f1
    have hml3 := R3.out.nb.lt
    have NF := hide (R3.out.nb.put (.slice a1 y.1.length c1) (.slice a2 y.2.len c2))
    unfold putN at NF HO
    clear hx B3 S3 R1 R2 N3 hy R3
    go_wp2_with fail
    refine bodyPost_ret (v := .agg #[.slice a1 y.1.length c1, .slice a2 y.2.len c2]) ?_ rfl ?_
    · exact resReadAttr NF.out rfl
    · exact HO.out (by simp; omega)

set_option maxHeartbeats 2000000 in
set_option maxRecDepth 100000 in
theorem attr_methods (g : Nat) (ao : Option Addr) (cap : Nat) (ts r : List Tk) (n : Nat) (w : World) (h : RS w g ao cap ts r n) (hl : ts.length < 4294967281) (hw : wordR r = [109, 101, 116, 104, 111, 100, 115]) :
    Calls Try.prog 86 #[.pointer (some ⟨g, 0, none⟩)] w fun e w' => OutG (fun y l => y = (l, .nil)) (takesR [[109, 101, 116, 104, 111, 100, 115], w_TEXT, w_semi] r) g ao cap ts n w e w' := by
  have HW : Hid (∀ W, RS W g ao cap ts r n → Calls Try.prog 72 #[.pointer (some ⟨g, 0, none⟩)] W fun e w' => e = .returned (.string ⟨([109, 101, 116, 104, 111, 100, 115] : List UInt8).toArray⟩) ∧ Below W.heap.size W w') := fun W a => by
    have := word_any g ao cap ts r n W a; rwa [hw] at this
  have hgw := h.lt
  have R0 := hide (RN.new h (.slice none 0 0) (.slice none 0 0) 51)
  have HL := hide hl
  clear h hw hl
  go_enter Try.func86, Try.ntmps86
  go_upto_region 1 with fail
  obtain ⟨W0, hW0⟩ : ∃ x, x = w.alloc (Obj.cells #[.slice none 0 0, .slice none 0 0] 51) := ⟨_, rfl⟩
  rw [← hW0] at R0 ⊢
  clear hW0
  go_wp2_with fail
  refine (HW.out _ R0.out.rs).mono ?_
  rintro e w1 ⟨rfl, b1⟩
  have R1 := hide (R0.out.below b1)
  clear b1 R0 HW
  have hml := R1.out.nb.lt
  have hsw := R1.out.bt.size
  go_wp2_with fail
  have R2 := hide (fun o => R1.out.alloc o)
  refine (leaf_any [[109, 101, 116, 104, 111, 100, 115], w_TEXT, w_semi] w1.heap.size g ao cap ts r n _ (R2.out _).rs (lits_new w1 [[109, 101, 116, 104, 111, 100, 115], w_TEXT, w_semi] 9) (by omega) (by simp) (by decide) HL.out).mono ?_
  rintro e w3 ⟨B3, h3⟩
  have hs3 := B3.size
  cases hx : takesR [[109, 101, 116, 104, 111, 100, 115], w_TEXT, w_semi] r with
  | bad r' =>
    rw [hx] at h3
    obtain ⟨rfl, S3⟩ := h3
    have R3 := hide ((R2.out _).but hgw B3 S3)
    have HX := hide hx
    clear hx B3 S3 R1 R2
    go_wp2_with fail
    exact ⟨rfl, OutG.isBad HX.out R3.out.bt R3.out.rs⟩
  | ok l r' =>
    rw [hx] at h3
    obtain ⟨y, a1, c1, a2, c2, rfl, N3, hy, S3⟩ := h3
    have R3 := hide ((R2.out _).but hgw B3 S3)
    have HO := hide (fun hm => R3.out.out (Sh := fun y l => y = (l, .nil)) (c1 := c1) (c2 := c2) hgw hx N3 hm (by simp; omega) hy)
    have x0 := R3.out.nb.c0
    have x1 := R3.out.nb.c1
    have y0 := R3.out.nb.f0
    have y1 := R3.out.nb.f1
    have hml3 := R3.out.nb.lt
    have NF := hide (R3.out.nb.put (.slice a1 y.1.length c1) (.slice a2 y.2.len c2))
    unfold putN at NF HO
    clear hx B3 S3 R1 R2 N3 hy R3
    go_wp2_with fail
    refine bodyPost_ret (v := .agg #[.slice a1 y.1.length c1, .slice a2 y.2.len c2]) ?_ rfl ?_
    · exact resReadAttr NF.out rfl
    · exact HO.out (by simp; omega)

set_option maxHeartbeats 2000000 in
set_option maxRecDepth 100000 in
theorem attr_csp (g : Nat) (ao : Option Addr) (cap : Nat) (ts r : List Tk) (n : Nat) (w : World) (h : RS w g ao cap ts r n) (hl : ts.length < 4294967281) (hw : wordR r = [99, 115, 112]) :
    Calls Try.prog 86 #[.pointer (some ⟨g, 0, none⟩)] w fun e w' => OutG (fun y l => y = (l, .nil)) (takesR [[99, 115, 112], w_TEXT, w_semi] r) g ao cap ts n w e w' := by
  have HW : Hid (∀ W, RS W g ao cap ts r n → Calls Try.prog 72 #[.pointer (some ⟨g, 0, none⟩)] W fun e w' => e = .returned (.string ⟨([99, 115, 112] : List UInt8).toArray⟩) ∧ Below W.heap.size W w') := fun W a => by
    have := word_any g ao cap ts r n W a; rwa [hw] at this
  have hgw := h.lt
  have R0 := hide (RN.new h (.slice none 0 0) (.slice none 0 0) 51)
  have HL := hide hl
  clear h hw hl
  go_enter Try.func86, Try.ntmps86
  go_upto_region 1 with fail
  obtain ⟨W0, hW0⟩ : ∃ x, x = w.alloc (Obj.cells #[.slice none 0 0, .slice none 0 0] 51) := ⟨_, rfl⟩
  rw [← hW0] at R0 ⊢
  clear hW0
  go_wp2_with fail
  refine (HW.out _ R0.out.rs).mono ?_
  rintro e w1 ⟨rfl, b1⟩
  have R1 := hide (R0.out.below b1)
  clear b1 R0 HW
  have hml := R1.out.nb.lt
  have hsw := R1.out.bt.size
  go_wp2_with fail
  have R2 := hide (fun o => R1.out.alloc o)
  refine (leaf_any [[99, 115, 112], w_TEXT, w_semi] w1.heap.size g ao cap ts r n _ (R2.out _).rs (lits_new w1 [[99, 115, 112], w_TEXT, w_semi] 9) (by omega) (by simp) (by decide) HL.out).mono ?_
  rintro e w3 ⟨B3, h3⟩
  have hs3 := B3.size
  cases hx : takesR [[99, 115, 112], w_TEXT, w_semi] r with
  | bad r' =>
    rw [hx] at h3
    obtain ⟨rfl, S3⟩ := h3
    have R3 := hide ((R2.out _).but hgw B3 S3)
    have HX := hide hx
    clear hx B3 S3 R1 R2
    go_wp2_with fail
    exact ⟨rfl, OutG.isBad HX.out R3.out.bt R3.out.rs⟩
  | ok l r' =>
    rw [hx] at h3
    obtain ⟨y, a1, c1, a2, c2, rfl, N3, hy, S3⟩ := h3
    have R3 := hide ((R2.out _).but hgw B3 S3)
    have HO := hide (fun hm => R3.out.out (Sh := fun y l => y = (l, .nil)) (c1 := c1) (c2 := c2) hgw hx N3 hm (by simp; omega) hy)
    have x0 := R3.out.nb.c0
    have x1 := R3.out.nb.c1
    have y0 := R3.out.nb.f0
    have y1 := R3.out.nb.f1
    have hml3 := R3.out.nb.lt
    have NF := hide (R3.out.nb.put (.slice a1 y.1.length c1) (.slice a2 y.2.len c2))
    unfold putN at NF HO
    clear hx B3 S3 R1 R2 N3 hy R3
    go_wp2_with fail
    refine bodyPost_ret (v := .agg #[.slice a1 y.1.length c1, .slice a2 y.2.len c2]) ?_ rfl ?_
    · exact resReadAttr NF.out rfl
    · exact HO.out (by simp; omega)

set_option maxHeartbeats 2000000 in
set_option maxRecDepth 100000 in
theorem attr_other (g : Nat) (ao : Option Addr) (cap : Nat) (ts r : List Tk) (n : Nat) (w : World) (h : RS w g ao cap ts r n) (hn : ∀ x ∈ bare6 ++ named5 ++ [w_cors] ++ texted4, (wordR r == x) = false) :
    Calls Try.prog 86 #[.pointer (some ⟨g, 0, none⟩)] w fun e w' => OutG ShA (.bad r) g ao cap ts n w e w' := by
  have HW := hide (fun W (a : RS W g ao cap ts r n) => word_any g ao cap ts r n W a)
  generalize wordR r = wd at *
  have e0 : (wd == [112, 97, 103, 101]) = false := hn _ (by decide)
  have e1 : (wd == [105, 110, 106, 101, 99, 116]) = false := hn _ (by decide)
  have e2 : (wd == [111, 119, 110]) = false := hn _ (by decide)
  have e3 : (wd == [99, 104, 97, 110, 103, 101, 115]) = false := hn _ (by decide)
  have e4 : (wd == [111, 112, 101, 110]) = false := hn _ (by decide)
  have e5 : (wd == [99, 114, 101, 100, 101, 110, 116, 105, 97, 108, 115]) = false := hn _ (by decide)
  have e6 : (wd == [115, 99, 114, 105, 112, 116]) = false := hn _ (by decide)
  have e7 : (wd == [110, 101, 101, 100, 115]) = false := hn _ (by decide)
  have e8 : (wd == [115, 101, 116, 115]) = false := hn _ (by decide)
  have e9 : (wd == [103, 105, 118, 101, 115]) = false := hn _ (by decide)
  have e10 : (wd == [114, 101, 100, 105, 114, 101, 99, 116]) = false := hn _ (by decide)
  have e11 : (wd == [99, 111, 114, 115]) = false := hn _ (by decide)
  have e12 : (wd == [104, 101, 97, 100, 101, 114]) = false := hn _ (by decide)
  have e13 : (wd == [97, 108, 108, 111, 119]) = false := hn _ (by decide)
  have e14 : (wd == [109, 101, 116, 104, 111, 100, 115]) = false := hn _ (by decide)
  have e15 : (wd == [99, 115, 112]) = false := hn _ (by decide)
  have R0 := hide (RN.new h (.slice none 0 0) (.slice none 0 0) 51)
  clear h hn
  go_enter Try.func86, Try.ntmps86
  go_upto_region 1 with fail
  obtain ⟨W0, hW0⟩ : ∃ x, x = w.alloc (Obj.cells #[.slice none 0 0, .slice none 0 0] 51) := ⟨_, rfl⟩
  rw [← hW0] at R0 ⊢
  clear hW0
  go_wp2_with fail
  refine (HW.out _ R0.out.rs).mono ?_
  rintro e w1 ⟨rfl, b1⟩
  have R1 := hide (R0.out.below b1)
  clear b1 R0 HW
  go_wp2_with fail
  exact ⟨rfl, OutG.isBad rfl R1.out.bt R1.out.rs⟩

theorem RelR.imp {α β : Type} {S S2 : α → β → Prop} {x : Rd α} {y : Rd β} (h : RelR S x y) (hs : ∀ a b, S a b → S2 a b) : RelR S2 x y := by
  cases x with
  | ok a r =>
    cases y with
    | ok b r' => exact ⟨h.1, hs _ _ h.2⟩
    | bad r' => exact h.elim
  | bad r =>
    cases y with
    | ok b r' => exact h.elim
    | bad r' => exact h
theorem not_contains {L : List (List UInt8)} {w : List UInt8} (h : ∀ x ∈ L, (w == x) = false) : L.contains w = false := by
  rw [List.contains_eq_any_beq]
  cases e : L.any fun x => w == x with
  | false => rfl
  | true =>
    rw [List.any_eq_true] at e
    obtain ⟨x, hx, he⟩ := e
    rw [h x hx] at he; cases he
theorem attribute_any (g : Nat) (ao : Option Addr) (cap : Nat) (ts r : List Tk) (n : Nat) (w : World) (h : RS w g ao cap ts r n) (ht : TokOk ts) (hl : ts.length < 4294967281) :
    Calls Try.prog 86 #[.pointer (some ⟨g, 0, none⟩)] w fun e w' => OutG ShA (semiR (attrR r)) g ao cap ts n w e w' := by
  have HT := h.tok ht
  by_cases q_page : wordR r = [112, 97, 103, 101]
  · exact (attr_page g ao cap ts r n w h hl q_page).mono fun e w' o => o.rel (RelR.imp (rel_bare HT q_page (by decide)) fun _ _ hs z hz => by rw [hz]; exact hs)
  by_cases q_inject : wordR r = [105, 110, 106, 101, 99, 116]
  · exact (attr_inject g ao cap ts r n w h hl q_inject).mono fun e w' o => o.rel (RelR.imp (rel_bare HT q_inject (by decide)) fun _ _ hs z hz => by rw [hz]; exact hs)
  by_cases q_own : wordR r = [111, 119, 110]
  · exact (attr_own g ao cap ts r n w h hl q_own).mono fun e w' o => o.rel (RelR.imp (rel_bare HT q_own (by decide)) fun _ _ hs z hz => by rw [hz]; exact hs)
  by_cases q_changes : wordR r = [99, 104, 97, 110, 103, 101, 115]
  · exact (attr_changes g ao cap ts r n w h hl q_changes).mono fun e w' o => o.rel (RelR.imp (rel_bare HT q_changes (by decide)) fun _ _ hs z hz => by rw [hz]; exact hs)
  by_cases q_open : wordR r = [111, 112, 101, 110]
  · exact (attr_open g ao cap ts r n w h hl q_open).mono fun e w' o => o.rel (RelR.imp (rel_bare HT q_open (by decide)) fun _ _ hs z hz => by rw [hz]; exact hs)
  by_cases q_credentials : wordR r = [99, 114, 101, 100, 101, 110, 116, 105, 97, 108, 115]
  · exact (attr_credentials g ao cap ts r n w h hl q_credentials).mono fun e w' o => o.rel (RelR.imp (rel_bare HT q_credentials (by decide)) fun _ _ hs z hz => by rw [hz]; exact hs)
  by_cases q_script : wordR r = [115, 99, 114, 105, 112, 116]
  · exact (attr_script g ao cap ts r n w h hl q_script).mono fun e w' o => o.rel (RelR.imp (rel_one HT q_script (k := 1) (by decide) (by decide) fit_name (by decide) (attr_named HT q_script (by decide))) fun _ _ hs z hz => by rw [hz]; exact hs)
  by_cases q_needs : wordR r = [110, 101, 101, 100, 115]
  · exact (attr_needs g ao cap ts r n w h hl q_needs).mono fun e w' o => o.rel (RelR.imp (rel_one HT q_needs (k := 1) (by decide) (by decide) fit_name (by decide) (attr_named HT q_needs (by decide))) fun _ _ hs z hz => by rw [hz]; exact hs)
  by_cases q_sets : wordR r = [115, 101, 116, 115]
  · exact (attr_sets g ao cap ts r n w h hl q_sets).mono fun e w' o => o.rel (RelR.imp (rel_one HT q_sets (k := 1) (by decide) (by decide) fit_name (by decide) (attr_named HT q_sets (by decide))) fun _ _ hs z hz => by rw [hz]; exact hs)
  by_cases q_gives : wordR r = [103, 105, 118, 101, 115]
  · exact (attr_gives g ao cap ts r n w h hl q_gives).mono fun e w' o => o.rel (RelR.imp (rel_one HT q_gives (k := 1) (by decide) (by decide) fit_name (by decide) (attr_named HT q_gives (by decide))) fun _ _ hs z hz => by rw [hz]; exact hs)
  by_cases q_redirect : wordR r = [114, 101, 100, 105, 114, 101, 99, 116]
  · exact (attr_redirect g ao cap ts r n w h hl q_redirect).mono fun e w' o => o.rel (RelR.imp (rel_one HT q_redirect (k := 1) (by decide) (by decide) fit_name (by decide) (attr_named HT q_redirect (by decide))) fun _ _ hs z hz => by rw [hz]; exact hs)
  by_cases q_cors : wordR r = [99, 111, 114, 115]
  · exact (attr_cors g ao cap ts r n w h hl q_cors).mono fun e w' o => o.rel (RelR.imp (rel_cors HT q_cors) fun _ _ hs z hz => by rw [hz]; exact hs)
  by_cases q_header : wordR r = [104, 101, 97, 100, 101, 114]
  · exact (attr_header g ao cap ts r n w h hl q_header).mono fun e w' o => o.rel (RelR.imp (rel_one HT q_header (k := 3) (by decide) (by decide) fit_text (by decide) (attr_texted HT q_header (by decide))) fun _ _ hs z hz => by rw [hz]; exact hs)
  by_cases q_allow : wordR r = [97, 108, 108, 111, 119]
  · exact (attr_allow g ao cap ts r n w h hl q_allow).mono fun e w' o => o.rel (RelR.imp (rel_one HT q_allow (k := 3) (by decide) (by decide) fit_text (by decide) (attr_texted HT q_allow (by decide))) fun _ _ hs z hz => by rw [hz]; exact hs)
  by_cases q_methods : wordR r = [109, 101, 116, 104, 111, 100, 115]
  · exact (attr_methods g ao cap ts r n w h hl q_methods).mono fun e w' o => o.rel (RelR.imp (rel_one HT q_methods (k := 3) (by decide) (by decide) fit_text (by decide) (attr_texted HT q_methods (by decide))) fun _ _ hs z hz => by rw [hz]; exact hs)
  by_cases q_csp : wordR r = [99, 115, 112]
  · exact (attr_csp g ao cap ts r n w h hl q_csp).mono fun e w' o => o.rel (RelR.imp (rel_one HT q_csp (k := 3) (by decide) (by decide) fit_text (by decide) (attr_texted HT q_csp (by decide))) fun _ _ hs z hz => by rw [hz]; exact hs)
  have hn : ∀ x ∈ bare6 ++ named5 ++ [w_cors] ++ texted4, (wordR r == x) = false := by
    intro x hx
    refine beq_eq_false_iff_ne.2 fun e => ?_
    simp [bare6, named5, texted4] at hx
    rcases hx with rfl | rfl | rfl | rfl | rfl | rfl | rfl | rfl | rfl | rfl | rfl | rfl | rfl | rfl | rfl | rfl
    all_goals contradiction
  have := attr_other g ao cap ts r n w h hn
  rwa [← attr_none HT rfl (not_contains fun x hx => hn x (by simp [hx])) (not_contains fun x hx => hn x (by simp [hx])) (hn _ (by simp)) (not_contains fun x hx => hn x (by simp [hx]))] at this
end Go.Proofs.Ytcmmjmgbanafgaa
