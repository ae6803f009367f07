/- The walk over moatlaw6.CspSources, by what package csp answers. -/
import Derived.Test.YtmepjaepggomjaaDoorC1
import Derived.Test.YtmepjaepggomjaaDoorG4
import Derived.Test.YtmepjaepggomjaaDoorG5
import Derived.Test.YtmepjaepggomjaaDoorRows5
import Derived.Test.YtmepjaepggomjaaDoorEqn
import Derived.Test.YtmepjaepggomjaaDoorReg
import Derived.Lib.QuietBelow
import Derived.Deep.QuietTactic
import Derived.BigQuiet
import Derived.BigRegion
import Derived.Deep.DeepCutAuto
import Derived.Deep.RegionHeld3
namespace Go.Proofs.YtmepjaepggomjaaDoor
open Go.RowKit Go.Proofs.Url

theorem low_nat5 (x : Int) (n : Nat) (h : 1 ≤ n) : ∃ k : Nat, low x n = (k : Int) ∧ k < n := by
  have a := low_nn x n (by omega)
  have b := low_lt x n (by omega)
  exact ⟨(low x n).toNat, by omega, by omega⟩
theorem hosts5_at (s : Nat) (h : s < 4) : [Value.string ⟨#[97, 46, 116, 101, 115, 116]⟩, .string ⟨#[98, 46, 116, 101, 115, 116]⟩, .string ⟨#[99, 46, 97, 46, 116, 101, 115, 116]⟩, .string ⟨#[113]⟩][s] = .string ⟨(hosts5.getD s []).toArray⟩ := by
  match s, h with
  | 0, _ => rfl
  | 1, _ => rfl
  | 2, _ => rfl
  | 3, _ => rfl
theorem nums5_at (s : Nat) (h : s < 3) : [Value.int .i64 443, .int .i64 80, .int .i64 8443][s] = .int .i64 (nums5.getD s 0) := by
  match s, h with
  | 0, _ => rfl
  | 1, _ => rfl
  | 2, _ => rfl
/-- An origin in a block that may be written. -/
structure OrgW (W : World) (g : Nat) (s h : List UInt8) (p : Int) : Prop where
  c0 : W.cell? ⟨g, 0, none⟩ = some (.string ⟨#[]⟩)
  c1 : W.cell? ⟨g, 1, none⟩ = some (.string ⟨s.toArray⟩)
  c2 : W.cell? ⟨g, 2, none⟩ = some (.string ⟨h.toArray⟩)
  c3 : W.cell? ⟨g, 3, none⟩ = some (.int .i64 p)
  f1 : W.frozen? ⟨g, 1, none⟩ = false
theorem OrgW.set {W : World} {g : Nat} {s h : List UInt8} {p : Int} (ho : OrgW W g s h p) (t : List UInt8) : OrgW (W.setCell ⟨g, 1, none⟩ (.string ⟨t.toArray⟩)) g t h p := by
  refine ⟨?_, ?_, ?_, ?_, by rw [World.frozen?_setCell]; exact ho.f1⟩
  · rw [World.cell?_setCell_other _ _ _ _ (by intro e; cases e)]; exact ho.c0
  · exact World.cell?_setCell_same _ _ _ ho.c1
  · rw [World.cell?_setCell_other _ _ _ _ (by intro e; cases e)]; exact ho.c2
  · rw [World.cell?_setCell_other _ _ _ _ (by intro e; cases e)]; exact ho.c3

theorem org_a (W : World) (g : Nat) (s h : List UInt8) (p : Int) (t : TypeId) (hg : g = W.heap.size) : OrgW (W.alloc (Obj.cells #[.string ⟨#[]⟩, .string ⟨s.toArray⟩, .string ⟨h.toArray⟩, .int .i64 p] t)) g s h p := by
  subst hg
  exact ⟨by simp, by simp, by simp, by simp, by first | (simp; done) | exact World.frozen?_alloc_new _ _ _ _ | exact World.frozen?_alloc_at _ _ _ _ rfl⟩
theorem OrgW.alloc {W : World} {g : Nat} {s h : List UInt8} {p : Int} (ho : OrgW W g s h p) (o : Obj) : OrgW (W.alloc o) g s h p :=
  ⟨keepc (below_new _ _) ho.c0, keepc (below_new _ _) ho.c1, keepc (below_new _ _) ho.c2, keepc (below_new _ _) ho.c3, by rw [World.frozen?_alloc_past _ _ _ (World.block_lt_of_cell? _ _ ho.c1)]; exact ho.f1⟩
theorem OrgW.drew {W : World} {g : Nat} {s h : List UInt8} {p : Int} (ho : OrgW W g s h p) : OrgW W.drew g s h p := ⟨ho.c0, ho.c1, ho.c2, ho.c3, ho.f1⟩
/-- An origin in a block, to be read. -/
structure OrgC (W : World) (g : Nat) (s h : List UInt8) (p : Int) : Prop where
  c0 : W.cell? ⟨g, 0, none⟩ = some (.string ⟨#[]⟩)
  c1 : W.cell? ⟨g, 1, none⟩ = some (.string ⟨s.toArray⟩)
  c2 : W.cell? ⟨g, 2, none⟩ = some (.string ⟨h.toArray⟩)
  c3 : W.cell? ⟨g, 3, none⟩ = some (.int .i64 p)
/-- A new origin whose every cell may be written. -/
structure OrgZ (W : World) (g : Nat) : Prop where
  org : OrgW W g [] [] 0
  f0 : W.frozen? ⟨g, 0, none⟩ = false
  f2 : W.frozen? ⟨g, 2, none⟩ = false
  f3 : W.frozen? ⟨g, 3, none⟩ = false
theorem OrgZ.keep {W W' : World} {g : Nat} (h : OrgZ W g) (hb : Below W.heap.size W W') : OrgZ W' g := by
  have hl := World.block_lt_of_cell? _ _ h.org.c1
  exact ⟨⟨keepc hb h.org.c0, keepc hb h.org.c1, keepc hb h.org.c2, keepc hb h.org.c3, (hb.frozen hl).trans h.org.f1⟩, (hb.frozen (p := ⟨g, 0, none⟩) hl).trans h.f0, (hb.frozen (p := ⟨g, 2, none⟩) hl).trans h.f2, (hb.frozen (p := ⟨g, 3, none⟩) hl).trans h.f3⟩
theorem OrgZ.new (W : World) (t : TypeId) : OrgZ (W.alloc (Obj.cells #[.string ⟨#[]⟩, .string ⟨#[]⟩, .string ⟨#[]⟩, .int .i64 0] t)) W.heap.size :=
  ⟨org_a _ _ [] [] 0 _ rfl, by first | (simp; done) | exact World.frozen?_alloc_new _ _ _ _ | exact World.frozen?_alloc_at _ _ _ _ rfl, by first | (simp; done) | exact World.frozen?_alloc_new _ _ _ _ | exact World.frozen?_alloc_at _ _ _ _ rfl, by first | (simp; done) | exact World.frozen?_alloc_new _ _ _ _ | exact World.frozen?_alloc_at _ _ _ _ rfl⟩
theorem OrgZ.set {W : World} {g : Nat} (hz : OrgZ W g) (s h : List UInt8) (p : Int) : OrgW ((((W.setCell ⟨g, 0, none⟩ (.string ⟨#[]⟩)).setCell ⟨g, 1, none⟩ (.string ⟨s.toArray⟩)).setCell ⟨g, 2, none⟩ (.string ⟨h.toArray⟩)).setCell ⟨g, 3, none⟩ (.int .i64 p)) g s h p := by
  have n : ∀ {i j : Nat}, i ≠ j → (⟨g, i, none⟩ : Addr) ≠ ⟨g, j, none⟩ := fun hij e => hij (by cases e; rfl)
  refine ⟨?_, ?_, ?_, ?_, ?_⟩
  · rw [World.cell?_setCell_other _ _ _ _ (n (by decide)), World.cell?_setCell_other _ _ _ _ (n (by decide)), World.cell?_setCell_other _ _ _ _ (n (by decide))]
    exact World.cell?_setCell_same _ _ _ hz.org.c0
  · rw [World.cell?_setCell_other _ _ _ _ (n (by decide)), World.cell?_setCell_other _ _ _ _ (n (by decide))]
    exact World.cell?_setCell_same _ _ _ (by rw [World.cell?_setCell_other _ _ _ _ (n (by decide))]; exact hz.org.c1)
  · rw [World.cell?_setCell_other _ _ _ _ (n (by decide))]
    exact World.cell?_setCell_same _ _ _ (by rw [World.cell?_setCell_other _ _ _ _ (n (by decide)), World.cell?_setCell_other _ _ _ _ (n (by decide))]; exact hz.org.c2)
  · exact World.cell?_setCell_same _ _ _ (by rw [World.cell?_setCell_other _ _ _ _ (n (by decide)), World.cell?_setCell_other _ _ _ _ (n (by decide)), World.cell?_setCell_other _ _ _ _ (n (by decide))]; exact hz.org.c3)
  · simp only [World.frozen?_setCell]; exact hz.org.f1
theorem OrgW.toC {W : World} {g : Nat} {s h : List UInt8} {p : Int} (ho : OrgW W g s h p) : OrgC W g s h p := ⟨ho.c0, ho.c1, ho.c2, ho.c3⟩
theorem OrgC.keep {W W' : World} {g : Nat} {s h : List UInt8} {p : Int} (ho : OrgC W g s h p) (hb : Below W.heap.size W W') : OrgC W' g s h p := ⟨keepc hb ho.c0, keepc hb ho.c1, keepc hb ho.c2, keepc hb ho.c3⟩
theorem held5 {a W W' : World} {g q j : Nat} {v0 v1 v2 v3 v4 : Value} (h : Hid (Below a.heap.size a W) ∧ W.cell? ⟨g, 0, none⟩ = some v0 ∧ W.cell? ⟨g, 1, none⟩ = some v1 ∧ W.cell? ⟨g, 2, none⟩ = some v2 ∧ W.cell? ⟨g, 3, none⟩ = some v3 ∧ W.cell? ⟨q, j, none⟩ = some v4) (hb : Below W.heap.size W W') :
    Hid (Below a.heap.size a W') ∧ W'.cell? ⟨g, 0, none⟩ = some v0 ∧ W'.cell? ⟨g, 1, none⟩ = some v1 ∧ W'.cell? ⟨g, 2, none⟩ = some v2 ∧ W'.cell? ⟨g, 3, none⟩ = some v3 ∧ W'.cell? ⟨q, j, none⟩ = some v4 :=
  ⟨h.1.out.trans (hb.mono h.1.out.size), keepc hb h.2.1, keepc hb h.2.2.1, keepc hb h.2.2.2.1, keepc hb h.2.2.2.2.1, keepc hb h.2.2.2.2.2⟩
theorem pols_all {z : Nat → Int} {os oh : List UInt8} {op : Int} {k : Nat} {lo hi : List UInt8} {bl bi : Bool} (h : SrcInv z os oh op k lo hi bl bi) (h1 : lo.length ≤ 132) (h2 : hi.length ≤ 138) (j : Nat) (hj : j < 3) :
    letsP ((polsOf lo hi).getD j []) https ownH 443 os oh op = bl ∧ inlineP ((polsOf lo hi).getD j []) = bi ∧ ((polsOf lo hi).getD j []).length ≤ 200 := by
  have P := pols_src h
  match j, hj with
  | 0, _ => exact ⟨(P _ (by simp [polsOf])).1, (P _ (by simp [polsOf])).2, by show (polA lo).length ≤ 200; rw [← pol_a lo]; simp; omega⟩
  | 1, _ => exact ⟨(P _ (by simp [polsOf])).1, (P _ (by simp [polsOf])).2, by show (polB hi).length ≤ 200; rw [← pol_b hi]; simp; omega⟩
  | 2, _ => exact ⟨(P _ (by simp [polsOf])).1, (P _ (by simp [polsOf])).2, by show (polC lo).length ≤ 200; rw [← pol_c lo]; simp; omega⟩

set_option maxHeartbeats 20000000 in
set_option maxRecDepth 100000 in
theorem cspSources_walk (ok : CspOk) (a0 : Option Addr) (len0 cap0 : Nat) (z : Nat → Int) (hst prt : Int) (ht : Bool) (w : World) (henv : Env w) (hrow : RowI w a0 len0 z) :
    Calls Tryd.prog 3 #[.slice a0 len0 cap0, .int .i64 hst, .int .i64 prt, .bool ht] w fun r w' => r = .returned (.bool true) ∧ Below w.heap.size w w' := by
  have OK := hide ok
  have HE := hide henv
  have HRow := hide hrow
  clear ok henv hrow
  by_cases h6 : 6 < (len0 : Int)
  · clear HRow
    go_enter Tryd.func3, Tryd.ntmps3
    go_wp2_with fail
    refine (awake6_any OK.out _ HE.out).mono ?_
    rintro e w1 ⟨rfl, hb1⟩
    go_wp2_with fail
    go_ret
    exact ⟨rfl, hb1⟩
  have h6' : len0 ≤ 6 := by omega
  obtain ⟨h, hLh, hh4⟩ := low_nat5 hst 4 (by decide)
  obtain ⟨a, hLa, ha3⟩ := low_nat5 prt 3 (by decide)
  replace hLh : low hst 4 = (h : Int) := hLh
  replace hLa : low prt 3 = (a : Int) := hLa
  have l3 := hosts5_at h hh4
  have l4 := nums5_at a ha3
  have zo : (hosts5.getD h []).length ≤ 8 := by
    match h, hh4 with
    | 0, _ => decide
    | 1, _ => decide
    | 2, _ => decide
    | 3, _ => decide
  generalize hosts5.getD h [] = ho at *
  generalize nums5.getD a 0 = n at *
  have i3 : (h : Int) < 4 := by omega
  have i4 : (a : Int) < 3 := by omega
  obtain ⟨W0, hW0⟩ : ∃ W0, W0 = ((w.alloc (Obj.cells #[.string ⟨#[39, 115, 101, 108, 102, 39]⟩, .string ⟨#[39, 110, 111, 110, 101, 39]⟩, .string ⟨#[42]⟩, .string ⟨#[104, 116, 116, 112, 58]⟩, .string ⟨#[104, 116, 116, 112, 115, 58]⟩, .string ⟨#[97, 46, 116, 101, 115, 116]⟩, .string ⟨#[42, 46, 97, 46, 116, 101, 115, 116]⟩, .string ⟨#[98, 46, 116, 101, 115, 116, 58, 42]⟩, .string ⟨#[104, 116, 116, 112, 58, 47, 47, 98, 46, 116, 101, 115, 116]⟩, .string ⟨#[104, 116, 116, 112, 115, 58, 47, 47, 99, 46, 97, 46, 116, 101, 115, 116, 58, 56, 52, 52, 51]⟩, .string ⟨#[39, 117, 110, 115, 97, 102, 101, 45, 105, 110, 108, 105, 110, 101, 39]⟩, .string ⟨#[113]⟩] 9)).alloc (Obj.cells #[.string ⟨#[39, 83, 69, 76, 70, 39]⟩, .string ⟨#[39, 78, 79, 78, 69, 39]⟩, .string ⟨#[42]⟩, .string ⟨#[72, 84, 84, 80, 58]⟩, .string ⟨#[72, 84, 84, 80, 83, 58]⟩, .string ⟨#[65, 46, 84, 69, 83, 84]⟩, .string ⟨#[42, 46, 65, 46, 84, 69, 83, 84]⟩, .string ⟨#[66, 46, 84, 69, 83, 84, 58, 42]⟩, .string ⟨#[72, 84, 84, 80, 58, 47, 47, 66, 46, 84, 69, 83, 84]⟩, .string ⟨#[72, 84, 84, 80, 83, 58, 47, 47, 67, 46, 65, 46, 84, 69, 83, 84, 58, 56, 52, 52, 51]⟩, .string ⟨#[39, 85, 78, 83, 65, 70, 69, 45, 73, 78, 76, 73, 78, 69, 39]⟩, .string ⟨#[81]⟩] 9)) := ⟨_, rfl⟩
  have hS0 : W0.heap.size = w.heap.size + 2 := by rw [hW0]; simp
  have B0 : Hid (Below w.heap.size w W0) := by rw [hW0]; exact ((Below.refl _ _).alloc (Nat.le_refl _) _).alloc (by simp) _
  have LA : Hid (LitsAt W0 w.heap.size srcs12) := by rw [hW0]; exact (lits_new w srcs12 9).keep (below_new _ _)
  have LB : Hid (LitsAt W0 (w.heap.size + 1) caps12) := by
    rw [hW0, show w.heap.size + 1 = (w.alloc (Obj.cells #[.string ⟨#[39, 115, 101, 108, 102, 39]⟩, .string ⟨#[39, 110, 111, 110, 101, 39]⟩, .string ⟨#[42]⟩, .string ⟨#[104, 116, 116, 112, 58]⟩, .string ⟨#[104, 116, 116, 112, 115, 58]⟩, .string ⟨#[97, 46, 116, 101, 115, 116]⟩, .string ⟨#[42, 46, 97, 46, 116, 101, 115, 116]⟩, .string ⟨#[98, 46, 116, 101, 115, 116, 58, 42]⟩, .string ⟨#[104, 116, 116, 112, 58, 47, 47, 98, 46, 116, 101, 115, 116]⟩, .string ⟨#[104, 116, 116, 112, 115, 58, 47, 47, 99, 46, 97, 46, 116, 101, 115, 116, 58, 56, 52, 52, 51]⟩, .string ⟨#[39, 117, 110, 115, 97, 102, 101, 45, 105, 110, 108, 105, 110, 101, 39]⟩, .string ⟨#[113]⟩] 9)).heap.size by simp]; exact lits_new _ caps12 9
  go_enter Tryd.func3, Tryd.ntmps3
  go_upto_region 5 with fail
  rw [← hW0]
  clear hW0
  go_cut [11] (fun v W => ∃ g : Nat, v = .pointer (some ⟨g, 0, none⟩) ∧ W0.heap.size ≤ g ∧ Hid (OrgW W g https ho n) ∧ Hid (Below W0.heap.size W0 W))
  case first => as_aux_lemma =>
    clear OK HE HRow LA LB B0
    have e4 : ∀ W R, Calls Tryd.prog 6 #[.int .i64 hst, .int .i64 4] W R = R (.returned (.int .i64 (h : Int))) W := fun W R => by rw [lowE4, hLh]
    have e3 : ∀ W R, Calls Tryd.prog 6 #[.int .i64 prt, .int .i64 3] W R = R (.returned (.int .i64 (a : Int))) W := fun W R => by rw [lowE3, hLa]
    clear hLh hLa zo h6' h6
    refine wp_region_posts_last (l := [_, _, _, _, _, _, _, _, _, _, _, _]) (ol := _) rfl (by kernel_rfl) (fun W => Below W0.heap.size W0 W) (fun W W' => Below W.heap.size W W')
      [some 29, some 30, some 31, some 32, some 33, some 34, some 35, some 36, some 37, some 38, some 39, some 11]
      [[], [], [1], [0, 2], [3], [], [], [6], [5, 7], [8], [4, 9], [], [0, 1, 2, 3, 4, 5, 6, 7, 8, 9, 10, 11]]
      [fun v W => ∃ b : Nat, v = .slice (some ⟨b, 0, none⟩) 4 4 ∧ W.cell? ⟨b, h, none⟩ = some (.string ⟨ho.toArray⟩), fun v _ => v = .int .i64 hst, fun v _ => v = .int .i64 (h : Int), fun v W => ∃ b : Nat, v = .pointer (some ⟨b, h, none⟩) ∧ W.cell? ⟨b, h, none⟩ = some (.string ⟨ho.toArray⟩), fun v _ => v = .string ⟨ho.toArray⟩,
       fun v W => ∃ b : Nat, v = .slice (some ⟨b, 0, none⟩) 3 3 ∧ W.cell? ⟨b, a, none⟩ = some (.int .i64 n), fun v _ => v = .int .i64 prt, fun v _ => v = .int .i64 (a : Int), fun v W => ∃ b : Nat, v = .pointer (some ⟨b, a, none⟩) ∧ W.cell? ⟨b, a, none⟩ = some (.int .i64 n), fun v _ => v = .int .i64 n,
       fun v _ => v = .agg #[.string ⟨#[]⟩, .string ⟨https.toArray⟩, .string ⟨ho.toArray⟩, .int .i64 n],
       fun v W => ∃ g : Nat, v = .pointer (some ⟨g, 0, none⟩) ∧ W0.heap.size ≤ g ∧ OrgZ W g]
      rfl (by kernel_rfl) (by kernel_rfl) (by kernel_rfl) (by kernel_rfl) (by kernel_rfl) rfl rfl ?_ ?_ ?_ ?_
    · refine .cons ?_ (.eq (.eq (.cons ?_ (.eq (.cons ?_ (.eq (.eq (.cons ?_ (.eq (.eq (.cons ?_ .nil)))))))))))
      · exact fun v w w' _ hk ⟨b, h1, h2⟩ => ⟨b, h1, keepc hk h2⟩
      · exact fun v w w' _ hk ⟨b, h1, h2⟩ => ⟨b, h1, keepc hk h2⟩
      · exact fun v w w' _ hk ⟨b, h1, h2⟩ => ⟨b, h1, keepc hk h2⟩
      · exact fun v w w' _ hk ⟨b, h1, h2⟩ => ⟨b, h1, keepc hk h2⟩
      · exact fun v w w' _ hk ⟨g, h1, h2, h3⟩ => ⟨g, h1, h2, h3.keep hk⟩
    · exact below_drew _
    · refine .cons ?_ (.cons ?_ (.cons ?_ (.cons ?_ (.cons ?_ (.cons ?_ (.cons ?_ (.cons ?_ (.cons ?_ (.cons ?_ (.cons ?_ (.cons ?_ .nil)))))))))))
      all_goals (intro A W hC old nd; refine runs_none rfl ?_)
      · simp [Oper.gives, gives, go_sem]
        exact ⟨hC.alloc hC.size _, below_new _ _, _, rfl, by simp [l3, hh4]⟩
      · have e1 : (A.tmps[1]?).getD undef = .int .i64 hst := old 1 (by kernel_rfl)
        simp [Oper.gives, gives, go_sem, e1]
        exact ⟨hC, Below.refl _ _, rfl⟩
      · have e1 : (A.tmps[30]?).getD undef = .int .i64 hst := nd.1
        simp [Oper.gives, gives, go_sem, e1, e4]
        exact ⟨hC, Below.refl _ _, rfl⟩
      · obtain ⟨⟨b, e1, h1⟩, e2, _⟩ := nd
        replace e1 : (A.tmps[29]?).getD undef = .slice (some ⟨b, 0, none⟩) 4 4 := e1
        replace e2 : (A.tmps[31]?).getD undef = .int .i64 (h : Int) := e2
        simp [Oper.gives, gives, go_sem, e1, e2, i3]
        exact ⟨hC, Below.refl _ _, b, rfl, h1⟩
      · obtain ⟨⟨b, e1, h1⟩, _⟩ := nd
        replace e1 : (A.tmps[32]?).getD undef = .pointer (some ⟨b, h, none⟩) := e1
        simp [Oper.gives, gives, go_sem, e1, h1]
        exact ⟨hC, Below.refl _ _, rfl⟩
      · simp [Oper.gives, gives, go_sem]
        exact ⟨hC.alloc hC.size _, below_new _ _, _, rfl, by simp [l4, ha3]⟩
      · have e1 : (A.tmps[2]?).getD undef = .int .i64 prt := old 2 (by kernel_rfl)
        simp [Oper.gives, gives, go_sem, e1]
        exact ⟨hC, Below.refl _ _, rfl⟩
      · have e1 : (A.tmps[35]?).getD undef = .int .i64 prt := nd.1
        simp [Oper.gives, gives, go_sem, e1, e3]
        exact ⟨hC, Below.refl _ _, rfl⟩
      · obtain ⟨⟨b, e1, h1⟩, e2, _⟩ := nd
        replace e1 : (A.tmps[34]?).getD undef = .slice (some ⟨b, 0, none⟩) 3 3 := e1
        replace e2 : (A.tmps[36]?).getD undef = .int .i64 (a : Int) := e2
        simp [Oper.gives, gives, go_sem, e1, e2, i4]
        exact ⟨hC, Below.refl _ _, b, rfl, h1⟩
      · obtain ⟨⟨b, e1, h1⟩, _⟩ := nd
        replace e1 : (A.tmps[37]?).getD undef = .pointer (some ⟨b, a, none⟩) := e1
        simp [Oper.gives, gives, go_sem, e1, h1]
        exact ⟨hC, Below.refl _ _, rfl⟩
      · obtain ⟨e1, e2, _⟩ := nd
        replace e1 : (A.tmps[33]?).getD undef = .string ⟨ho.toArray⟩ := e1
        replace e2 : (A.tmps[38]?).getD undef = .int .i64 n := e2
        simp [Oper.gives, gives, go_sem, e1, e2]
        exact ⟨hC, Below.refl _ _, rfl⟩
      · simp [Oper.gives, gives, go_sem]
        exact ⟨hC.alloc hC.size _, below_new _ _, _, rfl, hC.size, OrgZ.new _ _⟩
    · intro W hC E hE
      refine .cons fun v29 _ => .cons fun v30 _ => .cons fun v31 _ => .cons fun v32 _ => .cons fun v33 _ => .cons fun v34 _ => .cons fun v35 _ => .cons fun v36 _ => .cons fun v37 _ => .cons fun v38 _ => .cons fun v39 h39 => .cons fun v11 h11 => .nil ?_
      obtain ⟨g, rfl, hg, hO⟩ := h11
      subst h39
      simp only [Act.put, List.setIfInBounds_toArray, List.set_cons_zero, List.set_cons_succ]
      refine hE _ ?_
      obtain ⟨⟨c0, c1, c2, c3, f1⟩, f0, f2, f3⟩ := id hO
      simp [Oper.gives, gives, go_sem, c0, c1, c2, c3, f0, f1, f2, f3]
      go_wp2_with fail
      go_meet
      case rel => exact ⟨_, rfl, hg, hide (hO.set https ho n), hide ((((hC.setCell (p := ⟨g, 0, none⟩) hg _).setCell (p := ⟨g, 1, none⟩) hg _).setCell (p := ⟨g, 2, none⟩) hg _).setCell (p := ⟨g, 3, none⟩) hg _)⟩
  case rest =>
  obtain ⟨g, rfl, hg, hO, hB⟩ := hcut
  have LA1 := hide (LA.out.keep hB.out)
  have LB1 := hide (LB.out.keep hB.out)
  have B1 : Hid (Below w.heap.size w wc) := hide (B0.out.trans (hB.out.mono B0.out.size))
  have hgw : w.heap.size + 2 ≤ g := by omega
  have c1 := hO.out.c1
  have f1 := hO.out.f1
  clear LA LB hB B0 l3 l4 hLh hLa hg hS0
  go_upto_if 40 with fail
  go_cut [] (fun W => Hid (OrgC W g (schemeB ht) ho n) ∧ Hid (Below (w.heap.size + 2) wc W))
  case first => as_aux_lemma =>
    cases ht with
    | true =>
      go_wp2_with fail
      go_meet
      case rel => exact ⟨hide (hO.out.set http).toC, hide ((Below.refl _ _).setCell (p := ⟨g, 1, none⟩) hgw _)⟩
    | false =>
      go_wp2_with fail
      go_meet
      case rel => exact ⟨hide hO.out.toC, hide (Below.refl _ _)⟩
  case rest =>
  obtain ⟨hC, hB2⟩ := hcut
  have LA2 : Hid (LitsAt wc w.heap.size srcs12) := hide (LA1.out.keepB hB2.out (by omega))
  have LB2 : Hid (LitsAt wc (w.heap.size + 1) caps12) := hide (LB1.out.keepB hB2.out (by omega))
  have B2 : Hid (Below w.heap.size w wc) := hide (B1.out.trans (hB2.out.mono (by omega)))
  have zs : (schemeB ht).length ≤ 5 := by cases ht <;> decide
  clear LA1 LB1 B1 hB2 hO c1 f1
  generalize schemeB ht = sc at *
  obtain ⟨Wb, hWb⟩ : ∃ Wb, Wb = wc := ⟨_, rfl⟩
  subst hWb
  have HO : Hid (∀ W, Below Wb.heap.size Wb W → OrgC W g sc ho n) := fun W h => hC.out.keep h
  have HEn : Hid (∀ W, Below Wb.heap.size Wb W → Env W) := fun W h => HE.out.keep (B2.out.trans (h.mono B2.out.size))
  have HR : Hid (∀ W, Below Wb.heap.size Wb W → ∀ k, k < len0 → ∃ b off, a0 = some ⟨b, off, none⟩ ∧ b < w.heap.size ∧ W.cell? ⟨b, off + k, none⟩ = some (.int .i64 (z k))) := fun W h => HRow.out.keep (B2.out.trans (h.mono B2.out.size))
  have XM : Hid (∀ x W, x.length ≤ 21 → Below Wb.heap.size Wb W → Calls Tryd.prog 7 #[.string ⟨x.toArray⟩, .agg #[.string ⟨#[]⟩, .string ⟨#[104, 116, 116, 112, 115]⟩, .string ⟨#[97, 46, 116, 101, 115, 116]⟩, .int .i64 443], .agg #[.string ⟨#[]⟩, .string ⟨sc.toArray⟩, .string ⟨ho.toArray⟩, .int .i64 n]] W fun r w' => r = .returned (.bool (matchS x https ownH 443 sc ho n)) ∧ Below W.heap.size W w') := fun x W hx hb => OK.out.matches_ x https ownH sc ho ⟨#[]⟩ ⟨#[]⟩ 443 n W (HEn.out W hb) (by omega) (by omega) (by omega)
  have XL : Hid (∀ x W, x.length ≤ 200 → Below Wb.heap.size Wb W → Calls Tryd.prog 9 #[.string ⟨x.toArray⟩, .agg #[.string ⟨#[]⟩, .string ⟨#[104, 116, 116, 112, 115]⟩, .string ⟨#[97, 46, 116, 101, 115, 116]⟩, .int .i64 443], .agg #[.string ⟨#[]⟩, .string ⟨sc.toArray⟩, .string ⟨ho.toArray⟩, .int .i64 n]] W fun r w' => r = .returned (.bool (letsP x https ownH 443 sc ho n)) ∧ Below W.heap.size W w') := fun x W hx hb => OK.out.lets x https ownH sc ho ⟨#[]⟩ ⟨#[]⟩ 443 n W (HEn.out W hb) (by omega) (by omega) (by omega)
  have XI : Hid (∀ x W, x.length ≤ 200 → Below Wb.heap.size Wb W → Calls Tryd.prog 10 #[.string ⟨x.toArray⟩] W fun r w' => r = .returned (.bool (inlineP x)) ∧ Below W.heap.size W w') := fun x W hx hb => OK.out.inline x W (HEn.out W hb) (by omega)
  have XA : Hid (∀ W, Below Wb.heap.size Wb W → Calls Tryd.prog 5 #[] W fun r w' => r = .returned (.bool true) ∧ Below W.heap.size W w') := fun W hb => awake6_any OK.out W (HEn.out W hb)
  clear OK HE HRow HEn hC zs zo hgw hh4 ha3 i3 i4 h6
  go_wp2_with fail
  go_loopw [12, 13, 14, 15, 16] (fun lv hv bv iv i W => ∃ (k : Nat) (l u : List UInt8) (b1 b2 : Bool), k ≤ len0 ∧ lv = .string ⟨l.toArray⟩ ∧ hv = .string ⟨u.toArray⟩ ∧ bv = .bool b1 ∧ iv = .bool b2 ∧ i = .int .i64 k ∧ l.length ≤ 22 * k ∧ u.length ≤ 23 * k ∧ Hid (SrcInv z sc ho n k l u b1 b2) ∧ Hid (Below Wb.heap.size Wb W)) (fun _ _ _ _ i _ => len0 - (intOf i).toNat)
  case atStart => exact ⟨0, [], [], false, false, Nat.zero_le _, rfl, rfl, rfl, rfl, rfl, Nat.le_refl _, Nat.le_refl _, hide (SrcInv.zero _ _ _ _), hide (Below.refl _ _)⟩
  case round =>
    obtain ⟨k, l, u, b1, b2, hk, rfl, rfl, rfl, rfl, rfl, hl, hu, hI, hB⟩ := hrel
    by_cases hlt : k < len0
    · obtain ⟨b, off, rfl, hbw, hcell⟩ := HR.out _ hB.out k hlt
      have hlI : (k : Int) < (len0 : Int) := by omega
      clear HR
      go_wp2_with fail
      refine (low_any _ _ _ (by decide) (by decide)).mono ?_
      rintro e w2 ⟨rfl, hw2⟩
      subst hw2
      obtain ⟨hK, hK12⟩ := kOf_low (z k)
      rw [hK]
      have HN := hide hI.out.succ
      clear hI hK hcell
      generalize kOf (z k) = K at *
      obtain ⟨s1, s2⟩ := srcs_len K hK12
      have HA : Hid (∀ W, Below Wb.heap.size Wb W → W.cell? ⟨w.heap.size, K, none⟩ = some (.string ⟨(srcs12.getD K []).toArray⟩)) := fun W h => LA2.out.keep h K hK12
      have HC : Hid (∀ W, Below Wb.heap.size Wb W → W.cell? ⟨w.heap.size + 1, K, none⟩ = some (.string ⟨(caps12.getD K []).toArray⟩)) := fun W h => LB2.out.keep h K hK12
      generalize srcs12.getD K [] = x at *
      generalize caps12.getD K [] = y at *
      have hKI : (K : Int) < 12 := by omega
      have hl6 : l.length ≤ 132 := by omega
      have hu6 : u.length ≤ 138 := by omega
      have hcA := HA.out _ hB.out
      have hcB := HC.out _ hB.out
      go_upto_region 14 with fail
      go_cut [12, 13] (fun lv hv W => lv = .string ⟨(l ++ ([32] ++ x)).toArray⟩ ∧ hv = .string ⟨(u ++ ([32, 32] ++ y)).toArray⟩ ∧ Hid (Below Wb.heap.size Wb W))
      case first => as_aux_lemma =>
        go_quiet (fail)
        go_wp2_with fail
        go_meet
        case rel => exact ⟨congrArg Value.string (dataEq (by simp)), congrArg Value.string (dataEq (by simp)), hide (_root_.Go.below_drewN hB.out _)⟩
      case rest =>
      obtain ⟨rfl, rfl, hB3⟩ := hcut
      have hl' : (l ++ ([32] ++ x)).length ≤ 22 * (k + 1) := by simp; omega
      have hu' : (u ++ ([32, 32] ++ y)).length ≤ 23 * (k + 1) := by simp; omega
      clear hl hu hl6 hu6 s2 hB HC hcA hcB
      generalize l ++ ([32] ++ x) = l1 at *
      generalize u ++ ([32, 32] ++ y) = u1 at *
      obtain ⟨Wc, hWc⟩ : ∃ Wc, Wc = wc := ⟨_, rfl⟩
      subst hWc
      have XM1 : Hid (∀ W, Hid (Below Wc.heap.size Wc W) ∧ W.cell? ⟨g, 0, none⟩ = some (.string ⟨#[]⟩) ∧ W.cell? ⟨g, 1, none⟩ = some (.string ⟨sc.toArray⟩) ∧ W.cell? ⟨g, 2, none⟩ = some (.string ⟨ho.toArray⟩) ∧ W.cell? ⟨g, 3, none⟩ = some (.int .i64 n) ∧ W.cell? ⟨w.heap.size, K, none⟩ = some (.string ⟨x.toArray⟩) → Calls Tryd.prog 7 #[.string ⟨x.toArray⟩, .agg #[.string ⟨#[]⟩, .string ⟨#[104, 116, 116, 112, 115]⟩, .string ⟨#[97, 46, 116, 101, 115, 116]⟩, .int .i64 443], .agg #[.string ⟨#[]⟩, .string ⟨sc.toArray⟩, .string ⟨ho.toArray⟩, .int .i64 n]] W fun r w' => r = .returned (.bool (matchS x https ownH 443 sc ho n)) ∧ Below W.heap.size W w') := fun W h => XM.out x W s1 (hB3.out.trans (h.1.out.mono hB3.out.size))
      generalize matchS x https ownH 443 sc ho n = m at *
      have hcA := HA.out _ hB3.out
      obtain ⟨c0, c1, c2, c3⟩ := HO.out _ hB3.out
      go_upto_region 15 with fail
      go_cut [14] (fun bv W => bv = .bool (b1 || m) ∧ Hid (Below Wc.heap.size Wc W))
      case first => as_aux_lemma =>
        cases b1 with
        | true =>
          go_quiet (fail)
          go_wp2_with fail
          go_meet
          case rel => exact ⟨rfl, hide (_root_.Go.below_drewN (Below.refl _ _) _)⟩
        | false =>
          go_region_held3 (fun W => Hid (Below Wc.heap.size Wc W) ∧ W.cell? ⟨g, 0, none⟩ = some (.string ⟨#[]⟩) ∧ W.cell? ⟨g, 1, none⟩ = some (.string ⟨sc.toArray⟩) ∧ W.cell? ⟨g, 2, none⟩ = some (.string ⟨ho.toArray⟩) ∧ W.cell? ⟨g, 3, none⟩ = some (.int .i64 n) ∧ W.cell? ⟨w.heap.size, K, none⟩ = some (.string ⟨x.toArray⟩))
            (first | exact held5 (by assumption) hb | exact held5 ⟨hide (Below.refl _ _), c0, c1, c2, c3, hcA⟩ (below_drew _))
            (first
              | (go_at_call 8; refine (own6_any _).mono ?_; rintro e w' ⟨rfl, hb⟩)
              | (go_at_call 7; refine (XM1.out _ (by assumption)).mono ?_; rintro e w' ⟨rfl, hb⟩))
          all_goals (go_wp2_with fail; go_meet)
          all_goals (case rel => exact ⟨rfl, And.left (by assumption)⟩)
      case rest =>
      obtain ⟨rfl, hB4⟩ := hcut
      have B5 : Hid (Below Wb.heap.size Wb wc) := hide (hB3.out.trans (hB4.out.mono hB3.out.size))
      clear hB3 hB4 c0 c1 c2 c3 hcA HA XM1
      generalize (b1 || m) = b3 at *
      cases b2 with
      | true =>
        go_wp2_with fail
        exact ⟨⟨k + 1, l1, u1, b3, true, by omega, rfl, rfl, rfl, rfl, by go_num, hl', hu', HN, B5⟩, by simp [intOf]; omega⟩
      | false =>
        by_cases h10 : K = 10
        · have e1 : ((K : Int) == 10) = true := beq_iff_eq.2 (by omega)
          have HN1 := HN.out
          rw [show (K == 10) = true from beq_iff_eq.2 h10] at HN1
          have HN2 := hide HN1
          clear h10 HN1 HN
          go_wp2_with fail
          exact ⟨⟨k + 1, l1, u1, b3, true, by omega, rfl, rfl, rfl, rfl, by go_num, hl', hu', HN2, B5⟩, by simp [intOf]; omega⟩
        · have e1 : ((K : Int) == 10) = false := beq_eq_false_iff_ne.2 (by omega)
          have HN1 := HN.out
          rw [show (K == 10) = false from beq_eq_false_iff_ne.2 h10] at HN1
          have HN2 := hide HN1
          clear h10 HN1 HN
          go_wp2_with fail
          exact ⟨⟨k + 1, l1, u1, b3, false, by omega, rfl, rfl, rfl, rfl, by go_num, hl', hu', HN2, B5⟩, by simp [intOf]; omega⟩
    · have hl6 : l.length ≤ 132 := by omega
      have hu6 : u.length ≤ 138 := by omega
      have HP := hide (pols_all hI.out hl6 hu6)
      clear hI HR XM LA2 LB2 hl hu
      go_upto_region 17 with fail
      go_cut [18] (fun v W => v = .string ⟨(polA l).toArray⟩ ∧ Hid (Below Wb.heap.size Wb W))
      case first => as_aux_lemma =>
        go_wp2_with fail
        go_meet
        case rel => exact ⟨congrArg Value.string (dataEq (by rw [← pol_a l]; simp)), hB⟩
      case rest =>
      obtain ⟨rfl, hB3⟩ := hcut
      go_upto_region 18 with fail
      go_cut [19] (fun v W => v = .string ⟨(polB u).toArray⟩ ∧ Hid (Below Wb.heap.size Wb W))
      case first => as_aux_lemma =>
        go_wp2_with fail
        go_meet
        case rel => exact ⟨congrArg Value.string (dataEq (by rw [← pol_b u]; simp)), hB3⟩
      case rest =>
      obtain ⟨rfl, hB4⟩ := hcut
      go_upto_region 19 with fail
      go_cut [20] (fun v W => v = .string ⟨(polC l).toArray⟩ ∧ Hid (Below Wb.heap.size Wb W))
      case first => as_aux_lemma =>
        go_wp2_with fail
        go_meet
        case rel => exact ⟨congrArg Value.string (dataEq (by rw [← pol_c l]; simp)), hB4⟩
      case rest =>
      obtain ⟨rfl, hB5⟩ := hcut
      go_upto_region 20 with fail
      go_cut [21] (fun v W => ∃ q : Nat, v = .slice (some ⟨q, 0, none⟩) 3 3 ∧ Hid (LitsAt W q (polsOf l u)) ∧ Hid (Below Wb.heap.size Wb W))
      case first => as_aux_lemma =>
        go_wp2_with fail
        go_meet
        case rel => exact ⟨_, rfl, hide (lits_new _ (polsOf l u) _), hide (hB5.out.alloc hB5.out.size _)⟩
      case rest =>
      obtain ⟨q, rfl, hL, hB6⟩ := hcut
      have hps : (polsOf l u).length = 3 := rfl
      clear hB hB3 hB4 hB5 hl6 hu6
      generalize polsOf l u = ps at *
      generalize polA l = pa at *
      generalize polB u = pb at *
      generalize polC l = pc at *
      obtain ⟨Wd, hWd⟩ : ∃ Wd, Wd = wc := ⟨_, rfl⟩
      subst hWd
      go_wp2_with fail
      go_loopw [22] (fun i W => ∃ (j : Nat) (We : World), j ≤ 3 ∧ i = .int .i64 j ∧ We = W ∧ Hid (Below Wd.heap.size Wd We)) (fun i _ => 3 - (intOf i).toNat)
      case atStart => exact ⟨0, _, by decide, rfl, rfl, hide (Below.refl _ _)⟩
      case round =>
        obtain ⟨j, We, hj, rfl, hWe, hB7⟩ := hrel
        subst hWe
        have B8 := hide (hB6.out.trans (hB7.out.mono hB6.out.size))
        obtain ⟨c0, c1, c2, c3⟩ := HO.out _ B8.out
        by_cases hlt3 : j < 3
        · have hjI : (j : Int) < 3 := by omega
          obtain ⟨q1, q2, q3⟩ := HP.out j hlt3
          have hcp := hL.out.keep hB7.out j (by omega)
          generalize ps.getD j [] = p at *
          have YL : Hid (∀ W, Hid (Below We.heap.size We W) ∧ W.cell? ⟨g, 0, none⟩ = some (.string ⟨#[]⟩) ∧ W.cell? ⟨g, 1, none⟩ = some (.string ⟨sc.toArray⟩) ∧ W.cell? ⟨g, 2, none⟩ = some (.string ⟨ho.toArray⟩) ∧ W.cell? ⟨g, 3, none⟩ = some (.int .i64 n) ∧ W.cell? ⟨q, j, none⟩ = some (.string ⟨p.toArray⟩) → Calls Tryd.prog 9 #[.string ⟨p.toArray⟩, .agg #[.string ⟨#[]⟩, .string ⟨#[104, 116, 116, 112, 115]⟩, .string ⟨#[97, 46, 116, 101, 115, 116]⟩, .int .i64 443], .agg #[.string ⟨#[]⟩, .string ⟨sc.toArray⟩, .string ⟨ho.toArray⟩, .int .i64 n]] W fun r w' => r = .returned (.bool b1) ∧ Below W.heap.size W w') := fun W h => by
            rw [← q1]
            exact XL.out p W q3 (B8.out.trans (h.1.out.mono B8.out.size))
          have YI : Hid (∀ W, Hid (Below We.heap.size We W) ∧ W.cell? ⟨g, 0, none⟩ = some (.string ⟨#[]⟩) ∧ W.cell? ⟨g, 1, none⟩ = some (.string ⟨sc.toArray⟩) ∧ W.cell? ⟨g, 2, none⟩ = some (.string ⟨ho.toArray⟩) ∧ W.cell? ⟨g, 3, none⟩ = some (.int .i64 n) ∧ W.cell? ⟨q, j, none⟩ = some (.string ⟨p.toArray⟩) → Calls Tryd.prog 10 #[.string ⟨p.toArray⟩] W fun r w' => r = .returned (.bool b2) ∧ Below W.heap.size W w') := fun W h => by
            rw [← q2]
            exact XI.out p W q3 (B8.out.trans (h.1.out.mono B8.out.size))
          clear q1 q2 q3 XL XI XA HP HO hL hps
          go_upto_region 24 with fail
          go_cut [115] (fun v W => v = .bool false ∧ Hid (Below We.heap.size We W))
          case first => as_aux_lemma =>
            cases b1 <;> cases b2
            all_goals
              go_region_held3 (fun W => Hid (Below We.heap.size We W) ∧ W.cell? ⟨g, 0, none⟩ = some (.string ⟨#[]⟩) ∧ W.cell? ⟨g, 1, none⟩ = some (.string ⟨sc.toArray⟩) ∧ W.cell? ⟨g, 2, none⟩ = some (.string ⟨ho.toArray⟩) ∧ W.cell? ⟨g, 3, none⟩ = some (.int .i64 n) ∧ W.cell? ⟨q, j, none⟩ = some (.string ⟨p.toArray⟩))
                (first | exact held5 (by assumption) hb | exact held5 ⟨hide (Below.refl _ _), c0, c1, c2, c3, hcp⟩ (below_drew _))
                (first
                  | (go_at_call 8; refine (own6_any _).mono ?_; rintro e w' ⟨rfl, hb⟩)
                  | (go_at_call 9; refine (YL.out _ (by assumption)).mono ?_; rintro e w' ⟨rfl, hb⟩)
                  | (go_at_call 10; refine (YI.out _ (by assumption)).mono ?_; rintro e w' ⟨rfl, hb⟩))
            all_goals (go_wp2_with fail; go_meet)
            all_goals (case rel => exact ⟨rfl, And.left (by assumption)⟩)
          case rest =>
          obtain ⟨rfl, hB9⟩ := hcut
          go_wp2_with fail
          exact ⟨⟨j + 1, _, by omega, by go_num, rfl, hide (hB7.out.trans (hB9.out.mono hB7.out.size))⟩, by simp [intOf]; omega⟩
        · have BB := hide (B2.out.trans (B8.out.mono B2.out.size))
          have YA : Hid (∀ W, Hid (Below We.heap.size We W) ∧ W.cell? ⟨g, 0, none⟩ = some (.string ⟨#[]⟩) ∧ W.cell? ⟨g, 1, none⟩ = some (.string ⟨sc.toArray⟩) ∧ W.cell? ⟨g, 2, none⟩ = some (.string ⟨ho.toArray⟩) ∧ W.cell? ⟨g, 3, none⟩ = some (.int .i64 n) → Calls Tryd.prog 5 #[] W fun r w' => r = .returned (.bool true) ∧ Below W.heap.size W w') := fun W h => XA.out W (B8.out.trans (h.1.out.mono B8.out.size))
          have YL : Hid (∀ W, Hid (Below We.heap.size We W) ∧ W.cell? ⟨g, 0, none⟩ = some (.string ⟨#[]⟩) ∧ W.cell? ⟨g, 1, none⟩ = some (.string ⟨sc.toArray⟩) ∧ W.cell? ⟨g, 2, none⟩ = some (.string ⟨ho.toArray⟩) ∧ W.cell? ⟨g, 3, none⟩ = some (.int .i64 n) → Calls Tryd.prog 9 #[.string ⟨#[105, 109, 103, 45, 115, 114, 99, 32, 39, 110, 111, 110, 101, 39]⟩, .agg #[.string ⟨#[]⟩, .string ⟨#[104, 116, 116, 112, 115]⟩, .string ⟨#[97, 46, 116, 101, 115, 116]⟩, .int .i64 443], .agg #[.string ⟨#[]⟩, .string ⟨sc.toArray⟩, .string ⟨ho.toArray⟩, .int .i64 n]] W fun r w' => r = .returned (.bool true) ∧ Below W.heap.size W w') := fun W h => by
            have := XL.out imgNone W (by decide) (B8.out.trans (h.1.out.mono B8.out.size))
            rw [img_lets] at this
            exact this
          clear XL XI XA HP HO hL hps
          go_wp2_with fail
          go_region_held3 (fun W => Hid (Below We.heap.size We W) ∧ W.cell? ⟨g, 0, none⟩ = some (.string ⟨#[]⟩) ∧ W.cell? ⟨g, 1, none⟩ = some (.string ⟨sc.toArray⟩) ∧ W.cell? ⟨g, 2, none⟩ = some (.string ⟨ho.toArray⟩) ∧ W.cell? ⟨g, 3, none⟩ = some (.int .i64 n))
            (first | exact held_call (by assumption) hb | exact held_call ⟨hide (Below.refl _ _), c0, c1, c2, c3⟩ (below_drew _))
            (first
              | (go_at_call 8; refine (own6_any _).mono ?_; rintro e w' ⟨rfl, hb⟩)
              | (go_at_call 9; refine (YL.out _ (by assumption)).mono ?_; rintro e w' ⟨rfl, hb⟩)
              | (go_at_call 5; refine (YA.out _ (by assumption)).mono ?_; rintro e w' ⟨rfl, hb⟩))
          all_goals go_wp2_with fail
          all_goals go_ret
          all_goals exact ⟨rfl, held_end BB.out (by assumption)⟩
end Go.Proofs.YtmepjaepggomjaaDoor
