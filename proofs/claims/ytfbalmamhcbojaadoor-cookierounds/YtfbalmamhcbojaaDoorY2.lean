/- A cookie in memory; the walks over package cookie's small functions: sameText, readSame, fillIn. -/
import Derived.Test.YtfbalmamhcbojaaDoorV0
import Derived.Test.YtfbalmamhcbojaaDoorY1
import Derived.Test.YtfbalmamhcbojaaDoorBut
namespace Go.Proofs.YtfbalmamhcbojaaDoor
open Go.RowKit Go.Proofs.Url

theorem ret_strL {a b : List UInt8} (h : a = b) : Ending.returned (.string ⟨a.toArray⟩) = .returned (.string ⟨b.toArray⟩) := by rw [h]
/-- The cells of a cookie that is read. -/
structure CBox (W : World) (g : Nat) (c : Ck) : Prop where
  c0 : W.cell? ⟨g, 0, none⟩ = some (.string ⟨#[]⟩)
  c1 : W.cell? ⟨g, 1, none⟩ = some (.int .i64 0)
  c2 : W.cell? ⟨g, 2, none⟩ = some (.string ⟨c.dom.toArray⟩)
  c3 : W.cell? ⟨g, 3, none⟩ = some (.string ⟨c.way.toArray⟩)
  c4 : W.cell? ⟨g, 4, none⟩ = some (.bool c.sec)
  c5 : W.cell? ⟨g, 5, none⟩ = some (.bool c.htt)
  c6 : W.cell? ⟨g, 6, none⟩ = some (.int .i64 c.same)
  fr : ∀ j, j < 7 → W.frozen? ⟨g, j, none⟩ = false
theorem CBox.lt {W : World} {g : Nat} {c : Ck} (h : CBox W g c) : g < W.heap.size := World.block_lt_of_cell? W _ h.c0
theorem CBox.same {W W' : World} {g : Nat} {c : Ck} (h : CBox W g c) (hb : W'.heap[g]? = W.heap[g]?) : CBox W' g c := by
  have hc : ∀ j, W'.cell? ⟨g, j, none⟩ = W.cell? ⟨g, j, none⟩ := fun j => World.cell?_of_block (w := W) hb
  have hf : ∀ j, W'.frozen? ⟨g, j, none⟩ = W.frozen? ⟨g, j, none⟩ := fun j => by unfold World.frozen?; simp only [hb]
  exact ⟨by rw [hc]; exact h.c0, by rw [hc]; exact h.c1, by rw [hc]; exact h.c2, by rw [hc]; exact h.c3, by rw [hc]; exact h.c4, by rw [hc]; exact h.c5, by rw [hc]; exact h.c6, fun j hj => by rw [hf]; exact h.fr j hj⟩
theorem CBox.keepB {W W' : World} {g : Nat} {c : Ck} (h : CBox W g c) (hb : Below (g + 1) W W') : CBox W' g c := h.same (hb.block g (Nat.lt_succ_self g))
theorem CBox.keep {W W' : World} {g : Nat} {c : Ck} (h : CBox W g c) (hb : Below W.heap.size W W') : CBox W' g c := h.same (hb.block g h.lt)
theorem CBox.but {W W' : World} {g r : Nat} {c : Ck} (h : CBox W r c) (hb : But g W.heap.size W W') (hn : r ≠ g) : CBox W' r c := h.same (hb.block r h.lt hn)
theorem cell_same {W : World} {g j : Nat} {u v : Value} (h : W.cell? ⟨g, j, none⟩ = some u) : (W.setCell ⟨g, j, none⟩ v).cell? ⟨g, j, none⟩ = some v := World.cell?_setCell_same _ _ _ h
theorem cell_other {W : World} {g i j : Nat} {u v : Value} (h : W.cell? ⟨g, j, none⟩ = some u) (hij : i ≠ j) : (W.setCell ⟨g, i, none⟩ v).cell? ⟨g, j, none⟩ = some u := by
  rw [World.cell?_setCell_other (h := fun e => hij (congrArg Addr.off e))]; exact h
theorem CBox.frS {W : World} {g : Nat} {c : Ck} (h : CBox W g c) (i : Nat) (v : Value) : ∀ j, j < 7 → (W.setCell ⟨g, i, none⟩ v).frozen? ⟨g, j, none⟩ = false := fun j hj => by
  rw [World.frozen?_setCell]; exact h.fr j hj
theorem CBox.setDom {W : World} {g : Nat} {c : Ck} (h : CBox W g c) (v : List UInt8) : CBox (W.setCell ⟨g, 2, none⟩ (.string ⟨v.toArray⟩)) g { c with dom := v } :=
  ⟨cell_other h.c0 (by decide), cell_other h.c1 (by decide), cell_same h.c2, cell_other h.c3 (by decide), cell_other h.c4 (by decide), cell_other h.c5 (by decide), cell_other h.c6 (by decide), h.frS _ _⟩
theorem CBox.setWay {W : World} {g : Nat} {c : Ck} (h : CBox W g c) (v : List UInt8) : CBox (W.setCell ⟨g, 3, none⟩ (.string ⟨v.toArray⟩)) g { c with way := v } :=
  ⟨cell_other h.c0 (by decide), cell_other h.c1 (by decide), cell_other h.c2 (by decide), cell_same h.c3, cell_other h.c4 (by decide), cell_other h.c5 (by decide), cell_other h.c6 (by decide), h.frS _ _⟩
theorem CBox.setSec {W : World} {g : Nat} {c : Ck} (h : CBox W g c) (b : Bool) : CBox (W.setCell ⟨g, 4, none⟩ (.bool b)) g { c with sec := b } :=
  ⟨cell_other h.c0 (by decide), cell_other h.c1 (by decide), cell_other h.c2 (by decide), cell_other h.c3 (by decide), cell_same h.c4, cell_other h.c5 (by decide), cell_other h.c6 (by decide), h.frS _ _⟩
theorem CBox.setHtt {W : World} {g : Nat} {c : Ck} (h : CBox W g c) (b : Bool) : CBox (W.setCell ⟨g, 5, none⟩ (.bool b)) g { c with htt := b } :=
  ⟨cell_other h.c0 (by decide), cell_other h.c1 (by decide), cell_other h.c2 (by decide), cell_other h.c3 (by decide), cell_other h.c4 (by decide), cell_same h.c5, cell_other h.c6 (by decide), h.frS _ _⟩
theorem CBox.setSame {W : World} {g : Nat} {c : Ck} (h : CBox W g c) (n : Nat) : CBox (W.setCell ⟨g, 6, none⟩ (.int .i64 n)) g { c with same := n } :=
  ⟨cell_other h.c0 (by decide), cell_other h.c1 (by decide), cell_other h.c2 (by decide), cell_other h.c3 (by decide), cell_other h.c4 (by decide), cell_other h.c5 (by decide), cell_same h.c6, h.frS _ _⟩
theorem CBox.newC (w : World) (t : TypeId) (c : Ck) : CBox (w.alloc (.cells #[.string ⟨#[]⟩, .int .i64 0, .string ⟨c.dom.toArray⟩, .string ⟨c.way.toArray⟩, .bool c.sec, .bool c.htt, .int .i64 c.same] t)) w.heap.size c := by
  refine ⟨?_, ?_, ?_, ?_, ?_, ?_, ?_, fun j hj => ?_⟩
  all_goals (first | (rw [World.frozen?_alloc_new]; done) | (rw [World.cell?_alloc_new]; rfl))
theorem CBox.new (w : World) (t : TypeId) : CBox (w.alloc (.cells #[.string ⟨#[]⟩, .int .i64 0, .string ⟨#[]⟩, .string ⟨#[]⟩, .bool false, .bool false, .int .i64 0] t)) w.heap.size zeroC := by
  refine ⟨?_, ?_, ?_, ?_, ?_, ?_, ?_, fun j hj => ?_⟩
  all_goals (first | (rw [World.frozen?_alloc_new]; done) | (rw [World.cell?_alloc_new]; rfl))

/-- A whole cookie is stored. -/
def put7 (W : World) (g : Nat) (c : Ck) : World := ((((((W.setCell ⟨g, 0, none⟩ (.string ⟨#[]⟩)).setCell ⟨g, 1, none⟩ (.int .i64 0)).setCell ⟨g, 2, none⟩ (.string ⟨c.dom.toArray⟩)).setCell ⟨g, 3, none⟩ (.string ⟨c.way.toArray⟩)).setCell ⟨g, 4, none⟩ (.bool c.sec)).setCell ⟨g, 5, none⟩ (.bool c.htt)).setCell ⟨g, 6, none⟩ (.int .i64 c.same)
theorem CBox.set0 {W : World} {g : Nat} {c : Ck} (h : CBox W g c) : CBox (W.setCell ⟨g, 0, none⟩ (.string ⟨#[]⟩)) g c :=
  ⟨cell_same h.c0, cell_other h.c1 (by decide), cell_other h.c2 (by decide), cell_other h.c3 (by decide), cell_other h.c4 (by decide), cell_other h.c5 (by decide), cell_other h.c6 (by decide), h.frS _ _⟩
theorem CBox.set1 {W : World} {g : Nat} {c : Ck} (h : CBox W g c) : CBox (W.setCell ⟨g, 1, none⟩ (.int .i64 0)) g c :=
  ⟨cell_other h.c0 (by decide), cell_same h.c1, cell_other h.c2 (by decide), cell_other h.c3 (by decide), cell_other h.c4 (by decide), cell_other h.c5 (by decide), cell_other h.c6 (by decide), h.frS _ _⟩
theorem CBox.put {W : World} {g : Nat} {z : Ck} (h : CBox W g z) (c : Ck) : CBox (put7 W g c) g c := ((((((h.set0).set1).setDom c.dom).setWay c.way).setSec c.sec).setHtt c.htt).setSame c.same
theorem put_below {B : Nat} {a W : World} (h : Below B a W) (g : Nat) (hg : B ≤ g) (c : Ck) : Below B a (put7 W g c) :=
  ((((((h.setCell (p := ⟨g, 0, none⟩) hg _).setCell (p := ⟨g, 1, none⟩) hg _).setCell (p := ⟨g, 2, none⟩) hg _).setCell (p := ⟨g, 3, none⟩) hg _).setCell (p := ⟨g, 4, none⟩) hg _).setCell (p := ⟨g, 5, none⟩) hg _).setCell (p := ⟨g, 6, none⟩) hg _
def ckA (c : Ck) : Value := .agg #[.string ⟨#[]⟩, .int .i64 0, .string ⟨c.dom.toArray⟩, .string ⟨c.way.toArray⟩, .bool c.sec, .bool c.htt, .int .i64 c.same]

set_option maxHeartbeats 400000 in
theorem sameText_any (n : Int) (w : World) :
    Calls Tryd.prog 22 #[.int .i64 n] w fun e w' => e = .returned (.string ⟨(sameT n).toArray⟩) ∧ w' = w := by
  go_enter Tryd.func22, Tryd.ntmps22
  go_wp2
  all_goals go_ret
  all_goals refine ⟨ret_strL ?_, rfl⟩
  all_goals simp_all [sameT]

set_option maxHeartbeats 400000 in
theorem readSame_any (l : List UInt8) (w : World) (hl : l.length < 4294967281) :
    Calls Tryd.prog 33 #[.string ⟨l.toArray⟩] w fun e w' => e = .returned (.int .i64 (sameV l)) ∧ Below w.heap.size w w' := by
  have HH : Hid (sameV l = lowV (lowerS l)) := rfl
  go_enter Tryd.func33, Tryd.ntmps33
  go_wp2_with fail
  refine (lower_any l _ hl).mono ?_
  rintro e w1 ⟨rfl, hb1⟩
  generalize lowerS l = lo at *
  go_wp2_with fail
  all_goals go_ret
  all_goals exact ⟨ret_int (by rw [HH.out]; simp_all [lowV, vNone, vLax, vStrict]), hb1⟩

theorem CBox.eta {W : World} {g : Nat} {c d : Ck} (h : CBox W g c) (he : c = d) : CBox W g d := he ▸ h
set_option maxHeartbeats 400000 in
theorem fillIn_any (g : Nat) (c : Ck) (w : World) (h : CBox w g c) :
    Calls Tryd.prog 15 #[.pointer (some ⟨g, 0, none⟩)] w fun e w' => (∃ v, e = .returned v) ∧ CBox w' g (fillC c) ∧ But g w.heap.size w w' := by
  have c3 := h.c3
  have f3 := h.fr 3 (by decide)
  have c6 := h.c6
  have f6 := h.fr 6 (by decide)
  have HB := hide h
  clear h
  cases hw : c.way.isEmpty with
  | true =>
    by_cases hs : c.same = 0
    · have HF : Hid (fillC c = { { c with way := [47] } with same := 2 }) := by unfold Hid fillC; rw [hw, if_pos hs]; rfl
      have hsb : ((c.same : Int) == 0) = true := beq_iff_eq.2 (by omega)
      clear hs
      go_enter Tryd.func15, Tryd.ntmps15
      go_wp2_with fail
      exact bodyPost_end (v := .tuple #[]) (by kernel_rfl) rfl ⟨⟨_, rfl⟩, ((HB.out.setWay [47]).setSame 2).eta HF.out.symm, ((But.refl g _ _).set 3 _).set 6 _⟩
    · have HF : Hid (fillC c = { c with way := [47] }) := by unfold Hid fillC; rw [hw, if_neg hs]; rfl
      have hsb : ((c.same : Int) == 0) = false := beq_eq_false_iff_ne.2 (by omega)
      clear hs
      go_enter Tryd.func15, Tryd.ntmps15
      go_wp2_with fail
      exact bodyPost_end (v := .tuple #[]) (by kernel_rfl) rfl ⟨⟨_, rfl⟩, (HB.out.setWay [47]).eta HF.out.symm, (But.refl g _ _).set 3 _⟩
  | false =>
    by_cases hs : c.same = 0
    · have HF : Hid (fillC c = { c with same := 2 }) := by unfold Hid fillC; rw [hw, if_pos hs]; rfl
      have hsb : ((c.same : Int) == 0) = true := beq_iff_eq.2 (by omega)
      clear hs
      go_enter Tryd.func15, Tryd.ntmps15
      go_wp2_with fail
      exact bodyPost_end (v := .tuple #[]) (by kernel_rfl) rfl ⟨⟨_, rfl⟩, (HB.out.setSame 2).eta HF.out.symm, (But.refl g _ _).set 6 _⟩
    · have HF : Hid (fillC c = c) := by unfold Hid fillC; rw [hw, if_neg hs]; rfl
      have hsb : ((c.same : Int) == 0) = false := beq_eq_false_iff_ne.2 (by omega)
      clear hs
      go_enter Tryd.func15, Tryd.ntmps15
      go_wp2_with fail
      exact bodyPost_end (v := .tuple #[]) (by kernel_rfl) rfl ⟨⟨_, rfl⟩, HB.out.eta HF.out.symm, But.refl g _ _⟩
end Go.Proofs.YtfbalmamhcbojaaDoor
