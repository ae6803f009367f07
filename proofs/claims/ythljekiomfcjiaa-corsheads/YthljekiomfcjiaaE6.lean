/- An endpoint that a walk lays and writes field by field. -/
import Derived.Test.YthljekiomfcjiaaE5
import Derived.Test.YthljekiomfcjiaaRows5
namespace Go.Proofs.Ythljekiomfcjiaa
open Go.RowKit Go.Proofs.Url

/-- All blocks below B but one are as they were. -/
def But (g B : Nat) (W W' : World) : Prop := W.heap.size ≤ W'.heap.size ∧ ∀ k, k < B → k ≠ g → W'.heap[k]? = W.heap[k]?
theorem But.refl (g B : Nat) (W : World) : But g B W W := ⟨Nat.le_refl _, fun _ _ _ => rfl⟩
theorem But.trans {g B : Nat} {W W' W'' : World} (h : But g B W W') (k : But g B W' W'') : But g B W W'' := ⟨Nat.le_trans h.1 k.1, fun i hi hn => (k.2 i hi hn).trans (h.2 i hi hn)⟩
theorem But.below {g B : Nat} {W W' : World} (h : Below B W W') : But g B W W' := ⟨h.size, fun k hk _ => h.block k hk⟩
theorem But.mono {g B B' : Nat} {W W' : World} (h : But g B W W') (hB : B' ≤ B) : But g B' W W' := ⟨h.1, fun k hk hn => h.2 k (by omega) hn⟩
theorem But.set {g B : Nat} {W W' : World} (h : But g B W W') (j : Nat) (v : Value) : But g B W (W'.setCell ⟨g, j, none⟩ v) :=
  h.trans ⟨by simp [World.setCell], fun k _ hn => Below.heap_setCell _ _ _ _ hn⟩
theorem But.cell {g B : Nat} {W W' : World} (h : But g B W W') {p : Addr} (hp : p.block < B) (hn : p.block ≠ g) : W'.cell? p = W.cell? p := World.cell?_of_block (w := W) (h.2 p.block hp hn)

/-- The variable that holds it. -/
structure Box (w W : World) (g : Nat) (E : Ep) : Prop where
  rg : W.rangeAt g 0 E.cells
  th : W.there g 0 21
  bel : Below w.heap.size w W
  lo : w.heap.size ≤ g
  hi : g < W.heap.size
theorem Box.keepB {w W W' : World} {g : Nat} {E : Ep} (h : Box w W g E) (hb : Below (g + 1) W W') : Box w W' g E :=
  ⟨range_keep h.rg hb (Nat.lt_succ_self g), fun j hj => by
    have := h.th j hj
    rw [Nat.zero_add] at this ⊢
    rw [hb.cell (p := ⟨g, j, none⟩) (Nat.lt_succ_self g), hb.frozen (p := ⟨g, j, none⟩) (Nat.lt_succ_self g)]; exact this,
   h.bel.trans (hb.mono (by have := h.lo; omega)), h.lo, Nat.lt_of_lt_of_le h.hi hb.size⟩
theorem Box.keep {w W W' : World} {g : Nat} {E : Ep} (h : Box w W g E) (hb : Below W.heap.size W W') : Box w W' g E := h.keepB (hb.mono (by have := h.hi; omega))
theorem Box.cell {w W : World} {g : Nat} {E : Ep} (h : Box w W g E) (j : Nat) (v : Value) (hj : E.cells[j]? = some v) : W.cell? ⟨g, j, none⟩ = some v := range_cell h.rg j v hj
theorem Box.free {w W : World} {g : Nat} {E : Ep} (h : Box w W g E) (j : Nat) (hj : j < 21) : W.frozen? ⟨g, j, none⟩ = false := by
  have := (h.th j hj).2
  rwa [Nat.zero_add] at this
theorem Box.set {w W : World} {g : Nat} {E E' : Ep} (h : Box w W g E) (j : Nat) (v : Value) (hj : j < 21) (he : E'.cells = E.cells.set j v) : Box w (W.setCell ⟨g, j, none⟩ v) g E' := by
  refine ⟨fun i u hi => ?_, fun i hi => ?_, h.bel.setCell (p := ⟨g, j, none⟩) h.lo v, h.lo, by have := h.hi; simpa [World.setCell] using this⟩
  · rw [Nat.zero_add]
    rw [he, List.getElem?_set] at hi
    by_cases hij : j = i
    · subst hij
      rw [if_pos rfl, if_pos (by exact hj)] at hi
      obtain rfl : v = u := by simpa using hi
      exact World.cell?_setCell_same' _ _ _ (by have := (h.th j hj).1; rwa [Nat.zero_add] at this)
    · rw [if_neg hij] at hi
      rw [World.cell?_setCell_other (h := fun e => hij (congrArg Addr.off e))]
      exact range_cell h.rg i u hi
  · rw [Nat.zero_add, World.frozen?_setCell]
    have := h.th i hi
    rw [Nat.zero_add] at this
    refine ⟨?_, this.2⟩
    by_cases hij : j = i
    · subst hij; rw [World.cell?_setCell_same' _ _ _ this.1]; rfl
    · rw [World.cell?_setCell_other (h := fun e => hij (congrArg Addr.off e))]; exact this.1

/-- Rows that lie behind that variable. -/
def HeadsFar (W : World) (g : Nat) (ao : Option Addr) (hs : List (List UInt8)) : Prop :=
  ∀ k (h : k < hs.length), ∃ b off, g < b ∧ ao = some ⟨b, off, none⟩ ∧ W.cell? ⟨b, off + k, none⟩ = some (.string ⟨hs[k].toArray⟩)
def NumsFar (W : World) (g : Nat) (ao : Option Addr) (cs : List Int) : Prop :=
  ∀ k (h : k < cs.length), ∃ b off, g < b ∧ ao = some ⟨b, off, none⟩ ∧ W.cell? ⟨b, off + k, none⟩ = some (.int .i64 cs[k])
theorem HeadsFar.but {W W' : World} {g : Nat} {ao : Option Addr} {hs : List (List UInt8)} (h : HeadsFar W g ao hs) (hb : But g W.heap.size W W') : HeadsFar W' g ao hs := fun k hk => by
  obtain ⟨b, off, h1, h2, h3⟩ := h k hk
  exact ⟨b, off, h1, h2, by rw [hb.cell (World.block_lt_of_cell? W _ h3) (by show b ≠ g; omega)]; exact h3⟩
theorem NumsFar.but {W W' : World} {g : Nat} {ao : Option Addr} {cs : List Int} (h : NumsFar W g ao cs) (hb : But g W.heap.size W W') : NumsFar W' g ao cs := fun k hk => by
  obtain ⟨b, off, h1, h2, h3⟩ := h k hk
  exact ⟨b, off, h1, h2, by rw [hb.cell (World.block_lt_of_cell? W _ h3) (by show b ≠ g; omega)]; exact h3⟩
structure EpFar (W : World) (g : Nat) (E : Ep) : Prop where
  hs : HeadsFar W g E.ho E.hs
  al : HeadsFar W g E.lo E.al
  ms : HeadsFar W g E.mo E.ms
  cs : NumsFar W g E.co E.cs
theorem HeadsFar.at {W : World} {g : Nat} {ao : Option Addr} {hs : List (List UInt8)} (h : HeadsFar W g ao hs) : HeadsAt W ao hs := fun k hk => by
  obtain ⟨b, off, _, h2, h3⟩ := h k hk
  exact ⟨b, off, h2, h3⟩
theorem NumsFar.at {W : World} {g : Nat} {ao : Option Addr} {cs : List Int} (h : NumsFar W g ao cs) : NumsAt W ao cs := fun k hk => by
  obtain ⟨b, off, _, h2, h3⟩ := h k hk
  exact ⟨b, off, h2, h3⟩
theorem EpFar.at {W : World} {g : Nat} {E : Ep} (h : EpFar W g E) : EpAt W E := ⟨h.hs.at, h.al.at, h.ms.at, h.cs.at⟩
theorem EpFar.but {W W' : World} {g : Nat} {E : Ep} (h : EpFar W g E) (hb : But g W.heap.size W W') : EpFar W' g E := ⟨h.hs.but hb, h.al.but hb, h.ms.but hb, h.cs.but hb⟩
theorem headsFar_nil (W : World) (g : Nat) (ao : Option Addr) : HeadsFar W g ao [] := fun k hk => absurd hk (by simp)
theorem numsFar_nil (W : World) (g : Nat) (ao : Option Addr) : NumsFar W g ao [] := fun k hk => absurd hk (by simp)
theorem headsFar_new (w : World) (ls : List (List UInt8)) (t : TypeId) (g : Nat) (hg : g < w.heap.size) : HeadsFar (w.alloc (Obj.cells (ls.map (fun l => Value.string ⟨l.toArray⟩)).toArray t)) g (some ⟨w.heap.size, 0, none⟩) ls := fun k hk =>
  ⟨w.heap.size, 0, hg, rfl, by rw [Nat.zero_add]; exact lit_cell w ls t k hk⟩
theorem headsFar_own {w : World} {g : Nat} {base : Nat} {ao : Option Addr} {cap : Nat} {qs : List (List UInt8)} (h : w.ownsRow base 9 1 (.slice ao qs.length cap) qs.length (qs.map (fun q => Value.string ⟨q.toArray⟩))) (hb : g < base) : HeadsFar w g ao qs := fun k hk => by
  obtain ⟨b, off, h1, h2⟩ := heads_own h k hk
  refine ⟨b, off, ?_, h1, h2⟩
  have := (h.lt b (by rw [h1]; rfl)).1
  omega
theorem infoI : (Try.prog.info? 3).map (fun i => (i.zero, i.size, i.bytes)) = some (some (.int .i64 0), 1, 8) := by kernel_rfl
theorem numsFar_own {w : World} {g base : Nat} {ao : Option Addr} {cap : Nat} {qs : List Int} (h : w.ownsRow base 3 1 (.slice ao qs.length cap) qs.length (qs.map (fun q => Value.int .i64 q))) (hb : g < base) : NumsFar w g ao qs := by
  intro k hk
  rcases h.2 with ⟨hv, h0⟩ | ⟨g', cap', cur, hv, hg, hh, hn, hm, hsz, htk⟩
  · omega
  · simp only [Value.slice.injEq, true_and] at hv
    obtain ⟨rfl, rfl⟩ := hv
    refine ⟨g', 0, by omega, rfl, ?_⟩
    have : (cur.toList.take (qs.length * 1))[k]? = (qs.map (fun q => Value.int .i64 q))[k]? := by rw [htk]
    rw [List.getElem?_take, if_pos (by omega)] at this
    have e : w.cell? ⟨g', 0 + k, none⟩ = cur[k]? := by simp [World.cell?, hh]
    rw [e]; simpa [hk] using this
theorem nums_roundB {B : Nat} {w3 : World} {qs : List Int} {x : Int} {v' : Value}
    (hown : w3.ownsRow B 3 1 v' (qs.length + 1) (qs.map (fun q => Value.int .i64 q) ++ [.int .i64 x])) :
    ∃ (ao : Option Addr) (cv : Nat), v' = .slice ao (qs ++ [x]).length cv ∧ Hid (w3.ownsRow B 3 1 (.slice ao (qs ++ [x]).length cv) (qs ++ [x]).length ((qs ++ [x]).map (fun q => Value.int .i64 q))) := by
  have hq : (qs ++ [x]).length = qs.length + 1 := by simp
  obtain ⟨g, cap, hv⟩ : ∃ g cap, v' = .slice (some ⟨g, 0, none⟩) (qs.length + 1) cap := by
    rcases hown.2 with ⟨_, h⟩ | ⟨g, cap, _, h, _⟩
    · omega
    · exact ⟨g, cap, h⟩
  subst hv
  refine ⟨some ⟨g, 0, none⟩, cap, by rw [hq], ?_⟩
  unfold Hid; rw [hq, List.map_append]; exact hown
theorem owns_set {w : World} {base : Nat} {e : TypeId} {size : Nat} {v : Value} {n : Nat} {xs : List Value} (h : w.ownsRow base e size v n xs) (g : Nat) (hg : g < base) (j : Nat) (u : Value) : (w.setCell ⟨g, j, none⟩ u).ownsRow base e size v n xs := by
  refine ⟨h.1, ?_⟩
  rcases h.2 with hn | ⟨b, cap, cur, hv, hb, hh, rest⟩
  · exact .inl hn
  · exact .inr ⟨b, cap, cur, hv, hb, by rw [Below.heap_setCell _ _ _ _ (by show b ≠ g; omega)]; exact hh, rest⟩
/-- A row of constant texts, made and stored into a field. -/
theorem size_set (W : World) (a : Addr) (v : Value) : (W.setCell a v).heap.size = W.heap.size := by simp [World.setCell]
theorem box_lit {w W : World} {g : Nat} {E E' : Ep} (j : Nat) (v : Value) (ob : Obj) (h : Box w W g E) (hj : j < 21) (he : E'.cells = E.cells.set j v) : Box w ((W.setCell ⟨g, j, none⟩ v).alloc ob) g E' :=
  (h.set j v hj he).keep ((Below.refl _ _).alloc (Nat.le_refl _) _)
theorem but_lit (W : World) (g j : Nat) (v : Value) (ob : Obj) : But g W.heap.size W ((W.setCell ⟨g, j, none⟩ v).alloc ob) :=
  ((But.refl g W.heap.size W).set j v).trans (But.below ((Below.refl _ _).alloc (by rw [size_set]; exact Nat.le_refl _) _))
theorem far_lit (W : World) (g j : Nat) (v : Value) (ls : List (List UInt8)) (t : TypeId) (hg : g < W.heap.size) : HeadsFar ((W.setCell ⟨g, j, none⟩ v).alloc (Obj.cells (ls.map (fun l => Value.string ⟨l.toArray⟩)).toArray t)) g (some ⟨W.heap.size, 0, none⟩) ls := by
  have := headsFar_new (W.setCell ⟨g, j, none⟩ v) ls t g (by rw [size_set]; exact hg)
  rwa [size_set] at this
/-- It is laid. -/
theorem box_laid (w0 w : World) (e : Ep) (hw : Below w0.heap.size w0 w) : ∃ W1, W1 = (w.alloc (Obj.cells #[.string ⟨#[]⟩, .int .i64 0, .string ⟨#[]⟩, .string ⟨#[]⟩, .bool false, .bool false, .slice none 0 0, .slice none 0 0, .slice none 0 0, .bool false, .slice none 0 0, .slice none 0 0, .bool false, .bool false, .int .i64 0, .bool false, .bool false, .slice none 0 0, .slice none 0 0, .slice none 0 0, .string ⟨#[]⟩] 25)).setCells w.heap.size 0 e.cells.toArray.toList ∧ Box w0 W1 w.heap.size e ∧ Below w.heap.size w W1 := by
  obtain ⟨W1, h1, h2, h3, h4⟩ := ep_laid w e
  have hs := hw.size
  refine ⟨W1, h1, ⟨h2, ?_, hw.trans (h3.mono hs), hs, h4⟩, h3⟩
  rw [h1]
  exact World.there_setCells (there_new w epZero 25) _ _ _
end Go.Proofs.Ythljekiomfcjiaa
