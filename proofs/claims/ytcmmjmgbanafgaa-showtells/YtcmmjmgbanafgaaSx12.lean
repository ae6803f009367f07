/- An item in memory (text by make/sx12.py). -/
import Derived.Test.YtcmmjmgbanafgaaSx11
import Derived.Deep.MidRow
namespace Go.Proofs.Ytcmmjmgbanafgaa
open Go.RowKit Go.Proofs.Url Go.Proofs.Url.Syn

def itmCells (k : List UInt8) (a : Nat) (nm wh cp tx : Tk) (sl : Value) (pf : Option Addr) : List Value := [.string ⟨k.toArray⟩, .int .i64 a, .int .i64 nm.kind, .int .i64 nm.at', .string ⟨nm.text.toArray⟩, .int .i64 wh.kind, .int .i64 wh.at', .string ⟨wh.text.toArray⟩, .int .i64 cp.kind, .int .i64 cp.at', .string ⟨cp.text.toArray⟩, .int .i64 tx.kind, .int .i64 tx.at', .string ⟨tx.text.toArray⟩, sl, .pointer pf]
abbrev zeroI : List Value := itmCells [] 0 zeroT zeroT zeroT zeroT (.slice none 0 0) none
/-- Sixteen cells in a block. -/
structure BX (W : World) (n : Nat) (cs : List Value) : Prop where
  c : ∀ j v, cs[j]? = some v → W.cell? ⟨n, j, none⟩ = some v
  fr : ∀ j, j < 16 → W.frozen? ⟨n, j, none⟩ = false
  len : cs.length = 16
theorem BX.lt {W : World} {n : Nat} {cs : List Value} (h : BX W n cs) : n < W.heap.size := World.block_lt_of_cell? W _ (h.c 0 (cs[0]'(by rw [h.len]; decide)) (List.getElem?_eq_getElem _))
theorem BX.same {W W' : World} {n : Nat} {cs : List Value} (h : BX W n cs) (hb : W'.heap[n]? = W.heap[n]?) : BX W' n cs :=
  ⟨fun j v hv => by rw [World.cell?_of_block (w := W) hb]; exact h.c j v hv, fun j hj => by unfold World.frozen?; simp only [hb]; exact h.fr j hj, h.len⟩
theorem BX.but {g : Nat} {W W' : World} {n : Nat} {cs : List Value} (h : BX W n cs) (hb : ButP g W W') (hn : n ≠ g) : BX W' n cs := h.same (hb.block n h.lt hn)
theorem BX.set {W : World} {n : Nat} {cs : List Value} (h : BX W n cs) (j : Nat) (hj : j < 16) (v : Value) : BX (W.setCell ⟨n, j, none⟩ v) n (cs.set j v) := by
  have hj' : j < cs.length := by rw [h.len]; exact hj
  refine ⟨fun i u hu => ?_, fun i hi => ?_, by rw [List.length_set]; exact h.len⟩
  · by_cases e : j = i
    · subst e
      rw [List.getElem?_set_self hj'] at hu
      cases hu
      exact tcell_same (h.c j cs[j] (List.getElem?_eq_getElem hj'))
    · rw [List.getElem?_set_ne e] at hu
      exact tcell_other (h.c i u hu) e
  · rw [World.frozen?_setCell]; exact h.fr i hi
theorem BX.new (w : World) (cs : List Value) (hc : cs.length = 16) (t : TypeId) : BX (w.alloc (.cells cs.toArray t)) w.heap.size cs := by
  refine ⟨fun j v hv => ?_, fun j hj => ?_, hc⟩
  · rw [World.cell?_alloc_new]; simpa using hv
  · rw [World.frozen?_alloc_new]
def put16 (W : World) (n : Nat) (k : List UInt8) (a : Nat) (nm wh cp tx : Tk) (sl : Value) (pf : Option Addr) : World := (((((((((((((((W.setCell ⟨n, 0, none⟩ (.string ⟨k.toArray⟩)).setCell ⟨n, 1, none⟩ (.int .i64 a)).setCell ⟨n, 2, none⟩ (.int .i64 nm.kind)).setCell ⟨n, 3, none⟩ (.int .i64 nm.at')).setCell ⟨n, 4, none⟩ (.string ⟨nm.text.toArray⟩)).setCell ⟨n, 5, none⟩ (.int .i64 wh.kind)).setCell ⟨n, 6, none⟩ (.int .i64 wh.at')).setCell ⟨n, 7, none⟩ (.string ⟨wh.text.toArray⟩)).setCell ⟨n, 8, none⟩ (.int .i64 cp.kind)).setCell ⟨n, 9, none⟩ (.int .i64 cp.at')).setCell ⟨n, 10, none⟩ (.string ⟨cp.text.toArray⟩)).setCell ⟨n, 11, none⟩ (.int .i64 tx.kind)).setCell ⟨n, 12, none⟩ (.int .i64 tx.at')).setCell ⟨n, 13, none⟩ (.string ⟨tx.text.toArray⟩)).setCell ⟨n, 14, none⟩ sl).setCell ⟨n, 15, none⟩ (.pointer pf)
theorem BX.put16 {W : World} {n : Nat} (h : BX W n zeroI) (k : List UInt8) (a : Nat) (nm wh cp tx : Tk) (sl : Value) (pf : Option Addr) : BX (put16 W n k a nm wh cp tx sl pf) n (itmCells k a nm wh cp tx sl pf) := (((((((((((((((h.set 0 (by decide) _).set 1 (by decide) _).set 2 (by decide) _).set 3 (by decide) _).set 4 (by decide) _).set 5 (by decide) _).set 6 (by decide) _).set 7 (by decide) _).set 8 (by decide) _).set 9 (by decide) _).set 10 (by decide) _).set 11 (by decide) _).set 12 (by decide) _).set 13 (by decide) _).set 14 (by decide) _).set 15 (by decide) _
theorem put16_below {B : Nat} (W : World) (n : Nat) (hn : B ≤ n) (k : List UInt8) (a : Nat) (nm wh cp tx : Tk) (sl : Value) (pf : Option Addr) : Below B W (put16 W n k a nm wh cp tx sl pf) := ((((((((((((((((Below.refl _ _).setCell (p := ⟨n, 0, none⟩) hn _).setCell (p := ⟨n, 1, none⟩) hn _).setCell (p := ⟨n, 2, none⟩) hn _).setCell (p := ⟨n, 3, none⟩) hn _).setCell (p := ⟨n, 4, none⟩) hn _).setCell (p := ⟨n, 5, none⟩) hn _).setCell (p := ⟨n, 6, none⟩) hn _).setCell (p := ⟨n, 7, none⟩) hn _).setCell (p := ⟨n, 8, none⟩) hn _).setCell (p := ⟨n, 9, none⟩) hn _).setCell (p := ⟨n, 10, none⟩) hn _).setCell (p := ⟨n, 11, none⟩) hn _).setCell (p := ⟨n, 12, none⟩) hn _).setCell (p := ⟨n, 13, none⟩) hn _).setCell (p := ⟨n, 14, none⟩) hn _).setCell (p := ⟨n, 15, none⟩) hn _
/-- A row of attributes, above the parser's block. -/
def AtrsAt (W : World) (g : Nat) (ao : Option Addr) (l : List Atr) : Prop :=
  ∀ i (h : i < l.length), ∃ b, ao = some ⟨b, 0, none⟩ ∧ g < b ∧ W.cell? ⟨b, i * 5, none⟩ = some (.string ⟨l[i].k.toArray⟩) ∧ W.cell? ⟨b, i * 5 + 1, none⟩ = some (.int .i64 l[i].at') ∧ W.cell? ⟨b, i * 5 + 2, none⟩ = some (.int .i64 l[i].t.kind) ∧ W.cell? ⟨b, i * 5 + 3, none⟩ = some (.int .i64 l[i].t.at') ∧ W.cell? ⟨b, i * 5 + 4, none⟩ = some (.string ⟨l[i].t.text.toArray⟩)
theorem AtrsAt.nil (W : World) (g : Nat) : AtrsAt W g none [] := fun i h => by simp at h
theorem AtrsAt.but {g : Nat} {W W' : World} {ao : Option Addr} {l : List Atr} (h : AtrsAt W g ao l) (hb : ButP g W W') : AtrsAt W' g ao l := by
  intro i hi
  obtain ⟨b, h1, h2, h3, h4, h5, h6, h7⟩ := h i hi
  exact ⟨b, h1, h2, hb.cellP h2 h3, hb.cellP h2 h4, hb.cellP h2 h5, hb.cellP h2 h6, hb.cellP h2 h7⟩
def FAt (W : World) (g : Nat) (pf : Option Addr) : Option Fm → Prop
  | none => pf = none
  | some f => NodeAt W g pf f
theorem FAt.but {g : Nat} {W W' : World} {pf : Option Addr} {f : Option Fm} (h : FAt W g pf f) (hb : ButP g W W') : FAt W' g pf f := by
  cases f with
  | none => exact h
  | some f => exact NodeAt.but hb (Nat.le_refl _) h
/-- An item as a value. -/
def ItmAt (W : World) (g : Nat) (cs : List Value) (y : Itm) : Prop :=
  ∃ ao c pf, cs = itmCells y.k y.at' y.name y.whr y.caps y.txt (.slice ao y.attrs.length c) pf ∧ AtrsAt W g ao y.attrs ∧ FAt W g pf y.f
theorem ItmAt.but {g : Nat} {W W' : World} {cs : List Value} {y : Itm} (h : ItmAt W g cs y) (hb : ButP g W W') : ItmAt W' g cs y := by
  obtain ⟨ao, c, pf, h1, h2, h3⟩ := h
  exact ⟨ao, c, pf, h1, h2.but hb, h3.but hb⟩
/-- What item leaves. -/
def OutI (x : Rd Itm) (g : Nat) (ao : Option Addr) (cap : Nat) (ts : List Tk) (w : World) (e : Ending) (w' : World) : Prop :=
  ∃ k a nm wh cp tx sa sl sc pf, e = .returned (.agg (itmCells k a nm wh cp tx (.slice sa sl sc) pf).toArray) ∧ ButP g w w' ∧ (match x with
    | .ok y r => ItmAt w' (w.heap.size - 1) (itmCells k a nm wh cp tx (.slice sa sl sc) pf) y ∧ PS w' g ao cap ts r false
    | .bad r => PS w' g ao cap ts r true)
/-- item's own memory: its result, the item that it makes, the parser. -/
structure ItIn (w W : World) (g n m : Nat) (ao : Option Addr) (cap : Nat) (ts : List Tk) (s : St) (cs : List Value) : Prop where
  res : BX W n zeroI
  own : BX W m cs
  ps : PS W g ao cap ts s.1 s.2
  bt : ButP g w W
  hg : g < n
  hn : w.heap.size ≤ n
  hm : n < m
theorem ItIn.step {w W W' : World} {g n m : Nat} {ao : Option Addr} {cap : Nat} {ts : List Tk} {s s' : St} {cs : List Value} (h : ItIn w W g n m ao cap ts s cs) (hp : PS W' g ao cap ts s'.1 s'.2) (hb : ButP g W W') : ItIn w W' g n m ao cap ts s' cs :=
  ⟨h.res.but hb (by have := h.hg; omega), h.own.but hb (by have := h.hg; have := h.hm; omega), hp, h.bt.trans hb, h.hg, h.hn, h.hm⟩
theorem ItIn.set {w W : World} {g n m : Nat} {ao : Option Addr} {cap : Nat} {ts : List Tk} {s : St} {cs : List Value} (h : ItIn w W g n m ao cap ts s cs) (j : Nat) (hj : j < 16) (v : Value) : ItIn w (W.setCell ⟨m, j, none⟩ v) g n m ao cap ts s (cs.set j v) :=
  ⟨h.res.same (Below.heap_setCell _ _ _ _ (by have := h.hm; show n ≠ m; omega)), h.own.set j hj v, h.ps.above ((Below.refl _ _).setCell (p := ⟨m, j, none⟩) (by have := h.hg; have := h.hm; show g + 1 ≤ m; omega) v), But.trans h.bt (But.below ((Below.refl _ _).setCell (p := ⟨m, j, none⟩) (by have := h.hn; have := h.hm; show w.heap.size ≤ m; omega) v)), h.hg, h.hn, h.hm⟩
theorem ItIn.putT {w W : World} {g n m : Nat} {ao : Option Addr} {cap : Nat} {ts : List Tk} {s : St} {cs : List Value} (h : ItIn w W g n m ao cap ts s cs) (i j k : Nat) (hi : i < 16) (hj : j < 16) (hk : k < 16) (t : Tk) :
    ItIn w (putT W m i j k t) g n m ao cap ts s (((cs.set i (.int .i64 t.kind)).set j (.int .i64 t.at')).set k (.string ⟨t.text.toArray⟩)) :=
  ((h.set i hi _).set j hj _).set k hk _
theorem BX.range {W : World} {n : Nat} {cs : List Value} (h : BX W n cs) : W.rangeAt n 0 cs := fun j v hv => by rw [Nat.zero_add]; exact h.c j v hv
theorem BX.there {W : World} {n : Nat} {cs : List Value} (h : BX W n cs) : W.there n 0 16 := fun j hj => by
  have hj' : j < cs.length := by rw [h.len]; exact hj
  rw [Nat.zero_add]
  exact ⟨by rw [h.c j cs[j] (List.getElem?_eq_getElem hj')]; rfl, h.fr j hj⟩
theorem setCells_below {B : Nat} {n : Nat} (hn : B ≤ n) : ∀ (vs : List Value) (o : Nat) (W : World), Below B W (W.setCells n o vs)
  | [], _, _ => Below.refl _ _
  | v :: r, o, W => by
    rw [World.setCells]
    exact ((Below.refl B W).setCell (p := ⟨n, o, none⟩) hn v).trans (setCells_below hn r (o + 1) _)
theorem setCells_but {n : Nat} : ∀ (vs : List Value) (o : Nat) (W : World), ButP n W (W.setCells n o vs)
  | [], _, W => But.refl _ _ W
  | v :: r, o, W => by
    rw [World.setCells]
    exact ((But.refl n W.heap.size W).set o v).trans ((setCells_but r (o + 1) _).mono (by rw [size_set]; exact Nat.le_refl _))
theorem BX.setCells {W : World} {n : Nat} {cs0 : List Value} (h : BX W n cs0) (cs : List Value) (hc : cs.length = 16) : BX (W.setCells n 0 cs) n cs := by
  have h1 := World.rangeAt_setCells_same W n 0 cs (by rw [hc]; exact h.there)
  have h2 := World.there_setCells h.there n 0 cs
  exact ⟨fun j v hv => by have := h1 j v hv; rwa [Nat.zero_add] at this, fun j hj => by have := (h2 j hj).2; rwa [Nat.zero_add] at this, hc⟩
theorem itm_one (k : List UInt8) (a : Nat) (nm wh cp tx : Tk) (sa : Option Addr) (sl sc : Nat) (pf : Option Addr) : (itmCells k a nm wh cp tx (.slice sa sl sc) pf).toArray.all (·.oneCell') = true := by simp [itmCells, Value.oneCell']
set_option maxHeartbeats 1000000 in
theorem resReadItem {W : World} {n : Nat} {cs : List Value} {tmps : Array Value} (h : BX W n cs) (h2 : tmps[2]?.getD undef = .pointer (some ⟨n, 0, none⟩)) :
    (results Try.f34 tmps).run Try.prog W = .ok (.agg cs.toArray) W := by
  match cs, h, h.len with
  | [v0, v1, v2, v3, v4, v5, v6, v7, v8, v9, v10, v11, v12, v13, v14, v15], h, _ =>
    have c0 := h.c 0 _ rfl
    have c1 := h.c 1 _ rfl
    have c2 := h.c 2 _ rfl
    have c3 := h.c 3 _ rfl
    have c4 := h.c 4 _ rfl
    have c5 := h.c 5 _ rfl
    have c6 := h.c 6 _ rfl
    have c7 := h.c 7 _ rfl
    have c8 := h.c 8 _ rfl
    have c9 := h.c 9 _ rfl
    have c10 := h.c 10 _ rfl
    have c11 := h.c 11 _ rfl
    have c12 := h.c 12 _ rfl
    have c13 := h.c 13 _ rfl
    have c14 := h.c 14 _ rfl
    have c15 := h.c 15 _ rfl
    simp [results, Try.results34, go_sem, h2, c0, c1, c2, c3, c4, c5, c6, c7, c8, c9, c10, c11, c12, c13, c14, c15]
theorem pKindS (k : Nat) {g : Nat} {ao : Option Addr} {cap : Nat} {ts : List Tk} {s : St} {w : World} (h : PS w g ao cap ts s.1 s.2) (hl : ts.length < 4294967281) :
    Calls Try.prog 62 #[.pointer (some ⟨g, 0, none⟩), .int .i64 k] w fun e w' => e = .returned (tokV (kindTok k s)) ∧ PS w' g ao cap ts (kindSt k s).1 (kindSt k s).2 ∧ ButP g w w' := pKind_any k g ao cap ts s.1 s.2 w h hl
theorem pNeedS (x : List UInt8) {g : Nat} {ao : Option Addr} {cap : Nat} {ts : List Tk} {s : St} {w : World} (h : PS w g ao cap ts s.1 s.2) (hl : ts.length < 4294967281) :
    Calls Try.prog 63 #[.pointer (some ⟨g, 0, none⟩), .string ⟨x.toArray⟩] w fun e w' => e = .returned (.tuple #[]) ∧ PS w' g ao cap ts (needSt x s).1 (needSt x s).2 ∧ ButP g w w' := pNeed_any x g ao cap ts s.1 s.2 w h hl
theorem pFormulaS {g : Nat} {ao : Option Addr} {cap : Nat} {ts : List Tk} {s : St} {w : World} (h : PS w g ao cap ts s.1 s.2) (hl : ts.length < 4294967281) :
    Calls Try.prog 66 #[.pointer (some ⟨g, 0, none⟩)] w fun e w' => OutP (forRd s) g ao cap ts w e w' := by
  obtain ⟨r, b⟩ := s
  cases b with
  | true => exact formulaBad g ao cap ts r w h hl
  | false => exact pFormula_any g ao cap ts r w h hl
end Go.Proofs.Ytcmmjmgbanafgaa
