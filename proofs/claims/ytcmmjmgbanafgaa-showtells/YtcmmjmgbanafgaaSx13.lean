/- The walk over moatref10.Parser's item (text by make/sx13.py). -/
import Derived.Test.YtcmmjmgbanafgaaSx12b
import Derived.Deep.CutBlock
import Derived.Deep.DeepCutAuto
namespace Go.Proofs.Ytcmmjmgbanafgaa
open Go.RowKit Go.Proofs.Url Go.Proofs.Url.Syn

theorem put16_but (W : World) (n : Nat) (k : List UInt8) (a : Nat) (nm wh cp tx : Tk) (sl : Value) (pf : Option Addr) : ButP n W (put16 W n k a nm wh cp tx sl pf) := ((((((((((((((((But.refl n W.heap.size W).set 0 _).set 1 _).set 2 _).set 3 _).set 4 _).set 5 _).set 6 _).set 7 _).set 8 _).set 9 _).set 10 _).set 11 _).set 12 _).set 13 _).set 14 _).set 15 _
theorem NodeAt.mono {W : World} {B B' : Nat} (hB : B' ≤ B) : ∀ {f : Fm} {p : Option Addr}, NodeAt W B p f → NodeAt W B' p f
  | .un _ _ _, _, ⟨n, h1, h2, h3⟩ => ⟨n, h1, Nat.lt_of_le_of_lt hB h2, h3⟩
  | .no _, _, ⟨n, m, q, h1, h2, h3, h4, h5, h6, h7, h8⟩ => ⟨n, m, q, h1, Nat.lt_of_le_of_lt hB h2, Nat.lt_of_le_of_lt hB h3, h4, h5, h6, h7, NodeAt.mono hB h8⟩
  | .both _ _ _, _, ⟨n, m, q, u, h1, h2, h3, h4, h5, h6, h7, h8, h9, h10⟩ => ⟨n, m, q, u, h1, Nat.lt_of_le_of_lt hB h2, Nat.lt_of_le_of_lt hB h3, h4, h5, h6, h7, h8, NodeAt.mono hB h9, NodeAt.mono hB h10⟩
theorem AtrsAt.mono {W : World} {B B' : Nat} {ao : Option Addr} {l : List Atr} (hB : B' ≤ B) (h : AtrsAt W B ao l) : AtrsAt W B' ao l := by
  intro i hi
  obtain ⟨b, h1, h2, h3⟩ := h i hi
  exact ⟨b, h1, Nat.lt_of_le_of_lt hB h2, h3⟩
theorem AtrsAt.but2 {g B : Nat} {W W' : World} {ao : Option Addr} {l : List Atr} (hb : ButP g W W') (hB : g ≤ B) (h : AtrsAt W B ao l) : AtrsAt W' B ao l := by
  intro i hi
  obtain ⟨b, h1, h2, h3, h4, h5, h6, h7⟩ := h i hi
  have h2' := Nat.lt_of_le_of_lt hB h2
  exact ⟨b, h1, h2, hb.cellP h2' h3, hb.cellP h2' h4, hb.cellP h2' h5, hb.cellP h2' h6, hb.cellP h2' h7⟩
theorem OutA.split {x : Rd Atr} {g : Nat} {ao : Option Addr} {cap : Nat} {ts : List Tk} {w w' : World} {e : Ending} (h : OutA x g ao cap ts w e w') :
    ∃ va, e = .returned (atrV va) ∧ ButP g w w' ∧ PS w' g ao cap ts (rdSt x).1 (rdSt x).2 ∧ ∀ a r, x = .ok a r → va = a := by
  obtain ⟨va, he, hb, hm⟩ := h
  cases x with
  | ok a r => exact ⟨va, he, hb, hm.2, fun a' r' h => by cases h; exact hm.1⟩
  | bad r => exact ⟨va, he, hb, hm, fun a' r' h => by cases h⟩
theorem ItIn.belowM {w W W' : World} {g n m : Nat} {ao : Option Addr} {cap : Nat} {ts : List Tk} {s : St} {cs : List Value} (h : ItIn w W g n m ao cap ts s cs) (hb : Below (m + 1) W W') : ItIn w W' g n m ao cap ts s cs :=
  ⟨h.res.same (hb.block n (by have := h.hm; omega)), h.own.same (hb.block m (Nat.lt_succ_self m)), h.ps.above (hb.mono (by have := h.hg; have := h.hm; omega)), But.trans h.bt (But.below (hb.mono (by have := h.hn; have := h.hm; omega))), h.hg, h.hn, h.hm⟩
theorem atr_one (a : Atr) : ∀ u ∈ atrCells a, u.oneCell' = true := by
  intro u hu
  simp only [atrCells, List.mem_cons, List.not_mem_nil, or_false] at hu
  rcases hu with rfl | rfl | rfl | rfl | rfl <;> rfl
/-- An item by the state in which its reader ends. -/
theorem OutI.ends {x : Rd Itm} {s : St} {it : Itm} (h : endsAs x s it) {g : Nat} {ao : Option Addr} {cap : Nat} {ts : List Tk} {w w' : World} {sa : Option Addr} {sc : Nat} {pf : Option Addr}
    (hb : ButP g w w') (hp : PS w' g ao cap ts s.1 s.2) (ha : AtrsAt w' (w.heap.size - 1) sa it.attrs) (hf : FAt w' (w.heap.size - 1) pf it.f) :
    OutI x g ao cap ts w (.returned (.agg (itmCells it.k it.at' it.name it.whr it.caps it.txt (.slice sa it.attrs.length sc) pf).toArray)) w' := by
  refine ⟨it.k, it.at', it.name, it.whr, it.caps, it.txt, sa, it.attrs.length, sc, pf, rfl, hb, ?_⟩
  obtain ⟨r, b⟩ := s
  cases b with
  | false => rw [h.1 rfl]; exact ⟨⟨sa, sc, pf, rfl, ha, hf⟩, hp⟩
  | true => rw [h.2 rfl]; exact hp
/-- .. or by its failing. -/
theorem OutI.fails {x : Rd Itm} {r : List Tk} (h : x = .bad r) {g : Nat} {ao : Option Addr} {cap : Nat} {ts : List Tk} {w w' : World} (k : List UInt8) (a : Nat) (nm wh cp tx : Tk) (sa : Option Addr) (sl sc : Nat) (pf : Option Addr)
    (hb : ButP g w w') (hp : PS w' g ao cap ts r true) : OutI x g ao cap ts w (.returned (.agg (itmCells k a nm wh cp tx (.slice sa sl sc) pf).toArray)) w' := by
  refine ⟨k, a, nm, wh, cp, tx, sa, sl, sc, pf, rfl, hb, ?_⟩
  rw [h]; exact hp
end Go.Proofs.Ytcmmjmgbanafgaa
