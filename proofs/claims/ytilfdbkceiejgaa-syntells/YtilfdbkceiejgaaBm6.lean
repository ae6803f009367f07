import Derived.Test.YtilfdbkceiejgaaSx15
import Derived.Test.YtilfdbkceiejgaaSx17
import Derived.Test.YtilfdbkceiejgaaBm2
import Derived.Test.YtilfdbkceiejgaaBm4
import Derived.Maps.AppendAt
import Derived.Test.YtilfdbkceiejgaaBm5
import Derived.Deep.QuietTactic
import Derived.BigQuiet
import Derived.Test.YtilfdbkceiejgaaSi0
import Derived.Test.YtilfdbkceiejgaaSi1
import Derived.Test.YtilfdbkceiejgaaSi2
import Derived.Test.YtilfdbkceiejgaaSi3
import Derived.Test.YtilfdbkceiejgaaSi4
import Derived.Test.YtilfdbkceiejgaaSi5
import Derived.Test.YtilfdbkceiejgaaSi6
import Derived.Test.YtilfdbkceiejgaaSx16
import Derived.Test.YtilfdbkceiejgaaFrame
/- A row of items in memory. -/
namespace Go.Proofs.Url
open Syn
theorem items_step {t : Tk} {q : List Tk} (k : Nat) :
    (∀ y r1, itemR (t :: q) = .ok y r1 → itemsF (k + 1) (t :: q) = (itemsF k r1).map (fun l => y :: l) ∧ r1.length < (t :: q).length) ∧ (∀ r1, itemR (t :: q) = .bad r1 → itemsF (k + 1) (t :: q) = .bad r1) := by
  rw [items_succ]
  refine ⟨fun y r1 h => ?_, fun r1 h => ?_⟩
  · rw [h]; exact ⟨rfl, item_shortq h⟩
  · rw [h]; rfl
end Go.Proofs.Url
namespace Go.Proofs.Ytilfdbkceiejgaa
open Go.RowKit Go.Proofs.Url Go.Proofs.Url.Syn

theorem infoI : (Try.prog.info? 40).map (fun i => (i.zero, i.size, i.bytes)) = some (some (.agg #[.string ByteArray.empty, .int .i64 0, .int .i64 0, .int .i64 0, .string ByteArray.empty, .int .i64 0, .int .i64 0, .string ByteArray.empty, .int .i64 0, .int .i64 0, .string ByteArray.empty, .int .i64 0, .int .i64 0, .string ByteArray.empty, .slice none 0 0, .pointer none]), 16, 184) := by kernel_rfl
/-- An item's cells, and what it is. -/
abbrev CI := List Value × Itm
def flatC (xs : List CI) : List Value := xs.flatMap (·.1)
theorem flat16 : ∀ (xs : List CI), (∀ x ∈ xs, x.1.length = 16) → ∀ k (h : k < xs.length) j v, xs[k].1[j]? = some v → (flatC xs)[k * 16 + j]? = some v := by
  intro xs
  induction xs with
  | nil => intro _ k h; simp at h
  | cons p ps ih =>
    intro hl k h j v hv
    have hp : p.1.length = 16 := hl p (List.mem_cons_self ..)
    unfold flatC
    rw [List.flatMap_cons]
    cases k with
    | zero =>
      have hv : p.1[j]? = some v := hv
      have hj : j < 16 := by
        rcases Nat.lt_or_ge j 16 with h | h
        · exact h
        · rw [List.getElem?_eq_none (by omega)] at hv; cases hv
      rw [Nat.zero_mul, Nat.zero_add, List.getElem?_append_left (by omega)]
      exact hv
    | succ k =>
      rw [List.getElem?_append_right (by omega), hp, show (k + 1) * 16 + j - 16 = k * 16 + j by omega]
      exact ih (fun x hx => hl x (List.mem_cons_of_mem p hx)) k (by simpa using h) j v hv
/-- The cells of a row of items. -/
def RowC (W : World) (B : Nat) (ao : Option Addr) (xs : List CI) : Prop :=
  ∀ i (h : i < xs.length), ∃ b, ao = some ⟨b, 0, none⟩ ∧ B ≤ b ∧ b < W.heap.size ∧ ∀ j v, xs[i].1[j]? = some v → W.cell? ⟨b, i * 16 + j, none⟩ = some v
theorem owns_rowC {w : World} {base : Nat} {ao : Option Addr} {cap : Nat} {xs : List CI} (h : w.ownsRow base 40 16 (.slice ao xs.length cap) xs.length (flatC xs)) (hl : ∀ x ∈ xs, x.1.length = 16) : RowC w base ao xs := by
  intro k hk
  rcases h.2 with ⟨hv, h0⟩ | ⟨g', cap', cur, hv, hg, hh, hn, hm, hsz, htk⟩
  · omega
  · simp only [Value.slice.injEq, true_and] at hv
    obtain ⟨rfl, rfl⟩ := hv
    have hlt : g' < w.heap.size := by
      rcases Nat.lt_or_ge g' w.heap.size with h | h
      · exact h
      · rw [Array.getElem?_eq_none h] at hh; cases hh
    refine ⟨g', rfl, hg, hlt, fun j v hj => ?_⟩
    have hf := flat16 xs hl k hk j v hj
    have hj16 : j < 16 := by
      have := hl xs[k] (List.getElem_mem hk)
      rcases Nat.lt_or_ge j 16 with h | h
      · exact h
      · rw [List.getElem?_eq_none (by omega)] at hj; cases hj
    have : (cur.toList.take (xs.length * 16))[k * 16 + j]? = (flatC xs)[k * 16 + j]? := by rw [htk]
    rw [List.getElem?_take, if_pos (by omega), hf] at this
    have e : w.cell? ⟨g', k * 16 + j, none⟩ = cur[k * 16 + j]? := by simp [World.cell?, hh]
    rw [e]; simpa using this
theorem RowC.keep {W W' : World} {B : Nat} {ao : Option Addr} {xs : List CI} (h : RowC W B ao xs) (hb : Below W.heap.size W W') : RowC W' B ao xs := by
  intro i hi
  obtain ⟨b, h1, h2, h3, h4⟩ := h i hi
  exact ⟨b, h1, h2, Nat.lt_of_lt_of_le h3 hb.size, fun j v hj => by rw [hb.cell (p := ⟨b, i * 16 + j, none⟩) h3]; exact h4 j v hj⟩
theorem itms_roundB {B : Nat} {w3 : World} {xs : List CI} {x : CI} {v' : Value}
    (hown : w3.ownsRow B 40 16 v' (xs.length + 1) (flatC xs ++ x.1)) :
    ∃ (ao : Option Addr) (cv : Nat), v' = .slice ao (xs ++ [x]).length cv ∧ Hid (w3.ownsRow B 40 16 (.slice ao (xs ++ [x]).length cv) (xs ++ [x]).length (flatC (xs ++ [x]))) := by
  have hq : (xs ++ [x]).length = xs.length + 1 := by simp
  obtain ⟨g, cap, hv⟩ : ∃ g cap, v' = .slice (some ⟨g, 0, none⟩) (xs.length + 1) cap := by
    rcases hown.2 with ⟨_, h⟩ | ⟨g, cap, _, h, _⟩
    · omega
    · exact ⟨g, cap, h⟩
  subst hv
  refine ⟨some ⟨g, 0, none⟩, cap, by rw [hq], ?_⟩
  unfold Hid flatC; rw [hq, List.flatMap_append]
  have : [x].flatMap (·.1) = x.1 := by simp
  rw [this]; exact hown
/-- A row of items: their cells, and what these are. -/
structure RowI10 (W : World) (B : Nat) (ao : Option Addr) (xs : List CI) : Prop where
  len : ∀ x ∈ xs, x.1.length = 16
  row : RowC W B ao xs
  itm : ∀ x ∈ xs, ItmAt W B x.1 x.2
theorem RowI10.keep {W W' : World} {B : Nat} {ao : Option Addr} {xs : List CI} (h : RowI10 W B ao xs) (hb : Below W.heap.size W W') : RowI10 W' B ao xs :=
  ⟨h.len, h.row.keep hb, fun x hx => (h.itm x hx).but (ButP.of hb)⟩
/-- Blocks above a bound that were there are as they were. -/
def Moved (B : Nat) (V W : World) : Prop := ∀ k, B < k → k < V.heap.size → W.heap[k]? = V.heap[k]?
theorem Moved.cell {B : Nat} {V W : World} (h : Moved B V W) {n j : Nat} {v : Value} (hn : B < n) (hc : V.cell? ⟨n, j, none⟩ = some v) : W.cell? ⟨n, j, none⟩ = some v := by
  rw [World.cell?_of_block (w := V) (h n hn (World.block_lt_of_cell? V _ hc))]; exact hc
theorem NodeAt.moved {B : Nat} {V W : World} (hb : Moved B V W) : ∀ {f : Fm} {p : Option Addr}, NodeAt V B p f → NodeAt W B p f
  | .un _ _ _, _, ⟨n, h1, h2, h3, h4, h5, h6⟩ => ⟨n, h1, h2, hb.cell h2 h3, hb.cell h2 h4, hb.cell h2 h5, hb.cell h2 h6⟩
  | .no _, _, ⟨n, m, q, h1, h2, h3, h4, h5, h6, h7, h8⟩ => ⟨n, m, q, h1, h2, h3, hb.cell h2 h4, hb.cell h2 h5, hb.cell h2 h6, hb.cell h3 h7, NodeAt.moved hb h8⟩
  | .both _ _ _, _, ⟨n, m, q, u, h1, h2, h3, h4, h5, h6, h7, h8, h9, h10⟩ => ⟨n, m, q, u, h1, h2, h3, hb.cell h2 h4, hb.cell h2 h5, hb.cell h2 h6, hb.cell h3 h7, hb.cell h3 h8, NodeAt.moved hb h9, NodeAt.moved hb h10⟩
theorem AtrsAt.moved {B : Nat} {V W : World} {ao : Option Addr} {l : List Atr} (hb : Moved B V W) (h : AtrsAt V B ao l) : AtrsAt W B ao l := by
  intro i hi
  obtain ⟨b, h1, h2, h3, h4, h5, h6, h7⟩ := h i hi
  exact ⟨b, h1, h2, hb.cell h2 h3, hb.cell h2 h4, hb.cell h2 h5, hb.cell h2 h6, hb.cell h2 h7⟩
theorem ItmAt.moved {B : Nat} {V W : World} {cs : List Value} {y : Itm} (hb : Moved B V W) (h : ItmAt V B cs y) : ItmAt W B cs y := by
  obtain ⟨ao, c, pf, h1, h2, h3⟩ := h
  refine ⟨ao, c, pf, h1, h2.moved hb, ?_⟩
  cases hf : y.f with
  | none => rw [hf] at h3; exact h3
  | some f => rw [hf] at h3; exact NodeAt.moved (f := f) hb h3
theorem ItmAt.mono {B B' : Nat} {W : World} {cs : List Value} {y : Itm} (hB : B' ≤ B) (h : ItmAt W B cs y) : ItmAt W B' cs y := by
  obtain ⟨ao, c, pf, h1, h2, h3⟩ := h
  refine ⟨ao, c, pf, h1, h2.mono hB, ?_⟩
  cases hf : y.f with
  | none => rw [hf] at h3; exact h3
  | some f => rw [hf] at h3; exact NodeAt.mono (f := f) hB h3
/-- An item, away from a block. -/
def ItmS (W : World) (g : Nat) (ob : Option Nat) (x : CI) : Prop :=
  ∃ (B : Nat) (V : World), g ≤ B ∧ ItmAt V B x.1 x.2 ∧ V.heap.size ≤ W.heap.size ∧ Moved B V W ∧ (∀ j, ob = some j → j ≤ B ∨ V.heap.size ≤ j)
theorem ItmS.at {W : World} {g : Nat} {ob : Option Nat} {x : CI} (h : ItmS W g ob x) : ItmAt W g x.1 x.2 := by
  obtain ⟨B, V, h1, h2, _, h4, _⟩ := h
  exact (h2.moved h4).mono h1
theorem ItmS.but {W W' : World} {g : Nat} {ob : Option Nat} {x : CI} (h : ItmS W g ob x) (hb : ButP g W W') : ItmS W' g ob x := by
  obtain ⟨B, V, h1, h2, h3, h4, h5⟩ := h
  refine ⟨B, V, h1, h2, Nat.le_trans h3 hb.size, fun k hk hl => ?_, h5⟩
  rw [hb.block k (Nat.lt_of_lt_of_le hl h3) (by omega)]; exact h4 k hk hl
theorem ItmS.grown {W W' : World} {g : Nat} {ob ob' : Option Nat} {x : CI} (h : ItmS W g ob x) (hg : W.grownBy W' ob) (ho : ob' = ob ∨ ob' = some W.heap.size) : ItmS W' g ob' x := by
  obtain ⟨B, V, h1, h2, h3, h4, h5⟩ := h
  refine ⟨B, V, h1, h2, Nat.le_trans h3 hg.size, fun k hk hl => ?_, fun j hj => ?_⟩
  · rw [hg.block k (Nat.lt_of_lt_of_le hl h3) (fun e => by rcases h5 k e.symm with h | h <;> omega)]; exact h4 k hk hl
  · rcases ho with rfl | rfl
    · exact h5 j hj
    · cases hj; exact .inr h3
/-- What Read hands back. -/
def ReadPost (s : List UInt8) (w : World) (e : Ending) (w' : World) : Prop :=
  ∃ (ao : Option Addr) (cap : Nat) (xs : List CI) (c p B : Nat), e = .returned (.tuple #[.slice ao xs.length cap, .agg #[.int .i64 c, .int .i64 p]]) ∧ w.heap.size ≤ B ∧ RowI10 w' B ao xs ∧ xs.length ≤ 2000 ∧
    ((readS10 s = .ok (xs.map (·.2)) ∧ c = 0 ∧ p = 0) ∨ (readS10 s = .bad c p ∧ xs = [])) ∧ Below w.heap.size w w'
theorem RowI10.nil (W : World) (B : Nat) : RowI10 W B none [] := ⟨fun x hx => (by cases hx), fun i h => (by simp at h), fun x hx => (by cases hx)⟩
theorem read_bad {s : List UInt8} {w W : World} {c p : Nat} (h : readS10 s = .bad c p) (hb : Below w.heap.size w W) : ReadPost s w (.returned (.tuple #[.slice none 0 0, .agg #[.int .i64 (c : Int), .int .i64 (p : Int)]])) W :=
  ⟨none, 0, [], c, p, w.heap.size, rfl, Nat.le_refl _, RowI10.nil _ _, Nat.zero_le _, .inr ⟨h, rfl⟩, hb⟩
end Go.Proofs.Ytilfdbkceiejgaa

/- The walk over moatref10.Read, by what its parser's item gives. -/
namespace Go.Proofs.Ytilfdbkceiejgaa
open Go.RowKit Go.Proofs.Url Go.Proofs.Url.Syn

/-- What item must give. -/
def ItemOk : Prop := ∀ (g : Nat) (ao : Option Addr) (cap : Nat) (ts r : List Tk) (w : World), PS w g ao cap ts r false → r ≠ [] → ts.length < 4294967281 →
  Calls Try.prog 23 #[.pointer (some ⟨g, 0, none⟩)] w fun e w' => OutI (itemR r) g ao cap ts w e w'
theorem resRead3 {W : World} {r : Nat} {a b : Int} {v : Value} {tmps : Array Value} (h : WB W r a b) (h2 : tmps[2]?.getD undef = v) (h3 : tmps[3]?.getD undef = .pointer (some ⟨r, 0, none⟩)) :
    (results Try.f12 tmps).run Try.prog W = .ok (.tuple #[v, .agg #[.int .i64 a, .int .i64 b]]) W := by
  obtain ⟨c0, c1, _⟩ := h
  simp [results, Try.results12, go_sem, h2, h3, c0, c1]
theorem WB.butP {W W' : World} {g m : Nat} {a b : Int} (h : WB W m a b) (hb : ButP g W W') (hm : m ≠ g) : WB W' m a b := by
  have hh : W'.heap[m]? = W.heap[m]? := hb.block m h.lt hm
  exact ⟨by rw [World.cell?_of_block (w := W) hh]; exact h.c0, by rw [World.cell?_of_block (w := W) hh]; exact h.c1, fun j hj => by unfold World.frozen?; simp only [hh]; exact h.fr j hj⟩
/-- What Read's loop keeps in memory. -/
structure RdM (w W : World) (g : Nat) (b : Bool) (xs : List CI) (v : Value) : Prop where
  own : W.ownsRow (g + 1) 40 16 v xs.length (flatC xs)
  len : ∀ x ∈ xs, x.1.length = 16
  up : w.heap.size < g
  gl : g < W.heap.size
  be : Below w.heap.size w W
  res : WB W w.heap.size 0 0
  its : b = false → ∀ x ∈ xs, ItmS W g v.ownBlock x
theorem RdM.but {w W W' : World} {g : Nat} {b : Bool} {xs : List CI} {v : Value} (h : RdM w W g b xs v) (hb : ButP g W W') : RdM w W' g b xs v := by
  refine ⟨owns_but h.own hb (Nat.lt_succ_self _), h.len, h.up, Nat.lt_of_lt_of_le h.gl hb.size, ?_, h.res.butP hb (by have := h.up; omega), fun hf x hx => (h.its hf x hx).but hb⟩
  exact h.be.trans ⟨hb.os, hb.tape, hb.output, hb.size, fun k hk => hb.block k (Nat.lt_of_lt_of_le hk h.be.size) (by have := h.up; omega)⟩
theorem RdM.more {w W W' : World} {g : Nat} {b : Bool} {xs : List CI} {v v' : Value} (h : RdM w W g false xs v) (x : CI) (hx : x.1.length = 16) (hi : b = false → ItmS W g v.ownBlock x)
    (hown : W'.ownsRow (g + 1) 40 16 v' (xs ++ [x]).length (flatC (xs ++ [x]))) (hg : W.grownBy W' v.ownBlock) (ho : v'.ownBlock = v.ownBlock ∨ v'.ownBlock = some W.heap.size) : RdM w W' g b (xs ++ [x]) v' := by
  have hb : Below (g + 1) W W' := Below.grown (Below.refl _ _) hg (by have := h.gl; omega) (fun j hj => owns_base h.own j hj)
  refine ⟨hown, fun y hy => ?_, h.up, Nat.lt_of_lt_of_le h.gl hb.size, h.be.trans (hb.mono (by have := h.up; omega)), h.res.keepB hb (by have := h.up; omega), fun hf y hy => ?_⟩
  · rw [List.mem_append, List.mem_singleton] at hy
    rcases hy with hy | rfl
    · exact h.len y hy
    · exact hx
  · rw [List.mem_append, List.mem_singleton] at hy
    rcases hy with hy | rfl
    · exact (h.its rfl y hy).grown hg ho
    · exact (hi hf).grown hg ho
theorem ps_lt {W : World} {g : Nat} {ao : Option Addr} {cap : Nat} {ts : List Tk} {t : Tk} {q : List Tk} (h : PS W g ao cap ts (t :: q) false) : ∃ i : Nat, i < ts.length ∧ W.cell? ⟨g, 0, none⟩ = some (.slice ao ts.length cap) ∧ W.cell? ⟨g, 1, none⟩ = some (.int .i64 i) := by
  obtain ⟨i, h1, h2, hp⟩ := h.ex
  refine ⟨i, ?_, hp.c0, hp.c1⟩
  rcases Nat.lt_or_ge i ts.length with h | h
  · exact h
  · rw [List.drop_eq_nil_of_le h] at h2; cases h2
theorem ps_end {W : World} {g : Nat} {ao : Option Addr} {cap : Nat} {ts : List Tk} (h : PS W g ao cap ts [] false) : W.cell? ⟨g, 0, none⟩ = some (.slice ao ts.length cap) ∧ W.cell? ⟨g, 1, none⟩ = some (.int .i64 ts.length) := by
  obtain ⟨i, h1, h2, hp⟩ := h.ex
  have : i = ts.length := by
    have := congrArg List.length h2
    rw [List.length_drop, List.length_nil] at this
    omega
  subst this
  exact ⟨hp.c0, hp.c1⟩
/-- How far Read's loop is. -/
def RdSt (ts : List Tk) (st : St) (xs : List CI) : Prop :=
  (st.2 = false ∧ ∃ kk, st.1.length ≤ kk ∧ xs.length + st.1.length ≤ ts.length ∧ itemsF (ts.length + 1) ts = (itemsF (kk + 1) st.1).map (fun l => xs.map (·.2) ++ l)) ∨ (st.2 = true ∧ itemsF (ts.length + 1) ts = .bad st.1)
theorem RdSt.step {ts : List Tk} {t : Tk} {q : List Tk} {xs : List CI} (h : RdSt ts (t :: q, false) xs) :
    xs.length + 1 ≤ ts.length ∧ (∀ y r1 c, itemR (t :: q) = .ok y r1 → RdSt ts (r1, false) (xs ++ [(c, y)]) ∧ r1.length < (t :: q).length) ∧ (∀ r1 x, itemR (t :: q) = .bad r1 → RdSt ts (r1, true) (xs ++ [x])) := by
  rcases h with ⟨_, kk, h1, h2, h3⟩ | ⟨h, _⟩
  · refine ⟨by simp only [List.length_cons] at h2; omega, fun y r1 c hy => ?_, fun r1 x hy => ?_⟩
    · obtain ⟨e1, e2⟩ := (items_step (t := t) (q := q) kk).1 y r1 hy
      refine ⟨.inl ⟨rfl, kk - 1, by simp only at h1 ⊢; omega, by simp only [List.length_append, List.length_singleton] at *; omega, ?_⟩, e2⟩
      rw [h3, e1, map_map_rd]
      obtain ⟨k', rfl⟩ : ∃ k', kk = k' + 1 := ⟨kk - 1, by simp only [List.length_cons] at h1; omega⟩
      show (itemsF (k' + 1) r1).map _ = (itemsF (k' + 1) r1).map _
      congr 1; funext l; simp
    · refine .inr ⟨rfl, ?_⟩
      rw [h3, (items_step (t := t) (q := q) kk).2 r1 hy]; rfl
  · cases h
theorem itm_short {s : List UInt8} {ts q : List Tk} {ys : List Itm} (h1 : toksS s = .ok ts) (h2 : itemsF (ts.length + 1) ts = .ok ys q) : ∀ y ∈ ys, ∀ f, y.f = some f → (formS f).length < 4294967281 := by
  intro y hy f hf
  have h3 := (items_ln _ _ (toksS_tb h1) _ _ h2).1
  have hm := toksS_many h1
  have h4 : (lineS y).length ≤ (ys.flatMap lineS).length := by
    clear h2 h3 hf
    induction ys with
    | nil => cases hy
    | cons z l ih =>
      rw [List.flatMap_cons, List.length_append]
      rcases List.mem_cons.1 hy with rfl | hy
      · omega
      · have := ih hy; omega
  have h5 := line_len y
  rw [hf] at h5
  simp only at h3 h5
  omega
theorem put2_other {W : World} {m k : Nat} (h : k ≠ m) (x y : Int) : (put2 W m x y).heap[k]? = W.heap[k]? := by
  unfold put2
  rw [Below.heap_setCell _ _ _ _ (by exact h), Below.heap_setCell _ _ _ _ (by exact h)]
theorem RdM.rows {w W : World} {g : Nat} {xs : List CI} {ao : Option Addr} {cv : Nat} (h : RdM w W g false xs (.slice ao xs.length cv)) (x y : Int) : RowI10 (put2 W w.heap.size x y) g ao xs := by
  have hs : W.heap.size ≤ (put2 W w.heap.size x y).heap.size := (put2_below (B := 0) (Below.refl _ _) _ (Nat.zero_le _) x y).size
  refine ⟨h.len, fun i hi => ?_, fun z hz => ?_⟩
  · obtain ⟨b, e, hb, hlt, hc⟩ := owns_rowC h.own h.len i hi
    refine ⟨b, e, by omega, by omega, fun j v hj => ?_⟩
    rw [World.cell?_of_block (w := W) (put2_other (k := b) (by have := h.up; omega) x y)]
    exact hc j v hj
  · exact ((h.its rfl z hz).at).moved fun k hk _ => put2_other (by have := h.up; omega) x y
theorem rdSt_end {ts : List Tk} {xs : List CI} (h : RdSt ts ([], false) xs) : itemsF (ts.length + 1) ts = .ok (xs.map (·.2)) [] ∧ xs.length ≤ ts.length := by
  rcases h with ⟨_, kk, h1, h2, h3⟩ | ⟨h, _⟩
  · refine ⟨?_, by simpa using h2⟩
    rw [h3, items_nil]
    show Rd.ok (xs.map (·.2) ++ []) [] = _
    rw [List.append_nil]
  · cases h
theorem rdSt_bad {ts r : List Tk} {xs : List CI} (h : RdSt ts (r, true) xs) : itemsF (ts.length + 1) ts = .bad r := by
  rcases h with ⟨h, _⟩ | ⟨_, h⟩
  · cases h
  · exact h
def badAt (n : Nat) : List Tk → Nat
  | [] => n
  | t :: _ => t.at'
theorem read_of_bad {s : List UInt8} {ts r : List Tk} (h1 : toksS s = .ok ts) (h2 : itemsF (ts.length + 1) ts = .bad r) : readS10 s = .bad 4 (badAt s.length r) := by
  unfold readS10
  rw [h1]
  cases r with
  | nil => simp only [h2]; rfl
  | cons t q => simp only [h2]; rfl
theorem read_of_ok {s : List UInt8} {ts q : List Tk} {ys : List Itm} (h1 : toksS s = .ok ts) (h2 : itemsF (ts.length + 1) ts = .ok ys q) : readS10 s = if ys.any deepI then .bad 5 0 else .ok ys := by
  unfold readS10
  rw [h1]
  simp only [h2]
set_option maxHeartbeats 8000000 in
set_option maxRecDepth 100000 in
theorem refRead_any (ok : ItemOk) (s : List UInt8) (w : World) (hs : s.length < 4294967281) :
    Calls Try.prog 12 #[.string ⟨s.toArray⟩] w fun e w' => ReadPost s w e w' := by
  have OK := hide ok
  have HS := hide hs
  clear ok hs
  go_enter Try.func12, Try.ntmps12
  go_upto_region 1 with fail
  obtain ⟨W0, hW0⟩ : ∃ x, x = w.alloc (Obj.cells #[.int .i64 0, .int .i64 0] 25) := ⟨_, rfl⟩
  have R0 : Hid (WB W0 w.heap.size 0 0) := by unfold Hid; rw [hW0]; exact WB.new w 0 0 _
  have B0 : Hid (Below w.heap.size w W0) := by unfold Hid; rw [hW0]; exact (Below.refl _ _).alloc (Nat.le_refl _) _
  rw [← hW0]
  clear hW0
  go_wp2_with fail
  refine (refTokens_any s _ HS.out).mono ?_
  rintro e w1 ⟨ao, ca, ts, c, p, rfl, hown, ht, hb1⟩
  have R1 := hide (R0.out.keep hb1)
  have B1 := hide (B0.out.trans (hb1.mono B0.out.size))
  rcases ht with ⟨ht, rfl, rfl⟩ | ⟨ht, rfl⟩
  rotate_left
  · have hc := toksS_badc ht
    have e1 : ((c : Int) == 0) = false := beq_eq_false_iff_ne.2 (by omega)
    have HRb : Hid (readS10 s = .bad c p) := by unfold Hid readS10; rw [ht]
    clear hown ht R0 B0 hb1 hc
    go_upto_region 2 with fail
    obtain ⟨W3, hW3⟩ : ∃ x, x = w1.alloc (Obj.cells #[.int .i64 c, .int .i64 p] 25) := ⟨_, rfl⟩
    have b3 : Below w1.heap.size w1 W3 := by rw [hW3]; exact (Below.refl _ _).alloc (Nat.le_refl _) _
    have S3 : Hid (WB W3 w1.heap.size c p) := by unfold Hid; rw [hW3]; exact WB.new w1 _ _ 25
    have R3 := hide (R1.out.keep b3)
    have B3 := hide (B1.out.trans (b3.mono B1.out.size))
    rw [← hW3]
    clear hW3 b3 R1 B1
    have s0 := S3.out.c0
    have s1 := S3.out.c1
    have r0 := R3.out.c0
    have r1 := R3.out.c1
    have p0 := R3.out.fr 0 (by decide)
    have p1 := R3.out.fr 1 (by decide)
    have hml := R3.out.lt
    have hsl := S3.out.lt
    go_upto_region 3 with fail
    have HPt : Hid (WB (put2 W3 w.heap.size c p).drew w.heap.size c p) := (R3.out.put _ _).keep ((Below.refl _ _).drew)
    have HBt : Hid (Below w.heap.size w (put2 W3 w.heap.size c p).drew) := (put2_below B3.out _ (Nat.le_refl _) _ _).drew
    unfold put2 at HPt HBt
    go_region
    go_wp2_with fail
    refine bodyPost_ret (v := .tuple #[.slice none 0 0, .agg #[.int .i64 c, .int .i64 p]]) ?_ rfl ?_
    · exact resRead3 HPt.out rfl rfl
    · exact read_bad HRb.out HBt.out
  have T1 := hide (owns_tks hown)
  have HTs := hide ht
  have hm := toksS_many ht
  clear hown hb1 ht R0 B0
  go_upto_region 6 with fail
  obtain ⟨W1, hW1⟩ : ∃ x, x = w1.alloc (Obj.cells #[.int .i64 0, .int .i64 0] 25) := ⟨_, rfl⟩
  have b1 : Below w1.heap.size w1 W1 := by rw [hW1]; exact (Below.refl _ _).alloc (Nat.le_refl _) _
  have s1 : W1.heap.size = w1.heap.size + 1 := by rw [hW1]; simp
  obtain ⟨W2, hW2⟩ : ∃ x, x = W1.alloc (Obj.cells #[.slice ao ts.length ca, .int .i64 0, .int .i64 0, .int .i64 0] 71) := ⟨_, rfl⟩
  have b2 : Below W1.heap.size W1 W2 := by rw [hW2]; exact (Below.refl _ _).alloc (Nat.le_refl _) _
  have e1 : w1.heap.size + 1 = W1.heap.size := s1.symm
  rw [← hW1]
  simp only [e1]
  rw [← hW2]
  have hsz1 := B1.out.size
  have hr1 := R1.out.lt
  have HM : Hid (RdM w W2 W1.heap.size false [] (.slice none 0 0)) := ⟨World.ownsRow_nil _ _ _ _, fun x hx => (by cases hx), by omega, by rw [hW2]; simp, (B1.out.trans (b1.mono hsz1)).trans (b2.mono (by omega)), (R1.out.keep b1).keep b2, fun _ x hx => (by cases hx)⟩
  have HP : Hid (PS W2 W1.heap.size ao ca ts ts false) := by
    refine ⟨⟨0, Nat.zero_le _, rfl, ?_⟩, ?_⟩
    · rw [hW2]
      exact ⟨by rw [World.cell?_alloc_new]; rfl, by rw [World.cell?_alloc_new]; rfl, by rw [World.cell?_alloc_new]; rfl, by rw [World.cell?_alloc_new]; rfl, fun j hj => by rw [World.frozen?_alloc_new]⟩
    · intro k hk
      obtain ⟨q, h1, h2, h3, h4, h5⟩ := T1.out k hk
      have hq : q < W1.heap.size := by omega
      have kk : ∀ j v, w1.cell? ⟨q, j, none⟩ = some v → W2.cell? ⟨q, j, none⟩ = some v := fun j v hv => by rw [b2.cell (p := ⟨q, j, none⟩) hq, b1.cell (p := ⟨q, j, none⟩) h2]; exact hv
      exact ⟨q, h1, hq, kk _ _ h3, kk _ _ h4, kk _ _ h5⟩
  have HT0 : Hid (RdSt ts (ts, false) []) := .inl ⟨rfl, ts.length, Nat.le_refl _, by simp, by cases itemsF (ts.length + 1) ts <;> rfl⟩
  obtain ⟨i0, hi0, hz0, hz1, hz2⟩ := info_parts infoI
  have HI := hide hi0
  have HZ0 := hide hz0
  have HZ1 := hide hz1
  have HZ2 := hide hz2
  clear hW1 b1 s1 hW2 b2 e1 hsz1 hr1 R1 B1 T1 hi0 hz0 hz1 hz2
  generalize W1.heap.size = g at *
  go_loopw [7] (fun ov W => ∃ (st : St) (xs : List CI) (ao2 : Option Addr) (cv : Nat), ov = .slice ao2 xs.length cv ∧ Hid (PS W g ao ca ts st.1 st.2) ∧ Hid (RdM w W g st.2 xs (.slice ao2 xs.length cv)) ∧ Hid (RdSt ts st xs)) (fun _ W => leftOf W g ts.length)
  case atStart => exact ⟨(ts, false), [], none, 0, rfl, HP, HM, HT0⟩
  case round =>
    obtain ⟨⟨r, b⟩, xs, ao2, cv, rfl, HP, HM, HT⟩ := hrel
    clear HT0
    have HK := hide (fun n => pOk_any g ao ca ts r b (wr.drewN n) (HP.out.keep (below_drewP wr n)))
    have hgl := HP.out.lt
    cases b with
    | false =>
      cases r with
      | cons t q =>
        obtain ⟨i, hi, c0, c1⟩ := ps_lt HP.out
        have hiI : (i : Int) < (ts.length : Int) := by omega
        have HLf : Hid (leftOf wr g ts.length = (t :: q).length + 1) := HP.out.left
        obtain ⟨hx1, hok, hbad⟩ := HT.out.step
        have HOk := hide hok
        have HBad := hide hbad
        have hxl : xs.length < 2000 := by omega
        have HK1 : Hid (∀ n, Calls Try.prog 22 #[.pointer (some ⟨g, 0, none⟩)] (wr.drewN n) fun e w' => e = .returned (.bool true) ∧ w' = wr.drewN n) := fun n => HK.out n
        go_upto_region 6 with fail
        go_big_quiet ((go_at_call 22; exact Calls.quiet_of_same (HK1.out _)))
        have HP3 := hide (HP.out.keep (below_drewP wr nq))
        have HM3 := hide (HM.out.but (ButP.of (below_drewP wr nq)))
        generalize wr.drewN nq = w3 at *
        clear HP HM HK HK1 c0 c1 hgl HT hok hbad hx1
        go_wp2_with fail
        refine (OK.out g ao ca ts (t :: q) w3 HP3.out (by simp) (by omega)).mono ?_
        rintro e w4 ⟨k, a, nm, wh, cp, tx, sa, sl, sc, pf, rfl, B4, hO⟩
        have HM4 := hide (HM3.out.but B4)
        have HS : Hid (∃ (st' : St) (y : Itm), (st'.2 = false → ItmS w4 g (Value.slice ao2 xs.length cv).ownBlock (itmCells k a nm wh cp tx (.slice sa sl sc) pf, y)) ∧ PS w4 g ao ca ts st'.1 st'.2 ∧ RdSt ts st' (xs ++ [(itmCells k a nm wh cp tx (.slice sa sl sc) pf, y)]) ∧ (st'.2 = false → st'.1.length < (t :: q).length)) := by
          unfold Hid
          have hob : ∀ j, (Value.slice ao2 xs.length cv).ownBlock = some j → j ≤ w3.heap.size - 1 := fun j hj => by have := owns_ltB HM3.out.own j hj; omega
          cases hx : itemR (t :: q) with
          | ok y r1 =>
            rw [hx] at hO
            obtain ⟨e1, e2⟩ := HOk.out y r1 (itmCells k a nm wh cp tx (.slice sa sl sc) pf) hx
            exact ⟨(r1, false), y, fun _ => ⟨w3.heap.size - 1, w4, by have := HM3.out.gl; omega, hO.1, Nat.le_refl _, fun _ _ _ => rfl, fun j hj => .inl (hob j hj)⟩, hO.2, e1, fun _ => e2⟩
          | bad r1 =>
            rw [hx] at hO
            exact ⟨(r1, true), ⟨[], 0, zeroT, zeroT, zeroT, zeroT, [], none⟩, fun h => (by cases h), hO, HBad.out r1 _ hx, fun h => (by cases h)⟩
        clear hO HM3 HP3 HOk HBad B4
        obtain ⟨st', y, HS1, HS2, HS3, HS4⟩ := HS.out
        have HS1 := hide HS1
        have HS2 := hide HS2
        have HS3 := hide HS3
        have HS4 := hide HS4
        clear HS
        have C16 : Hid ((itmCells k a nm wh cp tx (.slice sa sl sc) pf).length = 16) := rfl
        have ON : Hid (∀ u ∈ itmCells k a nm wh cp tx (.slice sa sl sc) pf, u.oneCell' = true) := by
          intro u hu
          simp only [itmCells, List.mem_cons, List.not_mem_nil, or_false] at hu
          rcases hu with rfl | rfl | rfl | rfl | rfl | rfl | rfl | rfl | rfl | rfl | rfl | rfl | rfl | rfl | rfl | rfl <;> rfl
        have CR : Hid (∀ W : World, ∀ j u, (itmCells k a nm wh cp tx (.slice sa sl sc) pf)[j]? = some u → (W.alloc (.cells (itmCells k a nm wh cp tx (.slice sa sl sc) pf).toArray 40)).cell? ((⟨W.heap.size, 0, none⟩ : Addr).add j) = some u) := fun W => cell_row_at W _ _
        obtain ⟨cs, hcs⟩ : ∃ x, x = itmCells k a nm wh cp tx (.slice sa sl sc) pf := ⟨_, rfl⟩
        rw [← hcs] at HS1 HS3 C16 ON CR
        have HCS := hide hcs
        clear hcs
        unfold itmCells
        have A1 : cs.length = 1 * 16 := by rw [C16.out]
        have A2 := CR.out w4
        have A2 : ∀ j u, cs[j]? = some u → (w4.alloc (Obj.cells #[.string ⟨k.toArray⟩, .int .i64 a, .int .i64 nm.kind, .int .i64 nm.at', .string ⟨nm.text.toArray⟩, .int .i64 wh.kind, .int .i64 wh.at', .string ⟨wh.text.toArray⟩, .int .i64 cp.kind, .int .i64 cp.at', .string ⟨cp.text.toArray⟩, .int .i64 tx.kind, .int .i64 tx.at', .string ⟨tx.text.toArray⟩, .slice sa sl sc, .pointer pf] 40)).cell? ((⟨w4.heap.size, 0, none⟩ : Addr).add j) = some u := by
          have h := A2
          rw [HCS.out] at h ⊢
          exact h
        have A3 : xs.length + 1 ≤ maxLen := by unfold maxLen; omega
        have A4 : (xs.length + 1) * 184 ≤ 140737488355328 := by omega
        have A5 : ∀ o, g + 1 ≤ (w4.alloc o).heap.size := fun o => by have := HM4.out.gl; simp; omega
        go_wp2_with (at_builtin; go_loud (refine wpList_append_own_at _ rfl _ _ 31 rfl (g + 1) 40 i0 _ 16 184 Try.underlying31 HI.out HZ0.out HZ1.out HZ2.out rfl (by decide) (.slice ao2 xs.length cv) xs.length (flatC xs) rfl (HM4.out.own.alloc _) ⟨w4.heap.size, 0, none⟩ 1 1 cs rfl A1 A2 ON.out A3 A4 (A5 _) ?_); intro v' w6 hown' hgrow6 hnil6 hat6)
        clear A1 A2 A4 A5 hnil6
        have HM5 : Hid (RdM w (w4.alloc (Obj.cells #[.string ⟨k.toArray⟩, .int .i64 a, .int .i64 nm.kind, .int .i64 nm.at', .string ⟨nm.text.toArray⟩, .int .i64 wh.kind, .int .i64 wh.at', .string ⟨wh.text.toArray⟩, .int .i64 cp.kind, .int .i64 cp.at', .string ⟨cp.text.toArray⟩, .int .i64 tx.kind, .int .i64 tx.at', .string ⟨tx.text.toArray⟩, .slice sa sl sc, .pointer pf] 40)) g false xs (.slice ao2 xs.length cv)) := HM4.out.but (ButP.alloc _ _ _)
        have hb6 : Below (g + 1) _ w6 := Below.grown (Below.refl _ _) hgrow6 (by have := HM5.out.gl; omega) (fun j hj => owns_base HM5.out.own j hj)
        obtain ⟨ao6, cv6, rfl, hown6⟩ := itms_roundB (x := (cs, y)) hown'
        have HM6 := HM5.out.more (b := st'.2) (cs, y) C16.out (fun h => (HS1.out h).but (ButP.alloc _ _ _)) hown6.out hgrow6 hat6
        have HP6 := (HS2.out.alloc _).above hb6
        refine ⟨⟨st', xs ++ [(cs, y)], ao6, cv6, rfl, HP6, HM6, HS3⟩, ?_⟩
        rw [HLf.out]
        obtain ⟨r', b'⟩ := st'
        cases b' with
        | true => have h3 : leftOf w6 g ts.length = 0 := HP6.left0; omega
        | false => have h3 : leftOf w6 g ts.length = r'.length + 1 := HP6.left; have h4 : r'.length < (t :: q).length := HS4.out rfl; omega
      | nil =>
        obtain ⟨c0, c1⟩ := ps_end HP.out
        have hiI : ¬ (ts.length : Int) < (ts.length : Int) := by omega
        have HK1 : Hid (∀ n, Calls Try.prog 22 #[.pointer (some ⟨g, 0, none⟩)] (wr.drewN n) fun e w' => e = .returned (.bool true) ∧ w' = wr.drewN n) := fun n => HK.out n
        go_upto_region 6 with fail
        go_big_quiet ((go_at_call 22; exact Calls.quiet_of_same (HK1.out _)))
        have HP3 := hide (HP.out.keep (below_drewP wr nq))
        have HM3 := hide (HM.out.but (ButP.of (below_drewP wr nq)))
        generalize wr.drewN nq = w3 at *
        have HK2 := hide (pOk_any g ao ca ts [] false w3 HP3.out)
        clear HP HM HK HK1 c0 c1 hgl
        go_wp2_with fail
        refine HK2.out.mono ?_
        rintro e w' ⟨rfl, hw'⟩
        rw [hw']
        simp only [Bool.not_false]
        go_wp2_with fail
        obtain ⟨hi1, hxl⟩ := rdSt_end HT.out
        have HRd := hide (read_of_ok HTs.out hi1)
        have HSh := hide (itm_short HTs.out hi1)
        have hxm : xs.length ≤ 2000 := by omega
        clear HK2 hiI hi1 hxl HT HP3
        go_loop [8] (fun iv => ∃ j : Nat, j ≤ xs.length ∧ iv = .int .i64 j ∧ Hid (((xs.map (·.2)).take j).any deepI = false)) (fun iv => xs.length - (intOf iv).toNat)
        case atStart => exact ⟨0, Nat.zero_le _, rfl, rfl⟩
        case round =>
          obtain ⟨j, hj, rfl, hall⟩ := hrel
          by_cases hlt : j < xs.length
          · have hlI : (j : Int) < (xs.length : Int) := by omega
            obtain ⟨b, rfl, hgb, hbl, hcell⟩ := owns_rowC HM3.out.own HM3.out.len j hlt
            obtain ⟨sa, sc, pf, hcs, _, hf⟩ := (HM3.out.its rfl xs[j] (List.getElem_mem hlt)).at
            have x15 : w3.cell? ⟨b, j * 16 + 15, none⟩ = some (.pointer pf) := hcell 15 _ (by rw [hcs]; rfl)
            have HShj := HSh.out xs[j].2 (List.mem_map_of_mem (List.getElem_mem hlt))
            have hnext : ((xs.map (·.2)).take (j + 1)).any deepI = deepI xs[j].2 := by
              rw [List.take_succ_eq_append_getElem (by rw [List.length_map]; exact hlt), List.any_append, hall.out]
              simp
            have hin : deepI xs[j].2 = true → (xs.map (·.2)).any deepI = true := fun h => List.any_eq_true.2 ⟨xs[j].2, List.mem_map_of_mem (List.getElem_mem hlt), h⟩
            generalize xs[j].2 = y at *
            cases hyf : y.f with
            | none =>
              rw [hyf] at hf
              have hf : pf = none := hf
              subst hf
              have hd : deepI y = false := by unfold deepI; rw [hyf]
              have HN : Hid (((xs.map (·.2)).take (j + 1)).any deepI = false) := by unfold Hid; rw [hnext, hd]
              clear hnext hin hcs hcell HShj hall hd hyf
              go_wp2_with fail
              exact ⟨⟨j + 1, by omega, by go_num, HN⟩, by simp [intOf]; omega⟩
            | some f =>
              rw [hyf] at hf
              have hf : NodeAt w3 g pf f := hf
              have HFm := hide (form_any g w3 f pf hf (HShj f hyf))
              have HDp := hide (deep_any (formS f) w3 (HShj f hyf))
              unfold FormOk at HFm
              obtain ⟨n, rfl⟩ : ∃ n, pf = some ⟨n, 0, none⟩ := by
                cases f with
                | un => obtain ⟨n, h, _⟩ := hf; exact ⟨n, h⟩
                | no => obtain ⟨n, _, _, h, _⟩ := hf; exact ⟨n, h⟩
                | both => obtain ⟨n, _, _, _, h, _⟩ := hf; exact ⟨n, h⟩
              have hd : deepI y = decide (16 < deepS (formS f)) := by unfold deepI; rw [hyf]
              by_cases h16 : 16 < deepS (formS f)
              · have h16I : (16 < deepS (formS f)) = True := eq_true h16
                have HRb : Hid (readS10 s = .bad 5 0) := by unfold Hid; rw [HRd.out, if_pos (hin (by rw [hd]; exact decide_eq_true h16))]
                have r0 := HM3.out.res.c0
                have r1 := HM3.out.res.c1
                have q0 := HM3.out.res.fr 0 (by decide)
                have q1 := HM3.out.res.fr 1 (by decide)
                have hml := HM3.out.res.lt
                have HPt : Hid (WB (put2 w3 w.heap.size 5 0) w.heap.size 5 0) := HM3.out.res.put _ _
                have HBt : Hid (Below w.heap.size w (put2 w3 w.heap.size 5 0)) := put2_below HM3.out.be _ (Nat.le_refl _) _ _
                unfold put2 at HPt HBt
                generalize formS f = F at *
                clear hnext hin hcs hcell HShj hall hd hyf hf h16 HM3 HRd
                go_wp2_with fail
                refine HFm.out.mono ?_
                rintro e w' ⟨rfl, hw'⟩
                rw [hw']
                go_wp2_with fail
                refine HDp.out.mono ?_
                rintro e w' ⟨rfl, hw'⟩
                rw [hw']
                go_wp2_with fail
                refine bodyPost_ret (v := .tuple #[.slice none 0 0, .agg #[.int .i64 5, .int .i64 0]]) ?_ rfl ?_
                · exact resRead3 HPt.out rfl rfl
                · exact read_bad HRb.out HBt.out
              · have h16I : (16 < deepS (formS f)) = False := eq_false h16
                have HN : Hid (((xs.map (·.2)).take (j + 1)).any deepI = false) := by unfold Hid; rw [hnext, hd]; exact decide_eq_false h16
                generalize formS f = F at *
                clear hnext hin hcs hcell HShj hall hd hyf hf h16
                go_wp2_with fail
                refine HFm.out.mono ?_
                rintro e w' ⟨rfl, hw'⟩
                rw [hw']
                go_wp2_with fail
                refine HDp.out.mono ?_
                rintro e w' ⟨rfl, hw'⟩
                rw [hw']
                go_wp2_with fail
                exact ⟨⟨j + 1, by omega, by go_num, HN⟩, by simp [intOf]; omega⟩
          · have hlI : ¬ (j : Int) < (xs.length : Int) := by omega
            have hjx : j = xs.length := by omega
            have HRok : Hid (readS10 s = .ok (xs.map (·.2))) := by
              unfold Hid
              have h := hall.out
              rw [hjx, List.take_of_length_le (by simp)] at h
              rw [HRd.out, h]; rfl
            have r0 := HM3.out.res.c0
            have r1 := HM3.out.res.c1
            have q0 := HM3.out.res.fr 0 (by decide)
            have q1 := HM3.out.res.fr 1 (by decide)
            have hml := HM3.out.res.lt
            have HPt : Hid (WB (put2 w3 w.heap.size 0 0) w.heap.size 0 0) := HM3.out.res.put _ _
            have HBt : Hid (Below w.heap.size w (put2 w3 w.heap.size 0 0)) := put2_below HM3.out.be _ (Nat.le_refl _) _ _
            have HRw : Hid (RowI10 (put2 w3 w.heap.size 0 0) g ao2 xs) := HM3.out.rows 0 0
            have hup := HM3.out.up
            unfold put2 at HPt HBt HRw
            clear hall HM3 HRd hjx
            go_wp2_with fail
            refine bodyPost_ret (v := .tuple #[.slice ao2 xs.length cv, .agg #[.int .i64 0, .int .i64 0]]) ?_ rfl ?_
            · exact resRead3 HPt.out rfl rfl
            · exact ⟨ao2, cv, xs, 0, 0, g, rfl, Nat.le_of_lt hup, HRw.out, hxm, .inl ⟨HRok.out, rfl, rfl⟩, HBt.out⟩
    | true =>
      have HK1 : Hid (∀ n, Calls Try.prog 22 #[.pointer (some ⟨g, 0, none⟩)] (wr.drewN n) fun e w' => e = .returned (.bool false) ∧ w' = wr.drewN n) := fun n => HK.out n
      go_upto_region 6 with fail
      go_big_quiet ((go_at_call 22; exact Calls.quiet_of_same (HK1.out _)))
      have HP3 := hide (HP.out.keep (below_drewP wr nq))
      have HM3 := hide (HM.out.but (ButP.of (below_drewP wr nq)))
      generalize wr.drewN nq = w3 at *
      have HK2 := hide (pOk_any g ao ca ts r true w3 HP3.out)
      clear HP HM HK HK1 hgl
      go_wp2_with fail
      refine HK2.out.mono ?_
      rintro e w' ⟨rfl, hw'⟩
      rw [hw']
      simp only [Bool.not_true]
      have HRb : Hid (readS10 s = .bad 4 (badAt s.length r)) := read_of_bad HTs.out (rdSt_bad HT.out)
      obtain ⟨i, hi, hr, hp⟩ := HP3.out.ex
      simp only [if_true] at hp
      have HPb := hide hp
      have c0 := hp.c0
      have c2 := hp.c2
      have c3 := hp.c3
      have q3 := hp.fr 3 (by decide)
      have hgl := hp.lt
      have r0 := HM3.out.res.c0
      have r1 := HM3.out.res.c1
      have p0 := HM3.out.res.fr 0 (by decide)
      have p1 := HM3.out.res.fr 1 (by decide)
      have hml := HM3.out.res.lt
      have hne := HM3.out.up
      clear hp hr hi HK2 HP3 HT
      cases r with
      | nil =>
        have c3 : w3.cell? ⟨g, 3, none⟩ = some (.int .i64 (-1)) := c3
        go_upto_region 11 with fail
        obtain ⟨W4, hW4⟩ : ∃ x, x = w3.setCell ⟨g, 3, none⟩ (.int .i64 (s.length : Int)) := ⟨_, rfl⟩
        have X : Hid (PB W4 g (.slice ao ts.length ca) i 4 s.length) := by unfold Hid; rw [hW4]; exact HPb.out.set3 _
        have HM4 : Hid (RdM w W4 g true xs (.slice ao2 xs.length cv)) := by unfold Hid; rw [hW4]; exact HM3.out.but ((But.refl _ _ _).set 3 _)
        rw [← hW4]
        clear hW4 c0 c2 c3 q3 r0 r1 p0 p1 hml HM3 HPb hgl
        have c2 := X.out.c2
        have c3 := X.out.c3
        have r0 := HM4.out.res.c0
        have r1 := HM4.out.res.c1
        have p0 := HM4.out.res.fr 0 (by decide)
        have p1 := HM4.out.res.fr 1 (by decide)
        have hml := HM4.out.res.lt
        have hgl := HM4.out.gl
        have HPt : Hid (WB (put2 W4 w.heap.size 4 s.length).drew w.heap.size 4 s.length) := (HM4.out.res.put _ _).keep ((Below.refl _ _).drew)
        have HBt : Hid (Below w.heap.size w (put2 W4 w.heap.size 4 s.length).drew) := (put2_below HM4.out.be _ (Nat.le_refl _) _ _).drew
        unfold put2 at HPt HBt
        go_region
        go_wp2_with fail
        refine bodyPost_ret (v := .tuple #[.slice none 0 0, .agg #[.int .i64 4, .int .i64 (s.length : Nat)]]) ?_ rfl ?_
        · exact resRead3 HPt.out rfl rfl
        · exact read_bad (c := 4) HRb.out HBt.out
      | cons t q =>
        have c3 : w3.cell? ⟨g, 3, none⟩ = some (.int .i64 t.at') := c3
        have hneg : ¬ ((t.at' : Int) < 0) := by omega
        go_upto_region 11 with fail
        obtain ⟨W4, hW4⟩ : ∃ x, x = w3 := ⟨_, rfl⟩
        have HM4 : Hid (RdM w W4 g true xs (.slice ao2 xs.length cv)) := by unfold Hid; rw [hW4]; exact HM3.out
        rw [← hW4] at c2 c3 ⊢
        clear hW4 c0 q3 r0 r1 p0 p1 hml HM3 HPb hgl hneg
        have r0 := HM4.out.res.c0
        have r1 := HM4.out.res.c1
        have p0 := HM4.out.res.fr 0 (by decide)
        have p1 := HM4.out.res.fr 1 (by decide)
        have hml := HM4.out.res.lt
        have hgl := HM4.out.gl
        have HPt : Hid (WB (put2 W4 w.heap.size 4 t.at').drew w.heap.size 4 t.at') := (HM4.out.res.put _ _).keep ((Below.refl _ _).drew)
        have HBt : Hid (Below w.heap.size w (put2 W4 w.heap.size 4 t.at').drew) := (put2_below HM4.out.be _ (Nat.le_refl _) _ _).drew
        unfold put2 at HPt HBt
        go_region
        go_wp2_with fail
        refine bodyPost_ret (v := .tuple #[.slice none 0 0, .agg #[.int .i64 4, .int .i64 (t.at' : Nat)]]) ?_ rfl ?_
        · exact resRead3 HPt.out rfl rfl
        · exact read_bad (c := 4) HRb.out HBt.out
end Go.Proofs.Ytilfdbkceiejgaa

/- The walk over moatref10.Parser's item, whole (text by make/sx13.py). -/
namespace Go.Proofs.Ytilfdbkceiejgaa
open Go.RowKit Go.Proofs.Url Go.Proofs.Url.Syn

theorem pItem_any (g : Nat) (ao : Option Addr) (cap : Nat) (ts r : List Tk) (w : World) (h : PS w g ao cap ts r false) (hne : r ≠ []) (hl : ts.length < 4294967281) :
    Calls Try.prog 23 #[.pointer (some ⟨g, 0, none⟩)] w fun e w' => OutI (itemR r) g ao cap ts w e w' := by
  cases h0 : isT [111, 114, 105, 103, 105, 110] r with
  | true => exact item_w0 g ao cap ts r w h hne hl  h0
  | false =>
    cases h1 : isT [99, 111, 111, 107, 105, 101] r with
    | true => exact item_w1 g ao cap ts r w h hne hl h0 h1
    | false =>
      cases h2 : isT [115, 101, 99, 114, 101, 116] r with
      | true => exact item_w2 g ao cap ts r w h hne hl h0 h1 h2
      | false =>
        cases h3 : isT [110, 101, 116, 119, 111, 114, 107] r with
        | true => exact item_w3 g ao cap ts r w h hne hl h0 h1 h2 h3
        | false =>
          cases h4 : isT [101, 110, 100, 112, 111, 105, 110, 116] r with
          | true => exact item_w4 g ao cap ts r w h hne hl h0 h1 h2 h3 h4
          | false =>
            cases h5 : isT [112, 114, 111, 112, 101, 114, 116, 121] r with
            | true => exact item_w5 g ao cap ts r w h hne hl h0 h1 h2 h3 h4 h5
            | false =>
              exact item_w6 g ao cap ts r w h hne hl h0 h1 h2 h3 h4 h5
end Go.Proofs.Ytilfdbkceiejgaa

/- The walk over moatlaw10.SynTells, by what package syn and the document's reader give. -/
namespace Go.Proofs.Url
open Syn
theorem lines_le (ys : List Itm) (y : Itm) (h : y ∈ ys) : (lineS y).length ≤ (ys.flatMap lineS).length := by
  induction ys with
  | nil => cases h
  | cons z l ih =>
    rw [List.flatMap_cons, List.length_append]
    rcases List.mem_cons.1 h with rfl | h
    · omega
    · have := ih h; omega
end Go.Proofs.Url
namespace Go.Proofs.Ytilfdbkceiejgaa
open Go.RowKit Go.Proofs.Url Go.Proofs.Url.Syn

theorem item_ok : ItemOk := fun g ao cap ts r w h hne hl => pItem_any g ao cap ts r w h hne hl
/-- What the three answers have in common. -/
theorem tells_facts {s : List UInt8} {xs : List CI} {c p : Nat} (h : (readS10 s = .ok (xs.map (·.2)) ∧ c = 0 ∧ p = 0) ∨ (readS10 s = .bad c p ∧ xs = [])) :
    dumpR s = ((xs.map (·.2)).flatMap lineS, c, p) ∧ itemsR s = ((xs.map (·.2)).map (fun y => (y.at' : Int)), c, p) ∧ ((xs.map (·.2)).flatMap lineS).length ≤ 16200000 := by
  unfold dumpR itemsR
  rcases h with ⟨h, rfl, rfl⟩ | ⟨h, rfl⟩
  · rw [h]; exact ⟨rfl, rfl, readS10_len h⟩
  · rw [h]; exact ⟨rfl, rfl, by simp⟩
set_option maxHeartbeats 8000000 in
set_option maxRecDepth 100000 in
theorem synTells_walk (s : List UInt8) (w : World) (hs : s.length ≤ maxLen) :
    Calls Try.prog 3 #[.string ⟨s.toArray⟩] w fun e w' => e = .returned (.bool true) ∧ Below w.heap.size w w' := by
  unfold maxLen at hs
  by_cases h2 : 2500 < s.length
  · have i2 : (2500 : Int) < (s.length : Int) := by omega
    clear h2
    go_enter Try.func3, Try.ntmps3
    go_wp2_with fail
    refine (awake10_any syn_ok _).mono ?_
    rintro e w1 ⟨rfl, hb1⟩
    go_wp2_with fail
    go_ret
    exact ⟨rfl, hb1⟩
  have i2 : ¬ (2500 : Int) < (s.length : Int) := by omega
  have h3 : s.length ≤ 2500 := by omega
  clear hs h2
  go_enter Try.func3, Try.ntmps3
  go_wp2_with fail
  refine (syn_ok.dump s _ (by omega)).mono ?_
  rintro e w1 ⟨hb1, rfl⟩
  have B1 := hide hb1
  clear hb1
  go_wp2_with fail
  obtain ⟨W1, hW1⟩ : ∃ v, v = w1.alloc (Obj.cells #[.int .i64 (dumpR s).2.1, .int .i64 (dumpR s).2.2] 25) := ⟨_, rfl⟩
  have b1 : Below w1.heap.size w1 W1 := by rw [hW1]; exact (Below.refl _ _).alloc (Nat.le_refl _) _
  have R1 : Hid (WB W1 w1.heap.size (dumpR s).2.1 (dumpR s).2.2) := by unfold Hid; rw [hW1]; exact WB.new w1 _ _ 25
  have C1 := hide (B1.out.trans (b1.mono B1.out.size))
  rw [← hW1]
  clear b1 hW1 B1
  refine (items_any s _ (by omega)).mono ?_
  rintro e w2 hI
  obtain ⟨hb2, ao, cap, vs, rfl, ho2, hi2⟩ := itemsPost_own hI
  have B2 := hide (C1.out.trans (hb2.mono C1.out.size))
  have R2 := hide (R1.out.keep hb2)
  have hbase := C1.out.size
  have hz2 := hb2.size
  clear hb2 C1 R1 hI
  go_wp2_with fail
  obtain ⟨W2, hW2⟩ : ∃ v, v = w2.alloc (Obj.cells #[.int .i64 (itemsR s).2.1, .int .i64 (itemsR s).2.2] 25) := ⟨_, rfl⟩
  have b2 : Below w2.heap.size w2 W2 := by rw [hW2]; exact (Below.refl _ _).alloc (Nat.le_refl _) _
  have S2 : Hid (WB W2 w2.heap.size (itemsR s).2.1 (itemsR s).2.2) := by unfold Hid; rw [hW2]; exact WB.new w2 _ _ 25
  have R2b := hide (R2.out.keep b2)
  have I2 := hide (hi2.keep b2)
  have O2 := hide (owns_below ho2 b2)
  have C2 := hide (B2.out.trans (b2.mono B2.out.size))
  rw [← hW2]
  have hz3 : W1.heap.size ≤ W2.heap.size := by have := b2.size; omega
  clear b2 hW2 B2 R2 hi2 ho2 hz2
  refine (refRead_any item_ok s W2 (by omega)).mono ?_
  rintro e w3 ⟨bo, cb, xs, c, p, B, rfl, hB, hrow, hx2, hor, hb3⟩
  obtain ⟨e1, e2, e3⟩ := tells_facts hor
  have B3 := hide (C2.out.trans (hb3.mono C2.out.size))
  have R3 := hide (R2b.out.keep hb3)
  have S3 := hide (S2.out.keep hb3)
  have I3 := hide (I2.out.keep hb3)
  have O3 := hide (owns_below O2.out hb3)
  have HRow := hide hrow
  have hz4 := hb3.size
  rw [e1] at R3 ⊢
  rw [e2] at S3 I3 O3 ⊢
  clear hb3 C2 R2b S2 I2 O2 hrow hor e1 e2
  go_upto_region 5 with fail
  obtain ⟨W3, hW3⟩ : ∃ v, v = w3.alloc (Obj.cells #[.int .i64 c, .int .i64 p] 25) := ⟨_, rfl⟩
  have b3 : Below w3.heap.size w3 W3 := by rw [hW3]; exact (Below.refl _ _).alloc (Nat.le_refl _) _
  have T3 : Hid (WB W3 w3.heap.size c p) := by unfold Hid; rw [hW3]; exact WB.new w3 _ _ 25
  have R4 := hide (R3.out.keep b3)
  have S4 := hide (S3.out.keep b3)
  have I4 := hide (I3.out.keep b3)
  have O4 := hide (owns_below O3.out b3)
  have HRow4 := hide (HRow.out.keep b3)
  have C4 := hide (B3.out.trans (b3.mono B3.out.size))
  rw [← hW3]
  have HSz3 : Hid (W1.heap.size ≤ W3.heap.size) := by unfold Hid; have := b3.size; omega
  clear b3 hW3 B3 R3 S3 I3 O3 HRow hz3 hz4
  obtain ⟨i0, hi, hz0, hz1, hz2⟩ := info_parts infoInt
  have HI := hide hi
  have HZ0 := hide hz0
  have HZ1 := hide hz1
  have HZ2 := hide hz2
  have HLen := hide e3
  clear hi hz0 hz1 hz2 e3
  obtain ⟨ys, hys⟩ : ∃ z, z = xs.map (·.2) := ⟨_, rfl⟩
  rw [← hys] at HLen I4 O4 ⊢
  have HYs := hide hys
  clear hys
  go_loopw [9, 10, 11] (fun bv av iv W => ∃ (k : Nat) (a3 : Option Addr) (c3 : Nat), k ≤ xs.length ∧ iv = .int .i64 k ∧ bv = .string ⟨((ys.take k).flatMap lineS).toArray⟩ ∧ av = .slice a3 k c3 ∧ Hid (Below W3.heap.size W3 W) ∧ Hid (W.ownsRow W3.heap.size 3 1 (.slice a3 k c3) k ((ys.take k).map fun y => Value.int .i64 y.at'))) (fun _ _ iv _ => xs.length - (intOf iv).toNat)
  case atStart => exact ⟨0, none, 0, Nat.zero_le _, rfl, rfl, rfl, Below.refl _ _, World.ownsRow_nil _ _ _ _⟩
  case round =>
    obtain ⟨k, a3, c3, hk, rfl, rfl, rfl, hB, hO⟩ := hrel
    by_cases hlt : k < xs.length
    · have hlI : (k : Int) < (xs.length : Int) := by omega
      have HRw := HRow4.out
      obtain ⟨b, rfl, hb1, hb2, hcell⟩ := HRw.row k hlt
      have hit := HRw.itm xs[k] (List.getElem_mem hlt)
      have hcl := HRw.len xs[k] (List.getElem_mem hlt)
      have hyk : ys.take (k + 1) = ys.take k ++ [xs[k].2] := by
        rw [HYs.out, List.take_succ_eq_append_getElem (by rw [List.length_map]; exact hlt), List.getElem_map]
      have hmem : xs[k].2 ∈ ys := by rw [HYs.out]; exact List.mem_map_of_mem (List.getElem_mem hlt)
      have hyl := Nat.le_trans (lines_le ys _ hmem) HLen.out
      have htk : ((ys.take (k + 1)).flatMap lineS).length ≤ 16200000 := by
        have h1 := congrArg (fun l => (l.flatMap lineS).length) (List.take_append_drop (k + 1) ys)
        simp only [List.flatMap_append, List.length_append] at h1
        have h2 := HLen.out
        omega
      have hT1 : (ys.take (k + 1)).flatMap lineS = (ys.take k).flatMap lineS ++ lineS xs[k].2 := by rw [hyk, List.flatMap_append]; simp
      have hT2 : (ys.take (k + 1)).map (fun y => Value.int .i64 (y.at' : Int)) = (ys.take k).map (fun y => Value.int .i64 (y.at' : Int)) ++ [.int .i64 xs[k].2.at'] := by rw [hyk, List.map_append]; rfl
      have hbw : b < wr.heap.size := by have := hB.out.size; omega
      have HRg : Hid (wr.rangeAt b (k * 16) xs[k].1) := fun j v hj => by rw [hB.out.cell (p := ⟨b, k * 16 + j, none⟩) hb2]; exact hcell j v hj
      have HIt : Hid (ItmAt wr B xs[k].1 xs[k].2) := hit.but (ButP.of hB.out)
      have x1 : wr.cell? ⟨b, k * 16 + 1, none⟩ = some (.int .i64 xs[k].2.at') := by
        obtain ⟨_, _, _, hcs, _⟩ := hit
        exact HRg.out 1 _ (by rw [hcs]; rfl)
      have HC : Hid (xs[k].1.length = 16) := hcl
      clear hcell hit hyk hmem HRw hcl
      generalize xs[k].1 = cs at *
      generalize xs[k].2 = y at *
      have IF : Hid ((Try.prog.info? 40).map (·.size) = some cs.length) := by unfold Hid; rw [HC.out]; kernel_rfl
      have HLn := hide (line_any B cs y wr HIt.out (by omega))
      have HT1 := hide hT1
      have HT2 := hide hT2
      have hl1 : ((ys.take k).flatMap lineS).length + (lineS y).length ≤ 16200000 := by rw [hT1, List.length_append] at htk; exact htk
      clear HIt hT1 hT2 htk hyl
      generalize (ys.take k).flatMap lineS = Pk at *
      generalize lineS y = Ly at *
      go_wp2_with (refine wpList_load_mid rfl 40 _ rfl b (k * 16) rfl cs _ HRg.out Try.underlying40 rfl IF.out ?_)
      refine HLn.out.mono ?_
      rintro e w5 ⟨rfl, hb5⟩
      have x2 : w5.cell? ⟨b, k * 16 + 1, none⟩ = some (.int .i64 y.at') := by rw [hb5.cell (p := ⟨b, k * 16 + 1, none⟩) hbw]; exact x1
      have hbw5 : b < w5.heap.size := World.block_lt_of_cell? w5 _ x2
      have B5 := hide (hB.out.trans (hb5.mono hB.out.size))
      have O5 := hide (owns_below hO.out hb5)
      have hs5 := B5.out.size
      have HBs : Hid (∀ j, (Value.slice a3 k c3).ownBlock = some j → W3.heap.size ≤ j) := fun j hj => owns_base O5.out j hj
      clear hb5 hB hO HRg x1 HLn
      go_wp2_with (at_builtin; go_loud (refine wpList_append_own _ rfl _ _ 28 rfl W3.heap.size 3 i0 (.int .i64 0) 1 8 Try.underlying28 HI.out HZ0.out HZ1.out HZ2.out rfl (by decide) _ _ _ rfl (O5.out.alloc _) ⟨w5.heap.size, 0, none⟩ 1 1 [.int .i64 y.at'] rfl rfl (cell_one_new _ _ _) (fun x hx => by simp at hx; subst hx; rfl) (by unfold maxLen; omega) (by omega) (by simp; omega) ?_); intro v' w6 hown' hgrow6 hnil6)
      have B6 : Below W3.heap.size W3 w6 := B5.out.trans (Below.trans ((Below.refl _ _).alloc hs5 _) (Below.grown (Below.refl _ _) hgrow6 (by simp; omega) HBs.out))
      obtain ⟨a6, c6, rfl⟩ : ∃ a6 c6, v' = .slice a6 (k + 1) c6 := by
        rcases hown'.2 with ⟨_, h⟩ | ⟨g, cap, _, h, _⟩
        · omega
        · exact ⟨_, _, h⟩
      rw [← HT2.out] at hown'
      exact ⟨⟨k + 1, a6, c6, by omega, by go_num, congrArg Value.string (dataEq (by rw [HT1.out]; simp)), rfl, B6, hown'⟩, by simp [intOf]; omega⟩
    · have hlI : ¬ (k : Int) < (xs.length : Int) := by omega
      obtain rfl : k = xs.length := by omega
      have hyl : ys.length = xs.length := by rw [HYs.out, List.length_map]
      have htk : ys.take xs.length = ys := List.take_of_length_le (by omega)
      rw [htk] at hO ⊢
      have R5 := hide (R4.out.keepB hB.out (by have := R4.out.lt; omega))
      have S5 := hide (S4.out.keepB hB.out (by have := S4.out.lt; omega))
      have T5 := hide (T3.out.keepB hB.out (by have := T3.out.lt; omega))
      have hzl : (ys.map fun y => (y.at' : Int)).length = xs.length := by rw [List.length_map]; exact hyl
      have I5 : Hid (IntsAt wr ao (ys.map fun y => (y.at' : Int))) := I4.out.keep (hB.out)
      have O5 := hide (owns_below O4.out hB.out)
      have J5 : Hid (IntsAt wr a3 (ys.map fun y => (y.at' : Int))) := owns_intsAt (cap := c3) (base := W3.heap.size) (by rw [List.length_map, hyl, List.map_map]; exact hO.out)
      have HSame := hide (fun W (h : Below wr.heap.size wr W) => sameInts_any ao a3 _ _ cap c3 W (I5.out.keep h) (J5.out.keep h) (by rw [hzl]; unfold maxLen; omega) (by rw [hzl]; unfold maxLen; omega))
      rw [hzl] at HSame O5
      have C5 := hide (C4.out.trans (hB.out.mono C4.out.size))
      have HSz : Hid (W1.heap.size ≤ wr.heap.size) := by unfold Hid; have := hB.out.size; have := HSz3.out; omega
      have r0 := R5.out.c0
      have r1 := R5.out.c1
      have s0 := S5.out.c0
      have s1 := S5.out.c1
      have t0 := T5.out.c0
      have t1 := T5.out.c1
      have z1 := R5.out.lt
      have z2 := S5.out.lt
      have z3 := T5.out.lt
      clear hB hO I4 O4 R4 S4 T3 HRow4 C4 htk I5 J5
      generalize (ys.map fun y => (y.at' : Int)) = zs at *
      generalize ys.flatMap lineS = P at *
      go_wp2_with fail
      refine (HSame.out wr (Below.refl _ _)).mono ?_
      rintro e w7 ⟨rfl, hb7⟩
      have hdt : decide True = true := rfl
      rw [hdt]
      have O7 := hide (owns_below O5.out hb7)
      have C7 := hide (C5.out.trans (hb7.mono C5.out.size))
      have hsz7 : W1.heap.size ≤ w7.heap.size := by have := hb7.size; have := HSz.out; omega
      clear hb7 C5 O5 HSame r0 r1 s0 s1 t0 t1 z1 z2 z3 R5 S5 T5 hdt
      go_wp2_with fail
      refine (overInts_any ao xs.length cap W1.heap.size vs w7 O7.out (by omega) hsz7).mono ?_
      rintro e w8 ⟨rfl, hb8⟩
      have C8 := hide (C7.out.trans (hb8.mono hbase))
      clear hb8 C7 O7
      go_wp2_with fail
      refine (awake10_any syn_ok _).mono ?_
      rintro e w9 ⟨rfl, hb9⟩
      have C9 := hide (C8.out.trans (hb9.mono C8.out.size))
      clear hb9 C8
      go_wp2_with fail
      go_ret
      exact ⟨rfl, C9.out⟩
end Go.Proofs.Ytilfdbkceiejgaa

/- Whatever it is handed, moatlaw10.SynTells answers true and leaves its arguments as they read before: the row of SynTells is proved. Conditions: those of the row alone. -/
namespace Go.Proofs.Ytilfdbkceiejgaa
open Go.ChangeShapes Go.WideShapes Go.ChangeAt Go.RowKit Go.Proofs.Url
open Go.ChangeMaps (open_string shut_string)

set_option maxRecDepth 100000 in
theorem synTells_contract (H : Type) (enc : TypeId × Value → H) (W : World) (base : Nat) (args : Array Value) (ds gs : List (DataW H)) (before : List MemPlace)
    (hval : ∀ (j : Nat) t v, Try.f3.params[j]? = some t → args[j]? = some v → Value.okWide Try.prog W .any base t v)
    (hW : DataW.Whole enc Try.prog Try.f3.params.toList Rows.synTellsSpec.vars false W args.toList ds gs before) (_henv : Env W) :
    Calls Try.prog 3 args W fun e W' => ∃ v, e = .returned v ∧ Rows.synTellsSpec.post enc Try.prog Try.f3 false true false false W args v W' := by
  have hW' := hW
  obtain ⟨p, q, hA0, hV, rfl, hfz, hnd⟩ := hW
  have hA : DataW.TrodAll enc Try.prog W 0 (fun _ => true) true Try.f3.params.toList args.toList ds p := hA0
  rw [Try.params3] at hA hval
  obtain ⟨v0, vs0, d0, ds0, p0, q0, hargs, rfl, rfl, h0, r0⟩ := trodAll_cons hA
  obtain ⟨rfl, rfl, rfl⟩ := trodAll_nil r0
  obtain rfl : args = #[v0] := by cases args; simp_all
  obtain ⟨rfl, rfl⟩ := trodVars_none hV
  obtain ⟨x0, rfl, rfl, rfl, hs0⟩ := open_string Try.underlying9 (hval 0 9 v0 rfl rfl) h0
  clear hA0
  refine (synTells_walk _ W hs0).mono fun e W' ⟨he, bel⟩ => ?_
  subst he
  exact ⟨_, rfl, _, _, _, [], _, [], hW', trodAll_mk1 (shut_bool Try.underlying4 _), (trodAll_cons_mk (shut_string Try.underlying9 hs0) trodAll_mk0), rfl, bel.frame _, fun h => by cases h⟩

theorem synTells_laid (os : Os) : laidMet Try.prog Rows.synTellsRow.laid (({ World.holding Try.prog os ⟨#[], #[], []⟩ with heap := layAll (World.holding Try.prog os ⟨#[], #[], []⟩).heap } : World).forCall (fun _ _ => 0) ⟨#[], #[.string ⟨#[]⟩], []⟩).memory :=
  laidMet_of_run' 8 (by kernel_rfl) (by kernel_rfl)
theorem synTells_reads (os : Os) {H : Type} (enc : TypeId × Value → H) : ∃ places, DataW.whole enc Try.prog (({ World.holding Try.prog os ⟨#[], #[], []⟩ with heap := layAll (World.holding Try.prog os ⟨#[], #[], []⟩).heap } : World).forCall (fun _ _ => 0) ⟨#[], #[.string ⟨#[]⟩], []⟩).memory Try.f3.params.toList Rows.synTellsSpec.vars false #[Value.string ⟨#[]⟩].toList 8 = some ([.lit (.string [])], [], places) :=
  ⟨[], by kernel_rfl⟩

set_option maxRecDepth 100000 in
theorem synTells_lifted (os : Os) (started : os.Started) (H : Type) (enc : TypeId × Value → H) (F : Stop.Interp) :
    ReturnsInHanded {} Try.checked os 3 .any ((OpenSpec.ofChange Rows.synTellsSpec).preRow enc Try.prog Try.f3 Rows.synTellsRow.domain false Rows.synTellsRow.laid) (((OpenSpec.ofChange Rows.synTellsSpec).at F).post enc Try.prog Try.f3 false true false false) := by
  obtain ⟨places, hx⟩ := synTells_reads os enc
  refine returnsInHanded_of_row (C := Try.checked) (s := OpenSpec.ofChange Rows.synTellsSpec) own_knob started (by kernel_rfl) Try.func3
    (witness_row_at (enc := enc) (C := Try.checked) false { World.holding Try.prog os ⟨#[], #[], []⟩ with heap := layAll (World.holding Try.prog os ⟨#[], #[], []⟩).heap } #[.string ⟨#[]⟩] rfl (by kernel_rfl) (by kernel_rfl) (by kernel_rfl)
      (OpenSpec.preRow_of_cond 8 hx (by kernel_rfl) (fun k hk => by cases hk) (by kernel_rfl) (synTells_laid os))) ?_
  intro W base args ds gs before hval hW _ _ _ hL hS _
  exact synTells_contract H enc W base args ds gs before hval hW (env_of hL hS)

theorem synTells_said : Rows.SynTellsSaid :=
  OpenClaim.holds_of_cond 3 Try.f3 rfl rfl rfl rfl rfl rfl rfl ⟨rfl, rfl, rfl, rfl, rfl⟩ rfl rfl rfl rfl rfl (by kernel_rfl) Try.func3 (by kernel_rfl)
    (of_decide_eq_true (by kernel_rfl)) (by unfold Func.isWrapper; first | (rw [if_pos (by decide +kernel)]; kernel_rfl) | (rw [if_neg (by decide +kernel)]; exact ⟨rfl, rfl⟩))
    (fun os started H enc _ F => by rw [OpenClaim.pre_eq_preRow]; exact synTells_lifted os started H enc F)

end Go.Proofs.Ytilfdbkceiejgaa
