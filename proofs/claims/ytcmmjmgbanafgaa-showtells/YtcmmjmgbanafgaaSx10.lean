/- The walk over moatref10.Parser's attr (text by make/sx10.py). -/
import Derived.Test.YtcmmjmgbanafgaaSx9
import Derived.Deep.CutBlock
import Derived.Deep.DeepCutAuto
namespace Go.Proofs.Url
open Syn
def isAny (ws : List (List UInt8)) (ts : List Tk) : Bool := ws.any fun w => isT w ts
theorem any_at {ws : List (List UInt8)} {ts : List Tk} (k : Nat) (hk : k < ws.length) (h : isT (ws.getD k []) ts = true) : ws.any (fun w => isT w ts) = true := by
  rw [List.any_eq_true]
  exact ⟨ws.getD k [], by rw [List.getD_eq_getElem?_getD, List.getElem?_eq_getElem hk]; exact List.getElem_mem hk, h⟩
theorem bare_no {ts : List Tk} (h : ∀ j, j < 6 → isT (bare6.getD j []) ts = false) : bare6.any (fun w => isT w ts) = false := by
  rw [List.any_eq_false]
  intro x hx
  obtain ⟨j, hj, rfl⟩ := List.getElem_of_mem hx
  have := h j hj
  rw [List.getD_eq_getElem?_getD, List.getElem?_eq_getElem hj] at this
  simp only [Option.getD_some] at this
  rw [this]; decide
theorem named_no {ts : List Tk} (h : ∀ j, j < 5 → isT (named5.getD j []) ts = false) : named5.any (fun w => isT w ts) = false := by
  rw [List.any_eq_false]
  intro x hx
  obtain ⟨j, hj, rfl⟩ := List.getElem_of_mem hx
  have := h j hj
  rw [List.getD_eq_getElem?_getD, List.getElem?_eq_getElem hj] at this
  simp only [Option.getD_some] at this
  rw [this]; decide
theorem texted_no {ts : List Tk} (h : ∀ j, j < 4 → isT (texted4.getD j []) ts = false) : texted4.any (fun w => isT w ts) = false := by
  rw [List.any_eq_false]
  intro x hx
  obtain ⟨j, hj, rfl⟩ := List.getElem_of_mem hx
  have := h j hj
  rw [List.getD_eq_getElem?_getD, List.getElem?_eq_getElem hj] at this
  simp only [Option.getD_some] at this
  rw [this]; decide
end Go.Proofs.Url
namespace Go.Proofs.Ytcmmjmgbanafgaa
open Go.RowKit Go.Proofs.Url Go.Proofs.Url.Syn

def atrV (a : Atr) : Value := .agg #[.string ⟨a.k.toArray⟩, .int .i64 a.at', .int .i64 a.t.kind, .int .i64 a.t.at', .string ⟨a.t.text.toArray⟩]
/-- An attribute in memory. -/
structure AB (W : World) (n : Nat) (a : Atr) : Prop where
  c0 : W.cell? ⟨n, 0, none⟩ = some (.string ⟨a.k.toArray⟩)
  c1 : W.cell? ⟨n, 1, none⟩ = some (.int .i64 a.at')
  c2 : W.cell? ⟨n, 2, none⟩ = some (.int .i64 a.t.kind)
  c3 : W.cell? ⟨n, 3, none⟩ = some (.int .i64 a.t.at')
  c4 : W.cell? ⟨n, 4, none⟩ = some (.string ⟨a.t.text.toArray⟩)
  fr : ∀ j, j < 5 → W.frozen? ⟨n, j, none⟩ = false
abbrev zeroA : Atr := ⟨[], 0, zeroT⟩
theorem AB.lt {W : World} {n : Nat} {a : Atr} (h : AB W n a) : n < W.heap.size := World.block_lt_of_cell? W _ h.c0
theorem AB.same {W W' : World} {n : Nat} {a : Atr} (h : AB W n a) (hb : W'.heap[n]? = W.heap[n]?) : AB W' n a := by
  have hc : ∀ j, W'.cell? ⟨n, j, none⟩ = W.cell? ⟨n, j, none⟩ := fun j => World.cell?_of_block (w := W) hb
  have hf : ∀ j, W'.frozen? ⟨n, j, none⟩ = W.frozen? ⟨n, j, none⟩ := fun j => by unfold World.frozen?; simp only [hb]
  exact ⟨by rw [hc]; exact h.c0, by rw [hc]; exact h.c1, by rw [hc]; exact h.c2, by rw [hc]; exact h.c3, by rw [hc]; exact h.c4, fun j hj => by rw [hf]; exact h.fr j hj⟩
theorem AB.but {g : Nat} {W W' : World} {n : Nat} {a : Atr} (h : AB W n a) (hb : ButP g W W') (hn : n ≠ g) : AB W' n a := h.same (hb.block n h.lt hn)
theorem AB.frS {W : World} {n : Nat} {a : Atr} (h : AB W n a) (i : Nat) (v : Value) : ∀ j, j < 5 → (W.setCell ⟨n, i, none⟩ v).frozen? ⟨n, j, none⟩ = false := fun j hj => by
  rw [World.frozen?_setCell]; exact h.fr j hj
theorem AB.new (w : World) (a : Atr) (t : TypeId) : AB (w.alloc (.cells #[.string ⟨a.k.toArray⟩, .int .i64 a.at', .int .i64 a.t.kind, .int .i64 a.t.at', .string ⟨a.t.text.toArray⟩] t)) w.heap.size a := by
  refine ⟨?_, ?_, ?_, ?_, ?_, fun j hj => ?_⟩
  all_goals (first | (rw [World.frozen?_alloc_new]; done) | (rw [World.cell?_alloc_new]; rfl))
/-- An attribute's token is stored. -/
def putT (W : World) (n i j k : Nat) (t : Tk) : World := ((W.setCell ⟨n, i, none⟩ (.int .i64 t.kind)).setCell ⟨n, j, none⟩ (.int .i64 t.at')).setCell ⟨n, k, none⟩ (.string ⟨t.text.toArray⟩)
def put5 (W : World) (n : Nat) (a : Atr) : World := ((((W.setCell ⟨n, 0, none⟩ (.string ⟨a.k.toArray⟩)).setCell ⟨n, 1, none⟩ (.int .i64 a.at')).setCell ⟨n, 2, none⟩ (.int .i64 a.t.kind)).setCell ⟨n, 3, none⟩ (.int .i64 a.t.at')).setCell ⟨n, 4, none⟩ (.string ⟨a.t.text.toArray⟩)
theorem AB.put {W : World} {n : Nat} {a : Atr} (h : AB W n a) (t : Tk) : AB (putT W n 2 3 4 t) n ⟨a.k, a.at', t⟩ := by
  refine ⟨?_, ?_, ?_, ?_, ?_, fun j hj => ?_⟩
  · exact tcell_other (tcell_other (tcell_other h.c0 (by decide)) (by decide)) (by decide)
  · exact tcell_other (tcell_other (tcell_other h.c1 (by decide)) (by decide)) (by decide)
  · exact tcell_other (tcell_other (tcell_same h.c2) (by decide)) (by decide)
  · exact tcell_other (tcell_same (tcell_other h.c3 (by decide))) (by decide)
  · exact tcell_same (tcell_other (tcell_other h.c4 (by decide)) (by decide))
  · unfold putT; rw [World.frozen?_setCell, World.frozen?_setCell, World.frozen?_setCell]; exact h.fr j hj
theorem AB.put5 {W : World} {n : Nat} {a : Atr} (h : AB W n a) (b : Atr) : AB (put5 W n b) n b := by
  refine ⟨?_, ?_, ?_, ?_, ?_, fun j hj => ?_⟩
  · exact tcell_other (tcell_other (tcell_other (tcell_other (tcell_same h.c0) (by decide)) (by decide)) (by decide)) (by decide)
  · exact tcell_other (tcell_other (tcell_other (tcell_same (tcell_other h.c1 (by decide))) (by decide)) (by decide)) (by decide)
  · exact tcell_other (tcell_other (tcell_same (tcell_other (tcell_other h.c2 (by decide)) (by decide))) (by decide)) (by decide)
  · exact tcell_other (tcell_same (tcell_other (tcell_other (tcell_other h.c3 (by decide)) (by decide)) (by decide))) (by decide)
  · exact tcell_same (tcell_other (tcell_other (tcell_other (tcell_other h.c4 (by decide)) (by decide)) (by decide)) (by decide))
  · unfold Go.Proofs.Ytcmmjmgbanafgaa.put5; rw [World.frozen?_setCell, World.frozen?_setCell, World.frozen?_setCell, World.frozen?_setCell, World.frozen?_setCell]; exact h.fr j hj
theorem putT_below {B : Nat} (W : World) (n i j k : Nat) (hn : B ≤ n) (t : Tk) : Below B W (putT W n i j k t) := (((Below.refl _ _).setCell (p := ⟨n, i, none⟩) hn _).setCell (p := ⟨n, j, none⟩) hn _).setCell (p := ⟨n, k, none⟩) hn _
theorem put5_below {B : Nat} (W : World) (n : Nat) (hn : B ≤ n) (a : Atr) : Below B W (put5 W n a) := (((((Below.refl _ _).setCell (p := ⟨n, 0, none⟩) hn _).setCell (p := ⟨n, 1, none⟩) hn _).setCell (p := ⟨n, 2, none⟩) hn _).setCell (p := ⟨n, 3, none⟩) hn _).setCell (p := ⟨n, 4, none⟩) hn _
theorem putT_other (W : World) (n i j k m : Nat) (hm : m ≠ n) (t : Tk) : (putT W n i j k t).heap[m]? = W.heap[m]? := by
  unfold putT
  rw [Below.heap_setCell _ _ _ _ hm, Below.heap_setCell _ _ _ _ hm, Below.heap_setCell _ _ _ _ hm]
/-- A parser is as it was behind stores above it. -/
theorem PS.above {W W' : World} {g : Nat} {ao : Option Addr} {cap : Nat} {ts r : List Tk} {b : Bool} (h : PS W g ao cap ts r b) (hb : Below (g + 1) W W') : PS W' g ao cap ts r b := by
  obtain ⟨i, h1, h2, hp⟩ := h.ex
  have hc : ∀ j, W'.cell? ⟨g, j, none⟩ = W.cell? ⟨g, j, none⟩ := fun j => hb.cell (p := ⟨g, j, none⟩) (Nat.lt_succ_self _)
  exact ⟨⟨i, h1, h2, ⟨by rw [hc]; exact hp.c0, by rw [hc]; exact hp.c1, by rw [hc]; exact hp.c2, by rw [hc]; exact hp.c3, fun j hj => by rw [hb.frozen (p := ⟨g, j, none⟩) (Nat.lt_succ_self _)]; exact hp.fr j hj⟩⟩, h.tk.keep (hb.mono (Nat.le_succ _))⟩
/-- attr's own memory: its result, the attribute that it makes, the parser. -/
structure AtIn (w W : World) (g n m : Nat) (ao : Option Addr) (cap : Nat) (ts r : List Tk) (b : Bool) (a : Atr) : Prop where
  res : AB W n zeroA
  own : AB W m a
  ps : PS W g ao cap ts r b
  bt : ButP g w W
  hg : g < n
  hn : w.heap.size ≤ n
  hm : n < m
theorem AtIn.step {w W W' : World} {g n m : Nat} {ao : Option Addr} {cap : Nat} {ts r r' : List Tk} {b b' : Bool} {a : Atr} (h : AtIn w W g n m ao cap ts r b a) (hp : PS W' g ao cap ts r' b') (hb : ButP g W W') : AtIn w W' g n m ao cap ts r' b' a :=
  ⟨h.res.but hb (by have := h.hg; omega), h.own.but hb (by have := h.hg; have := h.hm; omega), hp, h.bt.trans hb, h.hg, h.hn, h.hm⟩
theorem AtIn.put {w W : World} {g n m : Nat} {ao : Option Addr} {cap : Nat} {ts r : List Tk} {b : Bool} {a : Atr} (h : AtIn w W g n m ao cap ts r b a) (t : Tk) : AtIn w (putT W m 2 3 4 t) g n m ao cap ts r b ⟨a.k, a.at', t⟩ :=
  ⟨h.res.same (putT_other W _ _ _ _ _ (by have := h.hm; omega) t), h.own.put t, h.ps.above (putT_below W _ _ _ _ (by have := h.hg; have := h.hm; omega) t), But.trans h.bt (But.below (putT_below W _ _ _ _ (by have := h.hn; have := h.hm; omega) t)), h.hg, h.hn, h.hm⟩
theorem resReadAtr10 {W : World} {n : Nat} {a : Atr} {tmps : Array Value} (h : AB W n a) (h2 : tmps[2]?.getD undef = .pointer (some ⟨n, 0, none⟩)) :
    (results Try.f65 tmps).run Try.prog W = .ok (atrV a) W := by
  obtain ⟨c0, c1, c2, c3, c4, _⟩ := h
  simp [results, Try.results65, go_sem, h2, c0, c1, c2, c3, c4, atrV]
/-- What attr leaves. -/
def OutA (x : Rd Atr) (g : Nat) (ao : Option Addr) (cap : Nat) (ts : List Tk) (w : World) (e : Ending) (w' : World) : Prop :=
  ∃ v : Atr, e = .returned (atrV v) ∧ ButP g w w' ∧ (match x with
    | .ok a r => v = a ∧ PS w' g ao cap ts r false
    | .bad r => PS w' g ao cap ts r true)
theorem OutA.ok {g : Nat} {ao : Option Addr} {cap : Nat} {ts r : List Tk} {w w' : World} {a : Atr} (h : PS w' g ao cap ts r false) (hb : ButP g w w') : OutA (.ok a r) g ao cap ts w (.returned (atrV a)) w' := ⟨a, rfl, hb, rfl, h⟩
theorem OutA.bad {g : Nat} {ao : Option Addr} {cap : Nat} {ts r : List Tk} {w w' : World} {a : Atr} (h : PS w' g ao cap ts r true) (hb : ButP g w w') : OutA (.bad r) g ao cap ts w (.returned (atrV a)) w' := ⟨a, rfl, hb, h⟩

set_option maxHeartbeats 4000000 in
set_option maxRecDepth 100000 in
theorem pAttr_any (g : Nat) (ao : Option Addr) (cap : Nat) (ts r : List Tk) (w : World) (h : PS w g ao cap ts r false) (hl : ts.length < 4294967281) :
    Calls Try.prog 65 #[.pointer (some ⟨g, 0, none⟩)] w fun e w' => OutA (attrR r) g ao cap ts w e w' := by
  have HL := hide hl
  have hglw := h.lt
  have HS := hide h
  obtain ⟨n, hn⟩ : ∃ n, n = w.heap.size := ⟨_, rfl⟩
  obtain ⟨W0, hW0⟩ : ∃ W0, W0 = w.alloc (Obj.cells #[.string ⟨#[]⟩, .int .i64 0, .int .i64 0, .int .i64 0, .string ⟨#[]⟩] 87) := ⟨_, rfl⟩
  have R0 : Hid (AB W0 n zeroA) := by unfold Hid; rw [hW0, hn]; exact AB.new w zeroA 87
  have S0 : Hid (PS W0 g ao cap ts r false) := by unfold Hid; rw [hW0]; exact h.alloc _
  have B0 : Hid (ButP g w W0) := by unfold Hid; rw [hW0]; exact ButP.alloc _ _ _
  have HN : Hid (g < n ∧ w.heap.size ≤ n) := by unfold Hid; omega
  have hs0 : W0.heap.size = n + 1 := by rw [hW0, World.size_alloc, hn]
  have HW := hide hW0
  have HNw := hide hn
  clear hW0 h hl hn
  obtain ⟨i, hi, hr, hp⟩ := S0.out.ex
  simp only [Bool.false_eq_true, if_false] at hp
  have c0 := hp.c0
  have c1 := hp.c1
  have hgl := hp.lt
  clear hp
  by_cases hlt : i < ts.length
  · have hlI : (i : Int) < (ts.length : Int) := by omega
    have hlN : ¬ ts.length ≤ i := by omega
    obtain ⟨tg, rfl, htg, k1, k2, k3⟩ := S0.out.tk i hlt
    have hr2 : r = ts[i] :: ts.drop (i + 1) := by rw [← hr, List.drop_eq_getElem_cons hlt]
    have HT : Hid (headText r = ts[i].text) := by unfold Hid; rw [hr2]; rfl
    have HA : Hid (headAt r = ts[i].at') := by unfold Hid; rw [hr2]; rfl
    have htl : tg < W0.heap.size := by omega
    clear hr hr2 hi htg
    generalize ts[i].kind = tk at *
    generalize ts[i].at' = ta at *
    generalize ts[i].text = tt at *
    go_enter Try.func65, Try.ntmps65
    go_upto_region 1 with fail
    rw [← HW.out, ← HNw.out]
    go_quiet (fail)
    have bd := below_drewP W0 nq
    generalize W0.drewN nq = W1 at *
    have R1 := hide (R0.out.but (ButP.of (g := g) bd) (by have := HN.out; omega))
    have S1 := hide (S0.out.keep bd)
    have B1 := hide (B0.out.trans (ButP.of bd))
    have hs1 := bd.size
    replace k2 := keepcP bd k2
    replace k3 := keepcP bd k3
    replace c0 := keepcP bd c0
    replace c1 := keepcP bd c1
    have hn1 := R1.out.lt
    clear bd R0 S0 B0 HS hs0 hgl
    have hgl := S1.out.lt
    have htl1 := World.block_lt_of_cell? W1 _ k2
    go_upto_region 4 with fail
    go_region
    obtain ⟨m, hm⟩ : ∃ m, m = W1.heap.size := ⟨_, rfl⟩
    obtain ⟨W2, hW2⟩ : ∃ W2, W2 = (W1.alloc (Obj.cells #[.string ⟨tt.toArray⟩, .int .i64 ta, .int .i64 0, .int .i64 0, .string ⟨#[]⟩] 87)).drew := ⟨_, rfl⟩
    have b2 : Below W1.heap.size W1 W2 := by rw [hW2]; exact ((Below.refl _ _).alloc (Nat.le_refl _) _).drew
    have HX : Hid (AtIn w W2 g n m (some ⟨tg, 0, none⟩) cap ts r false ⟨tt, ta, zeroT⟩) :=
      ⟨R1.out.but (ButP.of (g := g) b2) (by have := HN.out; omega), by rw [hW2, hm]; exact (AB.new W1 ⟨tt, ta, zeroT⟩ 87).same rfl, S1.out.keep b2, B1.out.trans (ButP.of b2), HN.out.1, HN.out.2, by omega⟩
    rw [← hW2, ← hm]
    clear hW2 b2 hm R1 S1 B1 c0 c1 k1 k2 k3 hs1 hn1 htl htl1 hgl hlI hlN hlt
    go_upto_block 0 with fail
    go_cut [] (fun W => ∃ t rr bb, Hid (AtIn w W g n m (some ⟨tg, 0, none⟩) cap ts rr bb ⟨tt, ta, t⟩) ∧ Hid (∀ w', ButP g w w' → PS w' g (some ⟨tg, 0, none⟩) cap ts rr bb → OutA (attrR r) g (some ⟨tg, 0, none⟩) cap ts w (.returned (atrV ⟨tt, ta, t⟩)) w'))
    case first => as_aux_lemma =>
      go_wp2_with fail
      cases hq : isT [112, 97, 103, 101] r with
      | true =>
        have HZ1 : Hid (∀ w', ButP g w w' → PS w' g (some ⟨tg, 0, none⟩) cap ts r.tail false → OutA (attrR r) g (some ⟨tg, 0, none⟩) cap ts w (.returned (atrV ⟨tt, ta, zeroT⟩)) w') := by
          intro w' hB hS
          have : attrR r = .ok ⟨tt, ta, zeroT⟩ r.tail := by unfold attrR; rw [if_pos (any_at (ws := bare6) 0 (by decide) hq), HT.out, HA.out]
          rw [this]; exact OutA.ok hS hB
        refine (takeYes (s := [112, 97, 103, 101]) HX.out.ps HL.out hq).mono ?_
        rintro e W4 ⟨rfl, S4, B4⟩
        have HX := hide (HX.out.step S4 B4)
        clear S4 B4
        clear hq
        go_wp2_with fail
        go_meet
        case rel => exact ⟨zeroT, r.tail, false, HX, HZ1⟩
      | false =>
        have HQ0 := hide hq
        refine (takeNo (s := [112, 97, 103, 101]) HX.out.ps HL.out hq).mono ?_
        rintro e W3_0 ⟨rfl, S4, B4⟩
        have HX := hide (HX.out.step S4 B4)
        clear S4 B4 hq
        go_wp2_with fail
        cases hq : isT [105, 110, 106, 101, 99, 116] r with
        | true =>
          have HZ1 : Hid (∀ w', ButP g w w' → PS w' g (some ⟨tg, 0, none⟩) cap ts r.tail false → OutA (attrR r) g (some ⟨tg, 0, none⟩) cap ts w (.returned (atrV ⟨tt, ta, zeroT⟩)) w') := by
            intro w' hB hS
            have : attrR r = .ok ⟨tt, ta, zeroT⟩ r.tail := by unfold attrR; rw [if_pos (any_at (ws := bare6) 1 (by decide) hq), HT.out, HA.out]
            rw [this]; exact OutA.ok hS hB
          refine (takeYes (s := [105, 110, 106, 101, 99, 116]) HX.out.ps HL.out hq).mono ?_
          rintro e W4 ⟨rfl, S4, B4⟩
          have HX := hide (HX.out.step S4 B4)
          clear S4 B4
          clear hq
          go_wp2_with fail
          go_meet
          case rel => exact ⟨zeroT, r.tail, false, HX, HZ1⟩
        | false =>
          have HQ1 := hide hq
          refine (takeNo (s := [105, 110, 106, 101, 99, 116]) HX.out.ps HL.out hq).mono ?_
          rintro e W3_1 ⟨rfl, S4, B4⟩
          have HX := hide (HX.out.step S4 B4)
          clear S4 B4 hq
          go_wp2_with fail
          cases hq : isT [111, 119, 110] r with
          | true =>
            have HZ1 : Hid (∀ w', ButP g w w' → PS w' g (some ⟨tg, 0, none⟩) cap ts r.tail false → OutA (attrR r) g (some ⟨tg, 0, none⟩) cap ts w (.returned (atrV ⟨tt, ta, zeroT⟩)) w') := by
              intro w' hB hS
              have : attrR r = .ok ⟨tt, ta, zeroT⟩ r.tail := by unfold attrR; rw [if_pos (any_at (ws := bare6) 2 (by decide) hq), HT.out, HA.out]
              rw [this]; exact OutA.ok hS hB
            refine (takeYes (s := [111, 119, 110]) HX.out.ps HL.out hq).mono ?_
            rintro e W4 ⟨rfl, S4, B4⟩
            have HX := hide (HX.out.step S4 B4)
            clear S4 B4
            clear hq
            go_wp2_with fail
            go_meet
            case rel => exact ⟨zeroT, r.tail, false, HX, HZ1⟩
          | false =>
            have HQ2 := hide hq
            refine (takeNo (s := [111, 119, 110]) HX.out.ps HL.out hq).mono ?_
            rintro e W3_2 ⟨rfl, S4, B4⟩
            have HX := hide (HX.out.step S4 B4)
            clear S4 B4 hq
            go_wp2_with fail
            cases hq : isT [99, 104, 97, 110, 103, 101, 115] r with
            | true =>
              have HZ1 : Hid (∀ w', ButP g w w' → PS w' g (some ⟨tg, 0, none⟩) cap ts r.tail false → OutA (attrR r) g (some ⟨tg, 0, none⟩) cap ts w (.returned (atrV ⟨tt, ta, zeroT⟩)) w') := by
                intro w' hB hS
                have : attrR r = .ok ⟨tt, ta, zeroT⟩ r.tail := by unfold attrR; rw [if_pos (any_at (ws := bare6) 3 (by decide) hq), HT.out, HA.out]
                rw [this]; exact OutA.ok hS hB
              refine (takeYes (s := [99, 104, 97, 110, 103, 101, 115]) HX.out.ps HL.out hq).mono ?_
              rintro e W4 ⟨rfl, S4, B4⟩
              have HX := hide (HX.out.step S4 B4)
              clear S4 B4
              clear hq
              go_wp2_with fail
              go_meet
              case rel => exact ⟨zeroT, r.tail, false, HX, HZ1⟩
            | false =>
              have HQ3 := hide hq
              refine (takeNo (s := [99, 104, 97, 110, 103, 101, 115]) HX.out.ps HL.out hq).mono ?_
              rintro e W3_3 ⟨rfl, S4, B4⟩
              have HX := hide (HX.out.step S4 B4)
              clear S4 B4 hq
              go_wp2_with fail
              cases hq : isT [111, 112, 101, 110] r with
              | true =>
                have HZ1 : Hid (∀ w', ButP g w w' → PS w' g (some ⟨tg, 0, none⟩) cap ts r.tail false → OutA (attrR r) g (some ⟨tg, 0, none⟩) cap ts w (.returned (atrV ⟨tt, ta, zeroT⟩)) w') := by
                  intro w' hB hS
                  have : attrR r = .ok ⟨tt, ta, zeroT⟩ r.tail := by unfold attrR; rw [if_pos (any_at (ws := bare6) 4 (by decide) hq), HT.out, HA.out]
                  rw [this]; exact OutA.ok hS hB
                refine (takeYes (s := [111, 112, 101, 110]) HX.out.ps HL.out hq).mono ?_
                rintro e W4 ⟨rfl, S4, B4⟩
                have HX := hide (HX.out.step S4 B4)
                clear S4 B4
                clear hq
                go_wp2_with fail
                go_meet
                case rel => exact ⟨zeroT, r.tail, false, HX, HZ1⟩
              | false =>
                have HQ4 := hide hq
                refine (takeNo (s := [111, 112, 101, 110]) HX.out.ps HL.out hq).mono ?_
                rintro e W3_4 ⟨rfl, S4, B4⟩
                have HX := hide (HX.out.step S4 B4)
                clear S4 B4 hq
                go_wp2_with fail
                cases hq : isT [99, 114, 101, 100, 101, 110, 116, 105, 97, 108, 115] r with
                | true =>
                  have HZ1 : Hid (∀ w', ButP g w w' → PS w' g (some ⟨tg, 0, none⟩) cap ts r.tail false → OutA (attrR r) g (some ⟨tg, 0, none⟩) cap ts w (.returned (atrV ⟨tt, ta, zeroT⟩)) w') := by
                    intro w' hB hS
                    have : attrR r = .ok ⟨tt, ta, zeroT⟩ r.tail := by unfold attrR; rw [if_pos (any_at (ws := bare6) 5 (by decide) hq), HT.out, HA.out]
                    rw [this]; exact OutA.ok hS hB
                  refine (takeYes (s := [99, 114, 101, 100, 101, 110, 116, 105, 97, 108, 115]) HX.out.ps HL.out hq).mono ?_
                  rintro e W4 ⟨rfl, S4, B4⟩
                  have HX := hide (HX.out.step S4 B4)
                  clear S4 B4
                  clear hq
                  go_wp2_with fail
                  go_meet
                  case rel => exact ⟨zeroT, r.tail, false, HX, HZ1⟩
                | false =>
                  have HQ5 := hide hq
                  refine (takeNo (s := [99, 114, 101, 100, 101, 110, 116, 105, 97, 108, 115]) HX.out.ps HL.out hq).mono ?_
                  rintro e W3_5 ⟨rfl, S4, B4⟩
                  have HX := hide (HX.out.step S4 B4)
                  clear S4 B4 hq
                  go_wp2_with fail
                  have HN0 : Hid (bare6.any (fun w => isT w r) = false) := bare_no (fun j hj => match j, hj with | 0, _ => HQ0.out | 1, _ => HQ1.out | 2, _ => HQ2.out | 3, _ => HQ3.out | 4, _ => HQ4.out | 5, _ => HQ5.out)
                  clear HQ0 HQ1 HQ2 HQ3 HQ4 HQ5
                  cases hq : isT [115, 99, 114, 105, 112, 116] r with
                  | true =>
                    have HR : Hid (attrR r = (kindR 1 r.tail).map fun t => ⟨tt, ta, t⟩) := by
                      unfold Hid attrR; rw [if_neg (by rw [HN0.out]; decide), if_pos (any_at (ws := named5) 0 (by decide) hq), HT.out, HA.out]
                    refine (takeYes (s := [115, 99, 114, 105, 112, 116]) HX.out.ps HL.out hq).mono ?_
                    rintro e W4 ⟨rfl, S4, B4⟩
                    have HX := hide (HX.out.step S4 B4)
                    clear S4 B4
                    clear hq
                    go_wp2_with fail
                    refine (pKind_any 1 g (some ⟨tg, 0, none⟩) cap ts r.tail false W4 HX.out.ps HL.out).mono ?_
                    rintro e W5 ⟨rfl, S5, B5⟩
                    have HX := hide (HX.out.step S5 B5)
                    clear S5 B5
                    have HZ : Hid (∀ (t : Tk) (rr : List Tk) (bb : Bool), t = (if !false && kindIs 1 r.tail then headT r.tail else zeroT) → rr = (if !false && kindIs 1 r.tail then r.tail.tail else r.tail) → bb = (false || !kindIs 1 r.tail) → ∀ w', ButP g w w' → PS w' g (some ⟨tg, 0, none⟩) cap ts rr bb → OutA (attrR r) g (some ⟨tg, 0, none⟩) cap ts w (.returned (atrV ⟨tt, ta, t⟩)) w') := by
                      intro t rr bb ht hr hb w' hB hS
                      rw [HR.out, kindR_eq]
                      cases hq : kindIs 1 r.tail with
                      | true => rw [hq] at ht hr hb; subst ht hr hb; exact OutA.ok hS hB
                      | false => rw [hq] at ht hr hb; subst ht hr hb; exact OutA.bad hS hB
                    obtain ⟨t, ht⟩ : ∃ t, t = (if !false && kindIs 1 r.tail then headT r.tail else zeroT) := ⟨_, rfl⟩
                    obtain ⟨rr, hrr⟩ : ∃ rr, rr = (if !false && kindIs 1 r.tail then r.tail.tail else r.tail) := ⟨_, rfl⟩
                    obtain ⟨bb, hbb⟩ : ∃ bb, bb = (false || !kindIs 1 r.tail) := ⟨_, rfl⟩
                    have HZ1 := hide (HZ.out t rr bb ht hrr hbb)
                    rw [← ht]
                    rw [← hrr, ← hbb] at HX
                    clear ht hrr hbb HZ HR
                    unfold tokV
                    have a2 := HX.out.own.c2
                    have a3 := HX.out.own.c3
                    have a4 := HX.out.own.c4
                    have q2 := HX.out.own.fr 2 (by decide)
                    have q3 := HX.out.own.fr 3 (by decide)
                    have q4 := HX.out.own.fr 4 (by decide)
                    have hl2 := HX.out.own.lt
                    have HX := hide (HX.out.put t)
                    unfold putT at HX
                    go_wp2_with fail
                    clear a2 a3 a4 q2 q3 q4 hl2
                    go_meet
                    case rel => exact ⟨t, rr, bb, HX, HZ1⟩
                  | false =>
                    have HQ6 := hide hq
                    refine (takeNo (s := [115, 99, 114, 105, 112, 116]) HX.out.ps HL.out hq).mono ?_
                    rintro e W3_6 ⟨rfl, S4, B4⟩
                    have HX := hide (HX.out.step S4 B4)
                    clear S4 B4 hq
                    go_wp2_with fail
                    cases hq : isT [110, 101, 101, 100, 115] r with
                    | true =>
                      have HR : Hid (attrR r = (kindR 1 r.tail).map fun t => ⟨tt, ta, t⟩) := by
                        unfold Hid attrR; rw [if_neg (by rw [HN0.out]; decide), if_pos (any_at (ws := named5) 1 (by decide) hq), HT.out, HA.out]
                      refine (takeYes (s := [110, 101, 101, 100, 115]) HX.out.ps HL.out hq).mono ?_
                      rintro e W4 ⟨rfl, S4, B4⟩
                      have HX := hide (HX.out.step S4 B4)
                      clear S4 B4
                      clear hq
                      go_wp2_with fail
                      refine (pKind_any 1 g (some ⟨tg, 0, none⟩) cap ts r.tail false W4 HX.out.ps HL.out).mono ?_
                      rintro e W5 ⟨rfl, S5, B5⟩
                      have HX := hide (HX.out.step S5 B5)
                      clear S5 B5
                      have HZ : Hid (∀ (t : Tk) (rr : List Tk) (bb : Bool), t = (if !false && kindIs 1 r.tail then headT r.tail else zeroT) → rr = (if !false && kindIs 1 r.tail then r.tail.tail else r.tail) → bb = (false || !kindIs 1 r.tail) → ∀ w', ButP g w w' → PS w' g (some ⟨tg, 0, none⟩) cap ts rr bb → OutA (attrR r) g (some ⟨tg, 0, none⟩) cap ts w (.returned (atrV ⟨tt, ta, t⟩)) w') := by
                        intro t rr bb ht hr hb w' hB hS
                        rw [HR.out, kindR_eq]
                        cases hq : kindIs 1 r.tail with
                        | true => rw [hq] at ht hr hb; subst ht hr hb; exact OutA.ok hS hB
                        | false => rw [hq] at ht hr hb; subst ht hr hb; exact OutA.bad hS hB
                      obtain ⟨t, ht⟩ : ∃ t, t = (if !false && kindIs 1 r.tail then headT r.tail else zeroT) := ⟨_, rfl⟩
                      obtain ⟨rr, hrr⟩ : ∃ rr, rr = (if !false && kindIs 1 r.tail then r.tail.tail else r.tail) := ⟨_, rfl⟩
                      obtain ⟨bb, hbb⟩ : ∃ bb, bb = (false || !kindIs 1 r.tail) := ⟨_, rfl⟩
                      have HZ1 := hide (HZ.out t rr bb ht hrr hbb)
                      rw [← ht]
                      rw [← hrr, ← hbb] at HX
                      clear ht hrr hbb HZ HR
                      unfold tokV
                      have a2 := HX.out.own.c2
                      have a3 := HX.out.own.c3
                      have a4 := HX.out.own.c4
                      have q2 := HX.out.own.fr 2 (by decide)
                      have q3 := HX.out.own.fr 3 (by decide)
                      have q4 := HX.out.own.fr 4 (by decide)
                      have hl2 := HX.out.own.lt
                      have HX := hide (HX.out.put t)
                      unfold putT at HX
                      go_wp2_with fail
                      clear a2 a3 a4 q2 q3 q4 hl2
                      go_meet
                      case rel => exact ⟨t, rr, bb, HX, HZ1⟩
                    | false =>
                      have HQ7 := hide hq
                      refine (takeNo (s := [110, 101, 101, 100, 115]) HX.out.ps HL.out hq).mono ?_
                      rintro e W3_7 ⟨rfl, S4, B4⟩
                      have HX := hide (HX.out.step S4 B4)
                      clear S4 B4 hq
                      go_wp2_with fail
                      cases hq : isT [115, 101, 116, 115] r with
                      | true =>
                        have HR : Hid (attrR r = (kindR 1 r.tail).map fun t => ⟨tt, ta, t⟩) := by
                          unfold Hid attrR; rw [if_neg (by rw [HN0.out]; decide), if_pos (any_at (ws := named5) 2 (by decide) hq), HT.out, HA.out]
                        refine (takeYes (s := [115, 101, 116, 115]) HX.out.ps HL.out hq).mono ?_
                        rintro e W4 ⟨rfl, S4, B4⟩
                        have HX := hide (HX.out.step S4 B4)
                        clear S4 B4
                        clear hq
                        go_wp2_with fail
                        refine (pKind_any 1 g (some ⟨tg, 0, none⟩) cap ts r.tail false W4 HX.out.ps HL.out).mono ?_
                        rintro e W5 ⟨rfl, S5, B5⟩
                        have HX := hide (HX.out.step S5 B5)
                        clear S5 B5
                        have HZ : Hid (∀ (t : Tk) (rr : List Tk) (bb : Bool), t = (if !false && kindIs 1 r.tail then headT r.tail else zeroT) → rr = (if !false && kindIs 1 r.tail then r.tail.tail else r.tail) → bb = (false || !kindIs 1 r.tail) → ∀ w', ButP g w w' → PS w' g (some ⟨tg, 0, none⟩) cap ts rr bb → OutA (attrR r) g (some ⟨tg, 0, none⟩) cap ts w (.returned (atrV ⟨tt, ta, t⟩)) w') := by
                          intro t rr bb ht hr hb w' hB hS
                          rw [HR.out, kindR_eq]
                          cases hq : kindIs 1 r.tail with
                          | true => rw [hq] at ht hr hb; subst ht hr hb; exact OutA.ok hS hB
                          | false => rw [hq] at ht hr hb; subst ht hr hb; exact OutA.bad hS hB
                        obtain ⟨t, ht⟩ : ∃ t, t = (if !false && kindIs 1 r.tail then headT r.tail else zeroT) := ⟨_, rfl⟩
                        obtain ⟨rr, hrr⟩ : ∃ rr, rr = (if !false && kindIs 1 r.tail then r.tail.tail else r.tail) := ⟨_, rfl⟩
                        obtain ⟨bb, hbb⟩ : ∃ bb, bb = (false || !kindIs 1 r.tail) := ⟨_, rfl⟩
                        have HZ1 := hide (HZ.out t rr bb ht hrr hbb)
                        rw [← ht]
                        rw [← hrr, ← hbb] at HX
                        clear ht hrr hbb HZ HR
                        unfold tokV
                        have a2 := HX.out.own.c2
                        have a3 := HX.out.own.c3
                        have a4 := HX.out.own.c4
                        have q2 := HX.out.own.fr 2 (by decide)
                        have q3 := HX.out.own.fr 3 (by decide)
                        have q4 := HX.out.own.fr 4 (by decide)
                        have hl2 := HX.out.own.lt
                        have HX := hide (HX.out.put t)
                        unfold putT at HX
                        go_wp2_with fail
                        clear a2 a3 a4 q2 q3 q4 hl2
                        go_meet
                        case rel => exact ⟨t, rr, bb, HX, HZ1⟩
                      | false =>
                        have HQ8 := hide hq
                        refine (takeNo (s := [115, 101, 116, 115]) HX.out.ps HL.out hq).mono ?_
                        rintro e W3_8 ⟨rfl, S4, B4⟩
                        have HX := hide (HX.out.step S4 B4)
                        clear S4 B4 hq
                        go_wp2_with fail
                        cases hq : isT [103, 105, 118, 101, 115] r with
                        | true =>
                          have HR : Hid (attrR r = (kindR 1 r.tail).map fun t => ⟨tt, ta, t⟩) := by
                            unfold Hid attrR; rw [if_neg (by rw [HN0.out]; decide), if_pos (any_at (ws := named5) 3 (by decide) hq), HT.out, HA.out]
                          refine (takeYes (s := [103, 105, 118, 101, 115]) HX.out.ps HL.out hq).mono ?_
                          rintro e W4 ⟨rfl, S4, B4⟩
                          have HX := hide (HX.out.step S4 B4)
                          clear S4 B4
                          clear hq
                          go_wp2_with fail
                          refine (pKind_any 1 g (some ⟨tg, 0, none⟩) cap ts r.tail false W4 HX.out.ps HL.out).mono ?_
                          rintro e W5 ⟨rfl, S5, B5⟩
                          have HX := hide (HX.out.step S5 B5)
                          clear S5 B5
                          have HZ : Hid (∀ (t : Tk) (rr : List Tk) (bb : Bool), t = (if !false && kindIs 1 r.tail then headT r.tail else zeroT) → rr = (if !false && kindIs 1 r.tail then r.tail.tail else r.tail) → bb = (false || !kindIs 1 r.tail) → ∀ w', ButP g w w' → PS w' g (some ⟨tg, 0, none⟩) cap ts rr bb → OutA (attrR r) g (some ⟨tg, 0, none⟩) cap ts w (.returned (atrV ⟨tt, ta, t⟩)) w') := by
                            intro t rr bb ht hr hb w' hB hS
                            rw [HR.out, kindR_eq]
                            cases hq : kindIs 1 r.tail with
                            | true => rw [hq] at ht hr hb; subst ht hr hb; exact OutA.ok hS hB
                            | false => rw [hq] at ht hr hb; subst ht hr hb; exact OutA.bad hS hB
                          obtain ⟨t, ht⟩ : ∃ t, t = (if !false && kindIs 1 r.tail then headT r.tail else zeroT) := ⟨_, rfl⟩
                          obtain ⟨rr, hrr⟩ : ∃ rr, rr = (if !false && kindIs 1 r.tail then r.tail.tail else r.tail) := ⟨_, rfl⟩
                          obtain ⟨bb, hbb⟩ : ∃ bb, bb = (false || !kindIs 1 r.tail) := ⟨_, rfl⟩
                          have HZ1 := hide (HZ.out t rr bb ht hrr hbb)
                          rw [← ht]
                          rw [← hrr, ← hbb] at HX
                          clear ht hrr hbb HZ HR
                          unfold tokV
                          have a2 := HX.out.own.c2
                          have a3 := HX.out.own.c3
                          have a4 := HX.out.own.c4
                          have q2 := HX.out.own.fr 2 (by decide)
                          have q3 := HX.out.own.fr 3 (by decide)
                          have q4 := HX.out.own.fr 4 (by decide)
                          have hl2 := HX.out.own.lt
                          have HX := hide (HX.out.put t)
                          unfold putT at HX
                          go_wp2_with fail
                          clear a2 a3 a4 q2 q3 q4 hl2
                          go_meet
                          case rel => exact ⟨t, rr, bb, HX, HZ1⟩
                        | false =>
                          have HQ9 := hide hq
                          refine (takeNo (s := [103, 105, 118, 101, 115]) HX.out.ps HL.out hq).mono ?_
                          rintro e W3_9 ⟨rfl, S4, B4⟩
                          have HX := hide (HX.out.step S4 B4)
                          clear S4 B4 hq
                          go_wp2_with fail
                          cases hq : isT [114, 101, 100, 105, 114, 101, 99, 116] r with
                          | true =>
                            have HR : Hid (attrR r = (kindR 1 r.tail).map fun t => ⟨tt, ta, t⟩) := by
                              unfold Hid attrR; rw [if_neg (by rw [HN0.out]; decide), if_pos (any_at (ws := named5) 4 (by decide) hq), HT.out, HA.out]
                            refine (takeYes (s := [114, 101, 100, 105, 114, 101, 99, 116]) HX.out.ps HL.out hq).mono ?_
                            rintro e W4 ⟨rfl, S4, B4⟩
                            have HX := hide (HX.out.step S4 B4)
                            clear S4 B4
                            clear hq
                            go_wp2_with fail
                            refine (pKind_any 1 g (some ⟨tg, 0, none⟩) cap ts r.tail false W4 HX.out.ps HL.out).mono ?_
                            rintro e W5 ⟨rfl, S5, B5⟩
                            have HX := hide (HX.out.step S5 B5)
                            clear S5 B5
                            have HZ : Hid (∀ (t : Tk) (rr : List Tk) (bb : Bool), t = (if !false && kindIs 1 r.tail then headT r.tail else zeroT) → rr = (if !false && kindIs 1 r.tail then r.tail.tail else r.tail) → bb = (false || !kindIs 1 r.tail) → ∀ w', ButP g w w' → PS w' g (some ⟨tg, 0, none⟩) cap ts rr bb → OutA (attrR r) g (some ⟨tg, 0, none⟩) cap ts w (.returned (atrV ⟨tt, ta, t⟩)) w') := by
                              intro t rr bb ht hr hb w' hB hS
                              rw [HR.out, kindR_eq]
                              cases hq : kindIs 1 r.tail with
                              | true => rw [hq] at ht hr hb; subst ht hr hb; exact OutA.ok hS hB
                              | false => rw [hq] at ht hr hb; subst ht hr hb; exact OutA.bad hS hB
                            obtain ⟨t, ht⟩ : ∃ t, t = (if !false && kindIs 1 r.tail then headT r.tail else zeroT) := ⟨_, rfl⟩
                            obtain ⟨rr, hrr⟩ : ∃ rr, rr = (if !false && kindIs 1 r.tail then r.tail.tail else r.tail) := ⟨_, rfl⟩
                            obtain ⟨bb, hbb⟩ : ∃ bb, bb = (false || !kindIs 1 r.tail) := ⟨_, rfl⟩
                            have HZ1 := hide (HZ.out t rr bb ht hrr hbb)
                            rw [← ht]
                            rw [← hrr, ← hbb] at HX
                            clear ht hrr hbb HZ HR
                            unfold tokV
                            have a2 := HX.out.own.c2
                            have a3 := HX.out.own.c3
                            have a4 := HX.out.own.c4
                            have q2 := HX.out.own.fr 2 (by decide)
                            have q3 := HX.out.own.fr 3 (by decide)
                            have q4 := HX.out.own.fr 4 (by decide)
                            have hl2 := HX.out.own.lt
                            have HX := hide (HX.out.put t)
                            unfold putT at HX
                            go_wp2_with fail
                            clear a2 a3 a4 q2 q3 q4 hl2
                            go_meet
                            case rel => exact ⟨t, rr, bb, HX, HZ1⟩
                          | false =>
                            have HQ10 := hide hq
                            refine (takeNo (s := [114, 101, 100, 105, 114, 101, 99, 116]) HX.out.ps HL.out hq).mono ?_
                            rintro e W3_10 ⟨rfl, S4, B4⟩
                            have HX := hide (HX.out.step S4 B4)
                            clear S4 B4 hq
                            go_wp2_with fail
                            have HN1 : Hid (named5.any (fun w => isT w r) = false) := named_no (fun j hj => match j, hj with | 0, _ => HQ6.out | 1, _ => HQ7.out | 2, _ => HQ8.out | 3, _ => HQ9.out | 4, _ => HQ10.out)
                            clear HQ6 HQ7 HQ8 HQ9 HQ10
                            cases hq : isT [99, 111, 114, 115] r with
                            | true =>
                              refine (takeYes (s := [99, 111, 114, 115]) HX.out.ps HL.out hq).mono ?_
                              rintro e W4 ⟨rfl, S4, B4⟩
                              have HX := hide (HX.out.step S4 B4)
                              clear S4 B4
                              have HRc : Hid (attrR r = (if isT w_any r.tail then kindR 2 r.tail else kindR 1 r.tail).map fun t => ⟨tt, ta, t⟩) := by
                                unfold Hid attrR; rw [if_neg (by rw [HN0.out]; decide), if_neg (by rw [HN1.out]; decide), if_pos hq, HT.out, HA.out]
                              clear hq
                              go_wp2_with fail
                              refine (pIs_any w_any g (some ⟨tg, 0, none⟩) cap ts r.tail false W4 HX.out.ps).mono ?_
                              rintro e W4' ⟨rfl, b4⟩
                              have HX := hide (HX.out.step (HX.out.ps.keep b4) (ButP.of b4))
                              clear b4
                              generalize W4' = W4 at *
                              cases hy : isT w_any r.tail with
                              | true =>
                                have HR : Hid (attrR r = (kindR 2 r.tail).map fun t => ⟨tt, ta, t⟩) := by unfold Hid; rw [HRc.out, if_pos hy]
                                clear hy HRc
                                go_wp2_with fail
                                refine (pKind_any 2 g (some ⟨tg, 0, none⟩) cap ts r.tail false W4 HX.out.ps HL.out).mono ?_
                                rintro e W5 ⟨rfl, S5, B5⟩
                                have HX := hide (HX.out.step S5 B5)
                                clear S5 B5
                                have HZ : Hid (∀ (t : Tk) (rr : List Tk) (bb : Bool), t = (if !false && kindIs 2 r.tail then headT r.tail else zeroT) → rr = (if !false && kindIs 2 r.tail then r.tail.tail else r.tail) → bb = (false || !kindIs 2 r.tail) → ∀ w', ButP g w w' → PS w' g (some ⟨tg, 0, none⟩) cap ts rr bb → OutA (attrR r) g (some ⟨tg, 0, none⟩) cap ts w (.returned (atrV ⟨tt, ta, t⟩)) w') := by
                                  intro t rr bb ht hr hb w' hB hS
                                  rw [HR.out, kindR_eq]
                                  cases hq : kindIs 2 r.tail with
                                  | true => rw [hq] at ht hr hb; subst ht hr hb; exact OutA.ok hS hB
                                  | false => rw [hq] at ht hr hb; subst ht hr hb; exact OutA.bad hS hB
                                obtain ⟨t, ht⟩ : ∃ t, t = (if !false && kindIs 2 r.tail then headT r.tail else zeroT) := ⟨_, rfl⟩
                                obtain ⟨rr, hrr⟩ : ∃ rr, rr = (if !false && kindIs 2 r.tail then r.tail.tail else r.tail) := ⟨_, rfl⟩
                                obtain ⟨bb, hbb⟩ : ∃ bb, bb = (false || !kindIs 2 r.tail) := ⟨_, rfl⟩
                                have HZ1 := hide (HZ.out t rr bb ht hrr hbb)
                                rw [← ht]
                                rw [← hrr, ← hbb] at HX
                                clear ht hrr hbb HZ HR
                                unfold tokV
                                have a2 := HX.out.own.c2
                                have a3 := HX.out.own.c3
                                have a4 := HX.out.own.c4
                                have q2 := HX.out.own.fr 2 (by decide)
                                have q3 := HX.out.own.fr 3 (by decide)
                                have q4 := HX.out.own.fr 4 (by decide)
                                have hl2 := HX.out.own.lt
                                have HX := hide (HX.out.put t)
                                unfold putT at HX
                                go_wp2_with fail
                                clear a2 a3 a4 q2 q3 q4 hl2
                                go_meet
                                case rel => exact ⟨t, rr, bb, HX, HZ1⟩
                              | false =>
                                have HR : Hid (attrR r = (kindR 1 r.tail).map fun t => ⟨tt, ta, t⟩) := by unfold Hid; rw [HRc.out, if_neg (by rw [hy]; decide)]
                                clear hy HRc
                                go_wp2_with fail
                                refine (pKind_any 1 g (some ⟨tg, 0, none⟩) cap ts r.tail false W4 HX.out.ps HL.out).mono ?_
                                rintro e W5 ⟨rfl, S5, B5⟩
                                have HX := hide (HX.out.step S5 B5)
                                clear S5 B5
                                have HZ : Hid (∀ (t : Tk) (rr : List Tk) (bb : Bool), t = (if !false && kindIs 1 r.tail then headT r.tail else zeroT) → rr = (if !false && kindIs 1 r.tail then r.tail.tail else r.tail) → bb = (false || !kindIs 1 r.tail) → ∀ w', ButP g w w' → PS w' g (some ⟨tg, 0, none⟩) cap ts rr bb → OutA (attrR r) g (some ⟨tg, 0, none⟩) cap ts w (.returned (atrV ⟨tt, ta, t⟩)) w') := by
                                  intro t rr bb ht hr hb w' hB hS
                                  rw [HR.out, kindR_eq]
                                  cases hq : kindIs 1 r.tail with
                                  | true => rw [hq] at ht hr hb; subst ht hr hb; exact OutA.ok hS hB
                                  | false => rw [hq] at ht hr hb; subst ht hr hb; exact OutA.bad hS hB
                                obtain ⟨t, ht⟩ : ∃ t, t = (if !false && kindIs 1 r.tail then headT r.tail else zeroT) := ⟨_, rfl⟩
                                obtain ⟨rr, hrr⟩ : ∃ rr, rr = (if !false && kindIs 1 r.tail then r.tail.tail else r.tail) := ⟨_, rfl⟩
                                obtain ⟨bb, hbb⟩ : ∃ bb, bb = (false || !kindIs 1 r.tail) := ⟨_, rfl⟩
                                have HZ1 := hide (HZ.out t rr bb ht hrr hbb)
                                rw [← ht]
                                rw [← hrr, ← hbb] at HX
                                clear ht hrr hbb HZ HR
                                unfold tokV
                                have a2 := HX.out.own.c2
                                have a3 := HX.out.own.c3
                                have a4 := HX.out.own.c4
                                have q2 := HX.out.own.fr 2 (by decide)
                                have q3 := HX.out.own.fr 3 (by decide)
                                have q4 := HX.out.own.fr 4 (by decide)
                                have hl2 := HX.out.own.lt
                                have HX := hide (HX.out.put t)
                                unfold putT at HX
                                go_wp2_with fail
                                clear a2 a3 a4 q2 q3 q4 hl2
                                go_meet
                                case rel => exact ⟨t, rr, bb, HX, HZ1⟩
                            | false =>
                              have HQ11 := hide hq
                              refine (takeNo (s := [99, 111, 114, 115]) HX.out.ps HL.out hq).mono ?_
                              rintro e W3_11 ⟨rfl, S4, B4⟩
                              have HX := hide (HX.out.step S4 B4)
                              clear S4 B4 hq
                              go_wp2_with fail
                              have HN2 : Hid (isT w_cors r = false) := HQ11.out
                              clear HQ11
                              cases hq : isT [104, 101, 97, 100, 101, 114] r with
                              | true =>
                                have HR : Hid (attrR r = (kindR 3 r.tail).map fun t => ⟨tt, ta, t⟩) := by
                                  unfold Hid attrR; rw [if_neg (by rw [HN0.out]; decide), if_neg (by rw [HN1.out]; decide), if_neg (by rw [HN2.out]; decide), if_pos (any_at (ws := texted4) 0 (by decide) hq), HT.out, HA.out]
                                refine (takeYes (s := [104, 101, 97, 100, 101, 114]) HX.out.ps HL.out hq).mono ?_
                                rintro e W4 ⟨rfl, S4, B4⟩
                                have HX := hide (HX.out.step S4 B4)
                                clear S4 B4
                                clear hq
                                go_wp2_with fail
                                refine (pKind_any 3 g (some ⟨tg, 0, none⟩) cap ts r.tail false W4 HX.out.ps HL.out).mono ?_
                                rintro e W5 ⟨rfl, S5, B5⟩
                                have HX := hide (HX.out.step S5 B5)
                                clear S5 B5
                                have HZ : Hid (∀ (t : Tk) (rr : List Tk) (bb : Bool), t = (if !false && kindIs 3 r.tail then headT r.tail else zeroT) → rr = (if !false && kindIs 3 r.tail then r.tail.tail else r.tail) → bb = (false || !kindIs 3 r.tail) → ∀ w', ButP g w w' → PS w' g (some ⟨tg, 0, none⟩) cap ts rr bb → OutA (attrR r) g (some ⟨tg, 0, none⟩) cap ts w (.returned (atrV ⟨tt, ta, t⟩)) w') := by
                                  intro t rr bb ht hr hb w' hB hS
                                  rw [HR.out, kindR_eq]
                                  cases hq : kindIs 3 r.tail with
                                  | true => rw [hq] at ht hr hb; subst ht hr hb; exact OutA.ok hS hB
                                  | false => rw [hq] at ht hr hb; subst ht hr hb; exact OutA.bad hS hB
                                obtain ⟨t, ht⟩ : ∃ t, t = (if !false && kindIs 3 r.tail then headT r.tail else zeroT) := ⟨_, rfl⟩
                                obtain ⟨rr, hrr⟩ : ∃ rr, rr = (if !false && kindIs 3 r.tail then r.tail.tail else r.tail) := ⟨_, rfl⟩
                                obtain ⟨bb, hbb⟩ : ∃ bb, bb = (false || !kindIs 3 r.tail) := ⟨_, rfl⟩
                                have HZ1 := hide (HZ.out t rr bb ht hrr hbb)
                                rw [← ht]
                                rw [← hrr, ← hbb] at HX
                                clear ht hrr hbb HZ HR
                                unfold tokV
                                have a2 := HX.out.own.c2
                                have a3 := HX.out.own.c3
                                have a4 := HX.out.own.c4
                                have q2 := HX.out.own.fr 2 (by decide)
                                have q3 := HX.out.own.fr 3 (by decide)
                                have q4 := HX.out.own.fr 4 (by decide)
                                have hl2 := HX.out.own.lt
                                have HX := hide (HX.out.put t)
                                unfold putT at HX
                                go_wp2_with fail
                                clear a2 a3 a4 q2 q3 q4 hl2
                                go_meet
                                case rel => exact ⟨t, rr, bb, HX, HZ1⟩
                              | false =>
                                have HQ12 := hide hq
                                refine (takeNo (s := [104, 101, 97, 100, 101, 114]) HX.out.ps HL.out hq).mono ?_
                                rintro e W3_12 ⟨rfl, S4, B4⟩
                                have HX := hide (HX.out.step S4 B4)
                                clear S4 B4 hq
                                go_wp2_with fail
                                cases hq : isT [97, 108, 108, 111, 119] r with
                                | true =>
                                  have HR : Hid (attrR r = (kindR 3 r.tail).map fun t => ⟨tt, ta, t⟩) := by
                                    unfold Hid attrR; rw [if_neg (by rw [HN0.out]; decide), if_neg (by rw [HN1.out]; decide), if_neg (by rw [HN2.out]; decide), if_pos (any_at (ws := texted4) 1 (by decide) hq), HT.out, HA.out]
                                  refine (takeYes (s := [97, 108, 108, 111, 119]) HX.out.ps HL.out hq).mono ?_
                                  rintro e W4 ⟨rfl, S4, B4⟩
                                  have HX := hide (HX.out.step S4 B4)
                                  clear S4 B4
                                  clear hq
                                  go_wp2_with fail
                                  refine (pKind_any 3 g (some ⟨tg, 0, none⟩) cap ts r.tail false W4 HX.out.ps HL.out).mono ?_
                                  rintro e W5 ⟨rfl, S5, B5⟩
                                  have HX := hide (HX.out.step S5 B5)
                                  clear S5 B5
                                  have HZ : Hid (∀ (t : Tk) (rr : List Tk) (bb : Bool), t = (if !false && kindIs 3 r.tail then headT r.tail else zeroT) → rr = (if !false && kindIs 3 r.tail then r.tail.tail else r.tail) → bb = (false || !kindIs 3 r.tail) → ∀ w', ButP g w w' → PS w' g (some ⟨tg, 0, none⟩) cap ts rr bb → OutA (attrR r) g (some ⟨tg, 0, none⟩) cap ts w (.returned (atrV ⟨tt, ta, t⟩)) w') := by
                                    intro t rr bb ht hr hb w' hB hS
                                    rw [HR.out, kindR_eq]
                                    cases hq : kindIs 3 r.tail with
                                    | true => rw [hq] at ht hr hb; subst ht hr hb; exact OutA.ok hS hB
                                    | false => rw [hq] at ht hr hb; subst ht hr hb; exact OutA.bad hS hB
                                  obtain ⟨t, ht⟩ : ∃ t, t = (if !false && kindIs 3 r.tail then headT r.tail else zeroT) := ⟨_, rfl⟩
                                  obtain ⟨rr, hrr⟩ : ∃ rr, rr = (if !false && kindIs 3 r.tail then r.tail.tail else r.tail) := ⟨_, rfl⟩
                                  obtain ⟨bb, hbb⟩ : ∃ bb, bb = (false || !kindIs 3 r.tail) := ⟨_, rfl⟩
                                  have HZ1 := hide (HZ.out t rr bb ht hrr hbb)
                                  rw [← ht]
                                  rw [← hrr, ← hbb] at HX
                                  clear ht hrr hbb HZ HR
                                  unfold tokV
                                  have a2 := HX.out.own.c2
                                  have a3 := HX.out.own.c3
                                  have a4 := HX.out.own.c4
                                  have q2 := HX.out.own.fr 2 (by decide)
                                  have q3 := HX.out.own.fr 3 (by decide)
                                  have q4 := HX.out.own.fr 4 (by decide)
                                  have hl2 := HX.out.own.lt
                                  have HX := hide (HX.out.put t)
                                  unfold putT at HX
                                  go_wp2_with fail
                                  clear a2 a3 a4 q2 q3 q4 hl2
                                  go_meet
                                  case rel => exact ⟨t, rr, bb, HX, HZ1⟩
                                | false =>
                                  have HQ13 := hide hq
                                  refine (takeNo (s := [97, 108, 108, 111, 119]) HX.out.ps HL.out hq).mono ?_
                                  rintro e W3_13 ⟨rfl, S4, B4⟩
                                  have HX := hide (HX.out.step S4 B4)
                                  clear S4 B4 hq
                                  go_wp2_with fail
                                  cases hq : isT [109, 101, 116, 104, 111, 100, 115] r with
                                  | true =>
                                    have HR : Hid (attrR r = (kindR 3 r.tail).map fun t => ⟨tt, ta, t⟩) := by
                                      unfold Hid attrR; rw [if_neg (by rw [HN0.out]; decide), if_neg (by rw [HN1.out]; decide), if_neg (by rw [HN2.out]; decide), if_pos (any_at (ws := texted4) 2 (by decide) hq), HT.out, HA.out]
                                    refine (takeYes (s := [109, 101, 116, 104, 111, 100, 115]) HX.out.ps HL.out hq).mono ?_
                                    rintro e W4 ⟨rfl, S4, B4⟩
                                    have HX := hide (HX.out.step S4 B4)
                                    clear S4 B4
                                    clear hq
                                    go_wp2_with fail
                                    refine (pKind_any 3 g (some ⟨tg, 0, none⟩) cap ts r.tail false W4 HX.out.ps HL.out).mono ?_
                                    rintro e W5 ⟨rfl, S5, B5⟩
                                    have HX := hide (HX.out.step S5 B5)
                                    clear S5 B5
                                    have HZ : Hid (∀ (t : Tk) (rr : List Tk) (bb : Bool), t = (if !false && kindIs 3 r.tail then headT r.tail else zeroT) → rr = (if !false && kindIs 3 r.tail then r.tail.tail else r.tail) → bb = (false || !kindIs 3 r.tail) → ∀ w', ButP g w w' → PS w' g (some ⟨tg, 0, none⟩) cap ts rr bb → OutA (attrR r) g (some ⟨tg, 0, none⟩) cap ts w (.returned (atrV ⟨tt, ta, t⟩)) w') := by
                                      intro t rr bb ht hr hb w' hB hS
                                      rw [HR.out, kindR_eq]
                                      cases hq : kindIs 3 r.tail with
                                      | true => rw [hq] at ht hr hb; subst ht hr hb; exact OutA.ok hS hB
                                      | false => rw [hq] at ht hr hb; subst ht hr hb; exact OutA.bad hS hB
                                    obtain ⟨t, ht⟩ : ∃ t, t = (if !false && kindIs 3 r.tail then headT r.tail else zeroT) := ⟨_, rfl⟩
                                    obtain ⟨rr, hrr⟩ : ∃ rr, rr = (if !false && kindIs 3 r.tail then r.tail.tail else r.tail) := ⟨_, rfl⟩
                                    obtain ⟨bb, hbb⟩ : ∃ bb, bb = (false || !kindIs 3 r.tail) := ⟨_, rfl⟩
                                    have HZ1 := hide (HZ.out t rr bb ht hrr hbb)
                                    rw [← ht]
                                    rw [← hrr, ← hbb] at HX
                                    clear ht hrr hbb HZ HR
                                    unfold tokV
                                    have a2 := HX.out.own.c2
                                    have a3 := HX.out.own.c3
                                    have a4 := HX.out.own.c4
                                    have q2 := HX.out.own.fr 2 (by decide)
                                    have q3 := HX.out.own.fr 3 (by decide)
                                    have q4 := HX.out.own.fr 4 (by decide)
                                    have hl2 := HX.out.own.lt
                                    have HX := hide (HX.out.put t)
                                    unfold putT at HX
                                    go_wp2_with fail
                                    clear a2 a3 a4 q2 q3 q4 hl2
                                    go_meet
                                    case rel => exact ⟨t, rr, bb, HX, HZ1⟩
                                  | false =>
                                    have HQ14 := hide hq
                                    refine (takeNo (s := [109, 101, 116, 104, 111, 100, 115]) HX.out.ps HL.out hq).mono ?_
                                    rintro e W3_14 ⟨rfl, S4, B4⟩
                                    have HX := hide (HX.out.step S4 B4)
                                    clear S4 B4 hq
                                    go_wp2_with fail
                                    cases hq : isT [99, 115, 112] r with
                                    | true =>
                                      have HR : Hid (attrR r = (kindR 3 r.tail).map fun t => ⟨tt, ta, t⟩) := by
                                        unfold Hid attrR; rw [if_neg (by rw [HN0.out]; decide), if_neg (by rw [HN1.out]; decide), if_neg (by rw [HN2.out]; decide), if_pos (any_at (ws := texted4) 3 (by decide) hq), HT.out, HA.out]
                                      refine (takeYes (s := [99, 115, 112]) HX.out.ps HL.out hq).mono ?_
                                      rintro e W4 ⟨rfl, S4, B4⟩
                                      have HX := hide (HX.out.step S4 B4)
                                      clear S4 B4
                                      clear hq
                                      go_wp2_with fail
                                      refine (pKind_any 3 g (some ⟨tg, 0, none⟩) cap ts r.tail false W4 HX.out.ps HL.out).mono ?_
                                      rintro e W5 ⟨rfl, S5, B5⟩
                                      have HX := hide (HX.out.step S5 B5)
                                      clear S5 B5
                                      have HZ : Hid (∀ (t : Tk) (rr : List Tk) (bb : Bool), t = (if !false && kindIs 3 r.tail then headT r.tail else zeroT) → rr = (if !false && kindIs 3 r.tail then r.tail.tail else r.tail) → bb = (false || !kindIs 3 r.tail) → ∀ w', ButP g w w' → PS w' g (some ⟨tg, 0, none⟩) cap ts rr bb → OutA (attrR r) g (some ⟨tg, 0, none⟩) cap ts w (.returned (atrV ⟨tt, ta, t⟩)) w') := by
                                        intro t rr bb ht hr hb w' hB hS
                                        rw [HR.out, kindR_eq]
                                        cases hq : kindIs 3 r.tail with
                                        | true => rw [hq] at ht hr hb; subst ht hr hb; exact OutA.ok hS hB
                                        | false => rw [hq] at ht hr hb; subst ht hr hb; exact OutA.bad hS hB
                                      obtain ⟨t, ht⟩ : ∃ t, t = (if !false && kindIs 3 r.tail then headT r.tail else zeroT) := ⟨_, rfl⟩
                                      obtain ⟨rr, hrr⟩ : ∃ rr, rr = (if !false && kindIs 3 r.tail then r.tail.tail else r.tail) := ⟨_, rfl⟩
                                      obtain ⟨bb, hbb⟩ : ∃ bb, bb = (false || !kindIs 3 r.tail) := ⟨_, rfl⟩
                                      have HZ1 := hide (HZ.out t rr bb ht hrr hbb)
                                      rw [← ht]
                                      rw [← hrr, ← hbb] at HX
                                      clear ht hrr hbb HZ HR
                                      unfold tokV
                                      have a2 := HX.out.own.c2
                                      have a3 := HX.out.own.c3
                                      have a4 := HX.out.own.c4
                                      have q2 := HX.out.own.fr 2 (by decide)
                                      have q3 := HX.out.own.fr 3 (by decide)
                                      have q4 := HX.out.own.fr 4 (by decide)
                                      have hl2 := HX.out.own.lt
                                      have HX := hide (HX.out.put t)
                                      unfold putT at HX
                                      go_wp2_with fail
                                      clear a2 a3 a4 q2 q3 q4 hl2
                                      go_meet
                                      case rel => exact ⟨t, rr, bb, HX, HZ1⟩
                                    | false =>
                                      have HQ15 := hide hq
                                      refine (takeNo (s := [99, 115, 112]) HX.out.ps HL.out hq).mono ?_
                                      rintro e W3_15 ⟨rfl, S4, B4⟩
                                      have HX := hide (HX.out.step S4 B4)
                                      clear S4 B4 hq
                                      go_wp2_with fail
                                      have HN3 : Hid (texted4.any (fun w => isT w r) = false) := texted_no (fun j hj => match j, hj with | 0, _ => HQ12.out | 1, _ => HQ13.out | 2, _ => HQ14.out | 3, _ => HQ15.out)
                                      clear HQ12 HQ13 HQ14 HQ15
                                      have HZ1 : Hid (∀ w', ButP g w w' → PS w' g (some ⟨tg, 0, none⟩) cap ts r true → OutA (attrR r) g (some ⟨tg, 0, none⟩) cap ts w (.returned (atrV ⟨tt, ta, zeroT⟩)) w') := by
                                        intro w' hB hS
                                        have : attrR r = .bad r := by unfold attrR; rw [if_neg (by rw [HN0.out]; decide), if_neg (by rw [HN1.out]; decide), if_neg (by rw [HN2.out]; decide), if_neg (by rw [HN3.out]; decide)]
                                        rw [this]; exact OutA.bad hS hB
                                      refine (pFail_any g (some ⟨tg, 0, none⟩) cap ts r false W3_15 HX.out.ps).mono ?_
                                      rintro e W4 ⟨rfl, S4, B4⟩
                                      have HX := hide (HX.out.step S4 B4)
                                      clear S4 B4
                                      go_wp2_with fail
                                      go_meet
                                      case rel => exact ⟨zeroT, r, true, HX, HZ1⟩
    case rest =>
    obtain ⟨t, rr, bb, HX, HZ1⟩ := hcut
    have r0 := HX.out.res.c0
    have r1 := HX.out.res.c1
    have r2 := HX.out.res.c2
    have r3 := HX.out.res.c3
    have r4 := HX.out.res.c4
    have q0 := HX.out.res.fr 0 (by decide)
    have q1 := HX.out.res.fr 1 (by decide)
    have q2 := HX.out.res.fr 2 (by decide)
    have q3 := HX.out.res.fr 3 (by decide)
    have q4 := HX.out.res.fr 4 (by decide)
    have a0 := HX.out.own.c0
    have a1 := HX.out.own.c1
    have a2 := HX.out.own.c2
    have a3 := HX.out.own.c3
    have a4 := HX.out.own.c4
    have hl1 := HX.out.res.lt
    have hl2 := HX.out.own.lt
    have HP : Hid (AB (put5 wc n ⟨tt, ta, t⟩) n ⟨tt, ta, t⟩) := HX.out.res.put5 _
    have HB : Hid (ButP g w (put5 wc n ⟨tt, ta, t⟩)) := But.trans HX.out.bt (But.below (put5_below wc n HX.out.hn _))
    have HS := hide (HX.out.ps.above (put5_below wc n HX.out.hg ⟨tt, ta, t⟩))
    unfold put5 at HP HB HS
    clear HX
    go_wp2_with fail
    refine bodyPost_ret (v := atrV ⟨tt, ta, t⟩) ?_ rfl ?_
    · exact resReadAtr10 HP.out rfl
    · exact HZ1.out _ HB.out HS.out
  · have hlI : ¬ (i : Int) < (ts.length : Int) := by omega
    have hge : ts.length ≤ i := by omega
    have HE : Hid (r = []) := by unfold Hid; rw [← hr]; exact List.drop_eq_nil_of_le hge
    clear hr hi hlt
    go_enter Try.func65, Try.ntmps65
    go_upto_region 1 with fail
    rw [← HW.out, ← HNw.out]
    go_quiet (fail)
    have bd := below_drewP W0 nq
    generalize W0.drewN nq = W1 at *
    have R1 := hide (R0.out.but (ButP.of (g := g) bd) (by have := HN.out; omega))
    have S1 := hide (S0.out.keep bd)
    have B1 := hide (B0.out.trans (ButP.of bd))
    clear bd R0 S0 B0 c0 c1 HS
    go_wp2_with fail
    refine (pFail_any g ao cap ts r false W1 S1.out).mono ?_
    rintro e W2 ⟨rfl, S2, B2⟩
    have R2 := hide (R1.out.but B2 (by have := HN.out; omega))
    have B2 := hide (B1.out.trans B2)
    have S2 := hide S2
    clear R1 S1 B1
    have r0 := R2.out.c0
    have r1 := R2.out.c1
    have r2 := R2.out.c2
    have r3 := R2.out.c3
    have r4 := R2.out.c4
    have q0 := R2.out.fr 0 (by decide)
    have q1 := R2.out.fr 1 (by decide)
    have q2 := R2.out.fr 2 (by decide)
    have q3 := R2.out.fr 3 (by decide)
    have q4 := R2.out.fr 4 (by decide)
    have hl1 := R2.out.lt
    have HP : Hid (AB (put5 W2 n zeroA) n zeroA) := R2.out.put5 _
    have HB : Hid (ButP g w (put5 W2 n zeroA)) := But.trans B2.out (But.below (put5_below W2 n HN.out.2 _))
    have HS := hide (S2.out.above (put5_below W2 n HN.out.1 zeroA))
    unfold put5 at HP HB HS
    go_wp2_with fail
    refine bodyPost_ret (v := atrV zeroA) ?_ rfl ?_
    · exact resReadAtr10 HP.out rfl
    · rw [HE.out] at HS ⊢
      exact OutA.bad HS.out HB.out

end Go.Proofs.Ytcmmjmgbanafgaa
