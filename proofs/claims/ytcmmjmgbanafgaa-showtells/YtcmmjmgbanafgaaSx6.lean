/- Trees of formulas in memory; moatref10.Parser's factor, term, formula where something is wrong already. -/
import Derived.Test.YtcmmjmgbanafgaaSx5
namespace Go.Proofs.Ytcmmjmgbanafgaa
open Go.RowKit Go.Proofs.Url Go.Proofs.Url.Syn

/-- A tree in memory, all of it above the parser's block. -/
def NodeAt (W : World) (g : Nat) : Option Addr → Fm → Prop
  | p, .un k nm a => ∃ n, p = some ⟨n, 0, none⟩ ∧ g < n ∧ W.cell? ⟨n, 0, none⟩ = some (.string ⟨k.toArray⟩) ∧ W.cell? ⟨n, 1, none⟩ = some (.string ⟨nm.toArray⟩) ∧ W.cell? ⟨n, 2, none⟩ = some (.int .i64 a) ∧ W.cell? ⟨n, 3, none⟩ = some (.slice none 0 0)
  | p, .no x => ∃ n m q, p = some ⟨n, 0, none⟩ ∧ g < n ∧ g < m ∧ W.cell? ⟨n, 0, none⟩ = some (.string ⟨w_not_.toArray⟩) ∧ W.cell? ⟨n, 1, none⟩ = some (.string ⟨#[]⟩) ∧ W.cell? ⟨n, 3, none⟩ = some (.slice (some ⟨m, 0, none⟩) 1 1) ∧
      W.cell? ⟨m, 0, none⟩ = some (.pointer q) ∧ NodeAt W g q x
  | p, .both k x y => ∃ n m q u, p = some ⟨n, 0, none⟩ ∧ g < n ∧ g < m ∧ W.cell? ⟨n, 0, none⟩ = some (.string ⟨k.toArray⟩) ∧ W.cell? ⟨n, 1, none⟩ = some (.string ⟨#[]⟩) ∧ W.cell? ⟨n, 3, none⟩ = some (.slice (some ⟨m, 0, none⟩) 2 2) ∧
      W.cell? ⟨m, 0, none⟩ = some (.pointer q) ∧ W.cell? ⟨m, 1, none⟩ = some (.pointer u) ∧ NodeAt W g q x ∧ NodeAt W g u y
theorem ButP.cellP {g : Nat} {W W' : World} (h : ButP g W W') {n j : Nat} {v : Value} (hn : g < n) (hc : W.cell? ⟨n, j, none⟩ = some v) : W'.cell? ⟨n, j, none⟩ = some v := by
  rw [h.cell (p := ⟨n, j, none⟩) (World.block_lt_of_cell? W _ hc) (by show n ≠ g; omega)]; exact hc
theorem NodeAt.but {g B : Nat} {W W' : World} (hb : ButP g W W') (hB : g ≤ B) : ∀ {f : Fm} {p : Option Addr}, NodeAt W B p f → NodeAt W' B p f
  | .un _ _ _, _, ⟨n, h1, h2, h3, h4, h5, h6⟩ => ⟨n, h1, h2, hb.cellP (Nat.lt_of_le_of_lt hB h2) h3, hb.cellP (Nat.lt_of_le_of_lt hB h2) h4, hb.cellP (Nat.lt_of_le_of_lt hB h2) h5, hb.cellP (Nat.lt_of_le_of_lt hB h2) h6⟩
  | .no _, _, ⟨n, m, q, h1, h2, h3, h4, h5, h6, h7, h8⟩ => ⟨n, m, q, h1, h2, h3, hb.cellP (Nat.lt_of_le_of_lt hB h2) h4, hb.cellP (Nat.lt_of_le_of_lt hB h2) h5, hb.cellP (Nat.lt_of_le_of_lt hB h2) h6, hb.cellP (Nat.lt_of_le_of_lt hB h3) h7, NodeAt.but hb hB h8⟩
  | .both _ _ _, _, ⟨n, m, q, u, h1, h2, h3, h4, h5, h6, h7, h8, h9, h10⟩ => ⟨n, m, q, u, h1, h2, h3, hb.cellP (Nat.lt_of_le_of_lt hB h2) h4, hb.cellP (Nat.lt_of_le_of_lt hB h2) h5, hb.cellP (Nat.lt_of_le_of_lt hB h2) h6, hb.cellP (Nat.lt_of_le_of_lt hB h3) h7, hb.cellP (Nat.lt_of_le_of_lt hB h3) h8, NodeAt.but hb hB h9, NodeAt.but hb hB h10⟩
/-- A tree that was made since a world. -/
def NodeUp (w : World) (g : Nat) (W : World) (p : Option Addr) (f : Fm) : Prop := ∀ B, g ≤ B → B < w.heap.size → NodeAt W B p f
theorem NodeUp.low {w w2 W : World} {g : Nat} {p : Option Addr} {f : Fm} (h : NodeUp w2 g W p f) (hs : w.heap.size ≤ w2.heap.size) : NodeUp w g W p f := fun B h1 h2 => h B h1 (Nat.lt_of_lt_of_le h2 hs)
theorem NodeUp.but {w W W' : World} {g : Nat} {p : Option Addr} {f : Fm} (h : NodeUp w g W p f) (hb : ButP g W W') : NodeUp w g W' p f := fun B h1 h2 => (h B h1 h2).but hb h1

/-- What a reader of formulas leaves. -/
def OutP (x : Rd Fm) (g : Nat) (ao : Option Addr) (cap : Nat) (ts : List Tk) (w : World) (e : Ending) (w' : World) : Prop :=
  ∃ p, e = .returned (.pointer p) ∧ ButP g w w' ∧ (match x with
    | .ok a r => NodeUp w g w' p a ∧ PS w' g ao cap ts r false
    | .bad r => PS w' g ao cap ts r true)
theorem OutP.bad {g : Nat} {ao : Option Addr} {cap : Nat} {ts r : List Tk} {w w' : World} {p : Option Addr} (h : PS w' g ao cap ts r true) (hb : ButP g w w') : OutP (.bad r) g ao cap ts w (.returned (.pointer p)) w' := ⟨p, rfl, hb, h⟩
theorem OutP.ok {g : Nat} {ao : Option Addr} {cap : Nat} {ts r : List Tk} {w w' : World} {p : Option Addr} {a : Fm} (h : PS w' g ao cap ts r false) (hn : NodeUp w g w' p a) (hb : ButP g w w') : OutP (.ok a r) g ao cap ts w (.returned (.pointer p)) w' := ⟨p, rfl, hb, hn, h⟩

theorem takeBad (s : List UInt8) {g : Nat} {ao : Option Addr} {cap : Nat} {ts r : List Tk} {w : World} (h : PS w g ao cap ts r true) (hl : ts.length < 4294967281) :
    Calls Try.prog 61 #[.pointer (some ⟨g, 0, none⟩), .string ⟨s.toArray⟩] w fun e w' => e = .returned (.bool false) ∧ PS w' g ao cap ts r true ∧ ButP g w w' := pTake_any s g ao cap ts r true w h hl
theorem takeNo {s : List UInt8} {g : Nat} {ao : Option Addr} {cap : Nat} {ts r : List Tk} {w : World} (h : PS w g ao cap ts r false) (hl : ts.length < 4294967281) (hs : isT s r = false) :
    Calls Try.prog 61 #[.pointer (some ⟨g, 0, none⟩), .string ⟨s.toArray⟩] w fun e w' => e = .returned (.bool false) ∧ PS w' g ao cap ts r false ∧ ButP g w w' := by
  have := pTake_any s g ao cap ts r false w h hl
  unfold takeR at this; rw [hs] at this; exact this
theorem takeYes {s : List UInt8} {g : Nat} {ao : Option Addr} {cap : Nat} {ts r : List Tk} {w : World} (h : PS w g ao cap ts r false) (hl : ts.length < 4294967281) (hs : isT s r = true) :
    Calls Try.prog 61 #[.pointer (some ⟨g, 0, none⟩), .string ⟨s.toArray⟩] w fun e w' => e = .returned (.bool true) ∧ PS w' g ao cap ts r.tail false ∧ ButP g w w' := by
  have := pTake_any s g ao cap ts r false w h hl
  unfold takeR at this; rw [hs] at this; exact this
theorem needBad (s : List UInt8) {g : Nat} {ao : Option Addr} {cap : Nat} {ts r : List Tk} {w : World} (h : PS w g ao cap ts r true) (hl : ts.length < 4294967281) :
    Calls Try.prog 63 #[.pointer (some ⟨g, 0, none⟩), .string ⟨s.toArray⟩] w fun e w' => e = .returned (.tuple #[]) ∧ PS w' g ao cap ts r true ∧ ButP g w w' := pNeed_any s g ao cap ts r true w h hl
theorem needNo {s : List UInt8} {g : Nat} {ao : Option Addr} {cap : Nat} {ts r : List Tk} {w : World} (h : PS w g ao cap ts r false) (hl : ts.length < 4294967281) (hs : isT s r = false) :
    Calls Try.prog 63 #[.pointer (some ⟨g, 0, none⟩), .string ⟨s.toArray⟩] w fun e w' => e = .returned (.tuple #[]) ∧ PS w' g ao cap ts r true ∧ ButP g w w' := by
  have := pNeed_any s g ao cap ts r false w h hl
  unfold takeR at this; rw [hs] at this; exact this
theorem needYes {s : List UInt8} {g : Nat} {ao : Option Addr} {cap : Nat} {ts r : List Tk} {w : World} (h : PS w g ao cap ts r false) (hl : ts.length < 4294967281) (hs : isT s r = true) :
    Calls Try.prog 63 #[.pointer (some ⟨g, 0, none⟩), .string ⟨s.toArray⟩] w fun e w' => e = .returned (.tuple #[]) ∧ PS w' g ao cap ts r.tail false ∧ ButP g w w' := by
  have := pNeed_any s g ao cap ts r false w h hl
  unfold takeR at this; rw [hs] at this; exact this
theorem kindBad (k : Nat) {g : Nat} {ao : Option Addr} {cap : Nat} {ts r : List Tk} {w : World} (h : PS w g ao cap ts r true) (hl : ts.length < 4294967281) :
    Calls Try.prog 62 #[.pointer (some ⟨g, 0, none⟩), .int .i64 k] w fun e w' => e = .returned (tokV zeroT) ∧ PS w' g ao cap ts r true ∧ ButP g w w' := pKind_any k g ao cap ts r true w h hl
theorem kindNo {k : Nat} {g : Nat} {ao : Option Addr} {cap : Nat} {ts r : List Tk} {w : World} (h : PS w g ao cap ts r false) (hl : ts.length < 4294967281) (hs : kindIs k r = false) :
    Calls Try.prog 62 #[.pointer (some ⟨g, 0, none⟩), .int .i64 k] w fun e w' => e = .returned (tokV zeroT) ∧ PS w' g ao cap ts r true ∧ ButP g w w' := by
  have := pKind_any k g ao cap ts r false w h hl
  unfold KindPost at this; rw [hs] at this; exact this
theorem kindYes {k : Nat} {g : Nat} {ao : Option Addr} {cap : Nat} {ts r : List Tk} {w : World} (h : PS w g ao cap ts r false) (hl : ts.length < 4294967281) (hs : kindIs k r = true) :
    Calls Try.prog 62 #[.pointer (some ⟨g, 0, none⟩), .int .i64 k] w fun e w' => e = .returned (tokV (headT r)) ∧ PS w' g ao cap ts r.tail false ∧ ButP g w w' := by
  have := pKind_any k g ao cap ts r false w h hl
  unfold KindPost at this; rw [hs] at this; exact this
theorem LitsAt.but {g : Nat} {W W' : World} {b : Nat} {l : List (List UInt8)} (h : LitsAt W b l) (hb : ButP g W W') (hn : b ≠ g) (hlt : b < W.heap.size) : LitsAt W' b l := by
  intro k hk
  rw [hb.cell (p := ⟨b, k, none⟩) hlt hn]; exact h k hk

set_option maxHeartbeats 2000000 in
set_option maxRecDepth 100000 in
theorem factorBad (g : Nat) (ao : Option Addr) (cap : Nat) (ts r : List Tk) (w : World) (h : PS w g ao cap ts r true) (hl : ts.length < 4294967281) :
    Calls Try.prog 88 #[.pointer (some ⟨g, 0, none⟩)] w fun e w' => OutP (.bad r) g ao cap ts w e w' := by
  have HL := hide hl
  have hglw := h.lt
  go_enter Try.func88, Try.ntmps88
  go_wp2_with fail
  refine (takeBad w_not_ h hl).mono ?_
  rintro e w1 ⟨rfl, S1, B1⟩
  have B1 := hide B1
  go_wp2_with fail
  refine (takeBad w_lpa S1 hl).mono ?_
  rintro e w2 ⟨rfl, S2, B2⟩
  have B2 := hide (B1.out.trans B2)
  have S2 := hide S2
  clear S1 B1 h
  have hgl2 := S2.out.lt
  go_upto_region 8 with fail
  obtain ⟨W3, hW3⟩ : ∃ W3, W3 = w2.alloc (Obj.cells (words5.map (fun l => Value.string ⟨l.toArray⟩)).toArray 9) := ⟨_, rfl⟩
  have L3 : Hid (LitsAt W3 w2.heap.size words5) := by unfold Hid; rw [hW3]; exact lits_new w2 words5 9
  have B3 : Hid (ButP g w W3) := by unfold Hid; rw [hW3]; exact B2.out.trans (ButP.alloc _ _ _)
  have S3 : Hid (PS W3 g ao cap ts r true) := by unfold Hid; rw [hW3]; exact S2.out.keep ((Below.refl _ _).alloc (Nat.le_refl _) _)
  have hs3 : w2.heap.size < W3.heap.size := by rw [hW3]; simp
  simp only [words5, List.map] at hW3
  rw [← hW3]
  clear hW3 B2 S2 hl
  go_wp2_with fail
  go_loopw [5] (fun iv W => ∃ k : Nat, k ≤ 5 ∧ iv = .int .i64 k ∧ Hid (LitsAt W w2.heap.size words5) ∧ Hid (ButP g w W) ∧ Hid (PS W g ao cap ts r true) ∧ w2.heap.size < W.heap.size) (fun iv _ => 5 - (intOf iv).toNat)
  case atStart => exact ⟨0, by omega, rfl, L3, B3, S3, hs3⟩
  case round =>
    obtain ⟨k, hk, rfl, hL, hB, hS, hs⟩ := hrel
    by_cases hlt : k < 5
    · have hlI : (k : Int) < 5 := by omega
      have hc := hL.out k hlt
      go_wp2_with fail
      refine (takeBad _ hS.out HL.out).mono ?_
      rintro e w4 ⟨rfl, S4, B4⟩
      have L4 := hide (hL.out.but B4 (by omega) hs)
      have hs4 : w2.heap.size < w4.heap.size := Nat.lt_of_lt_of_le hs B4.size
      have B4 := hide (hB.out.trans B4)
      have S4 := hide S4
      clear hL hB hS hc
      go_wp2_with fail
      exact ⟨⟨k + 1, by omega, by go_num, L4, B4, S4, hs4⟩, by simp [intOf]; omega⟩
    · go_wp2_with fail
      refine (pFail_any g ao cap ts r true wr hS.out).mono ?_
      rintro e w4 ⟨rfl, S4, B4⟩
      have B4 := hide (hB.out.trans B4)
      have S4 := hide S4
      have B5 := hide (fun o => B4.out.trans (ButP.alloc g w4 o))
      have S5 := hide (fun o => S4.out.keep ((Below.refl w4.heap.size w4).alloc (Nat.le_refl _) o))
      clear hL hB hS
      go_wp2_with fail
      go_ret
      exact OutP.bad (S5.out _) (B5.out _)

set_option maxHeartbeats 2000000 in
theorem termBad (g : Nat) (ao : Option Addr) (cap : Nat) (ts r : List Tk) (w : World) (h : PS w g ao cap ts r true) (hl : ts.length < 4294967281) :
    Calls Try.prog 79 #[.pointer (some ⟨g, 0, none⟩)] w fun e w' => OutP (.bad r) g ao cap ts w e w' := by
  have HL := hide hl
  go_enter Try.func79, Try.ntmps79
  go_wp2_with fail
  refine (factorBad g ao cap ts r w h hl).mono ?_
  rintro e w1 ⟨p, rfl, B1, S1⟩
  have B1 := hide B1
  have S1 := hide S1
  clear h hl
  go_wp2_with fail
  go_loopw [3] (fun pv W => ∃ p, pv = .pointer p ∧ Hid (ButP g w W) ∧ Hid (PS W g ao cap ts r true)) (fun _ _ => 0)
  case atStart => exact ⟨p, rfl, B1, S1⟩
  case round =>
    obtain ⟨p', rfl, hB, hS⟩ := hrel
    go_wp2_with fail
    refine (takeBad _ hS.out HL.out).mono ?_
    rintro e w4 ⟨rfl, S4, B4⟩
    have B4 := hide (hB.out.trans B4)
    have S4 := hide S4
    clear hB hS
    go_wp2_with fail
    go_ret
    exact OutP.bad S4.out B4.out
set_option maxHeartbeats 2000000 in
theorem formulaBad (g : Nat) (ao : Option Addr) (cap : Nat) (ts r : List Tk) (w : World) (h : PS w g ao cap ts r true) (hl : ts.length < 4294967281) :
    Calls Try.prog 66 #[.pointer (some ⟨g, 0, none⟩)] w fun e w' => OutP (.bad r) g ao cap ts w e w' := by
  have HL := hide hl
  go_enter Try.func66, Try.ntmps66
  go_wp2_with fail
  refine (termBad g ao cap ts r w h hl).mono ?_
  rintro e w1 ⟨p, rfl, B1, S1⟩
  have B1 := hide B1
  have S1 := hide S1
  clear h hl
  go_wp2_with fail
  go_loopw [3] (fun pv W => ∃ p, pv = .pointer p ∧ Hid (ButP g w W) ∧ Hid (PS W g ao cap ts r true)) (fun _ _ => 0)
  case atStart => exact ⟨p, rfl, B1, S1⟩
  case round =>
    obtain ⟨p', rfl, hB, hS⟩ := hrel
    go_wp2_with fail
    refine (takeBad _ hS.out HL.out).mono ?_
    rintro e w4 ⟨rfl, S4, B4⟩
    have B4 := hide (hB.out.trans B4)
    have S4 := hide S4
    clear hB hS
    go_wp2_with fail
    go_ret
    exact OutP.bad S4.out B4.out
end Go.Proofs.Ytcmmjmgbanafgaa
