/- A parser in memory; the walks over moatref10.Parser's ok, fail, is, take, need. -/
import Derived.Test.YtcmmjmgbanafgaaLx4
import Derived.Test.YtcmmjmgbanafgaaSx1
namespace Go.Proofs.Url
/-- Where a token stands; -1 behind all. -/
def atI : List Tk → Int
  | [] => -1
  | t :: _ => t.at'
end Go.Proofs.Url
namespace Go.Proofs.Ytcmmjmgbanafgaa
open Go.RowKit Go.Proofs.Url Go.Proofs.Url.Syn

/-- A row of tokens below a bound. -/
def TksB (W : World) (B : Nat) (ao : Option Addr) (ts : List Tk) : Prop :=
  ∀ k (h : k < ts.length), ∃ g, ao = some ⟨g, 0, none⟩ ∧ g < B ∧ W.cell? ⟨g, k * 3, none⟩ = some (.int .i64 ts[k].kind) ∧ W.cell? ⟨g, k * 3 + 1, none⟩ = some (.int .i64 ts[k].at') ∧ W.cell? ⟨g, k * 3 + 2, none⟩ = some (.string ⟨ts[k].text.toArray⟩)
/-- A parser's own four cells. -/
structure PB (W : World) (g : Nat) (sl : Value) (i : Nat) (c a : Int) : Prop where
  c0 : W.cell? ⟨g, 0, none⟩ = some sl
  c1 : W.cell? ⟨g, 1, none⟩ = some (.int .i64 i)
  c2 : W.cell? ⟨g, 2, none⟩ = some (.int .i64 c)
  c3 : W.cell? ⟨g, 3, none⟩ = some (.int .i64 a)
  fr : ∀ j, j < 4 → W.frozen? ⟨g, j, none⟩ = false
theorem PB.lt {W : World} {g : Nat} {sl : Value} {i : Nat} {c a : Int} (h : PB W g sl i c a) : g < W.heap.size := World.block_lt_of_cell? W _ h.c0
theorem PB.keep {W W' : World} {g : Nat} {sl : Value} {i : Nat} {c a : Int} (h : PB W g sl i c a) (hb : Below W.heap.size W W') : PB W' g sl i c a :=
  ⟨by rw [hb.cell (p := ⟨g, 0, none⟩) h.lt]; exact h.c0, by rw [hb.cell (p := ⟨g, 1, none⟩) h.lt]; exact h.c1, by rw [hb.cell (p := ⟨g, 2, none⟩) h.lt]; exact h.c2, by rw [hb.cell (p := ⟨g, 3, none⟩) h.lt]; exact h.c3, fun j hj => by rw [hb.frozen (p := ⟨g, j, none⟩) h.lt]; exact h.fr j hj⟩
theorem PB.frS {W : World} {g : Nat} {sl : Value} {i : Nat} {c a : Int} (h : PB W g sl i c a) (k : Nat) (v : Value) : ∀ j, j < 4 → (W.setCell ⟨g, k, none⟩ v).frozen? ⟨g, j, none⟩ = false := fun j hj => by
  rw [World.frozen?_setCell]; exact h.fr j hj
theorem PB.set1 {W : World} {g : Nat} {sl : Value} {i : Nat} {c a : Int} (h : PB W g sl i c a) (v : Nat) : PB (W.setCell ⟨g, 1, none⟩ (.int .i64 v)) g sl v c a :=
  ⟨tcell_other h.c0 (by decide), tcell_same h.c1, tcell_other h.c2 (by decide), tcell_other h.c3 (by decide), h.frS _ _⟩
theorem PB.set2 {W : World} {g : Nat} {sl : Value} {i : Nat} {c a : Int} (h : PB W g sl i c a) (v : Int) : PB (W.setCell ⟨g, 2, none⟩ (.int .i64 v)) g sl i v a :=
  ⟨tcell_other h.c0 (by decide), tcell_other h.c1 (by decide), tcell_same h.c2, tcell_other h.c3 (by decide), h.frS _ _⟩
theorem PB.set3 {W : World} {g : Nat} {sl : Value} {i : Nat} {c a : Int} (h : PB W g sl i c a) (v : Int) : PB (W.setCell ⟨g, 3, none⟩ (.int .i64 v)) g sl i c v :=
  ⟨tcell_other h.c0 (by decide), tcell_other h.c1 (by decide), tcell_other h.c2 (by decide), tcell_same h.c3, h.frS _ _⟩
theorem TksB.keep {W W' : World} {B : Nat} {ao : Option Addr} {ts : List Tk} (h : TksB W B ao ts) (hb : Below B W W') : TksB W' B ao ts := by
  intro k hk
  obtain ⟨g, h1, h2, h3, h4, h5⟩ := h k hk
  exact ⟨g, h1, h2, by rw [hb.cell (p := ⟨g, k * 3, none⟩) h2]; exact h3, by rw [hb.cell (p := ⟨g, k * 3 + 1, none⟩) h2]; exact h4, by rw [hb.cell (p := ⟨g, k * 3 + 2, none⟩) h2]; exact h5⟩
/-- A parser: its tokens, those that are left, whether something is wrong. -/
structure PS (W : World) (g : Nat) (ao : Option Addr) (cap : Nat) (ts r : List Tk) (b : Bool) : Prop where
  ex : ∃ i, i ≤ ts.length ∧ ts.drop i = r ∧ PB W g (.slice ao ts.length cap) i (if b then 4 else 0) (if b then atI r else 0)
  tk : TksB W g ao ts
theorem PS.lt {W : World} {g : Nat} {ao : Option Addr} {cap : Nat} {ts r : List Tk} {b : Bool} (h : PS W g ao cap ts r b) : g < W.heap.size := by
  obtain ⟨i, _, _, hp⟩ := h.ex; exact hp.lt
theorem PS.keep {W W' : World} {g : Nat} {ao : Option Addr} {cap : Nat} {ts r : List Tk} {b : Bool} (h : PS W g ao cap ts r b) (hb : Below W.heap.size W W') : PS W' g ao cap ts r b := by
  obtain ⟨i, h1, h2, hp⟩ := h.ex
  exact ⟨⟨i, h1, h2, hp.keep hb⟩, h.tk.keep (hb.mono (Nat.le_of_lt h.lt))⟩
/-- All blocks that were there but the parser's are as they were. -/
abbrev ButP (g : Nat) (W W' : World) : Prop := But g W.heap.size W W'
theorem ButP.trans {g : Nat} {W W' W'' : World} (h : ButP g W W') (k : ButP g W' W'') : ButP g W W'' := But.trans h (k.mono h.size)
theorem ButP.of {g : Nat} {W W' : World} (h : Below W.heap.size W W') : ButP g W W' := But.below h
theorem ButP.tks {g : Nat} {W W' : World} {ao : Option Addr} {ts : List Tk} (h : TksB W g ao ts) (hb : Below g W W') : TksB W' g ao ts := h.keep hb
theorem PB.tks {W : World} {g : Nat} {sl : Value} {i : Nat} {c a : Int} (_h : PB W g sl i c a) {ao : Option Addr} {ts : List Tk} (ht : TksB W g ao ts) (j : Nat) (v : Value) : TksB (W.setCell ⟨g, j, none⟩ v) g ao ts :=
  ht.keep ((Below.refl _ _).setCell (p := ⟨g, j, none⟩) (Nat.le_refl _) v)

theorem below_drewP (W : World) (n : Nat) : Below W.heap.size W (W.drewN n) := _root_.Go.below_drewN (Below.refl _ _) n

set_option maxHeartbeats 400000 in
theorem pOk_any (g : Nat) (ao : Option Addr) (cap : Nat) (ts r : List Tk) (b : Bool) (w : World) (h : PS w g ao cap ts r b) :
    Calls Try.prog 33 #[.pointer (some ⟨g, 0, none⟩)] w fun e w' => e = .returned (.bool (!b)) ∧ w' = w := by
  obtain ⟨i, hi, hr, hp⟩ := h.ex
  have c2 := hp.c2
  have hgl := hp.lt
  clear hp h hr hi
  cases b with
  | true =>
    simp only [if_true] at c2
    go_enter Try.func33, Try.ntmps33
    go_wp2_with fail
    go_ret
    exact ⟨rfl, rfl⟩
  | false =>
    simp only [Bool.false_eq_true, if_false] at c2
    go_enter Try.func33, Try.ntmps33
    go_wp2_with fail
    go_ret
    exact ⟨rfl, rfl⟩

set_option maxHeartbeats 2000000 in
theorem pFail_any (g : Nat) (ao : Option Addr) (cap : Nat) (ts r : List Tk) (b : Bool) (w : World) (h : PS w g ao cap ts r b) :
    Calls Try.prog 67 #[.pointer (some ⟨g, 0, none⟩)] w fun e w' => e = .returned (.tuple #[]) ∧ PS w' g ao cap ts r true ∧ ButP g w w' := by
  have HS := hide h
  obtain ⟨i, hi, hr, hp⟩ := h.ex
  have HP := hide hp
  have c2 := hp.c2
  have hgl := hp.lt
  cases b with
  | true =>
    clear hp h hr hi
    simp only [if_true] at c2
    go_enter Try.func67, Try.ntmps67
    go_wp2_with fail
    refine bodyPost_end (v := .tuple #[]) (by kernel_rfl) rfl ?_
    exact ⟨rfl, HS.out, But.refl _ _ _⟩
  | false =>
    have HT := hide h.tk
    simp only [Bool.false_eq_true, if_false] at c2
    simp only [Bool.false_eq_true, if_false] at HP
    have q2 := hp.fr 2 (by decide)
    have q3 := hp.fr 3 (by decide)
    have c3 := HP.out.c3
    clear hp h HS
    by_cases hlt : i < ts.length
    · have hlI : (i : Int) < (ts.length : Int) := by omega
      go_enter Try.func67, Try.ntmps67
      go_upto_region 2 with fail
      obtain ⟨Wf, hWf⟩ : ∃ Wf, Wf = (w.setCell ⟨g, 2, none⟩ (.int .i64 4)).setCell ⟨g, 3, none⟩ (.int .i64 (-1)) := ⟨_, rfl⟩
      rw [← hWf]
      have X : Hid (PB Wf g (.slice ao ts.length cap) i 4 (-1)) := by unfold Hid; rw [hWf]; exact (HP.out.set2 4).set3 (-1)
      have T : Hid (TksB Wf g ao ts) := by unfold Hid; rw [hWf]; exact (HP.out.set2 4).tks (HP.out.tks HT.out _ _) _ _
      have BF : Hid (ButP g w Wf) := by unfold Hid; rw [hWf]; exact ((But.refl _ _ _).set 2 _).set 3 _
      clear hWf HP HT c2 q2 q3 c3 hgl
      have c0 := X.out.c0
      have c1 := X.out.c1
      have c3 := X.out.c3
      have q3 := X.out.fr 3 (by decide)
      have hgl := X.out.lt
      have HD : Hid (ts.drop i = r) := hr
      obtain ⟨tg, rfl, htg, k1, k2, k3⟩ := T.out i hlt
      have HA : Hid ((ts[i].at' : Int) = atI r) := by unfold Hid; rw [← hr, List.drop_eq_getElem_cons hlt]; rfl
      generalize ts[i].at' = ta at *
      generalize ts[i].kind = tk at *
      generalize ts[i].text = tt at *
      have htl : tg < Wf.heap.size := by omega
      clear hr
      go_quiet (fail)
      go_wp2_with fail
      go_region
      refine bodyPost_end (v := .tuple #[]) (by kernel_rfl) rfl ?_
      have bd := below_drewP Wf (nq + 1)
      refine ⟨rfl, ⟨⟨i, hi, HD.out, ?_⟩, ?_⟩, ?_⟩
      · rw [← HA.out]; exact (X.out.keep bd).set3 _
      · exact (X.out.keep bd).tks (T.out.keep (bd.mono (Nat.le_of_lt hgl))) _ _
      · exact (BF.out.trans (ButP.of bd)).set _ _
    · have hlI : ¬ (i : Int) < (ts.length : Int) := by omega
      go_enter Try.func67, Try.ntmps67
      go_upto_region 2 with fail
      obtain ⟨Wf, hWf⟩ : ∃ Wf, Wf = (w.setCell ⟨g, 2, none⟩ (.int .i64 4)).setCell ⟨g, 3, none⟩ (.int .i64 (-1)) := ⟨_, rfl⟩
      rw [← hWf]
      have X : Hid (PB Wf g (.slice ao ts.length cap) i 4 (-1)) := by unfold Hid; rw [hWf]; exact (HP.out.set2 4).set3 (-1)
      have T : Hid (TksB Wf g ao ts) := by unfold Hid; rw [hWf]; exact (HP.out.set2 4).tks (HP.out.tks HT.out _ _) _ _
      have BF : Hid (ButP g w Wf) := by unfold Hid; rw [hWf]; exact ((But.refl _ _ _).set 2 _).set 3 _
      clear hWf HP HT c2 q2 q3 c3 hgl
      have c0 := X.out.c0
      have c1 := X.out.c1
      have hgl := X.out.lt
      have HN : Hid (r = []) := by unfold Hid; rw [← hr]; exact List.drop_eq_nil_of_le (by omega)
      go_quiet (fail)
      go_wp2_with fail
      refine bodyPost_end (v := .tuple #[]) (by kernel_rfl) rfl ?_
      have bd := below_drewP Wf nq
      refine ⟨rfl, ⟨⟨i, hi, hr, ?_⟩, ?_⟩, ?_⟩
      · rw [HN.out]; exact X.out.keep bd
      · exact T.out.keep (bd.mono (Nat.le_of_lt hgl))
      · exact BF.out.trans (ButP.of bd)

theorem drop_headP {ts : List Tk} {i : Nat} {t : Tk} {r : List Tk} (h : ts.drop i = t :: r) : ∃ h' : i < ts.length, ts[i] = t ∧ ts.drop (i + 1) = r := by
  have h' : i < ts.length := by
    rcases Nat.lt_or_ge i ts.length with h2 | h2
    · exact h2
    · rw [List.drop_eq_nil_of_le h2] at h; cases h
  rw [List.drop_eq_getElem_cons h'] at h
  exact ⟨h', (List.cons.inj h).1, (List.cons.inj h).2⟩
theorem drop_nilP {ts : List Tk} {i : Nat} (h : ts.drop i = []) : ts.length ≤ i := by
  have := congrArg List.length h
  rw [List.length_drop, List.length_nil] at this; omega

end Go.Proofs.Ytcmmjmgbanafgaa
