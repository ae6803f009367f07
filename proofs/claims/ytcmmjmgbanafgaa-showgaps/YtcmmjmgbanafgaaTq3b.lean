/- The walks over tree.reader's word, at, sees. -/
import Derived.Test.YtcmmjmgbanafgaaTq2
import Derived.Test.YtcmmjmgbanafgaaTq3a
import Derived.Test.YtcmmjmgbanafgaaQL
namespace Go.Proofs.Ytcmmjmgbanafgaa
open Go.RowKit Go.Proofs.Url Go.Proofs.Url.Syn

theorem below_drew2 (w : World) (m n : Nat) : Below w.heap.size w ((w.drewN m).drewN n) := (below_drewP w m).trans (show Below w.heap.size (w.drewN m) _ from below_drewP (w.drewN m) n)
set_option maxHeartbeats 2000000 in
set_option maxRecDepth 100000 in
theorem word_any (g : Nat) (ao : Option Addr) (cap : Nat) (ts r : List Tk) (n : Nat) (w : World) (h : RS w g ao cap ts r n) :
    Calls Try.prog 72 #[.pointer (some ⟨g, 0, none⟩)] w fun e w' => e = .returned (.string ⟨(wordR r).toArray⟩) ∧ Below w.heap.size w w' := by
  have BD := hide (fun n => below_drewP w n)
  cases r with
  | nil =>
    obtain ⟨c0, c1, c2, f1⟩ := h.nil
    have hgl : g < w.heap.size := World.block_lt_of_cell? w _ c0
    clear h
    go_enter Try.func72, Try.ntmps72
    go_wp2_with fail
    go_quiet (fail)
    go_wp2_with fail
    go_ret
    exact ⟨rfl, BD.out _⟩
  | cons t r =>
    obtain ⟨i, b, hlt, hd, rfl, hb, ⟨c0, c1, c2, f1⟩, k1, k2, k3⟩ := h.cell
    have hgl : g < w.heap.size := World.block_lt_of_cell? w _ c0
    have hbl : b < w.heap.size := by omega
    have hne : ((i : Int) == (ts.length : Int)) = false := beq_eq_false_iff_ne.2 (by omega)
    have hlI : (i : Int) < (ts.length : Int) := by omega
    rw [wordR_cons]
    clear h hd
    generalize t.kind = tk at *
    generalize t.text = tt at *
    generalize ts.length = tl at *
    by_cases h2 : tk = 2
    · subst h2
      rw [if_pos rfl]
      clear hlt
      go_enter Try.func72, Try.ntmps72
      go_wp2_with fail
      go_quiet (fail)
      go_wp2_with fail
      go_quiet (fail)
      go_wp2_with fail
      go_ret
      exact ⟨rfl, below_drew2 w _ _⟩
    · have b2 : ((tk : Int) != 2) = true := by simp; omega
      rw [if_neg h2]
      clear h2 hlt
      go_enter Try.func72, Try.ntmps72
      go_wp2_with fail
      go_quiet (fail)
      go_wp2_with fail
      go_ret
      exact ⟨rfl, BD.out _⟩
/-- Where the token that comes stands; the text's end behind all. -/
def atR (n : Nat) : List Tk → Nat
  | [] => n
  | t :: _ => t.at'
set_option maxHeartbeats 2000000 in
set_option maxRecDepth 100000 in
theorem at_any (g : Nat) (ao : Option Addr) (cap : Nat) (ts r : List Tk) (n : Nat) (w : World) (h : RS w g ao cap ts r n) :
    Calls Try.prog 52 #[.pointer (some ⟨g, 0, none⟩)] w fun e w' => e = .returned (.int .i64 (atR n r)) ∧ Below w.heap.size w w' := by
  have BD := hide (fun n => below_drewP w n)
  cases r with
  | nil =>
    obtain ⟨c0, c1, c2, f1⟩ := h.nil
    have hgl : g < w.heap.size := World.block_lt_of_cell? w _ c0
    clear h
    go_enter Try.func52, Try.ntmps52
    go_wp2_with fail
    go_quiet (fail)
    go_wp2_with fail
    go_ret
    exact ⟨rfl, BD.out _⟩
  | cons t r =>
    obtain ⟨i, b, hlt, hd, rfl, hb, ⟨c0, c1, c2, f1⟩, k1, k2, k3⟩ := h.cell
    have hgl : g < w.heap.size := World.block_lt_of_cell? w _ c0
    have hbl : b < w.heap.size := by omega
    have hne : ((i : Int) == (ts.length : Int)) = false := beq_eq_false_iff_ne.2 (by omega)
    have hlI : (i : Int) < (ts.length : Int) := by omega
    have e : atR n (t :: r) = t.at' := rfl
    rw [e]
    clear h hd e
    generalize t.at' = ta at *
    generalize ts.length = tl at *
    clear hlt
    go_enter Try.func52, Try.ntmps52
    go_wp2_with fail
    go_quiet (fail)
    go_wp2_with fail
    go_quiet (fail)
    go_wp2_with fail
    go_ret
    exact ⟨rfl, below_drew2 w _ _⟩
theorem tk_range {W : World} {b i : Nat} {t : Tk} (k1 : W.cell? ⟨b, i * 3, none⟩ = some (.int .i64 t.kind)) (k2 : W.cell? ⟨b, i * 3 + 1, none⟩ = some (.int .i64 t.at')) (k3 : W.cell? ⟨b, i * 3 + 2, none⟩ = some (.string ⟨t.text.toArray⟩)) : W.rangeAt b (i * 3) (tkCells t) := by
  intro j v hj
  match j, hj with
  | 0, hj => cases hj; exact k1
  | 1, hj => cases hj; exact k2
  | 2, hj => cases hj; exact k3
theorem quiet_rangeq {W : World} {cs : List Value} {g o : Nat} (h : W.rangeAt g o cs) (hg : g < W.heap.size) : ∀ W', (∃ p : Regrown, W' = Sort.grow (redrawn W p.d) p.os) → W'.rangeAt g o cs := by
  rintro W' ⟨p, rfl⟩
  intro j v hj
  rw [(below_regrown W p.d p.os).cell (p := ⟨g, o + j, none⟩) hg]; exact h j v hj
set_option maxHeartbeats 2000000 in
set_option maxRecDepth 100000 in
theorem sees_any (want : List UInt8) (g : Nat) (ao : Option Addr) (cap : Nat) (ts r : List Tk) (n : Nat) (w : World) (h : RS w g ao cap ts r n) :
    Calls Try.prog 85 #[.pointer (some ⟨g, 0, none⟩), .string ⟨want.toArray⟩] w fun e w' => e = .returned (.bool (fitT want r)) ∧ Below w.heap.size w w' := by
  have BD := hide (fun n => below_drewP w n)
  cases r with
  | nil =>
    obtain ⟨c0, c1, c2, f1⟩ := h.nil
    have hgl : g < w.heap.size := World.block_lt_of_cell? w _ c0
    clear h
    go_enter Try.func85, Try.ntmps85
    go_wp2_with fail
    go_quiet (fail)
    go_wp2_with fail
    go_ret
    exact ⟨rfl, BD.out _⟩
  | cons t r =>
    obtain ⟨i, b, hlt, hd, rfl, hb, ⟨c0, c1, c2, f1⟩, k1, k2, k3⟩ := h.cell
    have hgl : g < w.heap.size := World.block_lt_of_cell? w _ c0
    have hbl : b < w.heap.size := by omega
    have hlI : (i : Int) < (ts.length : Int) := by omega
    have IF : Hid ((Try.prog.info? 39).map (·.size) = some 3) := by unfold Hid; kernel_rfl
    have Q1 := hide (quiet_rangeq (tk_range k1 k2 k3) hbl)
    have F1 := hide (fun d o => Calls.regrown_of (fits_any t want (Sort.grow (redrawn w d) o)))
    have d0 := fun d os => cell_regrown c0 d os
    have d1 := fun d os => cell_regrown c1 d os
    have e : fitT want (t :: r) = fitS t want := rfl
    rw [e]
    generalize fitS t want = bb at *
    clear h hd e k1 k2 k3 c0 c1 c2 f1
    generalize ts.length = tl at *
    go_enter Try.func85, Try.ntmps85
    go_upto_region 1 with fail
    refine wp_region_quiet_below (by kernel_rfl) (by kernel_rfl) ?_
    repeat (first
      | (refine wpQuiet_row rfl 39 _ rfl b (i * 3) rfl (tkCells t) _ Q1.out Try.underlying39 rfl IF.out ?_; simp only [tkCells, Act.put, List.setIfInBounds_toArray, List.set_cons_succ, List.set_cons_zero])
      | (go_big_quiet_step (first | (go_at_call 91; exact F1.out _ _))))
    refine wpQuiet_nil ?_
    rintro _ ⟨pq, rfl⟩
    have hb6 := below_regrown w pq.d pq.os
    go_wp2_with fail
    go_ret
    exact ⟨rfl, hb6⟩
end Go.Proofs.Ytcmmjmgbanafgaa
