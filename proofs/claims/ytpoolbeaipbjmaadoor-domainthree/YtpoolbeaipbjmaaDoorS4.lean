/- What the walk over moatlaw2.DomainThree keeps of memory. -/
import Derived.Test.YtpoolbeaipbjmaaDoorS3
import Derived.Test.YtpoolbeaipbjmaaDoorD4
namespace Go.Proofs.YtpoolbeaipbjmaaDoor
open Go.RowKit Go.Proofs.Url

/-- Constant texts, in a block. -/
def LitsAt (W : World) (g : Nat) (ls : List (List UInt8)) : Prop := ∀ r, r < ls.length → W.cell? ⟨g, r, none⟩ = some (.string ⟨(ls.getD r []).toArray⟩)
theorem lits_new (w : World) (ls : List (List UInt8)) (t : TypeId) : LitsAt (w.alloc (Obj.cells (ls.map (fun l => Value.string ⟨l.toArray⟩)).toArray t)) w.heap.size ls := by
  intro r hr
  have h := lit_cell w ls t r hr
  have e : ls[r]'hr = ls.getD r [] := by rw [List.getD_eq_getElem?_getD, List.getElem?_eq_getElem hr]; rfl
  rw [e] at h; exact h

def num3 (n0 n1 n2 : Int) (k : Nat) : Int := if k = 0 then n0 else if k = 1 then n1 else n2
/-- What the walk keeps of memory: the numbers, the hosts, the origins that are laid so far (schemes s, hosts h). -/
structure Mem3 (w W : World) (n0 n1 n2 : Int) (k : Nat) (s h : Nat → List UInt8) : Prop where
  ns : ∀ j, j < 3 → W.cell? ⟨w.heap.size, j, none⟩ = some (.int .i64 (num3 n0 n1 n2 j))
  hs : LitsAt W (w.heap.size + 1) hosts7
  sz : w.heap.size + 1 + 1 < W.heap.size
  laid : ∀ j, j < k → W.cell? ⟨w.heap.size + 1 + 1, j * 4, none⟩ = some (.string ⟨#[]⟩) ∧ W.cell? ⟨w.heap.size + 1 + 1, j * 4 + 1, none⟩ = some (.string ⟨(s j).toArray⟩) ∧
    W.cell? ⟨w.heap.size + 1 + 1, j * 4 + 2, none⟩ = some (.string ⟨(h j).toArray⟩) ∧ W.cell? ⟨w.heap.size + 1 + 1, j * 4 + 3, none⟩ = some (.int .i64 (1 + (j : Int)))
  there : ∀ o, o < 12 → (W.cell? ⟨w.heap.size + 1 + 1, o, none⟩).isSome = true
  free : ∀ o, W.frozen? ⟨w.heap.size + 1 + 1, o, none⟩ = false
  ok : ∀ j, j < k → s j ≠ [] ∧ (s j).length ≤ 5 ∧ host (h j) = true ∧ (h j).length ≤ 10

def put4 (w : World) (B o : Nat) (v0 v1 v2 v3 : Value) : World := (((w.setCell ⟨B, o, none⟩ v0).setCell ⟨B, o + 1, none⟩ v1).setCell ⟨B, o + 2, none⟩ v2).setCell ⟨B, o + 3, none⟩ v3
theorem put4_far (w : World) (B o : Nat) (v0 v1 v2 v3 : Value) (b x : Nat) (h : b ≠ B ∨ x < o ∨ o + 4 ≤ x) : (put4 w B o v0 v1 v2 v3).cell? ⟨b, x, none⟩ = w.cell? ⟨b, x, none⟩ := by
  unfold put4
  rw [World.cell?_setCell_other _ _ _ _ (by intro e; injection e; omega), World.cell?_setCell_other _ _ _ _ (by intro e; injection e; omega), World.cell?_setCell_other _ _ _ _ (by intro e; injection e; omega), World.cell?_setCell_other _ _ _ _ (by intro e; injection e; omega)]
theorem put4_in (w : World) (B o : Nat) (v0 v1 v2 v3 : Value) (h : ∀ j, j < 4 → (w.cell? ⟨B, o + j, none⟩).isSome = true) :
    (put4 w B o v0 v1 v2 v3).cell? ⟨B, o, none⟩ = some v0 ∧ (put4 w B o v0 v1 v2 v3).cell? ⟨B, o + 1, none⟩ = some v1 ∧ (put4 w B o v0 v1 v2 v3).cell? ⟨B, o + 2, none⟩ = some v2 ∧ (put4 w B o v0 v1 v2 v3).cell? ⟨B, o + 3, none⟩ = some v3 := by
  obtain ⟨u0, h0⟩ := Option.isSome_iff_exists.1 (h 0 (by omega))
  obtain ⟨u1, h1⟩ := Option.isSome_iff_exists.1 (h 1 (by omega))
  obtain ⟨u2, h2⟩ := Option.isSome_iff_exists.1 (h 2 (by omega))
  obtain ⟨u3, h3⟩ := Option.isSome_iff_exists.1 (h 3 (by omega))
  unfold put4
  refine ⟨?_, ?_, ?_, ?_⟩
  · rw [World.cell?_setCell_other _ _ _ _ (by intro e; injection e; omega), World.cell?_setCell_other _ _ _ _ (by intro e; injection e; omega), World.cell?_setCell_other _ _ _ _ (by intro e; injection e; omega)]
    exact World.cell?_setCell_same _ _ _ (u := u0) h0
  · rw [World.cell?_setCell_other _ _ _ _ (by intro e; injection e; omega), World.cell?_setCell_other _ _ _ _ (by intro e; injection e; omega)]
    exact World.cell?_setCell_same _ _ _ (u := u1) (by rw [World.cell?_setCell_other _ _ _ _ (by intro e; injection e; omega)]; exact h1)
  · rw [World.cell?_setCell_other _ _ _ _ (by intro e; injection e; omega)]
    exact World.cell?_setCell_same _ _ _ (u := u2) (by rw [World.cell?_setCell_other _ _ _ _ (by intro e; injection e; omega), World.cell?_setCell_other _ _ _ _ (by intro e; injection e; omega)]; exact h2)
  · exact World.cell?_setCell_same _ _ _ (u := u3) (by rw [World.cell?_setCell_other _ _ _ _ (by intro e; injection e; omega), World.cell?_setCell_other _ _ _ _ (by intro e; injection e; omega), World.cell?_setCell_other _ _ _ _ (by intro e; injection e; omega)]; exact h3)
theorem put4_size (w : World) (B o : Nat) (v0 v1 v2 v3 : Value) : (put4 w B o v0 v1 v2 v3).heap.size = w.heap.size := by simp [put4]
theorem put4_frozen (w : World) (B o : Nat) (v0 v1 v2 v3 : Value) (a : Addr) : (put4 w B o v0 v1 v2 v3).frozen? a = w.frozen? a := by simp [put4]
theorem put4_below {w W : World} (h : Below w.heap.size w W) (B o : Nat) (hB : w.heap.size ≤ B) (v0 v1 v2 v3 : Value) : Below w.heap.size w (put4 W B o v0 v1 v2 v3) :=
  (((h.setCell (p := ⟨B, o, none⟩) hB _).setCell (p := ⟨B, o + 1, none⟩) hB _).setCell (p := ⟨B, o + 2, none⟩) hB _).setCell (p := ⟨B, o + 3, none⟩) hB _

def upd (f : Nat → List UInt8) (k : Nat) (x : List UInt8) (j : Nat) : List UInt8 := if j = k then x else f j
theorem mem3_step {w W : World} {n0 n1 n2 : Int} {k : Nat} {s h : Nat → List UInt8} (hM : Mem3 w W n0 n1 n2 k s h) (hk : k < 3) {sc ho : List UInt8} (h1 : sc ≠ []) (h2 : sc.length ≤ 5) (h3 : host ho = true) (h4 : ho.length ≤ 10) (c : Array Value) (t : TypeId) :
    Mem3 w ((put4 W (w.heap.size + 1 + 1) (k * 4) (.string ⟨#[]⟩) (.string ⟨sc.toArray⟩) (.string ⟨ho.toArray⟩) (.int .i64 (1 + (k : Int)))).alloc (.cells c t)).drew n0 n1 n2 (k + 1) (upd s k sc) (upd h k ho) := by
  have hs := hM.sz
  have old : ∀ b x, b < W.heap.size → (b ≠ w.heap.size + 1 + 1 ∨ x < k * 4 ∨ k * 4 + 4 ≤ x) → (((put4 W (w.heap.size + 1 + 1) (k * 4) (.string ⟨#[]⟩) (.string ⟨sc.toArray⟩) (.string ⟨ho.toArray⟩) (.int .i64 (1 + (k : Int)))).alloc (.cells c t)).drew).cell? ⟨b, x, none⟩ = W.cell? ⟨b, x, none⟩ := by
    intro b x hb hx
    rw [World.cell?_drew, World.cell?_alloc_lt _ _ _ (by rw [put4_size]; exact hb), put4_far _ _ _ _ _ _ _ _ _ hx]
  have new := put4_in W (w.heap.size + 1 + 1) (k * 4) (.string ⟨#[]⟩) (.string ⟨sc.toArray⟩) (.string ⟨ho.toArray⟩) (.int .i64 (1 + (k : Int))) (fun j hj => hM.there _ (by omega))
  have new' : ∀ x, (((put4 W (w.heap.size + 1 + 1) (k * 4) (.string ⟨#[]⟩) (.string ⟨sc.toArray⟩) (.string ⟨ho.toArray⟩) (.int .i64 (1 + (k : Int)))).alloc (.cells c t)).drew).cell? ⟨w.heap.size + 1 + 1, x, none⟩ = (put4 W (w.heap.size + 1 + 1) (k * 4) (.string ⟨#[]⟩) (.string ⟨sc.toArray⟩) (.string ⟨ho.toArray⟩) (.int .i64 (1 + (k : Int)))).cell? ⟨w.heap.size + 1 + 1, x, none⟩ := by
    intro x
    rw [World.cell?_drew, World.cell?_alloc_lt _ _ _ (by rw [put4_size]; exact hs)]
  refine ⟨fun j hj => ?_, fun r hr => ?_, ?_, fun j hj => ?_, fun o ho => ?_, fun o => ?_, fun j hj => ?_⟩
  · rw [old _ _ (by omega) (.inl (by omega))]; exact hM.ns j hj
  · rw [old _ _ (by omega) (.inl (by omega))]; exact hM.hs r hr
  · simp [put4_size]; omega
  · by_cases e : j = k
    · subst e
      rw [new', new', new', new']
      unfold upd; rw [if_pos rfl, if_pos rfl]
      exact new
    · rw [old _ _ hs (.inr (by omega)), old _ _ hs (.inr (by omega)), old _ _ hs (.inr (by omega)), old _ _ hs (.inr (by omega))]
      unfold upd; rw [if_neg e, if_neg e]
      exact hM.laid j (by omega)
  · by_cases e : o < k * 4 ∨ k * 4 + 4 ≤ o
    · rw [old _ _ hs (.inr e)]; exact hM.there o ho
    · rw [new']
      have : o = k * 4 ∨ o = k * 4 + 1 ∨ o = k * 4 + 2 ∨ o = k * 4 + 3 := by omega
      rcases this with rfl | rfl | rfl | rfl
      · rw [new.1]; rfl
      · rw [new.2.1]; rfl
      · rw [new.2.2.1]; rfl
      · rw [new.2.2.2]; rfl
  · show (((put4 W (w.heap.size + 1 + 1) (k * 4) _ _ _ _).alloc (.cells c t)).frozen? _) = false
    rw [World.frozen?_alloc_old _ _ _ (by rw [put4_size]; simp only; omega), put4_frozen]; exact hM.free o
  · unfold upd
    by_cases e : j = k
    · rw [if_pos e, if_pos e]; exact ⟨h1, h2, h3, h4⟩
    · rw [if_neg e, if_neg e]; exact hM.ok j (by omega)
def zeroO : List Value := [.string ⟨#[]⟩, .string ⟨#[]⟩, .string ⟨#[]⟩, .int .i64 0]
theorem mem3_start (w : World) (n0 n1 n2 : Int) (t1 t2 t3 : TypeId) (s h : Nat → List UInt8) :
    Mem3 w (((w.alloc (.cells #[.int .i64 n0, .int .i64 n1, .int .i64 n2] t1)).alloc (.cells (hosts7.map (fun l => Value.string ⟨l.toArray⟩)).toArray t2)).alloc (.cells (zeroO ++ zeroO ++ zeroO).toArray t3)) n0 n1 n2 0 s h := by
  have c2 : ∀ o, (((w.alloc (.cells #[.int .i64 n0, .int .i64 n1, .int .i64 n2] t1)).alloc (.cells (hosts7.map (fun l => Value.string ⟨l.toArray⟩)).toArray t2)).alloc (.cells (zeroO ++ zeroO ++ zeroO).toArray t3)).cell? ⟨w.heap.size + 1 + 1, o, none⟩ = (zeroO ++ zeroO ++ zeroO).toArray[o]? := fun o => by
    rw [World.cell?_alloc_at _ _ _ _ (by simp)]
  refine ⟨fun j hj => ?_, fun r hr => ?_, by simp, fun j hj => by omega, fun o ho => ?_, fun o => ?_, fun j hj => by omega⟩
  · rw [World.cell?_alloc_lt _ _ _ (by simp; omega), World.cell?_alloc_lt _ _ _ (by simp), World.cell?_alloc_new]
    have : j = 0 ∨ j = 1 ∨ j = 2 := by omega
    rcases this with rfl | rfl | rfl <;> rfl
  · rw [World.cell?_alloc_lt _ _ _ (by simp)]
    have := lits_new (w.alloc (.cells #[.int .i64 n0, .int .i64 n1, .int .i64 n2] t1)) hosts7 t2 r hr
    simp only [World.size_alloc] at this
    exact this
  · rw [c2, List.getElem?_toArray, List.getElem?_eq_getElem (show o < (zeroO ++ zeroO ++ zeroO).length from ho)]; rfl
  · rw [World.frozen?_alloc_at _ _ _ _ (by simp)]
theorem wrap_one (k : Nat) (h : k < 3) : IntKind.i64.wrap (1 + (k : Int)) = 1 + (k : Int) := by
  have : 1 + (k : Int) = ((1 + k : Nat) : Int) := by omega
  rw [this]; exact wrap_i64_small _ (by omega)

end Go.Proofs.YtpoolbeaipbjmaaDoor
