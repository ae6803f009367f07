/- Rows of integers that came in, rows of constant texts, rows of texts that a walk owns. -/
import Derived.Test.YtcmmjmgbanafgaaS3
namespace Go.Proofs.Ytcmmjmgbanafgaa
open Go.RowKit Go.Proofs.Url

/-- A slice of integers that came in, as far as a walk reads it: each element lies in a cell of old memory. -/
def RowI (w : World) (a : Option Addr) (len : Nat) (z : Nat → Int) : Prop :=
  ∀ k, k < len → ∃ b off, a = some ⟨b, off, none⟩ ∧ b < w.heap.size ∧ w.cell? ⟨b, off + k, none⟩ = some (.int .i64 (z k))
theorem RowI.keep {w W : World} {a : Option Addr} {len : Nat} {z : Nat → Int} (h : RowI w a len z) (hb : Below w.heap.size w W) : ∀ k, k < len → ∃ b off, a = some ⟨b, off, none⟩ ∧ b < w.heap.size ∧ W.cell? ⟨b, off + k, none⟩ = some (.int .i64 (z k)) := by
  intro k hk
  obtain ⟨b, off, h1, h2, h3⟩ := h k hk
  exact ⟨b, off, h1, h2, by rw [hb.cell (p := ⟨b, off + k, none⟩) h2]; exact h3⟩
/-- A row of constant texts in a block. -/
def LitsAt (W : World) (g : Nat) (ls : List (List UInt8)) : Prop := ∀ r, r < ls.length → W.cell? ⟨g, r, none⟩ = some (.string ⟨(ls.getD r []).toArray⟩)
theorem LitsAt.keep {w w' : World} {g : Nat} {ls : List (List UInt8)} (h : LitsAt w g ls) (hb : Below w.heap.size w w') : LitsAt w' g ls := fun r hr => by
  rw [hb.cell (World.block_lt_of_cell? w _ (h r hr))]; exact h r hr
theorem LitsAt.keepB {w w' : World} {B g : Nat} {ls : List (List UInt8)} (h : LitsAt w g ls) (hb : Below B w w') (hg : g < B) : LitsAt w' g ls := fun r hr => by
  rw [hb.cell (p := ⟨g, r, none⟩) hg]; exact h r hr
theorem texts_roundB {B : Nat} {w3 : World} {qs : List (List UInt8)} {x : List UInt8} {v' : Value}
    (hown : w3.ownsRow B 9 1 v' (qs.length + 1) (qs.map (fun q => Value.string ⟨q.toArray⟩) ++ [.string ⟨x.toArray⟩])) :
    ∃ (ao : Option Addr) (cv : Nat), v' = .slice ao (qs ++ [x]).length cv ∧ Hid (w3.ownsRow B 9 1 (.slice ao (qs ++ [x]).length cv) (qs ++ [x]).length ((qs ++ [x]).map (fun q => Value.string ⟨q.toArray⟩))) := by
  have hq : (qs ++ [x]).length = qs.length + 1 := by simp
  obtain ⟨g, cap, hv⟩ : ∃ g cap, v' = .slice (some ⟨g, 0, none⟩) (qs.length + 1) cap := by
    rcases hown.2 with ⟨_, h⟩ | ⟨g, cap, _, h, _⟩
    · omega
    · exact ⟨g, cap, h⟩
  subst hv
  refine ⟨some ⟨g, 0, none⟩, cap, by rw [hq], ?_⟩
  unfold Hid; rw [hq, List.map_append]; exact hown
theorem lits_new (w : World) (ls : List (List UInt8)) (t : TypeId) : LitsAt (w.alloc (Obj.cells (ls.map (fun l => Value.string ⟨l.toArray⟩)).toArray t)) w.heap.size ls := by
  intro r hr
  have h := lit_cell w ls t r hr
  have e : ls[r]'hr = ls.getD r [] := by rw [List.getD_eq_getElem?_getD, List.getElem?_eq_getElem hr]; rfl
  rw [e] at h; exact h

end Go.Proofs.Ytcmmjmgbanafgaa
