/- Walks over package domain: Labels, SameSite; moatlaw0.SameTexts. -/
import Derived.Test.YtcmmjmgbanafgaaS1
namespace Go.Proofs.Ytcmmjmgbanafgaa
open Go.RowKit Go.Proofs.Url

theorem owns_base {w : World} {base : Nat} {e : TypeId} {size : Nat} {v : Value} {n : Nat} {xs : List Value} (h : w.ownsRow base e size v n xs) : ∀ j, v.ownBlock = some j → base ≤ j := by
  intro j hj
  rcases h.2 with ⟨rfl, _⟩ | ⟨g, cap, cur, rfl, hb, _⟩
  · cases hj
  · have : g = j := by simpa [Value.ownBlock] using hj
    omega
/-- A row that a walk owns stays as it was where all old blocks do. -/
theorem owns_below {w w' : World} {base : Nat} {e : TypeId} {size : Nat} {v : Value} {n : Nat} {xs : List Value} (h : w.ownsRow base e size v n xs) (hb : Below w.heap.size w w') : w'.ownsRow base e size v n xs := by
  refine ⟨h.1, ?_⟩
  rcases h.2 with h1 | ⟨g, cap, cur, hv, hg, hh, r⟩
  · exact .inl h1
  · refine .inr ⟨g, cap, cur, hv, hg, ?_, r⟩
    rw [hb.block g ?_]; exact hh
    rcases Nat.lt_or_ge g w.heap.size with h | h
    · exact h
    · rw [Array.getElem?_eq_none h] at hh; cases hh
theorem infoS : (Try.prog.info? 9).map (fun i => (i.zero, i.size, i.bytes)) = some (some (.string ByteArray.empty), 1, 16) := by kernel_rfl

/-- Where the walk over Labels stands: so many labels lie in its row, the rest is not yet cut. -/
def LabInv (l : List UInt8) (ps : List ByteArray) (cur : List UInt8) (b : Bool) : Prop :=
  if b = true then parts 46 l = ps.map (·.data.toList) ++ parts 46 cur else parts 46 l = ps.map (·.data.toList)
theorem lab_step {l : List UInt8} {ps : List ByteArray} {a b : List UInt8} (h : LabInv l ps (a ++ 46 :: b) true) (hn : ∀ x ∈ a, x ≠ 46) : LabInv l (ps ++ [⟨a.toArray⟩]) b true := by
  unfold LabInv at *; rw [if_pos rfl] at *; rw [h, parts_at 46 a b hn]; simp
theorem lab_last {l : List UInt8} {ps : List ByteArray} {a : List UInt8} (h : LabInv l ps a true) (hn : ∀ x ∈ a, x ≠ 46) : LabInv l (ps ++ [⟨a.toArray⟩]) [] false := by
  unfold LabInv at *; rw [if_pos rfl] at h; rw [if_neg (by decide), h, parts_none 46 a hn]; simp

theorem lab_round {l : List UInt8} {w w3 : World} {ps : List ByteArray} {x : ByteArray} {c : List UInt8} {b : Bool} {v' : Value} (hl : ps.length + c.length + 1 ≤ 60 ∨ b = false)
    (HI : Hid (LabInv l (ps ++ [x]) c b)) (hcl : c.length ≤ 60)
    (hown : w3.ownsRow w.heap.size 9 1 v' (ps.length + 1) (ps.map Value.string ++ [.string x])) (hB : Hid (Below w.heap.size w w3)) :
    ∃ (cur : List UInt8) (qs : List ByteArray) (ao : Option Addr) (cv : Nat) (bb : Bool), Value.string ⟨c.toArray⟩ = .string ⟨cur.toArray⟩ ∧ v' = .slice ao qs.length cv ∧ Value.bool b = .bool bb ∧ cur.length ≤ 60 ∧
      (qs.length + cur.length ≤ 60 ∨ bb = false) ∧ Hid (LabInv l qs cur bb) ∧ Hid (w3.ownsRow w.heap.size 9 1 (.slice ao qs.length cv) qs.length (qs.map Value.string)) ∧ Hid (Below w.heap.size w w3) := by
  have hq : (ps ++ [x]).length = ps.length + 1 := by simp
  obtain ⟨g, cap, hv⟩ : ∃ g cap, v' = .slice (some ⟨g, 0, none⟩) (ps.length + 1) cap := by
    rcases hown.2 with ⟨_, h⟩ | ⟨g, cap, _, h, _⟩
    · omega
    · exact ⟨g, cap, h⟩
  subst hv
  refine ⟨c, ps ++ [x], some ⟨g, 0, none⟩, cap, b, rfl, by rw [hq], rfl, hcl, by rw [hq]; exact hl.imp (fun h => by omega) id, HI, ?_, hB⟩
  unfold Hid; rw [hq, List.map_append]; exact hown

end Go.Proofs.Ytcmmjmgbanafgaa
