/- Walks over moatref5: In, Safe, Known, Head, Simple; moatlaw0.GreatTexts. -/
import Derived.Test.YtmepjaepggomjaaDoorS3
import Derived.Test.YtmepjaepggomjaaDoorV3
import Derived.Test.YtmepjaepggomjaaDoorG1
namespace Go.Proofs.YtmepjaepggomjaaDoor
open Go.RowKit Go.Proofs.Url

/-- A row of texts anywhere in memory, as far as a walk reads it. -/
def HeadsAt (w : World) (ao : Option Addr) (hs : List (List UInt8)) : Prop :=
  ∀ k (h : k < hs.length), ∃ b off, ao = some ⟨b, off, none⟩ ∧ w.cell? ⟨b, off + k, none⟩ = some (.string ⟨hs[k].toArray⟩)
theorem HeadsAt.keep {w w' : World} {ao : Option Addr} {hs : List (List UInt8)} (h : HeadsAt w ao hs) (hb : Below w.heap.size w w') : HeadsAt w' ao hs := by
  intro k hk
  obtain ⟨b, off, h1, h2⟩ := h k hk
  exact ⟨b, off, h1, by rw [hb.cell (World.block_lt_of_cell? w _ h2)]; exact h2⟩
theorem heads_new (w : World) (ls : List (List UInt8)) (t : TypeId) : HeadsAt (w.alloc (Obj.cells (ls.map (fun l => Value.string ⟨l.toArray⟩)).toArray t)) (some ⟨w.heap.size, 0, none⟩) ls := by
  intro k hk
  refine ⟨w.heap.size, 0, rfl, ?_⟩
  rw [Nat.zero_add]
  exact lit_cell w ls t k hk

theorem heads_own {w : World} {base : Nat} {ao : Option Addr} {cap : Nat} {qs : List (List UInt8)} (h : w.ownsRow base 9 1 (.slice ao qs.length cap) qs.length (qs.map (fun q => Value.string ⟨q.toArray⟩))) : HeadsAt w ao qs := by
  intro k hk
  rcases h.2 with ⟨hv, h0⟩ | ⟨g, cap', cur, hv, hg, hh, hn, hm, hsz, htk⟩
  · omega
  · simp only [Value.slice.injEq, true_and] at hv
    obtain ⟨rfl, rfl⟩ := hv
    refine ⟨g, 0, rfl, ?_⟩
    have : (cur.toList.take (qs.length * 1))[k]? = (qs.map (fun q => Value.string ⟨q.toArray⟩))[k]? := by rw [htk]
    rw [List.getElem?_take, if_pos (by omega)] at this
    have e : w.cell? ⟨g, 0 + k, none⟩ = cur[k]? := by simp [World.cell?, hh]
    rw [e]; simpa [hk] using this

/-- Are texts more than is gone through? -/
def greatS (hs : List (List UInt8)) (many long : Int) : Bool := decide (many < (hs.length : Int)) || hs.any (fun h => decide (long < (h.length : Int)))
theorem great_no {hs : List (List UInt8)} {many long : Int} (h : greatS hs many long = false) : (hs.length : Int) ≤ many ∧ ∀ x ∈ hs, (x.length : Int) ≤ long := by
  unfold greatS at h
  rw [Bool.or_eq_false_iff] at h
  refine ⟨?_, fun x hx => ?_⟩
  · have := of_decide_eq_false h.1; omega
  · have h2 := List.any_eq_false.1 h.2 x hx
    have : ¬ long < (x.length : Int) := by simpa using h2
    omega
end Go.Proofs.YtmepjaepggomjaaDoor
