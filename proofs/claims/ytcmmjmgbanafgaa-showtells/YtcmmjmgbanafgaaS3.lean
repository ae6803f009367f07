/- Walks over moatlaw0.SameTexts and moatlaw2.awake: it answers true. -/
import Derived.Test.YtcmmjmgbanafgaaS2
import Derived.Deep.QuietTactic
import Derived.BigQuiet
namespace Go.Proofs.Ytcmmjmgbanafgaa
open Go.RowKit Go.Proofs.Url

/-- A row of texts in a block of its own, as far as a walk reads it. -/
def TextsAt (w : World) (ao : Option Addr) (ps : List ByteArray) : Prop :=
  ∀ k (h : k < ps.length), ∃ g, ao = some ⟨g, 0, none⟩ ∧ w.cell? ⟨g, k, none⟩ = some (.string ps[k])
theorem TextsAt.keep {w w' : World} {ao : Option Addr} {ps : List ByteArray} (h : TextsAt w ao ps) (hb : Below w.heap.size w w') : TextsAt w' ao ps := by
  intro k hk
  obtain ⟨g, hg, hc⟩ := h k hk
  exact ⟨g, hg, by rw [hb.cell (World.block_lt_of_cell? w _ hc)]; exact hc⟩
theorem take_eq_of {α : Type} {a b : List α} {k : Nat} (h : a.take k = b.take k) (ha : k < a.length) (hb : k < b.length) (he : a[k] = b[k]) : a.take (k + 1) = b.take (k + 1) := by
  rw [List.take_succ_eq_append_getElem ha, List.take_succ_eq_append_getElem hb, h, he]

theorem st1 : siteS [97, 46, 98, 46, 101, 120, 97, 109, 112, 108, 101] = [98, 46, 101, 120, 97, 109, 112, 108, 101] := by decide +kernel
theorem un1 : underS [120, 46, 97, 46, 98] [97, 46, 98] = true := by decide +kernel
theorem un2 : underS [120, 97, 46, 98] [97, 46, 98] = false := by decide +kernel
theorem sm1 : sameP http http [97, 46, 99, 46, 100] [99, 46, 100] = true := by decide +kernel
theorem lb1 : labelsS [97, 46, 98] = [[97], [98]] := by decide +kernel

theorem two_texts {ps : List ByteArray} (h : ps.map (·.data.toList) = [[97], [98]]) : ps = [⟨#[97]⟩, ⟨#[98]⟩] := by
  match ps, h with
  | [a, b], h =>
    simp only [List.map_cons, List.map_nil, List.cons.injEq, and_true] at h
    rw [dataEq (a := a) (b := ⟨#[97]⟩) h.1, dataEq (a := b) (b := ⟨#[98]⟩) h.2]
  | [], h => simp at h
  | [_], h => simp at h
  | _ :: _ :: _ :: _, h => simp at h
theorem texts2 (w : World) (a b : ByteArray) (t : TypeId) : TextsAt (w.alloc (.cells #[.string a, .string b] t)) (some ⟨w.heap.size, 0, none⟩) [a, b] := by
  intro k hk
  refine ⟨w.heap.size, rfl, ?_⟩
  rw [World.cell?_alloc_new]
  match k, hk with
  | 0, _ => rfl
  | 1, _ => rfl

/-- A row of constant texts in a new block, read at a place. -/
theorem lit_cell (w : World) (ls : List (List UInt8)) (t : TypeId) (k : Nat) (h : k < ls.length) : (w.alloc (Obj.cells (ls.map (fun l => Value.string ⟨l.toArray⟩)).toArray t)).cell? ⟨w.heap.size, k, none⟩ = some (.string ⟨ls[k].toArray⟩) := by
  rw [World.cell?_alloc_new]; simp [h]

theorem wrap_i64_small (n : Nat) (h : n < 9223372036854775808) : IntKind.i64.wrap (n : Int) = n := by
  simp [IntKind.wrap, IntKind.bits, IntKind.signed]
  omega
/-- What is left of a number by a mask: something from 0 to the mask. -/
theorem and_mask (z : Int) (m : Nat) (hm : m < 9223372036854775808) : ∃ r : Nat, r ≤ m ∧ bits .and .i64 z (m : Int) = (r : Int) := by
  have h2 : (BitVec.ofInt 64 (m : Int)).toNat = m := by
    rw [BitVec.ofInt_natCast, BitVec.toNat_ofNat]; exact Nat.mod_eq_of_lt (by omega)
  refine ⟨(BitVec.ofInt 64 z &&& BitVec.ofInt 64 (m : Int)).toNat, ?_, ?_⟩
  · rw [BitVec.toNat_and, h2]; exact Nat.and_le_right
  · show IntKind.i64.wrap ((BitVec.ofInt 64 z &&& BitVec.ofInt 64 (m : Int)).toNat : Int) = _
    refine wrap_i64_small _ ?_
    rw [BitVec.toNat_and, h2]; exact Nat.lt_of_le_of_lt Nat.and_le_right hm

end Go.Proofs.Ytcmmjmgbanafgaa
