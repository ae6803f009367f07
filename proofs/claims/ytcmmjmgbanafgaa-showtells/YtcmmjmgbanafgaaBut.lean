/- All blocks below a bound but one are as they were (E6 has a But of its own: never both in one seat). -/
import Derived.Test.YtcmmjmgbanafgaaW1
namespace Go.Proofs.Ytcmmjmgbanafgaa
open Go.RowKit Go.Proofs.Url

structure But (g B : Nat) (W W' : World) : Prop where
  os : W'.os = W.os
  tape : W'.tape = W.tape
  output : W'.output = W.output
  size : W.heap.size ≤ W'.heap.size
  block : ∀ k, k < B → k ≠ g → W'.heap[k]? = W.heap[k]?
theorem But.refl (g B : Nat) (W : World) : But g B W W := ⟨rfl, rfl, rfl, Nat.le_refl _, fun _ _ _ => rfl⟩
theorem But.trans {g B : Nat} {W W' W'' : World} (h : But g B W W') (k : But g B W' W'') : But g B W W'' :=
  ⟨k.os.trans h.os, k.tape.trans h.tape, k.output.trans h.output, Nat.le_trans h.size k.size, fun i hi hn => (k.block i hi hn).trans (h.block i hi hn)⟩
theorem But.below {g B : Nat} {W W' : World} (h : Below B W W') : But g B W W' := ⟨h.os, h.tape, h.output, h.size, fun k hk _ => h.block k hk⟩
theorem But.mono {g B B' : Nat} {W W' : World} (h : But g B W W') (hB : B' ≤ B) : But g B' W W' := ⟨h.os, h.tape, h.output, h.size, fun k hk hn => h.block k (by omega) hn⟩
theorem But.set {g B : Nat} {W W' : World} (h : But g B W W') (j : Nat) (v : Value) : But g B W (W'.setCell ⟨g, j, none⟩ v) :=
  h.trans ⟨rfl, rfl, rfl, by simp [World.setCell], fun k _ hn => Below.heap_setCell _ _ _ _ hn⟩
theorem But.cell {g B : Nat} {W W' : World} (h : But g B W W') {p : Addr} (hp : p.block < B) (hn : p.block ≠ g) : W'.cell? p = W.cell? p := World.cell?_of_block (w := W) (h.block p.block hp hn)
theorem But.low {g B : Nat} {W W' : World} (h : But g W.heap.size W W') (hg : B ≤ g) (hs : B ≤ W.heap.size) : Below B W W' := ⟨h.os, h.tape, h.output, h.size, fun k hk => h.block k (by omega) (by omega)⟩
theorem size_set (W : World) (a : Addr) (v : Value) : (W.setCell a v).heap.size = W.heap.size := by simp [World.setCell]
end Go.Proofs.Ytcmmjmgbanafgaa
