/- Walks over url.Read and url.Text. -/
import Derived.Test.YtcmmjmgbanafgaaW3
import Derived.Lib.SmallJoins
import Derived.KernelRfl
namespace Go.Proofs.Ytcmmjmgbanafgaa
open Go.RowKit Go.Proofs.Url

theorem EnvM.keep {w w' : World} (h : EnvM w) (hb : Below w.heap.size w w') : EnvM w' := by
  obtain ⟨m, h⟩ := h
  exact ⟨m, by rw [hb.cell (World.block_lt_of_cell? w _ h)]; exact h⟩
theorem EnvT.keep {w w' : World} (_h : EnvT w) (_hb : Below w.heap.size w w') : EnvT w' := trivial
theorem Env.keep {w w' : World} (h : Env w) (hb : Below w.heap.size w w') : Env w' := ⟨h.1.keep hb, h.2.keep hb⟩
theorem Env.alloc {w : World} (h : Env w) (o : Obj) : Env (w.alloc o) := h.keep ((Below.refl _ _).alloc (Nat.le_refl _) _)
theorem Env.drewN {w : World} (h : Env w) (n : Nat) : Env (w.drewN n) := h.keep (_root_.Go.below_drewN (Below.refl _ _) n)

theorem size_mk (l : List UInt8) : (⟨l.toArray⟩ : ByteArray).size = l.length := by simp [ByteArray.size]
theorem cloneL_any (l : List UInt8) (w : World) (h : l.length < 4294967281) :
    Calls Try.prog 50 #[.string ⟨l.toArray⟩] w fun e w' => e = .returned (.string ⟨l.toArray⟩) ∧ Below w.heap.size w w' := clone_any ⟨l.toArray⟩ w (by rw [size_mk]; omega)

theorem cutS_le (l : List UInt8) : (cutS l).2.length ≤ l.length := by
  unfold cutS; split
  · simp
  · split <;> simp
theorem cut_le1 (l : List UInt8) : (Lib.cut l [58]).1.length ≤ l.length := by
  unfold Lib.cut; split <;> simp
  omega
theorem cut_le2 (l : List UInt8) : (Lib.cut l [58]).2.1.length ≤ l.length := by
  unfold Lib.cut; split <;> simp

theorem bcell {W w1 : World} (hb : Below W.heap.size W w1) : (∀ b o, b < W.heap.size → w1.cell? ⟨b, o, none⟩ = W.cell? ⟨b, o, none⟩) ∧ (∀ b o, b < W.heap.size → w1.frozen? ⟨b, o, none⟩ = W.frozen? ⟨b, o, none⟩) :=
  ⟨fun b o h => hb.cell (p := ⟨b, o, none⟩) h, fun b o h => hb.frozen (p := ⟨b, o, none⟩) h⟩

theorem set4 {B : Nat} {a w : World} (h : Below B a w) (b : Nat) (hb : B ≤ b) (v0 v1 v2 v3 : Value) : Below B a ((((w.setCell ⟨b, 0, none⟩ v0).setCell ⟨b, 1, none⟩ v1).setCell ⟨b, 2, none⟩ v2).setCell ⟨b, 3, none⟩ v3) :=
  (((h.setCell hb _).setCell hb _).setCell hb _).setCell hb _

end Go.Proofs.Ytcmmjmgbanafgaa
