/- moatlaw0.Low as a natural number (L26 has it, too: never both in one seat). -/
import Derived.Test.YtkpkpiikhcggkaaW2
namespace Go.Proofs.Ytkpkpiikhcggkaa
open Go.RowKit Go.Proofs.Url

/-- What Low gives, as a natural number. -/
def lowT (x n : Int) : Nat := (low x n).toNat
theorem lowT_lt (x : Int) (n : Nat) (h : 1 ≤ n) : lowT x n < n := by
  have a := low_nn x n (by omega)
  have b := low_lt x n (by omega)
  unfold lowT; omega
theorem lowT_any (x n : Int) (w : World) (h1 : 1 ≤ n) (h2 : n ≤ 70000) :
    Calls Try.prog 14 #[.int .i64 x, .int .i64 n] w fun e w' => e = .returned (.int .i64 (lowT x n : Int)) ∧ w' = w := by
  refine (low_any x n w (by omega) (by omega)).mono ?_
  rintro e w' ⟨rfl, rfl⟩
  have a := low_nn x n (by omega)
  exact ⟨by unfold lowT; rw [Int.toNat_of_nonneg a], rfl⟩
end Go.Proofs.Ytkpkpiikhcggkaa
