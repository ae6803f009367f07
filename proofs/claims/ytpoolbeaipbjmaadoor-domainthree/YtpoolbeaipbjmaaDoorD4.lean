/- Plain facts of moatlaw2.DomainThree's hosts and schemes. -/
import Derived.Test.YtpoolbeaipbjmaaDoorD3
namespace Go.Proofs.Url
def hosts7 : List (List UInt8) := [[97, 46, 116, 101, 115, 116], [120, 46, 97, 46, 116, 101, 115, 116], [121, 46, 120, 46, 97, 46, 116, 101, 115, 116], [98, 46, 116, 101, 115, 116], [97, 46, 116, 101, 115, 116, 46, 98], [116, 101, 115, 116], [120, 97, 46, 116, 101, 115, 116]]
theorem hosts7_ok (r : Nat) (h : r < 7) : host (hosts7.getD r []) = true ∧ (hosts7.getD r []).length ≤ 10 := by
  have : ∀ r : Fin 7, host (hosts7.getD r []) = true ∧ (hosts7.getD r []).length ≤ 10 := by decide +kernel
  exact this ⟨r, h⟩
def sch2 : List (List UInt8) := [http, https]
theorem sch2_ok (r : Nat) (h : r ≤ 1) : sch2.getD r [] ≠ [] ∧ (sch2.getD r []).length ≤ 5 := by
  have : ∀ r : Fin 2, sch2.getD r [] ≠ [] ∧ (sch2.getD r []).length ≤ 5 := by decide +kernel
  exact this ⟨r, by omega⟩
end Go.Proofs.Url
