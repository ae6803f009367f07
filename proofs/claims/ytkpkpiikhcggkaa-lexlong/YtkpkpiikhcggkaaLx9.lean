/- Plain: what LexLong lays. -/
import Derived.Test.YtkpkpiikhcggkaaLx6
namespace Go.Proofs.Url
def cL (k : Nat) : List UInt8 := [[97], [65], [120]].getD k []
def mostL (k : Nat) : Nat := [20, 20, 200].getD k 0
def kindL (k : Nat) : Nat := [1, 5, 3].getD k 0
def rowL (k n : Nat) : List UInt8 := (List.replicate n (cL k)).flatten
def textL (k n : Nat) : List UInt8 := if k = 2 then 34 :: (rowL k n ++ [34]) else rowL k n
def longIn (k n : Nat) : List UInt8 := 32 :: (textL k n ++ [32, 59])
def longOk (k n : Nat) : Bool := decide (toksS (longIn k n) = if mostL k < n then .bad 6 1 else .ok [⟨kindL k, 1, rowL k n⟩, ⟨4, (textL k n).length + 2, [59]⟩])
theorem long_all : ((List.range 26).all (fun n => longOk 0 (n + 1)) && (List.range 26).all (fun n => longOk 1 (n + 1)) && (List.range 206).all (fun n => longOk 2 (n + 1))) = true := by decide +kernel
theorem long_tell (k n : Nat) (hk : k < 3) (hn : n < mostL k + 6) : toksS (longIn k (n + 1)) = if mostL k < n + 1 then .bad 6 1 else .ok [⟨kindL k, 1, rowL k (n + 1)⟩, ⟨4, (textL k (n + 1)).length + 2, [59]⟩] := by
  have h := long_all
  rw [Bool.and_eq_true, Bool.and_eq_true, List.all_eq_true, List.all_eq_true, List.all_eq_true] at h
  obtain ⟨⟨h0, h1⟩, h2⟩ := h
  match k, hk with
  | 0, _ => exact of_decide_eq_true (h0 n (List.mem_range.2 hn))
  | 1, _ => exact of_decide_eq_true (h1 n (List.mem_range.2 hn))
  | 2, _ => exact of_decide_eq_true (h2 n (List.mem_range.2 hn))
theorem rowL_next (k n : Nat) : rowL k (n + 1) = rowL k n ++ cL k := by
  unfold rowL; rw [List.replicate_succ', List.flatten_append]; simp
theorem cL_len (k : Nat) (hk : k < 3) : (cL k).length = 1 := by
  match k, hk with
  | 0, _ => rfl
  | 1, _ => rfl
  | 2, _ => rfl
theorem rowL_len (k : Nat) (hk : k < 3) : ∀ n, (rowL k n).length = n
  | 0 => rfl
  | n + 1 => by rw [rowL_next, List.length_append, cL_len k hk, rowL_len k hk n]
end Go.Proofs.Url
