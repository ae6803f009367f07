import Derived.Test.YtfjbekaojfokdaaBe1
/- Plain: rows of and, or, as moatlaw10.SynBinds lays them: what Dump answers. -/
namespace Go.Proofs.Url
open Syn
def nmB (d : Nat) : UInt8 := UInt8.ofNat (98 + d)
def tB : List UInt8 := [40, 107, 110, 111, 119, 115, 32]
/-- The text, the sum, the term behind d rounds. -/
def sB (f : Nat → Bool) : Nat → List UInt8
  | 0 => [112, 114, 111, 112, 101, 114, 116, 121, 32, 112, 32, 61, 32, 107, 110, 111, 119, 115, 32, 97]
  | d + 1 => sB f d ++ (if f d then [32, 97, 110, 100, 32, 107, 110, 111, 119, 115, 32] else [32, 111, 114, 32, 107, 110, 111, 119, 115, 32]) ++ [nmB d]
def termB (f : Nat → Bool) : Nat → List UInt8
  | 0 => [40, 107, 110, 111, 119, 115, 32, 97, 41]
  | d + 1 => if f d then [40, 97, 110, 100, 32] ++ termB f d ++ [32, 40, 107, 110, 111, 119, 115, 32] ++ [nmB d] ++ [41, 41] else [40, 107, 110, 111, 119, 115, 32] ++ [nmB d] ++ [41]
def sumB (f : Nat → Bool) : Nat → List UInt8
  | 0 => []
  | d + 1 => if f d then sumB f d else if sumB f d = [] then termB f d else [40, 111, 114, 32] ++ sumB f d ++ [32] ++ termB f d ++ [41]
def lastB (f : Nat → Bool) (d : Nat) : List UInt8 := if sumB f d = [] then termB f d else [40, 111, 114, 32] ++ sumB f d ++ [32] ++ termB f d ++ [41]
def bindOk (f : Nat → Bool) (d : Nat) : Bool := dumpR (sB f d ++ [59]) == ([112, 114, 111, 112, 101, 114, 116, 121, 32, 112, 32] ++ lastB f d ++ [10], 0, 0)
theorem b_congr {f g : Nat → Bool} : ∀ {d : Nat}, (∀ i, i < d → f i = g i) → sB f d = sB g d ∧ termB f d = termB g d ∧ sumB f d = sumB g d
  | 0, _ => ⟨rfl, rfl, rfl⟩
  | d + 1, h => by
    obtain ⟨h1, h2, h3⟩ := b_congr (d := d) fun i hi => h i (by omega)
    have hd := h d (by omega)
    exact ⟨by simp only [sB, h1, hd], by simp only [termB, h2, hd], by simp only [sumB, h2, h3, hd]⟩
def allB : Nat → List (List Bool)
  | 0 => [[]]
  | n + 1 => (allB n).flatMap fun l => [l ++ [true], l ++ [false]]
theorem mem_allB (f : Nat → Bool) : ∀ n, (List.range n).map f ∈ allB n
  | 0 => List.mem_singleton.2 rfl
  | n + 1 => by
    rw [List.range_succ, List.map_append, allB, List.mem_flatMap]
    refine ⟨_, mem_allB f n, ?_⟩
    cases h : f n <;> simp [h]
def ofL (l : List Bool) : Nat → Bool := fun i => l.getD i false
/-- All rows of n bits, then t. -/
def bindAt (n : Nat) (t : List Bool) : Bool := (allB n).all fun l => bindOk (ofL (l ++ t)) (n + t.length)
theorem ba0_ : bindAt 0 [] = true := by decide +kernel
theorem ba1_ : bindAt 1 [] = true := by decide +kernel
theorem ba2_ : bindAt 2 [] = true := by decide +kernel
theorem ba3_ : bindAt 3 [] = true := by decide +kernel
theorem ba4_ : bindAt 4 [] = true := by decide +kernel
theorem ba5_ : bindAt 5 [] = true := by decide +kernel
theorem ba6_0 : bindAt 5 [false] = true := by decide +kernel
theorem ba6_1 : bindAt 5 [true] = true := by decide +kernel
theorem ba7_00 : bindAt 5 [false, false] = true := by decide +kernel
theorem ba7_01 : bindAt 5 [false, true] = true := by decide +kernel
theorem ba7_10 : bindAt 5 [true, false] = true := by decide +kernel
theorem ba7_11 : bindAt 5 [true, true] = true := by decide +kernel
theorem ba8_000 : bindAt 5 [false, false, false] = true := by decide +kernel
theorem ba8_001 : bindAt 5 [false, false, true] = true := by decide +kernel
theorem ba8_010 : bindAt 5 [false, true, false] = true := by decide +kernel
theorem ba8_011 : bindAt 5 [false, true, true] = true := by decide +kernel
theorem ba8_100 : bindAt 5 [true, false, false] = true := by decide +kernel
theorem ba8_101 : bindAt 5 [true, false, true] = true := by decide +kernel
theorem ba8_110 : bindAt 5 [true, true, false] = true := by decide +kernel
theorem ba8_111 : bindAt 5 [true, true, true] = true := by decide +kernel
theorem bindAt_one {n : Nat} {t : List Bool} (h : bindAt n t = true) (f : Nat → Bool) {d : Nat} (hd : n + t.length = d) (ht : (List.range d).map f = (List.range n).map f ++ t) : dumpR (sB f d ++ [59]) = ([112, 114, 111, 112, 101, 114, 116, 121, 32, 112, 32] ++ lastB f d ++ [10], 0, 0) := by
  have k := List.all_eq_true.1 h _ (mem_allB f n)
  rw [hd, ← ht] at k
  have e : ∀ i, i < d → ofL ((List.range d).map f) i = f i := fun i hi => by simp [ofL, List.getD, hi]
  obtain ⟨e1, e2, e3⟩ := b_congr e
  unfold bindOk lastB at k
  rw [e1, e2, e3] at k
  exact eq_of_beq k
theorem bind_one (f : Nat → Bool) (d : Nat) (h : d < 9) : dumpR (sB f d ++ [59]) = ([112, 114, 111, 112, 101, 114, 116, 121, 32, 112, 32] ++ lastB f d ++ [10], 0, 0) := by
  match d, h with
  | 0, _ => exact bindAt_one ba0_ f rfl (by simp)
  | 1, _ => exact bindAt_one ba1_ f rfl (by simp)
  | 2, _ => exact bindAt_one ba2_ f rfl (by simp)
  | 3, _ => exact bindAt_one ba3_ f rfl (by simp)
  | 4, _ => exact bindAt_one ba4_ f rfl (by simp)
  | 5, _ => exact bindAt_one ba5_ f rfl (by simp)
  | 6, _ =>
    cases h5 : f 5 with
    | false =>
      exact bindAt_one ba6_0 f rfl (by simp [List.range_succ, h5])
    | true =>
      exact bindAt_one ba6_1 f rfl (by simp [List.range_succ, h5])
  | 7, _ =>
    cases h5 : f 5 with
    | false =>
      cases h6 : f 6 with
      | false =>
        exact bindAt_one ba7_00 f rfl (by simp [List.range_succ, h5, h6])
      | true =>
        exact bindAt_one ba7_01 f rfl (by simp [List.range_succ, h5, h6])
    | true =>
      cases h6 : f 6 with
      | false =>
        exact bindAt_one ba7_10 f rfl (by simp [List.range_succ, h5, h6])
      | true =>
        exact bindAt_one ba7_11 f rfl (by simp [List.range_succ, h5, h6])
  | 8, _ =>
    cases h5 : f 5 with
    | false =>
      cases h6 : f 6 with
      | false =>
        cases h7 : f 7 with
        | false =>
          exact bindAt_one ba8_000 f rfl (by simp [List.range_succ, h5, h6, h7])
        | true =>
          exact bindAt_one ba8_001 f rfl (by simp [List.range_succ, h5, h6, h7])
      | true =>
        cases h7 : f 7 with
        | false =>
          exact bindAt_one ba8_010 f rfl (by simp [List.range_succ, h5, h6, h7])
        | true =>
          exact bindAt_one ba8_011 f rfl (by simp [List.range_succ, h5, h6, h7])
    | true =>
      cases h6 : f 6 with
      | false =>
        cases h7 : f 7 with
        | false =>
          exact bindAt_one ba8_100 f rfl (by simp [List.range_succ, h5, h6, h7])
        | true =>
          exact bindAt_one ba8_101 f rfl (by simp [List.range_succ, h5, h6, h7])
      | true =>
        cases h7 : f 7 with
        | false =>
          exact bindAt_one ba8_110 f rfl (by simp [List.range_succ, h5, h6, h7])
        | true =>
          exact bindAt_one ba8_111 f rfl (by simp [List.range_succ, h5, h6, h7])
theorem b_len (f : Nat → Bool) (d : Nat) : d ≤ 9 → (sB f d).length ≤ 20 + 12 * d ∧ (termB f d).length ≤ 9 + 16 * d ∧ (sumB f d).length ≤ 160 * d := by
  induction d with
  | zero => intro _; simp [sB, termB, sumB]
  | succ d ih =>
    intro hd
    obtain ⟨h1, h2, h3⟩ := ih (by omega)
    refine ⟨?_, ?_, ?_⟩
    · cases h : f d <;> simp [sB, h] <;> omega
    · cases h : f d <;> simp [termB, h] <;> omega
    · cases h : f d
      · simp only [sumB, h]
        split
        · contradiction
        · split
          · omega
          · simp; omega
      · simp only [sumB, h]; simp; omega
end Go.Proofs.Url
