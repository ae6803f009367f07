/- Plain mathematics of rows of labels that are built from their end. -/
import Derived.Test.YtpoolbeaipbjmaaDoorD2
namespace Go.Proofs.Url

/-- A label more ahead of a host. -/
theorem host_more {p l : List UInt8} (hp : label p = true) (hl : host l = true) (hn : p.length + l.length ≤ 59) : host (p ++ 46 :: l) = true := by
  refine host_mk (by simp; omega) (fun q hq => ?_)
  rw [parts_at 46 p l (label_dot hp)] at hq
  rcases List.mem_cons.1 hq with rfl | hq
  · exact hp
  · exact host_labels hl q hq
theorem label_len {p : List UInt8} (h : label p = true) : p.length ≤ 20 := by
  unfold label at h; simp only [Bool.and_eq_true, decide_eq_true_eq] at h; exact h.1.1.1.2
theorem host_label {p : List UInt8} (h : label p = true) : host p = true :=
  host_mk (by have := label_len h; omega) (fun q hq => by rw [parts_none 46 p (label_dot h)] at hq; rw [List.mem_singleton.1 hq]; exact h)
def words : List (List UInt8) := [[97], [98, 99], [100, 45, 101], [102, 48], [120, 121, 122], [101, 118, 105, 108], [116, 101, 115, 116]]
theorem words_ok (r : Nat) (h : r < 7) : label (words.getD r []) = true ∧ (words.getD r []).length ≤ 4 := by
  have : ∀ r : Fin 7, label (words.getD r []) = true ∧ (words.getD r []).length ≤ 4 := by decide +kernel
  exact this ⟨r, h⟩
/-- The word that a number names. -/
def wordAt (z : Int) : List UInt8 := words.getD (low z 7).toNat []
theorem word_ok (z : Int) : label (wordAt z) = true ∧ (wordAt z).length ≤ 4 :=
  words_ok _ (by have a : 0 ≤ low z 7 := Int.emod_nonneg _ (by omega); have b : low z 7 < 7 := Int.emod_lt_of_pos _ (by omega); omega)
/-- Where the row stands: so many labels lie in it, the last ones are P and Q. -/
def RowsInv (P Q : List UInt8) (j : Nat) (h : List UInt8) : Prop :=
  (j = 0 → h = []) ∧ (1 ≤ j → host h = true ∧ (labelsS h).length = j) ∧ h.length ≤ 5 * j ∧ (j = 1 → h = Q) ∧ (2 ≤ j → siteS h = P ++ 46 :: Q)
theorem rows_start (P Q : List UInt8) : RowsInv P Q 0 [] := ⟨fun _ => rfl, fun h => by omega, by simp, fun h => by omega, fun h => by omega⟩
theorem rows_first {P Q : List UInt8} (hq : label Q = true) (hl : Q.length ≤ 4) : RowsInv P Q 1 Q :=
  ⟨fun h => by omega, fun _ => ⟨host_label hq, by rw [labels_host (host_label hq), parts_none 46 Q (label_dot hq)]; rfl⟩, by omega, fun _ => rfl, fun h => by omega⟩
theorem rows_next {P Q p h : List UInt8} {j : Nat} (hi : RowsInv P Q j h) (h1 : 1 ≤ j) (h7 : j ≤ 7) (hp : label p = true) (hl : p.length ≤ 4) (hP : j = 1 → p = P) :
    RowsInv P Q (j + 1) (p ++ 46 :: h) := by
  obtain ⟨_, i1, i2, i3, i4⟩ := hi
  obtain ⟨hh, hn⟩ := i1 h1
  have hm := host_more hp hh (by omega)
  have hlab : (labelsS (p ++ 46 :: h)).length = j + 1 := by
    rw [labels_host hm, parts_at 46 p h (label_dot hp), List.length_cons, ← labels_host hh, hn]
  refine ⟨fun h => by omega, fun _ => ⟨hm, hlab⟩, by simp; omega, fun h => by omega, fun _ => ?_⟩
  by_cases hj : j = 1
  · have e1 := hP hj
    have e2 := i3 hj
    rw [← e1, ← e2]
    refine site_short hm ?_
    rw [labels_host hm] at hlab
    have := parts_dots 46 (p ++ 46 :: h)
    omega
  · rw [← i4 (by omega)]
    exact site_under (under_cons hm).1 (by omega)
end Go.Proofs.Url
