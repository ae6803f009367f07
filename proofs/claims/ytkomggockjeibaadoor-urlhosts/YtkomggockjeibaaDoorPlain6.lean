/- Plain mathematics of chapter 1, sixth part: rows of labels. No program is named here. -/
import Derived.Test.YtkomggockjeibaaDoorPlain5
namespace Go.Proofs.Url

theorem parts_snoc (c : UInt8) (b : List UInt8) (hb : ∀ x ∈ b, x ≠ c) : ∀ l : List UInt8, parts c (l ++ c :: b) = parts c l ++ [b]
  | [] => by rw [parts_at c [] b (by simp), parts_none c b hb]; rfl
  | x :: l => by
    show parts c (x :: (l ++ c :: b)) = _
    unfold parts
    by_cases hx : x = c
    · rw [if_pos hx, if_pos hx, parts_snoc c b hb l]; rfl
    · rw [if_neg hx, if_neg hx, parts_snoc c b hb l]
      cases hq : parts c l with
      | nil => exact absurd hq (parts_ne c l)
      | cons q qs => rfl
/-- A byte of a label that neither parts hosts nor ports. -/
def plainB (x : UInt8) : Bool := !decide (x = 46) && !decide (x = 58)
def midB (x : UInt8) : Bool := lab x && plainB x
theorem mid_lab {l : List UInt8} (h : l.all midB = true) : l.all lab = true := by
  rw [List.all_eq_true] at *; intro x hx; have := h x hx; unfold midB at this; simp only [Bool.and_eq_true] at this; exact this.1
theorem mid_plain {l : List UInt8} (h : l.all midB = true) : l.all plainB = true := by
  rw [List.all_eq_true] at *; intro x hx; have := h x hx; unfold midB at this; simp only [Bool.and_eq_true] at this; exact this.2
theorem plain_ne {l : List UInt8} (h : l.all plainB = true) : (∀ x ∈ l, x ≠ 46) ∧ ∀ x ∈ l, x ≠ 58 := by
  rw [List.all_eq_true] at h
  refine ⟨fun x hx e => ?_, fun x hx e => ?_⟩
  · have := h x hx; subst e; exact absurd this (by decide)
  · have := h x hx; subst e; exact absurd this (by decide)

def lbl (m : List UInt8) : List UInt8 := 113 :: (m ++ [122])
/-- A label, turned so or so. -/
def turn (h : Nat) (m : List UInt8) : List UInt8 :=
  if h = 0 then lbl m else if h = 1 then 45 :: lbl m else if h = 2 then lbl m ++ [45] else if h = 3 then lbl m ++ [65] else if h = 4 then lbl m ++ [95, 98] else []
theorem lbl_label {m : List UInt8} (hm : m.all midB = true) (hl : m.length ≤ 5) : label (lbl m) = true := by
  unfold label lbl
  have h1 : (113 :: (m ++ [122])).getLast? = some 122 := by rw [List.getLast?_cons]; simp
  rw [h1]
  simp only [List.head?_cons, List.all_cons, List.all_append, mid_lab hm, List.length_cons, List.length_append, List.length_nil]
  have : decide (1 ≤ m.length + (0 + 1) + 1 ∧ m.length + (0 + 1) + 1 ≤ 20) = true := decide_eq_true (by omega)
  rw [this]; decide
theorem lbl_plain {m : List UInt8} (hm : m.all midB = true) : (lbl m).all plainB = true := by
  unfold lbl; simp only [List.all_cons, List.all_append, mid_plain hm]; decide
theorem turn_label (h : Nat) {m : List UInt8} (hm : m.all midB = true) (hl : m.length ≤ 5) : label (turn h m) = decide (h = 0) := by
  unfold turn
  by_cases h0 : h = 0
  · rw [if_pos h0, lbl_label hm hl]; exact (decide_eq_true h0).symm
  rw [if_neg h0, decide_eq_false h0]
  by_cases h1 : h = 1
  · rw [if_pos h1]; unfold label; simp
  rw [if_neg h1]
  by_cases h2 : h = 2
  · rw [if_pos h2]; unfold label; simp
  rw [if_neg h2]
  by_cases h3 : h = 3
  · rw [if_pos h3]; unfold label
    have : (lbl m ++ [65]).all lab = false := by rw [List.all_append]; have : [65].all lab = false := by decide
                                                 rw [this, Bool.and_false]
    rw [this]; simp
  rw [if_neg h3]
  by_cases h4 : h = 4
  · rw [if_pos h4]; unfold label
    have : (lbl m ++ [95, 98]).all lab = false := by rw [List.all_append]; have : [95, 98].all lab = false := by decide
                                                     rw [this, Bool.and_false]
    rw [this]; simp
  rw [if_neg h4]; decide
theorem turn_plain (h : Nat) {m : List UInt8} (hm : m.all midB = true) : (turn h m).all plainB = true := by
  have hp := lbl_plain hm
  unfold turn
  split
  · exact hp
  split
  · rw [List.all_cons, hp]; decide
  split
  · rw [List.all_append, hp]; decide
  split
  · rw [List.all_append, hp]; decide
  split
  · rw [List.all_append, hp]; decide
  · rfl
theorem turn_len (h : Nat) (m : List UInt8) (hl : m.length ≤ 5) : (turn h m).length ≤ 9 := by
  unfold turn lbl
  split
  · simp; omega
  split
  · simp; omega
  split
  · simp; omega
  split
  · simp; omega
  split
  · simp; omega
  · simp

/-- A row of k labels, the one at place a turned by h. -/
def HostInv (a h k : Nat) (l : List UInt8) : Prop :=
  l.length ≤ 10 * k ∧ (∀ x ∈ l, x ≠ 58) ∧ (k = 0 → l = []) ∧ (1 ≤ k → (parts 46 l).all label = decide (h = 0 ∨ k ≤ a))
theorem host_first {a h : Nat} {lb : List UInt8} (hp : lb.all plainB = true) (hl : lb.length ≤ 9) (hlab : label lb = decide (h = 0 ∨ ¬ 0 = a)) : HostInv a h 1 lb := by
  obtain ⟨n46, n58⟩ := plain_ne hp
  refine ⟨by omega, n58, fun e => by omega, fun _ => ?_⟩
  rw [parts_none 46 lb n46]
  simp only [List.all_cons, List.all_nil, Bool.and_true]
  rw [hlab]
  exact decide_eq_decide.2 (by omega)
theorem host_next {a h k : Nat} {l lb : List UInt8} (hi : HostInv a h k l) (hk : 1 ≤ k) (hp : lb.all plainB = true) (hl : lb.length ≤ 9) (hlab : label lb = decide (h = 0 ∨ ¬ k = a)) : HostInv a h (k + 1) (l ++ 46 :: lb) := by
  obtain ⟨i1, i2, _, i4⟩ := hi
  obtain ⟨n46, n58⟩ := plain_ne hp
  refine ⟨by simp; omega, ?_, fun e => by omega, fun _ => ?_⟩
  · intro x hx
    rcases List.mem_append.1 hx with hx | hx
    · exact i2 x hx
    · rcases List.mem_cons.1 hx with rfl | hx
      · decide
      · exact n58 x hx
  · rw [parts_snoc 46 lb n46 l, List.all_append, i4 hk]
    simp only [List.all_cons, List.all_nil, Bool.and_true]
    rw [hlab, ← Bool.decide_and]
    exact decide_eq_decide.2 (by omega)
theorem host_done {a h k : Nat} {l : List UInt8} (hi : HostInv a h k l) (h1 : 1 ≤ k) (h6 : k ≤ 6) (ha : a < k) : host l = decide (h = 0) ∧ readS (http ++ slashes ++ l) = if h = 0 then some (http, l, 80) else none := by
  obtain ⟨i1, i2, _, i4⟩ := hi
  have hh : host l = decide (h = 0) := by
    unfold host
    rw [i4 h1, decide_eq_true (show l.length ≤ 60 by omega), Bool.true_and]
    exact decide_eq_decide.2 (by omega)
  refine ⟨hh, ?_⟩
  unfold readS
  rw [cutS_http]
  simp only
  rw [cut_none l i2]
  unfold readR
  by_cases h0 : h = 0
  · rw [if_neg (by simp [hh, h0]; decide), if_pos h0]; simp; decide
  · rw [if_pos (.inr (by rw [hh]; exact decide_eq_false h0)), if_neg h0]
end Go.Proofs.Url
