/- Plain mathematics of chapter 8: which cookies go along. -/
import Derived.Test.YtlmchmhdojkokaaDoorD2
namespace Go.Proofs.Url

/-- Does a cookie's path fit by the slash at this place? -/
def hitJ (top path : List UInt8) (i : Nat) : Bool := path[i]? == some 47 && (decide (path.take i = top) || decide (path.take (i + 1) = top))
def pathJ (top path : List UInt8) : Bool := (List.range path.length).any (hitJ top path) || decide (path = top)
def hostJ (dom own host : List UInt8) : Bool := decide (host = own) || (!decide (dom = []) && underS host dom)
def fitsJ (dom way : List UInt8) (sec : Bool) (own scheme host path : List UInt8) : Bool := (!sec || decide (scheme = https)) && pathJ way path && hostJ dom own host
def getT : List UInt8 := [71, 69, 84]
def headT : List UInt8 := [72, 69, 65, 68]
def readsJ (m : List UInt8) : Bool := decide (m = getT) || decide (m = headT)
def goesJ (same : Int) (near top : Bool) (m : List UInt8) : Bool := near || decide (same = 1) || (decide (same = 2) && top && readsJ m)

theorem hits_next {top path : List UInt8} {k : Nat} (h : (List.range k).any (hitJ top path) = false) (h1 : hitJ top path k = false) : (List.range (k + 1)).any (hitJ top path) = false := by
  rw [List.range_succ, List.any_append, h]; simp [h1]
theorem path_hit {top path : List UInt8} {k : Nat} (hk : k < path.length) (h : hitJ top path k = true) : pathJ top path = true := by
  unfold pathJ
  rw [List.any_eq_true.2 ⟨k, List.mem_range.2 hk, h⟩]; rfl
theorem path_end {top path : List UInt8} {k : Nat} (hk : path.length ≤ k) (h : (List.range k).any (hitJ top path) = false) : pathJ top path = decide (path = top) := by
  have h' : (List.range path.length).any (hitJ top path) = false := by
    rw [List.any_eq_false] at h ⊢
    intro x hx
    exact h x (by rw [List.mem_range] at hx ⊢; omega)
  unfold pathJ; rw [h']; rfl
theorem hit_no {top path : List UInt8} {k : Nat} {c : UInt8} (hc : path[k]? = some c) (h : c ≠ 47) : hitJ top path k = false := by
  unfold hitJ; rw [hc]; simp [h]
theorem hit_at {top path : List UInt8} {k : Nat} (hc : path[k]? = some 47) : hitJ top path k = (decide (path.take k = top) || decide (path.take (k + 1) = top)) := by
  unfold hitJ; rw [hc]; simp

theorem pathJ_iff (top path : List UInt8) : pathJ top path = true ↔ top <+: path ∧ (top.length = path.length ∨ path[top.length]? = some 47 ∨ top.getLast? = some 47) := by
  unfold pathJ hitJ
  simp only [Bool.or_eq_true, List.any_eq_true, List.mem_range, Bool.and_eq_true, beq_iff_eq, decide_eq_true_eq]
  constructor
  · rintro (⟨i, hi, hc, h | h⟩ | rfl)
    · have hl : top.length = i := by rw [← h, List.length_take]; omega
      exact ⟨by rw [← h]; exact List.take_prefix _ _, .inr (.inl (by rw [hl]; exact hc))⟩
    · refine ⟨by rw [← h]; exact List.take_prefix _ _, .inr (.inr ?_)⟩
      rw [← h, List.getLast?_eq_getElem?, List.length_take, List.getElem?_take, if_pos (by omega), show min (i + 1) path.length - 1 = i by omega]; exact hc
    · exact ⟨List.prefix_refl _, .inl rfl⟩
  · rintro ⟨⟨r, rfl⟩, h | h | h⟩
    · refine .inr ?_
      have : r = [] := by rw [List.length_append] at h; exact List.length_eq_zero_iff.1 (by omega)
      rw [this, List.append_nil]
    · refine .inl ⟨top.length, ?_, h, .inl (by simp)⟩
      rcases Nat.lt_or_ge top.length (top ++ r).length with h2 | h2
      · exact h2
      · rw [List.getElem?_eq_none h2] at h; cases h
    · have hp : 0 < top.length := by cases top; cases h; simp
      refine .inl ⟨top.length - 1, by rw [List.length_append]; omega, ?_, .inr ?_⟩
      · rw [List.getElem?_append_left (by omega), ← List.getLast?_eq_getElem?]; exact h
      · rw [show top.length - 1 + 1 = top.length by omega, List.take_left]
theorem pathJ_self (p : List UInt8) : pathJ p p = true := (pathJ_iff p p).2 ⟨List.prefix_refl _, .inl rfl⟩
theorem pathJ_on (p r : List UInt8) : pathJ p (p ++ 47 :: r) = true := (pathJ_iff _ _).2 ⟨⟨_, rfl⟩, .inr (.inl (by simp))⟩
theorem pathJ_other {p : List UInt8} {x : UInt8} (h : p.getLast? ≠ some 47) (hx : x ≠ 47) : pathJ p (p ++ [x]) = false := by
  rw [Bool.eq_false_iff]
  intro e
  rcases ((pathJ_iff _ _).1 e).2 with e | e | e
  · simp at e
  · simp at e; exact hx e
  · exact h e
theorem pathJ_long {p q : List UInt8} (h : q.length < p.length) : pathJ p q = false := by
  rw [Bool.eq_false_iff]
  intro e
  have := ((pathJ_iff _ _).1 e).1.length_le
  omega
theorem pathJ_take {p : List UInt8} {n : Nat} (h1 : 1 ≤ n) (hn : n ≤ p.length) : pathJ (p.take n) p = (decide (n = p.length) || p[n - 1]? == some 47 || p[n]? == some 47) := by
  have hl : (p.take n).length = n := by rw [List.length_take]; omega
  have hg : (p.take n).getLast? = p[n - 1]? := by rw [List.getLast?_eq_getElem?, hl, List.getElem?_take, if_pos (by omega)]
  rw [Bool.eq_iff_iff, pathJ_iff, hl, hg]
  simp only [Bool.or_eq_true, beq_iff_eq, decide_eq_true_eq]
  constructor
  · rintro ⟨_, h | h | h⟩
    · exact .inl (.inl h)
    · exact .inr h
    · exact .inl (.inr h)
  · rintro ((h | h) | h)
    · exact ⟨List.take_prefix _ _, .inl h⟩
    · exact ⟨List.take_prefix _ _, .inr (.inr h)⟩
    · exact ⟨List.take_prefix _ _, .inr (.inl h)⟩
end Go.Proofs.Url
