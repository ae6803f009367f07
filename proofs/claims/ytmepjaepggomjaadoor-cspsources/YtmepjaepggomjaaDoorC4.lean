/- Plain: directives as the landed package csp finds them: words first, small letters behind. No program is named here. -/
import Derived.Test.YtmepjaepggomjaaDoorG3
namespace Go.Proofs.Url

theorem gap_lower (c : UInt8) : gapB (lowerB c) = gapB c := by
  cases h : upB c with
  | false => rw [show lowerB c = c by unfold lowerB; simp [h]]
  | true =>
    have h0 : 65 ≤ c.toNat ∧ c.toNat ≤ 90 := by
      unfold upB at h
      simp at h
      exact h
    have h1 : gapB c = false := by
      unfold gapB
      simp [← UInt8.toNat_inj]
      omega
    have h2 : (lowerB c).toNat = c.toNat + 32 := by
      unfold lowerB
      simp [h]
      omega
    rw [h1]
    unfold gapB
    simp [← UInt8.toNat_inj, h2]
    omega
theorem ahead_map (c : UInt8) : ∀ g : List (List UInt8), (ahead c g).map lowerS = ahead (lowerB c) (g.map lowerS)
  | [] => rfl
  | _ :: _ => rfl
theorem gaps_lower : ∀ l, gaps (lowerS l) = (gaps l).map lowerS
  | [] => rfl
  | c :: r => by
    rw [show lowerS (c :: r) = lowerB c :: lowerS r from rfl, gaps_cons, gaps_cons, gap_lower, gaps_lower r]
    cases gapB c
    · rw [if_neg (by simp), if_neg (by simp), ahead_map]
    · rw [if_pos rfl, if_pos rfl]; rfl
theorem words_lower (l : List UInt8) : wordsS (lowerS l) = (wordsS l).map lowerS := by
  unfold wordsS
  rw [gaps_lower, List.filter_map]
  congr 2
  funext t
  cases t <;> rfl
theorem gaps_flat : ∀ l, (gaps l).flatten.length ≤ l.length
  | [] => by simp [gaps]
  | c :: r => by
    have := gaps_flat r
    rw [gaps_cons]
    split
    · simp only [List.flatten_cons, List.nil_append, List.length_cons]; omega
    · cases h : gaps r with
      | nil => exact absurd h (gaps_ne r)
      | cons p q =>
        rw [h] at this
        simp only [ahead, List.flatten_cons, List.length_append, List.length_cons] at this ⊢
        omega
theorem filter_flat : ∀ gs : List (List UInt8), (gs.filter (fun t => !t.isEmpty)).length ≤ gs.flatten.length
  | [] => by simp
  | [] :: r => by
    have := filter_flat r
    simpa using this
  | (a :: b) :: r => by
    have := filter_flat r
    simp at this ⊢
    omega
theorem words_count (l : List UInt8) : (wordsS l).length ≤ l.length := Nat.le_trans (filter_flat _) (gaps_flat l)
theorem mem_flat : ∀ (gs : List (List UInt8)) (p : List UInt8), p ∈ gs → p.length ≤ gs.flatten.length
  | [], p, h => by cases h
  | g :: r, p, h => by
    rcases List.mem_cons.1 h with rfl | h
    · simp
    · have := mem_flat r p h
      simp only [List.flatten_cons, List.length_append]; omega
theorem words_le (l p : List UInt8) (h : p ∈ wordsS l) : p.length ≤ l.length := Nat.le_trans (mem_flat _ p (List.mem_filter.1 h).1) (gaps_flat l)
/-- The first directive of a name, its words as they stand. -/
def dirP (name : List UInt8) : List (List UInt8) → Option (List (List UInt8))
  | [] => none
  | p :: r => match wordsS p with
    | [] => dirP name r
    | n :: ws => if lowerS n = name then some ws else dirP name r
theorem dir_low (name : List UInt8) : ∀ ps, dirOf name ps = (dirP name ps).map (List.map lowerS)
  | [] => rfl
  | p :: r => by
    unfold dirOf dirP
    rw [words_lower]
    cases wordsS p with
    | nil => exact dir_low name r
    | cons n ws =>
      simp only [List.map_cons]
      split
      · rfl
      · exact dir_low name r
theorem dirP_nil {name p : List UInt8} {r : List (List UInt8)} (h : wordsS p = []) : dirP name (p :: r) = dirP name r := by
  rw [dirP]; rw [h]
theorem dirP_no {name p n : List UInt8} {ws r : List (List UInt8)} (h : wordsS p = n :: ws) (hn : lowerS n ≠ name) : dirP name (p :: r) = dirP name r := by
  rw [dirP]; rw [h]; simp only; rw [if_neg hn]
theorem dirP_yes {name p n : List UInt8} {ws r : List (List UInt8)} (h : wordsS p = n :: ws) (hn : lowerS n = name) : dirP name (p :: r) = some ws := by
  rw [dirP]; rw [h]; simp only; rw [if_pos hn]
theorem dirP_len {name : List UInt8} {B : Nat} : ∀ {ps ws : List (List UInt8)}, dirP name ps = some ws → (∀ p ∈ ps, p.length < B) → ws.length < B ∧ ∀ x ∈ ws, x.length < B
  | [], ws, h, _ => by cases h
  | p :: r, ws, h, hB => by
    have hp := hB p (List.mem_cons_self ..)
    cases hw : wordsS p with
    | nil => rw [dirP_nil hw] at h; exact dirP_len h (fun x hx => hB x (List.mem_cons_of_mem _ hx))
    | cons n vs =>
      by_cases hn : lowerS n = name
      · rw [dirP_yes hw hn] at h
        cases h
        have h1 := words_count p
        rw [hw] at h1
        refine ⟨by simp at h1; omega, fun x hx => ?_⟩
        have := words_le p x (by rw [hw]; exact List.mem_cons_of_mem _ hx)
        omega
      · rw [dirP_no hw hn] at h; exact dirP_len h (fun x hx => hB x (List.mem_cons_of_mem _ hx))
/-- Both directives, as they stand. -/
def srcP (ps : List (List UInt8)) : Option (List (List UInt8)) := match dirP scriptSrc ps with
  | some ws => some ws
  | none => dirP defaultSrc ps
theorem src_low (l : List UInt8) : sourcesS l = (srcP (parts 59 l)).map (List.map lowerS) := by
  unfold sourcesS srcP dirS
  rw [dir_low, dir_low]
  cases dirP scriptSrc (parts 59 l) <;> rfl
end Go.Proofs.Url
