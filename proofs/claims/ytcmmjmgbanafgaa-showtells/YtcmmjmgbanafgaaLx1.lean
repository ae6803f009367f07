/- Plain mathematics of chapter 9: tokens of a text. No program is named here. -/
import Derived.Test.YtcmmjmgbanafgaaPlain
namespace Go.Proofs.Url

def words9 : List (List UInt8) := [[111, 114, 105, 103, 105, 110], [99, 111, 111, 107, 105, 101], [115, 101, 99, 114, 101, 116], [101, 110, 100, 112, 111, 105, 110, 116], [112, 114, 111, 112, 101, 114, 116, 121], [110, 101, 116, 119, 111, 114, 107], [97, 116], [112, 97, 103, 101], [105, 110, 106, 101, 99, 116], [115, 99, 114, 105, 112, 116], [110, 101, 101, 100, 115], [104, 101, 97, 100, 101, 114], [111, 119, 110], [115, 101, 116, 115], [103, 105, 118, 101, 115], [99, 104, 97, 110, 103, 101, 115], [114, 101, 100, 105, 114, 101, 99, 116], [111, 112, 101, 110], [99, 111, 114, 115], [97, 110, 121], [99, 114, 101, 100, 101, 110, 116, 105, 97, 108, 115], [97, 108, 108, 111, 119], [109, 101, 116, 104, 111, 100, 115], [99, 115, 112], [97, 110, 100], [111, 114], [110, 111, 116], [99, 104, 97, 110, 103, 101, 100], [102, 111, 114, 103, 101, 100], [107, 110, 111, 119, 115], [115, 116, 111, 108, 101, 110], [114, 97, 110]]
def wordS (l : List UInt8) : Bool := words9.contains l

def smallB (c : UInt8) : Bool := decide (97 ≤ c.toNat ∧ c.toNat ≤ 122)
def capB (c : UInt8) : Bool := decide (65 ≤ c.toNat ∧ c.toNat ≤ 90)
def nameB9 (c : UInt8) : Bool := smallB c || decide (48 ≤ c.toNat ∧ c.toNat ≤ 57) || decide (c.toNat = 95)
def textB (c : UInt8) : Bool := decide (32 ≤ c.toNat ∧ c.toNat ≤ 126) && !decide (c.toNat = 34)
def blankB (c : UInt8) : Bool := decide (c.toNat = 32) || decide (c.toNat = 9) || decide (c.toNat = 10) || decide (c.toNat = 13)
def signB (c : UInt8) : Bool := [123, 125, 40, 41, 59, 61].contains c.toNat

/-- How many bytes a gap has at a text's beginning; within a remark or not. -/
def gapB : Bool → List UInt8 → Nat
  | _, [] => 0
  | true, c :: r => if c.toNat = 10 then 1 + gapB false r else 1 + gapB true r
  | false, c :: r => if blankB c then 1 + gapB false r else if c.toNat = 35 then 1 + gapB true r else 0
/-- What stands at a text's beginning, if no gap does: its code, kind, text, and how many bytes it takes. -/
structure One where
  code : Nat
  kind : Nat
  text : List UInt8
  len : Nat
deriving DecidableEq
def oneC (c : UInt8) (r : List UInt8) : One :=
  if smallB c then ⟨if 20 < ((c :: r).takeWhile nameB9).length then 6 else 0, if wordS ((c :: r).takeWhile nameB9) then 2 else 1, (c :: r).takeWhile nameB9, ((c :: r).takeWhile nameB9).length⟩
  else if capB c then ⟨if 20 < ((c :: r).takeWhile capB).length then 6 else 0, 5, (c :: r).takeWhile capB, ((c :: r).takeWhile capB).length⟩
  else if c.toNat = 34 then
    (if r[(r.takeWhile textB).length]? = some 34 then ⟨if 200 < (r.takeWhile textB).length then 6 else 0, 3, r.takeWhile textB, (r.takeWhile textB).length + 2⟩ else ⟨3, 0, [], 0⟩)
  else if signB c then ⟨0, 4, [c], 1⟩ else ⟨3, 0, [], 0⟩
def oneS : List UInt8 → One
  | [] => ⟨3, 0, [], 0⟩
  | c :: r => oneC c r
theorem oneC_small {c : UInt8} (r : List UInt8) (h : smallB c = true) : oneC c r = ⟨if 20 < ((c :: r).takeWhile nameB9).length then 6 else 0, if wordS ((c :: r).takeWhile nameB9) then 2 else 1, (c :: r).takeWhile nameB9, ((c :: r).takeWhile nameB9).length⟩ := by
  unfold oneC; rw [if_pos h]
theorem oneC_cap {c : UInt8} (r : List UInt8) (h1 : smallB c = false) (h : capB c = true) : oneC c r = ⟨if 20 < ((c :: r).takeWhile capB).length then 6 else 0, 5, (c :: r).takeWhile capB, ((c :: r).takeWhile capB).length⟩ := by
  unfold oneC; rw [if_neg (by simp [h1]), if_pos h]
theorem oneC_text {c : UInt8} (r : List UInt8) (h1 : smallB c = false) (h2 : capB c = false) (h : c.toNat = 34) (hq : r[(r.takeWhile textB).length]? = some 34) : oneC c r = ⟨if 200 < (r.takeWhile textB).length then 6 else 0, 3, r.takeWhile textB, (r.takeWhile textB).length + 2⟩ := by
  unfold oneC; rw [if_neg (by simp [h1]), if_neg (by simp [h2]), if_pos h, if_pos hq]
theorem oneC_open {c : UInt8} (r : List UInt8) (h1 : smallB c = false) (h2 : capB c = false) (h : c.toNat = 34) (hq : ¬ r[(r.takeWhile textB).length]? = some 34) : oneC c r = ⟨3, 0, [], 0⟩ := by
  unfold oneC; rw [if_neg (by simp [h1]), if_neg (by simp [h2]), if_pos h, if_neg hq]
theorem oneC_sign {c : UInt8} (r : List UInt8) (h1 : smallB c = false) (h2 : capB c = false) (h3 : ¬ c.toNat = 34) (h : signB c = true) : oneC c r = ⟨0, 4, [c], 1⟩ := by
  unfold oneC; rw [if_neg (by simp [h1]), if_neg (by simp [h2]), if_neg h3, if_pos h]
theorem oneC_none {c : UInt8} (r : List UInt8) (h1 : smallB c = false) (h2 : capB c = false) (h3 : ¬ c.toNat = 34) (h : signB c = false) : oneC c r = ⟨3, 0, [], 0⟩ := by
  unfold oneC; rw [if_neg (by simp [h1]), if_neg (by simp [h2]), if_neg h3, if_neg (by simp [h])]
/-- A token: its kind, where it begins, its text. -/
structure Tk where
  kind : Nat
  at' : Nat
  text : List UInt8
deriving DecidableEq
/-- Tokens, or what is wrong: a code, and where. -/
inductive Toks where
  | ok : List Tk → Toks
  | bad : Nat → Nat → Toks
deriving DecidableEq
def Toks.put (ts : List Tk) : Toks → Toks
  | .ok us => .ok (ts ++ us)
  | .bad c p => .bad c p
/-- From a place on, so many tokens having been found. -/
def toksF : Nat → Nat → List UInt8 → Nat → Toks
  | 0, _, _, _ => .ok []
  | f + 1, pos, l, n =>
    if (l.drop (gapB false l)).isEmpty then .ok []
    else if (oneS (l.drop (gapB false l))).code ≠ 0 then .bad (oneS (l.drop (gapB false l))).code (pos + gapB false l)
    else if n = 2000 then .bad 6 (pos + gapB false l)
    else (toksF f (pos + gapB false l + (oneS (l.drop (gapB false l))).len) ((l.drop (gapB false l)).drop (oneS (l.drop (gapB false l))).len) (n + 1)).put [⟨(oneS (l.drop (gapB false l))).kind, pos + gapB false l, (oneS (l.drop (gapB false l))).text⟩]
/-- All tokens of a text. -/
def toksS (l : List UInt8) : Toks := if 8000 < l.length then .bad 6 0 else toksF (l.length + 1) 0 l 0

theorem put_put (a b : List Tk) (t : Toks) : (t.put b).put a = t.put (a ++ b) := by cases t <;> simp [Toks.put]
theorem put_nil (t : Toks) : t.put [] = t := by cases t <;> simp [Toks.put]
theorem gapB_le : ∀ (b : Bool) (l : List UInt8), gapB b l ≤ l.length
  | _, [] => by cases ‹Bool› <;> simp [gapB]
  | true, c :: r => by
    have h1 := gapB_le true r
    have h2 := gapB_le false r
    unfold gapB; split <;> simp <;> omega
  | false, c :: r => by
    have h1 := gapB_le true r
    have h2 := gapB_le false r
    unfold gapB; split
    · simp; omega
    · split <;> simp; omega
theorem takeWhile_le (f : UInt8 → Bool) (l : List UInt8) : (l.takeWhile f).length ≤ l.length := (List.takeWhile_prefix f).length_le
theorem small_name {c : UInt8} (h : smallB c = true) : nameB9 c = true := by unfold nameB9; rw [h]; rfl
theorem run_pos {f : UInt8 → Bool} {c : UInt8} (r : List UInt8) (h : f c = true) : 1 ≤ ((c :: r).takeWhile f).length ∧ ((c :: r).takeWhile f).length ≤ r.length + 1 := by
  have := takeWhile_le f r
  rw [List.takeWhile_cons, if_pos h, List.length_cons]
  omega
/-- A good token has a byte and more, and lies within the text. -/
theorem oneC_len (c : UInt8) (r : List UInt8) (h : (oneC c r).code = 0) : 1 ≤ (oneC c r).len ∧ (oneC c r).len ≤ r.length + 1 := by
  cases h1 : smallB c with
  | true => rw [oneC_small r h1]; exact run_pos r (small_name h1)
  | false =>
    cases h2 : capB c with
    | true => rw [oneC_cap r h1 h2]; exact run_pos r h2
    | false =>
      by_cases h3 : c.toNat = 34
      · by_cases hq : r[(r.takeWhile textB).length]? = some 34
        · have : (r.takeWhile textB).length < r.length := by
            rcases Nat.lt_or_ge (r.takeWhile textB).length r.length with h | h
            · exact h
            · rw [List.getElem?_eq_none h] at hq; cases hq
          rw [oneC_text r h1 h2 h3 hq]
          exact ⟨by simp, by simp; omega⟩
        · rw [oneC_open r h1 h2 h3 hq] at h; cases h
      · cases h4 : signB c with
        | true => rw [oneC_sign r h1 h2 h3 h4]; exact ⟨by simp, by simp⟩
        | false => rw [oneC_none r h1 h2 h3 h4] at h; cases h
theorem one_len {l : List UInt8} (h : (oneS l).code = 0) : 1 ≤ (oneS l).len ∧ (oneS l).len ≤ l.length := by
  cases l with
  | nil => cases h
  | cons c r => exact oneC_len c r h
theorem toksF_succ (f pos : Nat) (l : List UInt8) (n : Nat) : toksF (f + 1) pos l n =
    if (l.drop (gapB false l)).isEmpty then .ok []
    else if (oneS (l.drop (gapB false l))).code ≠ 0 then .bad (oneS (l.drop (gapB false l))).code (pos + gapB false l)
    else if n = 2000 then .bad 6 (pos + gapB false l)
    else (toksF f (pos + gapB false l + (oneS (l.drop (gapB false l))).len) ((l.drop (gapB false l)).drop (oneS (l.drop (gapB false l))).len) (n + 1)).put [⟨(oneS (l.drop (gapB false l))).kind, pos + gapB false l, (oneS (l.drop (gapB false l))).text⟩] := rfl
theorem toksF_more : ∀ (f pos : Nat) (l : List UInt8) (n : Nat), l.length < f → toksF (f + 1) pos l n = toksF f pos l n
  | 0, _, _, _, h => absurd h (Nat.not_lt_zero _)
  | f + 1, pos, l, n, h => by
    rw [toksF_succ (f + 1) pos l n, toksF_succ f pos l n]
    split
    · rfl
    · split
      · rfl
      · split
        · rfl
        · rename_i h1 h2 h3
          congr 1
          have h4 := one_len (Decidable.not_not.1 h2)
          refine toksF_more f _ _ _ ?_
          rw [List.length_drop, List.length_drop] at *
          have := gapB_le false l
          omega
theorem toksF_any {f g : Nat} (pos : Nat) (l : List UInt8) (n : Nat) (hf : l.length < f) (hg : l.length < g) : toksF f pos l n = toksF g pos l n := by
  have up : ∀ k, toksF (l.length + 1 + k) pos l n = toksF (l.length + 1) pos l n := by
    intro k
    induction k with
    | zero => rfl
    | succ k ih => rw [← Nat.add_assoc, toksF_more _ _ _ _ (by omega), ih]
  rw [show f = l.length + 1 + (f - (l.length + 1)) by omega, show g = l.length + 1 + (g - (l.length + 1)) by omega, up, up]
/-- From a place of a text on. -/
def toksAt (s : List UInt8) (i n : Nat) : Toks := toksF (s.length + 1) i (s.drop i) n
theorem toksAt_step (s : List UInt8) (i n : Nat) : toksAt s i n =
    if ((s.drop i).drop (gapB false (s.drop i))).isEmpty then .ok []
    else if (oneS ((s.drop i).drop (gapB false (s.drop i)))).code ≠ 0 then .bad (oneS ((s.drop i).drop (gapB false (s.drop i)))).code (i + gapB false (s.drop i))
    else if n = 2000 then .bad 6 (i + gapB false (s.drop i))
    else (toksAt s (i + gapB false (s.drop i) + (oneS ((s.drop i).drop (gapB false (s.drop i)))).len) (n + 1)).put [⟨(oneS ((s.drop i).drop (gapB false (s.drop i)))).kind, i + gapB false (s.drop i), (oneS ((s.drop i).drop (gapB false (s.drop i)))).text⟩] := by
  unfold toksAt
  rw [toksF_succ s.length i]
  split
  · rfl
  · split
    · rfl
    · split
      · rfl
      · rename_i h1 h2 h3
        congr 1
        have h4 := one_len (Decidable.not_not.1 h2)
        have h5 : 0 < (List.drop (gapB false (s.drop i)) (s.drop i)).length := by omega
        rw [List.length_drop, List.length_drop] at h5
        have e : List.drop (oneS (List.drop (gapB false (s.drop i)) (s.drop i))).len (List.drop (gapB false (s.drop i)) (s.drop i)) = s.drop (i + gapB false (s.drop i) + (oneS (List.drop (gapB false (s.drop i)) (s.drop i))).len) := by
          rw [List.drop_drop, List.drop_drop]; congr 1; omega
        rw [e]
        refine toksF_any _ _ _ ?_ ?_
        · rw [List.length_drop]; omega
        · rw [List.length_drop]; omega
theorem toksS_small {s : List UInt8} (h : s.length ≤ 8000) : toksS s = toksAt s 0 0 := by
  unfold toksS toksAt; rw [if_neg (by omega), List.drop_zero]
end Go.Proofs.Url
