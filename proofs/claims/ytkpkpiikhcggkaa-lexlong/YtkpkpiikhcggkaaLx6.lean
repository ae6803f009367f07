/- Plain: tokens of texts that are laid piece by piece (LexTexts, LexNames, LexLong). -/
import Derived.Test.YtkpkpiikhcggkaaLx4
namespace Go.Proofs.Url

theorem toksAt_tok {s : List UInt8} {i g n : Nat} {o : One} (hg : gapB false (s.drop i) = g) (hl : i + g < s.length) (ho : oneS (s.drop (i + g)) = o) (hc : o.code = 0) (hn : n ≠ 2000) :
    toksAt s i n = (toksAt s (i + g + o.len) (n + 1)).put [⟨o.kind, i + g, o.text⟩] := by
  rw [toksAt_gap, hg, toksG_on hl (by rw [ho]; exact hc) hn, ho]
theorem toksAt_wrong {s : List UInt8} {i g n : Nat} {o : One} (hg : gapB false (s.drop i) = g) (hl : i + g < s.length) (ho : oneS (s.drop (i + g)) = o) (hc : o.code ≠ 0) :
    toksAt s i n = .bad o.code (i + g) := by
  rw [toksAt_gap, hg, toksG_bad n hl (by rw [ho]; exact hc), ho]
theorem toksAt_stop {s : List UInt8} {i : Nat} (n : Nat) (h : s.length ≤ i) : toksAt s i n = .ok [] := by
  rw [toksAt_gap]; exact toksG_end n (by omega)
theorem run_app (f : UInt8 → Bool) (b : List UInt8) (hb : ∀ x, b.head? = some x → f x = false) : ∀ a : List UInt8, (∀ x ∈ a, f x = true) → (a ++ b).takeWhile f = a
  | [], _ => by
    cases b with
    | nil => rfl
    | cons y b => rw [List.nil_append, List.takeWhile_cons, if_neg (by simp [hb y rfl])]
  | x :: a, h => by
    rw [List.cons_append, List.takeWhile_cons, if_pos (h x (List.mem_cons_self ..)), run_app f b hb a (fun y hy => h y (List.mem_cons_of_mem _ hy))]
theorem toksF_badpos : ∀ (f pos : Nat) (l : List UInt8) (n c p : Nat), toksF f pos l n = .bad c p → pos ≤ p ∧ c ≠ 0
  | 0, _, _, _, _, _, h => by cases h
  | f + 1, pos, l, n, c, p, h => by
    rw [toksF_succ] at h
    by_cases h1 : (l.drop (gapB false l)).isEmpty
    · rw [if_pos h1] at h; cases h
    · rw [if_neg h1] at h
      by_cases h2 : (oneS (l.drop (gapB false l))).code ≠ 0
      · rw [if_pos h2] at h
        simp only [Toks.bad.injEq] at h
        exact ⟨by omega, by rw [← h.1]; exact h2⟩
      · rw [if_neg h2] at h
        by_cases h3 : n = 2000
        · rw [if_pos h3] at h
          simp only [Toks.bad.injEq] at h
          exact ⟨by omega, by omega⟩
        · rw [if_neg h3] at h
          cases hr : toksF f (pos + gapB false l + (oneS (l.drop (gapB false l))).len) ((l.drop (gapB false l)).drop (oneS (l.drop (gapB false l))).len) (n + 1) with
          | ok us => rw [hr] at h; cases h
          | bad c' p' =>
            rw [hr] at h
            simp only [Toks.put, Toks.bad.injEq] at h
            have := toksF_badpos f _ _ _ _ _ hr
            omega

def own9 : List UInt8 := [111, 119, 110]
def gaps9 : List (List UInt8) := [[], [32], [10]]
def inpT (r : Nat) (s : List UInt8) : List UInt8 := own9 ++ gaps9.getD r [] ++ [34] ++ s ++ [34]
theorem inpT_eq (r : Nat) (s : List UInt8) : inpT r s = own9 ++ (gaps9.getD r [] ++ 34 :: (s ++ [34])) := by unfold inpT; simp
theorem gaps9_head (r : Fin 3) : ∀ (rest : List UInt8) (x : UInt8), (gaps9.getD r [] ++ 34 :: rest).head? = some x → nameB9 x = false := by
  intro rest x h
  match r with
  | 0 => cases h; rfl
  | 1 => cases h; rfl
  | 2 => cases h; rfl
theorem gaps9_gap (r : Fin 3) (rest : List UInt8) : gapB false (gaps9.getD r [] ++ 34 :: rest) = (gaps9.getD r []).length := by
  match r with
  | 0 => rfl
  | 1 => rfl
  | 2 => rfl
theorem inpT_len (r : Nat) (s : List UInt8) : (inpT r s).length = 5 + (gaps9.getD r []).length + s.length := by
  rw [inpT_eq, List.length_append, List.length_append, List.length_cons, List.length_append]; simp only [own9, List.length_cons, List.length_nil]; omega
theorem inpT_first (r : Fin 3) (s : List UInt8) (hs : s.length ≤ 60) : toksS (inpT r s) = (toksAt (inpT r s) 3 1).put [⟨2, 0, own9⟩] := by
  have hl : (gaps9.getD r []).length ≤ 1 := by
    match r with
    | 0 => decide
    | 1 => decide
    | 2 => decide
  have hlen : (inpT r s).length = 5 + (gaps9.getD r []).length + s.length := by rw [inpT_eq]; simp [own9]; omega
  rw [toksS_small (by omega)]
  have ho : oneS ((inpT r s).drop (0 + 0)) = ⟨0, 2, own9, 3⟩ := by
    rw [inpT_eq]
    show oneC 111 ([119, 110] ++ (gaps9.getD r [] ++ 34 :: (s ++ [34]))) = _
    rw [oneC_small _ (by decide), show (111 :: ([119, 110] ++ (gaps9.getD r [] ++ 34 :: (s ++ [34]))) : List UInt8) = own9 ++ (gaps9.getD r [] ++ 34 :: (s ++ [34])) from rfl, run_app nameB9 _ (gaps9_head r _) own9 (by decide)]
    rfl
  rw [toksAt_tok (g := 0) (by rw [inpT_eq]; rfl) (by omega) ho rfl (by decide)]
  rfl
theorem inpT_drop (r : Nat) (s : List UInt8) : (inpT r s).drop 3 = gaps9.getD r [] ++ 34 :: (s ++ [34]) := by rw [inpT_eq]; rfl
theorem inpT_yes (r : Fin 3) (s : List UInt8) (hs : s.length ≤ 60) (hm : ∀ x ∈ s, textB x = true) : toksS (inpT r s) = .ok [⟨2, 0, own9⟩, ⟨3, 3 + (gaps9.getD r []).length, s⟩] := by
  have hlen : (inpT r s).length = 5 + (gaps9.getD r []).length + s.length := by rw [inpT_eq]; simp [own9]; omega
  have hd : (inpT r s).drop (3 + (gaps9.getD r []).length) = 34 :: (s ++ [34]) := by
    rw [← List.drop_drop, inpT_drop, List.drop_left]
  have ho : oneS ((inpT r s).drop (3 + (gaps9.getD r []).length)) = ⟨0, 3, s, s.length + 2⟩ := by
    rw [hd]
    show oneC 34 (s ++ [34]) = _
    have ht : (s ++ [34]).takeWhile textB = s := run_app textB [34] (fun x h => by cases h; rfl) s hm
    rw [oneC_text _ (by decide) (by decide) (by decide) (by rw [ht]; simp), ht, if_neg (by omega)]
  rw [inpT_first r s hs, toksAt_tok (g := (gaps9.getD r []).length) (by rw [inpT_drop]; exact gaps9_gap r _) (by omega) ho rfl (by decide), toksAt_stop _ (by simp only; omega)]
  rfl
theorem inpT_no (r : Fin 3) (s : List UInt8) (hs : s.length ≤ 60) : (∃ c p, toksS (inpT r s) = .bad c p ∧ c ≠ 0 ∧ 3 ≤ p) ∨ (∃ ts, toksS (inpT r s) = .ok ts ∧ 2 ≤ ts.length) := by
  have hlen : (inpT r s).length = 5 + (gaps9.getD r []).length + s.length := by rw [inpT_eq]; simp [own9]; omega
  have hg : gapB false ((inpT r s).drop 3) = (gaps9.getD r []).length := by rw [inpT_drop]; exact gaps9_gap r _
  rw [inpT_first r s hs]
  by_cases hc : (oneS ((inpT r s).drop (3 + (gaps9.getD r []).length))).code = 0
  · rw [toksAt_tok hg (by omega) rfl hc (by decide)]
    cases hr : toksAt (inpT r s) (3 + (gaps9.getD r []).length + (oneS ((inpT r s).drop (3 + (gaps9.getD r []).length))).len) (1 + 1) with
    | ok us => exact .inr ⟨_, rfl, by simp⟩
    | bad c p =>
      have := toksF_badpos _ _ _ _ _ _ hr
      exact .inl ⟨c, p, rfl, this.2, by omega⟩
  · rw [toksAt_wrong hg (by omega) rfl hc]
    exact .inl ⟨_, _, rfl, hc, by omega⟩
end Go.Proofs.Url
