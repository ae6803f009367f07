import Derived.Test.YtilfdbkceiejgaaLx4
import Derived.Test.YtilfdbkceiejgaaBg1
/- Plain: tokens of texts that are laid piece by piece (LexTexts, LexNames, LexLong). -/
namespace Go.Proofs.Url

theorem toksAt_tok {s : List UInt8} {i g n : Nat} {o : One} (hg : gapB false (s.drop i) = g) (hl : i + g < s.length) (ho : oneS (s.drop (i + g)) = o) (hc : o.code = 0) (hn : n ≠ 2000) :
    toksAt s i n = (toksAt s (i + g + o.len) (n + 1)).put [⟨o.kind, i + g, o.text⟩] := by
  rw [toksAt_gap, hg, toksG_on hl (by rw [ho]; exact hc) hn, ho]
theorem toksAt_wrong {s : List UInt8} {i g n : Nat} {o : One} (hg : gapB false (s.drop i) = g) (hl : i + g < s.length) (ho : oneS (s.drop (i + g)) = o) (hc : o.code ≠ 0) :
    toksAt s i n = .bad o.code (i + g) := by
  rw [toksAt_gap, hg, toksG_bad n hl (by rw [ho]; exact hc), ho]
theorem toksAt_stop {s : List UInt8} {i : Nat} (n : Nat) (h : s.length ≤ i) : toksAt s i n = .ok [] := by
  rw [toksAt_gap]; exact toksG_end n (by omega)
theorem run_app (f : UInt8 → Bool) (b : List UInt8) (hb : ∀ x, b.head? = some x → f x = false) : ∀ a : List UInt8, (∀ x ∈ a, f x = true) → (a ++ b).takeWhile f = a
  | [], _ => by
    cases b with
    | nil => rfl
    | cons y b => rw [List.nil_append, List.takeWhile_cons, if_neg (by simp [hb y rfl])]
  | x :: a, h => by
    rw [List.cons_append, List.takeWhile_cons, if_pos (h x (List.mem_cons_self ..)), run_app f b hb a (fun y hy => h y (List.mem_cons_of_mem _ hy))]
theorem toksF_badpos : ∀ (f pos : Nat) (l : List UInt8) (n c p : Nat), toksF f pos l n = .bad c p → pos ≤ p ∧ c ≠ 0
  | 0, _, _, _, _, _, h => by cases h
  | f + 1, pos, l, n, c, p, h => by
    rw [toksF_succ] at h
    by_cases h1 : (l.drop (gapB false l)).isEmpty
    · rw [if_pos h1] at h; cases h
    · rw [if_neg h1] at h
      by_cases h2 : (oneS (l.drop (gapB false l))).code ≠ 0
      · rw [if_pos h2] at h
        simp only [Toks.bad.injEq] at h
        exact ⟨by omega, by rw [← h.1]; exact h2⟩
      · rw [if_neg h2] at h
        by_cases h3 : n = 2000
        · rw [if_pos h3] at h
          simp only [Toks.bad.injEq] at h
          exact ⟨by omega, by omega⟩
        · rw [if_neg h3] at h
          cases hr : toksF f (pos + gapB false l + (oneS (l.drop (gapB false l))).len) ((l.drop (gapB false l)).drop (oneS (l.drop (gapB false l))).len) (n + 1) with
          | ok us => rw [hr] at h; cases h
          | bad c' p' =>
            rw [hr] at h
            simp only [Toks.put, Toks.bad.injEq] at h
            have := toksF_badpos f _ _ _ _ _ hr
            omega

def own9 : List UInt8 := [111, 119, 110]
def gaps9 : List (List UInt8) := [[], [32], [10]]
def inpT (r : Nat) (s : List UInt8) : List UInt8 := own9 ++ gaps9.getD r [] ++ [34] ++ s ++ [34]
theorem inpT_eq (r : Nat) (s : List UInt8) : inpT r s = own9 ++ (gaps9.getD r [] ++ 34 :: (s ++ [34])) := by unfold inpT; simp
theorem gaps9_head (r : Fin 3) : ∀ (rest : List UInt8) (x : UInt8), (gaps9.getD r [] ++ 34 :: rest).head? = some x → nameB9 x = false := by
  intro rest x h
  match r with
  | 0 => cases h; rfl
  | 1 => cases h; rfl
  | 2 => cases h; rfl
theorem gaps9_gap (r : Fin 3) (rest : List UInt8) : gapB false (gaps9.getD r [] ++ 34 :: rest) = (gaps9.getD r []).length := by
  match r with
  | 0 => rfl
  | 1 => rfl
  | 2 => rfl
theorem inpT_len (r : Nat) (s : List UInt8) : (inpT r s).length = 5 + (gaps9.getD r []).length + s.length := by
  rw [inpT_eq, List.length_append, List.length_append, List.length_cons, List.length_append]; simp only [own9, List.length_cons, List.length_nil]; omega
theorem inpT_first (r : Fin 3) (s : List UInt8) (hs : s.length ≤ 60) : toksS (inpT r s) = (toksAt (inpT r s) 3 1).put [⟨2, 0, own9⟩] := by
  have hl : (gaps9.getD r []).length ≤ 1 := by
    match r with
    | 0 => decide
    | 1 => decide
    | 2 => decide
  have hlen : (inpT r s).length = 5 + (gaps9.getD r []).length + s.length := by rw [inpT_eq]; simp [own9]; omega
  rw [toksS_small (by omega)]
  have ho : oneS ((inpT r s).drop (0 + 0)) = ⟨0, 2, own9, 3⟩ := by
    rw [inpT_eq]
    show oneC 111 ([119, 110] ++ (gaps9.getD r [] ++ 34 :: (s ++ [34]))) = _
    rw [oneC_small _ (by decide), show (111 :: ([119, 110] ++ (gaps9.getD r [] ++ 34 :: (s ++ [34]))) : List UInt8) = own9 ++ (gaps9.getD r [] ++ 34 :: (s ++ [34])) from rfl, run_app nameB9 _ (gaps9_head r _) own9 (by decide)]
    rfl
  rw [toksAt_tok (g := 0) (by rw [inpT_eq]; rfl) (by omega) ho rfl (by decide)]
  rfl
theorem inpT_drop (r : Nat) (s : List UInt8) : (inpT r s).drop 3 = gaps9.getD r [] ++ 34 :: (s ++ [34]) := by rw [inpT_eq]; rfl
theorem inpT_yes (r : Fin 3) (s : List UInt8) (hs : s.length ≤ 60) (hm : ∀ x ∈ s, textB x = true) : toksS (inpT r s) = .ok [⟨2, 0, own9⟩, ⟨3, 3 + (gaps9.getD r []).length, s⟩] := by
  have hlen : (inpT r s).length = 5 + (gaps9.getD r []).length + s.length := by rw [inpT_eq]; simp [own9]; omega
  have hd : (inpT r s).drop (3 + (gaps9.getD r []).length) = 34 :: (s ++ [34]) := by
    rw [← List.drop_drop, inpT_drop, List.drop_left]
  have ho : oneS ((inpT r s).drop (3 + (gaps9.getD r []).length)) = ⟨0, 3, s, s.length + 2⟩ := by
    rw [hd]
    show oneC 34 (s ++ [34]) = _
    have ht : (s ++ [34]).takeWhile textB = s := run_app textB [34] (fun x h => by cases h; rfl) s hm
    rw [oneC_text _ (by decide) (by decide) (by decide) (by rw [ht]; simp), ht, if_neg (by omega)]
  rw [inpT_first r s hs, toksAt_tok (g := (gaps9.getD r []).length) (by rw [inpT_drop]; exact gaps9_gap r _) (by omega) ho rfl (by decide), toksAt_stop _ (by simp only; omega)]
  rfl
theorem inpT_no (r : Fin 3) (s : List UInt8) (hs : s.length ≤ 60) : (∃ c p, toksS (inpT r s) = .bad c p ∧ c ≠ 0 ∧ 3 ≤ p) ∨ (∃ ts, toksS (inpT r s) = .ok ts ∧ 2 ≤ ts.length) := by
  have hlen : (inpT r s).length = 5 + (gaps9.getD r []).length + s.length := by rw [inpT_eq]; simp [own9]; omega
  have hg : gapB false ((inpT r s).drop 3) = (gaps9.getD r []).length := by rw [inpT_drop]; exact gaps9_gap r _
  rw [inpT_first r s hs]
  by_cases hc : (oneS ((inpT r s).drop (3 + (gaps9.getD r []).length))).code = 0
  · rw [toksAt_tok hg (by omega) rfl hc (by decide)]
    cases hr : toksAt (inpT r s) (3 + (gaps9.getD r []).length + (oneS ((inpT r s).drop (3 + (gaps9.getD r []).length))).len) (1 + 1) with
    | ok us => exact .inr ⟨_, rfl, by simp⟩
    | bad c p =>
      have := toksF_badpos _ _ _ _ _ _ hr
      exact .inl ⟨c, p, rfl, this.2, by omega⟩
  · rw [toksAt_wrong hg (by omega) rfl hc]
    exact .inl ⟨_, _, rfl, hc, by omega⟩
end Go.Proofs.Url

/- Plain: what LexNames lays. -/
namespace Go.Proofs.Url

def alph9 : List UInt8 := [97, 98, 99, 100, 101, 102, 103, 104, 105, 106, 107, 108, 109, 110, 111, 112, 113, 114, 115, 116, 117, 118, 119, 120, 121, 122, 48, 49, 50, 51, 52, 53, 54, 55, 56, 57, 95]
def alphAt (k : Nat) : UInt8 := alph9.getD k 0
theorem alph_name : ∀ k : Fin 37, nameB9 (alphAt k) = true := by decide +kernel
theorem alph_small : ∀ k : Fin 26, smallB (alphAt k) = true := by decide +kernel
theorem small_cap {c : UInt8} (h : smallB c = true) : capB c = false := by
  unfold smallB at h; unfold capB
  rw [decide_eq_true_iff] at h; rw [decide_eq_false_iff_not]; omega
theorem gap_small {c : UInt8} (r : List UInt8) (h : nameB9 c = true) : gapB false (c :: r) = 0 := by
  have hb : blankB c = false ∧ ¬ c.toNat = 35 := by
    unfold nameB9 smallB at h
    unfold blankB
    simp only [Bool.or_eq_true, decide_eq_true_eq] at h
    simp only [Bool.or_eq_false_iff, decide_eq_false_iff_not]
    omega
  rw [gapB, if_neg (by simp [hb.1]), if_neg hb.2]
/-- A row of letters so far. -/
def NameOk (s : List UInt8) : Prop := (∀ x ∈ s, nameB9 x = true) ∧ (∀ x, s.head? = some x → smallB x = true)
theorem name_nil : NameOk [] := ⟨fun x h => by simp at h, fun x h => by cases h⟩
theorem name_more {s : List UInt8} {c : UInt8} (h : NameOk s) (hc : nameB9 c = true) (h0 : s = [] → smallB c = true) : NameOk (s ++ [c]) := by
  refine ⟨fun x hx => ?_, fun x hx => ?_⟩
  · rw [List.mem_append, List.mem_singleton] at hx
    rcases hx with hx | rfl
    · exact h.1 x hx
    · exact hc
  · cases s with
    | nil => cases hx; exact h0 rfl
    | cons y s => cases hx; exact h.2 _ rfl
def inpN (s : List UInt8) : List UInt8 := [65, 66] ++ s ++ [67]
theorem inpN_tell {s : List UInt8} (h : NameOk s) (hne : s ≠ []) (hl : s.length ≤ 30) :
    toksS (inpN s) = if 20 < s.length then .bad 6 2 else .ok [⟨5, 0, [65, 66]⟩, ⟨if wordS s then 2 else 1, 2, s⟩, ⟨5, 2 + s.length, [67]⟩] := by
  obtain ⟨c, r, rfl⟩ : ∃ c r, s = c :: r := by cases s; exact absurd rfl hne; exact ⟨_, _, rfl⟩
  have hc : smallB c = true := h.2 c rfl
  have hlen : (inpN (c :: r)).length = r.length + 4 := by unfold inpN; simp
  have hl' : r.length ≤ 29 := by simpa using hl
  rw [toksS_small (by omega)]
  have o1 : oneS ((inpN (c :: r)).drop (0 + 0)) = ⟨0, 5, [65, 66], 2⟩ := by
    show oneC 65 ([66] ++ (c :: (r ++ [67]))) = _
    rw [oneC_cap _ (by decide) (by decide), show (65 :: ([66] ++ (c :: (r ++ [67]))) : List UInt8) = [65, 66] ++ (c :: (r ++ [67])) from rfl, run_app capB _ (fun x hx => by cases hx; exact small_cap hc) [65, 66] (by decide)]
    rfl
  have d2 : (inpN (c :: r)).drop 2 = (c :: r) ++ [67] := rfl
  have tw : ((c :: r) ++ [67]).takeWhile nameB9 = c :: r := run_app nameB9 [67] (fun x hx => by cases hx; rfl) (c :: r) h.1
  have o2 : oneS ((inpN (c :: r)).drop (2 + 0)) = ⟨if 20 < (c :: r).length then 6 else 0, if wordS (c :: r) then 2 else 1, c :: r, (c :: r).length⟩ := by
    show oneC c (r ++ [67]) = _
    rw [oneC_small _ hc, show (c :: (r ++ [67]) : List UInt8) = (c :: r) ++ [67] from rfl, tw]
  have g2 : gapB false ((inpN (c :: r)).drop 2) = 0 := by rw [d2]; exact gap_small (r ++ [67]) (small_name hc)
  rw [toksAt_tok (g := 0) rfl (by omega) o1 rfl (by decide)]
  show (toksAt (inpN (c :: r)) 2 1).put _ = _
  by_cases h20 : 20 < (c :: r).length
  · rw [if_pos h20, toksAt_wrong g2 (by omega) o2 (by rw [if_pos h20]; exact (show (6 : Nat) ≠ 0 by decide)), if_pos h20]
    rfl
  · rw [if_neg h20]
    have d3 : (inpN (c :: r)).drop (2 + 0 + (c :: r).length) = [67] := by
      have : inpN (c :: r) = ([65, 66] ++ (c :: r)) ++ [67] := rfl
      rw [this, show 2 + 0 + (c :: r).length = ([65, 66] ++ (c :: r)).length by rw [List.length_append]; rfl, List.drop_left]
    have o3 : oneS ((inpN (c :: r)).drop (2 + 0 + (c :: r).length + 0)) = ⟨0, 5, [67], 1⟩ := by
      rw [Nat.add_zero, d3]; rfl
    rw [toksAt_tok g2 (by omega) o2 (by rw [if_neg h20]) (by decide), toksAt_tok (g := 0) (show gapB false (List.drop (2 + 0 + (c :: r).length) (inpN (c :: r))) = 0 by rw [d3]; rfl) (show 2 + 0 + (c :: r).length + 0 < _ by rw [hlen, List.length_cons]; omega) o3 rfl (by decide), toksAt_stop _ (show _ ≤ 2 + 0 + (c :: r).length + 0 + 1 by rw [hlen, List.length_cons]; omega)]
    rfl
end Go.Proofs.Url

/- Plain: tokens are told again of their own bytes, with gaps between (LexParts). -/
namespace Go.Proofs.Url

/-- A token's own bytes. -/
def raw9 (t : Tk) : List UInt8 := if t.kind = 3 then 34 :: (t.text ++ [34]) else t.text
/-- What may stand behind a token, so that it ends there. -/
def SepHead (l : List UInt8) : Prop := ∀ x, l.head? = some x → nameB9 x = false ∧ capB x = false
/-- A token that is told again of its own bytes. -/
structure Good9 (t : Tk) : Prop where
  gap : ∀ rest, gapB false (raw9 t ++ rest) = 0
  len : 1 ≤ (raw9 t).length
  one : ∀ rest, SepHead rest → oneS (raw9 t ++ rest) = ⟨0, t.kind, t.text, (raw9 t).length⟩
theorem gap_zero {c : UInt8} (r : List UInt8) (h : blankB c = false) (h2 : ¬ c.toNat = 35) : gapB false (c :: r) = 0 := by
  rw [gapB, if_neg (by simp [h]), if_neg h2]
theorem takeWhile_mem {f : UInt8 → Bool} : ∀ {l : List UInt8} {x : UInt8}, x ∈ l.takeWhile f → f x = true
  | [], _, h => by simp at h
  | y :: l, x, h => by
    rw [List.takeWhile_cons] at h
    by_cases hy : f y = true
    · rw [if_pos hy, List.mem_cons] at h
      rcases h with rfl | h
      · exact hy
      · exact takeWhile_mem h
    · rw [if_neg hy] at h; simp at h
theorem good_of {c : UInt8} {r : List UInt8} (p : Nat) (h : (oneC c r).code = 0) : Good9 ⟨(oneC c r).kind, p, (oneC c r).text⟩ ∧ raw9 ⟨(oneC c r).kind, p, (oneC c r).text⟩ <+: c :: r ∧ (raw9 ⟨(oneC c r).kind, p, (oneC c r).text⟩).length = (oneC c r).len := by
  cases h1 : smallB c with
  | true =>
    rw [oneC_small r h1] at h ⊢
    simp only at h ⊢
    obtain ⟨T, hT⟩ : ∃ T, T = (c :: r).takeWhile nameB9 := ⟨_, rfl⟩
    rw [← hT] at h ⊢
    have hc : T = c :: r.takeWhile nameB9 := by rw [hT, List.takeWhile_cons, if_pos (small_name h1)]
    have hall : ∀ x ∈ T, nameB9 x = true := fun x hx => by rw [hT] at hx; exact takeWhile_mem hx
    have h20 : ¬ 20 < T.length := by intro e; rw [if_pos e] at h; cases h
    have hk : (if wordS T then 2 else 1) ≠ 3 := by split <;> decide
    have hr : raw9 ⟨if wordS T then 2 else 1, p, T⟩ = T := by unfold raw9; exact if_neg hk
    refine ⟨⟨fun rest => ?_, ?_, fun rest hs => ?_⟩, ?_, ?_⟩
    · rw [hr, hc]; exact gap_small _ (small_name h1)
    · rw [hr, hc]; simp
    · rw [hr]
      have ht : (T ++ rest).takeWhile nameB9 = T := run_app nameB9 rest (fun x hx => (hs x hx).1) T hall
      have hcons : T ++ rest = c :: (r.takeWhile nameB9 ++ rest) := by rw [hc]; rfl
      rw [hcons]
      show oneC c _ = _
      rw [oneC_small _ h1, ← hcons, ht, if_neg h20]
    · rw [hr, hT]; exact List.takeWhile_prefix _
    · rw [hr]
  | false =>
    cases h2 : capB c with
    | true =>
      rw [oneC_cap r h1 h2] at h ⊢
      simp only at h ⊢
      obtain ⟨T, hT⟩ : ∃ T, T = (c :: r).takeWhile capB := ⟨_, rfl⟩
      rw [← hT] at h ⊢
      have hc : T = c :: r.takeWhile capB := by rw [hT, List.takeWhile_cons, if_pos h2]
      have hall : ∀ x ∈ T, capB x = true := fun x hx => by rw [hT] at hx; exact takeWhile_mem hx
      have h20 : ¬ 20 < T.length := by intro e; rw [if_pos e] at h; cases h
      have hr : raw9 ⟨5, p, T⟩ = T := rfl
      have hcn : 65 ≤ c.toNat ∧ c.toNat ≤ 90 := by unfold capB at h2; simpa using h2
      refine ⟨⟨fun rest => ?_, ?_, fun rest hs => ?_⟩, ?_, ?_⟩
      · rw [hr, hc]; exact gap_zero _ (by unfold blankB; simp; omega) (by omega)
      · rw [hr, hc]; simp
      · rw [hr]
        have ht : (T ++ rest).takeWhile capB = T := run_app capB rest (fun x hx => (hs x hx).2) T hall
        have hcons : T ++ rest = c :: (r.takeWhile capB ++ rest) := by rw [hc]; rfl
        rw [hcons]
        show oneC c _ = _
        rw [oneC_cap _ h1 h2, ← hcons, ht, if_neg h20]
      · rw [hr, hT]; exact List.takeWhile_prefix _
      · rw [hr]
    | false =>
      by_cases h3 : c.toNat = 34
      · by_cases hq : r[(r.takeWhile textB).length]? = some 34
        · rw [oneC_text r h1 h2 h3 hq] at h ⊢
          simp only at h ⊢
          obtain ⟨T, hT⟩ : ∃ T, T = r.takeWhile textB := ⟨_, rfl⟩
          rw [← hT] at h hq ⊢
          have hall : ∀ x ∈ T, textB x = true := fun x hx => by rw [hT] at hx; exact takeWhile_mem hx
          have h200 : ¬ 200 < T.length := by intro e; rw [if_pos e] at h; cases h
          have hr : raw9 ⟨3, p, T⟩ = 34 :: (T ++ [34]) := rfl
          have hc34 : c = 34 := UInt8.toNat_inj.1 h3
          refine ⟨⟨fun rest => ?_, ?_, fun rest hs => ?_⟩, ?_, ?_⟩
          · rw [hr]; exact gap_zero _ (by decide) (by decide)
          · rw [hr]; simp
          · rw [hr]
            show oneC 34 ((T ++ [34]) ++ rest) = _
            have e : (T ++ [34]) ++ rest = T ++ 34 :: rest := by simp
            have ht : (T ++ 34 :: rest).takeWhile textB = T := run_app textB (34 :: rest) (fun x hx => by cases hx; rfl) T hall
            rw [e, oneC_text _ (by decide) (by decide) (by decide) (by rw [ht]; simp), ht, if_neg h200]
            simp
          · rw [hr, hc34]
            obtain ⟨q, hq2⟩ := List.takeWhile_prefix textB (l := r)
            rw [← hT] at hq2
            rw [← hq2, List.getElem?_append_right (Nat.le_refl _), Nat.sub_self] at hq
            cases q with
            | nil => cases hq
            | cons y q =>
              have : y = 34 := by simpa using hq
              rw [← hq2, this]
              exact ⟨q, by simp⟩
          · rw [hr]; simp
        · rw [oneC_open r h1 h2 h3 hq] at h; cases h
      · cases h4 : signB c with
        | true =>
          rw [oneC_sign r h1 h2 h3 h4]
          have hv : c.toNat = 123 ∨ c.toNat = 125 ∨ c.toNat = 40 ∨ c.toNat = 41 ∨ c.toNat = 59 ∨ c.toNat = 61 := by unfold signB at h4; simpa using h4
          refine ⟨⟨fun rest => ?_, ?_, fun rest hs => ?_⟩, ?_, ?_⟩
          · exact gap_zero _ (by unfold blankB; simp; omega) (by omega)
          · exact Nat.le_refl _
          · show oneC c rest = _
            rw [oneC_sign rest h1 h2 h3 h4]; rfl
          · exact ⟨r, rfl⟩
          · rfl
        | false => rw [oneC_none r h1 h2 h3 h4] at h; cases h
/-- Tokens one behind the other, in a text. -/
def Chain (s : List UInt8) : Nat → List Tk → Prop
  | _, [] => True
  | pos, t :: ts => pos ≤ t.at' ∧ raw9 t <+: s.drop t.at' ∧ Good9 t ∧ Chain s (t.at' + (raw9 t).length) ts
theorem chain_of (s : List UInt8) : ∀ (f pos n : Nat) (ts : List Tk), toksF f pos (s.drop pos) n = .ok ts → Chain s pos ts
  | 0, _, _, ts, h => by cases h; trivial
  | f + 1, pos, n, ts, h => by
    rw [toksF_succ] at h
    by_cases h1 : ((s.drop pos).drop (gapB false (s.drop pos))).isEmpty
    · rw [if_pos h1] at h; cases h; trivial
    · rw [if_neg h1] at h
      by_cases h2 : (oneS ((s.drop pos).drop (gapB false (s.drop pos)))).code ≠ 0
      · rw [if_pos h2] at h; cases h
      · rw [if_neg h2] at h
        by_cases h3 : n = 2000
        · rw [if_pos h3] at h; cases h
        · rw [if_neg h3] at h
          rw [List.drop_drop] at h h1 h2
          obtain ⟨q, hq⟩ : ∃ q, q = pos + gapB false (s.drop pos) := ⟨_, rfl⟩
          rw [← hq] at h h1 h2
          have hpq : pos ≤ q := by omega
          clear hq
          cases hd : s.drop q with
          | nil => rw [hd] at h1; exact absurd rfl h1
          | cons c r =>
            have hdr : (c :: r).drop (oneS (c :: r)).len = s.drop (q + (oneS (c :: r)).len) := by rw [← hd, List.drop_drop]
            rw [hd] at h h2
            have hc : (oneC c r).code = 0 := Decidable.not_not.1 h2
            obtain ⟨g1, g2, g3⟩ := good_of q hc
            rw [hdr] at h
            cases hr : toksF f (q + (oneS (c :: r)).len) (s.drop (q + (oneS (c :: r)).len)) (n + 1) with
            | bad c' p' => rw [hr] at h; cases h
            | ok us =>
              rw [hr] at h
              simp only [Toks.put, Toks.ok.injEq, List.singleton_append] at h
              rw [← h]
              have ih := chain_of s f _ _ us hr
              exact ⟨hpq, by rw [hd]; exact g2, g1, by rw [show (raw9 ⟨(oneS (c :: r)).kind, q, (oneS (c :: r)).text⟩).length = (oneS (c :: r)).len from g3]; exact ih⟩

def seps9 : List (List UInt8) := [[32], [10], [35, 32, 120, 32, 34, 32, 123, 10], [9, 13]]
/-- Tokens, a gap ahead of each. -/
def allP (ps : List (Nat × Tk)) : List UInt8 := ps.flatMap (fun p => seps9.getD p.1 [] ++ raw9 p.2)
theorem allP_next (ps : List (Nat × Tk)) (r : Nat) (t : Tk) : allP (ps ++ [(r, t)]) = allP ps ++ seps9.getD r [] ++ raw9 t := by
  unfold allP; rw [List.flatMap_append]; simp
theorem sep_gap (r : Fin 4) (rest : List UInt8) : gapB false (seps9.getD r [] ++ rest) = (seps9.getD r []).length + gapB false rest := by
  match r with
  | 0 => rfl
  | 1 => rfl
  | 2 => show 1 + (1 + (1 + (1 + (1 + (1 + (1 + (1 + gapB false rest))))))) = 8 + _; omega
  | 3 => show 1 + (1 + gapB false rest) = 2 + _; omega
theorem sep_head (r : Fin 4) (rest : List UInt8) : SepHead (seps9.getD r [] ++ rest) := by
  intro x h
  match r with
  | 0 => cases h; exact ⟨rfl, rfl⟩
  | 1 => cases h; exact ⟨rfl, rfl⟩
  | 2 => cases h; exact ⟨rfl, rfl⟩
  | 3 => cases h; exact ⟨rfl, rfl⟩
theorem allP_head : ∀ ps : List (Nat × Tk), (∀ p ∈ ps, p.1 < 4) → SepHead (allP ps)
  | [], _ => fun x h => by cases h
  | p :: ps, h => by
    have : allP (p :: ps) = seps9.getD p.1 [] ++ (raw9 p.2 ++ allP ps) := by unfold allP; rw [List.flatMap_cons, List.append_assoc]
    rw [this]
    exact sep_head ⟨p.1, h p (List.mem_cons_self ..)⟩ _
/-- The kind and the text. -/
def kt (t : Tk) : Nat × List UInt8 := (t.kind, t.text)
theorem retok : ∀ (ps : List (Nat × Tk)), (∀ p ∈ ps, p.1 < 4 ∧ Good9 p.2) → ∀ (f pos n : Nat), (allP ps).length < f → n + ps.length ≤ 2000 → ∃ us, toksF f pos (allP ps) n = .ok us ∧ us.map kt = ps.map (fun p => kt p.2)
  | _, _, 0, _, _, hf, _ => absurd hf (Nat.not_lt_zero _)
  | [], _, f + 1, pos, n, _, _ => ⟨[], rfl, rfl⟩
  | p :: ps, h, f + 1, pos, n, hf, hn => by
    obtain ⟨h4, hg⟩ := h p (List.mem_cons_self ..)
    have hrest := fun q hq => h q (List.mem_cons_of_mem p hq)
    have e : allP (p :: ps) = seps9.getD p.1 [] ++ (raw9 p.2 ++ allP ps) := by unfold allP; rw [List.flatMap_cons, List.append_assoc]
    have hgap : gapB false (allP (p :: ps)) = (seps9.getD p.1 []).length := by rw [e, sep_gap ⟨p.1, h4⟩, hg.gap]; rfl
    have hd : (allP (p :: ps)).drop (gapB false (allP (p :: ps))) = raw9 p.2 ++ allP ps := by rw [hgap, e, List.drop_left]
    have ho := hg.one (allP ps) (allP_head ps (fun q hq => (hrest q hq).1))
    have hne : (raw9 p.2 ++ allP ps).isEmpty = false := by
      have := hg.len
      cases hr : raw9 p.2 with
      | nil => rw [hr] at this; simp at this
      | cons y ys => rfl
    have hlen : (allP (p :: ps)).length = (seps9.getD p.1 []).length + ((raw9 p.2).length + (allP ps).length) := by rw [e, List.length_append, List.length_append]
    simp only [List.length_cons] at hn
    obtain ⟨us, hu, hk⟩ := retok ps hrest f (pos + gapB false (allP (p :: ps)) + (raw9 p.2).length) (n + 1) (by have := hg.len; omega) (by omega)
    refine ⟨⟨p.2.kind, pos + gapB false (allP (p :: ps)), p.2.text⟩ :: us, ?_, ?_⟩
    · rw [toksF_succ, hd, if_neg (by rw [hne]; decide), ho, if_neg (fun h => h rfl), if_neg (by omega)]
      simp only
      rw [List.drop_left, hu]
      rfl
    · rw [List.map_cons, List.map_cons, hk]; rfl
theorem toksS_retok {ps : List (Nat × Tk)} (h : ∀ p ∈ ps, p.1 < 4 ∧ Good9 p.2) (hl : (allP ps).length ≤ 8000) (hn : ps.length ≤ 2000) : ∃ us, toksS (allP ps) = .ok us ∧ us.map kt = ps.map (fun p => kt p.2) := by
  rw [toksS_small hl]
  unfold toksAt
  rw [List.drop_zero]
  exact retok ps h _ _ _ (by omega) (by omega)
theorem toksS_badc {s : List UInt8} {c p : Nat} (h : toksS s = .bad c p) : c ≠ 0 := by
  unfold toksS at h
  split at h
  · simp only [Toks.bad.injEq] at h; omega
  · exact (toksF_badpos _ _ _ _ _ _ h).2
theorem chain_start {s : List UInt8} {ts : List Tk} (h : toksS s = .ok ts) : Chain s 0 ts := by
  unfold toksS at h
  split at h
  · cases h
  · exact chain_of s _ 0 0 ts (by rw [List.drop_zero]; exact h)
theorem chain_at {s : List UInt8} {pos k : Nat} {ts : List Tk} (hk : k < ts.length) (h : Chain s pos (ts.drop k)) :
    pos ≤ ts[k].at' ∧ raw9 ts[k] <+: s.drop ts[k].at' ∧ Good9 ts[k] ∧ ts[k].at' + (raw9 ts[k]).length ≤ s.length ∧ Chain s (ts[k].at' + (raw9 ts[k]).length) (ts.drop (k + 1)) := by
  rw [List.drop_eq_getElem_cons hk] at h
  obtain ⟨h1, h2, h3, h4⟩ := h
  refine ⟨h1, h2, h3, ?_, h4⟩
  have a := h2.length_le
  have b := h3.len
  rw [List.length_drop] at a
  omega
end Go.Proofs.Url

/- Plain: tokens of pieces with gaps between; an endpoint's attributes (what moatlaw10.SynAttrs lays). Text by make/l36p.py. -/
namespace Go.Proofs.Url
open Syn
abbrev P9 := List UInt8 × List UInt8
/-- Pieces, a gap ahead of each. -/
def T9 (ps : List P9) : List UInt8 := ps.flatMap fun p => p.1 ++ p.2
/-- Their tokens, from a place on. -/
def pl9 : Nat → List P9 → List Tk
  | _, [] => []
  | pos, p :: ps => ⟨(oneS p.2).kind, pos + p.1.length, (oneS p.2).text⟩ :: pl9 (pos + p.1.length + p.2.length) ps
def gaps4 : List (List UInt8) := [[], [32], [10, 9], [32, 35, 32, 99, 10]]
def good2 (p : P9) : Bool := gaps4.contains p.1 && (oneS p.2).code == 0 && (oneS p.2).len == p.2.length
def head2 (p : P9) : Bool := match p.1 ++ p.2 with
  | [] => false
  | x :: _ => !nameB9 x && !capB x
theorem gap4 {G : List UInt8} (h : gaps4.contains G = true) (rest : List UInt8) : gapB false (G ++ rest) = G.length + gapB false rest := by
  have h2 : G ∈ gaps4 := List.contains_iff_mem.1 h
  simp only [gaps4, List.mem_cons, List.not_mem_nil, or_false] at h2
  rcases h2 with rfl | rfl | rfl | rfl
  · show gapB false rest = 0 + _; omega
  · show 1 + gapB false rest = 1 + _; rfl
  · show 1 + (1 + gapB false rest) = 2 + _; omega
  · show 1 + (1 + (1 + (1 + (1 + gapB false rest)))) = 5 + _; omega
theorem good2_of {p : P9} (h : good2 p = true) : gaps4.contains p.1 = true ∧ Good9 ⟨(oneS p.2).kind, 0, (oneS p.2).text⟩ ∧ raw9 ⟨(oneS p.2).kind, 0, (oneS p.2).text⟩ = p.2 := by
  unfold good2 at h
  rw [Bool.and_eq_true, Bool.and_eq_true] at h
  obtain ⟨⟨h1, h2⟩, h3⟩ := h
  have h2 := eq_of_beq h2
  have h3 := eq_of_beq h3
  obtain ⟨G, P⟩ := p
  cases P with
  | nil => cases h2
  | cons c r =>
    obtain ⟨g1, g2, g3⟩ := good_of (c := c) (r := r) 0 h2
    exact ⟨h1, g1, g2.eq_of_length (g3.trans h3)⟩
theorem T9_cons (p : P9) (ps : List P9) : T9 (p :: ps) = p.1 ++ (p.2 ++ T9 ps) := by unfold T9; rw [List.flatMap_cons, List.append_assoc]
theorem T9_append (a b : List P9) : T9 (a ++ b) = T9 a ++ T9 b := by unfold T9; rw [List.flatMap_append]
theorem sep_of : ∀ {ps : List P9}, (∀ p ∈ ps, head2 p = true) → SepHead (T9 ps)
  | [], _ => fun x h => by cases h
  | p :: ps, h => fun x hx => by
    have h1 := h p (List.mem_cons_self ..)
    unfold head2 at h1
    rw [T9_cons, ← List.append_assoc] at hx
    cases he : p.1 ++ p.2 with
    | nil => rw [he] at h1; cases h1
    | cons y l =>
      rw [he] at h1 hx
      cases hx
      simpa using h1
theorem lex_ps : ∀ (ps : List P9), (∀ p ∈ ps, good2 p = true) → (∀ p ∈ ps.tail, head2 p = true) → ∀ (f pos n : Nat), (T9 ps).length < f → n + ps.length ≤ 2000 → toksF f pos (T9 ps) n = .ok (pl9 pos ps)
  | _, _, _, 0, _, _, hf, _ => absurd hf (Nat.not_lt_zero _)
  | [], _, _, _ + 1, _, _, _, _ => rfl
  | p :: ps, hg, hh, f + 1, pos, n, hf, hn => by
    obtain ⟨h1, g, e⟩ := good2_of (hg p (List.mem_cons_self ..))
    have e1 := T9_cons p ps
    have hgap : gapB false (T9 (p :: ps)) = p.1.length := by
      have := g.gap (T9 ps)
      rw [e] at this
      rw [e1, gap4 h1, this]; rfl
    have hd : (T9 (p :: ps)).drop (gapB false (T9 (p :: ps))) = p.2 ++ T9 ps := by rw [hgap, e1, List.drop_left]
    have ho := g.one (T9 ps) (sep_of hh)
    have hl := g.len
    rw [e] at ho hl
    have hne : (p.2 ++ T9 ps).isEmpty = false := by
      cases hr : p.2 with
      | nil => rw [hr] at hl; simp at hl
      | cons y ys => rfl
    have hlen : (T9 (p :: ps)).length = p.1.length + (p.2.length + (T9 ps).length) := by rw [e1, List.length_append, List.length_append]
    simp only [List.length_cons] at hn
    have ih := lex_ps ps (fun q hq => hg q (List.mem_cons_of_mem p hq)) (fun q hq => hh q (List.mem_of_mem_tail hq)) f (pos + p.1.length + p.2.length) (n + 1) (by omega) (by omega)
    rw [toksF_succ, hd, if_neg (by rw [hne]; decide), ho, if_neg (fun h => h rfl), if_neg (by omega)]
    simp only
    rw [List.drop_left, hgap, ih]
    rfl
theorem toksS_ps {ps : List P9} (h : ∀ p ∈ ps, good2 p = true) (hh : ∀ p ∈ ps.tail, head2 p = true) (hl : (T9 ps).length ≤ 8000) (hn : ps.length ≤ 2000) : toksS (T9 ps) = .ok (pl9 0 ps) := by
  unfold toksS
  rw [if_neg (by omega)]
  exact lex_ps ps h hh _ _ _ (by omega) (by omega)
theorem pl9_len : ∀ (ps : List P9) (pos : Nat), (pl9 pos ps).length = ps.length
  | [], _ => rfl
  | _ :: ps, _ => congrArg (· + 1) (pl9_len ps _)
/-- The seventeen attributes: av they stand in a list, by pieces, av they are told. -/
def all17 : List (List UInt8) := [[112, 97, 103, 101], [105, 110, 106, 101, 99, 116], [111, 119, 110], [99, 104, 97, 110, 103, 101, 115], [111, 112, 101, 110], [99, 114, 101, 100, 101, 110, 116, 105, 97, 108, 115], [115, 99, 114, 105, 112, 116, 32, 120], [110, 101, 101, 100, 115, 32, 121], [115, 101, 116, 115, 32, 122], [103, 105, 118, 101, 115, 32, 115], [114, 101, 100, 105, 114, 101, 99, 116, 32, 101], [99, 111, 114, 115, 32, 97, 110, 121], [99, 111, 114, 115, 32, 101, 118, 105, 108], [104, 101, 97, 100, 101, 114, 32, 34, 88, 34], [97, 108, 108, 111, 119, 32, 34, 97, 44, 32, 98, 34], [109, 101, 116, 104, 111, 100, 115, 32, 34, 34], [99, 115, 112, 32, 34, 39, 115, 101, 108, 102, 39, 34]]
def pcs17 : List (List (List UInt8)) := [[[112, 97, 103, 101]], [[105, 110, 106, 101, 99, 116]], [[111, 119, 110]], [[99, 104, 97, 110, 103, 101, 115]], [[111, 112, 101, 110]], [[99, 114, 101, 100, 101, 110, 116, 105, 97, 108, 115]], [[115, 99, 114, 105, 112, 116], [120]], [[110, 101, 101, 100, 115], [121]], [[115, 101, 116, 115], [122]], [[103, 105, 118, 101, 115], [115]], [[114, 101, 100, 105, 114, 101, 99, 116], [101]], [[99, 111, 114, 115], [97, 110, 121]], [[99, 111, 114, 115], [101, 118, 105, 108]], [[104, 101, 97, 100, 101, 114], [34, 88, 34]], [[97, 108, 108, 111, 119], [34, 97, 44, 32, 98, 34]], [[109, 101, 116, 104, 111, 100, 115], [34, 34]], [[99, 115, 112], [34, 39, 115, 101, 108, 102, 39, 34]]]
def gs3 : List (List UInt8) := [[32], [10, 9], [32, 35, 32, 99, 10]]
def a17 (k : Nat) : List UInt8 := all17.getD k []
def p17 (k : Nat) : List (List UInt8) := pcs17.getD k []
def blkP (g : List UInt8) (l : List (List UInt8)) : List P9 := match l with
  | [] => []
  | a :: r => (g, a) :: ((r.map fun b => ([32], b)) ++ [(g, [59])])
theorem blk_text : ∀ g ∈ gs3, ∀ k, k < 17 → T9 (blkP g (p17 k)) = g ++ a17 k ++ g ++ [59] := by decide +kernel
theorem blk_good : ∀ g ∈ gs3, ∀ k, k < 17 → ((blkP g (p17 k)).all fun p => good2 p && head2 p) = true := by decide +kernel
theorem blk_len : ∀ g ∈ gs3, ∀ k, k < 17 → 2 ≤ (blkP g (p17 k)).length ∧ (blkP g (p17 k)).length ≤ 3 ∧ (g ++ a17 k ++ g ++ [59]).length ≤ 30 := by decide +kernel
def bodyP (g : List UInt8) (ks : List Nat) : List P9 := ks.flatMap fun k => blkP g (p17 k)
def bodyT (g : List UInt8) (ks : List Nat) : List UInt8 := ks.flatMap fun k => g ++ a17 k ++ g ++ [59]
def wantT (ks : List Nat) : List UInt8 := ks.flatMap fun k => [32, 40] ++ a17 k ++ [41]
theorem body_text {g : List UInt8} (hg : g ∈ gs3) : ∀ (ks : List Nat), (∀ k ∈ ks, k < 17) → T9 (bodyP g ks) = bodyT g ks
  | [], _ => rfl
  | k :: ks, h => by
    have := blk_text g hg k (h k (List.mem_cons_self ..))
    unfold bodyP bodyT
    rw [List.flatMap_cons, List.flatMap_cons, T9_append, this]
    exact congrArg _ (body_text hg ks fun j hj => h j (List.mem_cons_of_mem k hj))
theorem body_good {g : List UInt8} (hg : g ∈ gs3) {ks : List Nat} (h : ∀ k ∈ ks, k < 17) : ∀ p ∈ bodyP g ks, good2 p = true ∧ head2 p = true := by
  intro p hp
  unfold bodyP at hp
  obtain ⟨k, hk, hp⟩ := List.mem_flatMap.1 hp
  have := List.all_eq_true.1 (blk_good g hg k (h k hk)) p hp
  rwa [Bool.and_eq_true] at this
theorem body_len {g : List UInt8} (hg : g ∈ gs3) : ∀ (ks : List Nat), (∀ k ∈ ks, k < 17) → ks.length ≤ (bodyP g ks).length ∧ (bodyP g ks).length ≤ 3 * ks.length ∧ (bodyT g ks).length ≤ 30 * ks.length
  | [], _ => ⟨Nat.le_refl _, Nat.le_refl _, Nat.le_refl _⟩
  | k :: ks, h => by
    obtain ⟨h1, h2, h3⟩ := blk_len g hg k (h k (List.mem_cons_self ..))
    obtain ⟨i1, i2, i3⟩ := body_len hg ks fun j hj => h j (List.mem_cons_of_mem k hj)
    unfold bodyP bodyT at *
    rw [List.flatMap_cons, List.flatMap_cons, List.length_append, List.length_append, List.length_cons]
    omega
theorem attr_step (g : List UInt8) (k : Nat) (h : k < 17) (rest : List P9) (pos : Nat) : ∃ (p' : Nat) (a : Atr), (∀ n, attrsF (n + 1) (pl9 pos (blkP g (p17 k) ++ rest)) = (attrsF n (pl9 p' rest)).map (fun l => a :: l)) ∧ attrS a = [32, 40] ++ a17 k ++ [41] := by
  match k, h with
  | 0, _ => exact ⟨pos + g.length + 4 + g.length + 1, ⟨[112, 97, 103, 101], pos + g.length, zeroT⟩, fun _ => rfl, rfl⟩
  | 1, _ => exact ⟨pos + g.length + 6 + g.length + 1, ⟨[105, 110, 106, 101, 99, 116], pos + g.length, zeroT⟩, fun _ => rfl, rfl⟩
  | 2, _ => exact ⟨pos + g.length + 3 + g.length + 1, ⟨[111, 119, 110], pos + g.length, zeroT⟩, fun _ => rfl, rfl⟩
  | 3, _ => exact ⟨pos + g.length + 7 + g.length + 1, ⟨[99, 104, 97, 110, 103, 101, 115], pos + g.length, zeroT⟩, fun _ => rfl, rfl⟩
  | 4, _ => exact ⟨pos + g.length + 4 + g.length + 1, ⟨[111, 112, 101, 110], pos + g.length, zeroT⟩, fun _ => rfl, rfl⟩
  | 5, _ => exact ⟨pos + g.length + 11 + g.length + 1, ⟨[99, 114, 101, 100, 101, 110, 116, 105, 97, 108, 115], pos + g.length, zeroT⟩, fun _ => rfl, rfl⟩
  | 6, _ => exact ⟨pos + g.length + 6 + 1 + 1 + g.length + 1, ⟨[115, 99, 114, 105, 112, 116], pos + g.length, ⟨1, pos + g.length + 6 + 1, [120]⟩⟩, fun _ => rfl, rfl⟩
  | 7, _ => exact ⟨pos + g.length + 5 + 1 + 1 + g.length + 1, ⟨[110, 101, 101, 100, 115], pos + g.length, ⟨1, pos + g.length + 5 + 1, [121]⟩⟩, fun _ => rfl, rfl⟩
  | 8, _ => exact ⟨pos + g.length + 4 + 1 + 1 + g.length + 1, ⟨[115, 101, 116, 115], pos + g.length, ⟨1, pos + g.length + 4 + 1, [122]⟩⟩, fun _ => rfl, rfl⟩
  | 9, _ => exact ⟨pos + g.length + 5 + 1 + 1 + g.length + 1, ⟨[103, 105, 118, 101, 115], pos + g.length, ⟨1, pos + g.length + 5 + 1, [115]⟩⟩, fun _ => rfl, rfl⟩
  | 10, _ => exact ⟨pos + g.length + 8 + 1 + 1 + g.length + 1, ⟨[114, 101, 100, 105, 114, 101, 99, 116], pos + g.length, ⟨1, pos + g.length + 8 + 1, [101]⟩⟩, fun _ => rfl, rfl⟩
  | 11, _ => exact ⟨pos + g.length + 4 + 1 + 3 + g.length + 1, ⟨[99, 111, 114, 115], pos + g.length, ⟨2, pos + g.length + 4 + 1, [97, 110, 121]⟩⟩, fun _ => rfl, rfl⟩
  | 12, _ => exact ⟨pos + g.length + 4 + 1 + 4 + g.length + 1, ⟨[99, 111, 114, 115], pos + g.length, ⟨1, pos + g.length + 4 + 1, [101, 118, 105, 108]⟩⟩, fun _ => rfl, rfl⟩
  | 13, _ => exact ⟨pos + g.length + 6 + 1 + 3 + g.length + 1, ⟨[104, 101, 97, 100, 101, 114], pos + g.length, ⟨3, pos + g.length + 6 + 1, [88]⟩⟩, fun _ => rfl, rfl⟩
  | 14, _ => exact ⟨pos + g.length + 5 + 1 + 6 + g.length + 1, ⟨[97, 108, 108, 111, 119], pos + g.length, ⟨3, pos + g.length + 5 + 1, [97, 44, 32, 98]⟩⟩, fun _ => rfl, rfl⟩
  | 15, _ => exact ⟨pos + g.length + 7 + 1 + 2 + g.length + 1, ⟨[109, 101, 116, 104, 111, 100, 115], pos + g.length, ⟨3, pos + g.length + 7 + 1, []⟩⟩, fun _ => rfl, rfl⟩
  | 16, _ => exact ⟨pos + g.length + 3 + 1 + 8 + g.length + 1, ⟨[99, 115, 112], pos + g.length, ⟨3, pos + g.length + 3 + 1, [39, 115, 101, 108, 102, 39]⟩⟩, fun _ => rfl, rfl⟩
  | _ + 17, h => exact absurd h (by omega)
theorem map_map9 {α β γ : Type} (x : Rd α) (f : α → β) (g : β → γ) : (x.map f).map g = x.map (fun a => g (f a)) := by cases x <;> rfl
theorem attrs_body (g : List UInt8) (tl : List P9) : ∀ (ks : List Nat), (∀ k ∈ ks, k < 17) → ∀ pos : Nat, ∃ (p' : Nat) (av : List Atr), (∀ n, attrsF (ks.length + n) (pl9 pos (bodyP g ks ++ tl)) = (attrsF n (pl9 p' tl)).map (fun l => av ++ l)) ∧ av.flatMap attrS = wantT ks
  | [], _, pos => ⟨pos, [], fun n => by rw [show ([] : List Nat).length + n = n by simp, show bodyP g [] ++ tl = tl from rfl]; cases attrsF n (pl9 pos tl) <;> rfl, rfl⟩
  | k :: ks, h, pos => by
    obtain ⟨q, a, h1, h2⟩ := attr_step g k (h k (List.mem_cons_self ..)) (bodyP g ks ++ tl) pos
    obtain ⟨p', av, i1, i2⟩ := attrs_body g tl ks (fun j hj => h j (List.mem_cons_of_mem k hj)) q
    refine ⟨p', a :: av, fun n => ?_, ?_⟩
    · have e : bodyP g (k :: ks) ++ tl = blkP g (p17 k) ++ (bodyP g ks ++ tl) := by unfold bodyP; rw [List.flatMap_cons, List.append_assoc]
      rw [List.length_cons, show ks.length + 1 + n = (ks.length + n) + 1 by omega, e, h1, i1, map_map9]
      rfl
    · rw [List.flatMap_cons, h2, i2]; rfl
def hdP : List P9 := [([], [101, 110, 100, 112, 111, 105, 110, 116]), ([32], [101]), ([32], [97, 116]), ([32], [111]), ([32], [71, 69, 84]), ([32], [34, 47, 34]), ([32], [123])]
def hdT : List UInt8 := [101, 110, 100, 112, 111, 105, 110, 116, 32, 101, 32, 97, 116, 32, 111, 32, 71, 69, 84, 32, 34, 47, 34, 32, 123]
def hdW : List UInt8 := [101, 110, 100, 112, 111, 105, 110, 116, 32, 101, 32, 97, 116, 32, 111, 32, 71, 69, 84, 32, 34, 47, 34]
theorem hd_text : T9 hdP = hdT := by decide +kernel
theorem hd_good : (hdP.all good2 && hdP.tail.all head2) = true := by decide +kernel
def itmA (pos : Nat) (l : List Atr) : Itm := ⟨w_endpoint, pos, ⟨1, pos + 9, [101]⟩, ⟨1, pos + 14, [111]⟩, ⟨5, pos + 16, [71, 69, 84]⟩, ⟨3, pos + 20, [47]⟩, l, none⟩
theorem item_head (pos : Nat) (R : List P9) : itemR (pl9 pos (hdP ++ R)) = (attrsF ((pl9 (pos + 25) R).length + 1) (pl9 (pos + 25) R)).then fun l r => (needR w_rbr r).map fun _ => itmA pos l := rfl
theorem line_itmA (pos : Nat) (l : List Atr) : lineS (itmA pos l) = hdW ++ l.flatMap attrS ++ [10] := by
  show hdW ++ l.flatMap attrS ++ [] ++ [10] = _
  rw [List.append_nil]
/-- An endpoint with these attributes. -/
theorem item_all (g : List UInt8) (ks : List Nat) (h : ∀ k ∈ ks, k < 17) (hl : ks.length ≤ (bodyP g ks).length) (pos : Nat) : ∃ av : List Atr, itemR (pl9 pos (hdP ++ (bodyP g ks ++ [([], [125])]))) = .ok (itmA pos av) [] ∧ av.flatMap attrS = wantT ks := by
  obtain ⟨p', av, h1, h2⟩ := attrs_body g [([], [125])] ks h (pos + 25)
  refine ⟨av, ?_, h2⟩
  obtain ⟨m, hm⟩ : ∃ m, (pl9 (pos + 25) (bodyP g ks ++ [([], [125])])).length + 1 = ks.length + (m + 1) := ⟨(bodyP g ks).length + 1 - ks.length, by rw [pl9_len, List.length_append, List.length_singleton]; omega⟩
  rw [item_head, hm, h1]
  show ((Rd.ok [] (pl9 p' [([], [125])])).map (fun l => av ++ l)).then _ = _
  show (Rd.ok (itmA pos (av ++ [])) []) = _
  rw [List.append_nil]
theorem item_bad (g : List UInt8) (ks : List Nat) (h : ∀ k ∈ ks, k < 17) (hl : ks.length ≤ (bodyP g ks).length) (pos : Nat) : ∃ p, itemR (pl9 pos (hdP ++ (bodyP g ks ++ [(g, [112, 97, 103, 101]), ([32], [125])]))) = .bad [⟨4, p, [125]⟩] := by
  obtain ⟨p', av, h1, h2⟩ := attrs_body g [(g, [112, 97, 103, 101]), ([32], [125])] ks h (pos + 25)
  obtain ⟨m, hm⟩ : ∃ m, (pl9 (pos + 25) (bodyP g ks ++ [(g, [112, 97, 103, 101]), ([32], [125])])).length + 1 = ks.length + (m + 1) := ⟨(bodyP g ks).length + 2 - ks.length, by rw [pl9_len, List.length_append, List.length_cons, List.length_singleton]; omega⟩
  rw [item_head, hm, h1]
  exact ⟨_, rfl⟩
theorem itemsF_one {ts : List Tk} {x : Itm} (h : itemR ts = .ok x []) (n : Nat) (hne : ts ≠ []) : itemsF (n + 2) ts = .ok [x] [] := by
  cases ts with
  | nil => exact absurd rfl hne
  | cons t r =>
    show (itemR (t :: r)).then _ = _
    rw [h]; rfl
theorem good_all {g : List UInt8} (hg : g ∈ gs3) {ks : List Nat} (h : ∀ k ∈ ks, k < 17) {tl : List P9} (ht : (tl.all fun p => good2 p && head2 p) = true) : (∀ p ∈ hdP ++ (bodyP g ks ++ tl), good2 p = true) ∧ (∀ p ∈ (hdP ++ (bodyP g ks ++ tl)).tail, head2 p = true) := by
  have hd := hd_good
  rw [Bool.and_eq_true] at hd
  have hx : ∀ p ∈ bodyP g ks ++ tl, good2 p = true ∧ head2 p = true := fun p hp => by
    rcases List.mem_append.1 hp with hp | hp
    · exact body_good hg h p hp
    · have := List.all_eq_true.1 ht p hp
      rwa [Bool.and_eq_true] at this
  refine ⟨fun p hp => ?_, fun p hp => ?_⟩
  · rcases List.mem_append.1 hp with hp | hp
    · exact List.all_eq_true.1 hd.1 p hp
    · exact (hx p hp).1
  · have e : (hdP ++ (bodyP g ks ++ tl)).tail = hdP.tail ++ (bodyP g ks ++ tl) := rfl
    rw [e] at hp
    rcases List.mem_append.1 hp with hp | hp
    · exact List.all_eq_true.1 hd.2 p hp
    · exact (hx p hp).2
theorem text_all {g : List UInt8} (hg : g ∈ gs3) {ks : List Nat} (h : ∀ k ∈ ks, k < 17) (tl : List P9) : T9 (hdP ++ (bodyP g ks ++ tl)) = hdT ++ bodyT g ks ++ T9 tl := by
  rw [T9_append, T9_append, hd_text, body_text hg ks h, List.append_assoc]
theorem len_all {g : List UInt8} (hg : g ∈ gs3) {ks : List Nat} (h : ∀ k ∈ ks, k < 17) (hk : ks.length ≤ 14) (tl : List P9) (h1 : (T9 tl).length ≤ 100) (h2 : tl.length ≤ 2) : (T9 (hdP ++ (bodyP g ks ++ tl))).length ≤ 7000 ∧ (hdP ++ (bodyP g ks ++ tl)).length ≤ 1000 := by
  obtain ⟨i1, i2, i3⟩ := body_len hg ks h
  have e1 : hdT.length = 25 := rfl
  have e2 : hdP.length = 7 := rfl
  rw [text_all hg h]
  simp only [List.length_append, e1, e2]
  omega
theorem attrs_dump {g : List UInt8} (hg : g ∈ gs3) {ks : List Nat} (h : ∀ k ∈ ks, k < 17) (hk : ks.length ≤ 14) : dumpR (hdT ++ bodyT g ks ++ [125]) = (hdW ++ wantT ks ++ [10], 0, 0) := by
  obtain ⟨g1, g2⟩ := good_all hg h (tl := [([], [125])]) (by decide +kernel)
  obtain ⟨l1, l2⟩ := len_all hg h hk [([], [125])] (by decide) (by decide)
  obtain ⟨av, i1, i2⟩ := item_all g ks h (body_len hg ks h).1 0
  have ht := toksS_ps g1 g2 (by omega) (by omega)
  rw [text_all hg h] at ht
  have e : T9 [([], [125])] = [125] := rfl
  rw [e] at ht
  have hi : itemsF ((pl9 0 (hdP ++ (bodyP g ks ++ [([], [125])]))).length + 1) (pl9 0 (hdP ++ (bodyP g ks ++ [([], [125])]))) = .ok [itmA 0 av] [] := itemsF_one i1 _ (fun h => by cases h)
  unfold dumpR readS10
  rw [ht]
  show (match (match itemsF ((pl9 0 (hdP ++ (bodyP g ks ++ [([], [125])]))).length + 1) (pl9 0 (hdP ++ (bodyP g ks ++ [([], [125])]))) with | .bad [] => _ | .bad (t :: _) => _ | .ok xs _ => _ : Syn) with | .ok xs => _ | .bad c p => _) = _
  rw [hi]
  show ([itmA 0 av].flatMap lineS, 0, 0) = _
  rw [List.flatMap_cons, line_itmA, i2]; simp
theorem attrs_bad {g : List UInt8} (hg : g ∈ gs3) {ks : List Nat} (h : ∀ k ∈ ks, k < 17) (hk : ks.length ≤ 14) : ∃ p, dumpR (hdT ++ bodyT g ks ++ (g ++ [112, 97, 103, 101, 32, 125])) = ([], 4, p) := by
  have e : T9 [(g, [112, 97, 103, 101]), ([32], [125])] = g ++ [112, 97, 103, 101, 32, 125] := by simp [T9]
  have htl : ([(g, [112, 97, 103, 101]), ([32], [125])].all fun p => good2 p && head2 p) = true := by
    simp only [gs3, List.mem_cons, List.not_mem_nil, or_false] at hg
    rcases hg with rfl | rfl | rfl <;> decide +kernel
  have hle : (T9 [(g, [112, 97, 103, 101]), ([32], [125])]).length ≤ 100 := by
    simp only [gs3, List.mem_cons, List.not_mem_nil, or_false] at hg
    rcases hg with rfl | rfl | rfl <;> decide
  obtain ⟨g1, g2⟩ := good_all hg h htl
  obtain ⟨l1, l2⟩ := len_all hg h hk _ hle (by simp)
  obtain ⟨p, i1⟩ := item_bad g ks h (body_len hg ks h).1 0
  have ht := toksS_ps g1 g2 (by omega) (by omega)
  rw [text_all hg h, e] at ht
  refine ⟨p, ?_⟩
  have hi : ∀ n, itemsF (n + 1) (pl9 0 (hdP ++ (bodyP g ks ++ [(g, [112, 97, 103, 101]), ([32], [125])]))) = .bad [⟨4, p, [125]⟩] := fun n => by
    show (itemR (pl9 0 (hdP ++ (bodyP g ks ++ [(g, [112, 97, 103, 101]), ([32], [125])])))).then _ = _
    rw [i1]; rfl
  unfold dumpR readS10
  rw [ht]
  simp only [hi]
theorem attrs_items {g : List UInt8} (hg : g ∈ gs3) {ks : List Nat} (h : ∀ k ∈ ks, k < 17) (hk : ks.length ≤ 14) : itemsR ([110, 101, 116, 119, 111, 114, 107, 59] ++ (hdT ++ bodyT g ks ++ [125])) = ([0, 8], 0, 0) := by
  obtain ⟨g1, g2⟩ := good_all hg h (tl := [([], [125])]) (by decide +kernel)
  obtain ⟨l1, l2⟩ := len_all hg h hk [([], [125])] (by decide) (by decide)
  obtain ⟨av, i1, i2⟩ := item_all g ks h (body_len hg ks h).1 8
  have ht := lex_ps _ g1 g2 ((T9 (hdP ++ (bodyP g ks ++ [([], [125])]))).length + 7) 8 2 (by omega) (by omega)
  rw [text_all hg h] at ht l1
  have e : T9 [([], [125])] = [125] := rfl
  rw [e] at ht l1
  generalize hX : hdT ++ bodyT g ks ++ [125] = X at *
  have ht2 : toksS ([110, 101, 116, 119, 111, 114, 107, 59] ++ X) = .ok (⟨2, 0, [110, 101, 116, 119, 111, 114, 107]⟩ :: ⟨4, 7, [59]⟩ :: pl9 8 (hdP ++ (bodyP g ks ++ [([], [125])]))) := by
    unfold toksS
    rw [if_neg (by rw [List.length_append]; show ¬ 8000 < 8 + X.length; omega)]
    have e3 : ([110, 101, 116, 119, 111, 114, 107, 59] ++ X : List UInt8).length + 1 = (X.length + 7) + 1 + 1 := by rw [List.length_append]; show 8 + X.length + 1 = _; omega
    rw [e3]
    show ((toksF (X.length + 7) 8 X 2).put [⟨4, 7, [59]⟩]).put [⟨2, 0, [110, 101, 116, 119, 111, 114, 107]⟩] = _
    rw [ht]; rfl
  have hi : ∀ n, itemsF (n + 3) (⟨2, 0, [110, 101, 116, 119, 111, 114, 107]⟩ :: ⟨4, 7, [59]⟩ :: pl9 8 (hdP ++ (bodyP g ks ++ [([], [125])]))) = .ok [⟨[110, 101, 116, 119, 111, 114, 107], 0, zeroT, zeroT, zeroT, zeroT, [], none⟩, itmA 8 av] [] := fun n => by
    have := itemsF_one i1 n (fun h => by cases h)
    show (itemsF (n + 2) (pl9 8 (hdP ++ (bodyP g ks ++ [([], [125])])))).map _ = _
    rw [this]; rfl
  unfold itemsR readS10
  rw [ht2]
  simp only [List.length_cons, hi]
  rfl
end Go.Proofs.Url
