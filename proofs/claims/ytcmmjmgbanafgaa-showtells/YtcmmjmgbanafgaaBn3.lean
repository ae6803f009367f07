import Derived.Test.YtcmmjmgbanafgaaLx4
import Derived.Test.YtcmmjmgbanafgaaSx1
import Derived.Test.YtcmmjmgbanafgaaBn2
/- Plain: tokens of texts that are laid piece by piece (LexTexts, LexNames, LexLong). -/
namespace Go.Proofs.Url

theorem toksAt_tok {s : List UInt8} {i g n : Nat} {o : One} (hg : gapB false (s.drop i) = g) (hl : i + g < s.length) (ho : oneS (s.drop (i + g)) = o) (hc : o.code = 0) (hn : n ≠ 2000) :
    toksAt s i n = (toksAt s (i + g + o.len) (n + 1)).put [⟨o.kind, i + g, o.text⟩] := by
  rw [toksAt_gap, hg, toksG_on hl (by rw [ho]; exact hc) hn, ho]
theorem toksAt_wrong {s : List UInt8} {i g n : Nat} {o : One} (hg : gapB false (s.drop i) = g) (hl : i + g < s.length) (ho : oneS (s.drop (i + g)) = o) (hc : o.code ≠ 0) :
    toksAt s i n = .bad o.code (i + g) := by
  rw [toksAt_gap, hg, toksG_bad n hl (by rw [ho]; exact hc), ho]
theorem toksAt_stop {s : List UInt8} {i : Nat} (n : Nat) (h : s.length ≤ i) : toksAt s i n = .ok [] := by
  rw [toksAt_gap]; exact toksG_end n (by omega)
theorem run_app (f : UInt8 → Bool) (b : List UInt8) (hb : ∀ x, b.head? = some x → f x = false) : ∀ a : List UInt8, (∀ x ∈ a, f x = true) → (a ++ b).takeWhile f = a
  | [], _ => by
    cases b with
    | nil => rfl
    | cons y b => rw [List.nil_append, List.takeWhile_cons, if_neg (by simp [hb y rfl])]
  | x :: a, h => by
    rw [List.cons_append, List.takeWhile_cons, if_pos (h x (List.mem_cons_self ..)), run_app f b hb a (fun y hy => h y (List.mem_cons_of_mem _ hy))]
theorem toksF_badpos : ∀ (f pos : Nat) (l : List UInt8) (n c p : Nat), toksF f pos l n = .bad c p → pos ≤ p ∧ c ≠ 0
  | 0, _, _, _, _, _, h => by cases h
  | f + 1, pos, l, n, c, p, h => by
    rw [toksF_succ] at h
    by_cases h1 : (l.drop (gapB false l)).isEmpty
    · rw [if_pos h1] at h; cases h
    · rw [if_neg h1] at h
      by_cases h2 : (oneS (l.drop (gapB false l))).code ≠ 0
      · rw [if_pos h2] at h
        simp only [Toks.bad.injEq] at h
        exact ⟨by omega, by rw [← h.1]; exact h2⟩
      · rw [if_neg h2] at h
        by_cases h3 : n = 2000
        · rw [if_pos h3] at h
          simp only [Toks.bad.injEq] at h
          exact ⟨by omega, by omega⟩
        · rw [if_neg h3] at h
          cases hr : toksF f (pos + gapB false l + (oneS (l.drop (gapB false l))).len) ((l.drop (gapB false l)).drop (oneS (l.drop (gapB false l))).len) (n + 1) with
          | ok us => rw [hr] at h; cases h
          | bad c' p' =>
            rw [hr] at h
            simp only [Toks.put, Toks.bad.injEq] at h
            have := toksF_badpos f _ _ _ _ _ hr
            omega

def own9 : List UInt8 := [111, 119, 110]
def gaps9 : List (List UInt8) := [[], [32], [10]]
def inpT (r : Nat) (s : List UInt8) : List UInt8 := own9 ++ gaps9.getD r [] ++ [34] ++ s ++ [34]
theorem inpT_eq (r : Nat) (s : List UInt8) : inpT r s = own9 ++ (gaps9.getD r [] ++ 34 :: (s ++ [34])) := by unfold inpT; simp
theorem gaps9_head (r : Fin 3) : ∀ (rest : List UInt8) (x : UInt8), (gaps9.getD r [] ++ 34 :: rest).head? = some x → nameB9 x = false := by
  intro rest x h
  match r with
  | 0 => cases h; rfl
  | 1 => cases h; rfl
  | 2 => cases h; rfl
theorem gaps9_gap (r : Fin 3) (rest : List UInt8) : gapB false (gaps9.getD r [] ++ 34 :: rest) = (gaps9.getD r []).length := by
  match r with
  | 0 => rfl
  | 1 => rfl
  | 2 => rfl
theorem inpT_len (r : Nat) (s : List UInt8) : (inpT r s).length = 5 + (gaps9.getD r []).length + s.length := by
  rw [inpT_eq, List.length_append, List.length_append, List.length_cons, List.length_append]; simp only [own9, List.length_cons, List.length_nil]; omega
theorem inpT_first (r : Fin 3) (s : List UInt8) (hs : s.length ≤ 60) : toksS (inpT r s) = (toksAt (inpT r s) 3 1).put [⟨2, 0, own9⟩] := by
  have hl : (gaps9.getD r []).length ≤ 1 := by
    match r with
    | 0 => decide
    | 1 => decide
    | 2 => decide
  have hlen : (inpT r s).length = 5 + (gaps9.getD r []).length + s.length := by rw [inpT_eq]; simp [own9]; omega
  rw [toksS_small (by omega)]
  have ho : oneS ((inpT r s).drop (0 + 0)) = ⟨0, 2, own9, 3⟩ := by
    rw [inpT_eq]
    show oneC 111 ([119, 110] ++ (gaps9.getD r [] ++ 34 :: (s ++ [34]))) = _
    rw [oneC_small _ (by decide), show (111 :: ([119, 110] ++ (gaps9.getD r [] ++ 34 :: (s ++ [34]))) : List UInt8) = own9 ++ (gaps9.getD r [] ++ 34 :: (s ++ [34])) from rfl, run_app nameB9 _ (gaps9_head r _) own9 (by decide)]
    rfl
  rw [toksAt_tok (g := 0) (by rw [inpT_eq]; rfl) (by omega) ho rfl (by decide)]
  rfl
theorem inpT_drop (r : Nat) (s : List UInt8) : (inpT r s).drop 3 = gaps9.getD r [] ++ 34 :: (s ++ [34]) := by rw [inpT_eq]; rfl
theorem inpT_yes (r : Fin 3) (s : List UInt8) (hs : s.length ≤ 60) (hm : ∀ x ∈ s, textB x = true) : toksS (inpT r s) = .ok [⟨2, 0, own9⟩, ⟨3, 3 + (gaps9.getD r []).length, s⟩] := by
  have hlen : (inpT r s).length = 5 + (gaps9.getD r []).length + s.length := by rw [inpT_eq]; simp [own9]; omega
  have hd : (inpT r s).drop (3 + (gaps9.getD r []).length) = 34 :: (s ++ [34]) := by
    rw [← List.drop_drop, inpT_drop, List.drop_left]
  have ho : oneS ((inpT r s).drop (3 + (gaps9.getD r []).length)) = ⟨0, 3, s, s.length + 2⟩ := by
    rw [hd]
    show oneC 34 (s ++ [34]) = _
    have ht : (s ++ [34]).takeWhile textB = s := run_app textB [34] (fun x h => by cases h; rfl) s hm
    rw [oneC_text _ (by decide) (by decide) (by decide) (by rw [ht]; simp), ht, if_neg (by omega)]
  rw [inpT_first r s hs, toksAt_tok (g := (gaps9.getD r []).length) (by rw [inpT_drop]; exact gaps9_gap r _) (by omega) ho rfl (by decide), toksAt_stop _ (by simp only; omega)]
  rfl
theorem inpT_no (r : Fin 3) (s : List UInt8) (hs : s.length ≤ 60) : (∃ c p, toksS (inpT r s) = .bad c p ∧ c ≠ 0 ∧ 3 ≤ p) ∨ (∃ ts, toksS (inpT r s) = .ok ts ∧ 2 ≤ ts.length) := by
  have hlen : (inpT r s).length = 5 + (gaps9.getD r []).length + s.length := by rw [inpT_eq]; simp [own9]; omega
  have hg : gapB false ((inpT r s).drop 3) = (gaps9.getD r []).length := by rw [inpT_drop]; exact gaps9_gap r _
  rw [inpT_first r s hs]
  by_cases hc : (oneS ((inpT r s).drop (3 + (gaps9.getD r []).length))).code = 0
  · rw [toksAt_tok hg (by omega) rfl hc (by decide)]
    cases hr : toksAt (inpT r s) (3 + (gaps9.getD r []).length + (oneS ((inpT r s).drop (3 + (gaps9.getD r []).length))).len) (1 + 1) with
    | ok us => exact .inr ⟨_, rfl, by simp⟩
    | bad c p =>
      have := toksF_badpos _ _ _ _ _ _ hr
      exact .inl ⟨c, p, rfl, this.2, by omega⟩
  · rw [toksAt_wrong hg (by omega) rfl hc]
    exact .inl ⟨_, _, rfl, hc, by omega⟩
end Go.Proofs.Url

/- Plain: what LexNames lays. -/
namespace Go.Proofs.Url

def alph9 : List UInt8 := [97, 98, 99, 100, 101, 102, 103, 104, 105, 106, 107, 108, 109, 110, 111, 112, 113, 114, 115, 116, 117, 118, 119, 120, 121, 122, 48, 49, 50, 51, 52, 53, 54, 55, 56, 57, 95]
def alphAt (k : Nat) : UInt8 := alph9.getD k 0
theorem alph_name : ∀ k : Fin 37, nameB9 (alphAt k) = true := by decide +kernel
theorem alph_small : ∀ k : Fin 26, smallB (alphAt k) = true := by decide +kernel
theorem small_cap {c : UInt8} (h : smallB c = true) : capB c = false := by
  unfold smallB at h; unfold capB
  rw [decide_eq_true_iff] at h; rw [decide_eq_false_iff_not]; omega
theorem gap_small {c : UInt8} (r : List UInt8) (h : nameB9 c = true) : gapB false (c :: r) = 0 := by
  have hb : blankB c = false ∧ ¬ c.toNat = 35 := by
    unfold nameB9 smallB at h
    unfold blankB
    simp only [Bool.or_eq_true, decide_eq_true_eq] at h
    simp only [Bool.or_eq_false_iff, decide_eq_false_iff_not]
    omega
  rw [gapB, if_neg (by simp [hb.1]), if_neg hb.2]
/-- A row of letters so far. -/
def NameOk (s : List UInt8) : Prop := (∀ x ∈ s, nameB9 x = true) ∧ (∀ x, s.head? = some x → smallB x = true)
theorem name_nil : NameOk [] := ⟨fun x h => by simp at h, fun x h => by cases h⟩
theorem name_more {s : List UInt8} {c : UInt8} (h : NameOk s) (hc : nameB9 c = true) (h0 : s = [] → smallB c = true) : NameOk (s ++ [c]) := by
  refine ⟨fun x hx => ?_, fun x hx => ?_⟩
  · rw [List.mem_append, List.mem_singleton] at hx
    rcases hx with hx | rfl
    · exact h.1 x hx
    · exact hc
  · cases s with
    | nil => cases hx; exact h0 rfl
    | cons y s => cases hx; exact h.2 _ rfl
def inpN (s : List UInt8) : List UInt8 := [65, 66] ++ s ++ [67]
theorem inpN_tell {s : List UInt8} (h : NameOk s) (hne : s ≠ []) (hl : s.length ≤ 30) :
    toksS (inpN s) = if 20 < s.length then .bad 6 2 else .ok [⟨5, 0, [65, 66]⟩, ⟨if wordS s then 2 else 1, 2, s⟩, ⟨5, 2 + s.length, [67]⟩] := by
  obtain ⟨c, r, rfl⟩ : ∃ c r, s = c :: r := by cases s; exact absurd rfl hne; exact ⟨_, _, rfl⟩
  have hc : smallB c = true := h.2 c rfl
  have hlen : (inpN (c :: r)).length = r.length + 4 := by unfold inpN; simp
  have hl' : r.length ≤ 29 := by simpa using hl
  rw [toksS_small (by omega)]
  have o1 : oneS ((inpN (c :: r)).drop (0 + 0)) = ⟨0, 5, [65, 66], 2⟩ := by
    show oneC 65 ([66] ++ (c :: (r ++ [67]))) = _
    rw [oneC_cap _ (by decide) (by decide), show (65 :: ([66] ++ (c :: (r ++ [67]))) : List UInt8) = [65, 66] ++ (c :: (r ++ [67])) from rfl, run_app capB _ (fun x hx => by cases hx; exact small_cap hc) [65, 66] (by decide)]
    rfl
  have d2 : (inpN (c :: r)).drop 2 = (c :: r) ++ [67] := rfl
  have tw : ((c :: r) ++ [67]).takeWhile nameB9 = c :: r := run_app nameB9 [67] (fun x hx => by cases hx; rfl) (c :: r) h.1
  have o2 : oneS ((inpN (c :: r)).drop (2 + 0)) = ⟨if 20 < (c :: r).length then 6 else 0, if wordS (c :: r) then 2 else 1, c :: r, (c :: r).length⟩ := by
    show oneC c (r ++ [67]) = _
    rw [oneC_small _ hc, show (c :: (r ++ [67]) : List UInt8) = (c :: r) ++ [67] from rfl, tw]
  have g2 : gapB false ((inpN (c :: r)).drop 2) = 0 := by rw [d2]; exact gap_small (r ++ [67]) (small_name hc)
  rw [toksAt_tok (g := 0) rfl (by omega) o1 rfl (by decide)]
  show (toksAt (inpN (c :: r)) 2 1).put _ = _
  by_cases h20 : 20 < (c :: r).length
  · rw [if_pos h20, toksAt_wrong g2 (by omega) o2 (by rw [if_pos h20]; exact (show (6 : Nat) ≠ 0 by decide)), if_pos h20]
    rfl
  · rw [if_neg h20]
    have d3 : (inpN (c :: r)).drop (2 + 0 + (c :: r).length) = [67] := by
      have : inpN (c :: r) = ([65, 66] ++ (c :: r)) ++ [67] := rfl
      rw [this, show 2 + 0 + (c :: r).length = ([65, 66] ++ (c :: r)).length by rw [List.length_append]; rfl, List.drop_left]
    have o3 : oneS ((inpN (c :: r)).drop (2 + 0 + (c :: r).length + 0)) = ⟨0, 5, [67], 1⟩ := by
      rw [Nat.add_zero, d3]; rfl
    rw [toksAt_tok g2 (by omega) o2 (by rw [if_neg h20]) (by decide), toksAt_tok (g := 0) (show gapB false (List.drop (2 + 0 + (c :: r).length) (inpN (c :: r))) = 0 by rw [d3]; rfl) (show 2 + 0 + (c :: r).length + 0 < _ by rw [hlen, List.length_cons]; omega) o3 rfl (by decide), toksAt_stop _ (show _ ≤ 2 + 0 + (c :: r).length + 0 + 1 by rw [hlen, List.length_cons]; omega)]
    rfl
end Go.Proofs.Url

/- Plain: tokens are told again of their own bytes, with gaps between (LexParts). -/
namespace Go.Proofs.Url

/-- A token's own bytes. -/
def raw9 (t : Tk) : List UInt8 := if t.kind = 3 then 34 :: (t.text ++ [34]) else t.text
/-- What may stand behind a token, so that it ends there. -/
def SepHead (l : List UInt8) : Prop := ∀ x, l.head? = some x → nameB9 x = false ∧ capB x = false
/-- A token that is told again of its own bytes. -/
structure Good9 (t : Tk) : Prop where
  gap : ∀ rest, gapB false (raw9 t ++ rest) = 0
  len : 1 ≤ (raw9 t).length
  one : ∀ rest, SepHead rest → oneS (raw9 t ++ rest) = ⟨0, t.kind, t.text, (raw9 t).length⟩
theorem gap_zero {c : UInt8} (r : List UInt8) (h : blankB c = false) (h2 : ¬ c.toNat = 35) : gapB false (c :: r) = 0 := by
  rw [gapB, if_neg (by simp [h]), if_neg h2]
theorem takeWhile_mem {f : UInt8 → Bool} : ∀ {l : List UInt8} {x : UInt8}, x ∈ l.takeWhile f → f x = true
  | [], _, h => by simp at h
  | y :: l, x, h => by
    rw [List.takeWhile_cons] at h
    by_cases hy : f y = true
    · rw [if_pos hy, List.mem_cons] at h
      rcases h with rfl | h
      · exact hy
      · exact takeWhile_mem h
    · rw [if_neg hy] at h; simp at h
theorem good_of {c : UInt8} {r : List UInt8} (p : Nat) (h : (oneC c r).code = 0) : Good9 ⟨(oneC c r).kind, p, (oneC c r).text⟩ ∧ raw9 ⟨(oneC c r).kind, p, (oneC c r).text⟩ <+: c :: r ∧ (raw9 ⟨(oneC c r).kind, p, (oneC c r).text⟩).length = (oneC c r).len := by
  cases h1 : smallB c with
  | true =>
    rw [oneC_small r h1] at h ⊢
    simp only at h ⊢
    obtain ⟨T, hT⟩ : ∃ T, T = (c :: r).takeWhile nameB9 := ⟨_, rfl⟩
    rw [← hT] at h ⊢
    have hc : T = c :: r.takeWhile nameB9 := by rw [hT, List.takeWhile_cons, if_pos (small_name h1)]
    have hall : ∀ x ∈ T, nameB9 x = true := fun x hx => by rw [hT] at hx; exact takeWhile_mem hx
    have h20 : ¬ 20 < T.length := by intro e; rw [if_pos e] at h; cases h
    have hk : (if wordS T then 2 else 1) ≠ 3 := by split <;> decide
    have hr : raw9 ⟨if wordS T then 2 else 1, p, T⟩ = T := by unfold raw9; exact if_neg hk
    refine ⟨⟨fun rest => ?_, ?_, fun rest hs => ?_⟩, ?_, ?_⟩
    · rw [hr, hc]; exact gap_small _ (small_name h1)
    · rw [hr, hc]; simp
    · rw [hr]
      have ht : (T ++ rest).takeWhile nameB9 = T := run_app nameB9 rest (fun x hx => (hs x hx).1) T hall
      have hcons : T ++ rest = c :: (r.takeWhile nameB9 ++ rest) := by rw [hc]; rfl
      rw [hcons]
      show oneC c _ = _
      rw [oneC_small _ h1, ← hcons, ht, if_neg h20]
    · rw [hr, hT]; exact List.takeWhile_prefix _
    · rw [hr]
  | false =>
    cases h2 : capB c with
    | true =>
      rw [oneC_cap r h1 h2] at h ⊢
      simp only at h ⊢
      obtain ⟨T, hT⟩ : ∃ T, T = (c :: r).takeWhile capB := ⟨_, rfl⟩
      rw [← hT] at h ⊢
      have hc : T = c :: r.takeWhile capB := by rw [hT, List.takeWhile_cons, if_pos h2]
      have hall : ∀ x ∈ T, capB x = true := fun x hx => by rw [hT] at hx; exact takeWhile_mem hx
      have h20 : ¬ 20 < T.length := by intro e; rw [if_pos e] at h; cases h
      have hr : raw9 ⟨5, p, T⟩ = T := rfl
      have hcn : 65 ≤ c.toNat ∧ c.toNat ≤ 90 := by unfold capB at h2; simpa using h2
      refine ⟨⟨fun rest => ?_, ?_, fun rest hs => ?_⟩, ?_, ?_⟩
      · rw [hr, hc]; exact gap_zero _ (by unfold blankB; simp; omega) (by omega)
      · rw [hr, hc]; simp
      · rw [hr]
        have ht : (T ++ rest).takeWhile capB = T := run_app capB rest (fun x hx => (hs x hx).2) T hall
        have hcons : T ++ rest = c :: (r.takeWhile capB ++ rest) := by rw [hc]; rfl
        rw [hcons]
        show oneC c _ = _
        rw [oneC_cap _ h1 h2, ← hcons, ht, if_neg h20]
      · rw [hr, hT]; exact List.takeWhile_prefix _
      · rw [hr]
    | false =>
      by_cases h3 : c.toNat = 34
      · by_cases hq : r[(r.takeWhile textB).length]? = some 34
        · rw [oneC_text r h1 h2 h3 hq] at h ⊢
          simp only at h ⊢
          obtain ⟨T, hT⟩ : ∃ T, T = r.takeWhile textB := ⟨_, rfl⟩
          rw [← hT] at h hq ⊢
          have hall : ∀ x ∈ T, textB x = true := fun x hx => by rw [hT] at hx; exact takeWhile_mem hx
          have h200 : ¬ 200 < T.length := by intro e; rw [if_pos e] at h; cases h
          have hr : raw9 ⟨3, p, T⟩ = 34 :: (T ++ [34]) := rfl
          have hc34 : c = 34 := UInt8.toNat_inj.1 h3
          refine ⟨⟨fun rest => ?_, ?_, fun rest hs => ?_⟩, ?_, ?_⟩
          · rw [hr]; exact gap_zero _ (by decide) (by decide)
          · rw [hr]; simp
          · rw [hr]
            show oneC 34 ((T ++ [34]) ++ rest) = _
            have e : (T ++ [34]) ++ rest = T ++ 34 :: rest := by simp
            have ht : (T ++ 34 :: rest).takeWhile textB = T := run_app textB (34 :: rest) (fun x hx => by cases hx; rfl) T hall
            rw [e, oneC_text _ (by decide) (by decide) (by decide) (by rw [ht]; simp), ht, if_neg h200]
            simp
          · rw [hr, hc34]
            obtain ⟨q, hq2⟩ := List.takeWhile_prefix textB (l := r)
            rw [← hT] at hq2
            rw [← hq2, List.getElem?_append_right (Nat.le_refl _), Nat.sub_self] at hq
            cases q with
            | nil => cases hq
            | cons y q =>
              have : y = 34 := by simpa using hq
              rw [← hq2, this]
              exact ⟨q, by simp⟩
          · rw [hr]; simp
        · rw [oneC_open r h1 h2 h3 hq] at h; cases h
      · cases h4 : signB c with
        | true =>
          rw [oneC_sign r h1 h2 h3 h4]
          have hv : c.toNat = 123 ∨ c.toNat = 125 ∨ c.toNat = 40 ∨ c.toNat = 41 ∨ c.toNat = 59 ∨ c.toNat = 61 := by unfold signB at h4; simpa using h4
          refine ⟨⟨fun rest => ?_, ?_, fun rest hs => ?_⟩, ?_, ?_⟩
          · exact gap_zero _ (by unfold blankB; simp; omega) (by omega)
          · exact Nat.le_refl _
          · show oneC c rest = _
            rw [oneC_sign rest h1 h2 h3 h4]; rfl
          · exact ⟨r, rfl⟩
          · rfl
        | false => rw [oneC_none r h1 h2 h3 h4] at h; cases h
/-- Tokens one behind the other, in a text. -/
def Chain (s : List UInt8) : Nat → List Tk → Prop
  | _, [] => True
  | pos, t :: ts => pos ≤ t.at' ∧ raw9 t <+: s.drop t.at' ∧ Good9 t ∧ Chain s (t.at' + (raw9 t).length) ts
theorem chain_of (s : List UInt8) : ∀ (f pos n : Nat) (ts : List Tk), toksF f pos (s.drop pos) n = .ok ts → Chain s pos ts
  | 0, _, _, ts, h => by cases h; trivial
  | f + 1, pos, n, ts, h => by
    rw [toksF_succ] at h
    by_cases h1 : ((s.drop pos).drop (gapB false (s.drop pos))).isEmpty
    · rw [if_pos h1] at h; cases h; trivial
    · rw [if_neg h1] at h
      by_cases h2 : (oneS ((s.drop pos).drop (gapB false (s.drop pos)))).code ≠ 0
      · rw [if_pos h2] at h; cases h
      · rw [if_neg h2] at h
        by_cases h3 : n = 2000
        · rw [if_pos h3] at h; cases h
        · rw [if_neg h3] at h
          rw [List.drop_drop] at h h1 h2
          obtain ⟨q, hq⟩ : ∃ q, q = pos + gapB false (s.drop pos) := ⟨_, rfl⟩
          rw [← hq] at h h1 h2
          have hpq : pos ≤ q := by omega
          clear hq
          cases hd : s.drop q with
          | nil => rw [hd] at h1; exact absurd rfl h1
          | cons c r =>
            have hdr : (c :: r).drop (oneS (c :: r)).len = s.drop (q + (oneS (c :: r)).len) := by rw [← hd, List.drop_drop]
            rw [hd] at h h2
            have hc : (oneC c r).code = 0 := Decidable.not_not.1 h2
            obtain ⟨g1, g2, g3⟩ := good_of q hc
            rw [hdr] at h
            cases hr : toksF f (q + (oneS (c :: r)).len) (s.drop (q + (oneS (c :: r)).len)) (n + 1) with
            | bad c' p' => rw [hr] at h; cases h
            | ok us =>
              rw [hr] at h
              simp only [Toks.put, Toks.ok.injEq, List.singleton_append] at h
              rw [← h]
              have ih := chain_of s f _ _ us hr
              exact ⟨hpq, by rw [hd]; exact g2, g1, by rw [show (raw9 ⟨(oneS (c :: r)).kind, q, (oneS (c :: r)).text⟩).length = (oneS (c :: r)).len from g3]; exact ih⟩

def seps9 : List (List UInt8) := [[32], [10], [35, 32, 120, 32, 34, 32, 123, 10], [9, 13]]
/-- Tokens, a gap ahead of each. -/
def allP (ps : List (Nat × Tk)) : List UInt8 := ps.flatMap (fun p => seps9.getD p.1 [] ++ raw9 p.2)
theorem allP_next (ps : List (Nat × Tk)) (r : Nat) (t : Tk) : allP (ps ++ [(r, t)]) = allP ps ++ seps9.getD r [] ++ raw9 t := by
  unfold allP; rw [List.flatMap_append]; simp
theorem sep_gap (r : Fin 4) (rest : List UInt8) : gapB false (seps9.getD r [] ++ rest) = (seps9.getD r []).length + gapB false rest := by
  match r with
  | 0 => rfl
  | 1 => rfl
  | 2 => show 1 + (1 + (1 + (1 + (1 + (1 + (1 + (1 + gapB false rest))))))) = 8 + _; omega
  | 3 => show 1 + (1 + gapB false rest) = 2 + _; omega
theorem sep_head (r : Fin 4) (rest : List UInt8) : SepHead (seps9.getD r [] ++ rest) := by
  intro x h
  match r with
  | 0 => cases h; exact ⟨rfl, rfl⟩
  | 1 => cases h; exact ⟨rfl, rfl⟩
  | 2 => cases h; exact ⟨rfl, rfl⟩
  | 3 => cases h; exact ⟨rfl, rfl⟩
theorem allP_head : ∀ ps : List (Nat × Tk), (∀ p ∈ ps, p.1 < 4) → SepHead (allP ps)
  | [], _ => fun x h => by cases h
  | p :: ps, h => by
    have : allP (p :: ps) = seps9.getD p.1 [] ++ (raw9 p.2 ++ allP ps) := by unfold allP; rw [List.flatMap_cons, List.append_assoc]
    rw [this]
    exact sep_head ⟨p.1, h p (List.mem_cons_self ..)⟩ _
/-- The kind and the text. -/
def kt (t : Tk) : Nat × List UInt8 := (t.kind, t.text)
theorem retok : ∀ (ps : List (Nat × Tk)), (∀ p ∈ ps, p.1 < 4 ∧ Good9 p.2) → ∀ (f pos n : Nat), (allP ps).length < f → n + ps.length ≤ 2000 → ∃ us, toksF f pos (allP ps) n = .ok us ∧ us.map kt = ps.map (fun p => kt p.2)
  | _, _, 0, _, _, hf, _ => absurd hf (Nat.not_lt_zero _)
  | [], _, f + 1, pos, n, _, _ => ⟨[], rfl, rfl⟩
  | p :: ps, h, f + 1, pos, n, hf, hn => by
    obtain ⟨h4, hg⟩ := h p (List.mem_cons_self ..)
    have hrest := fun q hq => h q (List.mem_cons_of_mem p hq)
    have e : allP (p :: ps) = seps9.getD p.1 [] ++ (raw9 p.2 ++ allP ps) := by unfold allP; rw [List.flatMap_cons, List.append_assoc]
    have hgap : gapB false (allP (p :: ps)) = (seps9.getD p.1 []).length := by rw [e, sep_gap ⟨p.1, h4⟩, hg.gap]; rfl
    have hd : (allP (p :: ps)).drop (gapB false (allP (p :: ps))) = raw9 p.2 ++ allP ps := by rw [hgap, e, List.drop_left]
    have ho := hg.one (allP ps) (allP_head ps (fun q hq => (hrest q hq).1))
    have hne : (raw9 p.2 ++ allP ps).isEmpty = false := by
      have := hg.len
      cases hr : raw9 p.2 with
      | nil => rw [hr] at this; simp at this
      | cons y ys => rfl
    have hlen : (allP (p :: ps)).length = (seps9.getD p.1 []).length + ((raw9 p.2).length + (allP ps).length) := by rw [e, List.length_append, List.length_append]
    simp only [List.length_cons] at hn
    obtain ⟨us, hu, hk⟩ := retok ps hrest f (pos + gapB false (allP (p :: ps)) + (raw9 p.2).length) (n + 1) (by have := hg.len; omega) (by omega)
    refine ⟨⟨p.2.kind, pos + gapB false (allP (p :: ps)), p.2.text⟩ :: us, ?_, ?_⟩
    · rw [toksF_succ, hd, if_neg (by rw [hne]; decide), ho, if_neg (fun h => h rfl), if_neg (by omega)]
      simp only
      rw [List.drop_left, hu]
      rfl
    · rw [List.map_cons, List.map_cons, hk]; rfl
theorem toksS_retok {ps : List (Nat × Tk)} (h : ∀ p ∈ ps, p.1 < 4 ∧ Good9 p.2) (hl : (allP ps).length ≤ 8000) (hn : ps.length ≤ 2000) : ∃ us, toksS (allP ps) = .ok us ∧ us.map kt = ps.map (fun p => kt p.2) := by
  rw [toksS_small hl]
  unfold toksAt
  rw [List.drop_zero]
  exact retok ps h _ _ _ (by omega) (by omega)
theorem toksS_badc {s : List UInt8} {c p : Nat} (h : toksS s = .bad c p) : c ≠ 0 := by
  unfold toksS at h
  split at h
  · simp only [Toks.bad.injEq] at h; omega
  · exact (toksF_badpos _ _ _ _ _ _ h).2
theorem chain_start {s : List UInt8} {ts : List Tk} (h : toksS s = .ok ts) : Chain s 0 ts := by
  unfold toksS at h
  split at h
  · cases h
  · exact chain_of s _ 0 0 ts (by rw [List.drop_zero]; exact h)
theorem chain_at {s : List UInt8} {pos k : Nat} {ts : List Tk} (hk : k < ts.length) (h : Chain s pos (ts.drop k)) :
    pos ≤ ts[k].at' ∧ raw9 ts[k] <+: s.drop ts[k].at' ∧ Good9 ts[k] ∧ ts[k].at' + (raw9 ts[k]).length ≤ s.length ∧ Chain s (ts[k].at' + (raw9 ts[k]).length) (ts.drop (k + 1)) := by
  rw [List.drop_eq_getElem_cons hk] at h
  obtain ⟨h1, h2, h3, h4⟩ := h
  refine ⟨h1, h2, h3, ?_, h4⟩
  have a := h2.length_le
  have b := h3.len
  rw [List.length_drop] at a
  omega
end Go.Proofs.Url

/- Plain: tokens of two texts one behind the other, a line's end between (SynJoins). -/
namespace Go.Proofs.Url
open Syn
/-- A token elsewhere; what is none stays as it is. -/

def shT (d : Nat → Nat) (t : Tk) : Tk := if t.kind = 0 then t else ⟨t.kind, d t.at', t.text⟩
theorem take_nl {f : UInt8 → Bool} (h : f 10 = false) (R : List UInt8) : ∀ l : List UInt8, (l ++ 10 :: R).takeWhile f = l.takeWhile f
  | [] => by rw [List.nil_append, List.takeWhile_cons, h]; rfl
  | x :: l => by
    rw [List.cons_append, List.takeWhile_cons, List.takeWhile_cons, take_nl h R l]
theorem oneC_nl (c : UInt8) (r R : List UInt8) (h : (oneC c r).code = 0) : oneC c (r ++ 10 :: R) = oneC c r := by
  have e1 := take_nl (f := nameB9) rfl R (c :: r)
  have e2 := take_nl (f := capB) rfl R (c :: r)
  have e3 := take_nl (f := textB) rfl R r
  rw [List.cons_append] at e1 e2
  cases h1 : smallB c with
  | true => rw [oneC_small _ h1, oneC_small _ h1, e1]
  | false =>
    cases h2 : capB c with
    | true => rw [oneC_cap _ h1 h2, oneC_cap _ h1 h2, e2]
    | false =>
      by_cases h3 : c.toNat = 34
      · by_cases hq : r[(r.takeWhile textB).length]? = some 34
        · have hl : (r.takeWhile textB).length < r.length := by
            rcases Nat.lt_or_ge (r.takeWhile textB).length r.length with h | h
            · exact h
            · rw [List.getElem?_eq_none h] at hq; cases hq
          rw [oneC_text r h1 h2 h3 hq, oneC_text _ h1 h2 h3 (by rw [e3, List.getElem?_append_left hl]; exact hq), e3]
        · rw [oneC_open r h1 h2 h3 hq] at h; cases h
      · cases h4 : signB c with
        | true => rw [oneC_sign _ h1 h2 h3 h4, oneC_sign _ h1 h2 h3 h4]
        | false => rw [oneC_none r h1 h2 h3 h4] at h; cases h
theorem oneC_kind (c : UInt8) (r : List UInt8) (h : (oneC c r).code = 0) : (oneC c r).kind ≠ 0 := by
  cases h1 : smallB c with
  | true => rw [oneC_small _ h1]; show (if _ then 2 else 1) ≠ 0; split <;> decide
  | false =>
    cases h2 : capB c with
    | true => rw [oneC_cap _ h1 h2]; exact (by decide : (5 : Nat) ≠ 0)
    | false =>
      by_cases h3 : c.toNat = 34
      · by_cases hq : r[(r.takeWhile textB).length]? = some 34
        · rw [oneC_text r h1 h2 h3 hq]; exact (by decide : (3 : Nat) ≠ 0)
        · rw [oneC_open r h1 h2 h3 hq] at h; cases h
      · cases h4 : signB c with
        | true => rw [oneC_sign _ h1 h2 h3 h4]; exact (by decide : (4 : Nat) ≠ 0)
        | false => rw [oneC_none r h1 h2 h3 h4] at h; cases h
/-- A gap that runs to the end runs on behind a line's end. -/
theorem gap_nl (R : List UInt8) : ∀ (b : Bool) (l : List UInt8), gapB b l = l.length → gapB b (l ++ 10 :: R) = l.length + 1 + gapB false R
  | true, [], _ => by show 1 + gapB false R = 0 + 1 + _; omega
  | false, [], _ => by show 1 + gapB false R = 0 + 1 + _; omega
  | true, c :: r, h => by
    rw [List.cons_append, gapB]
    rw [gapB, List.length_cons] at h
    by_cases h1 : c.toNat = 10
    · rw [if_pos h1] at h ⊢
      rw [gap_nl R false r (by omega), List.length_cons]; omega
    · rw [if_neg h1] at h ⊢
      rw [gap_nl R true r (by omega), List.length_cons]; omega
  | false, c :: r, h => by
    rw [List.cons_append, gapB]
    rw [gapB, List.length_cons] at h
    by_cases h1 : blankB c
    · rw [if_pos h1] at h ⊢
      rw [gap_nl R false r (by omega), List.length_cons]; omega
    · rw [if_neg h1] at h ⊢
      by_cases h2 : c.toNat = 35
      · rw [if_pos h2] at h ⊢
        rw [gap_nl R true r (by omega), List.length_cons]; omega
      · rw [if_neg h2] at h; omega
theorem gap_in (X : List UInt8) : ∀ (b : Bool) (l : List UInt8), gapB b l < l.length → gapB b (l ++ X) = gapB b l
  | true, [], h => absurd h (by simp)
  | false, [], h => absurd h (by simp)
  | true, c :: r, h => by
    rw [List.cons_append, gapB, gapB]
    rw [gapB, List.length_cons] at h
    by_cases h1 : c.toNat = 10
    · rw [if_pos h1] at h
      rw [if_pos h1, if_pos h1, gap_in X false r (by omega)]
    · rw [if_neg h1] at h
      rw [if_neg h1, if_neg h1, gap_in X true r (by omega)]
  | false, c :: r, h => by
    rw [List.cons_append, gapB, gapB]
    rw [gapB, List.length_cons] at h
    by_cases h1 : blankB c
    · rw [if_pos h1] at h
      rw [if_pos h1, if_pos h1, gap_in X false r (by omega)]
    · rw [if_neg h1] at h
      rw [if_neg h1, if_neg h1]
      by_cases h2 : c.toNat = 35
      · rw [if_pos h2] at h
        rw [if_pos h2, if_pos h2, gap_in X true r (by omega)]
      · rw [if_neg h2, if_neg h2]
/-- A gap ahead changes where it begins alone. -/
theorem toksF_gap (f pos m : Nat) (L R : List UInt8) (n : Nat) (hg : gapB false L = m + gapB false R) (hd : L.drop m = R) : toksF (f + 1) pos L n = toksF (f + 1) (pos + m) R n := by
  have e : L.drop (gapB false L) = R.drop (gapB false R) := by rw [hg, ← List.drop_drop, hd]
  have e2 : pos + gapB false L = pos + m + gapB false R := by omega
  rw [toksF_succ, toksF_succ, e, e2]
/-- Tokens of a text, then those of what stands behind a line's end. -/
theorem toksF_nl (R : List UInt8) : ∀ (f pos : Nat) (l : List UInt8) (n : Nat) (ts : List Tk), toksF f pos l n = .ok ts → l.length < f → ∀ F G, (l ++ 10 :: R).length < F → R.length < G → toksF F pos (l ++ 10 :: R) n = (toksF G (pos + l.length + 1) R (n + ts.length)).put ts
  | 0, _, _, _, _, _, hf, _, _, _, _ => absurd hf (Nat.not_lt_zero _)
  | f + 1, pos, l, n, ts, h, hf, F, G, hF, hG => by
    obtain ⟨F, rfl⟩ : ∃ k, F = k + 1 := ⟨F - 1, by omega⟩
    have hle := gapB_le false l
    rw [List.length_append, List.length_cons] at hF
    rw [toksF_succ] at h
    cases hd : l.drop (gapB false l) with
    | nil =>
      rw [hd, if_pos (by rfl)] at h
      cases h
      have hk : gapB false l = l.length := by
        have := congrArg List.length hd
        rw [List.length_drop, List.length_nil] at this; omega
      have hg := gap_nl R false l hk
      have hdr : (l ++ 10 :: R).drop (l.length + 1) = R := by rw [← List.drop_drop, List.drop_left]; rfl
      rw [toksF_gap F pos (l.length + 1) _ R n hg hdr, put_nil]
      exact toksF_any _ R _ (by omega) hG
    | cons c r =>
      have hlr := congrArg List.length hd
      rw [List.length_drop, List.length_cons] at hlr
      have hk : gapB false l < l.length := by omega
      have hg := gap_in (10 :: R) false l hk
      have hdr : (l ++ 10 :: R).drop (gapB false l) = c :: (r ++ 10 :: R) := by rw [List.drop_append_of_le_length hle, hd]; rfl
      rw [hd, if_neg (by simp)] at h
      by_cases h2 : (oneS (c :: r)).code ≠ 0
      · rw [if_pos h2] at h; cases h
      · rw [if_neg h2] at h
        have hc : (oneC c r).code = 0 := Decidable.not_not.1 h2
        have ho : oneS (c :: (r ++ 10 :: R)) = oneS (c :: r) := oneC_nl c r R hc
        obtain ⟨hl1, hl2⟩ := oneC_len c r hc
        by_cases h3 : n = 2000
        · rw [if_pos h3] at h; cases h
        · rw [if_neg h3] at h
          have hdl : (c :: (r ++ 10 :: R)).drop (oneS (c :: r)).len = (c :: r).drop (oneS (c :: r)).len ++ 10 :: R := by
            rw [← List.cons_append]; exact List.drop_append_of_le_length (show (oneC c r).len ≤ _ from hl2)
          rw [toksF_succ, hg, hdr, if_neg (by simp), ho, if_neg h2, if_neg h3, hdl]
          cases hr : toksF f (pos + gapB false l + (oneS (c :: r)).len) ((c :: r).drop (oneS (c :: r)).len) (n + 1) with
          | bad c' p' => rw [hr] at h; cases h
          | ok us =>
            rw [hr] at h
            simp only [Toks.put, Toks.ok.injEq] at h
            have hlen : ((c :: r).drop (oneS (c :: r)).len).length = l.length - gapB false l - (oneC c r).len := by rw [List.length_drop, List.length_cons]; show r.length + 1 - (oneC c r).len = _; omega
            have ih := toksF_nl R f _ _ _ us hr (by omega) F G (by rw [List.length_append, List.length_cons]; omega) hG
            rw [ih, put_put, h, hlen, ← h, List.length_append, List.length_singleton]
            congr 2
            · show pos + gapB false l + (oneC c r).len + _ + 1 = _; omega
            · omega
def Toks.sh (d : Nat) : Toks → Toks
  | .ok us => .ok (us.map (shT fun p => p + d))
  | .bad c p => .bad c (p + d)
theorem toksF_sh (d : Nat) : ∀ (f pos : Nat) (l : List UInt8) (n : Nat), toksF f (pos + d) l n = (toksF f pos l n).sh d
  | 0, _, _, _ => rfl
  | f + 1, pos, l, n => by
    rw [toksF_succ, toksF_succ]
    cases hd : l.drop (gapB false l) with
    | nil => rfl
    | cons c r =>
      have h1 : ¬ ((c :: r).isEmpty = true) := by simp
      rw [if_neg h1, if_neg h1]
      by_cases h2 : (oneS (c :: r)).code ≠ 0
      · rw [if_pos h2, if_pos h2]
        show Toks.bad _ _ = Toks.bad _ _
        congr 1; omega
      · rw [if_neg h2, if_neg h2]
        by_cases h3 : n = 2000
        · rw [if_pos h3, if_pos h3]
          show Toks.bad _ _ = Toks.bad _ _
          congr 1; omega
        · rw [if_neg h3, if_neg h3, show pos + d + gapB false l + (oneS (c :: r)).len = pos + gapB false l + (oneS (c :: r)).len + d by omega, toksF_sh d f]
          have hk := oneC_kind c r (Decidable.not_not.1 h2)
          cases toksF f (pos + gapB false l + (oneS (c :: r)).len) ((c :: r).drop (oneS (c :: r)).len) (n + 1) with
          | bad c' p' => rfl
          | ok us =>
            show Toks.ok (_ :: _) = Toks.ok (shT (fun p => p + d) _ :: _)
            unfold shT
            rw [if_neg (show (oneS (c :: r)).kind ≠ 0 from hk)]
            show Toks.ok _ = Toks.ok _
            congr 3
            show pos + d + gapB false l = pos + gapB false l + d; omega
theorem toksF_from : ∀ (f pos : Nat) (l : List UInt8) (n m : Nat) (us : List Tk), toksF f pos l n = .ok us → m + us.length ≤ 2000 → toksF f pos l m = .ok us
  | 0, _, _, _, _, _, h, _ => h
  | f + 1, pos, l, n, m, us, h, hm => by
    rw [toksF_succ] at h ⊢
    by_cases h1 : (l.drop (gapB false l)).isEmpty
    · rw [if_pos h1] at h ⊢; exact h
    · rw [if_neg h1] at h ⊢
      by_cases h2 : (oneS (l.drop (gapB false l))).code ≠ 0
      · rw [if_pos h2] at h; cases h
      · rw [if_neg h2] at h ⊢
        by_cases h3 : n = 2000
        · rw [if_pos h3] at h; cases h
        · rw [if_neg h3] at h
          cases hr : toksF f (pos + gapB false l + (oneS (l.drop (gapB false l))).len) ((l.drop (gapB false l)).drop (oneS (l.drop (gapB false l))).len) (n + 1) with
          | bad c' p' => rw [hr] at h; cases h
          | ok vs =>
            rw [hr] at h
            simp only [Toks.put, Toks.ok.injEq] at h
            rw [← h, List.length_append, List.length_singleton] at hm
            rw [if_neg (by omega), toksF_from f _ _ _ (m + 1) vs hr (by omega)]
            exact congrArg Toks.ok h
theorem toksF_few : ∀ (f pos : Nat) (l : List UInt8) (n : Nat) (us : List Tk), toksF f pos l n = .ok us → us.length ≤ l.length
  | 0, _, _, _, _, h => by cases h; exact Nat.zero_le _
  | f + 1, pos, l, n, us, h => by
    rw [toksF_succ] at h
    by_cases h1 : (l.drop (gapB false l)).isEmpty
    · rw [if_pos h1] at h; cases h; exact Nat.zero_le _
    · rw [if_neg h1] at h
      by_cases h2 : (oneS (l.drop (gapB false l))).code ≠ 0
      · rw [if_pos h2] at h; cases h
      · rw [if_neg h2] at h
        by_cases h3 : n = 2000
        · rw [if_pos h3] at h; cases h
        · rw [if_neg h3] at h
          have h4 := one_len (Decidable.not_not.1 h2)
          cases hr : toksF f (pos + gapB false l + (oneS (l.drop (gapB false l))).len) ((l.drop (gapB false l)).drop (oneS (l.drop (gapB false l))).len) (n + 1) with
          | bad c' p' => rw [hr] at h; cases h
          | ok vs =>
            rw [hr] at h
            simp only [Toks.put, Toks.ok.injEq] at h
            have ih := toksF_few f _ _ _ vs hr
            rw [← h, List.length_append, List.length_singleton]
            rw [List.length_drop, List.length_drop] at ih
            rw [List.length_drop] at h4
            omega
/-- Tokens of two texts one behind the other. -/
theorem toksS_join {s t : List UInt8} {ts us : List Tk} (hs : s.length ≤ 900) (ht : t.length ≤ 900) (h1 : toksS s = .ok ts) (h2 : toksS t = .ok us) : toksS (s ++ 10 :: t) = .ok (ts ++ us.map (shT fun p => p + (s.length + 1))) := by
  unfold toksS at *
  rw [if_neg (by omega)] at h1 h2
  rw [if_neg (by rw [List.length_append, List.length_cons]; omega)]
  have l1 := toksF_few _ _ _ _ _ h1
  have l2 := toksF_few _ _ _ _ _ h2
  rw [toksF_nl t _ 0 s 0 ts h1 (by omega) _ (t.length + 1) (by omega) (by omega)]
  have h3 := toksF_from _ _ _ _ (0 + ts.length) us h2 (by omega)
  have h4 := toksF_sh (s.length + 1) (t.length + 1) 0 t (0 + ts.length)
  rw [h3] at h4
  rw [show 0 + s.length + 1 = 0 + (s.length + 1) by omega, h4]
  rfl
end Go.Proofs.Url

/- Plain: an item's reading some places further on (SynJoins). -/
namespace Go.Proofs.Url
open Syn
theorem shT_kind (d : Nat → Nat) (t : Tk) : (shT d t).kind = t.kind := by unfold shT; split <;> rfl
theorem shT_text (d : Nat → Nat) (t : Tk) : (shT d t).text = t.text := by unfold shT; split <;> rfl
theorem shT_at (d : Nat → Nat) {t : Tk} (h : t.kind ≠ 0) : (shT d t).at' = d t.at' := by unfold shT; rw [if_neg h]
theorem shT_zero (d : Nat → Nat) : shT d zeroT = zeroT := rfl
def shF (d : Nat → Nat) : Fm → Fm
  | .un k nm p => .un k nm (d p)
  | .no a => .no (shF d a)
  | .both k a b => .both k (shF d a) (shF d b)
def shA (d : Nat → Nat) (a : Atr) : Atr := ⟨a.k, d a.at', shT d a.t⟩
def shI (d : Nat → Nat) (x : Itm) : Itm := ⟨x.k, d x.at', shT d x.name, shT d x.whr, shT d x.caps, shT d x.txt, x.attrs.map (shA d), x.f.map (shF d)⟩
def Rd.sh {α : Type} (d : Nat → Nat) (f : α → α) : Rd α → Rd α
  | .ok a r => .ok (f a) (r.map (shT d))
  | .bad r => .bad (r.map (shT d))
theorem sh_map {α β : Type} {d : Nat → Nat} {f : α → α} {g : β → β} (x : Rd α) (h k : α → β) (e : ∀ a, k (f a) = g (h a)) : (x.sh d f).map k = (x.map h).sh d g := by
  cases x with
  | ok a r => show Rd.ok (k (f a)) _ = Rd.ok (g (h a)) _; rw [e]
  | bad r => rfl
theorem sh_then {α β : Type} {d : Nat → Nat} {f : α → α} {g : β → β} (x : Rd α) (h k : α → List Tk → Rd β) (e : ∀ a r, x = .ok a r → k (f a) (r.map (shT d)) = (h a r).sh d g) : (x.sh d f).then k = (x.then h).sh d g := by
  cases x with
  | ok a r => exact e a r rfl
  | bad r => rfl
theorem isT_sh (d : Nat → Nat) (s : List UInt8) (ts : List Tk) : isT s (ts.map (shT d)) = isT s ts := by
  cases ts with
  | nil => rfl
  | cons t r => show ((_ == 4 || _ == 2) && _ == s) = _; rw [shT_kind, shT_text]; rfl
theorem any_sh (d : Nat → Nat) (ws : List (List UInt8)) (ts : List Tk) : (ws.any fun w => isT w (ts.map (shT d))) = ws.any fun w => isT w ts := by
  congr 1; funext w; exact isT_sh d w ts
theorem word5_sh (d : Nat → Nat) (ts : List Tk) : word5 (ts.map (shT d)) = word5 ts := any_sh d _ ts
theorem tail_sh (d : Nat → Nat) (ts : List Tk) : (ts.map (shT d)).tail = ts.tail.map (shT d) := List.map_tail.symm
theorem headText_sh (d : Nat → Nat) (ts : List Tk) : headText (ts.map (shT d)) = headText ts := by
  cases ts with
  | nil => rfl
  | cons t r => exact shT_text d t
theorem headAt_sh (d : Nat → Nat) {s : List UInt8} {ts : List Tk} (h : isT s ts = true) : headAt (ts.map (shT d)) = d (headAt ts) := by
  cases ts with
  | nil => cases h
  | cons t r =>
    refine shT_at d fun e => ?_
    have h2 : ((t.kind == 4 || t.kind == 2) && t.text == s) = true := h
    rw [e] at h2; cases h2
theorem any_isT {ws : List (List UInt8)} {ts : List Tk} (h : (ws.any fun w => isT w ts) = true) : ∃ w, isT w ts = true := by
  obtain ⟨w, _, h⟩ := List.any_eq_true.1 h; exact ⟨w, h⟩
theorem kindR_sh (d : Nat → Nat) (k : Nat) (ts : List Tk) : kindR k (ts.map (shT d)) = (kindR k ts).sh d (shT d) := by
  cases ts with
  | nil => rfl
  | cons t r =>
    show (if (shT d t).kind = k then Rd.ok (shT d t) (r.map (shT d)) else Rd.bad (shT d t :: r.map (shT d))) = _
    rw [shT_kind]
    show _ = (if t.kind = k then Rd.ok t r else Rd.bad (t :: r)).sh d (shT d)
    split <;> rfl
theorem kindR_kind {k : Nat} {ts r : List Tk} {t : Tk} (h : kindR k ts = .ok t r) : t.kind = k := by
  cases ts with
  | nil => cases h
  | cons u q =>
    by_cases hk : u.kind = k
    · rw [kindR, if_pos hk] at h; cases h; exact hk
    · rw [kindR, if_neg hk] at h; cases h
theorem needR_sh (d : Nat → Nat) (s : List UInt8) (ts : List Tk) : needR s (ts.map (shT d)) = (needR s ts).sh d id := by
  unfold needR
  rw [isT_sh, tail_sh]
  split <;> rfl
/-- The five readers of a formula, some places further on. -/
theorem form_sh (d : Nat → Nat) : ∀ n, (∀ ts, facF n (ts.map (shT d)) = (facF n ts).sh d (shF d)) ∧ (∀ ts, terF n (ts.map (shT d)) = (terF n ts).sh d (shF d)) ∧ (∀ a ts, terL n (shF d a) (ts.map (shT d)) = (terL n a ts).sh d (shF d)) ∧ (∀ ts, forF n (ts.map (shT d)) = (forF n ts).sh d (shF d)) ∧ (∀ a ts, forL n (shF d a) (ts.map (shT d)) = (forL n a ts).sh d (shF d))
  | 0 => ⟨fun _ => by simp only [facF]; rfl, fun _ => by simp only [terF]; rfl, fun _ _ => by simp only [terL]; rfl, fun _ => by simp only [forF]; rfl, fun _ _ => by simp only [forL]; rfl⟩
  | n + 1 => by
    obtain ⟨h1, h2, h3, h4, h5⟩ := form_sh d n
    refine ⟨fun ts => ?_, fun ts => ?_, fun a ts => ?_, fun ts => ?_, fun a ts => ?_⟩
    · simp only [facF]
      rw [isT_sh, isT_sh, word5_sh, tail_sh, h1, h4, kindR_sh, headText_sh]
      split
      · exact sh_map _ _ _ fun _ => rfl
      · split
        · refine sh_then _ _ _ fun a r _ => ?_
          rw [needR_sh]
          exact sh_map _ _ _ fun _ => rfl
        · split
          · cases hk : kindR 1 ts.tail with
            | bad r => rfl
            | ok t r =>
              show Rd.ok (Fm.un _ (shT d t).text (shT d t).at') _ = Rd.ok (Fm.un _ t.text (d t.at')) _
              rw [shT_text, shT_at d (by rw [kindR_kind hk]; decide)]
          · rfl
    · simp only [terF]
      rw [h1]
      exact sh_then _ _ _ fun a r _ => h3 a r
    · simp only [terL]
      rw [isT_sh, tail_sh, h1]
      split
      · exact sh_then _ _ _ fun b r _ => h3 (.both w_and_ a b) r
      · rfl
    · simp only [forF]
      rw [h2]
      exact sh_then _ _ _ fun a r _ => h5 a r
    · simp only [forL]
      rw [isT_sh, tail_sh, h2]
      split
      · exact sh_then _ _ _ fun b r _ => h5 (.both w_or_ a b) r
      · rfl
theorem forS_sh (d : Nat → Nat) (ts : List Tk) : forS (ts.map (shT d)) = (forS ts).sh d (shF d) := by
  unfold forS; rw [List.length_map]; exact (form_sh d _).2.2.2.1 ts
theorem attrR_sh (d : Nat → Nat) (ts : List Tk) : attrR (ts.map (shT d)) = (attrR ts).sh d (shA d) := by
  unfold attrR
  rw [any_sh, any_sh, any_sh, isT_sh, tail_sh, isT_sh, kindR_sh, kindR_sh, kindR_sh, headText_sh]
  split
  · rename_i h
    obtain ⟨w, h⟩ := any_isT h
    rw [headAt_sh d h]; rfl
  · split
    · rename_i h
      obtain ⟨w, h⟩ := any_isT h
      rw [headAt_sh d h]; exact sh_map _ _ _ fun _ => rfl
    · split
      · rename_i h
        rw [headAt_sh d h]
        split <;> exact sh_map _ _ _ fun _ => rfl
      · split
        · rename_i h
          obtain ⟨w, h⟩ := any_isT h
          rw [headAt_sh d h]; exact sh_map _ _ _ fun _ => rfl
        · rfl
theorem attrsF_sh (d : Nat → Nat) : ∀ n ts, attrsF n (ts.map (shT d)) = (attrsF n ts).sh d (List.map (shA d))
  | 0, _ => rfl
  | n + 1, ts => by
    show (if isT w_rbr (ts.map (shT d)) then _ else _) = Rd.sh d _ (if isT w_rbr ts then _ else _)
    rw [isT_sh, attrR_sh]
    split
    · rfl
    · refine sh_then _ _ _ fun a r _ => ?_
      rw [needR_sh]
      refine sh_then _ _ _ fun _ r _ => ?_
      rw [attrsF_sh d n]
      exact sh_map _ _ _ fun _ => rfl
theorem semiR_sh {α : Type} {d : Nat → Nat} {f : α → α} (x : Rd α) : semiR (x.sh d f) = (semiR x).sh d f := by
  unfold semiR
  refine sh_then _ _ _ fun a r _ => ?_
  rw [needR_sh]
  exact sh_map _ _ _ fun _ => rfl
theorem itemR_sh (d : Nat → Nat) (ts : List Tk) : itemR (ts.map (shT d)) = (itemR ts).sh d (shI d) := by
  unfold itemR
  rw [isT_sh, isT_sh, isT_sh, isT_sh, isT_sh, isT_sh, tail_sh, kindR_sh, headText_sh]
  split
  · rename_i h
    rw [headAt_sh d h, ← semiR_sh]
    congr 1
    refine sh_then _ _ _ fun nm r _ => ?_
    rw [kindR_sh]
    exact sh_map _ _ _ fun _ => rfl
  · split
    · rename_i h
      rw [headAt_sh d h, ← semiR_sh]
      congr 1
      refine sh_then _ _ _ fun nm r _ => ?_
      rw [needR_sh]
      refine sh_then _ _ _ fun _ r _ => ?_
      rw [kindR_sh]
      refine sh_then _ _ _ fun wh r _ => ?_
      rw [kindR_sh]
      exact sh_map _ _ _ fun _ => rfl
    · split
      · rename_i h
        rw [headAt_sh d h, ← semiR_sh]
        congr 1
        exact sh_map _ _ _ fun _ => rfl
      · split
        · rename_i h
          rw [headAt_sh d h, ← semiR_sh]
          rfl
        · split
          · rename_i h
            rw [headAt_sh d h]
            refine sh_then _ _ _ fun nm r _ => ?_
            rw [needR_sh]
            refine sh_then _ _ _ fun _ r _ => ?_
            rw [kindR_sh]
            refine sh_then _ _ _ fun wh r _ => ?_
            rw [kindR_sh]
            refine sh_then _ _ _ fun cp r _ => ?_
            rw [kindR_sh]
            refine sh_then _ _ _ fun tx r _ => ?_
            rw [needR_sh]
            refine sh_then _ _ _ fun _ r _ => ?_
            rw [List.length_map, attrsF_sh]
            refine sh_then _ _ _ fun l r _ => ?_
            rw [needR_sh]
            exact sh_map _ _ _ fun _ => rfl
          · split
            · rename_i h
              rw [headAt_sh d h, ← semiR_sh]
              congr 1
              refine sh_then _ _ _ fun nm r _ => ?_
              rw [needR_sh]
              refine sh_then _ _ _ fun _ r _ => ?_
              rw [forS_sh]
              exact sh_map _ _ _ fun _ => rfl
            · rfl
theorem itemsF_sh (d : Nat → Nat) : ∀ n ts, itemsF n (ts.map (shT d)) = (itemsF n ts).sh d (List.map (shI d))
  | 0, _ => rfl
  | n + 1, [] => rfl
  | n + 1, t :: r => by
    show (itemR ((t :: r).map (shT d))).then _ = Rd.sh d _ ((itemR (t :: r)).then _)
    rw [itemR_sh]
    refine sh_then _ _ _ fun x r' _ => ?_
    rw [itemsF_sh d n]
    exact sh_map _ _ _ fun _ => rfl
/-- An item is told as it stands, wherever it does. -/
theorem formS_sh (d : Nat → Nat) : ∀ f, formS (shF d f) = formS f
  | .un _ _ _ => rfl
  | .no a => by show 40 :: (w_not_ ++ 32 :: formS (shF d a) ++ [41]) = _; rw [formS_sh d a]; rfl
  | .both k a b => by show 40 :: (k ++ 32 :: formS (shF d a) ++ 32 :: formS (shF d b) ++ [41]) = _; rw [formS_sh d a, formS_sh d b]; rfl
theorem toldS_sh (d : Nat → Nat) (t : Tk) : toldS (shT d t) = toldS t := by unfold toldS; rw [shT_kind, shT_text]
theorem lineS_sh (d : Nat → Nat) (x : Itm) : lineS (shI d x) = lineS x := by
  have e1 : (x.attrs.map (shA d)).flatMap attrS = x.attrs.flatMap attrS := by
    rw [List.flatMap_map]
    congr 1
    funext a
    show 32 :: 40 :: (a.k ++ toldS (shT d a.t) ++ [41]) = _
    rw [toldS_sh]; rfl
  have e2 : (match x.f.map (shF d) with | none => [] | some f => 32 :: formS f) = (match x.f with | none => [] | some f => 32 :: formS f) := by
    cases x.f with
    | none => rfl
    | some f => show 32 :: formS (shF d f) = _; rw [formS_sh]
  unfold lineS
  show x.k ++ toldS (shT d x.name) ++ (if (shT d x.whr).kind = 0 then [] else [32, 97, 116] ++ toldS (shT d x.whr)) ++ toldS (shT d x.caps) ++ toldS (shT d x.txt) ++ (x.attrs.map (shA d)).flatMap attrS ++ (match x.f.map (shF d) with | none => [] | some f => 32 :: formS f) ++ [10] = _
  rw [e1, e2, toldS_sh, toldS_sh, toldS_sh, toldS_sh, shT_kind]
  rfl
theorem deepI_sh (d : Nat → Nat) (x : Itm) : deepI (shI d x) = deepI x := by
  unfold deepI
  show (match x.f.map (shF d) with | none => false | some f => decide (16 < deepS (formS f))) = _
  cases x.f with
  | none => rfl
  | some f => show decide (16 < deepS (formS (shF d f))) = _; rw [formS_sh]
end Go.Proofs.Url

/- Plain: what syn.Dump and syn.Items answer. No program is named here. -/
namespace Go.Proofs.Url
open Syn
/-- What Dump answers: the text, what is wrong. -/
def dumpR (s : List UInt8) : List UInt8 × Nat × Nat := match readS10 s with
  | .ok xs => (xs.flatMap lineS, 0, 0)
  | .bad c p => ([], c, p)
/-- What Items answers: where the items begin, what is wrong. -/
def itemsR (s : List UInt8) : List Int × Nat × Nat := match readS10 s with
  | .ok xs => (xs.map fun y => (y.at' : Int), 0, 0)
  | .bad c p => ([], c, p)
end Go.Proofs.Url

/- Plain: items of tokens with more behind them; what two texts one behind the other read as (SynJoins). -/
namespace Go.Proofs.Url
open Syn
theorem isT_app {s : List UInt8} {ts : List Tk} (h : ts ≠ []) (W : List Tk) : isT s (ts ++ W) = isT s ts := by
  cases ts with
  | nil => exact absurd rfl h
  | cons t r => rfl
theorem word5_app {ts : List Tk} (h : ts ≠ []) (W : List Tk) : word5 (ts ++ W) = word5 ts := by
  cases ts with
  | nil => exact absurd rfl h
  | cons t r => rfl
theorem tail_app {ts : List Tk} (h : ts ≠ []) (W : List Tk) : (ts ++ W).tail = ts.tail ++ W := by
  cases ts with
  | nil => exact absurd rfl h
  | cons t r => rfl
theorem headText_app {ts : List Tk} (h : ts ≠ []) (W : List Tk) : headText (ts ++ W) = headText ts := by
  cases ts with
  | nil => exact absurd rfl h
  | cons t r => rfl
theorem headAt_app {ts : List Tk} (h : ts ≠ []) (W : List Tk) : headAt (ts ++ W) = headAt ts := by
  cases ts with
  | nil => exact absurd rfl h
  | cons t r => rfl
theorem thenOk {α β : Type} {x : Rd α} {f : α → List Tk → Rd β} {b : β} {r : List Tk} (h : x.then f = .ok b r) : ∃ a q, x = .ok a q ∧ f a q = .ok b r := by
  cases x with
  | ok a q => exact ⟨a, q, rfl, h⟩
  | bad q => cases h
theorem mapOk {α β : Type} {x : Rd α} {f : α → β} {b : β} {r : List Tk} (h : x.map f = .ok b r) : ∃ a, x = .ok a r ∧ f a = b := by
  cases x with
  | ok a q => cases h; exact ⟨a, rfl, rfl⟩
  | bad q => cases h
theorem kindR_app {k : Nat} {ts r : List Tk} {t : Tk} (h : kindR k ts = .ok t r) (W : List Tk) : kindR k (ts ++ W) = .ok t (r ++ W) := by
  cases ts with
  | nil => cases h
  | cons u q =>
    by_cases hk : u.kind = k
    · rw [kindR, if_pos hk] at h; cases h
      rw [List.cons_append, kindR, if_pos hk]
    · rw [kindR, if_neg hk] at h; cases h
theorem needR_app {s : List UInt8} {ts r : List Tk} {u : Unit} (h : needR s ts = .ok u r) (W : List Tk) : needR s (ts ++ W) = .ok () (r ++ W) ∧ ts ≠ [] := by
  cases ts with
  | nil => cases h
  | cons t q =>
    unfold needR at h ⊢
    by_cases hk : isT s (t :: q) = true
    · rw [if_pos hk] at h; cases h
      exact ⟨by rw [if_pos (show isT s (t :: q ++ W) = true from hk)]; rfl, by simp⟩
    · rw [if_neg hk] at h; cases h
theorem terL_nil (n : Nat) (a b : Fm) (r : List Tk) (h : terL n a [] = .ok b r) : r = [] := by
  cases n with
  | zero => simp only [terL] at h; cases h
  | succ n => simp only [terL, isT] at h; cases h; rfl
theorem forL_nil (n : Nat) (a b : Fm) (r : List Tk) (h : forL n a [] = .ok b r) : r = [] := by
  cases n with
  | zero => simp only [forL] at h; cases h
  | succ n => simp only [forL, isT] at h; cases h; rfl
def App (f : Nat → List Tk → Rd Fm) (n : Nat) : Prop := ∀ ts a r, f n ts = .ok a r → r ≠ [] → ∀ m, n ≤ m → ∀ W, f m (ts ++ W) = .ok a (r ++ W)
theorem ne_of_isT {s : List UInt8} {ts : List Tk} (h : isT s ts = true) : ts ≠ [] := fun e => by rw [e] at h; cases h
/-- A formula is read the same with more behind what is left. -/
theorem form_app : ∀ n, App facF n ∧ App terF n ∧ (∀ b, App (fun n => terL n b) n) ∧ App forF n ∧ (∀ b, App (fun n => forL n b) n)
  | 0 => by
    refine ⟨fun ts a r h => ?_, fun ts a r h => ?_, fun b ts a r h => ?_, fun ts a r h => ?_, fun b ts a r h => ?_⟩
    · simp only [facF] at h; cases h
    · simp only [terF] at h; cases h
    · simp only [terL] at h; cases h
    · simp only [forF] at h; cases h
    · simp only [forL] at h; cases h
  | n + 1 => by
    obtain ⟨h1, h2, h3, h4, h5⟩ := form_app n
    refine ⟨fun ts a r h hr m hm W => ?_, fun ts a r h hr m hm W => ?_, fun b ts a r h hr m hm W => ?_, fun ts a r h hr m hm W => ?_, fun b ts a r h hr m hm W => ?_⟩
    all_goals obtain ⟨m, rfl⟩ : ∃ k, m = k + 1 := ⟨m - 1, by omega⟩
    all_goals have hm' : n ≤ m := by omega
    · have hne : ts ≠ [] := fun e => by rw [e] at h; simp only [facF, isT, word5, words5, List.any_cons, List.any_nil] at h; cases h
      simp only [facF] at h ⊢
      rw [isT_app hne, isT_app hne, word5_app hne, tail_app hne, headText_app hne]
      by_cases c1 : isT w_not_ ts = true
      · rw [if_pos c1] at h ⊢
        obtain ⟨x, e1, e2⟩ := mapOk h
        rw [h1 _ _ _ e1 hr m hm' W, ← e2]; rfl
      · rw [if_neg c1] at h ⊢
        by_cases c2 : isT w_lpa ts = true
        · rw [if_pos c2] at h ⊢
          obtain ⟨x, q, e1, e2⟩ := thenOk h
          obtain ⟨u, e3, e4⟩ := mapOk e2
          obtain ⟨e5, e6⟩ := needR_app e3 W
          rw [h4 _ _ _ e1 e6 m hm' W]
          show (needR w_rpa (q ++ W)).map _ = _
          rw [e5, ← e4]; rfl
        · rw [if_neg c2] at h ⊢
          by_cases c3 : word5 ts = true
          · rw [if_pos c3] at h ⊢
            obtain ⟨x, e1, e2⟩ := mapOk h
            rw [kindR_app e1 W, ← e2]; rfl
          · rw [if_neg c3] at h; cases h
    · simp only [terF] at h ⊢
      obtain ⟨x, q, e1, e2⟩ := thenOk h
      have hq : q ≠ [] := fun e => hr (terL_nil _ _ _ _ (by rw [e] at e2; exact e2))
      rw [h1 _ _ _ e1 hq m hm' W]
      exact h3 x _ _ _ e2 hr m hm' W
    · simp only [terL] at h ⊢
      by_cases c1 : isT w_and_ ts = true
      · have hne := ne_of_isT c1
        rw [if_pos c1] at h
        rw [isT_app hne, if_pos c1, tail_app hne]
        obtain ⟨x, q, e1, e2⟩ := thenOk h
        have hq : q ≠ [] := fun e => hr (terL_nil _ _ _ _ (by rw [e] at e2; exact e2))
        rw [h1 _ _ _ e1 hq m hm' W]
        exact h3 _ _ _ _ e2 hr m hm' W
      · rw [if_neg c1] at h
        cases h
        rw [isT_app hr, if_neg c1]
    · simp only [forF] at h ⊢
      obtain ⟨x, q, e1, e2⟩ := thenOk h
      have hq : q ≠ [] := fun e => hr (forL_nil _ _ _ _ (by rw [e] at e2; exact e2))
      rw [h2 _ _ _ e1 hq m hm' W]
      exact h5 x _ _ _ e2 hr m hm' W
    · simp only [forL] at h ⊢
      by_cases c1 : isT w_or_ ts = true
      · have hne := ne_of_isT c1
        rw [if_pos c1] at h
        rw [isT_app hne, if_pos c1, tail_app hne]
        obtain ⟨x, q, e1, e2⟩ := thenOk h
        have hq : q ≠ [] := fun e => hr (forL_nil _ _ _ _ (by rw [e] at e2; exact e2))
        rw [h2 _ _ _ e1 hq m hm' W]
        exact h5 _ _ _ _ e2 hr m hm' W
      · rw [if_neg c1] at h
        cases h
        rw [isT_app hr, if_neg c1]
theorem forS_app {ts r : List Tk} {f : Fm} (h : forS ts = .ok f r) (hr : r ≠ []) (W : List Tk) : forS (ts ++ W) = .ok f (r ++ W) := by
  unfold forS at *
  exact (form_app _).2.2.2.1 ts f r h hr _ (by rw [List.length_append]; omega) W
theorem any_app {ws : List (List UInt8)} {ts : List Tk} (h : ts ≠ []) (W : List Tk) : (ws.any fun w => isT w (ts ++ W)) = ws.any fun w => isT w ts := by
  congr 1; funext w; exact isT_app h W
theorem attrR_app {ts r : List Tk} {a : Atr} (h : attrR ts = .ok a r) (W : List Tk) : attrR (ts ++ W) = .ok a (r ++ W) := by
  have hne : ts ≠ [] := fun e => by rw [e] at h; cases h
  unfold attrR at *
  rw [any_app hne, any_app hne, any_app hne, isT_app hne, tail_app hne, headText_app hne, headAt_app hne]
  split at h
  · rename_i c; rw [if_pos c]; cases h; rfl
  · rename_i c; rw [if_neg c]
    split at h
    · rename_i c; rw [if_pos c]
      obtain ⟨x, e1, e2⟩ := mapOk h
      rw [kindR_app e1, ← e2]; rfl
    · rename_i c; rw [if_neg c]
      split at h
      · rename_i c; rw [if_pos c]
        obtain ⟨x, e1, e2⟩ := mapOk h
        have hne2 : ts.tail ≠ [] := fun e => by rw [e] at e1; cases e1
        rw [isT_app hne2]
        split at e1
        · rename_i c; rw [if_pos c, kindR_app e1, ← e2]; rfl
        · rename_i c; rw [if_neg c, kindR_app e1, ← e2]; rfl
      · rename_i c; rw [if_neg c]
        split at h
        · rename_i c; rw [if_pos c]
          obtain ⟨x, e1, e2⟩ := mapOk h
          rw [kindR_app e1, ← e2]; rfl
        · cases h
theorem attrsF_app : ∀ (n : Nat) (ts r : List Tk) (l : List Atr), attrsF n ts = .ok l r → ∀ m, n ≤ m → ∀ W, attrsF m (ts ++ W) = .ok l (r ++ W)
  | 0, _, _, _, h, _, _, _ => by cases h
  | n + 1, ts, r, l, h, m, hm, W => by
    obtain ⟨m, rfl⟩ : ∃ k, m = k + 1 := ⟨m - 1, by omega⟩
    have h0 : (if isT w_rbr ts then Rd.ok [] ts else (attrR ts).then fun a r => (needR w_semi r).then fun _ r => (attrsF n r).map fun l => a :: l) = .ok l r := h
    show (if isT w_rbr (ts ++ W) then Rd.ok [] (ts ++ W) else (attrR (ts ++ W)).then fun a r => (needR w_semi r).then fun _ r => (attrsF m r).map fun l => a :: l) = _
    by_cases c : isT w_rbr ts = true
    · rw [if_pos c] at h0; cases h0
      rw [isT_app (ne_of_isT c), if_pos c]
    · rw [if_neg c] at h0
      obtain ⟨a, q, e1, e2⟩ := thenOk h0
      have hne : ts ≠ [] := fun e => by rw [e] at e1; cases e1
      rw [isT_app hne, if_neg c, attrR_app e1 W]
      obtain ⟨u, q2, e3, e4⟩ := thenOk e2
      obtain ⟨l2, e5, e6⟩ := mapOk e4
      show (needR w_semi (q ++ W)).then _ = _
      rw [(needR_app e3 W).1]
      show (attrsF m (q2 ++ W)).map _ = _
      rw [attrsF_app n _ _ _ e5 m (by omega) W, ← e6]; rfl
theorem semiR_app {α : Type} {x y : Rd α} {a : α} {r : List Tk} (W : List Tk) (h : semiR x = .ok a r) (e : ∀ b q, x = .ok b q → q ≠ [] → y = .ok b (q ++ W)) : semiR y = .ok a (r ++ W) := by
  unfold semiR at *
  obtain ⟨b, q, e1, e2⟩ := thenOk h
  obtain ⟨u, e3, e4⟩ := mapOk e2
  obtain ⟨e5, e6⟩ := needR_app e3 W
  rw [e b q e1 e6]
  show (needR w_semi (q ++ W)).map _ = _
  rw [e5, ← e4]; rfl
theorem itemR_app {ts r : List Tk} {x : Itm} (h : itemR ts = .ok x r) (W : List Tk) : itemR (ts ++ W) = .ok x (r ++ W) := by
  have hne : ts ≠ [] := fun e => by rw [e] at h; cases h
  unfold itemR at *
  rw [isT_app hne, isT_app hne, isT_app hne, isT_app hne, isT_app hne, isT_app hne, tail_app hne, headText_app hne, headAt_app hne]
  split at h
  · rename_i c; rw [if_pos c]
    refine semiR_app W h fun b q e _ => ?_
    obtain ⟨nm, q1, e1, e⟩ := thenOk e
    obtain ⟨tx, e2, e⟩ := mapOk e
    rw [kindR_app e1 W]
    show (kindR 3 (q1 ++ W)).map _ = _
    rw [kindR_app e2 W, ← e]; rfl
  · rename_i c; rw [if_neg c]
    split at h
    · rename_i c; rw [if_pos c]
      refine semiR_app W h fun b q e _ => ?_
      obtain ⟨nm, q1, e1, e⟩ := thenOk e
      obtain ⟨u, q2, e2, e⟩ := thenOk e
      obtain ⟨wh, q3, e3, e⟩ := thenOk e
      obtain ⟨tx, e4, e⟩ := mapOk e
      rw [kindR_app e1 W]
      show (needR w_at (q1 ++ W)).then _ = _
      rw [(needR_app e2 W).1]
      show (kindR 1 (q2 ++ W)).then _ = _
      rw [kindR_app e3 W]
      show (kindR 3 (q3 ++ W)).map _ = _
      rw [kindR_app e4 W, ← e]; rfl
    · rename_i c; rw [if_neg c]
      split at h
      · rename_i c; rw [if_pos c]
        refine semiR_app W h fun b q e _ => ?_
        obtain ⟨nm, e1, e⟩ := mapOk e
        rw [kindR_app e1 W, ← e]; rfl
      · rename_i c; rw [if_neg c]
        split at h
        · rename_i c; rw [if_pos c]
          refine semiR_app W h fun b q e _ => ?_
          cases e; rfl
        · rename_i c; rw [if_neg c]
          split at h
          · rename_i c; rw [if_pos c]
            obtain ⟨nm, q1, e1, e⟩ := thenOk h
            obtain ⟨u, q2, e2, e⟩ := thenOk e
            obtain ⟨wh, q3, e3, e⟩ := thenOk e
            obtain ⟨cp, q4, e4, e⟩ := thenOk e
            obtain ⟨tx, q5, e5, e⟩ := thenOk e
            obtain ⟨u2, q6, e6, e⟩ := thenOk e
            obtain ⟨l, q7, e7, e⟩ := thenOk e
            obtain ⟨u3, e8, e⟩ := mapOk e
            rw [kindR_app e1 W]
            show (needR w_at (q1 ++ W)).then _ = _
            rw [(needR_app e2 W).1]
            show (kindR 1 (q2 ++ W)).then _ = _
            rw [kindR_app e3 W]
            show (kindR 5 (q3 ++ W)).then _ = _
            rw [kindR_app e4 W]
            show (kindR 3 (q4 ++ W)).then _ = _
            rw [kindR_app e5 W]
            show (needR w_lbr (q5 ++ W)).then _ = _
            rw [(needR_app e6 W).1]
            show (attrsF ((q6 ++ W).length + 1) (q6 ++ W)).then _ = _
            rw [attrsF_app _ _ _ _ e7 _ (by rw [List.length_append]; omega) W]
            show (needR w_rbr (q7 ++ W)).map _ = _
            rw [(needR_app e8 W).1, ← e]; rfl
          · rename_i c; rw [if_neg c]
            split at h
            · rename_i c; rw [if_pos c]
              refine semiR_app W h fun b q e hq => ?_
              obtain ⟨nm, q1, e1, e⟩ := thenOk e
              obtain ⟨u, q2, e2, e⟩ := thenOk e
              obtain ⟨f, e3, e⟩ := mapOk e
              rw [kindR_app e1 W]
              show (needR w_eq (q1 ++ W)).then _ = _
              rw [(needR_app e2 W).1]
              show (forS (q2 ++ W)).map _ = _
              rw [forS_app e3 hq W, ← e]; rfl
            · cases h
theorem itemsF_app (W : List Tk) : ∀ (n : Nat) (ts q : List Tk) (xs : List Itm), itemsF n ts = .ok xs q → xs.length + 1 ≤ n ∧ ∀ k, itemsF (xs.length + k) (ts ++ W) = (itemsF k W).map (fun l => xs ++ l)
  | 0, _, _, _, h => by cases h
  | n + 1, [], q, xs, h => by
    cases h
    refine ⟨by simp, fun k => ?_⟩
    rw [List.length_nil, Nat.zero_add, List.nil_append]
    cases itemsF k W <;> rfl
  | n + 1, t :: r, q, xs, h => by
    obtain ⟨x, r', e1, e2⟩ := thenOk (show (itemR (t :: r)).then (fun x r' => (itemsF n r').map fun l => x :: l) = .ok xs q from h)
    obtain ⟨l, e3, e4⟩ := mapOk e2
    obtain ⟨i1, i2⟩ := itemsF_app W n r' q l e3
    subst e4
    refine ⟨by rw [List.length_cons]; omega, fun k => ?_⟩
    rw [List.length_cons, show l.length + 1 + k = (l.length + k) + 1 by omega]
    show (itemR (t :: r ++ W)).then (fun x r' => (itemsF (l.length + k) r').map fun l => x :: l) = _
    rw [itemR_app e1 W]
    show (itemsF (l.length + k) (r' ++ W)).map _ = _
    rw [i2]
    cases itemsF k W <;> rfl
theorem itemsF_mono : ∀ (n : Nat) (ts q : List Tk) (xs : List Itm), itemsF n ts = .ok xs q → ∀ m, n ≤ m → itemsF m ts = .ok xs q
  | 0, _, _, _, h, _, _ => by cases h
  | n + 1, [], q, xs, h, m, hm => by
    obtain ⟨m, rfl⟩ : ∃ k, m = k + 1 := ⟨m - 1, by omega⟩
    exact h
  | n + 1, t :: r, q, xs, h, m, hm => by
    obtain ⟨m, rfl⟩ : ∃ k, m = k + 1 := ⟨m - 1, by omega⟩
    obtain ⟨x, r', e1, e2⟩ := thenOk (show (itemR (t :: r)).then (fun x r' => (itemsF n r').map fun l => x :: l) = .ok xs q from h)
    obtain ⟨l, e3, e4⟩ := mapOk e2
    show (itemR (t :: r)).then (fun x r' => (itemsF m r').map fun l => x :: l) = _
    rw [e1]
    show (itemsF m r').map _ = _
    rw [itemsF_mono n r' q l e3 m (by omega), ← e4]; rfl
theorem readS10_ok {s : List UInt8} {xs : List Itm} (h : readS10 s = .ok xs) : ∃ ts q, toksS s = .ok ts ∧ itemsF (ts.length + 1) ts = .ok xs q ∧ xs.any deepI = false := by
  unfold readS10 at h
  cases ht : toksS s with
  | bad c p => rw [ht] at h; cases h
  | ok ts =>
    rw [ht] at h
    simp only at h
    cases hi : itemsF (ts.length + 1) ts with
    | bad r => rw [hi] at h; cases r <;> cases h
    | ok ys q =>
      rw [hi] at h
      simp only at h
      by_cases hd : ys.any deepI = true
      · rw [if_pos hd] at h; cases h
      · rw [if_neg hd] at h; cases h
        exact ⟨ts, q, rfl, hi, by simpa using hd⟩
theorem readS10_of {s : List UInt8} {ts q : List Tk} {xs : List Itm} (h1 : toksS s = .ok ts) (h2 : itemsF (ts.length + 1) ts = .ok xs q) (h3 : xs.any deepI = false) : readS10 s = .ok xs := by
  unfold readS10
  rw [h1]
  simp only [h2, h3]
  rfl
/-- Two descriptions one behind the other. -/
theorem readS10_join {s t : List UInt8} {xs ys : List Itm} (hs : s.length ≤ 900) (ht : t.length ≤ 900) (h1 : readS10 s = .ok xs) (h2 : readS10 t = .ok ys) : readS10 (s ++ 10 :: t) = .ok (xs ++ ys.map (shI fun p => p + (s.length + 1))) := by
  obtain ⟨ts, q1, a1, a2, a3⟩ := readS10_ok h1
  obtain ⟨us, q2, b1, b2, b3⟩ := readS10_ok h2
  have ht := toksS_join hs ht a1 b1
  obtain ⟨c1, c2⟩ := itemsF_app (us.map (shT fun p => p + (s.length + 1))) _ _ _ _ a2
  have d1 := itemsF_sh (fun p => p + (s.length + 1)) (us.length + 1) us
  rw [b2] at d1
  have d2 := itemsF_mono _ _ _ _ (show itemsF (us.length + 1) (us.map (shT fun p => p + (s.length + 1))) = .ok (ys.map (shI fun p => p + (s.length + 1))) _ from d1) (ts.length - xs.length + us.length + 1) (by omega)
  have e := c2 (ts.length - xs.length + us.length + 1)
  rw [d2] at e
  refine readS10_of (q := q2.map (shT fun p => p + (s.length + 1))) ht ?_ ?_
  · rw [List.length_append, List.length_map, show ts.length + us.length + 1 = xs.length + (ts.length - xs.length + us.length + 1) by omega, e]; rfl
  · rw [List.any_append, a3, List.any_map]
    rw [show (deepI ∘ shI fun p => p + (s.length + 1)) = deepI from funext fun x => deepI_sh _ x, b3]; rfl
/-- What Dump and Items answer. -/
theorem dumpR_join {s t : List UInt8} (hs : s.length ≤ 900) (ht : t.length ≤ 900) (h1 : (dumpR s).2.1 = 0) (h2 : (dumpR t).2.1 = 0) : dumpR (s ++ 10 :: t) = ((dumpR s).1 ++ (dumpR t).1, 0, 0) ∧ itemsR (s ++ 10 :: t) = ((itemsR s).1 ++ (itemsR t).1.map (fun p => p + ((s.length + 1 : Nat) : Int)), 0, 0) := by
  have key : ∀ {s : List UInt8}, (dumpR s).2.1 = 0 → ∃ xs, readS10 s = .ok xs := by
    intro s h
    cases hx : readS10 s with
    | ok xs => exact ⟨xs, rfl⟩
    | bad c p =>
      exfalso
      unfold dumpR at h
      rw [hx] at h
      have h : c = 0 := h
      unfold readS10 at hx
      cases ht : toksS s with
      | bad c' p' => rw [ht] at hx; cases hx; exact toksS_badc ht h
      | ok ts =>
        rw [ht] at hx
        simp only at hx
        cases hi : itemsF (ts.length + 1) ts with
        | bad r => rw [hi] at hx; cases r <;> (cases hx; cases h)
        | ok ys q =>
          rw [hi] at hx
          simp only at hx
          by_cases hd : ys.any deepI = true
          · rw [if_pos hd] at hx; cases hx; cases h
          · rw [if_neg hd] at hx; cases hx
  obtain ⟨xs, e1⟩ := key h1
  obtain ⟨ys, e2⟩ := key h2
  have e := readS10_join hs ht e1 e2
  unfold dumpR itemsR
  rw [e, e1, e2]
  refine ⟨?_, ?_⟩
  · show ((xs ++ ys.map (shI fun p => p + (s.length + 1))).flatMap lineS, 0, 0) = (xs.flatMap lineS ++ ys.flatMap lineS, 0, 0)
    rw [List.flatMap_append, List.flatMap_map]
    rw [show (fun y => lineS (shI (fun p => p + (s.length + 1)) y)) = lineS from funext fun y => lineS_sh _ y]
  · show ((xs ++ ys.map (shI fun p => p + (s.length + 1))).map (fun y => (y.at' : Int)), 0, 0) = (xs.map (fun y => (y.at' : Int)) ++ (ys.map (fun y => (y.at' : Int))).map _, 0, 0)
    rw [List.map_append, List.map_map, List.map_map]
    rfl
/-- Where items begin: within the text. -/
theorem map_id9 {α : Type} {f : α → α} {l : List α} (h : ∀ x ∈ l, f x = x) : l.map f = l := by
  induction l with
  | nil => rfl
  | cons x l ih => rw [List.map_cons, h x (List.mem_cons_self ..), ih fun y hy => h y (List.mem_cons_of_mem x hy)]
theorem map_id_mem {α : Type} {f : α → α} : ∀ {l : List α}, l.map f = l → ∀ x ∈ l, f x = x
  | [], _, x, hx => absurd hx (by simp)
  | y :: l, h, x, hx => by
    rw [List.map_cons, List.cons.injEq] at h
    rcases List.mem_cons.1 hx with rfl | hx
    · exact h.1
    · exact map_id_mem h.2 x hx
theorem toksF_in : ∀ (f pos : Nat) (l : List UInt8) (n : Nat) (us : List Tk), toksF f pos l n = .ok us → ∀ t ∈ us, t.at' ≤ pos + l.length
  | 0, _, _, _, _, h => by cases h; intro t ht; simp at ht
  | f + 1, pos, l, n, us, h => by
    rw [toksF_succ] at h
    by_cases h1 : (l.drop (gapB false l)).isEmpty
    · rw [if_pos h1] at h; cases h; intro t ht; simp at ht
    · rw [if_neg h1] at h
      by_cases h2 : (oneS (l.drop (gapB false l))).code ≠ 0
      · rw [if_pos h2] at h; cases h
      · rw [if_neg h2] at h
        by_cases h3 : n = 2000
        · rw [if_pos h3] at h; cases h
        · rw [if_neg h3] at h
          have h4 := one_len (Decidable.not_not.1 h2)
          have h5 := gapB_le false l
          cases hr : toksF f (pos + gapB false l + (oneS (l.drop (gapB false l))).len) ((l.drop (gapB false l)).drop (oneS (l.drop (gapB false l))).len) (n + 1) with
          | bad c' p' => rw [hr] at h; cases h
          | ok vs =>
            rw [hr] at h
            simp only [Toks.put, Toks.ok.injEq] at h
            have ih := toksF_in f _ _ _ vs hr
            rw [List.length_drop] at h4
            intro t ht
            rw [← h] at ht
            rcases List.mem_append.1 ht with ht | ht
            · rw [List.mem_singleton] at ht; rw [ht]; show pos + gapB false l ≤ _; omega
            · have := ih t ht
              rw [List.length_drop, List.length_drop] at this
              omega
theorem itemsR_in {s : List UInt8} : ∀ p ∈ (itemsR s).1, 0 ≤ p ∧ p ≤ (s.length : Int) := by
  unfold itemsR
  cases hx : readS10 s with
  | bad c p => intro p hp; exact absurd hp (by simp)
  | ok xs =>
    obtain ⟨ts, q, h1, h2, _⟩ := readS10_ok hx
    have ht : ∀ t ∈ ts, t.at' ≤ s.length := by
      unfold toksS at h1
      split at h1
      · cases h1
      · intro t ht; have := toksF_in _ _ _ _ _ h1 t ht; omega
    have e := itemsF_sh (fun p => min p s.length) (ts.length + 1) ts
    rw [map_id9 (fun t h => by
      have := ht t h
      unfold shT
      split
      · rfl
      · show (⟨t.kind, min t.at' s.length, t.text⟩ : Tk) = t
        rw [Nat.min_eq_left this]), h2] at e
    have e2 : xs = xs.map (shI fun p => min p s.length) := by
      simp only [Rd.sh, Rd.ok.injEq] at e
      exact e.1
    intro p hp
    obtain ⟨x, hx, rfl⟩ := List.mem_map.1 hp
    have := congrArg Itm.at' (map_id_mem e2.symm x hx)
    have h3 : min x.at' s.length = x.at' := this
    omega
theorem itemsR_few {s : List UInt8} : (itemsR s).1.length ≤ s.length := by
  unfold itemsR
  cases hx : readS10 s with
  | bad c p => exact Nat.zero_le _
  | ok xs =>
    obtain ⟨ts, q, h1, h2, _⟩ := readS10_ok hx
    have h3 := (itemsF_app [] _ _ _ _ h2).1
    unfold toksS at h1
    split at h1
    · cases h1
    · have := toksF_few _ _ _ _ _ h1
      show (xs.map _).length ≤ _
      rw [List.length_map]; omega
end Go.Proofs.Url

/- Plain: tokens of a beginning that ends ahead of a token (SynCut). -/
namespace Go.Proofs.Url
open Syn
theorem gap_take : ∀ (b : Bool) (l : List UInt8) (m : Nat), gapB b (l.take m) = min m (gapB b l)
  | true, _, 0 => by rw [List.take_zero, Nat.zero_min]; rfl
  | false, _, 0 => by rw [List.take_zero, Nat.zero_min]; rfl
  | true, [], m + 1 => by rw [List.take_nil]; exact (Nat.min_zero _).symm
  | false, [], m + 1 => by rw [List.take_nil]; exact (Nat.min_zero _).symm
  | true, c :: r, m + 1 => by
    rw [List.take_succ_cons, gapB, gapB, gap_take true r m, gap_take false r m]
    split <;> omega
  | false, c :: r, m + 1 => by
    rw [List.take_succ_cons, gapB, gapB, gap_take true r m, gap_take false r m]
    split
    · omega
    · split <;> omega
theorem tw_take (f : UInt8 → Bool) : ∀ (l : List UInt8) (m : Nat), (l.takeWhile f).length ≤ m → (l.take m).takeWhile f = l.takeWhile f
  | [], _, _ => by rw [List.take_nil]
  | x :: l, 0, h => by
    rw [List.takeWhile_cons] at h ⊢
    split at h
    · simp at h
    · rename_i c; rw [if_neg c]; rfl
  | x :: l, m + 1, h => by
    rw [List.takeWhile_cons] at h
    rw [List.take_succ_cons, List.takeWhile_cons, List.takeWhile_cons]
    split at h
    · rename_i c; rw [if_pos c, if_pos c, tw_take f l m (by simpa using h)]
    · rename_i c; rw [if_neg c, if_neg c]
theorem oneC_take (c : UInt8) (r : List UInt8) (m : Nat) (h : (oneC c r).code = 0) (hm : (oneC c r).len ≤ m + 1) : oneC c (r.take m) = oneC c r := by
  have e : c :: r.take m = (c :: r).take (m + 1) := List.take_succ_cons.symm
  cases h1 : smallB c with
  | true =>
    rw [oneC_small _ h1] at hm
    rw [oneC_small _ h1, oneC_small _ h1, e, tw_take nameB9 _ _ hm]
  | false =>
    cases h2 : capB c with
    | true =>
      rw [oneC_cap _ h1 h2] at hm
      rw [oneC_cap _ h1 h2, oneC_cap _ h1 h2, e, tw_take capB _ _ hm]
    | false =>
      by_cases h3 : c.toNat = 34
      · by_cases hq : r[(r.takeWhile textB).length]? = some 34
        · rw [oneC_text r h1 h2 h3 hq] at hm
          have hm : (r.takeWhile textB).length + 2 ≤ m + 1 := hm
          have e3 := tw_take textB r m (by omega)
          rw [oneC_text r h1 h2 h3 hq, oneC_text _ h1 h2 h3 (by rw [e3, List.getElem?_take, if_pos (by omega)]; exact hq), e3]
        · rw [oneC_open r h1 h2 h3 hq] at h; cases h
      · cases h4 : signB c with
        | true => rw [oneC_sign _ h1 h2 h3 h4, oneC_sign _ h1 h2 h3 h4]
        | false => rw [oneC_none r h1 h2 h3 h4] at h; cases h
theorem toksF_ge : ∀ (f pos : Nat) (l : List UInt8) (n : Nat) (us : List Tk), toksF f pos l n = .ok us → ∀ t ∈ us, pos ≤ t.at'
  | 0, _, _, _, _, h => by cases h; intro t ht; simp at ht
  | f + 1, pos, l, n, us, h => by
    rw [toksF_succ] at h
    by_cases h1 : (l.drop (gapB false l)).isEmpty
    · rw [if_pos h1] at h; cases h; intro t ht; simp at ht
    · rw [if_neg h1] at h
      by_cases h2 : (oneS (l.drop (gapB false l))).code ≠ 0
      · rw [if_pos h2] at h; cases h
      · rw [if_neg h2] at h
        by_cases h3 : n = 2000
        · rw [if_pos h3] at h; cases h
        · rw [if_neg h3] at h
          cases hr : toksF f (pos + gapB false l + (oneS (l.drop (gapB false l))).len) ((l.drop (gapB false l)).drop (oneS (l.drop (gapB false l))).len) (n + 1) with
          | bad c' p' => rw [hr] at h; cases h
          | ok vs =>
            rw [hr] at h
            simp only [Toks.put, Toks.ok.injEq] at h
            have ih := toksF_ge f _ _ _ vs hr
            intro t ht
            rw [← h] at ht
            rcases List.mem_append.1 ht with ht | ht
            · rw [List.mem_singleton] at ht; rw [ht]; show pos ≤ pos + gapB false l; omega
            · have := ih t ht
              omega
/-- Tokens of a beginning that ends where a token begins. -/
theorem toksF_take : ∀ (f pos : Nat) (l : List UInt8) (n : Nat) (ts : List Tk), toksF f pos l n = .ok ts → ∀ (j : Nat) (hj : j < ts.length) (F : Nat), (l.take (ts[j].at' - pos)).length < F → toksF F pos (l.take (ts[j].at' - pos)) n = .ok (ts.take j)
  | 0, _, _, _, _, h, j, hj, _, _ => by cases h; simp at hj
  | f + 1, pos, l, n, ts, h, j, hj, F, hF => by
    obtain ⟨F, rfl⟩ : ∃ k, F = k + 1 := ⟨F - 1, by omega⟩
    have hle := gapB_le false l
    rw [toksF_succ] at h
    cases hd : l.drop (gapB false l) with
    | nil =>
      rw [hd, if_pos (by rfl)] at h
      cases h; simp at hj
    | cons c r =>
      have h0 : ¬ ((c :: r).isEmpty = true) := by simp
      have hlr := congrArg List.length hd
      rw [List.length_drop, List.length_cons] at hlr
      rw [hd, if_neg h0] at h
      by_cases h2 : (oneS (c :: r)).code ≠ 0
      · rw [if_pos h2] at h; cases h
      · rw [if_neg h2] at h
        have hc : (oneC c r).code = 0 := Decidable.not_not.1 h2
        obtain ⟨hl1, hl2⟩ := oneC_len c r hc
        by_cases h3 : n = 2000
        · rw [if_pos h3] at h; cases h
        · rw [if_neg h3] at h
          cases hr : toksF f (pos + gapB false l + (oneS (c :: r)).len) ((c :: r).drop (oneS (c :: r)).len) (n + 1) with
          | bad c' p' => rw [hr] at h; cases h
          | ok us =>
            rw [hr] at h
            simp only [Toks.put, Toks.ok.injEq, List.singleton_append] at h
            subst h
            cases j with
            | zero =>
              have e : (⟨(oneS (c :: r)).kind, pos + gapB false l, (oneS (c :: r)).text⟩ :: us : List Tk)[0].at' - pos = gapB false l := by show pos + gapB false l - pos = _; omega
              rw [e]
              have e2 : (l.take (gapB false l)).drop (gapB false (l.take (gapB false l))) = [] := by
                rw [gap_take, Nat.min_self]
                exact List.drop_eq_nil_of_le (by rw [List.length_take]; omega)
              rw [toksF_succ, e2]
              rfl
            | succ j =>
              have hj2 : j < us.length := by simpa using hj
              have e : (⟨(oneS (c :: r)).kind, pos + gapB false l, (oneS (c :: r)).text⟩ :: us : List Tk)[j + 1].at' = us[j].at' := rfl
              rw [e] at hF ⊢
              have hge := toksF_ge _ _ _ _ us hr us[j] (List.getElem_mem hj2)
              obtain ⟨L, hL⟩ : ∃ L, L = (oneS (c :: r)).len := ⟨_, rfl⟩
              rw [← hL] at hr hge
              have hL1 : 1 ≤ L := by rw [hL]; exact hl1
              obtain ⟨q, hq⟩ : ∃ q, us[j].at' = pos + gapB false l + L + q := ⟨us[j].at' - (pos + gapB false l + L), by omega⟩
              have ih := toksF_take f _ _ _ us hr j hj2 F
              rw [hq, show pos + gapB false l + L + q - (pos + gapB false l + L) = q by omega] at ih
              rw [hq, show pos + gapB false l + L + q - pos = gapB false l + L + q by omega] at hF ⊢
              obtain ⟨m, hm⟩ : ∃ m, L + q = m + 1 := ⟨L + q - 1, by omega⟩
              have hg : gapB false (l.take (gapB false l + L + q)) = gapB false l := by rw [gap_take]; omega
              have hdr : (l.take (gapB false l + L + q)).drop (gapB false l) = c :: r.take m := by
                rw [List.drop_take, hd, show gapB false l + L + q - gapB false l = m + 1 by omega, List.take_succ_cons]
              have ho : oneS (c :: r.take m) = oneS (c :: r) := oneC_take c r m hc (by show (oneS (c :: r)).len ≤ m + 1; omega)
              have hdl : (c :: r.take m).drop L = ((c :: r).drop L).take q := by
                rw [show c :: r.take m = (c :: r).take (m + 1) from List.take_succ_cons.symm, List.drop_take, show m + 1 - L = q by omega]
              have h0' : ¬ ((c :: r.take m).isEmpty = true) := by simp
              rw [toksF_succ, hg, hdr, if_neg h0', ho, if_neg h2, if_neg h3, ← hL, hdl, ih ?_]
              · rfl
              · rw [List.length_take, List.length_drop, List.length_cons]
                rw [List.length_take] at hF
                omega
theorem toksS_take {s : List UInt8} {ts : List Tk} (h : toksS s = .ok ts) (j : Nat) (hj : j < ts.length) : toksS (s.take ts[j].at') = .ok (ts.take j) := by
  unfold toksS at h ⊢
  split at h
  · cases h
  · have hl : (s.take ts[j].at').length ≤ s.length := by rw [List.length_take]; omega
    rw [if_neg (by omega)]
    have := toksF_take _ 0 s 0 ts h j hj ((s.take ts[j].at').length + 1)
    rw [Nat.sub_zero] at this
    exact this (by omega)
end Go.Proofs.Url

/- Plain: the readers look at nothing behind what they take (SynCut). -/
namespace Go.Proofs.Url
open Syn
theorem isT_hd9 {s : List UInt8} {V r : List Tk} (h : V.head? = r.head?) : isT s V = isT s r := by
  cases V with
  | nil => cases r with
    | nil => rfl
    | cons y r => cases h
  | cons x V => cases r with
    | nil => cases h
    | cons y r => cases h; rfl
theorem head_app {A V r : List Tk} (h : V.head? = r.head?) : (A ++ V).head? = (A ++ r).head? := by
  cases A with
  | nil => exact h
  | cons x A => rfl
theorem app_ne {A r : List Tk} (h : r ≠ []) : A ++ r ≠ [] := fun e => h (List.append_eq_nil_iff.1 e).2
theorem isT_cons (s : List UInt8) (t : Tk) (X Y : List Tk) : isT s (t :: X) = isT s (t :: Y) := rfl
theorem kindR_cut {k : Nat} {ts r : List Tk} {t : Tk} (h : kindR k ts = .ok t r) : ts = t :: r ∧ ∀ V, kindR k (t :: V) = .ok t V := by
  cases ts with
  | nil => cases h
  | cons u q =>
    by_cases hk : u.kind = k
    · rw [kindR, if_pos hk] at h; cases h
      exact ⟨rfl, fun V => by rw [kindR, if_pos hk]⟩
    · rw [kindR, if_neg hk] at h; cases h
theorem needR_cut {s : List UInt8} {ts r : List Tk} {u : Unit} (h : needR s ts = .ok u r) : ∃ t, ts = t :: r ∧ ∀ V, needR s (t :: V) = .ok () V := by
  cases ts with
  | nil => cases h
  | cons t q =>
    unfold needR at h
    by_cases hk : isT s (t :: q) = true
    · rw [if_pos hk] at h; cases h
      exact ⟨t, rfl, fun V => by unfold needR; rw [if_pos (show isT s (t :: V) = true from hk)]; rfl⟩
    · rw [if_neg hk] at h; cases h
def Cut (f : Nat → List Tk → Rd Fm) (c p n : Nat) : Prop := ∀ ts a r, f n ts = .ok a r → r ≠ [] → ∃ A, ts = A ++ r ∧ p ≤ A.length ∧ ∀ V m, V.head? = r.head? → 3 * A.length + c ≤ m → f m (A ++ V) = .ok a V
theorem form_cut : ∀ n, Cut facF 0 1 n ∧ Cut terF 1 1 n ∧ (∀ b, Cut (fun n => terL n b) 1 0 n) ∧ Cut forF 2 1 n ∧ (∀ b, Cut (fun n => forL n b) 1 0 n)
  | 0 => by
    refine ⟨fun ts a r h => ?_, fun ts a r h => ?_, fun b ts a r h => ?_, fun ts a r h => ?_, fun b ts a r h => ?_⟩
    · simp only [facF] at h; cases h
    · simp only [terF] at h; cases h
    · simp only [terL] at h; cases h
    · simp only [forF] at h; cases h
    · simp only [forL] at h; cases h
  | n + 1 => by
    obtain ⟨h1, h2, h3, h4, h5⟩ := form_cut n
    refine ⟨fun ts a r h hr => ?_, fun ts a r h hr => ?_, fun b ts a r h hr => ?_, fun ts a r h hr => ?_, fun b ts a r h hr => ?_⟩
    · cases ts with
      | nil => simp only [facF, isT, word5, words5, List.any_cons, List.any_nil] at h; cases h
      | cons t q =>
        simp only [facF, List.tail_cons] at h
        by_cases c1 : isT w_not_ (t :: q) = true
        · rw [if_pos c1] at h
          obtain ⟨x, e1, e2⟩ := mapOk h
          obtain ⟨A, rfl, _, hA⟩ := h1 _ _ _ e1 hr
          refine ⟨t :: A, rfl, by simp, fun V m hV hm => ?_⟩
          rw [List.length_cons] at hm
          obtain ⟨m, rfl⟩ : ∃ k, m = k + 1 := ⟨m - 1, by omega⟩
          simp only [facF, List.cons_append, List.tail_cons]
          rw [if_pos (show isT w_not_ (t :: (A ++ V)) = true from c1), hA V m hV (by omega), ← e2]; rfl
        · rw [if_neg c1] at h
          by_cases c2 : isT w_lpa (t :: q) = true
          · rw [if_pos c2] at h
            obtain ⟨x, q1, e1, e2⟩ := thenOk h
            obtain ⟨u, e3, e4⟩ := mapOk e2
            obtain ⟨y, rfl, e5⟩ := needR_cut e3
            obtain ⟨A, rfl, _, hA⟩ := h4 _ _ _ e1 (by simp)
            refine ⟨t :: (A ++ [y]), by simp, by simp, fun V m hV hm => ?_⟩
            rw [List.length_cons, List.length_append, List.length_singleton] at hm
            obtain ⟨m, rfl⟩ : ∃ k, m = k + 1 := ⟨m - 1, by omega⟩
            rw [List.cons_append, List.append_assoc]
            simp only [facF, List.tail_cons]
            rw [if_neg (show ¬ isT w_not_ (t :: (A ++ ([y] ++ V))) = true from c1), if_pos (show isT w_lpa (t :: (A ++ ([y] ++ V))) = true from c2), hA ([y] ++ V) m rfl (by omega)]
            show (needR w_rpa (y :: V)).map _ = _
            rw [e5, ← e4]; rfl
          · rw [if_neg c2] at h
            by_cases c3 : word5 (t :: q) = true
            · rw [if_pos c3] at h
              obtain ⟨x, e1, e2⟩ := mapOk h
              obtain ⟨rfl, e3⟩ := kindR_cut e1
              refine ⟨[t, x], rfl, by simp, fun V m hV hm => ?_⟩
              obtain ⟨m, rfl⟩ : ∃ k, m = k + 1 := ⟨m - 1, by simp at hm; omega⟩
              simp only [facF, List.cons_append, List.nil_append, List.tail_cons]
              rw [if_neg (show ¬ isT w_not_ (t :: x :: V) = true from c1), if_neg (show ¬ isT w_lpa (t :: x :: V) = true from c2), if_pos (show word5 (t :: x :: V) = true from c3), e3, ← e2]; rfl
            · rw [if_neg c3] at h; cases h
    · simp only [terF] at h
      obtain ⟨x, q, e1, e2⟩ := thenOk h
      obtain ⟨A2, rfl, _, hA2⟩ := h3 x _ _ _ e2 hr
      obtain ⟨A1, rfl, hp, hA1⟩ := h1 _ _ _ e1 (app_ne hr)
      refine ⟨A1 ++ A2, (List.append_assoc ..).symm, by rw [List.length_append]; omega, fun V m hV hm => ?_⟩
      rw [List.length_append] at hm
      obtain ⟨m, rfl⟩ : ∃ k, m = k + 1 := ⟨m - 1, by omega⟩
      simp only [terF]
      rw [List.append_assoc, hA1 (A2 ++ V) m (head_app hV) (by omega)]
      exact hA2 V m hV (by omega)
    · simp only [terL] at h
      by_cases c1 : isT w_and_ ts = true
      · rw [if_pos c1] at h
        cases ts with
        | nil => cases c1
        | cons t q0 =>
          obtain ⟨x, q, e1, e2⟩ := thenOk h
          obtain ⟨A2, rfl, _, hA2⟩ := h3 _ _ _ _ e2 hr
          obtain ⟨A1, hq0, hp, hA1⟩ := h1 _ _ _ e1 (app_ne hr)
          have hq0 : q0 = A1 ++ (A2 ++ r) := hq0
          subst hq0
          refine ⟨t :: (A1 ++ A2), by simp, by simp, fun V m hV hm => ?_⟩
          rw [List.length_cons, List.length_append] at hm
          obtain ⟨m, rfl⟩ : ∃ k, m = k + 1 := ⟨m - 1, by omega⟩
          rw [List.cons_append, List.append_assoc]
          simp only [terL, List.tail_cons]
          rw [if_pos (show isT w_and_ (t :: (A1 ++ (A2 ++ V))) = true from c1), hA1 (A2 ++ V) m (head_app hV) (by omega)]
          exact hA2 V m hV (by omega)
      · rw [if_neg c1] at h
        cases h
        refine ⟨[], rfl, Nat.zero_le _, fun V m hV hm => ?_⟩
        obtain ⟨m, rfl⟩ : ∃ k, m = k + 1 := ⟨m - 1, by omega⟩
        simp only [terL, List.nil_append]
        rw [isT_hd9 hV, if_neg c1]
    · simp only [forF] at h
      obtain ⟨x, q, e1, e2⟩ := thenOk h
      obtain ⟨A2, rfl, _, hA2⟩ := h5 x _ _ _ e2 hr
      obtain ⟨A1, rfl, hp, hA1⟩ := h2 _ _ _ e1 (app_ne hr)
      refine ⟨A1 ++ A2, (List.append_assoc ..).symm, by rw [List.length_append]; omega, fun V m hV hm => ?_⟩
      rw [List.length_append] at hm
      obtain ⟨m, rfl⟩ : ∃ k, m = k + 1 := ⟨m - 1, by omega⟩
      simp only [forF]
      rw [List.append_assoc, hA1 (A2 ++ V) m (head_app hV) (by omega)]
      exact hA2 V m hV (by omega)
    · simp only [forL] at h
      by_cases c1 : isT w_or_ ts = true
      · rw [if_pos c1] at h
        cases ts with
        | nil => cases c1
        | cons t q0 =>
          obtain ⟨x, q, e1, e2⟩ := thenOk h
          obtain ⟨A2, rfl, _, hA2⟩ := h5 _ _ _ _ e2 hr
          obtain ⟨A1, hq0, hp, hA1⟩ := h2 _ _ _ e1 (app_ne hr)
          have hq0 : q0 = A1 ++ (A2 ++ r) := hq0
          subst hq0
          refine ⟨t :: (A1 ++ A2), by simp, by simp, fun V m hV hm => ?_⟩
          rw [List.length_cons, List.length_append] at hm
          obtain ⟨m, rfl⟩ : ∃ k, m = k + 1 := ⟨m - 1, by omega⟩
          rw [List.cons_append, List.append_assoc]
          simp only [forL, List.tail_cons]
          rw [if_pos (show isT w_or_ (t :: (A1 ++ (A2 ++ V))) = true from c1), hA1 (A2 ++ V) m (head_app hV) (by omega)]
          exact hA2 V m hV (by omega)
      · rw [if_neg c1] at h
        cases h
        refine ⟨[], rfl, Nat.zero_le _, fun V m hV hm => ?_⟩
        obtain ⟨m, rfl⟩ : ∃ k, m = k + 1 := ⟨m - 1, by omega⟩
        simp only [forL, List.nil_append]
        rw [isT_hd9 hV, if_neg c1]
theorem forS_cut {ts r : List Tk} {f : Fm} (h : forS ts = .ok f r) (hr : r ≠ []) : ∃ A, ts = A ++ r ∧ ∀ V, V.head? = r.head? → forS (A ++ V) = .ok f V := by
  obtain ⟨A, e, _, hA⟩ := (form_cut _).2.2.2.1 ts f r h hr
  exact ⟨A, e, fun V hV => hA V _ hV (by rw [List.length_append]; omega)⟩
end Go.Proofs.Url

/- Plain: formulas as they should look, their tokens, and that these are read as the formula. No program is named here. -/
namespace Go.Proofs.Url
open Syn
/-- How fast a formula holds together. -/
def rankF : Fm → Nat
  | .un _ _ _ => 3
  | .no _ => 3
  | .both k _ _ => if k = w_or_ then 1 else 2
def wrapS (b : Prop) [Decidable b] (l : List UInt8) : List UInt8 := if b then 40 :: (l ++ [41]) else l
/-- A formula as it should look. -/
def prettyF : Fm → List UInt8
  | .un k nm _ => k ++ 32 :: nm
  | .no f => w_not_ ++ 32 :: wrapS (rankF f < 3) (prettyF f)
  | .both k f g => wrapS (rankF f < (if k = w_or_ then 1 else 2)) (prettyF f) ++ 32 :: (k ++ 32 :: wrapS (rankF g < (if k = w_or_ then 1 else 2) + 1) (prettyF g))
/-- In a place that asks so much at least. -/
def wrF (f : Fm) (m : Nat) : List UInt8 := wrapS (rankF f < m) (prettyF f)
theorem pretty_no (f : Fm) : prettyF (.no f) = w_not_ ++ 32 :: wrF f 3 := rfl
theorem pretty_both (k : List UInt8) (f g : Fm) : prettyF (.both k f g) = wrF f (rankF (.both k f g)) ++ 32 :: (k ++ 32 :: wrF g (rankF (.both k f g) + 1)) := rfl
/-- The tokens, with the places that the tree knows. -/
def wrapK (b : Prop) [Decidable b] (l : List Tk) : List Tk := if b then ⟨4, 0, [40]⟩ :: (l ++ [⟨4, 0, [41]⟩]) else l
def tkF : Fm → List Tk
  | .un k nm a => [⟨2, 0, k⟩, ⟨1, a, nm⟩]
  | .no f => ⟨2, 0, w_not_⟩ :: wrapK (rankF f < 3) (tkF f)
  | .both k f g => wrapK (rankF f < (if k = w_or_ then 1 else 2)) (tkF f) ++ ⟨2, 0, k⟩ :: wrapK (rankF g < (if k = w_or_ then 1 else 2) + 1) (tkF g)
def wkF (f : Fm) (m : Nat) : List Tk := wrapK (rankF f < m) (tkF f)
theorem tk_no (f : Fm) : tkF (.no f) = ⟨2, 0, w_not_⟩ :: wkF f 3 := rfl
theorem tk_both (k : List UInt8) (f g : Fm) : tkF (.both k f g) = wkF f (rankF (.both k f g)) ++ ⟨2, 0, k⟩ :: wkF g (rankF (.both k f g) + 1) := rfl
theorem wk_low {f : Fm} {m : Nat} (h : m ≤ rankF f) : wkF f m = tkF f := by unfold wkF wrapK; rw [if_neg (by omega)]
theorem wk_high {f : Fm} {m : Nat} (h : rankF f < m) : wkF f m = ⟨4, 0, [40]⟩ :: (tkF f ++ [⟨4, 0, [41]⟩]) := by unfold wkF wrapK; rw [if_pos h]
theorem rank_range (f : Fm) : 1 ≤ rankF f ∧ rankF f ≤ 3 := by
  cases f with
  | un => exact ⟨(by decide : 1 ≤ 3), (by decide : 3 ≤ 3)⟩
  | no => exact ⟨(by decide : 1 ≤ 3), (by decide : 3 ≤ 3)⟩
  | both k a b =>
    show 1 ≤ (if k = w_or_ then 1 else 2) ∧ (if k = w_or_ then 1 else 2) ≤ 3
    split <;> exact ⟨by decide, by decide⟩
/-- A formula of the words that there are. -/
def WordsF : Fm → Prop
  | .un k _ _ => k ∈ words5
  | .no f => WordsF f
  | .both k f g => (k = w_or_ ∨ k = w_and_) ∧ WordsF f ∧ WordsF g
/-- From some fuel on. -/
def Ev {α : Type} (f : Nat → α) (r : α) : Prop := ∃ n0, ∀ n, n0 ≤ n → f n = r
theorem Ev.of {α : Type} {f : Nat → α} {r : α} (h : ∀ n, f n = r) : Ev f r := ⟨0, fun n _ => h n⟩
theorem Ev.step {α β : Type} {f : Nat → α} {g : Nat → β} {r : α} {s : β} (h : Ev f r) (e : ∀ n, f n = r → g (n + 1) = s) : Ev g s := by
  obtain ⟨n0, h⟩ := h
  refine ⟨n0 + 1, fun n hn => ?_⟩
  obtain ⟨m, rfl⟩ : ∃ m, n = m + 1 := ⟨n - 1, by omega⟩
  exact e m (h m (by omega))
theorem Ev.step2 {α β γ : Type} {f : Nat → α} {f2 : Nat → γ} {g : Nat → β} {r : α} {r2 : γ} {s : β} (h : Ev f r) (h2 : Ev f2 r2) (e : ∀ n, f n = r → f2 n = r2 → g (n + 1) = s) : Ev g s := by
  obtain ⟨n0, h⟩ := h
  obtain ⟨n1, h2⟩ := h2
  refine ⟨max n0 n1 + 1, fun n hn => ?_⟩
  obtain ⟨m, rfl⟩ : ∃ m, n = m + 1 := ⟨n - 1, by omega⟩
  exact e m (h m (by omega)) (h2 m (by omega))
theorem is_word {w : List UInt8} (p : Nat) (r : List Tk) : isT w (⟨2, p, w⟩ :: r) = true := by
  show ((2 == 4 || 2 == 2) && w == w) = true
  simp
theorem is_other {w x : List UInt8} (k p : Nat) (r : List Tk) (h : x ≠ w) : isT w (⟨k, p, x⟩ :: r) = false := by
  show ((k == 4 || k == 2) && x == w) = false
  rw [beq_eq_false_iff_ne.2 h, Bool.and_false]
theorem lpa_is (p : Nat) (r : List Tk) : isT w_lpa (⟨4, p, [40]⟩ :: r) = true := rfl
theorem rpa_is (p : Nat) (r : List Tk) : isT w_rpa (⟨4, p, [41]⟩ :: r) = true := rfl
theorem fac_un {k nm : List UInt8} {p a : Nat} {V : List Tk} (h : k ∈ words5) (n : Nat) : facF (n + 1) (⟨2, p, k⟩ :: ⟨1, a, nm⟩ :: V) = .ok (.un k nm a) V := by
  have h2 : k ≠ w_not_ ∧ k ≠ w_lpa := by
    constructor <;> (rintro rfl; revert h; decide)
  have h3 : word5 (⟨2, p, k⟩ :: ⟨1, a, nm⟩ :: V) = true := by
    unfold word5; exact List.any_eq_true.2 ⟨k, h, is_word _ _⟩
  rw [facF, is_other _ _ _ h2.1, is_other _ _ _ h2.2, h3]
  rfl
/-- What is read of a formula's tokens. -/
structure ReadF (f : Fm) : Prop where
  fac : 3 ≤ rankF f → ∀ V, Ev (fun n => facF n (tkF f ++ V)) (.ok f V)
  ter : 2 ≤ rankF f → ∀ V R, Ev (fun n => terL n f V) R → Ev (fun n => terF n (tkF f ++ V)) R
  frm : ∀ V R, isT w_and_ V = false → Ev (fun n => forL n f V) R → Ev (fun n => forF n (tkF f ++ V)) R
theorem terL_end {f : Fm} {V : List Tk} (h : isT w_and_ V = false) : Ev (fun n => terL n f V) (.ok f V) :=
  (Ev.of (f := fun _ => ()) (r := ()) fun _ => rfl).step fun n _ => by simp only [terL]; rw [h]; rfl
theorem forL_end {f : Fm} {V : List Tk} (h : isT w_or_ V = false) : Ev (fun n => forL n f V) (.ok f V) :=
  (Ev.of (f := fun _ => ()) (r := ()) fun _ => rfl).step fun n _ => by simp only [forL]; rw [h]; rfl
theorem fac_par {ts V : List Tk} {f : Fm} (p q : Nat) (h : Ev (fun n => forF n (ts ++ ⟨4, q, [41]⟩ :: V)) (.ok f (⟨4, q, [41]⟩ :: V))) : Ev (fun n => facF n (⟨4, p, [40]⟩ :: (ts ++ ⟨4, q, [41]⟩ :: V))) (.ok f V) := by
  refine h.step fun n hn => ?_
  replace hn : forF n (ts ++ ⟨4, q, [41]⟩ :: V) = .ok f (⟨4, q, [41]⟩ :: V) := hn
  show facF (n + 1) _ = _
  rw [facF, is_other _ _ _ (by decide), lpa_is]
  show (forF n (ts ++ ⟨4, q, [41]⟩ :: V)).then _ = _
  rw [hn]
  rfl
theorem ReadF.par {f : Fm} (h : ReadF f) (V : List Tk) : Ev (fun n => facF n (⟨4, 0, [40]⟩ :: (tkF f ++ [⟨4, 0, [41]⟩]) ++ V)) (.ok f V) := by
  have e : (⟨4, 0, [40]⟩ :: (tkF f ++ [⟨4, 0, [41]⟩]) ++ V : List Tk) = ⟨4, 0, [40]⟩ :: (tkF f ++ ⟨4, 0, [41]⟩ :: V) := by simp
  rw [e]
  exact fac_par 0 0 (h.frm _ _ rfl (forL_end rfl))
theorem ReadF.wk3 {f : Fm} (h : ReadF f) (V : List Tk) : Ev (fun n => facF n (wkF f 3 ++ V)) (.ok f V) := by
  by_cases hr : rankF f < 3
  · rw [wk_high hr]; exact h.par V
  · rw [wk_low (by omega)]; exact h.fac (by omega) V
theorem ReadF.wk2 {f : Fm} (h : ReadF f) (V : List Tk) (R : Rd Fm) (hR : Ev (fun n => terL n f V) R) : Ev (fun n => terF n (wkF f 2 ++ V)) R := by
  by_cases hr : rankF f < 2
  · rw [wk_high hr]
    refine (h.par V).step2 hR fun n h1 h2 => ?_
    rw [terF, h1]; exact h2
  · rw [wk_low (by omega)]; exact h.ter (by omega) V R hR
theorem fac_ter {f : Fm} {ts V : List Tk} {R : Rd Fm} (h : Ev (fun n => facF n ts) (.ok f V)) (hR : Ev (fun n => terL n f V) R) : Ev (fun n => terF n ts) R := by
  refine h.step2 hR fun n h1 h2 => ?_
  rw [terF, h1]; exact h2
theorem ter_for {f : Fm} {ts V : List Tk} {R : Rd Fm} (h : Ev (fun n => terF n ts) (.ok f V)) (hR : Ev (fun n => forL n f V) R) : Ev (fun n => forF n ts) R := by
  refine h.step2 hR fun n h1 h2 => ?_
  rw [forF, h1]; exact h2
theorem readF_of3 {f : Fm} (h : ∀ V, Ev (fun n => facF n (tkF f ++ V)) (.ok f V)) : ReadF f where
  fac := fun _ => h
  ter := fun _ V _ hR => fac_ter (h V) hR
  frm := fun V _ hV hR => ter_for (fac_ter (h V) (terL_end hV)) hR
theorem readF_of2 {f : Fm} (h2 : rankF f = 2) (h : ∀ V R, Ev (fun n => terL n f V) R → Ev (fun n => terF n (tkF f ++ V)) R) : ReadF f where
  fac := fun h3 => absurd h3 (by omega)
  ter := fun _ => h
  frm := fun V _ hV hR => ter_for (h V _ (terL_end hV)) hR
theorem readF_all : ∀ (f : Fm), WordsF f → ReadF f
  | .un k nm a, h => readF_of3 fun V => (Ev.of (f := fun _ => ()) (r := ()) fun _ => rfl).step fun n _ => fac_un h n
  | .no f, h => readF_of3 fun V => ((readF_all f h).wk3 V).step fun n hn => by
      rw [tk_no, List.cons_append, facF, is_word]
      show ((facF n (wkF f 3 ++ V)).map Fm.no) = _
      rw [hn]; rfl
  | .both k f g, ⟨hk, hf, hg⟩ => by
    have rf := readF_all f hf
    have rg := readF_all g hg
    rcases hk with rfl | rfl
    · refine ⟨fun h3 => absurd h3 (show ¬ 3 ≤ 1 by decide), fun h3 => absurd h3 (show ¬ 2 ≤ 1 by decide), fun V R hV hR => ?_⟩
      have e : tkF (.both w_or_ f g) ++ V = tkF f ++ (⟨2, 0, w_or_⟩ :: (wkF g 2 ++ V)) := by
        rw [tk_both]
        show wkF f 1 ++ _ ++ V = _
        rw [wk_low (rank_range f).1]; simp; rfl
      rw [e]
      refine rf.frm _ R rfl ?_
      refine (rg.wk2 V _ (terL_end hV)).step2 hR fun n h1 h2 => ?_
      rw [forL, is_word]
      show (terF n (wkF g 2 ++ V)).then _ = _
      rw [h1]; exact h2
    · refine readF_of2 rfl fun V R hR => ?_
      have e : tkF (.both w_and_ f g) ++ V = wkF f 2 ++ (⟨2, 0, w_and_⟩ :: (wkF g 3 ++ V)) := by
        rw [tk_both]
        show wkF f 2 ++ _ ++ V = _
        simp; rfl
      rw [e]
      refine rf.wk2 _ R ?_
      refine (rg.wk3 V).step2 hR fun n h1 h2 => ?_
      rw [terL, is_word]
      show (facF n (wkF g 3 ++ V)).then _ = _
      rw [h1]; exact h2
theorem forS_ev {A V : List Tk} {f : Fm} (hV : V ≠ []) (h : Ev (fun n => forF n (A ++ V)) (.ok f V)) : forS (A ++ V) = .ok f V := by
  obtain ⟨n0, h⟩ := h
  obtain ⟨B, e, _, hB⟩ := (form_cut n0).2.2.2.1 _ _ _ (h n0 (Nat.le_refl _)) hV
  have := hB V (3 * (A ++ V).length + 3) rfl (by rw [e, List.length_append]; omega)
  rw [← e] at this
  exact this
/-- A formula, as it should look, is read as it is. -/
theorem forS_tk {f : Fm} (h : WordsF f) {V : List Tk} (hne : V ≠ []) (h1 : isT w_and_ V = false) (h2 : isT w_or_ V = false) : forS (tkF f ++ V) = .ok f V :=
  forS_ev hne ((readF_all f h).frm V _ h1 (forL_end h2))
end Go.Proofs.Url

/- Plain: items as they should look; which items can be read, and that their tokens are read as they are. No program is named here. -/
namespace Go.Proofs.Url
open Syn
/-- An item's own words. -/
def headS (y : Itm) : List UInt8 := y.k ++ toldS y.name ++ (if y.whr.kind = 0 then [] else [32, 97, 116] ++ toldS y.whr) ++ toldS y.caps ++ toldS y.txt
def showA (a : Atr) : List UInt8 := 32 :: 32 :: (a.k ++ toldS a.t ++ [59, 10])
/-- An item as it should look. -/
def showI (y : Itm) : List UInt8 :=
  if y.k = w_endpoint then headS y ++ [32, 123, 10] ++ y.attrs.flatMap showA ++ [125, 10]
  else match y.f with
    | some f => headS y ++ [32, 61, 32] ++ prettyF f ++ [59, 10]
    | none => headS y ++ [59, 10]
/-- What Text answers. -/
def showR (s : List UInt8) : List UInt8 × Nat × Nat := match readS10 s with
  | .ok xs => (xs.flatMap showI, 0, 0)
  | .bad c p => ([], c, p)
theorem rankF_sh (d : Nat → Nat) (f : Fm) : rankF (shF d f) = rankF f := by cases f <;> rfl
theorem prettyF_sh (d : Nat → Nat) : ∀ f, prettyF (shF d f) = prettyF f
  | .un _ _ _ => rfl
  | .no a => by
    show w_not_ ++ 32 :: wrapS (rankF (shF d a) < 3) (prettyF (shF d a)) = _
    simp only [rankF_sh, prettyF_sh d a]; rfl
  | .both k a b => by
    show wrapS (rankF (shF d a) < (if k = w_or_ then 1 else 2)) (prettyF (shF d a)) ++ 32 :: (k ++ 32 :: wrapS (rankF (shF d b) < (if k = w_or_ then 1 else 2) + 1) (prettyF (shF d b))) = _
    simp only [rankF_sh, prettyF_sh d a, prettyF_sh d b]; rfl
theorem showI_sh (d : Nat → Nat) (x : Itm) : showI (shI d x) = showI x := by
  have e1 : (x.attrs.map (shA d)).flatMap showA = x.attrs.flatMap showA := by
    rw [List.flatMap_map]
    congr 1
    funext a
    show 32 :: 32 :: (a.k ++ toldS (shT d a.t) ++ [59, 10]) = _
    rw [toldS_sh]; rfl
  have e2 : headS (shI d x) = headS x := by
    unfold headS
    show x.k ++ toldS (shT d x.name) ++ (if (shT d x.whr).kind = 0 then [] else [32, 97, 116] ++ toldS (shT d x.whr)) ++ toldS (shT d x.caps) ++ toldS (shT d x.txt) = _
    rw [toldS_sh, toldS_sh, toldS_sh, toldS_sh, shT_kind]
  unfold showI
  rw [e2]
  show (if x.k = w_endpoint then headS x ++ [32, 123, 10] ++ (x.attrs.map (shA d)).flatMap showA ++ [125, 10] else match x.f.map (shF d) with | some f => headS x ++ [32, 61, 32] ++ prettyF f ++ [59, 10] | none => headS x ++ [59, 10]) = _
  rw [e1]
  cases x.f with
  | none => rfl
  | some f =>
    show (if x.k = w_endpoint then _ else headS x ++ [32, 61, 32] ++ prettyF (shF d f) ++ [59, 10]) = _
    rw [prettyF_sh]

/-- Formulas, attributes, items that can be read. -/
def FineF : Fm → Prop
  | .un k nm a => k ∈ words5 ∧ Good9 ⟨1, a, nm⟩
  | .no f => FineF f
  | .both k f g => (k = w_or_ ∨ k = w_and_) ∧ FineF f ∧ FineF g
theorem FineF.words : ∀ {f : Fm}, FineF f → WordsF f
  | .un _ _ _, h => h.1
  | .no f, h => FineF.words (f := f) h
  | .both _ f g, h => ⟨h.1, FineF.words (f := f) h.2.1, FineF.words (f := g) h.2.2⟩
inductive FineA : Atr → Prop
  | bare (k : List UInt8) (p : Nat) : k ∈ bare6 → FineA ⟨k, p, zeroT⟩
  | named (k : List UInt8) (p q : Nat) (x : List UInt8) : k ∈ named5 → Good9 ⟨1, q, x⟩ → FineA ⟨k, p, ⟨1, q, x⟩⟩
  | any (p q : Nat) : FineA ⟨w_cors, p, ⟨2, q, w_any⟩⟩
  | cors (p q : Nat) (x : List UInt8) : Good9 ⟨1, q, x⟩ → FineA ⟨w_cors, p, ⟨1, q, x⟩⟩
  | texted (k : List UInt8) (p q : Nat) (x : List UInt8) : k ∈ texted4 → Good9 ⟨3, q, x⟩ → FineA ⟨k, p, ⟨3, q, x⟩⟩
inductive FineI : Itm → Prop
  | origin (p a b : Nat) (x y : List UInt8) : Good9 ⟨1, a, x⟩ → Good9 ⟨3, b, y⟩ → FineI ⟨w_origin, p, ⟨1, a, x⟩, zeroT, zeroT, ⟨3, b, y⟩, [], none⟩
  | cookie (p a b c : Nat) (x y z : List UInt8) : Good9 ⟨1, a, x⟩ → Good9 ⟨1, b, y⟩ → Good9 ⟨3, c, z⟩ → FineI ⟨w_cookie, p, ⟨1, a, x⟩, ⟨1, b, y⟩, zeroT, ⟨3, c, z⟩, [], none⟩
  | secret (p a : Nat) (x : List UInt8) : Good9 ⟨1, a, x⟩ → FineI ⟨w_secret, p, ⟨1, a, x⟩, zeroT, zeroT, zeroT, [], none⟩
  | network (p : Nat) : FineI ⟨w_network, p, zeroT, zeroT, zeroT, zeroT, [], none⟩
  | endpoint (p a b c d : Nat) (x y z u : List UInt8) (l : List Atr) : Good9 ⟨1, a, x⟩ → Good9 ⟨1, b, y⟩ → Good9 ⟨5, c, z⟩ → Good9 ⟨3, d, u⟩ → (∀ t ∈ l, FineA t) → FineI ⟨w_endpoint, p, ⟨1, a, x⟩, ⟨1, b, y⟩, ⟨5, c, z⟩, ⟨3, d, u⟩, l, none⟩
  | property (p a : Nat) (x : List UInt8) (f : Fm) : Good9 ⟨1, a, x⟩ → FineF f → FineI ⟨w_property, p, ⟨1, a, x⟩, zeroT, zeroT, zeroT, [], some f⟩
def optK (t : Tk) : List Tk := if t.kind = 0 then [] else [t]
def semiK : Tk := ⟨4, 0, [59]⟩
def tkA (a : Atr) : List Tk := ⟨2, a.at', a.k⟩ :: (optK a.t ++ [semiK])
def headK (y : Itm) : List Tk := ⟨2, y.at', y.k⟩ :: (optK y.name ++ (if y.whr.kind = 0 then [] else [⟨2, 0, w_at⟩, y.whr]) ++ optK y.caps ++ optK y.txt)
/-- An item's tokens. -/
def tkI (y : Itm) : List Tk :=
  if y.k = w_endpoint then headK y ++ ⟨4, 0, [123]⟩ :: (y.attrs.flatMap tkA ++ [⟨4, 0, [125]⟩])
  else match y.f with
    | some f => headK y ++ ⟨4, 0, [61]⟩ :: (tkF f ++ [semiK])
    | none => headK y ++ [semiK]
theorem bare_cases {k : List UInt8} {P : List UInt8 → Prop} (h : k ∈ bare6) (hp : ∀ x ∈ bare6, P x) : P k := hp k h
theorem attrR_tk {a : Atr} (h : FineA a) (V : List Tk) : attrR (⟨2, a.at', a.k⟩ :: (optK a.t ++ V)) = .ok a V := by
  cases h with
  | bare k p hk =>
    simp only [bare6, List.mem_cons, List.not_mem_nil, or_false] at hk
    rcases hk with rfl | rfl | rfl | rfl | rfl | rfl <;> rfl
  | named k p q x hk _ =>
    simp only [named5, List.mem_cons, List.not_mem_nil, or_false] at hk
    rcases hk with rfl | rfl | rfl | rfl | rfl <;> rfl
  | any p q => rfl
  | cors p q x _ => rfl
  | texted k p q x hk _ =>
    simp only [texted4, List.mem_cons, List.not_mem_nil, or_false] at hk
    rcases hk with rfl | rfl | rfl | rfl <;> rfl
theorem attr_word {a : Atr} (h : FineA a) : a.k ∈ words9 := by
  cases h with
  | bare k p hk => exact (by decide +kernel : ∀ x ∈ bare6, x ∈ words9) k hk
  | named k p q x hk _ => exact (by decide +kernel : ∀ x ∈ named5, x ∈ words9) k hk
  | any p q => exact (by decide +kernel : w_cors ∈ words9)
  | cors p q x _ => exact (by decide +kernel : w_cors ∈ words9)
  | texted k p q x hk _ => exact (by decide +kernel : ∀ x ∈ texted4, x ∈ words9) k hk
theorem word_ne_rbr {k : List UInt8} (h : k ∈ words9) : k ≠ w_rbr := by rintro rfl; revert h; decide +kernel
theorem attrsF_tk : ∀ (l : List Atr), (∀ a ∈ l, FineA a) → ∀ (n p : Nat) (V : List Tk), attrsF (l.length + 1 + n) (l.flatMap tkA ++ ⟨4, p, [125]⟩ :: V) = .ok l (⟨4, p, [125]⟩ :: V)
  | [], _, n, p, V => by
    rw [show ([] : List Atr).length + 1 + n = n + 1 by simp; omega]; rfl
  | a :: l, h, n, p, V => by
    have ha := h a (List.mem_cons_self ..)
    have ih := attrsF_tk l (fun b hb => h b (List.mem_cons_of_mem a hb)) n p V
    have e : (a :: l).flatMap tkA ++ ⟨4, p, [125]⟩ :: V = ⟨2, a.at', a.k⟩ :: (optK a.t ++ (semiK :: (l.flatMap tkA ++ ⟨4, p, [125]⟩ :: V))) := by
      rw [List.flatMap_cons]; simp [tkA]
    rw [e, List.length_cons, show l.length + 1 + 1 + n = (l.length + 1 + n) + 1 by omega]
    show (if isT w_rbr (⟨2, a.at', a.k⟩ :: _) = true then _ else _) = _
    rw [is_other _ _ _ (word_ne_rbr (attr_word ha)), attrR_tk ha]
    show ((attrsF (l.length + 1 + n) (l.flatMap tkA ++ ⟨4, p, [125]⟩ :: V)).map fun l => a :: l) = _
    rw [ih]; rfl
/-- An item's tokens are read as the item. -/
theorem itemR_tk {y : Itm} (h : FineI y) (V : List Tk) : itemR (tkI y ++ V) = .ok y V := by
  cases h with
  | origin p a b x y _ _ => rfl
  | cookie p a b c x y z _ _ _ => rfl
  | secret p a x _ => rfl
  | network p => rfl
  | endpoint p a b c d x y z u l _ _ _ _ hl =>
    have e : tkI ⟨w_endpoint, p, ⟨1, a, x⟩, ⟨1, b, y⟩, ⟨5, c, z⟩, ⟨3, d, u⟩, l, none⟩ ++ V = ⟨2, p, w_endpoint⟩ :: ⟨1, a, x⟩ :: ⟨2, 0, w_at⟩ :: ⟨1, b, y⟩ :: ⟨5, c, z⟩ :: ⟨3, d, u⟩ :: ⟨4, 0, [123]⟩ :: (l.flatMap tkA ++ ⟨4, 0, [125]⟩ :: V) := by
      show ([⟨2, p, w_endpoint⟩, ⟨1, a, x⟩, ⟨2, 0, w_at⟩, ⟨1, b, y⟩, ⟨5, c, z⟩, ⟨3, d, u⟩] ++ ⟨4, 0, [123]⟩ :: (l.flatMap tkA ++ [⟨4, 0, [125]⟩])) ++ V = _
      simp
    rw [e]
    show ((attrsF ((l.flatMap tkA ++ ⟨4, 0, [125]⟩ :: V).length + 1) (l.flatMap tkA ++ ⟨4, 0, [125]⟩ :: V)).then fun l r => (needR w_rbr r).map fun _ => (⟨w_endpoint, p, ⟨1, a, x⟩, ⟨1, b, y⟩, ⟨5, c, z⟩, ⟨3, d, u⟩, l, none⟩ : Itm)) = _
    have hle : l.length ≤ (l.flatMap tkA).length := by
      clear hl e
      induction l with
      | nil => exact Nat.le_refl _
      | cons t l ih => rw [List.flatMap_cons, List.length_append, List.length_cons]; simp only [tkA, List.length_cons]; omega
    obtain ⟨m, hm⟩ : ∃ m, (l.flatMap tkA ++ ⟨4, 0, [125]⟩ :: V).length + 1 = l.length + 1 + m := ⟨(l.flatMap tkA ++ ⟨4, 0, [125]⟩ :: V).length - l.length, by rw [List.length_append]; omega⟩
    rw [hm, attrsF_tk l hl]
    rfl
  | property p a x f _ hf =>
    have e : tkI ⟨w_property, p, ⟨1, a, x⟩, zeroT, zeroT, zeroT, [], some f⟩ ++ V = ⟨2, p, w_property⟩ :: ⟨1, a, x⟩ :: ⟨4, 0, [61]⟩ :: (tkF f ++ (semiK :: V)) := by
      show ([⟨2, p, w_property⟩, ⟨1, a, x⟩] ++ ⟨4, 0, [61]⟩ :: (tkF f ++ [semiK])) ++ V = _
      simp
    rw [e]
    show semiR ((forS (tkF f ++ (semiK :: V))).map fun f => (⟨w_property, p, ⟨1, a, x⟩, zeroT, zeroT, zeroT, [], some f⟩ : Itm)) = _
    rw [forS_tk hf.words (by simp) rfl rfl]
    rfl
theorem tkI_ne (y : Itm) : ∃ t r, tkI y = t :: r := by
  unfold tkI headK
  split
  · exact ⟨_, _, rfl⟩
  · split <;> exact ⟨_, _, rfl⟩
theorem itemsF_tk : ∀ (l : List Itm), (∀ y ∈ l, FineI y) → ∀ n, itemsF (l.length + 1 + n) (l.flatMap tkI) = .ok l []
  | [], _, n => by rw [show ([] : List Itm).length + 1 + n = n + 1 by simp; omega]; rfl
  | y :: l, h, n => by
    have ih := itemsF_tk l (fun b hb => h b (List.mem_cons_of_mem y hb)) n
    have hy := itemR_tk (h y (List.mem_cons_self ..)) (l.flatMap tkI)
    rw [List.flatMap_cons, List.length_cons, show l.length + 1 + 1 + n = (l.length + 1 + n) + 1 by omega]
    obtain ⟨t, r, e⟩ := tkI_ne y
    rw [e, List.cons_append] at hy ⊢
    show ((itemR (t :: (r ++ l.flatMap tkI))).then fun x r' => (itemsF (l.length + 1 + n) r').map fun l => x :: l) = _
    rw [hy]
    show ((itemsF (l.length + 1 + n) (l.flatMap tkI)).map fun l => y :: l) = _
    rw [ih]; rfl
end Go.Proofs.Url

/- Plain: tokens of a text that is laid piece by piece; those of what should look so. No program is named here. -/
namespace Go.Proofs.Url
open Syn
/-- A text's tokens, up to their places, whatever of the kind C follows. -/
def LexT (C : List UInt8 → Prop) (l : List UInt8) (rs : List Tk) : Prop := ∀ rest, C rest → ∀ f pos n, (l ++ rest).length < f → n + rs.length ≤ 2000 →
  ∃ us pos' f', us.map kt = rs.map kt ∧ rest.length < f' ∧ toksF f pos (l ++ rest) n = (toksF f' pos' rest (n + rs.length)).put us
abbrev AnyL : List UInt8 → Prop := fun _ => True
theorem LexT.nil (C : List UInt8 → Prop) : LexT C [] [] := fun rest _ f pos n hf _ => ⟨[], pos, f, rfl, hf, by rw [put_nil]; rfl⟩
theorem LexT.gap (C : List UInt8 → Prop) {g : List UInt8} (h : ∀ rest, gapB false (g ++ rest) = g.length + gapB false rest) : LexT C g [] := by
  intro rest _ f pos n hf _
  rw [List.length_append] at hf
  obtain ⟨m, rfl⟩ : ∃ m, f = m + 1 := ⟨f - 1, by omega⟩
  exact ⟨[], pos + g.length, m + 1, rfl, by omega, by rw [toksF_gap m pos g.length (g ++ rest) rest n (h rest) List.drop_left, put_nil]; rfl⟩
theorem LexT.app {C D : List UInt8 → Prop} {l m : List UInt8} {rs qs : List Tk} (h : LexT C l rs) (k : LexT D m qs) (hc : ∀ rest, D rest → C (m ++ rest)) : LexT D (l ++ m) (rs ++ qs) := by
  intro rest hr f pos n hf hn
  rw [List.length_append] at hn
  obtain ⟨us, p1, f1, e1, l1, h1⟩ := h (m ++ rest) (hc rest hr) f pos n (by rw [← List.append_assoc]; exact hf) (by omega)
  obtain ⟨vs, p2, f2, e2, l2, h2⟩ := k rest hr f1 p1 (n + rs.length) l1 (by omega)
  refine ⟨us ++ vs, p2, f2, by rw [List.map_append, List.map_append, e1, e2], l2, ?_⟩
  rw [List.append_assoc, h1, h2, put_put, List.length_append, Nat.add_assoc]
/-- As app, what is behind fits whatever follows. -/
theorem LexT.any {D : List UInt8 → Prop} {l m : List UInt8} {rs qs : List Tk} (h : LexT AnyL l rs) (k : LexT D m qs) : LexT D (l ++ m) (rs ++ qs) := h.app k fun _ _ => trivial
theorem LexT.weak {C D : List UInt8 → Prop} {l : List UInt8} {rs : List Tk} (h : LexT C l rs) (hc : ∀ rest, D rest → C rest) : LexT D l rs := fun rest hr => h rest (hc rest hr)
theorem lex_one {C : List UInt8 → Prop} {t : Tk} (hg : ∀ rest, gapB false (raw9 t ++ rest) = 0) (hl : 1 ≤ (raw9 t).length) (ho : ∀ rest, C rest → oneS (raw9 t ++ rest) = ⟨0, t.kind, t.text, (raw9 t).length⟩) : LexT C (raw9 t) [t] := by
  intro rest hr f pos n hf hn
  rw [List.length_append] at hf
  obtain ⟨m, rfl⟩ : ∃ m, f = m + 1 := ⟨f - 1, by omega⟩
  have hne : (raw9 t ++ rest).isEmpty = false := by
    cases hx : raw9 t with
    | nil => rw [hx] at hl; simp at hl
    | cons y ys => rfl
  rw [List.length_singleton] at hn
  refine ⟨[⟨t.kind, pos, t.text⟩], pos + (raw9 t).length, m, rfl, by omega, ?_⟩
  rw [toksF_succ, hg rest, List.drop_zero, if_neg (by rw [hne]; decide), ho rest hr, if_neg (fun h => h rfl), if_neg (by omega)]
  simp only [Nat.add_zero]
  rw [List.drop_left, List.length_singleton]
theorem LexT.tok {t : Tk} (h : Good9 t) : LexT SepHead (raw9 t) [t] := lex_one h.gap h.len h.one
theorem sign_any {c : UInt8} (h : (c == 123 || c == 125 || c == 40 || c == 41 || c == 59 || c == 61) = true) (p : Nat) : LexT AnyL [c] [⟨4, p, [c]⟩] := by
  have h2 : c ∈ [(123 : UInt8), 125, 40, 41, 59, 61] := by simpa [or_assoc] using h
  refine lex_one (t := ⟨4, p, [c]⟩) (fun rest => ?_) (Nat.le_refl _) (fun rest _ => ?_)
  · show gapB false (c :: rest) = 0
    refine gap_zero rest ?_ ?_
    · exact (by decide : ∀ c ∈ [(123 : UInt8), 125, 40, 41, 59, 61], blankB c = false) c h2
    · exact (by decide : ∀ c ∈ [(123 : UInt8), 125, 40, 41, 59, 61], ¬ c.toNat = 35) c h2
  · show oneC c rest = _
    have h3 := (by decide : ∀ c ∈ [(123 : UInt8), 125, 40, 41, 59, 61], smallB c = false ∧ capB c = false ∧ ¬ c.toNat = 34 ∧ signB c = true) c h2
    rw [oneC_sign rest h3.1 h3.2.1 h3.2.2.1 h3.2.2.2]; rfl
theorem gap_one {c : UInt8} (h : blankB c = true) (rest : List UInt8) : gapB false ([c] ++ rest) = [c].length + gapB false rest := by
  show gapB false (c :: rest) = 1 + _
  rw [gapB, if_pos h]
theorem blank_any : LexT AnyL [32] [] := LexT.gap _ (gap_one rfl)
theorem nl_any : LexT AnyL [10] [] := LexT.gap _ (gap_one rfl)
theorem two_any : LexT AnyL [32, 32] [] := LexT.any blank_any blank_any
theorem sep_cons {c : UInt8} (h : nameB9 c = false ∧ capB c = false) (l : List UInt8) : SepHead (c :: l) := fun x hx => by cases hx; exact h
theorem blank_tok {t : Tk} (h : Good9 t) : LexT SepHead (32 :: raw9 t) [t] := LexT.any blank_any (LexT.tok h)
theorem words9_one : ∀ k ∈ words9, ∃ c r, k = c :: r ∧ (oneC c r).code = 0 ∧ (oneC c r).kind = 2 ∧ (oneC c r).text = k := by
  intro k hk
  have h := (by decide +kernel : ∀ k ∈ words9, (oneS k).code = 0 ∧ (oneS k).kind = 2 ∧ (oneS k).text = k) k hk
  cases k with
  | nil => cases h.1
  | cons c r => exact ⟨c, r, rfl, h⟩
theorem good_word {k : List UInt8} (h : k ∈ words9) (p : Nat) : Good9 ⟨2, p, k⟩ := by
  obtain ⟨c, r, e, h1, h2, h3⟩ := words9_one k h
  have := (good_of (c := c) (r := r) p h1).1
  rwa [h2, h3] at this
theorem word_raw (k : List UInt8) (p : Nat) : raw9 ⟨2, p, k⟩ = k := rfl
theorem words5_9 {k : List UInt8} (h : k ∈ words5) : k ∈ words9 := (by decide +kernel : ∀ x ∈ words5, x ∈ words9) k h
theorem lex_word {k : List UInt8} (h : k ∈ words9) (p : Nat) : LexT SepHead k [⟨2, p, k⟩] := LexT.tok (good_word h p)
theorem lex_blank_word {k : List UInt8} (h : k ∈ words9) (p : Nat) : LexT SepHead (32 :: k) [⟨2, p, k⟩] := blank_tok (good_word h p)
theorem told_raw {t : Tk} (h : t.kind ≠ 0) : toldS t = 32 :: raw9 t := by
  unfold toldS raw9
  rw [if_neg h]
  split <;> rfl
theorem SepB (l : List UInt8) : SepHead (32 :: l) := sep_cons ⟨rfl, rfl⟩ l
/-- In parentheses, or not. -/
theorem lex_wrap {b : Prop} [Decidable b] {l : List UInt8} {ts : List Tk} (h : LexT SepHead l ts) : LexT SepHead (wrapS b l) (wrapK b ts) := by
  unfold wrapS wrapK
  split
  · exact LexT.any (sign_any (c := 40) rfl 0) (h.app ((sign_any (c := 41) rfl 0).weak fun _ _ => trivial) fun rest _ => sep_cons ⟨rfl, rfl⟩ _)
  · exact h
theorem lex_pretty : ∀ {f : Fm}, FineF f → LexT SepHead (prettyF f) (tkF f)
  | .un k nm a, h => (lex_word (words5_9 h.1) 0).app (blank_tok h.2) fun rest _ => SepB _
  | .no f, h => by
    have ih : LexT SepHead (wrF f 3) (wkF f 3) := lex_wrap (lex_pretty (f := f) h)
    rw [pretty_no, tk_no]
    exact (lex_word (k := w_not_) (by decide +kernel) 0).app (LexT.any blank_any ih) fun rest _ => SepB _
  | .both k f g, h => by
    have i1 : LexT SepHead (wrF f (rankF (.both k f g))) (wkF f (rankF (.both k f g))) := lex_wrap (lex_pretty (f := f) h.2.1)
    have i2 : LexT SepHead (wrF g (rankF (.both k f g) + 1)) (wkF g (rankF (.both k f g) + 1)) := lex_wrap (lex_pretty (f := g) h.2.2)
    have hk : k ∈ words9 := by
      rcases h.1 with rfl | rfl
      · exact (by decide +kernel : w_or_ ∈ words9)
      · exact (by decide +kernel : w_and_ ∈ words9)
    rw [pretty_both, tk_both]
    have i3 : LexT SepHead (32 :: (k ++ 32 :: wrF g (rankF (.both k f g) + 1))) (⟨2, 0, k⟩ :: wkF g (rankF (.both k f g) + 1)) :=
      (lex_blank_word hk 0).app (LexT.any blank_any i2) fun rest _ => SepB _
    exact i1.app i3 fun rest _ => SepB _
theorem lex_semi (l : List UInt8) (ts : List Tk) (h : LexT SepHead l ts) : LexT AnyL (l ++ [59, 10]) (ts ++ [semiK]) :=
  h.app (D := AnyL) (LexT.any (sign_any (c := 59) rfl 0) nl_any) fun _ _ => sep_cons ⟨rfl, rfl⟩ _
theorem lex_attr {a : Atr} (h : FineA a) : LexT AnyL (showA a) (tkA a) := by
  have key : ∀ {t : Tk} (k : List UInt8) (p : Nat), k ∈ words9 → t.kind ≠ 0 → Good9 t → LexT AnyL (showA ⟨k, p, t⟩) (tkA ⟨k, p, t⟩) := by
    intro t k p hk h0 hg
    have e1 : showA ⟨k, p, t⟩ = [32, 32] ++ ((k ++ 32 :: raw9 t) ++ [59, 10]) := by unfold showA; rw [told_raw h0]; rfl
    have e2 : tkA ⟨k, p, t⟩ = [] ++ (([⟨2, p, k⟩] ++ [t]) ++ [semiK]) := by unfold tkA optK; rw [if_neg h0]; rfl
    rw [e1, e2]
    exact LexT.any two_any (lex_semi _ _ ((lex_word hk p).app (blank_tok hg) fun rest _ => SepB _))
  have hw := attr_word h
  cases h with
  | bare k p hk =>
    have e1 : showA ⟨k, p, zeroT⟩ = [32, 32] ++ (k ++ [59, 10]) := by unfold showA; rw [show toldS zeroT = [] from rfl, List.append_nil]; rfl
    rw [e1]
    exact LexT.any two_any (lex_semi _ _ (lex_word hw p))
  | named k p q x hk hg => exact key k p hw (by decide : (1 : Nat) ≠ 0) hg
  | any p q => exact key w_cors p hw (by decide : (2 : Nat) ≠ 0) (good_word (by decide +kernel) q)
  | cors p q x hg => exact key w_cors p hw (by decide : (1 : Nat) ≠ 0) hg
  | texted k p q x hk hg => exact key k p hw (by decide : (3 : Nat) ≠ 0) hg
theorem lex_flat {α : Type} {f : α → List UInt8} {g : α → List Tk} : ∀ (l : List α), (∀ a ∈ l, LexT AnyL (f a) (g a)) → LexT AnyL (l.flatMap f) (l.flatMap g)
  | [], _ => LexT.nil _
  | a :: l, h => by
    rw [List.flatMap_cons, List.flatMap_cons]
    exact LexT.any (h a (List.mem_cons_self ..)) (lex_flat l fun b hb => h b (List.mem_cons_of_mem a hb))
theorem lex_next {l : List UInt8} {ts : List Tk} (h : LexT SepHead l ts) {t : Tk} (hg : Good9 t) : LexT SepHead (l ++ 32 :: raw9 t) (ts ++ [t]) := h.app (blank_tok hg) fun _ _ => SepB _
theorem lex_item {y : Itm} (h : FineI y) : LexT AnyL (showI y) (tkI y) := by
  cases h with
  | origin p a b x y g1 g2 =>
    have := lex_semi _ _ (lex_next (lex_next (lex_word (k := w_origin) (by decide +kernel) p) g1) g2)
    simpa [showI, tkI, headS, headK, toldS, raw9, optK, w_origin, w_endpoint] using this
  | cookie p a b c x y z g1 g2 g3 =>
    have := lex_semi _ _ (lex_next (lex_next (lex_next (lex_next (lex_word (k := w_cookie) (by decide +kernel) p) g1) (good_word (k := w_at) (by decide +kernel) 0)) g2) g3)
    simpa [showI, tkI, headS, headK, toldS, raw9, optK, w_cookie, w_endpoint, w_at] using this
  | secret p a x g1 =>
    have := lex_semi _ _ (lex_next (lex_word (k := w_secret) (by decide +kernel) p) g1)
    simpa [showI, tkI, headS, headK, toldS, raw9, optK, w_secret, w_endpoint] using this
  | network p =>
    have := lex_semi _ _ (lex_word (k := w_network) (by decide +kernel) p)
    simpa [showI, tkI, headS, headK, toldS, raw9, optK, w_network, w_endpoint] using this
  | endpoint p a b c d x y z u l g1 g2 g3 g4 hl =>
    have h1 := lex_next (lex_next (lex_next (lex_next (lex_next (lex_word (k := w_endpoint) (by decide +kernel) p) g1) (good_word (k := w_at) (by decide +kernel) 0)) g2) g3) g4
    have h2 : LexT AnyL [32, 123, 10] [⟨4, 0, [123]⟩] := LexT.any blank_any (LexT.any (sign_any (c := 123) rfl 0) nl_any)
    have h3 : LexT AnyL [125, 10] [⟨4, 0, [125]⟩] := LexT.any (sign_any (c := 125) rfl 0) nl_any
    have := (h1.app h2 fun rest _ => SepB _).any ((lex_flat (f := showA) (g := tkA) l fun t ht => lex_attr (hl t ht)).any h3)
    simpa [showI, tkI, headS, headK, toldS, raw9, optK, w_endpoint, w_at] using this
  | property p a x f g1 hf =>
    have h1 := lex_next (lex_word (k := w_property) (by decide +kernel) p) g1
    have h2 : LexT AnyL [32, 61, 32] [⟨4, 0, [61]⟩] := LexT.any blank_any (LexT.any (sign_any (c := 61) rfl 0) blank_any)
    have := (h1.app h2 fun rest _ => SepB _).any (lex_semi _ _ (lex_pretty hf))
    simpa [showI, tkI, headS, headK, toldS, raw9, optK, w_property, w_endpoint] using this
theorem lex_done {l : List UInt8} {ts : List Tk} (h : LexT AnyL l ts) (hl : l.length ≤ 8000) (hn : ts.length ≤ 2000) : ∃ us, toksS l = .ok us ∧ us.map kt = ts.map kt := by
  obtain ⟨us, p, f, e, l1, h1⟩ := h [] trivial (l.length + 1) 0 0 (by rw [List.append_nil]; omega) (by omega)
  rw [List.append_nil] at h1
  obtain ⟨m, rfl⟩ : ∃ m, f = m + 1 := ⟨f - 1, by simp at l1; omega⟩
  refine ⟨us, ?_, e⟩
  unfold toksS
  rw [if_neg (by omega), h1]
  show (Toks.ok (us ++ [])) = _
  rw [List.append_nil]
end Go.Proofs.Url

/- Plain: what is read can be read again of its own text; tokens alike are read alike. No program is named here. -/
namespace Go.Proofs.Url
open Syn
/-- Tokens that can be told again. -/
def AG (ts : List Tk) : Prop := ∀ t ∈ ts, Good9 t
theorem AG.tail {ts : List Tk} (h : AG ts) : AG ts.tail := fun t ht => h t (List.mem_of_mem_tail ht)
theorem AG.cons {t : Tk} {r : List Tk} (h : AG (t :: r)) : Good9 t ∧ AG r := ⟨h t (List.mem_cons_self ..), fun x hx => h x (List.mem_cons_of_mem t hx)⟩
theorem chain_good {s : List UInt8} : ∀ {ts : List Tk} {pos : Nat}, Chain s pos ts → AG ts
  | [], _, _ => fun t ht => by cases ht
  | u :: ts, _, h => fun t ht => by
    rcases List.mem_cons.1 ht with rfl | ht
    · exact h.2.2.1
    · exact chain_good h.2.2.2 t ht
theorem toksS_good {s : List UInt8} {ts : List Tk} (h : toksS s = .ok ts) : AG ts := chain_good (chain_start h)
theorem good_kind {t : Tk} (h : Good9 t) : t.kind ≠ 0 := by
  have h1 := h.one [] (fun x hx => by cases hx)
  have h2 := h.len
  rw [List.append_nil] at h1
  cases hr : raw9 t with
  | nil => rw [hr] at h2; simp at h2
  | cons c r =>
    rw [hr] at h1
    have := oneC_kind c r (by show (oneS (c :: r)).code = 0; rw [h1])
    rw [show oneC c r = oneS (c :: r) from rfl, h1] at this
    exact this
theorem kindR_use {k : Nat} {ts r : List Tk} {t : Tk} (hg : AG ts) (h : kindR k ts = .ok t r) : ∃ p x, t = ⟨k, p, x⟩ ∧ Good9 ⟨k, p, x⟩ ∧ AG r ∧ r.length + 1 = ts.length := by
  obtain ⟨rfl, h2⟩ := kindR_cut h
  obtain ⟨g1, g2⟩ := hg.cons
  have hk : t.kind = k := by
    have := h2 []
    by_cases hh : t.kind = k
    · exact hh
    · have this : (if t.kind = k then Rd.ok t [] else Rd.bad [t]) = Rd.ok t [] := this
      rw [if_neg hh] at this; cases this
  obtain ⟨k', p, x⟩ := t
  subst hk
  exact ⟨p, x, rfl, g1, g2, rfl⟩
theorem needR_use {w : List UInt8} {ts r : List Tk} {u : Unit} (hg : AG ts) (h : needR w ts = .ok u r) : AG r ∧ r.length + 1 = ts.length := by
  obtain ⟨t, rfl, _⟩ := needR_cut h
  exact ⟨hg.cons.2, rfl⟩
theorem isT_use {w : List UInt8} {ts : List Tk} (h : isT w ts = true) : headText ts = w ∧ ts.tail.length + 1 = ts.length := by
  cases ts with
  | nil => cases h
  | cons t r =>
    have h : ((t.kind == 4 || t.kind == 2) && t.text == w) = true := h
    rw [Bool.and_eq_true] at h
    exact ⟨eq_of_beq h.2, rfl⟩
theorem anyT_use {ws : List (List UInt8)} {ts : List Tk} (h : (ws.any fun w => isT w ts) = true) : headText ts ∈ ws ∧ ts.tail.length + 1 = ts.length := by
  obtain ⟨w, hw, h2⟩ := List.any_eq_true.1 h
  obtain ⟨e, l⟩ := isT_use h2
  exact ⟨e ▸ hw, l⟩
theorem wk_mono {f : Fm} {m k : Nat} (h : m ≤ k) : (wkF f m).length ≤ (wkF f k).length := by
  by_cases h1 : rankF f < m
  · rw [wk_high h1, wk_high (by omega : rankF f < k)]; exact Nat.le_refl _
  · rw [wk_low (by omega)]
    by_cases h2 : rankF f < k
    · rw [wk_high h2]; simp; omega
    · rw [wk_low (by omega)]; exact Nat.le_refl _
theorem wk_most (f : Fm) (m : Nat) : (wkF f m).length ≤ (tkF f).length + 2 := by
  by_cases h1 : rankF f < m
  · rw [wk_high h1]; simp
  · rw [wk_low (by omega)]; omega
theorem wk_one (f : Fm) : wkF f 1 = tkF f := wk_low (rank_range f).1
def FR (f : Nat → List Tk → Rd Fm) (m n : Nat) : Prop := ∀ ts a r, AG ts → f n ts = .ok a r → FineF a ∧ AG r ∧ (wkF a m).length + r.length ≤ ts.length
def FL (f : Fm → Nat → List Tk → Rd Fm) (m n : Nat) : Prop := ∀ b ts a r, FineF b → AG ts → f b n ts = .ok a r → FineF a ∧ AG r ∧ (wkF a m).length + r.length ≤ (wkF b m).length + ts.length
theorem form_fine : ∀ n, FR facF 3 n ∧ FR terF 2 n ∧ FL (fun b n => terL n b) 2 n ∧ FR forF 1 n ∧ FL (fun b n => forL n b) 1 n
  | 0 => by
    refine ⟨fun ts a r _ h => ?_, fun ts a r _ h => ?_, fun b ts a r _ _ h => ?_, fun ts a r _ h => ?_, fun b ts a r _ _ h => ?_⟩
    · simp only [facF] at h; cases h
    · simp only [terF] at h; cases h
    · simp only [terL] at h; cases h
    · simp only [forF] at h; cases h
    · simp only [forL] at h; cases h
  | n + 1 => by
    obtain ⟨h1, h2, h3, h4, h5⟩ := form_fine n
    refine ⟨fun ts a r hg h => ?_, fun ts a r hg h => ?_, fun b ts a r hb hg h => ?_, fun ts a r hg h => ?_, fun b ts a r hb hg h => ?_⟩
    · rw [facF] at h
      split at h
      · rename_i c1
        obtain ⟨x, e1, rfl⟩ := mapOk h
        obtain ⟨g1, g2, g3⟩ := h1 _ _ _ hg.tail e1
        have := (isT_use c1).2
        refine ⟨g1, g2, ?_⟩
        rw [wk_low (show 3 ≤ rankF (.no x) from Nat.le_refl 3), tk_no, List.length_cons]; omega
      · split at h
        · rename_i _ c2
          obtain ⟨x, q, e1, e2⟩ := thenOk h
          obtain ⟨u, e3, rfl⟩ := mapOk e2
          obtain ⟨g1, g2, g3⟩ := h4 _ _ _ hg.tail e1
          obtain ⟨g4, g5⟩ := needR_use g2 e3
          have := (isT_use c2).2
          have := wk_most x 3
          rw [wk_one] at g3
          exact ⟨g1, g4, by omega⟩
        · split at h
          · rename_i _ _ c3
            obtain ⟨t, e1, rfl⟩ := mapOk h
            obtain ⟨p, x, rfl, g1, g2, g3⟩ := kindR_use hg.tail e1
            obtain ⟨c4, c5⟩ := anyT_use c3
            refine ⟨⟨c4, g1⟩, g2, ?_⟩
            rw [wk_low (show 3 ≤ rankF (.un _ _ _) from Nat.le_refl 3)]
            show 2 + _ ≤ _
            omega
          · cases h
    · rw [terF] at h
      obtain ⟨x, q, e1, e2⟩ := thenOk h
      obtain ⟨g1, g2, g3⟩ := h1 _ _ _ hg e1
      obtain ⟨k1, k2, k3⟩ := h3 _ _ _ _ g1 g2 e2
      have := wk_mono (f := x) (show 2 ≤ 3 by decide)
      exact ⟨k1, k2, by omega⟩
    · simp only [terL] at h
      split at h
      · rename_i c1
        obtain ⟨x, q, e1, e2⟩ := thenOk h
        obtain ⟨g1, g2, g3⟩ := h1 _ _ _ hg.tail e1
        obtain ⟨k1, k2, k3⟩ := h3 (.both w_and_ b x) _ _ _ ⟨.inr rfl, hb, g1⟩ g2 e2
        have := (isT_use c1).2
        rw [wk_low (f := .both w_and_ b x) (show 2 ≤ 2 from Nat.le_refl 2), tk_both] at k3
        have e : rankF (.both w_and_ b x) = 2 := rfl
        rw [e, List.length_append, List.length_cons] at k3
        have e9 : (wkF x (2 + 1)).length = (wkF x 3).length := rfl
        exact ⟨k1, k2, by omega⟩
      · cases h; exact ⟨hb, hg, Nat.le_refl _⟩
    · rw [forF] at h
      obtain ⟨x, q, e1, e2⟩ := thenOk h
      obtain ⟨g1, g2, g3⟩ := h2 _ _ _ hg e1
      obtain ⟨k1, k2, k3⟩ := h5 _ _ _ _ g1 g2 e2
      have := wk_mono (f := x) (show 1 ≤ 2 by decide)
      exact ⟨k1, k2, by omega⟩
    · simp only [forL] at h
      split at h
      · rename_i c1
        obtain ⟨x, q, e1, e2⟩ := thenOk h
        obtain ⟨g1, g2, g3⟩ := h2 _ _ _ hg.tail e1
        obtain ⟨k1, k2, k3⟩ := h5 (.both w_or_ b x) _ _ _ ⟨.inl rfl, hb, g1⟩ g2 e2
        have := (isT_use c1).2
        rw [wk_low (f := .both w_or_ b x) (show 1 ≤ 1 from Nat.le_refl 1), tk_both] at k3
        have e : rankF (.both w_or_ b x) = 1 := rfl
        rw [e, List.length_append, List.length_cons] at k3
        have e9 : (wkF x (1 + 1)).length = (wkF x 2).length := rfl
        exact ⟨k1, k2, by omega⟩
      · cases h; exact ⟨hb, hg, Nat.le_refl _⟩
theorem attrR_fine {ts r : List Tk} {a : Atr} (hg : AG ts) (h : attrR ts = .ok a r) : FineA a ∧ AG r ∧ (tkA a).length + r.length ≤ ts.length + 1 := by
  unfold attrR at h
  split at h
  · rename_i c
    cases h
    obtain ⟨c1, c2⟩ := anyT_use c
    refine ⟨.bare _ _ c1, hg.tail, ?_⟩
    show 2 + _ ≤ _
    omega
  · split at h
    · rename_i _ c
      obtain ⟨t, e1, rfl⟩ := mapOk h
      obtain ⟨p, x, rfl, g1, g2, g3⟩ := kindR_use hg.tail e1
      obtain ⟨c1, c2⟩ := anyT_use c
      refine ⟨.named _ _ _ _ c1 g1, g2, ?_⟩
      show 3 + _ ≤ _
      omega
    · split at h
      · rename_i _ _ c
        obtain ⟨c1, c2⟩ := isT_use c
        rw [c1] at h
        split at h
        · rename_i d
          obtain ⟨t, e1, rfl⟩ := mapOk h
          obtain ⟨d1, d2⟩ := isT_use d
          obtain ⟨p, x, rfl, g1, g2, g3⟩ := kindR_use hg.tail e1
          obtain ⟨e2, _⟩ := kindR_cut e1
          rw [e2] at d1
          have d1 : x = w_any := d1
          subst d1
          refine ⟨.any _ _, g2, ?_⟩
          show 3 + _ ≤ _
          omega
        · obtain ⟨t, e1, rfl⟩ := mapOk h
          obtain ⟨p, x, rfl, g1, g2, g3⟩ := kindR_use hg.tail e1
          refine ⟨.cors _ _ _ g1, g2, ?_⟩
          show 3 + _ ≤ _
          omega
      · split at h
        · rename_i _ _ _ c
          obtain ⟨t, e1, rfl⟩ := mapOk h
          obtain ⟨p, x, rfl, g1, g2, g3⟩ := kindR_use hg.tail e1
          obtain ⟨c1, c2⟩ := anyT_use c
          refine ⟨.texted _ _ _ _ c1 g1, g2, ?_⟩
          show 3 + _ ≤ _
          omega
        · cases h
theorem attrsF_fine : ∀ (n : Nat) (ts r : List Tk) (l : List Atr), AG ts → attrsF n ts = .ok l r → (∀ a ∈ l, FineA a) ∧ AG r ∧ (l.flatMap tkA).length + r.length ≤ ts.length
  | 0, _, _, _, _, h => by simp only [attrsF] at h; cases h
  | n + 1, ts, r, l, hg, h => by
    rw [attrsF] at h
    split at h
    · cases h; exact ⟨fun a ha => (by cases ha), hg, by simp⟩
    · obtain ⟨a, q, e1, e2⟩ := thenOk h
      obtain ⟨u, q2, e3, e4⟩ := thenOk e2
      obtain ⟨l2, e5, rfl⟩ := mapOk e4
      obtain ⟨g1, g2, g3⟩ := attrR_fine hg e1
      obtain ⟨g4, g5⟩ := needR_use g2 e3
      obtain ⟨k1, k2, k3⟩ := attrsF_fine n _ _ _ g4 e5
      refine ⟨fun x hx => ?_, k2, by rw [List.flatMap_cons, List.length_append]; omega⟩
      rcases List.mem_cons.1 hx with rfl | hx
      · exact g1
      · exact k1 x hx
theorem semiR_use {α : Type} {x : Rd α} {a : α} {r : List Tk} (h : semiR x = .ok a r) : ∃ q u, x = .ok a q ∧ needR w_semi q = .ok u r := by
  unfold semiR at h
  obtain ⟨b, q, e1, e2⟩ := thenOk h
  obtain ⟨u, e3, rfl⟩ := mapOk e2
  exact ⟨q, u, e1, e3⟩
theorem itemR_fine {ts r : List Tk} {y : Itm} (hg : AG ts) (h : itemR ts = .ok y r) : FineI y ∧ AG r ∧ (tkI y).length + r.length ≤ ts.length := by
  unfold itemR at h
  split at h
  · rename_i c
    obtain ⟨c1, c2⟩ := isT_use c
    obtain ⟨q, u, h, hs⟩ := semiR_use h
    obtain ⟨nm, r1, e1, h⟩ := thenOk h
    obtain ⟨tx, e2, rfl⟩ := mapOk h
    obtain ⟨p1, x1, rfl, a1, a2, a3⟩ := kindR_use hg.tail e1
    obtain ⟨p2, x2, rfl, b1, b2, b3⟩ := kindR_use a2 e2
    obtain ⟨s1, s2⟩ := needR_use b2 hs
    rw [c1]
    refine ⟨.origin _ _ _ _ _ a1 b1, s1, ?_⟩
    show 4 + _ ≤ _
    omega
  split at h
  · rename_i _ c
    obtain ⟨c1, c2⟩ := isT_use c
    obtain ⟨q, u, h, hs⟩ := semiR_use h
    obtain ⟨nm, r1, e1, h⟩ := thenOk h
    obtain ⟨u2, r2, e2, h⟩ := thenOk h
    obtain ⟨wh, r3, e3, h⟩ := thenOk h
    obtain ⟨tx, e4, rfl⟩ := mapOk h
    obtain ⟨p1, x1, rfl, a1, a2, a3⟩ := kindR_use hg.tail e1
    obtain ⟨b2, b3⟩ := needR_use a2 e2
    obtain ⟨p3, x3, rfl, d1, d2, d3⟩ := kindR_use b2 e3
    obtain ⟨p4, x4, rfl, f1, f2, f3⟩ := kindR_use d2 e4
    obtain ⟨s1, s2⟩ := needR_use f2 hs
    rw [c1]
    refine ⟨.cookie _ _ _ _ _ _ _ a1 d1 f1, s1, ?_⟩
    show 6 + _ ≤ _
    omega
  split at h
  · rename_i _ _ c
    obtain ⟨c1, c2⟩ := isT_use c
    obtain ⟨q, u, h, hs⟩ := semiR_use h
    obtain ⟨nm, e1, rfl⟩ := mapOk h
    obtain ⟨p1, x1, rfl, a1, a2, a3⟩ := kindR_use hg.tail e1
    obtain ⟨s1, s2⟩ := needR_use a2 hs
    rw [c1]
    refine ⟨.secret _ _ _ a1, s1, ?_⟩
    show 3 + _ ≤ _
    omega
  split at h
  · rename_i _ _ _ c
    obtain ⟨c1, c2⟩ := isT_use c
    obtain ⟨q, u, h, hs⟩ := semiR_use h
    cases h
    obtain ⟨s1, s2⟩ := needR_use hg.tail hs
    rw [c1]
    refine ⟨.network _, s1, ?_⟩
    show 2 + _ ≤ _
    omega
  split at h
  · rename_i _ _ _ _ c
    obtain ⟨c1, c2⟩ := isT_use c
    obtain ⟨nm, r1, e1, h⟩ := thenOk h
    obtain ⟨u2, r2, e2, h⟩ := thenOk h
    obtain ⟨wh, r3, e3, h⟩ := thenOk h
    obtain ⟨cp, r4, e4, h⟩ := thenOk h
    obtain ⟨tx, r5, e5, h⟩ := thenOk h
    obtain ⟨u6, r6, e6, h⟩ := thenOk h
    obtain ⟨l, r7, e7, h⟩ := thenOk h
    obtain ⟨u8, e8, rfl⟩ := mapOk h
    obtain ⟨p1, x1, rfl, a1, a2, a3⟩ := kindR_use hg.tail e1
    obtain ⟨b2, b3⟩ := needR_use a2 e2
    obtain ⟨p3, x3, rfl, d1, d2, d3⟩ := kindR_use b2 e3
    obtain ⟨p4, x4, rfl, f1, f2, f3⟩ := kindR_use d2 e4
    obtain ⟨p5, x5, rfl, i1, i2, i3⟩ := kindR_use f2 e5
    obtain ⟨j2, j3⟩ := needR_use i2 e6
    obtain ⟨k1, k2, k3⟩ := attrsF_fine _ _ _ _ j2 e7
    obtain ⟨s1, s2⟩ := needR_use k2 e8
    rw [c1]
    refine ⟨.endpoint _ _ _ _ _ _ _ _ _ l a1 d1 f1 i1 k1, s1, ?_⟩
    show ([⟨2, headAt ts, w_endpoint⟩, ⟨1, p1, x1⟩, ⟨2, 0, w_at⟩, ⟨1, p3, x3⟩, ⟨5, p4, x4⟩, ⟨3, p5, x5⟩] ++ ⟨4, 0, [123]⟩ :: (l.flatMap tkA ++ [⟨4, 0, [125]⟩]) : List Tk).length + _ ≤ _
    simp only [List.length_append, List.length_cons, List.length_nil]
    omega
  split at h
  · rename_i _ _ _ _ _ c
    obtain ⟨c1, c2⟩ := isT_use c
    obtain ⟨q, u, h, hs⟩ := semiR_use h
    obtain ⟨nm, r1, e1, h⟩ := thenOk h
    obtain ⟨u2, r2, e2, h⟩ := thenOk h
    obtain ⟨f, e3, rfl⟩ := mapOk h
    obtain ⟨p1, x1, rfl, a1, a2, a3⟩ := kindR_use hg.tail e1
    obtain ⟨b2, b3⟩ := needR_use a2 e2
    obtain ⟨k1, k2, k3⟩ := (form_fine _).2.2.2.1 _ _ _ b2 e3
    obtain ⟨s1, s2⟩ := needR_use k2 hs
    rw [c1]
    rw [wk_one] at k3
    refine ⟨.property _ _ _ f a1 k1, s1, ?_⟩
    show ([⟨2, headAt ts, w_property⟩, ⟨1, p1, x1⟩] ++ ⟨4, 0, [61]⟩ :: (tkF f ++ [semiK]) : List Tk).length + _ ≤ _
    simp only [List.length_append, List.length_cons, List.length_nil]
    omega
  · cases h
theorem itemsF_fine : ∀ (n : Nat) (ts q : List Tk) (xs : List Itm), AG ts → itemsF n ts = .ok xs q → (∀ y ∈ xs, FineI y) ∧ (xs.flatMap tkI).length ≤ ts.length
  | 0, _, _, _, _, h => by simp only [itemsF] at h; cases h
  | n + 1, [], _, _, _, h => by cases h; exact ⟨fun y hy => (by cases hy), Nat.le_refl _⟩
  | n + 1, t :: ts, q, xs, hg, h => by
    have h : ((itemR (t :: ts)).then fun x r' => (itemsF n r').map fun l => x :: l) = .ok xs q := h
    obtain ⟨x, r, e1, h⟩ := thenOk h
    obtain ⟨l, e2, rfl⟩ := mapOk h
    obtain ⟨g1, g2, g3⟩ := itemR_fine hg e1
    obtain ⟨k1, k2⟩ := itemsF_fine n _ _ _ g2 e2
    refine ⟨fun y hy => ?_, by rw [List.flatMap_cons, List.length_append]; omega⟩
    rcases List.mem_cons.1 hy with rfl | hy
    · exact g1
    · exact k1 y hy
/-- Tokens, their places being their numbers. -/
def canonK : Nat → List Tk → List Tk
  | _, [] => []
  | i, t :: r => ⟨t.kind, i, t.text⟩ :: canonK (i + 1) r
theorem canon_len : ∀ (ts : List Tk) (i : Nat), (canonK i ts).length = ts.length
  | [], _ => rfl
  | _ :: r, i => congrArg (· + 1) (canon_len r (i + 1))
theorem canon_kt : ∀ {ts us : List Tk} (i : Nat), ts.map kt = us.map kt → canonK i ts = canonK i us
  | [], [], _, _ => rfl
  | [], _ :: _, _, h => by cases h
  | _ :: _, [], _, h => by cases h
  | t :: ts, u :: us, i, h => by
    rw [List.map_cons, List.map_cons, List.cons.injEq] at h
    have h1 : t.kind = u.kind ∧ t.text = u.text := by have := h.1; unfold kt at this; exact ⟨(Prod.mk.inj this).1, (Prod.mk.inj this).2⟩
    rw [canonK, canonK, h1.1, h1.2, canon_kt (i + 1) h.2]
theorem canon_sh : ∀ (ts : List Tk) (i : Nat) (d : Nat → Nat), (∀ t ∈ ts, t.kind ≠ 0) → (∀ (j : Nat) (h : j < ts.length), d (i + j) = ts[j].at') → (canonK i ts).map (shT d) = ts
  | [], _, _, _, _ => rfl
  | t :: r, i, d, hk, hd => by
    rw [canonK, List.map_cons, canon_sh r (i + 1) d (fun x hx => hk x (List.mem_cons_of_mem t hx)) fun j h => ?_]
    · congr 1
      unfold shT
      rw [if_neg (hk t (List.mem_cons_self ..))]
      have := hd 0 (by simp)
      rw [Nat.add_zero] at this
      simp only [this, List.getElem_cons_zero]
    · have := hd (j + 1) (by simp; omega)
      rw [List.getElem_cons_succ] at this
      rw [← this]; congr 1; omega
def atK (ts : List Tk) (i : Nat) : Nat := if h : i < ts.length then ts[i].at' else 0
theorem canon_all {ts : List Tk} (hk : ∀ t ∈ ts, t.kind ≠ 0) : (canonK 0 ts).map (shT (atK ts)) = ts :=
  canon_sh ts 0 (atK ts) hk fun j h => by rw [Nat.zero_add]; exact dif_pos h
/-- Items that stand elsewhere alone. -/
def Alike (xs ys : List Itm) : Prop := ∃ (zs : List Itm) (d e : Nat → Nat), xs = zs.map (shI d) ∧ ys = zs.map (shI e)
theorem alike_flat {g : Itm → List UInt8} (hg : ∀ d x, g (shI d x) = g x) {xs ys : List Itm} (h : Alike xs ys) : xs.flatMap g = ys.flatMap g := by
  obtain ⟨zs, d, e, rfl, rfl⟩ := h
  rw [List.flatMap_map, List.flatMap_map]
  congr 1
  funext x
  rw [hg, hg]
theorem alike_deep {xs ys : List Itm} (h : Alike xs ys) : xs.any deepI = ys.any deepI := by
  obtain ⟨zs, d, e, rfl, rfl⟩ := h
  rw [List.any_map, List.any_map]
  congr 1
  funext x
  show deepI (shI d x) = deepI (shI e x)
  rw [deepI_sh, deepI_sh]
theorem alike_lines {xs ys : List Itm} (h : Alike xs ys) : xs.flatMap lineS = ys.flatMap lineS := alike_flat lineS_sh h
theorem alike_shows {xs ys : List Itm} (h : Alike xs ys) : xs.flatMap showI = ys.flatMap showI := alike_flat showI_sh h
theorem items_alike {ts us : List Tk} (h : ts.map kt = us.map kt) (hk : ∀ t ∈ ts, t.kind ≠ 0) (n : Nat) :
    (∃ xs ys q r, itemsF n ts = .ok xs q ∧ itemsF n us = .ok ys r ∧ Alike xs ys) ∨ (∃ q r, itemsF n ts = .bad q ∧ itemsF n us = .bad r) := by
  have hk2 : ∀ t ∈ us, t.kind ≠ 0 := fun t ht => by
    have : kt t ∈ us.map kt := List.mem_map_of_mem ht
    rw [← h] at this
    obtain ⟨u, hu, e⟩ := List.mem_map.1 this
    have e2 : u.kind = t.kind := (Prod.mk.inj e).1
    rw [← e2]; exact hk u hu
  have e1 := canon_all hk
  have e2 := canon_all hk2
  rw [← canon_kt 0 h] at e2
  have s1 := itemsF_sh (atK ts) n (canonK 0 ts)
  have s2 := itemsF_sh (atK us) n (canonK 0 ts)
  rw [e1] at s1
  rw [e2] at s2
  cases hx : itemsF n (canonK 0 ts) with
  | ok zs q =>
    rw [hx] at s1 s2
    exact .inl ⟨_, _, _, _, s1, s2, zs, atK ts, atK us, rfl, rfl⟩
  | bad q =>
    rw [hx] at s1 s2
    exact .inr ⟨_, _, s1, s2⟩
/-- What is shown is read as what it was shown of. -/
theorem show_again {s : List UInt8} {xs : List Itm} (h : readS10 s = .ok xs) (hl : (xs.flatMap showI).length ≤ 8000) : ∃ ys, readS10 (xs.flatMap showI) = .ok ys ∧ Alike xs ys := by
  obtain ⟨ts, q, h1, h2, h3⟩ := readS10_ok h
  obtain ⟨f1, f2⟩ := itemsF_fine _ _ _ _ (toksS_good h1) h2
  have hm := toksS_many h1
  obtain ⟨us, u1, u2⟩ := lex_done (lex_flat (f := showI) (g := tkI) xs fun y hy => lex_item (f1 y hy)) hl (Nat.le_trans f2 hm)
  have hk : ∀ t ∈ us, t.kind ≠ 0 := fun t ht => good_kind (toksS_good u1 t ht)
  have hlen : us.length = (xs.flatMap tkI).length := by have := congrArg List.length u2; simpa using this
  have hle : xs.length ≤ (xs.flatMap tkI).length := by
    clear h h1 h2 h3 f1 f2 hm u1 u2 hk hlen hl
    induction xs with
    | nil => exact Nat.le_refl _
    | cons t l ih =>
      obtain ⟨a, b, e⟩ := tkI_ne t
      rw [List.flatMap_cons, List.length_append, List.length_cons, e, List.length_cons]; omega
  have hi := itemsF_tk xs f1 (us.length - xs.length)
  rw [show xs.length + 1 + (us.length - xs.length) = us.length + 1 by omega] at hi
  rcases items_alike u2 hk (us.length + 1) with ⟨ys, zs, p, r, a1, a2, a3⟩ | ⟨p, r, a1, a2⟩
  · rw [hi] at a2
    cases a2
    obtain ⟨ws, d, e, b1, b2⟩ := a3
    have al : Alike xs ys := ⟨ws, e, d, b2, b1⟩
    exact ⟨ys, readS10_of u1 a1 (by rw [← alike_deep al]; exact h3), al⟩
  · rw [hi] at a2; cases a2
end Go.Proofs.Url
