/- Plain: tokens are told again of their own bytes, with gaps between (LexParts). -/
import Derived.Test.YtkpkpiikhcggkaaLx7
namespace Go.Proofs.Url

/-- A token's own bytes. -/
def raw9 (t : Tk) : List UInt8 := if t.kind = 3 then 34 :: (t.text ++ [34]) else t.text
/-- What may stand behind a token, so that it ends there. -/
def SepHead (l : List UInt8) : Prop := ∀ x, l.head? = some x → nameB9 x = false ∧ capB x = false
/-- A token that is told again of its own bytes. -/
structure Good9 (t : Tk) : Prop where
  gap : ∀ rest, gapB false (raw9 t ++ rest) = 0
  len : 1 ≤ (raw9 t).length
  one : ∀ rest, SepHead rest → oneS (raw9 t ++ rest) = ⟨0, t.kind, t.text, (raw9 t).length⟩
theorem gap_zero {c : UInt8} (r : List UInt8) (h : blankB c = false) (h2 : ¬ c.toNat = 35) : gapB false (c :: r) = 0 := by
  rw [gapB, if_neg (by simp [h]), if_neg h2]
theorem takeWhile_mem {f : UInt8 → Bool} : ∀ {l : List UInt8} {x : UInt8}, x ∈ l.takeWhile f → f x = true
  | [], _, h => by simp at h
  | y :: l, x, h => by
    rw [List.takeWhile_cons] at h
    by_cases hy : f y = true
    · rw [if_pos hy, List.mem_cons] at h
      rcases h with rfl | h
      · exact hy
      · exact takeWhile_mem h
    · rw [if_neg hy] at h; simp at h
theorem good_of {c : UInt8} {r : List UInt8} (p : Nat) (h : (oneC c r).code = 0) : Good9 ⟨(oneC c r).kind, p, (oneC c r).text⟩ ∧ raw9 ⟨(oneC c r).kind, p, (oneC c r).text⟩ <+: c :: r ∧ (raw9 ⟨(oneC c r).kind, p, (oneC c r).text⟩).length = (oneC c r).len := by
  cases h1 : smallB c with
  | true =>
    rw [oneC_small r h1] at h ⊢
    simp only at h ⊢
    obtain ⟨T, hT⟩ : ∃ T, T = (c :: r).takeWhile nameB9 := ⟨_, rfl⟩
    rw [← hT] at h ⊢
    have hc : T = c :: r.takeWhile nameB9 := by rw [hT, List.takeWhile_cons, if_pos (small_name h1)]
    have hall : ∀ x ∈ T, nameB9 x = true := fun x hx => by rw [hT] at hx; exact takeWhile_mem hx
    have h20 : ¬ 20 < T.length := by intro e; rw [if_pos e] at h; cases h
    have hk : (if wordS T then 2 else 1) ≠ 3 := by split <;> decide
    have hr : raw9 ⟨if wordS T then 2 else 1, p, T⟩ = T := by unfold raw9; exact if_neg hk
    refine ⟨⟨fun rest => ?_, ?_, fun rest hs => ?_⟩, ?_, ?_⟩
    · rw [hr, hc]; exact gap_small _ (small_name h1)
    · rw [hr, hc]; simp
    · rw [hr]
      have ht : (T ++ rest).takeWhile nameB9 = T := run_app nameB9 rest (fun x hx => (hs x hx).1) T hall
      have hcons : T ++ rest = c :: (r.takeWhile nameB9 ++ rest) := by rw [hc]; rfl
      rw [hcons]
      show oneC c _ = _
      rw [oneC_small _ h1, ← hcons, ht, if_neg h20]
    · rw [hr, hT]; exact List.takeWhile_prefix _
    · rw [hr]
  | false =>
    cases h2 : capB c with
    | true =>
      rw [oneC_cap r h1 h2] at h ⊢
      simp only at h ⊢
      obtain ⟨T, hT⟩ : ∃ T, T = (c :: r).takeWhile capB := ⟨_, rfl⟩
      rw [← hT] at h ⊢
      have hc : T = c :: r.takeWhile capB := by rw [hT, List.takeWhile_cons, if_pos h2]
      have hall : ∀ x ∈ T, capB x = true := fun x hx => by rw [hT] at hx; exact takeWhile_mem hx
      have h20 : ¬ 20 < T.length := by intro e; rw [if_pos e] at h; cases h
      have hr : raw9 ⟨5, p, T⟩ = T := rfl
      have hcn : 65 ≤ c.toNat ∧ c.toNat ≤ 90 := by unfold capB at h2; simpa using h2
      refine ⟨⟨fun rest => ?_, ?_, fun rest hs => ?_⟩, ?_, ?_⟩
      · rw [hr, hc]; exact gap_zero _ (by unfold blankB; simp; omega) (by omega)
      · rw [hr, hc]; simp
      · rw [hr]
        have ht : (T ++ rest).takeWhile capB = T := run_app capB rest (fun x hx => (hs x hx).2) T hall
        have hcons : T ++ rest = c :: (r.takeWhile capB ++ rest) := by rw [hc]; rfl
        rw [hcons]
        show oneC c _ = _
        rw [oneC_cap _ h1 h2, ← hcons, ht, if_neg h20]
      · rw [hr, hT]; exact List.takeWhile_prefix _
      · rw [hr]
    | false =>
      by_cases h3 : c.toNat = 34
      · by_cases hq : r[(r.takeWhile textB).length]? = some 34
        · rw [oneC_text r h1 h2 h3 hq] at h ⊢
          simp only at h ⊢
          obtain ⟨T, hT⟩ : ∃ T, T = r.takeWhile textB := ⟨_, rfl⟩
          rw [← hT] at h hq ⊢
          have hall : ∀ x ∈ T, textB x = true := fun x hx => by rw [hT] at hx; exact takeWhile_mem hx
          have h200 : ¬ 200 < T.length := by intro e; rw [if_pos e] at h; cases h
          have hr : raw9 ⟨3, p, T⟩ = 34 :: (T ++ [34]) := rfl
          have hc34 : c = 34 := UInt8.toNat_inj.1 h3
          refine ⟨⟨fun rest => ?_, ?_, fun rest hs => ?_⟩, ?_, ?_⟩
          · rw [hr]; exact gap_zero _ (by decide) (by decide)
          · rw [hr]; simp
          · rw [hr]
            show oneC 34 ((T ++ [34]) ++ rest) = _
            have e : (T ++ [34]) ++ rest = T ++ 34 :: rest := by simp
            have ht : (T ++ 34 :: rest).takeWhile textB = T := run_app textB (34 :: rest) (fun x hx => by cases hx; rfl) T hall
            rw [e, oneC_text _ (by decide) (by decide) (by decide) (by rw [ht]; simp), ht, if_neg h200]
            simp
          · rw [hr, hc34]
            obtain ⟨q, hq2⟩ := List.takeWhile_prefix textB (l := r)
            rw [← hT] at hq2
            rw [← hq2, List.getElem?_append_right (Nat.le_refl _), Nat.sub_self] at hq
            cases q with
            | nil => cases hq
            | cons y q =>
              have : y = 34 := by simpa using hq
              rw [← hq2, this]
              exact ⟨q, by simp⟩
          · rw [hr]; simp
        · rw [oneC_open r h1 h2 h3 hq] at h; cases h
      · cases h4 : signB c with
        | true =>
          rw [oneC_sign r h1 h2 h3 h4]
          have hv : c.toNat = 123 ∨ c.toNat = 125 ∨ c.toNat = 40 ∨ c.toNat = 41 ∨ c.toNat = 59 ∨ c.toNat = 61 := by unfold signB at h4; simpa using h4
          refine ⟨⟨fun rest => ?_, ?_, fun rest hs => ?_⟩, ?_, ?_⟩
          · exact gap_zero _ (by unfold blankB; simp; omega) (by omega)
          · exact Nat.le_refl _
          · show oneC c rest = _
            rw [oneC_sign rest h1 h2 h3 h4]; rfl
          · exact ⟨r, rfl⟩
          · rfl
        | false => rw [oneC_none r h1 h2 h3 h4] at h; cases h
/-- Tokens one behind the other, in a text. -/
def Chain (s : List UInt8) : Nat → List Tk → Prop
  | _, [] => True
  | pos, t :: ts => pos ≤ t.at' ∧ raw9 t <+: s.drop t.at' ∧ Good9 t ∧ Chain s (t.at' + (raw9 t).length) ts
theorem chain_of (s : List UInt8) : ∀ (f pos n : Nat) (ts : List Tk), toksF f pos (s.drop pos) n = .ok ts → Chain s pos ts
  | 0, _, _, ts, h => by cases h; trivial
  | f + 1, pos, n, ts, h => by
    rw [toksF_succ] at h
    by_cases h1 : ((s.drop pos).drop (gapB false (s.drop pos))).isEmpty
    · rw [if_pos h1] at h; cases h; trivial
    · rw [if_neg h1] at h
      by_cases h2 : (oneS ((s.drop pos).drop (gapB false (s.drop pos)))).code ≠ 0
      · rw [if_pos h2] at h; cases h
      · rw [if_neg h2] at h
        by_cases h3 : n = 2000
        · rw [if_pos h3] at h; cases h
        · rw [if_neg h3] at h
          rw [List.drop_drop] at h h1 h2
          obtain ⟨q, hq⟩ : ∃ q, q = pos + gapB false (s.drop pos) := ⟨_, rfl⟩
          rw [← hq] at h h1 h2
          have hpq : pos ≤ q := by omega
          clear hq
          cases hd : s.drop q with
          | nil => rw [hd] at h1; exact absurd rfl h1
          | cons c r =>
            have hdr : (c :: r).drop (oneS (c :: r)).len = s.drop (q + (oneS (c :: r)).len) := by rw [← hd, List.drop_drop]
            rw [hd] at h h2
            have hc : (oneC c r).code = 0 := Decidable.not_not.1 h2
            obtain ⟨g1, g2, g3⟩ := good_of q hc
            rw [hdr] at h
            cases hr : toksF f (q + (oneS (c :: r)).len) (s.drop (q + (oneS (c :: r)).len)) (n + 1) with
            | bad c' p' => rw [hr] at h; cases h
            | ok us =>
              rw [hr] at h
              simp only [Toks.put, Toks.ok.injEq, List.singleton_append] at h
              rw [← h]
              have ih := chain_of s f _ _ us hr
              exact ⟨hpq, by rw [hd]; exact g2, g1, by rw [show (raw9 ⟨(oneS (c :: r)).kind, q, (oneS (c :: r)).text⟩).length = (oneS (c :: r)).len from g3]; exact ih⟩

def seps9 : List (List UInt8) := [[32], [10], [35, 32, 120, 32, 34, 32, 123, 10], [9, 13]]
/-- Tokens, a gap ahead of each. -/
def allP (ps : List (Nat × Tk)) : List UInt8 := ps.flatMap (fun p => seps9.getD p.1 [] ++ raw9 p.2)
theorem allP_next (ps : List (Nat × Tk)) (r : Nat) (t : Tk) : allP (ps ++ [(r, t)]) = allP ps ++ seps9.getD r [] ++ raw9 t := by
  unfold allP; rw [List.flatMap_append]; simp
theorem sep_gap (r : Fin 4) (rest : List UInt8) : gapB false (seps9.getD r [] ++ rest) = (seps9.getD r []).length + gapB false rest := by
  match r with
  | 0 => rfl
  | 1 => rfl
  | 2 => show 1 + (1 + (1 + (1 + (1 + (1 + (1 + (1 + gapB false rest))))))) = 8 + _; omega
  | 3 => show 1 + (1 + gapB false rest) = 2 + _; omega
theorem sep_head (r : Fin 4) (rest : List UInt8) : SepHead (seps9.getD r [] ++ rest) := by
  intro x h
  match r with
  | 0 => cases h; exact ⟨rfl, rfl⟩
  | 1 => cases h; exact ⟨rfl, rfl⟩
  | 2 => cases h; exact ⟨rfl, rfl⟩
  | 3 => cases h; exact ⟨rfl, rfl⟩
theorem allP_head : ∀ ps : List (Nat × Tk), (∀ p ∈ ps, p.1 < 4) → SepHead (allP ps)
  | [], _ => fun x h => by cases h
  | p :: ps, h => by
    have : allP (p :: ps) = seps9.getD p.1 [] ++ (raw9 p.2 ++ allP ps) := by unfold allP; rw [List.flatMap_cons, List.append_assoc]
    rw [this]
    exact sep_head ⟨p.1, h p (List.mem_cons_self ..)⟩ _
/-- The kind and the text. -/
def kt (t : Tk) : Nat × List UInt8 := (t.kind, t.text)
theorem retok : ∀ (ps : List (Nat × Tk)), (∀ p ∈ ps, p.1 < 4 ∧ Good9 p.2) → ∀ (f pos n : Nat), (allP ps).length < f → n + ps.length ≤ 2000 → ∃ us, toksF f pos (allP ps) n = .ok us ∧ us.map kt = ps.map (fun p => kt p.2)
  | _, _, 0, _, _, hf, _ => absurd hf (Nat.not_lt_zero _)
  | [], _, f + 1, pos, n, _, _ => ⟨[], rfl, rfl⟩
  | p :: ps, h, f + 1, pos, n, hf, hn => by
    obtain ⟨h4, hg⟩ := h p (List.mem_cons_self ..)
    have hrest := fun q hq => h q (List.mem_cons_of_mem p hq)
    have e : allP (p :: ps) = seps9.getD p.1 [] ++ (raw9 p.2 ++ allP ps) := by unfold allP; rw [List.flatMap_cons, List.append_assoc]
    have hgap : gapB false (allP (p :: ps)) = (seps9.getD p.1 []).length := by rw [e, sep_gap ⟨p.1, h4⟩, hg.gap]; rfl
    have hd : (allP (p :: ps)).drop (gapB false (allP (p :: ps))) = raw9 p.2 ++ allP ps := by rw [hgap, e, List.drop_left]
    have ho := hg.one (allP ps) (allP_head ps (fun q hq => (hrest q hq).1))
    have hne : (raw9 p.2 ++ allP ps).isEmpty = false := by
      have := hg.len
      cases hr : raw9 p.2 with
      | nil => rw [hr] at this; simp at this
      | cons y ys => rfl
    have hlen : (allP (p :: ps)).length = (seps9.getD p.1 []).length + ((raw9 p.2).length + (allP ps).length) := by rw [e, List.length_append, List.length_append]
    simp only [List.length_cons] at hn
    obtain ⟨us, hu, hk⟩ := retok ps hrest f (pos + gapB false (allP (p :: ps)) + (raw9 p.2).length) (n + 1) (by have := hg.len; omega) (by omega)
    refine ⟨⟨p.2.kind, pos + gapB false (allP (p :: ps)), p.2.text⟩ :: us, ?_, ?_⟩
    · rw [toksF_succ, hd, if_neg (by rw [hne]; decide), ho, if_neg (fun h => h rfl), if_neg (by omega)]
      simp only
      rw [List.drop_left, hu]
      rfl
    · rw [List.map_cons, List.map_cons, hk]; rfl
theorem toksS_retok {ps : List (Nat × Tk)} (h : ∀ p ∈ ps, p.1 < 4 ∧ Good9 p.2) (hl : (allP ps).length ≤ 8000) (hn : ps.length ≤ 2000) : ∃ us, toksS (allP ps) = .ok us ∧ us.map kt = ps.map (fun p => kt p.2) := by
  rw [toksS_small hl]
  unfold toksAt
  rw [List.drop_zero]
  exact retok ps h _ _ _ (by omega) (by omega)
theorem toksS_badc {s : List UInt8} {c p : Nat} (h : toksS s = .bad c p) : c ≠ 0 := by
  unfold toksS at h
  split at h
  · simp only [Toks.bad.injEq] at h; omega
  · exact (toksF_badpos _ _ _ _ _ _ h).2
theorem chain_start {s : List UInt8} {ts : List Tk} (h : toksS s = .ok ts) : Chain s 0 ts := by
  unfold toksS at h
  split at h
  · cases h
  · exact chain_of s _ 0 0 ts (by rw [List.drop_zero]; exact h)
theorem chain_at {s : List UInt8} {pos k : Nat} {ts : List Tk} (hk : k < ts.length) (h : Chain s pos (ts.drop k)) :
    pos ≤ ts[k].at' ∧ raw9 ts[k] <+: s.drop ts[k].at' ∧ Good9 ts[k] ∧ ts[k].at' + (raw9 ts[k]).length ≤ s.length ∧ Chain s (ts[k].at' + (raw9 ts[k]).length) (ts.drop (k + 1)) := by
  rw [List.drop_eq_getElem_cons hk] at h
  obtain ⟨h1, h2, h3, h4⟩ := h
  refine ⟨h1, h2, h3, ?_, h4⟩
  have a := h2.length_le
  have b := h3.len
  rw [List.length_drop] at a
  omega
end Go.Proofs.Url
