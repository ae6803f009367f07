import Derived.Test.YtcmmjmgbanafgaaSx1
/- Plain mathematics of the landed trees (package tree): nodes in a row, what is wanted at a place, how a tree stands for an item. No program is named here. -/
namespace Go.Proofs.Url
open Syn
namespace Syn
abbrev w_NAME : List UInt8 := [78, 65, 77, 69]
abbrev w_CAPS : List UInt8 := [67, 65, 80, 83]
abbrev w_TEXT : List UInt8 := [84, 69, 88, 84]
abbrev w_orNAME : List UInt8 := [97, 110, 121, 32, 111, 114, 32, 78, 65, 77, 69]
end Syn
/-- Nodes in a row: of each its tokens, and what it is made of. -/
inductive Fo where
  | nil : Fo
  | cons : List Tk → Fo → Fo → Fo
def Fo.len : Fo → Nat
  | .nil => 0
  | .cons _ _ r => r.len + 1
abbrev Nd := List Tk × Fo
def Fo.ofL : List Nd → Fo
  | [] => .nil
  | x :: l => .cons x.1 x.2 (Fo.ofL l)
theorem Fo.ofL_len (l : List Nd) : (Fo.ofL l).len = l.length := by
  induction l with
  | nil => rfl
  | cons x l ih => simp [Fo.ofL, Fo.len, ih]
/-- How deep nodes lie in one another. -/
def Fo.depth : Fo → Nat
  | .nil => 0
  | .cons _ p r => max (1 + p.depth) r.depth
def wTok (t : Tk) : List UInt8 := if t.kind = 3 then 34 :: (t.text ++ [34]) else t.text
def joinT : List Tk → List UInt8
  | [] => []
  | t :: r => wTok t ++ r.flatMap fun t => 32 :: wTok t
/-- Nodes as they are told, each in its parentheses. -/
def Fo.told : Fo → List UInt8
  | .nil => []
  | .cons ts p r => 32 :: 40 :: (joinT ts ++ p.told ++ 41 :: r.told)
def ndS (x : Nd) : List UInt8 := joinT x.1 ++ x.2.told

/-- Whether a token is as it is wanted, by what is wanted. -/
def litS (t : Tk) (w : List UInt8) : Bool := (t.kind == 2 || t.kind == 4) && t.text == w
def fitS (t : Tk) (w : List UInt8) : Bool :=
  if w = w_NAME then t.kind == 1 else if w = w_CAPS then t.kind == 5 else if w = w_TEXT then t.kind == 3 else if w = w_orNAME then t.kind == 1 || litS t w_any else litS t w
def fitT (w : List UInt8) : List Tk → Bool
  | [] => false
  | t :: _ => fitS t w
def takesR : List (List UInt8) → List Tk → Rd (List Tk)
  | [], ts => .ok [] ts
  | w :: ws, ts => match ts with
    | [] => .bad []
    | t :: r => if fitS t w then (takesR ws r).map (fun l => if t.kind = 4 then l else t :: l) else .bad (t :: r)
/-- The word that comes, if one does. -/
def wordR : List Tk → List UInt8
  | [] => []
  | t :: _ => if t.kind = 2 then t.text else []
/-- What is known of the tokens of a text. -/
def TokOk (ts : List Tk) : Prop := ∀ t ∈ ts, (t.kind = 4 → t.text.length = 1) ∧ (t.kind = 2 → 1 < t.text.length) ∧ (t.kind = 1 → t.text ≠ [] ∧ ∀ c ∈ t.text, c ≠ 40 ∧ c ≠ 41)
theorem TokOk.tail {t : Tk} {r : List Tk} (h : TokOk (t :: r)) : TokOk r := fun x hx => h x (List.mem_cons_of_mem _ hx)
theorem TokOk.drop {ts : List Tk} (h : TokOk ts) (i : Nat) : TokOk (ts.drop i) := fun x hx => h x (List.mem_of_mem_drop hx)
/-- Two readers that part alike. -/
def RelR {α β : Type} (Sh : α → β → Prop) : Rd α → Rd β → Prop
  | .ok a r, .ok b r' => r = r' ∧ Sh a b
  | .bad r, .bad r' => r = r'
  | _, _ => False

/-- How a node stands for a formula. -/
def ShF : Nd → Fm → Prop
  | x, .un k nm a => ∃ t1 t2 : Tk, x = ([t1, t2], .nil) ∧ t1.kind = 2 ∧ t1.text = k ∧ t2.kind = 1 ∧ t2.text = nm ∧ t2.at' = a ∧ k ∈ words5 ∧ nm ≠ [] ∧ ∀ c ∈ nm, c ≠ 40 ∧ c ≠ 41
  | x, .no f => ∃ (t1 : Tk) (y : Nd), x = ([t1], .cons y.1 y.2 .nil) ∧ t1.kind = 2 ∧ t1.text = w_not_ ∧ ShF y f
  | x, .both k f g => ∃ (t1 : Tk) (y z : Nd), x = ([t1], .cons y.1 y.2 (.cons z.1 z.2 .nil)) ∧ t1.kind = 2 ∧ t1.text = k ∧ (k = w_or_ ∨ k = w_and_) ∧ ShF y f ∧ ShF z g
def ShA (x : Nd) (a : Atr) : Prop := x.2 = .nil ∧ ∃ t1 : Tk, t1.kind = 2 ∧ t1.text = a.k ∧ t1.at' = a.at' ∧ ((x.1 = [t1] ∧ a.t = zeroT) ∨ (x.1 = [t1, a.t] ∧ a.t.kind ≠ 0))
def ShAs : Fo → List Atr → Prop
  | .nil, [] => True
  | .cons t p r, a :: l => ShA (t, p) a ∧ ShAs r l
  | _, _ => False
def optT (t : Tk) : List Tk := if t.kind = 0 then [] else [t]
/-- How a node stands for an item. -/
def ShI (x : Nd) (y : Itm) : Prop :=
  (∃ t1 ta : Tk, t1.kind = 2 ∧ t1.text = y.k ∧ t1.at' = y.at' ∧ ta.kind = 2 ∧ ta.text = w_at ∧ x.1 = t1 :: (optT y.name ++ (if y.whr.kind = 0 then [] else [ta, y.whr]) ++ optT y.caps ++ optT y.txt)) ∧
  (match y.f with
    | none => ShAs x.2 y.attrs
    | some f => y.attrs = [] ∧ ∃ z : Nd, x.2 = .cons z.1 z.2 .nil ∧ ShF z f)
def ShIs : Fo → List Itm → Prop
  | .nil, [] => True
  | .cons t p r, a :: l => ShI (t, p) a ∧ ShIs r l
  | _, _ => False

theorem isT_lit (w : List UInt8) (t : Tk) (r : List Tk) : isT w (t :: r) = litS t w := by
  unfold isT litS
  rw [Bool.or_comm]
theorem litS_false {t : Tk} {w : List UInt8} (h2 : t.kind ≠ 2) (h4 : t.kind ≠ 4) : litS t w = false := by
  unfold litS; simp [h2, h4]
theorem isT_word {w : List UInt8} (hw : 1 < w.length) {ts : List Tk} (h : TokOk ts) : isT w ts = (wordR ts == w) := by
  cases ts with
  | nil =>
    cases w with
    | nil => simp at hw
    | cons c l => rfl
  | cons t r =>
    rw [isT_lit]
    unfold litS wordR
    have h1 := h t (List.mem_cons_self)
    by_cases h2 : t.kind = 2
    · simp [h2]
    · by_cases h4 : t.kind = 4
      · have hl := h1.1 h4
        have hne : (t.text == w) = false := beq_eq_false_iff_ne.2 (fun e => by rw [e] at hl; omega)
        have hn2 : ([] == w) = false := beq_eq_false_iff_ne.2 (fun e => by rw [← e] at hw; simp at hw)
        simp [h4, hne, hn2]
      · have hn2 : ([] == w) = false := beq_eq_false_iff_ne.2 (fun e => by rw [← e] at hw; simp at hw)
        simp [h2, h4, hn2]
theorem wordR_cons (t : Tk) (r : List Tk) : wordR (t :: r) = if t.kind = 2 then t.text else [] := rfl
theorem wordR_head {w : List UInt8} (hw : 0 < w.length) {ts : List Tk} (h : wordR ts = w) : ∃ t r, ts = t :: r ∧ t.kind = 2 ∧ t.text = w := by
  cases ts with
  | nil => rw [← h] at hw; simp [wordR] at hw
  | cons t r =>
    rw [wordR_cons] at h
    by_cases h2 : t.kind = 2
    · rw [if_pos h2] at h; exact ⟨t, r, rfl, h2, h⟩
    · rw [if_neg h2] at h; rw [← h] at hw; simp at hw
/-- What is no class is the word or sign itself. -/
def plainW (w : List UInt8) : Bool := !(w == w_NAME) && !(w == w_CAPS) && !(w == w_TEXT) && !(w == w_orNAME)
theorem fitS_lit {w : List UInt8} (h : plainW w = true) (t : Tk) : fitS t w = litS t w := by
  unfold plainW at h
  simp only [Bool.and_eq_true, Bool.not_eq_true', beq_eq_false_iff_ne] at h
  unfold fitS
  rw [if_neg h.1.1.1, if_neg h.1.1.2, if_neg h.1.2, if_neg h.2]
theorem fitT_lit {w : List UInt8} (h : plainW w = true) (ts : List Tk) : fitT w ts = isT w ts := by
  cases ts with
  | nil => rfl
  | cons t r => rw [isT_lit]; exact fitS_lit h t
theorem takesR_cons (w : List UInt8) (ws : List (List UInt8)) (t : Tk) (r : List Tk) : takesR (w :: ws) (t :: r) = if fitS t w then (takesR ws r).map (fun l => if t.kind = 4 then l else t :: l) else .bad (t :: r) := rfl
theorem kindR_cons (k : Nat) (t : Tk) (r : List Tk) : kindR k (t :: r) = if t.kind = k then .ok t r else .bad (t :: r) := rfl
theorem takesR_kind {w : List UInt8} {k : Nat} (hk : k ≠ 4) (hw : ∀ t : Tk, fitS t w = (t.kind == k)) (ws : List (List UInt8)) (ts : List Tk) :
    takesR (w :: ws) ts = (kindR k ts).then fun t r => (takesR ws r).map (fun l => t :: l) := by
  cases ts with
  | nil => rfl
  | cons t r =>
    rw [takesR_cons, kindR_cons, hw t]
    by_cases h : t.kind = k
    · have h4 : ¬ t.kind = 4 := by rw [h]; exact hk
      rw [if_pos (by simpa using h), if_pos h]
      simp only [Rd.then, h4, if_false]
    · rw [if_neg (by simpa using h), if_neg h]; rfl
theorem fit_name (t : Tk) : fitS t w_NAME = (t.kind == 1) := by unfold fitS; rw [if_pos rfl]
theorem fit_caps (t : Tk) : fitS t w_CAPS = (t.kind == 5) := by unfold fitS; rw [if_neg (by decide), if_pos rfl]
theorem fit_text (t : Tk) : fitS t w_TEXT = (t.kind == 3) := by unfold fitS; rw [if_neg (by decide), if_neg (by decide), if_pos rfl]
theorem fit_orname (t : Tk) : fitS t w_orNAME = (t.kind == 1 || litS t w_any) := by unfold fitS; rw [if_neg (by decide), if_neg (by decide), if_neg (by decide), if_pos rfl]
/-- A sign. -/
theorem takesR_sign {w : List UInt8} (hp : plainW w = true) (hl : w.length = 1) (ws : List (List UInt8)) {ts : List Tk} (h : TokOk ts) :
    takesR (w :: ws) ts = (needR w ts).then fun _ r => takesR ws r := by
  cases ts with
  | nil => rfl
  | cons t r =>
    unfold needR
    rw [takesR_cons, fitS_lit hp, isT_lit]
    cases hq : litS t w with
    | true =>
      have h1 := h t (List.mem_cons_self)
      have h4 : t.kind = 4 := by
        unfold litS at hq
        simp at hq
        rcases hq.1 with h2 | h4
        · have := h1.2.1 h2; rw [hq.2] at this; omega
        · exact h4
      simp only [if_true, Rd.then, List.tail_cons, h4]
      cases takesR ws r <;> rfl
    | false => rfl
/-- A word. -/
theorem takesR_word {w : List UInt8} (hp : plainW w = true) (hl : 1 < w.length) (ws : List (List UInt8)) {ts : List Tk} (h : TokOk ts) :
    takesR (w :: ws) ts = (needR w ts).then fun _ r => (takesR ws r).map (fun l => ts.headD zeroT :: l) := by
  cases ts with
  | nil => rfl
  | cons t r =>
    unfold needR
    rw [takesR_cons, fitS_lit hp, isT_lit]
    cases hq : litS t w with
    | true =>
      have h1 := h t (List.mem_cons_self)
      have h4 : ¬ t.kind = 4 := by
        intro h4
        unfold litS at hq
        simp at hq
        have := h1.1 h4; rw [hq.2] at this; omega
      simp only [if_true, Rd.then, List.tail_cons, h4, if_false, List.headD_cons]
    | false => rfl
end Go.Proofs.Url

/- Plain: what is known of the tokens of a text. -/
namespace Go.Proofs.Url
open Syn
theorem words9_len : ∀ x ∈ words9, 1 < x.length := by decide +kernel
theorem name_noPar {c : UInt8} (h : nameB9 c = true) : c ≠ 40 ∧ c ≠ 41 := by
  constructor <;> (rintro rfl; revert h; decide)
/-- One token. -/
def TokOk1 (t : Tk) : Prop := (t.kind = 4 → t.text.length = 1) ∧ (t.kind = 2 → 1 < t.text.length) ∧ (t.kind = 1 → t.text ≠ [] ∧ ∀ c ∈ t.text, c ≠ 40 ∧ c ≠ 41)
theorem takeWhile_all {f : UInt8 → Bool} : ∀ {l : List UInt8}, ∀ c ∈ l.takeWhile f, f c = true
  | [], c, h => by cases h
  | x :: l, c, h => by
    rw [List.takeWhile_cons] at h
    split at h
    · rename_i hx
      rcases List.mem_cons.1 h with rfl | h
      · exact hx
      · exact takeWhile_all c h
    · cases h
theorem one_ok (l : List UInt8) (p : Nat) (hc : (oneS l).code = 0) : TokOk1 ⟨(oneS l).kind, p, (oneS l).text⟩ := by
  cases l with
  | nil => simp [oneS] at hc
  | cons c r =>
    have e : oneS (c :: r) = oneC c r := rfl
    rw [e] at hc ⊢
    cases h1 : smallB c with
    | true =>
      rw [oneC_small r h1]
      have hne := (run_pos r (small_name h1)).1
      cases hw : wordS ((c :: r).takeWhile nameB9) with
      | true =>
        have hm : (c :: r).takeWhile nameB9 ∈ words9 := by unfold wordS at hw; rwa [List.contains_iff_mem] at hw
        exact ⟨fun h => (by simp at h), fun _ => words9_len _ hm, fun h => (by simp at h)⟩
      | false =>
        exact ⟨fun h => (by simp at h), fun h => (by simp at h), fun _ => ⟨fun h => (by replace h : (c :: r).takeWhile nameB9 = [] := h; rw [h] at hne; simp at hne), fun x hx => name_noPar (takeWhile_all x hx)⟩⟩
    | false =>
      cases h2 : capB c with
      | true => rw [oneC_cap r h1 h2]; exact ⟨fun h => (by simp at h), fun h => (by simp at h), fun h => (by simp at h)⟩
      | false =>
        by_cases h3 : c.toNat = 34
        · by_cases hq : r[(r.takeWhile textB).length]? = some 34
          · rw [oneC_text r h1 h2 h3 hq]; exact ⟨fun h => (by simp at h), fun h => (by simp at h), fun h => (by simp at h)⟩
          · rw [oneC_open r h1 h2 h3 hq] at hc; cases hc
        · cases h4 : signB c with
          | true => rw [oneC_sign r h1 h2 h3 h4]; exact ⟨fun _ => rfl, fun h => (by simp at h), fun h => (by simp at h)⟩
          | false => rw [oneC_none r h1 h2 h3 h4] at hc; cases hc
theorem toksF_ok : ∀ (f pos : Nat) (l : List UInt8) (n : Nat) (ts : List Tk), toksF f pos l n = .ok ts → ∀ t ∈ ts, TokOk1 t := by
  intro f
  induction f with
  | zero => intro pos l n ts h t ht; simp [toksF] at h; subst h; cases ht
  | succ f ih =>
    intro pos l n ts h t ht
    rw [toksF_succ] at h
    split at h
    · cases h; cases ht
    · split at h
      · cases h
      · rename_i hc
        split at h
        · cases h
        · generalize hx : toksF f _ _ _ = x at h
          cases x with
          | bad c q => simp [Toks.put] at h
          | ok us =>
            simp [Toks.put] at h
            subst h
            rcases List.mem_cons.1 ht with rfl | ht
            · exact one_ok _ _ (by simpa using hc)
            · exact ih _ _ _ _ hx t ht
theorem toksS_ok {s : List UInt8} {ts : List Tk} (h : toksS s = .ok ts) : TokOk ts := by
  unfold toksS at h
  split at h
  · cases h
  · exact toksF_ok _ _ _ _ _ h
theorem toksF_many : ∀ (f pos : Nat) (l : List UInt8) (n : Nat) (ts : List Tk), n ≤ 2000 → toksF f pos l n = .ok ts → n + ts.length ≤ 2000 := by
  intro f
  induction f with
  | zero => intro pos l n ts hn h; simp [toksF] at h; subst h; simpa using hn
  | succ f ih =>
    intro pos l n ts hn h
    rw [toksF_succ] at h
    split at h
    · cases h; simpa using hn
    · split at h
      · cases h
      · split at h
        · cases h
        · rename_i hn2
          generalize hx : toksF f _ _ _ = x at h
          cases x with
          | bad c q => simp [Toks.put] at h
          | ok us =>
            simp [Toks.put] at h
            subst h
            have := ih _ _ _ _ (by omega) hx
            simp; omega
theorem toksS_many {s : List UInt8} {ts : List Tk} (h : toksS s = .ok ts) : ts.length ≤ 2000 := by
  unfold toksS at h
  split at h
  · cases h
  · have := toksF_many _ _ _ _ _ (by omega) h; omega
end Go.Proofs.Url

/- Plain: what is taken for an item, an attribute, a part of a formula, and what the document's reader gives. -/
namespace Go.Proofs.Url
open Syn
theorem map_thenq {α β : Type} (x : Rd α) (f : α → β) : x.map f = x.then fun a r => .ok (f a) r := by cases x <;> rfl
theorem then_thenq {α β γ : Type} (x : Rd α) (f : α → List Tk → Rd β) (h : β → List Tk → Rd γ) : (x.then f).then h = x.then fun a r => (f a r).then h := by cases x <;> rfl
theorem ok_thenq {α β : Type} (a : α) (r : List Tk) (f : α → List Tk → Rd β) : (Rd.ok a r).then f = f a r := rfl
theorem RelR.bind {α β γ : Type} {Sh : α → β → Prop} {x : Rd γ} {f : γ → List Tk → Rd α} {g : γ → List Tk → Rd β} (h : ∀ c r, x = .ok c r → RelR Sh (f c r) (g c r)) : RelR Sh (x.then f) (x.then g) := by
  cases x with
  | ok c r => exact h c r rfl
  | bad r => exact rfl
theorem RelR.ok {α β : Type} {Sh : α → β → Prop} {a : α} {b : β} {r : List Tk} (h : Sh a b) : RelR Sh (.ok a r) (.ok b r) := ⟨rfl, h⟩
theorem kind_tok {k : Nat} {ts : List Tk} {t : Tk} {r : List Tk} (h : kindR k ts = .ok t r) : ts = t :: r ∧ t.kind = k := by
  cases ts with
  | nil => cases h
  | cons x xs =>
    rw [kindR_cons] at h
    by_cases hk : x.kind = k
    · rw [if_pos hk] at h; cases h; exact ⟨rfl, hk⟩
    · rw [if_neg hk] at h; cases h
theorem need_tok {w : List UInt8} {ts : List Tk} {u : Unit} {r : List Tk} (h : needR w ts = .ok u r) : ∃ t, ts = t :: r ∧ litS t w = true := by
  cases ts with
  | nil => cases h
  | cons x xs =>
    unfold needR at h
    cases hq : isT w (x :: xs) with
    | true => rw [hq] at h; cases h; rw [isT_lit] at hq; exact ⟨x, rfl, hq⟩
    | false => rw [hq] at h; cases h
theorem lit_word {t : Tk} {w : List UInt8} (hw : 1 < w.length) {r : List Tk} (h : TokOk (t :: r)) (hq : litS t w = true) : t.kind = 2 ∧ t.text = w := by
  unfold litS at hq
  simp at hq
  refine ⟨?_, hq.2⟩
  rcases hq.1 with h2 | h4
  · exact h2
  · have := (h t List.mem_cons_self).1 h4; rw [hq.2] at this; omega
theorem need_word {t : Tk} {r : List Tk} {w : List UInt8} (hk : t.kind = 2) (ht : t.text = w) : needR w (t :: r) = .ok () r := by
  unfold needR
  rw [isT_lit]
  have : litS t w = true := by unfold litS; simp [hk, ht]
  rw [this]; rfl
theorem any_word {L : List (List UInt8)} (hL : L.all (fun x => decide (1 < x.length)) = true) {ts : List Tk} (h : TokOk ts) : (L.any fun w => isT w ts) = L.any fun w => wordR ts == w := by
  induction L with
  | nil => rfl
  | cons x L ih =>
    simp only [List.all_cons, Bool.and_eq_true, decide_eq_true_iff] at hL
    rw [List.any_cons, List.any_cons, isT_word hL.1 h, ih (by simpa using hL.2)]
theorem semi_then {α : Type} (x : Rd α) : semiR x = x.then fun a r => (needR w_semi r).then fun _ r' => .ok a r' := by
  unfold semiR
  cases x with
  | ok a r => simp only [Rd.then]; cases needR w_semi r <;> rfl
  | bad r => rfl

/-- An attribute that stands alone. -/
theorem rel_bare {ts : List Tk} (h : TokOk ts) {w : List UInt8} (hw : wordR ts = w) (hm : bare6.contains w = true) : RelR (fun l a => ShA (l, .nil) a) (takesR [w, w_semi] ts) (semiR (attrR ts)) := by
  have hb : (bare6.any fun x => isT x ts) = true := by
    rw [any_word (by decide) h, hw, List.any_eq_true]
    rw [List.contains_iff_mem] at hm
    exact ⟨w, hm, by simp⟩
  have hl : 1 < w.length ∧ plainW w = true := by
    rw [List.contains_iff_mem] at hm
    exact (by decide : ∀ w ∈ bare6, 1 < w.length ∧ plainW w = true) w hm
  obtain ⟨t, r, rfl, hk, ht⟩ := wordR_head (by omega) hw
  have ha : attrR (t :: r) = .ok ⟨t.text, t.at', zeroT⟩ r := by unfold attrR; rw [if_pos hb]; rfl
  rw [takesR_word hl.2 hl.1 _ h, need_word hk ht, ha, semi_then]
  simp only [ok_thenq, List.headD_cons]
  rw [takesR_sign (by decide) (by decide) _ h.tail, map_thenq, then_thenq]
  refine RelR.bind fun _ r1 _ => ?_
  exact RelR.ok ⟨rfl, t, hk, rfl, rfl, .inl ⟨rfl, rfl⟩⟩
/-- An attribute with one token of a kind. -/
theorem rel_one {ts : List Tk} (h : TokOk ts) {w c : List UInt8} (hw : wordR ts = w) {k : Nat} (hk4 : k ≠ 4) (hk0 : k ≠ 0) (hc : ∀ t : Tk, fitS t c = (t.kind == k)) (hl : 1 < w.length ∧ plainW w = true)
    (ha : attrR ts = (kindR k ts.tail).map fun t => ⟨headText ts, headAt ts, t⟩) : RelR (fun l a => ShA (l, .nil) a) (takesR [w, c, w_semi] ts) (semiR (attrR ts)) := by
  obtain ⟨t, r, rfl, hk, ht⟩ := wordR_head (by omega) hw
  rw [ha, takesR_word hl.2 hl.1 _ h, need_word hk ht, semi_then]
  simp only [takesR_kind hk4 hc, ok_thenq, List.headD_cons, List.tail_cons, map_thenq, then_thenq]
  refine RelR.bind fun t2 r2 h2 => ?_
  obtain ⟨rfl, hk2⟩ := kind_tok h2
  rw [takesR_sign (by decide) (by decide) _ h.tail.tail, then_thenq]
  refine RelR.bind fun _ r3 _ => ?_
  exact RelR.ok ⟨rfl, t, hk, rfl, rfl, .inr ⟨rfl, by rw [hk2]; exact hk0⟩⟩
theorem attr_named {ts : List Tk} (h : TokOk ts) {w : List UInt8} (hw : wordR ts = w) (hm : named5.contains w = true) : attrR ts = (kindR 1 ts.tail).map fun t => ⟨headText ts, headAt ts, t⟩ := by
  unfold attrR
  rw [any_word (by decide) h, any_word (by decide) h, hw]
  rw [List.contains_iff_mem] at hm
  rw [if_neg ((by decide : ∀ w ∈ named5, ¬ (bare6.any fun x => w == x) = true) w hm), if_pos ((by decide : ∀ w ∈ named5, (named5.any fun x => w == x) = true) w hm)]
theorem attr_texted {ts : List Tk} (h : TokOk ts) {w : List UInt8} (hw : wordR ts = w) (hm : texted4.contains w = true) : attrR ts = (kindR 3 ts.tail).map fun t => ⟨headText ts, headAt ts, t⟩ := by
  unfold attrR
  rw [any_word (by decide) h, any_word (by decide) h, any_word (by decide) h, isT_word (by decide) h, hw]
  rw [List.contains_iff_mem] at hm
  rw [if_neg ((by decide : ∀ w ∈ texted4, ¬ (bare6.any fun x => w == x) = true) w hm), if_neg ((by decide : ∀ w ∈ texted4, ¬ (named5.any fun x => w == x) = true) w hm), if_neg ((by decide : ∀ w ∈ texted4, ¬ (w == w_cors) = true) w hm), if_pos ((by decide : ∀ w ∈ texted4, (texted4.any fun x => w == x) = true) w hm)]
theorem attr_none {ts : List Tk} (h : TokOk ts) {w : List UInt8} (hw : wordR ts = w) (h1 : bare6.contains w = false) (h2 : named5.contains w = false) (h3 : (w == w_cors) = false) (h4 : texted4.contains w = false) : semiR (attrR ts) = .bad ts := by
  have hf : ∀ {L : List (List UInt8)}, L.contains w = false → (L.any fun x => w == x) = false := by
    intro L hL
    rw [← List.contains_eq_any_beq]; exact hL
  unfold attrR
  rw [any_word (by decide) h, any_word (by decide) h, any_word (by decide) h, isT_word (by decide) h, hw, hf h1, hf h2, hf h4, h3]
  rfl
theorem rel_cors {ts : List Tk} (h : TokOk ts) (hw : wordR ts = w_cors) : RelR (fun l a => ShA (l, .nil) a) (takesR [w_cors, w_orNAME, w_semi] ts) (semiR (attrR ts)) := by
  have ha : attrR ts = (if isT w_any ts.tail then kindR 2 ts.tail else kindR 1 ts.tail).map fun t => ⟨headText ts, headAt ts, t⟩ := by
    unfold attrR
    rw [any_word (by decide) h, any_word (by decide) h, isT_word (by decide) h, hw]
    rw [if_neg (by decide), if_neg (by decide), if_pos (by decide)]
  obtain ⟨t, r, rfl, hk, ht⟩ := wordR_head (by decide) hw
  rw [ha, takesR_word (by decide) (by decide) _ h, need_word hk ht, semi_then]
  simp only [ok_thenq, List.headD_cons, List.tail_cons, map_thenq, then_thenq]
  cases r with
  | nil => exact rfl
  | cons t2 r2 =>
    have h2 := h.tail t2 List.mem_cons_self
    have e := isT_lit w_any t2 r2
    rw [takesR_cons, fit_orname]
    cases hq : litS t2 w_any with
    | true =>
      obtain ⟨hk2, ht2⟩ := lit_word (by decide) h.tail hq
      rw [Bool.or_true, if_pos rfl]
      simp only [e.trans hq, if_true]
      rw [kindR_cons, if_pos hk2, map_thenq, then_thenq]
      simp only [ok_thenq]
      rw [takesR_sign (by decide) (by decide) _ h.tail.tail, then_thenq]
      refine RelR.bind fun _ r3 _ => ?_
      have h4 : ¬ t2.kind = 4 := by omega
      simp only [Rd.then, takesR, h4, if_false]
      exact RelR.ok ⟨rfl, t, hk, rfl, rfl, .inr ⟨rfl, by show t2.kind ≠ 0; omega⟩⟩
    | false =>
      rw [Bool.or_false]
      simp only [e.trans hq, Bool.false_eq_true, if_false]
      rw [kindR_cons]
      by_cases hk1 : t2.kind = 1
      · rw [if_pos (by simpa using hk1), if_pos hk1, map_thenq, then_thenq]
        simp only [ok_thenq]
        rw [takesR_sign (by decide) (by decide) _ h.tail.tail, then_thenq]
        refine RelR.bind fun _ r3 _ => ?_
        have h4 : ¬ t2.kind = 4 := by omega
        simp only [Rd.then, takesR, h4, if_false]
        exact RelR.ok ⟨rfl, t, hk, rfl, rfl, .inr ⟨rfl, by show t2.kind ≠ 0; omega⟩⟩
      · rw [if_neg (by simpa using hk1), if_neg hk1]
        exact rfl

/-- What an item's word tells of the way that is gone. -/
theorem item_way {ts : List Tk} (h : TokOk ts) (w : List UInt8) (hw : wordR ts = w) (x : List UInt8) (hx : 1 < x.length) : isT x ts = (w == x) := by rw [isT_word hx h, hw]
theorem opt_zero : optT zeroT = [] := rfl
theorem opt_some {t : Tk} (h : t.kind ≠ 0) : optT t = [t] := by unfold optT; rw [if_neg h]
theorem rel_origin {ts : List Tk} (h : TokOk ts) (hw : wordR ts = w_origin) : RelR (fun l y => ShI (l, .nil) y) (takesR [w_origin, w_NAME, w_TEXT, w_semi] ts) (itemR ts) := by
  have W := item_way h _ hw
  have ha : itemR ts = semiR ((kindR 1 ts.tail).then fun nm r => (kindR 3 r).map fun tx => ⟨headText ts, headAt ts, nm, zeroT, zeroT, tx, [], none⟩) := by
    unfold itemR; rw [W _ (by decide), if_pos (by decide)]
  obtain ⟨t, r, rfl, hk, ht⟩ := wordR_head (by decide) hw
  rw [ha, takesR_word (by decide) (by decide) _ h, need_word hk ht, semi_then]
  simp only [takesR_kind (k := 1) (by decide) fit_name, ok_thenq, List.headD_cons, List.tail_cons, map_thenq, then_thenq]
  refine RelR.bind fun t2 r2 h2 => ?_
  obtain ⟨rfl, hk2⟩ := kind_tok h2
  simp only [takesR_kind (k := 3) (by decide) fit_text, map_thenq, then_thenq]
  refine RelR.bind fun t3 r3 h3 => ?_
  obtain ⟨rfl, hk3⟩ := kind_tok h3
  rw [takesR_sign (by decide) (by decide) _ h.tail.tail.tail, then_thenq]
  refine RelR.bind fun _ r4 _ => ?_
  refine RelR.ok ⟨⟨t, ⟨2, 0, w_at⟩, hk, rfl, rfl, rfl, rfl, ?_⟩, trivial⟩
  show [t, t2, t3] = t :: (optT t2 ++ [] ++ optT zeroT ++ optT t3)
  rw [opt_some (t := t2) (by omega), opt_zero, opt_some (t := t3) (by omega)]; rfl
theorem rel_cookie {ts : List Tk} (h : TokOk ts) (hw : wordR ts = w_cookie) : RelR (fun l y => ShI (l, .nil) y) (takesR [w_cookie, w_NAME, w_at, w_NAME, w_TEXT, w_semi] ts) (itemR ts) := by
  have W := item_way h _ hw
  have ha : itemR ts = semiR ((kindR 1 ts.tail).then fun nm r => (needR w_at r).then fun _ r => (kindR 1 r).then fun wh r => (kindR 3 r).map fun tx => ⟨headText ts, headAt ts, nm, wh, zeroT, tx, [], none⟩) := by
    unfold itemR; rw [W _ (by decide), W _ (by decide), if_neg (by decide), if_pos (by decide)]
  obtain ⟨t, r, rfl, hk, ht⟩ := wordR_head (by decide) hw
  rw [ha, takesR_word (by decide) (by decide) _ h, need_word hk ht, semi_then]
  simp only [takesR_kind (k := 1) (by decide) fit_name, ok_thenq, List.headD_cons, List.tail_cons, map_thenq, then_thenq]
  refine RelR.bind fun t2 r2 h2 => ?_
  obtain ⟨rfl, hk2⟩ := kind_tok h2
  rw [takesR_word (by decide) (by decide) _ h.tail.tail, then_thenq]
  refine RelR.bind fun _ ra hna => ?_
  obtain ⟨ta, rfl, hta⟩ := need_tok hna
  obtain ⟨hka, hxa⟩ := lit_word (by decide) h.tail.tail hta
  simp only [takesR_kind (k := 1) (by decide) fit_name, map_thenq, then_thenq, List.headD_cons]
  refine RelR.bind fun t3 r3 h3 => ?_
  obtain ⟨rfl, hk3⟩ := kind_tok h3
  simp only [takesR_kind (k := 3) (by decide) fit_text, map_thenq, then_thenq]
  refine RelR.bind fun t4 r4 h4 => ?_
  obtain ⟨rfl, hk4⟩ := kind_tok h4
  rw [takesR_sign (by decide) (by decide) _ h.tail.tail.tail.tail.tail, then_thenq]
  refine RelR.bind fun _ r5 _ => ?_
  refine RelR.ok ⟨⟨t, ta, hk, rfl, rfl, hka, hxa, ?_⟩, trivial⟩
  show [t, t2, ta, t3, t4] = t :: (optT t2 ++ (if t3.kind = 0 then [] else [ta, t3]) ++ optT zeroT ++ optT t4)
  rw [opt_some (t := t2) (by omega), opt_some (t := t4) (by omega), opt_zero, if_neg (by omega)]; rfl
theorem rel_secret {ts : List Tk} (h : TokOk ts) (hw : wordR ts = w_secret) : RelR (fun l y => ShI (l, .nil) y) (takesR [w_secret, w_NAME, w_semi] ts) (itemR ts) := by
  have W := item_way h _ hw
  have ha : itemR ts = semiR ((kindR 1 ts.tail).map fun nm => ⟨headText ts, headAt ts, nm, zeroT, zeroT, zeroT, [], none⟩) := by
    unfold itemR; rw [W _ (by decide), W _ (by decide), W _ (by decide), if_neg (by decide), if_neg (by decide), if_pos (by decide)]
  obtain ⟨t, r, rfl, hk, ht⟩ := wordR_head (by decide) hw
  rw [ha, takesR_word (by decide) (by decide) _ h, need_word hk ht, semi_then]
  simp only [takesR_kind (k := 1) (by decide) fit_name, ok_thenq, List.headD_cons, List.tail_cons, map_thenq, then_thenq]
  refine RelR.bind fun t2 r2 h2 => ?_
  obtain ⟨rfl, hk2⟩ := kind_tok h2
  rw [takesR_sign (by decide) (by decide) _ h.tail.tail, then_thenq]
  refine RelR.bind fun _ r3 _ => ?_
  refine RelR.ok ⟨⟨t, ⟨2, 0, w_at⟩, hk, rfl, rfl, rfl, rfl, ?_⟩, trivial⟩
  show [t, t2] = t :: (optT t2 ++ [] ++ optT zeroT ++ optT zeroT)
  rw [opt_some (t := t2) (by omega), opt_zero]; rfl
theorem rel_network {ts : List Tk} (h : TokOk ts) (hw : wordR ts = w_network) : RelR (fun l y => ShI (l, .nil) y) (takesR [w_network, w_semi] ts) (itemR ts) := by
  have W := item_way h _ hw
  have ha : itemR ts = semiR (.ok ⟨headText ts, headAt ts, zeroT, zeroT, zeroT, zeroT, [], none⟩ ts.tail) := by
    unfold itemR; rw [W _ (by decide), W _ (by decide), W _ (by decide), W _ (by decide), if_neg (by decide), if_neg (by decide), if_neg (by decide), if_pos (by decide)]
  obtain ⟨t, r, rfl, hk, ht⟩ := wordR_head (by decide) hw
  rw [ha, takesR_word (by decide) (by decide) _ h, need_word hk ht, semi_then]
  simp only [ok_thenq, List.headD_cons, List.tail_cons, map_thenq]
  rw [takesR_sign (by decide) (by decide) _ h.tail, then_thenq]
  refine RelR.bind fun _ r3 _ => ?_
  exact RelR.ok ⟨⟨t, ⟨2, 0, w_at⟩, hk, rfl, rfl, rfl, rfl, rfl⟩, trivial⟩
/-- An endpoint's beginning, and what comes behind it. -/
theorem end_head {ts : List Tk} (h : TokOk ts) (hw : wordR ts = w_endpoint) :
    (∀ r, takesR [w_endpoint, w_NAME, w_at, w_NAME, w_CAPS, w_TEXT, w_lbr] ts = .bad r → itemR ts = .bad r) ∧
    (∀ l r, takesR [w_endpoint, w_NAME, w_at, w_NAME, w_CAPS, w_TEXT, w_lbr] ts = .ok l r → ∃ y : Itm, y.attrs = [] ∧ (∀ (p : Fo) (as : List Atr), ShAs p as → ShI (l, p) { y with attrs := as }) ∧
      itemR ts = (attrsF (r.length + 1) r).then fun as r' => (needR w_rbr r').then fun _ r'' => .ok { y with attrs := as } r'') := by
  have W := item_way h _ hw
  have ha : itemR ts = (kindR 1 ts.tail).then fun nm r => (needR w_at r).then fun _ r => (kindR 1 r).then fun wh r => (kindR 5 r).then fun cp r => (kindR 3 r).then fun tx r =>
      (needR w_lbr r).then fun _ r => (attrsF (r.length + 1) r).then fun l r => (needR w_rbr r).map fun _ => ⟨headText ts, headAt ts, nm, wh, cp, tx, l, none⟩ := by
    unfold itemR
    rw [W _ (by decide), W _ (by decide), W _ (by decide), W _ (by decide), W _ (by decide), if_neg (by decide), if_neg (by decide), if_neg (by decide), if_neg (by decide), if_pos (by decide)]
  obtain ⟨t, r, rfl, hk, ht⟩ := wordR_head (by decide) hw
  rw [ha, takesR_word (by decide) (by decide) _ h, need_word hk ht]
  simp only [takesR_kind (k := 1) (by decide) fit_name, ok_thenq, List.headD_cons, List.tail_cons, map_thenq, then_thenq]
  cases h2 : kindR 1 r with
  | bad r2 => exact ⟨fun r' e => (by cases e; rfl), fun l r' e => by cases e⟩
  | ok t2 r2 =>
  obtain ⟨rfl, hk2⟩ := kind_tok h2
  simp only [ok_thenq]
  rw [takesR_word (by decide) (by decide) _ h.tail.tail, then_thenq]
  cases hna : needR w_at r2 with
  | bad r3 => exact ⟨fun r' e => (by cases e; rfl), fun l r' e => by cases e⟩
  | ok u ra =>
  obtain ⟨ta, rfl, hta⟩ := need_tok hna
  obtain ⟨hka, hxa⟩ := lit_word (by decide) h.tail.tail hta
  simp only [ok_thenq, map_thenq, then_thenq, List.headD_cons]
  simp only [takesR_kind (k := 1) (by decide) fit_name, map_thenq, then_thenq]
  cases h3 : kindR 1 ra with
  | bad r3 => exact ⟨fun r' e => (by cases e; rfl), fun l r' e => by cases e⟩
  | ok t3 r3 =>
  obtain ⟨rfl, hk3⟩ := kind_tok h3
  simp only [ok_thenq]
  simp only [takesR_kind (k := 5) (by decide) fit_caps, map_thenq, then_thenq]
  cases h4 : kindR 5 r3 with
  | bad r4 => exact ⟨fun r' e => (by cases e; rfl), fun l r' e => by cases e⟩
  | ok t4 r4 =>
  obtain ⟨rfl, hk4⟩ := kind_tok h4
  simp only [ok_thenq]
  simp only [takesR_kind (k := 3) (by decide) fit_text, map_thenq, then_thenq]
  cases h5 : kindR 3 r4 with
  | bad r5 => exact ⟨fun r' e => (by cases e; rfl), fun l r' e => by cases e⟩
  | ok t5 r5 =>
  obtain ⟨rfl, hk5⟩ := kind_tok h5
  simp only [ok_thenq]
  rw [takesR_sign (by decide) (by decide) _ h.tail.tail.tail.tail.tail.tail, then_thenq]
  cases h6 : needR w_lbr r5 with
  | bad r6 => exact ⟨fun r' e => (by cases e; rfl), fun l r' e => by cases e⟩
  | ok u6 r6 =>
  refine ⟨fun r' e => (by cases e), fun l r' e => ?_⟩
  cases e
  refine ⟨⟨t.text, t.at', t2, t3, t4, t5, [], none⟩, rfl, fun p as hp => ⟨⟨t, ta, hk, rfl, rfl, hka, hxa, ?_⟩, hp⟩, rfl⟩
  show [t, t2, ta, t3, t4, t5] = t :: (optT t2 ++ (if t3.kind = 0 then [] else [ta, t3]) ++ optT t4 ++ optT t5)
  rw [opt_some (t := t2) (by omega), opt_some (t := t4) (by omega), opt_some (t := t5) (by omega), if_neg (by omega)]; rfl
theorem prop_head {ts : List Tk} (h : TokOk ts) (hw : wordR ts = w_property) :
    (∀ r, takesR [w_property, w_NAME, w_eq] ts = .bad r → itemR ts = .bad r) ∧
    (∀ l r, takesR [w_property, w_NAME, w_eq] ts = .ok l r → ∃ y : Itm, y.attrs = [] ∧ (∀ (z : Nd) (f : Fm), ShF z f → ShI (l, .cons z.1 z.2 .nil) { y with f := some f }) ∧
      itemR ts = (forS r).then fun f r' => (needR w_semi r').then fun _ r'' => .ok { y with f := some f } r'') := by
  have W := item_way h _ hw
  have ha : itemR ts = semiR ((kindR 1 ts.tail).then fun nm r => (needR w_eq r).then fun _ r => (forS r).map fun f => ⟨headText ts, headAt ts, nm, zeroT, zeroT, zeroT, [], some f⟩) := by
    unfold itemR
    rw [W _ (by decide), W _ (by decide), W _ (by decide), W _ (by decide), W _ (by decide), W _ (by decide), if_neg (by decide), if_neg (by decide), if_neg (by decide), if_neg (by decide), if_neg (by decide), if_pos (by decide)]
  obtain ⟨t, r, rfl, hk, ht⟩ := wordR_head (by decide) hw
  rw [ha, takesR_word (by decide) (by decide) _ h, need_word hk ht, semi_then]
  simp only [takesR_kind (k := 1) (by decide) fit_name, ok_thenq, List.headD_cons, List.tail_cons, map_thenq, then_thenq]
  cases h2 : kindR 1 r with
  | bad r2 => exact ⟨fun r' e => (by cases e; rfl), fun l r' e => by cases e⟩
  | ok t2 r2 =>
  obtain ⟨rfl, hk2⟩ := kind_tok h2
  simp only [ok_thenq]
  rw [takesR_sign (by decide) (by decide) _ h.tail.tail, then_thenq]
  cases h6 : needR w_eq r2 with
  | bad r6 => exact ⟨fun r' e => (by cases e; rfl), fun l r' e => by cases e⟩
  | ok u6 r6 =>
  refine ⟨fun r' e => (by cases e), fun l r' e => ?_⟩
  cases e
  refine ⟨⟨t.text, t.at', t2, zeroT, zeroT, zeroT, [], none⟩, rfl, fun z f hz => ⟨⟨t, ⟨2, 0, w_at⟩, hk, rfl, rfl, rfl, rfl, ?_⟩, rfl, z, rfl, hz⟩, rfl⟩
  show [t, t2] = t :: (optT t2 ++ [] ++ optT zeroT ++ optT zeroT)
  rw [opt_some (t := t2) (by omega), opt_zero]; rfl
theorem item_noneq {ts : List Tk} (h : TokOk ts) (hw : [w_origin, w_cookie, w_secret, w_network, w_endpoint, w_property].contains (wordR ts) = false) : itemR ts = .bad ts := by
  have W := item_way h _ rfl
  simp only [List.contains_cons, List.contains_nil, Bool.or_false, Bool.or_eq_false_iff] at hw
  obtain ⟨h1, h2, h3, h4, h5, h6⟩ := hw
  unfold itemR
  rw [W _ (by decide), W _ (by decide), W _ (by decide), W _ (by decide), W _ (by decide), W _ (by decide), h1, h2, h3, h4, h5, h6]
  rfl
end Go.Proofs.Url
