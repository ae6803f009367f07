/- Plain mathematics of the landed trees (package tree): nodes in a row, what is wanted at a place, how a tree stands for an item. No program is named here. -/
import Derived.Test.YtcmmjmgbanafgaaSx1
namespace Go.Proofs.Url
open Syn
namespace Syn
abbrev w_NAME : List UInt8 := [78, 65, 77, 69]
abbrev w_CAPS : List UInt8 := [67, 65, 80, 83]
abbrev w_TEXT : List UInt8 := [84, 69, 88, 84]
abbrev w_orNAME : List UInt8 := [97, 110, 121, 32, 111, 114, 32, 78, 65, 77, 69]
end Syn
/-- Nodes in a row: of each its tokens, and what it is made of. -/
inductive Fo where
  | nil : Fo
  | cons : List Tk → Fo → Fo → Fo
def Fo.len : Fo → Nat
  | .nil => 0
  | .cons _ _ r => r.len + 1
abbrev Nd := List Tk × Fo
def Fo.ofL : List Nd → Fo
  | [] => .nil
  | x :: l => .cons x.1 x.2 (Fo.ofL l)
theorem Fo.ofL_len (l : List Nd) : (Fo.ofL l).len = l.length := by
  induction l with
  | nil => rfl
  | cons x l ih => simp [Fo.ofL, Fo.len, ih]
/-- How deep nodes lie in one another. -/
def Fo.depth : Fo → Nat
  | .nil => 0
  | .cons _ p r => max (1 + p.depth) r.depth
def wTok (t : Tk) : List UInt8 := if t.kind = 3 then 34 :: (t.text ++ [34]) else t.text
def joinT : List Tk → List UInt8
  | [] => []
  | t :: r => wTok t ++ r.flatMap fun t => 32 :: wTok t
/-- Nodes as they are told, each in its parentheses. -/
def Fo.told : Fo → List UInt8
  | .nil => []
  | .cons ts p r => 32 :: 40 :: (joinT ts ++ p.told ++ 41 :: r.told)
def ndS (x : Nd) : List UInt8 := joinT x.1 ++ x.2.told

/-- Whether a token is as it is wanted, by what is wanted. -/
def litS (t : Tk) (w : List UInt8) : Bool := (t.kind == 2 || t.kind == 4) && t.text == w
def fitS (t : Tk) (w : List UInt8) : Bool :=
  if w = w_NAME then t.kind == 1 else if w = w_CAPS then t.kind == 5 else if w = w_TEXT then t.kind == 3 else if w = w_orNAME then t.kind == 1 || litS t w_any else litS t w
def fitT (w : List UInt8) : List Tk → Bool
  | [] => false
  | t :: _ => fitS t w
def takesR : List (List UInt8) → List Tk → Rd (List Tk)
  | [], ts => .ok [] ts
  | w :: ws, ts => match ts with
    | [] => .bad []
    | t :: r => if fitS t w then (takesR ws r).map (fun l => if t.kind = 4 then l else t :: l) else .bad (t :: r)
/-- The word that comes, if one does. -/
def wordR : List Tk → List UInt8
  | [] => []
  | t :: _ => if t.kind = 2 then t.text else []
/-- What is known of the tokens of a text. -/
def TokOk (ts : List Tk) : Prop := ∀ t ∈ ts, (t.kind = 4 → t.text.length = 1) ∧ (t.kind = 2 → 1 < t.text.length) ∧ (t.kind = 1 → t.text ≠ [] ∧ ∀ c ∈ t.text, c ≠ 40 ∧ c ≠ 41)
theorem TokOk.tail {t : Tk} {r : List Tk} (h : TokOk (t :: r)) : TokOk r := fun x hx => h x (List.mem_cons_of_mem _ hx)
theorem TokOk.drop {ts : List Tk} (h : TokOk ts) (i : Nat) : TokOk (ts.drop i) := fun x hx => h x (List.mem_of_mem_drop hx)
/-- Two readers that part alike. -/
def RelR {α β : Type} (Sh : α → β → Prop) : Rd α → Rd β → Prop
  | .ok a r, .ok b r' => r = r' ∧ Sh a b
  | .bad r, .bad r' => r = r'
  | _, _ => False

/-- How a node stands for a formula. -/
def ShF : Nd → Fm → Prop
  | x, .un k nm a => ∃ t1 t2 : Tk, x = ([t1, t2], .nil) ∧ t1.kind = 2 ∧ t1.text = k ∧ t2.kind = 1 ∧ t2.text = nm ∧ t2.at' = a ∧ k ∈ words5 ∧ nm ≠ [] ∧ ∀ c ∈ nm, c ≠ 40 ∧ c ≠ 41
  | x, .no f => ∃ (t1 : Tk) (y : Nd), x = ([t1], .cons y.1 y.2 .nil) ∧ t1.kind = 2 ∧ t1.text = w_not_ ∧ ShF y f
  | x, .both k f g => ∃ (t1 : Tk) (y z : Nd), x = ([t1], .cons y.1 y.2 (.cons z.1 z.2 .nil)) ∧ t1.kind = 2 ∧ t1.text = k ∧ (k = w_or_ ∨ k = w_and_) ∧ ShF y f ∧ ShF z g
def ShA (x : Nd) (a : Atr) : Prop := x.2 = .nil ∧ ∃ t1 : Tk, t1.kind = 2 ∧ t1.text = a.k ∧ t1.at' = a.at' ∧ ((x.1 = [t1] ∧ a.t = zeroT) ∨ (x.1 = [t1, a.t] ∧ a.t.kind ≠ 0))
def ShAs : Fo → List Atr → Prop
  | .nil, [] => True
  | .cons t p r, a :: l => ShA (t, p) a ∧ ShAs r l
  | _, _ => False
def optT (t : Tk) : List Tk := if t.kind = 0 then [] else [t]
/-- How a node stands for an item. -/
def ShI (x : Nd) (y : Itm) : Prop :=
  (∃ t1 ta : Tk, t1.kind = 2 ∧ t1.text = y.k ∧ t1.at' = y.at' ∧ ta.kind = 2 ∧ ta.text = w_at ∧ x.1 = t1 :: (optT y.name ++ (if y.whr.kind = 0 then [] else [ta, y.whr]) ++ optT y.caps ++ optT y.txt)) ∧
  (match y.f with
    | none => ShAs x.2 y.attrs
    | some f => y.attrs = [] ∧ ∃ z : Nd, x.2 = .cons z.1 z.2 .nil ∧ ShF z f)
def ShIs : Fo → List Itm → Prop
  | .nil, [] => True
  | .cons t p r, a :: l => ShI (t, p) a ∧ ShIs r l
  | _, _ => False

theorem isT_lit (w : List UInt8) (t : Tk) (r : List Tk) : isT w (t :: r) = litS t w := by
  unfold isT litS
  rw [Bool.or_comm]
theorem litS_false {t : Tk} {w : List UInt8} (h2 : t.kind ≠ 2) (h4 : t.kind ≠ 4) : litS t w = false := by
  unfold litS; simp [h2, h4]
theorem isT_word {w : List UInt8} (hw : 1 < w.length) {ts : List Tk} (h : TokOk ts) : isT w ts = (wordR ts == w) := by
  cases ts with
  | nil =>
    cases w with
    | nil => simp at hw
    | cons c l => rfl
  | cons t r =>
    rw [isT_lit]
    unfold litS wordR
    have h1 := h t (List.mem_cons_self)
    by_cases h2 : t.kind = 2
    · simp [h2]
    · by_cases h4 : t.kind = 4
      · have hl := h1.1 h4
        have hne : (t.text == w) = false := beq_eq_false_iff_ne.2 (fun e => by rw [e] at hl; omega)
        have hn2 : ([] == w) = false := beq_eq_false_iff_ne.2 (fun e => by rw [← e] at hw; simp at hw)
        simp [h4, hne, hn2]
      · have hn2 : ([] == w) = false := beq_eq_false_iff_ne.2 (fun e => by rw [← e] at hw; simp at hw)
        simp [h2, h4, hn2]
theorem wordR_cons (t : Tk) (r : List Tk) : wordR (t :: r) = if t.kind = 2 then t.text else [] := rfl
theorem wordR_head {w : List UInt8} (hw : 0 < w.length) {ts : List Tk} (h : wordR ts = w) : ∃ t r, ts = t :: r ∧ t.kind = 2 ∧ t.text = w := by
  cases ts with
  | nil => rw [← h] at hw; simp [wordR] at hw
  | cons t r =>
    rw [wordR_cons] at h
    by_cases h2 : t.kind = 2
    · rw [if_pos h2] at h; exact ⟨t, r, rfl, h2, h⟩
    · rw [if_neg h2] at h; rw [← h] at hw; simp at hw
/-- What is no class is the word or sign itself. -/
def plainW (w : List UInt8) : Bool := !(w == w_NAME) && !(w == w_CAPS) && !(w == w_TEXT) && !(w == w_orNAME)
theorem fitS_lit {w : List UInt8} (h : plainW w = true) (t : Tk) : fitS t w = litS t w := by
  unfold plainW at h
  simp only [Bool.and_eq_true, Bool.not_eq_true', beq_eq_false_iff_ne] at h
  unfold fitS
  rw [if_neg h.1.1.1, if_neg h.1.1.2, if_neg h.1.2, if_neg h.2]
theorem fitT_lit {w : List UInt8} (h : plainW w = true) (ts : List Tk) : fitT w ts = isT w ts := by
  cases ts with
  | nil => rfl
  | cons t r => rw [isT_lit]; exact fitS_lit h t
theorem takesR_cons (w : List UInt8) (ws : List (List UInt8)) (t : Tk) (r : List Tk) : takesR (w :: ws) (t :: r) = if fitS t w then (takesR ws r).map (fun l => if t.kind = 4 then l else t :: l) else .bad (t :: r) := rfl
theorem kindR_cons (k : Nat) (t : Tk) (r : List Tk) : kindR k (t :: r) = if t.kind = k then .ok t r else .bad (t :: r) := rfl
theorem takesR_kind {w : List UInt8} {k : Nat} (hk : k ≠ 4) (hw : ∀ t : Tk, fitS t w = (t.kind == k)) (ws : List (List UInt8)) (ts : List Tk) :
    takesR (w :: ws) ts = (kindR k ts).then fun t r => (takesR ws r).map (fun l => t :: l) := by
  cases ts with
  | nil => rfl
  | cons t r =>
    rw [takesR_cons, kindR_cons, hw t]
    by_cases h : t.kind = k
    · have h4 : ¬ t.kind = 4 := by rw [h]; exact hk
      rw [if_pos (by simpa using h), if_pos h]
      simp only [Rd.then, h4, if_false]
    · rw [if_neg (by simpa using h), if_neg h]; rfl
theorem fit_name (t : Tk) : fitS t w_NAME = (t.kind == 1) := by unfold fitS; rw [if_pos rfl]
theorem fit_caps (t : Tk) : fitS t w_CAPS = (t.kind == 5) := by unfold fitS; rw [if_neg (by decide), if_pos rfl]
theorem fit_text (t : Tk) : fitS t w_TEXT = (t.kind == 3) := by unfold fitS; rw [if_neg (by decide), if_neg (by decide), if_pos rfl]
theorem fit_orname (t : Tk) : fitS t w_orNAME = (t.kind == 1 || litS t w_any) := by unfold fitS; rw [if_neg (by decide), if_neg (by decide), if_neg (by decide), if_pos rfl]
/-- A sign. -/
theorem takesR_sign {w : List UInt8} (hp : plainW w = true) (hl : w.length = 1) (ws : List (List UInt8)) {ts : List Tk} (h : TokOk ts) :
    takesR (w :: ws) ts = (needR w ts).then fun _ r => takesR ws r := by
  cases ts with
  | nil => rfl
  | cons t r =>
    unfold needR
    rw [takesR_cons, fitS_lit hp, isT_lit]
    cases hq : litS t w with
    | true =>
      have h1 := h t (List.mem_cons_self)
      have h4 : t.kind = 4 := by
        unfold litS at hq
        simp at hq
        rcases hq.1 with h2 | h4
        · have := h1.2.1 h2; rw [hq.2] at this; omega
        · exact h4
      simp only [if_true, Rd.then, List.tail_cons, h4]
      cases takesR ws r <;> rfl
    | false => rfl
/-- A word. -/
theorem takesR_word {w : List UInt8} (hp : plainW w = true) (hl : 1 < w.length) (ws : List (List UInt8)) {ts : List Tk} (h : TokOk ts) :
    takesR (w :: ws) ts = (needR w ts).then fun _ r => (takesR ws r).map (fun l => ts.headD zeroT :: l) := by
  cases ts with
  | nil => rfl
  | cons t r =>
    unfold needR
    rw [takesR_cons, fitS_lit hp, isT_lit]
    cases hq : litS t w with
    | true =>
      have h1 := h t (List.mem_cons_self)
      have h4 : ¬ t.kind = 4 := by
        intro h4
        unfold litS at hq
        simp at hq
        have := h1.1 h4; rw [hq.2] at this; omega
      simp only [if_true, Rd.then, List.tail_cons, h4, if_false, List.headD_cons]
    | false => rfl
end Go.Proofs.Url
