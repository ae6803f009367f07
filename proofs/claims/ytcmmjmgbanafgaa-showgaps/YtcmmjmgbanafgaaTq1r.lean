/- Plain: what is taken for an item, an attribute, a part of a formula, and what the document's reader gives. -/
import Derived.Test.YtcmmjmgbanafgaaTq1
namespace Go.Proofs.Url
open Syn
theorem map_thenq {α β : Type} (x : Rd α) (f : α → β) : x.map f = x.then fun a r => .ok (f a) r := by cases x <;> rfl
theorem then_thenq {α β γ : Type} (x : Rd α) (f : α → List Tk → Rd β) (h : β → List Tk → Rd γ) : (x.then f).then h = x.then fun a r => (f a r).then h := by cases x <;> rfl
theorem ok_thenq {α β : Type} (a : α) (r : List Tk) (f : α → List Tk → Rd β) : (Rd.ok a r).then f = f a r := rfl
theorem RelR.bind {α β γ : Type} {Sh : α → β → Prop} {x : Rd γ} {f : γ → List Tk → Rd α} {g : γ → List Tk → Rd β} (h : ∀ c r, x = .ok c r → RelR Sh (f c r) (g c r)) : RelR Sh (x.then f) (x.then g) := by
  cases x with
  | ok c r => exact h c r rfl
  | bad r => exact rfl
theorem RelR.ok {α β : Type} {Sh : α → β → Prop} {a : α} {b : β} {r : List Tk} (h : Sh a b) : RelR Sh (.ok a r) (.ok b r) := ⟨rfl, h⟩
theorem kind_tok {k : Nat} {ts : List Tk} {t : Tk} {r : List Tk} (h : kindR k ts = .ok t r) : ts = t :: r ∧ t.kind = k := by
  cases ts with
  | nil => cases h
  | cons x xs =>
    rw [kindR_cons] at h
    by_cases hk : x.kind = k
    · rw [if_pos hk] at h; cases h; exact ⟨rfl, hk⟩
    · rw [if_neg hk] at h; cases h
theorem need_tok {w : List UInt8} {ts : List Tk} {u : Unit} {r : List Tk} (h : needR w ts = .ok u r) : ∃ t, ts = t :: r ∧ litS t w = true := by
  cases ts with
  | nil => cases h
  | cons x xs =>
    unfold needR at h
    cases hq : isT w (x :: xs) with
    | true => rw [hq] at h; cases h; rw [isT_lit] at hq; exact ⟨x, rfl, hq⟩
    | false => rw [hq] at h; cases h
theorem lit_word {t : Tk} {w : List UInt8} (hw : 1 < w.length) {r : List Tk} (h : TokOk (t :: r)) (hq : litS t w = true) : t.kind = 2 ∧ t.text = w := by
  unfold litS at hq
  simp at hq
  refine ⟨?_, hq.2⟩
  rcases hq.1 with h2 | h4
  · exact h2
  · have := (h t List.mem_cons_self).1 h4; rw [hq.2] at this; omega
theorem need_word {t : Tk} {r : List Tk} {w : List UInt8} (hk : t.kind = 2) (ht : t.text = w) : needR w (t :: r) = .ok () r := by
  unfold needR
  rw [isT_lit]
  have : litS t w = true := by unfold litS; simp [hk, ht]
  rw [this]; rfl
theorem any_word {L : List (List UInt8)} (hL : L.all (fun x => decide (1 < x.length)) = true) {ts : List Tk} (h : TokOk ts) : (L.any fun w => isT w ts) = L.any fun w => wordR ts == w := by
  induction L with
  | nil => rfl
  | cons x L ih =>
    simp only [List.all_cons, Bool.and_eq_true, decide_eq_true_iff] at hL
    rw [List.any_cons, List.any_cons, isT_word hL.1 h, ih (by simpa using hL.2)]
theorem semi_then {α : Type} (x : Rd α) : semiR x = x.then fun a r => (needR w_semi r).then fun _ r' => .ok a r' := by
  unfold semiR
  cases x with
  | ok a r => simp only [Rd.then]; cases needR w_semi r <;> rfl
  | bad r => rfl

/-- An attribute that stands alone. -/
theorem rel_bare {ts : List Tk} (h : TokOk ts) {w : List UInt8} (hw : wordR ts = w) (hm : bare6.contains w = true) : RelR (fun l a => ShA (l, .nil) a) (takesR [w, w_semi] ts) (semiR (attrR ts)) := by
  have hb : (bare6.any fun x => isT x ts) = true := by
    rw [any_word (by decide) h, hw, List.any_eq_true]
    rw [List.contains_iff_mem] at hm
    exact ⟨w, hm, by simp⟩
  have hl : 1 < w.length ∧ plainW w = true := by
    rw [List.contains_iff_mem] at hm
    exact (by decide : ∀ w ∈ bare6, 1 < w.length ∧ plainW w = true) w hm
  obtain ⟨t, r, rfl, hk, ht⟩ := wordR_head (by omega) hw
  have ha : attrR (t :: r) = .ok ⟨t.text, t.at', zeroT⟩ r := by unfold attrR; rw [if_pos hb]; rfl
  rw [takesR_word hl.2 hl.1 _ h, need_word hk ht, ha, semi_then]
  simp only [ok_thenq, List.headD_cons]
  rw [takesR_sign (by decide) (by decide) _ h.tail, map_thenq, then_thenq]
  refine RelR.bind fun _ r1 _ => ?_
  exact RelR.ok ⟨rfl, t, hk, rfl, rfl, .inl ⟨rfl, rfl⟩⟩
/-- An attribute with one token of a kind. -/
theorem rel_one {ts : List Tk} (h : TokOk ts) {w c : List UInt8} (hw : wordR ts = w) {k : Nat} (hk4 : k ≠ 4) (hk0 : k ≠ 0) (hc : ∀ t : Tk, fitS t c = (t.kind == k)) (hl : 1 < w.length ∧ plainW w = true)
    (ha : attrR ts = (kindR k ts.tail).map fun t => ⟨headText ts, headAt ts, t⟩) : RelR (fun l a => ShA (l, .nil) a) (takesR [w, c, w_semi] ts) (semiR (attrR ts)) := by
  obtain ⟨t, r, rfl, hk, ht⟩ := wordR_head (by omega) hw
  rw [ha, takesR_word hl.2 hl.1 _ h, need_word hk ht, semi_then]
  simp only [takesR_kind hk4 hc, ok_thenq, List.headD_cons, List.tail_cons, map_thenq, then_thenq]
  refine RelR.bind fun t2 r2 h2 => ?_
  obtain ⟨rfl, hk2⟩ := kind_tok h2
  rw [takesR_sign (by decide) (by decide) _ h.tail.tail, then_thenq]
  refine RelR.bind fun _ r3 _ => ?_
  exact RelR.ok ⟨rfl, t, hk, rfl, rfl, .inr ⟨rfl, by rw [hk2]; exact hk0⟩⟩
theorem attr_named {ts : List Tk} (h : TokOk ts) {w : List UInt8} (hw : wordR ts = w) (hm : named5.contains w = true) : attrR ts = (kindR 1 ts.tail).map fun t => ⟨headText ts, headAt ts, t⟩ := by
  unfold attrR
  rw [any_word (by decide) h, any_word (by decide) h, hw]
  rw [List.contains_iff_mem] at hm
  rw [if_neg ((by decide : ∀ w ∈ named5, ¬ (bare6.any fun x => w == x) = true) w hm), if_pos ((by decide : ∀ w ∈ named5, (named5.any fun x => w == x) = true) w hm)]
theorem attr_texted {ts : List Tk} (h : TokOk ts) {w : List UInt8} (hw : wordR ts = w) (hm : texted4.contains w = true) : attrR ts = (kindR 3 ts.tail).map fun t => ⟨headText ts, headAt ts, t⟩ := by
  unfold attrR
  rw [any_word (by decide) h, any_word (by decide) h, any_word (by decide) h, isT_word (by decide) h, hw]
  rw [List.contains_iff_mem] at hm
  rw [if_neg ((by decide : ∀ w ∈ texted4, ¬ (bare6.any fun x => w == x) = true) w hm), if_neg ((by decide : ∀ w ∈ texted4, ¬ (named5.any fun x => w == x) = true) w hm), if_neg ((by decide : ∀ w ∈ texted4, ¬ (w == w_cors) = true) w hm), if_pos ((by decide : ∀ w ∈ texted4, (texted4.any fun x => w == x) = true) w hm)]
theorem attr_none {ts : List Tk} (h : TokOk ts) {w : List UInt8} (hw : wordR ts = w) (h1 : bare6.contains w = false) (h2 : named5.contains w = false) (h3 : (w == w_cors) = false) (h4 : texted4.contains w = false) : semiR (attrR ts) = .bad ts := by
  have hf : ∀ {L : List (List UInt8)}, L.contains w = false → (L.any fun x => w == x) = false := by
    intro L hL
    rw [← List.contains_eq_any_beq]; exact hL
  unfold attrR
  rw [any_word (by decide) h, any_word (by decide) h, any_word (by decide) h, isT_word (by decide) h, hw, hf h1, hf h2, hf h4, h3]
  rfl
theorem rel_cors {ts : List Tk} (h : TokOk ts) (hw : wordR ts = w_cors) : RelR (fun l a => ShA (l, .nil) a) (takesR [w_cors, w_orNAME, w_semi] ts) (semiR (attrR ts)) := by
  have ha : attrR ts = (if isT w_any ts.tail then kindR 2 ts.tail else kindR 1 ts.tail).map fun t => ⟨headText ts, headAt ts, t⟩ := by
    unfold attrR
    rw [any_word (by decide) h, any_word (by decide) h, isT_word (by decide) h, hw]
    rw [if_neg (by decide), if_neg (by decide), if_pos (by decide)]
  obtain ⟨t, r, rfl, hk, ht⟩ := wordR_head (by decide) hw
  rw [ha, takesR_word (by decide) (by decide) _ h, need_word hk ht, semi_then]
  simp only [ok_thenq, List.headD_cons, List.tail_cons, map_thenq, then_thenq]
  cases r with
  | nil => exact rfl
  | cons t2 r2 =>
    have h2 := h.tail t2 List.mem_cons_self
    have e := isT_lit w_any t2 r2
    rw [takesR_cons, fit_orname]
    cases hq : litS t2 w_any with
    | true =>
      obtain ⟨hk2, ht2⟩ := lit_word (by decide) h.tail hq
      rw [Bool.or_true, if_pos rfl]
      simp only [e.trans hq, if_true]
      rw [kindR_cons, if_pos hk2, map_thenq, then_thenq]
      simp only [ok_thenq]
      rw [takesR_sign (by decide) (by decide) _ h.tail.tail, then_thenq]
      refine RelR.bind fun _ r3 _ => ?_
      have h4 : ¬ t2.kind = 4 := by omega
      simp only [Rd.then, takesR, h4, if_false]
      exact RelR.ok ⟨rfl, t, hk, rfl, rfl, .inr ⟨rfl, by show t2.kind ≠ 0; omega⟩⟩
    | false =>
      rw [Bool.or_false]
      simp only [e.trans hq, Bool.false_eq_true, if_false]
      rw [kindR_cons]
      by_cases hk1 : t2.kind = 1
      · rw [if_pos (by simpa using hk1), if_pos hk1, map_thenq, then_thenq]
        simp only [ok_thenq]
        rw [takesR_sign (by decide) (by decide) _ h.tail.tail, then_thenq]
        refine RelR.bind fun _ r3 _ => ?_
        have h4 : ¬ t2.kind = 4 := by omega
        simp only [Rd.then, takesR, h4, if_false]
        exact RelR.ok ⟨rfl, t, hk, rfl, rfl, .inr ⟨rfl, by show t2.kind ≠ 0; omega⟩⟩
      · rw [if_neg (by simpa using hk1), if_neg hk1]
        exact rfl

/-- What an item's word tells of the way that is gone. -/
theorem item_way {ts : List Tk} (h : TokOk ts) (w : List UInt8) (hw : wordR ts = w) (x : List UInt8) (hx : 1 < x.length) : isT x ts = (w == x) := by rw [isT_word hx h, hw]
theorem opt_zero : optT zeroT = [] := rfl
theorem opt_some {t : Tk} (h : t.kind ≠ 0) : optT t = [t] := by unfold optT; rw [if_neg h]
theorem rel_origin {ts : List Tk} (h : TokOk ts) (hw : wordR ts = w_origin) : RelR (fun l y => ShI (l, .nil) y) (takesR [w_origin, w_NAME, w_TEXT, w_semi] ts) (itemR ts) := by
  have W := item_way h _ hw
  have ha : itemR ts = semiR ((kindR 1 ts.tail).then fun nm r => (kindR 3 r).map fun tx => ⟨headText ts, headAt ts, nm, zeroT, zeroT, tx, [], none⟩) := by
    unfold itemR; rw [W _ (by decide), if_pos (by decide)]
  obtain ⟨t, r, rfl, hk, ht⟩ := wordR_head (by decide) hw
  rw [ha, takesR_word (by decide) (by decide) _ h, need_word hk ht, semi_then]
  simp only [takesR_kind (k := 1) (by decide) fit_name, ok_thenq, List.headD_cons, List.tail_cons, map_thenq, then_thenq]
  refine RelR.bind fun t2 r2 h2 => ?_
  obtain ⟨rfl, hk2⟩ := kind_tok h2
  simp only [takesR_kind (k := 3) (by decide) fit_text, map_thenq, then_thenq]
  refine RelR.bind fun t3 r3 h3 => ?_
  obtain ⟨rfl, hk3⟩ := kind_tok h3
  rw [takesR_sign (by decide) (by decide) _ h.tail.tail.tail, then_thenq]
  refine RelR.bind fun _ r4 _ => ?_
  refine RelR.ok ⟨⟨t, ⟨2, 0, w_at⟩, hk, rfl, rfl, rfl, rfl, ?_⟩, trivial⟩
  show [t, t2, t3] = t :: (optT t2 ++ [] ++ optT zeroT ++ optT t3)
  rw [opt_some (t := t2) (by omega), opt_zero, opt_some (t := t3) (by omega)]; rfl
theorem rel_cookie {ts : List Tk} (h : TokOk ts) (hw : wordR ts = w_cookie) : RelR (fun l y => ShI (l, .nil) y) (takesR [w_cookie, w_NAME, w_at, w_NAME, w_TEXT, w_semi] ts) (itemR ts) := by
  have W := item_way h _ hw
  have ha : itemR ts = semiR ((kindR 1 ts.tail).then fun nm r => (needR w_at r).then fun _ r => (kindR 1 r).then fun wh r => (kindR 3 r).map fun tx => ⟨headText ts, headAt ts, nm, wh, zeroT, tx, [], none⟩) := by
    unfold itemR; rw [W _ (by decide), W _ (by decide), if_neg (by decide), if_pos (by decide)]
  obtain ⟨t, r, rfl, hk, ht⟩ := wordR_head (by decide) hw
  rw [ha, takesR_word (by decide) (by decide) _ h, need_word hk ht, semi_then]
  simp only [takesR_kind (k := 1) (by decide) fit_name, ok_thenq, List.headD_cons, List.tail_cons, map_thenq, then_thenq]
  refine RelR.bind fun t2 r2 h2 => ?_
  obtain ⟨rfl, hk2⟩ := kind_tok h2
  rw [takesR_word (by decide) (by decide) _ h.tail.tail, then_thenq]
  refine RelR.bind fun _ ra hna => ?_
  obtain ⟨ta, rfl, hta⟩ := need_tok hna
  obtain ⟨hka, hxa⟩ := lit_word (by decide) h.tail.tail hta
  simp only [takesR_kind (k := 1) (by decide) fit_name, map_thenq, then_thenq, List.headD_cons]
  refine RelR.bind fun t3 r3 h3 => ?_
  obtain ⟨rfl, hk3⟩ := kind_tok h3
  simp only [takesR_kind (k := 3) (by decide) fit_text, map_thenq, then_thenq]
  refine RelR.bind fun t4 r4 h4 => ?_
  obtain ⟨rfl, hk4⟩ := kind_tok h4
  rw [takesR_sign (by decide) (by decide) _ h.tail.tail.tail.tail.tail, then_thenq]
  refine RelR.bind fun _ r5 _ => ?_
  refine RelR.ok ⟨⟨t, ta, hk, rfl, rfl, hka, hxa, ?_⟩, trivial⟩
  show [t, t2, ta, t3, t4] = t :: (optT t2 ++ (if t3.kind = 0 then [] else [ta, t3]) ++ optT zeroT ++ optT t4)
  rw [opt_some (t := t2) (by omega), opt_some (t := t4) (by omega), opt_zero, if_neg (by omega)]; rfl
theorem rel_secret {ts : List Tk} (h : TokOk ts) (hw : wordR ts = w_secret) : RelR (fun l y => ShI (l, .nil) y) (takesR [w_secret, w_NAME, w_semi] ts) (itemR ts) := by
  have W := item_way h _ hw
  have ha : itemR ts = semiR ((kindR 1 ts.tail).map fun nm => ⟨headText ts, headAt ts, nm, zeroT, zeroT, zeroT, [], none⟩) := by
    unfold itemR; rw [W _ (by decide), W _ (by decide), W _ (by decide), if_neg (by decide), if_neg (by decide), if_pos (by decide)]
  obtain ⟨t, r, rfl, hk, ht⟩ := wordR_head (by decide) hw
  rw [ha, takesR_word (by decide) (by decide) _ h, need_word hk ht, semi_then]
  simp only [takesR_kind (k := 1) (by decide) fit_name, ok_thenq, List.headD_cons, List.tail_cons, map_thenq, then_thenq]
  refine RelR.bind fun t2 r2 h2 => ?_
  obtain ⟨rfl, hk2⟩ := kind_tok h2
  rw [takesR_sign (by decide) (by decide) _ h.tail.tail, then_thenq]
  refine RelR.bind fun _ r3 _ => ?_
  refine RelR.ok ⟨⟨t, ⟨2, 0, w_at⟩, hk, rfl, rfl, rfl, rfl, ?_⟩, trivial⟩
  show [t, t2] = t :: (optT t2 ++ [] ++ optT zeroT ++ optT zeroT)
  rw [opt_some (t := t2) (by omega), opt_zero]; rfl
theorem rel_network {ts : List Tk} (h : TokOk ts) (hw : wordR ts = w_network) : RelR (fun l y => ShI (l, .nil) y) (takesR [w_network, w_semi] ts) (itemR ts) := by
  have W := item_way h _ hw
  have ha : itemR ts = semiR (.ok ⟨headText ts, headAt ts, zeroT, zeroT, zeroT, zeroT, [], none⟩ ts.tail) := by
    unfold itemR; rw [W _ (by decide), W _ (by decide), W _ (by decide), W _ (by decide), if_neg (by decide), if_neg (by decide), if_neg (by decide), if_pos (by decide)]
  obtain ⟨t, r, rfl, hk, ht⟩ := wordR_head (by decide) hw
  rw [ha, takesR_word (by decide) (by decide) _ h, need_word hk ht, semi_then]
  simp only [ok_thenq, List.headD_cons, List.tail_cons, map_thenq]
  rw [takesR_sign (by decide) (by decide) _ h.tail, then_thenq]
  refine RelR.bind fun _ r3 _ => ?_
  exact RelR.ok ⟨⟨t, ⟨2, 0, w_at⟩, hk, rfl, rfl, rfl, rfl, rfl⟩, trivial⟩
/-- An endpoint's beginning, and what comes behind it. -/
theorem end_head {ts : List Tk} (h : TokOk ts) (hw : wordR ts = w_endpoint) :
    (∀ r, takesR [w_endpoint, w_NAME, w_at, w_NAME, w_CAPS, w_TEXT, w_lbr] ts = .bad r → itemR ts = .bad r) ∧
    (∀ l r, takesR [w_endpoint, w_NAME, w_at, w_NAME, w_CAPS, w_TEXT, w_lbr] ts = .ok l r → ∃ y : Itm, y.attrs = [] ∧ (∀ (p : Fo) (as : List Atr), ShAs p as → ShI (l, p) { y with attrs := as }) ∧
      itemR ts = (attrsF (r.length + 1) r).then fun as r' => (needR w_rbr r').then fun _ r'' => .ok { y with attrs := as } r'') := by
  have W := item_way h _ hw
  have ha : itemR ts = (kindR 1 ts.tail).then fun nm r => (needR w_at r).then fun _ r => (kindR 1 r).then fun wh r => (kindR 5 r).then fun cp r => (kindR 3 r).then fun tx r =>
      (needR w_lbr r).then fun _ r => (attrsF (r.length + 1) r).then fun l r => (needR w_rbr r).map fun _ => ⟨headText ts, headAt ts, nm, wh, cp, tx, l, none⟩ := by
    unfold itemR
    rw [W _ (by decide), W _ (by decide), W _ (by decide), W _ (by decide), W _ (by decide), if_neg (by decide), if_neg (by decide), if_neg (by decide), if_neg (by decide), if_pos (by decide)]
  obtain ⟨t, r, rfl, hk, ht⟩ := wordR_head (by decide) hw
  rw [ha, takesR_word (by decide) (by decide) _ h, need_word hk ht]
  simp only [takesR_kind (k := 1) (by decide) fit_name, ok_thenq, List.headD_cons, List.tail_cons, map_thenq, then_thenq]
  cases h2 : kindR 1 r with
  | bad r2 => exact ⟨fun r' e => (by cases e; rfl), fun l r' e => by cases e⟩
  | ok t2 r2 =>
  obtain ⟨rfl, hk2⟩ := kind_tok h2
  simp only [ok_thenq]
  rw [takesR_word (by decide) (by decide) _ h.tail.tail, then_thenq]
  cases hna : needR w_at r2 with
  | bad r3 => exact ⟨fun r' e => (by cases e; rfl), fun l r' e => by cases e⟩
  | ok u ra =>
  obtain ⟨ta, rfl, hta⟩ := need_tok hna
  obtain ⟨hka, hxa⟩ := lit_word (by decide) h.tail.tail hta
  simp only [ok_thenq, map_thenq, then_thenq, List.headD_cons]
  simp only [takesR_kind (k := 1) (by decide) fit_name, map_thenq, then_thenq]
  cases h3 : kindR 1 ra with
  | bad r3 => exact ⟨fun r' e => (by cases e; rfl), fun l r' e => by cases e⟩
  | ok t3 r3 =>
  obtain ⟨rfl, hk3⟩ := kind_tok h3
  simp only [ok_thenq]
  simp only [takesR_kind (k := 5) (by decide) fit_caps, map_thenq, then_thenq]
  cases h4 : kindR 5 r3 with
  | bad r4 => exact ⟨fun r' e => (by cases e; rfl), fun l r' e => by cases e⟩
  | ok t4 r4 =>
  obtain ⟨rfl, hk4⟩ := kind_tok h4
  simp only [ok_thenq]
  simp only [takesR_kind (k := 3) (by decide) fit_text, map_thenq, then_thenq]
  cases h5 : kindR 3 r4 with
  | bad r5 => exact ⟨fun r' e => (by cases e; rfl), fun l r' e => by cases e⟩
  | ok t5 r5 =>
  obtain ⟨rfl, hk5⟩ := kind_tok h5
  simp only [ok_thenq]
  rw [takesR_sign (by decide) (by decide) _ h.tail.tail.tail.tail.tail.tail, then_thenq]
  cases h6 : needR w_lbr r5 with
  | bad r6 => exact ⟨fun r' e => (by cases e; rfl), fun l r' e => by cases e⟩
  | ok u6 r6 =>
  refine ⟨fun r' e => (by cases e), fun l r' e => ?_⟩
  cases e
  refine ⟨⟨t.text, t.at', t2, t3, t4, t5, [], none⟩, rfl, fun p as hp => ⟨⟨t, ta, hk, rfl, rfl, hka, hxa, ?_⟩, hp⟩, rfl⟩
  show [t, t2, ta, t3, t4, t5] = t :: (optT t2 ++ (if t3.kind = 0 then [] else [ta, t3]) ++ optT t4 ++ optT t5)
  rw [opt_some (t := t2) (by omega), opt_some (t := t4) (by omega), opt_some (t := t5) (by omega), if_neg (by omega)]; rfl
theorem prop_head {ts : List Tk} (h : TokOk ts) (hw : wordR ts = w_property) :
    (∀ r, takesR [w_property, w_NAME, w_eq] ts = .bad r → itemR ts = .bad r) ∧
    (∀ l r, takesR [w_property, w_NAME, w_eq] ts = .ok l r → ∃ y : Itm, y.attrs = [] ∧ (∀ (z : Nd) (f : Fm), ShF z f → ShI (l, .cons z.1 z.2 .nil) { y with f := some f }) ∧
      itemR ts = (forS r).then fun f r' => (needR w_semi r').then fun _ r'' => .ok { y with f := some f } r'') := by
  have W := item_way h _ hw
  have ha : itemR ts = semiR ((kindR 1 ts.tail).then fun nm r => (needR w_eq r).then fun _ r => (forS r).map fun f => ⟨headText ts, headAt ts, nm, zeroT, zeroT, zeroT, [], some f⟩) := by
    unfold itemR
    rw [W _ (by decide), W _ (by decide), W _ (by decide), W _ (by decide), W _ (by decide), W _ (by decide), if_neg (by decide), if_neg (by decide), if_neg (by decide), if_neg (by decide), if_neg (by decide), if_pos (by decide)]
  obtain ⟨t, r, rfl, hk, ht⟩ := wordR_head (by decide) hw
  rw [ha, takesR_word (by decide) (by decide) _ h, need_word hk ht, semi_then]
  simp only [takesR_kind (k := 1) (by decide) fit_name, ok_thenq, List.headD_cons, List.tail_cons, map_thenq, then_thenq]
  cases h2 : kindR 1 r with
  | bad r2 => exact ⟨fun r' e => (by cases e; rfl), fun l r' e => by cases e⟩
  | ok t2 r2 =>
  obtain ⟨rfl, hk2⟩ := kind_tok h2
  simp only [ok_thenq]
  rw [takesR_sign (by decide) (by decide) _ h.tail.tail, then_thenq]
  cases h6 : needR w_eq r2 with
  | bad r6 => exact ⟨fun r' e => (by cases e; rfl), fun l r' e => by cases e⟩
  | ok u6 r6 =>
  refine ⟨fun r' e => (by cases e), fun l r' e => ?_⟩
  cases e
  refine ⟨⟨t.text, t.at', t2, zeroT, zeroT, zeroT, [], none⟩, rfl, fun z f hz => ⟨⟨t, ⟨2, 0, w_at⟩, hk, rfl, rfl, rfl, rfl, ?_⟩, rfl, z, rfl, hz⟩, rfl⟩
  show [t, t2] = t :: (optT t2 ++ [] ++ optT zeroT ++ optT zeroT)
  rw [opt_some (t := t2) (by omega), opt_zero]; rfl
theorem item_noneq {ts : List Tk} (h : TokOk ts) (hw : [w_origin, w_cookie, w_secret, w_network, w_endpoint, w_property].contains (wordR ts) = false) : itemR ts = .bad ts := by
  have W := item_way h _ rfl
  simp only [List.contains_cons, List.contains_nil, Bool.or_false, Bool.or_eq_false_iff] at hw
  obtain ⟨h1, h2, h3, h4, h5, h6⟩ := hw
  unfold itemR
  rw [W _ (by decide), W _ (by decide), W _ (by decide), W _ (by decide), W _ (by decide), W _ (by decide), h1, h2, h3, h4, h5, h6]
  rfl
end Go.Proofs.Url
