/- moatref10.Parser's item: states as pairs, what it lays in memory; kind, need, formula by states. -/
import Derived.Test.YtcmmjmgbanafgaaSx10
namespace Go.Proofs.Url
open Syn
/-- A parser's state: what is left, and whether something is wrong. -/
abbrev St := List Tk × Bool
def kindSt (k : Nat) (s : St) : St := (if !s.2 && kindIs k s.1 then s.1.tail else s.1, s.2 || !kindIs k s.1)
def kindTok (k : Nat) (s : St) : Tk := if !s.2 && kindIs k s.1 then headT s.1 else zeroT
def needSt (w : List UInt8) (s : St) : St := (if !s.2 && isT w s.1 then s.1.tail else s.1, s.2 || !isT w s.1)
def forRd (s : St) : Rd Fm := if s.2 then .bad s.1 else forS s.1
def rdSt {α : Type} (x : Rd α) : St := match x with
  | .ok _ r => (r, false)
  | .bad r => (r, true)
/-- A reader of items: what it gives, by the state in which it ends. -/
def endsAs (x : Rd Itm) (s : St) (it : Itm) : Prop := (s.2 = false → x = .ok it s.1) ∧ (s.2 = true → x = .bad s.1)
theorem kind_false {k : Nat} {s : St} (h : s.2 = true) : (kindSt k s).2 = true ∧ (kindSt k s).1 = s.1 := by unfold kindSt; simp [h]
/-- One more token, behind whatever was read. -/
theorem kind_then {k : Nat} {s : St} {β : Type} (f : Tk → List Tk → Rd β) : (if s.2 then Rd.bad s.1 else (kindR k s.1).then f) = if (kindSt k s).2 then .bad (kindSt k s).1 else f (kindTok k s) (kindSt k s).1 := by
  rw [kindR_eq]
  obtain ⟨r, b⟩ := s
  cases b <;> cases hk : kindIs k r <;> simp [kindSt, kindTok, hk, Rd.then]
theorem need_then {w : List UInt8} {s : St} {β : Type} (f : Unit → List Tk → Rd β) : (if s.2 then Rd.bad s.1 else (needR w s.1).then f) = if (needSt w s).2 then .bad (needSt w s).1 else f () (needSt w s).1 := by
  obtain ⟨r, b⟩ := s
  unfold needR
  cases b <;> cases hk : isT w r <;> simp [needSt, hk, Rd.then]
theorem map_then {α β : Type} (x : Rd α) (f : α → β) : x.map f = x.then fun a r => .ok (f a) r := by cases x <;> rfl
theorem then_then {α β γ : Type} (x : Rd α) (f : α → List Tk → Rd β) (h : β → List Tk → Rd γ) : (x.then f).then h = x.then fun a r => (f a r).then h := by cases x <;> rfl
theorem ok_then {α β : Type} (a : α) (r : List Tk) (f : α → List Tk → Rd β) : (Rd.ok a r).then f = f a r := rfl
theorem for_then {s : St} {β : Type} (f : Fm → List Tk → Rd β) : (if s.2 then Rd.bad s.1 else (forS s.1).then f) = (forRd s).then f := by
  unfold forRd
  cases s.2 <;> rfl
theorem ends_of {x : Rd Itm} {s : St} {it : Itm} (h : x = if s.2 then .bad s.1 else .ok it s.1) : endsAs x s it := by
  refine ⟨fun hs => ?_, fun hs => ?_⟩
  · rw [h, hs]; rfl
  · rw [h, hs]; rfl
theorem start_st {β : Type} (r : List Tk) (x : Rd β) : x = if ((r, false) : St).2 then .bad r else x := rfl
theorem item_origin {r : List Tk} (h : isT w_origin r = true) (s1 s2 s3 : St) (h1 : s1 = kindSt 1 (r.tail, false)) (h2 : s2 = kindSt 3 s1) (h3 : s3 = needSt w_semi s2) :
    endsAs (itemR r) s3 ⟨headText r, headAt r, kindTok 1 (r.tail, false), zeroT, zeroT, kindTok 3 s1, [], none⟩ := by
  refine ends_of ?_
  unfold itemR semiR
  rw [if_pos h]
  simp only [map_then, then_then, ok_then]
  rw [start_st r.tail ((kindR 1 r.tail).then _), kind_then (s := (r.tail, false)), ← h1, kind_then (s := s1), ← h2, need_then (s := s2), ← h3]
theorem item_cookie {r : List Tk} (h0 : isT w_origin r = false) (h : isT w_cookie r = true) (s1 s2 s3 s4 s5 : St) (h1 : s1 = kindSt 1 (r.tail, false)) (h2 : s2 = needSt w_at s1) (h3 : s3 = kindSt 1 s2) (h4 : s4 = kindSt 3 s3) (h5 : s5 = needSt w_semi s4) :
    endsAs (itemR r) s5 ⟨headText r, headAt r, kindTok 1 (r.tail, false), kindTok 1 s2, zeroT, kindTok 3 s3, [], none⟩ := by
  refine ends_of ?_
  unfold itemR semiR
  rw [if_neg (by rw [h0]; decide), if_pos h]
  simp only [map_then, then_then, ok_then]
  rw [start_st r.tail ((kindR 1 r.tail).then _), kind_then (s := (r.tail, false)), ← h1, need_then (s := s1), ← h2, kind_then (s := s2), ← h3, kind_then (s := s3), ← h4, need_then (s := s4), ← h5]
theorem item_secret {r : List Tk} (h0 : isT w_origin r = false) (h00 : isT w_cookie r = false) (h : isT w_secret r = true) (s1 s2 : St) (h1 : s1 = kindSt 1 (r.tail, false)) (h2 : s2 = needSt w_semi s1) :
    endsAs (itemR r) s2 ⟨headText r, headAt r, kindTok 1 (r.tail, false), zeroT, zeroT, zeroT, [], none⟩ := by
  refine ends_of ?_
  unfold itemR semiR
  rw [if_neg (by rw [h0]; decide), if_neg (by rw [h00]; decide), if_pos h]
  simp only [map_then, then_then, ok_then]
  rw [start_st r.tail ((kindR 1 r.tail).then _), kind_then (s := (r.tail, false)), ← h1, need_then (s := s1), ← h2]
theorem item_network {r : List Tk} (h0 : isT w_origin r = false) (h00 : isT w_cookie r = false) (h01 : isT w_secret r = false) (h : isT w_network r = true) (s1 : St) (h1 : s1 = needSt w_semi (r.tail, false)) :
    endsAs (itemR r) s1 ⟨headText r, headAt r, zeroT, zeroT, zeroT, zeroT, [], none⟩ := by
  refine ends_of ?_
  unfold itemR semiR
  rw [if_neg (by rw [h0]; decide), if_neg (by rw [h00]; decide), if_neg (by rw [h01]; decide), if_pos h]
  simp only [map_then, ok_then]
  rw [start_st r.tail ((needR w_semi r.tail).then _), need_then (s := (r.tail, false)), ← h1]
theorem item_property {r : List Tk} (h0 : isT w_origin r = false) (h00 : isT w_cookie r = false) (h01 : isT w_secret r = false) (h02 : isT w_network r = false) (h03 : isT w_endpoint r = false) (h : isT w_property r = true) (s1 s2 s3 : St) (h1 : s1 = kindSt 1 (r.tail, false)) (h2 : s2 = needSt w_eq s1) :
    (∀ f r2, forRd s2 = .ok f r2 → s3 = needSt w_semi (r2, false) → endsAs (itemR r) s3 ⟨headText r, headAt r, kindTok 1 (r.tail, false), zeroT, zeroT, zeroT, [], some f⟩) ∧ (∀ r2, forRd s2 = .bad r2 → itemR r = .bad r2) := by
  have e : itemR r = (forRd s2).then fun f r' => (needR w_semi r').then fun _ r'' => .ok ⟨headText r, headAt r, kindTok 1 (r.tail, false), zeroT, zeroT, zeroT, [], some f⟩ r'' := by
    unfold itemR semiR
    rw [if_neg (by rw [h0]; decide), if_neg (by rw [h00]; decide), if_neg (by rw [h01]; decide), if_neg (by rw [h02]; decide), if_neg (by rw [h03]; decide), if_pos h]
    simp only [map_then, then_then, ok_then]
    rw [start_st r.tail ((kindR 1 r.tail).then _), kind_then (s := (r.tail, false)), ← h1, need_then (s := s1), ← h2, for_then]
  refine ⟨fun f r2 hf h3 => ends_of ?_, fun r2 hf => ?_⟩
  · rw [e, hf]
    show (needR w_semi r2).then _ = _
    rw [start_st r2 ((needR w_semi r2).then _), need_then (s := (r2, false)), ← h3]
  · rw [e, hf]; rfl
/-- The attributes of an endpoint, from a state on. -/
def attrsRd (s : St) : Rd (List Atr) := if s.2 then .bad s.1 else attrsF (s.1.length + 1) s.1
theorem attrs_then {s : St} {β : Type} (f : List Atr → List Tk → Rd β) : (if s.2 then Rd.bad s.1 else (attrsF (s.1.length + 1) s.1).then f) = (attrsRd s).then f := by
  unfold attrsRd
  cases s.2 <;> rfl
theorem item_endpoint {r : List Tk} (h0 : isT w_origin r = false) (h00 : isT w_cookie r = false) (h01 : isT w_secret r = false) (h02 : isT w_network r = false) (h : isT w_endpoint r = true) (s1 s2 s3 s4 s5 s6 s7 : St)
    (h1 : s1 = kindSt 1 (r.tail, false)) (h2 : s2 = needSt w_at s1) (h3 : s3 = kindSt 1 s2) (h4 : s4 = kindSt 5 s3) (h5 : s5 = kindSt 3 s4) (h6 : s6 = needSt w_lbr s5) :
    (∀ l r2, attrsRd s6 = .ok l r2 → s7 = needSt w_rbr (r2, false) → endsAs (itemR r) s7 ⟨headText r, headAt r, kindTok 1 (r.tail, false), kindTok 1 s2, kindTok 5 s3, kindTok 3 s4, l, none⟩) ∧ (∀ r2, attrsRd s6 = .bad r2 → itemR r = .bad r2) := by
  have e : itemR r = (attrsRd s6).then fun l r' => (needR w_rbr r').then fun _ r'' => .ok ⟨headText r, headAt r, kindTok 1 (r.tail, false), kindTok 1 s2, kindTok 5 s3, kindTok 3 s4, l, none⟩ r'' := by
    unfold itemR
    rw [if_neg (by rw [h0]; decide), if_neg (by rw [h00]; decide), if_neg (by rw [h01]; decide), if_neg (by rw [h02]; decide), if_pos h]
    simp only [map_then]
    rw [start_st r.tail ((kindR 1 r.tail).then _), kind_then (s := (r.tail, false)), ← h1, need_then (s := s1), ← h2, kind_then (s := s2), ← h3, kind_then (s := s3), ← h4, kind_then (s := s4), ← h5, need_then (s := s5), ← h6, attrs_then]
  refine ⟨fun l r2 hf h7 => ends_of ?_, fun r2 hf => ?_⟩
  · rw [e, hf]
    show (needR w_rbr r2).then _ = _
    rw [start_st r2 ((needR w_rbr r2).then _), need_then (s := (r2, false)), ← h7]
  · rw [e, hf]; rfl
theorem item_none {r : List Tk} (h0 : isT w_origin r = false) (h00 : isT w_cookie r = false) (h01 : isT w_secret r = false) (h02 : isT w_network r = false) (h03 : isT w_endpoint r = false) (h04 : isT w_property r = false) : itemR r = .bad r := by
  unfold itemR
  rw [if_neg (by rw [h0]; decide), if_neg (by rw [h00]; decide), if_neg (by rw [h01]; decide), if_neg (by rw [h02]; decide), if_neg (by rw [h03]; decide), if_neg (by rw [h04]; decide)]
theorem attr_short {ts : List Tk} {a : Atr} {r : List Tk} (h : attrR ts = .ok a r) : r.length < ts.length := by
  have key : ∀ {k : Nat} {f : Tk → Atr}, (kindR k ts.tail).map f = .ok a r → r.length < ts.length := by
    intro k f h
    obtain ⟨t, h2, _⟩ := map_ok h
    obtain ⟨h3, _⟩ := kindR_ok h2
    cases ts with
    | nil => simp at h3
    | cons x xs => simp at h3; rw [h3]; simp; omega
  unfold attrR at h
  split at h
  · rename_i hs
    rw [List.any_eq_true] at hs
    obtain ⟨w, _, hw⟩ := hs
    cases h
    exact isT_len hw
  · split at h
    · exact key h
    · split at h
      · split at h
        · exact key h
        · exact key h
      · split at h
        · exact key h
        · cases h
/-- One attribute more. -/
theorem attrs_step {r : List Tk} (k : Nat) (h : isT w_rbr r = false) (s : St) (hs : s = needSt w_semi (rdSt (attrR r))) :
    (s.2 = false → ∃ a r1, attrR r = .ok a r1 ∧ attrsF (k + 1) r = (attrsF k s.1).map (fun l => a :: l) ∧ s.1.length + 2 ≤ r.length) ∧ (s.2 = true → attrsF (k + 1) r = .bad s.1) := by
  have e : attrsF (k + 1) r = (attrR r).then fun a r => (needR w_semi r).then fun _ r => (attrsF k r).map fun l => a :: l := by
    rw [attrsF, if_neg (by rw [h]; decide)]
  rw [e, hs]
  cases hx : attrR r with
  | ok a r1 =>
    have hsh := attr_short hx
    cases hq : isT w_semi r1 with
    | true =>
      have hl := isT_len hq
      refine ⟨fun _ => ⟨a, r1, rfl, ?_, ?_⟩, fun h2 => ?_⟩
      · simp [Rd.then, needR, hq, needSt, rdSt]
      · simp only [needSt, rdSt, hq]; simp at hl ⊢; omega
      · simp [needSt, rdSt, hq] at h2
    | false =>
      refine ⟨fun h2 => ?_, fun _ => ?_⟩
      · simp [needSt, rdSt, hq] at h2
      · simp [Rd.then, needR, hq, needSt, rdSt]
  | bad r1 =>
    refine ⟨fun h2 => ?_, fun _ => ?_⟩
    · simp [needSt, rdSt] at h2
    · simp [Rd.then, needSt, rdSt]
theorem attrs_end {r : List Tk} (k : Nat) (h : isT w_rbr r = true) : attrsF (k + 1) r = .ok [] r := by rw [attrsF, if_pos h]
theorem map_map_rd {α β γ : Type} (x : Rd α) (f : α → β) (h : β → γ) : (x.map f).map h = x.map fun a => h (f a) := by cases x <;> rfl
end Go.Proofs.Url
