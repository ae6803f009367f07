/- Plain: how deep a landed tree is, and how it is told, by what it stands for; how deep what is read may be. -/
import Derived.Test.YtcmmjmgbanafgaaTq10
namespace Go.Proofs.Url
open Syn
def dF : Fm → Nat
  | .un _ _ _ => 1
  | .no f => 1 + dF f
  | .both _ f g => 1 + max (dF f) (dF g)
theorem shF_depth : ∀ {f : Fm} {x : Nd}, ShF x f → 1 + x.2.depth = dF f
  | .un _ _ _, x, ⟨_, _, h, _⟩ => by rw [h]; rfl
  | .no f, x, ⟨_, y, h, _, _, hy⟩ => by
    rw [h]
    have := shF_depth hy
    simp only [Fo.depth, dF]; omega
  | .both _ f g, x, ⟨_, y, z, h, _, _, _, hy, hz⟩ => by
    rw [h]
    have := shF_depth hy
    have := shF_depth hz
    simp only [Fo.depth, dF]; omega
theorem joinT_cons (t : Tk) (r : List Tk) : joinT (t :: r) = wTok t ++ r.flatMap fun t => 32 :: wTok t := rfl
theorem wTok_plain {t : Tk} (h : t.kind ≠ 3) : wTok t = t.text := by unfold wTok; rw [if_neg h]
theorem shF_told : ∀ {f : Fm} {x : Nd}, ShF x f → formS f = 40 :: (ndS x ++ [41])
  | .un k nm a, x, ⟨t1, t2, h, k1, e1, k2, e2, _, _, hne, _⟩ => by
    rw [h]
    simp only [formS, ndS, joinT_cons, Fo.told, List.flatMap_cons, List.flatMap_nil, List.append_nil, if_neg hne]
    rw [wTok_plain (t := t1) (by omega), wTok_plain (t := t2) (by omega), e1, e2]
  | .no f, x, ⟨t1, y, h, k1, e1, hy⟩ => by
    rw [h]
    have ih := shF_told hy
    simp only [formS, ih]
    simp only [ndS, joinT_cons, Fo.told, List.flatMap_nil, List.append_nil]
    rw [wTok_plain (by omega), e1]
  | .both k f g, x, ⟨t1, y, z, h, k1, e1, _, hy, hz⟩ => by
    rw [h]
    have ih := shF_told hy
    have ih2 := shF_told hz
    simp only [formS, ih, ih2]
    simp only [ndS, joinT_cons, Fo.told, List.flatMap_nil, List.append_nil]
    rw [wTok_plain (by omega), e1]
    simp
/-- No parenthesis among them. -/
def noPar (l : List UInt8) : Prop := ∀ c ∈ l, c ≠ 40 ∧ c ≠ 41
theorem deep_plain {l r : List UInt8} {n m : Int} (h : noPar l) (hn : n ≤ m) : deepF n m (l ++ r) = deepF n m r := by
  induction l with
  | nil => rfl
  | cons c l ih =>
    have hc := h c List.mem_cons_self
    have e : (if c = 40 then n + 1 else if c = 41 then n - 1 else n) = n := by rw [if_neg hc.1, if_neg hc.2]
    rw [List.cons_append, deepF, e, show max m n = m by omega]
    exact ih fun x hx => h x (List.mem_cons_of_mem _ hx)
theorem deep_open {r : List UInt8} {n m : Int} : deepF n m (40 :: r) = deepF (n + 1) (max m (n + 1)) r := rfl
theorem deep_close {r : List UInt8} {n m : Int} (h : n ≤ m) : deepF n m (41 :: r) = deepF (n - 1) m r := by
  show deepF (n - 1) (max m (n - 1)) r = _
  rw [show max m (n - 1) = m by omega]
theorem noPar_words {k : List UInt8} (h : k ∈ words5) : noPar k := (by decide : ∀ k ∈ words5, ∀ c ∈ k, c ≠ 40 ∧ c ≠ 41) k h
/-- A formula of a tree. -/
def GoodF : Fm → Prop
  | .un k nm _ => k ∈ words5 ∧ nm ≠ [] ∧ noPar nm
  | .no f => GoodF f
  | .both k f g => (k = w_or_ ∨ k = w_and_) ∧ GoodF f ∧ GoodF g
theorem shF_good : ∀ {f : Fm} {x : Nd}, ShF x f → GoodF f
  | .un _ _ _, _, ⟨_, _, _, _, _, _, _, _, h1, h2, h3⟩ => ⟨h1, h2, h3⟩
  | .no f, _, ⟨_, _, _, _, _, hy⟩ => (show GoodF f from shF_good hy)
  | .both _ _ _, _, ⟨_, _, _, _, _, _, h, hy, hz⟩ => ⟨h, shF_good hy, shF_good hz⟩
theorem dF_pos (f : Fm) : 1 ≤ dF f := by cases f <;> simp [dF] <;> omega
theorem deep_form : ∀ {f : Fm} {n m : Int} (r : List UInt8), GoodF f → n ≤ m → deepF n m (formS f ++ r) = deepF n (max m (n + dF f)) r
  | .un k nm a, n, m, r, ⟨hk, hne, hp⟩, hn => by
    have e : formS (.un k nm a) ++ r = 40 :: (k ++ ([32] ++ (nm ++ (41 :: r)))) := by simp [formS, if_neg hne]
    rw [e, deep_open, deep_plain (noPar_words hk) (by omega), deep_plain (by intro c hc; simp at hc; subst hc; decide) (by omega), deep_plain hp (by omega), deep_close (by omega)]
    simp only [dF]
    rw [show n + 1 - 1 = n by omega]; rfl
  | .no f, n, m, r, hg, hn => by
    have e : formS (.no f) ++ r = 40 :: ([110, 111, 116, 32] ++ (formS f ++ (41 :: r))) := by simp [formS]
    have hd := dF_pos f
    rw [e, deep_open, deep_plain (by decide : ∀ c ∈ ([110, 111, 116, 32] : List UInt8), c ≠ 40 ∧ c ≠ 41) (by omega), deep_form (f := f) (41 :: r) hg (by omega), deep_close (by omega)]
    simp only [dF]
    rw [show n + 1 - 1 = n by omega]
    congr 1
    push_cast
    omega
  | .both k f g, n, m, r, ⟨hk, hf, hg⟩, hn => by
    have e : formS (.both k f g) ++ r = 40 :: (k ++ ([32] ++ (formS f ++ ([32] ++ (formS g ++ (41 :: r)))))) := by simp [formS]
    have hk2 : noPar k := by
      rcases hk with rfl | rfl
      · exact (by decide : ∀ c ∈ w_or_, c ≠ 40 ∧ c ≠ 41)
      · exact (by decide : ∀ c ∈ w_and_, c ≠ 40 ∧ c ≠ 41)
    have h32 : noPar [32] := by intro c hc; simp at hc; subst hc; decide
    have hd := dF_pos f
    have hd2 := dF_pos g
    rw [e, deep_open, deep_plain hk2 (by omega), deep_plain h32 (by omega), deep_form _ hf (by omega), deep_plain h32 (by omega), deep_form _ hg (by omega), deep_close (by omega)]
    simp only [dF]
    rw [show n + 1 - 1 = n by omega]
    congr 1
    push_cast
    omega
theorem deepS_form {f : Fm} (h : GoodF f) : deepS (formS f) = dF f := by
  unfold deepS
  have := deep_form (n := 0) (m := 0) [] h (Int.le_refl _)
  rw [List.append_nil] at this
  rw [this]
  show max 0 (0 + (dF f : Int)) = _
  omega
theorem shAs_depth : ∀ {p : Fo} {l : List Atr}, ShAs p l → p.depth ≤ 1
  | .nil, _, _ => Nat.zero_le _
  | .cons t p r, [], h => h.elim
  | .cons t p r, a :: l, ⟨h, hr⟩ => by
    have h1 : p = .nil := h.1
    have := shAs_depth hr
    rw [h1]
    simp only [Fo.depth]; omega
/-- Whether one of the nodes has parts that lie too deep. -/
def Fo.deepAny : Fo → Bool
  | .nil => false
  | .cons _ p r => decide (16 < p.depth) || r.deepAny
theorem shI_deep {x : Nd} {y : Itm} (h : ShI x y) : deepI y = decide (16 < x.2.depth) := by
  have h2 := h.2
  unfold deepI
  cases hf : y.f with
  | none =>
    rw [hf] at h2
    have := shAs_depth h2
    simp; omega
  | some f =>
    rw [hf] at h2
    obtain ⟨_, z, hz, hs⟩ := h2
    have h3 := shF_depth hs
    have hdep : x.2.depth = dF f := by rw [hz]; simp only [Fo.depth]; omega
    show decide (16 < deepS (formS f)) = _
    rw [deepS_form (shF_good hs), hdep]
    exact decide_eq_decide.2 (by omega)
theorem shIs_deep : ∀ {p : Fo} {l : List Itm}, ShIs p l → l.any deepI = p.deepAny
  | .nil, [], _ => rfl
  | .nil, _ :: _, h => h.elim
  | .cons t p r, [], h => h.elim
  | .cons t p r, y :: l, ⟨h, hr⟩ => by
    rw [List.any_cons, shI_deep h, shIs_deep hr]; rfl
theorem told_kind {t : Tk} (h : t.kind ≠ 0) : toldS t = 32 :: wTok t := by
  unfold toldS wTok
  rw [if_neg h]
  split <;> rfl
theorem opt_told (t : Tk) : ((optT t).flatMap fun t => 32 :: wTok t) = toldS t := by
  by_cases h : t.kind = 0
  · unfold optT toldS; rw [if_pos h, if_pos h]; rfl
  · rw [opt_some h, told_kind h]; simp
theorem shA_told {x : Nd} {a : Atr} (h : ShA x a) : 32 :: 40 :: (ndS x ++ [41]) = attrS a := by
  obtain ⟨h1, t1, k1, e1, _, h3⟩ := h
  unfold ndS attrS
  rw [h1]
  rcases h3 with ⟨h3, h4⟩ | ⟨h3, h4⟩
  · rw [h3, h4, joinT_cons, wTok_plain (by omega), e1]
    simp [Fo.told, toldS]
  · rw [h3, joinT_cons, wTok_plain (by omega), e1, told_kind h4]
    simp [Fo.told]
theorem told_cons (ts : List Tk) (p r : Fo) : (Fo.cons ts p r).told = 32 :: 40 :: (ndS (ts, p) ++ 41 :: r.told) := by simp [Fo.told, ndS]
theorem shAs_told : ∀ {p : Fo} {l : List Atr}, ShAs p l → p.told = l.flatMap attrS
  | .nil, [], _ => rfl
  | .nil, _ :: _, h => h.elim
  | .cons t p r, [], h => h.elim
  | .cons t p r, a :: l, ⟨h, hr⟩ => by
    rw [told_cons, shAs_told hr, List.flatMap_cons, ← shA_told h]
    simp
theorem shI_told {x : Nd} {y : Itm} (h : ShI x y) : lineS y = ndS x ++ [10] := by
  obtain ⟨⟨t1, ta, k1, e1, _, ka, ea, hx⟩, h2⟩ := h
  have hp : x.2.told = y.attrs.flatMap attrS ++ (match y.f with | none => [] | some f => 32 :: formS f) := by
    cases hf : y.f with
    | none => rw [hf] at h2; rw [shAs_told h2]; simp
    | some f =>
      rw [hf] at h2
      obtain ⟨ha, z, hz, hs⟩ := h2
      rw [ha, hz, told_cons]
      show _ = [] ++ 32 :: formS f
      rw [shF_told hs]
      simp [Fo.told]
  have hw : ((if y.whr.kind = 0 then [] else [ta, y.whr]).flatMap fun t => 32 :: wTok t) = if y.whr.kind = 0 then [] else [32, 97, 116] ++ toldS y.whr := by
    by_cases h0 : y.whr.kind = 0
    · rw [if_pos h0, if_pos h0]; rfl
    · rw [if_neg h0, if_neg h0, told_kind h0]
      simp [wTok_plain (t := ta) (by omega), ea]
  have hl : lineS y = y.k ++ toldS y.name ++ (if y.whr.kind = 0 then [] else [32, 97, 116] ++ toldS y.whr) ++ toldS y.caps ++ toldS y.txt ++ (y.attrs.flatMap attrS ++ (match y.f with | none => [] | some f => 32 :: formS f)) ++ [10] := by
    unfold lineS; simp only [List.append_assoc]; rfl
  rw [hl, ← hp]
  unfold ndS
  rw [hx, joinT_cons, wTok_plain (by omega), e1]
  simp only [List.flatMap_append, opt_told, hw]
  simp
/-- How deep what is read may be: no deeper than tokens are read. -/
theorem depth_read : ∀ n, (∀ ts a r, facF n ts = .ok a r → dF a + r.length ≤ ts.length) ∧ (∀ ts a r, terF n ts = .ok a r → dF a + r.length ≤ ts.length) ∧ (∀ b ts a r, terL n b ts = .ok a r → dF a + r.length ≤ dF b + ts.length) ∧
    (∀ ts a r, forF n ts = .ok a r → dF a + r.length ≤ ts.length) ∧ (∀ b ts a r, forL n b ts = .ok a r → dF a + r.length ≤ dF b + ts.length) := by
  intro n
  induction n with
  | zero => exact ⟨fun _ _ _ h => by simp [facF] at h, fun _ _ _ h => by simp [terF] at h, fun _ _ _ _ h => by simp [terL] at h, fun _ _ _ h => by simp [forF] at h, fun _ _ _ _ h => by simp [forL] at h⟩
  | succ n ih =>
    obtain ⟨i1, i2, i3, i4, i5⟩ := ih
    have sh := short_all n
    refine ⟨?_, ?_, ?_, ?_, ?_⟩
    · intro ts a r h
      rw [facF_succ] at h
      split at h
      · rename_i hs
        obtain ⟨b, hb, rfl⟩ := map_ok h
        have := i1 _ _ _ hb
        have := isT_len hs
        simp only [dF]; omega
      · split at h
        · rename_i _ hs
          obtain ⟨b, r1, hb, h2⟩ := then_ok h
          obtain ⟨u, h3, rfl⟩ := map_ok h2
          obtain ⟨h4, rfl⟩ := needR_ok h3
          have := i4 _ _ _ hb
          have := isT_len hs
          have := isT_len h4
          omega
        · split at h
          · rename_i hs
            obtain ⟨t, h2, rfl⟩ := map_ok h
            obtain ⟨h3, _⟩ := kindR_ok h2
            cases ts with
            | nil => cases hs
            | cons x xs => simp at h3; rw [h3]; simp [dF]; omega
          · cases h
    · intro ts a r h
      rw [terF_succ] at h
      obtain ⟨b, r1, hb, h2⟩ := then_ok h
      have := i1 _ _ _ hb
      have := i3 _ _ _ _ h2
      omega
    · intro b ts a r h
      rw [terL_succ] at h
      split at h
      · rename_i hs
        obtain ⟨c, r1, hc, h2⟩ := then_ok h
        have h3 := i1 _ _ _ hc
        have h4 := i3 _ _ _ _ h2
        have h5 := isT_len hs
        have h6 := sh.1 _ _ _ hc
        have := dF_pos b
        simp only [dF] at h4; omega
      · cases h; omega
    · intro ts a r h
      rw [forF_succ] at h
      obtain ⟨b, r1, hb, h2⟩ := then_ok h
      have := i2 _ _ _ hb
      have := i5 _ _ _ _ h2
      omega
    · intro b ts a r h
      rw [forL_succ] at h
      split at h
      · rename_i hs
        obtain ⟨c, r1, hc, h2⟩ := then_ok h
        have h3 := i2 _ _ _ hc
        have h4 := i5 _ _ _ _ h2
        have h5 := isT_len hs
        have h6 := sh.2.1 _ _ _ hc
        have := dF_pos b
        simp only [dF] at h4; omega
      · cases h; omega
theorem attrs_many : ∀ (k : Nat) (ts : List Tk) (l : List Atr) (r : List Tk), attrsF k ts = .ok l r → l.length + r.length ≤ ts.length
  | 0, ts, l, r, h => by simp [attrsF] at h
  | k + 1, ts, l, r, h => by
    rw [attrs_succq] at h
    split at h
    · cases h; simp
    · obtain ⟨a, r1, h1, h2⟩ := then_ok h
      obtain ⟨l2, h3, rfl⟩ := map_ok h2
      have := semi_short h1
      have := attrs_many k r1 l2 r h3
      simp; omega
/-- What holds of an item that is read. -/
def OkI (n : Nat) (y : Itm) : Prop := (∀ f, y.f = some f → dF f ≤ n) ∧ y.attrs.length ≤ n
def PR (x : Rd Itm) (n : Nat) : Prop := ∀ y r, x = .ok y r → OkI n y
theorem PR.then' {α : Type} {x : Rd α} {g : α → List Tk → Rd Itm} {n : Nat} (h : ∀ a r, x = .ok a r → PR (g a r) n) : PR (x.then g) n := fun y r e => by
  obtain ⟨a, r1, h1, h2⟩ := then_ok e
  exact h a r1 h1 y r h2
theorem PR.map' {α : Type} {x : Rd α} {g : α → Itm} {n : Nat} (h : ∀ a r, x = .ok a r → OkI n (g a)) : PR (x.map g) n := fun y r e => by
  obtain ⟨a, h1, rfl⟩ := map_ok e
  exact h a r h1
theorem PR.semi' {x : Rd Itm} {n : Nat} (h : PR x n) : PR (semiR x) n := by
  rw [semi_then]
  refine PR.then' fun a r ha => PR.then' fun _ r2 _ => ?_
  intro y r3 e
  cases e
  exact h a r ha
theorem OkI.bare {n : Nat} {y : Itm} (h1 : y.f = none) (h2 : y.attrs = []) : OkI n y := ⟨fun f hf => (by rw [h1] at hf; cases hf), (by rw [h2]; exact Nat.zero_le _)⟩
theorem item_okI {ts : List Tk} {y : Itm} {r : List Tk} (h : itemR ts = .ok y r) : OkI ts.length y := by
  have htl : ts.tail.length ≤ ts.length := by rw [List.length_tail]; omega
  have hP : PR (itemR ts) ts.length := by
    unfold itemR
    split
    · exact PR.semi' (PR.then' fun _ _ _ => PR.map' fun _ _ _ => OkI.bare rfl rfl)
    split
    · exact PR.semi' (PR.then' fun _ _ _ => PR.then' fun _ _ _ => PR.then' fun _ _ _ => PR.map' fun _ _ _ => OkI.bare rfl rfl)
    split
    · exact PR.semi' (PR.map' fun _ _ _ => OkI.bare rfl rfl)
    split
    · refine PR.semi' ?_
      intro y r e
      cases e; exact OkI.bare rfl rfl
    split
    · refine PR.then' fun _ r1 h1 => PR.then' fun _ r2 h2 => PR.then' fun _ r3 h3 => PR.then' fun _ r4 h4 => PR.then' fun _ r5 h5 => PR.then' fun _ r6 h6 => PR.then' fun l r7 h7 => PR.map' fun _ _ _ => ⟨fun f hf => (by cases hf), ?_⟩
      have a1 := (LeR.kind 1 ts.tail) _ _ h1
      have a2 := (LeR.need w_at r1) _ _ h2
      have a3 := (LeR.kind 1 r2) _ _ h3
      have a4 := (LeR.kind 5 r3) _ _ h4
      have a5 := (LeR.kind 3 r4) _ _ h5
      have a6 := (LeR.need w_lbr r5) _ _ h6
      have a7 := attrs_many _ _ _ _ h7
      show l.length ≤ _
      omega
    split
    · refine PR.semi' (PR.then' fun nm r1 h1 => PR.then' fun u r2 h2 => PR.map' fun f' r3 h3 => ⟨fun f hf => ?_, Nat.zero_le _⟩)
      cases hf
      have a1 := (LeR.kind 1 ts.tail) _ _ h1
      have a2 := (LeR.need w_eq r1) _ _ h2
      have a3 := (depth_read _).2.2.2.1 _ _ _ h3
      omega
    · intro y r e; cases e
  exact hP y r h
theorem items_okI : ∀ (k : Nat) (ts : List Tk) (ys : List Itm) (r : List Tk), itemsF k ts = .ok ys r → (∀ y ∈ ys, OkI ts.length y) ∧ ys.length ≤ ts.length
  | 0, _, _, _, h => by simp [itemsF] at h
  | k + 1, [], ys, r, h => by rw [items_nil] at h; cases h; exact ⟨fun y hy => (by cases hy), Nat.le_refl _⟩
  | k + 1, t :: ts, ys, r, h => by
    rw [items_succ] at h
    obtain ⟨x, r1, h1, h2⟩ := then_ok h
    obtain ⟨l, h3, rfl⟩ := map_ok h2
    have ih := items_okI k r1 l r h3
    have hs := item_shortq h1
    refine ⟨fun y hy => ?_, by simp at hs ⊢; omega⟩
    rcases List.mem_cons.1 hy with rfl | hy
    · exact item_okI h1
    · have := ih.1 y hy
      exact ⟨fun f hf => by have := this.1 f hf; omega, by have := this.2; omega⟩
/-- No row is longer, no parts lie deeper than so. -/
def Fo.fit (n : Nat) : Fo → Prop
  | .nil => True
  | .cons ts p r => ts.length ≤ n ∧ p.len ≤ n ∧ p.depth ≤ n ∧ p.fit n ∧ r.fit n
theorem Fo.fit_mono {n m : Nat} (h : n ≤ m) : ∀ {p : Fo}, p.fit n → p.fit m
  | .nil, _ => trivial
  | .cons _ _ _, ⟨h1, h2, h3, h4, h5⟩ => ⟨Nat.le_trans h1 h, Nat.le_trans h2 h, Nat.le_trans h3 h, Fo.fit_mono h h4, Fo.fit_mono h h5⟩
theorem shF_fit : ∀ {f : Fm} {x : Nd} {n : Nat}, ShF x f → dF f ≤ n → 2 ≤ n → (Fo.cons x.1 x.2 .nil).fit n
  | .un _ _ _, x, n, ⟨_, _, h, _⟩, _, h2 => by
    rw [h]; exact ⟨h2, by simp [Fo.len], by simp [Fo.depth], trivial, trivial⟩
  | .no f, x, n, ⟨_, y, h, _, _, hy⟩, hd, h2 => by
    have hd' : 1 + dF f ≤ n := hd
    have ih := shF_fit hy (by omega : dF f ≤ n) h2
    have h3 := shF_depth hy
    rw [h]
    exact ⟨by simp; omega, by simp [Fo.len]; omega, by simp only [Fo.depth]; omega, ih, trivial⟩
  | .both _ f g, x, n, ⟨_, y, z, h, _, _, _, hy, hz⟩, hd, h2 => by
    have hd' : 1 + max (dF f) (dF g) ≤ n := hd
    have ih := shF_fit hy (by omega : dF f ≤ n) h2
    have ih2 := shF_fit hz (by omega : dF g ≤ n) h2
    have h3 := shF_depth hy
    have h4 := shF_depth hz
    rw [h]
    exact ⟨by simp; omega, by simp [Fo.len]; omega, by simp only [Fo.depth]; omega, ⟨ih.1, ih.2.1, ih.2.2.1, ih.2.2.2.1, ih2⟩, trivial⟩
theorem shA_len {x : Nd} {a : Atr} (h : ShA x a) : x.1.length ≤ 2 := by
  obtain ⟨_, t1, _, _, _, h3⟩ := h
  rcases h3 with ⟨h3, _⟩ | ⟨h3, _⟩ <;> rw [h3] <;> simp
theorem shAs_fit {n : Nat} (h2 : 2 ≤ n) : ∀ {p : Fo} {l : List Atr}, ShAs p l → p.fit n ∧ p.len = l.length
  | .nil, [], _ => ⟨trivial, rfl⟩
  | .nil, _ :: _, h => h.elim
  | .cons t p r, [], h => h.elim
  | .cons t p r, a :: l, ⟨h, hr⟩ => by
    have ih := shAs_fit h2 hr
    have h1 : p = .nil := h.1
    have hl : t.length ≤ 2 := shA_len h
    rw [h1]
    exact ⟨⟨by omega, by simp [Fo.len], by simp [Fo.depth], trivial, ih.1⟩, by simp [Fo.len, ih.2]⟩
theorem optT_len (t : Tk) : (optT t).length ≤ 1 := by unfold optT; split <;> simp
theorem shI_fit {x : Nd} {y : Itm} {n : Nat} (h : ShI x y) (hy : OkI n y) (h7 : 7 ≤ n) : x.1.length ≤ n ∧ x.2.len ≤ n ∧ x.2.depth ≤ n ∧ x.2.fit n := by
  obtain ⟨⟨t1, ta, _, _, _, _, _, hx⟩, h2⟩ := h
  refine ⟨?_, ?_⟩
  · rw [hx]
    have := optT_len y.name
    have := optT_len y.caps
    have := optT_len y.txt
    have : (if y.whr.kind = 0 then [] else [ta, y.whr]).length ≤ 2 := by split <;> simp
    simp only [List.length_cons, List.length_append]; omega
  · cases hf : y.f with
    | none =>
      rw [hf] at h2
      have h3 := shAs_fit (n := n) (by omega) h2
      have := shAs_depth h2
      exact ⟨by rw [h3.2]; exact hy.2, by omega, h3.1⟩
    | some f =>
      rw [hf] at h2
      obtain ⟨_, z, hz, hs⟩ := h2
      have h3 := shF_fit hs (hy.1 f hf) (by omega)
      have h4 := shF_depth hs
      have := hy.1 f hf
      rw [hz]
      exact ⟨by simp [Fo.len]; omega, by simp only [Fo.depth]; omega, h3⟩
theorem shIs_fit {n : Nat} (h7 : 7 ≤ n) : ∀ {p : Fo} {l : List Itm}, ShIs p l → (∀ y ∈ l, OkI n y) → p.fit n ∧ p.len = l.length
  | .nil, [], _, _ => ⟨trivial, rfl⟩
  | .nil, _ :: _, h, _ => h.elim
  | .cons t p r, [], h, _ => h.elim
  | .cons t p r, y :: l, ⟨h, hr⟩, hd => by
    have ih := shIs_fit h7 hr fun z hz => hd z (List.mem_cons_of_mem _ hz)
    have h1 := shI_fit h (hd y List.mem_cons_self) h7
    exact ⟨⟨h1.1, h1.2.1, h1.2.2.1, h1.2.2.2, ih.1⟩, by simp [Fo.len, ih.2]⟩
end Go.Proofs.Url
