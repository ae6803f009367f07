/- Trees of package tree in memory; its reader in memory; what its functions leave. -/
import Derived.Test.YtcmmjmgbanafgaaSx2
import Derived.Test.YtcmmjmgbanafgaaTq1r
namespace Go.Proofs.Ytcmmjmgbanafgaa
open Go.RowKit Go.Proofs.Url Go.Proofs.Url.Syn

/-- Between two bounds. -/
def In (lo hi : Nat) (b : Nat) : Prop := lo ≤ b ∧ b < hi
/-- Some blocks are as they were. -/
def KeptIn (K : Nat → Prop) (W W' : World) : Prop := ∀ b, K b → W'.heap[b]? = W.heap[b]?
theorem KeptIn.cell {K : Nat → Prop} {W W' : World} (h : KeptIn K W W') {b j : Nat} {v : Value} (h1 : K b) (hc : W.cell? ⟨b, j, none⟩ = some v) : W'.cell? ⟨b, j, none⟩ = some v := by
  rw [World.cell?_of_block (w := W) (h b h1)]; exact hc
theorem KeptIn.belowK {K : Nat → Prop} {B : Nat} {W W' : World} (h : Below B W W') (hK : ∀ b, K b → b < B) : KeptIn K W W' := fun b h2 => h.block b (hK b h2)
theorem KeptIn.below {B hi : Nat} {W W' : World} (h : Below B W W') (hi' : hi ≤ B) (lo : Nat) : KeptIn (In lo hi) W W' := fun b h2 => h.block b (Nat.lt_of_lt_of_le h2.2 hi')
theorem KeptIn.butK {K : Nat → Prop} {g : Nat} {W W' : World} (h : ButP g W W') (hg : ¬ K g) (hs : ∀ b, K b → b < W.heap.size) : KeptIn K W W' := fun b h1 => h.block b (hs b h1) (fun e => hg (e ▸ h1))
theorem KeptIn.but {g : Nat} {W W' : World} (h : ButP g W W') {lo hi : Nat} (hg : g < lo) (hs : hi ≤ W.heap.size) : KeptIn (In lo hi) W W' := fun b h1 => h.block b (Nat.lt_of_lt_of_le h1.2 hs) (by have := h1.1; omega)
theorem KeptIn.setK {K : Nat → Prop} {W : World} {n j : Nat} {v : Value} (h : ¬ K n) : KeptIn K W (W.setCell ⟨n, j, none⟩ v) := fun b h1 => Below.heap_setCell _ _ _ _ (by show b ≠ n; exact fun e => h (e ▸ h1))
theorem KeptIn.set {W : World} {n j : Nat} {v : Value} {lo hi : Nat} (h : n < lo ∨ hi ≤ n) : KeptIn (In lo hi) W (W.setCell ⟨n, j, none⟩ v) := KeptIn.setK (fun k => by have := k.1; have := k.2; omega)
theorem KeptIn.trans {K : Nat → Prop} {W W' W'' : World} (h : KeptIn K W W') (k : KeptIn K W' W'') : KeptIn K W W'' := fun b h1 => (k b h1).trans (h b h1)
theorem KeptIn.refl (K : Nat → Prop) (W : World) : KeptIn K W W := fun _ _ => rfl
theorem KeptIn.sub {K K' : Nat → Prop} {W W' : World} (h : KeptIn K W W') (h1 : ∀ b, K' b → K b) : KeptIn K' W W' := fun b a => h b (h1 b a)

/-- A row of tokens, where it may lie. -/
def TA (W : World) (K : Nat → Prop) (ao : Option Addr) (ts : List Tk) : Prop :=
  ∀ k (h : k < ts.length), ∃ g, ao = some ⟨g, 0, none⟩ ∧ K g ∧ W.cell? ⟨g, k * 3, none⟩ = some (.int .i64 ts[k].kind) ∧ W.cell? ⟨g, k * 3 + 1, none⟩ = some (.int .i64 ts[k].at') ∧ W.cell? ⟨g, k * 3 + 2, none⟩ = some (.string ⟨ts[k].text.toArray⟩)
theorem TA.keep {W W' : World} {K : Nat → Prop} {ao : Option Addr} {ts : List Tk} (h : TA W K ao ts) (hk : KeptIn K W W') : TA W' K ao ts := by
  intro k hlt
  obtain ⟨g, h1, h2, h4, h5, h6⟩ := h k hlt
  exact ⟨g, h1, h2, hk.cell h2 h4, hk.cell h2 h5, hk.cell h2 h6⟩
theorem TA.sub {W : World} {K K' : Nat → Prop} {ao : Option Addr} {ts : List Tk} (h : TA W K ao ts) (h1 : ∀ b, K b → K' b) : TA W K' ao ts := by
  intro k hlt
  obtain ⟨g, a, b, r⟩ := h k hlt
  exact ⟨g, a, h1 g b, r⟩
theorem In.mono {lo hi lo' hi' : Nat} (h1 : lo' ≤ lo) (h2 : hi ≤ hi') : ∀ b, In lo hi b → In lo' hi' b := fun _ h => ⟨Nat.le_trans h1 h.1, Nat.lt_of_lt_of_le h.2 h2⟩
theorem TA.mono {W : World} {lo hi lo' hi' : Nat} {ao : Option Addr} {ts : List Tk} (h : TA W (In lo hi) ao ts) (h1 : lo' ≤ lo) (h2 : hi ≤ hi') : TA W (In lo' hi') ao ts := h.sub (In.mono h1 h2)
theorem TA.nil (W : World) (K : Nat → Prop) (ao : Option Addr) : TA W K ao [] := fun k h => by simp at h
/-- A row of nodes, from a place on. -/
def FC (W : World) (K : Nat → Prop) : Fo → Nat → Nat → Prop
  | .nil, _, _ => True
  | .cons ts p r, g, k => ∃ a1 c1 a2 c2, W.cell? ⟨g, k * 2, none⟩ = some (.slice a1 ts.length c1) ∧ W.cell? ⟨g, k * 2 + 1, none⟩ = some (.slice a2 p.len c2) ∧ TA W K a1 ts ∧
      (p = .nil ∨ ∃ g', a2 = some ⟨g', 0, none⟩ ∧ K g' ∧ FC W K p g' 0) ∧ FC W K r g (k + 1)
def FA (W : World) (K : Nat → Prop) (ao : Option Addr) (p : Fo) : Prop := p = .nil ∨ ∃ g, ao = some ⟨g, 0, none⟩ ∧ K g ∧ FC W K p g 0
theorem FC.keep {W W' : World} {K : Nat → Prop} (hk : KeptIn K W W') : ∀ {p : Fo} {g k : Nat}, K g → FC W K p g k → FC W' K p g k
  | .nil, _, _, _, _ => trivial
  | .cons ts p r, g, k, h1, ⟨a1, c1, a2, c2, e1, e2, ht, hp, hr⟩ => by
    refine ⟨a1, c1, a2, c2, hk.cell h1 e1, hk.cell h1 e2, ht.keep hk, ?_, FC.keep hk h1 hr⟩
    rcases hp with hp | ⟨g', f1, f2, f4⟩
    · exact .inl hp
    · exact .inr ⟨g', f1, f2, FC.keep hk f2 f4⟩
theorem FC.sub {W : World} {K K' : Nat → Prop} (ha : ∀ b, K b → K' b) : ∀ {p : Fo} {g k : Nat}, FC W K p g k → FC W K' p g k
  | .nil, _, _, _ => trivial
  | .cons ts p r, g, k, ⟨a1, c1, a2, c2, e1, e2, ht, hp, hr⟩ => by
    refine ⟨a1, c1, a2, c2, e1, e2, ht.sub ha, ?_, FC.sub ha hr⟩
    rcases hp with hp | ⟨g', f1, f2, f4⟩
    · exact .inl hp
    · exact .inr ⟨g', f1, ha g' f2, FC.sub ha f4⟩
theorem FA.keep {W W' : World} {K : Nat → Prop} {ao : Option Addr} {p : Fo} (h : FA W K ao p) (hk : KeptIn K W W') : FA W' K ao p := by
  rcases h with h | ⟨g, h1, h2, h4⟩
  · exact .inl h
  · exact .inr ⟨g, h1, h2, h4.keep hk h2⟩
theorem FA.sub {W : World} {K K' : Nat → Prop} {ao : Option Addr} {p : Fo} (h : FA W K ao p) (ha : ∀ b, K b → K' b) : FA W K' ao p := by
  rcases h with h | ⟨g, h1, h2, h4⟩
  · exact .inl h
  · exact .inr ⟨g, h1, ha g h2, h4.sub ha⟩
theorem FA.nil (W : World) (K : Nat → Prop) (ao : Option Addr) : FA W K ao .nil := .inl rfl
/-- A node as a value. -/
structure NA (W : World) (K : Nat → Prop) (a1 a2 : Option Addr) (x : Nd) : Prop where
  t : TA W K a1 x.1
  f : FA W K a2 x.2
theorem NA.keep {W W' : World} {K : Nat → Prop} {a1 a2 : Option Addr} {x : Nd} (h : NA W K a1 a2 x) (hk : KeptIn K W W') : NA W' K a1 a2 x := ⟨h.t.keep hk, h.f.keep hk⟩
theorem NA.sub {W : World} {K K' : Nat → Prop} {a1 a2 : Option Addr} {x : Nd} (h : NA W K a1 a2 x) (ha : ∀ b, K b → K' b) : NA W K' a1 a2 x := ⟨h.t.sub ha, h.f.sub ha⟩
theorem NA.mono {W : World} {lo hi lo' hi' : Nat} {a1 a2 : Option Addr} {x : Nd} (h : NA W (In lo hi) a1 a2 x) (ha : lo' ≤ lo) (hb : hi ≤ hi') : NA W (In lo' hi') a1 a2 x := h.sub (In.mono ha hb)
/-- One node, two nodes in a block of their own. -/
theorem FC.one {W : World} {K : Nat → Prop} {g c1 c2 : Nat} {a1 a2 : Option Addr} {x : Nd} (h : NA W K a1 a2 x) (e1 : W.cell? ⟨g, 0, none⟩ = some (.slice a1 x.1.length c1)) (e2 : W.cell? ⟨g, 1, none⟩ = some (.slice a2 x.2.len c2)) : FC W K (.cons x.1 x.2 .nil) g 0 :=
  ⟨a1, c1, a2, c2, e1, e2, h.t, h.f, trivial⟩
theorem FC.two {W : World} {K : Nat → Prop} {g c1 c2 d1 d2 : Nat} {a1 a2 b1 b2 : Option Addr} {x y : Nd} (h : NA W K a1 a2 x) (k : NA W K b1 b2 y) (e1 : W.cell? ⟨g, 0, none⟩ = some (.slice a1 x.1.length c1)) (e2 : W.cell? ⟨g, 1, none⟩ = some (.slice a2 x.2.len c2))
    (f1 : W.cell? ⟨g, 2, none⟩ = some (.slice b1 y.1.length d1)) (f2 : W.cell? ⟨g, 3, none⟩ = some (.slice b2 y.2.len d2)) : FC W K (.cons x.1 x.2 (.cons y.1 y.2 .nil)) g 0 :=
  ⟨a1, c1, a2, c2, e1, e2, h.t, h.f, b1, d1, b2, d2, f1, f2, k.t, k.f, trivial⟩

/-- A reader's three cells. -/
structure RB (W : World) (g : Nat) (sl : Value) (i n : Nat) : Prop where
  c0 : W.cell? ⟨g, 0, none⟩ = some sl
  c1 : W.cell? ⟨g, 1, none⟩ = some (.int .i64 i)
  c2 : W.cell? ⟨g, 2, none⟩ = some (.int .i64 n)
  fr : W.frozen? ⟨g, 1, none⟩ = false
theorem RB.lt {W : World} {g : Nat} {sl : Value} {i n : Nat} (h : RB W g sl i n) : g < W.heap.size := World.block_lt_of_cell? W _ h.c0
theorem RB.keep {W W' : World} {g : Nat} {sl : Value} {i n : Nat} (h : RB W g sl i n) (hb : W'.heap[g]? = W.heap[g]?) : RB W' g sl i n :=
  ⟨by rw [World.cell?_of_block (w := W) hb]; exact h.c0, by rw [World.cell?_of_block (w := W) hb]; exact h.c1, by rw [World.cell?_of_block (w := W) hb]; exact h.c2, by unfold World.frozen?; simp only [hb]; exact h.fr⟩
theorem RB.set1 {W : World} {g : Nat} {sl : Value} {i n : Nat} (h : RB W g sl i n) (v : Nat) : RB (W.setCell ⟨g, 1, none⟩ (.int .i64 v)) g sl v n :=
  ⟨tcell_other h.c0 (by decide), tcell_same h.c1, tcell_other h.c2 (by decide), by rw [World.frozen?_setCell]; exact h.fr⟩
/-- A reader: its tokens, those that are left, how long the text is. -/
structure RS (W : World) (g : Nat) (ao : Option Addr) (cap : Nat) (ts r : List Tk) (n : Nat) : Prop where
  ex : ∃ i, i ≤ ts.length ∧ ts.drop i = r ∧ RB W g (.slice ao ts.length cap) i n
  tk : TksB W g ao ts
theorem RS.lt {W : World} {g : Nat} {ao : Option Addr} {cap : Nat} {ts r : List Tk} {n : Nat} (h : RS W g ao cap ts r n) : g < W.heap.size := by
  obtain ⟨i, _, _, hp⟩ := h.ex; exact hp.lt
theorem RS.keepB {W W' : World} {B g : Nat} {ao : Option Addr} {cap : Nat} {ts r : List Tk} {n : Nat} (h : RS W g ao cap ts r n) (hb : Below B W W') (hg : g < B) : RS W' g ao cap ts r n := by
  obtain ⟨i, h1, h2, hp⟩ := h.ex
  exact ⟨⟨i, h1, h2, hp.keep (hb.block g hg)⟩, h.tk.keep (hb.mono (Nat.le_of_lt hg))⟩
theorem RS.keep {W W' : World} {g : Nat} {ao : Option Addr} {cap : Nat} {ts r : List Tk} {n : Nat} (h : RS W g ao cap ts r n) (hb : Below W.heap.size W W') : RS W' g ao cap ts r n := h.keepB hb h.lt
theorem RS.set {W : World} {g : Nat} {ao : Option Addr} {cap : Nat} {ts r : List Tk} {n : Nat} (h : RS W g ao cap ts r n) {b j : Nat} (v : Value) (hb : g < b) : RS (W.setCell ⟨b, j, none⟩ v) g ao cap ts r n :=
  h.keepB (B := g + 1) ((Below.refl _ _).setCell (p := ⟨b, j, none⟩) hb v) (Nat.lt_succ_self g)
theorem RS.alloc {W : World} {g : Nat} {ao : Option Addr} {cap : Nat} {ts r : List Tk} {n : Nat} (h : RS W g ao cap ts r n) (o : Obj) : RS (W.alloc o) g ao cap ts r n := h.keep ((Below.refl _ _).alloc (Nat.le_refl _) _)
theorem RS.tok {W : World} {g : Nat} {ao : Option Addr} {cap : Nat} {ts r : List Tk} {n : Nat} (h : RS W g ao cap ts r n) (ht : TokOk ts) : TokOk r := by
  obtain ⟨i, _, rfl, _⟩ := h.ex; exact ht.drop i
theorem RS.le {W : World} {g : Nat} {ao : Option Addr} {cap : Nat} {ts r : List Tk} {n : Nat} (h : RS W g ao cap ts r n) : r.length ≤ ts.length := by
  obtain ⟨i, _, rfl, _⟩ := h.ex; rw [List.length_drop]; omega
theorem ButP.allocq (g : Nat) (w : World) (o : Obj) : ButP g w (w.alloc o) := But.below ((Below.refl _ _).alloc (Nat.le_refl _) _)
theorem ButP.setq {g : Nat} {w W : World} (h : ButP g w W) {b j : Nat} (v : Value) (hb : w.heap.size ≤ b) : ButP g w (W.setCell ⟨b, j, none⟩ v) := But.trans h (But.below ((Below.refl _ _).setCell (p := ⟨b, j, none⟩) hb v))
theorem RS.cell {W : World} {g : Nat} {ao : Option Addr} {cap : Nat} {ts : List Tk} {t : Tk} {r : List Tk} {n : Nat} (h : RS W g ao cap ts (t :: r) n) : ∃ i b, i < ts.length ∧ ts.drop (i + 1) = r ∧ ao = some ⟨b, 0, none⟩ ∧ b < g ∧ RB W g (.slice ao ts.length cap) i n ∧
    W.cell? ⟨b, i * 3, none⟩ = some (.int .i64 t.kind) ∧ W.cell? ⟨b, i * 3 + 1, none⟩ = some (.int .i64 t.at') ∧ W.cell? ⟨b, i * 3 + 2, none⟩ = some (.string ⟨t.text.toArray⟩) := by
  obtain ⟨i, hi, hd, hp⟩ := h.ex
  obtain ⟨hlt, ht, hd2⟩ := drop_headP hd
  obtain ⟨b, h1, h2, h3, h4, h5⟩ := h.tk i hlt
  rw [ht] at h3 h4 h5
  exact ⟨i, b, hlt, hd2, h1, h2, hp, h3, h4, h5⟩
theorem RS.nil {W : World} {g : Nat} {ao : Option Addr} {cap : Nat} {ts : List Tk} {n : Nat} (h : RS W g ao cap ts [] n) : RB W g (.slice ao ts.length cap) ts.length n := by
  obtain ⟨i, hi, hd, hp⟩ := h.ex
  have := drop_nilP hd
  have e : i = ts.length := by omega
  rw [e] at hp; exact hp

/-- What the reader panics with. -/
abbrev stuckB : List UInt8 := [110, 111, 32, 102, 105, 108, 101, 32, 103, 111, 101, 115, 32, 111, 110, 32, 115, 111]
abbrev stuckE : List PanicEntry := [{ v := .iface 9 (.string ⟨stuckB.toArray⟩), recovered := false }]
/-- What a reader leaves: a node, or a panic. -/
def OutG {α : Type} (Sh : Nd → α → Prop) (x : Rd α) (g : Nat) (ao : Option Addr) (cap : Nat) (ts : List Tk) (n : Nat) (w : World) (e : Ending) (w' : World) : Prop :=
  ButP g w w' ∧ (match x with
    | .ok a r => ∃ (y : Nd) (a1 : Option Addr) (c1 : Nat) (a2 : Option Addr) (c2 : Nat), e = .returned (.agg #[.slice a1 y.1.length c1, .slice a2 y.2.len c2]) ∧ NA w' (In w.heap.size w'.heap.size) a1 a2 y ∧ Sh y a ∧ RS w' g ao cap ts r n
    | .bad r => e = .panicked stuckE ∧ RS w' g ao cap ts r n)
theorem OutG.rel {α β : Type} {S1 : Nd → α → Prop} {S2 : Nd → β → Prop} {x : Rd α} {y : Rd β} {g : Nat} {ao : Option Addr} {cap : Nat} {ts : List Tk} {n : Nat} {w : World} {e : Ending} {w' : World}
    (h : OutG S1 x g ao cap ts n w e w') (hr : RelR (fun a b => ∀ z, S1 z a → S2 z b) x y) : OutG S2 y g ao cap ts n w e w' := by
  refine ⟨h.1, ?_⟩
  have h2 := h.2
  cases x with
  | ok a r =>
    cases y with
    | ok b r' =>
      obtain ⟨rfl, hs⟩ := hr
      obtain ⟨z, a1, c1, a2, c2, h3, h4, h5, h6⟩ := h2
      exact ⟨z, a1, c1, a2, c2, h3, h4, hs z h5, h6⟩
    | bad r' => exact hr.elim
  | bad r =>
    cases y with
    | ok b r' => exact hr.elim
    | bad r' =>
      have hr' : r = r' := hr
      subst hr'
      exact h2
theorem OutG.isBad {α : Type} {Sh : Nd → α → Prop} {x : Rd α} {g : Nat} {ao : Option Addr} {cap : Nat} {ts r : List Tk} {n : Nat} {w w' : World} (hx : x = .bad r) (hb : ButP g w w') (hs : RS w' g ao cap ts r n) :
    OutG Sh x g ao cap ts n w (.panicked stuckE) w' := by subst hx; exact ⟨hb, rfl, hs⟩
theorem OutG.isOk {α : Type} {Sh : Nd → α → Prop} {x : Rd α} {g : Nat} {ao : Option Addr} {cap : Nat} {ts r : List Tk} {n : Nat} {w w' : World} {a : α} {y : Nd} {a1 a2 : Option Addr} {c1 c2 : Nat} (hx : x = .ok a r) (hb : ButP g w w') (hn : NA w' (In w.heap.size w'.heap.size) a1 a2 y) (hsh : Sh y a) (hs : RS w' g ao cap ts r n) :
    OutG Sh x g ao cap ts n w (.returned (.agg #[.slice a1 y.1.length c1, .slice a2 y.2.len c2])) w' := by subst hx; exact ⟨hb, y, a1, c1, a2, c2, rfl, hn, hsh, hs⟩
/-- What take leaves: a row of tokens, or a panic. -/
def OutK (x : Rd (List Tk)) (g : Nat) (ao : Option Addr) (cap : Nat) (ts : List Tk) (n : Nat) (w : World) (e : Ending) (w' : World) : Prop :=
  ButP g w w' ∧ (match x with
    | .ok l r => ∃ (a1 : Option Addr) (c1 : Nat), e = .returned (.slice a1 l.length c1) ∧ TA w' (In w.heap.size w'.heap.size) a1 l ∧ RS w' g ao cap ts r n
    | .bad r => e = .panicked stuckE ∧ RS w' g ao cap ts r n)
/-- A node in a block of its own that may be written. -/
structure NB (W : World) (m : Nat) (v1 v2 : Value) : Prop where
  c0 : W.cell? ⟨m, 0, none⟩ = some v1
  c1 : W.cell? ⟨m, 1, none⟩ = some v2
  f0 : W.frozen? ⟨m, 0, none⟩ = false
  f1 : W.frozen? ⟨m, 1, none⟩ = false
theorem NB.lt {W : World} {m : Nat} {v1 v2 : Value} (h : NB W m v1 v2) : m < W.heap.size := World.block_lt_of_cell? W _ h.c0
theorem NB.same {W W' : World} {m : Nat} {v1 v2 : Value} (h : NB W m v1 v2) (hb : W'.heap[m]? = W.heap[m]?) : NB W' m v1 v2 :=
  ⟨by rw [World.cell?_of_block (w := W) hb]; exact h.c0, by rw [World.cell?_of_block (w := W) hb]; exact h.c1, by unfold World.frozen?; simp only [hb]; exact h.f0, by unfold World.frozen?; simp only [hb]; exact h.f1⟩
theorem NB.but {g : Nat} {W W' : World} {m : Nat} {v1 v2 : Value} (h : NB W m v1 v2) (hb : ButP g W W') (hn : m ≠ g) : NB W' m v1 v2 := h.same (hb.block m h.lt hn)
theorem NB.below {W W' : World} {m : Nat} {v1 v2 : Value} (h : NB W m v1 v2) (hb : Below W.heap.size W W') : NB W' m v1 v2 := h.same (hb.block m h.lt)
theorem NB.other {W : World} {m : Nat} {v1 v2 : Value} (h : NB W m v1 v2) {b j : Nat} (v : Value) (hn : m ≠ b) : NB (W.setCell ⟨b, j, none⟩ v) m v1 v2 := h.same (Below.heap_setCell _ _ _ _ (by show m ≠ b; exact hn))
theorem NB.new (w : World) (v1 v2 : Value) (t : TypeId) : NB (w.alloc (.cells #[v1, v2] t)) w.heap.size v1 v2 := by
  refine ⟨?_, ?_, ?_, ?_⟩
  all_goals (first | (rw [World.frozen?_alloc_new]; done) | (rw [World.cell?_alloc_new]; rfl))
theorem NB.set1 {W : World} {m : Nat} {v1 v2 : Value} (h : NB W m v1 v2) (v : Value) : NB (W.setCell ⟨m, 1, none⟩ v) m v1 v :=
  ⟨tcell_other h.c0 (by decide), tcell_same h.c1, by rw [World.frozen?_setCell]; exact h.f0, by rw [World.frozen?_setCell]; exact h.f1⟩
theorem NB.set0 {W : World} {m : Nat} {v1 v2 : Value} (h : NB W m v1 v2) (v : Value) : NB (W.setCell ⟨m, 0, none⟩ v) m v v2 :=
  ⟨tcell_same h.c0, tcell_other h.c1 (by decide), by rw [World.frozen?_setCell]; exact h.f0, by rw [World.frozen?_setCell]; exact h.f1⟩
def putN (W : World) (m : Nat) (v1 v2 : Value) : World := (W.setCell ⟨m, 0, none⟩ v1).setCell ⟨m, 1, none⟩ v2
theorem NB.put {W : World} {m : Nat} {v1 v2 : Value} (h : NB W m v1 v2) (u1 u2 : Value) : NB (putN W m u1 u2) m u1 u2 := (h.set0 u1).set1 u2
theorem putN_below {B : Nat} {u W : World} (h : Below B u W) {m : Nat} (hm : B ≤ m) (v1 v2 : Value) : Below B u (putN W m v1 v2) := (h.setCell (p := ⟨m, 0, none⟩) hm _).setCell (p := ⟨m, 1, none⟩) hm _
theorem putN_but {g : Nat} {w W : World} (h : ButP g w W) {m : Nat} (hm : w.heap.size ≤ m) (v1 v2 : Value) : ButP g w (putN W m v1 v2) := (h.setq _ hm).setq _ hm
theorem putN_kept {W : World} {m : Nat} {v1 v2 : Value} {lo hi : Nat} (h : m < lo ∨ hi ≤ m) : KeptIn (In lo hi) W (putN W m v1 v2) := (KeptIn.set h).trans (KeptIn.set h)
theorem putN_keptK {W : World} {m : Nat} {v1 v2 : Value} {K : Nat → Prop} (h : ¬ K m) : KeptIn K W (putN W m v1 v2) := (KeptIn.setK h).trans (KeptIn.setK h)
theorem putN_size (W : World) (m : Nat) (v1 v2 : Value) : (putN W m v1 v2).heap.size = W.heap.size := by unfold putN; rw [size_set, size_set]
theorem putN_rs {W : World} {g : Nat} {ao : Option Addr} {cap : Nat} {ts r : List Tk} {n : Nat} (h : RS W g ao cap ts r n) {m : Nat} (v1 v2 : Value) (hb : g < m) : RS (putN W m v1 v2) g ao cap ts r n := (h.set v1 hb).set v2 hb
end Go.Proofs.Ytcmmjmgbanafgaa
