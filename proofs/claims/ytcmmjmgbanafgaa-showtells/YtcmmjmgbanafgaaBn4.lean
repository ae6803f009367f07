import Derived.Test.YtcmmjmgbanafgaaLx4
import Derived.Test.YtcmmjmgbanafgaaSx2
import Derived.Test.YtcmmjmgbanafgaaBn2
import Derived.Test.YtcmmjmgbanafgaaLx2
import Derived.Test.YtcmmjmgbanafgaaBut
import Derived.Test.YtcmmjmgbanafgaaW4
import Derived.Deep.MidRow
import Derived.Lib.QuietBelow
import Derived.Deep.QuietTactic
import Derived.BigQuiet
import Derived.Test.YtcmmjmgbanafgaaRows5
import Derived.Test.YtcmmjmgbanafgaaSx7
import Derived.Test.YtcmmjmgbanafgaaRegP
import Derived.Test.YtcmmjmgbanafgaaStep
/- The contracts that package lex must give (LexOk); the walks over moatlaw9.same and moatlaw9.awake under them. -/
namespace Go.Proofs.Ytcmmjmgbanafgaa
open Go.RowKit Go.Proofs.Url

/-- What package lex must give. -/
structure LexOk : Prop where
  toks : ∀ (s : List UInt8) (w : World), Env w → s.length < 4294967281 → Calls Try.prog 12 #[.string ⟨s.toArray⟩] w fun e w' => TokPost s w e w'
  word : ∀ (s : List UInt8) (w : World), Env w → s.length < 4294967281 → Calls Try.prog 49 #[.string ⟨s.toArray⟩] w fun e w' => e = .returned (.bool (wordS s)) ∧ Below w.heap.size w w'
/-- A row of tokens, as far as a walk reads it. -/
def TksAt (W : World) (ao : Option Addr) (ts : List Tk) : Prop :=
  ∀ k (h : k < ts.length), ∃ g, ao = some ⟨g, 0, none⟩ ∧ g < W.heap.size ∧ W.cell? ⟨g, k * 3, none⟩ = some (.int .i64 ts[k].kind) ∧ W.cell? ⟨g, k * 3 + 1, none⟩ = some (.int .i64 ts[k].at') ∧ W.cell? ⟨g, k * 3 + 2, none⟩ = some (.string ⟨ts[k].text.toArray⟩)
theorem TksAt.keep {W W' : World} {ao : Option Addr} {ts : List Tk} (h : TksAt W ao ts) (hb : Below W.heap.size W W') : TksAt W' ao ts := by
  intro k hk
  obtain ⟨g, h1, h2, h3, h4, h5⟩ := h k hk
  exact ⟨g, h1, Nat.lt_of_lt_of_le h2 hb.size, by rw [hb.cell (p := ⟨g, k * 3, none⟩) h2]; exact h3, by rw [hb.cell (p := ⟨g, k * 3 + 1, none⟩) h2]; exact h4, by rw [hb.cell (p := ⟨g, k * 3 + 2, none⟩) h2]; exact h5⟩
theorem flat3t (ts : List Tk) : ∀ k (h : k < ts.length) j v, (tkCells ts[k])[j]? = some v → (ts.flatMap tkCells)[k * 3 + j]? = some v := by
  induction ts with
  | nil => intro k h; simp at h
  | cons p ps ih =>
    intro k h j v hv
    have hl : (tkCells p).length = 3 := rfl
    rw [List.flatMap_cons]
    cases k with
    | zero =>
      have hj : j < 3 := by
        rcases Nat.lt_or_ge j 3 with h | h
        · exact h
        · rw [List.getElem?_eq_none (by rw [show (tkCells (p :: ps)[0]).length = 3 from rfl]; exact h)] at hv; cases hv
      rw [Nat.zero_mul, Nat.zero_add, List.getElem?_append_left (by omega)]
      exact hv
    | succ k =>
      rw [List.getElem?_append_right (by omega), hl, show (k + 1) * 3 + j - 3 = k * 3 + j by omega]
      exact ih k (by simpa using h) j v hv
theorem owns_tks {w : World} {base : Nat} {ao : Option Addr} {cap : Nat} {ts : List Tk} (h : w.ownsRow base 39 3 (.slice ao ts.length cap) ts.length (ts.flatMap tkCells)) : TksAt w ao ts := by
  intro k hk
  rcases h.2 with ⟨hv, h0⟩ | ⟨g', cap', cur, hv, hg, hh, hn, hm, hsz, htk⟩
  · omega
  · simp only [Value.slice.injEq, true_and] at hv
    obtain ⟨rfl, rfl⟩ := hv
    have hlt : g' < w.heap.size := by
      rcases Nat.lt_or_ge g' w.heap.size with h | h
      · exact h
      · rw [Array.getElem?_eq_none h] at hh; cases hh
    have hc : ∀ j v, j < 3 → (tkCells ts[k])[j]? = some v → w.cell? ⟨g', k * 3 + j, none⟩ = some v := by
      intro j v hj3 hj
      have hf := flat3t ts k hk j v hj
      have : (cur.toList.take (ts.length * 3))[k * 3 + j]? = (ts.flatMap tkCells)[k * 3 + j]? := by rw [htk]
      rw [List.getElem?_take, if_pos (by omega), hf] at this
      have e : w.cell? ⟨g', k * 3 + j, none⟩ = cur[k * 3 + j]? := by simp [World.cell?, hh]
      rw [e]; simpa using this
    exact ⟨g', rfl, hlt, hc 0 _ (by decide) rfl, hc 1 _ (by decide) rfl, hc 2 _ (by decide) rfl⟩

theorem LexOk.good (ok : LexOk) {s : List UInt8} {ts : List Tk} (h : toksS s = .ok ts) (w : World) (henv : Env w) (hs : s.length < 4294967281) :
    Calls Try.prog 12 #[.string ⟨s.toArray⟩] w fun e w' => ∃ (ao : Option Addr) (cap : Nat), e = .returned (.tuple #[.slice ao ts.length cap, .agg #[.int .i64 0, .int .i64 0]]) ∧ TksAt w' ao ts ∧ Below w.heap.size w w' := by
  refine (ok.toks s w henv hs).mono ?_
  rintro e w' ⟨ao, cap, us, c, p, rfl, hown, ht, hB⟩
  rcases ht with ⟨h1, rfl, rfl⟩ | ⟨h1, _⟩
  · rw [h] at h1
    cases h1
    exact ⟨ao, cap, rfl, owns_tks hown, hB⟩
  · rw [h] at h1; cases h1
theorem LexOk.bad (ok : LexOk) {s : List UInt8} {c p : Nat} (h : toksS s = .bad c p) (w : World) (henv : Env w) (hs : s.length < 4294967281) :
    Calls Try.prog 12 #[.string ⟨s.toArray⟩] w fun e w' => ∃ (ao : Option Addr) (cap : Nat), e = .returned (.tuple #[.slice ao 0 cap, .agg #[.int .i64 (c : Int), .int .i64 (p : Int)]]) ∧ Below w.heap.size w w' := by
  refine (ok.toks s w henv hs).mono ?_
  rintro e w' ⟨ao, cap, us, c', p', rfl, hown, ht, hB⟩
  rcases ht with ⟨h1, _, _⟩ | ⟨h1, h2⟩
  · rw [h] at h1; cases h1
  · rw [h] at h1
    cases h1
    subst h2
    exact ⟨ao, cap, rfl, hB⟩
theorem al9a : toksS [111, 119, 110, 32, 120, 59, 32, 35, 32, 121] = .ok [⟨2, 0, [111, 119, 110]⟩, ⟨1, 4, [120]⟩, ⟨4, 5, [59]⟩] := by decide +kernel
theorem al9b : toksS [97, 32, 34] = .bad 3 2 := by decide +kernel
theorem al9c : wordS [99, 115, 112] = true := by decide +kernel
theorem ag1 (ok : LexOk) (w : World) (henv : Env w) : Calls Try.prog 12 #[.string ⟨#[111, 119, 110, 32, 120, 59, 32, 35, 32, 121]⟩] w fun e w' => ∃ (g cap : Nat), e = .returned (.tuple #[.slice (some ⟨g, 0, none⟩) 3 cap, .agg #[.int .i64 0, .int .i64 0]]) ∧ TksAt w' (some ⟨g, 0, none⟩) [⟨2, 0, [111, 119, 110]⟩, ⟨1, 4, [120]⟩, ⟨4, 5, [59]⟩] ∧ Below w.heap.size w w' := by
  refine (ok.good al9a w henv (by decide)).mono ?_
  rintro e w' ⟨ao, cap, rfl, hT, hB⟩
  obtain ⟨g, rfl, _⟩ := hT 0 (by decide)
  exact ⟨g, cap, rfl, hT, hB⟩
theorem ag2 (ok : LexOk) (w : World) (henv : Env w) : Calls Try.prog 12 #[.string ⟨#[97, 32, 34]⟩] w fun e w' => ∃ (ao : Option Addr) (cap : Nat), e = .returned (.tuple #[.slice ao 0 cap, .agg #[.int .i64 3, .int .i64 2]]) ∧ Below w.heap.size w w' := ok.bad al9b w henv (by decide)
theorem ag3 (ok : LexOk) (w : World) (henv : Env w) : Calls Try.prog 49 #[.string ⟨#[99, 115, 112]⟩] w fun e w' => e = .returned (.bool true) ∧ Below w.heap.size w w' := by
  have h := ok.word [99, 115, 112] w henv (by decide)
  rw [al9c] at h; exact h

end Go.Proofs.Ytcmmjmgbanafgaa

/- Trees of package tree in memory; its reader in memory; what its functions leave. -/
namespace Go.Proofs.Ytcmmjmgbanafgaa
open Go.RowKit Go.Proofs.Url Go.Proofs.Url.Syn

/-- Between two bounds. -/
def In (lo hi : Nat) (b : Nat) : Prop := lo ≤ b ∧ b < hi
/-- Some blocks are as they were. -/
def KeptIn (K : Nat → Prop) (W W' : World) : Prop := ∀ b, K b → W'.heap[b]? = W.heap[b]?
theorem KeptIn.cell {K : Nat → Prop} {W W' : World} (h : KeptIn K W W') {b j : Nat} {v : Value} (h1 : K b) (hc : W.cell? ⟨b, j, none⟩ = some v) : W'.cell? ⟨b, j, none⟩ = some v := by
  rw [World.cell?_of_block (w := W) (h b h1)]; exact hc
theorem KeptIn.belowK {K : Nat → Prop} {B : Nat} {W W' : World} (h : Below B W W') (hK : ∀ b, K b → b < B) : KeptIn K W W' := fun b h2 => h.block b (hK b h2)
theorem KeptIn.below {B hi : Nat} {W W' : World} (h : Below B W W') (hi' : hi ≤ B) (lo : Nat) : KeptIn (In lo hi) W W' := fun b h2 => h.block b (Nat.lt_of_lt_of_le h2.2 hi')
theorem KeptIn.butK {K : Nat → Prop} {g : Nat} {W W' : World} (h : ButP g W W') (hg : ¬ K g) (hs : ∀ b, K b → b < W.heap.size) : KeptIn K W W' := fun b h1 => h.block b (hs b h1) (fun e => hg (e ▸ h1))
theorem KeptIn.but {g : Nat} {W W' : World} (h : ButP g W W') {lo hi : Nat} (hg : g < lo) (hs : hi ≤ W.heap.size) : KeptIn (In lo hi) W W' := fun b h1 => h.block b (Nat.lt_of_lt_of_le h1.2 hs) (by have := h1.1; omega)
theorem KeptIn.setK {K : Nat → Prop} {W : World} {n j : Nat} {v : Value} (h : ¬ K n) : KeptIn K W (W.setCell ⟨n, j, none⟩ v) := fun b h1 => Below.heap_setCell _ _ _ _ (by show b ≠ n; exact fun e => h (e ▸ h1))
theorem KeptIn.set {W : World} {n j : Nat} {v : Value} {lo hi : Nat} (h : n < lo ∨ hi ≤ n) : KeptIn (In lo hi) W (W.setCell ⟨n, j, none⟩ v) := KeptIn.setK (fun k => by have := k.1; have := k.2; omega)
theorem KeptIn.trans {K : Nat → Prop} {W W' W'' : World} (h : KeptIn K W W') (k : KeptIn K W' W'') : KeptIn K W W'' := fun b h1 => (k b h1).trans (h b h1)
theorem KeptIn.refl (K : Nat → Prop) (W : World) : KeptIn K W W := fun _ _ => rfl
theorem KeptIn.sub {K K' : Nat → Prop} {W W' : World} (h : KeptIn K W W') (h1 : ∀ b, K' b → K b) : KeptIn K' W W' := fun b a => h b (h1 b a)

/-- A row of tokens, where it may lie. -/
def TA (W : World) (K : Nat → Prop) (ao : Option Addr) (ts : List Tk) : Prop :=
  ∀ k (h : k < ts.length), ∃ g, ao = some ⟨g, 0, none⟩ ∧ K g ∧ W.cell? ⟨g, k * 3, none⟩ = some (.int .i64 ts[k].kind) ∧ W.cell? ⟨g, k * 3 + 1, none⟩ = some (.int .i64 ts[k].at') ∧ W.cell? ⟨g, k * 3 + 2, none⟩ = some (.string ⟨ts[k].text.toArray⟩)
theorem TA.keep {W W' : World} {K : Nat → Prop} {ao : Option Addr} {ts : List Tk} (h : TA W K ao ts) (hk : KeptIn K W W') : TA W' K ao ts := by
  intro k hlt
  obtain ⟨g, h1, h2, h4, h5, h6⟩ := h k hlt
  exact ⟨g, h1, h2, hk.cell h2 h4, hk.cell h2 h5, hk.cell h2 h6⟩
theorem TA.sub {W : World} {K K' : Nat → Prop} {ao : Option Addr} {ts : List Tk} (h : TA W K ao ts) (h1 : ∀ b, K b → K' b) : TA W K' ao ts := by
  intro k hlt
  obtain ⟨g, a, b, r⟩ := h k hlt
  exact ⟨g, a, h1 g b, r⟩
theorem In.mono {lo hi lo' hi' : Nat} (h1 : lo' ≤ lo) (h2 : hi ≤ hi') : ∀ b, In lo hi b → In lo' hi' b := fun _ h => ⟨Nat.le_trans h1 h.1, Nat.lt_of_lt_of_le h.2 h2⟩
theorem TA.mono {W : World} {lo hi lo' hi' : Nat} {ao : Option Addr} {ts : List Tk} (h : TA W (In lo hi) ao ts) (h1 : lo' ≤ lo) (h2 : hi ≤ hi') : TA W (In lo' hi') ao ts := h.sub (In.mono h1 h2)
theorem TA.nil (W : World) (K : Nat → Prop) (ao : Option Addr) : TA W K ao [] := fun k h => by simp at h
/-- A row of nodes, from a place on. -/
def FC (W : World) (K : Nat → Prop) : Fo → Nat → Nat → Prop
  | .nil, _, _ => True
  | .cons ts p r, g, k => ∃ a1 c1 a2 c2, W.cell? ⟨g, k * 2, none⟩ = some (.slice a1 ts.length c1) ∧ W.cell? ⟨g, k * 2 + 1, none⟩ = some (.slice a2 p.len c2) ∧ TA W K a1 ts ∧
      (p = .nil ∨ ∃ g', a2 = some ⟨g', 0, none⟩ ∧ K g' ∧ FC W K p g' 0) ∧ FC W K r g (k + 1)
def FA (W : World) (K : Nat → Prop) (ao : Option Addr) (p : Fo) : Prop := p = .nil ∨ ∃ g, ao = some ⟨g, 0, none⟩ ∧ K g ∧ FC W K p g 0
theorem FC.keep {W W' : World} {K : Nat → Prop} (hk : KeptIn K W W') : ∀ {p : Fo} {g k : Nat}, K g → FC W K p g k → FC W' K p g k
  | .nil, _, _, _, _ => trivial
  | .cons ts p r, g, k, h1, ⟨a1, c1, a2, c2, e1, e2, ht, hp, hr⟩ => by
    refine ⟨a1, c1, a2, c2, hk.cell h1 e1, hk.cell h1 e2, ht.keep hk, ?_, FC.keep hk h1 hr⟩
    rcases hp with hp | ⟨g', f1, f2, f4⟩
    · exact .inl hp
    · exact .inr ⟨g', f1, f2, FC.keep hk f2 f4⟩
theorem FC.sub {W : World} {K K' : Nat → Prop} (ha : ∀ b, K b → K' b) : ∀ {p : Fo} {g k : Nat}, FC W K p g k → FC W K' p g k
  | .nil, _, _, _ => trivial
  | .cons ts p r, g, k, ⟨a1, c1, a2, c2, e1, e2, ht, hp, hr⟩ => by
    refine ⟨a1, c1, a2, c2, e1, e2, ht.sub ha, ?_, FC.sub ha hr⟩
    rcases hp with hp | ⟨g', f1, f2, f4⟩
    · exact .inl hp
    · exact .inr ⟨g', f1, ha g' f2, FC.sub ha f4⟩
theorem FA.keep {W W' : World} {K : Nat → Prop} {ao : Option Addr} {p : Fo} (h : FA W K ao p) (hk : KeptIn K W W') : FA W' K ao p := by
  rcases h with h | ⟨g, h1, h2, h4⟩
  · exact .inl h
  · exact .inr ⟨g, h1, h2, h4.keep hk h2⟩
theorem FA.sub {W : World} {K K' : Nat → Prop} {ao : Option Addr} {p : Fo} (h : FA W K ao p) (ha : ∀ b, K b → K' b) : FA W K' ao p := by
  rcases h with h | ⟨g, h1, h2, h4⟩
  · exact .inl h
  · exact .inr ⟨g, h1, ha g h2, h4.sub ha⟩
theorem FA.nil (W : World) (K : Nat → Prop) (ao : Option Addr) : FA W K ao .nil := .inl rfl
/-- A node as a value. -/
structure NA (W : World) (K : Nat → Prop) (a1 a2 : Option Addr) (x : Nd) : Prop where
  t : TA W K a1 x.1
  f : FA W K a2 x.2
theorem NA.keep {W W' : World} {K : Nat → Prop} {a1 a2 : Option Addr} {x : Nd} (h : NA W K a1 a2 x) (hk : KeptIn K W W') : NA W' K a1 a2 x := ⟨h.t.keep hk, h.f.keep hk⟩
theorem NA.sub {W : World} {K K' : Nat → Prop} {a1 a2 : Option Addr} {x : Nd} (h : NA W K a1 a2 x) (ha : ∀ b, K b → K' b) : NA W K' a1 a2 x := ⟨h.t.sub ha, h.f.sub ha⟩
theorem NA.mono {W : World} {lo hi lo' hi' : Nat} {a1 a2 : Option Addr} {x : Nd} (h : NA W (In lo hi) a1 a2 x) (ha : lo' ≤ lo) (hb : hi ≤ hi') : NA W (In lo' hi') a1 a2 x := h.sub (In.mono ha hb)
/-- One node, two nodes in a block of their own. -/
theorem FC.one {W : World} {K : Nat → Prop} {g c1 c2 : Nat} {a1 a2 : Option Addr} {x : Nd} (h : NA W K a1 a2 x) (e1 : W.cell? ⟨g, 0, none⟩ = some (.slice a1 x.1.length c1)) (e2 : W.cell? ⟨g, 1, none⟩ = some (.slice a2 x.2.len c2)) : FC W K (.cons x.1 x.2 .nil) g 0 :=
  ⟨a1, c1, a2, c2, e1, e2, h.t, h.f, trivial⟩
theorem FC.two {W : World} {K : Nat → Prop} {g c1 c2 d1 d2 : Nat} {a1 a2 b1 b2 : Option Addr} {x y : Nd} (h : NA W K a1 a2 x) (k : NA W K b1 b2 y) (e1 : W.cell? ⟨g, 0, none⟩ = some (.slice a1 x.1.length c1)) (e2 : W.cell? ⟨g, 1, none⟩ = some (.slice a2 x.2.len c2))
    (f1 : W.cell? ⟨g, 2, none⟩ = some (.slice b1 y.1.length d1)) (f2 : W.cell? ⟨g, 3, none⟩ = some (.slice b2 y.2.len d2)) : FC W K (.cons x.1 x.2 (.cons y.1 y.2 .nil)) g 0 :=
  ⟨a1, c1, a2, c2, e1, e2, h.t, h.f, b1, d1, b2, d2, f1, f2, k.t, k.f, trivial⟩

/-- A reader's three cells. -/
structure RB (W : World) (g : Nat) (sl : Value) (i n : Nat) : Prop where
  c0 : W.cell? ⟨g, 0, none⟩ = some sl
  c1 : W.cell? ⟨g, 1, none⟩ = some (.int .i64 i)
  c2 : W.cell? ⟨g, 2, none⟩ = some (.int .i64 n)
  fr : W.frozen? ⟨g, 1, none⟩ = false
theorem RB.lt {W : World} {g : Nat} {sl : Value} {i n : Nat} (h : RB W g sl i n) : g < W.heap.size := World.block_lt_of_cell? W _ h.c0
theorem RB.keep {W W' : World} {g : Nat} {sl : Value} {i n : Nat} (h : RB W g sl i n) (hb : W'.heap[g]? = W.heap[g]?) : RB W' g sl i n :=
  ⟨by rw [World.cell?_of_block (w := W) hb]; exact h.c0, by rw [World.cell?_of_block (w := W) hb]; exact h.c1, by rw [World.cell?_of_block (w := W) hb]; exact h.c2, by unfold World.frozen?; simp only [hb]; exact h.fr⟩
theorem RB.set1 {W : World} {g : Nat} {sl : Value} {i n : Nat} (h : RB W g sl i n) (v : Nat) : RB (W.setCell ⟨g, 1, none⟩ (.int .i64 v)) g sl v n :=
  ⟨tcell_other h.c0 (by decide), tcell_same h.c1, tcell_other h.c2 (by decide), by rw [World.frozen?_setCell]; exact h.fr⟩
/-- A reader: its tokens, those that are left, how long the text is. -/
structure RS (W : World) (g : Nat) (ao : Option Addr) (cap : Nat) (ts r : List Tk) (n : Nat) : Prop where
  ex : ∃ i, i ≤ ts.length ∧ ts.drop i = r ∧ RB W g (.slice ao ts.length cap) i n
  tk : TksB W g ao ts
theorem RS.lt {W : World} {g : Nat} {ao : Option Addr} {cap : Nat} {ts r : List Tk} {n : Nat} (h : RS W g ao cap ts r n) : g < W.heap.size := by
  obtain ⟨i, _, _, hp⟩ := h.ex; exact hp.lt
theorem RS.keepB {W W' : World} {B g : Nat} {ao : Option Addr} {cap : Nat} {ts r : List Tk} {n : Nat} (h : RS W g ao cap ts r n) (hb : Below B W W') (hg : g < B) : RS W' g ao cap ts r n := by
  obtain ⟨i, h1, h2, hp⟩ := h.ex
  exact ⟨⟨i, h1, h2, hp.keep (hb.block g hg)⟩, h.tk.keep (hb.mono (Nat.le_of_lt hg))⟩
theorem RS.keep {W W' : World} {g : Nat} {ao : Option Addr} {cap : Nat} {ts r : List Tk} {n : Nat} (h : RS W g ao cap ts r n) (hb : Below W.heap.size W W') : RS W' g ao cap ts r n := h.keepB hb h.lt
theorem RS.set {W : World} {g : Nat} {ao : Option Addr} {cap : Nat} {ts r : List Tk} {n : Nat} (h : RS W g ao cap ts r n) {b j : Nat} (v : Value) (hb : g < b) : RS (W.setCell ⟨b, j, none⟩ v) g ao cap ts r n :=
  h.keepB (B := g + 1) ((Below.refl _ _).setCell (p := ⟨b, j, none⟩) hb v) (Nat.lt_succ_self g)
theorem RS.alloc {W : World} {g : Nat} {ao : Option Addr} {cap : Nat} {ts r : List Tk} {n : Nat} (h : RS W g ao cap ts r n) (o : Obj) : RS (W.alloc o) g ao cap ts r n := h.keep ((Below.refl _ _).alloc (Nat.le_refl _) _)
theorem RS.tok {W : World} {g : Nat} {ao : Option Addr} {cap : Nat} {ts r : List Tk} {n : Nat} (h : RS W g ao cap ts r n) (ht : TokOk ts) : TokOk r := by
  obtain ⟨i, _, rfl, _⟩ := h.ex; exact ht.drop i
theorem RS.le {W : World} {g : Nat} {ao : Option Addr} {cap : Nat} {ts r : List Tk} {n : Nat} (h : RS W g ao cap ts r n) : r.length ≤ ts.length := by
  obtain ⟨i, _, rfl, _⟩ := h.ex; rw [List.length_drop]; omega
theorem ButP.allocq (g : Nat) (w : World) (o : Obj) : ButP g w (w.alloc o) := But.below ((Below.refl _ _).alloc (Nat.le_refl _) _)
theorem ButP.setq {g : Nat} {w W : World} (h : ButP g w W) {b j : Nat} (v : Value) (hb : w.heap.size ≤ b) : ButP g w (W.setCell ⟨b, j, none⟩ v) := But.trans h (But.below ((Below.refl _ _).setCell (p := ⟨b, j, none⟩) hb v))
theorem RS.cell {W : World} {g : Nat} {ao : Option Addr} {cap : Nat} {ts : List Tk} {t : Tk} {r : List Tk} {n : Nat} (h : RS W g ao cap ts (t :: r) n) : ∃ i b, i < ts.length ∧ ts.drop (i + 1) = r ∧ ao = some ⟨b, 0, none⟩ ∧ b < g ∧ RB W g (.slice ao ts.length cap) i n ∧
    W.cell? ⟨b, i * 3, none⟩ = some (.int .i64 t.kind) ∧ W.cell? ⟨b, i * 3 + 1, none⟩ = some (.int .i64 t.at') ∧ W.cell? ⟨b, i * 3 + 2, none⟩ = some (.string ⟨t.text.toArray⟩) := by
  obtain ⟨i, hi, hd, hp⟩ := h.ex
  obtain ⟨hlt, ht, hd2⟩ := drop_headP hd
  obtain ⟨b, h1, h2, h3, h4, h5⟩ := h.tk i hlt
  rw [ht] at h3 h4 h5
  exact ⟨i, b, hlt, hd2, h1, h2, hp, h3, h4, h5⟩
theorem RS.nil {W : World} {g : Nat} {ao : Option Addr} {cap : Nat} {ts : List Tk} {n : Nat} (h : RS W g ao cap ts [] n) : RB W g (.slice ao ts.length cap) ts.length n := by
  obtain ⟨i, hi, hd, hp⟩ := h.ex
  have := drop_nilP hd
  have e : i = ts.length := by omega
  rw [e] at hp; exact hp

/-- What the reader panics with. -/
abbrev stuckB : List UInt8 := [110, 111, 32, 102, 105, 108, 101, 32, 103, 111, 101, 115, 32, 111, 110, 32, 115, 111]
abbrev stuckE : List PanicEntry := [{ v := .iface 9 (.string ⟨stuckB.toArray⟩), recovered := false }]
/-- What a reader leaves: a node, or a panic. -/
def OutG {α : Type} (Sh : Nd → α → Prop) (x : Rd α) (g : Nat) (ao : Option Addr) (cap : Nat) (ts : List Tk) (n : Nat) (w : World) (e : Ending) (w' : World) : Prop :=
  ButP g w w' ∧ (match x with
    | .ok a r => ∃ (y : Nd) (a1 : Option Addr) (c1 : Nat) (a2 : Option Addr) (c2 : Nat), e = .returned (.agg #[.slice a1 y.1.length c1, .slice a2 y.2.len c2]) ∧ NA w' (In w.heap.size w'.heap.size) a1 a2 y ∧ Sh y a ∧ RS w' g ao cap ts r n
    | .bad r => e = .panicked stuckE ∧ RS w' g ao cap ts r n)
theorem OutG.rel {α β : Type} {S1 : Nd → α → Prop} {S2 : Nd → β → Prop} {x : Rd α} {y : Rd β} {g : Nat} {ao : Option Addr} {cap : Nat} {ts : List Tk} {n : Nat} {w : World} {e : Ending} {w' : World}
    (h : OutG S1 x g ao cap ts n w e w') (hr : RelR (fun a b => ∀ z, S1 z a → S2 z b) x y) : OutG S2 y g ao cap ts n w e w' := by
  refine ⟨h.1, ?_⟩
  have h2 := h.2
  cases x with
  | ok a r =>
    cases y with
    | ok b r' =>
      obtain ⟨rfl, hs⟩ := hr
      obtain ⟨z, a1, c1, a2, c2, h3, h4, h5, h6⟩ := h2
      exact ⟨z, a1, c1, a2, c2, h3, h4, hs z h5, h6⟩
    | bad r' => exact hr.elim
  | bad r =>
    cases y with
    | ok b r' => exact hr.elim
    | bad r' =>
      have hr' : r = r' := hr
      subst hr'
      exact h2
theorem OutG.isBad {α : Type} {Sh : Nd → α → Prop} {x : Rd α} {g : Nat} {ao : Option Addr} {cap : Nat} {ts r : List Tk} {n : Nat} {w w' : World} (hx : x = .bad r) (hb : ButP g w w') (hs : RS w' g ao cap ts r n) :
    OutG Sh x g ao cap ts n w (.panicked stuckE) w' := by subst hx; exact ⟨hb, rfl, hs⟩
theorem OutG.isOk {α : Type} {Sh : Nd → α → Prop} {x : Rd α} {g : Nat} {ao : Option Addr} {cap : Nat} {ts r : List Tk} {n : Nat} {w w' : World} {a : α} {y : Nd} {a1 a2 : Option Addr} {c1 c2 : Nat} (hx : x = .ok a r) (hb : ButP g w w') (hn : NA w' (In w.heap.size w'.heap.size) a1 a2 y) (hsh : Sh y a) (hs : RS w' g ao cap ts r n) :
    OutG Sh x g ao cap ts n w (.returned (.agg #[.slice a1 y.1.length c1, .slice a2 y.2.len c2])) w' := by subst hx; exact ⟨hb, y, a1, c1, a2, c2, rfl, hn, hsh, hs⟩
/-- What take leaves: a row of tokens, or a panic. -/
def OutK (x : Rd (List Tk)) (g : Nat) (ao : Option Addr) (cap : Nat) (ts : List Tk) (n : Nat) (w : World) (e : Ending) (w' : World) : Prop :=
  ButP g w w' ∧ (match x with
    | .ok l r => ∃ (a1 : Option Addr) (c1 : Nat), e = .returned (.slice a1 l.length c1) ∧ TA w' (In w.heap.size w'.heap.size) a1 l ∧ RS w' g ao cap ts r n
    | .bad r => e = .panicked stuckE ∧ RS w' g ao cap ts r n)
/-- A node in a block of its own that may be written. -/
structure NB (W : World) (m : Nat) (v1 v2 : Value) : Prop where
  c0 : W.cell? ⟨m, 0, none⟩ = some v1
  c1 : W.cell? ⟨m, 1, none⟩ = some v2
  f0 : W.frozen? ⟨m, 0, none⟩ = false
  f1 : W.frozen? ⟨m, 1, none⟩ = false
theorem NB.lt {W : World} {m : Nat} {v1 v2 : Value} (h : NB W m v1 v2) : m < W.heap.size := World.block_lt_of_cell? W _ h.c0
theorem NB.same {W W' : World} {m : Nat} {v1 v2 : Value} (h : NB W m v1 v2) (hb : W'.heap[m]? = W.heap[m]?) : NB W' m v1 v2 :=
  ⟨by rw [World.cell?_of_block (w := W) hb]; exact h.c0, by rw [World.cell?_of_block (w := W) hb]; exact h.c1, by unfold World.frozen?; simp only [hb]; exact h.f0, by unfold World.frozen?; simp only [hb]; exact h.f1⟩
theorem NB.but {g : Nat} {W W' : World} {m : Nat} {v1 v2 : Value} (h : NB W m v1 v2) (hb : ButP g W W') (hn : m ≠ g) : NB W' m v1 v2 := h.same (hb.block m h.lt hn)
theorem NB.below {W W' : World} {m : Nat} {v1 v2 : Value} (h : NB W m v1 v2) (hb : Below W.heap.size W W') : NB W' m v1 v2 := h.same (hb.block m h.lt)
theorem NB.other {W : World} {m : Nat} {v1 v2 : Value} (h : NB W m v1 v2) {b j : Nat} (v : Value) (hn : m ≠ b) : NB (W.setCell ⟨b, j, none⟩ v) m v1 v2 := h.same (Below.heap_setCell _ _ _ _ (by show m ≠ b; exact hn))
theorem NB.new (w : World) (v1 v2 : Value) (t : TypeId) : NB (w.alloc (.cells #[v1, v2] t)) w.heap.size v1 v2 := by
  refine ⟨?_, ?_, ?_, ?_⟩
  all_goals (first | (rw [World.frozen?_alloc_new]; done) | (rw [World.cell?_alloc_new]; rfl))
theorem NB.set1 {W : World} {m : Nat} {v1 v2 : Value} (h : NB W m v1 v2) (v : Value) : NB (W.setCell ⟨m, 1, none⟩ v) m v1 v :=
  ⟨tcell_other h.c0 (by decide), tcell_same h.c1, by rw [World.frozen?_setCell]; exact h.f0, by rw [World.frozen?_setCell]; exact h.f1⟩
theorem NB.set0 {W : World} {m : Nat} {v1 v2 : Value} (h : NB W m v1 v2) (v : Value) : NB (W.setCell ⟨m, 0, none⟩ v) m v v2 :=
  ⟨tcell_same h.c0, tcell_other h.c1 (by decide), by rw [World.frozen?_setCell]; exact h.f0, by rw [World.frozen?_setCell]; exact h.f1⟩
def putN (W : World) (m : Nat) (v1 v2 : Value) : World := (W.setCell ⟨m, 0, none⟩ v1).setCell ⟨m, 1, none⟩ v2
theorem NB.put {W : World} {m : Nat} {v1 v2 : Value} (h : NB W m v1 v2) (u1 u2 : Value) : NB (putN W m u1 u2) m u1 u2 := (h.set0 u1).set1 u2
theorem putN_below {B : Nat} {u W : World} (h : Below B u W) {m : Nat} (hm : B ≤ m) (v1 v2 : Value) : Below B u (putN W m v1 v2) := (h.setCell (p := ⟨m, 0, none⟩) hm _).setCell (p := ⟨m, 1, none⟩) hm _
theorem putN_but {g : Nat} {w W : World} (h : ButP g w W) {m : Nat} (hm : w.heap.size ≤ m) (v1 v2 : Value) : ButP g w (putN W m v1 v2) := (h.setq _ hm).setq _ hm
theorem putN_kept {W : World} {m : Nat} {v1 v2 : Value} {lo hi : Nat} (h : m < lo ∨ hi ≤ m) : KeptIn (In lo hi) W (putN W m v1 v2) := (KeptIn.set h).trans (KeptIn.set h)
theorem putN_keptK {W : World} {m : Nat} {v1 v2 : Value} {K : Nat → Prop} (h : ¬ K m) : KeptIn K W (putN W m v1 v2) := (KeptIn.setK h).trans (KeptIn.setK h)
theorem putN_size (W : World) (m : Nat) (v1 v2 : Value) : (putN W m v1 v2).heap.size = W.heap.size := by unfold putN; rw [size_set, size_set]
theorem putN_rs {W : World} {g : Nat} {ao : Option Addr} {cap : Nat} {ts r : List Tk} {n : Nat} (h : RS W g ao cap ts r n) {m : Nat} (v1 v2 : Value) (hb : g < m) : RS (putN W m v1 v2) g ao cap ts r n := (h.set v1 hb).set v2 hb
end Go.Proofs.Ytcmmjmgbanafgaa

/- The walk over tree.fits. -/
namespace Go.Proofs.Ytcmmjmgbanafgaa
open Go.RowKit Go.Proofs.Url Go.Proofs.Url.Syn

theorem fit_lits (want : List UInt8) (hp : plainW want = true) : ((want == w_NAME) = false ∧ (want == w_CAPS) = false) ∧ (want == w_TEXT) = false ∧ (want == w_orNAME) = false := by
  unfold plainW at hp
  simp only [Bool.and_eq_true, Bool.not_eq_true'] at hp
  exact ⟨⟨hp.1.1.1, hp.1.1.2⟩, hp.1.2, hp.2⟩
set_option maxHeartbeats 1000000 in
theorem fits_lit (k a : Nat) (tt want : List UInt8) (hp : plainW want = true) (w : World) :
    Calls Try.prog 91 #[.agg #[.int .i64 k, .int .i64 a, .string ⟨tt.toArray⟩], .string ⟨want.toArray⟩] w fun e w' => e = .returned (.bool ((k == 2 || k == 4) && tt == want)) ∧ Below w.heap.size w w' := by
  obtain ⟨⟨h1, h2⟩, h3, h4⟩ := fit_lits want hp
  clear hp
  by_cases k2 : k = 2
  · subst k2
    have hz : ((2 == 2 || 2 == 4) && tt == want) = (tt == want) := by simp
    rw [hz]
    go_enter Try.func91, Try.ntmps91
    go_wp2_with fail
    go_ret
    exact ⟨rfl, (Below.refl _ _).alloc (Nat.le_refl _) _⟩
  · by_cases k4 : k = 4
    · subst k4
      have hz : ((4 == 2 || 4 == 4) && tt == want) = (tt == want) := by simp
      rw [hz]
      clear k2
      go_enter Try.func91, Try.ntmps91
      go_wp2_with fail
      go_ret
      exact ⟨rfl, (Below.refl _ _).alloc (Nat.le_refl _) _⟩
    · have b2 : ((k : Int) == 2) = false := beq_eq_false_iff_ne.2 (by omega)
      have b4 : ((k : Int) == 4) = false := beq_eq_false_iff_ne.2 (by omega)
      have hz : ((k == 2 || k == 4) && tt == want) = false := by simp [k2, k4]
      rw [hz]
      clear k2 k4 hz
      go_enter Try.func91, Try.ntmps91
      go_wp2_with fail
      go_ret
      exact ⟨rfl, (Below.refl _ _).alloc (Nat.le_refl _) _⟩
set_option maxHeartbeats 1000000 in
theorem fits_name (k a : Nat) (tt : List UInt8) (w : World) :
    Calls Try.prog 91 #[.agg #[.int .i64 k, .int .i64 a, .string ⟨tt.toArray⟩], .string ⟨#[78, 65, 77, 69]⟩] w fun e w' => e = .returned (.bool (k == 1)) ∧ Below w.heap.size w w' := by
  obtain ⟨b, hb⟩ : ∃ b, b = (k == 1) := ⟨_, rfl⟩
  have hk : ((k : Int) == 1) = b := by rw [hb]; cases h : (k == 1) <;> simp_all <;> omega
  rw [← hb]
  clear hb
  go_enter Try.func91, Try.ntmps91
  go_wp2_with fail
  go_ret
  exact ⟨rfl, (Below.refl _ _).alloc (Nat.le_refl _) _⟩
set_option maxHeartbeats 1000000 in
theorem fits_caps (k a : Nat) (tt : List UInt8) (w : World) :
    Calls Try.prog 91 #[.agg #[.int .i64 k, .int .i64 a, .string ⟨tt.toArray⟩], .string ⟨#[67, 65, 80, 83]⟩] w fun e w' => e = .returned (.bool (k == 5)) ∧ Below w.heap.size w w' := by
  obtain ⟨b, hb⟩ : ∃ b, b = (k == 5) := ⟨_, rfl⟩
  have hk : ((k : Int) == 5) = b := by rw [hb]; cases h : (k == 5) <;> simp_all <;> omega
  rw [← hb]
  clear hb
  go_enter Try.func91, Try.ntmps91
  go_wp2_with fail
  go_ret
  exact ⟨rfl, (Below.refl _ _).alloc (Nat.le_refl _) _⟩
set_option maxHeartbeats 1000000 in
theorem fits_text (k a : Nat) (tt : List UInt8) (w : World) :
    Calls Try.prog 91 #[.agg #[.int .i64 k, .int .i64 a, .string ⟨tt.toArray⟩], .string ⟨#[84, 69, 88, 84]⟩] w fun e w' => e = .returned (.bool (k == 3)) ∧ Below w.heap.size w w' := by
  obtain ⟨b, hb⟩ : ∃ b, b = (k == 3) := ⟨_, rfl⟩
  have hk : ((k : Int) == 3) = b := by rw [hb]; cases h : (k == 3) <;> simp_all <;> omega
  rw [← hb]
  clear hb
  go_enter Try.func91, Try.ntmps91
  go_wp2_with fail
  go_ret
  exact ⟨rfl, (Below.refl _ _).alloc (Nat.le_refl _) _⟩
set_option maxHeartbeats 1000000 in
theorem fits_or (k a : Nat) (tt : List UInt8) (w : World) :
    Calls Try.prog 91 #[.agg #[.int .i64 k, .int .i64 a, .string ⟨tt.toArray⟩], .string ⟨#[97, 110, 121, 32, 111, 114, 32, 78, 65, 77, 69]⟩] w fun e w' => e = .returned (.bool (k == 1 || litS ⟨k, a, tt⟩ w_any)) ∧ Below w.heap.size w w' := by
  have H1 := hide (fun W => fits_name k a tt W)
  cases hb : (k == 1) with
  | true =>
    rw [hb] at H1
    clear hb
    rw [Bool.true_or]
    go_enter Try.func91, Try.ntmps91
    go_wp2_with fail
    refine (H1.out _).mono ?_
    rintro e w1 ⟨rfl, B1⟩
    have B1 := hide (((Below.refl w.heap.size w).alloc (Nat.le_refl _) _).trans (B1.mono (Nat.le_of_lt (by simp))))
    go_wp2_with fail
    go_ret
    exact ⟨rfl, B1.out⟩
  | false =>
    have H2 := hide (fun W => fits_lit k a tt w_any (by decide) W)
    rw [hb] at H1
    clear hb
    rw [Bool.false_or]
    have e : litS ⟨k, a, tt⟩ w_any = ((k == 2 || k == 4) && tt == w_any) := rfl
    rw [e]
    clear e
    generalize ((k == 2 || k == 4) && tt == w_any) = bb at *
    go_enter Try.func91, Try.ntmps91
    go_wp2_with fail
    refine (H1.out _).mono ?_
    rintro e w1 ⟨rfl, B1⟩
    have c0 : w1.cell? ⟨w.heap.size, 0, none⟩ = some (.int .i64 k) := by rw [B1.cell (p := ⟨w.heap.size, 0, none⟩) (by simp), World.cell?_alloc_new]; rfl
    have c1 : w1.cell? ⟨w.heap.size, 1, none⟩ = some (.int .i64 a) := by rw [B1.cell (p := ⟨w.heap.size, 1, none⟩) (by simp), World.cell?_alloc_new]; rfl
    have c2 : w1.cell? ⟨w.heap.size, 2, none⟩ = some (.string ⟨tt.toArray⟩) := by rw [B1.cell (p := ⟨w.heap.size, 2, none⟩) (by simp), World.cell?_alloc_new]; rfl
    have hl := World.block_lt_of_cell? w1 _ c0
    have B1 := hide (((Below.refl w.heap.size w).alloc (Nat.le_refl _) _).trans (B1.mono (Nat.le_of_lt (by simp))))
    go_wp2_with fail
    refine (H2.out _).mono ?_
    rintro e w2 ⟨rfl, B2⟩
    have B2 := hide (B1.out.trans (B2.mono B1.out.size))
    go_wp2_with fail
    go_ret
    exact ⟨rfl, B2.out⟩
theorem fits_any (t : Tk) (want : List UInt8) (w : World) :
    Calls Try.prog 91 #[.agg #[.int .i64 t.kind, .int .i64 t.at', .string ⟨t.text.toArray⟩], .string ⟨want.toArray⟩] w fun e w' => e = .returned (.bool (fitS t want)) ∧ Below w.heap.size w w' := by
  by_cases h1 : want = w_NAME
  · subst h1; rw [fit_name]; exact fits_name _ _ _ w
  by_cases h2 : want = w_CAPS
  · subst h2; rw [fit_caps]; exact fits_caps _ _ _ w
  by_cases h3 : want = w_TEXT
  · subst h3; rw [fit_text]; exact fits_text _ _ _ w
  by_cases h4 : want = w_orNAME
  · subst h4; rw [fit_orname]; exact fits_or _ _ _ w
  have hp : plainW want = true := by unfold plainW; simp [h1, h2, h3, h4]
  rw [fitS_lit hp]
  exact fits_lit _ _ _ want hp w
end Go.Proofs.Ytcmmjmgbanafgaa

/- A whole struct loaded in a region that draws its order and only reads (L16, E2 have the like over an endpoint). -/
namespace Go.Proofs.Ytcmmjmgbanafgaa
open Go.RowKit Go.Proofs.Url

theorem row_new (w : World) (cs : List Value) (t : TypeId) : (w.alloc (Obj.cells cs.toArray t)).rangeAt w.heap.size 0 cs := by
  intro j v hj
  rw [Nat.zero_add, World.cell?_alloc_new]
  simpa using hj
theorem row_keep {W W' : World} {B g : Nat} {cs : List Value} (h : W.rangeAt g 0 cs) (hb : Below B W W') (hg : g < B) : W'.rangeAt g 0 cs := by
  intro j v hj
  rw [hb.cell (p := ⟨g, 0 + j, none⟩) hg]; exact h j v hj
theorem quiet_row {W : World} {cs : List Value} {g : Nat} (h : W.rangeAt g 0 cs) (hg : g < W.heap.size) : ∀ W', (∃ p : Regrown, W' = Sort.grow (redrawn W p.d) p.os) → W'.rangeAt g 0 cs := by
  rintro W' ⟨p, rfl⟩
  exact row_keep h (below_regrown W p.d p.os) hg
theorem wpQuiet_row {P : Program} {ops : Array Oper} {C : World → Prop} {Q : Act → Prop} {a : Act} {op : Oper} {rest : List Oper} (hw : Region.wanted op (yielded ops a.tmps) = true) (ty : TypeId) (x : Operand) (ho : op.op = .load ty x)
    (b o : Nat) (hx : a.eval x = .pointer (some ⟨b, o, none⟩)) (cs : List Value) (d : TypeDesc) (hC : ∀ w, C w → w.rangeAt b o cs)
    (hu : P.underlying ty = some d) (hd : d.isRow = true) (hi : (P.info? ty).map (·.size) = some cs.length)
    (h : wpQuiet P ops C Q rest (a.put op.dst (.agg cs.toArray))) : wpQuiet P ops C Q (op :: rest) a :=
  BigFrame.wpQuiet_want hw fun K hK => ⟨.agg cs.toArray, fun w hw' => by
    unfold Oper.quietAt execOp
    simp only [ho, hx, Instr.loadAt, Instr.sureAddr, Sem.run_bind, Sem.run_pure, Result.andThen_ok, run_loadVar_mid w b o ty cs d (hC w hw') hu hd hi]
    exact ⟨rfl, rfl⟩, hK _ h⟩
end Go.Proofs.Ytcmmjmgbanafgaa

/- The walks over tree.reader's word, at, sees. -/
namespace Go.Proofs.Ytcmmjmgbanafgaa
open Go.RowKit Go.Proofs.Url Go.Proofs.Url.Syn

theorem below_drew2 (w : World) (m n : Nat) : Below w.heap.size w ((w.drewN m).drewN n) := (below_drewP w m).trans (show Below w.heap.size (w.drewN m) _ from below_drewP (w.drewN m) n)
set_option maxHeartbeats 2000000 in
set_option maxRecDepth 100000 in
theorem word_any (g : Nat) (ao : Option Addr) (cap : Nat) (ts r : List Tk) (n : Nat) (w : World) (h : RS w g ao cap ts r n) :
    Calls Try.prog 72 #[.pointer (some ⟨g, 0, none⟩)] w fun e w' => e = .returned (.string ⟨(wordR r).toArray⟩) ∧ Below w.heap.size w w' := by
  have BD := hide (fun n => below_drewP w n)
  cases r with
  | nil =>
    obtain ⟨c0, c1, c2, f1⟩ := h.nil
    have hgl : g < w.heap.size := World.block_lt_of_cell? w _ c0
    clear h
    go_enter Try.func72, Try.ntmps72
    go_wp2_with fail
    go_quiet (fail)
    go_wp2_with fail
    go_ret
    exact ⟨rfl, BD.out _⟩
  | cons t r =>
    obtain ⟨i, b, hlt, hd, rfl, hb, ⟨c0, c1, c2, f1⟩, k1, k2, k3⟩ := h.cell
    have hgl : g < w.heap.size := World.block_lt_of_cell? w _ c0
    have hbl : b < w.heap.size := by omega
    have hne : ((i : Int) == (ts.length : Int)) = false := beq_eq_false_iff_ne.2 (by omega)
    have hlI : (i : Int) < (ts.length : Int) := by omega
    rw [wordR_cons]
    clear h hd
    generalize t.kind = tk at *
    generalize t.text = tt at *
    generalize ts.length = tl at *
    by_cases h2 : tk = 2
    · subst h2
      rw [if_pos rfl]
      clear hlt
      go_enter Try.func72, Try.ntmps72
      go_wp2_with fail
      go_quiet (fail)
      go_wp2_with fail
      go_quiet (fail)
      go_wp2_with fail
      go_ret
      exact ⟨rfl, below_drew2 w _ _⟩
    · have b2 : ((tk : Int) != 2) = true := by simp; omega
      rw [if_neg h2]
      clear h2 hlt
      go_enter Try.func72, Try.ntmps72
      go_wp2_with fail
      go_quiet (fail)
      go_wp2_with fail
      go_ret
      exact ⟨rfl, BD.out _⟩
/-- Where the token that comes stands; the text's end behind all. -/
def atR (n : Nat) : List Tk → Nat
  | [] => n
  | t :: _ => t.at'
set_option maxHeartbeats 2000000 in
set_option maxRecDepth 100000 in
theorem at_any (g : Nat) (ao : Option Addr) (cap : Nat) (ts r : List Tk) (n : Nat) (w : World) (h : RS w g ao cap ts r n) :
    Calls Try.prog 52 #[.pointer (some ⟨g, 0, none⟩)] w fun e w' => e = .returned (.int .i64 (atR n r)) ∧ Below w.heap.size w w' := by
  have BD := hide (fun n => below_drewP w n)
  cases r with
  | nil =>
    obtain ⟨c0, c1, c2, f1⟩ := h.nil
    have hgl : g < w.heap.size := World.block_lt_of_cell? w _ c0
    clear h
    go_enter Try.func52, Try.ntmps52
    go_wp2_with fail
    go_quiet (fail)
    go_wp2_with fail
    go_ret
    exact ⟨rfl, BD.out _⟩
  | cons t r =>
    obtain ⟨i, b, hlt, hd, rfl, hb, ⟨c0, c1, c2, f1⟩, k1, k2, k3⟩ := h.cell
    have hgl : g < w.heap.size := World.block_lt_of_cell? w _ c0
    have hbl : b < w.heap.size := by omega
    have hne : ((i : Int) == (ts.length : Int)) = false := beq_eq_false_iff_ne.2 (by omega)
    have hlI : (i : Int) < (ts.length : Int) := by omega
    have e : atR n (t :: r) = t.at' := rfl
    rw [e]
    clear h hd e
    generalize t.at' = ta at *
    generalize ts.length = tl at *
    clear hlt
    go_enter Try.func52, Try.ntmps52
    go_wp2_with fail
    go_quiet (fail)
    go_wp2_with fail
    go_quiet (fail)
    go_wp2_with fail
    go_ret
    exact ⟨rfl, below_drew2 w _ _⟩
theorem tk_range {W : World} {b i : Nat} {t : Tk} (k1 : W.cell? ⟨b, i * 3, none⟩ = some (.int .i64 t.kind)) (k2 : W.cell? ⟨b, i * 3 + 1, none⟩ = some (.int .i64 t.at')) (k3 : W.cell? ⟨b, i * 3 + 2, none⟩ = some (.string ⟨t.text.toArray⟩)) : W.rangeAt b (i * 3) (tkCells t) := by
  intro j v hj
  match j, hj with
  | 0, hj => cases hj; exact k1
  | 1, hj => cases hj; exact k2
  | 2, hj => cases hj; exact k3
theorem quiet_rangeq {W : World} {cs : List Value} {g o : Nat} (h : W.rangeAt g o cs) (hg : g < W.heap.size) : ∀ W', (∃ p : Regrown, W' = Sort.grow (redrawn W p.d) p.os) → W'.rangeAt g o cs := by
  rintro W' ⟨p, rfl⟩
  intro j v hj
  rw [(below_regrown W p.d p.os).cell (p := ⟨g, o + j, none⟩) hg]; exact h j v hj
set_option maxHeartbeats 2000000 in
set_option maxRecDepth 100000 in
theorem sees_any (want : List UInt8) (g : Nat) (ao : Option Addr) (cap : Nat) (ts r : List Tk) (n : Nat) (w : World) (h : RS w g ao cap ts r n) :
    Calls Try.prog 85 #[.pointer (some ⟨g, 0, none⟩), .string ⟨want.toArray⟩] w fun e w' => e = .returned (.bool (fitT want r)) ∧ Below w.heap.size w w' := by
  have BD := hide (fun n => below_drewP w n)
  cases r with
  | nil =>
    obtain ⟨c0, c1, c2, f1⟩ := h.nil
    have hgl : g < w.heap.size := World.block_lt_of_cell? w _ c0
    clear h
    go_enter Try.func85, Try.ntmps85
    go_wp2_with fail
    go_quiet (fail)
    go_wp2_with fail
    go_ret
    exact ⟨rfl, BD.out _⟩
  | cons t r =>
    obtain ⟨i, b, hlt, hd, rfl, hb, ⟨c0, c1, c2, f1⟩, k1, k2, k3⟩ := h.cell
    have hgl : g < w.heap.size := World.block_lt_of_cell? w _ c0
    have hbl : b < w.heap.size := by omega
    have hlI : (i : Int) < (ts.length : Int) := by omega
    have IF : Hid ((Try.prog.info? 39).map (·.size) = some 3) := by unfold Hid; kernel_rfl
    have Q1 := hide (quiet_rangeq (tk_range k1 k2 k3) hbl)
    have F1 := hide (fun d o => Calls.regrown_of (fits_any t want (Sort.grow (redrawn w d) o)))
    have d0 := fun d os => cell_regrown c0 d os
    have d1 := fun d os => cell_regrown c1 d os
    have e : fitT want (t :: r) = fitS t want := rfl
    rw [e]
    generalize fitS t want = bb at *
    clear h hd e k1 k2 k3 c0 c1 c2 f1
    generalize ts.length = tl at *
    go_enter Try.func85, Try.ntmps85
    go_upto_region 1 with fail
    refine wp_region_quiet_below (by kernel_rfl) (by kernel_rfl) ?_
    repeat (first
      | (refine wpQuiet_row rfl 39 _ rfl b (i * 3) rfl (tkCells t) _ Q1.out Try.underlying39 rfl IF.out ?_; simp only [tkCells, Act.put, List.setIfInBounds_toArray, List.set_cons_succ, List.set_cons_zero])
      | (go_big_quiet_step (first | (go_at_call 91; exact F1.out _ _))))
    refine wpQuiet_nil ?_
    rintro _ ⟨pq, rfl⟩
    have hb6 := below_regrown w pq.d pq.os
    go_wp2_with fail
    go_ret
    exact ⟨rfl, hb6⟩
end Go.Proofs.Ytcmmjmgbanafgaa

/- The walks over tree.reader's take, leaf. -/
namespace Go.Proofs.Url
open Syn
theorem takesR_nilq (w : List UInt8) (ws : List (List UInt8)) : takesR (w :: ws) [] = .bad [] := rfl
theorem takesR_no {w : List UInt8} (ws : List (List UInt8)) {r : List Tk} (h : fitT w r = false) : takesR (w :: ws) r = .bad r := by
  cases r with
  | nil => rfl
  | cons t r => rw [takesR_cons]; have : fitS t w = false := h; rw [this]; rfl
theorem takesR_yes {w : List UInt8} (ws : List (List UInt8)) {r : List Tk} (h : fitT w r = true) : ∃ t r', r = t :: r' ∧ takesR (w :: ws) r = (takesR ws r').map (fun l => if t.kind = 4 then l else t :: l) := by
  cases r with
  | nil => cases h
  | cons t r => refine ⟨t, r, rfl, ?_⟩; rw [takesR_cons]; have : fitS t w = true := h; rw [this]; rfl
theorem map_mapq {α β γ : Type} (x : Rd α) (f : α → β) (h : β → γ) : (x.map f).map h = x.map fun a => h (f a) := by cases x <;> rfl
theorem drop_getD {ws : List (List UInt8)} {k : Nat} (h : k < ws.length) : ws.drop k = ws.getD k [] :: ws.drop (k + 1) := by
  rw [List.drop_eq_getElem_cons h, List.getD_eq_getElem?_getD, List.getElem?_eq_getElem h]; rfl
theorem map_idq {α : Type} (x : Rd (List α)) : x.map (fun l => [] ++ l) = x := by cases x <;> rfl
end Go.Proofs.Url
namespace Go.Proofs.Ytcmmjmgbanafgaa
open Go.RowKit Go.Proofs.Url Go.Proofs.Url.Syn

theorem owns_TA {w : World} {base : Nat} {ao : Option Addr} {cap : Nat} {ts : List Tk} (h : w.ownsRow base 39 3 (.slice ao ts.length cap) ts.length (ts.flatMap tkCells)) : TA w (In base w.heap.size) ao ts := by
  intro k hk
  rcases h.2 with ⟨hv, h0⟩ | ⟨g', cap', cur, hv, hg, hh, hn, hm, hsz, htk⟩
  · omega
  · simp only [Value.slice.injEq, true_and] at hv
    obtain ⟨rfl, rfl⟩ := hv
    have hlt : g' < w.heap.size := by
      rcases Nat.lt_or_ge g' w.heap.size with h | h
      · exact h
      · rw [Array.getElem?_eq_none h] at hh; cases hh
    have hc : ∀ j v, j < 3 → (tkCells ts[k])[j]? = some v → w.cell? ⟨g', k * 3 + j, none⟩ = some v := by
      intro j v hj3 hj
      have hf := flat3t ts k hk j v hj
      have : (cur.toList.take (ts.length * 3))[k * 3 + j]? = (ts.flatMap tkCells)[k * 3 + j]? := by rw [htk]
      rw [List.getElem?_take, if_pos (by omega), hf] at this
      have e : w.cell? ⟨g', k * 3 + j, none⟩ = cur[k * 3 + j]? := by simp [World.cell?, hh]
      rw [e]; simpa using this
    exact ⟨g', rfl, ⟨hg, hlt⟩, hc 0 _ (by decide) rfl, hc 1 _ (by decide) rfl, hc 2 _ (by decide) rfl⟩
theorem ownsq_kept {w W : World} {base : Nat} {e : TypeId} {size : Nat} {v : Value} {n : Nat} {xs : List Value} (h : w.ownsRow base e size v n xs) (hk : KeptIn (In base w.heap.size) w W) : W.ownsRow base e size v n xs := by
  refine ⟨h.1, ?_⟩
  rcases h.2 with hn | ⟨k, cap, cur, hv, hb, hh, rest⟩
  · exact .inl hn
  · have hlt : k < w.heap.size := by
      rcases Nat.lt_or_ge k w.heap.size with h | h
      · exact h
      · rw [Array.getElem?_eq_none h] at hh; cases hh
    exact .inr ⟨k, cap, cur, hv, hb, by rw [hk k ⟨hb, hlt⟩]; exact hh, rest⟩
theorem LitsAt.butq {g : Nat} {W W' : World} {b : Nat} {l : List (List UInt8)} (h : LitsAt W b l) (hb : ButP g W W') (hn : b ≠ g) : LitsAt W' b l := by
  intro k hk
  have h1 := h k hk
  have hl := World.block_lt_of_cell? W _ h1
  rw [hb.cell (p := ⟨b, k, none⟩) hl hn]; exact h1
theorem RS.step {W : World} {g : Nat} {ao : Option Addr} {cap : Nat} {ts : List Tk} {t : Tk} {r : List Tk} {n : Nat} (h : RS W g ao cap ts (t :: r) n) {i : Nat} (hi : i < ts.length) (hd : ts.drop (i + 1) = r) (hb : RB W g (.slice ao ts.length cap) i n) :
    RS (W.setCell ⟨g, 1, none⟩ (.int .i64 ((i : Int) + 1))) g ao cap ts r n :=
  ⟨⟨i + 1, hi, hd, by have := hb.set1 (i + 1); simpa using this⟩, h.tk.keep ((Below.refl _ _).setCell (p := ⟨g, 1, none⟩) (Nat.le_refl _) _)⟩

set_option maxHeartbeats 4000000 in
set_option maxRecDepth 100000 in
theorem take_any (ws : List (List UInt8)) (lb : Nat) (g : Nat) (ao : Option Addr) (cap : Nat) (ts r : List Tk) (n : Nat) (w : World) (h : RS w g ao cap ts r n) (hL : LitsAt w lb ws) (hne : g < lb) (hlw : lb < w.heap.size) (hw1 : ws.length < 100) (hl : ts.length < 4294967281) :
    Calls Try.prog 84 #[.pointer (some ⟨g, 0, none⟩), .slice (some ⟨lb, 0, none⟩) ws.length ws.length] w fun e w' => OutK (takesR ws r) g ao cap ts n w e w' := by
  obtain ⟨i0, hi, hz0, hz1, hz2⟩ := info_parts infoT
  have HI := hide hi
  have HZ0 := hide hz0
  have HZ1 := hide hz1
  have HZ2 := hide hz2
  have HS := hide h
  have HLi := hide hL
  have HTl := hide hl
  have hgw := h.lt
  clear hi hz0 hz1 hz2 h hL hl
  go_enter Try.func84, Try.ntmps84
  go_wp2_with fail
  go_loopw [5, 11] (fun tv iv W => ∃ (k : Nat) (acc r' : List Tk) (a1 : Option Addr) (cv : Nat), k ≤ ws.length ∧ acc.length ≤ k ∧ iv = .int .i64 k ∧ tv = .slice a1 acc.length cv ∧ Hid (takesR ws r = (takesR (ws.drop k) r').map (fun l => acc ++ l)) ∧
      Hid (RS W g ao cap ts r' n) ∧ Hid (W.ownsRow w.heap.size 39 3 (.slice a1 acc.length cv) acc.length (acc.flatMap tkCells)) ∧ Hid (LitsAt W lb ws) ∧ Hid (ButP g w W)) (fun _ iv _ => ws.length - (intOf iv).toNat)
  case atStart => exact ⟨0, [], r, none, 0, Nat.zero_le _, Nat.le_refl _, rfl, rfl, by unfold Hid; rw [List.drop_zero, map_idq], HS, World.ownsRow_nil _ _ _ _, HLi, But.refl _ _ _⟩
  case round =>
    obtain ⟨k, acc, r', a1, cv, hk, hac, rfl, rfl, hE, hS, hO, hLi, hB⟩ := hrel
    by_cases hlt : k < ws.length
    · have hlI : (k : Int) < (ws.length : Int) := by omega
      have ck := hLi.out k hlt
      have hlb := World.block_lt_of_cell? wr _ ck
      have HD : Hid (ws.drop k = ws.getD k [] :: ws.drop (k + 1)) := drop_getD hlt
      generalize ws.getD k [] = wk at *
      have hgl := hS.out.lt
      cases hq : fitT wk r' with
      | false =>
        have HSe := hide (sees_any wk g ao cap ts r' n wr hS.out)
        rw [hq] at HSe
        have HR : Hid (takesR ws r = .bad r') := by unfold Hid; rw [hE.out, HD.out, takesR_no _ hq]; rfl
        clear hE HD hq
        go_wp2_with fail
        refine HSe.out.mono ?_
        rintro e w1 ⟨rfl, hb1⟩
        have S1 := hide (hS.out.keep hb1)
        have B1 := hide (hB.out.trans (ButP.of hb1))
        clear hb1 hS hB HSe hO hLi
        go_wp2_with fail
        refine ⟨rfl, ?_⟩
        rw [HR.out]
        exact ⟨B1.out, rfl, S1.out⟩
      | true =>
        have HSe := hide (sees_any wk g ao cap ts r' n wr hS.out)
        rw [hq] at HSe
        obtain ⟨t, r2, rfl, hT⟩ := takesR_yes (ws.drop (k + 1)) hq
        have HR : Hid (takesR ws r = ((takesR (ws.drop (k + 1)) r2).map (fun l => if t.kind = 4 then l else t :: l)).map (fun l => acc ++ l)) := by unfold Hid; rw [hE.out, HD.out, hT]
        clear hE HD hq hT
        go_wp2_with fail
        refine HSe.out.mono ?_
        rintro e w1 ⟨rfl, hb1⟩
        have S1 := hide (hS.out.keep hb1)
        have B1 := hide (hB.out.trans (ButP.of hb1))
        have O1 := hide (ownsq_kept hO.out (KeptIn.below hb1 (Nat.le_refl _) _))
        have L1 := hide (hLi.out.butq (ButP.of (g := g) hb1) (by omega))
        have hs1 := hb1.size
        have hsw := hB.out.size
        clear hb1 hS hB HSe hO hLi ck
        obtain ⟨i, b, hit, hd, rfl, hbg, hRB, k1, k2, k3⟩ := S1.out.cell
        have HRB := hide hRB
        have HD2 := hide hd
        obtain ⟨c0, c1, c2, f1⟩ := hRB
        have hiI : (i : Int) < (ts.length : Int) := by omega
        have hgl1 := HRB.out.lt
        have hbl1 : b < w1.heap.size := by omega
        go_wp2_with fail
        go_region
        obtain ⟨W2, hW2⟩ : ∃ x, x = (w1.alloc (Obj.cells #[Value.int .i64 t.kind, Value.int .i64 t.at', Value.string ⟨t.text.toArray⟩] 39)).drew := ⟨_, rfl⟩
        rw [← hW2]
        have b2 : Below w1.heap.size w1 W2 := by rw [hW2]; exact ((Below.refl _ _).alloc (Nat.le_refl _) _).drew
        have d0 : W2.cell? ⟨w1.heap.size, 0, none⟩ = some (.int .i64 t.kind) := by rw [hW2]; show (w1.alloc _).cell? _ = _; rw [World.cell?_alloc_new]; rfl
        have d1 : W2.cell? ⟨w1.heap.size, 1, none⟩ = some (.int .i64 t.at') := by rw [hW2]; show (w1.alloc _).cell? _ = _; rw [World.cell?_alloc_new]; rfl
        have d2 : W2.cell? ⟨w1.heap.size, 2, none⟩ = some (.string ⟨t.text.toArray⟩) := by rw [hW2]; show (w1.alloc _).cell? _ = _; rw [World.cell?_alloc_new]; rfl
        have hdl : w1.heap.size < W2.heap.size := World.block_lt_of_cell? W2 _ d0
        clear hW2 c0 c1 c2 f1 k1 k2 k3
        have S2 := hide (S1.out.keep b2)
        have B2 := hide (B1.out.trans (ButP.of b2))
        have O2 := hide (ownsq_kept O1.out (KeptIn.below b2 (Nat.le_refl _) _))
        have L2 := hide (L1.out.butq (ButP.of (g := g) b2) (by omega))
        have RB2 := hide (HRB.out.keep (b2.block g hgl1))
        have c1 := RB2.out.c1
        have f1 := RB2.out.fr
        have hgl2 : g < W2.heap.size := by omega
        have hi2 : (i : Int) < 4294967281 := by have := HTl.out; omega
        clear S1 B1 O1 L1 HRB b2
        by_cases k4 : t.kind = 4
        · have hk4 : ((t.kind : Int) != 4) = false := by rw [k4]; rfl
          have HR2 : Hid (takesR ws r = (takesR (ws.drop (k + 1)) r2).map (fun l => acc ++ l)) := by unfold Hid; rw [HR.out, map_mapq]; simp only [k4, if_true]
          have S3 := hide (S2.out.step hit HD2.out RB2.out)
          have B3 := hide (B2.out.set 1 (.int .i64 ((i : Int) + 1)))
          have O3 := hide (ownsq_kept O2.out (KeptIn.set (n := g) (j := 1) (v := .int .i64 ((i : Int) + 1)) (.inl (by omega))))
          have L3 := hide (L2.out.butq ((But.refl g W2.heap.size W2).set 1 (.int .i64 ((i : Int) + 1))) (by omega))
          clear k4 HR S2 B2 O2 L2 RB2
          go_wp2_with fail
          exact ⟨⟨k + 1, acc, r2, a1, cv, by omega, by omega, by go_num, rfl, HR2, S3, O3, L3, B3⟩, by simp [intOf]; omega⟩
        · have hk4 : ((t.kind : Int) != 4) = true := by simp; omega
          have HR2 : Hid (takesR ws r = (takesR (ws.drop (k + 1)) r2).map (fun l => (acc ++ [t]) ++ l)) := by
            unfold Hid; rw [HR.out, map_mapq]; congr 1; funext l; simp [k4]
          clear k4 HR
          have HBs : Hid (∀ j, (Value.slice a1 acc.length cv).ownBlock = some j → w.heap.size ≤ j) := fun j hj => owns_base O2.out j hj
          go_wp2_with (at_builtin; refine wpList_append_own _ rfl _ _ 35 rfl w.heap.size 39 i0 _ 3 32 Try.underlying35 HI.out HZ0.out HZ1.out HZ2.out rfl (by decide) _ _ _ rfl (O2.out.alloc _) ⟨W2.heap.size, 0, none⟩ 1 1 (tkCells t) rfl rfl (cell_row_at _ _ _) (fun x hx => by simp [tkCells] at hx; rcases hx with rfl | rfl | rfl <;> rfl) (by unfold maxLen; omega) (by omega) (by simp; omega) ?_; intro v' w4 hown' hgrow4 hnil4; have B4 : Below w.heap.size W2 w4 := Below.trans ((Below.refl _ _).alloc (by omega) _) (Below.grown (Below.refl _ _) hgrow4 (by simp; omega) HBs.out); obtain ⟨a2, cv2, rfl, hown3⟩ := toks_roundB hown'; have RB4 := hide (RB2.out.keep (B4.block g hgw)); have c4 := RB4.out.c1; have f4 := RB4.out.fr; have hgl4 := RB4.out.lt; have BH4 := hide B4; clear hown' hgrow4 hnil4 c1 f1 RB2 hgl2 d0 d1 d2 hdl B4)
          have S3 := hide ((S2.out.keepB BH4.out hgw).step hit HD2.out RB4.out)
          have B3 := hide ((But.trans B2.out (But.below BH4.out)).set 1 (.int .i64 ((i : Int) + 1)))
          have O3 := hide (ownsq_kept hown3.out (KeptIn.set (n := g) (j := 1) (v := .int .i64 ((i : Int) + 1)) (.inl (by omega))))
          have L3 := hide ((L2.out.keepB BH4.out hlw).butq ((But.refl g w4.heap.size w4).set 1 (.int .i64 ((i : Int) + 1))) (by omega))
          have hl2 : (acc ++ [t]).length = acc.length + 1 := by simp
          go_wp2_with fail
          exact ⟨⟨k + 1, acc ++ [t], r2, a2, cv2, by omega, by rw [hl2]; omega, by go_num, by rw [hl2], HR2, S3, O3, L3, B3⟩, by simp [intOf]; omega⟩
    · have hlI : ¬ (k : Int) < (ws.length : Int) := by omega
      obtain rfl : k = ws.length := by omega
      have HR : Hid (takesR ws r = .ok acc r') := by unfold Hid; rw [hE.out, List.drop_length]; simp [takesR, Rd.map]
      have HT := hide (owns_TA hO.out)
      clear hE hO hLi
      go_wp2_with fail
      go_ret
      rw [HR.out]
      exact ⟨hB.out, a1, cv, rfl, HT.out, hS.out⟩

/-- What leaf leaves. -/
def OutL (x : Rd (List Tk)) (g : Nat) (ao : Option Addr) (cap : Nat) (ts : List Tk) (n : Nat) (w : World) (e : Ending) (w' : World) : Prop :=
  ButP g w w' ∧ (match x with
    | .ok l r => ∃ (a1 : Option Addr) (c1 : Nat), e = .returned (.agg #[.slice a1 l.length c1, .slice none 0 0]) ∧ TA w' (In w.heap.size w'.heap.size) a1 l ∧ RS w' g ao cap ts r n
    | .bad r => e = .panicked stuckE ∧ RS w' g ao cap ts r n)
theorem OutL.isBad {x : Rd (List Tk)} {g : Nat} {ao : Option Addr} {cap : Nat} {ts r : List Tk} {n : Nat} {w w' : World} (hx : x = .bad r) (hb : ButP g w w') (hs : RS w' g ao cap ts r n) :
    OutL x g ao cap ts n w (.panicked stuckE) w' := by subst hx; exact ⟨hb, rfl, hs⟩
theorem OutL.isOk {x : Rd (List Tk)} {g : Nat} {ao : Option Addr} {cap : Nat} {ts r l : List Tk} {n : Nat} {w w' : World} {a1 : Option Addr} {c1 : Nat} (hx : x = .ok l r) (hb : ButP g w w') (hn : TA w' (In w.heap.size w'.heap.size) a1 l) (hs : RS w' g ao cap ts r n) :
    OutL x g ao cap ts n w (.returned (.agg #[.slice a1 l.length c1, .slice none 0 0])) w' := by subst hx; exact ⟨hb, a1, c1, rfl, hn, hs⟩
theorem OutL.toG {x : Rd (List Tk)} {g : Nat} {ao : Option Addr} {cap : Nat} {ts : List Tk} {n : Nat} {w w' : World} {e : Ending} (h : OutL x g ao cap ts n w e w') : OutG (fun y l => y = (l, .nil)) x g ao cap ts n w e w' := by
  refine ⟨h.1, ?_⟩
  have h2 := h.2
  cases x with
  | ok l r =>
    obtain ⟨a1, c1, e1, t, s⟩ := h2
    exact ⟨(l, .nil), a1, c1, none, 0, e1, ⟨t, FA.nil _ _ _⟩, rfl, s⟩
  | bad r => exact h2
theorem resReadLeaf {W : World} {m : Nat} {v1 v2 : Value} {tmps : Array Value} (h : NB W m v1 v2) (h4 : tmps[4]?.getD undef = .pointer (some ⟨m, 0, none⟩)) :
    (results Try.f73 tmps).run Try.prog W = .ok (.agg #[v1, v2]) W := by
  obtain ⟨c0, c1, _⟩ := h
  simp [results, Try.results73, go_sem, h4, c0, c1]
set_option maxHeartbeats 2000000 in
set_option maxRecDepth 100000 in
theorem leaf_full (ws : List (List UInt8)) (lb : Nat) (g : Nat) (ao : Option Addr) (cap : Nat) (ts r : List Tk) (n : Nat) (w : World) (h : RS w g ao cap ts r n) (hL : LitsAt w lb ws) (hne : g < lb) (hlw : lb < w.heap.size) (hw1 : ws.length < 100) (hl : ts.length < 4294967281) :
    Calls Try.prog 73 #[.pointer (some ⟨g, 0, none⟩), .slice (some ⟨lb, 0, none⟩) ws.length ws.length] w fun e w' => OutL (takesR ws r) g ao cap ts n w e w' := by
  have HT := hide (fun W (a : RS W g ao cap ts r n) (b : LitsAt W lb ws) (c : lb < W.heap.size) => take_any ws lb g ao cap ts r n W a b hne c hw1 hl)
  have HS := hide h
  have HLi := hide hL
  have hgw := h.lt
  clear h hL hl
  go_enter Try.func73, Try.ntmps73
  go_upto_region 1 with fail
  obtain ⟨W0, hW0⟩ : ∃ x, x = w.alloc (Obj.cells #[.slice none 0 0, .slice none 0 0] 51) := ⟨_, rfl⟩
  have b0 : Below w.heap.size w W0 := by rw [hW0]; exact (Below.refl _ _).alloc (Nat.le_refl _) _
  have N0 : Hid (NB W0 w.heap.size (.slice none 0 0) (.slice none 0 0)) := by unfold Hid; rw [hW0]; exact NB.new w _ _ _
  rw [← hW0]
  clear hW0
  have S0 := hide (HS.out.keep b0)
  have L0 := hide (HLi.out.keep b0)
  have B0 := hide (ButP.of (g := g) b0)
  have hs0 := b0.size
  clear b0 HS HLi
  go_wp2_with fail
  refine (HT.out _ S0.out L0.out (by omega)).mono ?_
  rintro e w1 ⟨B1, h1⟩
  cases hx : takesR ws r with
  | bad r' =>
    rw [hx] at h1
    obtain ⟨rfl, S1⟩ := h1
    have B2 := hide (B0.out.trans B1)
    have S1 := hide S1
    have HX := hide hx
    clear B0 B1 hx HT S0 L0 N0
    go_wp2_with fail
    exact ⟨rfl, OutL.isBad HX.out B2.out S1.out⟩
  | ok l r' =>
    rw [hx] at h1
    obtain ⟨a1, c1, rfl, T1, S1⟩ := h1
    have N1 := hide (N0.out.but B1 (by omega))
    have B2 := hide (B0.out.trans B1)
    have hs1 := B1.size
    have T1 := hide T1
    have S1 := hide S1
    have x0 := N1.out.c0
    have x1 := N1.out.c1
    have y0 := N1.out.f0
    have y1 := N1.out.f1
    have hml := N1.out.lt
    have N2 : Hid (NB (putN w1 w.heap.size (.slice a1 l.length c1) (.slice none 0 0)) w.heap.size (.slice a1 l.length c1) (.slice none 0 0)) := N1.out.put _ _
    have B3 : Hid (ButP g w (putN w1 w.heap.size (.slice a1 l.length c1) (.slice none 0 0))) := putN_but B2.out (Nat.le_refl _) _ _
    have S2 : Hid (RS (putN w1 w.heap.size (.slice a1 l.length c1) (.slice none 0 0)) g ao cap ts r' n) := putN_rs S1.out _ _ hgw
    have T2 : Hid (TA (putN w1 w.heap.size (.slice a1 l.length c1) (.slice none 0 0)) (In w.heap.size (putN w1 w.heap.size (.slice a1 l.length c1) (.slice none 0 0)).heap.size) a1 l) := by
      unfold Hid
      rw [putN_size]
      exact (T1.out.keep (putN_kept (.inl (by have := N0.out.lt; omega)))).mono (by omega) (Nat.le_refl _)
    unfold putN at N2 B3 S2 T2
    have HX := hide hx
    clear B0 B1 hx HT S0 L0 N0 N1 T1 S1 B2
    go_wp2_with fail
    refine bodyPost_ret (v := .agg #[.slice a1 l.length c1, .slice none 0 0]) ?_ rfl ?_
    · exact resReadLeaf N2.out rfl
    · exact OutL.isOk HX.out B3.out T2.out S2.out
theorem leaf_any (ws : List (List UInt8)) (lb : Nat) (g : Nat) (ao : Option Addr) (cap : Nat) (ts r : List Tk) (n : Nat) (w : World) (h : RS w g ao cap ts r n) (hL : LitsAt w lb ws) (hne : g < lb) (hlw : lb < w.heap.size) (hw1 : ws.length < 100) (hl : ts.length < 4294967281) :
    Calls Try.prog 73 #[.pointer (some ⟨g, 0, none⟩), .slice (some ⟨lb, 0, none⟩) ws.length ws.length] w fun e w' => OutG (fun y l => y = (l, .nil)) (takesR ws r) g ao cap ts n w e w' :=
  (leaf_full ws lb g ao cap ts r n w h hL hne hlw hw1 hl).mono fun _ _ o => o.toG
end Go.Proofs.Ytcmmjmgbanafgaa

/- The walk over tree.reader's attribute (text by make/tq5.py). -/
namespace Go.Proofs.Ytcmmjmgbanafgaa
open Go.RowKit Go.Proofs.Url Go.Proofs.Url.Syn

theorem resReadAttr {W : World} {m : Nat} {v1 v2 : Value} {tmps : Array Value} (h : NB W m v1 v2) (h2 : tmps[2]?.getD undef = .pointer (some ⟨m, 0, none⟩)) :
    (results Try.f86 tmps).run Try.prog W = .ok (.agg #[v1, v2]) W := by
  obtain ⟨c0, c1, _⟩ := h
  simp [results, Try.results86, go_sem, h2, c0, c1]
/-- What a function's own result cell, its reader and the rest are, ahead of a call and behind it. -/
structure RN (w W : World) (m g : Nat) (ao : Option Addr) (cap : Nat) (ts r : List Tk) (n : Nat) (v1 v2 : Value) : Prop where
  nb : NB W m v1 v2
  rs : RS W g ao cap ts r n
  bt : ButP g w W
  hm : w.heap.size ≤ m
theorem RN.new {w : World} {g : Nat} {ao : Option Addr} {cap : Nat} {ts r : List Tk} {n : Nat} (h : RS w g ao cap ts r n) (v1 v2 : Value) (t : TypeId) : RN w (w.alloc (.cells #[v1, v2] t)) w.heap.size g ao cap ts r n v1 v2 :=
  ⟨NB.new w v1 v2 t, h.alloc _, ButP.allocq _ _ _, Nat.le_refl _⟩
theorem RN.below {w W W' : World} {m g : Nat} {ao : Option Addr} {cap : Nat} {ts r : List Tk} {n : Nat} {v1 v2 : Value} (h : RN w W m g ao cap ts r n v1 v2) (hb : Below W.heap.size W W') : RN w W' m g ao cap ts r n v1 v2 :=
  ⟨h.nb.below hb, h.rs.keep hb, h.bt.trans (ButP.of hb), h.hm⟩
theorem RN.alloc {w W : World} {m g : Nat} {ao : Option Addr} {cap : Nat} {ts r : List Tk} {n : Nat} {v1 v2 : Value} (h : RN w W m g ao cap ts r n v1 v2) (o : Obj) : RN w (W.alloc o) m g ao cap ts r n v1 v2 := h.below ((Below.refl _ _).alloc (Nat.le_refl _) _)
theorem RN.but {w W W' : World} {m g : Nat} {ao : Option Addr} {cap : Nat} {ts r r' : List Tk} {n : Nat} {v1 v2 : Value} (h : RN w W m g ao cap ts r n v1 v2) (hg : g < w.heap.size) (hb : ButP g W W') (hs : RS W' g ao cap ts r' n) : RN w W' m g ao cap ts r' n v1 v2 :=
  ⟨h.nb.but hb (by have := h.hm; omega), hs, h.bt.trans hb, h.hm⟩
/-- What is stored there at the end. -/
theorem RN.out {α : Type} {Sh : Nd → α → Prop} {x : Rd α} {a : α} {w W W1 : World} {m g : Nat} {ao : Option Addr} {cap : Nat} {ts r : List Tk} {n : Nat} {v1 v2 : Value} {y : Nd} {a1 a2 : Option Addr} {c1 c2 : Nat} (h : RN w W m g ao cap ts r n v1 v2) (hg : g < w.heap.size) (hx : x = .ok a r)
    (hy : NA W (In W1.heap.size W.heap.size) a1 a2 y) (hm1 : m < W1.heap.size) (hw1 : w.heap.size ≤ W1.heap.size) (hsh : Sh y a) :
    OutG Sh x g ao cap ts n w (.returned (.agg #[.slice a1 y.1.length c1, .slice a2 y.2.len c2])) (putN W m (.slice a1 y.1.length c1) (.slice a2 y.2.len c2)) := by
  refine OutG.isOk hx (putN_but h.bt h.hm _ _) ?_ hsh (putN_rs h.rs _ _ (by have := h.hm; omega))
  rw [putN_size]
  exact (hy.keep (putN_kept (.inl hm1))).mono hw1 (Nat.le_refl _)

set_option maxHeartbeats 2000000 in
set_option maxRecDepth 100000 in
theorem attr_page (g : Nat) (ao : Option Addr) (cap : Nat) (ts r : List Tk) (n : Nat) (w : World) (h : RS w g ao cap ts r n) (hl : ts.length < 4294967281) (hw : wordR r = [112, 97, 103, 101]) :
    Calls Try.prog 86 #[.pointer (some ⟨g, 0, none⟩)] w fun e w' => OutG (fun y l => y = (l, .nil)) (takesR [[112, 97, 103, 101], w_semi] r) g ao cap ts n w e w' := by
  have HW : Hid (∀ W, RS W g ao cap ts r n → Calls Try.prog 72 #[.pointer (some ⟨g, 0, none⟩)] W fun e w' => e = .returned (.string ⟨([112, 97, 103, 101] : List UInt8).toArray⟩) ∧ Below W.heap.size W w') := fun W a => by
    have := word_any g ao cap ts r n W a; rwa [hw] at this
  have hgw := h.lt
  have R0 := hide (RN.new h (.slice none 0 0) (.slice none 0 0) 51)
  have HL := hide hl
  clear h hw hl
  go_enter Try.func86, Try.ntmps86
  go_upto_region 1 with fail
  obtain ⟨W0, hW0⟩ : ∃ x, x = w.alloc (Obj.cells #[.slice none 0 0, .slice none 0 0] 51) := ⟨_, rfl⟩
  rw [← hW0] at R0 ⊢
  clear hW0
  go_wp2_with fail
  refine (HW.out _ R0.out.rs).mono ?_
  rintro e w1 ⟨rfl, b1⟩
  have R1 := hide (R0.out.below b1)
  clear b1 R0 HW
  have hml := R1.out.nb.lt
  have hsw := R1.out.bt.size
  go_wp2_with fail
  have R2 := hide (fun o => R1.out.alloc o)
  refine (leaf_any [[112, 97, 103, 101], w_semi] w1.heap.size g ao cap ts r n _ (R2.out _).rs (lits_new w1 [[112, 97, 103, 101], w_semi] 9) (by omega) (by simp) (by decide) HL.out).mono ?_
  rintro e w3 ⟨B3, h3⟩
  have hs3 := B3.size
  cases hx : takesR [[112, 97, 103, 101], w_semi] r with
  | bad r' =>
    rw [hx] at h3
    obtain ⟨rfl, S3⟩ := h3
    have R3 := hide ((R2.out _).but hgw B3 S3)
    have HX := hide hx
    clear hx B3 S3 R1 R2
    go_wp2_with fail
    exact ⟨rfl, OutG.isBad HX.out R3.out.bt R3.out.rs⟩
  | ok l r' =>
    rw [hx] at h3
    obtain ⟨y, a1, c1, a2, c2, rfl, N3, hy, S3⟩ := h3
    have R3 := hide ((R2.out _).but hgw B3 S3)
    have HO := hide (fun hm => R3.out.out (Sh := fun y l => y = (l, .nil)) (c1 := c1) (c2 := c2) hgw hx N3 hm (by simp; omega) hy)
    have x0 := R3.out.nb.c0
    have x1 := R3.out.nb.c1
    have y0 := R3.out.nb.f0
    have y1 := R3.out.nb.f1
    have hml3 := R3.out.nb.lt
    have NF := hide (R3.out.nb.put (.slice a1 y.1.length c1) (.slice a2 y.2.len c2))
    unfold putN at NF HO
    clear hx B3 S3 R1 R2 N3 hy R3
    go_wp2_with fail
    refine bodyPost_ret (v := .agg #[.slice a1 y.1.length c1, .slice a2 y.2.len c2]) ?_ rfl ?_
    · exact resReadAttr NF.out rfl
    · exact HO.out (by simp; omega)

set_option maxHeartbeats 2000000 in
set_option maxRecDepth 100000 in
theorem attr_inject (g : Nat) (ao : Option Addr) (cap : Nat) (ts r : List Tk) (n : Nat) (w : World) (h : RS w g ao cap ts r n) (hl : ts.length < 4294967281) (hw : wordR r = [105, 110, 106, 101, 99, 116]) :
    Calls Try.prog 86 #[.pointer (some ⟨g, 0, none⟩)] w fun e w' => OutG (fun y l => y = (l, .nil)) (takesR [[105, 110, 106, 101, 99, 116], w_semi] r) g ao cap ts n w e w' := by
  have HW : Hid (∀ W, RS W g ao cap ts r n → Calls Try.prog 72 #[.pointer (some ⟨g, 0, none⟩)] W fun e w' => e = .returned (.string ⟨([105, 110, 106, 101, 99, 116] : List UInt8).toArray⟩) ∧ Below W.heap.size W w') := fun W a => by
    have := word_any g ao cap ts r n W a; rwa [hw] at this
  have hgw := h.lt
  have R0 := hide (RN.new h (.slice none 0 0) (.slice none 0 0) 51)
  have HL := hide hl
  clear h hw hl
  go_enter Try.func86, Try.ntmps86
  go_upto_region 1 with fail
  obtain ⟨W0, hW0⟩ : ∃ x, x = w.alloc (Obj.cells #[.slice none 0 0, .slice none 0 0] 51) := ⟨_, rfl⟩
  rw [← hW0] at R0 ⊢
  clear hW0
  go_wp2_with fail
  refine (HW.out _ R0.out.rs).mono ?_
  rintro e w1 ⟨rfl, b1⟩
  have R1 := hide (R0.out.below b1)
  clear b1 R0 HW
  have hml := R1.out.nb.lt
  have hsw := R1.out.bt.size
  go_wp2_with fail
  have R2 := hide (fun o => R1.out.alloc o)
  refine (leaf_any [[105, 110, 106, 101, 99, 116], w_semi] w1.heap.size g ao cap ts r n _ (R2.out _).rs (lits_new w1 [[105, 110, 106, 101, 99, 116], w_semi] 9) (by omega) (by simp) (by decide) HL.out).mono ?_
  rintro e w3 ⟨B3, h3⟩
  have hs3 := B3.size
  cases hx : takesR [[105, 110, 106, 101, 99, 116], w_semi] r with
  | bad r' =>
    rw [hx] at h3
    obtain ⟨rfl, S3⟩ := h3
    have R3 := hide ((R2.out _).but hgw B3 S3)
    have HX := hide hx
    clear hx B3 S3 R1 R2
    go_wp2_with fail
    exact ⟨rfl, OutG.isBad HX.out R3.out.bt R3.out.rs⟩
  | ok l r' =>
    rw [hx] at h3
    obtain ⟨y, a1, c1, a2, c2, rfl, N3, hy, S3⟩ := h3
    have R3 := hide ((R2.out _).but hgw B3 S3)
    have HO := hide (fun hm => R3.out.out (Sh := fun y l => y = (l, .nil)) (c1 := c1) (c2 := c2) hgw hx N3 hm (by simp; omega) hy)
    have x0 := R3.out.nb.c0
    have x1 := R3.out.nb.c1
    have y0 := R3.out.nb.f0
    have y1 := R3.out.nb.f1
    have hml3 := R3.out.nb.lt
    have NF := hide (R3.out.nb.put (.slice a1 y.1.length c1) (.slice a2 y.2.len c2))
    unfold putN at NF HO
    clear hx B3 S3 R1 R2 N3 hy R3
    go_wp2_with fail
    refine bodyPost_ret (v := .agg #[.slice a1 y.1.length c1, .slice a2 y.2.len c2]) ?_ rfl ?_
    · exact resReadAttr NF.out rfl
    · exact HO.out (by simp; omega)

set_option maxHeartbeats 2000000 in
set_option maxRecDepth 100000 in
theorem attr_own (g : Nat) (ao : Option Addr) (cap : Nat) (ts r : List Tk) (n : Nat) (w : World) (h : RS w g ao cap ts r n) (hl : ts.length < 4294967281) (hw : wordR r = [111, 119, 110]) :
    Calls Try.prog 86 #[.pointer (some ⟨g, 0, none⟩)] w fun e w' => OutG (fun y l => y = (l, .nil)) (takesR [[111, 119, 110], w_semi] r) g ao cap ts n w e w' := by
  have HW : Hid (∀ W, RS W g ao cap ts r n → Calls Try.prog 72 #[.pointer (some ⟨g, 0, none⟩)] W fun e w' => e = .returned (.string ⟨([111, 119, 110] : List UInt8).toArray⟩) ∧ Below W.heap.size W w') := fun W a => by
    have := word_any g ao cap ts r n W a; rwa [hw] at this
  have hgw := h.lt
  have R0 := hide (RN.new h (.slice none 0 0) (.slice none 0 0) 51)
  have HL := hide hl
  clear h hw hl
  go_enter Try.func86, Try.ntmps86
  go_upto_region 1 with fail
  obtain ⟨W0, hW0⟩ : ∃ x, x = w.alloc (Obj.cells #[.slice none 0 0, .slice none 0 0] 51) := ⟨_, rfl⟩
  rw [← hW0] at R0 ⊢
  clear hW0
  go_wp2_with fail
  refine (HW.out _ R0.out.rs).mono ?_
  rintro e w1 ⟨rfl, b1⟩
  have R1 := hide (R0.out.below b1)
  clear b1 R0 HW
  have hml := R1.out.nb.lt
  have hsw := R1.out.bt.size
  go_wp2_with fail
  have R2 := hide (fun o => R1.out.alloc o)
  refine (leaf_any [[111, 119, 110], w_semi] w1.heap.size g ao cap ts r n _ (R2.out _).rs (lits_new w1 [[111, 119, 110], w_semi] 9) (by omega) (by simp) (by decide) HL.out).mono ?_
  rintro e w3 ⟨B3, h3⟩
  have hs3 := B3.size
  cases hx : takesR [[111, 119, 110], w_semi] r with
  | bad r' =>
    rw [hx] at h3
    obtain ⟨rfl, S3⟩ := h3
    have R3 := hide ((R2.out _).but hgw B3 S3)
    have HX := hide hx
    clear hx B3 S3 R1 R2
    go_wp2_with fail
    exact ⟨rfl, OutG.isBad HX.out R3.out.bt R3.out.rs⟩
  | ok l r' =>
    rw [hx] at h3
    obtain ⟨y, a1, c1, a2, c2, rfl, N3, hy, S3⟩ := h3
    have R3 := hide ((R2.out _).but hgw B3 S3)
    have HO := hide (fun hm => R3.out.out (Sh := fun y l => y = (l, .nil)) (c1 := c1) (c2 := c2) hgw hx N3 hm (by simp; omega) hy)
    have x0 := R3.out.nb.c0
    have x1 := R3.out.nb.c1
    have y0 := R3.out.nb.f0
    have y1 := R3.out.nb.f1
    have hml3 := R3.out.nb.lt
    have NF := hide (R3.out.nb.put (.slice a1 y.1.length c1) (.slice a2 y.2.len c2))
    unfold putN at NF HO
    clear hx B3 S3 R1 R2 N3 hy R3
    go_wp2_with fail
    refine bodyPost_ret (v := .agg #[.slice a1 y.1.length c1, .slice a2 y.2.len c2]) ?_ rfl ?_
    · exact resReadAttr NF.out rfl
    · exact HO.out (by simp; omega)

set_option maxHeartbeats 2000000 in
set_option maxRecDepth 100000 in
theorem attr_changes (g : Nat) (ao : Option Addr) (cap : Nat) (ts r : List Tk) (n : Nat) (w : World) (h : RS w g ao cap ts r n) (hl : ts.length < 4294967281) (hw : wordR r = [99, 104, 97, 110, 103, 101, 115]) :
    Calls Try.prog 86 #[.pointer (some ⟨g, 0, none⟩)] w fun e w' => OutG (fun y l => y = (l, .nil)) (takesR [[99, 104, 97, 110, 103, 101, 115], w_semi] r) g ao cap ts n w e w' := by
  have HW : Hid (∀ W, RS W g ao cap ts r n → Calls Try.prog 72 #[.pointer (some ⟨g, 0, none⟩)] W fun e w' => e = .returned (.string ⟨([99, 104, 97, 110, 103, 101, 115] : List UInt8).toArray⟩) ∧ Below W.heap.size W w') := fun W a => by
    have := word_any g ao cap ts r n W a; rwa [hw] at this
  have hgw := h.lt
  have R0 := hide (RN.new h (.slice none 0 0) (.slice none 0 0) 51)
  have HL := hide hl
  clear h hw hl
  go_enter Try.func86, Try.ntmps86
  go_upto_region 1 with fail
  obtain ⟨W0, hW0⟩ : ∃ x, x = w.alloc (Obj.cells #[.slice none 0 0, .slice none 0 0] 51) := ⟨_, rfl⟩
  rw [← hW0] at R0 ⊢
  clear hW0
  go_wp2_with fail
  refine (HW.out _ R0.out.rs).mono ?_
  rintro e w1 ⟨rfl, b1⟩
  have R1 := hide (R0.out.below b1)
  clear b1 R0 HW
  have hml := R1.out.nb.lt
  have hsw := R1.out.bt.size
  go_wp2_with fail
  have R2 := hide (fun o => R1.out.alloc o)
  refine (leaf_any [[99, 104, 97, 110, 103, 101, 115], w_semi] w1.heap.size g ao cap ts r n _ (R2.out _).rs (lits_new w1 [[99, 104, 97, 110, 103, 101, 115], w_semi] 9) (by omega) (by simp) (by decide) HL.out).mono ?_
  rintro e w3 ⟨B3, h3⟩
  have hs3 := B3.size
  cases hx : takesR [[99, 104, 97, 110, 103, 101, 115], w_semi] r with
  | bad r' =>
    rw [hx] at h3
    obtain ⟨rfl, S3⟩ := h3
    have R3 := hide ((R2.out _).but hgw B3 S3)
    have HX := hide hx
    clear hx B3 S3 R1 R2
    go_wp2_with fail
    exact ⟨rfl, OutG.isBad HX.out R3.out.bt R3.out.rs⟩
  | ok l r' =>
    rw [hx] at h3
    obtain ⟨y, a1, c1, a2, c2, rfl, N3, hy, S3⟩ := h3
    have R3 := hide ((R2.out _).but hgw B3 S3)
    have HO := hide (fun hm => R3.out.out (Sh := fun y l => y = (l, .nil)) (c1 := c1) (c2 := c2) hgw hx N3 hm (by simp; omega) hy)
    have x0 := R3.out.nb.c0
    have x1 := R3.out.nb.c1
    have y0 := R3.out.nb.f0
    have y1 := R3.out.nb.f1
    have hml3 := R3.out.nb.lt
    have NF := hide (R3.out.nb.put (.slice a1 y.1.length c1) (.slice a2 y.2.len c2))
    unfold putN at NF HO
    clear hx B3 S3 R1 R2 N3 hy R3
    go_wp2_with fail
    refine bodyPost_ret (v := .agg #[.slice a1 y.1.length c1, .slice a2 y.2.len c2]) ?_ rfl ?_
    · exact resReadAttr NF.out rfl
    · exact HO.out (by simp; omega)

set_option maxHeartbeats 2000000 in
set_option maxRecDepth 100000 in
theorem attr_open (g : Nat) (ao : Option Addr) (cap : Nat) (ts r : List Tk) (n : Nat) (w : World) (h : RS w g ao cap ts r n) (hl : ts.length < 4294967281) (hw : wordR r = [111, 112, 101, 110]) :
    Calls Try.prog 86 #[.pointer (some ⟨g, 0, none⟩)] w fun e w' => OutG (fun y l => y = (l, .nil)) (takesR [[111, 112, 101, 110], w_semi] r) g ao cap ts n w e w' := by
  have HW : Hid (∀ W, RS W g ao cap ts r n → Calls Try.prog 72 #[.pointer (some ⟨g, 0, none⟩)] W fun e w' => e = .returned (.string ⟨([111, 112, 101, 110] : List UInt8).toArray⟩) ∧ Below W.heap.size W w') := fun W a => by
    have := word_any g ao cap ts r n W a; rwa [hw] at this
  have hgw := h.lt
  have R0 := hide (RN.new h (.slice none 0 0) (.slice none 0 0) 51)
  have HL := hide hl
  clear h hw hl
  go_enter Try.func86, Try.ntmps86
  go_upto_region 1 with fail
  obtain ⟨W0, hW0⟩ : ∃ x, x = w.alloc (Obj.cells #[.slice none 0 0, .slice none 0 0] 51) := ⟨_, rfl⟩
  rw [← hW0] at R0 ⊢
  clear hW0
  go_wp2_with fail
  refine (HW.out _ R0.out.rs).mono ?_
  rintro e w1 ⟨rfl, b1⟩
  have R1 := hide (R0.out.below b1)
  clear b1 R0 HW
  have hml := R1.out.nb.lt
  have hsw := R1.out.bt.size
  go_wp2_with fail
  have R2 := hide (fun o => R1.out.alloc o)
  refine (leaf_any [[111, 112, 101, 110], w_semi] w1.heap.size g ao cap ts r n _ (R2.out _).rs (lits_new w1 [[111, 112, 101, 110], w_semi] 9) (by omega) (by simp) (by decide) HL.out).mono ?_
  rintro e w3 ⟨B3, h3⟩
  have hs3 := B3.size
  cases hx : takesR [[111, 112, 101, 110], w_semi] r with
  | bad r' =>
    rw [hx] at h3
    obtain ⟨rfl, S3⟩ := h3
    have R3 := hide ((R2.out _).but hgw B3 S3)
    have HX := hide hx
    clear hx B3 S3 R1 R2
    go_wp2_with fail
    exact ⟨rfl, OutG.isBad HX.out R3.out.bt R3.out.rs⟩
  | ok l r' =>
    rw [hx] at h3
    obtain ⟨y, a1, c1, a2, c2, rfl, N3, hy, S3⟩ := h3
    have R3 := hide ((R2.out _).but hgw B3 S3)
    have HO := hide (fun hm => R3.out.out (Sh := fun y l => y = (l, .nil)) (c1 := c1) (c2 := c2) hgw hx N3 hm (by simp; omega) hy)
    have x0 := R3.out.nb.c0
    have x1 := R3.out.nb.c1
    have y0 := R3.out.nb.f0
    have y1 := R3.out.nb.f1
    have hml3 := R3.out.nb.lt
    have NF := hide (R3.out.nb.put (.slice a1 y.1.length c1) (.slice a2 y.2.len c2))
    unfold putN at NF HO
    clear hx B3 S3 R1 R2 N3 hy R3
    go_wp2_with fail
    refine bodyPost_ret (v := .agg #[.slice a1 y.1.length c1, .slice a2 y.2.len c2]) ?_ rfl ?_
    · exact resReadAttr NF.out rfl
    · exact HO.out (by simp; omega)

set_option maxHeartbeats 2000000 in
set_option maxRecDepth 100000 in
theorem attr_credentials (g : Nat) (ao : Option Addr) (cap : Nat) (ts r : List Tk) (n : Nat) (w : World) (h : RS w g ao cap ts r n) (hl : ts.length < 4294967281) (hw : wordR r = [99, 114, 101, 100, 101, 110, 116, 105, 97, 108, 115]) :
    Calls Try.prog 86 #[.pointer (some ⟨g, 0, none⟩)] w fun e w' => OutG (fun y l => y = (l, .nil)) (takesR [[99, 114, 101, 100, 101, 110, 116, 105, 97, 108, 115], w_semi] r) g ao cap ts n w e w' := by
  have HW : Hid (∀ W, RS W g ao cap ts r n → Calls Try.prog 72 #[.pointer (some ⟨g, 0, none⟩)] W fun e w' => e = .returned (.string ⟨([99, 114, 101, 100, 101, 110, 116, 105, 97, 108, 115] : List UInt8).toArray⟩) ∧ Below W.heap.size W w') := fun W a => by
    have := word_any g ao cap ts r n W a; rwa [hw] at this
  have hgw := h.lt
  have R0 := hide (RN.new h (.slice none 0 0) (.slice none 0 0) 51)
  have HL := hide hl
  clear h hw hl
  go_enter Try.func86, Try.ntmps86
  go_upto_region 1 with fail
  obtain ⟨W0, hW0⟩ : ∃ x, x = w.alloc (Obj.cells #[.slice none 0 0, .slice none 0 0] 51) := ⟨_, rfl⟩
  rw [← hW0] at R0 ⊢
  clear hW0
  go_wp2_with fail
  refine (HW.out _ R0.out.rs).mono ?_
  rintro e w1 ⟨rfl, b1⟩
  have R1 := hide (R0.out.below b1)
  clear b1 R0 HW
  have hml := R1.out.nb.lt
  have hsw := R1.out.bt.size
  go_wp2_with fail
  have R2 := hide (fun o => R1.out.alloc o)
  refine (leaf_any [[99, 114, 101, 100, 101, 110, 116, 105, 97, 108, 115], w_semi] w1.heap.size g ao cap ts r n _ (R2.out _).rs (lits_new w1 [[99, 114, 101, 100, 101, 110, 116, 105, 97, 108, 115], w_semi] 9) (by omega) (by simp) (by decide) HL.out).mono ?_
  rintro e w3 ⟨B3, h3⟩
  have hs3 := B3.size
  cases hx : takesR [[99, 114, 101, 100, 101, 110, 116, 105, 97, 108, 115], w_semi] r with
  | bad r' =>
    rw [hx] at h3
    obtain ⟨rfl, S3⟩ := h3
    have R3 := hide ((R2.out _).but hgw B3 S3)
    have HX := hide hx
    clear hx B3 S3 R1 R2
    go_wp2_with fail
    exact ⟨rfl, OutG.isBad HX.out R3.out.bt R3.out.rs⟩
  | ok l r' =>
    rw [hx] at h3
    obtain ⟨y, a1, c1, a2, c2, rfl, N3, hy, S3⟩ := h3
    have R3 := hide ((R2.out _).but hgw B3 S3)
    have HO := hide (fun hm => R3.out.out (Sh := fun y l => y = (l, .nil)) (c1 := c1) (c2 := c2) hgw hx N3 hm (by simp; omega) hy)
    have x0 := R3.out.nb.c0
    have x1 := R3.out.nb.c1
    have y0 := R3.out.nb.f0
    have y1 := R3.out.nb.f1
    have hml3 := R3.out.nb.lt
    have NF := hide (R3.out.nb.put (.slice a1 y.1.length c1) (.slice a2 y.2.len c2))
    unfold putN at NF HO
    clear hx B3 S3 R1 R2 N3 hy R3
    go_wp2_with fail
    refine bodyPost_ret (v := .agg #[.slice a1 y.1.length c1, .slice a2 y.2.len c2]) ?_ rfl ?_
    · exact resReadAttr NF.out rfl
    · exact HO.out (by simp; omega)

set_option maxHeartbeats 2000000 in
set_option maxRecDepth 100000 in
theorem attr_script (g : Nat) (ao : Option Addr) (cap : Nat) (ts r : List Tk) (n : Nat) (w : World) (h : RS w g ao cap ts r n) (hl : ts.length < 4294967281) (hw : wordR r = [115, 99, 114, 105, 112, 116]) :
    Calls Try.prog 86 #[.pointer (some ⟨g, 0, none⟩)] w fun e w' => OutG (fun y l => y = (l, .nil)) (takesR [[115, 99, 114, 105, 112, 116], w_NAME, w_semi] r) g ao cap ts n w e w' := by
  have HW : Hid (∀ W, RS W g ao cap ts r n → Calls Try.prog 72 #[.pointer (some ⟨g, 0, none⟩)] W fun e w' => e = .returned (.string ⟨([115, 99, 114, 105, 112, 116] : List UInt8).toArray⟩) ∧ Below W.heap.size W w') := fun W a => by
    have := word_any g ao cap ts r n W a; rwa [hw] at this
  have hgw := h.lt
  have R0 := hide (RN.new h (.slice none 0 0) (.slice none 0 0) 51)
  have HL := hide hl
  clear h hw hl
  go_enter Try.func86, Try.ntmps86
  go_upto_region 1 with fail
  obtain ⟨W0, hW0⟩ : ∃ x, x = w.alloc (Obj.cells #[.slice none 0 0, .slice none 0 0] 51) := ⟨_, rfl⟩
  rw [← hW0] at R0 ⊢
  clear hW0
  go_wp2_with fail
  refine (HW.out _ R0.out.rs).mono ?_
  rintro e w1 ⟨rfl, b1⟩
  have R1 := hide (R0.out.below b1)
  clear b1 R0 HW
  have hml := R1.out.nb.lt
  have hsw := R1.out.bt.size
  go_wp2_with fail
  have R2 := hide (fun o => R1.out.alloc o)
  refine (leaf_any [[115, 99, 114, 105, 112, 116], w_NAME, w_semi] w1.heap.size g ao cap ts r n _ (R2.out _).rs (lits_new w1 [[115, 99, 114, 105, 112, 116], w_NAME, w_semi] 9) (by omega) (by simp) (by decide) HL.out).mono ?_
  rintro e w3 ⟨B3, h3⟩
  have hs3 := B3.size
  cases hx : takesR [[115, 99, 114, 105, 112, 116], w_NAME, w_semi] r with
  | bad r' =>
    rw [hx] at h3
    obtain ⟨rfl, S3⟩ := h3
    have R3 := hide ((R2.out _).but hgw B3 S3)
    have HX := hide hx
    clear hx B3 S3 R1 R2
    go_wp2_with fail
    exact ⟨rfl, OutG.isBad HX.out R3.out.bt R3.out.rs⟩
  | ok l r' =>
    rw [hx] at h3
    obtain ⟨y, a1, c1, a2, c2, rfl, N3, hy, S3⟩ := h3
    have R3 := hide ((R2.out _).but hgw B3 S3)
    have HO := hide (fun hm => R3.out.out (Sh := fun y l => y = (l, .nil)) (c1 := c1) (c2 := c2) hgw hx N3 hm (by simp; omega) hy)
    have x0 := R3.out.nb.c0
    have x1 := R3.out.nb.c1
    have y0 := R3.out.nb.f0
    have y1 := R3.out.nb.f1
    have hml3 := R3.out.nb.lt
    have NF := hide (R3.out.nb.put (.slice a1 y.1.length c1) (.slice a2 y.2.len c2))
    unfold putN at NF HO
    clear hx B3 S3 R1 R2 N3 hy R3
    go_wp2_with fail
    refine bodyPost_ret (v := .agg #[.slice a1 y.1.length c1, .slice a2 y.2.len c2]) ?_ rfl ?_
    · exact resReadAttr NF.out rfl
    · exact HO.out (by simp; omega)

set_option maxHeartbeats 2000000 in
set_option maxRecDepth 100000 in
theorem attr_needs (g : Nat) (ao : Option Addr) (cap : Nat) (ts r : List Tk) (n : Nat) (w : World) (h : RS w g ao cap ts r n) (hl : ts.length < 4294967281) (hw : wordR r = [110, 101, 101, 100, 115]) :
    Calls Try.prog 86 #[.pointer (some ⟨g, 0, none⟩)] w fun e w' => OutG (fun y l => y = (l, .nil)) (takesR [[110, 101, 101, 100, 115], w_NAME, w_semi] r) g ao cap ts n w e w' := by
  have HW : Hid (∀ W, RS W g ao cap ts r n → Calls Try.prog 72 #[.pointer (some ⟨g, 0, none⟩)] W fun e w' => e = .returned (.string ⟨([110, 101, 101, 100, 115] : List UInt8).toArray⟩) ∧ Below W.heap.size W w') := fun W a => by
    have := word_any g ao cap ts r n W a; rwa [hw] at this
  have hgw := h.lt
  have R0 := hide (RN.new h (.slice none 0 0) (.slice none 0 0) 51)
  have HL := hide hl
  clear h hw hl
  go_enter Try.func86, Try.ntmps86
  go_upto_region 1 with fail
  obtain ⟨W0, hW0⟩ : ∃ x, x = w.alloc (Obj.cells #[.slice none 0 0, .slice none 0 0] 51) := ⟨_, rfl⟩
  rw [← hW0] at R0 ⊢
  clear hW0
  go_wp2_with fail
  refine (HW.out _ R0.out.rs).mono ?_
  rintro e w1 ⟨rfl, b1⟩
  have R1 := hide (R0.out.below b1)
  clear b1 R0 HW
  have hml := R1.out.nb.lt
  have hsw := R1.out.bt.size
  go_wp2_with fail
  have R2 := hide (fun o => R1.out.alloc o)
  refine (leaf_any [[110, 101, 101, 100, 115], w_NAME, w_semi] w1.heap.size g ao cap ts r n _ (R2.out _).rs (lits_new w1 [[110, 101, 101, 100, 115], w_NAME, w_semi] 9) (by omega) (by simp) (by decide) HL.out).mono ?_
  rintro e w3 ⟨B3, h3⟩
  have hs3 := B3.size
  cases hx : takesR [[110, 101, 101, 100, 115], w_NAME, w_semi] r with
  | bad r' =>
    rw [hx] at h3
    obtain ⟨rfl, S3⟩ := h3
    have R3 := hide ((R2.out _).but hgw B3 S3)
    have HX := hide hx
    clear hx B3 S3 R1 R2
    go_wp2_with fail
    exact ⟨rfl, OutG.isBad HX.out R3.out.bt R3.out.rs⟩
  | ok l r' =>
    rw [hx] at h3
    obtain ⟨y, a1, c1, a2, c2, rfl, N3, hy, S3⟩ := h3
    have R3 := hide ((R2.out _).but hgw B3 S3)
    have HO := hide (fun hm => R3.out.out (Sh := fun y l => y = (l, .nil)) (c1 := c1) (c2 := c2) hgw hx N3 hm (by simp; omega) hy)
    have x0 := R3.out.nb.c0
    have x1 := R3.out.nb.c1
    have y0 := R3.out.nb.f0
    have y1 := R3.out.nb.f1
    have hml3 := R3.out.nb.lt
    have NF := hide (R3.out.nb.put (.slice a1 y.1.length c1) (.slice a2 y.2.len c2))
    unfold putN at NF HO
    clear hx B3 S3 R1 R2 N3 hy R3
    go_wp2_with fail
    refine bodyPost_ret (v := .agg #[.slice a1 y.1.length c1, .slice a2 y.2.len c2]) ?_ rfl ?_
    · exact resReadAttr NF.out rfl
    · exact HO.out (by simp; omega)

set_option maxHeartbeats 2000000 in
set_option maxRecDepth 100000 in
theorem attr_sets (g : Nat) (ao : Option Addr) (cap : Nat) (ts r : List Tk) (n : Nat) (w : World) (h : RS w g ao cap ts r n) (hl : ts.length < 4294967281) (hw : wordR r = [115, 101, 116, 115]) :
    Calls Try.prog 86 #[.pointer (some ⟨g, 0, none⟩)] w fun e w' => OutG (fun y l => y = (l, .nil)) (takesR [[115, 101, 116, 115], w_NAME, w_semi] r) g ao cap ts n w e w' := by
  have HW : Hid (∀ W, RS W g ao cap ts r n → Calls Try.prog 72 #[.pointer (some ⟨g, 0, none⟩)] W fun e w' => e = .returned (.string ⟨([115, 101, 116, 115] : List UInt8).toArray⟩) ∧ Below W.heap.size W w') := fun W a => by
    have := word_any g ao cap ts r n W a; rwa [hw] at this
  have hgw := h.lt
  have R0 := hide (RN.new h (.slice none 0 0) (.slice none 0 0) 51)
  have HL := hide hl
  clear h hw hl
  go_enter Try.func86, Try.ntmps86
  go_upto_region 1 with fail
  obtain ⟨W0, hW0⟩ : ∃ x, x = w.alloc (Obj.cells #[.slice none 0 0, .slice none 0 0] 51) := ⟨_, rfl⟩
  rw [← hW0] at R0 ⊢
  clear hW0
  go_wp2_with fail
  refine (HW.out _ R0.out.rs).mono ?_
  rintro e w1 ⟨rfl, b1⟩
  have R1 := hide (R0.out.below b1)
  clear b1 R0 HW
  have hml := R1.out.nb.lt
  have hsw := R1.out.bt.size
  go_wp2_with fail
  have R2 := hide (fun o => R1.out.alloc o)
  refine (leaf_any [[115, 101, 116, 115], w_NAME, w_semi] w1.heap.size g ao cap ts r n _ (R2.out _).rs (lits_new w1 [[115, 101, 116, 115], w_NAME, w_semi] 9) (by omega) (by simp) (by decide) HL.out).mono ?_
  rintro e w3 ⟨B3, h3⟩
  have hs3 := B3.size
  cases hx : takesR [[115, 101, 116, 115], w_NAME, w_semi] r with
  | bad r' =>
    rw [hx] at h3
    obtain ⟨rfl, S3⟩ := h3
    have R3 := hide ((R2.out _).but hgw B3 S3)
    have HX := hide hx
    clear hx B3 S3 R1 R2
    go_wp2_with fail
    exact ⟨rfl, OutG.isBad HX.out R3.out.bt R3.out.rs⟩
  | ok l r' =>
    rw [hx] at h3
    obtain ⟨y, a1, c1, a2, c2, rfl, N3, hy, S3⟩ := h3
    have R3 := hide ((R2.out _).but hgw B3 S3)
    have HO := hide (fun hm => R3.out.out (Sh := fun y l => y = (l, .nil)) (c1 := c1) (c2 := c2) hgw hx N3 hm (by simp; omega) hy)
    have x0 := R3.out.nb.c0
    have x1 := R3.out.nb.c1
    have y0 := R3.out.nb.f0
    have y1 := R3.out.nb.f1
    have hml3 := R3.out.nb.lt
    have NF := hide (R3.out.nb.put (.slice a1 y.1.length c1) (.slice a2 y.2.len c2))
    unfold putN at NF HO
    clear hx B3 S3 R1 R2 N3 hy R3
    go_wp2_with fail
    refine bodyPost_ret (v := .agg #[.slice a1 y.1.length c1, .slice a2 y.2.len c2]) ?_ rfl ?_
    · exact resReadAttr NF.out rfl
    · exact HO.out (by simp; omega)

set_option maxHeartbeats 2000000 in
set_option maxRecDepth 100000 in
theorem attr_gives (g : Nat) (ao : Option Addr) (cap : Nat) (ts r : List Tk) (n : Nat) (w : World) (h : RS w g ao cap ts r n) (hl : ts.length < 4294967281) (hw : wordR r = [103, 105, 118, 101, 115]) :
    Calls Try.prog 86 #[.pointer (some ⟨g, 0, none⟩)] w fun e w' => OutG (fun y l => y = (l, .nil)) (takesR [[103, 105, 118, 101, 115], w_NAME, w_semi] r) g ao cap ts n w e w' := by
  have HW : Hid (∀ W, RS W g ao cap ts r n → Calls Try.prog 72 #[.pointer (some ⟨g, 0, none⟩)] W fun e w' => e = .returned (.string ⟨([103, 105, 118, 101, 115] : List UInt8).toArray⟩) ∧ Below W.heap.size W w') := fun W a => by
    have := word_any g ao cap ts r n W a; rwa [hw] at this
  have hgw := h.lt
  have R0 := hide (RN.new h (.slice none 0 0) (.slice none 0 0) 51)
  have HL := hide hl
  clear h hw hl
  go_enter Try.func86, Try.ntmps86
  go_upto_region 1 with fail
  obtain ⟨W0, hW0⟩ : ∃ x, x = w.alloc (Obj.cells #[.slice none 0 0, .slice none 0 0] 51) := ⟨_, rfl⟩
  rw [← hW0] at R0 ⊢
  clear hW0
  go_wp2_with fail
  refine (HW.out _ R0.out.rs).mono ?_
  rintro e w1 ⟨rfl, b1⟩
  have R1 := hide (R0.out.below b1)
  clear b1 R0 HW
  have hml := R1.out.nb.lt
  have hsw := R1.out.bt.size
  go_wp2_with fail
  have R2 := hide (fun o => R1.out.alloc o)
  refine (leaf_any [[103, 105, 118, 101, 115], w_NAME, w_semi] w1.heap.size g ao cap ts r n _ (R2.out _).rs (lits_new w1 [[103, 105, 118, 101, 115], w_NAME, w_semi] 9) (by omega) (by simp) (by decide) HL.out).mono ?_
  rintro e w3 ⟨B3, h3⟩
  have hs3 := B3.size
  cases hx : takesR [[103, 105, 118, 101, 115], w_NAME, w_semi] r with
  | bad r' =>
    rw [hx] at h3
    obtain ⟨rfl, S3⟩ := h3
    have R3 := hide ((R2.out _).but hgw B3 S3)
    have HX := hide hx
    clear hx B3 S3 R1 R2
    go_wp2_with fail
    exact ⟨rfl, OutG.isBad HX.out R3.out.bt R3.out.rs⟩
  | ok l r' =>
    rw [hx] at h3
    obtain ⟨y, a1, c1, a2, c2, rfl, N3, hy, S3⟩ := h3
    have R3 := hide ((R2.out _).but hgw B3 S3)
    have HO := hide (fun hm => R3.out.out (Sh := fun y l => y = (l, .nil)) (c1 := c1) (c2 := c2) hgw hx N3 hm (by simp; omega) hy)
    have x0 := R3.out.nb.c0
    have x1 := R3.out.nb.c1
    have y0 := R3.out.nb.f0
    have y1 := R3.out.nb.f1
    have hml3 := R3.out.nb.lt
    have NF := hide (R3.out.nb.put (.slice a1 y.1.length c1) (.slice a2 y.2.len c2))
    unfold putN at NF HO
    clear hx B3 S3 R1 R2 N3 hy R3
    go_wp2_with fail
    refine bodyPost_ret (v := .agg #[.slice a1 y.1.length c1, .slice a2 y.2.len c2]) ?_ rfl ?_
    · exact resReadAttr NF.out rfl
    · exact HO.out (by simp; omega)

set_option maxHeartbeats 2000000 in
set_option maxRecDepth 100000 in
theorem attr_redirect (g : Nat) (ao : Option Addr) (cap : Nat) (ts r : List Tk) (n : Nat) (w : World) (h : RS w g ao cap ts r n) (hl : ts.length < 4294967281) (hw : wordR r = [114, 101, 100, 105, 114, 101, 99, 116]) :
    Calls Try.prog 86 #[.pointer (some ⟨g, 0, none⟩)] w fun e w' => OutG (fun y l => y = (l, .nil)) (takesR [[114, 101, 100, 105, 114, 101, 99, 116], w_NAME, w_semi] r) g ao cap ts n w e w' := by
  have HW : Hid (∀ W, RS W g ao cap ts r n → Calls Try.prog 72 #[.pointer (some ⟨g, 0, none⟩)] W fun e w' => e = .returned (.string ⟨([114, 101, 100, 105, 114, 101, 99, 116] : List UInt8).toArray⟩) ∧ Below W.heap.size W w') := fun W a => by
    have := word_any g ao cap ts r n W a; rwa [hw] at this
  have hgw := h.lt
  have R0 := hide (RN.new h (.slice none 0 0) (.slice none 0 0) 51)
  have HL := hide hl
  clear h hw hl
  go_enter Try.func86, Try.ntmps86
  go_upto_region 1 with fail
  obtain ⟨W0, hW0⟩ : ∃ x, x = w.alloc (Obj.cells #[.slice none 0 0, .slice none 0 0] 51) := ⟨_, rfl⟩
  rw [← hW0] at R0 ⊢
  clear hW0
  go_wp2_with fail
  refine (HW.out _ R0.out.rs).mono ?_
  rintro e w1 ⟨rfl, b1⟩
  have R1 := hide (R0.out.below b1)
  clear b1 R0 HW
  have hml := R1.out.nb.lt
  have hsw := R1.out.bt.size
  go_wp2_with fail
  have R2 := hide (fun o => R1.out.alloc o)
  refine (leaf_any [[114, 101, 100, 105, 114, 101, 99, 116], w_NAME, w_semi] w1.heap.size g ao cap ts r n _ (R2.out _).rs (lits_new w1 [[114, 101, 100, 105, 114, 101, 99, 116], w_NAME, w_semi] 9) (by omega) (by simp) (by decide) HL.out).mono ?_
  rintro e w3 ⟨B3, h3⟩
  have hs3 := B3.size
  cases hx : takesR [[114, 101, 100, 105, 114, 101, 99, 116], w_NAME, w_semi] r with
  | bad r' =>
    rw [hx] at h3
    obtain ⟨rfl, S3⟩ := h3
    have R3 := hide ((R2.out _).but hgw B3 S3)
    have HX := hide hx
    clear hx B3 S3 R1 R2
    go_wp2_with fail
    exact ⟨rfl, OutG.isBad HX.out R3.out.bt R3.out.rs⟩
  | ok l r' =>
    rw [hx] at h3
    obtain ⟨y, a1, c1, a2, c2, rfl, N3, hy, S3⟩ := h3
    have R3 := hide ((R2.out _).but hgw B3 S3)
    have HO := hide (fun hm => R3.out.out (Sh := fun y l => y = (l, .nil)) (c1 := c1) (c2 := c2) hgw hx N3 hm (by simp; omega) hy)
    have x0 := R3.out.nb.c0
    have x1 := R3.out.nb.c1
    have y0 := R3.out.nb.f0
    have y1 := R3.out.nb.f1
    have hml3 := R3.out.nb.lt
    have NF := hide (R3.out.nb.put (.slice a1 y.1.length c1) (.slice a2 y.2.len c2))
    unfold putN at NF HO
    clear hx B3 S3 R1 R2 N3 hy R3
    go_wp2_with fail
    refine bodyPost_ret (v := .agg #[.slice a1 y.1.length c1, .slice a2 y.2.len c2]) ?_ rfl ?_
    · exact resReadAttr NF.out rfl
    · exact HO.out (by simp; omega)

set_option maxHeartbeats 2000000 in
set_option maxRecDepth 100000 in
theorem attr_cors (g : Nat) (ao : Option Addr) (cap : Nat) (ts r : List Tk) (n : Nat) (w : World) (h : RS w g ao cap ts r n) (hl : ts.length < 4294967281) (hw : wordR r = [99, 111, 114, 115]) :
    Calls Try.prog 86 #[.pointer (some ⟨g, 0, none⟩)] w fun e w' => OutG (fun y l => y = (l, .nil)) (takesR [w_cors, w_orNAME, w_semi] r) g ao cap ts n w e w' := by
  have HW : Hid (∀ W, RS W g ao cap ts r n → Calls Try.prog 72 #[.pointer (some ⟨g, 0, none⟩)] W fun e w' => e = .returned (.string ⟨([99, 111, 114, 115] : List UInt8).toArray⟩) ∧ Below W.heap.size W w') := fun W a => by
    have := word_any g ao cap ts r n W a; rwa [hw] at this
  have hgw := h.lt
  have R0 := hide (RN.new h (.slice none 0 0) (.slice none 0 0) 51)
  have HL := hide hl
  clear h hw hl
  go_enter Try.func86, Try.ntmps86
  go_upto_region 1 with fail
  obtain ⟨W0, hW0⟩ : ∃ x, x = w.alloc (Obj.cells #[.slice none 0 0, .slice none 0 0] 51) := ⟨_, rfl⟩
  rw [← hW0] at R0 ⊢
  clear hW0
  go_wp2_with fail
  refine (HW.out _ R0.out.rs).mono ?_
  rintro e w1 ⟨rfl, b1⟩
  have R1 := hide (R0.out.below b1)
  clear b1 R0 HW
  have hml := R1.out.nb.lt
  have hsw := R1.out.bt.size
  go_wp2_with fail
  have R2 := hide (fun o => R1.out.alloc o)
  refine (leaf_any [w_cors, w_orNAME, w_semi] w1.heap.size g ao cap ts r n _ (R2.out _).rs (lits_new w1 [w_cors, w_orNAME, w_semi] 9) (by omega) (by simp) (by decide) HL.out).mono ?_
  rintro e w3 ⟨B3, h3⟩
  have hs3 := B3.size
  cases hx : takesR [w_cors, w_orNAME, w_semi] r with
  | bad r' =>
    rw [hx] at h3
    obtain ⟨rfl, S3⟩ := h3
    have R3 := hide ((R2.out _).but hgw B3 S3)
    have HX := hide hx
    clear hx B3 S3 R1 R2
    go_wp2_with fail
    exact ⟨rfl, OutG.isBad HX.out R3.out.bt R3.out.rs⟩
  | ok l r' =>
    rw [hx] at h3
    obtain ⟨y, a1, c1, a2, c2, rfl, N3, hy, S3⟩ := h3
    have R3 := hide ((R2.out _).but hgw B3 S3)
    have HO := hide (fun hm => R3.out.out (Sh := fun y l => y = (l, .nil)) (c1 := c1) (c2 := c2) hgw hx N3 hm (by simp; omega) hy)
    have x0 := R3.out.nb.c0
    have x1 := R3.out.nb.c1
    have y0 := R3.out.nb.f0
    have y1 := R3.out.nb.f1
    have hml3 := R3.out.nb.lt
    have NF := hide (R3.out.nb.put (.slice a1 y.1.length c1) (.slice a2 y.2.len c2))
    unfold putN at NF HO
    clear hx B3 S3 R1 R2 N3 hy R3
    go_wp2_with fail
    refine bodyPost_ret (v := .agg #[.slice a1 y.1.length c1, .slice a2 y.2.len c2]) ?_ rfl ?_
    · exact resReadAttr NF.out rfl
    · exact HO.out (by simp; omega)

set_option maxHeartbeats 2000000 in
set_option maxRecDepth 100000 in
theorem attr_header (g : Nat) (ao : Option Addr) (cap : Nat) (ts r : List Tk) (n : Nat) (w : World) (h : RS w g ao cap ts r n) (hl : ts.length < 4294967281) (hw : wordR r = [104, 101, 97, 100, 101, 114]) :
    Calls Try.prog 86 #[.pointer (some ⟨g, 0, none⟩)] w fun e w' => OutG (fun y l => y = (l, .nil)) (takesR [[104, 101, 97, 100, 101, 114], w_TEXT, w_semi] r) g ao cap ts n w e w' := by
  have HW : Hid (∀ W, RS W g ao cap ts r n → Calls Try.prog 72 #[.pointer (some ⟨g, 0, none⟩)] W fun e w' => e = .returned (.string ⟨([104, 101, 97, 100, 101, 114] : List UInt8).toArray⟩) ∧ Below W.heap.size W w') := fun W a => by
    have := word_any g ao cap ts r n W a; rwa [hw] at this
  have hgw := h.lt
  have R0 := hide (RN.new h (.slice none 0 0) (.slice none 0 0) 51)
  have HL := hide hl
  clear h hw hl
  go_enter Try.func86, Try.ntmps86
  go_upto_region 1 with fail
  obtain ⟨W0, hW0⟩ : ∃ x, x = w.alloc (Obj.cells #[.slice none 0 0, .slice none 0 0] 51) := ⟨_, rfl⟩
  rw [← hW0] at R0 ⊢
  clear hW0
  go_wp2_with fail
  refine (HW.out _ R0.out.rs).mono ?_
  rintro e w1 ⟨rfl, b1⟩
  have R1 := hide (R0.out.below b1)
  clear b1 R0 HW
  have hml := R1.out.nb.lt
  have hsw := R1.out.bt.size
  go_wp2_with fail
  have R2 := hide (fun o => R1.out.alloc o)
  refine (leaf_any [[104, 101, 97, 100, 101, 114], w_TEXT, w_semi] w1.heap.size g ao cap ts r n _ (R2.out _).rs (lits_new w1 [[104, 101, 97, 100, 101, 114], w_TEXT, w_semi] 9) (by omega) (by simp) (by decide) HL.out).mono ?_
  rintro e w3 ⟨B3, h3⟩
  have hs3 := B3.size
  cases hx : takesR [[104, 101, 97, 100, 101, 114], w_TEXT, w_semi] r with
  | bad r' =>
    rw [hx] at h3
    obtain ⟨rfl, S3⟩ := h3
    have R3 := hide ((R2.out _).but hgw B3 S3)
    have HX := hide hx
    clear hx B3 S3 R1 R2
    go_wp2_with fail
    exact ⟨rfl, OutG.isBad HX.out R3.out.bt R3.out.rs⟩
  | ok l r' =>
    rw [hx] at h3
    obtain ⟨y, a1, c1, a2, c2, rfl, N3, hy, S3⟩ := h3
    have R3 := hide ((R2.out _).but hgw B3 S3)
    have HO := hide (fun hm => R3.out.out (Sh := fun y l => y = (l, .nil)) (c1 := c1) (c2 := c2) hgw hx N3 hm (by simp; omega) hy)
    have x0 := R3.out.nb.c0
    have x1 := R3.out.nb.c1
    have y0 := R3.out.nb.f0
    have y1 := R3.out.nb.f1
    have hml3 := R3.out.nb.lt
    have NF := hide (R3.out.nb.put (.slice a1 y.1.length c1) (.slice a2 y.2.len c2))
    unfold putN at NF HO
    clear hx B3 S3 R1 R2 N3 hy R3
    go_wp2_with fail
    refine bodyPost_ret (v := .agg #[.slice a1 y.1.length c1, .slice a2 y.2.len c2]) ?_ rfl ?_
    · exact resReadAttr NF.out rfl
    · exact HO.out (by simp; omega)

set_option maxHeartbeats 2000000 in
set_option maxRecDepth 100000 in
theorem attr_allow (g : Nat) (ao : Option Addr) (cap : Nat) (ts r : List Tk) (n : Nat) (w : World) (h : RS w g ao cap ts r n) (hl : ts.length < 4294967281) (hw : wordR r = [97, 108, 108, 111, 119]) :
    Calls Try.prog 86 #[.pointer (some ⟨g, 0, none⟩)] w fun e w' => OutG (fun y l => y = (l, .nil)) (takesR [[97, 108, 108, 111, 119], w_TEXT, w_semi] r) g ao cap ts n w e w' := by
  have HW : Hid (∀ W, RS W g ao cap ts r n → Calls Try.prog 72 #[.pointer (some ⟨g, 0, none⟩)] W fun e w' => e = .returned (.string ⟨([97, 108, 108, 111, 119] : List UInt8).toArray⟩) ∧ Below W.heap.size W w') := fun W a => by
    have := word_any g ao cap ts r n W a; rwa [hw] at this
  have hgw := h.lt
  have R0 := hide (RN.new h (.slice none 0 0) (.slice none 0 0) 51)
  have HL := hide hl
  clear h hw hl
  go_enter Try.func86, Try.ntmps86
  go_upto_region 1 with fail
  obtain ⟨W0, hW0⟩ : ∃ x, x = w.alloc (Obj.cells #[.slice none 0 0, .slice none 0 0] 51) := ⟨_, rfl⟩
  rw [← hW0] at R0 ⊢
  clear hW0
  go_wp2_with fail
  refine (HW.out _ R0.out.rs).mono ?_
  rintro e w1 ⟨rfl, b1⟩
  have R1 := hide (R0.out.below b1)
  clear b1 R0 HW
  have hml := R1.out.nb.lt
  have hsw := R1.out.bt.size
  go_wp2_with fail
  have R2 := hide (fun o => R1.out.alloc o)
  refine (leaf_any [[97, 108, 108, 111, 119], w_TEXT, w_semi] w1.heap.size g ao cap ts r n _ (R2.out _).rs (lits_new w1 [[97, 108, 108, 111, 119], w_TEXT, w_semi] 9) (by omega) (by simp) (by decide) HL.out).mono ?_
  rintro e w3 ⟨B3, h3⟩
  have hs3 := B3.size
  cases hx : takesR [[97, 108, 108, 111, 119], w_TEXT, w_semi] r with
  | bad r' =>
    rw [hx] at h3
    obtain ⟨rfl, S3⟩ := h3
    have R3 := hide ((R2.out _).but hgw B3 S3)
    have HX := hide hx
    clear hx B3 S3 R1 R2
    go_wp2_with fail
    exact ⟨rfl, OutG.isBad HX.out R3.out.bt R3.out.rs⟩
  | ok l r' =>
    rw [hx] at h3
    obtain ⟨y, a1, c1, a2, c2, rfl, N3, hy, S3⟩ := h3
    have R3 := hide ((R2.out _).but hgw B3 S3)
    have HO := hide (fun hm => R3.out.out (Sh := fun y l => y = (l, .nil)) (c1 := c1) (c2 := c2) hgw hx N3 hm (by simp; omega) hy)
    have x0 := R3.out.nb.c0
    have x1 := R3.out.nb.c1
    have y0 := R3.out.nb.f0
    have y1 := R3.out.nb.f1
    have hml3 := R3.out.nb.lt
    have NF := hide (R3.out.nb.put (.slice a1 y.1.length c1) (.slice a2 y.2.len c2))
    unfold putN at NF HO
    clear hx B3 S3 R1 R2 N3 hy R3
    go_wp2_with fail
    refine bodyPost_ret (v := .agg #[.slice a1 y.1.length c1, .slice a2 y.2.len c2]) ?_ rfl ?_
    · exact resReadAttr NF.out rfl
    · exact HO.out (by simp; omega)

set_option maxHeartbeats 2000000 in
set_option maxRecDepth 100000 in
theorem attr_methods (g : Nat) (ao : Option Addr) (cap : Nat) (ts r : List Tk) (n : Nat) (w : World) (h : RS w g ao cap ts r n) (hl : ts.length < 4294967281) (hw : wordR r = [109, 101, 116, 104, 111, 100, 115]) :
    Calls Try.prog 86 #[.pointer (some ⟨g, 0, none⟩)] w fun e w' => OutG (fun y l => y = (l, .nil)) (takesR [[109, 101, 116, 104, 111, 100, 115], w_TEXT, w_semi] r) g ao cap ts n w e w' := by
  have HW : Hid (∀ W, RS W g ao cap ts r n → Calls Try.prog 72 #[.pointer (some ⟨g, 0, none⟩)] W fun e w' => e = .returned (.string ⟨([109, 101, 116, 104, 111, 100, 115] : List UInt8).toArray⟩) ∧ Below W.heap.size W w') := fun W a => by
    have := word_any g ao cap ts r n W a; rwa [hw] at this
  have hgw := h.lt
  have R0 := hide (RN.new h (.slice none 0 0) (.slice none 0 0) 51)
  have HL := hide hl
  clear h hw hl
  go_enter Try.func86, Try.ntmps86
  go_upto_region 1 with fail
  obtain ⟨W0, hW0⟩ : ∃ x, x = w.alloc (Obj.cells #[.slice none 0 0, .slice none 0 0] 51) := ⟨_, rfl⟩
  rw [← hW0] at R0 ⊢
  clear hW0
  go_wp2_with fail
  refine (HW.out _ R0.out.rs).mono ?_
  rintro e w1 ⟨rfl, b1⟩
  have R1 := hide (R0.out.below b1)
  clear b1 R0 HW
  have hml := R1.out.nb.lt
  have hsw := R1.out.bt.size
  go_wp2_with fail
  have R2 := hide (fun o => R1.out.alloc o)
  refine (leaf_any [[109, 101, 116, 104, 111, 100, 115], w_TEXT, w_semi] w1.heap.size g ao cap ts r n _ (R2.out _).rs (lits_new w1 [[109, 101, 116, 104, 111, 100, 115], w_TEXT, w_semi] 9) (by omega) (by simp) (by decide) HL.out).mono ?_
  rintro e w3 ⟨B3, h3⟩
  have hs3 := B3.size
  cases hx : takesR [[109, 101, 116, 104, 111, 100, 115], w_TEXT, w_semi] r with
  | bad r' =>
    rw [hx] at h3
    obtain ⟨rfl, S3⟩ := h3
    have R3 := hide ((R2.out _).but hgw B3 S3)
    have HX := hide hx
    clear hx B3 S3 R1 R2
    go_wp2_with fail
    exact ⟨rfl, OutG.isBad HX.out R3.out.bt R3.out.rs⟩
  | ok l r' =>
    rw [hx] at h3
    obtain ⟨y, a1, c1, a2, c2, rfl, N3, hy, S3⟩ := h3
    have R3 := hide ((R2.out _).but hgw B3 S3)
    have HO := hide (fun hm => R3.out.out (Sh := fun y l => y = (l, .nil)) (c1 := c1) (c2 := c2) hgw hx N3 hm (by simp; omega) hy)
    have x0 := R3.out.nb.c0
    have x1 := R3.out.nb.c1
    have y0 := R3.out.nb.f0
    have y1 := R3.out.nb.f1
    have hml3 := R3.out.nb.lt
    have NF := hide (R3.out.nb.put (.slice a1 y.1.length c1) (.slice a2 y.2.len c2))
    unfold putN at NF HO
    clear hx B3 S3 R1 R2 N3 hy R3
    go_wp2_with fail
    refine bodyPost_ret (v := .agg #[.slice a1 y.1.length c1, .slice a2 y.2.len c2]) ?_ rfl ?_
    · exact resReadAttr NF.out rfl
    · exact HO.out (by simp; omega)

set_option maxHeartbeats 2000000 in
set_option maxRecDepth 100000 in
theorem attr_csp (g : Nat) (ao : Option Addr) (cap : Nat) (ts r : List Tk) (n : Nat) (w : World) (h : RS w g ao cap ts r n) (hl : ts.length < 4294967281) (hw : wordR r = [99, 115, 112]) :
    Calls Try.prog 86 #[.pointer (some ⟨g, 0, none⟩)] w fun e w' => OutG (fun y l => y = (l, .nil)) (takesR [[99, 115, 112], w_TEXT, w_semi] r) g ao cap ts n w e w' := by
  have HW : Hid (∀ W, RS W g ao cap ts r n → Calls Try.prog 72 #[.pointer (some ⟨g, 0, none⟩)] W fun e w' => e = .returned (.string ⟨([99, 115, 112] : List UInt8).toArray⟩) ∧ Below W.heap.size W w') := fun W a => by
    have := word_any g ao cap ts r n W a; rwa [hw] at this
  have hgw := h.lt
  have R0 := hide (RN.new h (.slice none 0 0) (.slice none 0 0) 51)
  have HL := hide hl
  clear h hw hl
  go_enter Try.func86, Try.ntmps86
  go_upto_region 1 with fail
  obtain ⟨W0, hW0⟩ : ∃ x, x = w.alloc (Obj.cells #[.slice none 0 0, .slice none 0 0] 51) := ⟨_, rfl⟩
  rw [← hW0] at R0 ⊢
  clear hW0
  go_wp2_with fail
  refine (HW.out _ R0.out.rs).mono ?_
  rintro e w1 ⟨rfl, b1⟩
  have R1 := hide (R0.out.below b1)
  clear b1 R0 HW
  have hml := R1.out.nb.lt
  have hsw := R1.out.bt.size
  go_wp2_with fail
  have R2 := hide (fun o => R1.out.alloc o)
  refine (leaf_any [[99, 115, 112], w_TEXT, w_semi] w1.heap.size g ao cap ts r n _ (R2.out _).rs (lits_new w1 [[99, 115, 112], w_TEXT, w_semi] 9) (by omega) (by simp) (by decide) HL.out).mono ?_
  rintro e w3 ⟨B3, h3⟩
  have hs3 := B3.size
  cases hx : takesR [[99, 115, 112], w_TEXT, w_semi] r with
  | bad r' =>
    rw [hx] at h3
    obtain ⟨rfl, S3⟩ := h3
    have R3 := hide ((R2.out _).but hgw B3 S3)
    have HX := hide hx
    clear hx B3 S3 R1 R2
    go_wp2_with fail
    exact ⟨rfl, OutG.isBad HX.out R3.out.bt R3.out.rs⟩
  | ok l r' =>
    rw [hx] at h3
    obtain ⟨y, a1, c1, a2, c2, rfl, N3, hy, S3⟩ := h3
    have R3 := hide ((R2.out _).but hgw B3 S3)
    have HO := hide (fun hm => R3.out.out (Sh := fun y l => y = (l, .nil)) (c1 := c1) (c2 := c2) hgw hx N3 hm (by simp; omega) hy)
    have x0 := R3.out.nb.c0
    have x1 := R3.out.nb.c1
    have y0 := R3.out.nb.f0
    have y1 := R3.out.nb.f1
    have hml3 := R3.out.nb.lt
    have NF := hide (R3.out.nb.put (.slice a1 y.1.length c1) (.slice a2 y.2.len c2))
    unfold putN at NF HO
    clear hx B3 S3 R1 R2 N3 hy R3
    go_wp2_with fail
    refine bodyPost_ret (v := .agg #[.slice a1 y.1.length c1, .slice a2 y.2.len c2]) ?_ rfl ?_
    · exact resReadAttr NF.out rfl
    · exact HO.out (by simp; omega)

set_option maxHeartbeats 2000000 in
set_option maxRecDepth 100000 in
theorem attr_other (g : Nat) (ao : Option Addr) (cap : Nat) (ts r : List Tk) (n : Nat) (w : World) (h : RS w g ao cap ts r n) (hn : ∀ x ∈ bare6 ++ named5 ++ [w_cors] ++ texted4, (wordR r == x) = false) :
    Calls Try.prog 86 #[.pointer (some ⟨g, 0, none⟩)] w fun e w' => OutG ShA (.bad r) g ao cap ts n w e w' := by
  have HW := hide (fun W (a : RS W g ao cap ts r n) => word_any g ao cap ts r n W a)
  generalize wordR r = wd at *
  have e0 : (wd == [112, 97, 103, 101]) = false := hn _ (by decide)
  have e1 : (wd == [105, 110, 106, 101, 99, 116]) = false := hn _ (by decide)
  have e2 : (wd == [111, 119, 110]) = false := hn _ (by decide)
  have e3 : (wd == [99, 104, 97, 110, 103, 101, 115]) = false := hn _ (by decide)
  have e4 : (wd == [111, 112, 101, 110]) = false := hn _ (by decide)
  have e5 : (wd == [99, 114, 101, 100, 101, 110, 116, 105, 97, 108, 115]) = false := hn _ (by decide)
  have e6 : (wd == [115, 99, 114, 105, 112, 116]) = false := hn _ (by decide)
  have e7 : (wd == [110, 101, 101, 100, 115]) = false := hn _ (by decide)
  have e8 : (wd == [115, 101, 116, 115]) = false := hn _ (by decide)
  have e9 : (wd == [103, 105, 118, 101, 115]) = false := hn _ (by decide)
  have e10 : (wd == [114, 101, 100, 105, 114, 101, 99, 116]) = false := hn _ (by decide)
  have e11 : (wd == [99, 111, 114, 115]) = false := hn _ (by decide)
  have e12 : (wd == [104, 101, 97, 100, 101, 114]) = false := hn _ (by decide)
  have e13 : (wd == [97, 108, 108, 111, 119]) = false := hn _ (by decide)
  have e14 : (wd == [109, 101, 116, 104, 111, 100, 115]) = false := hn _ (by decide)
  have e15 : (wd == [99, 115, 112]) = false := hn _ (by decide)
  have R0 := hide (RN.new h (.slice none 0 0) (.slice none 0 0) 51)
  clear h hn
  go_enter Try.func86, Try.ntmps86
  go_upto_region 1 with fail
  obtain ⟨W0, hW0⟩ : ∃ x, x = w.alloc (Obj.cells #[.slice none 0 0, .slice none 0 0] 51) := ⟨_, rfl⟩
  rw [← hW0] at R0 ⊢
  clear hW0
  go_wp2_with fail
  refine (HW.out _ R0.out.rs).mono ?_
  rintro e w1 ⟨rfl, b1⟩
  have R1 := hide (R0.out.below b1)
  clear b1 R0 HW
  go_wp2_with fail
  exact ⟨rfl, OutG.isBad rfl R1.out.bt R1.out.rs⟩

theorem RelR.imp {α β : Type} {S S2 : α → β → Prop} {x : Rd α} {y : Rd β} (h : RelR S x y) (hs : ∀ a b, S a b → S2 a b) : RelR S2 x y := by
  cases x with
  | ok a r =>
    cases y with
    | ok b r' => exact ⟨h.1, hs _ _ h.2⟩
    | bad r' => exact h.elim
  | bad r =>
    cases y with
    | ok b r' => exact h.elim
    | bad r' => exact h
theorem not_contains {L : List (List UInt8)} {w : List UInt8} (h : ∀ x ∈ L, (w == x) = false) : L.contains w = false := by
  rw [List.contains_eq_any_beq]
  cases e : L.any fun x => w == x with
  | false => rfl
  | true =>
    rw [List.any_eq_true] at e
    obtain ⟨x, hx, he⟩ := e
    rw [h x hx] at he; cases he
theorem attribute_any (g : Nat) (ao : Option Addr) (cap : Nat) (ts r : List Tk) (n : Nat) (w : World) (h : RS w g ao cap ts r n) (ht : TokOk ts) (hl : ts.length < 4294967281) :
    Calls Try.prog 86 #[.pointer (some ⟨g, 0, none⟩)] w fun e w' => OutG ShA (semiR (attrR r)) g ao cap ts n w e w' := by
  have HT := h.tok ht
  by_cases q_page : wordR r = [112, 97, 103, 101]
  · exact (attr_page g ao cap ts r n w h hl q_page).mono fun e w' o => o.rel (RelR.imp (rel_bare HT q_page (by decide)) fun _ _ hs z hz => by rw [hz]; exact hs)
  by_cases q_inject : wordR r = [105, 110, 106, 101, 99, 116]
  · exact (attr_inject g ao cap ts r n w h hl q_inject).mono fun e w' o => o.rel (RelR.imp (rel_bare HT q_inject (by decide)) fun _ _ hs z hz => by rw [hz]; exact hs)
  by_cases q_own : wordR r = [111, 119, 110]
  · exact (attr_own g ao cap ts r n w h hl q_own).mono fun e w' o => o.rel (RelR.imp (rel_bare HT q_own (by decide)) fun _ _ hs z hz => by rw [hz]; exact hs)
  by_cases q_changes : wordR r = [99, 104, 97, 110, 103, 101, 115]
  · exact (attr_changes g ao cap ts r n w h hl q_changes).mono fun e w' o => o.rel (RelR.imp (rel_bare HT q_changes (by decide)) fun _ _ hs z hz => by rw [hz]; exact hs)
  by_cases q_open : wordR r = [111, 112, 101, 110]
  · exact (attr_open g ao cap ts r n w h hl q_open).mono fun e w' o => o.rel (RelR.imp (rel_bare HT q_open (by decide)) fun _ _ hs z hz => by rw [hz]; exact hs)
  by_cases q_credentials : wordR r = [99, 114, 101, 100, 101, 110, 116, 105, 97, 108, 115]
  · exact (attr_credentials g ao cap ts r n w h hl q_credentials).mono fun e w' o => o.rel (RelR.imp (rel_bare HT q_credentials (by decide)) fun _ _ hs z hz => by rw [hz]; exact hs)
  by_cases q_script : wordR r = [115, 99, 114, 105, 112, 116]
  · exact (attr_script g ao cap ts r n w h hl q_script).mono fun e w' o => o.rel (RelR.imp (rel_one HT q_script (k := 1) (by decide) (by decide) fit_name (by decide) (attr_named HT q_script (by decide))) fun _ _ hs z hz => by rw [hz]; exact hs)
  by_cases q_needs : wordR r = [110, 101, 101, 100, 115]
  · exact (attr_needs g ao cap ts r n w h hl q_needs).mono fun e w' o => o.rel (RelR.imp (rel_one HT q_needs (k := 1) (by decide) (by decide) fit_name (by decide) (attr_named HT q_needs (by decide))) fun _ _ hs z hz => by rw [hz]; exact hs)
  by_cases q_sets : wordR r = [115, 101, 116, 115]
  · exact (attr_sets g ao cap ts r n w h hl q_sets).mono fun e w' o => o.rel (RelR.imp (rel_one HT q_sets (k := 1) (by decide) (by decide) fit_name (by decide) (attr_named HT q_sets (by decide))) fun _ _ hs z hz => by rw [hz]; exact hs)
  by_cases q_gives : wordR r = [103, 105, 118, 101, 115]
  · exact (attr_gives g ao cap ts r n w h hl q_gives).mono fun e w' o => o.rel (RelR.imp (rel_one HT q_gives (k := 1) (by decide) (by decide) fit_name (by decide) (attr_named HT q_gives (by decide))) fun _ _ hs z hz => by rw [hz]; exact hs)
  by_cases q_redirect : wordR r = [114, 101, 100, 105, 114, 101, 99, 116]
  · exact (attr_redirect g ao cap ts r n w h hl q_redirect).mono fun e w' o => o.rel (RelR.imp (rel_one HT q_redirect (k := 1) (by decide) (by decide) fit_name (by decide) (attr_named HT q_redirect (by decide))) fun _ _ hs z hz => by rw [hz]; exact hs)
  by_cases q_cors : wordR r = [99, 111, 114, 115]
  · exact (attr_cors g ao cap ts r n w h hl q_cors).mono fun e w' o => o.rel (RelR.imp (rel_cors HT q_cors) fun _ _ hs z hz => by rw [hz]; exact hs)
  by_cases q_header : wordR r = [104, 101, 97, 100, 101, 114]
  · exact (attr_header g ao cap ts r n w h hl q_header).mono fun e w' o => o.rel (RelR.imp (rel_one HT q_header (k := 3) (by decide) (by decide) fit_text (by decide) (attr_texted HT q_header (by decide))) fun _ _ hs z hz => by rw [hz]; exact hs)
  by_cases q_allow : wordR r = [97, 108, 108, 111, 119]
  · exact (attr_allow g ao cap ts r n w h hl q_allow).mono fun e w' o => o.rel (RelR.imp (rel_one HT q_allow (k := 3) (by decide) (by decide) fit_text (by decide) (attr_texted HT q_allow (by decide))) fun _ _ hs z hz => by rw [hz]; exact hs)
  by_cases q_methods : wordR r = [109, 101, 116, 104, 111, 100, 115]
  · exact (attr_methods g ao cap ts r n w h hl q_methods).mono fun e w' o => o.rel (RelR.imp (rel_one HT q_methods (k := 3) (by decide) (by decide) fit_text (by decide) (attr_texted HT q_methods (by decide))) fun _ _ hs z hz => by rw [hz]; exact hs)
  by_cases q_csp : wordR r = [99, 115, 112]
  · exact (attr_csp g ao cap ts r n w h hl q_csp).mono fun e w' o => o.rel (RelR.imp (rel_one HT q_csp (k := 3) (by decide) (by decide) fit_text (by decide) (attr_texted HT q_csp (by decide))) fun _ _ hs z hz => by rw [hz]; exact hs)
  have hn : ∀ x ∈ bare6 ++ named5 ++ [w_cors] ++ texted4, (wordR r == x) = false := by
    intro x hx
    refine beq_eq_false_iff_ne.2 fun e => ?_
    simp [bare6, named5, texted4] at hx
    rcases hx with rfl | rfl | rfl | rfl | rfl | rfl | rfl | rfl | rfl | rfl | rfl | rfl | rfl | rfl | rfl | rfl
    all_goals contradiction
  have := attr_other g ao cap ts r n w h hn
  rwa [← attr_none HT rfl (not_contains fun x hx => hn x (by simp [hx])) (not_contains fun x hx => hn x (by simp [hx])) (hn _ (by simp)) (not_contains fun x hx => hn x (by simp [hx]))] at this
end Go.Proofs.Ytcmmjmgbanafgaa

/- The walks over tree.reader's chain, term, formula, factor (text by make/tq6.py). -/
namespace Go.Proofs.Ytcmmjmgbanafgaa
open Go.RowKit Go.Proofs.Url Go.Proofs.Url.Syn

theorem RN.outK {α : Type} {Sh : Nd → α → Prop} {x : Rd α} {a : α} {w W : World} {m g : Nat} {ao : Option Addr} {cap : Nat} {ts r : List Tk} {n : Nat} {v1 v2 : Value} {y : Nd} {a1 a2 : Option Addr} {c1 c2 : Nat} {K : Nat → Prop} (h : RN w W m g ao cap ts r n v1 v2) (hg : g < w.heap.size) (hx : x = .ok a r)
    (hy : NA W K a1 a2 y) (hK : ∀ b, K b → w.heap.size ≤ b ∧ b < W.heap.size ∧ b ≠ m) (hsh : Sh y a) :
    OutG Sh x g ao cap ts n w (.returned (.agg #[.slice a1 y.1.length c1, .slice a2 y.2.len c2])) (putN W m (.slice a1 y.1.length c1) (.slice a2 y.2.len c2)) := by
  refine OutG.isOk hx (putN_but h.bt h.hm _ _) ?_ hsh (putN_rs h.rs _ _ (by have := h.hm; omega))
  rw [putN_size]
  exact (hy.keep (putN_keptK (fun k => (hK m k).2.2 rfl))).sub (fun b k => ⟨(hK b k).1, (hK b k).2.1⟩)
/-- What a reader may still read. -/
def leftR (W : World) (g n : Nat) : Nat := match W.cell? ⟨g, 1, none⟩ with
  | some (.int _ i) => n - i.toNat
  | _ => 0
theorem RS.left {W : World} {g : Nat} {ao : Option Addr} {cap : Nat} {ts r : List Tk} {n : Nat} (h : RS W g ao cap ts r n) : leftR W g ts.length = r.length := by
  obtain ⟨i, hi, hr, hp⟩ := h.ex
  unfold leftR
  rw [hp.c1, ← hr, List.length_drop]
  simp
/-- The blocks of a tree that a loop holds in a block of its own. -/
def KC (m0 m1 : Nat) (W : World) (b : Nat) : Prop := m0 < b ∧ b ≠ m1 ∧ b < W.heap.size
theorem KC.grow {m0 m1 : Nat} {W W' : World} (h : W.heap.size ≤ W'.heap.size) : ∀ b, KC m0 m1 W b → KC m0 m1 W' b := fun _ k => ⟨k.1, k.2.1, Nat.lt_of_lt_of_le k.2.2 h⟩
theorem NA.belowC {m0 m1 : Nat} {W W' : World} {a1 a2 : Option Addr} {x : Nd} (h : NA W (KC m0 m1 W) a1 a2 x) (hb : Below W.heap.size W W') : NA W' (KC m0 m1 W') a1 a2 x := (h.keep (KeptIn.belowK hb fun _ k => k.2.2)).sub (KC.grow hb.size)
theorem NA.butC {g m0 m1 : Nat} {W W' : World} {a1 a2 : Option Addr} {x : Nd} (h : NA W (KC m0 m1 W) a1 a2 x) (hg : g < m0) (hb : ButP g W W') : NA W' (KC m0 m1 W') a1 a2 x := (h.keep (KeptIn.butK hb (fun k => by have := k.1; omega) fun _ k => k.2.2)).sub (KC.grow hb.size)
/-- A region in which one operation reads on. -/
structure RC4 (W4 : World) (g : Nat) (ao : Option Addr) (cap : Nat) (ts ra rb : List Tk) (n k : Nat) (L : Nat → Bool) (W : World) : Prop where
  bt : ButP g W4 W
  rs : RS W g ao cap ts (if L k then rb else ra) n
theorem RC4.same {W4 : World} {g : Nat} {ao : Option Addr} {cap : Nat} {ts ra rb : List Tk} {n k : Nat} {L : Nat → Bool} {W W' : World} (h : RC4 W4 g ao cap ts ra rb n k L W) {i : Nat} (hi : i ≠ k) (hb : Below W.heap.size W W') : RC4 W4 g ao cap ts ra rb n k (RP.also L i) W' := by
  refine ⟨h.bt.trans (ButP.of hb), ?_⟩
  have e : RP.also L i k = L k := by unfold RP.also; rw [if_neg (fun e => hi e.symm)]
  rw [e]; exact h.rs.keep hb
theorem RC4.none {W4 : World} {g : Nat} {ao : Option Addr} {cap : Nat} {ts ra rb : List Tk} {n k : Nat} {L : Nat → Bool} (h : RS W4 g ao cap ts ra n) (hL : L k = false) : RC4 W4 g ao cap ts ra rb n k L W4.drew := by
  refine ⟨ButP.of ((Below.refl _ _).drew), ?_⟩
  rw [hL]; exact h.keep ((Below.refl _ _).drew)
theorem NB.range {W : World} {m : Nat} {v1 v2 : Value} (h : NB W m v1 v2) : W.rangeAt m 0 [v1, v2] := by
  intro j v hj
  match j, hj with
  | 0, hj => cases hj; exact h.c0
  | 1, hj => cases hj; exact h.c1
theorem RP.gives_row {P : Program} {X : List PanicEntry → World → Prop} {o : Oper} {a : Act} {w : World} {K : Value → World → Prop} (ty : TypeId) (x : Operand) (ho : o.op = .load ty x) (b off : Nat) (hx : a.eval x = .pointer (some ⟨b, off, none⟩)) (cs : List Value) (d : TypeDesc) (hr : w.rangeAt b off cs)
    (hu : P.underlying ty = some d) (hd : d.isRow = true) (hi : (P.info? ty).map (·.size) = some cs.length) (hK : K (.agg cs.toArray) w) : RP.Oper.gives P X o a w K := by
  unfold RP.Oper.gives
  unfold execOp
  simp only [ho, hx, Instr.loadAt, Instr.sureAddr, Sem.run_bind, Sem.run_pure, Result.andThen_ok, run_loadVar_mid w b off ty cs d hr hu hd hi]
  exact hK
/-- What a link leaves; what two parts in a row are. -/
def LinkP (B : Nat) (f : Fm) (v : Value) (W : World) : Prop := ∃ (y2 : Nd) (p1 : Option Addr) (q1 : Nat) (p2 : Option Addr) (q2 : Nat), v = .agg #[.slice p1 y2.1.length q1, .slice p2 y2.2.len q2] ∧ NA W (In B W.heap.size) p1 p2 y2 ∧ ShF y2 f
def PairP (B : Nat) (x1 x2 : Value) (f : Fm) (v : Value) (W : World) : Prop := ∃ (q : Nat) (y2 : Nd) (p1 : Option Addr) (q1 : Nat) (p2 : Option Addr) (q2 : Nat), v = .slice (some ⟨q, 0, none⟩) 2 2 ∧ B ≤ q ∧ W.rangeAt q 0 [x1, x2, .slice p1 y2.1.length q1, .slice p2 y2.2.len q2] ∧ NA W (In B W.heap.size) p1 p2 y2 ∧ ShF y2 f
theorem RN.putO {w W : World} {m g : Nat} {ao : Option Addr} {cap : Nat} {ts r : List Tk} {n : Nat} {v1 v2 : Value} (h : RN w W m g ao cap ts r n v1 v2) {m1 : Nat} (hm : m < m1) (hg : g < m1) (u1 u2 : Value) : RN w (putN W m1 u1 u2) m g ao cap ts r n v1 v2 :=
  ⟨(h.nb.other u1 (Nat.ne_of_lt hm)).other u2 (Nat.ne_of_lt hm), putN_rs h.rs _ _ hg, putN_but h.bt (by have := h.hm; omega) _ _, h.hm⟩
theorem RN.setO {w W : World} {m g : Nat} {ao : Option Addr} {cap : Nat} {ts r : List Tk} {n : Nat} {v1 v2 : Value} (h : RN w W m g ao cap ts r n v1 v2) {m1 j : Nat} (hm : m < m1) (hg : g < m1) (u : Value) : RN w (W.setCell ⟨m1, j, none⟩ u) m g ao cap ts r n v1 v2 :=
  ⟨h.nb.other u (Nat.ne_of_lt hm), h.rs.set _ hg, h.bt.setq _ (by have := h.hm; omega), h.hm⟩
theorem take_one {w : List UInt8} (hp : plainW w = true) (hl : 1 < w.length) {r : List Tk} (h : TokOk r) (hq : isT w r = true) : ∃ t, r = t :: r.tail ∧ t.kind = 2 ∧ t.text = w ∧ takesR [w] r = .ok [t] r.tail := by
  cases r with
  | nil => cases hq
  | cons t r =>
    rw [isT_lit] at hq
    obtain ⟨h1, h2⟩ := lit_word hl h hq
    refine ⟨t, rfl, h1, h2, ?_⟩
    rw [takesR_word hp hl _ h, need_word h1 h2]
    rfl
def FacT (n : Nat) : Prop := ∀ (g : Nat) (ao : Option Addr) (cap : Nat) (ts r : List Tk) (sz : Nat) (w : World), RS w g ao cap ts r sz → TokOk ts → ts.length < 4294967281 → 3 * r.length + 1 ≤ n →
  Calls Try.prog 94 #[.pointer (some ⟨g, 0, none⟩)] w fun e w' => OutG ShF (facF n r) g ao cap ts sz w e w'
def TerT (n : Nat) : Prop := ∀ (g : Nat) (ao : Option Addr) (cap : Nat) (ts r : List Tk) (sz : Nat) (w : World), RS w g ao cap ts r sz → TokOk ts → ts.length < 4294967281 → 3 * r.length + 2 ≤ n →
  Calls Try.prog 93 #[.pointer (some ⟨g, 0, none⟩)] w fun e w' => OutG ShF (terF n r) g ao cap ts sz w e w'
def ForT (n : Nat) : Prop := ∀ (g : Nat) (ao : Option Addr) (cap : Nat) (ts r : List Tk) (sz : Nat) (w : World), RS w g ao cap ts r sz → TokOk ts → ts.length < 4294967281 → 3 * r.length + 3 ≤ n →
  Calls Try.prog 87 #[.pointer (some ⟨g, 0, none⟩)] w fun e w' => OutG ShF (forF n r) g ao cap ts sz w e w'
theorem resReadChain {W : World} {m : Nat} {v1 v2 : Value} {tmps : Array Value} (h : NB W m v1 v2) (h2 : tmps[6]?.getD undef = .pointer (some ⟨m, 0, none⟩)) :
    (results Try.f92 tmps).run Try.prog W = .ok (.agg #[v1, v2]) W := by
  obtain ⟨c0, c1, _⟩ := h
  simp [results, Try.results92, go_sem, h2, c0, c1]
theorem resReadTer {W : World} {m : Nat} {v1 v2 : Value} {tmps : Array Value} (h : NB W m v1 v2) (h2 : tmps[2]?.getD undef = .pointer (some ⟨m, 0, none⟩)) :
    (results Try.f93 tmps).run Try.prog W = .ok (.agg #[v1, v2]) W := by
  obtain ⟨c0, c1, _⟩ := h
  simp [results, Try.results93, go_sem, h2, c0, c1]
theorem resReadFor {W : World} {m : Nat} {v1 v2 : Value} {tmps : Array Value} (h : NB W m v1 v2) (h2 : tmps[2]?.getD undef = .pointer (some ⟨m, 0, none⟩)) :
    (results Try.f87 tmps).run Try.prog W = .ok (.agg #[v1, v2]) W := by
  obtain ⟨c0, c1, _⟩ := h
  simp [results, Try.results87, go_sem, h2, c0, c1]
theorem resReadFac {W : World} {m : Nat} {v1 v2 : Value} {tmps : Array Value} (h : NB W m v1 v2) (h2 : tmps[2]?.getD undef = .pointer (some ⟨m, 0, none⟩)) :
    (results Try.f94 tmps).run Try.prog W = .ok (.agg #[v1, v2]) W := by
  obtain ⟨c0, c1, _⟩ := h
  simp [results, Try.results94, go_sem, h2, c0, c1]

set_option maxHeartbeats 4000000 in
set_option maxRecDepth 100000 in
theorem chain_ter (n : Nat) (IH : ∀ m, m ≤ n → FacT m) (g : Nat) (ao : Option Addr) (cap : Nat) (ts r : List Tk) (sz : Nat) (w : World) (h : RS w g ao cap ts r sz) (ht : TokOk ts) (hl : ts.length < 4294967281) (hf : 3 * r.length + 1 ≤ n) :
    Calls Try.prog 92 #[.pointer (some ⟨g, 0, none⟩), .string ⟨#[97, 110, 100]⟩, .func (.func 94) #[.pointer (some ⟨g, 0, none⟩)] #[]] w fun e w' => OutG ShF (terF (n + 1) r) g ao cap ts sz w e w' := by
  have IHh := hide IH
  have HL := hide hl
  have HT := hide ht
  have HE : Hid (terF (n + 1) r = (facF n r).then (terL n)) := terF_succ n r
  have HFu := hide hf
  have hgw := h.lt
  have R0 := hide (RN.new h (.slice none 0 0) (.slice none 0 0) 51)
  clear h hf hl ht IH
  go_enter Try.func92, Try.ntmps92
  go_upto_region 1 with fail
  obtain ⟨W0, hW0⟩ : ∃ x, x = w.alloc (Obj.cells #[.slice none 0 0, .slice none 0 0] 51) := ⟨_, rfl⟩
  rw [← hW0] at R0 ⊢
  have hs0 : W0.heap.size = w.heap.size + 1 := by rw [hW0]; simp
  clear hW0
  go_wp2_with fail
  refine (IHh.out n (Nat.le_refl _) g ao cap ts r sz W0 R0.out.rs HT.out HL.out HFu.out).mono ?_
  rintro e w1 ⟨B1, h1⟩
  have hs1 := B1.size
  cases hx : facF n r with
  | bad r' =>
    rw [hx] at h1
    obtain ⟨rfl, S1⟩ := h1
    have R1 := hide (R0.out.but hgw B1 S1)
    have HX : Hid (terF (n + 1) r = .bad r') := by unfold Hid; rw [HE.out, hx]; rfl
    clear hx B1 S1 R0 HE
    go_wp2_with fail
    exact ⟨rfl, OutG.isBad HX.out R1.out.bt R1.out.rs⟩
  | ok a r' =>
    rw [hx] at h1
    obtain ⟨y, a1, c1, a2, c2, rfl, N1, hy, S1⟩ := h1
    have R1 := hide (R0.out.but hgw B1 S1)
    have hsh := (short_all n).1 _ _ _ hx
    have HY := hide hy
    have N1 := hide N1
    have HE2 : Hid (terF (n + 1) r = terL n a r') := by unfold Hid; rw [HE.out, hx]; rfl
    have hfu := HFu.out
    obtain ⟨n', rfl⟩ : ∃ k, n = k + 1 := ⟨n - 1, by omega⟩
    have HF2 : Hid (3 * r'.length + 1 ≤ n') := by unfold Hid; omega
    clear hx B1 S1 R0 HE hy hsh hfu HFu
    go_wp2_with fail
    obtain ⟨W2, hW2⟩ : ∃ x, x = w1.alloc (Obj.cells #[.slice a1 y.1.length c1, .slice a2 y.2.len c2] 51) := ⟨_, rfl⟩
    have R2 : Hid (RN w W2 w.heap.size g ao cap ts r' sz (.slice none 0 0) (.slice none 0 0)) := by unfold Hid; rw [hW2]; exact R1.out.alloc _
    have X2 : Hid (NB W2 w1.heap.size (.slice a1 y.1.length c1) (.slice a2 y.2.len c2)) := by unfold Hid; rw [hW2]; exact NB.new _ _ _ _
    have N2 : Hid (NA W2 (KC w.heap.size w1.heap.size W2) a1 a2 y) := by
      unfold Hid; rw [hW2]
      exact (N1.out.keep (KeptIn.below ((Below.refl _ _).alloc (Nat.le_refl _) _) (Nat.le_refl _) _)).sub (fun b k => ⟨by have := k.1; omega, by have := k.2; omega, by have := k.2; simp; omega⟩)
    rw [← hW2]
    have hm1 : w.heap.size < w1.heap.size := by omega
    clear hW2 R1 N1
    go_loopw [] (fun W => ∃ (m : Nat) (a : Fm) (r' : List Tk) (y : Nd) (a1 : Option Addr) (c1 : Nat) (a2 : Option Addr) (c2 : Nat), m ≤ n' ∧ 3 * r'.length + 1 ≤ m ∧ Hid (terF (n' + 1 + 1) r = terL (m + 1) a r') ∧ Hid (ShF y a) ∧
      Hid (RN w W w.heap.size g ao cap ts r' sz (.slice none 0 0) (.slice none 0 0)) ∧ Hid (NB W w1.heap.size (.slice a1 y.1.length c1) (.slice a2 y.2.len c2)) ∧ Hid (NA W (KC w.heap.size w1.heap.size W) a1 a2 y)) (fun W => leftR W g ts.length)
    case atStart => exact ⟨n', a, r', y, a1, c1, a2, c2, Nat.le_refl _, HF2.out, HE2, HY, R2, X2, N2⟩
    case round =>
      obtain ⟨m, a, r', y, a1, c1, a2, c2, hm, hfm, hE, hY, hR, hX, hN⟩ := hrel
      clear HE2 HY R2 X2 N2 HF2
      have hrl : Hid (leftR wr g ts.length = r'.length) := hR.out.rs.left
      cases hq : isT w_and_ r' with
      | false =>
        have HR : Hid (terF (n' + 1 + 1) r = .ok a r') := by unfold Hid; rw [hE.out, terL_succ, if_neg (by simp [hq])]
        have HSe : Hid (∀ W, RS W g ao cap ts r' sz → Calls Try.prog 85 #[.pointer (some ⟨g, 0, none⟩), .string ⟨#[97, 110, 100]⟩] W fun e w' => e = .returned (.bool false) ∧ Below W.heap.size W w') := fun W a => by
          have := sees_any w_and_ g ao cap ts r' sz W a; rwa [fitT_lit (by decide), hq] at this
        clear hE hq
        go_wp2_with fail
        refine (HSe.out _ hR.out.rs).mono ?_
        rintro e w4 ⟨rfl, b4⟩
        have R4 := hide (hR.out.below b4)
        have X4 := hide (hX.out.below b4)
        have N4 := hide (hN.out.belowC b4)
        clear b4 hR hX hN HSe
        have x0 := X4.out.c0
        have x1 := X4.out.c1
        have hxl := X4.out.lt
        have z0 := R4.out.nb.c0
        have z1 := R4.out.nb.c1
        have u0 := R4.out.nb.f0
        have u1 := R4.out.nb.f1
        have hzl := R4.out.nb.lt
        have NF := hide (R4.out.nb.put (.slice a1 y.1.length c1) (.slice a2 y.2.len c2))
        have HO := hide (R4.out.outK (Sh := ShF) (c1 := c1) (c2 := c2) hgw HR.out N4.out (fun b k => ⟨by have := k.1; omega, k.2.2, by have := k.1; omega⟩) hY.out)
        unfold putN at NF HO
        clear hY R4 N4 X4 HR
        go_wp2_with fail
        refine bodyPost_ret (v := .agg #[.slice a1 y.1.length c1, .slice a2 y.2.len c2]) ?_ rfl ?_
        · exact resReadChain NF.out rfl
        · exact HO.out
      | true =>
        obtain ⟨t, hr', hk, htx, htk⟩ := take_one (by decide) (by decide) (hR.out.rs.tok HT.out) hq
        have HR : Hid (terF (n' + 1 + 1) r = (facF m r'.tail).then fun b r => terL m (.both w_and_ a b) r) := by unfold Hid; rw [hE.out, terL_succ, if_pos hq]
        have hlen := isT_len hq
        have HK := hide hk
        have HTX := hide htx
        have HTK := hide htk
        have HSe : Hid (∀ W, RS W g ao cap ts r' sz → Calls Try.prog 85 #[.pointer (some ⟨g, 0, none⟩), .string ⟨#[97, 110, 100]⟩] W fun e w' => e = .returned (.bool true) ∧ Below W.heap.size W w') := fun W a => by
          have := sees_any w_and_ g ao cap ts r' sz W a; rwa [fitT_lit (by decide), hq] at this
        clear hE hq hr' hk htx htk
        go_wp2_with fail
        refine (HSe.out _ hR.out.rs).mono ?_
        rintro e w4 ⟨rfl, b4⟩
        have R4 := hide (hR.out.below b4)
        have X4 := hide (hX.out.below b4)
        have N4 := hide (hN.out.belowC b4)
        clear b4 hR hX hN HSe
        go_wp2_with fail
        have R5 := hide (fun o => R4.out.alloc o)
        have X5 := hide (fun o => X4.out.below ((Below.refl w4.heap.size w4).alloc (Nat.le_refl _) o))
        have N5 := hide (fun o => N4.out.belowC ((Below.refl w4.heap.size w4).alloc (Nat.le_refl _) o))
        have hzl := R4.out.nb.lt
        refine (leaf_any [w_and_] w4.heap.size g ao cap ts r' sz _ (R5.out _).rs (lits_new w4 [w_and_] 9) (by omega) (by simp) (by decide) HL.out).mono ?_
        rintro e w6 ⟨B6, h6⟩
        rw [HTK.out] at h6
        obtain ⟨yt, b1, d1, b2, d2, he, N6t, hyt, S6⟩ := h6
        subst hyt
        replace he : e = .returned (.agg #[.slice b1 1 d1, .slice b2 0 d2]) := he
        subst he
        have hs6 := B6.size
        have R6 := hide ((R5.out _).but hgw B6 S6)
        have X6 := hide ((X5.out _).but B6 (by omega))
        have N6 := hide ((N5.out _).butC hgw B6)
        have N6t := hide N6t
        have hs5 : w4.heap.size + 1 ≤ w6.heap.size := by simpa using hs6
        have hx4 := X4.out.lt
        clear R4 X4 N4 R5 X5 N5 B6 S6 hs6
        go_upto_region 4 with fail
        obtain ⟨W7, hW7⟩ : ∃ x, x = w6.alloc (Obj.cells #[.slice b1 1 d1, .slice b2 0 d2] 51) := ⟨_, rfl⟩
        have b7 : Below w6.heap.size w6 W7 := by rw [hW7]; exact (Below.refl _ _).alloc (Nat.le_refl _) _
        have M7 : Hid (NB W7 w6.heap.size (.slice b1 1 d1) (.slice b2 0 d2)) := by unfold Hid; rw [hW7]; exact NB.new _ _ _ _
        have R7 := hide (R6.out.below b7)
        have X7 := hide (X6.out.below b7)
        have N7 : Hid (NA W7 (KC w.heap.size w1.heap.size w6) a1 a2 y) := N6.out.keep (KeptIn.belowK b7 fun _ k => k.2.2)
        have N7t : Hid (NA W7 (KC w.heap.size w1.heap.size w6) b1 b2 ([t], .nil)) := by
          unfold Hid
          exact (N6t.out.keep (KeptIn.below b7 (Nat.le_refl _) _)).sub (fun b k => by
            have h1 : w4.heap.size + 1 ≤ b := by simpa using k.1
            have h2 := k.2
            exact ⟨by omega, by omega, by omega⟩)
        rw [← hW7]
        clear hW7 b7 R6 X6 N6 N6t
        have hx7 := X7.out.lt
        have hm7 := M7.out.lt
        have hm1g : g < w1.heap.size := by omega
        have hm6g : g < w6.heap.size := by omega
        have hm61 : w6.heap.size ≠ w1.heap.size := by omega
        have HFm : Hid (3 * r'.tail.length + 1 ≤ m) := by unfold Hid; omega
        have IF : Hid ((Try.prog.info? 51).map (·.size) = some 2) := by unfold Hid; kernel_rfl
        cases hx : facF m r'.tail with
        | bad r3 =>
          have HX : Hid (terF (n' + 1 + 1) r = .bad r3) := by unfold Hid; rw [HR.out, hx]; rfl
          have HCall : Hid (∀ W, RS W g ao cap ts r'.tail sz → Calls Try.prog 94 #[.pointer (some ⟨g, 0, none⟩)] W fun e w' => ButP g W w' ∧ e = .panicked stuckE ∧ RS w' g ao cap ts r3 sz) := fun W a => by
            have := IHh.out m (by omega) g ao cap ts r'.tail sz W a HT.out HL.out HFm.out; rw [hx] at this; exact this
          clear hx HR
          refine RP.wp_region_posts_last (X := fun ch W => ch = stuckE ∧ ButP g W7 W ∧ RS W g ao cap ts r3 sz) (l := [_, _, _, _, _]) (ol := _) rfl (by kernel_rfl) (RC4 W7 g ao cap ts r'.tail r'.tail sz 2) (fun _ W W' => ButP g W W')
            [some 18, some 19, some 20, some 21, some 22] [[], [], [1], [0, 2], [], [0, 1, 2, 3, 4]]
            [fun v _ => v = .agg #[.slice a1 y.1.length c1, .slice a2 y.2.len c2], fun v _ => v = .func (.func 94) #[.pointer (some ⟨g, 0, none⟩)] #[], fun _ _ => False, fun _ _ => False, fun v _ => v = .pointer (some ⟨w6.heap.size, 1, none⟩)]
            ?_ rfl (by kernel_rfl) (by kernel_rfl) (by kernel_rfl) (by kernel_rfl) (by kernel_rfl) rfl rfl ?_ ?_ ?_ ?_
          · intro ch A W hs hd ho hx
            obtain ⟨rfl, BW, SW⟩ := hx
            exact And.intro hd (OutG.isBad HX.out (R7.out.bt.trans BW) SW)
          · exact .eq (.eq (.cons (fun _ _ _ _ _ _ _ h => h) (.cons (fun _ _ _ _ _ _ _ h => h) (.eq .nil))))
          · intro L hL
            exact RC4.none R7.out.rs (hL 2)
          · refine .cons ?_ (.cons ?_ (.cons ?_ (.cons ?_ (.cons ?_ .nil))))
            all_goals (intro L A W hLi hC old nd)
            all_goals (refine RP.runs_none rfl ?_)
            · have e7 : (A.tmps[7]?).getD undef = .pointer (some ⟨w1.heap.size, 0, none⟩) := old 7 (by kernel_rfl)
              have x := X7.out.but hC.bt (by omega)
              exact RP.gives_row 51 (.tmp 7) rfl _ 0 (by simpa [Act.eval] using e7) [.slice a1 y.1.length c1, .slice a2 y.2.len c2] _ (x.range) Try.underlying51 rfl IF.out ⟨hC.same (by decide) (Below.refl _ _), But.refl _ _ _, rfl⟩
            · have e2 : (A.tmps[2]?).getD undef = .func (.func 94) #[.pointer (some ⟨g, 0, none⟩)] #[] := old 2 (by kernel_rfl)
              simp [RP.Oper.gives, RP.gives, go_sem, e2]
              exact ⟨hC.same (by decide) (Below.refl _ _), But.refl _ _ _, rfl⟩
            · have e19 : (A.tmps[19]?).getD undef = .func (.func 94) #[.pointer (some ⟨g, 0, none⟩)] #[] := nd.1
              have S := hC.rs
              rw [hLi] at S
              simp [RP.Oper.gives, RP.gives, go_sem, e19]
              refine (HCall.out W S).mono fun e W' h => ?_
              exact ⟨_, h.2.1, rfl, hC.bt.trans h.1, h.2.2⟩
            · exact nd.2.1.elim
            · have e8 : (A.tmps[8]?).getD undef = .pointer (some ⟨w6.heap.size, 0, none⟩) := old 8 (by kernel_rfl)
              simp [RP.Oper.gives, RP.gives, go_sem, e8]
              exact ⟨hC.same (by decide) (Below.refl _ _), But.refl _ _ _, rfl⟩
          · intro L W hall hC E hE
            exact .cons fun v1 h1 => .cons fun v2 h2 => .cons fun v3 h3 => h3.elim
        | ok f2 r3 =>
          have hsh := (short_all m).1 _ _ _ hx
          have HCall : Hid (∀ W, RS W g ao cap ts r'.tail sz → Calls Try.prog 94 #[.pointer (some ⟨g, 0, none⟩)] W fun e w' => ButP g W w' ∧ ∃ (y2 : Nd) (p1 : Option Addr) (q1 : Nat) (p2 : Option Addr) (q2 : Nat), e = .returned (.agg #[.slice p1 y2.1.length q1, .slice p2 y2.2.len q2]) ∧ NA w' (In W.heap.size w'.heap.size) p1 p2 y2 ∧ ShF y2 f2 ∧ RS w' g ao cap ts r3 sz) := fun W a => by
            have := IHh.out m (by omega) g ao cap ts r'.tail sz W a HT.out HL.out HFm.out; rw [hx] at this; exact this
          obtain ⟨m', rfl⟩ : ∃ k, m = k + 1 := ⟨m - 1, by omega⟩
          have HR2 : Hid (terF (n' + 1 + 1) r = terL (m' + 1) (.both w_and_ a f2) r3) := by unfold Hid; rw [HR.out, hx]; rfl
          have hf3 : 3 * r3.length + 1 ≤ m' := by omega
          have hl3 : r3.length < r'.length := by omega
          have hmn : m' ≤ n' := by omega
          clear hx HR hsh HFm hfm hlen hm
          refine RP.wp_region_posts_last (X := fun _ _ => False) (l := [_, _, _, _, _]) (ol := _) rfl (by kernel_rfl) (RC4 W7 g ao cap ts r'.tail r3 sz 2) (fun _ W W' => ButP g W W')
            [some 18, some 19, some 20, some 21, some 22] [[], [], [1], [0, 2], [], [0, 1, 2, 3, 4]]
            [fun v _ => v = .agg #[.slice a1 y.1.length c1, .slice a2 y.2.len c2], fun v _ => v = .func (.func 94) #[.pointer (some ⟨g, 0, none⟩)] #[],
             fun v W => LinkP W7.heap.size f2 v W, fun v W => PairP W7.heap.size (.slice a1 y.1.length c1) (.slice a2 y.2.len c2) f2 v W,
             fun v _ => v = .pointer (some ⟨w6.heap.size, 1, none⟩)]
            (fun _ _ _ _ _ _ h => h.elim) rfl (by kernel_rfl) (by kernel_rfl) (by kernel_rfl) (by kernel_rfl) (by kernel_rfl) rfl rfl ?_ ?_ ?_ ?_
          · refine .eq (.eq (.cons ?_ (.cons ?_ (.eq .nil))))
            · rintro i v W W' h1 h2 hk ⟨y2, p1, q1, p2, q2, e, hn, hs⟩
              exact ⟨y2, p1, q1, p2, q2, e, (hn.keep (KeptIn.but hk (by omega) (Nat.le_refl _))).mono (Nat.le_refl _) hk.size, hs⟩
            · rintro i v W W' h1 h2 hk ⟨q, y2, p1, q1, p2, q2, e, hq, hc, hn, hs⟩
              refine ⟨q, y2, p1, q1, p2, q2, e, hq, fun j u hj => ?_, (hn.keep (KeptIn.but hk (by omega) (Nat.le_refl _))).mono (Nat.le_refl _) hk.size, hs⟩
              have hlt := World.block_lt_of_cell? W _ (hc j u hj)
              rw [hk.cell (p := ⟨q, 0 + j, none⟩) hlt (by show q ≠ g; omega)]; exact hc j u hj
          · intro L hL
            exact RC4.none R7.out.rs (hL 2)
          · refine .cons ?_ (.cons ?_ (.cons ?_ (.cons ?_ (.cons ?_ .nil))))
            all_goals (intro L A W hLi hC old nd)
            all_goals (refine RP.runs_none rfl ?_)
            · have e7 : (A.tmps[7]?).getD undef = .pointer (some ⟨w1.heap.size, 0, none⟩) := old 7 (by kernel_rfl)
              have x := X7.out.but hC.bt (by omega)
              exact RP.gives_row 51 (.tmp 7) rfl _ 0 (by simpa [Act.eval] using e7) [.slice a1 y.1.length c1, .slice a2 y.2.len c2] _ (x.range) Try.underlying51 rfl IF.out ⟨hC.same (by decide) (Below.refl _ _), But.refl _ _ _, rfl⟩
            · have e2 : (A.tmps[2]?).getD undef = .func (.func 94) #[.pointer (some ⟨g, 0, none⟩)] #[] := old 2 (by kernel_rfl)
              simp [RP.Oper.gives, RP.gives, go_sem, e2]
              exact ⟨hC.same (by decide) (Below.refl _ _), But.refl _ _ _, rfl⟩
            · have e19 : (A.tmps[19]?).getD undef = .func (.func 94) #[.pointer (some ⟨g, 0, none⟩)] #[] := nd.1
              have S := hC.rs
              rw [hLi] at S
              simp [RP.Oper.gives, RP.gives, go_sem, e19]
              refine (HCall.out W S).mono fun e W' h => ?_
              obtain ⟨BB, y2, p1, q1, p2, q2, rfl, hn, hs, S2⟩ := h
              refine ⟨_, rfl, ⟨hC.bt.trans BB, ?_⟩, BB, ⟨y2, p1, q1, p2, q2, rfl, hn.mono hC.bt.size (Nat.le_refl _), hs⟩⟩
              rw [RP.also_self]; exact S2
            · obtain ⟨e18, ⟨y2, p1, q1, p2, q2, e20, hn, hs⟩, _⟩ := nd
              replace e18 : (A.tmps[18]?).getD undef = .agg #[.slice a1 y.1.length c1, .slice a2 y.2.len c2] := e18
              replace e20 : (A.tmps[20]?).getD undef = .agg #[.slice p1 y2.1.length q1, .slice p2 y2.2.len q2] := e20
              simp [RP.Oper.gives, RP.gives, go_sem, e18, e20]
              have bb : Below W.heap.size W (W.alloc (Obj.cells #[.slice a1 y.1.length c1, .slice a2 y.2.len c2, .slice p1 y2.1.length q1, .slice p2 y2.2.len q2] 51)) := (Below.refl _ _).alloc (Nat.le_refl _) _
              refine ⟨hC.same (by decide) bb, ButP.of bb, ⟨W.heap.size, y2, p1, q1, p2, q2, rfl, hC.bt.size, fun j u hj => ?_, (hn.keep (KeptIn.below bb (Nat.le_refl _) _)).mono (Nat.le_refl _) bb.size, hs⟩⟩
              rw [World.cell?_alloc_new, Nat.zero_add]; simpa using hj
            · have e8 : (A.tmps[8]?).getD undef = .pointer (some ⟨w6.heap.size, 0, none⟩) := old 8 (by kernel_rfl)
              simp [RP.Oper.gives, RP.gives, go_sem, e8]
              exact ⟨hC.same (by decide) (Below.refl _ _), But.refl _ _ _, rfl⟩
          · intro L W hall hC E hE
            refine .cons fun v1 h1 => .cons fun v2 h2 => .cons fun v3 h3 => .cons fun v4 h4 => .cons fun v5 h5 => .nil ?_
            obtain ⟨q, y2, p1, q1, p2, q2, rfl, hq, hc, hn, hs⟩ := h4
            subst h5
            clear h1 h2 h3
            have S8 := hC.rs
            rw [hall 2 (by decide)] at S8
            have hW := hC.bt.size
            have R8 := hide (R7.out.but hgw hC.bt S8)
            have X8 := hide (X7.out.but hC.bt (by omega))
            have M8 := hide (M7.out.but hC.bt (by omega))
            have hk8 : KeptIn (KC w.heap.size w1.heap.size w6) W7 W := KeptIn.butK hC.bt (fun k => by have := k.1; omega) (fun _ k => by have := k.2.2; omega)
            have N8 := hide (N7.out.keep hk8)
            have N8t := hide (N7t.out.keep hk8)
            have N8y := hide hn
            have HS2 := hide hs
            have HC8 := hide hc
            have x1 := M8.out.c1
            have u1 := M8.out.f1
            have hml := M8.out.lt
            have hwm : w.heap.size < w6.heap.size := by omega
            clear hk8 S8 hn hs hc R7 X7 M7 N7 N7t hC
            simp only [Act.put, List.setIfInBounds_toArray, List.set_cons_zero, List.set_cons_succ]
            refine hE _ ?_
            simp [RP.Oper.gives, RP.gives, go_sem, x1, u1]
            obtain ⟨W9, hW9⟩ : ∃ x, x = W.setCell ⟨w6.heap.size, 1, none⟩ (.slice (some ⟨q, 0, none⟩) 2 2) := ⟨_, rfl⟩
            have s9 : W9.heap.size = W.heap.size := by rw [hW9, size_set]
            have hk9 : ∀ (K : Nat → Prop), ¬ K w6.heap.size → KeptIn K W W9 := fun K hK => by rw [hW9]; exact KeptIn.setK hK
            have M9 : Hid (NB W9 w6.heap.size (.slice b1 1 d1) (.slice (some ⟨q, 0, none⟩) 2 2)) := by unfold Hid; rw [hW9]; exact M8.out.set1 _
            have R9 : Hid (RN w W9 w.heap.size g ao cap ts r3 sz (.slice none 0 0) (.slice none 0 0)) := by unfold Hid; rw [hW9]; exact R8.out.setO hwm (by omega) _
            have X9 : Hid (NB W9 w1.heap.size (.slice a1 y.1.length c1) (.slice a2 y.2.len c2)) := by unfold Hid; rw [hW9]; exact X8.out.other _ (by omega)
            rw [← hW9]
            clear hW9
            have hql : q < W.heap.size := World.block_lt_of_cell? W _ (HC8.out 0 _ rfl)
            have N9 : Hid (NA W9 (KC w.heap.size w1.heap.size W9) b1 (some ⟨q, 0, none⟩) ([t], .cons y.1 y.2 (.cons y2.1 y2.2 .nil))) := by
              have hnk : ¬ KC w.heap.size w1.heap.size w6 w6.heap.size := fun k => absurd k.2.2 (Nat.lt_irrefl _)
              have hsub : ∀ b, KC w.heap.size w1.heap.size w6 b → KC w.heap.size w1.heap.size W9 b := fun _ k => ⟨k.1, k.2.1, by have := k.2.2; omega⟩
              have hq9 : KeptIn (fun b => b = q) W W9 := hk9 _ (by show ¬ w6.heap.size = q; omega)
              refine ⟨(N8t.out.keep (hk9 _ hnk)).t.sub hsub, .inr ⟨q, rfl, ⟨by omega, by omega, by omega⟩, ?_⟩⟩
              refine FC.two (c1 := c1) (c2 := c2) (d1 := q1) (d2 := q2) (x := y) (y := y2) ((N8.out.keep (hk9 _ hnk)).sub hsub) ((N8y.out.keep (hk9 _ (fun k => by have := k.1; omega))).sub (fun b k => ⟨by have := k.1; omega, by have := k.1; omega, by have := k.2; omega⟩)) ?_ ?_ ?_ ?_
              · exact hq9.cell rfl (HC8.out 0 _ rfl)
              · exact hq9.cell rfl (HC8.out 1 _ rfl)
              · exact hq9.cell rfl (HC8.out 2 _ rfl)
              · exact hq9.cell rfl (HC8.out 3 _ rfl)
            have HY9 : Hid (ShF ([t], .cons y.1 y.2 (.cons y2.1 y2.2 .nil)) (.both w_and_ a f2)) := ⟨t, y, y2, rfl, HK.out, HTX.out, .inr rfl, hY.out, HS2.out⟩
            clear R8 X8 M8 N8 N8t N8y HS2 HC8 hk9 hY hql hq
            have z0 := M9.out.c0
            have z1 := M9.out.c1
            have zl := M9.out.lt
            have x0 := X9.out.c0
            have x1 := X9.out.c1
            have y0 := X9.out.f0
            have y1 := X9.out.f1
            have xl := X9.out.lt
            have RF := hide (R9.out.putO (m1 := w1.heap.size) (by omega) hm1g (.slice b1 1 d1) (.slice (some ⟨q, 0, none⟩) 2 2))
            have XF := hide (X9.out.put (.slice b1 1 d1) (.slice (some ⟨q, 0, none⟩) 2 2))
            have NF : Hid (NA (putN W9 w1.heap.size (.slice b1 1 d1) (.slice (some ⟨q, 0, none⟩) 2 2)) (KC w.heap.size w1.heap.size (putN W9 w1.heap.size (.slice b1 1 d1) (.slice (some ⟨q, 0, none⟩) 2 2))) b1 (some ⟨q, 0, none⟩) ([t], .cons y.1 y.2 (.cons y2.1 y2.2 .nil))) :=
              (N9.out.keep (putN_keptK (fun k => absurd rfl k.2.1))).sub (KC.grow (by rw [putN_size]; exact Nat.le_refl _))
            unfold putN at RF XF NF
            clear N9 R9 X9 M9
            go_wp2_with fail
            exact ⟨⟨m', .both w_and_ a f2, r3, ([t], .cons y.1 y.2 (.cons y2.1 y2.2 .nil)), b1, d1, some ⟨q, 0, none⟩, 2, hmn, hf3, HR2, HY9, RF, XF, NF⟩, by rw [hrl.out, RF.out.rs.left]; exact hl3⟩

set_option maxHeartbeats 4000000 in
set_option maxRecDepth 100000 in
theorem chain_for (n : Nat) (IH : ∀ m, m ≤ n → TerT m) (g : Nat) (ao : Option Addr) (cap : Nat) (ts r : List Tk) (sz : Nat) (w : World) (h : RS w g ao cap ts r sz) (ht : TokOk ts) (hl : ts.length < 4294967281) (hf : 3 * r.length + 2 ≤ n) :
    Calls Try.prog 92 #[.pointer (some ⟨g, 0, none⟩), .string ⟨#[111, 114]⟩, .func (.func 93) #[.pointer (some ⟨g, 0, none⟩)] #[]] w fun e w' => OutG ShF (forF (n + 1) r) g ao cap ts sz w e w' := by
  have IHh := hide IH
  have HL := hide hl
  have HT := hide ht
  have HE : Hid (forF (n + 1) r = (terF n r).then (forL n)) := forF_succ n r
  have HFu := hide hf
  have hgw := h.lt
  have R0 := hide (RN.new h (.slice none 0 0) (.slice none 0 0) 51)
  clear h hf hl ht IH
  go_enter Try.func92, Try.ntmps92
  go_upto_region 1 with fail
  obtain ⟨W0, hW0⟩ : ∃ x, x = w.alloc (Obj.cells #[.slice none 0 0, .slice none 0 0] 51) := ⟨_, rfl⟩
  rw [← hW0] at R0 ⊢
  have hs0 : W0.heap.size = w.heap.size + 1 := by rw [hW0]; simp
  clear hW0
  go_wp2_with fail
  refine (IHh.out n (Nat.le_refl _) g ao cap ts r sz W0 R0.out.rs HT.out HL.out HFu.out).mono ?_
  rintro e w1 ⟨B1, h1⟩
  have hs1 := B1.size
  cases hx : terF n r with
  | bad r' =>
    rw [hx] at h1
    obtain ⟨rfl, S1⟩ := h1
    have R1 := hide (R0.out.but hgw B1 S1)
    have HX : Hid (forF (n + 1) r = .bad r') := by unfold Hid; rw [HE.out, hx]; rfl
    clear hx B1 S1 R0 HE
    go_wp2_with fail
    exact ⟨rfl, OutG.isBad HX.out R1.out.bt R1.out.rs⟩
  | ok a r' =>
    rw [hx] at h1
    obtain ⟨y, a1, c1, a2, c2, rfl, N1, hy, S1⟩ := h1
    have R1 := hide (R0.out.but hgw B1 S1)
    have hsh := (short_all n).2.1 _ _ _ hx
    have HY := hide hy
    have N1 := hide N1
    have HE2 : Hid (forF (n + 1) r = forL n a r') := by unfold Hid; rw [HE.out, hx]; rfl
    have hfu := HFu.out
    obtain ⟨n', rfl⟩ : ∃ k, n = k + 1 := ⟨n - 1, by omega⟩
    have HF2 : Hid (3 * r'.length + 2 ≤ n') := by unfold Hid; omega
    clear hx B1 S1 R0 HE hy hsh hfu HFu
    go_wp2_with fail
    obtain ⟨W2, hW2⟩ : ∃ x, x = w1.alloc (Obj.cells #[.slice a1 y.1.length c1, .slice a2 y.2.len c2] 51) := ⟨_, rfl⟩
    have R2 : Hid (RN w W2 w.heap.size g ao cap ts r' sz (.slice none 0 0) (.slice none 0 0)) := by unfold Hid; rw [hW2]; exact R1.out.alloc _
    have X2 : Hid (NB W2 w1.heap.size (.slice a1 y.1.length c1) (.slice a2 y.2.len c2)) := by unfold Hid; rw [hW2]; exact NB.new _ _ _ _
    have N2 : Hid (NA W2 (KC w.heap.size w1.heap.size W2) a1 a2 y) := by
      unfold Hid; rw [hW2]
      exact (N1.out.keep (KeptIn.below ((Below.refl _ _).alloc (Nat.le_refl _) _) (Nat.le_refl _) _)).sub (fun b k => ⟨by have := k.1; omega, by have := k.2; omega, by have := k.2; simp; omega⟩)
    rw [← hW2]
    have hm1 : w.heap.size < w1.heap.size := by omega
    clear hW2 R1 N1
    go_loopw [] (fun W => ∃ (m : Nat) (a : Fm) (r' : List Tk) (y : Nd) (a1 : Option Addr) (c1 : Nat) (a2 : Option Addr) (c2 : Nat), m ≤ n' ∧ 3 * r'.length + 2 ≤ m ∧ Hid (forF (n' + 1 + 1) r = forL (m + 1) a r') ∧ Hid (ShF y a) ∧
      Hid (RN w W w.heap.size g ao cap ts r' sz (.slice none 0 0) (.slice none 0 0)) ∧ Hid (NB W w1.heap.size (.slice a1 y.1.length c1) (.slice a2 y.2.len c2)) ∧ Hid (NA W (KC w.heap.size w1.heap.size W) a1 a2 y)) (fun W => leftR W g ts.length)
    case atStart => exact ⟨n', a, r', y, a1, c1, a2, c2, Nat.le_refl _, HF2.out, HE2, HY, R2, X2, N2⟩
    case round =>
      obtain ⟨m, a, r', y, a1, c1, a2, c2, hm, hfm, hE, hY, hR, hX, hN⟩ := hrel
      clear HE2 HY R2 X2 N2 HF2
      have hrl : Hid (leftR wr g ts.length = r'.length) := hR.out.rs.left
      cases hq : isT w_or_ r' with
      | false =>
        have HR : Hid (forF (n' + 1 + 1) r = .ok a r') := by unfold Hid; rw [hE.out, forL_succ, if_neg (by simp [hq])]
        have HSe : Hid (∀ W, RS W g ao cap ts r' sz → Calls Try.prog 85 #[.pointer (some ⟨g, 0, none⟩), .string ⟨#[111, 114]⟩] W fun e w' => e = .returned (.bool false) ∧ Below W.heap.size W w') := fun W a => by
          have := sees_any w_or_ g ao cap ts r' sz W a; rwa [fitT_lit (by decide), hq] at this
        clear hE hq
        go_wp2_with fail
        refine (HSe.out _ hR.out.rs).mono ?_
        rintro e w4 ⟨rfl, b4⟩
        have R4 := hide (hR.out.below b4)
        have X4 := hide (hX.out.below b4)
        have N4 := hide (hN.out.belowC b4)
        clear b4 hR hX hN HSe
        have x0 := X4.out.c0
        have x1 := X4.out.c1
        have hxl := X4.out.lt
        have z0 := R4.out.nb.c0
        have z1 := R4.out.nb.c1
        have u0 := R4.out.nb.f0
        have u1 := R4.out.nb.f1
        have hzl := R4.out.nb.lt
        have NF := hide (R4.out.nb.put (.slice a1 y.1.length c1) (.slice a2 y.2.len c2))
        have HO := hide (R4.out.outK (Sh := ShF) (c1 := c1) (c2 := c2) hgw HR.out N4.out (fun b k => ⟨by have := k.1; omega, k.2.2, by have := k.1; omega⟩) hY.out)
        unfold putN at NF HO
        clear hY R4 N4 X4 HR
        go_wp2_with fail
        refine bodyPost_ret (v := .agg #[.slice a1 y.1.length c1, .slice a2 y.2.len c2]) ?_ rfl ?_
        · exact resReadChain NF.out rfl
        · exact HO.out
      | true =>
        obtain ⟨t, hr', hk, htx, htk⟩ := take_one (by decide) (by decide) (hR.out.rs.tok HT.out) hq
        have HR : Hid (forF (n' + 1 + 1) r = (terF m r'.tail).then fun b r => forL m (.both w_or_ a b) r) := by unfold Hid; rw [hE.out, forL_succ, if_pos hq]
        have hlen := isT_len hq
        have HK := hide hk
        have HTX := hide htx
        have HTK := hide htk
        have HSe : Hid (∀ W, RS W g ao cap ts r' sz → Calls Try.prog 85 #[.pointer (some ⟨g, 0, none⟩), .string ⟨#[111, 114]⟩] W fun e w' => e = .returned (.bool true) ∧ Below W.heap.size W w') := fun W a => by
          have := sees_any w_or_ g ao cap ts r' sz W a; rwa [fitT_lit (by decide), hq] at this
        clear hE hq hr' hk htx htk
        go_wp2_with fail
        refine (HSe.out _ hR.out.rs).mono ?_
        rintro e w4 ⟨rfl, b4⟩
        have R4 := hide (hR.out.below b4)
        have X4 := hide (hX.out.below b4)
        have N4 := hide (hN.out.belowC b4)
        clear b4 hR hX hN HSe
        go_wp2_with fail
        have R5 := hide (fun o => R4.out.alloc o)
        have X5 := hide (fun o => X4.out.below ((Below.refl w4.heap.size w4).alloc (Nat.le_refl _) o))
        have N5 := hide (fun o => N4.out.belowC ((Below.refl w4.heap.size w4).alloc (Nat.le_refl _) o))
        have hzl := R4.out.nb.lt
        refine (leaf_any [w_or_] w4.heap.size g ao cap ts r' sz _ (R5.out _).rs (lits_new w4 [w_or_] 9) (by omega) (by simp) (by decide) HL.out).mono ?_
        rintro e w6 ⟨B6, h6⟩
        rw [HTK.out] at h6
        obtain ⟨yt, b1, d1, b2, d2, he, N6t, hyt, S6⟩ := h6
        subst hyt
        replace he : e = .returned (.agg #[.slice b1 1 d1, .slice b2 0 d2]) := he
        subst he
        have hs6 := B6.size
        have R6 := hide ((R5.out _).but hgw B6 S6)
        have X6 := hide ((X5.out _).but B6 (by omega))
        have N6 := hide ((N5.out _).butC hgw B6)
        have N6t := hide N6t
        have hs5 : w4.heap.size + 1 ≤ w6.heap.size := by simpa using hs6
        have hx4 := X4.out.lt
        clear R4 X4 N4 R5 X5 N5 B6 S6 hs6
        go_upto_region 4 with fail
        obtain ⟨W7, hW7⟩ : ∃ x, x = w6.alloc (Obj.cells #[.slice b1 1 d1, .slice b2 0 d2] 51) := ⟨_, rfl⟩
        have b7 : Below w6.heap.size w6 W7 := by rw [hW7]; exact (Below.refl _ _).alloc (Nat.le_refl _) _
        have M7 : Hid (NB W7 w6.heap.size (.slice b1 1 d1) (.slice b2 0 d2)) := by unfold Hid; rw [hW7]; exact NB.new _ _ _ _
        have R7 := hide (R6.out.below b7)
        have X7 := hide (X6.out.below b7)
        have N7 : Hid (NA W7 (KC w.heap.size w1.heap.size w6) a1 a2 y) := N6.out.keep (KeptIn.belowK b7 fun _ k => k.2.2)
        have N7t : Hid (NA W7 (KC w.heap.size w1.heap.size w6) b1 b2 ([t], .nil)) := by
          unfold Hid
          exact (N6t.out.keep (KeptIn.below b7 (Nat.le_refl _) _)).sub (fun b k => by
            have h1 : w4.heap.size + 1 ≤ b := by simpa using k.1
            have h2 := k.2
            exact ⟨by omega, by omega, by omega⟩)
        rw [← hW7]
        clear hW7 b7 R6 X6 N6 N6t
        have hx7 := X7.out.lt
        have hm7 := M7.out.lt
        have hm1g : g < w1.heap.size := by omega
        have hm6g : g < w6.heap.size := by omega
        have hm61 : w6.heap.size ≠ w1.heap.size := by omega
        have HFm : Hid (3 * r'.tail.length + 2 ≤ m) := by unfold Hid; omega
        have IF : Hid ((Try.prog.info? 51).map (·.size) = some 2) := by unfold Hid; kernel_rfl
        cases hx : terF m r'.tail with
        | bad r3 =>
          have HX : Hid (forF (n' + 1 + 1) r = .bad r3) := by unfold Hid; rw [HR.out, hx]; rfl
          have HCall : Hid (∀ W, RS W g ao cap ts r'.tail sz → Calls Try.prog 93 #[.pointer (some ⟨g, 0, none⟩)] W fun e w' => ButP g W w' ∧ e = .panicked stuckE ∧ RS w' g ao cap ts r3 sz) := fun W a => by
            have := IHh.out m (by omega) g ao cap ts r'.tail sz W a HT.out HL.out HFm.out; rw [hx] at this; exact this
          clear hx HR
          refine RP.wp_region_posts_last (X := fun ch W => ch = stuckE ∧ ButP g W7 W ∧ RS W g ao cap ts r3 sz) (l := [_, _, _, _, _]) (ol := _) rfl (by kernel_rfl) (RC4 W7 g ao cap ts r'.tail r'.tail sz 2) (fun _ W W' => ButP g W W')
            [some 18, some 19, some 20, some 21, some 22] [[], [], [1], [0, 2], [], [0, 1, 2, 3, 4]]
            [fun v _ => v = .agg #[.slice a1 y.1.length c1, .slice a2 y.2.len c2], fun v _ => v = .func (.func 93) #[.pointer (some ⟨g, 0, none⟩)] #[], fun _ _ => False, fun _ _ => False, fun v _ => v = .pointer (some ⟨w6.heap.size, 1, none⟩)]
            ?_ rfl (by kernel_rfl) (by kernel_rfl) (by kernel_rfl) (by kernel_rfl) (by kernel_rfl) rfl rfl ?_ ?_ ?_ ?_
          · intro ch A W hs hd ho hx
            obtain ⟨rfl, BW, SW⟩ := hx
            exact And.intro hd (OutG.isBad HX.out (R7.out.bt.trans BW) SW)
          · exact .eq (.eq (.cons (fun _ _ _ _ _ _ _ h => h) (.cons (fun _ _ _ _ _ _ _ h => h) (.eq .nil))))
          · intro L hL
            exact RC4.none R7.out.rs (hL 2)
          · refine .cons ?_ (.cons ?_ (.cons ?_ (.cons ?_ (.cons ?_ .nil))))
            all_goals (intro L A W hLi hC old nd)
            all_goals (refine RP.runs_none rfl ?_)
            · have e7 : (A.tmps[7]?).getD undef = .pointer (some ⟨w1.heap.size, 0, none⟩) := old 7 (by kernel_rfl)
              have x := X7.out.but hC.bt (by omega)
              exact RP.gives_row 51 (.tmp 7) rfl _ 0 (by simpa [Act.eval] using e7) [.slice a1 y.1.length c1, .slice a2 y.2.len c2] _ (x.range) Try.underlying51 rfl IF.out ⟨hC.same (by decide) (Below.refl _ _), But.refl _ _ _, rfl⟩
            · have e2 : (A.tmps[2]?).getD undef = .func (.func 93) #[.pointer (some ⟨g, 0, none⟩)] #[] := old 2 (by kernel_rfl)
              simp [RP.Oper.gives, RP.gives, go_sem, e2]
              exact ⟨hC.same (by decide) (Below.refl _ _), But.refl _ _ _, rfl⟩
            · have e19 : (A.tmps[19]?).getD undef = .func (.func 93) #[.pointer (some ⟨g, 0, none⟩)] #[] := nd.1
              have S := hC.rs
              rw [hLi] at S
              simp [RP.Oper.gives, RP.gives, go_sem, e19]
              refine (HCall.out W S).mono fun e W' h => ?_
              exact ⟨_, h.2.1, rfl, hC.bt.trans h.1, h.2.2⟩
            · exact nd.2.1.elim
            · have e8 : (A.tmps[8]?).getD undef = .pointer (some ⟨w6.heap.size, 0, none⟩) := old 8 (by kernel_rfl)
              simp [RP.Oper.gives, RP.gives, go_sem, e8]
              exact ⟨hC.same (by decide) (Below.refl _ _), But.refl _ _ _, rfl⟩
          · intro L W hall hC E hE
            exact .cons fun v1 h1 => .cons fun v2 h2 => .cons fun v3 h3 => h3.elim
        | ok f2 r3 =>
          have hsh := (short_all m).2.1 _ _ _ hx
          have HCall : Hid (∀ W, RS W g ao cap ts r'.tail sz → Calls Try.prog 93 #[.pointer (some ⟨g, 0, none⟩)] W fun e w' => ButP g W w' ∧ ∃ (y2 : Nd) (p1 : Option Addr) (q1 : Nat) (p2 : Option Addr) (q2 : Nat), e = .returned (.agg #[.slice p1 y2.1.length q1, .slice p2 y2.2.len q2]) ∧ NA w' (In W.heap.size w'.heap.size) p1 p2 y2 ∧ ShF y2 f2 ∧ RS w' g ao cap ts r3 sz) := fun W a => by
            have := IHh.out m (by omega) g ao cap ts r'.tail sz W a HT.out HL.out HFm.out; rw [hx] at this; exact this
          obtain ⟨m', rfl⟩ : ∃ k, m = k + 1 := ⟨m - 1, by omega⟩
          have HR2 : Hid (forF (n' + 1 + 1) r = forL (m' + 1) (.both w_or_ a f2) r3) := by unfold Hid; rw [HR.out, hx]; rfl
          have hf3 : 3 * r3.length + 2 ≤ m' := by omega
          have hl3 : r3.length < r'.length := by omega
          have hmn : m' ≤ n' := by omega
          clear hx HR hsh HFm hfm hlen hm
          refine RP.wp_region_posts_last (X := fun _ _ => False) (l := [_, _, _, _, _]) (ol := _) rfl (by kernel_rfl) (RC4 W7 g ao cap ts r'.tail r3 sz 2) (fun _ W W' => ButP g W W')
            [some 18, some 19, some 20, some 21, some 22] [[], [], [1], [0, 2], [], [0, 1, 2, 3, 4]]
            [fun v _ => v = .agg #[.slice a1 y.1.length c1, .slice a2 y.2.len c2], fun v _ => v = .func (.func 93) #[.pointer (some ⟨g, 0, none⟩)] #[],
             fun v W => LinkP W7.heap.size f2 v W, fun v W => PairP W7.heap.size (.slice a1 y.1.length c1) (.slice a2 y.2.len c2) f2 v W,
             fun v _ => v = .pointer (some ⟨w6.heap.size, 1, none⟩)]
            (fun _ _ _ _ _ _ h => h.elim) rfl (by kernel_rfl) (by kernel_rfl) (by kernel_rfl) (by kernel_rfl) (by kernel_rfl) rfl rfl ?_ ?_ ?_ ?_
          · refine .eq (.eq (.cons ?_ (.cons ?_ (.eq .nil))))
            · rintro i v W W' h1 h2 hk ⟨y2, p1, q1, p2, q2, e, hn, hs⟩
              exact ⟨y2, p1, q1, p2, q2, e, (hn.keep (KeptIn.but hk (by omega) (Nat.le_refl _))).mono (Nat.le_refl _) hk.size, hs⟩
            · rintro i v W W' h1 h2 hk ⟨q, y2, p1, q1, p2, q2, e, hq, hc, hn, hs⟩
              refine ⟨q, y2, p1, q1, p2, q2, e, hq, fun j u hj => ?_, (hn.keep (KeptIn.but hk (by omega) (Nat.le_refl _))).mono (Nat.le_refl _) hk.size, hs⟩
              have hlt := World.block_lt_of_cell? W _ (hc j u hj)
              rw [hk.cell (p := ⟨q, 0 + j, none⟩) hlt (by show q ≠ g; omega)]; exact hc j u hj
          · intro L hL
            exact RC4.none R7.out.rs (hL 2)
          · refine .cons ?_ (.cons ?_ (.cons ?_ (.cons ?_ (.cons ?_ .nil))))
            all_goals (intro L A W hLi hC old nd)
            all_goals (refine RP.runs_none rfl ?_)
            · have e7 : (A.tmps[7]?).getD undef = .pointer (some ⟨w1.heap.size, 0, none⟩) := old 7 (by kernel_rfl)
              have x := X7.out.but hC.bt (by omega)
              exact RP.gives_row 51 (.tmp 7) rfl _ 0 (by simpa [Act.eval] using e7) [.slice a1 y.1.length c1, .slice a2 y.2.len c2] _ (x.range) Try.underlying51 rfl IF.out ⟨hC.same (by decide) (Below.refl _ _), But.refl _ _ _, rfl⟩
            · have e2 : (A.tmps[2]?).getD undef = .func (.func 93) #[.pointer (some ⟨g, 0, none⟩)] #[] := old 2 (by kernel_rfl)
              simp [RP.Oper.gives, RP.gives, go_sem, e2]
              exact ⟨hC.same (by decide) (Below.refl _ _), But.refl _ _ _, rfl⟩
            · have e19 : (A.tmps[19]?).getD undef = .func (.func 93) #[.pointer (some ⟨g, 0, none⟩)] #[] := nd.1
              have S := hC.rs
              rw [hLi] at S
              simp [RP.Oper.gives, RP.gives, go_sem, e19]
              refine (HCall.out W S).mono fun e W' h => ?_
              obtain ⟨BB, y2, p1, q1, p2, q2, rfl, hn, hs, S2⟩ := h
              refine ⟨_, rfl, ⟨hC.bt.trans BB, ?_⟩, BB, ⟨y2, p1, q1, p2, q2, rfl, hn.mono hC.bt.size (Nat.le_refl _), hs⟩⟩
              rw [RP.also_self]; exact S2
            · obtain ⟨e18, ⟨y2, p1, q1, p2, q2, e20, hn, hs⟩, _⟩ := nd
              replace e18 : (A.tmps[18]?).getD undef = .agg #[.slice a1 y.1.length c1, .slice a2 y.2.len c2] := e18
              replace e20 : (A.tmps[20]?).getD undef = .agg #[.slice p1 y2.1.length q1, .slice p2 y2.2.len q2] := e20
              simp [RP.Oper.gives, RP.gives, go_sem, e18, e20]
              have bb : Below W.heap.size W (W.alloc (Obj.cells #[.slice a1 y.1.length c1, .slice a2 y.2.len c2, .slice p1 y2.1.length q1, .slice p2 y2.2.len q2] 51)) := (Below.refl _ _).alloc (Nat.le_refl _) _
              refine ⟨hC.same (by decide) bb, ButP.of bb, ⟨W.heap.size, y2, p1, q1, p2, q2, rfl, hC.bt.size, fun j u hj => ?_, (hn.keep (KeptIn.below bb (Nat.le_refl _) _)).mono (Nat.le_refl _) bb.size, hs⟩⟩
              rw [World.cell?_alloc_new, Nat.zero_add]; simpa using hj
            · have e8 : (A.tmps[8]?).getD undef = .pointer (some ⟨w6.heap.size, 0, none⟩) := old 8 (by kernel_rfl)
              simp [RP.Oper.gives, RP.gives, go_sem, e8]
              exact ⟨hC.same (by decide) (Below.refl _ _), But.refl _ _ _, rfl⟩
          · intro L W hall hC E hE
            refine .cons fun v1 h1 => .cons fun v2 h2 => .cons fun v3 h3 => .cons fun v4 h4 => .cons fun v5 h5 => .nil ?_
            obtain ⟨q, y2, p1, q1, p2, q2, rfl, hq, hc, hn, hs⟩ := h4
            subst h5
            clear h1 h2 h3
            have S8 := hC.rs
            rw [hall 2 (by decide)] at S8
            have hW := hC.bt.size
            have R8 := hide (R7.out.but hgw hC.bt S8)
            have X8 := hide (X7.out.but hC.bt (by omega))
            have M8 := hide (M7.out.but hC.bt (by omega))
            have hk8 : KeptIn (KC w.heap.size w1.heap.size w6) W7 W := KeptIn.butK hC.bt (fun k => by have := k.1; omega) (fun _ k => by have := k.2.2; omega)
            have N8 := hide (N7.out.keep hk8)
            have N8t := hide (N7t.out.keep hk8)
            have N8y := hide hn
            have HS2 := hide hs
            have HC8 := hide hc
            have x1 := M8.out.c1
            have u1 := M8.out.f1
            have hml := M8.out.lt
            have hwm : w.heap.size < w6.heap.size := by omega
            clear hk8 S8 hn hs hc R7 X7 M7 N7 N7t hC
            simp only [Act.put, List.setIfInBounds_toArray, List.set_cons_zero, List.set_cons_succ]
            refine hE _ ?_
            simp [RP.Oper.gives, RP.gives, go_sem, x1, u1]
            obtain ⟨W9, hW9⟩ : ∃ x, x = W.setCell ⟨w6.heap.size, 1, none⟩ (.slice (some ⟨q, 0, none⟩) 2 2) := ⟨_, rfl⟩
            have s9 : W9.heap.size = W.heap.size := by rw [hW9, size_set]
            have hk9 : ∀ (K : Nat → Prop), ¬ K w6.heap.size → KeptIn K W W9 := fun K hK => by rw [hW9]; exact KeptIn.setK hK
            have M9 : Hid (NB W9 w6.heap.size (.slice b1 1 d1) (.slice (some ⟨q, 0, none⟩) 2 2)) := by unfold Hid; rw [hW9]; exact M8.out.set1 _
            have R9 : Hid (RN w W9 w.heap.size g ao cap ts r3 sz (.slice none 0 0) (.slice none 0 0)) := by unfold Hid; rw [hW9]; exact R8.out.setO hwm (by omega) _
            have X9 : Hid (NB W9 w1.heap.size (.slice a1 y.1.length c1) (.slice a2 y.2.len c2)) := by unfold Hid; rw [hW9]; exact X8.out.other _ (by omega)
            rw [← hW9]
            clear hW9
            have hql : q < W.heap.size := World.block_lt_of_cell? W _ (HC8.out 0 _ rfl)
            have N9 : Hid (NA W9 (KC w.heap.size w1.heap.size W9) b1 (some ⟨q, 0, none⟩) ([t], .cons y.1 y.2 (.cons y2.1 y2.2 .nil))) := by
              have hnk : ¬ KC w.heap.size w1.heap.size w6 w6.heap.size := fun k => absurd k.2.2 (Nat.lt_irrefl _)
              have hsub : ∀ b, KC w.heap.size w1.heap.size w6 b → KC w.heap.size w1.heap.size W9 b := fun _ k => ⟨k.1, k.2.1, by have := k.2.2; omega⟩
              have hq9 : KeptIn (fun b => b = q) W W9 := hk9 _ (by show ¬ w6.heap.size = q; omega)
              refine ⟨(N8t.out.keep (hk9 _ hnk)).t.sub hsub, .inr ⟨q, rfl, ⟨by omega, by omega, by omega⟩, ?_⟩⟩
              refine FC.two (c1 := c1) (c2 := c2) (d1 := q1) (d2 := q2) (x := y) (y := y2) ((N8.out.keep (hk9 _ hnk)).sub hsub) ((N8y.out.keep (hk9 _ (fun k => by have := k.1; omega))).sub (fun b k => ⟨by have := k.1; omega, by have := k.1; omega, by have := k.2; omega⟩)) ?_ ?_ ?_ ?_
              · exact hq9.cell rfl (HC8.out 0 _ rfl)
              · exact hq9.cell rfl (HC8.out 1 _ rfl)
              · exact hq9.cell rfl (HC8.out 2 _ rfl)
              · exact hq9.cell rfl (HC8.out 3 _ rfl)
            have HY9 : Hid (ShF ([t], .cons y.1 y.2 (.cons y2.1 y2.2 .nil)) (.both w_or_ a f2)) := ⟨t, y, y2, rfl, HK.out, HTX.out, .inl rfl, hY.out, HS2.out⟩
            clear R8 X8 M8 N8 N8t N8y HS2 HC8 hk9 hY hql hq
            have z0 := M9.out.c0
            have z1 := M9.out.c1
            have zl := M9.out.lt
            have x0 := X9.out.c0
            have x1 := X9.out.c1
            have y0 := X9.out.f0
            have y1 := X9.out.f1
            have xl := X9.out.lt
            have RF := hide (R9.out.putO (m1 := w1.heap.size) (by omega) hm1g (.slice b1 1 d1) (.slice (some ⟨q, 0, none⟩) 2 2))
            have XF := hide (X9.out.put (.slice b1 1 d1) (.slice (some ⟨q, 0, none⟩) 2 2))
            have NF : Hid (NA (putN W9 w1.heap.size (.slice b1 1 d1) (.slice (some ⟨q, 0, none⟩) 2 2)) (KC w.heap.size w1.heap.size (putN W9 w1.heap.size (.slice b1 1 d1) (.slice (some ⟨q, 0, none⟩) 2 2))) b1 (some ⟨q, 0, none⟩) ([t], .cons y.1 y.2 (.cons y2.1 y2.2 .nil))) :=
              (N9.out.keep (putN_keptK (fun k => absurd rfl k.2.1))).sub (KC.grow (by rw [putN_size]; exact Nat.le_refl _))
            unfold putN at RF XF NF
            clear N9 R9 X9 M9
            go_wp2_with fail
            exact ⟨⟨m', .both w_or_ a f2, r3, ([t], .cons y.1 y.2 (.cons y2.1 y2.2 .nil)), b1, d1, some ⟨q, 0, none⟩, 2, hmn, hf3, HR2, HY9, RF, XF, NF⟩, by rw [hrl.out, RF.out.rs.left]; exact hl3⟩

set_option maxHeartbeats 2000000 in
set_option maxRecDepth 100000 in
theorem ter_stepT (n : Nat) (IH : ∀ m, m ≤ n → FacT m) : TerT (n + 1) := by
  intro g ao cap ts r sz w h ht hl hf
  have HC := hide (fun W (a : RS W g ao cap ts r sz) => chain_ter n IH g ao cap ts r sz W a ht hl (by omega))
  have hmf : ∀ (fn : Fn) (first cap : Array Value) (w : World), (Instr.makeFunc fn first cap).run Try.prog w = .ok (.func fn first cap) w := fun _ _ _ _ => rfl
  have hgw := h.lt
  have R0 := hide (RN.new h (.slice none 0 0) (.slice none 0 0) 51)
  clear h hf hl ht IH
  go_enter Try.func93, Try.ntmps93
  go_upto_region 1 with fail
  obtain ⟨W0, hW0⟩ : ∃ x, x = w.alloc (Obj.cells #[.slice none 0 0, .slice none 0 0] 51) := ⟨_, rfl⟩
  rw [← hW0] at R0 ⊢
  have hs0 : W0.heap.size = w.heap.size + 1 := by rw [hW0]; simp
  clear hW0
  go_wp2_with fail
  refine (HC.out _ R0.out.rs).mono ?_
  rintro e w1 ⟨B1, h1⟩
  have hs1 := B1.size
  cases hx : terF (n + 1) r with
  | bad r' =>
    rw [hx] at h1
    obtain ⟨rfl, S1⟩ := h1
    have R1 := hide (R0.out.but hgw B1 S1)
    have HX := hide hx
    clear hx B1 S1 R0 HC
    go_wp2_with fail
    exact ⟨rfl, OutG.isBad HX.out R1.out.bt R1.out.rs⟩
  | ok a r' =>
    rw [hx] at h1
    obtain ⟨y, a1, c1, a2, c2, rfl, N1, hy, S1⟩ := h1
    have R1 := hide (R0.out.but hgw B1 S1)
    have HO := hide (R1.out.out (Sh := ShF) (c1 := c1) (c2 := c2) hgw hx N1 (by omega) (by omega) hy)
    have x0 := R1.out.nb.c0
    have x1 := R1.out.nb.c1
    have y0 := R1.out.nb.f0
    have y1 := R1.out.nb.f1
    have hml := R1.out.nb.lt
    have NF := hide (R1.out.nb.put (.slice a1 y.1.length c1) (.slice a2 y.2.len c2))
    unfold putN at NF HO
    clear hx B1 S1 R0 HC N1 hy R1
    go_wp2_with fail
    refine bodyPost_ret (v := .agg #[.slice a1 y.1.length c1, .slice a2 y.2.len c2]) ?_ rfl ?_
    · exact resReadTer NF.out rfl
    · exact HO.out

set_option maxHeartbeats 2000000 in
set_option maxRecDepth 100000 in
theorem for_stepT (n : Nat) (IH : ∀ m, m ≤ n → TerT m) : ForT (n + 1) := by
  intro g ao cap ts r sz w h ht hl hf
  have HC := hide (fun W (a : RS W g ao cap ts r sz) => chain_for n IH g ao cap ts r sz W a ht hl (by omega))
  have hmf : ∀ (fn : Fn) (first cap : Array Value) (w : World), (Instr.makeFunc fn first cap).run Try.prog w = .ok (.func fn first cap) w := fun _ _ _ _ => rfl
  have hgw := h.lt
  have R0 := hide (RN.new h (.slice none 0 0) (.slice none 0 0) 51)
  clear h hf hl ht IH
  go_enter Try.func87, Try.ntmps87
  go_upto_region 1 with fail
  obtain ⟨W0, hW0⟩ : ∃ x, x = w.alloc (Obj.cells #[.slice none 0 0, .slice none 0 0] 51) := ⟨_, rfl⟩
  rw [← hW0] at R0 ⊢
  have hs0 : W0.heap.size = w.heap.size + 1 := by rw [hW0]; simp
  clear hW0
  go_wp2_with fail
  refine (HC.out _ R0.out.rs).mono ?_
  rintro e w1 ⟨B1, h1⟩
  have hs1 := B1.size
  cases hx : forF (n + 1) r with
  | bad r' =>
    rw [hx] at h1
    obtain ⟨rfl, S1⟩ := h1
    have R1 := hide (R0.out.but hgw B1 S1)
    have HX := hide hx
    clear hx B1 S1 R0 HC
    go_wp2_with fail
    exact ⟨rfl, OutG.isBad HX.out R1.out.bt R1.out.rs⟩
  | ok a r' =>
    rw [hx] at h1
    obtain ⟨y, a1, c1, a2, c2, rfl, N1, hy, S1⟩ := h1
    have R1 := hide (R0.out.but hgw B1 S1)
    have HO := hide (R1.out.out (Sh := ShF) (c1 := c1) (c2 := c2) hgw hx N1 (by omega) (by omega) hy)
    have x0 := R1.out.nb.c0
    have x1 := R1.out.nb.c1
    have y0 := R1.out.nb.f0
    have y1 := R1.out.nb.f1
    have hml := R1.out.nb.lt
    have NF := hide (R1.out.nb.put (.slice a1 y.1.length c1) (.slice a2 y.2.len c2))
    unfold putN at NF HO
    clear hx B1 S1 R0 HC N1 hy R1
    go_wp2_with fail
    refine bodyPost_ret (v := .agg #[.slice a1 y.1.length c1, .slice a2 y.2.len c2]) ?_ rfl ?_
    · exact resReadFor NF.out rfl
    · exact HO.out
end Go.Proofs.Ytcmmjmgbanafgaa

/- The walks over tree.reader's factor; formulas whole (text by make/tq6.py). -/
namespace Go.Proofs.Ytcmmjmgbanafgaa
open Go.RowKit Go.Proofs.Url Go.Proofs.Url.Syn

set_option maxHeartbeats 2000000 in
set_option maxRecDepth 100000 in
theorem fac_changed (g : Nat) (ao : Option Addr) (cap : Nat) (ts r : List Tk) (sz : Nat) (w : World) (h : RS w g ao cap ts r sz) (hl : ts.length < 4294967281) (hw : wordR r = [99, 104, 97, 110, 103, 101, 100]) :
    Calls Try.prog 94 #[.pointer (some ⟨g, 0, none⟩)] w fun e w' => OutG (fun y l => y = (l, .nil)) (takesR [[99, 104, 97, 110, 103, 101, 100], w_NAME] r) g ao cap ts sz w e w' := by
  have HW : Hid (∀ W, RS W g ao cap ts r sz → Calls Try.prog 72 #[.pointer (some ⟨g, 0, none⟩)] W fun e w' => e = .returned (.string ⟨([99, 104, 97, 110, 103, 101, 100] : List UInt8).toArray⟩) ∧ Below W.heap.size W w') := fun W a => by
    have := word_any g ao cap ts r sz W a; rwa [hw] at this
  have hgw := h.lt
  have R0 := hide (RN.new h (.slice none 0 0) (.slice none 0 0) 51)
  have HL := hide hl
  clear h hw hl
  go_enter Try.func94, Try.ntmps94
  go_upto_region 1 with fail
  obtain ⟨W0, hW0⟩ : ∃ x, x = w.alloc (Obj.cells #[.slice none 0 0, .slice none 0 0] 51) := ⟨_, rfl⟩
  rw [← hW0] at R0 ⊢
  clear hW0
  go_wp2_with fail
  refine (HW.out _ R0.out.rs).mono ?_
  rintro e w1 ⟨rfl, b1⟩
  have R1 := hide (R0.out.below b1)
  clear b1 R0 HW
  have hml := R1.out.nb.lt
  have hsw := R1.out.bt.size
  go_wp2_with fail
  have R2 := hide (fun o => R1.out.alloc o)
  refine (leaf_any [[99, 104, 97, 110, 103, 101, 100], w_NAME] w1.heap.size g ao cap ts r sz _ (R2.out _).rs (lits_new w1 [[99, 104, 97, 110, 103, 101, 100], w_NAME] 9) (by omega) (by simp) (by decide) HL.out).mono ?_
  rintro e w3 ⟨B3, h3⟩
  have hs3 := B3.size
  cases hx : takesR [[99, 104, 97, 110, 103, 101, 100], w_NAME] r with
  | bad r' =>
    rw [hx] at h3
    obtain ⟨rfl, S3⟩ := h3
    have R3 := hide ((R2.out _).but hgw B3 S3)
    have HX := hide hx
    clear hx B3 S3 R1 R2
    go_wp2_with fail
    exact ⟨rfl, OutG.isBad HX.out R3.out.bt R3.out.rs⟩
  | ok l r' =>
    rw [hx] at h3
    obtain ⟨y, a1, c1, a2, c2, rfl, N3, hy, S3⟩ := h3
    have R3 := hide ((R2.out _).but hgw B3 S3)
    have HO := hide (fun hm => R3.out.out (Sh := fun y l => y = (l, .nil)) (c1 := c1) (c2 := c2) hgw hx N3 hm (by simp; omega) hy)
    have x0 := R3.out.nb.c0
    have x1 := R3.out.nb.c1
    have y0 := R3.out.nb.f0
    have y1 := R3.out.nb.f1
    have hml3 := R3.out.nb.lt
    have NF := hide (R3.out.nb.put (.slice a1 y.1.length c1) (.slice a2 y.2.len c2))
    unfold putN at NF HO
    clear hx B3 S3 R1 R2 N3 hy R3
    go_wp2_with fail
    refine bodyPost_ret (v := .agg #[.slice a1 y.1.length c1, .slice a2 y.2.len c2]) ?_ rfl ?_
    · exact resReadFac NF.out rfl
    · exact HO.out (by simp; omega)

set_option maxHeartbeats 2000000 in
set_option maxRecDepth 100000 in
theorem fac_forged (g : Nat) (ao : Option Addr) (cap : Nat) (ts r : List Tk) (sz : Nat) (w : World) (h : RS w g ao cap ts r sz) (hl : ts.length < 4294967281) (hw : wordR r = [102, 111, 114, 103, 101, 100]) :
    Calls Try.prog 94 #[.pointer (some ⟨g, 0, none⟩)] w fun e w' => OutG (fun y l => y = (l, .nil)) (takesR [[102, 111, 114, 103, 101, 100], w_NAME] r) g ao cap ts sz w e w' := by
  have HW : Hid (∀ W, RS W g ao cap ts r sz → Calls Try.prog 72 #[.pointer (some ⟨g, 0, none⟩)] W fun e w' => e = .returned (.string ⟨([102, 111, 114, 103, 101, 100] : List UInt8).toArray⟩) ∧ Below W.heap.size W w') := fun W a => by
    have := word_any g ao cap ts r sz W a; rwa [hw] at this
  have hgw := h.lt
  have R0 := hide (RN.new h (.slice none 0 0) (.slice none 0 0) 51)
  have HL := hide hl
  clear h hw hl
  go_enter Try.func94, Try.ntmps94
  go_upto_region 1 with fail
  obtain ⟨W0, hW0⟩ : ∃ x, x = w.alloc (Obj.cells #[.slice none 0 0, .slice none 0 0] 51) := ⟨_, rfl⟩
  rw [← hW0] at R0 ⊢
  clear hW0
  go_wp2_with fail
  refine (HW.out _ R0.out.rs).mono ?_
  rintro e w1 ⟨rfl, b1⟩
  have R1 := hide (R0.out.below b1)
  clear b1 R0 HW
  have hml := R1.out.nb.lt
  have hsw := R1.out.bt.size
  go_wp2_with fail
  have R2 := hide (fun o => R1.out.alloc o)
  refine (leaf_any [[102, 111, 114, 103, 101, 100], w_NAME] w1.heap.size g ao cap ts r sz _ (R2.out _).rs (lits_new w1 [[102, 111, 114, 103, 101, 100], w_NAME] 9) (by omega) (by simp) (by decide) HL.out).mono ?_
  rintro e w3 ⟨B3, h3⟩
  have hs3 := B3.size
  cases hx : takesR [[102, 111, 114, 103, 101, 100], w_NAME] r with
  | bad r' =>
    rw [hx] at h3
    obtain ⟨rfl, S3⟩ := h3
    have R3 := hide ((R2.out _).but hgw B3 S3)
    have HX := hide hx
    clear hx B3 S3 R1 R2
    go_wp2_with fail
    exact ⟨rfl, OutG.isBad HX.out R3.out.bt R3.out.rs⟩
  | ok l r' =>
    rw [hx] at h3
    obtain ⟨y, a1, c1, a2, c2, rfl, N3, hy, S3⟩ := h3
    have R3 := hide ((R2.out _).but hgw B3 S3)
    have HO := hide (fun hm => R3.out.out (Sh := fun y l => y = (l, .nil)) (c1 := c1) (c2 := c2) hgw hx N3 hm (by simp; omega) hy)
    have x0 := R3.out.nb.c0
    have x1 := R3.out.nb.c1
    have y0 := R3.out.nb.f0
    have y1 := R3.out.nb.f1
    have hml3 := R3.out.nb.lt
    have NF := hide (R3.out.nb.put (.slice a1 y.1.length c1) (.slice a2 y.2.len c2))
    unfold putN at NF HO
    clear hx B3 S3 R1 R2 N3 hy R3
    go_wp2_with fail
    refine bodyPost_ret (v := .agg #[.slice a1 y.1.length c1, .slice a2 y.2.len c2]) ?_ rfl ?_
    · exact resReadFac NF.out rfl
    · exact HO.out (by simp; omega)

set_option maxHeartbeats 2000000 in
set_option maxRecDepth 100000 in
theorem fac_knows (g : Nat) (ao : Option Addr) (cap : Nat) (ts r : List Tk) (sz : Nat) (w : World) (h : RS w g ao cap ts r sz) (hl : ts.length < 4294967281) (hw : wordR r = [107, 110, 111, 119, 115]) :
    Calls Try.prog 94 #[.pointer (some ⟨g, 0, none⟩)] w fun e w' => OutG (fun y l => y = (l, .nil)) (takesR [[107, 110, 111, 119, 115], w_NAME] r) g ao cap ts sz w e w' := by
  have HW : Hid (∀ W, RS W g ao cap ts r sz → Calls Try.prog 72 #[.pointer (some ⟨g, 0, none⟩)] W fun e w' => e = .returned (.string ⟨([107, 110, 111, 119, 115] : List UInt8).toArray⟩) ∧ Below W.heap.size W w') := fun W a => by
    have := word_any g ao cap ts r sz W a; rwa [hw] at this
  have hgw := h.lt
  have R0 := hide (RN.new h (.slice none 0 0) (.slice none 0 0) 51)
  have HL := hide hl
  clear h hw hl
  go_enter Try.func94, Try.ntmps94
  go_upto_region 1 with fail
  obtain ⟨W0, hW0⟩ : ∃ x, x = w.alloc (Obj.cells #[.slice none 0 0, .slice none 0 0] 51) := ⟨_, rfl⟩
  rw [← hW0] at R0 ⊢
  clear hW0
  go_wp2_with fail
  refine (HW.out _ R0.out.rs).mono ?_
  rintro e w1 ⟨rfl, b1⟩
  have R1 := hide (R0.out.below b1)
  clear b1 R0 HW
  have hml := R1.out.nb.lt
  have hsw := R1.out.bt.size
  go_wp2_with fail
  have R2 := hide (fun o => R1.out.alloc o)
  refine (leaf_any [[107, 110, 111, 119, 115], w_NAME] w1.heap.size g ao cap ts r sz _ (R2.out _).rs (lits_new w1 [[107, 110, 111, 119, 115], w_NAME] 9) (by omega) (by simp) (by decide) HL.out).mono ?_
  rintro e w3 ⟨B3, h3⟩
  have hs3 := B3.size
  cases hx : takesR [[107, 110, 111, 119, 115], w_NAME] r with
  | bad r' =>
    rw [hx] at h3
    obtain ⟨rfl, S3⟩ := h3
    have R3 := hide ((R2.out _).but hgw B3 S3)
    have HX := hide hx
    clear hx B3 S3 R1 R2
    go_wp2_with fail
    exact ⟨rfl, OutG.isBad HX.out R3.out.bt R3.out.rs⟩
  | ok l r' =>
    rw [hx] at h3
    obtain ⟨y, a1, c1, a2, c2, rfl, N3, hy, S3⟩ := h3
    have R3 := hide ((R2.out _).but hgw B3 S3)
    have HO := hide (fun hm => R3.out.out (Sh := fun y l => y = (l, .nil)) (c1 := c1) (c2 := c2) hgw hx N3 hm (by simp; omega) hy)
    have x0 := R3.out.nb.c0
    have x1 := R3.out.nb.c1
    have y0 := R3.out.nb.f0
    have y1 := R3.out.nb.f1
    have hml3 := R3.out.nb.lt
    have NF := hide (R3.out.nb.put (.slice a1 y.1.length c1) (.slice a2 y.2.len c2))
    unfold putN at NF HO
    clear hx B3 S3 R1 R2 N3 hy R3
    go_wp2_with fail
    refine bodyPost_ret (v := .agg #[.slice a1 y.1.length c1, .slice a2 y.2.len c2]) ?_ rfl ?_
    · exact resReadFac NF.out rfl
    · exact HO.out (by simp; omega)

set_option maxHeartbeats 2000000 in
set_option maxRecDepth 100000 in
theorem fac_stolen (g : Nat) (ao : Option Addr) (cap : Nat) (ts r : List Tk) (sz : Nat) (w : World) (h : RS w g ao cap ts r sz) (hl : ts.length < 4294967281) (hw : wordR r = [115, 116, 111, 108, 101, 110]) :
    Calls Try.prog 94 #[.pointer (some ⟨g, 0, none⟩)] w fun e w' => OutG (fun y l => y = (l, .nil)) (takesR [[115, 116, 111, 108, 101, 110], w_NAME] r) g ao cap ts sz w e w' := by
  have HW : Hid (∀ W, RS W g ao cap ts r sz → Calls Try.prog 72 #[.pointer (some ⟨g, 0, none⟩)] W fun e w' => e = .returned (.string ⟨([115, 116, 111, 108, 101, 110] : List UInt8).toArray⟩) ∧ Below W.heap.size W w') := fun W a => by
    have := word_any g ao cap ts r sz W a; rwa [hw] at this
  have hgw := h.lt
  have R0 := hide (RN.new h (.slice none 0 0) (.slice none 0 0) 51)
  have HL := hide hl
  clear h hw hl
  go_enter Try.func94, Try.ntmps94
  go_upto_region 1 with fail
  obtain ⟨W0, hW0⟩ : ∃ x, x = w.alloc (Obj.cells #[.slice none 0 0, .slice none 0 0] 51) := ⟨_, rfl⟩
  rw [← hW0] at R0 ⊢
  clear hW0
  go_wp2_with fail
  refine (HW.out _ R0.out.rs).mono ?_
  rintro e w1 ⟨rfl, b1⟩
  have R1 := hide (R0.out.below b1)
  clear b1 R0 HW
  have hml := R1.out.nb.lt
  have hsw := R1.out.bt.size
  go_wp2_with fail
  have R2 := hide (fun o => R1.out.alloc o)
  refine (leaf_any [[115, 116, 111, 108, 101, 110], w_NAME] w1.heap.size g ao cap ts r sz _ (R2.out _).rs (lits_new w1 [[115, 116, 111, 108, 101, 110], w_NAME] 9) (by omega) (by simp) (by decide) HL.out).mono ?_
  rintro e w3 ⟨B3, h3⟩
  have hs3 := B3.size
  cases hx : takesR [[115, 116, 111, 108, 101, 110], w_NAME] r with
  | bad r' =>
    rw [hx] at h3
    obtain ⟨rfl, S3⟩ := h3
    have R3 := hide ((R2.out _).but hgw B3 S3)
    have HX := hide hx
    clear hx B3 S3 R1 R2
    go_wp2_with fail
    exact ⟨rfl, OutG.isBad HX.out R3.out.bt R3.out.rs⟩
  | ok l r' =>
    rw [hx] at h3
    obtain ⟨y, a1, c1, a2, c2, rfl, N3, hy, S3⟩ := h3
    have R3 := hide ((R2.out _).but hgw B3 S3)
    have HO := hide (fun hm => R3.out.out (Sh := fun y l => y = (l, .nil)) (c1 := c1) (c2 := c2) hgw hx N3 hm (by simp; omega) hy)
    have x0 := R3.out.nb.c0
    have x1 := R3.out.nb.c1
    have y0 := R3.out.nb.f0
    have y1 := R3.out.nb.f1
    have hml3 := R3.out.nb.lt
    have NF := hide (R3.out.nb.put (.slice a1 y.1.length c1) (.slice a2 y.2.len c2))
    unfold putN at NF HO
    clear hx B3 S3 R1 R2 N3 hy R3
    go_wp2_with fail
    refine bodyPost_ret (v := .agg #[.slice a1 y.1.length c1, .slice a2 y.2.len c2]) ?_ rfl ?_
    · exact resReadFac NF.out rfl
    · exact HO.out (by simp; omega)

set_option maxHeartbeats 2000000 in
set_option maxRecDepth 100000 in
theorem fac_ran (g : Nat) (ao : Option Addr) (cap : Nat) (ts r : List Tk) (sz : Nat) (w : World) (h : RS w g ao cap ts r sz) (hl : ts.length < 4294967281) (hw : wordR r = [114, 97, 110]) :
    Calls Try.prog 94 #[.pointer (some ⟨g, 0, none⟩)] w fun e w' => OutG (fun y l => y = (l, .nil)) (takesR [[114, 97, 110], w_NAME] r) g ao cap ts sz w e w' := by
  have HW : Hid (∀ W, RS W g ao cap ts r sz → Calls Try.prog 72 #[.pointer (some ⟨g, 0, none⟩)] W fun e w' => e = .returned (.string ⟨([114, 97, 110] : List UInt8).toArray⟩) ∧ Below W.heap.size W w') := fun W a => by
    have := word_any g ao cap ts r sz W a; rwa [hw] at this
  have hgw := h.lt
  have R0 := hide (RN.new h (.slice none 0 0) (.slice none 0 0) 51)
  have HL := hide hl
  clear h hw hl
  go_enter Try.func94, Try.ntmps94
  go_upto_region 1 with fail
  obtain ⟨W0, hW0⟩ : ∃ x, x = w.alloc (Obj.cells #[.slice none 0 0, .slice none 0 0] 51) := ⟨_, rfl⟩
  rw [← hW0] at R0 ⊢
  clear hW0
  go_wp2_with fail
  refine (HW.out _ R0.out.rs).mono ?_
  rintro e w1 ⟨rfl, b1⟩
  have R1 := hide (R0.out.below b1)
  clear b1 R0 HW
  have hml := R1.out.nb.lt
  have hsw := R1.out.bt.size
  go_wp2_with fail
  have R2 := hide (fun o => R1.out.alloc o)
  refine (leaf_any [[114, 97, 110], w_NAME] w1.heap.size g ao cap ts r sz _ (R2.out _).rs (lits_new w1 [[114, 97, 110], w_NAME] 9) (by omega) (by simp) (by decide) HL.out).mono ?_
  rintro e w3 ⟨B3, h3⟩
  have hs3 := B3.size
  cases hx : takesR [[114, 97, 110], w_NAME] r with
  | bad r' =>
    rw [hx] at h3
    obtain ⟨rfl, S3⟩ := h3
    have R3 := hide ((R2.out _).but hgw B3 S3)
    have HX := hide hx
    clear hx B3 S3 R1 R2
    go_wp2_with fail
    exact ⟨rfl, OutG.isBad HX.out R3.out.bt R3.out.rs⟩
  | ok l r' =>
    rw [hx] at h3
    obtain ⟨y, a1, c1, a2, c2, rfl, N3, hy, S3⟩ := h3
    have R3 := hide ((R2.out _).but hgw B3 S3)
    have HO := hide (fun hm => R3.out.out (Sh := fun y l => y = (l, .nil)) (c1 := c1) (c2 := c2) hgw hx N3 hm (by simp; omega) hy)
    have x0 := R3.out.nb.c0
    have x1 := R3.out.nb.c1
    have y0 := R3.out.nb.f0
    have y1 := R3.out.nb.f1
    have hml3 := R3.out.nb.lt
    have NF := hide (R3.out.nb.put (.slice a1 y.1.length c1) (.slice a2 y.2.len c2))
    unfold putN at NF HO
    clear hx B3 S3 R1 R2 N3 hy R3
    go_wp2_with fail
    refine bodyPost_ret (v := .agg #[.slice a1 y.1.length c1, .slice a2 y.2.len c2]) ?_ rfl ?_
    · exact resReadFac NF.out rfl
    · exact HO.out (by simp; omega)
/-- What is told of a word of a formula. -/
theorem rel_un (n : Nat) {ts : List Tk} (h : TokOk ts) {w : List UInt8} (hw : wordR ts = w) (hm : words5.contains w = true) : RelR (fun l f => ShF (l, .nil) f) (takesR [w, w_NAME] ts) (facF (n + 1) ts) := by
  rw [List.contains_iff_mem] at hm
  have hl : (1 < w.length ∧ plainW w = true) ∧ (w == w_not_) = false := (by decide : ∀ w ∈ words5, (1 < w.length ∧ plainW w = true) ∧ (w == w_not_) = false) w hm
  have hpl : isT w_lpa ts = false := by
    obtain ⟨t, r, rfl, hk, ht⟩ := wordR_head (by omega) hw
    rw [isT_lit]
    unfold litS
    have : (t.text == w_lpa) = false := beq_eq_false_iff_ne.2 (fun e => by rw [ht] at e; rw [e] at hl; exact absurd hl.1.1 (by decide))
    simp [this]
  have h5 : word5 ts = true := by
    unfold word5
    rw [any_word (by decide) h, hw, List.any_eq_true]
    exact ⟨w, hm, by simp⟩
  have hf : facF (n + 1) ts = (kindR 1 ts.tail).map fun t => .un (headText ts) t.text t.at' := by
    rw [facF_succ, isT_word (by decide) h, hw, hl.2, hpl, h5]; rfl
  obtain ⟨t, r, rfl, hk, ht⟩ := wordR_head (by omega) hw
  rw [hf, takesR_word hl.1.2 hl.1.1 _ h, need_word hk ht]
  simp only [takesR_kind (k := 1) (by decide) fit_name, ok_thenq, List.headD_cons, List.tail_cons, map_thenq, then_thenq]
  refine RelR.bind fun t2 r2 h2 => ?_
  obtain ⟨rfl, hk2⟩ := kind_tok h2
  have h3 := (h.tail t2 List.mem_cons_self).2.2 hk2
  exact RelR.ok ⟨t, t2, rfl, hk, rfl, hk2, rfl, rfl, by show t.text ∈ words5; rw [ht]; exact hm, h3.1, h3.2⟩
theorem fac_noword (n : Nat) {ts : List Tk} (h : TokOk ts) (hn : ∀ x ∈ w_not_ :: words5, (wordR ts == x) = false) : facF (n + 1) ts = if isT w_lpa ts then (forF n ts.tail).then fun a r => (needR w_rpa r).map fun _ => a else .bad ts := by
  have h5 : word5 ts = false := by
    unfold word5
    rw [any_word (by decide) h, List.any_eq_false]
    intro x hx
    rw [hn x (List.mem_cons_of_mem _ hx)]; decide
  rw [facF_succ, isT_word (by decide) h, hn w_not_ List.mem_cons_self, h5]
  rfl
theorem take_sign {w : List UInt8} (hp : plainW w = true) (hl : w.length = 1) {r : List Tk} (h : TokOk r) : takesR [w] r = (needR w r).map fun _ => [] := by
  rw [takesR_sign hp hl _ h, map_thenq]
  rfl
set_option maxHeartbeats 2000000 in
set_option maxRecDepth 100000 in
theorem fac_notT (n : Nat) (IF : FacT n) (g : Nat) (ao : Option Addr) (cap : Nat) (ts r : List Tk) (sz : Nat) (w : World) (h : RS w g ao cap ts r sz) (ht : TokOk ts) (hl : ts.length < 4294967281) (hf : 3 * r.length + 1 ≤ n + 1) (hw : wordR r = w_not_) :
    Calls Try.prog 94 #[.pointer (some ⟨g, 0, none⟩)] w fun e w' => OutG ShF (facF (n + 1) r) g ao cap ts sz w e w' := by
  have HW : Hid (∀ W, RS W g ao cap ts r sz → Calls Try.prog 72 #[.pointer (some ⟨g, 0, none⟩)] W fun e w' => e = .returned (.string ⟨#[110, 111, 116]⟩) ∧ Below W.heap.size W w') := fun W a => by
    have := word_any g ao cap ts r sz W a; rwa [hw] at this
  have hq : isT w_not_ r = true := by rw [isT_word (by decide) (h.tok ht), hw]; decide
  obtain ⟨t, hr', hk, htx, htk⟩ := take_one (by decide) (by decide) (h.tok ht) hq
  have HE : Hid (facF (n + 1) r = (facF n r.tail).map .no) := by unfold Hid; rw [facF_succ, if_pos hq]
  have hlen := isT_len hq
  have HK := hide hk
  have HTX := hide htx
  have HTK := hide htk
  have HFu : Hid (3 * r.tail.length + 1 ≤ n) := by unfold Hid; omega
  have HIF := hide (fun W (a : RS W g ao cap ts r.tail sz) => IF g ao cap ts r.tail sz W a ht hl HFu.out)
  have hgw := h.lt
  have R0 := hide (RN.new h (.slice none 0 0) (.slice none 0 0) 51)
  have HL := hide hl
  clear h hw hl hq hr' hk htx htk hf ht IF hlen HFu
  go_enter Try.func94, Try.ntmps94
  go_upto_region 1 with fail
  obtain ⟨W0, hW0⟩ : ∃ x, x = w.alloc (Obj.cells #[.slice none 0 0, .slice none 0 0] 51) := ⟨_, rfl⟩
  rw [← hW0] at R0 ⊢
  clear hW0
  go_wp2_with fail
  refine (HW.out _ R0.out.rs).mono ?_
  rintro e w1 ⟨rfl, b1⟩
  have R1 := hide (R0.out.below b1)
  clear b1 R0 HW
  have hml := R1.out.nb.lt
  have hsw := R1.out.bt.size
  go_wp2_with fail
  have R2 := hide (fun o => R1.out.alloc o)
  refine (leaf_any [w_not_] w1.heap.size g ao cap ts r sz _ (R2.out _).rs (lits_new w1 [w_not_] 9) (by omega) (by simp) (by decide) HL.out).mono ?_
  rintro e w3 ⟨B3, h3⟩
  rw [HTK.out] at h3
  obtain ⟨yt, b1, d1, b2, d2, he, N3, hyt, S3⟩ := h3
  subst hyt
  replace he : e = .returned (.agg #[.slice b1 1 d1, .slice b2 0 d2]) := he
  subst he
  have hs3 : w1.heap.size + 1 ≤ w3.heap.size := by simpa using B3.size
  have R3 := hide ((R2.out _).but hgw B3 S3)
  have N3 : Hid (NA w3 (In (w1.heap.size + 1) w3.heap.size) b1 b2 ([t], .nil)) := by unfold Hid; simpa using N3
  clear B3 S3 R1 R2
  go_wp2_with fail
  obtain ⟨W4, hW4⟩ : ∃ x, x = w3.alloc (Obj.cells #[.slice b1 1 d1, .slice b2 0 d2] 51) := ⟨_, rfl⟩
  have b4 : Below w3.heap.size w3 W4 := by rw [hW4]; exact (Below.refl _ _).alloc (Nat.le_refl _) _
  have M4 : Hid (NB W4 w3.heap.size (.slice b1 1 d1) (.slice b2 0 d2)) := by unfold Hid; rw [hW4]; exact NB.new _ _ _ _
  have R4 := hide (R3.out.below b4)
  have N4 : Hid (NA W4 (In (w1.heap.size + 1) w3.heap.size) b1 b2 ([t], .nil)) := N3.out.keep (KeptIn.below b4 (Nat.le_refl _) _)
  rw [← hW4]
  clear hW4 b4 R3 N3
  have hm4 := M4.out.lt
  have hmg : g < w3.heap.size := by omega
  refine (HIF.out _ R4.out.rs).mono ?_
  rintro e w5 ⟨B5, h5⟩
  have hs5 := B5.size
  cases hx : facF n r.tail with
  | bad r' =>
    rw [hx] at h5
    obtain ⟨rfl, S5⟩ := h5
    have R5 := hide (R4.out.but hgw B5 S5)
    have HX : Hid (facF (n + 1) r = .bad r') := by unfold Hid; rw [HE.out, hx]; rfl
    clear hx B5 S5 R4 HE N4 M4
    go_wp2_with fail
    exact ⟨rfl, OutG.isBad HX.out R5.out.bt R5.out.rs⟩
  | ok f r' =>
    rw [hx] at h5
    obtain ⟨y, a1, c1, a2, c2, rfl, N5, hy, S5⟩ := h5
    have HX : Hid (facF (n + 1) r = .ok (.no f) r') := by unfold Hid; rw [HE.out, hx]; rfl
    have bb : Below w5.heap.size w5 (w5.alloc (Obj.cells #[.slice a1 y.1.length c1, .slice a2 y.2.len c2] 51)) := (Below.refl _ _).alloc (Nat.le_refl _) _
    obtain ⟨W6, hW6⟩ : ∃ x, x = w5.alloc (Obj.cells #[.slice a1 y.1.length c1, .slice a2 y.2.len c2] 51) := ⟨_, rfl⟩
    rw [← hW6] at bb
    have R6 := hide ((R4.out.but hgw B5 S5).below bb)
    have M6 := hide ((M4.out.but B5 (by omega)).below bb)
    have N6 : Hid (NA W6 (In (w1.heap.size + 1) w3.heap.size) b1 b2 ([t], .nil)) := (N4.out.keep (KeptIn.but B5 (by omega) (by omega))).keep (KeptIn.below bb (by omega) _)
    have N6y : Hid (NA W6 (In W4.heap.size w5.heap.size) a1 a2 y) := N5.keep (KeptIn.below bb (Nat.le_refl _) _)
    have Q6 : Hid (NB W6 w5.heap.size (.slice a1 y.1.length c1) (.slice a2 y.2.len c2)) := by unfold Hid; rw [hW6]; exact NB.new _ _ _ _
    have HY := hide hy
    have HW6 := hide hW6
    have x1 := M6.out.c1
    have u1 := M6.out.f1
    have x0 := M6.out.c0
    have hm6 := M6.out.lt
    rw [hW6] at x1 u1 x0
    clear hx B5 S5 R4 HE N4 M4 N5 hy bb hW6
    go_upto_region 10 with fail
    rw [← HW6.out]
    obtain ⟨W7, hW7⟩ : ∃ x, x = W6.setCell ⟨w3.heap.size, 1, none⟩ (.slice (some ⟨w5.heap.size, 0, none⟩) 1 1) := ⟨_, rfl⟩
    have s7 : W7.heap.size = W6.heap.size := by rw [hW7, size_set]
    have hk7 : ∀ (K : Nat → Prop), ¬ K w3.heap.size → KeptIn K W6 W7 := fun K hK => by rw [hW7]; exact KeptIn.setK hK
    have M7 : Hid (NB W7 w3.heap.size (.slice b1 1 d1) (.slice (some ⟨w5.heap.size, 0, none⟩) 1 1)) := by unfold Hid; rw [hW7]; exact M6.out.set1 _
    have R7 : Hid (RN w W7 w.heap.size g ao cap ts r' sz (.slice none 0 0) (.slice none 0 0)) := by unfold Hid; rw [hW7]; exact R6.out.setO (by omega) hmg _
    rw [← hW7]
    have hq5 := Q6.out.lt
    have N7 : Hid (NA W7 (In (w1.heap.size + 1) W7.heap.size) b1 (some ⟨w5.heap.size, 0, none⟩) ([t], .cons y.1 y.2 .nil)) := by
      have hq7 : KeptIn (fun b => b = w5.heap.size) W6 W7 := hk7 _ (by show ¬ w3.heap.size = w5.heap.size; omega)
      refine ⟨((N6.out.keep (hk7 _ (fun k => by have := k.2; omega))).t).sub (fun b k => ⟨k.1, by have := k.2; omega⟩), .inr ⟨w5.heap.size, rfl, ⟨by omega, by omega⟩, ?_⟩⟩
      exact FC.one (c1 := c1) (c2 := c2) (x := y) ((N6y.out.keep (hk7 _ (fun k => by have := k.1; omega))).sub (fun b k => ⟨by have := k.1; omega, by have := k.2; omega⟩)) (hq7.cell rfl Q6.out.c0) (hq7.cell rfl Q6.out.c1)
    have HY7 : Hid (ShF ([t], .cons y.1 y.2 .nil) (.no f)) := ⟨t, y, rfl, HK.out, HTX.out, HY.out⟩
    clear hW7 R6 M6 N6 N6y Q6 HY HW6 x0 x1 u1 hk7
    have x0 := M7.out.c0
    have x1 := M7.out.c1
    have hm7 := M7.out.lt
    have z0 := R7.out.nb.c0
    have z1 := R7.out.nb.c1
    have u0 := R7.out.nb.f0
    have u1 := R7.out.nb.f1
    have hml7 := R7.out.nb.lt
    have NF := hide (R7.out.nb.put (.slice b1 1 d1) (.slice (some ⟨w5.heap.size, 0, none⟩) 1 1))
    have HO := hide (R7.out.outK (Sh := ShF) (c1 := d1) (c2 := 1) hgw HX.out N7.out (fun b k => ⟨by have := k.1; omega, k.2, by have := k.1; omega⟩) HY7.out)
    unfold putN at NF HO
    clear R7 N7 M7 HX HY7
    go_wp2_with fail
    refine bodyPost_ret (v := .agg #[.slice b1 1 d1, .slice (some ⟨w5.heap.size, 0, none⟩) 1 1]) ?_ rfl ?_
    · exact resReadFac NF.out rfl
    · exact HO.out
set_option maxHeartbeats 2000000 in
set_option maxRecDepth 100000 in
theorem fac_parenT (n : Nat) (IO : ForT n) (g : Nat) (ao : Option Addr) (cap : Nat) (ts r : List Tk) (sz : Nat) (w : World) (h : RS w g ao cap ts r sz) (ht : TokOk ts) (hl : ts.length < 4294967281) (hf : 3 * r.length + 1 ≤ n + 1) (hn : ∀ x ∈ w_not_ :: words5, (wordR r == x) = false) :
    Calls Try.prog 94 #[.pointer (some ⟨g, 0, none⟩)] w fun e w' => OutG ShF (facF (n + 1) r) g ao cap ts sz w e w' := by
  have HW := hide (fun W (a : RS W g ao cap ts r sz) => word_any g ao cap ts r sz W a)
  have HE := hide (fac_noword n (h.tok ht) hn)
  have HTk := hide (take_sign (w := w_lpa) (by decide) (by decide) (h.tok ht))
  generalize wordR r = wd at *
  have e0 : (wd == [110, 111, 116]) = false := hn _ (by decide)
  have e1 : (wd == [99, 104, 97, 110, 103, 101, 100]) = false := hn _ (by decide)
  have e2 : (wd == [102, 111, 114, 103, 101, 100]) = false := hn _ (by decide)
  have e3 : (wd == [107, 110, 111, 119, 115]) = false := hn _ (by decide)
  have e4 : (wd == [115, 116, 111, 108, 101, 110]) = false := hn _ (by decide)
  have e5 : (wd == [114, 97, 110]) = false := hn _ (by decide)
  have hgw := h.lt
  have R0 := hide (RN.new h (.slice none 0 0) (.slice none 0 0) 51)
  have HL := hide hl
  have HT := hide ht
  have HF := hide hf
  have HIO := hide IO
  clear h hl hf ht IO hn
  go_enter Try.func94, Try.ntmps94
  go_upto_region 1 with fail
  obtain ⟨W0, hW0⟩ : ∃ x, x = w.alloc (Obj.cells #[.slice none 0 0, .slice none 0 0] 51) := ⟨_, rfl⟩
  rw [← hW0] at R0 ⊢
  clear hW0
  go_wp2_with fail
  refine (HW.out _ R0.out.rs).mono ?_
  rintro e w1 ⟨rfl, b1⟩
  have R1 := hide (R0.out.below b1)
  clear b1 R0 HW
  have hml := R1.out.nb.lt
  have hsw := R1.out.bt.size
  go_wp2_with fail
  have R2 := hide (fun o => R1.out.alloc o)
  refine (take_any [w_lpa] w1.heap.size g ao cap ts r sz _ (R2.out _).rs (lits_new w1 [w_lpa] 9) (by omega) (by simp) (by decide) HL.out).mono ?_
  rintro e w3 ⟨B3, h3⟩
  have hs3 : w1.heap.size + 1 ≤ w3.heap.size := by simpa using B3.size
  rw [HTk.out] at h3
  cases hq : isT w_lpa r with
  | false =>
    have hnd : needR w_lpa r = .bad r := by unfold needR; rw [hq]; rfl
    rw [hnd] at h3
    obtain ⟨rfl, S3⟩ := h3
    have R3 := hide ((R2.out _).but hgw B3 S3)
    have HX : Hid (facF (n + 1) r = .bad r) := by unfold Hid; rw [HE.out, hq]; rfl
    clear B3 S3 R1 R2 hq hnd
    go_wp2_with fail
    exact ⟨rfl, OutG.isBad HX.out R3.out.bt R3.out.rs⟩
  | true =>
    have hnd : needR w_lpa r = .ok () r.tail := by unfold needR; rw [hq]; rfl
    rw [hnd] at h3
    obtain ⟨k1, k2, rfl, T3, S3⟩ := h3
    have R3 := hide ((R2.out _).but hgw B3 S3)
    have hlen := isT_len hq
    have HX : Hid (facF (n + 1) r = (forF n r.tail).then fun a r => (needR w_rpa r).map fun _ => a) := by unfold Hid; rw [HE.out, hq]; rfl
    have HIF := hide (fun W (a : RS W g ao cap ts r.tail sz) => HIO.out g ao cap ts r.tail sz W a HT.out HL.out (by have := HF.out; omega))
    clear B3 S3 R1 R2 hq hnd HE HF HIO T3 HTk
    go_wp2_with fail
    refine (HIF.out _ R3.out.rs).mono ?_
    rintro e w5 ⟨B5, h5⟩
    have hs5 := B5.size
    cases hx : forF n r.tail with
    | bad r' =>
      rw [hx] at h5
      obtain ⟨rfl, S5⟩ := h5
      have R5 := hide (R3.out.but hgw B5 S5)
      have HX2 : Hid (facF (n + 1) r = .bad r') := by unfold Hid; rw [HX.out, hx]; rfl
      clear hx B5 S5 R3 HX HIF
      go_wp2_with fail
      exact ⟨rfl, OutG.isBad HX2.out R5.out.bt R5.out.rs⟩
    | ok f r' =>
      rw [hx] at h5
      obtain ⟨y, a1, c1, a2, c2, rfl, N5, hy, S5⟩ := h5
      have HX2 : Hid (facF (n + 1) r = (needR w_rpa r').map fun _ => f) := by unfold Hid; rw [HX.out, hx]; rfl
      have R5 := hide (R3.out.but hgw B5 S5)
      have N5 := hide N5
      have HY := hide hy
      clear hx B5 S5 R3 HX HIF hy
      go_upto_region 5 with fail
      obtain ⟨W6, hW6⟩ : ∃ x, x = w5.alloc (Obj.cells #[.slice a1 y.1.length c1, .slice a2 y.2.len c2] 51) := ⟨_, rfl⟩
      have b6 : Below w5.heap.size w5 W6 := by rw [hW6]; exact (Below.refl _ _).alloc (Nat.le_refl _) _
      have M6 : Hid (NB W6 w5.heap.size (.slice a1 y.1.length c1) (.slice a2 y.2.len c2)) := by unfold Hid; rw [hW6]; exact NB.new _ _ _ _
      have R6 := hide (R5.out.below b6)
      have N6 : Hid (NA W6 (In w3.heap.size w5.heap.size) a1 a2 y) := N5.out.keep (KeptIn.below b6 (Nat.le_refl _) _)
      rw [← hW6]
      have hm6 := M6.out.lt
      clear hW6 b6 R5 N5
      go_wp2_with fail
      have R7 := hide (fun o => R6.out.alloc o)
      refine (take_any [w_rpa] W6.heap.size g ao cap ts r' sz _ (R7.out _).rs (lits_new W6 [w_rpa] 9) (by omega) (by simp) (by decide) HL.out).mono ?_
      rintro e w8 ⟨B8, h8⟩
      have hs8 : W6.heap.size + 1 ≤ w8.heap.size := by simpa using B8.size
      have htk := take_sign (w := w_rpa) (by decide) (by decide) (R6.out.rs.tok HT.out)
      rw [htk] at h8
      cases hx : needR w_rpa r' with
      | bad r'' =>
        rw [hx] at h8
        obtain ⟨rfl, S8⟩ := h8
        have R8 := hide ((R7.out _).but hgw B8 S8)
        have HX3 : Hid (facF (n + 1) r = .bad r'') := by unfold Hid; rw [HX2.out, hx]; rfl
        clear hx B8 S8 R6 R7 HX2 htk N6 M6
        go_wp2_with fail
        exact ⟨rfl, OutG.isBad HX3.out R8.out.bt R8.out.rs⟩
      | ok u r'' =>
        rw [hx] at h8
        obtain ⟨j1, j2, rfl, T8, S8⟩ := h8
        have R8 := hide ((R7.out _).but hgw B8 S8)
        have HX3 : Hid (facF (n + 1) r = .ok f r'') := by unfold Hid; rw [HX2.out, hx]; rfl
        have ba : Below W6.heap.size W6 (W6.alloc (Obj.cells #[.string ⟨w_rpa.toArray⟩] 9)) := (Below.refl _ _).alloc (Nat.le_refl _) _
        have M8 := hide ((M6.out.below ba).but B8 (by omega))
        have N8 := hide ((N6.out.keep (KeptIn.below ba (by omega) _)).keep (KeptIn.but B8 (by omega) (by simp; omega)))
        clear hx B8 S8 R6 R7 HX2 htk N6 M6 T8 ba
        have x0 := M8.out.c0
        have x1 := M8.out.c1
        have hm8 := M8.out.lt
        have z0 := R8.out.nb.c0
        have z1 := R8.out.nb.c1
        have u0 := R8.out.nb.f0
        have u1 := R8.out.nb.f1
        have hml8 := R8.out.nb.lt
        have NF := hide (R8.out.nb.put (.slice a1 y.1.length c1) (.slice a2 y.2.len c2))
        have HO := hide (R8.out.outK (Sh := ShF) (c1 := c1) (c2 := c2) hgw HX3.out N8.out (fun b k => ⟨by have := k.1; omega, by have := k.2; omega, by have := k.1; omega⟩) HY.out)
        unfold putN at NF HO
        clear R8 N8 M8 HX3 HY
        go_wp2_with fail
        refine bodyPost_ret (v := .agg #[.slice a1 y.1.length c1, .slice a2 y.2.len c2]) ?_ rfl ?_
        · exact resReadFac NF.out rfl
        · exact HO.out

theorem fac_stepT (n : Nat) (IF : FacT n) (IO : ForT n) : FacT (n + 1) := by
  intro g ao cap ts r sz w h ht hl hf
  by_cases qn : wordR r = w_not_
  · exact fac_notT n IF g ao cap ts r sz w h ht hl hf qn
  · have hn := qn
    by_cases q_changed : wordR r = [99, 104, 97, 110, 103, 101, 100]
    · exact (fac_changed g ao cap ts r sz w h hl q_changed).mono fun e w' o => o.rel (RelR.imp (rel_un n (h.tok ht) q_changed (by decide)) fun _ _ hs z hz => by rw [hz]; exact hs)
    by_cases q_forged : wordR r = [102, 111, 114, 103, 101, 100]
    · exact (fac_forged g ao cap ts r sz w h hl q_forged).mono fun e w' o => o.rel (RelR.imp (rel_un n (h.tok ht) q_forged (by decide)) fun _ _ hs z hz => by rw [hz]; exact hs)
    by_cases q_knows : wordR r = [107, 110, 111, 119, 115]
    · exact (fac_knows g ao cap ts r sz w h hl q_knows).mono fun e w' o => o.rel (RelR.imp (rel_un n (h.tok ht) q_knows (by decide)) fun _ _ hs z hz => by rw [hz]; exact hs)
    by_cases q_stolen : wordR r = [115, 116, 111, 108, 101, 110]
    · exact (fac_stolen g ao cap ts r sz w h hl q_stolen).mono fun e w' o => o.rel (RelR.imp (rel_un n (h.tok ht) q_stolen (by decide)) fun _ _ hs z hz => by rw [hz]; exact hs)
    by_cases q_ran : wordR r = [114, 97, 110]
    · exact (fac_ran g ao cap ts r sz w h hl q_ran).mono fun e w' o => o.rel (RelR.imp (rel_un n (h.tok ht) q_ran (by decide)) fun _ _ hs z hz => by rw [hz]; exact hs)
    refine fac_parenT n IO g ao cap ts r sz w h ht hl hf fun x hx => beq_eq_false_iff_ne.2 fun e => ?_
    simp [words5] at hx
    rcases hx with rfl | rfl | rfl | rfl | rfl | rfl
    all_goals contradiction
theorem parse_allT : ∀ n, FacT n ∧ TerT n ∧ ForT n := by
  intro n
  induction n using Nat.strongRecOn with
  | ind n ih =>
    cases n with
    | zero => exact ⟨fun _ _ _ _ _ _ _ _ _ _ hf => absurd hf (by omega), fun _ _ _ _ _ _ _ _ _ _ hf => absurd hf (by omega), fun _ _ _ _ _ _ _ _ _ _ hf => absurd hf (by omega)⟩
    | succ n => exact ⟨fac_stepT n (ih n (Nat.lt_succ_self _)).1 (ih n (Nat.lt_succ_self _)).2.2, ter_stepT n (fun m hm => (ih m (Nat.lt_succ_of_le hm)).1), for_stepT n (fun m hm => (ih m (Nat.lt_succ_of_le hm)).2.1)⟩
theorem formula_any (g : Nat) (ao : Option Addr) (cap : Nat) (ts r : List Tk) (sz : Nat) (w : World) (h : RS w g ao cap ts r sz) (ht : TokOk ts) (hl : ts.length < 4294967281) :
    Calls Try.prog 87 #[.pointer (some ⟨g, 0, none⟩)] w fun e w' => OutG ShF (forS r) g ao cap ts sz w e w' := (parse_allT (3 * r.length + 3)).2.2 g ao cap ts r sz w h ht hl (Nat.le_refl _)
end Go.Proofs.Ytcmmjmgbanafgaa

/- The walk over tree.reader's property. -/
namespace Go.Proofs.Ytcmmjmgbanafgaa
open Go.RowKit Go.Proofs.Url Go.Proofs.Url.Syn

theorem resReadProp {W : World} {m : Nat} {v1 v2 : Value} {tmps : Array Value} (h : NB W m v1 v2) (h2 : tmps[2]?.getD undef = .pointer (some ⟨m, 0, none⟩)) :
    (results Try.f75 tmps).run Try.prog W = .ok (.agg #[v1, v2]) W := by
  obtain ⟨c0, c1, _⟩ := h
  simp [results, Try.results75, go_sem, h2, c0, c1]
set_option maxHeartbeats 2000000 in
set_option maxRecDepth 100000 in
theorem property_any (g : Nat) (ao : Option Addr) (cap : Nat) (ts r : List Tk) (sz : Nat) (w : World) (h : RS w g ao cap ts r sz) (ht : TokOk ts) (hl : ts.length < 4294967281) (hw : wordR r = w_property) :
    Calls Try.prog 75 #[.pointer (some ⟨g, 0, none⟩)] w fun e w' => OutG ShI (itemR r) g ao cap ts sz w e w' := by
  have HH := hide (prop_head (h.tok ht) hw)
  have HIF := hide (fun r W (a : RS W g ao cap ts r sz) => formula_any g ao cap ts r sz W a ht hl)
  have hgw := h.lt
  have R0 := hide (RN.new h (.slice none 0 0) (.slice none 0 0) 51)
  have HL := hide hl
  have HT := hide ht
  clear h hw hl ht
  go_enter Try.func75, Try.ntmps75
  go_upto_region 1 with fail
  obtain ⟨W0, hW0⟩ : ∃ x, x = w.alloc (Obj.cells #[.slice none 0 0, .slice none 0 0] 51) := ⟨_, rfl⟩
  rw [← hW0] at R0 ⊢
  clear hW0
  have hml := R0.out.nb.lt
  have hsw := R0.out.bt.size
  go_wp2_with fail
  have R2 := hide (fun o => R0.out.alloc o)
  refine (leaf_any [w_property, w_NAME, w_eq] W0.heap.size g ao cap ts r sz _ (R2.out _).rs (lits_new W0 [w_property, w_NAME, w_eq] 9) (by omega) (by simp) (by decide) HL.out).mono ?_
  rintro e w3 ⟨B3, h3⟩
  have hs3 : W0.heap.size + 1 ≤ w3.heap.size := by simpa using B3.size
  cases hq : takesR [w_property, w_NAME, w_eq] r with
  | bad r' =>
    rw [hq] at h3
    obtain ⟨rfl, S3⟩ := h3
    have R3 := hide ((R2.out _).but hgw B3 S3)
    have HX := hide (HH.out.1 _ hq)
    clear B3 S3 R0 R2 hq HH
    go_wp2_with fail
    exact ⟨rfl, OutG.isBad HX.out R3.out.bt R3.out.rs⟩
  | ok l r1 =>
    rw [hq] at h3
    obtain ⟨yt, b1, n1, b2, d2, he, N3, hyt, S3⟩ := h3
    subst hyt
    obtain ⟨Y, hYa, hYs, hYe⟩ := HH.out.2 _ _ hq
    have HYs := hide hYs
    have HYe := hide hYe
    replace he : e = .returned (.agg #[.slice b1 l.length n1, .slice b2 0 d2]) := he
    subst he
    have R3 := hide ((R2.out _).but hgw B3 S3)
    have N3 : Hid (NA w3 (In (W0.heap.size + 1) w3.heap.size) b1 b2 (l, .nil)) := by unfold Hid; simpa using N3
    clear B3 S3 R0 R2 hq HH hYa hYs hYe
    go_upto_region 2 with fail
    obtain ⟨W4, hW4⟩ : ∃ x, x = w3.alloc (Obj.cells #[.slice b1 l.length n1, .slice b2 0 d2] 51) := ⟨_, rfl⟩
    have b4 : Below w3.heap.size w3 W4 := by rw [hW4]; exact (Below.refl _ _).alloc (Nat.le_refl _) _
    have M4 : Hid (NB W4 w3.heap.size (.slice b1 l.length n1) (.slice b2 0 d2)) := by unfold Hid; rw [hW4]; exact NB.new _ _ _ _
    have R4 := hide (R3.out.below b4)
    have N4 : Hid (NA W4 (In (W0.heap.size + 1) w3.heap.size) b1 b2 (l, .nil)) := N3.out.keep (KeptIn.below b4 (Nat.le_refl _) _)
    rw [← hW4]
    clear hW4 b4 R3 N3
    have hm4 := M4.out.lt
    have hmg : g < w3.heap.size := by omega
    go_wp2_with fail
    refine (HIF.out r1 _ R4.out.rs).mono ?_
    rintro e w5 ⟨B5, h5⟩
    have hs5 := B5.size
    cases hx : forS r1 with
    | bad r' =>
      rw [hx] at h5
      obtain ⟨rfl, S5⟩ := h5
      have R5 := hide (R4.out.but hgw B5 S5)
      have HX : Hid (itemR r = .bad r') := by unfold Hid; rw [HYe.out, hx]; rfl
      clear hx B5 S5 R4 HYe HYs N4 M4
      go_wp2_with fail
      exact ⟨rfl, OutG.isBad HX.out R5.out.bt R5.out.rs⟩
    | ok f r2 =>
      rw [hx] at h5
      obtain ⟨y, a1, c1, a2, c2, rfl, N5, hy, S5⟩ := h5
      have HX : Hid (itemR r = (needR w_semi r2).then fun _ r'' => .ok { Y with f := some f } r'') := by unfold Hid; rw [HYe.out, hx]; rfl
      have bb : Below w5.heap.size w5 (w5.alloc (Obj.cells #[.slice a1 y.1.length c1, .slice a2 y.2.len c2] 51)) := (Below.refl _ _).alloc (Nat.le_refl _) _
      obtain ⟨W6, hW6⟩ : ∃ x, x = w5.alloc (Obj.cells #[.slice a1 y.1.length c1, .slice a2 y.2.len c2] 51) := ⟨_, rfl⟩
      rw [← hW6] at bb
      have R6 := hide ((R4.out.but hgw B5 S5).below bb)
      have M6 := hide ((M4.out.but B5 (by omega)).below bb)
      have N6 : Hid (NA W6 (In (W0.heap.size + 1) w3.heap.size) b1 b2 (l, .nil)) := (N4.out.keep (KeptIn.but B5 (by omega) (by omega))).keep (KeptIn.below bb (by omega) _)
      have N6y : Hid (NA W6 (In W4.heap.size w5.heap.size) a1 a2 y) := N5.keep (KeptIn.below bb (Nat.le_refl _) _)
      have Q6 : Hid (NB W6 w5.heap.size (.slice a1 y.1.length c1) (.slice a2 y.2.len c2)) := by unfold Hid; rw [hW6]; exact NB.new _ _ _ _
      have HY := hide hy
      have HW6 := hide hW6
      have x1 := M6.out.c1
      have u1 := M6.out.f1
      have x0 := M6.out.c0
      have hm6 := M6.out.lt
      rw [hW6] at x1 u1 x0
      clear hx B5 S5 R4 HYe N4 M4 N5 hy bb hW6
      go_upto_region 3 with fail
      rw [← HW6.out]
      obtain ⟨W7, hW7⟩ : ∃ x, x = W6.setCell ⟨w3.heap.size, 1, none⟩ (.slice (some ⟨w5.heap.size, 0, none⟩) 1 1) := ⟨_, rfl⟩
      have s7 : W7.heap.size = W6.heap.size := by rw [hW7, size_set]
      have hk7 : ∀ (K : Nat → Prop), ¬ K w3.heap.size → KeptIn K W6 W7 := fun K hK => by rw [hW7]; exact KeptIn.setK hK
      have M7 : Hid (NB W7 w3.heap.size (.slice b1 l.length n1) (.slice (some ⟨w5.heap.size, 0, none⟩) 1 1)) := by unfold Hid; rw [hW7]; exact M6.out.set1 _
      have R7 : Hid (RN w W7 w.heap.size g ao cap ts r2 sz (.slice none 0 0) (.slice none 0 0)) := by unfold Hid; rw [hW7]; exact R6.out.setO (by omega) hmg _
      rw [← hW7]
      have hq5 := Q6.out.lt
      have N7 : Hid (NA W7 (KC w.heap.size w3.heap.size W7) b1 (some ⟨w5.heap.size, 0, none⟩) (l, .cons y.1 y.2 .nil)) := by
        have hq7 : KeptIn (fun b => b = w5.heap.size) W6 W7 := hk7 _ (by show ¬ w3.heap.size = w5.heap.size; omega)
        refine ⟨((N6.out.keep (hk7 _ (fun k => by have := k.2; omega))).t).sub (fun b k => ⟨by have := k.1; omega, by have := k.2; omega, by have := k.2; omega⟩), .inr ⟨w5.heap.size, rfl, ⟨by omega, by omega, by omega⟩, ?_⟩⟩
        exact FC.one (c1 := c1) (c2 := c2) (x := y) ((N6y.out.keep (hk7 _ (fun k => by have := k.1; omega))).sub (fun b k => ⟨by have := k.1; omega, by have := k.1; omega, by have := k.2; omega⟩)) (hq7.cell rfl Q6.out.c0) (hq7.cell rfl Q6.out.c1)
      have HY7 : Hid (ShI (l, .cons y.1 y.2 .nil) { Y with f := some f }) := HYs.out y f HY.out
      have hs7 : w3.heap.size < W7.heap.size ∧ W4.heap.size ≤ W7.heap.size := by omega
      clear hW7 R6 M6 N6 N6y Q6 HY HYs HW6 x0 x1 u1 hk7 s7
      have hm7 := M7.out.lt
      have hz7 := R7.out.nb.lt
      go_wp2_with fail
      have R8 := hide (fun o => R7.out.alloc o)
      refine (take_any [w_semi] W7.heap.size g ao cap ts r2 sz _ (R8.out _).rs (lits_new W7 [w_semi] 9) (by omega) (by simp) (by decide) HL.out).mono ?_
      rintro e w8 ⟨B8, h8⟩
      have hs8 : W7.heap.size + 1 ≤ w8.heap.size := by simpa using B8.size
      have htk := take_sign (w := w_semi) (by decide) (by decide) (R7.out.rs.tok HT.out)
      rw [htk] at h8
      cases hx : needR w_semi r2 with
      | bad r'' =>
        rw [hx] at h8
        obtain ⟨rfl, S8⟩ := h8
        have RF := hide ((R8.out _).but hgw B8 S8)
        have HX3 : Hid (itemR r = .bad r'') := by unfold Hid; rw [HX.out, hx]; rfl
        clear hx B8 S8 R7 R8 HX htk N7 M7 HY7
        go_wp2_with fail
        exact ⟨rfl, OutG.isBad HX3.out RF.out.bt RF.out.rs⟩
      | ok u r'' =>
        rw [hx] at h8
        obtain ⟨j1, j2, rfl, T8, S8⟩ := h8
        have RF := hide ((R8.out _).but hgw B8 S8)
        have HX3 : Hid (itemR r = .ok { Y with f := some f } r'') := by unfold Hid; rw [HX.out, hx]; rfl
        have ba : Below W7.heap.size W7 (W7.alloc (Obj.cells #[.string ⟨w_semi.toArray⟩] 9)) := (Below.refl _ _).alloc (Nat.le_refl _) _
        have M8 := hide ((M7.out.below ba).but B8 (by omega))
        have N8 : Hid (NA w8 (KC w.heap.size w3.heap.size w8) b1 (some ⟨w5.heap.size, 0, none⟩) (l, .cons y.1 y.2 .nil)) := (N7.out.belowC ba).butC hgw B8
        clear hx B8 S8 R7 R8 HX htk N7 M7 T8 ba
        have x0 := M8.out.c0
        have x1 := M8.out.c1
        have hm8 := M8.out.lt
        have z0 := RF.out.nb.c0
        have z1 := RF.out.nb.c1
        have u0 := RF.out.nb.f0
        have u1 := RF.out.nb.f1
        have hml8 := RF.out.nb.lt
        have NF := hide (RF.out.nb.put (.slice b1 l.length n1) (.slice (some ⟨w5.heap.size, 0, none⟩) 1 1))
        have HO := hide (RF.out.outK (Sh := ShI) (c1 := n1) (c2 := 1) hgw HX3.out N8.out (fun b k => ⟨by have := k.1; omega, k.2.2, by have := k.1; omega⟩) HY7.out)
        unfold putN at NF HO
        clear RF N8 M8 HX3 HY7
        go_wp2_with fail
        refine bodyPost_ret (v := .agg #[.slice b1 l.length n1, .slice (some ⟨w5.heap.size, 0, none⟩) 1 1]) ?_ rfl ?_
        · exact resReadProp NF.out rfl
        · exact HO.out
end Go.Proofs.Ytcmmjmgbanafgaa

/- The walk over tree.reader's endpoint. -/
namespace Go.Proofs.Url
open Syn
theorem attrs_succq (k : Nat) (ts : List Tk) : attrsF (k + 1) ts = if isT w_rbr ts then .ok [] ts else (semiR (attrR ts)).then fun a r => (attrsF k r).map fun l => a :: l := by
  rw [attrsF]
  split
  · rfl
  · rw [semi_then, then_thenq]
    congr 1; funext a r
    rw [then_thenq]
    congr 1
theorem attr_shortq {ts : List Tk} {a : Atr} {r : List Tk} (h : attrR ts = .ok a r) : r.length < ts.length := by
  have key : ∀ {k : Nat} {f : Tk → Atr}, (kindR k ts.tail).map f = .ok a r → r.length < ts.length := by
    intro k f h
    obtain ⟨t, h2, _⟩ := map_ok h
    obtain ⟨h3, _⟩ := kindR_ok h2
    cases ts with
    | nil => simp at h3
    | cons x xs => simp at h3; rw [h3]; simp; omega
  unfold attrR at h
  split at h
  · rename_i hs
    rw [List.any_eq_true] at hs
    obtain ⟨w, _, hw⟩ := hs
    cases h
    exact isT_len hw
  · split at h
    · exact key h
    · split at h
      · split at h
        · exact key h
        · exact key h
      · split at h
        · exact key h
        · cases h
theorem semi_short {ts : List Tk} {a : Atr} {r : List Tk} (h : semiR (attrR ts) = .ok a r) : r.length < ts.length := by
  rw [semi_then] at h
  obtain ⟨b, r1, h1, h2⟩ := then_ok h
  obtain ⟨u, r2, h3, h4⟩ := then_ok h2
  obtain ⟨h5, h6⟩ := needR_ok h3
  have := attr_shortq h1
  have := isT_len h5
  cases h4
  rw [h6]; omega
theorem shAs_snoc {ns : List Nd} {al : List Atr} {x : Nd} {a : Atr} (h : ShAs (Fo.ofL ns) al) (hx : ShA x a) : ShAs (Fo.ofL (ns ++ [x])) (al ++ [a]) := by
  induction ns generalizing al with
  | nil =>
    cases al with
    | nil => exact ⟨hx, trivial⟩
    | cons b al => exact h.elim
  | cons y ns ih =>
    cases al with
    | nil => exact h.elim
    | cons b al => exact ⟨h.1, ih h.2⟩
end Go.Proofs.Url
namespace Go.Proofs.Ytcmmjmgbanafgaa
open Go.RowKit Go.Proofs.Url Go.Proofs.Url.Syn

/-- A row of nodes by its cells. -/
def RowN (W : World) (K : Nat → Prop) : List Nd → List Value → Prop
  | [], xs => xs = []
  | x :: ns, xs => ∃ (a1 : Option Addr) (c1 : Nat) (a2 : Option Addr) (c2 : Nat) (ys : List Value), xs = .slice a1 x.1.length c1 :: .slice a2 x.2.len c2 :: ys ∧ NA W K a1 a2 x ∧ RowN W K ns ys
theorem RowN.keep {W W' : World} {K : Nat → Prop} (hk : KeptIn K W W') : ∀ {ns : List Nd} {xs : List Value}, RowN W K ns xs → RowN W' K ns xs
  | [], _, h => h
  | _ :: _, _, ⟨a1, c1, a2, c2, ys, e, hn, hr⟩ => ⟨a1, c1, a2, c2, ys, e, hn.keep hk, RowN.keep hk hr⟩
theorem RowN.sub {W : World} {K K' : Nat → Prop} (ha : ∀ b, K b → K' b) : ∀ {ns : List Nd} {xs : List Value}, RowN W K ns xs → RowN W K' ns xs
  | [], _, h => h
  | _ :: _, _, ⟨a1, c1, a2, c2, ys, e, hn, hr⟩ => ⟨a1, c1, a2, c2, ys, e, hn.sub ha, RowN.sub ha hr⟩
theorem RowN.snoc {W : World} {K : Nat → Prop} {x : Nd} {a1 a2 : Option Addr} {c1 c2 : Nat} (hx : NA W K a1 a2 x) : ∀ {ns : List Nd} {xs : List Value}, RowN W K ns xs → RowN W K (ns ++ [x]) (xs ++ [.slice a1 x.1.length c1, .slice a2 x.2.len c2])
  | [], _, h => by
    have h' : _ = [] := h
    subst h'
    exact ⟨a1, c1, a2, c2, [], rfl, hx, rfl⟩
  | _ :: _, _, ⟨b1, d1, b2, d2, ys, e, hn, hr⟩ => by
    subst e
    exact ⟨b1, d1, b2, d2, _, rfl, hn, RowN.snoc hx hr⟩
theorem RowN.fc {W : World} {K : Nat → Prop} {q : Nat} : ∀ {ns : List Nd} {xs : List Value} {k : Nat}, RowN W K ns xs → (∀ j v, xs[j]? = some v → W.cell? ⟨q, k * 2 + j, none⟩ = some v) → FC W K (Fo.ofL ns) q k
  | [], _, _, _, _ => trivial
  | x :: ns, _, k, ⟨a1, c1, a2, c2, ys, e, hn, hr⟩, hc => by
    subst e
    refine ⟨a1, c1, a2, c2, hc 0 _ rfl, hc 1 _ rfl, hn.t, hn.f, RowN.fc hr fun j v hj => ?_⟩
    have := hc (j + 2) v hj
    rwa [show (k + 1) * 2 + j = k * 2 + (j + 2) by omega]
theorem RowN.len {W : World} {K : Nat → Prop} : ∀ {ns : List Nd} {xs : List Value}, RowN W K ns xs → xs.length = ns.length * 2
  | [], _, h => by
    have h' : _ = [] := h
    subst h'; rfl
  | _ :: _, _, ⟨_, _, _, _, ys, e, _, hr⟩ => by
    subst e
    have := RowN.len hr
    simp; omega
theorem infoN : (Try.prog.info? 51).map (fun i => (i.zero, i.size, i.bytes)) = some (some (.agg #[.slice none 0 0, .slice none 0 0]), 2, 48) := by kernel_rfl
theorem owns_cells {w : World} {base : Nat} {e : TypeId} {ao : Option Addr} {n cap : Nat} {xs : List Value} (h : w.ownsRow base e 2 (.slice ao n cap) n xs) (hn : 0 < n) : ∃ q, ao = some ⟨q, 0, none⟩ ∧ base ≤ q ∧ q < w.heap.size ∧ ∀ j v, xs[j]? = some v → w.cell? ⟨q, j, none⟩ = some v := by
  rcases h.2 with ⟨hv, h0⟩ | ⟨g', cap', cur, hv, hg, hh, hn', hm, hsz, htk⟩
  · omega
  · simp only [Value.slice.injEq, true_and] at hv
    obtain ⟨rfl, rfl⟩ := hv
    have hlt : g' < w.heap.size := by
      rcases Nat.lt_or_ge g' w.heap.size with h | h
      · exact h
      · rw [Array.getElem?_eq_none h] at hh; cases hh
    refine ⟨g', rfl, hg, hlt, fun j v hj => ?_⟩
    have e : w.cell? ⟨g', j, none⟩ = cur[j]? := by simp [World.cell?, hh]
    rw [e]
    rw [← htk, List.getElem?_take] at hj
    split at hj
    · simpa using hj
    · cases hj
/-- The blocks of the nodes of a row that grows: not the row's own. -/
def KR (lo : Nat) (W : World) (ao : Option Addr) (b : Nat) : Prop := lo < b ∧ b < W.heap.size ∧ ao ≠ some ⟨b, 0, none⟩
theorem resReadEnd {W : World} {m : Nat} {v1 v2 : Value} {tmps : Array Value} (h : NB W m v1 v2) (h2 : tmps[2]?.getD undef = .pointer (some ⟨m, 0, none⟩)) :
    (results Try.f74 tmps).run Try.prog W = .ok (.agg #[v1, v2]) W := by
  obtain ⟨c0, c1, _⟩ := h
  simp [results, Try.results74, go_sem, h2, c0, c1]
theorem RN.belowB {w W W' : World} {B m g : Nat} {ao : Option Addr} {cap : Nat} {ts r : List Tk} {n : Nat} {v1 v2 : Value} (h : RN w W m g ao cap ts r n v1 v2) (hb : Below B W W') (hm : m < B) (hg : g < B) : RN w W' m g ao cap ts r n v1 v2 :=
  ⟨h.nb.same (hb.block m hm), h.rs.keepB hb hg, But.trans h.bt (But.below (hb.mono (by have := h.hm; omega))), h.hm⟩
/-- append of one element to a row of the walk's own, and where the row lies then. -/
theorem run_append_where {P : Program} (w : World) (base : Nat) (t ty e : TypeId) (i : TypeInfo) (z : Value) (size bytes : Nat) (ht : P.underlying t = some (.slice e)) (hi : P.info? e = some i) (hz : i.zero = some z)
    (hsize : i.size = size) (hby : i.bytes = bytes) (hzs : z.cells.size = size) (hsz : 0 < size)
    (v : Value) (n : Nat) (xs : List Value) (hown : w.ownsRow base e size v n xs)
    (a : Addr) (c : Nat) (news : List Value) (hl : news.length = size) (hnews : ∀ j u, news[j]? = some u → w.cell? (a.add j) = some u) (h1 : ∀ u ∈ news, u.oneCell' = true)
    (h63 : n + 1 ≤ maxLen) (hbytes : (n + 1) * bytes ≤ 140737488355328) (hbase : base ≤ w.heap.size) :
    ∃ q c6 w', (Builtin.append_ #[t, t] ty #[v, .slice (some a) 1 c]).run P w = .ok (.slice (some ⟨q, 0, none⟩) (n + 1) c6) w' ∧ w'.ownsRow base e size (.slice (some ⟨q, 0, none⟩) (n + 1) c6) (n + 1) (xs ++ news) ∧ w.grownBy w' v.ownBlock ∧ (v.ownBlock = some q ∨ q = w.heap.size) := by
  obtain ⟨v', w', hr, h2, h3, _⟩ := run_append_own (P := P) w base t ty e i z size bytes ht hi hz hsize hby hzs hsz v n xs hown a 1 c news (by rw [Nat.one_mul]; exact hl) hnews h1 h63 hbytes hbase
  have hsmall : n + 1 ≤ 9223372036854775807 := by simp only [maxLen] at h63; omega
  rcases hown.2 with ⟨rfl, rfl⟩ | ⟨g, cap, cur, rfl, hbg, hg, hnc, hcm, hcs, htake⟩
  · have hr2 := run_append_nil (P := P) (w := w) t ty e i z ht hi hz a 1 c news (by rw [Nat.one_mul, hsize]; exact hl) hnews (by omega) (by omega) (by rw [hby]; have hb := hbytes; simp only [Nat.zero_add] at hb; omega)
    rw [hr] at hr2
    injection hr2 with e1 e2
    subst e1
    exact ⟨_, _, w', by rw [hr, Nat.zero_add], by rw [Nat.zero_add] at h2 ⊢; exact h2, h3, .inr rfl⟩
  · by_cases hroom : n + 1 ≤ cap
    · have hr2 := run_append_room (P := P) (w := w) t ty e i ht hi g n cap cur hg a 1 c news (by rw [Nat.one_mul, hsize]; exact hl) hnews h1 hroom (by rw [hl, hcs, hsize]; have := Nat.mul_le_mul_right size hroom; rw [Nat.add_mul, Nat.one_mul] at this; exact this)
      rw [hr] at hr2
      injection hr2 with e1 e2
      subst e1
      exact ⟨_, _, w', hr, h2, h3, .inl rfl⟩
    · have holds : ∀ j u, xs[j]? = some u → w.cell? ((⟨g, 0, none⟩ : Addr).add j) = some u := hown.cells (g := g) rfl
      have hr2 := run_append_grow (P := P) (w := w) t ty e i z ht hi hz ⟨g, 0, none⟩ n cap xs (by rw [hsize]; exact hown.1) holds a 1 c news (by rw [Nat.one_mul, hsize]; exact hl) hnews (by omega) (by omega) (growslice_fits (by omega) (by rw [hby]; exact hbytes))
      rw [hr] at hr2
      injection hr2 with e1 e2
      subst e1
      exact ⟨_, _, w', hr, h2, h3, .inr rfl⟩
theorem RP.gives_append {P : Program} {X : List PanicEntry → World → Prop} {o : Oper} {a : Act} {w : World} {K : Value → World → Prop}
    (s x : Operand) (t : TypeId) (hop : o.op = Op.call { callee := Callee.builtin Builtin.append, args := #[s, x], argTypes := #[t, t] })
    (base : Nat) (e : TypeId) (i : TypeInfo) (z : Value) (size bytes : Nat) (h1 : P.underlying t = some (.slice e)) (h2 : P.info? e = some i) (h3 : i.zero = some z) (h4 : i.size = size) (h5 : i.bytes = bytes) (h6 : z.cells.size = size) (h7 : 0 < size)
    (v : Value) (n : Nat) (xs : List Value) (hs : a.eval s = v) (hown : w.ownsRow base e size v n xs)
    (ad : Addr) (c : Nat) (news : List Value) (hx : a.eval x = .slice (some ad) 1 c) (hn : news.length = size) (hc : ∀ j u, news[j]? = some u → w.cell? (ad.add j) = some u) (h1c : ∀ u ∈ news, u.oneCell' = true)
    (b1 : n + 1 ≤ maxLen) (b2 : (n + 1) * bytes ≤ 140737488355328) (hbase : base ≤ w.heap.size)
    (hK : ∀ q c6 w', w'.ownsRow base e size (.slice (some ⟨q, 0, none⟩) (n + 1) c6) (n + 1) (xs ++ news) → w.grownBy w' v.ownBlock → (v.ownBlock = some q ∨ q = w.heap.size) → K (.slice (some ⟨q, 0, none⟩) (n + 1) c6) w') : RP.Oper.gives P X o a w K := by
  obtain ⟨q, c6, w', hrun, r1, r2, r3⟩ := run_append_where (P := P) w base t o.type e i z size bytes h1 h2 h3 h4 h5 h6 h7 v n xs hown ad c news hn hc h1c b1 b2 hbase
  unfold RP.Oper.gives
  simp [execOp, hop, resolve, invoke, builtin, hs, hx, hrun, Result.andThen, RP.gives]
  exact hK q c6 w' r1 r2 r3
/-- What an attribute that was read is; in a row of its own; appended. -/
def AttP (B : Nat) (a : Atr) (v : Value) (W : World) : Prop := ∃ (y2 : Nd) (p1 : Option Addr) (q1 : Nat) (p2 : Option Addr) (q2 : Nat), v = .agg #[.slice p1 y2.1.length q1, .slice p2 y2.2.len q2] ∧ NA W (In B W.heap.size) p1 p2 y2 ∧ ShA y2 a
def AttR (B : Nat) (a : Atr) (v : Value) (W : World) : Prop := ∃ (q : Nat) (y2 : Nd) (p1 : Option Addr) (q1 : Nat) (p2 : Option Addr) (q2 : Nat), v = .slice (some ⟨q, 0, none⟩) 1 1 ∧ B ≤ q ∧ W.rangeAt q 0 [.slice p1 y2.1.length q1, .slice p2 y2.2.len q2] ∧ NA W (In B W.heap.size) p1 p2 y2 ∧ ShA y2 a
def AttG (B m : Nat) (old : Value) (n : Nat) (xs : List Value) (a : Atr) (v : Value) (W : World) : Prop := ∃ (q6 c6 : Nat) (y2 : Nd) (p1 : Option Addr) (q1 : Nat) (p2 : Option Addr) (q2 : Nat), v = .slice (some ⟨q6, 0, none⟩) (n + 1) c6 ∧ W.ownsRow (m + 1) 51 2 (.slice (some ⟨q6, 0, none⟩) (n + 1) c6) (n + 1) (xs ++ [.slice p1 y2.1.length q1, .slice p2 y2.2.len q2]) ∧
  NA W (fun b => B ≤ b ∧ b < W.heap.size ∧ b ≠ q6) p1 p2 y2 ∧ ShA y2 a ∧ (old.ownBlock = some q6 ∨ B ≤ q6)
/-- endpoint's own memory in the region that reads an attribute and appends it. -/
structure RE (w W4 : World) (m0 m g : Nat) (ao : Option Addr) (cap : Nat) (ts ra rb : List Tk) (sz : Nat) (v1 v2 : Value) (K4 : Nat → Prop) (own : World → Prop) (L : Nat → Bool) (W : World) : Prop where
  rn : RN w W m0 g ao cap ts (if L 3 then rb else ra) sz (.slice none 0 0) (.slice none 0 0)
  nb : NB W m v1 v2
  up : W4.heap.size ≤ W.heap.size
  own : L 5 = false → own W
  row : KeptIn K4 W4 W
structure RKE (g B0 i : Nat) (W W' : World) : Prop where
  size : W.heap.size ≤ W'.heap.size
  five : i = 5 → ∀ b, B0 ≤ b → b < W.heap.size → W'.heap[b]? = W.heap[b]?
  rest : i ≠ 5 → ButP g W W'
theorem RKE.same (g B0 i : Nat) (W : World) : RKE g B0 i W W := ⟨Nat.le_refl _, fun _ _ _ _ => rfl, fun _ => But.refl _ _ _⟩
theorem RKE.but {g B0 i : Nat} {W W' : World} (hi : i ≠ 5) (h : ButP g W W') : RKE g B0 i W W' := ⟨h.size, fun e => absurd e hi, fun _ => h⟩
theorem RKE.kept {g B0 i : Nat} {W W' : World} (h : RKE g B0 i W W') (hg : g < B0) : KeptIn (In B0 W.heap.size) W W' := by
  intro b hb
  by_cases hi : i = 5
  · exact h.five hi b hb.1 hb.2
  · exact (h.rest hi).block b hb.2 (by have := hb.1; omega)
/-- Blocks of the nodes of a row, of tokens. -/
def KE (lo m : Nat) (W : World) (ao : Option Addr) (b : Nat) : Prop := KR m W ao b ∨ In lo m b
theorem one2 (v1 v2 : Value) (h1 : v1.oneCell' = true) (h2 : v2.oneCell' = true) : ∀ u ∈ [v1, v2], u.oneCell' = true := by
  intro u hu
  simp at hu
  rcases hu with rfl | rfl
  · exact h1
  · exact h2
theorem RE.pure {w W4 : World} {m0 m g : Nat} {ao : Option Addr} {cap : Nat} {ts ra rb : List Tk} {sz : Nat} {v1 v2 : Value} {K4 : Nat → Prop} {own : World → Prop} {L : Nat → Bool} {W : World} (h : RE w W4 m0 m g ao cap ts ra rb sz v1 v2 K4 own L W) (i : Nat) (h3 : i ≠ 3) (h5 : i ≠ 5) : RE w W4 m0 m g ao cap ts ra rb sz v1 v2 K4 own (RP.also L i) W := by
  have e3 : RP.also L i 3 = L 3 := by unfold RP.also; rw [if_neg (fun e => h3 e.symm)]
  have e5 : RP.also L i 5 = L 5 := by unfold RP.also; rw [if_neg (fun e => h5 e.symm)]
  exact ⟨by rw [e3]; exact h.rn, h.nb, h.up, fun hL => h.own (by rw [← e5]; exact hL), h.row⟩
end Go.Proofs.Ytcmmjmgbanafgaa

/- The walk over tree.reader's endpoint. -/
namespace Go.Proofs.Ytcmmjmgbanafgaa
open Go.RowKit Go.Proofs.Url Go.Proofs.Url.Syn

set_option maxHeartbeats 4000000 in
set_option maxRecDepth 100000 in
theorem endpoint_any (g : Nat) (ao : Option Addr) (cap : Nat) (ts r : List Tk) (sz : Nat) (w : World) (h : RS w g ao cap ts r sz) (ht : TokOk ts) (hl : ts.length < 4294967281) (hw : wordR r = w_endpoint) :
    Calls Try.prog 74 #[.pointer (some ⟨g, 0, none⟩)] w fun e w' => OutG ShI (itemR r) g ao cap ts sz w e w' := by
  have HH := hide (end_head (h.tok ht) hw)
  have HIF := hide (fun r W (a : RS W g ao cap ts r sz) => attribute_any g ao cap ts r sz W a ht hl)
  have hgw := h.lt
  have R0 := hide (RN.new h (.slice none 0 0) (.slice none 0 0) 51)
  have HL := hide hl
  have HT := hide ht
  obtain ⟨i0, hi, hz0, hz1, hz2⟩ := info_parts infoN
  have HI := hide hi
  have HZ0 := hide hz0
  have HZ1 := hide hz1
  have HZ2 := hide hz2
  clear h hw hl ht hi hz0 hz1 hz2
  go_enter Try.func74, Try.ntmps74
  go_upto_region 1 with fail
  obtain ⟨W0, hW0⟩ : ∃ x, x = w.alloc (Obj.cells #[.slice none 0 0, .slice none 0 0] 51) := ⟨_, rfl⟩
  rw [← hW0] at R0 ⊢
  clear hW0
  have hml := R0.out.nb.lt
  have hsw := R0.out.bt.size
  go_wp2_with fail
  have R2 := hide (fun o => R0.out.alloc o)
  refine (leaf_full [w_endpoint, w_NAME, w_at, w_NAME, w_CAPS, w_TEXT, w_lbr] W0.heap.size g ao cap ts r sz _ (R2.out _).rs (lits_new W0 [w_endpoint, w_NAME, w_at, w_NAME, w_CAPS, w_TEXT, w_lbr] 9) (by omega) (by simp) (by decide) HL.out).mono ?_
  rintro e w3 ⟨B3, h3⟩
  have hs3 : W0.heap.size + 1 ≤ w3.heap.size := by simpa using B3.size
  cases hq : takesR [w_endpoint, w_NAME, w_at, w_NAME, w_CAPS, w_TEXT, w_lbr] r with
  | bad r' =>
    rw [hq] at h3
    obtain ⟨rfl, S3⟩ := h3
    have R3 := hide ((R2.out _).but hgw B3 S3)
    have HX := hide (HH.out.1 _ hq)
    clear B3 S3 R0 R2 hq HH
    go_wp2_with fail
    exact ⟨rfl, OutG.isBad HX.out R3.out.bt R3.out.rs⟩
  | ok l r1 =>
    rw [hq] at h3
    obtain ⟨b1, n1, rfl, N3, S3⟩ := h3
    obtain ⟨Y, hYa, hYs, hYe⟩ := HH.out.2 _ _ hq
    have HYs := hide hYs
    have HYe := hide hYe
    have R3 := hide ((R2.out _).but hgw B3 S3)
    have N3 : Hid (TA w3 (In (W0.heap.size + 1) w3.heap.size) b1 l) := by unfold Hid; simpa using N3
    have HR1 := hide S3.le
    clear B3 S3 R0 R2 hq HH hYa hYs hYe
    go_wp2_with fail
    obtain ⟨W4, hW4⟩ : ∃ x, x = w3.alloc (Obj.cells #[.slice b1 l.length n1, .slice none 0 0] 51) := ⟨_, rfl⟩
    have b4 : Below w3.heap.size w3 W4 := by rw [hW4]; exact (Below.refl _ _).alloc (Nat.le_refl _) _
    have M4 : Hid (NB W4 w3.heap.size (.slice b1 l.length n1) (.slice none 0 0)) := by unfold Hid; rw [hW4]; exact NB.new _ _ _ _
    have R4 := hide (R3.out.below b4)
    have N4 : Hid (TA W4 (In (W0.heap.size + 1) w3.heap.size) b1 l) := N3.out.keep (KeptIn.below b4 (Nat.le_refl _) _)
    rw [← hW4]
    clear hW4 b4 R3 N3
    have hmg : g < w3.heap.size := by omega
    have hm03 : w.heap.size < w3.heap.size := by omega
    go_loopw [] (fun W => ∃ (kk : Nat) (acc : List Atr) (ns : List Nd) (xs : List Value) (r' : List Tk) (a2 : Option Addr) (cv : Nat), r'.length ≤ kk ∧ ns.length + r'.length ≤ ts.length ∧ Hid (attrsF (r1.length + 1) r1 = (attrsF (kk + 1) r').map (fun x => acc ++ x)) ∧ Hid (ShAs (Fo.ofL ns) acc) ∧
      Hid (RN w W w.heap.size g ao cap ts r' sz (.slice none 0 0) (.slice none 0 0)) ∧ Hid (NB W w3.heap.size (.slice b1 l.length n1) (.slice a2 ns.length cv)) ∧ Hid (W.ownsRow (w3.heap.size + 1) 51 2 (.slice a2 ns.length cv) ns.length xs) ∧
      Hid (RowN W (KR w3.heap.size W a2) ns xs) ∧ Hid (TA W (In (W0.heap.size + 1) w3.heap.size) b1 l)) (fun W => leftR W g ts.length)
    case atStart => exact ⟨r1.length, [], [], [], r1, none, 0, Nat.le_refl _, by simpa using HR1.out, by unfold Hid; rw [map_idq], trivial, R4, M4, World.ownsRow_nil _ _ _ _, rfl, N4⟩
    case round =>
      obtain ⟨kk, acc, ns, xs, r', a2, cv, hkk, hnl, hE, hA, hR, hM, hO, hX, hN⟩ := hrel
      clear R4 M4 N4
      have hrl : Hid (leftR wr g ts.length = r'.length) := hR.out.rs.left
      cases hq : isT w_rbr r' with
      | true =>
        have HSe : Hid (∀ W, RS W g ao cap ts r' sz → Calls Try.prog 85 #[.pointer (some ⟨g, 0, none⟩), .string ⟨#[125]⟩] W fun e w' => e = .returned (.bool true) ∧ Below W.heap.size W w') := fun W a => by
          have := sees_any w_rbr g ao cap ts r' sz W a; rwa [fitT_lit (by decide), hq] at this
        have hnd : needR w_rbr r' = .ok () r'.tail := by unfold needR; rw [hq]; rfl
        have HX : Hid (itemR r = .ok { Y with attrs := acc } r'.tail) := by
          unfold Hid
          rw [HYe.out, hE.out, attrs_succq, if_pos hq]
          simp only [Rd.map, Rd.then, List.append_nil]
          rw [hnd]
        have HTk : Hid (takesR [w_rbr] r' = .ok [] r'.tail) := by
          unfold Hid
          rw [take_sign (by decide) (by decide) (hR.out.rs.tok HT.out), hnd]; rfl
        have HY7 := hide (HYs.out _ _ hA.out)
        clear hE hq hnd hA HYs HYe
        go_wp2_with fail
        refine (HSe.out _ hR.out.rs).mono ?_
        rintro e w4 ⟨rfl, b4⟩
        have R4 := hide (hR.out.below b4)
        have M4 := hide (hM.out.below b4)
        have hmw := hM.out.lt
        have O4 := hide (ownsq_kept hO.out (KeptIn.below b4 (Nat.le_refl _) _))
        have X4 : Hid (RowN w4 (KR w3.heap.size w4 a2) ns xs) := (hX.out.keep (KeptIn.belowK b4 fun _ k => k.2.1)).sub fun _ k => ⟨k.1, Nat.lt_of_lt_of_le k.2.1 b4.size, k.2.2⟩
        have N4 := hide (hN.out.keep (KeptIn.below b4 (by omega) _))
        clear b4 hR hM hO hX hN HSe
        have hml4 := M4.out.lt
        have hzl4 := R4.out.nb.lt
        go_wp2_with fail
        have R5 := hide (fun o => R4.out.alloc o)
        refine (take_any [w_rbr] w4.heap.size g ao cap ts r' sz _ (R5.out _).rs (lits_new w4 [w_rbr] 9) (by omega) (by simp) (by decide) HL.out).mono ?_
        rintro e w8 ⟨B8, h8⟩
        rw [HTk.out] at h8
        obtain ⟨j1, j2, rfl, T8, S8⟩ := h8
        have hs8 : w4.heap.size + 1 ≤ w8.heap.size := by simpa using B8.size
        have RF := hide ((R5.out _).but hgw B8 S8)
        have ba : Below w4.heap.size w4 (w4.alloc (Obj.cells #[.string ⟨w_rbr.toArray⟩] 9)) := (Below.refl _ _).alloc (Nat.le_refl _) _
        have M8 := hide ((M4.out.below ba).but B8 (by omega))
        have kp : ∀ (K : Nat → Prop), (∀ b, K b → g < b ∧ b < w4.heap.size) → KeptIn K w4 w8 := fun K hK => (KeptIn.belowK ba fun b k => (hK b k).2).trans (KeptIn.butK B8 (fun k => absurd (hK g k).1 (Nat.lt_irrefl _)) fun b k => by have := (hK b k).2; simp; omega)
        have O8 := hide (ownsq_kept O4.out (kp _ fun b k => ⟨by have := k.1; omega, k.2⟩))
        have X8 := hide (X4.out.keep (kp _ fun b k => ⟨by have := k.1; omega, k.2.1⟩))
        have N8 := hide (N4.out.keep (kp _ fun b k => ⟨by have := k.1; omega, by have := k.2; omega⟩))
        clear B8 S8 R4 R5 M4 O4 X4 N4 ba kp T8 HTk
        have x0 := M8.out.c0
        have x1 := M8.out.c1
        have hm8 := M8.out.lt
        have NN : Hid (NA w8 (KC w.heap.size w3.heap.size w8) b1 a2 (l, Fo.ofL ns)) := by
          refine ⟨N8.out.sub fun b k => ⟨by have := k.1; omega, by have := k.2; omega, by have := k.2; omega⟩, ?_⟩
          by_cases hn0 : ns = []
          · rw [hn0]; exact .inl rfl
          · have hpos : 0 < ns.length := List.length_pos_iff.2 hn0
            obtain ⟨q, rfl, hq1, hq2, hqc⟩ := owns_cells O8.out hpos
            refine .inr ⟨q, rfl, ⟨by omega, by omega, hq2⟩, ?_⟩
            exact (X8.out.fc (k := 0) (fun j v hj => by rw [Nat.zero_mul, Nat.zero_add]; exact hqc j v hj)).sub fun b k => ⟨by have := k.1; omega, by have := k.1; omega, by have := k.2.1; omega⟩
        clear O8 X8 N8
        have z0 := RF.out.nb.c0
        have z1 := RF.out.nb.c1
        have u0 := RF.out.nb.f0
        have u1 := RF.out.nb.f1
        have hml8 := RF.out.nb.lt
        have NF := hide (RF.out.nb.put (.slice b1 l.length n1) (.slice a2 ns.length cv))
        have HO : Hid (OutG ShI (itemR r) g ao cap ts sz w (.returned (.agg #[.slice b1 l.length n1, .slice a2 ns.length cv])) (putN w8 w.heap.size (.slice b1 l.length n1) (.slice a2 ns.length cv))) := by
          have := RF.out.outK (Sh := ShI) (c1 := n1) (c2 := cv) hgw HX.out NN.out (fun b k => ⟨by have := k.1; omega, k.2.2, by have := k.1; omega⟩) HY7.out
          rw [show (l, Fo.ofL ns).2.len = ns.length from Fo.ofL_len ns] at this
          exact this
        unfold putN at NF HO
        clear RF NN M8 HX HY7
        go_wp2_with fail
        refine bodyPost_ret (v := .agg #[.slice b1 l.length n1, .slice a2 ns.length cv]) ?_ rfl ?_
        · exact resReadEnd NF.out rfl
        · exact HO.out
      | false =>
        have HSe : Hid (∀ W, RS W g ao cap ts r' sz → Calls Try.prog 85 #[.pointer (some ⟨g, 0, none⟩), .string ⟨#[125]⟩] W fun e w' => e = .returned (.bool false) ∧ Below W.heap.size W w') := fun W a => by
          have := sees_any w_rbr g ao cap ts r' sz W a; rwa [fitT_lit (by decide), hq] at this
        have HE2 : Hid (attrsF (r1.length + 1) r1 = ((semiR (attrR r')).then fun a r => (attrsF kk r).map fun l => a :: l).map (fun x => acc ++ x)) := by
          unfold Hid; rw [hE.out, attrs_succq, if_neg (by rw [hq]; decide)]
        clear hE hq
        go_wp2_with fail
        refine (HSe.out _ hR.out.rs).mono ?_
        rintro e w4 ⟨rfl, b4⟩
        have R4 := hide (hR.out.below b4)
        have M4 := hide (hM.out.below b4)
        have hmw := hM.out.lt
        have O4 := hide (ownsq_kept hO.out (KeptIn.below b4 (Nat.le_refl _) _))
        have X4 : Hid (RowN w4 (KR w3.heap.size w4 a2) ns xs) := (hX.out.keep (KeptIn.belowK b4 fun _ k => k.2.1)).sub fun _ k => ⟨k.1, Nat.lt_of_lt_of_le k.2.1 b4.size, k.2.2⟩
        have N4 := hide (hN.out.keep (KeptIn.below b4 (by omega) _))
        clear b4 hR hM hO hX hN HSe
        have hml4 := M4.out.lt
        have hzl4 := R4.out.nb.lt
        go_upto_region 3 with fail
        have hm3g : g < w3.heap.size + 1 := by omega
        cases hx : semiR (attrR r') with
        | bad r3 =>
          have HX : Hid (itemR r = .bad r3) := by unfold Hid; rw [HYe.out, HE2.out, hx]; rfl
          have HCall : Hid (∀ W, RS W g ao cap ts r' sz → Calls Try.prog 86 #[.pointer (some ⟨g, 0, none⟩)] W fun e w' => ButP g W w' ∧ e = .panicked stuckE ∧ RS w' g ao cap ts r3 sz) := fun W a => by
            have := HIF.out r' W a; rw [hx] at this; exact this
          clear hx HE2 HYs HYe O4 X4 N4 hA
          refine RP.wp_region_posts_last (X := fun ch W => ch = stuckE ∧ ButP g w4 W ∧ RS W g ao cap ts r3 sz) (l := [_, _, _, _, _, _, _]) (ol := _) rfl (by kernel_rfl) (RC4 w4 g ao cap ts r' r' sz 3) (fun _ W W' => ButP g W W')
            [some 10, some 11, some 12, some 13, some 14, some 15, some 16] [[], [0], [], [2], [2, 3], [0, 1, 2, 3, 4], [], [0, 1, 2, 3, 4, 5, 6]]
            [fun v _ => v = .pointer (some ⟨w3.heap.size, 1, none⟩), fun v _ => v = .slice a2 ns.length cv, fun v _ => v = .pointer (some ⟨g, 0, none⟩), fun _ _ => False, fun _ _ => False, fun _ _ => False, fun v _ => v = .pointer (some ⟨w3.heap.size, 1, none⟩)]
            ?_ rfl (by kernel_rfl) (by kernel_rfl) (by kernel_rfl) (by kernel_rfl) (by kernel_rfl) rfl rfl ?_ ?_ ?_ ?_
          · intro ch A W hs hd ho hx
            obtain ⟨rfl, BW, SW⟩ := hx
            exact And.intro hd (OutG.isBad HX.out (R4.out.bt.trans BW) SW)
          · exact .eq (.eq (.eq (.cons (fun _ _ _ _ _ _ _ h => h) (.cons (fun _ _ _ _ _ _ _ h => h) (.cons (fun _ _ _ _ _ _ _ h => h) (.eq .nil))))))
          · intro L hL
            exact RC4.none R4.out.rs (hL 3)
          · refine .cons ?_ (.cons ?_ (.cons ?_ (.cons ?_ (.cons ?_ (.cons ?_ (.cons ?_ .nil))))))
            all_goals (intro L A W hLi hC old nd)
            all_goals (refine RP.runs_none rfl ?_)
            · have e3 : (A.tmps[3]?).getD undef = .pointer (some ⟨w3.heap.size, 0, none⟩) := old 3 (by kernel_rfl)
              simp [RP.Oper.gives, RP.gives, go_sem, e3]
              exact ⟨hC.same (by decide) (Below.refl _ _), But.refl _ _ _, rfl⟩
            · have e10 : (A.tmps[10]?).getD undef = .pointer (some ⟨w3.heap.size, 1, none⟩) := nd.1
              have x1 := (M4.out.but hC.bt (by omega)).c1
              simp [RP.Oper.gives, RP.gives, go_sem, e10, x1]
              exact ⟨hC.same (by decide) (Below.refl _ _), But.refl _ _ _, rfl⟩
            · have e0 : (A.tmps[0]?).getD undef = .pointer (some ⟨g, 0, none⟩) := old 0 (by kernel_rfl)
              simp [RP.Oper.gives, RP.gives, go_sem, e0]
              exact ⟨hC.same (by decide) (Below.refl _ _), But.refl _ _ _, rfl⟩
            · have e12 : (A.tmps[12]?).getD undef = .pointer (some ⟨g, 0, none⟩) := nd.1
              have S := hC.rs
              rw [hLi] at S
              simp [RP.Oper.gives, RP.gives, go_sem, e12]
              refine (HCall.out W S).mono fun e W' h => ?_
              exact ⟨_, h.2.1, rfl, hC.bt.trans h.1, h.2.2⟩
            · exact nd.2.1.elim
            · exact nd.2.2.2.1.elim
            · have e3 : (A.tmps[3]?).getD undef = .pointer (some ⟨w3.heap.size, 0, none⟩) := old 3 (by kernel_rfl)
              simp [RP.Oper.gives, RP.gives, go_sem, e3]
              exact ⟨hC.same (by decide) (Below.refl _ _), But.refl _ _ _, rfl⟩
          · intro L W hall hC E hE
            exact .cons fun v1 h1 => .cons fun v2 h2 => .cons fun v3 h3 => .cons fun v4 h4 => h4.elim
        | ok a r3 =>
          have hsh := semi_short hx
          have HCall : Hid (∀ W, RS W g ao cap ts r' sz → Calls Try.prog 86 #[.pointer (some ⟨g, 0, none⟩)] W fun e w' => ButP g W w' ∧ ∃ (y2 : Nd) (p1 : Option Addr) (q1 : Nat) (p2 : Option Addr) (q2 : Nat), e = .returned (.agg #[.slice p1 y2.1.length q1, .slice p2 y2.2.len q2]) ∧ NA w' (In W.heap.size w'.heap.size) p1 p2 y2 ∧ ShA y2 a ∧ RS w' g ao cap ts r3 sz) := fun W b => by
            have := HIF.out r' W b; rw [hx] at this; exact this
          obtain ⟨k', rfl⟩ : ∃ k, kk = k + 1 := ⟨kk - 1, by omega⟩
          have HE3 : Hid (attrsF (r1.length + 1) r1 = (attrsF (k' + 1) r3).map (fun x => (acc ++ [a]) ++ x)) := by
            unfold Hid; rw [HE2.out, hx]
            simp only [Rd.then]
            rw [map_mapq]; congr 1; funext x; simp
          have hkk3 : r3.length ≤ k' := by omega
          have hl3 : r3.length < r'.length := by omega
          have hnl3 : ns.length + 1 + r3.length ≤ ts.length := by omega
          have HOB : Hid (∀ j, (Value.slice a2 ns.length cv).ownBlock = some j → w3.heap.size + 1 ≤ j ∧ j < w4.heap.size ∧ a2 = some ⟨j, 0, none⟩) := by
            intro j hj
            rcases O4.out.2 with ⟨hv, _⟩ | ⟨q, c, cur, hv, hq1, hh, _⟩
            · rw [hv] at hj; cases hj
            · have hlt : q < w4.heap.size := by
                rcases Nat.lt_or_ge q w4.heap.size with h | h
                · exact h
                · rw [Array.getElem?_eq_none h] at hh; cases hh
              simp only [Value.slice.injEq] at hv
              obtain ⟨rfl, _, _⟩ := hv
              cases hj
              exact ⟨hq1, hlt, rfl⟩
          have f3 : Hid (ns.length + 1 ≤ maxLen) := by unfold Hid maxLen; have := HL.out; omega
          have f4 : Hid ((ns.length + 1) * 48 ≤ 140737488355328) := by unfold Hid; have := HL.out; omega
          have hw34 : w3.heap.size < w4.heap.size := hml4
          have hKg : ¬ KE (W0.heap.size + 1) w3.heap.size w4 a2 g := fun k => by
            rcases k with k | k
            · have := k.1; omega
            · have := k.1; omega
          have hKl : ∀ b, KE (W0.heap.size + 1) w3.heap.size w4 a2 b → b < w4.heap.size := fun b k => by
            rcases k with k | k
            · exact k.2.1
            · have := k.2; omega
          have hKo : ∀ b, KE (W0.heap.size + 1) w3.heap.size w4 a2 b → some b ≠ (Value.slice a2 ns.length cv).ownBlock := fun b k e => by
            have := HOB.out b e.symm
            rcases k with k | k
            · exact k.2.2 this.2.2
            · have := k.2; omega
          clear hx HE2 hsh hkk hnl
          refine RP.wp_region_posts_last (X := fun _ _ => False) (l := [_, _, _, _, _, _, _]) (ol := _) rfl (by kernel_rfl)
            (RE w w4 w.heap.size w3.heap.size g ao cap ts r' r3 sz (.slice b1 l.length n1) (.slice a2 ns.length cv) (KE (W0.heap.size + 1) w3.heap.size w4 a2) (fun W => W.ownsRow (w3.heap.size + 1) 51 2 (.slice a2 ns.length cv) ns.length xs)) (RKE g w4.heap.size)
            [some 10, some 11, some 12, some 13, some 14, some 15, some 16] [[], [0], [], [2], [2, 3], [0, 1, 2, 3, 4], [], [0, 1, 2, 3, 4, 5, 6]]
            [fun v _ => v = .pointer (some ⟨w3.heap.size, 1, none⟩), fun v _ => v = .slice a2 ns.length cv, fun v _ => v = .pointer (some ⟨g, 0, none⟩), fun v W => AttP w4.heap.size a v W, fun v W => AttR w4.heap.size a v W, fun v W => AttG w4.heap.size w3.heap.size (.slice a2 ns.length cv) ns.length xs a v W, fun v _ => v = .pointer (some ⟨w3.heap.size, 1, none⟩)]
            (fun _ _ _ _ _ _ h => h.elim) rfl (by kernel_rfl) (by kernel_rfl) (by kernel_rfl) (by kernel_rfl) (by kernel_rfl) rfl rfl ?_ ?_ ?_ ?_
          · refine .eq (.eq (.eq (.cons ?_ (.cons ?_ (.cons ?_ (.eq .nil))))))
            · rintro i v W W' h1 h2 hk ⟨y2, p1, q1, p2, q2, e, hn, hs⟩
              exact ⟨y2, p1, q1, p2, q2, e, (hn.keep (hk.kept (by omega))).mono (Nat.le_refl _) hk.size, hs⟩
            · rintro i v W W' h1 h2 hk ⟨q, y2, p1, q1, p2, q2, e, hq, hc, hn, hs⟩
              refine ⟨q, y2, p1, q1, p2, q2, e, hq, fun j u hj => ?_, (hn.keep (hk.kept (by omega))).mono (Nat.le_refl _) hk.size, hs⟩
              exact (hk.kept (by omega)).cell ⟨hq, World.block_lt_of_cell? W _ (hc j u hj)⟩ (hc j u hj)
            · rintro i v W W' h1 h2 hk ⟨q6, c6, y2, p1, q1, p2, q2, e, ho, hn, hs, hw⟩
              have bt := hk.rest h1
              refine ⟨q6, c6, y2, p1, q1, p2, q2, e, ownsq_kept ho (KeptIn.but bt hm3g (Nat.le_refl _)), (hn.keep (KeptIn.butK bt (fun k => by have := k.1; omega) fun b k => k.2.1)).sub fun b k => ⟨k.1, Nat.lt_of_lt_of_le k.2.1 bt.size, k.2.2⟩, hs, hw⟩
          · intro L hL
            exact ⟨by rw [hL 3]; exact R4.out.below ((Below.refl _ _).drew), M4.out.below ((Below.refl _ _).drew), Nat.le_refl _, fun _ => owns_drew O4.out, KeptIn.refl _ _⟩
          · refine .cons ?_ (.cons ?_ (.cons ?_ (.cons ?_ (.cons ?_ (.cons ?_ (.cons ?_ .nil))))))
            all_goals (intro L A W hLi hC old nd)
            all_goals (refine RP.runs_none rfl ?_)
            · have e3 : (A.tmps[3]?).getD undef = .pointer (some ⟨w3.heap.size, 0, none⟩) := old 3 (by kernel_rfl)
              simp [RP.Oper.gives, RP.gives, go_sem, e3]
              exact ⟨hC.pure 0 (by decide) (by decide), RKE.same _ _ _ _, rfl⟩
            · have e10 : (A.tmps[10]?).getD undef = .pointer (some ⟨w3.heap.size, 1, none⟩) := nd.1
              have x1 := hC.nb.c1
              simp [RP.Oper.gives, RP.gives, go_sem, e10, x1]
              exact ⟨hC.pure 1 (by decide) (by decide), RKE.same _ _ _ _, rfl⟩
            · have e0 : (A.tmps[0]?).getD undef = .pointer (some ⟨g, 0, none⟩) := old 0 (by kernel_rfl)
              simp [RP.Oper.gives, RP.gives, go_sem, e0]
              exact ⟨hC.pure 2 (by decide) (by decide), RKE.same _ _ _ _, rfl⟩
            · have e12 : (A.tmps[12]?).getD undef = .pointer (some ⟨g, 0, none⟩) := nd.1
              have rn := hC.rn
              rw [hLi] at rn
              simp [RP.Oper.gives, RP.gives, go_sem, e12]
              refine (HCall.out W rn.rs).mono fun e W' h => ?_
              obtain ⟨BB, y2, p1, q1, p2, q2, rfl, hn, hs, S2⟩ := h
              have hup := hC.up
              refine ⟨_, rfl, ⟨?_, hC.nb.but BB (by omega), Nat.le_trans hC.up BB.size, fun hL5 => ownsq_kept (hC.own ?_) (KeptIn.but BB hm3g (Nat.le_refl _)), hC.row.trans (KeptIn.butK BB hKg fun b k => by have := hKl b k; omega)⟩, RKE.but (by decide) BB, ⟨y2, p1, q1, p2, q2, rfl, hn.mono hC.up (Nat.le_refl _), hs⟩⟩
              · rw [RP.also_self]; exact rn.but hgw BB S2
              · rw [← hL5]; unfold RP.also; rw [if_neg (by decide)]
            · obtain ⟨_, ⟨y2, p1, q1, p2, q2, e13, hn, hs⟩, _⟩ := nd
              replace e13 : (A.tmps[13]?).getD undef = .agg #[.slice p1 y2.1.length q1, .slice p2 y2.2.len q2] := e13
              simp [RP.Oper.gives, RP.gives, go_sem, e13]
              have bb : Below W.heap.size W (W.alloc (Obj.cells #[.slice p1 y2.1.length q1, .slice p2 y2.2.len q2] 51)) := (Below.refl _ _).alloc (Nat.le_refl _) _
              have hup := hC.up
              refine ⟨⟨?_, hC.nb.below bb, Nat.le_trans hC.up bb.size, fun hL5 => ownsq_kept (hC.own ?_) (KeptIn.below bb (Nat.le_refl _) _), hC.row.trans (KeptIn.belowK bb fun b k => by have := hKl b k; omega)⟩, RKE.but (by decide) (ButP.of bb), ⟨W.heap.size, y2, p1, q1, p2, q2, rfl, hC.up, fun j u hj => ?_, (hn.keep (KeptIn.below bb (Nat.le_refl _) _)).mono (Nat.le_refl _) bb.size, hs⟩⟩
              · have e : RP.also L 4 3 = L 3 := by unfold RP.also; rw [if_neg (by decide)]
                rw [e]; exact hC.rn.below bb
              · rw [← hL5]; unfold RP.also; rw [if_neg (by decide)]
              · rw [World.cell?_alloc_new, Nat.zero_add]; simpa using hj
            · obtain ⟨_, e11, _, _, ⟨q, y2, p1, q1, p2, q2, e14, hq, hc, hn, hs⟩, _⟩ := nd
              replace e11 : (A.tmps[11]?).getD undef = .slice a2 ns.length cv := e11
              replace e14 : (A.tmps[14]?).getD undef = .slice (some ⟨q, 0, none⟩) 1 1 := e14
              have hup := hC.up
              refine RP.gives_append (.tmp 11) (.tmp 14) 43 rfl (w3.heap.size + 1) 51 i0 _ 2 48 Try.underlying43 HI.out HZ0.out HZ1.out HZ2.out rfl (by decide) (.slice a2 ns.length cv) ns.length xs (by simpa [Act.eval] using e11) (hC.own hLi) ⟨q, 0, none⟩ 1 [.slice p1 y2.1.length q1, .slice p2 y2.2.len q2] (by simpa [Act.eval] using e14) rfl (fun j u hj => by rw [Addr.add_mid]; exact hc j u hj) (one2 _ _ rfl rfl) f3.out f4.out (by omega) ?_
              intro q6 c6 w6 hown' hgrow6 hwh
              have B6 : Below (w3.heap.size + 1) W w6 := Below.grown (Below.refl _ _) hgrow6 (by omega) (fun j hj => (HOB.out j hj).1)
              refine ⟨⟨?_, hC.nb.same (B6.block _ (Nat.lt_succ_self _)), Nat.le_trans hC.up hgrow6.size, fun hL5 => ?_, hC.row.trans fun b k => hgrow6.block b (by have := hKl b k; omega) (hKo b k)⟩, ⟨hgrow6.size, fun _ b h1 h2 => hgrow6.block b h2 (fun e => by have := HOB.out b e.symm; omega), fun h => absurd rfl h⟩, ⟨q6, c6, y2, p1, q1, p2, q2, rfl, hown', ?_, hs, ?_⟩⟩
              · have e : RP.also L 5 3 = L 3 := by unfold RP.also; rw [if_neg (by decide)]
                rw [e]; exact hC.rn.belowB B6 (by omega) (by omega)
              · rw [RP.also_self] at hL5; cases hL5
              · refine (hn.keep fun b k => hgrow6.block b k.2 (fun e => by have := HOB.out b e.symm; have := k.1; omega)).sub fun b k => ⟨k.1, Nat.lt_of_lt_of_le k.2 hgrow6.size, fun e => ?_⟩
                rcases hwh with h | h
                · have := HOB.out q6 h; have := k.1; omega
                · have := k.2; omega
              · rcases hwh with h | h
                · exact .inl h
                · exact .inr (by omega)
            · have e3 : (A.tmps[3]?).getD undef = .pointer (some ⟨w3.heap.size, 0, none⟩) := old 3 (by kernel_rfl)
              simp [RP.Oper.gives, RP.gives, go_sem, e3]
              exact ⟨hC.pure 6 (by decide) (by decide), RKE.same _ _ _ _, rfl⟩
          · intro L W hall hC E hE
            refine .cons fun v1 h1 => .cons fun v2 h2 => .cons fun v3 h3 => .cons fun v4 h4 => .cons fun v5 h5 => .cons fun v6 h6 => .cons fun v7 h7 => .nil ?_
            obtain ⟨q6, c6, y2, p1, q1, p2, q2, rfl, hown, hn, hs, hwh⟩ := h6
            subst h7
            clear h1 h2 h3 h4 h5
            have rn := hC.rn
            rw [hall 3 (by decide)] at rn
            have hW := hC.up
            have R8 := hide rn
            have M8 := hide hC.nb
            have X8 := hide (X4.out.keep (hC.row.sub fun b k => .inl k))
            have N8 := hide (N4.out.keep (hC.row.sub fun b k => .inr k))
            have HOW := hide hown
            have HN := hide hn
            have HA2 := hide (shAs_snoc hA.out hs)
            have HWh : Hid (∀ b, KR w3.heap.size w4 a2 b → b ≠ q6) := fun b k e => by
              rcases hwh with h | h
              · have := HOB.out q6 h; exact k.2.2 (by rw [e]; exact this.2.2)
              · have := k.2.1; omega
            have hlen : (ns ++ [y2]).length = ns.length + 1 := by simp
            have x1 := M8.out.c1
            have u1 := M8.out.f1
            have hm8 := M8.out.lt
            clear rn hown hn hs hwh R4 M4 O4 X4 N4 hC hA
            simp only [Act.put, List.setIfInBounds_toArray, List.set_cons_zero, List.set_cons_succ]
            refine hE _ ?_
            simp [RP.Oper.gives, RP.gives, go_sem, x1, u1]
            obtain ⟨W9, hW9⟩ : ∃ x, x = W.setCell ⟨w3.heap.size, 1, none⟩ (.slice (some ⟨q6, 0, none⟩) (ns.length + 1) c6) := ⟨_, rfl⟩
            have s9 : W9.heap.size = W.heap.size := by rw [hW9, size_set]
            have hk9 : ∀ (K : Nat → Prop), ¬ K w3.heap.size → KeptIn K W W9 := fun K hK => by rw [hW9]; exact KeptIn.setK hK
            have M9 : Hid (NB W9 w3.heap.size (.slice b1 l.length n1) (.slice (some ⟨q6, 0, none⟩) (ns ++ [y2]).length c6)) := by unfold Hid; rw [hW9, hlen]; exact M8.out.set1 _
            have R9 : Hid (RN w W9 w.heap.size g ao cap ts r3 sz (.slice none 0 0) (.slice none 0 0)) := by unfold Hid; rw [hW9]; exact R8.out.setO hm03 hmg _
            rw [← hW9]
            have O9 : Hid (W9.ownsRow (w3.heap.size + 1) 51 2 (.slice (some ⟨q6, 0, none⟩) (ns ++ [y2]).length c6) (ns ++ [y2]).length (xs ++ [.slice p1 y2.1.length q1, .slice p2 y2.2.len q2])) := by
              unfold Hid; rw [hlen]
              exact ownsq_kept HOW.out (hk9 _ (fun k => by have := k.1; omega))
            have X9 : Hid (RowN W9 (KR w3.heap.size W9 (some ⟨q6, 0, none⟩)) (ns ++ [y2]) (xs ++ [.slice p1 y2.1.length q1, .slice p2 y2.2.len q2])) := by
              refine RowN.snoc ((HN.out.keep (hk9 _ (fun k => by have := k.1; omega))).sub fun b k => ⟨by have := k.1; omega, by have := k.2.1; omega, fun e => k.2.2 (by cases e; rfl)⟩) ?_
              exact (X8.out.keep (hk9 _ (fun k => by have := k.1; omega))).sub fun b k => ⟨k.1, by have := k.2.1; omega, fun e => HWh.out b k (by cases e; rfl)⟩
            have N9 := hide (N8.out.keep (hk9 _ (fun k => by have := k.2; omega)))
            have HLr := hide hl3
            clear hW9 R8 M8 X8 N8 HOW HN HWh hk9 s9 x1 u1 hm8
            go_wp2_with fail
            exact ⟨⟨k', acc ++ [a], ns ++ [y2], _, r3, some ⟨q6, 0, none⟩, c6, hkk3, by rw [hlen]; exact hnl3, HE3, HA2, R9, M9, O9, X9, N9⟩, by rw [hrl.out, R9.out.rs.left]; exact HLr.out⟩
end Go.Proofs.Ytcmmjmgbanafgaa

/- The walk over tree.reader's item (text by make/tq9.py). -/
namespace Go.Proofs.Ytcmmjmgbanafgaa
open Go.RowKit Go.Proofs.Url Go.Proofs.Url.Syn

theorem resReadItm {W : World} {m : Nat} {v1 v2 : Value} {tmps : Array Value} (h : NB W m v1 v2) (h2 : tmps[2]?.getD undef = .pointer (some ⟨m, 0, none⟩)) :
    (results Try.f53 tmps).run Try.prog W = .ok (.agg #[v1, v2]) W := by
  obtain ⟨c0, c1, _⟩ := h
  simp [results, Try.results53, go_sem, h2, c0, c1]

set_option maxHeartbeats 2000000 in
set_option maxRecDepth 100000 in
theorem item_originT (g : Nat) (ao : Option Addr) (cap : Nat) (ts r : List Tk) (n : Nat) (w : World) (h : RS w g ao cap ts r n) (ht : TokOk ts) (hl : ts.length < 4294967281) (hw : wordR r = [111, 114, 105, 103, 105, 110]) :
    Calls Try.prog 53 #[.pointer (some ⟨g, 0, none⟩)] w fun e w' => OutG ShI (itemR r) g ao cap ts n w e w' := by
  have HW : Hid (∀ W, RS W g ao cap ts r n → Calls Try.prog 72 #[.pointer (some ⟨g, 0, none⟩)] W fun e w' => e = .returned (.string ⟨([111, 114, 105, 103, 105, 110] : List UInt8).toArray⟩) ∧ Below W.heap.size W w') := fun W a => by
    have := word_any g ao cap ts r n W a; rwa [hw] at this
  have HRel := hide (RelR.imp (rel_origin (h.tok ht) hw) fun l y hs (z : Nd) (hz : z = (l, .nil)) => (by rw [hz]; exact hs : ShI z y))
  have hgw := h.lt
  have R0 := hide (RN.new h (.slice none 0 0) (.slice none 0 0) 51)
  have HL := hide hl
  clear h hw hl ht
  go_enter Try.func53, Try.ntmps53
  go_upto_region 1 with fail
  obtain ⟨W0, hW0⟩ : ∃ x, x = w.alloc (Obj.cells #[.slice none 0 0, .slice none 0 0] 51) := ⟨_, rfl⟩
  rw [← hW0] at R0 ⊢
  clear hW0
  go_wp2_with fail
  refine (HW.out _ R0.out.rs).mono ?_
  rintro e w1 ⟨rfl, b1⟩
  have R1 := hide (R0.out.below b1)
  clear b1 R0 HW
  have hml := R1.out.nb.lt
  have hsw := R1.out.bt.size
  go_wp2_with fail
  have R2 := hide (fun o => R1.out.alloc o)
  refine ((leaf_any [w_origin, w_NAME, w_TEXT, w_semi] w1.heap.size g ao cap ts r n _ (R2.out _).rs (lits_new w1 [w_origin, w_NAME, w_TEXT, w_semi] 9) (by omega) (by simp) (by decide) HL.out).mono fun _ _ o => o.rel HRel.out).mono ?_
  rintro e w3 ⟨B3, h3⟩
  have hs3 := B3.size
  cases hx : itemR r with
  | bad r' =>
    rw [hx] at h3
    obtain ⟨rfl, S3⟩ := h3
    have R3 := hide ((R2.out _).but hgw B3 S3)
    have HX := hide hx
    clear hx B3 S3 R1 R2
    go_wp2_with fail
    exact ⟨rfl, OutG.isBad HX.out R3.out.bt R3.out.rs⟩
  | ok l r' =>
    rw [hx] at h3
    obtain ⟨y, a1, c1, a2, c2, rfl, N3, hy, S3⟩ := h3
    have R3 := hide ((R2.out _).but hgw B3 S3)
    have HO := hide (fun hm => R3.out.out (Sh := ShI) (c1 := c1) (c2 := c2) hgw hx N3 hm (by simp; omega) hy)
    have x0 := R3.out.nb.c0
    have x1 := R3.out.nb.c1
    have y0 := R3.out.nb.f0
    have y1 := R3.out.nb.f1
    have hml3 := R3.out.nb.lt
    have NF := hide (R3.out.nb.put (.slice a1 y.1.length c1) (.slice a2 y.2.len c2))
    unfold putN at NF HO
    clear hx B3 S3 R1 R2 N3 hy R3
    go_wp2_with fail
    refine bodyPost_ret (v := .agg #[.slice a1 y.1.length c1, .slice a2 y.2.len c2]) ?_ rfl ?_
    · exact resReadItm NF.out rfl
    · exact HO.out (by simp; omega)

set_option maxHeartbeats 2000000 in
set_option maxRecDepth 100000 in
theorem item_cookieT (g : Nat) (ao : Option Addr) (cap : Nat) (ts r : List Tk) (n : Nat) (w : World) (h : RS w g ao cap ts r n) (ht : TokOk ts) (hl : ts.length < 4294967281) (hw : wordR r = [99, 111, 111, 107, 105, 101]) :
    Calls Try.prog 53 #[.pointer (some ⟨g, 0, none⟩)] w fun e w' => OutG ShI (itemR r) g ao cap ts n w e w' := by
  have HW : Hid (∀ W, RS W g ao cap ts r n → Calls Try.prog 72 #[.pointer (some ⟨g, 0, none⟩)] W fun e w' => e = .returned (.string ⟨([99, 111, 111, 107, 105, 101] : List UInt8).toArray⟩) ∧ Below W.heap.size W w') := fun W a => by
    have := word_any g ao cap ts r n W a; rwa [hw] at this
  have HRel := hide (RelR.imp (rel_cookie (h.tok ht) hw) fun l y hs (z : Nd) (hz : z = (l, .nil)) => (by rw [hz]; exact hs : ShI z y))
  have hgw := h.lt
  have R0 := hide (RN.new h (.slice none 0 0) (.slice none 0 0) 51)
  have HL := hide hl
  clear h hw hl ht
  go_enter Try.func53, Try.ntmps53
  go_upto_region 1 with fail
  obtain ⟨W0, hW0⟩ : ∃ x, x = w.alloc (Obj.cells #[.slice none 0 0, .slice none 0 0] 51) := ⟨_, rfl⟩
  rw [← hW0] at R0 ⊢
  clear hW0
  go_wp2_with fail
  refine (HW.out _ R0.out.rs).mono ?_
  rintro e w1 ⟨rfl, b1⟩
  have R1 := hide (R0.out.below b1)
  clear b1 R0 HW
  have hml := R1.out.nb.lt
  have hsw := R1.out.bt.size
  go_wp2_with fail
  have R2 := hide (fun o => R1.out.alloc o)
  refine ((leaf_any [w_cookie, w_NAME, w_at, w_NAME, w_TEXT, w_semi] w1.heap.size g ao cap ts r n _ (R2.out _).rs (lits_new w1 [w_cookie, w_NAME, w_at, w_NAME, w_TEXT, w_semi] 9) (by omega) (by simp) (by decide) HL.out).mono fun _ _ o => o.rel HRel.out).mono ?_
  rintro e w3 ⟨B3, h3⟩
  have hs3 := B3.size
  cases hx : itemR r with
  | bad r' =>
    rw [hx] at h3
    obtain ⟨rfl, S3⟩ := h3
    have R3 := hide ((R2.out _).but hgw B3 S3)
    have HX := hide hx
    clear hx B3 S3 R1 R2
    go_wp2_with fail
    exact ⟨rfl, OutG.isBad HX.out R3.out.bt R3.out.rs⟩
  | ok l r' =>
    rw [hx] at h3
    obtain ⟨y, a1, c1, a2, c2, rfl, N3, hy, S3⟩ := h3
    have R3 := hide ((R2.out _).but hgw B3 S3)
    have HO := hide (fun hm => R3.out.out (Sh := ShI) (c1 := c1) (c2 := c2) hgw hx N3 hm (by simp; omega) hy)
    have x0 := R3.out.nb.c0
    have x1 := R3.out.nb.c1
    have y0 := R3.out.nb.f0
    have y1 := R3.out.nb.f1
    have hml3 := R3.out.nb.lt
    have NF := hide (R3.out.nb.put (.slice a1 y.1.length c1) (.slice a2 y.2.len c2))
    unfold putN at NF HO
    clear hx B3 S3 R1 R2 N3 hy R3
    go_wp2_with fail
    refine bodyPost_ret (v := .agg #[.slice a1 y.1.length c1, .slice a2 y.2.len c2]) ?_ rfl ?_
    · exact resReadItm NF.out rfl
    · exact HO.out (by simp; omega)

set_option maxHeartbeats 2000000 in
set_option maxRecDepth 100000 in
theorem item_secretT (g : Nat) (ao : Option Addr) (cap : Nat) (ts r : List Tk) (n : Nat) (w : World) (h : RS w g ao cap ts r n) (ht : TokOk ts) (hl : ts.length < 4294967281) (hw : wordR r = [115, 101, 99, 114, 101, 116]) :
    Calls Try.prog 53 #[.pointer (some ⟨g, 0, none⟩)] w fun e w' => OutG ShI (itemR r) g ao cap ts n w e w' := by
  have HW : Hid (∀ W, RS W g ao cap ts r n → Calls Try.prog 72 #[.pointer (some ⟨g, 0, none⟩)] W fun e w' => e = .returned (.string ⟨([115, 101, 99, 114, 101, 116] : List UInt8).toArray⟩) ∧ Below W.heap.size W w') := fun W a => by
    have := word_any g ao cap ts r n W a; rwa [hw] at this
  have HRel := hide (RelR.imp (rel_secret (h.tok ht) hw) fun l y hs (z : Nd) (hz : z = (l, .nil)) => (by rw [hz]; exact hs : ShI z y))
  have hgw := h.lt
  have R0 := hide (RN.new h (.slice none 0 0) (.slice none 0 0) 51)
  have HL := hide hl
  clear h hw hl ht
  go_enter Try.func53, Try.ntmps53
  go_upto_region 1 with fail
  obtain ⟨W0, hW0⟩ : ∃ x, x = w.alloc (Obj.cells #[.slice none 0 0, .slice none 0 0] 51) := ⟨_, rfl⟩
  rw [← hW0] at R0 ⊢
  clear hW0
  go_wp2_with fail
  refine (HW.out _ R0.out.rs).mono ?_
  rintro e w1 ⟨rfl, b1⟩
  have R1 := hide (R0.out.below b1)
  clear b1 R0 HW
  have hml := R1.out.nb.lt
  have hsw := R1.out.bt.size
  go_wp2_with fail
  have R2 := hide (fun o => R1.out.alloc o)
  refine ((leaf_any [w_secret, w_NAME, w_semi] w1.heap.size g ao cap ts r n _ (R2.out _).rs (lits_new w1 [w_secret, w_NAME, w_semi] 9) (by omega) (by simp) (by decide) HL.out).mono fun _ _ o => o.rel HRel.out).mono ?_
  rintro e w3 ⟨B3, h3⟩
  have hs3 := B3.size
  cases hx : itemR r with
  | bad r' =>
    rw [hx] at h3
    obtain ⟨rfl, S3⟩ := h3
    have R3 := hide ((R2.out _).but hgw B3 S3)
    have HX := hide hx
    clear hx B3 S3 R1 R2
    go_wp2_with fail
    exact ⟨rfl, OutG.isBad HX.out R3.out.bt R3.out.rs⟩
  | ok l r' =>
    rw [hx] at h3
    obtain ⟨y, a1, c1, a2, c2, rfl, N3, hy, S3⟩ := h3
    have R3 := hide ((R2.out _).but hgw B3 S3)
    have HO := hide (fun hm => R3.out.out (Sh := ShI) (c1 := c1) (c2 := c2) hgw hx N3 hm (by simp; omega) hy)
    have x0 := R3.out.nb.c0
    have x1 := R3.out.nb.c1
    have y0 := R3.out.nb.f0
    have y1 := R3.out.nb.f1
    have hml3 := R3.out.nb.lt
    have NF := hide (R3.out.nb.put (.slice a1 y.1.length c1) (.slice a2 y.2.len c2))
    unfold putN at NF HO
    clear hx B3 S3 R1 R2 N3 hy R3
    go_wp2_with fail
    refine bodyPost_ret (v := .agg #[.slice a1 y.1.length c1, .slice a2 y.2.len c2]) ?_ rfl ?_
    · exact resReadItm NF.out rfl
    · exact HO.out (by simp; omega)

set_option maxHeartbeats 2000000 in
set_option maxRecDepth 100000 in
theorem item_networkT (g : Nat) (ao : Option Addr) (cap : Nat) (ts r : List Tk) (n : Nat) (w : World) (h : RS w g ao cap ts r n) (ht : TokOk ts) (hl : ts.length < 4294967281) (hw : wordR r = [110, 101, 116, 119, 111, 114, 107]) :
    Calls Try.prog 53 #[.pointer (some ⟨g, 0, none⟩)] w fun e w' => OutG ShI (itemR r) g ao cap ts n w e w' := by
  have HW : Hid (∀ W, RS W g ao cap ts r n → Calls Try.prog 72 #[.pointer (some ⟨g, 0, none⟩)] W fun e w' => e = .returned (.string ⟨([110, 101, 116, 119, 111, 114, 107] : List UInt8).toArray⟩) ∧ Below W.heap.size W w') := fun W a => by
    have := word_any g ao cap ts r n W a; rwa [hw] at this
  have HRel := hide (RelR.imp (rel_network (h.tok ht) hw) fun l y hs (z : Nd) (hz : z = (l, .nil)) => (by rw [hz]; exact hs : ShI z y))
  have hgw := h.lt
  have R0 := hide (RN.new h (.slice none 0 0) (.slice none 0 0) 51)
  have HL := hide hl
  clear h hw hl ht
  go_enter Try.func53, Try.ntmps53
  go_upto_region 1 with fail
  obtain ⟨W0, hW0⟩ : ∃ x, x = w.alloc (Obj.cells #[.slice none 0 0, .slice none 0 0] 51) := ⟨_, rfl⟩
  rw [← hW0] at R0 ⊢
  clear hW0
  go_wp2_with fail
  refine (HW.out _ R0.out.rs).mono ?_
  rintro e w1 ⟨rfl, b1⟩
  have R1 := hide (R0.out.below b1)
  clear b1 R0 HW
  have hml := R1.out.nb.lt
  have hsw := R1.out.bt.size
  go_wp2_with fail
  have R2 := hide (fun o => R1.out.alloc o)
  refine ((leaf_any [w_network, w_semi] w1.heap.size g ao cap ts r n _ (R2.out _).rs (lits_new w1 [w_network, w_semi] 9) (by omega) (by simp) (by decide) HL.out).mono fun _ _ o => o.rel HRel.out).mono ?_
  rintro e w3 ⟨B3, h3⟩
  have hs3 := B3.size
  cases hx : itemR r with
  | bad r' =>
    rw [hx] at h3
    obtain ⟨rfl, S3⟩ := h3
    have R3 := hide ((R2.out _).but hgw B3 S3)
    have HX := hide hx
    clear hx B3 S3 R1 R2
    go_wp2_with fail
    exact ⟨rfl, OutG.isBad HX.out R3.out.bt R3.out.rs⟩
  | ok l r' =>
    rw [hx] at h3
    obtain ⟨y, a1, c1, a2, c2, rfl, N3, hy, S3⟩ := h3
    have R3 := hide ((R2.out _).but hgw B3 S3)
    have HO := hide (fun hm => R3.out.out (Sh := ShI) (c1 := c1) (c2 := c2) hgw hx N3 hm (by simp; omega) hy)
    have x0 := R3.out.nb.c0
    have x1 := R3.out.nb.c1
    have y0 := R3.out.nb.f0
    have y1 := R3.out.nb.f1
    have hml3 := R3.out.nb.lt
    have NF := hide (R3.out.nb.put (.slice a1 y.1.length c1) (.slice a2 y.2.len c2))
    unfold putN at NF HO
    clear hx B3 S3 R1 R2 N3 hy R3
    go_wp2_with fail
    refine bodyPost_ret (v := .agg #[.slice a1 y.1.length c1, .slice a2 y.2.len c2]) ?_ rfl ?_
    · exact resReadItm NF.out rfl
    · exact HO.out (by simp; omega)

set_option maxHeartbeats 2000000 in
set_option maxRecDepth 100000 in
theorem item_endpointT (g : Nat) (ao : Option Addr) (cap : Nat) (ts r : List Tk) (n : Nat) (w : World) (h : RS w g ao cap ts r n) (ht : TokOk ts) (hl : ts.length < 4294967281) (hw : wordR r = [101, 110, 100, 112, 111, 105, 110, 116]) :
    Calls Try.prog 53 #[.pointer (some ⟨g, 0, none⟩)] w fun e w' => OutG ShI (itemR r) g ao cap ts n w e w' := by
  have HW : Hid (∀ W, RS W g ao cap ts r n → Calls Try.prog 72 #[.pointer (some ⟨g, 0, none⟩)] W fun e w' => e = .returned (.string ⟨([101, 110, 100, 112, 111, 105, 110, 116] : List UInt8).toArray⟩) ∧ Below W.heap.size W w') := fun W a => by
    have := word_any g ao cap ts r n W a; rwa [hw] at this
  have HRel := hide (fun W (a : RS W g ao cap ts r n) => endpoint_any g ao cap ts r n W a ht hl hw)
  have hgw := h.lt
  have R0 := hide (RN.new h (.slice none 0 0) (.slice none 0 0) 51)
  have HL := hide hl
  clear h hw hl ht
  go_enter Try.func53, Try.ntmps53
  go_upto_region 1 with fail
  obtain ⟨W0, hW0⟩ : ∃ x, x = w.alloc (Obj.cells #[.slice none 0 0, .slice none 0 0] 51) := ⟨_, rfl⟩
  rw [← hW0] at R0 ⊢
  clear hW0
  go_wp2_with fail
  refine (HW.out _ R0.out.rs).mono ?_
  rintro e w1 ⟨rfl, b1⟩
  have R1 := hide (R0.out.below b1)
  clear b1 R0 HW
  have hml := R1.out.nb.lt
  have hsw := R1.out.bt.size
  go_wp2_with fail
  refine (HRel.out _ R1.out.rs).mono ?_
  rintro e w3 ⟨B3, h3⟩
  have hs3 := B3.size
  cases hx : itemR r with
  | bad r' =>
    rw [hx] at h3
    obtain ⟨rfl, S3⟩ := h3
    have R3 := hide (R1.out.but hgw B3 S3)
    have HX := hide hx
    clear hx B3 S3 R1 HRel
    go_wp2_with fail
    exact ⟨rfl, OutG.isBad HX.out R3.out.bt R3.out.rs⟩
  | ok l r' =>
    rw [hx] at h3
    obtain ⟨y, a1, c1, a2, c2, rfl, N3, hy, S3⟩ := h3
    have R3 := hide (R1.out.but hgw B3 S3)
    have HO := hide (fun hm => R3.out.out (Sh := ShI) (c1 := c1) (c2 := c2) hgw hx N3 hm (by omega) hy)
    have x0 := R3.out.nb.c0
    have x1 := R3.out.nb.c1
    have y0 := R3.out.nb.f0
    have y1 := R3.out.nb.f1
    have hml3 := R3.out.nb.lt
    have NF := hide (R3.out.nb.put (.slice a1 y.1.length c1) (.slice a2 y.2.len c2))
    unfold putN at NF HO
    clear hx B3 S3 R1 HRel N3 hy R3
    go_wp2_with fail
    refine bodyPost_ret (v := .agg #[.slice a1 y.1.length c1, .slice a2 y.2.len c2]) ?_ rfl ?_
    · exact resReadItm NF.out rfl
    · exact HO.out (by omega)

set_option maxHeartbeats 2000000 in
set_option maxRecDepth 100000 in
theorem item_propertyT (g : Nat) (ao : Option Addr) (cap : Nat) (ts r : List Tk) (n : Nat) (w : World) (h : RS w g ao cap ts r n) (ht : TokOk ts) (hl : ts.length < 4294967281) (hw : wordR r = [112, 114, 111, 112, 101, 114, 116, 121]) :
    Calls Try.prog 53 #[.pointer (some ⟨g, 0, none⟩)] w fun e w' => OutG ShI (itemR r) g ao cap ts n w e w' := by
  have HW : Hid (∀ W, RS W g ao cap ts r n → Calls Try.prog 72 #[.pointer (some ⟨g, 0, none⟩)] W fun e w' => e = .returned (.string ⟨([112, 114, 111, 112, 101, 114, 116, 121] : List UInt8).toArray⟩) ∧ Below W.heap.size W w') := fun W a => by
    have := word_any g ao cap ts r n W a; rwa [hw] at this
  have HRel := hide (fun W (a : RS W g ao cap ts r n) => property_any g ao cap ts r n W a ht hl hw)
  have hgw := h.lt
  have R0 := hide (RN.new h (.slice none 0 0) (.slice none 0 0) 51)
  have HL := hide hl
  clear h hw hl ht
  go_enter Try.func53, Try.ntmps53
  go_upto_region 1 with fail
  obtain ⟨W0, hW0⟩ : ∃ x, x = w.alloc (Obj.cells #[.slice none 0 0, .slice none 0 0] 51) := ⟨_, rfl⟩
  rw [← hW0] at R0 ⊢
  clear hW0
  go_wp2_with fail
  refine (HW.out _ R0.out.rs).mono ?_
  rintro e w1 ⟨rfl, b1⟩
  have R1 := hide (R0.out.below b1)
  clear b1 R0 HW
  have hml := R1.out.nb.lt
  have hsw := R1.out.bt.size
  go_wp2_with fail
  refine (HRel.out _ R1.out.rs).mono ?_
  rintro e w3 ⟨B3, h3⟩
  have hs3 := B3.size
  cases hx : itemR r with
  | bad r' =>
    rw [hx] at h3
    obtain ⟨rfl, S3⟩ := h3
    have R3 := hide (R1.out.but hgw B3 S3)
    have HX := hide hx
    clear hx B3 S3 R1 HRel
    go_wp2_with fail
    exact ⟨rfl, OutG.isBad HX.out R3.out.bt R3.out.rs⟩
  | ok l r' =>
    rw [hx] at h3
    obtain ⟨y, a1, c1, a2, c2, rfl, N3, hy, S3⟩ := h3
    have R3 := hide (R1.out.but hgw B3 S3)
    have HO := hide (fun hm => R3.out.out (Sh := ShI) (c1 := c1) (c2 := c2) hgw hx N3 hm (by omega) hy)
    have x0 := R3.out.nb.c0
    have x1 := R3.out.nb.c1
    have y0 := R3.out.nb.f0
    have y1 := R3.out.nb.f1
    have hml3 := R3.out.nb.lt
    have NF := hide (R3.out.nb.put (.slice a1 y.1.length c1) (.slice a2 y.2.len c2))
    unfold putN at NF HO
    clear hx B3 S3 R1 HRel N3 hy R3
    go_wp2_with fail
    refine bodyPost_ret (v := .agg #[.slice a1 y.1.length c1, .slice a2 y.2.len c2]) ?_ rfl ?_
    · exact resReadItm NF.out rfl
    · exact HO.out (by omega)

set_option maxHeartbeats 2000000 in
set_option maxRecDepth 100000 in
theorem item_otherT (g : Nat) (ao : Option Addr) (cap : Nat) (ts r : List Tk) (n : Nat) (w : World) (h : RS w g ao cap ts r n) (hn : ∀ x ∈ [w_origin, w_cookie, w_secret, w_network, w_endpoint, w_property], (wordR r == x) = false) :
    Calls Try.prog 53 #[.pointer (some ⟨g, 0, none⟩)] w fun e w' => OutG ShI (.bad r) g ao cap ts n w e w' := by
  have HW := hide (fun W (a : RS W g ao cap ts r n) => word_any g ao cap ts r n W a)
  generalize wordR r = wd at *
  have e0 : (wd == [111, 114, 105, 103, 105, 110]) = false := hn _ (by decide)
  have e1 : (wd == [99, 111, 111, 107, 105, 101]) = false := hn _ (by decide)
  have e2 : (wd == [115, 101, 99, 114, 101, 116]) = false := hn _ (by decide)
  have e3 : (wd == [110, 101, 116, 119, 111, 114, 107]) = false := hn _ (by decide)
  have e4 : (wd == [101, 110, 100, 112, 111, 105, 110, 116]) = false := hn _ (by decide)
  have e5 : (wd == [112, 114, 111, 112, 101, 114, 116, 121]) = false := hn _ (by decide)
  have R0 := hide (RN.new h (.slice none 0 0) (.slice none 0 0) 51)
  clear h hn
  go_enter Try.func53, Try.ntmps53
  go_upto_region 1 with fail
  obtain ⟨W0, hW0⟩ : ∃ x, x = w.alloc (Obj.cells #[.slice none 0 0, .slice none 0 0] 51) := ⟨_, rfl⟩
  rw [← hW0] at R0 ⊢
  clear hW0
  go_wp2_with fail
  refine (HW.out _ R0.out.rs).mono ?_
  rintro e w1 ⟨rfl, b1⟩
  have R1 := hide (R0.out.below b1)
  clear b1 R0 HW
  go_wp2_with fail
  exact ⟨rfl, OutG.isBad rfl R1.out.bt R1.out.rs⟩
theorem item_any (g : Nat) (ao : Option Addr) (cap : Nat) (ts r : List Tk) (n : Nat) (w : World) (h : RS w g ao cap ts r n) (ht : TokOk ts) (hl : ts.length < 4294967281) :
    Calls Try.prog 53 #[.pointer (some ⟨g, 0, none⟩)] w fun e w' => OutG ShI (itemR r) g ao cap ts n w e w' := by
  by_cases q_origin : wordR r = [111, 114, 105, 103, 105, 110]
  · exact item_originT g ao cap ts r n w h ht hl q_origin
  by_cases q_cookie : wordR r = [99, 111, 111, 107, 105, 101]
  · exact item_cookieT g ao cap ts r n w h ht hl q_cookie
  by_cases q_secret : wordR r = [115, 101, 99, 114, 101, 116]
  · exact item_secretT g ao cap ts r n w h ht hl q_secret
  by_cases q_network : wordR r = [110, 101, 116, 119, 111, 114, 107]
  · exact item_networkT g ao cap ts r n w h ht hl q_network
  by_cases q_endpoint : wordR r = [101, 110, 100, 112, 111, 105, 110, 116]
  · exact item_endpointT g ao cap ts r n w h ht hl q_endpoint
  by_cases q_property : wordR r = [112, 114, 111, 112, 101, 114, 116, 121]
  · exact item_propertyT g ao cap ts r n w h ht hl q_property
  have hn : ∀ x ∈ [w_origin, w_cookie, w_secret, w_network, w_endpoint, w_property], (wordR r == x) = false := by
    intro x hx
    refine beq_eq_false_iff_ne.2 fun e => ?_
    simp at hx
    rcases hx with rfl | rfl | rfl | rfl | rfl | rfl
    all_goals contradiction
  have := item_otherT g ao cap ts r n w h hn
  rwa [← item_noneq (h.tok ht) (not_contains hn)] at this
end Go.Proofs.Ytcmmjmgbanafgaa
