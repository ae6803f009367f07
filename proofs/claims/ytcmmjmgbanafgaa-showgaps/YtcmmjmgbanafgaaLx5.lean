/- The contracts that package lex must give (LexOk); the walks over moatlaw9.same and moatlaw9.awake under them. -/
import Derived.Test.YtcmmjmgbanafgaaLx4
namespace Go.Proofs.Ytcmmjmgbanafgaa
open Go.RowKit Go.Proofs.Url

/-- What package lex must give. -/
structure LexOk : Prop where
  toks : ∀ (s : List UInt8) (w : World), Env w → s.length < 4294967281 → Calls Try.prog 12 #[.string ⟨s.toArray⟩] w fun e w' => TokPost s w e w'
  word : ∀ (s : List UInt8) (w : World), Env w → s.length < 4294967281 → Calls Try.prog 49 #[.string ⟨s.toArray⟩] w fun e w' => e = .returned (.bool (wordS s)) ∧ Below w.heap.size w w'
/-- A row of tokens, as far as a walk reads it. -/
def TksAt (W : World) (ao : Option Addr) (ts : List Tk) : Prop :=
  ∀ k (h : k < ts.length), ∃ g, ao = some ⟨g, 0, none⟩ ∧ g < W.heap.size ∧ W.cell? ⟨g, k * 3, none⟩ = some (.int .i64 ts[k].kind) ∧ W.cell? ⟨g, k * 3 + 1, none⟩ = some (.int .i64 ts[k].at') ∧ W.cell? ⟨g, k * 3 + 2, none⟩ = some (.string ⟨ts[k].text.toArray⟩)
theorem TksAt.keep {W W' : World} {ao : Option Addr} {ts : List Tk} (h : TksAt W ao ts) (hb : Below W.heap.size W W') : TksAt W' ao ts := by
  intro k hk
  obtain ⟨g, h1, h2, h3, h4, h5⟩ := h k hk
  exact ⟨g, h1, Nat.lt_of_lt_of_le h2 hb.size, by rw [hb.cell (p := ⟨g, k * 3, none⟩) h2]; exact h3, by rw [hb.cell (p := ⟨g, k * 3 + 1, none⟩) h2]; exact h4, by rw [hb.cell (p := ⟨g, k * 3 + 2, none⟩) h2]; exact h5⟩
theorem flat3t (ts : List Tk) : ∀ k (h : k < ts.length) j v, (tkCells ts[k])[j]? = some v → (ts.flatMap tkCells)[k * 3 + j]? = some v := by
  induction ts with
  | nil => intro k h; simp at h
  | cons p ps ih =>
    intro k h j v hv
    have hl : (tkCells p).length = 3 := rfl
    rw [List.flatMap_cons]
    cases k with
    | zero =>
      have hj : j < 3 := by
        rcases Nat.lt_or_ge j 3 with h | h
        · exact h
        · rw [List.getElem?_eq_none (by rw [show (tkCells (p :: ps)[0]).length = 3 from rfl]; exact h)] at hv; cases hv
      rw [Nat.zero_mul, Nat.zero_add, List.getElem?_append_left (by omega)]
      exact hv
    | succ k =>
      rw [List.getElem?_append_right (by omega), hl, show (k + 1) * 3 + j - 3 = k * 3 + j by omega]
      exact ih k (by simpa using h) j v hv
theorem owns_tks {w : World} {base : Nat} {ao : Option Addr} {cap : Nat} {ts : List Tk} (h : w.ownsRow base 39 3 (.slice ao ts.length cap) ts.length (ts.flatMap tkCells)) : TksAt w ao ts := by
  intro k hk
  rcases h.2 with ⟨hv, h0⟩ | ⟨g', cap', cur, hv, hg, hh, hn, hm, hsz, htk⟩
  · omega
  · simp only [Value.slice.injEq, true_and] at hv
    obtain ⟨rfl, rfl⟩ := hv
    have hlt : g' < w.heap.size := by
      rcases Nat.lt_or_ge g' w.heap.size with h | h
      · exact h
      · rw [Array.getElem?_eq_none h] at hh; cases hh
    have hc : ∀ j v, j < 3 → (tkCells ts[k])[j]? = some v → w.cell? ⟨g', k * 3 + j, none⟩ = some v := by
      intro j v hj3 hj
      have hf := flat3t ts k hk j v hj
      have : (cur.toList.take (ts.length * 3))[k * 3 + j]? = (ts.flatMap tkCells)[k * 3 + j]? := by rw [htk]
      rw [List.getElem?_take, if_pos (by omega), hf] at this
      have e : w.cell? ⟨g', k * 3 + j, none⟩ = cur[k * 3 + j]? := by simp [World.cell?, hh]
      rw [e]; simpa using this
    exact ⟨g', rfl, hlt, hc 0 _ (by decide) rfl, hc 1 _ (by decide) rfl, hc 2 _ (by decide) rfl⟩

theorem LexOk.good (ok : LexOk) {s : List UInt8} {ts : List Tk} (h : toksS s = .ok ts) (w : World) (henv : Env w) (hs : s.length < 4294967281) :
    Calls Try.prog 12 #[.string ⟨s.toArray⟩] w fun e w' => ∃ (ao : Option Addr) (cap : Nat), e = .returned (.tuple #[.slice ao ts.length cap, .agg #[.int .i64 0, .int .i64 0]]) ∧ TksAt w' ao ts ∧ Below w.heap.size w w' := by
  refine (ok.toks s w henv hs).mono ?_
  rintro e w' ⟨ao, cap, us, c, p, rfl, hown, ht, hB⟩
  rcases ht with ⟨h1, rfl, rfl⟩ | ⟨h1, _⟩
  · rw [h] at h1
    cases h1
    exact ⟨ao, cap, rfl, owns_tks hown, hB⟩
  · rw [h] at h1; cases h1
theorem LexOk.bad (ok : LexOk) {s : List UInt8} {c p : Nat} (h : toksS s = .bad c p) (w : World) (henv : Env w) (hs : s.length < 4294967281) :
    Calls Try.prog 12 #[.string ⟨s.toArray⟩] w fun e w' => ∃ (ao : Option Addr) (cap : Nat), e = .returned (.tuple #[.slice ao 0 cap, .agg #[.int .i64 (c : Int), .int .i64 (p : Int)]]) ∧ Below w.heap.size w w' := by
  refine (ok.toks s w henv hs).mono ?_
  rintro e w' ⟨ao, cap, us, c', p', rfl, hown, ht, hB⟩
  rcases ht with ⟨h1, _, _⟩ | ⟨h1, h2⟩
  · rw [h] at h1; cases h1
  · rw [h] at h1
    cases h1
    subst h2
    exact ⟨ao, cap, rfl, hB⟩
theorem al9a : toksS [111, 119, 110, 32, 120, 59, 32, 35, 32, 121] = .ok [⟨2, 0, [111, 119, 110]⟩, ⟨1, 4, [120]⟩, ⟨4, 5, [59]⟩] := by decide +kernel
theorem al9b : toksS [97, 32, 34] = .bad 3 2 := by decide +kernel
theorem al9c : wordS [99, 115, 112] = true := by decide +kernel
theorem ag1 (ok : LexOk) (w : World) (henv : Env w) : Calls Try.prog 12 #[.string ⟨#[111, 119, 110, 32, 120, 59, 32, 35, 32, 121]⟩] w fun e w' => ∃ (g cap : Nat), e = .returned (.tuple #[.slice (some ⟨g, 0, none⟩) 3 cap, .agg #[.int .i64 0, .int .i64 0]]) ∧ TksAt w' (some ⟨g, 0, none⟩) [⟨2, 0, [111, 119, 110]⟩, ⟨1, 4, [120]⟩, ⟨4, 5, [59]⟩] ∧ Below w.heap.size w w' := by
  refine (ok.good al9a w henv (by decide)).mono ?_
  rintro e w' ⟨ao, cap, rfl, hT, hB⟩
  obtain ⟨g, rfl, _⟩ := hT 0 (by decide)
  exact ⟨g, cap, rfl, hT, hB⟩
theorem ag2 (ok : LexOk) (w : World) (henv : Env w) : Calls Try.prog 12 #[.string ⟨#[97, 32, 34]⟩] w fun e w' => ∃ (ao : Option Addr) (cap : Nat), e = .returned (.tuple #[.slice ao 0 cap, .agg #[.int .i64 3, .int .i64 2]]) ∧ Below w.heap.size w w' := ok.bad al9b w henv (by decide)
theorem ag3 (ok : LexOk) (w : World) (henv : Env w) : Calls Try.prog 49 #[.string ⟨#[99, 115, 112]⟩] w fun e w' => e = .returned (.bool true) ∧ Below w.heap.size w w' := by
  have h := ok.word [99, 115, 112] w henv (by decide)
  rw [al9c] at h; exact h

end Go.Proofs.Ytcmmjmgbanafgaa
