/- Plain mathematics of chapter 3, as the program goes: trimmed from the right first; pieces between a byte; lists and pairs by pieces. -/
import Derived.Test.YtfbalmamhcbojaaDoorF2
import Derived.Lib.SlTrimSet
namespace Go.Proofs.Url

theorem contains_gap (b : UInt8) : ([32, 9] : List UInt8).contains b = gapB b :=
  of_decide_eq_true (all_bytes (fun b => decide (([32, 9] : List UInt8).contains b = gapB b)) (by decide +kernel) b)
theorem gap_take (l : List UInt8) : (l.takeWhile gapB).all gapB = true := by
  induction l with
  | nil => rfl
  | cons x l ih =>
    rw [List.takeWhile_cons]
    split
    · rename_i h; rw [List.all_cons, h, ih]; rfl
    · rfl
theorem trim_split (l : List UInt8) : ∃ g g' : List UInt8, g.all gapB = true ∧ g'.all gapB = true ∧ l = g ++ trimS l ++ g' := by
  refine ⟨l.takeWhile gapB, ((trimL l).reverse.takeWhile gapB).reverse, gap_take l, by rw [List.all_reverse]; exact gap_take _, ?_⟩
  have h1 : l.takeWhile gapB ++ trimL l = l := List.takeWhile_append_dropWhile
  have h2 : (trimL l).reverse.takeWhile gapB ++ (trimL l).reverse.dropWhile gapB = (trimL l).reverse := List.takeWhile_append_dropWhile
  have h3 : trimS l ++ ((trimL l).reverse.takeWhile gapB).reverse = trimL l := by
    have := congrArg List.reverse h2
    rw [List.reverse_append, List.reverse_reverse] at this
    exact this
  rw [List.append_assoc, h3, h1]
theorem trim_rev (l : List UInt8) : (trimS l.reverse).reverse = trimS l := by
  obtain ⟨g, g', hg, hg', e⟩ := trim_split l.reverse
  have e2 : l = g'.reverse ++ (trimS l.reverse).reverse ++ g.reverse := by
    have := congrArg List.reverse e
    rw [List.reverse_reverse, List.reverse_append, List.reverse_append, ← List.append_assoc] at this
    exact this
  have h1 : trimS l = trimS (trimS l.reverse).reverse := by
    conv => lhs; rw [e2]
    exact trimS_gaps (by rw [List.all_reverse]; exact hg') (by rw [List.all_reverse]; exact hg) _
  rw [h1]
  rcases trimS_ends l.reverse with h | ⟨a, b, ha, hb, ga, gb⟩
  · rw [h]; rfl
  · show _ = trimR (trimL _)
    rw [trimL_same (a := b) (by rw [List.head?_reverse]; exact hb) gb, trimR_same (b := a) (by rw [List.getLast?_reverse]; exact ha) ga]
theorem trim_lib (l : List UInt8) : Lib.trimS l [32, 9] = trimS l := by
  rw [← trim_rev]
  unfold Lib.trimS Lib.trimLeftS Lib.trimRightS trimS trimR trimL
  have e : (fun x : UInt8 => ([32, 9] : List UInt8).contains x) = gapB := funext contains_gap
  rw [e, List.reverse_reverse]

/-- What stands between a byte: trimmed, empty ones left out. -/
def piecesS (c : UInt8) (l : List UInt8) : List (List UInt8) := ((parts c l).map trimS).filter (fun t => !t.isEmpty)
theorem lower_empty (t : List UInt8) : (lowerS t).isEmpty = t.isEmpty := by cases t <;> rfl
theorem items_pieces (l : List UInt8) : itemsS l = (piecesS 44 l).map lowerS := by
  unfold itemsS piecesS
  rw [show (parts 44 l).map (fun p => lowerS (trimS p)) = ((parts 44 l).map trimS).map lowerS by rw [List.map_map]; rfl, List.filter_map]
  congr 1
  congr 1
  funext t
  show (!(lowerS t).isEmpty) = _
  rw [lower_empty]
theorem listOk_pieces (l : List UInt8) : listOk l = (piecesS 44 l).all nameS := by
  unfold listOk
  rw [items_pieces, List.all_map]
  congr 1
  funext t
  exact nameS_lowerS t
theorem pairs_pieces (l : List UInt8) : pairsS l = (piecesS 59 l).map pairOf := rfl
def one (t : List UInt8) : List (List UInt8) := if t.isEmpty then [] else [t]
theorem filter_one (t : List UInt8) (r : List (List UInt8)) : (t :: r).filter (fun t => !t.isEmpty) = one t ++ r.filter (fun t => !t.isEmpty) := by
  rw [List.filter_cons]; unfold one
  cases t <;> rfl
theorem pieces_at (c : UInt8) (a b : List UInt8) (h : ∀ x ∈ a, x ≠ c) : piecesS c (a ++ c :: b) = one (trimS a) ++ piecesS c b := by
  unfold piecesS; rw [parts_at c a b h, List.map_cons, filter_one]
theorem pieces_last (c : UInt8) (a : List UInt8) (h : ∀ x ∈ a, x ≠ c) : piecesS c a = one (trimS a) := by
  unfold piecesS; rw [parts_none c a h, List.map_cons, filter_one]; simp
theorem pieces_count (c : UInt8) (l : List UInt8) : (piecesS c l).length ≤ l.length + 1 := by
  have h := parts_count c l
  have h2 := List.length_filter_le (fun t : List UInt8 => !t.isEmpty) ((parts c l).map trimS)
  unfold piecesS; rw [List.length_map] at h2; omega
theorem pieces_le (c : UInt8) (l p : List UInt8) (h : p ∈ piecesS c l) : p.length ≤ l.length := by
  unfold piecesS at h
  obtain ⟨h1, _⟩ := List.mem_filter.1 h
  obtain ⟨q, hq, rfl⟩ := List.mem_map.1 h1
  have := parts_le c l q hq
  have := trimS_len q
  omega
/-- Where a walk over the pieces stands: so many lie in its row, the rest is not yet cut. -/
def PieceInv (c : UInt8) (l : List UInt8) (ps : List ByteArray) (cur : List UInt8) (b : Bool) : Prop :=
  if b = true then piecesS c l = ps.map (·.data.toList) ++ piecesS c cur else piecesS c l = ps.map (·.data.toList)
theorem piece_start (c : UInt8) (l : List UInt8) : PieceInv c l [] l true := by unfold PieceInv; simp
theorem piece_step {c : UInt8} {l : List UInt8} {ps : List ByteArray} {a b : List UInt8} (h : PieceInv c l ps (a ++ c :: b) true) (hn : ∀ x ∈ a, x ≠ c) (he : trimS a ≠ []) : PieceInv c l (ps ++ [⟨(trimS a).toArray⟩]) b true := by
  unfold PieceInv at *; rw [if_pos rfl] at *; rw [h, pieces_at c a b hn]
  unfold one; rw [if_neg (by simpa using he)]; simp
theorem piece_skip {c : UInt8} {l : List UInt8} {ps : List ByteArray} {a b : List UInt8} (h : PieceInv c l ps (a ++ c :: b) true) (hn : ∀ x ∈ a, x ≠ c) (he : trimS a = []) : PieceInv c l ps b true := by
  unfold PieceInv at *; rw [if_pos rfl] at *; rw [h, pieces_at c a b hn]
  unfold one; rw [he]; simp
theorem piece_last {c : UInt8} {l : List UInt8} {ps : List ByteArray} {a : List UInt8} (h : PieceInv c l ps a true) (hn : ∀ x ∈ a, x ≠ c) (he : trimS a ≠ []) : PieceInv c l (ps ++ [⟨(trimS a).toArray⟩]) [] false := by
  unfold PieceInv at *; rw [if_pos rfl] at h; rw [if_neg (by decide), h, pieces_last c a hn]
  unfold one; rw [if_neg (by simpa using he)]; simp
theorem piece_done {c : UInt8} {l : List UInt8} {ps : List ByteArray} {a : List UInt8} (h : PieceInv c l ps a true) (hn : ∀ x ∈ a, x ≠ c) (he : trimS a = []) : PieceInv c l ps [] false := by
  unfold PieceInv at *; rw [if_pos rfl] at h; rw [if_neg (by decide), h, pieces_last c a hn]
  unfold one; rw [he]; simp
end Go.Proofs.Url
