/- Plain mathematics of chapter 3: names, small letters, what is trimmed, lists, pairs. No program is named here. -/
import Derived.Test.YtfbalmamhcbojaaDoorD2
namespace Go.Proofs.Url

def gapB (c : UInt8) : Bool := decide (c = 32) || decide (c = 9)
def upB (c : UInt8) : Bool := decide (65 ≤ c.toNat ∧ c.toNat ≤ 90)
def lowerB (c : UInt8) : UInt8 := if upB c then c + 32 else c
def signs : List UInt8 := [33, 35, 36, 37, 38, 39, 42, 43, 45, 46, 94, 95, 124, 126, 96]
def nameB (c : UInt8) : Bool := decide (97 ≤ c.toNat ∧ c.toNat ≤ 122) || upB c || decide (48 ≤ c.toNat ∧ c.toNat ≤ 57) || signs.contains c
def nameS (l : List UInt8) : Bool := decide (1 ≤ l.length ∧ l.length ≤ 40) && l.all nameB
def lowerS (l : List UInt8) : List UInt8 := l.map lowerB
def trimL (l : List UInt8) : List UInt8 := l.dropWhile gapB
def trimR (l : List UInt8) : List UInt8 := (l.reverse.dropWhile gapB).reverse
def trimS (l : List UInt8) : List UInt8 := trimR (trimL l)

theorem all_bytes (p : UInt8 → Bool) (h : ∀ n : Fin 256, p (UInt8.ofNat n) = true) (c : UInt8) : p c = true := by
  have := h ⟨c.toNat, c.toNat_lt⟩
  simpa using this
theorem lower_lower (c : UInt8) : lowerB (lowerB c) = lowerB c :=
  of_decide_eq_true (all_bytes (fun c => decide (lowerB (lowerB c) = lowerB c)) (by decide +kernel) c)
theorem lower_name (c : UInt8) : nameB (lowerB c) = nameB c :=
  of_decide_eq_true (all_bytes (fun c => decide (nameB (lowerB c) = nameB c)) (by decide +kernel) c)
theorem lowerS_lowerS (l : List UInt8) : lowerS (lowerS l) = lowerS l := by
  unfold lowerS; rw [List.map_map]; exact List.map_congr_left (fun c _ => lower_lower c)
theorem lowerS_len (l : List UInt8) : (lowerS l).length = l.length := by simp [lowerS]
theorem nameS_lowerS (l : List UInt8) : nameS (lowerS l) = nameS l := by
  unfold nameS; rw [lowerS_len]; congr 1
  unfold lowerS; rw [List.all_map]; congr 1; funext c; exact lower_name c

theorem dropWhile_all {p : UInt8 → Bool} : ∀ {g : List UInt8}, g.all p = true → ∀ l, (g ++ l).dropWhile p = l.dropWhile p
  | [], _, _ => rfl
  | x :: g, h, l => by
    simp only [List.all_cons, Bool.and_eq_true] at h
    rw [List.cons_append, List.dropWhile_cons, if_pos h.1]; exact dropWhile_all h.2 l
theorem dropWhile_idem (p : UInt8 → Bool) (l : List UInt8) : (l.dropWhile p).dropWhile p = l.dropWhile p := by
  induction l with
  | nil => rfl
  | cons x l ih =>
    rw [List.dropWhile_cons]
    split
    · exact ih
    · rename_i h; rw [List.dropWhile_cons, if_neg h]
/-- What is left begins with nothing that is dropped. -/
theorem dropWhile_head {p : UInt8 → Bool} {l : List UInt8} {x : UInt8} {r : List UInt8} (h : l.dropWhile p = x :: r) : p x = false := by
  induction l with
  | nil => simp at h
  | cons y l ih =>
    rw [List.dropWhile_cons] at h
    split at h
    · exact ih h
    · rename_i hy; rw [(List.cons.inj h).1] at hy; simpa using hy
theorem dropWhile_append_ne {p : UInt8 → Bool} {a : List UInt8} (b : List UInt8) (h : a.dropWhile p ≠ []) : (a ++ b).dropWhile p = a.dropWhile p ++ b := by
  induction a with
  | nil => simp at h
  | cons x a ih =>
    rw [List.cons_append, List.dropWhile_cons, List.dropWhile_cons] at *
    split
    · rename_i hx; rw [if_pos hx] at h; exact ih h
    · rfl
theorem dropWhile_nil {p : UInt8 → Bool} {a : List UInt8} (h : a.dropWhile p = []) : a.all p = true := by
  induction a with
  | nil => rfl
  | cons x a ih =>
    rw [List.dropWhile_cons] at h
    split at h
    · rename_i hx; rw [List.all_cons, hx, ih h]; rfl
    · cases h
theorem all_dropWhile {p : UInt8 → Bool} {a : List UInt8} (h : a.all p = true) : a.dropWhile p = [] := by
  have := dropWhile_all h []
  simpa using this
theorem trimR_all {g : List UInt8} (h : g.all gapB = true) (l : List UInt8) : trimR (l ++ g) = trimR l := by
  unfold trimR
  rw [List.reverse_append, dropWhile_all (by rw [List.all_reverse]; exact h)]
theorem trimS_all {g : List UInt8} (h : g.all gapB = true) : trimS g = [] := by
  unfold trimS trimL; rw [all_dropWhile h]; rfl
theorem trimS_gaps {g g' : List UInt8} (h : g.all gapB = true) (h' : g'.all gapB = true) (l : List UInt8) : trimS (g ++ l ++ g') = trimS l := by
  unfold trimS trimL
  rw [List.append_assoc, dropWhile_all h]
  by_cases e : l.dropWhile gapB = []
  · rw [e, dropWhile_all (dropWhile_nil e), all_dropWhile h']
  · rw [dropWhile_append_ne g' e, trimR_all h']
theorem trimS_ends (l : List UInt8) : trimS l = [] ∨ ∃ a b, (trimS l).head? = some a ∧ (trimS l).getLast? = some b ∧ gapB a = false ∧ gapB b = false := by
  by_cases e : trimS l = []
  · exact .inl e
  · refine .inr ?_
    have hL : trimL l ≠ [] := by intro h; apply e; unfold trimS; rw [h]; rfl
    obtain ⟨a, r, ha⟩ : ∃ a r, trimL l = a :: r := by cases h : trimL l with | nil => exact absurd h hL | cons a r => exact ⟨a, r, rfl⟩
    have hga := dropWhile_head ha
    have hR : (trimL l).reverse.dropWhile gapB ≠ [] := by intro h; apply e; unfold trimS trimR; rw [h]; rfl
    obtain ⟨b, q, hb⟩ : ∃ b q, (trimL l).reverse.dropWhile gapB = b :: q := by cases h : (trimL l).reverse.dropWhile gapB with | nil => exact absurd h hR | cons b q => exact ⟨b, q, rfl⟩
    have hgb := dropWhile_head hb
    have hT : trimS l = q.reverse ++ [b] := by unfold trimS trimR; rw [hb]; simp
    refine ⟨a, b, ?_, by rw [hT]; simp, hga, hgb⟩
    have hsuf : (b :: q) <:+ (trimL l).reverse := by rw [← hb]; exact List.dropWhile_suffix _
    have hpre : trimS l <+: trimL l := by
      rw [hT]
      have := List.reverse_prefix.2 hsuf
      simpa using this
    obtain ⟨t, ht⟩ := hpre
    cases hx : trimS l with
    | nil => exact absurd hx e
    | cons c cs => rw [hx, ha] at ht; rw [List.cons_append] at ht; rw [(List.cons.inj ht).1]; rfl
theorem trimL_same {l : List UInt8} {a : UInt8} (h : l.head? = some a) (hg : gapB a = false) : trimL l = l := by
  cases l with
  | nil => rfl
  | cons x l =>
    have : x = a := by simpa using h
    unfold trimL; rw [List.dropWhile_cons, if_neg (by rw [this, hg]; decide)]
theorem trimR_same {l : List UInt8} {b : UInt8} (h : l.getLast? = some b) (hg : gapB b = false) : trimR l = l := by
  have h' : l.reverse.head? = some b := by rw [List.head?_reverse]; exact h
  have := trimL_same h' hg
  unfold trimL at this
  unfold trimR; rw [this, List.reverse_reverse]
theorem trimS_trimS (l : List UInt8) : trimS (trimS l) = trimS l := by
  rcases trimS_ends l with h | ⟨a, b, ha, hb, ga, gb⟩
  · rw [h]; rfl
  · show trimR (trimL (trimS l)) = trimS l
    rw [trimL_same ha ga, trimR_same hb gb]
theorem trimS_len (l : List UInt8) : (trimS l).length ≤ l.length := by
  have h1 : (trimL l).length ≤ l.length := (List.dropWhile_suffix gapB).length_le
  have h2 : ((trimL l).reverse.dropWhile gapB).length ≤ (trimL l).reverse.length := (List.dropWhile_suffix gapB).length_le
  show ((trimL l).reverse.dropWhile gapB).reverse.length ≤ _
  simp at h2 ⊢; omega

/-- What stands between commas: trimmed, small, empty ones left out. -/
def itemsS (l : List UInt8) : List (List UInt8) := ((parts 44 l).map (fun p => lowerS (trimS p))).filter (fun t => !t.isEmpty)
def listOk (l : List UInt8) : Bool := (itemsS l).all nameS
def listS (l : List UInt8) : List (List UInt8) := if listOk l then itemsS l else []
theorem items_append (a b : List UInt8) : itemsS (a ++ 44 :: b) = itemsS a ++ itemsS b := by
  unfold itemsS; rw [parts_append, List.map_append, List.filter_append]
theorem items_nil : itemsS [] = [] := rfl
theorem items_snoc (a : List UInt8) : itemsS (a ++ [44]) = itemsS a := by rw [items_append, items_nil, List.append_nil]
/-- What was laid so far: nothing, or something with a comma at its end. -/
def Comma (l : List UInt8) : Prop := l = [] ∨ ∃ a, l = a ++ [44]
theorem items_comma {l : List UInt8} (h : Comma l) (x : List UInt8) : itemsS (l ++ x) = itemsS l ++ itemsS x := by
  rcases h with rfl | ⟨a, rfl⟩
  · rfl
  · rw [items_snoc, List.append_assoc, List.singleton_append, items_append]

/-- The name and the value of what stands between semicolons. -/
def pairOf (t : List UInt8) : List UInt8 × List UInt8 := (lowerS (trimS (Lib.cut t [61]).1), trimS (Lib.cut t [61]).2.1)
def pairsS (l : List UInt8) : List (List UInt8 × List UInt8) := (((parts 59 l).map trimS).filter (fun t => !t.isEmpty)).map pairOf
theorem pairs_append (a b : List UInt8) : pairsS (a ++ 59 :: b) = pairsS a ++ pairsS b := by
  unfold pairsS; rw [parts_append, List.map_append, List.filter_append, List.map_append]
theorem parts_free (c : UInt8) {g : List UInt8} (h : ∀ x ∈ g, x ≠ c) : parts c g = [g] := parts_none c g h
theorem pairs_gap {g : List UInt8} (h : g.all gapB = true) : pairsS g = [] := by
  unfold pairsS
  rw [parts_none 59 g (fun x hx e => by
    rw [List.all_eq_true] at h
    have := h x hx
    rw [e] at this; exact absurd this (by decide))]
  rw [List.map_cons, trimS_all h]; rfl
/-- What was laid so far: nothing, or something with a semicolon and perhaps a blank at its end. -/
def Semi (l : List UInt8) (b : List UInt8) : Prop := (l = [] ∧ b = []) ∨ ∃ a, l = a ++ 59 :: b
theorem pairs_semi {l b : List UInt8} (h : Semi l b) (hb : b.all gapB = true) (x : List UInt8) : pairsS (l ++ x) = pairsS l ++ pairsS (b ++ x) := by
  rcases h with ⟨rfl, rfl⟩ | ⟨a, rfl⟩
  · rfl
  · rw [pairs_append, pairs_gap hb, List.append_nil, List.append_assoc, List.cons_append, pairs_append]
end Go.Proofs.Url
