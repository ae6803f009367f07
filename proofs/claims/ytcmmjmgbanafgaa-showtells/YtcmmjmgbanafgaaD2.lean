/- Plain mathematics of package domain's loops: a site by dots from the end, what is under what by cuts from the front, labels by cuts; one site. -/
import Derived.Test.YtcmmjmgbanafgaaD1
namespace Go.Proofs.Url

theorem index_no (c : UInt8) : ∀ l : List UInt8, (∀ x ∈ l, x ≠ c) → Lib.index l [c] = -1
  | [], _ => rfl
  | x :: l, h => by rw [index_ne x c l (h x (by simp)), index_no c l (fun y hy => h y (by simp [hy]))]; rfl
theorem index_yes (c : UInt8) (b : List UInt8) : ∀ a : List UInt8, (∀ x ∈ a, x ≠ c) → Lib.index (a ++ c :: b) [c] = a.length
  | [], _ => index_at c b
  | x :: a, h => by
    show Lib.index (x :: (a ++ c :: b)) [c] = _
    rw [index_ne x c _ (h x (by simp)), index_yes c b a (fun y hy => h y (by simp [hy]))]
    have : ((a.length : Int) == -1) = false := beq_eq_false_iff_ne.2 (by omega)
    rw [this]; simp
theorem cutc_none (c : UInt8) (l : List UInt8) (h : ∀ x ∈ l, x ≠ c) : Lib.cut l [c] = (l, [], false) := by
  unfold Lib.cut; rw [index_no c l h]; rfl
theorem cutc_app (c : UInt8) (a b : List UInt8) (h : ∀ x ∈ a, x ≠ c) : Lib.cut (a ++ c :: b) [c] = (a, b, true) := by
  unfold Lib.cut; rw [index_yes c b a h]; simp
theorem splitc (c : UInt8) : ∀ l : List UInt8, (∀ x ∈ l, x ≠ c) ∨ ∃ a b, l = a ++ c :: b ∧ ∀ x ∈ a, x ≠ c
  | [] => .inl (by simp)
  | x :: l => by
    by_cases hx : x = c
    · exact .inr ⟨[], l, by rw [hx]; rfl, by simp⟩
    · rcases splitc c l with h | ⟨a, b, rfl, h⟩
      · exact .inl (by simpa [hx] using h)
      · exact .inr ⟨x :: a, b, rfl, by simpa [hx] using h⟩

theorem parts_dots (c : UInt8) : ∀ l : List UInt8, (parts c l).length = l.count c + 1
  | [] => rfl
  | x :: l => by
    have ih := parts_dots c l
    unfold parts
    by_cases hx : x = c
    · rw [if_pos hx, hx, List.count_cons_self, List.length_cons, ih]
    · rw [if_neg hx, List.count_cons_of_ne hx]
      cases hq : parts c l with
      | nil => exact absurd hq (parts_ne c l)
      | cons q qs => rw [hq] at ih; simpa [ahead] using ih
theorem site_short {x : List UInt8} (h : host x = true) (h1 : x.count 46 ≤ 1) : siteS x = x := by
  have hp := parts_dots 46 x
  unfold siteS lastTwo
  rw [labels_host h, show (parts 46 x).length - 2 = 0 by omega, List.drop_zero, join_parts]
theorem site_cut {a d : List UInt8} (h : host (a ++ 46 :: d) = true) (h1 : d.count 46 = 1) : siteS (a ++ 46 :: d) = d := by
  have hp := parts_dots 46 d
  unfold siteS
  rw [labels_host h, parts_append, lastTwo_append _ _ (by omega)]
  unfold lastTwo
  rw [show (parts 46 d).length - 2 = 0 by omega, List.drop_zero, join_parts]

theorem under_no {h d : List UInt8} (hn : ∀ x ∈ h, x ≠ 46) (hd : h ≠ d) : underS h d = false := by
  cases e : underS h d
  · rfl
  · rw [under_iff] at e
    rcases e.2.2 with e | ⟨a, e⟩
    · exact absurd e hd
    · exact absurd rfl (hn 46 (by rw [← e]; simp))
theorem suffix_cut : ∀ (p r a d : List UInt8), (∀ x ∈ p, x ≠ 46) → a ++ 46 :: d = p ++ 46 :: r → r = d ∨ (46 :: d) <:+ r
  | [], r, [], d, _, h => .inl (List.cons.inj h).2.symm
  | [], r, x :: a, d, _, h => .inr ⟨a, (List.cons.inj h).2⟩
  | y :: p, r, [], d, hp, h => absurd (List.cons.inj h).1.symm (hp y (by simp))
  | y :: p, r, x :: a, d, hp, h => suffix_cut p r a d (fun z hz => hp z (by simp [hz])) (List.cons.inj h).2
theorem under_step {p r d : List UInt8} (hp : ∀ x ∈ p, x ≠ 46) (hh : host (p ++ 46 :: r) = true) (hd : p ++ 46 :: r ≠ d) : underS (p ++ 46 :: r) d = underS r d := by
  have hr := host_tail hh
  rw [Bool.eq_iff_iff, under_iff, under_iff]
  constructor
  · rintro ⟨_, h2, h3⟩
    refine ⟨hr, h2, ?_⟩
    rcases h3 with h3 | ⟨a, h3⟩
    · exact absurd h3 hd
    · exact suffix_cut p r a d hp h3
  · rintro ⟨_, h2, h3⟩
    refine ⟨hh, h2, .inr ?_⟩
    rcases h3 with rfl | h3
    · exact ⟨p, rfl⟩
    · exact h3.trans ((List.suffix_cons 46 r).trans ⟨p, rfl⟩)
theorem under_nohost {h d : List UInt8} (hn : host h = false ∨ host d = false) : underS h d = false := by
  unfold underS; rcases hn with hn | hn <;> simp [hn]

/-- What the program calls one site: one scheme that is not empty, one site that is not empty. -/
def sameP (s t g h : List UInt8) : Bool := !decide (s = []) && decide (s = t) && !decide (siteS g = []) && decide (siteS g = siteS h)
theorem sameP_iff (s t g h : List UInt8) : sameP s t g h = true ↔ s ≠ [] ∧ s = t ∧ siteS g ≠ [] ∧ siteS g = siteS h := by
  unfold sameP; simp [and_assoc]
theorem sameP_symm (s t g h : List UInt8) : sameP s t g h = sameP t s h g := by
  rw [Bool.eq_iff_iff, sameP_iff, sameP_iff]
  constructor
  · rintro ⟨a, rfl, b, c⟩; exact ⟨a, rfl, c ▸ b, c.symm⟩
  · rintro ⟨a, rfl, b, c⟩; exact ⟨a, rfl, c ▸ b, c.symm⟩
theorem sameP_trans {s t u g h k : List UInt8} (h1 : sameP s t g h = true) (h2 : sameP t u h k = true) : sameP s u g k = true := by
  rw [sameP_iff] at *
  exact ⟨h1.1, h1.2.1.trans h2.2.1, h1.2.2.1, h1.2.2.2.trans h2.2.2.2⟩
theorem sameP_self {s g : List UInt8} (h1 : s ≠ []) (h2 : host g = true) : sameP s s g g = true := by
  rw [sameP_iff]; exact ⟨h1, rfl, site_ne h2, rfl⟩
theorem sameP_under {s t g h : List UInt8} (h0 : s ≠ []) (h1 : underS g h = true) (h2 : 2 ≤ (labelsS h).length) (h3 : s = t) : sameP s t g h = true := by
  rw [sameP_iff]; exact ⟨h0, h3, site_ne ((under_iff _ _).1 h1).1, site_under h1 h2⟩
end Go.Proofs.Url
