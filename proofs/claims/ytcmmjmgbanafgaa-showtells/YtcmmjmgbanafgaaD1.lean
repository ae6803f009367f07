/- Plain mathematics of chapter 2: labels, sites, what is under what. No program is named here. -/
import Derived.Test.YtcmmjmgbanafgaaPlain4
namespace Go.Proofs.Url

theorem parts_append (c : UInt8) (b : List UInt8) : ∀ a : List UInt8, parts c (a ++ c :: b) = parts c a ++ parts c b
  | [] => by rw [parts_at c [] b (by simp)]; rfl
  | x :: a => by
    have ih := parts_append c b a
    show parts c (x :: (a ++ c :: b)) = parts c (x :: a) ++ parts c b
    generalize parts c b = B at *
    unfold parts
    by_cases hx : x = c
    · rw [if_pos hx, if_pos hx, ih]; rfl
    · rw [if_neg hx, if_neg hx, ih]
      cases hq : parts c a with
      | nil => exact absurd hq (parts_ne c a)
      | cons q qs => rfl
/-- Parts, with a dot between. -/
def joinD : List (List UInt8) → List UInt8
  | [] => []
  | [p] => p
  | p :: q :: ps => p ++ 46 :: joinD (q :: ps)
theorem join_ahead (x : UInt8) : ∀ ps : List (List UInt8), ps ≠ [] → joinD (ahead x ps) = x :: joinD ps
  | [], h => absurd rfl h
  | [_], _ => rfl
  | _ :: _ :: _, _ => rfl
theorem join_parts : ∀ l : List UInt8, joinD (parts 46 l) = l
  | [] => rfl
  | x :: l => by
    unfold parts
    by_cases hx : x = 46
    · rw [if_pos hx]
      cases hq : parts 46 l with
      | nil => exact absurd hq (parts_ne 46 l)
      | cons q qs =>
        show [] ++ 46 :: joinD (q :: qs) = _
        rw [← hq, join_parts l, hx]; rfl
    · rw [if_neg hx, join_ahead x _ (parts_ne 46 l), join_parts l]
theorem parts_join : ∀ ls : List (List UInt8), ls ≠ [] → (∀ p ∈ ls, ∀ x ∈ p, x ≠ 46) → parts 46 (joinD ls) = ls
  | [], h, _ => absurd rfl h
  | [p], _, h => parts_none 46 p (h p (by simp))
  | p :: q :: ps, _, h => by
    show parts 46 (p ++ 46 :: joinD (q :: ps)) = _
    rw [parts_at 46 p _ (h p (by simp)), parts_join (q :: ps) (by simp) (fun r hr => h r (by simp [List.mem_cons.1 hr]))]
theorem join_inj {a b : List UInt8} (h : parts 46 a = parts 46 b) : a = b := by rw [← join_parts a, h, join_parts b]

def labelsS (l : List UInt8) : List (List UInt8) := if host l then parts 46 l else []
/-- The last two of a row of labels, with the dot; the one, if there is one alone. -/
def lastTwo (ls : List (List UInt8)) : List UInt8 := joinD (ls.drop (ls.length - 2))
def siteS (l : List UInt8) : List UInt8 := lastTwo (labelsS l)
def underS (h d : List UInt8) : Bool := host h && host d && (decide (h = d) || decide ((46 :: d) <:+ h))
def sameS (s t g h : List UInt8) : Bool := decide (s = t) && decide (siteS g = siteS h) && !decide (siteS g = [])

theorem host_len {l : List UInt8} (h : host l = true) : l.length ≤ 60 := by
  unfold host at h; simp only [Bool.and_eq_true, decide_eq_true_eq] at h; exact h.1
theorem host_labels {l : List UInt8} (h : host l = true) : ∀ p ∈ parts 46 l, label p = true := by
  unfold host at h; simp only [Bool.and_eq_true, List.all_eq_true] at h; exact h.2
theorem host_mk {l : List UInt8} (h1 : l.length ≤ 60) (h2 : ∀ p ∈ parts 46 l, label p = true) : host l = true := by
  unfold host; simp only [Bool.and_eq_true, List.all_eq_true, decide_eq_true_eq]; exact ⟨h1, h2⟩
theorem label_ne {p : List UInt8} (h : label p = true) : p ≠ [] := by rintro rfl; exact absurd h (by decide)
theorem label_dot {p : List UInt8} (h : label p = true) : ∀ x ∈ p, x ≠ 46 := by
  intro x hx e; subst e
  unfold label at h; simp only [Bool.and_eq_true, List.all_eq_true] at h
  exact absurd (h.2 46 hx) (by decide)
theorem host_ne {l : List UInt8} (h : host l = true) : l ≠ [] := by
  rintro rfl; exact absurd h (by decide)
theorem host_head {l : List UInt8} (h : host l = true) : ¬ ∃ d, l = 46 :: d := by
  rintro ⟨d, rfl⟩
  have := host_labels h [] (by rw [show (46 :: d : List UInt8) = [] ++ 46 :: d from rfl, parts_at 46 [] d (by simp)]; simp)
  exact absurd this (by decide)
theorem suffix_form {d h : List UInt8} (hs : (46 :: d) <:+ h) : ∃ a, h = a ++ 46 :: d := by obtain ⟨a, rfl⟩ := hs; exact ⟨a, rfl⟩
theorem suffix_parts {d h : List UInt8} (hs : (46 :: d) <:+ h) : ∃ a, h = a ++ 46 :: d ∧ parts 46 h = parts 46 a ++ parts 46 d := by
  obtain ⟨a, rfl⟩ := hs; exact ⟨a, rfl, parts_append 46 d a⟩
theorem host_tail {a d : List UInt8} (h : host (a ++ 46 :: d) = true) : host d = true := by
  refine host_mk (by have := host_len h; simp at this; omega) (fun p hp => host_labels h p ?_)
  rw [parts_append]; exact List.mem_append_right _ hp

theorem under_self {l : List UInt8} (h : host l = true) : underS l l = true := by unfold underS; simp [h]
theorem under_iff (h d : List UInt8) : underS h d = true ↔ host h = true ∧ host d = true ∧ (h = d ∨ (46 :: d) <:+ h) := by
  unfold underS; simp only [Bool.and_eq_true, Bool.or_eq_true, decide_eq_true_eq]; exact and_assoc
theorem under_trans {x y z : List UInt8} (h1 : underS x y = true) (h2 : underS y z = true) : underS x z = true := by
  rw [under_iff] at *
  obtain ⟨hx, hy, h1⟩ := h1
  obtain ⟨_, hz, h2⟩ := h2
  refine ⟨hx, hz, ?_⟩
  rcases h1 with rfl | h1
  · exact h2
  · rcases h2 with rfl | h2
    · exact .inr h1
    · exact .inr (h2.trans ((List.suffix_cons 46 y).trans h1))
theorem under_anti {x y : List UInt8} (h1 : underS x y = true) (h2 : underS y x = true) : x = y := by
  rw [under_iff] at *
  rcases h1.2.2 with h | h
  · exact h
  · rcases h2.2.2 with h' | h'
    · exact h'.symm
    · have a := h.length_le; have b := h'.length_le; simp at a b; omega
theorem lastTwo_append (a b : List (List UInt8)) (h : 2 ≤ b.length) : lastTwo (a ++ b) = lastTwo b := by
  unfold lastTwo
  rw [List.length_append, show a.length + b.length - 2 = a.length + (b.length - 2) by omega, List.drop_append, List.drop_eq_nil_of_le (by omega), List.nil_append]
  congr 2
  omega
theorem labels_host {l : List UInt8} (h : host l = true) : labelsS l = parts 46 l := by unfold labelsS; rw [if_pos h]
theorem labels_none {l : List UInt8} (h : host l = false) : labelsS l = [] := by unfold labelsS; rw [if_neg (by simp [h])]
theorem site_under {x y : List UInt8} (h : underS x y = true) (h2 : 2 ≤ (labelsS y).length) : siteS x = siteS y := by
  rw [under_iff] at h
  obtain ⟨hx, hy, h⟩ := h
  rcases h with rfl | h
  · rfl
  · obtain ⟨a, rfl, hp⟩ := suffix_parts h
    unfold siteS
    rw [labels_host hx, labels_host hy] at *
    rw [hp]
    exact lastTwo_append _ _ h2
theorem joinD_append : ∀ (a b : List (List UInt8)), a ≠ [] → b ≠ [] → joinD (a ++ b) = joinD a ++ 46 :: joinD b
  | [], _, h, _ => absurd rfl h
  | [p], [], _, h => absurd rfl h
  | [p], q :: qs, _, _ => rfl
  | p :: p' :: ps, b, _, hb => by
    show p ++ 46 :: joinD ((p' :: ps) ++ b) = _
    rw [joinD_append (p' :: ps) b (by simp) hb]
    show _ = p ++ 46 :: joinD (p' :: ps) ++ 46 :: joinD b
    simp
/-- A host's site: a host, its own site; the host is under it. -/
theorem site_host {x : List UInt8} (h : host x = true) : host (siteS x) = true ∧ underS x (siteS x) = true ∧ labelsS (siteS x) = (parts 46 x).drop ((parts 46 x).length - 2) := by
  have hl := labels_host h
  have hne := parts_ne 46 x
  have hlab := host_labels h
  generalize hP : parts 46 x = P at *
  have hpos : 0 < P.length := List.length_pos_iff.2 hne
  have hsp : P.take (P.length - 2) ++ P.drop (P.length - 2) = P := List.take_append_drop _ _
  have hdne : P.drop (P.length - 2) ≠ [] := by intro e; have := congrArg List.length e; simp at this; omega
  have hdot : ∀ p ∈ P.drop (P.length - 2), ∀ y ∈ p, y ≠ 46 := fun p hp => label_dot (hlab p (List.mem_of_mem_drop hp))
  have hs : siteS x = joinD (P.drop (P.length - 2)) := by unfold siteS lastTwo; rw [hl]
  have hps : parts 46 (siteS x) = P.drop (P.length - 2) := by rw [hs, parts_join _ hdne hdot]
  have hx : x = joinD P := by rw [← hP, join_parts]
  have hhs : host (siteS x) = true := by
    refine host_mk ?_ (fun p hp => by rw [hps] at hp; exact hlab p (List.mem_of_mem_drop hp))
    have h60 := host_len h
    by_cases ht : P.take (P.length - 2) = []
    · rw [ht, List.nil_append] at hsp
      rw [hs, hsp, ← hx]; exact h60
    · have e := joinD_append _ _ ht hdne
      rw [hsp, ← hx, ← hs] at e
      rw [e] at h60; simp at h60; omega
  refine ⟨hhs, ?_, by rw [labels_host hhs, hps]⟩
  rw [under_iff]
  refine ⟨h, hhs, ?_⟩
  by_cases ht : P.take (P.length - 2) = []
  · left; rw [ht, List.nil_append] at hsp; rw [hs, hsp]; exact hx
  · right
    have e := joinD_append _ _ ht hdne
    rw [hsp, ← hx, ← hs] at e
    exact ⟨_, e.symm⟩
theorem site_site {x : List UInt8} (h : host x = true) : siteS (siteS x) = siteS x := by
  obtain ⟨_, _, h3⟩ := site_host h
  have e : siteS x = lastTwo (parts 46 x) := by unfold siteS; rw [labels_host h]
  show lastTwo (labelsS (siteS x)) = siteS x
  rw [h3, e]
  unfold lastTwo
  congr 1
  rw [List.length_drop, List.drop_drop]
  congr 1
  omega
theorem site_ne {x : List UInt8} (h : host x = true) : siteS x ≠ [] := host_ne (site_host h).1
theorem site_none {x : List UInt8} (h : host x = false) : siteS x = [] := by unfold siteS; rw [labels_none h]; rfl
/-- One label ahead. -/
theorem under_cons {p l : List UInt8} (h : host (p ++ 46 :: l) = true) : underS (p ++ 46 :: l) l = true ∧ underS l (p ++ 46 :: l) = false := by
  have hl := host_tail h
  refine ⟨by rw [under_iff]; exact ⟨h, hl, .inr ⟨p, rfl⟩⟩, ?_⟩
  cases e : underS l (p ++ 46 :: l)
  · rfl
  · rw [under_iff] at e
    rcases e.2.2 with e | e
    · have := congrArg List.length e; simp at this; omega
    · have := e.length_le; simp at this; omega
theorem under_glued (c : UInt8) (l : List UInt8) (hc : c ≠ 46) : underS (c :: l) l = false := by
  cases e : underS (c :: l) l
  · rfl
  · rw [under_iff] at e
    rcases e.2.2 with e | ⟨a, e⟩
    · have := congrArg List.length e; simp at this
    · cases a with
      | nil => exact absurd (List.cons.inj e).1.symm hc
      | cons x a => have := congrArg List.length e; simp at this; omega
end Go.Proofs.Url
