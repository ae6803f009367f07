/- Plain mathematics of chapter 1, fifth part: an origin's text is read as that origin. No program is named here. -/
import Derived.Test.YtkomggockjeibaaDoorPlain3
import Derived.Test.YtkomggockjeibaaDoorPlain4
namespace Go.Proofs.Url

theorem mem_parts (c : UInt8) : ∀ (l : List UInt8) (x : UInt8), x ∈ l → x = c ∨ ∃ p ∈ parts c l, x ∈ p
  | y :: l, x, hx => by
    unfold parts
    by_cases hy : y = c
    · rw [if_pos hy]
      rcases List.mem_cons.1 hx with rfl | hx
      · exact .inl hy
      · rcases mem_parts c l x hx with h | ⟨p, hp, h⟩
        · exact .inl h
        · exact .inr ⟨p, List.mem_cons_of_mem _ hp, h⟩
    · rw [if_neg hy]
      cases hq : parts c l with
      | nil => exact absurd hq (parts_ne c l)
      | cons q qs =>
        rcases List.mem_cons.1 hx with rfl | hx
        · exact .inr ⟨x :: q, by simp [ahead], by simp⟩
        · rcases mem_parts c l x hx with h | ⟨p, hp, h⟩
          · exact .inl h
          · rw [hq] at hp
            rcases List.mem_cons.1 hp with rfl | hp
            · exact .inr ⟨y :: p, by simp [ahead], by simp [h]⟩
            · exact .inr ⟨p, by simp [ahead]; exact .inr hp, h⟩
theorem host_colon {l : List UInt8} (h : host l = true) : ∀ x ∈ l, x ≠ 58 := by
  intro x hx e
  subst e
  unfold host at h
  simp only [Bool.and_eq_true, List.all_eq_true] at h
  rcases mem_parts 46 l 58 hx with h' | ⟨p, hp, h'⟩
  · exact absurd h' (by decide)
  · have := h.2 p hp
    unfold label at this
    simp only [Bool.and_eq_true, List.all_eq_true] at this
    exact absurd (this.2 58 h') (by decide)
theorem own_cases {l : List UInt8} (h : ¬ own l = 0) : l = http ∨ l = https := by
  unfold own at h
  by_cases h1 : l = http
  · exact .inl h1
  · rw [if_neg h1] at h
    by_cases h2 : l = https
    · exact .inr h2
    · rw [if_neg h2] at h; exact absurd rfl h
theorem cutS_own {sch : List UInt8} (h : ¬ own sch = 0) (r : List UInt8) : cutS (sch ++ slashes ++ r) = (sch, r) := by
  rcases own_cases h with rfl | rfl
  · exact cutS_http r
  · exact cutS_https r
theorem text_cases (sch hst : List UInt8) (p : Int) : textS sch hst p = [] ∨ (¬ textS sch hst p = [] ∧ readS (textS sch hst p) = some (sch, hst, p)) := by
  by_cases h : own sch = 0 ∨ host hst = false ∨ ¬ (1 ≤ p ∧ p ≤ 65535)
  · left; unfold textS; rw [if_pos h]
  · right
    have h0 : ¬ own sch = 0 := fun e => h (.inl e)
    have hh : host hst = true := by
      cases e : host hst
      · exact absurd (.inr (.inl e)) h
      · rfl
    have hp : 1 ≤ p ∧ p ≤ 65535 := by
      by_cases e : 1 ≤ p ∧ p ≤ 65535
      · exact e
      · exact absurd (.inr (.inr e)) h
    have hcol := host_colon hh
    have hne : sch ++ slashes ≠ [] := by simp [slashes]
    unfold textS
    rw [if_neg h]
    by_cases hq : p = own sch
    · rw [if_pos hq]
      refine ⟨by simp [slashes], ?_⟩
      unfold readS
      rw [cutS_own h0]
      simp only
      rw [cut_none hst hcol]
      unfold readR
      rw [if_neg (by simp [h0, hh])]
      simp [hq]
    · rw [if_neg hq]
      refine ⟨by simp, ?_⟩
      have e : sch ++ slashes ++ hst ++ [58] ++ Lib.decDigits p.toNat = sch ++ slashes ++ (hst ++ 58 :: Lib.decDigits p.toNat) := by simp
      rw [e]
      unfold readS
      rw [cutS_own h0]
      simp only
      rw [cut_app hst _ hcol]
      unfold readR
      rw [if_neg (by simp [h0, hh])]
      have hp' : portOk (Lib.decDigits p.toNat) = true := by rw [dec_port _ (by omega)]; exact decide_eq_true (by omega)
      simp only [if_true]
      rw [hp', dec_num]
      simp
      omega
end Go.Proofs.Url
