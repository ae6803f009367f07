/- Plain: what is known of the tokens of a text. -/
import Derived.Test.YtcmmjmgbanafgaaTq1
namespace Go.Proofs.Url
open Syn
theorem words9_len : ∀ x ∈ words9, 1 < x.length := by decide +kernel
theorem name_noPar {c : UInt8} (h : nameB9 c = true) : c ≠ 40 ∧ c ≠ 41 := by
  constructor <;> (rintro rfl; revert h; decide)
/-- One token. -/
def TokOk1 (t : Tk) : Prop := (t.kind = 4 → t.text.length = 1) ∧ (t.kind = 2 → 1 < t.text.length) ∧ (t.kind = 1 → t.text ≠ [] ∧ ∀ c ∈ t.text, c ≠ 40 ∧ c ≠ 41)
theorem takeWhile_all {f : UInt8 → Bool} : ∀ {l : List UInt8}, ∀ c ∈ l.takeWhile f, f c = true
  | [], c, h => by cases h
  | x :: l, c, h => by
    rw [List.takeWhile_cons] at h
    split at h
    · rename_i hx
      rcases List.mem_cons.1 h with rfl | h
      · exact hx
      · exact takeWhile_all c h
    · cases h
theorem one_ok (l : List UInt8) (p : Nat) (hc : (oneS l).code = 0) : TokOk1 ⟨(oneS l).kind, p, (oneS l).text⟩ := by
  cases l with
  | nil => simp [oneS] at hc
  | cons c r =>
    have e : oneS (c :: r) = oneC c r := rfl
    rw [e] at hc ⊢
    cases h1 : smallB c with
    | true =>
      rw [oneC_small r h1]
      have hne := (run_pos r (small_name h1)).1
      cases hw : wordS ((c :: r).takeWhile nameB9) with
      | true =>
        have hm : (c :: r).takeWhile nameB9 ∈ words9 := by unfold wordS at hw; rwa [List.contains_iff_mem] at hw
        exact ⟨fun h => (by simp at h), fun _ => words9_len _ hm, fun h => (by simp at h)⟩
      | false =>
        exact ⟨fun h => (by simp at h), fun h => (by simp at h), fun _ => ⟨fun h => (by replace h : (c :: r).takeWhile nameB9 = [] := h; rw [h] at hne; simp at hne), fun x hx => name_noPar (takeWhile_all x hx)⟩⟩
    | false =>
      cases h2 : capB c with
      | true => rw [oneC_cap r h1 h2]; exact ⟨fun h => (by simp at h), fun h => (by simp at h), fun h => (by simp at h)⟩
      | false =>
        by_cases h3 : c.toNat = 34
        · by_cases hq : r[(r.takeWhile textB).length]? = some 34
          · rw [oneC_text r h1 h2 h3 hq]; exact ⟨fun h => (by simp at h), fun h => (by simp at h), fun h => (by simp at h)⟩
          · rw [oneC_open r h1 h2 h3 hq] at hc; cases hc
        · cases h4 : signB c with
          | true => rw [oneC_sign r h1 h2 h3 h4]; exact ⟨fun _ => rfl, fun h => (by simp at h), fun h => (by simp at h)⟩
          | false => rw [oneC_none r h1 h2 h3 h4] at hc; cases hc
theorem toksF_ok : ∀ (f pos : Nat) (l : List UInt8) (n : Nat) (ts : List Tk), toksF f pos l n = .ok ts → ∀ t ∈ ts, TokOk1 t := by
  intro f
  induction f with
  | zero => intro pos l n ts h t ht; simp [toksF] at h; subst h; cases ht
  | succ f ih =>
    intro pos l n ts h t ht
    rw [toksF_succ] at h
    split at h
    · cases h; cases ht
    · split at h
      · cases h
      · rename_i hc
        split at h
        · cases h
        · generalize hx : toksF f _ _ _ = x at h
          cases x with
          | bad c q => simp [Toks.put] at h
          | ok us =>
            simp [Toks.put] at h
            subst h
            rcases List.mem_cons.1 ht with rfl | ht
            · exact one_ok _ _ (by simpa using hc)
            · exact ih _ _ _ _ hx t ht
theorem toksS_ok {s : List UInt8} {ts : List Tk} (h : toksS s = .ok ts) : TokOk ts := by
  unfold toksS at h
  split at h
  · cases h
  · exact toksF_ok _ _ _ _ _ h
theorem toksF_many : ∀ (f pos : Nat) (l : List UInt8) (n : Nat) (ts : List Tk), n ≤ 2000 → toksF f pos l n = .ok ts → n + ts.length ≤ 2000 := by
  intro f
  induction f with
  | zero => intro pos l n ts hn h; simp [toksF] at h; subst h; simpa using hn
  | succ f ih =>
    intro pos l n ts hn h
    rw [toksF_succ] at h
    split at h
    · cases h; simpa using hn
    · split at h
      · cases h
      · split at h
        · cases h
        · rename_i hn2
          generalize hx : toksF f _ _ _ = x at h
          cases x with
          | bad c q => simp [Toks.put] at h
          | ok us =>
            simp [Toks.put] at h
            subst h
            have := ih _ _ _ _ (by omega) hx
            simp; omega
theorem toksS_many {s : List UInt8} {ts : List Tk} (h : toksS s = .ok ts) : ts.length ≤ 2000 := by
  unfold toksS at h
  split at h
  · cases h
  · have := toksF_many _ _ _ _ _ (by omega) h; omega
end Go.Proofs.Url
