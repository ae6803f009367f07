/- Plain: what strings.FieldsFunc answers at blanks and tabs is what stands between them, at every text. No program is named here. -/
import Derived.Test.YtmepjaepggomjaaDoorG3
import Derived.Lib.FieldsP
namespace Go.Proofs.Url
open Go

def gapN (r : Nat) : Bool := r == 32 || r == 9
theorem gap_nat (b : UInt8) : gapB b = gapN b.toNat := by
  unfold gapB gapN
  rw [Bool.eq_iff_iff]
  simp [← UInt8.toNat_inj]
set_option maxRecDepth 100000 in
theorem decN_gap (n b0 b1 b2 b3 : Nat) (hn : 1 ≤ n) : ∃ c K, Lib.decodeN n b0 b1 b2 b3 = (c, K) ∧ ((b0 < 128 ∧ c = b0 ∧ K = 1) ∨ (128 ≤ b0 ∧ 128 ≤ c)) ∧ 1 ≤ K ∧ K ≤ n ∧ K ≤ 4 ∧ (1 < K → b1 / 64 = 2) ∧ (2 < K → b2 / 64 = 2) ∧ (3 < K → b3 / 64 = 2) := by
  unfold Lib.decodeN
  repeat' split
  all_goals exact ⟨_, _, rfl, by omega, by omega, by omega, by omega, by omega, by omega, by omega⟩
theorem gapN_high {n : Nat} (h : 128 ≤ n) : gapN n = false := by unfold gapN; simp; omega
/-- What a decoder hands out is a blank or a tab just where such a byte stands; what it passes over besides is none. -/
theorem decode_gap (s : ByteArray) (pos : Nat) (hp : pos < s.size) : gapN (Utf8.decode s pos).1 = gapB (s.get! pos) ∧ (gapB (s.get! pos) = true → (Utf8.decode s pos).2 = 1) ∧ 1 ≤ (Utf8.decode s pos).2 ∧ pos + (Utf8.decode s pos).2 ≤ s.size ∧ ∀ j, 1 ≤ j → j < (Utf8.decode s pos).2 → gapB (s.get! (pos + j)) = false := by
  obtain ⟨c, K, h0, h1, h2, h3, h4, h5, h6, h7⟩ := decN_gap (s.size - pos) (s.get! pos).toNat (s.get! (pos + 1)).toNat (s.get! (pos + 2)).toNat (s.get! (pos + 3)).toNat (by omega)
  rw [Lib.decode_at, h0]
  simp only [gap_nat]
  refine ⟨?_, ?_, h2, by omega, ?_⟩
  · rcases h1 with h1 | h1
    · rw [h1.2.1]
    · rw [gapN_high h1.2, gapN_high h1.1]
  · intro hg
    rcases h1 with h1 | h1
    · exact h1.2.2
    · rw [gapN_high h1.1] at hg; cases hg
  · intro j a b
    apply gapN_high
    rcases (by omega : j = 1 ∨ j = 2 ∨ j = 3) with rfl | rfl | rfl
    · have := h5 b; omega
    · have := h6 b; omega
    · have := h7 b; omega

theorem get_drop (s : ByteArray) (pos : Nat) (h : pos < s.size) : s.data.toList.drop pos = s.get! pos :: s.data.toList.drop (pos + 1) := by
  have h' : pos < s.data.toList.length := by simpa using h
  rw [List.drop_eq_getElem_cons h']
  congr 1
  cases s with
  | mk d =>
    show d.toList[pos] = d[pos]!
    rw [getElem!_pos d pos h]; simp
def extB (s : ByteArray) (x : Nat × Nat) : List UInt8 := (s.extract x.1 x.2).data.toList
theorem extB_eq (s : ByteArray) (a b : Nat) : extB s (a, b) = (s.data.toList.drop a).take (b - a) := by
  unfold extB; simp [ByteArray.data_extract, List.extract_eq_take_drop]
/-- No gap from a on, ahead of b. -/
def noGap (s : ByteArray) (a b : Nat) : Prop := a < b ∧ ∀ j, a ≤ j → j < b → gapB (s.get! j) = false
theorem noGap_ext {s : ByteArray} {a b : Nat} (h : noGap s a b) (hb : b ≤ s.size) : wordsS (extB s (a, b)) = [extB s (a, b)] := by
  apply words_one
  · intro x hx
    rw [extB_eq] at hx
    obtain ⟨j, hj, rfl⟩ := List.getElem_of_mem hx
    simp at hj
    have h1 := h.2 (a + j) (by omega) (by omega)
    have h2 := get_drop s (a + j) (by omega)
    rw [show ((s.data.toList.drop a).take (b - a))[j] = s.get! (a + j) by
      rw [List.getElem_take, List.getElem_drop]
      have := congrArg (fun l => l[0]?) h2
      simp at this
      have h3 : a + j < s.data.size := by have : s.data.size = s.size := rfl; omega
      rw [Array.getElem?_eq_getElem h3] at this
      simpa using this]
    exact h1
  · intro h0
    have := congrArg List.length h0
    rw [extB_eq] at this
    have h3 : s.data.size = s.size := rfl
    simp at this
    have := h.1
    omega
theorem drop_ext (s : ByteArray) (a b : Nat) (h : a ≤ b) : s.data.toList.drop a = extB s (a, b) ++ s.data.toList.drop b := by
  rw [extB_eq, show s.data.toList.drop b = (s.data.toList.drop a).drop (b - a) by rw [List.drop_drop]; congr 1; omega, List.take_append_drop]
theorem spans_words (s : ByteArray) : ∀ (f pos : Nat) (st : Option Nat) (acc : List (Nat × Nat)), s.size ≤ pos + f → pos ≤ s.size → (∀ a, st = some a → noGap s a pos) →
    (Lib.closeSpans s (Lib.spansFromP gapN s f pos st acc)).map (extB s) = acc.map (extB s) ++ wordsS (s.data.toList.drop (st.getD pos)) := by
  intro f
  induction f with
  | zero =>
    intro pos st acc hf hp hst
    obtain rfl : pos = s.size := by omega
    have hz : s.data.toList.drop s.size = [] := List.drop_eq_nil_of_le (by simp)
    cases st with
    | none => simp only [Lib.spansFromP, Lib.closeSpans, Option.getD_none]; rw [hz, words_nil, List.append_nil]
    | some a =>
      have h := hst a rfl
      simp only [Lib.spansFromP, Lib.closeSpans, Option.getD_some]
      rw [drop_ext s a s.size (by have := h.1; omega), hz, List.append_nil, noGap_ext h (Nat.le_refl _)]
      simp
  | succ f ih =>
    intro pos st acc hf hp hst
    by_cases hlt : pos < s.size
    · obtain ⟨d1, d2, d3, d4, d5⟩ := decode_gap s pos hlt
      simp only [Lib.spansFromP, hlt, if_true]
      cases hg : gapB (s.get! pos) with
      | true =>
        rw [hg] at d1
        rw [d2 hg] at *
        rw [d1, if_pos rfl]
        cases st with
        | none =>
          simp only [Option.getD_none]
          rw [ih _ _ _ (by omega) (by omega) (fun a h => by cases h), get_drop s pos hlt]
          have := words_append (s.get! pos) hg [] (s.data.toList.drop (pos + 1))
          rw [words_nil, List.nil_append, List.nil_append] at this
          rw [this]; rfl
        | some a =>
          have h := hst a rfl
          simp only [Option.getD_some]
          rw [ih _ _ _ (by omega) (by omega) (fun a h => by cases h), drop_ext s a pos (by have := h.1; omega), get_drop s pos hlt, words_append _ hg, noGap_ext h (by omega)]
          simp
      | false =>
        rw [hg] at d1
        rw [d1, if_neg (by simp)]
        have hall : ∀ j, pos ≤ j → j < pos + (Utf8.decode s pos).2 → gapB (s.get! j) = false := by
          intro j h1 h2
          by_cases e : j = pos
          · subst e; exact hg
          · have := d5 (j - pos) (by omega) (by omega)
            rwa [show pos + (j - pos) = j by omega] at this
        cases st with
        | none =>
          simp only [Option.getD_none]
          rw [ih _ _ _ (by omega) (by omega) (fun a h => by cases h; exact ⟨by omega, hall⟩)]
          rfl
        | some a =>
          have h := hst a rfl
          simp only [Option.getD_some]
          rw [ih _ _ _ (by omega) (by omega) (fun a' h' => by
            cases h'
            refine ⟨by have := h.1; omega, fun j h1 h2 => ?_⟩
            by_cases e : j < pos
            · exact h.2 j h1 e
            · exact hall j (by omega) h2)]
          rfl
    · obtain rfl : pos = s.size := by omega
      rw [Lib.spansFromP_end _ _ _ _ _ _ hlt]
      have hz : s.data.toList.drop s.size = [] := List.drop_eq_nil_of_le (by simp)
      cases st with
      | none => simp only [Lib.closeSpans, Option.getD_none]; rw [hz, words_nil, List.append_nil]
      | some a =>
        have h := hst a rfl
        simp only [Lib.closeSpans, Option.getD_some]
        rw [drop_ext s a s.size (by have := h.1; omega), hz, List.append_nil, noGap_ext h (Nat.le_refl _)]
        simp
theorem fields_words (s : ByteArray) : (Lib.goFieldsP gapN s).map (·.data.toList) = wordsS s.data.toList := by
  have h := spans_words s s.size 0 none [] (by omega) (by omega) (fun a h => by cases h)
  simp only [List.map_nil, List.nil_append, Option.getD_none, List.drop_zero] at h
  unfold Lib.goFieldsP Lib.spansOfP
  rw [List.map_map, ← h]
  rfl
end Go.Proofs.Url
