/- Plain: what LexNames lays. -/
import Derived.Test.YtkpkpiikhcggkaaLx6
namespace Go.Proofs.Url

def alph9 : List UInt8 := [97, 98, 99, 100, 101, 102, 103, 104, 105, 106, 107, 108, 109, 110, 111, 112, 113, 114, 115, 116, 117, 118, 119, 120, 121, 122, 48, 49, 50, 51, 52, 53, 54, 55, 56, 57, 95]
def alphAt (k : Nat) : UInt8 := alph9.getD k 0
theorem alph_name : ∀ k : Fin 37, nameB9 (alphAt k) = true := by decide +kernel
theorem alph_small : ∀ k : Fin 26, smallB (alphAt k) = true := by decide +kernel
theorem small_cap {c : UInt8} (h : smallB c = true) : capB c = false := by
  unfold smallB at h; unfold capB
  rw [decide_eq_true_iff] at h; rw [decide_eq_false_iff_not]; omega
theorem gap_small {c : UInt8} (r : List UInt8) (h : nameB9 c = true) : gapB false (c :: r) = 0 := by
  have hb : blankB c = false ∧ ¬ c.toNat = 35 := by
    unfold nameB9 smallB at h
    unfold blankB
    simp only [Bool.or_eq_true, decide_eq_true_eq] at h
    simp only [Bool.or_eq_false_iff, decide_eq_false_iff_not]
    omega
  rw [gapB, if_neg (by simp [hb.1]), if_neg hb.2]
/-- A row of letters so far. -/
def NameOk (s : List UInt8) : Prop := (∀ x ∈ s, nameB9 x = true) ∧ (∀ x, s.head? = some x → smallB x = true)
theorem name_nil : NameOk [] := ⟨fun x h => by simp at h, fun x h => by cases h⟩
theorem name_more {s : List UInt8} {c : UInt8} (h : NameOk s) (hc : nameB9 c = true) (h0 : s = [] → smallB c = true) : NameOk (s ++ [c]) := by
  refine ⟨fun x hx => ?_, fun x hx => ?_⟩
  · rw [List.mem_append, List.mem_singleton] at hx
    rcases hx with hx | rfl
    · exact h.1 x hx
    · exact hc
  · cases s with
    | nil => cases hx; exact h0 rfl
    | cons y s => cases hx; exact h.2 _ rfl
def inpN (s : List UInt8) : List UInt8 := [65, 66] ++ s ++ [67]
theorem inpN_tell {s : List UInt8} (h : NameOk s) (hne : s ≠ []) (hl : s.length ≤ 30) :
    toksS (inpN s) = if 20 < s.length then .bad 6 2 else .ok [⟨5, 0, [65, 66]⟩, ⟨if wordS s then 2 else 1, 2, s⟩, ⟨5, 2 + s.length, [67]⟩] := by
  obtain ⟨c, r, rfl⟩ : ∃ c r, s = c :: r := by cases s; exact absurd rfl hne; exact ⟨_, _, rfl⟩
  have hc : smallB c = true := h.2 c rfl
  have hlen : (inpN (c :: r)).length = r.length + 4 := by unfold inpN; simp
  have hl' : r.length ≤ 29 := by simpa using hl
  rw [toksS_small (by omega)]
  have o1 : oneS ((inpN (c :: r)).drop (0 + 0)) = ⟨0, 5, [65, 66], 2⟩ := by
    show oneC 65 ([66] ++ (c :: (r ++ [67]))) = _
    rw [oneC_cap _ (by decide) (by decide), show (65 :: ([66] ++ (c :: (r ++ [67]))) : List UInt8) = [65, 66] ++ (c :: (r ++ [67])) from rfl, run_app capB _ (fun x hx => by cases hx; exact small_cap hc) [65, 66] (by decide)]
    rfl
  have d2 : (inpN (c :: r)).drop 2 = (c :: r) ++ [67] := rfl
  have tw : ((c :: r) ++ [67]).takeWhile nameB9 = c :: r := run_app nameB9 [67] (fun x hx => by cases hx; rfl) (c :: r) h.1
  have o2 : oneS ((inpN (c :: r)).drop (2 + 0)) = ⟨if 20 < (c :: r).length then 6 else 0, if wordS (c :: r) then 2 else 1, c :: r, (c :: r).length⟩ := by
    show oneC c (r ++ [67]) = _
    rw [oneC_small _ hc, show (c :: (r ++ [67]) : List UInt8) = (c :: r) ++ [67] from rfl, tw]
  have g2 : gapB false ((inpN (c :: r)).drop 2) = 0 := by rw [d2]; exact gap_small (r ++ [67]) (small_name hc)
  rw [toksAt_tok (g := 0) rfl (by omega) o1 rfl (by decide)]
  show (toksAt (inpN (c :: r)) 2 1).put _ = _
  by_cases h20 : 20 < (c :: r).length
  · rw [if_pos h20, toksAt_wrong g2 (by omega) o2 (by rw [if_pos h20]; exact (show (6 : Nat) ≠ 0 by decide)), if_pos h20]
    rfl
  · rw [if_neg h20]
    have d3 : (inpN (c :: r)).drop (2 + 0 + (c :: r).length) = [67] := by
      have : inpN (c :: r) = ([65, 66] ++ (c :: r)) ++ [67] := rfl
      rw [this, show 2 + 0 + (c :: r).length = ([65, 66] ++ (c :: r)).length by rw [List.length_append]; rfl, List.drop_left]
    have o3 : oneS ((inpN (c :: r)).drop (2 + 0 + (c :: r).length + 0)) = ⟨0, 5, [67], 1⟩ := by
      rw [Nat.add_zero, d3]; rfl
    rw [toksAt_tok g2 (by omega) o2 (by rw [if_neg h20]) (by decide), toksAt_tok (g := 0) (show gapB false (List.drop (2 + 0 + (c :: r).length) (inpN (c :: r))) = 0 by rw [d3]; rfl) (show 2 + 0 + (c :: r).length + 0 < _ by rw [hlen, List.length_cons]; omega) o3 rfl (by decide), toksAt_stop _ (show _ ≤ 2 + 0 + (c :: r).length + 0 + 1 by rw [hlen, List.length_cons]; omega)]
    rfl
end Go.Proofs.Url
