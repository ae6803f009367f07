/- Plain mathematics of chapter 1, third part: a number's digits, read back. No program is named here. -/
import Derived.Test.YtkomggockjeibaaDoorPlain2
namespace Go.Proofs.Url

def dgt (n : Nat) : UInt8 := UInt8.ofNat (48 + n % 10)
theorem dgt_nat (n : Nat) : (dgt n).toNat = 48 + n % 10 := by
  unfold dgt; rw [UInt8.toNat_ofNat']; omega
/-- The digits of a number; none of 0. -/
def dd (n : Nat) : List UInt8 := if n = 0 then [] else Lib.decDigits n
theorem dd_step (n : Nat) (h : 0 < n) : dd n = dd (n / 10) ++ [dgt n] := by
  unfold dd
  rw [if_neg (by omega), Lib.decDigits]
  by_cases h10 : n < 10
  · rw [dif_pos h10, if_pos (by omega)]
    have : n % 10 = n := by omega
    simp [dgt, this]
  · rw [dif_neg h10, if_neg (by omega)]; rfl
theorem dec_step (n : Nat) : Lib.decDigits n = dd (n / 10) ++ [dgt n] := by
  by_cases h : n = 0
  · subst h; rw [Lib.decDigits]; rfl
  · rw [← dd_step n (by omega), dd, if_neg h]
theorem dec_rec (P : List UInt8 → Nat → Prop) (h1 : ∀ n, n < 10 → P [dgt n] n) (h2 : ∀ n l, ¬ n < 10 → P l (n / 10) → P (l ++ [dgt n]) n) (n : Nat) : P (Lib.decDigits n) n := by
  induction n using Nat.strongRecOn with
  | _ n ih =>
    rw [Lib.decDigits]
    by_cases h : n < 10
    · rw [dif_pos h]
      have := h1 n h
      unfold dgt at this
      rwa [Nat.mod_eq_of_lt h] at this
    · rw [dif_neg h]; exact h2 n _ h (ih (n / 10) (by omega))
theorem dec_num (n : Nat) : num (Lib.decDigits n) = n := by
  refine dec_rec (fun l n => num l = n) ?_ ?_ n
  · intro n h
    show 10 * 0 + (((dgt n).toNat : Int) - 48) = n
    rw [dgt_nat]; omega
  · intro n l h ih
    rw [num_snoc, ih, dgt_nat]; omega
theorem dgt_dig (n : Nat) : dig (dgt n) = true := by
  unfold dig digI; rw [dgt_nat]; simp; omega
theorem dec_all (n : Nat) : (Lib.decDigits n).all dig = true := by
  refine dec_rec (fun l _ => l.all dig = true) ?_ ?_ n
  · intro n _; simp [dgt_dig]
  · intro n l _ ih; rw [List.all_append, ih]; simp [dgt_dig]
theorem dec_ne (n : Nat) : Lib.decDigits n ≠ [] := by rw [dec_step]; simp
theorem dec_head (n : Nat) (h : 1 ≤ n) : ¬ (Lib.decDigits n).head? = some 48 := by
  have := dec_rec (fun l n => 1 ≤ n → ∃ c t, l = c :: t ∧ c.toNat ≠ 48) ?_ ?_ n h
  · obtain ⟨c, t, e, hc⟩ := this
    rw [e]
    simp only [List.head?_cons, Option.some.injEq]
    rintro rfl
    exact hc rfl
  · intro n hn h1
    exact ⟨_, _, rfl, by rw [dgt_nat]; omega⟩
  · intro n l hn ih h1
    obtain ⟨c, t, e, hc⟩ := ih (by omega)
    exact ⟨c, t ++ [dgt n], by rw [e]; rfl, hc⟩
theorem dec_len : ∀ (k n : Nat), n < 10 ^ (k + 1) → (Lib.decDigits n).length ≤ k + 1
  | 0, n, h => by rw [Lib.decDigits, dif_pos (by simpa using h)]; simp
  | k + 1, n, h => by
    rw [Lib.decDigits]
    by_cases h10 : n < 10
    · rw [dif_pos h10]; simp
    · rw [dif_neg h10]
      have := dec_len k (n / 10) (by rw [Nat.pow_succ] at h; omega)
      simp; omega
theorem dec_port (n : Nat) (h : n ≤ 70000) : portOk (Lib.decDigits n) = decide (1 ≤ n ∧ n ≤ 65535) := by
  unfold portOk
  rw [dec_num, dec_all]
  have hl := dec_len 4 n (by omega)
  have h1 : 1 ≤ (Lib.decDigits n).length := List.length_pos_iff.2 (dec_ne n)
  by_cases h0 : n = 0
  · subst h0; rw [Lib.decDigits]; decide
  · have hh := dec_head n (by omega)
    have e : ((Lib.decDigits n).head? == some 48) = false := by simpa using hh
    rw [e, decide_eq_true (show 1 ≤ (Lib.decDigits n).length ∧ (Lib.decDigits n).length ≤ 5 from ⟨h1, hl⟩)]
    simp only [Bool.not_false, Bool.and_true, Bool.true_and]
    exact decide_eq_decide.2 (by omega)
theorem zero_port (l : List UInt8) : portOk (48 :: l) = false := by unfold portOk; simp

def ab : List UInt8 := [97, 46, 98]
theorem host_ab : host ab = true := by decide +kernel
theorem cut_ab (l : List UInt8) : Lib.cut (ab ++ 58 :: l) [58] = (ab, l, true) := by
  have h : Lib.index (ab ++ 58 :: l) [58] = 3 := by
    show Lib.index (97 :: 46 :: 98 :: 58 :: l) [58] = 3
    rw [index_ne _ _ _ (by decide), index_ne _ _ _ (by decide), index_ne _ _ _ (by decide), index_at]; decide
  unfold Lib.cut
  rw [h]; simp [ab]
theorem pre_self (p l : List UInt8) : Lib.hasPrefix (p ++ l) p = true := by unfold Lib.hasPrefix; simp
theorem cutS_http (l : List UInt8) : cutS (http ++ slashes ++ l) = (http, l) := by
  unfold cutS; rw [if_pos (pre_self _ _)]; rfl
theorem cutS_https (l : List UInt8) : cutS (https ++ slashes ++ l) = (https, l) := by
  unfold cutS; rw [if_neg (by simp [Lib.hasPrefix, http, https, slashes]), if_pos (pre_self _ _)]; rfl
def schm (b : Bool) : List UInt8 := if b then https else http
def ownB (b : Bool) : Int := if b then 443 else 80
theorem own_schm (b : Bool) : own (schm b) = ownB b := by cases b <;> decide
theorem cutS_schm (b : Bool) (l : List UInt8) : cutS (schm b ++ slashes ++ l) = (schm b, l) := by
  cases b
  · exact cutS_http l
  · exact cutS_https l
theorem own_ne (b : Bool) : ¬ own (schm b) = 0 := by cases b <;> decide
theorem read_dec (b : Bool) (n : Nat) (h : n ≤ 70000) : readS (schm b ++ slashes ++ (ab ++ 58 :: Lib.decDigits n)) = if 1 ≤ n ∧ n ≤ 65535 then some (schm b, ab, (n : Int)) else none := by
  unfold readS
  rw [cutS_schm]
  simp only
  rw [cut_ab]
  unfold readR
  rw [if_neg (by simp [own_ne, host_ab])]
  simp only [if_true]
  rw [dec_port n h, dec_num]
  by_cases hn : 1 ≤ n ∧ n ≤ 65535
  · rw [if_pos hn, if_pos (decide_eq_true hn)]
  · rw [if_neg hn, if_neg (by simpa using hn)]
theorem read_zero (b : Bool) (l : List UInt8) : readS (schm b ++ slashes ++ (ab ++ 58 :: 48 :: l)) = none := by
  unfold readS
  rw [cutS_schm]
  simp only
  rw [cut_ab]
  unfold readR
  rw [if_neg (by simp [own_ne, host_ab])]
  simp only [if_true]
  rw [zero_port]; rfl
theorem text_own (b : Bool) : textS (schm b) ab (ownB b) = schm b ++ slashes ++ ab := by
  cases b <;> decide +kernel
theorem text_dec (b : Bool) (n : Nat) (h : 1 ≤ n ∧ n ≤ 65535) (hn : ¬ (n : Int) = ownB b) : textS (schm b) ab n = schm b ++ slashes ++ (ab ++ 58 :: Lib.decDigits n) := by
  unfold textS
  rw [if_neg (by simp [own_ne, host_ab]; omega), if_neg (by rw [own_schm]; exact hn)]
  simp
end Go.Proofs.Url
