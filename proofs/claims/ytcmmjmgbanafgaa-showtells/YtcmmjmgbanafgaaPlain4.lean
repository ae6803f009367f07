/- Plain mathematics of chapter 1, fourth part: parts between a byte, found from left to right; ports from their digits. No program is named here. -/
import Derived.Test.YtcmmjmgbanafgaaPlain2
namespace Go.Proofs.Url

theorem parts_count (c : UInt8) : ∀ l : List UInt8, (parts c l).length ≤ l.length + 1
  | [] => by simp [parts]
  | x :: l => by
    have ih := parts_count c l
    unfold parts
    split
    · simp; omega
    · cases hp : parts c l with
      | nil => simp [ahead]
      | cons q qs => rw [hp] at ih; simp [ahead] at ih ⊢; omega
theorem parts_none (c : UInt8) : ∀ a : List UInt8, (∀ x ∈ a, x ≠ c) → parts c a = [a]
  | [], _ => rfl
  | x :: a, h => by
    rw [parts, if_neg (h x (by simp)), parts_none c a (fun y hy => h y (by simp [hy]))]; rfl
theorem parts_at (c : UInt8) : ∀ a b : List UInt8, (∀ x ∈ a, x ≠ c) → parts c (a ++ c :: b) = a :: parts c b
  | [], b, _ => by simp [parts]
  | x :: a, b, h => by
    show parts c (x :: (a ++ c :: b)) = _
    rw [parts, if_neg (h x (by simp)), parts_at c a b (fun y hy => h y (by simp [hy]))]; rfl

/-- How far a cut has come: behind place f nothing has been cut, and up to k no c has been met. -/
def CutInv (c : UInt8) (l : List UInt8) (f k : Nat) (ps : List (List UInt8)) : Prop :=
  (k ≤ l.length → f ≤ k ∧ parts c l = ps ++ parts c (l.drop f) ∧ ∀ x ∈ (l.take k).drop f, x ≠ c) ∧ (l.length < k → parts c l = ps) ∧ ps.length ≤ k
theorem cut_start (c : UInt8) (l : List UInt8) : CutInv c l 0 0 [] := ⟨fun _ => ⟨Nat.le_refl _, by simp, by simp⟩, fun h => by omega, by simp⟩
theorem cut_pass {c : UInt8} {l : List UInt8} {f k : Nat} {ps : List (List UInt8)} (h : CutInv c l f k ps) (hk : k < l.length) (hne : l[k] ≠ c) : CutInv c l f (k + 1) ps := by
  obtain ⟨h1, h2, h3⟩ := h
  obtain ⟨a, b, d⟩ := h1 (by omega)
  refine ⟨fun _ => ⟨by omega, b, ?_⟩, fun h => by omega, by omega⟩
  rw [List.take_succ_eq_append_getElem hk, List.drop_append_of_le_length (by simp; omega)]
  intro x hx
  rcases List.mem_append.1 hx with hx | hx
  · exact d x hx
  · simp at hx; rw [hx]; exact hne
theorem drop_split (l : List UInt8) (f k : Nat) (hf : f ≤ k) (hk : k < l.length) : l.drop f = (l.take k).drop f ++ l[k] :: l.drop (k + 1) := by
  have h : l = l.take k ++ l.drop k := (List.take_append_drop k l).symm
  have h2 : l.drop k = l[k] :: l.drop (k + 1) := List.drop_eq_getElem_cons hk
  rw [h2] at h
  conv => lhs; rw [h]
  rw [List.drop_append_of_le_length (by simp; omega)]
theorem cut_hit {c : UInt8} {l : List UInt8} {f k : Nat} {ps : List (List UInt8)} (h : CutInv c l f k ps) (hk : k < l.length) (he : l[k] = c) : CutInv c l (k + 1) (k + 1) (ps ++ [(l.take k).drop f]) := by
  obtain ⟨h1, h2, h3⟩ := h
  obtain ⟨a, b, d⟩ := h1 (by omega)
  refine ⟨fun _ => ⟨Nat.le_refl _, ?_, ?_⟩, fun h => by omega, by simp; omega⟩
  · rw [b, drop_split l f k a hk, he, parts_at c _ _ d]; simp
  · intro x hx; rw [List.drop_eq_nil_of_le (by simp; omega)] at hx; cases hx
theorem cut_end {c : UInt8} {l : List UInt8} {f : Nat} {ps : List (List UInt8)} (h : CutInv c l f l.length ps) (f' : Nat) : CutInv c l f' (l.length + 1) (ps ++ [(l.take l.length).drop f]) := by
  obtain ⟨h1, h2, h3⟩ := h
  obtain ⟨a, b, d⟩ := h1 (Nat.le_refl _)
  refine ⟨fun h => by omega, fun _ => ?_, by simp; omega⟩
  rw [List.take_length] at d ⊢
  rw [b, parts_none c _ d]

theorem num_ge : ∀ (l : List UInt8) (z : Int), 1 ≤ z → l.all dig = true → 1 ≤ l.foldl (fun n c => 10 * n + ((c.toNat : Int) - 48)) z
  | [], z, h, _ => h
  | c :: l, z, h, ha => by
    simp only [List.all_cons, Bool.and_eq_true] at ha
    have hc : 48 ≤ (c.toNat : Int) := by have := ha.1; simp [dig, digI] at this; omega
    exact num_ge l _ (by show 1 ≤ 10 * z + ((c.toNat : Int) - 48); omega) ha.2
theorem num_pos : ∀ (l : List UInt8), l ≠ [] → ¬ l.head? = some 48 → l.all dig = true → 1 ≤ num l
  | [], h, _, _ => absurd rfl h
  | c :: l, _, hh, ha => by
    simp only [List.all_cons, Bool.and_eq_true] at ha
    have hc : 48 ≤ c.toNat := by have := ha.1; simp [dig, digI] at this; omega
    have hne : c.toNat ≠ 48 := fun e => hh (by simp only [List.head?_cons, Option.some.injEq]; exact UInt8.toNat_inj.1 e)
    exact num_ge l _ (by show 1 ≤ 10 * 0 + ((c.toNat : Int) - 48); omega) ha.2

/-- The document's way to read an origin: by parts between colons. -/
theorem cut_none (l : List UInt8) (h : ∀ x ∈ l, x ≠ 58) : Lib.cut l [58] = (l, [], false) := by
  have hi : Lib.index l [58] = -1 := by
    induction l with
    | nil => rfl
    | cons x l ih => rw [index_ne _ _ _ (h x (by simp)), ih (fun y hy => h y (by simp [hy]))]; rfl
  unfold Lib.cut; rw [hi]; rfl
theorem index_app (a b : List UInt8) (h : ∀ x ∈ a, x ≠ 58) : Lib.index (a ++ 58 :: b) [58] = a.length := by
  induction a with
  | nil => exact index_at 58 b
  | cons x a ih =>
    show Lib.index (x :: (a ++ 58 :: b)) [58] = _
    rw [index_ne _ _ _ (h x (by simp)), ih (fun y hy => h y (by simp [hy]))]
    rw [if_neg (by rw [beq_iff_eq]; omega)]; simp
theorem cut_app (a b : List UInt8) (h : ∀ x ∈ a, x ≠ 58) : Lib.cut (a ++ 58 :: b) [58] = (a, b, true) := by
  unfold Lib.cut; rw [index_app a b h, if_pos (by omega)]; simp
theorem split_58 : ∀ l : List UInt8, (∀ x ∈ l, x ≠ 58) ∨ ∃ a b, l = a ++ 58 :: b ∧ ∀ x ∈ a, x ≠ 58
  | [] => .inl (by simp)
  | x :: l => by
    by_cases hx : x = 58
    · subst hx; exact .inr ⟨[], l, rfl, by simp⟩
    · rcases split_58 l with h | ⟨a, b, e, h⟩
      · exact .inl (fun y hy => by rcases List.mem_cons.1 hy with rfl | hy; exact hx; exact h y hy)
      · exact .inr ⟨x :: a, b, by rw [e]; rfl, fun y hy => by rcases List.mem_cons.1 hy with rfl | hy; exact hx; exact h y hy⟩
theorem port_colon (a b : List UInt8) : portOk (a ++ 58 :: b) = false := by
  have : (a ++ 58 :: b).all dig = false := by simp [dig, digI]
  unfold portOk; rw [this]; simp
/-- What the document reads of what stands behind the scheme. -/
def refR (sch : List UInt8) (ps : List (List UInt8)) : Option (List UInt8 × List UInt8 × Int) :=
  match ps with
  | [h] => if host h then some (sch, h, own sch) else none
  | [h, d] => if portOk d && host h then some (sch, h, num d) else none
  | _ => none
theorem ref_read (sch rest : List UInt8) (h0 : ¬ own sch = 0) : refR sch (parts 58 rest) = readR sch (Lib.cut rest [58]) := by
  rcases split_58 rest with h | ⟨a, b, rfl, h⟩
  · rw [parts_none 58 rest h, cut_none rest h]
    unfold refR readR
    cases hh : host rest <;> simp [h0, hh]
  · rw [parts_at 58 a b h, cut_app a b h]
    rcases split_58 b with hb | ⟨a', b', rfl, hb⟩
    · rw [parts_none 58 b hb]
      unfold refR readR
      cases hh : host a <;> cases hp : portOk b <;> simp [h0, hh, hp]
    · rw [parts_at 58 a' b' hb]
      have hp := port_colon a' b'
      have hne := parts_ne 58 b'
      unfold readR
      cases hq : parts 58 b' with
      | nil => exact absurd hq hne
      | cons q qs => simp [refR, hp]

theorem pre_https {l : List UInt8} (h : Lib.hasPrefix l (https ++ slashes) = true) : readS l = refR https (parts 58 (l.drop 8)) := by
  have h2 : Lib.hasPrefix l (http ++ slashes) = false := by
    unfold Lib.hasPrefix at *
    match l, h with
    | [], h => simp [https, slashes] at h
    | a :: b :: c :: d :: e :: t, h => simp [https, slashes] at h; obtain ⟨rfl, rfl, rfl, rfl, rfl, _⟩ := h; simp [http, slashes, List.isPrefixOf]
    | [a], h => simp [https, slashes] at h
    | [a, b], h => simp [https, slashes] at h
    | [a, b, c], h => simp [https, slashes] at h
    | [a, b, c, d], h => simp [https, slashes] at h
  rw [ref_read https _ (by decide)]
  unfold readS cutS
  rw [if_neg (by simp [h2]), if_pos h]
theorem pre_http {l : List UInt8} (h : Lib.hasPrefix l (http ++ slashes) = true) : readS l = refR http (parts 58 (l.drop 7)) := by
  rw [ref_read http _ (by decide)]
  unfold readS cutS
  rw [if_pos h]
theorem pre_none {l : List UInt8} (h : Lib.hasPrefix l (http ++ slashes) = false) (h2 : Lib.hasPrefix l (https ++ slashes) = false) : readS l = none := by
  unfold readS cutS
  rw [if_neg (by simp [h]), if_neg (by simp [h2])]
  unfold readR
  rw [if_pos (.inl (by decide))]
end Go.Proofs.Url
