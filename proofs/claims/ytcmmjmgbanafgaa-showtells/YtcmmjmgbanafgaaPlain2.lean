/- Plain mathematics of chapter 1, second part: parts between a byte, hosts, ports, origins. No program is named here. -/
import Derived.Test.YtcmmjmgbanafgaaPlain
import Derived.Lib.SplitLaws
import Derived.Lib.IndexBytes
import Derived.Lib.ItoaNum
namespace Go.Proofs.Url

def ahead (x : UInt8) : List (List UInt8) → List (List UInt8)
  | [] => [[x]]
  | p :: ps => (x :: p) :: ps
def parts (c : UInt8) : List UInt8 → List (List UInt8)
  | [] => [[]]
  | x :: l => if x = c then [] :: parts c l else ahead x (parts c l)

theorem index_ne (b c : UInt8) (l : List UInt8) (h : b ≠ c) : Lib.index (b :: l) [c] = if Lib.index l [c] == -1 then -1 else Lib.index l [c] + 1 := by
  have hp : ([c] : List UInt8).isPrefixOf (b :: l) = false := by simp [List.isPrefixOf, Ne.symm h]
  rw [Lib.index, hp]; simp
theorem index_at (c : UInt8) (l : List UInt8) : Lib.index (c :: l) [c] = 0 := by rw [Lib.index]; simp [List.isPrefixOf]

theorem splitK_ne (b c : UInt8) (l : List UInt8) (h : b ≠ c) : ∀ k, Lib.splitK [c] 0 k (b :: l) = ahead b (Lib.splitK [c] 0 k l)
  | 0 => rfl
  | k + 1 => by
    unfold Lib.splitK
    rw [index_ne b c l h]
    have hge := Lib.index_ge l [c]
    by_cases hm : Lib.index l [c] = -1
    · simp [hm, ahead]
    · obtain ⟨j, hj⟩ : ∃ j : Nat, Lib.index l [c] = j := ⟨(Lib.index l [c]).toNat, by omega⟩
      have e1 : ((j : Int) == -1) = false := beq_eq_false_iff_ne.2 (by omega)
      have e2 : ((j : Int) + 1 == -1) = false := beq_eq_false_iff_ne.2 (by omega)
      have e3 : ((j : Int) + 1).toNat = j + 1 := by omega
      simp [hj, e1, e2, e3, ahead]
theorem split_parts (c : UInt8) : ∀ l, Lib.splitK [c] 0 (Lib.count l [c]) l = parts c l
  | [] => by rw [Lib.count_one]; rfl
  | b :: l => by
    by_cases h : b = c
    · subst h
      rw [Lib.count_cons_eq, Nat.add_comm, Lib.splitK, index_at]
      simp [parts, split_parts b l]
    · rw [Lib.count_cons_ne b c l h, splitK_ne b c l h, split_parts c l, parts, if_neg h]
theorem parts_split (s : ByteArray) (c : UInt8) : (Lib.splitB ⟨#[c]⟩ 0 (Lib.countB s ⟨#[c]⟩) s).map (·.data.toList) = parts c s.data.toList := by
  rw [Lib.splitB_data]; exact split_parts c s.data.toList

theorem ahead_ne (x : UInt8) (ps : List (List UInt8)) : ahead x ps ≠ [] := by cases ps <;> simp [ahead]
theorem parts_ne (c : UInt8) : ∀ l, parts c l ≠ []
  | [] => by simp [parts]
  | x :: l => by unfold parts; split <;> simp [ahead_ne]
theorem parts_le (c : UInt8) : ∀ (l p : List UInt8), p ∈ parts c l → p.length ≤ l.length
  | [], p, h => by simp [parts] at h; simp [h]
  | x :: l, p, h => by
    unfold parts at h
    split at h
    · rcases List.mem_cons.1 h with rfl | h
      · simp
      · have := parts_le c l p h; simp; omega
    · have ih := parts_le c l
      cases hp : parts c l with
      | nil => exact absurd hp (parts_ne c l)
      | cons q qs =>
        rw [hp] at h ih
        rcases List.mem_cons.1 h with rfl | h
        · have := ih q (by simp); simp; omega
        · have := ih p (by simp [h]); simp; omega
def host (l : List UInt8) : Bool := decide (l.length ≤ 60) && (parts 46 l).all label
def num (l : List UInt8) : Int := l.foldl (fun n c => 10 * n + ((c.toNat : Int) - 48)) 0
def portOk (l : List UInt8) : Bool := decide (1 ≤ l.length ∧ l.length ≤ 5) && !(l.head? == some 48) && l.all dig && decide (1 ≤ num l ∧ num l ≤ 65535)
def port (l : List UInt8) : Int := if portOk l then num l else 0

theorem num_snoc (l : List UInt8) (c : UInt8) : num (l ++ [c]) = 10 * num l + ((c.toNat : Int) - 48) := by simp [num]
theorem num_nn : ∀ (l : List UInt8) (z : Int), 0 ≤ z → l.all dig = true → 0 ≤ l.foldl (fun n c => 10 * n + ((c.toNat : Int) - 48)) z
  | [], z, h, _ => h
  | c :: l, z, h, ha => by
    simp only [List.all_cons, Bool.and_eq_true] at ha
    have hc : 48 ≤ (c.toNat : Int) := by have := ha.1; simp [dig, digI] at this; omega
    exact num_nn l _ (by show 0 ≤ 10 * z + ((c.toNat : Int) - 48); omega) ha.2
theorem num_take_succ (s : ByteArray) (k : Nat) (h : k < s.size) : num (s.data.toList.take (k + 1)) = 10 * num (s.data.toList.take k) + ((s[k].toNat : Int) - 48) := by
  rw [take_snoc s k h, num_snoc]

def slashes : List UInt8 := [58, 47, 47]
def cutS (l : List UInt8) : List UInt8 × List UInt8 :=
  if Lib.hasPrefix l (http ++ slashes) then (http, l.drop 7) else if Lib.hasPrefix l (https ++ slashes) then (https, l.drop 8) else ([], [])
def readR (sch : List UInt8) (c : List UInt8 × List UInt8 × Bool) : Option (List UInt8 × List UInt8 × Int) :=
  if own sch = 0 ∨ host c.1 = false then none
  else if c.2.2 then (if portOk c.2.1 then some (sch, c.1, num c.2.1) else none) else some (sch, c.1, own sch)
def readS (l : List UInt8) : Option (List UInt8 × List UInt8 × Int) := readR (cutS l).1 (Lib.cut (cutS l).2 [58])
def originV : Option (List UInt8 × List UInt8 × Int) → Value
  | none => .agg #[.string ⟨#[]⟩, .string ⟨#[]⟩, .string ⟨#[]⟩, .int .i64 0]
  | some (a, b, n) => .agg #[.string ⟨#[]⟩, .string ⟨a.toArray⟩, .string ⟨b.toArray⟩, .int .i64 n]
def textS (sch hst : List UInt8) (p : Int) : List UInt8 :=
  if own sch = 0 ∨ host hst = false ∨ ¬ (1 ≤ p ∧ p ≤ 65535) then [] else if p = own sch then sch ++ slashes ++ hst else sch ++ slashes ++ hst ++ [58] ++ Lib.decDigits p.toNat
end Go.Proofs.Url
