/- Plain mathematics of chapter 1: bytes, labels, hosts, ports, paths as lists of bytes. No program is named here. -/
import Derived.WalkKit
namespace Go.Proofs.Url

def digI (n : Int) : Bool := decide (48 ≤ n ∧ n ≤ 57)
def labI (n : Int) : Bool := decide (97 ≤ n ∧ n ≤ 122) || digI n || decide (n = 45)
def pathI (n : Int) : Bool := decide (n = 47) || decide (n = 95) || decide (n = 46) || labI n

def dig (c : UInt8) : Bool := digI c.toNat
def lab (c : UInt8) : Bool := labI c.toNat
def pth (c : UInt8) : Bool := pathI c.toNat

def label (l : List UInt8) : Bool := decide (1 ≤ l.length ∧ l.length ≤ 20) && !(l.head? == some 45) && !(l.getLast? == some 45) && l.all lab
def path (l : List UInt8) : Bool := decide (1 ≤ l.length ∧ l.length ≤ 60) && (l.head? == some 47) && l.all pth

def http : List UInt8 := [104, 116, 116, 112]
def https : List UInt8 := [104, 116, 116, 112, 115]
def own (l : List UInt8) : Int := if l = http then 80 else if l = https then 443 else 0
def big : Int := 18446744073709551616
def low (x n : Int) : Int := (x % big) % n

theorem take_snoc (s : ByteArray) (k : Nat) (h : k < s.size) : s.data.toList.take (k + 1) = s.data.toList.take k ++ [s[k]] := by
  rw [List.take_succ_eq_append_getElem (by simpa using h)]; rfl
theorem all_take_succ (f : UInt8 → Bool) (s : ByteArray) (k : Nat) (h : k < s.size) : (s.data.toList.take (k + 1)).all f = ((s.data.toList.take k).all f && f s[k]) := by
  rw [take_snoc s k h, List.all_append]; simp
theorem all_false_of (f : UInt8 → Bool) (s : ByteArray) (k : Nat) (h : k < s.size) (hf : f s[k] = false) : s.data.toList.all f = false := by
  rw [List.all_eq_false]; exact ⟨s[k], by show s.data[k] ∈ _; simp, by simp [hf]⟩
theorem all_of_take (f : UInt8 → Bool) (s : ByteArray) (k : Nat) (h : s.size ≤ k) (ht : (s.data.toList.take k).all f = true) : s.data.toList.all f = true := by
  rwa [List.take_of_length_le (by simpa using h)] at ht
theorem ret_bool {a b : Bool} (h : a = b) : Ending.returned (.bool a) = .returned (.bool b) := by rw [h]
theorem ret_int {k : IntKind} {a b : Int} (h : a = b) : Ending.returned (.int k a) = .returned (.int k b) := by rw [h]
theorem emp_t (s : ByteArray) (h : s.size = 0) : s.toList.isEmpty = true := by
  rw [ByteArray.toList_eq, List.isEmpty_iff, List.eq_nil_iff_length_eq_zero]; simpa using h
theorem emp_f (s : ByteArray) (h : 0 < s.size) : s.toList.isEmpty = false := by
  rw [ByteArray.toList_eq, List.isEmpty_eq_false_iff, ne_eq, List.eq_nil_iff_length_eq_zero]
  have e : s.data.toList.length = s.size := by simp
  rw [e]; omega
theorem head_eq (s : ByteArray) (h : 0 < s.size) : s.data.toList.head? = some s[0] := by
  rw [List.head?_eq_getElem?, List.getElem?_eq_getElem (by simpa using h)]; rfl
theorem last_eq (s : ByteArray) (h : s.size - 1 < s.size) : s.data.toList.getLast? = some s[s.size - 1] := by
  rw [List.getLast?_eq_getElem?]
  have e : s.data.toList.length = s.size := by simp
  rw [e, List.getElem?_eq_getElem (by simpa using h)]; rfl
theorem nat_byte (c : UInt8) (n : Nat) (h : n < 256) : (c == UInt8.ofNat n) = decide (c.toNat = n) := by
  rw [Bool.eq_iff_iff]; simp [← UInt8.toNat_inj]; omega
theorem len_eq (s : ByteArray) : s.data.toList.length = s.size := by simp
theorem hide {p : Prop} (h : p) : RowKit.Hid p := h
end Go.Proofs.Url
