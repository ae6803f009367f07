/- Walks over package domain: Site, Under. -/
import Derived.Test.YtcmmjmgbanafgaaW4
import Derived.Test.YtcmmjmgbanafgaaD2
namespace Go.Proofs.Ytcmmjmgbanafgaa
open Go.RowKit Go.Proofs.Url

theorem dataEq {a b : ByteArray} (h : a.data.toList = b.data.toList) : a = b := by
  cases a; cases b; simp only at h; rw [Array.toList_inj] at h; rw [h]
theorem mk_data (s : ByteArray) : (⟨s.data.toList.toArray⟩ : ByteArray) = s := by cases s; simp
theorem drop_end (s : ByteArray) (n : Nat) : (s.extract n s.size).data.toList = s.data.toList.drop n := Lib.extract_to_end s n
theorem ret_str {a b : ByteArray} (h : a = b) : Ending.returned (.string a) = .returned (.string b) := by rw [h]
theorem count_drop (s : ByteArray) (k : Nat) (h : k < s.size) : (s.data.toList.drop k).count 46 = (s.data.toList.drop (k + 1)).count 46 + (if s[k].toNat = 46 then 1 else 0) := by
  have hk : k < s.data.toList.length := by simpa using h
  rw [List.drop_eq_getElem_cons hk, List.count_cons]
  congr 1
  show (if (s[k] == 46) = true then 1 else 0) = _
  by_cases e : s[k].toNat = 46
  · have : s[k] = 46 := UInt8.toNat_inj.1 e
    rw [if_pos e, if_pos (beq_iff_eq.2 this)]
  · rw [if_neg e, if_neg (fun e' => e (by rw [beq_iff_eq.1 e']; rfl))]
theorem site_at (s : ByteArray) (k : Nat) (h : k < s.size) (hh : host s.data.toList = true) (hc : s[k].toNat = 46) (h1 : (s.data.toList.drop (k + 1)).count 46 = 1) : siteS s.data.toList = s.data.toList.drop (k + 1) := by
  have hk : k < s.data.toList.length := by simpa using h
  have e : s.data.toList = s.data.toList.take k ++ 46 :: s.data.toList.drop (k + 1) := by
    have h2 := List.take_append_drop k s.data.toList
    rw [List.drop_eq_getElem_cons hk] at h2
    have h3 : s.data.toList[k] = 46 := UInt8.toNat_inj.1 hc
    rw [h3] at h2; exact h2.symm
  have hh' := hh
  rw [e] at hh'
  have := site_cut hh' h1
  rw [← e] at this; exact this

def szOf : Value → Nat
  | .string s => s.size
  | _ => 0
def btOf : Value → Nat
  | .bool true => 1
  | _ => 0

end Go.Proofs.Ytcmmjmgbanafgaa
