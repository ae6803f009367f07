/- Plain mathematics of chapter 4: methods, headers that need no leave. No program is named here. -/
import Derived.Test.YtmepjaepggomjaaDoorF3
namespace Go.Proofs.Url

def mGET : List UInt8 := [71, 69, 84]
def mHEAD : List UInt8 := [72, 69, 65, 68]
def mPOST : List UInt8 := [80, 79, 83, 84]
def mPUT : List UInt8 := [80, 85, 84]
def mDELETE : List UInt8 := [68, 69, 76, 69, 84, 69]
def mPATCH : List UInt8 := [80, 65, 84, 67, 72]
def methods3 : List (List UInt8) := [mGET, mHEAD, mPOST]
def methods6 : List (List UInt8) := [mGET, mHEAD, mPOST, mPUT, mDELETE, mPATCH]
def heads4 : List (List UInt8) := [[97, 99, 99, 101, 112, 116], [97, 99, 99, 101, 112, 116, 45, 108, 97, 110, 103, 117, 97, 103, 101], [99, 111, 110, 116, 101, 110, 116, 45, 108, 97, 110, 103, 117, 97, 103, 101], [114, 97, 110, 103, 101]]
def methodS (m : List UInt8) : Bool := methods3.contains m
def knownS (m : List UInt8) : Bool := methods6.contains m
def headS (h : List UInt8) : Bool := heads4.contains (lowerS h)
def simpleS (m : List UInt8) (hs : List (List UInt8)) : Bool := methodS m && hs.all headS
/-- Each twice, from the end. -/
def backS (hs : List (List UInt8)) : List (List UInt8) := hs.reverse.flatMap (fun h => [h, h])
theorem simple_snoc (m : List UInt8) (hs : List (List UInt8)) (x : List UInt8) : simpleS m (hs ++ [x]) = (simpleS m hs && headS x) := by
  unfold simpleS; rw [List.all_append, List.all_cons, List.all_nil, Bool.and_true, Bool.and_assoc]
theorem back_all (hs : List (List UInt8)) : (backS hs).all headS = hs.all headS := by
  rw [Bool.eq_iff_iff, List.all_eq_true, List.all_eq_true]
  unfold backS
  constructor
  · intro h x hx; exact h x (List.mem_flatMap.2 ⟨x, List.mem_reverse.2 hx, by simp⟩)
  · intro h x hx
    obtain ⟨y, hy, hxy⟩ := List.mem_flatMap.1 hx
    have : x = y := by simpa using hxy
    subst this
    exact h x (List.mem_reverse.1 hy)
theorem simple_back (m : List UInt8) (hs : List (List UInt8)) : simpleS m (backS hs) = simpleS m hs := by
  unfold simpleS; rw [back_all]
/-- What SafeRows draws from. -/
def rows8 : List (List UInt8) := [[97, 99, 99, 101, 112, 116], [65, 99, 99, 101, 112, 116, 45, 76, 97, 110, 103, 117, 97, 103, 101], [67, 79, 78, 84, 69, 78, 84, 45, 76, 65, 78, 71, 85, 65, 71, 69], [82, 97, 110, 103, 101], [99, 111, 110, 116, 101, 110, 116, 45, 116, 121, 112, 101], [120, 45, 116, 111, 107, 101, 110], [97, 99, 99, 101, 112, 116, 115], [65, 117, 116, 104, 111, 114, 105, 122, 97, 116, 105, 111, 110]]
def names8 : List (List UInt8) := [mGET, mHEAD, mPOST, mPUT, mDELETE, mPATCH, [103, 101, 116], [84, 82, 65, 67, 69]]
theorem rows8_ok : ∀ k : Fin 8, headS (rows8.getD k []) = decide (k.val < 4) ∧ (rows8.getD k []).length ≤ 16 := by decide +kernel
theorem names8_ok : ∀ k : Fin 8, methodS (names8.getD k []) = decide (k.val < 3) ∧ knownS (names8.getD k []) = decide (k.val < 6) ∧ (names8.getD k []).length ≤ 6 := by decide +kernel
end Go.Proofs.Url
