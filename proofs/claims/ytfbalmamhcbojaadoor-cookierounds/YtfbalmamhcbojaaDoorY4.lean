/- Plain: what CookieRounds and CookieBad lay, and what is read of it. -/
import Derived.Test.YtfbalmamhcbojaaDoorY1
namespace Go.Proofs.Url

def sameCk (o : Option Ck) (c : Ck) : Bool := match o with
  | none => false
  | some d => decide (d.dom = c.dom) && decide (d.way = c.way) && (d.sec == c.sec) && (d.htt == c.htt) && decide (d.same = c.same)
theorem sameCk_eq {o : Option Ck} {c : Ck} (h : sameCk o c = true) : o = some c := by
  cases o with
  | none => cases h
  | some d =>
    obtain ⟨a, b, e, f, g⟩ := d
    obtain ⟨a', b', e', f', g'⟩ := c
    simp only [sameCk, Bool.and_eq_true, decide_eq_true_eq, beq_iff_eq] at h
    obtain ⟨⟨⟨⟨rfl, rfl⟩, rfl⟩, rfl⟩, rfl⟩ := h
    rfl
def doms3 : List (List UInt8) := [[], [98, 46, 116, 101, 115, 116], [97, 46, 98, 46, 116, 101, 115, 116]]
def ways3 : List (List UInt8) := [[47], [47, 120], [47, 120, 47, 121, 46, 122]]
def hostR : List UInt8 := [97, 46, 98, 46, 116, 101, 115, 116]
/-- The cookie that is laid. -/
def ckR (d p s : Nat) (b1 b2 : Bool) : Ck := ⟨doms3.getD d [], ways3.getD p [], b1 || decide (s = 0), b2, 1 + s⟩
def sames4 : List (List UInt8) := [[], [78, 79, 78, 69], [108, 97, 120], [83, 116, 82, 105, 67, 116]]
def pathEq : List UInt8 := [80, 65, 84, 72, 32, 61, 32]
def sameEq : List UInt8 := [115, 97, 109, 101, 115, 105, 116, 101, 61]
def domEq : List UInt8 := [68, 111, 109, 97, 105, 110, 61]
def SECURE : List UInt8 := [83, 69, 67, 85, 82, 69]
def httponly : List UInt8 := [104, 116, 116, 112, 111, 110, 108, 121]
def partsR (c : Ck) : List (List UInt8) := [pathEq ++ c.way, sameEq ++ sames4.getD c.same []] ++ (if c.dom.isEmpty then [] else [domEq ++ c.dom]) ++ (if c.sec then [SECURE] else []) ++ (if c.htt then [httponly] else [])
def semi : List UInt8 := [32, 59]
/-- So many of them, from one of them on. -/
def turnK (ps : List (List UInt8)) (t k : Nat) : List UInt8 := ((List.range k).map (fun i => semi ++ ps.getD ((i + t) % ps.length) [])).flatten
theorem turnK_zero (ps : List (List UInt8)) (t : Nat) : turnK ps t 0 = [] := rfl
theorem turnK_succ (ps : List (List UInt8)) (t k : Nat) : turnK ps t (k + 1) = turnK ps t k ++ (semi ++ ps.getD ((k + t) % ps.length) []) := by
  unfold turnK; rw [List.range_succ, List.map_append, List.flatten_append]; simp
def turned (c : Ck) (t : Nat) : List UInt8 := turnK (partsR c) t (partsR c).length
def twice : List UInt8 := [59, 32, 112, 97, 116, 104, 61, 47]
def textOf (c : Ck) : List UInt8 := textC c.dom c.way c.sec c.htt c.same
theorem rounds_text : ∀ (d p s : Fin 3) (b1 b2 : Bool), sameCk (cookieS hostR (textOf (ckR d p s b1 b2))) (ckR d p s b1 b2) = true := by decide +kernel
theorem rounds_turn : ∀ (d p s : Fin 3) (b1 b2 : Bool) (t : Fin 5), sameCk (cookieS hostR (turned (ckR d p s b1 b2) t)) (ckR d p s b1 b2) = true := by decide +kernel
theorem rounds_twice : ∀ (d p s : Fin 3) (b1 b2 : Bool) (t : Fin 5), (cookieS hostR (turned (ckR d p s b1 b2) t ++ twice)).isNone = true := by decide +kernel
theorem rounds_len : ∀ (d p s : Fin 3) (b1 b2 : Bool) (t : Fin 5), (turned (ckR d p s b1 b2) t).length ≤ 100 ∧ (textOf (ckR d p s b1 b2)).length ≤ 100 ∧ 2 ≤ (partsR (ckR d p s b1 b2)).length ∧ (partsR (ckR d p s b1 b2)).length ≤ 5 ∧ (∀ x ∈ partsR (ckR d p s b1 b2), x.length ≤ 20) := by decide +kernel

def hostB : List UInt8 := [120, 46, 97, 46, 116, 101, 115, 116]
def bad16 : List (List UInt8) := [[83, 101, 99, 117, 114, 101, 61], [83, 101, 99, 117, 114, 101, 61, 49], [72, 116, 116, 112, 79, 110, 108, 121, 61, 120], [83, 97, 109, 101, 83, 105, 116, 101], [83, 97, 109, 101, 83, 105, 116, 101, 61], [83, 97, 109, 101, 83, 105, 116, 101, 61, 110, 111], [80, 97, 116, 104], [80, 97, 116, 104, 61, 120], [80, 97, 116, 104, 61, 47, 65], [68, 111, 109, 97, 105, 110, 61], [68, 111, 109, 97, 105, 110, 61, 116, 101, 115, 116], [68, 111, 109, 97, 105, 110, 61, 98, 46, 116, 101, 115, 116], [68, 111, 109, 97, 105, 110, 61, 99, 46, 97, 46, 116, 101, 115, 116], [77, 97, 120, 45, 65, 103, 101, 61, 53], [61, 120], [83, 97, 109, 101, 83, 105, 116, 101, 61, 78, 111, 110, 101]]
def oth4 : List (List UInt8) := [[], [59, 32, 72, 116, 116, 112, 79, 110, 108, 121], [59, 32, 80, 97, 116, 104, 61, 47, 120], [59, 32, 68, 111, 109, 97, 105, 110, 61, 97, 46, 116, 101, 115, 116]]
def othB (k b : Nat) : List UInt8 := if (k = 2 ∧ b = 1) ∨ (6 ≤ k ∧ k ≤ 8 ∧ b = 2) ∨ (9 ≤ k ∧ k ≤ 12 ∧ b = 3) then [] else oth4.getD b []
theorem bad_tells : ∀ (k : Fin 16) (b : Fin 4), (cookieS hostB (bad16.getD k [] ++ othB k b)).isSome = decide (k.val = 0) ∧ (cookieS hostB (othB k b)).isSome = true ∧ (bad16.getD k []).length ≤ 20 ∧ (othB k b).length ≤ 20 := by decide +kernel
end Go.Proofs.Url
