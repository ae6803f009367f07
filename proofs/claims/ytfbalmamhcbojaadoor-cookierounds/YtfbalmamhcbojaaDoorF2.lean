/- Plain mathematics of the lists and pairs that are laid piece by piece. -/
import Derived.Test.YtfbalmamhcbojaaDoorF1
namespace Go.Proofs.Url

def gaps4 : List (List UInt8) := [[], [32], [9], [32, 32]]
def all6 : List (List UInt8) := [[88, 45, 84, 111, 107, 101, 110], [97, 99, 99, 101, 112, 116], [97], [67, 111, 110, 116, 101, 110, 116, 45, 84, 121, 112, 101], [33, 120], [90, 57]]
def low6 : List (List UInt8) := [[120, 45, 116, 111, 107, 101, 110], [97, 99, 99, 101, 112, 116], [97], [99, 111, 110, 116, 101, 110, 116, 45, 116, 121, 112, 101], [33, 120], [122, 57]]
def tails4 : List (List UInt8) := [[], [32], [44], [9, 32, 44]]
def pieceL (g k t : Nat) : List UInt8 := gaps4.getD g [] ++ all6.getD k [] ++ tails4.getD t [] ++ [44]
theorem pieceL_ok : ∀ (g : Fin 4) (k : Fin 6) (t : Fin 4), itemsS (pieceL g k t) = [low6.getD k []] ∧ nameS (low6.getD k []) = true ∧ (pieceL g k t).length ≤ 18 := by decide +kernel
theorem pieceL_items {g k t : Nat} (hg : g < 4) (hk : k < 6) (ht : t < 4) : itemsS (pieceL g k t) = [low6.getD k []] ∧ nameS (low6.getD k []) = true ∧ (pieceL g k t).length ≤ 18 := pieceL_ok ⟨g, hg⟩ ⟨k, hk⟩ ⟨t, ht⟩
/-- Where a list stands that is laid piece by piece. -/
def ListInv (l : List UInt8) (want : List (List UInt8)) : Prop := Comma l ∧ itemsS l = want ∧ want.all nameS = true
theorem list_start : ListInv [] [] := ⟨.inl rfl, rfl, rfl⟩
theorem list_next {l : List UInt8} {want : List (List UInt8)} (h : ListInv l want) {g k t : Nat} (hg : g < 4) (hk : k < 6) (ht : t < 4) : ListInv (l ++ pieceL g k t) (want ++ [low6.getD k []]) := by
  obtain ⟨p1, p2, _⟩ := pieceL_items hg hk ht
  refine ⟨.inr ⟨l ++ (gaps4.getD g [] ++ all6.getD k [] ++ tails4.getD t []), by unfold pieceL; simp⟩, ?_, ?_⟩
  · rw [items_comma h.1, h.2.1, p1]
  · rw [List.all_append, h.2.2, List.all_cons, p2]; rfl
theorem list_good {l : List UInt8} {want : List (List UInt8)} (h : ListInv l want) : listOk l = true ∧ listS l = want := by
  have : listOk l = true := by unfold listOk; rw [h.2.1]; exact h.2.2
  exact ⟨this, by unfold listS; rw [if_pos this]; exact h.2.1⟩
theorem list_bad {l : List UInt8} {want : List (List UInt8)} (h : ListInv l want) : listOk (l ++ [97, 32, 98]) = false ∧ listS (l ++ [97, 32, 98]) = [] := by
  have : listOk (l ++ [97, 32, 98]) = false := by
    unfold listOk; rw [items_comma h.1, List.all_append, show (itemsS [97, 32, 98]).all nameS = false by decide +kernel, Bool.and_false]
  exact ⟨this, by unfold listS; rw [if_neg (by simp [this])]⟩

def gapsP : List (List UInt8) := [[], [32], [9, 32], [32, 32]]
def names4 : List (List UInt8) := [[80, 97, 116, 104], [83, 69, 67, 85, 82, 69], [97, 45, 66], [120]]
def lows4 : List (List UInt8) := [[112, 97, 116, 104], [115, 101, 99, 117, 114, 101], [97, 45, 98], [120]]
def vals5 : List (List UInt8) := [[], [47, 120], [97, 61, 98], [113, 32, 114], [90]]
def trails3 : List (List UInt8) := [[], [59], [32, 59, 32]]
def coreP (n g : Nat) : List UInt8 := gapsP.getD g [] ++ names4.getD (n % 4) [] ++ (if 0 < n / 4 % 5 ∨ 20 ≤ n then gapsP.getD g [] ++ [61] ++ gapsP.getD g [] ++ vals5.getD (n / 4 % 5) [] else []) ++ gapsP.getD g []
def pieceP (n g : Nat) : List UInt8 := coreP n g ++ [59] ++ trails3.getD (n % 3) []
def lastP (n : Nat) : List UInt8 := if n % 3 = 2 then [32] else []
theorem lastP_gap (n : Nat) : (lastP n).all gapB = true := by unfold lastP; split <;> decide
theorem pieceP_ok : ∀ (n : Fin 40) (g : Fin 4), pairsS (pieceP n g) = [(lows4.getD (n % 4) [], vals5.getD (n / 4 % 5) [])] ∧ pairsS (32 :: pieceP n g) = [(lows4.getD (n % 4) [], vals5.getD (n / 4 % 5) [])] ∧ (pieceP n g).length ≤ 22 := by decide +kernel
theorem pieceP_end (n g : Nat) : ∃ a, pieceP n g = a ++ 59 :: lastP n := by
  unfold pieceP lastP
  have h : n % 3 = 0 ∨ n % 3 = 1 ∨ n % 3 = 2 := by omega
  rcases h with h | h | h
  · exact ⟨coreP n g, by rw [h]; simp [trails3]⟩
  · exact ⟨coreP n g ++ [59], by rw [h]; simp [trails3]⟩
  · exact ⟨coreP n g ++ [59, 32], by rw [h]; simp [trails3]⟩
/-- Where pairs stand that are laid piece by piece. -/
def PairInv (l : List UInt8) (want : List (List UInt8 × List UInt8)) : Prop := (∃ b, Semi l b ∧ (b = [] ∨ b = [32])) ∧ pairsS l = want
theorem pair_start : PairInv [] [] := ⟨⟨[], .inl ⟨rfl, rfl⟩, .inl rfl⟩, rfl⟩
theorem pair_next {l : List UInt8} {want : List (List UInt8 × List UInt8)} (h : PairInv l want) {n g : Nat} (hn : n < 40) (hg : g < 4) : PairInv (l ++ pieceP n g) (want ++ [(lows4.getD (n % 4) [], vals5.getD (n / 4 % 5) [])]) := by
  obtain ⟨⟨b, hs, hb⟩, hw⟩ := h
  obtain ⟨p1, p2, _⟩ := pieceP_ok ⟨n, hn⟩ ⟨g, hg⟩
  refine ⟨⟨lastP n, .inr ?_, ?_⟩, ?_⟩
  · obtain ⟨a, ha⟩ := pieceP_end n g
    exact ⟨l ++ a, by rw [ha]; simp⟩
  · unfold lastP; split
    · exact .inr rfl
    · exact .inl rfl
  · have hbg : b.all gapB = true := by rcases hb with rfl | rfl <;> decide
    rw [pairs_semi hs hbg, hw]
    rcases hb with rfl | rfl
    · rw [List.nil_append]; exact congrArg _ p1
    · rw [List.singleton_append]; exact congrArg _ p2
end Go.Proofs.Url
