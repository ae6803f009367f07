/- Plain: what JarHosts, JarPaths, JarNears ask about. -/
import Derived.Test.YtlmchmhdojkokaaDoorT1
namespace Go.Proofs.Url

def hosts5 : List (List UInt8) := [[97, 46, 116, 101, 115, 116], [120, 46, 97, 46, 116, 101, 115, 116], [121, 46, 120, 46, 97, 46, 116, 101, 115, 116], [121, 97, 46, 116, 101, 115, 116], [97, 46, 116, 101, 115, 116, 46, 98]]
def doms3 : List (List UInt8) := [[], [97, 46, 116, 101, 115, 116], [120, 46, 97, 46, 116, 101, 115, 116]]
/-- Does it fit, by numbers? -/
def fitsN (k t d : Nat) : Bool := decide (hosts5.getD t [] = hosts5.getD k []) || (decide (doms3.getD d [] = [97, 46, 116, 101, 115, 116]) && decide (t < 3)) || (decide (doms3.getD d [] = [120, 46, 97, 46, 116, 101, 115, 116]) && (decide (t = 1) || decide (t = 2)))
theorem hosts_tell : ∀ (k : Fin 3) (t : Fin 5) (d : Fin 3) (sec : Bool), fitsJ (doms3.getD d []) [47] sec (hosts5.getD k []) https (hosts5.getD t []) [47, 113] = fitsN k t d ∧ fitsJ (doms3.getD d []) [47] sec (hosts5.getD k []) http (hosts5.getD t []) [47, 113] = (fitsN k t d && !sec) := by decide +kernel
theorem hosts5_len (t : Nat) : (hosts5.getD t []).length ≤ 10 := by
  match t with
  | 0 => decide
  | 1 => decide
  | 2 => decide
  | 3 => decide
  | 4 => decide
  | t + 5 => simp [hosts5]
theorem doms3_len (t : Nat) : (doms3.getD t []).length ≤ 8 := by
  match t with
  | 0 => decide
  | 1 => decide
  | 2 => decide
  | t + 3 => simp [doms3]

/-- Paths by numbers. -/
def parts4 : List (List UInt8) := [[97], [98, 98], [99, 46, 100], [101, 45, 102]]
def wholeN (ks : List Nat) : List UInt8 := ks.flatMap (fun k => 47 :: parts4.getD k [])
def endsN (ks : List Nat) : List (List UInt8) := (List.range ks.length).map (fun i => wholeN (ks.take (i + 1)))
theorem parts4_good : ∀ k : Fin 4, 1 ≤ (parts4.getD k []).length ∧ (parts4.getD k []).length ≤ 3 ∧ (parts4.getD k []).getLast? ≠ some 47 := by decide +kernel
theorem whole_app (a b : List Nat) : wholeN (a ++ b) = wholeN a ++ wholeN b := by unfold wholeN; rw [List.flatMap_append]
theorem whole_one (k : Nat) : wholeN [k] = 47 :: parts4.getD k [] := by unfold wholeN; simp
theorem whole_next (ks : List Nat) (k : Nat) : wholeN (ks ++ [k]) = wholeN ks ++ 47 :: parts4.getD k [] := by rw [whole_app, whole_one]
theorem ends_next (ks : List Nat) (k : Nat) : endsN (ks ++ [k]) = endsN ks ++ [wholeN (ks ++ [k])] := by
  unfold endsN
  rw [List.length_append, List.length_singleton, List.range_succ, List.map_append, List.map_singleton]
  congr 1
  · apply List.map_congr_left
    intro i hi
    rw [List.mem_range] at hi
    rw [List.take_append_of_le_length (by omega)]
  · rw [List.take_of_length_le (by simp)]
theorem ends_len (ks : List Nat) : (endsN ks).length = ks.length := by unfold endsN; simp
theorem ends_at (ks : List Nat) (i : Nat) (h : i < (endsN ks).length) : (endsN ks)[i] = wholeN (ks.take (i + 1)) := by simp [endsN]
theorem whole_len (ks : List Nat) (h : ∀ k ∈ ks, k < 4) : (wholeN ks).length ≤ 4 * ks.length ∧ ks.length ≤ (wholeN ks).length := by
  induction ks with
  | nil => exact ⟨by simp [wholeN], by simp⟩
  | cons k ks ih =>
    have h1 := ih (fun x hx => h x (List.mem_cons_of_mem _ hx))
    have h2 := parts4_good ⟨k, h k (List.mem_cons_self ..)⟩
    simp only at h2
    have e : wholeN (k :: ks) = (47 :: parts4.getD k []) ++ wholeN ks := by unfold wholeN; rw [List.flatMap_cons]
    rw [e, List.length_append, List.length_cons, List.length_cons]
    omega
theorem ends_tell (ks : List Nat) (h : ∀ k ∈ ks, k < 4) (i : Nat) (hi : i < (endsN ks).length) :
    pathJ (endsN ks)[i] (wholeN ks) = true ∧ pathJ (endsN ks)[i] (endsN ks)[i] = true ∧ pathJ (endsN ks)[i] ((endsN ks)[i] ++ [47]) = true ∧ pathJ (endsN ks)[i] ((endsN ks)[i] ++ [120]) = false ∧ (endsN ks)[i].length ≤ 4 * ks.length := by
  have hn : i < ks.length := by rw [ends_len] at hi; exact hi
  rw [ends_at ks i hi]
  refine ⟨?_, pathJ_self _, pathJ_on _ [], pathJ_other ?_ (by decide), ?_⟩
  · have e : wholeN ks = wholeN (ks.take (i + 1)) ++ wholeN (ks.drop (i + 1)) := by rw [← whole_app, List.take_append_drop]
    rw [e]
    cases hd : ks.drop (i + 1) with
    | nil => rw [show wholeN [] = [] from rfl, List.append_nil]; exact pathJ_self _
    | cons k r =>
      have : wholeN (k :: r) = 47 :: (parts4.getD k [] ++ wholeN r) := by unfold wholeN; rw [List.flatMap_cons]; rfl
      rw [this]; exact pathJ_on _ _
  · rw [List.take_succ_eq_append_getElem hn, whole_next]
    have h2 := parts4_good ⟨ks[i], h _ (List.getElem_mem hn)⟩
    simp only at h2
    intro e
    rw [List.getLast?_append, List.getLast?_cons] at e
    cases hp : parts4.getD ks[i] [] with
    | nil => rw [hp] at h2; simp at h2
    | cons a b =>
      rw [hp] at e h2
      apply h2.2.2
      rw [← e]
      rw [List.getLast?_cons]
      simp
  · have := (whole_len (ks.take (i + 1)) (fun k hk => h k (List.mem_of_mem_take hk))).1
    rw [List.length_take] at this
    have h2 : min (i + 1) ks.length ≤ ks.length := Nat.min_le_right _ _
    omega
theorem ends_less (ks : List Nat) (i : Nat) (hi : i + 1 < (endsN ks).length) : pathJ (endsN ks)[i + 1] ((endsN ks)[i]'(Nat.lt_of_succ_lt hi)) = false := by
  have hn : i + 1 < ks.length := by rw [ends_len] at hi; exact hi
  refine pathJ_long ?_
  rw [ends_at, ends_at, List.take_succ_eq_append_getElem hn, whole_next, List.length_append, List.length_cons]
  omega
/-- Without a Domain, to the own host, not Secure: the path alone counts. -/
theorem fits_path (way o sch path : List UInt8) : fitsJ [] way false o sch o path = pathJ way path := by unfold fitsJ hostJ; simp

/-- Origins by numbers. -/
def hostsN : List (List UInt8) := [[97, 46, 116, 101, 115, 116], [98, 46, 97, 46, 116, 101, 115, 116], [99, 46, 98, 46, 97, 46, 116, 101, 115, 116], [98, 46, 116, 101, 115, 116], [116, 101, 115, 116]]
def sitesN : List Nat := [0, 0, 0, 1, 2]
def schmN : List (List UInt8) := [http, https]
theorem nears_tell : ∀ (x y : Fin 10), sameP (schmN.getD (x / 5) []) (schmN.getD (y / 5) []) (hostsN.getD (x % 5) []) (hostsN.getD (y % 5) []) = (decide (x.val / 5 = y.val / 5) && decide (sitesN.getD (x % 5) 0 = sitesN.getD (y % 5) 0)) := by decide +kernel
end Go.Proofs.Url
