/- Plain mathematics of chapter 7: what attributes make of a cookie; its text. No program is named here. -/
import Derived.Test.YtfbalmamhcbojaaDoorF3
import Derived.Lib.Join
namespace Go.Proofs.Url

/-- Domain, Path, Secure, HttpOnly, SameSite of a cookie. -/
structure Ck where
  dom : List UInt8
  way : List UInt8
  sec : Bool
  htt : Bool
  same : Nat

def kDomain : List UInt8 := [100, 111, 109, 97, 105, 110]
def kPath : List UInt8 := [112, 97, 116, 104]
def kSecure : List UInt8 := [115, 101, 99, 117, 114, 101]
def kHttp : List UInt8 := [104, 116, 116, 112, 111, 110, 108, 121]
def kSame : List UInt8 := [115, 97, 109, 101, 115, 105, 116, 101]
def vNone : List UInt8 := [110, 111, 110, 101]
def vLax : List UInt8 := [108, 97, 120]
def vStrict : List UInt8 := [115, 116, 114, 105, 99, 116]

def lowV (v : List UInt8) : Nat := if v = vNone then 1 else if v = vLax then 2 else if v = vStrict then 3 else 0
def sameV (v : List UInt8) : Nat := lowV (lowerS v)
def mayDom (h v : List UInt8) : Bool := underS h v && decide (2 ≤ (labelsS v).length)
/-- May one attribute stand by itself? -/
def okA (h k v : List UInt8) : Bool :=
  if k = kDomain then mayDom h v else if k = kPath then path v else if k = kSecure then v.isEmpty else if k = kHttp then v.isEmpty else if k = kSame then decide (0 < sameV v) else false
/-- It is put in. -/
def setA (c : Ck) (k v : List UInt8) : Ck :=
  if k = kDomain then { c with dom := v } else if k = kPath then { c with way := v } else if k = kSecure then { c with sec := true } else if k = kHttp then { c with htt := true } else if k = kSame then { c with same := sameV v } else c
/-- Was it there before? -/
def seenA (c : Ck) (k : List UInt8) : Bool :=
  if k = kDomain then !c.dom.isEmpty else if k = kPath then !c.way.isEmpty else if k = kSecure then c.sec else if k = kHttp then c.htt else if k = kSame then decide (0 < c.same) else false
def stepC (h : List UInt8) (c : Ck) (p : List UInt8 × List UInt8) : Option Ck := if okA h p.1 p.2 && !seenA c p.1 then some (setA c p.1 p.2) else none
def zeroC : Ck := ⟨[], [], false, false, 0⟩
def foldC (h : List UInt8) (ps : List (List UInt8 × List UInt8)) : Option Ck := ps.foldl (fun o p => o.bind (fun c => stepC h c p)) (some zeroC)
def fillC (c : Ck) : Ck := ⟨c.dom, if c.way.isEmpty then [47] else c.way, c.sec, c.htt, if c.same = 0 then 2 else c.same⟩
def lastC (c : Ck) : Option Ck := if decide (c.same = 1) && !c.sec then none else some c
def cookieS (h s : List UInt8) : Option Ck := if host h then (foldC h (pairsS s)).bind (fun c => lastC (fillC c)) else none

theorem foldC_snoc (h : List UInt8) (ps : List (List UInt8 × List UInt8)) (p : List UInt8 × List UInt8) : foldC h (ps ++ [p]) = (foldC h ps).bind (fun c => stepC h c p) := by
  unfold foldC; rw [List.foldl_append]; rfl
theorem foldC_none (h : List UInt8) (ps qs : List (List UInt8 × List UInt8)) (hn : foldC h ps = none) : foldC h (ps ++ qs) = none := by
  induction qs generalizing ps with
  | nil => rw [List.append_nil]; exact hn
  | cons q qs ih =>
    have := ih (ps ++ [q]) (by rw [foldC_snoc, hn]; rfl)
    rwa [List.append_assoc, List.singleton_append] at this
theorem foldC_take {h : List UInt8} {ps : List (List UInt8 × List UInt8)} {k : Nat} {c : Ck} (hk : k < ps.length) (hc : foldC h (ps.take k) = some c) : foldC h (ps.take (k + 1)) = stepC h c ps[k] := by
  rw [List.take_succ_eq_append_getElem hk, foldC_snoc, hc]; rfl
theorem foldC_dead {h : List UInt8} {ps : List (List UInt8 × List UInt8)} {k : Nat} {c : Ck} (hk : k < ps.length) (hc : foldC h (ps.take k) = some c) (hs : stepC h c ps[k] = none) : foldC h ps = none := by
  have := foldC_none h (ps.take (k + 1)) (ps.drop (k + 1)) (by rw [foldC_take hk hc, hs])
  rwa [List.take_append_drop] at this
theorem cookie_dead {h s : List UInt8} (hf : foldC h (pairsS s) = none) : cookieS h s = none := by
  unfold cookieS; rw [hf]; split <;> rfl
theorem cookie_live {h s : List UInt8} {c : Ck} (hh : host h = true) (hf : foldC h (pairsS s) = some c) : cookieS h s = lastC (fillC c) := by
  unfold cookieS; rw [hf, if_pos hh]; rfl
theorem cookie_nohost {h s : List UInt8} (hh : host h = false) : cookieS h s = none := by unfold cookieS; rw [if_neg (by simp [hh])]

theorem host_nil : host [] = false := by decide
theorem under_nil (h : List UInt8) : underS h [] = false := by unfold underS; rw [host_nil]; simp
theorem may_ne {h v : List UInt8} (hv : mayDom h v = true) : v ≠ [] := by
  rintro rfl; unfold mayDom at hv; rw [under_nil] at hv; simp at hv
theorem path_nil : path [] = false := by decide
theorem path_ne {v : List UInt8} (hv : path v = true) : v ≠ [] := by rintro rfl; rw [path_nil] at hv; cases hv
theorem ne_empty {v : List UInt8} (h : v ≠ []) : v.isEmpty = false := by cases v; exact absurd rfl h; rfl

theorem keys_apart : kPath ≠ kDomain ∧ kSecure ≠ kDomain ∧ kSecure ≠ kPath ∧ kHttp ≠ kDomain ∧ kHttp ≠ kPath ∧ kHttp ≠ kSecure ∧ kSame ≠ kDomain ∧ kSame ≠ kPath ∧ kSame ≠ kSecure ∧ kSame ≠ kHttp := by decide

theorem ok_five {h k v : List UInt8} (ho : okA h k v = true) : k = kDomain ∧ mayDom h v = true ∨ k = kPath ∧ path v = true ∨ k = kSecure ∧ v = [] ∨ k = kHttp ∧ v = [] ∨ k = kSame ∧ 0 < sameV v := by
  unfold okA at ho
  by_cases h1 : k = kDomain
  · rw [if_pos h1] at ho; exact .inl ⟨h1, ho⟩
  rw [if_neg h1] at ho
  by_cases h2 : k = kPath
  · rw [if_pos h2] at ho; exact .inr (.inl ⟨h2, ho⟩)
  rw [if_neg h2] at ho
  by_cases h3 : k = kSecure
  · rw [if_pos h3] at ho; exact .inr (.inr (.inl ⟨h3, by simpa using ho⟩))
  rw [if_neg h3] at ho
  by_cases h4 : k = kHttp
  · rw [if_pos h4] at ho; exact .inr (.inr (.inr (.inl ⟨h4, by simpa using ho⟩)))
  rw [if_neg h4] at ho
  by_cases h5 : k = kSame
  · rw [if_pos h5] at ho; exact .inr (.inr (.inr (.inr ⟨h5, of_decide_eq_true ho⟩)))
  · rw [if_neg h5] at ho; cases ho

theorem set_dom (c : Ck) (v : List UInt8) : setA c kDomain v = { c with dom := v } := by unfold setA; rw [if_pos rfl]
theorem set_path (c : Ck) (v : List UInt8) : setA c kPath v = { c with way := v } := by
  unfold setA; rw [if_neg keys_apart.1, if_pos rfl]
theorem set_sec (c : Ck) (v : List UInt8) : setA c kSecure v = { c with sec := true } := by
  unfold setA; rw [if_neg keys_apart.2.1, if_neg keys_apart.2.2.1, if_pos rfl]
theorem set_http (c : Ck) (v : List UInt8) : setA c kHttp v = { c with htt := true } := by
  unfold setA; rw [if_neg keys_apart.2.2.2.1, if_neg keys_apart.2.2.2.2.1, if_neg keys_apart.2.2.2.2.2.1, if_pos rfl]
theorem set_same (c : Ck) (v : List UInt8) : setA c kSame v = { c with same := sameV v } := by
  obtain ⟨_, _, _, _, _, _, a, b, d, e⟩ := keys_apart
  unfold setA; rw [if_neg a, if_neg b, if_neg d, if_neg e, if_pos rfl]

/-- What was put in is there; all else is as it was. -/
theorem seen_set {h : List UInt8} {c : Ck} {k v : List UInt8} (ho : okA h k v = true) (k' : List UInt8) : seenA (setA c k v) k' = (k' == k || seenA c k') := by
  obtain ⟨a1, a2, a3, a4, a5, a6, a7, a8, a9, a10⟩ := keys_apart
  rcases ok_five ho with ⟨rfl, hv⟩ | ⟨rfl, hv⟩ | ⟨rfl, hv⟩ | ⟨rfl, hv⟩ | ⟨rfl, hv⟩
  · rw [set_dom]; unfold seenA
    by_cases e : k' = kDomain
    · subst e; simp [may_ne hv]
    · simp [e]
  · rw [set_path]; unfold seenA
    by_cases e : k' = kPath
    · subst e; simp [a1, path_ne hv]
    · simp [e]
  · rw [set_sec]; unfold seenA
    by_cases e : k' = kSecure
    · subst e; simp [a2, a3]
    · simp [e]
  · rw [set_http]; unfold seenA
    by_cases e : k' = kHttp
    · subst e; simp [a4, a5, a6]
    · simp [e]
  · rw [set_same]; unfold seenA
    by_cases e : k' = kSame
    · subst e; simp [a7, a8, a9, a10, hv]
    · simp [e]
theorem fill_set {h : List UInt8} {c : Ck} {k v : List UInt8} (ho : okA h k v = true) : fillC (setA c k v) = setA (fillC c) k v := by
  rcases ok_five ho with ⟨rfl, hv⟩ | ⟨rfl, hv⟩ | ⟨rfl, hv⟩ | ⟨rfl, hv⟩ | ⟨rfl, hv⟩
  · rw [set_dom, set_dom]; rfl
  · rw [set_path, set_path]; unfold fillC; simp only [ne_empty (path_ne hv)]; rfl
  · rw [set_sec, set_sec]; rfl
  · rw [set_http, set_http]; rfl
  · rw [set_same, set_same]; unfold fillC; simp only [show ¬ sameV v = 0 by omega, if_false]

theorem step_dom (h v : List UInt8) (c : Ck) : stepC h c (kDomain, v) = if mayDom h v && c.dom.isEmpty then some { c with dom := v } else none := by
  unfold stepC; rw [set_dom]; unfold okA seenA; simp
theorem step_path (h v : List UInt8) (c : Ck) : stepC h c (kPath, v) = if path v && c.way.isEmpty then some { c with way := v } else none := by
  unfold stepC; rw [set_path]; unfold okA seenA; simp [keys_apart.1]
theorem step_sec (h v : List UInt8) (c : Ck) : stepC h c (kSecure, v) = if v.isEmpty && !c.sec then some { c with sec := true } else none := by
  unfold stepC; rw [set_sec]; unfold okA seenA; simp [keys_apart.2.1, keys_apart.2.2.1]
theorem step_http (h v : List UInt8) (c : Ck) : stepC h c (kHttp, v) = if v.isEmpty && !c.htt then some { c with htt := true } else none := by
  unfold stepC; rw [set_http]; unfold okA seenA; simp [keys_apart.2.2.2.1, keys_apart.2.2.2.2.1, keys_apart.2.2.2.2.2.1]
theorem step_same (h v : List UInt8) (c : Ck) : stepC h c (kSame, v) = if decide (0 < sameV v) && !decide (0 < c.same) then some { c with same := sameV v } else none := by
  obtain ⟨_, _, _, _, _, _, a, b, d, e⟩ := keys_apart
  unfold stepC; rw [set_same]; unfold okA seenA; simp [a, b, d, e]
theorem step_else (h k v : List UInt8) (c : Ck) (h1 : k ≠ kDomain) (h2 : k ≠ kPath) (h3 : k ≠ kSecure) (h4 : k ≠ kHttp) (h5 : k ≠ kSame) : stepC h c (k, v) = none := by
  unfold stepC okA; simp [h1, h2, h3, h4, h5]

def keysOf (ps : List (List UInt8 × List UInt8)) : List (List UInt8) := ps.map (·.1)
theorem fold_keys (h : List UInt8) : ∀ (n : Nat) (ps : List (List UInt8 × List UInt8)), ps.length = n → ∀ c, foldC h ps = some c → ∀ k, seenA c k = (keysOf ps).contains k
  | 0, ps, hn, c, hc, k => by
    obtain rfl := List.eq_nil_of_length_eq_zero hn
    obtain rfl : zeroC = c := Option.some.inj hc
    unfold seenA zeroC keysOf; simp
  | n + 1, ps, hn, c, hc, k => by
    obtain ⟨qs, q, rfl⟩ : ∃ qs q, ps = qs ++ [q] := ⟨ps.dropLast, ps.getLast (by rintro rfl; cases hn), (List.dropLast_concat_getLast _).symm⟩
    rw [foldC_snoc] at hc
    cases hq : foldC h qs with
    | none => rw [hq] at hc; cases hc
    | some d =>
      rw [hq] at hc
      have hs : stepC h d q = some c := hc
      have ih := fold_keys h n qs (by simpa using hn) d hq k
      unfold stepC at hs
      by_cases ho : okA h q.1 q.2 = true
      · rw [ho, Bool.true_and] at hs
        cases hz : seenA d q.1
        · rw [hz] at hs
          obtain rfl := Option.some.inj hs
          rw [seen_set ho, ih]; unfold keysOf; rw [List.map_append, List.contains_append, Bool.or_comm]; rw [show (List.map (fun x => x.fst) [q]).contains k = (k == q.1) by simp [Bool.beq_eq_decide_eq]]
        · rw [hz] at hs; cases hs
      · rw [show okA h q.1 q.2 = false by simpa using ho] at hs; cases hs

/-- The text of a SameSite. -/
def sameT (n : Int) : List UInt8 := if n = 1 then [78, 111, 110, 101] else if n = 2 then [76, 97, 120] else if n = 3 then [83, 116, 114, 105, 99, 116] else []
def tDomain : List UInt8 := [68, 111, 109, 97, 105, 110, 61]
def tPath : List UInt8 := [80, 97, 116, 104, 61]
def tSecure : List UInt8 := [83, 101, 99, 117, 114, 101]
def tHttp : List UInt8 := [72, 116, 116, 112, 79, 110, 108, 121]
def tSame : List UInt8 := [83, 97, 109, 101, 83, 105, 116, 101, 61]
def p1 (dom : List UInt8) : List (List UInt8) := if dom.isEmpty then [] else [tDomain ++ dom]
def p3 (sec : Bool) : List (List UInt8) := if sec then [tSecure] else []
def p4 (htt : Bool) : List (List UInt8) := if htt then [tHttp] else []
def p5 (same : Int) : List (List UInt8) := if (sameT same).isEmpty then [] else [tSame ++ sameT same]
def partsT (dom way : List UInt8) (sec htt : Bool) (same : Int) : List (List UInt8) := p1 dom ++ [tPath ++ way] ++ p3 sec ++ p4 htt ++ p5 same
def sep2 : List UInt8 := [59, 32]
def textC (dom way : List UInt8) (sec htt : Bool) (same : Int) : List UInt8 := Lib.join (partsT dom way sec htt same) sep2
/-- As it is built from the left, with the separator ahead of each. -/
def tailC (dom way : List UInt8) (sec htt : Bool) (same : Int) : List UInt8 := Lib.joinTail sep2 (partsT dom way sec htt same)
theorem tail_drop (xs : List (List UInt8)) (h : xs ≠ []) : (Lib.joinTail sep2 xs).drop 2 = Lib.join xs sep2 := by
  cases xs with
  | nil => exact absurd rfl h
  | cons x r => rw [Lib.join_cons]; simp [Lib.joinTail, sep2]
theorem parts_some (dom way : List UInt8) (sec htt : Bool) (same : Int) : partsT dom way sec htt same ≠ [] := by
  unfold partsT; simp
theorem text_tail (dom way : List UInt8) (sec htt : Bool) (same : Int) : (tailC dom way sec htt same).drop 2 = textC dom way sec htt same := tail_drop _ (parts_some _ _ _ _ _)
theorem joinTail_append (a b : List (List UInt8)) : Lib.joinTail sep2 (a ++ b) = Lib.joinTail sep2 a ++ Lib.joinTail sep2 b := by
  unfold Lib.joinTail; rw [List.map_append, List.flatten_append]
end Go.Proofs.Url
