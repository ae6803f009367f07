/- Plain mathematics of chapter 6: policies of pages, their sources, what they let. No program is named here. -/
import Derived.Test.YtmepjaepggomjaaDoorD2
import Derived.Test.YtmepjaepggomjaaDoorF3
namespace Go.Proofs.Url

/-- Pieces between blanks and tabs. -/
def gaps : List UInt8 → List (List UInt8)
  | [] => [[]]
  | c :: r => if gapB c then [] :: gaps r else ahead c (gaps r)
theorem gaps_cons (c : UInt8) (r : List UInt8) : gaps (c :: r) = if gapB c then [] :: gaps r else ahead c (gaps r) := rfl
def wordsS (l : List UInt8) : List (List UInt8) := (gaps l).filter (fun t => !t.isEmpty)
theorem gaps_ne : ∀ l, gaps l ≠ []
  | [] => by simp [gaps]
  | c :: r => by
    unfold gaps
    split
    · simp
    · exact ahead_ne _ _
theorem ahead_append (x : UInt8) (ps qs : List (List UInt8)) (h : ps ≠ []) : ahead x (ps ++ qs) = ahead x ps ++ qs := by
  cases ps with
  | nil => exact absurd rfl h
  | cons p r => simp [ahead]
theorem gaps_append (c : UInt8) (hc : gapB c = true) (b : List UInt8) : ∀ a, gaps (a ++ c :: b) = gaps a ++ gaps b
  | [] => by simp [gaps, hc]
  | x :: r => by
    rw [List.cons_append, gaps_cons, gaps_cons]
    cases hx : gapB x
    · rw [if_neg (by simp), if_neg (by simp), gaps_append c hc b r, ahead_append _ _ _ (gaps_ne r)]
    · rw [if_pos rfl, if_pos rfl, gaps_append c hc b r]; rfl
theorem words_append (c : UInt8) (hc : gapB c = true) (a b : List UInt8) : wordsS (a ++ c :: b) = wordsS a ++ wordsS b := by
  unfold wordsS; rw [gaps_append c hc, List.filter_append]
theorem gaps_free : ∀ w : List UInt8, (∀ x ∈ w, gapB x = false) → gaps w = [w]
  | [], _ => rfl
  | c :: r, h => by
    unfold gaps
    rw [if_neg (by simp [h c (List.mem_cons_self ..)]), gaps_free r (fun x hx => h x (List.mem_cons_of_mem _ hx))]
    rfl
theorem words_one {w : List UInt8} (h : ∀ x ∈ w, gapB x = false) (hn : w ≠ []) : wordsS w = [w] := by
  unfold wordsS; rw [gaps_free w h]
  cases w with
  | nil => exact absurd rfl hn
  | cons a b => rfl
theorem words_nil : wordsS [] = [] := rfl

def scriptSrc : List UInt8 := [115, 99, 114, 105, 112, 116, 45, 115, 114, 99]
def defaultSrc : List UInt8 := [100, 101, 102, 97, 117, 108, 116, 45, 115, 114, 99]
def selfW : List UInt8 := [39, 115, 101, 108, 102, 39]
def inlineW : List UInt8 := [39, 117, 110, 115, 97, 102, 101, 45, 105, 110, 108, 105, 110, 101, 39]
/-- The sources of the first directive of a name. -/
def dirOf (name : List UInt8) : List (List UInt8) → Option (List (List UInt8))
  | [] => none
  | p :: r => match wordsS (lowerS p) with
    | [] => dirOf name r
    | n :: ws => if n = name then some ws else dirOf name r
def dirS (name l : List UInt8) : Option (List (List UInt8)) := dirOf name (parts 59 l)
def sourcesS (l : List UInt8) : Option (List (List UInt8)) := match dirS scriptSrc l with
  | some ws => some ws
  | none => dirS defaultSrc l
def httpP : List UInt8 := [104, 116, 116, 112, 58, 47, 47]
def httpsP : List UInt8 := [104, 116, 116, 112, 115, 58, 47, 47]
/-- The port's end of a source of a host. -/
def endS (ps : List (List UInt8)) (os : List UInt8) (op : Int) : Bool := match ps with
  | [_] => decide (op = own os)
  | [_, q] => decide (q = [42]) || (portOk q && decide (num q = op))
  | _ => false
def wildS (h oh : List UInt8) : Bool := if [42, 46].isPrefixOf h then host (h.drop 2) && underS oh (h.drop 2) && !decide (oh = h.drop 2) else host h && decide (oh = h)
def hostMatch (sch : Bool) (rest os oh : List UInt8) (op : Int) : Bool := sch && endS (parts 58 rest) os op && wildS ((parts 58 rest).headD []) oh
def matchL (s ss sh : List UInt8) (sp : Int) (os oh : List UInt8) (op : Int) : Bool :=
  if s = selfW then decide (os = ss ∧ oh = sh ∧ op = sp)
  else if s = [42] then true
  else if s = [104, 116, 116, 112, 58] then decide (os = http)
  else if s = [104, 116, 116, 112, 115, 58] then decide (os = https)
  else if httpP.isPrefixOf s then hostMatch (decide (os = http)) (s.drop 7) os oh op
  else if httpsP.isPrefixOf s then hostMatch (decide (os = https)) (s.drop 8) os oh op
  else hostMatch (decide (os = ss) || decide (os = https)) s os oh op
def matchS (src ss sh : List UInt8) (sp : Int) (os oh : List UInt8) (op : Int) : Bool := matchL (lowerS src) ss sh sp os oh op
def letsP (l ss sh : List UInt8) (sp : Int) (os oh : List UInt8) (op : Int) : Bool := match sourcesS l with
  | none => true
  | some ws => ws.any (fun s => matchS s ss sh sp os oh op)
def inlineP (l : List UInt8) : Bool := match sourcesS l with
  | none => true
  | some ws => ws.contains inlineW

theorem lower_append (a b : List UInt8) : lowerS (a ++ b) = lowerS a ++ lowerS b := by simp [lowerS]
/-- Words behind a directive's name, with blanks ahead of each. -/
def tailW (g : List UInt8) (ws : List (List UInt8)) : List UInt8 := ws.flatMap (fun w => g ++ w)
theorem tail_snoc (g : List UInt8) (ws : List (List UInt8)) (w : List UInt8) : tailW g (ws ++ [w]) = tailW g ws ++ (g ++ w) := by simp [tailW]
def Plain1 (w : List UInt8) : Prop := w ≠ [] ∧ (∀ x ∈ w, gapB x = false) ∧ (∀ x ∈ w, x ≠ 59)
theorem words_tail1 : ∀ (ws : List (List UInt8)) (a : List UInt8), (∀ w ∈ ws, Plain1 w) → wordsS (a ++ tailW [32] ws) = wordsS a ++ ws
  | [], a, _ => by simp [tailW]
  | w :: r, a, h => by
    have hw := h w (List.mem_cons_self ..)
    rw [show a ++ tailW [32] (w :: r) = (a ++ 32 :: w) ++ tailW [32] r by simp [tailW], words_tail1 r _ (fun x hx => h x (List.mem_cons_of_mem _ hx)), words_append 32 (by decide), words_one hw.2.1 hw.1]
    simp
theorem words_tail2 : ∀ (ws : List (List UInt8)) (a : List UInt8), (∀ w ∈ ws, Plain1 w) → wordsS (a ++ tailW [32, 32] ws) = wordsS a ++ ws
  | [], a, _ => by simp [tailW]
  | w :: r, a, h => by
    have hw := h w (List.mem_cons_self ..)
    rw [show a ++ tailW [32, 32] (w :: r) = (a ++ 32 :: ([] ++ 32 :: w)) ++ tailW [32, 32] r by simp [tailW], words_tail2 r _ (fun x hx => h x (List.mem_cons_of_mem _ hx)), words_append 32 (by decide), words_append 32 (by decide), words_nil, words_one hw.2.1 hw.1]
    simp
theorem lower_tail (g : List UInt8) (ws : List (List UInt8)) : lowerS (tailW g ws) = tailW (lowerS g) (ws.map lowerS) := by
  induction ws with
  | nil => rfl
  | cons w r ih =>
    show lowerS ((g ++ w) ++ tailW g r) = (lowerS g ++ lowerS w) ++ tailW (lowerS g) (r.map lowerS)
    rw [lower_append, lower_append, ih]
theorem tail_semi (g : List UInt8) (hg : ∀ x ∈ g, x ≠ 59) (ws : List (List UInt8)) (h : ∀ w ∈ ws, ∀ x ∈ w, x ≠ 59) : ∀ x ∈ tailW g ws, x ≠ 59 := by
  intro x hx
  unfold tailW at hx
  rw [List.mem_flatMap] at hx
  obtain ⟨w, hw, hx⟩ := hx
  rw [List.mem_append] at hx
  rcases hx with hx | hx
  · exact hg x hx
  · exact h w hw x hx

/-- What CspSources lays. -/
def srcs12 : List (List UInt8) := [selfW, [39, 110, 111, 110, 101, 39], [42], [104, 116, 116, 112, 58], [104, 116, 116, 112, 115, 58], [97, 46, 116, 101, 115, 116], [42, 46, 97, 46, 116, 101, 115, 116], [98, 46, 116, 101, 115, 116, 58, 42], [104, 116, 116, 112, 58, 47, 47, 98, 46, 116, 101, 115, 116], [104, 116, 116, 112, 115, 58, 47, 47, 99, 46, 97, 46, 116, 101, 115, 116, 58, 56, 52, 52, 51], inlineW, [113]]
def caps12 : List (List UInt8) := [[39, 83, 69, 76, 70, 39], [39, 78, 79, 78, 69, 39], [42], [72, 84, 84, 80, 58], [72, 84, 84, 80, 83, 58], [65, 46, 84, 69, 83, 84], [42, 46, 65, 46, 84, 69, 83, 84], [66, 46, 84, 69, 83, 84, 58, 42], [72, 84, 84, 80, 58, 47, 47, 66, 46, 84, 69, 83, 84], [72, 84, 84, 80, 83, 58, 47, 47, 67, 46, 65, 46, 84, 69, 83, 84, 58, 56, 52, 52, 51], [39, 85, 78, 83, 65, 70, 69, 45, 73, 78, 76, 73, 78, 69, 39], [81]]
theorem srcs_ok : ∀ k : Fin 12, srcs12.getD k [] ≠ [] ∧ (srcs12.getD k []).all (fun x => !gapB x && x != 59) = true ∧ lowerS (srcs12.getD k []) = srcs12.getD k [] ∧ lowerS (caps12.getD k []) = srcs12.getD k [] ∧ (caps12.getD k []).all (fun x => x != 59) = true ∧ (srcs12.getD k []).length ≤ 21 ∧ (caps12.getD k []).length ≤ 21 ∧ (srcs12.getD k [] == inlineW) = decide ((k : Nat) = 10) := by decide +kernel
def srcsK (ks : List Nat) : List (List UInt8) := ks.map (fun k => srcs12.getD k [])
def capsK (ks : List Nat) : List (List UInt8) := ks.map (fun k => caps12.getD k [])
theorem srcs_plain {ks : List Nat} (h : ∀ k ∈ ks, k < 12) : ∀ w ∈ srcsK ks, Plain1 w := by
  intro w hw
  unfold srcsK at hw
  rw [List.mem_map] at hw
  obtain ⟨k, hk, rfl⟩ := hw
  obtain ⟨h1, h2, _⟩ := srcs_ok ⟨k, h k hk⟩
  simp only at h1 h2
  rw [List.all_eq_true] at h2
  refine ⟨h1, fun x hx => ?_, fun x hx => ?_⟩
  · have := h2 x hx
    simp at this
    exact this.1
  · have := h2 x hx
    simp at this
    exact this.2
theorem srcs_lower {ks : List Nat} (h : ∀ k ∈ ks, k < 12) : (srcsK ks).map lowerS = srcsK ks := by
  unfold srcsK
  rw [List.map_map]
  apply List.map_congr_left
  intro k hk
  exact (srcs_ok ⟨k, h k hk⟩).2.2.1
theorem caps_lower {ks : List Nat} (h : ∀ k ∈ ks, k < 12) : (capsK ks).map lowerS = srcsK ks := by
  unfold capsK srcsK
  rw [List.map_map]
  apply List.map_congr_left
  intro k hk
  exact (srcs_ok ⟨k, h k hk⟩).2.2.2.1
theorem caps_semi {ks : List Nat} (h : ∀ k ∈ ks, k < 12) : ∀ w ∈ capsK ks, ∀ x ∈ w, x ≠ 59 := by
  intro w hw x hx
  unfold capsK at hw
  rw [List.mem_map] at hw
  obtain ⟨k, hk, rfl⟩ := hw
  have h2 := (srcs_ok ⟨k, h k hk⟩).2.2.2.2.1
  simp only at h2
  rw [List.all_eq_true] at h2
  have := h2 x hx
  simpa using this
def xsrc : List UInt8 := [120, 45, 115, 114, 99, 32, 42]
def polA (low : List UInt8) : List UInt8 := xsrc ++ 59 :: (32 :: scriptSrc ++ low ++ 59 :: (32 :: scriptSrc ++ [32, 42]))
def SCRIPT : List UInt8 := [83, 67, 82, 73, 80, 84, 45, 83, 82, 67]
def polB (high : List UInt8) : List UInt8 := SCRIPT ++ high ++ 59 :: (defaultSrc ++ [32, 42])
def polC (low : List UInt8) : List UInt8 := defaultSrc ++ low
theorem script_semi : ∀ x ∈ (32 :: scriptSrc), x ≠ 59 := by decide
theorem SCRIPT_semi : ∀ x ∈ SCRIPT, x ≠ 59 := by decide
theorem default_semi : ∀ x ∈ defaultSrc, x ≠ 59 := by decide
theorem semi_append {a b : List UInt8} (ha : ∀ x ∈ a, x ≠ 59) (hb : ∀ x ∈ b, x ≠ 59) : ∀ x ∈ a ++ b, x ≠ 59 := by
  intro x hx
  rw [List.mem_append] at hx
  exact hx.elim (ha x) (hb x)
theorem low_semi {ks : List Nat} (h : ∀ k ∈ ks, k < 12) : ∀ x ∈ tailW [32] (srcsK ks), x ≠ 59 := tail_semi _ (by decide) _ (fun w hw => (srcs_plain h w hw).2.2)
theorem high_semi {ks : List Nat} (h : ∀ k ∈ ks, k < 12) : ∀ x ∈ tailW [32, 32] (capsK ks), x ≠ 59 := tail_semi _ (by decide) _ (caps_semi h)
theorem polA_src {ks : List Nat} (h : ∀ k ∈ ks, k < 12) : sourcesS (polA (tailW [32] (srcsK ks))) = some (srcsK ks) := by
  have hp : parts 59 (polA (tailW [32] (srcsK ks))) = [xsrc, 32 :: scriptSrc ++ tailW [32] (srcsK ks), 32 :: scriptSrc ++ [32, 42]] := by
    unfold polA
    rw [parts_append, parts_append, parts_free 59 (by decide), parts_free 59 (semi_append script_semi (low_semi h)), parts_free 59 (by decide)]
    rfl
  have hw : wordsS (lowerS (32 :: scriptSrc ++ tailW [32] (srcsK ks))) = scriptSrc :: srcsK ks := by
    rw [lower_append, lower_tail, srcs_lower h, show lowerS [32] = [32] from rfl, words_tail1 _ _ (srcs_plain h)]
    rfl
  have hd : dirS scriptSrc (polA (tailW [32] (srcsK ks))) = some (srcsK ks) := by
    unfold dirS
    rw [hp]
    unfold dirOf
    rw [show wordsS (lowerS xsrc) = [[120, 45, 115, 114, 99], [42]] by decide]
    simp only
    rw [if_neg (by decide)]
    unfold dirOf
    rw [hw]
    simp
  unfold sourcesS
  rw [hd]
theorem polB_src {ks : List Nat} (h : ∀ k ∈ ks, k < 12) : sourcesS (polB (tailW [32, 32] (capsK ks))) = some (srcsK ks) := by
  have hp : parts 59 (polB (tailW [32, 32] (capsK ks))) = [SCRIPT ++ tailW [32, 32] (capsK ks), defaultSrc ++ [32, 42]] := by
    unfold polB
    rw [parts_append, parts_free 59 (semi_append SCRIPT_semi (high_semi h)), parts_free 59 (by decide)]
    rfl
  have hw : wordsS (lowerS (SCRIPT ++ tailW [32, 32] (capsK ks))) = scriptSrc :: srcsK ks := by
    rw [lower_append, lower_tail, caps_lower h, show lowerS [32, 32] = [32, 32] from rfl, words_tail2 _ _ (srcs_plain h)]
    rfl
  have hd : dirS scriptSrc (polB (tailW [32, 32] (capsK ks))) = some (srcsK ks) := by
    unfold dirS
    rw [hp]
    unfold dirOf
    rw [hw]
    simp
  unfold sourcesS
  rw [hd]
theorem polC_src {ks : List Nat} (h : ∀ k ∈ ks, k < 12) : sourcesS (polC (tailW [32] (srcsK ks))) = some (srcsK ks) := by
  have hp : parts 59 (polC (tailW [32] (srcsK ks))) = [defaultSrc ++ tailW [32] (srcsK ks)] := by
    unfold polC
    exact parts_free 59 (semi_append default_semi (low_semi h))
  have hw : wordsS (lowerS (defaultSrc ++ tailW [32] (srcsK ks))) = defaultSrc :: srcsK ks := by
    rw [lower_append, lower_tail, srcs_lower h, show lowerS [32] = [32] from rfl, words_tail1 _ _ (srcs_plain h)]
    rfl
  have hd1 : dirS scriptSrc (polC (tailW [32] (srcsK ks))) = none := by
    unfold dirS
    rw [hp]
    unfold dirOf
    rw [hw]
    simp only
    rw [if_neg (by decide)]
    rfl
  have hd2 : dirS defaultSrc (polC (tailW [32] (srcsK ks))) = some (srcsK ks) := by
    unfold dirS
    rw [hp]
    unfold dirOf
    rw [hw]
    simp
  unfold sourcesS
  rw [hd1, hd2]
theorem srcs_inline {ks : List Nat} (h : ∀ k ∈ ks, k < 12) : (srcsK ks).contains inlineW = ks.any (fun k => k == 10) := by
  induction ks with
  | nil => rfl
  | cons k r ih =>
    have h1 := (srcs_ok ⟨k, h k (List.mem_cons_self ..)⟩).2.2.2.2.2.2.2
    simp only at h1
    have e : srcsK (k :: r) = srcs12.getD k [] :: srcsK r := rfl
    rw [e, List.contains_cons, ih (fun x hx => h x (List.mem_cons_of_mem _ hx)), List.any_cons, Bool.beq_comm (a := inlineW)] 
    rw [h1]
    congr 1
end Go.Proofs.Url
