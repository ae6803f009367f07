/- Plain mathematics of chapter 10: trees of descriptions (text by make/sx1.py). No program is named here. -/
import Derived.Test.YtcmmjmgbanafgaaLx1
namespace Go.Proofs.Url
namespace Syn
abbrev w_origin : List UInt8 := [111, 114, 105, 103, 105, 110]
abbrev w_cookie : List UInt8 := [99, 111, 111, 107, 105, 101]
abbrev w_secret : List UInt8 := [115, 101, 99, 114, 101, 116]
abbrev w_network : List UInt8 := [110, 101, 116, 119, 111, 114, 107]
abbrev w_endpoint : List UInt8 := [101, 110, 100, 112, 111, 105, 110, 116]
abbrev w_property : List UInt8 := [112, 114, 111, 112, 101, 114, 116, 121]
abbrev w_at : List UInt8 := [97, 116]
abbrev w_lbr : List UInt8 := [123]
abbrev w_rbr : List UInt8 := [125]
abbrev w_semi : List UInt8 := [59]
abbrev w_eq : List UInt8 := [61]
abbrev w_or_ : List UInt8 := [111, 114]
abbrev w_and_ : List UInt8 := [97, 110, 100]
abbrev w_not_ : List UInt8 := [110, 111, 116]
abbrev w_lpa : List UInt8 := [40]
abbrev w_rpa : List UInt8 := [41]
abbrev w_cors : List UInt8 := [99, 111, 114, 115]
abbrev w_any : List UInt8 := [97, 110, 121]
def words5 : List (List UInt8) := [[99, 104, 97, 110, 103, 101, 100], [102, 111, 114, 103, 101, 100], [107, 110, 111, 119, 115], [115, 116, 111, 108, 101, 110], [114, 97, 110]]
def bare6 : List (List UInt8) := [[112, 97, 103, 101], [105, 110, 106, 101, 99, 116], [111, 119, 110], [99, 104, 97, 110, 103, 101, 115], [111, 112, 101, 110], [99, 114, 101, 100, 101, 110, 116, 105, 97, 108, 115]]
def named5 : List (List UInt8) := [[115, 99, 114, 105, 112, 116], [110, 101, 101, 100, 115], [115, 101, 116, 115], [103, 105, 118, 101, 115], [114, 101, 100, 105, 114, 101, 99, 116]]
def texted4 : List (List UInt8) := [[104, 101, 97, 100, 101, 114], [97, 108, 108, 111, 119], [109, 101, 116, 104, 111, 100, 115], [99, 115, 112]]
end Syn
open Syn
/-- A formula's tree. -/
inductive Fm where
  | un : List UInt8 → List UInt8 → Nat → Fm
  | no : Fm → Fm
  | both : List UInt8 → Fm → Fm → Fm
deriving DecidableEq
abbrev zeroT : Tk := ⟨0, 0, []⟩
/-- An attribute. -/
structure Atr where
  k : List UInt8
  at' : Nat
  t : Tk
deriving DecidableEq
/-- An item. -/
structure Itm where
  k : List UInt8
  at' : Nat
  name : Tk
  whr : Tk
  caps : Tk
  txt : Tk
  attrs : List Atr
  f : Option Fm
deriving DecidableEq
/-- What a reader gives: something, and the tokens that are left; or the tokens from that on with which it is no beginning. -/
inductive Rd (α : Type) where
  | ok : α → List Tk → Rd α
  | bad : List Tk → Rd α
def Rd.then {α β : Type} (x : Rd α) (f : α → List Tk → Rd β) : Rd β := match x with
  | .ok a r => f a r
  | .bad r => .bad r
def Rd.map {α β : Type} (x : Rd α) (f : α → β) : Rd β := match x with
  | .ok a r => .ok (f a) r
  | .bad r => .bad r
def isT (s : List UInt8) : List Tk → Bool
  | [] => false
  | t :: _ => (t.kind == 4 || t.kind == 2) && t.text == s
def needR (s : List UInt8) (ts : List Tk) : Rd Unit := if isT s ts then .ok () ts.tail else .bad ts
def kindR (k : Nat) : List Tk → Rd Tk
  | [] => .bad []
  | t :: r => if t.kind = k then .ok t r else .bad (t :: r)
def word5 (ts : List Tk) : Bool := words5.any fun w => isT w ts
def headText : List Tk → List UInt8
  | [] => []
  | t :: _ => t.text
def headAt : List Tk → Nat
  | [] => 0
  | t :: _ => t.at'
mutual
def facF : Nat → List Tk → Rd Fm
  | 0, ts => .bad ts
  | n + 1, ts =>
    if isT w_not_ ts then (facF n ts.tail).map .no
    else if isT w_lpa ts then (forF n ts.tail).then fun a r => (needR w_rpa r).map fun _ => a
    else if word5 ts then (kindR 1 ts.tail).map fun t => .un (headText ts) t.text t.at'
    else .bad ts
def terF : Nat → List Tk → Rd Fm
  | 0, ts => .bad ts
  | n + 1, ts => (facF n ts).then (terL n)
def terL : Nat → Fm → List Tk → Rd Fm
  | 0, _, ts => .bad ts
  | n + 1, a, ts => if isT w_and_ ts then (facF n ts.tail).then fun b r => terL n (.both w_and_ a b) r else .ok a ts
def forF : Nat → List Tk → Rd Fm
  | 0, ts => .bad ts
  | n + 1, ts => (terF n ts).then (forL n)
def forL : Nat → Fm → List Tk → Rd Fm
  | 0, _, ts => .bad ts
  | n + 1, a, ts => if isT w_or_ ts then (terF n ts.tail).then fun b r => forL n (.both w_or_ a b) r else .ok a ts
end
/-- A formula. -/
def forS (ts : List Tk) : Rd Fm := forF (3 * ts.length + 3) ts
/-- An attribute. -/
def attrR (ts : List Tk) : Rd Atr :=
  if bare6.any (fun w => isT w ts) then .ok ⟨headText ts, headAt ts, zeroT⟩ ts.tail
  else if named5.any (fun w => isT w ts) then (kindR 1 ts.tail).map fun t => ⟨headText ts, headAt ts, t⟩
  else if isT w_cors ts then (if isT w_any ts.tail then kindR 2 ts.tail else kindR 1 ts.tail).map fun t => ⟨headText ts, headAt ts, t⟩
  else if texted4.any (fun w => isT w ts) then (kindR 3 ts.tail).map fun t => ⟨headText ts, headAt ts, t⟩
  else .bad ts
/-- Attributes up to a closing brace. -/
def attrsF : Nat → List Tk → Rd (List Atr)
  | 0, ts => .bad ts
  | n + 1, ts => if isT w_rbr ts then .ok [] ts else (attrR ts).then fun a r => (needR w_semi r).then fun _ r => (attrsF n r).map fun l => a :: l
def semiR {α : Type} (x : Rd α) : Rd α := x.then fun a r => (needR w_semi r).map fun _ => a
def itemR (ts : List Tk) : Rd Itm :=
  if isT w_origin ts then semiR ((kindR 1 ts.tail).then fun nm r => (kindR 3 r).map fun tx => ⟨headText ts, headAt ts, nm, zeroT, zeroT, tx, [], none⟩)
  else if isT w_cookie ts then semiR ((kindR 1 ts.tail).then fun nm r => (needR w_at r).then fun _ r => (kindR 1 r).then fun wh r => (kindR 3 r).map fun tx => ⟨headText ts, headAt ts, nm, wh, zeroT, tx, [], none⟩)
  else if isT w_secret ts then semiR ((kindR 1 ts.tail).map fun nm => ⟨headText ts, headAt ts, nm, zeroT, zeroT, zeroT, [], none⟩)
  else if isT w_network ts then semiR (.ok ⟨headText ts, headAt ts, zeroT, zeroT, zeroT, zeroT, [], none⟩ ts.tail)
  else if isT w_endpoint ts then (kindR 1 ts.tail).then fun nm r => (needR w_at r).then fun _ r => (kindR 1 r).then fun wh r => (kindR 5 r).then fun cp r => (kindR 3 r).then fun tx r =>
    (needR w_lbr r).then fun _ r => (attrsF (r.length + 1) r).then fun l r => (needR w_rbr r).map fun _ => ⟨headText ts, headAt ts, nm, wh, cp, tx, l, none⟩
  else if isT w_property ts then semiR ((kindR 1 ts.tail).then fun nm r => (needR w_eq r).then fun _ r => (forS r).map fun f => ⟨headText ts, headAt ts, nm, zeroT, zeroT, zeroT, [], some f⟩)
  else .bad ts
def itemsF : Nat → List Tk → Rd (List Itm)
  | 0, ts => .bad ts
  | n + 1, ts => match ts with
    | [] => .ok [] []
    | t :: r => (itemR (t :: r)).then fun x r' => (itemsF n r').map fun l => x :: l
/-- A formula as it is told. -/
def formS : Fm → List UInt8
  | .un k nm _ => 40 :: (k ++ (if nm = [] then [] else 32 :: nm) ++ [41])
  | .no a => 40 :: (w_not_ ++ 32 :: formS a ++ [41])
  | .both k a b => 40 :: (k ++ 32 :: formS a ++ 32 :: formS b ++ [41])
def toldS (t : Tk) : List UInt8 := if t.kind = 0 then [] else if t.kind = 3 then 32 :: 34 :: (t.text ++ [34]) else 32 :: t.text
def attrS (a : Atr) : List UInt8 := 32 :: 40 :: (a.k ++ toldS a.t ++ [41])
def lineS (x : Itm) : List UInt8 :=
  x.k ++ toldS x.name ++ (if x.whr.kind = 0 then [] else [32, 97, 116] ++ toldS x.whr) ++ toldS x.caps ++ toldS x.txt ++ x.attrs.flatMap attrS ++ (match x.f with | none => [] | some f => 32 :: formS f) ++ [10]
/-- How deep parentheses lie in one another: where it is, and how deep it has been. -/
def deepF : Int → Int → List UInt8 → Int
  | _, m, [] => m
  | n, m, c :: r => deepF (if c = 40 then n + 1 else if c = 41 then n - 1 else n) (max m (if c = 40 then n + 1 else if c = 41 then n - 1 else n)) r
def deepS (l : List UInt8) : Int := deepF 0 0 l
def deepI (x : Itm) : Bool := match x.f with
  | none => false
  | some f => decide (16 < deepS (formS f))
/-- The items of a text, or what is wrong. -/
inductive Syn where
  | ok : List Itm → Syn
  | bad : Nat → Nat → Syn
def readS10 (s : List UInt8) : Syn := match toksS s with
  | .bad c p => .bad c p
  | .ok ts => match itemsF (ts.length + 1) ts with
    | .bad [] => .bad 4 s.length
    | .bad (t :: _) => .bad 4 t.at'
    | .ok xs _ => if xs.any deepI then .bad 5 0 else .ok xs
end Go.Proofs.Url
