/- Plain mathematics of chapter 5: who may read, who must ask ahead, who may ask. No program is named here. -/
import Derived.Test.YthljekiomfcjiaaG1
namespace Go.Proofs.Url

def letsS (o : Int) (any cr : Bool) (cs : List Int) (by_ : Int) (creds : Bool) : Bool :=
  decide (by_ = o) || (any && !creds) || (decide (¬ by_ = -2 ∧ ¬ by_ = -3) && cs.contains by_ && (!creds || cr))
def aheadS (o : Int) (m : List UInt8) (hs : List (List UInt8)) (by_ : Int) (heads : Bool) : Bool :=
  !decide (by_ = o) && !simpleS m (if heads then hs else [])
def inLow (al : List (List UInt8)) (h : List UInt8) : Bool := al.any (fun a => lowerS a == lowerS h)
def allowS (hs al : List (List UInt8)) : Bool := hs.all (fun h => headS h || inLow al h)
def mayS (o : Int) (m : List UInt8) (hs : List (List UInt8)) (any cr : Bool) (cs : List Int) (al ms : List (List UInt8)) (by_ : Int) (creds heads : Bool) : Bool :=
  !aheadS o m hs by_ heads || (letsS o any cr cs by_ creds && (methodS m || ms.contains m) && (!heads || allowS hs al))
end Go.Proofs.Url
