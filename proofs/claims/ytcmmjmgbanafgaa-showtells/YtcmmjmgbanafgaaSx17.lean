/- The one region of moatref10.Parser's item that calls attr and appends: what its posts need. -/
import Derived.Test.YtcmmjmgbanafgaaSx13
import Derived.Test.YtcmmjmgbanafgaaRegL
namespace Go.Proofs.Ytcmmjmgbanafgaa
open Go.RowKit Go.Proofs.Url Go.Proofs.Url.Syn

/-- append to a row of the walk's own, by what it gives. -/
theorem gives_append_own {P : Program} {o : Oper} {a : Act} {w : World} {K : Value → World → Prop}
    (s x : Operand) (t : TypeId) (hop : o.op = Op.call { callee := Callee.builtin Builtin.append, args := #[s, x], argTypes := #[t, t] })
    (base : Nat) (e : TypeId) (i : TypeInfo) (z : Value) (size bytes : Nat) (h1 : P.underlying t = some (.slice e)) (h2 : P.info? e = some i) (h3 : i.zero = some z) (h4 : i.size = size) (h5 : i.bytes = bytes) (h6 : z.cells.size = size) (h7 : 0 < size)
    (v : Value) (n : Nat) (xs : List Value) (hs : a.eval s = v) (hown : w.ownsRow base e size v n xs)
    (ad : Addr) (m c : Nat) (news : List Value) (hx : a.eval x = .slice (some ad) m c) (hn : news.length = m * size) (hc : ∀ j u, news[j]? = some u → w.cell? (ad.add j) = some u) (h1c : ∀ u ∈ news, u.oneCell' = true)
    (b1 : n + m ≤ maxLen) (b2 : (n + m) * bytes ≤ 140737488355328) (hbase : base ≤ w.heap.size)
    (hK : ∀ v' w', w'.ownsRow base e size v' (n + m) (xs ++ news) → w.grownBy w' v.ownBlock → K v' w') : Oper.gives P o a w K := by
  obtain ⟨v', w', hrun, r1, r2, _⟩ := run_append_own (P := P) w base t o.type e i z size bytes h1 h2 h3 h4 h5 h6 h7 v n xs hown ad m c news hn hc h1c b1 b2 hbase
  unfold Oper.gives
  simp [execOp, hop, resolve, invoke, builtin, hs, hx, hrun, Result.andThen, gives]
  exact hK v' w' r1 r2
theorem owns_ltB {w : World} {base : Nat} {e : TypeId} {size : Nat} {v : Value} {n : Nat} {xs : List Value} (h : w.ownsRow base e size v n xs) (j : Nat) (hj : v.ownBlock = some j) : j < w.heap.size := by
  rcases h.2 with ⟨hv, _⟩ | ⟨k, cap, cur, hv, hk, hh, _⟩
  · rw [hv] at hj; cases hj
  · rw [hv] at hj
    cases hj
    rcases Nat.lt_or_ge k w.heap.size with h | h
    · exact h
    · rw [Array.getElem?_eq_none h] at hh; cases hh
/-- item's own memory in that region, by what has come up. -/
structure RC18 (w : World) (B0 : Nat) (g n m : Nat) (ao : Option Addr) (cap : Nat) (ts : List Tk) (s : St) (cs : List Value) (own : World → Prop) (L : Nat → Bool) (W : World) : Prop where
  it : ItIn w W g n m ao cap ts (if L 3 then rdSt (attrR s.1) else (s.1, false)) cs
  up : B0 ≤ W.heap.size
  own : L 5 = false → own W
def RK18 (g B0 i : Nat) (W W' : World) : Prop := if i = 5 then ∀ b, B0 ≤ b → b < W.heap.size → W'.heap[b]? = W.heap[b]? else ButP g W W'
theorem RC18.pure {w : World} {B0 g n m : Nat} {ao : Option Addr} {cap : Nat} {ts : List Tk} {s : St} {cs : List Value} {own : World → Prop} {L : Nat → Bool} {W : World} (h : RC18 w B0 g n m ao cap ts s cs own L W) (i : Nat) (h3 : i ≠ 3) (h5 : i ≠ 5) : RC18 w B0 g n m ao cap ts s cs own (also L i) W := by
  refine ⟨?_, h.up, fun hL => h.own ?_⟩
  · have e : also L i 3 = L 3 := by unfold also; rw [if_neg (fun e => h3 e.symm)]
    rw [e]; exact h.it
  · have e : also L i 5 = L 5 := by unfold also; rw [if_neg (fun e => h5 e.symm)]
    rw [e] at hL; exact hL
theorem RK18.same (g B0 i : Nat) (W : World) : RK18 g B0 i W W := by
  unfold RK18; split
  · exact fun _ _ _ => rfl
  · exact But.refl _ _ _
theorem RK18.but {g B0 i : Nat} {W W' : World} (hi : i ≠ 5) (h : ButP g W W') : RK18 g B0 i W W' := by unfold RK18; rw [if_neg hi]; exact h
end Go.Proofs.Ytcmmjmgbanafgaa
