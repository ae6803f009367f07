/- The walk over tree.reader's endpoint. -/
import Derived.Test.YtcmmjmgbanafgaaTq7
import Derived.Test.YtcmmjmgbanafgaaStep
namespace Go.Proofs.Url
open Syn
theorem attrs_succq (k : Nat) (ts : List Tk) : attrsF (k + 1) ts = if isT w_rbr ts then .ok [] ts else (semiR (attrR ts)).then fun a r => (attrsF k r).map fun l => a :: l := by
  rw [attrsF]
  split
  · rfl
  · rw [semi_then, then_thenq]
    congr 1; funext a r
    rw [then_thenq]
    congr 1
theorem attr_shortq {ts : List Tk} {a : Atr} {r : List Tk} (h : attrR ts = .ok a r) : r.length < ts.length := by
  have key : ∀ {k : Nat} {f : Tk → Atr}, (kindR k ts.tail).map f = .ok a r → r.length < ts.length := by
    intro k f h
    obtain ⟨t, h2, _⟩ := map_ok h
    obtain ⟨h3, _⟩ := kindR_ok h2
    cases ts with
    | nil => simp at h3
    | cons x xs => simp at h3; rw [h3]; simp; omega
  unfold attrR at h
  split at h
  · rename_i hs
    rw [List.any_eq_true] at hs
    obtain ⟨w, _, hw⟩ := hs
    cases h
    exact isT_len hw
  · split at h
    · exact key h
    · split at h
      · split at h
        · exact key h
        · exact key h
      · split at h
        · exact key h
        · cases h
theorem semi_short {ts : List Tk} {a : Atr} {r : List Tk} (h : semiR (attrR ts) = .ok a r) : r.length < ts.length := by
  rw [semi_then] at h
  obtain ⟨b, r1, h1, h2⟩ := then_ok h
  obtain ⟨u, r2, h3, h4⟩ := then_ok h2
  obtain ⟨h5, h6⟩ := needR_ok h3
  have := attr_shortq h1
  have := isT_len h5
  cases h4
  rw [h6]; omega
theorem shAs_snoc {ns : List Nd} {al : List Atr} {x : Nd} {a : Atr} (h : ShAs (Fo.ofL ns) al) (hx : ShA x a) : ShAs (Fo.ofL (ns ++ [x])) (al ++ [a]) := by
  induction ns generalizing al with
  | nil =>
    cases al with
    | nil => exact ⟨hx, trivial⟩
    | cons b al => exact h.elim
  | cons y ns ih =>
    cases al with
    | nil => exact h.elim
    | cons b al => exact ⟨h.1, ih h.2⟩
end Go.Proofs.Url
namespace Go.Proofs.Ytcmmjmgbanafgaa
open Go.RowKit Go.Proofs.Url Go.Proofs.Url.Syn

/-- A row of nodes by its cells. -/
def RowN (W : World) (K : Nat → Prop) : List Nd → List Value → Prop
  | [], xs => xs = []
  | x :: ns, xs => ∃ (a1 : Option Addr) (c1 : Nat) (a2 : Option Addr) (c2 : Nat) (ys : List Value), xs = .slice a1 x.1.length c1 :: .slice a2 x.2.len c2 :: ys ∧ NA W K a1 a2 x ∧ RowN W K ns ys
theorem RowN.keep {W W' : World} {K : Nat → Prop} (hk : KeptIn K W W') : ∀ {ns : List Nd} {xs : List Value}, RowN W K ns xs → RowN W' K ns xs
  | [], _, h => h
  | _ :: _, _, ⟨a1, c1, a2, c2, ys, e, hn, hr⟩ => ⟨a1, c1, a2, c2, ys, e, hn.keep hk, RowN.keep hk hr⟩
theorem RowN.sub {W : World} {K K' : Nat → Prop} (ha : ∀ b, K b → K' b) : ∀ {ns : List Nd} {xs : List Value}, RowN W K ns xs → RowN W K' ns xs
  | [], _, h => h
  | _ :: _, _, ⟨a1, c1, a2, c2, ys, e, hn, hr⟩ => ⟨a1, c1, a2, c2, ys, e, hn.sub ha, RowN.sub ha hr⟩
theorem RowN.snoc {W : World} {K : Nat → Prop} {x : Nd} {a1 a2 : Option Addr} {c1 c2 : Nat} (hx : NA W K a1 a2 x) : ∀ {ns : List Nd} {xs : List Value}, RowN W K ns xs → RowN W K (ns ++ [x]) (xs ++ [.slice a1 x.1.length c1, .slice a2 x.2.len c2])
  | [], _, h => by
    have h' : _ = [] := h
    subst h'
    exact ⟨a1, c1, a2, c2, [], rfl, hx, rfl⟩
  | _ :: _, _, ⟨b1, d1, b2, d2, ys, e, hn, hr⟩ => by
    subst e
    exact ⟨b1, d1, b2, d2, _, rfl, hn, RowN.snoc hx hr⟩
theorem RowN.fc {W : World} {K : Nat → Prop} {q : Nat} : ∀ {ns : List Nd} {xs : List Value} {k : Nat}, RowN W K ns xs → (∀ j v, xs[j]? = some v → W.cell? ⟨q, k * 2 + j, none⟩ = some v) → FC W K (Fo.ofL ns) q k
  | [], _, _, _, _ => trivial
  | x :: ns, _, k, ⟨a1, c1, a2, c2, ys, e, hn, hr⟩, hc => by
    subst e
    refine ⟨a1, c1, a2, c2, hc 0 _ rfl, hc 1 _ rfl, hn.t, hn.f, RowN.fc hr fun j v hj => ?_⟩
    have := hc (j + 2) v hj
    rwa [show (k + 1) * 2 + j = k * 2 + (j + 2) by omega]
theorem RowN.len {W : World} {K : Nat → Prop} : ∀ {ns : List Nd} {xs : List Value}, RowN W K ns xs → xs.length = ns.length * 2
  | [], _, h => by
    have h' : _ = [] := h
    subst h'; rfl
  | _ :: _, _, ⟨_, _, _, _, ys, e, _, hr⟩ => by
    subst e
    have := RowN.len hr
    simp; omega
theorem infoN : (Try.prog.info? 51).map (fun i => (i.zero, i.size, i.bytes)) = some (some (.agg #[.slice none 0 0, .slice none 0 0]), 2, 48) := by kernel_rfl
theorem owns_cells {w : World} {base : Nat} {e : TypeId} {ao : Option Addr} {n cap : Nat} {xs : List Value} (h : w.ownsRow base e 2 (.slice ao n cap) n xs) (hn : 0 < n) : ∃ q, ao = some ⟨q, 0, none⟩ ∧ base ≤ q ∧ q < w.heap.size ∧ ∀ j v, xs[j]? = some v → w.cell? ⟨q, j, none⟩ = some v := by
  rcases h.2 with ⟨hv, h0⟩ | ⟨g', cap', cur, hv, hg, hh, hn', hm, hsz, htk⟩
  · omega
  · simp only [Value.slice.injEq, true_and] at hv
    obtain ⟨rfl, rfl⟩ := hv
    have hlt : g' < w.heap.size := by
      rcases Nat.lt_or_ge g' w.heap.size with h | h
      · exact h
      · rw [Array.getElem?_eq_none h] at hh; cases hh
    refine ⟨g', rfl, hg, hlt, fun j v hj => ?_⟩
    have e : w.cell? ⟨g', j, none⟩ = cur[j]? := by simp [World.cell?, hh]
    rw [e]
    rw [← htk, List.getElem?_take] at hj
    split at hj
    · simpa using hj
    · cases hj
/-- The blocks of the nodes of a row that grows: not the row's own. -/
def KR (lo : Nat) (W : World) (ao : Option Addr) (b : Nat) : Prop := lo < b ∧ b < W.heap.size ∧ ao ≠ some ⟨b, 0, none⟩
theorem resReadEnd {W : World} {m : Nat} {v1 v2 : Value} {tmps : Array Value} (h : NB W m v1 v2) (h2 : tmps[2]?.getD undef = .pointer (some ⟨m, 0, none⟩)) :
    (results Try.f74 tmps).run Try.prog W = .ok (.agg #[v1, v2]) W := by
  obtain ⟨c0, c1, _⟩ := h
  simp [results, Try.results74, go_sem, h2, c0, c1]
theorem RN.belowB {w W W' : World} {B m g : Nat} {ao : Option Addr} {cap : Nat} {ts r : List Tk} {n : Nat} {v1 v2 : Value} (h : RN w W m g ao cap ts r n v1 v2) (hb : Below B W W') (hm : m < B) (hg : g < B) : RN w W' m g ao cap ts r n v1 v2 :=
  ⟨h.nb.same (hb.block m hm), h.rs.keepB hb hg, But.trans h.bt (But.below (hb.mono (by have := h.hm; omega))), h.hm⟩
/-- append of one element to a row of the walk's own, and where the row lies then. -/
theorem run_append_where {P : Program} (w : World) (base : Nat) (t ty e : TypeId) (i : TypeInfo) (z : Value) (size bytes : Nat) (ht : P.underlying t = some (.slice e)) (hi : P.info? e = some i) (hz : i.zero = some z)
    (hsize : i.size = size) (hby : i.bytes = bytes) (hzs : z.cells.size = size) (hsz : 0 < size)
    (v : Value) (n : Nat) (xs : List Value) (hown : w.ownsRow base e size v n xs)
    (a : Addr) (c : Nat) (news : List Value) (hl : news.length = size) (hnews : ∀ j u, news[j]? = some u → w.cell? (a.add j) = some u) (h1 : ∀ u ∈ news, u.oneCell' = true)
    (h63 : n + 1 ≤ maxLen) (hbytes : (n + 1) * bytes ≤ 140737488355328) (hbase : base ≤ w.heap.size) :
    ∃ q c6 w', (Builtin.append_ #[t, t] ty #[v, .slice (some a) 1 c]).run P w = .ok (.slice (some ⟨q, 0, none⟩) (n + 1) c6) w' ∧ w'.ownsRow base e size (.slice (some ⟨q, 0, none⟩) (n + 1) c6) (n + 1) (xs ++ news) ∧ w.grownBy w' v.ownBlock ∧ (v.ownBlock = some q ∨ q = w.heap.size) := by
  obtain ⟨v', w', hr, h2, h3, _⟩ := run_append_own (P := P) w base t ty e i z size bytes ht hi hz hsize hby hzs hsz v n xs hown a 1 c news (by rw [Nat.one_mul]; exact hl) hnews h1 h63 hbytes hbase
  have hsmall : n + 1 ≤ 9223372036854775807 := by simp only [maxLen] at h63; omega
  rcases hown.2 with ⟨rfl, rfl⟩ | ⟨g, cap, cur, rfl, hbg, hg, hnc, hcm, hcs, htake⟩
  · have hr2 := run_append_nil (P := P) (w := w) t ty e i z ht hi hz a 1 c news (by rw [Nat.one_mul, hsize]; exact hl) hnews (by omega) (by omega) (by rw [hby]; have hb := hbytes; simp only [Nat.zero_add] at hb; omega)
    rw [hr] at hr2
    injection hr2 with e1 e2
    subst e1
    exact ⟨_, _, w', by rw [hr, Nat.zero_add], by rw [Nat.zero_add] at h2 ⊢; exact h2, h3, .inr rfl⟩
  · by_cases hroom : n + 1 ≤ cap
    · have hr2 := run_append_room (P := P) (w := w) t ty e i ht hi g n cap cur hg a 1 c news (by rw [Nat.one_mul, hsize]; exact hl) hnews h1 hroom (by rw [hl, hcs, hsize]; have := Nat.mul_le_mul_right size hroom; rw [Nat.add_mul, Nat.one_mul] at this; exact this)
      rw [hr] at hr2
      injection hr2 with e1 e2
      subst e1
      exact ⟨_, _, w', hr, h2, h3, .inl rfl⟩
    · have holds : ∀ j u, xs[j]? = some u → w.cell? ((⟨g, 0, none⟩ : Addr).add j) = some u := hown.cells (g := g) rfl
      have hr2 := run_append_grow (P := P) (w := w) t ty e i z ht hi hz ⟨g, 0, none⟩ n cap xs (by rw [hsize]; exact hown.1) holds a 1 c news (by rw [Nat.one_mul, hsize]; exact hl) hnews (by omega) (by omega) (growslice_fits (by omega) (by rw [hby]; exact hbytes))
      rw [hr] at hr2
      injection hr2 with e1 e2
      subst e1
      exact ⟨_, _, w', hr, h2, h3, .inr rfl⟩
theorem RP.gives_append {P : Program} {X : List PanicEntry → World → Prop} {o : Oper} {a : Act} {w : World} {K : Value → World → Prop}
    (s x : Operand) (t : TypeId) (hop : o.op = Op.call { callee := Callee.builtin Builtin.append, args := #[s, x], argTypes := #[t, t] })
    (base : Nat) (e : TypeId) (i : TypeInfo) (z : Value) (size bytes : Nat) (h1 : P.underlying t = some (.slice e)) (h2 : P.info? e = some i) (h3 : i.zero = some z) (h4 : i.size = size) (h5 : i.bytes = bytes) (h6 : z.cells.size = size) (h7 : 0 < size)
    (v : Value) (n : Nat) (xs : List Value) (hs : a.eval s = v) (hown : w.ownsRow base e size v n xs)
    (ad : Addr) (c : Nat) (news : List Value) (hx : a.eval x = .slice (some ad) 1 c) (hn : news.length = size) (hc : ∀ j u, news[j]? = some u → w.cell? (ad.add j) = some u) (h1c : ∀ u ∈ news, u.oneCell' = true)
    (b1 : n + 1 ≤ maxLen) (b2 : (n + 1) * bytes ≤ 140737488355328) (hbase : base ≤ w.heap.size)
    (hK : ∀ q c6 w', w'.ownsRow base e size (.slice (some ⟨q, 0, none⟩) (n + 1) c6) (n + 1) (xs ++ news) → w.grownBy w' v.ownBlock → (v.ownBlock = some q ∨ q = w.heap.size) → K (.slice (some ⟨q, 0, none⟩) (n + 1) c6) w') : RP.Oper.gives P X o a w K := by
  obtain ⟨q, c6, w', hrun, r1, r2, r3⟩ := run_append_where (P := P) w base t o.type e i z size bytes h1 h2 h3 h4 h5 h6 h7 v n xs hown ad c news hn hc h1c b1 b2 hbase
  unfold RP.Oper.gives
  simp [execOp, hop, resolve, invoke, builtin, hs, hx, hrun, Result.andThen, RP.gives]
  exact hK q c6 w' r1 r2 r3
/-- What an attribute that was read is; in a row of its own; appended. -/
def AttP (B : Nat) (a : Atr) (v : Value) (W : World) : Prop := ∃ (y2 : Nd) (p1 : Option Addr) (q1 : Nat) (p2 : Option Addr) (q2 : Nat), v = .agg #[.slice p1 y2.1.length q1, .slice p2 y2.2.len q2] ∧ NA W (In B W.heap.size) p1 p2 y2 ∧ ShA y2 a
def AttR (B : Nat) (a : Atr) (v : Value) (W : World) : Prop := ∃ (q : Nat) (y2 : Nd) (p1 : Option Addr) (q1 : Nat) (p2 : Option Addr) (q2 : Nat), v = .slice (some ⟨q, 0, none⟩) 1 1 ∧ B ≤ q ∧ W.rangeAt q 0 [.slice p1 y2.1.length q1, .slice p2 y2.2.len q2] ∧ NA W (In B W.heap.size) p1 p2 y2 ∧ ShA y2 a
def AttG (B m : Nat) (old : Value) (n : Nat) (xs : List Value) (a : Atr) (v : Value) (W : World) : Prop := ∃ (q6 c6 : Nat) (y2 : Nd) (p1 : Option Addr) (q1 : Nat) (p2 : Option Addr) (q2 : Nat), v = .slice (some ⟨q6, 0, none⟩) (n + 1) c6 ∧ W.ownsRow (m + 1) 51 2 (.slice (some ⟨q6, 0, none⟩) (n + 1) c6) (n + 1) (xs ++ [.slice p1 y2.1.length q1, .slice p2 y2.2.len q2]) ∧
  NA W (fun b => B ≤ b ∧ b < W.heap.size ∧ b ≠ q6) p1 p2 y2 ∧ ShA y2 a ∧ (old.ownBlock = some q6 ∨ B ≤ q6)
/-- endpoint's own memory in the region that reads an attribute and appends it. -/
structure RE (w W4 : World) (m0 m g : Nat) (ao : Option Addr) (cap : Nat) (ts ra rb : List Tk) (sz : Nat) (v1 v2 : Value) (K4 : Nat → Prop) (own : World → Prop) (L : Nat → Bool) (W : World) : Prop where
  rn : RN w W m0 g ao cap ts (if L 3 then rb else ra) sz (.slice none 0 0) (.slice none 0 0)
  nb : NB W m v1 v2
  up : W4.heap.size ≤ W.heap.size
  own : L 5 = false → own W
  row : KeptIn K4 W4 W
structure RKE (g B0 i : Nat) (W W' : World) : Prop where
  size : W.heap.size ≤ W'.heap.size
  five : i = 5 → ∀ b, B0 ≤ b → b < W.heap.size → W'.heap[b]? = W.heap[b]?
  rest : i ≠ 5 → ButP g W W'
theorem RKE.same (g B0 i : Nat) (W : World) : RKE g B0 i W W := ⟨Nat.le_refl _, fun _ _ _ _ => rfl, fun _ => But.refl _ _ _⟩
theorem RKE.but {g B0 i : Nat} {W W' : World} (hi : i ≠ 5) (h : ButP g W W') : RKE g B0 i W W' := ⟨h.size, fun e => absurd e hi, fun _ => h⟩
theorem RKE.kept {g B0 i : Nat} {W W' : World} (h : RKE g B0 i W W') (hg : g < B0) : KeptIn (In B0 W.heap.size) W W' := by
  intro b hb
  by_cases hi : i = 5
  · exact h.five hi b hb.1 hb.2
  · exact (h.rest hi).block b hb.2 (by have := hb.1; omega)
/-- Blocks of the nodes of a row, of tokens. -/
def KE (lo m : Nat) (W : World) (ao : Option Addr) (b : Nat) : Prop := KR m W ao b ∨ In lo m b
theorem one2 (v1 v2 : Value) (h1 : v1.oneCell' = true) (h2 : v2.oneCell' = true) : ∀ u ∈ [v1, v2], u.oneCell' = true := by
  intro u hu
  simp at hu
  rcases hu with rfl | rfl
  · exact h1
  · exact h2
theorem RE.pure {w W4 : World} {m0 m g : Nat} {ao : Option Addr} {cap : Nat} {ts ra rb : List Tk} {sz : Nat} {v1 v2 : Value} {K4 : Nat → Prop} {own : World → Prop} {L : Nat → Bool} {W : World} (h : RE w W4 m0 m g ao cap ts ra rb sz v1 v2 K4 own L W) (i : Nat) (h3 : i ≠ 3) (h5 : i ≠ 5) : RE w W4 m0 m g ao cap ts ra rb sz v1 v2 K4 own (RP.also L i) W := by
  have e3 : RP.also L i 3 = L 3 := by unfold RP.also; rw [if_neg (fun e => h3 e.symm)]
  have e5 : RP.also L i 5 = L 5 := by unfold RP.also; rw [if_neg (fun e => h5 e.symm)]
  exact ⟨by rw [e3]; exact h.rn, h.nb, h.up, fun hL => h.own (by rw [← e5]; exact hL), h.row⟩
end Go.Proofs.Ytcmmjmgbanafgaa
