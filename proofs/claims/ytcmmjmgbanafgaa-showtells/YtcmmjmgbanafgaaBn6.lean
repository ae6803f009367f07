import Derived.Test.YtcmmjmgbanafgaaBn4
import Derived.Test.YtcmmjmgbanafgaaRegQ
import Derived.Recover
import Derived.Test.YtcmmjmgbanafgaaBn2
import Derived.Test.YtcmmjmgbanafgaaShelf
import Derived.Test.YtcmmjmgbanafgaaBut
import Derived.Test.YtcmmjmgbanafgaaW4
import Derived.Test.YtcmmjmgbanafgaaBn5
/- tree.reader's file: its deferred function; what its loop needs. -/
namespace Go.Proofs.Url
open Syn
/-- What is left is no more than so much. -/
def LeR {α : Type} (x : Rd α) (n : Nat) : Prop := ∀ a r, x = .ok a r → r.length ≤ n
theorem LeR.bind {α β : Type} {x : Rd α} {n : Nat} {f : α → List Tk → Rd β} (h : LeR x n) (k : ∀ a r, r.length ≤ n → LeR (f a r) n) : LeR (x.then f) n := by
  intro b r e
  obtain ⟨a, r1, h1, h2⟩ := then_ok e
  exact k a r1 (h _ _ h1) _ _ h2
theorem LeR.map {α β : Type} {x : Rd α} {n : Nat} {f : α → β} (h : LeR x n) : LeR (x.map f) n := by
  intro b r e
  obtain ⟨a, h1, _⟩ := map_ok e
  exact h _ _ h1
theorem LeR.mono {α : Type} {x : Rd α} {n m : Nat} (h : LeR x n) (hm : n ≤ m) : LeR x m := fun a r e => Nat.le_trans (h a r e) hm
theorem LeR.okq {α : Type} (a : α) (ts : List Tk) : LeR (.ok a ts) ts.length := fun _ _ e => by cases e; exact Nat.le_refl _
theorem LeR.badq {α : Type} (ts : List Tk) (n : Nat) : LeR (.bad ts : Rd α) n := fun _ _ e => by cases e
theorem LeR.kind (k : Nat) (ts : List Tk) : LeR (kindR k ts) ts.length := fun a r e => by
  obtain ⟨h, _⟩ := kindR_ok e
  rw [h]; simp
theorem LeR.need (w : List UInt8) (ts : List Tk) : LeR (needR w ts) ts.length := fun a r e => by
  obtain ⟨_, h⟩ := needR_ok e
  rw [h, List.length_tail]; omega
theorem LeR.semi {α : Type} {x : Rd α} {n : Nat} (h : LeR x n) : LeR (semiR x) n := by
  rw [semi_then]
  exact h.bind fun a r hr => ((LeR.need w_semi r).mono hr).bind fun _ r2 hr2 => (LeR.okq a r2).mono hr2
theorem LeR.attrs : ∀ (k : Nat) (ts : List Tk), LeR (attrsF k ts) ts.length
  | 0, ts => LeR.badq ts _
  | k + 1, ts => by
    rw [attrs_succq]
    split
    · exact LeR.okq _ _
    · intro l r e
      obtain ⟨a, r1, h1, h2⟩ := then_ok e
      have := semi_short h1
      have := ((LeR.attrs k r1).map (f := fun l => a :: l)) _ _ h2
      omega
theorem LeR.for' (ts : List Tk) : LeR (forS ts) ts.length := fun a r e => by
  have := (short_all _).2.2.2.1 _ _ _ e
  omega
theorem item_shortq {ts : List Tk} {a : Itm} {r : List Tk} (h : itemR ts = .ok a r) : r.length < ts.length := by
  unfold itemR at h
  split at h
  · rename_i hq
    have := isT_len hq
    have hh := (LeR.semi ((LeR.kind 1 ts.tail).bind fun nm r hr => ((LeR.kind 3 r).mono hr).map)) _ _ h
    omega
  split at h
  · rename_i hq
    have := isT_len hq
    have hh := (LeR.semi ((LeR.kind 1 ts.tail).bind fun nm r hr => ((LeR.need w_at r).mono hr).bind fun _ r hr => ((LeR.kind 1 r).mono hr).bind fun _ r hr => ((LeR.kind 3 r).mono hr).map)) _ _ h
    omega
  split at h
  · rename_i hq
    have := isT_len hq
    have hh := (LeR.semi ((LeR.kind 1 ts.tail).map)) _ _ h
    omega
  split at h
  · rename_i hq
    have := isT_len hq
    have hh := (LeR.semi (LeR.okq _ ts.tail)) _ _ h
    omega
  split at h
  · rename_i hq
    have := isT_len hq
    have hh := ((LeR.kind 1 ts.tail).bind fun nm r hr => ((LeR.need w_at r).mono hr).bind fun _ r hr => ((LeR.kind 1 r).mono hr).bind fun _ r hr => ((LeR.kind 5 r).mono hr).bind fun _ r hr => ((LeR.kind 3 r).mono hr).bind fun _ r hr =>
      ((LeR.need w_lbr r).mono hr).bind fun _ r hr => ((LeR.attrs (r.length + 1) r).mono hr).bind fun _ r hr => ((LeR.need w_rbr r).mono hr).map) _ _ h
    omega
  split at h
  · rename_i hq
    have := isT_len hq
    have hh := (LeR.semi ((LeR.kind 1 ts.tail).bind fun nm r hr => ((LeR.need w_eq r).mono hr).bind fun _ r hr => ((LeR.for' r).mono hr).map)) _ _ h
    omega
  · cases h
theorem items_succ (k : Nat) (t : Tk) (r : List Tk) : itemsF (k + 1) (t :: r) = (itemR (t :: r)).then fun x r' => (itemsF k r').map fun l => x :: l := by rw [itemsF]
theorem items_nil (k : Nat) : itemsF (k + 1) [] = .ok [] [] := by rw [itemsF]
theorem shIs_snoc {ns : List Nd} {ys : List Itm} {x : Nd} {y : Itm} (h : ShIs (Fo.ofL ns) ys) (hx : ShI x y) : ShIs (Fo.ofL (ns ++ [x])) (ys ++ [y]) := by
  induction ns generalizing ys with
  | nil =>
    cases ys with
    | nil => exact ⟨hx, trivial⟩
    | cons b l => exact h.elim
  | cons z ns ih =>
    cases ys with
    | nil => exact h.elim
    | cons b l => exact ⟨h.1, ih h.2⟩
end Go.Proofs.Url
namespace Go.Proofs.Ytcmmjmgbanafgaa
open Go.RowKit Go.Proofs.Url Go.Proofs.Url.Syn

/-- file's own cells: its reader's address, its items, what is wrong. -/
structure FB (W : World) (b g : Nat) (v : Value) (x y : Int) : Prop where
  c0 : W.cell? ⟨b, 0, none⟩ = some (.pointer (some ⟨g, 0, none⟩))
  c1 : W.cell? ⟨b + 1, 0, none⟩ = some v
  f1 : W.frozen? ⟨b + 1, 0, none⟩ = false
  wb : WB W (b + 2) x y
theorem FB.lt {W : World} {b g : Nat} {v : Value} {x y : Int} (h : FB W b g v x y) : b + 2 < W.heap.size := h.wb.lt
theorem FB.keep {W W' : World} {b g : Nat} {v : Value} {x y : Int} (h : FB W b g v x y) (hk : KeptIn (In b (b + 3)) W W') : FB W' b g v x y := by
  refine ⟨hk.cell ⟨Nat.le_refl _, by omega⟩ h.c0, hk.cell ⟨by omega, by omega⟩ h.c1, ?_, ⟨hk.cell ⟨by omega, by omega⟩ h.wb.c0, hk.cell ⟨by omega, by omega⟩ h.wb.c1, fun j hj => ?_⟩⟩
  · have e := hk (b + 1) ⟨by omega, by omega⟩
    unfold World.frozen?; simp only [e]; exact h.f1
  · have e := hk (b + 2) ⟨by omega, by omega⟩
    unfold World.frozen?; simp only [e]; exact h.wb.fr j hj
theorem FB.set {W : World} {b g : Nat} {v : Value} {x y : Int} (h : FB W b g v x y) (u : Value) : FB (W.setCell ⟨b + 1, 0, none⟩ u) b g u x y := by
  have hk : KeptIn (fun k => k ≠ b + 1) W (W.setCell ⟨b + 1, 0, none⟩ u) := KeptIn.setK (fun k => k rfl)
  refine ⟨hk.cell (by omega) h.c0, tcell_same h.c1, by rw [World.frozen?_setCell]; exact h.f1, ⟨hk.cell (by omega) h.wb.c0, hk.cell (by omega) h.wb.c1, fun j hj => by rw [World.frozen?_setCell]; exact h.wb.fr j hj⟩⟩
theorem FB.put {W : World} {b g : Nat} {v : Value} {x y : Int} (h : FB W b g v x y) (x' y' : Int) : FB (put2 W (b + 2) x' y') b g v x' y' := by
  have hk : KeptIn (fun k => k ≠ b + 2) W (put2 W (b + 2) x' y') := (KeptIn.setK (fun k => k rfl)).trans (KeptIn.setK (fun k => k rfl))
  refine ⟨hk.cell (by omega) h.c0, hk.cell (by omega) h.c1, ?_, h.wb.put x' y'⟩
  have e := hk (b + 1) (by omega)
  unfold World.frozen?; simp only [e]; exact h.f1
set_option maxHeartbeats 1000000 in
theorem catch_panicking (b g : Nat) (ao : Option Addr) (cap : Nat) (ts r : List Tk) (n : Nat) (v : Value) (x y : Int) (u : TypeId) (pv : Value) (older : List PanicEntry) (w : World) (h : FB w b g v x y) (hr : RS w g ao cap ts r n) :
    CallsD Try.prog 51 #[.pointer (some ⟨b, 0, none⟩), .pointer (some ⟨b + 1, 0, none⟩), .pointer (some ⟨b + 2, 0, none⟩)] (.panicking ({ v := .iface u pv, recovered := false } :: older)) w fun e u' w' =>
      e = .returned (.tuple #[]) ∧ u' = .panicking ({ v := .iface u pv, recovered := true } :: older) ∧ FB w' b g (.slice none 0 0) 4 (atR n r) ∧ Below b w w' := by
  have HA := hide (at_any g ao cap ts r n w hr)
  have HF := hide h
  have hl := h.lt
  have c0 := h.c0
  clear h hr
  refine callsD_of_wpS Try.func51 rfl fun c₀ cs hu => ?_
  apply wpS_seq
  apply wpS_region
  simp [wpOpsS, go_sem, recoverD, hu, Try.ntmps51, Exit.thenS]
  refine wpS_cond (t := true) (by simp [Act.eval, Array.replicate]) ?_
  simp only [if_true]
  refine wpS_of_wp ?_
  go_wp2_with fail
  refine HA.out.mono ?_
  rintro e w1 ⟨rfl, b1⟩
  have F1 := hide (HF.out.keep (KeptIn.below b1 (by omega) _))
  have B1 : Hid (Below b w w1) := b1.mono (by omega)
  have c1 := F1.out.c1
  have f1 := F1.out.f1
  have d0 := F1.out.wb.c0
  have d1 := F1.out.wb.c1
  have e0 := F1.out.wb.fr 0 (by decide)
  have e1 := F1.out.wb.fr 1 (by decide)
  have hl1 := F1.out.lt
  have NF := hide ((F1.out.set (.slice none 0 0)).put 4 (atR n r))
  have BF : Hid (Below b w (put2 (w1.setCell ⟨b + 1, 0, none⟩ (.slice none 0 0)) (b + 2) 4 (atR n r))) := put2_below (B1.out.setCell (p := ⟨b + 1, 0, none⟩) (by show b ≤ b + 1; omega) _) _ (by omega) _ _
  unfold put2 at NF BF
  clear F1 B1 HF HA b1 c0
  go_wp2_with fail
  exact ⟨rfl, _, rfl, .tuple #[], by simp [results, Try.results51], rfl, rfl, NF.out, BF.out⟩
theorem catch_idle (b : Nat) (w : World) :
    CallsD Try.prog 51 #[.pointer (some ⟨b, 0, none⟩), .pointer (some ⟨b + 1, 0, none⟩), .pointer (some ⟨b + 2, 0, none⟩)] .returning w fun e u' w' => e = .returned (.tuple #[]) ∧ u' = .returning ∧ w' = w := by
  refine callsD_of_wpS Try.func51 rfl fun c₀ cs hu => ?_
  apply wpS_seq
  apply wpS_region
  simp [wpOpsS, go_sem, recoverD, hu, Try.ntmps51, Exit.thenS]
  refine wpS_cond (t := false) (by simp [Act.eval, Array.replicate]) ?_
  simp only [Bool.false_eq_true, if_false]
  refine wpS_of_wp (wp_skip ?_)
  cases c₀
  simp_all [bodyPostS, results, Try.results51]
theorem resReadFile {W : World} {b g : Nat} {v : Value} {x y : Int} {tmps : Array Value} (h : FB W b g v x y) (hv : ∃ a n c, v = .slice a n c) (h2 : tmps[2]?.getD undef = .pointer (some ⟨b + 1, 0, none⟩)) (h3 : tmps[3]?.getD undef = .pointer (some ⟨b + 2, 0, none⟩)) :
    (results Try.f26 tmps).run Try.prog W = .ok (.tuple #[v, .agg #[.int .i64 x, .int .i64 y]]) W := by
  obtain ⟨a, n, c, rfl⟩ := hv
  have c1 := h.c1
  have d0 := h.wb.c0
  have d1 := h.wb.c1
  simp [results, Try.results26, go_sem, h2, h3, c1, d0, d1]
/-- What file answers. -/
def FilePost (ts : List Tk) (n g : Nat) (w : World) (e : Ending) (w' : World) : Prop :=
  ButP g w w' ∧ (match itemsF (ts.length + 1) ts with
    | .ok ys _ => ∃ (F : Fo) (a : Option Addr) (c : Nat), e = .returned (.tuple #[.slice a F.len c, .agg #[.int .i64 0, .int .i64 0]]) ∧ FA w' (In w.heap.size w'.heap.size) a F ∧ ShIs F ys
    | .bad r' => e = .returned (.tuple #[.slice none 0 0, .agg #[.int .i64 4, .int .i64 (atR n r')]]))
theorem FilePost.bad {ts r' : List Tk} {n g : Nat} {w w' : World} (hx : itemsF (ts.length + 1) ts = .bad r') (hb : ButP g w w') : FilePost ts n g w (.returned (.tuple #[.slice none 0 0, .agg #[.int .i64 4, .int .i64 (atR n r')]])) w' := by
  unfold FilePost; rw [hx]; exact ⟨hb, rfl⟩
theorem FilePost.ok {ts r' : List Tk} {ys : List Itm} {n g : Nat} {w w' : World} {F : Fo} {a : Option Addr} {c : Nat} (hx : itemsF (ts.length + 1) ts = .ok ys r') (hb : ButP g w w') (hf : FA w' (In w.heap.size w'.heap.size) a F) (hs : ShIs F ys) : FilePost ts n g w (.returned (.tuple #[.slice a F.len c, .agg #[.int .i64 0, .int .i64 0]])) w' := by
  unfold FilePost; rw [hx]; exact ⟨hb, F, a, c, rfl, hf, hs⟩
theorem ownsq_set {W : World} {base q : Nat} {e : TypeId} {size n c : Nat} {xs : List Value} (h : W.ownsRow base e size (.slice (some ⟨q, 0, none⟩) n c) n xs) (hn : 0 < n) (j : Nat) (v : Value) : (W.setCell ⟨q, j, none⟩ v).ownsRow base e size (.slice (some ⟨q, 0, none⟩) n c) n (xs.set j v) := by
  refine ⟨by rw [List.length_set]; exact h.1, ?_⟩
  rcases h.2 with ⟨hv, h0⟩ | ⟨g', cap', cur, hv, hg, hh, hn', hm, hsz, htk⟩
  · omega
  · simp only [Value.slice.injEq, Option.some.injEq, Addr.mk.injEq, and_true, true_and] at hv
    obtain ⟨rfl, rfl⟩ := hv
    refine .inr ⟨q, c, cur.setIfInBounds j v, rfl, hg, ?_, hn', hm, by rw [Array.size_setIfInBounds]; exact hsz, ?_⟩
    · simp [World.setCell, Array.getElem?_modify, hh]
    · rw [Array.toList_setIfInBounds, List.take_set, htk]
/-- What an item that was read is. -/
def ItmP (B : Nat) (a : Itm) (v : Value) (W : World) : Prop := ∃ (y2 : Nd) (p1 : Option Addr) (q1 : Nat) (p2 : Option Addr) (q2 : Nat), v = .agg #[.slice p1 y2.1.length q1, .slice p2 y2.2.len q2] ∧ NA W (In B W.heap.size) p1 p2 y2 ∧ ShI y2 a
def ZeroP (B : Nat) (v : Value) (W : World) : Prop := ∃ z : Nat, v = .slice (some ⟨z, 0, none⟩) 1 1 ∧ B ≤ z ∧ W.rangeAt z 0 [.slice none 0 0, .slice none 0 0]
theorem RP.gives_storeN {P : Program} {X : List PanicEntry → World → Prop} {o : Oper} {a : Act} {w : World} {K : Value → World → Prop} (ty : TypeId) (x y : Operand) (ho : o.op = .store ty x y) (b off : Nat) (v1 v2 : Value) (hx : a.eval x = .pointer (some ⟨b, off, none⟩)) (hy : a.eval y = .agg #[v1, v2])
    (ht : w.there b off 2) (hi : (P.info? ty).map (·.size) = some 2) (h1 : v1.oneCell' = true) (h2 : v2.oneCell' = true) (hK : K undef ((w.setCell ⟨b, off, none⟩ v1).setCell ⟨b, off + 1, none⟩ v2)) : RP.Oper.gives P X o a w K := by
  unfold RP.Oper.gives
  unfold execOp
  have h := run_storeAt_mid (P := P) w b off ty #[v1, v2] ht hi (by simp [h1, h2])
  simp only [ho, hx, hy, h, Sem.run_bind, Sem.run_pure, Result.andThen_ok]
  exact hK
theorem owns_there {W : World} {base q : Nat} {e : TypeId} {n c : Nat} {xs : List Value} (h : W.ownsRow base e 2 (.slice (some ⟨q, 0, none⟩) n c) n xs) (k : Nat) (hk : k < n) : W.there q (k * 2) 2 := by
  intro j hj
  rcases h.2 with ⟨hv, h0⟩ | ⟨g', cap', cur, hv, hg, hh, hn', hm, hsz, htk⟩
  · omega
  · simp only [Value.slice.injEq, Option.some.injEq, Addr.mk.injEq, and_true, true_and] at hv
    obtain ⟨rfl, rfl⟩ := hv
    have hlt : k * 2 + j < cur.size := by rw [hsz]; omega
    refine ⟨?_, by simp [World.frozen?, hh]⟩
    simp [World.cell?, hh, hlt]
end Go.Proofs.Ytcmmjmgbanafgaa

/- Plain: how deep a landed tree is, and how it is told, by what it stands for; how deep what is read may be. -/
namespace Go.Proofs.Url
open Syn
def dF : Fm → Nat
  | .un _ _ _ => 1
  | .no f => 1 + dF f
  | .both _ f g => 1 + max (dF f) (dF g)
theorem shF_depth : ∀ {f : Fm} {x : Nd}, ShF x f → 1 + x.2.depth = dF f
  | .un _ _ _, x, ⟨_, _, h, _⟩ => by rw [h]; rfl
  | .no f, x, ⟨_, y, h, _, _, hy⟩ => by
    rw [h]
    have := shF_depth hy
    simp only [Fo.depth, dF]; omega
  | .both _ f g, x, ⟨_, y, z, h, _, _, _, hy, hz⟩ => by
    rw [h]
    have := shF_depth hy
    have := shF_depth hz
    simp only [Fo.depth, dF]; omega
theorem joinT_cons (t : Tk) (r : List Tk) : joinT (t :: r) = wTok t ++ r.flatMap fun t => 32 :: wTok t := rfl
theorem wTok_plain {t : Tk} (h : t.kind ≠ 3) : wTok t = t.text := by unfold wTok; rw [if_neg h]
theorem shF_told : ∀ {f : Fm} {x : Nd}, ShF x f → formS f = 40 :: (ndS x ++ [41])
  | .un k nm a, x, ⟨t1, t2, h, k1, e1, k2, e2, _, _, hne, _⟩ => by
    rw [h]
    simp only [formS, ndS, joinT_cons, Fo.told, List.flatMap_cons, List.flatMap_nil, List.append_nil, if_neg hne]
    rw [wTok_plain (t := t1) (by omega), wTok_plain (t := t2) (by omega), e1, e2]
  | .no f, x, ⟨t1, y, h, k1, e1, hy⟩ => by
    rw [h]
    have ih := shF_told hy
    simp only [formS, ih]
    simp only [ndS, joinT_cons, Fo.told, List.flatMap_nil, List.append_nil]
    rw [wTok_plain (by omega), e1]
  | .both k f g, x, ⟨t1, y, z, h, k1, e1, _, hy, hz⟩ => by
    rw [h]
    have ih := shF_told hy
    have ih2 := shF_told hz
    simp only [formS, ih, ih2]
    simp only [ndS, joinT_cons, Fo.told, List.flatMap_nil, List.append_nil]
    rw [wTok_plain (by omega), e1]
    simp
/-- No parenthesis among them. -/
def noPar (l : List UInt8) : Prop := ∀ c ∈ l, c ≠ 40 ∧ c ≠ 41
theorem deep_plain {l r : List UInt8} {n m : Int} (h : noPar l) (hn : n ≤ m) : deepF n m (l ++ r) = deepF n m r := by
  induction l with
  | nil => rfl
  | cons c l ih =>
    have hc := h c List.mem_cons_self
    have e : (if c = 40 then n + 1 else if c = 41 then n - 1 else n) = n := by rw [if_neg hc.1, if_neg hc.2]
    rw [List.cons_append, deepF, e, show max m n = m by omega]
    exact ih fun x hx => h x (List.mem_cons_of_mem _ hx)
theorem deep_open {r : List UInt8} {n m : Int} : deepF n m (40 :: r) = deepF (n + 1) (max m (n + 1)) r := rfl
theorem deep_close {r : List UInt8} {n m : Int} (h : n ≤ m) : deepF n m (41 :: r) = deepF (n - 1) m r := by
  show deepF (n - 1) (max m (n - 1)) r = _
  rw [show max m (n - 1) = m by omega]
theorem noPar_words {k : List UInt8} (h : k ∈ words5) : noPar k := (by decide : ∀ k ∈ words5, ∀ c ∈ k, c ≠ 40 ∧ c ≠ 41) k h
/-- A formula of a tree. -/
def GoodF : Fm → Prop
  | .un k nm _ => k ∈ words5 ∧ nm ≠ [] ∧ noPar nm
  | .no f => GoodF f
  | .both k f g => (k = w_or_ ∨ k = w_and_) ∧ GoodF f ∧ GoodF g
theorem shF_good : ∀ {f : Fm} {x : Nd}, ShF x f → GoodF f
  | .un _ _ _, _, ⟨_, _, _, _, _, _, _, _, h1, h2, h3⟩ => ⟨h1, h2, h3⟩
  | .no f, _, ⟨_, _, _, _, _, hy⟩ => (show GoodF f from shF_good hy)
  | .both _ _ _, _, ⟨_, _, _, _, _, _, h, hy, hz⟩ => ⟨h, shF_good hy, shF_good hz⟩
theorem dF_pos (f : Fm) : 1 ≤ dF f := by cases f <;> simp [dF] <;> omega
theorem deep_form : ∀ {f : Fm} {n m : Int} (r : List UInt8), GoodF f → n ≤ m → deepF n m (formS f ++ r) = deepF n (max m (n + dF f)) r
  | .un k nm a, n, m, r, ⟨hk, hne, hp⟩, hn => by
    have e : formS (.un k nm a) ++ r = 40 :: (k ++ ([32] ++ (nm ++ (41 :: r)))) := by simp [formS, if_neg hne]
    rw [e, deep_open, deep_plain (noPar_words hk) (by omega), deep_plain (by intro c hc; simp at hc; subst hc; decide) (by omega), deep_plain hp (by omega), deep_close (by omega)]
    simp only [dF]
    rw [show n + 1 - 1 = n by omega]; rfl
  | .no f, n, m, r, hg, hn => by
    have e : formS (.no f) ++ r = 40 :: ([110, 111, 116, 32] ++ (formS f ++ (41 :: r))) := by simp [formS]
    have hd := dF_pos f
    rw [e, deep_open, deep_plain (by decide : ∀ c ∈ ([110, 111, 116, 32] : List UInt8), c ≠ 40 ∧ c ≠ 41) (by omega), deep_form (f := f) (41 :: r) hg (by omega), deep_close (by omega)]
    simp only [dF]
    rw [show n + 1 - 1 = n by omega]
    congr 1
    push_cast
    omega
  | .both k f g, n, m, r, ⟨hk, hf, hg⟩, hn => by
    have e : formS (.both k f g) ++ r = 40 :: (k ++ ([32] ++ (formS f ++ ([32] ++ (formS g ++ (41 :: r)))))) := by simp [formS]
    have hk2 : noPar k := by
      rcases hk with rfl | rfl
      · exact (by decide : ∀ c ∈ w_or_, c ≠ 40 ∧ c ≠ 41)
      · exact (by decide : ∀ c ∈ w_and_, c ≠ 40 ∧ c ≠ 41)
    have h32 : noPar [32] := by intro c hc; simp at hc; subst hc; decide
    have hd := dF_pos f
    have hd2 := dF_pos g
    rw [e, deep_open, deep_plain hk2 (by omega), deep_plain h32 (by omega), deep_form _ hf (by omega), deep_plain h32 (by omega), deep_form _ hg (by omega), deep_close (by omega)]
    simp only [dF]
    rw [show n + 1 - 1 = n by omega]
    congr 1
    push_cast
    omega
theorem deepS_form {f : Fm} (h : GoodF f) : deepS (formS f) = dF f := by
  unfold deepS
  have := deep_form (n := 0) (m := 0) [] h (Int.le_refl _)
  rw [List.append_nil] at this
  rw [this]
  show max 0 (0 + (dF f : Int)) = _
  omega
theorem shAs_depth : ∀ {p : Fo} {l : List Atr}, ShAs p l → p.depth ≤ 1
  | .nil, _, _ => Nat.zero_le _
  | .cons t p r, [], h => h.elim
  | .cons t p r, a :: l, ⟨h, hr⟩ => by
    have h1 : p = .nil := h.1
    have := shAs_depth hr
    rw [h1]
    simp only [Fo.depth]; omega
/-- Whether one of the nodes has parts that lie too deep. -/
def Fo.deepAny : Fo → Bool
  | .nil => false
  | .cons _ p r => decide (16 < p.depth) || r.deepAny
theorem shI_deep {x : Nd} {y : Itm} (h : ShI x y) : deepI y = decide (16 < x.2.depth) := by
  have h2 := h.2
  unfold deepI
  cases hf : y.f with
  | none =>
    rw [hf] at h2
    have := shAs_depth h2
    simp; omega
  | some f =>
    rw [hf] at h2
    obtain ⟨_, z, hz, hs⟩ := h2
    have h3 := shF_depth hs
    have hdep : x.2.depth = dF f := by rw [hz]; simp only [Fo.depth]; omega
    show decide (16 < deepS (formS f)) = _
    rw [deepS_form (shF_good hs), hdep]
    exact decide_eq_decide.2 (by omega)
theorem shIs_deep : ∀ {p : Fo} {l : List Itm}, ShIs p l → l.any deepI = p.deepAny
  | .nil, [], _ => rfl
  | .nil, _ :: _, h => h.elim
  | .cons t p r, [], h => h.elim
  | .cons t p r, y :: l, ⟨h, hr⟩ => by
    rw [List.any_cons, shI_deep h, shIs_deep hr]; rfl
theorem told_kind {t : Tk} (h : t.kind ≠ 0) : toldS t = 32 :: wTok t := by
  unfold toldS wTok
  rw [if_neg h]
  split <;> rfl
theorem opt_told (t : Tk) : ((optT t).flatMap fun t => 32 :: wTok t) = toldS t := by
  by_cases h : t.kind = 0
  · unfold optT toldS; rw [if_pos h, if_pos h]; rfl
  · rw [opt_some h, told_kind h]; simp
theorem shA_told {x : Nd} {a : Atr} (h : ShA x a) : 32 :: 40 :: (ndS x ++ [41]) = attrS a := by
  obtain ⟨h1, t1, k1, e1, _, h3⟩ := h
  unfold ndS attrS
  rw [h1]
  rcases h3 with ⟨h3, h4⟩ | ⟨h3, h4⟩
  · rw [h3, h4, joinT_cons, wTok_plain (by omega), e1]
    simp [Fo.told, toldS]
  · rw [h3, joinT_cons, wTok_plain (by omega), e1, told_kind h4]
    simp [Fo.told]
theorem told_cons (ts : List Tk) (p r : Fo) : (Fo.cons ts p r).told = 32 :: 40 :: (ndS (ts, p) ++ 41 :: r.told) := by simp [Fo.told, ndS]
theorem shAs_told : ∀ {p : Fo} {l : List Atr}, ShAs p l → p.told = l.flatMap attrS
  | .nil, [], _ => rfl
  | .nil, _ :: _, h => h.elim
  | .cons t p r, [], h => h.elim
  | .cons t p r, a :: l, ⟨h, hr⟩ => by
    rw [told_cons, shAs_told hr, List.flatMap_cons, ← shA_told h]
    simp
theorem shI_told {x : Nd} {y : Itm} (h : ShI x y) : lineS y = ndS x ++ [10] := by
  obtain ⟨⟨t1, ta, k1, e1, _, ka, ea, hx⟩, h2⟩ := h
  have hp : x.2.told = y.attrs.flatMap attrS ++ (match y.f with | none => [] | some f => 32 :: formS f) := by
    cases hf : y.f with
    | none => rw [hf] at h2; rw [shAs_told h2]; simp
    | some f =>
      rw [hf] at h2
      obtain ⟨ha, z, hz, hs⟩ := h2
      rw [ha, hz, told_cons]
      show _ = [] ++ 32 :: formS f
      rw [shF_told hs]
      simp [Fo.told]
  have hw : ((if y.whr.kind = 0 then [] else [ta, y.whr]).flatMap fun t => 32 :: wTok t) = if y.whr.kind = 0 then [] else [32, 97, 116] ++ toldS y.whr := by
    by_cases h0 : y.whr.kind = 0
    · rw [if_pos h0, if_pos h0]; rfl
    · rw [if_neg h0, if_neg h0, told_kind h0]
      simp [wTok_plain (t := ta) (by omega), ea]
  have hl : lineS y = y.k ++ toldS y.name ++ (if y.whr.kind = 0 then [] else [32, 97, 116] ++ toldS y.whr) ++ toldS y.caps ++ toldS y.txt ++ (y.attrs.flatMap attrS ++ (match y.f with | none => [] | some f => 32 :: formS f)) ++ [10] := by
    unfold lineS; simp only [List.append_assoc]; rfl
  rw [hl, ← hp]
  unfold ndS
  rw [hx, joinT_cons, wTok_plain (by omega), e1]
  simp only [List.flatMap_append, opt_told, hw]
  simp
/-- How deep what is read may be: no deeper than tokens are read. -/
theorem depth_read : ∀ n, (∀ ts a r, facF n ts = .ok a r → dF a + r.length ≤ ts.length) ∧ (∀ ts a r, terF n ts = .ok a r → dF a + r.length ≤ ts.length) ∧ (∀ b ts a r, terL n b ts = .ok a r → dF a + r.length ≤ dF b + ts.length) ∧
    (∀ ts a r, forF n ts = .ok a r → dF a + r.length ≤ ts.length) ∧ (∀ b ts a r, forL n b ts = .ok a r → dF a + r.length ≤ dF b + ts.length) := by
  intro n
  induction n with
  | zero => exact ⟨fun _ _ _ h => by simp [facF] at h, fun _ _ _ h => by simp [terF] at h, fun _ _ _ _ h => by simp [terL] at h, fun _ _ _ h => by simp [forF] at h, fun _ _ _ _ h => by simp [forL] at h⟩
  | succ n ih =>
    obtain ⟨i1, i2, i3, i4, i5⟩ := ih
    have sh := short_all n
    refine ⟨?_, ?_, ?_, ?_, ?_⟩
    · intro ts a r h
      rw [facF_succ] at h
      split at h
      · rename_i hs
        obtain ⟨b, hb, rfl⟩ := map_ok h
        have := i1 _ _ _ hb
        have := isT_len hs
        simp only [dF]; omega
      · split at h
        · rename_i _ hs
          obtain ⟨b, r1, hb, h2⟩ := then_ok h
          obtain ⟨u, h3, rfl⟩ := map_ok h2
          obtain ⟨h4, rfl⟩ := needR_ok h3
          have := i4 _ _ _ hb
          have := isT_len hs
          have := isT_len h4
          omega
        · split at h
          · rename_i hs
            obtain ⟨t, h2, rfl⟩ := map_ok h
            obtain ⟨h3, _⟩ := kindR_ok h2
            cases ts with
            | nil => cases hs
            | cons x xs => simp at h3; rw [h3]; simp [dF]; omega
          · cases h
    · intro ts a r h
      rw [terF_succ] at h
      obtain ⟨b, r1, hb, h2⟩ := then_ok h
      have := i1 _ _ _ hb
      have := i3 _ _ _ _ h2
      omega
    · intro b ts a r h
      rw [terL_succ] at h
      split at h
      · rename_i hs
        obtain ⟨c, r1, hc, h2⟩ := then_ok h
        have h3 := i1 _ _ _ hc
        have h4 := i3 _ _ _ _ h2
        have h5 := isT_len hs
        have h6 := sh.1 _ _ _ hc
        have := dF_pos b
        simp only [dF] at h4; omega
      · cases h; omega
    · intro ts a r h
      rw [forF_succ] at h
      obtain ⟨b, r1, hb, h2⟩ := then_ok h
      have := i2 _ _ _ hb
      have := i5 _ _ _ _ h2
      omega
    · intro b ts a r h
      rw [forL_succ] at h
      split at h
      · rename_i hs
        obtain ⟨c, r1, hc, h2⟩ := then_ok h
        have h3 := i2 _ _ _ hc
        have h4 := i5 _ _ _ _ h2
        have h5 := isT_len hs
        have h6 := sh.2.1 _ _ _ hc
        have := dF_pos b
        simp only [dF] at h4; omega
      · cases h; omega
theorem attrs_many : ∀ (k : Nat) (ts : List Tk) (l : List Atr) (r : List Tk), attrsF k ts = .ok l r → l.length + r.length ≤ ts.length
  | 0, ts, l, r, h => by simp [attrsF] at h
  | k + 1, ts, l, r, h => by
    rw [attrs_succq] at h
    split at h
    · cases h; simp
    · obtain ⟨a, r1, h1, h2⟩ := then_ok h
      obtain ⟨l2, h3, rfl⟩ := map_ok h2
      have := semi_short h1
      have := attrs_many k r1 l2 r h3
      simp; omega
/-- What holds of an item that is read. -/
def OkI (n : Nat) (y : Itm) : Prop := (∀ f, y.f = some f → dF f ≤ n) ∧ y.attrs.length ≤ n
def PR (x : Rd Itm) (n : Nat) : Prop := ∀ y r, x = .ok y r → OkI n y
theorem PR.then' {α : Type} {x : Rd α} {g : α → List Tk → Rd Itm} {n : Nat} (h : ∀ a r, x = .ok a r → PR (g a r) n) : PR (x.then g) n := fun y r e => by
  obtain ⟨a, r1, h1, h2⟩ := then_ok e
  exact h a r1 h1 y r h2
theorem PR.map' {α : Type} {x : Rd α} {g : α → Itm} {n : Nat} (h : ∀ a r, x = .ok a r → OkI n (g a)) : PR (x.map g) n := fun y r e => by
  obtain ⟨a, h1, rfl⟩ := map_ok e
  exact h a r h1
theorem PR.semi' {x : Rd Itm} {n : Nat} (h : PR x n) : PR (semiR x) n := by
  rw [semi_then]
  refine PR.then' fun a r ha => PR.then' fun _ r2 _ => ?_
  intro y r3 e
  cases e
  exact h a r ha
theorem OkI.bare {n : Nat} {y : Itm} (h1 : y.f = none) (h2 : y.attrs = []) : OkI n y := ⟨fun f hf => (by rw [h1] at hf; cases hf), (by rw [h2]; exact Nat.zero_le _)⟩
theorem item_okI {ts : List Tk} {y : Itm} {r : List Tk} (h : itemR ts = .ok y r) : OkI ts.length y := by
  have htl : ts.tail.length ≤ ts.length := by rw [List.length_tail]; omega
  have hP : PR (itemR ts) ts.length := by
    unfold itemR
    split
    · exact PR.semi' (PR.then' fun _ _ _ => PR.map' fun _ _ _ => OkI.bare rfl rfl)
    split
    · exact PR.semi' (PR.then' fun _ _ _ => PR.then' fun _ _ _ => PR.then' fun _ _ _ => PR.map' fun _ _ _ => OkI.bare rfl rfl)
    split
    · exact PR.semi' (PR.map' fun _ _ _ => OkI.bare rfl rfl)
    split
    · refine PR.semi' ?_
      intro y r e
      cases e; exact OkI.bare rfl rfl
    split
    · refine PR.then' fun _ r1 h1 => PR.then' fun _ r2 h2 => PR.then' fun _ r3 h3 => PR.then' fun _ r4 h4 => PR.then' fun _ r5 h5 => PR.then' fun _ r6 h6 => PR.then' fun l r7 h7 => PR.map' fun _ _ _ => ⟨fun f hf => (by cases hf), ?_⟩
      have a1 := (LeR.kind 1 ts.tail) _ _ h1
      have a2 := (LeR.need w_at r1) _ _ h2
      have a3 := (LeR.kind 1 r2) _ _ h3
      have a4 := (LeR.kind 5 r3) _ _ h4
      have a5 := (LeR.kind 3 r4) _ _ h5
      have a6 := (LeR.need w_lbr r5) _ _ h6
      have a7 := attrs_many _ _ _ _ h7
      show l.length ≤ _
      omega
    split
    · refine PR.semi' (PR.then' fun nm r1 h1 => PR.then' fun u r2 h2 => PR.map' fun f' r3 h3 => ⟨fun f hf => ?_, Nat.zero_le _⟩)
      cases hf
      have a1 := (LeR.kind 1 ts.tail) _ _ h1
      have a2 := (LeR.need w_eq r1) _ _ h2
      have a3 := (depth_read _).2.2.2.1 _ _ _ h3
      omega
    · intro y r e; cases e
  exact hP y r h
theorem items_okI : ∀ (k : Nat) (ts : List Tk) (ys : List Itm) (r : List Tk), itemsF k ts = .ok ys r → (∀ y ∈ ys, OkI ts.length y) ∧ ys.length ≤ ts.length
  | 0, _, _, _, h => by simp [itemsF] at h
  | k + 1, [], ys, r, h => by rw [items_nil] at h; cases h; exact ⟨fun y hy => (by cases hy), Nat.le_refl _⟩
  | k + 1, t :: ts, ys, r, h => by
    rw [items_succ] at h
    obtain ⟨x, r1, h1, h2⟩ := then_ok h
    obtain ⟨l, h3, rfl⟩ := map_ok h2
    have ih := items_okI k r1 l r h3
    have hs := item_shortq h1
    refine ⟨fun y hy => ?_, by simp at hs ⊢; omega⟩
    rcases List.mem_cons.1 hy with rfl | hy
    · exact item_okI h1
    · have := ih.1 y hy
      exact ⟨fun f hf => by have := this.1 f hf; omega, by have := this.2; omega⟩
/-- No row is longer, no parts lie deeper than so. -/
def Fo.fit (n : Nat) : Fo → Prop
  | .nil => True
  | .cons ts p r => ts.length ≤ n ∧ p.len ≤ n ∧ p.depth ≤ n ∧ p.fit n ∧ r.fit n
theorem Fo.fit_mono {n m : Nat} (h : n ≤ m) : ∀ {p : Fo}, p.fit n → p.fit m
  | .nil, _ => trivial
  | .cons _ _ _, ⟨h1, h2, h3, h4, h5⟩ => ⟨Nat.le_trans h1 h, Nat.le_trans h2 h, Nat.le_trans h3 h, Fo.fit_mono h h4, Fo.fit_mono h h5⟩
theorem shF_fit : ∀ {f : Fm} {x : Nd} {n : Nat}, ShF x f → dF f ≤ n → 2 ≤ n → (Fo.cons x.1 x.2 .nil).fit n
  | .un _ _ _, x, n, ⟨_, _, h, _⟩, _, h2 => by
    rw [h]; exact ⟨h2, by simp [Fo.len], by simp [Fo.depth], trivial, trivial⟩
  | .no f, x, n, ⟨_, y, h, _, _, hy⟩, hd, h2 => by
    have hd' : 1 + dF f ≤ n := hd
    have ih := shF_fit hy (by omega : dF f ≤ n) h2
    have h3 := shF_depth hy
    rw [h]
    exact ⟨by simp; omega, by simp [Fo.len]; omega, by simp only [Fo.depth]; omega, ih, trivial⟩
  | .both _ f g, x, n, ⟨_, y, z, h, _, _, _, hy, hz⟩, hd, h2 => by
    have hd' : 1 + max (dF f) (dF g) ≤ n := hd
    have ih := shF_fit hy (by omega : dF f ≤ n) h2
    have ih2 := shF_fit hz (by omega : dF g ≤ n) h2
    have h3 := shF_depth hy
    have h4 := shF_depth hz
    rw [h]
    exact ⟨by simp; omega, by simp [Fo.len]; omega, by simp only [Fo.depth]; omega, ⟨ih.1, ih.2.1, ih.2.2.1, ih.2.2.2.1, ih2⟩, trivial⟩
theorem shA_len {x : Nd} {a : Atr} (h : ShA x a) : x.1.length ≤ 2 := by
  obtain ⟨_, t1, _, _, _, h3⟩ := h
  rcases h3 with ⟨h3, _⟩ | ⟨h3, _⟩ <;> rw [h3] <;> simp
theorem shAs_fit {n : Nat} (h2 : 2 ≤ n) : ∀ {p : Fo} {l : List Atr}, ShAs p l → p.fit n ∧ p.len = l.length
  | .nil, [], _ => ⟨trivial, rfl⟩
  | .nil, _ :: _, h => h.elim
  | .cons t p r, [], h => h.elim
  | .cons t p r, a :: l, ⟨h, hr⟩ => by
    have ih := shAs_fit h2 hr
    have h1 : p = .nil := h.1
    have hl : t.length ≤ 2 := shA_len h
    rw [h1]
    exact ⟨⟨by omega, by simp [Fo.len], by simp [Fo.depth], trivial, ih.1⟩, by simp [Fo.len, ih.2]⟩
theorem optT_len (t : Tk) : (optT t).length ≤ 1 := by unfold optT; split <;> simp
theorem shI_fit {x : Nd} {y : Itm} {n : Nat} (h : ShI x y) (hy : OkI n y) (h7 : 7 ≤ n) : x.1.length ≤ n ∧ x.2.len ≤ n ∧ x.2.depth ≤ n ∧ x.2.fit n := by
  obtain ⟨⟨t1, ta, _, _, _, _, _, hx⟩, h2⟩ := h
  refine ⟨?_, ?_⟩
  · rw [hx]
    have := optT_len y.name
    have := optT_len y.caps
    have := optT_len y.txt
    have : (if y.whr.kind = 0 then [] else [ta, y.whr]).length ≤ 2 := by split <;> simp
    simp only [List.length_cons, List.length_append]; omega
  · cases hf : y.f with
    | none =>
      rw [hf] at h2
      have h3 := shAs_fit (n := n) (by omega) h2
      have := shAs_depth h2
      exact ⟨by rw [h3.2]; exact hy.2, by omega, h3.1⟩
    | some f =>
      rw [hf] at h2
      obtain ⟨_, z, hz, hs⟩ := h2
      have h3 := shF_fit hs (hy.1 f hf) (by omega)
      have h4 := shF_depth hs
      have := hy.1 f hf
      rw [hz]
      exact ⟨by simp [Fo.len]; omega, by simp only [Fo.depth]; omega, h3⟩
theorem shIs_fit {n : Nat} (h7 : 7 ≤ n) : ∀ {p : Fo} {l : List Itm}, ShIs p l → (∀ y ∈ l, OkI n y) → p.fit n ∧ p.len = l.length
  | .nil, [], _, _ => ⟨trivial, rfl⟩
  | .nil, _ :: _, h, _ => h.elim
  | .cons t p r, [], h, _ => h.elim
  | .cons t p r, y :: l, ⟨h, hr⟩, hd => by
    have ih := shIs_fit h7 hr fun z hz => hd z (List.mem_cons_of_mem _ hz)
    have h1 := shI_fit h (hd y List.mem_cons_self) h7
    exact ⟨⟨h1.1, h1.2.1, h1.2.2.1, h1.2.2.2, ih.1⟩, by simp [Fo.len, ih.2]⟩
end Go.Proofs.Url

/- Plain: how long what is told of a text may be. -/
namespace Go.Proofs.Url
open Syn
def TB8 (ts : List Tk) : Prop := ∀ t ∈ ts, t.text.length ≤ 8000
/-- What is read is no longer than its tokens allow; what is left is a part of them. -/
def Ln {α : Type} (len : α → Nat) (b : Nat) (x : Rd α) (ts : List Tk) : Prop := TB8 ts → ∀ a r, x = .ok a r → len a + 8100 * r.length ≤ b + 8100 * ts.length ∧ (∀ t ∈ r, t ∈ ts)
theorem tail_mem {ts : List Tk} : ∀ t ∈ ts.tail, t ∈ ts := fun _ h => List.mem_of_mem_tail h
theorem TB8.tail {ts : List Tk} (h : TB8 ts) : TB8 ts.tail := fun t ht => h t (tail_mem t ht)
theorem TB8.sub {ts r : List Tk} (h : TB8 ts) (hr : ∀ t ∈ r, t ∈ ts) : TB8 r := fun t ht => h t (hr t ht)
theorem words5_len {k : List UInt8} (h : k ∈ words5) : k.length ≤ 7 := (by decide : ∀ k ∈ words5, k.length ≤ 7) k h
theorem form_un_len (k nm : List UInt8) (a : Nat) : (formS (.un k nm a)).length ≤ k.length + nm.length + 3 := by
  simp only [formS]
  split <;> simp <;> omega
theorem form_ln : ∀ n, (∀ ts, Ln (fun f => (formS f).length) 0 (facF n ts) ts) ∧ (∀ ts, Ln (fun f => (formS f).length) 0 (terF n ts) ts) ∧ (∀ b ts, Ln (fun f => (formS f).length) (formS b).length (terL n b ts) ts) ∧
    (∀ ts, Ln (fun f => (formS f).length) 0 (forF n ts) ts) ∧ (∀ b ts, Ln (fun f => (formS f).length) (formS b).length (forL n b ts) ts) := by
  intro n
  induction n with
  | zero => exact ⟨fun _ _ _ _ h => by simp [facF] at h, fun _ _ _ _ h => by simp [terF] at h, fun _ _ _ _ _ h => by simp [terL] at h, fun _ _ _ _ h => by simp [forF] at h, fun _ _ _ _ _ h => by simp [forL] at h⟩
  | succ n ih =>
    obtain ⟨i1, i2, i3, i4, i5⟩ := ih
    refine ⟨?_, ?_, ?_, ?_, ?_⟩
    · intro ts hT a r h
      rw [facF_succ] at h
      split at h
      · rename_i hs
        obtain ⟨b, hb, rfl⟩ := map_ok h
        have h1 := i1 _ hT.tail _ _ hb
        have := isT_len hs
        refine ⟨?_, fun t ht => tail_mem t (h1.2 t ht)⟩
        have := h1.1
        simp only [formS, List.length_cons, List.length_append, List.length_nil] at *
        omega
      · split at h
        · rename_i _ hs
          obtain ⟨b, r1, hb, h2⟩ := then_ok h
          obtain ⟨u, h3, rfl⟩ := map_ok h2
          obtain ⟨h4, rfl⟩ := needR_ok h3
          have h5 := i4 _ hT.tail _ _ hb
          have := isT_len hs
          have := isT_len h4
          exact ⟨by have := h5.1; simp only at *; omega, fun t ht => tail_mem t (h5.2 t (tail_mem t ht))⟩
        · split at h
          · rename_i hs
            obtain ⟨t, h2, rfl⟩ := map_ok h
            obtain ⟨h3, _⟩ := kindR_ok h2
            have hk : (headText ts).length ≤ 7 := by
              unfold word5 at hs
              rw [List.any_eq_true] at hs
              obtain ⟨w, hw, hwt⟩ := hs
              rw [isT_head hwt]; exact words5_len hw
            have ht : t.text.length ≤ 8000 := hT t (tail_mem t (by rw [h3]; exact List.mem_cons_self))
            have hf := form_un_len (headText ts) t.text t.at'
            cases ts with
            | nil => cases hs
            | cons x xs =>
              have h3' : xs = t :: r := h3
              subst h3'
              refine ⟨?_, fun y hy => List.mem_cons_of_mem _ (List.mem_cons_of_mem _ hy)⟩
              simp only [List.length_cons] at *
              omega
          · cases h
    · intro ts hT a r h
      rw [terF_succ] at h
      obtain ⟨b, r1, hb, h2⟩ := then_ok h
      have h3 := i1 _ hT _ _ hb
      have h4 := i3 _ _ (hT.sub h3.2) _ _ h2
      exact ⟨by have := h3.1; have := h4.1; simp only at *; omega, fun t ht => h3.2 t (h4.2 t ht)⟩
    · intro b ts hT a r h
      rw [terL_succ] at h
      split at h
      · rename_i hs
        obtain ⟨c, r1, hc, h2⟩ := then_ok h
        have h3 := i1 _ hT.tail _ _ hc
        have h4 := i3 _ _ (hT.tail.sub h3.2) _ _ h2
        have h5 := isT_len hs
        refine ⟨?_, fun t ht => tail_mem t (h3.2 t (h4.2 t ht))⟩
        have h6 := h3.1
        have h7 := h4.1
        simp only [formS, List.length_cons, List.length_append, List.length_nil] at *
        omega
      · cases h; exact ⟨Nat.le_refl _, fun _ h => h⟩
    · intro ts hT a r h
      rw [forF_succ] at h
      obtain ⟨b, r1, hb, h2⟩ := then_ok h
      have h3 := i2 _ hT _ _ hb
      have h4 := i5 _ _ (hT.sub h3.2) _ _ h2
      exact ⟨by have := h3.1; have := h4.1; simp only at *; omega, fun t ht => h3.2 t (h4.2 t ht)⟩
    · intro b ts hT a r h
      rw [forL_succ] at h
      split at h
      · rename_i hs
        obtain ⟨c, r1, hc, h2⟩ := then_ok h
        have h3 := i2 _ hT.tail _ _ hc
        have h4 := i5 _ _ (hT.tail.sub h3.2) _ _ h2
        have h5 := isT_len hs
        refine ⟨?_, fun t ht => tail_mem t (h3.2 t (h4.2 t ht))⟩
        have h6 := h3.1
        have h7 := h4.1
        simp only [formS, List.length_cons, List.length_append, List.length_nil] at *
        omega
      · cases h; exact ⟨Nat.le_refl _, fun _ h => h⟩
theorem told_len (t : Tk) : (toldS t).length ≤ t.text.length + 3 := by
  unfold toldS
  split
  · simp
  · split <;> simp
theorem kind_parts {k : Nat} {ts : List Tk} {t : Tk} {r : List Tk} (h : kindR k ts = .ok t r) (hT : TB8 ts) : t.text.length ≤ 8000 ∧ TB8 r ∧ r.length + 1 = ts.length ∧ (∀ x ∈ r, x ∈ ts) := by
  obtain ⟨rfl, _⟩ := kindR_ok h
  exact ⟨hT t List.mem_cons_self, fun x hx => hT x (List.mem_cons_of_mem _ hx), by simp, fun x hx => List.mem_cons_of_mem _ hx⟩
theorem need_parts {w : List UInt8} {ts : List Tk} {u : Unit} {r : List Tk} (h : needR w ts = .ok u r) (hT : TB8 ts) : TB8 r ∧ r.length + 1 = ts.length ∧ (∀ x ∈ r, x ∈ ts) := by
  obtain ⟨h1, rfl⟩ := needR_ok h
  have := isT_len h1
  exact ⟨hT.tail, by rw [List.length_tail] at *; omega, fun x hx => tail_mem x hx⟩
theorem attr_ln (ts : List Tk) : Ln (fun a => (attrS a).length) 0 (attrR ts) ts := by
  intro hT a r h
  have hh : ∀ w, isT w ts = true → (headText ts).length = w.length := fun w hw => by rw [isT_head hw]
  have one : ∀ {w : List UInt8} {k : Nat}, w.length ≤ 11 → isT w ts = true → (kindR k ts.tail).map (fun t => (⟨headText ts, headAt ts, t⟩ : Atr)) = .ok a r → (attrS a).length + 8100 * r.length ≤ 0 + 8100 * ts.length ∧ (∀ t ∈ r, t ∈ ts) := by
    intro w k hw hq h
    obtain ⟨t, h2, rfl⟩ := map_ok h
    obtain ⟨h3, h4, h5, h6⟩ := kind_parts h2 hT.tail
    have := isT_len hq
    have := told_len t
    have := hh w hq
    refine ⟨?_, fun x hx => tail_mem x (h6 x hx)⟩
    simp only [attrS, List.length_cons, List.length_append, List.length_nil]
    omega
  unfold attrR at h
  split at h
  · rename_i hs
    rw [List.any_eq_true] at hs
    obtain ⟨w, hm, hw⟩ := hs
    cases h
    have := isT_len hw
    have hw2 := hh w hw
    have hw3 : w.length ≤ 11 := (by decide : ∀ w ∈ bare6, w.length ≤ 11) w hm
    refine ⟨?_, fun x hx => tail_mem x hx⟩
    have : toldS zeroT = [] := rfl
    simp only [attrS, List.length_cons, List.length_append, List.length_nil, this]
    omega
  · split at h
    · rename_i _ hs
      rw [List.any_eq_true] at hs
      obtain ⟨w, hm, hw⟩ := hs
      exact one ((by decide : ∀ w ∈ named5, w.length ≤ 11) w hm) hw h
    · split at h
      · rename_i _ _ hs
        split at h
        · exact one (w := w_cors) (by decide) hs h
        · exact one (w := w_cors) (by decide) hs h
      · split at h
        · rename_i _ _ _ hs
          rw [List.any_eq_true] at hs
          obtain ⟨w, hm, hw⟩ := hs
          exact one ((by decide : ∀ w ∈ texted4, w.length ≤ 11) w hm) hw h
        · cases h
theorem attrs_ln : ∀ (k : Nat) (ts : List Tk), Ln (fun l => (l.flatMap attrS).length) 0 (attrsF k ts) ts
  | 0, ts => fun _ _ _ h => by simp [attrsF] at h
  | k + 1, ts => by
    intro hT l r h
    rw [attrs_succq] at h
    split at h
    · cases h; exact ⟨by simp, fun _ h => h⟩
    · obtain ⟨a, r1, h1, h2⟩ := then_ok h
      obtain ⟨l2, h3, rfl⟩ := map_ok h2
      rw [semi_then] at h1
      obtain ⟨b, r0, h4, h5⟩ := then_ok h1
      obtain ⟨u, r2, h6, h7⟩ := then_ok h5
      cases h7
      have e1 := attr_ln ts hT _ _ h4
      obtain ⟨e2, e3, e4⟩ := need_parts h6 (hT.sub e1.2)
      have e5 := attrs_ln k r1 e2 _ _ h3
      have e6 := e1.1
      have e7 := e5.1
      refine ⟨?_, fun x hx => e1.2 x (e4 x (e5.2 x hx))⟩
      simp only [List.flatMap_cons, List.length_append] at *
      omega
theorem line_len (y : Itm) : (lineS y).length = y.k.length + (toldS y.name).length + (if y.whr.kind = 0 then 0 else 3 + (toldS y.whr).length) + (toldS y.caps).length + (toldS y.txt).length + (y.attrs.flatMap attrS).length + (match y.f with | none => 0 | some f => 1 + (formS f).length) + 1 := by
  unfold lineS
  have e1 : (if y.whr.kind = 0 then ([] : List UInt8) else [32, 97, 116] ++ toldS y.whr).length = if y.whr.kind = 0 then 0 else 3 + (toldS y.whr).length := by
    split
    · rfl
    · simp; omega
  simp only [List.length_append, e1]
  cases y.f <;> simp <;> omega
theorem whr_len (t : Tk) : (if t.kind = 0 then 0 else 3 + (toldS t).length) ≤ t.text.length + 6 := by
  have := told_len t
  split <;> omega
theorem told_zero : (toldS zeroT).length = 0 := rfl
/-- What stands behind an item's first words. -/
theorem line_le (y : Itm) : (lineS y).length ≤ y.k.length + (toldS y.name).length + (y.whr.text.length + 6) + (toldS y.caps).length + (toldS y.txt).length + (y.attrs.flatMap attrS).length + (match y.f with | none => 0 | some f => 1 + (formS f).length) + 1 := by
  rw [line_len]
  have := whr_len y.whr
  omega
theorem item_ln (ts : List Tk) : Ln (fun y => (lineS y).length) 0 (itemR ts) ts := by
  intro hT y r h
  have hh : ∀ {w : List UInt8}, isT w ts = true → (headText ts).length = w.length := fun hw => by rw [isT_head hw]
  unfold itemR at h
  split at h
  · rename_i hq
    rw [semi_then] at h
    obtain ⟨y2, r0, h1, h2⟩ := then_ok h
    obtain ⟨u, r9, h3, h4⟩ := then_ok h2
    cases h4
    obtain ⟨nm, r1, g1, g2⟩ := then_ok h1
    obtain ⟨tx, g3, rfl⟩ := map_ok g2
    obtain ⟨a1, a2, a3, a4⟩ := kind_parts g1 hT.tail
    obtain ⟨b1, b2, b3, b4⟩ := kind_parts g3 a2
    obtain ⟨c2, c3, c4⟩ := need_parts h3 b2
    have := isT_len hq
    have := hh hq
    have := told_len nm
    have := told_len tx
    refine ⟨?_, fun x hx => tail_mem x (a4 x (b4 x (c4 x hx)))⟩
    have e := line_le ⟨headText ts, headAt ts, nm, zeroT, zeroT, tx, [], none⟩
    simp only [told_zero, List.flatMap_nil, List.length_nil] at e ⊢
    simp only [w_origin, List.length_cons, List.length_nil] at *
    omega
  split at h
  · rename_i hq
    rw [semi_then] at h
    obtain ⟨y2, r0, h1, h2⟩ := then_ok h
    obtain ⟨u, r9, h3, h4⟩ := then_ok h2
    cases h4
    obtain ⟨nm, r1, g1, g2⟩ := then_ok h1
    obtain ⟨u2, r2, g3, g4⟩ := then_ok g2
    obtain ⟨wh, r3, g5, g6⟩ := then_ok g4
    obtain ⟨tx, g7, rfl⟩ := map_ok g6
    obtain ⟨a1, a2, a3, a4⟩ := kind_parts g1 hT.tail
    obtain ⟨b2, b3, b4⟩ := need_parts g3 a2
    obtain ⟨c1, c2, c3, c4⟩ := kind_parts g5 b2
    obtain ⟨d1, d2, d3, d4⟩ := kind_parts g7 c2
    obtain ⟨e2, e3, e4⟩ := need_parts h3 d2
    have := isT_len hq
    have := hh hq
    have := told_len nm
    have := told_len tx
    refine ⟨?_, fun x hx => tail_mem x (a4 x (b4 x (c4 x (d4 x (e4 x hx)))))⟩
    have e := line_le ⟨headText ts, headAt ts, nm, wh, zeroT, tx, [], none⟩
    simp only [told_zero, List.flatMap_nil, List.length_nil] at e ⊢
    simp only [w_cookie, List.length_cons, List.length_nil] at *
    omega
  split at h
  · rename_i hq
    rw [semi_then] at h
    obtain ⟨y2, r0, h1, h2⟩ := then_ok h
    obtain ⟨u, r9, h3, h4⟩ := then_ok h2
    cases h4
    obtain ⟨nm, g1, rfl⟩ := map_ok h1
    obtain ⟨a1, a2, a3, a4⟩ := kind_parts g1 hT.tail
    obtain ⟨c2, c3, c4⟩ := need_parts h3 a2
    have := isT_len hq
    have := hh hq
    have := told_len nm
    refine ⟨?_, fun x hx => tail_mem x (a4 x (c4 x hx))⟩
    have e := line_le ⟨headText ts, headAt ts, nm, zeroT, zeroT, zeroT, [], none⟩
    simp only [told_zero, List.flatMap_nil, List.length_nil] at e ⊢
    simp only [w_secret, List.length_cons, List.length_nil] at *
    omega
  split at h
  · rename_i hq
    rw [semi_then] at h
    obtain ⟨y2, r0, h1, h2⟩ := then_ok h
    obtain ⟨u, r9, h3, h4⟩ := then_ok h2
    cases h4
    cases h1
    obtain ⟨c2, c3, c4⟩ := need_parts h3 hT.tail
    have := isT_len hq
    have := hh hq
    refine ⟨?_, fun x hx => tail_mem x (c4 x hx)⟩
    have e := line_le ⟨headText ts, headAt ts, zeroT, zeroT, zeroT, zeroT, [], none⟩
    simp only [told_zero, List.flatMap_nil, List.length_nil] at e ⊢
    simp only [w_network, List.length_cons, List.length_nil] at *
    omega
  split at h
  · rename_i hq
    obtain ⟨nm, r1, g1, h⟩ := then_ok h
    obtain ⟨_, r2, g2, h⟩ := then_ok h
    obtain ⟨wh, r3, g3, h⟩ := then_ok h
    obtain ⟨cp, r4, g4, h⟩ := then_ok h
    obtain ⟨tx, r5, g5, h⟩ := then_ok h
    obtain ⟨_, r6, g6, h⟩ := then_ok h
    obtain ⟨l, r7, g7, h⟩ := then_ok h
    obtain ⟨u, g8, rfl⟩ := map_ok h
    obtain ⟨a1, a2, a3, a4⟩ := kind_parts g1 hT.tail
    obtain ⟨b2, b3, b4⟩ := need_parts g2 a2
    obtain ⟨c1, c2, c3, c4⟩ := kind_parts g3 b2
    obtain ⟨d1, d2, d3, d4⟩ := kind_parts g4 c2
    obtain ⟨e1, e2, e3, e4⟩ := kind_parts g5 d2
    obtain ⟨f2, f3, f4⟩ := need_parts g6 e2
    have k := attrs_ln _ _ f2 _ _ g7
    obtain ⟨m2, m3, m4⟩ := need_parts g8 (f2.sub k.2)
    have := k.1
    have := isT_len hq
    have := hh hq
    have := told_len nm
    have := told_len cp
    have := told_len tx
    refine ⟨?_, fun x hx => tail_mem x (a4 x (b4 x (c4 x (d4 x (e4 x (f4 x (k.2 x (m4 x hx)))))))) ⟩
    have e := line_le ⟨headText ts, headAt ts, nm, wh, cp, tx, l, none⟩
    simp only at e ⊢
    simp only [w_endpoint, List.length_cons, List.length_nil] at *
    omega
  split at h
  · rename_i hq
    rw [semi_then] at h
    obtain ⟨y2, r0, h1, h2⟩ := then_ok h
    obtain ⟨u, r9, h3, h4⟩ := then_ok h2
    cases h4
    obtain ⟨nm, r1, g1, g2⟩ := then_ok h1
    obtain ⟨u2, r2, g3, g4⟩ := then_ok g2
    obtain ⟨f, g5, rfl⟩ := map_ok g4
    obtain ⟨a1, a2, a3, a4⟩ := kind_parts g1 hT.tail
    obtain ⟨b2, b3, b4⟩ := need_parts g3 a2
    have k := (form_ln _).2.2.2.1 _ b2 _ _ g5
    obtain ⟨e2, e3, e4⟩ := need_parts h3 (b2.sub k.2)
    have := k.1
    have := isT_len hq
    have := hh hq
    have := told_len nm
    refine ⟨?_, fun x hx => tail_mem x (a4 x (b4 x (k.2 x (e4 x hx))))⟩
    have e := line_le ⟨headText ts, headAt ts, nm, zeroT, zeroT, zeroT, [], some f⟩
    simp only [told_zero, List.flatMap_nil, List.length_nil] at e ⊢
    simp only [w_property, List.length_cons, List.length_nil] at *
    omega
  · cases h
theorem items_ln : ∀ (k : Nat) (ts : List Tk), Ln (fun l => (l.flatMap lineS).length) 0 (itemsF k ts) ts
  | 0, ts => fun _ _ _ h => by simp [itemsF] at h
  | k + 1, [] => fun _ _ _ h => by rw [items_nil] at h; cases h; exact ⟨by simp, fun _ h => h⟩
  | k + 1, t :: ts => by
    intro hT l r h
    rw [items_succ] at h
    obtain ⟨x, r1, h1, h2⟩ := then_ok h
    obtain ⟨l2, h3, rfl⟩ := map_ok h2
    have e1 := item_ln (t :: ts) hT _ _ h1
    have e2 := items_ln k r1 (hT.sub e1.2) _ _ h3
    have := e1.1
    have := e2.1
    refine ⟨?_, fun x hx => e1.2 x (e2.2 x hx)⟩
    simp only [List.flatMap_cons, List.length_append] at *
    omega
theorem one_text_len (l : List UInt8) : (oneS l).text.length ≤ l.length := by
  cases l with
  | nil => simp [oneS]
  | cons c r =>
    show (oneC c r).text.length ≤ _
    cases h1 : smallB c with
    | true => rw [oneC_small r h1]; exact takeWhile_le _ _
    | false =>
      cases h2 : capB c with
      | true => rw [oneC_cap r h1 h2]; exact takeWhile_le _ _
      | false =>
        by_cases h3 : c.toNat = 34
        · by_cases hq : r[(r.takeWhile textB).length]? = some 34
          · rw [oneC_text r h1 h2 h3 hq]; have := takeWhile_le textB r; simp; omega
          · rw [oneC_open r h1 h2 h3 hq]; simp
        · cases h4 : signB c with
          | true => rw [oneC_sign r h1 h2 h3 h4]; simp
          | false => rw [oneC_none r h1 h2 h3 h4]; simp
theorem toksF_tb : ∀ (f pos : Nat) (l : List UInt8) (n : Nat) (ts : List Tk), l.length ≤ 8000 → toksF f pos l n = .ok ts → TB8 ts := by
  intro f
  induction f with
  | zero => intro pos l n ts hl h; simp [toksF] at h; subst h; intro t ht; cases ht
  | succ f ih =>
    intro pos l n ts hl h
    rw [toksF_succ] at h
    split at h
    · cases h; intro t ht; cases ht
    · split at h
      · cases h
      · split at h
        · cases h
        · generalize hx : toksF f _ _ _ = x at h
          cases x with
          | bad c q => simp [Toks.put] at h
          | ok us =>
            simp [Toks.put] at h
            subst h
            intro t ht
            rcases List.mem_cons.1 ht with rfl | ht
            · have := one_text_len (l.drop (gapB false l))
              rw [List.length_drop] at this
              show (oneS (l.drop (gapB false l))).text.length ≤ 8000
              omega
            · exact ih _ _ _ _ (by rw [List.length_drop, List.length_drop]; omega) hx t ht
theorem toksS_tb {s : List UInt8} {ts : List Tk} (h : toksS s = .ok ts) : TB8 ts := by
  unfold toksS at h
  split at h
  · cases h
  · exact toksF_tb _ _ _ _ _ (by omega) h
theorem readS10_len {s : List UInt8} {xs : List Itm} (h : readS10 s = .ok xs) : (xs.flatMap lineS).length ≤ 16200000 := by
  unfold readS10 at h
  split at h
  · cases h
  · rename_i ts hT
    split at h
    · cases h
    · cases h
    · rename_i ys r hi
      split at h
      · cases h
      · cases h
        have h1 := (items_ln _ _ (toksS_tb hT) _ _ hi).1
        have h2 := toksS_many hT
        simp only at h1
        omega
end Go.Proofs.Url

/- strings.Builder at this program: copyCheck and WriteString as they lie in the dump (what refuses a copied builder is not in it). -/
namespace Go.Proofs.Ytcmmjmgbanafgaa
open Go.RowKit Go.Proofs.Url

theorem tb_size : (Try.prog.info? 49).map (·.size) = some 2 := by kernel_rfl
theorem tb_lies : liesAt Try.prog Try.prog.depth 49 (2 / Try.prog.cellsOf 49) 0 49 1 = true := by kernel_rfl
theorem tb_byte : (Try.prog.info? 5).map (fun i => (i.zero, i.size, i.bytes)) = some (some (.int .u8 0), 1, 1) := by kernel_rfl
set_option maxHeartbeats 1000000 in
set_option maxRecDepth 100000 in
theorem tb_check_used (b : Nat) (w : World) (h0 : w.cell? ⟨b, 0, none⟩ = some (.pointer (some ⟨b, 0, none⟩))) :
    Calls Try.prog 28 #[.pointer (some ⟨b, 0, none⟩)] w fun e w' => e = .returned (.tuple #[]) ∧ w' = w := by
  obtain ⟨j, hj, _⟩ := Option.map_eq_some_iff.1 tb_size
  go_enter Try.func28, Try.ntmps28
  go_wp2
  rw [Lib.run_neq_ptr_same w _ Try.underlying46 hj]
  go_wp2
  go_end0
  exact ⟨rfl, rfl⟩
set_option maxHeartbeats 1000000 in
set_option maxRecDepth 100000 in
theorem tb_check_fresh (b : Nat) (w : World) (h0 : w.cell? ⟨b, 0, none⟩ = some (.pointer none)) (hsh : w.shape? b = some (49, 2)) (hfz : w.frozen? ⟨b, 0, none⟩ = false) :
    Calls Try.prog 28 #[.pointer (some ⟨b, 0, none⟩)] w fun e w' => e = .returned (.tuple #[]) ∧ w' = w.setCell ⟨b, 0, none⟩ (.pointer (some ⟨b, 0, none⟩)) := by
  obtain ⟨j, hj, hjs⟩ := Option.map_eq_some_iff.1 tb_size
  go_enter Try.func28, Try.ntmps28
  go_wp2
  rw [Lib.run_to_unsafe w ⟨b, 0, none⟩ Try.underlying46 Try.underlying96 hj (by rw [hjs]; decide) hsh (Nat.zero_lt_succ 1)]
  simp only [Result.andThen]
  rw [Oper.upon_value]
  go_wp2
  rw [run_callFunc_extern Try.func55 (by kernel_rfl) (by kernel_rfl) (by kernel_rfl) (e := Extern.AbiNoEscape.same) (by kernel_rfl)]
  rw [Lib.run_noEscape]
  simp only [Result.andThen]
  rw [Oper.upon_value]
  go_wp2
  rw [Lib.run_from_unsafe w ⟨b, 0, none⟩ Try.underlying96 Try.underlying46 hj hsh tb_lies]
  simp only [Result.andThen]
  rw [Oper.upon_value]
  go_wp2
  go_end0
  exact ⟨rfl, rfl⟩
/-- A builder of this program. -/
abbrev IsB (B b : Nat) (l : List UInt8) (w : World) : Prop := Lib.IsBuilder 49 5 B b (Lib.byteCells l) w
theorem tb_check (B b : Nat) (bs : List Value) (w : World) (h : Lib.IsBuilder 49 5 B b bs w) :
    Calls Try.prog 28 #[.pointer (some ⟨b, 0, none⟩)] w fun e w' => e = .returned (.tuple #[]) ∧ (Lib.BuilderAt 49 5 B b (.pointer (some ⟨b, 0, none⟩)) bs w' ∧ Below B w w' ∧ Lib.OthersKept 5 (some b) w w') := by
  rcases h with h | h
  · refine (tb_check_fresh b w h.cell0 h.shape h.frozen0).mono ?_
    rintro e w' ⟨rfl, rfl⟩
    exact ⟨rfl, h.used _, (Below.refl B w).setCell (p := ⟨b, 0, none⟩) h.1 _, (Lib.OthersKept.refl _ _ w).setCell ⟨b, 0, none⟩ rfl _⟩
  · refine (tb_check_used b w h.cell0).mono ?_
    rintro e w' ⟨rfl, rfl⟩
    exact ⟨rfl, h, Below.refl B _, Lib.OthersKept.refl _ _ _⟩
theorem tb_kind {w : World} {B : Nat} {e : TypeId} {v : Value} {n : Nat} {xs : List Value} (h : w.ownsRow B e 1 v n xs) : ∀ g, v.ownBlock = some g → ∃ c fz, w.heap[g]? = some (.cells c e fz) := by
  intro g hg
  rcases h.2 with ⟨rfl, _⟩ | ⟨g', cap, cur, rfl, _, hgg, _⟩
  · simp [Value.ownBlock] at hg
  · simp [Value.ownBlock] at hg
    subst hg
    exact ⟨_, _, hgg⟩
set_option maxHeartbeats 2000000 in
set_option maxRecDepth 100000 in
theorem tb_write (B b : Nat) (l s : List UInt8) (w : World) (h : IsB B b l w) (hlen : l.length + s.length ≤ 140737488355328) (hBw : B ≤ w.heap.size) :
    Calls Try.prog 15 #[.pointer (some ⟨b, 0, none⟩), .string ⟨s.toArray⟩] w fun e w' => e = .returned (.tuple #[.int .i64 s.length, .nilIface]) ∧ IsB B b (l ++ s) w' ∧ Below B w w' ∧ Lib.OthersKept 5 (some b) w w' := by
  obtain ⟨i0, hi, hz0, hz1, hz2⟩ := info_parts tb_byte
  have hbl : (Lib.byteCells l).length = l.length := Lib.byteCells_length l
  have hss : (⟨s.toArray⟩ : ByteArray).size = s.length := size_mk s
  go_enter Try.func15, Try.ntmps15
  go_wp2_with fail
  refine (tb_check B b (Lib.byteCells l) _ h).mono ?_
  rintro e w1 ⟨rfl, h1, hb1, hk1⟩
  obtain ⟨hB, v, hbk, hown, hne⟩ := h1
  have c0 : w1.cell? ⟨b, 0, none⟩ = some (.pointer (some ⟨b, 0, none⟩)) := by rw [Lib.cell_of_heap hbk]; rfl
  have c1 : w1.cell? ⟨b, 1, none⟩ = some v := by rw [Lib.cell_of_heap hbk]; rfl
  have hlt : b < w1.heap.size := by
    rcases Nat.lt_or_ge b w1.heap.size with h' | h'
    · exact h'
    · simp [Array.getElem?_eq_none h'] at hbk
  have hs1 := hb1.size
  go_wp2_with (at_builtin; refine Lib.wpList_append_own_string _ rfl _ _ 47 9 rfl B 5 i0 Try.underlying47 Try.underlying9 hi hz0 hz1 hz2 _ _ _ rfl hown ⟨s.toArray⟩ rfl (by unfold maxLen; omega) (by omega) (by omega) ?_; intro v' w2 hown' hgrow _; obtain ⟨ao, n', cap, rfl⟩ : ∃ ao n' cap, v' = .slice ao n' cap := (by
    rcases hown'.2 with ⟨hv, _⟩ | ⟨g, cap, cur, hv, _⟩
    · exact ⟨_, _, _, hv⟩
    · exact ⟨_, _, _, hv⟩); have hb2 : w2.heap[b]? = some (.cells #[.pointer (some ⟨b, 0, none⟩), v] 49 (0, 0)) := (by
    rw [hgrow.block b hlt (fun e => hne e.symm)]; exact hbk); have d0 : w2.cell? ⟨b, 0, none⟩ = some (.pointer (some ⟨b, 0, none⟩)) := (by rw [Lib.cell_of_heap hb2]; rfl); have d1 : w2.cell? ⟨b, 1, none⟩ = some v := (by rw [Lib.cell_of_heap hb2]; rfl); have f1 : w2.frozen? ⟨b, 1, none⟩ = false := Lib.frozen_of_heap hb2 1)
  go_ret2
  refine ⟨rfl, .inr ?_, ?_, (hk1.grown hgrow (tb_kind hown)).setCell ⟨b, 1, none⟩ rfl _⟩
  · refine Lib.BuilderAt.put (T := 49) (e := 5) hB hb2 (bs' := Lib.byteCells (l ++ s)) ?_ (by decide)
    have e : Lib.byteCells (l ++ s) = Lib.byteCells l ++ Lib.strCells ⟨s.toArray⟩ := by rw [Lib.strCells_eq]; simp [Lib.byteCells]
    rw [e, List.length_append, Lib.strCells_length]
    exact hown'
  · exact (hb1.grown hgrow (by omega) (fun k hk => (hown.lt k hk).1)).setCell (p := ⟨b, 1, none⟩) hB _
end Go.Proofs.Ytcmmjmgbanafgaa

/- The walks over tree.written, tree.Node.Words. -/
namespace Go.Proofs.Url
open Syn
theorem joinT_snoc (l : List Tk) (t : Tk) : joinT (l ++ [t]) = if l = [] then wTok t else joinT l ++ 32 :: wTok t := by
  cases l with
  | nil => simp [joinT]
  | cons a r => simp [joinT]
theorem joinT_len (a b : List Tk) : (joinT a).length ≤ (joinT (a ++ b)).length := by
  cases a with
  | nil => exact Nat.zero_le _
  | cons t r => simp [joinT]
theorem wTok_plainV {t : Tk} (h : t.kind ≠ 3) : wTok t = t.text := by unfold wTok; rw [if_neg h]
theorem wTok_len (t : Tk) : t.text.length ≤ (wTok t).length := by
  unfold wTok; split
  · simp; omega
  · exact Nat.le_refl _
end Go.Proofs.Url
namespace Go.Proofs.Ytcmmjmgbanafgaa
open Go.RowKit Go.Proofs.Url Go.Proofs.Url.Syn

set_option maxHeartbeats 1000000 in
theorem written_any (t : Tk) (w : World) (hl : t.text.length < 4294967270) :
    Calls Try.prog 56 #[.agg #[.int .i64 t.kind, .int .i64 t.at', .string ⟨t.text.toArray⟩]] w fun e w' => e = .returned (.string ⟨(wTok t).toArray⟩) ∧ w' = w.alloc (Obj.cells #[.int .i64 t.kind, .int .i64 t.at', .string ⟨t.text.toArray⟩] 39) := by
  obtain ⟨k, a, tt⟩ := t
  replace hl : tt.length < 4294967270 := hl
  by_cases h3 : k = 3
  · subst h3
    go_enter Try.func56, Try.ntmps56
    go_wp2_with fail
    go_ret
    exact ⟨congrArg Ending.returned (congrArg Value.string (dataEq (by simp [wTok]))), rfl⟩
  · have hb : ((k : Int) == 3) = false := beq_eq_false_iff_ne.2 (by omega)
    have hw : wTok ⟨k, a, tt⟩ = tt := wTok_plainV h3
    rw [hw]
    clear hw h3
    go_enter Try.func56, Try.ntmps56
    go_wp2_with fail
    go_ret
    exact ⟨rfl, rfl⟩
theorem IsB.below {B b : Nat} {l : List UInt8} {w w' : World} (h : IsB B b l w) (hb : Below w.heap.size w w') : IsB B b l w' := by
  rcases h with h | h
  · obtain ⟨h1, v, hbk, hown, hne⟩ := h
    have hlt : b < w.heap.size := by
      rcases Nat.lt_or_ge b w.heap.size with h | h
      · exact h
      · rw [Array.getElem?_eq_none h] at hbk; cases hbk
    exact .inl ⟨h1, v, by rw [hb.block b hlt]; exact hbk, owns_below hown hb, hne⟩
  · obtain ⟨h1, v, hbk, hown, hne⟩ := h
    have hlt : b < w.heap.size := by
      rcases Nat.lt_or_ge b w.heap.size with h | h
      · exact h
      · rw [Array.getElem?_eq_none h] at hbk; cases hbk
    exact .inr ⟨h1, v, by rw [hb.block b hlt]; exact hbk, owns_below hown hb, hne⟩
theorem IsB.ge {B b : Nat} {l : List UInt8} {w : World} (h : IsB B b l w) : B ≤ b ∧ b < w.heap.size := by
  rcases h with h | h
  · exact ⟨h.1, h.lt⟩
  · exact ⟨h.1, h.lt⟩
/-- A block of a known kind is as it was. -/
theorem kept_obj {b k : Nat} {w w' : World} (h : Lib.OthersKept 5 (some b) w w') {cs : Array Value} {T : TypeId} (hk : w.heap[k]? = some (.cells cs T (0, 0))) (hb : k ≠ b) (hT : T ≠ 5) : w'.heap[k]? = some (.cells cs T (0, 0)) :=
  h k _ hk (fun e => hb (by cases e; rfl)) (fun c fz e => hT (by cases e; rfl))
theorem obj_new (w : World) (cs : Array Value) (T : TypeId) : (w.alloc (Obj.cells cs T)).heap[w.heap.size]? = some (.cells cs T (0, 0)) := _root_.Go.heap_alloc_new w _
/-- What a write leaves. -/
structure WrP (B b : Nat) (l : List UInt8) (w w' : World) : Prop where
  is : IsB B b l w'
  be : Below B w w'
  ok : Lib.OthersKept 5 (some b) w w'
theorem WrP.trans {B b : Nat} {l m : List UInt8} {w w' w'' : World} (h : WrP B b l w w') (k : WrP B b m w' w'') : WrP B b m w w'' := ⟨k.is, h.be.trans k.be, h.ok.trans k.ok⟩
theorem WrP.alloc {B b : Nat} {l : List UInt8} {w w' : World} (h : WrP B b l w w') (hB : B ≤ w.heap.size) (o : Obj) : WrP B b l w (w'.alloc o) := ⟨h.is.below ((Below.refl _ _).alloc (Nat.le_refl _) _), h.be.trans ((Below.refl _ _).alloc (Nat.le_trans hB h.be.size) _), h.ok.alloc _⟩
theorem WrP.refl {B b : Nat} {l : List UInt8} {w : World} (h : IsB B b l w) : WrP B b l w w := ⟨h, Below.refl _ _, Lib.OthersKept.refl _ _ _⟩
theorem writeS (B b : Nat) (l s : List UInt8) (w : World) (h : IsB B b l w) (hlen : (l ++ s).length < 4294967281) (hBw : B ≤ w.heap.size) :
    Calls Try.prog 15 #[.pointer (some ⟨b, 0, none⟩), .string ⟨s.toArray⟩] w fun e w' => e = .returned (.tuple #[.int .i64 s.length, .nilIface]) ∧ WrP B b (l ++ s) w w' :=
  (tb_write B b l s w h (by rw [List.length_append] at hlen; omega) hBw).mono fun _ _ ⟨h1, h2, h3, h4⟩ => ⟨h1, h2, h3, h4⟩

set_option maxHeartbeats 2000000 in
set_option maxRecDepth 100000 in
theorem words_any (x : Nd) (a1 a2 : Option Addr) (c1 c2 : Nat) (w : World) (hN : NA w (fun k => k < w.heap.size) a1 a2 x) (hl1 : x.1.length ≤ 4294967280) (hlen : (joinT x.1).length < 4294967260) :
    Calls Try.prog 29 #[.agg #[.slice a1 x.1.length c1, .slice a2 x.2.len c2]] w fun e w' => e = .returned (.string ⟨(joinT x.1).toArray⟩) ∧ Below w.heap.size w w' := by
  have HN := hide hN
  have HL1 := hide hl1
  have HLen := hide hlen
  clear hN hl1 hlen
  go_enter Try.func29, Try.ntmps29
  go_upto_region 2 with fail
  obtain ⟨W0, hW0⟩ : ∃ v, v = w.alloc (Obj.cells #[.slice a1 x.1.length c1, .slice a2 x.2.len c2] 51) := ⟨_, rfl⟩
  have b0 : Below w.heap.size w W0 := by rw [hW0]; exact (Below.refl _ _).alloc (Nat.le_refl _) _
  have O0 : W0.heap[w.heap.size]? = some (.cells #[.slice a1 x.1.length c1, .slice a2 x.2.len c2] 51 (0, 0)) := by rw [hW0]; exact obj_new _ _ _
  have s0 : W0.heap.size = w.heap.size + 1 := by rw [hW0]; simp
  obtain ⟨W1, hW1⟩ : ∃ v, v = W0.alloc (Obj.cells #[.pointer none, .slice none 0 0] 49) := ⟨_, rfl⟩
  have b1 : Below W0.heap.size W0 W1 := by rw [hW1]; exact (Below.refl _ _).alloc (Nat.le_refl _) _
  have I1 : IsB W0.heap.size W0.heap.size [] W1 := by rw [hW1]; exact Lib.fresh_isBuilder _ _ _
  rw [← hW0]
  have e0 : w.heap.size + 1 = W0.heap.size := s0.symm
  simp only [e0]
  rw [← hW1]
  have BW := hide (b0.trans (b1.mono b0.size))
  have O1 : Hid (W1.heap[w.heap.size]? = some (.cells #[.slice a1 x.1.length c1, .slice a2 x.2.len c2] 51 (0, 0))) := by unfold Hid; rw [b1.block w.heap.size (by omega)]; exact O0
  have HN1 : Hid (NA W1 (fun k => k < W0.heap.size) a1 a2 x) := ((HN.out.keep (KeptIn.belowK (b0.trans (b1.mono b0.size)) fun _ h => h)).sub fun _ h => by omega)
  have P1 := hide (WrP.refl I1)
  have hwB : w.heap.size < W0.heap.size := by omega
  have hBsz : W0.heap.size < W1.heap.size := I1.ge.2
  have x1 : W1.cell? ⟨w.heap.size, 0, none⟩ = some (.slice a1 x.1.length c1) := by rw [Lib.cell_of_heap O1.out]; rfl
  clear hW0 hW1 b0 b1 O0 I1 s0 HN e0
  go_wp2_with fail
  clear x1 O1
  have hBB : Hid (W0.heap.size ≤ W1.heap.size) := Nat.le_of_lt hBsz
  go_loopw [9] (fun iv W => ∃ k : Nat, k ≤ x.1.length ∧ iv = .int .i64 k ∧ Hid (WrP W0.heap.size W0.heap.size (joinT (x.1.take k)) W1 W)) (fun iv _ => x.1.length - (intOf iv).toNat)
  case atStart => exact ⟨0, Nat.zero_le _, rfl, P1⟩
  case round =>
    obtain ⟨k, hk, rfl, hP⟩ := hrel
    clear P1
    by_cases hlt : k < x.1.length
    · have hlI : (k : Int) < (x.1.length : Int) := by omega
      obtain ⟨q, rfl, hq, k1, k2, k3⟩ := (HN1.out.t.keep (KeptIn.belowK hP.out.be fun _ h => h)) k hlt
      have hqw : q < wr.heap.size := by have := hP.out.be.size; have hq' : q < W0.heap.size := hq; omega
      have HTk : Hid (x.1.take (k + 1) = x.1.take k ++ [x.1[k]]) := by unfold Hid; rw [List.take_succ_eq_append_getElem hlt]
      have HJ : Hid (joinT (x.1.take (k + 1)) = if k = 0 then wTok x.1[k] else joinT (x.1.take k) ++ 32 :: wTok x.1[k]) := by
        unfold Hid; rw [HTk.out, joinT_snoc]
        by_cases h0 : k = 0
        · rw [if_pos h0, if_pos (by rw [h0]; rfl)]
        · have hne : ¬ x.1.take k = [] := fun e => by
            have h1 := congrArg List.length e
            rw [List.length_take, List.length_nil] at h1
            omega
          rw [if_neg h0, if_neg hne]
      have HPre : Hid ((joinT (x.1.take (k + 1))).length < 4294967260) := by
        unfold Hid
        have h1 := joinT_len (x.1.take (k + 1)) (x.1.drop (k + 1))
        rw [List.take_append_drop] at h1
        have h2 := HLen.out
        omega
      have htl : Hid (x.1[k].text.length < 4294967270) := by
        unfold Hid
        have h1 := wTok_len x.1[k]
        have h2 := HPre.out
        rw [HJ.out] at h2
        split at h2 <;> first | (simp only [List.length_append, List.length_cons] at h2; omega) | omega
      generalize x.1[k] = t at *
      have hkI : (k : Int) < 4294967281 := by have := HL1.out; omega
      clear HTk
      go_upto_region 5 with fail
      obtain ⟨W2, hW2⟩ : ∃ v, v = wr.alloc (Obj.cells #[.int .i64 t.kind, .int .i64 t.at', .string ⟨t.text.toArray⟩] 39) := ⟨_, rfl⟩
      have P2 : Hid (WrP W0.heap.size W0.heap.size (joinT (x.1.take k)) W1 W2) := by unfold Hid; rw [hW2]; exact hP.out.alloc hBB.out _
      have Q2 : Hid (W2.heap[wr.heap.size]? = some (.cells #[.int .i64 t.kind, .int .i64 t.at', .string ⟨t.text.toArray⟩] 39 (0, 0))) := by unfold Hid; rw [hW2]; exact obj_new _ _ _
      have hbr : W0.heap.size < wr.heap.size := hP.out.is.ge.2
      rw [← hW2]
      clear hW2 hP k1 k2 k3
      have hB2 : W0.heap.size ≤ W2.heap.size := Nat.le_trans hBB.out P2.out.be.size
      have tail : Hid (∀ (pre : List UInt8) (W : World), WrP W0.heap.size W0.heap.size pre W1 W → pre ++ wTok t = joinT (x.1.take (k + 1)) →
          Calls Try.prog 15 #[.pointer (some ⟨W0.heap.size, 0, none⟩), .string ⟨(wTok t).toArray⟩] W fun e w' => e = .returned (.tuple #[.int .i64 (wTok t).length, .nilIface]) ∧ WrP W0.heap.size W0.heap.size (joinT (x.1.take (k + 1))) W1 w') := by
        intro pre W hW hpre
        refine (writeS W0.heap.size W0.heap.size pre (wTok t) W hW.is ?_ (Nat.le_trans hBB.out hW.be.size)).mono ?_
        · have := HPre.out
          rw [← hpre] at this
          simp only [List.length_append] at this ⊢
          omega
        · rintro e w' ⟨rfl, hw'⟩
          refine ⟨rfl, ?_⟩
          rw [← hpre]
          exact hW.trans hw'
      by_cases h0 : k = 0
      · have hkz : (0 < k) = False := eq_false (by omega)
        have HJ2 : Hid (joinT (x.1.take k) ++ wTok t = joinT (x.1.take (k + 1))) := by unfold Hid; rw [HJ.out, if_pos h0, h0]; rfl
        have d0 : W2.cell? ⟨wr.heap.size, 0, none⟩ = some (.int .i64 t.kind) := by rw [Lib.cell_of_heap Q2.out]; rfl
        have d1 : W2.cell? ⟨wr.heap.size, 1, none⟩ = some (.int .i64 t.at') := by rw [Lib.cell_of_heap Q2.out]; rfl
        have d2 : W2.cell? ⟨wr.heap.size, 2, none⟩ = some (.string ⟨t.text.toArray⟩) := by rw [Lib.cell_of_heap Q2.out]; rfl
        have hdl : wr.heap.size < W2.heap.size := World.block_lt_of_cell? W2 _ d0
        clear h0 HJ
        go_wp2_with fail
        refine (written_any t W2 htl.out).mono ?_
        rintro e w3 ⟨rfl, hw3⟩
        have P3 : Hid (WrP W0.heap.size W0.heap.size (joinT (x.1.take k)) W1 w3) := by unfold Hid; rw [hw3]; exact P2.out.alloc hBB.out _
        clear hw3 P2 Q2 d0 d1 d2 hdl
        go_wp2_with fail
        refine (tail.out _ w3 P3.out HJ2.out).mono ?_
        rintro e w4 ⟨rfl, P4⟩
        have P4 := hide P4
        clear P3 tail HJ2
        go_wp2_with fail
        exact ⟨⟨k + 1, by omega, by go_num, P4⟩, by simp [intOf]; omega⟩
      · have hkz : (0 < k) = True := eq_true (by omega)
        have HJ2 : Hid ((joinT (x.1.take k) ++ [32]) ++ wTok t = joinT (x.1.take (k + 1))) := by unfold Hid; rw [HJ.out, if_neg h0]; simp
        have HL32 : Hid (((joinT (x.1.take k)) ++ [32]).length < 4294967281) := by
          unfold Hid
          have := HPre.out
          rw [← HJ2.out] at this
          simp only [List.length_append] at this ⊢
          omega
        clear h0 HJ
        go_wp2_with fail
        refine (writeS W0.heap.size W0.heap.size (joinT (x.1.take k)) [32] W2 P2.out.is HL32.out hB2).mono ?_
        rintro e w5 ⟨rfl, P5'⟩
        have P5 : Hid (WrP W0.heap.size W0.heap.size (joinT (x.1.take k) ++ [32]) W1 w5) := P2.out.trans P5'
        have Q5 := hide (kept_obj P5'.ok Q2.out (by omega) (by decide))
        have d0 : w5.cell? ⟨wr.heap.size, 0, none⟩ = some (.int .i64 t.kind) := by rw [Lib.cell_of_heap Q5.out]; rfl
        have d1 : w5.cell? ⟨wr.heap.size, 1, none⟩ = some (.int .i64 t.at') := by rw [Lib.cell_of_heap Q5.out]; rfl
        have d2 : w5.cell? ⟨wr.heap.size, 2, none⟩ = some (.string ⟨t.text.toArray⟩) := by rw [Lib.cell_of_heap Q5.out]; rfl
        have hdl : wr.heap.size < w5.heap.size := World.block_lt_of_cell? w5 _ d0
        clear P5' P2 Q2 HL32
        go_wp2_with fail
        refine (written_any t w5 htl.out).mono ?_
        rintro e w3 ⟨rfl, hw3⟩
        have P3 : Hid (WrP W0.heap.size W0.heap.size (joinT (x.1.take k) ++ [32]) W1 w3) := by unfold Hid; rw [hw3]; exact P5.out.alloc hBB.out _
        clear hw3 P5 Q5 d0 d1 d2 hdl
        go_wp2_with fail
        refine (tail.out _ w3 P3.out HJ2.out).mono ?_
        rintro e w4 ⟨rfl, P4⟩
        have P4 := hide P4
        clear P3 tail HJ2
        go_wp2_with fail
        exact ⟨⟨k + 1, by omega, by go_num, P4⟩, by simp [intOf]; omega⟩
    · have hlI : ¬ (k : Int) < (x.1.length : Int) := by omega
      obtain rfl : k = x.1.length := by omega
      have P2 : Hid (WrP W0.heap.size W0.heap.size (joinT x.1) W1 wr) := by unfold Hid; have := hP.out; rwa [List.take_length] at this
      clear hP hk
      go_wp2_with fail
      refine (Try.Builder_String_any W0.heap.size W0.heap.size (joinT x.1) wr P2.out.is (Nat.le_trans hBB.out P2.out.be.size)).mono ?_
      rintro e w3 ⟨rfl, hb3⟩
      have HB : Hid (Below w.heap.size w w3) := (BW.out.trans (P2.out.be.mono (Nat.le_of_lt hwB))).trans (hb3.mono (Nat.le_of_lt hwB))
      clear P2 hb3 BW
      go_wp2_with fail
      go_ret
      exact ⟨rfl, HB.out⟩
end Go.Proofs.Ytcmmjmgbanafgaa

/- The walk over tree.reader's file. -/
namespace Go.Proofs.Ytcmmjmgbanafgaa
open Go.RowKit Go.Proofs.Url Go.Proofs.Url.Syn

theorem size_alloc1 (w : World) (o : Obj) : (w.alloc o).heap.size = w.heap.size + 1 := by simp
theorem cell_next (w : World) (v : Value) (t : TypeId) : (w.alloc (Obj.cells #[v] t)).cell? ⟨w.heap.size, 0, none⟩ = some v := by rw [World.cell?_alloc_new]; rfl
theorem frozen_next (w : World) (o : Obj) (v : Value) (t : TypeId) : ((w.alloc (Obj.cells #[v] t)).alloc o).frozen? ⟨w.heap.size, 0, none⟩ = false := by
  have e : ((w.alloc (Obj.cells #[v] t)).alloc o).heap[w.heap.size]? = (w.alloc (Obj.cells #[v] t)).heap[w.heap.size]? := ((Below.refl _ (w.alloc (Obj.cells #[v] t))).alloc (Nat.le_refl _) o).block _ (by simp)
  unfold World.frozen?
  simp only [e]
  have := World.frozen?_alloc_new w #[v] t 0
  unfold World.frozen? at this
  exact this
theorem set_two {xs : List Value} {k : Nat} (h : xs.length = k) {a b c d : Value} : ((xs ++ [a, b]).set k c).set (k + 1) d = xs ++ [c, d] := by
  subst h
  simp
set_option maxHeartbeats 4000000 in
set_option maxRecDepth 100000 in
theorem file_any (g : Nat) (ao : Option Addr) (cap : Nat) (ts : List Tk) (n : Nat) (w : World) (h : RS w g ao cap ts ts n) (ht : TokOk ts) (hl : ts.length < 4294967281) :
    Calls Try.prog 26 #[.pointer (some ⟨g, 0, none⟩)] w fun e w' => FilePost ts n g w e w' := by
  have hmf : ∀ (fn : Fn) (first cap : Array Value) (w : World), (Instr.makeFunc fn first cap).run Try.prog w = .ok (.func fn first cap) w := fun _ _ _ _ => rfl
  have HIF := hide (fun r W (a : RS W g ao cap ts r n) => item_any g ao cap ts r n W a ht hl)
  have hgw := h.lt
  have HL := hide hl
  have HS := hide h
  obtain ⟨i0, hi, hz0, hz1, hz2⟩ := info_parts infoN
  have HI := hide hi
  have HZ0 := hide hz0
  have HZ1 := hide hz1
  have HZ2 := hide hz2
  clear h hl ht hi hz0 hz1 hz2
  go_enter_defers Try.func26, Try.ntmps26
  go_upto_region 1 with fail
  obtain ⟨W0, hW0⟩ : ∃ x, x = ((w.alloc (Obj.cells #[.pointer (some ⟨g, 0, none⟩)] 73)).alloc (Obj.cells #[.slice none 0 0] 43)).alloc (Obj.cells #[.int .i64 0, .int .i64 0] 25) := ⟨_, rfl⟩
  have b0 : Below w.heap.size w W0 := by rw [hW0]; exact (((Below.refl _ _).alloc (Nat.le_refl _) _).alloc (by simp) _).alloc (by simp; omega) _
  have F0 : Hid (FB W0 w.heap.size g (.slice none 0 0) 0 0) := by
    unfold Hid; rw [hW0]
    refine ⟨?_, ?_, ?_, ?_⟩
    · rw [World.cell?_alloc_past _ _ _ (by simp; omega), World.cell?_alloc_past _ _ _ (by simp), World.cell?_alloc_new]; rfl
    · rw [World.cell?_alloc_past _ _ _ (by simp)]
      have := cell_next (w.alloc (Obj.cells #[.pointer (some ⟨g, 0, none⟩)] 73)) (.slice none 0 0) 43
      rwa [size_alloc1] at this
    · have := frozen_next (w.alloc (Obj.cells #[.pointer (some ⟨g, 0, none⟩)] 73)) (Obj.cells #[.int .i64 0, .int .i64 0] 25) (.slice none 0 0) 43
      rwa [size_alloc1] at this
    · have := WB.new ((w.alloc (Obj.cells #[.pointer (some ⟨g, 0, none⟩)] 73)).alloc (Obj.cells #[.slice none 0 0] 43)) 0 0 25
      simpa using this
  have S0 := hide (HS.out.keep b0)
  have B0 := hide (ButP.of (g := g) b0)
  rw [← hW0]
  clear hW0 b0 HS
  go_wp2_with fail
  go_loopw [] (fun W => ∃ (kk : Nat) (acc : List Itm) (ns : List Nd) (xs : List Value) (r' : List Tk) (a2 : Option Addr) (cv : Nat), r'.length ≤ kk ∧ ns.length + r'.length ≤ ts.length ∧ Hid (itemsF (ts.length + 1) ts = (itemsF (kk + 1) r').map (fun x => acc ++ x)) ∧ Hid (ShIs (Fo.ofL ns) acc) ∧
    Hid (FB W w.heap.size g (.slice a2 ns.length cv) 0 0) ∧ Hid (RS W g ao cap ts r' n) ∧ Hid (ButP g w W) ∧ Hid (W.ownsRow (w.heap.size + 3) 51 2 (.slice a2 ns.length cv) ns.length xs) ∧ Hid (RowN W (KR (w.heap.size + 2) W a2) ns xs)) (fun W => leftR W g ts.length)
  case atStart => exact ⟨ts.length, [], [], [], ts, none, 0, Nat.le_refl _, by simp, by unfold Hid; rw [map_idq], trivial, F0, S0, B0, World.ownsRow_nil _ _ _ _, rfl⟩
  case round =>
    obtain ⟨kk, acc, ns, xs, r', a2, cv, hkk, hnl, hE, hA, hF, hS, hB, hO, hX⟩ := hrel
    clear F0 S0 B0
    have hrl : Hid (leftR wr g ts.length = r'.length) := hS.out.left
    have x0 := hF.out.c0
    have hfl := hF.out.lt
    have BD := hide (fun k => below_drewP wr k)
    cases r' with
    | nil =>
      have RB0 := hS.out.nil
      have c0 := RB0.c0
      have c1 := RB0.c1
      have hgl : g < wr.heap.size := RB0.lt
      have hlI : ¬ (ts.length : Int) < (ts.length : Int) := by omega
      have HX : Hid (itemsF (ts.length + 1) ts = .ok acc []) := by unfold Hid; rw [hE.out, items_nil]; simp [Rd.map]
      clear RB0 hE
      go_wp2_with fail
      go_quiet (fail)
      have bd := BD.out nq
      obtain ⟨W4, hW4⟩ : ∃ x, x = wr.drewN nq := ⟨_, rfl⟩
      rw [← hW4] at bd ⊢
      have F4 := hide (hF.out.keep (KeptIn.below bd (by omega) _))
      have B4 := hide (hB.out.trans (ButP.of bd))
      have O4 := hide (ownsq_kept hO.out (KeptIn.below bd (Nat.le_refl _) _))
      have X4 : Hid (RowN W4 (KR (w.heap.size + 2) W4 a2) ns xs) := (hX.out.keep (KeptIn.belowK bd fun _ k => k.2.1)).sub fun _ k => ⟨k.1, Nat.lt_of_lt_of_le k.2.1 bd.size, k.2.2⟩
      clear hF hS hB hO hX bd hW4 BD x0 c0 c1 hfl hgl
      have x1 := F4.out.c1
      have f1 := F4.out.f1
      have d0 : W4.cell? ⟨w.heap.size + 1 + 1, 0, none⟩ = some (.int .i64 0) := F4.out.wb.c0
      have d1 : W4.cell? ⟨w.heap.size + 1 + 1, 1, none⟩ = some (.int .i64 0) := F4.out.wb.c1
      have e0 : W4.frozen? ⟨w.heap.size + 1 + 1, 0, none⟩ = false := F4.out.wb.fr 0 (by decide)
      have e1 : W4.frozen? ⟨w.heap.size + 1 + 1, 1, none⟩ = false := F4.out.wb.fr 1 (by decide)
      have hf4 : w.heap.size + 1 + 1 < W4.heap.size := F4.out.lt
      obtain ⟨W5, hW5⟩ : ∃ x, x = put2 (W4.setCell ⟨w.heap.size + 1, 0, none⟩ (.slice a2 ns.length cv)) (w.heap.size + 1 + 1) 0 0 := ⟨_, rfl⟩
      have FF : Hid (FB W5 w.heap.size g (.slice a2 ns.length cv) 0 0) := by unfold Hid; rw [hW5]; exact (F4.out.set (.slice a2 ns.length cv)).put 0 0
      have BF : Hid (ButP g w W5) := by unfold Hid; rw [hW5]; exact But.trans B4.out (But.below (put2_below ((Below.refl w.heap.size W4).setCell (p := ⟨w.heap.size + 1, 0, none⟩) (by show w.heap.size ≤ w.heap.size + 1; omega) _) _ (by omega) _ _))
      have s5 : Hid (W5.heap.size = W4.heap.size) := by unfold Hid; rw [hW5]; unfold put2; rw [size_set, size_set, size_set]
      have k5 : ∀ (K : Nat → Prop), (∀ b, K b → w.heap.size + 2 < b) → KeptIn K W4 W5 := fun K hK => by
        rw [hW5]
        exact (KeptIn.setK (fun k => by have := hK _ k; omega)).trans ((KeptIn.setK (fun k => by have := hK _ k; omega)).trans (KeptIn.setK (fun k => by have := hK _ k; omega)))
      have NN : Hid (FA W5 (In w.heap.size W5.heap.size) a2 (Fo.ofL ns)) := by
        by_cases hn0 : ns = []
        · rw [hn0]; exact .inl rfl
        · have hpos : 0 < ns.length := List.length_pos_iff.2 hn0
          obtain ⟨q, rfl, hq1, hq2, hqc⟩ := owns_cells (ownsq_kept O4.out (k5 _ fun b k => by have := k.1; omega)) hpos
          refine .inr ⟨q, rfl, ⟨by omega, hq2⟩, ?_⟩
          exact ((X4.out.keep (k5 _ fun b k => by have := k.1; omega)).fc (k := 0) (fun j v hj => by rw [Nat.zero_mul, Nat.zero_add]; exact hqc j v hj)).sub fun b k => ⟨by have := k.1; omega, by have := k.2.1; have := s5.out; omega⟩
      have HW5 := hide hW5
      unfold put2 at HW5
      clear hW5 k5 F4 B4 O4 X4 s5
      go_wp2_with fail
      rw [← HW5.out]
      refine leaves_cons (f := 51) (args := #[.pointer (some ⟨w.heap.size, 0, none⟩), .pointer (some ⟨w.heap.size + 1, 0, none⟩), .pointer (some ⟨w.heap.size + 2, 0, none⟩)]) (by simp) (by simp [go_sem]) ?_
      refine (catch_idle w.heap.size W5).mono ?_
      rintro e u' w'' ⟨rfl, rfl, rfl⟩
      refine ⟨_, resReadFile FF.out ⟨_, _, _, rfl⟩ rfl rfl, ?_⟩
      have := FilePost.ok (n := n) (c := cv) HX.out BF.out NN.out hA.out
      rw [Fo.ofL_len] at this
      exact this
    | cons t r' =>
      obtain ⟨i, b, hit, hd, rfl, hbg, RB0, k1, k2, k3⟩ := hS.out.cell
      have c0 := RB0.c0
      have c1 := RB0.c1
      have hgl : g < wr.heap.size := RB0.lt
      have hlI : (i : Int) < (ts.length : Int) := by omega
      have HE2 : Hid (itemsF (ts.length + 1) ts = ((itemR (t :: r')).then fun x r' => (itemsF kk r').map fun l => x :: l).map (fun x => acc ++ x)) := by unfold Hid; rw [hE.out, items_succ]
      clear RB0 hE hd k1 k2 k3 hit
      go_wp2_with fail
      go_quiet (fail)
      have bd := BD.out nq
      obtain ⟨W4, hW4⟩ : ∃ x, x = wr.drewN nq := ⟨_, rfl⟩
      rw [← hW4] at bd ⊢
      have F4 := hide (hF.out.keep (KeptIn.below bd (by omega) _))
      have S4 := hide (hS.out.keep bd)
      have B4 := hide (hB.out.trans (ButP.of bd))
      have O4 := hide (ownsq_kept hO.out (KeptIn.below bd (Nat.le_refl _) _))
      have X4 : Hid (RowN W4 (KR (w.heap.size + 2) W4 a2) ns xs) := (hX.out.keep (KeptIn.belowK bd fun _ k => k.2.1)).sub fun _ k => ⟨k.1, Nat.lt_of_lt_of_le k.2.1 bd.size, k.2.2⟩
      have hf4 := F4.out.lt
      have hg4 := S4.out.lt
      clear hF hS hB hO hX bd hW4 BD x0 c0 c1 hfl hgl
      go_upto_region 3 with fail
      have IF : Hid ((Try.prog.info? 51).map (·.size) = some 2) := by unfold Hid; kernel_rfl
      cases hx : itemR (t :: r') with
      | bad r3 =>
          have HX : Hid (itemsF (ts.length + 1) ts = .bad r3) := by unfold Hid; rw [HE2.out, hx]; rfl
          have HCall : Hid (∀ W, RS W g (some ⟨b, 0, none⟩) cap ts (t :: r') n → Calls Try.prog 53 #[.pointer (some ⟨g, 0, none⟩)] W fun e w' => ButP g W w' ∧ e = .panicked stuckE ∧ RS w' g (some ⟨b, 0, none⟩) cap ts r3 n) := fun W a => by
            have := HIF.out (t :: r') W a; rw [hx] at this; exact this
          clear hx HE2 O4 X4 hA
          refine RP.wp_region_posts_upto (X := fun ch W => ch = stuckE ∧ ButP g W4 W ∧ RS W g (some ⟨b, 0, none⟩) cap ts r3 n) (l := [_, _, _, _, _]) (rest := [_, _, _, _]) rfl (by kernel_rfl) (RC4 W4 g (some ⟨b, 0, none⟩) cap ts (t :: r') (t :: r') n 2) (fun _ W W' => ButP g W W')
            [some 15, some 16, some 17, some 18, some 19] [some 20, some 21, none, none] [[], [], [1], [0], [], [0, 1, 2, 3, 4], [0, 1, 2, 3, 4, 5], [0, 1, 2, 3, 4, 5, 6], [0, 1, 2, 3, 4, 5]]
            [fun v _ => v = .slice a2 ns.length cv, fun v _ => v = .pointer (some ⟨g, 0, none⟩), fun _ _ => False, fun v _ => v = .int .i64 ns.length, fun v W => ZeroP W4.heap.size v W]
            ?_ rfl rfl (by kernel_rfl) (by kernel_rfl) (by kernel_rfl) (by kernel_rfl) (by kernel_rfl) ?_ ?_ ?_ ?_
          · intro ch A W hs hd ho hx
            obtain ⟨rfl, BW, SW⟩ := hx
            have FW := F4.out.keep (KeptIn.but BW (by omega) (by omega))
            show Leaves Try.prog Try.f26 A.tmps _ A.defers (.panicking stuckE) W
            rw [hd]
            refine leaves_cons (f := 51) (args := #[.pointer (some ⟨w.heap.size, 0, none⟩), .pointer (some ⟨w.heap.size + 1, 0, none⟩), .pointer (some ⟨w.heap.size + 2, 0, none⟩)]) (by simp) (by simp [go_sem]) ?_
            refine (catch_panicking w.heap.size g _ cap ts r3 n _ 0 0 _ _ [] W FW SW).mono ?_
            rintro e u' w'' ⟨rfl, rfl, FF, BB⟩
            refine ⟨_, resReadFile FF ⟨_, _, _, rfl⟩ (by rw [ho 2 (by decide)]; rfl) (by rw [ho 3 (by decide)]; rfl), ?_⟩
            exact FilePost.bad HX.out (But.trans (B4.out.trans BW) (But.below BB))
          · refine .eq (.eq (.cons (fun _ _ _ _ _ _ _ h => h) (.eq (.cons ?_ .nil))))
            rintro i v W W' h1 h2 hk ⟨z, e, hz, hc⟩
            refine ⟨z, e, hz, fun j u hj => ?_⟩
            have hlt := World.block_lt_of_cell? W _ (hc j u hj)
            rw [hk.cell (p := ⟨z, 0 + j, none⟩) hlt (by show z ≠ g; omega)]; exact hc j u hj
          · intro L hL
            exact RC4.none S4.out (hL 2)
          · refine .cons ?_ (.cons ?_ (.cons ?_ (.cons ?_ (.cons ?_ .nil))))
            all_goals (intro L A W hLi hC old nd)
            all_goals (refine RP.runs_none rfl ?_)
            · have e2 : (A.tmps[2]?).getD undef = .pointer (some ⟨w.heap.size + 1, 0, none⟩) := old 2 (by kernel_rfl)
              have x1 := (F4.out.keep (KeptIn.but hC.bt (by omega) (by omega))).c1
              simp [RP.Oper.gives, RP.gives, go_sem, e2, x1]
              exact ⟨hC.same (by decide) (Below.refl _ _), But.refl _ _ _, rfl⟩
            · have e1 : (A.tmps[1]?).getD undef = .pointer (some ⟨w.heap.size, 0, none⟩) := old 1 (by kernel_rfl)
              have x0 := (F4.out.keep (KeptIn.but hC.bt (by omega) (by omega))).c0
              simp [RP.Oper.gives, RP.gives, go_sem, e1, x0]
              exact ⟨hC.same (by decide) (Below.refl _ _), But.refl _ _ _, rfl⟩
            · have e16 : (A.tmps[16]?).getD undef = .pointer (some ⟨g, 0, none⟩) := nd.1
              have S := hC.rs
              rw [hLi] at S
              simp [RP.Oper.gives, RP.gives, go_sem, e16]
              refine (HCall.out W S).mono fun e W' h => ?_
              exact ⟨_, h.2.1, rfl, hC.bt.trans h.1, h.2.2⟩
            · have e15 : (A.tmps[15]?).getD undef = .slice a2 ns.length cv := nd.1
              simp [RP.Oper.gives, RP.gives, go_sem, e15]
              exact ⟨hC.same (by decide) (Below.refl _ _), But.refl _ _ _, rfl⟩
            · simp [RP.Oper.gives, RP.gives, go_sem]
              have bb : Below W.heap.size W (W.alloc (Obj.cells #[.slice none 0 0, .slice none 0 0] 51)) := (Below.refl _ _).alloc (Nat.le_refl _) _
              refine ⟨hC.same (by decide) bb, ButP.of bb, ⟨W.heap.size, rfl, hC.bt.size, fun j u hj => ?_⟩⟩
              rw [World.cell?_alloc_new, Nat.zero_add]; simpa using hj
          · intro L W hall hC E hE
            exact .cons fun v1 h1 => .cons fun v2 h2 => .cons fun v3 h3 => h3.elim
      | ok y r3 =>
          have hsh := item_shortq hx
          have HCall : Hid (∀ W, RS W g (some ⟨b, 0, none⟩) cap ts (t :: r') n → Calls Try.prog 53 #[.pointer (some ⟨g, 0, none⟩)] W fun e w' => ButP g W w' ∧ ∃ (y2 : Nd) (p1 : Option Addr) (q1 : Nat) (p2 : Option Addr) (q2 : Nat), e = .returned (.agg #[.slice p1 y2.1.length q1, .slice p2 y2.2.len q2]) ∧ NA w' (In W.heap.size w'.heap.size) p1 p2 y2 ∧ ShI y2 y ∧ RS w' g (some ⟨b, 0, none⟩) cap ts r3 n) := fun W a => by
            have := HIF.out (t :: r') W a; rw [hx] at this; exact this
          obtain ⟨k', rfl⟩ : ∃ k, kk = k + 1 := ⟨kk - 1, by simp at hkk; omega⟩
          have HE3 : Hid (itemsF (ts.length + 1) ts = (itemsF (k' + 1) r3).map (fun x => (acc ++ [y]) ++ x)) := by
            unfold Hid; rw [HE2.out, hx]
            simp only [Rd.then]
            rw [map_mapq]; congr 1; funext x; simp
          simp only [List.length_cons] at hkk hnl hsh hrl
          have hkk3 : r3.length ≤ k' := by omega
          have hl3 : Hid (r3.length < r'.length + 1) := hsh
          have hnl3 : ns.length + 1 + r3.length ≤ ts.length := by omega
          have HOB : Hid (∀ j, (Value.slice a2 ns.length cv).ownBlock = some j → w.heap.size + 3 ≤ j ∧ j < W4.heap.size ∧ a2 = some ⟨j, 0, none⟩) := by
            intro j hj
            rcases O4.out.2 with ⟨hv, _⟩ | ⟨q, c, cur, hv, hq1, hh, _⟩
            · rw [hv] at hj; cases hj
            · have hlt : q < W4.heap.size := by
                rcases Nat.lt_or_ge q W4.heap.size with h | h
                · exact h
                · rw [Array.getElem?_eq_none h] at hh; cases hh
              simp only [Value.slice.injEq] at hv
              obtain ⟨rfl, _, _⟩ := hv
              cases hj
              exact ⟨hq1, hlt, rfl⟩
          have f3 : Hid (ns.length + 1 ≤ maxLen) := by unfold Hid maxLen; have := HL.out; omega
          have f4 : Hid ((ns.length + 1) * 48 ≤ 140737488355328) := by unfold Hid; have := HL.out; omega
          have hnI : (ns.length : Int) < 4294967281 := by have := HL.out; omega
          clear hx HE2 hsh hkk hnl
          refine RP.wp_region_posts_upto (X := fun _ _ => False) (l := [_, _, _, _, _]) (rest := [_, _, _, _]) rfl (by kernel_rfl) (RC4 W4 g (some ⟨b, 0, none⟩) cap ts (t :: r') r3 n 2) (fun _ W W' => ButP g W W')
            [some 15, some 16, some 17, some 18, some 19] [some 20, some 21, none, none] [[], [], [1], [0], [], [0, 1, 2, 3, 4], [0, 1, 2, 3, 4, 5], [0, 1, 2, 3, 4, 5, 6], [0, 1, 2, 3, 4, 5]]
            [fun v _ => v = .slice a2 ns.length cv, fun v _ => v = .pointer (some ⟨g, 0, none⟩), fun v W => ItmP W4.heap.size y v W, fun v _ => v = .int .i64 ns.length, fun v W => ZeroP W4.heap.size v W]
            (fun _ _ _ _ _ _ h => h.elim) rfl rfl (by kernel_rfl) (by kernel_rfl) (by kernel_rfl) (by kernel_rfl) (by kernel_rfl) ?_ ?_ ?_ ?_
          · refine .eq (.eq (.cons ?_ (.eq (.cons ?_ .nil))))
            · rintro i v W W' h1 h2 hk ⟨y2, p1, q1, p2, q2, e, hn, hs⟩
              exact ⟨y2, p1, q1, p2, q2, e, (hn.keep (KeptIn.but hk (by omega) (Nat.le_refl _))).mono (Nat.le_refl _) hk.size, hs⟩
            rintro i v W W' h1 h2 hk ⟨z, e, hz, hc⟩
            refine ⟨z, e, hz, fun j u hj => ?_⟩
            have hlt := World.block_lt_of_cell? W _ (hc j u hj)
            rw [hk.cell (p := ⟨z, 0 + j, none⟩) hlt (by show z ≠ g; omega)]; exact hc j u hj
          · intro L hL
            exact RC4.none S4.out (hL 2)
          · refine .cons ?_ (.cons ?_ (.cons ?_ (.cons ?_ (.cons ?_ .nil))))
            all_goals (intro L A W hLi hC old nd)
            all_goals (refine RP.runs_none rfl ?_)
            · have e2 : (A.tmps[2]?).getD undef = .pointer (some ⟨w.heap.size + 1, 0, none⟩) := old 2 (by kernel_rfl)
              have x1 := (F4.out.keep (KeptIn.but hC.bt (by omega) (by omega))).c1
              simp [RP.Oper.gives, RP.gives, go_sem, e2, x1]
              exact ⟨hC.same (by decide) (Below.refl _ _), But.refl _ _ _, rfl⟩
            · have e1 : (A.tmps[1]?).getD undef = .pointer (some ⟨w.heap.size, 0, none⟩) := old 1 (by kernel_rfl)
              have x0 := (F4.out.keep (KeptIn.but hC.bt (by omega) (by omega))).c0
              simp [RP.Oper.gives, RP.gives, go_sem, e1, x0]
              exact ⟨hC.same (by decide) (Below.refl _ _), But.refl _ _ _, rfl⟩
            · have e16 : (A.tmps[16]?).getD undef = .pointer (some ⟨g, 0, none⟩) := nd.1
              have S := hC.rs
              rw [hLi] at S
              simp [RP.Oper.gives, RP.gives, go_sem, e16]
              refine (HCall.out W S).mono fun e W' h => ?_
              obtain ⟨BB, y2, p1, q1, p2, q2, rfl, hn, hs, S2⟩ := h
              refine ⟨_, rfl, ⟨hC.bt.trans BB, ?_⟩, BB, ⟨y2, p1, q1, p2, q2, rfl, hn.mono hC.bt.size (Nat.le_refl _), hs⟩⟩
              rw [RP.also_self]; exact S2
            · have e15 : (A.tmps[15]?).getD undef = .slice a2 ns.length cv := nd.1
              simp [RP.Oper.gives, RP.gives, go_sem, e15]
              exact ⟨hC.same (by decide) (Below.refl _ _), But.refl _ _ _, rfl⟩
            · simp [RP.Oper.gives, RP.gives, go_sem]
              have bb : Below W.heap.size W (W.alloc (Obj.cells #[.slice none 0 0, .slice none 0 0] 51)) := (Below.refl _ _).alloc (Nat.le_refl _) _
              refine ⟨hC.same (by decide) bb, ButP.of bb, ⟨W.heap.size, rfl, hC.bt.size, fun j u hj => ?_⟩⟩
              rw [World.cell?_alloc_new, Nat.zero_add]; simpa using hj
          · intro L W hall hC E hE
            refine .cons fun v1 h1 => .cons fun v2 h2 => .cons fun v3 h3 => .cons fun v4 h4 => .cons fun v5 h5 => .nil ?_
            obtain ⟨y2, p1, q1, p2, q2, rfl, hn, hs⟩ := h3
            obtain ⟨z, rfl, hz, hc⟩ := h5
            subst h1
            subst h2
            subst h4
            have S8 := hC.rs
            rw [hall 2 (by decide)] at S8
            have hW := hC.bt.size
            have F8 := hide (F4.out.keep (KeptIn.but hC.bt (by omega) (by omega)))
            have S8 := hide S8
            have B8 := hide (B4.out.trans hC.bt)
            have O8 := hide (ownsq_kept O4.out (KeptIn.but hC.bt (by omega) (Nat.le_refl _)))
            have X8 : Hid (RowN W (KR (w.heap.size + 2) W4 a2) ns xs) := X4.out.keep (KeptIn.butK hC.bt (fun k => by have := k.1; omega) fun _ k => k.2.1)
            have HN := hide hn
            have HC := hide hc
            have HA2 := hide (shIs_snoc hA.out hs)
            clear S4 B4 O4 X4 hn hs hc hC hA HCall
            simp only [Act.put, List.setIfInBounds_toArray, List.set_cons_zero, List.set_cons_succ]
            refine hE _ ?_
            refine RP.wpAny_one (i := 5) (by kernel_rfl) (RP.wpOp_of rfl rfl ?_)
            refine RP.gives_append (.tmp 15) (.tmp 19) 43 rfl (w.heap.size + 3) 51 i0 _ 2 48 Try.underlying43 HI.out HZ0.out HZ1.out HZ2.out rfl (by decide) (.slice a2 ns.length cv) ns.length xs rfl O8.out ⟨z, 0, none⟩ 1 [.slice none 0 0, .slice none 0 0] rfl rfl (fun j u hj => by rw [Addr.add_mid]; exact HC.out j u hj) (one2 _ _ rfl rfl) f3.out f4.out (by omega) ?_
            intro q c6 w5 hown hgrow hwh
            have b5 : Below (w.heap.size + 3) W w5 := Below.grown (Below.refl _ _) hgrow (by omega) (fun j hj => (HOB.out j hj).1)
            have F5 := hide (F8.out.keep (KeptIn.below b5 (Nat.le_refl _) _))
            have S5 := hide (S8.out.keepB b5 (by omega))
            have B5 : Hid (ButP g w w5) := But.trans B8.out (But.below (b5.mono (by omega)))
            have X5 : Hid (RowN w5 (KR (w.heap.size + 2) W4 a2) ns xs) := X8.out.keep fun k hk => hgrow.block k (by have := hk.2.1; omega) (fun e => hk.2.2 (HOB.out k e.symm).2.2)
            have N5 : Hid (NA w5 (In W4.heap.size W.heap.size) p1 p2 y2) := HN.out.keep fun k hk => hgrow.block k hk.2 (fun e => by have := HOB.out k e.symm; have := hk.1; omega)
            have HQ1 : Hid (∀ k, KR (w.heap.size + 2) W4 a2 k → k ≠ q) := fun k hk e => by
              rcases hwh with h | h
              · have := HOB.out q h; exact hk.2.2 (by rw [e]; exact this.2.2)
              · have := hk.2.1; omega
            have HQ2 : Hid (∀ k, In W4.heap.size W.heap.size k → k ≠ q) := fun k hk e => by
              rcases hwh with h | h
              · have := HOB.out q h; have := hk.1; omega
              · have := hk.2; omega
            have hqb : w.heap.size + 3 ≤ q := by
              rcases hwh with h | h
              · exact (HOB.out q h).1
              · omega
            have hql : q < w5.heap.size := by
              have := (owns_cells hown (by omega))
              obtain ⟨q', e, _, h2, _⟩ := this
              cases e; exact h2
            have h5s : W.heap.size ≤ w5.heap.size := hgrow.size
            have TH := hide (owns_there hown ns.length (by omega))
            have hlen : (ns ++ [y2]).length = ns.length + 1 := by simp
            have HOW := hide hown
            have hxl : Hid (xs.length = ns.length * 2) := X5.out.len
            have HFin : Hid (∀ W', FB W' w.heap.size g (.slice (some ⟨q, 0, none⟩) (ns.length + 1) c6) 0 0 → RS W' g (some ⟨b, 0, none⟩) cap ts r3 n → ButP g w W' → W'.ownsRow (w.heap.size + 3) 51 2 (.slice (some ⟨q, 0, none⟩) (ns.length + 1) c6) (ns.length + 1) (xs ++ [.slice p1 y2.1.length q1, .slice p2 y2.2.len q2]) → KeptIn (fun k => k ≠ q ∧ k ≠ w.heap.size + 1) w5 W' → W'.heap.size = w5.heap.size →
                (∃ (kk : Nat) (acc : List Itm) (ns : List Nd) (xs : List Value) (r' : List Tk) (a2 : Option Addr) (cv : Nat), r'.length ≤ kk ∧ ns.length + r'.length ≤ ts.length ∧ Hid (itemsF (ts.length + 1) ts = (itemsF (kk + 1) r').map (fun x => acc ++ x)) ∧ Hid (ShIs (Fo.ofL ns) acc) ∧
                  Hid (FB W' w.heap.size g (.slice a2 ns.length cv) 0 0) ∧ Hid (RS W' g (some ⟨b, 0, none⟩) cap ts r' n) ∧ Hid (ButP g w W') ∧ Hid (W'.ownsRow (w.heap.size + 3) 51 2 (.slice a2 ns.length cv) ns.length xs) ∧ Hid (RowN W' (KR (w.heap.size + 2) W' a2) ns xs)) ∧ leftR W' g ts.length < leftR wr g ts.length) := by
              intro W' hF hS hB hO hK hsz
              refine ⟨⟨k', acc ++ [y], ns ++ [y2], _, r3, some ⟨q, 0, none⟩, c6, hkk3, by rw [hlen]; exact hnl3, HE3, HA2, by unfold Hid; rw [hlen]; exact hF, hS, hB, by unfold Hid; rw [hlen]; exact hO, ?_⟩, by rw [hrl.out, hS.left]; exact hl3.out⟩
              refine RowN.snoc ((N5.out.keep (hK.sub fun k hk => ⟨HQ2.out k hk, by have := hk.1; omega⟩)).sub fun k hk => ⟨by have := hk.1; omega, by have := hk.2; omega, fun e => HQ2.out k hk (by cases e; rfl)⟩) ?_
              exact (X5.out.keep (hK.sub fun k hk => ⟨HQ1.out k hk, by have := hk.1; omega⟩)).sub fun k hk => ⟨hk.1, by have := hk.2.1; omega, fun e => HQ1.out k hk (by cases e; rfl)⟩
            clear F8 S8 B8 O8 X8 HN HC HA2 HE3 b5 hown hgrow hwh X5 N5 HQ1 HQ2 hl3 hkk3 hnl3 hrl HL
            simp only [Act.put, List.setIfInBounds_toArray]
            have x1 := F5.out.c1
            have f1 := F5.out.f1
            have hlt5 := F5.out.lt
            have hni : (ns.length : Int) < (ns.length : Int) + 1 := by omega
            have hqn : ¬ q = w.heap.size + 1 := by omega
            -- the element's two cells, then the items' own cell
            obtain ⟨w6, hw6⟩ : ∃ x, x = (w5.setCell ⟨q, ns.length * 2, none⟩ (.slice p1 y2.1.length q1)).setCell ⟨q, ns.length * 2 + 1, none⟩ (.slice p2 y2.2.len q2) := ⟨_, rfl⟩
            have k6 : KeptIn (fun k => k ≠ q) w5 w6 := by rw [hw6]; exact (KeptIn.setK (fun k => k rfl)).trans (KeptIn.setK (fun k => k rfl))
            have s6 : w6.heap.size = w5.heap.size := by rw [hw6, size_set, size_set]
            have F6 := hide (F5.out.keep (k6.sub fun k hk => by have := hk.2; omega))
            have HA := hide (F6.out.set (.slice (some ⟨q, 0, none⟩) (ns.length + 1) c6))
            have SA : Hid (RS (w6.setCell ⟨w.heap.size + 1, 0, none⟩ (.slice (some ⟨q, 0, none⟩) (ns.length + 1) c6)) g (some ⟨b, 0, none⟩) cap ts r3 n) := by
              unfold Hid; rw [hw6]; exact ((S5.out.set _ (by omega)).set _ (by omega)).set _ (by omega)
            have BA : Hid (ButP g w (w6.setCell ⟨w.heap.size + 1, 0, none⟩ (.slice (some ⟨q, 0, none⟩) (ns.length + 1) c6))) := by
              unfold Hid; rw [hw6]; exact ((B5.out.setq _ (by omega)).setq _ (by omega)).setq _ (by omega)
            have O6 : w6.ownsRow (w.heap.size + 3) 51 2 (.slice (some ⟨q, 0, none⟩) (ns.length + 1) c6) (ns.length + 1) (xs ++ [.slice p1 y2.1.length q1, .slice p2 y2.2.len q2]) := by
              have := ownsq_set (ownsq_set HOW.out (by omega) (ns.length * 2) (.slice p1 y2.1.length q1)) (by omega) (ns.length * 2 + 1) (.slice p2 y2.2.len q2)
              rw [set_two hxl.out] at this
              rw [hw6]; exact this
            have OA := hide (ownsq_kept O6 (KeptIn.set (n := w.heap.size + 1) (j := 0) (v := .slice (some ⟨q, 0, none⟩) (ns.length + 1) c6) (.inl (by omega))))
            have KA : Hid (KeptIn (fun k => k ≠ q ∧ k ≠ w.heap.size + 1) w5 (w6.setCell ⟨w.heap.size + 1, 0, none⟩ (.slice (some ⟨q, 0, none⟩) (ns.length + 1) c6))) := (k6.sub fun k hk => hk.1).trans (KeptIn.setK fun k => k.2 rfl)
            have FinA := hide (HFin.out _ HA.out SA.out BA.out OA.out KA.out (by rw [size_set, s6]))
            have y1 := F6.out.c1
            have g1 := F6.out.f1
            have hlt6 := F6.out.lt
            -- the items' own cell, then the element's
            obtain ⟨w7, hw7⟩ : ∃ x, x = w5.setCell ⟨w.heap.size + 1, 0, none⟩ (.slice (some ⟨q, 0, none⟩) (ns.length + 1) c6) := ⟨_, rfl⟩
            have s7 : w7.heap.size = w5.heap.size := by rw [hw7, size_set]
            have O7 : w7.ownsRow (w.heap.size + 3) 51 2 (.slice (some ⟨q, 0, none⟩) (ns.length + 1) c6) (ns.length + 1) (xs ++ [.slice none 0 0, .slice none 0 0]) := by
              rw [hw7]; exact ownsq_kept HOW.out (KeptIn.set (.inl (by omega)))
            have TH7 := hide (owns_there O7 ns.length (by omega))
            obtain ⟨w8, hw8⟩ : ∃ x, x = (w7.setCell ⟨q, ns.length * 2, none⟩ (.slice p1 y2.1.length q1)).setCell ⟨q, ns.length * 2 + 1, none⟩ (.slice p2 y2.2.len q2) := ⟨_, rfl⟩
            have FinB : Hid ((∃ (kk : Nat) (acc : List Itm) (ns : List Nd) (xs : List Value) (r' : List Tk) (a2 : Option Addr) (cv : Nat), r'.length ≤ kk ∧ ns.length + r'.length ≤ ts.length ∧ Hid (itemsF (ts.length + 1) ts = (itemsF (kk + 1) r').map (fun x => acc ++ x)) ∧ Hid (ShIs (Fo.ofL ns) acc) ∧
                  Hid (FB w8 w.heap.size g (.slice a2 ns.length cv) 0 0) ∧ Hid (RS w8 g (some ⟨b, 0, none⟩) cap ts r' n) ∧ Hid (ButP g w w8) ∧ Hid (w8.ownsRow (w.heap.size + 3) 51 2 (.slice a2 ns.length cv) ns.length xs) ∧ Hid (RowN w8 (KR (w.heap.size + 2) w8 a2) ns xs)) ∧ leftR w8 g ts.length < leftR wr g ts.length) := by
              refine HFin.out _ ?_ ?_ ?_ ?_ ?_ (by rw [hw8, size_set, size_set, s7])
              · rw [hw8, hw7]
                exact (F5.out.set _).keep ((KeptIn.setK (K := In w.heap.size (w.heap.size + 3)) fun k => by have := k.2; omega).trans (KeptIn.setK fun k => by have := k.2; omega))
              · rw [hw8, hw7]; exact ((S5.out.set _ (by omega)).set _ (by omega)).set _ (by omega)
              · rw [hw8, hw7]; exact ((B5.out.setq _ (by omega)).setq _ (by omega)).setq _ (by omega)
              · have := ownsq_set (ownsq_set O7 (by omega) (ns.length * 2) (.slice p1 y2.1.length q1)) (by omega) (ns.length * 2 + 1) (.slice p2 y2.2.len q2)
                rw [set_two hxl.out] at this
                rw [hw8]; exact this
              · rw [hw8, hw7]
                exact (KeptIn.setK (fun k => k.2 rfl)).trans ((KeptIn.setK (fun k => k.1 rfl)).trans (KeptIn.setK (fun k => k.1 rfl)))
            have HW6 := hide hw6
            have HW7 := hide hw7
            have HW8 := hide hw8
            clear HA SA BA O6 OA KA F6 k6 HFin O7 HOW F5 S5 B5 hxl hw6 hw7 hw8 s6 s7
            refine RP.wpAny_two (i := 6) (k := 8) (by kernel_rfl) (RP.wpOp_of rfl rfl ?_) (RP.wpOp_of rfl rfl ?_)
            · simp [RP.Oper.gives, RP.gives, go_sem, hni]
              refine RP.wpAny_two (i := 7) (k := 8) (by kernel_rfl) (RP.wpOp_of rfl rfl ?_) (RP.wpOp_of rfl rfl ?_)
              · refine RP.gives_storeN 51 (.tmp 21) (.tmp 17) rfl q (ns.length * 2) (.slice p1 y2.1.length q1) (.slice p2 y2.2.len q2) rfl rfl TH.out IF.out rfl rfl ?_
                rw [← HW6.out]
                refine RP.wpAny_one (i := 8) (by kernel_rfl) (RP.wpOp_of rfl rfl ?_)
                simp [RP.Oper.gives, RP.gives, go_sem, y1, g1]
                refine RP.wpAny_end (by kernel_rfl) ?_
                go_wp2_with fail
                first | exact FinA.out | (obtain ⟨⟨kk, al, nl, xl, rl, al2, cl, h1, h2, h3, h4, h5, h6, h7, h8, h9⟩, hm⟩ := FinA.out; exact ⟨⟨kk, al, nl, xl, rl, h1, h2, h3, h4, al2, cl, h5, h6, h7, h8, h9⟩, hm⟩)
              · simp [RP.Oper.gives, RP.gives, go_sem, x1, f1]
                rw [← HW7.out]
                refine RP.wpAny_one (i := 7) (by kernel_rfl) (RP.wpOp_of rfl rfl ?_)
                refine RP.gives_storeN 51 (.tmp 21) (.tmp 17) rfl q (ns.length * 2) (.slice p1 y2.1.length q1) (.slice p2 y2.2.len q2) rfl rfl TH7.out IF.out rfl rfl ?_
                rw [← HW8.out]
                refine RP.wpAny_end (by kernel_rfl) ?_
                go_wp2_with fail
                first | exact FinB.out | (obtain ⟨⟨kk, al, nl, xl, rl, al2, cl, h1, h2, h3, h4, h5, h6, h7, h8, h9⟩, hm⟩ := FinB.out; exact ⟨⟨kk, al, nl, xl, rl, h1, h2, h3, h4, al2, cl, h5, h6, h7, h8, h9⟩, hm⟩)
            · simp [RP.Oper.gives, RP.gives, go_sem, x1, f1]
              rw [← HW7.out]
              refine RP.wpAny_one (i := 6) (by kernel_rfl) (RP.wpOp_of rfl rfl ?_)
              simp [RP.Oper.gives, RP.gives, go_sem, hni]
              refine RP.wpAny_one (i := 7) (by kernel_rfl) (RP.wpOp_of rfl rfl ?_)
              refine RP.gives_storeN 51 (.tmp 21) (.tmp 17) rfl q (ns.length * 2) (.slice p1 y2.1.length q1) (.slice p2 y2.2.len q2) rfl rfl TH7.out IF.out rfl rfl ?_
              rw [← HW8.out]
              refine RP.wpAny_end (by kernel_rfl) ?_
              go_wp2_with fail
              first | exact FinB.out | (obtain ⟨⟨kk, al, nl, xl, rl, al2, cl, h1, h2, h3, h4, h5, h6, h7, h8, h9⟩, hm⟩ := FinB.out; exact ⟨⟨kk, al, nl, xl, rl, h1, h2, h3, h4, al2, cl, h5, h6, h7, h8, h9⟩, hm⟩)
end Go.Proofs.Ytcmmjmgbanafgaa

/- The walks over tree.depth, tooDeep. -/
namespace Go.Proofs.Url
open Syn
def Fo.sz : Fo → Nat
  | .nil => 0
  | .cons _ p r => 1 + p.sz + r.sz
end Go.Proofs.Url
namespace Go.Proofs.Ytcmmjmgbanafgaa
open Go.RowKit Go.Proofs.Url Go.Proofs.Url.Syn

abbrev Old (W : World) (b : Nat) : Prop := b < W.heap.size
theorem FC.old {w W : World} (hb : Below w.heap.size w W) {F : Fo} {g k : Nat} (hg : g < w.heap.size) (h : FC w (Old w) F g k) : FC W (Old w) F g k := h.keep (KeptIn.belowK hb fun _ k => k) hg
theorem FA.some {w : World} {K : Nat → Prop} {a : Option Addr} {F : Fo} (h : FA w K a F) (hF : F ≠ .nil) : ∃ g, a = some ⟨g, 0, none⟩ ∧ K g ∧ FC w K F g 0 := h.resolve_left hF
def DepthOk (F : Fo) : Prop := F.fit 4294967280 → F.len ≤ 4294967280 → F.depth ≤ 4294967280 → ∀ (a : Option Addr) (c : Nat) (w : World), FA w (Old w) a F →
    Calls Try.prog 54 #[.slice a F.len c] w fun e w' => e = .returned (.int .i64 F.depth) ∧ Below w.heap.size w w'
set_option maxHeartbeats 2000000 in
set_option maxRecDepth 100000 in
theorem depth_step (F : Fo) (ih : ∀ G : Fo, G.sz < F.sz → DepthOk G) : DepthOk F := by
    intro hfit hlen hdep a c w hA
    have HIH := hide ih
    have HLen := hide hlen
    have HA := hide hA
    clear ih hA hlen
    go_enter Try.func54, Try.ntmps54
    go_wp2_with fail
    go_loopw [3, 8] (fun dv iv W => ∃ (k acc : Nat) (G : Fo), k + G.len = F.len ∧ G.sz ≤ F.sz ∧ dv = .int .i64 acc ∧ iv = .int .i64 k ∧ Hid (max acc G.depth = F.depth) ∧ Hid (G.fit 4294967280) ∧ Hid (G = .nil ∨ ∃ g, a = some ⟨g, 0, none⟩ ∧ g < w.heap.size ∧ FC W (Old w) G g k) ∧ Hid (Below w.heap.size w W)) (fun _ iv _ => F.len - (intOf iv).toNat)
    case atStart =>
      refine ⟨0, 0, F, by omega, Nat.le_refl _, rfl, rfl, by unfold Hid; omega, hfit, ?_, Below.refl _ _⟩
      rcases HA.out with h | h
      · exact .inl h
      · exact .inr h
    case round =>
      obtain ⟨k, acc, G, hk, hgs, rfl, rfl, hD, hG, hC, hB⟩ := hrel
      cases G with
      | nil =>
        have hlI : ¬ (k : Int) < (F.len : Int) := by simp [Fo.len] at hk; omega
        have HR : Hid (acc = F.depth) := by unfold Hid; rw [← hD.out]; simp [Fo.depth]
        clear hD hG hC hk hgs
        go_wp2_with fail
        go_ret
        exact ⟨by rw [HR.out]; rfl, hB.out⟩
      | cons ts p r =>
        obtain ⟨g, rfl, hgl, a1, c1, a2, c2, e1, e2, ht, hp, hr⟩ := hC.out.resolve_left (by simp)
        have hlI : (k : Int) < (F.len : Int) := by simp [Fo.len] at hk; omega
        have hkl : k < F.len := by simp [Fo.len] at hk; omega
        have hgw : g < wr.heap.size := Nat.lt_of_lt_of_le hgl hB.out.size
        have hsz2 : p.sz < F.sz := by simp [Fo.sz] at hgs; omega
        have hG2 := hG.out
        have HP : Hid (∀ W, Below wr.heap.size wr W → Calls Try.prog 54 #[.slice a2 p.len c2] W fun e w' => e = .returned (.int .i64 p.depth) ∧ Below W.heap.size W w') := fun W hW => by
          refine HIH.out p hsz2 hG2.2.2.2.1 hG2.2.1 hG2.2.2.1 a2 c2 W ?_
          rcases hp with hp | ⟨g', h1, h2, h3⟩
          · exact .inl hp
          · have h2' : g' < w.heap.size := h2
            exact .inr ⟨g', h1, by have := hB.out.size; have := hW.size; show g' < W.heap.size; omega, (h3.keep (KeptIn.belowK hW fun _ k => Nat.lt_of_lt_of_le k hB.out.size) h2).sub fun b hb => by have hb' : b < w.heap.size := hb; have := hB.out.size; have := hW.size; show b < W.heap.size; omega⟩
        have HD : Hid (max (max acc (1 + p.depth)) r.depth = F.depth) := by unfold Hid; rw [← hD.out]; simp only [Fo.depth]; omega
        have hpd : p.depth ≤ 4294967280 := hG2.2.2.1
        have HRr := hide hr
        have HG3 := hide hG2.2.2.2.2
        have hrs : r.sz ≤ F.sz := by simp [Fo.sz] at hgs; omega
        have hkr : k + 1 + r.len = F.len := by simp [Fo.len] at hk; omega
        have hil : (k : Int) < 4294967281 := by have := HLen.out; omega
        clear hC hG hG2 hD hp hr ht hgs hk hfit hdep HA
        go_upto_region 5 with fail
        obtain ⟨W2, hW2⟩ : ∃ x, x = wr.alloc (Obj.cells #[.slice a1 ts.length c1, .slice a2 p.len c2] 51) := ⟨_, rfl⟩
        have b2 : Below wr.heap.size wr W2 := by rw [hW2]; exact (Below.refl _ _).alloc (Nat.le_refl _) _
        have d1 : W2.cell? ⟨wr.heap.size, 1, none⟩ = some (.slice a2 p.len c2) := by rw [hW2, World.cell?_alloc_new]; rfl
        have hdl : wr.heap.size < W2.heap.size := World.block_lt_of_cell? W2 _ d1
        rw [← hW2]
        clear hW2
        have HB2 := hide b2
        clear b2
        go_wp2_with fail
        refine (HP.out W2 HB2.out).mono ?_
        rintro e w3 ⟨rfl, b3⟩
        have B3 : Hid (Below wr.heap.size wr w3) := HB2.out.trans (b3.mono (Nat.le_of_lt hdl))
        have B4 := hide (hB.out.trans (B3.out.mono hB.out.size))
        have HC3 : Hid (r = .nil ∨ ∃ g', some (⟨g, 0, none⟩ : Addr) = some ⟨g', 0, none⟩ ∧ g' < w.heap.size ∧ FC w3 (Old w) r g' (k + 1)) := .inr ⟨g, rfl, hgl, HRr.out.keep (KeptIn.belowK B3.out fun _ k => Nat.lt_of_lt_of_le k hB.out.size) hgl⟩
        have hpI : (p.depth : Int) < 4294967281 := by omega
        clear HP HRr B3 HB2 hB b3 d1 hdl e1 e2 hgw
        go_wp2_with fail
        refine ⟨⟨k + 1, max acc (1 + p.depth), r, hkr, hrs, ?_, by go_num, HD, HG3, HC3, B4⟩, by simp [intOf]; omega⟩
        exact congrArg (Value.int .i64) (by omega)
theorem depth_any : ∀ (n : Nat) (F : Fo), F.sz ≤ n → DepthOk F := by
  intro n
  induction n with
  | zero => exact fun F h => depth_step F fun G hG => absurd hG (by omega)
  | succ n ih => exact fun F h => depth_step F fun G hG => ih G (by omega)
set_option maxHeartbeats 2000000 in
set_option maxRecDepth 100000 in
theorem tooDeep_any (F : Fo) (hfit : F.fit 4294967280) (hlen : F.len ≤ 4294967280) (a : Option Addr) (c : Nat) (w : World) (hA : FA w (Old w) a F) :
    Calls Try.prog 27 #[.slice a F.len c] w fun e w' => e = .returned (.bool F.deepAny) ∧ Below w.heap.size w w' := by
  have HLen := hide hlen
  have HA := hide hA
  clear hA hlen
  go_enter Try.func27, Try.ntmps27
  go_wp2_with fail
  go_loopw [7] (fun iv W => ∃ (k : Nat) (G : Fo), k + G.len = F.len ∧ iv = .int .i64 k ∧ Hid (G.deepAny = F.deepAny) ∧ Hid (G.fit 4294967280) ∧ Hid (G = .nil ∨ ∃ g, a = some ⟨g, 0, none⟩ ∧ g < w.heap.size ∧ FC W (Old w) G g k) ∧ Hid (Below w.heap.size w W)) (fun iv _ => F.len - (intOf iv).toNat)
  case atStart =>
    refine ⟨0, F, by omega, rfl, rfl, hfit, ?_, Below.refl _ _⟩
    rcases HA.out with h | h
    · exact .inl h
    · exact .inr h
  case round =>
    obtain ⟨k, G, hk, rfl, hD, hG, hC, hB⟩ := hrel
    cases G with
    | nil =>
      have hlI : ¬ (k : Int) < (F.len : Int) := by simp [Fo.len] at hk; omega
      have HR : Hid (F.deepAny = false) := by unfold Hid; rw [← hD.out]; rfl
      clear hD hG hC hk
      go_wp2_with fail
      go_ret
      exact ⟨by rw [HR.out]; rfl, hB.out⟩
    | cons ts p r =>
      obtain ⟨g, rfl, hgl, a1, c1, a2, c2, e1, e2, ht, hp, hr⟩ := hC.out.resolve_left (by simp)
      have hlI : (k : Int) < (F.len : Int) := by simp [Fo.len] at hk; omega
      have hkl : k < F.len := by simp [Fo.len] at hk; omega
      have hgw : g < wr.heap.size := Nat.lt_of_lt_of_le hgl hB.out.size
      have hG2 := hG.out
      obtain ⟨d, hd⟩ : ∃ d : Int, d = (p.depth : Int) := ⟨_, rfl⟩
      have HP : Hid (∀ W, Below wr.heap.size wr W → Calls Try.prog 54 #[.slice a2 p.len c2] W fun e w' => e = .returned (.int .i64 d) ∧ Below W.heap.size W w') := fun W hW => by
        rw [hd]
        refine depth_any _ p (Nat.le_refl _) hG2.2.2.2.1 hG2.2.1 hG2.2.2.1 a2 c2 W ?_
        rcases hp with hp | ⟨g', h1, h2, h3⟩
        · exact .inl hp
        · have h2' : g' < w.heap.size := h2
          exact .inr ⟨g', h1, by have := hB.out.size; have := hW.size; show g' < W.heap.size; omega, (h3.keep (KeptIn.belowK hW fun _ k => Nat.lt_of_lt_of_le k hB.out.size) h2).sub fun b hb => by have hb' : b < w.heap.size := hb; have := hB.out.size; have := hW.size; show b < W.heap.size; omega⟩
      have HRr := hide hr
      have HG3 := hide hG2.2.2.2.2
      have hkr : k + 1 + r.len = F.len := by simp [Fo.len] at hk; omega
      have hil : (k : Int) < 4294967281 := by have := HLen.out; omega
      have HDe : Hid ((decide (16 < d) || r.deepAny) = F.deepAny) := by
        unfold Hid; rw [← hD.out, hd]
        show _ = (decide (16 < p.depth) || r.deepAny)
        congr 1
        exact decide_eq_decide.2 (by omega)
      clear hC hG hG2 hD hp hr ht hk hfit HA hd
      go_upto_region 4 with fail
      obtain ⟨W2, hW2⟩ : ∃ x, x = wr.alloc (Obj.cells #[.slice a1 ts.length c1, .slice a2 p.len c2] 51) := ⟨_, rfl⟩
      have b2 : Below wr.heap.size wr W2 := by rw [hW2]; exact (Below.refl _ _).alloc (Nat.le_refl _) _
      have d1 : W2.cell? ⟨wr.heap.size, 1, none⟩ = some (.slice a2 p.len c2) := by rw [hW2, World.cell?_alloc_new]; rfl
      have hdl : wr.heap.size < W2.heap.size := World.block_lt_of_cell? W2 _ d1
      rw [← hW2]
      clear hW2
      have HB2 := hide b2
      clear b2
      go_wp2_with fail
      refine (HP.out W2 HB2.out).mono ?_
      rintro e w3 ⟨rfl, b3⟩
      have B3 : Hid (Below wr.heap.size wr w3) := HB2.out.trans (b3.mono (Nat.le_of_lt hdl))
      have B4 := hide (hB.out.trans (B3.out.mono hB.out.size))
      have HC3 : Hid (r = .nil ∨ ∃ g', some (⟨g, 0, none⟩ : Addr) = some ⟨g', 0, none⟩ ∧ g' < w.heap.size ∧ FC w3 (Old w) r g' (k + 1)) := .inr ⟨g, rfl, hgl, HRr.out.keep (KeptIn.belowK B3.out fun _ k => Nat.lt_of_lt_of_le k hB.out.size) hgl⟩
      clear HP HRr B3 HB2 hB b3 d1 hdl e1 e2 hgw
      by_cases h16 : 16 < d
      · have hI : (16 : Int) < d := h16
        have HR : Hid (F.deepAny = true) := by unfold Hid; rw [← HDe.out, decide_eq_true h16]; rfl
        clear h16 HDe
        go_wp2_with fail
        go_ret
        exact ⟨by rw [HR.out]; rfl, B4.out⟩
      · have hI : ((16 : Int) < d) = False := eq_false h16
        have HR : Hid (r.deepAny = F.deepAny) := by unfold Hid; rw [← HDe.out, decide_eq_false h16, Bool.false_or]
        clear h16 HDe
        go_upto_region 6 with fail
        clear hI
        go_wp2_with fail
        exact ⟨⟨k + 1, r, hkr, by go_num, HR, HG3, HC3, B4⟩, by simp [intOf]; omega⟩
end Go.Proofs.Ytcmmjmgbanafgaa

/- The walk over tree.Read: what package tree gives. -/
namespace Go.Proofs.Url
open Syn
theorem toksF_code : ∀ (f pos : Nat) (l : List UInt8) (n c p : Nat), toksF f pos l n = .bad c p → c ≠ 0 := by
  intro f
  induction f with
  | zero => intro pos l n c p h; simp [toksF] at h
  | succ f ih =>
    intro pos l n c p h
    rw [toksF_succ] at h
    split at h
    · cases h
    · split at h
      · rename_i hc; cases h; exact hc
      · split at h
        · cases h; decide
        · generalize hx : toksF f _ _ _ = x at h
          cases x with
          | bad c' q =>
            simp [Toks.put] at h
            obtain ⟨rfl, rfl⟩ := h
            exact ih _ _ _ _ _ hx
          | ok us => simp [Toks.put] at h
theorem toksS_code {s : List UInt8} {c p : Nat} (h : toksS s = .bad c p) : c ≠ 0 := by
  unfold toksS at h
  split at h
  · cases h; decide
  · exact toksF_code _ _ _ _ _ _ h
end Go.Proofs.Url
namespace Go.Proofs.Ytcmmjmgbanafgaa
open Go.RowKit Go.Proofs.Url Go.Proofs.Url.Syn

theorem readS10_lex {s : List UInt8} {c p : Nat} (h : toksS s = .bad c p) : readS10 s = .bad c p := by unfold readS10; rw [h]
theorem readS10_bad {s : List UInt8} {ts r : List Tk} (h : toksS s = .ok ts) (hi : itemsF (ts.length + 1) ts = .bad r) : readS10 s = .bad 4 (atR s.length r) := by
  unfold readS10; rw [h]
  simp only [hi]
  cases r <;> rfl
theorem readS10_ok {s : List UInt8} {ts r : List Tk} {xs : List Itm} (h : toksS s = .ok ts) (hi : itemsF (ts.length + 1) ts = .ok xs r) : readS10 s = if xs.any deepI then .bad 5 0 else .ok xs := by
  unfold readS10; rw [h]
  simp only [hi]
/-- What tree.Read answers. -/
def TreePost (s : List UInt8) (w : World) (e : Ending) (w' : World) : Prop :=
  Below w.heap.size w w' ∧ (match readS10 s with
    | .ok xs => ∃ (F : Fo) (a : Option Addr) (c : Nat), e = .returned (.tuple #[.slice a F.len c, .agg #[.int .i64 0, .int .i64 0]]) ∧ FA w' (In w.heap.size w'.heap.size) a F ∧ ShIs F xs ∧ F.fit 4294967280 ∧ F.len ≤ 2000
    | .bad c p => e = .returned (.tuple #[.slice none 0 0, .agg #[.int .i64 c, .int .i64 p]]))
theorem TreePost.bad {s : List UInt8} {c p : Nat} {w w' : World} (hx : readS10 s = .bad c p) (hb : Below w.heap.size w w') : TreePost s w (.returned (.tuple #[.slice none 0 0, .agg #[.int .i64 c, .int .i64 p]])) w' := by
  unfold TreePost; rw [hx]; exact ⟨hb, rfl⟩
theorem TreePost.ok {s : List UInt8} {xs : List Itm} {w w' : World} {F : Fo} {a : Option Addr} {c : Nat} (hx : readS10 s = .ok xs) (hb : Below w.heap.size w w') (hf : FA w' (In w.heap.size w'.heap.size) a F) (hs : ShIs F xs) (h1 : F.fit 4294967280) (h2 : F.len ≤ 2000) : TreePost s w (.returned (.tuple #[.slice a F.len c, .agg #[.int .i64 0, .int .i64 0]])) w' := by
  unfold TreePost; rw [hx]; exact ⟨hb, F, a, c, rfl, hf, hs, h1, h2⟩
theorem WB.same' {W W' : World} {g : Nat} {a b : Int} (h : WB W g a b) (hb : W'.heap[g]? = W.heap[g]?) : WB W' g a b :=
  ⟨by rw [World.cell?_of_block (w := W) hb]; exact h.c0, by rw [World.cell?_of_block (w := W) hb]; exact h.c1, fun j hj => by unfold World.frozen?; simp only [hb]; exact h.fr j hj⟩
theorem WB.otherp {W : World} {g : Nat} {a b : Int} (h : WB W g a b) {m : Nat} (hm : g ≠ m) (x y : Int) : WB (put2 W m x y) g a b :=
  h.same' (by unfold put2; rw [Below.heap_setCell _ _ _ _ (by show g ≠ m; exact hm), Below.heap_setCell _ _ _ _ (by show g ≠ m; exact hm)])
theorem resReadTree {W : World} {m : Nat} {v : Value} {x y : Int} {tmps : Array Value} (h : WB W m x y) (h2 : tmps[2]?.getD undef = v) (h3 : tmps[3]?.getD undef = .pointer (some ⟨m, 0, none⟩)) :
    (results Try.f14 tmps).run Try.prog W = .ok (.tuple #[v, .agg #[.int .i64 x, .int .i64 y]]) W := by
  obtain ⟨c0, c1, _⟩ := h
  simp [results, Try.results14, go_sem, h2, h3, c0, c1]
set_option maxHeartbeats 4000000 in
set_option maxRecDepth 100000 in
theorem treeRead_any (s : List UInt8) (w : World) (hs : s.length < 4294967281) :
    Calls Try.prog 14 #[.string ⟨s.toArray⟩] w fun e w' => TreePost s w e w' := by
  have HS := hide hs
  clear hs
  go_enter Try.func14, Try.ntmps14
  go_upto_region 1 with fail
  obtain ⟨W0, hW0⟩ : ∃ x, x = w.alloc (Obj.cells #[.int .i64 0, .int .i64 0] 25) := ⟨_, rfl⟩
  have R0 : Hid (WB W0 w.heap.size 0 0) := by unfold Hid; rw [hW0]; exact WB.new w 0 0 _
  have B0 : Hid (Below w.heap.size w W0) := by unfold Hid; rw [hW0]; exact (Below.refl _ _).alloc (Nat.le_refl _) _
  rw [← hW0]
  clear hW0
  go_wp2_with fail
  refine (Tokens_any s W0 HS.out).mono ?_
  rintro e w1 ⟨ao, cap, ts, c, p, rfl, hown, hor, b1⟩
  have R1 := hide (R0.out.keep b1)
  have B1 := hide (B0.out.trans (b1.mono B0.out.size))
  have hs1 := b1.size
  have hr1 := R1.out.lt
  clear b1 R0
  go_upto_region 2 with fail
  obtain ⟨W2, hW2⟩ : ∃ x, x = w1.alloc (Obj.cells #[.int .i64 c, .int .i64 p] 25) := ⟨_, rfl⟩
  have b2 : Below w1.heap.size w1 W2 := by rw [hW2]; exact (Below.refl _ _).alloc (Nat.le_refl _) _
  have X2 : Hid (WB W2 w1.heap.size c p) := by unfold Hid; rw [hW2]; exact WB.new w1 _ _ _
  have s2 : Hid (W2.heap.size = w1.heap.size + 1) := by unfold Hid; rw [hW2]; simp
  rw [← hW2]
  have R2 := hide (R1.out.keep b2)
  have B2 := hide (B1.out.trans (b2.mono B1.out.size))
  have T2 : Hid (TA W2 (In W0.heap.size w1.heap.size) ao ts) := (owns_TA hown).keep (KeptIn.below b2 (Nat.le_refl _) _)
  clear hW2 b2 R1 B1 hown B0
  have x0 := X2.out.c0
  have x1 := X2.out.c1
  have hxl := X2.out.lt
  rcases hor with ⟨hT, rfl, rfl⟩ | ⟨hT, rfl⟩
  · have HT := hide hT
    have HTO := hide (toksS_ok hT)
    have htm := toksS_many hT
    clear hT
    go_upto_region 5 with fail
    obtain ⟨W3, hW3⟩ : ∃ x, x = W2.alloc (Obj.cells #[.slice ao ts.length cap, .int .i64 0, .int .i64 s.length] 75) := ⟨_, rfl⟩
    have b3 : Below W2.heap.size W2 W3 := by rw [hW3]; exact (Below.refl _ _).alloc (Nat.le_refl _) _
    have S3 : Hid (RS W3 W2.heap.size ao cap ts ts s.length) := by
      refine ⟨⟨0, Nat.zero_le _, rfl, ?_⟩, ?_⟩
      · rw [hW3]
        refine ⟨?_, ?_, ?_, ?_⟩
        all_goals (first | (rw [World.frozen?_alloc_new]; done) | (rw [World.cell?_alloc_new]; rfl))
      · intro k hk
        obtain ⟨q, e, hq, k1, k2, k3⟩ := (T2.out.keep (KeptIn.below b3 (by rw [s2.out]; omega) _)) k hk
        exact ⟨q, e, by have := hq.2; have := s2.out; omega, k1, k2, k3⟩
    rw [← hW3]
    have R3 := hide (R2.out.keep b3)
    have X3 := hide (X2.out.keep b3)
    have B3 := hide (B2.out.trans (b3.mono B2.out.size))
    have hs3 : W2.heap.size < W3.heap.size := S3.out.lt
    clear hW3 b3 R2 X2 B2 T2 x0 x1
    go_wp2_with fail
    refine (file_any W2.heap.size ao cap ts s.length W3 S3.out HTO.out (by omega)).mono ?_
    rintro e w4 ⟨B4, h4⟩
    have R4 := hide (R3.out.same' (B4.block _ R3.out.lt (by omega)))
    have X4 := hide (X3.out.same' (B4.block _ X3.out.lt (by omega)))
    have B5 : Hid (Below w.heap.size w w4) := B3.out.trans (B4.low (by omega) (by omega))
    have hs4 := B4.size
    clear B4 R3 X3 B3 S3
    have x0 := X4.out.c0
    have x1 := X4.out.c1
    have q0 := X4.out.fr 0 (by decide)
    have q1 := X4.out.fr 1 (by decide)
    have hxl4 := X4.out.lt
    cases hx : itemsF (ts.length + 1) ts with
    | bad r' =>
      rw [hx] at h4
      subst h4
      have HX := hide (readS10_bad HT.out hx)
      obtain ⟨w5, hw5⟩ : ∃ x, x = put2 w4 w1.heap.size 4 (atR s.length r') := ⟨_, rfl⟩
      have X5 : Hid (WB w5 w1.heap.size 4 (atR s.length r')) := by unfold Hid; rw [hw5]; exact X4.out.put _ _
      have R5 : Hid (WB w5 w.heap.size 0 0) := by unfold Hid; rw [hw5]; exact R4.out.otherp (by omega) _ _
      have B6 : Hid (Below w.heap.size w w5) := by unfold Hid; rw [hw5]; exact put2_below B5.out _ (by omega) _ _
      have HW5 := hide hw5
      unfold put2 at HW5
      clear hw5 R4 X4 B5 hx
      go_upto_region 6 with fail
      rw [← HW5.out]
      clear HW5
      go_wp2_with fail
      refine (tooDeep_any .nil trivial (by simp [Fo.len]) none 0 w5 (FA.nil _ _ _)).mono ?_
      rintro e w6 ⟨rfl, b6⟩
      have hd : Fo.nil.deepAny = false := rfl
      rw [hd]
      have X6 := hide (X5.out.keep b6)
      have R6 := hide (R5.out.keep b6)
      have B7 := hide (B6.out.trans (b6.mono B6.out.size))
      clear b6 X5 R5 B6 x0 x1 q0 q1
      have x0 := X6.out.c0
      have x1 := X6.out.c1
      have hxl6 := X6.out.lt
      have r0 := R6.out.c0
      have r1 := R6.out.c1
      have f0 := R6.out.fr 0 (by decide)
      have f1 := R6.out.fr 1 (by decide)
      have hrl6 := R6.out.lt
      have HP : Hid (WB (put2 w6 w.heap.size 4 (atR s.length r')).drew w.heap.size 4 (atR s.length r')) := (R6.out.put _ _).keep ((Below.refl _ _).drew)
      have HB : Hid (Below w.heap.size w (put2 w6 w.heap.size 4 (atR s.length r')).drew) := (put2_below B7.out _ (Nat.le_refl _) _ _).drew
      unfold put2 at HP HB
      clear R6 B7 X6
      go_wp2_with fail
      go_region
      go_wp2_with fail
      refine bodyPost_ret (v := .tuple #[.slice none 0 0, .agg #[.int .i64 4, .int .i64 (atR s.length r')]]) ?_ rfl ?_
      · exact resReadTree HP.out rfl rfl
      · exact TreePost.bad HX.out HB.out
    | ok xs r' =>
      rw [hx] at h4
      obtain ⟨F, a, cF, rfl, hFA, hSh⟩ := h4
      have hok := items_okI _ _ _ _ hx
      have hfit := shIs_fit (n := 2000) (by decide) hSh (fun y hy => ⟨fun f hf => Nat.le_trans ((hok.1 y hy).1 f hf) htm, Nat.le_trans (hok.1 y hy).2 htm⟩)
      have HFit : Hid (F.fit 4294967280) := Fo.fit_mono (by decide) hfit.1
      have HFl : Hid (F.len ≤ 2000) := by unfold Hid; rw [hfit.2]; omega
      have HX := hide (readS10_ok HT.out hx)
      have HSh := hide hSh
      have HDp : Hid (xs.any deepI = F.deepAny) := shIs_deep hSh
      obtain ⟨w5, hw5⟩ : ∃ x, x = put2 w4 w1.heap.size 0 0 := ⟨_, rfl⟩
      have X5 : Hid (WB w5 w1.heap.size 0 0) := by unfold Hid; rw [hw5]; exact X4.out.put _ _
      have R5 : Hid (WB w5 w.heap.size 0 0) := by unfold Hid; rw [hw5]; exact R4.out.otherp (by omega) _ _
      have B6 : Hid (Below w.heap.size w w5) := by unfold Hid; rw [hw5]; exact put2_below B5.out _ (by omega) _ _
      have s5 : w5.heap.size = w4.heap.size := by rw [hw5]; unfold put2; rw [size_set, size_set]
      have F5 : Hid (FA w5 (In W3.heap.size w5.heap.size) a F) := by
        unfold Hid; rw [s5, hw5]
        exact hFA.keep ((KeptIn.set (.inl (by omega))).trans (KeptIn.set (.inl (by omega))))
      have HW5 := hide hw5
      unfold put2 at HW5
      clear hw5 R4 X4 B5 hx hFA hSh hfit hok s5
      go_upto_region 6 with fail
      rw [← HW5.out]
      clear HW5
      go_wp2_with fail
      refine (tooDeep_any F HFit.out (by have := HFl.out; omega) a cF w5 (F5.out.sub fun b k => k.2)).mono ?_
      rintro e w6 ⟨rfl, b6⟩
      have X6 := hide (X5.out.keep b6)
      have R6 := hide (R5.out.keep b6)
      have B7 := hide (B6.out.trans (b6.mono B6.out.size))
      have F6 : Hid (FA w6 (In W3.heap.size w6.heap.size) a F) := (F5.out.keep (KeptIn.below b6 (Nat.le_refl _) _)).sub (In.mono (Nat.le_refl _) b6.size)
      clear b6 X5 R5 B6 F5 x0 x1 q0 q1
      have x0 := X6.out.c0
      have x1 := X6.out.c1
      have hxl6 := X6.out.lt
      have r0 := R6.out.c0
      have r1 := R6.out.c1
      have f0 := R6.out.fr 0 (by decide)
      have f1 := R6.out.fr 1 (by decide)
      have hrl6 := R6.out.lt
      cases hd : F.deepAny with
      | true =>
        have HX2 : Hid (readS10 s = .bad 5 0) := by unfold Hid; rw [HX.out, HDp.out, hd]; rfl
        have HP : Hid (WB (put2 w6 w.heap.size 5 0) w.heap.size 5 0) := R6.out.put _ _
        have HB : Hid (Below w.heap.size w (put2 w6 w.heap.size 5 0)) := put2_below B7.out _ (Nat.le_refl _) _ _
        unfold put2 at HP HB
        clear R6 B7 X6 F6 hd HX
        go_wp2_with fail
        refine bodyPost_ret (v := .tuple #[.slice none 0 0, .agg #[.int .i64 5, .int .i64 0]]) ?_ rfl ?_
        · exact resReadTree HP.out rfl rfl
        · exact TreePost.bad HX2.out HB.out
      | false =>
        have HX2 : Hid (readS10 s = .ok xs) := by unfold Hid; rw [HX.out, HDp.out, hd]; rfl
        have HP : Hid (WB (put2 w6 w.heap.size 0 0).drew w.heap.size 0 0) := (R6.out.put _ _).keep ((Below.refl _ _).drew)
        have HB : Hid (Below w.heap.size w (put2 w6 w.heap.size 0 0).drew) := (put2_below B7.out _ (Nat.le_refl _) _ _).drew
        have HF : Hid (FA (put2 w6 w.heap.size 0 0).drew (In w.heap.size (put2 w6 w.heap.size 0 0).drew.heap.size) a F) := by
          have e : (put2 w6 w.heap.size 0 0).drew.heap.size = w6.heap.size := by
            show (put2 w6 w.heap.size 0 0).heap.size = _
            unfold put2; rw [size_set, size_set]
          unfold Hid
          rw [e]
          have h1 : FA (put2 w6 w.heap.size 0 0) (In W3.heap.size w6.heap.size) a F := F6.out.keep ((KeptIn.set (.inl (by omega))).trans (KeptIn.set (.inl (by omega))))
          exact (h1.keep (W' := (put2 w6 w.heap.size 0 0).drew) (fun _ _ => rfl)).sub (In.mono (by omega) (Nat.le_refl _))
        unfold put2 at HP HB HF
        clear R6 B7 X6 F6 hd HX
        go_wp2_with fail
        go_region
        go_wp2_with fail
        refine bodyPost_ret (v := .tuple #[.slice a F.len cF, .agg #[.int .i64 0, .int .i64 0]]) ?_ rfl ?_
        · exact resReadTree HP.out rfl rfl
        · exact TreePost.ok HX2.out HB.out HF.out HSh.out HFit.out HFl.out
  · have HX := hide (readS10_lex hT)
    have hc : ((c : Int) != 0) = true := by have := toksS_code hT; simp; omega
    have r0 := R2.out.c0
    have r1 := R2.out.c1
    have q0 := R2.out.fr 0 (by decide)
    have q1 := R2.out.fr 1 (by decide)
    have hrl := R2.out.lt
    clear hT
    have HP : Hid (WB (put2 W2 w.heap.size c p).drew w.heap.size c p) := (R2.out.put c p).keep ((Below.refl _ _).drew)
    have HB : Hid (Below w.heap.size w (put2 W2 w.heap.size c p).drew) := (put2_below B2.out _ (Nat.le_refl _) _ _).drew
    unfold put2 at HP HB
    clear R2 B2 X2 T2
    go_wp2_with fail
    go_region
    go_wp2_with fail
    refine bodyPost_ret (v := .tuple #[.slice none 0 0, .agg #[.int .i64 c, .int .i64 p]]) ?_ rfl ?_
    · exact resReadTree HP.out rfl rfl
    · exact TreePost.bad HX.out HB.out
end Go.Proofs.Ytcmmjmgbanafgaa

/- The walk over syn.write. -/
namespace Go.Proofs.Ytcmmjmgbanafgaa
open Go.RowKit Go.Proofs.Url Go.Proofs.Url.Syn

theorem others_below {T : TypeId} {b : Option Nat} {w w' : World} (h : Below w.heap.size w w') : Lib.OthersKept T b w w' := by
  intro k o hk _ _
  have hlt : k < w.heap.size := by
    rcases Nat.lt_or_ge k w.heap.size with h | h
    · exact h
    · rw [Array.getElem?_eq_none h] at hk; cases hk
  rw [h.block k hlt]; exact hk
theorem WrP.belowW {B b : Nat} {l : List UInt8} {w w' : World} (h : IsB B b l w) (hB : B ≤ w.heap.size) (hb : Below w.heap.size w w') : WrP B b l w w' := ⟨h.below hb, hb.mono hB, others_below hb⟩
def WriteOk (x : Nd) : Prop := ∀ (a1 a2 : Option Addr) (c1 c2 B b : Nat) (l : List UInt8) (w : World), NA w (fun k => k < B) a1 a2 x → IsB B b l w → B ≤ w.heap.size → x.1.length ≤ 4294967280 → x.2.len ≤ 4294967280 → x.2.fit 4294967280 → (l ++ ndS x).length < 4294967260 →
  Calls Try.prog 21 #[.pointer (some ⟨b, 0, none⟩), .agg #[.slice a1 x.1.length c1, .slice a2 x.2.len c2]] w fun e w' => e = .returned (.tuple #[]) ∧ WrP B b (l ++ ndS x) w w'
set_option maxHeartbeats 4000000 in
set_option maxRecDepth 100000 in
theorem write_step (x : Nd) (ih : ∀ y : Nd, y.2.sz < x.2.sz → WriteOk y) : WriteOk x := by
  intro a1 a2 c1 c2 B b l w hN hI hB hl1 hl2 hfit hlen
  have HN := hide hN
  have HI := hide hI
  have HL1 := hide hl1
  have HL2 := hide hl2
  have HFit := hide hfit
  have HLen := hide hlen
  have HIH := hide ih
  have hbg := hI.ge
  clear hN hI hl1 hl2 hfit hlen ih
  obtain ⟨W0, hW0⟩ : ∃ v, v = w.alloc (Obj.cells #[.slice a1 x.1.length c1, .slice a2 x.2.len c2] 51) := ⟨_, rfl⟩
  have P0 : Hid (WrP B b l w W0) := by unfold Hid; rw [hW0]; exact (WrP.refl HI.out).alloc hB _
  have O0 : Hid (W0.heap[w.heap.size]? = some (.cells #[.slice a1 x.1.length c1, .slice a2 x.2.len c2] 51 (0, 0))) := by unfold Hid; rw [hW0]; exact obj_new _ _ _
  have b0 : Below w.heap.size w W0 := by rw [hW0]; exact (Below.refl _ _).alloc (Nat.le_refl _) _
  have HWd : Hid (Calls Try.prog 29 #[.agg #[.slice a1 x.1.length c1, .slice a2 x.2.len c2]] W0 fun e w' => e = .returned (.string ⟨(joinT x.1).toArray⟩) ∧ Below W0.heap.size W0 w') :=
    words_any x a1 a2 c1 c2 W0 ((HN.out.keep (KeptIn.belowK b0 fun _ h => by have h : _ < B := h; omega)).sub fun _ h => by have h : _ < B := h; have := b0.size; omega) HL1.out (by have h := HLen.out; unfold ndS at h; simp only [List.length_append] at h; omega)
  go_enter Try.func21, Try.ntmps21
  go_upto_region 1 with fail
  rw [← hW0]
  clear hW0 b0
  have c0 : W0.cell? ⟨w.heap.size, 0, none⟩ = some (.slice a1 x.1.length c1) := by rw [Lib.cell_of_heap O0.out]; rfl
  have c1' : W0.cell? ⟨w.heap.size, 1, none⟩ = some (.slice a2 x.2.len c2) := by rw [Lib.cell_of_heap O0.out]; rfl
  have h0l : w.heap.size < W0.heap.size := World.block_lt_of_cell? W0 _ c0
  go_wp2_with fail
  refine HWd.out.mono ?_
  rintro e w1 ⟨rfl, hb1⟩
  have P1 := hide (P0.out.trans (WrP.belowW P0.out.is (by have := P0.out.be.size; omega) hb1))
  have O1 : Hid (w1.heap[w.heap.size]? = some (.cells #[.slice a1 x.1.length c1, .slice a2 x.2.len c2] 51 (0, 0))) := by unfold Hid; rw [hb1.block _ h0l]; exact O0.out
  clear hb1 P0 O0 c0 c1' HWd
  go_wp2_with fail
  refine (writeS B b l (joinT x.1) w1 P1.out.is (by have h := HLen.out; unfold ndS at h; simp only [List.length_append] at h ⊢; omega) (by have := P1.out.be.size; omega)).mono ?_
  rintro e w2 ⟨rfl, P2'⟩
  have P2 := hide (P1.out.trans P2')
  have O2 := hide (kept_obj P2'.ok O1.out (by omega) (by decide))
  have x1 : w2.cell? ⟨w.heap.size, 1, none⟩ = some (.slice a2 x.2.len c2) := by rw [Lib.cell_of_heap O2.out]; rfl
  have hwr : w.heap.size < w2.heap.size := World.block_lt_of_cell? w2 _ x1
  clear P2' P1 O1 h0l
  go_wp2_with fail
  go_loopw [13] (fun iv W => ∃ (k : Nat) (G : Fo) (pre : List UInt8), k + G.len = x.2.len ∧ G.sz ≤ x.2.sz ∧ iv = .int .i64 k ∧ Hid (pre ++ G.told = x.2.told) ∧ Hid (WrP B b (l ++ joinT x.1 ++ pre) w W) ∧ Hid (G = .nil ∨ ∃ g, a2 = some ⟨g, 0, none⟩ ∧ g < B ∧ FC W (fun k => k < B) G g k) ∧ Hid (G.fit 4294967280)) (fun iv _ => x.2.len - (intOf iv).toNat)
  case atStart =>
    refine ⟨0, x.2, [], by omega, Nat.le_refl _, rfl, rfl, by unfold Hid; rw [List.append_nil]; exact P2.out, ?_, HFit⟩
    rcases HN.out.f.keep (KeptIn.belowK P2.out.be fun _ h => h) with h | h
    · exact .inl h
    · exact .inr h
  case round =>
    obtain ⟨k, G, pre, hk, hgs, rfl, hT, hP, hC, hG⟩ := hrel
    clear P2 x1 hwr O2
    cases G with
    | nil =>
      have hlI2 : ¬ (k : Int) < (x.2.len : Int) := by simp [Fo.len] at hk; omega
      have HE : Hid (WrP B b (l ++ ndS x) w wr) := by
        unfold Hid ndS
        have h1 := hT.out
        have h2 := hP.out
        simp only [Fo.told, List.append_nil] at h1
        rwa [h1, List.append_assoc] at h2
      clear hT hP hC hG hk hgs
      go_wp2_with fail
      refine bodyPost_end (v := .tuple #[]) (by kernel_rfl) rfl ?_
      exact ⟨rfl, HE.out⟩
    | cons ts p r =>
      obtain ⟨g, rfl, hgB, e1, f1, e2, f2, k1, k2, ht, hp, hr⟩ := hC.out.resolve_left (by simp)
      have hlI2 : (k : Int) < (x.2.len : Int) := by simp [Fo.len] at hk; omega
      have hkl : k < x.2.len := by simp [Fo.len] at hk; omega
      have hgw : g < wr.heap.size := by have := hP.out.be.size; omega
      have hG2 := hG.out
      have HNd : Hid (NA wr (fun k => k < B) e1 e2 (ts, p)) := ⟨ht, hp⟩
      have HRr := hide hr
      have HG3 := hide hG2.2.2.2.2
      have hkr : k + 1 + r.len = x.2.len := by simp [Fo.len] at hk; omega
      have hrs : r.sz ≤ x.2.sz := by simp [Fo.sz] at hgs; omega
      have hil : (k : Int) < 4294967281 := by have := HL2.out; omega
      have hsz2 : p.sz < x.2.sz := by simp [Fo.sz] at hgs; omega
      have HTold : Hid ((pre ++ [32, 40] ++ ndS (ts, p) ++ [41]) ++ r.told = x.2.told) := by unfold Hid; rw [← hT.out, told_cons]; simp
      have HBound : Hid ((l ++ joinT x.1 ++ (pre ++ [32, 40] ++ ndS (ts, p) ++ [41])).length < 4294967260) := by
        unfold Hid
        have h1 := HLen.out
        unfold ndS at h1
        rw [← HTold.out] at h1
        simp only [List.length_append] at h1 ⊢
        omega
      have HW : Hid (∀ (m : List UInt8) (W : World), Below B wr W → IsB B b m W → (m ++ ndS (ts, p)).length < 4294967260 → Calls Try.prog 21 #[.pointer (some ⟨b, 0, none⟩), .agg #[.slice e1 ts.length f1, .slice e2 p.len f2]] W fun e w' => e = .returned (.tuple #[]) ∧ WrP B b (m ++ ndS (ts, p)) W w') := fun m W hbW hI hm =>
        HIH.out (ts, p) hsz2 e1 e2 f1 f2 B b m W (HNd.out.keep (KeptIn.belowK hbW fun _ h => h)) hI (by have := hP.out.be.size; have := hbW.size; omega) hG2.1 hG2.2.1 hG2.2.2.2.1 hm
      clear hC hG hG2 hT hp hr ht hgs hk
      go_upto_region 5 with fail
      obtain ⟨W2, hW2⟩ : ∃ v, v = wr.alloc (Obj.cells #[.slice e1 ts.length f1, .slice e2 p.len f2] 51) := ⟨_, rfl⟩
      have P2 : Hid (WrP B b (l ++ joinT x.1 ++ pre) wr W2) := by unfold Hid; rw [hW2]; exact (WrP.refl hP.out.is).alloc (Nat.le_trans hB hP.out.be.size) _
      have Q2 : Hid (W2.heap[wr.heap.size]? = some (.cells #[.slice e1 ts.length f1, .slice e2 p.len f2] 51 (0, 0))) := by unfold Hid; rw [hW2]; exact obj_new _ _ _
      rw [← hW2]
      clear hW2 k1 k2
      have hB2 : B ≤ W2.heap.size := by have := hP.out.be.size; have := P2.out.be.size; omega
      have hbw : b < wr.heap.size := hP.out.is.ge.2
      go_wp2_with fail
      refine (writeS B b (l ++ joinT x.1 ++ pre) [32, 40] W2 P2.out.is (by have := HBound.out; simp only [List.length_append] at this ⊢; simp at this ⊢; omega) hB2).mono ?_
      rintro e w3 ⟨rfl, P3'⟩
      have Q3 := hide (kept_obj P3'.ok Q2.out (by omega) (by decide))
      have P3 := hide (P2.out.trans P3')
      have d0 : w3.cell? ⟨wr.heap.size, 0, none⟩ = some (.slice e1 ts.length f1) := by rw [Lib.cell_of_heap Q3.out]; rfl
      have d1 : w3.cell? ⟨wr.heap.size, 1, none⟩ = some (.slice e2 p.len f2) := by rw [Lib.cell_of_heap Q3.out]; rfl
      have hdl : wr.heap.size < w3.heap.size := World.block_lt_of_cell? w3 _ d0
      clear P3' P2 Q2
      go_wp2_with fail
      refine (HW.out _ w3 P3.out.be P3.out.is (by have := HBound.out; simp only [List.length_append] at this ⊢; omega)).mono ?_
      rintro e w4 ⟨rfl, P4'⟩
      have P4 := hide (P3.out.trans P4')
      clear P4' P3 Q3 d0 d1 hdl HW
      go_wp2_with fail
      refine (writeS B b _ [41] w4 P4.out.is (by have := HBound.out; simp only [List.length_append] at this ⊢; omega) (by have := P4.out.be.size; omega)).mono ?_
      rintro e w5 ⟨rfl, P5'⟩
      have P5 : Hid (WrP B b (l ++ joinT x.1 ++ (pre ++ [32, 40] ++ ndS (ts, p) ++ [41])) w w5) := by
        have h1 := hP.out.trans (P4.out.trans P5')
        unfold Hid
        simpa using h1
      have HC5 : Hid (r = .nil ∨ ∃ g', some (⟨g, 0, none⟩ : Addr) = some ⟨g', 0, none⟩ ∧ g' < B ∧ FC w5 (fun k => k < B) r g' (k + 1)) := .inr ⟨g, rfl, hgB, HRr.out.keep (KeptIn.belowK (P4.out.trans P5').be fun _ h => h) hgB⟩
      clear P5' P4 hP HRr
      go_wp2_with fail
      exact ⟨⟨k + 1, r, _, hkr, hrs, by go_num, HTold, P5, HC5, HG3⟩, by simp [intOf]; omega⟩
theorem write_any : ∀ (n : Nat) (x : Nd), x.2.sz ≤ n → WriteOk x := by
  intro n
  induction n with
  | zero => exact fun x h => write_step x fun y hy => absurd hy (by omega)
  | succ n ih => exact fun x h => write_step x fun y hy => ih y (by omega)
end Go.Proofs.Ytcmmjmgbanafgaa

/- The walk over syn.Dump. -/
namespace Go.Proofs.Url
open Syn
/-- All nodes of a row, a line each. -/
def Fo.lines : Fo → List UInt8
  | .nil => []
  | .cons ts p r => ndS (ts, p) ++ 10 :: r.lines
theorem shIs_lines : ∀ {p : Fo} {l : List Itm}, ShIs p l → p.lines = l.flatMap lineS
  | .nil, [], _ => rfl
  | .nil, _ :: _, h => h.elim
  | .cons t p r, [], h => h.elim
  | .cons t p r, y :: l, ⟨h, hr⟩ => by
    rw [List.flatMap_cons, shI_told h, ← shIs_lines hr]
    simp [Fo.lines]
end Go.Proofs.Url
namespace Go.Proofs.Ytcmmjmgbanafgaa
open Go.RowKit Go.Proofs.Url Go.Proofs.Url.Syn

/-- What tree.Read gives, whatever the text: nodes, what is wrong. -/
theorem treeRead_all (s : List UInt8) (w : World) (hs : s.length < 4294967281) :
    Calls Try.prog 14 #[.string ⟨s.toArray⟩] w fun e w' => ∃ (F : Fo) (a : Option Addr) (c : Nat) (x y : Nat) (xs : List Itm), e = .returned (.tuple #[.slice a F.len c, .agg #[.int .i64 x, .int .i64 y]]) ∧ Below w.heap.size w w' ∧ FA w' (Old w') a F ∧ ShIs F xs ∧ F.fit 4294967280 ∧ F.len ≤ 2000 ∧ F.lines.length ≤ 16200000 ∧
      ((readS10 s = .ok xs ∧ x = 0 ∧ y = 0) ∨ (readS10 s = .bad x y ∧ xs = [])) := by
  refine (treeRead_any s w hs).mono fun e w' h => ?_
  have h2 := h.2
  cases hx : readS10 s with
  | ok xs =>
    rw [hx] at h2
    obtain ⟨F, a, c, he, hF, hS, h3, h4⟩ := h2
    exact ⟨F, a, c, 0, 0, xs, he, h.1, hF.sub fun b k => k.2, hS, h3, h4, by rw [shIs_lines hS]; exact readS10_len hx, .inl ⟨rfl, rfl, rfl⟩⟩
  | bad c p =>
    rw [hx] at h2
    exact ⟨.nil, none, 0, c, p, [], h2, h.1, .inl rfl, trivial, trivial, by simp [Fo.len], by simp [Fo.lines], .inr ⟨rfl, rfl⟩⟩
/-- What Dump answers. -/
def DumpPost (s : List UInt8) (w : World) (e : Ending) (w' : World) : Prop :=
  Below w.heap.size w w' ∧ (match readS10 s with
    | .ok xs => e = .returned (.tuple #[.string ⟨(xs.flatMap lineS).toArray⟩, .agg #[.int .i64 0, .int .i64 0]])
    | .bad c p => e = .returned (.tuple #[.string ⟨#[]⟩, .agg #[.int .i64 c, .int .i64 p]]))
theorem resReadDump {W : World} {m : Nat} {v : Value} {x y : Int} {tmps : Array Value} (h : WB W m x y) (h2 : tmps[2]?.getD undef = v) (h3 : tmps[3]?.getD undef = .pointer (some ⟨m, 0, none⟩)) :
    (results Try.f10 tmps).run Try.prog W = .ok (.tuple #[v, .agg #[.int .i64 x, .int .i64 y]]) W := by
  obtain ⟨c0, c1, _⟩ := h
  simp [results, Try.results10, go_sem, h2, h3, c0, c1]
structure RD (w : World) (b m3 m5 : Nat) (D : List UInt8) (x y : Int) (L : Nat → Bool) (W : World) : Prop where
  is : L 0 = false → IsB b b D W
  x5 : WB W m5 x y
  r3 : ∃ u v, WB W m3 u v ∧ (L 3 = true → u = x ∧ v = y)
  be : Below w.heap.size w W
  sz : b ≤ W.heap.size
theorem RD.same {w : World} {b m3 m5 : Nat} {D : List UInt8} {x y : Int} {L : Nat → Bool} {W : World} (h : RD w b m3 m5 D x y L W) {i : Nat} (h3 : i ≠ 3) : RD w b m3 m5 D x y (RP.also L i) W := by
  refine ⟨fun hL => h.is ?_, h.x5, ?_, h.be, h.sz⟩
  · unfold RP.also at hL
    split at hL
    · cases hL
    · exact hL
  · have e : RP.also L i 3 = L 3 := by unfold RP.also; rw [if_neg (fun e => h3 e.symm)]
    rw [e]; exact h.r3
theorem WB.there {W : World} {g : Nat} {a b : Int} (h : WB W g a b) : W.there g 0 2 := by
  intro j hj
  rw [Nat.zero_add]
  match j, hj with
  | 0, _ => exact ⟨by rw [h.c0]; rfl, h.fr 0 (by decide)⟩
  | 1, _ => exact ⟨by rw [h.c1]; rfl, h.fr 1 (by decide)⟩
theorem WB.range {W : World} {g : Nat} {a b : Int} (h : WB W g a b) : W.rangeAt g 0 [.int .i64 a, .int .i64 b] := by
  intro j v hj
  match j, hj with
  | 0, hj => cases hj; exact h.c0
  | 1, hj => cases hj; exact h.c1
theorem IsB.set2 {b m : Nat} {l : List UInt8} {W : World} (h : IsB b b l W) (hm : m < b) (x y : Int) : IsB b b l (put2 W m x y) := by
  have hk : ∀ q, b ≤ q → (put2 W m x y).heap[q]? = W.heap[q]? := fun q hq => by
    unfold put2; rw [Below.heap_setCell _ _ _ _ (by show q ≠ m; omega), Below.heap_setCell _ _ _ _ (by show q ≠ m; omega)]
  rcases h with h | h
  · obtain ⟨h1, v, hbk, hown, hne⟩ := h
    exact .inl ⟨h1, v, by rw [hk b (Nat.le_refl _)]; exact hbk, ownsq_kept hown (fun q hq => hk q hq.1), hne⟩
  · obtain ⟨h1, v, hbk, hown, hne⟩ := h
    exact .inr ⟨h1, v, by rw [hk b (Nat.le_refl _)]; exact hbk, ownsq_kept hown (fun q hq => hk q hq.1), hne⟩
set_option maxHeartbeats 4000000 in
set_option maxRecDepth 100000 in
theorem dump_any (s : List UInt8) (w : World) (hs : s.length < 4294967281) :
    Calls Try.prog 10 #[.string ⟨s.toArray⟩] w fun e w' => DumpPost s w e w' := by
  have HS := hide hs
  clear hs
  go_enter Try.func10, Try.ntmps10
  go_upto_region 1 with fail
  obtain ⟨W0, hW0⟩ : ∃ x, x = w.alloc (Obj.cells #[.int .i64 0, .int .i64 0] 25) := ⟨_, rfl⟩
  have R0 : Hid (WB W0 w.heap.size 0 0) := by unfold Hid; rw [hW0]; exact WB.new w 0 0 _
  have B0 : Hid (Below w.heap.size w W0) := by unfold Hid; rw [hW0]; exact (Below.refl _ _).alloc (Nat.le_refl _) _
  rw [← hW0]
  clear hW0
  go_wp2_with fail
  refine (treeRead_all s W0 HS.out).mono ?_
  rintro e w1 ⟨F, a, c, x, y, xs, rfl, b1, hFA, hSh, hfit, hlen, hlin, hor⟩
  have R1 := hide (R0.out.keep b1)
  have B1 := hide (B0.out.trans (b1.mono B0.out.size))
  have hs1 := b1.size
  have hr1 := R1.out.lt
  have HEnd : Hid (∀ w', Below w.heap.size w w' → DumpPost s w (.returned (.tuple #[.string ⟨F.lines.toArray⟩, .agg #[.int .i64 x, .int .i64 y]])) w') := fun w' hb => by
    refine ⟨hb, ?_⟩
    rcases hor with ⟨hx, rfl, rfl⟩ | ⟨hx, rfl⟩
    · rw [hx, shIs_lines hSh]; rfl
    · rw [hx, shIs_lines hSh]; rfl
  have HFA := hide hFA
  have HFit := hide hfit
  have HLn := hide hlen
  have HLin := hide hlin
  clear b1 R0 hor hSh hFA hfit hlen hlin B0
  go_upto_region 3 with fail
  obtain ⟨W2, hW2⟩ : ∃ v, v = w1.alloc (Obj.cells #[.int .i64 x, .int .i64 y] 25) := ⟨_, rfl⟩
  have b2 : Below w1.heap.size w1 W2 := by rw [hW2]; exact (Below.refl _ _).alloc (Nat.le_refl _) _
  have X2 : Hid (WB W2 w1.heap.size x y) := by unfold Hid; rw [hW2]; exact WB.new w1 _ _ _
  have s2 : W2.heap.size = w1.heap.size + 1 := by rw [hW2]; simp
  obtain ⟨W3, hW3⟩ : ∃ v, v = W2.alloc (Obj.cells #[.pointer none, .slice none 0 0] 49) := ⟨_, rfl⟩
  have b3 : Below W2.heap.size W2 W3 := by rw [hW3]; exact (Below.refl _ _).alloc (Nat.le_refl _) _
  have I3 : Hid (IsB W2.heap.size W2.heap.size [] W3) := by unfold Hid; rw [hW3]; exact Lib.fresh_isBuilder _ _ _
  have e2 : w1.heap.size + 1 = W2.heap.size := s2.symm
  rw [← hW2]
  simp only [e2]
  rw [← hW3]
  have hbl : w1.heap.size < W2.heap.size := by omega
  have R3 := hide ((R1.out.keep b2).keep b3)
  have X3 := hide (X2.out.keep b3)
  have B3 := hide ((B1.out.trans (b2.mono B1.out.size)).trans (b3.mono (by have := B1.out.size; omega)))
  have F3 : Hid (FA W3 (fun k => k < W2.heap.size) a F) := ((HFA.out.keep (KeptIn.belowK b2 fun _ k => k)).keep (KeptIn.belowK b3 fun b k => Nat.lt_trans k hbl)).sub fun b k => Nat.lt_trans k hbl
  have h3l : W2.heap.size < W3.heap.size := I3.out.ge.2
  clear hW2 hW3 b2 b3 R1 X2 B1 HFA s2 e2
  go_wp2_with fail
  go_loopw [16] (fun iv W => ∃ (k : Nat) (G : Fo) (pre : List UInt8), k + G.len = F.len ∧ iv = .int .i64 k ∧ Hid (pre ++ G.lines = F.lines) ∧ Hid (IsB W2.heap.size W2.heap.size pre W) ∧ Hid (Below W2.heap.size W3 W) ∧ Hid (G = .nil ∨ ∃ g, a = some ⟨g, 0, none⟩ ∧ g < W2.heap.size ∧ FC W (fun k => k < W2.heap.size) G g k) ∧ Hid (G.fit 4294967280)) (fun iv _ => F.len - (intOf iv).toNat)
  case atStart =>
    refine ⟨0, F, [], by omega, rfl, rfl, I3, Below.refl _ _, ?_, HFit⟩
    rcases F3.out with h | h
    · exact .inl h
    · exact .inr h
  case round =>
    obtain ⟨k, G, pre, hk, rfl, hT, hI, hB, hC, hG⟩ := hrel
    clear I3 F3
    cases G with
    | nil =>
      have hlI : ¬ (k : Int) < (F.len : Int) := by simp [Fo.len] at hk; omega
      have HT2 : Hid (pre = F.lines) := by unfold Hid; have := hT.out; simpa [Fo.lines] using this
      obtain rfl := HT2.out
      have hbw := hB.out.size
      have R4 := hide (R3.out.keepB hB.out (by omega))
      have X4 := hide (X3.out.keepB hB.out hbl)
      have B4 : Hid (Below w.heap.size w wr) := B3.out.trans (hB.out.mono (by omega))
      clear hT HT2 hC hG hk R3 X3 B3
      have IF : Hid ((Try.prog.info? 25).map (·.size) = some 2) := by unfold Hid; kernel_rfl
      go_upto_region 9 with fail
      refine RP.wp_region_posts (X := fun _ _ => False) (l := [_, _, _, _]) (by kernel_rfl) (RD w W2.heap.size w.heap.size w1.heap.size F.lines x y) (fun _ _ _ => True)
        [some 24, some 25, some 2, none] [[], [], [0], [1]]
        [fun v _ => v = .string ⟨F.lines.toArray⟩, fun v _ => v = .agg #[.int .i64 x, .int .i64 y], fun v _ => v = .string ⟨F.lines.toArray⟩, fun _ _ => True]
        (fun _ _ _ _ _ _ h => h.elim) rfl (by kernel_rfl) (by kernel_rfl) (by kernel_rfl) (by kernel_rfl) ?_ ?_ ?_ ?_
      · exact .eq (.eq (.eq (.cons (fun _ _ _ _ _ _ _ h => h) .nil)))
      · intro L hL
        exact ⟨fun _ => hI.out.below ((Below.refl _ _).drew), X4.out.keep ((Below.refl _ _).drew), ⟨0, 0, R4.out.keep ((Below.refl _ _).drew), fun h => absurd h (by rw [hL 3]; decide)⟩, B4.out.drew, by show W2.heap.size ≤ wr.heap.size; omega⟩
      · refine .cons ?_ (.cons ?_ (.cons ?_ (.cons ?_ .nil)))
        all_goals (intro L A W hLi hC old nd)
        all_goals (refine RP.runs_none rfl ?_)
        · have e6 : (A.tmps[6]?).getD undef = .pointer (some ⟨W2.heap.size, 0, none⟩) := old 6 (by kernel_rfl)
          simp [RP.Oper.gives, RP.gives, go_sem, e6]
          refine (Try.Builder_String_any W2.heap.size W2.heap.size F.lines W (hC.is hLi) hC.sz).mono fun e W' h => ?_
          obtain ⟨rfl, hb⟩ := h
          refine ⟨_, rfl, ⟨fun hL => ?_, hC.x5.keepB hb hbl, ?_, hC.be.trans (hb.mono (by omega)), Nat.le_trans hC.sz hb.size⟩, rfl⟩
          · rw [RP.also_self] at hL; cases hL
          · obtain ⟨u, v, h1, h2⟩ := hC.r3
            refine ⟨u, v, h1.keepB hb (by omega), fun hL => h2 ?_⟩
            rw [← hL]; unfold RP.also; rw [if_neg (by decide)]
        · have e5 : (A.tmps[5]?).getD undef = .pointer (some ⟨w1.heap.size, 0, none⟩) := old 5 (by kernel_rfl)
          exact RP.gives_row 25 (.tmp 5) rfl _ 0 (by simpa [Act.eval] using e5) [.int .i64 x, .int .i64 y] _ hC.x5.range Try.underlying25 rfl IF.out ⟨hC.same (by decide), trivial, rfl⟩
        · have e24 : (A.tmps[24]?).getD undef = .string ⟨F.lines.toArray⟩ := nd.1
          simp [RP.Oper.gives, RP.gives, go_sem, e24]
          exact ⟨hC.same (by decide), rfl⟩
        · have e3 : (A.tmps[3]?).getD undef = .pointer (some ⟨w.heap.size, 0, none⟩) := old 3 (by kernel_rfl)
          have e25 : (A.tmps[25]?).getD undef = .agg #[.int .i64 x, .int .i64 y] := nd.1
          obtain ⟨u, v, h1, h2⟩ := hC.r3
          have hm := h1.lt
          refine RP.gives_storeN 25 (.tmp 3) (.tmp 25) rfl w.heap.size 0 (.int .i64 x) (.int .i64 y) (by simpa [Act.eval] using e3) (by simpa [Act.eval] using e25) h1.there IF.out rfl rfl ?_
          have hp := h1.put (x : Int) (y : Int)
          have bb : Below w.heap.size W (put2 W w.heap.size x y) := put2_below (Below.refl _ _) _ (Nat.le_refl _) _ _
          refine ⟨⟨fun hL => ?_, hC.x5.otherp (by omega) _ _, ⟨x, y, hp, fun _ => ⟨rfl, rfl⟩⟩, hC.be.trans bb, Nat.le_trans hC.sz bb.size⟩, trivial, trivial⟩
          have h0 : L 0 = false := by rw [← hL]; unfold RP.also; rw [if_neg (by decide)]
          exact IsB.set2 (hC.is h0) (by omega) _ _
      · intro L W hall hC E hE
        refine .cons fun v1 h1 => .cons fun v2 h2 => .cons fun v3 h3 => .cons fun v4 h4 => .nil ?_
        subst h1
        subst h2
        subst h3
        obtain ⟨u, v, h5, h6⟩ := hC.r3
        obtain ⟨rfl, rfl⟩ := h6 (hall 3 (by decide))
        have HW := hide h5
        have HE2 := hide (HEnd.out W hC.be)
        clear hC h5 h6 hI HEnd
        simp only [Act.put, List.setIfInBounds_toArray, List.set_cons_zero, List.set_cons_succ]
        refine hE _ ?_
        go_wp2_with fail
        refine bodyPost_ret (v := .tuple #[.string ⟨F.lines.toArray⟩, .agg #[.int .i64 x, .int .i64 y]]) ?_ rfl ?_
        · exact resReadDump HW.out rfl rfl
        · exact HE2.out
    | cons ts p r =>
      obtain ⟨g, rfl, hgB, e1, f1, e2, f2, k1, k2, ht, hp, hr⟩ := hC.out.resolve_left (by simp)
      have hlI : (k : Int) < (F.len : Int) := by simp [Fo.len] at hk; omega
      have hkl : k < F.len := by simp [Fo.len] at hk; omega
      have hbw := hB.out.size
      have hgw : g < wr.heap.size := by omega
      have hG2 := hG.out
      have HRr := hide hr
      have HG3 := hide hG2.2.2.2.2
      have hkr : k + 1 + r.len = F.len := by simp [Fo.len] at hk; omega
      have hil : (k : Int) < 4294967281 := by have := HLn.out; omega
      have HTold : Hid ((pre ++ ndS (ts, p) ++ [10]) ++ r.lines = F.lines) := by unfold Hid; rw [← hT.out]; simp [Fo.lines]
      have HBound : Hid ((pre ++ ndS (ts, p) ++ [10]).length < 4294967260) := by
        unfold Hid
        have h1 := HLin.out
        rw [← HTold.out] at h1
        simp only [List.length_append] at h1 ⊢
        omega
      have HNd : Hid (NA wr (fun k => k < W2.heap.size) e1 e2 (ts, p)) := ⟨ht, hp⟩
      have hts : ts.length ≤ 4294967280 := hG2.1
      have hpl : p.len ≤ 4294967280 := hG2.2.1
      have HPf := hide hG2.2.2.2.1
      clear hC hG hG2 hT hp hr ht hk
      go_upto_region 6 with fail
      obtain ⟨W5, hW5⟩ : ∃ v, v = wr.alloc (Obj.cells #[.slice e1 ts.length f1, .slice e2 p.len f2] 51) := ⟨_, rfl⟩
      have P5 : Hid (WrP W2.heap.size W2.heap.size pre wr W5) := by unfold Hid; rw [hW5]; exact (WrP.refl hI.out).alloc (by omega) _
      have Q5 : Hid (W5.heap[wr.heap.size]? = some (.cells #[.slice e1 ts.length f1, .slice e2 p.len f2] 51 (0, 0))) := by unfold Hid; rw [hW5]; exact obj_new _ _ _
      rw [← hW5]
      clear hW5 k1 k2
      have d0 : W5.cell? ⟨wr.heap.size, 0, none⟩ = some (.slice e1 ts.length f1) := by rw [Lib.cell_of_heap Q5.out]; rfl
      have d1 : W5.cell? ⟨wr.heap.size, 1, none⟩ = some (.slice e2 p.len f2) := by rw [Lib.cell_of_heap Q5.out]; rfl
      have hdl : wr.heap.size < W5.heap.size := World.block_lt_of_cell? W5 _ d0
      clear Q5
      go_wp2_with fail
      refine (write_any _ (ts, p) (Nat.le_refl _) e1 e2 f1 f2 W2.heap.size W2.heap.size pre W5 (HNd.out.keep (KeptIn.belowK P5.out.be fun _ h => h)) P5.out.is (by omega) hts hpl HPf.out (by have := HBound.out; simp only [List.length_append] at this ⊢; omega)).mono ?_
      rintro e w6 ⟨rfl, P6'⟩
      have P6 := hide (P5.out.trans P6')
      clear P6' P5 d0 d1 hdl
      go_wp2_with fail
      refine (writeS W2.heap.size W2.heap.size _ [10] w6 P6.out.is (by have := HBound.out; simp only [List.length_append] at this ⊢; omega) (by have := P6.out.be.size; omega)).mono ?_
      rintro e w7 ⟨rfl, P7'⟩
      have P7 := hide (P6.out.trans P7')
      have I7 : Hid (IsB W2.heap.size W2.heap.size (pre ++ ndS (ts, p) ++ [10]) w7) := P7.out.is
      have B7 : Hid (Below W2.heap.size W3 w7) := hB.out.trans P7.out.be
      have HC7 : Hid (r = .nil ∨ ∃ g', some (⟨g, 0, none⟩ : Addr) = some ⟨g', 0, none⟩ ∧ g' < W2.heap.size ∧ FC w7 (fun k => k < W2.heap.size) r g' (k + 1)) := .inr ⟨g, rfl, hgB, HRr.out.keep (KeptIn.belowK P7.out.be fun _ h => h) hgB⟩
      clear P7' P6 P7 hB hI HRr HNd
      go_wp2_with fail
      exact ⟨⟨k + 1, r, _, hkr, by go_num, HTold, I7, B7, HC7, HG3⟩, by simp [intOf]; omega⟩
end Go.Proofs.Ytcmmjmgbanafgaa
