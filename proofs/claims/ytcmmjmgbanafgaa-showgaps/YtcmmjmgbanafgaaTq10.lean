/- tree.reader's file: its deferred function; what its loop needs. -/
import Derived.Test.YtcmmjmgbanafgaaTq9
import Derived.Test.YtcmmjmgbanafgaaRegQ
import Derived.Recover
namespace Go.Proofs.Url
open Syn
/-- What is left is no more than so much. -/
def LeR {α : Type} (x : Rd α) (n : Nat) : Prop := ∀ a r, x = .ok a r → r.length ≤ n
theorem LeR.bind {α β : Type} {x : Rd α} {n : Nat} {f : α → List Tk → Rd β} (h : LeR x n) (k : ∀ a r, r.length ≤ n → LeR (f a r) n) : LeR (x.then f) n := by
  intro b r e
  obtain ⟨a, r1, h1, h2⟩ := then_ok e
  exact k a r1 (h _ _ h1) _ _ h2
theorem LeR.map {α β : Type} {x : Rd α} {n : Nat} {f : α → β} (h : LeR x n) : LeR (x.map f) n := by
  intro b r e
  obtain ⟨a, h1, _⟩ := map_ok e
  exact h _ _ h1
theorem LeR.mono {α : Type} {x : Rd α} {n m : Nat} (h : LeR x n) (hm : n ≤ m) : LeR x m := fun a r e => Nat.le_trans (h a r e) hm
theorem LeR.okq {α : Type} (a : α) (ts : List Tk) : LeR (.ok a ts) ts.length := fun _ _ e => by cases e; exact Nat.le_refl _
theorem LeR.badq {α : Type} (ts : List Tk) (n : Nat) : LeR (.bad ts : Rd α) n := fun _ _ e => by cases e
theorem LeR.kind (k : Nat) (ts : List Tk) : LeR (kindR k ts) ts.length := fun a r e => by
  obtain ⟨h, _⟩ := kindR_ok e
  rw [h]; simp
theorem LeR.need (w : List UInt8) (ts : List Tk) : LeR (needR w ts) ts.length := fun a r e => by
  obtain ⟨_, h⟩ := needR_ok e
  rw [h, List.length_tail]; omega
theorem LeR.semi {α : Type} {x : Rd α} {n : Nat} (h : LeR x n) : LeR (semiR x) n := by
  rw [semi_then]
  exact h.bind fun a r hr => ((LeR.need w_semi r).mono hr).bind fun _ r2 hr2 => (LeR.okq a r2).mono hr2
theorem LeR.attrs : ∀ (k : Nat) (ts : List Tk), LeR (attrsF k ts) ts.length
  | 0, ts => LeR.badq ts _
  | k + 1, ts => by
    rw [attrs_succq]
    split
    · exact LeR.okq _ _
    · intro l r e
      obtain ⟨a, r1, h1, h2⟩ := then_ok e
      have := semi_short h1
      have := ((LeR.attrs k r1).map (f := fun l => a :: l)) _ _ h2
      omega
theorem LeR.for' (ts : List Tk) : LeR (forS ts) ts.length := fun a r e => by
  have := (short_all _).2.2.2.1 _ _ _ e
  omega
theorem item_shortq {ts : List Tk} {a : Itm} {r : List Tk} (h : itemR ts = .ok a r) : r.length < ts.length := by
  unfold itemR at h
  split at h
  · rename_i hq
    have := isT_len hq
    have hh := (LeR.semi ((LeR.kind 1 ts.tail).bind fun nm r hr => ((LeR.kind 3 r).mono hr).map)) _ _ h
    omega
  split at h
  · rename_i hq
    have := isT_len hq
    have hh := (LeR.semi ((LeR.kind 1 ts.tail).bind fun nm r hr => ((LeR.need w_at r).mono hr).bind fun _ r hr => ((LeR.kind 1 r).mono hr).bind fun _ r hr => ((LeR.kind 3 r).mono hr).map)) _ _ h
    omega
  split at h
  · rename_i hq
    have := isT_len hq
    have hh := (LeR.semi ((LeR.kind 1 ts.tail).map)) _ _ h
    omega
  split at h
  · rename_i hq
    have := isT_len hq
    have hh := (LeR.semi (LeR.okq _ ts.tail)) _ _ h
    omega
  split at h
  · rename_i hq
    have := isT_len hq
    have hh := ((LeR.kind 1 ts.tail).bind fun nm r hr => ((LeR.need w_at r).mono hr).bind fun _ r hr => ((LeR.kind 1 r).mono hr).bind fun _ r hr => ((LeR.kind 5 r).mono hr).bind fun _ r hr => ((LeR.kind 3 r).mono hr).bind fun _ r hr =>
      ((LeR.need w_lbr r).mono hr).bind fun _ r hr => ((LeR.attrs (r.length + 1) r).mono hr).bind fun _ r hr => ((LeR.need w_rbr r).mono hr).map) _ _ h
    omega
  split at h
  · rename_i hq
    have := isT_len hq
    have hh := (LeR.semi ((LeR.kind 1 ts.tail).bind fun nm r hr => ((LeR.need w_eq r).mono hr).bind fun _ r hr => ((LeR.for' r).mono hr).map)) _ _ h
    omega
  · cases h
theorem items_succ (k : Nat) (t : Tk) (r : List Tk) : itemsF (k + 1) (t :: r) = (itemR (t :: r)).then fun x r' => (itemsF k r').map fun l => x :: l := by rw [itemsF]
theorem items_nil (k : Nat) : itemsF (k + 1) [] = .ok [] [] := by rw [itemsF]
theorem shIs_snoc {ns : List Nd} {ys : List Itm} {x : Nd} {y : Itm} (h : ShIs (Fo.ofL ns) ys) (hx : ShI x y) : ShIs (Fo.ofL (ns ++ [x])) (ys ++ [y]) := by
  induction ns generalizing ys with
  | nil =>
    cases ys with
    | nil => exact ⟨hx, trivial⟩
    | cons b l => exact h.elim
  | cons z ns ih =>
    cases ys with
    | nil => exact h.elim
    | cons b l => exact ⟨h.1, ih h.2⟩
end Go.Proofs.Url
namespace Go.Proofs.Ytcmmjmgbanafgaa
open Go.RowKit Go.Proofs.Url Go.Proofs.Url.Syn

/-- file's own cells: its reader's address, its items, what is wrong. -/
structure FB (W : World) (b g : Nat) (v : Value) (x y : Int) : Prop where
  c0 : W.cell? ⟨b, 0, none⟩ = some (.pointer (some ⟨g, 0, none⟩))
  c1 : W.cell? ⟨b + 1, 0, none⟩ = some v
  f1 : W.frozen? ⟨b + 1, 0, none⟩ = false
  wb : WB W (b + 2) x y
theorem FB.lt {W : World} {b g : Nat} {v : Value} {x y : Int} (h : FB W b g v x y) : b + 2 < W.heap.size := h.wb.lt
theorem FB.keep {W W' : World} {b g : Nat} {v : Value} {x y : Int} (h : FB W b g v x y) (hk : KeptIn (In b (b + 3)) W W') : FB W' b g v x y := by
  refine ⟨hk.cell ⟨Nat.le_refl _, by omega⟩ h.c0, hk.cell ⟨by omega, by omega⟩ h.c1, ?_, ⟨hk.cell ⟨by omega, by omega⟩ h.wb.c0, hk.cell ⟨by omega, by omega⟩ h.wb.c1, fun j hj => ?_⟩⟩
  · have e := hk (b + 1) ⟨by omega, by omega⟩
    unfold World.frozen?; simp only [e]; exact h.f1
  · have e := hk (b + 2) ⟨by omega, by omega⟩
    unfold World.frozen?; simp only [e]; exact h.wb.fr j hj
theorem FB.set {W : World} {b g : Nat} {v : Value} {x y : Int} (h : FB W b g v x y) (u : Value) : FB (W.setCell ⟨b + 1, 0, none⟩ u) b g u x y := by
  have hk : KeptIn (fun k => k ≠ b + 1) W (W.setCell ⟨b + 1, 0, none⟩ u) := KeptIn.setK (fun k => k rfl)
  refine ⟨hk.cell (by omega) h.c0, tcell_same h.c1, by rw [World.frozen?_setCell]; exact h.f1, ⟨hk.cell (by omega) h.wb.c0, hk.cell (by omega) h.wb.c1, fun j hj => by rw [World.frozen?_setCell]; exact h.wb.fr j hj⟩⟩
theorem FB.put {W : World} {b g : Nat} {v : Value} {x y : Int} (h : FB W b g v x y) (x' y' : Int) : FB (put2 W (b + 2) x' y') b g v x' y' := by
  have hk : KeptIn (fun k => k ≠ b + 2) W (put2 W (b + 2) x' y') := (KeptIn.setK (fun k => k rfl)).trans (KeptIn.setK (fun k => k rfl))
  refine ⟨hk.cell (by omega) h.c0, hk.cell (by omega) h.c1, ?_, h.wb.put x' y'⟩
  have e := hk (b + 1) (by omega)
  unfold World.frozen?; simp only [e]; exact h.f1
set_option maxHeartbeats 1000000 in
theorem catch_panicking (b g : Nat) (ao : Option Addr) (cap : Nat) (ts r : List Tk) (n : Nat) (v : Value) (x y : Int) (u : TypeId) (pv : Value) (older : List PanicEntry) (w : World) (h : FB w b g v x y) (hr : RS w g ao cap ts r n) :
    CallsD Try.prog 51 #[.pointer (some ⟨b, 0, none⟩), .pointer (some ⟨b + 1, 0, none⟩), .pointer (some ⟨b + 2, 0, none⟩)] (.panicking ({ v := .iface u pv, recovered := false } :: older)) w fun e u' w' =>
      e = .returned (.tuple #[]) ∧ u' = .panicking ({ v := .iface u pv, recovered := true } :: older) ∧ FB w' b g (.slice none 0 0) 4 (atR n r) ∧ Below b w w' := by
  have HA := hide (at_any g ao cap ts r n w hr)
  have HF := hide h
  have hl := h.lt
  have c0 := h.c0
  clear h hr
  refine callsD_of_wpS Try.func51 rfl fun c₀ cs hu => ?_
  apply wpS_seq
  apply wpS_region
  simp [wpOpsS, go_sem, recoverD, hu, Try.ntmps51, Exit.thenS]
  refine wpS_cond (t := true) (by simp [Act.eval, Array.replicate]) ?_
  simp only [if_true]
  refine wpS_of_wp ?_
  go_wp2_with fail
  refine HA.out.mono ?_
  rintro e w1 ⟨rfl, b1⟩
  have F1 := hide (HF.out.keep (KeptIn.below b1 (by omega) _))
  have B1 : Hid (Below b w w1) := b1.mono (by omega)
  have c1 := F1.out.c1
  have f1 := F1.out.f1
  have d0 := F1.out.wb.c0
  have d1 := F1.out.wb.c1
  have e0 := F1.out.wb.fr 0 (by decide)
  have e1 := F1.out.wb.fr 1 (by decide)
  have hl1 := F1.out.lt
  have NF := hide ((F1.out.set (.slice none 0 0)).put 4 (atR n r))
  have BF : Hid (Below b w (put2 (w1.setCell ⟨b + 1, 0, none⟩ (.slice none 0 0)) (b + 2) 4 (atR n r))) := put2_below (B1.out.setCell (p := ⟨b + 1, 0, none⟩) (by show b ≤ b + 1; omega) _) _ (by omega) _ _
  unfold put2 at NF BF
  clear F1 B1 HF HA b1 c0
  go_wp2_with fail
  exact ⟨rfl, _, rfl, .tuple #[], by simp [results, Try.results51], rfl, rfl, NF.out, BF.out⟩
theorem catch_idle (b : Nat) (w : World) :
    CallsD Try.prog 51 #[.pointer (some ⟨b, 0, none⟩), .pointer (some ⟨b + 1, 0, none⟩), .pointer (some ⟨b + 2, 0, none⟩)] .returning w fun e u' w' => e = .returned (.tuple #[]) ∧ u' = .returning ∧ w' = w := by
  refine callsD_of_wpS Try.func51 rfl fun c₀ cs hu => ?_
  apply wpS_seq
  apply wpS_region
  simp [wpOpsS, go_sem, recoverD, hu, Try.ntmps51, Exit.thenS]
  refine wpS_cond (t := false) (by simp [Act.eval, Array.replicate]) ?_
  simp only [Bool.false_eq_true, if_false]
  refine wpS_of_wp (wp_skip ?_)
  cases c₀
  simp_all [bodyPostS, results, Try.results51]
theorem resReadFile {W : World} {b g : Nat} {v : Value} {x y : Int} {tmps : Array Value} (h : FB W b g v x y) (hv : ∃ a n c, v = .slice a n c) (h2 : tmps[2]?.getD undef = .pointer (some ⟨b + 1, 0, none⟩)) (h3 : tmps[3]?.getD undef = .pointer (some ⟨b + 2, 0, none⟩)) :
    (results Try.f26 tmps).run Try.prog W = .ok (.tuple #[v, .agg #[.int .i64 x, .int .i64 y]]) W := by
  obtain ⟨a, n, c, rfl⟩ := hv
  have c1 := h.c1
  have d0 := h.wb.c0
  have d1 := h.wb.c1
  simp [results, Try.results26, go_sem, h2, h3, c1, d0, d1]
/-- What file answers. -/
def FilePost (ts : List Tk) (n g : Nat) (w : World) (e : Ending) (w' : World) : Prop :=
  ButP g w w' ∧ (match itemsF (ts.length + 1) ts with
    | .ok ys _ => ∃ (F : Fo) (a : Option Addr) (c : Nat), e = .returned (.tuple #[.slice a F.len c, .agg #[.int .i64 0, .int .i64 0]]) ∧ FA w' (In w.heap.size w'.heap.size) a F ∧ ShIs F ys
    | .bad r' => e = .returned (.tuple #[.slice none 0 0, .agg #[.int .i64 4, .int .i64 (atR n r')]]))
theorem FilePost.bad {ts r' : List Tk} {n g : Nat} {w w' : World} (hx : itemsF (ts.length + 1) ts = .bad r') (hb : ButP g w w') : FilePost ts n g w (.returned (.tuple #[.slice none 0 0, .agg #[.int .i64 4, .int .i64 (atR n r')]])) w' := by
  unfold FilePost; rw [hx]; exact ⟨hb, rfl⟩
theorem FilePost.ok {ts r' : List Tk} {ys : List Itm} {n g : Nat} {w w' : World} {F : Fo} {a : Option Addr} {c : Nat} (hx : itemsF (ts.length + 1) ts = .ok ys r') (hb : ButP g w w') (hf : FA w' (In w.heap.size w'.heap.size) a F) (hs : ShIs F ys) : FilePost ts n g w (.returned (.tuple #[.slice a F.len c, .agg #[.int .i64 0, .int .i64 0]])) w' := by
  unfold FilePost; rw [hx]; exact ⟨hb, F, a, c, rfl, hf, hs⟩
theorem ownsq_set {W : World} {base q : Nat} {e : TypeId} {size n c : Nat} {xs : List Value} (h : W.ownsRow base e size (.slice (some ⟨q, 0, none⟩) n c) n xs) (hn : 0 < n) (j : Nat) (v : Value) : (W.setCell ⟨q, j, none⟩ v).ownsRow base e size (.slice (some ⟨q, 0, none⟩) n c) n (xs.set j v) := by
  refine ⟨by rw [List.length_set]; exact h.1, ?_⟩
  rcases h.2 with ⟨hv, h0⟩ | ⟨g', cap', cur, hv, hg, hh, hn', hm, hsz, htk⟩
  · omega
  · simp only [Value.slice.injEq, Option.some.injEq, Addr.mk.injEq, and_true, true_and] at hv
    obtain ⟨rfl, rfl⟩ := hv
    refine .inr ⟨q, c, cur.setIfInBounds j v, rfl, hg, ?_, hn', hm, by rw [Array.size_setIfInBounds]; exact hsz, ?_⟩
    · simp [World.setCell, Array.getElem?_modify, hh]
    · rw [Array.toList_setIfInBounds, List.take_set, htk]
/-- What an item that was read is. -/
def ItmP (B : Nat) (a : Itm) (v : Value) (W : World) : Prop := ∃ (y2 : Nd) (p1 : Option Addr) (q1 : Nat) (p2 : Option Addr) (q2 : Nat), v = .agg #[.slice p1 y2.1.length q1, .slice p2 y2.2.len q2] ∧ NA W (In B W.heap.size) p1 p2 y2 ∧ ShI y2 a
def ZeroP (B : Nat) (v : Value) (W : World) : Prop := ∃ z : Nat, v = .slice (some ⟨z, 0, none⟩) 1 1 ∧ B ≤ z ∧ W.rangeAt z 0 [.slice none 0 0, .slice none 0 0]
theorem RP.gives_storeN {P : Program} {X : List PanicEntry → World → Prop} {o : Oper} {a : Act} {w : World} {K : Value → World → Prop} (ty : TypeId) (x y : Operand) (ho : o.op = .store ty x y) (b off : Nat) (v1 v2 : Value) (hx : a.eval x = .pointer (some ⟨b, off, none⟩)) (hy : a.eval y = .agg #[v1, v2])
    (ht : w.there b off 2) (hi : (P.info? ty).map (·.size) = some 2) (h1 : v1.oneCell' = true) (h2 : v2.oneCell' = true) (hK : K undef ((w.setCell ⟨b, off, none⟩ v1).setCell ⟨b, off + 1, none⟩ v2)) : RP.Oper.gives P X o a w K := by
  unfold RP.Oper.gives
  unfold execOp
  have h := run_storeAt_mid (P := P) w b off ty #[v1, v2] ht hi (by simp [h1, h2])
  simp only [ho, hx, hy, h, Sem.run_bind, Sem.run_pure, Result.andThen_ok]
  exact hK
theorem owns_there {W : World} {base q : Nat} {e : TypeId} {n c : Nat} {xs : List Value} (h : W.ownsRow base e 2 (.slice (some ⟨q, 0, none⟩) n c) n xs) (k : Nat) (hk : k < n) : W.there q (k * 2) 2 := by
  intro j hj
  rcases h.2 with ⟨hv, h0⟩ | ⟨g', cap', cur, hv, hg, hh, hn', hm, hsz, htk⟩
  · omega
  · simp only [Value.slice.injEq, Option.some.injEq, Addr.mk.injEq, and_true, true_and] at hv
    obtain ⟨rfl, rfl⟩ := hv
    have hlt : k * 2 + j < cur.size := by rw [hsz]; omega
    refine ⟨?_, by simp [World.frozen?, hh]⟩
    simp [World.cell?, hh, hlt]
end Go.Proofs.Ytcmmjmgbanafgaa
