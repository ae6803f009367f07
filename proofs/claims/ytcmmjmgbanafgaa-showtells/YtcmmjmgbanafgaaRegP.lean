/- As RegL, but an operation's callee may panic, to where the statement's own end is known (in a namespace of its own). A statement that leaves its order open, walked once an operation: each operation has a sentence of its own on what it leaves, which what comes later keeps. -/
import Derived.Orders
namespace Go.Proofs.Ytcmmjmgbanafgaa.RP
open Go
section
variable {P : Program} {X : List PanicEntry → World → Prop} {ops : Array Oper} {Q : Exit → Act → World → Prop}

/-- Number i has come up, besides. -/
def also (L : Nat → Bool) (i : Nat) : Nat → Bool := fun j => if j = i then true else L j
theorem also_self (L : Nat → Bool) (i : Nat) : also L i i = true := by simp [also]
theorem also_of {L : Nat → Bool} {i j : Nat} (h : L j = true) : also L i j = true := by
  unfold also; split
  · rfl
  · exact h
theorem also_cases {L : Nat → Bool} {i j : Nat} (h : also L i j = true) : j = i ∨ L j = true := by
  unfold also at h
  by_cases e : j = i
  · exact .inl e
  · rw [if_neg e] at h; exact .inr h

/-- What each operation waits for stands ahead of it in the text. -/
def backOk (ops : Array Oper) : Bool := (List.range ops.size).all fun i => match ops[i]? with
  | some o => o.after.all fun e => !Region.binds .any e || decide (e.on < i)
  | none => true
theorem backOk_spec (h : backOk ops = true) {i : Nat} {o : Oper} (ho : ops[i]? = some o) : ∀ e ∈ o.after, Region.binds .any e = true → e.on < i := by
  intro e he hb
  have hi : i < ops.size := (Array.getElem?_eq_some_iff.1 ho).1
  have h1 := List.all_eq_true.1 h i (List.mem_range.2 hi)
  simp only [ho] at h1
  have h2 := Array.all_eq_true_iff_forall_mem.1 h1 e he
  simp [hb] at h2
  exact h2

theorem all_listed (hb : backOk ops = true) {listed : Array Bool} (hs : listed.size = ops.size) (hr : Region.ready .any ops listed = []) : ∀ i, i < ops.size → listed.getD i false = true := by
  intro i
  induction i using Nat.strongRecOn with
  | ind i ih =>
    intro hi
    cases hc : listed.getD i false with
    | true => rfl
    | false =>
      exfalso
      have hm : i ∈ Region.ready .any ops listed := by
        rw [mem_ready]
        refine ⟨?_, ops[i], by simp [hi], fun e he hbi => ?_⟩
        · simp [hs, hi] at hc ⊢; exact hc
        · have := backOk_spec hb (i := i) (o := ops[i]) (by simp [hi]) e he hbi
          exact ih e.on this (by omega)
      rw [hr] at hm
      cases hm

def unlisted (listed : Array Bool) : Nat := (listed.toList.filter (fun b => !b)).length
theorem unlisted_set {listed : Array Bool} {i : Nat} (hi : i < listed.size) (h : listed.getD i true = false) : unlisted (listed.setIfInBounds i true) + 1 = unlisted listed := by
  obtain ⟨l⟩ := listed
  simp [unlisted] at *
  induction l generalizing i with
  | nil => cases hi
  | cons b r ih =>
    cases i with
    | zero => simp at h; subst h; simp
    | succ k =>
      simp at hi h
      have := ih (i := k) (by omega) h
      cases b <;> simp <;> omega
theorem unlisted_zero {listed : Array Bool} (h : unlisted listed = 0) (i : Nat) : listed.getD i true = true := by
  obtain ⟨l⟩ := listed
  simp [unlisted] at h ⊢
  by_cases hi : i < l.length
  · simp [hi]
    cases hc : l[i] with
    | true => rfl
    | false => exact absurd (hc ▸ List.getElem_mem hi) h
  · simp [List.getElem?_eq_none (by omega : l.length ≤ i)]

/-- Whatever order the tape picks: a sentence over what has come up, kept by each operation. -/
theorem wpAny_inv (hb : backOk ops = true) (I : (Nat → Bool) → Act → World → Prop)
    (hstep : ∀ (L : Nat → Bool) (a : Act) (w : World) (i : Nat) (o : Oper), ops[i]? = some o → L i = false → (∀ e ∈ o.after, Region.binds .any e = true → L e.on = true) → I L a w → wpOp P ops Q i (fun a' w' => I (also L i) a' w') a w)
    (hend : ∀ (L : Nat → Bool) (a : Act) (w : World), (∀ i, i < ops.size → L i = true) → I L a w → Q .normal a w)
    : ∀ (fuel : Nat) (listed : Array Bool) (a : Act) (w : World), listed.size = ops.size → unlisted listed = fuel → I (fun i => listed.getD i false) a w → wpAny P .any ops Q fuel listed a w := by
  intro fuel
  induction fuel with
  | zero =>
    intro listed a w hs hu hI
    have hall : ∀ i, i < ops.size → listed.getD i false = true := fun i hi => by
      have := unlisted_zero hu i
      simp [hs, hi] at this ⊢; exact this
    refine ⟨?_, hend _ a w hall hI⟩
    cases hr : Region.ready .any ops listed with
    | nil => rfl
    | cons i r =>
      exfalso
      have hm : i ∈ Region.ready .any ops listed := by rw [hr]; exact List.mem_cons_self
      rw [mem_ready] at hm
      rw [unlisted_zero hu i] at hm
      cases hm.1
  | succ fuel ih =>
    intro listed a w hs hu hI
    refine ⟨fun hr => hend _ a w (all_listed hb hs hr) hI, fun i hi => ?_⟩
    obtain ⟨hun, o, ho, haf⟩ := mem_ready.1 hi
    have hil : i < ops.size := (Array.getElem?_eq_some_iff.1 ho).1
    have hun' : listed.getD i false = false := by simp [hs, hil] at hun ⊢; exact hun
    refine wpOp_mono (fun a' w' h' => ?_) (hstep _ a w i o ho hun' haf hI)
    refine ih _ a' w' (by simp [hs]) (by have := unlisted_set (by omega) hun; omega) ?_
    have e : (fun j => (listed.setIfInBounds i true).getD j false) = also (fun j => listed.getD j false) i := by
      funext j
      unfold also
      by_cases hj : j = i
      · subst hj; simp [hs, hil]
      · rw [if_neg hj, getD_set_ne false (Ne.symm hj)]
    rw [e]
    exact h'

/-- What an operation yields, and in what world; a call by what it hands back. -/
def gives (P : Program) (X : List PanicEntry → World → Prop) (K : Value → World → Prop) : Result Next → Prop
  | .ok (.value v) w' => K v w'
  | .ok .skip w' => K undef w'
  | .ok (.enter f args) w' => Calls P f args w' (fun e w'' => (∃ v, e = .returned v ∧ K v w'') ∨ (∃ ch, e = .panicked ch ∧ X ch w''))
  | _ => False
def Oper.gives (P : Program) (X : List PanicEntry → World → Prop) (o : Oper) (a : Act) (w : World) (K : Value → World → Prop) : Prop := Ytcmmjmgbanafgaa.RP.gives P X K ((execOp a.eval o).run P w)

theorem wp_of_gives {o : Oper} {a : Act} {w : World} {K : Value → World → Prop} {K' : Act → World → Prop} (hX : ∀ ch w', X ch w' → Q (.panic ch) a w') (h : Oper.gives P X o a w K) (hK : ∀ v w', K v w' → K' (a.put o.dst v) w') : o.wp P a w K' Q := by
  unfold Oper.gives at h
  unfold Oper.wp
  generalize (execOp a.eval o).run P w = r at *
  cases r with
  | ok n w' =>
    cases n <;> simp only [gives] at h <;> simp only [Oper.upon]
    case value u => exact hK _ _ h
    case skip => exact hK _ _ h
    case enter f args =>
      refine h.mono fun e w'' hv => ?_
      rcases hv with ⟨v, he, hv⟩ | ⟨ch, he, hv⟩
      · subst he; exact hK _ _ hv
      · subst he; exact hX _ _ hv
  | halt x w' => simp only [gives] at h

/-- What a post sees of a value: nothing, where it is kept nowhere. -/
def seen : Option Tmp → Value → Value
  | none, _ => undef
  | some _, v => v
def slot (a : Act) : Option Tmp → Value
  | some d => (a.tmps[d]?).getD undef
  | none => undef
theorem slot_put {a : Act} {dst : Option Tmp} {v : Value} {d : Tmp} (h : dst ≠ some d) : slot (a.put dst v) (some d) = slot a (some d) := by
  cases dst with
  | none => rfl
  | some e => simp only [slot, Act.put]; rw [Array.getElem?_setIfInBounds_ne (fun he => h (by rw [he]))]

def dstAt (ops : Array Oper) (i : Nat) : Option Tmp := (ops[i]?).bind (·.dst)
/-- The needs that are told are kept by the edges. -/
def needOk (ops : Array Oper) (need : List (List Nat)) : Bool := (List.range ops.size).all fun i => match ops[i]? with
  | some o => (need.getD i []).all fun j => decide (j < i) && o.after.any fun e => Region.binds .any e && (e.on == j || (need.getD e.on []).contains j)
  | none => true
def distinctB : List (Option Tmp) → Bool
  | [] => true
  | none :: r => distinctB r
  | some d :: r => !r.contains (some d) && distinctB r
def smallB (n : Nat) (ds : List (Option Tmp)) : Bool := ds.all fun | some d => decide (d < n) | none => true

/-- Slot t is still as it was when number i comes up: whoever writes it waits for i. -/
def oldB (ds : List (Option Tmp)) (need : List (List Nat)) (i t : Nat) : Bool :=
  (List.range ds.length).all fun k => k == i || ds.getD k none != some t || (need.getD k []).contains i

def Needs (ds : List (Option Tmp)) (Rs : List (Value → World → Prop)) (a : Act) (w : World) : List Nat → Prop
  | [] => True
  | j :: r => Rs.getD j (fun _ _ => True) (slot a (ds.getD j none)) w ∧ Needs ds Rs a w r
theorem needs_iff {ds : List (Option Tmp)} {Rs : List (Value → World → Prop)} {a : Act} {w : World} {l : List Nat} : Needs ds Rs a w l ↔ ∀ j ∈ l, Rs.getD j (fun _ _ => True) (slot a (ds.getD j none)) w := by
  induction l with
  | nil => simp [Needs]
  | cons j r ih => simp [Needs, ih]

/-- An operation that is guarded is carried out just if it is wanted. -/
def runs (P : Program) (X : List PanicEntry → World → Prop) (ops : Array Oper) (o : Oper) (a : Act) (w : World) (K : Value → World → Prop) (N : Prop) : Prop :=
  match o.guard with
  | none => Oper.gives P X o a w K
  | some _ => if Region.wanted o (yielded ops a.tmps) then Oper.gives P X o a w K else N
theorem runs_spec {o : Oper} {a : Act} {w : World} {K : Value → World → Prop} {N : Prop} (h : runs P X ops o a w K N) : if Region.wanted o (yielded ops a.tmps) then Oper.gives P X o a w K else N := by
  unfold runs at h
  cases hg : o.guard with
  | none =>
    rw [hg] at h
    rw [if_pos (by simp [Region.wanted, hg])]
    exact h
  | some g => rw [hg] at h; exact h

/-- What is to be shown of each operation. -/
def StepsOk (P : Program) (X : List PanicEntry → World → Prop) (ops : Array Oper) (a0 : Act) (C : (Nat → Bool) → World → Prop) (Keeps : Nat → World → World → Prop) (ds : List (Option Tmp)) (need : List (List Nat)) (Rs : List (Value → World → Prop)) : Nat → List Oper → Prop
  | _, [] => True
  | i, o :: r => (∀ (L : Nat → Bool) (a : Act) (w : World), L i = false → C L w → (∀ t, oldB ds need i t = true → (a.tmps[t]?).getD undef = (a0.tmps[t]?).getD undef) → Needs ds Rs a w (need.getD i []) →
      runs P X ops o a w (fun v w' => C (also L i) w' ∧ Keeps i w w' ∧ Rs.getD i (fun _ _ => True) (seen o.dst v) w') (C (also L i) w ∧ Rs.getD i (fun _ _ => True) undef w)) ∧ StepsOk P X ops a0 C Keeps ds need Rs (i + 1) r
theorem StepsOk.nil {a0 : Act} {C : (Nat → Bool) → World → Prop} {Keeps : Nat → World → World → Prop} {ds : List (Option Tmp)} {need : List (List Nat)} {Rs : List (Value → World → Prop)} {i : Nat} : StepsOk P X ops a0 C Keeps ds need Rs i [] := trivial
theorem StepsOk.cons {a0 : Act} {C : (Nat → Bool) → World → Prop} {Keeps : Nat → World → World → Prop} {ds : List (Option Tmp)} {need : List (List Nat)} {Rs : List (Value → World → Prop)} {i : Nat} {o : Oper} {r : List Oper}
    (h : ∀ (L : Nat → Bool) (a : Act) (w : World), L i = false → C L w → (∀ t, oldB ds need i t = true → (a.tmps[t]?).getD undef = (a0.tmps[t]?).getD undef) → Needs ds Rs a w (need.getD i []) →
      runs P X ops o a w (fun v w' => C (also L i) w' ∧ Keeps i w w' ∧ Rs.getD i (fun _ _ => True) (seen o.dst v) w') (C (also L i) w ∧ Rs.getD i (fun _ _ => True) undef w)) (hr : StepsOk P X ops a0 C Keeps ds need Rs (i + 1) r) : StepsOk P X ops a0 C Keeps ds need Rs i (o :: r) := ⟨h, hr⟩
theorem runs_none {o : Oper} {a : Act} {w : World} {K : Value → World → Prop} {N : Prop} (hg : o.guard = none) (h : Oper.gives P X o a w K) : runs P X ops o a w K N := by
  unfold runs; rw [hg]; exact h
/-- Each post is kept by whatever may come behind it. -/
def Stables (need : List (List Nat)) (Keeps : Nat → World → World → Prop) : Nat → List (Value → World → Prop) → Prop
  | _, [] => True
  | k, R :: r => (∀ i v w w', i ≠ k → i ∉ need.getD k [] → Keeps i w w' → R v w → R v w') ∧ Stables need Keeps (k + 1) r
theorem Stables.nil {need : List (List Nat)} {Keeps : Nat → World → World → Prop} {k : Nat} : Stables need Keeps k [] := trivial
theorem Stables.cons {need : List (List Nat)} {Keeps : Nat → World → World → Prop} {k : Nat} {R : Value → World → Prop} {r : List (Value → World → Prop)} (h : ∀ i v w w', i ≠ k → i ∉ need.getD k [] → Keeps i w w' → R v w → R v w') (hr : Stables need Keeps (k + 1) r) : Stables need Keeps k (R :: r) := ⟨h, hr⟩
/-- A post on the value alone. -/
theorem Stables.eq {need : List (List Nat)} {Keeps : Nat → World → World → Prop} {k : Nat} {x : Value} {r : List (Value → World → Prop)} (hr : Stables need Keeps (k + 1) r) : Stables need Keeps k ((fun v _ => v = x) :: r) := ⟨fun _ _ _ _ _ _ _ h => h, hr⟩
theorem Stables.at {need : List (List Nat)} {Keeps : Nat → World → World → Prop} : ∀ {Rs : List (Value → World → Prop)} {n : Nat}, Stables need Keeps n Rs → ∀ k i v w w', i ≠ n + k → i ∉ need.getD (n + k) [] → Keeps i w w' → Rs.getD k (fun _ _ => True) v w → Rs.getD k (fun _ _ => True) v w'
  | [], _, _, k, i, v, w, w', _, _, _, _ => by simp
  | R :: r, n, h, 0, i, v, w, w', h1, h2, hk, hr => h.1 i v w w' h1 h2 hk hr
  | R :: r, n, h, k + 1, i, v, w, w', h1, h2, hk, hr => Stables.at h.2 k i v w w' (by rw [show n + 1 + k = n + (k + 1) by omega]; exact h1) (by rw [show n + 1 + k = n + (k + 1) by omega]; exact h2) hk hr

theorem StepsOk.at {a0 : Act} {C : (Nat → Bool) → World → Prop} {Keeps : Nat → World → World → Prop} {ds : List (Option Tmp)} {need : List (List Nat)} {Rs : List (Value → World → Prop)} : ∀ {l : List Oper} {n : Nat}, StepsOk P X ops a0 C Keeps ds need Rs n l → ∀ {i : Nat} {o : Oper}, l[i]? = some o →
    ∀ (L : Nat → Bool) (a : Act) (w : World), L (n + i) = false → C L w → (∀ t, oldB ds need (n + i) t = true → (a.tmps[t]?).getD undef = (a0.tmps[t]?).getD undef) → Needs ds Rs a w (need.getD (n + i) []) →
      runs P X ops o a w (fun v w' => C (also L (n + i)) w' ∧ Keeps (n + i) w w' ∧ Rs.getD (n + i) (fun _ _ => True) (seen o.dst v) w') (C (also L (n + i)) w ∧ Rs.getD (n + i) (fun _ _ => True) undef w)
  | [], _, _, i, o, h => by cases h
  | o' :: r, n, hs, 0, o, h => by
    cases h
    exact hs.1
  | o' :: r, n, hs, i + 1, o, h => by
    have := StepsOk.at hs.2 (i := i) (o := o) h
    rw [show n + (i + 1) = n + 1 + i by omega]
    exact this

/-- What is to be shown of the end: whatever each has left. -/
def EndOk (K : Act → Prop) (w : World) : List (Option Tmp) → List (Value → World → Prop) → Act → Prop
  | [], _, a => K a
  | d :: ds, [], a => ∀ v, EndOk K w ds [] (a.put d v)
  | d :: ds, R :: Rs, a => ∀ v, R v w → EndOk K w ds Rs (a.put d v)
theorem EndOk.nil {K : Act → Prop} {w : World} {Rs : List (Value → World → Prop)} {a : Act} (h : K a) : EndOk K w [] Rs a := h
theorem EndOk.cons {K : Act → Prop} {w : World} {d : Option Tmp} {ds : List (Option Tmp)} {R : Value → World → Prop} {Rs : List (Value → World → Prop)} {a : Act} (h : ∀ v, R v w → EndOk K w ds Rs (a.put d v)) : EndOk K w (d :: ds) (R :: Rs) a := h
theorem EndOk.at {K : Act → Prop} {w : World} {a : Act} : ∀ {ds : List (Option Tmp)} {Rs : List (Value → World → Prop)} {b : Act}, b.tmps.size = a.tmps.size → b.defers = a.defers → (∀ t, some t ∉ ds → b.tmps[t]? = a.tmps[t]?) →
    (∀ i, i < ds.length → Rs.getD i (fun _ _ => True) (slot a (ds.getD i none)) w) → EndOk K w ds Rs b → K a
  | [], _, b, hs, hd, ht, _, h => by
    have e : b = a := by
      obtain ⟨bt, bd⟩ := b
      obtain ⟨at', ad⟩ := a
      simp at hd ht
      congr
      exact Array.ext_getElem? ht
    rw [← e]; exact h
  | d :: ds, Rs, b, hs, hd, ht, hR, h => by
    have hput : (b.put d (slot a d)).tmps.size = a.tmps.size := by cases d <;> simp [Act.put, hs]
    have hdef : (b.put d (slot a d)).defers = a.defers := by cases d <;> simp [Act.put, hd]
    have hag : ∀ t, some t ∉ ds → (b.put d (slot a d)).tmps[t]? = a.tmps[t]? := fun t htn => by
      cases d with
      | none => exact ht t (by simp [htn])
      | some d =>
        by_cases e : d = t
        · subst e
          by_cases hl : d < a.tmps.size
          · simp [Act.put, slot, hs, hl]
          · simp [Act.put, slot, hs, hl]
        · simp only [Act.put]
          rw [Array.getElem?_setIfInBounds_ne e]
          exact ht t (by simp [htn]; exact fun h => e h.symm)
    cases Rs with
    | nil => exact EndOk.at hput hdef hag (fun i hi => by simp) (h (slot a d))
    | cons R Rs => exact EndOk.at hput hdef hag (fun i hi => by have := hR (i + 1) (by simp; omega); simpa using this) (h (slot a d) (by have := hR 0 (by simp); simpa using this))

/-- What stands while the operations come up, those of number n and more left out. -/
structure RegInv (ops : Array Oper) (a0 : Act) (C : (Nat → Bool) → World → Prop) (ds : List (Option Tmp)) (Rs : List (Value → World → Prop)) (L : Nat → Bool) (a : Act) (w : World) : Prop where
  c : C L w
  size : a.tmps.size = a0.tmps.size
  defers : a.defers = a0.defers
  old : ∀ t, (∀ i, i < ds.length → L i = true → ds.getD i none ≠ some t) → a.tmps[t]? = a0.tmps[t]?
  down : ∀ i o, ops[i]? = some o → L i = true → ∀ e ∈ o.after, Region.binds .any e = true → L e.on = true
  posts : ∀ i, i < ds.length → L i = true → Rs.getD i (fun _ _ => True) (slot a (ds.getD i none)) w

theorem needs_listed (hb : backOk ops = true) {need : List (List Nat)} (hn : needOk ops need = true) {L : Nat → Bool} (hd : ∀ i o, ops[i]? = some o → L i = true → ∀ e ∈ o.after, Region.binds .any e = true → L e.on = true) :
    ∀ (i : Nat) (o : Oper), ops[i]? = some o → (∀ e ∈ o.after, Region.binds .any e = true → L e.on = true) → ∀ j ∈ need.getD i [], L j = true := by
  intro i
  induction i using Nat.strongRecOn with
  | ind i ih =>
    intro o ho haf j hj
    have hi : i < ops.size := (Array.getElem?_eq_some_iff.1 ho).1
    have h1 := List.all_eq_true.1 hn i (List.mem_range.2 hi)
    simp only [ho] at h1
    have h2 := List.all_eq_true.1 h1 j hj
    rw [Bool.and_eq_true] at h2
    obtain ⟨e, he, hc⟩ := Array.any_eq_true'.1 h2.2
    simp only [Bool.and_eq_true, Bool.or_eq_true, beq_iff_eq] at hc
    have hle := haf e he hc.1
    rcases hc.2 with rfl | hc2
    · exact hle
    · have hlt := backOk_spec hb ho e he hc.1
      have hoe : ops[e.on]? = some ops[e.on] := by simp [show e.on < ops.size by omega]
      exact ih e.on hlt _ hoe (hd _ _ hoe hle) j (by simpa using hc2)

theorem distinct_at : ∀ {ds : List (Option Tmp)}, distinctB ds = true → ∀ {i k : Nat} {d : Tmp}, i ≠ k → ds.getD i none = some d → ds.getD k none ≠ some d
  | [], _, i, k, d, _, h => by simp at h
  | none :: r, hd, i, k, d, hik, h => by
    cases i with
    | zero => simp at h
    | succ i =>
      cases k with
      | zero => simp
      | succ k => exact distinct_at (ds := r) hd (i := i) (k := k) (fun e => hik (by rw [e])) (by simpa using h)
  | some e :: r, hd, i, k, d, hik, h => by
    simp [distinctB] at hd
    have key : ∀ {n : Nat}, r.getD n none = some e → False := fun {n} hn => by
      have : some e ∈ r := by
        by_cases hl : n < r.length
        · simp [hl] at hn; rw [← hn]; exact List.getElem_mem hl
        · simp [List.getElem?_eq_none (by omega : r.length ≤ n)] at hn
      exact hd.1 this
    cases i with
    | zero =>
      cases k with
      | zero => exact absurd rfl hik
      | succ k =>
        simp at h; subst h
        intro hc
        exact key (n := k) (by simpa using hc)
    | succ i =>
      cases k with
      | zero =>
        simp
        rintro rfl
        exact key (n := i) (by simpa using h)
      | succ k => exact distinct_at (ds := r) hd.2 (i := i) (k := k) (fun e => hik (by rw [e])) (by simpa using h)

theorem small_at {n : Nat} {ds : List (Option Tmp)} (h : smallB n ds = true) {i : Nat} {d : Tmp} (hi : ds.getD i none = some d) : d < n := by
  have hm : some d ∈ ds := by
    by_cases hl : i < ds.length
    · simp [hl] at hi; rw [← hi]; exact List.getElem_mem hl
    · simp [List.getElem?_eq_none (by omega : ds.length ≤ i)] at hi
  have := List.all_eq_true.1 h _ hm
  simpa using this

theorem RegInv.step {a0 : Act} {C : (Nat → Bool) → World → Prop} {Keeps : Nat → World → World → Prop} {ds : List (Option Tmp)} {need : List (List Nat)} {Rs : List (Value → World → Prop)} {l : List Oper}
    (hb : backOk ops = true) (hn : needOk ops need = true) (hdd : distinctB ds = true) (hz : smallB a0.tmps.size ds = true)
    (hst : ∀ k i v w w', i ≠ k → i ∉ need.getD k [] → Keeps i w w' → Rs.getD k (fun _ _ => True) v w → Rs.getD k (fun _ _ => True) v w')
    {L : Nat → Bool} {a : Act} {w : World} {i : Nat} {o : Oper} (ho : ops[i]? = some o) (hdo : ds.getD i none = o.dst) (hlen : ds.length = ops.size) (hol : l[i]? = some o) (hs : StepsOk P X ops a0 C Keeps ds need Rs 0 l) (hL : L i = false) (haf : ∀ e ∈ o.after, Region.binds .any e = true → L e.on = true)
    (hX : ∀ ch a w, a.tmps.size = a0.tmps.size → a.defers = a0.defers → (∀ t, some t ∉ ds → a.tmps[t]? = a0.tmps[t]?) → X ch w → Q (.panic ch) a w) (I : RegInv ops a0 C ds Rs L a w) : wpOp P ops Q i (fun a' w' => RegInv ops a0 C ds Rs (also L i) a' w') a w := by
  have hi : i < ds.length := by rw [hlen]; exact (Array.getElem?_eq_some_iff.1 ho).1
  have hneed := needs_listed hb hn I.down i o ho haf
  have hneedB : ∀ j ∈ need.getD i [], j < ds.length := fun j hj => by
    have h1 := List.all_eq_true.1 hn i (List.mem_range.2 (hlen ▸ hi))
    simp only [ho] at h1
    have h2 := List.all_eq_true.1 h1 j hj
    rw [Bool.and_eq_true, decide_eq_true_iff] at h2
    omega
  have H := hs.at hol L a w (by rw [Nat.zero_add]; exact hL) I.c (fun t ht => by
    rw [Nat.zero_add] at ht
    have hag : a.tmps[t]? = a0.tmps[t]? := I.old t fun k hk hLk hdk => by
      have h1 := List.all_eq_true.1 ht k (List.mem_range.2 hk)
      simp only [Bool.or_eq_true, beq_iff_eq, bne_iff_ne] at h1
      rcases h1 with (h1 | h1) | h1
      · rw [h1, hL] at hLk; cases hLk
      · exact h1 hdk
      · have hok : ops[k]? = some ops[k] := by simp [show k < ops.size by omega]
        have := needs_listed hb hn I.down k _ hok (I.down _ _ hok hLk) i (by simpa using h1)
        rw [hL] at this; cases this
    rw [hag]) (by
    rw [Nat.zero_add]
    exact needs_iff.2 fun j hj => I.posts j (hneedB j hj) (hneed j hj))
  rw [Nat.zero_add] at H
  replace H := runs_spec H
  have hend : ∀ v w', C (also L i) w' → (w' = w ∨ Keeps i w w') → Rs.getD i (fun _ _ => True) (seen o.dst v) w' → RegInv ops a0 C ds Rs (also L i) (a.put o.dst v) w' := fun v w' hc hk hr => by
    refine ⟨hc, ?_, ?_, fun t ht => ?_, fun k ok hok hk' e he hbe => ?_, fun k hk' hLk => ?_⟩
    · cases o.dst <;> simp [Act.put, I.size]
    · cases o.dst <;> simp [Act.put, I.defers]
    · have hne := ht i hi (also_self L i)
      rw [hdo] at hne
      have hold := I.old t fun k hk hLk => ht k hk (also_of hLk)
      cases hd : o.dst with
      | none => exact hold
      | some d =>
        simp only [Act.put]
        rw [Array.getElem?_setIfInBounds_ne (fun e => hne (by rw [hd, e]))]
        exact hold
    · rcases also_cases hk' with rfl | hLk
      · rw [ho] at hok; cases hok
        exact also_of (haf e he hbe)
      · exact also_of (I.down k ok hok hLk e he hbe)
    · by_cases hki : k = i
      · subst hki
        rw [hdo]
        cases hd : o.dst with
        | none => rw [hd] at hr; exact hr
        | some d =>
          rw [hd] at hr
          have hlt : d < a.tmps.size := by rw [I.size]; exact small_at hz (hdo.trans hd)
          simpa [slot, Act.put, hlt, seen] using hr
      · have hLk' : L k = true := (also_cases hLk).resolve_left hki
        have hp := I.posts k hk' hLk'
        have hsame : slot (a.put o.dst v) (ds.getD k none) = slot a (ds.getD k none) := by
          cases hd : o.dst with
          | none => rfl
          | some d =>
            have hne := distinct_at hdd (i := i) (k := k) (d := d) (fun e => hki e.symm) (hdo.trans hd)
            cases hdk : ds.getD k none with
            | none => rfl
            | some dk =>
              rw [hdk] at hne
              exact slot_put (Ne.symm hne)
        rw [hsame]
        rcases hk with rfl | hk
        · exact hp
        · refine hst k i _ _ _ (fun e => hki e.symm) (fun hm => ?_) hk hp
          have hok : ops[k]? = some ops[k] := by simp [show k < ops.size by omega]
          have := needs_listed hb hn I.down k _ hok (I.down _ _ hok hLk') i hm
          rw [hL] at this; cases this
  unfold wpOp
  simp only [ho]
  split
  · rename_i hw
    rw [if_pos hw] at H
    exact .inl (wp_of_gives (fun ch w' hx => hX ch a w' I.size I.defers (fun t ht => I.old t fun k hk _ hdk => ht (by
      have : ds.getD k none ∈ ds := by rw [List.getD_eq_getElem?_getD, List.getElem?_eq_getElem hk]; exact List.getElem_mem hk
      rw [hdk] at this; exact this)) hx) H fun v w' ⟨h1, h2, h3⟩ => hend v w' h1 (.inr h2) h3)
  · rename_i hw
    rw [if_neg hw] at H
    exact hend undef w H.1 (.inl rfl) (by cases o.dst <;> exact H.2)

theorem none_listed (n i : Nat) : (Array.replicate n false).getD i false = false := by
  by_cases h : i < n
  · simp [h]
  · simp [Array.getElem?_eq_none (by simp; omega : (Array.replicate n false).size ≤ i)]

/-- A statement that leaves its order open: each operation by what it needs; the end, whatever each has left. -/
theorem wp_region_posts {id : Nat} {l : List Oper} {a0 : Act} {w : World} (hm : P.follows .mixedOrders = true) (C : (Nat → Bool) → World → Prop) (Keeps : Nat → World → World → Prop) (ds : List (Option Tmp)) (need : List (List Nat)) (Rs : List (Value → World → Prop))
    (hX : ∀ ch a w, a.tmps.size = a0.tmps.size → a.defers = a0.defers → (∀ t, some t ∉ ds → a.tmps[t]? = a0.tmps[t]?) → X ch w → Q (.panic ch) a w) (hds : l.map Oper.dst = ds) (hb : backOk l.toArray = true) (hn : needOk l.toArray need = true) (hdd : distinctB ds = true) (hz : smallB a0.tmps.size ds = true)
    (hst : Stables need Keeps 0 Rs)
    (h0 : ∀ L, (∀ i, L i = false) → C L { w with drawn := w.drawn + 1 }) (hs : StepsOk P X l.toArray a0 C Keeps ds need Rs 0 l) (hend : ∀ L w', (∀ i, i < l.length → L i = true) → C L w' → ∀ E : Act → Prop, (∀ a, Q .normal a w' → E a) → EndOk E w' ds Rs a0) : (Code.region id l.toArray true).wp P Q a0 w := by
  have hlen : ds.length = l.toArray.size := by rw [← hds]; simp
  have hdo : ∀ i o, l[i]? = some o → ds.getD i none = o.dst := fun i o h => by rw [← hds]; simp [h]
  refine wp_region_any hm (wpAny_inv hb (RegInv l.toArray a0 C ds Rs) (fun L a w i o ho hL haf I => ?_) (fun L a w hall I => ?_) _ _ a0 _ (by simp) (by simp [unlisted]) ?_)
  · have hol : l[i]? = some o := by simpa using ho
    exact I.step hb hn hdd hz (fun k i v w w' h1 h2 => hst.at k i v w w' (by rw [Nat.zero_add]; exact h1) (by rw [Nat.zero_add]; exact h2)) ho (hdo i o hol) hlen hol hs hL haf hX
  · refine EndOk.at (a := a) I.size.symm I.defers.symm (fun t ht => (I.old t fun i hi _ he => ht ?_).symm) (fun i hi => I.posts i hi (hall i (hlen ▸ hi))) (hend L w (fun i hi => hall i (by simpa using hi)) I.c _ fun _ h => h)
    rw [← he]; simp [hi]
  · exact ⟨h0 _ (fun i => none_listed _ _), rfl, rfl, fun _ _ => rfl, fun i o _ h => absurd h (by rw [none_listed]; decide), fun i _ h => absurd h (by rw [none_listed]; decide)⟩

/-- The same, where the last operation waits for all others: the end stands ahead of it. -/
theorem wp_region_posts_last {id : Nat} {whole l : List Oper} {ol : Oper} {a0 : Act} {w : World} (hL : whole = l ++ [ol]) (hm : P.follows .mixedOrders = true) (C : (Nat → Bool) → World → Prop) (Keeps : Nat → World → World → Prop) (ds : List (Option Tmp)) (need : List (List Nat)) (Rs : List (Value → World → Prop))
    (hX : ∀ ch a w, a.tmps.size = a0.tmps.size → a.defers = a0.defers → (∀ t, some t ∉ ds ++ [none] → a.tmps[t]? = a0.tmps[t]?) → X ch w → Q (.panic ch) a w) (hds : l.map Oper.dst = ds) (hb : backOk whole.toArray = true) (hn : needOk whole.toArray need = true) (hdd : distinctB (ds ++ [none]) = true) (hz : smallB a0.tmps.size (ds ++ [none]) = true) (hlast : (List.range l.length).all (fun i => (need.getD l.length []).contains i) = true)
    (hdl : ol.dst = none) (hg : ol.guard = none)
    (hst : Stables need Keeps 0 Rs)
    (h0 : ∀ L, (∀ i, L i = false) → C L { w with drawn := w.drawn + 1 }) (hs : StepsOk P X whole.toArray a0 C Keeps (ds ++ [none]) need Rs 0 l) (hend : ∀ L w', (∀ i, i < l.length → L i = true) → C L w' → ∀ E : Act → Prop, (∀ a, Oper.gives P (fun _ _ => False) ol a w' (fun _ w'' => Q .normal a w'') → E a) → EndOk E w' ds Rs a0) : (Code.region id whole.toArray true).wp P Q a0 w := by
  subst hL
  have hl : ds.length = l.length := by rw [← hds]; simp
  have hlen : (ds ++ [none]).length = (l ++ [ol]).toArray.size := by simp [hl]
  have hdo : ∀ i o, l[i]? = some o → (ds ++ [none]).getD i none = o.dst := fun i o h => by
    have hi : i < l.length := (List.getElem?_eq_some_iff.1 h).1
    rw [← hds]
    simp [List.getElem?_append, hi]
    rw [List.getElem?_eq_getElem hi] at h
    cases h; rfl
  refine wp_region_any hm (wpAny_inv hb (fun L a w => (L l.length = false ∧ RegInv (l ++ [ol]).toArray a0 C (ds ++ [none]) Rs L a w) ∨ ((∀ i, i < (l ++ [ol]).toArray.size → L i = true) ∧ Q .normal a w)) (fun L a w i o ho hL haf I => ?_) (fun L a w hall I => ?_) _ _ a0 _ (by simp) (by simp [unlisted]) ?_)
  · rcases I with ⟨hLn, I⟩ | ⟨hall, _⟩
    · have hi : i < (l ++ [ol]).toArray.size := (Array.getElem?_eq_some_iff.1 ho).1
      by_cases hil : i < l.length
      · have hol : l[i]? = some o := by simpa [List.getElem?_append, hil] using ho
        refine wpOp_mono (fun a' w' h => .inl ⟨?_, h⟩) (I.step hb hn hdd hz (fun k i v w w' h1 h2 => hst.at k i v w w' (by rw [Nat.zero_add]; exact h1) (by rw [Nat.zero_add]; exact h2)) ho (hdo i o hol) hlen hol hs hL haf hX)
        unfold also
        rw [if_neg (by omega)]
        exact hLn
      · have hin : i = l.length := by simp at hi; omega
        subst hin
        have e : o = ol := by simpa using ho.symm
        subst e
        have hneed := needs_listed hb hn I.down _ _ ho haf
        have hothers : ∀ j, j < l.length → L j = true := fun j hj => hneed j (by have := List.all_eq_true.1 hlast j (List.mem_range.2 hj); simpa using this)
        have hwp : o.wp P a w (fun a w => Q .normal a w) Q := by
          refine EndOk.at (K := fun a => o.wp P a w (fun a w => Q .normal a w) Q) (a := a) I.size.symm I.defers.symm (fun t ht => (I.old t fun k hk _ he => ht ?_).symm) (fun k hk => ?_) (hend L w hothers I.c _ fun a h => wp_of_gives (X := fun _ _ => False) (fun _ _ hx => hx.elim) h fun v w' hq => by rw [hdl]; exact hq)
          · by_cases hk2 : k < ds.length
            · rw [List.getD_eq_getElem?_getD, List.getElem?_append_left hk2] at he
              simp [hk2] at he
              rw [← he]; simp
            · have : k = ds.length := by simp at hk; omega
              subst this
              simp at he
          · have := I.posts k (by simp; omega) (hothers k (by omega))
            rwa [List.getD_eq_getElem?_getD, List.getD_eq_getElem?_getD, List.getElem?_append_left hk, ← List.getD_eq_getElem?_getD, ← List.getD_eq_getElem?_getD] at this
        unfold wpOp
        simp only [ho]
        have hw : Region.wanted o (yielded (l ++ [o]).toArray a.tmps) = true := by simp [Region.wanted, hg]
        rw [if_pos hw]
        refine .inl (Oper.wp_mono (fun a' w' h => .inr ⟨fun j hj => ?_, h⟩) hwp)
        by_cases hj2 : j = l.length
        · subst hj2; exact also_self _ _
        · exact also_of (hothers j (by simp at hj; omega))
    · rw [hall i (Array.getElem?_eq_some_iff.1 ho).1] at hL; cases hL
  · rcases I with ⟨hLn, _⟩ | ⟨_, h⟩
    · rw [hall l.length (by simp)] at hLn; cases hLn
    · exact h
  · exact .inl ⟨none_listed _ _, h0 _ (fun i => none_listed _ _), rfl, rfl, fun _ _ => rfl, fun i o _ h => absurd h (by rw [none_listed]; decide), fun i _ h => absurd h (by rw [none_listed]; decide)⟩
end
end Go.Proofs.Ytcmmjmgbanafgaa.RP
