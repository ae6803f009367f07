/- As RegP, for a statement whose first operations all come ahead of the rest: those by posts, then the rest, however they are ordered. -/
import Derived.Test.YtcmmjmgbanafgaaRegP
namespace Go.Proofs.Ytcmmjmgbanafgaa.RP
open Go
section
variable {P : Program} {X : List PanicEntry → World → Prop} {ops : Array Oper} {Q : Exit → Act → World → Prop}

/-- Each later operation waits for each of the first k. -/
def phaseOk (ops : Array Oper) (k : Nat) : Bool := (List.range ops.size).all fun i => decide (i < k) || match ops[i]? with
  | some o => (List.range k).all fun j => o.after.any fun e => Region.binds .any e && e.on == j
  | none => true
theorem phaseOk_spec {k i : Nat} {o : Oper} (h : phaseOk ops k = true) (hi : ops[i]? = some o) (hk : k ≤ i) : ∀ j, j < k → ∃ e ∈ o.after, Region.binds .any e = true ∧ e.on = j := by
  intro j hj
  have hil : i < ops.size := (Array.getElem?_eq_some_iff.1 hi).1
  have h1 := List.all_eq_true.1 h i (List.mem_range.2 hil)
  simp only [hi, Bool.or_eq_true, decide_eq_true_iff] at h1
  have h2 := h1.resolve_left (by omega)
  have h3 := List.all_eq_true.1 h2 j (List.mem_range.2 hj)
  rw [Array.any_eq_true] at h3
  obtain ⟨n, hn, h4⟩ := h3
  simp only [Bool.and_eq_true, beq_iff_eq] at h4
  exact ⟨o.after[n], Array.getElem_mem hn, h4.1, h4.2⟩
theorem wpAny_until (hb : backOk ops = true) (k : Nat) (hks : k ≤ ops.size) (hph : phaseOk ops k = true) (I : (Nat → Bool) → Act → World → Prop)
    (hstep : ∀ (L : Nat → Bool) (a : Act) (w : World) (i : Nat) (o : Oper), i < k → ops[i]? = some o → L i = false → (∀ e ∈ o.after, Region.binds .any e = true → L e.on = true) → I L a w → wpOp P ops Q i (fun a' w' => I (also L i) a' w') a w)
    (hmid : ∀ (fuel : Nat) (listed : Array Bool) (a : Act) (w : World), listed.size = ops.size → unlisted listed = fuel → (∀ i, i < k → listed.getD i false = true) → (∀ i, k ≤ i → listed.getD i false = false) → I (fun i => listed.getD i false) a w → wpAny P .any ops Q fuel listed a w)
    : ∀ (fuel : Nat) (listed : Array Bool) (a : Act) (w : World), listed.size = ops.size → unlisted listed = fuel → (∀ i, k ≤ i → listed.getD i false = false) → I (fun i => listed.getD i false) a w → wpAny P .any ops Q fuel listed a w := by
  intro fuel
  induction fuel with
  | zero =>
    intro listed a w hs hu hk hI
    refine hmid 0 listed a w hs hu (fun i hi => ?_) hk hI
    have := unlisted_zero hu i
    have hil : i < listed.size := by omega
    simp [hil] at this ⊢; exact this
  | succ fuel ih =>
    intro listed a w hs hu hk hI
    by_cases hall : ∀ i, i < k → listed.getD i false = true
    · exact hmid _ listed a w hs hu hall hk hI
    · refine ⟨fun hr => absurd (fun i hi => all_listed hb hs hr i (by omega)) hall, fun i hi => ?_⟩
      obtain ⟨hun, o, ho, haf⟩ := mem_ready.1 hi
      have hil : i < ops.size := (Array.getElem?_eq_some_iff.1 ho).1
      have hun' : listed.getD i false = false := by simp [hs, hil] at hun ⊢; exact hun
      have hik : i < k := by
        rcases Nat.lt_or_ge i k with h | h
        · exact h
        · refine absurd (fun j hj => ?_) hall
          obtain ⟨e, he, hbe, hej⟩ := phaseOk_spec hph ho h j hj
          rw [← hej]; exact haf e he hbe
      refine wpOp_mono (fun a' w' h' => ?_) (hstep _ a w i o hik ho hun' haf hI)
      refine ih _ a' w' (by simp [hs]) (by have := unlisted_set (by omega) hun; omega) (fun j hj => ?_) ?_
      · have := hk j hj
        rw [show (listed.setIfInBounds i true).getD j false = listed.getD j false from getD_set_ne false (by omega)]
        exact this
      · have e : (fun j => (listed.setIfInBounds i true).getD j false) = also (fun j => listed.getD j false) i := by
          funext j
          unfold also
          by_cases hj : j = i
          · subst hj; simp [hs, hil]
          · rw [if_neg hj, getD_set_ne false (Ne.symm hj)]
        rw [e]
        exact h'
/-- Which have come up when the first ones have. -/
def firstB (n m : Nat) : Array Bool := (List.replicate n true ++ List.replicate m false).toArray
theorem firstB_of {n m : Nat} {listed : Array Bool} (hs : listed.size = n + m) (h1 : ∀ i, i < n → listed.getD i false = true) (h2 : ∀ i, n ≤ i → listed.getD i false = false) : listed = firstB n m := by
  refine Array.ext (by simp [firstB, hs]) fun i hi hi2 => ?_
  by_cases hin : i < n
  · have := h1 i hin
    simp [hi] at this
    simp [firstB, hin, this]
  · have := h2 i (by omega)
    simp [hi] at this
    simp [firstB, List.getElem_append, hin, this]
theorem unlisted_first (n m : Nat) : unlisted (firstB n m) = m := by simp [unlisted, firstB]
theorem wp_region_posts_upto {id : Nat} {whole l rest : List Oper} {a0 : Act} {w : World} (hL : whole = l ++ rest) (hm : P.follows .mixedOrders = true) (C : (Nat → Bool) → World → Prop) (Keeps : Nat → World → World → Prop) (ds dr : List (Option Tmp)) (need : List (List Nat)) (Rs : List (Value → World → Prop))
    (hX : ∀ ch a w, a.tmps.size = a0.tmps.size → a.defers = a0.defers → (∀ t, some t ∉ ds ++ dr → a.tmps[t]? = a0.tmps[t]?) → X ch w → Q (.panic ch) a w) (hds : l.map Oper.dst = ds) (hdr : rest.map Oper.dst = dr) (hb : backOk whole.toArray = true) (hph : phaseOk whole.toArray l.length = true) (hn : needOk whole.toArray need = true) (hdd : distinctB (ds ++ dr) = true) (hz : smallB a0.tmps.size (ds ++ dr) = true)
    (hst : Stables need Keeps 0 Rs)
    (h0 : ∀ L, (∀ i, L i = false) → C L { w with drawn := w.drawn + 1 }) (hs : StepsOk P X whole.toArray a0 C Keeps (ds ++ dr) need Rs 0 l)
    (hend : ∀ L w', (∀ i, i < l.length → L i = true) → C L w' → ∀ E : Act → Prop, (∀ a, wpAny P .any whole.toArray Q rest.length (firstB l.length rest.length) a w' → E a) → EndOk E w' ds Rs a0) : (Code.region id whole.toArray true).wp P Q a0 w := by
  subst hL
  have hl : ds.length = l.length := by rw [← hds]; simp
  have hlr : dr.length = rest.length := by rw [← hdr]; simp
  have hlen : (ds ++ dr).length = (l ++ rest).toArray.size := by simp [hl, hlr]
  have hdo : ∀ i o, l[i]? = some o → (ds ++ dr).getD i none = o.dst := fun i o h => by
    have hi : i < l.length := (List.getElem?_eq_some_iff.1 h).1
    rw [← hds]
    simp [List.getElem?_append, hi]
    rw [List.getElem?_eq_getElem hi] at h
    cases h; rfl
  refine wp_region_any hm (wpAny_until hb l.length (by simp) hph (RegInv (l ++ rest).toArray a0 C (ds ++ dr) Rs) (fun L a w i o hi ho hL haf I => ?_) (fun fuel listed a w hsz hu h1 h2 I => ?_) _ _ a0 _ (by simp) (by simp [unlisted]) (fun i _ => none_listed _ _) ?_)
  · have hol : l[i]? = some o := by simpa [List.getElem?_append, hi] using ho
    exact I.step hb hn hdd hz (fun k i v w w' h1 h2 => hst.at k i v w w' (by rw [Nat.zero_add]; exact h1) (by rw [Nat.zero_add]; exact h2)) ho (hdo i o hol) hlen hol hs hL haf hX
  · have e := firstB_of (by simpa using hsz) h1 h2
    subst e
    rw [unlisted_first] at hu
    subst hu
    refine EndOk.at (K := fun a => wpAny P .any (l ++ rest).toArray Q rest.length (firstB l.length rest.length) a w) (a := a) I.size.symm I.defers.symm (fun t ht => (I.old t fun k hk hLk he => ht ?_).symm) (fun k hk => ?_) (hend _ w (fun i hi => h1 i hi) I.c _ fun a h => h)
    · have hkl : k < l.length := by
        rcases Nat.lt_or_ge k l.length with h | h
        · exact h
        · rw [h2 k h] at hLk; cases hLk
      rw [List.getD_eq_getElem?_getD, List.getElem?_append_left (by omega)] at he
      simp [show k < ds.length by omega] at he
      rw [← he]; simp
    · have hkl : k < l.length := by omega
      have := I.posts k (by simp; omega) (h1 k hkl)
      rwa [List.getD_eq_getElem?_getD, List.getD_eq_getElem?_getD, List.getElem?_append_left hk, ← List.getD_eq_getElem?_getD, ← List.getD_eq_getElem?_getD] at this
  · exact ⟨h0 _ (fun i => none_listed _ _), rfl, rfl, fun _ _ => rfl, fun i o _ h => absurd h (by rw [none_listed]; decide), fun i _ h => absurd h (by rw [none_listed]; decide)⟩
/-- The next one, where one alone, where two may come up; the end. -/
theorem wpOp_of {i : Nat} {o : Oper} {a : Act} {w : World} {K : Act → World → Prop} (ho : ops[i]? = some o) (hg : o.guard = none) (h : Oper.gives P (fun _ _ => False) o a w (fun v w' => K (a.put o.dst v) w')) : wpOp P ops Q i K a w := by
  unfold wpOp
  simp only [ho]
  rw [if_pos (by simp [Region.wanted, hg])]
  exact .inl (wp_of_gives (X := fun _ _ => False) (fun _ _ hx => hx.elim) h fun _ _ hk => hk)
theorem wpAny_one {i fuel : Nat} {listed : Array Bool} {a : Act} {w : World} (hr : Region.ready .any ops listed = [i]) (h : wpOp P ops Q i (wpAny P .any ops Q fuel (listed.setIfInBounds i true)) a w) : wpAny P .any ops Q (fuel + 1) listed a w :=
  ⟨fun e => (by rw [hr] at e; cases e), fun j hj => (by rw [hr] at hj; simp at hj; subst hj; exact h)⟩
theorem wpAny_two {i k fuel : Nat} {listed : Array Bool} {a : Act} {w : World} (hr : Region.ready .any ops listed = [i, k]) (h : wpOp P ops Q i (wpAny P .any ops Q fuel (listed.setIfInBounds i true)) a w) (h2 : wpOp P ops Q k (wpAny P .any ops Q fuel (listed.setIfInBounds k true)) a w) : wpAny P .any ops Q (fuel + 1) listed a w :=
  ⟨fun e => (by rw [hr] at e; cases e), fun j hj => by
    rw [hr] at hj; simp at hj
    rcases hj with rfl | rfl
    · exact h
    · exact h2⟩
theorem wpAny_end {listed : Array Bool} {a : Act} {w : World} (hr : Region.ready .any ops listed = []) (h : Q .normal a w) : wpAny P .any ops Q 0 listed a w := ⟨hr, h⟩
end
end Go.Proofs.Ytcmmjmgbanafgaa.RP
