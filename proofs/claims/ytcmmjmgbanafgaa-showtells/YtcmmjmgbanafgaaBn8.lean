import Derived.Test.YtcmmjmgbanafgaaBn1
import Derived.Test.YtcmmjmgbanafgaaBn3
import Derived.Deep.QuietTactic
import Derived.BigQuiet
import Derived.Lib.QuietBelow
import Derived.Deep.DeepCutAuto
import Derived.Test.YtcmmjmgbanafgaaSx17
import Derived.Test.YtcmmjmgbanafgaaBn4
import Derived.Test.YtcmmjmgbanafgaaBn6
import Derived.Maps.AppendAt
import Derived.Test.YtcmmjmgbanafgaaSi0
import Derived.Test.YtcmmjmgbanafgaaSi1
import Derived.Test.YtcmmjmgbanafgaaSi2
import Derived.Test.YtcmmjmgbanafgaaSi3
import Derived.Test.YtcmmjmgbanafgaaSi4
import Derived.Test.YtcmmjmgbanafgaaSi5
import Derived.Test.YtcmmjmgbanafgaaSi6
import Derived.Test.YtcmmjmgbanafgaaBn7
import Derived.Test.YtcmmjmgbanafgaaFrame
/- The walks over moatref10's Pretty and wrapped. -/
namespace Go.Proofs.Url
open Syn
/-- A formula's first word, as the document's tree has it. -/
def kF : Fm → List UInt8
  | .un k _ _ => k
  | .no _ => w_not_
  | .both k _ _ => k
theorem kF_cases : ∀ {f : Fm}, FineF f → (kF f, rankF f) ∈ [(w_or_, 1), (w_and_, 2), (w_not_, 3), ([99, 104, 97, 110, 103, 101, 100], 3), ([102, 111, 114, 103, 101, 100], 3), ([107, 110, 111, 119, 115], 3), ([115, 116, 111, 108, 101, 110], 3), ([114, 97, 110], 3)]
  | .un k nm a, h => by
    have h3 := h.1
    show (k, 3) ∈ _
    simp only [words5, List.mem_cons, List.not_mem_nil, or_false] at h3
    rcases h3 with rfl | rfl | rfl | rfl | rfl <;> decide
  | .no f, h => by show (w_not_, 3) ∈ _; decide
  | .both k f g, h => by
    rcases h.1 with rfl | rfl
    · show (w_or_, 1) ∈ _; decide
    · show (w_and_, 2) ∈ _; decide
theorem kF_or {f : Fm} (h : FineF f) : (decide (kF f = w_or_)) = decide (rankF f < 2) ∧ (decide (kF f = w_and_)) = decide (rankF f = 2) := by
  have := kF_cases h
  generalize kF f = k at *
  generalize rankF f = r at *
  simp only [List.mem_cons, List.not_mem_nil, or_false, Prod.mk.injEq] at this
  rcases this with ⟨rfl, rfl⟩ | ⟨rfl, rfl⟩ | ⟨rfl, rfl⟩ | ⟨rfl, rfl⟩ | ⟨rfl, rfl⟩ | ⟨rfl, rfl⟩ | ⟨rfl, rfl⟩ | ⟨rfl, rfl⟩ <;> exact ⟨by decide, by decide⟩
end Go.Proofs.Url
namespace Go.Proofs.Ytcmmjmgbanafgaa
open Go.RowKit Go.Proofs.Url Go.Proofs.Url.Syn

theorem node_k {w : World} {B : Nat} {p : Option Addr} {f : Fm} (h : NodeAt w B p f) : ∃ n, p = some ⟨n, 0, none⟩ ∧ w.cell? ⟨n, 0, none⟩ = some (.string ⟨(kF f).toArray⟩) := by
  cases f with
  | un => obtain ⟨n, h1, _, h2, _⟩ := h; exact ⟨n, h1, h2⟩
  | no => obtain ⟨n, _, _, h1, _, _, h2, _⟩ := h; exact ⟨n, h1, h2⟩
  | both => obtain ⟨n, _, _, _, h1, _, _, h2, _⟩ := h; exact ⟨n, h1, h2⟩
/-- What Pretty answers. -/
def PrOk (B : Nat) (f : Fm) : Prop := ∀ (p : Option Addr) (w : World), NodeAt w B p f → (prettyF f).length ≤ 4294967000 → Calls Try.prog 38 #[.pointer p] w fun e w' => e = .returned (.string ⟨(prettyF f).toArray⟩) ∧ Below w.heap.size w w'
set_option maxHeartbeats 1000000 in
theorem wrapped_any {B : Nat} {f : Fm} (h : PrOk B f) (p : Option Addr) (w : World) (hN : NodeAt w B p f) (hl : (prettyF f).length ≤ 4294967000) (b : Bool) :
    Calls Try.prog 68 #[.pointer p, .bool b] w fun e w' => e = .returned (.string ⟨(wrapS (b = true) (prettyF f)).toArray⟩) ∧ Below w.heap.size w w' := by
  have H := hide (h p w hN hl)
  generalize prettyF f = P at *
  clear hN h
  cases b with
  | true =>
    go_enter Try.func68, Try.ntmps68
    go_wp2_with fail
    refine H.out.mono ?_
    rintro e w1 ⟨rfl, hb⟩
    have HB := hide hb
    clear hb
    go_wp2_with fail
    go_ret
    exact ⟨congrArg Ending.returned (congrArg Value.string (dataEq (by simp [wrapS]))), HB.out⟩
  | false =>
    go_enter Try.func68, Try.ntmps68
    go_wp2_with fail
    refine H.out.mono ?_
    rintro e w1 ⟨rfl, hb⟩
    have HB := hide hb
    clear hb
    go_wp2_with fail
    go_ret
    exact ⟨congrArg Ending.returned (congrArg Value.string (dataEq (by simp [wrapS]))), HB.out⟩
theorem kF_three {f : Fm} (h : FineF f) : kF f = w_or_ ∧ rankF f = 1 ∨ kF f = w_and_ ∧ rankF f = 2 ∨ kF f ≠ w_or_ ∧ kF f ≠ w_and_ ∧ rankF f = 3 := by
  have := kF_cases h
  generalize kF f = k at *
  generalize rankF f = r at *
  simp only [List.mem_cons, List.not_mem_nil, or_false, Prod.mk.injEq] at this
  rcases this with ⟨rfl, rfl⟩ | ⟨rfl, rfl⟩ | ⟨rfl, rfl⟩ | ⟨rfl, rfl⟩ | ⟨rfl, rfl⟩ | ⟨rfl, rfl⟩ | ⟨rfl, rfl⟩ | ⟨rfl, rfl⟩ <;> decide
theorem NodeAt.old {w W : World} {B : Nat} {p : Option Addr} {f : Fm} (h : NodeAt w B p f) (hb : Below w.heap.size w W) : NodeAt W B p f := NodeAt.but (ButP.of (g := B) hb) (Nat.le_refl _) h
theorem wrapS_len (b : Prop) [Decidable b] (l : List UInt8) : l.length ≤ (wrapS b l).length := by unfold wrapS; split <;> simp <;> omega
theorem wrapS_of {b : Bool} {q : Prop} [Decidable q] (h : b = decide q) (l : List UInt8) : wrapS (b = true) l = wrapS q l := by
  subst h; unfold wrapS; by_cases hq : q <;> simp [hq]
theorem wrapS_le (b : Prop) [Decidable b] (l : List UInt8) : (wrapS b l).length ≤ l.length + 2 := by unfold wrapS; split <;> simp
theorem rankF_pos (f : Fm) : ¬ rankF f < 1 := by cases f <;> simp only [rankF] <;> (try split) <;> omega
theorem pretty_grown {B : Nat} {f : Fm} (h : PrOk B f) (p : Option Addr) (w : World) (hN : NodeAt w B p f) (hl : (prettyF f).length ≤ 4294967000) (d : Nat) (os : Array Obj) :
    Calls Try.prog 38 #[.pointer p] (Sort.grow (redrawn w d) os) fun e w' => e = .returned (.string ⟨(prettyF f).toArray⟩) ∧ ∃ p : Regrown, w' = Sort.grow (redrawn w p.d) p.os :=
  Calls.regrown_of (h p _ (hN.old (below_regrown w d os)) hl)
theorem kF_beq {f : Fm} (h : FineF f) : (kF f == [111, 114]) = decide (rankF f < 2) := by
  rcases kF_three h with ⟨h1, h2⟩ | ⟨h1, h2⟩ | ⟨h1, _, h2⟩
  · rw [h1, h2]; decide
  · rw [h1, h2]; decide
  · rw [h2, beq_eq_false_iff_ne.2 h1]; decide
theorem bytes_ne {a b : List UInt8} (h : a ≠ b) : (⟨a.toArray⟩ : ByteArray) ≠ ⟨b.toArray⟩ := fun e => h (by have := congrArg ByteArray.data e; simpa using this)
theorem wrapped_grown {B : Nat} {f : Fm} (h : PrOk B f) (p : Option Addr) (w : World) (hN : NodeAt w B p f) (hl : (prettyF f).length ≤ 4294967000) (b : Bool) (d : Nat) (os : Array Obj) :
    Calls Try.prog 68 #[.pointer p, .bool b] (Sort.grow (redrawn w d) os) fun e w' => e = .returned (.string ⟨(wrapS (b = true) (prettyF f)).toArray⟩) ∧ ∃ p : Regrown, w' = Sort.grow (redrawn w p.d) p.os :=
  Calls.regrown_of (wrapped_any h p _ (hN.old (below_regrown w d os)) hl b)
set_option maxHeartbeats 16000000 in
set_option maxRecDepth 100000 in
theorem pretty_any (B : Nat) : ∀ f : Fm, FineF f → PrOk B f := by
  intro f
  induction f with
  | un k nm a =>
    intro hf p w hN hl
    obtain ⟨n, rfl, hn, c0, c1, c2, c3⟩ := hN
    have hw := World.block_lt_of_cell? w _ c0
    have hkl : k.length + nm.length + 1 ≤ 4294967000 := by have e : (prettyF (.un k nm a)).length = k.length + nm.length + 1 := by simp [prettyF]; omega
                                                           omega
    have HE : Hid ((⟨k.toArray⟩ ++ ⟨#[32]⟩ ++ ⟨nm.toArray⟩ : ByteArray) = ⟨(prettyF (.un k nm a)).toArray⟩) := dataEq (by simp [prettyF])
    have BD := hide (fun n => below_drewP w n)
    have hk := hf.1
    simp only [words5, List.mem_cons, List.not_mem_nil, or_false] at hk
    clear hl hf
    rcases hk with rfl | rfl | rfl | rfl | rfl
    all_goals
      go_enter Try.func38, Try.ntmps38
      go_wp2_with fail
      go_quiet (fail)
      go_wp2_with fail
      go_ret
      exact ⟨congrArg Ending.returned (congrArg Value.string HE.out), BD.out _⟩
  | no f ih =>
    intro hf p w hN hl
    have hf : FineF f := hf
    obtain ⟨n, m, q, rfl, hn, hm, c0, c1, c3, d0, hx⟩ := hN
    have hw := World.block_lt_of_cell? w _ c0
    have hw2 := World.block_lt_of_cell? w _ d0
    obtain ⟨n2, rfl, e0⟩ := node_k hx
    have hw3 := World.block_lt_of_cell? w _ e0
    have HP : Hid (prettyF (.no f) = w_not_ ++ 32 :: wrapS (rankF f < 3) (prettyF f)) := rfl
    have hlP : (prettyF f).length + 4 ≤ (prettyF (.no f)).length := by
      have := congrArg List.length HP.out
      have := wrapS_len (rankF f < 3) (prettyF f)
      have e : w_not_.length = 3 := rfl
      simp only [List.length_append, List.length_cons] at *
      omega
    have j0 := fun d os => cell_regrown c0 d os
    have j3 := fun d os => cell_regrown c3 d os
    have k0 := fun d os => cell_regrown d0 d os
    have l0 := fun d os => cell_regrown e0 d os
    have hb := kF_three hf
    obtain ⟨b, hbe⟩ : ∃ b, b = decide (rankF f < 3) := ⟨_, rfl⟩
    have CW := hide (fun d os => by have := wrapped_grown (ih hf) _ w hx (by omega) b d os; rw [wrapS_of hbe] at this; exact this)
    have hW := wrapS_le (rankF f < 3) (prettyF f)
    rw [HP.out]
    have hhp : (prettyF (.no f)).length = 4 + (wrapS (rankF f < 3) (prettyF f)).length := by rw [HP.out]; simp [w_not_]; omega
    clear HP hlP
    have hl : (wrapS (rankF f < 3) (prettyF f)).length + 4 ≤ 4294967000 := by omega
    generalize wrapS (rankF f < 3) (prettyF f) = P at *
    clear hW hhp hx ih
    rename_i hl0
    clear hl0
    have HE : Hid ((⟨#[110, 111, 116, 32]⟩ ++ ⟨P.toArray⟩ : ByteArray) = ⟨(w_not_ ++ 32 :: P).toArray⟩) := dataEq (by simp [w_not_])
    rcases hb with ⟨hk, hr⟩ | ⟨hk, hr⟩ | ⟨hk, hk2, hr⟩
    · rw [hk] at l0 e0
      rw [hr] at hbe
      have hbe2 : b = true := by rw [hbe]; decide
      clear hbe
      subst hbe2
      clear hr hk hf
      go_enter Try.func38, Try.ntmps38
      go_wp2_with fail
      refine wp_region_quiet_below (by kernel_rfl) (by kernel_rfl) ?_
      repeat (go_big_quiet_step (first | (go_at_call 68; exact CW.out _ _)))
      refine wpQuiet_nil ?_
      rintro _ ⟨pq, rfl⟩
      have hb2 := hide (below_regrown w pq.d pq.os)
      go_wp2_with fail
      go_ret
      exact ⟨congrArg Ending.returned (congrArg Value.string HE.out), hb2.out⟩
    · rw [hk] at l0 e0
      rw [hr] at hbe
      have hbe2 : b = true := by rw [hbe]; decide
      clear hbe
      subst hbe2
      clear hr hk hf
      go_enter Try.func38, Try.ntmps38
      go_wp2_with fail
      refine wp_region_quiet_below (by kernel_rfl) (by kernel_rfl) ?_
      repeat (go_big_quiet_step (first | (go_at_call 68; exact CW.out _ _)))
      refine wpQuiet_nil ?_
      rintro _ ⟨pq, rfl⟩
      have hb2 := hide (below_regrown w pq.d pq.os)
      go_wp2_with fail
      go_ret
      exact ⟨congrArg Ending.returned (congrArg Value.string HE.out), hb2.out⟩
    · have hk3 := beq_eq_false_iff_ne.2 hk
      have hk4 := beq_eq_false_iff_ne.2 hk2
      unfold w_or_ at hk3
      unfold w_and_ at hk4
      rw [hr] at hbe
      have hbe2 : b = false := by rw [hbe]; decide
      clear hbe
      subst hbe2
      clear hr hk hk2 hf
      generalize kF f = k at *
      go_enter Try.func38, Try.ntmps38
      go_wp2_with fail
      refine wp_region_quiet_below (by kernel_rfl) (by kernel_rfl) ?_
      repeat (go_big_quiet_step (first | (go_at_call 68; exact CW.out _ _)))
      refine wpQuiet_nil ?_
      rintro _ ⟨pq, rfl⟩
      have hb2 := hide (below_regrown w pq.d pq.os)
      go_wp2_with fail
      go_ret
      exact ⟨congrArg Ending.returned (congrArg Value.string HE.out), hb2.out⟩
  | both k f g ihf ihg =>
    intro hf p w hN hl
    obtain ⟨hkk, hff, hfg⟩ : (k = w_or_ ∨ k = w_and_) ∧ FineF f ∧ FineF g := hf
    obtain ⟨n, m, q, u, rfl, hn, hm, c0, c1, c3, d0, d1, hx, hy⟩ := hN
    have hw := World.block_lt_of_cell? w _ c0
    have hw2 := World.block_lt_of_cell? w _ d0
    obtain ⟨n2, rfl, e0⟩ := node_k hx
    obtain ⟨n3, rfl, g0⟩ := node_k hy
    have hw3 := World.block_lt_of_cell? w _ e0
    have hw4 := World.block_lt_of_cell? w _ g0
    have hbf := kF_beq hff
    have hbg := kF_beq hfg
    have h3 := kF_three hfg
    have j0 := fun d os => cell_regrown c0 d os
    have j3 := fun d os => cell_regrown c3 d os
    have k0 := fun d os => cell_regrown d0 d os
    have k1 := fun d os => cell_regrown d1 d os
    have l0 := fun d os => cell_regrown e0 d os
    have l1 := fun d os => cell_regrown g0 d os
    rcases hkk with rfl | rfl
    · have HP : Hid (prettyF (.both w_or_ f g) = prettyF f ++ 32 :: (w_or_ ++ 32 :: wrapS (rankF g < 2) (prettyF g))) := by
        unfold Hid
        show wrapS (rankF f < (if w_or_ = w_or_ then 1 else 2)) (prettyF f) ++ 32 :: (w_or_ ++ 32 :: wrapS (rankF g < (if w_or_ = w_or_ then 1 else 2) + 1) (prettyF g)) = _
        have e : wrapS (rankF f < (if w_or_ = w_or_ then 1 else 2)) (prettyF f) = prettyF f := if_neg (rankF_pos f)
        rw [e]; rfl
      have hhp : (prettyF (.both w_or_ f g)).length = (prettyF f).length + 4 + (wrapS (rankF g < 2) (prettyF g)).length := by rw [HP.out]; simp [w_or_]; omega
      have hW := wrapS_len (rankF g < 2) (prettyF g)
      have CP := hide (fun d os => pretty_grown (ihf hff) _ w hx (by omega) d os)
      have CW := hide (fun d os => by have := wrapped_grown (ihg hfg) _ w hy (by omega) (kF g == [111, 114]) d os; rw [wrapS_of hbg] at this; exact this)
      rw [HP.out]
      have hl : (prettyF f).length + 4 + (wrapS (rankF g < 2) (prettyF g)).length ≤ 4294967000 := by omega
      clear HP hW hhp hx hy ihf ihg hbf hbg h3 hff hfg
      generalize wrapS (rankF g < 2) (prettyF g) = P2 at *
      generalize prettyF f = P1 at *
      generalize kF g = kg at *
      rename_i hl0
      clear hl0
      have HE : Hid ((⟨P1.toArray⟩ ++ ⟨#[32, 111, 114, 32]⟩ ++ ⟨P2.toArray⟩ : ByteArray) = ⟨(P1 ++ 32 :: (w_or_ ++ 32 :: P2)).toArray⟩) := dataEq (by simp [w_or_])
      go_enter Try.func38, Try.ntmps38
      go_wp2_with fail
      refine wp_region_quiet_below (by kernel_rfl) (by kernel_rfl) ?_
      repeat (go_big_quiet_step (fail))
      go_big_quiet_step (first | (go_at_call 38; exact CP.out _ _))
      repeat (go_big_quiet_step (fail))
      go_big_quiet_step (first | (go_at_call 68; exact CW.out _ _))
      repeat (go_big_quiet_step (fail))
      refine wpQuiet_nil ?_
      rintro _ ⟨pq, rfl⟩
      have hb2 := hide (below_regrown w pq.d pq.os)
      go_wp2_with fail
      go_ret
      exact ⟨congrArg Ending.returned (congrArg Value.string HE.out), hb2.out⟩
    · have HP : Hid (prettyF (.both w_and_ f g) = wrapS (rankF f < 2) (prettyF f) ++ 32 :: (w_and_ ++ 32 :: wrapS (rankF g < 3) (prettyF g))) := rfl
      have hhp : (prettyF (.both w_and_ f g)).length = (wrapS (rankF f < 2) (prettyF f)).length + 5 + (wrapS (rankF g < 3) (prettyF g)).length := by rw [HP.out]; simp [w_and_]; omega
      have hW := wrapS_len (rankF g < 3) (prettyF g)
      have hW2 := wrapS_len (rankF f < 2) (prettyF f)
      obtain ⟨b, hbe⟩ : ∃ b, b = decide (rankF g < 3) := ⟨_, rfl⟩
      have CW := hide (fun d os => by have := wrapped_grown (ihf hff) _ w hx (by omega) (kF f == [111, 114]) d os; rw [wrapS_of hbf] at this; exact this)
      have CX := hide (fun d os => by have := wrapped_grown (ihg hfg) _ w hy (by omega) b d os; rw [wrapS_of hbe] at this; exact this)
      rw [HP.out]
      have hl : (wrapS (rankF f < 2) (prettyF f)).length + 5 + (wrapS (rankF g < 3) (prettyF g)).length ≤ 4294967000 := by omega
      clear HP hW hW2 hhp hx hy ihf ihg hbf hbg hff hfg
      generalize wrapS (rankF g < 3) (prettyF g) = P2 at *
      generalize wrapS (rankF f < 2) (prettyF f) = P1 at *
      generalize kF f = kf at *
      rename_i hl0
      clear hl0
      have HE : Hid ((⟨P1.toArray⟩ ++ ⟨#[32, 97, 110, 100, 32]⟩ ++ ⟨P2.toArray⟩ : ByteArray) = ⟨(P1 ++ 32 :: (w_and_ ++ 32 :: P2)).toArray⟩) := dataEq (by simp [w_and_])
      rcases h3 with ⟨hk, hr⟩ | ⟨hk, hr⟩ | ⟨hk, hk2, hr⟩
      · rw [hk] at l1 g0
        rw [hr] at hbe
        have hbe2 : b = true := by rw [hbe]; decide
        clear hbe
        subst hbe2
        clear hr hk
        go_enter Try.func38, Try.ntmps38
        go_wp2_with fail
        refine wp_region_quiet_below (by kernel_rfl) (by kernel_rfl) ?_
        repeat (go_big_quiet_step (fail))
        go_big_quiet_step (first | (go_at_call 68; exact CW.out _ _))
        repeat (go_big_quiet_step (fail))
        go_big_quiet_step (first | (go_at_call 68; exact CX.out _ _))
        repeat (go_big_quiet_step (fail))
        refine wpQuiet_nil ?_
        rintro _ ⟨pq, rfl⟩
        have hb2 := hide (below_regrown w pq.d pq.os)
        go_wp2_with fail
        go_ret
        exact ⟨congrArg Ending.returned (congrArg Value.string HE.out), hb2.out⟩
      · rw [hk] at l1 g0
        rw [hr] at hbe
        have hbe2 : b = true := by rw [hbe]; decide
        clear hbe
        subst hbe2
        clear hr hk
        go_enter Try.func38, Try.ntmps38
        go_wp2_with fail
        refine wp_region_quiet_below (by kernel_rfl) (by kernel_rfl) ?_
        repeat (go_big_quiet_step (fail))
        go_big_quiet_step (first | (go_at_call 68; exact CW.out _ _))
        repeat (go_big_quiet_step (fail))
        go_big_quiet_step (first | (go_at_call 68; exact CX.out _ _))
        repeat (go_big_quiet_step (fail))
        refine wpQuiet_nil ?_
        rintro _ ⟨pq, rfl⟩
        have hb2 := hide (below_regrown w pq.d pq.os)
        go_wp2_with fail
        go_ret
        exact ⟨congrArg Ending.returned (congrArg Value.string HE.out), hb2.out⟩
      · have hk3 := beq_eq_false_iff_ne.2 hk
        have hk4 := beq_eq_false_iff_ne.2 hk2
        unfold w_or_ at hk3
        unfold w_and_ at hk4
        rw [hr] at hbe
        have hbe2 : b = false := by rw [hbe]; decide
        clear hbe
        subst hbe2
        clear hr hk hk2
        generalize kF g = kg at *
        go_enter Try.func38, Try.ntmps38
        go_wp2_with fail
        refine wp_region_quiet_below (by kernel_rfl) (by kernel_rfl) ?_
        repeat (go_big_quiet_step (fail))
        go_big_quiet_step (first | (go_at_call 68; exact CW.out _ _))
        repeat (go_big_quiet_step (fail))
        go_big_quiet_step (first | (go_at_call 68; exact CX.out _ _))
        repeat (go_big_quiet_step (fail))
        refine wpQuiet_nil ?_
        rintro _ ⟨pq, rfl⟩
        have hb2 := hide (below_regrown w pq.d pq.os)
        go_wp2_with fail
        go_ret
        exact ⟨congrArg Ending.returned (congrArg Value.string HE.out), hb2.out⟩
end Go.Proofs.Ytcmmjmgbanafgaa

/- The walk over moatref10's Shown. -/
namespace Go.Proofs.Ytcmmjmgbanafgaa
open Go.RowKit Go.Proofs.Url Go.Proofs.Url.Syn
open Go.Sort (grow)

theorem attrs_showA : ∀ (l : List Atr), l.length ≤ (l.flatMap showA).length
  | [] => Nat.le_refl _
  | a :: r => by
    have := attrs_showA r
    rw [List.flatMap_cons, List.length_append, List.length_cons]
    have : 1 ≤ (showA a).length := by simp [showA]
    omega
set_option maxHeartbeats 16000000 in
set_option maxRecDepth 100000 in
theorem shown_any (g : Nat) (cs : List Value) (y : Itm) (w : World) (h : ItmAt w g cs y) (hf : ∀ f, y.f = some f → FineF f) (hs : (showI y).length < 4294960000) :
    Calls Try.prog 19 #[.agg cs.toArray] w fun e w' => e = .returned (.string ⟨(showI y).toArray⟩) ∧ Below w.heap.size w w' := by
  obtain ⟨k, a, nm, wh, cp, tx, l, f⟩ := y
  obtain ⟨ao, cv, pf, rfl, hA, hF⟩ := h
  simp only [] at hA hF hf
  obtain ⟨b, hb⟩ : ∃ b, b = w.heap.size := ⟨_, rfl⟩
  obtain ⟨W0, hW0⟩ : ∃ W0, W0 = w.alloc (Obj.cells (itmCells k a nm wh cp tx (.slice ao l.length cv) pf).toArray 65) := ⟨_, rfl⟩
  have X0 : Hid (BX W0 b (itmCells k a nm wh cp tx (.slice ao l.length cv) pf)) := by unfold Hid; rw [hW0, hb]; exact BX.new w _ rfl 65
  have B0 : Hid (Below w.heap.size w W0) := by unfold Hid; rw [hW0]; exact (Below.refl _ _).alloc (Nat.le_refl _) _
  have HA := hide hA
  have HF := hide hF
  have HW := hide hW0
  have HB := hide hb
  clear hA hF hW0 hb
  obtain ⟨R, hR⟩ : ∃ R, R = (if k = w_endpoint then [32, 123, 10] ++ l.flatMap showA ++ [125, 10] else match f with | some f => [32, 61, 32] ++ prettyF f ++ [59, 10] | none => [59, 10]) := ⟨_, rfl⟩
  have HL0 : Hid (showI ⟨k, a, nm, wh, cp, tx, l, f⟩ = k ++ toldS nm ++ (if wh.kind = 0 then [] else [32, 97, 116] ++ toldS wh) ++ toldS cp ++ toldS tx ++ R) := by
    unfold Hid showI headS
    rw [hR]
    show (if k = w_endpoint then _ else match f with | some f => _ | none => _) = _
    by_cases hk : k = w_endpoint
    · rw [if_pos hk, if_pos hk]; simp
    · rw [if_neg hk, if_neg hk]
      cases f <;> simp
  have HR := hide hR
  have HFF := hide hf
  clear hR hf
  have hs0 := hide hs
  have hsz : k.length + (toldS nm).length + (if wh.kind = 0 then [] else [32, 97, 116] ++ toldS wh).length + (toldS cp).length + (toldS tx).length + R.length < 4294960000 := by
    rw [HL0.out] at hs; simp only [List.length_append] at hs; omega
  clear hs
  have T1 := hide (fun d os => told_grown nm W0 (by omega) d os)
  have c0 := fun d os => cell_regrown (X0.out.c 0 _ rfl) d os
  have c2 := fun d os => cell_regrown (X0.out.c 2 _ rfl) d os
  have c3 := fun d os => cell_regrown (X0.out.c 3 _ rfl) d os
  have c4 := fun d os => cell_regrown (X0.out.c 4 _ rfl) d os
  have hbl := X0.out.lt
  have hz1 : k.length < 4294967281 := by omega
  have hz2 : k.length + (toldS nm).length < 4294967281 := by omega
  have HSZ := hide hsz
  clear hsz
  go_enter Try.func19, Try.ntmps19
  go_upto_region 1 with fail
  rw [← HW.out, ← HB.out]
  refine wp_region_quiet_below (by kernel_rfl) (by kernel_rfl) ?_
  repeat (go_big_quiet_step (first | (go_at_call 37; exact T1.out _ _)))
  refine wpQuiet_nil ?_
  rintro _ ⟨pq, rfl⟩
  have b1 := below_regrown W0 pq.d pq.os
  generalize grow (redrawn W0 pq.d) pq.os = W1 at *
  have X1 := hide (X0.out.same (b1.block b hbl))
  have B1 := hide (B0.out.trans (b1.mono B0.out.size))
  clear b1 X0 B0 c0 c2 c3 c4 T1 hz1 hbl
  have c5 := X1.out.c 5 _ rfl
  have c6 := X1.out.c 6 _ rfl
  have c7 := X1.out.c 7 _ rfl
  have hbl := X1.out.lt
  obtain ⟨S2, hS2⟩ : ∃ S2, S2 = (if wh.kind = 0 then [] else [32, 97, 116] ++ toldS wh) := ⟨_, rfl⟩
  have HS2 := hide hS2
  rw [← hS2] at HL0 HSZ
  clear hS2
  go_upto_if 14 with fail
  go_cut [3] (fun v W => v = .string ⟨(k ++ toldS nm ++ S2).toArray⟩ ∧ Hid (Below w.heap.size w W) ∧ Hid (BX W b (itmCells k a nm wh cp tx (.slice ao l.length cv) pf)))
  case first => as_aux_lemma =>
    by_cases h0 : wh.kind = 0
    · have e0 : ((wh.kind : Int) != 0) = false := by simp [h0]
      have HE : Hid (S2 = []) := by unfold Hid; rw [HS2.out, if_pos h0]
      clear h0
      go_wp2_with fail
      go_meet
      case rel => exact ⟨congrArg Value.string (dataEq (by rw [HE.out]; simp)), B1, X1⟩
    · have e0 : ((wh.kind : Int) != 0) = true := by simp [h0]
      have HE : Hid (S2 = [32, 97, 116] ++ toldS wh) := by unfold Hid; rw [HS2.out, if_neg h0]
      have hz3 : k.length + (toldS nm).length + 3 + (toldS wh).length < 4294967281 := by
        have h := HSZ.out; rw [HE.out, List.length_append] at h; simp at h; omega
      have T2 := hide (told_any wh W1 (by omega))
      clear h0
      go_wp2_with fail
      refine T2.out.mono ?_
      rintro e W2 ⟨rfl, b2⟩
      have X2 := hide (X1.out.same (b2.block b hbl))
      have B2 := hide (B1.out.trans (b2.mono B1.out.size))
      clear b2 T2
      go_wp2_with fail
      go_meet
      case rel => exact ⟨congrArg Value.string (dataEq (by rw [HE.out]; simp)), B2, X2⟩
  case rest =>
  obtain ⟨rfl, B2, X2⟩ := hcut
  obtain ⟨pre, hpre⟩ : ∃ pre, pre = k ++ toldS nm ++ S2 := ⟨_, rfl⟩
  rw [← hpre] at HL0 ⊢
  have hpl : pre.length = k.length + (toldS nm).length + S2.length := by rw [hpre]; simp; omega
  have hsz := HSZ.out
  have hz3 : pre.length + (toldS cp).length + (toldS tx).length + R.length < 4294967281 := by omega
  have HSZ2 := hide hz3
  have hz4 : pre.length + (toldS cp).length < 4294967281 := by omega
  have hz5 : pre.length + (toldS cp).length + (toldS tx).length < 4294967281 := by omega
  clear hpre hpl hsz hz3 HSZ HS2 X1 B1 c5 c6 c7 hz2 hbl
  have T3 := hide (fun d os => told_grown cp wc (by omega) d os)
  have T4 := hide (fun d os => told_grown tx wc (by omega) d os)
  have c8 := fun d os => cell_regrown (X2.out.c 8 _ rfl) d os
  have c9 := fun d os => cell_regrown (X2.out.c 9 _ rfl) d os
  have c10 := fun d os => cell_regrown (X2.out.c 10 _ rfl) d os
  have c11 := fun d os => cell_regrown (X2.out.c 11 _ rfl) d os
  have c12 := fun d os => cell_regrown (X2.out.c 12 _ rfl) d os
  have c13 := fun d os => cell_regrown (X2.out.c 13 _ rfl) d os
  have hbl := X2.out.lt
  go_upto_region 4 with fail
  refine wp_region_quiet_below (by kernel_rfl) (by kernel_rfl) ?_
  iterate 3 (go_big_quiet_step (fail))
  go_big_quiet_step (first | (go_at_call 37; exact T3.out _ _))
  iterate 3 (go_big_quiet_step (fail))
  go_big_quiet_step (first | (go_at_call 37; exact T4.out _ _))
  iterate 2 (go_big_quiet_step (fail))
  refine wpQuiet_nil ?_
  rintro _ ⟨pq3, rfl⟩
  have b3 := below_regrown wc pq3.d pq3.os
  generalize grow (redrawn wc pq3.d) pq3.os = W3 at *
  have X3 := hide (X2.out.same (b3.block b hbl))
  have B3 := hide (B2.out.trans (b3.mono B2.out.size))
  clear b3 X2 B2 c8 c9 c10 c11 c12 c13 T3 T4 hz4 hbl
  obtain ⟨pr2, hpr2⟩ : ∃ x, x = pre ++ toldS cp ++ toldS tx := ⟨_, rfl⟩
  have HP2 := hide hpr2
  have hp2l : pr2.length = pre.length + (toldS cp).length + (toldS tx).length := by rw [hpr2]; simp; omega
  clear hpr2
  have HSZ3 : Hid (pr2.length + R.length < 4294967281) := by unfold Hid; have := HSZ2.out; omega
  have HL1 : Hid (showI ⟨k, a, nm, wh, cp, tx, l, f⟩ = pr2 ++ R) := by unfold Hid; rw [HL0.out, HP2.out]
  have HPL := hide hp2l
  clear hp2l HSZ2 HL0 hz5
  have A3 := hide (HA.out.but (ButP.of (g := g) B3.out))
  have F3 := hide (HF.out.but (ButP.of (g := g) B3.out))
  clear HA HF HW HB
  have hbl3 := X3.out.lt
  have y0 := X3.out.c 0 _ rfl
  by_cases hk : k = w_endpoint
  · have hkb : (k == [101, 110, 100, 112, 111, 105, 110, 116]) = true := by rw [hk]; rfl
    have HRe : Hid (R = [32, 123, 10] ++ l.flatMap showA ++ [125, 10]) := by unfold Hid; rw [HR.out, if_pos hk]
    have HSZ4 : Hid (pr2.length + 3 + (l.flatMap showA).length + 2 < 4294967281) := by unfold Hid; have h := HSZ3.out; rw [HRe.out] at h; simp only [List.length_append, List.length_cons, List.length_nil] at h; omega
    have hz6 : pre.length + (toldS cp).length + (toldS tx).length + 3 < 4294967281 := by have := HSZ4.out; have := HPL.out; omega
    clear hk HR HSZ3 HFF
    go_wp2_with fail
    go_loopw [3, 4] (fun sv iv W => ∃ i : Nat, i ≤ l.length ∧ iv = .int .i64 i ∧ sv = .string ⟨(pr2 ++ [32, 123, 10] ++ (l.take i).flatMap showA).toArray⟩ ∧ Hid (Below w.heap.size w W) ∧ Hid (BX W b (itmCells k a nm wh cp tx (.slice ao l.length cv) pf)) ∧ Hid (AtrsAt W g ao l)) (fun _ iv _ => l.length - (intOf iv).toNat)
    case atStart => exact ⟨0, Nat.zero_le _, rfl, congrArg Value.string (dataEq (by rw [HP2.out]; simp)), B3, X3, A3⟩
    case round =>
      obtain ⟨i, hi, rfl, rfl, hB, hX, hA⟩ := hrel
      have x14 := hX.out.c 14 _ rfl
      have hbl := hX.out.lt
      by_cases hlt : i < l.length
      · have hlI : (i : Int) < (l.length : Int) := by omega
        have hiI : (i : Int) < 4294967281 := by have h1 := attrs_showA l; have h2 := HSZ4.out; omega
        obtain ⟨bb, hbb, _, k1, k2, k3, k4, k5⟩ := hA.out i hlt
        have hst := flatMap_take_le showA l i hlt
        have hz := HSZ4.out
        obtain ⟨pa, hpa⟩ : ∃ x, x = pr2 ++ [32, 123, 10] ++ (l.take i).flatMap showA := ⟨_, rfl⟩
        have hpl : pa.length = pr2.length + 3 + ((l.take i).flatMap showA).length := by rw [hpa]; simp; omega
        have hal : (showA l[i]).length = l[i].k.length + (toldS l[i].t).length + 4 := by simp [showA]; omega
        have hz6 : pa.length + l[i].k.length + (toldS l[i].t).length + 4 < 4294967281 := by omega
        have HNx : Hid (pr2 ++ [32, 123, 10] ++ (l.take (i + 1)).flatMap showA = pa ++ (32 :: 32 :: (l[i].k ++ toldS l[i].t ++ [59, 10]))) := by
          unfold Hid; rw [List.take_succ_eq_append_getElem hlt, List.flatMap_append, hpa]; simp [showA]
        rw [← hpa]
        clear hst hz hpa hpl hal k2
        subst hbb
        have T5 := hide (fun d os => told_grown l[i].t wr (by omega) d os)
        have e14 := fun d os => cell_regrown x14 d os
        have e1 := fun d os => cell_regrown k1 d os
        have e3 := fun d os => cell_regrown k3 d os
        have e4 := fun d os => cell_regrown k4 d os
        have e5 := fun d os => cell_regrown k5 d os
        have hbl2 := World.block_lt_of_cell? wr _ k1
        have hz7 : pa.length + 2 < 4294967281 := by omega
        have hz8 : pa.length + 2 + l[i].k.length < 4294967281 := by omega
        have hz9 : pa.length + 2 + l[i].k.length + (toldS l[i].t).length < 4294967281 := by omega
        clear k1 k3 k4 k5
        go_upto_region 10 with fail
        clear x14
        refine wp_region_quiet_below (by kernel_rfl) (by kernel_rfl) ?_
        repeat (go_big_quiet_step (first | (go_at_call 37; exact T5.out _ _)))
        refine wpQuiet_nil ?_
        rintro _ ⟨pq5, rfl⟩
        have b5 := below_regrown wr pq5.d pq5.os
        generalize grow (redrawn wr pq5.d) pq5.os = W5 at *
        have X5 := hide (hX.out.same (b5.block b hbl))
        have B5 := hide (hB.out.trans (b5.mono hB.out.size))
        have A5 := hide (hA.out.but (ButP.of (g := g) b5))
        clear b5 hX hB hA e14 e1 e3 e4 e5 T5 hbl hbl2
        go_wp2_with fail
        exact ⟨⟨i + 1, by omega, by go_num, congrArg Value.string (dataEq (by rw [HNx.out]; simp)), B5, X5, A5⟩, by simp [intOf]; omega⟩
      · have hge : l.length ≤ i := by omega
        have hlI : ¬ (i : Int) < (l.length : Int) := by omega
        rw [List.take_of_length_le hge]
        obtain ⟨pa, hpa⟩ : ∃ x, x = pr2 ++ [32, 123, 10] ++ l.flatMap showA := ⟨_, rfl⟩
        have hpl : pa.length = pr2.length + 3 + (l.flatMap showA).length := by rw [hpa]; simp; omega
        have HL2 : Hid (showI ⟨k, a, nm, wh, cp, tx, l, f⟩ = pa ++ [125, 10]) := by unfold Hid; rw [HL1.out, HRe.out, hpa]; simp
        have hz := HSZ4.out
        have hz6 : pa.length + 2 < 4294967281 := by omega
        rw [← hpa]
        clear hpa HL1 hz hpl
        go_wp2_with fail
        go_ret
        rw [HL2.out]
        exact ⟨congrArg Ending.returned (congrArg Value.string (dataEq (by simp))), hB.out⟩
  · have hkb : (k == [101, 110, 100, 112, 111, 105, 110, 116]) = false := beq_eq_false_iff_ne.2 hk
    have x15 := X3.out.c 15 _ rfl
    have hz := HSZ3.out
    clear HSZ3
    cases f with
    | none =>
      have hp : pf = none := F3.out
      subst hp
      have HRe : Hid (R = [59, 10]) := by unfold Hid; rw [HR.out, if_neg hk]
      have HL2 : Hid (showI ⟨k, a, nm, wh, cp, tx, l, none⟩ = pr2 ++ [59, 10]) := by unfold Hid; rw [HL1.out, HRe.out]
      have hz6 : pre.length + (toldS cp).length + (toldS tx).length + 2 < 4294967281 := by rw [HRe.out] at hz; have := HPL.out; simp only [List.length_cons, List.length_nil] at hz; omega
      clear hz HL1 HRe HFF F3 A3 hk HR
      go_wp2_with fail
      go_ret
      rw [HL2.out, HP2.out]
      exact ⟨congrArg Ending.returned (congrArg Value.string (dataEq (by simp))), B3.out⟩
    | some f =>
      have hN : NodeAt W3 g pf f := F3.out
      have HRe : Hid (R = [32, 61, 32] ++ prettyF f ++ [59, 10]) := by unfold Hid; rw [HR.out, if_neg hk]
      have HL2 : Hid (showI ⟨k, a, nm, wh, cp, tx, l, some f⟩ = pr2 ++ ([32, 61, 32] ++ prettyF f ++ [59, 10])) := by unfold Hid; rw [HL1.out, HRe.out]
      have hzp : (prettyF f).length ≤ 4294967000 := by have := hs0.out; unfold showI at this; rw [if_neg hk] at this; simp only [List.length_append, List.length_cons, List.length_nil] at this; omega
      have hz6 : pre.length + (toldS cp).length + (toldS tx).length + 3 + (prettyF f).length + 2 < 4294967281 := by rw [HRe.out] at hz; have := HPL.out; simp only [List.length_append, List.length_cons, List.length_nil] at hz; omega
      have hFo := hide (pretty_any g f (HFF.out f rfl) pf W3 hN hzp)
      obtain ⟨nn, rfl, _⟩ := node_k hN
      clear hz HL1 HRe HFF F3 A3 hN hzp hk HR hs0
      generalize prettyF f = ff at *
      go_wp2_with fail
      refine hFo.out.mono ?_
      rintro e w' ⟨rfl, hw'⟩
      have B4 := hide (B3.out.trans (hw'.mono B3.out.size))
      clear hw'
      go_wp2_with fail
      go_ret
      rw [HL2.out, HP2.out]
      exact ⟨congrArg Ending.returned (congrArg Value.string (dataEq (by simp))), B4.out⟩
end Go.Proofs.Ytcmmjmgbanafgaa

/- A row of items in memory. -/
namespace Go.Proofs.Url
open Syn
theorem items_step {t : Tk} {q : List Tk} (k : Nat) :
    (∀ y r1, itemR (t :: q) = .ok y r1 → itemsF (k + 1) (t :: q) = (itemsF k r1).map (fun l => y :: l) ∧ r1.length < (t :: q).length) ∧ (∀ r1, itemR (t :: q) = .bad r1 → itemsF (k + 1) (t :: q) = .bad r1) := by
  rw [items_succ]
  refine ⟨fun y r1 h => ?_, fun r1 h => ?_⟩
  · rw [h]; exact ⟨rfl, item_shortq h⟩
  · rw [h]; rfl
end Go.Proofs.Url
namespace Go.Proofs.Ytcmmjmgbanafgaa
open Go.RowKit Go.Proofs.Url Go.Proofs.Url.Syn

theorem infoI : (Try.prog.info? 65).map (fun i => (i.zero, i.size, i.bytes)) = some (some (.agg #[.string ByteArray.empty, .int .i64 0, .int .i64 0, .int .i64 0, .string ByteArray.empty, .int .i64 0, .int .i64 0, .string ByteArray.empty, .int .i64 0, .int .i64 0, .string ByteArray.empty, .int .i64 0, .int .i64 0, .string ByteArray.empty, .slice none 0 0, .pointer none]), 16, 184) := by kernel_rfl
/-- An item's cells, and what it is. -/
abbrev CI := List Value × Itm
def flatC (xs : List CI) : List Value := xs.flatMap (·.1)
theorem flat16 : ∀ (xs : List CI), (∀ x ∈ xs, x.1.length = 16) → ∀ k (h : k < xs.length) j v, xs[k].1[j]? = some v → (flatC xs)[k * 16 + j]? = some v := by
  intro xs
  induction xs with
  | nil => intro _ k h; simp at h
  | cons p ps ih =>
    intro hl k h j v hv
    have hp : p.1.length = 16 := hl p (List.mem_cons_self ..)
    unfold flatC
    rw [List.flatMap_cons]
    cases k with
    | zero =>
      have hv : p.1[j]? = some v := hv
      have hj : j < 16 := by
        rcases Nat.lt_or_ge j 16 with h | h
        · exact h
        · rw [List.getElem?_eq_none (by omega)] at hv; cases hv
      rw [Nat.zero_mul, Nat.zero_add, List.getElem?_append_left (by omega)]
      exact hv
    | succ k =>
      rw [List.getElem?_append_right (by omega), hp, show (k + 1) * 16 + j - 16 = k * 16 + j by omega]
      exact ih (fun x hx => hl x (List.mem_cons_of_mem p hx)) k (by simpa using h) j v hv
/-- The cells of a row of items. -/
def RowC (W : World) (B : Nat) (ao : Option Addr) (xs : List CI) : Prop :=
  ∀ i (h : i < xs.length), ∃ b, ao = some ⟨b, 0, none⟩ ∧ B ≤ b ∧ b < W.heap.size ∧ ∀ j v, xs[i].1[j]? = some v → W.cell? ⟨b, i * 16 + j, none⟩ = some v
theorem owns_rowC {w : World} {base : Nat} {ao : Option Addr} {cap : Nat} {xs : List CI} (h : w.ownsRow base 65 16 (.slice ao xs.length cap) xs.length (flatC xs)) (hl : ∀ x ∈ xs, x.1.length = 16) : RowC w base ao xs := by
  intro k hk
  rcases h.2 with ⟨hv, h0⟩ | ⟨g', cap', cur, hv, hg, hh, hn, hm, hsz, htk⟩
  · omega
  · simp only [Value.slice.injEq, true_and] at hv
    obtain ⟨rfl, rfl⟩ := hv
    have hlt : g' < w.heap.size := by
      rcases Nat.lt_or_ge g' w.heap.size with h | h
      · exact h
      · rw [Array.getElem?_eq_none h] at hh; cases hh
    refine ⟨g', rfl, hg, hlt, fun j v hj => ?_⟩
    have hf := flat16 xs hl k hk j v hj
    have hj16 : j < 16 := by
      have := hl xs[k] (List.getElem_mem hk)
      rcases Nat.lt_or_ge j 16 with h | h
      · exact h
      · rw [List.getElem?_eq_none (by omega)] at hj; cases hj
    have : (cur.toList.take (xs.length * 16))[k * 16 + j]? = (flatC xs)[k * 16 + j]? := by rw [htk]
    rw [List.getElem?_take, if_pos (by omega), hf] at this
    have e : w.cell? ⟨g', k * 16 + j, none⟩ = cur[k * 16 + j]? := by simp [World.cell?, hh]
    rw [e]; simpa using this
theorem RowC.keep {W W' : World} {B : Nat} {ao : Option Addr} {xs : List CI} (h : RowC W B ao xs) (hb : Below W.heap.size W W') : RowC W' B ao xs := by
  intro i hi
  obtain ⟨b, h1, h2, h3, h4⟩ := h i hi
  exact ⟨b, h1, h2, Nat.lt_of_lt_of_le h3 hb.size, fun j v hj => by rw [hb.cell (p := ⟨b, i * 16 + j, none⟩) h3]; exact h4 j v hj⟩
theorem itms_roundB {B : Nat} {w3 : World} {xs : List CI} {x : CI} {v' : Value}
    (hown : w3.ownsRow B 65 16 v' (xs.length + 1) (flatC xs ++ x.1)) :
    ∃ (ao : Option Addr) (cv : Nat), v' = .slice ao (xs ++ [x]).length cv ∧ Hid (w3.ownsRow B 65 16 (.slice ao (xs ++ [x]).length cv) (xs ++ [x]).length (flatC (xs ++ [x]))) := by
  have hq : (xs ++ [x]).length = xs.length + 1 := by simp
  obtain ⟨g, cap, hv⟩ : ∃ g cap, v' = .slice (some ⟨g, 0, none⟩) (xs.length + 1) cap := by
    rcases hown.2 with ⟨_, h⟩ | ⟨g, cap, _, h, _⟩
    · omega
    · exact ⟨g, cap, h⟩
  subst hv
  refine ⟨some ⟨g, 0, none⟩, cap, by rw [hq], ?_⟩
  unfold Hid flatC; rw [hq, List.flatMap_append]
  have : [x].flatMap (·.1) = x.1 := by simp
  rw [this]; exact hown
/-- A row of items: their cells, and what these are. -/
structure RowI10 (W : World) (B : Nat) (ao : Option Addr) (xs : List CI) : Prop where
  len : ∀ x ∈ xs, x.1.length = 16
  row : RowC W B ao xs
  itm : ∀ x ∈ xs, ItmAt W B x.1 x.2
theorem RowI10.keep {W W' : World} {B : Nat} {ao : Option Addr} {xs : List CI} (h : RowI10 W B ao xs) (hb : Below W.heap.size W W') : RowI10 W' B ao xs :=
  ⟨h.len, h.row.keep hb, fun x hx => (h.itm x hx).but (ButP.of hb)⟩
/-- Blocks above a bound that were there are as they were. -/
def Moved (B : Nat) (V W : World) : Prop := ∀ k, B < k → k < V.heap.size → W.heap[k]? = V.heap[k]?
theorem Moved.cell {B : Nat} {V W : World} (h : Moved B V W) {n j : Nat} {v : Value} (hn : B < n) (hc : V.cell? ⟨n, j, none⟩ = some v) : W.cell? ⟨n, j, none⟩ = some v := by
  rw [World.cell?_of_block (w := V) (h n hn (World.block_lt_of_cell? V _ hc))]; exact hc
theorem NodeAt.moved {B : Nat} {V W : World} (hb : Moved B V W) : ∀ {f : Fm} {p : Option Addr}, NodeAt V B p f → NodeAt W B p f
  | .un _ _ _, _, ⟨n, h1, h2, h3, h4, h5, h6⟩ => ⟨n, h1, h2, hb.cell h2 h3, hb.cell h2 h4, hb.cell h2 h5, hb.cell h2 h6⟩
  | .no _, _, ⟨n, m, q, h1, h2, h3, h4, h5, h6, h7, h8⟩ => ⟨n, m, q, h1, h2, h3, hb.cell h2 h4, hb.cell h2 h5, hb.cell h2 h6, hb.cell h3 h7, NodeAt.moved hb h8⟩
  | .both _ _ _, _, ⟨n, m, q, u, h1, h2, h3, h4, h5, h6, h7, h8, h9, h10⟩ => ⟨n, m, q, u, h1, h2, h3, hb.cell h2 h4, hb.cell h2 h5, hb.cell h2 h6, hb.cell h3 h7, hb.cell h3 h8, NodeAt.moved hb h9, NodeAt.moved hb h10⟩
theorem AtrsAt.moved {B : Nat} {V W : World} {ao : Option Addr} {l : List Atr} (hb : Moved B V W) (h : AtrsAt V B ao l) : AtrsAt W B ao l := by
  intro i hi
  obtain ⟨b, h1, h2, h3, h4, h5, h6, h7⟩ := h i hi
  exact ⟨b, h1, h2, hb.cell h2 h3, hb.cell h2 h4, hb.cell h2 h5, hb.cell h2 h6, hb.cell h2 h7⟩
theorem ItmAt.moved {B : Nat} {V W : World} {cs : List Value} {y : Itm} (hb : Moved B V W) (h : ItmAt V B cs y) : ItmAt W B cs y := by
  obtain ⟨ao, c, pf, h1, h2, h3⟩ := h
  refine ⟨ao, c, pf, h1, h2.moved hb, ?_⟩
  cases hf : y.f with
  | none => rw [hf] at h3; exact h3
  | some f => rw [hf] at h3; exact NodeAt.moved (f := f) hb h3
theorem ItmAt.mono {B B' : Nat} {W : World} {cs : List Value} {y : Itm} (hB : B' ≤ B) (h : ItmAt W B cs y) : ItmAt W B' cs y := by
  obtain ⟨ao, c, pf, h1, h2, h3⟩ := h
  refine ⟨ao, c, pf, h1, h2.mono hB, ?_⟩
  cases hf : y.f with
  | none => rw [hf] at h3; exact h3
  | some f => rw [hf] at h3; exact NodeAt.mono (f := f) hB h3
/-- An item, away from a block. -/
def ItmS (W : World) (g : Nat) (ob : Option Nat) (x : CI) : Prop :=
  ∃ (B : Nat) (V : World), g ≤ B ∧ ItmAt V B x.1 x.2 ∧ V.heap.size ≤ W.heap.size ∧ Moved B V W ∧ (∀ j, ob = some j → j ≤ B ∨ V.heap.size ≤ j)
theorem ItmS.at {W : World} {g : Nat} {ob : Option Nat} {x : CI} (h : ItmS W g ob x) : ItmAt W g x.1 x.2 := by
  obtain ⟨B, V, h1, h2, _, h4, _⟩ := h
  exact (h2.moved h4).mono h1
theorem ItmS.but {W W' : World} {g : Nat} {ob : Option Nat} {x : CI} (h : ItmS W g ob x) (hb : ButP g W W') : ItmS W' g ob x := by
  obtain ⟨B, V, h1, h2, h3, h4, h5⟩ := h
  refine ⟨B, V, h1, h2, Nat.le_trans h3 hb.size, fun k hk hl => ?_, h5⟩
  rw [hb.block k (Nat.lt_of_lt_of_le hl h3) (by omega)]; exact h4 k hk hl
theorem ItmS.grown {W W' : World} {g : Nat} {ob ob' : Option Nat} {x : CI} (h : ItmS W g ob x) (hg : W.grownBy W' ob) (ho : ob' = ob ∨ ob' = some W.heap.size) : ItmS W' g ob' x := by
  obtain ⟨B, V, h1, h2, h3, h4, h5⟩ := h
  refine ⟨B, V, h1, h2, Nat.le_trans h3 hg.size, fun k hk hl => ?_, fun j hj => ?_⟩
  · rw [hg.block k (Nat.lt_of_lt_of_le hl h3) (fun e => by rcases h5 k e.symm with h | h <;> omega)]; exact h4 k hk hl
  · rcases ho with rfl | rfl
    · exact h5 j hj
    · cases hj; exact .inr h3
/-- What Read hands back. -/
def ReadPost (s : List UInt8) (w : World) (e : Ending) (w' : World) : Prop :=
  ∃ (ao : Option Addr) (cap : Nat) (xs : List CI) (c p B : Nat), e = .returned (.tuple #[.slice ao xs.length cap, .agg #[.int .i64 c, .int .i64 p]]) ∧ w.heap.size ≤ B ∧ RowI10 w' B ao xs ∧ xs.length ≤ 2000 ∧
    ((readS10 s = .ok (xs.map (·.2)) ∧ c = 0 ∧ p = 0) ∨ (readS10 s = .bad c p ∧ xs = [])) ∧ Below w.heap.size w w'
theorem RowI10.nil (W : World) (B : Nat) : RowI10 W B none [] := ⟨fun x hx => (by cases hx), fun i h => (by simp at h), fun x hx => (by cases hx)⟩
theorem read_bad {s : List UInt8} {w W : World} {c p : Nat} (h : readS10 s = .bad c p) (hb : Below w.heap.size w W) : ReadPost s w (.returned (.tuple #[.slice none 0 0, .agg #[.int .i64 (c : Int), .int .i64 (p : Int)]])) W :=
  ⟨none, 0, [], c, p, w.heap.size, rfl, Nat.le_refl _, RowI10.nil _ _, Nat.zero_le _, .inr ⟨h, rfl⟩, hb⟩
end Go.Proofs.Ytcmmjmgbanafgaa

/- The walk over moatref10.Read, by what its parser's item gives. -/
namespace Go.Proofs.Ytcmmjmgbanafgaa
open Go.RowKit Go.Proofs.Url Go.Proofs.Url.Syn

/-- What item must give. -/
def ItemOk : Prop := ∀ (g : Nat) (ao : Option Addr) (cap : Nat) (ts r : List Tk) (w : World), PS w g ao cap ts r false → r ≠ [] → ts.length < 4294967281 →
  Calls Try.prog 34 #[.pointer (some ⟨g, 0, none⟩)] w fun e w' => OutI (itemR r) g ao cap ts w e w'
theorem resRead3 {W : World} {r : Nat} {a b : Int} {v : Value} {tmps : Array Value} (h : WB W r a b) (h2 : tmps[2]?.getD undef = v) (h3 : tmps[3]?.getD undef = .pointer (some ⟨r, 0, none⟩)) :
    (results Try.f18 tmps).run Try.prog W = .ok (.tuple #[v, .agg #[.int .i64 a, .int .i64 b]]) W := by
  obtain ⟨c0, c1, _⟩ := h
  simp [results, Try.results18, go_sem, h2, h3, c0, c1]
theorem WB.butP {W W' : World} {g m : Nat} {a b : Int} (h : WB W m a b) (hb : ButP g W W') (hm : m ≠ g) : WB W' m a b := by
  have hh : W'.heap[m]? = W.heap[m]? := hb.block m h.lt hm
  exact ⟨by rw [World.cell?_of_block (w := W) hh]; exact h.c0, by rw [World.cell?_of_block (w := W) hh]; exact h.c1, fun j hj => by unfold World.frozen?; simp only [hh]; exact h.fr j hj⟩
/-- What Read's loop keeps in memory. -/
structure RdM (w W : World) (g : Nat) (b : Bool) (xs : List CI) (v : Value) : Prop where
  own : W.ownsRow (g + 1) 65 16 v xs.length (flatC xs)
  len : ∀ x ∈ xs, x.1.length = 16
  up : w.heap.size < g
  gl : g < W.heap.size
  be : Below w.heap.size w W
  res : WB W w.heap.size 0 0
  its : b = false → ∀ x ∈ xs, ItmS W g v.ownBlock x
theorem RdM.but {w W W' : World} {g : Nat} {b : Bool} {xs : List CI} {v : Value} (h : RdM w W g b xs v) (hb : ButP g W W') : RdM w W' g b xs v := by
  refine ⟨owns_but h.own hb (Nat.lt_succ_self _), h.len, h.up, Nat.lt_of_lt_of_le h.gl hb.size, ?_, h.res.butP hb (by have := h.up; omega), fun hf x hx => (h.its hf x hx).but hb⟩
  exact h.be.trans ⟨hb.os, hb.tape, hb.output, hb.size, fun k hk => hb.block k (Nat.lt_of_lt_of_le hk h.be.size) (by have := h.up; omega)⟩
theorem RdM.more {w W W' : World} {g : Nat} {b : Bool} {xs : List CI} {v v' : Value} (h : RdM w W g false xs v) (x : CI) (hx : x.1.length = 16) (hi : b = false → ItmS W g v.ownBlock x)
    (hown : W'.ownsRow (g + 1) 65 16 v' (xs ++ [x]).length (flatC (xs ++ [x]))) (hg : W.grownBy W' v.ownBlock) (ho : v'.ownBlock = v.ownBlock ∨ v'.ownBlock = some W.heap.size) : RdM w W' g b (xs ++ [x]) v' := by
  have hb : Below (g + 1) W W' := Below.grown (Below.refl _ _) hg (by have := h.gl; omega) (fun j hj => owns_base h.own j hj)
  refine ⟨hown, fun y hy => ?_, h.up, Nat.lt_of_lt_of_le h.gl hb.size, h.be.trans (hb.mono (by have := h.up; omega)), h.res.keepB hb (by have := h.up; omega), fun hf y hy => ?_⟩
  · rw [List.mem_append, List.mem_singleton] at hy
    rcases hy with hy | rfl
    · exact h.len y hy
    · exact hx
  · rw [List.mem_append, List.mem_singleton] at hy
    rcases hy with hy | rfl
    · exact (h.its rfl y hy).grown hg ho
    · exact (hi hf).grown hg ho
theorem ps_lt {W : World} {g : Nat} {ao : Option Addr} {cap : Nat} {ts : List Tk} {t : Tk} {q : List Tk} (h : PS W g ao cap ts (t :: q) false) : ∃ i : Nat, i < ts.length ∧ W.cell? ⟨g, 0, none⟩ = some (.slice ao ts.length cap) ∧ W.cell? ⟨g, 1, none⟩ = some (.int .i64 i) := by
  obtain ⟨i, h1, h2, hp⟩ := h.ex
  refine ⟨i, ?_, hp.c0, hp.c1⟩
  rcases Nat.lt_or_ge i ts.length with h | h
  · exact h
  · rw [List.drop_eq_nil_of_le h] at h2; cases h2
theorem ps_end {W : World} {g : Nat} {ao : Option Addr} {cap : Nat} {ts : List Tk} (h : PS W g ao cap ts [] false) : W.cell? ⟨g, 0, none⟩ = some (.slice ao ts.length cap) ∧ W.cell? ⟨g, 1, none⟩ = some (.int .i64 ts.length) := by
  obtain ⟨i, h1, h2, hp⟩ := h.ex
  have : i = ts.length := by
    have := congrArg List.length h2
    rw [List.length_drop, List.length_nil] at this
    omega
  subst this
  exact ⟨hp.c0, hp.c1⟩
/-- How far Read's loop is. -/
def RdSt (ts : List Tk) (st : St) (xs : List CI) : Prop :=
  (st.2 = false ∧ ∃ kk, st.1.length ≤ kk ∧ xs.length + st.1.length ≤ ts.length ∧ itemsF (ts.length + 1) ts = (itemsF (kk + 1) st.1).map (fun l => xs.map (·.2) ++ l)) ∨ (st.2 = true ∧ itemsF (ts.length + 1) ts = .bad st.1)
theorem RdSt.step {ts : List Tk} {t : Tk} {q : List Tk} {xs : List CI} (h : RdSt ts (t :: q, false) xs) :
    xs.length + 1 ≤ ts.length ∧ (∀ y r1 c, itemR (t :: q) = .ok y r1 → RdSt ts (r1, false) (xs ++ [(c, y)]) ∧ r1.length < (t :: q).length) ∧ (∀ r1 x, itemR (t :: q) = .bad r1 → RdSt ts (r1, true) (xs ++ [x])) := by
  rcases h with ⟨_, kk, h1, h2, h3⟩ | ⟨h, _⟩
  · refine ⟨by simp only [List.length_cons] at h2; omega, fun y r1 c hy => ?_, fun r1 x hy => ?_⟩
    · obtain ⟨e1, e2⟩ := (items_step (t := t) (q := q) kk).1 y r1 hy
      refine ⟨.inl ⟨rfl, kk - 1, by simp only at h1 ⊢; omega, by simp only [List.length_append, List.length_singleton] at *; omega, ?_⟩, e2⟩
      rw [h3, e1, map_map_rd]
      obtain ⟨k', rfl⟩ : ∃ k', kk = k' + 1 := ⟨kk - 1, by simp only [List.length_cons] at h1; omega⟩
      show (itemsF (k' + 1) r1).map _ = (itemsF (k' + 1) r1).map _
      congr 1; funext l; simp
    · refine .inr ⟨rfl, ?_⟩
      rw [h3, (items_step (t := t) (q := q) kk).2 r1 hy]; rfl
  · cases h
theorem itm_short {s : List UInt8} {ts q : List Tk} {ys : List Itm} (h1 : toksS s = .ok ts) (h2 : itemsF (ts.length + 1) ts = .ok ys q) : ∀ y ∈ ys, ∀ f, y.f = some f → (formS f).length < 4294967281 := by
  intro y hy f hf
  have h3 := (items_ln _ _ (toksS_tb h1) _ _ h2).1
  have hm := toksS_many h1
  have h4 : (lineS y).length ≤ (ys.flatMap lineS).length := by
    clear h2 h3 hf
    induction ys with
    | nil => cases hy
    | cons z l ih =>
      rw [List.flatMap_cons, List.length_append]
      rcases List.mem_cons.1 hy with rfl | hy
      · omega
      · have := ih hy; omega
  have h5 := line_len y
  rw [hf] at h5
  simp only at h3 h5
  omega
theorem put2_other {W : World} {m k : Nat} (h : k ≠ m) (x y : Int) : (put2 W m x y).heap[k]? = W.heap[k]? := by
  unfold put2
  rw [Below.heap_setCell _ _ _ _ (by exact h), Below.heap_setCell _ _ _ _ (by exact h)]
theorem RdM.rows {w W : World} {g : Nat} {xs : List CI} {ao : Option Addr} {cv : Nat} (h : RdM w W g false xs (.slice ao xs.length cv)) (x y : Int) : RowI10 (put2 W w.heap.size x y) g ao xs := by
  have hs : W.heap.size ≤ (put2 W w.heap.size x y).heap.size := (put2_below (B := 0) (Below.refl _ _) _ (Nat.zero_le _) x y).size
  refine ⟨h.len, fun i hi => ?_, fun z hz => ?_⟩
  · obtain ⟨b, e, hb, hlt, hc⟩ := owns_rowC h.own h.len i hi
    refine ⟨b, e, by omega, by omega, fun j v hj => ?_⟩
    rw [World.cell?_of_block (w := W) (put2_other (k := b) (by have := h.up; omega) x y)]
    exact hc j v hj
  · exact ((h.its rfl z hz).at).moved fun k hk _ => put2_other (by have := h.up; omega) x y
theorem rdSt_end {ts : List Tk} {xs : List CI} (h : RdSt ts ([], false) xs) : itemsF (ts.length + 1) ts = .ok (xs.map (·.2)) [] ∧ xs.length ≤ ts.length := by
  rcases h with ⟨_, kk, h1, h2, h3⟩ | ⟨h, _⟩
  · refine ⟨?_, by simpa using h2⟩
    rw [h3, items_nil]
    show Rd.ok (xs.map (·.2) ++ []) [] = _
    rw [List.append_nil]
  · cases h
theorem rdSt_bad {ts r : List Tk} {xs : List CI} (h : RdSt ts (r, true) xs) : itemsF (ts.length + 1) ts = .bad r := by
  rcases h with ⟨h, _⟩ | ⟨_, h⟩
  · cases h
  · exact h
def badAt (n : Nat) : List Tk → Nat
  | [] => n
  | t :: _ => t.at'
theorem read_of_bad {s : List UInt8} {ts r : List Tk} (h1 : toksS s = .ok ts) (h2 : itemsF (ts.length + 1) ts = .bad r) : readS10 s = .bad 4 (badAt s.length r) := by
  unfold readS10
  rw [h1]
  cases r with
  | nil => simp only [h2]; rfl
  | cons t q => simp only [h2]; rfl
theorem read_of_ok {s : List UInt8} {ts q : List Tk} {ys : List Itm} (h1 : toksS s = .ok ts) (h2 : itemsF (ts.length + 1) ts = .ok ys q) : readS10 s = if ys.any deepI then .bad 5 0 else .ok ys := by
  unfold readS10
  rw [h1]
  simp only [h2]
set_option maxHeartbeats 8000000 in
set_option maxRecDepth 100000 in
theorem refRead_any (ok : ItemOk) (s : List UInt8) (w : World) (hs : s.length < 4294967281) :
    Calls Try.prog 18 #[.string ⟨s.toArray⟩] w fun e w' => ReadPost s w e w' := by
  have OK := hide ok
  have HS := hide hs
  clear ok hs
  go_enter Try.func18, Try.ntmps18
  go_upto_region 1 with fail
  obtain ⟨W0, hW0⟩ : ∃ x, x = w.alloc (Obj.cells #[.int .i64 0, .int .i64 0] 25) := ⟨_, rfl⟩
  have R0 : Hid (WB W0 w.heap.size 0 0) := by unfold Hid; rw [hW0]; exact WB.new w 0 0 _
  have B0 : Hid (Below w.heap.size w W0) := by unfold Hid; rw [hW0]; exact (Below.refl _ _).alloc (Nat.le_refl _) _
  rw [← hW0]
  clear hW0
  go_wp2_with fail
  refine (refTokens_any s _ HS.out).mono ?_
  rintro e w1 ⟨ao, ca, ts, c, p, rfl, hown, ht, hb1⟩
  have R1 := hide (R0.out.keep hb1)
  have B1 := hide (B0.out.trans (hb1.mono B0.out.size))
  rcases ht with ⟨ht, rfl, rfl⟩ | ⟨ht, rfl⟩
  rotate_left
  · have hc := toksS_badc ht
    have e1 : ((c : Int) == 0) = false := beq_eq_false_iff_ne.2 (by omega)
    have HRb : Hid (readS10 s = .bad c p) := by unfold Hid readS10; rw [ht]
    clear hown ht R0 B0 hb1 hc
    go_upto_region 2 with fail
    obtain ⟨W3, hW3⟩ : ∃ x, x = w1.alloc (Obj.cells #[.int .i64 c, .int .i64 p] 25) := ⟨_, rfl⟩
    have b3 : Below w1.heap.size w1 W3 := by rw [hW3]; exact (Below.refl _ _).alloc (Nat.le_refl _) _
    have S3 : Hid (WB W3 w1.heap.size c p) := by unfold Hid; rw [hW3]; exact WB.new w1 _ _ 25
    have R3 := hide (R1.out.keep b3)
    have B3 := hide (B1.out.trans (b3.mono B1.out.size))
    rw [← hW3]
    clear hW3 b3 R1 B1
    have s0 := S3.out.c0
    have s1 := S3.out.c1
    have r0 := R3.out.c0
    have r1 := R3.out.c1
    have p0 := R3.out.fr 0 (by decide)
    have p1 := R3.out.fr 1 (by decide)
    have hml := R3.out.lt
    have hsl := S3.out.lt
    go_upto_region 3 with fail
    have HPt : Hid (WB (put2 W3 w.heap.size c p).drew w.heap.size c p) := (R3.out.put _ _).keep ((Below.refl _ _).drew)
    have HBt : Hid (Below w.heap.size w (put2 W3 w.heap.size c p).drew) := (put2_below B3.out _ (Nat.le_refl _) _ _).drew
    unfold put2 at HPt HBt
    go_region
    go_wp2_with fail
    refine bodyPost_ret (v := .tuple #[.slice none 0 0, .agg #[.int .i64 c, .int .i64 p]]) ?_ rfl ?_
    · exact resRead3 HPt.out rfl rfl
    · exact read_bad HRb.out HBt.out
  have T1 := hide (owns_tks hown)
  have HTs := hide ht
  have hm := toksS_many ht
  clear hown hb1 ht R0 B0
  go_upto_region 6 with fail
  obtain ⟨W1, hW1⟩ : ∃ x, x = w1.alloc (Obj.cells #[.int .i64 0, .int .i64 0] 25) := ⟨_, rfl⟩
  have b1 : Below w1.heap.size w1 W1 := by rw [hW1]; exact (Below.refl _ _).alloc (Nat.le_refl _) _
  have s1 : W1.heap.size = w1.heap.size + 1 := by rw [hW1]; simp
  obtain ⟨W2, hW2⟩ : ∃ x, x = W1.alloc (Obj.cells #[.slice ao ts.length ca, .int .i64 0, .int .i64 0, .int .i64 0] 82) := ⟨_, rfl⟩
  have b2 : Below W1.heap.size W1 W2 := by rw [hW2]; exact (Below.refl _ _).alloc (Nat.le_refl _) _
  have e1 : w1.heap.size + 1 = W1.heap.size := s1.symm
  rw [← hW1]
  simp only [e1]
  rw [← hW2]
  have hsz1 := B1.out.size
  have hr1 := R1.out.lt
  have HM : Hid (RdM w W2 W1.heap.size false [] (.slice none 0 0)) := ⟨World.ownsRow_nil _ _ _ _, fun x hx => (by cases hx), by omega, by rw [hW2]; simp, (B1.out.trans (b1.mono hsz1)).trans (b2.mono (by omega)), (R1.out.keep b1).keep b2, fun _ x hx => (by cases hx)⟩
  have HP : Hid (PS W2 W1.heap.size ao ca ts ts false) := by
    refine ⟨⟨0, Nat.zero_le _, rfl, ?_⟩, ?_⟩
    · rw [hW2]
      exact ⟨by rw [World.cell?_alloc_new]; rfl, by rw [World.cell?_alloc_new]; rfl, by rw [World.cell?_alloc_new]; rfl, by rw [World.cell?_alloc_new]; rfl, fun j hj => by rw [World.frozen?_alloc_new]⟩
    · intro k hk
      obtain ⟨q, h1, h2, h3, h4, h5⟩ := T1.out k hk
      have hq : q < W1.heap.size := by omega
      have kk : ∀ j v, w1.cell? ⟨q, j, none⟩ = some v → W2.cell? ⟨q, j, none⟩ = some v := fun j v hv => by rw [b2.cell (p := ⟨q, j, none⟩) hq, b1.cell (p := ⟨q, j, none⟩) h2]; exact hv
      exact ⟨q, h1, hq, kk _ _ h3, kk _ _ h4, kk _ _ h5⟩
  have HT0 : Hid (RdSt ts (ts, false) []) := .inl ⟨rfl, ts.length, Nat.le_refl _, by simp, by cases itemsF (ts.length + 1) ts <;> rfl⟩
  obtain ⟨i0, hi0, hz0, hz1, hz2⟩ := info_parts infoI
  have HI := hide hi0
  have HZ0 := hide hz0
  have HZ1 := hide hz1
  have HZ2 := hide hz2
  clear hW1 b1 s1 hW2 b2 e1 hsz1 hr1 R1 B1 T1 hi0 hz0 hz1 hz2
  generalize W1.heap.size = g at *
  go_loopw [7] (fun ov W => ∃ (st : St) (xs : List CI) (ao2 : Option Addr) (cv : Nat), ov = .slice ao2 xs.length cv ∧ Hid (PS W g ao ca ts st.1 st.2) ∧ Hid (RdM w W g st.2 xs (.slice ao2 xs.length cv)) ∧ Hid (RdSt ts st xs)) (fun _ W => leftOf W g ts.length)
  case atStart => exact ⟨(ts, false), [], none, 0, rfl, HP, HM, HT0⟩
  case round =>
    obtain ⟨⟨r, b⟩, xs, ao2, cv, rfl, HP, HM, HT⟩ := hrel
    clear HT0
    have HK := hide (fun n => pOk_any g ao ca ts r b (wr.drewN n) (HP.out.keep (below_drewP wr n)))
    have hgl := HP.out.lt
    cases b with
    | false =>
      cases r with
      | cons t q =>
        obtain ⟨i, hi, c0, c1⟩ := ps_lt HP.out
        have hiI : (i : Int) < (ts.length : Int) := by omega
        have HLf : Hid (leftOf wr g ts.length = (t :: q).length + 1) := HP.out.left
        obtain ⟨hx1, hok, hbad⟩ := HT.out.step
        have HOk := hide hok
        have HBad := hide hbad
        have hxl : xs.length < 2000 := by omega
        have HK1 : Hid (∀ n, Calls Try.prog 33 #[.pointer (some ⟨g, 0, none⟩)] (wr.drewN n) fun e w' => e = .returned (.bool true) ∧ w' = wr.drewN n) := fun n => HK.out n
        go_upto_region 6 with fail
        go_big_quiet ((go_at_call 33; exact Calls.quiet_of_same (HK1.out _)))
        have HP3 := hide (HP.out.keep (below_drewP wr nq))
        have HM3 := hide (HM.out.but (ButP.of (below_drewP wr nq)))
        generalize wr.drewN nq = w3 at *
        clear HP HM HK HK1 c0 c1 hgl HT hok hbad hx1
        go_wp2_with fail
        refine (OK.out g ao ca ts (t :: q) w3 HP3.out (by simp) (by omega)).mono ?_
        rintro e w4 ⟨k, a, nm, wh, cp, tx, sa, sl, sc, pf, rfl, B4, hO⟩
        have HM4 := hide (HM3.out.but B4)
        have HS : Hid (∃ (st' : St) (y : Itm), (st'.2 = false → ItmS w4 g (Value.slice ao2 xs.length cv).ownBlock (itmCells k a nm wh cp tx (.slice sa sl sc) pf, y)) ∧ PS w4 g ao ca ts st'.1 st'.2 ∧ RdSt ts st' (xs ++ [(itmCells k a nm wh cp tx (.slice sa sl sc) pf, y)]) ∧ (st'.2 = false → st'.1.length < (t :: q).length)) := by
          unfold Hid
          have hob : ∀ j, (Value.slice ao2 xs.length cv).ownBlock = some j → j ≤ w3.heap.size - 1 := fun j hj => by have := owns_ltB HM3.out.own j hj; omega
          cases hx : itemR (t :: q) with
          | ok y r1 =>
            rw [hx] at hO
            obtain ⟨e1, e2⟩ := HOk.out y r1 (itmCells k a nm wh cp tx (.slice sa sl sc) pf) hx
            exact ⟨(r1, false), y, fun _ => ⟨w3.heap.size - 1, w4, by have := HM3.out.gl; omega, hO.1, Nat.le_refl _, fun _ _ _ => rfl, fun j hj => .inl (hob j hj)⟩, hO.2, e1, fun _ => e2⟩
          | bad r1 =>
            rw [hx] at hO
            exact ⟨(r1, true), ⟨[], 0, zeroT, zeroT, zeroT, zeroT, [], none⟩, fun h => (by cases h), hO, HBad.out r1 _ hx, fun h => (by cases h)⟩
        clear hO HM3 HP3 HOk HBad B4
        obtain ⟨st', y, HS1, HS2, HS3, HS4⟩ := HS.out
        have HS1 := hide HS1
        have HS2 := hide HS2
        have HS3 := hide HS3
        have HS4 := hide HS4
        clear HS
        have C16 : Hid ((itmCells k a nm wh cp tx (.slice sa sl sc) pf).length = 16) := rfl
        have ON : Hid (∀ u ∈ itmCells k a nm wh cp tx (.slice sa sl sc) pf, u.oneCell' = true) := by
          intro u hu
          simp only [itmCells, List.mem_cons, List.not_mem_nil, or_false] at hu
          rcases hu with rfl | rfl | rfl | rfl | rfl | rfl | rfl | rfl | rfl | rfl | rfl | rfl | rfl | rfl | rfl | rfl <;> rfl
        have CR : Hid (∀ W : World, ∀ j u, (itmCells k a nm wh cp tx (.slice sa sl sc) pf)[j]? = some u → (W.alloc (.cells (itmCells k a nm wh cp tx (.slice sa sl sc) pf).toArray 65)).cell? ((⟨W.heap.size, 0, none⟩ : Addr).add j) = some u) := fun W => cell_row_at W _ _
        obtain ⟨cs, hcs⟩ : ∃ x, x = itmCells k a nm wh cp tx (.slice sa sl sc) pf := ⟨_, rfl⟩
        rw [← hcs] at HS1 HS3 C16 ON CR
        have HCS := hide hcs
        clear hcs
        unfold itmCells
        have A1 : cs.length = 1 * 16 := by rw [C16.out]
        have A2 := CR.out w4
        have A2 : ∀ j u, cs[j]? = some u → (w4.alloc (Obj.cells #[.string ⟨k.toArray⟩, .int .i64 a, .int .i64 nm.kind, .int .i64 nm.at', .string ⟨nm.text.toArray⟩, .int .i64 wh.kind, .int .i64 wh.at', .string ⟨wh.text.toArray⟩, .int .i64 cp.kind, .int .i64 cp.at', .string ⟨cp.text.toArray⟩, .int .i64 tx.kind, .int .i64 tx.at', .string ⟨tx.text.toArray⟩, .slice sa sl sc, .pointer pf] 65)).cell? ((⟨w4.heap.size, 0, none⟩ : Addr).add j) = some u := by
          have h := A2
          rw [HCS.out] at h ⊢
          exact h
        have A3 : xs.length + 1 ≤ maxLen := by unfold maxLen; omega
        have A4 : (xs.length + 1) * 184 ≤ 140737488355328 := by omega
        have A5 : ∀ o, g + 1 ≤ (w4.alloc o).heap.size := fun o => by have := HM4.out.gl; simp; omega
        go_wp2_with (at_builtin; go_loud (refine wpList_append_own_at _ rfl _ _ 58 rfl (g + 1) 65 i0 _ 16 184 Try.underlying58 HI.out HZ0.out HZ1.out HZ2.out rfl (by decide) (.slice ao2 xs.length cv) xs.length (flatC xs) rfl (HM4.out.own.alloc _) ⟨w4.heap.size, 0, none⟩ 1 1 cs rfl A1 A2 ON.out A3 A4 (A5 _) ?_); intro v' w6 hown' hgrow6 hnil6 hat6)
        clear A1 A2 A4 A5 hnil6
        have HM5 : Hid (RdM w (w4.alloc (Obj.cells #[.string ⟨k.toArray⟩, .int .i64 a, .int .i64 nm.kind, .int .i64 nm.at', .string ⟨nm.text.toArray⟩, .int .i64 wh.kind, .int .i64 wh.at', .string ⟨wh.text.toArray⟩, .int .i64 cp.kind, .int .i64 cp.at', .string ⟨cp.text.toArray⟩, .int .i64 tx.kind, .int .i64 tx.at', .string ⟨tx.text.toArray⟩, .slice sa sl sc, .pointer pf] 65)) g false xs (.slice ao2 xs.length cv)) := HM4.out.but (ButP.alloc _ _ _)
        have hb6 : Below (g + 1) _ w6 := Below.grown (Below.refl _ _) hgrow6 (by have := HM5.out.gl; omega) (fun j hj => owns_base HM5.out.own j hj)
        obtain ⟨ao6, cv6, rfl, hown6⟩ := itms_roundB (x := (cs, y)) hown'
        have HM6 := HM5.out.more (b := st'.2) (cs, y) C16.out (fun h => (HS1.out h).but (ButP.alloc _ _ _)) hown6.out hgrow6 hat6
        have HP6 := (HS2.out.alloc _).above hb6
        refine ⟨⟨st', xs ++ [(cs, y)], ao6, cv6, rfl, HP6, HM6, HS3⟩, ?_⟩
        rw [HLf.out]
        obtain ⟨r', b'⟩ := st'
        cases b' with
        | true => have h3 : leftOf w6 g ts.length = 0 := HP6.left0; omega
        | false => have h3 : leftOf w6 g ts.length = r'.length + 1 := HP6.left; have h4 : r'.length < (t :: q).length := HS4.out rfl; omega
      | nil =>
        obtain ⟨c0, c1⟩ := ps_end HP.out
        have hiI : ¬ (ts.length : Int) < (ts.length : Int) := by omega
        have HK1 : Hid (∀ n, Calls Try.prog 33 #[.pointer (some ⟨g, 0, none⟩)] (wr.drewN n) fun e w' => e = .returned (.bool true) ∧ w' = wr.drewN n) := fun n => HK.out n
        go_upto_region 6 with fail
        go_big_quiet ((go_at_call 33; exact Calls.quiet_of_same (HK1.out _)))
        have HP3 := hide (HP.out.keep (below_drewP wr nq))
        have HM3 := hide (HM.out.but (ButP.of (below_drewP wr nq)))
        generalize wr.drewN nq = w3 at *
        have HK2 := hide (pOk_any g ao ca ts [] false w3 HP3.out)
        clear HP HM HK HK1 c0 c1 hgl
        go_wp2_with fail
        refine HK2.out.mono ?_
        rintro e w' ⟨rfl, hw'⟩
        rw [hw']
        simp only [Bool.not_false]
        go_wp2_with fail
        obtain ⟨hi1, hxl⟩ := rdSt_end HT.out
        have HRd := hide (read_of_ok HTs.out hi1)
        have HSh := hide (itm_short HTs.out hi1)
        have hxm : xs.length ≤ 2000 := by omega
        clear HK2 hiI hi1 hxl HT HP3
        go_loop [8] (fun iv => ∃ j : Nat, j ≤ xs.length ∧ iv = .int .i64 j ∧ Hid (((xs.map (·.2)).take j).any deepI = false)) (fun iv => xs.length - (intOf iv).toNat)
        case atStart => exact ⟨0, Nat.zero_le _, rfl, rfl⟩
        case round =>
          obtain ⟨j, hj, rfl, hall⟩ := hrel
          by_cases hlt : j < xs.length
          · have hlI : (j : Int) < (xs.length : Int) := by omega
            obtain ⟨b, rfl, hgb, hbl, hcell⟩ := owns_rowC HM3.out.own HM3.out.len j hlt
            obtain ⟨sa, sc, pf, hcs, _, hf⟩ := (HM3.out.its rfl xs[j] (List.getElem_mem hlt)).at
            have x15 : w3.cell? ⟨b, j * 16 + 15, none⟩ = some (.pointer pf) := hcell 15 _ (by rw [hcs]; rfl)
            have HShj := HSh.out xs[j].2 (List.mem_map_of_mem (List.getElem_mem hlt))
            have hnext : ((xs.map (·.2)).take (j + 1)).any deepI = deepI xs[j].2 := by
              rw [List.take_succ_eq_append_getElem (by rw [List.length_map]; exact hlt), List.any_append, hall.out]
              simp
            have hin : deepI xs[j].2 = true → (xs.map (·.2)).any deepI = true := fun h => List.any_eq_true.2 ⟨xs[j].2, List.mem_map_of_mem (List.getElem_mem hlt), h⟩
            generalize xs[j].2 = y at *
            cases hyf : y.f with
            | none =>
              rw [hyf] at hf
              have hf : pf = none := hf
              subst hf
              have hd : deepI y = false := by unfold deepI; rw [hyf]
              have HN : Hid (((xs.map (·.2)).take (j + 1)).any deepI = false) := by unfold Hid; rw [hnext, hd]
              clear hnext hin hcs hcell HShj hall hd hyf
              go_wp2_with fail
              exact ⟨⟨j + 1, by omega, by go_num, HN⟩, by simp [intOf]; omega⟩
            | some f =>
              rw [hyf] at hf
              have hf : NodeAt w3 g pf f := hf
              have HFm := hide (form_any g w3 f pf hf (HShj f hyf))
              have HDp := hide (deep_any (formS f) w3 (HShj f hyf))
              unfold FormOk at HFm
              obtain ⟨n, rfl⟩ : ∃ n, pf = some ⟨n, 0, none⟩ := by
                cases f with
                | un => obtain ⟨n, h, _⟩ := hf; exact ⟨n, h⟩
                | no => obtain ⟨n, _, _, h, _⟩ := hf; exact ⟨n, h⟩
                | both => obtain ⟨n, _, _, _, h, _⟩ := hf; exact ⟨n, h⟩
              have hd : deepI y = decide (16 < deepS (formS f)) := by unfold deepI; rw [hyf]
              by_cases h16 : 16 < deepS (formS f)
              · have h16I : (16 < deepS (formS f)) = True := eq_true h16
                have HRb : Hid (readS10 s = .bad 5 0) := by unfold Hid; rw [HRd.out, if_pos (hin (by rw [hd]; exact decide_eq_true h16))]
                have r0 := HM3.out.res.c0
                have r1 := HM3.out.res.c1
                have q0 := HM3.out.res.fr 0 (by decide)
                have q1 := HM3.out.res.fr 1 (by decide)
                have hml := HM3.out.res.lt
                have HPt : Hid (WB (put2 w3 w.heap.size 5 0) w.heap.size 5 0) := HM3.out.res.put _ _
                have HBt : Hid (Below w.heap.size w (put2 w3 w.heap.size 5 0)) := put2_below HM3.out.be _ (Nat.le_refl _) _ _
                unfold put2 at HPt HBt
                generalize formS f = F at *
                clear hnext hin hcs hcell HShj hall hd hyf hf h16 HM3 HRd
                go_wp2_with fail
                refine HFm.out.mono ?_
                rintro e w' ⟨rfl, hw'⟩
                rw [hw']
                go_wp2_with fail
                refine HDp.out.mono ?_
                rintro e w' ⟨rfl, hw'⟩
                rw [hw']
                go_wp2_with fail
                refine bodyPost_ret (v := .tuple #[.slice none 0 0, .agg #[.int .i64 5, .int .i64 0]]) ?_ rfl ?_
                · exact resRead3 HPt.out rfl rfl
                · exact read_bad HRb.out HBt.out
              · have h16I : (16 < deepS (formS f)) = False := eq_false h16
                have HN : Hid (((xs.map (·.2)).take (j + 1)).any deepI = false) := by unfold Hid; rw [hnext, hd]; exact decide_eq_false h16
                generalize formS f = F at *
                clear hnext hin hcs hcell HShj hall hd hyf hf h16
                go_wp2_with fail
                refine HFm.out.mono ?_
                rintro e w' ⟨rfl, hw'⟩
                rw [hw']
                go_wp2_with fail
                refine HDp.out.mono ?_
                rintro e w' ⟨rfl, hw'⟩
                rw [hw']
                go_wp2_with fail
                exact ⟨⟨j + 1, by omega, by go_num, HN⟩, by simp [intOf]; omega⟩
          · have hlI : ¬ (j : Int) < (xs.length : Int) := by omega
            have hjx : j = xs.length := by omega
            have HRok : Hid (readS10 s = .ok (xs.map (·.2))) := by
              unfold Hid
              have h := hall.out
              rw [hjx, List.take_of_length_le (by simp)] at h
              rw [HRd.out, h]; rfl
            have r0 := HM3.out.res.c0
            have r1 := HM3.out.res.c1
            have q0 := HM3.out.res.fr 0 (by decide)
            have q1 := HM3.out.res.fr 1 (by decide)
            have hml := HM3.out.res.lt
            have HPt : Hid (WB (put2 w3 w.heap.size 0 0) w.heap.size 0 0) := HM3.out.res.put _ _
            have HBt : Hid (Below w.heap.size w (put2 w3 w.heap.size 0 0)) := put2_below HM3.out.be _ (Nat.le_refl _) _ _
            have HRw : Hid (RowI10 (put2 w3 w.heap.size 0 0) g ao2 xs) := HM3.out.rows 0 0
            have hup := HM3.out.up
            unfold put2 at HPt HBt HRw
            clear hall HM3 HRd hjx
            go_wp2_with fail
            refine bodyPost_ret (v := .tuple #[.slice ao2 xs.length cv, .agg #[.int .i64 0, .int .i64 0]]) ?_ rfl ?_
            · exact resRead3 HPt.out rfl rfl
            · exact ⟨ao2, cv, xs, 0, 0, g, rfl, Nat.le_of_lt hup, HRw.out, hxm, .inl ⟨HRok.out, rfl, rfl⟩, HBt.out⟩
    | true =>
      have HK1 : Hid (∀ n, Calls Try.prog 33 #[.pointer (some ⟨g, 0, none⟩)] (wr.drewN n) fun e w' => e = .returned (.bool false) ∧ w' = wr.drewN n) := fun n => HK.out n
      go_upto_region 6 with fail
      go_big_quiet ((go_at_call 33; exact Calls.quiet_of_same (HK1.out _)))
      have HP3 := hide (HP.out.keep (below_drewP wr nq))
      have HM3 := hide (HM.out.but (ButP.of (below_drewP wr nq)))
      generalize wr.drewN nq = w3 at *
      have HK2 := hide (pOk_any g ao ca ts r true w3 HP3.out)
      clear HP HM HK HK1 hgl
      go_wp2_with fail
      refine HK2.out.mono ?_
      rintro e w' ⟨rfl, hw'⟩
      rw [hw']
      simp only [Bool.not_true]
      have HRb : Hid (readS10 s = .bad 4 (badAt s.length r)) := read_of_bad HTs.out (rdSt_bad HT.out)
      obtain ⟨i, hi, hr, hp⟩ := HP3.out.ex
      simp only [if_true] at hp
      have HPb := hide hp
      have c0 := hp.c0
      have c2 := hp.c2
      have c3 := hp.c3
      have q3 := hp.fr 3 (by decide)
      have hgl := hp.lt
      have r0 := HM3.out.res.c0
      have r1 := HM3.out.res.c1
      have p0 := HM3.out.res.fr 0 (by decide)
      have p1 := HM3.out.res.fr 1 (by decide)
      have hml := HM3.out.res.lt
      have hne := HM3.out.up
      clear hp hr hi HK2 HP3 HT
      cases r with
      | nil =>
        have c3 : w3.cell? ⟨g, 3, none⟩ = some (.int .i64 (-1)) := c3
        go_upto_region 11 with fail
        obtain ⟨W4, hW4⟩ : ∃ x, x = w3.setCell ⟨g, 3, none⟩ (.int .i64 (s.length : Int)) := ⟨_, rfl⟩
        have X : Hid (PB W4 g (.slice ao ts.length ca) i 4 s.length) := by unfold Hid; rw [hW4]; exact HPb.out.set3 _
        have HM4 : Hid (RdM w W4 g true xs (.slice ao2 xs.length cv)) := by unfold Hid; rw [hW4]; exact HM3.out.but ((But.refl _ _ _).set 3 _)
        rw [← hW4]
        clear hW4 c0 c2 c3 q3 r0 r1 p0 p1 hml HM3 HPb hgl
        have c2 := X.out.c2
        have c3 := X.out.c3
        have r0 := HM4.out.res.c0
        have r1 := HM4.out.res.c1
        have p0 := HM4.out.res.fr 0 (by decide)
        have p1 := HM4.out.res.fr 1 (by decide)
        have hml := HM4.out.res.lt
        have hgl := HM4.out.gl
        have HPt : Hid (WB (put2 W4 w.heap.size 4 s.length).drew w.heap.size 4 s.length) := (HM4.out.res.put _ _).keep ((Below.refl _ _).drew)
        have HBt : Hid (Below w.heap.size w (put2 W4 w.heap.size 4 s.length).drew) := (put2_below HM4.out.be _ (Nat.le_refl _) _ _).drew
        unfold put2 at HPt HBt
        go_region
        go_wp2_with fail
        refine bodyPost_ret (v := .tuple #[.slice none 0 0, .agg #[.int .i64 4, .int .i64 (s.length : Nat)]]) ?_ rfl ?_
        · exact resRead3 HPt.out rfl rfl
        · exact read_bad (c := 4) HRb.out HBt.out
      | cons t q =>
        have c3 : w3.cell? ⟨g, 3, none⟩ = some (.int .i64 t.at') := c3
        have hneg : ¬ ((t.at' : Int) < 0) := by omega
        go_upto_region 11 with fail
        obtain ⟨W4, hW4⟩ : ∃ x, x = w3 := ⟨_, rfl⟩
        have HM4 : Hid (RdM w W4 g true xs (.slice ao2 xs.length cv)) := by unfold Hid; rw [hW4]; exact HM3.out
        rw [← hW4] at c2 c3 ⊢
        clear hW4 c0 q3 r0 r1 p0 p1 hml HM3 HPb hgl hneg
        have r0 := HM4.out.res.c0
        have r1 := HM4.out.res.c1
        have p0 := HM4.out.res.fr 0 (by decide)
        have p1 := HM4.out.res.fr 1 (by decide)
        have hml := HM4.out.res.lt
        have hgl := HM4.out.gl
        have HPt : Hid (WB (put2 W4 w.heap.size 4 t.at').drew w.heap.size 4 t.at') := (HM4.out.res.put _ _).keep ((Below.refl _ _).drew)
        have HBt : Hid (Below w.heap.size w (put2 W4 w.heap.size 4 t.at').drew) := (put2_below HM4.out.be _ (Nat.le_refl _) _ _).drew
        unfold put2 at HPt HBt
        go_region
        go_wp2_with fail
        refine bodyPost_ret (v := .tuple #[.slice none 0 0, .agg #[.int .i64 4, .int .i64 (t.at' : Nat)]]) ?_ rfl ?_
        · exact resRead3 HPt.out rfl rfl
        · exact read_bad (c := 4) HRb.out HBt.out
end Go.Proofs.Ytcmmjmgbanafgaa

/- The walk over moatref10.Parser's item, whole (text by make/sx13.py). -/
namespace Go.Proofs.Ytcmmjmgbanafgaa
open Go.RowKit Go.Proofs.Url Go.Proofs.Url.Syn

theorem pItem_any (g : Nat) (ao : Option Addr) (cap : Nat) (ts r : List Tk) (w : World) (h : PS w g ao cap ts r false) (hne : r ≠ []) (hl : ts.length < 4294967281) :
    Calls Try.prog 34 #[.pointer (some ⟨g, 0, none⟩)] w fun e w' => OutI (itemR r) g ao cap ts w e w' := by
  cases h0 : isT [111, 114, 105, 103, 105, 110] r with
  | true => exact item_w0 g ao cap ts r w h hne hl  h0
  | false =>
    cases h1 : isT [99, 111, 111, 107, 105, 101] r with
    | true => exact item_w1 g ao cap ts r w h hne hl h0 h1
    | false =>
      cases h2 : isT [115, 101, 99, 114, 101, 116] r with
      | true => exact item_w2 g ao cap ts r w h hne hl h0 h1 h2
      | false =>
        cases h3 : isT [110, 101, 116, 119, 111, 114, 107] r with
        | true => exact item_w3 g ao cap ts r w h hne hl h0 h1 h2 h3
        | false =>
          cases h4 : isT [101, 110, 100, 112, 111, 105, 110, 116] r with
          | true => exact item_w4 g ao cap ts r w h hne hl h0 h1 h2 h3 h4
          | false =>
            cases h5 : isT [112, 114, 111, 112, 101, 114, 116, 121] r with
            | true => exact item_w5 g ao cap ts r w h hne hl h0 h1 h2 h3 h4 h5
            | false =>
              exact item_w6 g ao cap ts r w h hne hl h0 h1 h2 h3 h4 h5
end Go.Proofs.Ytcmmjmgbanafgaa

/- The walk over moatref10's Text. -/
namespace Go.Proofs.Url
open Syn
theorem shows_le (ys : List Itm) (y : Itm) (h : y ∈ ys) : (showI y).length ≤ (ys.flatMap showI).length := by
  induction ys with
  | nil => cases h
  | cons z l ih =>
    rw [List.flatMap_cons, List.length_append]
    rcases List.mem_cons.1 h with rfl | h
    · omega
    · have := ih h; omega
theorem FineI.form {y : Itm} (h : FineI y) : ∀ f, y.f = some f → FineF f := by
  intro f hf
  cases h with
  | property p a x f2 hx h2 => cases hf; exact h2
  | origin => cases hf
  | cookie => cases hf
  | secret => cases hf
  | network => cases hf
  | endpoint => cases hf
end Go.Proofs.Url
namespace Go.Proofs.Ytcmmjmgbanafgaa
open Go.RowKit Go.Proofs.Url Go.Proofs.Url.Syn

theorem item_ok11 : ItemOk := fun g ao cap ts r w h hne hl => pItem_any g ao cap ts r w h hne hl
theorem show_facts {s : List UInt8} {xs : List CI} {c p : Nat} (h : (readS10 s = .ok (xs.map (·.2)) ∧ c = 0 ∧ p = 0) ∨ (readS10 s = .bad c p ∧ xs = [])) :
    showR s = ((xs.map (·.2)).flatMap showI, c, p) ∧ ((xs.map (·.2)).flatMap showI).length ≤ 7 * 16200000 ∧ ∀ y ∈ xs.map (·.2), FineI y := by
  unfold showR
  rcases h with ⟨h, rfl, rfl⟩ | ⟨h, rfl⟩
  · rw [h]
    exact ⟨rfl, Nat.le_trans (shows_len _) (Nat.mul_le_mul_left 7 (readS10_len h)), read_fine h⟩
  · rw [h]; exact ⟨rfl, by simp, fun y hy => by cases hy⟩
theorem resReadText {W : World} {r : Nat} {a b : Int} {v : Value} {tmps : Array Value} (h : WB W r a b) (h2 : tmps[2]?.getD undef = v) (h3 : tmps[3]?.getD undef = .pointer (some ⟨r, 0, none⟩)) :
    (results Try.f8 tmps).run Try.prog W = .ok (.tuple #[v, .agg #[.int .i64 a, .int .i64 b]]) W := by
  obtain ⟨c0, c1, _⟩ := h
  simp [results, Try.results8, go_sem, h2, h3, c0, c1]
set_option maxHeartbeats 8000000 in
set_option maxRecDepth 100000 in
theorem refText_any (s : List UInt8) (w : World) (hs : s.length < 4294967281) :
    Calls Try.prog 8 #[.string ⟨s.toArray⟩] w fun e w' => Below w.heap.size w w' ∧ e = .returned (.tuple #[.string ⟨(showR s).1.toArray⟩, .agg #[.int .i64 (showR s).2.1, .int .i64 (showR s).2.2]]) := by
  have HS := hide hs
  clear hs
  go_enter Try.func8, Try.ntmps8
  go_upto_region 1 with fail
  obtain ⟨W0, hW0⟩ : ∃ x, x = w.alloc (Obj.cells #[.int .i64 0, .int .i64 0] 25) := ⟨_, rfl⟩
  have R0 : Hid (WB W0 w.heap.size 0 0) := by unfold Hid; rw [hW0]; exact WB.new w 0 0 _
  have B0 : Hid (Below w.heap.size w W0) := by unfold Hid; rw [hW0]; exact (Below.refl _ _).alloc (Nat.le_refl _) _
  rw [← hW0]
  clear hW0
  go_wp2_with fail
  refine (refRead_any item_ok11 s W0 (by have := HS.out; omega)).mono ?_
  rintro e w3 ⟨bo, cb, xs, c, p, B, rfl, hB, hrow, hx2, hor, hb3⟩
  obtain ⟨e1, e2, e3⟩ := show_facts hor
  have R3 := hide (R0.out.keep hb3)
  have B3 := hide (B0.out.trans (hb3.mono B0.out.size))
  have HRow := hide hrow
  have HLen := hide e2
  have HFine := hide e3
  have hz4 := hb3.size
  have hr3 := R3.out.lt
  have HEnd : Hid (∀ w', Below w.heap.size w w' → (Below w.heap.size w w' ∧ Ending.returned (.tuple #[.string ⟨((xs.map (·.2)).flatMap showI).toArray⟩, .agg #[.int .i64 (c : Int), .int .i64 (p : Int)]]) = .returned (.tuple #[.string ⟨(showR s).1.toArray⟩, .agg #[.int .i64 (showR s).2.1, .int .i64 (showR s).2.2]]))) := fun w' hb => ⟨hb, by rw [e1]⟩
  clear hb3 hrow hor e1 HS e2 e3 R0 B0
  go_upto_region 3 with fail
  obtain ⟨W3, hW3⟩ : ∃ v, v = w3.alloc (Obj.cells #[.int .i64 c, .int .i64 p] 25) := ⟨_, rfl⟩
  have b3 : Below w3.heap.size w3 W3 := by rw [hW3]; exact (Below.refl _ _).alloc (Nat.le_refl _) _
  have T3 : Hid (WB W3 w3.heap.size c p) := by unfold Hid; rw [hW3]; exact WB.new w3 _ _ 25
  have R4 := hide (R3.out.keep b3)
  have HRow4 := hide (HRow.out.keep b3)
  have C4 := hide (B3.out.trans (b3.mono B3.out.size))
  have h43 : w3.heap.size < W3.heap.size := T3.out.lt
  rw [← hW3]
  clear b3 hW3 B3 R3 HRow
  obtain ⟨ys, hys⟩ : ∃ z, z = xs.map (·.2) := ⟨_, rfl⟩
  rw [← hys] at HLen HFine HEnd
  have HYs := hide hys
  clear hys
  go_wp2_with fail
  go_loopw [6, 7] (fun bv iv W => ∃ k : Nat, k ≤ xs.length ∧ iv = .int .i64 k ∧ bv = .string ⟨((ys.take k).flatMap showI).toArray⟩ ∧ Hid (Below W3.heap.size W3 W)) (fun _ iv _ => xs.length - (intOf iv).toNat)
  case atStart => exact ⟨0, Nat.zero_le _, rfl, rfl, Below.refl _ _⟩
  case round =>
    obtain ⟨k, hk, rfl, rfl, hB⟩ := hrel
    by_cases hlt : k < xs.length
    · have hlI : (k : Int) < (xs.length : Int) := by omega
      have HRw := HRow4.out
      obtain ⟨b, rfl, hb1, hb2, hcell⟩ := HRw.row k hlt
      have hit := HRw.itm xs[k] (List.getElem_mem hlt)
      have hcl := HRw.len xs[k] (List.getElem_mem hlt)
      have hyk : ys.take (k + 1) = ys.take k ++ [xs[k].2] := by
        rw [HYs.out, List.take_succ_eq_append_getElem (by rw [List.length_map]; exact hlt), List.getElem_map]
      have hmem : xs[k].2 ∈ ys := by rw [HYs.out]; exact List.mem_map_of_mem (List.getElem_mem hlt)
      have hyl := Nat.le_trans (shows_le ys _ hmem) HLen.out
      have hfy := (HFine.out _ hmem).form
      have htk : ((ys.take (k + 1)).flatMap showI).length ≤ 7 * 16200000 := by
        have h1 := congrArg (fun l => (l.flatMap showI).length) (List.take_append_drop (k + 1) ys)
        simp only [List.flatMap_append, List.length_append] at h1
        have h2 := HLen.out
        omega
      have hT1 : (ys.take (k + 1)).flatMap showI = (ys.take k).flatMap showI ++ showI xs[k].2 := by rw [hyk, List.flatMap_append]; simp
      have hbw : b < wr.heap.size := by have := hB.out.size; omega
      have HRg : Hid (wr.rangeAt b (k * 16) xs[k].1) := fun j v hj => by rw [hB.out.cell (p := ⟨b, k * 16 + j, none⟩) hb2]; exact hcell j v hj
      have HIt : Hid (ItmAt wr B xs[k].1 xs[k].2) := hit.but (ButP.of hB.out)
      have HC : Hid (xs[k].1.length = 16) := hcl
      clear hcell hit hyk hmem HRw hcl
      generalize xs[k].1 = cs at *
      generalize xs[k].2 = y at *
      have IF : Hid ((Try.prog.info? 65).map (·.size) = some cs.length) := by unfold Hid; rw [HC.out]; kernel_rfl
      have HLn := hide (shown_any B cs y wr HIt.out hfy (by omega))
      have HT1 := hide hT1
      have hl1 : ((ys.take k).flatMap showI).length + (showI y).length ≤ 7 * 16200000 := by rw [hT1, List.length_append] at htk; exact htk
      clear HIt hT1 htk hyl hfy
      generalize (ys.take k).flatMap showI = Pk at *
      generalize showI y = Ly at *
      go_wp2_with (refine wpList_load_mid rfl 65 _ rfl b (k * 16) rfl cs _ HRg.out Try.underlying65 rfl IF.out ?_)
      refine HLn.out.mono ?_
      rintro e w5 ⟨rfl, hb5⟩
      have B5 := hide (hB.out.trans (hb5.mono hB.out.size))
      clear hb5 hB HRg HLn
      go_wp2_with fail
      exact ⟨⟨k + 1, by omega, by go_num, congrArg Value.string (dataEq (by rw [HT1.out]; simp)), B5⟩, by simp [intOf]; omega⟩
    · have hlI : ¬ (k : Int) < (xs.length : Int) := by omega
      obtain rfl : k = xs.length := by omega
      have hyl : ys.length = xs.length := by rw [HYs.out, List.length_map]
      have htk : ys.take xs.length = ys := List.take_of_length_le (by omega)
      rw [htk]
      have R5 := hide (R4.out.keepB hB.out (by omega))
      have T5 := hide (T3.out.keepB hB.out (by have := T3.out.lt; omega))
      have C5 := hide (C4.out.trans (hB.out.mono C4.out.size))
      have r0 := R5.out.c0
      have r1 := R5.out.c1
      have q0 := R5.out.fr 0 (by decide)
      have q1 := R5.out.fr 1 (by decide)
      have t0 := T5.out.c0
      have t1 := T5.out.c1
      have z1 := R5.out.lt
      have z3 := T5.out.lt
      have HPt : Hid (WB (put2 wr w.heap.size c p).drew w.heap.size c p) := (R5.out.put _ _).keep ((Below.refl _ _).drew)
      have HBt : Hid (Below w.heap.size w (put2 wr w.heap.size c p).drew) := (put2_below C5.out _ (Nat.le_refl _) _ _).drew
      have HE2 := hide (HEnd.out _ HBt.out)
      unfold put2 at HPt HBt HE2
      clear hB R4 T3 HRow4 C4 htk HEnd
      generalize ys.flatMap showI = P at *
      go_upto_region 7 with fail
      go_region
      go_wp2_with fail
      refine bodyPost_ret (v := .tuple #[.string ⟨P.toArray⟩, .agg #[.int .i64 c, .int .i64 p]]) ?_ rfl ?_
      · exact resReadText HPt.out rfl rfl
      · exact HE2.out
end Go.Proofs.Ytcmmjmgbanafgaa

/- The walk over moatlaw11.ShowTells. -/
namespace Go.Proofs.Url
open Syn
theorem readS10_code {s : List UInt8} {c p : Nat} (h : readS10 s = .bad c p) : c ≠ 0 := by
  unfold readS10 at h
  cases ht : toksS s with
  | bad c2 p2 => rw [ht] at h; cases h; exact toksS_badc ht
  | ok ts =>
    rw [ht] at h
    simp only at h
    cases hi : itemsF (ts.length + 1) ts with
    | bad r =>
      rw [hi] at h
      cases r with
      | nil => cases h; decide
      | cons t q => cases h; decide
    | ok xs q =>
      rw [hi] at h
      simp only at h
      split at h
      · cases h; decide
      · cases h
theorem again_facts {s T : List UInt8} {P : Nat} (h : showR s = (T, 0, P)) (hl : T.length ≤ 8000) : showR T = (T, 0, 0) ∧ ∃ Y, dumpR s = (Y, 0, 0) ∧ dumpR T = (Y, 0, 0) := by
  cases hs : readS10 s with
  | bad c p =>
    have h2 := h
    unfold showR at h2
    rw [hs] at h2
    exact absurd (by have := congrArg (fun x => x.2.1) h2; exact this) (readS10_code hs)
  | ok xs =>
    have h2 := h
    unfold showR at h2
    rw [hs] at h2
    have hT : xs.flatMap showI = T := congrArg (fun x => x.1) h2
    subst hT
    obtain ⟨ys, h3, h4⟩ := show_again hs hl
    unfold showR dumpR
    rw [hs, h3]
    exact ⟨by rw [alike_shows h4], xs.flatMap lineS, rfl, by rw [alike_lines h4]⟩
theorem count_step (l : List UInt8) (k : Nat) (h : k < l.length) : (l.take (k + 1)).count 10 = (l.take k).count 10 + if l[k] = 10 then 1 else 0 := by
  rw [List.take_succ_eq_append_getElem h, List.count_append, List.count_cons, List.count_nil]
  by_cases hk : l[k] = 10 <;> simp [hk]
end Go.Proofs.Url
namespace Go.Proofs.Ytcmmjmgbanafgaa
open Go.RowKit Go.Proofs.Url Go.Proofs.Url.Syn
theorem dumpS_any (s : List UInt8) (w : World) (hs : s.length < 4294967281) :
    Calls Try.prog 10 #[.string ⟨s.toArray⟩] w fun e w' => Below w.heap.size w w' ∧ e = .returned (.tuple #[.string ⟨(dumpR s).1.toArray⟩, .agg #[.int .i64 (dumpR s).2.1, .int .i64 (dumpR s).2.2]]) :=
  (dump_any s w hs).mono fun e w' h => by
    refine ⟨h.1, ?_⟩
    have h2 := h.2
    unfold dumpR
    cases hx : readS10 s with
    | ok xs => rw [hx] at h2; exact h2
    | bad c p => rw [hx] at h2; exact h2
theorem showR_len (s : List UInt8) : (showR s).1.length ≤ 113400000 := by
  unfold showR
  cases hx : readS10 s with
  | ok xs => exact Nat.le_trans (shows_len _) (Nat.mul_le_mul_left 7 (readS10_len hx))
  | bad c p => exact Nat.zero_le _
set_option maxHeartbeats 8000000 in
set_option maxRecDepth 100000 in
theorem showTells_walk (s : List UInt8) (w : World) (hs : s.length ≤ maxLen) :
    Calls Try.prog 3 #[.string ⟨s.toArray⟩] w fun e w' => e = .returned (.bool true) ∧ Below w.heap.size w w' := by
  unfold maxLen at hs
  by_cases h2 : 2500 < s.length
  · have i2 : (2500 : Int) < (s.length : Int) := by omega
    clear h2
    go_enter Try.func3, Try.ntmps3
    go_wp2_with fail
    refine (awake11_any _).mono ?_
    rintro e w1 ⟨rfl, hb1⟩
    go_wp2_with fail
    go_ret
    exact ⟨rfl, hb1⟩
  have i2 : ¬ (2500 : Int) < (s.length : Int) := by omega
  have h3 : s.length ≤ 2500 := by omega
  clear hs h2
  have HA := hide (fun (h : (showR s).2.1 = 0) => again_facts (s := s) (T := (showR s).1) (P := (showR s).2.2) (by rw [← h]))
  have H1 := hide fun W => shText_any s W (by omega)
  have H2 := hide fun W => refText_any s W (by omega)
  have L1 := hide fun W => shLines_any s W (by omega)
  have D1 := hide fun W => dumpS_any s W (by omega)
  have hX := showR_len s
  generalize (showR s).1 = X at *
  generalize (showR s).2.1 = cx at *
  generalize (showR s).2.2 = px at *
  have HX := hide hX
  clear hX
  go_enter Try.func3, Try.ntmps3
  go_wp2_with fail
  refine (H1.out _).mono ?_
  rintro e w3 ⟨hb3, rfl⟩
  have B3 := hide hb3
  clear hb3 H1
  go_wp2_with fail
  obtain ⟨W3, hW3⟩ : ∃ v, v = w3.alloc (Obj.cells #[.int .i64 cx, .int .i64 px] 25) := ⟨_, rfl⟩
  have b3 : Below w3.heap.size w3 W3 := by rw [hW3]; exact (Below.refl _ _).alloc (Nat.le_refl _) _
  have R3 : Hid (WB W3 w3.heap.size cx px) := by unfold Hid; rw [hW3]; exact WB.new w3 _ _ 25
  have C3 := hide (B3.out.trans (b3.mono B3.out.size))
  rw [← hW3]
  clear b3 hW3 B3
  refine (H2.out _).mono ?_
  rintro e w4 ⟨hb4, rfl⟩
  have B4 := hide (C3.out.trans (hb4.mono C3.out.size))
  have R4 := hide (R3.out.keep hb4)
  clear hb4 C3 R3 H2
  obtain ⟨W4, hW4⟩ : ∃ v, v = w4.alloc (Obj.cells #[.int .i64 cx, .int .i64 px] 25) := ⟨_, rfl⟩
  have b4 : Below w4.heap.size w4 W4 := by rw [hW4]; exact (Below.refl _ _).alloc (Nat.le_refl _) _
  have S4 : Hid (WB W4 w4.heap.size cx px) := by unfold Hid; rw [hW4]; exact WB.new w4 _ _ 25
  have R4b := hide (R4.out.keep b4)
  have C4 := hide (B4.out.trans (b4.mono B4.out.size))
  have r0 := R4b.out.c0
  have r1 := R4b.out.c1
  have s0 := S4.out.c0
  have s1 := S4.out.c1
  have z1 := R4b.out.lt
  have z2 := S4.out.lt
  go_upto_region 5 with fail
  rw [← hW4]
  clear b4 hW4 B4 R4
  go_wp2_with fail
  clear r0 r1 s0 s1 z1 z2 S4
  go_loopw [7, 8] (fun nv iv W => W = W4 ∧ ∃ k : Nat, k ≤ X.length ∧ iv = .int .i64 k ∧ nv = .int .i64 ((X.take k).count 10 : Nat)) (fun _ iv _ => X.length - (intOf iv).toNat)
  case atStart => exact ⟨rfl, 0, Nat.zero_le _, rfl, rfl⟩
  case round =>
    obtain ⟨rfl, k, hk, rfl, rfl⟩ := hrel
    have hXl := HX.out
    have hcl : (X.take k).count 10 ≤ k := Nat.le_trans List.count_le_length (by rw [List.length_take]; omega)
    by_cases hlt : k < X.length
    · have hlI : (k : Int) < (X.length : Int) := by omega
      have HC := hide (count_step X k hlt)
      by_cases h10 : X[k] = 10
      · have HC2 : Hid ((X.take (k + 1)).count 10 = (X.take k).count 10 + 1) := by unfold Hid; rw [HC.out, if_pos h10]
        have hb : ((((⟨X.toArray⟩ : ByteArray)[k]'(by show k < X.toArray.size; simpa using hlt)).toNat : Int) == 10) = true := by
          show ((X[k].toNat : Int) == 10) = true
          rw [h10]; rfl
        clear HC h10
        generalize (X.take k).count 10 = n0 at *
        go_wp2_with fail
        exact ⟨⟨trivial, k + 1, by omega, by go_num, by rw [HC2.out]; go_num⟩, by simp [intOf]; omega⟩
      · have hb : ((((⟨X.toArray⟩ : ByteArray)[k]'(by show k < X.toArray.size; simpa using hlt)).toNat : Int) == 10) = false := beq_eq_false_iff_ne.2 (fun h => h10 (by
          have h : (X[k].toNat : Int) = 10 := h
          have h : X[k].toNat = 10 := by omega
          exact UInt8.toNat_inj.1 h))
        have HC2 : Hid ((X.take (k + 1)).count 10 = (X.take k).count 10) := by unfold Hid; rw [HC.out, if_neg h10, Nat.add_zero]
        clear HC h10
        generalize (X.take k).count 10 = n0 at *
        go_wp2_with fail
        exact ⟨⟨trivial, k + 1, by omega, by go_num, by rw [HC2.out]⟩, by simp [intOf]; omega⟩
    · have hlI : ¬ (k : Int) < (X.length : Int) := by omega
      obtain rfl : k = X.length := by omega
      rw [List.take_length]
      rw [List.take_length] at hcl
      have hcount : Lib.countByte X 10 = X.count 10 := rfl
      rw [hcount] at L1
      clear hcount
      generalize X.count 10 = nl at *
      go_wp2_with fail
      refine (L1.out _).mono ?_
      rintro e w5 ⟨hb5, rfl⟩
      have C5 := hide (C4.out.trans (hb5.mono C4.out.size))
      have R5 := hide (R4b.out.keep hb5)
      clear hb5 C4 R4b L1
      have r0 := R5.out.c0
      have z1 := R5.out.lt
      by_cases hc : cx = 0
      rotate_left
      · have e3 : ((cx : Int) != 0) = true := bne_iff_ne.2 (by omega)
        clear hc
        go_wp2_with fail
        refine (awake11_any _).mono ?_
        rintro e w9 ⟨rfl, hb9⟩
        have C9 := hide (C5.out.trans (hb9.mono C5.out.size))
        clear hb9
        go_wp2_with fail
        go_ret
        exact ⟨rfl, C9.out⟩
      subst hc
      by_cases h8 : 8000 < X.length
      · have i8 : (8000 : Int) < (X.length : Int) := by omega
        clear h8
        go_wp2_with fail
        refine (awake11_any _).mono ?_
        rintro e w9 ⟨rfl, hb9⟩
        have C9 := hide (C5.out.trans (hb9.mono C5.out.size))
        clear hb9
        go_wp2_with fail
        go_ret
        exact ⟨rfl, C9.out⟩
      have i8 : ¬ (8000 : Int) < (X.length : Int) := by omega
      obtain ⟨f1, Y, f2, f3⟩ := HA.out rfl (by omega)
      have H3 := hide fun W => shText_any X W (by omega)
      have D2 := hide fun W => dumpS_any X W (by omega)
      rw [f1] at H3
      rw [f2] at D1
      rw [f3] at D2
      clear HA f1 f2 f3 h8
      go_wp2_with fail
      refine (H3.out _).mono ?_
      rintro e w6 ⟨hb6, rfl⟩
      have C6 := hide (C5.out.trans (hb6.mono C5.out.size))
      clear hb6 C5 R5 r0 z1 H3
      go_wp2_with fail
      obtain ⟨W6, hW6⟩ : ∃ v, v = w6.alloc (Obj.cells #[.int .i64 0, .int .i64 0] 25) := ⟨_, rfl⟩
      have b6 : Below w6.heap.size w6 W6 := by rw [hW6]; exact (Below.refl _ _).alloc (Nat.le_refl _) _
      have R6 : Hid (WB W6 w6.heap.size 0 0) := by unfold Hid; rw [hW6]; exact WB.new w6 0 0 25
      have C6b := hide (C6.out.trans (b6.mono C6.out.size))
      rw [← hW6]
      clear b6 hW6 C6
      refine (D1.out _).mono ?_
      rintro e w7 ⟨hb7, rfl⟩
      have C7 := hide (C6b.out.trans (hb7.mono C6b.out.size))
      have R7 := hide (R6.out.keep hb7)
      clear hb7 C6b R6 D1
      go_wp2_with fail
      obtain ⟨W7, hW7⟩ : ∃ v, v = w7.alloc (Obj.cells #[.int .i64 0, .int .i64 0] 25) := ⟨_, rfl⟩
      have b7 : Below w7.heap.size w7 W7 := by rw [hW7]; exact (Below.refl _ _).alloc (Nat.le_refl _) _
      have S7 : Hid (WB W7 w7.heap.size 0 0) := by unfold Hid; rw [hW7]; exact WB.new w7 0 0 25
      have R7b := hide (R7.out.keep b7)
      have C7b := hide (C7.out.trans (b7.mono C7.out.size))
      rw [← hW7]
      clear b7 hW7 C7 R7
      refine (D2.out _).mono ?_
      rintro e w8 ⟨hb8, rfl⟩
      have C8 := hide (C7b.out.trans (hb8.mono C7b.out.size))
      have R8 := hide (R7b.out.keep hb8)
      have S8 := hide (S7.out.keep hb8)
      clear hb8 C7b R7b S7 D2
      go_upto_region 20 with fail
      obtain ⟨W8, hW8⟩ : ∃ v, v = w8.alloc (Obj.cells #[.int .i64 0, .int .i64 0] 25) := ⟨_, rfl⟩
      have b8 : Below w8.heap.size w8 W8 := by rw [hW8]; exact (Below.refl _ _).alloc (Nat.le_refl _) _
      have T8 : Hid (WB W8 w8.heap.size 0 0) := by unfold Hid; rw [hW8]; exact WB.new w8 0 0 25
      have R8b := hide (R8.out.keep b8)
      have S8b := hide (S8.out.keep b8)
      have C8b := hide (C8.out.trans (b8.mono C8.out.size))
      rw [← hW8]
      clear b8 hW8 C8 R8 S8
      have r0 := R8b.out.c0
      have s0 := S8b.out.c0
      have s1 := S8b.out.c1
      have t0 := T8.out.c0
      have t1 := T8.out.c1
      have z1 := R8b.out.lt
      have z2 := S8b.out.lt
      have z3 := T8.out.lt
      go_wp2_with fail
      refine (awake11_any _).mono ?_
      rintro e w9 ⟨rfl, hb9⟩
      have C9 := hide (C8b.out.trans (hb9.mono C8b.out.size))
      clear hb9
      go_wp2_with fail
      go_ret
      exact ⟨rfl, C9.out⟩
end Go.Proofs.Ytcmmjmgbanafgaa

/- Whatever it is handed, moatlaw11.ShowTells answers true and leaves its arguments as they read before: the row of ShowTells is proved. Conditions: those of the row alone. -/
namespace Go.Proofs.Ytcmmjmgbanafgaa
open Go.ChangeShapes Go.WideShapes Go.ChangeAt Go.RowKit Go.Proofs.Url
open Go.ChangeMaps (open_string shut_string)

set_option maxRecDepth 100000 in
theorem showTells_contract (H : Type) (enc : TypeId × Value → H) (W : World) (base : Nat) (args : Array Value) (ds gs : List (DataW H)) (before : List MemPlace)
    (hval : ∀ (j : Nat) t v, Try.f3.params[j]? = some t → args[j]? = some v → Value.okWide Try.prog W .any base t v)
    (hW : DataW.Whole enc Try.prog Try.f3.params.toList Rows.showTellsSpec.vars false W args.toList ds gs before) (_henv : Env W) :
    Calls Try.prog 3 args W fun e W' => ∃ v, e = .returned v ∧ Rows.showTellsSpec.post enc Try.prog Try.f3 false true false false W args v W' := by
  have hW' := hW
  obtain ⟨p, q, hA0, hV, rfl, hfz, hnd⟩ := hW
  have hA : DataW.TrodAll enc Try.prog W 0 (fun _ => true) true Try.f3.params.toList args.toList ds p := hA0
  rw [Try.params3] at hA hval
  obtain ⟨v0, vs0, d0, ds0, p0, q0, hargs, rfl, rfl, h0, r0⟩ := trodAll_cons hA
  obtain ⟨rfl, rfl, rfl⟩ := trodAll_nil r0
  obtain rfl : args = #[v0] := by cases args; simp_all
  obtain ⟨rfl, rfl⟩ := trodVars_none hV
  obtain ⟨x0, rfl, rfl, rfl, hs0⟩ := open_string Try.underlying9 (hval 0 9 v0 rfl rfl) h0
  clear hA0
  refine (showTells_walk _ W hs0).mono fun e W' ⟨he, bel⟩ => ?_
  subst he
  exact ⟨_, rfl, _, _, _, [], _, [], hW', trodAll_mk1 (shut_bool Try.underlying4 _), (trodAll_cons_mk (shut_string Try.underlying9 hs0) trodAll_mk0), rfl, bel.frame _, fun h => by cases h⟩

theorem showTells_laid (os : Os) : laidMet Try.prog Rows.showTellsRow.laid (({ World.holding Try.prog os ⟨#[], #[], []⟩ with heap := layAll (World.holding Try.prog os ⟨#[], #[], []⟩).heap } : World).forCall (fun _ _ => 0) ⟨#[], #[.string ⟨#[]⟩], []⟩).memory :=
  laidMet_of_run' 8 (by kernel_rfl) (by kernel_rfl)
theorem showTells_reads (os : Os) {H : Type} (enc : TypeId × Value → H) : ∃ places, DataW.whole enc Try.prog (({ World.holding Try.prog os ⟨#[], #[], []⟩ with heap := layAll (World.holding Try.prog os ⟨#[], #[], []⟩).heap } : World).forCall (fun _ _ => 0) ⟨#[], #[.string ⟨#[]⟩], []⟩).memory Try.f3.params.toList Rows.showTellsSpec.vars false #[Value.string ⟨#[]⟩].toList 8 = some ([.lit (.string [])], [], places) :=
  ⟨[], by kernel_rfl⟩

set_option maxRecDepth 100000 in
theorem showTells_lifted (os : Os) (started : os.Started) (H : Type) (enc : TypeId × Value → H) (F : Stop.Interp) :
    ReturnsInHanded {} Try.checked os 3 .any ((OpenSpec.ofChange Rows.showTellsSpec).preRow enc Try.prog Try.f3 Rows.showTellsRow.domain false Rows.showTellsRow.laid) (((OpenSpec.ofChange Rows.showTellsSpec).at F).post enc Try.prog Try.f3 false true false false) := by
  obtain ⟨places, hx⟩ := showTells_reads os enc
  refine returnsInHanded_of_row (C := Try.checked) (s := OpenSpec.ofChange Rows.showTellsSpec) own_knob started (by kernel_rfl) Try.func3
    (witness_row_at (enc := enc) (C := Try.checked) false { World.holding Try.prog os ⟨#[], #[], []⟩ with heap := layAll (World.holding Try.prog os ⟨#[], #[], []⟩).heap } #[.string ⟨#[]⟩] rfl (by kernel_rfl) (by kernel_rfl) (by kernel_rfl)
      (OpenSpec.preRow_of_cond 8 hx (by kernel_rfl) (fun k hk => by cases hk) (by kernel_rfl) (showTells_laid os))) ?_
  intro W base args ds gs before hval hW _ _ _ hL hS _
  exact showTells_contract H enc W base args ds gs before hval hW (env_of hL hS)

theorem showTells_said : Rows.ShowTellsSaid :=
  OpenClaim.holds_of_cond 3 Try.f3 rfl rfl rfl rfl rfl rfl rfl ⟨rfl, rfl, rfl, rfl, rfl⟩ rfl rfl rfl rfl rfl (by kernel_rfl) Try.func3 (by kernel_rfl)
    (of_decide_eq_true (by kernel_rfl)) (by unfold Func.isWrapper; first | (rw [if_pos (by decide +kernel)]; kernel_rfl) | (rw [if_neg (by decide +kernel)]; exact ⟨rfl, rfl⟩))
    (fun os started H enc _ F => by rw [OpenClaim.pre_eq_preRow]; exact showTells_lifted os started H enc F)

end Go.Proofs.Ytcmmjmgbanafgaa
