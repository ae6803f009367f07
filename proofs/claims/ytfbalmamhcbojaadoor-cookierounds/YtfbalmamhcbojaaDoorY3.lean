/- The walk over cookie.readPair: one attribute more. -/
import Derived.Test.YtfbalmamhcbojaaDoorY2
namespace Go.Proofs.YtfbalmamhcbojaaDoor
open Go.RowKit Go.Proofs.Url

/-- What readPair leaves. -/
def PairPost (h k v : List UInt8) (c : Ck) (g : Nat) (w : World) (e : Ending) (w' : World) : Prop :=
  e = .returned (.bool (stepC h c (k, v)).isSome) ∧ (∀ c', stepC h c (k, v) = some c' → CBox w' g c') ∧ But g w.heap.size w w'
theorem post_of {h k v : List UInt8} {c d : Ck} {g : Nat} {w w' : World} {b : Bool} (hs : stepC h c (k, v) = if b = true then some d else none) (hx : CBox w' g d) (hb : But g w.heap.size w w') : PairPost h k v c g w (.returned (.bool b)) w' := by
  refine ⟨?_, ?_, hb⟩
  · rw [hs]; cases b <;> rfl
  · intro c' hc
    rw [hs] at hc
    cases b
    · cases hc
    · cases hc; exact hx
theorem post_no {h k v : List UInt8} {c : Ck} {g : Nat} {w w' : World} (hs : stepC h c (k, v) = none) (hb : But g w.heap.size w w') : PairPost h k v c g w (.returned (.bool false)) w' :=
  ⟨by rw [hs]; rfl, (fun c' hc => by rw [hs] at hc; cases hc), hb⟩

theorem pathL_any (l : List UInt8) (w : World) (h : l.length < 4294967281) :
    Calls Tryd.prog 32 #[.string ⟨l.toArray⟩] w fun e w' => e = .returned (.bool (path l)) ∧ w' = w := path_any ⟨l.toArray⟩ w (by rw [show (⟨l.toArray⟩ : ByteArray).size = l.length by simp [ByteArray.size]]; unfold maxLen; omega)
set_option maxHeartbeats 1000000 in
theorem readPair_any (h k v : List UInt8) (c : Ck) (g : Nat) (w : World) (hbox : CBox w g c) (hv : v.length < 4294967281)
    (MD : ∀ W, Below g w W → Calls Tryd.prog 31 #[.string ⟨h.toArray⟩, .string ⟨v.toArray⟩] W fun e w' => e = .returned (.bool (mayDom h v)) ∧ Below W.heap.size W w') :
    Calls Tryd.prog 14 #[.pointer (some ⟨g, 0, none⟩), .string ⟨h.toArray⟩, .string ⟨k.toArray⟩, .string ⟨v.toArray⟩] w fun e w' => PairPost h k v c g w e w' := by
  have HB := hide hbox
  have HM := hide MD
  have hlt := hbox.lt
  clear MD
  by_cases h1 : k = kDomain
  · have c2 := hbox.c2
    have f2 := hbox.fr 2 (by decide)
    clear hbox
    subst h1
    have HS := hide (step_dom h v c)
    unfold kDomain
    cases hd : c.dom.isEmpty with
    | true =>
      have HS2 : Hid (stepC h c (kDomain, v) = if mayDom h v = true then some { c with dom := v } else none) := by unfold Hid; rw [HS.out, hd, Bool.and_true]
      go_enter Tryd.func14, Tryd.ntmps14
      go_wp2_with (go_at_call 31; refine (HM.out _ ((Below.refl _ _).setCell (p := ⟨g, 2, none⟩) (Nat.le_refl _) _)).mono ?_; rintro e w' ⟨rfl, hb⟩)
      go_ret
      exact post_of HS2.out ((HB.out.setDom v).keep hb) (((But.refl g _ _).set 2 _).trans (But.below (by rw [size_set] at hb; exact hb)))
    | false =>
      have HS2 : Hid (stepC h c (kDomain, v) = none) := by unfold Hid; rw [HS.out, hd, Bool.and_false]; rfl
      go_enter Tryd.func14, Tryd.ntmps14
      go_wp2_with fail
      go_ret
      exact post_no HS2.out ((But.refl g _ _).set 2 _)
  by_cases h2 : k = kPath
  · have c2 := hbox.c3
    have f2 := hbox.fr 3 (by decide)
    clear hbox h1
    subst h2
    have HS := hide (step_path h v c)
    have HP := hide (fun W => pathL_any v W hv)
    unfold kPath
    cases hd : c.way.isEmpty with
    | true =>
      have HS2 : Hid (stepC h c (kPath, v) = if path v = true then some { c with way := v } else none) := by unfold Hid; rw [HS.out, hd, Bool.and_true]
      go_enter Tryd.func14, Tryd.ntmps14
      go_wp2_with (go_at_call 32; refine (HP.out _).mono ?_; rintro e w' ⟨rfl, rfl⟩)
      go_ret
      exact post_of HS2.out (HB.out.setWay v) ((But.refl g _ _).set 3 _)
    | false =>
      have HS2 : Hid (stepC h c (kPath, v) = none) := by unfold Hid; rw [HS.out, hd, Bool.and_false]; rfl
      go_enter Tryd.func14, Tryd.ntmps14
      go_wp2_with fail
      go_ret
      exact post_no HS2.out ((But.refl g _ _).set 3 _)
  by_cases h3 : k = kSecure
  · have c2 := hbox.c4
    have f2 := hbox.fr 4 (by decide)
    clear hbox h1 h2
    subst h3
    have HS := hide (step_sec h v c)
    unfold kSecure
    cases hd : c.sec with
    | true =>
      have HS2 : Hid (stepC h c (kSecure, v) = none) := by unfold Hid; rw [HS.out, hd, Bool.not_true, Bool.and_false]; rfl
      rw [hd] at c2
      go_enter Tryd.func14, Tryd.ntmps14
      go_wp2_with fail
      go_ret
      exact post_no HS2.out ((But.refl g _ _).set 4 _)
    | false =>
      have HS2 : Hid (stepC h c (kSecure, v) = if v.isEmpty = true then some { c with sec := true } else none) := by unfold Hid; rw [HS.out, hd, Bool.not_false, Bool.and_true]
      rw [hd] at c2
      go_enter Tryd.func14, Tryd.ntmps14
      go_wp2_with fail
      go_ret
      exact post_of HS2.out (HB.out.setSec true) ((But.refl g _ _).set 4 _)
  by_cases h4 : k = kHttp
  · have c2 := hbox.c5
    have f2 := hbox.fr 5 (by decide)
    clear hbox h1 h2 h3
    subst h4
    have HS := hide (step_http h v c)
    unfold kHttp
    cases hd : c.htt with
    | true =>
      have HS2 : Hid (stepC h c (kHttp, v) = none) := by unfold Hid; rw [HS.out, hd, Bool.not_true, Bool.and_false]; rfl
      rw [hd] at c2
      go_enter Tryd.func14, Tryd.ntmps14
      go_wp2_with fail
      go_ret
      exact post_no HS2.out ((But.refl g _ _).set 5 _)
    | false =>
      have HS2 : Hid (stepC h c (kHttp, v) = if v.isEmpty = true then some { c with htt := true } else none) := by unfold Hid; rw [HS.out, hd, Bool.not_false, Bool.and_true]
      rw [hd] at c2
      go_enter Tryd.func14, Tryd.ntmps14
      go_wp2_with fail
      go_ret
      exact post_of HS2.out (HB.out.setHtt true) ((But.refl g _ _).set 5 _)
  by_cases h5 : k = kSame
  · have c2 := hbox.c6
    have f2 := hbox.fr 6 (by decide)
    clear hbox h1 h2 h3 h4
    subst h5
    have HS := hide (step_same h v c)
    unfold kSame
    have HR := hide (fun W => readSame_any v W hv)
    by_cases hd : c.same = 0
    · have hz : ((c.same : Int) == 0) = true := beq_iff_eq.2 (by omega)
      have HS2 : Hid (stepC h c (kSame, v) = if decide (0 < sameV v) = true then some { c with same := sameV v } else none) := by unfold Hid; rw [HS.out, decide_eq_false (show ¬ 0 < c.same by omega), Bool.not_false, Bool.and_true]
      clear hd
      go_enter Tryd.func14, Tryd.ntmps14
      go_wp2_with fail
      refine (HR.out _).mono ?_
      rintro e w1 ⟨rfl, hb⟩
      have B1 := HB.out.keep hb
      have c2' := B1.c6
      have f2' := B1.fr 6 (by decide)
      have hlt' := B1.lt
      clear c2 f2 hz
      generalize sameV v = n at *
      have hn : Hid (decide (0 < n) = ((n : Int) != 0)) := by unfold Hid; rw [Bool.eq_iff_iff]; simp; omega
      rw [hn.out] at HS2
      go_wp2_with fail
      go_ret
      exact post_of HS2.out (B1.setSame n) ((But.below hb).set 6 _)
    · have hz : ((c.same : Int) == 0) = false := beq_eq_false_iff_ne.2 (by omega)
      have HS2 : Hid (stepC h c (kSame, v) = none) := by unfold Hid; rw [HS.out, decide_eq_true (show 0 < c.same by omega), Bool.not_true, Bool.and_false]; rfl
      clear hd
      go_enter Tryd.func14, Tryd.ntmps14
      go_wp2_with fail
      refine (HR.out _).mono ?_
      rintro e w1 ⟨rfl, hb⟩
      have B1 := HB.out.keep hb
      have c2' := B1.c6
      have f2' := B1.fr 6 (by decide)
      have hlt' := B1.lt
      go_wp2_with fail
      go_ret
      exact post_no HS2.out ((But.below hb).set 6 _)
  · have HN := hide (step_else h k v c h1 h2 h3 h4 h5)
    clear hbox
    have e1 : (k == [100, 111, 109, 97, 105, 110]) = false := beq_eq_false_iff_ne.2 h1
    have e2 : (k == [112, 97, 116, 104]) = false := beq_eq_false_iff_ne.2 h2
    have e3 : (k == [115, 101, 99, 117, 114, 101]) = false := beq_eq_false_iff_ne.2 h3
    have e4 : (k == [104, 116, 116, 112, 111, 110, 108, 121]) = false := beq_eq_false_iff_ne.2 h4
    have e5 : (k == [115, 97, 109, 101, 115, 105, 116, 101]) = false := beq_eq_false_iff_ne.2 h5
    clear h1 h2 h3 h4 h5
    go_enter Tryd.func14, Tryd.ntmps14
    go_wp2_with fail
    go_ret
    exact post_no HN.out (But.refl g _ _)
end Go.Proofs.YtfbalmamhcbojaaDoor
