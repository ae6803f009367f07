/- The walk over moatlaw8.JarHosts. -/
import Derived.Test.YtlmchmhdojkokaaDoorT5
import Derived.Test.YtlmchmhdojkokaaDoorT6
import Derived.Test.YtlmchmhdojkokaaDoorRows5
import Derived.Deep.DeepCutAuto
namespace Go.Proofs.YtlmchmhdojkokaaDoor
open Go.RowKit Go.Proofs.Url

theorem lowN (x : Int) (n : Nat) (h : 1 ≤ n) : ∃ k : Nat, low x n = (k : Int) ∧ k < n := by
  have a := low_nn x n (by omega)
  have b := low_lt x n (by omega)
  exact ⟨(low x n).toNat, by omega, by omega⟩
/-- What Low gives, as a natural number. -/
def lowT (x n : Int) : Nat := (low x n).toNat
theorem lowT_lt (x : Int) (n : Nat) (h : 1 ≤ n) : lowT x n < n := by
  have a := low_nn x n (by omega)
  have b := low_lt x n (by omega)
  unfold lowT; omega
theorem lowT_any (x n : Int) (w : World) (h1 : 1 ≤ n) (h2 : n ≤ 70000) :
    Calls Tryd.prog 16 #[.int .i64 x, .int .i64 n] w fun e w' => e = .returned (.int .i64 (lowT x n : Int)) ∧ w' = w := by
  refine (low_any x n w (by omega) (by omega)).mono ?_
  rintro e w' ⟨rfl, rfl⟩
  have a := low_nn x n (by omega)
  exact ⟨by unfold lowT; rw [Int.toNat_of_nonneg a], rfl⟩
theorem doms3_at (s : Nat) (h : s < 3) : [Value.string ⟨#[]⟩, .string ⟨#[97, 46, 116, 101, 115, 116]⟩, .string ⟨#[120, 46, 97, 46, 116, 101, 115, 116]⟩][s] = .string ⟨(doms3.getD s []).toArray⟩ := by
  match s, h with
  | 0, _ => rfl
  | 1, _ => rfl
  | 2, _ => rfl

def schO (s : Bool) : List UInt8 := if s then https else http
def fitsK (b1 b2 b3 : Bool) (t : Nat) : Bool := b1 || (b2 && decide (t < 3)) || (b3 && (decide (t = 1) || decide (t = 2)))
def orgL (sch at' : List UInt8) : List Value := [.string ⟨#[]⟩, .string ⟨sch.toArray⟩, .string ⟨at'.toArray⟩, .int .i64 80]
def ckL (dm : List UInt8) (sec htt : Bool) : List Value := [.string ⟨#[]⟩, .int .i64 0, .string ⟨dm.toArray⟩, .string ⟨#[47]⟩, .bool sec, .bool htt, .int .i64 0]
theorem jarFits_at (dm : List UInt8) (sec htt : Bool) (hk sch at' : List UInt8) (W : World) (henv : Env W) (h1 : dm.length ≤ 10) (h2 : at'.length ≤ 10) {V : Bool} (hV : fitsJ dm [47] sec hk sch at' [47, 113] = V) :
    Calls Tryd.prog 10 #[.agg (ckL dm sec htt).toArray, .string ⟨hk.toArray⟩, .agg (orgL sch at').toArray, .string ⟨#[47, 113]⟩] W fun e w' => e = .returned (.bool V) ∧ Below W.heap.size W w' := by
  have h := fits_any ⟨#[]⟩ 0 dm [47] sec htt 0 hk ⟨#[]⟩ sch at' 80 [47, 113] W henv (by omega) (by decide) (by omega)
  rw [hV] at h; exact h
theorem jarVis_at (dm : List UInt8) (sec htt : Bool) (hk sch at' : List UInt8) (W : World) (henv : Env W) (h1 : dm.length ≤ 10) (h2 : at'.length ≤ 10) {V : Bool} (hV : fitsJ dm [47] sec hk sch at' [47, 113] = V) :
    Calls Tryd.prog 11 #[.agg (ckL dm sec htt).toArray, .string ⟨hk.toArray⟩, .agg (orgL sch at').toArray, .string ⟨#[47, 113]⟩] W fun e w' => e = .returned (.bool (!htt && V)) ∧ Below W.heap.size W w' := by
  have h := visible_any ⟨#[]⟩ 0 dm [47] sec htt 0 hk ⟨#[]⟩ sch at' 80 [47, 113] W henv (by omega) (by decide) (by omega)
  rw [hV] at h; exact h
/-- The two cookies and the origin that it lays. -/
structure JIn (w W : World) (g : Nat) (dm : List UInt8) (sec : Bool) (sch at' : List UInt8) : Prop where
  rc : W.rangeAt (g + 1) 0 (ckL dm sec false)
  rh : W.rangeAt (g + 1 + 1) 0 (ckL dm sec true)
  ro : W.rangeAt g 0 (orgL sch at')
  bl : Below w.heap.size w W
  hi : g + 1 + 1 < W.heap.size
theorem JIn.keep {w W W' : World} {g : Nat} {dm : List UInt8} {sec : Bool} {sch at' : List UInt8} (h : JIn w W g dm sec sch at') (hb : Below W.heap.size W W') : JIn w W' g dm sec sch at' :=
  ⟨row_keep h.rc hb (by have := h.hi; omega), row_keep h.rh hb h.hi, row_keep h.ro hb (by have := h.hi; omega), h.bl.trans (hb.mono h.bl.size), Nat.lt_of_lt_of_le h.hi hb.size⟩
/-- All that JarHosts rests on, its numbers hidden. -/
theorem hosts_pack (own dn go : Int) (sec s : Bool) : ∃ hk at' dm : List UInt8, hk = hosts5.getD (lowT own 3) [] ∧ at' = hosts5.getD (lowT go 5) [] ∧ dm = doms3.getD (lowT dn 3) [] ∧
    hk.length ≤ 10 ∧ at'.length ≤ 10 ∧ dm.length ≤ 8 ∧ fitsJ dm [47] sec hk (schO s) at' [47, 113] = (fitsK (decide (at' = hk)) (decide (dm = [97, 46, 116, 101, 115, 116])) (decide (dm = [120, 46, 97, 46, 116, 101, 115, 116])) (lowT go 5) && (!sec || s)) := by
  refine ⟨_, _, _, rfl, rfl, rfl, hosts5_len _, hosts5_len _, doms3_len _, ?_⟩
  have h := hosts_tell ⟨lowT own 3, lowT_lt own 3 (by decide)⟩ ⟨lowT go 5, lowT_lt go 5 (by decide)⟩ ⟨lowT dn 3, lowT_lt dn 3 (by decide)⟩ sec
  simp only at h
  cases s
  · exact h.2.trans (by rw [Bool.or_false]; rfl)
  · exact h.1.trans (by rw [Bool.or_true, Bool.and_true]; rfl)

set_option maxHeartbeats 2000000 in
set_option maxRecDepth 100000 in
theorem jarHosts_walk (own dn go : Int) (sec s : Bool) (w : World) (henv : Env w) :
    Calls Tryd.prog 6 #[.int .i64 own, .int .i64 dn, .int .i64 go, .bool sec, .bool s] w fun e w' => e = .returned (.bool true) ∧ Below w.heap.size w w' := by
  have HE := hide henv
  have XA := hide (fun W hb => awake8_any W (henv.keep (w' := W) hb))
  clear henv
  have hk3 : lowT own 3 < 3 := lowT_lt own 3 (by decide)
  have hd3 : lowT dn 3 < 3 := lowT_lt dn 3 (by decide)
  have ht5 : lowT go 5 < 5 := lowT_lt go 5 (by decide)
  obtain ⟨hk, at', dm, ehk, eat, edm, n1, n2, n3, ht⟩ := hosts_pack own dn go sec s
  have HT := hide ht
  clear ht
  have i1 : (lowT own 3 : Int) < 5 := by omega
  have i2 : (lowT go 5 : Int) < 5 := by omega
  have i3 : (lowT dn 3 : Int) < 3 := by omega
  have l3 := doms3_at (lowT dn 3) hd3
  rw [← edm] at l3
  go_enter Tryd.func6, Tryd.ntmps6
  go_upto_region 2 with fail
  have K0 := lits_new w hosts5 9 (lowT own 3) (by show lowT own 3 < 5; omega)
  have K1 := lits_new w hosts5 9 (lowT go 5) (by show lowT go 5 < 5; omega)
  rw [← ehk] at K0
  rw [← eat] at K1
  clear ehk eat edm
  obtain ⟨W0, hW0⟩ : ∃ W0, W0 = w.alloc (Obj.cells (hosts5.map (fun l => Value.string ⟨l.toArray⟩)).toArray 9) := ⟨_, rfl⟩
  have B0 : Hid (Below w.heap.size w W0) := by unfold Hid; rw [hW0]; exact (Below.refl _ _).alloc (Nat.le_refl _) _
  rw [← hW0] at K0 K1
  simp only [hosts5, List.map] at hW0
  rw [← hW0]
  clear hW0
  have hgl := World.block_lt_of_cell? _ _ K0
  simp only at hgl
  go_quiet (first | (go_at_call 16; exact Calls.quiet_of_same (lowT_any _ _ _ (by decide) (by decide))))
  have B1 := hide (B0.out.trans ((_root_.Go.below_drewN (Below.refl W0.heap.size W0) nq).mono B0.out.size))
  clear K0 K1 hgl B0
  generalize W0.drewN nq = W1 at *
  go_upto_region 4 with (go_at_call 16; refine (lowT_any _ _ _ (by decide) (by decide)).mono ?_; rintro e w' ⟨rfl, hw'⟩; rw [hw'])
  obtain ⟨W2, hW2⟩ : ∃ W2, W2 = W1.alloc (Obj.cells #[.string ⟨#[]⟩, .string ⟨#[97, 46, 116, 101, 115, 116]⟩, .string ⟨#[120, 46, 97, 46, 116, 101, 115, 116]⟩] 9) := ⟨_, rfl⟩
  rw [← hW2]
  have B2 : Hid (Below w.heap.size w W2) := by unfold Hid; rw [hW2]; exact B1.out.alloc B1.out.size _
  clear hW2 B1 l3
  go_upto_if 38 with fail
  obtain ⟨g, hg⟩ : ∃ g, g = W2.heap.size := ⟨_, rfl⟩
  have HG := hide hg
  rw [← hg]
  go_cut [15] (fun v W => v = .pointer (some ⟨g, 0, none⟩) ∧ Hid (W.rangeAt g 0 (orgL (schO s) at')) ∧ Hid (Below w.heap.size w W) ∧ W.heap.size = g + 1)
  case first => as_aux_lemma =>
    subst hg
    cases s with
    | true =>
      go_wp2_with fail
      go_meet
      case rel => exact ⟨rfl, row_new W2 (orgL (schO true) at') 25, B2.out.alloc B2.out.size _, by simp⟩
    | false =>
      go_wp2_with fail
      go_meet
      case rel => exact ⟨rfl, row_new W2 (orgL (schO false) at') 25, B2.out.alloc B2.out.size _, by simp⟩
  case rest =>
  obtain ⟨rfl, RO, B3, hsz⟩ := hcut
  clear hg B2
  obtain ⟨b1, hb1⟩ : ∃ v, (at' == hk) = v := ⟨_, rfl⟩
  obtain ⟨b2, hb2⟩ : ∃ v, (dm == [97, 46, 116, 101, 115, 116]) = v := ⟨_, rfl⟩
  obtain ⟨b3, hb3⟩ : ∃ v, (dm == [120, 46, 97, 46, 116, 101, 115, 116]) = v := ⟨_, rfl⟩
  obtain ⟨F, hF⟩ : ∃ F, F = fitsK b1 b2 b3 (lowT go 5) := ⟨_, rfl⟩
  have HF := hide hF
  replace HT : Hid (fitsJ dm [47] sec hk (schO s) at' [47, 113] = (F && (!sec || s))) := by
    unfold Hid
    rw [HT.out, hF, ← hb1, ← hb2, ← hb3, Bool.beq_eq_decide_eq, Bool.beq_eq_decide_eq, Bool.beq_eq_decide_eq]
  clear hF
  go_upto_region 7 with fail
  go_cut [16] (fun v W => v = .bool F ∧ W = wc)
  case first => as_aux_lemma =>
    clear HT RO B3 HE XA
    unfold fitsK at HF
    cases b1 with
    | true =>
      go_wp2_with (go_at_call 16; refine (lowT_any _ _ _ (by decide) (by decide)).mono ?_; rintro e w' ⟨rfl, hw'⟩; rw [hw'])
      all_goals go_meet
      all_goals (case rel => exact ⟨congrArg Value.bool (by rw [HF.out]; simp), rfl⟩)
    | false =>
      cases b2 with
      | true =>
        have b3' : b3 = false := by
          rw [← hb3, beq_eq_false_iff_ne]
          rw [beq_iff_eq] at hb2
          rw [hb2]; decide
        subst b3'
        go_wp2_with (go_at_call 16; refine (lowT_any _ _ _ (by decide) (by decide)).mono ?_; rintro e w' ⟨rfl, hw'⟩; rw [hw'])
        all_goals go_meet
        all_goals (case rel => exact ⟨congrArg Value.bool (by rw [HF.out]; rw [Bool.eq_iff_iff]; simp at * <;> omega), rfl⟩)
      | false =>
        cases b3 with
        | true =>
          go_wp2_with (go_at_call 16; refine (lowT_any _ _ _ (by decide) (by decide)).mono ?_; rintro e w' ⟨rfl, hw'⟩; rw [hw'])
          all_goals go_meet
          all_goals (case rel => exact ⟨congrArg Value.bool (by rw [HF.out]; rw [Bool.eq_iff_iff]; simp at * <;> omega), rfl⟩)
        | false =>
          go_wp2_with (go_at_call 16; refine (lowT_any _ _ _ (by decide) (by decide)).mono ?_; rintro e w' ⟨rfl, hw'⟩; rw [hw'])
          all_goals go_meet
          all_goals (case rel => exact ⟨congrArg Value.bool (by rw [HF.out]; simp), rfl⟩)
  case rest =>
  obtain ⟨rfl, hwc⟩ := hcut
  subst hwc
  clear hb1 hb2 hb3 HF
  go_upto_region 9 with fail
  obtain ⟨W4, hW4⟩ : ∃ W4, W4 = wc.alloc (Obj.cells (ckL dm sec false).toArray 23) := ⟨_, rfl⟩
  have RC : Hid (W4.rangeAt (g + 1) 0 (ckL dm sec false)) := by
    have h := row_new wc (ckL dm sec false) 23
    rw [hsz] at h
    unfold Hid; rw [hW4]; exact h
  have RO4 : Hid (W4.rangeAt g 0 (orgL (schO s) at')) := by unfold Hid; rw [hW4]; exact row_keep RO.out ((Below.refl wc.heap.size wc).alloc (Nat.le_refl _) _) (by omega)
  have B4 : Hid (Below w.heap.size w W4) := by unfold Hid; rw [hW4]; exact B3.out.alloc B3.out.size _
  have hs4 : W4.heap.size = g + 1 + 1 := by rw [hW4, World.size_alloc, hsz]
  simp only [ckL] at hW4
  rw [← hW4]
  clear hW4 RO B3 hsz
  obtain ⟨V, hV⟩ : ∃ V, V = (F && (!sec || s)) := ⟨_, rfl⟩
  have HV := hide hV
  rw [← hV] at HT
  clear hV
  go_cut [18] (fun v W => v = .bool V ∧ W = W4)
  case first => as_aux_lemma =>
    clear HT RO4 B4 HE XA RC
    cases F with
    | false =>
      go_wp2_with fail
      go_meet
      case rel => exact ⟨congrArg Value.bool (by rw [HV.out]; rfl), rfl⟩
    | true =>
      cases sec with
      | false =>
        go_wp2_with fail
        go_meet
        case rel => exact ⟨congrArg Value.bool (by rw [HV.out]; rfl), rfl⟩
      | true =>
        go_wp2_with fail
        go_meet
        case rel => exact ⟨congrArg Value.bool (by rw [HV.out]; rfl), rfl⟩
  case rest =>
  obtain ⟨rfl, hwc⟩ := hcut
  subst hwc
  clear HV
  obtain ⟨c0, c1, c2, c3, c4, c5, c6⟩ := cells7_of RC.out
  go_upto_region 12 with fail
  obtain ⟨W6, hW6⟩ : ∃ W6, W6 = wc.alloc (Obj.cells (ckL dm sec true).toArray 23) := ⟨_, rfl⟩
  have J6 : Hid (JIn w W6 g dm sec (schO s) at') := by
    have h := row_new wc (ckL dm sec true) 23
    rw [hs4] at h
    have b : Below wc.heap.size wc W6 := by rw [hW6]; exact (Below.refl _ _).alloc (Nat.le_refl _) _
    exact ⟨row_keep RC.out b (by omega), by rw [hW6]; exact h, row_keep RO4.out b (by omega), B4.out.trans (b.mono B4.out.size), by rw [hW6, World.size_alloc]; omega⟩
  simp only [ckL] at hW6
  rw [← hW6]
  clear hW6 c0 c1 c2 c3 c4 c5 c6 RC RO4 B4 hs4
  have FA := hide (fun (htt : Bool) W hb => jarFits_at dm sec htt hk (schO s) at' W (HE.out.keep (w' := W) hb) (by omega) (by omega) HT.out)
  have VA := hide (fun (htt : Bool) W hb => jarVis_at dm sec htt hk (schO s) at' W (HE.out.keep (w' := W) hb) (by omega) (by omega) HT.out)
  have kV : (V == V) = true := by simp
  clear HT HE n1 n2 n3
  generalize schO s = sc at *
  obtain ⟨c0, c1, c2, c3, c4, c5, c6⟩ := cells7_of J6.out.rc
  obtain ⟨o0, o1, o2, o3⟩ := cells4_of J6.out.ro
  have hi := J6.out.hi
  go_wp2_with fail
  refine (FA.out false _ J6.out.bl).mono ?_
  rintro r w7 ⟨rfl, hb7⟩
  have J7 : Hid (JIn w w7 g dm sec sc at') := J6.out.keep hb7
  clear hb7 J6 c0 c1 c2 c3 c4 c5 c6 o0 o1 o2 o3 hi
  obtain ⟨c0, c1, c2, c3, c4, c5, c6⟩ := cells7_of J7.out.rc
  obtain ⟨o0, o1, o2, o3⟩ := cells4_of J7.out.ro
  have hi := J7.out.hi
  go_wp2_with fail
  refine (VA.out false _ J7.out.bl).mono ?_
  rintro r w8 ⟨rfl, hb8⟩
  rw [Bool.not_false, Bool.true_and]
  have J8 : Hid (JIn w w8 g dm sec sc at') := J7.out.keep hb8
  clear hb8 J7 c0 c1 c2 c3 c4 c5 c6 o0 o1 o2 o3 hi
  obtain ⟨c0, c1, c2, c3, c4, c5, c6⟩ := cells7_of J8.out.rh
  obtain ⟨o0, o1, o2, o3⟩ := cells4_of J8.out.ro
  have hi := J8.out.hi
  go_wp2_with fail
  refine (VA.out true _ J8.out.bl).mono ?_
  rintro r w9 ⟨rfl, hb9⟩
  rw [Bool.not_true, Bool.false_and]
  have J9 : Hid (JIn w w9 g dm sec sc at') := J8.out.keep hb9
  clear hb9 J8 c0 c1 c2 c3 c4 c5 c6 o0 o1 o2 o3 hi
  obtain ⟨c0, c1, c2, c3, c4, c5, c6⟩ := cells7_of J9.out.rh
  obtain ⟨o0, o1, o2, o3⟩ := cells4_of J9.out.ro
  have hi := J9.out.hi
  go_wp2_with fail
  refine (FA.out true _ J9.out.bl).mono ?_
  rintro r w10 ⟨rfl, hb10⟩
  have B10 : Hid (Below w.heap.size w w10) := (J9.out.keep hb10).bl
  clear hb10 J9 c0 c1 c2 c3 c4 c5 c6 o0 o1 o2 o3 hi FA VA
  go_wp2_with fail
  refine (XA.out _ B10.out).mono ?_
  rintro r w11 ⟨rfl, hb11⟩
  have B11 : Hid (Below w.heap.size w w11) := B10.out.trans (hb11.mono B10.out.size)
  clear hb11
  go_wp2_with fail
  go_ret
  exact ⟨rfl, B11.out⟩
end Go.Proofs.YtlmchmhdojkokaaDoor
