/- The walk over moatref9.one (text by make/lx3.py). -/
import Derived.Test.YtcmmjmgbanafgaaLx2
import Derived.Test.YtcmmjmgbanafgaaBut
import Derived.BigRegion
import Derived.Deep.DeepCutAuto
namespace Go.Proofs.Ytcmmjmgbanafgaa
open Go.RowKit Go.Proofs.Url

/-- A token in memory. -/
structure TB (W : World) (g : Nat) (a b : Int) (c : List UInt8) : Prop where
  c0 : W.cell? ⟨g, 0, none⟩ = some (.int .i64 a)
  c1 : W.cell? ⟨g, 1, none⟩ = some (.int .i64 b)
  c2 : W.cell? ⟨g, 2, none⟩ = some (.string ⟨c.toArray⟩)
  fr : ∀ j, j < 3 → W.frozen? ⟨g, j, none⟩ = false
theorem TB.lt {W : World} {g : Nat} {a b : Int} {c : List UInt8} (h : TB W g a b c) : g < W.heap.size := World.block_lt_of_cell? W _ h.c0
theorem TB.same {W W' : World} {g : Nat} {a b : Int} {c : List UInt8} (h : TB W g a b c) (hb : W'.heap[g]? = W.heap[g]?) : TB W' g a b c := by
  have hc : ∀ j, W'.cell? ⟨g, j, none⟩ = W.cell? ⟨g, j, none⟩ := fun j => World.cell?_of_block (w := W) hb
  have hf : ∀ j, W'.frozen? ⟨g, j, none⟩ = W.frozen? ⟨g, j, none⟩ := fun j => by unfold World.frozen?; simp only [hb]
  exact ⟨by rw [hc]; exact h.c0, by rw [hc]; exact h.c1, by rw [hc]; exact h.c2, fun j hj => by rw [hf]; exact h.fr j hj⟩
theorem TB.keep {W W' : World} {g : Nat} {a b : Int} {c : List UInt8} (h : TB W g a b c) (hb : Below W.heap.size W W') : TB W' g a b c := h.same (hb.block g h.lt)
theorem TB.other {W : World} {g r : Nat} {a b : Int} {c : List UInt8} (h : TB W g a b c) (hn : g ≠ r) (j : Nat) (v : Value) : TB (W.setCell ⟨r, j, none⟩ v) g a b c := h.same (Below.heap_setCell _ _ _ _ hn)
theorem tcell_same {W : World} {g j : Nat} {u v : Value} (h : W.cell? ⟨g, j, none⟩ = some u) : (W.setCell ⟨g, j, none⟩ v).cell? ⟨g, j, none⟩ = some v := World.cell?_setCell_same _ _ _ h
theorem tcell_other {W : World} {g i j : Nat} {u v : Value} (h : W.cell? ⟨g, j, none⟩ = some u) (hij : i ≠ j) : (W.setCell ⟨g, i, none⟩ v).cell? ⟨g, j, none⟩ = some u := by
  rw [World.cell?_setCell_other (h := fun e => hij (congrArg Addr.off e))]; exact h
theorem TB.frS {W : World} {g : Nat} {a b : Int} {c : List UInt8} (h : TB W g a b c) (i : Nat) (v : Value) : ∀ j, j < 3 → (W.setCell ⟨g, i, none⟩ v).frozen? ⟨g, j, none⟩ = false := fun j hj => by
  rw [World.frozen?_setCell]; exact h.fr j hj
theorem TB.set0 {W : World} {g : Nat} {a b : Int} {c : List UInt8} (h : TB W g a b c) (v : Int) : TB (W.setCell ⟨g, 0, none⟩ (.int .i64 v)) g v b c := ⟨tcell_same h.c0, tcell_other h.c1 (by decide), tcell_other h.c2 (by decide), h.frS _ _⟩
theorem TB.set1 {W : World} {g : Nat} {a b : Int} {c : List UInt8} (h : TB W g a b c) (v : Int) : TB (W.setCell ⟨g, 1, none⟩ (.int .i64 v)) g a v c := ⟨tcell_other h.c0 (by decide), tcell_same h.c1, tcell_other h.c2 (by decide), h.frS _ _⟩
theorem TB.set2 {W : World} {g : Nat} {a b : Int} {c : List UInt8} (h : TB W g a b c) (v : List UInt8) : TB (W.setCell ⟨g, 2, none⟩ (.string ⟨v.toArray⟩)) g a b v := ⟨tcell_other h.c0 (by decide), tcell_other h.c1 (by decide), tcell_same h.c2, h.frS _ _⟩
theorem TB.new (w : World) (a b : Int) (c : List UInt8) (t : TypeId) : TB (w.alloc (.cells #[.int .i64 a, .int .i64 b, .string ⟨c.toArray⟩] t)) w.heap.size a b c := by
  refine ⟨?_, ?_, ?_, fun j hj => ?_⟩
  all_goals (first | (rw [World.frozen?_alloc_new]; done) | (rw [World.cell?_alloc_new]; rfl))
/-- A whole token is stored. -/
def put3 (W : World) (g : Nat) (a b : Int) (c : List UInt8) : World := ((W.setCell ⟨g, 0, none⟩ (.int .i64 a)).setCell ⟨g, 1, none⟩ (.int .i64 b)).setCell ⟨g, 2, none⟩ (.string ⟨c.toArray⟩)
theorem TB.put {W : World} {g : Nat} {a b : Int} {c : List UInt8} (h : TB W g a b c) (a' b' : Int) (c' : List UInt8) : TB (put3 W g a' b' c') g a' b' c' := ((h.set0 a').set1 b').set2 c'
theorem put3_below {B : Nat} {u W : World} (h : Below B u W) (g : Nat) (hg : B ≤ g) (a b : Int) (c : List UInt8) : Below B u (put3 W g a b c) :=
  ((h.setCell (p := ⟨g, 0, none⟩) hg _).setCell (p := ⟨g, 1, none⟩) hg _).setCell (p := ⟨g, 2, none⟩) hg _
/-- The result's token, and the one that is made. -/
structure OneIn (w W : World) (g : Nat) (a b : Int) (c : List UInt8) : Prop where
  r : TB W g 0 0 []
  t : TB W (g + 1) a b c
  bl : Below g w W
theorem OneIn.keep {w W W' : World} {g : Nat} {a b : Int} {c : List UInt8} (h : OneIn w W g a b c) (hb : Below W.heap.size W W') : OneIn w W' g a b c := ⟨h.r.keep hb, h.t.keep hb, h.bl.trans (hb.mono (Nat.le_of_lt h.r.lt))⟩
theorem OneIn.drew {w W : World} {g : Nat} {a b : Int} {c : List UInt8} (h : OneIn w W g a b c) : OneIn w W.drew g a b c := h.keep ((Below.refl _ _).drew)
theorem OneIn.kind {w W : World} {g : Nat} {a b : Int} {c : List UInt8} (h : OneIn w W g a b c) (v : Int) : OneIn w (W.setCell ⟨g + 1, 0, none⟩ (.int .i64 v)) g v b c := ⟨h.r.other (by omega) _ _, h.t.set0 v, h.bl.setCell (p := ⟨g + 1, 0, none⟩) (Nat.le_succ _) _⟩
theorem OneIn.text {w W : World} {g : Nat} {a b : Int} {c : List UInt8} (h : OneIn w W g a b c) (v : List UInt8) : OneIn w (W.setCell ⟨g + 1, 2, none⟩ (.string ⟨v.toArray⟩)) g a b v := ⟨h.r.other (by omega) _ _, h.t.set2 v, h.bl.setCell (p := ⟨g + 1, 2, none⟩) (Nat.le_succ _) _⟩
theorem OneIn.text' {w W : World} {g : Nat} {a b : Int} {c : List UInt8} (h : OneIn w W g a b c) {x : ByteArray} {v : List UInt8} (hx : x = ⟨v.toArray⟩) : OneIn w (W.setCell ⟨g + 1, 2, none⟩ (.string x)) g a b v := by rw [hx]; exact h.text v
theorem resRead9 {W : World} {r : Nat} {a b k e : Int} {c : List UInt8} {tmps : Array Value} (h : TB W r a b c) (h4 : tmps[4]?.getD undef = .pointer (some ⟨r, 0, none⟩)) (h5 : tmps[5]?.getD undef = .int .i64 k) (h6 : tmps[6]?.getD undef = .int .i64 e) :
    (results Try.f60 tmps).run Try.prog W = .ok (.tuple #[.agg #[.int .i64 a, .int .i64 b, .string ⟨c.toArray⟩], .int .i64 k, .int .i64 e]) W := by
  obtain ⟨c0, c1, c2, _⟩ := h
  simp [results, Try.results60, go_sem, h4, h5, h6, c0, c1, c2]

theorem run_end (f : UInt8 → Bool) (s : List UInt8) (k : Nat) (h : s.length ≤ k) : ((s.drop k).takeWhile f).length = 0 := by rw [List.drop_eq_nil_of_le h]; rfl
theorem run_on {f : UInt8 → Bool} {s : List UInt8} {k : Nat} (h : k < (⟨s.toArray⟩ : ByteArray).size) (hf : f (⟨s.toArray⟩ : ByteArray)[k] = true) : ((s.drop k).takeWhile f).length = 1 + ((s.drop (k + 1)).takeWhile f).length := by
  rw [drop_at s k h, List.takeWhile_cons, if_pos hf, List.length_cons]; omega
theorem run_stop {f : UInt8 → Bool} {s : List UInt8} {k : Nat} (h : k < (⟨s.toArray⟩ : ByteArray).size) (hf : f (⟨s.toArray⟩ : ByteArray)[k] = false) : ((s.drop k).takeWhile f).length = 0 := by
  rw [drop_at s k h, List.takeWhile_cons, if_neg (by simp [hf])]; rfl
theorem run_text (f : UInt8 → Bool) (s : List UInt8) (i k : Nat) (hk : k = i + ((s.drop i).takeWhile f).length) : (⟨s.toArray⟩ : ByteArray).extract i k = ⟨((s.drop i).takeWhile f).toArray⟩ := by
  refine dataEq ?_
  rw [Lib.extract_data]
  obtain ⟨r, hr⟩ := List.takeWhile_prefix f (l := s.drop i)
  simp only
  rw [hk, show i + ((s.drop i).takeWhile f).length - i = ((s.drop i).takeWhile f).length by omega]
  generalize (s.drop i).takeWhile f = t at *
  rw [← hr, List.take_left]
theorem one_byte (s : List UInt8) (i : Nat) (h : i < (⟨s.toArray⟩ : ByteArray).size) : (⟨s.toArray⟩ : ByteArray).extract i (i + 1) = ⟨[(⟨s.toArray⟩ : ByteArray)[i]].toArray⟩ := by
  refine dataEq ?_
  rw [Lib.extract_data]
  simp only
  rw [drop_at s i h, show i + 1 - i = 1 by omega]
  rfl
theorem one_drop {s : List UInt8} {i : Nat} (h : i < (⟨s.toArray⟩ : ByteArray).size) : oneS (s.drop i) = oneC (⟨s.toArray⟩ : ByteArray)[i] (s.drop (i + 1)) := by rw [drop_at s i h]; rfl
def OnePost (s : List UInt8) (i : Nat) (w : World) (e : Ending) (w' : World) : Prop :=
  ∃ (a b : Int) (tx : List UInt8) (k : Nat), e = .returned (.tuple #[.agg #[.int .i64 a, .int .i64 b, .string ⟨tx.toArray⟩], .int .i64 k, .int .i64 ((oneS (s.drop i)).code : Int)]) ∧
    ((oneS (s.drop i)).code = 0 → a = ((oneS (s.drop i)).kind : Int) ∧ b = (i : Int) ∧ tx = (oneS (s.drop i)).text ∧ k = i + (oneS (s.drop i)).len) ∧ Below w.heap.size w w'
theorem one_good {s : List UInt8} {i : Nat} {w W : World} {a b k : Nat} {tx : List UInt8} {o : One} (ho : oneS (s.drop i) = o) (hX : Below w.heap.size w W) (ha : a = o.kind) (hb : b = i) (ht : tx = o.text) (hk : k = i + o.len) (hc : o.code = 0) :
    OnePost s i w (.returned (.tuple #[.agg #[.int .i64 (a : Int), .int .i64 (b : Int), .string ⟨tx.toArray⟩], .int .i64 (k : Int), .int .i64 0])) W :=
  ⟨a, b, tx, k, by rw [ho, hc]; rfl, fun _ => ⟨by rw [ha, ho], by rw [hb], by rw [ht, ho], by rw [hk, ho]⟩, hX⟩
theorem one_wrong {s : List UInt8} {i : Nat} {w W : World} {a b : Int} {k : Nat} {tx : List UInt8} {o : One} {c : Nat} (ho : oneS (s.drop i) = o) (hX : Below w.heap.size w W) (hc : o.code = c) (hc0 : c ≠ 0) :
    OnePost s i w (.returned (.tuple #[.agg #[.int .i64 a, .int .i64 b, .string ⟨tx.toArray⟩], .int .i64 (k : Int), .int .i64 (c : Int)])) W :=
  ⟨a, b, tx, k, by rw [ho, hc], fun h => absurd (by rw [ho, hc] at h; exact h) hc0, hX⟩

set_option maxHeartbeats 4000000 in
set_option maxRecDepth 100000 in
theorem refOne_any (s : List UInt8) (i : Nat) (hi : i < s.length) (w : World) (hs : s.length < 4294967281) :
    Calls Try.prog 60 #[.string ⟨s.toArray⟩, .int .i64 i] w fun e w' => OnePost s i w e w' := by
  have hiB : i < (⟨s.toArray⟩ : ByteArray).size := by rw [size_mk]; exact hi
  have hiI : (i : Int) < (s.length : Int) := by omega
  have HO := hide (one_drop hiB)
  have hc0 : (⟨s.toArray⟩ : ByteArray)[i].toNat < 256 := (⟨s.toArray⟩ : ByteArray)[i].toNat_lt
  have HC := hide hc0
  go_enter Try.func60, Try.ntmps60
  go_upto_region 2 with fail
  obtain ⟨g, hg⟩ : ∃ g, g = w.heap.size := ⟨_, rfl⟩
  have HG := hide hg
  obtain ⟨W0, hW0⟩ : ∃ W0, W0 = (w.alloc (Obj.cells #[.int .i64 0, .int .i64 0, .string ⟨#[]⟩] 39)).alloc (Obj.cells #[.int .i64 0, .int .i64 i, .string ⟨#[]⟩] 39) := ⟨_, rfl⟩
  rw [← hW0, ← hg]
  have X0 : Hid (OneIn w W0 g 0 i []) := by
    have hs1 : (w.alloc (Obj.cells #[.int .i64 0, .int .i64 0, .string ⟨#[]⟩] 39)).heap.size = g + 1 := by rw [World.size_alloc, hg]
    have t1 := TB.new (w.alloc (Obj.cells #[.int .i64 0, .int .i64 0, .string ⟨#[]⟩] 39)) 0 i [] 39
    rw [hs1] at t1
    rw [hW0]
    exact ⟨by have := (TB.new w 0 0 [] 39).keep ((Below.refl _ _).alloc (Nat.le_refl _) (Obj.cells #[.int .i64 0, .int .i64 i, .string ⟨#[]⟩] 39)); rw [← hg] at this; exact this, t1, by rw [hg]; exact ((Below.refl _ _).alloc (Nat.le_refl _) _).alloc (by simp) _⟩
  clear hW0 hg hc0
  go_upto_region 12 with fail
  cases h1 : smallB (⟨s.toArray⟩ : ByteArray)[i] with
  | true =>
    obtain ⟨T, hT⟩ : ∃ T, T = (s.drop i).takeWhile nameB9 := ⟨_, rfl⟩
    have HO0 : Hid (oneS (s.drop i) = ⟨if 20 < T.length then 6 else 0, if wordS T then 2 else 1, T, T.length⟩) := by
      unfold Hid; rw [HO.out, oneC_small _ h1, hT, drop_at s i hiB]
    have HTl : Hid (i + T.length = i + ((s.drop i).takeWhile nameB9).length) := by unfold Hid; rw [hT]
    have HTx : Hid (∀ k, k = i + T.length → (⟨s.toArray⟩ : ByteArray).extract i k = ⟨T.toArray⟩) := fun k hk => by rw [hT] at hk ⊢; exact run_text nameB9 s i k hk
    have HLe : T.length ≤ s.length - i := by
      have := takeWhile_le nameB9 (s.drop i)
      rw [List.length_drop] at this; rw [hT]; exact this
    clear hT HO
    go_wp2_with (go_at_call 76; refine (refSmall_any _ _).mono ?_; rintro e w' ⟨rfl, hw'⟩; rw [hw', h1])
    go_loop [8] (fun kv => ∃ k : Nat, i ≤ k ∧ k ≤ s.length ∧ kv = .int .i64 k ∧ Hid (i + T.length = k + ((s.drop k).takeWhile nameB9).length)) (fun kv => s.length - (intOf kv).toNat)
    case atStart => exact ⟨i, Nat.le_refl _, by omega, rfl, HTl⟩
    case round =>
      obtain ⟨k, hik0, hk, rfl, hE⟩ := hrel
      by_cases hlt : k < s.length
      · have hlI : (k : Int) < (s.length : Int) := by omega
        have hkB : k < (⟨s.toArray⟩ : ByteArray).size := by rw [size_mk]; exact hlt
        have hc : (⟨s.toArray⟩ : ByteArray)[k].toNat < 256 := (⟨s.toArray⟩ : ByteArray)[k].toNat_lt
        cases hn : nameB9 (⟨s.toArray⟩ : ByteArray)[k] with
        | true =>
          have HN : Hid (i + T.length = (k + 1) + ((s.drop (k + 1)).takeWhile nameB9).length) := by unfold Hid; rw [hE.out, run_on hkB hn]; omega
          have h3 : smallB (⟨s.toArray⟩ : ByteArray)[k] = true ∨ (smallB (⟨s.toArray⟩ : ByteArray)[k] = false ∧ 48 ≤ (⟨s.toArray⟩ : ByteArray)[k].toNat ∧ (⟨s.toArray⟩ : ByteArray)[k].toNat ≤ 57) ∨ (smallB (⟨s.toArray⟩ : ByteArray)[k] = false ∧ (⟨s.toArray⟩ : ByteArray)[k].toNat = 95) := by
            unfold nameB9 at hn
            cases hs1 : smallB (⟨s.toArray⟩ : ByteArray)[k] with
            | true => exact .inl rfl
            | false => rw [hs1] at hn; simp at hn; rcases hn with hn | hn; exact .inr (.inl ⟨rfl, hn⟩); exact .inr (.inr ⟨rfl, hn⟩)
          clear hn hE
          rcases h3 with h2 | ⟨h2, h3, h4⟩ | ⟨h2, h3⟩
          · go_wp2_with (go_at_call 76; refine (refSmall_any _ _).mono ?_; rintro e w' ⟨rfl, hw'⟩; rw [hw', h2])
            go_round
            case rel => exact ⟨k + 1, by omega, by omega, by go_num, HN⟩
            case measure => simp [intOf]; omega
          · have i3 : (48 : Int) ≤ ((⟨s.toArray⟩ : ByteArray)[k].toNat : Int) := by omega
            have i4 : ((⟨s.toArray⟩ : ByteArray)[k].toNat : Int) ≤ 57 := by omega
            clear h3 h4
            go_wp2_with (go_at_call 76; refine (refSmall_any _ _).mono ?_; rintro e w' ⟨rfl, hw'⟩; rw [hw', h2])
            go_round
            case rel => exact ⟨k + 1, by omega, by omega, by go_num, HN⟩
            case measure => simp [intOf]; omega
          · have i3 : (48 : Int) ≤ ((⟨s.toArray⟩ : ByteArray)[k].toNat : Int) := by omega
            have i4 : ¬ ((⟨s.toArray⟩ : ByteArray)[k].toNat : Int) ≤ 57 := by omega
            have i5 : (((⟨s.toArray⟩ : ByteArray)[k].toNat : Int) == 95) = true := beq_iff_eq.2 (by omega)
            clear h3
            go_wp2_with (go_at_call 76; refine (refSmall_any _ _).mono ?_; rintro e w' ⟨rfl, hw'⟩; rw [hw', h2])
            go_round
            case rel => exact ⟨k + 1, by omega, by omega, by go_num, HN⟩
            case measure => simp [intOf]; omega
        | false =>
          have hke : Hid (k = i + T.length) := by unfold Hid; rw [hE.out, run_stop hkB hn]; rfl
          have h2 : smallB (⟨s.toArray⟩ : ByteArray)[k] = false := by
            cases hs1 : smallB (⟨s.toArray⟩ : ByteArray)[k] with
            | true => rw [small_name hs1] at hn; cases hn
            | false => rfl
          have h5 : ¬ (⟨s.toArray⟩ : ByteArray)[k].toNat = 95 ∧ ((⟨s.toArray⟩ : ByteArray)[k].toNat < 48 ∨ 57 < (⟨s.toArray⟩ : ByteArray)[k].toNat) := by
            unfold nameB9 at hn; rw [h2] at hn; simp at hn; omega
          have i5 : (((⟨s.toArray⟩ : ByteArray)[k].toNat : Int) == 95) = false := beq_eq_false_iff_ne.2 (by omega)
          obtain ⟨h6, h5⟩ := h5
          clear hn hE h6
          rcases h5 with h5 | h5
          · have i3 : ¬ (48 : Int) ≤ ((⟨s.toArray⟩ : ByteArray)[k].toNat : Int) := by omega
            have c0 := X0.out.t.c0
            have c1 := X0.out.t.c1
            have c2 := X0.out.t.c2
            have q0 := X0.out.t.fr 0 (by decide)
            have q2 := X0.out.t.fr 2 (by decide)
            have hgl := X0.out.t.lt
            have hx : (⟨s.toArray⟩ : ByteArray).extract i k = ⟨T.toArray⟩ := HTx.out k hke.out
            have hik : (i : Int) ≤ (k : Int) := by omega
            have hkl : (k : Int) ≤ (s.length : Int) := by omega
            go_upto_region 15 with (go_at_call 76; refine (refSmall_any _ _).mono ?_; rintro e w' ⟨rfl, hw'⟩; rw [hw', h2])
            go_cut [8] (fun v W => v = .int .i64 ((i + T.length : Nat) : Int) ∧ Hid (OneIn w W g 1 i T))
            case first => as_aux_lemma =>
              clear HO0 HTl HTx HG HC
              go_region
              all_goals go_wp2_with fail
              all_goals go_meet
              all_goals (case rel => exact ⟨by rw [← hke.out], by first | (rw [← hx]; exact (X0.out.drew.kind 1).text' hx) | exact (X0.out.drew.text' hx).kind 1⟩)
            case rest =>
            obtain ⟨rfl, X1⟩ := hcut
            clear X0 c0 c1 c2 q0 q2 hgl hx hke hik hkl HTx HTl

            have c2 := X1.out.t.c2
            have hgl := X1.out.t.lt
            go_wp2_with fail
            refine (refWord_any T _).mono ?_
            rintro e W2 ⟨rfl, hb2⟩
            have X2 : Hid (OneIn w W2 g 1 i T) := X1.out.keep hb2
            clear hb2 X1 c2 hgl
            cases hw : wordS T with
            | true =>
              have q0 := X2.out.t.fr 0 (by decide)
              have c0 := X2.out.t.c0
              have hgl := X2.out.t.lt
              go_upto_region 30 with fail
              obtain ⟨W3, hW3⟩ : ∃ W3, W3 = W2.setCell ⟨g + 1, 0, none⟩ (.int .i64 2) := ⟨_, rfl⟩
              rw [← hW3]
              have X3 : Hid (OneIn w W3 g 2 i T) := by unfold Hid; rw [hW3]; exact X2.out.kind 2
              clear hW3 X2 q0 c0 hgl
              have c0 := X3.out.t.c0
              have c2 := X3.out.t.c2
              have r0 := X3.out.r.c0
              have r1 := X3.out.r.c1
              have r2 := X3.out.r.c2
              have q0 := X3.out.r.fr 0 (by decide)
              have q1 := X3.out.r.fr 1 (by decide)
              have q2 := X3.out.r.fr 2 (by decide)
              have cc1 := X3.out.t.c1
              have hgl := X3.out.t.lt
              have hgl2 := X3.out.r.lt

              by_cases hlong : 20 < T.length
              · have hlI : (20 : Int) < (T.length : Int) := by omega
                have HO1 : Hid (oneS (s.drop i) = ⟨6, 2, T, T.length⟩) := by unfold Hid; rw [HO0.out, if_pos hlong, hw]; rfl
                have HP : Hid (TB (put3 W3 g 2 i T) g 2 i T) := X3.out.r.put _ _ _
                have HB : Hid (Below w.heap.size w (put3 W3 g 2 i T)) := by unfold Hid; rw [← HG.out]; exact put3_below X3.out.bl g (Nat.le_refl _) _ _ _
                unfold put3 at HP HB
                go_wp2_with fail
                refine bodyPost_ret (v := .tuple #[.agg #[.int .i64 2, .int .i64 i, .string ⟨T.toArray⟩], .int .i64 ((i + T.length : Nat) : Int), .int .i64 6]) ?_ rfl ?_
                · exact resRead9 HP.out rfl rfl rfl
                · exact one_wrong (c := 6) (k := i + T.length) HO1.out HB.out rfl (by decide)

              · have hlI : ¬ (20 : Int) < (T.length : Int) := by omega
                have HO1 : Hid (oneS (s.drop i) = ⟨0, 2, T, T.length⟩) := by unfold Hid; rw [HO0.out, if_neg hlong, hw]; rfl
                have HP : Hid (TB (put3 W3 g 2 i T) g 2 i T) := X3.out.r.put _ _ _
                have HB : Hid (Below w.heap.size w (put3 W3 g 2 i T)) := by unfold Hid; rw [← HG.out]; exact put3_below X3.out.bl g (Nat.le_refl _) _ _ _
                unfold put3 at HP HB
                go_wp2_with fail
                refine bodyPost_ret (v := .tuple #[.agg #[.int .i64 2, .int .i64 i, .string ⟨T.toArray⟩], .int .i64 ((i + T.length : Nat) : Int), .int .i64 0]) ?_ rfl ?_
                · exact resRead9 HP.out rfl rfl rfl
                · exact one_good (a := 2) (b := i) (k := i + T.length) HO1.out HB.out rfl rfl rfl rfl rfl

            | false =>
              have X3 := X2
              clear X2
              go_upto_region 30 with fail
              have c0 := X3.out.t.c0
              have c2 := X3.out.t.c2
              have r0 := X3.out.r.c0
              have r1 := X3.out.r.c1
              have r2 := X3.out.r.c2
              have q0 := X3.out.r.fr 0 (by decide)
              have q1 := X3.out.r.fr 1 (by decide)
              have q2 := X3.out.r.fr 2 (by decide)
              have cc1 := X3.out.t.c1
              have hgl := X3.out.t.lt
              have hgl2 := X3.out.r.lt

              by_cases hlong : 20 < T.length
              · have hlI : (20 : Int) < (T.length : Int) := by omega
                have HO1 : Hid (oneS (s.drop i) = ⟨6, 1, T, T.length⟩) := by unfold Hid; rw [HO0.out, if_pos hlong, hw]; rfl
                have HP : Hid (TB (put3 W2 g 1 i T) g 1 i T) := X3.out.r.put _ _ _
                have HB : Hid (Below w.heap.size w (put3 W2 g 1 i T)) := by unfold Hid; rw [← HG.out]; exact put3_below X3.out.bl g (Nat.le_refl _) _ _ _
                unfold put3 at HP HB
                go_wp2_with fail
                refine bodyPost_ret (v := .tuple #[.agg #[.int .i64 1, .int .i64 i, .string ⟨T.toArray⟩], .int .i64 ((i + T.length : Nat) : Int), .int .i64 6]) ?_ rfl ?_
                · exact resRead9 HP.out rfl rfl rfl
                · exact one_wrong (c := 6) (k := i + T.length) HO1.out HB.out rfl (by decide)

              · have hlI : ¬ (20 : Int) < (T.length : Int) := by omega
                have HO1 : Hid (oneS (s.drop i) = ⟨0, 1, T, T.length⟩) := by unfold Hid; rw [HO0.out, if_neg hlong, hw]; rfl
                have HP : Hid (TB (put3 W2 g 1 i T) g 1 i T) := X3.out.r.put _ _ _
                have HB : Hid (Below w.heap.size w (put3 W2 g 1 i T)) := by unfold Hid; rw [← HG.out]; exact put3_below X3.out.bl g (Nat.le_refl _) _ _ _
                unfold put3 at HP HB
                go_wp2_with fail
                refine bodyPost_ret (v := .tuple #[.agg #[.int .i64 1, .int .i64 i, .string ⟨T.toArray⟩], .int .i64 ((i + T.length : Nat) : Int), .int .i64 0]) ?_ rfl ?_
                · exact resRead9 HP.out rfl rfl rfl
                · exact one_good (a := 1) (b := i) (k := i + T.length) HO1.out HB.out rfl rfl rfl rfl rfl

          · have i3 : (48 : Int) ≤ ((⟨s.toArray⟩ : ByteArray)[k].toNat : Int) := by omega
            have i4 : ¬ ((⟨s.toArray⟩ : ByteArray)[k].toNat : Int) ≤ 57 := by omega
            have c0 := X0.out.t.c0
            have c1 := X0.out.t.c1
            have c2 := X0.out.t.c2
            have q0 := X0.out.t.fr 0 (by decide)
            have q2 := X0.out.t.fr 2 (by decide)
            have hgl := X0.out.t.lt
            have hx : (⟨s.toArray⟩ : ByteArray).extract i k = ⟨T.toArray⟩ := HTx.out k hke.out
            have hik : (i : Int) ≤ (k : Int) := by omega
            have hkl : (k : Int) ≤ (s.length : Int) := by omega
            go_upto_region 15 with (go_at_call 76; refine (refSmall_any _ _).mono ?_; rintro e w' ⟨rfl, hw'⟩; rw [hw', h2])
            go_cut [8] (fun v W => v = .int .i64 ((i + T.length : Nat) : Int) ∧ Hid (OneIn w W g 1 i T))
            case first => as_aux_lemma =>
              clear HO0 HTl HTx HG HC
              go_region
              all_goals go_wp2_with fail
              all_goals go_meet
              all_goals (case rel => exact ⟨by rw [← hke.out], by first | (rw [← hx]; exact (X0.out.drew.kind 1).text' hx) | exact (X0.out.drew.text' hx).kind 1⟩)
            case rest =>
            obtain ⟨rfl, X1⟩ := hcut
            clear X0 c0 c1 c2 q0 q2 hgl hx hke hik hkl HTx HTl

            have c2 := X1.out.t.c2
            have hgl := X1.out.t.lt
            go_wp2_with fail
            refine (refWord_any T _).mono ?_
            rintro e W2 ⟨rfl, hb2⟩
            have X2 : Hid (OneIn w W2 g 1 i T) := X1.out.keep hb2
            clear hb2 X1 c2 hgl
            cases hw : wordS T with
            | true =>
              have q0 := X2.out.t.fr 0 (by decide)
              have c0 := X2.out.t.c0
              have hgl := X2.out.t.lt
              go_upto_region 30 with fail
              obtain ⟨W3, hW3⟩ : ∃ W3, W3 = W2.setCell ⟨g + 1, 0, none⟩ (.int .i64 2) := ⟨_, rfl⟩
              rw [← hW3]
              have X3 : Hid (OneIn w W3 g 2 i T) := by unfold Hid; rw [hW3]; exact X2.out.kind 2
              clear hW3 X2 q0 c0 hgl
              have c0 := X3.out.t.c0
              have c2 := X3.out.t.c2
              have r0 := X3.out.r.c0
              have r1 := X3.out.r.c1
              have r2 := X3.out.r.c2
              have q0 := X3.out.r.fr 0 (by decide)
              have q1 := X3.out.r.fr 1 (by decide)
              have q2 := X3.out.r.fr 2 (by decide)
              have cc1 := X3.out.t.c1
              have hgl := X3.out.t.lt
              have hgl2 := X3.out.r.lt

              by_cases hlong : 20 < T.length
              · have hlI : (20 : Int) < (T.length : Int) := by omega
                have HO1 : Hid (oneS (s.drop i) = ⟨6, 2, T, T.length⟩) := by unfold Hid; rw [HO0.out, if_pos hlong, hw]; rfl
                have HP : Hid (TB (put3 W3 g 2 i T) g 2 i T) := X3.out.r.put _ _ _
                have HB : Hid (Below w.heap.size w (put3 W3 g 2 i T)) := by unfold Hid; rw [← HG.out]; exact put3_below X3.out.bl g (Nat.le_refl _) _ _ _
                unfold put3 at HP HB
                go_wp2_with fail
                refine bodyPost_ret (v := .tuple #[.agg #[.int .i64 2, .int .i64 i, .string ⟨T.toArray⟩], .int .i64 ((i + T.length : Nat) : Int), .int .i64 6]) ?_ rfl ?_
                · exact resRead9 HP.out rfl rfl rfl
                · exact one_wrong (c := 6) (k := i + T.length) HO1.out HB.out rfl (by decide)

              · have hlI : ¬ (20 : Int) < (T.length : Int) := by omega
                have HO1 : Hid (oneS (s.drop i) = ⟨0, 2, T, T.length⟩) := by unfold Hid; rw [HO0.out, if_neg hlong, hw]; rfl
                have HP : Hid (TB (put3 W3 g 2 i T) g 2 i T) := X3.out.r.put _ _ _
                have HB : Hid (Below w.heap.size w (put3 W3 g 2 i T)) := by unfold Hid; rw [← HG.out]; exact put3_below X3.out.bl g (Nat.le_refl _) _ _ _
                unfold put3 at HP HB
                go_wp2_with fail
                refine bodyPost_ret (v := .tuple #[.agg #[.int .i64 2, .int .i64 i, .string ⟨T.toArray⟩], .int .i64 ((i + T.length : Nat) : Int), .int .i64 0]) ?_ rfl ?_
                · exact resRead9 HP.out rfl rfl rfl
                · exact one_good (a := 2) (b := i) (k := i + T.length) HO1.out HB.out rfl rfl rfl rfl rfl

            | false =>
              have X3 := X2
              clear X2
              go_upto_region 30 with fail
              have c0 := X3.out.t.c0
              have c2 := X3.out.t.c2
              have r0 := X3.out.r.c0
              have r1 := X3.out.r.c1
              have r2 := X3.out.r.c2
              have q0 := X3.out.r.fr 0 (by decide)
              have q1 := X3.out.r.fr 1 (by decide)
              have q2 := X3.out.r.fr 2 (by decide)
              have cc1 := X3.out.t.c1
              have hgl := X3.out.t.lt
              have hgl2 := X3.out.r.lt

              by_cases hlong : 20 < T.length
              · have hlI : (20 : Int) < (T.length : Int) := by omega
                have HO1 : Hid (oneS (s.drop i) = ⟨6, 1, T, T.length⟩) := by unfold Hid; rw [HO0.out, if_pos hlong, hw]; rfl
                have HP : Hid (TB (put3 W2 g 1 i T) g 1 i T) := X3.out.r.put _ _ _
                have HB : Hid (Below w.heap.size w (put3 W2 g 1 i T)) := by unfold Hid; rw [← HG.out]; exact put3_below X3.out.bl g (Nat.le_refl _) _ _ _
                unfold put3 at HP HB
                go_wp2_with fail
                refine bodyPost_ret (v := .tuple #[.agg #[.int .i64 1, .int .i64 i, .string ⟨T.toArray⟩], .int .i64 ((i + T.length : Nat) : Int), .int .i64 6]) ?_ rfl ?_
                · exact resRead9 HP.out rfl rfl rfl
                · exact one_wrong (c := 6) (k := i + T.length) HO1.out HB.out rfl (by decide)

              · have hlI : ¬ (20 : Int) < (T.length : Int) := by omega
                have HO1 : Hid (oneS (s.drop i) = ⟨0, 1, T, T.length⟩) := by unfold Hid; rw [HO0.out, if_neg hlong, hw]; rfl
                have HP : Hid (TB (put3 W2 g 1 i T) g 1 i T) := X3.out.r.put _ _ _
                have HB : Hid (Below w.heap.size w (put3 W2 g 1 i T)) := by unfold Hid; rw [← HG.out]; exact put3_below X3.out.bl g (Nat.le_refl _) _ _ _
                unfold put3 at HP HB
                go_wp2_with fail
                refine bodyPost_ret (v := .tuple #[.agg #[.int .i64 1, .int .i64 i, .string ⟨T.toArray⟩], .int .i64 ((i + T.length : Nat) : Int), .int .i64 0]) ?_ rfl ?_
                · exact resRead9 HP.out rfl rfl rfl
                · exact one_good (a := 1) (b := i) (k := i + T.length) HO1.out HB.out rfl rfl rfl rfl rfl

      · have hke : Hid (k = i + T.length) := by unfold Hid; rw [hE.out, run_end nameB9 s k (by omega)]; rfl
        clear hE
        have c0 := X0.out.t.c0
        have c1 := X0.out.t.c1
        have c2 := X0.out.t.c2
        have q0 := X0.out.t.fr 0 (by decide)
        have q2 := X0.out.t.fr 2 (by decide)
        have hgl := X0.out.t.lt
        have hx : (⟨s.toArray⟩ : ByteArray).extract i k = ⟨T.toArray⟩ := HTx.out k hke.out
        have hik : (i : Int) ≤ (k : Int) := by omega
        have hkl : (k : Int) ≤ (s.length : Int) := by omega
        go_upto_region 15 with fail
        go_cut [8] (fun v W => v = .int .i64 ((i + T.length : Nat) : Int) ∧ Hid (OneIn w W g 1 i T))
        case first => as_aux_lemma =>
          clear HO0 HTl HTx HG HC
          go_region
          all_goals go_wp2_with fail
          all_goals go_meet
          all_goals (case rel => exact ⟨by rw [← hke.out], by first | (rw [← hx]; exact (X0.out.drew.kind 1).text' hx) | exact (X0.out.drew.text' hx).kind 1⟩)
        case rest =>
        obtain ⟨rfl, X1⟩ := hcut
        clear X0 c0 c1 c2 q0 q2 hgl hx hke hik hkl HTx HTl

        have c2 := X1.out.t.c2
        have hgl := X1.out.t.lt
        go_wp2_with fail
        refine (refWord_any T _).mono ?_
        rintro e W2 ⟨rfl, hb2⟩
        have X2 : Hid (OneIn w W2 g 1 i T) := X1.out.keep hb2
        clear hb2 X1 c2 hgl
        cases hw : wordS T with
        | true =>
          have q0 := X2.out.t.fr 0 (by decide)
          have c0 := X2.out.t.c0
          have hgl := X2.out.t.lt
          go_upto_region 30 with fail
          obtain ⟨W3, hW3⟩ : ∃ W3, W3 = W2.setCell ⟨g + 1, 0, none⟩ (.int .i64 2) := ⟨_, rfl⟩
          rw [← hW3]
          have X3 : Hid (OneIn w W3 g 2 i T) := by unfold Hid; rw [hW3]; exact X2.out.kind 2
          clear hW3 X2 q0 c0 hgl
          have c0 := X3.out.t.c0
          have c2 := X3.out.t.c2
          have r0 := X3.out.r.c0
          have r1 := X3.out.r.c1
          have r2 := X3.out.r.c2
          have q0 := X3.out.r.fr 0 (by decide)
          have q1 := X3.out.r.fr 1 (by decide)
          have q2 := X3.out.r.fr 2 (by decide)
          have cc1 := X3.out.t.c1
          have hgl := X3.out.t.lt
          have hgl2 := X3.out.r.lt

          by_cases hlong : 20 < T.length
          · have hlI : (20 : Int) < (T.length : Int) := by omega
            have HO1 : Hid (oneS (s.drop i) = ⟨6, 2, T, T.length⟩) := by unfold Hid; rw [HO0.out, if_pos hlong, hw]; rfl
            have HP : Hid (TB (put3 W3 g 2 i T) g 2 i T) := X3.out.r.put _ _ _
            have HB : Hid (Below w.heap.size w (put3 W3 g 2 i T)) := by unfold Hid; rw [← HG.out]; exact put3_below X3.out.bl g (Nat.le_refl _) _ _ _
            unfold put3 at HP HB
            go_wp2_with fail
            refine bodyPost_ret (v := .tuple #[.agg #[.int .i64 2, .int .i64 i, .string ⟨T.toArray⟩], .int .i64 ((i + T.length : Nat) : Int), .int .i64 6]) ?_ rfl ?_
            · exact resRead9 HP.out rfl rfl rfl
            · exact one_wrong (c := 6) (k := i + T.length) HO1.out HB.out rfl (by decide)

          · have hlI : ¬ (20 : Int) < (T.length : Int) := by omega
            have HO1 : Hid (oneS (s.drop i) = ⟨0, 2, T, T.length⟩) := by unfold Hid; rw [HO0.out, if_neg hlong, hw]; rfl
            have HP : Hid (TB (put3 W3 g 2 i T) g 2 i T) := X3.out.r.put _ _ _
            have HB : Hid (Below w.heap.size w (put3 W3 g 2 i T)) := by unfold Hid; rw [← HG.out]; exact put3_below X3.out.bl g (Nat.le_refl _) _ _ _
            unfold put3 at HP HB
            go_wp2_with fail
            refine bodyPost_ret (v := .tuple #[.agg #[.int .i64 2, .int .i64 i, .string ⟨T.toArray⟩], .int .i64 ((i + T.length : Nat) : Int), .int .i64 0]) ?_ rfl ?_
            · exact resRead9 HP.out rfl rfl rfl
            · exact one_good (a := 2) (b := i) (k := i + T.length) HO1.out HB.out rfl rfl rfl rfl rfl

        | false =>
          have X3 := X2
          clear X2
          go_upto_region 30 with fail
          have c0 := X3.out.t.c0
          have c2 := X3.out.t.c2
          have r0 := X3.out.r.c0
          have r1 := X3.out.r.c1
          have r2 := X3.out.r.c2
          have q0 := X3.out.r.fr 0 (by decide)
          have q1 := X3.out.r.fr 1 (by decide)
          have q2 := X3.out.r.fr 2 (by decide)
          have cc1 := X3.out.t.c1
          have hgl := X3.out.t.lt
          have hgl2 := X3.out.r.lt

          by_cases hlong : 20 < T.length
          · have hlI : (20 : Int) < (T.length : Int) := by omega
            have HO1 : Hid (oneS (s.drop i) = ⟨6, 1, T, T.length⟩) := by unfold Hid; rw [HO0.out, if_pos hlong, hw]; rfl
            have HP : Hid (TB (put3 W2 g 1 i T) g 1 i T) := X3.out.r.put _ _ _
            have HB : Hid (Below w.heap.size w (put3 W2 g 1 i T)) := by unfold Hid; rw [← HG.out]; exact put3_below X3.out.bl g (Nat.le_refl _) _ _ _
            unfold put3 at HP HB
            go_wp2_with fail
            refine bodyPost_ret (v := .tuple #[.agg #[.int .i64 1, .int .i64 i, .string ⟨T.toArray⟩], .int .i64 ((i + T.length : Nat) : Int), .int .i64 6]) ?_ rfl ?_
            · exact resRead9 HP.out rfl rfl rfl
            · exact one_wrong (c := 6) (k := i + T.length) HO1.out HB.out rfl (by decide)

          · have hlI : ¬ (20 : Int) < (T.length : Int) := by omega
            have HO1 : Hid (oneS (s.drop i) = ⟨0, 1, T, T.length⟩) := by unfold Hid; rw [HO0.out, if_neg hlong, hw]; rfl
            have HP : Hid (TB (put3 W2 g 1 i T) g 1 i T) := X3.out.r.put _ _ _
            have HB : Hid (Below w.heap.size w (put3 W2 g 1 i T)) := by unfold Hid; rw [← HG.out]; exact put3_below X3.out.bl g (Nat.le_refl _) _ _ _
            unfold put3 at HP HB
            go_wp2_with fail
            refine bodyPost_ret (v := .tuple #[.agg #[.int .i64 1, .int .i64 i, .string ⟨T.toArray⟩], .int .i64 ((i + T.length : Nat) : Int), .int .i64 0]) ?_ rfl ?_
            · exact resRead9 HP.out rfl rfl rfl
            · exact one_good (a := 1) (b := i) (k := i + T.length) HO1.out HB.out rfl rfl rfl rfl rfl

  | false =>
    cases h2 : capB (⟨s.toArray⟩ : ByteArray)[i] with
    | true =>
      obtain ⟨T, hT⟩ : ∃ T, T = (s.drop i).takeWhile capB := ⟨_, rfl⟩
      have HO0 : Hid (oneS (s.drop i) = ⟨if 20 < T.length then 6 else 0, 5, T, T.length⟩) := by
        unfold Hid; rw [HO.out, oneC_cap _ h1 h2, hT, drop_at s i hiB]
      have HTl : Hid (i + T.length = i + ((s.drop i).takeWhile capB).length) := by unfold Hid; rw [hT]
      have HTx : Hid (∀ k, k = i + T.length → (⟨s.toArray⟩ : ByteArray).extract i k = ⟨T.toArray⟩) := fun k hk => by rw [hT] at hk ⊢; exact run_text capB s i k hk
      have HLe : T.length ≤ s.length - i := by
        have := takeWhile_le capB (s.drop i)
        rw [List.length_drop] at this; rw [hT]; exact this
      clear hT HO
      go_wp2_with (first | (go_at_call 76; refine (refSmall_any _ _).mono ?_; rintro e w' ⟨rfl, hw'⟩; rw [hw', h1]) | (go_at_call 78; refine (refCaps_any _ _).mono ?_; rintro e w' ⟨rfl, hw'⟩; rw [hw', h2]))
      go_loop [8] (fun kv => ∃ k : Nat, i ≤ k ∧ k ≤ s.length ∧ kv = .int .i64 k ∧ Hid (i + T.length = k + ((s.drop k).takeWhile capB).length)) (fun kv => s.length - (intOf kv).toNat)
      case atStart => exact ⟨i, Nat.le_refl _, by omega, rfl, HTl⟩
      case round =>
        obtain ⟨k, hik0, hk, rfl, hE⟩ := hrel
        by_cases hlt : k < s.length
        · have hlI : (k : Int) < (s.length : Int) := by omega
          have hkB : k < (⟨s.toArray⟩ : ByteArray).size := by rw [size_mk]; exact hlt
          have hc : (⟨s.toArray⟩ : ByteArray)[k].toNat < 256 := (⟨s.toArray⟩ : ByteArray)[k].toNat_lt
          cases hn : capB (⟨s.toArray⟩ : ByteArray)[k] with
          | true =>
            have HN : Hid (i + T.length = (k + 1) + ((s.drop (k + 1)).takeWhile capB).length) := by unfold Hid; rw [hE.out, run_on hkB hn]; omega
            clear hE
            go_wp2_with (go_at_call 78; refine (refCaps_any _ _).mono ?_; rintro e w' ⟨rfl, hw'⟩; rw [hw', hn])
            go_round
            case rel => exact ⟨k + 1, by omega, by omega, by go_num, HN⟩
            case measure => simp [intOf]; omega
          | false =>
            have hke : Hid (k = i + T.length) := by unfold Hid; rw [hE.out, run_stop hkB hn]; rfl
            clear hE
            have c0 := X0.out.t.c0
            have c1 := X0.out.t.c1
            have c2 := X0.out.t.c2
            have q0 := X0.out.t.fr 0 (by decide)
            have q2 := X0.out.t.fr 2 (by decide)
            have hgl := X0.out.t.lt
            have hx : (⟨s.toArray⟩ : ByteArray).extract i k = ⟨T.toArray⟩ := HTx.out k hke.out
            have hik : (i : Int) ≤ (k : Int) := by omega
            have hkl : (k : Int) ≤ (s.length : Int) := by omega
            go_upto_region 21 with (go_at_call 78; refine (refCaps_any _ _).mono ?_; rintro e w' ⟨rfl, hw'⟩; rw [hw', hn])

            go_region
            obtain ⟨W3, hW3⟩ : ∃ W3, W3 = ((W0.setCell ⟨g + 1, 0, none⟩ (.int .i64 5)).setCell ⟨g + 1, 2, none⟩ (.string ⟨T.toArray⟩)).drew := ⟨_, rfl⟩
            rw [← hW3]
            have X3 : Hid (OneIn w W3 g 5 i T) := by unfold Hid; rw [hW3]; exact ((X0.out.kind 5).text T).drew
            have hkk := hke.out
            clear X0 c0 c1 c2 q0 q2 hgl hx hke hik hkl HTx HTl hW3
            subst hkk
            go_upto_region 30 with fail

            have c0 := X3.out.t.c0
            have c2 := X3.out.t.c2
            have r0 := X3.out.r.c0
            have r1 := X3.out.r.c1
            have r2 := X3.out.r.c2
            have q0 := X3.out.r.fr 0 (by decide)
            have q1 := X3.out.r.fr 1 (by decide)
            have q2 := X3.out.r.fr 2 (by decide)
            have cc1 := X3.out.t.c1
            have hgl := X3.out.t.lt
            have hgl2 := X3.out.r.lt

            by_cases hlong : 20 < T.length
            · have hlI : (20 : Int) < (T.length : Int) := by omega
              have HO1 : Hid (oneS (s.drop i) = ⟨6, 5, T, T.length⟩) := by unfold Hid; rw [HO0.out, if_pos hlong]
              have HP : Hid (TB (put3 W3 g 5 i T) g 5 i T) := X3.out.r.put _ _ _
              have HB : Hid (Below w.heap.size w (put3 W3 g 5 i T)) := by unfold Hid; rw [← HG.out]; exact put3_below X3.out.bl g (Nat.le_refl _) _ _ _
              unfold put3 at HP HB
              go_wp2_with fail
              refine bodyPost_ret (v := .tuple #[.agg #[.int .i64 5, .int .i64 i, .string ⟨T.toArray⟩], .int .i64 ((i + T.length : Nat) : Int), .int .i64 6]) ?_ rfl ?_
              · exact resRead9 HP.out rfl rfl rfl
              · exact one_wrong (c := 6) (k := i + T.length) HO1.out HB.out rfl (by decide)

            · have hlI : ¬ (20 : Int) < (T.length : Int) := by omega
              have HO1 : Hid (oneS (s.drop i) = ⟨0, 5, T, T.length⟩) := by unfold Hid; rw [HO0.out, if_neg hlong]
              have HP : Hid (TB (put3 W3 g 5 i T) g 5 i T) := X3.out.r.put _ _ _
              have HB : Hid (Below w.heap.size w (put3 W3 g 5 i T)) := by unfold Hid; rw [← HG.out]; exact put3_below X3.out.bl g (Nat.le_refl _) _ _ _
              unfold put3 at HP HB
              go_wp2_with fail
              refine bodyPost_ret (v := .tuple #[.agg #[.int .i64 5, .int .i64 i, .string ⟨T.toArray⟩], .int .i64 ((i + T.length : Nat) : Int), .int .i64 0]) ?_ rfl ?_
              · exact resRead9 HP.out rfl rfl rfl
              · exact one_good (a := 5) (b := i) (k := i + T.length) HO1.out HB.out rfl rfl rfl rfl rfl

        · have hke : Hid (k = i + T.length) := by unfold Hid; rw [hE.out, run_end capB s k (by omega)]; rfl
          clear hE
          have c0 := X0.out.t.c0
          have c1 := X0.out.t.c1
          have c2 := X0.out.t.c2
          have q0 := X0.out.t.fr 0 (by decide)
          have q2 := X0.out.t.fr 2 (by decide)
          have hgl := X0.out.t.lt
          have hx : (⟨s.toArray⟩ : ByteArray).extract i k = ⟨T.toArray⟩ := HTx.out k hke.out
          have hik : (i : Int) ≤ (k : Int) := by omega
          have hkl : (k : Int) ≤ (s.length : Int) := by omega
          go_upto_region 21 with fail

          go_region
          obtain ⟨W3, hW3⟩ : ∃ W3, W3 = ((W0.setCell ⟨g + 1, 0, none⟩ (.int .i64 5)).setCell ⟨g + 1, 2, none⟩ (.string ⟨T.toArray⟩)).drew := ⟨_, rfl⟩
          rw [← hW3]
          have X3 : Hid (OneIn w W3 g 5 i T) := by unfold Hid; rw [hW3]; exact ((X0.out.kind 5).text T).drew
          have hkk := hke.out
          clear X0 c0 c1 c2 q0 q2 hgl hx hke hik hkl HTx HTl hW3
          subst hkk
          go_upto_region 30 with fail

          have c0 := X3.out.t.c0
          have c2 := X3.out.t.c2
          have r0 := X3.out.r.c0
          have r1 := X3.out.r.c1
          have r2 := X3.out.r.c2
          have q0 := X3.out.r.fr 0 (by decide)
          have q1 := X3.out.r.fr 1 (by decide)
          have q2 := X3.out.r.fr 2 (by decide)
          have cc1 := X3.out.t.c1
          have hgl := X3.out.t.lt
          have hgl2 := X3.out.r.lt

          by_cases hlong : 20 < T.length
          · have hlI : (20 : Int) < (T.length : Int) := by omega
            have HO1 : Hid (oneS (s.drop i) = ⟨6, 5, T, T.length⟩) := by unfold Hid; rw [HO0.out, if_pos hlong]
            have HP : Hid (TB (put3 W3 g 5 i T) g 5 i T) := X3.out.r.put _ _ _
            have HB : Hid (Below w.heap.size w (put3 W3 g 5 i T)) := by unfold Hid; rw [← HG.out]; exact put3_below X3.out.bl g (Nat.le_refl _) _ _ _
            unfold put3 at HP HB
            go_wp2_with fail
            refine bodyPost_ret (v := .tuple #[.agg #[.int .i64 5, .int .i64 i, .string ⟨T.toArray⟩], .int .i64 ((i + T.length : Nat) : Int), .int .i64 6]) ?_ rfl ?_
            · exact resRead9 HP.out rfl rfl rfl
            · exact one_wrong (c := 6) (k := i + T.length) HO1.out HB.out rfl (by decide)

          · have hlI : ¬ (20 : Int) < (T.length : Int) := by omega
            have HO1 : Hid (oneS (s.drop i) = ⟨0, 5, T, T.length⟩) := by unfold Hid; rw [HO0.out, if_neg hlong]
            have HP : Hid (TB (put3 W3 g 5 i T) g 5 i T) := X3.out.r.put _ _ _
            have HB : Hid (Below w.heap.size w (put3 W3 g 5 i T)) := by unfold Hid; rw [← HG.out]; exact put3_below X3.out.bl g (Nat.le_refl _) _ _ _
            unfold put3 at HP HB
            go_wp2_with fail
            refine bodyPost_ret (v := .tuple #[.agg #[.int .i64 5, .int .i64 i, .string ⟨T.toArray⟩], .int .i64 ((i + T.length : Nat) : Int), .int .i64 0]) ?_ rfl ?_
            · exact resRead9 HP.out rfl rfl rfl
            · exact one_good (a := 5) (b := i) (k := i + T.length) HO1.out HB.out rfl rfl rfl rfl rfl

    | false =>
      by_cases h3 : (⟨s.toArray⟩ : ByteArray)[i].toNat = 34
      · skip
        have e34 : (((⟨s.toArray⟩ : ByteArray)[i].toNat : Int) == 34) = true := beq_iff_eq.2 (by omega)
        obtain ⟨T, hT⟩ : ∃ T, T = (s.drop (i + 1)).takeWhile textB := ⟨_, rfl⟩
        have HOy : Hid ((s.drop (i + 1))[T.length]? = some 34 → oneS (s.drop i) = ⟨if 200 < T.length then 6 else 0, 3, T, T.length + 2⟩) := fun hq => by
          rw [HO.out, oneC_text _ h1 h2 h3 (by rw [← hT]; exact hq), hT]
        have HOn : Hid (¬ (s.drop (i + 1))[T.length]? = some 34 → oneS (s.drop i) = ⟨3, 0, [], 0⟩) := fun hq => by
          rw [HO.out, oneC_open _ h1 h2 h3 (by rw [← hT]; exact hq)]
        have HTl : Hid (i + 1 + T.length = i + 1 + ((s.drop (i + 1)).takeWhile textB).length) := by unfold Hid; rw [hT]
        have HTx : Hid (∀ k, k = i + 1 + T.length → (⟨s.toArray⟩ : ByteArray).extract (i + 1) k = ⟨T.toArray⟩) := fun k hk => by rw [hT] at hk ⊢; exact run_text textB s (i + 1) k hk
        have HLe : T.length ≤ s.length - (i + 1) := by
          have := takeWhile_le textB (s.drop (i + 1))
          rw [List.length_drop] at this; rw [hT]; exact this
        have HGet : Hid (∀ k, k = i + 1 + T.length → (s.drop (i + 1))[T.length]? = s[k]?) := fun k hk => by rw [List.getElem?_drop, hk]
        clear hT HO h3
        go_wp2_with (first | (go_at_call 76; refine (refSmall_any _ _).mono ?_; rintro e w' ⟨rfl, hw'⟩; rw [hw', h1]) | (go_at_call 78; refine (refCaps_any _ _).mono ?_; rintro e w' ⟨rfl, hw'⟩; rw [hw', h2]))
        go_loop [8] (fun kv => ∃ k : Nat, i + 1 ≤ k ∧ k ≤ s.length ∧ kv = .int .i64 k ∧ Hid (i + 1 + T.length = k + ((s.drop k).takeWhile textB).length)) (fun kv => s.length - (intOf kv).toNat)
        case atStart => exact ⟨i + 1, Nat.le_refl _, by omega, by go_num, HTl⟩
        case round =>
          obtain ⟨k, hik0, hk, rfl, hE⟩ := hrel
          by_cases hlt : k < s.length
          · have hlI : (k : Int) < (s.length : Int) := by omega
            have hkB : k < (⟨s.toArray⟩ : ByteArray).size := by rw [size_mk]; exact hlt
            have hc : (⟨s.toArray⟩ : ByteArray)[k].toNat < 256 := (⟨s.toArray⟩ : ByteArray)[k].toNat_lt
            have hlJ : ¬ (s.length : Int) ≤ (k : Int) := by omega
            have hsk : s[k]? = some ((⟨s.toArray⟩ : ByteArray)[k]) := by rw [List.getElem?_eq_getElem hlt]; rfl
            cases hn : textB (⟨s.toArray⟩ : ByteArray)[k] with
            | true =>
              have HN : Hid (i + 1 + T.length = (k + 1) + ((s.drop (k + 1)).takeWhile textB).length) := by unfold Hid; rw [hE.out, run_on hkB hn]; omega
              have h4 : 32 ≤ (⟨s.toArray⟩ : ByteArray)[k].toNat ∧ (⟨s.toArray⟩ : ByteArray)[k].toNat ≤ 126 ∧ ¬ (⟨s.toArray⟩ : ByteArray)[k].toNat = 34 := by
                unfold textB at hn; simpa [and_assoc] using hn
              have i3 : (32 : Int) ≤ ((⟨s.toArray⟩ : ByteArray)[k].toNat : Int) := by omega
              have i4 : ((⟨s.toArray⟩ : ByteArray)[k].toNat : Int) ≤ 126 := by omega
              have i5 : (((⟨s.toArray⟩ : ByteArray)[k].toNat : Int) == 34) = false := beq_eq_false_iff_ne.2 (by omega)
              clear hn hE h4 hsk
              go_wp2_with fail
              go_round
              case rel => exact ⟨k + 1, by omega, by omega, by go_num, HN⟩
              case measure => simp [intOf]; omega
            | false =>
              have hke : Hid (k = i + 1 + T.length) := by unfold Hid; rw [hE.out, run_stop hkB hn]; rfl
              have hgt := HGet.out k hke.out
              rw [hsk] at hgt
              have h4 : (⟨s.toArray⟩ : ByteArray)[k].toNat = 34 ∨ (¬ (⟨s.toArray⟩ : ByteArray)[k].toNat = 34 ∧ (⟨s.toArray⟩ : ByteArray)[k].toNat < 32) ∨ (¬ (⟨s.toArray⟩ : ByteArray)[k].toNat = 34 ∧ 126 < (⟨s.toArray⟩ : ByteArray)[k].toNat) := by
                unfold textB at hn; simp at hn; omega
              clear hn hE hsk
              rcases h4 with h4 | ⟨h4, h5⟩ | ⟨h4, h5⟩
              · have HO0 : Hid (oneS (s.drop i) = ⟨if 200 < T.length then 6 else 0, 3, T, T.length + 2⟩) := HOy.out (by rw [hgt, show (⟨s.toArray⟩ : ByteArray)[k] = 34 from UInt8.toNat_inj.1 h4])
                have i3 : (32 : Int) ≤ ((⟨s.toArray⟩ : ByteArray)[k].toNat : Int) := by omega
                have i4 : ((⟨s.toArray⟩ : ByteArray)[k].toNat : Int) ≤ 126 := by omega
                have i5 : (((⟨s.toArray⟩ : ByteArray)[k].toNat : Int) == 34) = true := beq_iff_eq.2 (by omega)
                have hk0 : k + 1 ≤ s.length := by omega
                clear h4 hgt HOy HOn HGet
                have c0 := X0.out.t.c0
                have c1 := X0.out.t.c1
                have c2 := X0.out.t.c2
                have q0 := X0.out.t.fr 0 (by decide)
                have q2 := X0.out.t.fr 2 (by decide)
                have hgl := X0.out.t.lt
                have hx : (⟨s.toArray⟩ : ByteArray).extract (i + 1) k = ⟨T.toArray⟩ := HTx.out k hke.out
                have hik : (i : Int) + 1 ≤ (k : Int) := by omega
                have hkl : (k : Int) ≤ (s.length : Int) := by omega
                go_upto_region 28 with fail
                go_cut [8] (fun v W => v = .int .i64 (k : Int) ∧ Hid (OneIn w W g 3 i T))
                case first => as_aux_lemma =>
                  clear HO0 HTl HTx HG HC
                  go_region
                  all_goals go_wp2_with fail
                  all_goals go_meet
                  all_goals (case rel => exact ⟨rfl, by first | (rw [← hx]; exact (X0.out.drew.kind 3).text' hx) | exact (X0.out.drew.text' hx).kind 3⟩)
                case rest =>
                obtain ⟨rfl, X3⟩ := hcut
                clear X0 c0 c1 c2 q0 q2 hgl hx hik hkl HTx HTl
                go_upto_region 30 with fail

                have c0 := X3.out.t.c0
                have c2 := X3.out.t.c2
                have r0 := X3.out.r.c0
                have r1 := X3.out.r.c1
                have r2 := X3.out.r.c2
                have q0 := X3.out.r.fr 0 (by decide)
                have q1 := X3.out.r.fr 1 (by decide)
                have q2 := X3.out.r.fr 2 (by decide)
                have cc1 := X3.out.t.c1
                have hgl := X3.out.t.lt
                have hgl2 := X3.out.r.lt

                have hk1 : k + 1 = i + (T.length + 2) := by have := hke.out; omega
                by_cases hlong : 200 < T.length
                · have hlI : (200 : Int) < (T.length : Int) := by omega
                  have HO1 : Hid (oneS (s.drop i) = ⟨6, 3, T, T.length + 2⟩) := by unfold Hid; rw [HO0.out, if_pos hlong]
                  have HK := hide hk1
                  clear hk1
                  have HP : Hid (TB (put3 wc g 3 i T) g 3 i T) := X3.out.r.put _ _ _
                  have HB : Hid (Below w.heap.size w (put3 wc g 3 i T)) := by unfold Hid; rw [← HG.out]; exact put3_below X3.out.bl g (Nat.le_refl _) _ _ _
                  unfold put3 at HP HB
                  go_wp2_with fail
                  refine bodyPost_ret (v := .tuple #[.agg #[.int .i64 3, .int .i64 i, .string ⟨T.toArray⟩], .int .i64 ((k + 1 : Nat) : Int), .int .i64 6]) ?_ rfl ?_
                  · exact resRead9 HP.out rfl rfl rfl
                  · exact one_wrong (c := 6) (k := k + 1) HO1.out HB.out rfl (by decide)

                · have hlI : ¬ (200 : Int) < (T.length : Int) := by omega
                  have HO1 : Hid (oneS (s.drop i) = ⟨0, 3, T, T.length + 2⟩) := by unfold Hid; rw [HO0.out, if_neg hlong]
                  have HK := hide hk1
                  clear hk1
                  have HP : Hid (TB (put3 wc g 3 i T) g 3 i T) := X3.out.r.put _ _ _
                  have HB : Hid (Below w.heap.size w (put3 wc g 3 i T)) := by unfold Hid; rw [← HG.out]; exact put3_below X3.out.bl g (Nat.le_refl _) _ _ _
                  unfold put3 at HP HB
                  go_wp2_with fail
                  refine bodyPost_ret (v := .tuple #[.agg #[.int .i64 3, .int .i64 i, .string ⟨T.toArray⟩], .int .i64 ((k + 1 : Nat) : Int), .int .i64 0]) ?_ rfl ?_
                  · exact resRead9 HP.out rfl rfl rfl
                  · exact one_good (a := 3) (b := i) (k := k + 1) HO1.out HB.out rfl rfl rfl HK.out rfl

              · have HO1 : Hid (oneS (s.drop i) = ⟨3, 0, [], 0⟩) := HOn.out (by rw [hgt]; intro e; exact h4 (by rw [Option.some.inj e]; rfl))
                have i3 : ¬ (32 : Int) ≤ ((⟨s.toArray⟩ : ByteArray)[k].toNat : Int) := by omega
                have i5 : (((⟨s.toArray⟩ : ByteArray)[k].toNat : Int) == 34) = false := beq_eq_false_iff_ne.2 (by omega)
                clear h4 hgt HOy HOn HGet
                have c0 := X0.out.t.c0
                have c1 := X0.out.t.c1
                have c2 := X0.out.t.c2
                have r0 := X0.out.r.c0
                have r1 := X0.out.r.c1
                have r2 := X0.out.r.c2
                have q0 := X0.out.r.fr 0 (by decide)
                have q1 := X0.out.r.fr 1 (by decide)
                have q2 := X0.out.r.fr 2 (by decide)
                have hgl := X0.out.t.lt
                have hgl2 := X0.out.r.lt
                have HP : Hid (TB (put3 W0 g 0 i []) g 0 i []) := X0.out.r.put _ _ _
                have HB : Hid (Below w.heap.size w (put3 W0 g 0 i [])) := by unfold Hid; rw [← HG.out]; exact put3_below X0.out.bl g (Nat.le_refl _) _ _ _
                unfold put3 at HP HB
                go_wp2_with fail
                refine bodyPost_ret (v := .tuple #[.agg #[.int .i64 0, .int .i64 i, .string ⟨#[]⟩], .int .i64 ((k : Nat) : Int), .int .i64 3]) ?_ rfl ?_
                · exact resRead9 HP.out rfl rfl rfl
                · exact one_wrong (c := 3) (k := k) (tx := []) HO1.out HB.out rfl (by decide)

              · have HO1 : Hid (oneS (s.drop i) = ⟨3, 0, [], 0⟩) := HOn.out (by rw [hgt]; intro e; exact h4 (by rw [Option.some.inj e]; rfl))
                have i3 : (32 : Int) ≤ ((⟨s.toArray⟩ : ByteArray)[k].toNat : Int) := by omega
                have i4 : ¬ ((⟨s.toArray⟩ : ByteArray)[k].toNat : Int) ≤ 126 := by omega
                have i5 : (((⟨s.toArray⟩ : ByteArray)[k].toNat : Int) == 34) = false := beq_eq_false_iff_ne.2 (by omega)
                clear h4 hgt HOy HOn HGet
                have c0 := X0.out.t.c0
                have c1 := X0.out.t.c1
                have c2 := X0.out.t.c2
                have r0 := X0.out.r.c0
                have r1 := X0.out.r.c1
                have r2 := X0.out.r.c2
                have q0 := X0.out.r.fr 0 (by decide)
                have q1 := X0.out.r.fr 1 (by decide)
                have q2 := X0.out.r.fr 2 (by decide)
                have hgl := X0.out.t.lt
                have hgl2 := X0.out.r.lt
                have HP : Hid (TB (put3 W0 g 0 i []) g 0 i []) := X0.out.r.put _ _ _
                have HB : Hid (Below w.heap.size w (put3 W0 g 0 i [])) := by unfold Hid; rw [← HG.out]; exact put3_below X0.out.bl g (Nat.le_refl _) _ _ _
                unfold put3 at HP HB
                go_wp2_with fail
                refine bodyPost_ret (v := .tuple #[.agg #[.int .i64 0, .int .i64 i, .string ⟨#[]⟩], .int .i64 ((k : Nat) : Int), .int .i64 3]) ?_ rfl ?_
                · exact resRead9 HP.out rfl rfl rfl
                · exact one_wrong (c := 3) (k := k) (tx := []) HO1.out HB.out rfl (by decide)

          · have hke : Hid (k = i + 1 + T.length) := by unfold Hid; rw [hE.out, run_end textB s k (by omega)]; rfl
            have hgt := HGet.out k hke.out
            have HO1 : Hid (oneS (s.drop i) = ⟨3, 0, [], 0⟩) := HOn.out (by rw [hgt, List.getElem?_eq_none (by omega)]; intro e; cases e)
            have hlI : ¬ (k : Int) < (s.length : Int) := by omega
            have hlJ : (s.length : Int) ≤ (k : Int) := by omega
            clear hE hgt HOy HOn HGet
            have c0 := X0.out.t.c0
            have c1 := X0.out.t.c1
            have c2 := X0.out.t.c2
            have r0 := X0.out.r.c0
            have r1 := X0.out.r.c1
            have r2 := X0.out.r.c2
            have q0 := X0.out.r.fr 0 (by decide)
            have q1 := X0.out.r.fr 1 (by decide)
            have q2 := X0.out.r.fr 2 (by decide)
            have hgl := X0.out.t.lt
            have hgl2 := X0.out.r.lt
            have HP : Hid (TB (put3 W0 g 0 i []) g 0 i []) := X0.out.r.put _ _ _
            have HB : Hid (Below w.heap.size w (put3 W0 g 0 i [])) := by unfold Hid; rw [← HG.out]; exact put3_below X0.out.bl g (Nat.le_refl _) _ _ _
            unfold put3 at HP HB
            go_wp2_with fail
            refine bodyPost_ret (v := .tuple #[.agg #[.int .i64 0, .int .i64 i, .string ⟨#[]⟩], .int .i64 ((k : Nat) : Int), .int .i64 3]) ?_ rfl ?_
            · exact resRead9 HP.out rfl rfl rfl
            · exact one_wrong (c := 3) (k := k) (tx := []) HO1.out HB.out rfl (by decide)

      · have e34 : (((⟨s.toArray⟩ : ByteArray)[i].toNat : Int) == 34) = false := beq_eq_false_iff_ne.2 (by omega)
        cases h4 : signB (⟨s.toArray⟩ : ByteArray)[i] with
        | true =>
          have h5 : (⟨s.toArray⟩ : ByteArray)[i].toNat = 123 ∨ (⟨s.toArray⟩ : ByteArray)[i].toNat = 125 ∨ (⟨s.toArray⟩ : ByteArray)[i].toNat = 40 ∨ (⟨s.toArray⟩ : ByteArray)[i].toNat = 41 ∨ (⟨s.toArray⟩ : ByteArray)[i].toNat = 59 ∨ (⟨s.toArray⟩ : ByteArray)[i].toNat = 61 := by
            unfold signB at h4; simpa using h4

          have HO1 : Hid (oneS (s.drop i) = ⟨0, 4, [(⟨s.toArray⟩ : ByteArray)[i]], 1⟩) := by unfold Hid; rw [HO.out, oneC_sign _ h1 h2 h3 h4]
          have hx : (⟨s.toArray⟩ : ByteArray).extract i (i + 1) = ⟨[(⟨s.toArray⟩ : ByteArray)[i]].toArray⟩ := one_byte s i hiB
          have hi1 : (i : Int) + 1 ≤ (s.length : Int) := by omega
          have r0 := X0.out.r.c0
          have r1 := X0.out.r.c1
          have r2 := X0.out.r.c2
          have q0 := X0.out.r.fr 0 (by decide)
          have q1 := X0.out.r.fr 1 (by decide)
          have q2 := X0.out.r.fr 2 (by decide)
          have hgl2 := X0.out.r.lt
          have HP : Hid (TB (put3 W0 g 4 i [(⟨s.toArray⟩ : ByteArray)[i]]) g 4 i [(⟨s.toArray⟩ : ByteArray)[i]]) := X0.out.r.put _ _ _
          have HB : Hid (Below w.heap.size w (put3 W0 g 4 i [(⟨s.toArray⟩ : ByteArray)[i]])) := by unfold Hid; rw [← HG.out]; exact put3_below X0.out.bl g (Nat.le_refl _) _ _ _
          unfold put3 at HP HB
          rw [← hx] at HP HB
          have HX := hide hx
          clear hx h3 h4 HO
          rcases h5 with h5 | h5 | h5 | h5 | h5 | h5

          · have b0 : (((⟨s.toArray⟩ : ByteArray)[i].toNat : Int) == 123) = true := beq_iff_eq.2 (by omega)
            clear h5
            go_wp2_with (first | (go_at_call 76; refine (refSmall_any _ _).mono ?_; rintro e w' ⟨rfl, hw'⟩; rw [hw', h1]) | (go_at_call 78; refine (refCaps_any _ _).mono ?_; rintro e w' ⟨rfl, hw'⟩; rw [hw', h2]))
            refine bodyPost_ret (v := .tuple #[.agg #[.int .i64 4, .int .i64 i, .string ⟨[(⟨s.toArray⟩ : ByteArray)[i]].toArray⟩], .int .i64 ((i + 1 : Nat) : Int), .int .i64 0]) ?_ rfl ?_
            · exact resRead9 HP.out rfl rfl rfl
            · exact one_good (a := 4) (b := i) (k := i + 1) HO1.out HB.out rfl rfl rfl rfl rfl
          · have b0 : (((⟨s.toArray⟩ : ByteArray)[i].toNat : Int) == 123) = false := beq_eq_false_iff_ne.2 (by omega)
            have b1 : (((⟨s.toArray⟩ : ByteArray)[i].toNat : Int) == 125) = true := beq_iff_eq.2 (by omega)
            clear h5
            go_wp2_with (first | (go_at_call 76; refine (refSmall_any _ _).mono ?_; rintro e w' ⟨rfl, hw'⟩; rw [hw', h1]) | (go_at_call 78; refine (refCaps_any _ _).mono ?_; rintro e w' ⟨rfl, hw'⟩; rw [hw', h2]))
            refine bodyPost_ret (v := .tuple #[.agg #[.int .i64 4, .int .i64 i, .string ⟨[(⟨s.toArray⟩ : ByteArray)[i]].toArray⟩], .int .i64 ((i + 1 : Nat) : Int), .int .i64 0]) ?_ rfl ?_
            · exact resRead9 HP.out rfl rfl rfl
            · exact one_good (a := 4) (b := i) (k := i + 1) HO1.out HB.out rfl rfl rfl rfl rfl
          · have b0 : (((⟨s.toArray⟩ : ByteArray)[i].toNat : Int) == 123) = false := beq_eq_false_iff_ne.2 (by omega)
            have b1 : (((⟨s.toArray⟩ : ByteArray)[i].toNat : Int) == 125) = false := beq_eq_false_iff_ne.2 (by omega)
            have b2 : (((⟨s.toArray⟩ : ByteArray)[i].toNat : Int) == 40) = true := beq_iff_eq.2 (by omega)
            clear h5
            go_wp2_with (first | (go_at_call 76; refine (refSmall_any _ _).mono ?_; rintro e w' ⟨rfl, hw'⟩; rw [hw', h1]) | (go_at_call 78; refine (refCaps_any _ _).mono ?_; rintro e w' ⟨rfl, hw'⟩; rw [hw', h2]))
            refine bodyPost_ret (v := .tuple #[.agg #[.int .i64 4, .int .i64 i, .string ⟨[(⟨s.toArray⟩ : ByteArray)[i]].toArray⟩], .int .i64 ((i + 1 : Nat) : Int), .int .i64 0]) ?_ rfl ?_
            · exact resRead9 HP.out rfl rfl rfl
            · exact one_good (a := 4) (b := i) (k := i + 1) HO1.out HB.out rfl rfl rfl rfl rfl
          · have b0 : (((⟨s.toArray⟩ : ByteArray)[i].toNat : Int) == 123) = false := beq_eq_false_iff_ne.2 (by omega)
            have b1 : (((⟨s.toArray⟩ : ByteArray)[i].toNat : Int) == 125) = false := beq_eq_false_iff_ne.2 (by omega)
            have b2 : (((⟨s.toArray⟩ : ByteArray)[i].toNat : Int) == 40) = false := beq_eq_false_iff_ne.2 (by omega)
            have b3 : (((⟨s.toArray⟩ : ByteArray)[i].toNat : Int) == 41) = true := beq_iff_eq.2 (by omega)
            clear h5
            go_wp2_with (first | (go_at_call 76; refine (refSmall_any _ _).mono ?_; rintro e w' ⟨rfl, hw'⟩; rw [hw', h1]) | (go_at_call 78; refine (refCaps_any _ _).mono ?_; rintro e w' ⟨rfl, hw'⟩; rw [hw', h2]))
            refine bodyPost_ret (v := .tuple #[.agg #[.int .i64 4, .int .i64 i, .string ⟨[(⟨s.toArray⟩ : ByteArray)[i]].toArray⟩], .int .i64 ((i + 1 : Nat) : Int), .int .i64 0]) ?_ rfl ?_
            · exact resRead9 HP.out rfl rfl rfl
            · exact one_good (a := 4) (b := i) (k := i + 1) HO1.out HB.out rfl rfl rfl rfl rfl
          · have b0 : (((⟨s.toArray⟩ : ByteArray)[i].toNat : Int) == 123) = false := beq_eq_false_iff_ne.2 (by omega)
            have b1 : (((⟨s.toArray⟩ : ByteArray)[i].toNat : Int) == 125) = false := beq_eq_false_iff_ne.2 (by omega)
            have b2 : (((⟨s.toArray⟩ : ByteArray)[i].toNat : Int) == 40) = false := beq_eq_false_iff_ne.2 (by omega)
            have b3 : (((⟨s.toArray⟩ : ByteArray)[i].toNat : Int) == 41) = false := beq_eq_false_iff_ne.2 (by omega)
            have b4 : (((⟨s.toArray⟩ : ByteArray)[i].toNat : Int) == 59) = true := beq_iff_eq.2 (by omega)
            clear h5
            go_wp2_with (first | (go_at_call 76; refine (refSmall_any _ _).mono ?_; rintro e w' ⟨rfl, hw'⟩; rw [hw', h1]) | (go_at_call 78; refine (refCaps_any _ _).mono ?_; rintro e w' ⟨rfl, hw'⟩; rw [hw', h2]))
            refine bodyPost_ret (v := .tuple #[.agg #[.int .i64 4, .int .i64 i, .string ⟨[(⟨s.toArray⟩ : ByteArray)[i]].toArray⟩], .int .i64 ((i + 1 : Nat) : Int), .int .i64 0]) ?_ rfl ?_
            · exact resRead9 HP.out rfl rfl rfl
            · exact one_good (a := 4) (b := i) (k := i + 1) HO1.out HB.out rfl rfl rfl rfl rfl
          · have b0 : (((⟨s.toArray⟩ : ByteArray)[i].toNat : Int) == 123) = false := beq_eq_false_iff_ne.2 (by omega)
            have b1 : (((⟨s.toArray⟩ : ByteArray)[i].toNat : Int) == 125) = false := beq_eq_false_iff_ne.2 (by omega)
            have b2 : (((⟨s.toArray⟩ : ByteArray)[i].toNat : Int) == 40) = false := beq_eq_false_iff_ne.2 (by omega)
            have b3 : (((⟨s.toArray⟩ : ByteArray)[i].toNat : Int) == 41) = false := beq_eq_false_iff_ne.2 (by omega)
            have b4 : (((⟨s.toArray⟩ : ByteArray)[i].toNat : Int) == 59) = false := beq_eq_false_iff_ne.2 (by omega)
            have b5 : (((⟨s.toArray⟩ : ByteArray)[i].toNat : Int) == 61) = true := beq_iff_eq.2 (by omega)
            clear h5
            go_wp2_with (first | (go_at_call 76; refine (refSmall_any _ _).mono ?_; rintro e w' ⟨rfl, hw'⟩; rw [hw', h1]) | (go_at_call 78; refine (refCaps_any _ _).mono ?_; rintro e w' ⟨rfl, hw'⟩; rw [hw', h2]))
            refine bodyPost_ret (v := .tuple #[.agg #[.int .i64 4, .int .i64 i, .string ⟨[(⟨s.toArray⟩ : ByteArray)[i]].toArray⟩], .int .i64 ((i + 1 : Nat) : Int), .int .i64 0]) ?_ rfl ?_
            · exact resRead9 HP.out rfl rfl rfl
            · exact one_good (a := 4) (b := i) (k := i + 1) HO1.out HB.out rfl rfl rfl rfl rfl

        | false =>
          have HO1 : Hid (oneS (s.drop i) = ⟨3, 0, [], 0⟩) := by unfold Hid; rw [HO.out, oneC_none _ h1 h2 h3 h4]
          have h5 : ¬ (⟨s.toArray⟩ : ByteArray)[i].toNat = 123 ∧ ¬ (⟨s.toArray⟩ : ByteArray)[i].toNat = 125 ∧ ¬ (⟨s.toArray⟩ : ByteArray)[i].toNat = 40 ∧ ¬ (⟨s.toArray⟩ : ByteArray)[i].toNat = 41 ∧ ¬ (⟨s.toArray⟩ : ByteArray)[i].toNat = 59 ∧ ¬ (⟨s.toArray⟩ : ByteArray)[i].toNat = 61 := by
            unfold signB at h4; simpa using h4
          obtain ⟨a0, a1, a2, a3, a4, a5⟩ := h5
          have b0 : (((⟨s.toArray⟩ : ByteArray)[i].toNat : Int) == 123) = false := beq_eq_false_iff_ne.2 (by omega)
          have b1 : (((⟨s.toArray⟩ : ByteArray)[i].toNat : Int) == 125) = false := beq_eq_false_iff_ne.2 (by omega)
          have b2 : (((⟨s.toArray⟩ : ByteArray)[i].toNat : Int) == 40) = false := beq_eq_false_iff_ne.2 (by omega)
          have b3 : (((⟨s.toArray⟩ : ByteArray)[i].toNat : Int) == 41) = false := beq_eq_false_iff_ne.2 (by omega)
          have b4 : (((⟨s.toArray⟩ : ByteArray)[i].toNat : Int) == 59) = false := beq_eq_false_iff_ne.2 (by omega)
          have b5 : (((⟨s.toArray⟩ : ByteArray)[i].toNat : Int) == 61) = false := beq_eq_false_iff_ne.2 (by omega)
          clear h3 h4 HO a0 a1 a2 a3 a4 a5

          have c0 := X0.out.t.c0
          have c1 := X0.out.t.c1
          have c2 := X0.out.t.c2
          have r0 := X0.out.r.c0
          have r1 := X0.out.r.c1
          have r2 := X0.out.r.c2
          have q0 := X0.out.r.fr 0 (by decide)
          have q1 := X0.out.r.fr 1 (by decide)
          have q2 := X0.out.r.fr 2 (by decide)
          have hgl := X0.out.t.lt
          have hgl2 := X0.out.r.lt
          have HP : Hid (TB (put3 W0 g 0 i []) g 0 i []) := X0.out.r.put _ _ _
          have HB : Hid (Below w.heap.size w (put3 W0 g 0 i [])) := by unfold Hid; rw [← HG.out]; exact put3_below X0.out.bl g (Nat.le_refl _) _ _ _
          unfold put3 at HP HB
          go_wp2_with (first | (go_at_call 76; refine (refSmall_any _ _).mono ?_; rintro e w' ⟨rfl, hw'⟩; rw [hw', h1]) | (go_at_call 78; refine (refCaps_any _ _).mono ?_; rintro e w' ⟨rfl, hw'⟩; rw [hw', h2]))
          refine bodyPost_ret (v := .tuple #[.agg #[.int .i64 0, .int .i64 i, .string ⟨#[]⟩], .int .i64 ((i : Nat) : Int), .int .i64 3]) ?_ rfl ?_
          · exact resRead9 HP.out rfl rfl rfl
          · exact one_wrong (c := 3) (k := i) (tx := []) HO1.out HB.out rfl (by decide)
end Go.Proofs.Ytcmmjmgbanafgaa
