/- The walk over moatref7.Text. -/
import Derived.Test.YtfbalmamhcbojaaDoorY5
import Derived.Test.YtfbalmamhcbojaaDoorRC
import Derived.Deep.DeepCutAuto
namespace Go.Proofs.YtfbalmamhcbojaaDoor
open Go.RowKit Go.Proofs.Url

/-- A cookie as it is handed in. -/
def ckIn (nm : ByteArray) (o : Int) (dom way : List UInt8) (sec htt : Bool) (same : Int) : Value := .agg #[.string nm, .int .i64 o, .string ⟨dom.toArray⟩, .string ⟨way.toArray⟩, .bool sec, .bool htt, .int .i64 same]
/-- The cells that are read of it. -/
structure CIn (W : World) (g : Nat) (dom way : List UInt8) (sec htt : Bool) (same : Int) : Prop where
  c2 : W.cell? ⟨g, 2, none⟩ = some (.string ⟨dom.toArray⟩)
  c3 : W.cell? ⟨g, 3, none⟩ = some (.string ⟨way.toArray⟩)
  c4 : W.cell? ⟨g, 4, none⟩ = some (.bool sec)
  c5 : W.cell? ⟨g, 5, none⟩ = some (.bool htt)
  c6 : W.cell? ⟨g, 6, none⟩ = some (.int .i64 same)
theorem CIn.keep {W W' : World} {g : Nat} {dom way : List UInt8} {sec htt : Bool} {same : Int} (h : CIn W g dom way sec htt same) (hb : Below W.heap.size W W') : CIn W' g dom way sec htt same :=
  ⟨keepc hb h.c2, keepc hb h.c3, keepc hb h.c4, keepc hb h.c5, keepc hb h.c6⟩
theorem CIn.new (w : World) (nm : ByteArray) (o : Int) (dom way : List UInt8) (sec htt : Bool) (same : Int) (t : TypeId) : CIn (w.alloc (.cells #[.string nm, .int .i64 o, .string ⟨dom.toArray⟩, .string ⟨way.toArray⟩, .bool sec, .bool htt, .int .i64 same] t)) w.heap.size dom way sec htt same := by
  refine ⟨?_, ?_, ?_, ?_, ?_⟩
  all_goals (rw [World.cell?_alloc_new]; rfl)

theorem mk_append (a b : List UInt8) : (⟨a.toArray⟩ : ByteArray) ++ ⟨b.toArray⟩ = ⟨(a ++ b).toArray⟩ := by
  apply dataEq; simp
theorem same_cases (n : Int) : n = 1 ∨ n = 2 ∨ n = 3 ∨ (¬ (1 ≤ n ∧ n ≤ 3) ∧ sameT n = []) := by
  by_cases h : 1 ≤ n ∧ n ≤ 3
  · omega
  · exact .inr (.inr (.inr ⟨h, by unfold sameT; rw [if_neg (by omega), if_neg (by omega), if_neg (by omega)]⟩))
def tl (xs : List (List UInt8)) : List UInt8 := Lib.joinTail sep2 xs
theorem tl_none : tl [] = [] := rfl
theorem tl_one (x : List UInt8) : tl [x] = sep2 ++ x := by simp [tl, Lib.joinTail]
theorem tailC_eq (dom way : List UInt8) (sec htt : Bool) (same : Int) : tailC dom way sec htt same = tl (p1 dom) ++ (sep2 ++ (tPath ++ way)) ++ tl (p3 sec) ++ tl (p4 htt) ++ tl (p5 same) := by
  unfold tailC partsT; rw [joinTail_append, joinTail_append, joinTail_append, joinTail_append]; rw [← tl_one]; rfl
theorem drop2' {X : ByteArray} {n : Nat} {t : List UInt8} (hx : X.data.toList = t) (hn : n = t.length) : X.extract 2 n = ⟨(t.drop 2).toArray⟩ := by
  apply dataEq
  rw [ext_mid, hx, hn, List.take_length]
theorem drop2 (t : List UInt8) : (⟨t.toArray⟩ : ByteArray).extract 2 t.length = ⟨(t.drop 2).toArray⟩ := by
  apply dataEq
  have := drop_end (⟨t.toArray⟩ : ByteArray) 2
  rw [size_mk] at this
  exact this

theorem tl_len (dom : List UInt8) (sec htt : Bool) (same : Int) : (tl (p1 dom)).length ≤ dom.length + 9 ∧ (tl (p3 sec)).length ≤ 8 ∧ (tl (p4 htt)).length ≤ 10 ∧ (tl (p5 same)).length ≤ 20 := by
  refine ⟨?_, ?_, ?_, ?_⟩
  · unfold p1; split
    · rw [tl_none]; simp
    · rw [tl_one]; simp [sep2, tDomain]
  · cases sec <;> decide
  · cases htt <;> decide
  · rcases same_cases same with rfl | rfl | rfl | ⟨_, h⟩
    · decide
    · decide
    · decide
    · unfold p5; rw [h]; decide

set_option maxHeartbeats 2000000 in
theorem refText7_any (nm : ByteArray) (dom way : List UInt8) (o : Int) (sec htt : Bool) (same : Int) (w : World) (hl : dom.length + way.length < 4294967000) :
    Calls Tryd.prog 10 #[ckIn nm o dom way sec htt same] w
      fun e w' => e = .returned (.string ⟨(textC dom way sec htt same).toArray⟩) ∧ Below w.heap.size w w' := by
  have HT := hide (text_tail dom way sec htt same)
  have HE := hide (tailC_eq dom way sec htt same)
  obtain ⟨l1, l3, l4, l5⟩ := tl_len dom sec htt same
  unfold ckIn
  go_enter Tryd.func10, Tryd.ntmps10
  go_upto_if 6 with fail
  obtain ⟨W0, hW0⟩ : ∃ W0, W0 = (w.alloc (Obj.cells #[.string nm, .int .i64 o, .string ⟨dom.toArray⟩, .string ⟨way.toArray⟩, .bool sec, .bool htt, .int .i64 same] 23)) := ⟨_, rfl⟩
  rw [← hW0]
  have B0 : Hid (Below w.heap.size w W0) := by unfold Hid; rw [hW0]; exact (Below.refl _ _).alloc (Nat.le_refl _) _
  have CI : Hid (CIn W0 w.heap.size dom way sec htt same) := by unfold Hid; rw [hW0]; exact CIn.new _ _ _ _ _ _ _ _ _
  clear hW0
  obtain ⟨c2, c3, c4, c5, c6⟩ := CI.out
  generalize hg : w.heap.size = g at *
  have HG := hide hg
  clear hg
  go_cut [3] (fun v W => v = .string ⟨(tl (p1 dom)).toArray⟩ ∧ W = W0)
  case first => as_aux_lemma =>
    cases hd : dom.isEmpty with
    | true =>
      go_wp2_with fail
      go_meet
      case rel => exact ⟨congrArg Value.string (dataEq (by simp [p1, hd, tl_none])), rfl⟩
    | false =>
      go_wp2_with fail
      go_meet
      case rel => exact ⟨congrArg Value.string (dataEq (by simp [p1, hd, tl_one, sep2, tDomain])), rfl⟩
  case rest =>
  obtain ⟨rfl, hwc⟩ := hcut
  subst hwc
  generalize tl (p1 dom) = t1 at *
  go_upto_if 16 with fail
  go_cut [3] (fun v W => v = .string ⟨(t1 ++ (sep2 ++ (tPath ++ way)) ++ tl (p3 sec)).toArray⟩ ∧ W = wc)
  case first => as_aux_lemma =>
    cases sec with
    | true =>
      go_wp2_with fail
      go_meet
      case rel => exact ⟨congrArg Value.string (dataEq (by simp [p3, tl_one, sep2, tPath, tSecure])), rfl⟩
    | false =>
      go_wp2_with fail
      go_meet
      case rel => exact ⟨congrArg Value.string (dataEq (by simp [p3, tl_none, sep2, tPath])), rfl⟩
  case rest =>
  obtain ⟨rfl, hwc⟩ := hcut
  subst hwc
  have l2 : 2 ≤ (t1 ++ (sep2 ++ (tPath ++ way)) ++ tl (p3 sec)).length ∧ (t1 ++ (sep2 ++ (tPath ++ way)) ++ tl (p3 sec)).length ≤ t1.length + way.length + 20 := by simp [sep2, tPath]; omega
  generalize t1 ++ (sep2 ++ (tPath ++ way)) ++ tl (p3 sec) = t2 at *
  go_upto_if 20 with fail
  go_cut [3] (fun v W => v = .string ⟨(t2 ++ tl (p4 htt)).toArray⟩ ∧ W = wc)
  case first => as_aux_lemma =>
    cases htt with
    | true =>
      go_wp2_with fail
      go_meet
      case rel => exact ⟨congrArg Value.string (dataEq (by simp [p4, tl_one, sep2, tHttp])), rfl⟩
    | false =>
      go_wp2_with fail
      go_meet
      case rel => exact ⟨congrArg Value.string (dataEq (by simp [p4, tl_none])), rfl⟩
  case rest =>
  obtain ⟨rfl, hwc⟩ := hcut
  subst hwc
  have l6 : (t2 ++ tl (p4 htt)).length ≤ t2.length + 10 := by rw [List.length_append]; omega
  have hpos : 2 ≤ (t2 ++ tl (p4 htt)).length := by rw [List.length_append]; omega
  generalize t2 ++ tl (p4 htt) = t3 at *
  have hgl : g < wc.heap.size := World.block_lt_of_cell? _ _ c6
  have hup : t3.length < 4294967200 := by omega
  clear l1 l2 l3 l4 l5 l6 c2 c3 c4 c5 hl
  rcases same_cases same with rfl | rfl | rfl | ⟨hno, hsn⟩
  · go_wp2_with fail
    go_ret
    refine ⟨ret_str ?_, by rw [HG.out]; exact B0.out.alloc (Nat.le_of_lt hgl) _⟩
    rw [← HT.out, HE.out]
    exact drop2' (by simp [p5, sameT, tl_one, sep2, tSame]) (by simp [p5, sameT, tl_one, sep2, tSame]; try omega)
  · go_wp2_with fail
    go_ret
    refine ⟨ret_str ?_, by rw [HG.out]; exact B0.out.alloc (Nat.le_of_lt hgl) _⟩
    rw [← HT.out, HE.out]
    exact drop2' (by simp [p5, sameT, tl_one, sep2, tSame]) (by simp [p5, sameT, tl_one, sep2, tSame]; try omega)
  · go_wp2_with fail
    go_ret
    refine ⟨ret_str ?_, by rw [HG.out]; exact B0.out.alloc (Nat.le_of_lt hgl) _⟩
    rw [← HT.out, HE.out]
    exact drop2' (by simp [p5, sameT, tl_one, sep2, tSame]) (by simp [p5, sameT, tl_one, sep2, tSame]; try omega)
  · have HN : Hid (tl (p5 same) = []) := by unfold Hid p5; rw [hsn]; rfl
    by_cases h1 : 1 ≤ same
    · have h3 : ¬ same ≤ 3 := by omega
      clear hno hsn
      go_wp2_with fail
      go_ret
      refine ⟨ret_str ?_, by rw [HG.out]; exact B0.out⟩
      rw [← HT.out, HE.out, HN.out, List.append_nil]
      exact drop2' (by simp) (by simp)
    · clear hno hsn
      go_wp2_with fail
      go_ret
      refine ⟨ret_str ?_, by rw [HG.out]; exact B0.out⟩
      rw [← HT.out, HE.out, HN.out, List.append_nil]
      exact drop2' (by simp) (by simp)
end Go.Proofs.YtfbalmamhcbojaaDoor
