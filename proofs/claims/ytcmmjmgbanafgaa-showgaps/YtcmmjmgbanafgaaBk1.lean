import Derived.Test.YtcmmjmgbanafgaaShelf
import Derived.Test.YtcmmjmgbanafgaaBut
import Derived.Test.YtcmmjmgbanafgaaW4
import Derived.Test.YtcmmjmgbanafgaaTq2
import Derived.Test.YtcmmjmgbanafgaaTq13
import Derived.Test.YtcmmjmgbanafgaaTkOk
import Derived.Test.YtcmmjmgbanafgaaLq3
import Derived.Test.YtcmmjmgbanafgaaTq12
/- strings.Builder at this program: copyCheck and WriteString as they lie in the dump (what refuses a copied builder is not in it). -/
namespace Go.Proofs.Ytcmmjmgbanafgaa
open Go.RowKit Go.Proofs.Url

theorem tb_size : (Try.prog.info? 49).map (·.size) = some 2 := by kernel_rfl
theorem tb_lies : liesAt Try.prog Try.prog.depth 49 (2 / Try.prog.cellsOf 49) 0 49 1 = true := by kernel_rfl
theorem tb_byte : (Try.prog.info? 5).map (fun i => (i.zero, i.size, i.bytes)) = some (some (.int .u8 0), 1, 1) := by kernel_rfl
set_option maxHeartbeats 1000000 in
set_option maxRecDepth 100000 in
theorem tb_check_used (b : Nat) (w : World) (h0 : w.cell? ⟨b, 0, none⟩ = some (.pointer (some ⟨b, 0, none⟩))) :
    Calls Try.prog 28 #[.pointer (some ⟨b, 0, none⟩)] w fun e w' => e = .returned (.tuple #[]) ∧ w' = w := by
  obtain ⟨j, hj, _⟩ := Option.map_eq_some_iff.1 tb_size
  go_enter Try.func28, Try.ntmps28
  go_wp2
  rw [Lib.run_neq_ptr_same w _ Try.underlying46 hj]
  go_wp2
  go_end0
  exact ⟨rfl, rfl⟩
set_option maxHeartbeats 1000000 in
set_option maxRecDepth 100000 in
theorem tb_check_fresh (b : Nat) (w : World) (h0 : w.cell? ⟨b, 0, none⟩ = some (.pointer none)) (hsh : w.shape? b = some (49, 2)) (hfz : w.frozen? ⟨b, 0, none⟩ = false) :
    Calls Try.prog 28 #[.pointer (some ⟨b, 0, none⟩)] w fun e w' => e = .returned (.tuple #[]) ∧ w' = w.setCell ⟨b, 0, none⟩ (.pointer (some ⟨b, 0, none⟩)) := by
  obtain ⟨j, hj, hjs⟩ := Option.map_eq_some_iff.1 tb_size
  go_enter Try.func28, Try.ntmps28
  go_wp2
  rw [Lib.run_to_unsafe w ⟨b, 0, none⟩ Try.underlying46 Try.underlying96 hj (by rw [hjs]; decide) hsh (Nat.zero_lt_succ 1)]
  simp only [Result.andThen]
  rw [Oper.upon_value]
  go_wp2
  rw [run_callFunc_extern Try.func55 (by kernel_rfl) (by kernel_rfl) (by kernel_rfl) (e := Extern.AbiNoEscape.same) (by kernel_rfl)]
  rw [Lib.run_noEscape]
  simp only [Result.andThen]
  rw [Oper.upon_value]
  go_wp2
  rw [Lib.run_from_unsafe w ⟨b, 0, none⟩ Try.underlying96 Try.underlying46 hj hsh tb_lies]
  simp only [Result.andThen]
  rw [Oper.upon_value]
  go_wp2
  go_end0
  exact ⟨rfl, rfl⟩
/-- A builder of this program. -/
abbrev IsB (B b : Nat) (l : List UInt8) (w : World) : Prop := Lib.IsBuilder 49 5 B b (Lib.byteCells l) w
theorem tb_check (B b : Nat) (bs : List Value) (w : World) (h : Lib.IsBuilder 49 5 B b bs w) :
    Calls Try.prog 28 #[.pointer (some ⟨b, 0, none⟩)] w fun e w' => e = .returned (.tuple #[]) ∧ (Lib.BuilderAt 49 5 B b (.pointer (some ⟨b, 0, none⟩)) bs w' ∧ Below B w w' ∧ Lib.OthersKept 5 (some b) w w') := by
  rcases h with h | h
  · refine (tb_check_fresh b w h.cell0 h.shape h.frozen0).mono ?_
    rintro e w' ⟨rfl, rfl⟩
    exact ⟨rfl, h.used _, (Below.refl B w).setCell (p := ⟨b, 0, none⟩) h.1 _, (Lib.OthersKept.refl _ _ w).setCell ⟨b, 0, none⟩ rfl _⟩
  · refine (tb_check_used b w h.cell0).mono ?_
    rintro e w' ⟨rfl, rfl⟩
    exact ⟨rfl, h, Below.refl B _, Lib.OthersKept.refl _ _ _⟩
theorem tb_kind {w : World} {B : Nat} {e : TypeId} {v : Value} {n : Nat} {xs : List Value} (h : w.ownsRow B e 1 v n xs) : ∀ g, v.ownBlock = some g → ∃ c fz, w.heap[g]? = some (.cells c e fz) := by
  intro g hg
  rcases h.2 with ⟨rfl, _⟩ | ⟨g', cap, cur, rfl, _, hgg, _⟩
  · simp [Value.ownBlock] at hg
  · simp [Value.ownBlock] at hg
    subst hg
    exact ⟨_, _, hgg⟩
set_option maxHeartbeats 2000000 in
set_option maxRecDepth 100000 in
theorem tb_write (B b : Nat) (l s : List UInt8) (w : World) (h : IsB B b l w) (hlen : l.length + s.length ≤ 140737488355328) (hBw : B ≤ w.heap.size) :
    Calls Try.prog 15 #[.pointer (some ⟨b, 0, none⟩), .string ⟨s.toArray⟩] w fun e w' => e = .returned (.tuple #[.int .i64 s.length, .nilIface]) ∧ IsB B b (l ++ s) w' ∧ Below B w w' ∧ Lib.OthersKept 5 (some b) w w' := by
  obtain ⟨i0, hi, hz0, hz1, hz2⟩ := info_parts tb_byte
  have hbl : (Lib.byteCells l).length = l.length := Lib.byteCells_length l
  have hss : (⟨s.toArray⟩ : ByteArray).size = s.length := size_mk s
  go_enter Try.func15, Try.ntmps15
  go_wp2_with fail
  refine (tb_check B b (Lib.byteCells l) _ h).mono ?_
  rintro e w1 ⟨rfl, h1, hb1, hk1⟩
  obtain ⟨hB, v, hbk, hown, hne⟩ := h1
  have c0 : w1.cell? ⟨b, 0, none⟩ = some (.pointer (some ⟨b, 0, none⟩)) := by rw [Lib.cell_of_heap hbk]; rfl
  have c1 : w1.cell? ⟨b, 1, none⟩ = some v := by rw [Lib.cell_of_heap hbk]; rfl
  have hlt : b < w1.heap.size := by
    rcases Nat.lt_or_ge b w1.heap.size with h' | h'
    · exact h'
    · simp [Array.getElem?_eq_none h'] at hbk
  have hs1 := hb1.size
  go_wp2_with (at_builtin; refine Lib.wpList_append_own_string _ rfl _ _ 47 9 rfl B 5 i0 Try.underlying47 Try.underlying9 hi hz0 hz1 hz2 _ _ _ rfl hown ⟨s.toArray⟩ rfl (by unfold maxLen; omega) (by omega) (by omega) ?_; intro v' w2 hown' hgrow _; obtain ⟨ao, n', cap, rfl⟩ : ∃ ao n' cap, v' = .slice ao n' cap := (by
    rcases hown'.2 with ⟨hv, _⟩ | ⟨g, cap, cur, hv, _⟩
    · exact ⟨_, _, _, hv⟩
    · exact ⟨_, _, _, hv⟩); have hb2 : w2.heap[b]? = some (.cells #[.pointer (some ⟨b, 0, none⟩), v] 49 (0, 0)) := (by
    rw [hgrow.block b hlt (fun e => hne e.symm)]; exact hbk); have d0 : w2.cell? ⟨b, 0, none⟩ = some (.pointer (some ⟨b, 0, none⟩)) := (by rw [Lib.cell_of_heap hb2]; rfl); have d1 : w2.cell? ⟨b, 1, none⟩ = some v := (by rw [Lib.cell_of_heap hb2]; rfl); have f1 : w2.frozen? ⟨b, 1, none⟩ = false := Lib.frozen_of_heap hb2 1)
  go_ret2
  refine ⟨rfl, .inr ?_, ?_, (hk1.grown hgrow (tb_kind hown)).setCell ⟨b, 1, none⟩ rfl _⟩
  · refine Lib.BuilderAt.put (T := 49) (e := 5) hB hb2 (bs' := Lib.byteCells (l ++ s)) ?_ (by decide)
    have e : Lib.byteCells (l ++ s) = Lib.byteCells l ++ Lib.strCells ⟨s.toArray⟩ := by rw [Lib.strCells_eq]; simp [Lib.byteCells]
    rw [e, List.length_append, Lib.strCells_length]
    exact hown'
  · exact (hb1.grown hgrow (by omega) (fun k hk => (hown.lt k hk).1)).setCell (p := ⟨b, 1, none⟩) hB _
end Go.Proofs.Ytcmmjmgbanafgaa

/- The walks over tree.written, tree.Node.Words. -/
namespace Go.Proofs.Url
open Syn
theorem joinT_snoc (l : List Tk) (t : Tk) : joinT (l ++ [t]) = if l = [] then wTok t else joinT l ++ 32 :: wTok t := by
  cases l with
  | nil => simp [joinT]
  | cons a r => simp [joinT]
theorem joinT_len (a b : List Tk) : (joinT a).length ≤ (joinT (a ++ b)).length := by
  cases a with
  | nil => exact Nat.zero_le _
  | cons t r => simp [joinT]
theorem wTok_plainV {t : Tk} (h : t.kind ≠ 3) : wTok t = t.text := by unfold wTok; rw [if_neg h]
theorem wTok_len (t : Tk) : t.text.length ≤ (wTok t).length := by
  unfold wTok; split
  · simp; omega
  · exact Nat.le_refl _
end Go.Proofs.Url
namespace Go.Proofs.Ytcmmjmgbanafgaa
open Go.RowKit Go.Proofs.Url Go.Proofs.Url.Syn

set_option maxHeartbeats 1000000 in
theorem written_any (t : Tk) (w : World) (hl : t.text.length < 4294967270) :
    Calls Try.prog 56 #[.agg #[.int .i64 t.kind, .int .i64 t.at', .string ⟨t.text.toArray⟩]] w fun e w' => e = .returned (.string ⟨(wTok t).toArray⟩) ∧ w' = w.alloc (Obj.cells #[.int .i64 t.kind, .int .i64 t.at', .string ⟨t.text.toArray⟩] 39) := by
  obtain ⟨k, a, tt⟩ := t
  replace hl : tt.length < 4294967270 := hl
  by_cases h3 : k = 3
  · subst h3
    go_enter Try.func56, Try.ntmps56
    go_wp2_with fail
    go_ret
    exact ⟨congrArg Ending.returned (congrArg Value.string (dataEq (by simp [wTok]))), rfl⟩
  · have hb : ((k : Int) == 3) = false := beq_eq_false_iff_ne.2 (by omega)
    have hw : wTok ⟨k, a, tt⟩ = tt := wTok_plainV h3
    rw [hw]
    clear hw h3
    go_enter Try.func56, Try.ntmps56
    go_wp2_with fail
    go_ret
    exact ⟨rfl, rfl⟩
theorem IsB.below {B b : Nat} {l : List UInt8} {w w' : World} (h : IsB B b l w) (hb : Below w.heap.size w w') : IsB B b l w' := by
  rcases h with h | h
  · obtain ⟨h1, v, hbk, hown, hne⟩ := h
    have hlt : b < w.heap.size := by
      rcases Nat.lt_or_ge b w.heap.size with h | h
      · exact h
      · rw [Array.getElem?_eq_none h] at hbk; cases hbk
    exact .inl ⟨h1, v, by rw [hb.block b hlt]; exact hbk, owns_below hown hb, hne⟩
  · obtain ⟨h1, v, hbk, hown, hne⟩ := h
    have hlt : b < w.heap.size := by
      rcases Nat.lt_or_ge b w.heap.size with h | h
      · exact h
      · rw [Array.getElem?_eq_none h] at hbk; cases hbk
    exact .inr ⟨h1, v, by rw [hb.block b hlt]; exact hbk, owns_below hown hb, hne⟩
theorem IsB.ge {B b : Nat} {l : List UInt8} {w : World} (h : IsB B b l w) : B ≤ b ∧ b < w.heap.size := by
  rcases h with h | h
  · exact ⟨h.1, h.lt⟩
  · exact ⟨h.1, h.lt⟩
/-- A block of a known kind is as it was. -/
theorem kept_obj {b k : Nat} {w w' : World} (h : Lib.OthersKept 5 (some b) w w') {cs : Array Value} {T : TypeId} (hk : w.heap[k]? = some (.cells cs T (0, 0))) (hb : k ≠ b) (hT : T ≠ 5) : w'.heap[k]? = some (.cells cs T (0, 0)) :=
  h k _ hk (fun e => hb (by cases e; rfl)) (fun c fz e => hT (by cases e; rfl))
theorem obj_new (w : World) (cs : Array Value) (T : TypeId) : (w.alloc (Obj.cells cs T)).heap[w.heap.size]? = some (.cells cs T (0, 0)) := _root_.Go.heap_alloc_new w _
/-- What a write leaves. -/
structure WrP (B b : Nat) (l : List UInt8) (w w' : World) : Prop where
  is : IsB B b l w'
  be : Below B w w'
  ok : Lib.OthersKept 5 (some b) w w'
theorem WrP.trans {B b : Nat} {l m : List UInt8} {w w' w'' : World} (h : WrP B b l w w') (k : WrP B b m w' w'') : WrP B b m w w'' := ⟨k.is, h.be.trans k.be, h.ok.trans k.ok⟩
theorem WrP.alloc {B b : Nat} {l : List UInt8} {w w' : World} (h : WrP B b l w w') (hB : B ≤ w.heap.size) (o : Obj) : WrP B b l w (w'.alloc o) := ⟨h.is.below ((Below.refl _ _).alloc (Nat.le_refl _) _), h.be.trans ((Below.refl _ _).alloc (Nat.le_trans hB h.be.size) _), h.ok.alloc _⟩
theorem WrP.refl {B b : Nat} {l : List UInt8} {w : World} (h : IsB B b l w) : WrP B b l w w := ⟨h, Below.refl _ _, Lib.OthersKept.refl _ _ _⟩
theorem writeS (B b : Nat) (l s : List UInt8) (w : World) (h : IsB B b l w) (hlen : (l ++ s).length < 4294967281) (hBw : B ≤ w.heap.size) :
    Calls Try.prog 15 #[.pointer (some ⟨b, 0, none⟩), .string ⟨s.toArray⟩] w fun e w' => e = .returned (.tuple #[.int .i64 s.length, .nilIface]) ∧ WrP B b (l ++ s) w w' :=
  (tb_write B b l s w h (by rw [List.length_append] at hlen; omega) hBw).mono fun _ _ ⟨h1, h2, h3, h4⟩ => ⟨h1, h2, h3, h4⟩

set_option maxHeartbeats 2000000 in
set_option maxRecDepth 100000 in
theorem words_any (x : Nd) (a1 a2 : Option Addr) (c1 c2 : Nat) (w : World) (hN : NA w (fun k => k < w.heap.size) a1 a2 x) (hl1 : x.1.length ≤ 4294967280) (hlen : (joinT x.1).length < 4294967260) :
    Calls Try.prog 29 #[.agg #[.slice a1 x.1.length c1, .slice a2 x.2.len c2]] w fun e w' => e = .returned (.string ⟨(joinT x.1).toArray⟩) ∧ Below w.heap.size w w' := by
  have HN := hide hN
  have HL1 := hide hl1
  have HLen := hide hlen
  clear hN hl1 hlen
  go_enter Try.func29, Try.ntmps29
  go_upto_region 2 with fail
  obtain ⟨W0, hW0⟩ : ∃ v, v = w.alloc (Obj.cells #[.slice a1 x.1.length c1, .slice a2 x.2.len c2] 51) := ⟨_, rfl⟩
  have b0 : Below w.heap.size w W0 := by rw [hW0]; exact (Below.refl _ _).alloc (Nat.le_refl _) _
  have O0 : W0.heap[w.heap.size]? = some (.cells #[.slice a1 x.1.length c1, .slice a2 x.2.len c2] 51 (0, 0)) := by rw [hW0]; exact obj_new _ _ _
  have s0 : W0.heap.size = w.heap.size + 1 := by rw [hW0]; simp
  obtain ⟨W1, hW1⟩ : ∃ v, v = W0.alloc (Obj.cells #[.pointer none, .slice none 0 0] 49) := ⟨_, rfl⟩
  have b1 : Below W0.heap.size W0 W1 := by rw [hW1]; exact (Below.refl _ _).alloc (Nat.le_refl _) _
  have I1 : IsB W0.heap.size W0.heap.size [] W1 := by rw [hW1]; exact Lib.fresh_isBuilder _ _ _
  rw [← hW0]
  have e0 : w.heap.size + 1 = W0.heap.size := s0.symm
  simp only [e0]
  rw [← hW1]
  have BW := hide (b0.trans (b1.mono b0.size))
  have O1 : Hid (W1.heap[w.heap.size]? = some (.cells #[.slice a1 x.1.length c1, .slice a2 x.2.len c2] 51 (0, 0))) := by unfold Hid; rw [b1.block w.heap.size (by omega)]; exact O0
  have HN1 : Hid (NA W1 (fun k => k < W0.heap.size) a1 a2 x) := ((HN.out.keep (KeptIn.belowK (b0.trans (b1.mono b0.size)) fun _ h => h)).sub fun _ h => by omega)
  have P1 := hide (WrP.refl I1)
  have hwB : w.heap.size < W0.heap.size := by omega
  have hBsz : W0.heap.size < W1.heap.size := I1.ge.2
  have x1 : W1.cell? ⟨w.heap.size, 0, none⟩ = some (.slice a1 x.1.length c1) := by rw [Lib.cell_of_heap O1.out]; rfl
  clear hW0 hW1 b0 b1 O0 I1 s0 HN e0
  go_wp2_with fail
  clear x1 O1
  have hBB : Hid (W0.heap.size ≤ W1.heap.size) := Nat.le_of_lt hBsz
  go_loopw [9] (fun iv W => ∃ k : Nat, k ≤ x.1.length ∧ iv = .int .i64 k ∧ Hid (WrP W0.heap.size W0.heap.size (joinT (x.1.take k)) W1 W)) (fun iv _ => x.1.length - (intOf iv).toNat)
  case atStart => exact ⟨0, Nat.zero_le _, rfl, P1⟩
  case round =>
    obtain ⟨k, hk, rfl, hP⟩ := hrel
    clear P1
    by_cases hlt : k < x.1.length
    · have hlI : (k : Int) < (x.1.length : Int) := by omega
      obtain ⟨q, rfl, hq, k1, k2, k3⟩ := (HN1.out.t.keep (KeptIn.belowK hP.out.be fun _ h => h)) k hlt
      have hqw : q < wr.heap.size := by have := hP.out.be.size; have hq' : q < W0.heap.size := hq; omega
      have HTk : Hid (x.1.take (k + 1) = x.1.take k ++ [x.1[k]]) := by unfold Hid; rw [List.take_succ_eq_append_getElem hlt]
      have HJ : Hid (joinT (x.1.take (k + 1)) = if k = 0 then wTok x.1[k] else joinT (x.1.take k) ++ 32 :: wTok x.1[k]) := by
        unfold Hid; rw [HTk.out, joinT_snoc]
        by_cases h0 : k = 0
        · rw [if_pos h0, if_pos (by rw [h0]; rfl)]
        · have hne : ¬ x.1.take k = [] := fun e => by
            have h1 := congrArg List.length e
            rw [List.length_take, List.length_nil] at h1
            omega
          rw [if_neg h0, if_neg hne]
      have HPre : Hid ((joinT (x.1.take (k + 1))).length < 4294967260) := by
        unfold Hid
        have h1 := joinT_len (x.1.take (k + 1)) (x.1.drop (k + 1))
        rw [List.take_append_drop] at h1
        have h2 := HLen.out
        omega
      have htl : Hid (x.1[k].text.length < 4294967270) := by
        unfold Hid
        have h1 := wTok_len x.1[k]
        have h2 := HPre.out
        rw [HJ.out] at h2
        split at h2 <;> first | (simp only [List.length_append, List.length_cons] at h2; omega) | omega
      generalize x.1[k] = t at *
      have hkI : (k : Int) < 4294967281 := by have := HL1.out; omega
      clear HTk
      go_upto_region 5 with fail
      obtain ⟨W2, hW2⟩ : ∃ v, v = wr.alloc (Obj.cells #[.int .i64 t.kind, .int .i64 t.at', .string ⟨t.text.toArray⟩] 39) := ⟨_, rfl⟩
      have P2 : Hid (WrP W0.heap.size W0.heap.size (joinT (x.1.take k)) W1 W2) := by unfold Hid; rw [hW2]; exact hP.out.alloc hBB.out _
      have Q2 : Hid (W2.heap[wr.heap.size]? = some (.cells #[.int .i64 t.kind, .int .i64 t.at', .string ⟨t.text.toArray⟩] 39 (0, 0))) := by unfold Hid; rw [hW2]; exact obj_new _ _ _
      have hbr : W0.heap.size < wr.heap.size := hP.out.is.ge.2
      rw [← hW2]
      clear hW2 hP k1 k2 k3
      have hB2 : W0.heap.size ≤ W2.heap.size := Nat.le_trans hBB.out P2.out.be.size
      have tail : Hid (∀ (pre : List UInt8) (W : World), WrP W0.heap.size W0.heap.size pre W1 W → pre ++ wTok t = joinT (x.1.take (k + 1)) →
          Calls Try.prog 15 #[.pointer (some ⟨W0.heap.size, 0, none⟩), .string ⟨(wTok t).toArray⟩] W fun e w' => e = .returned (.tuple #[.int .i64 (wTok t).length, .nilIface]) ∧ WrP W0.heap.size W0.heap.size (joinT (x.1.take (k + 1))) W1 w') := by
        intro pre W hW hpre
        refine (writeS W0.heap.size W0.heap.size pre (wTok t) W hW.is ?_ (Nat.le_trans hBB.out hW.be.size)).mono ?_
        · have := HPre.out
          rw [← hpre] at this
          simp only [List.length_append] at this ⊢
          omega
        · rintro e w' ⟨rfl, hw'⟩
          refine ⟨rfl, ?_⟩
          rw [← hpre]
          exact hW.trans hw'
      by_cases h0 : k = 0
      · have hkz : (0 < k) = False := eq_false (by omega)
        have HJ2 : Hid (joinT (x.1.take k) ++ wTok t = joinT (x.1.take (k + 1))) := by unfold Hid; rw [HJ.out, if_pos h0, h0]; rfl
        have d0 : W2.cell? ⟨wr.heap.size, 0, none⟩ = some (.int .i64 t.kind) := by rw [Lib.cell_of_heap Q2.out]; rfl
        have d1 : W2.cell? ⟨wr.heap.size, 1, none⟩ = some (.int .i64 t.at') := by rw [Lib.cell_of_heap Q2.out]; rfl
        have d2 : W2.cell? ⟨wr.heap.size, 2, none⟩ = some (.string ⟨t.text.toArray⟩) := by rw [Lib.cell_of_heap Q2.out]; rfl
        have hdl : wr.heap.size < W2.heap.size := World.block_lt_of_cell? W2 _ d0
        clear h0 HJ
        go_wp2_with fail
        refine (written_any t W2 htl.out).mono ?_
        rintro e w3 ⟨rfl, hw3⟩
        have P3 : Hid (WrP W0.heap.size W0.heap.size (joinT (x.1.take k)) W1 w3) := by unfold Hid; rw [hw3]; exact P2.out.alloc hBB.out _
        clear hw3 P2 Q2 d0 d1 d2 hdl
        go_wp2_with fail
        refine (tail.out _ w3 P3.out HJ2.out).mono ?_
        rintro e w4 ⟨rfl, P4⟩
        have P4 := hide P4
        clear P3 tail HJ2
        go_wp2_with fail
        exact ⟨⟨k + 1, by omega, by go_num, P4⟩, by simp [intOf]; omega⟩
      · have hkz : (0 < k) = True := eq_true (by omega)
        have HJ2 : Hid ((joinT (x.1.take k) ++ [32]) ++ wTok t = joinT (x.1.take (k + 1))) := by unfold Hid; rw [HJ.out, if_neg h0]; simp
        have HL32 : Hid (((joinT (x.1.take k)) ++ [32]).length < 4294967281) := by
          unfold Hid
          have := HPre.out
          rw [← HJ2.out] at this
          simp only [List.length_append] at this ⊢
          omega
        clear h0 HJ
        go_wp2_with fail
        refine (writeS W0.heap.size W0.heap.size (joinT (x.1.take k)) [32] W2 P2.out.is HL32.out hB2).mono ?_
        rintro e w5 ⟨rfl, P5'⟩
        have P5 : Hid (WrP W0.heap.size W0.heap.size (joinT (x.1.take k) ++ [32]) W1 w5) := P2.out.trans P5'
        have Q5 := hide (kept_obj P5'.ok Q2.out (by omega) (by decide))
        have d0 : w5.cell? ⟨wr.heap.size, 0, none⟩ = some (.int .i64 t.kind) := by rw [Lib.cell_of_heap Q5.out]; rfl
        have d1 : w5.cell? ⟨wr.heap.size, 1, none⟩ = some (.int .i64 t.at') := by rw [Lib.cell_of_heap Q5.out]; rfl
        have d2 : w5.cell? ⟨wr.heap.size, 2, none⟩ = some (.string ⟨t.text.toArray⟩) := by rw [Lib.cell_of_heap Q5.out]; rfl
        have hdl : wr.heap.size < w5.heap.size := World.block_lt_of_cell? w5 _ d0
        clear P5' P2 Q2 HL32
        go_wp2_with fail
        refine (written_any t w5 htl.out).mono ?_
        rintro e w3 ⟨rfl, hw3⟩
        have P3 : Hid (WrP W0.heap.size W0.heap.size (joinT (x.1.take k) ++ [32]) W1 w3) := by unfold Hid; rw [hw3]; exact P5.out.alloc hBB.out _
        clear hw3 P5 Q5 d0 d1 d2 hdl
        go_wp2_with fail
        refine (tail.out _ w3 P3.out HJ2.out).mono ?_
        rintro e w4 ⟨rfl, P4⟩
        have P4 := hide P4
        clear P3 tail HJ2
        go_wp2_with fail
        exact ⟨⟨k + 1, by omega, by go_num, P4⟩, by simp [intOf]; omega⟩
    · have hlI : ¬ (k : Int) < (x.1.length : Int) := by omega
      obtain rfl : k = x.1.length := by omega
      have P2 : Hid (WrP W0.heap.size W0.heap.size (joinT x.1) W1 wr) := by unfold Hid; have := hP.out; rwa [List.take_length] at this
      clear hP hk
      go_wp2_with fail
      refine (Try.Builder_String_any W0.heap.size W0.heap.size (joinT x.1) wr P2.out.is (Nat.le_trans hBB.out P2.out.be.size)).mono ?_
      rintro e w3 ⟨rfl, hb3⟩
      have HB : Hid (Below w.heap.size w w3) := (BW.out.trans (P2.out.be.mono (Nat.le_of_lt hwB))).trans (hb3.mono (Nat.le_of_lt hwB))
      clear P2 hb3 BW
      go_wp2_with fail
      go_ret
      exact ⟨rfl, HB.out⟩
end Go.Proofs.Ytcmmjmgbanafgaa

/- The walk over tree.Read: what package tree gives. -/
namespace Go.Proofs.Url
open Syn
theorem toksF_code : ∀ (f pos : Nat) (l : List UInt8) (n c p : Nat), toksF f pos l n = .bad c p → c ≠ 0 := by
  intro f
  induction f with
  | zero => intro pos l n c p h; simp [toksF] at h
  | succ f ih =>
    intro pos l n c p h
    rw [toksF_succ] at h
    split at h
    · cases h
    · split at h
      · rename_i hc; cases h; exact hc
      · split at h
        · cases h; decide
        · generalize hx : toksF f _ _ _ = x at h
          cases x with
          | bad c' q =>
            simp [Toks.put] at h
            obtain ⟨rfl, rfl⟩ := h
            exact ih _ _ _ _ _ hx
          | ok us => simp [Toks.put] at h
theorem toksS_code {s : List UInt8} {c p : Nat} (h : toksS s = .bad c p) : c ≠ 0 := by
  unfold toksS at h
  split at h
  · cases h; decide
  · exact toksF_code _ _ _ _ _ _ h
end Go.Proofs.Url
namespace Go.Proofs.Ytcmmjmgbanafgaa
open Go.RowKit Go.Proofs.Url Go.Proofs.Url.Syn

theorem readS10_lex {s : List UInt8} {c p : Nat} (h : toksS s = .bad c p) : readS10 s = .bad c p := by unfold readS10; rw [h]
theorem readS10_bad {s : List UInt8} {ts r : List Tk} (h : toksS s = .ok ts) (hi : itemsF (ts.length + 1) ts = .bad r) : readS10 s = .bad 4 (atR s.length r) := by
  unfold readS10; rw [h]
  simp only [hi]
  cases r <;> rfl
theorem readS10_ok {s : List UInt8} {ts r : List Tk} {xs : List Itm} (h : toksS s = .ok ts) (hi : itemsF (ts.length + 1) ts = .ok xs r) : readS10 s = if xs.any deepI then .bad 5 0 else .ok xs := by
  unfold readS10; rw [h]
  simp only [hi]
/-- What tree.Read answers. -/
def TreePost (s : List UInt8) (w : World) (e : Ending) (w' : World) : Prop :=
  Below w.heap.size w w' ∧ (match readS10 s with
    | .ok xs => ∃ (F : Fo) (a : Option Addr) (c : Nat), e = .returned (.tuple #[.slice a F.len c, .agg #[.int .i64 0, .int .i64 0]]) ∧ FA w' (In w.heap.size w'.heap.size) a F ∧ ShIs F xs ∧ F.fit 4294967280 ∧ F.len ≤ 2000
    | .bad c p => e = .returned (.tuple #[.slice none 0 0, .agg #[.int .i64 c, .int .i64 p]]))
theorem TreePost.bad {s : List UInt8} {c p : Nat} {w w' : World} (hx : readS10 s = .bad c p) (hb : Below w.heap.size w w') : TreePost s w (.returned (.tuple #[.slice none 0 0, .agg #[.int .i64 c, .int .i64 p]])) w' := by
  unfold TreePost; rw [hx]; exact ⟨hb, rfl⟩
theorem TreePost.ok {s : List UInt8} {xs : List Itm} {w w' : World} {F : Fo} {a : Option Addr} {c : Nat} (hx : readS10 s = .ok xs) (hb : Below w.heap.size w w') (hf : FA w' (In w.heap.size w'.heap.size) a F) (hs : ShIs F xs) (h1 : F.fit 4294967280) (h2 : F.len ≤ 2000) : TreePost s w (.returned (.tuple #[.slice a F.len c, .agg #[.int .i64 0, .int .i64 0]])) w' := by
  unfold TreePost; rw [hx]; exact ⟨hb, F, a, c, rfl, hf, hs, h1, h2⟩
theorem WB.same' {W W' : World} {g : Nat} {a b : Int} (h : WB W g a b) (hb : W'.heap[g]? = W.heap[g]?) : WB W' g a b :=
  ⟨by rw [World.cell?_of_block (w := W) hb]; exact h.c0, by rw [World.cell?_of_block (w := W) hb]; exact h.c1, fun j hj => by unfold World.frozen?; simp only [hb]; exact h.fr j hj⟩
theorem WB.otherp {W : World} {g : Nat} {a b : Int} (h : WB W g a b) {m : Nat} (hm : g ≠ m) (x y : Int) : WB (put2 W m x y) g a b :=
  h.same' (by unfold put2; rw [Below.heap_setCell _ _ _ _ (by show g ≠ m; exact hm), Below.heap_setCell _ _ _ _ (by show g ≠ m; exact hm)])
theorem resReadTree {W : World} {m : Nat} {v : Value} {x y : Int} {tmps : Array Value} (h : WB W m x y) (h2 : tmps[2]?.getD undef = v) (h3 : tmps[3]?.getD undef = .pointer (some ⟨m, 0, none⟩)) :
    (results Try.f14 tmps).run Try.prog W = .ok (.tuple #[v, .agg #[.int .i64 x, .int .i64 y]]) W := by
  obtain ⟨c0, c1, _⟩ := h
  simp [results, Try.results14, go_sem, h2, h3, c0, c1]
set_option maxHeartbeats 4000000 in
set_option maxRecDepth 100000 in
theorem treeRead_any (s : List UInt8) (w : World) (hs : s.length < 4294967281) :
    Calls Try.prog 14 #[.string ⟨s.toArray⟩] w fun e w' => TreePost s w e w' := by
  have HS := hide hs
  clear hs
  go_enter Try.func14, Try.ntmps14
  go_upto_region 1 with fail
  obtain ⟨W0, hW0⟩ : ∃ x, x = w.alloc (Obj.cells #[.int .i64 0, .int .i64 0] 25) := ⟨_, rfl⟩
  have R0 : Hid (WB W0 w.heap.size 0 0) := by unfold Hid; rw [hW0]; exact WB.new w 0 0 _
  have B0 : Hid (Below w.heap.size w W0) := by unfold Hid; rw [hW0]; exact (Below.refl _ _).alloc (Nat.le_refl _) _
  rw [← hW0]
  clear hW0
  go_wp2_with fail
  refine (Tokens_any s W0 HS.out).mono ?_
  rintro e w1 ⟨ao, cap, ts, c, p, rfl, hown, hor, b1⟩
  have R1 := hide (R0.out.keep b1)
  have B1 := hide (B0.out.trans (b1.mono B0.out.size))
  have hs1 := b1.size
  have hr1 := R1.out.lt
  clear b1 R0
  go_upto_region 2 with fail
  obtain ⟨W2, hW2⟩ : ∃ x, x = w1.alloc (Obj.cells #[.int .i64 c, .int .i64 p] 25) := ⟨_, rfl⟩
  have b2 : Below w1.heap.size w1 W2 := by rw [hW2]; exact (Below.refl _ _).alloc (Nat.le_refl _) _
  have X2 : Hid (WB W2 w1.heap.size c p) := by unfold Hid; rw [hW2]; exact WB.new w1 _ _ _
  have s2 : Hid (W2.heap.size = w1.heap.size + 1) := by unfold Hid; rw [hW2]; simp
  rw [← hW2]
  have R2 := hide (R1.out.keep b2)
  have B2 := hide (B1.out.trans (b2.mono B1.out.size))
  have T2 : Hid (TA W2 (In W0.heap.size w1.heap.size) ao ts) := (owns_TA hown).keep (KeptIn.below b2 (Nat.le_refl _) _)
  clear hW2 b2 R1 B1 hown B0
  have x0 := X2.out.c0
  have x1 := X2.out.c1
  have hxl := X2.out.lt
  rcases hor with ⟨hT, rfl, rfl⟩ | ⟨hT, rfl⟩
  · have HT := hide hT
    have HTO := hide (toksS_ok hT)
    have htm := toksS_many hT
    clear hT
    go_upto_region 5 with fail
    obtain ⟨W3, hW3⟩ : ∃ x, x = W2.alloc (Obj.cells #[.slice ao ts.length cap, .int .i64 0, .int .i64 s.length] 75) := ⟨_, rfl⟩
    have b3 : Below W2.heap.size W2 W3 := by rw [hW3]; exact (Below.refl _ _).alloc (Nat.le_refl _) _
    have S3 : Hid (RS W3 W2.heap.size ao cap ts ts s.length) := by
      refine ⟨⟨0, Nat.zero_le _, rfl, ?_⟩, ?_⟩
      · rw [hW3]
        refine ⟨?_, ?_, ?_, ?_⟩
        all_goals (first | (rw [World.frozen?_alloc_new]; done) | (rw [World.cell?_alloc_new]; rfl))
      · intro k hk
        obtain ⟨q, e, hq, k1, k2, k3⟩ := (T2.out.keep (KeptIn.below b3 (by rw [s2.out]; omega) _)) k hk
        exact ⟨q, e, by have := hq.2; have := s2.out; omega, k1, k2, k3⟩
    rw [← hW3]
    have R3 := hide (R2.out.keep b3)
    have X3 := hide (X2.out.keep b3)
    have B3 := hide (B2.out.trans (b3.mono B2.out.size))
    have hs3 : W2.heap.size < W3.heap.size := S3.out.lt
    clear hW3 b3 R2 X2 B2 T2 x0 x1
    go_wp2_with fail
    refine (file_any W2.heap.size ao cap ts s.length W3 S3.out HTO.out (by omega)).mono ?_
    rintro e w4 ⟨B4, h4⟩
    have R4 := hide (R3.out.same' (B4.block _ R3.out.lt (by omega)))
    have X4 := hide (X3.out.same' (B4.block _ X3.out.lt (by omega)))
    have B5 : Hid (Below w.heap.size w w4) := B3.out.trans (B4.low (by omega) (by omega))
    have hs4 := B4.size
    clear B4 R3 X3 B3 S3
    have x0 := X4.out.c0
    have x1 := X4.out.c1
    have q0 := X4.out.fr 0 (by decide)
    have q1 := X4.out.fr 1 (by decide)
    have hxl4 := X4.out.lt
    cases hx : itemsF (ts.length + 1) ts with
    | bad r' =>
      rw [hx] at h4
      subst h4
      have HX := hide (readS10_bad HT.out hx)
      obtain ⟨w5, hw5⟩ : ∃ x, x = put2 w4 w1.heap.size 4 (atR s.length r') := ⟨_, rfl⟩
      have X5 : Hid (WB w5 w1.heap.size 4 (atR s.length r')) := by unfold Hid; rw [hw5]; exact X4.out.put _ _
      have R5 : Hid (WB w5 w.heap.size 0 0) := by unfold Hid; rw [hw5]; exact R4.out.otherp (by omega) _ _
      have B6 : Hid (Below w.heap.size w w5) := by unfold Hid; rw [hw5]; exact put2_below B5.out _ (by omega) _ _
      have HW5 := hide hw5
      unfold put2 at HW5
      clear hw5 R4 X4 B5 hx
      go_upto_region 6 with fail
      rw [← HW5.out]
      clear HW5
      go_wp2_with fail
      refine (tooDeep_any .nil trivial (by simp [Fo.len]) none 0 w5 (FA.nil _ _ _)).mono ?_
      rintro e w6 ⟨rfl, b6⟩
      have hd : Fo.nil.deepAny = false := rfl
      rw [hd]
      have X6 := hide (X5.out.keep b6)
      have R6 := hide (R5.out.keep b6)
      have B7 := hide (B6.out.trans (b6.mono B6.out.size))
      clear b6 X5 R5 B6 x0 x1 q0 q1
      have x0 := X6.out.c0
      have x1 := X6.out.c1
      have hxl6 := X6.out.lt
      have r0 := R6.out.c0
      have r1 := R6.out.c1
      have f0 := R6.out.fr 0 (by decide)
      have f1 := R6.out.fr 1 (by decide)
      have hrl6 := R6.out.lt
      have HP : Hid (WB (put2 w6 w.heap.size 4 (atR s.length r')).drew w.heap.size 4 (atR s.length r')) := (R6.out.put _ _).keep ((Below.refl _ _).drew)
      have HB : Hid (Below w.heap.size w (put2 w6 w.heap.size 4 (atR s.length r')).drew) := (put2_below B7.out _ (Nat.le_refl _) _ _).drew
      unfold put2 at HP HB
      clear R6 B7 X6
      go_wp2_with fail
      go_region
      go_wp2_with fail
      refine bodyPost_ret (v := .tuple #[.slice none 0 0, .agg #[.int .i64 4, .int .i64 (atR s.length r')]]) ?_ rfl ?_
      · exact resReadTree HP.out rfl rfl
      · exact TreePost.bad HX.out HB.out
    | ok xs r' =>
      rw [hx] at h4
      obtain ⟨F, a, cF, rfl, hFA, hSh⟩ := h4
      have hok := items_okI _ _ _ _ hx
      have hfit := shIs_fit (n := 2000) (by decide) hSh (fun y hy => ⟨fun f hf => Nat.le_trans ((hok.1 y hy).1 f hf) htm, Nat.le_trans (hok.1 y hy).2 htm⟩)
      have HFit : Hid (F.fit 4294967280) := Fo.fit_mono (by decide) hfit.1
      have HFl : Hid (F.len ≤ 2000) := by unfold Hid; rw [hfit.2]; omega
      have HX := hide (readS10_ok HT.out hx)
      have HSh := hide hSh
      have HDp : Hid (xs.any deepI = F.deepAny) := shIs_deep hSh
      obtain ⟨w5, hw5⟩ : ∃ x, x = put2 w4 w1.heap.size 0 0 := ⟨_, rfl⟩
      have X5 : Hid (WB w5 w1.heap.size 0 0) := by unfold Hid; rw [hw5]; exact X4.out.put _ _
      have R5 : Hid (WB w5 w.heap.size 0 0) := by unfold Hid; rw [hw5]; exact R4.out.otherp (by omega) _ _
      have B6 : Hid (Below w.heap.size w w5) := by unfold Hid; rw [hw5]; exact put2_below B5.out _ (by omega) _ _
      have s5 : w5.heap.size = w4.heap.size := by rw [hw5]; unfold put2; rw [size_set, size_set]
      have F5 : Hid (FA w5 (In W3.heap.size w5.heap.size) a F) := by
        unfold Hid; rw [s5, hw5]
        exact hFA.keep ((KeptIn.set (.inl (by omega))).trans (KeptIn.set (.inl (by omega))))
      have HW5 := hide hw5
      unfold put2 at HW5
      clear hw5 R4 X4 B5 hx hFA hSh hfit hok s5
      go_upto_region 6 with fail
      rw [← HW5.out]
      clear HW5
      go_wp2_with fail
      refine (tooDeep_any F HFit.out (by have := HFl.out; omega) a cF w5 (F5.out.sub fun b k => k.2)).mono ?_
      rintro e w6 ⟨rfl, b6⟩
      have X6 := hide (X5.out.keep b6)
      have R6 := hide (R5.out.keep b6)
      have B7 := hide (B6.out.trans (b6.mono B6.out.size))
      have F6 : Hid (FA w6 (In W3.heap.size w6.heap.size) a F) := (F5.out.keep (KeptIn.below b6 (Nat.le_refl _) _)).sub (In.mono (Nat.le_refl _) b6.size)
      clear b6 X5 R5 B6 F5 x0 x1 q0 q1
      have x0 := X6.out.c0
      have x1 := X6.out.c1
      have hxl6 := X6.out.lt
      have r0 := R6.out.c0
      have r1 := R6.out.c1
      have f0 := R6.out.fr 0 (by decide)
      have f1 := R6.out.fr 1 (by decide)
      have hrl6 := R6.out.lt
      cases hd : F.deepAny with
      | true =>
        have HX2 : Hid (readS10 s = .bad 5 0) := by unfold Hid; rw [HX.out, HDp.out, hd]; rfl
        have HP : Hid (WB (put2 w6 w.heap.size 5 0) w.heap.size 5 0) := R6.out.put _ _
        have HB : Hid (Below w.heap.size w (put2 w6 w.heap.size 5 0)) := put2_below B7.out _ (Nat.le_refl _) _ _
        unfold put2 at HP HB
        clear R6 B7 X6 F6 hd HX
        go_wp2_with fail
        refine bodyPost_ret (v := .tuple #[.slice none 0 0, .agg #[.int .i64 5, .int .i64 0]]) ?_ rfl ?_
        · exact resReadTree HP.out rfl rfl
        · exact TreePost.bad HX2.out HB.out
      | false =>
        have HX2 : Hid (readS10 s = .ok xs) := by unfold Hid; rw [HX.out, HDp.out, hd]; rfl
        have HP : Hid (WB (put2 w6 w.heap.size 0 0).drew w.heap.size 0 0) := (R6.out.put _ _).keep ((Below.refl _ _).drew)
        have HB : Hid (Below w.heap.size w (put2 w6 w.heap.size 0 0).drew) := (put2_below B7.out _ (Nat.le_refl _) _ _).drew
        have HF : Hid (FA (put2 w6 w.heap.size 0 0).drew (In w.heap.size (put2 w6 w.heap.size 0 0).drew.heap.size) a F) := by
          have e : (put2 w6 w.heap.size 0 0).drew.heap.size = w6.heap.size := by
            show (put2 w6 w.heap.size 0 0).heap.size = _
            unfold put2; rw [size_set, size_set]
          unfold Hid
          rw [e]
          have h1 : FA (put2 w6 w.heap.size 0 0) (In W3.heap.size w6.heap.size) a F := F6.out.keep ((KeptIn.set (.inl (by omega))).trans (KeptIn.set (.inl (by omega))))
          exact (h1.keep (W' := (put2 w6 w.heap.size 0 0).drew) (fun _ _ => rfl)).sub (In.mono (by omega) (Nat.le_refl _))
        unfold put2 at HP HB HF
        clear R6 B7 X6 F6 hd HX
        go_wp2_with fail
        go_region
        go_wp2_with fail
        refine bodyPost_ret (v := .tuple #[.slice a F.len cF, .agg #[.int .i64 0, .int .i64 0]]) ?_ rfl ?_
        · exact resReadTree HP.out rfl rfl
        · exact TreePost.ok HX2.out HB.out HF.out HSh.out HFit.out HFl.out
  · have HX := hide (readS10_lex hT)
    have hc : ((c : Int) != 0) = true := by have := toksS_code hT; simp; omega
    have r0 := R2.out.c0
    have r1 := R2.out.c1
    have q0 := R2.out.fr 0 (by decide)
    have q1 := R2.out.fr 1 (by decide)
    have hrl := R2.out.lt
    clear hT
    have HP : Hid (WB (put2 W2 w.heap.size c p).drew w.heap.size c p) := (R2.out.put c p).keep ((Below.refl _ _).drew)
    have HB : Hid (Below w.heap.size w (put2 W2 w.heap.size c p).drew) := (put2_below B2.out _ (Nat.le_refl _) _ _).drew
    unfold put2 at HP HB
    clear R2 B2 X2 T2
    go_wp2_with fail
    go_region
    go_wp2_with fail
    refine bodyPost_ret (v := .tuple #[.slice none 0 0, .agg #[.int .i64 c, .int .i64 p]]) ?_ rfl ?_
    · exact resReadTree HP.out rfl rfl
    · exact TreePost.bad HX.out HB.out
end Go.Proofs.Ytcmmjmgbanafgaa

/- The walk over syn.write. -/
namespace Go.Proofs.Ytcmmjmgbanafgaa
open Go.RowKit Go.Proofs.Url Go.Proofs.Url.Syn

theorem others_below {T : TypeId} {b : Option Nat} {w w' : World} (h : Below w.heap.size w w') : Lib.OthersKept T b w w' := by
  intro k o hk _ _
  have hlt : k < w.heap.size := by
    rcases Nat.lt_or_ge k w.heap.size with h | h
    · exact h
    · rw [Array.getElem?_eq_none h] at hk; cases hk
  rw [h.block k hlt]; exact hk
theorem WrP.belowW {B b : Nat} {l : List UInt8} {w w' : World} (h : IsB B b l w) (hB : B ≤ w.heap.size) (hb : Below w.heap.size w w') : WrP B b l w w' := ⟨h.below hb, hb.mono hB, others_below hb⟩
def WriteOk (x : Nd) : Prop := ∀ (a1 a2 : Option Addr) (c1 c2 B b : Nat) (l : List UInt8) (w : World), NA w (fun k => k < B) a1 a2 x → IsB B b l w → B ≤ w.heap.size → x.1.length ≤ 4294967280 → x.2.len ≤ 4294967280 → x.2.fit 4294967280 → (l ++ ndS x).length < 4294967260 →
  Calls Try.prog 21 #[.pointer (some ⟨b, 0, none⟩), .agg #[.slice a1 x.1.length c1, .slice a2 x.2.len c2]] w fun e w' => e = .returned (.tuple #[]) ∧ WrP B b (l ++ ndS x) w w'
set_option maxHeartbeats 4000000 in
set_option maxRecDepth 100000 in
theorem write_step (x : Nd) (ih : ∀ y : Nd, y.2.sz < x.2.sz → WriteOk y) : WriteOk x := by
  intro a1 a2 c1 c2 B b l w hN hI hB hl1 hl2 hfit hlen
  have HN := hide hN
  have HI := hide hI
  have HL1 := hide hl1
  have HL2 := hide hl2
  have HFit := hide hfit
  have HLen := hide hlen
  have HIH := hide ih
  have hbg := hI.ge
  clear hN hI hl1 hl2 hfit hlen ih
  obtain ⟨W0, hW0⟩ : ∃ v, v = w.alloc (Obj.cells #[.slice a1 x.1.length c1, .slice a2 x.2.len c2] 51) := ⟨_, rfl⟩
  have P0 : Hid (WrP B b l w W0) := by unfold Hid; rw [hW0]; exact (WrP.refl HI.out).alloc hB _
  have O0 : Hid (W0.heap[w.heap.size]? = some (.cells #[.slice a1 x.1.length c1, .slice a2 x.2.len c2] 51 (0, 0))) := by unfold Hid; rw [hW0]; exact obj_new _ _ _
  have b0 : Below w.heap.size w W0 := by rw [hW0]; exact (Below.refl _ _).alloc (Nat.le_refl _) _
  have HWd : Hid (Calls Try.prog 29 #[.agg #[.slice a1 x.1.length c1, .slice a2 x.2.len c2]] W0 fun e w' => e = .returned (.string ⟨(joinT x.1).toArray⟩) ∧ Below W0.heap.size W0 w') :=
    words_any x a1 a2 c1 c2 W0 ((HN.out.keep (KeptIn.belowK b0 fun _ h => by have h : _ < B := h; omega)).sub fun _ h => by have h : _ < B := h; have := b0.size; omega) HL1.out (by have h := HLen.out; unfold ndS at h; simp only [List.length_append] at h; omega)
  go_enter Try.func21, Try.ntmps21
  go_upto_region 1 with fail
  rw [← hW0]
  clear hW0 b0
  have c0 : W0.cell? ⟨w.heap.size, 0, none⟩ = some (.slice a1 x.1.length c1) := by rw [Lib.cell_of_heap O0.out]; rfl
  have c1' : W0.cell? ⟨w.heap.size, 1, none⟩ = some (.slice a2 x.2.len c2) := by rw [Lib.cell_of_heap O0.out]; rfl
  have h0l : w.heap.size < W0.heap.size := World.block_lt_of_cell? W0 _ c0
  go_wp2_with fail
  refine HWd.out.mono ?_
  rintro e w1 ⟨rfl, hb1⟩
  have P1 := hide (P0.out.trans (WrP.belowW P0.out.is (by have := P0.out.be.size; omega) hb1))
  have O1 : Hid (w1.heap[w.heap.size]? = some (.cells #[.slice a1 x.1.length c1, .slice a2 x.2.len c2] 51 (0, 0))) := by unfold Hid; rw [hb1.block _ h0l]; exact O0.out
  clear hb1 P0 O0 c0 c1' HWd
  go_wp2_with fail
  refine (writeS B b l (joinT x.1) w1 P1.out.is (by have h := HLen.out; unfold ndS at h; simp only [List.length_append] at h ⊢; omega) (by have := P1.out.be.size; omega)).mono ?_
  rintro e w2 ⟨rfl, P2'⟩
  have P2 := hide (P1.out.trans P2')
  have O2 := hide (kept_obj P2'.ok O1.out (by omega) (by decide))
  have x1 : w2.cell? ⟨w.heap.size, 1, none⟩ = some (.slice a2 x.2.len c2) := by rw [Lib.cell_of_heap O2.out]; rfl
  have hwr : w.heap.size < w2.heap.size := World.block_lt_of_cell? w2 _ x1
  clear P2' P1 O1 h0l
  go_wp2_with fail
  go_loopw [13] (fun iv W => ∃ (k : Nat) (G : Fo) (pre : List UInt8), k + G.len = x.2.len ∧ G.sz ≤ x.2.sz ∧ iv = .int .i64 k ∧ Hid (pre ++ G.told = x.2.told) ∧ Hid (WrP B b (l ++ joinT x.1 ++ pre) w W) ∧ Hid (G = .nil ∨ ∃ g, a2 = some ⟨g, 0, none⟩ ∧ g < B ∧ FC W (fun k => k < B) G g k) ∧ Hid (G.fit 4294967280)) (fun iv _ => x.2.len - (intOf iv).toNat)
  case atStart =>
    refine ⟨0, x.2, [], by omega, Nat.le_refl _, rfl, rfl, by unfold Hid; rw [List.append_nil]; exact P2.out, ?_, HFit⟩
    rcases HN.out.f.keep (KeptIn.belowK P2.out.be fun _ h => h) with h | h
    · exact .inl h
    · exact .inr h
  case round =>
    obtain ⟨k, G, pre, hk, hgs, rfl, hT, hP, hC, hG⟩ := hrel
    clear P2 x1 hwr O2
    cases G with
    | nil =>
      have hlI2 : ¬ (k : Int) < (x.2.len : Int) := by simp [Fo.len] at hk; omega
      have HE : Hid (WrP B b (l ++ ndS x) w wr) := by
        unfold Hid ndS
        have h1 := hT.out
        have h2 := hP.out
        simp only [Fo.told, List.append_nil] at h1
        rwa [h1, List.append_assoc] at h2
      clear hT hP hC hG hk hgs
      go_wp2_with fail
      refine bodyPost_end (v := .tuple #[]) (by kernel_rfl) rfl ?_
      exact ⟨rfl, HE.out⟩
    | cons ts p r =>
      obtain ⟨g, rfl, hgB, e1, f1, e2, f2, k1, k2, ht, hp, hr⟩ := hC.out.resolve_left (by simp)
      have hlI2 : (k : Int) < (x.2.len : Int) := by simp [Fo.len] at hk; omega
      have hkl : k < x.2.len := by simp [Fo.len] at hk; omega
      have hgw : g < wr.heap.size := by have := hP.out.be.size; omega
      have hG2 := hG.out
      have HNd : Hid (NA wr (fun k => k < B) e1 e2 (ts, p)) := ⟨ht, hp⟩
      have HRr := hide hr
      have HG3 := hide hG2.2.2.2.2
      have hkr : k + 1 + r.len = x.2.len := by simp [Fo.len] at hk; omega
      have hrs : r.sz ≤ x.2.sz := by simp [Fo.sz] at hgs; omega
      have hil : (k : Int) < 4294967281 := by have := HL2.out; omega
      have hsz2 : p.sz < x.2.sz := by simp [Fo.sz] at hgs; omega
      have HTold : Hid ((pre ++ [32, 40] ++ ndS (ts, p) ++ [41]) ++ r.told = x.2.told) := by unfold Hid; rw [← hT.out, told_cons]; simp
      have HBound : Hid ((l ++ joinT x.1 ++ (pre ++ [32, 40] ++ ndS (ts, p) ++ [41])).length < 4294967260) := by
        unfold Hid
        have h1 := HLen.out
        unfold ndS at h1
        rw [← HTold.out] at h1
        simp only [List.length_append] at h1 ⊢
        omega
      have HW : Hid (∀ (m : List UInt8) (W : World), Below B wr W → IsB B b m W → (m ++ ndS (ts, p)).length < 4294967260 → Calls Try.prog 21 #[.pointer (some ⟨b, 0, none⟩), .agg #[.slice e1 ts.length f1, .slice e2 p.len f2]] W fun e w' => e = .returned (.tuple #[]) ∧ WrP B b (m ++ ndS (ts, p)) W w') := fun m W hbW hI hm =>
        HIH.out (ts, p) hsz2 e1 e2 f1 f2 B b m W (HNd.out.keep (KeptIn.belowK hbW fun _ h => h)) hI (by have := hP.out.be.size; have := hbW.size; omega) hG2.1 hG2.2.1 hG2.2.2.2.1 hm
      clear hC hG hG2 hT hp hr ht hgs hk
      go_upto_region 5 with fail
      obtain ⟨W2, hW2⟩ : ∃ v, v = wr.alloc (Obj.cells #[.slice e1 ts.length f1, .slice e2 p.len f2] 51) := ⟨_, rfl⟩
      have P2 : Hid (WrP B b (l ++ joinT x.1 ++ pre) wr W2) := by unfold Hid; rw [hW2]; exact (WrP.refl hP.out.is).alloc (Nat.le_trans hB hP.out.be.size) _
      have Q2 : Hid (W2.heap[wr.heap.size]? = some (.cells #[.slice e1 ts.length f1, .slice e2 p.len f2] 51 (0, 0))) := by unfold Hid; rw [hW2]; exact obj_new _ _ _
      rw [← hW2]
      clear hW2 k1 k2
      have hB2 : B ≤ W2.heap.size := by have := hP.out.be.size; have := P2.out.be.size; omega
      have hbw : b < wr.heap.size := hP.out.is.ge.2
      go_wp2_with fail
      refine (writeS B b (l ++ joinT x.1 ++ pre) [32, 40] W2 P2.out.is (by have := HBound.out; simp only [List.length_append] at this ⊢; simp at this ⊢; omega) hB2).mono ?_
      rintro e w3 ⟨rfl, P3'⟩
      have Q3 := hide (kept_obj P3'.ok Q2.out (by omega) (by decide))
      have P3 := hide (P2.out.trans P3')
      have d0 : w3.cell? ⟨wr.heap.size, 0, none⟩ = some (.slice e1 ts.length f1) := by rw [Lib.cell_of_heap Q3.out]; rfl
      have d1 : w3.cell? ⟨wr.heap.size, 1, none⟩ = some (.slice e2 p.len f2) := by rw [Lib.cell_of_heap Q3.out]; rfl
      have hdl : wr.heap.size < w3.heap.size := World.block_lt_of_cell? w3 _ d0
      clear P3' P2 Q2
      go_wp2_with fail
      refine (HW.out _ w3 P3.out.be P3.out.is (by have := HBound.out; simp only [List.length_append] at this ⊢; omega)).mono ?_
      rintro e w4 ⟨rfl, P4'⟩
      have P4 := hide (P3.out.trans P4')
      clear P4' P3 Q3 d0 d1 hdl HW
      go_wp2_with fail
      refine (writeS B b _ [41] w4 P4.out.is (by have := HBound.out; simp only [List.length_append] at this ⊢; omega) (by have := P4.out.be.size; omega)).mono ?_
      rintro e w5 ⟨rfl, P5'⟩
      have P5 : Hid (WrP B b (l ++ joinT x.1 ++ (pre ++ [32, 40] ++ ndS (ts, p) ++ [41])) w w5) := by
        have h1 := hP.out.trans (P4.out.trans P5')
        unfold Hid
        simpa using h1
      have HC5 : Hid (r = .nil ∨ ∃ g', some (⟨g, 0, none⟩ : Addr) = some ⟨g', 0, none⟩ ∧ g' < B ∧ FC w5 (fun k => k < B) r g' (k + 1)) := .inr ⟨g, rfl, hgB, HRr.out.keep (KeptIn.belowK (P4.out.trans P5').be fun _ h => h) hgB⟩
      clear P5' P4 hP HRr
      go_wp2_with fail
      exact ⟨⟨k + 1, r, _, hkr, hrs, by go_num, HTold, P5, HC5, HG3⟩, by simp [intOf]; omega⟩
theorem write_any : ∀ (n : Nat) (x : Nd), x.2.sz ≤ n → WriteOk x := by
  intro n
  induction n with
  | zero => exact fun x h => write_step x fun y hy => absurd hy (by omega)
  | succ n ih => exact fun x h => write_step x fun y hy => ih y (by omega)
end Go.Proofs.Ytcmmjmgbanafgaa

/- Plain: how long what is told of a text may be. -/
namespace Go.Proofs.Url
open Syn
def TB8 (ts : List Tk) : Prop := ∀ t ∈ ts, t.text.length ≤ 8000
/-- What is read is no longer than its tokens allow; what is left is a part of them. -/
def Ln {α : Type} (len : α → Nat) (b : Nat) (x : Rd α) (ts : List Tk) : Prop := TB8 ts → ∀ a r, x = .ok a r → len a + 8100 * r.length ≤ b + 8100 * ts.length ∧ (∀ t ∈ r, t ∈ ts)
theorem tail_mem {ts : List Tk} : ∀ t ∈ ts.tail, t ∈ ts := fun _ h => List.mem_of_mem_tail h
theorem TB8.tail {ts : List Tk} (h : TB8 ts) : TB8 ts.tail := fun t ht => h t (tail_mem t ht)
theorem TB8.sub {ts r : List Tk} (h : TB8 ts) (hr : ∀ t ∈ r, t ∈ ts) : TB8 r := fun t ht => h t (hr t ht)
theorem words5_len {k : List UInt8} (h : k ∈ words5) : k.length ≤ 7 := (by decide : ∀ k ∈ words5, k.length ≤ 7) k h
theorem form_un_len (k nm : List UInt8) (a : Nat) : (formS (.un k nm a)).length ≤ k.length + nm.length + 3 := by
  simp only [formS]
  split <;> simp <;> omega
theorem form_ln : ∀ n, (∀ ts, Ln (fun f => (formS f).length) 0 (facF n ts) ts) ∧ (∀ ts, Ln (fun f => (formS f).length) 0 (terF n ts) ts) ∧ (∀ b ts, Ln (fun f => (formS f).length) (formS b).length (terL n b ts) ts) ∧
    (∀ ts, Ln (fun f => (formS f).length) 0 (forF n ts) ts) ∧ (∀ b ts, Ln (fun f => (formS f).length) (formS b).length (forL n b ts) ts) := by
  intro n
  induction n with
  | zero => exact ⟨fun _ _ _ _ h => by simp [facF] at h, fun _ _ _ _ h => by simp [terF] at h, fun _ _ _ _ _ h => by simp [terL] at h, fun _ _ _ _ h => by simp [forF] at h, fun _ _ _ _ _ h => by simp [forL] at h⟩
  | succ n ih =>
    obtain ⟨i1, i2, i3, i4, i5⟩ := ih
    refine ⟨?_, ?_, ?_, ?_, ?_⟩
    · intro ts hT a r h
      rw [facF_succ] at h
      split at h
      · rename_i hs
        obtain ⟨b, hb, rfl⟩ := map_ok h
        have h1 := i1 _ hT.tail _ _ hb
        have := isT_len hs
        refine ⟨?_, fun t ht => tail_mem t (h1.2 t ht)⟩
        have := h1.1
        simp only [formS, List.length_cons, List.length_append, List.length_nil] at *
        omega
      · split at h
        · rename_i _ hs
          obtain ⟨b, r1, hb, h2⟩ := then_ok h
          obtain ⟨u, h3, rfl⟩ := map_ok h2
          obtain ⟨h4, rfl⟩ := needR_ok h3
          have h5 := i4 _ hT.tail _ _ hb
          have := isT_len hs
          have := isT_len h4
          exact ⟨by have := h5.1; simp only at *; omega, fun t ht => tail_mem t (h5.2 t (tail_mem t ht))⟩
        · split at h
          · rename_i hs
            obtain ⟨t, h2, rfl⟩ := map_ok h
            obtain ⟨h3, _⟩ := kindR_ok h2
            have hk : (headText ts).length ≤ 7 := by
              unfold word5 at hs
              rw [List.any_eq_true] at hs
              obtain ⟨w, hw, hwt⟩ := hs
              rw [isT_head hwt]; exact words5_len hw
            have ht : t.text.length ≤ 8000 := hT t (tail_mem t (by rw [h3]; exact List.mem_cons_self))
            have hf := form_un_len (headText ts) t.text t.at'
            cases ts with
            | nil => cases hs
            | cons x xs =>
              have h3' : xs = t :: r := h3
              subst h3'
              refine ⟨?_, fun y hy => List.mem_cons_of_mem _ (List.mem_cons_of_mem _ hy)⟩
              simp only [List.length_cons] at *
              omega
          · cases h
    · intro ts hT a r h
      rw [terF_succ] at h
      obtain ⟨b, r1, hb, h2⟩ := then_ok h
      have h3 := i1 _ hT _ _ hb
      have h4 := i3 _ _ (hT.sub h3.2) _ _ h2
      exact ⟨by have := h3.1; have := h4.1; simp only at *; omega, fun t ht => h3.2 t (h4.2 t ht)⟩
    · intro b ts hT a r h
      rw [terL_succ] at h
      split at h
      · rename_i hs
        obtain ⟨c, r1, hc, h2⟩ := then_ok h
        have h3 := i1 _ hT.tail _ _ hc
        have h4 := i3 _ _ (hT.tail.sub h3.2) _ _ h2
        have h5 := isT_len hs
        refine ⟨?_, fun t ht => tail_mem t (h3.2 t (h4.2 t ht))⟩
        have h6 := h3.1
        have h7 := h4.1
        simp only [formS, List.length_cons, List.length_append, List.length_nil] at *
        omega
      · cases h; exact ⟨Nat.le_refl _, fun _ h => h⟩
    · intro ts hT a r h
      rw [forF_succ] at h
      obtain ⟨b, r1, hb, h2⟩ := then_ok h
      have h3 := i2 _ hT _ _ hb
      have h4 := i5 _ _ (hT.sub h3.2) _ _ h2
      exact ⟨by have := h3.1; have := h4.1; simp only at *; omega, fun t ht => h3.2 t (h4.2 t ht)⟩
    · intro b ts hT a r h
      rw [forL_succ] at h
      split at h
      · rename_i hs
        obtain ⟨c, r1, hc, h2⟩ := then_ok h
        have h3 := i2 _ hT.tail _ _ hc
        have h4 := i5 _ _ (hT.tail.sub h3.2) _ _ h2
        have h5 := isT_len hs
        refine ⟨?_, fun t ht => tail_mem t (h3.2 t (h4.2 t ht))⟩
        have h6 := h3.1
        have h7 := h4.1
        simp only [formS, List.length_cons, List.length_append, List.length_nil] at *
        omega
      · cases h; exact ⟨Nat.le_refl _, fun _ h => h⟩
theorem told_len (t : Tk) : (toldS t).length ≤ t.text.length + 3 := by
  unfold toldS
  split
  · simp
  · split <;> simp
theorem kind_parts {k : Nat} {ts : List Tk} {t : Tk} {r : List Tk} (h : kindR k ts = .ok t r) (hT : TB8 ts) : t.text.length ≤ 8000 ∧ TB8 r ∧ r.length + 1 = ts.length ∧ (∀ x ∈ r, x ∈ ts) := by
  obtain ⟨rfl, _⟩ := kindR_ok h
  exact ⟨hT t List.mem_cons_self, fun x hx => hT x (List.mem_cons_of_mem _ hx), by simp, fun x hx => List.mem_cons_of_mem _ hx⟩
theorem need_parts {w : List UInt8} {ts : List Tk} {u : Unit} {r : List Tk} (h : needR w ts = .ok u r) (hT : TB8 ts) : TB8 r ∧ r.length + 1 = ts.length ∧ (∀ x ∈ r, x ∈ ts) := by
  obtain ⟨h1, rfl⟩ := needR_ok h
  have := isT_len h1
  exact ⟨hT.tail, by rw [List.length_tail] at *; omega, fun x hx => tail_mem x hx⟩
theorem attr_ln (ts : List Tk) : Ln (fun a => (attrS a).length) 0 (attrR ts) ts := by
  intro hT a r h
  have hh : ∀ w, isT w ts = true → (headText ts).length = w.length := fun w hw => by rw [isT_head hw]
  have one : ∀ {w : List UInt8} {k : Nat}, w.length ≤ 11 → isT w ts = true → (kindR k ts.tail).map (fun t => (⟨headText ts, headAt ts, t⟩ : Atr)) = .ok a r → (attrS a).length + 8100 * r.length ≤ 0 + 8100 * ts.length ∧ (∀ t ∈ r, t ∈ ts) := by
    intro w k hw hq h
    obtain ⟨t, h2, rfl⟩ := map_ok h
    obtain ⟨h3, h4, h5, h6⟩ := kind_parts h2 hT.tail
    have := isT_len hq
    have := told_len t
    have := hh w hq
    refine ⟨?_, fun x hx => tail_mem x (h6 x hx)⟩
    simp only [attrS, List.length_cons, List.length_append, List.length_nil]
    omega
  unfold attrR at h
  split at h
  · rename_i hs
    rw [List.any_eq_true] at hs
    obtain ⟨w, hm, hw⟩ := hs
    cases h
    have := isT_len hw
    have hw2 := hh w hw
    have hw3 : w.length ≤ 11 := (by decide : ∀ w ∈ bare6, w.length ≤ 11) w hm
    refine ⟨?_, fun x hx => tail_mem x hx⟩
    have : toldS zeroT = [] := rfl
    simp only [attrS, List.length_cons, List.length_append, List.length_nil, this]
    omega
  · split at h
    · rename_i _ hs
      rw [List.any_eq_true] at hs
      obtain ⟨w, hm, hw⟩ := hs
      exact one ((by decide : ∀ w ∈ named5, w.length ≤ 11) w hm) hw h
    · split at h
      · rename_i _ _ hs
        split at h
        · exact one (w := w_cors) (by decide) hs h
        · exact one (w := w_cors) (by decide) hs h
      · split at h
        · rename_i _ _ _ hs
          rw [List.any_eq_true] at hs
          obtain ⟨w, hm, hw⟩ := hs
          exact one ((by decide : ∀ w ∈ texted4, w.length ≤ 11) w hm) hw h
        · cases h
theorem attrs_ln : ∀ (k : Nat) (ts : List Tk), Ln (fun l => (l.flatMap attrS).length) 0 (attrsF k ts) ts
  | 0, ts => fun _ _ _ h => by simp [attrsF] at h
  | k + 1, ts => by
    intro hT l r h
    rw [attrs_succq] at h
    split at h
    · cases h; exact ⟨by simp, fun _ h => h⟩
    · obtain ⟨a, r1, h1, h2⟩ := then_ok h
      obtain ⟨l2, h3, rfl⟩ := map_ok h2
      rw [semi_then] at h1
      obtain ⟨b, r0, h4, h5⟩ := then_ok h1
      obtain ⟨u, r2, h6, h7⟩ := then_ok h5
      cases h7
      have e1 := attr_ln ts hT _ _ h4
      obtain ⟨e2, e3, e4⟩ := need_parts h6 (hT.sub e1.2)
      have e5 := attrs_ln k r1 e2 _ _ h3
      have e6 := e1.1
      have e7 := e5.1
      refine ⟨?_, fun x hx => e1.2 x (e4 x (e5.2 x hx))⟩
      simp only [List.flatMap_cons, List.length_append] at *
      omega
theorem line_len (y : Itm) : (lineS y).length = y.k.length + (toldS y.name).length + (if y.whr.kind = 0 then 0 else 3 + (toldS y.whr).length) + (toldS y.caps).length + (toldS y.txt).length + (y.attrs.flatMap attrS).length + (match y.f with | none => 0 | some f => 1 + (formS f).length) + 1 := by
  unfold lineS
  have e1 : (if y.whr.kind = 0 then ([] : List UInt8) else [32, 97, 116] ++ toldS y.whr).length = if y.whr.kind = 0 then 0 else 3 + (toldS y.whr).length := by
    split
    · rfl
    · simp; omega
  simp only [List.length_append, e1]
  cases y.f <;> simp <;> omega
theorem whr_len (t : Tk) : (if t.kind = 0 then 0 else 3 + (toldS t).length) ≤ t.text.length + 6 := by
  have := told_len t
  split <;> omega
theorem told_zero : (toldS zeroT).length = 0 := rfl
/-- What stands behind an item's first words. -/
theorem line_le (y : Itm) : (lineS y).length ≤ y.k.length + (toldS y.name).length + (y.whr.text.length + 6) + (toldS y.caps).length + (toldS y.txt).length + (y.attrs.flatMap attrS).length + (match y.f with | none => 0 | some f => 1 + (formS f).length) + 1 := by
  rw [line_len]
  have := whr_len y.whr
  omega
theorem item_ln (ts : List Tk) : Ln (fun y => (lineS y).length) 0 (itemR ts) ts := by
  intro hT y r h
  have hh : ∀ {w : List UInt8}, isT w ts = true → (headText ts).length = w.length := fun hw => by rw [isT_head hw]
  unfold itemR at h
  split at h
  · rename_i hq
    rw [semi_then] at h
    obtain ⟨y2, r0, h1, h2⟩ := then_ok h
    obtain ⟨u, r9, h3, h4⟩ := then_ok h2
    cases h4
    obtain ⟨nm, r1, g1, g2⟩ := then_ok h1
    obtain ⟨tx, g3, rfl⟩ := map_ok g2
    obtain ⟨a1, a2, a3, a4⟩ := kind_parts g1 hT.tail
    obtain ⟨b1, b2, b3, b4⟩ := kind_parts g3 a2
    obtain ⟨c2, c3, c4⟩ := need_parts h3 b2
    have := isT_len hq
    have := hh hq
    have := told_len nm
    have := told_len tx
    refine ⟨?_, fun x hx => tail_mem x (a4 x (b4 x (c4 x hx)))⟩
    have e := line_le ⟨headText ts, headAt ts, nm, zeroT, zeroT, tx, [], none⟩
    simp only [told_zero, List.flatMap_nil, List.length_nil] at e ⊢
    simp only [w_origin, List.length_cons, List.length_nil] at *
    omega
  split at h
  · rename_i hq
    rw [semi_then] at h
    obtain ⟨y2, r0, h1, h2⟩ := then_ok h
    obtain ⟨u, r9, h3, h4⟩ := then_ok h2
    cases h4
    obtain ⟨nm, r1, g1, g2⟩ := then_ok h1
    obtain ⟨u2, r2, g3, g4⟩ := then_ok g2
    obtain ⟨wh, r3, g5, g6⟩ := then_ok g4
    obtain ⟨tx, g7, rfl⟩ := map_ok g6
    obtain ⟨a1, a2, a3, a4⟩ := kind_parts g1 hT.tail
    obtain ⟨b2, b3, b4⟩ := need_parts g3 a2
    obtain ⟨c1, c2, c3, c4⟩ := kind_parts g5 b2
    obtain ⟨d1, d2, d3, d4⟩ := kind_parts g7 c2
    obtain ⟨e2, e3, e4⟩ := need_parts h3 d2
    have := isT_len hq
    have := hh hq
    have := told_len nm
    have := told_len tx
    refine ⟨?_, fun x hx => tail_mem x (a4 x (b4 x (c4 x (d4 x (e4 x hx)))))⟩
    have e := line_le ⟨headText ts, headAt ts, nm, wh, zeroT, tx, [], none⟩
    simp only [told_zero, List.flatMap_nil, List.length_nil] at e ⊢
    simp only [w_cookie, List.length_cons, List.length_nil] at *
    omega
  split at h
  · rename_i hq
    rw [semi_then] at h
    obtain ⟨y2, r0, h1, h2⟩ := then_ok h
    obtain ⟨u, r9, h3, h4⟩ := then_ok h2
    cases h4
    obtain ⟨nm, g1, rfl⟩ := map_ok h1
    obtain ⟨a1, a2, a3, a4⟩ := kind_parts g1 hT.tail
    obtain ⟨c2, c3, c4⟩ := need_parts h3 a2
    have := isT_len hq
    have := hh hq
    have := told_len nm
    refine ⟨?_, fun x hx => tail_mem x (a4 x (c4 x hx))⟩
    have e := line_le ⟨headText ts, headAt ts, nm, zeroT, zeroT, zeroT, [], none⟩
    simp only [told_zero, List.flatMap_nil, List.length_nil] at e ⊢
    simp only [w_secret, List.length_cons, List.length_nil] at *
    omega
  split at h
  · rename_i hq
    rw [semi_then] at h
    obtain ⟨y2, r0, h1, h2⟩ := then_ok h
    obtain ⟨u, r9, h3, h4⟩ := then_ok h2
    cases h4
    cases h1
    obtain ⟨c2, c3, c4⟩ := need_parts h3 hT.tail
    have := isT_len hq
    have := hh hq
    refine ⟨?_, fun x hx => tail_mem x (c4 x hx)⟩
    have e := line_le ⟨headText ts, headAt ts, zeroT, zeroT, zeroT, zeroT, [], none⟩
    simp only [told_zero, List.flatMap_nil, List.length_nil] at e ⊢
    simp only [w_network, List.length_cons, List.length_nil] at *
    omega
  split at h
  · rename_i hq
    obtain ⟨nm, r1, g1, h⟩ := then_ok h
    obtain ⟨_, r2, g2, h⟩ := then_ok h
    obtain ⟨wh, r3, g3, h⟩ := then_ok h
    obtain ⟨cp, r4, g4, h⟩ := then_ok h
    obtain ⟨tx, r5, g5, h⟩ := then_ok h
    obtain ⟨_, r6, g6, h⟩ := then_ok h
    obtain ⟨l, r7, g7, h⟩ := then_ok h
    obtain ⟨u, g8, rfl⟩ := map_ok h
    obtain ⟨a1, a2, a3, a4⟩ := kind_parts g1 hT.tail
    obtain ⟨b2, b3, b4⟩ := need_parts g2 a2
    obtain ⟨c1, c2, c3, c4⟩ := kind_parts g3 b2
    obtain ⟨d1, d2, d3, d4⟩ := kind_parts g4 c2
    obtain ⟨e1, e2, e3, e4⟩ := kind_parts g5 d2
    obtain ⟨f2, f3, f4⟩ := need_parts g6 e2
    have k := attrs_ln _ _ f2 _ _ g7
    obtain ⟨m2, m3, m4⟩ := need_parts g8 (f2.sub k.2)
    have := k.1
    have := isT_len hq
    have := hh hq
    have := told_len nm
    have := told_len cp
    have := told_len tx
    refine ⟨?_, fun x hx => tail_mem x (a4 x (b4 x (c4 x (d4 x (e4 x (f4 x (k.2 x (m4 x hx)))))))) ⟩
    have e := line_le ⟨headText ts, headAt ts, nm, wh, cp, tx, l, none⟩
    simp only at e ⊢
    simp only [w_endpoint, List.length_cons, List.length_nil] at *
    omega
  split at h
  · rename_i hq
    rw [semi_then] at h
    obtain ⟨y2, r0, h1, h2⟩ := then_ok h
    obtain ⟨u, r9, h3, h4⟩ := then_ok h2
    cases h4
    obtain ⟨nm, r1, g1, g2⟩ := then_ok h1
    obtain ⟨u2, r2, g3, g4⟩ := then_ok g2
    obtain ⟨f, g5, rfl⟩ := map_ok g4
    obtain ⟨a1, a2, a3, a4⟩ := kind_parts g1 hT.tail
    obtain ⟨b2, b3, b4⟩ := need_parts g3 a2
    have k := (form_ln _).2.2.2.1 _ b2 _ _ g5
    obtain ⟨e2, e3, e4⟩ := need_parts h3 (b2.sub k.2)
    have := k.1
    have := isT_len hq
    have := hh hq
    have := told_len nm
    refine ⟨?_, fun x hx => tail_mem x (a4 x (b4 x (k.2 x (e4 x hx))))⟩
    have e := line_le ⟨headText ts, headAt ts, nm, zeroT, zeroT, zeroT, [], some f⟩
    simp only [told_zero, List.flatMap_nil, List.length_nil] at e ⊢
    simp only [w_property, List.length_cons, List.length_nil] at *
    omega
  · cases h
theorem items_ln : ∀ (k : Nat) (ts : List Tk), Ln (fun l => (l.flatMap lineS).length) 0 (itemsF k ts) ts
  | 0, ts => fun _ _ _ h => by simp [itemsF] at h
  | k + 1, [] => fun _ _ _ h => by rw [items_nil] at h; cases h; exact ⟨by simp, fun _ h => h⟩
  | k + 1, t :: ts => by
    intro hT l r h
    rw [items_succ] at h
    obtain ⟨x, r1, h1, h2⟩ := then_ok h
    obtain ⟨l2, h3, rfl⟩ := map_ok h2
    have e1 := item_ln (t :: ts) hT _ _ h1
    have e2 := items_ln k r1 (hT.sub e1.2) _ _ h3
    have := e1.1
    have := e2.1
    refine ⟨?_, fun x hx => e1.2 x (e2.2 x hx)⟩
    simp only [List.flatMap_cons, List.length_append] at *
    omega
theorem one_text_len (l : List UInt8) : (oneS l).text.length ≤ l.length := by
  cases l with
  | nil => simp [oneS]
  | cons c r =>
    show (oneC c r).text.length ≤ _
    cases h1 : smallB c with
    | true => rw [oneC_small r h1]; exact takeWhile_le _ _
    | false =>
      cases h2 : capB c with
      | true => rw [oneC_cap r h1 h2]; exact takeWhile_le _ _
      | false =>
        by_cases h3 : c.toNat = 34
        · by_cases hq : r[(r.takeWhile textB).length]? = some 34
          · rw [oneC_text r h1 h2 h3 hq]; have := takeWhile_le textB r; simp; omega
          · rw [oneC_open r h1 h2 h3 hq]; simp
        · cases h4 : signB c with
          | true => rw [oneC_sign r h1 h2 h3 h4]; simp
          | false => rw [oneC_none r h1 h2 h3 h4]; simp
theorem toksF_tb : ∀ (f pos : Nat) (l : List UInt8) (n : Nat) (ts : List Tk), l.length ≤ 8000 → toksF f pos l n = .ok ts → TB8 ts := by
  intro f
  induction f with
  | zero => intro pos l n ts hl h; simp [toksF] at h; subst h; intro t ht; cases ht
  | succ f ih =>
    intro pos l n ts hl h
    rw [toksF_succ] at h
    split at h
    · cases h; intro t ht; cases ht
    · split at h
      · cases h
      · split at h
        · cases h
        · generalize hx : toksF f _ _ _ = x at h
          cases x with
          | bad c q => simp [Toks.put] at h
          | ok us =>
            simp [Toks.put] at h
            subst h
            intro t ht
            rcases List.mem_cons.1 ht with rfl | ht
            · have := one_text_len (l.drop (gapB false l))
              rw [List.length_drop] at this
              show (oneS (l.drop (gapB false l))).text.length ≤ 8000
              omega
            · exact ih _ _ _ _ (by rw [List.length_drop, List.length_drop]; omega) hx t ht
theorem toksS_tb {s : List UInt8} {ts : List Tk} (h : toksS s = .ok ts) : TB8 ts := by
  unfold toksS at h
  split at h
  · cases h
  · exact toksF_tb _ _ _ _ _ (by omega) h
theorem readS10_len {s : List UInt8} {xs : List Itm} (h : readS10 s = .ok xs) : (xs.flatMap lineS).length ≤ 16200000 := by
  unfold readS10 at h
  split at h
  · cases h
  · rename_i ts hT
    split at h
    · cases h
    · cases h
    · rename_i ys r hi
      split at h
      · cases h
      · cases h
        have h1 := (items_ln _ _ (toksS_tb hT) _ _ hi).1
        have h2 := toksS_many hT
        simp only at h1
        omega
end Go.Proofs.Url

/- The walk over syn.Dump. -/
namespace Go.Proofs.Url
open Syn
/-- All nodes of a row, a line each. -/
def Fo.lines : Fo → List UInt8
  | .nil => []
  | .cons ts p r => ndS (ts, p) ++ 10 :: r.lines
theorem shIs_lines : ∀ {p : Fo} {l : List Itm}, ShIs p l → p.lines = l.flatMap lineS
  | .nil, [], _ => rfl
  | .nil, _ :: _, h => h.elim
  | .cons t p r, [], h => h.elim
  | .cons t p r, y :: l, ⟨h, hr⟩ => by
    rw [List.flatMap_cons, shI_told h, ← shIs_lines hr]
    simp [Fo.lines]
end Go.Proofs.Url
namespace Go.Proofs.Ytcmmjmgbanafgaa
open Go.RowKit Go.Proofs.Url Go.Proofs.Url.Syn

/-- What tree.Read gives, whatever the text: nodes, what is wrong. -/
theorem treeRead_all (s : List UInt8) (w : World) (hs : s.length < 4294967281) :
    Calls Try.prog 14 #[.string ⟨s.toArray⟩] w fun e w' => ∃ (F : Fo) (a : Option Addr) (c : Nat) (x y : Nat) (xs : List Itm), e = .returned (.tuple #[.slice a F.len c, .agg #[.int .i64 x, .int .i64 y]]) ∧ Below w.heap.size w w' ∧ FA w' (Old w') a F ∧ ShIs F xs ∧ F.fit 4294967280 ∧ F.len ≤ 2000 ∧ F.lines.length ≤ 16200000 ∧
      ((readS10 s = .ok xs ∧ x = 0 ∧ y = 0) ∨ (readS10 s = .bad x y ∧ xs = [])) := by
  refine (treeRead_any s w hs).mono fun e w' h => ?_
  have h2 := h.2
  cases hx : readS10 s with
  | ok xs =>
    rw [hx] at h2
    obtain ⟨F, a, c, he, hF, hS, h3, h4⟩ := h2
    exact ⟨F, a, c, 0, 0, xs, he, h.1, hF.sub fun b k => k.2, hS, h3, h4, by rw [shIs_lines hS]; exact readS10_len hx, .inl ⟨rfl, rfl, rfl⟩⟩
  | bad c p =>
    rw [hx] at h2
    exact ⟨.nil, none, 0, c, p, [], h2, h.1, .inl rfl, trivial, trivial, by simp [Fo.len], by simp [Fo.lines], .inr ⟨rfl, rfl⟩⟩
/-- What Dump answers. -/
def DumpPost (s : List UInt8) (w : World) (e : Ending) (w' : World) : Prop :=
  Below w.heap.size w w' ∧ (match readS10 s with
    | .ok xs => e = .returned (.tuple #[.string ⟨(xs.flatMap lineS).toArray⟩, .agg #[.int .i64 0, .int .i64 0]])
    | .bad c p => e = .returned (.tuple #[.string ⟨#[]⟩, .agg #[.int .i64 c, .int .i64 p]]))
theorem resReadDump {W : World} {m : Nat} {v : Value} {x y : Int} {tmps : Array Value} (h : WB W m x y) (h2 : tmps[2]?.getD undef = v) (h3 : tmps[3]?.getD undef = .pointer (some ⟨m, 0, none⟩)) :
    (results Try.f10 tmps).run Try.prog W = .ok (.tuple #[v, .agg #[.int .i64 x, .int .i64 y]]) W := by
  obtain ⟨c0, c1, _⟩ := h
  simp [results, Try.results10, go_sem, h2, h3, c0, c1]
structure RD (w : World) (b m3 m5 : Nat) (D : List UInt8) (x y : Int) (L : Nat → Bool) (W : World) : Prop where
  is : L 0 = false → IsB b b D W
  x5 : WB W m5 x y
  r3 : ∃ u v, WB W m3 u v ∧ (L 3 = true → u = x ∧ v = y)
  be : Below w.heap.size w W
  sz : b ≤ W.heap.size
theorem RD.same {w : World} {b m3 m5 : Nat} {D : List UInt8} {x y : Int} {L : Nat → Bool} {W : World} (h : RD w b m3 m5 D x y L W) {i : Nat} (h3 : i ≠ 3) : RD w b m3 m5 D x y (RP.also L i) W := by
  refine ⟨fun hL => h.is ?_, h.x5, ?_, h.be, h.sz⟩
  · unfold RP.also at hL
    split at hL
    · cases hL
    · exact hL
  · have e : RP.also L i 3 = L 3 := by unfold RP.also; rw [if_neg (fun e => h3 e.symm)]
    rw [e]; exact h.r3
theorem WB.there {W : World} {g : Nat} {a b : Int} (h : WB W g a b) : W.there g 0 2 := by
  intro j hj
  rw [Nat.zero_add]
  match j, hj with
  | 0, _ => exact ⟨by rw [h.c0]; rfl, h.fr 0 (by decide)⟩
  | 1, _ => exact ⟨by rw [h.c1]; rfl, h.fr 1 (by decide)⟩
theorem WB.range {W : World} {g : Nat} {a b : Int} (h : WB W g a b) : W.rangeAt g 0 [.int .i64 a, .int .i64 b] := by
  intro j v hj
  match j, hj with
  | 0, hj => cases hj; exact h.c0
  | 1, hj => cases hj; exact h.c1
theorem IsB.set2 {b m : Nat} {l : List UInt8} {W : World} (h : IsB b b l W) (hm : m < b) (x y : Int) : IsB b b l (put2 W m x y) := by
  have hk : ∀ q, b ≤ q → (put2 W m x y).heap[q]? = W.heap[q]? := fun q hq => by
    unfold put2; rw [Below.heap_setCell _ _ _ _ (by show q ≠ m; omega), Below.heap_setCell _ _ _ _ (by show q ≠ m; omega)]
  rcases h with h | h
  · obtain ⟨h1, v, hbk, hown, hne⟩ := h
    exact .inl ⟨h1, v, by rw [hk b (Nat.le_refl _)]; exact hbk, ownsq_kept hown (fun q hq => hk q hq.1), hne⟩
  · obtain ⟨h1, v, hbk, hown, hne⟩ := h
    exact .inr ⟨h1, v, by rw [hk b (Nat.le_refl _)]; exact hbk, ownsq_kept hown (fun q hq => hk q hq.1), hne⟩
set_option maxHeartbeats 4000000 in
set_option maxRecDepth 100000 in
theorem dump_any (s : List UInt8) (w : World) (hs : s.length < 4294967281) :
    Calls Try.prog 10 #[.string ⟨s.toArray⟩] w fun e w' => DumpPost s w e w' := by
  have HS := hide hs
  clear hs
  go_enter Try.func10, Try.ntmps10
  go_upto_region 1 with fail
  obtain ⟨W0, hW0⟩ : ∃ x, x = w.alloc (Obj.cells #[.int .i64 0, .int .i64 0] 25) := ⟨_, rfl⟩
  have R0 : Hid (WB W0 w.heap.size 0 0) := by unfold Hid; rw [hW0]; exact WB.new w 0 0 _
  have B0 : Hid (Below w.heap.size w W0) := by unfold Hid; rw [hW0]; exact (Below.refl _ _).alloc (Nat.le_refl _) _
  rw [← hW0]
  clear hW0
  go_wp2_with fail
  refine (treeRead_all s W0 HS.out).mono ?_
  rintro e w1 ⟨F, a, c, x, y, xs, rfl, b1, hFA, hSh, hfit, hlen, hlin, hor⟩
  have R1 := hide (R0.out.keep b1)
  have B1 := hide (B0.out.trans (b1.mono B0.out.size))
  have hs1 := b1.size
  have hr1 := R1.out.lt
  have HEnd : Hid (∀ w', Below w.heap.size w w' → DumpPost s w (.returned (.tuple #[.string ⟨F.lines.toArray⟩, .agg #[.int .i64 x, .int .i64 y]])) w') := fun w' hb => by
    refine ⟨hb, ?_⟩
    rcases hor with ⟨hx, rfl, rfl⟩ | ⟨hx, rfl⟩
    · rw [hx, shIs_lines hSh]; rfl
    · rw [hx, shIs_lines hSh]; rfl
  have HFA := hide hFA
  have HFit := hide hfit
  have HLn := hide hlen
  have HLin := hide hlin
  clear b1 R0 hor hSh hFA hfit hlen hlin B0
  go_upto_region 3 with fail
  obtain ⟨W2, hW2⟩ : ∃ v, v = w1.alloc (Obj.cells #[.int .i64 x, .int .i64 y] 25) := ⟨_, rfl⟩
  have b2 : Below w1.heap.size w1 W2 := by rw [hW2]; exact (Below.refl _ _).alloc (Nat.le_refl _) _
  have X2 : Hid (WB W2 w1.heap.size x y) := by unfold Hid; rw [hW2]; exact WB.new w1 _ _ _
  have s2 : W2.heap.size = w1.heap.size + 1 := by rw [hW2]; simp
  obtain ⟨W3, hW3⟩ : ∃ v, v = W2.alloc (Obj.cells #[.pointer none, .slice none 0 0] 49) := ⟨_, rfl⟩
  have b3 : Below W2.heap.size W2 W3 := by rw [hW3]; exact (Below.refl _ _).alloc (Nat.le_refl _) _
  have I3 : Hid (IsB W2.heap.size W2.heap.size [] W3) := by unfold Hid; rw [hW3]; exact Lib.fresh_isBuilder _ _ _
  have e2 : w1.heap.size + 1 = W2.heap.size := s2.symm
  rw [← hW2]
  simp only [e2]
  rw [← hW3]
  have hbl : w1.heap.size < W2.heap.size := by omega
  have R3 := hide ((R1.out.keep b2).keep b3)
  have X3 := hide (X2.out.keep b3)
  have B3 := hide ((B1.out.trans (b2.mono B1.out.size)).trans (b3.mono (by have := B1.out.size; omega)))
  have F3 : Hid (FA W3 (fun k => k < W2.heap.size) a F) := ((HFA.out.keep (KeptIn.belowK b2 fun _ k => k)).keep (KeptIn.belowK b3 fun b k => Nat.lt_trans k hbl)).sub fun b k => Nat.lt_trans k hbl
  have h3l : W2.heap.size < W3.heap.size := I3.out.ge.2
  clear hW2 hW3 b2 b3 R1 X2 B1 HFA s2 e2
  go_wp2_with fail
  go_loopw [16] (fun iv W => ∃ (k : Nat) (G : Fo) (pre : List UInt8), k + G.len = F.len ∧ iv = .int .i64 k ∧ Hid (pre ++ G.lines = F.lines) ∧ Hid (IsB W2.heap.size W2.heap.size pre W) ∧ Hid (Below W2.heap.size W3 W) ∧ Hid (G = .nil ∨ ∃ g, a = some ⟨g, 0, none⟩ ∧ g < W2.heap.size ∧ FC W (fun k => k < W2.heap.size) G g k) ∧ Hid (G.fit 4294967280)) (fun iv _ => F.len - (intOf iv).toNat)
  case atStart =>
    refine ⟨0, F, [], by omega, rfl, rfl, I3, Below.refl _ _, ?_, HFit⟩
    rcases F3.out with h | h
    · exact .inl h
    · exact .inr h
  case round =>
    obtain ⟨k, G, pre, hk, rfl, hT, hI, hB, hC, hG⟩ := hrel
    clear I3 F3
    cases G with
    | nil =>
      have hlI : ¬ (k : Int) < (F.len : Int) := by simp [Fo.len] at hk; omega
      have HT2 : Hid (pre = F.lines) := by unfold Hid; have := hT.out; simpa [Fo.lines] using this
      obtain rfl := HT2.out
      have hbw := hB.out.size
      have R4 := hide (R3.out.keepB hB.out (by omega))
      have X4 := hide (X3.out.keepB hB.out hbl)
      have B4 : Hid (Below w.heap.size w wr) := B3.out.trans (hB.out.mono (by omega))
      clear hT HT2 hC hG hk R3 X3 B3
      have IF : Hid ((Try.prog.info? 25).map (·.size) = some 2) := by unfold Hid; kernel_rfl
      go_upto_region 9 with fail
      refine RP.wp_region_posts (X := fun _ _ => False) (l := [_, _, _, _]) (by kernel_rfl) (RD w W2.heap.size w.heap.size w1.heap.size F.lines x y) (fun _ _ _ => True)
        [some 24, some 25, some 2, none] [[], [], [0], [1]]
        [fun v _ => v = .string ⟨F.lines.toArray⟩, fun v _ => v = .agg #[.int .i64 x, .int .i64 y], fun v _ => v = .string ⟨F.lines.toArray⟩, fun _ _ => True]
        (fun _ _ _ _ _ _ h => h.elim) rfl (by kernel_rfl) (by kernel_rfl) (by kernel_rfl) (by kernel_rfl) ?_ ?_ ?_ ?_
      · exact .eq (.eq (.eq (.cons (fun _ _ _ _ _ _ _ h => h) .nil)))
      · intro L hL
        exact ⟨fun _ => hI.out.below ((Below.refl _ _).drew), X4.out.keep ((Below.refl _ _).drew), ⟨0, 0, R4.out.keep ((Below.refl _ _).drew), fun h => absurd h (by rw [hL 3]; decide)⟩, B4.out.drew, by show W2.heap.size ≤ wr.heap.size; omega⟩
      · refine .cons ?_ (.cons ?_ (.cons ?_ (.cons ?_ .nil)))
        all_goals (intro L A W hLi hC old nd)
        all_goals (refine RP.runs_none rfl ?_)
        · have e6 : (A.tmps[6]?).getD undef = .pointer (some ⟨W2.heap.size, 0, none⟩) := old 6 (by kernel_rfl)
          simp [RP.Oper.gives, RP.gives, go_sem, e6]
          refine (Try.Builder_String_any W2.heap.size W2.heap.size F.lines W (hC.is hLi) hC.sz).mono fun e W' h => ?_
          obtain ⟨rfl, hb⟩ := h
          refine ⟨_, rfl, ⟨fun hL => ?_, hC.x5.keepB hb hbl, ?_, hC.be.trans (hb.mono (by omega)), Nat.le_trans hC.sz hb.size⟩, rfl⟩
          · rw [RP.also_self] at hL; cases hL
          · obtain ⟨u, v, h1, h2⟩ := hC.r3
            refine ⟨u, v, h1.keepB hb (by omega), fun hL => h2 ?_⟩
            rw [← hL]; unfold RP.also; rw [if_neg (by decide)]
        · have e5 : (A.tmps[5]?).getD undef = .pointer (some ⟨w1.heap.size, 0, none⟩) := old 5 (by kernel_rfl)
          exact RP.gives_row 25 (.tmp 5) rfl _ 0 (by simpa [Act.eval] using e5) [.int .i64 x, .int .i64 y] _ hC.x5.range Try.underlying25 rfl IF.out ⟨hC.same (by decide), trivial, rfl⟩
        · have e24 : (A.tmps[24]?).getD undef = .string ⟨F.lines.toArray⟩ := nd.1
          simp [RP.Oper.gives, RP.gives, go_sem, e24]
          exact ⟨hC.same (by decide), rfl⟩
        · have e3 : (A.tmps[3]?).getD undef = .pointer (some ⟨w.heap.size, 0, none⟩) := old 3 (by kernel_rfl)
          have e25 : (A.tmps[25]?).getD undef = .agg #[.int .i64 x, .int .i64 y] := nd.1
          obtain ⟨u, v, h1, h2⟩ := hC.r3
          have hm := h1.lt
          refine RP.gives_storeN 25 (.tmp 3) (.tmp 25) rfl w.heap.size 0 (.int .i64 x) (.int .i64 y) (by simpa [Act.eval] using e3) (by simpa [Act.eval] using e25) h1.there IF.out rfl rfl ?_
          have hp := h1.put (x : Int) (y : Int)
          have bb : Below w.heap.size W (put2 W w.heap.size x y) := put2_below (Below.refl _ _) _ (Nat.le_refl _) _ _
          refine ⟨⟨fun hL => ?_, hC.x5.otherp (by omega) _ _, ⟨x, y, hp, fun _ => ⟨rfl, rfl⟩⟩, hC.be.trans bb, Nat.le_trans hC.sz bb.size⟩, trivial, trivial⟩
          have h0 : L 0 = false := by rw [← hL]; unfold RP.also; rw [if_neg (by decide)]
          exact IsB.set2 (hC.is h0) (by omega) _ _
      · intro L W hall hC E hE
        refine .cons fun v1 h1 => .cons fun v2 h2 => .cons fun v3 h3 => .cons fun v4 h4 => .nil ?_
        subst h1
        subst h2
        subst h3
        obtain ⟨u, v, h5, h6⟩ := hC.r3
        obtain ⟨rfl, rfl⟩ := h6 (hall 3 (by decide))
        have HW := hide h5
        have HE2 := hide (HEnd.out W hC.be)
        clear hC h5 h6 hI HEnd
        simp only [Act.put, List.setIfInBounds_toArray, List.set_cons_zero, List.set_cons_succ]
        refine hE _ ?_
        go_wp2_with fail
        refine bodyPost_ret (v := .tuple #[.string ⟨F.lines.toArray⟩, .agg #[.int .i64 x, .int .i64 y]]) ?_ rfl ?_
        · exact resReadDump HW.out rfl rfl
        · exact HE2.out
    | cons ts p r =>
      obtain ⟨g, rfl, hgB, e1, f1, e2, f2, k1, k2, ht, hp, hr⟩ := hC.out.resolve_left (by simp)
      have hlI : (k : Int) < (F.len : Int) := by simp [Fo.len] at hk; omega
      have hkl : k < F.len := by simp [Fo.len] at hk; omega
      have hbw := hB.out.size
      have hgw : g < wr.heap.size := by omega
      have hG2 := hG.out
      have HRr := hide hr
      have HG3 := hide hG2.2.2.2.2
      have hkr : k + 1 + r.len = F.len := by simp [Fo.len] at hk; omega
      have hil : (k : Int) < 4294967281 := by have := HLn.out; omega
      have HTold : Hid ((pre ++ ndS (ts, p) ++ [10]) ++ r.lines = F.lines) := by unfold Hid; rw [← hT.out]; simp [Fo.lines]
      have HBound : Hid ((pre ++ ndS (ts, p) ++ [10]).length < 4294967260) := by
        unfold Hid
        have h1 := HLin.out
        rw [← HTold.out] at h1
        simp only [List.length_append] at h1 ⊢
        omega
      have HNd : Hid (NA wr (fun k => k < W2.heap.size) e1 e2 (ts, p)) := ⟨ht, hp⟩
      have hts : ts.length ≤ 4294967280 := hG2.1
      have hpl : p.len ≤ 4294967280 := hG2.2.1
      have HPf := hide hG2.2.2.2.1
      clear hC hG hG2 hT hp hr ht hk
      go_upto_region 6 with fail
      obtain ⟨W5, hW5⟩ : ∃ v, v = wr.alloc (Obj.cells #[.slice e1 ts.length f1, .slice e2 p.len f2] 51) := ⟨_, rfl⟩
      have P5 : Hid (WrP W2.heap.size W2.heap.size pre wr W5) := by unfold Hid; rw [hW5]; exact (WrP.refl hI.out).alloc (by omega) _
      have Q5 : Hid (W5.heap[wr.heap.size]? = some (.cells #[.slice e1 ts.length f1, .slice e2 p.len f2] 51 (0, 0))) := by unfold Hid; rw [hW5]; exact obj_new _ _ _
      rw [← hW5]
      clear hW5 k1 k2
      have d0 : W5.cell? ⟨wr.heap.size, 0, none⟩ = some (.slice e1 ts.length f1) := by rw [Lib.cell_of_heap Q5.out]; rfl
      have d1 : W5.cell? ⟨wr.heap.size, 1, none⟩ = some (.slice e2 p.len f2) := by rw [Lib.cell_of_heap Q5.out]; rfl
      have hdl : wr.heap.size < W5.heap.size := World.block_lt_of_cell? W5 _ d0
      clear Q5
      go_wp2_with fail
      refine (write_any _ (ts, p) (Nat.le_refl _) e1 e2 f1 f2 W2.heap.size W2.heap.size pre W5 (HNd.out.keep (KeptIn.belowK P5.out.be fun _ h => h)) P5.out.is (by omega) hts hpl HPf.out (by have := HBound.out; simp only [List.length_append] at this ⊢; omega)).mono ?_
      rintro e w6 ⟨rfl, P6'⟩
      have P6 := hide (P5.out.trans P6')
      clear P6' P5 d0 d1 hdl
      go_wp2_with fail
      refine (writeS W2.heap.size W2.heap.size _ [10] w6 P6.out.is (by have := HBound.out; simp only [List.length_append] at this ⊢; omega) (by have := P6.out.be.size; omega)).mono ?_
      rintro e w7 ⟨rfl, P7'⟩
      have P7 := hide (P6.out.trans P7')
      have I7 : Hid (IsB W2.heap.size W2.heap.size (pre ++ ndS (ts, p) ++ [10]) w7) := P7.out.is
      have B7 : Hid (Below W2.heap.size W3 w7) := hB.out.trans P7.out.be
      have HC7 : Hid (r = .nil ∨ ∃ g', some (⟨g, 0, none⟩ : Addr) = some ⟨g', 0, none⟩ ∧ g' < W2.heap.size ∧ FC w7 (fun k => k < W2.heap.size) r g' (k + 1)) := .inr ⟨g, rfl, hgB, HRr.out.keep (KeptIn.belowK P7.out.be fun _ h => h) hgB⟩
      clear P7' P6 P7 hB hI HRr HNd
      go_wp2_with fail
      exact ⟨⟨k + 1, r, _, hkr, by go_num, HTold, I7, B7, HC7, HG3⟩, by simp [intOf]; omega⟩
end Go.Proofs.Ytcmmjmgbanafgaa
