/- The walk over moatlaw3.FieldLists. -/
import Derived.Test.YtaabficekcnlnaaDoorV7
import Derived.Lib.QuietBelow
import Derived.Deep.QuietTactic
import Derived.BigQuiet
import Derived.BigRegion
import Derived.Deep.DeepCutAuto
namespace Go.Proofs.YtaabficekcnlnaaDoor
open Go.RowKit Go.Proofs.Url

/-- A slice of integers that came in, as far as a walk reads it: each element lies in a cell of old memory. -/
def RowI (w : World) (a : Option Addr) (len : Nat) (z : Nat → Int) : Prop :=
  ∀ k, k < len → ∃ b off, a = some ⟨b, off, none⟩ ∧ b < w.heap.size ∧ w.cell? ⟨b, off + k, none⟩ = some (.int .i64 (z k))
theorem RowI.keep {w W : World} {a : Option Addr} {len : Nat} {z : Nat → Int} (h : RowI w a len z) (hb : Below w.heap.size w W) : ∀ k, k < len → ∃ b off, a = some ⟨b, off, none⟩ ∧ b < w.heap.size ∧ W.cell? ⟨b, off + k, none⟩ = some (.int .i64 (z k)) := by
  intro k hk
  obtain ⟨b, off, h1, h2, h3⟩ := h k hk
  exact ⟨b, off, h1, h2, by rw [hb.cell (p := ⟨b, off + k, none⟩) h2]; exact h3⟩
/-- A row of constant texts in a block. -/
def LitsAt (W : World) (g : Nat) (ls : List (List UInt8)) : Prop := ∀ r, r < ls.length → W.cell? ⟨g, r, none⟩ = some (.string ⟨(ls.getD r []).toArray⟩)
theorem LitsAt.keep {w w' : World} {g : Nat} {ls : List (List UInt8)} (h : LitsAt w g ls) (hb : Below w.heap.size w w') : LitsAt w' g ls := fun r hr => by
  rw [hb.cell (World.block_lt_of_cell? w _ (h r hr))]; exact h r hr
theorem LitsAt.keepB {w w' : World} {B g : Nat} {ls : List (List UInt8)} (h : LitsAt w g ls) (hb : Below B w w') (hg : g < B) : LitsAt w' g ls := fun r hr => by
  rw [hb.cell (p := ⟨g, r, none⟩) hg]; exact h r hr
theorem texts_roundB {B : Nat} {w3 : World} {qs : List (List UInt8)} {x : List UInt8} {v' : Value}
    (hown : w3.ownsRow B 9 1 v' (qs.length + 1) (qs.map (fun q => Value.string ⟨q.toArray⟩) ++ [.string ⟨x.toArray⟩])) :
    ∃ (ao : Option Addr) (cv : Nat), v' = .slice ao (qs ++ [x]).length cv ∧ Hid (w3.ownsRow B 9 1 (.slice ao (qs ++ [x]).length cv) (qs ++ [x]).length ((qs ++ [x]).map (fun q => Value.string ⟨q.toArray⟩))) := by
  have hq : (qs ++ [x]).length = qs.length + 1 := by simp
  obtain ⟨g, cap, hv⟩ : ∃ g cap, v' = .slice (some ⟨g, 0, none⟩) (qs.length + 1) cap := by
    rcases hown.2 with ⟨_, h⟩ | ⟨g, cap, _, h, _⟩
    · omega
    · exact ⟨g, cap, h⟩
  subst hv
  refine ⟨some ⟨g, 0, none⟩, cap, by rw [hq], ?_⟩
  unfold Hid; rw [hq, List.map_append]; exact hown
theorem lits_new (w : World) (ls : List (List UInt8)) (t : TypeId) : LitsAt (w.alloc (Obj.cells (ls.map (fun l => Value.string ⟨l.toArray⟩)).toArray t)) w.heap.size ls := by
  intro r hr
  have h := lit_cell w ls t r hr
  have e : ls[r]'hr = ls.getD r [] := by rw [List.getD_eq_getElem?_getD, List.getElem?_eq_getElem hr]; rfl
  rw [e] at h; exact h

theorem lits4 (a b c d : List UInt8) (r : Nat) (h : r < 4) : [Value.string ⟨a.toArray⟩, Value.string ⟨b.toArray⟩, Value.string ⟨c.toArray⟩, Value.string ⟨d.toArray⟩][r] = .string ⟨([a, b, c, d].getD r []).toArray⟩ := by
  match r, h with
  | 0, _ => rfl
  | 1, _ => rfl
  | 2, _ => rfl
  | 3, _ => rfl
theorem len4 : ∀ (r : Fin 4), (gaps4.getD r []).length ≤ 2 ∧ (tails4.getD r []).length ≤ 3 := by decide +kernel
theorem len6 : ∀ (r : Fin 6), (all6.getD r []).length ≤ 12 := by decide +kernel

theorem list_no {s : List UInt8} {want : List (List UInt8)} (h : ListInv s want) (hs : s.length ≤ 200) (W : World) (henv : Env W) :
    Calls Tryd.prog 8 #[.string ((⟨s.toArray⟩ : ByteArray) ++ ⟨#[97, 32, 98]⟩)] W fun e w' => ∃ (ao : Option Addr) (cap : Nat), e = .returned (.tuple #[.slice ao 0 cap, .bool false]) ∧ Below W.heap.size W w' := by
  have hc := list_out (s ++ [97, 32, 98]) W henv (by simp; omega)
  obtain ⟨h1, h2⟩ := list_bad h
  rw [h1, h2] at hc
  rw [show ((⟨s.toArray⟩ : ByteArray) ++ ⟨#[97, 32, 98]⟩) = ⟨(s ++ [97, 32, 98]).toArray⟩ from dataEq (by simp)]
  refine hc.mono ?_
  rintro e w' ⟨ao, cap, rfl, _, _, hB⟩
  exact ⟨ao, cap, rfl, hB⟩
theorem list_yes {s : List UInt8} {want : List (List UInt8)} (h : ListInv s want) (hs : s.length ≤ 200) (W : World) (henv : Env W) :
    Calls Tryd.prog 8 #[.string ⟨s.toArray⟩] W fun e w' => ∃ (ao : Option Addr) (cap : Nat), e = .returned (.tuple #[.slice ao want.length cap, .bool true]) ∧ TextsAt w' ao (want.map (fun q => ⟨q.toArray⟩)) ∧ Below W.heap.size W w' := by
  have hc := list_out s W henv (by omega)
  obtain ⟨h1, h2⟩ := list_good h
  rw [h1, h2] at hc
  refine hc.mono ?_
  rintro e w' ⟨ao, cap, rfl, _, hT, hB⟩
  exact ⟨ao, cap, rfl, hT, hB⟩
theorem owns_textsL {w : World} {base : Nat} {ao : Option Addr} {cap : Nat} {qs : List (List UInt8)} (h : w.ownsRow base 9 1 (.slice ao qs.length cap) qs.length (qs.map (fun q => Value.string ⟨q.toArray⟩))) : TextsAt w ao (qs.map (fun q => ⟨q.toArray⟩)) := by
  have hm : qs.map (fun q => Value.string ⟨q.toArray⟩) = (qs.map (fun q => (⟨q.toArray⟩ : ByteArray))).map Value.string := by rw [List.map_map]; rfl
  have hlen : qs.length = (qs.map (fun q => (⟨q.toArray⟩ : ByteArray))).length := by rw [List.length_map]
  rw [hm] at h
  have h2 : w.ownsRow base 9 1 (.slice ao qs.length cap) (qs.map (fun q => (⟨q.toArray⟩ : ByteArray))).length ((qs.map (fun q => (⟨q.toArray⟩ : ByteArray))).map Value.string) := by rw [← hlen]; exact h
  obtain ⟨ao', cap', hv, _, hP⟩ := owns_texts h2
  simp only [Value.slice.injEq] at hv
  obtain ⟨rfl, _, rfl⟩ := hv
  exact hP
theorem sameL_any (ao bo : Option Addr) (qs : List (List UInt8)) (ca cb : Nat) (w : World) (ha : TextsAt w ao (qs.map (fun q => ⟨q.toArray⟩))) (hb : TextsAt w bo (qs.map (fun q => ⟨q.toArray⟩))) (hl : qs.length ≤ maxLen) :
    Calls Tryd.prog 12 #[.slice ao qs.length ca, .slice bo qs.length cb] w fun e w' => e = .returned (.bool true) ∧ Below w.heap.size w w' := by
  have h := sameTexts_any ao bo (qs.map (fun q => (⟨q.toArray⟩ : ByteArray))) (qs.map (fun q => (⟨q.toArray⟩ : ByteArray))) ca cb w ha hb (by simpa using hl) (by simpa using hl)
  rw [List.length_map, decide_eq_true rfl] at h
  exact h

set_option maxHeartbeats 4000000 in
set_option maxRecDepth 100000 in
theorem fieldLists_walk (a0 : Option Addr) (len0 cap0 : Nat) (z : Nat → Int) (gaps : Int) (bad : Bool) (w : World) (henv : Env w) (hrow : RowI w a0 len0 z) :
    Calls Tryd.prog 4 #[.slice a0 len0 cap0, .int .i64 gaps, .bool bad] w fun e w' => e = .returned (.bool true) ∧ Below w.heap.size w w' := by
  obtain ⟨i0, hi, hz0, hz1, hz2⟩ := info_parts infoS
  by_cases h10 : 10 < (len0 : Int)
  · clear hrow
    go_enter Tryd.func4, Tryd.ntmps4
    go_wp2_with fail
    refine (awake3_any _ henv).mono ?_
    rintro e w1 ⟨rfl, hb1⟩
    go_wp2_with fail
    go_ret
    exact ⟨rfl, hb1⟩
  have HRow := hide hrow
  clear hrow
  have h10' : len0 ≤ 10 := by omega
  go_enter Tryd.func4, Tryd.ntmps4
  go_wp2_with fail
  go_loopw [9, 10, 11] (fun sv nv iv W => ∃ (k : Nat) (s : List UInt8) (want : List (List UInt8)) (ao : Option Addr) (cv : Nat), k ≤ len0 ∧ iv = .int .i64 k ∧ sv = .string ⟨s.toArray⟩ ∧ nv = .slice ao want.length cv ∧ s.length ≤ 18 * k ∧ want.length ≤ k ∧ Hid (ListInv s want) ∧
      Hid (LitsAt W w.heap.size all6) ∧ Hid (LitsAt W (w.heap.size + 1) low6) ∧ Hid (W.ownsRow (w.heap.size + 2) 9 1 (.slice ao want.length cv) want.length (want.map (fun q => Value.string ⟨q.toArray⟩))) ∧ Hid (Below w.heap.size w W) ∧ w.heap.size + 2 ≤ W.heap.size) (fun _ _ iv _ => len0 - (intOf iv).toNat)
  case atStart =>
    refine ⟨0, [], [], none, 0, Nat.zero_le _, rfl, rfl, rfl, by simp, by simp, list_start, ?_, ?_, World.ownsRow_nil _ _ _ _, ((Below.refl _ _).alloc (Nat.le_refl _) _).alloc (by simp) _, by simp⟩
    · exact (lits_new w all6 _).keep ((Below.refl _ _).alloc (Nat.le_refl _) _)
    · have h := lits_new (w.alloc (Obj.cells (all6.map (fun l => Value.string ⟨l.toArray⟩)).toArray 9)) low6 9
      have e : (w.alloc (Obj.cells (all6.map (fun l => Value.string ⟨l.toArray⟩)).toArray 9)).heap.size = w.heap.size + 1 := by simp
      rw [e] at h; exact h
  case round =>
    obtain ⟨k, s, want, ao, cv, hk, rfl, rfl, rfl, hsl, hwl, hinv, hA, hL, hown, hB, hsz⟩ := hrel
    by_cases hlt : k < len0
    · obtain ⟨b, off, rfl, hbw, hcell⟩ := HRow.out.keep hB.out k hlt
      have hlI : (k : Int) < (len0 : Int) := by omega
      go_wp2_with fail
      refine (low_any _ _ _ (by decide) (by decide)).mono ?_
      rintro e w1 ⟨rfl, hw1⟩
      subst hw1
      obtain ⟨K, hK, hK6⟩ : ∃ K : Nat, low (z k) 6 = (K : Int) ∧ K < 6 := by
        have a := low_nn (z k) 6 (by decide)
        have b := low_lt (z k) 6 (by decide)
        exact ⟨(low (z k) 6).toNat, by omega, by omega⟩
      rw [hK]
      clear hK hcell
      obtain ⟨r, hr, hbits⟩ := and_mask (gaps / 2 ^ (2 * k)) 3 (by omega)
      obtain ⟨t, ht, hbitt⟩ := and_mask (gaps / 2 ^ (k + 3)) 3 (by omega)
      have hbr : bits BinOp.and IntKind.i64 (gaps / 2 ^ (2 * k)) 3 = (r : Int) := hbits
      have hbt : bits BinOp.and IntKind.i64 (gaps / 2 ^ (k + 3)) 3 = (t : Int) := hbitt
      clear hbits hbitt
      have hr4 : r < 4 := by omega
      have ht4 : t < 4 := by omega
      have hrI : (r : Int) < 4 := by omega
      have htI : (t : Int) < 4 := by omega
      have hKI : (K : Int) < 6 := by omega
      have hcA := hA.out K hK6
      have hcL := hL.out K hK6
      have hlr : [Value.string ⟨#[]⟩, Value.string ⟨#[32]⟩, Value.string ⟨#[9]⟩, Value.string ⟨#[32, 32]⟩][r] = .string ⟨(gaps4.getD r []).toArray⟩ := lits4 [] [32] [9] [32, 32] r hr4
      have hlt' : [Value.string ⟨#[]⟩, Value.string ⟨#[32]⟩, Value.string ⟨#[44]⟩, Value.string ⟨#[9, 32, 44]⟩][t] = .string ⟨(tails4.getD t []).toArray⟩ := lits4 [] [32] [44] [9, 32, 44] t ht4
      have l1 := (len4 ⟨r, hr4⟩).1
      have l2 := (len4 ⟨t, ht4⟩).2
      have l3 := len6 ⟨K, hK6⟩
      have HN := hide (list_next hinv.out hr4 hK6 ht4)
      have HPc : Hid (pieceL r K t = gaps4.getD r [] ++ all6.getD K [] ++ tails4.getD t [] ++ [44]) := rfl
      simp only at l1 l2 l3
      have hS0 : w.heap.size < w1.heap.size := by omega
      have hS1 : w.heap.size + 1 < w1.heap.size := by omega
      generalize gaps4.getD r [] = g1 at *
      generalize tails4.getD t [] = t1 at *
      generalize all6.getD K [] = n1 at *
      have hsum : ((⟨s.toArray⟩ : ByteArray) ++ ⟨g1.toArray⟩ ++ ⟨n1.toArray⟩ ++ ⟨t1.toArray⟩ ++ ⟨#[44]⟩) = ⟨(s ++ pieceL r K t).toArray⟩ := dataEq (by rw [HPc.out]; simp)
      have HSm := hide hsum
      have hpl : (pieceL r K t).length ≤ 18 := by rw [HPc.out]; simp; omega
      clear hsum HPc
      go_upto_region 11 with fail
      go_cut [9] (fun sv wx => sv = .string ⟨(s ++ pieceL r K t).toArray⟩ ∧ Hid (Below w1.heap.size w1 wx))
      case first =>
        go_region
        all_goals go_wp2_with fail
        all_goals go_meet
        all_goals (case rel => exact ⟨congrArg Value.string HSm.out, (((Below.refl _ _).alloc (Nat.le_refl _) _).alloc (by simp) _).drew⟩)
      case rest =>
        obtain ⟨rfl, hb2⟩ := hcut
        have B2 := hide (hB.out.trans (hb2.out.mono hB.out.size))
        have A2 := hide (hA.out.keep hb2.out)
        have L2 := hide (hL.out.keep hb2.out)
        have hown2 := owns_below hown.out hb2.out
        have hz2' := hb2.out.size
        replace hcL := L2.out K hK6
        clear hA hL hcA hbr hbt hlr hlt' HSm
        generalize pieceL r K t = pc at *
        generalize low6.getD K [] = lw at *
        have HBs : Hid (∀ j, (Value.slice ao want.length cv).ownBlock = some j → w.heap.size + 2 ≤ j) := fun j hj => owns_base hown.out j hj
        go_wp2_with (at_builtin; refine wpList_append_own _ rfl _ _ 23 rfl (w.heap.size + 2) 9 i0 (.string ByteArray.empty) 1 16 Tryd.underlying23 hi hz0 hz1 hz2 rfl (by decide) _ _ _ rfl (hown2.alloc _) ⟨wc.heap.size, 0, none⟩ 1 1 [.string ⟨lw.toArray⟩] rfl rfl (cell_one_new _ _ _) (fun x hx => by simp at hx; subst hx; rfl) (by unfold maxLen; omega) (by omega) (by simp; omega) ?_; intro v' w4 hown' hgrow4 hnil4)
        have B4 : Below (w.heap.size + 2) wc w4 := Below.trans ((Below.refl _ _).alloc (by omega) _) (Below.grown (Below.refl _ _) hgrow4 (by simp; omega) HBs.out)
        obtain ⟨ao2, cv2, hv2, hown3⟩ := texts_roundB hown'
        have hq1 : (want ++ [lw]).length ≤ k + 1 := by rw [List.length_append, List.length_singleton]; omega
        have hq2 : (s ++ pc).length ≤ 18 * (k + 1) := by rw [List.length_append]; omega
        have hz4 := B4.size
        exact ⟨⟨k + 1, s ++ pc, want ++ [lw], ao2, cv2, by omega, by go_num, rfl, hv2, hq2, hq1, HN, A2.out.keepB B4 (by omega), L2.out.keepB B4 (by omega), hown3, B2.out.trans (B4.mono (by omega)), by omega⟩, by simp [intOf]; omega⟩
    · have hkl : k = len0 := by omega
      have E0 := hide (henv.keep hB.out)
      have T0 := hide (owns_textsL hown.out)
      have hs2 : s.length ≤ 200 := by omega
      clear hkl HRow
      cases bad with
      | true =>
        go_wp2_with fail
        refine (list_no hinv.out hs2 _ E0.out).mono ?_
        rintro e w1 ⟨ao1, cap1, rfl, hb1⟩
        have B1 := hide (hB.out.trans (hb1.mono hB.out.size))
        clear hb1
        go_wp2_with fail
        refine (awake3_any _ (henv.keep B1.out)).mono ?_
        rintro e w2 ⟨rfl, hb2⟩
        have B2 := hide (B1.out.trans (hb2.mono B1.out.size))
        clear hb2
        go_wp2_with fail
        go_ret
        exact ⟨rfl, B2.out⟩
      | false =>
        go_wp2_with fail
        refine (list_yes hinv.out hs2 _ E0.out).mono ?_
        rintro e w1 ⟨ao1, cap1, rfl, hT1, hb1⟩
        have B1 := hide (hB.out.trans (hb1.mono hB.out.size))
        have T1 := hide (T0.out.keep hb1)
        have HT1 := hide hT1
        clear hb1 hT1 T0
        go_wp2_with fail
        refine (sameL_any ao1 ao want cap1 cv _ HT1.out T1.out (by unfold maxLen; omega)).mono ?_
        rintro e w2 ⟨rfl, hb2⟩
        have B2 := hide (B1.out.trans (hb2.mono B1.out.size))
        clear hb2 HT1 T1
        go_wp2_with fail
        refine (awake3_any _ (henv.keep B2.out)).mono ?_
        rintro e w3 ⟨rfl, hb3⟩
        have B3 := hide (B2.out.trans (hb3.mono B2.out.size))
        clear hb3
        go_wp2_with fail
        go_ret
        exact ⟨rfl, B3.out⟩
end Go.Proofs.YtaabficekcnlnaaDoor
