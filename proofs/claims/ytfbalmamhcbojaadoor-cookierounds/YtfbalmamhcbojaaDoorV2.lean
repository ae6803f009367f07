/- Walks over package field: pieces, List. -/
import Derived.Test.YtfbalmamhcbojaaDoorV1
namespace Go.Proofs.YtfbalmamhcbojaaDoor
open Go.RowKit Go.Proofs.Url

theorem cutC_any (c : UInt8) (l : List UInt8) (w : World) (henv : Env w) (h : l.length < 4294967281) :
    Calls Tryd.prog 27 #[.string ⟨l.toArray⟩, .string ⟨#[c]⟩] w fun e w' => e = .returned (.tuple #[.string ⟨(Lib.cut l [c]).1.toArray⟩, .string ⟨(Lib.cut l [c]).2.1.toArray⟩, .bool (Lib.cut l [c]).2.2]) ∧ Below w.heap.size w w' := by
  obtain ⟨⟨m, hm⟩, _⟩ := henv
  refine (Tryd.strings_Cut ⟨l.toArray⟩ ⟨#[c]⟩ m w (by rw [size_mk]; exact h) hm).mono ?_
  rintro e w' ⟨rfl, n, rfl⟩
  exact ⟨rfl, _root_.Go.below_drewN (Below.refl _ _) n⟩

theorem piece_round {d : UInt8} {l : List UInt8} {w w3 : World} {ps : List ByteArray} {x : ByteArray} {c : List UInt8} {b : Bool} {v' : Value} (hl : ps.length + c.length + 1 ≤ l.length ∨ b = false)
    (HI : Hid (PieceInv d l (ps ++ [x]) c b)) (hcl : c.length ≤ l.length) (hpl : ps.length + 1 ≤ l.length + 1)
    (hown : w3.ownsRow w.heap.size 9 1 v' (ps.length + 1) (ps.map Value.string ++ [.string x])) (hB : Hid (Below w.heap.size w w3)) :
    ∃ (cur : List UInt8) (qs : List ByteArray) (ao : Option Addr) (cv : Nat) (bb : Bool), Value.string ⟨c.toArray⟩ = .string ⟨cur.toArray⟩ ∧ v' = .slice ao qs.length cv ∧ Value.bool b = .bool bb ∧ cur.length ≤ l.length ∧ qs.length ≤ l.length + 1 ∧
      (qs.length + cur.length ≤ l.length ∨ bb = false) ∧ Hid (PieceInv d l qs cur bb) ∧ Hid (w3.ownsRow w.heap.size 9 1 (.slice ao qs.length cv) qs.length (qs.map Value.string)) ∧ Hid (Below w.heap.size w w3) := by
  have hq : (ps ++ [x]).length = ps.length + 1 := by simp
  obtain ⟨g, cap, hv⟩ : ∃ g cap, v' = .slice (some ⟨g, 0, none⟩) (ps.length + 1) cap := by
    rcases hown.2 with ⟨_, h⟩ | ⟨g, cap, _, h, _⟩
    · omega
    · exact ⟨g, cap, h⟩
  subst hv
  refine ⟨c, ps ++ [x], some ⟨g, 0, none⟩, cap, b, rfl, by rw [hq], rfl, hcl, by rw [hq]; exact hpl, by rw [hq]; exact hl.imp (fun h => by omega) id, HI, ?_, hB⟩
  unfold Hid; rw [hq, List.map_append]; exact hown

set_option maxHeartbeats 1000000 in
theorem pieces_any (d : UInt8) (l : List UInt8) (w : World) (henv : Env w) (hl : l.length < 4294967281) :
    Calls Tryd.prog 26 #[.string ⟨l.toArray⟩, .string ⟨#[d]⟩] w fun e w' => ∃ (v : Value) (ps : List ByteArray), e = .returned v ∧ ps.map (·.data.toList) = piecesS d l ∧ w'.ownsRow w.heap.size 9 1 v ps.length (ps.map Value.string) ∧ Below w.heap.size w w' := by
  obtain ⟨i0, hi, hz0, hz1, hz2⟩ := info_parts infoS
  go_enter Tryd.func26, Tryd.ntmps26
  go_wp2_with fail
  go_loopw [0, 5, 6] (fun hv lv mv W => ∃ (cur : List UInt8) (ps : List ByteArray) (ao : Option Addr) (cv : Nat) (b : Bool), hv = .string ⟨cur.toArray⟩ ∧ lv = .slice ao ps.length cv ∧ mv = .bool b ∧ cur.length ≤ l.length ∧ ps.length ≤ l.length + 1 ∧ (ps.length + cur.length ≤ l.length ∨ b = false) ∧
      Hid (PieceInv d l ps cur b) ∧ Hid (W.ownsRow w.heap.size 9 1 (.slice ao ps.length cv) ps.length (ps.map Value.string)) ∧ Hid (Below w.heap.size w W)) (fun hv _ mv _ => btOf mv + szOf hv)
  case atStart => exact ⟨l, [], none, 0, true, rfl, rfl, rfl, Nat.le_refl _, by simp, by simp, piece_start d l, World.ownsRow_nil _ _ _ _, Below.refl _ _⟩
  case round =>
    obtain ⟨cur, ps, ao, cv, b, rfl, rfl, rfl, hcl, hpm, hpl, hinv, hown, hB⟩ := hrel
    cases b with
    | false =>
      have HF : Hid (ps.map (·.data.toList) = piecesS d l) := by
        have := hinv.out; unfold PieceInv at this; rw [if_neg (by decide)] at this
        exact this.symm
      clear hinv hpl
      go_wp2_with fail
      go_ret
      exact ⟨_, ps, rfl, HF.out, hown.out, hB.out⟩
    | true =>
      have hpl' : ps.length + cur.length ≤ l.length := by rcases hpl with h | h; exact h; cases h
      clear hpl
      have hsize := hB.out.size
      have hbase : ∀ j, (Value.slice ao ps.length cv).ownBlock = some j → w.heap.size ≤ j := fun j hj => owns_base hown.out j hj
      have HB := hide hbase
      clear hbase
      have HE := hide (henv.keep hB.out)
      rcases splitc d cur with hn | ⟨a, c, rfl, hn⟩
      · have HC := hide (cutc_none d cur hn)
        have HT := hide (trimS_len cur)
        by_cases he : trimS cur = []
        · have HI : Hid (PieceInv d l ps [] false) := piece_done hinv.out hn he
          have HM := hide he
          clear hn hinv he
          go_wp2_with fail
          refine (cutC_any d cur _ HE.out (by omega)).mono ?_
          rintro e w2 ⟨rfl, hb2⟩
          rw [HC.out]
          have B2 := hide (hB.out.trans (hb2.mono hB.out.size))
          have O2 := hide (owns_below hown.out hb2)
          clear hb2 hB HE hown
          go_wp2_with fail
          refine (trimmed_any cur _ (by omega)).mono ?_
          rintro e w3 ⟨rfl, hb3⟩
          rw [HM.out]
          have B3 := hide (B2.out.trans (hb3.mono B2.out.size))
          have O3 := hide (owns_below O2.out hb3)
          clear hb3 B2 O2
          go_wp2_with fail
          refine ⟨⟨[], ps, ao, cv, false, rfl, rfl, rfl, by simp, by omega, .inr rfl, HI, O3, B3⟩, by simp only [btOf, szOf, size_mk, List.length_nil]; omega⟩
        · have HI : Hid (PieceInv d l (ps ++ [⟨(trimS cur).toArray⟩]) [] false) := piece_last hinv.out hn he
          have hem : (trimS cur).isEmpty = false := by cases e : trimS cur; exact absurd e he; rfl
          clear hn hinv he
          go_wp2_with fail
          refine (cutC_any d cur _ HE.out (by omega)).mono ?_
          rintro e w2 ⟨rfl, hb2⟩
          rw [HC.out]
          have B2 := hide (hB.out.trans (hb2.mono hB.out.size))
          have O2 := hide (owns_below hown.out hb2)
          clear hb2 hB HE hown
          go_wp2_with fail
          refine (trimmed_any cur _ (by omega)).mono ?_
          rintro e w3 ⟨rfl, hb3⟩
          have B3 := hide (B2.out.trans (hb3.mono B2.out.size))
          have hown := owns_below O2.out hb3
          have hsize3 := B3.out.size
          clear hb3 B2 O2
          generalize trimS cur = tc at *
          go_wp2_with (at_builtin; refine wpList_append_own _ rfl _ _ 29 rfl w.heap.size 9 i0 (.string ByteArray.empty) 1 16 Tryd.underlying29 hi hz0 hz1 hz2 rfl (by decide) _ _ _ rfl (hown.alloc _) ⟨w3.heap.size, 0, none⟩ 1 1 [.string ⟨tc.toArray⟩] rfl rfl (cell_one_new _ _ _) (fun x hx => by simp at hx; subst hx; rfl) (by unfold maxLen; omega) (by omega) (by simp; omega) ?_; intro v' w4 hown' hgrow4 hnil4)
          refine ⟨piece_round (.inr rfl) HI (by simp) (by omega) hown' (hide (Below.trans (B3.out.alloc hsize3 _) (Below.grown (Below.refl _ _) hgrow4 (by simp; omega) HB.out))), by simp only [btOf, szOf, size_mk, List.length_nil]; omega⟩
      · have HC := hide (cutc_app d a c hn)
        have HT := hide (trimS_len a)
        have hlen : a.length + c.length + 1 = (a ++ d :: c).length := by simp; omega
        by_cases he : trimS a = []
        · have HI : Hid (PieceInv d l ps c true) := piece_skip hinv.out hn he
          have HM := hide he
          generalize a ++ d :: c = cur at *
          clear hn hinv he
          go_wp2_with fail
          refine (cutC_any d cur _ HE.out (by omega)).mono ?_
          rintro e w2 ⟨rfl, hb2⟩
          rw [HC.out]
          have B2 := hide (hB.out.trans (hb2.mono hB.out.size))
          have O2 := hide (owns_below hown.out hb2)
          clear hb2 hB HE hown
          go_wp2_with fail
          refine (trimmed_any a _ (by omega)).mono ?_
          rintro e w3 ⟨rfl, hb3⟩
          rw [HM.out]
          have B3 := hide (B2.out.trans (hb3.mono B2.out.size))
          have O3 := hide (owns_below O2.out hb3)
          clear hb3 B2 O2
          go_wp2_with fail
          refine ⟨⟨c, ps, ao, cv, true, rfl, rfl, rfl, by omega, by omega, .inl (by omega), HI, O3, B3⟩, by simp only [btOf, szOf, size_mk]; omega⟩
        · have HI : Hid (PieceInv d l (ps ++ [⟨(trimS a).toArray⟩]) c true) := piece_step hinv.out hn he
          have hem : (trimS a).isEmpty = false := by cases e : trimS a; exact absurd e he; rfl
          generalize a ++ d :: c = cur at *
          clear hn hinv he
          go_wp2_with fail
          refine (cutC_any d cur _ HE.out (by omega)).mono ?_
          rintro e w2 ⟨rfl, hb2⟩
          rw [HC.out]
          have B2 := hide (hB.out.trans (hb2.mono hB.out.size))
          have O2 := hide (owns_below hown.out hb2)
          clear hb2 hB HE hown
          go_wp2_with fail
          refine (trimmed_any a _ (by omega)).mono ?_
          rintro e w3 ⟨rfl, hb3⟩
          have B3 := hide (B2.out.trans (hb3.mono B2.out.size))
          have hown := owns_below O2.out hb3
          have hsize3 := B3.out.size
          clear hb3 B2 O2
          generalize trimS a = tc at *
          go_wp2_with (at_builtin; refine wpList_append_own _ rfl _ _ 29 rfl w.heap.size 9 i0 (.string ByteArray.empty) 1 16 Tryd.underlying29 hi hz0 hz1 hz2 rfl (by decide) _ _ _ rfl (hown.alloc _) ⟨w3.heap.size, 0, none⟩ 1 1 [.string ⟨tc.toArray⟩] rfl rfl (cell_one_new _ _ _) (fun x hx => by simp at hx; subst hx; rfl) (by unfold maxLen; omega) (by omega) (by simp; omega) ?_; intro v' w4 hown' hgrow4 hnil4)
          refine ⟨piece_round (.inl (by omega)) HI (by omega) (by omega) hown' (hide (Below.trans (B3.out.alloc hsize3 _) (Below.grown (Below.refl _ _) hgrow4 (by simp; omega) HB.out))), by simp only [btOf, szOf, size_mk]; omega⟩
end Go.Proofs.YtfbalmamhcbojaaDoor
