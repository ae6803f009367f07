/- The walk over moatlaw0.OverTexts: it writes over a row that the caller owns, and nothing else of old. -/
import Derived.Test.YtaabficekcnlnaaDoorV7
namespace Go.Proofs.YtaabficekcnlnaaDoor
open Go.RowKit Go.Proofs.Url

theorem own_set {w : World} {base n cap g : Nat} {e : TypeId} {xs : List Value} (h : w.ownsRow base e 1 (.slice (some ⟨g, 0, none⟩) n cap) n xs) (k : Nat) (u : Value) : ∃ ys, (w.setCell ⟨g, k, none⟩ u).ownsRow base e 1 (.slice (some ⟨g, 0, none⟩) n cap) n ys := by
  rcases h.2 with ⟨hv, _⟩ | ⟨g', cap', cur, hv, hg, hh, hn, hm, hsz, htk⟩
  · simp at hv
  · simp only [Value.slice.injEq, Option.some.injEq, Addr.mk.injEq, and_true, true_and] at hv
    obtain ⟨rfl, rfl⟩ := hv
    have e : (w.setCell ⟨g, k, none⟩ u).heap[g]? = some (.cells (cur.setIfInBounds k u) e (0, 0)) := by
      show (w.heap.modify g _)[g]? = _
      rw [Array.getElem?_modify]
      simp [hh]
    refine ⟨(cur.setIfInBounds k u).toList.take (n * 1), ?_, .inr ⟨g, cap, cur.setIfInBounds k u, rfl, hg, e, hn, hm, by simp [hsz], rfl⟩⟩
    rw [List.length_take]; simp [hsz]; omega
theorem own_cell {w : World} {base n cap : Nat} {ao : Option Addr} {e : TypeId} {xs : List Value} (h : w.ownsRow base e 1 (.slice ao n cap) n xs) (k : Nat) (hk : k < n) : ∃ g v, ao = some ⟨g, 0, none⟩ ∧ base ≤ g ∧ w.cell? ⟨g, k, none⟩ = some v ∧ w.frozen? ⟨g, k, none⟩ = false := by
  rcases h.2 with ⟨hv, h0⟩ | ⟨g, cap', cur, hv, hg, hh, hn, hm, hsz, htk⟩
  · omega
  · simp only [Value.slice.injEq, true_and] at hv
    obtain ⟨rfl, rfl⟩ := hv
    have hkc : k < cur.size := by omega
    exact ⟨g, cur[k], rfl, hg, by simp [World.cell?, hh, hkc], by simp [World.frozen?, hh]⟩

set_option maxHeartbeats 1000000 in
theorem overTexts_any (ao : Option Addr) (n cap B : Nat) (xs : List Value) (w : World) (hown : w.ownsRow B 9 1 (.slice ao n cap) n xs) (hn : n < 1000) (hB0 : B ≤ w.heap.size) :
    Calls Tryd.prog 13 #[.slice ao n cap] w fun e w' => (∃ v, e = .returned v) ∧ Below B w w' := by
  obtain ⟨i0, hi, hz0, hz1, hz2⟩ := info_parts infoS
  have HO := hide hown
  clear hown
  go_enter Tryd.func13, Tryd.ntmps13
  go_wp2_with fail
  go_loopw [2] (fun iv W => ∃ (k : Nat) (ys : List Value), k ≤ n ∧ iv = .int .i64 k ∧ Hid (W.ownsRow B 9 1 (.slice ao n cap) n ys) ∧ Hid (Below B w W)) (fun iv _ => n - (intOf iv).toNat)
  case atStart => exact ⟨0, xs, Nat.zero_le _, rfl, HO, Below.refl _ _⟩
  case round =>
    obtain ⟨k, ys, hk, rfl, hown, hB⟩ := hrel
    have hsz := hB.out.size
    by_cases hlt : k < n
    · obtain ⟨g, v, rfl, hg, hc, hf⟩ := own_cell hown.out k hlt
      obtain ⟨zs, hown2⟩ := own_set hown.out k (.string ⟨#[111, 118, 101, 114]⟩)
      have O2 := hide hown2
      have hlI : (k : Int) < (n : Int) := by omega
      clear hown2
      go_wp2_with fail
      refine ⟨⟨k + 1, zs, by omega, by go_num, O2, hB.out.setCell (p := ⟨g, k, none⟩) hg _⟩, by simp [intOf]; omega⟩
    · have HBs : Hid (∀ j, (Value.slice ao n cap).ownBlock = some j → B ≤ j) := fun j hj => owns_base hown.out j hj
      have hown2 := hown.out
      go_wp2_with (at_builtin; refine wpList_append_own _ rfl _ _ 23 rfl B 9 i0 (.string ByteArray.empty) 1 16 Tryd.underlying23 hi hz0 hz1 hz2 rfl (by decide) _ _ _ rfl (hown2.alloc _) ⟨wr.heap.size, 0, none⟩ 1 1 [.string ⟨#[111, 118, 101, 114]⟩] rfl rfl (cell_one_new _ _ _) (fun x hx => by simp at hx; subst hx; rfl) (by unfold maxLen; omega) (by omega) (by simp; omega) ?_; intro v' w4 hown' hgrow4 hnil4)
      have B4 : Below B w w4 := Below.trans (hB.out.alloc (by omega) _) (Below.grown (Below.refl _ _) hgrow4 (by simp; omega) HBs.out)
      exact bodyPost_end (v := .tuple #[]) (by kernel_rfl) rfl ⟨⟨_, rfl⟩, B4⟩
end Go.Proofs.YtaabficekcnlnaaDoor
