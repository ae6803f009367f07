/- Walks over package domain: Labels, SameSite; moatlaw0.SameTexts. -/
import Derived.Test.YtfbalmamhcbojaaDoorS1
namespace Go.Proofs.YtfbalmamhcbojaaDoor
open Go.RowKit Go.Proofs.Url

theorem owns_base {w : World} {base : Nat} {e : TypeId} {size : Nat} {v : Value} {n : Nat} {xs : List Value} (h : w.ownsRow base e size v n xs) : ∀ j, v.ownBlock = some j → base ≤ j := by
  intro j hj
  rcases h.2 with ⟨rfl, _⟩ | ⟨g, cap, cur, rfl, hb, _⟩
  · cases hj
  · have : g = j := by simpa [Value.ownBlock] using hj
    omega
/-- A row that a walk owns stays as it was where all old blocks do. -/
theorem owns_below {w w' : World} {base : Nat} {e : TypeId} {size : Nat} {v : Value} {n : Nat} {xs : List Value} (h : w.ownsRow base e size v n xs) (hb : Below w.heap.size w w') : w'.ownsRow base e size v n xs := by
  refine ⟨h.1, ?_⟩
  rcases h.2 with h1 | ⟨g, cap, cur, hv, hg, hh, r⟩
  · exact .inl h1
  · refine .inr ⟨g, cap, cur, hv, hg, ?_, r⟩
    rw [hb.block g ?_]; exact hh
    rcases Nat.lt_or_ge g w.heap.size with h | h
    · exact h
    · rw [Array.getElem?_eq_none h] at hh; cases hh
theorem infoS : (Tryd.prog.info? 9).map (fun i => (i.zero, i.size, i.bytes)) = some (some (.string ByteArray.empty), 1, 16) := by kernel_rfl

/-- Where the walk over Labels stands: so many labels lie in its row, the rest is not yet cut. -/
def LabInv (l : List UInt8) (ps : List ByteArray) (cur : List UInt8) (b : Bool) : Prop :=
  if b = true then parts 46 l = ps.map (·.data.toList) ++ parts 46 cur else parts 46 l = ps.map (·.data.toList)
theorem lab_step {l : List UInt8} {ps : List ByteArray} {a b : List UInt8} (h : LabInv l ps (a ++ 46 :: b) true) (hn : ∀ x ∈ a, x ≠ 46) : LabInv l (ps ++ [⟨a.toArray⟩]) b true := by
  unfold LabInv at *; rw [if_pos rfl] at *; rw [h, parts_at 46 a b hn]; simp
theorem lab_last {l : List UInt8} {ps : List ByteArray} {a : List UInt8} (h : LabInv l ps a true) (hn : ∀ x ∈ a, x ≠ 46) : LabInv l (ps ++ [⟨a.toArray⟩]) [] false := by
  unfold LabInv at *; rw [if_pos rfl] at h; rw [if_neg (by decide), h, parts_none 46 a hn]; simp

theorem lab_round {l : List UInt8} {w w3 : World} {ps : List ByteArray} {x : ByteArray} {c : List UInt8} {b : Bool} {v' : Value} (hl : ps.length + c.length + 1 ≤ 60 ∨ b = false)
    (HI : Hid (LabInv l (ps ++ [x]) c b)) (hcl : c.length ≤ 60)
    (hown : w3.ownsRow w.heap.size 9 1 v' (ps.length + 1) (ps.map Value.string ++ [.string x])) (hB : Hid (Below w.heap.size w w3)) :
    ∃ (cur : List UInt8) (qs : List ByteArray) (ao : Option Addr) (cv : Nat) (bb : Bool), Value.string ⟨c.toArray⟩ = .string ⟨cur.toArray⟩ ∧ v' = .slice ao qs.length cv ∧ Value.bool b = .bool bb ∧ cur.length ≤ 60 ∧
      (qs.length + cur.length ≤ 60 ∨ bb = false) ∧ Hid (LabInv l qs cur bb) ∧ Hid (w3.ownsRow w.heap.size 9 1 (.slice ao qs.length cv) qs.length (qs.map Value.string)) ∧ Hid (Below w.heap.size w w3) := by
  have hq : (ps ++ [x]).length = ps.length + 1 := by simp
  obtain ⟨g, cap, hv⟩ : ∃ g cap, v' = .slice (some ⟨g, 0, none⟩) (ps.length + 1) cap := by
    rcases hown.2 with ⟨_, h⟩ | ⟨g, cap, _, h, _⟩
    · omega
    · exact ⟨g, cap, h⟩
  subst hv
  refine ⟨c, ps ++ [x], some ⟨g, 0, none⟩, cap, b, rfl, by rw [hq], rfl, hcl, by rw [hq]; exact hl.imp (fun h => by omega) id, HI, ?_, hB⟩
  unfold Hid; rw [hq, List.map_append]; exact hown

set_option maxHeartbeats 1000000 in
theorem labels_any (l : List UInt8) (w : World) (henv : Env w) (hl : l.length < 4294967281) :
    Calls Tryd.prog 47 #[.string ⟨l.toArray⟩] w fun e w' => ∃ (v : Value) (ps : List ByteArray), e = .returned v ∧ ps.map (·.data.toList) = labelsS l ∧ w'.ownsRow w.heap.size 9 1 v ps.length (ps.map Value.string) ∧ Below w.heap.size w w' := by
  obtain ⟨i0, hi, hz0, hz1, hz2⟩ := info_parts infoS
  cases hh : host l with
  | false =>
    have HN : Hid (labelsS l = []) := labels_none hh
    have HH := hide hh
    clear hh
    go_enter Tryd.func47, Tryd.ntmps47
    go_wp2_with fail
    refine (hostL_any l _ henv hl).mono ?_
    rintro e w1 ⟨rfl, hb1⟩
    rw [HH.out]
    go_wp2_with fail
    go_ret
    exact ⟨_, [], rfl, by rw [HN.out]; rfl, World.ownsRow_nil _ _ _ _, hb1⟩
  | true =>
    have HN : Hid (labelsS l = parts 46 l) := labels_host hh
    have h60 := host_len hh
    have HH := hide hh
    clear hh
    go_enter Tryd.func47, Tryd.ntmps47
    go_wp2_with fail
    refine (hostL_any l _ henv hl).mono ?_
    rintro e w1 ⟨rfl, hb1⟩
    rw [HH.out]
    have B1 := hide hb1
    clear hb1 hl
    go_wp2_with fail
    go_loopw [0, 3, 4] (fun hv lv mv W => ∃ (cur : List UInt8) (ps : List ByteArray) (ao : Option Addr) (cv : Nat) (b : Bool), hv = .string ⟨cur.toArray⟩ ∧ lv = .slice ao ps.length cv ∧ mv = .bool b ∧ cur.length ≤ 60 ∧ (ps.length + cur.length ≤ 60 ∨ b = false) ∧
      Hid (LabInv l ps cur b) ∧ Hid (W.ownsRow w.heap.size 9 1 (.slice ao ps.length cv) ps.length (ps.map Value.string)) ∧ Hid (Below w.heap.size w W)) (fun hv _ mv _ => btOf mv + szOf hv)
    case atStart => exact ⟨l, [], none, 0, true, rfl, rfl, rfl, h60, by simp; omega, by unfold Hid LabInv; simp, World.ownsRow_nil _ _ _ _, B1⟩
    case round =>
      obtain ⟨cur, ps, ao, cv, b, rfl, rfl, rfl, hcl, hpl, hinv, hown, hB⟩ := hrel
      cases b with
      | false =>
        have HF : Hid (ps.map (·.data.toList) = labelsS l) := by
          have := hinv.out; unfold LabInv at this; rw [if_neg (by decide)] at this
          unfold Hid; rw [HN.out, this]
        clear hinv hpl
        go_wp2_with fail
        go_ret
        exact ⟨_, ps, rfl, HF.out, hown.out, hB.out⟩
      | true =>
        have hpl' : ps.length + cur.length ≤ 60 := by rcases hpl with h | h; exact h; cases h
        clear hpl
        have hsize := hB.out.size
        have hbase : ∀ j, (Value.slice ao ps.length cv).ownBlock = some j → w.heap.size ≤ j := fun j hj => owns_base hown.out j hj
        rcases splitc 46 cur with hn | ⟨a, c, rfl, hn⟩
        · have HC := hide (cutc_none 46 cur hn)
          have HI : Hid (LabInv l (ps ++ [⟨cur.toArray⟩]) [] false) := lab_last hinv.out hn
          have HB := hide hbase
          clear hn hinv hbase
          have hE := henv.keep hB.out
          have HE := hide hE
          clear hE
          go_wp2_with fail
          refine (cutD_any cur _ HE.out (by omega)).mono ?_
          rintro e w2 ⟨rfl, hb2⟩
          rw [HC.out]
          have B2 := hide (hB.out.trans (hb2.mono hB.out.size))
          have O2 := hide (owns_below hown.out hb2)
          clear hb2 hB HE hown
          go_wp2_with fail
          refine (cloneL_any cur _ (by omega)).mono ?_
          rintro e w3 ⟨rfl, hb3⟩
          have B3 := hide (B2.out.trans (hb3.mono B2.out.size))
          have hown := owns_below O2.out hb3
          have hsize3 := B3.out.size
          clear hb3 B2 O2
          go_wp2_with (at_builtin; refine wpList_append_own _ rfl _ _ 29 rfl w.heap.size 9 i0 (.string ByteArray.empty) 1 16 Tryd.underlying29 hi hz0 hz1 hz2 rfl (by decide) _ _ _ rfl (hown.alloc _) ⟨w3.heap.size, 0, none⟩ 1 1 [.string ⟨cur.toArray⟩] rfl rfl (cell_one_new _ _ _) (fun x hx => by simp at hx; subst hx; rfl) (by unfold maxLen; omega) (by omega) (by simp; omega) ?_; intro v' w4 hown' hgrow4 hnil4)
          refine ⟨lab_round (.inr rfl) HI (by simp) hown' (hide (Below.trans (B3.out.alloc hsize3 _) (Below.grown (Below.refl _ _) hgrow4 (by simp; omega) HB.out))), by simp only [btOf, szOf, size_mk, List.length_nil]; omega⟩
        · have HC := hide (cutc_app 46 a c hn)
          have HI : Hid (LabInv l (ps ++ [⟨a.toArray⟩]) c true) := lab_step hinv.out hn
          have HB := hide hbase
          have hlen : a.length + c.length + 1 = (a ++ 46 :: c).length := by simp; omega
          generalize a ++ 46 :: c = cur at *
          clear hn hinv hbase
          have hE := henv.keep hB.out
          have HE := hide hE
          clear hE
          go_wp2_with fail
          refine (cutD_any cur _ HE.out (by omega)).mono ?_
          rintro e w2 ⟨rfl, hb2⟩
          rw [HC.out]
          have B2 := hide (hB.out.trans (hb2.mono hB.out.size))
          have O2 := hide (owns_below hown.out hb2)
          clear hb2 hB HE hown
          go_wp2_with fail
          refine (cloneL_any a _ (by omega)).mono ?_
          rintro e w3 ⟨rfl, hb3⟩
          have B3 := hide (B2.out.trans (hb3.mono B2.out.size))
          have hown := owns_below O2.out hb3
          have hsize3 := B3.out.size
          clear hb3 B2 O2
          go_wp2_with (at_builtin; refine wpList_append_own _ rfl _ _ 29 rfl w.heap.size 9 i0 (.string ByteArray.empty) 1 16 Tryd.underlying29 hi hz0 hz1 hz2 rfl (by decide) _ _ _ rfl (hown.alloc _) ⟨w3.heap.size, 0, none⟩ 1 1 [.string ⟨a.toArray⟩] rfl rfl (cell_one_new _ _ _) (fun x hx => by simp at hx; subst hx; rfl) (by unfold maxLen; omega) (by omega) (by simp; omega) ?_; intro v' w4 hown' hgrow4 hnil4)
          refine ⟨lab_round (.inl (by omega)) HI (by omega) hown' (hide (Below.trans (B3.out.alloc hsize3 _) (Below.grown (Below.refl _ _) hgrow4 (by simp; omega) HB.out))), by simp only [btOf, szOf, size_mk]; omega⟩

/-- What Labels hands back, written out: nil, or a row of texts in new memory. -/
theorem labels_out (l : List UInt8) (w : World) (henv : Env w) (hl : l.length < 4294967281) :
    Calls Tryd.prog 47 #[.string ⟨l.toArray⟩] w fun e w' => ∃ (ao : Option Addr) (cap : Nat) (ps : List ByteArray), e = .returned (.slice ao ps.length cap) ∧ ps.map (·.data.toList) = labelsS l ∧ ps.length ≤ cap ∧ ps.length ≤ 61 ∧
      (∀ k (h : k < ps.length), ∃ g, ao = some ⟨g, 0, none⟩ ∧ w.heap.size ≤ g ∧ g < w'.heap.size ∧ w'.cell? ⟨g, k, none⟩ = some (.string ps[k])) ∧ Below w.heap.size w w' := by
  refine (labels_any l w henv hl).mono ?_
  rintro e w' ⟨v, ps, rfl, hps, hown, hB⟩
  have h61 : ps.length ≤ 61 := by
    have e : (ps.map (·.data.toList)).length = (labelsS l).length := by rw [hps]
    cases hh : host l with
    | false => rw [labels_none hh] at e; simp at e; simp [e]
    | true =>
      rw [labels_host hh] at e
      have := parts_count 46 l
      have := host_len hh
      simp at e; omega
  rcases hown.2 with ⟨rfl, h0⟩ | ⟨g, cap, cur, rfl, hb, hh, hn, _, hsz, htk⟩
  · exact ⟨none, 0, ps, by rw [h0], hps, by omega, by omega, fun k h => by omega, hB⟩
  · refine ⟨some ⟨g, 0, none⟩, cap, ps, rfl, hps, hn, h61, fun k hk => ⟨g, rfl, hb, ?_, ?_⟩, hB⟩
    · rcases Nat.lt_or_ge g w'.heap.size with h | h
      · exact h
      · rw [Array.getElem?_eq_none h] at hh; cases hh
    · have : (cur.toList.take (ps.length * 1))[k]? = (ps.map Value.string)[k]? := by rw [htk]
      rw [List.getElem?_take, if_pos (by omega)] at this
      have e : w'.cell? ⟨g, k, none⟩ = cur[k]? := by simp [World.cell?, hh]
      rw [e]; simpa [hk] using this

end Go.Proofs.YtfbalmamhcbojaaDoor
