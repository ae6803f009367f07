/- Walks over url.Read and url.Text. -/
import Derived.Test.YtkomggockjeibaaDoorW3
import Derived.Lib.SmallJoins
import Derived.KernelRfl
namespace Go.Proofs.YtkomggockjeibaaDoor
open Go.RowKit Go.Proofs.Url

theorem Env.pos {w : World} (h : Env w) : 0 < w.heap.size := by
  obtain ⟨⟨m, h⟩, _⟩ := h
  exact Nat.lt_of_le_of_lt (Nat.zero_le _) (World.block_lt_of_cell? w _ h)
theorem Env.keep {w w' : World} (h : Env w) (hb : Below w.heap.size w w') : Env w' := by
  obtain ⟨⟨m, h⟩, ht⟩ := h
  exact ⟨⟨m, by rw [hb.cell (World.block_lt_of_cell? w _ h)]; exact h⟩, Joins.tab_stays (g := 1) (by kernel_rfl) ht hb (Nat.le_refl _)⟩
theorem Env.alloc {w : World} (h : Env w) (o : Obj) : Env (w.alloc o) := h.keep ((Below.refl _ _).alloc (Nat.le_refl _) _)
theorem Env.drewN {w : World} (h : Env w) (n : Nat) : Env (w.drewN n) := h.keep (below_drewN (Below.refl _ _) n)

theorem size_mk (l : List UInt8) : (⟨l.toArray⟩ : ByteArray).size = l.length := by simp [ByteArray.size]
theorem cutL_any (l : List UInt8) (w : World) (henv : Env w) (h : l.length < 4294967281) :
    Calls Tryd.prog 24 #[.string ⟨l.toArray⟩, .string ⟨#[58]⟩] w fun e w' => e = .returned (.tuple #[.string ⟨(Lib.cut l [58]).1.toArray⟩, .string ⟨(Lib.cut l [58]).2.1.toArray⟩, .bool (Lib.cut l [58]).2.2]) ∧ ∃ n, w' = w.drewN n := by
  obtain ⟨⟨m, hm⟩, _⟩ := henv
  exact Tryd.strings_Cut ⟨l.toArray⟩ ⟨#[58]⟩ m w (by rw [size_mk]; exact h) hm
theorem ownPortL_any (l : List UInt8) (w : World) :
    Calls Tryd.prog 25 #[.string ⟨l.toArray⟩] w fun e w' => e = .returned (.tuple #[.int .i64 (own l), .bool (!decide (own l = 0))]) ∧ w' = w := ownPort_any ⟨l.toArray⟩ w
theorem hostL_any (l : List UInt8) (w : World) (henv : Env w) (h : l.length < 4294967281) :
    Calls Tryd.prog 13 #[.string ⟨l.toArray⟩] w fun e w' => e = .returned (.bool (host l)) ∧ Below w.heap.size w w' := host_any ⟨l.toArray⟩ w henv (by rw [size_mk]; unfold maxLen; omega)
theorem portL_any (l : List UInt8) (w : World) (h : l.length < 4294967281) :
    Calls Tryd.prog 11 #[.string ⟨l.toArray⟩] w fun e w' => e = .returned (.tuple #[.int .i64 (port l), .bool (portOk l)]) ∧ w' = w := port_any ⟨l.toArray⟩ w (by rw [size_mk]; unfold maxLen; omega)
theorem cloneL_any (l : List UInt8) (w : World) (h : l.length < 4294967281) :
    Calls Tryd.prog 26 #[.string ⟨l.toArray⟩] w fun e w' => e = .returned (.string ⟨l.toArray⟩) ∧ Below w.heap.size w w' := clone_any ⟨l.toArray⟩ w (by rw [size_mk]; omega)

theorem cutS_le (l : List UInt8) : (cutS l).2.length ≤ l.length := by
  unfold cutS; split
  · simp
  · split <;> simp
theorem cut_le1 (l : List UInt8) : (Lib.cut l [58]).1.length ≤ l.length := by
  unfold Lib.cut; split <;> simp
  omega
theorem cut_le2 (l : List UInt8) : (Lib.cut l [58]).2.1.length ≤ l.length := by
  unfold Lib.cut; split <;> simp

theorem bcell {W w1 : World} (hb : Below W.heap.size W w1) : (∀ b o, b < W.heap.size → w1.cell? ⟨b, o, none⟩ = W.cell? ⟨b, o, none⟩) ∧ (∀ b o, b < W.heap.size → w1.frozen? ⟨b, o, none⟩ = W.frozen? ⟨b, o, none⟩) :=
  ⟨fun b o h => hb.cell (p := ⟨b, o, none⟩) h, fun b o h => hb.frozen (p := ⟨b, o, none⟩) h⟩

theorem set4 {B : Nat} {a w : World} (h : Below B a w) (b : Nat) (hb : B ≤ b) (v0 v1 v2 v3 : Value) : Below B a ((((w.setCell ⟨b, 0, none⟩ v0).setCell ⟨b, 1, none⟩ v1).setCell ⟨b, 2, none⟩ v2).setCell ⟨b, 3, none⟩ v3) :=
  (((h.setCell hb _).setCell hb _).setCell hb _).setCell hb _

set_option maxHeartbeats 400000 in
theorem read_any (s : ByteArray) (w : World) (henv : Env w) (hs : s.size < 4294967281) :
    Calls Tryd.prog 9 #[.string s] w fun e w' => e = .returned (.tuple #[originV (readS s.data.toList), .bool (readS s.data.toList).isSome]) ∧ Below w.heap.size w w' := by
  have hl : s.data.toList.length < 4294967281 := by simpa using hs
  have HR : Hid (readS s.data.toList = readR (cutS s.data.toList).1 (Lib.cut (cutS s.data.toList).2 [58])) := rfl
  have a1 := cutS_le s.data.toList
  go_enter Tryd.func9, Tryd.ntmps9
  go_wp2_with fail
  refine (cutScheme_any _ _).mono ?_
  rintro e w' ⟨rfl, rfl⟩
  generalize (cutS s.data.toList).1 = sch at *
  generalize (cutS s.data.toList).2 = rest at *
  go_wp2_with fail
  refine (cutL_any _ _ (henv.alloc _) (by omega)).mono ?_
  rintro e w' ⟨rfl, n, rfl⟩
  have a2 := cut_le1 rest
  have a3 := cut_le2 rest
  generalize Lib.cut rest [58] = c at *
  obtain ⟨hst, dgs, told⟩ := c
  simp only at a2 a3 ⊢
  go_wp2_with fail
  refine (ownPortL_any _ _).mono ?_
  rintro e w' ⟨rfl, rfl⟩
  by_cases h0 : own sch = 0
  · have HR1 : Hid (readS s.data.toList = none) := by unfold Hid; rw [HR.out, readR, if_pos (.inl h0)]
    rw [h0]
    clear h0 HR
    go_wp2_with fail
    refine bodyPost_ret (v := .tuple #[originV (readS s.data.toList), .bool (readS s.data.toList).isSome]) ?_ rfl ⟨rfl, ?_⟩
    · rw [HR1.out]; simp [results, Tryd.results9, go_sem, originV]
    · exact set4 (below_drewN (Below.alloc (Below.refl _ _) (Nat.le_refl _) _) _) _ (Nat.le_refl _) _ _ _ _
  have h0' : decide (own sch = 0) = false := by simpa using h0
  rw [h0']
  generalize hP : own sch = P at *
  have HPo := hide hP
  clear hP h0'
  go_wp2_with fail
  refine (hostL_any _ _ ((henv.alloc _).drewN _) (by omega)).mono ?_
  rintro e w1 ⟨rfl, hb⟩
  obtain ⟨hc, hf⟩ := bcell hb
  have hz : w.heap.size < w1.heap.size := by have := hb.size; simp at this; omega
  have hbw : Below w.heap.size w w1 := (below_drewN ((Below.refl _ _).alloc (Nat.le_refl _) _) _).trans (hb.mono (by simp))
  by_cases hh : host hst = false
  · have HR1 : Hid (readS s.data.toList = none) := by unfold Hid; rw [HR.out, readR, if_pos (.inr hh)]
    rw [hh]
    clear hh HR
    go_wp2_with fail
    refine bodyPost_ret (v := .tuple #[originV (readS s.data.toList), .bool (readS s.data.toList).isSome]) ?_ rfl ⟨rfl, ?_⟩
    · rw [HR1.out]; simp [results, Tryd.results9, go_sem, originV, hc]
    · exact set4 hbw _ (Nat.le_refl _) _ _ _ _
  have HH : Hid (host hst = true) := by unfold Hid; simpa using hh
  clear hh
  rw [HH.out]
  cases told with
  | false =>
    have HR1 : Hid (readS s.data.toList = some (sch, hst, P)) := by
      unfold Hid; rw [HR.out, readR, if_neg (by rw [HPo.out, HH.out]; simp [h0])]; simp [HPo.out]
    clear HR
    go_wp2_with fail
    refine (cloneL_any _ _ (by omega)).mono ?_
    rintro e w2 ⟨rfl, hb2⟩
    obtain ⟨hc2, hf2⟩ := bcell hb2
    have hz2 : w.heap.size < w2.heap.size := by have := hb2.size; omega
    have hbw2 : Below w.heap.size w w2 := hbw.trans (hb2.mono (by omega))
    go_wp2_with fail
    refine bodyPost_ret (v := .tuple #[originV (readS s.data.toList), .bool (readS s.data.toList).isSome]) ?_ rfl ⟨rfl, ?_⟩
    · rw [HR1.out]; simp [results, Tryd.results9, go_sem, originV, hc, hc2, hz]
    · exact set4 hbw2 _ (Nat.le_refl _) _ _ _ _
  | true =>
    go_wp2_with fail
    refine (portL_any _ _ (by omega)).mono ?_
    rintro e w2 ⟨rfl, rfl⟩
    by_cases hp : portOk dgs = false
    · have HR1 : Hid (readS s.data.toList = none) := by
        unfold Hid; rw [HR.out, readR, if_neg (by rw [HPo.out, HH.out]; simp [h0])]; simp [hp]
      rw [hp]
      clear hp HR
      go_wp2_with fail
      refine bodyPost_ret (v := .tuple #[originV (readS s.data.toList), .bool (readS s.data.toList).isSome]) ?_ rfl ⟨rfl, ?_⟩
      · rw [HR1.out]; simp [results, Tryd.results9, go_sem, originV, hc]
      · exact set4 hbw _ (Nat.le_refl _) _ _ _ _
    have hp' : portOk dgs = true := by simpa using hp
    have HR1 : Hid (readS s.data.toList = some (sch, hst, port dgs)) := by
      unfold Hid; rw [HR.out, readR, if_neg (by rw [HPo.out, HH.out]; simp [h0])]; simp [hp', port]
    rw [hp']
    clear hp hp' HR
    generalize port dgs = pd at *
    go_wp2_with fail
    refine (cloneL_any _ _ (by omega)).mono ?_
    rintro e w2 ⟨rfl, hb2⟩
    obtain ⟨hc2, hf2⟩ := bcell hb2
    have hz2 : w.heap.size < w2.heap.size := by have := hb2.size; omega
    have hbw2 : Below w.heap.size w w2 := hbw.trans (hb2.mono (by omega))
    go_wp2_with fail
    refine bodyPost_ret (v := .tuple #[originV (readS s.data.toList), .bool (readS s.data.toList).isSome]) ?_ rfl ⟨rfl, ?_⟩
    · rw [HR1.out]; simp [results, Tryd.results9, go_sem, originV, hc, hc2, hz]
    · exact set4 hbw2 _ (Nat.le_refl _) _ _ _ _
end Go.Proofs.YtkomggockjeibaaDoor
