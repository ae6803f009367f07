/- Walks over package field: isCapital, isNameByte, Name. -/
import Derived.Test.YtfbalmamhcbojaaDoorW1
import Derived.Test.YtfbalmamhcbojaaDoorF3
import Derived.Laws.IdiomStrings
namespace Go.Proofs.YtfbalmamhcbojaaDoor
open Go.RowKit Go.Proofs.Url

def upI (n : Int) : Bool := decide (65 ≤ n) && decide (n ≤ 90)
def nameI (n : Int) : Bool := decide (97 ≤ n ∧ n ≤ 122 ∨ 65 ≤ n ∧ n ≤ 90 ∨ 48 ≤ n ∧ n ≤ 57 ∨ n = 33 ∨ n = 35 ∨ n = 36 ∨ n = 37 ∨ n = 38 ∨ n = 39 ∨ n = 42 ∨ n = 43 ∨ n = 45 ∨ n = 46 ∨ n = 94 ∨ n = 95 ∨ n = 124 ∨ n = 126 ∨ n = 96)
theorem upI_eq (c : UInt8) : upI c.toNat = upB c :=
  of_decide_eq_true (all_bytes (fun c => decide (upI c.toNat = upB c)) (by decide +kernel) c)
theorem nameI_eq (c : UInt8) : nameI c.toNat = nameB c :=
  of_decide_eq_true (all_bytes (fun c => decide (nameI c.toNat = nameB c)) (by decide +kernel) c)

set_option maxHeartbeats 400000 in
theorem isCapital_any (n : Int) (w : World) (h0 : 0 ≤ n) (h1 : n ≤ 255) :
    Calls Tryd.prog 43 #[.int .u8 n] w fun e w' => e = .returned (.bool (upI n)) ∧ w' = w := by
  go_enter Tryd.func43, Tryd.ntmps43
  go_wp2
  all_goals go_ret
  all_goals exact ⟨ret_bool (by unfold upI; simp; try omega), rfl⟩

theorem name_no {s : ByteArray} (h : s.size = 0 ∨ 40 < s.size ∨ ∃ (k : Nat) (h : k < s.size), nameB s[k] = false) : nameS s.data.toList = false := by
  unfold nameS
  rcases h with h | h | ⟨k, h, h'⟩
  · simp [h]
  · rw [len_eq, decide_eq_false (by omega)]; rfl
  · rw [all_false_of nameB s k h h']; simp
theorem name_yes {s : ByteArray} (h0 : 0 < s.size) (h1 : s.size ≤ 40) (h3 : s.data.toList.all nameB = true) : nameS s.data.toList = true := by
  unfold nameS; rw [h3, len_eq, decide_eq_true ⟨by omega, h1⟩]; rfl

theorem convB (l : List UInt8) (w : World) : (convert 9 51 (.string ⟨l.toArray⟩)).run Tryd.prog w = .ok (.slice (some ⟨w.heap.size, 0, none⟩) (⟨l.toArray⟩ : ByteArray).size (grownCap w (⟨l.toArray⟩ : ByteArray).size 0 5))
      (w.drew.alloc (.cells (bytesRow ⟨l.toArray⟩ (grownCap w (⟨l.toArray⟩ : ByteArray).size 0 5)) 5 ((bytesRow ⟨l.toArray⟩ (grownCap w (⟨l.toArray⟩ : ByteArray).size 0 5)).size, (bytesRow ⟨l.toArray⟩ (grownCap w (⟨l.toArray⟩ : ByteArray).size 0 5)).size + 1))) :=
  run_bytes_of_string (P := Tryd.prog) w 9 51 5 ⟨l.toArray⟩ Tryd.underlying9 Tryd.underlying51 Tryd.underlying5

/-- Bytes in a block of their own, that may be written. -/
def BytesAt (W : World) (g : Nat) (m : List UInt8) : Prop := ∀ j (h : j < m.length), W.cell? ⟨g, j, none⟩ = some (.int .u8 m[j].toNat) ∧ W.frozen? ⟨g, j, none⟩ = false
theorem bytes_set {W : World} {g : Nat} {m : List UInt8} (h : BytesAt W g m) (k : Nat) (c : UInt8) : BytesAt (W.setCell ⟨g, k, none⟩ (.int .u8 c.toNat)) g (m.set k c) := by
  intro j hj
  rw [List.length_set] at hj
  obtain ⟨h1, h2⟩ := h j hj
  refine ⟨?_, by rw [World.frozen?_setCell]; exact h2⟩
  by_cases e : k = j
  · subst e; rw [World.cell?_setCell_same _ _ _ h1]; simp
  · rw [World.cell?_setCell_other _ _ _ _ (by intro e'; cases e'; exact e rfl), h1, List.getElem_set_ne e]
theorem bytes_new (l : List UInt8) (w : World) (cap : Nat) : BytesAt ((w.alloc (.cells (bytesRow ⟨l.toArray⟩ cap) 5 ((bytesRow ⟨l.toArray⟩ cap).size, (bytesRow ⟨l.toArray⟩ cap).size + 1))).drew) w.heap.size l := by
  intro j hj
  rw [World.cell?_drew, World.frozen?_drew, World.cell?_alloc_mark, World.frozen?_alloc_mark]
  have hd : j < (⟨l.toArray⟩ : ByteArray).data.size := by simpa using hj
  refine ⟨by rw [bytesRow_at _ _ _ hd]; simp, ?_⟩
  have : j < (bytesRow ⟨l.toArray⟩ cap).size := by unfold bytesRow; simp; omega
  rw [decide_eq_false (by omega)]; rfl
theorem bytes_back {W : World} {g : Nat} {m : List UInt8} (h : BytesAt W g m) (n cap : Nat) (hn : n = m.length) : (convert 51 9 (.slice (some ⟨g, 0, none⟩) n cap)).run Tryd.prog W = .ok (.string ⟨m.toArray⟩) W := by
  subst hn
  exact run_convert_bytes_back (P := Tryd.prog) W 51 9 5 ⟨g, 0, none⟩ cap m Tryd.underlying51 Tryd.underlying5 Tryd.underlying9 (fun j hj => by
    rw [show (⟨g, 0, none⟩ : Addr).add j = ⟨g, j, none⟩ by cases j <;> simp [Addr.add]]
    exact (h j hj).1)
/-- So many bytes small already. -/
def lowK (l : List UInt8) (k : Nat) : List UInt8 := lowerS (l.take k) ++ l.drop k
theorem lowK_len (l : List UInt8) (k : Nat) : (lowK l k).length = l.length := by unfold lowK; rw [List.length_append, lowerS_len, ← List.length_append, List.take_append_drop]
theorem lowK_zero (l : List UInt8) : lowK l 0 = l := rfl
theorem lowK_all (l : List UInt8) (k : Nat) (h : l.length ≤ k) : lowK l k = lowerS l := by unfold lowK; rw [List.take_of_length_le h, List.drop_eq_nil_of_le h, List.append_nil]
theorem lowK_at (l : List UInt8) (k : Nat) (h : k < l.length) (h' : k < (lowK l k).length) : (lowK l k)[k] = l[k] := by
  have e : (lowerS (l.take k)).length = k := by rw [lowerS_len, List.length_take]; omega
  apply Option.some.inj
  rw [← List.getElem?_eq_getElem, ← List.getElem?_eq_getElem]
  unfold lowK
  rw [List.getElem?_append_right (by omega), e, Nat.sub_self, List.getElem?_drop, Nat.add_zero]
theorem lowK_next (l : List UInt8) (k : Nat) (h : k < l.length) : (lowK l k).set k (lowerB l[k]) = lowK l (k + 1) := by
  have e : (lowerS (l.take k)).length = k := by rw [lowerS_len, List.length_take]; omega
  unfold lowK
  rw [List.set_append_right k _ (show (lowerS (l.take k)).length ≤ k by omega), e, Nat.sub_self, List.drop_eq_getElem_cons h, List.set_cons_zero, List.take_succ_eq_append_getElem h]
  unfold lowerS; rw [List.map_append]; simp only [List.map_cons, List.map_nil, List.append_assoc, List.singleton_append]
theorem lowK_same (l : List UInt8) (k : Nat) (h : k < l.length) (hu : upB l[k] = false) : lowK l k = lowK l (k + 1) := by
  rw [← lowK_next l k h]
  unfold lowerB; rw [if_neg (by simp [hu])]
  have h' : k < (lowK l k).length := by rw [lowK_len]; exact h
  rw [← lowK_at l k h h', List.set_getElem_self]
theorem lower_up {c : UInt8} (h : upB c = true) : (65 : Int) ≤ (c.toNat : Int) ∧ (c.toNat : Int) ≤ 90 ∧ ((lowerB c).toNat : Int) = (c.toNat : Int) + 32 := by
  have h1 : 65 ≤ c.toNat ∧ c.toNat ≤ 90 := of_decide_eq_true h
  refine ⟨by omega, by omega, ?_⟩
  unfold lowerB; rw [if_pos h, UInt8.toNat_add]
  show (((c.toNat + 32) % 256 : Nat) : Int) = _
  omega

set_option maxHeartbeats 400000 in
theorem lower_any (l : List UInt8) (w : World) (hs : l.length < 4294967281) :
    Calls Tryd.prog 28 #[.string ⟨l.toArray⟩] w fun e w' => e = .returned (.string ⟨(lowerS l).toArray⟩) ∧ Below w.heap.size w w' := by
  have kc := fun w => convB l w
  go_enter Tryd.func28, Tryd.ntmps28
  go_wp2_with fail
  go_loopw [10] (fun i W => ∃ (k : Nat), k ≤ l.length ∧ i = .int .i64 k ∧ Hid (BytesAt W w.heap.size (lowK l k)) ∧ Hid (Below w.heap.size w W)) (fun i _ => l.length - (intOf i).toNat)
  case atStart => exact ⟨0, Nat.zero_le _, rfl, bytes_new l w _, ((Below.refl _ _).alloc (Nat.le_refl _) _).drew⟩
  case round =>
    clear kc
    obtain ⟨k, hk, rfl, hat, hB⟩ := hrel
    by_cases hlt : k < l.length
    · have hlt' : k < (lowK l k).length := by rw [lowK_len]; exact hlt
      obtain ⟨hcell, hfr⟩ := hat.out k hlt'
      rw [lowK_at l k hlt hlt'] at hcell
      have hsz := hB.out.size
      have hgz : w.heap.size < wr.heap.size := World.block_lt_of_cell? wr _ hcell
      have hc : l[k].toNat < 256 := l[k].toNat_lt
      cases hu : upB l[k] with
      | true =>
        have hu' : upI l[k].toNat = true := by rw [upI_eq]; exact hu
        obtain ⟨h1, h2, h3⟩ := lower_up hu
        have HN : Hid (BytesAt (wr.setCell ⟨w.heap.size, k, none⟩ (.int .u8 (lowerB l[k]).toNat)) w.heap.size (lowK l (k + 1))) := by
          unfold Hid; rw [← lowK_next l k hlt]; exact bytes_set hat.out k _
        rw [h3] at HN
        clear hu hat h3
        go_wp2_with (go_at_call 43; refine (isCapital_any _ _ (by omega) (by omega)).mono ?_; rintro e w' ⟨rfl, rfl⟩)
        rw [show (l[k].toNat : Int) - 65 + 97 = l[k].toNat + 32 by omega]
        refine ⟨⟨k + 1, by omega, by go_num, HN, hB.out.setCell (p := ⟨w.heap.size, k, none⟩) (Nat.le_refl _) _⟩, by simp [intOf]; omega⟩
      | false =>
        have hu' : upI l[k].toNat = false := by rw [upI_eq]; exact hu
        have HN : Hid (BytesAt wr w.heap.size (lowK l (k + 1))) := by unfold Hid; rw [← lowK_same l k hlt hu]; exact hat.out
        clear hu hat
        go_wp2_with (go_at_call 43; refine (isCapital_any _ _ (by omega) (by omega)).mono ?_; rintro e w' ⟨rfl, rfl⟩)
        refine ⟨⟨k + 1, by omega, by go_num, HN, hB⟩, by simp [intOf]; omega⟩
    · have HE : Hid (BytesAt wr w.heap.size (lowerS l)) := by have := hat.out; rw [lowK_all l k (by omega)] at this; exact this
      have kb := fun cap => bytes_back HE.out l.length cap (lowerS_len l).symm
      clear hat
      go_wp2_with fail
      go_ret
      exact ⟨rfl, hB.out⟩
end Go.Proofs.YtfbalmamhcbojaaDoor
