/- Walks over url.Port, url.cutScheme, url.Host. -/
import Derived.Test.YtlmchmhdojkokaaDoorW2
import Derived.Test.YtlmchmhdojkokaaDoorPlain2
namespace Go.Proofs.YtlmchmhdojkokaaDoor
open Go.RowKit Go.Proofs.Url

theorem port_no {s : ByteArray} (h : s.size = 0 ∨ 5 < s.size ∨ (∃ h : 0 < s.size, s[0].toNat = 48) ∨ (∃ (k : Nat) (h : k < s.size), dig s[k] = false) ∨ ¬ (1 ≤ num s.data.toList ∧ num s.data.toList ≤ 65535)) : portOk s.data.toList = false := by
  unfold portOk
  rcases h with h | h | ⟨h, h'⟩ | ⟨k, h, h'⟩ | h
  · simp [h]
  · simp; omega
  · rw [head_eq s h]; simp [← UInt8.toNat_inj, h']
  · rw [all_false_of dig s k h h']; simp
  · simp only [decide_eq_false h, Bool.and_false]
theorem port_yes {s : ByteArray} (h0 : 0 < s.size) (h1 : s.size ≤ 5) (h2 : ¬ s[0].toNat = 48) (h3 : s.data.toList.all dig = true) (h4 : 1 ≤ num s.data.toList ∧ num s.data.toList ≤ 65535) : portOk s.data.toList = true := by
  unfold portOk; rw [head_eq s h0, h3]; simp [← UInt8.toNat_inj, h2, h4]; omega
theorem port0 {l : List UInt8} (h : portOk l = false) : Ending.returned (.tuple #[.int .i64 0, .bool false]) = .returned (.tuple #[.int .i64 (port l), .bool (portOk l)]) := by simp [port, h]
theorem port1 {l : List UInt8} {z : Int} (h : portOk l = true) (hz : z = num l) : Ending.returned (.tuple #[.int .i64 z, .bool true]) = .returned (.tuple #[.int .i64 (port l), .bool (portOk l)]) := by simp [port, h, hz]

theorem trimmed (l p : List UInt8) (h : Lib.hasPrefix l p = true) : Lib.trimPrefix l p = l.drop p.length := by simp [Lib.trimPrefix, h]
theorem ret_ss {a b c d : List UInt8} (h : a = c) (h' : b = d) : Ending.returned (.tuple #[.string ⟨a.toArray⟩, .string ⟨b.toArray⟩]) = .returned (.tuple #[.string ⟨c.toArray⟩, .string ⟨d.toArray⟩]) := by rw [h, h']
/-- What the library asks of a world: its variable MaxLen, where the program has it, holds a number. -/
def EnvM (w : World) : Prop := ∃ m, w.cell? ⟨0, 0, none⟩ = some (.int .i64 m)
/-- Its table of powers of ten, where the program has it, is laid. -/
def EnvT (_w : World) : Prop := True
def Env (w : World) : Prop := EnvM w ∧ EnvT w

theorem parts_len (c : UInt8) (s : ByteArray) : (Lib.splitB ⟨#[c]⟩ 0 (Lib.countB s ⟨#[c]⟩) s).length = Lib.countB s ⟨#[c]⟩ + 1 := Lib.splitB_all ⟨#[c]⟩ (Nat.le_refl 1) 0 _ s rfl
theorem row_cell (w : World) (ps : List ByteArray) (t k : Nat) (h : k < ps.length) : (w.alloc (Obj.cells (List.map Value.string ps).toArray t)).cell? ⟨w.heap.size, k, none⟩ = some (.string ps[k]) := by
  rw [World.cell?_alloc_new]; simp [h]
theorem all_take_list {α : Type} (f : α → Bool) (l : List α) (k : Nat) (h : k < l.length) : (l.take (k + 1)).all f = ((l.take k).all f && f l[k]) := by
  rw [List.take_succ_eq_append_getElem h, List.all_append]; simp
def lab2 (p : ByteArray) : Bool := label p.data.toList
theorem all_lab (ps : List ByteArray) (l : List UInt8) (h : ps.map (·.data.toList) = parts 46 l) : (parts 46 l).all label = ps.all lab2 := by
  rw [← h, List.all_map]; rfl

set_option maxHeartbeats 400000 in
theorem host_any (s : ByteArray) (w : World) (henv : Env w) (hs : s.size ≤ maxLen) :
    Calls Tryd.prog 31 #[.string s] w fun e w' => e = .returned (.bool (host s.data.toList)) ∧ Below w.heap.size w w' := by
  unfold maxLen at hs
  by_cases h60 : 60 < s.size
  · have HN : Hid (host s.data.toList = false) := by unfold host Hid; simp; omega
    go_enter Tryd.func31, Tryd.ntmps31
    go_wp2
    go_ret
    exact ⟨ret_bool HN.out.symm, Below.refl _ _⟩
  obtain ⟨⟨m, hm⟩, _⟩ := henv
  have HP : Hid ((Lib.splitB ⟨#[46]⟩ 0 (Lib.countB s ⟨#[46]⟩) s).map (·.data.toList) = parts 46 s.data.toList) := parts_split s 46
  have HL := parts_len 46 s
  have hN : Lib.countB s ⟨#[46]⟩ ≤ s.size := Lib.countB_le ⟨#[46]⟩ (by decide) s.size s (Nat.le_refl _)
  go_enter Tryd.func31, Tryd.ntmps31
  go_wp2_with fail
  refine (Tryd.strings_Split _ _ m _ (by omega) hm (by decide)).mono ?_
  rintro e w' ⟨rfl, rfl⟩
  clear hm
  generalize hps : Lib.splitB ⟨#[46]⟩ 0 (Lib.countB s ⟨#[46]⟩) s = ps at *
  generalize Lib.countB s ⟨#[46]⟩ = N at *
  clear hps
  have HH : Hid (host s.data.toList = ps.all lab2) := by
    unfold host Hid; rw [all_lab ps _ HP.out]; simp; omega
  have HZ : Hid (∀ k (h : k < ps.length), ps[k].size ≤ s.size) := by
    intro k h
    have hmem : ps[k].data.toList ∈ parts 46 s.data.toList := by
      rw [← HP.out]; exact List.mem_map.2 ⟨ps[k], List.getElem_mem h, rfl⟩
    have := parts_le 46 _ _ hmem
    simpa using this
  have HL' : Hid (ps.length = N + 1) := HL
  clear HL HP
  go_wp2_with fail
  go_loop [11] (fun i => ∃ k : Nat, k ≤ N + 1 ∧ i = .int .i64 k ∧ Hid ((ps.take k).all lab2 = true)) (fun i => N + 1 - (intOf i).toNat)
  case atStart => exact ⟨0, Nat.zero_le _, rfl, rfl⟩
  case round =>
    obtain ⟨k, hk, rfl, hall⟩ := hrel
    by_cases hlt : k < N + 1
    · have hlp : k < ps.length := by rw [HL'.out]; exact hlt
      have hcell := row_cell w ps 9 k hlp
      have hsz := HZ.out k hlp
      have HS : Hid ((ps.take (k + 1)).all lab2 = ((ps.take k).all lab2 && lab2 ps[k])) := all_take_list lab2 ps k hlp
      cases hp : lab2 ps[k] with
      | true =>
        have HB : Hid (label ps[k].data.toList = true) := hp
        clear hp
        go_wp2_with fail
        refine (isLabel_any _ _ (by unfold maxLen; omega)).mono ?_
        rintro e w' ⟨rfl, rfl⟩
        rw [HB.out]
        go_wp2_with fail
        go_round
        case rel => exact ⟨k + 1, by omega, by go_num, by unfold Hid; rw [HS.out, hall.out, show lab2 ps[k] = true from HB.out]; rfl⟩
        case measure => simp [intOf]; omega
      | false =>
        have HB : Hid (label ps[k].data.toList = false) := hp
        have HN : Hid (ps.all lab2 = false) := by unfold Hid; rw [List.all_eq_false]; exact ⟨ps[k], List.getElem_mem hlp, by simp [hp]⟩
        clear hp
        go_wp2_with fail
        refine (isLabel_any _ _ (by unfold maxLen; omega)).mono ?_
        rintro e w' ⟨rfl, rfl⟩
        rw [HB.out]
        go_wp2_with fail
        go_ret
        exact ⟨ret_bool (by rw [HH.out, HN.out]), (Below.refl _ _).alloc (Nat.le_refl _) _⟩
    · go_wp2_with fail
      go_ret
      refine ⟨ret_bool ?_, (Below.refl _ _).alloc (Nat.le_refl _) _⟩
      have := hall.out
      rw [List.take_of_length_le (by rw [HL'.out]; omega)] at this
      rw [HH.out, this]
end Go.Proofs.YtlmchmhdojkokaaDoor
