/- Walks over url.Port, url.cutScheme, url.Host. -/
import Derived.Test.YtcmmjmgbanafgaaW2
import Derived.Test.YtcmmjmgbanafgaaPlain2
namespace Go.Proofs.Ytcmmjmgbanafgaa
open Go.RowKit Go.Proofs.Url

theorem port_no {s : ByteArray} (h : s.size = 0 ∨ 5 < s.size ∨ (∃ h : 0 < s.size, s[0].toNat = 48) ∨ (∃ (k : Nat) (h : k < s.size), dig s[k] = false) ∨ ¬ (1 ≤ num s.data.toList ∧ num s.data.toList ≤ 65535)) : portOk s.data.toList = false := by
  unfold portOk
  rcases h with h | h | ⟨h, h'⟩ | ⟨k, h, h'⟩ | h
  · simp [h]
  · simp; omega
  · rw [head_eq s h]; simp [← UInt8.toNat_inj, h']
  · rw [all_false_of dig s k h h']; simp
  · simp only [decide_eq_false h, Bool.and_false]
theorem port_yes {s : ByteArray} (h0 : 0 < s.size) (h1 : s.size ≤ 5) (h2 : ¬ s[0].toNat = 48) (h3 : s.data.toList.all dig = true) (h4 : 1 ≤ num s.data.toList ∧ num s.data.toList ≤ 65535) : portOk s.data.toList = true := by
  unfold portOk; rw [head_eq s h0, h3]; simp [← UInt8.toNat_inj, h2, h4]; omega
theorem port0 {l : List UInt8} (h : portOk l = false) : Ending.returned (.tuple #[.int .i64 0, .bool false]) = .returned (.tuple #[.int .i64 (port l), .bool (portOk l)]) := by simp [port, h]
theorem port1 {l : List UInt8} {z : Int} (h : portOk l = true) (hz : z = num l) : Ending.returned (.tuple #[.int .i64 z, .bool true]) = .returned (.tuple #[.int .i64 (port l), .bool (portOk l)]) := by simp [port, h, hz]

theorem trimmed (l p : List UInt8) (h : Lib.hasPrefix l p = true) : Lib.trimPrefix l p = l.drop p.length := by simp [Lib.trimPrefix, h]
theorem ret_ss {a b c d : List UInt8} (h : a = c) (h' : b = d) : Ending.returned (.tuple #[.string ⟨a.toArray⟩, .string ⟨b.toArray⟩]) = .returned (.tuple #[.string ⟨c.toArray⟩, .string ⟨d.toArray⟩]) := by rw [h, h']
/-- What the library asks of a world: its variable MaxLen, where the program has it, holds a number. -/
def EnvM (w : World) : Prop := ∃ m, w.cell? ⟨0, 0, none⟩ = some (.int .i64 m)
/-- Its table of powers of ten, where the program has it, is laid. -/
def EnvT (_w : World) : Prop := True
def Env (w : World) : Prop := EnvM w ∧ EnvT w

theorem parts_len (c : UInt8) (s : ByteArray) : (Lib.splitB ⟨#[c]⟩ 0 (Lib.countB s ⟨#[c]⟩) s).length = Lib.countB s ⟨#[c]⟩ + 1 := Lib.splitB_all ⟨#[c]⟩ (Nat.le_refl 1) 0 _ s rfl
theorem row_cell (w : World) (ps : List ByteArray) (t k : Nat) (h : k < ps.length) : (w.alloc (Obj.cells (List.map Value.string ps).toArray t)).cell? ⟨w.heap.size, k, none⟩ = some (.string ps[k]) := by
  rw [World.cell?_alloc_new]; simp [h]
theorem all_take_list {α : Type} (f : α → Bool) (l : List α) (k : Nat) (h : k < l.length) : (l.take (k + 1)).all f = ((l.take k).all f && f l[k]) := by
  rw [List.take_succ_eq_append_getElem h, List.all_append]; simp
def lab2 (p : ByteArray) : Bool := label p.data.toList
theorem all_lab (ps : List ByteArray) (l : List UInt8) (h : ps.map (·.data.toList) = parts 46 l) : (parts 46 l).all label = ps.all lab2 := by
  rw [← h, List.all_map]; rfl

end Go.Proofs.Ytcmmjmgbanafgaa
