/- The walk over moatref1.Digits. -/
import Derived.Test.YtkomggockjeibaaDoorW5
import Derived.Test.YtkomggockjeibaaDoorPlain3
namespace Go.Proofs.YtkomggockjeibaaDoor
open Go.RowKit Go.Proofs.Url

theorem convN (w : World) (n : Nat) : (convert 38 9 (.slice (some ⟨w.heap.size, 0, none⟩) 1 1)).run Tryd.prog (w.alloc (.cells #[.int .u8 (48 + (n : Int) % 10)] 5)) = .ok (.string ⟨#[dgt n]⟩) (w.alloc (.cells #[.int .u8 (48 + (n : Int) % 10)] 5)) := by
  have e : (48 + (n : Int) % 10) = ((dgt n).toNat : Int) := by rw [dgt_nat]; omega
  rw [e]
  exact run_convert_bytes_back (P := Tryd.prog) (w.alloc (.cells #[.int .u8 (dgt n).toNat] 5)) 38 9 5 ⟨w.heap.size, 0, none⟩ 1 [dgt n] Tryd.underlying38 Tryd.underlying5 Tryd.underlying9 (fun j hj => by
    have : j = 0 := by simpa using hj
    subst this
    show (w.alloc (.cells #[.int .u8 (dgt n).toNat] 5)).cell? ⟨w.heap.size, 0, none⟩ = _
    rw [World.cell?_alloc_new]; rfl)
theorem ret_str {a b : ByteArray} (h : a = b) : Ending.returned (.string a) = .returned (.string b) := by rw [h]

set_option maxHeartbeats 400000 in
theorem digits_any (n : Nat) (w : World) (hn : n ≤ 70000) :
    Calls Tryd.prog 22 #[.int .i64 n] w fun e w' => e = .returned (.string ⟨(Lib.decDigits n).toArray⟩) ∧ Below w.heap.size w w' := by
  have kc := fun w => convN w n
  go_enter Tryd.func22, Tryd.ntmps22
  go_wp2_with fail
  go_loopw [0, 3] (fun i s W => ∃ (k : Nat) (l : List UInt8), k ≤ n ∧ i = .int .i64 k ∧ s = .string ⟨l.toArray⟩ ∧ l.length + k ≤ n + 1 ∧ Hid (dd k ++ l = Lib.decDigits n) ∧ Hid (Below w.heap.size w W)) (fun i _ _ => (intOf i).toNat)
  case atStart => exact ⟨n / 10, [dgt n], by omega, by go_num, rfl, by simp; omega, (dec_step n).symm, (Below.refl _ _).alloc (Nat.le_refl _) _⟩
  case round =>
    clear kc
    obtain ⟨k, l, hk, rfl, rfl, hl, hg, hB⟩ := hrel
    by_cases hpos : 0 < k
    · have kc := fun w => convN w k
      have hsr : w.heap.size ≤ wr.heap.size := hB.out.size
      have HD : Hid (dd k = dd (k / 10) ++ [dgt k]) := dd_step k hpos
      go_wp2_with fail
      refine ⟨⟨k / 10, dgt k :: l, by omega, by go_num, rfl, by simp; omega, ?_, hB.out.alloc hsr _⟩, by simp [intOf]; omega⟩
      have := hg.out
      unfold Hid
      rw [HD.out] at this
      simpa using this
    · have h0 : k = 0 := by omega
      subst h0
      go_wp2_with fail
      go_ret
      exact ⟨ret_str (by rw [← hg.out]; rfl), hB.out⟩
end Go.Proofs.YtkomggockjeibaaDoor
