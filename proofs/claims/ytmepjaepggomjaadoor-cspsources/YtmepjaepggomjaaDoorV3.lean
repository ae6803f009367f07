/- Walks over moatref3: Name, Lower, Trim. -/
import Derived.Test.YtmepjaepggomjaaDoorV0
namespace Go.Proofs.YtmepjaepggomjaaDoor
open Go.RowKit Go.Proofs.Url

theorem name_len (s : ByteArray) (h : s.data.toList.all nameB = true) : nameS s.data.toList = (decide (1 ≤ (s.size : Int)) && decide ((s.size : Int) ≤ 40)) := by
  unfold nameS; rw [h, Bool.and_true, len_eq, Bool.eq_iff_iff]; simp; omega

theorem up_no {c : UInt8} (h : upB c = false) : ¬ ((65 : Int) ≤ (c.toNat : Int) ∧ (c.toNat : Int) ≤ 90) := by
  intro h'
  have : upB c = true := by unfold upB; exact decide_eq_true (by omega)
  rw [h] at this; cases this

end Go.Proofs.YtmepjaepggomjaaDoor
