/- The walk over lex.Word as landed at 1c89fe9. -/
import Derived.Test.YtcmmjmgbanafgaaLx2
namespace Go.Proofs.Ytcmmjmgbanafgaa
open Go.RowKit Go.Proofs.Url

set_option maxHeartbeats 4000000 in
set_option maxRecDepth 100000 in
theorem Word_any (l : List UInt8) (w : World) :
    Calls Try.prog 49 #[.string ⟨l.toArray⟩] w fun e w' => e = .returned (.bool (wordS l)) ∧ w' = w := by
  go_enter Try.func49, Try.ntmps49
  go_wp2
  all_goals go_ret
  all_goals (refine ⟨ret_bool ?_, rfl⟩; simp_all [wordS, words9])
end Go.Proofs.Ytcmmjmgbanafgaa
