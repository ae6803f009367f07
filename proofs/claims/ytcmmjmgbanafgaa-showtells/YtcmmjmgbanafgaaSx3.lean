/- The walk over moatref10.Parser's is. -/
import Derived.Test.YtcmmjmgbanafgaaSx2
namespace Go.Proofs.Ytcmmjmgbanafgaa
open Go.RowKit Go.Proofs.Url Go.Proofs.Url.Syn

set_option maxHeartbeats 4000000 in
set_option maxRecDepth 100000 in
theorem pIs_any (s : List UInt8) (g : Nat) (ao : Option Addr) (cap : Nat) (ts r : List Tk) (b : Bool) (w : World) (h : PS w g ao cap ts r b) :
    Calls Try.prog 64 #[.pointer (some ⟨g, 0, none⟩), .string ⟨s.toArray⟩] w fun e w' => e = .returned (.bool (!b && isT s r)) ∧ Below w.heap.size w w' := by
  have HO := hide (fun n => pOk_any g ao cap ts r b (w.drewN n) (h.keep (below_drewP w n)))
  obtain ⟨i, hi, hr, hp⟩ := h.ex
  have HT := hide h.tk
  have c0 := hp.c0
  have c1 := hp.c1
  have c2 := hp.c2
  have hgl := hp.lt
  have bd := fun n => below_drewP w n
  have BD := hide bd
  clear hp h bd
  cases b with
  | true =>
    simp only [if_true] at c2
    simp only [Bool.not_true] at HO
    go_enter Try.func64, Try.ntmps64
    go_wp2_with fail
    go_quiet (first | (go_at_call 33; exact Calls.quiet_of_same (HO.out _)))
    go_wp2_with fail
    go_ret
    exact ⟨rfl, BD.out _⟩
  | false =>
    simp only [Bool.false_eq_true, if_false] at c2
    simp only [Bool.not_false] at HO
    by_cases hlt : i < ts.length
    · have hlI : (i : Int) < (ts.length : Int) := by omega
      obtain ⟨tg, rfl, htg, k1, k2, k3⟩ := HT.out i hlt
      have HA : Hid (isT s r = ((ts[i].kind == 4 || ts[i].kind == 2) && ts[i].text == s)) := by unfold Hid; rw [← hr, List.drop_eq_getElem_cons hlt]; rfl
      have htl : tg < w.heap.size := by omega
      rw [HA.out]
      clear HA hr hi k2 htg HT
      generalize ts[i].kind = tk at *
      generalize ts[i].text = tt at *
      by_cases h4 : tk = 4
      · subst h4
        cases ht : (tt == s) with
        | true =>
          go_enter Try.func64, Try.ntmps64
          go_wp2_with fail
          go_quiet (first | (go_at_call 33; exact Calls.quiet_of_same (HO.out _)))
          go_wp2_with fail
          go_ret
          exact ⟨rfl, BD.out _⟩
        | false =>
          go_enter Try.func64, Try.ntmps64
          go_wp2_with fail
          go_quiet (first | (go_at_call 33; exact Calls.quiet_of_same (HO.out _)))
          go_wp2_with fail
          go_ret
          exact ⟨rfl, BD.out _⟩
      · have b4 : ((tk : Int) == 4) = false := beq_eq_false_iff_ne.2 (by omega)
        by_cases h2 : tk = 2
        · subst h2
          clear h4 b4
          cases ht : (tt == s) with
          | true =>
            go_enter Try.func64, Try.ntmps64
            go_wp2_with fail
            go_quiet (first | (go_at_call 33; exact Calls.quiet_of_same (HO.out _)))
            go_wp2_with fail
            go_ret
            exact ⟨rfl, BD.out _⟩
          | false =>
            go_enter Try.func64, Try.ntmps64
            go_wp2_with fail
            go_quiet (first | (go_at_call 33; exact Calls.quiet_of_same (HO.out _)))
            go_wp2_with fail
            go_ret
            exact ⟨rfl, BD.out _⟩
        · have b2 : ((tk : Int) == 2) = false := beq_eq_false_iff_ne.2 (by omega)
          have hz : ((tk == 4 || tk == 2) && tt == s) = false := by simp [h4, h2]
          rw [hz]
          clear h4 h2 hz
          go_enter Try.func64, Try.ntmps64
          go_wp2_with fail
          go_quiet (first | (go_at_call 33; exact Calls.quiet_of_same (HO.out _)))
          go_wp2_with fail
          go_ret
          exact ⟨rfl, BD.out _⟩
    · have hlI : ¬ (i : Int) < (ts.length : Int) := by omega
      have hz : isT s r = false := by rw [← hr, List.drop_eq_nil_of_le (by omega)]; rfl
      rw [hz]
      clear hr hz hi HT
      go_enter Try.func64, Try.ntmps64
      go_wp2_with fail
      go_quiet (first | (go_at_call 33; exact Calls.quiet_of_same (HO.out _)))
      go_wp2_with fail
      go_ret
      exact ⟨rfl, BD.out _⟩

end Go.Proofs.Ytcmmjmgbanafgaa
