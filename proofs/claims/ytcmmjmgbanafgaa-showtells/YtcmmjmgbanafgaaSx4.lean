/- The walk over moatref10.Parser's take, need. -/
import Derived.Test.YtcmmjmgbanafgaaSx3
namespace Go.Proofs.Ytcmmjmgbanafgaa
open Go.RowKit Go.Proofs.Url Go.Proofs.Url.Syn

/-- What is left behind a sign or word that is taken. -/
def takeR (s : List UInt8) (b : Bool) (r : List Tk) : List Tk := if !b && isT s r then r.tail else r
set_option maxHeartbeats 1000000 in
theorem pTake_any (s : List UInt8) (g : Nat) (ao : Option Addr) (cap : Nat) (ts r : List Tk) (b : Bool) (w : World) (h : PS w g ao cap ts r b) (hl : ts.length < 4294967281) :
    Calls Try.prog 61 #[.pointer (some ⟨g, 0, none⟩), .string ⟨s.toArray⟩] w fun e w' => e = .returned (.bool (!b && isT s r)) ∧ PS w' g ao cap ts (takeR s b r) b ∧ ButP g w w' := by
  have HI := hide (pIs_any s g ao cap ts r b w h)
  have HS := hide h
  clear h
  cases hq : (!b && isT s r) with
  | false =>
    have HR : Hid (takeR s b r = r) := by unfold Hid takeR; rw [hq]; rfl
    rw [hq] at HI
    go_enter Try.func61, Try.ntmps61
    go_wp2_with fail
    refine HI.out.mono ?_
    rintro e w1 ⟨rfl, hb1⟩
    have S1 := hide (HS.out.keep hb1)
    have B1 := hide (ButP.of (g := g) hb1)
    clear hb1 hq
    go_wp2_with fail
    go_ret
    exact ⟨rfl, by rw [HR.out]; exact S1.out, B1.out⟩
  | true =>
    rw [hq] at HI
    obtain ⟨rfl, hT⟩ : b = false ∧ isT s r = true := by cases b <;> simp_all
    have HR : Hid (takeR s false r = r.tail) := by unfold Hid takeR; rw [hT]; rfl
    clear hq
    go_enter Try.func61, Try.ntmps61
    go_wp2_with fail
    refine HI.out.mono ?_
    rintro e w1 ⟨rfl, hb1⟩
    have S1 := hide (HS.out.keep hb1)
    have B1 := hide (ButP.of (g := g) hb1)
    clear hb1 HI HS
    obtain ⟨i, hi, hr, hp⟩ := S1.out.ex
    simp only [Bool.false_eq_true, if_false] at hp
    have HP := hide hp
    have c1 := hp.c1
    have q1 := hp.fr 1 (by decide)
    have hgl := hp.lt
    have HN : Hid (i + 1 ≤ ts.length ∧ ts.drop (i + 1) = r.tail) := by
      cases r with
      | nil => cases hT
      | cons t r' =>
        obtain ⟨h1, _, h3⟩ := drop_headP hr
        exact ⟨h1, h3⟩
    have hiI : (i : Int) < 4294967281 := by omega
    clear hp hT hr hi
    go_wp2_with fail
    go_ret
    refine ⟨rfl, ?_, B1.out.set _ _⟩
    rw [HR.out]
    refine ⟨⟨i + 1, HN.out.1, HN.out.2, ?_⟩, ?_⟩
    · have := HP.out.set1 (i + 1)
      simpa using this
    · exact HP.out.tks S1.out.tk _ _

set_option maxHeartbeats 1000000 in
theorem pNeed_any (s : List UInt8) (g : Nat) (ao : Option Addr) (cap : Nat) (ts r : List Tk) (b : Bool) (w : World) (h : PS w g ao cap ts r b) (hl : ts.length < 4294967281) :
    Calls Try.prog 63 #[.pointer (some ⟨g, 0, none⟩), .string ⟨s.toArray⟩] w fun e w' => e = .returned (.tuple #[]) ∧ PS w' g ao cap ts (takeR s b r) (b || !isT s r) ∧ ButP g w w' := by
  have HI := hide (pTake_any s g ao cap ts r b w h hl)
  clear h
  cases hq : (!b && isT s r) with
  | true =>
    obtain ⟨rfl, hT⟩ : b = false ∧ isT s r = true := by cases b <;> simp_all
    rw [hT] at HI ⊢
    clear hq hT
    go_enter Try.func63, Try.ntmps63
    go_wp2_with fail
    refine HI.out.mono ?_
    rintro e w1 ⟨rfl, S1, B1⟩
    have S1 := hide S1
    have B1 := hide B1
    go_wp2_with fail
    refine bodyPost_end (v := .tuple #[]) (by kernel_rfl) rfl ?_
    exact ⟨rfl, S1.out, B1.out⟩
  | false =>
    have hB : (b || !isT s r) = true := by cases b <;> simp_all
    rw [hq] at HI
    rw [hB]
    clear hq hB
    go_enter Try.func63, Try.ntmps63
    go_wp2_with fail
    refine HI.out.mono ?_
    rintro e w1 ⟨rfl, S1, B1⟩
    have B1 := hide B1
    have HF := hide (pFail_any g ao cap ts _ b w1 S1)
    clear S1
    go_wp2_with fail
    refine HF.out.mono ?_
    rintro e w2 ⟨rfl, S2, B2⟩
    have S2 := hide S2
    have B2 := hide (B1.out.trans B2)
    go_wp2_with fail
    refine bodyPost_end (v := .tuple #[]) (by kernel_rfl) rfl ?_
    exact ⟨rfl, S2.out, B2.out⟩
end Go.Proofs.Ytcmmjmgbanafgaa
