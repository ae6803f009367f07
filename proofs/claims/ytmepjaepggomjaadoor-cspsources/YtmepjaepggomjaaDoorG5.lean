/- Plain: what moatlaw6.CspSources lays, round by round, and what its three policies let. -/
import Derived.Test.YtmepjaepggomjaaDoorG3
namespace Go.Proofs.Url

def kOf (x : Int) : Nat := (low x 12).toNat
theorem kOf_low (x : Int) : low x 12 = (kOf x : Int) ∧ kOf x < 12 := by
  have a : 0 ≤ low x 12 := Int.emod_nonneg _ (by omega)
  have b : low x 12 < 12 := Int.emod_lt_of_pos _ (by omega)
  unfold kOf
  exact ⟨by omega, by omega⟩
def ksOf (z : Nat → Int) (k : Nat) : List Nat := (List.range k).map (fun j => kOf (z j))
theorem ksOf_lt (z : Nat → Int) (k : Nat) : ∀ x ∈ ksOf z k, x < 12 := by
  intro x hx
  unfold ksOf at hx
  rw [List.mem_map] at hx
  obtain ⟨j, _, rfl⟩ := hx
  exact (kOf_low (z j)).2
theorem ksOf_succ (z : Nat → Int) (k : Nat) : ksOf z (k + 1) = ksOf z k ++ [kOf (z k)] := by
  unfold ksOf
  rw [List.range_succ, List.map_append]
  rfl
def ownS : List UInt8 := https
def ownH : List UInt8 := [97, 46, 116, 101, 115, 116]
/-- What is laid behind k numbers. -/
structure SrcInv (z : Nat → Int) (os oh : List UInt8) (op : Int) (k : Nat) (lo hi : List UInt8) (bl bi : Bool) : Prop where
  lo : lo = tailW [32] (srcsK (ksOf z k))
  hi : hi = tailW [32, 32] (capsK (ksOf z k))
  lets : bl = (srcsK (ksOf z k)).any (fun x => matchS x https ownH 443 os oh op)
  inl : bi = (ksOf z k).any (fun x => x == 10)
theorem SrcInv.zero (z : Nat → Int) (os oh : List UInt8) (op : Int) : SrcInv z os oh op 0 [] [] false false := ⟨rfl, rfl, rfl, rfl⟩
theorem srcsK_snoc (ks : List Nat) (k : Nat) : srcsK (ks ++ [k]) = srcsK ks ++ [srcs12.getD k []] := by simp [srcsK]
theorem capsK_snoc (ks : List Nat) (k : Nat) : capsK (ks ++ [k]) = capsK ks ++ [caps12.getD k []] := by simp [capsK]
theorem SrcInv.succ {z : Nat → Int} {os oh : List UInt8} {op : Int} {k : Nat} {lo hi : List UInt8} {bl bi : Bool} (h : SrcInv z os oh op k lo hi bl bi) :
    SrcInv z os oh op (k + 1) (lo ++ ([32] ++ srcs12.getD (kOf (z k)) [])) (hi ++ ([32, 32] ++ caps12.getD (kOf (z k)) [])) (bl || matchS (srcs12.getD (kOf (z k)) []) https ownH 443 os oh op) (bi || (kOf (z k) == 10)) := by
  refine ⟨?_, ?_, ?_, ?_⟩
  · rw [ksOf_succ, srcsK_snoc, tail_snoc, h.lo]
  · rw [ksOf_succ, capsK_snoc, tail_snoc, h.hi]
  · rw [ksOf_succ, srcsK_snoc, List.any_append, h.lets]; simp
  · rw [ksOf_succ, List.any_append, h.inl]; simp
def polsOf (lo hi : List UInt8) : List (List UInt8) := [polA lo, polB hi, polC lo]
theorem pols_src {z : Nat → Int} {os oh : List UInt8} {op : Int} {k : Nat} {lo hi : List UInt8} {bl bi : Bool} (h : SrcInv z os oh op k lo hi bl bi) :
    ∀ p ∈ polsOf lo hi, letsP p https ownH 443 os oh op = bl ∧ inlineP p = bi := by
  have hk := ksOf_lt z k
  have key : ∀ p, sourcesS p = some (srcsK (ksOf z k)) → letsP p https ownH 443 os oh op = bl ∧ inlineP p = bi := by
    intro p hp
    unfold letsP inlineP
    rw [hp]
    exact ⟨h.lets.symm, by simp only; rw [srcs_inline hk, h.inl]⟩
  intro p hp
  unfold polsOf at hp
  simp only [List.mem_cons, List.not_mem_nil, or_false] at hp
  rcases hp with rfl | rfl | rfl
  · exact key _ (by rw [h.lo]; exact polA_src hk)
  · exact key _ (by rw [h.hi]; exact polB_src hk)
  · exact key _ (by rw [h.lo]; exact polC_src hk)
def imgNone : List UInt8 := [105, 109, 103, 45, 115, 114, 99, 32, 39, 110, 111, 110, 101, 39]
theorem img_lets (os oh : List UInt8) (op : Int) : letsP imgNone https ownH 443 os oh op = true := by
  unfold letsP
  rw [show sourcesS imgNone = none by decide +kernel]
theorem pol_a (lo : List UInt8) : [120, 45, 115, 114, 99, 32, 42, 59, 32, 115, 99, 114, 105, 112, 116, 45, 115, 114, 99] ++ lo ++ [59, 32, 115, 99, 114, 105, 112, 116, 45, 115, 114, 99, 32, 42] = polA lo := by
  simp [polA, xsrc, scriptSrc]
theorem pol_b (hi : List UInt8) : [83, 67, 82, 73, 80, 84, 45, 83, 82, 67] ++ hi ++ [59, 100, 101, 102, 97, 117, 108, 116, 45, 115, 114, 99, 32, 42] = polB hi := by
  simp [polB, SCRIPT, defaultSrc]
theorem pol_c (lo : List UInt8) : [100, 101, 102, 97, 117, 108, 116, 45, 115, 114, 99] ++ lo = polC lo := by
  simp [polC, defaultSrc]
theorem srcs_len (k : Nat) (h : k < 12) : (srcs12.getD k []).length ≤ 21 ∧ (caps12.getD k []).length ≤ 21 := by
  have := srcs_ok ⟨k, h⟩
  exact ⟨this.2.2.2.2.2.1, this.2.2.2.2.2.2.1⟩
def hosts5 : List (List UInt8) := [[97, 46, 116, 101, 115, 116], [98, 46, 116, 101, 115, 116], [99, 46, 97, 46, 116, 101, 115, 116], [113]]
def nums5 : List Int := [443, 80, 8443]
end Go.Proofs.Url
