/- Walks over the landed package csp: slices.IndexFunc, slices.ContainsFunc at the function within Lets; Inline, Lets: all that package csp must give. -/
import Derived.Test.YtmepjaepggomjaaDoorM2
import Derived.Test.YtmepjaepggomjaaDoorSl1
namespace Go.Proofs.YtmepjaepggomjaaDoor
open Go.RowKit Go.Proofs.Url

theorem any_no {hs : List (List UInt8)} {k : Nat} {p : List UInt8 → Bool} (h : hs.length ≤ k) (hf : ∀ x ∈ hs.take k, p x = false) : hs.any p = false := by
  rw [List.take_of_length_le h] at hf
  rw [List.any_eq_false]
  intro x hx
  rw [hf x hx]
  simp
theorem any_yes {hs : List (List UInt8)} {k : Nat} {p : List UInt8 → Bool} (h : k < hs.length) (hp : p hs[k] = true) : hs.any p = true := List.any_eq_true.2 ⟨hs[k], List.getElem_mem h, hp⟩
theorem any_next {hs : List (List UInt8)} {k : Nat} {p : List UInt8 → Bool} (h : k < hs.length) (he : p hs[k] = false) (hf : ∀ x ∈ hs.take k, p x = false) : ∀ x ∈ hs.take (k + 1), p x = false := by
  intro x hx
  rw [List.take_succ_eq_append_getElem h, List.mem_append, List.mem_singleton] at hx
  rcases hx with hx | rfl
  · exact hf x hx
  · exact he
theorem enters_lets : ∀ args w, (callFunc 17 args).run Tryd.prog w = .ok (.enter 17 args) w := enters_of Tryd.func17 (by kernel_rfl) rfl

set_option maxHeartbeats 1000000 in
theorem indexF_any (u v : Value) (p : List UInt8 → Bool) (ao : Option Addr) (hs : List (List UInt8)) (cap : Nat) (w : World) (hq : HeadsAt w ao hs) (hl : hs.length < 4294967281) (hz : ∀ h ∈ hs, h.length < 4294967281)
    (hp : ∀ W x, Below w.heap.size w W → x.length < 4294967281 → Calls Tryd.prog 17 #[.string ⟨x.toArray⟩, u, v] W fun e w' => e = .returned (.bool (p x)) ∧ Below W.heap.size W w') :
    Calls Tryd.prog 27 #[.slice ao hs.length cap, .func (.func 17) #[] #[u, v]] w fun e w' => ∃ r : Int, e = .returned (.int .i64 r) ∧ ((hs.any p = true ∧ 0 ≤ r) ∨ (hs.any p = false ∧ r = -1)) ∧ Below w.heap.size w w' := by
  have HQ := hide hq
  have HZ := hide hz
  have HP := hide hp
  have eg := enters_lets
  clear hq hz hp
  go_enter Tryd.func27, Tryd.ntmps27
  go_wp2_with fail
  go_loopw [8] (fun i W => ∃ k : Nat, k ≤ hs.length ∧ i = .int .i64 k ∧ Hid (∀ x ∈ hs.take k, p x = false) ∧ Hid (Below w.heap.size w W)) (fun i _ => hs.length - (intOf i).toNat)
  case atStart => exact ⟨0, Nat.zero_le _, rfl, by intro x hx; simp at hx, Below.refl _ _⟩
  case round =>
    obtain ⟨k, hk, rfl, hfree, hB⟩ := hrel
    by_cases hlt : k < hs.length
    · obtain ⟨g, off, rfl, hc⟩ := HQ.out.keep hB.out k hlt
      have hlI : (k : Int) < (hs.length : Int) := by omega
      have hzk := HZ.out hs[k] (List.getElem_mem hlt)
      have HC := hide (HP.out wr hs[k] hB.out hzk)
      cases hb : p hs[k] with
      | true =>
        rw [hb] at HC
        have HY := hide (any_yes hlt hb)
        clear hb hfree
        go_wp2_with fail
        refine HC.out.mono ?_
        rintro e w1 ⟨rfl, hb1⟩
        have B1 := hide (hB.out.trans (hb1.mono hB.out.size))
        clear hb1
        go_wp2_with fail
        go_ret
        exact ⟨_, rfl, .inl ⟨by simpa using HY.out, by omega⟩, B1.out⟩
      | false =>
        rw [hb] at HC
        have HF := hide (any_next hlt hb hfree.out)
        clear hb hfree
        go_wp2_with fail
        refine HC.out.mono ?_
        rintro e w1 ⟨rfl, hb1⟩
        have B1 := hide (hB.out.trans (hb1.mono hB.out.size))
        clear hb1
        go_wp2_with fail
        exact ⟨⟨k + 1, by omega, by go_num, HF, B1⟩, by simp [intOf]; omega⟩
    · have HN := hide (any_no (p := p) (show hs.length ≤ k by omega) hfree.out)
      clear hfree
      go_wp2_with fail
      go_ret
      exact ⟨_, rfl, .inr ⟨by simpa using HN.out, rfl⟩, hB.out⟩
set_option maxHeartbeats 1000000 in
theorem containsF_any (u v : Value) (p : List UInt8 → Bool) (ao : Option Addr) (hs : List (List UInt8)) (cap : Nat) (w : World) (hq : HeadsAt w ao hs) (hl : hs.length < 4294967281) (hz : ∀ h ∈ hs, h.length < 4294967281)
    (hp : ∀ W x, Below w.heap.size w W → x.length < 4294967281 → Calls Tryd.prog 17 #[.string ⟨x.toArray⟩, u, v] W fun e w' => e = .returned (.bool (p x)) ∧ Below W.heap.size W w') :
    Calls Tryd.prog 16 #[.slice ao hs.length cap, .func (.func 17) #[] #[u, v]] w fun e w' => e = .returned (.bool (hs.any p)) ∧ Below w.heap.size w w' := by
  have HC := hide (indexF_any u v p ao hs cap w hq hl hz hp)
  clear hq hz hp
  go_enter Tryd.func16, Tryd.ntmps16
  go_wp2_with fail
  refine HC.out.mono ?_
  rintro e w1 ⟨r, rfl, hr, hb⟩
  have B1 := hide hb
  clear hb
  rcases hr with ⟨hc, hr⟩ | ⟨hc, rfl⟩
  · have HC := hide hc
    clear hc
    go_wp2_with fail
    go_ret
    exact ⟨ret_bool HC.out.symm, B1.out⟩
  · have HC := hide hc
    clear hc
    go_wp2_with fail
    go_ret
    exact ⟨ret_bool HC.out.symm, B1.out⟩

theorem src_len {l : List UInt8} (hl : l.length < 4294967281) : ((sourcesS l).getD []).length < 4294967281 ∧ ∀ x ∈ (sourcesS l).getD [], x.length < 4294967281 := by
  rw [src_low]
  have hB : ∀ p ∈ parts 59 l, p.length < 4294967281 := fun p h => by have := parts_le 59 l p h; omega
  cases hs : srcP (parts 59 l) with
  | none => exact ⟨by decide, fun x hx => by cases hx⟩
  | some ws =>
    have hx : ws.length < 4294967281 ∧ ∀ x ∈ ws, x.length < 4294967281 := by
      unfold srcP at hs
      cases hd : dirP scriptSrc (parts 59 l) with
      | some vs => rw [hd] at hs; cases hs; exact dirP_len hd hB
      | none => rw [hd] at hs; exact dirP_len hs hB
    refine ⟨by simpa using hx.1, fun x h => ?_⟩
    simp only [Option.map_some, Option.getD_some, List.mem_map] at h
    obtain ⟨y, hy, rfl⟩ := h
    rw [lowerS_len]
    exact hx.2 y hy
set_option maxHeartbeats 1000000 in
theorem cspInline_any (l : List UInt8) (w : World) (henv : Env w) (hl : l.length < 4294967281) :
    Calls Tryd.prog 10 #[.string ⟨l.toArray⟩] w fun r w' => r = .returned (.bool (inlineP l)) ∧ Below w.heap.size w w' := by
  have HL := hide (src_len hl)
  go_enter Tryd.func10, Tryd.ntmps10
  go_wp2_with fail
  refine (cspSources_any l w henv hl).mono ?_
  rintro e w1 ⟨ao, cap, ps, rfl, hps, hH, hb⟩
  have B1 := hide hb
  have H1 := hide hH
  rw [← hps] at HL
  have HPs := hide hps
  clear hb hH henv hps
  cases hs : sourcesS l with
  | none =>
    have HI : Hid (inlineP l = true) := by unfold Hid inlineP; rw [hs]
    clear hs
    go_wp2_with fail
    go_ret
    exact ⟨ret_bool HI.out.symm, B1.out⟩
  | some ws =>
    have HI : Hid (inlineP l = ps.contains inlineW) := by unfold Hid inlineP; rw [HPs.out, hs]; rfl
    clear hs HPs
    go_wp2_with fail
    refine (containsS_any inlineW ao ps cap w1 H1.out HL.out.1).mono ?_
    rintro e w2 ⟨rfl, rfl⟩
    rw [show ps.contains inlineW = inlineP l from HI.out.symm]
    clear HI
    go_wp2_with fail
    go_ret
    exact ⟨rfl, B1.out⟩

/-- The function within Lets, where both origins lie in memory. -/
def OrgAt (W : World) (g : Nat) (n : ByteArray) (s h : List UInt8) (p : Int) : Prop :=
  W.cell? ⟨g, 0, none⟩ = some (.string n) ∧ W.cell? ⟨g, 1, none⟩ = some (.string ⟨s.toArray⟩) ∧ W.cell? ⟨g, 2, none⟩ = some (.string ⟨h.toArray⟩) ∧ W.cell? ⟨g, 3, none⟩ = some (.int .i64 p)
theorem OrgAt.keep {W W' : World} {g : Nat} {n : ByteArray} {s h : List UInt8} {p : Int} (ho : OrgAt W g n s h p) (hb : Below W.heap.size W W') : OrgAt W' g n s h p :=
  ⟨keepc hb ho.1, keepc hb ho.2.1, keepc hb ho.2.2.1, keepc hb ho.2.2.2⟩
set_option maxHeartbeats 1000000 in
theorem letsIn_any (x ss sh os oh : List UInt8) (n1 n2 : ByteArray) (sp op : Int) (a b : Nat) (w : World) (henv : Env w) (hx : x.length < 4294967281) (hz : os.length < 4294967281) (ho : oh.length < 4294967281) (h1 : OrgAt w a n1 ss sh sp) (h2 : OrgAt w b n2 os oh op) :
    Calls Tryd.prog 17 #[.string ⟨x.toArray⟩, .pointer (some ⟨a, 0, none⟩), .pointer (some ⟨b, 0, none⟩)] w fun e w' => e = .returned (.bool (matchS x ss sh sp os oh op)) ∧ Below w.heap.size w w' := by
  obtain ⟨a0, a1, a2, a3⟩ := h1
  obtain ⟨c0, c1, c2, c3⟩ := h2
  have HM := hide (cspMatch_any x ss sh os oh n1 n2 sp op w henv hx hz ho)
  clear henv
  go_enter Tryd.func17, Tryd.ntmps17
  go_wp2_with fail
  refine HM.out.mono ?_
  rintro e w1 ⟨rfl, hb⟩
  have B1 := hide hb
  clear hb
  go_wp2_with fail
  go_ret
  exact ⟨rfl, B1.out⟩

set_option maxHeartbeats 1000000 in
theorem cspLets_any (l ss sh os oh : List UInt8) (n1 n2 : ByteArray) (sp op : Int) (w : World) (henv : Env w) (hl : l.length < 4294967281) (hz : os.length < 4294967281) (ho : oh.length < 4294967281) :
    Calls Tryd.prog 9 #[.string ⟨l.toArray⟩, orgV n1 ss sh sp, orgV n2 os oh op] w fun r w' => r = .returned (.bool (letsP l ss sh sp os oh op)) ∧ Below w.heap.size w w' := by
  have HE := hide henv
  have HL := hide (src_len hl)
  have HS := hide (fun W (h : Env W) => cspSources_any l W h hl)
  obtain ⟨W0, hW0⟩ : ∃ W0, W0 = (w.alloc (Obj.cells #[.string n1, .string ⟨ss.toArray⟩, .string ⟨sh.toArray⟩, .int .i64 sp] 27)).alloc (Obj.cells #[.string n2, .string ⟨os.toArray⟩, .string ⟨oh.toArray⟩, .int .i64 op] 27) := ⟨_, rfl⟩
  have b0 : Hid (Below w.heap.size w W0) := by rw [hW0]; exact ((Below.refl _ _).alloc (Nat.le_refl _) _).alloc (by simp) _
  have O1 : Hid (OrgAt W0 w.heap.size n1 ss sh sp) := by rw [hW0]; exact ⟨by simp, by simp, by simp, by simp⟩
  have O2 : Hid (OrgAt W0 (w.heap.size + 1) n2 os oh op) := by rw [hW0]; exact ⟨by simp, by simp, by simp, by simp⟩
  clear henv
  go_enter Tryd.func9, Tryd.ntmps9
  go_wp2_with fail
  rw [← hW0]
  clear hW0
  refine (HS.out W0 (HE.out.keep b0.out)).mono ?_
  rintro e w1 ⟨ao, cap, ps, rfl, hps, hH, hb⟩
  have B1 := hide (b0.out.trans (hb.mono b0.out.size))
  have P1 := hide (O1.out.keep hb)
  have P2 := hide (O2.out.keep hb)
  have H1 := hide hH
  rw [← hps] at HL
  have HPs := hide hps
  clear hb hH hps b0 O1 O2 HS
  cases hs : sourcesS l with
  | none =>
    have HI : Hid (letsP l ss sh sp os oh op = true) := by unfold Hid letsP; rw [hs]
    clear hs
    go_wp2_with fail
    go_ret
    exact ⟨ret_bool HI.out.symm, B1.out⟩
  | some ws =>
    have HI : Hid (letsP l ss sh sp os oh op = ps.any (fun x => matchS x ss sh sp os oh op)) := by unfold Hid letsP; rw [HPs.out, hs]; rfl
    have HC := hide (containsF_any (.pointer (some ⟨w.heap.size, 0, none⟩)) (.pointer (some ⟨w.heap.size + 1, 0, none⟩)) (fun x => matchS x ss sh sp os oh op) ao ps cap w1 H1.out HL.out.1 HL.out.2 (fun W x hb hx => letsIn_any x ss sh os oh n1 n2 sp op w.heap.size (w.heap.size + 1) W ((HE.out.keep B1.out).keep hb) hx hz ho (P1.out.keep hb) (P2.out.keep hb)))
    rw [show ps.any (fun x => matchS x ss sh sp os oh op) = letsP l ss sh sp os oh op from HI.out.symm] at HC
    clear hs HPs HI
    go_wp2_with fail
    refine HC.out.mono ?_
    rintro e w2 ⟨rfl, hb⟩
    have B2 := hide (B1.out.trans (hb.mono B1.out.size))
    clear hb
    go_wp2_with fail
    go_ret
    exact ⟨rfl, B2.out⟩

theorem csp_ok : CspOk where
  matches_ l ss sh os oh n1 n2 sp op w he hl hz ho := cspMatch_any l ss sh os oh n1 n2 sp op w he hl hz ho
  lets l ss sh os oh n1 n2 sp op w he hl hz ho := cspLets_any l ss sh os oh n1 n2 sp op w he hl hz ho
  inline l w he hl := cspInline_any l w he hl
  sources l w he hl := cspSources_any l w he hl
end Go.Proofs.YtmepjaepggomjaaDoor
