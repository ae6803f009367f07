/- The walk over moatref10.Parser's factor: parentheses, words, nothing of these; then factor, term, formula whole. -/
import Derived.Test.YtcmmjmgbanafgaaSx7
namespace Go.Proofs.Ytcmmjmgbanafgaa
open Go.RowKit Go.Proofs.Url Go.Proofs.Url.Syn

set_option maxHeartbeats 2000000 in
set_option maxRecDepth 100000 in
theorem fac_paren (n : Nat) (IF : ForOk n) (g : Nat) (ao : Option Addr) (cap : Nat) (ts r : List Tk) (w : World) (h : PS w g ao cap ts r false) (hl : ts.length < 4294967281) (hf : 3 * r.length + 1 ≤ n + 1) (hq : isT w_not_ r = false) (hp : isT w_lpa r = true) :
    Calls Try.prog 88 #[.pointer (some ⟨g, 0, none⟩)] w fun e w' => OutP (facF (n + 1) r) g ao cap ts w e w' := by
  have IFh := hide IF
  have HL := hide hl
  have HQ := isT_len hp
  have HFu : Hid (3 * r.tail.length + 3 ≤ n) := by unfold Hid; omega
  have HE : Hid (facF (n + 1) r = (forF n r.tail).then fun a r => (needR w_rpa r).map fun _ => a) := by unfold Hid; rw [facF_succ, if_neg (by simp [hq]), if_pos hp]
  clear HQ hf IF
  go_enter Try.func88, Try.ntmps88
  go_wp2_with fail
  refine (takeNo h hl hq).mono ?_
  rintro e w1 ⟨rfl, S1, B1⟩
  have B1 := hide B1
  clear h hq
  go_wp2_with fail
  refine (takeYes S1 hl hp).mono ?_
  rintro e w2 ⟨rfl, S2, B2⟩
  have B2 := hide (B1.out.trans B2)
  have S2 := hide S2
  clear S1 B1 hp hl
  go_wp2_with fail
  refine (IFh.out g ao cap ts r.tail w2 S2.out HL.out HFu.out).mono ?_
  rintro e w3 ⟨p, rfl, B3, hO⟩
  have hs2 := B2.out.size
  have B3 := hide (B2.out.trans B3)
  clear S2 B2
  cases hx : forF n r.tail with
  | ok a r' =>
    rw [hx] at hO HE
    obtain ⟨N3, S3⟩ := hO
    have N3 := hide (N3.low hs2)
    have S3 := hide S3
    have HE : Hid (facF (n + 1) r = (needR w_rpa r').map fun _ => a) := HE
    clear hx
    cases hs : isT w_rpa r' with
    | true =>
      have HE : Hid (facF (n + 1) r = .ok a r'.tail) := by unfold Hid; rw [HE.out]; unfold needR; rw [if_pos hs]; rfl
      go_wp2_with fail
      refine (needYes S3.out HL.out hs).mono ?_
      rintro e w4 ⟨rfl, S4, B4⟩
      have N4 := hide (N3.out.but B4)
      have B4 := hide (B3.out.trans B4)
      have S4 := hide S4
      clear hs N3 S3 B3
      go_wp2_with fail
      go_ret
      rw [HE.out]
      exact OutP.ok S4.out N4.out B4.out
    | false =>
      have HE : Hid (facF (n + 1) r = .bad r') := by unfold Hid; rw [HE.out]; unfold needR; rw [if_neg (by simp [hs])]; rfl
      go_wp2_with fail
      refine (needNo S3.out HL.out hs).mono ?_
      rintro e w4 ⟨rfl, S4, B4⟩
      have B4 := hide (B3.out.trans B4)
      have S4 := hide S4
      clear hs N3 S3 B3
      go_wp2_with fail
      go_ret
      rw [HE.out]
      exact OutP.bad S4.out B4.out
  | bad r' =>
    rw [hx] at hO HE
    have HE : Hid (facF (n + 1) r = .bad r') := HE
    have S3 : Hid (PS w3 g ao cap ts r' true) := hO
    clear hx hO
    go_wp2_with fail
    refine (needBad w_rpa S3.out HL.out).mono ?_
    rintro e w4 ⟨rfl, S4, B4⟩
    have B4 := hide (B3.out.trans B4)
    have S4 := hide S4
    clear S3 B3
    go_wp2_with fail
    go_ret
    rw [HE.out]
    exact OutP.bad S4.out B4.out

set_option maxHeartbeats 2000000 in
set_option maxRecDepth 100000 in
theorem fac_word (n : Nat) (g : Nat) (ao : Option Addr) (cap : Nat) (ts r : List Tk) (w : World) (h : PS w g ao cap ts r false) (hl : ts.length < 4294967281) (hq : isT w_not_ r = false) (hp : isT w_lpa r = false) :
    Calls Try.prog 88 #[.pointer (some ⟨g, 0, none⟩)] w fun e w' => OutP (facF (n + 1) r) g ao cap ts w e w' := by
  have HL := hide hl
  have HE : Hid (facF (n + 1) r = if word5 r then (kindR 1 r.tail).map fun t => .un (headText r) t.text t.at' else .bad r) := by unfold Hid; rw [facF_succ, if_neg (by simp [hq]), if_neg (by simp [hp])]
  go_enter Try.func88, Try.ntmps88
  go_wp2_with fail
  refine (takeNo h hl hq).mono ?_
  rintro e w1 ⟨rfl, S1, B1⟩
  have B1 := hide B1
  clear h hq
  go_wp2_with fail
  refine (takeNo S1 hl hp).mono ?_
  rintro e w2 ⟨rfl, S2, B2⟩
  have B2 := hide (B1.out.trans B2)
  have S2 := hide S2
  clear S1 B1 hp hl
  have hgl2 := S2.out.lt
  go_upto_region 8 with fail
  obtain ⟨W3, hW3⟩ : ∃ W3, W3 = w2.alloc (Obj.cells (words5.map (fun l => Value.string ⟨l.toArray⟩)).toArray 9) := ⟨_, rfl⟩
  have L3 : Hid (LitsAt W3 w2.heap.size words5) := by unfold Hid; rw [hW3]; exact lits_new w2 words5 9
  have B3 : Hid (ButP g w W3) := by unfold Hid; rw [hW3]; exact B2.out.trans (ButP.alloc _ _ _)
  have S3 : Hid (PS W3 g ao cap ts r false) := by unfold Hid; rw [hW3]; exact S2.out.alloc _
  have hs3 : w2.heap.size < W3.heap.size := by rw [hW3]; simp
  simp only [words5, List.map] at hW3
  rw [← hW3]
  clear hW3 B2 S2
  go_wp2_with fail
  go_loopw [5] (fun iv W => ∃ k : Nat, k ≤ 5 ∧ iv = .int .i64 k ∧ Hid (∀ j, j < k → isT (words5.getD j []) r = false) ∧ Hid (LitsAt W w2.heap.size words5) ∧ Hid (ButP g w W) ∧ Hid (PS W g ao cap ts r false) ∧ w2.heap.size < W.heap.size) (fun iv _ => 5 - (intOf iv).toNat)
  case atStart => exact ⟨0, by omega, rfl, fun j hj => absurd hj (by omega), L3, B3, S3, hs3⟩
  case round =>
    obtain ⟨k, hk, rfl, hno, hL, hB, hS, hs⟩ := hrel
    by_cases hlt : k < 5
    · have hlI : (k : Int) < 5 := by omega
      have hc := hL.out k hlt
      cases hq : isT (words5.getD k []) r with
      | false =>
        have HN : Hid (∀ j, j < k + 1 → isT (words5.getD j []) r = false) := fun j hj => by
          rcases Nat.lt_or_ge j k with h | h
          · exact hno.out j h
          · have : j = k := by omega
            rw [this]; exact hq
        have HT := hide (fun W hW => takeNo (w := W) (g := g) (ao := ao) (cap := cap) hW HL.out hq)
        clear hq hno
        generalize words5.getD k [] = wd at *
        go_wp2_with fail
        refine (HT.out _ hS.out).mono ?_
        rintro e w4 ⟨rfl, S4, B4⟩
        have L4 := hide (hL.out.but B4 (by omega) hs)
        have hs4 : w2.heap.size < w4.heap.size := Nat.lt_of_lt_of_le hs B4.size
        have B4 := hide (hB.out.trans B4)
        have S4 := hide S4
        clear hL hB hS hc HT
        go_wp2_with fail
        exact ⟨⟨k + 1, by omega, by go_num, HN, L4, B4, S4, hs4⟩, by simp [intOf]; omega⟩
      | true =>
        have HT := hide (fun W hW => takeYes (w := W) (g := g) (ao := ao) (cap := cap) hW HL.out hq)
        have HE2 : Hid (facF (n + 1) r = (kindR 1 r.tail).map fun t => .un (words5.getD k []) t.text t.at') := by
          unfold Hid; rw [HE.out, if_pos (word5_of hlt hq), isT_head hq]
        clear hq hno HE
        generalize words5.getD k [] = wd at *
        go_wp2_with fail
        refine (HT.out _ hS.out).mono ?_
        rintro e w4 ⟨rfl, S4, B4⟩
        have hc4 : w4.cell? ⟨w2.heap.size, k, none⟩ = some (.string ⟨wd.toArray⟩) := by
          rw [B4.cell (p := ⟨w2.heap.size, k, none⟩) hs (by show w2.heap.size ≠ g; omega)]; exact hc
        have hs4 : w2.heap.size < w4.heap.size := Nat.lt_of_lt_of_le hs B4.size
        have B4 := hide (hB.out.trans B4)
        have S4 := hide S4
        clear hL hB hS hc HT hs
        go_wp2_with fail
        refine (pKind_any 1 g ao cap ts r.tail false w4 S4.out HL.out).mono ?_
        rintro e w5 ⟨rfl, S5, B5⟩
        have hc5 : w5.cell? ⟨w2.heap.size, k, none⟩ = some (.string ⟨wd.toArray⟩) := by
          rw [B5.cell (p := ⟨w2.heap.size, k, none⟩) hs4 (by show w2.heap.size ≠ g; omega)]; exact hc4
        have B5 := hide (B4.out.trans B5)
        have HZ : Hid (∀ (t : Tk) (rr : List Tk) (bb : Bool), t = (if !false && kindIs 1 r.tail then headT r.tail else zeroT) → rr = (if !false && kindIs 1 r.tail then r.tail.tail else r.tail) → bb = (false || !kindIs 1 r.tail) → ∀ p w', ButP g w w' → NodeUp w g w' p (.un wd t.text t.at') → PS w' g ao cap ts rr bb → OutP (facF (n + 1) r) g ao cap ts w (.returned (.pointer p)) w') := by
          intro t rr bb ht hr hb p w' hB hN hS
          rw [HE2.out, kindR_eq]
          cases hq : kindIs 1 r.tail with
          | true => rw [hq] at ht hr hb; subst ht hr hb; exact OutP.ok hS hN hB
          | false => rw [hq] at ht hr hb; subst ht hr hb; exact OutP.bad hS hB
        obtain ⟨t, ht⟩ : ∃ t, t = (if !false && kindIs 1 r.tail then headT r.tail else zeroT) := ⟨_, rfl⟩
        obtain ⟨rr, hrr⟩ : ∃ rr, rr = (if !false && kindIs 1 r.tail then r.tail.tail else r.tail) := ⟨_, rfl⟩
        obtain ⟨bb, hbb⟩ : ∃ bb, bb = (false || !kindIs 1 r.tail) := ⟨_, rfl⟩
        have HZ1 := hide (HZ.out t rr bb ht hrr hbb)
        rw [← ht]
        rw [← hrr, ← hbb] at S5
        have S5 := hide S5
        clear ht hrr hbb HZ HE2 S4 B4 hc4 hs4
        unfold tokV
        go_upto_region 13 with fail
        obtain ⟨W6, hW6⟩ : ∃ W6, W6 = w5.alloc (Obj.cells #[.int .i64 t.kind, .int .i64 t.at', .string ⟨t.text.toArray⟩] 39) := ⟨_, rfl⟩
        rw [← hW6]
        have X6 : Hid (TB W6 w5.heap.size t.kind t.at' t.text) := by unfold Hid; rw [hW6]; exact TB.new w5 t.kind t.at' t.text 39
        have B6 : Hid (ButP g w W6) := by unfold Hid; rw [hW6]; exact B5.out.trans (ButP.alloc _ _ _)
        have S6 : Hid (PS W6 g ao cap ts rr bb) := by unfold Hid; rw [hW6]; exact S5.out.alloc _
        have hc6 : W6.cell? ⟨w2.heap.size, k, none⟩ = some (.string ⟨wd.toArray⟩) := by
          rw [hW6]; exact keepcP ((Below.refl _ _).alloc (Nat.le_refl _) _) hc5
        clear hW6 B5 S5 hc5
        have x1 := X6.out.c1
        have x2 := X6.out.c2
        have hxl := X6.out.lt
        have hl6 := World.block_lt_of_cell? W6 _ hc6
        have hgl6 := S6.out.lt
        have bdr : Below W6.heap.size W6 W6.drew := (Below.refl _ _).drew
        have N7 := hide (NodeUp.newUn (w := w) (g := g) (W := W6.drew) B6.out.size wd t.text t.at' 108)
        have S7 := hide (fun o => (S6.out.keep bdr).alloc o)
        have B7 := hide (fun o => (B6.out.trans (ButP.of bdr)).trans (ButP.alloc g _ o))
        clear bdr S6 B6
        go_region
        go_wp2_with fail
        go_ret
        exact HZ1.out _ _ (B7.out _) N7.out (S7.out _)
    · have HN : Hid (facF (n + 1) r = .bad r) := by unfold Hid; rw [HE.out, if_neg (by simp [word5_no (fun j hj => hno.out j (by omega))])]
      go_wp2_with fail
      refine (pFail_any g ao cap ts r false wr hS.out).mono ?_
      rintro e w4 ⟨rfl, S4, B4⟩
      have B5 := hide (fun o => (hB.out.trans B4).trans (ButP.alloc g w4 o))
      have S5 := hide (fun o => S4.alloc o)
      clear hL hB hS S4 B4 hno
      go_wp2_with fail
      go_ret
      rw [HN.out]
      exact OutP.bad (S5.out _) (B5.out _)
end Go.Proofs.Ytcmmjmgbanafgaa
