/- The walk over moatlaw5.CorsTable, by what package cors answers. -/
import Derived.Test.YthljekiomfcjiaaL16
import Derived.Test.YthljekiomfcjiaaE6
import Derived.Deep.DeepCutAuto
namespace Go.Proofs.Ythljekiomfcjiaa
open Go.RowKit Go.Proofs.Url

def lits2m : List (List UInt8) := [mDELETE, mPUT]
def lits2h : List (List UInt8) := [[65, 99, 99, 101, 112, 116], [88, 45, 84, 111, 107, 101, 110]]
def lits1a : List (List UInt8) := [[120, 45, 116, 111, 107, 101, 110]]
/-- The endpoint of the table. -/
def tab (any cr : Bool) (m : List UInt8) (cs : List Int) (co : Option Addr) (cc : Nat) (hs : List (List UInt8)) (ho : Option Addr) (hc : Nat) (al : List (List UInt8)) (lo : Option Addr) (lc : Nat) (ms : List (List UInt8)) (mo : Option Addr) (mc : Nat) : Ep :=
  ⟨.string ⟨#[]⟩, .string ⟨#[]⟩, .bool false, .bool false, .slice none 0 0, .slice none 0 0, .bool false, .slice none 0 0, .slice none 0 0, .bool false, .bool false, .int .i64 0, .string ⟨#[]⟩, 0, m, hs, al, ms, any, cr, cs, ho, co, lo, mo, hc, cc, lc, mc⟩
def csT (b2 b3 : Bool) : List Int := (if b2 then [1] else []) ++ (if b3 then [-1] else [])
def byT (M : Nat) : Int := [0, 1, 2, -1, -3, -2].getD M 0
def mT (b4 : Bool) : List UInt8 := if b4 then mPUT else mGET
def msT (b5 : Bool) : List (List UInt8) := if b5 then lits2m else []
def hsT (b6 : Bool) : List (List UInt8) := if b6 then lits2h else []
def alT (b7 : Bool) : List (List UInt8) := if b7 then lits1a else []
def namedT (b2 b3 : Bool) (b : Int) : Bool := b2 && (b == 1) || b3 && (b == -1)
def readsT (b0 b1 b2 b3 : Bool) (b : Int) (creds : Bool) : Bool := (b == 0) || namedT b2 b3 b && (!creds || b1) || b0 && !creds
def aheadT (b4 b6 : Bool) (b : Int) (heads : Bool) : Bool := (b4 || b6 && heads) && (b != 0)
def letT (b4 b5 b6 b7 heads : Bool) : Bool := (!b4 || b5) && (!b6 || !heads || b7)
theorem tab_lets : ∀ (M : Fin 6) (b0 b1 b2 b3 creds : Bool), letsS 0 b0 b1 (csT b2 b3) (byT M) creds = readsT b0 b1 b2 b3 (byT M) creds := by decide +kernel
theorem tab_ahead : ∀ (M : Fin 6) (b4 b6 heads : Bool), aheadS 0 (mT b4) (hsT b6) (byT M) heads = aheadT b4 b6 (byT M) heads := by decide +kernel
theorem tab_allow : ∀ (b4 b5 b6 b7 heads : Bool), ((methodS (mT b4) || (msT b5).contains (mT b4)) && (!heads || allowS (hsT b6) (alT b7))) = letT b4 b5 b6 b7 heads := by decide +kernel
theorem tab_may (M : Fin 6) (b0 b1 b2 b3 b4 b5 b6 b7 creds heads : Bool) : mayS 0 (mT b4) (hsT b6) b0 b1 (csT b2 b3) (alT b7) (msT b5) (byT M) creds heads = (!aheadT b4 b6 (byT M) heads || readsT b0 b1 b2 b3 (byT M) creds && letT b4 b5 b6 b7 heads) := by
  unfold mayS
  rw [tab_ahead, tab_lets, Bool.and_assoc, tab_allow]
theorem by6 (M : Nat) (h : M < 6) : [Value.int .i64 0, .int .i64 1, .int .i64 2, .int .i64 (-1), .int .i64 (-3), .int .i64 (-2)][M] = .int .i64 (byT M) := by
  match M, h with
  | 0, _ => rfl
  | 1, _ => rfl
  | 2, _ => rfl
  | 3, _ => rfl
  | 4, _ => rfl
  | 5, _ => rfl

theorem tab_small (b0 b1 b2 b3 b4 b5 b6 b7 : Bool) (co ho lo mo : Option Addr) (cc hc lc mc : Nat) : EpSmall (tab b0 b1 (mT b4) (csT b2 b3) co cc (hsT b6) ho hc (alT b7) lo lc (msT b5) mo mc) := by
  refine ⟨?_, ?_, ?_, ?_, ?_, ?_⟩
  · show (csT b2 b3).length < _; cases b2 <;> cases b3 <;> decide
  · show (hsT b6).length < _; cases b6 <;> decide
  · show (alT b7).length < _; cases b7 <;> decide
  · show (msT b5).length < _; cases b5 <;> decide
  · show ∀ h ∈ hsT b6, _; cases b6 <;> decide
  · show ∀ h ∈ alT b7, _; cases b7 <;> decide
section
variable {w W : World} {g : Nat} {b0 b1 : Bool} {m : List UInt8} {cs : List Int} {co : Option Addr} {cc : Nat} {hs : List (List UInt8)} {ho : Option Addr} {hc : Nat} {al : List (List UInt8)} {lo : Option Addr} {lc : Nat} {ms : List (List UInt8)} {mo : Option Addr} {mc : Nat}
theorem tab_put (h : Box w W g (tab b0 b1 m cs co cc hs ho hc al lo lc ms mo mc)) (f : EpFar W g (tab b0 b1 m cs co cc hs ho hc al lo lc ms mo mc)) : Box w (W.setCell ⟨g, 2, none⟩ (.string ⟨#[80, 85, 84]⟩)) g (tab b0 b1 mPUT cs co cc hs ho hc al lo lc ms mo mc) ∧ EpFar (W.setCell ⟨g, 2, none⟩ (.string ⟨#[80, 85, 84]⟩)) g (tab b0 b1 mPUT cs co cc hs ho hc al lo lc ms mo mc) := by
  have f' := f.but ((But.refl _ _ _).set 2 (.string ⟨#[80, 85, 84]⟩))
  exact ⟨h.set 2 _ (by decide) rfl, ⟨f'.hs, f'.al, f'.ms, f'.cs⟩⟩
theorem tab_ms (h : Box w W g (tab b0 b1 m cs co cc hs ho hc al lo lc ms mo mc)) (f : EpFar W g (tab b0 b1 m cs co cc hs ho hc al lo lc ms mo mc)) :
    Box w ((W.setCell ⟨g, 19, none⟩ (.slice (some ⟨W.heap.size, 0, none⟩) 2 2)).alloc (Obj.cells (lits2m.map (fun l => Value.string ⟨l.toArray⟩)).toArray 9)) g (tab b0 b1 m cs co cc hs ho hc al lo lc lits2m (some ⟨W.heap.size, 0, none⟩) 2) ∧ EpFar ((W.setCell ⟨g, 19, none⟩ (.slice (some ⟨W.heap.size, 0, none⟩) 2 2)).alloc (Obj.cells (lits2m.map (fun l => Value.string ⟨l.toArray⟩)).toArray 9)) g (tab b0 b1 m cs co cc hs ho hc al lo lc lits2m (some ⟨W.heap.size, 0, none⟩) 2) := by
  have f' := f.but (but_lit W g 19 (.slice (some ⟨W.heap.size, 0, none⟩) 2 2) (Obj.cells (lits2m.map (fun l => Value.string ⟨l.toArray⟩)).toArray 9))
  exact ⟨box_lit 19 _ _ h (by decide) rfl, ⟨f'.hs, f'.al, far_lit W g 19 _ lits2m 9 h.hi, f'.cs⟩⟩
theorem tab_hs (h : Box w W g (tab b0 b1 m cs co cc hs ho hc al lo lc ms mo mc)) (f : EpFar W g (tab b0 b1 m cs co cc hs ho hc al lo lc ms mo mc)) :
    Box w ((W.setCell ⟨g, 8, none⟩ (.slice (some ⟨W.heap.size, 0, none⟩) 2 2)).alloc (Obj.cells (lits2h.map (fun l => Value.string ⟨l.toArray⟩)).toArray 9)) g (tab b0 b1 m cs co cc lits2h (some ⟨W.heap.size, 0, none⟩) 2 al lo lc ms mo mc) ∧ EpFar ((W.setCell ⟨g, 8, none⟩ (.slice (some ⟨W.heap.size, 0, none⟩) 2 2)).alloc (Obj.cells (lits2h.map (fun l => Value.string ⟨l.toArray⟩)).toArray 9)) g (tab b0 b1 m cs co cc lits2h (some ⟨W.heap.size, 0, none⟩) 2 al lo lc ms mo mc) := by
  have f' := f.but (but_lit W g 8 (.slice (some ⟨W.heap.size, 0, none⟩) 2 2) (Obj.cells (lits2h.map (fun l => Value.string ⟨l.toArray⟩)).toArray 9))
  exact ⟨box_lit 8 _ _ h (by decide) rfl, ⟨far_lit W g 8 _ lits2h 9 h.hi, f'.al, f'.ms, f'.cs⟩⟩
theorem tab_al (h : Box w W g (tab b0 b1 m cs co cc hs ho hc al lo lc ms mo mc)) (f : EpFar W g (tab b0 b1 m cs co cc hs ho hc al lo lc ms mo mc)) :
    Box w ((W.setCell ⟨g, 18, none⟩ (.slice (some ⟨W.heap.size, 0, none⟩) 1 1)).alloc (Obj.cells (lits1a.map (fun l => Value.string ⟨l.toArray⟩)).toArray 9)) g (tab b0 b1 m cs co cc hs ho hc lits1a (some ⟨W.heap.size, 0, none⟩) 1 ms mo mc) ∧ EpFar ((W.setCell ⟨g, 18, none⟩ (.slice (some ⟨W.heap.size, 0, none⟩) 1 1)).alloc (Obj.cells (lits1a.map (fun l => Value.string ⟨l.toArray⟩)).toArray 9)) g (tab b0 b1 m cs co cc hs ho hc lits1a (some ⟨W.heap.size, 0, none⟩) 1 ms mo mc) := by
  have f' := f.but (but_lit W g 18 (.slice (some ⟨W.heap.size, 0, none⟩) 1 1) (Obj.cells (lits1a.map (fun l => Value.string ⟨l.toArray⟩)).toArray 9))
  exact ⟨box_lit 18 _ _ h (by decide) rfl, ⟨f'.hs, far_lit W g 18 _ lits1a 9 h.hi, f'.ms, f'.cs⟩⟩
end

set_option maxHeartbeats 2000000 in
set_option maxRecDepth 100000 in
theorem corsTable_walk (ok : CorsOk) (who bts : Int) (creds heads : Bool) (w : World) :
    Calls Try.prog 6 #[.int .i64 who, .int .i64 bts, .bool creds, .bool heads] w fun r w' => r = .returned (.bool true) ∧ Below w.heap.size w w' := by
  have OK := hide ok
  clear ok
  obtain ⟨i0, hi, hz0, hz1, hz2⟩ := info_parts infoI
  have HI := hide hi
  have HZ0 := hide hz0
  have HZ1 := hide hz1
  have HZ2 := hide hz2
  clear hi hz0 hz1 hz2
  obtain ⟨b0, h0⟩ : ∃ b, (bits .and .i64 bts 1 == 1) = b := ⟨_, rfl⟩
  obtain ⟨b1, h1⟩ : ∃ b, (bits .and .i64 bts 2 == 2) = b := ⟨_, rfl⟩
  obtain ⟨b2, h2⟩ : ∃ b, (bits .and .i64 bts 4 == 4) = b := ⟨_, rfl⟩
  obtain ⟨b3, h3⟩ : ∃ b, (bits .and .i64 bts 8 == 8) = b := ⟨_, rfl⟩
  obtain ⟨b4, h4⟩ : ∃ b, (bits .and .i64 bts 16 == 16) = b := ⟨_, rfl⟩
  obtain ⟨b5, h5⟩ : ∃ b, (bits .and .i64 bts 32 == 32) = b := ⟨_, rfl⟩
  obtain ⟨b6, h6⟩ : ∃ b, (bits .and .i64 bts 64 == 64) = b := ⟨_, rfl⟩
  obtain ⟨b7, h7⟩ : ∃ b, (bits .and .i64 bts 128 == 128) = b := ⟨_, rfl⟩
  obtain ⟨M, hM, hM6⟩ : ∃ M : Nat, low who 6 = (M : Int) ∧ M < 6 := by
    have a := low_nn who 6 (by decide)
    have b := low_lt who 6 (by decide)
    exact ⟨(low who 6).toNat, by omega, by omega⟩
  have HM := hide hM
  clear hM
  have TL := hide (fun b0 b1 b2 b3 c => tab_lets ⟨M, hM6⟩ b0 b1 b2 b3 c)
  have TA := hide (fun b4 b6 c => tab_ahead ⟨M, hM6⟩ b4 b6 c)
  have TM := hide (fun b0 b1 b2 b3 b4 b5 b6 b7 c d => tab_may ⟨M, hM6⟩ b0 b1 b2 b3 b4 b5 b6 b7 c d)
  have hby := by6 M hM6
  have hMI : (M : Int) < 6 := by omega
  simp only at TL TA TM
  generalize byT M = b at *
  go_enter Try.func6, Try.ntmps6
  go_wp2_with fail
  refine (low_any _ _ _ (by decide) (by decide)).mono ?_
  rintro r w1 ⟨rfl, hw1⟩
  subst hw1
  rw [HM.out]
  go_upto_region 2 with fail
  obtain ⟨wa, hwa⟩ : ∃ wa, wa = w.alloc (Obj.cells #[.int .i64 0, .int .i64 1, .int .i64 2, .int .i64 (-1), .int .i64 (-3), .int .i64 (-2)] 3) := ⟨_, rfl⟩
  rw [← hwa]
  have ba : Below w.heap.size w wa := by rw [hwa]; exact (Below.refl _ _).alloc (Nat.le_refl _) _
  clear hwa
  obtain ⟨W1, hW1, bx, -⟩ := box_laid w wa (tab b0 b1 mGET [] none 0 [] none 0 [] none 0 [] none 0) ba
  have HW := hide hW1
  have BX := hide bx
  have TH : Hid ((wa.alloc (Obj.cells #[.string ⟨#[]⟩, .int .i64 0, .string ⟨#[]⟩, .string ⟨#[]⟩, .bool false, .bool false, .slice none 0 0, .slice none 0 0, .slice none 0 0, .bool false, .slice none 0 0, .slice none 0 0, .bool false, .bool false, .int .i64 0, .bool false, .bool false, .slice none 0 0, .slice none 0 0, .slice none 0 0, .string ⟨#[]⟩] 25)).there wa.heap.size 0 (tab b0 b1 mGET [] none 0 [] none 0 [] none 0 [] none 0).cells.toArray.size) := there_new wa epZero 25
  have ON : Hid ((tab b0 b1 mGET [] none 0 [] none 0 [] none 0 [] none 0).cells.toArray.all (·.oneCell') = true) := by unfold Hid; kernel_rfl
  have IS : Hid ((Try.prog.info? 25).map (·.size) = some (tab b0 b1 mGET [] none 0 [] none 0 [] none 0 [] none 0).cells.toArray.size) := by unfold Hid; kernel_rfl
  clear hW1 bx ba
  go_upto_if 29 with (refine wpList_store_mid rfl 25 _ _ rfl wa.heap.size 0 (tab b0 b1 mGET [] none 0 [] none 0 [] none 0 [] none 0).cells.toArray rfl rfl TH.out IS.out ON.out ?_; rw [← HW.out])
  clear HW TH IS ON
  generalize wa.heap.size = g at *
  go_cut [11] (fun nv W => ∃ (co : Option Addr) (cc : Nat), nv = .bool (namedT b2 false b) ∧ Hid (Box w W g (tab b0 b1 mGET (csT b2 false) co cc [] none 0 [] none 0 [] none 0)) ∧ Hid (W.ownsRow (g + 1) 3 1 (.slice co (csT b2 false).length cc) (csT b2 false).length ((csT b2 false).map (fun q => Value.int .i64 q))))
  case first => as_aux_lemma =>
    cases b2 with
    | false =>
      go_wp2_with fail
      go_meet
      case rel => exact ⟨none, 0, rfl, BX, World.ownsRow_nil _ _ _ _⟩
    | true =>
      obtain ⟨WW, hWW⟩ : ∃ WW, WW = W1 := ⟨_, rfl⟩
      subst hWW
      obtain ⟨co, cc, hco, hcc⟩ : ∃ (co : Option Addr) (cc : Nat), co = none ∧ cc = 0 := ⟨_, _, rfl, rfl⟩
      have OW : Hid (WW.ownsRow (g + 1) 3 1 (.slice none ([] : List Int).length 0) ([] : List Int).length (([] : List Int).map (fun q => Value.int .i64 q))) := World.ownsRow_nil _ _ _ _
      subst hco hcc
      have c17 := BX.out.cell 17 _ rfl
      have HBs : Hid (∀ j, (Value.slice none ([] : List Int).length 0).ownBlock = some j → g + 1 ≤ j) := fun j hj => owns_base OW.out j hj
      have hgs : g < WW.heap.size := BX.out.hi
      go_wp2_with (at_builtin; refine wpList_append_own _ rfl _ _ 22 rfl (g + 1) 3 i0 (.int .i64 0) 1 8 Try.underlying22 HI.out HZ0.out HZ1.out HZ2.out rfl (by decide) _ _ _ rfl (OW.out.alloc _) ⟨WW.heap.size, 0, none⟩ 1 1 [.int .i64 (1)] rfl rfl (cell_one_new _ _ _) (fun x hx => by simp at hx; subst hx; rfl) (by unfold maxLen; simp) (by simp) (by simp; omega) ?_; intro v' w4 hown' hgrow4 hnil4; obtain ⟨co4, cc4, rfl, hown4⟩ := nums_roundB (qs := ([] : List Int)) hown'; have B4 : Below (g + 1) WW w4 := Below.trans ((Below.refl _ _).alloc (by omega) _) (Below.grown (Below.refl _ _) hgrow4 (by simp; omega) HBs.out); have X4 := hide (BX.out.keepB B4); have d17 := X4.out.cell 17 _ rfl; have f17 := X4.out.free 17 (by decide))
      go_meet
      case rel => exact ⟨co4, cc4, congrArg Value.bool (by unfold namedT; simp), X4.out.set 17 _ (by decide) rfl, owns_set hown4.out g (by omega) 17 _⟩
  case rest =>
    obtain ⟨co, cc, rfl, X1, O1⟩ := hcut
    clear BX
    go_upto_if 39 with fail
    obtain ⟨WW, hWW⟩ : ∃ WW, WW = wc := ⟨_, rfl⟩
    subst hWW
    go_cut [11] (fun nv W => ∃ (co : Option Addr) (cc : Nat), nv = .bool (namedT b2 b3 b) ∧ Hid (Box w W g (tab b0 b1 mGET (csT b2 b3) co cc [] none 0 [] none 0 [] none 0)) ∧ Hid (W.ownsRow (g + 1) 3 1 (.slice co (csT b2 b3).length cc) (csT b2 b3).length ((csT b2 b3).map (fun q => Value.int .i64 q))))
    case first => as_aux_lemma =>
      cases b3 with
      | false =>
        go_wp2_with fail
        go_meet
        case rel => exact ⟨co, cc, rfl, X1, O1⟩
      | true =>
        have HN : Hid (namedT b2 true b = (namedT b2 false b || (b == -1))) := by unfold Hid namedT; cases b2 <;> simp
        have HCS : Hid (csT b2 true = csT b2 false ++ [-1]) := by unfold Hid csT; simp
        have hl2 : (csT b2 false).length ≤ 1 := by unfold csT; cases b2 <;> simp
        generalize namedT b2 true b = n2 at *
        generalize namedT b2 false b = n1 at *
        generalize csT b2 true = cs2 at *
        generalize csT b2 false = cs1 at *
        have c17 := X1.out.cell 17 _ rfl
        have HBs : Hid (∀ j, (Value.slice co cs1.length cc).ownBlock = some j → g + 1 ≤ j) := fun j hj => owns_base O1.out j hj
        have hgs : g < WW.heap.size := X1.out.hi
        cases n1
        all_goals go_wp2_with (at_builtin; refine wpList_append_own _ rfl _ _ 22 rfl (g + 1) 3 i0 (.int .i64 0) 1 8 Try.underlying22 HI.out HZ0.out HZ1.out HZ2.out rfl (by decide) _ _ _ rfl (O1.out.alloc _) ⟨WW.heap.size, 0, none⟩ 1 1 [.int .i64 (-1)] rfl rfl (cell_one_new _ _ _) (fun x hx => by simp at hx; subst hx; rfl) (by unfold maxLen; omega) (by omega) (by simp; omega) ?_; intro v' w4 hown' hgrow4 hnil4; obtain ⟨co4, cc4, rfl, hown4⟩ := nums_roundB (qs := cs1) hown'; have B4 : Below (g + 1) WW w4 := Below.trans ((Below.refl _ _).alloc (by omega) _) (Below.grown (Below.refl _ _) hgrow4 (by simp; omega) HBs.out); have X4 := hide (X1.out.keepB B4); have d17 := X4.out.cell 17 _ rfl; have f17 := X4.out.free 17 (by decide))
        all_goals go_meet
        all_goals (case rel => exact ⟨co4, cc4, congrArg Value.bool (by rw [HN.out]; simp), by rw [HCS.out]; exact X4.out.set 17 _ (by decide) (by simp [tab, Ep.cells]), by rw [HCS.out]; exact owns_set hown4.out g (by omega) 17 _⟩)
    case rest =>
      obtain ⟨co2, cc2, rfl, X2, O2⟩ := hcut
      have N2 := hide (numsFar_own O2.out (Nat.lt_succ_self g))
      have E2 : Hid (EpFar wc g (tab b0 b1 mGET (csT b2 b3) co2 cc2 [] none 0 [] none 0 [] none 0)) := ⟨headsFar_nil _ _ _, headsFar_nil _ _ _, headsFar_nil _ _ _, N2.out⟩
      clear O1 X1 O2 N2
      go_upto_if 52 with fail
      obtain ⟨WW, hWW⟩ : ∃ WW, WW = wc := ⟨_, rfl⟩
      subst hWW
      go_cut [12, 13] (fun av lv W => av = .bool b4 ∧ lv = .bool (!b4 || b5) ∧ Hid (Box w W g (tab b0 b1 (mT b4) (csT b2 b3) co2 cc2 [] none 0 [] none 0 [] none 0)) ∧ Hid (EpFar W g (tab b0 b1 (mT b4) (csT b2 b3) co2 cc2 [] none 0 [] none 0 [] none 0)))
      case first => as_aux_lemma =>
        cases b4 with
        | false =>
          go_wp2_with fail
          go_meet
          case rel => exact ⟨rfl, rfl, X2, E2⟩
        | true =>
          have d2 := X2.out.cell 2 _ rfl
          have f2 := X2.out.free 2 (by decide)
          go_wp2_with fail
          go_meet
          case rel => exact ⟨rfl, rfl, (tab_put X2.out E2.out).1, (tab_put X2.out E2.out).2⟩
      case rest =>
        obtain ⟨rfl, rfl, X3, E3⟩ := hcut
        clear X2 E2
        go_upto_if 59 with fail
        obtain ⟨WW, hWW⟩ : ∃ WW, WW = wc := ⟨_, rfl⟩
        subst hWW
        go_cut [12] (fun av W => ∃ (mo : Option Addr) (mc : Nat), av = .bool b4 ∧ Hid (Box w W g (tab b0 b1 (mT b4) (csT b2 b3) co2 cc2 [] none 0 [] none 0 (msT b5) mo mc)) ∧ Hid (EpFar W g (tab b0 b1 (mT b4) (csT b2 b3) co2 cc2 [] none 0 [] none 0 (msT b5) mo mc)))
        case first => as_aux_lemma =>
          cases b5 with
          | false =>
            go_wp2_with fail
            go_meet
            case rel => exact ⟨none, 0, rfl, X3, E3⟩
          | true =>
            have hgs : g < WW.heap.size := X3.out.hi
            have dd := X3.out.cell 19 _ rfl
            have ff := X3.out.free 19 (by decide)
            go_wp2_with fail
            go_meet
            case rel => exact ⟨_, _, rfl, (tab_ms X3.out E3.out).1, (tab_ms X3.out E3.out).2⟩
        case rest =>
          obtain ⟨mo, mc, rfl, X5, E5⟩ := hcut
          clear X3 E3
          go_upto_if 64 with fail
          obtain ⟨WW, hWW⟩ : ∃ WW, WW = wc := ⟨_, rfl⟩
          subst hWW
          go_cut [12, 13] (fun av lv W => ∃ (ho : Option Addr) (hc : Nat), av = .bool (b4 || b6 && heads) ∧ lv = .bool (letT b4 b5 b6 b7 heads) ∧ Hid (Box w W g (tab b0 b1 (mT b4) (csT b2 b3) co2 cc2 (hsT b6) ho hc [] none 0 (msT b5) mo mc)) ∧ Hid (EpFar W g (tab b0 b1 (mT b4) (csT b2 b3) co2 cc2 (hsT b6) ho hc [] none 0 (msT b5) mo mc)))
          case first => as_aux_lemma =>
            cases b6 with
            | false =>
              go_wp2_with fail
              go_meet
              case rel => exact ⟨none, 0, congrArg Value.bool (by simp), congrArg Value.bool (by unfold letT; simp), X5, E5⟩
            | true =>
              obtain ⟨l1, hl1⟩ : ∃ l1, (!b4 || b5) = l1 := ⟨_, rfl⟩
              have HL1 := hide hl1
              rw [hl1]
              clear hl1
              have HAh : Hid ((b4 || true && heads) = (b4 || heads)) := by unfold Hid; simp
              have HLt : Hid (letT b4 b5 true b7 heads = (l1 && (!heads || b7))) := by unfold Hid letT; rw [HL1.out]; simp
              clear HL1
              generalize letT b4 b5 true b7 heads = lt at *
              generalize (b4 || true && heads) = ah at *
              cases b4 <;> cases heads <;> cases l1
              all_goals have hgs : g < WW.heap.size := X5.out.hi
              all_goals have dd := X5.out.cell 8 _ rfl
              all_goals have ff := X5.out.free 8 (by decide)
              all_goals go_wp2_with fail
              all_goals go_meet
              all_goals (case rel => exact ⟨_, _, congrArg Value.bool (by rw [HAh.out]; simp), congrArg Value.bool (by rw [HLt.out]; simp), (tab_hs X5.out E5.out).1, (tab_hs X5.out E5.out).2⟩)
          case rest =>
            obtain ⟨ho, hc, rfl, rfl, X6, E6⟩ := hcut
            clear X5 E5
            go_upto_if 83 with fail
            obtain ⟨WW, hWW⟩ : ∃ WW, WW = wc := ⟨_, rfl⟩
            subst hWW
            go_cut [12] (fun av W => ∃ (lo : Option Addr) (lc : Nat), av = .bool (b4 || b6 && heads) ∧ Hid (Box w W g (tab b0 b1 (mT b4) (csT b2 b3) co2 cc2 (hsT b6) ho hc (alT b7) lo lc (msT b5) mo mc)) ∧ Hid (EpFar W g (tab b0 b1 (mT b4) (csT b2 b3) co2 cc2 (hsT b6) ho hc (alT b7) lo lc (msT b5) mo mc)))
            case first => as_aux_lemma =>
              cases b7 with
              | false =>
                go_wp2_with fail
                go_meet
                case rel => exact ⟨none, 0, rfl, X6, E6⟩
              | true =>
                have hgs : g < WW.heap.size := X6.out.hi
                have dd := X6.out.cell 18 _ rfl
                have ff := X6.out.free 18 (by decide)
                go_wp2_with fail
                go_meet
                case rel => exact ⟨_, _, rfl, (tab_al X6.out E6.out).1, (tab_al X6.out E6.out).2⟩
            case rest =>
              obtain ⟨lo, lc, rfl, X7, E7⟩ := hcut
              clear X6 E6
              have HRd : Hid (readsT b0 b1 b2 b3 b creds = ((b == 0) || namedT b2 b3 b && (!creds || b1) || b0 && !creds)) := rfl
              have HAt : Hid (aheadT b4 b6 b heads = ((b4 || b6 && heads) && !(b == 0))) := rfl
              have CL := hide (fun W h => OK.out.lets (tab b0 b1 (mT b4) (csT b2 b3) co2 cc2 (hsT b6) ho hc (alT b7) lo lc (msT b5) mo mc) b creds W h (tab_small _ _ _ _ _ _ _ _ _ _ _ _ _ _ _ _))
              have CA := hide (fun W h => OK.out.ahead (tab b0 b1 (mT b4) (csT b2 b3) co2 cc2 (hsT b6) ho hc (alT b7) lo lc (msT b5) mo mc) b creds heads W h (tab_small _ _ _ _ _ _ _ _ _ _ _ _ _ _ _ _))
              have CM := hide (fun W h => OK.out.may (tab b0 b1 (mT b4) (csT b2 b3) co2 cc2 (hsT b6) ho hc (alT b7) lo lc (msT b5) mo mc) b creds heads W h (tab_small _ _ _ _ _ _ _ _ _ _ _ _ _ _ _ _))
              have tl : (tab b0 b1 (mT b4) (csT b2 b3) co2 cc2 (hsT b6) ho hc (alT b7) lo lc (msT b5) mo mc).lets b creds = readsT b0 b1 b2 b3 b creds := TL.out b0 b1 b2 b3 creds
              have ta : (tab b0 b1 (mT b4) (csT b2 b3) co2 cc2 (hsT b6) ho hc (alT b7) lo lc (msT b5) mo mc).ahead b heads = aheadT b4 b6 b heads := TA.out b4 b6 heads
              have tm : (tab b0 b1 (mT b4) (csT b2 b3) co2 cc2 (hsT b6) ho hc (alT b7) lo lc (msT b5) mo mc).may b creds heads = (!aheadT b4 b6 b heads || readsT b0 b1 b2 b3 b creds && letT b4 b5 b6 b7 heads) := TM.out b0 b1 b2 b3 b4 b5 b6 b7 creds heads
              simp only [tl] at CL
              simp only [ta] at CA
              simp only [tm] at CM
              clear tl ta tm TL TA TM
              generalize readsT b0 b1 b2 b3 b creds = rd at *
              generalize aheadT b4 b6 b heads = ah at *
              generalize letT b4 b5 b6 b7 heads = lt at *
              generalize namedT b2 b3 b = nm at *
              obtain ⟨z, hz⟩ : ∃ z, (b == 0) = z := ⟨_, rfl⟩
              rw [hz] at HRd HAt
              have hz2 : (b != 0) = !z := by rw [← hz]; rfl
              have c15 := X7.out.cell 15 _ rfl
              have c16 := X7.out.cell 16 _ rfl
              obtain ⟨E, hE⟩ : ∃ E : Ep, E = (tab b0 b1 (mT b4) (csT b2 b3) co2 cc2 (hsT b6) ho hc (alT b7) lo lc (msT b5) mo mc) := ⟨_, rfl⟩
              have hE15 : E.any = b0 := by rw [hE]; rfl
              have hE16 : E.cr = b1 := by rw [hE]; rfl
              rw [← hE] at CL CA CM
              replace X7 : Hid (Box w wc g E) := by rw [hE]; exact X7
              replace E7 : Hid (EpFar wc g E) := by rw [hE]; exact E7
              replace c15 : wc.cell? ⟨g, 15, none⟩ = some (.bool b0) := by rw [← hE15]; exact X7.out.cell 15 _ rfl
              replace c16 : wc.cell? ⟨g, 16, none⟩ = some (.bool b1) := by rw [← hE16]; exact X7.out.cell 16 _ rfl
              clear hE hE15 hE16
              go_upto_region 21 with fail
              obtain ⟨WW, hWW⟩ : ∃ WW, WW = wc := ⟨_, rfl⟩
              subst hWW
              go_cut [14] (fun rv W => rv = .bool rd ∧ W = WW)
              case first => as_aux_lemma =>
                cases z with
                | true =>
                  go_wp2_with fail
                  go_meet
                  case rel => exact ⟨congrArg Value.bool (by rw [HRd.out]; simp), rfl⟩
                | false =>
                  cases nm with
                  | false =>
                    cases b0 with
                    | true =>
                      go_wp2_with fail
                      go_meet
                      case rel => exact ⟨congrArg Value.bool (by rw [HRd.out]; simp), rfl⟩
                    | false =>
                      go_wp2_with fail
                      go_meet
                      case rel => exact ⟨congrArg Value.bool (by rw [HRd.out]; simp), rfl⟩
                  | true =>
                    cases creds with
                    | false =>
                      go_wp2_with fail
                      go_meet
                      case rel => exact ⟨congrArg Value.bool (by rw [HRd.out]; simp), rfl⟩
                    | true =>
                      cases b1 with
                      | true =>
                        go_wp2_with fail
                        go_meet
                        case rel => exact ⟨congrArg Value.bool (by rw [HRd.out]; simp), rfl⟩
                      | false =>
                        cases b0 with
                        | true =>
                          go_wp2_with fail
                          go_meet
                          case rel => exact ⟨congrArg Value.bool (by rw [HRd.out]; simp), rfl⟩
                        | false =>
                          go_wp2_with fail
                          go_meet
                          case rel => exact ⟨congrArg Value.bool (by rw [HRd.out]; simp), rfl⟩
              case rest =>
                obtain ⟨rfl, rfl⟩ := hcut
                go_upto_region 22 with fail
                obtain ⟨WW, hWW⟩ : ∃ WW, WW = wc := ⟨_, rfl⟩
                subst hWW
                go_cut [12] (fun av W => av = .bool ah ∧ W = WW)
                case first => as_aux_lemma =>
                  generalize (b4 || b6 && heads) = q at *
                  cases z <;> cases q
                  all_goals go_wp2_with fail
                  all_goals go_meet
                  all_goals (case rel => exact ⟨congrArg Value.bool HAt.out.symm, rfl⟩)
                case rest =>
                  obtain ⟨rfl, rfl⟩ := hcut
                  have hgs := X7.out.hi
                  have IF : Hid ((Try.prog.info? 25).map (·.size) = some E.cells.length) := by unfold Hid; kernel_rfl
                  clear HRd HAt c15 c16
                  have r0 : (rd == rd) = true := by simp
                  have r1 : (ah == ah) = true := by simp
                  go_wp2_with (first | (refine wpList_load_mid rfl 25 _ rfl g 0 rfl E.cells _ X7.out.rg Try.underlying25 rfl IF.out ?_) | (refine wpList_load_want rfl 25 _ rfl g 0 rfl E.cells _ X7.out.rg Try.underlying25 rfl IF.out ?_))
                  refine (CL.out _ E7.out.at).mono ?_
                  rintro r wx ⟨rfl, hb⟩
                  replace E7 := hide (E7.out.but (But.below hb))
                  replace X7 := hide (X7.out.keep hb)
                  replace hgs : g < wx.heap.size := X7.out.hi
                  clear hb
                  go_wp2_with (first | (refine wpList_load_mid rfl 25 _ rfl g 0 rfl E.cells _ X7.out.rg Try.underlying25 rfl IF.out ?_) | (refine wpList_load_want rfl 25 _ rfl g 0 rfl E.cells _ X7.out.rg Try.underlying25 rfl IF.out ?_))
                  refine (CA.out _ E7.out.at).mono ?_
                  rintro r wy ⟨rfl, hb⟩
                  replace E7 := hide (E7.out.but (But.below hb))
                  replace X7 := hide (X7.out.keep hb)
                  replace hgs : g < wy.heap.size := X7.out.hi
                  clear hb
                  go_wp2_with (first | (refine wpList_load_mid rfl 25 _ rfl g 0 rfl E.cells _ X7.out.rg Try.underlying25 rfl IF.out ?_) | (refine wpList_load_want rfl 25 _ rfl g 0 rfl E.cells _ X7.out.rg Try.underlying25 rfl IF.out ?_))
                  refine (CM.out _ E7.out.at).mono ?_
                  rintro r wv ⟨rfl, hb⟩
                  replace E7 := hide (E7.out.but (But.below hb))
                  replace X7 := hide (X7.out.keep hb)
                  replace hgs : g < wv.heap.size := X7.out.hi
                  clear hb
                  cases ah with
                  | false =>
                    go_wp2_with fail
                    refine (awake5_any OK.out _).mono ?_
                    rintro r wz ⟨rfl, hb⟩
                    replace X7 := hide (X7.out.keep hb)
                    clear hb
                    go_wp2_with fail
                    go_ret
                    exact ⟨rfl, X7.out.bel⟩
                  | true =>
                    cases rd with
                    | false =>
                      go_wp2_with fail
                      refine (awake5_any OK.out _).mono ?_
                      rintro r wz ⟨rfl, hb⟩
                      replace X7 := hide (X7.out.keep hb)
                      clear hb
                      go_wp2_with fail
                      go_ret
                      exact ⟨rfl, X7.out.bel⟩
                    | true =>
                      have r2 : (lt == lt) = true := by simp
                      go_wp2_with fail
                      refine (awake5_any OK.out _).mono ?_
                      rintro r wz ⟨rfl, hb⟩
                      replace X7 := hide (X7.out.keep hb)
                      clear hb
                      go_wp2_with fail
                      go_ret
                      exact ⟨rfl, X7.out.bel⟩
end Go.Proofs.Ythljekiomfcjiaa
