/- The walk over moatref10.Parser's kind. -/
import Derived.Test.YtcmmjmgbanafgaaSx4
import Derived.BigRegion
namespace Go.Proofs.Url
def kindIs (k : Nat) : List Tk → Bool
  | [] => false
  | t :: _ => t.kind == k
def headT : List Tk → Tk
  | [] => zeroT
  | t :: _ => t
theorem kindR_eq (k : Nat) (r : List Tk) : kindR k r = if kindIs k r then .ok (headT r) r.tail else .bad r := by
  cases r with
  | nil => rfl
  | cons t r =>
    unfold kindR kindIs headT
    by_cases h : t.kind = k <;> simp [h]
end Go.Proofs.Url
namespace Go.Proofs.Ytcmmjmgbanafgaa
open Go.RowKit Go.Proofs.Url Go.Proofs.Url.Syn

def tokV (t : Tk) : Value := .agg #[.int .i64 t.kind, .int .i64 t.at', .string ⟨t.text.toArray⟩]
theorem resReadKind {W : World} {r : Nat} {a b : Int} {c : List UInt8} {tmps : Array Value} (h : TB W r a b c) (h4 : tmps[4]?.getD undef = .pointer (some ⟨r, 0, none⟩)) :
    (results Try.f62 tmps).run Try.prog W = .ok (.agg #[.int .i64 a, .int .i64 b, .string ⟨c.toArray⟩]) W := by
  obtain ⟨c0, c1, c2, _⟩ := h
  simp [results, Try.results62, go_sem, h4, c0, c1, c2]
theorem keepcP {W W' : World} {a : Addr} {v : Value} (hb : Below W.heap.size W W') (h : W.cell? a = some v) : W'.cell? a = some v := by
  rw [hb.cell (World.block_lt_of_cell? W _ h)]; exact h
theorem TB.but {g : Nat} {W W' : World} {r : Nat} {a b : Int} {c : List UInt8} (h : TB W r a b c) (hb : ButP g W W') (hn : r ≠ g) : TB W' r a b c := h.same (hb.block r h.lt hn)
theorem put3_but {g r : Nat} {W W' : World} (h : ButP g W W') (hr : W.heap.size ≤ r) (a b : Int) (c : List UInt8) : ButP g W (put3 W' r a b c) := by
  have hb : Below W.heap.size W' (put3 W' r a b c) := put3_below ((Below.refl _ _)) r hr a b c
  exact But.trans h (But.below hb)
theorem PS.keep3 {W : World} {g : Nat} {ao : Option Addr} {cap : Nat} {ts r : List Tk} {b : Bool} (h : PS W g ao cap ts r b) (k : Nat) (hk : g < k) (x y : Int) (z : List UInt8) : PS (put3 W k x y z) g ao cap ts r b := by
  obtain ⟨i, h1, h2, hp⟩ := h.ex
  have hb : Below k W (put3 W k x y z) := put3_below (Below.refl _ _) k (Nat.le_refl _) x y z
  have hc : ∀ j, (put3 W k x y z).cell? ⟨g, j, none⟩ = W.cell? ⟨g, j, none⟩ := fun j => hb.cell (p := ⟨g, j, none⟩) hk
  exact ⟨⟨i, h1, h2, ⟨by rw [hc]; exact hp.c0, by rw [hc]; exact hp.c1, by rw [hc]; exact hp.c2, by rw [hc]; exact hp.c3, fun j hj => by rw [hb.frozen (p := ⟨g, j, none⟩) hk]; exact hp.fr j hj⟩⟩, h.tk.keep (hb.mono (Nat.le_of_lt hk))⟩
theorem ButP.alloc (g : Nat) (W : World) (o : Obj) : ButP g W (W.alloc o) := ButP.of ((Below.refl _ _).alloc (Nat.le_refl _) o)

/-- The failing ways of kind, from region 2 on. -/
def KindPost (k g : Nat) (ao : Option Addr) (cap : Nat) (ts r : List Tk) (b : Bool) (w : World) (e : Ending) (w' : World) : Prop :=
  e = .returned (tokV (if !b && kindIs k r then headT r else zeroT)) ∧ PS w' g ao cap ts (if !b && kindIs k r then r.tail else r) (b || !kindIs k r) ∧ ButP g w w'

set_option maxHeartbeats 2000000 in
set_option maxRecDepth 100000 in
theorem pKind_any (k : Nat) (g : Nat) (ao : Option Addr) (cap : Nat) (ts r : List Tk) (b : Bool) (w : World) (h : PS w g ao cap ts r b) (hl : ts.length < 4294967281) :
    Calls Try.prog 62 #[.pointer (some ⟨g, 0, none⟩), .int .i64 k] w fun e w' => KindPost k g ao cap ts r b w e w' := by
  have hglw := h.lt
  have b0 : Below w.heap.size w (w.alloc (Obj.cells #[.int .i64 0, .int .i64 0, .string ⟨#[]⟩] 39)) := (Below.refl _ _).alloc (Nat.le_refl _) _
  obtain ⟨W0, hW0⟩ : ∃ W0, W0 = w.alloc (Obj.cells #[.int .i64 0, .int .i64 0, .string ⟨#[]⟩] 39) := ⟨_, rfl⟩
  have R0 : Hid (TB W0 w.heap.size 0 0 []) := by unfold Hid; rw [hW0]; exact TB.new w 0 0 [] 39
  rw [← hW0] at b0
  have HS := hide (h.keep b0)
  have B0 := hide (ButP.of (g := g) b0)
  have HO := hide (fun n => pOk_any g ao cap ts r b (W0.drewN n) (HS.out.keep (below_drewP W0 n)))
  have hr0 := R0.out.lt
  clear h b0
  obtain ⟨i, hi, hr, hp⟩ := HS.out.ex
  have c0 := hp.c0
  have c1 := hp.c1
  have HP := hide hp
  have hgl := hp.lt
  clear hp
  have HW := hide hW0
  clear hW0
  have HIi := hide hi
  cases b with
  | true =>
    have HZ : Hid (∀ e w', (e = .returned (tokV zeroT) ∧ PS w' g ao cap ts r true ∧ ButP g w w') → KindPost k g ao cap ts r true w e w') := fun e w' h => h
    simp only [Bool.not_true] at HO
    clear hr hi
    go_enter Try.func62, Try.ntmps62
    go_upto_region 1 with fail
    rw [← HW.out]
    go_quiet (first | (go_at_call 33; exact Calls.quiet_of_same (HO.out _)))
    have bd := below_drewP W0 nq
    generalize W0.drewN nq = W1 at *
    have S1 := hide (HS.out.keep bd)
    have R1 := hide (R0.out.keep bd)
    have B1 := hide (B0.out.trans (ButP.of bd))
    clear bd HS HO c0 c1 HP R0 B0
    go_wp2_with fail
    refine (pFail_any g ao cap ts r true W1 S1.out).mono ?_
    rintro e W2 ⟨rfl, S2, B2⟩
    have R2 := hide (R1.out.but B2 (by omega))
    have S2 := hide S2
    have B2 := hide (B1.out.trans B2)
    clear S1 R1 B1
    have r0 := R2.out.c0
    have r1 := R2.out.c1
    have r2 := R2.out.c2
    have q0 := R2.out.fr 0 (by decide)
    have q1 := R2.out.fr 1 (by decide)
    have q2 := R2.out.fr 2 (by decide)
    have hrl := R2.out.lt
    have HPp : Hid (TB (put3 W2 w.heap.size 0 0 []) w.heap.size 0 0 []) := R2.out.put _ _ _
    have HB : Hid (ButP g w (put3 W2 w.heap.size 0 0 [])) := put3_but B2.out (Nat.le_refl _) _ _ _
    have HS3 : Hid (PS (put3 W2 w.heap.size 0 0 []) g ao cap ts r true) := S2.out.keep3 _ hglw _ _ _
    unfold put3 at HPp HB HS3
    go_wp2_with fail
    refine bodyPost_ret (v := tokV zeroT) ?_ rfl ?_
    · exact resReadKind HPp.out rfl
    · exact HZ.out _ _ ⟨rfl, HS3.out, HB.out⟩
  | false =>
    simp only [Bool.not_false] at HO
    simp only [Bool.false_eq_true, if_false] at HP
    by_cases hlt : i < ts.length
    · have hlI : (i : Int) < (ts.length : Int) := by omega
      have hlN : ¬ ts.length ≤ i := by omega
      obtain ⟨tg, rfl, htg, k1, k2, k3⟩ := HS.out.tk i hlt
      have hr2 : r = ts[i] :: ts.drop (i + 1) := by rw [← hr, List.drop_eq_getElem_cons hlt]
      have htl : tg < W0.heap.size := by omega
      have HD : Hid (ts.drop (i + 1) = r.tail) := by unfold Hid; rw [hr2]; rfl
      have HD2 : Hid (headT r = ⟨ts[i].kind, ts[i].at', ts[i].text⟩) := by unfold Hid; rw [hr2]; rfl
      have hks : kindIs k r = (ts[i].kind == k) := by rw [hr2]; rfl
      clear hr hr2 hi
      by_cases hkk : ts[i].kind = k
      · have HZ : Hid (∀ e w', (e = .returned (tokV (headT r)) ∧ PS w' g (some ⟨tg, 0, none⟩) cap ts r.tail false ∧ ButP g w w') → KindPost k g (some ⟨tg, 0, none⟩) cap ts r false w e w') := by
          intro e w' h
          have : kindIs k r = true := by rw [hks]; exact beq_iff_eq.2 hkk
          unfold KindPost; rw [this]; exact h
        clear hks
        have hkI : ((k : Int) == (k : Int)) = true := by simp
        rw [hkk] at k1 HD2
        clear hkk
        generalize ts[i].at' = ta at *
        generalize ts[i].text = tt at *
        go_enter Try.func62, Try.ntmps62
        go_upto_region 1 with fail
        rw [← HW.out]
        go_quiet (first | (go_at_call 33; exact Calls.quiet_of_same (HO.out _)))
        have bd := below_drewP W0 nq
        generalize W0.drewN nq = W1 at *
        have S1 := hide (HS.out.keep bd)
        have R1 := hide (R0.out.keep bd)
        have B1 := hide (B0.out.trans (ButP.of bd))
        replace k1 := keepcP bd k1
        replace k2 := keepcP bd k2
        replace k3 := keepcP bd k3
        have P1 := hide (HP.out.keep bd)
        have T1 := hide (S1.out.tk)
        clear bd HS HO c0 c1 HP R0 B0 hgl S1
        have c1 := P1.out.c1
        have q1 := P1.out.fr 1 (by decide)
        have hgl := P1.out.lt
        have hiI : (i : Int) < 4294967281 := by omega
        have htl1 := World.block_lt_of_cell? W1 _ k1
        go_upto_region 5 with fail
        obtain ⟨W2, hW2⟩ : ∃ W2, W2 = W1.setCell ⟨g, 1, none⟩ (.int .i64 ((i : Int) + 1)) := ⟨_, rfl⟩
        rw [← hW2]
        have P2 : Hid (PB W2 g (.slice (some ⟨tg, 0, none⟩) ts.length cap) (i + 1) 0 0) := by
          unfold Hid; rw [hW2]; have := P1.out.set1 (i + 1); simpa using this
        have T2 : Hid (TksB W2 g (some ⟨tg, 0, none⟩) ts) := by unfold Hid; rw [hW2]; exact P1.out.tks T1.out _ _
        have B2 : Hid (ButP g w W2) := by unfold Hid; rw [hW2]; exact B1.out.set _ _
        have R2 : Hid (TB W2 w.heap.size 0 0 []) := by unfold Hid; rw [hW2]; exact R1.out.but ((But.refl _ _ _).set _ _) (by omega)
        have hother : ∀ j, W2.cell? ⟨tg, j, none⟩ = W1.cell? ⟨tg, j, none⟩ := fun j => by
          rw [hW2]; exact World.cell?_of_block (w := W1) (Below.heap_setCell _ _ _ _ (by show tg ≠ g; omega))
        rw [← hother] at k1 k2 k3
        clear hother hW2 P1 T1 B1 R1 c1 q1 hgl htl1
        have c0 := P2.out.c0
        have c1 := P2.out.c1
        have r0 := R2.out.c0
        have r1 := R2.out.c1
        have r2 := R2.out.c2
        have q0 := R2.out.fr 0 (by decide)
        have q1 := R2.out.fr 1 (by decide)
        have q2 := R2.out.fr 2 (by decide)
        have hrl := R2.out.lt
        have hgl := P2.out.lt
        have htl1 := World.block_lt_of_cell? W2 _ k1
        have bdr : Below (put3 W2 w.heap.size k ta tt).heap.size (put3 W2 w.heap.size k ta tt) (put3 W2 w.heap.size k ta tt).drew := (Below.refl _ _).drew
        have HPp : Hid (TB (put3 W2 w.heap.size k ta tt).drew w.heap.size k ta tt) := (R2.out.put _ _ _).keep bdr
        have HB : Hid (ButP g w (put3 W2 w.heap.size k ta tt).drew) := (put3_but B2.out (Nat.le_refl _) _ _ _).trans (ButP.of bdr)
        have HS3 : Hid (PS (put3 W2 w.heap.size k ta tt).drew g (some ⟨tg, 0, none⟩) cap ts r.tail false) :=
          ((PS.mk ⟨i + 1, hlt, HD.out, P2.out⟩ T2.out : PS W2 g (some ⟨tg, 0, none⟩) cap ts r.tail false).keep3 _ hglw _ _ _).keep bdr
        clear bdr
        unfold put3 at HPp HB HS3
        go_region
        go_wp2_with fail
        refine bodyPost_ret (v := tokV (headT r)) ?_ rfl ?_
        · rw [HD2.out]; exact resReadKind HPp.out rfl
        · exact HZ.out _ _ ⟨rfl, HS3.out, HB.out⟩
      · have HZ : Hid (∀ e w', (e = .returned (tokV zeroT) ∧ PS w' g (some ⟨tg, 0, none⟩) cap ts r true ∧ ButP g w w') → KindPost k g (some ⟨tg, 0, none⟩) cap ts r false w e w') := by
          intro e w' h
          have : kindIs k r = false := by rw [hks]; exact beq_eq_false_iff_ne.2 hkk
          unfold KindPost; rw [this]; exact h
        have hkI : ((ts[i].kind : Int) == (k : Int)) = false := beq_eq_false_iff_ne.2 (by omega)
        have hkB : ((ts[i].kind : Int) != (k : Int)) = true := by simp [bne, hkI]
        clear hks hkk HD HD2
        generalize ts[i].kind = tk at *
        go_enter Try.func62, Try.ntmps62
        go_upto_region 1 with fail
        rw [← HW.out]
        go_quiet (first | (go_at_call 33; exact Calls.quiet_of_same (HO.out _)))
        have bd := below_drewP W0 nq
        generalize W0.drewN nq = W1 at *
        have S1 := hide (HS.out.keep bd)
        have R1 := hide (R0.out.keep bd)
        have B1 := hide (B0.out.trans (ButP.of bd))
        clear bd HS HO c0 c1 HP R0 B0
        go_wp2_with fail
        refine (pFail_any g (some ⟨tg, 0, none⟩) cap ts r false W1 S1.out).mono ?_
        rintro e W2 ⟨rfl, S2, B2⟩
        have R2 := hide (R1.out.but B2 (by omega))
        have S2 := hide S2
        have B2 := hide (B1.out.trans B2)
        clear S1 R1 B1
        have r0 := R2.out.c0
        have r1 := R2.out.c1
        have r2 := R2.out.c2
        have q0 := R2.out.fr 0 (by decide)
        have q1 := R2.out.fr 1 (by decide)
        have q2 := R2.out.fr 2 (by decide)
        have hrl := R2.out.lt
        have HPp : Hid (TB (put3 W2 w.heap.size 0 0 []) w.heap.size 0 0 []) := R2.out.put _ _ _
        have HB : Hid (ButP g w (put3 W2 w.heap.size 0 0 [])) := put3_but B2.out (Nat.le_refl _) _ _ _
        have HS3 : Hid (PS (put3 W2 w.heap.size 0 0 []) g (some ⟨tg, 0, none⟩) cap ts r true) := S2.out.keep3 _ hglw _ _ _
        unfold put3 at HPp HB HS3
        go_wp2_with fail
        refine bodyPost_ret (v := tokV zeroT) ?_ rfl ?_
        · exact resReadKind HPp.out rfl
        · exact HZ.out _ _ ⟨rfl, HS3.out, HB.out⟩
    · have hlI : ¬ (i : Int) < (ts.length : Int) := by omega
      have hge : (ts.length : Int) ≤ (i : Int) := by omega
      have HZ : Hid (∀ e w', (e = .returned (tokV zeroT) ∧ PS w' g ao cap ts r true ∧ ButP g w w') → KindPost k g ao cap ts r false w e w') := by
        intro e w' h
        have : kindIs k r = false := by rw [← hr, List.drop_eq_nil_of_le (by omega)]; rfl
        unfold KindPost; rw [this]; exact h
      clear hr hi hlt
      go_enter Try.func62, Try.ntmps62
      go_upto_region 1 with fail
      rw [← HW.out]
      go_quiet (first | (go_at_call 33; exact Calls.quiet_of_same (HO.out _)))
      have bd := below_drewP W0 nq
      generalize W0.drewN nq = W1 at *
      have S1 := hide (HS.out.keep bd)
      have R1 := hide (R0.out.keep bd)
      have B1 := hide (B0.out.trans (ButP.of bd))
      clear bd HS HO c0 c1 HP R0 B0
      go_wp2_with fail
      refine (pFail_any g ao cap ts r false W1 S1.out).mono ?_
      rintro e W2 ⟨rfl, S2, B2⟩
      have R2 := hide (R1.out.but B2 (by omega))
      have S2 := hide S2
      have B2 := hide (B1.out.trans B2)
      clear S1 R1 B1
      have r0 := R2.out.c0
      have r1 := R2.out.c1
      have r2 := R2.out.c2
      have q0 := R2.out.fr 0 (by decide)
      have q1 := R2.out.fr 1 (by decide)
      have q2 := R2.out.fr 2 (by decide)
      have hrl := R2.out.lt
      have HPp : Hid (TB (put3 W2 w.heap.size 0 0 []) w.heap.size 0 0 []) := R2.out.put _ _ _
      have HB : Hid (ButP g w (put3 W2 w.heap.size 0 0 [])) := put3_but B2.out (Nat.le_refl _) _ _ _
      have HS3 : Hid (PS (put3 W2 w.heap.size 0 0 []) g ao cap ts r true) := S2.out.keep3 _ hglw _ _ _
      unfold put3 at HPp HB HS3
      go_wp2_with fail
      refine bodyPost_ret (v := tokV zeroT) ?_ rfl ?_
      · exact resReadKind HPp.out rfl
      · exact HZ.out _ _ ⟨rfl, HS3.out, HB.out⟩
end Go.Proofs.Ytcmmjmgbanafgaa
