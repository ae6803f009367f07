/- The walks over tree.reader's chain, term, formula, factor (text by make/tq6.py). -/
import Derived.Test.YtcmmjmgbanafgaaTq5
import Derived.Test.YtcmmjmgbanafgaaSx7
import Derived.Test.YtcmmjmgbanafgaaRegP
namespace Go.Proofs.Ytcmmjmgbanafgaa
open Go.RowKit Go.Proofs.Url Go.Proofs.Url.Syn

theorem RN.outK {α : Type} {Sh : Nd → α → Prop} {x : Rd α} {a : α} {w W : World} {m g : Nat} {ao : Option Addr} {cap : Nat} {ts r : List Tk} {n : Nat} {v1 v2 : Value} {y : Nd} {a1 a2 : Option Addr} {c1 c2 : Nat} {K : Nat → Prop} (h : RN w W m g ao cap ts r n v1 v2) (hg : g < w.heap.size) (hx : x = .ok a r)
    (hy : NA W K a1 a2 y) (hK : ∀ b, K b → w.heap.size ≤ b ∧ b < W.heap.size ∧ b ≠ m) (hsh : Sh y a) :
    OutG Sh x g ao cap ts n w (.returned (.agg #[.slice a1 y.1.length c1, .slice a2 y.2.len c2])) (putN W m (.slice a1 y.1.length c1) (.slice a2 y.2.len c2)) := by
  refine OutG.isOk hx (putN_but h.bt h.hm _ _) ?_ hsh (putN_rs h.rs _ _ (by have := h.hm; omega))
  rw [putN_size]
  exact (hy.keep (putN_keptK (fun k => (hK m k).2.2 rfl))).sub (fun b k => ⟨(hK b k).1, (hK b k).2.1⟩)
/-- What a reader may still read. -/
def leftR (W : World) (g n : Nat) : Nat := match W.cell? ⟨g, 1, none⟩ with
  | some (.int _ i) => n - i.toNat
  | _ => 0
theorem RS.left {W : World} {g : Nat} {ao : Option Addr} {cap : Nat} {ts r : List Tk} {n : Nat} (h : RS W g ao cap ts r n) : leftR W g ts.length = r.length := by
  obtain ⟨i, hi, hr, hp⟩ := h.ex
  unfold leftR
  rw [hp.c1, ← hr, List.length_drop]
  simp
/-- The blocks of a tree that a loop holds in a block of its own. -/
def KC (m0 m1 : Nat) (W : World) (b : Nat) : Prop := m0 < b ∧ b ≠ m1 ∧ b < W.heap.size
theorem KC.grow {m0 m1 : Nat} {W W' : World} (h : W.heap.size ≤ W'.heap.size) : ∀ b, KC m0 m1 W b → KC m0 m1 W' b := fun _ k => ⟨k.1, k.2.1, Nat.lt_of_lt_of_le k.2.2 h⟩
theorem NA.belowC {m0 m1 : Nat} {W W' : World} {a1 a2 : Option Addr} {x : Nd} (h : NA W (KC m0 m1 W) a1 a2 x) (hb : Below W.heap.size W W') : NA W' (KC m0 m1 W') a1 a2 x := (h.keep (KeptIn.belowK hb fun _ k => k.2.2)).sub (KC.grow hb.size)
theorem NA.butC {g m0 m1 : Nat} {W W' : World} {a1 a2 : Option Addr} {x : Nd} (h : NA W (KC m0 m1 W) a1 a2 x) (hg : g < m0) (hb : ButP g W W') : NA W' (KC m0 m1 W') a1 a2 x := (h.keep (KeptIn.butK hb (fun k => by have := k.1; omega) fun _ k => k.2.2)).sub (KC.grow hb.size)
/-- A region in which one operation reads on. -/
structure RC4 (W4 : World) (g : Nat) (ao : Option Addr) (cap : Nat) (ts ra rb : List Tk) (n k : Nat) (L : Nat → Bool) (W : World) : Prop where
  bt : ButP g W4 W
  rs : RS W g ao cap ts (if L k then rb else ra) n
theorem RC4.same {W4 : World} {g : Nat} {ao : Option Addr} {cap : Nat} {ts ra rb : List Tk} {n k : Nat} {L : Nat → Bool} {W W' : World} (h : RC4 W4 g ao cap ts ra rb n k L W) {i : Nat} (hi : i ≠ k) (hb : Below W.heap.size W W') : RC4 W4 g ao cap ts ra rb n k (RP.also L i) W' := by
  refine ⟨h.bt.trans (ButP.of hb), ?_⟩
  have e : RP.also L i k = L k := by unfold RP.also; rw [if_neg (fun e => hi e.symm)]
  rw [e]; exact h.rs.keep hb
theorem RC4.none {W4 : World} {g : Nat} {ao : Option Addr} {cap : Nat} {ts ra rb : List Tk} {n k : Nat} {L : Nat → Bool} (h : RS W4 g ao cap ts ra n) (hL : L k = false) : RC4 W4 g ao cap ts ra rb n k L W4.drew := by
  refine ⟨ButP.of ((Below.refl _ _).drew), ?_⟩
  rw [hL]; exact h.keep ((Below.refl _ _).drew)
theorem NB.range {W : World} {m : Nat} {v1 v2 : Value} (h : NB W m v1 v2) : W.rangeAt m 0 [v1, v2] := by
  intro j v hj
  match j, hj with
  | 0, hj => cases hj; exact h.c0
  | 1, hj => cases hj; exact h.c1
theorem RP.gives_row {P : Program} {X : List PanicEntry → World → Prop} {o : Oper} {a : Act} {w : World} {K : Value → World → Prop} (ty : TypeId) (x : Operand) (ho : o.op = .load ty x) (b off : Nat) (hx : a.eval x = .pointer (some ⟨b, off, none⟩)) (cs : List Value) (d : TypeDesc) (hr : w.rangeAt b off cs)
    (hu : P.underlying ty = some d) (hd : d.isRow = true) (hi : (P.info? ty).map (·.size) = some cs.length) (hK : K (.agg cs.toArray) w) : RP.Oper.gives P X o a w K := by
  unfold RP.Oper.gives
  unfold execOp
  simp only [ho, hx, Instr.loadAt, Instr.sureAddr, Sem.run_bind, Sem.run_pure, Result.andThen_ok, run_loadVar_mid w b off ty cs d hr hu hd hi]
  exact hK
/-- What a link leaves; what two parts in a row are. -/
def LinkP (B : Nat) (f : Fm) (v : Value) (W : World) : Prop := ∃ (y2 : Nd) (p1 : Option Addr) (q1 : Nat) (p2 : Option Addr) (q2 : Nat), v = .agg #[.slice p1 y2.1.length q1, .slice p2 y2.2.len q2] ∧ NA W (In B W.heap.size) p1 p2 y2 ∧ ShF y2 f
def PairP (B : Nat) (x1 x2 : Value) (f : Fm) (v : Value) (W : World) : Prop := ∃ (q : Nat) (y2 : Nd) (p1 : Option Addr) (q1 : Nat) (p2 : Option Addr) (q2 : Nat), v = .slice (some ⟨q, 0, none⟩) 2 2 ∧ B ≤ q ∧ W.rangeAt q 0 [x1, x2, .slice p1 y2.1.length q1, .slice p2 y2.2.len q2] ∧ NA W (In B W.heap.size) p1 p2 y2 ∧ ShF y2 f
theorem RN.putO {w W : World} {m g : Nat} {ao : Option Addr} {cap : Nat} {ts r : List Tk} {n : Nat} {v1 v2 : Value} (h : RN w W m g ao cap ts r n v1 v2) {m1 : Nat} (hm : m < m1) (hg : g < m1) (u1 u2 : Value) : RN w (putN W m1 u1 u2) m g ao cap ts r n v1 v2 :=
  ⟨(h.nb.other u1 (Nat.ne_of_lt hm)).other u2 (Nat.ne_of_lt hm), putN_rs h.rs _ _ hg, putN_but h.bt (by have := h.hm; omega) _ _, h.hm⟩
theorem RN.setO {w W : World} {m g : Nat} {ao : Option Addr} {cap : Nat} {ts r : List Tk} {n : Nat} {v1 v2 : Value} (h : RN w W m g ao cap ts r n v1 v2) {m1 j : Nat} (hm : m < m1) (hg : g < m1) (u : Value) : RN w (W.setCell ⟨m1, j, none⟩ u) m g ao cap ts r n v1 v2 :=
  ⟨h.nb.other u (Nat.ne_of_lt hm), h.rs.set _ hg, h.bt.setq _ (by have := h.hm; omega), h.hm⟩
theorem take_one {w : List UInt8} (hp : plainW w = true) (hl : 1 < w.length) {r : List Tk} (h : TokOk r) (hq : isT w r = true) : ∃ t, r = t :: r.tail ∧ t.kind = 2 ∧ t.text = w ∧ takesR [w] r = .ok [t] r.tail := by
  cases r with
  | nil => cases hq
  | cons t r =>
    rw [isT_lit] at hq
    obtain ⟨h1, h2⟩ := lit_word hl h hq
    refine ⟨t, rfl, h1, h2, ?_⟩
    rw [takesR_word hp hl _ h, need_word h1 h2]
    rfl
def FacT (n : Nat) : Prop := ∀ (g : Nat) (ao : Option Addr) (cap : Nat) (ts r : List Tk) (sz : Nat) (w : World), RS w g ao cap ts r sz → TokOk ts → ts.length < 4294967281 → 3 * r.length + 1 ≤ n →
  Calls Try.prog 94 #[.pointer (some ⟨g, 0, none⟩)] w fun e w' => OutG ShF (facF n r) g ao cap ts sz w e w'
def TerT (n : Nat) : Prop := ∀ (g : Nat) (ao : Option Addr) (cap : Nat) (ts r : List Tk) (sz : Nat) (w : World), RS w g ao cap ts r sz → TokOk ts → ts.length < 4294967281 → 3 * r.length + 2 ≤ n →
  Calls Try.prog 93 #[.pointer (some ⟨g, 0, none⟩)] w fun e w' => OutG ShF (terF n r) g ao cap ts sz w e w'
def ForT (n : Nat) : Prop := ∀ (g : Nat) (ao : Option Addr) (cap : Nat) (ts r : List Tk) (sz : Nat) (w : World), RS w g ao cap ts r sz → TokOk ts → ts.length < 4294967281 → 3 * r.length + 3 ≤ n →
  Calls Try.prog 87 #[.pointer (some ⟨g, 0, none⟩)] w fun e w' => OutG ShF (forF n r) g ao cap ts sz w e w'
theorem resReadChain {W : World} {m : Nat} {v1 v2 : Value} {tmps : Array Value} (h : NB W m v1 v2) (h2 : tmps[6]?.getD undef = .pointer (some ⟨m, 0, none⟩)) :
    (results Try.f92 tmps).run Try.prog W = .ok (.agg #[v1, v2]) W := by
  obtain ⟨c0, c1, _⟩ := h
  simp [results, Try.results92, go_sem, h2, c0, c1]
theorem resReadTer {W : World} {m : Nat} {v1 v2 : Value} {tmps : Array Value} (h : NB W m v1 v2) (h2 : tmps[2]?.getD undef = .pointer (some ⟨m, 0, none⟩)) :
    (results Try.f93 tmps).run Try.prog W = .ok (.agg #[v1, v2]) W := by
  obtain ⟨c0, c1, _⟩ := h
  simp [results, Try.results93, go_sem, h2, c0, c1]
theorem resReadFor {W : World} {m : Nat} {v1 v2 : Value} {tmps : Array Value} (h : NB W m v1 v2) (h2 : tmps[2]?.getD undef = .pointer (some ⟨m, 0, none⟩)) :
    (results Try.f87 tmps).run Try.prog W = .ok (.agg #[v1, v2]) W := by
  obtain ⟨c0, c1, _⟩ := h
  simp [results, Try.results87, go_sem, h2, c0, c1]
theorem resReadFac {W : World} {m : Nat} {v1 v2 : Value} {tmps : Array Value} (h : NB W m v1 v2) (h2 : tmps[2]?.getD undef = .pointer (some ⟨m, 0, none⟩)) :
    (results Try.f94 tmps).run Try.prog W = .ok (.agg #[v1, v2]) W := by
  obtain ⟨c0, c1, _⟩ := h
  simp [results, Try.results94, go_sem, h2, c0, c1]

set_option maxHeartbeats 4000000 in
set_option maxRecDepth 100000 in
theorem chain_ter (n : Nat) (IH : ∀ m, m ≤ n → FacT m) (g : Nat) (ao : Option Addr) (cap : Nat) (ts r : List Tk) (sz : Nat) (w : World) (h : RS w g ao cap ts r sz) (ht : TokOk ts) (hl : ts.length < 4294967281) (hf : 3 * r.length + 1 ≤ n) :
    Calls Try.prog 92 #[.pointer (some ⟨g, 0, none⟩), .string ⟨#[97, 110, 100]⟩, .func (.func 94) #[.pointer (some ⟨g, 0, none⟩)] #[]] w fun e w' => OutG ShF (terF (n + 1) r) g ao cap ts sz w e w' := by
  have IHh := hide IH
  have HL := hide hl
  have HT := hide ht
  have HE : Hid (terF (n + 1) r = (facF n r).then (terL n)) := terF_succ n r
  have HFu := hide hf
  have hgw := h.lt
  have R0 := hide (RN.new h (.slice none 0 0) (.slice none 0 0) 51)
  clear h hf hl ht IH
  go_enter Try.func92, Try.ntmps92
  go_upto_region 1 with fail
  obtain ⟨W0, hW0⟩ : ∃ x, x = w.alloc (Obj.cells #[.slice none 0 0, .slice none 0 0] 51) := ⟨_, rfl⟩
  rw [← hW0] at R0 ⊢
  have hs0 : W0.heap.size = w.heap.size + 1 := by rw [hW0]; simp
  clear hW0
  go_wp2_with fail
  refine (IHh.out n (Nat.le_refl _) g ao cap ts r sz W0 R0.out.rs HT.out HL.out HFu.out).mono ?_
  rintro e w1 ⟨B1, h1⟩
  have hs1 := B1.size
  cases hx : facF n r with
  | bad r' =>
    rw [hx] at h1
    obtain ⟨rfl, S1⟩ := h1
    have R1 := hide (R0.out.but hgw B1 S1)
    have HX : Hid (terF (n + 1) r = .bad r') := by unfold Hid; rw [HE.out, hx]; rfl
    clear hx B1 S1 R0 HE
    go_wp2_with fail
    exact ⟨rfl, OutG.isBad HX.out R1.out.bt R1.out.rs⟩
  | ok a r' =>
    rw [hx] at h1
    obtain ⟨y, a1, c1, a2, c2, rfl, N1, hy, S1⟩ := h1
    have R1 := hide (R0.out.but hgw B1 S1)
    have hsh := (short_all n).1 _ _ _ hx
    have HY := hide hy
    have N1 := hide N1
    have HE2 : Hid (terF (n + 1) r = terL n a r') := by unfold Hid; rw [HE.out, hx]; rfl
    have hfu := HFu.out
    obtain ⟨n', rfl⟩ : ∃ k, n = k + 1 := ⟨n - 1, by omega⟩
    have HF2 : Hid (3 * r'.length + 1 ≤ n') := by unfold Hid; omega
    clear hx B1 S1 R0 HE hy hsh hfu HFu
    go_wp2_with fail
    obtain ⟨W2, hW2⟩ : ∃ x, x = w1.alloc (Obj.cells #[.slice a1 y.1.length c1, .slice a2 y.2.len c2] 51) := ⟨_, rfl⟩
    have R2 : Hid (RN w W2 w.heap.size g ao cap ts r' sz (.slice none 0 0) (.slice none 0 0)) := by unfold Hid; rw [hW2]; exact R1.out.alloc _
    have X2 : Hid (NB W2 w1.heap.size (.slice a1 y.1.length c1) (.slice a2 y.2.len c2)) := by unfold Hid; rw [hW2]; exact NB.new _ _ _ _
    have N2 : Hid (NA W2 (KC w.heap.size w1.heap.size W2) a1 a2 y) := by
      unfold Hid; rw [hW2]
      exact (N1.out.keep (KeptIn.below ((Below.refl _ _).alloc (Nat.le_refl _) _) (Nat.le_refl _) _)).sub (fun b k => ⟨by have := k.1; omega, by have := k.2; omega, by have := k.2; simp; omega⟩)
    rw [← hW2]
    have hm1 : w.heap.size < w1.heap.size := by omega
    clear hW2 R1 N1
    go_loopw [] (fun W => ∃ (m : Nat) (a : Fm) (r' : List Tk) (y : Nd) (a1 : Option Addr) (c1 : Nat) (a2 : Option Addr) (c2 : Nat), m ≤ n' ∧ 3 * r'.length + 1 ≤ m ∧ Hid (terF (n' + 1 + 1) r = terL (m + 1) a r') ∧ Hid (ShF y a) ∧
      Hid (RN w W w.heap.size g ao cap ts r' sz (.slice none 0 0) (.slice none 0 0)) ∧ Hid (NB W w1.heap.size (.slice a1 y.1.length c1) (.slice a2 y.2.len c2)) ∧ Hid (NA W (KC w.heap.size w1.heap.size W) a1 a2 y)) (fun W => leftR W g ts.length)
    case atStart => exact ⟨n', a, r', y, a1, c1, a2, c2, Nat.le_refl _, HF2.out, HE2, HY, R2, X2, N2⟩
    case round =>
      obtain ⟨m, a, r', y, a1, c1, a2, c2, hm, hfm, hE, hY, hR, hX, hN⟩ := hrel
      clear HE2 HY R2 X2 N2 HF2
      have hrl : Hid (leftR wr g ts.length = r'.length) := hR.out.rs.left
      cases hq : isT w_and_ r' with
      | false =>
        have HR : Hid (terF (n' + 1 + 1) r = .ok a r') := by unfold Hid; rw [hE.out, terL_succ, if_neg (by simp [hq])]
        have HSe : Hid (∀ W, RS W g ao cap ts r' sz → Calls Try.prog 85 #[.pointer (some ⟨g, 0, none⟩), .string ⟨#[97, 110, 100]⟩] W fun e w' => e = .returned (.bool false) ∧ Below W.heap.size W w') := fun W a => by
          have := sees_any w_and_ g ao cap ts r' sz W a; rwa [fitT_lit (by decide), hq] at this
        clear hE hq
        go_wp2_with fail
        refine (HSe.out _ hR.out.rs).mono ?_
        rintro e w4 ⟨rfl, b4⟩
        have R4 := hide (hR.out.below b4)
        have X4 := hide (hX.out.below b4)
        have N4 := hide (hN.out.belowC b4)
        clear b4 hR hX hN HSe
        have x0 := X4.out.c0
        have x1 := X4.out.c1
        have hxl := X4.out.lt
        have z0 := R4.out.nb.c0
        have z1 := R4.out.nb.c1
        have u0 := R4.out.nb.f0
        have u1 := R4.out.nb.f1
        have hzl := R4.out.nb.lt
        have NF := hide (R4.out.nb.put (.slice a1 y.1.length c1) (.slice a2 y.2.len c2))
        have HO := hide (R4.out.outK (Sh := ShF) (c1 := c1) (c2 := c2) hgw HR.out N4.out (fun b k => ⟨by have := k.1; omega, k.2.2, by have := k.1; omega⟩) hY.out)
        unfold putN at NF HO
        clear hY R4 N4 X4 HR
        go_wp2_with fail
        refine bodyPost_ret (v := .agg #[.slice a1 y.1.length c1, .slice a2 y.2.len c2]) ?_ rfl ?_
        · exact resReadChain NF.out rfl
        · exact HO.out
      | true =>
        obtain ⟨t, hr', hk, htx, htk⟩ := take_one (by decide) (by decide) (hR.out.rs.tok HT.out) hq
        have HR : Hid (terF (n' + 1 + 1) r = (facF m r'.tail).then fun b r => terL m (.both w_and_ a b) r) := by unfold Hid; rw [hE.out, terL_succ, if_pos hq]
        have hlen := isT_len hq
        have HK := hide hk
        have HTX := hide htx
        have HTK := hide htk
        have HSe : Hid (∀ W, RS W g ao cap ts r' sz → Calls Try.prog 85 #[.pointer (some ⟨g, 0, none⟩), .string ⟨#[97, 110, 100]⟩] W fun e w' => e = .returned (.bool true) ∧ Below W.heap.size W w') := fun W a => by
          have := sees_any w_and_ g ao cap ts r' sz W a; rwa [fitT_lit (by decide), hq] at this
        clear hE hq hr' hk htx htk
        go_wp2_with fail
        refine (HSe.out _ hR.out.rs).mono ?_
        rintro e w4 ⟨rfl, b4⟩
        have R4 := hide (hR.out.below b4)
        have X4 := hide (hX.out.below b4)
        have N4 := hide (hN.out.belowC b4)
        clear b4 hR hX hN HSe
        go_wp2_with fail
        have R5 := hide (fun o => R4.out.alloc o)
        have X5 := hide (fun o => X4.out.below ((Below.refl w4.heap.size w4).alloc (Nat.le_refl _) o))
        have N5 := hide (fun o => N4.out.belowC ((Below.refl w4.heap.size w4).alloc (Nat.le_refl _) o))
        have hzl := R4.out.nb.lt
        refine (leaf_any [w_and_] w4.heap.size g ao cap ts r' sz _ (R5.out _).rs (lits_new w4 [w_and_] 9) (by omega) (by simp) (by decide) HL.out).mono ?_
        rintro e w6 ⟨B6, h6⟩
        rw [HTK.out] at h6
        obtain ⟨yt, b1, d1, b2, d2, he, N6t, hyt, S6⟩ := h6
        subst hyt
        replace he : e = .returned (.agg #[.slice b1 1 d1, .slice b2 0 d2]) := he
        subst he
        have hs6 := B6.size
        have R6 := hide ((R5.out _).but hgw B6 S6)
        have X6 := hide ((X5.out _).but B6 (by omega))
        have N6 := hide ((N5.out _).butC hgw B6)
        have N6t := hide N6t
        have hs5 : w4.heap.size + 1 ≤ w6.heap.size := by simpa using hs6
        have hx4 := X4.out.lt
        clear R4 X4 N4 R5 X5 N5 B6 S6 hs6
        go_upto_region 4 with fail
        obtain ⟨W7, hW7⟩ : ∃ x, x = w6.alloc (Obj.cells #[.slice b1 1 d1, .slice b2 0 d2] 51) := ⟨_, rfl⟩
        have b7 : Below w6.heap.size w6 W7 := by rw [hW7]; exact (Below.refl _ _).alloc (Nat.le_refl _) _
        have M7 : Hid (NB W7 w6.heap.size (.slice b1 1 d1) (.slice b2 0 d2)) := by unfold Hid; rw [hW7]; exact NB.new _ _ _ _
        have R7 := hide (R6.out.below b7)
        have X7 := hide (X6.out.below b7)
        have N7 : Hid (NA W7 (KC w.heap.size w1.heap.size w6) a1 a2 y) := N6.out.keep (KeptIn.belowK b7 fun _ k => k.2.2)
        have N7t : Hid (NA W7 (KC w.heap.size w1.heap.size w6) b1 b2 ([t], .nil)) := by
          unfold Hid
          exact (N6t.out.keep (KeptIn.below b7 (Nat.le_refl _) _)).sub (fun b k => by
            have h1 : w4.heap.size + 1 ≤ b := by simpa using k.1
            have h2 := k.2
            exact ⟨by omega, by omega, by omega⟩)
        rw [← hW7]
        clear hW7 b7 R6 X6 N6 N6t
        have hx7 := X7.out.lt
        have hm7 := M7.out.lt
        have hm1g : g < w1.heap.size := by omega
        have hm6g : g < w6.heap.size := by omega
        have hm61 : w6.heap.size ≠ w1.heap.size := by omega
        have HFm : Hid (3 * r'.tail.length + 1 ≤ m) := by unfold Hid; omega
        have IF : Hid ((Try.prog.info? 51).map (·.size) = some 2) := by unfold Hid; kernel_rfl
        cases hx : facF m r'.tail with
        | bad r3 =>
          have HX : Hid (terF (n' + 1 + 1) r = .bad r3) := by unfold Hid; rw [HR.out, hx]; rfl
          have HCall : Hid (∀ W, RS W g ao cap ts r'.tail sz → Calls Try.prog 94 #[.pointer (some ⟨g, 0, none⟩)] W fun e w' => ButP g W w' ∧ e = .panicked stuckE ∧ RS w' g ao cap ts r3 sz) := fun W a => by
            have := IHh.out m (by omega) g ao cap ts r'.tail sz W a HT.out HL.out HFm.out; rw [hx] at this; exact this
          clear hx HR
          refine RP.wp_region_posts_last (X := fun ch W => ch = stuckE ∧ ButP g W7 W ∧ RS W g ao cap ts r3 sz) (l := [_, _, _, _, _]) (ol := _) rfl (by kernel_rfl) (RC4 W7 g ao cap ts r'.tail r'.tail sz 2) (fun _ W W' => ButP g W W')
            [some 18, some 19, some 20, some 21, some 22] [[], [], [1], [0, 2], [], [0, 1, 2, 3, 4]]
            [fun v _ => v = .agg #[.slice a1 y.1.length c1, .slice a2 y.2.len c2], fun v _ => v = .func (.func 94) #[.pointer (some ⟨g, 0, none⟩)] #[], fun _ _ => False, fun _ _ => False, fun v _ => v = .pointer (some ⟨w6.heap.size, 1, none⟩)]
            ?_ rfl (by kernel_rfl) (by kernel_rfl) (by kernel_rfl) (by kernel_rfl) (by kernel_rfl) rfl rfl ?_ ?_ ?_ ?_
          · intro ch A W hs hd ho hx
            obtain ⟨rfl, BW, SW⟩ := hx
            exact And.intro hd (OutG.isBad HX.out (R7.out.bt.trans BW) SW)
          · exact .eq (.eq (.cons (fun _ _ _ _ _ _ _ h => h) (.cons (fun _ _ _ _ _ _ _ h => h) (.eq .nil))))
          · intro L hL
            exact RC4.none R7.out.rs (hL 2)
          · refine .cons ?_ (.cons ?_ (.cons ?_ (.cons ?_ (.cons ?_ .nil))))
            all_goals (intro L A W hLi hC old nd)
            all_goals (refine RP.runs_none rfl ?_)
            · have e7 : (A.tmps[7]?).getD undef = .pointer (some ⟨w1.heap.size, 0, none⟩) := old 7 (by kernel_rfl)
              have x := X7.out.but hC.bt (by omega)
              exact RP.gives_row 51 (.tmp 7) rfl _ 0 (by simpa [Act.eval] using e7) [.slice a1 y.1.length c1, .slice a2 y.2.len c2] _ (x.range) Try.underlying51 rfl IF.out ⟨hC.same (by decide) (Below.refl _ _), But.refl _ _ _, rfl⟩
            · have e2 : (A.tmps[2]?).getD undef = .func (.func 94) #[.pointer (some ⟨g, 0, none⟩)] #[] := old 2 (by kernel_rfl)
              simp [RP.Oper.gives, RP.gives, go_sem, e2]
              exact ⟨hC.same (by decide) (Below.refl _ _), But.refl _ _ _, rfl⟩
            · have e19 : (A.tmps[19]?).getD undef = .func (.func 94) #[.pointer (some ⟨g, 0, none⟩)] #[] := nd.1
              have S := hC.rs
              rw [hLi] at S
              simp [RP.Oper.gives, RP.gives, go_sem, e19]
              refine (HCall.out W S).mono fun e W' h => ?_
              exact ⟨_, h.2.1, rfl, hC.bt.trans h.1, h.2.2⟩
            · exact nd.2.1.elim
            · have e8 : (A.tmps[8]?).getD undef = .pointer (some ⟨w6.heap.size, 0, none⟩) := old 8 (by kernel_rfl)
              simp [RP.Oper.gives, RP.gives, go_sem, e8]
              exact ⟨hC.same (by decide) (Below.refl _ _), But.refl _ _ _, rfl⟩
          · intro L W hall hC E hE
            exact .cons fun v1 h1 => .cons fun v2 h2 => .cons fun v3 h3 => h3.elim
        | ok f2 r3 =>
          have hsh := (short_all m).1 _ _ _ hx
          have HCall : Hid (∀ W, RS W g ao cap ts r'.tail sz → Calls Try.prog 94 #[.pointer (some ⟨g, 0, none⟩)] W fun e w' => ButP g W w' ∧ ∃ (y2 : Nd) (p1 : Option Addr) (q1 : Nat) (p2 : Option Addr) (q2 : Nat), e = .returned (.agg #[.slice p1 y2.1.length q1, .slice p2 y2.2.len q2]) ∧ NA w' (In W.heap.size w'.heap.size) p1 p2 y2 ∧ ShF y2 f2 ∧ RS w' g ao cap ts r3 sz) := fun W a => by
            have := IHh.out m (by omega) g ao cap ts r'.tail sz W a HT.out HL.out HFm.out; rw [hx] at this; exact this
          obtain ⟨m', rfl⟩ : ∃ k, m = k + 1 := ⟨m - 1, by omega⟩
          have HR2 : Hid (terF (n' + 1 + 1) r = terL (m' + 1) (.both w_and_ a f2) r3) := by unfold Hid; rw [HR.out, hx]; rfl
          have hf3 : 3 * r3.length + 1 ≤ m' := by omega
          have hl3 : r3.length < r'.length := by omega
          have hmn : m' ≤ n' := by omega
          clear hx HR hsh HFm hfm hlen hm
          refine RP.wp_region_posts_last (X := fun _ _ => False) (l := [_, _, _, _, _]) (ol := _) rfl (by kernel_rfl) (RC4 W7 g ao cap ts r'.tail r3 sz 2) (fun _ W W' => ButP g W W')
            [some 18, some 19, some 20, some 21, some 22] [[], [], [1], [0, 2], [], [0, 1, 2, 3, 4]]
            [fun v _ => v = .agg #[.slice a1 y.1.length c1, .slice a2 y.2.len c2], fun v _ => v = .func (.func 94) #[.pointer (some ⟨g, 0, none⟩)] #[],
             fun v W => LinkP W7.heap.size f2 v W, fun v W => PairP W7.heap.size (.slice a1 y.1.length c1) (.slice a2 y.2.len c2) f2 v W,
             fun v _ => v = .pointer (some ⟨w6.heap.size, 1, none⟩)]
            (fun _ _ _ _ _ _ h => h.elim) rfl (by kernel_rfl) (by kernel_rfl) (by kernel_rfl) (by kernel_rfl) (by kernel_rfl) rfl rfl ?_ ?_ ?_ ?_
          · refine .eq (.eq (.cons ?_ (.cons ?_ (.eq .nil))))
            · rintro i v W W' h1 h2 hk ⟨y2, p1, q1, p2, q2, e, hn, hs⟩
              exact ⟨y2, p1, q1, p2, q2, e, (hn.keep (KeptIn.but hk (by omega) (Nat.le_refl _))).mono (Nat.le_refl _) hk.size, hs⟩
            · rintro i v W W' h1 h2 hk ⟨q, y2, p1, q1, p2, q2, e, hq, hc, hn, hs⟩
              refine ⟨q, y2, p1, q1, p2, q2, e, hq, fun j u hj => ?_, (hn.keep (KeptIn.but hk (by omega) (Nat.le_refl _))).mono (Nat.le_refl _) hk.size, hs⟩
              have hlt := World.block_lt_of_cell? W _ (hc j u hj)
              rw [hk.cell (p := ⟨q, 0 + j, none⟩) hlt (by show q ≠ g; omega)]; exact hc j u hj
          · intro L hL
            exact RC4.none R7.out.rs (hL 2)
          · refine .cons ?_ (.cons ?_ (.cons ?_ (.cons ?_ (.cons ?_ .nil))))
            all_goals (intro L A W hLi hC old nd)
            all_goals (refine RP.runs_none rfl ?_)
            · have e7 : (A.tmps[7]?).getD undef = .pointer (some ⟨w1.heap.size, 0, none⟩) := old 7 (by kernel_rfl)
              have x := X7.out.but hC.bt (by omega)
              exact RP.gives_row 51 (.tmp 7) rfl _ 0 (by simpa [Act.eval] using e7) [.slice a1 y.1.length c1, .slice a2 y.2.len c2] _ (x.range) Try.underlying51 rfl IF.out ⟨hC.same (by decide) (Below.refl _ _), But.refl _ _ _, rfl⟩
            · have e2 : (A.tmps[2]?).getD undef = .func (.func 94) #[.pointer (some ⟨g, 0, none⟩)] #[] := old 2 (by kernel_rfl)
              simp [RP.Oper.gives, RP.gives, go_sem, e2]
              exact ⟨hC.same (by decide) (Below.refl _ _), But.refl _ _ _, rfl⟩
            · have e19 : (A.tmps[19]?).getD undef = .func (.func 94) #[.pointer (some ⟨g, 0, none⟩)] #[] := nd.1
              have S := hC.rs
              rw [hLi] at S
              simp [RP.Oper.gives, RP.gives, go_sem, e19]
              refine (HCall.out W S).mono fun e W' h => ?_
              obtain ⟨BB, y2, p1, q1, p2, q2, rfl, hn, hs, S2⟩ := h
              refine ⟨_, rfl, ⟨hC.bt.trans BB, ?_⟩, BB, ⟨y2, p1, q1, p2, q2, rfl, hn.mono hC.bt.size (Nat.le_refl _), hs⟩⟩
              rw [RP.also_self]; exact S2
            · obtain ⟨e18, ⟨y2, p1, q1, p2, q2, e20, hn, hs⟩, _⟩ := nd
              replace e18 : (A.tmps[18]?).getD undef = .agg #[.slice a1 y.1.length c1, .slice a2 y.2.len c2] := e18
              replace e20 : (A.tmps[20]?).getD undef = .agg #[.slice p1 y2.1.length q1, .slice p2 y2.2.len q2] := e20
              simp [RP.Oper.gives, RP.gives, go_sem, e18, e20]
              have bb : Below W.heap.size W (W.alloc (Obj.cells #[.slice a1 y.1.length c1, .slice a2 y.2.len c2, .slice p1 y2.1.length q1, .slice p2 y2.2.len q2] 51)) := (Below.refl _ _).alloc (Nat.le_refl _) _
              refine ⟨hC.same (by decide) bb, ButP.of bb, ⟨W.heap.size, y2, p1, q1, p2, q2, rfl, hC.bt.size, fun j u hj => ?_, (hn.keep (KeptIn.below bb (Nat.le_refl _) _)).mono (Nat.le_refl _) bb.size, hs⟩⟩
              rw [World.cell?_alloc_new, Nat.zero_add]; simpa using hj
            · have e8 : (A.tmps[8]?).getD undef = .pointer (some ⟨w6.heap.size, 0, none⟩) := old 8 (by kernel_rfl)
              simp [RP.Oper.gives, RP.gives, go_sem, e8]
              exact ⟨hC.same (by decide) (Below.refl _ _), But.refl _ _ _, rfl⟩
          · intro L W hall hC E hE
            refine .cons fun v1 h1 => .cons fun v2 h2 => .cons fun v3 h3 => .cons fun v4 h4 => .cons fun v5 h5 => .nil ?_
            obtain ⟨q, y2, p1, q1, p2, q2, rfl, hq, hc, hn, hs⟩ := h4
            subst h5
            clear h1 h2 h3
            have S8 := hC.rs
            rw [hall 2 (by decide)] at S8
            have hW := hC.bt.size
            have R8 := hide (R7.out.but hgw hC.bt S8)
            have X8 := hide (X7.out.but hC.bt (by omega))
            have M8 := hide (M7.out.but hC.bt (by omega))
            have hk8 : KeptIn (KC w.heap.size w1.heap.size w6) W7 W := KeptIn.butK hC.bt (fun k => by have := k.1; omega) (fun _ k => by have := k.2.2; omega)
            have N8 := hide (N7.out.keep hk8)
            have N8t := hide (N7t.out.keep hk8)
            have N8y := hide hn
            have HS2 := hide hs
            have HC8 := hide hc
            have x1 := M8.out.c1
            have u1 := M8.out.f1
            have hml := M8.out.lt
            have hwm : w.heap.size < w6.heap.size := by omega
            clear hk8 S8 hn hs hc R7 X7 M7 N7 N7t hC
            simp only [Act.put, List.setIfInBounds_toArray, List.set_cons_zero, List.set_cons_succ]
            refine hE _ ?_
            simp [RP.Oper.gives, RP.gives, go_sem, x1, u1]
            obtain ⟨W9, hW9⟩ : ∃ x, x = W.setCell ⟨w6.heap.size, 1, none⟩ (.slice (some ⟨q, 0, none⟩) 2 2) := ⟨_, rfl⟩
            have s9 : W9.heap.size = W.heap.size := by rw [hW9, size_set]
            have hk9 : ∀ (K : Nat → Prop), ¬ K w6.heap.size → KeptIn K W W9 := fun K hK => by rw [hW9]; exact KeptIn.setK hK
            have M9 : Hid (NB W9 w6.heap.size (.slice b1 1 d1) (.slice (some ⟨q, 0, none⟩) 2 2)) := by unfold Hid; rw [hW9]; exact M8.out.set1 _
            have R9 : Hid (RN w W9 w.heap.size g ao cap ts r3 sz (.slice none 0 0) (.slice none 0 0)) := by unfold Hid; rw [hW9]; exact R8.out.setO hwm (by omega) _
            have X9 : Hid (NB W9 w1.heap.size (.slice a1 y.1.length c1) (.slice a2 y.2.len c2)) := by unfold Hid; rw [hW9]; exact X8.out.other _ (by omega)
            rw [← hW9]
            clear hW9
            have hql : q < W.heap.size := World.block_lt_of_cell? W _ (HC8.out 0 _ rfl)
            have N9 : Hid (NA W9 (KC w.heap.size w1.heap.size W9) b1 (some ⟨q, 0, none⟩) ([t], .cons y.1 y.2 (.cons y2.1 y2.2 .nil))) := by
              have hnk : ¬ KC w.heap.size w1.heap.size w6 w6.heap.size := fun k => absurd k.2.2 (Nat.lt_irrefl _)
              have hsub : ∀ b, KC w.heap.size w1.heap.size w6 b → KC w.heap.size w1.heap.size W9 b := fun _ k => ⟨k.1, k.2.1, by have := k.2.2; omega⟩
              have hq9 : KeptIn (fun b => b = q) W W9 := hk9 _ (by show ¬ w6.heap.size = q; omega)
              refine ⟨(N8t.out.keep (hk9 _ hnk)).t.sub hsub, .inr ⟨q, rfl, ⟨by omega, by omega, by omega⟩, ?_⟩⟩
              refine FC.two (c1 := c1) (c2 := c2) (d1 := q1) (d2 := q2) (x := y) (y := y2) ((N8.out.keep (hk9 _ hnk)).sub hsub) ((N8y.out.keep (hk9 _ (fun k => by have := k.1; omega))).sub (fun b k => ⟨by have := k.1; omega, by have := k.1; omega, by have := k.2; omega⟩)) ?_ ?_ ?_ ?_
              · exact hq9.cell rfl (HC8.out 0 _ rfl)
              · exact hq9.cell rfl (HC8.out 1 _ rfl)
              · exact hq9.cell rfl (HC8.out 2 _ rfl)
              · exact hq9.cell rfl (HC8.out 3 _ rfl)
            have HY9 : Hid (ShF ([t], .cons y.1 y.2 (.cons y2.1 y2.2 .nil)) (.both w_and_ a f2)) := ⟨t, y, y2, rfl, HK.out, HTX.out, .inr rfl, hY.out, HS2.out⟩
            clear R8 X8 M8 N8 N8t N8y HS2 HC8 hk9 hY hql hq
            have z0 := M9.out.c0
            have z1 := M9.out.c1
            have zl := M9.out.lt
            have x0 := X9.out.c0
            have x1 := X9.out.c1
            have y0 := X9.out.f0
            have y1 := X9.out.f1
            have xl := X9.out.lt
            have RF := hide (R9.out.putO (m1 := w1.heap.size) (by omega) hm1g (.slice b1 1 d1) (.slice (some ⟨q, 0, none⟩) 2 2))
            have XF := hide (X9.out.put (.slice b1 1 d1) (.slice (some ⟨q, 0, none⟩) 2 2))
            have NF : Hid (NA (putN W9 w1.heap.size (.slice b1 1 d1) (.slice (some ⟨q, 0, none⟩) 2 2)) (KC w.heap.size w1.heap.size (putN W9 w1.heap.size (.slice b1 1 d1) (.slice (some ⟨q, 0, none⟩) 2 2))) b1 (some ⟨q, 0, none⟩) ([t], .cons y.1 y.2 (.cons y2.1 y2.2 .nil))) :=
              (N9.out.keep (putN_keptK (fun k => absurd rfl k.2.1))).sub (KC.grow (by rw [putN_size]; exact Nat.le_refl _))
            unfold putN at RF XF NF
            clear N9 R9 X9 M9
            go_wp2_with fail
            exact ⟨⟨m', .both w_and_ a f2, r3, ([t], .cons y.1 y.2 (.cons y2.1 y2.2 .nil)), b1, d1, some ⟨q, 0, none⟩, 2, hmn, hf3, HR2, HY9, RF, XF, NF⟩, by rw [hrl.out, RF.out.rs.left]; exact hl3⟩

set_option maxHeartbeats 4000000 in
set_option maxRecDepth 100000 in
theorem chain_for (n : Nat) (IH : ∀ m, m ≤ n → TerT m) (g : Nat) (ao : Option Addr) (cap : Nat) (ts r : List Tk) (sz : Nat) (w : World) (h : RS w g ao cap ts r sz) (ht : TokOk ts) (hl : ts.length < 4294967281) (hf : 3 * r.length + 2 ≤ n) :
    Calls Try.prog 92 #[.pointer (some ⟨g, 0, none⟩), .string ⟨#[111, 114]⟩, .func (.func 93) #[.pointer (some ⟨g, 0, none⟩)] #[]] w fun e w' => OutG ShF (forF (n + 1) r) g ao cap ts sz w e w' := by
  have IHh := hide IH
  have HL := hide hl
  have HT := hide ht
  have HE : Hid (forF (n + 1) r = (terF n r).then (forL n)) := forF_succ n r
  have HFu := hide hf
  have hgw := h.lt
  have R0 := hide (RN.new h (.slice none 0 0) (.slice none 0 0) 51)
  clear h hf hl ht IH
  go_enter Try.func92, Try.ntmps92
  go_upto_region 1 with fail
  obtain ⟨W0, hW0⟩ : ∃ x, x = w.alloc (Obj.cells #[.slice none 0 0, .slice none 0 0] 51) := ⟨_, rfl⟩
  rw [← hW0] at R0 ⊢
  have hs0 : W0.heap.size = w.heap.size + 1 := by rw [hW0]; simp
  clear hW0
  go_wp2_with fail
  refine (IHh.out n (Nat.le_refl _) g ao cap ts r sz W0 R0.out.rs HT.out HL.out HFu.out).mono ?_
  rintro e w1 ⟨B1, h1⟩
  have hs1 := B1.size
  cases hx : terF n r with
  | bad r' =>
    rw [hx] at h1
    obtain ⟨rfl, S1⟩ := h1
    have R1 := hide (R0.out.but hgw B1 S1)
    have HX : Hid (forF (n + 1) r = .bad r') := by unfold Hid; rw [HE.out, hx]; rfl
    clear hx B1 S1 R0 HE
    go_wp2_with fail
    exact ⟨rfl, OutG.isBad HX.out R1.out.bt R1.out.rs⟩
  | ok a r' =>
    rw [hx] at h1
    obtain ⟨y, a1, c1, a2, c2, rfl, N1, hy, S1⟩ := h1
    have R1 := hide (R0.out.but hgw B1 S1)
    have hsh := (short_all n).2.1 _ _ _ hx
    have HY := hide hy
    have N1 := hide N1
    have HE2 : Hid (forF (n + 1) r = forL n a r') := by unfold Hid; rw [HE.out, hx]; rfl
    have hfu := HFu.out
    obtain ⟨n', rfl⟩ : ∃ k, n = k + 1 := ⟨n - 1, by omega⟩
    have HF2 : Hid (3 * r'.length + 2 ≤ n') := by unfold Hid; omega
    clear hx B1 S1 R0 HE hy hsh hfu HFu
    go_wp2_with fail
    obtain ⟨W2, hW2⟩ : ∃ x, x = w1.alloc (Obj.cells #[.slice a1 y.1.length c1, .slice a2 y.2.len c2] 51) := ⟨_, rfl⟩
    have R2 : Hid (RN w W2 w.heap.size g ao cap ts r' sz (.slice none 0 0) (.slice none 0 0)) := by unfold Hid; rw [hW2]; exact R1.out.alloc _
    have X2 : Hid (NB W2 w1.heap.size (.slice a1 y.1.length c1) (.slice a2 y.2.len c2)) := by unfold Hid; rw [hW2]; exact NB.new _ _ _ _
    have N2 : Hid (NA W2 (KC w.heap.size w1.heap.size W2) a1 a2 y) := by
      unfold Hid; rw [hW2]
      exact (N1.out.keep (KeptIn.below ((Below.refl _ _).alloc (Nat.le_refl _) _) (Nat.le_refl _) _)).sub (fun b k => ⟨by have := k.1; omega, by have := k.2; omega, by have := k.2; simp; omega⟩)
    rw [← hW2]
    have hm1 : w.heap.size < w1.heap.size := by omega
    clear hW2 R1 N1
    go_loopw [] (fun W => ∃ (m : Nat) (a : Fm) (r' : List Tk) (y : Nd) (a1 : Option Addr) (c1 : Nat) (a2 : Option Addr) (c2 : Nat), m ≤ n' ∧ 3 * r'.length + 2 ≤ m ∧ Hid (forF (n' + 1 + 1) r = forL (m + 1) a r') ∧ Hid (ShF y a) ∧
      Hid (RN w W w.heap.size g ao cap ts r' sz (.slice none 0 0) (.slice none 0 0)) ∧ Hid (NB W w1.heap.size (.slice a1 y.1.length c1) (.slice a2 y.2.len c2)) ∧ Hid (NA W (KC w.heap.size w1.heap.size W) a1 a2 y)) (fun W => leftR W g ts.length)
    case atStart => exact ⟨n', a, r', y, a1, c1, a2, c2, Nat.le_refl _, HF2.out, HE2, HY, R2, X2, N2⟩
    case round =>
      obtain ⟨m, a, r', y, a1, c1, a2, c2, hm, hfm, hE, hY, hR, hX, hN⟩ := hrel
      clear HE2 HY R2 X2 N2 HF2
      have hrl : Hid (leftR wr g ts.length = r'.length) := hR.out.rs.left
      cases hq : isT w_or_ r' with
      | false =>
        have HR : Hid (forF (n' + 1 + 1) r = .ok a r') := by unfold Hid; rw [hE.out, forL_succ, if_neg (by simp [hq])]
        have HSe : Hid (∀ W, RS W g ao cap ts r' sz → Calls Try.prog 85 #[.pointer (some ⟨g, 0, none⟩), .string ⟨#[111, 114]⟩] W fun e w' => e = .returned (.bool false) ∧ Below W.heap.size W w') := fun W a => by
          have := sees_any w_or_ g ao cap ts r' sz W a; rwa [fitT_lit (by decide), hq] at this
        clear hE hq
        go_wp2_with fail
        refine (HSe.out _ hR.out.rs).mono ?_
        rintro e w4 ⟨rfl, b4⟩
        have R4 := hide (hR.out.below b4)
        have X4 := hide (hX.out.below b4)
        have N4 := hide (hN.out.belowC b4)
        clear b4 hR hX hN HSe
        have x0 := X4.out.c0
        have x1 := X4.out.c1
        have hxl := X4.out.lt
        have z0 := R4.out.nb.c0
        have z1 := R4.out.nb.c1
        have u0 := R4.out.nb.f0
        have u1 := R4.out.nb.f1
        have hzl := R4.out.nb.lt
        have NF := hide (R4.out.nb.put (.slice a1 y.1.length c1) (.slice a2 y.2.len c2))
        have HO := hide (R4.out.outK (Sh := ShF) (c1 := c1) (c2 := c2) hgw HR.out N4.out (fun b k => ⟨by have := k.1; omega, k.2.2, by have := k.1; omega⟩) hY.out)
        unfold putN at NF HO
        clear hY R4 N4 X4 HR
        go_wp2_with fail
        refine bodyPost_ret (v := .agg #[.slice a1 y.1.length c1, .slice a2 y.2.len c2]) ?_ rfl ?_
        · exact resReadChain NF.out rfl
        · exact HO.out
      | true =>
        obtain ⟨t, hr', hk, htx, htk⟩ := take_one (by decide) (by decide) (hR.out.rs.tok HT.out) hq
        have HR : Hid (forF (n' + 1 + 1) r = (terF m r'.tail).then fun b r => forL m (.both w_or_ a b) r) := by unfold Hid; rw [hE.out, forL_succ, if_pos hq]
        have hlen := isT_len hq
        have HK := hide hk
        have HTX := hide htx
        have HTK := hide htk
        have HSe : Hid (∀ W, RS W g ao cap ts r' sz → Calls Try.prog 85 #[.pointer (some ⟨g, 0, none⟩), .string ⟨#[111, 114]⟩] W fun e w' => e = .returned (.bool true) ∧ Below W.heap.size W w') := fun W a => by
          have := sees_any w_or_ g ao cap ts r' sz W a; rwa [fitT_lit (by decide), hq] at this
        clear hE hq hr' hk htx htk
        go_wp2_with fail
        refine (HSe.out _ hR.out.rs).mono ?_
        rintro e w4 ⟨rfl, b4⟩
        have R4 := hide (hR.out.below b4)
        have X4 := hide (hX.out.below b4)
        have N4 := hide (hN.out.belowC b4)
        clear b4 hR hX hN HSe
        go_wp2_with fail
        have R5 := hide (fun o => R4.out.alloc o)
        have X5 := hide (fun o => X4.out.below ((Below.refl w4.heap.size w4).alloc (Nat.le_refl _) o))
        have N5 := hide (fun o => N4.out.belowC ((Below.refl w4.heap.size w4).alloc (Nat.le_refl _) o))
        have hzl := R4.out.nb.lt
        refine (leaf_any [w_or_] w4.heap.size g ao cap ts r' sz _ (R5.out _).rs (lits_new w4 [w_or_] 9) (by omega) (by simp) (by decide) HL.out).mono ?_
        rintro e w6 ⟨B6, h6⟩
        rw [HTK.out] at h6
        obtain ⟨yt, b1, d1, b2, d2, he, N6t, hyt, S6⟩ := h6
        subst hyt
        replace he : e = .returned (.agg #[.slice b1 1 d1, .slice b2 0 d2]) := he
        subst he
        have hs6 := B6.size
        have R6 := hide ((R5.out _).but hgw B6 S6)
        have X6 := hide ((X5.out _).but B6 (by omega))
        have N6 := hide ((N5.out _).butC hgw B6)
        have N6t := hide N6t
        have hs5 : w4.heap.size + 1 ≤ w6.heap.size := by simpa using hs6
        have hx4 := X4.out.lt
        clear R4 X4 N4 R5 X5 N5 B6 S6 hs6
        go_upto_region 4 with fail
        obtain ⟨W7, hW7⟩ : ∃ x, x = w6.alloc (Obj.cells #[.slice b1 1 d1, .slice b2 0 d2] 51) := ⟨_, rfl⟩
        have b7 : Below w6.heap.size w6 W7 := by rw [hW7]; exact (Below.refl _ _).alloc (Nat.le_refl _) _
        have M7 : Hid (NB W7 w6.heap.size (.slice b1 1 d1) (.slice b2 0 d2)) := by unfold Hid; rw [hW7]; exact NB.new _ _ _ _
        have R7 := hide (R6.out.below b7)
        have X7 := hide (X6.out.below b7)
        have N7 : Hid (NA W7 (KC w.heap.size w1.heap.size w6) a1 a2 y) := N6.out.keep (KeptIn.belowK b7 fun _ k => k.2.2)
        have N7t : Hid (NA W7 (KC w.heap.size w1.heap.size w6) b1 b2 ([t], .nil)) := by
          unfold Hid
          exact (N6t.out.keep (KeptIn.below b7 (Nat.le_refl _) _)).sub (fun b k => by
            have h1 : w4.heap.size + 1 ≤ b := by simpa using k.1
            have h2 := k.2
            exact ⟨by omega, by omega, by omega⟩)
        rw [← hW7]
        clear hW7 b7 R6 X6 N6 N6t
        have hx7 := X7.out.lt
        have hm7 := M7.out.lt
        have hm1g : g < w1.heap.size := by omega
        have hm6g : g < w6.heap.size := by omega
        have hm61 : w6.heap.size ≠ w1.heap.size := by omega
        have HFm : Hid (3 * r'.tail.length + 2 ≤ m) := by unfold Hid; omega
        have IF : Hid ((Try.prog.info? 51).map (·.size) = some 2) := by unfold Hid; kernel_rfl
        cases hx : terF m r'.tail with
        | bad r3 =>
          have HX : Hid (forF (n' + 1 + 1) r = .bad r3) := by unfold Hid; rw [HR.out, hx]; rfl
          have HCall : Hid (∀ W, RS W g ao cap ts r'.tail sz → Calls Try.prog 93 #[.pointer (some ⟨g, 0, none⟩)] W fun e w' => ButP g W w' ∧ e = .panicked stuckE ∧ RS w' g ao cap ts r3 sz) := fun W a => by
            have := IHh.out m (by omega) g ao cap ts r'.tail sz W a HT.out HL.out HFm.out; rw [hx] at this; exact this
          clear hx HR
          refine RP.wp_region_posts_last (X := fun ch W => ch = stuckE ∧ ButP g W7 W ∧ RS W g ao cap ts r3 sz) (l := [_, _, _, _, _]) (ol := _) rfl (by kernel_rfl) (RC4 W7 g ao cap ts r'.tail r'.tail sz 2) (fun _ W W' => ButP g W W')
            [some 18, some 19, some 20, some 21, some 22] [[], [], [1], [0, 2], [], [0, 1, 2, 3, 4]]
            [fun v _ => v = .agg #[.slice a1 y.1.length c1, .slice a2 y.2.len c2], fun v _ => v = .func (.func 93) #[.pointer (some ⟨g, 0, none⟩)] #[], fun _ _ => False, fun _ _ => False, fun v _ => v = .pointer (some ⟨w6.heap.size, 1, none⟩)]
            ?_ rfl (by kernel_rfl) (by kernel_rfl) (by kernel_rfl) (by kernel_rfl) (by kernel_rfl) rfl rfl ?_ ?_ ?_ ?_
          · intro ch A W hs hd ho hx
            obtain ⟨rfl, BW, SW⟩ := hx
            exact And.intro hd (OutG.isBad HX.out (R7.out.bt.trans BW) SW)
          · exact .eq (.eq (.cons (fun _ _ _ _ _ _ _ h => h) (.cons (fun _ _ _ _ _ _ _ h => h) (.eq .nil))))
          · intro L hL
            exact RC4.none R7.out.rs (hL 2)
          · refine .cons ?_ (.cons ?_ (.cons ?_ (.cons ?_ (.cons ?_ .nil))))
            all_goals (intro L A W hLi hC old nd)
            all_goals (refine RP.runs_none rfl ?_)
            · have e7 : (A.tmps[7]?).getD undef = .pointer (some ⟨w1.heap.size, 0, none⟩) := old 7 (by kernel_rfl)
              have x := X7.out.but hC.bt (by omega)
              exact RP.gives_row 51 (.tmp 7) rfl _ 0 (by simpa [Act.eval] using e7) [.slice a1 y.1.length c1, .slice a2 y.2.len c2] _ (x.range) Try.underlying51 rfl IF.out ⟨hC.same (by decide) (Below.refl _ _), But.refl _ _ _, rfl⟩
            · have e2 : (A.tmps[2]?).getD undef = .func (.func 93) #[.pointer (some ⟨g, 0, none⟩)] #[] := old 2 (by kernel_rfl)
              simp [RP.Oper.gives, RP.gives, go_sem, e2]
              exact ⟨hC.same (by decide) (Below.refl _ _), But.refl _ _ _, rfl⟩
            · have e19 : (A.tmps[19]?).getD undef = .func (.func 93) #[.pointer (some ⟨g, 0, none⟩)] #[] := nd.1
              have S := hC.rs
              rw [hLi] at S
              simp [RP.Oper.gives, RP.gives, go_sem, e19]
              refine (HCall.out W S).mono fun e W' h => ?_
              exact ⟨_, h.2.1, rfl, hC.bt.trans h.1, h.2.2⟩
            · exact nd.2.1.elim
            · have e8 : (A.tmps[8]?).getD undef = .pointer (some ⟨w6.heap.size, 0, none⟩) := old 8 (by kernel_rfl)
              simp [RP.Oper.gives, RP.gives, go_sem, e8]
              exact ⟨hC.same (by decide) (Below.refl _ _), But.refl _ _ _, rfl⟩
          · intro L W hall hC E hE
            exact .cons fun v1 h1 => .cons fun v2 h2 => .cons fun v3 h3 => h3.elim
        | ok f2 r3 =>
          have hsh := (short_all m).2.1 _ _ _ hx
          have HCall : Hid (∀ W, RS W g ao cap ts r'.tail sz → Calls Try.prog 93 #[.pointer (some ⟨g, 0, none⟩)] W fun e w' => ButP g W w' ∧ ∃ (y2 : Nd) (p1 : Option Addr) (q1 : Nat) (p2 : Option Addr) (q2 : Nat), e = .returned (.agg #[.slice p1 y2.1.length q1, .slice p2 y2.2.len q2]) ∧ NA w' (In W.heap.size w'.heap.size) p1 p2 y2 ∧ ShF y2 f2 ∧ RS w' g ao cap ts r3 sz) := fun W a => by
            have := IHh.out m (by omega) g ao cap ts r'.tail sz W a HT.out HL.out HFm.out; rw [hx] at this; exact this
          obtain ⟨m', rfl⟩ : ∃ k, m = k + 1 := ⟨m - 1, by omega⟩
          have HR2 : Hid (forF (n' + 1 + 1) r = forL (m' + 1) (.both w_or_ a f2) r3) := by unfold Hid; rw [HR.out, hx]; rfl
          have hf3 : 3 * r3.length + 2 ≤ m' := by omega
          have hl3 : r3.length < r'.length := by omega
          have hmn : m' ≤ n' := by omega
          clear hx HR hsh HFm hfm hlen hm
          refine RP.wp_region_posts_last (X := fun _ _ => False) (l := [_, _, _, _, _]) (ol := _) rfl (by kernel_rfl) (RC4 W7 g ao cap ts r'.tail r3 sz 2) (fun _ W W' => ButP g W W')
            [some 18, some 19, some 20, some 21, some 22] [[], [], [1], [0, 2], [], [0, 1, 2, 3, 4]]
            [fun v _ => v = .agg #[.slice a1 y.1.length c1, .slice a2 y.2.len c2], fun v _ => v = .func (.func 93) #[.pointer (some ⟨g, 0, none⟩)] #[],
             fun v W => LinkP W7.heap.size f2 v W, fun v W => PairP W7.heap.size (.slice a1 y.1.length c1) (.slice a2 y.2.len c2) f2 v W,
             fun v _ => v = .pointer (some ⟨w6.heap.size, 1, none⟩)]
            (fun _ _ _ _ _ _ h => h.elim) rfl (by kernel_rfl) (by kernel_rfl) (by kernel_rfl) (by kernel_rfl) (by kernel_rfl) rfl rfl ?_ ?_ ?_ ?_
          · refine .eq (.eq (.cons ?_ (.cons ?_ (.eq .nil))))
            · rintro i v W W' h1 h2 hk ⟨y2, p1, q1, p2, q2, e, hn, hs⟩
              exact ⟨y2, p1, q1, p2, q2, e, (hn.keep (KeptIn.but hk (by omega) (Nat.le_refl _))).mono (Nat.le_refl _) hk.size, hs⟩
            · rintro i v W W' h1 h2 hk ⟨q, y2, p1, q1, p2, q2, e, hq, hc, hn, hs⟩
              refine ⟨q, y2, p1, q1, p2, q2, e, hq, fun j u hj => ?_, (hn.keep (KeptIn.but hk (by omega) (Nat.le_refl _))).mono (Nat.le_refl _) hk.size, hs⟩
              have hlt := World.block_lt_of_cell? W _ (hc j u hj)
              rw [hk.cell (p := ⟨q, 0 + j, none⟩) hlt (by show q ≠ g; omega)]; exact hc j u hj
          · intro L hL
            exact RC4.none R7.out.rs (hL 2)
          · refine .cons ?_ (.cons ?_ (.cons ?_ (.cons ?_ (.cons ?_ .nil))))
            all_goals (intro L A W hLi hC old nd)
            all_goals (refine RP.runs_none rfl ?_)
            · have e7 : (A.tmps[7]?).getD undef = .pointer (some ⟨w1.heap.size, 0, none⟩) := old 7 (by kernel_rfl)
              have x := X7.out.but hC.bt (by omega)
              exact RP.gives_row 51 (.tmp 7) rfl _ 0 (by simpa [Act.eval] using e7) [.slice a1 y.1.length c1, .slice a2 y.2.len c2] _ (x.range) Try.underlying51 rfl IF.out ⟨hC.same (by decide) (Below.refl _ _), But.refl _ _ _, rfl⟩
            · have e2 : (A.tmps[2]?).getD undef = .func (.func 93) #[.pointer (some ⟨g, 0, none⟩)] #[] := old 2 (by kernel_rfl)
              simp [RP.Oper.gives, RP.gives, go_sem, e2]
              exact ⟨hC.same (by decide) (Below.refl _ _), But.refl _ _ _, rfl⟩
            · have e19 : (A.tmps[19]?).getD undef = .func (.func 93) #[.pointer (some ⟨g, 0, none⟩)] #[] := nd.1
              have S := hC.rs
              rw [hLi] at S
              simp [RP.Oper.gives, RP.gives, go_sem, e19]
              refine (HCall.out W S).mono fun e W' h => ?_
              obtain ⟨BB, y2, p1, q1, p2, q2, rfl, hn, hs, S2⟩ := h
              refine ⟨_, rfl, ⟨hC.bt.trans BB, ?_⟩, BB, ⟨y2, p1, q1, p2, q2, rfl, hn.mono hC.bt.size (Nat.le_refl _), hs⟩⟩
              rw [RP.also_self]; exact S2
            · obtain ⟨e18, ⟨y2, p1, q1, p2, q2, e20, hn, hs⟩, _⟩ := nd
              replace e18 : (A.tmps[18]?).getD undef = .agg #[.slice a1 y.1.length c1, .slice a2 y.2.len c2] := e18
              replace e20 : (A.tmps[20]?).getD undef = .agg #[.slice p1 y2.1.length q1, .slice p2 y2.2.len q2] := e20
              simp [RP.Oper.gives, RP.gives, go_sem, e18, e20]
              have bb : Below W.heap.size W (W.alloc (Obj.cells #[.slice a1 y.1.length c1, .slice a2 y.2.len c2, .slice p1 y2.1.length q1, .slice p2 y2.2.len q2] 51)) := (Below.refl _ _).alloc (Nat.le_refl _) _
              refine ⟨hC.same (by decide) bb, ButP.of bb, ⟨W.heap.size, y2, p1, q1, p2, q2, rfl, hC.bt.size, fun j u hj => ?_, (hn.keep (KeptIn.below bb (Nat.le_refl _) _)).mono (Nat.le_refl _) bb.size, hs⟩⟩
              rw [World.cell?_alloc_new, Nat.zero_add]; simpa using hj
            · have e8 : (A.tmps[8]?).getD undef = .pointer (some ⟨w6.heap.size, 0, none⟩) := old 8 (by kernel_rfl)
              simp [RP.Oper.gives, RP.gives, go_sem, e8]
              exact ⟨hC.same (by decide) (Below.refl _ _), But.refl _ _ _, rfl⟩
          · intro L W hall hC E hE
            refine .cons fun v1 h1 => .cons fun v2 h2 => .cons fun v3 h3 => .cons fun v4 h4 => .cons fun v5 h5 => .nil ?_
            obtain ⟨q, y2, p1, q1, p2, q2, rfl, hq, hc, hn, hs⟩ := h4
            subst h5
            clear h1 h2 h3
            have S8 := hC.rs
            rw [hall 2 (by decide)] at S8
            have hW := hC.bt.size
            have R8 := hide (R7.out.but hgw hC.bt S8)
            have X8 := hide (X7.out.but hC.bt (by omega))
            have M8 := hide (M7.out.but hC.bt (by omega))
            have hk8 : KeptIn (KC w.heap.size w1.heap.size w6) W7 W := KeptIn.butK hC.bt (fun k => by have := k.1; omega) (fun _ k => by have := k.2.2; omega)
            have N8 := hide (N7.out.keep hk8)
            have N8t := hide (N7t.out.keep hk8)
            have N8y := hide hn
            have HS2 := hide hs
            have HC8 := hide hc
            have x1 := M8.out.c1
            have u1 := M8.out.f1
            have hml := M8.out.lt
            have hwm : w.heap.size < w6.heap.size := by omega
            clear hk8 S8 hn hs hc R7 X7 M7 N7 N7t hC
            simp only [Act.put, List.setIfInBounds_toArray, List.set_cons_zero, List.set_cons_succ]
            refine hE _ ?_
            simp [RP.Oper.gives, RP.gives, go_sem, x1, u1]
            obtain ⟨W9, hW9⟩ : ∃ x, x = W.setCell ⟨w6.heap.size, 1, none⟩ (.slice (some ⟨q, 0, none⟩) 2 2) := ⟨_, rfl⟩
            have s9 : W9.heap.size = W.heap.size := by rw [hW9, size_set]
            have hk9 : ∀ (K : Nat → Prop), ¬ K w6.heap.size → KeptIn K W W9 := fun K hK => by rw [hW9]; exact KeptIn.setK hK
            have M9 : Hid (NB W9 w6.heap.size (.slice b1 1 d1) (.slice (some ⟨q, 0, none⟩) 2 2)) := by unfold Hid; rw [hW9]; exact M8.out.set1 _
            have R9 : Hid (RN w W9 w.heap.size g ao cap ts r3 sz (.slice none 0 0) (.slice none 0 0)) := by unfold Hid; rw [hW9]; exact R8.out.setO hwm (by omega) _
            have X9 : Hid (NB W9 w1.heap.size (.slice a1 y.1.length c1) (.slice a2 y.2.len c2)) := by unfold Hid; rw [hW9]; exact X8.out.other _ (by omega)
            rw [← hW9]
            clear hW9
            have hql : q < W.heap.size := World.block_lt_of_cell? W _ (HC8.out 0 _ rfl)
            have N9 : Hid (NA W9 (KC w.heap.size w1.heap.size W9) b1 (some ⟨q, 0, none⟩) ([t], .cons y.1 y.2 (.cons y2.1 y2.2 .nil))) := by
              have hnk : ¬ KC w.heap.size w1.heap.size w6 w6.heap.size := fun k => absurd k.2.2 (Nat.lt_irrefl _)
              have hsub : ∀ b, KC w.heap.size w1.heap.size w6 b → KC w.heap.size w1.heap.size W9 b := fun _ k => ⟨k.1, k.2.1, by have := k.2.2; omega⟩
              have hq9 : KeptIn (fun b => b = q) W W9 := hk9 _ (by show ¬ w6.heap.size = q; omega)
              refine ⟨(N8t.out.keep (hk9 _ hnk)).t.sub hsub, .inr ⟨q, rfl, ⟨by omega, by omega, by omega⟩, ?_⟩⟩
              refine FC.two (c1 := c1) (c2 := c2) (d1 := q1) (d2 := q2) (x := y) (y := y2) ((N8.out.keep (hk9 _ hnk)).sub hsub) ((N8y.out.keep (hk9 _ (fun k => by have := k.1; omega))).sub (fun b k => ⟨by have := k.1; omega, by have := k.1; omega, by have := k.2; omega⟩)) ?_ ?_ ?_ ?_
              · exact hq9.cell rfl (HC8.out 0 _ rfl)
              · exact hq9.cell rfl (HC8.out 1 _ rfl)
              · exact hq9.cell rfl (HC8.out 2 _ rfl)
              · exact hq9.cell rfl (HC8.out 3 _ rfl)
            have HY9 : Hid (ShF ([t], .cons y.1 y.2 (.cons y2.1 y2.2 .nil)) (.both w_or_ a f2)) := ⟨t, y, y2, rfl, HK.out, HTX.out, .inl rfl, hY.out, HS2.out⟩
            clear R8 X8 M8 N8 N8t N8y HS2 HC8 hk9 hY hql hq
            have z0 := M9.out.c0
            have z1 := M9.out.c1
            have zl := M9.out.lt
            have x0 := X9.out.c0
            have x1 := X9.out.c1
            have y0 := X9.out.f0
            have y1 := X9.out.f1
            have xl := X9.out.lt
            have RF := hide (R9.out.putO (m1 := w1.heap.size) (by omega) hm1g (.slice b1 1 d1) (.slice (some ⟨q, 0, none⟩) 2 2))
            have XF := hide (X9.out.put (.slice b1 1 d1) (.slice (some ⟨q, 0, none⟩) 2 2))
            have NF : Hid (NA (putN W9 w1.heap.size (.slice b1 1 d1) (.slice (some ⟨q, 0, none⟩) 2 2)) (KC w.heap.size w1.heap.size (putN W9 w1.heap.size (.slice b1 1 d1) (.slice (some ⟨q, 0, none⟩) 2 2))) b1 (some ⟨q, 0, none⟩) ([t], .cons y.1 y.2 (.cons y2.1 y2.2 .nil))) :=
              (N9.out.keep (putN_keptK (fun k => absurd rfl k.2.1))).sub (KC.grow (by rw [putN_size]; exact Nat.le_refl _))
            unfold putN at RF XF NF
            clear N9 R9 X9 M9
            go_wp2_with fail
            exact ⟨⟨m', .both w_or_ a f2, r3, ([t], .cons y.1 y.2 (.cons y2.1 y2.2 .nil)), b1, d1, some ⟨q, 0, none⟩, 2, hmn, hf3, HR2, HY9, RF, XF, NF⟩, by rw [hrl.out, RF.out.rs.left]; exact hl3⟩

set_option maxHeartbeats 2000000 in
set_option maxRecDepth 100000 in
theorem ter_stepT (n : Nat) (IH : ∀ m, m ≤ n → FacT m) : TerT (n + 1) := by
  intro g ao cap ts r sz w h ht hl hf
  have HC := hide (fun W (a : RS W g ao cap ts r sz) => chain_ter n IH g ao cap ts r sz W a ht hl (by omega))
  have hmf : ∀ (fn : Fn) (first cap : Array Value) (w : World), (Instr.makeFunc fn first cap).run Try.prog w = .ok (.func fn first cap) w := fun _ _ _ _ => rfl
  have hgw := h.lt
  have R0 := hide (RN.new h (.slice none 0 0) (.slice none 0 0) 51)
  clear h hf hl ht IH
  go_enter Try.func93, Try.ntmps93
  go_upto_region 1 with fail
  obtain ⟨W0, hW0⟩ : ∃ x, x = w.alloc (Obj.cells #[.slice none 0 0, .slice none 0 0] 51) := ⟨_, rfl⟩
  rw [← hW0] at R0 ⊢
  have hs0 : W0.heap.size = w.heap.size + 1 := by rw [hW0]; simp
  clear hW0
  go_wp2_with fail
  refine (HC.out _ R0.out.rs).mono ?_
  rintro e w1 ⟨B1, h1⟩
  have hs1 := B1.size
  cases hx : terF (n + 1) r with
  | bad r' =>
    rw [hx] at h1
    obtain ⟨rfl, S1⟩ := h1
    have R1 := hide (R0.out.but hgw B1 S1)
    have HX := hide hx
    clear hx B1 S1 R0 HC
    go_wp2_with fail
    exact ⟨rfl, OutG.isBad HX.out R1.out.bt R1.out.rs⟩
  | ok a r' =>
    rw [hx] at h1
    obtain ⟨y, a1, c1, a2, c2, rfl, N1, hy, S1⟩ := h1
    have R1 := hide (R0.out.but hgw B1 S1)
    have HO := hide (R1.out.out (Sh := ShF) (c1 := c1) (c2 := c2) hgw hx N1 (by omega) (by omega) hy)
    have x0 := R1.out.nb.c0
    have x1 := R1.out.nb.c1
    have y0 := R1.out.nb.f0
    have y1 := R1.out.nb.f1
    have hml := R1.out.nb.lt
    have NF := hide (R1.out.nb.put (.slice a1 y.1.length c1) (.slice a2 y.2.len c2))
    unfold putN at NF HO
    clear hx B1 S1 R0 HC N1 hy R1
    go_wp2_with fail
    refine bodyPost_ret (v := .agg #[.slice a1 y.1.length c1, .slice a2 y.2.len c2]) ?_ rfl ?_
    · exact resReadTer NF.out rfl
    · exact HO.out

set_option maxHeartbeats 2000000 in
set_option maxRecDepth 100000 in
theorem for_stepT (n : Nat) (IH : ∀ m, m ≤ n → TerT m) : ForT (n + 1) := by
  intro g ao cap ts r sz w h ht hl hf
  have HC := hide (fun W (a : RS W g ao cap ts r sz) => chain_for n IH g ao cap ts r sz W a ht hl (by omega))
  have hmf : ∀ (fn : Fn) (first cap : Array Value) (w : World), (Instr.makeFunc fn first cap).run Try.prog w = .ok (.func fn first cap) w := fun _ _ _ _ => rfl
  have hgw := h.lt
  have R0 := hide (RN.new h (.slice none 0 0) (.slice none 0 0) 51)
  clear h hf hl ht IH
  go_enter Try.func87, Try.ntmps87
  go_upto_region 1 with fail
  obtain ⟨W0, hW0⟩ : ∃ x, x = w.alloc (Obj.cells #[.slice none 0 0, .slice none 0 0] 51) := ⟨_, rfl⟩
  rw [← hW0] at R0 ⊢
  have hs0 : W0.heap.size = w.heap.size + 1 := by rw [hW0]; simp
  clear hW0
  go_wp2_with fail
  refine (HC.out _ R0.out.rs).mono ?_
  rintro e w1 ⟨B1, h1⟩
  have hs1 := B1.size
  cases hx : forF (n + 1) r with
  | bad r' =>
    rw [hx] at h1
    obtain ⟨rfl, S1⟩ := h1
    have R1 := hide (R0.out.but hgw B1 S1)
    have HX := hide hx
    clear hx B1 S1 R0 HC
    go_wp2_with fail
    exact ⟨rfl, OutG.isBad HX.out R1.out.bt R1.out.rs⟩
  | ok a r' =>
    rw [hx] at h1
    obtain ⟨y, a1, c1, a2, c2, rfl, N1, hy, S1⟩ := h1
    have R1 := hide (R0.out.but hgw B1 S1)
    have HO := hide (R1.out.out (Sh := ShF) (c1 := c1) (c2 := c2) hgw hx N1 (by omega) (by omega) hy)
    have x0 := R1.out.nb.c0
    have x1 := R1.out.nb.c1
    have y0 := R1.out.nb.f0
    have y1 := R1.out.nb.f1
    have hml := R1.out.nb.lt
    have NF := hide (R1.out.nb.put (.slice a1 y.1.length c1) (.slice a2 y.2.len c2))
    unfold putN at NF HO
    clear hx B1 S1 R0 HC N1 hy R1
    go_wp2_with fail
    refine bodyPost_ret (v := .agg #[.slice a1 y.1.length c1, .slice a2 y.2.len c2]) ?_ rfl ?_
    · exact resReadFor NF.out rfl
    · exact HO.out
end Go.Proofs.Ytcmmjmgbanafgaa
