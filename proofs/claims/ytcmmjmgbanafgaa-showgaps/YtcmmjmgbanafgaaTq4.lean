/- The walks over tree.reader's take, leaf. -/
import Derived.Test.YtcmmjmgbanafgaaTq3b
import Derived.Test.YtcmmjmgbanafgaaRows5
import Derived.Test.YtcmmjmgbanafgaaLx5
namespace Go.Proofs.Url
open Syn
theorem takesR_nilq (w : List UInt8) (ws : List (List UInt8)) : takesR (w :: ws) [] = .bad [] := rfl
theorem takesR_no {w : List UInt8} (ws : List (List UInt8)) {r : List Tk} (h : fitT w r = false) : takesR (w :: ws) r = .bad r := by
  cases r with
  | nil => rfl
  | cons t r => rw [takesR_cons]; have : fitS t w = false := h; rw [this]; rfl
theorem takesR_yes {w : List UInt8} (ws : List (List UInt8)) {r : List Tk} (h : fitT w r = true) : ∃ t r', r = t :: r' ∧ takesR (w :: ws) r = (takesR ws r').map (fun l => if t.kind = 4 then l else t :: l) := by
  cases r with
  | nil => cases h
  | cons t r => refine ⟨t, r, rfl, ?_⟩; rw [takesR_cons]; have : fitS t w = true := h; rw [this]; rfl
theorem map_mapq {α β γ : Type} (x : Rd α) (f : α → β) (h : β → γ) : (x.map f).map h = x.map fun a => h (f a) := by cases x <;> rfl
theorem drop_getD {ws : List (List UInt8)} {k : Nat} (h : k < ws.length) : ws.drop k = ws.getD k [] :: ws.drop (k + 1) := by
  rw [List.drop_eq_getElem_cons h, List.getD_eq_getElem?_getD, List.getElem?_eq_getElem h]; rfl
theorem map_idq {α : Type} (x : Rd (List α)) : x.map (fun l => [] ++ l) = x := by cases x <;> rfl
end Go.Proofs.Url
namespace Go.Proofs.Ytcmmjmgbanafgaa
open Go.RowKit Go.Proofs.Url Go.Proofs.Url.Syn

theorem owns_TA {w : World} {base : Nat} {ao : Option Addr} {cap : Nat} {ts : List Tk} (h : w.ownsRow base 39 3 (.slice ao ts.length cap) ts.length (ts.flatMap tkCells)) : TA w (In base w.heap.size) ao ts := by
  intro k hk
  rcases h.2 with ⟨hv, h0⟩ | ⟨g', cap', cur, hv, hg, hh, hn, hm, hsz, htk⟩
  · omega
  · simp only [Value.slice.injEq, true_and] at hv
    obtain ⟨rfl, rfl⟩ := hv
    have hlt : g' < w.heap.size := by
      rcases Nat.lt_or_ge g' w.heap.size with h | h
      · exact h
      · rw [Array.getElem?_eq_none h] at hh; cases hh
    have hc : ∀ j v, j < 3 → (tkCells ts[k])[j]? = some v → w.cell? ⟨g', k * 3 + j, none⟩ = some v := by
      intro j v hj3 hj
      have hf := flat3t ts k hk j v hj
      have : (cur.toList.take (ts.length * 3))[k * 3 + j]? = (ts.flatMap tkCells)[k * 3 + j]? := by rw [htk]
      rw [List.getElem?_take, if_pos (by omega), hf] at this
      have e : w.cell? ⟨g', k * 3 + j, none⟩ = cur[k * 3 + j]? := by simp [World.cell?, hh]
      rw [e]; simpa using this
    exact ⟨g', rfl, ⟨hg, hlt⟩, hc 0 _ (by decide) rfl, hc 1 _ (by decide) rfl, hc 2 _ (by decide) rfl⟩
theorem ownsq_kept {w W : World} {base : Nat} {e : TypeId} {size : Nat} {v : Value} {n : Nat} {xs : List Value} (h : w.ownsRow base e size v n xs) (hk : KeptIn (In base w.heap.size) w W) : W.ownsRow base e size v n xs := by
  refine ⟨h.1, ?_⟩
  rcases h.2 with hn | ⟨k, cap, cur, hv, hb, hh, rest⟩
  · exact .inl hn
  · have hlt : k < w.heap.size := by
      rcases Nat.lt_or_ge k w.heap.size with h | h
      · exact h
      · rw [Array.getElem?_eq_none h] at hh; cases hh
    exact .inr ⟨k, cap, cur, hv, hb, by rw [hk k ⟨hb, hlt⟩]; exact hh, rest⟩
theorem LitsAt.butq {g : Nat} {W W' : World} {b : Nat} {l : List (List UInt8)} (h : LitsAt W b l) (hb : ButP g W W') (hn : b ≠ g) : LitsAt W' b l := by
  intro k hk
  have h1 := h k hk
  have hl := World.block_lt_of_cell? W _ h1
  rw [hb.cell (p := ⟨b, k, none⟩) hl hn]; exact h1
theorem RS.step {W : World} {g : Nat} {ao : Option Addr} {cap : Nat} {ts : List Tk} {t : Tk} {r : List Tk} {n : Nat} (h : RS W g ao cap ts (t :: r) n) {i : Nat} (hi : i < ts.length) (hd : ts.drop (i + 1) = r) (hb : RB W g (.slice ao ts.length cap) i n) :
    RS (W.setCell ⟨g, 1, none⟩ (.int .i64 ((i : Int) + 1))) g ao cap ts r n :=
  ⟨⟨i + 1, hi, hd, by have := hb.set1 (i + 1); simpa using this⟩, h.tk.keep ((Below.refl _ _).setCell (p := ⟨g, 1, none⟩) (Nat.le_refl _) _)⟩

set_option maxHeartbeats 4000000 in
set_option maxRecDepth 100000 in
theorem take_any (ws : List (List UInt8)) (lb : Nat) (g : Nat) (ao : Option Addr) (cap : Nat) (ts r : List Tk) (n : Nat) (w : World) (h : RS w g ao cap ts r n) (hL : LitsAt w lb ws) (hne : g < lb) (hlw : lb < w.heap.size) (hw1 : ws.length < 100) (hl : ts.length < 4294967281) :
    Calls Try.prog 84 #[.pointer (some ⟨g, 0, none⟩), .slice (some ⟨lb, 0, none⟩) ws.length ws.length] w fun e w' => OutK (takesR ws r) g ao cap ts n w e w' := by
  obtain ⟨i0, hi, hz0, hz1, hz2⟩ := info_parts infoT
  have HI := hide hi
  have HZ0 := hide hz0
  have HZ1 := hide hz1
  have HZ2 := hide hz2
  have HS := hide h
  have HLi := hide hL
  have HTl := hide hl
  have hgw := h.lt
  clear hi hz0 hz1 hz2 h hL hl
  go_enter Try.func84, Try.ntmps84
  go_wp2_with fail
  go_loopw [5, 11] (fun tv iv W => ∃ (k : Nat) (acc r' : List Tk) (a1 : Option Addr) (cv : Nat), k ≤ ws.length ∧ acc.length ≤ k ∧ iv = .int .i64 k ∧ tv = .slice a1 acc.length cv ∧ Hid (takesR ws r = (takesR (ws.drop k) r').map (fun l => acc ++ l)) ∧
      Hid (RS W g ao cap ts r' n) ∧ Hid (W.ownsRow w.heap.size 39 3 (.slice a1 acc.length cv) acc.length (acc.flatMap tkCells)) ∧ Hid (LitsAt W lb ws) ∧ Hid (ButP g w W)) (fun _ iv _ => ws.length - (intOf iv).toNat)
  case atStart => exact ⟨0, [], r, none, 0, Nat.zero_le _, Nat.le_refl _, rfl, rfl, by unfold Hid; rw [List.drop_zero, map_idq], HS, World.ownsRow_nil _ _ _ _, HLi, But.refl _ _ _⟩
  case round =>
    obtain ⟨k, acc, r', a1, cv, hk, hac, rfl, rfl, hE, hS, hO, hLi, hB⟩ := hrel
    by_cases hlt : k < ws.length
    · have hlI : (k : Int) < (ws.length : Int) := by omega
      have ck := hLi.out k hlt
      have hlb := World.block_lt_of_cell? wr _ ck
      have HD : Hid (ws.drop k = ws.getD k [] :: ws.drop (k + 1)) := drop_getD hlt
      generalize ws.getD k [] = wk at *
      have hgl := hS.out.lt
      cases hq : fitT wk r' with
      | false =>
        have HSe := hide (sees_any wk g ao cap ts r' n wr hS.out)
        rw [hq] at HSe
        have HR : Hid (takesR ws r = .bad r') := by unfold Hid; rw [hE.out, HD.out, takesR_no _ hq]; rfl
        clear hE HD hq
        go_wp2_with fail
        refine HSe.out.mono ?_
        rintro e w1 ⟨rfl, hb1⟩
        have S1 := hide (hS.out.keep hb1)
        have B1 := hide (hB.out.trans (ButP.of hb1))
        clear hb1 hS hB HSe hO hLi
        go_wp2_with fail
        refine ⟨rfl, ?_⟩
        rw [HR.out]
        exact ⟨B1.out, rfl, S1.out⟩
      | true =>
        have HSe := hide (sees_any wk g ao cap ts r' n wr hS.out)
        rw [hq] at HSe
        obtain ⟨t, r2, rfl, hT⟩ := takesR_yes (ws.drop (k + 1)) hq
        have HR : Hid (takesR ws r = ((takesR (ws.drop (k + 1)) r2).map (fun l => if t.kind = 4 then l else t :: l)).map (fun l => acc ++ l)) := by unfold Hid; rw [hE.out, HD.out, hT]
        clear hE HD hq hT
        go_wp2_with fail
        refine HSe.out.mono ?_
        rintro e w1 ⟨rfl, hb1⟩
        have S1 := hide (hS.out.keep hb1)
        have B1 := hide (hB.out.trans (ButP.of hb1))
        have O1 := hide (ownsq_kept hO.out (KeptIn.below hb1 (Nat.le_refl _) _))
        have L1 := hide (hLi.out.butq (ButP.of (g := g) hb1) (by omega))
        have hs1 := hb1.size
        have hsw := hB.out.size
        clear hb1 hS hB HSe hO hLi ck
        obtain ⟨i, b, hit, hd, rfl, hbg, hRB, k1, k2, k3⟩ := S1.out.cell
        have HRB := hide hRB
        have HD2 := hide hd
        obtain ⟨c0, c1, c2, f1⟩ := hRB
        have hiI : (i : Int) < (ts.length : Int) := by omega
        have hgl1 := HRB.out.lt
        have hbl1 : b < w1.heap.size := by omega
        go_wp2_with fail
        go_region
        obtain ⟨W2, hW2⟩ : ∃ x, x = (w1.alloc (Obj.cells #[Value.int .i64 t.kind, Value.int .i64 t.at', Value.string ⟨t.text.toArray⟩] 39)).drew := ⟨_, rfl⟩
        rw [← hW2]
        have b2 : Below w1.heap.size w1 W2 := by rw [hW2]; exact ((Below.refl _ _).alloc (Nat.le_refl _) _).drew
        have d0 : W2.cell? ⟨w1.heap.size, 0, none⟩ = some (.int .i64 t.kind) := by rw [hW2]; show (w1.alloc _).cell? _ = _; rw [World.cell?_alloc_new]; rfl
        have d1 : W2.cell? ⟨w1.heap.size, 1, none⟩ = some (.int .i64 t.at') := by rw [hW2]; show (w1.alloc _).cell? _ = _; rw [World.cell?_alloc_new]; rfl
        have d2 : W2.cell? ⟨w1.heap.size, 2, none⟩ = some (.string ⟨t.text.toArray⟩) := by rw [hW2]; show (w1.alloc _).cell? _ = _; rw [World.cell?_alloc_new]; rfl
        have hdl : w1.heap.size < W2.heap.size := World.block_lt_of_cell? W2 _ d0
        clear hW2 c0 c1 c2 f1 k1 k2 k3
        have S2 := hide (S1.out.keep b2)
        have B2 := hide (B1.out.trans (ButP.of b2))
        have O2 := hide (ownsq_kept O1.out (KeptIn.below b2 (Nat.le_refl _) _))
        have L2 := hide (L1.out.butq (ButP.of (g := g) b2) (by omega))
        have RB2 := hide (HRB.out.keep (b2.block g hgl1))
        have c1 := RB2.out.c1
        have f1 := RB2.out.fr
        have hgl2 : g < W2.heap.size := by omega
        have hi2 : (i : Int) < 4294967281 := by have := HTl.out; omega
        clear S1 B1 O1 L1 HRB b2
        by_cases k4 : t.kind = 4
        · have hk4 : ((t.kind : Int) != 4) = false := by rw [k4]; rfl
          have HR2 : Hid (takesR ws r = (takesR (ws.drop (k + 1)) r2).map (fun l => acc ++ l)) := by unfold Hid; rw [HR.out, map_mapq]; simp only [k4, if_true]
          have S3 := hide (S2.out.step hit HD2.out RB2.out)
          have B3 := hide (B2.out.set 1 (.int .i64 ((i : Int) + 1)))
          have O3 := hide (ownsq_kept O2.out (KeptIn.set (n := g) (j := 1) (v := .int .i64 ((i : Int) + 1)) (.inl (by omega))))
          have L3 := hide (L2.out.butq ((But.refl g W2.heap.size W2).set 1 (.int .i64 ((i : Int) + 1))) (by omega))
          clear k4 HR S2 B2 O2 L2 RB2
          go_wp2_with fail
          exact ⟨⟨k + 1, acc, r2, a1, cv, by omega, by omega, by go_num, rfl, HR2, S3, O3, L3, B3⟩, by simp [intOf]; omega⟩
        · have hk4 : ((t.kind : Int) != 4) = true := by simp; omega
          have HR2 : Hid (takesR ws r = (takesR (ws.drop (k + 1)) r2).map (fun l => (acc ++ [t]) ++ l)) := by
            unfold Hid; rw [HR.out, map_mapq]; congr 1; funext l; simp [k4]
          clear k4 HR
          have HBs : Hid (∀ j, (Value.slice a1 acc.length cv).ownBlock = some j → w.heap.size ≤ j) := fun j hj => owns_base O2.out j hj
          go_wp2_with (at_builtin; refine wpList_append_own _ rfl _ _ 35 rfl w.heap.size 39 i0 _ 3 32 Try.underlying35 HI.out HZ0.out HZ1.out HZ2.out rfl (by decide) _ _ _ rfl (O2.out.alloc _) ⟨W2.heap.size, 0, none⟩ 1 1 (tkCells t) rfl rfl (cell_row_at _ _ _) (fun x hx => by simp [tkCells] at hx; rcases hx with rfl | rfl | rfl <;> rfl) (by unfold maxLen; omega) (by omega) (by simp; omega) ?_; intro v' w4 hown' hgrow4 hnil4; have B4 : Below w.heap.size W2 w4 := Below.trans ((Below.refl _ _).alloc (by omega) _) (Below.grown (Below.refl _ _) hgrow4 (by simp; omega) HBs.out); obtain ⟨a2, cv2, rfl, hown3⟩ := toks_roundB hown'; have RB4 := hide (RB2.out.keep (B4.block g hgw)); have c4 := RB4.out.c1; have f4 := RB4.out.fr; have hgl4 := RB4.out.lt; have BH4 := hide B4; clear hown' hgrow4 hnil4 c1 f1 RB2 hgl2 d0 d1 d2 hdl B4)
          have S3 := hide ((S2.out.keepB BH4.out hgw).step hit HD2.out RB4.out)
          have B3 := hide ((But.trans B2.out (But.below BH4.out)).set 1 (.int .i64 ((i : Int) + 1)))
          have O3 := hide (ownsq_kept hown3.out (KeptIn.set (n := g) (j := 1) (v := .int .i64 ((i : Int) + 1)) (.inl (by omega))))
          have L3 := hide ((L2.out.keepB BH4.out hlw).butq ((But.refl g w4.heap.size w4).set 1 (.int .i64 ((i : Int) + 1))) (by omega))
          have hl2 : (acc ++ [t]).length = acc.length + 1 := by simp
          go_wp2_with fail
          exact ⟨⟨k + 1, acc ++ [t], r2, a2, cv2, by omega, by rw [hl2]; omega, by go_num, by rw [hl2], HR2, S3, O3, L3, B3⟩, by simp [intOf]; omega⟩
    · have hlI : ¬ (k : Int) < (ws.length : Int) := by omega
      obtain rfl : k = ws.length := by omega
      have HR : Hid (takesR ws r = .ok acc r') := by unfold Hid; rw [hE.out, List.drop_length]; simp [takesR, Rd.map]
      have HT := hide (owns_TA hO.out)
      clear hE hO hLi
      go_wp2_with fail
      go_ret
      rw [HR.out]
      exact ⟨hB.out, a1, cv, rfl, HT.out, hS.out⟩

/-- What leaf leaves. -/
def OutL (x : Rd (List Tk)) (g : Nat) (ao : Option Addr) (cap : Nat) (ts : List Tk) (n : Nat) (w : World) (e : Ending) (w' : World) : Prop :=
  ButP g w w' ∧ (match x with
    | .ok l r => ∃ (a1 : Option Addr) (c1 : Nat), e = .returned (.agg #[.slice a1 l.length c1, .slice none 0 0]) ∧ TA w' (In w.heap.size w'.heap.size) a1 l ∧ RS w' g ao cap ts r n
    | .bad r => e = .panicked stuckE ∧ RS w' g ao cap ts r n)
theorem OutL.isBad {x : Rd (List Tk)} {g : Nat} {ao : Option Addr} {cap : Nat} {ts r : List Tk} {n : Nat} {w w' : World} (hx : x = .bad r) (hb : ButP g w w') (hs : RS w' g ao cap ts r n) :
    OutL x g ao cap ts n w (.panicked stuckE) w' := by subst hx; exact ⟨hb, rfl, hs⟩
theorem OutL.isOk {x : Rd (List Tk)} {g : Nat} {ao : Option Addr} {cap : Nat} {ts r l : List Tk} {n : Nat} {w w' : World} {a1 : Option Addr} {c1 : Nat} (hx : x = .ok l r) (hb : ButP g w w') (hn : TA w' (In w.heap.size w'.heap.size) a1 l) (hs : RS w' g ao cap ts r n) :
    OutL x g ao cap ts n w (.returned (.agg #[.slice a1 l.length c1, .slice none 0 0])) w' := by subst hx; exact ⟨hb, a1, c1, rfl, hn, hs⟩
theorem OutL.toG {x : Rd (List Tk)} {g : Nat} {ao : Option Addr} {cap : Nat} {ts : List Tk} {n : Nat} {w w' : World} {e : Ending} (h : OutL x g ao cap ts n w e w') : OutG (fun y l => y = (l, .nil)) x g ao cap ts n w e w' := by
  refine ⟨h.1, ?_⟩
  have h2 := h.2
  cases x with
  | ok l r =>
    obtain ⟨a1, c1, e1, t, s⟩ := h2
    exact ⟨(l, .nil), a1, c1, none, 0, e1, ⟨t, FA.nil _ _ _⟩, rfl, s⟩
  | bad r => exact h2
theorem resReadLeaf {W : World} {m : Nat} {v1 v2 : Value} {tmps : Array Value} (h : NB W m v1 v2) (h4 : tmps[4]?.getD undef = .pointer (some ⟨m, 0, none⟩)) :
    (results Try.f73 tmps).run Try.prog W = .ok (.agg #[v1, v2]) W := by
  obtain ⟨c0, c1, _⟩ := h
  simp [results, Try.results73, go_sem, h4, c0, c1]
set_option maxHeartbeats 2000000 in
set_option maxRecDepth 100000 in
theorem leaf_full (ws : List (List UInt8)) (lb : Nat) (g : Nat) (ao : Option Addr) (cap : Nat) (ts r : List Tk) (n : Nat) (w : World) (h : RS w g ao cap ts r n) (hL : LitsAt w lb ws) (hne : g < lb) (hlw : lb < w.heap.size) (hw1 : ws.length < 100) (hl : ts.length < 4294967281) :
    Calls Try.prog 73 #[.pointer (some ⟨g, 0, none⟩), .slice (some ⟨lb, 0, none⟩) ws.length ws.length] w fun e w' => OutL (takesR ws r) g ao cap ts n w e w' := by
  have HT := hide (fun W (a : RS W g ao cap ts r n) (b : LitsAt W lb ws) (c : lb < W.heap.size) => take_any ws lb g ao cap ts r n W a b hne c hw1 hl)
  have HS := hide h
  have HLi := hide hL
  have hgw := h.lt
  clear h hL hl
  go_enter Try.func73, Try.ntmps73
  go_upto_region 1 with fail
  obtain ⟨W0, hW0⟩ : ∃ x, x = w.alloc (Obj.cells #[.slice none 0 0, .slice none 0 0] 51) := ⟨_, rfl⟩
  have b0 : Below w.heap.size w W0 := by rw [hW0]; exact (Below.refl _ _).alloc (Nat.le_refl _) _
  have N0 : Hid (NB W0 w.heap.size (.slice none 0 0) (.slice none 0 0)) := by unfold Hid; rw [hW0]; exact NB.new w _ _ _
  rw [← hW0]
  clear hW0
  have S0 := hide (HS.out.keep b0)
  have L0 := hide (HLi.out.keep b0)
  have B0 := hide (ButP.of (g := g) b0)
  have hs0 := b0.size
  clear b0 HS HLi
  go_wp2_with fail
  refine (HT.out _ S0.out L0.out (by omega)).mono ?_
  rintro e w1 ⟨B1, h1⟩
  cases hx : takesR ws r with
  | bad r' =>
    rw [hx] at h1
    obtain ⟨rfl, S1⟩ := h1
    have B2 := hide (B0.out.trans B1)
    have S1 := hide S1
    have HX := hide hx
    clear B0 B1 hx HT S0 L0 N0
    go_wp2_with fail
    exact ⟨rfl, OutL.isBad HX.out B2.out S1.out⟩
  | ok l r' =>
    rw [hx] at h1
    obtain ⟨a1, c1, rfl, T1, S1⟩ := h1
    have N1 := hide (N0.out.but B1 (by omega))
    have B2 := hide (B0.out.trans B1)
    have hs1 := B1.size
    have T1 := hide T1
    have S1 := hide S1
    have x0 := N1.out.c0
    have x1 := N1.out.c1
    have y0 := N1.out.f0
    have y1 := N1.out.f1
    have hml := N1.out.lt
    have N2 : Hid (NB (putN w1 w.heap.size (.slice a1 l.length c1) (.slice none 0 0)) w.heap.size (.slice a1 l.length c1) (.slice none 0 0)) := N1.out.put _ _
    have B3 : Hid (ButP g w (putN w1 w.heap.size (.slice a1 l.length c1) (.slice none 0 0))) := putN_but B2.out (Nat.le_refl _) _ _
    have S2 : Hid (RS (putN w1 w.heap.size (.slice a1 l.length c1) (.slice none 0 0)) g ao cap ts r' n) := putN_rs S1.out _ _ hgw
    have T2 : Hid (TA (putN w1 w.heap.size (.slice a1 l.length c1) (.slice none 0 0)) (In w.heap.size (putN w1 w.heap.size (.slice a1 l.length c1) (.slice none 0 0)).heap.size) a1 l) := by
      unfold Hid
      rw [putN_size]
      exact (T1.out.keep (putN_kept (.inl (by have := N0.out.lt; omega)))).mono (by omega) (Nat.le_refl _)
    unfold putN at N2 B3 S2 T2
    have HX := hide hx
    clear B0 B1 hx HT S0 L0 N0 N1 T1 S1 B2
    go_wp2_with fail
    refine bodyPost_ret (v := .agg #[.slice a1 l.length c1, .slice none 0 0]) ?_ rfl ?_
    · exact resReadLeaf N2.out rfl
    · exact OutL.isOk HX.out B3.out T2.out S2.out
theorem leaf_any (ws : List (List UInt8)) (lb : Nat) (g : Nat) (ao : Option Addr) (cap : Nat) (ts r : List Tk) (n : Nat) (w : World) (h : RS w g ao cap ts r n) (hL : LitsAt w lb ws) (hne : g < lb) (hlw : lb < w.heap.size) (hw1 : ws.length < 100) (hl : ts.length < 4294967281) :
    Calls Try.prog 73 #[.pointer (some ⟨g, 0, none⟩), .slice (some ⟨lb, 0, none⟩) ws.length ws.length] w fun e w' => OutG (fun y l => y = (l, .nil)) (takesR ws r) g ao cap ts n w e w' :=
  (leaf_full ws lb g ao cap ts r n w h hL hne hlw hw1 hl).mono fun _ _ o => o.toG
end Go.Proofs.Ytcmmjmgbanafgaa
