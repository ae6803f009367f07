/- The walk over moatref9.Tokens. -/
import Derived.Test.YtcmmjmgbanafgaaLx3
namespace Go.Proofs.Url
/-- From a place on where no gap begins. -/
def toksG (s : List UInt8) (j n : Nat) : Toks :=
  if (s.drop j).isEmpty then .ok []
  else if (oneS (s.drop j)).code ≠ 0 then .bad (oneS (s.drop j)).code j
  else if n = 2000 then .bad 6 j
  else (toksAt s (j + (oneS (s.drop j)).len) (n + 1)).put [⟨(oneS (s.drop j)).kind, j, (oneS (s.drop j)).text⟩]
theorem toksAt_gap (s : List UInt8) (i n : Nat) : toksAt s i n = toksG s (i + gapB false (s.drop i)) n := by
  rw [toksAt_step, List.drop_drop]; rfl
theorem toksG_end {s : List UInt8} {j : Nat} (n : Nat) (h : s.length ≤ j) : toksG s j n = .ok [] := by
  unfold toksG; rw [List.drop_eq_nil_of_le h]; rfl
theorem drop_ne {s : List UInt8} {j : Nat} (h : j < s.length) : (s.drop j).isEmpty = false := by
  rw [List.drop_eq_getElem_cons h]; rfl
theorem toksG_bad {s : List UInt8} {j : Nat} (n : Nat) (h : j < s.length) (hc : (oneS (s.drop j)).code ≠ 0) : toksG s j n = .bad (oneS (s.drop j)).code j := by
  unfold toksG; rw [if_neg (by rw [drop_ne h]; decide), if_pos hc]
theorem toksG_full {s : List UInt8} {j : Nat} (h : j < s.length) (hc : (oneS (s.drop j)).code = 0) : toksG s j 2000 = .bad 6 j := by
  unfold toksG; rw [if_neg (by rw [drop_ne h]; decide), if_neg (by simp [hc]), if_pos rfl]
theorem toksG_on {s : List UInt8} {j n : Nat} (h : j < s.length) (hc : (oneS (s.drop j)).code = 0) (hn : n ≠ 2000) : toksG s j n = (toksAt s (j + (oneS (s.drop j)).len) (n + 1)).put [⟨(oneS (s.drop j)).kind, j, (oneS (s.drop j)).text⟩] := by
  unfold toksG; rw [if_neg (by rw [drop_ne h]; decide), if_neg (by simp [hc]), if_neg hn]
end Go.Proofs.Url
namespace Go.Proofs.Ytcmmjmgbanafgaa
open Go.RowKit Go.Proofs.Url

def tkCells (t : Tk) : List Value := [.int .i64 t.kind, .int .i64 t.at', .string ⟨t.text.toArray⟩]
theorem infoT : (Try.prog.info? 39).map (fun i => (i.zero, i.size, i.bytes)) = some (some (.agg #[.int .i64 0, .int .i64 0, .string ByteArray.empty]), 3, 32) := by kernel_rfl
/-- What is wrong, in memory. -/
structure WB (W : World) (g : Nat) (a b : Int) : Prop where
  c0 : W.cell? ⟨g, 0, none⟩ = some (.int .i64 a)
  c1 : W.cell? ⟨g, 1, none⟩ = some (.int .i64 b)
  fr : ∀ j, j < 2 → W.frozen? ⟨g, j, none⟩ = false
theorem WB.lt {W : World} {g : Nat} {a b : Int} (h : WB W g a b) : g < W.heap.size := World.block_lt_of_cell? W _ h.c0
theorem WB.keepB {W W' : World} {B g : Nat} {a b : Int} (h : WB W g a b) (hb : Below B W W') (hg : g < B) : WB W' g a b :=
  ⟨by rw [hb.cell (p := ⟨g, 0, none⟩) hg]; exact h.c0, by rw [hb.cell (p := ⟨g, 1, none⟩) hg]; exact h.c1, fun j hj => by rw [hb.frozen (p := ⟨g, j, none⟩) hg]; exact h.fr j hj⟩
theorem WB.keep {W W' : World} {g : Nat} {a b : Int} (h : WB W g a b) (hb : Below W.heap.size W W') : WB W' g a b := h.keepB hb h.lt
theorem WB.new (w : World) (a b : Int) (t : TypeId) : WB (w.alloc (.cells #[.int .i64 a, .int .i64 b] t)) w.heap.size a b := by
  refine ⟨?_, ?_, fun j hj => ?_⟩
  all_goals (first | (rw [World.frozen?_alloc_new]; done) | (rw [World.cell?_alloc_new]; rfl))
def put2 (W : World) (g : Nat) (a b : Int) : World := (W.setCell ⟨g, 0, none⟩ (.int .i64 a)).setCell ⟨g, 1, none⟩ (.int .i64 b)
theorem WB.put {W : World} {g : Nat} {a b : Int} (h : WB W g a b) (a' b' : Int) : WB (put2 W g a' b') g a' b' := by
  refine ⟨tcell_other (tcell_same h.c0) (by decide), tcell_same (tcell_other h.c1 (by decide)), fun j hj => ?_⟩
  unfold put2
  rw [World.frozen?_setCell, World.frozen?_setCell]; exact h.fr j hj
theorem put2_below {B : Nat} {u W : World} (h : Below B u W) (g : Nat) (hg : B ≤ g) (a b : Int) : Below B u (put2 W g a b) := (h.setCell (p := ⟨g, 0, none⟩) hg _).setCell (p := ⟨g, 1, none⟩) hg _
theorem owns_put2 {w : World} {base : Nat} {e : TypeId} {size : Nat} {v : Value} {n : Nat} {xs : List Value} (h : w.ownsRow base e size v n xs) (g : Nat) (hg : g < base) (a b : Int) : (put2 w g a b).ownsRow base e size v n xs := by
  refine ⟨h.1, ?_⟩
  rcases h.2 with hn | ⟨k, cap, cur, hv, hb, hh, rest⟩
  · exact .inl hn
  · refine .inr ⟨k, cap, cur, hv, hb, ?_, rest⟩
    unfold put2
    rw [Below.heap_setCell _ _ _ _ (by show k ≠ g; omega), Below.heap_setCell _ _ _ _ (by show k ≠ g; omega)]; exact hh
theorem owns_lowT {w : World} {b b' : Nat} {e : TypeId} {size : Nat} {v : Value} {n : Nat} {xs : List Value} (h : w.ownsRow b e size v n xs) (hb : b' ≤ b) : w.ownsRow b' e size v n xs := by
  refine ⟨h.1, ?_⟩
  rcases h.2 with h1 | ⟨g, cap, cur, hv, hg, r⟩
  · exact .inl h1
  · exact .inr ⟨g, cap, cur, hv, Nat.le_trans hb hg, r⟩
theorem resRead10 {W : World} {r : Nat} {a b : Int} {v : Value} {tmps : Array Value} (h : WB W r a b) (h2 : tmps[2]?.getD undef = v) (h3 : tmps[3]?.getD undef = .pointer (some ⟨r, 0, none⟩)) :
    (results Try.f32 tmps).run Try.prog W = .ok (.tuple #[v, .agg #[.int .i64 a, .int .i64 b]]) W := by
  obtain ⟨c0, c1, _⟩ := h
  simp [results, Try.results32, go_sem, h2, h3, c0, c1]
theorem toks_roundB {B : Nat} {w3 : World} {qs : List Tk} {x : Tk} {v' : Value}
    (hown : w3.ownsRow B 39 3 v' (qs.length + 1) (qs.flatMap tkCells ++ tkCells x)) :
    ∃ (ao : Option Addr) (cv : Nat), v' = .slice ao (qs ++ [x]).length cv ∧ Hid (w3.ownsRow B 39 3 (.slice ao (qs ++ [x]).length cv) (qs ++ [x]).length ((qs ++ [x]).flatMap tkCells)) := by
  have hq : (qs ++ [x]).length = qs.length + 1 := by simp
  obtain ⟨g, cap, hv⟩ : ∃ g cap, v' = .slice (some ⟨g, 0, none⟩) (qs.length + 1) cap := by
    rcases hown.2 with ⟨_, h⟩ | ⟨g, cap, _, h, _⟩
    · omega
    · exact ⟨g, cap, h⟩
  subst hv
  refine ⟨some ⟨g, 0, none⟩, cap, by rw [hq], ?_⟩
  unfold Hid; rw [hq, List.flatMap_append]
  have : [x].flatMap tkCells = tkCells x := by simp
  rw [this]; exact hown
theorem cell_row_at (w : World) (xs : List Value) (t : TypeId) : ∀ j u, xs[j]? = some u → (w.alloc (.cells xs.toArray t)).cell? ((⟨w.heap.size, 0, none⟩ : Addr).add j) = some u := by
  intro j u hj
  rw [show (⟨w.heap.size, 0, none⟩ : Addr).add j = ⟨w.heap.size, j, none⟩ by cases j <;> simp [Addr.add], World.cell?_alloc_new]
  simpa using hj
/-- What a call of Tokens hands back. -/
def TokPost (s : List UInt8) (w : World) (e : Ending) (w' : World) : Prop :=
  ∃ (ao : Option Addr) (cap : Nat) (ts : List Tk) (c p : Nat), e = .returned (.tuple #[.slice ao ts.length cap, .agg #[.int .i64 c, .int .i64 p]]) ∧ w'.ownsRow w.heap.size 39 3 (.slice ao ts.length cap) ts.length (ts.flatMap tkCells) ∧
    ((toksS s = .ok ts ∧ c = 0 ∧ p = 0) ∨ (toksS s = .bad c p ∧ ts = [])) ∧ Below w.heap.size w w'
theorem tok_bad {s : List UInt8} {w W : World} {c p : Nat} (h : toksS s = .bad c p) (hb : Below w.heap.size w W) : TokPost s w (.returned (.tuple #[.slice none 0 0, .agg #[.int .i64 (c : Int), .int .i64 (p : Int)]])) W :=
  ⟨none, 0, [], c, p, rfl, World.ownsRow_nil _ _ _ _, .inr ⟨h, rfl⟩, hb⟩

set_option maxHeartbeats 4000000 in
set_option maxRecDepth 100000 in
theorem refTokens_any (s : List UInt8) (w : World) (hs : s.length < 4294967281) :
    Calls Try.prog 32 #[.string ⟨s.toArray⟩] w fun e w' => TokPost s w e w' := by
  obtain ⟨i0, hi, hz0, hz1, hz2⟩ := info_parts infoT
  by_cases h8 : 8000 < s.length
  · have i8 : (8000 : Int) < (s.length : Int) := by omega
    have HT : Hid (toksS s = .bad 6 0) := by unfold Hid toksS; rw [if_pos h8]
    clear h8 hi hz0 hz1 hz2
    go_enter Try.func32, Try.ntmps32
    go_upto_region 1 with fail
    have R0 := hide (WB.new w 0 0 25)
    have B0 := hide ((Below.refl w.heap.size w).alloc (Nat.le_refl _) (.cells #[.int .i64 0, .int .i64 0] 25))
    obtain ⟨W0, hW0⟩ : ∃ W0, W0 = w.alloc (.cells #[.int .i64 0, .int .i64 0] 25) := ⟨_, rfl⟩
    rw [← hW0] at R0 B0 ⊢
    clear hW0
    have r0 := R0.out.c0
    have r1 := R0.out.c1
    have q0 := R0.out.fr 0 (by decide)
    have q1 := R0.out.fr 1 (by decide)
    have hgl := R0.out.lt
    have HP : Hid (WB (put2 W0 w.heap.size 6 0) w.heap.size 6 0) := R0.out.put _ _
    have HB : Hid (Below w.heap.size w (put2 W0 w.heap.size 6 0)) := put2_below B0.out _ (Nat.le_refl _) _ _
    unfold put2 at HP HB
    go_wp2_with fail
    refine bodyPost_ret (v := .tuple #[.slice none 0 0, .agg #[.int .i64 6, .int .i64 0]]) ?_ rfl ?_
    · exact resRead10 HP.out rfl rfl
    · exact tok_bad HT.out HB.out
  have i8 : ¬ (8000 : Int) < (s.length : Int) := by omega
  have HS := hide (toksS_small (s := s) (by omega))
  have HI := hide hi
  have HZ0 := hide hz0
  have HZ1 := hide hz1
  have HZ2 := hide hz2
  clear hi hz0 hz1 hz2
  have HG0 := hide (toksAt_gap s 0 0)
  have hg0 := gapB_le false (s.drop 0)
  rw [List.length_drop] at hg0
  go_enter Try.func32, Try.ntmps32
  go_upto_region 1 with fail
  have R0 := hide (WB.new w 0 0 25)
  have B0 := hide ((Below.refl w.heap.size w).alloc (Nat.le_refl _) (.cells #[.int .i64 0, .int .i64 0] 25))
  obtain ⟨W0, hW0⟩ : ∃ W0, W0 = w.alloc (.cells #[.int .i64 0, .int .i64 0] 25) := ⟨_, rfl⟩
  rw [← hW0] at R0 B0 ⊢
  clear hW0
  go_wp2_with fail
  refine (refGap_any s 0 (Nat.zero_le _) _ hs).mono ?_
  rintro e w' ⟨rfl, hw'⟩
  rw [hw']
  replace hg0 : 0 + gapB false (s.drop 0) ≤ s.length := by omega
  generalize 0 + gapB false (s.drop 0) = j0 at *
  go_wp2_with fail
  go_loopw [4, 5] (fun ov iv W => ∃ (j : Nat) (ts : List Tk) (ao : Option Addr) (cv : Nat), j ≤ s.length ∧ iv = .int .i64 j ∧ ov = .slice ao ts.length cv ∧ ts.length ≤ 2000 ∧ Hid (toksS s = (toksG s j ts.length).put ts) ∧
      Hid (WB W w.heap.size 0 0) ∧ Hid (W.ownsRow (w.heap.size + 1) 39 3 (.slice ao ts.length cv) ts.length (ts.flatMap tkCells)) ∧ Hid (Below w.heap.size w W)) (fun _ iv _ => s.length - (intOf iv).toNat)
  case atStart => exact ⟨j0, [], none, 0, by omega, rfl, rfl, Nat.zero_le _, by unfold Hid; rw [put_nil, HS.out, HG0.out]; rfl, R0, World.ownsRow_nil _ _ _ _, B0⟩
  case round =>
    obtain ⟨j, ts, ao, cv, hj, rfl, rfl, hts, hT, hR, hO, hB⟩ := hrel
    have hRl := hR.out.lt
    by_cases hlt : j < s.length
    · have hlI : (j : Int) < (s.length : Int) := by omega
      go_wp2_with fail
      refine (refOne_any s j hlt _ hs).mono ?_
      rintro e w1 ⟨a, b, tx, k, rfl, hgood, hb1⟩
      have R1 := hide (hR.out.keep hb1)
      have O1 := hide (owns_below hO.out hb1)
      have B1 := hide (hB.out.trans (hb1.mono hB.out.size))
      have hs1 := hb1.size
      clear hb1 hR hO hB
      by_cases hc : (oneS (s.drop j)).code = 0
      · obtain ⟨ha, hb, htx, hk⟩ := hgood hc
        have hlen := one_len hc
        rw [List.length_drop] at hlen
        have HA := hide ha
        have HBq := hide hb
        have HTX := hide htx
        have HC := hide hc
        have hke : Hid (k = j + (oneS (s.drop j)).len) := hk
        rw [hc]
        have hkl : k ≤ s.length := by omega
        have hkj : j < k := by omega
        clear hgood ha hb htx hk hc hlen
        by_cases hn : ts.length = 2000
        · have hnb : ((ts.length : Int) == 2000) = true := beq_iff_eq.2 (by omega)
          have HT : Hid (toksS s = .bad 6 j) := by unfold Hid; rw [hT.out, hn, toksG_full hlt HC.out]; rfl
          have R2 := hide (R1.out.keep ((Below.refl w1.heap.size w1).alloc (Nat.le_refl _) (Obj.cells #[.int .i64 a, .int .i64 b, .string ⟨tx.toArray⟩] 39)))
          have B2 := hide (B1.out.alloc B1.out.size (Obj.cells #[.int .i64 a, .int .i64 b, .string ⟨tx.toArray⟩] 39))
          clear hn hT R1 O1 B1
          go_upto_region 7 with fail
          obtain ⟨W2, hW2⟩ : ∃ W2, W2 = w1.alloc (Obj.cells #[.int .i64 a, .int .i64 b, .string ⟨tx.toArray⟩] 39) := ⟨_, rfl⟩
          rw [← hW2] at R2 B2 ⊢
          clear hW2
          have r0 := R2.out.c0
          have r1 := R2.out.c1
          have q0 := R2.out.fr 0 (by decide)
          have q1 := R2.out.fr 1 (by decide)
          have hgl := R2.out.lt
          have HP : Hid (WB (put2 W2 w.heap.size 6 j) w.heap.size 6 j) := R2.out.put _ _
          have HB : Hid (Below w.heap.size w (put2 W2 w.heap.size 6 j)) := put2_below B2.out _ (Nat.le_refl _) _ _
          unfold put2 at HP HB
          go_wp2_with fail
          refine bodyPost_ret (v := .tuple #[.slice none 0 0, .agg #[.int .i64 6, .int .i64 j]]) ?_ rfl ?_
          · exact resRead10 HP.out rfl rfl
          · exact tok_bad HT.out HB.out
        · have hnb : ((ts.length : Int) == 2000) = false := beq_eq_false_iff_ne.2 (by omega)
          have HN : Hid (toksS s = (toksG s (k + gapB false (s.drop k)) (ts.length + 1)).put (ts ++ [⟨(oneS (s.drop j)).kind, j, (oneS (s.drop j)).text⟩])) := by
            unfold Hid; rw [hT.out, toksG_on hlt HC.out hn, ← hke.out, put_put, toksAt_gap]
          have hg2 : k + gapB false (s.drop k) ≤ s.length := by
            have := gapB_le false (s.drop k)
            rw [List.length_drop] at this; omega
          have hg3 : j < k + gapB false (s.drop k) := by omega
          have HGp := hide (fun W => refGap_any s k hkl W hs)
          obtain rfl : a = ((oneS (s.drop j)).kind : Int) := HA.out
          obtain rfl : b = (j : Int) := HBq.out
          obtain rfl : tx = (oneS (s.drop j)).text := HTX.out
          clear HA HBq HTX HC hke hT hkl hkj
          generalize (oneS (s.drop j)).kind = kd at *
          generalize (oneS (s.drop j)).text = tx at *
          generalize k + gapB false (s.drop k) = j2 at *
          have hn2 : ts.length + 1 ≤ 2000 := by omega
          clear hn
          go_upto_region 11 with fail
          obtain ⟨W2, hW2⟩ : ∃ W2, W2 = w1.alloc (Obj.cells #[.int .i64 kd, .int .i64 j, .string ⟨tx.toArray⟩] 39) := ⟨_, rfl⟩
          have b2 : Below w1.heap.size w1 W2 := by rw [hW2]; exact (Below.refl _ _).alloc (Nat.le_refl _) _
          have X2 : Hid (TB W2 w1.heap.size kd j tx) := by unfold Hid; rw [hW2]; exact TB.new w1 kd j tx 39
          rw [← hW2]
          have R2 := hide (R1.out.keep b2)
          have O2 := hide (owns_below O1.out b2)
          have B2 := hide (B1.out.trans (b2.mono B1.out.size))
          have hs2 := b2.size
          clear hW2 b2 R1 O1 B1
          have t0 := X2.out.c0
          have t1 := X2.out.c1
          have t2 := X2.out.c2
          have hgl := X2.out.lt
          have hw2 : w.heap.size + 1 ≤ W2.heap.size := by omega
          have HBs : Hid (∀ j, (Value.slice ao ts.length cv).ownBlock = some j → w.heap.size + 1 ≤ j) := fun j hj => owns_base O2.out j hj
          go_wp2_with (at_builtin; refine wpList_append_own _ rfl _ _ 35 rfl (w.heap.size + 1) 39 i0 _ 3 32 Try.underlying35 HI.out HZ0.out HZ1.out HZ2.out rfl (by decide) _ _ _ rfl (O2.out.alloc _) ⟨W2.heap.size, 0, none⟩ 1 1 (tkCells ⟨kd, j, tx⟩) rfl rfl (cell_row_at _ _ _) (fun x hx => by simp [tkCells] at hx; rcases hx with rfl | rfl | rfl <;> rfl) (by unfold maxLen; omega) (by omega) (by simp; omega) ?_; intro v' w4 hown' hgrow4 hnil4)
          have B4 : Below (w.heap.size + 1) W2 w4 := Below.trans ((Below.refl _ _).alloc (by omega) _) (Below.grown (Below.refl _ _) hgrow4 (by simp; omega) HBs.out)
          obtain ⟨ao2, cv2, rfl, hown3⟩ := toks_roundB hown'
          have R4 := hide (R2.out.keepB B4 (Nat.lt_succ_self _))
          have B5 := hide (B2.out.trans (B4.mono (Nat.le_succ _)))
          clear hown' hgrow4 hnil4 B4 R2 B2 O2 X2 t0 t1 t2 hgl HBs
          refine (HGp.out _).mono ?_
          rintro e w' ⟨rfl, hw'⟩
          rw [hw']
          have hl2 : (ts ++ [(⟨kd, j, tx⟩ : Tk)]).length = ts.length + 1 := by simp
          go_wp2_with fail
          exact ⟨⟨j2, ts ++ [⟨kd, j, tx⟩], ao2, cv2, hg2, rfl, by rw [hl2], by rw [hl2]; exact hn2, by unfold Hid; rw [hl2]; exact HN.out, R4, hown3, B5⟩, by simp [intOf]; omega⟩
      · have HT : Hid (toksS s = .bad (oneS (s.drop j)).code j) := by unfold Hid; rw [hT.out, toksG_bad _ hlt hc]; rfl
        have hcb : (((oneS (s.drop j)).code : Int) == 0) = false := beq_eq_false_iff_ne.2 (by omega)
        have R2 := hide (R1.out.keep ((Below.refl w1.heap.size w1).alloc (Nat.le_refl _) (Obj.cells #[.int .i64 a, .int .i64 b, .string ⟨tx.toArray⟩] 39)))
        have B2 := hide (B1.out.alloc B1.out.size (Obj.cells #[.int .i64 a, .int .i64 b, .string ⟨tx.toArray⟩] 39))
        clear hc hT R1 O1 B1 hgood
        generalize (oneS (s.drop j)).code = cd at *
        go_upto_region 7 with fail
        obtain ⟨W2, hW2⟩ : ∃ W2, W2 = w1.alloc (Obj.cells #[.int .i64 a, .int .i64 b, .string ⟨tx.toArray⟩] 39) := ⟨_, rfl⟩
        rw [← hW2] at R2 B2 ⊢
        clear hW2
        have r0 := R2.out.c0
        have r1 := R2.out.c1
        have q0 := R2.out.fr 0 (by decide)
        have q1 := R2.out.fr 1 (by decide)
        have hgl := R2.out.lt
        have HP : Hid (WB (put2 W2 w.heap.size cd j) w.heap.size cd j) := R2.out.put _ _
        have HB : Hid (Below w.heap.size w (put2 W2 w.heap.size cd j)) := put2_below B2.out _ (Nat.le_refl _) _ _
        unfold put2 at HP HB
        go_wp2_with fail
        refine bodyPost_ret (v := .tuple #[.slice none 0 0, .agg #[.int .i64 cd, .int .i64 j]]) ?_ rfl ?_
        · exact resRead10 HP.out rfl rfl
        · exact tok_bad HT.out HB.out
    · have hlI : ¬ (j : Int) < (s.length : Int) := by omega
      have HT : Hid (toksS s = .ok ts) := by unfold Hid; rw [hT.out, toksG_end _ (by omega)]; simp [Toks.put]
      have r0 := hR.out.c0
      have r1 := hR.out.c1
      have q0 := hR.out.fr 0 (by decide)
      have q1 := hR.out.fr 1 (by decide)
      have HP : Hid (WB (put2 wr w.heap.size 0 0) w.heap.size 0 0) := hR.out.put _ _
      have HB : Hid (Below w.heap.size w (put2 wr w.heap.size 0 0)) := put2_below hB.out _ (Nat.le_refl _) _ _
      have HOw : Hid ((put2 wr w.heap.size 0 0).ownsRow w.heap.size 39 3 (.slice ao ts.length cv) ts.length (ts.flatMap tkCells)) := owns_lowT (owns_put2 hO.out _ (Nat.lt_succ_self _) _ _) (Nat.le_succ _)
      unfold put2 at HP HB HOw
      clear hT hR hO hB
      go_wp2_with fail
      refine bodyPost_ret (v := .tuple #[.slice ao ts.length cv, .agg #[.int .i64 0, .int .i64 0]]) ?_ rfl ?_
      · exact resRead10 HP.out rfl rfl
      · exact ⟨ao, cv, ts, 0, 0, rfl, HOw.out, .inl ⟨HT.out, rfl, rfl⟩, HB.out⟩
end Go.Proofs.Ytcmmjmgbanafgaa
