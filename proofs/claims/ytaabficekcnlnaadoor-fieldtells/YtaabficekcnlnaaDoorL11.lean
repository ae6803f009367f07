/- The walk over moatlaw3.FieldPairs. -/
import Derived.Test.YtaabficekcnlnaaDoorL10
import Derived.Deep.RegionLaw
namespace Go.Proofs.YtaabficekcnlnaaDoor
open Go.RowKit Go.Proofs.Url

/-- append to a row of the walk's own, as one step of a region that draws its order. -/
theorem step_append_own {P : Program} {ops : Array Oper} {o : Oper} {a : Act} {w : World} {K : Act → World → Prop} {Q : Exit → Act → World → Prop} {E : Prop}
    (hg : o.guard = none) (s x : Operand) (t : TypeId) (hop : o.op = Op.call { callee := Callee.builtin Builtin.append, args := #[s, x], argTypes := #[t, t] })
    (base : Nat) (e : TypeId) (i : TypeInfo) (z : Value) (size bytes : Nat) (h1 : P.underlying t = some (.slice e)) (h2 : P.info? e = some i) (h3 : i.zero = some z) (h4 : i.size = size) (h5 : i.bytes = bytes) (h6 : z.cells.size = size) (h7 : 0 < size)
    (v : Value) (n : Nat) (xs : List Value) (hs : a.eval s = v) (hown : w.ownsRow base e size v n xs)
    (ad : Addr) (m c : Nat) (news : List Value) (hx : a.eval x = .slice (some ad) m c) (hn : news.length = m * size) (hc : ∀ j u, news[j]? = some u → w.cell? (ad.add j) = some u) (h1c : ∀ u ∈ news, u.oneCell' = true)
    (b1 : n + m ≤ maxLen) (b2 : (n + m) * bytes ≤ 140737488355328) (hbase : base ≤ w.heap.size)
    (hK : ∀ v' w', w'.ownsRow base e size v' (n + m) (xs ++ news) → w.grownBy w' v.ownBlock → K (a.put o.dst v') w') :
    if Region.wanted o (yielded ops a.tmps) = true then Oper.wp P o a w K Q else E := by
  have hw : Region.wanted o (yielded ops a.tmps) = true := by simp [Region.wanted, hg]
  rw [if_pos hw]
  obtain ⟨v', w', hrun, r1, r2, _⟩ := run_append_own (P := P) w base t o.type e i z size bytes h1 h2 h3 h4 h5 h6 h7 v n xs hown ad m c news hn hc h1c b1 b2 hbase
  unfold Oper.wp
  simp [execOp, hop, resolve, invoke, builtin, hs, hx, hrun, Result.andThen]
  exact hK v' w' r1 r2
theorem owns_drew {w : World} {base : Nat} {e : TypeId} {size : Nat} {v : Value} {n : Nat} {xs : List Value} (h : w.ownsRow base e size v n xs) : w.drew.ownsRow base e size v n xs := h
theorem cell_two_drew (w : World) (x y : Value) (t : TypeId) : ∀ j u, [x, y][j]? = some u → ((w.alloc (.cells #[x, y] t)).drew).cell? ((⟨w.heap.size, 0, none⟩ : Addr).add j) = some u := cell_two_new w x y t
theorem lits3 (a b c : List UInt8) (r : Nat) (h : r < 3) : [Value.string ⟨a.toArray⟩, Value.string ⟨b.toArray⟩, Value.string ⟨c.toArray⟩][r] = .string ⟨([a, b, c].getD r []).toArray⟩ := by
  match r, h with
  | 0, _ => rfl
  | 1, _ => rfl
  | 2, _ => rfl
theorem lenP4 : ∀ (r : Fin 4), (gapsP.getD r []).length ≤ 2 ∧ (names4.getD r []).length ≤ 6 ∧ (lows4.getD r []).length ≤ 6 := by decide +kernel
theorem lenP5 : ∀ (r : Fin 5), (vals5.getD r []).length ≤ 3 := by decide +kernel
theorem lenP3 : ∀ (r : Fin 3), (trails3.getD r []).length ≤ 3 := by decide +kernel

theorem pairs_roundB {B : Nat} {w3 : World} {qs : List (List UInt8 × List UInt8)} {x : List UInt8 × List UInt8} {v' : Value}
    (hown : w3.ownsRow B 29 2 v' (qs.length + 1) (qs.flatMap pairV ++ [.string ⟨x.1.toArray⟩, .string ⟨x.2.toArray⟩])) :
    ∃ (ao : Option Addr) (cv : Nat), v' = .slice ao (qs ++ [x]).length cv ∧ Hid (w3.ownsRow B 29 2 (.slice ao (qs ++ [x]).length cv) (qs ++ [x]).length ((qs ++ [x]).flatMap pairV)) := by
  have hq : (qs ++ [x]).length = qs.length + 1 := by simp
  obtain ⟨g, cap, hv⟩ : ∃ g cap, v' = .slice (some ⟨g, 0, none⟩) (qs.length + 1) cap := by
    rcases hown.2 with ⟨_, h⟩ | ⟨g, cap, _, h, _⟩
    · omega
    · exact ⟨g, cap, h⟩
  subst hv
  refine ⟨some ⟨g, 0, none⟩, cap, by rw [hq], ?_⟩
  unfold Hid; rw [hq, List.flatMap_append]
  have : [x].flatMap pairV = [.string ⟨x.1.toArray⟩, .string ⟨x.2.toArray⟩] := by simp [pairV]
  rw [this]; exact hown
theorem pairs_yes {s : List UInt8} {want : List (List UInt8 × List UInt8)} (h : PairInv s want) (hs : s.length ≤ 200) (W : World) (henv : Env W) :
    Calls Tryd.prog 10 #[.string ⟨s.toArray⟩] W fun e w' => ∃ (ao : Option Addr) (cap : Nat), e = .returned (.slice ao want.length cap) ∧ PairsAt w' ao want ∧ Below W.heap.size W w' := by
  have hc := pairs_out s W henv (by omega)
  rw [h.2] at hc
  refine hc.mono ?_
  rintro e w' ⟨ao, cap, rfl, _, hP, hB⟩
  exact ⟨ao, cap, rfl, hP, hB⟩
theorem owns_pairsL {w : World} {base : Nat} {ao : Option Addr} {cap : Nat} {qs : List (List UInt8 × List UInt8)} (h : w.ownsRow base 29 2 (.slice ao qs.length cap) qs.length (qs.flatMap pairV)) : PairsAt w ao qs := by
  obtain ⟨ao', cap', hv, _, hP⟩ := owns_pairs h
  simp only [Value.slice.injEq] at hv
  obtain ⟨rfl, _, rfl⟩ := hv
  exact hP
theorem pairs_cell {w : World} {ao : Option Addr} {ps : List (List UInt8 × List UInt8)} (h : PairsAt w ao ps) (k : Nat) (hk : k < ps.length) : ∃ g, ao = some ⟨g, 0, none⟩ ∧ w.cell? ⟨g, k * 2, none⟩ = some (.string ⟨ps[k].1.toArray⟩) ∧ w.cell? ⟨g, k * 2 + 1, none⟩ = some (.string ⟨ps[k].2.toArray⟩) := by
  obtain ⟨g, h1, h2, h3⟩ := h k hk
  exact ⟨g, h1, by rw [Nat.mul_comm]; exact h2, by rw [Nat.mul_comm]; exact h3⟩

set_option maxHeartbeats 4000000 in
set_option maxRecDepth 100000 in
theorem fieldPairs_walk (a0 : Option Addr) (len0 cap0 : Nat) (z : Nat → Int) (gaps : Int) (w : World) (henv : Env w) (hrow : RowI w a0 len0 z) :
    Calls Tryd.prog 5 #[.slice a0 len0 cap0, .int .i64 gaps] w fun e w' => e = .returned (.bool true) ∧ Below w.heap.size w w' := by
  obtain ⟨i0, hi, hz0, hz1, hz2⟩ := info_parts infoP
  by_cases h8 : 8 < (len0 : Int)
  · clear hrow
    go_enter Tryd.func5, Tryd.ntmps5
    go_wp2_with fail
    refine (awake3_any _ henv).mono ?_
    rintro e w1 ⟨rfl, hb1⟩
    go_wp2_with fail
    go_ret
    exact ⟨rfl, hb1⟩
  have HRow := hide hrow
  clear hrow
  have h8' : len0 ≤ 8 := by omega
  go_enter Tryd.func5, Tryd.ntmps5
  go_wp2_with fail
  go_loopw [8, 9, 10] (fun sv nv iv W => ∃ (k : Nat) (s : List UInt8) (want : List (List UInt8 × List UInt8)) (ao : Option Addr) (cv : Nat), k ≤ len0 ∧ iv = .int .i64 k ∧ sv = .string ⟨s.toArray⟩ ∧ nv = .slice ao want.length cv ∧ s.length ≤ 22 * k ∧ want.length ≤ k ∧ Hid (PairInv s want) ∧
      Hid (LitsAt W w.heap.size names4) ∧ Hid (LitsAt W (w.heap.size + 1) lows4) ∧ Hid (LitsAt W (w.heap.size + 1 + 1) vals5) ∧ Hid (W.ownsRow (w.heap.size + 3) 29 2 (.slice ao want.length cv) want.length (want.flatMap pairV)) ∧ Hid (Below w.heap.size w W) ∧ w.heap.size + 3 ≤ W.heap.size) (fun _ _ iv _ => len0 - (intOf iv).toNat)
  case atStart =>
    refine ⟨0, [], [], none, 0, Nat.zero_le _, rfl, rfl, rfl, by simp, by simp, pair_start, ?_, ?_, ?_, World.ownsRow_nil _ _ _ _, (((Below.refl _ _).alloc (Nat.le_refl _) _).alloc (by simp) _).alloc (by simp; omega) _, by simp⟩
    · exact (lits_new w names4 _).keep (((Below.refl _ _).alloc (Nat.le_refl _) _).alloc (by simp) _)
    · have h := (lits_new (w.alloc (Obj.cells (names4.map (fun l => Value.string ⟨l.toArray⟩)).toArray 9)) lows4 9).keep ((Below.refl _ _).alloc (Nat.le_refl _) (Obj.cells (vals5.map (fun l => Value.string ⟨l.toArray⟩)).toArray 9))
      have e : (w.alloc (Obj.cells (names4.map (fun l => Value.string ⟨l.toArray⟩)).toArray 9)).heap.size = w.heap.size + 1 := by simp
      rw [e] at h; exact h
    · have h := lits_new ((w.alloc (Obj.cells (names4.map (fun l => Value.string ⟨l.toArray⟩)).toArray 9)).alloc (Obj.cells (lows4.map (fun l => Value.string ⟨l.toArray⟩)).toArray 9)) vals5 9
      have e : ((w.alloc (Obj.cells (names4.map (fun l => Value.string ⟨l.toArray⟩)).toArray 9)).alloc (Obj.cells (lows4.map (fun l => Value.string ⟨l.toArray⟩)).toArray 9)).heap.size = w.heap.size + 1 + 1 := by simp
      rw [e] at h; exact h
  case round =>
    obtain ⟨k, s, want, ao, cv, hk, rfl, rfl, rfl, hsl, hwl, hinv, hA, hL, hV, hown, hB, hsz⟩ := hrel
    by_cases hlt : k < len0
    · obtain ⟨b, off, rfl, hbw, hcell⟩ := HRow.out.keep hB.out k hlt
      have hlI : (k : Int) < (len0 : Int) := by omega
      go_wp2_with fail
      refine (low_any _ _ _ (by decide) (by decide)).mono ?_
      rintro e w1 ⟨rfl, hw1⟩
      subst hw1
      obtain ⟨N, hN, hN40⟩ : ∃ N : Nat, low (z k) 40 = (N : Int) ∧ N < 40 := by
        have a := low_nn (z k) 40 (by decide)
        have b := low_lt (z k) 40 (by decide)
        exact ⟨(low (z k) 40).toNat, by omega, by omega⟩
      rw [hN]
      clear hN hcell
      obtain ⟨r, hr, hbits⟩ := and_mask (gaps / 2 ^ (2 * k)) 3 (by omega)
      have hbr : bits BinOp.and IntKind.i64 (gaps / 2 ^ (2 * k)) 3 = (r : Int) := hbits
      clear hbits
      have hr4 : r < 4 := by omega
      have hrI : (r : Int) < 4 := by omega
      have hS0 : w.heap.size < w1.heap.size := by omega
      have hS1 : w.heap.size + 1 < w1.heap.size := by omega
      have hS2 : w.heap.size + 1 + 1 < w1.heap.size := by omega
      have hlr : [Value.string ⟨#[]⟩, Value.string ⟨#[32]⟩, Value.string ⟨#[9, 32]⟩, Value.string ⟨#[32, 32]⟩][r] = .string ⟨(gapsP.getD r []).toArray⟩ := lits4 [] [32] [9, 32] [32, 32] r hr4
      obtain ⟨A, hAe⟩ : ∃ A, A = N % 4 := ⟨_, rfl⟩
      obtain ⟨V, hVe⟩ : ∃ V, V = N / 4 % 5 := ⟨_, rfl⟩
      obtain ⟨T, hTe⟩ : ∃ T, T = N % 3 := ⟨_, rfl⟩
      have ha4 : A < 4 := by omega
      have hv5 : V < 5 := by omega
      have ht3 : T < 3 := by omega
      have haI : (A : Int) < 4 := by omega
      have hvI : (V : Int) < 5 := by omega
      have htI : (T : Int) < 3 := by omega
      have ha : ((N : Int) % 4) = (A : Int) := by omega
      have hv : ((N : Int) / 4 % 5) = (V : Int) := by omega
      have ht : ((N : Int) % 3) = (T : Int) := by omega
      have hlt3 : [Value.string ⟨#[]⟩, Value.string ⟨#[59]⟩, Value.string ⟨#[32, 59, 32]⟩][T] = .string ⟨(trails3.getD T []).toArray⟩ := lits3 [] [59] [32, 59, 32] T ht3
      have hcA := hA.out A ha4
      have hcL := hL.out A ha4
      have hcV := hV.out V hv5
      have HN := hide (pair_next hinv.out hN40 hr4)
      have HPc : Hid (pieceP N r = gapsP.getD r [] ++ names4.getD (N % 4) [] ++ (if 0 < N / 4 % 5 ∨ 20 ≤ N then gapsP.getD r [] ++ [61] ++ gapsP.getD r [] ++ vals5.getD (N / 4 % 5) [] else []) ++ gapsP.getD r [] ++ [59] ++ trails3.getD (N % 3) []) := rfl
      rw [← hAe, ← hVe] at HN
      rw [← hAe, ← hVe, ← hTe] at HPc
      have l1 := (lenP4 ⟨r, hr4⟩).1
      have l2 := (lenP4 ⟨A, ha4⟩).2.1
      have l3 := (lenP4 ⟨A, ha4⟩).2.2
      have l4 := lenP5 ⟨V, hv5⟩
      have l5 := lenP3 ⟨T, ht3⟩
      simp only at l1 l2 l3 l4 l5
      clear hAe hVe hTe
      generalize gapsP.getD r [] = gp at *
      generalize names4.getD A [] = nm at *
      generalize lows4.getD A [] = lw at *
      generalize vals5.getD V [] = vl at *
      generalize trails3.getD T [] = tr at *
      obtain ⟨mid, hmid, hml⟩ : ∃ mid : List UInt8, mid = (if 0 < V ∨ 20 ≤ N then gp ++ [61] ++ gp ++ vl else []) ∧ mid.length ≤ 8 := by
        refine ⟨_, rfl, ?_⟩
        split
        · simp; omega
        · simp
      rw [← hmid] at HPc
      have HM := hide hmid
      clear hmid
      go_upto_region 13 with fail
      go_cut [57] (fun b wx => b = .bool (decide (0 < V ∨ 20 ≤ N)) ∧ wx = w1.alloc (Obj.cells #[Value.string ⟨#[]⟩, Value.string ⟨#[32]⟩, Value.string ⟨#[9, 32]⟩, Value.string ⟨#[32, 32]⟩] 9))
      case first =>
        by_cases c1 : 0 < V
        · have HE : Hid (decide (0 < V ∨ 20 ≤ N) = true) := decide_eq_true (.inl c1)
          have d1 : (0 : Int) < (V : Int) := by omega
          have d2 : (0 : Int) < (N : Int) / 4 % 5 := by omega
          clear c1
          go_wp2_with fail
          go_meet
          case rel => exact ⟨congrArg Value.bool HE.out.symm, rfl⟩
        · have d1 : ¬ (0 : Int) < (V : Int) := by omega
          have d2 : ¬ (0 : Int) < (N : Int) / 4 % 5 := by omega
          by_cases c2 : 20 ≤ N
          · have HE : Hid (decide (0 < V ∨ 20 ≤ N) = true) := decide_eq_true (.inr c2)
            have d3 : (20 : Int) ≤ (N : Int) := by omega
            clear c1 c2
            go_wp2_with fail
            go_meet
            case rel => exact ⟨congrArg Value.bool HE.out.symm, rfl⟩
          · have HE : Hid (decide (0 < V ∨ 20 ≤ N) = false) := decide_eq_false (by omega)
            have d3 : ¬ (20 : Int) ≤ (N : Int) := by omega
            clear c1 c2
            go_wp2_with fail
            go_meet
            case rel => exact ⟨congrArg Value.bool HE.out.symm, rfl⟩
      case rest =>
       obtain ⟨rfl, rfl⟩ := hcut
       go_upto_if 57 with fail
       go_cut [8] (fun sv wx => sv = .string ⟨(s ++ gp ++ nm ++ mid).toArray⟩ ∧ Hid (Below w1.heap.size w1 wx))
       case first =>
        cases hc : decide (0 < V ∨ 20 ≤ N) with
        | true =>
          have HE : Hid (mid = gp ++ [61] ++ gp ++ vl) := by unfold Hid; rw [HM.out, if_pos (of_decide_eq_true hc)]
          clear hc
          go_wp2_with fail
          go_meet
          case rel => exact ⟨congrArg Value.string (dataEq (by rw [HE.out]; simp)), (Below.refl _ _).alloc (Nat.le_refl _) _⟩
        | false =>
          have HE : Hid (mid = []) := by unfold Hid; rw [HM.out, if_neg (of_decide_eq_false hc)]
          clear hc
          go_wp2_with fail
          go_meet
          case rel => exact ⟨congrArg Value.string (dataEq (by rw [HE.out]; simp)), (Below.refl _ _).alloc (Nat.le_refl _) _⟩
       case rest =>
        obtain ⟨rfl, hb2⟩ := hcut
        have B2 := hide (hB.out.trans (hb2.out.mono hB.out.size))
        have A2 := hide (hA.out.keep hb2.out)
        have L2 := hide (hL.out.keep hb2.out)
        have V2 := hide (hV.out.keep hb2.out)
        have O2 := hide (owns_below hown.out hb2.out)
        have hz2' := hb2.out.size
        replace hcL := keepc hb2.out hcL
        replace hcV := keepc hb2.out hcV
        have HS : Hid (s ++ pieceP N r = s ++ gp ++ nm ++ mid ++ gp ++ [59] ++ tr) := by unfold Hid; rw [HPc.out]; simp
        clear hA hL hV hcA hbr hlr HM HPc hown hB hb2
        have hsm : (s ++ gp ++ nm ++ mid).length ≤ 22 * k + 16 := by simp; omega
        generalize s ++ gp ++ nm ++ mid = s1 at *
        have hS0 : w.heap.size < wc.heap.size := by omega
        have hS1 : w.heap.size + 1 < wc.heap.size := by omega
        have hS2 : w.heap.size + 1 + 1 < wc.heap.size := by omega
        go_upto_region 16 with fail
        obtain ⟨W5, hW5⟩ : ∃ W5, W5 = wc.alloc (Obj.cells #[Value.string ⟨#[]⟩, Value.string ⟨#[59]⟩, Value.string ⟨#[32, 59, 32]⟩] 9) := ⟨_, rfl⟩
        rw [← hW5]
        have hb5 : Below wc.heap.size wc W5 := by rw [hW5]; exact (Below.refl _ _).alloc (Nat.le_refl _) _
        clear hW5
        have B5 := hide (B2.out.trans (hb5.mono B2.out.size))
        have A5 := hide (A2.out.keep hb5)
        have L5 := hide (L2.out.keep hb5)
        have V5 := hide (V2.out.keep hb5)
        have O5 := hide (owns_below O2.out hb5)
        have hz5 := hb5.size
        replace hcL := keepc hb5 hcL
        replace hcV := keepc hb5 hcV
        have hsum : ((⟨s1.toArray⟩ : ByteArray) ++ ⟨gp.toArray⟩ ++ ⟨#[59]⟩ ++ ⟨tr.toArray⟩) = ⟨(s ++ pieceP N r).toArray⟩ := dataEq (by rw [HS.out]; simp)
        have hps : (s ++ pieceP N r).length ≤ 22 * (k + 1) := by rw [HS.out]; simp; omega
        rw [hsum]
        clear hsum HS hb5 A2 L2 V2 O2 B2 hS0 hS1 hS2
        generalize s ++ pieceP N r = s2 at *
        have hS0 : w.heap.size < W5.heap.size := by omega
        have hS1 : w.heap.size + 1 < W5.heap.size := by omega
        have hS2 : w.heap.size + 1 + 1 < W5.heap.size := by omega
        have HBs : Hid (∀ j, (Value.slice ao want.length cv).ownBlock = some j → w.heap.size + 3 ≤ j) := fun j hj => owns_base O5.out j hj
        have f1 : Hid (∀ o, (W5.alloc o).drew.ownsRow (w.heap.size + 3) 29 2 (.slice ao want.length cv) want.length (want.flatMap pairV)) := fun o => owns_drew (O5.out.alloc o)
        have f2 : Hid (∀ u ∈ [Value.string ⟨lw.toArray⟩, Value.string ⟨vl.toArray⟩], u.oneCell' = true) := fun x hx => by simp at hx; rcases hx with rfl | rfl <;> rfl
        have f3 : Hid (want.length + 1 ≤ maxLen) := by unfold Hid maxLen; omega
        have f4 : Hid ((want.length + 1) * 32 ≤ 140737488355328) := by unfold Hid; omega
        have f5 : Hid (∀ o, w.heap.size + 3 ≤ ((W5.alloc o).drew).heap.size) := fun o => by show w.heap.size + 3 ≤ (W5.alloc o).heap.size; simp; omega
        have g1 : (N : Int).tmod 4 = (A : Int) := by rw [Int.tmod_eq_emod_of_nonneg (by omega)]; exact ha
        have g2 : (N : Int).tdiv 4 = ((N / 4 : Nat) : Int) := by rw [Int.tdiv_eq_ediv_of_nonneg (by omega)]; omega
        have g3 : ((N / 4 : Nat) : Int).tmod 5 = (V : Int) := by rw [Int.tmod_eq_emod_of_nonneg (by omega)]; omega
        have g4 : ((N : Int) / 4).tmod 5 = (V : Int) := by rw [Int.tmod_eq_emod_of_nonneg (by omega)]; exact hv
        have g5 : ((N : Int).tdiv 4).tmod 5 = (V : Int) := by rw [g2]; exact g3
        have g6 : (IntKind.i64.wrap ((N : Int) / 4)).tmod 5 = (V : Int) := by rw [show (N : Int) / 4 = ((N / 4 : Nat) : Int) by omega, wrap_i64_small _ (by omega)]; exact g3
        clear g2 g3
        go_region_law (refine step_append_own rfl (.tmp 81) (.tmp 94) 26 rfl (w.heap.size + 3) 29 i0 _ 2 32 Tryd.underlying26 hi hz0 hz1 hz2 rfl (by decide) (.slice ao want.length cv) want.length (want.flatMap pairV) (by simp [Act.eval]) (f1.out _) ⟨W5.heap.size, 0, none⟩ 1 1 [.string ⟨lw.toArray⟩, .string ⟨vl.toArray⟩] (by simp [Act.eval]) rfl (cell_two_drew _ _ _ _) f2.out f3.out f4.out (f5.out _) ?_; intro v' w6 hown' hgrow6)
        all_goals go_wp2_with fail
        all_goals (
          have B6 : Below (w.heap.size + 3) W5 w6 := Below.trans (((Below.refl _ _).alloc (by omega) _).drew) (Below.grown (Below.refl _ _) hgrow6 (f5.out _) HBs.out)
          obtain ⟨ao2, cv2, hv2, hown3⟩ := pairs_roundB (x := (lw, vl)) hown'
          have hq1 : (want ++ [(lw, vl)]).length ≤ k + 1 := by rw [List.length_append, List.length_singleton]; omega
          have hz6 := B6.size
          exact ⟨⟨k + 1, s2, want ++ [(lw, vl)], ao2, cv2, by omega, by go_num, rfl, hv2, hps, hq1, HN, A5.out.keepB B6 (by omega), L5.out.keepB B6 (by omega), V5.out.keepB B6 (by omega), hown3, B5.out.trans (B6.mono (by omega)), by omega⟩, by simp [intOf]; omega⟩)
    · have hkl : k = len0 := by omega
      have E0 := hide (henv.keep hB.out)
      have P0 := hide (owns_pairsL hown.out)
      have hs2 : s.length ≤ 200 := by omega
      clear hkl HRow
      go_wp2_with fail
      refine (pairs_yes hinv.out hs2 _ E0.out).mono ?_
      rintro e w1 ⟨ao1, cap1, rfl, hP1, hb1⟩
      have B1 := hide (hB.out.trans (hb1.mono hB.out.size))
      have P1 := hide (P0.out.keep hb1)
      have HP1 := hide hP1
      clear hb1 hP1 P0 hA hL hV hown hinv E0
      go_wp2_with fail
      go_loopw [14] (fun iv W => ∃ q : Nat, q ≤ want.length ∧ iv = .int .i64 q ∧ Hid (Below w1.heap.size w1 W)) (fun iv _ => want.length - (intOf iv).toNat)
      case atStart => exact ⟨0, Nat.zero_le _, rfl, Below.refl _ _⟩
      case round =>
        obtain ⟨q, hq, rfl, hBq⟩ := hrel
        by_cases hqlt : q < want.length
        · obtain ⟨ga, rfl, hx1, hx2⟩ := pairs_cell (HP1.out.keep hBq.out) q hqlt
          obtain ⟨gb, rfl, hy1, hy2⟩ := pairs_cell (P1.out.keep hBq.out) q hqlt
          have hqI : (q : Int) < (want.length : Int) := by omega
          have ke := fun w a b c d => eqTwo w a b c d
          go_wp2_with fail
          go_quiet (fail)
          go_wp2_with fail
          refine ⟨⟨q + 1, by omega, by go_num, below_drewN hBq.out _⟩, by simp [intOf]; omega⟩
        · have BF := hide (B1.out.trans (hBq.out.mono B1.out.size))
          go_wp2_with fail
          refine (awake3_any _ (henv.keep BF.out)).mono ?_
          rintro e w2 ⟨rfl, hb2⟩
          have B2 := hide (BF.out.trans (hb2.mono BF.out.size))
          clear hb2
          go_wp2_with fail
          go_ret
          exact ⟨rfl, B2.out⟩
end Go.Proofs.YtaabficekcnlnaaDoor
