/- The walk over moatlaw5.CorsHeads, by what package cors answers. -/
import Derived.Test.YthljekiomfcjiaaL16
import Derived.Test.YthljekiomfcjiaaE6
import Derived.Test.YthljekiomfcjiaaStep
import Derived.Deep.DeepCutAuto
namespace Go.Proofs.Ythljekiomfcjiaa
open Go.RowKit Go.Proofs.Url

def nms6 : List (List UInt8) := [[120, 45, 97], [88, 45, 66], [120, 45, 99], [97, 99, 99, 101, 112, 116], [82, 97, 110, 103, 101], [120, 45, 102]]
def oth6 : List (List UInt8) := [[88, 45, 65], [120, 45, 98], [88, 45, 67], [113], [113], [88, 45, 102]]
def mth3 : List (List UInt8) := [mGET, mPOST, mPUT]
def lits2M : List (List UInt8) := [mDELETE, mPUT]
/-- The endpoint that it asks about. -/
def tabH (m : List UInt8) (hs : List (List UInt8)) (ho : Option Addr) (hc : Nat) (al : List (List UInt8)) (lo : Option Addr) (lc : Nat) (ms : List (List UInt8)) (mo : Option Addr) (mc : Nat) : Ep :=
  ⟨.string ⟨#[]⟩, .string ⟨#[]⟩, .bool false, .bool false, .slice none 0 0, .slice none 0 0, .bool false, .slice none 0 0, .slice none 0 0, .bool false, .bool false, .int .i64 (-1), .string ⟨#[]⟩, 0, m, hs, al, ms, true, false, [], ho, none, lo, mo, hc, 0, lc, mc⟩
/-- What is allowed, as bits say. -/
def al6 (b : Nat → Bool) (k : Nat) : List (List UInt8) := ((List.range k).filter b).map (fun j => oth6.getD j [])
theorem al6_next (b : Nat → Bool) (k : Nat) : al6 b (k + 1) = if b k then al6 b k ++ [oth6.getD k []] else al6 b k := by
  unfold al6
  rw [List.range_succ, List.filter_append, List.map_append]
  cases h : b k <;> simp [h]
theorem al6_len (b : Nat → Bool) (k : Nat) : (al6 b k).length ≤ k := by
  unfold al6
  rw [List.length_map]
  exact Nat.le_trans (List.length_filter_le _ _) (by simp)
def s34 (k : Nat) : Bool := (k == 3) || (k == 4)
def okk (b : Nat → Bool) (k : Nat) : Bool := (k == 3) || (k == 4) || b k
theorem nms6_head : ∀ k : Fin 6, headS (nms6.getD k []) = s34 k := by decide +kernel
theorem al6_b (b : Nat → Bool) : al6 b 6 = (if b 0 then [oth6.getD 0 []] else []) ++ (if b 1 then [oth6.getD 1 []] else []) ++ (if b 2 then [oth6.getD 2 []] else []) ++ (if b 3 then [oth6.getD 3 []] else []) ++ (if b 4 then [oth6.getD 4 []] else []) ++ (if b 5 then [oth6.getD 5 []] else []) := by
  simp only [al6_next]
  cases b 0 <;> cases b 1 <;> cases b 2 <;> cases b 3 <;> cases b 4 <;> cases b 5 <;> simp [al6]
def al6B (b0 b1 b2 b3 b4 b5 : Bool) : List (List UInt8) := (if b0 then [oth6.getD 0 []] else []) ++ (if b1 then [oth6.getD 1 []] else []) ++ (if b2 then [oth6.getD 2 []] else []) ++ (if b3 then [oth6.getD 3 []] else []) ++ (if b4 then [oth6.getD 4 []] else []) ++ (if b5 then [oth6.getD 5 []] else [])
theorem ok6 : ∀ (b0 b1 b2 b3 b4 b5 : Bool) (k : Fin 6), (headS (nms6.getD k []) || inLow (al6B b0 b1 b2 b3 b4 b5) (nms6.getD k [])) = (s34 k || [b0, b1, b2, b3, b4, b5].getD k false) := by decide +kernel
theorem okk_is (b : Nat → Bool) (k : Nat) (hk : k < 6) : (headS (nms6.getD k []) || inLow (al6 b 6) (nms6.getD k [])) = okk b k := by
  rw [al6_b]
  have := ok6 (b 0) (b 1) (b 2) (b 3) (b 4) (b 5) ⟨k, hk⟩
  unfold al6B at this
  rw [this]
  unfold s34 okk
  match k, hk with
  | 0, _ => rfl
  | 1, _ => rfl
  | 2, _ => rfl
  | 3, _ => rfl
  | 4, _ => rfl
  | 5, _ => rfl
theorem allow6 (b : Nat → Bool) (ks : List Nat) (h : ∀ k ∈ ks, k < 6) : allowS (ks.map (fun k => nms6.getD k [])) (al6 b 6) = ks.all (okk b) := by
  unfold allowS
  rw [List.all_map]
  induction ks with
  | nil => rfl
  | cons x xs ih =>
    rw [List.all_cons, List.all_cons, ih (fun k hk => h k (List.mem_cons_of_mem _ hk))]
    show ((headS (nms6.getD x []) || inLow (al6 b 6) (nms6.getD x [])) && _) = _
    rw [okk_is b x (h x (List.mem_cons_self ..))]
theorem simple6 (m : List UInt8) (ks : List Nat) (h : ∀ k ∈ ks, k < 6) : simpleS m (ks.map (fun k => nms6.getD k [])) = (methodS m && ks.all s34) := by
  unfold simpleS
  rw [List.all_map]
  congr 1
  induction ks with
  | nil => rfl
  | cons x xs ih =>
    rw [List.all_cons, List.all_cons, ih (fun k hk => h k (List.mem_cons_of_mem _ hk))]
    show (headS (nms6.getD x []) && _) = _
    rw [show headS (nms6.getD x []) = s34 x from nms6_head ⟨x, h x (List.mem_cons_self ..)⟩]
theorem lits3m (r : Nat) (hr : r < 3) : [Value.string ⟨#[71, 69, 84]⟩, .string ⟨#[80, 79, 83, 84]⟩, .string ⟨#[80, 85, 84]⟩][r] = .string ⟨(mth3.getD r []).toArray⟩ := by
  match r, hr with
  | 0, _ => rfl
  | 1, _ => rfl
  | 2, _ => rfl
theorem mth3_ok : ∀ r : Fin 3, methodS (mth3.getD r []) = !(mth3.getD r [] == mPUT) ∧ (mth3.getD r []).length ≤ 4 := by decide +kernel
theorem mth3_ms : ∀ r : Fin 3, (methodS (mth3.getD r []) || lits2M.contains (mth3.getD r [])) = true := by decide +kernel

def msL (ls : Bool) : List (List UInt8) := if ls then lits2M else []
theorem nms_small (k : Nat) : (nms6.getD k []).length ≤ 6 := by
  match k with
  | 0 => decide
  | 1 => decide
  | 2 => decide
  | 3 => decide
  | 4 => decide
  | 5 => decide
  | k + 6 => simp [nms6]
theorem oth_small (k : Nat) : (oth6.getD k []).length ≤ 6 := by
  match k with
  | 0 => decide
  | 1 => decide
  | 2 => decide
  | 3 => decide
  | 4 => decide
  | 5 => decide
  | k + 6 => simp [oth6]
section
variable {w W : World} {g : Nat} {m : List UInt8} {hs : List (List UInt8)} {ho : Option Addr} {hc : Nat} {al : List (List UInt8)} {lo : Option Addr} {lc : Nat} {mo : Option Addr} {mc : Nat}
theorem tabH_ms (h : Box w W g (tabH m hs ho hc al lo lc [] mo mc)) (f : EpFar W g (tabH m hs ho hc al lo lc [] mo mc)) :
    Box w ((W.setCell ⟨g, 19, none⟩ (.slice (some ⟨W.heap.size, 0, none⟩) 2 2)).alloc (Obj.cells (lits2M.map (fun l => Value.string ⟨l.toArray⟩)).toArray 9)) g (tabH m hs ho hc al lo lc lits2M (some ⟨W.heap.size, 0, none⟩) 2) ∧ EpFar ((W.setCell ⟨g, 19, none⟩ (.slice (some ⟨W.heap.size, 0, none⟩) 2 2)).alloc (Obj.cells (lits2M.map (fun l => Value.string ⟨l.toArray⟩)).toArray 9)) g (tabH m hs ho hc al lo lc lits2M (some ⟨W.heap.size, 0, none⟩) 2) := by
  have f' := f.but (but_lit W g 19 (.slice (some ⟨W.heap.size, 0, none⟩) 2 2) (Obj.cells (lits2M.map (fun l => Value.string ⟨l.toArray⟩)).toArray 9))
  exact ⟨box_lit 19 _ _ h (by decide) rfl, ⟨f'.hs, f'.al, far_lit W g 19 _ lits2M 9 h.hi, f'.cs⟩⟩
theorem tabH_small (ls : Bool) (h1 : hs.length ≤ 6) (h2 : al.length ≤ 6) (h3 : ∀ h ∈ hs, h.length ≤ 6) (h4 : ∀ h ∈ al, h.length ≤ 6) : EpSmall (tabH m hs ho hc al lo lc (msL ls) mo mc) := by
  refine ⟨?_, ?_, ?_, ?_, ?_, ?_⟩
  · show ([] : List Int).length < _; decide
  · show hs.length < _; omega
  · show al.length < _; omega
  · show (msL ls).length < _; cases ls <;> decide
  · show ∀ h ∈ hs, _; intro h hh; have := h3 h hh; omega
  · show ∀ h ∈ al, _; intro h hh; have := h4 h hh; omega
theorem tabH_ahead {P ab : Bool} {ks : List Nat} {ms : List (List UInt8)} (h1 : methodS m = !P) (h2 : hs = ks.map (fun k => nms6.getD k [])) (h3 : ∀ k ∈ ks, k < 6) (h4 : ab = (P || !ks.all s34)) : (tabH m hs ho hc al lo lc ms mo mc).ahead (-1) true = ab := by
  show (!decide ((-1 : Int) = 0) && !simpleS m (if true then hs else [])) = ab
  rw [if_pos rfl, h2, simple6 m ks h3, h1, h4]
  cases P <;> simp
theorem tabH_aheadN {P : Bool} {ms : List (List UInt8)} (h1 : methodS m = !P) : (tabH m hs ho hc al lo lc ms mo mc).ahead (-1) false = P := by
  show (!decide ((-1 : Int) = 0) && !simpleS m (if false = true then hs else [])) = P
  rw [if_neg (by decide)]
  unfold simpleS
  rw [h1]
  cases P <;> simp
theorem tabH_may {P ab mb ls : Bool} {ks : List Nat} {b : Nat → Bool} (h1 : methodS m = !P) (h2 : hs = ks.map (fun k => nms6.getD k [])) (h3 : ∀ k ∈ ks, k < 6) (h4 : ab = (P || !ks.all s34)) (h5 : mb = ks.all (okk b)) (h6 : al = al6 b 6) (h7 : (methodS m || lits2M.contains m) = true) :
    (tabH m hs ho hc al lo lc (msL ls) mo mc).may (-1) false true = (!ab || mb && (!P || ls)) ∧ (tabH m hs ho hc al lo lc (msL ls) mo mc).may (-1) true true = !ab ∧ (tabH m hs ho hc al lo lc (msL ls) mo mc).may (-1) false false = (!P || ls) := by
  have a1 := tabH_ahead (ho := ho) (hc := hc) (al := al) (lo := lo) (lc := lc) (mo := mo) (mc := mc) (ms := msL ls) h1 h2 h3 h4
  have a2 := tabH_aheadN (hs := hs) (ho := ho) (hc := hc) (al := al) (lo := lo) (lc := lc) (mo := mo) (mc := mc) (ms := msL ls) h1
  have ha : allowS hs al = mb := by rw [h2, h6, h5]; exact allow6 b ks h3
  have am : (methodS m || (msL ls).contains m) = (!P || ls) := by
    cases ls
    · rw [h1]; simp [msL]
    · rw [show msL true = lits2M from rfl, h7]; simp
  have l0 : letsS 0 true false [] (-1) false = true := by decide
  have l1 : letsS 0 true false [] (-1) true = false := by decide
  refine ⟨?_, ?_, ?_⟩
  · show (!(tabH m hs ho hc al lo lc (msL ls) mo mc).ahead (-1) true || (letsS 0 true false [] (-1) false && (methodS m || (msL ls).contains m) && (!true || allowS hs al))) = _
    rw [a1, ha, am, l0]
    cases mb <;> cases P <;> cases ls <;> simp
  · show (!(tabH m hs ho hc al lo lc (msL ls) mo mc).ahead (-1) true || (letsS 0 true false [] (-1) true && (methodS m || (msL ls).contains m) && (!true || allowS hs al))) = _
    rw [a1, l1]
    simp
  · show (!(tabH m hs ho hc al lo lc (msL ls) mo mc).ahead (-1) false || (letsS 0 true false [] (-1) false && (methodS m || (msL ls).contains m) && (!false || allowS hs al))) = _
    rw [a2, am, l0]
    cases P <;> cases ls <;> simp
end
theorem cell_one_row (w : World) (x : Value) (t : TypeId) : ∀ j u, [x][j]? = some u → (w.alloc (.cells #[x] t)).cell? ((⟨w.heap.size, 0, none⟩ : Addr).add j) = some u := by
  intro j u hj
  rw [show (⟨w.heap.size, 0, none⟩ : Addr).add j = ⟨w.heap.size, j, none⟩ by cases j <;> simp [Addr.add], World.cell?_alloc_new]
  simpa using hj
theorem cell_one_drew (w : World) (x : Value) (t : TypeId) : ∀ j u, [x][j]? = some u → ((w.alloc (.cells #[x] t)).drew).cell? ((⟨w.heap.size, 0, none⟩ : Addr).add j) = some u := cell_one_row w x t

set_option maxHeartbeats 4000000 in
set_option maxRecDepth 100000 in
theorem corsHeads_walk (ok : CorsOk) (a0 : Option Addr) (len0 cap0 : Nat) (z : Nat → Int) (allow meth : Int) (ls : Bool) (w : World) (hrow : RowI w a0 len0 z) :
    Calls Try.prog 5 #[.slice a0 len0 cap0, .int .i64 allow, .int .i64 meth, .bool ls] w fun r w' => r = .returned (.bool true) ∧ Below w.heap.size w w' := by
  have OK := hide ok
  clear ok
  obtain ⟨i0, hi, hz0, hz1, hz2⟩ := info_parts infoS
  by_cases h6 : 6 < (len0 : Int)
  · clear hrow hi hz0 hz1 hz2
    go_enter Try.func5, Try.ntmps5
    go_wp2_with fail
    refine (awake5_any OK.out _).mono ?_
    rintro e w1 ⟨rfl, hb1⟩
    go_wp2_with fail
    go_ret
    exact ⟨rfl, hb1⟩
  have HRow := hide hrow
  clear hrow
  have h6' : len0 ≤ 6 := by omega
  obtain ⟨M, hM, hM3⟩ : ∃ M : Nat, low meth 3 = (M : Int) ∧ M < 3 := by
    have a := low_nn meth 3 (by decide)
    have b := low_lt meth 3 (by decide)
    exact ⟨(low meth 3).toNat, by omega, by omega⟩
  have HM := hide hM
  clear hM
  have hmv := lits3m M hM3
  obtain ⟨m1, m2⟩ := mth3_ok ⟨M, hM3⟩
  have m3 := mth3_ms ⟨M, hM3⟩
  simp only at m1 m2 m3
  have hMI : (M : Int) < 3 := by omega
  generalize mth3.getD M [] = m at *
  have MS := hide m3
  clear m3
  obtain ⟨P, hP⟩ : ∃ P, (m == [80, 85, 84]) = P := ⟨_, rfl⟩
  replace m1 : methodS m = !P := by rw [← hP]; exact m1
  have MO := hide m1
  clear m1
  obtain ⟨BB, hBB⟩ : ∃ BB : Nat → Bool, ∀ k : Nat, (bits .and .i64 (allow / 2 ^ k) 1 == 1) = BB k := ⟨_, fun _ => rfl⟩
  have HBB := hide hBB
  clear hBB
  have HI := hide hi
  have HZ0 := hide hz0
  have HZ1 := hide hz1
  have HZ2 := hide hz2
  clear hi hz0 hz1 hz2
  go_enter Try.func5, Try.ntmps5
  go_wp2_with fail
  refine (low_any _ _ _ (by decide) (by decide)).mono ?_
  rintro e w1 ⟨rfl, hw1⟩
  rw [HM.out]
  have e1 : (w.alloc (Obj.cells (nms6.map (fun l => Value.string ⟨l.toArray⟩)).toArray 9)).heap.size = w.heap.size + 1 := by simp
  have e2 : ((w.alloc (Obj.cells (nms6.map (fun l => Value.string ⟨l.toArray⟩)).toArray 9)).alloc (Obj.cells (oth6.map (fun l => Value.string ⟨l.toArray⟩)).toArray 9)).heap.size = w.heap.size + 1 + 1 := by simp
  have la : LitsAt w1 w.heap.size nms6 := by
    rw [hw1]
    exact ((lits_new w nms6 9).keep ((Below.refl _ _).alloc (Nat.le_refl _) _)).keep ((Below.refl _ _).alloc (Nat.le_refl _) _)
  have lb : LitsAt w1 (w.heap.size + 1) oth6 := by
    have := lits_new (w.alloc (Obj.cells (nms6.map (fun l => Value.string ⟨l.toArray⟩)).toArray 9)) oth6 9
    rw [e1] at this
    rw [hw1]
    exact this.keep ((Below.refl _ _).alloc (Nat.le_refl _) _)
  have cM : w1.cell? ⟨w.heap.size + 1 + 1, M, none⟩ = some (.string ⟨m.toArray⟩) := by
    rw [hw1, ← hmv]
    have : ((((w.alloc (Obj.cells (nms6.map (fun l => Value.string ⟨l.toArray⟩)).toArray 9)).alloc (Obj.cells (oth6.map (fun l => Value.string ⟨l.toArray⟩)).toArray 9)).alloc (Obj.cells #[.string ⟨#[71, 69, 84]⟩, .string ⟨#[80, 79, 83, 84]⟩, .string ⟨#[80, 85, 84]⟩] 9))).cell? ⟨((w.alloc (Obj.cells (nms6.map (fun l => Value.string ⟨l.toArray⟩)).toArray 9)).alloc (Obj.cells (oth6.map (fun l => Value.string ⟨l.toArray⟩)).toArray 9)).heap.size, M, none⟩ = _ := World.cell?_alloc_new ..
    rw [e2] at this
    refine this.trans ?_
    simp [hM3]
  have b1 : Below w.heap.size w w1 := by
    rw [hw1]
    exact (((Below.refl _ _).alloc (Nat.le_refl _) _).alloc (by simp) _).alloc (by simp; omega) _
  have hsz : w.heap.size + 1 + 1 < w1.heap.size := by rw [hw1]; simp
  clear e1 e2 hw1 hmv
  obtain ⟨W1, hW1, bx, bl⟩ := box_laid w w1 (tabH m [] none 0 [] none 0 [] none 0) b1
  have HW := hide hW1
  have BX := hide bx
  have LA := hide (la.keep bl)
  have LB := hide (lb.keep bl)
  have TH : Hid ((w1.alloc (Obj.cells #[.string ⟨#[]⟩, .int .i64 0, .string ⟨#[]⟩, .string ⟨#[]⟩, .bool false, .bool false, .slice none 0 0, .slice none 0 0, .slice none 0 0, .bool false, .slice none 0 0, .slice none 0 0, .bool false, .bool false, .int .i64 0, .bool false, .bool false, .slice none 0 0, .slice none 0 0, .slice none 0 0, .string ⟨#[]⟩] 25)).there w1.heap.size 0 (tabH m [] none 0 [] none 0 [] none 0).cells.toArray.size) := there_new w1 epZero 25
  have ON : Hid ((tabH m [] none 0 [] none 0 [] none 0).cells.toArray.all (·.oneCell') = true) := by unfold Hid; kernel_rfl
  have IS : Hid ((Try.prog.info? 25).map (·.size) = some (tabH m [] none 0 [] none 0 [] none 0).cells.toArray.size) := by unfold Hid; kernel_rfl
  clear hW1 bx b1 bl la lb
  go_upto_region 5 with (refine wpList_store_mid rfl 25 _ _ rfl w1.heap.size 0 (tabH m [] none 0 [] none 0 [] none 0).cells.toArray rfl rfl TH.out IS.out ON.out ?_; rw [← HW.out])
  clear HW TH IS ON cM
  generalize w1.heap.size = g at *
  have c2 : W1.cell? ⟨g, 2, none⟩ = some (.string ⟨m.toArray⟩) := BX.out.cell 2 _ rfl
  have hgs := BX.out.hi
  go_quiet (fail)
  have bd := below_drewN (Below.refl W1.heap.size W1) nq
  have X1 := hide (BX.out.keep bd)
  replace LA := hide (LA.out.keep bd)
  replace LB := hide (LB.out.keep bd)
  clear BX c2 hgs bd
  generalize W1.drewN nq = W2 at *
  go_wp2_with fail
  go_loopw [12, 13, 14] (fun mv av iv W => ∃ (k : Nat) (ks : List Nat) (qs : List (List UInt8)) (mb ab : Bool) (ao : Option Addr) (cv : Nat), k ≤ len0 ∧ iv = .int .i64 k ∧ mv = .bool mb ∧ av = .bool ab ∧ qs.length ≤ k ∧ Hid (mb = ks.all (okk BB)) ∧ Hid (ab = (P || !ks.all s34)) ∧ Hid (qs = ks.map (fun k => nms6.getD k [])) ∧ Hid (∀ x ∈ ks, x < 6) ∧
      Hid (Box w W g (tabH m qs ao cv [] none 0 [] none 0)) ∧ Hid (W.ownsRow (g + 1) 9 1 (.slice ao qs.length cv) qs.length (qs.map (fun q => Value.string ⟨q.toArray⟩))) ∧ Hid (LitsAt W w.heap.size nms6) ∧ Hid (LitsAt W (w.heap.size + 1) oth6)) (fun _ _ iv _ => len0 - (intOf iv).toNat)
  case atStart => exact ⟨0, [], [], true, P, none, 0, Nat.zero_le _, rfl, rfl, rfl, by simp, rfl, by unfold Hid; simp, rfl, fun x hx => by simp at hx, X1, World.ownsRow_nil _ _ _ _, LA, LB⟩
  case round =>
    clear X1 LA LB
    obtain ⟨k, ks, qs, mb, ab, ao, cv, hk, rfl, rfl, rfl, hql, HMb, HAb, HQs, HK6, X1, O1, LA, LB⟩ := hrel
    by_cases hlt : k < len0
    · obtain ⟨b, off, rfl, hbw, hcell⟩ := HRow.out.keep X1.out.bel k hlt
      have hlI : (k : Int) < (len0 : Int) := by omega
      go_wp2_with fail
      refine (low_any _ _ _ (by decide) (by decide)).mono ?_
      rintro e w2 ⟨rfl, hw2⟩
      subst hw2
      obtain ⟨K, hK, hK6⟩ : ∃ K : Nat, low (z k) 6 = (K : Int) ∧ K < 6 := by
        have a := low_nn (z k) 6 (by decide)
        have b := low_lt (z k) 6 (by decide)
        exact ⟨(low (z k) 6).toNat, by omega, by omega⟩
      rw [hK]
      clear hK hcell
      have hKI : (K : Int) < 6 := by omega
      have hcA := LA.out K hK6
      have hdl : (nms6.getD K []).length ≤ 6 := by
        have : ∀ r : Fin 6, (nms6.getD r []).length ≤ 6 := by decide +kernel
        exact this ⟨K, hK6⟩
      have HQn : Hid (qs ++ [nms6.getD K []] = (ks ++ [K]).map (fun k => nms6.getD k [])) := by unfold Hid; rw [HQs.out]; simp
      generalize nms6.getD K [] = hd at *
      have HBs : Hid (∀ j, (Value.slice ao qs.length cv).ownBlock = some j → g + 1 ≤ j) := fun j hj => owns_base O1.out j hj
      have c8 : w2.cell? ⟨g, 8, none⟩ = some (.slice ao qs.length cv) := X1.out.cell 8 _ rfl
      have hgs : g < w2.heap.size := X1.out.hi
      have hS0 : w.heap.size < w2.heap.size := by omega
      have f1 : Hid (∀ o, (w2.alloc o).drew.ownsRow (g + 1) 9 1 (.slice ao qs.length cv) qs.length (qs.map (fun q => Value.string ⟨q.toArray⟩))) := fun o => owns_drew (O1.out.alloc o)
      have f2 : Hid (∀ u ∈ [Value.string ⟨hd.toArray⟩], u.oneCell' = true) := fun x hx => by simp at hx; subst hx; rfl
      have f3 : Hid (qs.length + 1 ≤ maxLen) := by unfold Hid maxLen; omega
      have f4 : Hid ((qs.length + 1) * 16 ≤ 140737488355328) := by unfold Hid; omega
      have f5 : Hid (∀ o, g + 1 ≤ ((w2.alloc o).drew).heap.size) := fun o => by show g + 1 ≤ (w2.alloc o).heap.size; simp; omega
      go_upto_region 10 with fail
      go_cut [15] (fun kv W => kv = .int .i64 K ∧ ∃ (ao6 : Option Addr) (cv6 : Nat), Hid (Box w W g (tabH m (qs ++ [hd]) ao6 cv6 [] none 0 [] none 0)) ∧ Hid (W.ownsRow (g + 1) 9 1 (.slice ao6 (qs ++ [hd]).length cv6) (qs ++ [hd]).length ((qs ++ [hd]).map (fun q => Value.string ⟨q.toArray⟩))) ∧ Hid (LitsAt W w.heap.size nms6) ∧ Hid (LitsAt W (w.heap.size + 1) oth6))
      case first => as_aux_lemma =>
        go_region_law (refine step_append_own rfl (.tmp 44) (.tmp 49) 23 rfl (g + 1) 9 i0 _ 1 16 Try.underlying23 HI.out HZ0.out HZ1.out HZ2.out rfl (by decide) (.slice ao qs.length cv) qs.length (qs.map (fun q => Value.string ⟨q.toArray⟩)) (by simp [Act.eval]) (f1.out _) ⟨w2.heap.size, 0, none⟩ 1 1 [.string ⟨hd.toArray⟩] (by simp [Act.eval]) rfl (cell_one_drew _ _ _) f2.out f3.out f4.out (f5.out _) ?_; intro v' w6 hown' hgrow6; obtain ⟨ao6, cv6, rfl, hown6⟩ := texts_roundB hown'; have B6 : Below (g + 1) w2 w6 := Below.trans (((Below.refl _ _).alloc (by omega) _).drew) (Below.grown (Below.refl _ _) hgrow6 (f5.out _) HBs.out); have X6 := hide (X1.out.keepB B6); have d8 := X6.out.cell 8 _ rfl; have ff8 := X6.out.free 8 (by decide))
        all_goals go_wp2_with fail
        all_goals go_meet
        all_goals (
          case rel =>
            have B7 := (B6.mono (Nat.le_succ g)).setCell (p := ⟨g, 8, none⟩) (Nat.le_refl g) (.slice ao6 (qs ++ [hd]).length cv6)
            refine ⟨rfl, ao6, cv6, ?_, ?_, LA.out.keepB (B := g) ?_ (by omega), LB.out.keepB (B := g) ?_ (by omega)⟩
            · exact X6.out.set 8 _ (by decide) (by simp [tabH, Ep.cells])
            · exact owns_set hown6.out g (by omega) 8 _
            · simpa using B7
            · simpa using B7)
      case rest =>
        obtain ⟨rfl, ao6, cv6, X6, O6, LA6, LB6⟩ := hcut
        clear X1 O1 LA LB HBs c8 hgs hS0 f1 f2 f3 f4 f5 hcA
        have HMn : Hid ((mb && okk BB K) = (ks ++ [K]).all (okk BB)) := by unfold Hid; rw [HMb.out]; simp
        have HAn : Hid ((ab || !s34 K) = (P || !(ks ++ [K]).all s34)) := by unfold Hid; rw [HAb.out]; cases P <;> simp
        have HKn : Hid (∀ x ∈ ks ++ [K], x < 6) := by
          intro x hx
          rw [List.mem_append, List.mem_singleton] at hx
          rcases hx with hx | rfl
          · exact HK6.out x hx
          · exact hK6
        have hq1 : (qs ++ [hd]).length ≤ k + 1 := by rw [List.length_append, List.length_singleton]; omega
        clear HMb HAb HQs HK6
        go_upto_region 11 with fail
        obtain ⟨WW, hWW⟩ : ∃ WW, WW = wc := ⟨_, rfl⟩
        subst hWW
        go_cut [12] (fun mv W => mv = .bool (mb && okk BB K) ∧ W = WW)
        case first => as_aux_lemma =>
          cases mb with
          | false =>
            go_wp2_with fail
            go_meet
            case rel => exact ⟨rfl, rfl⟩
          | true =>
            by_cases h3 : K = 3
            · have e : Hid (okk BB K = true) := by unfold Hid okk; simp [h3]
              have e3 : ((K : Int) == 3) = true := by simp [h3]
              clear h3
              go_wp2_with fail
              go_meet
              case rel => exact ⟨congrArg Value.bool (by rw [e.out]; rfl), rfl⟩
            · have e3 : ((K : Int) == 3) = false := by simp; omega
              by_cases h4 : K = 4
              · have e : Hid (okk BB K = true) := by unfold Hid okk; simp [h4]
                have e4 : ((K : Int) == 4) = true := by simp [h4]
                clear h3 h4
                go_wp2_with fail
                go_meet
                case rel => exact ⟨congrArg Value.bool (by rw [e.out]; rfl), rfl⟩
              · have e : Hid (okk BB K = BB K) := by unfold Hid okk; simp [h3, h4]
                have e4 : ((K : Int) == 4) = false := by simp; omega
                have eb := HBB.out K
                clear h3 h4
                go_wp2_with fail
                go_meet
                case rel => exact ⟨congrArg Value.bool (by rw [e.out]; first | rfl | simp), rfl⟩
        case rest =>
          obtain ⟨rfl, rfl⟩ := hcut
          generalize (mb && okk BB K) = mn at *
          cases ab with
          | true =>
            have HAv : Hid (true = (P || !(ks ++ [K]).all s34)) := HAn.out
            clear HAn
            go_wp2_with fail
            exact ⟨⟨k + 1, ks ++ [K], qs ++ [hd], mn, true, ao6, cv6, by omega, by go_num, rfl, rfl, hq1, HMn, HAv, HQn, HKn, X6, O6, LA6, LB6⟩, by simp [intOf]; omega⟩
          | false =>
            by_cases h3 : K = 3
            · have e : s34 K = true := by unfold s34; simp [h3]
              have HAv : Hid (false = (P || !(ks ++ [K]).all s34)) := by have := HAn.out; rw [e] at this; exact this
              have e3 : ((K : Int) != 3) = false := by simp [h3]
              clear h3 e HAn
              go_wp2_with fail
              exact ⟨⟨k + 1, ks ++ [K], qs ++ [hd], mn, false, ao6, cv6, by omega, by go_num, rfl, rfl, hq1, HMn, HAv, HQn, HKn, X6, O6, LA6, LB6⟩, by simp [intOf]; omega⟩
            · have e3 : ((K : Int) != 3) = true := by simp; omega
              by_cases h4 : K = 4
              · have e : s34 K = true := by unfold s34; simp [h4]
                have HAv : Hid (false = (P || !(ks ++ [K]).all s34)) := by have := HAn.out; rw [e] at this; exact this
                have e4 : ((K : Int) != 4) = false := by simp [h4]
                clear h3 h4 e HAn
                go_wp2_with fail
                exact ⟨⟨k + 1, ks ++ [K], qs ++ [hd], mn, false, ao6, cv6, by omega, by go_num, rfl, rfl, hq1, HMn, HAv, HQn, HKn, X6, O6, LA6, LB6⟩, by simp [intOf]; omega⟩
              · have e : s34 K = false := by unfold s34; simp [h3, h4]
                have HAv : Hid (true = (P || !(ks ++ [K]).all s34)) := by have := HAn.out; rw [e] at this; exact this
                have e4 : ((K : Int) != 4) = true := by simp; omega
                clear h3 h4 e HAn
                go_wp2_with fail
                exact ⟨⟨k + 1, ks ++ [K], qs ++ [hd], mn, true, ao6, cv6, by omega, by go_num, rfl, rfl, hq1, HMn, HAv, HQn, HKn, X6, O6, LA6, LB6⟩, by simp [intOf]; omega⟩
    · have HF3 := hide (headsFar_own O1.out (Nat.lt_succ_self g))
      have hq6 : qs.length ≤ 6 := by omega
      have hnI : ¬ (k : Int) < (len0 : Int) := by omega
      clear O1 LA HRow hlt hk hql
      obtain ⟨W3, hW3⟩ : ∃ W3, W3 = wr := ⟨_, rfl⟩
      subst hW3
      have hg3 : g < W3.heap.size := X1.out.hi
      have LB3 := LB
      have X3 := X1
      clear LB X1
      go_wp2_with fail
      go_loopw [16] (fun iv W => ∃ (j : Nat) (ar : List (List UInt8)) (lo : Option Addr) (lc : Nat), j ≤ 6 ∧ iv = .int .i64 j ∧ ar.length ≤ j ∧ Hid (ar = al6 BB j) ∧ Hid (Box w W g (tabH m qs ao cv ar lo lc [] none 0)) ∧ Hid (W.ownsRow W3.heap.size 9 1 (.slice lo ar.length lc) ar.length (ar.map (fun q => Value.string ⟨q.toArray⟩))) ∧ Hid (But g W3.heap.size W3 W) ∧ W3.heap.size ≤ W.heap.size) (fun iv _ => 6 - (intOf iv).toNat)
      case atStart => exact ⟨0, [], none, 0, by omega, rfl, by simp, rfl, X3, World.ownsRow_nil _ _ _ _, But.refl _ _ _, Nat.le_refl _⟩
      case round =>
        obtain ⟨j, ar, lo, lc, hj, rfl, hal, HAr, X4, O4, Bt, hs4⟩ := hrel
        by_cases hlt : j < 6
        · have hlI : (j : Int) < 6 := by omega
          have hcB := LB3.out j hlt
          have hcB' : wr.cell? ⟨w.heap.size + 1, j, none⟩ = some (.string ⟨(oth6.getD j []).toArray⟩) := by rw [Bt.out.cell (p := ⟨w.heap.size + 1, j, none⟩) (by show w.heap.size + 1 < W3.heap.size; omega) (by show w.heap.size + 1 ≠ g; omega)]; exact hcB
          clear hcB
          have HN6 := hide (al6_next BB j)
          have eb := HBB.out j
          cases hbj : BB j with
          | false =>
            rw [hbj] at eb HN6
            have HAn : Hid (ar = al6 BB (j + 1)) := by unfold Hid; rw [HN6.out]; exact HAr.out
            clear hbj HN6 HAr
            go_wp2_with fail
            exact ⟨⟨j + 1, ar, lo, lc, by omega, by go_num, by omega, HAn, X4, O4, Bt, hs4⟩, by simp [intOf]; omega⟩
          | true =>
            rw [hbj] at eb HN6
            have HAn : Hid (ar ++ [oth6.getD j []] = al6 BB (j + 1)) := by unfold Hid; rw [HN6.out, ← HAr.out]; rfl
            clear hbj HN6 HAr
            generalize oth6.getD j [] = hd at *
            have hq1 : (ar ++ [hd]).length ≤ j + 1 := by rw [List.length_append, List.length_singleton]; omega
            have HBs : Hid (∀ k, (Value.slice lo ar.length lc).ownBlock = some k → W3.heap.size ≤ k) := fun k hk => owns_base O4.out k hk
            have c18 : wr.cell? ⟨g, 18, none⟩ = some (.slice lo ar.length lc) := X4.out.cell 18 _ rfl
            have hgs : g < wr.heap.size := X4.out.hi
            have hS0 : w.heap.size + 1 < wr.heap.size := by omega
            have f1 : Hid (∀ o, (wr.alloc o).drew.ownsRow W3.heap.size 9 1 (.slice lo ar.length lc) ar.length (ar.map (fun q => Value.string ⟨q.toArray⟩))) := fun o => owns_drew (O4.out.alloc o)
            have f2 : Hid (∀ u ∈ [Value.string ⟨hd.toArray⟩], u.oneCell' = true) := fun x hx => by simp at hx; subst hx; rfl
            have f3 : Hid (ar.length + 1 ≤ maxLen) := by unfold Hid maxLen; omega
            have f4 : Hid ((ar.length + 1) * 16 ≤ 140737488355328) := by unfold Hid; omega
            have f5 : Hid (∀ o, W3.heap.size ≤ ((wr.alloc o).drew).heap.size) := fun o => by show W3.heap.size ≤ (wr.alloc o).heap.size; simp; omega
            go_upto_region 17 with fail
            go_region_law (refine step_append_own rfl (.tmp 87) (.tmp 92) 23 rfl W3.heap.size 9 i0 _ 1 16 Try.underlying23 HI.out HZ0.out HZ1.out HZ2.out rfl (by decide) (.slice lo ar.length lc) ar.length (ar.map (fun q => Value.string ⟨q.toArray⟩)) (by simp [Act.eval]) (f1.out _) ⟨wr.heap.size, 0, none⟩ 1 1 [.string ⟨hd.toArray⟩] (by simp [Act.eval]) rfl (cell_one_drew _ _ _) f2.out f3.out f4.out (f5.out _) ?_; intro v' w6 hown' hgrow6; obtain ⟨ao6, cv6, rfl, hown6⟩ := texts_roundB hown'; have B6 : Below W3.heap.size wr w6 := Below.trans (((Below.refl _ _).alloc (by omega) _).drew) (Below.grown (Below.refl _ _) hgrow6 (f5.out _) HBs.out); have X6 := hide (X4.out.keepB (B6.mono (by omega))); have d18 := X6.out.cell 18 _ rfl; have ff18 := X6.out.free 18 (by decide))
            all_goals go_wp2_with fail
            all_goals (
              have hz6 := B6.size
              have Bt6 := (Bt.out.trans (But.below B6)).set 18 (.slice ao6 (ar ++ [hd]).length cv6)
              have X7 : Box w (w6.setCell ⟨g, 18, none⟩ (.slice ao6 (ar ++ [hd]).length cv6)) g (tabH m qs ao cv (ar ++ [hd]) ao6 cv6 [] none 0) := X6.out.set 18 _ (by decide) (by simp [tabH, Ep.cells])
              have O7 := owns_set hown6.out g (by omega) 18 (.slice ao6 (ar ++ [hd]).length cv6)
              rw [show (ar ++ [hd]).length = ar.length + 1 by simp] at Bt6 X7 O7
              exact ⟨⟨j + 1, ar ++ [hd], ao6, cv6, by omega, by go_num, hq1, HAn, X7, (by unfold Hid; rw [show (ar ++ [hd]).length = ar.length + 1 by simp]; exact O7), Bt6, by rw [size_set]; omega⟩, by simp [intOf]; omega⟩)
        · have hj6 : j = 6 := by omega
          subst hj6
          have F4 : Hid (EpFar wr g (tabH m qs ao cv ar lo lc [] none 0)) := ⟨HF3.out.but Bt.out, headsFar_own O4.out hg3, headsFar_nil _ _ _, numsFar_nil _ _ _⟩
          clear O4 Bt HF3 LB3
          go_upto_if 95 with fail
          obtain ⟨WW, hWW⟩ : ∃ WW, WW = wr := ⟨_, rfl⟩
          subst hWW
          go_cut [12] (fun mv W => mv = .bool mb ∧ ∃ (mo : Option Addr) (mc : Nat), Hid (Box w W g (tabH m qs ao cv ar lo lc (msL ls) mo mc)) ∧ Hid (EpFar W g (tabH m qs ao cv ar lo lc (msL ls) mo mc)))
          case first => as_aux_lemma =>
            cases ls with
            | false =>
              go_wp2_with fail
              go_meet
              case rel => exact ⟨rfl, none, 0, X4, F4⟩
            | true =>
              have hgs : g < WW.heap.size := X4.out.hi
              have dd := X4.out.cell 19 _ rfl
              have ff := X4.out.free 19 (by decide)
              go_wp2_with fail
              go_meet
              case rel => exact ⟨rfl, _, _, (tabH_ms X4.out F4.out).1, (tabH_ms X4.out F4.out).2⟩
          case rest =>
            obtain ⟨rfl, mo, mc, X5, F5⟩ := hcut
            clear X4 F4 HI HZ0 HZ1 HZ2
            have h3 : ∀ h ∈ qs, h.length ≤ 6 := by
              intro h hh
              rw [HQs.out, List.mem_map] at hh
              obtain ⟨x, _, rfl⟩ := hh
              exact nms_small x
            have h4 : ∀ h ∈ ar, h.length ≤ 6 := by
              intro h hh
              rw [HAr.out] at hh
              unfold al6 at hh
              rw [List.mem_map] at hh
              obtain ⟨x, _, rfl⟩ := hh
              exact oth_small x
            obtain ⟨E, hE⟩ : ∃ E : Ep, E = tabH m qs ao cv ar lo lc (msL ls) mo mc := ⟨_, rfl⟩
            have SM : Hid (EpSmall E) := by rw [hE]; exact tabH_small ls hq6 hal h3 h4
            have ea : Hid (E.ahead (-1) true = ab) := by rw [hE]; exact tabH_ahead MO.out HQs.out HK6.out HAb.out
            obtain ⟨em1, em2, em3⟩ := tabH_may (ho := ao) (hc := cv) (lo := lo) (lc := lc) (mo := mo) (mc := mc) (ls := ls) MO.out HQs.out HK6.out HAb.out HMb.out HAr.out MS.out
            rw [← hE] at em1 em2 em3
            obtain ⟨mf, hmf⟩ : ∃ mf : Bool → Bool → Bool, ∀ c h, E.may (-1) c h = mf c h := ⟨_, fun _ _ => rfl⟩
            rw [hmf] at em1 em2 em3
            have EM1 := hide em1
            have EM2 := hide em2
            have EM3 := hide em3
            have cm := fun c h W q => OK.out.may E (-1) c h W q SM.out
            simp only [hmf] at cm
            have CM := hide cm
            have ca := fun W q => OK.out.ahead E (-1) false true W q SM.out
            simp only [ea.out] at ca
            have CA := hide ca
            have X6 : Hid (Box w wc g E) := by rw [hE]; exact X5
            have F6 : Hid (EpFar wc g E) := by rw [hE]; exact F5
            have c2 : wc.cell? ⟨g, 2, none⟩ = some (.string ⟨m.toArray⟩) := X5.out.cell 2 _ rfl
            clear h3 h4 ea em1 em2 em3 hmf cm ca X5 F5 hE HMb HAb HQs HK6 HAr MS MO
            have hPn : (m != [80, 85, 84]) = !P := by rw [← hP]; rfl
            go_upto_region 20 with fail
            obtain ⟨WW, hWW⟩ : ∃ WW, WW = wc := ⟨_, rfl⟩
            subst hWW
            go_cut [12] (fun mv W => mv = .bool (mb && (!P || ls)) ∧ W = WW)
            case first => as_aux_lemma =>
              cases mb with
              | false =>
                go_wp2_with fail
                go_meet
                case rel => exact ⟨rfl, rfl⟩
              | true =>
                cases P with
                | false =>
                  go_wp2_with fail
                  go_meet
                  case rel => exact ⟨rfl, rfl⟩
                | true =>
                  go_wp2_with fail
                  go_meet
                  case rel => exact ⟨rfl, rfl⟩
            case rest =>
              obtain ⟨rfl, rfl⟩ := hcut
              generalize (mb && (!P || ls)) = mn at *
              have hgs : g < wc.heap.size := X6.out.hi
              have QR := fun d os => (F6.out.but (But.below (below_regrown wc d os))).at
              have c3 := hide (fun d os => Calls.regrown_of (CA.out (Sort.grow (redrawn wc d) os) (QR d os)))
              have c5 := hide (fun c h d os => Calls.regrown_of (CM.out c h (Sort.grow (redrawn wc d) os) (QR d os)))
              have c7 := hide (fun d os => Calls.regrown_of (awake5_any OK.out (Sort.grow (redrawn wc d) os)))
              have RC : Hid (∀ W, (∃ p : Regrown, W = Sort.grow (redrawn wc p.d) p.os) → W.rangeAt g 0 E.cells) := by
                rintro W ⟨p, rfl⟩
                exact (X6.out.keep (below_regrown wc p.d p.os)).rg
              have IF : Hid ((Try.prog.info? 25).map (·.size) = some E.cells.length) := by unfold Hid; kernel_rfl
              have k2 := cell_regrown c2
              have e0 : (ab == ab) = true := by simp
              clear QR CA CM F6 c2
              cases ab with
              | false => as_aux_lemma =>
                have M1 : mf false true = true := by rw [EM1.out]; rfl
                have M2 : mf true true = true := by rw [EM2.out]; rfl
                cases P with
                | false =>
                  have M3 : mf false false = true := by rw [EM3.out]; rfl
                  clear EM1 EM2 EM3
                  go_upto_region 21 with fail
                  refine wp_region_quiet_below (by kernel_rfl) (by kernel_rfl) ?_
                  (refine wpQuiet_load rfl 25 _ rfl g 0 rfl E.cells _ RC.out Try.underlying25 rfl IF.out ?_; simp only [Act.put, List.setIfInBounds_toArray, List.set_cons_succ, List.set_cons_zero])
                  repeat (go_big_quiet_step (first | (go_at_call 11; exact c3.out _ _) | (go_at_call 13; exact c5.out _ _ _ _) | (go_at_call 8; exact c7.out _ _)))
                  (refine wpQuiet_load rfl 25 _ rfl g 0 rfl E.cells _ RC.out Try.underlying25 rfl IF.out ?_; simp only [Act.put, List.setIfInBounds_toArray, List.set_cons_succ, List.set_cons_zero])
                  repeat (go_big_quiet_step (first | (go_at_call 11; exact c3.out _ _) | (go_at_call 13; exact c5.out _ _ _ _) | (go_at_call 8; exact c7.out _ _)))
                  (refine wpQuiet_load rfl 25 _ rfl g 0 rfl E.cells _ RC.out Try.underlying25 rfl IF.out ?_; simp only [Act.put, List.setIfInBounds_toArray, List.set_cons_succ, List.set_cons_zero])
                  repeat (go_big_quiet_step (first | (go_at_call 11; exact c3.out _ _) | (go_at_call 13; exact c5.out _ _ _ _) | (go_at_call 8; exact c7.out _ _)))
                  (refine wpQuiet_load rfl 25 _ rfl g 0 rfl E.cells _ RC.out Try.underlying25 rfl IF.out ?_; simp only [Act.put, List.setIfInBounds_toArray, List.set_cons_succ, List.set_cons_zero])
                  repeat (go_big_quiet_step (first | (go_at_call 11; exact c3.out _ _) | (go_at_call 13; exact c5.out _ _ _ _) | (go_at_call 8; exact c7.out _ _)))
                  refine wpQuiet_nil ?_
                  rintro _ ⟨pq, rfl⟩
                  have hb5 := below_regrown wc pq.d pq.os
                  generalize Sort.grow (redrawn wc pq.d) pq.os = w5 at *
                  have B5 := hide (X6.out.bel.trans (hb5.mono X6.out.bel.size))
                  clear hb5 c3 c5 c7 RC k2
                  go_wp2_with fail
                  go_ret
                  exact ⟨rfl, B5.out⟩
                | true =>
                  have r2 : (ls == ls) = true := by simp
                  have M3 : mf false false = ls := by rw [EM3.out]; rfl
                  clear EM1 EM2 EM3
                  go_upto_region 21 with fail
                  refine wp_region_quiet_below (by kernel_rfl) (by kernel_rfl) ?_
                  (refine wpQuiet_load rfl 25 _ rfl g 0 rfl E.cells _ RC.out Try.underlying25 rfl IF.out ?_; simp only [Act.put, List.setIfInBounds_toArray, List.set_cons_succ, List.set_cons_zero])
                  repeat (go_big_quiet_step (first | (go_at_call 11; exact c3.out _ _) | (go_at_call 13; exact c5.out _ _ _ _) | (go_at_call 8; exact c7.out _ _)))
                  (refine wpQuiet_load rfl 25 _ rfl g 0 rfl E.cells _ RC.out Try.underlying25 rfl IF.out ?_; simp only [Act.put, List.setIfInBounds_toArray, List.set_cons_succ, List.set_cons_zero])
                  repeat (go_big_quiet_step (first | (go_at_call 11; exact c3.out _ _) | (go_at_call 13; exact c5.out _ _ _ _) | (go_at_call 8; exact c7.out _ _)))
                  (refine wpQuiet_load rfl 25 _ rfl g 0 rfl E.cells _ RC.out Try.underlying25 rfl IF.out ?_; simp only [Act.put, List.setIfInBounds_toArray, List.set_cons_succ, List.set_cons_zero])
                  repeat (go_big_quiet_step (first | (go_at_call 11; exact c3.out _ _) | (go_at_call 13; exact c5.out _ _ _ _) | (go_at_call 8; exact c7.out _ _)))
                  (refine wpQuiet_load rfl 25 _ rfl g 0 rfl E.cells _ RC.out Try.underlying25 rfl IF.out ?_; simp only [Act.put, List.setIfInBounds_toArray, List.set_cons_succ, List.set_cons_zero])
                  repeat (go_big_quiet_step (first | (go_at_call 11; exact c3.out _ _) | (go_at_call 13; exact c5.out _ _ _ _) | (go_at_call 8; exact c7.out _ _)))
                  refine wpQuiet_nil ?_
                  rintro _ ⟨pq, rfl⟩
                  have hb5 := below_regrown wc pq.d pq.os
                  generalize Sort.grow (redrawn wc pq.d) pq.os = w5 at *
                  have B5 := hide (X6.out.bel.trans (hb5.mono X6.out.bel.size))
                  clear hb5 c3 c5 c7 RC k2
                  go_wp2_with fail
                  go_ret
                  exact ⟨rfl, B5.out⟩
              | true => as_aux_lemma =>
                have M1 : mf false true = mn := by rw [EM1.out]; rfl
                have M2 : mf true true = false := by rw [EM2.out]; rfl
                have r1 : (mn == mn) = true := by simp
                cases P with
                | false =>
                  have M3 : mf false false = true := by rw [EM3.out]; rfl
                  clear EM1 EM2 EM3
                  go_upto_region 21 with fail
                  refine wp_region_quiet_below (by kernel_rfl) (by kernel_rfl) ?_
                  (refine wpQuiet_load rfl 25 _ rfl g 0 rfl E.cells _ RC.out Try.underlying25 rfl IF.out ?_; simp only [Act.put, List.setIfInBounds_toArray, List.set_cons_succ, List.set_cons_zero])
                  repeat (go_big_quiet_step (first | (go_at_call 11; exact c3.out _ _) | (go_at_call 13; exact c5.out _ _ _ _) | (go_at_call 8; exact c7.out _ _)))
                  (refine wpQuiet_load rfl 25 _ rfl g 0 rfl E.cells _ RC.out Try.underlying25 rfl IF.out ?_; simp only [Act.put, List.setIfInBounds_toArray, List.set_cons_succ, List.set_cons_zero])
                  repeat (go_big_quiet_step (first | (go_at_call 11; exact c3.out _ _) | (go_at_call 13; exact c5.out _ _ _ _) | (go_at_call 8; exact c7.out _ _)))
                  (refine wpQuiet_load rfl 25 _ rfl g 0 rfl E.cells _ RC.out Try.underlying25 rfl IF.out ?_; simp only [Act.put, List.setIfInBounds_toArray, List.set_cons_succ, List.set_cons_zero])
                  repeat (go_big_quiet_step (first | (go_at_call 11; exact c3.out _ _) | (go_at_call 13; exact c5.out _ _ _ _) | (go_at_call 8; exact c7.out _ _)))
                  (refine wpQuiet_load rfl 25 _ rfl g 0 rfl E.cells _ RC.out Try.underlying25 rfl IF.out ?_; simp only [Act.put, List.setIfInBounds_toArray, List.set_cons_succ, List.set_cons_zero])
                  repeat (go_big_quiet_step (first | (go_at_call 11; exact c3.out _ _) | (go_at_call 13; exact c5.out _ _ _ _) | (go_at_call 8; exact c7.out _ _)))
                  refine wpQuiet_nil ?_
                  rintro _ ⟨pq, rfl⟩
                  have hb5 := below_regrown wc pq.d pq.os
                  generalize Sort.grow (redrawn wc pq.d) pq.os = w5 at *
                  have B5 := hide (X6.out.bel.trans (hb5.mono X6.out.bel.size))
                  clear hb5 c3 c5 c7 RC k2
                  go_wp2_with fail
                  go_ret
                  exact ⟨rfl, B5.out⟩
                | true =>
                  have r2 : (ls == ls) = true := by simp
                  have M3 : mf false false = ls := by rw [EM3.out]; rfl
                  clear EM1 EM2 EM3
                  go_upto_region 21 with fail
                  refine wp_region_quiet_below (by kernel_rfl) (by kernel_rfl) ?_
                  (refine wpQuiet_load rfl 25 _ rfl g 0 rfl E.cells _ RC.out Try.underlying25 rfl IF.out ?_; simp only [Act.put, List.setIfInBounds_toArray, List.set_cons_succ, List.set_cons_zero])
                  repeat (go_big_quiet_step (first | (go_at_call 11; exact c3.out _ _) | (go_at_call 13; exact c5.out _ _ _ _) | (go_at_call 8; exact c7.out _ _)))
                  (refine wpQuiet_load rfl 25 _ rfl g 0 rfl E.cells _ RC.out Try.underlying25 rfl IF.out ?_; simp only [Act.put, List.setIfInBounds_toArray, List.set_cons_succ, List.set_cons_zero])
                  repeat (go_big_quiet_step (first | (go_at_call 11; exact c3.out _ _) | (go_at_call 13; exact c5.out _ _ _ _) | (go_at_call 8; exact c7.out _ _)))
                  (refine wpQuiet_load rfl 25 _ rfl g 0 rfl E.cells _ RC.out Try.underlying25 rfl IF.out ?_; simp only [Act.put, List.setIfInBounds_toArray, List.set_cons_succ, List.set_cons_zero])
                  repeat (go_big_quiet_step (first | (go_at_call 11; exact c3.out _ _) | (go_at_call 13; exact c5.out _ _ _ _) | (go_at_call 8; exact c7.out _ _)))
                  (refine wpQuiet_load rfl 25 _ rfl g 0 rfl E.cells _ RC.out Try.underlying25 rfl IF.out ?_; simp only [Act.put, List.setIfInBounds_toArray, List.set_cons_succ, List.set_cons_zero])
                  repeat (go_big_quiet_step (first | (go_at_call 11; exact c3.out _ _) | (go_at_call 13; exact c5.out _ _ _ _) | (go_at_call 8; exact c7.out _ _)))
                  refine wpQuiet_nil ?_
                  rintro _ ⟨pq, rfl⟩
                  have hb5 := below_regrown wc pq.d pq.os
                  generalize Sort.grow (redrawn wc pq.d) pq.os = w5 at *
                  have B5 := hide (X6.out.bel.trans (hb5.mono X6.out.bel.size))
                  clear hb5 c3 c5 c7 RC k2
                  go_wp2_with fail
                  go_ret
                  exact ⟨rfl, B5.out⟩
end Go.Proofs.Ythljekiomfcjiaa
