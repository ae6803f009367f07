/- What package cors answers, as contracts; moatlaw5.awake. -/
import Derived.Test.YthljekiomfcjiaaE3
namespace Go.Proofs.Ythljekiomfcjiaa
open Go.RowKit Go.Proofs.Url

structure EpSmall (e : Ep) : Prop where
  cs : e.cs.length < 4294967281
  hs : e.hs.length < 4294967281
  al : e.al.length < 4294967281
  ms : e.ms.length < 4294967281
  zh : ∀ h ∈ e.hs, h.length < 4294967281
  za : ∀ h ∈ e.al, h.length < 4294967281
def Ep.lets (e : Ep) (b : Int) (creds : Bool) : Bool := letsS e.o e.any e.cr e.cs b creds
def Ep.ahead (e : Ep) (b : Int) (heads : Bool) : Bool := aheadS e.o e.m e.hs b heads
def Ep.may (e : Ep) (b : Int) (creds heads : Bool) : Bool := mayS e.o e.m e.hs e.any e.cr e.cs e.al e.ms b creds heads
/-- What the walks over the landed package cors must give. -/
structure CorsOk : Prop where
  lets : ∀ (e : Ep) (b : Int) (creds : Bool) (w : World), EpAt w e → EpSmall e → Calls Try.prog 9 #[.agg e.cells.toArray, .int .i64 b, .bool creds] w fun r w' => r = .returned (.bool (e.lets b creds)) ∧ Below w.heap.size w w'
  ahead : ∀ (e : Ep) (b : Int) (creds heads : Bool) (w : World), EpAt w e → EpSmall e → Calls Try.prog 11 #[.agg e.cells.toArray, .int .i64 b, .bool creds, .bool heads] w fun r w' => r = .returned (.bool (e.ahead b heads)) ∧ Below w.heap.size w w'
  may : ∀ (e : Ep) (b : Int) (creds heads : Bool) (w : World), EpAt w e → EpSmall e → Calls Try.prog 13 #[.agg e.cells.toArray, .int .i64 b, .bool creds, .bool heads] w fun r w' => r = .returned (.bool (e.may b creds heads)) ∧ Below w.heap.size w w'

/-- The endpoint that awake asks about. -/
def ep0 : Ep := ⟨.string ⟨#[]⟩, .string ⟨#[]⟩, .bool false, .bool false, .slice none 0 0, .slice none 0 0, .bool false, .slice none 0 0, .slice none 0 0, .bool false, .bool false, .int .i64 (-1), .string ⟨#[]⟩, 0, mPUT, [], [], [], true, false, [], none, none, none, none, 0, 0, 0, 0⟩
theorem ep0_at (w : World) : EpAt w ep0 := ⟨fun k hk => absurd hk (by simp [ep0]), fun k hk => absurd hk (by simp [ep0]), fun k hk => absurd hk (by simp [ep0]), fun k hk => absurd hk (by simp [ep0])⟩
theorem ep0_small : EpSmall ep0 := ⟨by decide, by decide, by decide, by decide, fun h hh => absurd hh (by simp [ep0]), fun h hh => absurd hh (by simp [ep0])⟩
theorem ep0_1 : ep0.lets 0 true = true := by decide +kernel
theorem ep0_2 : ep0.lets 3 false = true := by decide +kernel
theorem ep0_3 : ep0.lets 3 true = false := by decide +kernel
theorem ep0_4 : ep0.ahead 3 false = true := by decide +kernel
theorem ep0_5 : ep0.may 3 false false = false := by decide +kernel
theorem ep0_6 : ep0.may 0 true true = true := by decide +kernel
/-- A load of a whole struct, where the operation's guard says yes. -/
theorem wpList_load_want {P : Program} {ops : Array Oper} {rest : List Oper} {op : Oper} {a : Act} {w : World} {Q : Exit → Act → World → Prop} (hw : Region.wanted op (yielded ops a.tmps) = true) (ty : TypeId) (x : Operand) (ho : op.op = .load ty x)
    (b o : Nat) (hx : a.eval x = .pointer (some ⟨b, o, none⟩)) (cs : List Value) (d : TypeDesc) (hc : w.rangeAt b o cs)
    (hu : P.underlying ty = some d) (hd : d.isRow = true) (hi : (P.info? ty).map (·.size) = some cs.length)
    (h : wpList P ops Q rest (a.put op.dst (.agg cs.toArray)) w) : wpList P ops Q (op :: rest) a w :=
  BigFrame.wpList_want hw fun _ hK => wp_load_mid ty x ho b o hx cs d hc hu hd hi (hK _ _ h)

theorem below_setCells {B : Nat} {a : World} {b : Nat} (hb : B ≤ b) : ∀ (vs : List Value) (o : Nat) (w : World), Below B a w → Below B a (w.setCells b o vs)
  | [], _, _, h => h
  | v :: r, o, w, h => by
    rw [World.setCells]
    exact below_setCells hb r (o + 1) _ (h.setCell (p := ⟨b, o, none⟩) hb v)
theorem there_new (w : World) (cs : List Value) (t : TypeId) : (w.alloc (Obj.cells cs.toArray t)).there w.heap.size 0 cs.length := by
  intro j hj
  rw [Nat.zero_add, World.cell?_alloc_new, World.frozen?_alloc_new]
  simp [hj]
def epZero : List Value := [.string ⟨#[]⟩, .int .i64 0, .string ⟨#[]⟩, .string ⟨#[]⟩, .bool false, .bool false, .slice none 0 0, .slice none 0 0, .slice none 0 0, .bool false, .slice none 0 0, .slice none 0 0, .bool false, .bool false, .int .i64 0, .bool false, .bool false, .slice none 0 0, .slice none 0 0, .slice none 0 0, .string ⟨#[]⟩]
/-- A variable of the type api.Endpoint, laid whole. -/
theorem ep_laid (w : World) (e : Ep) : ∃ W1, W1 = (w.alloc (Obj.cells #[.string ⟨#[]⟩, .int .i64 0, .string ⟨#[]⟩, .string ⟨#[]⟩, .bool false, .bool false, .slice none 0 0, .slice none 0 0, .slice none 0 0, .bool false, .slice none 0 0, .slice none 0 0, .bool false, .bool false, .int .i64 0, .bool false, .bool false, .slice none 0 0, .slice none 0 0, .slice none 0 0, .string ⟨#[]⟩] 25)).setCells w.heap.size 0 e.cells.toArray.toList ∧ W1.rangeAt w.heap.size 0 e.cells ∧ Below w.heap.size w W1 ∧ w.heap.size < W1.heap.size := by
  have ht : (w.alloc (Obj.cells epZero.toArray 25)).there w.heap.size 0 e.cells.length := there_new w epZero 25
  have hb : Below w.heap.size w ((w.alloc (Obj.cells epZero.toArray 25)).setCells w.heap.size 0 e.cells) := below_setCells (Nat.le_refl _) _ _ _ ((Below.refl _ _).alloc (Nat.le_refl _) _)
  have hr := World.rangeAt_setCells_same _ w.heap.size 0 e.cells ht
  refine ⟨_, rfl, hr, hb, ?_⟩
  have := hr 0 e.v0 rfl
  exact World.block_lt_of_cell? _ _ this

set_option maxHeartbeats 2000000 in
set_option maxRecDepth 100000 in
theorem awake5_any (ok : CorsOk) (w : World) :
    Calls Try.prog 8 #[] w fun r w' => r = .returned (.bool true) ∧ Below w.heap.size w w' := by
  have IF : Hid ((Try.prog.info? 25).map (·.size) = some ep0.cells.length) := by unfold Hid; kernel_rfl
  have OK := hide ok
  clear ok
  obtain ⟨W1, hW1, hr0, hb0, hg0⟩ := ep_laid w ep0
  have R0 := hide hr0
  have B0 := hide hb0
  have TH : Hid ((w.alloc (Obj.cells #[.string ⟨#[]⟩, .int .i64 0, .string ⟨#[]⟩, .string ⟨#[]⟩, .bool false, .bool false, .slice none 0 0, .slice none 0 0, .slice none 0 0, .bool false, .slice none 0 0, .slice none 0 0, .bool false, .bool false, .int .i64 0, .bool false, .bool false, .slice none 0 0, .slice none 0 0, .slice none 0 0, .string ⟨#[]⟩] 25)).there w.heap.size 0 ep0.cells.toArray.size) := there_new w epZero 25
  have ON : Hid (ep0.cells.toArray.all (·.oneCell') = true) := by unfold Hid; kernel_rfl
  have IS : Hid ((Try.prog.info? 25).map (·.size) = some ep0.cells.toArray.size) := by unfold Hid; kernel_rfl
  have HW := hide hW1
  clear hW1 hr0 hb0
  go_enter Try.func8, Try.ntmps8
  go_wp2_with (first | (refine wpList_store_mid rfl 25 _ _ rfl w.heap.size 0 ep0.cells.toArray rfl rfl TH.out IS.out ON.out ?_; rw [← HW.out]) | (refine wpList_load_mid rfl 25 _ rfl w.heap.size 0 rfl ep0.cells _ R0.out Try.underlying25 rfl IF.out ?_) | (refine wpList_load_want rfl 25 _ rfl w.heap.size 0 rfl ep0.cells _ R0.out Try.underlying25 rfl IF.out ?_))
  refine (OK.out.lets ep0 0 true _ (ep0_at _) ep0_small).mono ?_
  rintro r w1 ⟨rfl, hb1⟩
  rw [ep0_1]
  have B1 := hide (B0.out.trans (hb1.mono B0.out.size))
  have R1 := hide (range_keep R0.out hb1 hg0)
  have hg1 : w.heap.size < w1.heap.size := by have := hb1.size; omega
  clear hb1 R0 B0 HW TH ON IS
  go_wp2_with (first | (refine wpList_load_mid rfl 25 _ rfl w.heap.size 0 rfl ep0.cells _ R1.out Try.underlying25 rfl IF.out ?_) | (refine wpList_load_want rfl 25 _ rfl w.heap.size 0 rfl ep0.cells _ R1.out Try.underlying25 rfl IF.out ?_))
  refine (OK.out.lets ep0 3 false _ (ep0_at _) ep0_small).mono ?_
  rintro r w2 ⟨rfl, hb2⟩
  rw [ep0_2]
  have B2 := hide (B1.out.trans (hb2.mono B1.out.size))
  have R2 := hide (range_keep R1.out hb2 hg1)
  have hg2 : w.heap.size < w2.heap.size := by have := hb2.size; omega
  clear hb2 R1 B1 hg1
  go_wp2_with (first | (refine wpList_load_mid rfl 25 _ rfl w.heap.size 0 rfl ep0.cells _ R2.out Try.underlying25 rfl IF.out ?_) | (refine wpList_load_want rfl 25 _ rfl w.heap.size 0 rfl ep0.cells _ R2.out Try.underlying25 rfl IF.out ?_))
  refine (OK.out.lets ep0 3 true _ (ep0_at _) ep0_small).mono ?_
  rintro r w3 ⟨rfl, hb3⟩
  rw [ep0_3]
  have B3 := hide (B2.out.trans (hb3.mono B2.out.size))
  have R3 := hide (range_keep R2.out hb3 hg2)
  have hg3 : w.heap.size < w3.heap.size := by have := hb3.size; omega
  clear hb3 R2 B2 hg2
  go_wp2_with (first | (refine wpList_load_mid rfl 25 _ rfl w.heap.size 0 rfl ep0.cells _ R3.out Try.underlying25 rfl IF.out ?_) | (refine wpList_load_want rfl 25 _ rfl w.heap.size 0 rfl ep0.cells _ R3.out Try.underlying25 rfl IF.out ?_))
  refine (OK.out.ahead ep0 3 false false _ (ep0_at _) ep0_small).mono ?_
  rintro r w4 ⟨rfl, hb4⟩
  rw [ep0_4]
  have B4 := hide (B3.out.trans (hb4.mono B3.out.size))
  have R4 := hide (range_keep R3.out hb4 hg3)
  have hg4 : w.heap.size < w4.heap.size := by have := hb4.size; omega
  clear hb4 R3 B3 hg3
  go_wp2_with (first | (refine wpList_load_mid rfl 25 _ rfl w.heap.size 0 rfl ep0.cells _ R4.out Try.underlying25 rfl IF.out ?_) | (refine wpList_load_want rfl 25 _ rfl w.heap.size 0 rfl ep0.cells _ R4.out Try.underlying25 rfl IF.out ?_))
  refine (OK.out.may ep0 3 false false _ (ep0_at _) ep0_small).mono ?_
  rintro r w5 ⟨rfl, hb5⟩
  rw [ep0_5]
  have B5 := hide (B4.out.trans (hb5.mono B4.out.size))
  have R5 := hide (range_keep R4.out hb5 hg4)
  have hg5 : w.heap.size < w5.heap.size := by have := hb5.size; omega
  clear hb5 R4 B4 hg4
  go_wp2_with (first | (refine wpList_load_mid rfl 25 _ rfl w.heap.size 0 rfl ep0.cells _ R5.out Try.underlying25 rfl IF.out ?_) | (refine wpList_load_want rfl 25 _ rfl w.heap.size 0 rfl ep0.cells _ R5.out Try.underlying25 rfl IF.out ?_))
  refine (OK.out.may ep0 0 true true _ (ep0_at _) ep0_small).mono ?_
  rintro r w6 ⟨rfl, hb6⟩
  rw [ep0_6]
  have B6 := hide (B5.out.trans (hb6.mono B5.out.size))
  have R6 := hide (range_keep R5.out hb6 hg5)
  have hg6 : w.heap.size < w6.heap.size := by have := hb6.size; omega
  clear hb6 R5 B5 hg5
  go_wp2_with fail
  go_ret
  exact ⟨rfl, B6.out⟩
end Go.Proofs.Ythljekiomfcjiaa
