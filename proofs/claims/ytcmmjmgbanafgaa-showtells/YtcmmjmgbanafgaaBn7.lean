import Derived.Test.YtcmmjmgbanafgaaBn6
import Derived.Test.YtcmmjmgbanafgaaBn3
import Derived.Test.YtcmmjmgbanafgaaBn4
import Derived.Deep.QuietTactic
import Derived.BigQuiet
/- The walks over show.holds, show.within, show.formula. -/
namespace Go.Proofs.Url
open Syn
/-- A formula's first word, and how fast it holds. -/
theorem shF_head : ∀ {f : Fm} {x : Nd}, ShF x f → ∃ t1 r, x.1 = t1 :: r ∧ (t1.text, rankF f) ∈ [(w_or_, 1), (w_and_, 2), (w_not_, 3), ([99, 104, 97, 110, 103, 101, 100], 3), ([102, 111, 114, 103, 101, 100], 3), ([107, 110, 111, 119, 115], 3), ([115, 116, 111, 108, 101, 110], 3), ([114, 97, 110], 3)]
  | .un k nm a, x, ⟨t1, t2, h, _, h2, _, _, _, h3, _⟩ => by
    refine ⟨t1, [t2], by rw [h], ?_⟩
    rw [h2]
    show (k, 3) ∈ _
    simp only [words5, List.mem_cons, List.not_mem_nil, or_false] at h3
    rcases h3 with rfl | rfl | rfl | rfl | rfl <;> decide
  | .no f, x, ⟨t1, y, h, _, h2, _⟩ => ⟨t1, [], by rw [h], by rw [h2]; show (w_not_, 3) ∈ _; decide⟩
  | .both k f g, x, ⟨t1, y, z, h, _, h2, h3, _⟩ => by
    refine ⟨t1, [], by rw [h], ?_⟩
    rw [h2]
    rcases h3 with rfl | rfl
    · show (w_or_, 1) ∈ _; decide
    · show (w_and_, 2) ∈ _; decide
end Go.Proofs.Url
namespace Go.Proofs.Ytcmmjmgbanafgaa
open Go.RowKit Go.Proofs.Url Go.Proofs.Url.Syn

set_option maxHeartbeats 4000000 in
set_option maxRecDepth 100000 in
theorem shHolds_any (f : Fm) (x : Nd) (h : ShF x f) (a1 a2 : Option Addr) (c1 c2 : Nat) (w : World) (hN : NA w (fun k => k < w.heap.size) a1 a2 x) (hl : x.1.length ≤ 4294967280) :
    Calls Try.prog 57 #[.agg #[.slice a1 x.1.length c1, .slice a2 x.2.len c2]] w fun e w' => e = .returned (.int .i64 (rankF f)) ∧ Below w.heap.size w w' := by
  obtain ⟨t1, r, hx, hm⟩ := shF_head h
  have hk : 0 < x.1.length := by rw [hx]; simp
  obtain ⟨q, rfl, hq, k1, k2, k3⟩ := hN.t 0 hk
  have e3 : x.1[0] = t1 := by simp [hx]
  rw [e3] at k3
  have hlt : (0 : Int) < (x.1.length : Int) := by omega
  have hq : q < w.heap.size := hq
  clear hN e3 hx k1 k2 h hk
  generalize hL : x.1.length = L at *
  generalize hR : x.2.len = M at *
  generalize rankF f = rk at *
  have HL := hide hl
  clear hL hR hl
  obtain ⟨tk, ta, tt⟩ := t1
  replace k3 : w.cell? ⟨q, 2, none⟩ = some (.string ⟨tt.toArray⟩) := k3
  replace hm : (tt, rk) ∈ _ := hm
  simp only [List.mem_cons, List.not_mem_nil, or_false, Prod.mk.injEq] at hm
  obtain ⟨W0, hW0⟩ : ∃ v, v = w.alloc (Obj.cells #[.slice (some ⟨q, 0, none⟩) L c1, .slice a2 M c2] 51) := ⟨_, rfl⟩
  have b0 : Below w.heap.size w W0 := by rw [hW0]; exact (Below.refl _ _).alloc (Nat.le_refl _) _
  have x0 : W0.cell? ⟨w.heap.size, 0, none⟩ = some (.slice (some ⟨q, 0, none⟩) L c1) := by rw [hW0]; simp
  have k4 : W0.cell? ⟨q, 2, none⟩ = some (.string ⟨tt.toArray⟩) := by rw [b0.cell hq]; exact k3
  have hqw : q < W0.heap.size := by have := b0.size; omega
  have hww : w.heap.size < W0.heap.size := World.block_lt_of_cell? W0 _ x0
  have B0 := hide b0
  clear b0 k3
  rcases hm with ⟨rfl, rfl⟩ | ⟨rfl, rfl⟩ | ⟨rfl, rfl⟩ | ⟨rfl, rfl⟩ | ⟨rfl, rfl⟩ | ⟨rfl, rfl⟩ | ⟨rfl, rfl⟩ | ⟨rfl, rfl⟩
  all_goals
    go_enter Try.func57, Try.ntmps57
    go_upto_region 1 with fail
    rw [← hW0]
    clear hW0
    go_wp2_with fail
    go_ret
    exact ⟨rfl, B0.out⟩
set_option maxHeartbeats 4000000 in
set_option maxRecDepth 100000 in
theorem shWithin_any (f : Fm) (x : Nd) (h : ShF x f) (a1 a2 : Option Addr) (c1 c2 : Nat) (w : World) (hN : NA w (fun k => k < w.heap.size) a1 a2 x) (m : Nat)
    (hf : ∀ W, NA W (fun k => k < W.heap.size) a1 a2 x → Calls Try.prog 31 #[.agg #[.slice a1 x.1.length c1, .slice a2 x.2.len c2]] W fun e w' => e = .returned (.string ⟨(prettyF f).toArray⟩) ∧ Below W.heap.size W w')
    (hl : x.1.length ≤ 4294967280) (hp : (prettyF f).length ≤ 4294967270) :
    Calls Try.prog 58 #[.agg #[.slice a1 x.1.length c1, .slice a2 x.2.len c2], .int .i64 m] w fun e w' => e = .returned (.string ⟨(wrF f m).toArray⟩) ∧ Below w.heap.size w w' := by
  obtain ⟨W0, hW0⟩ : ∃ v, v = w.alloc (Obj.cells #[.slice a1 x.1.length c1, .slice a2 x.2.len c2] 51) := ⟨_, rfl⟩
  have b0 : Below w.heap.size w W0 := by rw [hW0]; exact (Below.refl _ _).alloc (Nat.le_refl _) _
  have x0 : W0.cell? ⟨w.heap.size, 0, none⟩ = some (.slice a1 x.1.length c1) := by rw [hW0]; simp
  have x1 : W0.cell? ⟨w.heap.size, 1, none⟩ = some (.slice a2 x.2.len c2) := by rw [hW0]; simp
  have hww : w.heap.size < W0.heap.size := World.block_lt_of_cell? W0 _ x0
  have HN0 : Hid (NA W0 (fun k => k < W0.heap.size) a1 a2 x) := (hN.keep (KeptIn.belowK b0 fun _ h => h)).sub fun _ h => by have := b0.size; omega
  have B0 := hide b0
  have HF := hide hf
  have HP := hide hp
  have HH := hide (shHolds_any f x h a1 a2 c1 c2 W0 HN0.out hl)
  clear b0 hN hf hp h
  go_enter Try.func58, Try.ntmps58
  go_upto_region 1 with fail
  rw [← hW0]
  clear hW0
  go_wp2_with fail
  refine HH.out.mono ?_
  rintro e w1 ⟨rfl, hb1⟩
  have y0 : w1.cell? ⟨w.heap.size, 0, none⟩ = some (.slice a1 x.1.length c1) := by rw [hb1.cell hww]; exact x0
  have y1 : w1.cell? ⟨w.heap.size, 1, none⟩ = some (.slice a2 x.2.len c2) := by rw [hb1.cell hww]; exact x1
  have hw1 : w.heap.size < w1.heap.size := World.block_lt_of_cell? w1 _ y0
  have HN1 : Hid (NA w1 (fun k => k < w1.heap.size) a1 a2 x) := (HN0.out.keep (KeptIn.belowK hb1 fun _ h => h)).sub fun _ h => by have := hb1.size; omega
  have B1 := hide (B0.out.trans (hb1.mono B0.out.size))
  clear hb1 x0 x1 HN0 B0 HH
  by_cases hr : rankF f < m
  · have hrI : ((rankF f : Int) < (m : Int)) = True := eq_true (by omega)
    have HE : Hid (wrF f m = 40 :: (prettyF f ++ [41])) := by unfold Hid wrF wrapS; rw [if_pos hr]
    clear hr
    go_wp2_with fail
    refine (HF.out w1 HN1.out).mono ?_
    rintro e w2 ⟨rfl, hb2⟩
    have B2 := hide (B1.out.trans (hb2.mono B1.out.size))
    clear hb2
    have hlen := HP.out
    go_wp2_with fail
    go_ret
    exact ⟨congrArg Ending.returned (congrArg Value.string (dataEq (by rw [HE.out]; simp))), B2.out⟩
  · have hrI : ((rankF f : Int) < (m : Int)) = False := eq_false (by omega)
    have HE : Hid (wrF f m = prettyF f) := by unfold Hid wrF wrapS; rw [if_neg hr]
    clear hr
    go_wp2_with fail
    refine (HF.out w1 HN1.out).mono ?_
    rintro e w2 ⟨rfl, hb2⟩
    have B2 := hide (B1.out.trans (hb2.mono B1.out.size))
    clear hb2
    go_wp2_with fail
    go_ret
    exact ⟨congrArg Ending.returned (congrArg Value.string (dataEq (by rw [HE.out]))), B2.out⟩
end Go.Proofs.Ytcmmjmgbanafgaa

/- The walk over show.formula. -/
namespace Go.Proofs.Ytcmmjmgbanafgaa
open Go.RowKit Go.Proofs.Url Go.Proofs.Url.Syn

def ShFormOk (f : Fm) : Prop := ∀ (x : Nd) (a1 a2 : Option Addr) (c1 c2 : Nat) (w : World), ShF x f → NA w (fun k => k < w.heap.size) a1 a2 x → (prettyF f).length ≤ 4294967200 →
  Calls Try.prog 31 #[.agg #[.slice a1 x.1.length c1, .slice a2 x.2.len c2]] w fun e w' => e = .returned (.string ⟨(prettyF f).toArray⟩) ∧ Below w.heap.size w w'
theorem ShFormOk.within {f : Fm} (h : ShFormOk f) {x : Nd} (hx : ShF x f) {a1 a2 : Option Addr} (c1 c2 : Nat) {w : World} (hN : NA w (fun k => k < w.heap.size) a1 a2 x) (m : Nat) (hl : x.1.length ≤ 4294967280) (hp : (prettyF f).length ≤ 4294967200) :
    Calls Try.prog 58 #[.agg #[.slice a1 x.1.length c1, .slice a2 x.2.len c2], .int .i64 m] w fun e w' => e = .returned (.string ⟨(wrF f m).toArray⟩) ∧ Below w.heap.size w w' :=
  shWithin_any f x hx a1 a2 c1 c2 w hN m (fun W hW => h x a1 a2 c1 c2 W hx hW hp) hl (by omega)
theorem shF_two {f : Fm} {x : Nd} (h : ShF x f) : x.1.length ≤ 2 := by
  cases f with
  | un => obtain ⟨_, _, h, _⟩ := h; rw [h]; exact Nat.le_refl _
  | no => obtain ⟨_, _, h, _⟩ := h; rw [h]; exact (by decide : 1 ≤ 2)
  | both => obtain ⟨_, _, _, h, _⟩ := h; rw [h]; exact (by decide : 1 ≤ 2)
theorem NA.old {W W' : World} {a1 a2 : Option Addr} {x : Nd} (h : NA W (fun k => k < W.heap.size) a1 a2 x) (hb : Below W.heap.size W W') : NA W' (fun k => k < W'.heap.size) a1 a2 x :=
  (h.keep (KeptIn.belowK hb fun _ h => h)).sub fun _ h => by have := hb.size; omega
/-- A formula's own words. -/
def ownF : Fm → List UInt8
  | .un k nm _ => k ++ 32 :: nm
  | .no _ => w_not_
  | .both k _ _ => k
theorem own_words : ∀ {f : Fm} {x : Nd}, ShF x f → joinT x.1 = ownF f
  | .un k nm _, x, ⟨t1, t2, h, h1, h2, h3, h4, _⟩ => by
    rw [h, ← h2, ← h4]
    show wTok t1 ++ [t2].flatMap _ = _
    rw [List.flatMap_cons, wTok_plainV (by omega), wTok_plainV (by omega)]; simp [ownF]
  | .no f, x, ⟨t1, y, h, h1, h2, _⟩ => by
    rw [h]
    show wTok t1 ++ [] = _
    rw [List.append_nil, wTok_plainV (by omega), h2]; rfl
  | .both k f g, x, ⟨t1, y, z, h, h1, h2, _⟩ => by
    rw [h]
    show wTok t1 ++ [] = _
    rw [List.append_nil, wTok_plainV (by omega), h2]; rfl
theorem own_len (f : Fm) : (ownF f).length ≤ (prettyF f).length := by
  cases f with
  | un => exact Nat.le_refl _
  | no f => rw [pretty_no]; show w_not_.length ≤ _; rw [List.length_append]; omega
  | both k f g => rw [pretty_both]; show k.length ≤ _; simp only [List.length_append, List.length_cons]; omega
theorem wr_len (f : Fm) (m : Nat) : (prettyF f).length ≤ (wrF f m).length := by
  unfold wrF wrapS; split
  · simp; omega
  · exact Nat.le_refl _

set_option maxHeartbeats 8000000 in
set_option maxRecDepth 100000 in
theorem shForm_any : ∀ f : Fm, ShFormOk f := by
  intro f
  induction f with
  | un k nm a =>
    intro x a1 a2 c1 c2 w hS hN hp
    have hl := shF_two hS
    have hw := own_words hS
    have hwl := own_len (.un k nm a)
    rw [← hw] at hwl
    obtain ⟨W0, hW0⟩ : ∃ v, v = w.alloc (Obj.cells #[.slice a1 x.1.length c1, .slice a2 x.2.len c2] 51) := ⟨_, rfl⟩
    have b0 : Below w.heap.size w W0 := by rw [hW0]; exact (Below.refl _ _).alloc (Nat.le_refl _) _
    have x0 : W0.cell? ⟨w.heap.size, 0, none⟩ = some (.slice a1 x.1.length c1) := by rw [hW0]; simp
    have x1 : W0.cell? ⟨w.heap.size, 1, none⟩ = some (.slice a2 x.2.len c2) := by rw [hW0]; simp
    have hww : w.heap.size < W0.heap.size := World.block_lt_of_cell? W0 _ x0
    have HN0 := hide (hN.old b0)
    have cW := hide fun d os => Calls.regrown_of (words_any x a1 a2 c1 c2 (Sort.grow (redrawn W0 d) os) (HN0.out.old (below_regrown W0 d os)) (by omega) (by omega))
    have cH := hide fun d os => Calls.regrown_of (shHolds_any _ x hS a1 a2 c1 c2 (Sort.grow (redrawn W0 d) os) (HN0.out.old (below_regrown W0 d os)) (by omega))
    rw [hw] at cW
    have jj0 := cell_regrown x0
    have jj1 := cell_regrown x1
    have B0 := hide b0
    clear b0 hN
    go_enter Try.func31, Try.ntmps31
    go_upto_region 1 with fail
    rw [← hW0]
    clear hW0
    refine wp_region_quiet_below (by kernel_rfl) (by kernel_rfl) ?_
    repeat (quiet_step (first | exact cW.out _ _ | exact cH.out _ _))
    refine wpQuiet_nil ?_
    rintro _ ⟨pq, rfl⟩
    have hb2 := below_regrown W0 pq.d pq.os
    have k0 := jj0 pq.d pq.os
    have k1 := jj1 pq.d pq.os
    generalize Sort.grow (redrawn W0 pq.d) pq.os = w2 at *
    have B2 := hide (B0.out.trans (hb2.mono B0.out.size))
    have HN2 := hide (HN0.out.old hb2)
    have hw2 : w.heap.size < w2.heap.size := World.block_lt_of_cell? w2 _ k0
    clear jj0 jj1 x0 x1 hb2 cW cH HN0 B0
    obtain ⟨t1, t2, hx, _⟩ := hS
    have hlen : x.2.len = 0 := by rw [hx]; rfl
    rw [hlen] at k1
    rw [hlen]
    clear HN2 hx hw hwl hp hl
    go_wp2_with fail
    go_ret
    exact ⟨rfl, B2.out⟩
  | no f ih =>
    intro x a1 a2 c1 c2 w hS hN hp
    have hl := shF_two hS
    have hw := own_words hS
    have hwl := own_len (.no f)
    rw [← hw] at hwl
    obtain ⟨W0, hW0⟩ : ∃ v, v = w.alloc (Obj.cells #[.slice a1 x.1.length c1, .slice a2 x.2.len c2] 51) := ⟨_, rfl⟩
    have b0 : Below w.heap.size w W0 := by rw [hW0]; exact (Below.refl _ _).alloc (Nat.le_refl _) _
    have x0 : W0.cell? ⟨w.heap.size, 0, none⟩ = some (.slice a1 x.1.length c1) := by rw [hW0]; simp
    have x1 : W0.cell? ⟨w.heap.size, 1, none⟩ = some (.slice a2 x.2.len c2) := by rw [hW0]; simp
    have hww : w.heap.size < W0.heap.size := World.block_lt_of_cell? W0 _ x0
    have HN0 := hide (hN.old b0)
    have cW := hide fun d os => Calls.regrown_of (words_any x a1 a2 c1 c2 (Sort.grow (redrawn W0 d) os) (HN0.out.old (below_regrown W0 d os)) (by omega) (by omega))
    have cH := hide fun d os => Calls.regrown_of (shHolds_any _ x hS a1 a2 c1 c2 (Sort.grow (redrawn W0 d) os) (HN0.out.old (below_regrown W0 d os)) (by omega))
    rw [hw] at cW
    have jj0 := cell_regrown x0
    have jj1 := cell_regrown x1
    have B0 := hide b0
    clear b0 hN
    go_enter Try.func31, Try.ntmps31
    go_upto_region 1 with fail
    rw [← hW0]
    clear hW0
    refine wp_region_quiet_below (by kernel_rfl) (by kernel_rfl) ?_
    repeat (quiet_step (first | exact cW.out _ _ | exact cH.out _ _))
    refine wpQuiet_nil ?_
    rintro _ ⟨pq, rfl⟩
    have hb2 := below_regrown W0 pq.d pq.os
    have k0 := jj0 pq.d pq.os
    have k1 := jj1 pq.d pq.os
    generalize Sort.grow (redrawn W0 pq.d) pq.os = w2 at *
    have B2 := hide (B0.out.trans (hb2.mono B0.out.size))
    have HN2 := hide (HN0.out.old hb2)
    have hw2 : w.heap.size < w2.heap.size := World.block_lt_of_cell? w2 _ k0
    clear jj0 jj1 x0 x1 hb2 cW cH HN0 B0
    obtain ⟨t1, y, hx, _, h2, hy⟩ := hS
    have hx2 : x.2 = .cons y.1 y.2 .nil := by rw [hx]
    have hlen : x.2.len = 1 := by rw [hx2]; rfl
    obtain ⟨g', rfl, hg', hF⟩ := HN2.out.f.resolve_left (by rw [hx2]; simp)
    rw [hx2] at hF
    obtain ⟨e1, d1, e2, d2, k2, k3, ty, py, _⟩ := hF
    have hg' : g' < w2.heap.size := hg'
    have NY : Hid (NA w2 (fun k => k < w2.heap.size) e1 e2 y) := ⟨ty, py⟩
    have lb := pretty_no f
    have lb2 := congrArg List.length lb
    have lf := wr_len f 3
    simp only [List.length_append, List.length_cons] at lb2
    have ly := shF_two hy
    have cF := hide (ih.within hy d1 d2 NY.out 3 (by omega) (by omega))
    have HE : Hid (w_not_ ++ [32] ++ wrF f 3 = prettyF (.no f)) := by unfold Hid; rw [lb]; simp
    have L1 : Hid ((wrF f 3).length + 4 ≤ 4294967200) := by unfold Hid; have e : ([110, 111, 116] : List UInt8).length = 3 := rfl; omega
    have hown : ownF (.no f) = w_not_ := rfl
    rw [hown]
    have hr : rankF (.no f) = 3 := rfl
    rw [hr]
    rw [hlen] at k1
    rw [hlen]
    clear k0 ty py HN2 hx hx2 lb lb2 lf hw hwl hp ih hl hown NY ly hy h2
    generalize hA : wrF f 3 = A at *
    clear hA hlen
    have n0 : (9223372036854775807 < 4 + A.length) = False := eq_false (by have q := L1.out; omega)
    go_wp2_with fail
    refine cF.out.mono ?_
    rintro e w3 ⟨rfl, hb3⟩
    have B3 := hide (B2.out.trans (hb3.mono B2.out.size))
    clear cF hb3 k1 k2 k3
    go_wp2_with fail
    go_ret
    exact ⟨congrArg Ending.returned (congrArg Value.string (dataEq (by rw [← HE.out]; simp))), B3.out⟩
  | both k f g ihf ihg =>
    intro x a1 a2 c1 c2 w hS hN hp
    have hl := shF_two hS
    have hw := own_words hS
    have hwl := own_len (.both k f g)
    rw [← hw] at hwl
    obtain ⟨W0, hW0⟩ : ∃ v, v = w.alloc (Obj.cells #[.slice a1 x.1.length c1, .slice a2 x.2.len c2] 51) := ⟨_, rfl⟩
    have b0 : Below w.heap.size w W0 := by rw [hW0]; exact (Below.refl _ _).alloc (Nat.le_refl _) _
    have x0 : W0.cell? ⟨w.heap.size, 0, none⟩ = some (.slice a1 x.1.length c1) := by rw [hW0]; simp
    have x1 : W0.cell? ⟨w.heap.size, 1, none⟩ = some (.slice a2 x.2.len c2) := by rw [hW0]; simp
    have hww : w.heap.size < W0.heap.size := World.block_lt_of_cell? W0 _ x0
    have HN0 := hide (hN.old b0)
    have cW := hide fun d os => Calls.regrown_of (words_any x a1 a2 c1 c2 (Sort.grow (redrawn W0 d) os) (HN0.out.old (below_regrown W0 d os)) (by omega) (by omega))
    have cH := hide fun d os => Calls.regrown_of (shHolds_any _ x hS a1 a2 c1 c2 (Sort.grow (redrawn W0 d) os) (HN0.out.old (below_regrown W0 d os)) (by omega))
    rw [hw] at cW
    have jj0 := cell_regrown x0
    have jj1 := cell_regrown x1
    have B0 := hide b0
    clear b0 hN
    go_enter Try.func31, Try.ntmps31
    go_upto_region 1 with fail
    rw [← hW0]
    clear hW0
    refine wp_region_quiet_below (by kernel_rfl) (by kernel_rfl) ?_
    repeat (quiet_step (first | exact cW.out _ _ | exact cH.out _ _))
    refine wpQuiet_nil ?_
    rintro _ ⟨pq, rfl⟩
    have hb2 := below_regrown W0 pq.d pq.os
    have k0 := jj0 pq.d pq.os
    have k1 := jj1 pq.d pq.os
    generalize Sort.grow (redrawn W0 pq.d) pq.os = w2 at *
    have B2 := hide (B0.out.trans (hb2.mono B0.out.size))
    have HN2 := hide (HN0.out.old hb2)
    have hw2 : w.heap.size < w2.heap.size := World.block_lt_of_cell? w2 _ k0
    clear jj0 jj1 x0 x1 hb2 cW cH HN0 B0
    obtain ⟨t1, y, z, hx, _, h2, h3, hy, hz⟩ := hS
    have hx2 : x.2 = .cons y.1 y.2 (.cons z.1 z.2 .nil) := by rw [hx]
    have hlen : x.2.len = 2 := by rw [hx2]; rfl
    obtain ⟨g', rfl, hg', hF⟩ := HN2.out.f.resolve_left (by rw [hx2]; simp)
    rw [hx2] at hF
    obtain ⟨e1, d1, e2, d2, k2, k3, ty, py, e3, d3, e4, d4, k4, k5, tz, pz, _⟩ := hF
    have hg' : g' < w2.heap.size := hg'
    have NY : Hid (NA w2 (fun k => k < w2.heap.size) e1 e2 y) := ⟨ty, py⟩
    have NZ : Hid (NA w2 (fun k => k < w2.heap.size) e3 e4 z) := ⟨tz, pz⟩
    have lb := pretty_both k f g
    have lb2 := congrArg List.length lb
    have lf := wr_len f (rankF (.both k f g))
    have lg := wr_len g (rankF (.both k f g) + 1)
    simp only [List.length_append, List.length_cons] at lb2
    have ly := shF_two hy
    have lz := shF_two hz
    have cF := hide fun d os => Calls.regrown_of (ihf.within hy d1 d2 (NY.out.old (below_regrown w2 d os)) (rankF (.both k f g)) (by omega) (by omega))
    have cG := hide fun d os => Calls.regrown_of (ihg.within hz d3 d4 (NZ.out.old (below_regrown w2 d os)) (rankF (.both k f g) + 1) (by omega) (by omega))
    have HE : Hid (wrF f (rankF (.both k f g)) ++ [32] ++ k ++ [32] ++ wrF g (rankF (.both k f g) + 1) = prettyF (.both k f g)) := by unfold Hid; rw [lb]; simp
    have L1 : Hid ((wrF f (rankF (.both k f g))).length + k.length + (wrF g (rankF (.both k f g) + 1)).length + 2 ≤ 4294967200) := by unfold Hid; omega
    have hown : ownF (.both k f g) = k := rfl
    rw [hown]
    have m0 := cell_regrown k0
    have m1 := cell_regrown k1
    have m2 := cell_regrown k2
    have m3 := cell_regrown k3
    have m4 := cell_regrown k4
    have m5 := cell_regrown k5
    rw [hlen] at k1 m1
    rw [hlen]
    clear k0 k2 k3 k4 k5 ty py tz pz HN2 hx hx2 lb lb2 lf lg hw hwl hp ihf ihg hl hown NY NZ ly lz hy hz h2
    generalize hA : wrF f (rankF (.both k f g)) = A at *
    generalize hB : wrF g (rankF (.both k f g) + 1) = B at *
    clear hA hB hlen
    rcases h3 with rfl | rfl
    · have hr : rankF (.both w_or_ f g) = 1 := rfl
      rw [hr] at *
      have n0 : (9223372036854775807 < A.length + 1) = False := eq_false (by have q := L1.out; simp only [List.length_cons, List.length_nil] at q; omega)
      have n1 : (9223372036854775807 < A.length + 1 + 2) = False := eq_false (by have q := L1.out; simp only [List.length_cons, List.length_nil] at q; omega)
      have n2 : (9223372036854775807 < A.length + 3) = False := eq_false (by have q := L1.out; simp only [List.length_cons, List.length_nil] at q; omega)
      have n3 : (9223372036854775807 < A.length + 1 + 2 + 1) = False := eq_false (by have q := L1.out; simp only [List.length_cons, List.length_nil] at q; omega)
      have n4 : (9223372036854775807 < A.length + 3 + 1) = False := eq_false (by have q := L1.out; simp only [List.length_cons, List.length_nil] at q; omega)
      have n5 : (9223372036854775807 < A.length + 4) = False := eq_false (by have q := L1.out; simp only [List.length_cons, List.length_nil] at q; omega)
      have n6 : (9223372036854775807 < A.length + 1 + 2 + 1 + B.length) = False := eq_false (by have q := L1.out; simp only [List.length_cons, List.length_nil] at q; omega)
      have n7 : (9223372036854775807 < A.length + 3 + 1 + B.length) = False := eq_false (by have q := L1.out; simp only [List.length_cons, List.length_nil] at q; omega)
      have n8 : (9223372036854775807 < A.length + 4 + B.length) = False := eq_false (by have q := L1.out; simp only [List.length_cons, List.length_nil] at q; omega)
      go_wp2_with fail
      refine wp_region_quiet_below (by kernel_rfl) (by kernel_rfl) ?_
      iterate 10 (quiet_step (exact cF.out _ _))
      repeat (quiet_step (exact cG.out _ _))
      refine wpQuiet_nil ?_
      rintro _ ⟨p3, rfl⟩
      have hb3 := below_regrown w2 p3.d p3.os
      generalize Sort.grow (redrawn w2 p3.d) p3.os = w3 at *
      have B3 := hide (B2.out.trans (hb3.mono B2.out.size))
      clear m0 m1 m2 m3 m4 m5 cF cG hb3 n0 n1 n2 n3 n4 n5 n6 n7 n8
      go_wp2_with fail
      go_ret
      exact ⟨congrArg Ending.returned (congrArg Value.string (dataEq (by rw [← HE.out]; simp))), B3.out⟩
    · have hr : rankF (.both w_and_ f g) = 2 := rfl
      rw [hr] at *
      have n0 : (9223372036854775807 < A.length + 1) = False := eq_false (by have q := L1.out; simp only [List.length_cons, List.length_nil] at q; omega)
      have n1 : (9223372036854775807 < A.length + 1 + 3) = False := eq_false (by have q := L1.out; simp only [List.length_cons, List.length_nil] at q; omega)
      have n2 : (9223372036854775807 < A.length + 4) = False := eq_false (by have q := L1.out; simp only [List.length_cons, List.length_nil] at q; omega)
      have n3 : (9223372036854775807 < A.length + 1 + 3 + 1) = False := eq_false (by have q := L1.out; simp only [List.length_cons, List.length_nil] at q; omega)
      have n4 : (9223372036854775807 < A.length + 4 + 1) = False := eq_false (by have q := L1.out; simp only [List.length_cons, List.length_nil] at q; omega)
      have n5 : (9223372036854775807 < A.length + 5) = False := eq_false (by have q := L1.out; simp only [List.length_cons, List.length_nil] at q; omega)
      have n6 : (9223372036854775807 < A.length + 1 + 3 + 1 + B.length) = False := eq_false (by have q := L1.out; simp only [List.length_cons, List.length_nil] at q; omega)
      have n7 : (9223372036854775807 < A.length + 4 + 1 + B.length) = False := eq_false (by have q := L1.out; simp only [List.length_cons, List.length_nil] at q; omega)
      have n8 : (9223372036854775807 < A.length + 5 + B.length) = False := eq_false (by have q := L1.out; simp only [List.length_cons, List.length_nil] at q; omega)
      go_wp2_with fail
      refine wp_region_quiet_below (by kernel_rfl) (by kernel_rfl) ?_
      iterate 10 (quiet_step (exact cF.out _ _))
      repeat (quiet_step (exact cG.out _ _))
      refine wpQuiet_nil ?_
      rintro _ ⟨p3, rfl⟩
      have hb3 := below_regrown w2 p3.d p3.os
      generalize Sort.grow (redrawn w2 p3.d) p3.os = w3 at *
      have B3 := hide (B2.out.trans (hb3.mono B2.out.size))
      clear m0 m1 m2 m3 m4 m5 cF cG hb3 n0 n1 n2 n3 n4 n5 n6 n7 n8
      go_wp2_with fail
      go_ret
      exact ⟨congrArg Ending.returned (congrArg Value.string (dataEq (by rw [← HE.out]; simp))), B3.out⟩
end Go.Proofs.Ytcmmjmgbanafgaa

/- The walks over show.attributes, show.lines. -/
namespace Go.Proofs.Url
open Syn
theorem shA_words {x : Nd} {a : Atr} (h : ShA x a) : joinT x.1 = a.k ++ toldS a.t := by
  have h1 := shA_told h
  have h2 : x.2 = .nil := h.1
  unfold ndS attrS at h1
  rw [h2] at h1
  have h3 : joinT x.1 ++ [41] = (a.k ++ toldS a.t) ++ [41] := by simpa [Fo.told] using h1
  exact List.append_cancel_right h3
theorem shI_words {x : Nd} {y : Itm} (h : ShI x y) : joinT x.1 = headS y := by
  obtain ⟨⟨t1, ta, h1, h2, _, h4, h5, h6⟩, _⟩ := h
  rw [h6, joinT_cons, wTok_plain (by omega), h2]
  unfold headS
  simp only [List.flatMap_append, opt_told]
  have e : (if y.whr.kind = 0 then [] else [ta, y.whr] : List Tk).flatMap (fun t => 32 :: wTok t) = if y.whr.kind = 0 then [] else [32, 97, 116] ++ toldS y.whr := by
    split
    · rfl
    · rename_i h0
      rw [told_kind h0, List.flatMap_cons, List.flatMap_cons, wTok_plain (by omega), h5]; simp
  rw [e]; simp
theorem shI_first {x : Nd} {y : Itm} (h : ShI x y) : ∃ t1 r, x.1 = t1 :: r ∧ t1.text = y.k := by
  obtain ⟨⟨t1, ta, _, h2, _, _, _, h6⟩, _⟩ := h
  exact ⟨t1, _, h6, h2⟩
theorem shI_attrs {x : Nd} {y : Itm} (h : ShI x y) (hf : y.f = none) : ShAs x.2 y.attrs := by
  have := h.2
  rw [hf] at this
  exact this
theorem shI_form {x : Nd} {y : Itm} {f : Fm} (h : ShI x y) (hf : y.f = some f) : ∃ z : Nd, x.2 = .cons z.1 z.2 .nil ∧ ShF z f := by
  have := h.2
  rw [hf] at this
  exact this.2
end Go.Proofs.Url
namespace Go.Proofs.Ytcmmjmgbanafgaa
open Go.RowKit Go.Proofs.Url Go.Proofs.Url.Syn

set_option maxHeartbeats 4000000 in
set_option maxRecDepth 100000 in
theorem shAttrs_any (p : Fo) (l : List Atr) (h : ShAs p l) (a : Option Addr) (c : Nat) (w : World) (hN : FA w (fun k => k < w.heap.size) a p) (hl : p.len ≤ 4294967280) (hL : (l.flatMap showA).length ≤ 4294967000) :
    Calls Try.prog 30 #[.slice a p.len c] w fun e w' => e = .returned (.string ⟨(l.flatMap showA).toArray⟩) ∧ Below w.heap.size w w' := by
  obtain ⟨W0, hW0⟩ : ∃ v, v = w.alloc (Obj.cells #[.pointer none, .slice none 0 0] 49) := ⟨_, rfl⟩
  have b0 : Below w.heap.size w W0 := by rw [hW0]; exact (Below.refl _ _).alloc (Nat.le_refl _) _
  have I0 : Hid (IsB w.heap.size w.heap.size [] W0) := by unfold Hid; rw [hW0]; exact Lib.fresh_isBuilder _ _ _
  have F0 : Hid (FA W0 (fun k => k < w.heap.size) a p) := hN.keep (KeptIn.belowK b0 fun _ h => h)
  have B0 := hide b0
  have HS := hide h
  have HL := hide hl
  have HLL := hide hL
  have h0l : w.heap.size < W0.heap.size := I0.out.ge.2
  clear hN b0 h hl hL
  go_enter Try.func30, Try.ntmps30
  go_wp2_with fail
  rw [← hW0]
  clear hW0
  go_loopw [8] (fun iv W => ∃ (k : Nat) (G : Fo) (m : List Atr) (pre : List UInt8), k + G.len = p.len ∧ iv = .int .i64 k ∧ Hid (ShAs G m) ∧ Hid (pre ++ m.flatMap showA = l.flatMap showA) ∧ Hid (WrP w.heap.size w.heap.size pre W0 W) ∧ Hid (G = .nil ∨ ∃ g, a = some ⟨g, 0, none⟩ ∧ g < w.heap.size ∧ FC W (fun k => k < w.heap.size) G g k)) (fun iv _ => p.len - (intOf iv).toNat)
  case atStart =>
    refine ⟨0, p, l, [], by omega, rfl, HS, rfl, WrP.refl I0.out, ?_⟩
    rcases F0.out with h | h
    · exact .inl h
    · exact .inr h
  case round =>
    obtain ⟨k, G, m, pre, hk, rfl, hS, hT, hP, hC⟩ := hrel
    clear I0 F0
    have hBw := hP.out.be.size
    cases G with
    | nil =>
      have hlI : ¬ (k : Int) < (p.len : Int) := by simp [Fo.len] at hk; omega
      have HT2 : Hid (pre = l.flatMap showA) := by
        unfold Hid
        have h1 := hS.out
        cases m with
        | nil => have := hT.out; simpa using this
        | cons y m => exact h1.elim
      obtain rfl := HT2.out
      clear hT hS hC hk
      go_wp2_with fail
      refine (Try.Builder_String_any w.heap.size w.heap.size (l.flatMap showA) wr hP.out.is (by omega)).mono ?_
      rintro e w3 ⟨rfl, hb3⟩
      have HB : Hid (Below w.heap.size w w3) := (B0.out.trans hP.out.be).trans hb3
      clear hP hb3 B0
      go_wp2_with fail
      go_ret
      exact ⟨rfl, HB.out⟩
    | cons ts q r =>
      obtain ⟨g, rfl, hgB, e1, f1, e2, f2, k1, k2, ht, hp, hr⟩ := hC.out.resolve_left (by simp)
      cases m with
      | nil => exact (hS.out).elim
      | cons y m =>
        have hS2 : ShA (ts, q) y ∧ ShAs r m := hS.out
        have hlI : (k : Int) < (p.len : Int) := by simp [Fo.len] at hk; omega
        have hkl : k < p.len := by simp [Fo.len] at hk; omega
        have hgw : g < wr.heap.size := by omega
        have hil : (k : Int) < 4294967281 := by have := HL.out; omega
        have hkr : k + 1 + r.len = p.len := by simp [Fo.len] at hk; omega
        have HNd : Hid (NA wr (fun k => k < w.heap.size) e1 e2 (ts, q)) := ⟨ht, hp⟩
        have HRr := hide hr
        have HS3 := hide hS2.2
        have hwd : joinT ts = y.k ++ toldS y.t := shA_words hS2.1
        have hts : ts.length ≤ 2 := shA_len hS2.1
        have HJ : Hid (showA y = [32, 32] ++ joinT ts ++ [59, 10]) := by unfold Hid showA; rw [hwd]; simp
        have HTold : Hid ((pre ++ showA y) ++ m.flatMap showA = l.flatMap showA) := by unfold Hid; rw [← hT.out]; simp
        have HBound : Hid ((pre ++ showA y).length < 4294967260) := by
          unfold Hid
          have h1 := HLL.out
          rw [← HTold.out] at h1
          rw [List.length_append] at h1
          omega
        have HJl : Hid ((joinT ts).length + 4 < 4294967260) := by
          unfold Hid
          have h1 := HBound.out
          rw [HJ.out] at h1
          simp only [List.length_append, List.length_cons, List.length_nil] at h1
          omega
        clear hC hS hS2 hT ht hp hr hk hwd
        go_upto_region 5 with fail
        obtain ⟨W2, hW2⟩ : ∃ v, v = wr.alloc (Obj.cells #[.slice e1 ts.length f1, .slice e2 q.len f2] 51) := ⟨_, rfl⟩
        have P2 : Hid (WrP w.heap.size w.heap.size pre wr W2) := by unfold Hid; rw [hW2]; exact (WrP.refl hP.out.is).alloc (by omega) _
        have Q2 : Hid (W2.heap[wr.heap.size]? = some (.cells #[.slice e1 ts.length f1, .slice e2 q.len f2] 51 (0, 0))) := by unfold Hid; rw [hW2]; exact obj_new _ _ _
        rw [← hW2]
        clear hW2 k1 k2
        have d0 : W2.cell? ⟨wr.heap.size, 0, none⟩ = some (.slice e1 ts.length f1) := by rw [Lib.cell_of_heap Q2.out]; rfl
        have d1 : W2.cell? ⟨wr.heap.size, 1, none⟩ = some (.slice e2 q.len f2) := by rw [Lib.cell_of_heap Q2.out]; rfl
        have hdl : wr.heap.size < W2.heap.size := World.block_lt_of_cell? W2 _ d0
        have HWd := hide (words_any (ts, q) e1 e2 f1 f2 W2 ((HNd.out.keep (KeptIn.belowK P2.out.be fun _ h => h)).sub fun _ h => by have h : _ < w.heap.size := h; omega) (by show ts.length ≤ _; omega) (by show (joinT ts).length < _; have := HJl.out; omega))
        clear Q2 HNd
        go_wp2_with fail
        refine HWd.out.mono ?_
        rintro e w3 ⟨rfl, hb3⟩
        have P3 := hide (P2.out.trans (WrP.belowW P2.out.is (by omega) hb3))
        have n1 : (9223372036854775807 < 2 + (joinT ts).length) = False := eq_false (by have := HJl.out; omega)
        have n2 : (9223372036854775807 < 2 + (joinT ts).length + 2) = False := eq_false (by have := HJl.out; omega)
        clear hb3 P2 d0 d1 hdl HWd
        go_wp2_with fail
        have e9 : (⟨#[32, 32]⟩ ++ ⟨(joinT ts).toArray⟩ ++ ⟨#[59, 10]⟩ : ByteArray) = ⟨(showA y).toArray⟩ := dataEq (by rw [HJ.out]; simp)
        rw [e9]
        refine (writeS w.heap.size w.heap.size pre (showA y) w3 P3.out.is (by have := HBound.out; omega) (by have := P3.out.be.size; omega)).mono ?_
        rintro e w4 ⟨rfl, P4'⟩
        have P4 : Hid (WrP w.heap.size w.heap.size (pre ++ showA y) W0 w4) := hP.out.trans (P3.out.trans P4')
        have HC5 : Hid (r = .nil ∨ ∃ g', some (⟨g, 0, none⟩ : Addr) = some ⟨g', 0, none⟩ ∧ g' < w.heap.size ∧ FC w4 (fun k => k < w.heap.size) r g' (k + 1)) := .inr ⟨g, rfl, hgB, HRr.out.keep (KeptIn.belowK (P3.out.trans P4').be fun _ h => h) hgB⟩
        clear P4' P3 hP HRr n1 n2 HJl HJ
        go_wp2_with fail
        exact ⟨⟨k + 1, r, m, _, hkr, by go_num, HS3, HTold, P4, HC5⟩, by simp [intOf]; omega⟩
end Go.Proofs.Ytcmmjmgbanafgaa

/- The walk over show.lines. -/
namespace Go.Proofs.Ytcmmjmgbanafgaa
open Go.RowKit Go.Proofs.Url Go.Proofs.Url.Syn

/-- What the walk over lines knows, whatever the item. -/
structure LiB (w W0 : World) (x : Nd) (y : Itm) (a1 a2 : Option Addr) (c1 c2 : Nat) (q : Nat) : Prop where
  be : Below w.heap.size w W0
  na : NA W0 (fun k => k < W0.heap.size) a1 a2 x
  wd : ∀ d os, Calls Try.prog 29 #[.agg #[.slice a1 x.1.length c1, .slice a2 x.2.len c2]] (Sort.grow (redrawn W0 d) os) fun e w'' => e = .returned (.string ⟨(headS y).toArray⟩) ∧ ∃ p : Regrown, w'' = Sort.grow (redrawn W0 p.d) p.os
  wd0 : Calls Try.prog 29 #[.agg #[.slice a1 x.1.length c1, .slice a2 x.2.len c2]] W0 fun e w'' => e = .returned (.string ⟨(headS y).toArray⟩) ∧ Below W0.heap.size W0 w''
set_option maxHeartbeats 8000000 in
set_option maxRecDepth 100000 in
theorem shItem_any (x : Nd) (y : Itm) (h : ShI x y) (hy : FineI y) (a1 a2 : Option Addr) (c1 c2 : Nat) (w : World) (hN : NA w (fun k => k < w.heap.size) a1 a2 x) (hl1 : x.1.length ≤ 4294967280) (hl2 : x.2.len ≤ 4294967280) (hB : (showI y).length ≤ 4294967000) :
    Calls Try.prog 16 #[.agg #[.slice a1 x.1.length c1, .slice a2 x.2.len c2]] w fun e w' => e = .returned (.string ⟨(showI y).toArray⟩) ∧ Below w.heap.size w w' := by
  have hwd := shI_words h
  obtain ⟨t1, r, hx, ht⟩ := shI_first h
  have hk : 0 < x.1.length := by rw [hx]; simp
  obtain ⟨q, rfl, hq, kk1, kk2, k3⟩ := hN.t 0 hk
  have e3 : x.1[0] = t1 := by simp [hx]
  rw [e3, ht] at k3
  have hq : q < w.heap.size := hq
  have hltI : (0 : Int) < (x.1.length : Int) := by omega
  obtain ⟨W0, hW0⟩ : ∃ v, v = w.alloc (Obj.cells #[.slice (some ⟨q, 0, none⟩) x.1.length c1, .slice a2 x.2.len c2] 51) := ⟨_, rfl⟩
  have b0 : Below w.heap.size w W0 := by rw [hW0]; exact (Below.refl _ _).alloc (Nat.le_refl _) _
  have x0 : W0.cell? ⟨w.heap.size, 0, none⟩ = some (.slice (some ⟨q, 0, none⟩) x.1.length c1) := by rw [hW0]; simp
  have x1 : W0.cell? ⟨w.heap.size, 1, none⟩ = some (.slice a2 x.2.len c2) := by rw [hW0]; simp
  have hww : w.heap.size < W0.heap.size := World.block_lt_of_cell? W0 _ x0
  have k4 : W0.cell? ⟨q, 2, none⟩ = some (.string ⟨y.k.toArray⟩) := by rw [b0.cell hq]; exact k3
  have hqw : q < W0.heap.size := by omega
  have hNA := hN.old b0
  have hd : (headS y).length ≤ (showI y).length := by
    unfold showI
    split
    · simp only [List.length_append]; omega
    · split <;> (simp only [List.length_append]; omega)
  have HA : Hid (LiB w W0 x y (some ⟨q, 0, none⟩) a2 c1 c2 q) := by
    refine ⟨b0, hNA, fun d os => ?_, ?_⟩
    · have := Calls.regrown_of (words_any x (some ⟨q, 0, none⟩) a2 c1 c2 (Sort.grow (redrawn W0 d) os) (hNA.old (below_regrown W0 d os)) hl1 (by rw [hwd]; omega))
      rw [hwd] at this; exact this
    · have := words_any x (some ⟨q, 0, none⟩) a2 c1 c2 W0 hNA hl1 (by rw [hwd]; omega)
      rw [hwd] at this; exact this
  have HB := hide hB
  have HD := hide hd
  have HL1 := hide hl1
  have HL2 := hide hl2
  have HSh := hide h
  have jj0 := cell_regrown x0
  have jj1 := cell_regrown x1
  clear hN b0 hNA hd hB hwd e3 k3 ht kk1 kk2 hl1 hl2 hx hk
  have plain : Hid (y.k ∈ [w_origin, w_cookie, w_secret, w_network] → showI y = headS y ++ [59, 10] →
      Calls Try.prog 16 #[.agg #[.slice (some ⟨q, 0, none⟩) x.1.length c1, .slice a2 x.2.len c2]] w fun e w' => e = .returned (.string ⟨(showI y).toArray⟩) ∧ Below w.heap.size w w') := by
    intro hm hs
    have HS := hide hs
    have n1 : (9223372036854775807 < (headS y).length + 2) = False := eq_false (by have := HB.out; have := HD.out; omega)
    clear hs jj0 jj1 h hy
    generalize hkk : y.k = K at *
    simp only [List.mem_cons, List.not_mem_nil, or_false] at hm
    rcases hm with rfl | rfl | rfl | rfl
    all_goals
      go_enter Try.func16, Try.ntmps16
      go_upto_region 1 with fail
      rw [← hW0]
      clear hW0
      go_wp2_with fail
      refine HA.out.wd0.mono ?_
      rintro e w1 ⟨rfl, hb1⟩
      have B1 := hide (HA.out.be.trans (hb1.mono HA.out.be.size))
      clear hb1 x0 x1
      go_wp2_with fail
      go_ret
      exact ⟨congrArg Ending.returned (congrArg Value.string (dataEq (by rw [HS.out]; simp))), B1.out⟩
  cases hy with
  | origin => exact plain.out (show w_origin ∈ [w_origin, w_cookie, w_secret, w_network] by decide) rfl
  | cookie => exact plain.out (show w_cookie ∈ [w_origin, w_cookie, w_secret, w_network] by decide) rfl
  | secret => exact plain.out (show w_secret ∈ [w_origin, w_cookie, w_secret, w_network] by decide) rfl
  | network => exact plain.out (show w_network ∈ [w_origin, w_cookie, w_secret, w_network] by decide) rfl
  | endpoint p a b c d u1 u2 u3 u4 l g1 g2 g3 g4 gl =>
    clear plain
    have hsh := shI_attrs h rfl
    generalize hY : (⟨w_endpoint, p, ⟨1, a, u1⟩, ⟨1, b, u2⟩, ⟨5, c, u3⟩, ⟨3, d, u4⟩, l, none⟩ : Itm) = Y at *
    have hYa : Y.attrs = l := by rw [← hY]
    have hYk : Y.k = w_endpoint := by rw [← hY]
    have hs : showI Y = headS Y ++ [32, 123, 10] ++ l.flatMap showA ++ [125, 10] := by rw [← hY]; rfl
    rw [hYa] at hsh
    rw [hYk] at k4
    have hsl := congrArg List.length hs
    simp only [List.length_append, List.length_cons, List.length_nil] at hsl
    have HSl : Hid ((headS Y).length + (l.flatMap showA).length + 5 ≤ 4294967000) := by unfold Hid; have := HB.out; omega
    have cA := hide fun d os => Calls.regrown_of (shAttrs_any x.2 l hsh a2 c2 (Sort.grow (redrawn W0 d) os) (HA.out.na.old (below_regrown W0 d os)).f HL2.out (by have := HSl.out; omega))
    have HS := hide hs
    have n1 : (9223372036854775807 < (headS Y).length + 3) = False := eq_false (by have := HSl.out; omega)
    have n2 : (9223372036854775807 < (headS Y).length + 3 + (l.flatMap showA).length) = False := eq_false (by have := HSl.out; omega)
    have n3 : (9223372036854775807 < (headS Y).length + 3 + (l.flatMap showA).length + 2) = False := eq_false (by have := HSl.out; omega)
    clear hs hsl hsh hYa hYk hY h g1 g2 g3 g4 gl
    generalize hAA : l.flatMap showA = AA at *
    clear hAA
    go_enter Try.func16, Try.ntmps16
    go_upto_region 1 with fail
    rw [← hW0]
    clear hW0
    go_wp2_with fail
    refine wp_region_quiet_below (by kernel_rfl) (by kernel_rfl) ?_
    iterate 4 (quiet_step (exact HA.out.wd _ _))
    repeat (quiet_step (exact cA.out _ _))
    refine wpQuiet_nil ?_
    rintro _ ⟨p3, rfl⟩
    have hb3 := below_regrown W0 p3.d p3.os
    generalize Sort.grow (redrawn W0 p3.d) p3.os = w3 at *
    have B3 := hide (HA.out.be.trans (hb3.mono HA.out.be.size))
    clear jj0 jj1 cA hb3 n1 n2 n3 x0 x1
    go_wp2_with fail
    go_ret
    exact ⟨congrArg Ending.returned (congrArg Value.string (dataEq (by rw [HS.out]; simp))), B3.out⟩
  | property p a u1 f g1 gf =>
    clear plain
    obtain ⟨z, hx2, hz⟩ := shI_form h rfl
    generalize hY : (⟨w_property, p, ⟨1, a, u1⟩, zeroT, zeroT, zeroT, [], some f⟩ : Itm) = Y at *
    have hYk : Y.k = w_property := by rw [← hY]
    have hs : showI Y = headS Y ++ [32, 61, 32] ++ prettyF f ++ [59, 10] := by rw [← hY]; rfl
    rw [hYk] at k4
    have hsl := congrArg List.length hs
    simp only [List.length_append, List.length_cons, List.length_nil] at hsl
    have HSl : Hid ((headS Y).length + (prettyF f).length + 5 ≤ 4294967000) := by unfold Hid; have := HB.out; omega
    have hlen : x.2.len = 1 := by rw [hx2]; rfl
    have hsl2 : (1 : Int) = (x.2.len : Int) := by rw [hlen]; rfl
    obtain ⟨g', rfl, hg', hF⟩ := HA.out.na.f.resolve_left (by rw [hx2]; simp)
    rw [hx2] at hF
    obtain ⟨e1, d1, e2, d2, k5, k6, tz, pz, _⟩ := hF
    have hg' : g' < W0.heap.size := hg'
    have NZ : Hid (NA W0 (fun k => k < W0.heap.size) e1 e2 z) := ⟨tz, pz⟩
    have cA := hide fun d os => Calls.regrown_of (shForm_any f z e1 e2 d1 d2 (Sort.grow (redrawn W0 d) os) hz (NZ.out.old (below_regrown W0 d os)) (by have := HSl.out; omega))
    have m5 := cell_regrown k5
    have m6 := cell_regrown k6
    have HS := hide hs
    have n1 : (9223372036854775807 < (headS Y).length + 3) = False := eq_false (by have := HSl.out; omega)
    have n2 : (9223372036854775807 < (headS Y).length + 3 + (prettyF f).length) = False := eq_false (by have := HSl.out; omega)
    have n3 : (9223372036854775807 < (headS Y).length + 3 + (prettyF f).length + 2) = False := eq_false (by have := HSl.out; omega)
    have wd := HA.out.wd
    rw [hlen] at jj1 x1 wd hW0
    have WD := hide wd
    have BE := hide HA.out.be
    rw [hlen]
    clear hs hsl hYk hY h g1 gf hx2 hz tz pz NZ k5 k6 HA wd hsl2 HL2 hlen HSh
    generalize prettyF f = AA at *
    go_enter Try.func16, Try.ntmps16
    go_upto_region 1 with fail
    rw [← hW0]
    clear hW0
    go_wp2_with fail
    refine wp_region_quiet_below (by kernel_rfl) (by kernel_rfl) ?_
    iterate 4 (quiet_step (exact WD.out _ _))
    repeat (quiet_step (exact cA.out _ _))
    refine wpQuiet_nil ?_
    rintro _ ⟨p3, rfl⟩
    have hb3 := below_regrown W0 p3.d p3.os
    generalize Sort.grow (redrawn W0 p3.d) p3.os = w3 at *
    have B3 := hide (BE.out.trans (hb3.mono BE.out.size))
    clear jj0 jj1 cA hb3 n1 n2 n3 x0 x1 m5 m6
    go_wp2_with fail
    go_ret
    exact ⟨congrArg Ending.returned (congrArg Value.string (dataEq (by rw [HS.out]; simp))), B3.out⟩
end Go.Proofs.Ytcmmjmgbanafgaa

/- The walks over show.Text, show.Lines. -/
namespace Go.Proofs.Url
open Syn
theorem pretty_len : ∀ f : Fm, (prettyF f).length ≤ 2 * (formS f).length
  | .un k nm _ => by
    show (k ++ 32 :: nm).length ≤ 2 * (40 :: (k ++ (if nm = [] then [] else 32 :: nm) ++ [41])).length
    split
    · rename_i h; rw [h]; simp; omega
    · simp; omega
  | .no f => by
    have ih := pretty_len f
    have e : (wrF f 3).length ≤ (prettyF f).length + 2 := by unfold wrF wrapS; split <;> simp
    rw [pretty_no]
    show _ ≤ 2 * (40 :: (w_not_ ++ 32 :: formS f ++ [41])).length
    simp only [List.length_append, List.length_cons, List.length_nil]
    omega
  | .both k f g => by
    have i1 := pretty_len f
    have i2 := pretty_len g
    have e : ∀ f m, (wrF f m).length ≤ (prettyF f).length + 2 := fun f m => by unfold wrF wrapS; split <;> simp
    have e1 := e f (rankF (.both k f g))
    have e2 := e g (rankF (.both k f g) + 1)
    rw [pretty_both]
    show _ ≤ 2 * (40 :: (k ++ 32 :: formS f ++ 32 :: formS g ++ [41])).length
    simp only [List.length_append, List.length_cons, List.length_nil]
    omega
theorem attrs_len : ∀ l : List Atr, (l.flatMap showA).length ≤ 2 * (l.flatMap attrS).length
  | [] => Nat.le_refl _
  | a :: l => by
    have ih := attrs_len l
    have e1 : (showA a).length = a.k.length + (toldS a.t).length + 4 := by unfold showA; simp; omega
    have e2 : (attrS a).length = a.k.length + (toldS a.t).length + 3 := by unfold attrS; simp; omega
    rw [List.flatMap_cons, List.flatMap_cons, List.length_append, List.length_append]
    omega
theorem showI_len (y : Itm) : (showI y).length ≤ 7 * (lineS y).length := by
  have e : lineS y = headS y ++ y.attrs.flatMap attrS ++ (match y.f with | none => [] | some f => 32 :: formS f) ++ [10] := rfl
  have h1 := attrs_len y.attrs
  rw [e]
  unfold showI
  cases hf : y.f with
  | none => split <;> (simp only [List.length_append, List.length_cons, List.length_nil]; omega)
  | some f =>
    have h2 := pretty_len f
    split <;> (simp only [List.length_append, List.length_cons, List.length_nil]; omega)
theorem shows_len : ∀ xs : List Itm, (xs.flatMap showI).length ≤ 7 * (xs.flatMap lineS).length
  | [] => Nat.le_refl _
  | y :: l => by
    have ih := shows_len l
    have := showI_len y
    rw [List.flatMap_cons, List.flatMap_cons, List.length_append, List.length_append]
    omega
theorem read_fine {s : List UInt8} {xs : List Itm} (h : readS10 s = .ok xs) : ∀ y ∈ xs, FineI y := by
  obtain ⟨ts, q, h1, h2, _⟩ := readS10_ok h
  exact (itemsF_fine _ _ _ _ (toksS_good h1) h2).1
end Go.Proofs.Url
namespace Go.Proofs.Ytcmmjmgbanafgaa
open Go.RowKit Go.Proofs.Url Go.Proofs.Url.Syn

theorem resReadShow {W : World} {m : Nat} {v : Value} {x y : Int} {tmps : Array Value} (h : WB W m x y) (h2 : tmps[2]?.getD undef = v) (h3 : tmps[3]?.getD undef = .pointer (some ⟨m, 0, none⟩)) :
    (results Try.f7 tmps).run Try.prog W = .ok (.tuple #[v, .agg #[.int .i64 x, .int .i64 y]]) W := by
  obtain ⟨c0, c1, _⟩ := h
  simp [results, Try.results7, go_sem, h2, h3, c0, c1]
set_option maxHeartbeats 4000000 in
set_option maxRecDepth 100000 in
theorem shText_any (s : List UInt8) (w : World) (hs : s.length < 4294967281) :
    Calls Try.prog 7 #[.string ⟨s.toArray⟩] w fun e w' => Below w.heap.size w w' ∧ e = .returned (.tuple #[.string ⟨(showR s).1.toArray⟩, .agg #[.int .i64 (showR s).2.1, .int .i64 (showR s).2.2]]) := by
  have HS := hide hs
  clear hs
  go_enter Try.func7, Try.ntmps7
  go_upto_region 1 with fail
  obtain ⟨W0, hW0⟩ : ∃ x, x = w.alloc (Obj.cells #[.int .i64 0, .int .i64 0] 25) := ⟨_, rfl⟩
  have R0 : Hid (WB W0 w.heap.size 0 0) := by unfold Hid; rw [hW0]; exact WB.new w 0 0 _
  have B0 : Hid (Below w.heap.size w W0) := by unfold Hid; rw [hW0]; exact (Below.refl _ _).alloc (Nat.le_refl _) _
  rw [← hW0]
  clear hW0
  go_wp2_with fail
  refine (treeRead_all s W0 HS.out).mono ?_
  rintro e w1 ⟨F, a, c, x, y, xs, rfl, b1, hFA, hSh, hfit, hlen, hlin, hor⟩
  have R1 := hide (R0.out.keep b1)
  have B1 := hide (B0.out.trans (b1.mono B0.out.size))
  have hs1 := b1.size
  have hr1 := R1.out.lt
  have hgood : ∀ y ∈ xs, FineI y := by
    rcases hor with ⟨hx, _, _⟩ | ⟨_, rfl⟩
    · exact read_fine hx
    · exact fun y hy => (by cases hy)
  have hsl : (xs.flatMap showI).length ≤ 7 * 16200000 := by
    have h1 := shows_len xs
    rw [← shIs_lines hSh] at h1
    omega
  have HEnd : Hid (∀ w', Below w.heap.size w w' → (Below w.heap.size w w' ∧ Ending.returned (.tuple #[.string ⟨(xs.flatMap showI).toArray⟩, .agg #[.int .i64 (x : Int), .int .i64 (y : Int)]]) = .returned (.tuple #[.string ⟨(showR s).1.toArray⟩, .agg #[.int .i64 (showR s).2.1, .int .i64 (showR s).2.2]]))) := fun w' hb => by
    refine ⟨hb, ?_⟩
    unfold showR
    rcases hor with ⟨hx, rfl, rfl⟩ | ⟨hx, rfl⟩
    · rw [hx]
    · rw [hx]; rfl
  have HGood := hide hgood
  have HSl := hide hsl
  have HSh := hide hSh
  have HFA := hide hFA
  have HFit := hide hfit
  have HLn := hide hlen
  clear b1 R0 hor hSh hFA hfit hlen hlin B0 hgood hsl
  go_upto_region 3 with fail
  obtain ⟨W2, hW2⟩ : ∃ v, v = w1.alloc (Obj.cells #[.int .i64 x, .int .i64 y] 25) := ⟨_, rfl⟩
  have b2 : Below w1.heap.size w1 W2 := by rw [hW2]; exact (Below.refl _ _).alloc (Nat.le_refl _) _
  have X2 : Hid (WB W2 w1.heap.size x y) := by unfold Hid; rw [hW2]; exact WB.new w1 _ _ _
  have s2 : W2.heap.size = w1.heap.size + 1 := by rw [hW2]; simp
  obtain ⟨W3, hW3⟩ : ∃ v, v = W2.alloc (Obj.cells #[.pointer none, .slice none 0 0] 49) := ⟨_, rfl⟩
  have b3 : Below W2.heap.size W2 W3 := by rw [hW3]; exact (Below.refl _ _).alloc (Nat.le_refl _) _
  have I3 : Hid (IsB W2.heap.size W2.heap.size [] W3) := by unfold Hid; rw [hW3]; exact Lib.fresh_isBuilder _ _ _
  have e2 : w1.heap.size + 1 = W2.heap.size := s2.symm
  rw [← hW2]
  simp only [e2]
  rw [← hW3]
  have hbl : w1.heap.size < W2.heap.size := by omega
  have R3 := hide ((R1.out.keep b2).keep b3)
  have X3 := hide (X2.out.keep b3)
  have B3 := hide ((B1.out.trans (b2.mono B1.out.size)).trans (b3.mono (by have := B1.out.size; omega)))
  have F3 : Hid (FA W3 (fun k => k < W2.heap.size) a F) := ((HFA.out.keep (KeptIn.belowK b2 fun _ k => k)).keep (KeptIn.belowK b3 fun b k => Nat.lt_trans k hbl)).sub fun b k => Nat.lt_trans k hbl
  have h3l : W2.heap.size < W3.heap.size := I3.out.ge.2
  clear hW2 hW3 b2 b3 R1 X2 B1 HFA s2 e2
  go_wp2_with fail
  go_loopw [16] (fun iv W => ∃ (k : Nat) (G : Fo) (m : List Itm) (pre : List UInt8), k + G.len = F.len ∧ iv = .int .i64 k ∧ Hid (ShIs G m) ∧ Hid (∀ y ∈ m, FineI y) ∧ Hid (pre ++ m.flatMap showI = xs.flatMap showI) ∧ Hid (IsB W2.heap.size W2.heap.size pre W) ∧ Hid (Below W2.heap.size W3 W) ∧ Hid (G = .nil ∨ ∃ g, a = some ⟨g, 0, none⟩ ∧ g < W2.heap.size ∧ FC W (fun k => k < W2.heap.size) G g k) ∧ Hid (G.fit 4294967280)) (fun iv _ => F.len - (intOf iv).toNat)
  case atStart =>
    refine ⟨0, F, xs, [], by omega, rfl, HSh, HGood, rfl, I3, Below.refl _ _, ?_, HFit⟩
    rcases F3.out with h | h
    · exact .inl h
    · exact .inr h
  case round =>
    obtain ⟨k, G, m, pre, hk, rfl, hS, hM, hT, hI, hB, hC, hG⟩ := hrel
    clear I3 F3
    cases G with
    | nil =>
      have hlI : ¬ (k : Int) < (F.len : Int) := by simp [Fo.len] at hk; omega
      have HT2 : Hid (pre = xs.flatMap showI) := by
        unfold Hid
        have h1 := hS.out
        cases m with
        | nil => have := hT.out; simpa using this
        | cons y m => exact h1.elim
      obtain rfl := HT2.out
      have hbw := hB.out.size
      have R4 := hide (R3.out.keepB hB.out (by omega))
      have X4 := hide (X3.out.keepB hB.out hbl)
      have B4 : Hid (Below w.heap.size w wr) := B3.out.trans (hB.out.mono (by omega))
      clear hT HT2 hC hG hk R3 X3 B3 hS hM
      have IF : Hid ((Try.prog.info? 25).map (·.size) = some 2) := by unfold Hid; kernel_rfl
      go_upto_region 9 with fail
      refine RP.wp_region_posts (X := fun _ _ => False) (l := [_, _, _, _]) (by kernel_rfl) (RD w W2.heap.size w.heap.size w1.heap.size (xs.flatMap showI) x y) (fun _ _ _ => True)
        [some 24, some 25, some 2, none] [[], [], [0], [1]]
        [fun v _ => v = .string ⟨(xs.flatMap showI).toArray⟩, fun v _ => v = .agg #[.int .i64 x, .int .i64 y], fun v _ => v = .string ⟨(xs.flatMap showI).toArray⟩, fun _ _ => True]
        (fun _ _ _ _ _ _ h => h.elim) rfl (by kernel_rfl) (by kernel_rfl) (by kernel_rfl) (by kernel_rfl) ?_ ?_ ?_ ?_
      · exact .eq (.eq (.eq (.cons (fun _ _ _ _ _ _ _ h => h) .nil)))
      · intro L hL
        exact ⟨fun _ => hI.out.below ((Below.refl _ _).drew), X4.out.keep ((Below.refl _ _).drew), ⟨0, 0, R4.out.keep ((Below.refl _ _).drew), fun h => absurd h (by rw [hL 3]; decide)⟩, B4.out.drew, by show W2.heap.size ≤ wr.heap.size; omega⟩
      · refine .cons ?_ (.cons ?_ (.cons ?_ (.cons ?_ .nil)))
        all_goals (intro L A W hLi hC old nd)
        all_goals (refine RP.runs_none rfl ?_)
        · have e6 : (A.tmps[6]?).getD undef = .pointer (some ⟨W2.heap.size, 0, none⟩) := old 6 (by kernel_rfl)
          simp [RP.Oper.gives, RP.gives, go_sem, e6]
          refine (Try.Builder_String_any W2.heap.size W2.heap.size (xs.flatMap showI) W (hC.is hLi) hC.sz).mono fun e W' h => ?_
          obtain ⟨rfl, hb⟩ := h
          refine ⟨_, rfl, ⟨fun hL => ?_, hC.x5.keepB hb hbl, ?_, hC.be.trans (hb.mono (by omega)), Nat.le_trans hC.sz hb.size⟩, rfl⟩
          · rw [RP.also_self] at hL; cases hL
          · obtain ⟨u, v, h1, h2⟩ := hC.r3
            refine ⟨u, v, h1.keepB hb (by omega), fun hL => h2 ?_⟩
            rw [← hL]; unfold RP.also; rw [if_neg (by decide)]
        · have e5 : (A.tmps[5]?).getD undef = .pointer (some ⟨w1.heap.size, 0, none⟩) := old 5 (by kernel_rfl)
          exact RP.gives_row 25 (.tmp 5) rfl _ 0 (by simpa [Act.eval] using e5) [.int .i64 x, .int .i64 y] _ hC.x5.range Try.underlying25 rfl IF.out ⟨hC.same (by decide), trivial, rfl⟩
        · have e24 : (A.tmps[24]?).getD undef = .string ⟨(xs.flatMap showI).toArray⟩ := nd.1
          simp [RP.Oper.gives, RP.gives, go_sem, e24]
          exact ⟨hC.same (by decide), rfl⟩
        · have e3 : (A.tmps[3]?).getD undef = .pointer (some ⟨w.heap.size, 0, none⟩) := old 3 (by kernel_rfl)
          have e25 : (A.tmps[25]?).getD undef = .agg #[.int .i64 x, .int .i64 y] := nd.1
          obtain ⟨u, v, h1, h2⟩ := hC.r3
          have hm := h1.lt
          refine RP.gives_storeN 25 (.tmp 3) (.tmp 25) rfl w.heap.size 0 (.int .i64 x) (.int .i64 y) (by simpa [Act.eval] using e3) (by simpa [Act.eval] using e25) h1.there IF.out rfl rfl ?_
          have hp := h1.put (x : Int) (y : Int)
          have bb : Below w.heap.size W (put2 W w.heap.size x y) := put2_below (Below.refl _ _) _ (Nat.le_refl _) _ _
          refine ⟨⟨fun hL => ?_, hC.x5.otherp (by omega) _ _, ⟨x, y, hp, fun _ => ⟨rfl, rfl⟩⟩, hC.be.trans bb, Nat.le_trans hC.sz bb.size⟩, trivial, trivial⟩
          have h0 : L 0 = false := by rw [← hL]; unfold RP.also; rw [if_neg (by decide)]
          exact IsB.set2 (hC.is h0) (by omega) _ _
      · intro L W hall hC E hE
        refine .cons fun v1 h1 => .cons fun v2 h2 => .cons fun v3 h3 => .cons fun v4 h4 => .nil ?_
        subst h1
        subst h2
        subst h3
        obtain ⟨u, v, h5, h6⟩ := hC.r3
        obtain ⟨rfl, rfl⟩ := h6 (hall 3 (by decide))
        have HW := hide h5
        have HE2 := hide (HEnd.out W hC.be)
        clear hC h5 h6 hI HEnd
        simp only [Act.put, List.setIfInBounds_toArray, List.set_cons_zero, List.set_cons_succ]
        refine hE _ ?_
        go_wp2_with fail
        refine bodyPost_ret (v := .tuple #[.string ⟨(xs.flatMap showI).toArray⟩, .agg #[.int .i64 x, .int .i64 y]]) ?_ rfl ?_
        · exact resReadShow HW.out rfl rfl
        · exact HE2.out
    | cons ts p r =>
      obtain ⟨g, rfl, hgB, e1, f1, e2, f2, k1, k2, ht, hp, hr⟩ := hC.out.resolve_left (by simp)
      cases m with
      | nil => exact (hS.out).elim
      | cons z m =>
        have hS2 : ShI (ts, p) z ∧ ShIs r m := hS.out
        have HZ := hide (hM.out z (List.mem_cons_self ..))
        have HM3 : Hid (∀ y ∈ m, FineI y) := fun y hy => hM.out y (List.mem_cons_of_mem z hy)
        have HS1 := hide hS2.1
        have HS3 := hide hS2.2
        have hlI : (k : Int) < (F.len : Int) := by simp [Fo.len] at hk; omega
        have hkl : k < F.len := by simp [Fo.len] at hk; omega
        have hbw := hB.out.size
        have hgw : g < wr.heap.size := by omega
        have hG2 := hG.out
        have HRr := hide hr
        have HG3 := hide hG2.2.2.2.2
        have hkr : k + 1 + r.len = F.len := by simp [Fo.len] at hk; omega
        have hil : (k : Int) < 4294967281 := by have := HLn.out; omega
        have HTold : Hid ((pre ++ showI z) ++ m.flatMap showI = xs.flatMap showI) := by unfold Hid; rw [← hT.out]; simp
        have HBound : Hid ((pre ++ showI z).length < 4294967000) := by
          unfold Hid
          have h1 := HSl.out
          rw [← HTold.out] at h1
          rw [List.length_append] at h1
          omega
        have HZl : Hid ((showI z).length ≤ 4294967000) := by unfold Hid; have := HBound.out; rw [List.length_append] at this; omega
        have HNd : Hid (NA wr (fun k => k < W2.heap.size) e1 e2 (ts, p)) := ⟨ht, hp⟩
        have hts : ts.length ≤ 4294967280 := hG2.1
        have hpl : p.len ≤ 4294967280 := hG2.2.1
        clear hC hG hG2 hT hp hr ht hk hS hS2 hM
        go_upto_region 6 with fail
        obtain ⟨W5, hW5⟩ : ∃ v, v = wr.alloc (Obj.cells #[.slice e1 ts.length f1, .slice e2 p.len f2] 51) := ⟨_, rfl⟩
        have P5 : Hid (WrP W2.heap.size W2.heap.size pre wr W5) := by unfold Hid; rw [hW5]; exact (WrP.refl hI.out).alloc (by omega) _
        have Q5 : Hid (W5.heap[wr.heap.size]? = some (.cells #[.slice e1 ts.length f1, .slice e2 p.len f2] 51 (0, 0))) := by unfold Hid; rw [hW5]; exact obj_new _ _ _
        rw [← hW5]
        clear hW5 k1 k2
        have d0 : W5.cell? ⟨wr.heap.size, 0, none⟩ = some (.slice e1 ts.length f1) := by rw [Lib.cell_of_heap Q5.out]; rfl
        have d1 : W5.cell? ⟨wr.heap.size, 1, none⟩ = some (.slice e2 p.len f2) := by rw [Lib.cell_of_heap Q5.out]; rfl
        have hdl : wr.heap.size < W5.heap.size := World.block_lt_of_cell? W5 _ d0
        have HIt := hide (shItem_any (ts, p) z HS1.out HZ.out e1 e2 f1 f2 W5 ((HNd.out.keep (KeptIn.belowK P5.out.be fun _ h => h)).sub fun _ h => by have h : _ < W2.heap.size := h; omega) hts hpl HZl.out)
        clear Q5
        go_wp2_with fail
        refine HIt.out.mono ?_
        rintro e w6 ⟨rfl, hb6⟩
        have P6 := hide (P5.out.trans (WrP.belowW P5.out.is (by omega) hb6))
        clear hb6 P5 d0 d1 hdl HIt
        go_wp2_with fail
        refine (writeS W2.heap.size W2.heap.size pre (showI z) w6 P6.out.is (by have := HBound.out; omega) (by have := P6.out.be.size; omega)).mono ?_
        rintro e w7 ⟨rfl, P7'⟩
        have P7 := hide (P6.out.trans P7')
        have I7 : Hid (IsB W2.heap.size W2.heap.size (pre ++ showI z) w7) := P7.out.is
        have B7 : Hid (Below W2.heap.size W3 w7) := hB.out.trans P7.out.be
        have HC7 : Hid (r = .nil ∨ ∃ g', some (⟨g, 0, none⟩ : Addr) = some ⟨g', 0, none⟩ ∧ g' < W2.heap.size ∧ FC w7 (fun k => k < W2.heap.size) r g' (k + 1)) := .inr ⟨g, rfl, hgB, HRr.out.keep (KeptIn.belowK P7.out.be fun _ h => h) hgB⟩
        clear P7' P6 P7 hB hI HRr HNd
        go_wp2_with fail
        exact ⟨⟨k + 1, r, m, _, hkr, by go_num, HS3, HM3, HTold, I7, B7, HC7, HG3⟩, by simp [intOf]; omega⟩
set_option maxHeartbeats 1000000 in
set_option maxRecDepth 100000 in
theorem shLines_any (s : List UInt8) (w : World) (hs : s.length < 4294967281) :
    Calls Try.prog 9 #[.string ⟨s.toArray⟩] w fun e w' => Below w.heap.size w w' ∧ e = .returned (.int .i64 (Lib.countByte (showR s).1 10)) := by
  have HT := hide (fun W => shText_any s W hs)
  clear hs
  go_enter Try.func9, Try.ntmps9
  go_wp2_with fail
  refine (HT.out _).mono ?_
  rintro e w1 ⟨hb1, rfl⟩
  have B1 := hide hb1
  clear hb1 HT
  go_wp2_with fail
  refine (Try.strings_Count_one ⟨(showR s).1.toArray⟩ 10 _).mono ?_
  rintro e w2 ⟨rfl, rfl⟩
  go_wp2_with fail
  go_ret
  exact ⟨B1.out.alloc B1.out.size _, rfl⟩
end Go.Proofs.Ytcmmjmgbanafgaa

/- The walk over moatlaw11.awake. -/
namespace Go.Proofs.Ytcmmjmgbanafgaa
open Go.RowKit Go.Proofs.Url Go.Proofs.Url.Syn

theorem sq1 : showR [115, 101, 99, 114, 101, 116, 32, 32, 97, 32, 59, 112, 114, 111, 112, 101, 114, 116, 121, 32, 112, 61, 40, 32, 107, 110, 111, 119, 115, 32, 97, 32, 111, 114, 40, 114, 97, 110, 32, 98, 41, 32, 41, 97, 110, 100, 32, 110, 111, 116, 40, 107, 110, 111, 119, 115, 32, 97, 41, 59] = ([115, 101, 99, 114, 101, 116, 32, 97, 59, 10, 112, 114, 111, 112, 101, 114, 116, 121, 32, 112, 32, 61, 32, 40, 107, 110, 111, 119, 115, 32, 97, 32, 111, 114, 32, 114, 97, 110, 32, 98, 41, 32, 97, 110, 100, 32, 110, 111, 116, 32, 107, 110, 111, 119, 115, 32, 97, 59, 10], 0, 0) := by decide +kernel
theorem sq2 : Lib.countByte (showR [115, 101, 99, 114, 101, 116, 32, 97, 59]).1 10 = 1 := by decide +kernel
theorem sq3 : Lib.countByte (showR [120]).1 10 = 0 := by decide +kernel
theorem sh_gen {s t : List UInt8} (h : showR s = (t, 0, 0)) (hs : s.length < 4294967281) (w : World) : Calls Try.prog 7 #[.string ⟨s.toArray⟩] w fun e w' => Below w.heap.size w w' ∧ e = .returned (.tuple #[.string ⟨t.toArray⟩, .agg #[.int .i64 0, .int .i64 0]]) := by
  have k := shText_any s w hs
  rw [h] at k; exact k
theorem sh1 (w : World) : Calls Try.prog 7 #[.string ⟨#[115, 101, 99, 114, 101, 116, 32, 32, 97, 32, 59, 112, 114, 111, 112, 101, 114, 116, 121, 32, 112, 61, 40, 32, 107, 110, 111, 119, 115, 32, 97, 32, 111, 114, 40, 114, 97, 110, 32, 98, 41, 32, 41, 97, 110, 100, 32, 110, 111, 116, 40, 107, 110, 111, 119, 115, 32, 97, 41, 59]⟩] w fun e w' => Below w.heap.size w w' ∧ e = .returned (.tuple #[.string ⟨#[115, 101, 99, 114, 101, 116, 32, 97, 59, 10, 112, 114, 111, 112, 101, 114, 116, 121, 32, 112, 32, 61, 32, 40, 107, 110, 111, 119, 115, 32, 97, 32, 111, 114, 32, 114, 97, 110, 32, 98, 41, 32, 97, 110, 100, 32, 110, 111, 116, 32, 107, 110, 111, 119, 115, 32, 97, 59, 10]⟩, .agg #[.int .i64 0, .int .i64 0]]) :=
  sh_gen (s := [115, 101, 99, 114, 101, 116, 32, 32, 97, 32, 59, 112, 114, 111, 112, 101, 114, 116, 121, 32, 112, 61, 40, 32, 107, 110, 111, 119, 115, 32, 97, 32, 111, 114, 40, 114, 97, 110, 32, 98, 41, 32, 41, 97, 110, 100, 32, 110, 111, 116, 40, 107, 110, 111, 119, 115, 32, 97, 41, 59]) (t := [115, 101, 99, 114, 101, 116, 32, 97, 59, 10, 112, 114, 111, 112, 101, 114, 116, 121, 32, 112, 32, 61, 32, 40, 107, 110, 111, 119, 115, 32, 97, 32, 111, 114, 32, 114, 97, 110, 32, 98, 41, 32, 97, 110, 100, 32, 110, 111, 116, 32, 107, 110, 111, 119, 115, 32, 97, 59, 10]) sq1 (by simp) w
theorem sh2 (w : World) : Calls Try.prog 9 #[.string ⟨#[115, 101, 99, 114, 101, 116, 32, 97, 59]⟩] w fun e w' => Below w.heap.size w w' ∧ e = .returned (.int .i64 1) := by
  have h := shLines_any [115, 101, 99, 114, 101, 116, 32, 97, 59] w (by simp)
  rw [sq2] at h; exact h
theorem sh3 (w : World) : Calls Try.prog 9 #[.string ⟨#[120]⟩] w fun e w' => Below w.heap.size w w' ∧ e = .returned (.int .i64 0) := by
  have h := shLines_any [120] w (by simp)
  rw [sq3] at h; exact h
set_option maxHeartbeats 2000000 in
theorem awake11_any (w : World) :
    Calls Try.prog 6 #[] w fun e w' => e = .returned (.bool true) ∧ Below w.heap.size w w' := by
  go_enter Try.func6, Try.ntmps6
  go_wp2_with fail
  refine (sh1 _).mono ?_
  rintro e w1 ⟨hb1, rfl⟩
  have B1 := hide hb1
  clear hb1
  go_upto_region 2 with fail
  obtain ⟨W2, hW2⟩ : ∃ W2, W2 = w1.alloc (Obj.cells #[.int .i64 0, .int .i64 0] 25) := ⟨_, rfl⟩
  have b2 : Below w1.heap.size w1 W2 := by rw [hW2]; exact (Below.refl _ _).alloc (Nat.le_refl _) _
  have R2 : Hid (WB W2 w1.heap.size 0 0) := by unfold Hid; rw [hW2]; exact WB.new w1 0 0 25
  rw [← hW2]
  have B2 := hide (B1.out.trans (b2.mono B1.out.size))
  have r0 := R2.out.c0
  have r1 := R2.out.c1
  have hl1 := R2.out.lt
  clear b2 hW2 B1
  go_wp2_with fail
  refine (sh2 _).mono ?_
  rintro e w3 ⟨hb3, rfl⟩
  have B3 := hide (B2.out.trans (hb3.mono (by have := B2.out.size; (try simp); omega)))
  clear hb3 R2 B2 r0 r1 hl1
  go_wp2_with fail
  refine (sh3 _).mono ?_
  rintro e w5 ⟨hb5, rfl⟩
  have B5 := hide (B3.out.trans (hb5.mono B3.out.size))
  clear hb5 B3
  go_wp2_with fail
  go_ret
  exact ⟨rfl, B5.out⟩
end Go.Proofs.Ytcmmjmgbanafgaa
