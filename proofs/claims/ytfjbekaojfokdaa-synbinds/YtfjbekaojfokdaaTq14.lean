/- The walk over tree.Read: what package tree gives. -/
import Derived.Test.YtfjbekaojfokdaaTq13
import Derived.Test.YtfjbekaojfokdaaTkOk
import Derived.Test.YtfjbekaojfokdaaLq3
namespace Go.Proofs.Url
open Syn
theorem toksF_code : ∀ (f pos : Nat) (l : List UInt8) (n c p : Nat), toksF f pos l n = .bad c p → c ≠ 0 := by
  intro f
  induction f with
  | zero => intro pos l n c p h; simp [toksF] at h
  | succ f ih =>
    intro pos l n c p h
    rw [toksF_succ] at h
    split at h
    · cases h
    · split at h
      · rename_i hc; cases h; exact hc
      · split at h
        · cases h; decide
        · generalize hx : toksF f _ _ _ = x at h
          cases x with
          | bad c' q =>
            simp [Toks.put] at h
            obtain ⟨rfl, rfl⟩ := h
            exact ih _ _ _ _ _ hx
          | ok us => simp [Toks.put] at h
theorem toksS_code {s : List UInt8} {c p : Nat} (h : toksS s = .bad c p) : c ≠ 0 := by
  unfold toksS at h
  split at h
  · cases h; decide
  · exact toksF_code _ _ _ _ _ _ h
end Go.Proofs.Url
namespace Go.Proofs.Ytfjbekaojfokdaa
open Go.RowKit Go.Proofs.Url Go.Proofs.Url.Syn

theorem readS10_lex {s : List UInt8} {c p : Nat} (h : toksS s = .bad c p) : readS10 s = .bad c p := by unfold readS10; rw [h]
theorem readS10_bad {s : List UInt8} {ts r : List Tk} (h : toksS s = .ok ts) (hi : itemsF (ts.length + 1) ts = .bad r) : readS10 s = .bad 4 (atR s.length r) := by
  unfold readS10; rw [h]
  simp only [hi]
  cases r <;> rfl
theorem readS10_ok {s : List UInt8} {ts r : List Tk} {xs : List Itm} (h : toksS s = .ok ts) (hi : itemsF (ts.length + 1) ts = .ok xs r) : readS10 s = if xs.any deepI then .bad 5 0 else .ok xs := by
  unfold readS10; rw [h]
  simp only [hi]
/-- What tree.Read answers. -/
def TreePost (s : List UInt8) (w : World) (e : Ending) (w' : World) : Prop :=
  Below w.heap.size w w' ∧ (match readS10 s with
    | .ok xs => ∃ (F : Fo) (a : Option Addr) (c : Nat), e = .returned (.tuple #[.slice a F.len c, .agg #[.int .i64 0, .int .i64 0]]) ∧ FA w' (In w.heap.size w'.heap.size) a F ∧ ShIs F xs ∧ F.fit 4294967280 ∧ F.len ≤ 2000
    | .bad c p => e = .returned (.tuple #[.slice none 0 0, .agg #[.int .i64 c, .int .i64 p]]))
theorem TreePost.bad {s : List UInt8} {c p : Nat} {w w' : World} (hx : readS10 s = .bad c p) (hb : Below w.heap.size w w') : TreePost s w (.returned (.tuple #[.slice none 0 0, .agg #[.int .i64 c, .int .i64 p]])) w' := by
  unfold TreePost; rw [hx]; exact ⟨hb, rfl⟩
theorem TreePost.ok {s : List UInt8} {xs : List Itm} {w w' : World} {F : Fo} {a : Option Addr} {c : Nat} (hx : readS10 s = .ok xs) (hb : Below w.heap.size w w') (hf : FA w' (In w.heap.size w'.heap.size) a F) (hs : ShIs F xs) (h1 : F.fit 4294967280) (h2 : F.len ≤ 2000) : TreePost s w (.returned (.tuple #[.slice a F.len c, .agg #[.int .i64 0, .int .i64 0]])) w' := by
  unfold TreePost; rw [hx]; exact ⟨hb, F, a, c, rfl, hf, hs, h1, h2⟩
theorem WB.same' {W W' : World} {g : Nat} {a b : Int} (h : WB W g a b) (hb : W'.heap[g]? = W.heap[g]?) : WB W' g a b :=
  ⟨by rw [World.cell?_of_block (w := W) hb]; exact h.c0, by rw [World.cell?_of_block (w := W) hb]; exact h.c1, fun j hj => by unfold World.frozen?; simp only [hb]; exact h.fr j hj⟩
theorem WB.otherp {W : World} {g : Nat} {a b : Int} (h : WB W g a b) {m : Nat} (hm : g ≠ m) (x y : Int) : WB (put2 W m x y) g a b :=
  h.same' (by unfold put2; rw [Below.heap_setCell _ _ _ _ (by show g ≠ m; exact hm), Below.heap_setCell _ _ _ _ (by show g ≠ m; exact hm)])
theorem resReadTree {W : World} {m : Nat} {v : Value} {x y : Int} {tmps : Array Value} (h : WB W m x y) (h2 : tmps[2]?.getD undef = v) (h3 : tmps[3]?.getD undef = .pointer (some ⟨m, 0, none⟩)) :
    (results Try.f17 tmps).run Try.prog W = .ok (.tuple #[v, .agg #[.int .i64 x, .int .i64 y]]) W := by
  obtain ⟨c0, c1, _⟩ := h
  simp [results, Try.results17, go_sem, h2, h3, c0, c1]
set_option maxHeartbeats 4000000 in
set_option maxRecDepth 100000 in
theorem treeRead_any (s : List UInt8) (w : World) (hs : s.length < 4294967281) :
    Calls Try.prog 17 #[.string ⟨s.toArray⟩] w fun e w' => TreePost s w e w' := by
  have HS := hide hs
  clear hs
  go_enter Try.func17, Try.ntmps17
  go_upto_region 1 with fail
  obtain ⟨W0, hW0⟩ : ∃ x, x = w.alloc (Obj.cells #[.int .i64 0, .int .i64 0] 25) := ⟨_, rfl⟩
  have R0 : Hid (WB W0 w.heap.size 0 0) := by unfold Hid; rw [hW0]; exact WB.new w 0 0 _
  have B0 : Hid (Below w.heap.size w W0) := by unfold Hid; rw [hW0]; exact (Below.refl _ _).alloc (Nat.le_refl _) _
  rw [← hW0]
  clear hW0
  go_wp2_with fail
  refine (Tokens_any s W0 HS.out).mono ?_
  rintro e w1 ⟨ao, cap, ts, c, p, rfl, hown, hor, b1⟩
  have R1 := hide (R0.out.keep b1)
  have B1 := hide (B0.out.trans (b1.mono B0.out.size))
  have hs1 := b1.size
  have hr1 := R1.out.lt
  clear b1 R0
  go_upto_region 2 with fail
  obtain ⟨W2, hW2⟩ : ∃ x, x = w1.alloc (Obj.cells #[.int .i64 c, .int .i64 p] 25) := ⟨_, rfl⟩
  have b2 : Below w1.heap.size w1 W2 := by rw [hW2]; exact (Below.refl _ _).alloc (Nat.le_refl _) _
  have X2 : Hid (WB W2 w1.heap.size c p) := by unfold Hid; rw [hW2]; exact WB.new w1 _ _ _
  have s2 : Hid (W2.heap.size = w1.heap.size + 1) := by unfold Hid; rw [hW2]; simp
  rw [← hW2]
  have R2 := hide (R1.out.keep b2)
  have B2 := hide (B1.out.trans (b2.mono B1.out.size))
  have T2 : Hid (TA W2 (In W0.heap.size w1.heap.size) ao ts) := (owns_TA hown).keep (KeptIn.below b2 (Nat.le_refl _) _)
  clear hW2 b2 R1 B1 hown B0
  have x0 := X2.out.c0
  have x1 := X2.out.c1
  have hxl := X2.out.lt
  rcases hor with ⟨hT, rfl, rfl⟩ | ⟨hT, rfl⟩
  · have HT := hide hT
    have HTO := hide (toksS_ok hT)
    have htm := toksS_many hT
    clear hT
    go_upto_region 5 with fail
    obtain ⟨W3, hW3⟩ : ∃ x, x = W2.alloc (Obj.cells #[.slice ao ts.length cap, .int .i64 0, .int .i64 s.length] 81) := ⟨_, rfl⟩
    have b3 : Below W2.heap.size W2 W3 := by rw [hW3]; exact (Below.refl _ _).alloc (Nat.le_refl _) _
    have S3 : Hid (RS W3 W2.heap.size ao cap ts ts s.length) := by
      refine ⟨⟨0, Nat.zero_le _, rfl, ?_⟩, ?_⟩
      · rw [hW3]
        refine ⟨?_, ?_, ?_, ?_⟩
        all_goals (first | (rw [World.frozen?_alloc_new]; done) | (rw [World.cell?_alloc_new]; rfl))
      · intro k hk
        obtain ⟨q, e, hq, k1, k2, k3⟩ := (T2.out.keep (KeptIn.below b3 (by rw [s2.out]; omega) _)) k hk
        exact ⟨q, e, by have := hq.2; have := s2.out; omega, k1, k2, k3⟩
    rw [← hW3]
    have R3 := hide (R2.out.keep b3)
    have X3 := hide (X2.out.keep b3)
    have B3 := hide (B2.out.trans (b3.mono B2.out.size))
    have hs3 : W2.heap.size < W3.heap.size := S3.out.lt
    clear hW3 b3 R2 X2 B2 T2 x0 x1
    go_wp2_with fail
    refine (file_any W2.heap.size ao cap ts s.length W3 S3.out HTO.out (by omega)).mono ?_
    rintro e w4 ⟨B4, h4⟩
    have R4 := hide (R3.out.same' (B4.block _ R3.out.lt (by omega)))
    have X4 := hide (X3.out.same' (B4.block _ X3.out.lt (by omega)))
    have B5 : Hid (Below w.heap.size w w4) := B3.out.trans (B4.low (by omega) (by omega))
    have hs4 := B4.size
    clear B4 R3 X3 B3 S3
    have x0 := X4.out.c0
    have x1 := X4.out.c1
    have q0 := X4.out.fr 0 (by decide)
    have q1 := X4.out.fr 1 (by decide)
    have hxl4 := X4.out.lt
    cases hx : itemsF (ts.length + 1) ts with
    | bad r' =>
      rw [hx] at h4
      subst h4
      have HX := hide (readS10_bad HT.out hx)
      obtain ⟨w5, hw5⟩ : ∃ x, x = put2 w4 w1.heap.size 4 (atR s.length r') := ⟨_, rfl⟩
      have X5 : Hid (WB w5 w1.heap.size 4 (atR s.length r')) := by unfold Hid; rw [hw5]; exact X4.out.put _ _
      have R5 : Hid (WB w5 w.heap.size 0 0) := by unfold Hid; rw [hw5]; exact R4.out.otherp (by omega) _ _
      have B6 : Hid (Below w.heap.size w w5) := by unfold Hid; rw [hw5]; exact put2_below B5.out _ (by omega) _ _
      have HW5 := hide hw5
      unfold put2 at HW5
      clear hw5 R4 X4 B5 hx
      go_upto_region 6 with fail
      rw [← HW5.out]
      clear HW5
      go_wp2_with fail
      refine (tooDeep_any .nil trivial (by simp [Fo.len]) none 0 w5 (FA.nil _ _ _)).mono ?_
      rintro e w6 ⟨rfl, b6⟩
      have hd : Fo.nil.deepAny = false := rfl
      rw [hd]
      have X6 := hide (X5.out.keep b6)
      have R6 := hide (R5.out.keep b6)
      have B7 := hide (B6.out.trans (b6.mono B6.out.size))
      clear b6 X5 R5 B6 x0 x1 q0 q1
      have x0 := X6.out.c0
      have x1 := X6.out.c1
      have hxl6 := X6.out.lt
      have r0 := R6.out.c0
      have r1 := R6.out.c1
      have f0 := R6.out.fr 0 (by decide)
      have f1 := R6.out.fr 1 (by decide)
      have hrl6 := R6.out.lt
      have HP : Hid (WB (put2 w6 w.heap.size 4 (atR s.length r')).drew w.heap.size 4 (atR s.length r')) := (R6.out.put _ _).keep ((Below.refl _ _).drew)
      have HB : Hid (Below w.heap.size w (put2 w6 w.heap.size 4 (atR s.length r')).drew) := (put2_below B7.out _ (Nat.le_refl _) _ _).drew
      unfold put2 at HP HB
      clear R6 B7 X6
      go_wp2_with fail
      go_region
      go_wp2_with fail
      refine bodyPost_ret (v := .tuple #[.slice none 0 0, .agg #[.int .i64 4, .int .i64 (atR s.length r')]]) ?_ rfl ?_
      · exact resReadTree HP.out rfl rfl
      · exact TreePost.bad HX.out HB.out
    | ok xs r' =>
      rw [hx] at h4
      obtain ⟨F, a, cF, rfl, hFA, hSh⟩ := h4
      have hok := items_okI _ _ _ _ hx
      have hfit := shIs_fit (n := 2000) (by decide) hSh (fun y hy => ⟨fun f hf => Nat.le_trans ((hok.1 y hy).1 f hf) htm, Nat.le_trans (hok.1 y hy).2 htm⟩)
      have HFit : Hid (F.fit 4294967280) := Fo.fit_mono (by decide) hfit.1
      have HFl : Hid (F.len ≤ 2000) := by unfold Hid; rw [hfit.2]; omega
      have HX := hide (readS10_ok HT.out hx)
      have HSh := hide hSh
      have HDp : Hid (xs.any deepI = F.deepAny) := shIs_deep hSh
      obtain ⟨w5, hw5⟩ : ∃ x, x = put2 w4 w1.heap.size 0 0 := ⟨_, rfl⟩
      have X5 : Hid (WB w5 w1.heap.size 0 0) := by unfold Hid; rw [hw5]; exact X4.out.put _ _
      have R5 : Hid (WB w5 w.heap.size 0 0) := by unfold Hid; rw [hw5]; exact R4.out.otherp (by omega) _ _
      have B6 : Hid (Below w.heap.size w w5) := by unfold Hid; rw [hw5]; exact put2_below B5.out _ (by omega) _ _
      have s5 : w5.heap.size = w4.heap.size := by rw [hw5]; unfold put2; rw [size_set, size_set]
      have F5 : Hid (FA w5 (In W3.heap.size w5.heap.size) a F) := by
        unfold Hid; rw [s5, hw5]
        exact hFA.keep ((KeptIn.set (.inl (by omega))).trans (KeptIn.set (.inl (by omega))))
      have HW5 := hide hw5
      unfold put2 at HW5
      clear hw5 R4 X4 B5 hx hFA hSh hfit hok s5
      go_upto_region 6 with fail
      rw [← HW5.out]
      clear HW5
      go_wp2_with fail
      refine (tooDeep_any F HFit.out (by have := HFl.out; omega) a cF w5 (F5.out.sub fun b k => k.2)).mono ?_
      rintro e w6 ⟨rfl, b6⟩
      have X6 := hide (X5.out.keep b6)
      have R6 := hide (R5.out.keep b6)
      have B7 := hide (B6.out.trans (b6.mono B6.out.size))
      have F6 : Hid (FA w6 (In W3.heap.size w6.heap.size) a F) := (F5.out.keep (KeptIn.below b6 (Nat.le_refl _) _)).sub (In.mono (Nat.le_refl _) b6.size)
      clear b6 X5 R5 B6 F5 x0 x1 q0 q1
      have x0 := X6.out.c0
      have x1 := X6.out.c1
      have hxl6 := X6.out.lt
      have r0 := R6.out.c0
      have r1 := R6.out.c1
      have f0 := R6.out.fr 0 (by decide)
      have f1 := R6.out.fr 1 (by decide)
      have hrl6 := R6.out.lt
      cases hd : F.deepAny with
      | true =>
        have HX2 : Hid (readS10 s = .bad 5 0) := by unfold Hid; rw [HX.out, HDp.out, hd]; rfl
        have HP : Hid (WB (put2 w6 w.heap.size 5 0) w.heap.size 5 0) := R6.out.put _ _
        have HB : Hid (Below w.heap.size w (put2 w6 w.heap.size 5 0)) := put2_below B7.out _ (Nat.le_refl _) _ _
        unfold put2 at HP HB
        clear R6 B7 X6 F6 hd HX
        go_wp2_with fail
        refine bodyPost_ret (v := .tuple #[.slice none 0 0, .agg #[.int .i64 5, .int .i64 0]]) ?_ rfl ?_
        · exact resReadTree HP.out rfl rfl
        · exact TreePost.bad HX2.out HB.out
      | false =>
        have HX2 : Hid (readS10 s = .ok xs) := by unfold Hid; rw [HX.out, HDp.out, hd]; rfl
        have HP : Hid (WB (put2 w6 w.heap.size 0 0).drew w.heap.size 0 0) := (R6.out.put _ _).keep ((Below.refl _ _).drew)
        have HB : Hid (Below w.heap.size w (put2 w6 w.heap.size 0 0).drew) := (put2_below B7.out _ (Nat.le_refl _) _ _).drew
        have HF : Hid (FA (put2 w6 w.heap.size 0 0).drew (In w.heap.size (put2 w6 w.heap.size 0 0).drew.heap.size) a F) := by
          have e : (put2 w6 w.heap.size 0 0).drew.heap.size = w6.heap.size := by
            show (put2 w6 w.heap.size 0 0).heap.size = _
            unfold put2; rw [size_set, size_set]
          unfold Hid
          rw [e]
          have h1 : FA (put2 w6 w.heap.size 0 0) (In W3.heap.size w6.heap.size) a F := F6.out.keep ((KeptIn.set (.inl (by omega))).trans (KeptIn.set (.inl (by omega))))
          exact (h1.keep (W' := (put2 w6 w.heap.size 0 0).drew) (fun _ _ => rfl)).sub (In.mono (by omega) (Nat.le_refl _))
        unfold put2 at HP HB HF
        clear R6 B7 X6 F6 hd HX
        go_wp2_with fail
        go_region
        go_wp2_with fail
        refine bodyPost_ret (v := .tuple #[.slice a F.len cF, .agg #[.int .i64 0, .int .i64 0]]) ?_ rfl ?_
        · exact resReadTree HP.out rfl rfl
        · exact TreePost.ok HX2.out HB.out HF.out HSh.out HFit.out HFl.out
  · have HX := hide (readS10_lex hT)
    have hc : ((c : Int) != 0) = true := by have := toksS_code hT; simp; omega
    have r0 := R2.out.c0
    have r1 := R2.out.c1
    have q0 := R2.out.fr 0 (by decide)
    have q1 := R2.out.fr 1 (by decide)
    have hrl := R2.out.lt
    clear hT
    have HP : Hid (WB (put2 W2 w.heap.size c p).drew w.heap.size c p) := (R2.out.put c p).keep ((Below.refl _ _).drew)
    have HB : Hid (Below w.heap.size w (put2 W2 w.heap.size c p).drew) := (put2_below B2.out _ (Nat.le_refl _) _ _).drew
    unfold put2 at HP HB
    clear R2 B2 X2 T2
    go_wp2_with fail
    go_region
    go_wp2_with fail
    refine bodyPost_ret (v := .tuple #[.slice none 0 0, .agg #[.int .i64 c, .int .i64 p]]) ?_ rfl ?_
    · exact resReadTree HP.out rfl rfl
    · exact TreePost.bad HX.out HB.out
end Go.Proofs.Ytfjbekaojfokdaa
