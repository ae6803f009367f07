/- The walk over tree.reader's file. -/
import Derived.Test.YtcmmjmgbanafgaaTq10
namespace Go.Proofs.Ytcmmjmgbanafgaa
open Go.RowKit Go.Proofs.Url Go.Proofs.Url.Syn

theorem size_alloc1 (w : World) (o : Obj) : (w.alloc o).heap.size = w.heap.size + 1 := by simp
theorem cell_next (w : World) (v : Value) (t : TypeId) : (w.alloc (Obj.cells #[v] t)).cell? ⟨w.heap.size, 0, none⟩ = some v := by rw [World.cell?_alloc_new]; rfl
theorem frozen_next (w : World) (o : Obj) (v : Value) (t : TypeId) : ((w.alloc (Obj.cells #[v] t)).alloc o).frozen? ⟨w.heap.size, 0, none⟩ = false := by
  have e : ((w.alloc (Obj.cells #[v] t)).alloc o).heap[w.heap.size]? = (w.alloc (Obj.cells #[v] t)).heap[w.heap.size]? := ((Below.refl _ (w.alloc (Obj.cells #[v] t))).alloc (Nat.le_refl _) o).block _ (by simp)
  unfold World.frozen?
  simp only [e]
  have := World.frozen?_alloc_new w #[v] t 0
  unfold World.frozen? at this
  exact this
theorem set_two {xs : List Value} {k : Nat} (h : xs.length = k) {a b c d : Value} : ((xs ++ [a, b]).set k c).set (k + 1) d = xs ++ [c, d] := by
  subst h
  simp
set_option maxHeartbeats 4000000 in
set_option maxRecDepth 100000 in
theorem file_any (g : Nat) (ao : Option Addr) (cap : Nat) (ts : List Tk) (n : Nat) (w : World) (h : RS w g ao cap ts ts n) (ht : TokOk ts) (hl : ts.length < 4294967281) :
    Calls Try.prog 26 #[.pointer (some ⟨g, 0, none⟩)] w fun e w' => FilePost ts n g w e w' := by
  have hmf : ∀ (fn : Fn) (first cap : Array Value) (w : World), (Instr.makeFunc fn first cap).run Try.prog w = .ok (.func fn first cap) w := fun _ _ _ _ => rfl
  have HIF := hide (fun r W (a : RS W g ao cap ts r n) => item_any g ao cap ts r n W a ht hl)
  have hgw := h.lt
  have HL := hide hl
  have HS := hide h
  obtain ⟨i0, hi, hz0, hz1, hz2⟩ := info_parts infoN
  have HI := hide hi
  have HZ0 := hide hz0
  have HZ1 := hide hz1
  have HZ2 := hide hz2
  clear h hl ht hi hz0 hz1 hz2
  go_enter_defers Try.func26, Try.ntmps26
  go_upto_region 1 with fail
  obtain ⟨W0, hW0⟩ : ∃ x, x = ((w.alloc (Obj.cells #[.pointer (some ⟨g, 0, none⟩)] 73)).alloc (Obj.cells #[.slice none 0 0] 43)).alloc (Obj.cells #[.int .i64 0, .int .i64 0] 25) := ⟨_, rfl⟩
  have b0 : Below w.heap.size w W0 := by rw [hW0]; exact (((Below.refl _ _).alloc (Nat.le_refl _) _).alloc (by simp) _).alloc (by simp; omega) _
  have F0 : Hid (FB W0 w.heap.size g (.slice none 0 0) 0 0) := by
    unfold Hid; rw [hW0]
    refine ⟨?_, ?_, ?_, ?_⟩
    · rw [World.cell?_alloc_past _ _ _ (by simp; omega), World.cell?_alloc_past _ _ _ (by simp), World.cell?_alloc_new]; rfl
    · rw [World.cell?_alloc_past _ _ _ (by simp)]
      have := cell_next (w.alloc (Obj.cells #[.pointer (some ⟨g, 0, none⟩)] 73)) (.slice none 0 0) 43
      rwa [size_alloc1] at this
    · have := frozen_next (w.alloc (Obj.cells #[.pointer (some ⟨g, 0, none⟩)] 73)) (Obj.cells #[.int .i64 0, .int .i64 0] 25) (.slice none 0 0) 43
      rwa [size_alloc1] at this
    · have := WB.new ((w.alloc (Obj.cells #[.pointer (some ⟨g, 0, none⟩)] 73)).alloc (Obj.cells #[.slice none 0 0] 43)) 0 0 25
      simpa using this
  have S0 := hide (HS.out.keep b0)
  have B0 := hide (ButP.of (g := g) b0)
  rw [← hW0]
  clear hW0 b0 HS
  go_wp2_with fail
  go_loopw [] (fun W => ∃ (kk : Nat) (acc : List Itm) (ns : List Nd) (xs : List Value) (r' : List Tk) (a2 : Option Addr) (cv : Nat), r'.length ≤ kk ∧ ns.length + r'.length ≤ ts.length ∧ Hid (itemsF (ts.length + 1) ts = (itemsF (kk + 1) r').map (fun x => acc ++ x)) ∧ Hid (ShIs (Fo.ofL ns) acc) ∧
    Hid (FB W w.heap.size g (.slice a2 ns.length cv) 0 0) ∧ Hid (RS W g ao cap ts r' n) ∧ Hid (ButP g w W) ∧ Hid (W.ownsRow (w.heap.size + 3) 51 2 (.slice a2 ns.length cv) ns.length xs) ∧ Hid (RowN W (KR (w.heap.size + 2) W a2) ns xs)) (fun W => leftR W g ts.length)
  case atStart => exact ⟨ts.length, [], [], [], ts, none, 0, Nat.le_refl _, by simp, by unfold Hid; rw [map_idq], trivial, F0, S0, B0, World.ownsRow_nil _ _ _ _, rfl⟩
  case round =>
    obtain ⟨kk, acc, ns, xs, r', a2, cv, hkk, hnl, hE, hA, hF, hS, hB, hO, hX⟩ := hrel
    clear F0 S0 B0
    have hrl : Hid (leftR wr g ts.length = r'.length) := hS.out.left
    have x0 := hF.out.c0
    have hfl := hF.out.lt
    have BD := hide (fun k => below_drewP wr k)
    cases r' with
    | nil =>
      have RB0 := hS.out.nil
      have c0 := RB0.c0
      have c1 := RB0.c1
      have hgl : g < wr.heap.size := RB0.lt
      have hlI : ¬ (ts.length : Int) < (ts.length : Int) := by omega
      have HX : Hid (itemsF (ts.length + 1) ts = .ok acc []) := by unfold Hid; rw [hE.out, items_nil]; simp [Rd.map]
      clear RB0 hE
      go_wp2_with fail
      go_quiet (fail)
      have bd := BD.out nq
      obtain ⟨W4, hW4⟩ : ∃ x, x = wr.drewN nq := ⟨_, rfl⟩
      rw [← hW4] at bd ⊢
      have F4 := hide (hF.out.keep (KeptIn.below bd (by omega) _))
      have B4 := hide (hB.out.trans (ButP.of bd))
      have O4 := hide (ownsq_kept hO.out (KeptIn.below bd (Nat.le_refl _) _))
      have X4 : Hid (RowN W4 (KR (w.heap.size + 2) W4 a2) ns xs) := (hX.out.keep (KeptIn.belowK bd fun _ k => k.2.1)).sub fun _ k => ⟨k.1, Nat.lt_of_lt_of_le k.2.1 bd.size, k.2.2⟩
      clear hF hS hB hO hX bd hW4 BD x0 c0 c1 hfl hgl
      have x1 := F4.out.c1
      have f1 := F4.out.f1
      have d0 : W4.cell? ⟨w.heap.size + 1 + 1, 0, none⟩ = some (.int .i64 0) := F4.out.wb.c0
      have d1 : W4.cell? ⟨w.heap.size + 1 + 1, 1, none⟩ = some (.int .i64 0) := F4.out.wb.c1
      have e0 : W4.frozen? ⟨w.heap.size + 1 + 1, 0, none⟩ = false := F4.out.wb.fr 0 (by decide)
      have e1 : W4.frozen? ⟨w.heap.size + 1 + 1, 1, none⟩ = false := F4.out.wb.fr 1 (by decide)
      have hf4 : w.heap.size + 1 + 1 < W4.heap.size := F4.out.lt
      obtain ⟨W5, hW5⟩ : ∃ x, x = put2 (W4.setCell ⟨w.heap.size + 1, 0, none⟩ (.slice a2 ns.length cv)) (w.heap.size + 1 + 1) 0 0 := ⟨_, rfl⟩
      have FF : Hid (FB W5 w.heap.size g (.slice a2 ns.length cv) 0 0) := by unfold Hid; rw [hW5]; exact (F4.out.set (.slice a2 ns.length cv)).put 0 0
      have BF : Hid (ButP g w W5) := by unfold Hid; rw [hW5]; exact But.trans B4.out (But.below (put2_below ((Below.refl w.heap.size W4).setCell (p := ⟨w.heap.size + 1, 0, none⟩) (by show w.heap.size ≤ w.heap.size + 1; omega) _) _ (by omega) _ _))
      have s5 : Hid (W5.heap.size = W4.heap.size) := by unfold Hid; rw [hW5]; unfold put2; rw [size_set, size_set, size_set]
      have k5 : ∀ (K : Nat → Prop), (∀ b, K b → w.heap.size + 2 < b) → KeptIn K W4 W5 := fun K hK => by
        rw [hW5]
        exact (KeptIn.setK (fun k => by have := hK _ k; omega)).trans ((KeptIn.setK (fun k => by have := hK _ k; omega)).trans (KeptIn.setK (fun k => by have := hK _ k; omega)))
      have NN : Hid (FA W5 (In w.heap.size W5.heap.size) a2 (Fo.ofL ns)) := by
        by_cases hn0 : ns = []
        · rw [hn0]; exact .inl rfl
        · have hpos : 0 < ns.length := List.length_pos_iff.2 hn0
          obtain ⟨q, rfl, hq1, hq2, hqc⟩ := owns_cells (ownsq_kept O4.out (k5 _ fun b k => by have := k.1; omega)) hpos
          refine .inr ⟨q, rfl, ⟨by omega, hq2⟩, ?_⟩
          exact ((X4.out.keep (k5 _ fun b k => by have := k.1; omega)).fc (k := 0) (fun j v hj => by rw [Nat.zero_mul, Nat.zero_add]; exact hqc j v hj)).sub fun b k => ⟨by have := k.1; omega, by have := k.2.1; have := s5.out; omega⟩
      have HW5 := hide hW5
      unfold put2 at HW5
      clear hW5 k5 F4 B4 O4 X4 s5
      go_wp2_with fail
      rw [← HW5.out]
      refine leaves_cons (f := 51) (args := #[.pointer (some ⟨w.heap.size, 0, none⟩), .pointer (some ⟨w.heap.size + 1, 0, none⟩), .pointer (some ⟨w.heap.size + 2, 0, none⟩)]) (by simp) (by simp [go_sem]) ?_
      refine (catch_idle w.heap.size W5).mono ?_
      rintro e u' w'' ⟨rfl, rfl, rfl⟩
      refine ⟨_, resReadFile FF.out ⟨_, _, _, rfl⟩ rfl rfl, ?_⟩
      have := FilePost.ok (n := n) (c := cv) HX.out BF.out NN.out hA.out
      rw [Fo.ofL_len] at this
      exact this
    | cons t r' =>
      obtain ⟨i, b, hit, hd, rfl, hbg, RB0, k1, k2, k3⟩ := hS.out.cell
      have c0 := RB0.c0
      have c1 := RB0.c1
      have hgl : g < wr.heap.size := RB0.lt
      have hlI : (i : Int) < (ts.length : Int) := by omega
      have HE2 : Hid (itemsF (ts.length + 1) ts = ((itemR (t :: r')).then fun x r' => (itemsF kk r').map fun l => x :: l).map (fun x => acc ++ x)) := by unfold Hid; rw [hE.out, items_succ]
      clear RB0 hE hd k1 k2 k3 hit
      go_wp2_with fail
      go_quiet (fail)
      have bd := BD.out nq
      obtain ⟨W4, hW4⟩ : ∃ x, x = wr.drewN nq := ⟨_, rfl⟩
      rw [← hW4] at bd ⊢
      have F4 := hide (hF.out.keep (KeptIn.below bd (by omega) _))
      have S4 := hide (hS.out.keep bd)
      have B4 := hide (hB.out.trans (ButP.of bd))
      have O4 := hide (ownsq_kept hO.out (KeptIn.below bd (Nat.le_refl _) _))
      have X4 : Hid (RowN W4 (KR (w.heap.size + 2) W4 a2) ns xs) := (hX.out.keep (KeptIn.belowK bd fun _ k => k.2.1)).sub fun _ k => ⟨k.1, Nat.lt_of_lt_of_le k.2.1 bd.size, k.2.2⟩
      have hf4 := F4.out.lt
      have hg4 := S4.out.lt
      clear hF hS hB hO hX bd hW4 BD x0 c0 c1 hfl hgl
      go_upto_region 3 with fail
      have IF : Hid ((Try.prog.info? 51).map (·.size) = some 2) := by unfold Hid; kernel_rfl
      cases hx : itemR (t :: r') with
      | bad r3 =>
          have HX : Hid (itemsF (ts.length + 1) ts = .bad r3) := by unfold Hid; rw [HE2.out, hx]; rfl
          have HCall : Hid (∀ W, RS W g (some ⟨b, 0, none⟩) cap ts (t :: r') n → Calls Try.prog 53 #[.pointer (some ⟨g, 0, none⟩)] W fun e w' => ButP g W w' ∧ e = .panicked stuckE ∧ RS w' g (some ⟨b, 0, none⟩) cap ts r3 n) := fun W a => by
            have := HIF.out (t :: r') W a; rw [hx] at this; exact this
          clear hx HE2 O4 X4 hA
          refine RP.wp_region_posts_upto (X := fun ch W => ch = stuckE ∧ ButP g W4 W ∧ RS W g (some ⟨b, 0, none⟩) cap ts r3 n) (l := [_, _, _, _, _]) (rest := [_, _, _, _]) rfl (by kernel_rfl) (RC4 W4 g (some ⟨b, 0, none⟩) cap ts (t :: r') (t :: r') n 2) (fun _ W W' => ButP g W W')
            [some 15, some 16, some 17, some 18, some 19] [some 20, some 21, none, none] [[], [], [1], [0], [], [0, 1, 2, 3, 4], [0, 1, 2, 3, 4, 5], [0, 1, 2, 3, 4, 5, 6], [0, 1, 2, 3, 4, 5]]
            [fun v _ => v = .slice a2 ns.length cv, fun v _ => v = .pointer (some ⟨g, 0, none⟩), fun _ _ => False, fun v _ => v = .int .i64 ns.length, fun v W => ZeroP W4.heap.size v W]
            ?_ rfl rfl (by kernel_rfl) (by kernel_rfl) (by kernel_rfl) (by kernel_rfl) (by kernel_rfl) ?_ ?_ ?_ ?_
          · intro ch A W hs hd ho hx
            obtain ⟨rfl, BW, SW⟩ := hx
            have FW := F4.out.keep (KeptIn.but BW (by omega) (by omega))
            show Leaves Try.prog Try.f26 A.tmps _ A.defers (.panicking stuckE) W
            rw [hd]
            refine leaves_cons (f := 51) (args := #[.pointer (some ⟨w.heap.size, 0, none⟩), .pointer (some ⟨w.heap.size + 1, 0, none⟩), .pointer (some ⟨w.heap.size + 2, 0, none⟩)]) (by simp) (by simp [go_sem]) ?_
            refine (catch_panicking w.heap.size g _ cap ts r3 n _ 0 0 _ _ [] W FW SW).mono ?_
            rintro e u' w'' ⟨rfl, rfl, FF, BB⟩
            refine ⟨_, resReadFile FF ⟨_, _, _, rfl⟩ (by rw [ho 2 (by decide)]; rfl) (by rw [ho 3 (by decide)]; rfl), ?_⟩
            exact FilePost.bad HX.out (But.trans (B4.out.trans BW) (But.below BB))
          · refine .eq (.eq (.cons (fun _ _ _ _ _ _ _ h => h) (.eq (.cons ?_ .nil))))
            rintro i v W W' h1 h2 hk ⟨z, e, hz, hc⟩
            refine ⟨z, e, hz, fun j u hj => ?_⟩
            have hlt := World.block_lt_of_cell? W _ (hc j u hj)
            rw [hk.cell (p := ⟨z, 0 + j, none⟩) hlt (by show z ≠ g; omega)]; exact hc j u hj
          · intro L hL
            exact RC4.none S4.out (hL 2)
          · refine .cons ?_ (.cons ?_ (.cons ?_ (.cons ?_ (.cons ?_ .nil))))
            all_goals (intro L A W hLi hC old nd)
            all_goals (refine RP.runs_none rfl ?_)
            · have e2 : (A.tmps[2]?).getD undef = .pointer (some ⟨w.heap.size + 1, 0, none⟩) := old 2 (by kernel_rfl)
              have x1 := (F4.out.keep (KeptIn.but hC.bt (by omega) (by omega))).c1
              simp [RP.Oper.gives, RP.gives, go_sem, e2, x1]
              exact ⟨hC.same (by decide) (Below.refl _ _), But.refl _ _ _, rfl⟩
            · have e1 : (A.tmps[1]?).getD undef = .pointer (some ⟨w.heap.size, 0, none⟩) := old 1 (by kernel_rfl)
              have x0 := (F4.out.keep (KeptIn.but hC.bt (by omega) (by omega))).c0
              simp [RP.Oper.gives, RP.gives, go_sem, e1, x0]
              exact ⟨hC.same (by decide) (Below.refl _ _), But.refl _ _ _, rfl⟩
            · have e16 : (A.tmps[16]?).getD undef = .pointer (some ⟨g, 0, none⟩) := nd.1
              have S := hC.rs
              rw [hLi] at S
              simp [RP.Oper.gives, RP.gives, go_sem, e16]
              refine (HCall.out W S).mono fun e W' h => ?_
              exact ⟨_, h.2.1, rfl, hC.bt.trans h.1, h.2.2⟩
            · have e15 : (A.tmps[15]?).getD undef = .slice a2 ns.length cv := nd.1
              simp [RP.Oper.gives, RP.gives, go_sem, e15]
              exact ⟨hC.same (by decide) (Below.refl _ _), But.refl _ _ _, rfl⟩
            · simp [RP.Oper.gives, RP.gives, go_sem]
              have bb : Below W.heap.size W (W.alloc (Obj.cells #[.slice none 0 0, .slice none 0 0] 51)) := (Below.refl _ _).alloc (Nat.le_refl _) _
              refine ⟨hC.same (by decide) bb, ButP.of bb, ⟨W.heap.size, rfl, hC.bt.size, fun j u hj => ?_⟩⟩
              rw [World.cell?_alloc_new, Nat.zero_add]; simpa using hj
          · intro L W hall hC E hE
            exact .cons fun v1 h1 => .cons fun v2 h2 => .cons fun v3 h3 => h3.elim
      | ok y r3 =>
          have hsh := item_shortq hx
          have HCall : Hid (∀ W, RS W g (some ⟨b, 0, none⟩) cap ts (t :: r') n → Calls Try.prog 53 #[.pointer (some ⟨g, 0, none⟩)] W fun e w' => ButP g W w' ∧ ∃ (y2 : Nd) (p1 : Option Addr) (q1 : Nat) (p2 : Option Addr) (q2 : Nat), e = .returned (.agg #[.slice p1 y2.1.length q1, .slice p2 y2.2.len q2]) ∧ NA w' (In W.heap.size w'.heap.size) p1 p2 y2 ∧ ShI y2 y ∧ RS w' g (some ⟨b, 0, none⟩) cap ts r3 n) := fun W a => by
            have := HIF.out (t :: r') W a; rw [hx] at this; exact this
          obtain ⟨k', rfl⟩ : ∃ k, kk = k + 1 := ⟨kk - 1, by simp at hkk; omega⟩
          have HE3 : Hid (itemsF (ts.length + 1) ts = (itemsF (k' + 1) r3).map (fun x => (acc ++ [y]) ++ x)) := by
            unfold Hid; rw [HE2.out, hx]
            simp only [Rd.then]
            rw [map_mapq]; congr 1; funext x; simp
          simp only [List.length_cons] at hkk hnl hsh hrl
          have hkk3 : r3.length ≤ k' := by omega
          have hl3 : Hid (r3.length < r'.length + 1) := hsh
          have hnl3 : ns.length + 1 + r3.length ≤ ts.length := by omega
          have HOB : Hid (∀ j, (Value.slice a2 ns.length cv).ownBlock = some j → w.heap.size + 3 ≤ j ∧ j < W4.heap.size ∧ a2 = some ⟨j, 0, none⟩) := by
            intro j hj
            rcases O4.out.2 with ⟨hv, _⟩ | ⟨q, c, cur, hv, hq1, hh, _⟩
            · rw [hv] at hj; cases hj
            · have hlt : q < W4.heap.size := by
                rcases Nat.lt_or_ge q W4.heap.size with h | h
                · exact h
                · rw [Array.getElem?_eq_none h] at hh; cases hh
              simp only [Value.slice.injEq] at hv
              obtain ⟨rfl, _, _⟩ := hv
              cases hj
              exact ⟨hq1, hlt, rfl⟩
          have f3 : Hid (ns.length + 1 ≤ maxLen) := by unfold Hid maxLen; have := HL.out; omega
          have f4 : Hid ((ns.length + 1) * 48 ≤ 140737488355328) := by unfold Hid; have := HL.out; omega
          have hnI : (ns.length : Int) < 4294967281 := by have := HL.out; omega
          clear hx HE2 hsh hkk hnl
          refine RP.wp_region_posts_upto (X := fun _ _ => False) (l := [_, _, _, _, _]) (rest := [_, _, _, _]) rfl (by kernel_rfl) (RC4 W4 g (some ⟨b, 0, none⟩) cap ts (t :: r') r3 n 2) (fun _ W W' => ButP g W W')
            [some 15, some 16, some 17, some 18, some 19] [some 20, some 21, none, none] [[], [], [1], [0], [], [0, 1, 2, 3, 4], [0, 1, 2, 3, 4, 5], [0, 1, 2, 3, 4, 5, 6], [0, 1, 2, 3, 4, 5]]
            [fun v _ => v = .slice a2 ns.length cv, fun v _ => v = .pointer (some ⟨g, 0, none⟩), fun v W => ItmP W4.heap.size y v W, fun v _ => v = .int .i64 ns.length, fun v W => ZeroP W4.heap.size v W]
            (fun _ _ _ _ _ _ h => h.elim) rfl rfl (by kernel_rfl) (by kernel_rfl) (by kernel_rfl) (by kernel_rfl) (by kernel_rfl) ?_ ?_ ?_ ?_
          · refine .eq (.eq (.cons ?_ (.eq (.cons ?_ .nil))))
            · rintro i v W W' h1 h2 hk ⟨y2, p1, q1, p2, q2, e, hn, hs⟩
              exact ⟨y2, p1, q1, p2, q2, e, (hn.keep (KeptIn.but hk (by omega) (Nat.le_refl _))).mono (Nat.le_refl _) hk.size, hs⟩
            rintro i v W W' h1 h2 hk ⟨z, e, hz, hc⟩
            refine ⟨z, e, hz, fun j u hj => ?_⟩
            have hlt := World.block_lt_of_cell? W _ (hc j u hj)
            rw [hk.cell (p := ⟨z, 0 + j, none⟩) hlt (by show z ≠ g; omega)]; exact hc j u hj
          · intro L hL
            exact RC4.none S4.out (hL 2)
          · refine .cons ?_ (.cons ?_ (.cons ?_ (.cons ?_ (.cons ?_ .nil))))
            all_goals (intro L A W hLi hC old nd)
            all_goals (refine RP.runs_none rfl ?_)
            · have e2 : (A.tmps[2]?).getD undef = .pointer (some ⟨w.heap.size + 1, 0, none⟩) := old 2 (by kernel_rfl)
              have x1 := (F4.out.keep (KeptIn.but hC.bt (by omega) (by omega))).c1
              simp [RP.Oper.gives, RP.gives, go_sem, e2, x1]
              exact ⟨hC.same (by decide) (Below.refl _ _), But.refl _ _ _, rfl⟩
            · have e1 : (A.tmps[1]?).getD undef = .pointer (some ⟨w.heap.size, 0, none⟩) := old 1 (by kernel_rfl)
              have x0 := (F4.out.keep (KeptIn.but hC.bt (by omega) (by omega))).c0
              simp [RP.Oper.gives, RP.gives, go_sem, e1, x0]
              exact ⟨hC.same (by decide) (Below.refl _ _), But.refl _ _ _, rfl⟩
            · have e16 : (A.tmps[16]?).getD undef = .pointer (some ⟨g, 0, none⟩) := nd.1
              have S := hC.rs
              rw [hLi] at S
              simp [RP.Oper.gives, RP.gives, go_sem, e16]
              refine (HCall.out W S).mono fun e W' h => ?_
              obtain ⟨BB, y2, p1, q1, p2, q2, rfl, hn, hs, S2⟩ := h
              refine ⟨_, rfl, ⟨hC.bt.trans BB, ?_⟩, BB, ⟨y2, p1, q1, p2, q2, rfl, hn.mono hC.bt.size (Nat.le_refl _), hs⟩⟩
              rw [RP.also_self]; exact S2
            · have e15 : (A.tmps[15]?).getD undef = .slice a2 ns.length cv := nd.1
              simp [RP.Oper.gives, RP.gives, go_sem, e15]
              exact ⟨hC.same (by decide) (Below.refl _ _), But.refl _ _ _, rfl⟩
            · simp [RP.Oper.gives, RP.gives, go_sem]
              have bb : Below W.heap.size W (W.alloc (Obj.cells #[.slice none 0 0, .slice none 0 0] 51)) := (Below.refl _ _).alloc (Nat.le_refl _) _
              refine ⟨hC.same (by decide) bb, ButP.of bb, ⟨W.heap.size, rfl, hC.bt.size, fun j u hj => ?_⟩⟩
              rw [World.cell?_alloc_new, Nat.zero_add]; simpa using hj
          · intro L W hall hC E hE
            refine .cons fun v1 h1 => .cons fun v2 h2 => .cons fun v3 h3 => .cons fun v4 h4 => .cons fun v5 h5 => .nil ?_
            obtain ⟨y2, p1, q1, p2, q2, rfl, hn, hs⟩ := h3
            obtain ⟨z, rfl, hz, hc⟩ := h5
            subst h1
            subst h2
            subst h4
            have S8 := hC.rs
            rw [hall 2 (by decide)] at S8
            have hW := hC.bt.size
            have F8 := hide (F4.out.keep (KeptIn.but hC.bt (by omega) (by omega)))
            have S8 := hide S8
            have B8 := hide (B4.out.trans hC.bt)
            have O8 := hide (ownsq_kept O4.out (KeptIn.but hC.bt (by omega) (Nat.le_refl _)))
            have X8 : Hid (RowN W (KR (w.heap.size + 2) W4 a2) ns xs) := X4.out.keep (KeptIn.butK hC.bt (fun k => by have := k.1; omega) fun _ k => k.2.1)
            have HN := hide hn
            have HC := hide hc
            have HA2 := hide (shIs_snoc hA.out hs)
            clear S4 B4 O4 X4 hn hs hc hC hA HCall
            simp only [Act.put, List.setIfInBounds_toArray, List.set_cons_zero, List.set_cons_succ]
            refine hE _ ?_
            refine RP.wpAny_one (i := 5) (by kernel_rfl) (RP.wpOp_of rfl rfl ?_)
            refine RP.gives_append (.tmp 15) (.tmp 19) 43 rfl (w.heap.size + 3) 51 i0 _ 2 48 Try.underlying43 HI.out HZ0.out HZ1.out HZ2.out rfl (by decide) (.slice a2 ns.length cv) ns.length xs rfl O8.out ⟨z, 0, none⟩ 1 [.slice none 0 0, .slice none 0 0] rfl rfl (fun j u hj => by rw [Addr.add_mid]; exact HC.out j u hj) (one2 _ _ rfl rfl) f3.out f4.out (by omega) ?_
            intro q c6 w5 hown hgrow hwh
            have b5 : Below (w.heap.size + 3) W w5 := Below.grown (Below.refl _ _) hgrow (by omega) (fun j hj => (HOB.out j hj).1)
            have F5 := hide (F8.out.keep (KeptIn.below b5 (Nat.le_refl _) _))
            have S5 := hide (S8.out.keepB b5 (by omega))
            have B5 : Hid (ButP g w w5) := But.trans B8.out (But.below (b5.mono (by omega)))
            have X5 : Hid (RowN w5 (KR (w.heap.size + 2) W4 a2) ns xs) := X8.out.keep fun k hk => hgrow.block k (by have := hk.2.1; omega) (fun e => hk.2.2 (HOB.out k e.symm).2.2)
            have N5 : Hid (NA w5 (In W4.heap.size W.heap.size) p1 p2 y2) := HN.out.keep fun k hk => hgrow.block k hk.2 (fun e => by have := HOB.out k e.symm; have := hk.1; omega)
            have HQ1 : Hid (∀ k, KR (w.heap.size + 2) W4 a2 k → k ≠ q) := fun k hk e => by
              rcases hwh with h | h
              · have := HOB.out q h; exact hk.2.2 (by rw [e]; exact this.2.2)
              · have := hk.2.1; omega
            have HQ2 : Hid (∀ k, In W4.heap.size W.heap.size k → k ≠ q) := fun k hk e => by
              rcases hwh with h | h
              · have := HOB.out q h; have := hk.1; omega
              · have := hk.2; omega
            have hqb : w.heap.size + 3 ≤ q := by
              rcases hwh with h | h
              · exact (HOB.out q h).1
              · omega
            have hql : q < w5.heap.size := by
              have := (owns_cells hown (by omega))
              obtain ⟨q', e, _, h2, _⟩ := this
              cases e; exact h2
            have h5s : W.heap.size ≤ w5.heap.size := hgrow.size
            have TH := hide (owns_there hown ns.length (by omega))
            have hlen : (ns ++ [y2]).length = ns.length + 1 := by simp
            have HOW := hide hown
            have hxl : Hid (xs.length = ns.length * 2) := X5.out.len
            have HFin : Hid (∀ W', FB W' w.heap.size g (.slice (some ⟨q, 0, none⟩) (ns.length + 1) c6) 0 0 → RS W' g (some ⟨b, 0, none⟩) cap ts r3 n → ButP g w W' → W'.ownsRow (w.heap.size + 3) 51 2 (.slice (some ⟨q, 0, none⟩) (ns.length + 1) c6) (ns.length + 1) (xs ++ [.slice p1 y2.1.length q1, .slice p2 y2.2.len q2]) → KeptIn (fun k => k ≠ q ∧ k ≠ w.heap.size + 1) w5 W' → W'.heap.size = w5.heap.size →
                (∃ (kk : Nat) (acc : List Itm) (ns : List Nd) (xs : List Value) (r' : List Tk) (a2 : Option Addr) (cv : Nat), r'.length ≤ kk ∧ ns.length + r'.length ≤ ts.length ∧ Hid (itemsF (ts.length + 1) ts = (itemsF (kk + 1) r').map (fun x => acc ++ x)) ∧ Hid (ShIs (Fo.ofL ns) acc) ∧
                  Hid (FB W' w.heap.size g (.slice a2 ns.length cv) 0 0) ∧ Hid (RS W' g (some ⟨b, 0, none⟩) cap ts r' n) ∧ Hid (ButP g w W') ∧ Hid (W'.ownsRow (w.heap.size + 3) 51 2 (.slice a2 ns.length cv) ns.length xs) ∧ Hid (RowN W' (KR (w.heap.size + 2) W' a2) ns xs)) ∧ leftR W' g ts.length < leftR wr g ts.length) := by
              intro W' hF hS hB hO hK hsz
              refine ⟨⟨k', acc ++ [y], ns ++ [y2], _, r3, some ⟨q, 0, none⟩, c6, hkk3, by rw [hlen]; exact hnl3, HE3, HA2, by unfold Hid; rw [hlen]; exact hF, hS, hB, by unfold Hid; rw [hlen]; exact hO, ?_⟩, by rw [hrl.out, hS.left]; exact hl3.out⟩
              refine RowN.snoc ((N5.out.keep (hK.sub fun k hk => ⟨HQ2.out k hk, by have := hk.1; omega⟩)).sub fun k hk => ⟨by have := hk.1; omega, by have := hk.2; omega, fun e => HQ2.out k hk (by cases e; rfl)⟩) ?_
              exact (X5.out.keep (hK.sub fun k hk => ⟨HQ1.out k hk, by have := hk.1; omega⟩)).sub fun k hk => ⟨hk.1, by have := hk.2.1; omega, fun e => HQ1.out k hk (by cases e; rfl)⟩
            clear F8 S8 B8 O8 X8 HN HC HA2 HE3 b5 hown hgrow hwh X5 N5 HQ1 HQ2 hl3 hkk3 hnl3 hrl HL
            simp only [Act.put, List.setIfInBounds_toArray]
            have x1 := F5.out.c1
            have f1 := F5.out.f1
            have hlt5 := F5.out.lt
            have hni : (ns.length : Int) < (ns.length : Int) + 1 := by omega
            have hqn : ¬ q = w.heap.size + 1 := by omega
            -- the element's two cells, then the items' own cell
            obtain ⟨w6, hw6⟩ : ∃ x, x = (w5.setCell ⟨q, ns.length * 2, none⟩ (.slice p1 y2.1.length q1)).setCell ⟨q, ns.length * 2 + 1, none⟩ (.slice p2 y2.2.len q2) := ⟨_, rfl⟩
            have k6 : KeptIn (fun k => k ≠ q) w5 w6 := by rw [hw6]; exact (KeptIn.setK (fun k => k rfl)).trans (KeptIn.setK (fun k => k rfl))
            have s6 : w6.heap.size = w5.heap.size := by rw [hw6, size_set, size_set]
            have F6 := hide (F5.out.keep (k6.sub fun k hk => by have := hk.2; omega))
            have HA := hide (F6.out.set (.slice (some ⟨q, 0, none⟩) (ns.length + 1) c6))
            have SA : Hid (RS (w6.setCell ⟨w.heap.size + 1, 0, none⟩ (.slice (some ⟨q, 0, none⟩) (ns.length + 1) c6)) g (some ⟨b, 0, none⟩) cap ts r3 n) := by
              unfold Hid; rw [hw6]; exact ((S5.out.set _ (by omega)).set _ (by omega)).set _ (by omega)
            have BA : Hid (ButP g w (w6.setCell ⟨w.heap.size + 1, 0, none⟩ (.slice (some ⟨q, 0, none⟩) (ns.length + 1) c6))) := by
              unfold Hid; rw [hw6]; exact ((B5.out.setq _ (by omega)).setq _ (by omega)).setq _ (by omega)
            have O6 : w6.ownsRow (w.heap.size + 3) 51 2 (.slice (some ⟨q, 0, none⟩) (ns.length + 1) c6) (ns.length + 1) (xs ++ [.slice p1 y2.1.length q1, .slice p2 y2.2.len q2]) := by
              have := ownsq_set (ownsq_set HOW.out (by omega) (ns.length * 2) (.slice p1 y2.1.length q1)) (by omega) (ns.length * 2 + 1) (.slice p2 y2.2.len q2)
              rw [set_two hxl.out] at this
              rw [hw6]; exact this
            have OA := hide (ownsq_kept O6 (KeptIn.set (n := w.heap.size + 1) (j := 0) (v := .slice (some ⟨q, 0, none⟩) (ns.length + 1) c6) (.inl (by omega))))
            have KA : Hid (KeptIn (fun k => k ≠ q ∧ k ≠ w.heap.size + 1) w5 (w6.setCell ⟨w.heap.size + 1, 0, none⟩ (.slice (some ⟨q, 0, none⟩) (ns.length + 1) c6))) := (k6.sub fun k hk => hk.1).trans (KeptIn.setK fun k => k.2 rfl)
            have FinA := hide (HFin.out _ HA.out SA.out BA.out OA.out KA.out (by rw [size_set, s6]))
            have y1 := F6.out.c1
            have g1 := F6.out.f1
            have hlt6 := F6.out.lt
            -- the items' own cell, then the element's
            obtain ⟨w7, hw7⟩ : ∃ x, x = w5.setCell ⟨w.heap.size + 1, 0, none⟩ (.slice (some ⟨q, 0, none⟩) (ns.length + 1) c6) := ⟨_, rfl⟩
            have s7 : w7.heap.size = w5.heap.size := by rw [hw7, size_set]
            have O7 : w7.ownsRow (w.heap.size + 3) 51 2 (.slice (some ⟨q, 0, none⟩) (ns.length + 1) c6) (ns.length + 1) (xs ++ [.slice none 0 0, .slice none 0 0]) := by
              rw [hw7]; exact ownsq_kept HOW.out (KeptIn.set (.inl (by omega)))
            have TH7 := hide (owns_there O7 ns.length (by omega))
            obtain ⟨w8, hw8⟩ : ∃ x, x = (w7.setCell ⟨q, ns.length * 2, none⟩ (.slice p1 y2.1.length q1)).setCell ⟨q, ns.length * 2 + 1, none⟩ (.slice p2 y2.2.len q2) := ⟨_, rfl⟩
            have FinB : Hid ((∃ (kk : Nat) (acc : List Itm) (ns : List Nd) (xs : List Value) (r' : List Tk) (a2 : Option Addr) (cv : Nat), r'.length ≤ kk ∧ ns.length + r'.length ≤ ts.length ∧ Hid (itemsF (ts.length + 1) ts = (itemsF (kk + 1) r').map (fun x => acc ++ x)) ∧ Hid (ShIs (Fo.ofL ns) acc) ∧
                  Hid (FB w8 w.heap.size g (.slice a2 ns.length cv) 0 0) ∧ Hid (RS w8 g (some ⟨b, 0, none⟩) cap ts r' n) ∧ Hid (ButP g w w8) ∧ Hid (w8.ownsRow (w.heap.size + 3) 51 2 (.slice a2 ns.length cv) ns.length xs) ∧ Hid (RowN w8 (KR (w.heap.size + 2) w8 a2) ns xs)) ∧ leftR w8 g ts.length < leftR wr g ts.length) := by
              refine HFin.out _ ?_ ?_ ?_ ?_ ?_ (by rw [hw8, size_set, size_set, s7])
              · rw [hw8, hw7]
                exact (F5.out.set _).keep ((KeptIn.setK (K := In w.heap.size (w.heap.size + 3)) fun k => by have := k.2; omega).trans (KeptIn.setK fun k => by have := k.2; omega))
              · rw [hw8, hw7]; exact ((S5.out.set _ (by omega)).set _ (by omega)).set _ (by omega)
              · rw [hw8, hw7]; exact ((B5.out.setq _ (by omega)).setq _ (by omega)).setq _ (by omega)
              · have := ownsq_set (ownsq_set O7 (by omega) (ns.length * 2) (.slice p1 y2.1.length q1)) (by omega) (ns.length * 2 + 1) (.slice p2 y2.2.len q2)
                rw [set_two hxl.out] at this
                rw [hw8]; exact this
              · rw [hw8, hw7]
                exact (KeptIn.setK (fun k => k.2 rfl)).trans ((KeptIn.setK (fun k => k.1 rfl)).trans (KeptIn.setK (fun k => k.1 rfl)))
            have HW6 := hide hw6
            have HW7 := hide hw7
            have HW8 := hide hw8
            clear HA SA BA O6 OA KA F6 k6 HFin O7 HOW F5 S5 B5 hxl hw6 hw7 hw8 s6 s7
            refine RP.wpAny_two (i := 6) (k := 8) (by kernel_rfl) (RP.wpOp_of rfl rfl ?_) (RP.wpOp_of rfl rfl ?_)
            · simp [RP.Oper.gives, RP.gives, go_sem, hni]
              refine RP.wpAny_two (i := 7) (k := 8) (by kernel_rfl) (RP.wpOp_of rfl rfl ?_) (RP.wpOp_of rfl rfl ?_)
              · refine RP.gives_storeN 51 (.tmp 21) (.tmp 17) rfl q (ns.length * 2) (.slice p1 y2.1.length q1) (.slice p2 y2.2.len q2) rfl rfl TH.out IF.out rfl rfl ?_
                rw [← HW6.out]
                refine RP.wpAny_one (i := 8) (by kernel_rfl) (RP.wpOp_of rfl rfl ?_)
                simp [RP.Oper.gives, RP.gives, go_sem, y1, g1]
                refine RP.wpAny_end (by kernel_rfl) ?_
                go_wp2_with fail
                first | exact FinA.out | (obtain ⟨⟨kk, al, nl, xl, rl, al2, cl, h1, h2, h3, h4, h5, h6, h7, h8, h9⟩, hm⟩ := FinA.out; exact ⟨⟨kk, al, nl, xl, rl, h1, h2, h3, h4, al2, cl, h5, h6, h7, h8, h9⟩, hm⟩)
              · simp [RP.Oper.gives, RP.gives, go_sem, x1, f1]
                rw [← HW7.out]
                refine RP.wpAny_one (i := 7) (by kernel_rfl) (RP.wpOp_of rfl rfl ?_)
                refine RP.gives_storeN 51 (.tmp 21) (.tmp 17) rfl q (ns.length * 2) (.slice p1 y2.1.length q1) (.slice p2 y2.2.len q2) rfl rfl TH7.out IF.out rfl rfl ?_
                rw [← HW8.out]
                refine RP.wpAny_end (by kernel_rfl) ?_
                go_wp2_with fail
                first | exact FinB.out | (obtain ⟨⟨kk, al, nl, xl, rl, al2, cl, h1, h2, h3, h4, h5, h6, h7, h8, h9⟩, hm⟩ := FinB.out; exact ⟨⟨kk, al, nl, xl, rl, h1, h2, h3, h4, al2, cl, h5, h6, h7, h8, h9⟩, hm⟩)
            · simp [RP.Oper.gives, RP.gives, go_sem, x1, f1]
              rw [← HW7.out]
              refine RP.wpAny_one (i := 6) (by kernel_rfl) (RP.wpOp_of rfl rfl ?_)
              simp [RP.Oper.gives, RP.gives, go_sem, hni]
              refine RP.wpAny_one (i := 7) (by kernel_rfl) (RP.wpOp_of rfl rfl ?_)
              refine RP.gives_storeN 51 (.tmp 21) (.tmp 17) rfl q (ns.length * 2) (.slice p1 y2.1.length q1) (.slice p2 y2.2.len q2) rfl rfl TH7.out IF.out rfl rfl ?_
              rw [← HW8.out]
              refine RP.wpAny_end (by kernel_rfl) ?_
              go_wp2_with fail
              first | exact FinB.out | (obtain ⟨⟨kk, al, nl, xl, rl, al2, cl, h1, h2, h3, h4, h5, h6, h7, h8, h9⟩, hm⟩ := FinB.out; exact ⟨⟨kk, al, nl, xl, rl, h1, h2, h3, h4, al2, cl, h5, h6, h7, h8, h9⟩, hm⟩)
end Go.Proofs.Ytcmmjmgbanafgaa
