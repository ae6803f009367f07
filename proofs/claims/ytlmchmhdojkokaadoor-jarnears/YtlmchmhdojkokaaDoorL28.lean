/- The walk over moatlaw8.JarNears. -/
import Derived.Test.YtlmchmhdojkokaaDoorL26
import Derived.Test.YtlmchmhdojkokaaDoorStep
import Derived.Test.YtlmchmhdojkokaaDoorQS
namespace Go.Proofs.YtlmchmhdojkokaaDoor
open Go.RowKit Go.Proofs.Url

theorem infoO : (Tryd.prog.info? 25).map (fun i => (i.zero, i.size, i.bytes)) = some (some (.agg #[.string ByteArray.empty, .string ByteArray.empty, .string ByteArray.empty, .int .i64 0]), 4, 56) := by kernel_rfl
/-- The origin that a number tells, at its place. -/
def ogN (i n : Nat) : Og := ⟨[], schmN.getD (n / 5) [], hostsN.getD (n % 5) [], 1 + (i : Int)⟩
def osN (z : Nat → Int) (k : Nat) : List Og := (List.range k).map (fun i => ogN i (lowT (z i) 10))
theorem osN_next (z : Nat → Int) (k : Nat) : osN z (k + 1) = osN z k ++ [ogN k (lowT (z k) 10)] := by unfold osN; rw [List.range_succ, List.map_append]; rfl
theorem osN_len (z : Nat → Int) (k : Nat) : (osN z k).length = k := by unfold osN; simp
theorem osN_at (z : Nat → Int) (n k : Nat) (h : k < (osN z n).length) : (osN z n)[k] = ogN k (lowT (z k) 10) := by simp [osN]
theorem hostsN_len (n : Nat) : (hostsN.getD n []).length ≤ 10 := by
  match n with
  | 0 => decide
  | 1 => decide
  | 2 => decide
  | 3 => decide
  | 4 => decide
  | n + 5 => simp [hostsN]
theorem osN_small (z : Nat → Int) (k : Nat) : ∀ x ∈ osN z k, x.hst.length < 4294967281 := by
  intro x hx
  unfold osN at hx
  rw [List.mem_map] at hx
  obtain ⟨i, _, rfl⟩ := hx
  have := hostsN_len (lowT (z i) 10 % 5)
  show (hostsN.getD (lowT (z i) 10 % 5) []).length < _
  omega
theorem flat4 (os : List Og) : ∀ k (h : k < os.length) j v, (ogCells os[k])[j]? = some v → (os.flatMap ogCells)[k * 4 + j]? = some v := by
  induction os with
  | nil => intro k h; simp at h
  | cons p ps ih =>
    intro k h j v hv
    have hl : (ogCells p).length = 4 := rfl
    rw [List.flatMap_cons]
    cases k with
    | zero =>
      have hj : j < 4 := by
        rcases Nat.lt_or_ge j 4 with h | h
        · exact h
        · rw [List.getElem?_eq_none (by rw [show (ogCells (p :: ps)[0]).length = 4 from rfl]; exact h)] at hv; cases hv
      rw [Nat.zero_mul, Nat.zero_add, List.getElem?_append_left (by omega)]
      exact hv
    | succ k =>
      rw [List.getElem?_append_right (by omega), hl, show (k + 1) * 4 + j - 4 = k * 4 + j by omega]
      exact ih k (by simpa using h) j v hv
theorem owns_orgs {w : World} {base : Nat} {ao : Option Addr} {cap : Nat} {os : List Og} (h : w.ownsRow base 25 4 (.slice ao os.length cap) os.length (os.flatMap ogCells)) : OrgsAt w ao os := by
  intro k hk
  rcases h.2 with ⟨hv, h0⟩ | ⟨g', cap', cur, hv, hg, hh, hn, hm, hsz, htk⟩
  · omega
  · simp only [Value.slice.injEq, true_and] at hv
    obtain ⟨rfl, rfl⟩ := hv
    have hlt : g' < w.heap.size := by
      rcases Nat.lt_or_ge g' w.heap.size with h | h
      · exact h
      · rw [Array.getElem?_eq_none h] at hh; cases hh
    refine ⟨g', rfl, hlt, fun j v hj => ?_⟩
    have hj4 : j < 4 := by
      rcases Nat.lt_or_ge j 4 with h | h
      · exact h
      · rw [List.getElem?_eq_none (by rw [show (ogCells os[k]).length = 4 from rfl]; exact h)] at hj; cases hj
    have hf := flat4 os k hk j v hj
    have : (cur.toList.take (os.length * 4))[k * 4 + j]? = (os.flatMap ogCells)[k * 4 + j]? := by rw [htk]
    rw [List.getElem?_take, if_pos (by omega), hf] at this
    have e : w.cell? ⟨g', k * 4 + j, none⟩ = cur[k * 4 + j]? := by simp [World.cell?, hh]
    rw [e]; simpa using this
theorem orgs_roundB {B : Nat} {w3 : World} {qs : List Og} {x : Og} {v' : Value}
    (hown : w3.ownsRow B 25 4 v' (qs.length + 1) (qs.flatMap ogCells ++ ogCells x)) :
    ∃ (ao : Option Addr) (cv : Nat), v' = .slice ao (qs ++ [x]).length cv ∧ Hid (w3.ownsRow B 25 4 (.slice ao (qs ++ [x]).length cv) (qs ++ [x]).length ((qs ++ [x]).flatMap ogCells)) := by
  have hq : (qs ++ [x]).length = qs.length + 1 := by simp
  obtain ⟨g, cap, hv⟩ : ∃ g cap, v' = .slice (some ⟨g, 0, none⟩) (qs.length + 1) cap := by
    rcases hown.2 with ⟨_, h⟩ | ⟨g, cap, _, h, _⟩
    · omega
    · exact ⟨g, cap, h⟩
  subst hv
  refine ⟨some ⟨g, 0, none⟩, cap, by rw [hq], ?_⟩
  unfold Hid; rw [hq, List.flatMap_append]
  have : [x].flatMap ogCells = ogCells x := by simp
  rw [this]; exact hown
/-- A row of constant numbers in a block. -/
def IntsAt (W : World) (g : Nat) (ls : List Nat) : Prop := ∀ r, r < ls.length → W.cell? ⟨g, r, none⟩ = some (.int .i64 ((ls.getD r 0 : Nat) : Int))
theorem IntsAt.keepB {w w' : World} {B g : Nat} {ls : List Nat} (h : IntsAt w g ls) (hb : Below B w w') (hg : g < B) : IntsAt w' g ls := fun r hr => by
  rw [hb.cell (p := ⟨g, r, none⟩) hg]; exact h r hr
theorem ints_new (w : World) (ls : List Nat) (t : TypeId) : IntsAt (w.alloc (Obj.cells (ls.map (fun l => Value.int .i64 ((l : Nat) : Int))).toArray t)) w.heap.size ls := by
  intro r hr
  rw [World.cell?_alloc_new, List.getD_eq_getElem?_getD, List.getElem?_eq_getElem hr]
  simp [hr]
theorem cell_row_new (w : World) (xs : List Value) (t : TypeId) : ∀ j u, xs[j]? = some u → (w.alloc (.cells xs.toArray t)).cell? ((⟨w.heap.size, 0, none⟩ : Addr).add j) = some u := by
  intro j u hj
  rw [show (⟨w.heap.size, 0, none⟩ : Addr).add j = ⟨w.heap.size, j, none⟩ by cases j <;> simp [Addr.add], World.cell?_alloc_new]
  simpa using hj
theorem cell_row_drew (w : World) (xs : List Value) (t : TypeId) : ∀ j u, xs[j]? = some u → ((w.alloc (.cells xs.toArray t)).drew).cell? ((⟨w.heap.size, 0, none⟩ : Addr).add j) = some u := cell_row_new w xs t
theorem schm_at (s : Nat) (h : s < 2) : [Value.string ⟨#[104, 116, 116, 112]⟩, .string ⟨#[104, 116, 116, 112, 115]⟩][s] = .string ⟨(schmN.getD s []).toArray⟩ := by
  match s, h with
  | 0, _ => rfl
  | 1, _ => rfl

set_option maxHeartbeats 4000000 in
set_option maxRecDepth 100000 in
theorem jarNears_walk (a0 : Option Addr) (len0 cap0 : Nat) (z : Nat → Int) (by' go : Int) (w : World) (henv : Env w) (hrow : RowI w a0 len0 z) :
    Calls Tryd.prog 7 #[.slice a0 len0 cap0, .int .i64 by', .int .i64 go] w fun e w' => e = .returned (.bool true) ∧ Below w.heap.size w w' := by
  have HE := hide henv
  have XA := hide (fun W hb => awake8_any W (henv.keep (w' := W) hb))
  obtain ⟨i0, hi, hz0, hz1, hz2⟩ := info_parts infoO
  clear henv
  by_cases h6 : 6 < len0
  · have i1 : (6 : Int) < (len0 : Int) := by omega
    clear h6 hrow hi hz0 hz1 hz2
    go_enter Tryd.func7, Tryd.ntmps7
    go_wp2_with fail
    refine (XA.out _ (Below.refl _ _)).mono ?_
    rintro e w1 ⟨rfl, hb1⟩
    go_wp2_with fail
    go_ret
    exact ⟨rfl, hb1⟩
  have i1 : ¬ (6 : Int) < (len0 : Int) := by omega
  have HRow := hide hrow
  have HI := hide hi
  have HZ0 := hide hz0
  have HZ1 := hide hz1
  have HZ2 := hide hz2
  clear hrow hi hz0 hz1 hz2
  go_enter Tryd.func7, Tryd.ntmps7
  go_wp2_with fail
  go_loopw [9, 10] (fun nv iv W => ∃ (k : Nat) (ao : Option Addr) (cv : Nat), k ≤ len0 ∧ iv = .int .i64 k ∧ nv = .slice ao (osN z k).length cv ∧ Hid (LitsAt W w.heap.size hostsN) ∧ Hid (IntsAt W (w.heap.size + 1) sitesN) ∧
      Hid (W.ownsRow (w.heap.size + 2) 25 4 (.slice ao (osN z k).length cv) (osN z k).length ((osN z k).flatMap ogCells)) ∧ Hid (Below w.heap.size w W) ∧ w.heap.size + 2 ≤ W.heap.size) (fun _ iv _ => len0 - (intOf iv).toNat)
  case atStart =>
    have e : (w.alloc (Obj.cells (hostsN.map (fun l => Value.string ⟨l.toArray⟩)).toArray 9)).heap.size = w.heap.size + 1 := by simp
    refine ⟨0, none, 0, Nat.zero_le _, rfl, rfl, ?_, ?_, World.ownsRow_nil _ _ _ _, two_new w _ _, by simp⟩
    · exact (lits_new w hostsN _).keep ((Below.refl _ _).alloc (Nat.le_refl _) _)
    · have h := ints_new (w.alloc (Obj.cells (hostsN.map (fun l => Value.string ⟨l.toArray⟩)).toArray 9)) sitesN 3
      rw [e] at h; exact h
  case round =>
    obtain ⟨k, ao, cv, hk, rfl, rfl, hL, hS, hown, hB, hsz⟩ := hrel
    have hel : (osN z k).length ≤ k := by rw [osN_len]; exact Nat.le_refl _
    by_cases hlt : k < len0
    · obtain ⟨b, off, rfl, hbw, hcell⟩ := HRow.out.keep hB.out k hlt
      have hlI : (k : Int) < (len0 : Int) := by omega
      have hK : lowT (z k) 10 < 10 := lowT_lt _ 10 (by decide)
      have HNx := hide (osN_next z k)
      have HOg : Hid (ogN k (lowT (z k) 10) = ⟨[], schmN.getD (lowT (z k) 10 / 5) [], hostsN.getD (lowT (z k) 10 % 5) [], 1 + (k : Int)⟩) := rfl
      go_upto_region 10 with (go_at_call 16; refine (lowT_any _ _ _ (by decide) (by decide)).mono ?_; rintro e w' ⟨rfl, hw'⟩; rw [hw'])
      clear hcell
      generalize lowT (z k) 10 = K at *
      obtain ⟨D, hD⟩ : ∃ D, D = K / 5 := ⟨_, rfl⟩
      obtain ⟨M, hM⟩ : ∃ M, M = K % 5 := ⟨_, rfl⟩
      have hD2 : D < 2 := by omega
      have hM5 : M < 5 := by omega
      have hDI : (D : Int) < 2 := by omega
      have hMI : (M : Int) < 5 := by omega
      have d1 : (K : Int).tdiv 5 = (D : Int) := by rw [Int.tdiv_eq_ediv_of_nonneg (by omega)]; omega
      have d2 : (K : Int) / 5 = (D : Int) := by omega
      have m1 : (K : Int).tmod 5 = (M : Int) := by rw [Int.tmod_eq_emod_of_nonneg (by omega)]; omega
      have m2 : (K : Int) % 5 = (M : Int) := by omega
      have w1 : IntKind.i64.wrap (D : Int) = (D : Int) := wrap_i64_small D (by omega)
      have w2 : IntKind.i64.wrap (1 + (k : Int)) = 1 + (k : Int) := by
        have := wrap_i64_small (1 + k) (by omega)
        rwa [show ((1 + k : Nat) : Int) = 1 + (k : Int) by omega] at this
      rw [← hD, ← hM] at HOg
      clear hD hM
      have ls := schm_at D hD2
      have hcH := hL.out M hM5
      generalize schmN.getD D [] = sc at *
      generalize hostsN.getD M [] = ho at *
      generalize osN z k = os at *
      have hS0 : w.heap.size < wr.heap.size := by omega
      have HBs : Hid (∀ j, (Value.slice ao os.length cv).ownBlock = some j → w.heap.size + 2 ≤ j) := fun j hj => owns_base hown.out j hj
      have f1 : Hid (∀ o p, ((wr.alloc o).alloc p).drew.ownsRow (w.heap.size + 2) 25 4 (.slice ao os.length cv) os.length (os.flatMap ogCells)) := fun o p => owns_drew ((hown.out.alloc o).alloc p)
      have f2 : Hid (∀ u ∈ ogCells ⟨[], sc, ho, 1 + (k : Int)⟩, u.oneCell' = true) := fun x hx => by simp [ogCells] at hx; rcases hx with rfl | rfl | rfl | rfl <;> rfl
      have f3 : Hid (os.length + 1 ≤ maxLen) := by unfold Hid maxLen; omega
      have f4 : Hid ((os.length + 1) * 56 ≤ 140737488355328) := by unfold Hid; omega
      have f5 : Hid (∀ o p, w.heap.size + 2 ≤ (((wr.alloc o).alloc p).drew).heap.size) := fun o p => by show w.heap.size + 2 ≤ ((wr.alloc o).alloc p).heap.size; simp; omega
      have f6 : Hid (∀ o, ∀ j u, (ogCells ⟨[], sc, ho, 1 + (k : Int)⟩)[j]? = some u → (((wr.alloc o).alloc (.cells (ogCells ⟨[], sc, ho, 1 + (k : Int)⟩).toArray 25)).drew).cell? ((⟨wr.heap.size + 1, 0, none⟩ : Addr).add j) = some u) := fun o j u hj => by
        have h := cell_row_drew (wr.alloc o) (ogCells ⟨[], sc, ho, 1 + (k : Int)⟩) 25 j u hj
        rwa [World.size_alloc] at h
      go_region_law (refine step_append_own rfl (.tmp 34) (.tmp 48) 26 rfl (w.heap.size + 2) 25 i0 _ 4 56 Tryd.underlying26 HI.out HZ0.out HZ1.out HZ2.out rfl (by decide) (.slice ao os.length cv) os.length (os.flatMap ogCells) (by simp [Act.eval]) (f1.out _ _) ⟨wr.heap.size + 1, 0, none⟩ 1 1 (ogCells ⟨[], sc, ho, 1 + (k : Int)⟩) (by simp [Act.eval]) rfl (f6.out _) f2.out f3.out f4.out (f5.out _ _) ?_; intro v' w6 hown' hgrow6)
      all_goals go_wp2_with fail
      all_goals (
        have B6 : Below (w.heap.size + 2) wr w6 := Below.trans ((((Below.refl _ _).alloc (by omega) _).alloc (by simp; omega) _).drew) (Below.grown (Below.refl _ _) hgrow6 (f5.out _ _) HBs.out)
        obtain ⟨ao2, cv2, hv2, hown3⟩ := orgs_roundB (x := ⟨[], sc, ho, 1 + (k : Int)⟩) hown'
        rw [← HOg.out, ← HNx.out] at hv2 hown3
        have hz6 := B6.size
        exact ⟨⟨k + 1, ao2, cv2, by omega, by go_num, hv2, hL.out.keepB B6 (by omega), hS.out.keepB B6 (by omega), hown3, hB.out.trans (B6.mono (by omega)), by omega⟩, by simp [intOf]; omega⟩)
    · have hkl : k = len0 := by omega
      subst hkl
      have OA := hide (owns_orgs hown.out)
      have OS := hide (osN_small z k)
      have hlen := osN_len z k
      have HB0 := lowT_lt by' (k + 4) (by omega)
      have HT0 := lowT_lt go (k + 2) (by omega)
      have hbI : ((k + 4 : Nat) : Int) = (k : Int) + 4 := by omega
      have htI : ((k + 2 : Nat) : Int) = (k : Int) + 2 := by omega
      rw [hbI] at HB0
      rw [htI] at HT0
      have NA := hide (fun b t W (hb : Below wr.heap.size wr W) => near_any b t ao (osN z k) cv W (HE.out.keep (hB.out.trans (hb.mono hB.out.size))) (OA.out.keep hb) OS.out)
      rw [hlen] at NA
      have i6 : k ≤ 6 := by omega
      clear hk hlt hbI htI HI HZ0 HZ1 HZ2 hown h6 hel OA OS
      go_upto_region 12 with (go_at_call 16; refine (lowT_any _ _ _ (by omega) (by omega)).mono ?_; rintro e w' ⟨rfl, hw'⟩; rw [hw'])
      generalize lowT by' ((k : Int) + 4) = B at *
      generalize lowT go ((k : Int) + 2) = T at *
      obtain ⟨b, hb⟩ : ∃ b : Int, b = (B : Int) - 3 := ⟨_, rfl⟩
      obtain ⟨t, ht⟩ : ∃ t : Int, t = (T : Int) - 1 := ⟨_, rfl⟩
      rw [← hb, ← ht]
      have hb1 : -3 ≤ b := by omega
      have hb2 : b ≤ k := by omega
      have ht1 : -1 ≤ t := by omega
      have ht2 : t ≤ k := by omega
      clear hb ht HB0 HT0
      by_cases hin : (0 ≤ b ∧ b < k) ∧ (0 ≤ t ∧ t < k)
      · obtain ⟨⟨p1, p2⟩, q1, q2⟩ := hin
        obtain ⟨p, rfl⟩ := Int.eq_ofNat_of_zero_le p1
        obtain ⟨q, rfl⟩ := Int.eq_ofNat_of_zero_le q1
        have hp : p < k := by omega
        have hq : q < k := by omega
        obtain ⟨bb, off, rfl, hbw, hcp⟩ := HRow.out.keep hB.out p hp
        obtain ⟨bb', off', hbb, _, hcq⟩ := HRow.out.keep hB.out q hq
        cases hbb
        have hbr : bb < wr.heap.size := by omega
        have HNJ : Hid (nearJ p q (osN z k) = (decide (lowT (z p) 10 / 5 = lowT (z q) 10 / 5) && decide (sitesN.getD (lowT (z p) 10 % 5) 0 = sitesN.getD (lowT (z q) 10 % 5) 0))) := by
          have e1 : p < (osN z k).length := by omega
          have e2 : q < (osN z k).length := by omega
          unfold Hid
          rw [nearJ_at e1 e2, osN_at, osN_at]
          exact nears_tell ⟨lowT (z p) 10, lowT_lt _ 10 (by decide)⟩ ⟨lowT (z q) 10, lowT_lt _ 10 (by decide)⟩
        clear HRow hb1 hb2 ht1 ht2
        go_upto_region 14 with fail
        go_quiet (first | (go_at_call 16; exact Calls.quiet_of_same (lowT_any _ _ _ (by decide) (by decide))))
        have b14 := _root_.Go.below_drewN (Below.refl wr.heap.size wr) nq
        have S14 := hide (hS.out.keepB b14 (by omega))
        have B14 := hide b14
        have hX : lowT (z p) 10 < 10 := lowT_lt _ 10 (by decide)
        have hY : lowT (z q) 10 < 10 := lowT_lt _ 10 (by decide)
        clear hcp hcq b14 hS hL
        generalize lowT (z p) 10 = X at *
        generalize lowT (z q) 10 = Y at *
        generalize wr.drewN nq = W14 at *
        have hs14 := B14.out.size
        obtain ⟨D1, hD1⟩ : ∃ D, D = X / 5 := ⟨_, rfl⟩
        obtain ⟨D2, hD2⟩ : ∃ D, D = Y / 5 := ⟨_, rfl⟩
        obtain ⟨M1, hM1⟩ : ∃ D, D = X % 5 := ⟨_, rfl⟩
        obtain ⟨M2, hM2⟩ : ∃ D, D = Y % 5 := ⟨_, rfl⟩
        have m1 : M1 < 5 := by omega
        have m2 : M2 < 5 := by omega
        have n1 : (M1 : Int) < 5 := by omega
        have n2 : (M2 : Int) < 5 := by omega
        have x1 : (X : Int).tdiv 5 = (D1 : Int) := by rw [Int.tdiv_eq_ediv_of_nonneg (by omega)]; omega
        have x2 : (X : Int) / 5 = (D1 : Int) := by omega
        have x3 : (X : Int).tmod 5 = (M1 : Int) := by rw [Int.tmod_eq_emod_of_nonneg (by omega)]; omega
        have x4 : (X : Int) % 5 = (M1 : Int) := by omega
        have y1 : (Y : Int).tdiv 5 = (D2 : Int) := by rw [Int.tdiv_eq_ediv_of_nonneg (by omega)]; omega
        have y2 : (Y : Int) / 5 = (D2 : Int) := by omega
        have y3 : (Y : Int).tmod 5 = (M2 : Int) := by rw [Int.tmod_eq_emod_of_nonneg (by omega)]; omega
        have y4 : (Y : Int) % 5 = (M2 : Int) := by omega
        have u1 : IntKind.i64.wrap (D1 : Int) = (D1 : Int) := wrap_i64_small D1 (by omega)
        have u2 : IntKind.i64.wrap (D2 : Int) = (D2 : Int) := wrap_i64_small D2 (by omega)
        rw [← hD1, ← hD2, ← hM1, ← hM2] at HNJ
        clear hD1 hD2 hM1 hM2 hX hY
        have c1 := S14.out M1 m1
        have c2 := S14.out M2 m2
        generalize sitesN.getD M1 0 = s1 at *
        generalize sitesN.getD M2 0 = s2 at *
        have hgs : w.heap.size + 1 < W14.heap.size := by omega
        obtain ⟨V, hV⟩ : ∃ V, V = (decide (D1 = D2) && decide (s1 = s2)) := ⟨_, rfl⟩
        rw [← hV] at HNJ
        go_upto_region 15 with fail
        go_cut [14] (fun v W => v = .bool V ∧ Hid (Below W14.heap.size W14 W))
        case first => as_aux_lemma =>
          have HV := hide hV
          clear hV HNJ HE XA NA S14 B14 hB
          by_cases e : D1 = D2
          · have k1 : ((D1 : Int) == (D2 : Int)) = true := beq_iff_eq.2 (by omega)
            have HT : Hid (V = ((s1 : Int) == (s2 : Int))) := by
              unfold Hid; rw [HV.out, decide_eq_true e, Bool.true_and, Bool.eq_iff_iff, decide_eq_true_iff, beq_iff_eq]; omega
            clear e HV
            go_quiet (fail)
            go_wp2_with fail
            go_meet
            case rel => exact ⟨congrArg Value.bool HT.out.symm, _root_.Go.below_drewN (Below.refl _ _) _⟩
          · have k1 : ((D1 : Int) == (D2 : Int)) = false := beq_eq_false_iff_ne.2 (by omega)
            have HT : Hid (V = false) := by unfold Hid; rw [HV.out, decide_eq_false e]; rfl
            clear e HV
            go_quiet (fail)
            go_wp2_with fail
            go_meet
            case rel => exact ⟨congrArg Value.bool HT.out.symm, _root_.Go.below_drewN (Below.refl _ _) _⟩
        case rest =>
        obtain ⟨rfl, hb15⟩ := hcut
        have B15 := hide (B14.out.trans (hb15.out.mono B14.out.size))
        have BW := hide (hB.out.trans (B15.out.mono hB.out.size))
        have FN := hide (NA.out p q _ B15.out)
        rw [HNJ.out] at FN
        have kV : (V == V) = true := by simp
        clear hV HNJ NA c1 c2 S14 B14 B15 hb15 x1 x2 x3 x4 y1 y2 y3 y4 u1 u2 hB
        go_wp2_with fail
        refine FN.out.mono ?_
        rintro e w6 ⟨rfl, hb6⟩
        have B6 := hide (BW.out.trans (hb6.mono BW.out.size))
        clear hb6 FN BW
        go_wp2_with fail
        refine (XA.out _ B6.out).mono ?_
        rintro e w7 ⟨rfl, hb7⟩
        have B7 : Hid (Below w.heap.size w w7) := B6.out.trans (hb7.mono B6.out.size)
        clear hb7
        go_wp2_with fail
        go_ret
        exact ⟨rfl, B7.out⟩
      · have HNJ : Hid (nearJ b t (osN z k) = (b == -2)) := by
          unfold Hid
          by_cases e : b = -2
          · rw [e, nearJ_user]; rfl
          · rw [beq_eq_false_iff_ne.2 e]
            by_cases h : 0 ≤ b ∧ b < k
            · refine nearJ_no2 e ?_
              rw [hlen]
              exact fun h2 => hin ⟨h, h2⟩
            · refine nearJ_no1 e ?_
              rw [hlen]; exact h
        have hout : b < 0 ∨ (0 ≤ b ∧ (k : Int) ≤ b) ∨ (0 ≤ b ∧ b < k ∧ t < 0) ∨ (0 ≤ b ∧ b < k ∧ 0 ≤ t ∧ (k : Int) ≤ t) := by omega
        have FN := hide (NA.out b t wr (Below.refl _ _))
        rw [HNJ.out] at FN
        have kV : ((b == -2) == (b == -2)) = true := by simp
        clear hin HNJ NA hL hS HRow hb1 hb2 ht1 ht2
        rcases hout with h1 | ⟨h1, h2⟩ | ⟨h1, h2, h3⟩ | ⟨h1, h2, h3, h4⟩
        all_goals (
          go_wp2_with fail
          refine FN.out.mono ?_
          rintro e w6 ⟨rfl, hb6⟩
          have B6 := hide (hB.out.trans (hb6.mono hB.out.size))
          clear hb6 FN hB
          go_wp2_with fail
          refine (XA.out _ B6.out).mono ?_
          rintro e w7 ⟨rfl, hb7⟩
          have B7 : Hid (Below w.heap.size w w7) := B6.out.trans (hb7.mono B6.out.size)
          clear hb7
          go_wp2_with fail
          go_ret
          exact ⟨rfl, B7.out⟩)
end Go.Proofs.YtlmchmhdojkokaaDoor
