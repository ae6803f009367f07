/- Walks over moatref1: Host, Read, Text. -/
import Derived.Test.YtkomggockjeibaaDoorR2
import Derived.Test.YtkomggockjeibaaDoorW7
namespace Go.Proofs.YtkomggockjeibaaDoor
open Go.RowKit Go.Proofs.Url

theorem cell_of_block {w : World} {g : Nat} {cur : Array Value} {t : TypeId} {fr : Nat × Nat} (h : w.heap[g]? = some (.cells cur t fr)) (k : Nat) : w.cell? ⟨g, k, none⟩ = cur[k]? := by
  simp [World.cell?, h]

/-- What moatref1.Cut hands back, written out. -/
theorem refCut_out (s : ByteArray) (c : UInt8) (w : World) (hs : s.size < 4294967281) :
    Calls Tryd.prog 29 #[.string s, .int .u8 c.toNat] w fun e w' => ∃ (g cap : Nat) (ps : List ByteArray), e = .returned (.slice (some ⟨g, 0, none⟩) ps.length cap) ∧ ps.map (·.data.toList) = parts c s.data.toList ∧ w.heap.size ≤ g ∧ g < w'.heap.size ∧ ps.length ≤ cap ∧
      (∀ k (h : k < ps.length), w'.cell? ⟨g, k, none⟩ = some (.string ps[k])) ∧ Below w.heap.size w w' := by
  refine (refCut_any s c w hs).mono ?_
  rintro e w' ⟨v, ps, rfl, hps, hown, hB⟩
  have hne : ps ≠ [] := by rintro rfl; exact parts_ne c s.data.toList hps.symm
  have hpos : 0 < ps.length := List.length_pos_iff.2 hne
  rcases hown.2 with ⟨_, h⟩ | ⟨g, cap, cur, rfl, hb, hh, hn, _, hsz, htk⟩
  · omega
  · refine ⟨g, cap, ps, rfl, hps, hb, ?_, hn, ?_, hB⟩
    · rcases Nat.lt_or_ge g w'.heap.size with h | h
      · exact h
      · rw [Array.getElem?_eq_none h] at hh; cases hh
    · intro k hk
      rw [cell_of_block hh]
      have : (cur.toList.take (ps.length * 1))[k]? = (ps.map Value.string)[k]? := by rw [htk]
      rw [List.getElem?_take, if_pos (by omega)] at this
      simpa [hk] using this

set_option maxHeartbeats 400000 in
theorem refHost_any (s : ByteArray) (w : World) (hs : s.size < 4294967281) :
    Calls Tryd.prog 14 #[.string s] w fun e w' => e = .returned (.bool (host s.data.toList)) ∧ Below w.heap.size w w' := by
  go_enter Tryd.func14, Tryd.ntmps14
  go_wp2_with fail
  refine (refCut_out s 46 _ hs).mono ?_
  rintro e w1 ⟨g, cap, ps, rfl, hps, hg1, hg2, hcap, hcells, hB⟩
  have HH : Hid (host s.data.toList = (decide ((s.size : Int) ≤ 60) && ps.all lab2)) := by
    unfold host Hid; rw [all_lab ps _ hps]; rw [len_eq]; congr 1; exact decide_eq_decide.2 (by omega)
  have HZ : Hid (∀ k (h : k < ps.length), ps[k].size ≤ s.size) := by
    intro k h
    have hmem : ps[k].data.toList ∈ parts 46 s.data.toList := by
      rw [← hps]; exact List.mem_map.2 ⟨ps[k], List.getElem_mem h, rfl⟩
    have := parts_le 46 _ _ hmem
    simpa using this
  have HNl : ps.length ≤ s.size + 1 := by
    have : (ps.map (·.data.toList)).length = (parts 46 s.data.toList).length := by rw [hps]
    have h2 := parts_count 46 s.data.toList
    simp at this h2; omega
  have HC := hide hcells
  clear hps hcells
  go_wp2_with fail
  go_loop [4] (fun i => ∃ k : Nat, k ≤ ps.length ∧ i = .int .i64 k ∧ Hid ((ps.take k).all lab2 = true)) (fun i => ps.length - (intOf i).toNat)
  case atStart => exact ⟨0, Nat.zero_le _, rfl, rfl⟩
  case round =>
    obtain ⟨k, hk, rfl, hall⟩ := hrel
    by_cases hlt : k < ps.length
    · have hcell := HC.out k hlt
      have hsz := HZ.out k hlt
      have HS : Hid ((ps.take (k + 1)).all lab2 = ((ps.take k).all lab2 && lab2 ps[k])) := all_take_list lab2 ps k hlt
      cases hp : lab2 ps[k] with
      | true =>
        have HB : Hid (label ps[k].data.toList = true) := hp
        clear hp
        go_wp2_with fail
        refine (refLabel_any _ _ (by unfold maxLen; omega)).mono ?_
        rintro e w' ⟨rfl, rfl⟩
        rw [HB.out]
        go_wp2_with fail
        go_round
        case rel => exact ⟨k + 1, by omega, by go_num, by unfold Hid; rw [HS.out, hall.out, show lab2 ps[k] = true from HB.out]; rfl⟩
        case measure => simp [intOf]; omega
      | false =>
        have HB : Hid (label ps[k].data.toList = false) := hp
        have HN : Hid (ps.all lab2 = false) := by unfold Hid; rw [List.all_eq_false]; exact ⟨ps[k], List.getElem_mem hlt, by simp [hp]⟩
        clear hp
        go_wp2_with fail
        refine (refLabel_any _ _ (by unfold maxLen; omega)).mono ?_
        rintro e w' ⟨rfl, rfl⟩
        rw [HB.out]
        go_wp2_with fail
        go_ret
        exact ⟨ret_bool (by rw [HH.out, HN.out, Bool.and_false]), hB⟩
    · go_wp2_with fail
      go_ret
      refine ⟨ret_bool ?_, hB⟩
      have := hall.out
      rw [List.take_of_length_le (by omega)] at this
      rw [HH.out, this, Bool.and_true]

theorem old_cell {W w1 : World} (hc : ∀ b o, b < W.heap.size → w1.cell? ⟨b, o, none⟩ = W.cell? ⟨b, o, none⟩) {b o b' o' : Nat} (v : Value) (hb : b < W.heap.size) (hne : b' ≠ b) : (w1.setCell ⟨b', o', none⟩ v).cell? ⟨b, o, none⟩ = W.cell? ⟨b, o, none⟩ := by
  rw [World.cell?_setCell_other _ _ _ _ (by intro e; cases e; exact hne rfl), hc b o hb]
theorem old_cell2 {W w1 : World} (hc : ∀ b o, b < W.heap.size → w1.cell? ⟨b, o, none⟩ = W.cell? ⟨b, o, none⟩) {b o b' o' o'' : Nat} (v v' : Value) (hb : b < W.heap.size) (hne : b' ≠ b) : ((w1.setCell ⟨b', o', none⟩ v).setCell ⟨b', o'', none⟩ v').cell? ⟨b, o, none⟩ = W.cell? ⟨b, o, none⟩ := by
  rw [World.cell?_setCell_other _ _ _ _ (by intro e; cases e; exact hne rfl), old_cell hc v hb hne]
theorem trim_le (l h : List UInt8) : (Lib.trimPrefix l h).length ≤ l.length := by unfold Lib.trimPrefix; split <;> simp

set_option maxHeartbeats 1000000 in
set_option maxRecDepth 100000 in
theorem refRead_any (l : List UInt8) (w : World) (hl : l.length < 4294967281) :
    Calls Tryd.prog 10 #[.string ⟨l.toArray⟩] w fun e w' => e = .returned (.tuple #[originV (readS l), .bool (readS l).isSome]) ∧ Below w.heap.size w w' := by
  have b1 := trim_le l (https ++ slashes)
  have b2 := trim_le l (http ++ slashes)
  go_enter Tryd.func10, Tryd.ntmps10
  go_wp2_with fail
  refine (refHead_any l (https ++ slashes) _ hl (by decide)).mono ?_
  rintro e w' ⟨rfl, rfl⟩
  go_upto_if 15 with fail
  go_cut [5, 6] (fun r o wx => ∃ (sch rest : List UInt8) (ok : Bool), r = .string ⟨rest.toArray⟩ ∧ o = .bool ok ∧ rest.length ≤ l.length ∧ Hid (sch.length ≤ 5) ∧ Hid (ok = true → (¬ own sch = 0) ∧ readS l = refR sch (parts 58 rest)) ∧ Hid (ok = false → readS l = none) ∧
    wx = (w.alloc (.cells #[.string ⟨#[]⟩, .string ⟨#[]⟩, .string ⟨#[]⟩, .int .i64 0] 24)).alloc (.cells #[.string ⟨#[]⟩, .string ⟨sch.toArray⟩, .string ⟨#[]⟩, .int .i64 0] 24))
  case first =>
    cases hp : Lib.hasPrefix l (https ++ slashes)
    · go_wp2_with fail
      refine (refHead_any l (http ++ slashes) _ hl (by decide)).mono ?_
      rintro e w' ⟨rfl, rfl⟩
      go_wp2_with fail
      go_meet
      case rel =>
        refine ⟨http, _, _, rfl, rfl, b2, (by decide : http.length ≤ 5), ?_, ?_, rfl⟩
        · intro h; exact ⟨by decide, by rw [pre_http h, trim_t h]; rfl⟩
        · intro h; exact pre_none h hp
    · go_wp2_with fail
      go_meet
      case rel =>
        refine ⟨https, _, true, rfl, rfl, b1, (by decide : https.length ≤ 5), ?_, (fun h => nomatch h), rfl⟩
        intro _; exact ⟨by decide, by rw [pre_https hp, trim_t hp]; rfl⟩
  case rest =>
    obtain ⟨sch, rest, ok, rfl, rfl, hrl, hsl, H1, H2, rfl⟩ := hcut
    clear b1 b2
    cases ok
    · have HR := hide (H2.out rfl)
      clear H1 H2
      go_wp2_with fail
      refine bodyPost_ret (v := .tuple #[originV (readS l), .bool (readS l).isSome]) ?_ rfl ⟨rfl, ?_⟩
      · rw [HR.out]; simp [results, Tryd.results10, go_sem, originV]
      · exact ((Below.refl _ _).alloc (Nat.le_refl _) _).alloc (by simp) _
    · have H0 := hide (H1.out rfl).1
      have HR := hide (H1.out rfl).2
      clear H1 H2
      go_wp2_with fail
      refine (refOwn_any _ _).mono ?_
      rintro e w' ⟨rfl, rfl⟩
      go_wp2_with fail
      refine (refCut_out ⟨rest.toArray⟩ 58 _ (by rw [size_mk]; omega)).mono ?_
      rintro e w1 ⟨g, cap, ps, rfl, hps, hg1, hg2, hcap, hcells, hB⟩
      obtain ⟨hc, hf⟩ := bcell hB
      have hz : w.heap.size + 1 < w1.heap.size := by have := hB.size; simp at this; omega
      have hz0 : w.heap.size < w1.heap.size := by omega
      have hgg : w.heap.size + 1 < g := by simp at hg1; omega
      have HR2 : Hid (readS l = refR sch (ps.map (·.data.toList))) := by unfold Hid; rw [HR.out, hps]
      have HZ : Hid (∀ p ∈ ps, p.size ≤ rest.length) := by
        intro p hp
        have hmem : p.data.toList ∈ parts 58 rest := by
          have : p.data.toList ∈ ps.map (·.data.toList) := List.mem_map.2 ⟨p, hp, rfl⟩
          rwa [hps] at this
        have := parts_le 58 _ _ hmem
        simpa using this
      have HNE : Hid (ps ≠ []) := by rintro rfl; exact parts_ne 58 rest hps.symm
      have HL : Hid (ps.length ≤ rest.length + 1) := by
        have h1 : (ps.map (·.data.toList)).length = (parts 58 rest).length := by rw [hps]
        have h2 := parts_count 58 rest
        unfold Hid
        simp only [List.length_map] at h1
        omega
      have HBW : Hid (Below w.heap.size w w1) := (((Below.refl _ _).alloc (Nat.le_refl _) _).alloc (by simp) _).trans (hB.mono (by simp; omega))
      generalize hO : own sch = O at *
      have HO := hide hO
      clear hO
      clear hps HR hB hg1
      rcases ps with _ | ⟨p0, _ | ⟨p1, _ | ⟨p2, t⟩⟩⟩
      · exact absurd HNE.out (by simp)
      · have k0 := hcells 0 (by simp)
        have z0 := HZ.out p0 (by simp)
        simp only [List.length_cons, List.length_nil, List.getElem_cons_zero] at k0 hcap
        clear hcells HZ
        simp only [List.length_cons, List.length_nil]
        go_wp2_with fail
        refine (refHost_any _ _ (by omega)).mono ?_
        rintro e w2 ⟨rfl, hb2⟩
        obtain ⟨hc2, hf2⟩ := bcell hb2
        have hz2 : w.heap.size + 1 < w2.heap.size := by have := hb2.size; simp at this; omega
        have HB2 : Hid (Below w.heap.size w w2) := (HBW.out.setCell (p := ⟨w.heap.size + 1, 2, none⟩) (by simp) _).trans (hb2.mono (by simp; omega))
        have q0 : w2.cell? ⟨w.heap.size, 0, none⟩ = some (.string ⟨#[]⟩) := by rw [hc2 _ _ (by simp; omega), old_cell hc _ (by simp; omega) (by omega)]; simp
        have q1 : w2.cell? ⟨w.heap.size, 1, none⟩ = some (.string ⟨#[]⟩) := by rw [hc2 _ _ (by simp; omega), old_cell hc _ (by simp; omega) (by omega)]; simp
        have q2 : w2.cell? ⟨w.heap.size, 2, none⟩ = some (.string ⟨#[]⟩) := by rw [hc2 _ _ (by simp; omega), old_cell hc _ (by simp; omega) (by omega)]; simp
        have q3 : w2.cell? ⟨w.heap.size, 3, none⟩ = some (.int .i64 0) := by rw [hc2 _ _ (by simp; omega), old_cell hc _ (by simp; omega) (by omega)]; simp
        clear hb2
        cases hh : host p0.data.toList
        · have HR3 : Hid (readS l = none) := by unfold Hid; rw [HR2.out]; simp [refR, hh]
          clear HR2 hh
          go_wp2_with fail
          refine bodyPost_ret (v := .tuple #[originV (readS l), .bool (readS l).isSome]) ?_ rfl ⟨rfl, ?_⟩
          · rw [HR3.out]; simp [results, Tryd.results10, go_sem, originV, q0, q1, q2, q3]
          · exact set4 HB2.out _ (Nat.le_refl _) _ _ _ _
        · have HR3 : Hid (readS l = some (sch, p0.data.toList, O)) := by unfold Hid; rw [HR2.out]; simp [refR, hh, HO.out]
          clear HR2 hh
          go_wp2_with fail
          refine bodyPost_ret (v := .tuple #[originV (readS l), .bool (readS l).isSome]) ?_ rfl ⟨rfl, ?_⟩
          · rw [HR3.out]; simp [results, Tryd.results10, go_sem, originV, q0, q1, q2, q3]
          · exact set4 HB2.out _ (Nat.le_refl _) _ _ _ _
      · have k0 := hcells 0 (by simp)
        have k1 := hcells 1 (by simp)
        have z0 := HZ.out p0 (by simp)
        have z1 := HZ.out p1 (by simp)
        simp only [List.length_cons, List.length_nil, List.getElem_cons_zero, List.getElem_cons_succ] at k0 k1 hcap
        clear hcells HZ
        simp only [List.length_cons, List.length_nil]
        go_wp2_with fail
        refine (refPort_any _ _ (by omega)).mono ?_
        rintro e w' ⟨rfl, hw'⟩
        subst hw'
        have hbs := (HBW.out.setCell (p := ⟨w.heap.size + 1, 2, none⟩) (by simp) (.string p0)).setCell (p := ⟨w.heap.size + 1, 3, none⟩) (by simp) (.int .i64 (port p1.data.toList))
        have HBS := hide hbs
        clear hbs
        cases hpo : portOk p1.data.toList
        · have HR3 : Hid (readS l = none) := by unfold Hid; rw [HR2.out]; simp [refR, hpo]
          have q0 : ∀ v v', ((w1.setCell ⟨w.heap.size + 1, 2, none⟩ v).setCell ⟨w.heap.size + 1, 3, none⟩ v').cell? ⟨w.heap.size, 0, none⟩ = some (.string ⟨#[]⟩) := fun v v' => by rw [old_cell2 hc _ _ (by simp; omega) (by omega)]; simp
          have q1 : ∀ v v', ((w1.setCell ⟨w.heap.size + 1, 2, none⟩ v).setCell ⟨w.heap.size + 1, 3, none⟩ v').cell? ⟨w.heap.size, 1, none⟩ = some (.string ⟨#[]⟩) := fun v v' => by rw [old_cell2 hc _ _ (by simp; omega) (by omega)]; simp
          have q2 : ∀ v v', ((w1.setCell ⟨w.heap.size + 1, 2, none⟩ v).setCell ⟨w.heap.size + 1, 3, none⟩ v').cell? ⟨w.heap.size, 2, none⟩ = some (.string ⟨#[]⟩) := fun v v' => by rw [old_cell2 hc _ _ (by simp; omega) (by omega)]; simp
          have q3 : ∀ v v', ((w1.setCell ⟨w.heap.size + 1, 2, none⟩ v).setCell ⟨w.heap.size + 1, 3, none⟩ v').cell? ⟨w.heap.size, 3, none⟩ = some (.int .i64 0) := fun v v' => by rw [old_cell2 hc _ _ (by simp; omega) (by omega)]; simp
          clear HR2 hpo
          go_wp2_with fail
          refine bodyPost_ret (v := .tuple #[originV (readS l), .bool (readS l).isSome]) ?_ rfl ⟨rfl, ?_⟩
          · rw [HR3.out]; simp [results, Tryd.results10, go_sem, originV, q0, q1, q2, q3]
          · exact set4 HBS.out _ (Nat.le_refl _) _ _ _ _
        · have HPN : Hid (port p1.data.toList = num p1.data.toList) := by unfold Hid port; rw [if_pos hpo]
          generalize hpd : port p1.data.toList = pd at *
          have HPD := hide hpd
          clear hpd
          have HR3 : Hid (host p0.data.toList = true → readS l = some (sch, p0.data.toList, pd)) := by
            intro hh; rw [HR2.out, HPN.out]; simp [refR, hpo, hh]
          have HR4 : Hid (host p0.data.toList = false → readS l = none) := by
            intro hh; rw [HR2.out]; simp [refR, hh]
          clear HR2 hpo
          go_wp2_with fail
          refine (refHost_any _ _ (by omega)).mono ?_
          rintro e w2 ⟨rfl, hb2⟩
          obtain ⟨hc2, hf2⟩ := bcell hb2
          have hz2 : w.heap.size + 1 < w2.heap.size := by have := hb2.size; simp at this; omega
          have HB2 : Hid (Below w.heap.size w w2) := HBS.out.trans (hb2.mono (by simp; omega))
          have q0 : w2.cell? ⟨w.heap.size, 0, none⟩ = some (.string ⟨#[]⟩) := by rw [hc2 _ _ (by simp; omega), old_cell2 hc _ _ (by simp; omega) (by omega)]; simp
          have q1 : w2.cell? ⟨w.heap.size, 1, none⟩ = some (.string ⟨#[]⟩) := by rw [hc2 _ _ (by simp; omega), old_cell2 hc _ _ (by simp; omega) (by omega)]; simp
          have q2 : w2.cell? ⟨w.heap.size, 2, none⟩ = some (.string ⟨#[]⟩) := by rw [hc2 _ _ (by simp; omega), old_cell2 hc _ _ (by simp; omega) (by omega)]; simp
          have q3 : w2.cell? ⟨w.heap.size, 3, none⟩ = some (.int .i64 0) := by rw [hc2 _ _ (by simp; omega), old_cell2 hc _ _ (by simp; omega) (by omega)]; simp
          clear hb2
          cases hh : host p0.data.toList
          · have HR5 := hide (HR4.out hh)
            clear HR3 HR4 hh
            go_wp2_with fail
            refine bodyPost_ret (v := .tuple #[originV (readS l), .bool (readS l).isSome]) ?_ rfl ⟨rfl, ?_⟩
            · rw [HR5.out]; simp [results, Tryd.results10, go_sem, originV, q0, q1, q2, q3]
            · exact set4 HB2.out _ (Nat.le_refl _) _ _ _ _
          · have HR5 := hide (HR3.out hh)
            clear HR3 HR4 hh
            go_wp2_with fail
            refine bodyPost_ret (v := .tuple #[originV (readS l), .bool (readS l).isSome]) ?_ rfl ⟨rfl, ?_⟩
            · rw [HR5.out]; simp [results, Tryd.results10, go_sem, originV, q0, q1, q2, q3]
            · exact set4 HB2.out _ (Nat.le_refl _) _ _ _ _
      · have k0 := hcells 0 (by simp)
        simp only [List.getElem_cons_zero] at k0
        have HR3 : Hid (readS l = none) := by unfold Hid; rw [HR2.out]; simp [refR]
        have hN3 : 3 ≤ (p0 :: p1 :: p2 :: t).length := by simp
        have hNL := HL.out
        clear hcells HZ HR2 HL HNE
        generalize (p0 :: p1 :: p2 :: t).length = N at *
        have hn2 : ((N : Int) == 2) = false := beq_eq_false_iff_ne.2 (by omega)
        have hbs := HBW.out.setCell (p := ⟨w.heap.size + 1, 2, none⟩) (by simp) (.string p0)
        have q0 : ∀ v, (w1.setCell ⟨w.heap.size + 1, 2, none⟩ v).cell? ⟨w.heap.size, 0, none⟩ = some (.string ⟨#[]⟩) := fun v => by rw [old_cell hc _ (by simp; omega) (by omega)]; simp
        have q1 : ∀ v, (w1.setCell ⟨w.heap.size + 1, 2, none⟩ v).cell? ⟨w.heap.size, 1, none⟩ = some (.string ⟨#[]⟩) := fun v => by rw [old_cell hc _ (by simp; omega) (by omega)]; simp
        have q2 : ∀ v, (w1.setCell ⟨w.heap.size + 1, 2, none⟩ v).cell? ⟨w.heap.size, 2, none⟩ = some (.string ⟨#[]⟩) := fun v => by rw [old_cell hc _ (by simp; omega) (by omega)]; simp
        have q3 : ∀ v, (w1.setCell ⟨w.heap.size + 1, 2, none⟩ v).cell? ⟨w.heap.size, 3, none⟩ = some (.int .i64 0) := fun v => by rw [old_cell hc _ (by simp; omega) (by omega)]; simp
        have HBS := hide hbs
        clear hbs
        go_wp2_with fail
        refine bodyPost_ret (v := .tuple #[originV (readS l), .bool (readS l).isSome]) ?_ rfl ⟨rfl, ?_⟩
        · rw [HR3.out]; simp [results, Tryd.results10, go_sem, originV, q0, q1, q2, q3]
        · exact set4 HBS.out _ (Nat.le_refl _) _ _ _ _
end Go.Proofs.YtkomggockjeibaaDoor
