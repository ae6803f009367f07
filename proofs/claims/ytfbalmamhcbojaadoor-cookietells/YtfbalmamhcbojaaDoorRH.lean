/- Walks over moatref1.Host, moatref2.Labels, moatref2.Under (R3, R4 have moatref1.Host, too: never both in one seat). -/
import Derived.Test.YtfbalmamhcbojaaDoorR1
import Derived.Test.YtfbalmamhcbojaaDoorRC
import Derived.Test.YtfbalmamhcbojaaDoorS3
namespace Go.Proofs.YtfbalmamhcbojaaDoor
open Go.RowKit Go.Proofs.Url

theorem cell_of_block {w : World} {g : Nat} {cur : Array Value} {t : TypeId} {fr : Nat × Nat} (h : w.heap[g]? = some (.cells cur t fr)) (k : Nat) : w.cell? ⟨g, k, none⟩ = cur[k]? := by
  simp [World.cell?, h]

/-- What moatref1.Cut hands back, written out. -/
theorem refCut_outH (s : ByteArray) (c : UInt8) (w : World) (hs : s.size < 4294967281) :
    Calls Tryd.prog 34 #[.string s, .int .u8 c.toNat] w fun e w' => ∃ (g cap : Nat) (ps : List ByteArray), e = .returned (.slice (some ⟨g, 0, none⟩) ps.length cap) ∧ ps.map (·.data.toList) = parts c s.data.toList ∧ w.heap.size ≤ g ∧ g < w'.heap.size ∧ ps.length ≤ cap ∧
      (∀ k (h : k < ps.length), w'.cell? ⟨g, k, none⟩ = some (.string ps[k])) ∧ Below w.heap.size w w' := by
  refine (refCut_any s c w hs).mono ?_
  rintro e w' ⟨v, ps, rfl, hps, hown, hB⟩
  have hne : ps ≠ [] := by rintro rfl; exact parts_ne c s.data.toList hps.symm
  have hpos : 0 < ps.length := List.length_pos_iff.2 hne
  rcases hown.2 with ⟨_, h⟩ | ⟨g, cap, cur, rfl, hb, hh, hn, _, hsz, htk⟩
  · omega
  · refine ⟨g, cap, ps, rfl, hps, hb, ?_, hn, ?_, hB⟩
    · rcases Nat.lt_or_ge g w'.heap.size with h | h
      · exact h
      · rw [Array.getElem?_eq_none h] at hh; cases hh
    · intro k hk
      rw [cell_of_block hh]
      have : (cur.toList.take (ps.length * 1))[k]? = (ps.map Value.string)[k]? := by rw [htk]
      rw [List.getElem?_take, if_pos (by omega)] at this
      simpa [hk] using this

set_option maxHeartbeats 400000 in
theorem refHost_any (s : ByteArray) (w : World) (hs : s.size < 4294967281) :
    Calls Tryd.prog 21 #[.string s] w fun e w' => e = .returned (.bool (host s.data.toList)) ∧ Below w.heap.size w w' := by
  go_enter Tryd.func21, Tryd.ntmps21
  go_wp2_with fail
  refine (refCut_outH s 46 _ hs).mono ?_
  rintro e w1 ⟨g, cap, ps, rfl, hps, hg1, hg2, hcap, hcells, hB⟩
  have HH : Hid (host s.data.toList = (decide ((s.size : Int) ≤ 60) && ps.all lab2)) := by
    unfold host Hid; rw [all_lab ps _ hps]; rw [len_eq]; congr 1; exact decide_eq_decide.2 (by omega)
  have HZ : Hid (∀ k (h : k < ps.length), ps[k].size ≤ s.size) := by
    intro k h
    have hmem : ps[k].data.toList ∈ parts 46 s.data.toList := by
      rw [← hps]; exact List.mem_map.2 ⟨ps[k], List.getElem_mem h, rfl⟩
    have := parts_le 46 _ _ hmem
    simpa using this
  have HNl : ps.length ≤ s.size + 1 := by
    have : (ps.map (·.data.toList)).length = (parts 46 s.data.toList).length := by rw [hps]
    have h2 := parts_count 46 s.data.toList
    simp at this h2; omega
  have HC := hide hcells
  clear hps hcells
  go_wp2_with fail
  go_loop [4] (fun i => ∃ k : Nat, k ≤ ps.length ∧ i = .int .i64 k ∧ Hid ((ps.take k).all lab2 = true)) (fun i => ps.length - (intOf i).toNat)
  case atStart => exact ⟨0, Nat.zero_le _, rfl, rfl⟩
  case round =>
    obtain ⟨k, hk, rfl, hall⟩ := hrel
    by_cases hlt : k < ps.length
    · have hcell := HC.out k hlt
      have hsz := HZ.out k hlt
      have HS : Hid ((ps.take (k + 1)).all lab2 = ((ps.take k).all lab2 && lab2 ps[k])) := all_take_list lab2 ps k hlt
      cases hp : lab2 ps[k] with
      | true =>
        have HB : Hid (label ps[k].data.toList = true) := hp
        clear hp
        go_wp2_with fail
        refine (refLabel_any _ _ (by unfold maxLen; omega)).mono ?_
        rintro e w' ⟨rfl, rfl⟩
        rw [HB.out]
        go_wp2_with fail
        go_round
        case rel => exact ⟨k + 1, by omega, by go_num, by unfold Hid; rw [HS.out, hall.out, show lab2 ps[k] = true from HB.out]; rfl⟩
        case measure => simp [intOf]; omega
      | false =>
        have HB : Hid (label ps[k].data.toList = false) := hp
        have HN : Hid (ps.all lab2 = false) := by unfold Hid; rw [List.all_eq_false]; exact ⟨ps[k], List.getElem_mem hlt, by simp [hp]⟩
        clear hp
        go_wp2_with fail
        refine (refLabel_any _ _ (by unfold maxLen; omega)).mono ?_
        rintro e w' ⟨rfl, rfl⟩
        rw [HB.out]
        go_wp2_with fail
        go_ret
        exact ⟨ret_bool (by rw [HH.out, HN.out, Bool.and_false]), hB⟩
    · go_wp2_with fail
      go_ret
      refine ⟨ret_bool ?_, hB⟩
      have := hall.out
      rw [List.take_of_length_le (by omega)] at this
      rw [HH.out, this, Bool.and_true]

theorem refHostL_any (l : List UInt8) (w : World) (h : l.length < 4294967281) :
    Calls Tryd.prog 21 #[.string ⟨l.toArray⟩] w fun e w' => e = .returned (.bool (host l)) ∧ Below w.heap.size w w' := refHost_any ⟨l.toArray⟩ w (by rw [size_mk]; exact h)

theorem refLabels_len (l : List UInt8) (w : World) (hl : l.length < 4294967281) :
    Calls Tryd.prog 18 #[.string ⟨l.toArray⟩] w fun e w' => ∃ (ao : Option Addr) (cap : Nat), e = .returned (.slice ao (labelsS l).length cap) ∧ Below w.heap.size w w' := by
  cases hh : host l with
  | false =>
    have HH := hide hh
    have HL : Hid (labelsS l = []) := by unfold Hid labelsS; rw [hh]; rfl
    clear hh
    go_enter Tryd.func18, Tryd.ntmps18
    go_wp2_with fail
    refine (refHostL_any l _ hl).mono ?_
    rintro e w1 ⟨rfl, hb1⟩
    rw [HH.out]
    go_wp2_with fail
    go_ret
    rw [HL.out]
    exact ⟨none, 0, rfl, hb1⟩
  | true =>
    have HH := hide hh
    have HL : Hid (labelsS l = parts 46 l) := by unfold Hid labelsS; rw [hh]; rfl
    clear hh
    go_enter Tryd.func18, Tryd.ntmps18
    go_wp2_with fail
    refine (refHostL_any l _ hl).mono ?_
    rintro e w1 ⟨rfl, hb1⟩
    rw [HH.out]
    have B1 := hide hb1
    clear hb1
    go_wp2_with fail
    refine (refCut_outH ⟨l.toArray⟩ 46 _ (by rw [size_mk]; exact hl)).mono ?_
    rintro e w2 ⟨g, cap, ps, rfl, hps, _, _, _, _, hb2⟩
    have B2 := hide (B1.out.trans (hb2.mono B1.out.size))
    have HN : Hid (ps.length = (labelsS l).length) := by
      unfold Hid; rw [HL.out, ← List.length_map (f := fun x : ByteArray => x.data.toList), hps]
    clear hb2 hps
    go_wp2_with fail
    go_ret
    rw [← HN.out]
    exact ⟨_, cap, rfl, B2.out⟩

theorem suffix_at (h d : List UInt8) (hn : d.length + 1 < h.length) : decide ((46 :: d) <:+ h) = (decide (h.drop (h.length - d.length) = d) && decide (h[h.length - d.length - 1] = 46)) := by
  rw [Bool.eq_iff_iff]
  simp only [Bool.and_eq_true, decide_eq_true_eq]
  constructor
  · rintro ⟨a, rfl⟩
    have e : (a ++ 46 :: d).length - d.length = a.length + 1 := by simp; omega
    refine ⟨?_, ?_⟩
    · rw [e]; simp
    · simp only [e]; simp
  · rintro ⟨h1, h2⟩
    refine ⟨h.take (h.length - d.length - 1), ?_⟩
    have h3 := List.take_append_drop (h.length - d.length - 1) h
    rw [List.drop_eq_getElem_cons (by omega), h2, show h.length - d.length - 1 + 1 = h.length - d.length by omega, h1] at h3
    exact h3
theorem suffix_short (h d : List UInt8) (hh : host h = true) (hn : ¬ d.length + 1 < h.length) : decide ((46 :: d) <:+ h) = false := by
  refine decide_eq_false ?_
  rintro ⟨a, rfl⟩
  have ha : a = [] := List.eq_nil_of_length_eq_zero (by rw [List.length_append, List.length_cons] at hn; omega)
  subst ha
  exact host_head hh ⟨d, rfl⟩

set_option maxHeartbeats 1000000 in
theorem refUnder_any (h d : List UInt8) (w : World) (hl : h.length < 4294967281) (hd : d.length < 4294967281) :
    Calls Tryd.prog 17 #[.string ⟨h.toArray⟩, .string ⟨d.toArray⟩] w fun e w' => e = .returned (.bool (underS h d)) ∧ Below w.heap.size w w' := by
  have HU : Hid (underS h d = (host h && host d && (decide (h = d) || decide ((46 :: d) <:+ h)))) := rfl
  have CH := hide (fun W => refHostL_any h W hl)
  have CD := hide (fun W => refHostL_any d W hd)
  cases hh : host h with
  | false =>
    have HN : Hid (underS h d = false) := by unfold Hid; rw [HU.out, hh]; rfl
    have HH := hide hh
    clear hh
    go_enter Tryd.func17, Tryd.ntmps17
    go_wp2_with fail
    refine (CH.out _).mono ?_
    rintro e w1 ⟨rfl, hb1⟩
    rw [HH.out]
    go_wp2_with fail
    go_ret
    exact ⟨ret_bool HN.out.symm, hb1⟩
  | true =>
  cases hq : host d with
  | false =>
    have HN : Hid (underS h d = false) := by unfold Hid; rw [HU.out, hh, hq]; rfl
    have HH := hide hh
    have HQ := hide hq
    clear hh hq
    go_enter Tryd.func17, Tryd.ntmps17
    go_wp2_with fail
    refine (CH.out _).mono ?_
    rintro e w1 ⟨rfl, hb1⟩
    rw [HH.out]
    have B1 := hide hb1
    clear hb1
    go_wp2_with fail
    refine (CD.out _).mono ?_
    rintro e w2 ⟨rfl, hb2⟩
    rw [HQ.out]
    have B2 := hide (B1.out.trans (hb2.mono B1.out.size))
    clear hb2
    go_wp2_with fail
    go_ret
    exact ⟨ret_bool HN.out.symm, B2.out⟩
  | true =>
  have HS : Hid (underS h d = (decide (h = d) || decide ((46 :: d) <:+ h))) := by unfold Hid; rw [HU.out, hh, hq]; rfl
  have HH := hide hh
  have HQ := hide hq
  clear hh hq HU
  by_cases he : h = d
  · have HN : Hid (underS h d = true) := by unfold Hid; rw [HS.out, decide_eq_true he]; rfl
    have hb : (h == d) = true := beq_iff_eq.2 he
    clear he
    go_enter Tryd.func17, Tryd.ntmps17
    go_wp2_with fail
    refine (CH.out _).mono ?_
    rintro e w1 ⟨rfl, hb1⟩
    rw [HH.out]
    have B1 := hide hb1
    clear hb1
    go_wp2_with fail
    refine (CD.out _).mono ?_
    rintro e w2 ⟨rfl, hb2⟩
    rw [HQ.out]
    have B2 := hide (B1.out.trans (hb2.mono B1.out.size))
    clear hb2
    go_wp2_with fail
    go_ret
    exact ⟨ret_bool HN.out.symm, B2.out⟩
  have hb : (h == d) = false := beq_eq_false_iff_ne.2 he
  by_cases hn : d.length + 1 < h.length
  · have HN : Hid (underS h d = (decide (h.drop (h.length - d.length) = d) && decide (h[h.length - d.length - 1] = 46))) := by unfold Hid; rw [HS.out, decide_eq_false he, Bool.false_or, suffix_at h d hn]
    have hnI : (d.length : Int) + 1 < (h.length : Int) := by omega
    clear he
    obtain ⟨q, hq⟩ : ∃ q, q = h.length - d.length - 1 := ⟨_, rfl⟩
    have q1 : h.length - d.length = q + 1 := by omega
    have hqn : q < h.length := by omega
    have q2 : (h.length : Int) - (d.length : Int) = ((q + 1 : Nat) : Int) := by omega
    have q3 : ((q + 1 : Nat) : Int) - 1 = (q : Int) := by omega
    have HN2 : Hid (underS h d = (decide (h.drop (q + 1) = d) && decide (h[q] = 46))) := by unfold Hid; rw [HN.out]; simp only [q1]; rfl
    clear HN HS hn hq q1
    go_enter Tryd.func17, Tryd.ntmps17
    go_wp2_with fail
    refine (CH.out _).mono ?_
    rintro e w1 ⟨rfl, hb1⟩
    rw [HH.out]
    have B1 := hide hb1
    clear hb1
    go_wp2_with fail
    refine (CD.out _).mono ?_
    rintro e w2 ⟨rfl, hb2⟩
    rw [HQ.out]
    have B2 := hide (B1.out.trans (hb2.mono B1.out.size))
    clear hb2
    have HX : Hid (((⟨h.toArray⟩ : ByteArray).extract (q + 1) h.length).toList = h.drop (q + 1)) := by
      have e := drop_end (⟨h.toArray⟩ : ByteArray) (q + 1)
      rw [size_mk] at e
      unfold Hid; rw [ByteArray.toList_eq]; exact e
    have HC : Hid (((((⟨h.toArray⟩ : ByteArray)[q]'(by rw [size_mk]; exact hqn)).toNat : Int) == 46) = decide (h[q] = 46)) := by
      unfold Hid
      rw [show (⟨h.toArray⟩ : ByteArray)[q]'(by rw [size_mk]; exact hqn) = h[q] from rfl, Bool.eq_iff_iff, beq_iff_eq, decide_eq_true_eq]
      exact ⟨fun e => UInt8.toNat_inj.1 (by show h[q].toNat = 46; omega), fun e => by rw [e]; rfl⟩
    go_wp2
    all_goals go_ret
    · rename_i hx
      rw [HX.out] at hx
      exact ⟨ret_bool (by rw [HN2.out, decide_eq_true hx, Bool.true_and]; exact HC.out), B2.out⟩
    · rename_i hx
      rw [HX.out] at hx
      exact ⟨ret_bool (by rw [HN2.out, decide_eq_false hx]; rfl), B2.out⟩
  · have HN : Hid (underS h d = false) := by unfold Hid; rw [HS.out, decide_eq_false he, Bool.false_or, suffix_short h d HH.out hn]
    have hnI : (h.length : Int) ≤ (d.length : Int) + 1 := by omega
    clear he hn
    go_enter Tryd.func17, Tryd.ntmps17
    go_wp2_with fail
    refine (CH.out _).mono ?_
    rintro e w1 ⟨rfl, hb1⟩
    rw [HH.out]
    have B1 := hide hb1
    clear hb1
    go_wp2_with fail
    refine (CD.out _).mono ?_
    rintro e w2 ⟨rfl, hb2⟩
    rw [HQ.out]
    have B2 := hide (B1.out.trans (hb2.mono B1.out.size))
    clear hb2
    go_wp2_with fail
    go_ret
    exact ⟨ret_bool HN.out.symm, B2.out⟩
end Go.Proofs.YtfbalmamhcbojaaDoor
