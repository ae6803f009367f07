/- Walks over moatref1: Head, Port, Cut, Host. -/
import Derived.Test.YtkomggockjeibaaDoorR1
import Derived.Test.YtkomggockjeibaaDoorPlain4
namespace Go.Proofs.YtkomggockjeibaaDoor
open Go.RowKit Go.Proofs.Url

theorem pre_iff (l h : List UInt8) : Lib.hasPrefix l h = decide (h.length ≤ l.length ∧ l.take h.length = h) := by
  unfold Lib.hasPrefix
  rw [Bool.eq_iff_iff, List.isPrefixOf_iff_prefix, decide_eq_true_iff]
  constructor
  · intro hp; exact ⟨hp.length_le, (List.prefix_iff_eq_take.1 hp).symm⟩
  · rintro ⟨_, h2⟩; rw [← h2]; exact List.take_prefix _ _
theorem take_list (l : List UInt8) (n : Nat) : ((⟨l.toArray⟩ : ByteArray).extract 0 n).data.toList = l.take n := by
  rw [Lib.extract_from_zero]
theorem drop_list (l : List UInt8) (n : Nat) : ((⟨l.toArray⟩ : ByteArray).extract n l.length).data.toList = l.drop n := by
  have h := Lib.extract_to_end (⟨l.toArray⟩ : ByteArray) n
  rwa [size_mk] at h
theorem eq_bytes {a b : ByteArray} (h : a.data.toList = b.data.toList) : a = b := by
  cases a; cases b; simp only at h; rw [Array.toList_inj] at h; rw [h]
theorem drop_mk (l : List UInt8) (n : Nat) : (⟨l.toArray⟩ : ByteArray).extract n l.length = ⟨(l.drop n).toArray⟩ := eq_bytes (drop_list l n)
theorem ret_sb {a b : ByteArray} {x y : Bool} (h : a = b) (h' : x = y) : Ending.returned (.tuple #[.string a, .bool x]) = .returned (.tuple #[.string b, .bool y]) := by rw [h, h']

theorem trim_t {l h : List UInt8} (hp : Lib.hasPrefix l h = true) : Lib.trimPrefix l h = l.drop h.length := by unfold Lib.trimPrefix; rw [if_pos hp]
theorem trim_f {l h : List UInt8} (hp : Lib.hasPrefix l h = false) : Lib.trimPrefix l h = l := by unfold Lib.trimPrefix; rw [if_neg (by simp [hp])]

set_option maxHeartbeats 400000 in
theorem refHead_any (l h : List UInt8) (w : World) (_hl : l.length < 4294967281) (_hh : h.length < 4294967281) :
    Calls Tryd.prog 27 #[.string ⟨l.toArray⟩, .string ⟨h.toArray⟩] w fun e w' => e = .returned (.tuple #[.string ⟨(Lib.trimPrefix l h).toArray⟩, .bool (Lib.hasPrefix l h)]) ∧ w' = w := by
  have HP := hide (pre_iff l h)
  by_cases h1 : (l.length : Int) < (h.length : Int)
  · have HF : Hid (Lib.hasPrefix l h = false) := by unfold Hid; rw [HP.out]; exact decide_eq_false (by omega)
    go_enter Tryd.func27, Tryd.ntmps27
    go_wp2
    go_ret2
    exact ⟨ret_sb (by rw [trim_f HF.out]) HF.out.symm, rfl⟩
  · by_cases h2 : l.take h.length = h
    · have HT : Hid (Lib.hasPrefix l h = true) := by unfold Hid; rw [HP.out]; exact decide_eq_true ⟨by omega, h2⟩
      have hb : (!(((⟨l.toArray⟩ : ByteArray).extract 0 h.length).toList == h)) = false := by rw [ByteArray.toList_eq, take_list, h2]; simp
      clear h2
      go_enter Tryd.func27, Tryd.ntmps27
      go_wp2
      go_ret2
      exact ⟨ret_sb (by rw [trim_t HT.out]; exact drop_mk l _) HT.out.symm, rfl⟩
    · have HF : Hid (Lib.hasPrefix l h = false) := by unfold Hid; rw [HP.out]; exact decide_eq_false (fun e => h2 e.2)
      have hb : (!(((⟨l.toArray⟩ : ByteArray).extract 0 h.length).toList == h)) = true := by rw [ByteArray.toList_eq, take_list]; simpa using h2
      clear h2
      go_enter Tryd.func27, Tryd.ntmps27
      go_wp2
      go_ret2
      exact ⟨ret_sb (by rw [trim_f HF.out]) HF.out.symm, rfl⟩

set_option maxHeartbeats 1000000 in
theorem refPort_any (s : ByteArray) (w : World) (hs : s.size < 4294967281) :
    Calls Tryd.prog 12 #[.string s] w fun e w' => e = .returned (.tuple #[.int .i64 (port s.data.toList), .bool (portOk s.data.toList)]) ∧ w' = w := by
  go_enter Tryd.func12, Tryd.ntmps12
  go_wp2_with fail
  go_loop [4, 5] (fun n i => ∃ (k : Nat) (z : Int), k ≤ s.size ∧ k ≤ 6 ∧ i = .int .i64 k ∧ n = .int .i64 z ∧ 0 ≤ z ∧ z < 10 ^ k ∧ Hid (z = num (s.data.toList.take k)) ∧ Hid ((s.data.toList.take k).all dig = true)) (fun _ i => 6 - (intOf i).toNat)
  case atStart => exact ⟨0, 0, Nat.zero_le _, by omega, rfl, rfl, by omega, by omega, rfl, rfl⟩
  case round =>
    obtain ⟨k, z, hk, hk6, rfl, rfl, hz0, hz1, hz, hall⟩ := hrel
    have hz2 : z ≤ 1000000 := by
      have : k = 0 ∨ k = 1 ∨ k = 2 ∨ k = 3 ∨ k = 4 ∨ k = 5 ∨ k = 6 := by omega
      rcases this with rfl | rfl | rfl | rfl | rfl | rfl | rfl <;> omega
    have HE : Hid (z < 10 ^ k) := hz1
    clear hz1
    by_cases hlt : k < s.size ∧ k < 6
    · obtain ⟨hlt, hl6⟩ := hlt
      have hc : s[k].toNat < 256 := s[k].toNat_lt
      have HS : Hid ((s.data.toList.take (k + 1)).all dig = ((s.data.toList.take k).all dig && dig s[k])) := all_take_succ dig s k hlt
      have HS' : Hid (num (s.data.toList.take (k + 1)) = 10 * num (s.data.toList.take k) + ((s[k].toNat : Int) - 48)) := num_take_succ s k hlt
      by_cases hd1 : (s[k].toNat : Int) < 48
      · have HN : Hid (portOk s.data.toList = false) := port_no (.inr (.inr (.inr (.inl ⟨k, hlt, by unfold dig digI; simp; omega⟩))))
        go_wp2_with fail
        go_ret2
        exact ⟨port0 HN.out, rfl⟩
      by_cases hd2 : 57 < (s[k].toNat : Int)
      · have HN : Hid (portOk s.data.toList = false) := port_no (.inr (.inr (.inr (.inl ⟨k, hlt, by unfold dig digI; simp; omega⟩))))
        go_wp2_with fail
        go_ret2
        exact ⟨port0 HN.out, rfl⟩
      have hp : Hid (dig s[k] = true) := by unfold Hid dig digI; simp; omega
      have hd3 : 48 ≤ (s[k].toNat : Int) := by omega
      have hd4 : (s[k].toNat : Int) ≤ 57 := by omega
      go_wp2_with fail
      go_round
      case rel =>
        refine ⟨k + 1, z * 10 + ((s[k].toNat : Int) - 48), by omega, by omega, by go_num, by go_num, by omega, ?_, ?_, ?_⟩
        · have := HE.out; rw [Int.pow_succ]; omega
        · unfold Hid; rw [HS'.out, ← hz.out]; omega
        · unfold Hid; rw [HS.out, hall.out, hp.out]; rfl
      case measure => simp [intOf]; omega
    · clear HE
      by_cases h0 : s.size = 0
      · have HN : Hid (portOk s.data.toList = false) := port_no (.inl h0)
        have hn1 : (s.size : Int) < 1 := by omega
        have hn2 : ¬ (k : Int) < (s.size : Int) := by omega
        clear h0 hlt
        go_wp2_with fail
        go_ret2
        exact ⟨port0 HN.out, rfl⟩
      by_cases h5 : 5 < (s.size : Int)
      · have HN : Hid (portOk s.data.toList = false) := port_no (.inr (.inl (by omega)))
        have hn1 : ¬ (s.size : Int) < 1 := by omega
        clear h0
        by_cases hks : (k : Int) < (s.size : Int)
        · have hk7 : ¬ (k : Int) < 6 := by omega
          clear hlt
          go_wp2_with fail
          go_ret2
          exact ⟨port0 HN.out, rfl⟩
        · clear hlt
          go_wp2_with fail
          go_ret2
          exact ⟨port0 HN.out, rfl⟩
      have hn1 : ¬ (s.size : Int) < 1 := by omega
      have hn2 : ¬ (k : Int) < (s.size : Int) := by omega
      have hpos : 0 < s.size := by omega
      have HZ : Hid (z = num s.data.toList) := by have := hz.out; rwa [List.take_of_length_le (by simp; omega)] at this
      have HA : Hid (s.data.toList.all dig = true) := all_of_take dig s k (by omega) hall.out
      clear h0 hlt
      by_cases h48 : s[0].toNat = 48
      · have HN : Hid (portOk s.data.toList = false) := port_no (.inr (.inr (.inl ⟨hpos, h48⟩)))
        have hb : ((s[0].toNat : Int) == 48) = true := beq_iff_eq.2 (by omega)
        clear h48
        go_wp2_with fail
        go_ret2
        exact ⟨port0 HN.out, rfl⟩
      have hb : ((s[0].toNat : Int) == 48) = false := beq_eq_false_iff_ne.2 (by omega)
      have HG : Hid (1 ≤ num s.data.toList) := num_pos _ (by intro e; have := congrArg List.length e; simp at this; rw [this] at hpos; exact absurd hpos (by decide)) (by rw [head_eq s hpos]; simp [← UInt8.toNat_inj, h48]) HA.out
      by_cases hbig : 65535 < z
      · have HN : Hid (portOk s.data.toList = false) := port_no (.inr (.inr (.inr (.inr (by rw [← HZ.out]; omega)))))
        clear h48
        go_wp2_with fail
        go_ret2
        exact ⟨port0 HN.out, rfl⟩
      · have HY : Hid (portOk s.data.toList = true) := port_yes hpos (by omega) h48 HA.out ⟨HG.out, by rw [← HZ.out]; omega⟩
        clear h48
        go_wp2_with fail
        go_ret2
        exact ⟨port1 HY.out HZ.out, rfl⟩

theorem ownsRow_base {w : World} {base : Nat} {e : TypeId} {size : Nat} {v : Value} {n : Nat} {xs : List Value} (h : w.ownsRow base e size v n xs) : ∀ j, v.ownBlock = some j → base ≤ j := by
  intro j hj
  rcases h.2 with ⟨rfl, _⟩ | ⟨g, cap, cur, rfl, hb, _⟩
  · cases hj
  · have : g = j := by simpa [Value.ownBlock] using hj
    omega
theorem info_string : (Tryd.prog.info? 9).map (fun i => (i.zero, i.size, i.bytes)) = some (some (.string ByteArray.empty), 1, 16) := by kernel_rfl
theorem ext_mid (s : ByteArray) (f k : Nat) : (s.extract f k).data.toList = (s.data.toList.take k).drop f := by
  rw [Lib.extract_data, List.drop_take]

theorem cut_round {s : ByteArray} {c : UInt8} {w w3 : World} {ps : List ByteArray} {fk k : Nat} {v' : Value} (hk : k ≤ s.size) (hpl : ps.length ≤ k)
    (HI : Hid (CutInv c s.data.toList (k + 1) (k + 1) ((ps ++ [s.extract fk k]).map (·.data.toList))))
    (hown : w3.ownsRow w.heap.size 9 1 v' (ps.length + 1) (ps.map Value.string ++ [.string (s.extract fk k)])) (hB : Below w.heap.size w w3) :
    ∃ (f' k' : Nat) (v : Value) (qs : List ByteArray) (ao : Option Addr) (cv : Nat), k' ≤ s.size + 1 ∧ f' ≤ s.size + 1 ∧ Value.int .i64 ((k : Int) + 1) = .int .i64 k' ∧ Value.int .i64 ((k : Int) + 1) = .int .i64 f' ∧ v' = v ∧ v = .slice ao qs.length cv ∧ qs.length ≤ k' ∧
      (k' ≤ s.size → f' ≤ k') ∧ Hid (CutInv c s.data.toList f' k' (qs.map (·.data.toList))) ∧ w3.ownsRow w.heap.size 9 1 v qs.length (qs.map Value.string) ∧ Below w.heap.size w w3 := by
  have hl : (ps ++ [s.extract fk k]).length = ps.length + 1 := by simp
  obtain ⟨g, cap, hv⟩ : ∃ g cap, v' = .slice (some ⟨g, 0, none⟩) (ps.length + 1) cap := by
    rcases hown.2 with ⟨_, h⟩ | ⟨g, cap, _, h, _⟩
    · omega
    · exact ⟨g, cap, h⟩
  refine ⟨k + 1, k + 1, v', ps ++ [s.extract fk k], some ⟨g, 0, none⟩, cap, by omega, by omega, by go_num, by go_num, rfl, by rw [hl]; exact hv, by rw [hl]; omega, fun _ => Nat.le_refl _, HI, ?_, hB⟩
  rw [hl, List.map_append]; exact hown

set_option maxHeartbeats 1000000 in
theorem refCut_any (s : ByteArray) (c : UInt8) (w : World) (hs : s.size < 4294967281) :
    Calls Tryd.prog 29 #[.string s, .int .u8 c.toNat] w fun e w' => ∃ (v : Value) (ps : List ByteArray), e = .returned v ∧ ps.map (·.data.toList) = parts c s.data.toList ∧ w'.ownsRow w.heap.size 9 1 v ps.length (ps.map Value.string) ∧ Below w.heap.size w w' := by
  obtain ⟨i0, hi, hz0, hz1, hz2⟩ := info_parts info_string
  go_enter Tryd.func29, Tryd.ntmps29
  go_wp2_with fail
  go_loopw [5, 6, 7] (fun o f i W => ∃ (fk k : Nat) (v : Value) (ps : List ByteArray) (ao : Option Addr) (cv : Nat), k ≤ s.size + 1 ∧ fk ≤ s.size + 1 ∧ i = .int .i64 k ∧ f = .int .i64 fk ∧ o = v ∧ v = .slice ao ps.length cv ∧ ps.length ≤ k ∧
      (k ≤ s.size → fk ≤ k) ∧ Hid (CutInv c s.data.toList fk k (ps.map (·.data.toList))) ∧ W.ownsRow w.heap.size 9 1 v ps.length (ps.map Value.string) ∧ Below w.heap.size w W) (fun _ _ i _ => s.size + 1 - (intOf i).toNat)
  case atStart => exact ⟨0, 0, _, [], none, 0, by omega, by omega, rfl, rfl, rfl, rfl, by simp, by simp, cut_start _ _, World.ownsRow_nil _ _ _ _, Below.refl _ _⟩
  case round =>
    obtain ⟨fk, k, v, ps, ao, cv, hk, hfk, rfl, rfl, rfl, rfl, hpl, hfl, hinv, hown, hnx⟩ := hrel
    have hsize := hnx.size
    have hbase : ∀ j, (Value.slice ao ps.length cv).ownBlock = some j → w.heap.size ≤ j := fun j hj => ownsRow_base hown j hj
    by_cases hlt : k ≤ s.size
    · have hfk' := hfl hlt
      by_cases hend : k = s.size
      · have HI : Hid (CutInv c s.data.toList (k + 1) (k + 1) ((ps ++ [s.extract fk k]).map (·.data.toList))) := by
          have h0 : CutInv c s.data.toList fk s.data.toList.length (ps.map (·.data.toList)) := by rw [len_eq, ← hend]; exact hinv.out
          have h1 := cut_end h0 (k + 1)
          rw [len_eq, ← hend] at h1
          unfold Hid; rw [List.map_append, List.map_cons, List.map_nil, ext_mid]; exact h1
        have hb : ((k : Int) == (s.size : Int)) = true := beq_iff_eq.2 (by omega)
        have hks : (k : Int) ≤ (s.size : Int) := by omega
        clear hend hinv
        go_wp2_with (at_builtin; refine wpList_append_own _ rfl _ _ 37 rfl w.heap.size 9 i0 (.string ByteArray.empty) 1 16 Tryd.underlying37 hi hz0 hz1 hz2 rfl (by decide) _ _ _ rfl (hown.alloc _) ⟨wr.heap.size, 0, none⟩ 1 1 [.string (s.extract fk k)] rfl rfl (cell_one_new _ _ _) (fun x hx => by simp at hx; subst hx; rfl) (by unfold maxLen; omega) (by omega) (by simp; omega) ?_; intro v' w3 hown' hgrow3 hnil3)
        refine ⟨cut_round hlt hpl HI hown' (Below.trans (hnx.alloc hsize _) (Below.grown (Below.refl _ _) hgrow3 (by simp; omega) hbase)), by simp [intOf]; omega⟩
      · have hb : ((k : Int) == (s.size : Int)) = false := beq_eq_false_iff_ne.2 (by omega)
        have hks : (k : Int) < (s.size : Int) := by omega
        have hkl : k < s.size := by omega
        by_cases hc : s[k] = c
        · have HI : Hid (CutInv c s.data.toList (k + 1) (k + 1) ((ps ++ [s.extract fk k]).map (·.data.toList))) := by
            have h1 := cut_hit hinv.out (by simpa using hkl) (show s.data.toList[k] = c from hc)
            unfold Hid; rw [List.map_append, List.map_cons, List.map_nil, ext_mid]; exact h1
          have hb2 : ((s[k].toNat : Int) == (c.toNat : Int)) = true := by rw [hc]; simp
          clear hend hinv hc
          go_wp2_with (at_builtin; refine wpList_append_own _ rfl _ _ 37 rfl w.heap.size 9 i0 (.string ByteArray.empty) 1 16 Tryd.underlying37 hi hz0 hz1 hz2 rfl (by decide) _ _ _ rfl (hown.alloc _) ⟨wr.heap.size, 0, none⟩ 1 1 [.string (s.extract fk k)] rfl rfl (cell_one_new _ _ _) (fun x hx => by simp at hx; subst hx; rfl) (by unfold maxLen; omega) (by omega) (by simp; omega) ?_; intro v' w3 hown' hgrow3 hnil3)
          refine ⟨cut_round hlt hpl HI hown' (Below.trans (hnx.alloc hsize _) (Below.grown (Below.refl _ _) hgrow3 (by simp; omega) hbase)), by simp [intOf]; omega⟩
        · have HI : Hid (CutInv c s.data.toList fk (k + 1) (ps.map (·.data.toList))) := cut_pass hinv.out (by simpa using hkl) (show s.data.toList[k] ≠ c from hc)
          have hb2 : ((s[k].toNat : Int) == (c.toNat : Int)) = false := beq_eq_false_iff_ne.2 (fun e => hc (UInt8.toNat_inj.1 (by omega)))
          clear hend hinv hc
          go_wp2_with fail
          refine ⟨⟨fk, k + 1, _, ps, ao, cv, by omega, by omega, by go_num, rfl, rfl, rfl, by omega, fun _ => by omega, HI, hown, hnx⟩, by simp [intOf]; omega⟩
    · have HF : Hid (ps.map (·.data.toList) = parts c s.data.toList) := (hinv.out.2.1 (by rw [len_eq]; omega)).symm
      clear hinv
      go_wp2_with fail
      go_ret
      exact ⟨_, ps, rfl, HF.out, hown, hnx⟩
end Go.Proofs.YtkomggockjeibaaDoor
