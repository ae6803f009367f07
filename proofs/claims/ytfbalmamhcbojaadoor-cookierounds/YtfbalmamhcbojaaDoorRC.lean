/- The walk over moatref1.Cut. -/
import Derived.Test.YtfbalmamhcbojaaDoorS2
import Derived.Test.YtfbalmamhcbojaaDoorPlain4
namespace Go.Proofs.YtfbalmamhcbojaaDoor
open Go.RowKit Go.Proofs.Url

theorem ext_mid (s : ByteArray) (f k : Nat) : (s.extract f k).data.toList = (s.data.toList.take k).drop f := by
  rw [Lib.extract_data, List.drop_take]

theorem cut_round {s : ByteArray} {c : UInt8} {w w3 : World} {ps : List ByteArray} {fk k : Nat} {v' : Value} (hk : k ≤ s.size) (hpl : ps.length ≤ k)
    (HI : Hid (CutInv c s.data.toList (k + 1) (k + 1) ((ps ++ [s.extract fk k]).map (·.data.toList))))
    (hown : w3.ownsRow w.heap.size 9 1 v' (ps.length + 1) (ps.map Value.string ++ [.string (s.extract fk k)])) (hB : Below w.heap.size w w3) :
    ∃ (f' k' : Nat) (v : Value) (qs : List ByteArray) (ao : Option Addr) (cv : Nat), k' ≤ s.size + 1 ∧ f' ≤ s.size + 1 ∧ Value.int .i64 ((k : Int) + 1) = .int .i64 k' ∧ Value.int .i64 ((k : Int) + 1) = .int .i64 f' ∧ v' = v ∧ v = .slice ao qs.length cv ∧ qs.length ≤ k' ∧
      (k' ≤ s.size → f' ≤ k') ∧ Hid (CutInv c s.data.toList f' k' (qs.map (·.data.toList))) ∧ w3.ownsRow w.heap.size 9 1 v qs.length (qs.map Value.string) ∧ Below w.heap.size w w3 := by
  have hl : (ps ++ [s.extract fk k]).length = ps.length + 1 := by simp
  obtain ⟨g, cap, hv⟩ : ∃ g cap, v' = .slice (some ⟨g, 0, none⟩) (ps.length + 1) cap := by
    rcases hown.2 with ⟨_, h⟩ | ⟨g, cap, _, h, _⟩
    · omega
    · exact ⟨g, cap, h⟩
  refine ⟨k + 1, k + 1, v', ps ++ [s.extract fk k], some ⟨g, 0, none⟩, cap, by omega, by omega, by go_num, by go_num, rfl, by rw [hl]; exact hv, by rw [hl]; omega, fun _ => Nat.le_refl _, HI, ?_, hB⟩
  rw [hl, List.map_append]; exact hown

set_option maxHeartbeats 1000000 in
theorem refCut_any (s : ByteArray) (c : UInt8) (w : World) (hs : s.size < 4294967281) :
    Calls Tryd.prog 34 #[.string s, .int .u8 c.toNat] w fun e w' => ∃ (v : Value) (ps : List ByteArray), e = .returned v ∧ ps.map (·.data.toList) = parts c s.data.toList ∧ w'.ownsRow w.heap.size 9 1 v ps.length (ps.map Value.string) ∧ Below w.heap.size w w' := by
  obtain ⟨i0, hi, hz0, hz1, hz2⟩ := info_parts infoS
  go_enter Tryd.func34, Tryd.ntmps34
  go_wp2_with fail
  go_loopw [5, 6, 7] (fun o f i W => ∃ (fk k : Nat) (v : Value) (ps : List ByteArray) (ao : Option Addr) (cv : Nat), k ≤ s.size + 1 ∧ fk ≤ s.size + 1 ∧ i = .int .i64 k ∧ f = .int .i64 fk ∧ o = v ∧ v = .slice ao ps.length cv ∧ ps.length ≤ k ∧
      (k ≤ s.size → fk ≤ k) ∧ Hid (CutInv c s.data.toList fk k (ps.map (·.data.toList))) ∧ W.ownsRow w.heap.size 9 1 v ps.length (ps.map Value.string) ∧ Below w.heap.size w W) (fun _ _ i _ => s.size + 1 - (intOf i).toNat)
  case atStart => exact ⟨0, 0, _, [], none, 0, by omega, by omega, rfl, rfl, rfl, rfl, by simp, by simp, cut_start _ _, World.ownsRow_nil _ _ _ _, Below.refl _ _⟩
  case round =>
    obtain ⟨fk, k, v, ps, ao, cv, hk, hfk, rfl, rfl, rfl, rfl, hpl, hfl, hinv, hown, hnx⟩ := hrel
    have hsize := hnx.size
    have hbase : ∀ j, (Value.slice ao ps.length cv).ownBlock = some j → w.heap.size ≤ j := fun j hj => owns_base hown j hj
    by_cases hlt : k ≤ s.size
    · have hfk' := hfl hlt
      by_cases hend : k = s.size
      · have HI : Hid (CutInv c s.data.toList (k + 1) (k + 1) ((ps ++ [s.extract fk k]).map (·.data.toList))) := by
          have h0 : CutInv c s.data.toList fk s.data.toList.length (ps.map (·.data.toList)) := by rw [len_eq, ← hend]; exact hinv.out
          have h1 := cut_end h0 (k + 1)
          rw [len_eq, ← hend] at h1
          unfold Hid; rw [List.map_append, List.map_cons, List.map_nil, ext_mid]; exact h1
        have hb : ((k : Int) == (s.size : Int)) = true := beq_iff_eq.2 (by omega)
        have hks : (k : Int) ≤ (s.size : Int) := by omega
        clear hend hinv
        go_wp2_with (at_builtin; refine wpList_append_own _ rfl _ _ 29 rfl w.heap.size 9 i0 (.string ByteArray.empty) 1 16 Tryd.underlying29 hi hz0 hz1 hz2 rfl (by decide) _ _ _ rfl (hown.alloc _) ⟨wr.heap.size, 0, none⟩ 1 1 [.string (s.extract fk k)] rfl rfl (cell_one_new _ _ _) (fun x hx => by simp at hx; subst hx; rfl) (by unfold maxLen; omega) (by omega) (by simp; omega) ?_; intro v' w3 hown' hgrow3 hnil3)
        refine ⟨cut_round hlt hpl HI hown' (Below.trans (hnx.alloc hsize _) (Below.grown (Below.refl _ _) hgrow3 (by simp; omega) hbase)), by simp [intOf]; omega⟩
      · have hb : ((k : Int) == (s.size : Int)) = false := beq_eq_false_iff_ne.2 (by omega)
        have hks : (k : Int) < (s.size : Int) := by omega
        have hkl : k < s.size := by omega
        by_cases hc : s[k] = c
        · have HI : Hid (CutInv c s.data.toList (k + 1) (k + 1) ((ps ++ [s.extract fk k]).map (·.data.toList))) := by
            have h1 := cut_hit hinv.out (by simpa using hkl) (show s.data.toList[k] = c from hc)
            unfold Hid; rw [List.map_append, List.map_cons, List.map_nil, ext_mid]; exact h1
          have hb2 : ((s[k].toNat : Int) == (c.toNat : Int)) = true := by rw [hc]; simp
          clear hend hinv hc
          go_wp2_with (at_builtin; refine wpList_append_own _ rfl _ _ 29 rfl w.heap.size 9 i0 (.string ByteArray.empty) 1 16 Tryd.underlying29 hi hz0 hz1 hz2 rfl (by decide) _ _ _ rfl (hown.alloc _) ⟨wr.heap.size, 0, none⟩ 1 1 [.string (s.extract fk k)] rfl rfl (cell_one_new _ _ _) (fun x hx => by simp at hx; subst hx; rfl) (by unfold maxLen; omega) (by omega) (by simp; omega) ?_; intro v' w3 hown' hgrow3 hnil3)
          refine ⟨cut_round hlt hpl HI hown' (Below.trans (hnx.alloc hsize _) (Below.grown (Below.refl _ _) hgrow3 (by simp; omega) hbase)), by simp [intOf]; omega⟩
        · have HI : Hid (CutInv c s.data.toList fk (k + 1) (ps.map (·.data.toList))) := cut_pass hinv.out (by simpa using hkl) (show s.data.toList[k] ≠ c from hc)
          have hb2 : ((s[k].toNat : Int) == (c.toNat : Int)) = false := beq_eq_false_iff_ne.2 (fun e => hc (UInt8.toNat_inj.1 (by omega)))
          clear hend hinv hc
          go_wp2_with fail
          refine ⟨⟨fk, k + 1, _, ps, ao, cv, by omega, by omega, by go_num, rfl, rfl, rfl, by omega, fun _ => by omega, HI, hown, hnx⟩, by simp [intOf]; omega⟩
    · have HF : Hid (ps.map (·.data.toList) = parts c s.data.toList) := (hinv.out.2.1 (by rw [len_eq]; omega)).symm
      clear hinv
      go_wp2_with fail
      go_ret
      exact ⟨_, ps, rfl, HF.out, hown, hnx⟩
end Go.Proofs.YtfbalmamhcbojaaDoor
