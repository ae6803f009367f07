/- The walk over moatlaw1.UrlTells: it answers true, whatever it is handed. -/
import Derived.Test.YtkomggockjeibaaDoorW6
import Derived.Test.YtkomggockjeibaaDoorR3
namespace Go.Proofs.YtkomggockjeibaaDoor
open Go.RowKit Go.Proofs.Url

theorem origin_form (R : Option (List UInt8 × List UInt8 × Int)) : ∃ (x y : List UInt8) (n : Int), originV R = .agg #[.string ⟨#[]⟩, .string ⟨x.toArray⟩, .string ⟨y.toArray⟩, .int .i64 n] := by
  cases R with
  | none => exact ⟨[], [], 0, rfl⟩
  | some r => exact ⟨r.1, r.2.1, r.2.2, rfl⟩
theorem size_list (s : ByteArray) : s.data.toList.length = s.size := by simp

set_option maxHeartbeats 1000000 in
set_option maxRecDepth 100000 in
theorem urlTells_walk (s : ByteArray) (w : World) (henv : Env w) (hs : s.size ≤ maxLen) :
    Calls Tryd.prog 3 #[.string s] w fun e w' => e = .returned (.bool true) ∧ Below w.heap.size w w' := by
  unfold maxLen at hs
  by_cases h300 : 300 < (s.size : Int)
  · go_enter Tryd.func3, Tryd.ntmps3
    go_wp2_with fail
    refine (awake_any _ henv).mono ?_
    rintro e w1 ⟨rfl, hb1⟩
    go_wp2_with fail
    go_ret
    exact ⟨rfl, hb1⟩
  have R1 := hide (fun W (h : Env W) => read_any s W h (by omega))
  have R2 := hide (fun W => refRead_any s.data.toList W (by rw [size_list]; omega))
  have es : (⟨s.data.toList.toArray⟩ : ByteArray) = s := by cases s; simp
  rw [es] at R2
  clear es
  obtain ⟨x, y, n, hV⟩ := origin_form (readS s.data.toList)
  rw [hV] at R1 R2
  clear hV
  generalize (readS s.data.toList).isSome = ok at *
  have P1 := hide (fun W => port_any s W (by unfold maxLen; omega))
  have P2 := hide (fun W => refPort_any s W (by omega))
  generalize port s.data.toList = pn at *
  generalize portOk s.data.toList = pok at *
  have H1 := hide (fun W (h : Env W) => host_any s W h (by unfold maxLen; omega))
  have H2 := hide (fun W => refHost_any s W (by omega))
  generalize host s.data.toList = hok at *
  have A1 := hide (fun W => path_any s W (by unfold maxLen; omega))
  have A2 := hide (fun W => refPath_any s W (by unfold maxLen; omega))
  generalize path s.data.toList = aok at *
  go_enter Tryd.func3, Tryd.ntmps3
  go_wp2_with fail
  refine (R1.out _ henv).mono ?_
  rintro e w1 ⟨rfl, hb1⟩
  have E1 := hide (henv.keep hb1)
  have B1 := hide hb1
  clear hb1
  go_wp2_with fail
  refine (R2.out _).mono ?_
  rintro e w2 ⟨rfl, hb2⟩
  obtain ⟨hc2, hf2⟩ := bcell hb2
  have hz2 : w1.heap.size < w2.heap.size := by have := hb2.size; simp at this; omega
  have hz2' : w1.heap.size < w2.heap.size + 1 := by omega
  have E2 := hide ((E1.out.alloc _).keep hb2)
  have s1 := B1.out.size
  have B2 : Hid (Below w.heap.size w w2) := (B1.out.alloc s1 _).trans (hb2.mono (by simp; omega))
  have s2 := B2.out.size
  clear hb2
  go_wp2_with fail
  refine (P1.out _).mono ?_
  rintro e w' ⟨rfl, rfl⟩
  go_wp2_with fail
  refine (P2.out _).mono ?_
  rintro e w' ⟨rfl, rfl⟩
  go_wp2_with fail
  refine (H1.out _ (E2.out.alloc _)).mono ?_
  rintro e w3 ⟨rfl, hb3⟩
  have E3 := hide ((E2.out.alloc _).keep hb3)
  have B3 : Hid (Below w.heap.size w w3) := (B2.out.alloc s2 _).trans (hb3.mono (by simp; omega))
  clear hb3
  go_wp2_with fail
  refine (H2.out _).mono ?_
  rintro e w4 ⟨rfl, hb4⟩
  have E4 := hide (E3.out.keep hb4)
  have B4 : Hid (Below w.heap.size w w4) := B3.out.trans (hb4.mono B3.out.size)
  clear hb4
  go_wp2_with fail
  refine (A1.out _).mono ?_
  rintro e w' ⟨rfl, rfl⟩
  go_wp2_with fail
  refine (A2.out _).mono ?_
  rintro e w' ⟨rfl, rfl⟩
  go_wp2_with fail
  refine (awake_any _ E4.out).mono ?_
  rintro e w5 ⟨rfl, hb5⟩
  have B5 : Hid (Below w.heap.size w w5) := B4.out.trans (hb5.mono B4.out.size)
  clear hb5
  go_wp2_with fail
  go_ret
  exact ⟨rfl, B5.out⟩
end Go.Proofs.YtkomggockjeibaaDoor
