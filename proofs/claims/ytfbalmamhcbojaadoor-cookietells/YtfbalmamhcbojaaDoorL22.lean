/- The walk over moatlaw7.CookieTells. -/
import Derived.Test.YtfbalmamhcbojaaDoorY9
import Derived.Test.YtfbalmamhcbojaaDoorY6
import Derived.Test.YtfbalmamhcbojaaDoorQL
namespace Go.Proofs.YtfbalmamhcbojaaDoor
open Go.RowKit Go.Proofs.Url

/-- The cells of a cookie. -/
def cells7 (c : Ck) : List Value := [.string ⟨#[]⟩, .int .i64 0, .string ⟨c.dom.toArray⟩, .string ⟨c.way.toArray⟩, .bool c.sec, .bool c.htt, .int .i64 c.same]
def cellsI (nm : ByteArray) (o : Int) (dom way : List UInt8) (sec htt : Bool) (same : Int) : List Value := [.string nm, .int .i64 o, .string ⟨dom.toArray⟩, .string ⟨way.toArray⟩, .bool sec, .bool htt, .int .i64 same]

set_option maxHeartbeats 2000000 in
set_option maxRecDepth 100000 in
theorem cookieTells_walk (h s : List UInt8) (nm : ByteArray) (o : Int) (dom way : List UInt8) (sec htt : Bool) (same : Int) (w : World) (henv : Env w) (h1 : h.length ≤ maxLen) (h2 : s.length ≤ maxLen) (h3 : dom.length ≤ 140737488355328) (h4 : way.length ≤ 140737488355328) :
    Calls Tryd.prog 3 #[.string ⟨h.toArray⟩, .string ⟨s.toArray⟩, ckIn nm o dom way sec htt same] w fun r w' => r = .returned (.bool true) ∧ Below w.heap.size w w' := by
  have HE := hide henv
  have XA := hide (fun W hb => awake7_any W (HE.out.keep (w' := W) hb))
  unfold maxLen at h1 h2
  clear henv
  unfold ckIn
  by_cases a1 : 100 < h.length
  · have i1 : (100 : Int) < (h.length : Int) := by omega
    clear a1
    go_enter Tryd.func3, Tryd.ntmps3
    go_wp2_with fail
    have B1 := hide ((Below.refl w.heap.size w).alloc (Nat.le_refl _) (Obj.cells #[.string nm, .int .i64 o, .string ⟨dom.toArray⟩, .string ⟨way.toArray⟩, .bool sec, .bool htt, .int .i64 same] 23))
    refine (XA.out _ B1.out).mono ?_
    rintro r w2 ⟨rfl, hb2⟩
    have B2 := hide (B1.out.trans (hb2.mono B1.out.size))
    go_wp2_with fail
    go_ret
    exact ⟨rfl, B2.out⟩
  have i1 : ¬ (100 : Int) < (h.length : Int) := by omega
  by_cases a2 : 300 < s.length
  · have i2 : (300 : Int) < (s.length : Int) := by omega
    clear a1 a2
    go_enter Tryd.func3, Tryd.ntmps3
    go_wp2_with fail
    have B1 := hide ((Below.refl w.heap.size w).alloc (Nat.le_refl _) (Obj.cells #[.string nm, .int .i64 o, .string ⟨dom.toArray⟩, .string ⟨way.toArray⟩, .bool sec, .bool htt, .int .i64 same] 23))
    refine (XA.out _ B1.out).mono ?_
    rintro r w2 ⟨rfl, hb2⟩
    have B2 := hide (B1.out.trans (hb2.mono B1.out.size))
    go_wp2_with fail
    go_ret
    exact ⟨rfl, B2.out⟩
  have i2 : ¬ (300 : Int) < (s.length : Int) := by omega
  by_cases a3 : 200 < dom.length + way.length
  · have i3 : (200 : Int) < (dom.length : Int) + (way.length : Int) := by omega
    clear a1 a2 a3
    go_enter Tryd.func3, Tryd.ntmps3
    go_wp2_with fail
    have B1 := hide ((Below.refl w.heap.size w).alloc (Nat.le_refl _) (Obj.cells #[.string nm, .int .i64 o, .string ⟨dom.toArray⟩, .string ⟨way.toArray⟩, .bool sec, .bool htt, .int .i64 same] 23))
    refine (XA.out _ B1.out).mono ?_
    rintro r w2 ⟨rfl, hb2⟩
    have B2 := hide (B1.out.trans (hb2.mono B1.out.size))
    go_wp2_with fail
    go_ret
    exact ⟨rfl, B2.out⟩
  have i3 : ¬ (200 : Int) < (dom.length : Int) + (way.length : Int) := by omega
  have CR := hide (fun W hE => cookieRead_any h s W hE (by omega) (by omega))
  have RR := hide (fun W => refRead7_any h s W (by omega) (by omega))
  have CT := hide (fun W => cookieText_any nm dom way o sec htt same W (by omega))
  have RT := hide (fun W => refText7_any nm dom way o sec htt same W (by omega))
  simp only [ckV, ckA] at CR RR
  simp only [ckIn] at CT RT
  generalize (cookieS h s).getD zeroC = d at *
  generalize (cookieS h s).isSome = ok at *
  generalize textC dom way sec htt same = tx at *
  have IF : Hid ((Tryd.prog.info? 23).map (·.size) = some (cells7 d).length) := by unfold Hid; kernel_rfl
  have IF2 : Hid ((Tryd.prog.info? 23).map (·.size) = some (cellsI nm o dom way sec htt same).length) := by unfold Hid; kernel_rfl
  clear a1 a2 a3 h1 h2 h3 h4
  go_enter Tryd.func3, Tryd.ntmps3
  go_wp2_with fail
  have R1 := hide (row_new w (cellsI nm o dom way sec htt same) 23)
  have B1 := hide ((Below.refl w.heap.size w).alloc (Nat.le_refl _) (Obj.cells #[.string nm, .int .i64 o, .string ⟨dom.toArray⟩, .string ⟨way.toArray⟩, .bool sec, .bool htt, .int .i64 same] 23))
  refine (CR.out _ (HE.out.keep B1.out)).mono ?_
  rintro r w2 ⟨rfl, hb2⟩
  have R2 := hide (row_keep R1.out hb2 (by simp))
  have B2 := hide (B1.out.trans (hb2.mono B1.out.size))
  have g2 : w.heap.size < w2.heap.size := by have := hb2.size; simp at this; omega
  clear hb2 R1 B1 CR
  go_wp2_with fail
  have S3 := hide (row_new w2 (cells7 d) 23)
  have R3 := hide (row_keep R2.out ((Below.refl w2.heap.size w2).alloc (Nat.le_refl _) (ckO d)) g2)
  have B3 := hide (B2.out.alloc B2.out.size (ckO d))
  refine (RR.out _).mono ?_
  rintro r w4 ⟨rfl, hb4⟩
  have R4 := hide (row_keep R3.out hb4 (by rw [World.size_alloc]; omega))
  have S4 := hide (row_keep S3.out hb4 (by simp))
  have B4 := hide (B3.out.trans (hb4.mono B3.out.size))
  have g4 : w2.heap.size < w4.heap.size := by have := hb4.size; simp at this; omega
  clear hb4 R2 R3 S3 B2 B3 RR
  go_upto_region 5 with fail
  obtain ⟨W5, hW5⟩ : ∃ W5, W5 = w4.alloc (ckO d) := ⟨_, rfl⟩
  have T5 : Hid (W5.rangeAt w4.heap.size 0 (cells7 d)) := by unfold Hid; rw [hW5]; exact row_new w4 (cells7 d) 23
  have R5 : Hid (W5.rangeAt w.heap.size 0 (cellsI nm o dom way sec htt same)) := by unfold Hid; rw [hW5]; exact row_keep R4.out ((Below.refl w4.heap.size w4).alloc (Nat.le_refl _) (ckO d)) (by omega)
  have S5 : Hid (W5.rangeAt w2.heap.size 0 (cells7 d)) := by unfold Hid; rw [hW5]; exact row_keep S4.out ((Below.refl w4.heap.size w4).alloc (Nat.le_refl _) (ckO d)) g4
  have B5 : Hid (Below w.heap.size w W5) := by unfold Hid; rw [hW5]; exact B4.out.alloc B4.out.size _
  have hs5 : W5.heap.size = w4.heap.size + 1 := by rw [hW5, World.size_alloc]
  unfold ckO at hW5
  rw [← hW5]
  clear hW5 R4 S4 B4
  have c1 := hide (fun d os => Calls.regrown_of (CT.out (Sort.grow (redrawn W5 d) os)))
  have c2 := hide (fun d os => Calls.regrown_of (RT.out (Sort.grow (redrawn W5 d) os)))
  have c3 := hide (fun d os => Calls.regrown_of (XA.out (Sort.grow (redrawn W5 d) os) (B5.out.trans ((below_regrown W5 d os).mono B5.out.size))))
  have Q5 := hide (quiet_row R5.out (by omega))
  have Q6 := hide (quiet_row S5.out (by omega))
  have Q7 := hide (quiet_row T5.out (by omega))
  clear CT RT XA R5 S5 T5
  have k0 : (d.dom == d.dom) = true := by simp
  have k1 : (d.way == d.way) = true := by simp
  have k2 : (tx == tx) = true := by simp
  have k3 : (ok == ok) = true := by simp
  go_wp2_with fail
  refine wp_region_quiet_below (by kernel_rfl) (by kernel_rfl) ?_
  repeat (first
    | (refine wpQuiet_row rfl 23 _ rfl w.heap.size 0 rfl (cellsI nm o dom way sec htt same) _ Q5.out Tryd.underlying23 rfl IF2.out ?_; simp only [cellsI, Act.put, List.setIfInBounds_toArray, List.set_cons_succ, List.set_cons_zero]) | (refine wpQuiet_row rfl 23 _ rfl w2.heap.size 0 rfl (cells7 d) _ Q6.out Tryd.underlying23 rfl IF.out ?_; simp only [cells7, Act.put, List.setIfInBounds_toArray, List.set_cons_succ, List.set_cons_zero]) | (refine wpQuiet_row rfl 23 _ rfl w4.heap.size 0 rfl (cells7 d) _ Q7.out Tryd.underlying23 rfl IF.out ?_; simp only [cells7, Act.put, List.setIfInBounds_toArray, List.set_cons_succ, List.set_cons_zero])
    | (go_big_quiet_step (first | (go_at_call 9; exact c1.out _ _) | (go_at_call 10; exact c2.out _ _) | (go_at_call 6; exact c3.out _ _))))
  refine wpQuiet_nil ?_
  rintro _ ⟨pq, rfl⟩
  have hb6 := below_regrown W5 pq.d pq.os
  generalize Sort.grow (redrawn W5 pq.d) pq.os = w6 at *
  have B6 := hide (B5.out.trans (hb6.mono B5.out.size))
  clear hb6 c1 c2 c3 Q5 Q6 Q7
  go_wp2_with fail
  go_ret
  exact ⟨rfl, B6.out⟩
end Go.Proofs.YtfbalmamhcbojaaDoor
