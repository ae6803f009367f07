/- The walk over moatlaw1.UrlTexts: it answers true, whatever it is handed. -/
import Derived.Test.YtkomggockjeibaaDoorW6
import Derived.Test.YtkomggockjeibaaDoorR4
import Derived.Test.YtkomggockjeibaaDoorPlain5
namespace Go.Proofs.YtkomggockjeibaaDoor
open Go.RowKit Go.Proofs.Url

theorem readT_any (l : List UInt8) (w : World) (henv : Env w) (h : l.length < 4294967281) :
    Calls Tryd.prog 9 #[.string ⟨l.toArray⟩] w fun e w' => e = .returned (.tuple #[originV (readS l), .bool (readS l).isSome]) ∧ Below w.heap.size w w' := read_any ⟨l.toArray⟩ w henv (by rw [size_mk]; exact h)
theorem text_len (sch hst : List UInt8) (p : Int) (h1 : sch.length ≤ 200) (h2 : hst.length ≤ 200) : (textS sch hst p).length < 1000 := by
  unfold textS
  split
  · simp
  · rename_i h
    have hp : 1 ≤ p ∧ p ≤ 65535 := by
      by_cases e : 1 ≤ p ∧ p ≤ 65535
      · exact e
      · exact absurd (.inr (.inr e)) h
    have hd := dec_len 4 p.toNat (by omega)
    split
    · simp [slashes]; omega
    · simp [slashes]; omega

set_option maxHeartbeats 1000000 in
set_option maxRecDepth 100000 in
theorem urlTexts_walk (a1 a2 a3 b1 b2 b3 : List UInt8) (m n : Int) (w : World) (henv : Env w) (ha1 : a1.length ≤ 140737488355328) (ha2 : a2.length ≤ 140737488355328) (ha3 : a3.length ≤ 140737488355328) (hb2 : b2.length ≤ 140737488355328) (hb3 : b3.length ≤ 140737488355328) :
    Calls Tryd.prog 4 #[.agg #[.string ⟨a1.toArray⟩, .string ⟨a2.toArray⟩, .string ⟨a3.toArray⟩, .int .i64 m], .agg #[.string ⟨b1.toArray⟩, .string ⟨b2.toArray⟩, .string ⟨b3.toArray⟩, .int .i64 n]] w
      fun e w' => e = .returned (.bool true) ∧ Below w.heap.size w w' := by
  by_cases h200 : 200 < (a1.length : Int) + a2.length + a3.length + b3.length + b2.length
  · go_enter Tryd.func4, Tryd.ntmps4
    go_wp2_with fail
    refine (awake_any _ ((henv.alloc _).alloc _)).mono ?_
    rintro e w1 ⟨rfl, hb1⟩
    have B1 : Hid (Below w.heap.size w w1) := (((Below.refl _ _).alloc (Nat.le_refl _) _).alloc (by simp) _).trans (hb1.mono (by simp; omega))
    clear hb1
    go_wp2_with fail
    go_ret
    exact ⟨rfl, B1.out⟩
  have T1 := hide (fun W (h : Env W) => text_any a1 a2 a3 m W h (by omega) (by omega))
  have T2 := hide (fun W => refText_any a1 a2 a3 m W (by omega) (by omega))
  have htl := text_len a2 a3 m (by omega) (by omega)
  have HC := hide (text_cases a2 a3 m)
  have HRd := hide (fun W (h : Env W) => readT_any (textS a2 a3 m) W h (by omega))
  generalize textS a2 a3 m = tx at *
  have S1 := hide (fun W => same_any ⟨a1.toArray⟩ ⟨a2.toArray⟩ ⟨a3.toArray⟩ ⟨b1.toArray⟩ ⟨b2.toArray⟩ ⟨b3.toArray⟩ m n W)
  have S2 := hide (fun W => refSame_any ⟨a1.toArray⟩ ⟨a2.toArray⟩ ⟨a3.toArray⟩ ⟨b1.toArray⟩ ⟨b2.toArray⟩ ⟨b3.toArray⟩ m n W)
  generalize decide ((⟨a2.toArray⟩ : ByteArray).data.toList = (⟨b2.toArray⟩ : ByteArray).data.toList ∧ (⟨a3.toArray⟩ : ByteArray).data.toList = (⟨b3.toArray⟩ : ByteArray).data.toList ∧ m = n) = sm at *
  go_enter Tryd.func4, Tryd.ntmps4
  go_wp2_with fail
  refine (T1.out _ ((henv.alloc _).alloc _)).mono ?_
  rintro e w1 ⟨rfl, hb1⟩
  obtain ⟨hc, hf⟩ := bcell hb1
  have hz : w.heap.size + 1 < w1.heap.size := by have := hb1.size; simp at this; omega
  have hz0 : w.heap.size < w1.heap.size := by omega
  have E1 := hide (((henv.alloc _).alloc _).keep hb1)
  have B1 : Hid (Below w.heap.size w w1) := (((Below.refl _ _).alloc (Nat.le_refl _) _).alloc (by simp) _).trans (hb1.mono (by simp; omega))
  have j0 : w1.cell? ⟨w.heap.size, 0, none⟩ = some (.string ⟨a1.toArray⟩) := by rw [hc _ _ (by simp; omega)]; simp
  have j1 : w1.cell? ⟨w.heap.size, 1, none⟩ = some (.string ⟨a2.toArray⟩) := by rw [hc _ _ (by simp; omega)]; simp
  have j2 : w1.cell? ⟨w.heap.size, 2, none⟩ = some (.string ⟨a3.toArray⟩) := by rw [hc _ _ (by simp; omega)]; simp
  have j3 : w1.cell? ⟨w.heap.size, 3, none⟩ = some (.int .i64 m) := by rw [hc _ _ (by simp; omega)]; simp
  have i0 : w1.cell? ⟨w.heap.size + 1, 0, none⟩ = some (.string ⟨b1.toArray⟩) := by rw [hc _ _ (by simp)]; simp
  have i1 : w1.cell? ⟨w.heap.size + 1, 1, none⟩ = some (.string ⟨b2.toArray⟩) := by rw [hc _ _ (by simp)]; simp
  have i2 : w1.cell? ⟨w.heap.size + 1, 2, none⟩ = some (.string ⟨b3.toArray⟩) := by rw [hc _ _ (by simp)]; simp
  have i3 : w1.cell? ⟨w.heap.size + 1, 3, none⟩ = some (.int .i64 n) := by rw [hc _ _ (by simp)]; simp
  have f0 : w1.frozen? ⟨w.heap.size, 0, none⟩ = false := by rw [hf _ _ (by simp; omega)]; simp
  clear hb1 hc hf
  have jj0 := cell_regrown j0
  have jj1 := cell_regrown j1
  have jj2 := cell_regrown j2
  have jj3 := cell_regrown j3
  have ii0 := cell_regrown i0
  have ii1 := cell_regrown i1
  have ii2 := cell_regrown i2
  have ii3 := cell_regrown i3
  have cT := fun d os => Calls.regrown_of (T2.out (Sort.grow (redrawn w1 d) os))
  have cS := fun d os => Calls.regrown_of (S1.out (Sort.grow (redrawn w1 d) os))
  have cR := fun d os => Calls.regrown_of (S2.out (Sort.grow (redrawn w1 d) os))
  have CT := hide cT
  have CS := hide cS
  have CR := hide cR
  clear cT cS cR
  go_wp2_with fail
  refine wp_region_quiet_below (by kernel_rfl) (by kernel_rfl) ?_
  repeat (quiet_step (first | exact CT.out _ _ | exact CS.out _ _ | exact CR.out _ _))
  refine wpQuiet_nil ?_
  rintro _ ⟨pq, rfl⟩
  have hb2 := below_regrown w1 pq.d pq.os
  have k0 := jj0 pq.d pq.os
  have k1 := jj1 pq.d pq.os
  have k2 := jj2 pq.d pq.os
  have k3 := jj3 pq.d pq.os
  have g0 : (Sort.grow (redrawn w1 pq.d) pq.os).frozen? ⟨w.heap.size, 0, none⟩ = false := by rw [hb2.frozen hz0]; exact f0
  clear jj0 jj1 jj2 jj3 ii0 ii1 ii2 ii3 j0 j1 j2 j3 i0 i1 i2 i3 f0 CT CS CR T1 T2 S1 S2
  generalize Sort.grow (redrawn w1 pq.d) pq.os = w2 at *
  have E2 := hide (E1.out.keep hb2)
  have B2 : Hid (Below w.heap.size w w2) := B1.out.trans (hb2.mono (by omega))
  have hz2 : w.heap.size < w2.heap.size := by have := hb2.size; omega
  have s2 := B2.out.size
  clear hb2 hz hz0
  rcases HC.out with hT | ⟨hT, hR⟩
  · subst hT
    clear HC HRd
    go_wp2_with fail
    refine (awake_any _ E2.out).mono ?_
    rintro e w3 ⟨rfl, hb3⟩
    have B3 : Hid (Below w.heap.size w w3) := B2.out.trans (hb3.mono B2.out.size)
    clear hb3
    go_wp2_with fail
    go_ret
    exact ⟨rfl, B3.out⟩
  · have hte : tx.isEmpty = false := by simpa using hT
    have HQ := HRd.out
    rw [hR] at HQ
    have HQ' := hide HQ
    clear HC HRd HQ hT hR
    go_wp2_with fail
    refine (HQ'.out _ E2.out).mono ?_
    rintro e w3 ⟨rfl, hb3⟩
    obtain ⟨hc3, hf3⟩ := bcell hb3
    have E3 := hide (E2.out.keep hb3)
    have B3 : Hid (Below w.heap.size w w3) := B2.out.trans (hb3.mono B2.out.size)
    have hz3 : w.heap.size < w3.heap.size := by have := hb3.size; omega
    have l0 : w3.cell? ⟨w.heap.size, 0, none⟩ = some (.string ⟨a1.toArray⟩) := by rw [hc3 _ _ hz2]; exact k0
    have l1 : w3.cell? ⟨w.heap.size, 1, none⟩ = some (.string ⟨a2.toArray⟩) := by rw [hc3 _ _ hz2]; exact k1
    have l2 : w3.cell? ⟨w.heap.size, 2, none⟩ = some (.string ⟨a3.toArray⟩) := by rw [hc3 _ _ hz2]; exact k2
    have l3 : w3.cell? ⟨w.heap.size, 3, none⟩ = some (.int .i64 m) := by rw [hc3 _ _ hz2]; exact k3
    have gf : w3.frozen? ⟨w.heap.size, 0, none⟩ = false := by rw [hf3 _ _ hz2]; exact g0
    clear hb3 hc3 hf3 k0 k1 k2 k3 g0
    simp only [originV, Option.isSome]
    have s3 := B3.out.size
    have BS : Hid (∀ v o, Below w.heap.size w ((w3.setCell ⟨w.heap.size, 0, none⟩ v).alloc o)) := fun v o => (B3.out.setCell (p := ⟨w.heap.size, 0, none⟩) (Nat.le_refl _) v).alloc (by simpa using s3) o
    go_wp2_with fail
    refine (awake_any _ (henv.keep (BS.out _ _))).mono ?_
    rintro e w4 ⟨rfl, hb4⟩
    have B4 : Hid (Below w.heap.size w w4) := (BS.out _ _).trans (hb4.mono (BS.out _ _).size)
    clear hb4
    go_wp2_with fail
    go_ret
    exact ⟨rfl, B4.out⟩
end Go.Proofs.YtkomggockjeibaaDoor
