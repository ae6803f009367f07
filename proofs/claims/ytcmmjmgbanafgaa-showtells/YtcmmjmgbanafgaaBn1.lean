import Derived.Test.YtcmmjmgbanafgaaSx6
import Derived.Test.YtcmmjmgbanafgaaSx5
import Derived.Test.YtcmmjmgbanafgaaSx13
import Derived.Lib.QuietBelow
import Derived.Deep.DeepCutAuto
/- The walks over moatref10's told, Form, deep. -/
namespace Go.Proofs.Url
open Syn
theorem formS_pos (f : Fm) : 2 ≤ (formS f).length := by cases f <;> simp [formS] <;> omega
end Go.Proofs.Url
namespace Go.Proofs.Ytcmmjmgbanafgaa
open Go.RowKit Go.Proofs.Url Go.Proofs.Url.Syn

set_option maxHeartbeats 1000000 in
theorem form_un (B : Nat) (p : Option Addr) (k nm : List UInt8) (a : Nat) (w : World) (h : NodeAt w B p (.un k nm a)) (hs : (formS (.un k nm a)).length < 4294967281) :
    Calls Try.prog 36 #[.pointer p] w fun e w' => e = .returned (.string ⟨(formS (.un k nm a)).toArray⟩) ∧ w' = w := by
  obtain ⟨n, rfl, hn, c0, c1, c2, c3⟩ := h
  have hl := World.block_lt_of_cell? w _ c0
  clear c2
  cases nm with
  | nil =>
    have hk : k.length < 4294967281 := by simp [formS] at hs; omega
    clear hs
    go_enter Try.func36, Try.ntmps36
    go_wp2_with fail
    go_loop [3, 4] (fun sv iv => sv = .string ⟨(40 :: k).toArray⟩ ∧ iv = .int .i64 0) (fun _ _ => 0)
    case atStart => exact ⟨congrArg Value.string (dataEq (by simp)), rfl⟩
    case round =>
      obtain ⟨rfl, rfl⟩ := hrel
      go_wp2_with fail
      go_ret
      exact ⟨congrArg Ending.returned (congrArg Value.string (dataEq (by simp [formS]))), rfl⟩
  | cons c r =>
    have hk : k.length + (r.length + 1) < 4294967281 := by simp [formS] at hs; omega
    clear hs
    go_enter Try.func36, Try.ntmps36
    go_wp2_with fail
    go_loop [3, 4] (fun sv iv => sv = .string ⟨(40 :: k).toArray⟩ ∧ iv = .int .i64 0) (fun _ _ => 0)
    case atStart => exact ⟨congrArg Value.string (dataEq (by simp)), rfl⟩
    case round =>
      obtain ⟨rfl, rfl⟩ := hrel
      go_wp2_with fail
      go_ret
      exact ⟨congrArg Ending.returned (congrArg Value.string (dataEq (by simp [formS]))), rfl⟩

/-- What Form answers. -/
def FormOk (w : World) (p : Option Addr) (f : Fm) : Prop := Calls Try.prog 36 #[.pointer p] w fun e w' => e = .returned (.string ⟨(formS f).toArray⟩) ∧ w' = w
set_option maxHeartbeats 1000000 in
theorem form_no (B : Nat) (p : Option Addr) (x : Fm) (w : World) (h : NodeAt w B p (.no x)) (hs : (formS (.no x)).length < 4294967281)
    (ih : ∀ p, NodeAt w B p x → FormOk w p x) : FormOk w p (.no x) := by
  obtain ⟨n, m, q, rfl, hn, hm, c0, c1, c3, d0, hx⟩ := h
  have hl := World.block_lt_of_cell? w _ c0
  have hl2 := World.block_lt_of_cell? w _ d0
  have HI : Hid (FormOk w q x) := ih q hx
  have hk : (formS x).length < 4294967281 := by simp [formS] at hs; omega
  have HS : Hid (formS (.no x) = 40 :: (w_not_ ++ 32 :: formS x ++ [41])) := rfl
  unfold FormOk at HI ⊢
  generalize formS x = fx at *
  clear ih hx hs
  go_enter Try.func36, Try.ntmps36
  go_wp2_with fail
  go_loop [3, 4] (fun sv iv => ∃ j : Nat, j ≤ 1 ∧ iv = .int .i64 j ∧ sv = .string ⟨([40 :: w_not_, 40 :: (w_not_ ++ 32 :: fx)].getD j []).toArray⟩) (fun _ iv => 1 - (intOf iv).toNat)
  case atStart => exact ⟨0, by omega, rfl, congrArg Value.string (dataEq (by simp))⟩
  case round =>
    obtain ⟨j, hj, rfl, rfl⟩ := hrel
    rcases (by omega : j = 0 ∨ j = 1) with rfl | rfl
    · go_wp2_with fail
      refine HI.out.mono ?_
      rintro e w' ⟨rfl, hw'⟩
      rw [hw']
      go_wp2_with fail
      go_round
      case rel => exact ⟨1, by omega, rfl, congrArg Value.string (dataEq (by simp))⟩
      case measure => simp [intOf]
    · go_wp2_with fail
      go_ret
      rw [HS.out]
      exact ⟨congrArg Ending.returned (congrArg Value.string (dataEq (by simp))), rfl⟩
set_option maxHeartbeats 1000000 in
theorem form_both (B : Nat) (p : Option Addr) (k : List UInt8) (x y : Fm) (w : World) (h : NodeAt w B p (.both k x y)) (hs : (formS (.both k x y)).length < 4294967281)
    (ih : ∀ p, NodeAt w B p x → FormOk w p x) (ih2 : ∀ p, NodeAt w B p y → FormOk w p y) : FormOk w p (.both k x y) := by
  obtain ⟨n, m, q, u, rfl, hn, hm, c0, c1, c3, d0, d1, hx, hy⟩ := h
  have hl := World.block_lt_of_cell? w _ c0
  have hl2 := World.block_lt_of_cell? w _ d0
  have HI : Hid (FormOk w q x) := ih q hx
  have HI2 : Hid (FormOk w u y) := ih2 u hy
  have hk : k.length + (formS x).length + (formS y).length < 4294967281 := by simp [formS] at hs; omega
  have HS : Hid (formS (.both k x y) = 40 :: (k ++ 32 :: formS x ++ 32 :: formS y ++ [41])) := rfl
  unfold FormOk at HI HI2 ⊢
  generalize formS x = fx at *
  generalize formS y = fy at *
  clear ih hx hs ih2 hy
  go_enter Try.func36, Try.ntmps36
  go_wp2_with fail
  go_loop [3, 4] (fun sv iv => ∃ j : Nat, j ≤ 2 ∧ iv = .int .i64 j ∧ sv = .string ⟨([40 :: k, 40 :: (k ++ 32 :: fx), 40 :: (k ++ 32 :: fx ++ 32 :: fy)].getD j []).toArray⟩) (fun _ iv => 2 - (intOf iv).toNat)
  case atStart => exact ⟨0, by omega, rfl, congrArg Value.string (dataEq (by simp))⟩
  case round =>
    obtain ⟨j, hj, rfl, rfl⟩ := hrel
    rcases (by omega : j = 0 ∨ j = 1 ∨ j = 2) with rfl | rfl | rfl
    · go_wp2_with fail
      refine HI.out.mono ?_
      rintro e w' ⟨rfl, hw'⟩
      rw [hw']
      go_wp2_with fail
      go_round
      case rel => exact ⟨1, by omega, rfl, congrArg Value.string (dataEq (by simp))⟩
      case measure => simp [intOf]
    · go_wp2_with fail
      refine HI2.out.mono ?_
      rintro e w' ⟨rfl, hw'⟩
      rw [hw']
      go_wp2_with fail
      go_round
      case rel => exact ⟨2, by omega, rfl, congrArg Value.string (dataEq (by simp))⟩
      case measure => simp [intOf]
    · go_wp2_with fail
      go_ret
      rw [HS.out]
      exact ⟨congrArg Ending.returned (congrArg Value.string (dataEq (by simp))), rfl⟩
theorem form_any (B : Nat) (w : World) : ∀ (f : Fm) (p : Option Addr), NodeAt w B p f → (formS f).length < 4294967281 → FormOk w p f
  | .un k nm a, p, h, hs => form_un B p k nm a w h hs
  | .no x, p, h, hs => form_no B p x w h hs (fun q hq => form_any B w x q hq (by simp [formS] at hs; omega))
  | .both k x y, p, h, hs => form_both B p k x y w h hs (fun q hq => form_any B w x q hq (by simp [formS] at hs; omega)) (fun q hq => form_any B w y q hq (by simp [formS] at hs; omega))
end Go.Proofs.Ytcmmjmgbanafgaa

/- The walks over moatref10's told, deep. -/
namespace Go.Proofs.Ytcmmjmgbanafgaa
open Go.RowKit Go.Proofs.Url Go.Proofs.Url.Syn

set_option maxHeartbeats 1000000 in
theorem told_any (t : Tk) (w : World) (hs : (toldS t).length < 4294967281) :
    Calls Try.prog 37 #[tokV t] w fun e w' => e = .returned (.string ⟨(toldS t).toArray⟩) ∧ Below w.heap.size w w' := by
  have B0 := hide (fun o => (Below.refl w.heap.size w).alloc (Nat.le_refl _) o)
  unfold tokV
  unfold toldS at hs ⊢
  by_cases h0 : t.kind = 0
  · clear hs
    rw [if_pos h0, h0]
    go_enter Try.func37, Try.ntmps37
    go_wp2_with fail
    go_ret
    exact ⟨rfl, B0.out _⟩
  · rw [if_neg h0]
    have b0 : ((t.kind : Int) == 0) = false := beq_eq_false_iff_ne.2 (by omega)
    by_cases h3 : t.kind = 3
    · rw [if_neg h0, if_pos h3] at hs
      rw [if_pos h3]
      have ht : t.text.length < 4294967281 := by simp at hs; omega
      clear hs
      rw [h3] at b0 ⊢
      clear h0 h3
      go_enter Try.func37, Try.ntmps37
      go_wp2_with fail
      go_ret
      exact ⟨congrArg Ending.returned (congrArg Value.string (dataEq (by simp))), B0.out _⟩
    · rw [if_neg h0, if_neg h3] at hs
      rw [if_neg h3]
      have ht : t.text.length < 4294967281 := by simp at hs; omega
      clear hs
      have b3 : ((t.kind : Int) == 3) = false := beq_eq_false_iff_ne.2 (by omega)
      clear h0 h3
      go_enter Try.func37, Try.ntmps37
      go_wp2_with fail
      go_ret
      exact ⟨congrArg Ending.returned (congrArg Value.string (dataEq (by simp))), B0.out _⟩

/-- How deep, from a place on. -/
theorem deepF_le : ∀ (l : List UInt8) (n m : Int), m ≤ deepF n m l
  | [], _, m => Int.le_refl m
  | c :: r, n, m => by unfold deepF; exact Int.le_trans (by omega) (deepF_le r _ _)
set_option maxHeartbeats 2000000 in
theorem deep_any (s : List UInt8) (w : World) (hs : s.length < 4294967281) :
    Calls Try.prog 35 #[.string ⟨s.toArray⟩] w fun e w' => e = .returned (.int .i64 (deepS s)) ∧ w' = w := by
  go_enter Try.func35, Try.ntmps35
  go_wp2_with fail
  go_loop [3, 4, 5] (fun nv mv iv => ∃ (i : Nat) (n m : Int), i ≤ s.length ∧ nv = .int .i64 n ∧ mv = .int .i64 m ∧ iv = .int .i64 i ∧ -(i : Int) ≤ n ∧ n ≤ i ∧ 0 ≤ m ∧ m ≤ i ∧ Hid (deepS s = deepF n m (s.drop i))) (fun _ _ iv => s.length - (intOf iv).toNat)
  case atStart => exact ⟨0, 0, 0, Nat.zero_le _, rfl, rfl, rfl, by omega, by omega, by omega, by omega, rfl⟩
  case round =>
    obtain ⟨i, n, m, hi, rfl, rfl, rfl, a1, a2, a3, a4, hE⟩ := hrel
    by_cases hlt : i < s.length
    · have hlI : (i : Int) < (s.length : Int) := by omega
      have hiB : i < (⟨s.toArray⟩ : ByteArray).size := by rw [size_mk]; exact hlt
      have hc : (⟨s.toArray⟩ : ByteArray)[i].toNat < 256 := (⟨s.toArray⟩ : ByteArray)[i].toNat_lt
      have hE2 : Hid (deepS s = deepF (if (⟨s.toArray⟩ : ByteArray)[i] = 40 then n + 1 else if (⟨s.toArray⟩ : ByteArray)[i] = 41 then n - 1 else n) (max m (if (⟨s.toArray⟩ : ByteArray)[i] = 40 then n + 1 else if (⟨s.toArray⟩ : ByteArray)[i] = 41 then n - 1 else n)) (s.drop (i + 1))) := by
        unfold Hid; rw [hE.out, drop_at s i hiB, deepF]
      by_cases h40 : (⟨s.toArray⟩ : ByteArray)[i].toNat = 40
      · have hN : Hid (deepS s = deepF (n + 1) (max m (n + 1)) (s.drop (i + 1))) := by
          unfold Hid; rw [hE2.out, if_pos (UInt8.toNat_inj.1 h40)]
        clear hE hE2
        go_wp2_with fail
        all_goals go_round
        all_goals (first
          | (case rel => exact ⟨i + 1, n + 1, max m (n + 1), by omega, rfl, by first | rfl | (congr 1; omega), by go_num, by omega, by omega, by omega, by omega, hN⟩)
          | skip)
        all_goals (case measure => simp [intOf]; omega)
      · have b40 : (((⟨s.toArray⟩ : ByteArray)[i].toNat : Int) == 40) = false := beq_eq_false_iff_ne.2 (by omega)
        have n40 : ¬ (⟨s.toArray⟩ : ByteArray)[i] = 40 := fun e => h40 (by rw [e]; rfl)
        by_cases h41 : (⟨s.toArray⟩ : ByteArray)[i].toNat = 41
        · have hN : Hid (deepS s = deepF (n - 1) (max m (n - 1)) (s.drop (i + 1))) := by
            unfold Hid; rw [hE2.out, if_neg n40, if_pos (UInt8.toNat_inj.1 h41)]
          clear hE hE2 n40
          go_wp2_with fail
          all_goals go_round
          all_goals (first
            | (case rel => exact ⟨i + 1, n - 1, max m (n - 1), by omega, rfl, by first | rfl | (congr 1; omega), by go_num, by omega, by omega, by omega, by omega, hN⟩)
            | skip)
          all_goals (case measure => simp [intOf]; omega)
        · have b41 : (((⟨s.toArray⟩ : ByteArray)[i].toNat : Int) == 41) = false := beq_eq_false_iff_ne.2 (by omega)
          have n41 : ¬ (⟨s.toArray⟩ : ByteArray)[i] = 41 := fun e => h41 (by rw [e]; rfl)
          have hN : Hid (deepS s = deepF n (max m n) (s.drop (i + 1))) := by
            unfold Hid; rw [hE2.out, if_neg n40, if_neg n41]
          clear hE hE2 n40 n41
          go_wp2_with fail
          all_goals go_round
          all_goals (first
            | (case rel => exact ⟨i + 1, n, max m n, by omega, rfl, by first | rfl | (congr 1; omega), by go_num, by omega, by omega, by omega, by omega, hN⟩)
            | skip)
          all_goals (case measure => simp [intOf]; omega)
    · have hN : Hid (deepS s = m) := by unfold Hid; rw [hE.out, List.drop_eq_nil_of_le (by omega), deepF]
      go_wp2_with fail
      go_ret
      exact ⟨by rw [hN.out]; rfl, rfl⟩
end Go.Proofs.Ytcmmjmgbanafgaa

/- The walk over moatref10's Line. -/
namespace Go.Proofs.Ytcmmjmgbanafgaa
open Go.RowKit Go.Proofs.Url Go.Proofs.Url.Syn
open Go.Sort (grow)

theorem told_grown (t : Tk) (w : World) (hs : (toldS t).length < 4294967281) (d : Nat) (os : Array Obj) :
    Calls Try.prog 37 #[tokV t] (grow (redrawn w d) os) fun e w' => e = .returned (.string ⟨(toldS t).toArray⟩) ∧ ∃ p : Regrown, w' = grow (redrawn w p.d) p.os := Calls.regrown_of (told_any t _ hs)
theorem flatMap_take_le (f : Atr → List UInt8) (l : List Atr) (i : Nat) (h : i < l.length) : ((l.take i).flatMap f).length + (f l[i]).length ≤ (l.flatMap f).length := by
  have e : l.flatMap f = (l.take i).flatMap f ++ (f l[i] ++ (l.drop (i + 1)).flatMap f) := by
    rw [← List.flatMap_cons, ← List.drop_eq_getElem_cons h, ← List.flatMap_append, List.take_append_drop]
  rw [e]; simp
theorem attrs_length : ∀ (l : List Atr), l.length ≤ (l.flatMap attrS).length
  | [] => Nat.le_refl _
  | a :: r => by
    have := attrs_length r
    rw [List.flatMap_cons, List.length_append, List.length_cons]
    have : 1 ≤ (attrS a).length := by simp [attrS]
    omega
end Go.Proofs.Ytcmmjmgbanafgaa
