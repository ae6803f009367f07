/- The walks over moatref10's told, Form, deep. -/
import Derived.Test.YtilfdbkceiejgaaSx6
namespace Go.Proofs.Url
open Syn
theorem formS_pos (f : Fm) : 2 ≤ (formS f).length := by cases f <;> simp [formS] <;> omega
end Go.Proofs.Url
namespace Go.Proofs.Ytilfdbkceiejgaa
open Go.RowKit Go.Proofs.Url Go.Proofs.Url.Syn

set_option maxHeartbeats 1000000 in
theorem form_un (B : Nat) (p : Option Addr) (k nm : List UInt8) (a : Nat) (w : World) (h : NodeAt w B p (.un k nm a)) (hs : (formS (.un k nm a)).length < 4294967281) :
    Calls Try.prog 25 #[.pointer p] w fun e w' => e = .returned (.string ⟨(formS (.un k nm a)).toArray⟩) ∧ w' = w := by
  obtain ⟨n, rfl, hn, c0, c1, c2, c3⟩ := h
  have hl := World.block_lt_of_cell? w _ c0
  clear c2
  cases nm with
  | nil =>
    have hk : k.length < 4294967281 := by simp [formS] at hs; omega
    clear hs
    go_enter Try.func25, Try.ntmps25
    go_wp2_with fail
    go_loop [3, 4] (fun sv iv => sv = .string ⟨(40 :: k).toArray⟩ ∧ iv = .int .i64 0) (fun _ _ => 0)
    case atStart => exact ⟨congrArg Value.string (dataEq (by simp)), rfl⟩
    case round =>
      obtain ⟨rfl, rfl⟩ := hrel
      go_wp2_with fail
      go_ret
      exact ⟨congrArg Ending.returned (congrArg Value.string (dataEq (by simp [formS]))), rfl⟩
  | cons c r =>
    have hk : k.length + (r.length + 1) < 4294967281 := by simp [formS] at hs; omega
    clear hs
    go_enter Try.func25, Try.ntmps25
    go_wp2_with fail
    go_loop [3, 4] (fun sv iv => sv = .string ⟨(40 :: k).toArray⟩ ∧ iv = .int .i64 0) (fun _ _ => 0)
    case atStart => exact ⟨congrArg Value.string (dataEq (by simp)), rfl⟩
    case round =>
      obtain ⟨rfl, rfl⟩ := hrel
      go_wp2_with fail
      go_ret
      exact ⟨congrArg Ending.returned (congrArg Value.string (dataEq (by simp [formS]))), rfl⟩

/-- What Form answers. -/
def FormOk (w : World) (p : Option Addr) (f : Fm) : Prop := Calls Try.prog 25 #[.pointer p] w fun e w' => e = .returned (.string ⟨(formS f).toArray⟩) ∧ w' = w
set_option maxHeartbeats 1000000 in
theorem form_no (B : Nat) (p : Option Addr) (x : Fm) (w : World) (h : NodeAt w B p (.no x)) (hs : (formS (.no x)).length < 4294967281)
    (ih : ∀ p, NodeAt w B p x → FormOk w p x) : FormOk w p (.no x) := by
  obtain ⟨n, m, q, rfl, hn, hm, c0, c1, c3, d0, hx⟩ := h
  have hl := World.block_lt_of_cell? w _ c0
  have hl2 := World.block_lt_of_cell? w _ d0
  have HI : Hid (FormOk w q x) := ih q hx
  have hk : (formS x).length < 4294967281 := by simp [formS] at hs; omega
  have HS : Hid (formS (.no x) = 40 :: (w_not_ ++ 32 :: formS x ++ [41])) := rfl
  unfold FormOk at HI ⊢
  generalize formS x = fx at *
  clear ih hx hs
  go_enter Try.func25, Try.ntmps25
  go_wp2_with fail
  go_loop [3, 4] (fun sv iv => ∃ j : Nat, j ≤ 1 ∧ iv = .int .i64 j ∧ sv = .string ⟨([40 :: w_not_, 40 :: (w_not_ ++ 32 :: fx)].getD j []).toArray⟩) (fun _ iv => 1 - (intOf iv).toNat)
  case atStart => exact ⟨0, by omega, rfl, congrArg Value.string (dataEq (by simp))⟩
  case round =>
    obtain ⟨j, hj, rfl, rfl⟩ := hrel
    rcases (by omega : j = 0 ∨ j = 1) with rfl | rfl
    · go_wp2_with fail
      refine HI.out.mono ?_
      rintro e w' ⟨rfl, hw'⟩
      rw [hw']
      go_wp2_with fail
      go_round
      case rel => exact ⟨1, by omega, rfl, congrArg Value.string (dataEq (by simp))⟩
      case measure => simp [intOf]
    · go_wp2_with fail
      go_ret
      rw [HS.out]
      exact ⟨congrArg Ending.returned (congrArg Value.string (dataEq (by simp))), rfl⟩
set_option maxHeartbeats 1000000 in
theorem form_both (B : Nat) (p : Option Addr) (k : List UInt8) (x y : Fm) (w : World) (h : NodeAt w B p (.both k x y)) (hs : (formS (.both k x y)).length < 4294967281)
    (ih : ∀ p, NodeAt w B p x → FormOk w p x) (ih2 : ∀ p, NodeAt w B p y → FormOk w p y) : FormOk w p (.both k x y) := by
  obtain ⟨n, m, q, u, rfl, hn, hm, c0, c1, c3, d0, d1, hx, hy⟩ := h
  have hl := World.block_lt_of_cell? w _ c0
  have hl2 := World.block_lt_of_cell? w _ d0
  have HI : Hid (FormOk w q x) := ih q hx
  have HI2 : Hid (FormOk w u y) := ih2 u hy
  have hk : k.length + (formS x).length + (formS y).length < 4294967281 := by simp [formS] at hs; omega
  have HS : Hid (formS (.both k x y) = 40 :: (k ++ 32 :: formS x ++ 32 :: formS y ++ [41])) := rfl
  unfold FormOk at HI HI2 ⊢
  generalize formS x = fx at *
  generalize formS y = fy at *
  clear ih hx hs ih2 hy
  go_enter Try.func25, Try.ntmps25
  go_wp2_with fail
  go_loop [3, 4] (fun sv iv => ∃ j : Nat, j ≤ 2 ∧ iv = .int .i64 j ∧ sv = .string ⟨([40 :: k, 40 :: (k ++ 32 :: fx), 40 :: (k ++ 32 :: fx ++ 32 :: fy)].getD j []).toArray⟩) (fun _ iv => 2 - (intOf iv).toNat)
  case atStart => exact ⟨0, by omega, rfl, congrArg Value.string (dataEq (by simp))⟩
  case round =>
    obtain ⟨j, hj, rfl, rfl⟩ := hrel
    rcases (by omega : j = 0 ∨ j = 1 ∨ j = 2) with rfl | rfl | rfl
    · go_wp2_with fail
      refine HI.out.mono ?_
      rintro e w' ⟨rfl, hw'⟩
      rw [hw']
      go_wp2_with fail
      go_round
      case rel => exact ⟨1, by omega, rfl, congrArg Value.string (dataEq (by simp))⟩
      case measure => simp [intOf]
    · go_wp2_with fail
      refine HI2.out.mono ?_
      rintro e w' ⟨rfl, hw'⟩
      rw [hw']
      go_wp2_with fail
      go_round
      case rel => exact ⟨2, by omega, rfl, congrArg Value.string (dataEq (by simp))⟩
      case measure => simp [intOf]
    · go_wp2_with fail
      go_ret
      rw [HS.out]
      exact ⟨congrArg Ending.returned (congrArg Value.string (dataEq (by simp))), rfl⟩
theorem form_any (B : Nat) (w : World) : ∀ (f : Fm) (p : Option Addr), NodeAt w B p f → (formS f).length < 4294967281 → FormOk w p f
  | .un k nm a, p, h, hs => form_un B p k nm a w h hs
  | .no x, p, h, hs => form_no B p x w h hs (fun q hq => form_any B w x q hq (by simp [formS] at hs; omega))
  | .both k x y, p, h, hs => form_both B p k x y w h hs (fun q hq => form_any B w x q hq (by simp [formS] at hs; omega)) (fun q hq => form_any B w y q hq (by simp [formS] at hs; omega))
end Go.Proofs.Ytilfdbkceiejgaa
