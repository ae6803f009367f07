/- The walk over moatlaw7.CookieRounds (text by make/l23.py). -/
import Derived.Test.YtfbalmamhcbojaaDoorY9
import Derived.Test.YtfbalmamhcbojaaDoorEqn
import Derived.Test.YtfbalmamhcbojaaDoorReg
import Derived.Test.YtfbalmamhcbojaaDoorStep
import Derived.BigRegion
namespace Go.Proofs.YtfbalmamhcbojaaDoor
open Go.RowKit Go.Proofs.Url

theorem below_new (w : World) (ob : Obj) : Below w.heap.size w (w.alloc ob) := (Below.refl _ _).alloc (Nat.le_refl _) ob
theorem below_drew (w : World) : Below w.heap.size w (w.drew) := (Below.refl _ _).drew
theorem some_of {o : Option Value} {b : Bool} (h : o.getD undef = .bool b) : o = some (.bool b) := by
  cases o with
  | none => exact absurd h (by simp [undef])
  | some v => rw [show v = .bool b from h]
theorem doms3_at (s : Nat) (h : s < 3) : [Value.string ⟨#[]⟩, .string ⟨#[98, 46, 116, 101, 115, 116]⟩, .string ⟨#[97, 46, 98, 46, 116, 101, 115, 116]⟩][s] = .string ⟨(doms3.getD s []).toArray⟩ := by
  match s, h with
  | 0, _ => rfl
  | 1, _ => rfl
  | 2, _ => rfl
theorem ways3_at (s : Nat) (h : s < 3) : [Value.string ⟨#[47]⟩, .string ⟨#[47, 120]⟩, .string ⟨#[47, 120, 47, 121, 46, 122]⟩][s] = .string ⟨(ways3.getD s []).toArray⟩ := by
  match s, h with
  | 0, _ => rfl
  | 1, _ => rfl
  | 2, _ => rfl
theorem sames4_at (s : Nat) (h : s < 4) : [Value.string ⟨#[]⟩, .string ⟨#[78, 79, 78, 69]⟩, .string ⟨#[108, 97, 120]⟩, .string ⟨#[83, 116, 82, 105, 67, 116]⟩][s] = .string ⟨(sames4.getD s []).toArray⟩ := by
  match s, h with
  | 0, _ => rfl
  | 1, _ => rfl
  | 2, _ => rfl
  | 3, _ => rfl

theorem own_weak {w : World} {base B : Nat} {e : TypeId} {size : Nat} {v : Value} {n : Nat} {xs : List Value} (h : w.ownsRow base e size v n xs) (hB : B ≤ base) : w.ownsRow B e size v n xs := by
  refine ⟨h.1, ?_⟩
  rcases h.2 with hn | ⟨g, cap, cur, hv, hg, rest⟩
  · exact .inl hn
  · exact .inr ⟨g, cap, cur, hv, by omega, rest⟩
def q1 (dm : List UInt8) : List (List UInt8) := if dm.isEmpty then [] else [domEq ++ dm]
def q3 (sec : Bool) : List (List UInt8) := if sec then [SECURE] else []
def q4 (htt : Bool) : List (List UInt8) := if htt then [httponly] else []
theorem texts_of_own {W : World} {B : Nat} {xs : List (List UInt8)} {ao : Option Addr} {cv : Nat} (HO : W.ownsRow B 9 1 (.slice ao xs.length cv) xs.length (xs.map (fun q => Value.string ⟨q.toArray⟩))) :
    (∀ k (h : k < xs.length), ∃ g, ao = some ⟨g, 0, none⟩ ∧ W.cell? ⟨g, k, none⟩ = some (.string ⟨xs[k].toArray⟩)) ∧ xs.length ≤ cv := by
  have hm : xs.map (fun q => Value.string ⟨q.toArray⟩) = (xs.map (fun q => (⟨q.toArray⟩ : ByteArray))).map Value.string := by rw [List.map_map]; rfl
  have hlen : (xs.map (fun q => (⟨q.toArray⟩ : ByteArray))).length = xs.length := List.length_map _
  rw [hm, ← hlen] at HO
  obtain ⟨ao', cap', hv, hcap, hT⟩ := owns_texts HO
  cases hv
  refine ⟨fun k hk => ?_, by omega⟩
  obtain ⟨g, h1, h2⟩ := hT k (by omega)
  exact ⟨g, h1, by simpa using h2⟩
theorem own_two_new (w : World) (x y : List UInt8) : (w.alloc (.cells #[.string ⟨x.toArray⟩, .string ⟨y.toArray⟩] 9)).ownsRow w.heap.size 9 1 (.slice (some ⟨w.heap.size, 0, none⟩) 2 2) 2 ([x, y].map (fun q => Value.string ⟨q.toArray⟩)) :=
  ⟨rfl, .inr ⟨w.heap.size, 2, #[.string ⟨x.toArray⟩, .string ⟨y.toArray⟩], rfl, Nat.le_refl _, by show (w.heap.push _)[w.heap.size]? = _; simp, by decide, by unfold maxLen; omega, rfl, rfl⟩⟩
/-- The first two parts, laid. -/
theorem parts_new (W : World) (wy sm : List UInt8) :
    (((W.alloc (Obj.cells #[.string ⟨#[]⟩, .string ⟨#[78, 79, 78, 69]⟩, .string ⟨#[108, 97, 120]⟩, .string ⟨#[83, 116, 82, 105, 67, 116]⟩] 9)).alloc (Obj.cells #[.string (⟨#[80, 65, 84, 72, 32, 61, 32]⟩ ++ ⟨wy.toArray⟩), .string (⟨#[115, 97, 109, 101, 115, 105, 116, 101, 61]⟩ ++ ⟨sm.toArray⟩)] 9)).drew).ownsRow W.heap.size 9 1 (.slice (some ⟨W.heap.size + 1, 0, none⟩) [pathEq ++ wy, sameEq ++ sm].length 2) [pathEq ++ wy, sameEq ++ sm].length ([pathEq ++ wy, sameEq ++ sm].map (fun q => Value.string ⟨q.toArray⟩)) ∧
    Below W.heap.size W (((W.alloc (Obj.cells #[.string ⟨#[]⟩, .string ⟨#[78, 79, 78, 69]⟩, .string ⟨#[108, 97, 120]⟩, .string ⟨#[83, 116, 82, 105, 67, 116]⟩] 9)).alloc (Obj.cells #[.string (⟨#[80, 65, 84, 72, 32, 61, 32]⟩ ++ ⟨wy.toArray⟩), .string (⟨#[115, 97, 109, 101, 115, 105, 116, 101, 61]⟩ ++ ⟨sm.toArray⟩)] 9)).drew) := by
  have e1 : (⟨#[80, 65, 84, 72, 32, 61, 32]⟩ : ByteArray) ++ ⟨wy.toArray⟩ = ⟨(pathEq ++ wy).toArray⟩ := mk_append pathEq wy
  have e2 : (⟨#[115, 97, 109, 101, 115, 105, 116, 101, 61]⟩ : ByteArray) ++ ⟨sm.toArray⟩ = ⟨(sameEq ++ sm).toArray⟩ := mk_append sameEq sm
  rw [e1, e2]
  refine ⟨?_, ((Below.refl _ _).alloc (Nat.le_refl _) _).alloc (by rw [World.size_alloc]; omega) _ |>.drew⟩
  have h := owns_drew (own_weak (own_two_new (W.alloc (Obj.cells #[.string ⟨#[]⟩, .string ⟨#[78, 79, 78, 69]⟩, .string ⟨#[108, 97, 120]⟩, .string ⟨#[83, 116, 82, 105, 67, 116]⟩] 9)) (pathEq ++ wy) (sameEq ++ sm)) (B := W.heap.size) (by rw [World.size_alloc]; omega))
  rw [World.size_alloc] at h
  exact h
/-- A text more in a row of the walk's own. -/
theorem own_more {W W2 : World} {B : Nat} {xs : List (List UInt8)} {x : List UInt8} {ao : Option Addr} {cv : Nat} {v' : Value} {ob : Obj} {row : Option Nat} (hBW : B ≤ W.heap.size)
    (HO : Hid (W.ownsRow B 9 1 (.slice ao xs.length cv) xs.length (xs.map (fun q => Value.string ⟨q.toArray⟩))))
    (hown : W2.ownsRow B 9 1 v' (xs.length + 1) (xs.map (fun q => Value.string ⟨q.toArray⟩) ++ [.string ⟨x.toArray⟩])) (hg : (W.alloc ob).grownBy W2 row) (hr : row = (Value.slice ao xs.length cv).ownBlock) :
    ∃ (ao2 : Option Addr) (cv2 : Nat), v' = .slice ao2 (xs ++ [x]).length cv2 ∧ Hid (W2.ownsRow B 9 1 (.slice ao2 (xs ++ [x]).length cv2) (xs ++ [x]).length ((xs ++ [x]).map (fun q => Value.string ⟨q.toArray⟩))) ∧ Hid (Below B W W2) := by
  obtain ⟨ao2, cv2, hv, hO⟩ := texts_roundB hown
  exact ⟨ao2, cv2, hv, hO, Below.trans ((Below.refl _ _).alloc hBW _) (Below.grown (Below.refl _ _) hg (by simp; omega) (fun j hj => owns_base HO.out j (by rw [← hr]; exact hj)))⟩
/-- The cookie that is laid, and what is read of its texts. -/
theorem rounds_all (d p s t : Nat) (hd : d < 3) (hp : p < 3) (hs : s < 3) (ht : t < 5) (b1 b2 : Bool) :
    cookieS hostR (textOf (ckR d p s b1 b2)) = some (ckR d p s b1 b2) ∧ cookieS hostR (turned (ckR d p s b1 b2) t) = some (ckR d p s b1 b2) ∧ cookieS hostR (turned (ckR d p s b1 b2) t ++ twice) = none ∧
    (turned (ckR d p s b1 b2) t).length ≤ 100 ∧ (textOf (ckR d p s b1 b2)).length ≤ 100 ∧ 2 ≤ (partsR (ckR d p s b1 b2)).length ∧ (partsR (ckR d p s b1 b2)).length ≤ 5 ∧ (∀ x ∈ partsR (ckR d p s b1 b2), x.length ≤ 20) := by
  obtain ⟨h1, h2, h3, h4, h5⟩ := rounds_len ⟨d, hd⟩ ⟨p, hp⟩ ⟨s, hs⟩ b1 b2 ⟨t, ht⟩
  refine ⟨sameCk_eq (rounds_text ⟨d, hd⟩ ⟨p, hp⟩ ⟨s, hs⟩ b1 b2), sameCk_eq (rounds_turn ⟨d, hd⟩ ⟨p, hp⟩ ⟨s, hs⟩ b1 b2 ⟨t, ht⟩), ?_, h1, h2, h3, h4, h5⟩
  have := rounds_twice ⟨d, hd⟩ ⟨p, hp⟩ ⟨s, hs⟩ b1 b2 ⟨t, ht⟩
  simpa using this
theorem turn_len (ps : List (List UInt8)) (t : Nat) (h : ∀ x ∈ ps, x.length ≤ 20) : ∀ k, (turnK ps t k).length ≤ 22 * k
  | 0 => by simp [turnK]
  | k + 1 => by
    have ih := turn_len ps t h k
    rw [turnK_succ, List.length_append, List.length_append]
    have : (ps.getD ((k + t) % ps.length) []).length ≤ 20 := by
      rw [List.getD_eq_getElem?_getD]
      cases e : ps[(k + t) % ps.length]? with
      | none => simp
      | some x => exact h x (List.mem_of_getElem? e)
    rw [show semi.length = 2 from rfl]; omega

set_option maxHeartbeats 100000000 in
set_option maxRecDepth 100000 in
theorem cookieRounds_walk (domain path same bt turn : Int) (w : World) (henv : Env w) :
    Calls Tryd.prog 4 #[.int .i64 domain, .int .i64 path, .int .i64 same, .int .i64 bt, .int .i64 turn] w fun r w' => r = .returned (.bool true) ∧ Below w.heap.size w w' := by
  have HE := hide henv
  clear henv
  obtain ⟨d, hd', d3⟩ := low_nat domain 3 (by decide)
  obtain ⟨p, hp', p3⟩ := low_nat path 3 (by decide)
  obtain ⟨s, hs', s3⟩ := low_nat same 3 (by decide)
  have hd : low domain 3 = (d : Int) := hd'
  have hp : low path 3 = (p : Int) := hp'
  have hs : low same 3 = (s : Int) := hs'
  clear hd' hp' hs'
  have jd : (d : Int) < 3 := by omega
  have jp : (p : Int) < 3 := by omega
  have js : (s : Int) < 3 := by omega
  have l1 := doms3_at d d3
  have l2 := ways3_at p p3
  obtain ⟨x1, hx1⟩ : ∃ x, bits .and .i64 bt 1 = x := ⟨_, rfl⟩
  obtain ⟨x2, hx2⟩ : ∃ x, bits .and .i64 bt 2 = x := ⟨_, rfl⟩
  obtain ⟨b2, hy2⟩ : ∃ b, (x2 == 2) = b := ⟨_, rfl⟩
  obtain ⟨dm, hdm⟩ : ∃ dm, dm = doms3.getD d [] := ⟨_, rfl⟩
  obtain ⟨wy, hwy⟩ : ∃ wy, wy = ways3.getD p [] := ⟨_, rfl⟩
  rw [← hdm] at l1
  rw [← hwy] at l2
  have HDM := hide hdm
  have HWY := hide hwy
  clear hdm hwy
  have e1d : ∀ W R, Calls Tryd.prog 11 #[.int .i64 domain, .int .i64 3] W R = R (.returned (.int .i64 (d : Int))) W := fun W R => by rw [lowE3, hd]
  have e1p : ∀ W R, Calls Tryd.prog 11 #[.int .i64 path, .int .i64 3] W R = R (.returned (.int .i64 (p : Int))) W := fun W R => by rw [lowE3, hp]
  have e1s : ∀ W R, Calls Tryd.prog 11 #[.int .i64 same, .int .i64 3] W R = R (.returned (.int .i64 (s : Int))) W := fun W R => by rw [lowE3, hs]
  have hw1 : IntKind.i64.wrap (1 + (s : Int)) = 1 + (s : Int) := by
    have := wrap_i64_small (1 + s) (by omega)
    rwa [show ((1 + s : Nat) : Int) = 1 + (s : Int) by omega] at this
  clear hd hp hs
  go_enter Tryd.func4, Tryd.ntmps4
  go_upto_region 1 with fail
  go_cut [11] (fun v W => ∃ g : Nat, v = .pointer (some ⟨g, 0, none⟩) ∧ w.heap.size ≤ g ∧ Hid (CBox W g ⟨dm, wy, (x1 == 1) || decide (s = 0), b2, 1 + s⟩) ∧ Hid (Below w.heap.size w W))
  case first => as_aux_lemma =>
    clear HE HDM HWY
    obtain ⟨b1, hb1⟩ : ∃ b, b = (x1 == 1) := ⟨_, rfl⟩
    have hy1 : (x1 == 1) = b1 := hb1.symm
    have HB1 : Hid ((x1 == 1) = b1) := hb1.symm
    clear hb1
    obtain ⟨z0, hz0'⟩ : ∃ z, z = decide (s = 0) := ⟨_, rfl⟩
    have hz0 : ((s : Int) == 0) = z0 := by rw [hz0', Bool.eq_iff_iff]; simp
    have HZ0 := hide hz0'
    clear hz0'
    refine wp_region_posts_last (l := [_, _, _, _, _, _, _, _, _, _, _, _, _, _, _, _, _, _, _, _, _, _, _, _, _, _]) (ol := _) rfl (by kernel_rfl) (fun W => Below w.heap.size w W) (fun W W' => Below W.heap.size W W')
      [some 21, some 22, some 23, some 24, some 25, some 26, some 27, some 28, some 29, some 30, some 31, some 32, some 33, some 34, some 35, some 36, some 37, some 38, some 39, some 40, some 41, some 42, some 43, some 44, some 45, some 11]
      [[], [], [1], [0, 2], [3], [], [], [6], [5, 7], [8], [], [10], [11], [], [13], [14], [15], [16], [16, 17], [16, 18], [16, 19], [], [21], [22], [4, 9, 12, 20, 23], [], [0, 1, 2, 3, 4, 5, 6, 7, 8, 9, 10, 11, 12, 13, 14, 15, 16, 17, 18, 19, 20, 21, 22, 23, 24, 25]]
      [fun v W => ∃ b : Nat, v = .slice (some ⟨b, 0, none⟩) 3 3 ∧ W.cell? ⟨b, d, none⟩ = some (.string ⟨dm.toArray⟩),
   fun v _ => v = .int .i64 domain,
   fun v _ => v = .int .i64 (d : Int),
   fun v W => ∃ b : Nat, v = .pointer (some ⟨b, d, none⟩) ∧ W.cell? ⟨b, d, none⟩ = some (.string ⟨dm.toArray⟩),
   fun v _ => v = .string ⟨dm.toArray⟩,
   fun v W => ∃ b : Nat, v = .slice (some ⟨b, 0, none⟩) 3 3 ∧ W.cell? ⟨b, p, none⟩ = some (.string ⟨wy.toArray⟩),
   fun v _ => v = .int .i64 path,
   fun v _ => v = .int .i64 (p : Int),
   fun v W => ∃ b : Nat, v = .pointer (some ⟨b, p, none⟩) ∧ W.cell? ⟨b, p, none⟩ = some (.string ⟨wy.toArray⟩),
   fun v _ => v = .string ⟨wy.toArray⟩,
   fun v _ => v = .int .i64 same,
   fun v _ => v = .int .i64 (s : Int),
   fun v _ => v = .int .i64 (1 + (s : Int)),
   fun v _ => v = .int .i64 bt,
   fun v _ => v = .int .i64 x1,
   fun v _ => v = .bool b1,
   fun v _ => v = .bool b1,
   fun v _ => b1 = false → v = .int .i64 same,
   fun v _ => b1 = false → v = .int .i64 (s : Int),
   fun v _ => b1 = false → v = .bool z0,
   fun v _ => v = .bool (b1 || z0),
   fun v _ => v = .int .i64 bt,
   fun v _ => v = .int .i64 x2,
   fun v _ => v = .bool b2,
   fun v _ => v = .agg #[.string ⟨#[]⟩, .int .i64 0, .string ⟨dm.toArray⟩, .string ⟨wy.toArray⟩, .bool (b1 || z0), .bool b2, .int .i64 (1 + (s : Int))],
   fun v W => ∃ g : Nat, v = .pointer (some ⟨g, 0, none⟩) ∧ w.heap.size ≤ g ∧ CBox W g zeroC]
      rfl (by kernel_rfl) (by kernel_rfl) (by kernel_rfl) (by kernel_rfl) (by kernel_rfl) rfl rfl ?_ ?_ ?_ ?_
    · refine .cons ?_ (.eq (.eq (.cons ?_ (.eq (.cons ?_ (.eq (.eq (.cons ?_ (.eq (.eq (.eq (.eq (.eq (.eq (.eq (.eq (.cons (fun _ _ _ _ _ h => h) (.cons (fun _ _ _ _ _ h => h) (.cons (fun _ _ _ _ _ h => h) (.eq (.eq (.eq (.eq (.eq (.cons ?_ .nil)))))))))))))))))))))))))
      · exact fun v w w' _ hk ⟨b, h1, h2⟩ => ⟨b, h1, keepc hk h2⟩
      · exact fun v w w' _ hk ⟨b, h1, h2⟩ => ⟨b, h1, keepc hk h2⟩
      · exact fun v w w' _ hk ⟨b, h1, h2⟩ => ⟨b, h1, keepc hk h2⟩
      · exact fun v w w' _ hk ⟨b, h1, h2⟩ => ⟨b, h1, keepc hk h2⟩
      · exact fun v w w' _ hk ⟨g, h1, h2, h3⟩ => ⟨g, h1, h2, h3.keep hk⟩
    · exact below_drew _
    · refine .cons ?_ (.cons ?_ (.cons ?_ (.cons ?_ (.cons ?_ (.cons ?_ (.cons ?_ (.cons ?_ (.cons ?_ (.cons ?_ (.cons ?_ (.cons ?_ (.cons ?_ (.cons ?_ (.cons ?_ (.cons ?_ (.cons ?_ (.cons ?_ (.cons ?_ (.cons ?_ (.cons ?_ (.cons ?_ (.cons ?_ (.cons ?_ (.cons ?_ (.cons ?_ .nil)))))))))))))))))))))))))
      all_goals intro A W hC old nd
      · refine runs_none rfl ?_
        simp [Oper.gives, gives, go_sem]
        exact ⟨hC.alloc hC.size _, below_new _ _, _, rfl, by simp [l1, d3]⟩
      · refine runs_none rfl ?_
        have e1 : (A.tmps[0]?).getD undef = .int .i64 domain := old 0 (by kernel_rfl)
        simp [Oper.gives, gives, go_sem, e1]
        exact ⟨hC, Below.refl _ _, rfl⟩
      · refine runs_none rfl ?_
        have e1 : (A.tmps[22]?).getD undef = .int .i64 domain := nd.1
        simp [Oper.gives, gives, go_sem, e1, e1d]
        exact ⟨hC, Below.refl _ _, rfl⟩
      · refine runs_none rfl ?_
        obtain ⟨⟨b, e1, h1⟩, e2, _⟩ := nd
        replace e1 : (A.tmps[21]?).getD undef = .slice (some ⟨b, 0, none⟩) 3 3 := e1
        replace e2 : (A.tmps[23]?).getD undef = .int .i64 (d : Int) := e2
        simp [Oper.gives, gives, go_sem, e1, e2, jd]
        exact ⟨hC, Below.refl _ _, b, rfl, h1⟩
      · refine runs_none rfl ?_
        obtain ⟨⟨b, e1, h1⟩, _⟩ := nd
        replace e1 : (A.tmps[24]?).getD undef = .pointer (some ⟨b, d, none⟩) := e1
        simp [Oper.gives, gives, go_sem, e1, h1]
        exact ⟨hC, Below.refl _ _, rfl⟩
      · refine runs_none rfl ?_
        simp [Oper.gives, gives, go_sem]
        exact ⟨hC.alloc hC.size _, below_new _ _, _, rfl, by simp [l2, p3]⟩
      · refine runs_none rfl ?_
        have e1 : (A.tmps[1]?).getD undef = .int .i64 path := old 1 (by kernel_rfl)
        simp [Oper.gives, gives, go_sem, e1]
        exact ⟨hC, Below.refl _ _, rfl⟩
      · refine runs_none rfl ?_
        have e1 : (A.tmps[27]?).getD undef = .int .i64 path := nd.1
        simp [Oper.gives, gives, go_sem, e1, e1p]
        exact ⟨hC, Below.refl _ _, rfl⟩
      · refine runs_none rfl ?_
        obtain ⟨⟨b, e1, h1⟩, e2, _⟩ := nd
        replace e1 : (A.tmps[26]?).getD undef = .slice (some ⟨b, 0, none⟩) 3 3 := e1
        replace e2 : (A.tmps[28]?).getD undef = .int .i64 (p : Int) := e2
        simp [Oper.gives, gives, go_sem, e1, e2, jp]
        exact ⟨hC, Below.refl _ _, b, rfl, h1⟩
      · refine runs_none rfl ?_
        obtain ⟨⟨b, e1, h1⟩, _⟩ := nd
        replace e1 : (A.tmps[29]?).getD undef = .pointer (some ⟨b, p, none⟩) := e1
        simp [Oper.gives, gives, go_sem, e1, h1]
        exact ⟨hC, Below.refl _ _, rfl⟩
      · refine runs_none rfl ?_
        have e1 : (A.tmps[2]?).getD undef = .int .i64 same := old 2 (by kernel_rfl)
        simp [Oper.gives, gives, go_sem, e1]
        exact ⟨hC, Below.refl _ _, rfl⟩
      · refine runs_none rfl ?_
        have e1 : (A.tmps[31]?).getD undef = .int .i64 same := nd.1
        simp [Oper.gives, gives, go_sem, e1, e1s]
        exact ⟨hC, Below.refl _ _, rfl⟩
      · refine runs_none rfl ?_
        have e1 : (A.tmps[32]?).getD undef = .int .i64 (s : Int) := nd.1
        simp [Oper.gives, gives, go_sem, e1, hw1]
        exact ⟨hC, Below.refl _ _, rfl⟩
      · refine runs_none rfl ?_
        have e1 : (A.tmps[3]?).getD undef = .int .i64 bt := old 3 (by kernel_rfl)
        simp [Oper.gives, gives, go_sem, e1]
        exact ⟨hC, Below.refl _ _, rfl⟩
      · refine runs_none rfl ?_
        have e1 : (A.tmps[34]?).getD undef = .int .i64 bt := nd.1
        simp [Oper.gives, gives, go_sem, e1, hx1]
        exact ⟨hC, Below.refl _ _, rfl⟩
      · refine runs_none rfl ?_
        have e1 : (A.tmps[35]?).getD undef = .int .i64 x1 := nd.1
        simp [Oper.gives, gives, go_sem, e1, hy1]
        exact ⟨hC, Below.refl _ _, rfl⟩
      · refine runs_none rfl ?_
        have e1 : (A.tmps[36]?).getD undef = .bool b1 := nd.1
        simp [Oper.gives, gives, go_sem, e1]
        exact ⟨hC, Below.refl _ _, rfl⟩
      · obtain ⟨e1, _⟩ := nd
        replace e1 : (A.tmps[37]?).getD undef = .bool b1 := e1
        have e3 := some_of e1
        cases b1 with
        | true => simp [runs, Region.wanted, yielded, e3]
        | false =>
          have e4 : (A.tmps[2]?).getD undef = .int .i64 same := old 2 (by kernel_rfl)
          simp [runs, Region.wanted, yielded, Oper.gives, gives, go_sem, e3, e4]
          exact ⟨hC, Below.refl _ _, rfl⟩
      · obtain ⟨e1, e2⟩ := nd
        replace e1 : (A.tmps[37]?).getD undef = .bool b1 := e1
        have e3 := some_of e1
        cases b1 with
        | true => simp [runs, Region.wanted, yielded, e3]
        | false =>
          have e4 : (A.tmps[38]?).getD undef = .int .i64 same := e2.1 rfl
          simp [runs, Region.wanted, yielded, Oper.gives, gives, go_sem, e3, e4, e1s]
          exact ⟨hC, Below.refl _ _, rfl⟩
      · obtain ⟨e1, e2⟩ := nd
        replace e1 : (A.tmps[37]?).getD undef = .bool b1 := e1
        have e3 := some_of e1
        cases b1 with
        | true => simp [runs, Region.wanted, yielded, e3]
        | false =>
          have e4 : (A.tmps[39]?).getD undef = .int .i64 (s : Int) := e2.1 rfl
          simp [runs, Region.wanted, yielded, Oper.gives, gives, go_sem, e3, e4, hz0]
          exact ⟨hC, Below.refl _ _, rfl⟩
      · refine runs_none rfl ?_
        obtain ⟨e1, e2, _⟩ := nd
        replace e1 : (A.tmps[37]?).getD undef = .bool b1 := e1
        cases b1 with
        | true => simp [Oper.gives, gives, go_sem, e1]; exact ⟨hC, Below.refl _ _, rfl⟩
        | false =>
          replace e2 : (A.tmps[40]?).getD undef = .bool z0 := e2 rfl
          simp [Oper.gives, gives, go_sem, e1, e2]
          exact ⟨hC, Below.refl _ _, rfl⟩
      · refine runs_none rfl ?_
        have e1 : (A.tmps[3]?).getD undef = .int .i64 bt := old 3 (by kernel_rfl)
        simp [Oper.gives, gives, go_sem, e1]
        exact ⟨hC, Below.refl _ _, rfl⟩
      · refine runs_none rfl ?_
        have e1 : (A.tmps[42]?).getD undef = .int .i64 bt := nd.1
        simp [Oper.gives, gives, go_sem, e1, hx2]
        exact ⟨hC, Below.refl _ _, rfl⟩
      · refine runs_none rfl ?_
        have e1 : (A.tmps[43]?).getD undef = .int .i64 x2 := nd.1
        simp [Oper.gives, gives, go_sem, e1, hy2]
        exact ⟨hC, Below.refl _ _, rfl⟩
      · refine runs_none rfl ?_
        obtain ⟨e1, e2, e3, e4, e5, _⟩ := nd
        replace e1 : (A.tmps[25]?).getD undef = .string ⟨dm.toArray⟩ := e1
        replace e2 : (A.tmps[30]?).getD undef = .string ⟨wy.toArray⟩ := e2
        replace e3 : (A.tmps[33]?).getD undef = .int .i64 (1 + (s : Int)) := e3
        replace e4 : (A.tmps[41]?).getD undef = .bool (b1 || z0) := e4
        replace e5 : (A.tmps[44]?).getD undef = .bool b2 := e5
        simp [Oper.gives, gives, go_sem, e1, e2, e3, e4, e5]
        exact ⟨hC, Below.refl _ _, rfl⟩
      · refine runs_none rfl ?_
        simp [Oper.gives, gives, go_sem]
        exact ⟨hC.alloc hC.size _, below_new _ _, _, rfl, hC.size, CBox.new _ _⟩
    · intro W hC E hE
      refine .cons fun v21 h21 => .cons fun v22 h22 => .cons fun v23 h23 => .cons fun v24 h24 => .cons fun v25 h25 => .cons fun v26 h26 => .cons fun v27 h27 => .cons fun v28 h28 => .cons fun v29 h29 => .cons fun v30 h30 => .cons fun v31 h31 => .cons fun v32 h32 => .cons fun v33 h33 => .cons fun v34 h34 => .cons fun v35 h35 => .cons fun v36 h36 => .cons fun v37 h37 => .cons fun v38 h38 => .cons fun v39 h39 => .cons fun v40 h40 => .cons fun v41 h41 => .cons fun v42 h42 => .cons fun v43 h43 => .cons fun v44 h44 => .cons fun v45 h45 => .cons fun v11 h11 => .nil ?_
      obtain ⟨g, rfl, hg, hO⟩ := h11
      subst h45
      clear h21 h22 h23 h24 h25 h26 h27 h28 h29 h30 h31 h32 h33 h34 h35 h36 h37 h38 h39 h40 h41 h42 h43 h44 l1 l2 d3 p3 jd jp hx1 hx2 hy1 hy2 hz0 hw1 e1d e1p e1s
      simp only [Act.put, List.setIfInBounds_toArray, List.set_cons_zero, List.set_cons_succ]
      refine hE _ ?_
      obtain ⟨c0, c1, c2, c3, c4, c5, c6, zf⟩ := id hO
      have f0 := zf 0 (by decide)
      have f1 := zf 1 (by decide)
      have f2 := zf 2 (by decide)
      have f3 := zf 3 (by decide)
      have f4 := zf 4 (by decide)
      have f5 := zf 5 (by decide)
      have f6 := zf 6 (by decide)
      have HP : Hid (CBox _ g (⟨dm, wy, (b1 || z0), b2, 1 + s⟩ : Ck)) := hO.put (⟨dm, wy, (b1 || z0), b2, 1 + s⟩ : Ck)
      have HB := hide (put_below hC g hg (⟨dm, wy, (b1 || z0), b2, 1 + s⟩ : Ck))
      unfold put7 at HP HB
      simp only [show ((1 + s : Nat) : Int) = 1 + (s : Int) by omega] at HP HB
      simp [Oper.gives, gives, go_sem, c0, c1, c2, c3, c4, c5, c6, f0, f1, f2, f3, f4, f5, f6]
      go_wp2_with fail
      go_meet
      case rel => exact ⟨_, rfl, hg, by rw [HB1.out, ← HZ0.out]; exact HP, HB⟩
  case rest =>
  obtain ⟨g, rfl, hwg, HC, HB⟩ := hcut
  obtain ⟨t, ht, t5⟩ := low_nat turn 5 (by decide)
  have hLt : low turn 5 = (t : Int) := ht
  have HLt := hide hLt
  clear ht hLt
  obtain ⟨b1, hb1⟩ : ∃ b, b = (x1 == 1) := ⟨_, rfl⟩
  rw [← hb1] at HC
  obtain ⟨r1, r2, r3, r4, r5, r6, r7, r8⟩ := rounds_all d p s t d3 p3 s3 t5 b1 b2
  have hCK : Hid (ckR d p s b1 b2 = (⟨dm, wy, b1 || decide (s = 0), b2, 1 + s⟩ : Ck)) := by unfold Hid ckR; rw [HDM.out, HWY.out]
  rw [hCK.out] at r1 r2 r3 r4 r5 r6 r7 r8
  have hdl : dm.length ≤ 8 := by
    rw [HDM.out]
    match d, d3 with
    | 0, _ => decide
    | 1, _ => decide
    | 2, _ => decide
  have hwl : wy.length ≤ 8 := by
    rw [HWY.out]
    match p, p3 with
    | 0, _ => decide
    | 1, _ => decide
    | 2, _ => decide
  have hse : (sames4.getD (1 + s) []).length ≤ 6 := by
    match s, s3 with
    | 0, _ => decide
    | 1, _ => decide
    | 2, _ => decide
  generalize (b1 || decide (s = 0)) = sec at *
  obtain ⟨n, hn⟩ : ∃ n, n = 1 + s := ⟨_, rfl⟩
  have n4 : n < 4 := by omega
  rw [← hn] at HC r1 r2 r3 r4 r5 r6 r7 r8 hse
  have lS := sames4_at n n4
  clear hCK HDM HWY hb1 hx1 hx2 hy2 l1 l2 e1d e1p e1s hw1 jd jp js hn d3 p3 s3
  obtain ⟨i0, hi, hz0, hz1, hz2⟩ := info_parts infoS
  have HTx := hide (fun W => cookieText_any ⟨#[]⟩ dm wy 0 sec b2 n W (by omega))
  have X1 := hide (fun W hE => read_some hostR (textOf ⟨dm, wy, sec, b2, n⟩) W hE (by decide) (by omega) r1)
  have X2 := hide (fun W hE => read_some hostR (turned ⟨dm, wy, sec, b2, n⟩ t) W hE (by decide) (by omega) r2)
  have X3 := hide (fun W hE => read_none hostR (turned ⟨dm, wy, sec, b2, n⟩ t ++ twice) W hE (by decide) (by rw [List.length_append]; simp [twice]; omega) r3)
  have XA := hide (fun W hb => awake7_any W (HE.out.keep (w' := W) hb))
  have HTO : Hid (textC dm wy sec b2 n = textOf ⟨dm, wy, sec, b2, n⟩) := rfl
  have HPR : Hid (partsR ⟨dm, wy, sec, b2, n⟩ = [pathEq ++ wy, sameEq ++ sames4.getD n []] ++ (if dm.isEmpty then [] else [domEq ++ dm]) ++ (if sec then [SECURE] else []) ++ (if b2 then [httponly] else [])) := rfl
  have HTU : Hid (turned ⟨dm, wy, sec, b2, n⟩ t = turnK (partsR ⟨dm, wy, sec, b2, n⟩) t (partsR ⟨dm, wy, sec, b2, n⟩).length) := rfl
  unfold ckIn at HTx
  rw [HTO.out] at HTx
  clear r1 r2 r3 HTO r5
  generalize textOf ⟨dm, wy, sec, b2, n⟩ = tx at *
  generalize turned ⟨dm, wy, sec, b2, n⟩ t = tu at *
  generalize partsR ⟨dm, wy, sec, b2, n⟩ = PS at *
  have hgl := HC.out.lt
  obtain ⟨c0, c1, c2, c3, c4, c5, c6, _⟩ := HC.out
  simp only at c2 c3 c4 c5 c6
  go_wp2_with fail
  refine (HTx.out _).mono ?_
  rintro r w2 ⟨rfl, hb2⟩
  have HC2 := hide (HC.out.keep hb2)
  have HB2 := hide (HB.out.trans (hb2.mono HB.out.size))
  clear hb2 HC HB c0 c1 c2 c3 c4 c5 c6 hgl
  go_wp2_with fail
  refine (X1.out _ (HE.out.keep HB2.out)).mono ?_
  rintro r w3 ⟨rfl, hb3⟩
  have HC3 := hide (HC2.out.keep hb3)
  have HB3 := hide (HB2.out.trans (hb3.mono HB2.out.size))
  clear hb3 HC2 HB2 X1 HTx
  have hgl := HC3.out.lt
  obtain ⟨c0, c1, c2, c3, c4, c5, c6, _⟩ := HC3.out
  simp only at c2 c3 c4 c5 c6
  have k0 : (dm == dm) = true := by simp
  have k1 : (wy == wy) = true := by simp
  go_upto_region 5 with fail
  obtain ⟨W4, hW4⟩ : ∃ W, W = w3.alloc (ckO ⟨dm, wy, sec, b2, n⟩) := ⟨_, rfl⟩
  have HC4 : Hid (CBox W4 g ⟨dm, wy, sec, b2, n⟩) := by unfold Hid; rw [hW4]; exact HC3.out.keep ((Below.refl _ _).alloc (Nat.le_refl _) _)
  have HB4 : Hid (Below w.heap.size w W4) := by unfold Hid; rw [hW4]; exact HB3.out.alloc HB3.out.size _
  unfold ckO at hW4
  simp only at hW4
  rw [← hW4]
  clear hW4 HC3 HB3 c0 c1 c2 c3 c4 c5 c6 hgl k0 k1
  have hgl := HC4.out.lt
  obtain ⟨c0, c1, c2, c3, c4, c5, c6, _⟩ := HC4.out
  simp only at c2 c3 c4 c5 c6
  have EQ1 : Hid ((⟨#[80, 65, 84, 72, 32, 61, 32]⟩ : ByteArray) ++ ⟨wy.toArray⟩ = ⟨(pathEq ++ wy).toArray⟩) := mk_append pathEq wy
  have EQ2 : Hid ((⟨#[115, 97, 109, 101, 115, 105, 116, 101, 61]⟩ : ByteArray) ++ ⟨(sames4.getD n []).toArray⟩ = ⟨(sameEq ++ sames4.getD n []).toArray⟩) := mk_append sameEq _
  generalize hsm : sames4.getD n [] = sm at *
  have n4I : (n : Int) < 4 := by omega
  clear hsm
  go_cut [14] (fun v W => ∃ (ao : Option Addr) (cv : Nat), v = .slice ao [pathEq ++ wy, sameEq ++ sm].length cv ∧ Hid (W.ownsRow W4.heap.size 9 1 (.slice ao [pathEq ++ wy, sameEq ++ sm].length cv) [pathEq ++ wy, sameEq ++ sm].length ([pathEq ++ wy, sameEq ++ sm].map (fun q => Value.string ⟨q.toArray⟩))) ∧ Hid (Below W4.heap.size W4 W))
  case first => as_aux_lemma =>
    clear X2 X3 XA HE HB4 HPR HTU r6 r7 r8 r4
    go_wp2_with fail
    go_region
    all_goals (go_wp2_with fail; go_meet)
    all_goals (case rel =>
      exact ⟨some ⟨W4.heap.size + 1, 0, none⟩, 2, rfl, hide (parts_new W4 wy sm).1, hide (parts_new W4 wy sm).2⟩)
  case rest =>
  obtain ⟨ao, cv, rfl, HO, HB5⟩ := hcut
  have HP2 : Hid (PS = [pathEq ++ wy, sameEq ++ sm] ++ q1 dm ++ q3 sec ++ q4 b2) := HPR
  have hx0 : [pathEq ++ wy, sameEq ++ sm].length ≤ 2 := by simp
  clear HPR c0 c1 c2 c3 c4 c5 c6 EQ1 EQ2 n4I lS hse hgl
  generalize [pathEq ++ wy, sameEq ++ sm] = x0 at *
  have EQ3 : Hid ((⟨#[68, 111, 109, 97, 105, 110, 61]⟩ : ByteArray) ++ ⟨dm.toArray⟩ = ⟨(domEq ++ dm).toArray⟩) := mk_append domEq dm
  have HCx := hide (HC4.out.keep HB5.out)
  obtain ⟨c0, c1, c2, c3, c4, c5, c6, _⟩ := HCx.out
  simp only at c2 c3 c4 c5 c6
  have hsz := HB5.out.size
  have hgl := HCx.out.lt
  have hown := HO.out
  go_upto_if 71 with fail
  go_cut [14] (fun v W => ∃ (ao : Option Addr) (cv : Nat), v = .slice ao (x0 ++ q1 dm).length cv ∧ Hid (W.ownsRow W4.heap.size 9 1 (.slice ao (x0 ++ q1 dm).length cv) (x0 ++ q1 dm).length ((x0 ++ q1 dm).map (fun q => Value.string ⟨q.toArray⟩))) ∧ Hid (Below W4.heap.size W4 W))
  case first => as_aux_lemma =>
    clear X2 X3 XA HE HB4 HTU r6 r7 r8 r4 HP2
    cases hd : dm.isEmpty with
    | true =>
      have HY : Hid (q1 dm = []) := by unfold Hid q1; rw [if_pos hd]
      go_wp2_with fail
      go_meet
      case rel =>
        rw [HY.out, List.append_nil]
        exact ⟨ao, cv, rfl, HO, HB5⟩
    | false =>
      have HY : Hid (q1 dm = [domEq ++ dm]) := by unfold Hid q1; rw [if_neg (by simp [hd])]
      clear hd
      go_wp2_with (at_builtin; refine wpList_append_own _ rfl _ _ 29 rfl W4.heap.size 9 i0 (.string ByteArray.empty) 1 16 Tryd.underlying29 hi hz0 hz1 hz2 rfl (by decide) _ _ _ rfl (hown.alloc _) ⟨wc.heap.size, 0, none⟩ 1 1 [.string (⟨#[68, 111, 109, 97, 105, 110, 61]⟩ ++ ⟨dm.toArray⟩)] rfl rfl (cell_one_new _ _ _) (fun x hx => by simp at hx; subst hx; rfl) (by unfold maxLen; omega) (by omega) (by simp; omega) ?_; intro v' w9 hown' hgrow hnil)
      go_meet
      case rel =>
        rw [EQ3.out] at hown'
        rw [HY.out]
        obtain ⟨ao2, cv2, h1, h2, h3⟩ := own_more (x := domEq ++ dm) hsz HO hown' hgrow rfl
        exact ⟨ao2, cv2, h1, h2, hide (HB5.out.trans h3.out)⟩
  case rest =>
  clear HO HB5 HCx c0 c1 c2 c3 c4 c5 c6 hsz hgl hown
  obtain ⟨ao, cv, rfl, HO, HB5⟩ := hcut
  have hx1 : (x0 ++ q1 dm).length ≤ 3 := by
    rw [List.length_append]
    have : (q1 dm).length ≤ 1 := by unfold q1; split <;> simp
    omega
  generalize x0 ++ q1 dm = x1 at *
  clear hx0
  have HCx := hide (HC4.out.keep HB5.out)
  obtain ⟨c0, c1, c2, c3, c4, c5, c6, _⟩ := HCx.out
  simp only at c2 c3 c4 c5 c6
  have hsz := HB5.out.size
  have hgl := HCx.out.lt
  have hown := HO.out
  go_upto_if 79 with fail
  go_cut [14] (fun v W => ∃ (ao : Option Addr) (cv : Nat), v = .slice ao (x1 ++ q3 sec).length cv ∧ Hid (W.ownsRow W4.heap.size 9 1 (.slice ao (x1 ++ q3 sec).length cv) (x1 ++ q3 sec).length ((x1 ++ q3 sec).map (fun q => Value.string ⟨q.toArray⟩))) ∧ Hid (Below W4.heap.size W4 W))
  case first => as_aux_lemma =>
    clear X2 X3 XA HE HB4 HTU r6 r7 r8 r4 HP2
    cases sec with
    | false =>
      have HY : Hid (q3 false = []) := rfl
      go_wp2_with fail
      go_meet
      case rel =>
        rw [HY.out, List.append_nil]
        exact ⟨ao, cv, rfl, HO, HB5⟩
    | true =>
      have HY : Hid (q3 true = [SECURE]) := rfl
      go_wp2_with (at_builtin; refine wpList_append_own _ rfl _ _ 29 rfl W4.heap.size 9 i0 (.string ByteArray.empty) 1 16 Tryd.underlying29 hi hz0 hz1 hz2 rfl (by decide) _ _ _ rfl (hown.alloc _) ⟨wc.heap.size, 0, none⟩ 1 1 [.string (⟨#[83, 69, 67, 85, 82, 69]⟩)] rfl rfl (cell_one_new _ _ _) (fun x hx => by simp at hx; subst hx; rfl) (by unfold maxLen; omega) (by omega) (by simp; omega) ?_; intro v' w9 hown' hgrow hnil)
      go_meet
      case rel =>
        rw [HY.out]
        obtain ⟨ao2, cv2, h1, h2, h3⟩ := own_more (x := SECURE) hsz HO hown' hgrow rfl
        exact ⟨ao2, cv2, h1, h2, hide (HB5.out.trans h3.out)⟩
  case rest =>
  clear HO HB5 HCx c0 c1 c2 c3 c4 c5 c6 hsz hgl hown
  obtain ⟨ao, cv, rfl, HO, HB5⟩ := hcut
  have hx2 : (x1 ++ q3 sec).length ≤ 4 := by
    rw [List.length_append]
    have : (q3 sec).length ≤ 1 := by unfold q3; split <;> simp
    omega
  generalize x1 ++ q3 sec = x2 at *
  clear hx1
  have HCx := hide (HC4.out.keep HB5.out)
  obtain ⟨c0, c1, c2, c3, c4, c5, c6, _⟩ := HCx.out
  simp only at c2 c3 c4 c5 c6
  have hsz := HB5.out.size
  have hgl := HCx.out.lt
  have hown := HO.out
  go_upto_if 84 with fail
  go_cut [14] (fun v W => ∃ (ao : Option Addr) (cv : Nat), v = .slice ao (x2 ++ q4 b2).length cv ∧ Hid (W.ownsRow W4.heap.size 9 1 (.slice ao (x2 ++ q4 b2).length cv) (x2 ++ q4 b2).length ((x2 ++ q4 b2).map (fun q => Value.string ⟨q.toArray⟩))) ∧ Hid (Below W4.heap.size W4 W))
  case first => as_aux_lemma =>
    clear X2 X3 XA HE HB4 HTU r6 r7 r8 r4 HP2
    cases b2 with
    | false =>
      have HY : Hid (q4 false = []) := rfl
      go_wp2_with fail
      go_meet
      case rel =>
        rw [HY.out, List.append_nil]
        exact ⟨ao, cv, rfl, HO, HB5⟩
    | true =>
      have HY : Hid (q4 true = [httponly]) := rfl
      go_wp2_with (at_builtin; refine wpList_append_own _ rfl _ _ 29 rfl W4.heap.size 9 i0 (.string ByteArray.empty) 1 16 Tryd.underlying29 hi hz0 hz1 hz2 rfl (by decide) _ _ _ rfl (hown.alloc _) ⟨wc.heap.size, 0, none⟩ 1 1 [.string (⟨#[104, 116, 116, 112, 111, 110, 108, 121]⟩)] rfl rfl (cell_one_new _ _ _) (fun x hx => by simp at hx; subst hx; rfl) (by unfold maxLen; omega) (by omega) (by simp; omega) ?_; intro v' w9 hown' hgrow hnil)
      go_meet
      case rel =>
        rw [HY.out]
        obtain ⟨ao2, cv2, h1, h2, h3⟩ := own_more (x := httponly) hsz HO hown' hgrow rfl
        exact ⟨ao2, cv2, h1, h2, hide (HB5.out.trans h3.out)⟩
  case rest =>
  clear HO HB5 HCx c0 c1 c2 c3 c4 c5 c6 hsz hgl hown
  obtain ⟨ao, cv, rfl, HO, HB5⟩ := hcut
  have hx3 : (x2 ++ q4 b2).length ≤ 5 := by
    rw [List.length_append]
    have : (q4 b2).length ≤ 1 := by unfold q4; split <;> simp
    omega
  generalize x2 ++ q4 b2 = x3 at *
  clear hx2
  rw [← HP2.out] at HO ⊢
  obtain ⟨hT, hcap⟩ := texts_of_own HO.out
  have HT := hide hT
  clear hT hx3 HP2 HO
  have hwc := HB5.out.size
  have hTL := hide (turn_len PS t r8)
  clear r8
  go_wp2_with fail
  go_loop [15, 16] (fun sv iv => ∃ k : Nat, k ≤ PS.length ∧ iv = .int .i64 k ∧ sv = .string ⟨(turnK PS t k).toArray⟩) (fun _ iv => PS.length - (intOf iv).toNat)
  case atStart => exact ⟨0, Nat.zero_le _, rfl, rfl⟩
  case round =>
    obtain ⟨k, hk, rfl, rfl⟩ := hrel
    by_cases hlt : k < PS.length
    · have hlI : (k : Int) < (PS.length : Int) := by omega
      have hq : (k + t) % PS.length < PS.length := Nat.mod_lt _ (by omega)
      obtain ⟨gg, rfl, hcell⟩ := HT.out _ hq
      have HS := hide (turnK_succ PS t k)
      have hl0 := hTL.out k
      have hl1 := hTL.out (k + 1)
      have HG : Hid (PS.getD ((k + t) % PS.length) [] = PS[(k + t) % PS.length]) := by unfold Hid; rw [List.getD_eq_getElem?_getD, List.getElem?_eq_getElem hq]; rfl
      rw [HS.out, List.length_append, List.length_append, HG.out] at hl1
      have hqI : ((k : Int) + (t : Int)) % (PS.length : Int) < (PS.length : Int) := Int.emod_lt_of_pos _ (by omega)
      have hq0 : 0 ≤ ((k : Int) + (t : Int)) % (PS.length : Int) := Int.emod_nonneg _ (by omega)
      have hnz : ¬ (PS.length : Int) = 0 := by omega
      generalize turnK PS t k = tk at *
      generalize PS[(k + t) % PS.length] = pq at *
      go_wp2_with (go_at_call 11; refine (low_any _ _ _ (by decide) (by decide)).mono ?_; rintro e w' ⟨rfl, hw'⟩; rw [hw', HLt.out])
      go_round
      case rel => exact ⟨k + 1, by omega, by go_num, congrArg Value.string (dataEq (by rw [HS.out, HG.out]; simp [semi]))⟩
      case measure => simp [intOf]; omega
    · have hke : k = PS.length := by omega
      have HTE : Hid (turnK PS t k = tu) := by unfold Hid; rw [HTU.out, hke]
      have hkI : ¬ (k : Int) < (PS.length : Int) := by omega
      rw [HTE.out]
      have HCx := hide (HC4.out.keep HB5.out)
      have HBx := hide (HB4.out.trans (HB5.out.mono HB4.out.size))
      clear HT hTL HTU HTE hke HC4 HB4 HB5 r6 r7
      go_wp2_with fail
      refine (X2.out _ (HE.out.keep HBx.out)).mono ?_
      rintro r w6 ⟨rfl, hb6⟩
      have HC6 := hide (HCx.out.keep hb6)
      have HB6 := hide (HBx.out.trans (hb6.mono HBx.out.size))
      clear hb6 HCx HBx X2 hwc
      have X3' := X3.out
      rw [← mk_append] at X3'
      have HX3 := hide X3'
      clear X3 X3'
      go_wp2_with fail
      have HC7 := hide (HC6.out.keep ((Below.refl _ _).alloc (Nat.le_refl _) (ckO ⟨dm, wy, sec, b2, n⟩)))
      have HB7 := hide (HB6.out.alloc HB6.out.size (ckO ⟨dm, wy, sec, b2, n⟩))
      have HA7 := hide (CBox.newC w6 23 ⟨dm, wy, sec, b2, n⟩)
      refine (HX3.out _ (HE.out.keep HB7.out)).mono ?_
      rintro r w8 ⟨rfl, hb8⟩
      have HC8 := hide (HC7.out.keep hb8)
      have HA8 := hide (HA7.out.keep hb8)
      have HB8 := hide (HB7.out.trans (hb8.mono HB7.out.size))
      clear hb8 HC6 HB6 HC7 HB7 HA7 HX3
      have hgl := HC8.out.lt
      have hal := HA8.out.lt
      obtain ⟨c0, c1, c2, c3, c4, c5, c6, _⟩ := HC8.out
      obtain ⟨y0, y1, y2, y3, y4, y5, y6, _⟩ := HA8.out
      simp only at c2 c3 c4 c5 c6 y2 y3 y4 y5 y6
      have k0 : (dm == dm) = true := by simp
      have k1 : (wy == wy) = true := by simp
      go_wp2_with fail
      have HB9 := hide (HB8.out.alloc HB8.out.size (ckO zeroC))
      refine (XA.out _ HB9.out).mono ?_
      rintro r w9 ⟨rfl, hb9⟩
      have HB10 := hide (HB9.out.trans (hb9.mono HB9.out.size))
      clear hb9 c0 c1 c2 c3 c4 c5 c6 y0 y1 y2 y3 y4 y5 y6 HC8 HA8
      go_wp2_with fail
      go_ret
      exact ⟨rfl, HB10.out⟩
end Go.Proofs.YtfbalmamhcbojaaDoor
