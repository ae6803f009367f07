/- The walk over cookie.Text (text by make/y8.py). -/
import Derived.Test.YtfbalmamhcbojaaDoorY7
import Derived.Test.YtfbalmamhcbojaaDoorRows5
namespace Go.Proofs.YtfbalmamhcbojaaDoor
open Go.RowKit Go.Proofs.Url

theorem CIn.keepB {W W' : World} {g : Nat} {dom way : List UInt8} {sec htt : Bool} {same : Int} (h : CIn W g dom way sec htt same) (hb : Below (g + 1) W W') : CIn W' g dom way sec htt same :=
  ⟨by rw [hb.cell (Nat.lt_succ_self g)]; exact h.c2, by rw [hb.cell (Nat.lt_succ_self g)]; exact h.c3, by rw [hb.cell (Nat.lt_succ_self g)]; exact h.c4, by rw [hb.cell (Nat.lt_succ_self g)]; exact h.c5, by rw [hb.cell (Nat.lt_succ_self g)]; exact h.c6⟩
theorem CIn.lt {W : World} {g : Nat} {dom way : List UInt8} {sec htt : Bool} {same : Int} (h : CIn W g dom way sec htt same) : g < W.heap.size := World.block_lt_of_cell? W _ h.c2
/-- A text more in a row that the walk owns: the row, the cookie, what was there before. -/
theorem text_more {w W W2 : World} {g : Nat} {dom way : List UInt8} {sec htt : Bool} {same : Int} {xs : List (List UInt8)} {x : List UInt8} {ao : Option Addr} {cv : Nat} {v' : Value} {ob : Obj} {row : Option Nat}
    (HO : Hid (W.ownsRow (g + 1) 9 1 (.slice ao xs.length cv) xs.length (xs.map (fun q => Value.string ⟨q.toArray⟩)))) (CI : Hid (CIn W g dom way sec htt same)) (HB : Hid (Below g w W))
    (hown : W2.ownsRow (g + 1) 9 1 v' (xs.length + 1) (xs.map (fun q => Value.string ⟨q.toArray⟩) ++ [.string ⟨x.toArray⟩])) (hg : (W.alloc ob).grownBy W2 row) (hr : row = (Value.slice ao xs.length cv).ownBlock) :
    ∃ (ao2 : Option Addr) (cv2 : Nat), v' = .slice ao2 (xs ++ [x]).length cv2 ∧ Hid (W2.ownsRow (g + 1) 9 1 (.slice ao2 (xs ++ [x]).length cv2) (xs ++ [x]).length ((xs ++ [x]).map (fun q => Value.string ⟨q.toArray⟩))) ∧ Hid (CIn W2 g dom way sec htt same) ∧ Hid (Below g w W2) := by
  obtain ⟨ao2, cv2, hv, hO⟩ := texts_roundB hown
  have hlt := CI.out.lt
  have h1 : Below (g + 1) W (W.alloc ob) := (Below.refl _ _).alloc (by omega) _
  have h2 : Below (g + 1) W W2 := Below.trans h1 (Below.grown (Below.refl _ _) hg (by simp; omega) (fun j hj => owns_base HO.out j (by rw [← hr]; exact hj)))
  exact ⟨ao2, cv2, hv, hO, CI.out.keepB h2, HB.out.trans (h2.mono (by omega))⟩
theorem p1_no {dom : List UInt8} (h : dom.isEmpty = true) : p1 dom = [] := by unfold p1; rw [if_pos h]
theorem p1_yes {dom : List UInt8} (h : dom.isEmpty = false) : p1 dom = [] ++ [tDomain ++ dom] := by unfold p1; rw [if_neg (by simp [h])]; rfl
theorem p5_no {n : Int} (h : sameT n = []) : p5 n = [] := by unfold p5; rw [h]; rfl
theorem p5_yes {n : Int} (h : (sameT n).isEmpty = false) : p5 n = [tSame ++ sameT n] := by unfold p5; rw [if_neg (by simp [h])]
theorem p_lens (dom : List UInt8) (sec htt : Bool) (same : Int) : (p1 dom).length ≤ 1 ∧ (p3 sec).length ≤ 1 ∧ (p4 htt).length ≤ 1 ∧ (p5 same).length ≤ 1 := by
  refine ⟨?_, ?_, ?_, ?_⟩
  · unfold p1; split <;> simp
  · cases sec <;> decide
  · cases htt <;> decide
  · unfold p5; split <;> simp
theorem join_le (xs : List (List UInt8)) (n : Nat) (h : ∀ x ∈ xs, x.length ≤ n) : (Lib.join xs sep2).length ≤ xs.length * (n + 2) := by
  cases xs with
  | nil => simp [Lib.join]
  | cons x r =>
    rw [Lib.join_cons, List.length_append]
    have hx := h x (by simp)
    have hr : ∀ r : List (List UInt8), (∀ y ∈ r, y.length ≤ n) → (Lib.joinTail sep2 r).length ≤ r.length * (n + 2) := by
      intro r
      induction r with
      | nil => intro _; simp [Lib.joinTail]
      | cons y r ih =>
        intro hy
        have h1 := hy y (by simp)
        have h2 := ih (fun z hz => hy z (by simp [hz]))
        have e : Lib.joinTail sep2 (y :: r) = sep2 ++ y ++ Lib.joinTail sep2 r := by simp [Lib.joinTail]
        rw [e, List.length_append, List.length_append, List.length_cons, Nat.add_mul, show sep2.length = 2 from rfl]; omega
    have := hr r (fun y hy => h y (by simp [hy]))
    simp only [List.length_cons]; rw [Nat.add_mul]; omega
theorem parts_each (dom way : List UInt8) (sec htt : Bool) (same : Int) : ∀ x ∈ partsT dom way sec htt same, x.length ≤ dom.length + way.length + 20 := by
  intro x hx
  unfold partsT at hx
  simp only [List.mem_append, List.mem_singleton] at hx
  rcases hx with (((hx | rfl) | hx) | hx) | hx
  · unfold p1 at hx; split at hx
    · simp at hx
    · rw [List.mem_singleton] at hx; subst hx; simp [tDomain]; omega
  · simp [tPath]; omega
  · cases sec
    · simp [p3] at hx
    · simp [p3] at hx; subst hx; simp [tSecure]
  · cases htt
    · simp [p4] at hx
    · simp [p4] at hx; subst hx; simp [tHttp]
  · unfold p5 at hx; split at hx
    · simp at hx
    · rw [List.mem_singleton] at hx; subst hx
      rcases same_cases same with rfl | rfl | rfl | ⟨_, h⟩
      · simp [tSame, sameT]
      · simp [tSame, sameT]
      · simp [tSame, sameT]
      · rw [h]; simp [tSame]

theorem join_own (W : World) (B : Nat) (xs : List (List UInt8)) (ao : Option Addr) (cv : Nat) (HO : W.ownsRow B 9 1 (.slice ao xs.length cv) xs.length (xs.map (fun q => Value.string ⟨q.toArray⟩))) (hne : xs ≠ []) (hn : xs.length ≤ 5) (hl : (Lib.join xs sep2).length ≤ 140737488355328) :
    Calls Tryd.prog 23 #[.slice ao xs.length cv, .string ⟨#[59, 32]⟩] W fun e w' => e = .returned (.string ⟨(Lib.join xs sep2).toArray⟩) ∧ Below W.heap.size W w' := by
  have hm : xs.map (fun q => Value.string ⟨q.toArray⟩) = (xs.map (fun q => (⟨q.toArray⟩ : ByteArray))).map Value.string := by rw [List.map_map]; rfl
  have hlen : (xs.map (fun q => (⟨q.toArray⟩ : ByteArray))).length = xs.length := List.length_map _
  have hb : (xs.map (fun q => (⟨q.toArray⟩ : ByteArray))).map (·.data.toList) = xs := by rw [List.map_map]; simp [Function.comp_def]
  rw [hm, ← hlen] at HO
  obtain ⟨ao', cap', hv, hcap, hT⟩ := owns_texts HO
  cases hv
  have hpos : 0 < xs.length := List.length_pos_iff.2 hne
  obtain ⟨g, hg, hc0⟩ := hT 0 (by rw [hlen]; exact hpos)
  subst hg
  have hj := Tryd.strings_Join g 0 cv (xs.map (fun q => (⟨q.toArray⟩ : ByteArray))) ⟨#[59, 32]⟩ W (fun j x hx => by
      have hj : j < (xs.map (fun q => (⟨q.toArray⟩ : ByteArray))).length := by
        rcases Nat.lt_or_ge j (xs.map (fun q => (⟨q.toArray⟩ : ByteArray))).length with h | h
        · exact h
        · rw [List.getElem?_eq_none h] at hx; cases hx
      obtain ⟨g', hg', hc⟩ := hT j hj
      cases hg'
      rw [List.getElem?_eq_getElem hj] at hx
      rw [← Option.some.inj hx, Nat.zero_add]; exact hc) (World.block_lt_of_cell? W _ hc0) (by rw [hlen]; omega) hcap (by rw [hb]; exact hl)
  rw [hb, hlen] at hj
  exact hj

set_option maxHeartbeats 4000000 in
theorem cookieText_any (nm : ByteArray) (dom way : List UInt8) (o : Int) (sec htt : Bool) (same : Int) (w : World) (hl : dom.length + way.length < 429496700) :
    Calls Tryd.prog 9 #[ckIn nm o dom way sec htt same] w
      fun e w' => e = .returned (.string ⟨(textC dom way sec htt same).toArray⟩) ∧ Below w.heap.size w w' := by
  obtain ⟨i0, hi, hz0, hz1, hz2⟩ := info_parts infoS
  obtain ⟨l1, l3, l4, l5⟩ := p_lens dom sec htt same
  have HJL : Hid ((textC dom way sec htt same).length ≤ 140737488355328) := by
    have h1 := join_le (partsT dom way sec htt same) _ (parts_each dom way sec htt same)
    have h2 : (partsT dom way sec htt same).length ≤ 5 := by unfold partsT; simp; omega
    have h3 : (partsT dom way sec htt same).length * (dom.length + way.length + 20 + 2) ≤ 5 * (dom.length + way.length + 20 + 2) := Nat.mul_le_mul_right _ h2
    unfold Hid textC; omega
  have HP : Hid (partsT dom way sec htt same = p1 dom ++ [tPath ++ way] ++ p3 sec ++ p4 htt ++ p5 same) := rfl
  have HTx : Hid (textC dom way sec htt same = Lib.join (partsT dom way sec htt same) sep2) := rfl
  unfold ckIn
  go_enter Tryd.func9, Tryd.ntmps9
  go_upto_if 7 with fail
  obtain ⟨W0, hW0⟩ : ∃ W0, W0 = (w.alloc (Obj.cells #[.string nm, .int .i64 o, .string ⟨dom.toArray⟩, .string ⟨way.toArray⟩, .bool sec, .bool htt, .int .i64 same] 23)) := ⟨_, rfl⟩
  rw [← hW0]
  have HB : Hid (Below w.heap.size w W0) := by unfold Hid; rw [hW0]; exact (Below.refl _ _).alloc (Nat.le_refl _) _
  have CI : Hid (CIn W0 w.heap.size dom way sec htt same) := by unfold Hid; rw [hW0]; exact CIn.new _ _ _ _ _ _ _ _ _
  clear hW0
  generalize hg : w.heap.size = g at *
  have HG := hide hg
  clear hg
  obtain ⟨c2, c3, c4, c5, c6⟩ := CI.out
  have hgl := CI.out.lt
  have HO : Hid (W0.ownsRow (g + 1) 9 1 (.slice none 0 0) 0 (([] : List (List UInt8)).map (fun q => Value.string ⟨q.toArray⟩))) := World.ownsRow_nil _ _ _ _
  go_cut [3] (fun v W => ∃ (ao : Option Addr) (cv : Nat), v = .slice ao (p1 dom).length cv ∧ Hid (W.ownsRow (g + 1) 9 1 (.slice ao (p1 dom).length cv) (p1 dom).length ((p1 dom).map (fun q => Value.string ⟨q.toArray⟩))) ∧ Hid (CIn W g dom way sec htt same) ∧ Hid (Below g w W))
  case first => as_aux_lemma =>
    cases hd : dom.isEmpty with
    | true =>
      have HE := hide (p1_no hd)
      go_wp2_with fail
      go_meet
      case rel => rw [HE.out]; exact ⟨none, 0, rfl, HO, CI, HB⟩
    | false =>
      have HE := hide (p1_yes hd)
      have hown := HO.out
      have EQ : Hid ((⟨#[68, 111, 109, 97, 105, 110, 61]⟩ : ByteArray) ++ ⟨dom.toArray⟩ = ⟨(tDomain ++ dom).toArray⟩) := mk_append tDomain dom
      clear hd
      go_wp2_with (at_builtin; refine wpList_append_own _ rfl _ _ 29 rfl (g + 1) 9 i0 (.string ByteArray.empty) 1 16 Tryd.underlying29 hi hz0 hz1 hz2 rfl (by decide) _ _ _ rfl (hown.alloc _) ⟨W0.heap.size, 0, none⟩ 1 1 [.string (⟨#[68, 111, 109, 97, 105, 110, 61]⟩ ++ ⟨dom.toArray⟩)] rfl rfl (cell_one_new _ _ _) (fun x hx => by simp at hx; subst hx; rfl) (by unfold maxLen; omega) (by omega) (by simp; omega) ?_; intro v' w4 hown' hgrow hnil)
      go_meet
      case rel =>
        rw [EQ.out] at hown'
        rw [HE.out]
        exact text_more (xs := []) HO CI HB hown' hgrow rfl
  case rest =>
  clear c2 c3 c4 c5 c6 hgl HO CI HB
  obtain ⟨ao, cv, rfl, HO, CI, HB⟩ := hcut
  generalize p1 dom = xs at *
  obtain ⟨c2, c3, c4, c5, c6⟩ := CI.out
  have hgl := CI.out.lt
  have hown := HO.out
  have EQ : Hid ((⟨#[80, 97, 116, 104, 61]⟩ : ByteArray) ++ ⟨way.toArray⟩ = ⟨(tPath ++ way).toArray⟩) := mk_append tPath way
  go_upto_region 5 with (at_builtin; refine wpList_append_own _ rfl _ _ 29 rfl (g + 1) 9 i0 (.string ByteArray.empty) 1 16 Tryd.underlying29 hi hz0 hz1 hz2 rfl (by decide) _ _ _ rfl (hown.alloc _) ⟨wc.heap.size, 0, none⟩ 1 1 [.string (⟨#[80, 97, 116, 104, 61]⟩ ++ ⟨way.toArray⟩)] rfl rfl (cell_one_new _ _ _) (fun x hx => by simp at hx; subst hx; rfl) (by unfold maxLen; omega) (by omega) (by simp; omega) ?_; intro v' w4 hown' hgrow hnil)
  rw [EQ.out] at hown'
  obtain ⟨ao2, cv2, rfl, HO2, CI2, HB2⟩ := text_more HO CI HB hown' hgrow rfl
  have hx2 : (xs ++ [tPath ++ way]).length ≤ 2 := by rw [List.length_append, List.length_singleton]; omega
  generalize xs ++ [tPath ++ way] = x2 at *
  clear hown hown' hgrow hnil EQ c2 c3 c4 c5 c6 hgl HO CI HB l1
  obtain ⟨c2, c3, c4, c5, c6⟩ := CI2.out
  have hgl := CI2.out.lt
  have hown := HO2.out
  go_upto_if 21 with fail
  go_cut [3] (fun v W => ∃ (ao : Option Addr) (cv : Nat), v = .slice ao (x2 ++ p3 sec).length cv ∧ Hid (W.ownsRow (g + 1) 9 1 (.slice ao (x2 ++ p3 sec).length cv) (x2 ++ p3 sec).length ((x2 ++ p3 sec).map (fun q => Value.string ⟨q.toArray⟩))) ∧ Hid (CIn W g dom way sec htt same) ∧ Hid (Below g w W))
  case first => as_aux_lemma =>
    cases sec with
    | true =>
      go_wp2_with (at_builtin; refine wpList_append_own _ rfl _ _ 29 rfl (g + 1) 9 i0 (.string ByteArray.empty) 1 16 Tryd.underlying29 hi hz0 hz1 hz2 rfl (by decide) _ _ _ rfl (hown.alloc _) ⟨w4.heap.size, 0, none⟩ 1 1 [.string (⟨#[83, 101, 99, 117, 114, 101]⟩)] rfl rfl (cell_one_new _ _ _) (fun x hx => by simp at hx; subst hx; rfl) (by unfold maxLen; omega) (by omega) (by simp; omega) ?_; intro v' w4 hown' hgrow hnil)
      go_meet
      case rel => exact text_more (x := tSecure) HO2 CI2 HB2 hown' hgrow rfl
    | false =>
      go_wp2_with fail
      go_meet
      case rel =>
        rw [show x2 ++ p3 false = x2 by simp [p3]]
        exact ⟨ao2, cv2, rfl, HO2, CI2, HB2⟩
  case rest =>
  clear c2 c3 c4 c5 c6 hgl HO2 CI2 HB2 hown
  obtain ⟨ao3, cv3, rfl, HO3, CI3, HB3⟩ := hcut
  have hx3 : (x2 ++ p3 sec).length ≤ 3 := by rw [List.length_append]; omega
  generalize x2 ++ p3 sec = x3 at *
  clear hx2
  obtain ⟨c2, c3, c4, c5, c6⟩ := CI3.out
  have hgl := CI3.out.lt
  have hown := HO3.out
  go_upto_if 26 with fail
  go_cut [3] (fun v W => ∃ (ao : Option Addr) (cv : Nat), v = .slice ao (x3 ++ p4 htt).length cv ∧ Hid (W.ownsRow (g + 1) 9 1 (.slice ao (x3 ++ p4 htt).length cv) (x3 ++ p4 htt).length ((x3 ++ p4 htt).map (fun q => Value.string ⟨q.toArray⟩))) ∧ Hid (CIn W g dom way sec htt same) ∧ Hid (Below g w W))
  case first => as_aux_lemma =>
    cases htt with
    | true =>
      go_wp2_with (at_builtin; refine wpList_append_own _ rfl _ _ 29 rfl (g + 1) 9 i0 (.string ByteArray.empty) 1 16 Tryd.underlying29 hi hz0 hz1 hz2 rfl (by decide) _ _ _ rfl (hown.alloc _) ⟨wc.heap.size, 0, none⟩ 1 1 [.string (⟨#[72, 116, 116, 112, 79, 110, 108, 121]⟩)] rfl rfl (cell_one_new _ _ _) (fun x hx => by simp at hx; subst hx; rfl) (by unfold maxLen; omega) (by omega) (by simp; omega) ?_; intro v' w4 hown' hgrow hnil)
      go_meet
      case rel => exact text_more (x := tHttp) HO3 CI3 HB3 hown' hgrow rfl
    | false =>
      go_wp2_with fail
      go_meet
      case rel =>
        rw [show x3 ++ p4 false = x3 by simp [p4]]
        exact ⟨ao3, cv3, rfl, HO3, CI3, HB3⟩
  case rest =>
  clear c2 c3 c4 c5 c6 hgl HO3 CI3 HB3 hown
  obtain ⟨ao4, cv4, rfl, HO4, CI4, HB4⟩ := hcut
  have hx4 : (x3 ++ p4 htt).length ≤ 4 := by rw [List.length_append]; omega
  generalize x3 ++ p4 htt = x4 at *
  clear hx3
  obtain ⟨c2, c3, c4, c5, c6⟩ := CI4.out
  have hgl := CI4.out.lt
  go_wp2_with fail
  refine (sameText_any same _).mono ?_
  rintro e w5 ⟨rfl, hw5⟩
  subst hw5
  have HT5 : Hid (∃ t, t = sameT same) := ⟨_, rfl⟩
  cases hse : (sameT same).isEmpty with
  | true =>
    have HN : Hid (p5 same = []) := by unfold Hid p5; rw [hse]; rfl
    have HE : Hid (Lib.join x4 sep2 = textC dom way sec htt same) := by unfold Hid; rw [HTx.out, HP.out, HN.out, List.append_nil]
    have hne : x4 ≠ [] := by have := parts_some dom way sec htt same; rw [HP.out, HN.out, List.append_nil] at this; exact this
    have HJ := hide (fun W HO => join_own W (g + 1) x4 ao4 cv4 HO hne (by omega) (by rw [HE.out]; exact HJL.out))
    clear hne HN
    go_wp2_with fail
    refine (HJ.out _ HO4.out).mono ?_
    rintro e w6 ⟨rfl, hb6⟩
    rw [HE.out]
    go_wp2_with fail
    go_ret
    exact ⟨rfl, by rw [HG.out]; exact HB4.out.trans (hb6.mono (by omega))⟩
  | false =>
    have HN := hide (p5_yes hse)
    have EQ : Hid ((⟨#[83, 97, 109, 101, 83, 105, 116, 101, 61]⟩ : ByteArray) ++ ⟨(sameT same).toArray⟩ = ⟨(tSame ++ sameT same).toArray⟩) := mk_append tSame (sameT same)
    have hl6 : (sameT same).length ≤ 6 := by
      rcases same_cases same with rfl | rfl | rfl | ⟨_, h⟩
      · decide
      · decide
      · decide
      · rw [h]; decide
    have hown := HO4.out
    have HP2 : Hid (partsT dom way sec htt same = x4 ++ [tSame ++ sameT same]) := by unfold Hid; rw [HP.out, HN.out]
    clear HN HP
    generalize sameT same = st at *
    go_upto_region 12 with (at_builtin; refine wpList_append_own _ rfl _ _ 29 rfl (g + 1) 9 i0 (.string ByteArray.empty) 1 16 Tryd.underlying29 hi hz0 hz1 hz2 rfl (by decide) _ _ _ rfl (hown.alloc _) ⟨w5.heap.size, 0, none⟩ 1 1 [.string (⟨#[83, 97, 109, 101, 83, 105, 116, 101, 61]⟩ ++ ⟨st.toArray⟩)] rfl rfl (cell_one_new _ _ _) (fun x hx => by simp at hx; subst hx; rfl) (by unfold maxLen; omega) (by omega) (by simp; omega) ?_; intro v' w4 hown' hgrow hnil)
    rw [EQ.out] at hown'
    obtain ⟨ao5, cv5, rfl, HO5, CI5, HB5⟩ := text_more HO4 CI4 HB4 hown' hgrow rfl
    have HE : Hid (Lib.join (x4 ++ [tSame ++ st]) sep2 = textC dom way sec htt same) := by unfold Hid; rw [HTx.out, HP2.out]
    have hx5 : (x4 ++ [tSame ++ st]).length ≤ 5 := by rw [List.length_append, List.length_singleton]; omega
    have hne : x4 ++ [tSame ++ st] ≠ [] := by simp
    have hsz := CI5.out.lt
    generalize x4 ++ [tSame ++ st] = x5 at *
    have HJ := hide (fun W HO => join_own W (g + 1) x5 ao5 cv5 HO hne (by omega) (by rw [HE.out]; exact HJL.out))
    clear hne hown hown' hgrow hnil EQ c2 c3 c4 c5 c6 HO4 CI4 HB4
    go_wp2_with fail
    refine (HJ.out _ HO5.out).mono ?_
    rintro e w6 ⟨rfl, hb6⟩
    rw [HE.out]
    go_wp2_with fail
    go_ret
    exact ⟨rfl, by rw [HG.out]; exact HB5.out.trans (hb6.mono (by omega))⟩
end Go.Proofs.YtfbalmamhcbojaaDoor
