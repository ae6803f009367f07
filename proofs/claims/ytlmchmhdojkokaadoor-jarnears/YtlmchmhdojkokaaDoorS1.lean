/- Walks over package domain: Site, Under. -/
import Derived.Test.YtlmchmhdojkokaaDoorW4
import Derived.Test.YtlmchmhdojkokaaDoorD2
namespace Go.Proofs.YtlmchmhdojkokaaDoor
open Go.RowKit Go.Proofs.Url

theorem dataEq {a b : ByteArray} (h : a.data.toList = b.data.toList) : a = b := by
  cases a; cases b; simp only at h; rw [Array.toList_inj] at h; rw [h]
theorem mk_data (s : ByteArray) : (⟨s.data.toList.toArray⟩ : ByteArray) = s := by cases s; simp
theorem drop_end (s : ByteArray) (n : Nat) : (s.extract n s.size).data.toList = s.data.toList.drop n := Lib.extract_to_end s n
theorem ret_str {a b : ByteArray} (h : a = b) : Ending.returned (.string a) = .returned (.string b) := by rw [h]
theorem cutD_any (l : List UInt8) (w : World) (henv : Env w) (h : l.length < 4294967281) :
    Calls Tryd.prog 32 #[.string ⟨l.toArray⟩, .string ⟨#[46]⟩] w fun e w' => e = .returned (.tuple #[.string ⟨(Lib.cut l [46]).1.toArray⟩, .string ⟨(Lib.cut l [46]).2.1.toArray⟩, .bool (Lib.cut l [46]).2.2]) ∧ Below w.heap.size w w' := by
  obtain ⟨⟨m, hm⟩, _⟩ := henv
  refine (Tryd.strings_Cut ⟨l.toArray⟩ ⟨#[46]⟩ m w (by rw [size_mk]; exact h) hm).mono ?_
  rintro e w' ⟨rfl, n, rfl⟩
  exact ⟨rfl, _root_.Go.below_drewN (Below.refl _ _) n⟩

theorem count_drop (s : ByteArray) (k : Nat) (h : k < s.size) : (s.data.toList.drop k).count 46 = (s.data.toList.drop (k + 1)).count 46 + (if s[k].toNat = 46 then 1 else 0) := by
  have hk : k < s.data.toList.length := by simpa using h
  rw [List.drop_eq_getElem_cons hk, List.count_cons]
  congr 1
  show (if (s[k] == 46) = true then 1 else 0) = _
  by_cases e : s[k].toNat = 46
  · have : s[k] = 46 := UInt8.toNat_inj.1 e
    rw [if_pos e, if_pos (beq_iff_eq.2 this)]
  · rw [if_neg e, if_neg (fun e' => e (by rw [beq_iff_eq.1 e']; rfl))]
theorem site_at (s : ByteArray) (k : Nat) (h : k < s.size) (hh : host s.data.toList = true) (hc : s[k].toNat = 46) (h1 : (s.data.toList.drop (k + 1)).count 46 = 1) : siteS s.data.toList = s.data.toList.drop (k + 1) := by
  have hk : k < s.data.toList.length := by simpa using h
  have e : s.data.toList = s.data.toList.take k ++ 46 :: s.data.toList.drop (k + 1) := by
    have h2 := List.take_append_drop k s.data.toList
    rw [List.drop_eq_getElem_cons hk] at h2
    have h3 : s.data.toList[k] = 46 := UInt8.toNat_inj.1 hc
    rw [h3] at h2; exact h2.symm
  have hh' := hh
  rw [e] at hh'
  have := site_cut hh' h1
  rw [← e] at this; exact this

set_option maxHeartbeats 400000 in
theorem site_any (s : ByteArray) (w : World) (henv : Env w) (hs : s.size ≤ maxLen) :
    Calls Tryd.prog 27 #[.string s] w fun e w' => e = .returned (.string ⟨(siteS s.data.toList).toArray⟩) ∧ Below w.heap.size w w' := by
  cases hh : host s.data.toList with
  | false =>
    have HN : Hid (siteS s.data.toList = []) := site_none hh
    have HH := hide hh
    clear hh
    go_enter Tryd.func27, Tryd.ntmps27
    go_wp2_with fail
    refine (host_any s _ henv hs).mono ?_
    rintro e w1 ⟨rfl, hb1⟩
    rw [HH.out]
    go_wp2_with fail
    go_ret
    exact ⟨by rw [HN.out]; rfl, hb1⟩
  | true =>
    have h60 : s.size ≤ 60 := by have := host_len hh; simpa using this
    have HH := hide hh
    have HS0 := hide hs
    clear hh hs
    go_enter Tryd.func27, Tryd.ntmps27
    go_wp2_with fail
    refine (host_any s _ henv HS0.out).mono ?_
    rintro e w1 ⟨rfl, hb1⟩
    rw [HH.out]
    have B1 := hide hb1
    clear hb1
    go_wp2_with fail
    go_loop [0, 3, 4] (fun hv lb i => ∃ (k n : Nat), hv = .string s ∧ k ≤ s.size ∧ i = .int .i64 ((k : Int) - 1) ∧ lb = .int .i64 ((n : Int) + 1) ∧ n ≤ 1 ∧ Hid ((s.data.toList.drop k).count 46 = n)) (fun _ _ i => (intOf i + 1).toNat)
    case atStart => exact ⟨s.size, 0, rfl, Nat.le_refl _, by go_num, rfl, by omega, by unfold Hid; rw [List.drop_eq_nil_of_le (by simp)]; rfl⟩
    case round =>
      obtain ⟨k, n, rfl, hk, rfl, rfl, hn, hc⟩ := hrel
      cases k with
      | zero =>
        have HE : Hid (siteS s.data.toList = s.data.toList) := site_short HH.out (by have := hc.out; rw [List.drop_zero] at this; omega)
        clear hc
        rw [show ((0 : Nat) : Int) - 1 = -1 from rfl]
        go_wp2_with fail
        refine (clone_any s _ (by omega)).mono ?_
        rintro e w2 ⟨rfl, hb2⟩
        have B2 := B1.out.trans (hb2.mono B1.out.size)
        have B3 := hide B2
        clear B2 hb2
        go_wp2_with fail
        go_ret
        exact ⟨ret_str (by rw [HE.out, mk_data]), B3.out⟩
      | succ j =>
        have hj : j < s.size := by omega
        have ej : ((j + 1 : Nat) : Int) - 1 = (j : Int) := by omega
        rw [ej]
        clear ej
        by_cases hd : s[j].toNat = 46
        · have hb : ((s[j].toNat : Int) == 46) = true := beq_iff_eq.2 (by omega)
          have HC : Hid ((s.data.toList.drop j).count 46 = n + 1) := by unfold Hid; rw [count_drop s j hj, hc.out, if_pos hd]
          rcases (show n = 0 ∨ n = 1 by omega) with rfl | rfl
          · clear hd hc
            go_wp2_with fail
            go_round
            case rel => exact ⟨j, 1, rfl, by omega, by go_num, by go_num, by omega, HC⟩
            case measure => simp [intOf]
          · have HE : Hid (siteS s.data.toList = s.data.toList.drop (j + 1)) := site_at s j hj HH.out hd hc.out
            clear hd hc
            go_wp2_with fail
            refine (clone_any _ _ ?_).mono ?_
            · simp; omega
            rintro e w2 ⟨rfl, hb2⟩
            have B2 := B1.out.trans (hb2.mono B1.out.size)
            have B3 := hide B2
            clear B2 hb2
            go_wp2_with fail
            go_ret
            exact ⟨ret_str (by rw [HE.out]; exact dataEq (drop_end s _)), B3.out⟩
        · have hb : ((s[j].toNat : Int) == 46) = false := beq_eq_false_iff_ne.2 (by omega)
          have HC : Hid ((s.data.toList.drop j).count 46 = n) := by unfold Hid; rw [count_drop s j hj, hc.out, if_neg hd, Nat.add_zero]
          clear hd hc
          go_wp2_with fail
          go_round
          case rel => exact ⟨j, n, rfl, by omega, by go_num, rfl, hn, HC⟩
          case measure => simp [intOf]

def szOf : Value → Nat
  | .string s => s.size
  | _ => 0
def btOf : Value → Nat
  | .bool true => 1
  | _ => 0

set_option maxHeartbeats 400000 in
theorem under_any (h d : List UInt8) (w : World) (henv : Env w) (hh : h.length < 4294967281) (hd : d.length < 4294967281) :
    Calls Tryd.prog 26 #[.string ⟨h.toArray⟩, .string ⟨d.toArray⟩] w fun e w' => e = .returned (.bool (underS h d)) ∧ Below w.heap.size w w' := by
  cases h1 : host h with
  | false =>
    have HN : Hid (underS h d = false) := under_nohost (.inl h1)
    have HH := hide h1
    clear h1
    go_enter Tryd.func26, Tryd.ntmps26
    go_wp2_with fail
    refine (hostL_any h _ henv hh).mono ?_
    rintro e w1 ⟨rfl, hb1⟩
    rw [HH.out]
    go_wp2_with fail
    go_ret
    exact ⟨ret_bool HN.out.symm, hb1⟩
  | true =>
  cases h2 : host d with
  | false =>
    have HN : Hid (underS h d = false) := under_nohost (.inr h2)
    have HH := hide h1
    have HD := hide h2
    clear h1 h2
    go_enter Tryd.func26, Tryd.ntmps26
    go_wp2_with fail
    refine (hostL_any h _ henv hh).mono ?_
    rintro e w1 ⟨rfl, hb1⟩
    rw [HH.out]
    have E1 := hide (henv.keep hb1)
    have B1 := hide hb1
    clear hb1
    go_wp2_with fail
    refine (hostL_any d _ E1.out hd).mono ?_
    rintro e w2 ⟨rfl, hb2⟩
    rw [HD.out]
    have B2 := hide (B1.out.trans (hb2.mono B1.out.size))
    clear hb2
    go_wp2_with fail
    go_ret
    exact ⟨ret_bool HN.out.symm, B2.out⟩
  | true =>
    have HH := hide h1
    have HD := hide h2
    clear h1 h2
    go_enter Tryd.func26, Tryd.ntmps26
    go_wp2_with fail
    refine (hostL_any h _ henv hh).mono ?_
    rintro e w1 ⟨rfl, hb1⟩
    rw [HH.out]
    have E1 := hide (henv.keep hb1)
    have B1 := hide hb1
    clear hb1
    go_wp2_with fail
    refine (hostL_any d _ E1.out hd).mono ?_
    rintro e w2 ⟨rfl, hb2⟩
    rw [HD.out]
    have B2 := hide (B1.out.trans (hb2.mono B1.out.size))
    have E2 := hide (E1.out.keep hb2)
    clear hb2 E1 B1
    go_wp2_with fail
    go_loopw [0] (fun hv W => ∃ c : List UInt8, hv = .string ⟨c.toArray⟩ ∧ c.length < 4294967281 ∧ Hid (host c = true) ∧ Hid (underS c d = underS h d) ∧ Hid (Env W) ∧ Hid (Below w.heap.size w W)) (fun hv _ => szOf hv)
    case atStart => exact ⟨h, rfl, hh, HH, rfl, E2, B2⟩
    case round =>
      obtain ⟨c, rfl, hcl, hch, hcu, hE, hB⟩ := hrel
      by_cases he : c = d
      · have HE : Hid (underS h d = true) := by unfold Hid; rw [← hcu.out, he]; exact under_self HD.out
        subst he
        go_wp2_with fail
        go_ret
        exact ⟨ret_bool HE.out.symm, hB.out⟩
      · have hb : (c == d) = false := beq_eq_false_iff_ne.2 he
        rcases splitc 46 c with hn | ⟨a, b, rfl, hn⟩
        · have HC := hide (cutc_none 46 c hn)
          have HE : Hid (underS h d = false) := by unfold Hid; rw [← hcu.out]; exact under_no hn he
          clear he hn
          go_wp2_with fail
          refine (cutD_any c _ hE.out hcl).mono ?_
          rintro e w3 ⟨rfl, hb3⟩
          rw [HC.out]
          have B3 := hide (hB.out.trans (hb3.mono hB.out.size))
          clear hb3
          go_wp2_with fail
          go_ret
          exact ⟨ret_bool HE.out.symm, B3.out⟩
        · have HC := hide (cutc_app 46 a b hn)
          have HE : Hid (underS b d = underS h d) := by unfold Hid; rw [← hcu.out]; exact (under_step hn hch.out he).symm
          have HB : Hid (host b = true) := host_tail hch.out
          have hlen : b.length < (a ++ 46 :: b).length := by simp; omega
          generalize a ++ 46 :: b = c at *
          clear he hn
          go_wp2_with fail
          refine (cutD_any c _ hE.out hcl).mono ?_
          rintro e w3 ⟨rfl, hb3⟩
          rw [HC.out]
          have B3 := hide (hB.out.trans (hb3.mono hB.out.size))
          have E3 := hide (hE.out.keep hb3)
          clear hb3
          go_wp2_with fail
          refine ⟨⟨b, rfl, by omega, HB, HE, E3, B3⟩, by simp only [szOf, size_mk]; exact hlen⟩
end Go.Proofs.YtlmchmhdojkokaaDoor
