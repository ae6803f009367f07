/- The walk over moatlaw1.UrlPorts: it answers true, whatever it is handed. -/
import Derived.Test.YtkomggockjeibaaDoorW6
import Derived.Test.YtkomggockjeibaaDoorW7
import Derived.Deep.DeepCutAuto
namespace Go.Proofs.YtkomggockjeibaaDoor
open Go.RowKit Go.Proofs.Url

theorem readL_any (l : List UInt8) (w : World) (henv : Env w) (h : l.length < 4294967281) :
    Calls Tryd.prog 9 #[.string ⟨l.toArray⟩] w fun e w' => e = .returned (.tuple #[originV (readS l), .bool (readS l).isSome]) ∧ Below w.heap.size w w' := read_any ⟨l.toArray⟩ w henv (by rw [size_mk]; exact h)

theorem by_data {a b : ByteArray} (h : a.data.toList = b.data.toList) : a = b := by
  cases a; cases b; simp only at h; rw [Array.toList_inj] at h; rw [h]
theorem read_good (b : Bool) (n : Nat) (h : 1 ≤ n ∧ n ≤ 65535) (w : World) (henv : Env w) :
    Calls Tryd.prog 9 #[.string ((⟨(schm b ++ slashes).toArray⟩ : ByteArray) ++ ⟨#[97, 46, 98, 58]⟩ ++ ⟨(Lib.decDigits n).toArray⟩)] w
      fun e w' => e = .returned (.tuple #[.agg #[.string ⟨#[]⟩, .string ⟨(schm b).toArray⟩, .string ⟨ab.toArray⟩, .int .i64 n], .bool true]) ∧ Below w.heap.size w w' := by
  have hl := dec_len 4 n (by omega)
  have hs : (schm b).length ≤ 5 := by cases b <;> decide
  have e : ((⟨(schm b ++ slashes).toArray⟩ : ByteArray) ++ ⟨#[97, 46, 98, 58]⟩ ++ ⟨(Lib.decDigits n).toArray⟩) = ⟨(schm b ++ slashes ++ (ab ++ 58 :: Lib.decDigits n)).toArray⟩ := by_data (by simp [ab])
  have h0 := readL_any (schm b ++ slashes ++ (ab ++ 58 :: Lib.decDigits n)) w henv (by simp [slashes, ab]; omega)
  rw [read_dec b n (by omega), if_pos h] at h0
  rw [e]; exact h0
theorem read_bad (b : Bool) (n : Nat) (hn : n ≤ 70000) (h : ¬ (1 ≤ n ∧ n ≤ 65535)) (w : World) (henv : Env w) :
    Calls Tryd.prog 9 #[.string ((⟨(schm b ++ slashes).toArray⟩ : ByteArray) ++ ⟨#[97, 46, 98, 58]⟩ ++ ⟨(Lib.decDigits n).toArray⟩)] w
      fun e w' => e = .returned (.tuple #[.agg #[.string ⟨#[]⟩, .string ⟨#[]⟩, .string ⟨#[]⟩, .int .i64 0], .bool false]) ∧ Below w.heap.size w w' := by
  have hl := dec_len 4 n (by omega)
  have hs : (schm b).length ≤ 5 := by cases b <;> decide
  have e : ((⟨(schm b ++ slashes).toArray⟩ : ByteArray) ++ ⟨#[97, 46, 98, 58]⟩ ++ ⟨(Lib.decDigits n).toArray⟩) = ⟨(schm b ++ slashes ++ (ab ++ 58 :: Lib.decDigits n)).toArray⟩ := by_data (by simp [ab])
  have h0 := readL_any (schm b ++ slashes ++ (ab ++ 58 :: Lib.decDigits n)) w henv (by simp [slashes, ab]; omega)
  rw [read_dec b n (by omega), if_neg h] at h0
  rw [e]; exact h0
theorem read_nil (b : Bool) (n : Nat) (hn : n ≤ 70000) (w : World) (henv : Env w) :
    Calls Tryd.prog 9 #[.string ((⟨(schm b ++ slashes).toArray⟩ : ByteArray) ++ ⟨#[97, 46, 98, 58, 48]⟩ ++ ⟨(Lib.decDigits n).toArray⟩)] w
      fun e w' => e = .returned (.tuple #[.agg #[.string ⟨#[]⟩, .string ⟨#[]⟩, .string ⟨#[]⟩, .int .i64 0], .bool false]) ∧ Below w.heap.size w w' := by
  have hl := dec_len 4 n (by omega)
  have hs : (schm b).length ≤ 5 := by cases b <;> decide
  have e : ((⟨(schm b ++ slashes).toArray⟩ : ByteArray) ++ ⟨#[97, 46, 98, 58, 48]⟩ ++ ⟨(Lib.decDigits n).toArray⟩) = ⟨(schm b ++ slashes ++ (ab ++ 58 :: 48 :: Lib.decDigits n)).toArray⟩ := by_data (by simp [ab])
  have h0 := readL_any (schm b ++ slashes ++ (ab ++ 58 :: 48 :: Lib.decDigits n)) w henv (by simp [slashes, ab]; omega)
  rw [read_zero] at h0
  rw [e]; exact h0
theorem text_good (b : Bool) (n : Nat) (h : 1 ≤ n ∧ n ≤ 65535) (hn : ¬ (n : Int) = ownB b) (w : World) (henv : Env w) :
    Calls Tryd.prog 17 #[.agg #[.string ⟨#[]⟩, .string ⟨(schm b).toArray⟩, .string ⟨ab.toArray⟩, .int .i64 n]] w
      fun e w' => e = .returned (.string ((⟨(schm b ++ slashes).toArray⟩ : ByteArray) ++ ⟨#[97, 46, 98, 58]⟩ ++ ⟨(Lib.decDigits n).toArray⟩)) ∧ Below w.heap.size w w' := by
  have hs : (schm b).length ≤ 5 := by cases b <;> decide
  have e : ((⟨(schm b ++ slashes).toArray⟩ : ByteArray) ++ ⟨#[97, 46, 98, 58]⟩ ++ ⟨(Lib.decDigits n).toArray⟩) = ⟨(schm b ++ slashes ++ (ab ++ 58 :: Lib.decDigits n)).toArray⟩ := by_data (by simp [ab])
  have h0 := text_any [] (schm b) ab n w henv (by omega) (by decide)
  rw [text_dec b n h hn] at h0
  rw [e]; exact h0
theorem text_self (b : Bool) (n : Nat) (hn : (n : Int) = ownB b) (w : World) (henv : Env w) :
    Calls Tryd.prog 17 #[.agg #[.string ⟨#[]⟩, .string ⟨(schm b).toArray⟩, .string ⟨ab.toArray⟩, .int .i64 n]] w
      fun e w' => e = .returned (.string ((⟨(schm b ++ slashes).toArray⟩ : ByteArray) ++ ⟨#[97, 46, 98]⟩)) ∧ Below w.heap.size w w' := by
  have hs : (schm b).length ≤ 5 := by cases b <;> decide
  have e : ((⟨(schm b ++ slashes).toArray⟩ : ByteArray) ++ ⟨#[97, 46, 98]⟩) = ⟨(schm b ++ slashes ++ ab).toArray⟩ := by_data (by simp [ab])
  have h0 := text_any [] (schm b) ab n w henv (by omega) (by decide)
  rw [hn, text_own b] at h0
  rw [e, hn]; exact h0

set_option maxHeartbeats 1000000 in
set_option maxRecDepth 100000 in
theorem urlPorts_walk (x : Int) (b : Bool) (w : World) (henv : Env w) :
    Calls Tryd.prog 5 #[.int .i64 x, .bool b] w fun e w' => e = .returned (.bool true) ∧ Below w.heap.size w w' := by
  go_enter Tryd.func5, Tryd.ntmps5
  go_wp2_with fail
  refine (low_any _ _ _ (by omega) (by omega)).mono ?_
  rintro e w1 ⟨rfl, rfl⟩
  have c0 := low_nn x 70000 (by omega)
  have c6 := low_lt x 70000 (by omega)
  generalize low x 70000 = r at *
  obtain ⟨n, rfl⟩ := Int.eq_ofNat_of_zero_le c0
  have hn : n ≤ 70000 := by omega
  have hdl := dec_len 4 n (by omega)
  go_upto_if 15 with fail
  go_cut [5, 6] (fun hd ow wx => hd = .string ⟨(schm b ++ slashes).toArray⟩ ∧ ow = .int .i64 (ownB b) ∧ wx = w1)
  case first =>
    cases b
    all_goals go_wp2_with fail
    all_goals go_meet
    all_goals (case rel => exact ⟨rfl, rfl, rfl⟩)
  case rest =>
    obtain ⟨rfl, rfl, rfl⟩ := hcut
    have hsl : (schm b ++ slashes).length ≤ 8 := by cases b <;> decide
    have RB := hide (read_bad b n hn)
    have RG := hide (read_good b n)
    have RN := hide (read_nil b n hn)
    have TG := hide (text_good b n)
    have TS := hide (text_self b n)
    generalize schm b ++ slashes = hd at *
    go_wp2_with fail
    refine (digits_any _ _ hn).mono ?_
    rintro e w2 ⟨rfl, hb2⟩
    have E2 := hide (henv.keep hb2)
    by_cases hr : 1 ≤ n ∧ n ≤ 65535
    rotate_left
    · go_wp2_with fail
      refine (RB.out hr _ E2.out).mono ?_
      rintro e w3 ⟨rfl, hb3⟩
      have E3 := hide (E2.out.keep hb3)
      have B3 : Hid (Below wc.heap.size wc w3) := hb2.trans (hb3.mono hb2.size)
      clear hb2 hb3
      go_wp2_with fail
      refine (digits_any _ _ hn).mono ?_
      rintro e w4 ⟨rfl, hb4⟩
      obtain ⟨hc4, hf4⟩ := bcell hb4
      have hz4 : w3.heap.size < w4.heap.size := by have := hb4.size; simp at this; omega
      have E4 := hide ((E3.out.alloc _).keep hb4)
      have s3 := B3.out.size
      have B4 : Hid (Below wc.heap.size wc w4) := (B3.out.alloc s3 _).trans (hb4.mono (by simp; omega))
      clear hb4
      go_wp2_with fail
      refine (RN.out _ E4.out).mono ?_
      rintro e w5 ⟨rfl, hb5⟩
      obtain ⟨hc5, hf5⟩ := bcell hb5
      have hz5 : w3.heap.size < w5.heap.size := by have := hb5.size; omega
      have E5 := hide (E4.out.keep hb5)
      have B5 : Hid (Below wc.heap.size wc w5) := B4.out.trans (hb5.mono B4.out.size)
      clear hb5
      have hr' : (n : Int) < 1 ∨ 65535 < (n : Int) := by omega
      clear hr
      clear RB RG RN TG TS hn c6 hdl hsl
      rcases hr' with hr | hr
      all_goals (
        go_wp2_with fail
        refine (awake_any _ (E5.out.alloc _)).mono ?_
        rintro e w6 ⟨rfl, hb6⟩
        have s5 := B5.out.size
        have B6 : Hid (Below wc.heap.size wc w6) := (B5.out.alloc s5 _).trans (hb6.mono (by simp; omega))
        clear hb6
        go_wp2_with fail
        go_ret
        exact ⟨rfl, B6.out⟩)
    · obtain ⟨hr1, hr2⟩ := hr
      have RG' := hide (RG.out ⟨hr1, hr2⟩)
      have TG' := hide (TG.out ⟨hr1, hr2⟩)
      have hr3 : 1 ≤ (n : Int) := by omega
      have hr4 : (n : Int) ≤ 65535 := by omega
      clear RG TG RB hr1 hr2
      go_wp2_with fail
      refine (RG'.out _ E2.out).mono ?_
      rintro e w3 ⟨rfl, hb3⟩
      have E3 := hide (E2.out.keep hb3)
      have B3 : Hid (Below wc.heap.size wc w3) := hb2.trans (hb3.mono hb2.size)
      clear hb2 hb3
      go_wp2_with fail
      refine (digits_any _ _ hn).mono ?_
      rintro e w4 ⟨rfl, hb4⟩
      obtain ⟨hc4, hf4⟩ := bcell hb4
      have hz4 : w3.heap.size < w4.heap.size := by have := hb4.size; simp at this; omega
      have E4 := hide ((E3.out.alloc _).keep hb4)
      have s3 := B3.out.size
      have B4 : Hid (Below wc.heap.size wc w4) := (B3.out.alloc s3 _).trans (hb4.mono (by simp; omega))
      clear hb4
      go_wp2_with fail
      refine (RN.out _ E4.out).mono ?_
      rintro e w5 ⟨rfl, hb5⟩
      obtain ⟨hc5, hf5⟩ := bcell hb5
      have hz5 : w3.heap.size < w5.heap.size := by have := hb5.size; omega
      have hz5' : w3.heap.size < w5.heap.size + 1 := by omega
      have E5 := hide (E4.out.keep hb5)
      have B5 : Hid (Below wc.heap.size wc w5) := B4.out.trans (hb5.mono B4.out.size)
      have s5 := B5.out.size
      clear hb5 RN
      clear hn c6 
      by_cases ho : (n : Int) = ownB b
      · have T := hide (TS.out ho)
        have ho' : ((n : Int) == ownB b) = true := beq_iff_eq.2 ho
        clear ho TS TG'
        go_wp2_with fail
        refine (T.out _ (E5.out.alloc _)).mono ?_
        rintro e w6 ⟨rfl, hb6⟩
        obtain ⟨hc6, hf6⟩ := bcell hb6
        have hz6 : w3.heap.size < w6.heap.size := by have := hb6.size; simp at this; omega
        have E6 := hide ((E5.out.alloc _).keep hb6)
        have B6 : Hid (Below wc.heap.size wc w6) := (B5.out.alloc s5 _).trans (hb6.mono (by simp; omega))
        clear hb6
        go_wp2_with fail
        refine (awake_any _ E6.out).mono ?_
        rintro e w7 ⟨rfl, hb7⟩
        have B7 : Hid (Below wc.heap.size wc w7) := B6.out.trans (hb7.mono B6.out.size)
        clear hb7
        go_wp2_with fail
        go_ret
        exact ⟨rfl, B7.out⟩
      · have T := hide (TG'.out ho)
        have ho' : ((n : Int) == ownB b) = false := beq_eq_false_iff_ne.2 ho
        have ho2 : ((n : Int) != ownB b) = true := by rw [bne_iff_ne]; exact ho
        clear ho TS TG'
        go_wp2_with fail
        refine (T.out _ (E5.out.alloc _)).mono ?_
        rintro e w6 ⟨rfl, hb6⟩
        obtain ⟨hc6, hf6⟩ := bcell hb6
        have hz6 : w3.heap.size < w6.heap.size := by have := hb6.size; simp at this; omega
        have E6 := hide ((E5.out.alloc _).keep hb6)
        have B6 : Hid (Below wc.heap.size wc w6) := (B5.out.alloc s5 _).trans (hb6.mono (by simp; omega))
        clear hb6
        go_wp2_with fail
        refine (awake_any _ E6.out).mono ?_
        rintro e w7 ⟨rfl, hb7⟩
        have B7 : Hid (Below wc.heap.size wc w7) := B6.out.trans (hb7.mono B6.out.size)
        clear hb7
        go_wp2_with fail
        go_ret
        exact ⟨rfl, B7.out⟩
end Go.Proofs.YtkomggockjeibaaDoor
