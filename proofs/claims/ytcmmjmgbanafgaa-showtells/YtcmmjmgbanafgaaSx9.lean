/- The walk over moatref10.Parser's term and formula (text by make/sx9.py); factor, term, formula whole. -/
import Derived.Test.YtcmmjmgbanafgaaSx8
namespace Go.Proofs.Ytcmmjmgbanafgaa
open Go.RowKit Go.Proofs.Url Go.Proofs.Url.Syn

/-- What a parser has left to read. -/
def leftOf (W : World) (g n : Nat) : Nat := match W.cell? ⟨g, 2, none⟩, W.cell? ⟨g, 1, none⟩ with
  | some (.int _ c), some (.int _ i) => if c = 0 then n + 1 - i.toNat else 0
  | _, _ => 0
theorem PS.left {W : World} {g : Nat} {ao : Option Addr} {cap : Nat} {ts r : List Tk} (h : PS W g ao cap ts r false) : leftOf W g ts.length = r.length + 1 := by
  obtain ⟨i, hi, hr, hp⟩ := h.ex
  unfold leftOf
  rw [hp.c2, hp.c1, ← hr, List.length_drop]
  simp; omega
theorem PS.left0 {W : World} {g : Nat} {ao : Option Addr} {cap : Nat} {ts r : List Tk} (h : PS W g ao cap ts r true) : leftOf W g ts.length = 0 := by
  obtain ⟨i, hi, hr, hp⟩ := h.ex
  unfold leftOf
  rw [hp.c2, hp.c1]
  simp

set_option maxHeartbeats 2000000 in
set_option maxRecDepth 100000 in
theorem ter_step (n : Nat) (IH : ∀ m, m ≤ n → FacOk m) : TerOk (n + 1) := by
  intro g ao cap ts r w h hl hf
  have IHh := hide IH
  have HL := hide hl
  have HE : Hid (terF (n + 1) r = (facF n r).then (terL n)) := terF_succ n r
  have HFu : Hid (3 * r.length + 1 ≤ n) := by unfold Hid; omega
  have hgl0 := h.lt
  clear hf hl IH
  go_enter Try.func79, Try.ntmps79
  go_wp2_with fail
  refine (IHh.out n (Nat.le_refl _) g ao cap ts r w h HL.out HFu.out).mono ?_
  rintro e w1 ⟨p, rfl, B1, hO⟩
  have B1 := hide B1
  clear h
  go_wp2_with fail
  go_loopw [3] (fun pv W => ∃ p, pv = .pointer p ∧ Hid (ButP g w W) ∧ ((∃ m a r', m ≤ n ∧ 3 * r'.length + 1 ≤ m ∧ Hid (terF (n + 1) r = terL (m + 1) a r') ∧ Hid (NodeUp w g W p a) ∧ Hid (PS W g ao cap ts r' false)) ∨ (∃ r', Hid (terF (n + 1) r = .bad r') ∧ Hid (PS W g ao cap ts r' true)))) (fun _ W => leftOf W g ts.length)
  case atStart =>
    refine ⟨p, rfl, B1, ?_⟩
    cases hx : facF n r with
    | ok a r' =>
      rw [hx] at hO
      have hs := (short_all _).1 _ _ _ hx
      have hfu := HFu.out
      obtain ⟨k, rfl⟩ : ∃ k, n = k + 1 := ⟨n - 1, by omega⟩
      exact .inl ⟨k, a, r', by omega, by omega, by unfold Hid; rw [HE.out, hx]; rfl, hO.1, hO.2⟩
    | bad r' =>
      rw [hx] at hO
      exact .inr ⟨r', by unfold Hid; rw [HE.out, hx]; rfl, hO⟩
  case round =>
    obtain ⟨p', rfl, hB, hst⟩ := hrel
    rcases hst with ⟨m, a, r', hm, hfu, hE, hN, hS⟩ | ⟨r', hE, hS⟩
    · cases hq : isT w_and_ r' with
      | false =>
        have HR : Hid (terF (n + 1) r = .ok a r') := by unfold Hid; rw [hE.out, terL_succ, if_neg (by simp [hq])]
        go_wp2_with fail
        refine (takeNo hS.out HL.out hq).mono ?_
        rintro e w4 ⟨rfl, S4, B4⟩
        have N4 := hide (hN.out.but B4)
        have B4 := hide (hB.out.trans B4)
        have S4 := hide S4
        clear hB hS hN hE hq
        go_wp2_with fail
        go_ret
        rw [HR.out]
        exact OutP.ok S4.out N4.out B4.out
      | true =>
        have HR : Hid (terF (n + 1) r = (facF m r'.tail).then fun b r => terL m (.both w_and_ a b) r) := by unfold Hid; rw [hE.out, terL_succ, if_pos hq]
        have hlen := isT_len hq
        have HLe : Hid (leftOf wr g ts.length = r'.length + 1) := hS.out.left
        go_wp2_with fail
        refine (takeYes hS.out HL.out hq).mono ?_
        rintro e w4 ⟨rfl, S4, B4⟩
        have N4 := hide (hN.out.but B4)
        have B4 := hide (hB.out.trans B4)
        have S4 := hide S4
        clear hB hS hN hE hq
        have HFm : Hid (3 * r'.tail.length + 1 ≤ m) := by unfold Hid; omega
        go_wp2_with fail
        refine (IHh.out m hm g ao cap ts r'.tail w4 S4.out HL.out HFm.out).mono ?_
        rintro e w5 ⟨q, rfl, B5, hO⟩
        have hs4 := B4.out.size
        have N5 := hide (N4.out.but B5)
        have B5 := hide (B4.out.trans B5)
        clear S4 B4 N4
        cases hx : facF m r'.tail with
        | ok b r'' =>
          rw [hx] at hO HR
          obtain ⟨NQ, S5⟩ := hO
          have hs2 := (short_all _).1 _ _ _ hx
          have N6 := hide (fun t1 t2 => N5.out.newBoth (NQ.low hs4) B5.out.size w_and_ t1 t2)
          have S6 := hide (fun o1 o2 => (S5.alloc o1).alloc o2)
          have B6 := hide (fun o1 o2 => (B5.out.trans (ButP.alloc g w5 o1)).trans (ButP.alloc g _ o2))
          obtain ⟨m', rfl⟩ : ∃ m', m = m' + 1 := ⟨m - 1, by omega⟩
          have HR2 : Hid (terF (n + 1) r = terL (m' + 1) (.both w_and_ a b) r'') := HR.out
          have HLt : Hid (r''.length + 1 < r'.length + 1) := by unfold Hid; omega
          clear hx NQ S5 N5 B5 HR
          go_wp2_with fail
          refine ⟨⟨_, rfl, B6.out _ _, .inl ⟨m', .both w_and_ a b, r'', by omega, by omega, HR2, N6.out _ _, S6.out _ _⟩⟩, ?_⟩
          rw [HLe.out, (S6.out _ _).left]
          exact HLt.out
        | bad r'' =>
          rw [hx] at hO HR
          have HR2 : Hid (terF (n + 1) r = .bad r'') := HR.out
          have S6 := hide (fun o1 o2 => (PS.alloc hO o1).alloc o2)
          have B6 := hide (fun o1 o2 => (B5.out.trans (ButP.alloc g w5 o1)).trans (ButP.alloc g _ o2))
          clear hx hO N5 B5 HR
          go_wp2_with fail
          refine ⟨⟨_, rfl, B6.out _ _, .inr ⟨r'', HR2, S6.out _ _⟩⟩, ?_⟩
          rw [HLe.out, (S6.out _ _).left0]
          exact Nat.succ_pos _
    · go_wp2_with fail
      refine (takeBad _ hS.out HL.out).mono ?_
      rintro e w4 ⟨rfl, S4, B4⟩
      have B4 := hide (hB.out.trans B4)
      have S4 := hide S4
      clear hB hS
      go_wp2_with fail
      go_ret
      rw [hE.out]
      exact OutP.bad S4.out B4.out

set_option maxHeartbeats 2000000 in
set_option maxRecDepth 100000 in
theorem for_step (n : Nat) (IH : ∀ m, m ≤ n → TerOk m) : ForOk (n + 1) := by
  intro g ao cap ts r w h hl hf
  have IHh := hide IH
  have HL := hide hl
  have HE : Hid (forF (n + 1) r = (terF n r).then (forL n)) := forF_succ n r
  have HFu : Hid (3 * r.length + 2 ≤ n) := by unfold Hid; omega
  have hgl0 := h.lt
  clear hf hl IH
  go_enter Try.func66, Try.ntmps66
  go_wp2_with fail
  refine (IHh.out n (Nat.le_refl _) g ao cap ts r w h HL.out HFu.out).mono ?_
  rintro e w1 ⟨p, rfl, B1, hO⟩
  have B1 := hide B1
  clear h
  go_wp2_with fail
  go_loopw [3] (fun pv W => ∃ p, pv = .pointer p ∧ Hid (ButP g w W) ∧ ((∃ m a r', m ≤ n ∧ 3 * r'.length + 1 ≤ m ∧ Hid (forF (n + 1) r = forL (m + 1) a r') ∧ Hid (NodeUp w g W p a) ∧ Hid (PS W g ao cap ts r' false)) ∨ (∃ r', Hid (forF (n + 1) r = .bad r') ∧ Hid (PS W g ao cap ts r' true)))) (fun _ W => leftOf W g ts.length)
  case atStart =>
    refine ⟨p, rfl, B1, ?_⟩
    cases hx : terF n r with
    | ok a r' =>
      rw [hx] at hO
      have hs := (short_all _).2.1 _ _ _ hx
      have hfu := HFu.out
      obtain ⟨k, rfl⟩ : ∃ k, n = k + 1 := ⟨n - 1, by omega⟩
      exact .inl ⟨k, a, r', by omega, by omega, by unfold Hid; rw [HE.out, hx]; rfl, hO.1, hO.2⟩
    | bad r' =>
      rw [hx] at hO
      exact .inr ⟨r', by unfold Hid; rw [HE.out, hx]; rfl, hO⟩
  case round =>
    obtain ⟨p', rfl, hB, hst⟩ := hrel
    rcases hst with ⟨m, a, r', hm, hfu, hE, hN, hS⟩ | ⟨r', hE, hS⟩
    · cases hq : isT w_or_ r' with
      | false =>
        have HR : Hid (forF (n + 1) r = .ok a r') := by unfold Hid; rw [hE.out, forL_succ, if_neg (by simp [hq])]
        go_wp2_with fail
        refine (takeNo hS.out HL.out hq).mono ?_
        rintro e w4 ⟨rfl, S4, B4⟩
        have N4 := hide (hN.out.but B4)
        have B4 := hide (hB.out.trans B4)
        have S4 := hide S4
        clear hB hS hN hE hq
        go_wp2_with fail
        go_ret
        rw [HR.out]
        exact OutP.ok S4.out N4.out B4.out
      | true =>
        have HR : Hid (forF (n + 1) r = (terF m r'.tail).then fun b r => forL m (.both w_or_ a b) r) := by unfold Hid; rw [hE.out, forL_succ, if_pos hq]
        have hlen := isT_len hq
        have HLe : Hid (leftOf wr g ts.length = r'.length + 1) := hS.out.left
        go_wp2_with fail
        refine (takeYes hS.out HL.out hq).mono ?_
        rintro e w4 ⟨rfl, S4, B4⟩
        have N4 := hide (hN.out.but B4)
        have B4 := hide (hB.out.trans B4)
        have S4 := hide S4
        clear hB hS hN hE hq
        have HFm : Hid (3 * r'.tail.length + 2 ≤ m) := by unfold Hid; omega
        go_wp2_with fail
        refine (IHh.out m hm g ao cap ts r'.tail w4 S4.out HL.out HFm.out).mono ?_
        rintro e w5 ⟨q, rfl, B5, hO⟩
        have hs4 := B4.out.size
        have N5 := hide (N4.out.but B5)
        have B5 := hide (B4.out.trans B5)
        clear S4 B4 N4
        cases hx : terF m r'.tail with
        | ok b r'' =>
          rw [hx] at hO HR
          obtain ⟨NQ, S5⟩ := hO
          have hs2 := (short_all _).2.1 _ _ _ hx
          have N6 := hide (fun t1 t2 => N5.out.newBoth (NQ.low hs4) B5.out.size w_or_ t1 t2)
          have S6 := hide (fun o1 o2 => (S5.alloc o1).alloc o2)
          have B6 := hide (fun o1 o2 => (B5.out.trans (ButP.alloc g w5 o1)).trans (ButP.alloc g _ o2))
          obtain ⟨m', rfl⟩ : ∃ m', m = m' + 1 := ⟨m - 1, by omega⟩
          have HR2 : Hid (forF (n + 1) r = forL (m' + 1) (.both w_or_ a b) r'') := HR.out
          have HLt : Hid (r''.length + 1 < r'.length + 1) := by unfold Hid; omega
          clear hx NQ S5 N5 B5 HR
          go_wp2_with fail
          refine ⟨⟨_, rfl, B6.out _ _, .inl ⟨m', .both w_or_ a b, r'', by omega, by omega, HR2, N6.out _ _, S6.out _ _⟩⟩, ?_⟩
          rw [HLe.out, (S6.out _ _).left]
          exact HLt.out
        | bad r'' =>
          rw [hx] at hO HR
          have HR2 : Hid (forF (n + 1) r = .bad r'') := HR.out
          have S6 := hide (fun o1 o2 => (PS.alloc hO o1).alloc o2)
          have B6 := hide (fun o1 o2 => (B5.out.trans (ButP.alloc g w5 o1)).trans (ButP.alloc g _ o2))
          clear hx hO N5 B5 HR
          go_wp2_with fail
          refine ⟨⟨_, rfl, B6.out _ _, .inr ⟨r'', HR2, S6.out _ _⟩⟩, ?_⟩
          rw [HLe.out, (S6.out _ _).left0]
          exact Nat.succ_pos _
    · go_wp2_with fail
      refine (takeBad _ hS.out HL.out).mono ?_
      rintro e w4 ⟨rfl, S4, B4⟩
      have B4 := hide (hB.out.trans B4)
      have S4 := hide S4
      clear hB hS
      go_wp2_with fail
      go_ret
      rw [hE.out]
      exact OutP.bad S4.out B4.out

theorem fac_step (n : Nat) (IF : FacOk n) (IO : ForOk n) : FacOk (n + 1) := by
  intro g ao cap ts r w h hl hf
  cases hq : isT w_not_ r with
  | true => exact fac_not n IF g ao cap ts r w h hl hf hq
  | false =>
    cases hp : isT w_lpa r with
    | true => exact fac_paren n IO g ao cap ts r w h hl hf hq hp
    | false => exact fac_word n g ao cap ts r w h hl hq hp
theorem parse_all : ∀ n, FacOk n ∧ TerOk n ∧ ForOk n := by
  intro n
  induction n using Nat.strongRecOn with
  | ind n ih =>
    cases n with
    | zero => exact ⟨fun _ _ _ _ _ _ _ _ hf => absurd hf (by omega), fun _ _ _ _ _ _ _ _ hf => absurd hf (by omega), fun _ _ _ _ _ _ _ _ hf => absurd hf (by omega)⟩
    | succ n => exact ⟨fac_step n (ih n (Nat.lt_succ_self _)).1 (ih n (Nat.lt_succ_self _)).2.2, ter_step n (fun m hm => (ih m (Nat.lt_succ_of_le hm)).1), for_step n (fun m hm => (ih m (Nat.lt_succ_of_le hm)).2.1)⟩
theorem pFormula_any (g : Nat) (ao : Option Addr) (cap : Nat) (ts r : List Tk) (w : World) (h : PS w g ao cap ts r false) (hl : ts.length < 4294967281) :
    Calls Try.prog 66 #[.pointer (some ⟨g, 0, none⟩)] w fun e w' => OutP (forS r) g ao cap ts w e w' := (parse_all (3 * r.length + 3)).2.2 g ao cap ts r w h hl (Nat.le_refl _)
end Go.Proofs.Ytcmmjmgbanafgaa
