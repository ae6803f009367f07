/- The walk over moatlaw4.SafeTells. -/
import Derived.Test.YtkfdipobpdhboaaH3
import Derived.Test.YtkfdipobpdhboaaRows5
import Derived.Lib.QuietBelow
import Derived.Deep.QuietTactic
import Derived.BigQuiet
import Derived.BigRegion
import Derived.Deep.DeepCutAuto
namespace Go.Proofs.Ytkfdipobpdhboaa
open Go.RowKit Go.Proofs.Url

/-- append to a row of the walk's own, where the operation's guard says yes. -/
theorem wpList_append_want {P : Program} {ops : Array Oper} {rest : List Oper} {o : Oper} {a : Act} {w : World} {Q : Exit → Act → World → Prop} (hw : Region.wanted o (yielded ops a.tmps) = true) (s x : Operand) (t : TypeId)
    (ho : o.op = .call { callee := .builtin .append, args := #[s, x], argTypes := #[t, t] })
    (base : Nat) (e : TypeId) (i : TypeInfo) (z : Value) (size bytes : Nat) (ht : P.underlying t = some (.slice e)) (hi : P.info? e = some i) (hz : i.zero = some z)
    (hsize : i.size = size) (hby : i.bytes = bytes) (hzs : z.cells.size = size) (hsz : 0 < size)
    (v : Value) (n : Nat) (xs : List Value) (hs : a.eval s = v) (hown : w.ownsRow base e size v n xs)
    (ad : Addr) (m c : Nat) (news : List Value) (hx : a.eval x = .slice (some ad) m c) (hl : news.length = m * size) (hnews : ∀ j u, news[j]? = some u → w.cell? (ad.add j) = some u) (h1 : ∀ u ∈ news, u.oneCell' = true)
    (h63 : n + m ≤ maxLen) (hbytes : (n + m) * bytes ≤ 140737488355328) (hbase : base ≤ w.heap.size)
    (h : ∀ v' w', w'.ownsRow base e size v' (n + m) (xs ++ news) → w.grownBy w' v.ownBlock → (v' = .slice none 0 0 ↔ v = .slice none 0 0 ∧ m = 0) → wpList P ops Q rest (a.put o.dst v') w') : wpList P ops Q (o :: rest) a w :=
  BigFrame.wpList_want hw fun _ hK => wp_append_own w s x t ho base e i z size bytes ht hi hz hsize hby hzs hsz v n xs hs hown ad m c news hx hl hnews h1 h63 hbytes hbase fun v' w' h2 h3 h4 => hK _ _ (h v' w' h2 h3 h4)

set_option maxHeartbeats 4000000 in
set_option maxRecDepth 100000 in
theorem safeTells_walk (m : List UInt8) (ao : Option Addr) (hs : List (List UInt8)) (cap : Nat) (w : World) (hq : HeadsAt w ao hs) (hl : hs.length ≤ maxLen) :
    Calls Try.prog 3 #[.string ⟨m.toArray⟩, .slice ao hs.length cap] w fun e w' => e = .returned (.bool true) ∧ Below w.heap.size w w' := by
  obtain ⟨i0, hi, hz0, hz1, hz2⟩ := info_parts infoS
  have HQ := hide hq
  have HL := hide hl
  clear hq hl
  by_cases h60 : 60 < (m.length : Int)
  · go_enter Try.func3, Try.ntmps3
    go_wp2_with fail
    refine (awake4_any _).mono ?_
    rintro e w1 ⟨rfl, hb1⟩
    go_wp2_with fail
    go_ret
    exact ⟨rfl, hb1⟩
  cases hg : greatS hs 8 60 with
  | true =>
    have HG := hide hg
    clear hg
    go_enter Try.func3, Try.ntmps3
    go_wp2_with fail
    refine (greatTexts_any ao hs cap 8 60 _ HQ.out HL.out).mono ?_
    rintro e w1 ⟨rfl, hb1⟩
    rw [HG.out]
    have B1 := hide hb1
    clear hb1
    go_wp2_with fail
    refine (awake4_any _).mono ?_
    rintro e w2 ⟨rfl, hb2⟩
    have B2 := hide (B1.out.trans (hb2.mono B1.out.size))
    clear hb2
    go_wp2_with fail
    go_ret
    exact ⟨rfl, B2.out⟩
  | false =>
    have HG := hide hg
    obtain ⟨g1, g2⟩ := great_no hg
    have HZ : Hid (∀ h ∈ hs, h.length < 4294967281) := fun h hh => by have := g2 h hh; omega
    have hl8 : hs.length ≤ 8 := by omega
    clear hg g1 g2
    go_enter Try.func3, Try.ntmps3
    go_wp2_with fail
    refine (greatTexts_any ao hs cap 8 60 _ HQ.out HL.out).mono ?_
    rintro e w1 ⟨rfl, hb1⟩
    rw [HG.out]
    have B1 := hide hb1
    have Q1 := hide (HQ.out.keep hb1)
    clear hb1
    go_wp2_with fail
    go_loopw [5] (fun iv W => ∃ k : Nat, k ≤ hs.length ∧ iv = .int .i64 k ∧ Hid (Below w1.heap.size w1 W)) (fun iv _ => hs.length - (intOf iv).toNat)
    case atStart => exact ⟨0, Nat.zero_le _, rfl, Below.refl _ _⟩
    case round =>
      obtain ⟨k, hk, rfl, hB⟩ := hrel
      by_cases hlt : k < hs.length
      · obtain ⟨b, off, rfl, hc⟩ := Q1.out.keep hB.out k hlt
        have hlI : (k : Int) < (hs.length : Int) := by omega
        have hzk := HZ.out hs[k] (List.getElem_mem hlt)
        have C1 := hide (fun d os => Calls.regrown_of (head_any hs[k] (Sort.grow (redrawn wr d) os) hzk))
        have C2 := hide (fun d os => Calls.regrown_of (refHead_any5 hs[k] (Sort.grow (redrawn wr d) os) hzk))
        have k1 := cell_regrown hc
        generalize headS hs[k] = hh at *
        go_wp2_with fail
        refine wp_region_quiet_below (by kernel_rfl) (by kernel_rfl) ?_
        repeat (go_big_quiet_step (first | (go_at_call 8; exact C1.out _ _) | (go_at_call 9; exact C2.out _ _)))
        refine wpQuiet_nil ?_
        rintro _ ⟨pq, rfl⟩
        have hb5 := below_regrown wr pq.d pq.os
        generalize Sort.grow (redrawn wr pq.d) pq.os = w5 at *
        have B5 := hide (hB.out.trans (hb5.mono hB.out.size))
        clear hb5 C1 C2
        have hbb : (hh != hh) = false := by simp
        go_wp2_with fail
        refine ⟨⟨k + 1, by omega, by go_num, B5⟩, by simp [intOf]; omega⟩
      · have BF := hide (B1.out.trans (hB.out.mono B1.out.size))
        have QF := hide (Q1.out.keep hB.out)
        clear Q1
        go_wp2_with fail
        refine (methodB_any m _).mono ?_
        rintro e w2 ⟨rfl, hb2⟩
        have B2 := hide (BF.out.trans (hb2.mono BF.out.size))
        have Q2 := hide (QF.out.keep hb2)
        clear hb2
        go_wp2_with fail
        refine (refSafe_any m _).mono ?_
        rintro e w3 ⟨rfl, hb3⟩
        have B3 := hide (B2.out.trans (hb3.mono B2.out.size))
        have Q3 := hide (Q2.out.keep hb3)
        clear hb3
        have HSm := hide (fun W ao' cap' h => simple_any m ao' hs cap' W h (by omega) HZ.out)
        have HSr := hide (fun W ao' cap' h => refSimple_any m ao' hs cap' W h (by omega) HZ.out)
        generalize simpleS m hs = sm at *
        have e1 : (methodS m == methodS m) = true := by simp
        generalize methodS m = mm at *
        go_wp2_with fail
        refine (knownB_any m _).mono ?_
        rintro e w4 ⟨rfl, hb4⟩
        have B4 := hide (B3.out.trans (hb4.mono B3.out.size))
        have Q4 := hide (Q3.out.keep hb4)
        clear hb4
        go_wp2_with fail
        refine (refKnown_any m _).mono ?_
        rintro e w5 ⟨rfl, hb5⟩
        have B5 := hide (B4.out.trans (hb5.mono B4.out.size))
        have Q5 := hide (Q4.out.keep hb5)
        clear hb5
        have e2 : (knownS m == knownS m) = true := by simp
        generalize knownS m = kk at *
        cases ao with
        | none =>
          have h0 : hs = [] := by
            cases hs with
            | nil => rfl
            | cons x r => obtain ⟨b, off, h, _⟩ := Q5.out 0 (by simp); cases h
          subst h0
          rw [List.length_nil]
          go_wp2_with fail
          refine (HSm.out _ _ _ Q5.out).mono ?_
          rintro e w7 ⟨rfl, hb7⟩
          have B7 := hide (B5.out.trans (hb7.mono B5.out.size))
          have Q7 := hide (Q5.out.keep hb7)
          clear hb7
          go_wp2_with fail
          refine (HSr.out _ _ _ Q7.out).mono ?_
          rintro e w8 ⟨rfl, hb8⟩
          have B8 := hide (B7.out.trans (hb8.mono B7.out.size))
          clear hb8
          have e3 : (sm == sm) = true := by simp
          go_wp2_with fail
          refine (awake4_any _).mono ?_
          rintro e w9 ⟨rfl, hb9⟩
          have B9 := hide (B8.out.trans (hb9.mono B8.out.size))
          clear hb9
          go_wp2_with fail
          go_ret
          exact ⟨rfl, B9.out⟩
        | some ad =>
          have HNw : Hid (∀ j u, (hs.map (fun q => Value.string ⟨q.toArray⟩))[j]? = some u → w5.cell? (ad.add j) = some u) := by
            intro j u hu
            have hj : j < hs.length := by have := (List.getElem?_eq_some_iff.1 hu).1; simpa using this
            obtain ⟨b, off, h, hc⟩ := Q5.out j hj
            cases h
            rw [show (⟨b, off, none⟩ : Addr).add j = ⟨b, off + j, none⟩ by unfold Addr.add; split <;> simp_all, hc]
            simpa [hj] using hu
          have HOn : Hid (∀ u ∈ hs.map (fun q => Value.string ⟨q.toArray⟩), u.oneCell' = true) := fun u hu => by
            obtain ⟨q, _, rfl⟩ := List.mem_map.1 hu; rfl
          go_wp2_with (at_builtin; refine wpList_append_want rfl _ _ 22 rfl w.heap.size 9 i0 (.string ByteArray.empty) 1 16 Try.underlying22 hi hz0 hz1 hz2 rfl (by decide) _ 0 [] rfl (World.ownsRow_nil _ _ _ _) ad hs.length cap (hs.map (fun q => Value.string ⟨q.toArray⟩)) rfl (by simp) HNw.out HOn.out (by unfold maxLen; omega) (by omega) B5.out.size ?_; intro v' w6 hown' hgrow6 hnil6)
          obtain ⟨bo, cb, hv6, hcb⟩ : ∃ bo cb, v' = .slice bo hs.length cb ∧ HeadsAt w6 bo hs := by
            rw [List.nil_append, Nat.zero_add] at hown'
            rcases hown'.2 with ⟨hv, h0⟩ | ⟨g, cp, cur, hv, hg, hh, hn, hm, hsz, htk⟩
            · exact ⟨none, 0, by rw [hv, h0], fun k hk => by omega⟩
            · rw [hv] at hown'
              exact ⟨_, _, hv, heads_own hown'⟩
          have HV := hide hv6
          have B6 : Below w5.heap.size w5 w6 := Below.grown (Below.refl _ _) hgrow6 (Nat.le_refl _) (fun j hj => by cases hj)
          subst hv6
          have Q6 := hide (Q5.out.keep B6)
          have C6 := hide (B5.out.trans (B6.mono B5.out.size))
          have H6 := hide hcb
          clear hown' hgrow6 hnil6 hcb HV
          refine (HSm.out _ _ _ H6.out).mono ?_
          rintro e w7 ⟨rfl, hb7⟩
          have B7 := hide (C6.out.trans (hb7.mono C6.out.size))
          have Q7 := hide (Q6.out.keep hb7)
          clear hb7
          go_wp2_with fail
          refine (HSr.out _ _ _ Q7.out).mono ?_
          rintro e w8 ⟨rfl, hb8⟩
          have B8 := hide (B7.out.trans (hb8.mono B7.out.size))
          clear hb8
          have e3 : (sm == sm) = true := by simp
          go_wp2_with fail
          refine (awake4_any _).mono ?_
          rintro e w9 ⟨rfl, hb9⟩
          have B9 := hide (B8.out.trans (hb9.mono B8.out.size))
          clear hb9
          go_wp2_with fail
          go_ret
          exact ⟨rfl, B9.out⟩
theorem safeTells_string (s : ByteArray) (ao : Option Addr) (hs : List (List UInt8)) (cap : Nat) (w : World) (hq : HeadsAt w ao hs) (hl : hs.length ≤ maxLen) :
    Calls Try.prog 3 #[.string s, .slice ao hs.length cap] w fun e w' => e = .returned (.bool true) ∧ Below w.heap.size w w' := by
  have h := safeTells_walk s.data.toList ao hs cap w hq hl
  rw [mk_data] at h; exact h
end Go.Proofs.Ytkfdipobpdhboaa
