/- Walks over package domain: Labels, SameSite; moatlaw0.SameTexts. -/
import Derived.Test.YtlmchmhdojkokaaDoorS1
namespace Go.Proofs.YtlmchmhdojkokaaDoor
open Go.RowKit Go.Proofs.Url

theorem siteL_any (l : List UInt8) (w : World) (henv : Env w) (h : l.length < 4294967281) :
    Calls Tryd.prog 27 #[.string ⟨l.toArray⟩] w fun e w' => e = .returned (.string ⟨(siteS l).toArray⟩) ∧ Below w.heap.size w w' := site_any ⟨l.toArray⟩ w henv (by rw [size_mk]; unfold maxLen; omega)

theorem owns_base {w : World} {base : Nat} {e : TypeId} {size : Nat} {v : Value} {n : Nat} {xs : List Value} (h : w.ownsRow base e size v n xs) : ∀ j, v.ownBlock = some j → base ≤ j := by
  intro j hj
  rcases h.2 with ⟨rfl, _⟩ | ⟨g, cap, cur, rfl, hb, _⟩
  · cases hj
  · have : g = j := by simpa [Value.ownBlock] using hj
    omega
/-- A row that a walk owns stays as it was where all old blocks do. -/
theorem owns_below {w w' : World} {base : Nat} {e : TypeId} {size : Nat} {v : Value} {n : Nat} {xs : List Value} (h : w.ownsRow base e size v n xs) (hb : Below w.heap.size w w') : w'.ownsRow base e size v n xs := by
  refine ⟨h.1, ?_⟩
  rcases h.2 with h1 | ⟨g, cap, cur, hv, hg, hh, r⟩
  · exact .inl h1
  · refine .inr ⟨g, cap, cur, hv, hg, ?_, r⟩
    rw [hb.block g ?_]; exact hh
    rcases Nat.lt_or_ge g w.heap.size with h | h
    · exact h
    · rw [Array.getElem?_eq_none h] at hh; cases hh
theorem infoS : (Tryd.prog.info? 9).map (fun i => (i.zero, i.size, i.bytes)) = some (some (.string ByteArray.empty), 1, 16) := by kernel_rfl

/-- Where the walk over Labels stands: so many labels lie in its row, the rest is not yet cut. -/
def LabInv (l : List UInt8) (ps : List ByteArray) (cur : List UInt8) (b : Bool) : Prop :=
  if b = true then parts 46 l = ps.map (·.data.toList) ++ parts 46 cur else parts 46 l = ps.map (·.data.toList)
theorem lab_step {l : List UInt8} {ps : List ByteArray} {a b : List UInt8} (h : LabInv l ps (a ++ 46 :: b) true) (hn : ∀ x ∈ a, x ≠ 46) : LabInv l (ps ++ [⟨a.toArray⟩]) b true := by
  unfold LabInv at *; rw [if_pos rfl] at *; rw [h, parts_at 46 a b hn]; simp
theorem lab_last {l : List UInt8} {ps : List ByteArray} {a : List UInt8} (h : LabInv l ps a true) (hn : ∀ x ∈ a, x ≠ 46) : LabInv l (ps ++ [⟨a.toArray⟩]) [] false := by
  unfold LabInv at *; rw [if_pos rfl] at h; rw [if_neg (by decide), h, parts_none 46 a hn]; simp

theorem lab_round {l : List UInt8} {w w3 : World} {ps : List ByteArray} {x : ByteArray} {c : List UInt8} {b : Bool} {v' : Value} (hl : ps.length + c.length + 1 ≤ 60 ∨ b = false)
    (HI : Hid (LabInv l (ps ++ [x]) c b)) (hcl : c.length ≤ 60)
    (hown : w3.ownsRow w.heap.size 9 1 v' (ps.length + 1) (ps.map Value.string ++ [.string x])) (hB : Hid (Below w.heap.size w w3)) :
    ∃ (cur : List UInt8) (qs : List ByteArray) (ao : Option Addr) (cv : Nat) (bb : Bool), Value.string ⟨c.toArray⟩ = .string ⟨cur.toArray⟩ ∧ v' = .slice ao qs.length cv ∧ Value.bool b = .bool bb ∧ cur.length ≤ 60 ∧
      (qs.length + cur.length ≤ 60 ∨ bb = false) ∧ Hid (LabInv l qs cur bb) ∧ Hid (w3.ownsRow w.heap.size 9 1 (.slice ao qs.length cv) qs.length (qs.map Value.string)) ∧ Hid (Below w.heap.size w w3) := by
  have hq : (ps ++ [x]).length = ps.length + 1 := by simp
  obtain ⟨g, cap, hv⟩ : ∃ g cap, v' = .slice (some ⟨g, 0, none⟩) (ps.length + 1) cap := by
    rcases hown.2 with ⟨_, h⟩ | ⟨g, cap, _, h, _⟩
    · omega
    · exact ⟨g, cap, h⟩
  subst hv
  refine ⟨c, ps ++ [x], some ⟨g, 0, none⟩, cap, b, rfl, by rw [hq], rfl, hcl, by rw [hq]; exact hl.imp (fun h => by omega) id, HI, ?_, hB⟩
  unfold Hid; rw [hq, List.map_append]; exact hown

set_option maxHeartbeats 1000000 in
theorem sameSite_any (n1 n2 : ByteArray) (s t g h : List UInt8) (p1 p2 : Int) (w : World) (henv : Env w) (hg : g.length < 4294967281) (hh : h.length < 4294967281) :
    Calls Tryd.prog 23 #[.agg #[.string n1, .string ⟨s.toArray⟩, .string ⟨g.toArray⟩, .int .i64 p1], .agg #[.string n2, .string ⟨t.toArray⟩, .string ⟨h.toArray⟩, .int .i64 p2]] w
      fun e w' => e = .returned (.bool (sameP s t g h)) ∧ Below w.heap.size w w' := by
  have B0 : Hid (∀ o1 o2, Below w.heap.size w ((w.alloc o1).alloc o2)) := fun o1 o2 => ((Below.refl _ _).alloc (Nat.le_refl _) _).alloc (by simp) _
  have E0 : Hid (∀ o1 o2, Env ((w.alloc o1).alloc o2)) := fun o1 o2 => henv.keep (B0.out o1 o2)
  by_cases h1 : s = []
  · have HE : Hid (sameP s t g h = false) := by unfold Hid sameP; simp [h1]
    have hb : s.isEmpty = true := by rw [h1]; rfl
    clear h1
    go_enter Tryd.func23, Tryd.ntmps23
    go_wp2_with fail
    go_ret
    exact ⟨ret_bool HE.out.symm, B0.out _ _⟩
  have hb : s.isEmpty = false := by cases s; exact absurd rfl h1; rfl
  by_cases h2 : s = t
  · have hb2 : (s == t) = true := beq_iff_eq.2 h2
    have HP : Hid (sameP s t g h = (!decide (siteS g = []) && decide (siteS g = siteS h))) := by unfold Hid sameP; simp [h1, ← h2]
    clear h1 h2
    by_cases h3 : siteS g = []
    · have HE : Hid (sameP s t g h = false) := by unfold Hid; rw [HP.out]; simp [h3]
      have H3 := hide h3
      clear h3
      go_enter Tryd.func23, Tryd.ntmps23
      go_wp2_with fail
      refine (siteL_any g _ (E0.out _ _) hg).mono ?_
      rintro e w1 ⟨rfl, hb1⟩
      rw [H3.out]
      have B1 := hide ((B0.out _ _).trans (hb1.mono (B0.out _ _).size))
      clear hb1
      go_wp2_with fail
      go_ret
      exact ⟨ret_bool HE.out.symm, B1.out⟩
    · have hb3 : (siteS g).isEmpty = false := by cases e : siteS g; exact absurd e h3; rfl
      have HE : Hid (sameP s t g h = (siteS g == siteS h)) := by unfold Hid; rw [HP.out, decide_eq_false h3]; simp [Bool.beq_eq_decide_eq]
      clear h3
      have G := hide (fun W (hW : Env W) => siteL_any g W hW hg)
      have H := hide (fun W (hW : Env W) => siteL_any h W hW hh)
      generalize siteS g = sg at *
      generalize siteS h = sh at *
      go_enter Tryd.func23, Tryd.ntmps23
      go_wp2_with fail
      refine (G.out _ (E0.out _ _)).mono ?_
      rintro e w1 ⟨rfl, hb1⟩
      obtain ⟨hc1, hf1⟩ := bcell hb1
      have B1 := hide ((B0.out _ _).trans (hb1.mono (B0.out _ _).size))
      have E1 := hide (henv.keep B1.out)
      clear hb1
      go_wp2_with fail
      refine (H.out _ E1.out).mono ?_
      rintro e w2 ⟨rfl, hb2⟩
      have B2 := hide (B1.out.trans (hb2.mono B1.out.size))
      clear hb2
      go_wp2_with fail
      go_ret
      exact ⟨ret_bool HE.out.symm, B2.out⟩
  · have hb2 : (s == t) = false := beq_eq_false_iff_ne.2 h2
    have HE : Hid (sameP s t g h = false) := by unfold Hid sameP; simp [h2]
    clear h1 h2
    go_enter Tryd.func23, Tryd.ntmps23
    go_wp2_with fail
    go_ret
    exact ⟨ret_bool HE.out.symm, B0.out _ _⟩
end Go.Proofs.YtlmchmhdojkokaaDoor
