/- The walks over tree.depth, tooDeep. -/
import Derived.Test.YtcmmjmgbanafgaaTq11
import Derived.Test.YtcmmjmgbanafgaaTq12
namespace Go.Proofs.Url
open Syn
def Fo.sz : Fo → Nat
  | .nil => 0
  | .cons _ p r => 1 + p.sz + r.sz
end Go.Proofs.Url
namespace Go.Proofs.Ytcmmjmgbanafgaa
open Go.RowKit Go.Proofs.Url Go.Proofs.Url.Syn

abbrev Old (W : World) (b : Nat) : Prop := b < W.heap.size
theorem FC.old {w W : World} (hb : Below w.heap.size w W) {F : Fo} {g k : Nat} (hg : g < w.heap.size) (h : FC w (Old w) F g k) : FC W (Old w) F g k := h.keep (KeptIn.belowK hb fun _ k => k) hg
theorem FA.some {w : World} {K : Nat → Prop} {a : Option Addr} {F : Fo} (h : FA w K a F) (hF : F ≠ .nil) : ∃ g, a = some ⟨g, 0, none⟩ ∧ K g ∧ FC w K F g 0 := h.resolve_left hF
def DepthOk (F : Fo) : Prop := F.fit 4294967280 → F.len ≤ 4294967280 → F.depth ≤ 4294967280 → ∀ (a : Option Addr) (c : Nat) (w : World), FA w (Old w) a F →
    Calls Try.prog 54 #[.slice a F.len c] w fun e w' => e = .returned (.int .i64 F.depth) ∧ Below w.heap.size w w'
set_option maxHeartbeats 2000000 in
set_option maxRecDepth 100000 in
theorem depth_step (F : Fo) (ih : ∀ G : Fo, G.sz < F.sz → DepthOk G) : DepthOk F := by
    intro hfit hlen hdep a c w hA
    have HIH := hide ih
    have HLen := hide hlen
    have HA := hide hA
    clear ih hA hlen
    go_enter Try.func54, Try.ntmps54
    go_wp2_with fail
    go_loopw [3, 8] (fun dv iv W => ∃ (k acc : Nat) (G : Fo), k + G.len = F.len ∧ G.sz ≤ F.sz ∧ dv = .int .i64 acc ∧ iv = .int .i64 k ∧ Hid (max acc G.depth = F.depth) ∧ Hid (G.fit 4294967280) ∧ Hid (G = .nil ∨ ∃ g, a = some ⟨g, 0, none⟩ ∧ g < w.heap.size ∧ FC W (Old w) G g k) ∧ Hid (Below w.heap.size w W)) (fun _ iv _ => F.len - (intOf iv).toNat)
    case atStart =>
      refine ⟨0, 0, F, by omega, Nat.le_refl _, rfl, rfl, by unfold Hid; omega, hfit, ?_, Below.refl _ _⟩
      rcases HA.out with h | h
      · exact .inl h
      · exact .inr h
    case round =>
      obtain ⟨k, acc, G, hk, hgs, rfl, rfl, hD, hG, hC, hB⟩ := hrel
      cases G with
      | nil =>
        have hlI : ¬ (k : Int) < (F.len : Int) := by simp [Fo.len] at hk; omega
        have HR : Hid (acc = F.depth) := by unfold Hid; rw [← hD.out]; simp [Fo.depth]
        clear hD hG hC hk hgs
        go_wp2_with fail
        go_ret
        exact ⟨by rw [HR.out]; rfl, hB.out⟩
      | cons ts p r =>
        obtain ⟨g, rfl, hgl, a1, c1, a2, c2, e1, e2, ht, hp, hr⟩ := hC.out.resolve_left (by simp)
        have hlI : (k : Int) < (F.len : Int) := by simp [Fo.len] at hk; omega
        have hkl : k < F.len := by simp [Fo.len] at hk; omega
        have hgw : g < wr.heap.size := Nat.lt_of_lt_of_le hgl hB.out.size
        have hsz2 : p.sz < F.sz := by simp [Fo.sz] at hgs; omega
        have hG2 := hG.out
        have HP : Hid (∀ W, Below wr.heap.size wr W → Calls Try.prog 54 #[.slice a2 p.len c2] W fun e w' => e = .returned (.int .i64 p.depth) ∧ Below W.heap.size W w') := fun W hW => by
          refine HIH.out p hsz2 hG2.2.2.2.1 hG2.2.1 hG2.2.2.1 a2 c2 W ?_
          rcases hp with hp | ⟨g', h1, h2, h3⟩
          · exact .inl hp
          · have h2' : g' < w.heap.size := h2
            exact .inr ⟨g', h1, by have := hB.out.size; have := hW.size; show g' < W.heap.size; omega, (h3.keep (KeptIn.belowK hW fun _ k => Nat.lt_of_lt_of_le k hB.out.size) h2).sub fun b hb => by have hb' : b < w.heap.size := hb; have := hB.out.size; have := hW.size; show b < W.heap.size; omega⟩
        have HD : Hid (max (max acc (1 + p.depth)) r.depth = F.depth) := by unfold Hid; rw [← hD.out]; simp only [Fo.depth]; omega
        have hpd : p.depth ≤ 4294967280 := hG2.2.2.1
        have HRr := hide hr
        have HG3 := hide hG2.2.2.2.2
        have hrs : r.sz ≤ F.sz := by simp [Fo.sz] at hgs; omega
        have hkr : k + 1 + r.len = F.len := by simp [Fo.len] at hk; omega
        have hil : (k : Int) < 4294967281 := by have := HLen.out; omega
        clear hC hG hG2 hD hp hr ht hgs hk hfit hdep HA
        go_upto_region 5 with fail
        obtain ⟨W2, hW2⟩ : ∃ x, x = wr.alloc (Obj.cells #[.slice a1 ts.length c1, .slice a2 p.len c2] 51) := ⟨_, rfl⟩
        have b2 : Below wr.heap.size wr W2 := by rw [hW2]; exact (Below.refl _ _).alloc (Nat.le_refl _) _
        have d1 : W2.cell? ⟨wr.heap.size, 1, none⟩ = some (.slice a2 p.len c2) := by rw [hW2, World.cell?_alloc_new]; rfl
        have hdl : wr.heap.size < W2.heap.size := World.block_lt_of_cell? W2 _ d1
        rw [← hW2]
        clear hW2
        have HB2 := hide b2
        clear b2
        go_wp2_with fail
        refine (HP.out W2 HB2.out).mono ?_
        rintro e w3 ⟨rfl, b3⟩
        have B3 : Hid (Below wr.heap.size wr w3) := HB2.out.trans (b3.mono (Nat.le_of_lt hdl))
        have B4 := hide (hB.out.trans (B3.out.mono hB.out.size))
        have HC3 : Hid (r = .nil ∨ ∃ g', some (⟨g, 0, none⟩ : Addr) = some ⟨g', 0, none⟩ ∧ g' < w.heap.size ∧ FC w3 (Old w) r g' (k + 1)) := .inr ⟨g, rfl, hgl, HRr.out.keep (KeptIn.belowK B3.out fun _ k => Nat.lt_of_lt_of_le k hB.out.size) hgl⟩
        have hpI : (p.depth : Int) < 4294967281 := by omega
        clear HP HRr B3 HB2 hB b3 d1 hdl e1 e2 hgw
        go_wp2_with fail
        refine ⟨⟨k + 1, max acc (1 + p.depth), r, hkr, hrs, ?_, by go_num, HD, HG3, HC3, B4⟩, by simp [intOf]; omega⟩
        exact congrArg (Value.int .i64) (by omega)
theorem depth_any : ∀ (n : Nat) (F : Fo), F.sz ≤ n → DepthOk F := by
  intro n
  induction n with
  | zero => exact fun F h => depth_step F fun G hG => absurd hG (by omega)
  | succ n ih => exact fun F h => depth_step F fun G hG => ih G (by omega)
set_option maxHeartbeats 2000000 in
set_option maxRecDepth 100000 in
theorem tooDeep_any (F : Fo) (hfit : F.fit 4294967280) (hlen : F.len ≤ 4294967280) (a : Option Addr) (c : Nat) (w : World) (hA : FA w (Old w) a F) :
    Calls Try.prog 27 #[.slice a F.len c] w fun e w' => e = .returned (.bool F.deepAny) ∧ Below w.heap.size w w' := by
  have HLen := hide hlen
  have HA := hide hA
  clear hA hlen
  go_enter Try.func27, Try.ntmps27
  go_wp2_with fail
  go_loopw [7] (fun iv W => ∃ (k : Nat) (G : Fo), k + G.len = F.len ∧ iv = .int .i64 k ∧ Hid (G.deepAny = F.deepAny) ∧ Hid (G.fit 4294967280) ∧ Hid (G = .nil ∨ ∃ g, a = some ⟨g, 0, none⟩ ∧ g < w.heap.size ∧ FC W (Old w) G g k) ∧ Hid (Below w.heap.size w W)) (fun iv _ => F.len - (intOf iv).toNat)
  case atStart =>
    refine ⟨0, F, by omega, rfl, rfl, hfit, ?_, Below.refl _ _⟩
    rcases HA.out with h | h
    · exact .inl h
    · exact .inr h
  case round =>
    obtain ⟨k, G, hk, rfl, hD, hG, hC, hB⟩ := hrel
    cases G with
    | nil =>
      have hlI : ¬ (k : Int) < (F.len : Int) := by simp [Fo.len] at hk; omega
      have HR : Hid (F.deepAny = false) := by unfold Hid; rw [← hD.out]; rfl
      clear hD hG hC hk
      go_wp2_with fail
      go_ret
      exact ⟨by rw [HR.out]; rfl, hB.out⟩
    | cons ts p r =>
      obtain ⟨g, rfl, hgl, a1, c1, a2, c2, e1, e2, ht, hp, hr⟩ := hC.out.resolve_left (by simp)
      have hlI : (k : Int) < (F.len : Int) := by simp [Fo.len] at hk; omega
      have hkl : k < F.len := by simp [Fo.len] at hk; omega
      have hgw : g < wr.heap.size := Nat.lt_of_lt_of_le hgl hB.out.size
      have hG2 := hG.out
      obtain ⟨d, hd⟩ : ∃ d : Int, d = (p.depth : Int) := ⟨_, rfl⟩
      have HP : Hid (∀ W, Below wr.heap.size wr W → Calls Try.prog 54 #[.slice a2 p.len c2] W fun e w' => e = .returned (.int .i64 d) ∧ Below W.heap.size W w') := fun W hW => by
        rw [hd]
        refine depth_any _ p (Nat.le_refl _) hG2.2.2.2.1 hG2.2.1 hG2.2.2.1 a2 c2 W ?_
        rcases hp with hp | ⟨g', h1, h2, h3⟩
        · exact .inl hp
        · have h2' : g' < w.heap.size := h2
          exact .inr ⟨g', h1, by have := hB.out.size; have := hW.size; show g' < W.heap.size; omega, (h3.keep (KeptIn.belowK hW fun _ k => Nat.lt_of_lt_of_le k hB.out.size) h2).sub fun b hb => by have hb' : b < w.heap.size := hb; have := hB.out.size; have := hW.size; show b < W.heap.size; omega⟩
      have HRr := hide hr
      have HG3 := hide hG2.2.2.2.2
      have hkr : k + 1 + r.len = F.len := by simp [Fo.len] at hk; omega
      have hil : (k : Int) < 4294967281 := by have := HLen.out; omega
      have HDe : Hid ((decide (16 < d) || r.deepAny) = F.deepAny) := by
        unfold Hid; rw [← hD.out, hd]
        show _ = (decide (16 < p.depth) || r.deepAny)
        congr 1
        exact decide_eq_decide.2 (by omega)
      clear hC hG hG2 hD hp hr ht hk hfit HA hd
      go_upto_region 4 with fail
      obtain ⟨W2, hW2⟩ : ∃ x, x = wr.alloc (Obj.cells #[.slice a1 ts.length c1, .slice a2 p.len c2] 51) := ⟨_, rfl⟩
      have b2 : Below wr.heap.size wr W2 := by rw [hW2]; exact (Below.refl _ _).alloc (Nat.le_refl _) _
      have d1 : W2.cell? ⟨wr.heap.size, 1, none⟩ = some (.slice a2 p.len c2) := by rw [hW2, World.cell?_alloc_new]; rfl
      have hdl : wr.heap.size < W2.heap.size := World.block_lt_of_cell? W2 _ d1
      rw [← hW2]
      clear hW2
      have HB2 := hide b2
      clear b2
      go_wp2_with fail
      refine (HP.out W2 HB2.out).mono ?_
      rintro e w3 ⟨rfl, b3⟩
      have B3 : Hid (Below wr.heap.size wr w3) := HB2.out.trans (b3.mono (Nat.le_of_lt hdl))
      have B4 := hide (hB.out.trans (B3.out.mono hB.out.size))
      have HC3 : Hid (r = .nil ∨ ∃ g', some (⟨g, 0, none⟩ : Addr) = some ⟨g', 0, none⟩ ∧ g' < w.heap.size ∧ FC w3 (Old w) r g' (k + 1)) := .inr ⟨g, rfl, hgl, HRr.out.keep (KeptIn.belowK B3.out fun _ k => Nat.lt_of_lt_of_le k hB.out.size) hgl⟩
      clear HP HRr B3 HB2 hB b3 d1 hdl e1 e2 hgw
      by_cases h16 : 16 < d
      · have hI : (16 : Int) < d := h16
        have HR : Hid (F.deepAny = true) := by unfold Hid; rw [← HDe.out, decide_eq_true h16]; rfl
        clear h16 HDe
        go_wp2_with fail
        go_ret
        exact ⟨by rw [HR.out]; rfl, B4.out⟩
      · have hI : ((16 : Int) < d) = False := eq_false h16
        have HR : Hid (r.deepAny = F.deepAny) := by unfold Hid; rw [← HDe.out, decide_eq_false h16, Bool.false_or]
        clear h16 HDe
        go_upto_region 6 with fail
        clear hI
        go_wp2_with fail
        exact ⟨⟨k + 1, r, hkr, by go_num, HR, HG3, HC3, B4⟩, by simp [intOf]; omega⟩
end Go.Proofs.Ytcmmjmgbanafgaa
