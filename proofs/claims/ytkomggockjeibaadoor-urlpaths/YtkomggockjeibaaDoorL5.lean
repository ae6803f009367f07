/- The walk over moatlaw1.UrlPaths: it answers true, whatever it is handed, and writes nothing that was there. -/
import Derived.Test.YtkomggockjeibaaDoorW6
import Derived.Deep.DeepCutAuto
import Derived.RegionTactic
namespace Go.Proofs.YtkomggockjeibaaDoor
open Go.RowKit Go.Proofs.Url

/-- A slice of integers that came in, as far as a walk reads it: each element lies in a cell of old memory. -/
def Row (w : World) (a : Option Addr) (len : Nat) (z : Nat → Int) : Prop :=
  ∀ k, k < len → ∃ b off, a = some ⟨b, off, none⟩ ∧ b < w.heap.size ∧ w.cell? ⟨b, off + k, none⟩ = some (.int .i64 (z k))

def GoodP (l : List UInt8) : Prop := l.head? = some 47 ∧ l.all pth = true
theorem goodP_step {l : List UInt8} (h : GoodP l) (p : List UInt8) (hp : p.all pth = true) : GoodP (l ++ p ++ [47]) := by
  obtain ⟨h1, h2⟩ := h
  refine ⟨?_, ?_⟩
  · cases l with
    | nil => cases h1
    | cons a t => simpa using h1
  · simp [h2, hp]; decide

theorem conv1 (w : World) (c : UInt8) : (convert 38 9 (.slice (some ⟨w.heap.size, 0, none⟩) 1 1)).run Tryd.prog (w.alloc (.cells #[.int .u8 c.toNat] 5)).drew = .ok (.string ⟨#[c]⟩) (w.alloc (.cells #[.int .u8 c.toNat] 5)).drew := by
  have h := run_convert_bytes_back (P := Tryd.prog) (w.alloc (.cells #[.int .u8 c.toNat] 5)).drew 38 9 5 ⟨w.heap.size, 0, none⟩ 1 [c] Tryd.underlying38 Tryd.underlying5 Tryd.underlying9 (fun j hj => by
    have : j = 0 := by simpa using hj
    subst this
    show (w.alloc (.cells #[.int .u8 c.toNat] 5)).cell? ⟨w.heap.size, 0, none⟩ = _
    rw [World.cell?_alloc_new]; rfl)
  exact h
theorem ext_take (l : List UInt8) (n : Nat) : ((⟨l.toArray⟩ : ByteArray).extract 0 n).data.toList = l.take n := by
  rw [Lib.extract_from_zero]
theorem ext_drop (l : List UInt8) (n : Nat) : ((⟨l.toArray⟩ : ByteArray).extract n l.length).data.toList = l.drop n := by
  have h := Lib.extract_to_end (⟨l.toArray⟩ : ByteArray) n
  rwa [size_mk] at h
theorem bytes_ext {a b : ByteArray} (h : a.data.toList = b.data.toList) : a = b := by
  cases a; cases b; simp only at h; rw [Array.toList_inj] at h; rw [h]
theorem app_data (a b : ByteArray) : (a ++ b).data.toList = a.data.toList ++ b.data.toList := by simp
theorem ins_eq (l : List UInt8) (q : Nat) (c : UInt8) : Value.string ((⟨l.toArray⟩ : ByteArray).extract 0 (1 + q) ++ ⟨#[c]⟩ ++ (⟨l.toArray⟩ : ByteArray).extract (1 + q) l.length) = Value.string ⟨(List.take (q + 1) l ++ [c] ++ List.drop (q + 1) l).toArray⟩ := by
  refine congrArg Value.string (bytes_ext ?_)
  rw [app_data, app_data, ext_take, ext_drop, Nat.add_comm]

theorem pathB {l : List UInt8} (h : GoodP l) : path l = decide ((l.length : Int) ≤ 60) := by
  obtain ⟨h1, h2⟩ := h
  unfold path
  rw [h1, h2]
  have : l ≠ [] := by rintro rfl; cases h1
  have : 1 ≤ l.length := List.length_pos_iff.2 this
  simp only [beq_self_eq_true, Bool.and_true]
  exact decide_eq_decide.2 (by omega)
theorem good_ins {l : List UInt8} (h : GoodP l) (q : Nat) (c : UInt8) (hc : pth c = true) : GoodP (List.take (q + 1) l ++ [c] ++ List.drop (q + 1) l) := by
  obtain ⟨h1, h2⟩ := h
  refine ⟨?_, ?_⟩
  · cases l with
    | nil => cases h1
    | cons a t => simpa using h1
  · rw [List.all_append, List.all_append]
    rw [List.all_eq_true] at h2
    simp only [Bool.and_eq_true, List.all_eq_true]
    exact ⟨⟨fun x hx => h2 x (List.mem_of_mem_take hx), fun x hx => by simp at hx; rw [hx]; exact hc⟩, fun x hx => h2 x (List.mem_of_mem_drop hx)⟩
theorem bad_ins {l : List UInt8} (q : Nat) (c : UInt8) (hc : pth c = false) : path (List.take (q + 1) l ++ [c] ++ List.drop (q + 1) l) = false := by
  have : (List.take (q + 1) l ++ [c] ++ List.drop (q + 1) l).all pth = false := by simp [hc]
  unfold path; rw [this, Bool.and_false]
theorem tail_list (l : List UInt8) : ((⟨l.toArray⟩ : ByteArray).extract 1 l.length ++ ⟨#[120]⟩).data.toList = l.tail ++ [120] := by
  rw [app_data, ext_drop]; simp
theorem bad_head {l : List UInt8} (h : ¬ l.head? = some 47) : path l = false := by
  unfold path; simp [h]
theorem bad_tail1 {l : List UInt8} (h : l.length = 1) : path (l.tail ++ [120]) = false := by
  match l, h with
  | [a], _ => exact (by decide : path [120] = false)
theorem head_tail {l : List UInt8} (h : 1 < (⟨l.toArray⟩ : ByteArray).size) : (l.tail ++ [120]).head? = some (⟨l.toArray⟩ : ByteArray)[1] := by
  match l, h with
  | [], h => simp [ByteArray.size] at h
  | [_], h => simp [ByteArray.size] at h
  | a :: b :: t, _ => rfl
theorem bad_tail2 {l : List UInt8} (h : 1 < (⟨l.toArray⟩ : ByteArray).size) (hne : ¬ (⟨l.toArray⟩ : ByteArray)[1].toNat = 47) : path (l.tail ++ [120]) = false := by
  refine bad_head ?_
  rw [head_tail h]
  intro e
  exact hne (by rw [Option.some.inj e]; rfl)
theorem good_tail {l : List UInt8} (hg : GoodP l) (h : 1 < (⟨l.toArray⟩ : ByteArray).size) (he : (⟨l.toArray⟩ : ByteArray)[1].toNat = 47) : path (l.tail ++ [120]) = decide ((l.length : Int) ≤ 60) := by
  have h2 : GoodP (l.tail ++ [120]) := by
    refine ⟨?_, ?_⟩
    · rw [head_tail h]; congr 1; exact UInt8.toNat_inj.1 he
    · rw [List.all_append]
      have := hg.2
      rw [List.all_eq_true] at this
      have a : l.tail.all pth = true := List.all_eq_true.2 fun x hx => this x (List.mem_of_mem_tail hx)
      rw [a]; decide
  rw [pathB h2]
  have : (l.tail ++ [120]).length = l.length := by
    have : 1 < l.length := by simpa [ByteArray.size] using h
    simp; omega
  rw [this]
theorem pathL_any (l : List UInt8) (w : World) (h : l.length < 4294967281) :
    Calls Tryd.prog 15 #[.string ⟨l.toArray⟩] w fun e w' => e = .returned (.bool (path l)) ∧ w' = w := path_any ⟨l.toArray⟩ w (by rw [size_mk]; unfold maxLen; omega)

theorem paths_round {len0 k : Nat} {l : List UInt8} {w W : World} (p : List UInt8) (hp : p.all pth = true) (hpl : p.length ≤ 10) (hlt : k < len0) (hg : Hid (GoodP l)) (hl2 : l.length ≤ 1 + 11 * k) (hB : Below w.heap.size w W) :
    ∃ (k' : Nat) (l' : List UInt8), k' ≤ len0 ∧ Value.int .i64 ((k : Int) + 1) = .int .i64 k' ∧ Value.string ((⟨l.toArray⟩ : ByteArray) ++ ⟨p.toArray⟩ ++ ⟨#[47]⟩) = .string ⟨l'.toArray⟩ ∧ Hid (GoodP l') ∧ 1 ≤ l'.length ∧ l'.length ≤ 1 + 11 * k' ∧ Hid (Below w.heap.size w W) :=
  ⟨k + 1, l ++ p ++ [47], by omega, by go_num, rfl, goodP_step hg p hp, by simp; omega, by simp; omega, hB⟩

set_option maxHeartbeats 1000000 in
set_option maxRecDepth 100000 in
theorem urlPaths_walk (a0 : Option Addr) (len0 cap0 : Nat) (z : Nat → Int) (c : UInt8) (at_ : Int) (w : World) (henv : Env w) (hrow : Row w a0 len0 z) (hlen : len0 ≤ maxLen) :
    Calls Tryd.prog 7 #[.slice a0 len0 cap0, .int .u8 c.toNat, .int .i64 at_] w fun e w' => e = .returned (.bool true) ∧ Below w.heap.size w w' := by
  unfold maxLen at hlen
  have hc0 : (c.toNat : Int) < 256 := by have := c.toNat_lt; omega
  have hc1 : 0 ≤ (c.toNat : Int) := by omega
  by_cases h8 : 8 < len0
  · clear hrow
    go_enter Tryd.func7, Tryd.ntmps7
    go_wp2_with fail
    refine (awake_any _ henv).mono ?_
    rintro e w1 ⟨rfl, hb1⟩
    go_wp2_with fail
    go_ret
    exact ⟨rfl, hb1⟩
  have HRow := hide hrow
  clear hrow
  go_enter Tryd.func7, Tryd.ntmps7
  go_wp2_with fail
  go_loopw [7, 8] (fun s i W => ∃ (k : Nat) (l : List UInt8), k ≤ len0 ∧ i = .int .i64 k ∧ s = .string ⟨l.toArray⟩ ∧ Hid (GoodP l) ∧ 1 ≤ l.length ∧ l.length ≤ 1 + 11 * k ∧ Hid (Below w.heap.size w W)) (fun _ i _ => len0 - (intOf i).toNat)
  case atStart => exact ⟨0, [47], Nat.zero_le _, rfl, rfl, ⟨rfl, by decide⟩, by decide, by decide, Below.refl _ _⟩
  case round =>
    obtain ⟨k, l, hk, rfl, rfl, hg, hl1, hl2, hB⟩ := hrel
    by_cases hlt : k < len0
    · obtain ⟨b, off, rfl, hbw, hcell⟩ := HRow.out k hlt
      have hcr : wr.cell? ⟨b, off + k, none⟩ = some (.int .i64 (z k)) := by rw [hB.out.cell hbw]; exact hcell
      have hbr : b < wr.heap.size := Nat.lt_of_lt_of_le hbw hB.out.size
      have hsr : w.heap.size ≤ wr.heap.size := hB.out.size
      clear hcell
      go_wp2_with fail
      refine (low_any _ _ _ (by omega) (by omega)).mono ?_
      rintro e w1 ⟨rfl, rfl⟩
      have c0 := low_nn (z k) 6 (by omega)
      have c6 := low_lt (z k) 6 (by omega)
      generalize low (z k) 6 = r at *
      have hr : r = 0 ∨ r = 1 ∨ r = 2 ∨ r = 3 ∨ r = 4 ∨ r = 5 := by omega
      clear c0 c6
      rcases hr with rfl | rfl | rfl | rfl | rfl | rfl
      all_goals go_wp2_with fail
      all_goals refine ⟨?_, by simp [intOf]; omega⟩
      · exact paths_round [97] (by decide) (by decide) hlt hg hl2 (hB.out.alloc hsr _)
      · exact paths_round [98, 95, 99] (by decide) (by decide) hlt hg hl2 (hB.out.alloc hsr _)
      · exact paths_round [100, 45, 57] (by decide) (by decide) hlt hg hl2 (hB.out.alloc hsr _)
      · exact paths_round [101, 46, 102] (by decide) (by decide) hlt hg hl2 (hB.out.alloc hsr _)
      · exact paths_round [] (by decide) (by decide) hlt hg hl2 (hB.out.alloc hsr _)
      · exact paths_round [105, 110, 100, 101, 120, 46, 104, 116, 109, 108] (by decide) (by decide) hlt hg hl2 (hB.out.alloc hsr _)
    · clear HRow
      have hsr : w.heap.size ≤ wr.heap.size := hB.out.size
      go_upto_region 8 with fail
      go_cut [1, 9] (fun b f wx => b = .int .u8 c.toNat ∧ f = .bool (pth c) ∧ wx = wr)
      case first =>
        go_wp2_with fail
        all_goals go_meet
        all_goals (case rel => exact ⟨congrArg (Value.int .u8) (by omega), congrArg Value.bool (by rw [Bool.eq_iff_iff]; simp [pth, pathI, labI, digI] at *; omega), rfl⟩)
      case rest =>
        obtain ⟨rfl, rfl, rfl⟩ := hcut
        go_wp2_with fail
        refine (low_any _ _ _ (by omega) (by omega)).mono ?_
        rintro e w1 ⟨rfl, rfl⟩
        have c0 := low_nn at_ l.length (by omega)
        have c6 := low_lt at_ l.length (by omega)
        generalize low at_ l.length = r at *
        obtain ⟨q, rfl⟩ := Int.eq_ofNat_of_zero_le c0
        have c7 : q < l.length := by omega
        go_upto_region 10 with fail
        have kc := conv1 w1 c
        have c8 : 0 ≤ 1 + (q : Int) := by omega
        have c9 : 1 + (q : Int) ≤ (l.length : Int) := by omega
        go_cut [10] (fun t wx => t = .string ⟨(l.take (q + 1) ++ [c] ++ l.drop (q + 1)).toArray⟩ ∧ Hid (Below w1.heap.size w1 wx))
        case first =>
          go_region
          all_goals go_wp2_with fail
          all_goals go_meet
          case rel => exact ⟨ins_eq l q c, ((Below.refl _ _).alloc (Nat.le_refl _) _).drew⟩
        case rest =>
          obtain ⟨rfl, hB2⟩ := hcut
          have C1 : Hid (∀ W, Calls Tryd.prog 15 #[.string ⟨l.toArray⟩] W fun e w' => e = .returned (.bool (decide ((l.length : Int) ≤ 60))) ∧ w' = W) := by
            intro W; have := pathL_any l W (by omega); rwa [pathB hg.out] at this
          have htl : (List.take (q + 1) l ++ [c] ++ List.drop (q + 1) l).length = l.length + 1 := by simp; omega
          have ht1 : (List.take (q + 1) l ++ [c] ++ List.drop (q + 1) l).length < 4294967281 := by omega
          have C2 : Hid (pth c = true → ∀ W, Calls Tryd.prog 15 #[.string ⟨(List.take (q + 1) l ++ [c] ++ List.drop (q + 1) l).toArray⟩] W fun e w' => e = .returned (.bool (decide (((List.take (q + 1) l ++ [c] ++ List.drop (q + 1) l).length : Int) ≤ 60))) ∧ w' = W) := by
            intro hc W; have := pathL_any (List.take (q + 1) l ++ [c] ++ List.drop (q + 1) l) W ht1; rwa [pathB (good_ins hg.out q c hc)] at this
          have C3 : Hid (pth c = false → ∀ W, Calls Tryd.prog 15 #[.string ⟨(List.take (q + 1) l ++ [c] ++ List.drop (q + 1) l).toArray⟩] W fun e w' => e = .returned (.bool false) ∧ w' = W) := by
            intro hc W; have := pathL_any (List.take (q + 1) l ++ [c] ++ List.drop (q + 1) l) W ht1; rwa [bad_ins q c hc] at this
          clear htl
          generalize List.take (q + 1) l ++ [c] ++ List.drop (q + 1) l = tl at *
          have EN := hide ((henv.keep hB.out).keep hB2.out)
          have BN : Hid (Below w.heap.size w wc) := hB.out.trans (hB2.out.mono hsr)
          clear kc c8 c9
          obtain ⟨x3, CX, hx⟩ : ∃ x3 : Bool, Hid (∀ W, Calls Tryd.prog 15 #[.string ((⟨l.toArray⟩ : ByteArray).extract 1 l.length ++ ⟨#[120]⟩)] W fun e w' => e = .returned (.bool x3) ∧ w' = W) ∧
              (x3 = false ∧ ((l.length : Int) == 1) = true ∨ ((l.length : Int) == 1) = false ∧ ∃ h : 1 < (⟨l.toArray⟩ : ByteArray).size, (x3 = false ∧ (((⟨l.toArray⟩ : ByteArray)[1].toNat : Int) != 47) = true ∨ (x3 = true ∧ (l.length : Int) ≤ 60 ∨ x3 = false ∧ 60 < (l.length : Int)) ∧ (((⟨l.toArray⟩ : ByteArray)[1].toNat : Int) != 47) = false)) := by
            refine ⟨path (l.tail ++ [120]), ?_, ?_⟩
            · intro W; have := path_any ((⟨l.toArray⟩ : ByteArray).extract 1 l.length ++ ⟨#[120]⟩) W (by rw [← len_eq, tail_list]; simp; unfold maxLen; omega); rwa [tail_list] at this
            · by_cases h1 : l.length = 1
              · exact .inl ⟨bad_tail1 h1, beq_iff_eq.2 (by omega)⟩
              · have h2 : 1 < (⟨l.toArray⟩ : ByteArray).size := by rw [size_mk]; omega
                refine .inr ⟨beq_eq_false_iff_ne.2 (by omega), h2, ?_⟩
                by_cases he : (⟨l.toArray⟩ : ByteArray)[1].toNat = 47
                · refine .inr ⟨?_, by simp [he]⟩
                  rw [good_tail hg.out h2 he]
                  by_cases h6 : (l.length : Int) ≤ 60
                  · exact .inl ⟨decide_eq_true h6, h6⟩
                  · exact .inr ⟨decide_eq_false h6, by omega⟩
                · exact .inl ⟨bad_tail2 _ he, by rw [bne_iff_ne]; omega⟩
          have hlo : l.length = 1 ∨ 1 < l.length := by omega
          rcases hx with ⟨rfl, hx1⟩ | ⟨hx1, hx2, ⟨rfl, hx3⟩ | ⟨⟨rfl, hx4⟩ | ⟨rfl, hx4⟩, hx3⟩⟩
          · clear hlo
            cases hpc : pth c
            · have D2 := hide (C3.out hpc)
              clear C2 C3
              go_wp2_with fail
              refine (C1.out _).mono ?_
              rintro e w2 ⟨rfl, rfl⟩
              go_wp2_with fail
              refine (D2.out _).mono ?_
              rintro e w2 ⟨rfl, rfl⟩
              go_wp2_with fail
              refine (CX.out _).mono ?_
              rintro e w2 ⟨rfl, rfl⟩
              go_wp2_with fail
              refine (awake_any _ EN.out).mono ?_
              rintro e w3 ⟨rfl, hb3⟩
              have BM : Hid (Below w.heap.size w w3) := BN.out.trans (hb3.mono BN.out.size)
              clear hb3
              go_wp2_with fail
              go_ret
              exact ⟨rfl, BM.out⟩
            · have D2 := hide (C2.out hpc)
              clear C2 C3
              go_wp2_with fail
              refine (C1.out _).mono ?_
              rintro e w2 ⟨rfl, rfl⟩
              go_wp2_with fail
              refine (D2.out _).mono ?_
              rintro e w2 ⟨rfl, rfl⟩
              go_wp2_with fail
              refine (CX.out _).mono ?_
              rintro e w2 ⟨rfl, rfl⟩
              go_wp2_with fail
              refine (awake_any _ EN.out).mono ?_
              rintro e w3 ⟨rfl, hb3⟩
              have BM : Hid (Below w.heap.size w w3) := BN.out.trans (hb3.mono BN.out.size)
              clear hb3
              go_wp2_with fail
              go_ret
              exact ⟨rfl, BM.out⟩
          all_goals (
            have hl9 : (1 : Int) < (l.length : Int) := by rw [size_mk] at hx2; omega
            cases hpc : pth c
            · have D2 := hide (C3.out hpc)
              clear C2 C3 hlo
              go_wp2_with fail
              refine (C1.out _).mono ?_
              rintro e w2 ⟨rfl, rfl⟩
              go_wp2_with fail
              refine (D2.out _).mono ?_
              rintro e w2 ⟨rfl, rfl⟩
              go_wp2_with fail
              refine (CX.out _).mono ?_
              rintro e w2 ⟨rfl, rfl⟩
              go_wp2_with fail
              refine (awake_any _ EN.out).mono ?_
              rintro e w3 ⟨rfl, hb3⟩
              have BM : Hid (Below w.heap.size w w3) := BN.out.trans (hb3.mono BN.out.size)
              clear hb3
              go_wp2_with fail
              go_ret
              refine ⟨?_, BM.out⟩
              first | rfl | exact ret_bool (by simp; omega)
            · have D2 := hide (C2.out hpc)
              clear C2 C3 hlo
              go_wp2_with fail
              refine (C1.out _).mono ?_
              rintro e w2 ⟨rfl, rfl⟩
              go_wp2_with fail
              refine (D2.out _).mono ?_
              rintro e w2 ⟨rfl, rfl⟩
              go_wp2_with fail
              refine (CX.out _).mono ?_
              rintro e w2 ⟨rfl, rfl⟩
              go_wp2_with fail
              refine (awake_any _ EN.out).mono ?_
              rintro e w3 ⟨rfl, hb3⟩
              have BM : Hid (Below w.heap.size w w3) := BN.out.trans (hb3.mono BN.out.size)
              clear hb3
              go_wp2_with fail
              go_ret
              refine ⟨?_, BM.out⟩
              first | rfl | exact ret_bool (by simp; omega))
end Go.Proofs.YtkomggockjeibaaDoor
