/- The walk over moatref10.Parser's factor, term, formula. -/
import Derived.Test.YtcmmjmgbanafgaaSx6
namespace Go.Proofs.Url
open Syn
theorem facF_succ (n : Nat) (ts : List Tk) : facF (n + 1) ts = if isT w_not_ ts then (facF n ts.tail).map .no
    else if isT w_lpa ts then (forF n ts.tail).then fun a r => (needR w_rpa r).map fun _ => a
    else if word5 ts then (kindR 1 ts.tail).map fun t => .un (headText ts) t.text t.at'
    else .bad ts := by rw [facF]
theorem terF_succ (n : Nat) (ts : List Tk) : terF (n + 1) ts = (facF n ts).then (terL n) := by rw [terF]
theorem terL_succ (n : Nat) (a : Fm) (ts : List Tk) : terL (n + 1) a ts = if isT w_and_ ts then (facF n ts.tail).then fun b r => terL n (.both w_and_ a b) r else .ok a ts := by rw [terL]
theorem forF_succ (n : Nat) (ts : List Tk) : forF (n + 1) ts = (terF n ts).then (forL n) := by rw [forF]
theorem forL_succ (n : Nat) (a : Fm) (ts : List Tk) : forL (n + 1) a ts = if isT w_or_ ts then (terF n ts.tail).then fun b r => forL n (.both w_or_ a b) r else .ok a ts := by rw [forL]
theorem isT_len {s : List UInt8} {ts : List Tk} (h : isT s ts = true) : ts.tail.length < ts.length := by
  cases ts with
  | nil => cases h
  | cons t r => simp
theorem isT_head {s : List UInt8} {ts : List Tk} (h : isT s ts = true) : headText ts = s := by
  cases ts with
  | nil => cases h
  | cons t r => unfold isT at h; simp at h; exact h.2
theorem word5_of {ts : List Tk} {k : Nat} (hk : k < 5) (h : isT (words5.getD k []) ts = true) : word5 ts = true := by
  unfold word5
  rw [List.any_eq_true]
  have hk' : k < words5.length := hk
  exact ⟨words5.getD k [], by rw [List.getD_eq_getElem?_getD, List.getElem?_eq_getElem hk']; exact List.getElem_mem hk', h⟩
theorem word5_no {ts : List Tk} (h : ∀ j, j < 5 → isT (words5.getD j []) ts = false) : word5 ts = false := by
  unfold word5
  rw [List.any_eq_false]
  intro x hx
  obtain ⟨j, hj, rfl⟩ := List.getElem_of_mem hx
  have := h j hj
  rw [List.getD_eq_getElem?_getD, List.getElem?_eq_getElem hj] at this
  simp only [Option.getD_some] at this
  rw [this]; decide
theorem then_ok {α β : Type} {x : Rd α} {f : α → List Tk → Rd β} {b : β} {r : List Tk} (h : x.then f = .ok b r) : ∃ a r1, x = .ok a r1 ∧ f a r1 = .ok b r := by
  cases x with
  | ok a r1 => exact ⟨a, r1, rfl, h⟩
  | bad r1 => cases h
theorem map_ok {α β : Type} {x : Rd α} {f : α → β} {b : β} {r : List Tk} (h : x.map f = .ok b r) : ∃ a, x = .ok a r ∧ f a = b := by
  cases x with
  | ok a r1 => cases h; exact ⟨a, rfl, rfl⟩
  | bad r1 => cases h
theorem needR_ok {s : List UInt8} {ts r : List Tk} {u : Unit} (h : needR s ts = .ok u r) : isT s ts = true ∧ r = ts.tail := by
  unfold needR at h
  by_cases hs : isT s ts = true
  · rw [if_pos hs] at h; cases h; exact ⟨hs, rfl⟩
  · rw [if_neg hs] at h; cases h
theorem kindR_ok {k : Nat} {ts r : List Tk} {t : Tk} (h : kindR k ts = .ok t r) : ts = t :: r ∧ t.kind = k := by
  cases ts with
  | nil => cases h
  | cons x xs =>
    replace h : (if x.kind = k then Rd.ok x xs else Rd.bad (x :: xs)) = .ok t r := h
    by_cases hk : x.kind = k
    · rw [if_pos hk] at h; cases h; exact ⟨rfl, hk⟩
    · rw [if_neg hk] at h; cases h
/-- What is read takes a token and more. -/
theorem short_all : ∀ n, (∀ ts a r, facF n ts = .ok a r → r.length < ts.length) ∧ (∀ ts a r, terF n ts = .ok a r → r.length < ts.length) ∧ (∀ b ts a r, terL n b ts = .ok a r → r.length ≤ ts.length) ∧
    (∀ ts a r, forF n ts = .ok a r → r.length < ts.length) ∧ (∀ b ts a r, forL n b ts = .ok a r → r.length ≤ ts.length) := by
  intro n
  induction n with
  | zero => exact ⟨fun _ _ _ h => by simp [facF] at h, fun _ _ _ h => by simp [terF] at h, fun _ _ _ _ h => by simp [terL] at h, fun _ _ _ h => by simp [forF] at h, fun _ _ _ _ h => by simp [forL] at h⟩
  | succ n ih =>
    obtain ⟨i1, i2, i3, i4, i5⟩ := ih
    refine ⟨?_, ?_, ?_, ?_, ?_⟩
    · intro ts a r h
      rw [facF_succ] at h
      split at h
      · rename_i hs
        obtain ⟨b, hb, _⟩ := map_ok h
        have := i1 _ _ _ hb
        have := isT_len hs
        omega
      · split at h
        · rename_i _ hs
          obtain ⟨b, r1, hb, h2⟩ := then_ok h
          obtain ⟨u, h3, _⟩ := map_ok h2
          obtain ⟨h4, rfl⟩ := needR_ok h3
          have := i4 _ _ _ hb
          have := isT_len hs
          have := isT_len h4
          omega
        · split at h
          · rename_i hs
            obtain ⟨t, h2, _⟩ := map_ok h
            obtain ⟨h3, _⟩ := kindR_ok h2
            cases ts with
            | nil => cases hs
            | cons x xs => simp at h3; rw [h3]; simp; omega
          · cases h
    · intro ts a r h
      rw [terF_succ] at h
      obtain ⟨b, r1, hb, h2⟩ := then_ok h
      have := i1 _ _ _ hb
      have := i3 _ _ _ _ h2
      omega
    · intro b ts a r h
      rw [terL_succ] at h
      split at h
      · rename_i hs
        obtain ⟨c, r1, hb, h2⟩ := then_ok h
        have := i1 _ _ _ hb
        have := i3 _ _ _ _ h2
        have := isT_len hs
        omega
      · cases h; exact Nat.le_refl _
    · intro ts a r h
      rw [forF_succ] at h
      obtain ⟨b, r1, hb, h2⟩ := then_ok h
      have := i2 _ _ _ hb
      have := i5 _ _ _ _ h2
      omega
    · intro b ts a r h
      rw [forL_succ] at h
      split at h
      · rename_i hs
        obtain ⟨c, r1, hb, h2⟩ := then_ok h
        have := i2 _ _ _ hb
        have := i5 _ _ _ _ h2
        have := isT_len hs
        omega
      · cases h; exact Nat.le_refl _
end Go.Proofs.Url
namespace Go.Proofs.Ytcmmjmgbanafgaa
open Go.RowKit Go.Proofs.Url Go.Proofs.Url.Syn

def FacOk (n : Nat) : Prop := ∀ (g : Nat) (ao : Option Addr) (cap : Nat) (ts r : List Tk) (w : World), PS w g ao cap ts r false → ts.length < 4294967281 → 3 * r.length + 1 ≤ n →
    Calls Try.prog 88 #[.pointer (some ⟨g, 0, none⟩)] w fun e w' => OutP (facF n r) g ao cap ts w e w'
def TerOk (n : Nat) : Prop := ∀ (g : Nat) (ao : Option Addr) (cap : Nat) (ts r : List Tk) (w : World), PS w g ao cap ts r false → ts.length < 4294967281 → 3 * r.length + 2 ≤ n →
    Calls Try.prog 79 #[.pointer (some ⟨g, 0, none⟩)] w fun e w' => OutP (terF n r) g ao cap ts w e w'
def ForOk (n : Nat) : Prop := ∀ (g : Nat) (ao : Option Addr) (cap : Nat) (ts r : List Tk) (w : World), PS w g ao cap ts r false → ts.length < 4294967281 → 3 * r.length + 3 ≤ n →
    Calls Try.prog 66 #[.pointer (some ⟨g, 0, none⟩)] w fun e w' => OutP (forF n r) g ao cap ts w e w'

/-- not, and what it denies. -/
theorem NodeAt.newNo {W : World} {g : Nat} {p : Option Addr} {a : Fm} (h : NodeAt W g p a) (hg : g < W.heap.size) (t1 t2 : TypeId) :
    NodeAt ((W.alloc (Obj.cells #[.pointer p] t1)).alloc (Obj.cells #[.string ⟨w_not_.toArray⟩, .string ⟨#[]⟩, .int .i64 0, .slice (some ⟨W.heap.size, 0, none⟩) 1 1] t2)) g (some ⟨W.heap.size + 1, 0, none⟩) (.no a) := by
  have hs : (W.alloc (Obj.cells #[.pointer p] t1)).heap.size = W.heap.size + 1 := by simp
  have hn : ∀ j, ((W.alloc (Obj.cells #[.pointer p] t1)).alloc (Obj.cells #[.string ⟨w_not_.toArray⟩, .string ⟨#[]⟩, .int .i64 0, .slice (some ⟨W.heap.size, 0, none⟩) 1 1] t2)).cell? ⟨W.heap.size + 1, j, none⟩ = #[Value.string ⟨w_not_.toArray⟩, .string ⟨#[]⟩, .int .i64 0, .slice (some ⟨W.heap.size, 0, none⟩) 1 1][j]? := by
    intro j; rw [← hs]; exact World.cell?_alloc_new _ _ _ _
  refine ⟨W.heap.size + 1, W.heap.size, p, rfl, by omega, hg, by rw [hn]; rfl, by rw [hn]; rfl, by rw [hn]; rfl, ?_, ?_⟩
  · have hb : Below (W.heap.size + 1) (W.alloc (Obj.cells #[.pointer p] t1)) ((W.alloc (Obj.cells #[.pointer p] t1)).alloc (Obj.cells #[.string ⟨w_not_.toArray⟩, .string ⟨#[]⟩, .int .i64 0, .slice (some ⟨W.heap.size, 0, none⟩) 1 1] t2)) := (Below.refl _ _).alloc (by omega) _
    rw [hb.cell (p := ⟨W.heap.size, 0, none⟩) (Nat.lt_succ_self _), World.cell?_alloc_new]; rfl
  · exact NodeAt.but ((ButP.alloc g W _).trans (ButP.alloc g _ _)) (Nat.le_refl _) h
theorem NodeAt.newBoth {W : World} {g : Nat} {p q : Option Addr} {a b : Fm} (h : NodeAt W g p a) (h2 : NodeAt W g q b) (hg : g < W.heap.size) (k : List UInt8) (t1 t2 : TypeId) :
    NodeAt ((W.alloc (Obj.cells #[.pointer p, .pointer q] t1)).alloc (Obj.cells #[.string ⟨k.toArray⟩, .string ⟨#[]⟩, .int .i64 0, .slice (some ⟨W.heap.size, 0, none⟩) 2 2] t2)) g (some ⟨W.heap.size + 1, 0, none⟩) (.both k a b) := by
  have hs : (W.alloc (Obj.cells #[.pointer p, .pointer q] t1)).heap.size = W.heap.size + 1 := by simp
  have hn : ∀ j, ((W.alloc (Obj.cells #[.pointer p, .pointer q] t1)).alloc (Obj.cells #[.string ⟨k.toArray⟩, .string ⟨#[]⟩, .int .i64 0, .slice (some ⟨W.heap.size, 0, none⟩) 2 2] t2)).cell? ⟨W.heap.size + 1, j, none⟩ = #[Value.string ⟨k.toArray⟩, .string ⟨#[]⟩, .int .i64 0, .slice (some ⟨W.heap.size, 0, none⟩) 2 2][j]? := by
    intro j; rw [← hs]; exact World.cell?_alloc_new _ _ _ _
  have hb : Below (W.heap.size + 1) (W.alloc (Obj.cells #[.pointer p, .pointer q] t1)) ((W.alloc (Obj.cells #[.pointer p, .pointer q] t1)).alloc (Obj.cells #[.string ⟨k.toArray⟩, .string ⟨#[]⟩, .int .i64 0, .slice (some ⟨W.heap.size, 0, none⟩) 2 2] t2)) := (Below.refl _ _).alloc (by omega) _
  refine ⟨W.heap.size + 1, W.heap.size, p, q, rfl, by omega, hg, by rw [hn]; rfl, by rw [hn]; rfl, by rw [hn]; rfl, ?_, ?_, ?_, ?_⟩
  · rw [hb.cell (p := ⟨W.heap.size, 0, none⟩) (Nat.lt_succ_self _), World.cell?_alloc_new]; rfl
  · rw [hb.cell (p := ⟨W.heap.size, 1, none⟩) (Nat.lt_succ_self _), World.cell?_alloc_new]; rfl
  · exact NodeAt.but ((ButP.alloc g W _).trans (ButP.alloc g _ _)) (Nat.le_refl _) h
  · exact NodeAt.but ((ButP.alloc g W _).trans (ButP.alloc g _ _)) (Nat.le_refl _) h2
theorem NodeAt.newUn {W : World} {g : Nat} (hg : g < W.heap.size) (k nm : List UInt8) (a : Nat) (t : TypeId) :
    NodeAt (W.alloc (Obj.cells #[.string ⟨k.toArray⟩, .string ⟨nm.toArray⟩, .int .i64 a, .slice none 0 0] t)) g (some ⟨W.heap.size, 0, none⟩) (.un k nm a) :=
  ⟨W.heap.size, rfl, hg, by rw [World.cell?_alloc_new]; rfl, by rw [World.cell?_alloc_new]; rfl, by rw [World.cell?_alloc_new]; rfl, by rw [World.cell?_alloc_new]; rfl⟩
theorem NodeUp.newNo {w W : World} {g : Nat} {p : Option Addr} {a : Fm} (h : NodeUp w g W p a) (hs : w.heap.size ≤ W.heap.size) (t1 t2 : TypeId) :
    NodeUp w g ((W.alloc (Obj.cells #[.pointer p] t1)).alloc (Obj.cells #[.string ⟨w_not_.toArray⟩, .string ⟨#[]⟩, .int .i64 0, .slice (some ⟨W.heap.size, 0, none⟩) 1 1] t2)) (some ⟨W.heap.size + 1, 0, none⟩) (.no a) :=
  fun B h1 h2 => (h B h1 h2).newNo (Nat.lt_of_lt_of_le h2 hs) t1 t2
theorem NodeUp.newBoth {w W : World} {g : Nat} {p q : Option Addr} {a b : Fm} (h : NodeUp w g W p a) (h' : NodeUp w g W q b) (hs : w.heap.size ≤ W.heap.size) (k : List UInt8) (t1 t2 : TypeId) :
    NodeUp w g ((W.alloc (Obj.cells #[.pointer p, .pointer q] t1)).alloc (Obj.cells #[.string ⟨k.toArray⟩, .string ⟨#[]⟩, .int .i64 0, .slice (some ⟨W.heap.size, 0, none⟩) 2 2] t2)) (some ⟨W.heap.size + 1, 0, none⟩) (.both k a b) :=
  fun B h1 h2 => (h B h1 h2).newBoth (h' B h1 h2) (Nat.lt_of_lt_of_le h2 hs) k t1 t2
theorem NodeUp.newUn {w W : World} {g : Nat} (hs : w.heap.size ≤ W.heap.size) (k nm : List UInt8) (a : Nat) (t : TypeId) :
    NodeUp w g (W.alloc (Obj.cells #[.string ⟨k.toArray⟩, .string ⟨nm.toArray⟩, .int .i64 a, .slice none 0 0] t)) (some ⟨W.heap.size, 0, none⟩) (.un k nm a) :=
  fun _ _ h2 => NodeAt.newUn (Nat.lt_of_lt_of_le h2 hs) k nm a t
theorem PS.alloc {W : World} {g : Nat} {ao : Option Addr} {cap : Nat} {ts r : List Tk} {b : Bool} (h : PS W g ao cap ts r b) (o : Obj) : PS (W.alloc o) g ao cap ts r b := h.keep ((Below.refl _ _).alloc (Nat.le_refl _) o)

set_option maxHeartbeats 2000000 in
set_option maxRecDepth 100000 in
theorem fac_not (n : Nat) (IF : FacOk n) (g : Nat) (ao : Option Addr) (cap : Nat) (ts r : List Tk) (w : World) (h : PS w g ao cap ts r false) (hl : ts.length < 4294967281) (hf : 3 * r.length + 1 ≤ n + 1) (hq : isT w_not_ r = true) :
    Calls Try.prog 88 #[.pointer (some ⟨g, 0, none⟩)] w fun e w' => OutP (facF (n + 1) r) g ao cap ts w e w' := by
  have IFh := hide IF
  have HL := hide hl
  have HQ := isT_len hq
  have HFu : Hid (3 * r.tail.length + 1 ≤ n) := by unfold Hid; omega
  have HE : Hid (facF (n + 1) r = (facF n r.tail).map .no) := by unfold Hid; rw [facF_succ, if_pos hq]
  clear HQ hf IF
  go_enter Try.func88, Try.ntmps88
  go_wp2_with fail
  refine (takeYes h hl hq).mono ?_
  rintro e w1 ⟨rfl, S1, B1⟩
  have B1 := hide B1
  have S1 := hide S1
  clear h hl hq
  go_wp2_with fail
  refine (IFh.out g ao cap ts r.tail w1 S1.out HL.out HFu.out).mono ?_
  rintro e w2 ⟨p, rfl, B2, hO⟩
  have hs1 := B1.out.size
  have B2 := hide (B1.out.trans B2)
  cases hx : facF n r.tail with
  | ok a r' =>
    rw [hx] at hO HE
    obtain ⟨N2, S2⟩ := hO
    have HE : Hid (facF (n + 1) r = .ok (.no a) r') := HE
    have N3 := hide (fun t1 t2 => (N2.low hs1).newNo B2.out.size t1 t2)
    have S3 := hide (fun o1 o2 => (S2.alloc o1).alloc o2)
    have B3 := hide (fun o1 o2 => (B2.out.trans (ButP.alloc g w2 o1)).trans (ButP.alloc g _ o2))
    clear hx N2 S2 S1 B1 B2
    go_wp2_with fail
    go_ret
    rw [HE.out]
    exact OutP.ok (S3.out _ _) (N3.out _ _) (B3.out _ _)
  | bad r' =>
    rw [hx] at hO HE
    have HE : Hid (facF (n + 1) r = .bad r') := HE
    have S3 := hide (fun o1 o2 => (PS.alloc hO o1).alloc o2)
    have B3 := hide (fun o1 o2 => (B2.out.trans (ButP.alloc g w2 o1)).trans (ButP.alloc g _ o2))
    clear hx hO S1 B1 B2
    go_wp2_with fail
    go_ret
    rw [HE.out]
    exact OutP.bad (S3.out _ _) (B3.out _ _)
end Go.Proofs.Ytcmmjmgbanafgaa
