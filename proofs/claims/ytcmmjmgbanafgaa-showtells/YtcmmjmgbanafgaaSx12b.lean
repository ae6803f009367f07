/- A row of attributes that the walk owns. -/
import Derived.Test.YtcmmjmgbanafgaaSx12
import Derived.Test.YtcmmjmgbanafgaaStep
namespace Go.Proofs.Ytcmmjmgbanafgaa
open Go.RowKit Go.Proofs.Url Go.Proofs.Url.Syn

def atrCells (a : Atr) : List Value := [.string ⟨a.k.toArray⟩, .int .i64 a.at', .int .i64 a.t.kind, .int .i64 a.t.at', .string ⟨a.t.text.toArray⟩]
theorem infoA : (Try.prog.info? 87).map (fun i => (i.zero, i.size, i.bytes)) = some (some (.agg #[.string ByteArray.empty, .int .i64 0, .int .i64 0, .int .i64 0, .string ByteArray.empty]), 5, 56) := by kernel_rfl
theorem owns_but {g : Nat} {w W : World} {base : Nat} {e : TypeId} {size : Nat} {v : Value} {n : Nat} {xs : List Value} (h : w.ownsRow base e size v n xs) (hb : ButP g w W) (hg : g < base) : W.ownsRow base e size v n xs := by
  refine ⟨h.1, ?_⟩
  rcases h.2 with hn | ⟨k, cap, cur, hv, hk, hh, rest⟩
  · exact .inl hn
  · have hlt : k < w.heap.size := by
      rcases Nat.lt_or_ge k w.heap.size with h | h
      · exact h
      · rw [Array.getElem?_eq_none h] at hh; cases hh
    exact .inr ⟨k, cap, cur, hv, hk, by rw [hb.block k hlt (by omega)]; exact hh, rest⟩
theorem flat5 (ts : List Atr) : ∀ k (h : k < ts.length) j v, (atrCells ts[k])[j]? = some v → (ts.flatMap atrCells)[k * 5 + j]? = some v := by
  induction ts with
  | nil => intro k h; simp at h
  | cons p ps ih =>
    intro k h j v hv
    have hl : (atrCells p).length = 5 := rfl
    rw [List.flatMap_cons]
    cases k with
    | zero =>
      have hj : j < 5 := by
        rcases Nat.lt_or_ge j 5 with h | h
        · exact h
        · rw [List.getElem?_eq_none (by rw [show (atrCells (p :: ps)[0]).length = 5 from rfl]; exact h)] at hv; cases hv
      rw [Nat.zero_mul, Nat.zero_add, List.getElem?_append_left (by omega)]
      exact hv
    | succ k =>
      rw [List.getElem?_append_right (by omega), hl, show (k + 1) * 5 + j - 5 = k * 5 + j by omega]
      exact ih k (by simpa using h) j v hv
theorem owns_atrs {w : World} {base B : Nat} {ao : Option Addr} {cap : Nat} {l : List Atr} (h : w.ownsRow base 87 5 (.slice ao l.length cap) l.length (l.flatMap atrCells)) (hB : B < base) : AtrsAt w B ao l := by
  intro k hk
  rcases h.2 with ⟨hv, h0⟩ | ⟨g', cap', cur, hv, hg, hh, hn, hm, hsz, htk⟩
  · omega
  · simp only [Value.slice.injEq, true_and] at hv
    obtain ⟨rfl, rfl⟩ := hv
    have hc : ∀ j v, j < 5 → (atrCells l[k])[j]? = some v → w.cell? ⟨g', k * 5 + j, none⟩ = some v := by
      intro j v hj3 hj
      have hf := flat5 l k hk j v hj
      have : (cur.toList.take (l.length * 5))[k * 5 + j]? = (l.flatMap atrCells)[k * 5 + j]? := by rw [htk]
      rw [List.getElem?_take, if_pos (by omega), hf] at this
      have e : w.cell? ⟨g', k * 5 + j, none⟩ = cur[k * 5 + j]? := by simp [World.cell?, hh]
      rw [e]; simpa using this
    exact ⟨g', rfl, Nat.lt_of_lt_of_le hB hg, hc 0 _ (by decide) rfl, hc 1 _ (by decide) rfl, hc 2 _ (by decide) rfl, hc 3 _ (by decide) rfl, hc 4 _ (by decide) rfl⟩
theorem atrs_roundB {B : Nat} {w3 : World} {qs : List Atr} {x : Atr} {v' : Value}
    (hown : w3.ownsRow B 87 5 v' (qs.length + 1) (qs.flatMap atrCells ++ atrCells x)) :
    ∃ (ao : Option Addr) (cv : Nat), v' = .slice ao (qs ++ [x]).length cv ∧ Hid (w3.ownsRow B 87 5 (.slice ao (qs ++ [x]).length cv) (qs ++ [x]).length ((qs ++ [x]).flatMap atrCells)) := by
  have hq : (qs ++ [x]).length = qs.length + 1 := by simp
  obtain ⟨g, cap, hv⟩ : ∃ g cap, v' = .slice (some ⟨g, 0, none⟩) (qs.length + 1) cap := by
    rcases hown.2 with ⟨_, h⟩ | ⟨g, cap, _, h, _⟩
    · omega
    · exact ⟨g, cap, h⟩
  subst hv
  refine ⟨some ⟨g, 0, none⟩, cap, by rw [hq], ?_⟩
  unfold Hid; rw [hq, List.flatMap_append]
  have : [x].flatMap atrCells = atrCells x := by simp
  rw [this]; exact hown
end Go.Proofs.Ytcmmjmgbanafgaa
