/- The walk over field.List. -/
import Derived.Test.YtfbalmamhcbojaaDoorV2
namespace Go.Proofs.YtfbalmamhcbojaaDoor
open Go.RowKit Go.Proofs.Url

theorem owns_low {w : World} {b b' : Nat} {e : TypeId} {size : Nat} {v : Value} {n : Nat} {xs : List Value} (h : w.ownsRow b e size v n xs) (hb : b' ≤ b) : w.ownsRow b' e size v n xs := by
  refine ⟨h.1, ?_⟩
  rcases h.2 with h1 | ⟨g, cap, cur, hv, hg, r⟩
  · exact .inl h1
  · exact .inr ⟨g, cap, cur, hv, Nat.le_trans hb hg, r⟩
theorem owns_texts {w : World} {base : Nat} {v : Value} {ps : List ByteArray} (h : w.ownsRow base 9 1 v ps.length (ps.map Value.string)) : ∃ (ao : Option Addr) (cap : Nat), v = .slice ao ps.length cap ∧ ps.length ≤ cap ∧ TextsAt w ao ps := by
  rcases h.2 with ⟨rfl, h0⟩ | ⟨g, cap, cur, rfl, hb, hh, hn, _, hsz, htk⟩
  · exact ⟨none, 0, by rw [h0], by omega, fun k h => by omega⟩
  · refine ⟨some ⟨g, 0, none⟩, cap, rfl, hn, fun k hk => ⟨g, rfl, ?_⟩⟩
    have : (cur.toList.take (ps.length * 1))[k]? = (ps.map Value.string)[k]? := by rw [htk]
    rw [List.getElem?_take, if_pos (by omega)] at this
    have e : w.cell? ⟨g, k, none⟩ = cur[k]? := by simp [World.cell?, hh]
    rw [e]; simpa [hk] using this
/-- What pieces hands back, written out. -/
theorem pieces_out (d : UInt8) (l : List UInt8) (w : World) (henv : Env w) (hl : l.length < 4294967281) :
    Calls Tryd.prog 26 #[.string ⟨l.toArray⟩, .string ⟨#[d]⟩] w fun e w' => ∃ (ao : Option Addr) (cap : Nat) (ps : List (List UInt8)), e = .returned (.slice ao ps.length cap) ∧ ps = piecesS d l ∧ ps.length ≤ cap ∧ TextsAt w' ao (ps.map (fun p => ⟨p.toArray⟩)) ∧ Below w.heap.size w w' := by
  refine (pieces_any d l w henv hl).mono ?_
  rintro e w' ⟨v, ps, rfl, hps, hown, hB⟩
  obtain ⟨ao, cap, rfl, hcap, hT⟩ := owns_texts hown
  have e1 : ps.length = (piecesS d l).length := by rw [← hps, List.length_map]
  refine ⟨ao, cap, piecesS d l, by rw [e1], rfl, by rw [← e1]; exact hcap, ?_, hB⟩
  rw [← hps, List.map_map]
  have : ps.map ((fun p : List UInt8 => (⟨p.toArray⟩ : ByteArray)) ∘ (fun x : ByteArray => x.data.toList)) = ps := by
    have : ((fun p : List UInt8 => (⟨p.toArray⟩ : ByteArray)) ∘ (fun x : ByteArray => x.data.toList)) = id := funext fun x => mk_data x
    rw [this, List.map_id]
  rw [this]; exact hT
theorem texts_cell {w : World} {ao : Option Addr} {ps : List (List UInt8)} (h : TextsAt w ao (ps.map (fun p => ⟨p.toArray⟩))) (k : Nat) (hk : k < ps.length) : ∃ g, ao = some ⟨g, 0, none⟩ ∧ w.cell? ⟨g, k, none⟩ = some (.string ⟨ps[k].toArray⟩) := by
  obtain ⟨g, h1, h2⟩ := h k (by simpa using hk)
  exact ⟨g, h1, by rw [h2]; simp⟩

theorem texts_round {w1 w3 : World} {qs : List (List UInt8)} {x : List UInt8} {v' : Value}
    (hown : w3.ownsRow w1.heap.size 9 1 v' (qs.length + 1) (qs.map (fun q => Value.string ⟨q.toArray⟩) ++ [.string ⟨x.toArray⟩])) :
    ∃ (ao : Option Addr) (cv : Nat), v' = .slice ao (qs ++ [x]).length cv ∧ Hid (w3.ownsRow w1.heap.size 9 1 (.slice ao (qs ++ [x]).length cv) (qs ++ [x]).length ((qs ++ [x]).map (fun q => Value.string ⟨q.toArray⟩))) := by
  have hq : (qs ++ [x]).length = qs.length + 1 := by simp
  obtain ⟨g, cap, hv⟩ : ∃ g cap, v' = .slice (some ⟨g, 0, none⟩) (qs.length + 1) cap := by
    rcases hown.2 with ⟨_, h⟩ | ⟨g, cap, _, h, _⟩
    · omega
    · exact ⟨g, cap, h⟩
  subst hv
  refine ⟨some ⟨g, 0, none⟩, cap, by rw [hq], ?_⟩
  unfold Hid; rw [hq, List.map_append]; exact hown

end Go.Proofs.YtfbalmamhcbojaaDoor
