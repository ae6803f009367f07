/- Walks over moatref3.List, moatlaw0.OverTexts. -/
import Derived.Test.YtfbalmamhcbojaaDoorV4
import Derived.Test.YtfbalmamhcbojaaDoorV7
import Derived.Test.YtfbalmamhcbojaaDoorRC
namespace Go.Proofs.YtfbalmamhcbojaaDoor
open Go.RowKit Go.Proofs.Url

/-- What moatref1.Cut hands back, written out. -/
theorem cut_texts (c : UInt8) (l : List UInt8) (w : World) (hl : l.length < 4294967281) :
    Calls Tryd.prog 34 #[.string ⟨l.toArray⟩, .int .u8 c.toNat] w fun e w' => ∃ (ao : Option Addr) (cap : Nat) (ps : List (List UInt8)), e = .returned (.slice ao ps.length cap) ∧ ps = parts c l ∧ ps.length ≤ cap ∧ TextsAt w' ao (ps.map (fun p => ⟨p.toArray⟩)) ∧ Below w.heap.size w w' := by
  refine (refCut_any ⟨l.toArray⟩ c w (by rw [Lib.size_mk]; exact hl)).mono ?_
  rintro e w' ⟨v, ps, rfl, hps, hown, hB⟩
  obtain ⟨ao, cap, rfl, hcap, hT⟩ := owns_texts hown
  have hps' : ps.map (fun x : ByteArray => x.data.toList) = parts c l := hps
  have e1 : ps.length = (parts c l).length := by rw [← hps', List.length_map]
  refine ⟨ao, cap, parts c l, by rw [e1], rfl, by rw [← e1]; exact hcap, ?_, hB⟩
  rw [← hps', List.map_map]
  have : ps.map ((fun p : List UInt8 => (⟨p.toArray⟩ : ByteArray)) ∘ (fun x : ByteArray => x.data.toList)) = ps := by
    have : ((fun p : List UInt8 => (⟨p.toArray⟩ : ByteArray)) ∘ (fun x : ByteArray => x.data.toList)) = id := funext fun x => mk_data x
    rw [this, List.map_id]
  rw [this]; exact hT

/-- What was gathered of so many parts. -/
def gath (f : List UInt8 → List UInt8) (ps : List (List UInt8)) (k : Nat) : List (List UInt8) := ((ps.take k).map f).filter (fun t => !t.isEmpty)
theorem gath_zero (f : List UInt8 → List UInt8) (ps : List (List UInt8)) : gath f ps 0 = [] := rfl
theorem gath_add (f : List UInt8 → List UInt8) (ps : List (List UInt8)) (k : Nat) (h : k < ps.length) (he : (f ps[k]).isEmpty = false) : gath f ps (k + 1) = gath f ps k ++ [f ps[k]] := by
  unfold gath; rw [List.take_succ_eq_append_getElem h, List.map_append, List.filter_append]; simp [he]
theorem gath_skip (f : List UInt8 → List UInt8) (ps : List (List UInt8)) (k : Nat) (h : k < ps.length) (he : f ps[k] = []) : gath f ps (k + 1) = gath f ps k := by
  unfold gath; rw [List.take_succ_eq_append_getElem h, List.map_append, List.filter_append]; simp [he]
theorem gath_all (f : List UInt8 → List UInt8) (ps : List (List UInt8)) (k : Nat) (h : ps.length ≤ k) : gath f ps k = (ps.map f).filter (fun t => !t.isEmpty) := by
  unfold gath; rw [List.take_of_length_le h]
theorem gath_mem (f : List UInt8 → List UInt8) (ps : List (List UInt8)) (k : Nat) (h : k < ps.length) (he : (f ps[k]).isEmpty = false) : f ps[k] ∈ (ps.map f).filter (fun t => !t.isEmpty) :=
  List.mem_filter.2 ⟨List.mem_map.2 ⟨ps[k], List.getElem_mem h, rfl⟩, by simp [he]⟩

end Go.Proofs.YtfbalmamhcbojaaDoor
