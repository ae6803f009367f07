/- Plain: a source of a host, as the landed package csp takes it apart. No program is named here. -/
import Derived.Test.YtmepjaepggomjaaDoorG3
import Derived.Test.YtmepjaepggomjaaDoorPlain4
namespace Go.Proofs.Url

def noneW : List UInt8 := [39, 110, 111, 110, 101, 39]
def httpC : List UInt8 := [104, 116, 116, 112, 58]
def httpsC : List UInt8 := [104, 116, 116, 112, 115, 58]
def cutC (l : List UInt8) : List UInt8 × List UInt8 := if Lib.hasPrefix l httpP then (http, l.drop 7) else if Lib.hasPrefix l httpsP then (https, l.drop 8) else ([], l)
def schemeF (sch ss os : List UInt8) : Bool := if sch = [] then decide (os = ss) || decide (os = https) else decide (os = sch)
def hostF (h oh : List UInt8) : Bool := if Lib.hasPrefix h [42, 46] then !decide (oh = h.drop 2) && underS oh (h.drop 2) else decide (oh = h) && host h
def portF (q : List UInt8) (told : Bool) (os : List UInt8) (op : Int) : Bool := if told then (if q = [42] then true else portOk q && decide (op = port q)) else decide (op = own os)
theorem wild_host (h oh : List UInt8) : wildS h oh = hostF h oh := by
  unfold wildS hostF Lib.hasPrefix
  split
  · rw [Bool.eq_iff_iff]
    simp only [Bool.and_eq_true, Bool.not_eq_true', decide_eq_false_iff_not, under_iff]
    exact ⟨fun ⟨⟨_, b⟩, c⟩ => ⟨c, b⟩, fun ⟨c, b⟩ => ⟨⟨b.2.1, b⟩, c⟩⟩
  · exact Bool.and_comm _ _
theorem port_coln {q : List UInt8} (h : 58 ∈ q) : portOk q = false := by
  have : q.all dig = false := by
    rw [List.all_eq_false]
    exact ⟨58, h, by decide⟩
  unfold portOk
  simp [this]
theorem port_num {q : List UInt8} (op : Int) : (portOk q && decide (num q = op)) = (portOk q && decide (op = port q)) := by
  unfold port
  cases h : portOk q
  · rfl
  · simp only [Bool.true_and, if_true]
    rw [Bool.eq_iff_iff]
    simp
    exact eq_comm
theorem end_port (rest os : List UInt8) (op : Int) : endS (parts 58 rest) os op = portF (Lib.cut rest [58]).2.1 (Lib.cut rest [58]).2.2 os op ∧ (parts 58 rest).headD [] = (Lib.cut rest [58]).1 := by
  rcases splitc 58 rest with h | ⟨a, b, rfl, ha⟩
  · rw [parts_free 58 h, cutc_none 58 _ h]
    exact ⟨rfl, rfl⟩
  · rw [parts_append, parts_free 58 ha, cutc_app 58 _ _ ha]
    refine ⟨?_, rfl⟩
    simp only [List.cons_append, List.nil_append]
    rcases splitc 58 b with h | ⟨c, d, rfl, hc⟩
    · rw [parts_free 58 h]
      unfold endS portF
      simp only [if_true]
      by_cases e : b = [42]
      · simp [e]
      · rw [if_neg e, decide_eq_false e, Bool.false_or, port_num]
    · rw [parts_append, parts_free 58 hc]
      have hne := parts_ne 58 d
      cases hp : parts 58 d with
      | nil => exact absurd hp hne
      | cons x y =>
        unfold endS portF
        simp only [List.cons_append, List.nil_append, if_true]
        rw [if_neg (by
          intro e
          have : (58 : UInt8) ∈ c ++ 58 :: d := by simp
          rw [e] at this
          exact absurd this (by decide)), port_coln (by simp)]
        rfl
theorem host_match (sch : Bool) (rest os oh : List UInt8) (op : Int) : hostMatch sch rest os oh op = (sch && hostF (Lib.cut rest [58]).1 oh && portF (Lib.cut rest [58]).2.1 (Lib.cut rest [58]).2.2 os op) := by
  unfold hostMatch
  rw [(end_port rest os op).1, (end_port rest os op).2, wild_host, Bool.and_assoc, Bool.and_assoc, Bool.and_comm (hostF _ _)]
/-- What is left to a host. -/
def matchH (s ss os oh : List UInt8) (op : Int) : Bool := schemeF (cutC s).1 ss os && hostF (Lib.cut (cutC s).2 [58]).1 oh && portF (Lib.cut (cutC s).2 [58]).2.1 (Lib.cut (cutC s).2 [58]).2.2 os op
theorem match_else (s ss sh : List UInt8) (sp : Int) (os oh : List UInt8) (op : Int) (h1 : s ≠ selfW) (h2 : s ≠ [42]) (h3 : s ≠ httpC) (h4 : s ≠ httpsC) : matchL s ss sh sp os oh op = matchH s ss os oh op := by
  unfold matchL matchH cutC Lib.hasPrefix
  rw [if_neg h1, if_neg h2, if_neg (by exact h3), if_neg (by exact h4)]
  split
  · rw [host_match]; rfl
  · split
    · rw [host_match]; rfl
    · rw [host_match]; rfl
theorem matchH_none (ss os oh : List UInt8) (op : Int) : matchH noneW ss os oh op = false := by
  unfold matchH
  rw [show hostF (Lib.cut (cutC noneW).2 [58]).1 oh = false by
    unfold hostF
    rw [if_neg (by decide +kernel), show host (Lib.cut (cutC noneW).2 [58]).1 = false by decide +kernel, Bool.and_false]]
  simp
theorem matchH_inline (ss os oh : List UInt8) (op : Int) : matchH inlineW ss os oh op = false := by
  unfold matchH
  rw [show hostF (Lib.cut (cutC inlineW).2 [58]).1 oh = false by
    unfold hostF
    rw [if_neg (by decide +kernel), show host (Lib.cut (cutC inlineW).2 [58]).1 = false by decide +kernel, Bool.and_false]]
  simp
theorem match_none (ss sh : List UInt8) (sp : Int) (os oh : List UInt8) (op : Int) : matchL noneW ss sh sp os oh op = false := by
  rw [match_else _ _ _ _ _ _ _ (by decide) (by decide) (by decide) (by decide), matchH_none]
theorem match_inline (ss sh : List UInt8) (sp : Int) (os oh : List UInt8) (op : Int) : matchL inlineW ss sh sp os oh op = false := by
  rw [match_else _ _ _ _ _ _ _ (by decide) (by decide) (by decide) (by decide), matchH_inline]
theorem match_self (ss sh : List UInt8) (sp : Int) (os oh : List UInt8) (op : Int) : matchL selfW ss sh sp os oh op = decide (os = ss ∧ oh = sh ∧ op = sp) := by
  unfold matchL; rw [if_pos rfl]
theorem match_star (ss sh : List UInt8) (sp : Int) (os oh : List UInt8) (op : Int) : matchL [42] ss sh sp os oh op = true := by
  unfold matchL; rw [if_neg (by decide), if_pos rfl]
theorem match_http (ss sh : List UInt8) (sp : Int) (os oh : List UInt8) (op : Int) : matchL httpC ss sh sp os oh op = decide (os = http) := by
  unfold matchL; rw [if_neg (by decide), if_neg (by decide), if_pos (by decide)]
theorem match_https (ss sh : List UInt8) (sp : Int) (os oh : List UInt8) (op : Int) : matchL httpsC ss sh sp os oh op = decide (os = https) := by
  unfold matchL; rw [if_neg (by decide), if_neg (by decide), if_neg (by decide), if_pos (by decide)]
theorem cutC_le (l : List UInt8) : (cutC l).2.length ≤ l.length := by
  unfold cutC
  split
  · simp
  · split <;> simp
end Go.Proofs.Url
