/- Plain: what moatlaw6.CspHosts asks. -/
import Derived.Test.YtmepjaepggomjaaDoorG3
namespace Go.Proofs.Url
def heads3 : List (List UInt8) := [[], [104, 116, 116, 112, 58, 47, 47], [104, 116, 116, 112, 115, 58, 47, 47]]
def ports4 : List (List UInt8) := [[], [58, 42], [58, 56, 52, 52, 51], [58, 52, 52, 51]]
def hosts4 : List (List UInt8) := [[97, 46, 116, 101, 115, 116], [98, 46, 97, 46, 116, 101, 115, 116], [98, 97, 46, 116, 101, 115, 116], [99, 46, 98, 46, 97, 46, 116, 101, 115, 116]]
def nums3 : List Int := [80, 443, 8443]
def schemeB (b : Bool) : List UInt8 := if b then http else https
def starB (b : Bool) : List UInt8 := if b then [42, 46] else []
def srcH (wild : Bool) (s p : Nat) : List UInt8 := heads3.getD s [] ++ starB wild ++ [97, 46, 116, 101, 115, 116] ++ ports4.getD p []
def hostsB (wild : Bool) (h : Nat) : Bool := (h == 0 && !wild) || (wild && (h == 1 || h == 3))
def schemesB (s : Nat) (http own : Bool) : Bool := ((s == 0 && (!http || own)) || (s == 1 && http)) || (s == 2 && !http)
def stdB (http : Bool) : Int := if http then 80 else 443
def endsB (p : Nat) (n std : Int) : Bool := (((p == 0 && n == std) || p == 1) || (p == 2 && n == 8443)) || (p == 3 && n == 443)
theorem hosts_match : ∀ (wild http own : Bool) (s : Fin 3) (p : Fin 4) (h : Fin 4) (a : Fin 3), matchS (srcH wild s p) (schemeB own) [113, 46, 116, 101, 115, 116] 443 (schemeB http) (hosts4.getD h []) (nums3.getD a 0) = (hostsB wild h && schemesB s http own && endsB p (nums3.getD a 0) (stdB http)) := by decide +kernel
theorem hosts_lets : ∀ (wild http own : Bool) (s : Fin 3) (p : Fin 4) (h : Fin 4) (a : Fin 3), letsP ([115, 99, 114, 105, 112, 116, 45, 115, 114, 99, 32, 39, 110, 111, 110, 101, 39, 32] ++ srcH wild s p) (schemeB own) [113, 46, 116, 101, 115, 116] 443 (schemeB http) (hosts4.getD h []) (nums3.getD a 0) = (hostsB wild h && schemesB s http own && endsB p (nums3.getD a 0) (stdB http)) := by decide +kernel
theorem heads3_at (s : Nat) (h : s < 3) : [Value.string ⟨#[]⟩, .string ⟨#[104, 116, 116, 112, 58, 47, 47]⟩, .string ⟨#[104, 116, 116, 112, 115, 58, 47, 47]⟩][s] = .string ⟨(heads3.getD s []).toArray⟩ := by
  match s, h with
  | 0, _ => rfl
  | 1, _ => rfl
  | 2, _ => rfl
theorem ports4_at (s : Nat) (h : s < 4) : [Value.string ⟨#[]⟩, .string ⟨#[58, 42]⟩, .string ⟨#[58, 56, 52, 52, 51]⟩, .string ⟨#[58, 52, 52, 51]⟩][s] = .string ⟨(ports4.getD s []).toArray⟩ := by
  match s, h with
  | 0, _ => rfl
  | 1, _ => rfl
  | 2, _ => rfl
  | 3, _ => rfl
theorem hosts4_at (s : Nat) (h : s < 4) : [Value.string ⟨#[97, 46, 116, 101, 115, 116]⟩, .string ⟨#[98, 46, 97, 46, 116, 101, 115, 116]⟩, .string ⟨#[98, 97, 46, 116, 101, 115, 116]⟩, .string ⟨#[99, 46, 98, 46, 97, 46, 116, 101, 115, 116]⟩][s] = .string ⟨(hosts4.getD s []).toArray⟩ := by
  match s, h with
  | 0, _ => rfl
  | 1, _ => rfl
  | 2, _ => rfl
  | 3, _ => rfl
theorem nums3_at (s : Nat) (h : s < 3) : [Value.int .i64 80, .int .i64 443, .int .i64 8443][s] = .int .i64 (nums3.getD s 0) := by
  match s, h with
  | 0, _ => rfl
  | 1, _ => rfl
  | 2, _ => rfl
theorem hosts_len : (∀ s : Fin 3, (heads3.getD s []).length ≤ 8) ∧ (∀ s : Fin 4, (ports4.getD s []).length ≤ 5) ∧ (∀ s : Fin 4, (hosts4.getD s []).length ≤ 10) := by decide
end Go.Proofs.Url
