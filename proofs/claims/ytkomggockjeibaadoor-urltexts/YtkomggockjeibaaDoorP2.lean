/- Whatever it is handed, moatlaw1.UrlTexts answers true and leaves its arguments as they read before: the tied card of UrlTexts is proved. Conditions: those of the row alone (the listed tables of the library lie as the program's text lays them). -/
import Derived.Test.YtkomggockjeibaaDoorFrame
import Derived.Test.YtkomggockjeibaaDoorL2
import Derived.Test.YtkomggockjeibaaDoorOrg
namespace Go.Proofs.YtkomggockjeibaaDoor
open Go.ChangeShapes Go.WideShapes Go.ChangeAt Go.RowKit Go.Proofs.Url

theorem urlTexts_contract (H : Type) (enc : TypeId × Value → H) (W : World) (base : Nat) (args : Array Value) (ds gs : List (DataW H)) (before : List MemPlace)
    (hval : ∀ (j : Nat) t v, Tryd.f4.params[j]? = some t → args[j]? = some v → Value.okWide Tryd.prog W .any base t v)
    (hW : DataW.Whole enc Tryd.prog Tryd.f4.params.toList Rows.urlTextsSpec.vars false W args.toList ds gs before) (henv : Env W)
    (hR : (DataW.weightsEach Tryd.prog (Tryd.f4.params.toList ++ (OpenSpec.ofChange Rows.urlTextsSpec).bare.plain.varTypes Tryd.prog) (ds ++ gs)).all (· ≤ reachBytes) = true) :
    Calls Tryd.prog 4 args W fun e W' => ∃ v, e = .returned v ∧ Rows.urlTextsSpec.post enc Tryd.prog Tryd.f4 false true false false W args v W' := by
  have hW' := hW
  obtain ⟨p, q, hA0, hV, rfl, hfz, hnd⟩ := hW
  have hA : DataW.TrodAll enc Tryd.prog W 0 (fun _ => true) true Tryd.f4.params.toList args.toList ds p := hA0
  rw [Tryd.params4] at hA hval hR
  obtain ⟨v0, vs0, d0, ds0, p0, q0, hargs, rfl, rfl, h0, r0⟩ := trodAll_cons hA
  obtain ⟨v1, vs1, d1, ds1, p1, q1, rfl, rfl, rfl, h1, r1⟩ := trodAll_cons r0
  obtain ⟨rfl, rfl, rfl⟩ := trodAll_nil r1
  obtain rfl : args = #[v0, v1] := by cases args; simp_all
  obtain ⟨rfl, rfl⟩ := trodVars_none hV
  obtain ⟨nm0, sc0, ho0, po0, rfl, rfl, rfl, w0, hsh0⟩ := open_origin (hval 0 24 v0 rfl rfl) h0
  obtain ⟨nm1, sc1, ho1, po1, rfl, rfl, rfl, w1, hsh1⟩ := open_origin (hval 1 24 v1 rfl rfl) h1
  clear hA0
  obtain ⟨r1, r2, r3, r4, r5, r6⟩ := reach_origins (H := H) hR
  obtain ⟨a1, rfl⟩ : ∃ l : List UInt8, nm0 = ⟨l.toArray⟩ := ⟨nm0.data.toList, by cases nm0; simp⟩
  obtain ⟨a2, rfl⟩ : ∃ l : List UInt8, sc0 = ⟨l.toArray⟩ := ⟨sc0.data.toList, by cases sc0; simp⟩
  obtain ⟨a3, rfl⟩ : ∃ l : List UInt8, ho0 = ⟨l.toArray⟩ := ⟨ho0.data.toList, by cases ho0; simp⟩
  obtain ⟨b1, rfl⟩ : ∃ l : List UInt8, nm1 = ⟨l.toArray⟩ := ⟨nm1.data.toList, by cases nm1; simp⟩
  obtain ⟨b2, rfl⟩ : ∃ l : List UInt8, sc1 = ⟨l.toArray⟩ := ⟨sc1.data.toList, by cases sc1; simp⟩
  obtain ⟨b3, rfl⟩ : ∃ l : List UInt8, ho1 = ⟨l.toArray⟩ := ⟨ho1.data.toList, by cases ho1; simp⟩
  unfold reachBytes at r1 r2 r3 r5 r6
  replace r1 : a1.length ≤ 140737488355328 := by simp at r1; omega
  replace r2 : a2.length ≤ 140737488355328 := by simp at r2; omega
  replace r3 : a3.length ≤ 140737488355328 := by simp at r3; omega
  replace r5 : b2.length ≤ 140737488355328 := by simp at r5; omega
  replace r6 : b3.length ≤ 140737488355328 := by simp at r6; omega
  refine (urlTexts_walk a1 a2 a3 b1 b2 b3 po0 po1 W henv r1 r2 r3 r5 r6).mono fun e W' ⟨he, bel⟩ => ?_
  subst he
  exact ⟨_, rfl, _, _, _, [], _, [], hW', trodAll_mk1 (shut_bool Tryd.underlying4 _), (trodAll_cons_mk (hsh0 W' _) (trodAll_cons_mk (hsh1 W' _) trodAll_mk0)), rfl, bel.frame _, fun h => by cases h⟩

theorem urlTexts_laid (os : Os) : laidMet Tryd.prog Rows.urlTextsRow.laid (({ World.holding Tryd.prog os ⟨#[], #[], []⟩ with heap := layAll (World.holding Tryd.prog os ⟨#[], #[], []⟩).heap } : World).forCall (fun _ _ => 0) ⟨#[], #[.agg #[.string ⟨#[]⟩, .string ⟨#[]⟩, .string ⟨#[]⟩, .int .i64 0], .agg #[.string ⟨#[]⟩, .string ⟨#[]⟩, .string ⟨#[]⟩, .int .i64 0]], []⟩).memory :=
  laidMet_of_run' 8 (by kernel_rfl) (by kernel_rfl)
theorem urlTexts_reads (os : Os) {H : Type} (enc : TypeId × Value → H) : ∃ places, DataW.whole enc Tryd.prog (({ World.holding Tryd.prog os ⟨#[], #[], []⟩ with heap := layAll (World.holding Tryd.prog os ⟨#[], #[], []⟩).heap } : World).forCall (fun _ _ => 0) ⟨#[], #[.agg #[.string ⟨#[]⟩, .string ⟨#[]⟩, .string ⟨#[]⟩, .int .i64 0], .agg #[.string ⟨#[]⟩, .string ⟨#[]⟩, .string ⟨#[]⟩, .int .i64 0]], []⟩).memory Tryd.f4.params.toList Rows.urlTextsSpec.vars false #[Value.agg #[.string ⟨#[]⟩, .string ⟨#[]⟩, .string ⟨#[]⟩, .int .i64 0], .agg #[.string ⟨#[]⟩, .string ⟨#[]⟩, .string ⟨#[]⟩, .int .i64 0]].toList 8 = some ([.agg [.lit (.string []), .lit (.string []), .lit (.string []), .lit (.int .i64 0)], .agg [.lit (.string []), .lit (.string []), .lit (.string []), .lit (.int .i64 0)]], [], places) :=
  ⟨[], by kernel_rfl⟩

set_option maxRecDepth 100000 in
theorem urlTexts_lifted (os : Os) (started : os.Started) (H : Type) (enc : TypeId × Value → H) (F : Stop.Interp) :
    ReturnsInHanded {} Tryd.checked os 4 .any ((OpenSpec.ofChange Rows.urlTextsSpec).preRow enc Tryd.prog Tryd.f4 Rows.urlTextsRow.domain false Rows.urlTextsRow.laid) (((OpenSpec.ofChange Rows.urlTextsSpec).at F).post enc Tryd.prog Tryd.f4 false true false false) := by
  obtain ⟨places, hx⟩ := urlTexts_reads os enc
  refine returnsInHanded_of_row (C := Tryd.checked) (s := OpenSpec.ofChange Rows.urlTextsSpec) own_knob started (by kernel_rfl) Tryd.func4
    (witness_row_at (enc := enc) (C := Tryd.checked) false { World.holding Tryd.prog os ⟨#[], #[], []⟩ with heap := layAll (World.holding Tryd.prog os ⟨#[], #[], []⟩).heap } #[.agg #[.string ⟨#[]⟩, .string ⟨#[]⟩, .string ⟨#[]⟩, .int .i64 0], .agg #[.string ⟨#[]⟩, .string ⟨#[]⟩, .string ⟨#[]⟩, .int .i64 0]] rfl (by kernel_rfl) (by kernel_rfl) (by kernel_rfl)
      (OpenSpec.preRow_of_cond 8 hx (by kernel_rfl) (fun k hk => by cases hk) (by kernel_rfl) (urlTexts_laid os))) ?_
  intro W base args ds gs before hval hW _ _ hR hL hS _
  exact urlTexts_contract H enc W base args ds gs before hval hW (env_of hL hS) hR

theorem urlTexts_said : Rows.UrlTextsSaid :=
  OpenClaim.holds_of_cond 4 Tryd.f4 rfl rfl rfl rfl rfl rfl rfl ⟨rfl, rfl, rfl, rfl, rfl⟩ rfl rfl rfl rfl rfl (by kernel_rfl) Tryd.func4 (by kernel_rfl)
    (of_decide_eq_true (by kernel_rfl)) (by unfold Func.isWrapper; first | (rw [if_pos (by decide +kernel)]; kernel_rfl) | (rw [if_neg (by decide +kernel)]; exact ⟨rfl, rfl⟩))
    (fun os started H enc _ F => by rw [OpenClaim.pre_eq_preRow]; exact urlTexts_lifted os started H enc F)

theorem urlTexts_plain (f : FuncId) (fn : Func) (hf : Tryd.pinned.checked.prog.funcNamed "moat/moatlaw1.UrlTexts" = some f) (hfn : Tryd.pinned.checked.prog.funcs[f]? = some fn) :
    false = Tryd.pinned.checked.prog.looks [] ∧ ∀ (j : Nat) t, fn.params[j]? = some t → Tryd.pinned.checked.prog.wantsStandIn t = false := by
  obtain rfl : f = 4 := Option.some.inj ((show Tryd.prog.funcNamed "moat/moatlaw1.UrlTexts" = some 4 by kernel_rfl).symm.trans hf) |>.symm
  obtain rfl : fn = Tryd.f4 := (Option.some.inj (Tryd.func4.symm.trans hfn)).symm
  refine ⟨by kernel_rfl, fun j t ht => ?_⟩
  rw [Tryd.params4] at ht
  have hm := Array.mem_of_getElem? ht
  simp only [List.mem_toArray, List.mem_cons, List.mem_nil_iff, or_false, or_self] at hm
  rcases hm with rfl
  · exact (show Tryd.prog.wantsStandIn 24 = false by kernel_rfl)

theorem urlTexts_card : Rows.UrlTextsCardSaid :=
  Claim7.holds_tied_plain_at .later [] _ _ _ _ urlTexts_said (fun _ h => by cases h) (by kernel_rfl) (fun _ h => by cases h) urlTexts_row_tie rfl ⟨rfl, rfl⟩ (by kernel_rfl) rfl urlTexts_plain (by kernel_rfl)
end Go.Proofs.YtkomggockjeibaaDoor
