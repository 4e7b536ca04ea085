/- The law FnNoneRankedOfAll says true for every list and all numbers: exchanges without own coats are ranked in order, next ones are next, and counts by own coats are all; no condition. -/
import Derived.Test.YtgjlaajkakecpaaRows
import Derived.Test.YtgjlaajkakecpaaAmN
import Derived.Test.YtgjlaajkakecpaaFcA
import Derived.Test.YtgjlaajkakecpaaFcB
import Derived.Test.YtgjlaajkakecpaaFcC
import Derived.Test.YtgjlaajkakecpaaLwNoneRankedOfAll
namespace Go.Proofs.Ytgjlaajkakecpaa
open Go.ChangeShapes Go.WideShapes Go.ChangeAt Go.RowKit Go.Am

/-- The places that the arguments are read through. -/
theorem trodAll_many {H : Type} {enc : TypeId × Value → H} {P : Program} {w : World} {base : Nat} {spare : Nat → Bool} {held : Bool} {a0 a1 a2 a3 a4 a5 : TypeId} {args : Array Value} {ds : List (DataW H)} {ps : List MemPlace} (h : DataW.TrodAll enc P w base spare held [a0, a1, a2, a3, a4, a5] args.toList ds ps) :
    ∃ v0 v1 v2 v3 v4 v5 d0 d1 d2 d3 d4 d5 p0 p1 p2 p3 p4 p5, args = #[v0, v1, v2, v3, v4, v5] ∧ ds = [d0, d1, d2, d3, d4, d5] ∧ ps = p0 ++ (p1 ++ (p2 ++ (p3 ++ (p4 ++ (p5))))) ∧ DataW.Trod enc P w base spare held a0 v0 d0 p0 ∧ DataW.Trod enc P w base spare held a1 v1 d1 p1 ∧ DataW.Trod enc P w base spare held a2 v2 d2 p2 ∧ DataW.Trod enc P w base spare held a3 v3 d3 p3 ∧ DataW.Trod enc P w base spare held a4 v4 d4 p4 ∧ DataW.Trod enc P w base spare held a5 v5 d5 p5 := by
  obtain ⟨v0, vs, d0, e0, p0, q0, hargs, rfl, rfl, h0, k0⟩ := trodAll_cons h
  obtain ⟨v1, vs, d1, e1, p1, q1, rfl, rfl, rfl, h1, k1⟩ := trodAll_cons k0
  obtain ⟨v2, vs, d2, e2, p2, q2, rfl, rfl, rfl, h2, k2⟩ := trodAll_cons k1
  obtain ⟨v3, vs, d3, e3, p3, q3, rfl, rfl, rfl, h3, k3⟩ := trodAll_cons k2
  obtain ⟨v4, vs, d4, e4, p4, q4, rfl, rfl, rfl, h4, k4⟩ := trodAll_cons k3
  obtain ⟨v5, vs, d5, e5, p5, q5, rfl, rfl, rfl, h5, k5⟩ := trodAll_cons k4
  obtain ⟨rfl, rfl, rfl⟩ := trodAll_nil k5
  exact ⟨v0, v1, v2, v3, v4, v5, d0, d1, d2, d3, d4, d5, p0, p1, p2, p3, p4, p5, by cases args; simp_all, rfl, by simp, h0, h1, h2, h3, h4, h5⟩

theorem own_FnNoneRankedOfAll : ownKnob Try.prog.godebug = none := by kernel_rfl
theorem laid_FnNoneRankedOfAll : laidOutB Try.prog = true := by kernel_rfl
theorem closed_FnNoneRankedOfAll : joinedFacts Try.checked.prog 4 Try.f4 Rows.fnNoneRankedOfAllSpec Rows.fnNoneRankedOfAllRow = true := by
  unfold joinedFacts
  repeat' (with_reducible refine and_mk ?_ ?_)
  all_goals (first | with_reducible exact factMayEnter | (rw [factLifts]; as_aux_lemma => kernel_rfl) | (rw [factMake]; as_aux_lemma => kernel_rfl) | (as_aux_lemma => kernel_rfl))

set_option maxRecDepth 100000 in
theorem lifted_FnNoneRankedOfAll (os : Os) (started : os.Started) (H : Type) (enc : TypeId × Value → H) :
    ReturnsInHanded {} Try.checked os 4 .any (Rows.fnNoneRankedOfAllSpec.pre6 enc Try.prog Try.f4 Rows.fnNoneRankedOfAllRow.domain false) (Rows.fnNoneRankedOfAllSpec.post enc Try.prog Try.f4 false true false false) := by
  refine returnsInHanded_of_change (C := Try.checked) own_FnNoneRankedOfAll started (by kernel_rfl) Try.func4
    (ChangeSpec.witness6 (enc := enc) (C := Try.checked) false ⟨#[], #[.slice none 0 0, .int .i64 0, .int .i64 0, .int .i64 0, .int .i64 0, .int .i64 0], []⟩ 8 (by kernel_rfl) (by kernel_rfl) (by kernel_rfl) (by kernel_rfl)) ?_
  intro W base args ds gs before hval0 hW _ _
  have hval : ∀ (j : Nat) t v, Try.f4.params[j]? = some t → args[j]? = some v → Value.okWide Try.prog W .any base t v := hval0
  have hW' := hW
  obtain ⟨p, q, hA0, hV, hpq, hz, hn⟩ := hW
  have hA : DataW.TrodAll enc Try.prog W 0 (fun _ => true) true Try.f4.params.toList args.toList ds p := hA0
  rw [Try.params4] at hA hval
  obtain ⟨v0, v1, v2, v3, v4, v5, d0, d1, d2, d3, d4, d5, p0, p1, p2, p3, p4, p5, rfl, rfl, hps, h0, h1, h2, h3, h4, h5⟩ := trodAll_many hA
  obtain ⟨rfl, rfl⟩ := trodVars_none hV
  obtain ⟨x0, hx0, hl0, hb0⟩ := arg_ints Try.underlying24 Try.underlying3 (by kernel_rfl) (hval 0 24 v0 rfl rfl) h0
  obtain ⟨x1, hx1, hl1, hb1⟩ := arg_int Try.underlying3 (hval 1 3 v1 rfl rfl) h1
  obtain ⟨x2, hx2, hl2, hb2⟩ := arg_int Try.underlying3 (hval 2 3 v2 rfl rfl) h2
  obtain ⟨x3, hx3, hl3, hb3⟩ := arg_int Try.underlying3 (hval 3 3 v3 rfl rfl) h3
  obtain ⟨x4, hx4, hl4, hb4⟩ := arg_int Try.underlying3 (hval 4 3 v4 rfl rfl) h4
  obtain ⟨x5, hx5, hl5, hb5⟩ := arg_int Try.underlying3 (hval 5 3 v5 rfl rfl) h5
  refine (law_calls (lawNoneRankedOfAll x0 x1 x2 x3 x4 x5) (by simp only [SimL, and_true]; exact ⟨hx0, hx1, hx2, hx3, hx4, hx5⟩) rfl).mono fun e W' ⟨he, hm⟩ => ?_
  subst he
  exact ⟨_, rfl, law_post laid_FnNoneRankedOfAll hW' rfl rfl (bt := 4) rfl Try.underlying4 (by rw [Try.params4]; decide +kernel) hm⟩

theorem fnNoneRankedOfAll_holds : Rows.FnNoneRankedOfAllSaid :=
  OpenClaim.holds_of_wide 4 Try.f4 rfl rfl rfl rfl rfl rfl rfl ⟨rfl, rfl, rfl, rfl, rfl⟩ rfl rfl rfl rfl rfl (by kernel_rfl) Try.func4 closed_FnNoneRankedOfAll
    (of_decide_eq_true (by kernel_rfl)) (by unfold Func.isWrapper; first | (rw [if_pos (by decide +kernel)]; kernel_rfl) | (rw [if_neg (by decide +kernel)]; exact ⟨rfl, rfl⟩))
    (fun os started H enc _ => lifted_FnNoneRankedOfAll os started H enc)
end Go.Proofs.Ytgjlaajkakecpaa
