/- The law FnSeatsChancedOfAll says true for all numbers and lists: chances and counts of displaced guests sum up, and chances, counts and means are those of the model. No condition. -/
import Derived.Test.YtdbjchmmdfjhjaaRows
import Derived.Test.YtdbjchmmdfjhjaaZs5
import Derived.Test.YtdbjchmmdfjhjaaLwSeatsChancedOfAll
namespace Go.Proofs.Ytdbjchmmdfjhjaa
open Go.ChangeShapes Go.WideShapes Go.ChangeAt Go.RowKit Go.Am

/-- The places that the arguments are read through. -/
theorem trodAll_many {H : Type} {enc : TypeId × Value → H} {P : Program} {w : World} {base : Nat} {spare : Nat → Bool} {held : Bool} {a0 a1 a2 a3 a4 a5 a6 a7 a8 : TypeId} {args : Array Value} {ds : List (DataW H)} {ps : List MemPlace} (h : DataW.TrodAll enc P w base spare held [a0, a1, a2, a3, a4, a5, a6, a7, a8] args.toList ds ps) :
    ∃ v0 v1 v2 v3 v4 v5 v6 v7 v8 d0 d1 d2 d3 d4 d5 d6 d7 d8 p0 p1 p2 p3 p4 p5 p6 p7 p8, args = #[v0, v1, v2, v3, v4, v5, v6, v7, v8] ∧ ds = [d0, d1, d2, d3, d4, d5, d6, d7, d8] ∧ ps = p0 ++ (p1 ++ (p2 ++ (p3 ++ (p4 ++ (p5 ++ (p6 ++ (p7 ++ (p8)))))))) ∧ DataW.Trod enc P w base spare held a0 v0 d0 p0 ∧ DataW.Trod enc P w base spare held a1 v1 d1 p1 ∧ DataW.Trod enc P w base spare held a2 v2 d2 p2 ∧ DataW.Trod enc P w base spare held a3 v3 d3 p3 ∧ DataW.Trod enc P w base spare held a4 v4 d4 p4 ∧ DataW.Trod enc P w base spare held a5 v5 d5 p5 ∧ DataW.Trod enc P w base spare held a6 v6 d6 p6 ∧ DataW.Trod enc P w base spare held a7 v7 d7 p7 ∧ DataW.Trod enc P w base spare held a8 v8 d8 p8 := by
  obtain ⟨v0, vs, d0, e0, p0, q0, hargs, rfl, rfl, h0, k0⟩ := trodAll_cons h
  obtain ⟨v1, vs, d1, e1, p1, q1, rfl, rfl, rfl, h1, k1⟩ := trodAll_cons k0
  obtain ⟨v2, vs, d2, e2, p2, q2, rfl, rfl, rfl, h2, k2⟩ := trodAll_cons k1
  obtain ⟨v3, vs, d3, e3, p3, q3, rfl, rfl, rfl, h3, k3⟩ := trodAll_cons k2
  obtain ⟨v4, vs, d4, e4, p4, q4, rfl, rfl, rfl, h4, k4⟩ := trodAll_cons k3
  obtain ⟨v5, vs, d5, e5, p5, q5, rfl, rfl, rfl, h5, k5⟩ := trodAll_cons k4
  obtain ⟨v6, vs, d6, e6, p6, q6, rfl, rfl, rfl, h6, k6⟩ := trodAll_cons k5
  obtain ⟨v7, vs, d7, e7, p7, q7, rfl, rfl, rfl, h7, k7⟩ := trodAll_cons k6
  obtain ⟨v8, vs, d8, e8, p8, q8, rfl, rfl, rfl, h8, k8⟩ := trodAll_cons k7
  obtain ⟨rfl, rfl, rfl⟩ := trodAll_nil k8
  exact ⟨v0, v1, v2, v3, v4, v5, v6, v7, v8, d0, d1, d2, d3, d4, d5, d6, d7, d8, p0, p1, p2, p3, p4, p5, p6, p7, p8, by cases args; simp_all, rfl, by simp, h0, h1, h2, h3, h4, h5, h6, h7, h8⟩

theorem own_FnSeatsChancedOfAll : ownKnob Try.prog.godebug = none := by kernel_rfl
theorem laid_FnSeatsChancedOfAll : laidOutB Try.prog = true := by kernel_rfl
theorem closed_FnSeatsChancedOfAll : joinedFacts Try.checked.prog 3 Try.f3 Rows.fnSeatsChancedOfAllSpec Rows.fnSeatsChancedOfAllRow = true := by
  unfold joinedFacts
  repeat' (with_reducible refine and_mk ?_ ?_)
  all_goals (first | with_reducible exact factMayEnter | (rw [factLifts]; as_aux_lemma => kernel_rfl) | (rw [factMake]; as_aux_lemma => kernel_rfl) | (as_aux_lemma => kernel_rfl))

set_option maxRecDepth 100000 in
theorem lifted_FnSeatsChancedOfAll (os : Os) (started : os.Started) (H : Type) (enc : TypeId × Value → H) :
    ReturnsInHanded {} Try.checked os 3 .any (Rows.fnSeatsChancedOfAllSpec.pre6 enc Try.prog Try.f3 Rows.fnSeatsChancedOfAllRow.domain false) (Rows.fnSeatsChancedOfAllSpec.post enc Try.prog Try.f3 false true false false) := by
  refine returnsInHanded_of_change (C := Try.checked) own_FnSeatsChancedOfAll started (by kernel_rfl) Try.func3
    (ChangeSpec.witness6 (enc := enc) (C := Try.checked) false ⟨#[], #[.int .i64 0, .int .i64 0, .int .i64 0, .int .i64 0, .int .i64 0, .int .i64 0, .int .i64 0, .int .i64 0, .slice none 0 0], []⟩ 8 (by kernel_rfl) (by kernel_rfl) (by kernel_rfl) (by kernel_rfl)) ?_
  intro W base args ds gs before hval0 hW _ _
  have hval : ∀ (j : Nat) t v, Try.f3.params[j]? = some t → args[j]? = some v → Value.okWide Try.prog W .any base t v := hval0
  have hW' := hW
  obtain ⟨p, q, hA0, hV, hpq, hz, hn⟩ := hW
  have hA : DataW.TrodAll enc Try.prog W 0 (fun _ => true) true Try.f3.params.toList args.toList ds p := hA0
  rw [Try.params3] at hA hval
  obtain ⟨v0, v1, v2, v3, v4, v5, v6, v7, v8, d0, d1, d2, d3, d4, d5, d6, d7, d8, p0, p1, p2, p3, p4, p5, p6, p7, p8, rfl, rfl, hps, h0, h1, h2, h3, h4, h5, h6, h7, h8⟩ := trodAll_many hA
  obtain ⟨rfl, rfl⟩ := trodVars_none hV
  obtain ⟨x0, hx0, hl0, hb0⟩ := arg_int Try.underlying3 (hval 0 3 v0 rfl rfl) h0
  obtain ⟨x1, hx1, hl1, hb1⟩ := arg_int Try.underlying3 (hval 1 3 v1 rfl rfl) h1
  obtain ⟨x2, hx2, hl2, hb2⟩ := arg_int Try.underlying3 (hval 2 3 v2 rfl rfl) h2
  obtain ⟨x3, hx3, hl3, hb3⟩ := arg_int Try.underlying3 (hval 3 3 v3 rfl rfl) h3
  obtain ⟨x4, hx4, hl4, hb4⟩ := arg_int Try.underlying3 (hval 4 3 v4 rfl rfl) h4
  obtain ⟨x5, hx5, hl5, hb5⟩ := arg_int Try.underlying3 (hval 5 3 v5 rfl rfl) h5
  obtain ⟨x6, hx6, hl6, hb6⟩ := arg_int Try.underlying3 (hval 6 3 v6 rfl rfl) h6
  obtain ⟨x7, hx7, hl7, hb7⟩ := arg_int Try.underlying3 (hval 7 3 v7 rfl rfl) h7
  obtain ⟨x8, hx8, hl8, hb8⟩ := arg_ints Try.underlying22 Try.underlying3 (by kernel_rfl) (hval 8 22 v8 rfl rfl) h8
  refine (law_calls (lawSeatsChancedOfAll x0 x1 x2 x3 x4 x5 x6 x7 x8) (by simp only [SimL, and_true]; exact ⟨hx0, hx1, hx2, hx3, hx4, hx5, hx6, hx7, hx8⟩) rfl).mono fun e W' ⟨he, hm⟩ => ?_
  subst he
  exact ⟨_, rfl, law_post laid_FnSeatsChancedOfAll hW' rfl rfl (bt := 4) rfl Try.underlying4 (by rw [Try.params3]; decide +kernel) hm⟩

theorem fnSeatsChancedOfAll_holds : Rows.FnSeatsChancedOfAllSaid :=
  OpenClaim.holds_of_wide 3 Try.f3 rfl rfl rfl rfl rfl rfl rfl ⟨rfl, rfl, rfl, rfl, rfl⟩ rfl rfl rfl rfl rfl (by kernel_rfl) Try.func3 closed_FnSeatsChancedOfAll
    (of_decide_eq_true (by kernel_rfl)) (by unfold Func.isWrapper; first | (rw [if_pos (by decide +kernel)]; kernel_rfl) | (rw [if_neg (by decide +kernel)]; exact ⟨rfl, rfl⟩))
    (fun os started H enc _ => lifted_FnSeatsChancedOfAll os started H enc)
end Go.Proofs.Ytdbjchmmdfjhjaa
