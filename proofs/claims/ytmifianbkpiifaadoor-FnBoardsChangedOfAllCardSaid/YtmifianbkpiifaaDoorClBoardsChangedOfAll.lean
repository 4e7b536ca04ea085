/- The law FnBoardsChangedOfAll says true for all texts and numbers. No condition. -/
import Derived.Test.YtmifianbkpiifaaDoorRows
import Derived.Test.YtmifianbkpiifaaDoorCards
import Derived.Test.YtmifianbkpiifaaDoorTie
import Derived.Test.YtmifianbkpiifaaDoorZs5
import Derived.Test.YtmifianbkpiifaaDoorLwBoardsChangedOfAll
import Derived.SevenTiedAt
set_option linter.unusedSectionVars false
namespace Go.Proofs.YtmifianbkpiifaaDoor
open Go.ChangeShapes Go.WideShapes Go.ChangeAt Go.RowKit Go.Am

/-- The places that the arguments are read through. -/
theorem trodAll_many {H : Type} {enc : TypeId × Value → H} {P : Program} {w : World} {base : Nat} {spare : Nat → Bool} {held : Bool} {a0 a1 a2 a3 a4 a5 a6 : TypeId} {args : Array Value} {ds : List (DataW H)} {ps : List MemPlace} (h : DataW.TrodAll enc P w base spare held [a0, a1, a2, a3, a4, a5, a6] args.toList ds ps) :
    ∃ v0 v1 v2 v3 v4 v5 v6 d0 d1 d2 d3 d4 d5 d6 p0 p1 p2 p3 p4 p5 p6, args = #[v0, v1, v2, v3, v4, v5, v6] ∧ ds = [d0, d1, d2, d3, d4, d5, d6] ∧ ps = p0 ++ (p1 ++ (p2 ++ (p3 ++ (p4 ++ (p5 ++ (p6)))))) ∧ DataW.Trod enc P w base spare held a0 v0 d0 p0 ∧ DataW.Trod enc P w base spare held a1 v1 d1 p1 ∧ DataW.Trod enc P w base spare held a2 v2 d2 p2 ∧ DataW.Trod enc P w base spare held a3 v3 d3 p3 ∧ DataW.Trod enc P w base spare held a4 v4 d4 p4 ∧ DataW.Trod enc P w base spare held a5 v5 d5 p5 ∧ DataW.Trod enc P w base spare held a6 v6 d6 p6 := by
  obtain ⟨v0, vs, d0, e0, p0, q0, hargs, rfl, rfl, h0, k0⟩ := trodAll_cons h
  obtain ⟨v1, vs, d1, e1, p1, q1, rfl, rfl, rfl, h1, k1⟩ := trodAll_cons k0
  obtain ⟨v2, vs, d2, e2, p2, q2, rfl, rfl, rfl, h2, k2⟩ := trodAll_cons k1
  obtain ⟨v3, vs, d3, e3, p3, q3, rfl, rfl, rfl, h3, k3⟩ := trodAll_cons k2
  obtain ⟨v4, vs, d4, e4, p4, q4, rfl, rfl, rfl, h4, k4⟩ := trodAll_cons k3
  obtain ⟨v5, vs, d5, e5, p5, q5, rfl, rfl, rfl, h5, k5⟩ := trodAll_cons k4
  obtain ⟨v6, vs, d6, e6, p6, q6, rfl, rfl, rfl, h6, k6⟩ := trodAll_cons k5
  obtain ⟨rfl, rfl, rfl⟩ := trodAll_nil k6
  exact ⟨v0, v1, v2, v3, v4, v5, v6, d0, d1, d2, d3, d4, d5, d6, p0, p1, p2, p3, p4, p5, p6, by cases args; simp_all, rfl, by simp, h0, h1, h2, h3, h4, h5, h6⟩

theorem own_FnBoardsChangedOfAll : ownKnob Tryd.prog.godebug = none := by kernel_rfl

theorem laid_FnBoardsChangedOfAll : laidOutB Tryd.prog = true := by kernel_rfl

theorem closed_FnBoardsChangedOfAll : joinedFacts Tryd.checked.prog 3 Tryd.f3 Rows.fnBoardsChangedOfAllSpec Rows.fnBoardsChangedOfAllRow = true := by
  haveI : CodeBlk := ⟨[]⟩
  unfold joinedFacts
  repeat' (with_reducible refine and_mk ?_ ?_)
  all_goals (first | with_reducible exact factMayEnter | (rw [factLifts]; as_aux_lemma => kernel_rfl) | (rw [factMake]; as_aux_lemma => kernel_rfl) | (as_aux_lemma => kernel_rfl))

set_option maxRecDepth 100000 in
theorem lifted_FnBoardsChangedOfAll (os : Os) (started : os.Started) (H : Type) (enc : TypeId × Value → H) :
    ReturnsInHanded {} Tryd.checked os 3 .any (fun w args => (Rows.fnBoardsChangedOfAllSpec.pre enc Tryd.prog Tryd.f3 [] false w args ∧ laidMetH Tryd.prog Rows.fnBoardsChangedOfAllRow.laid w) ∧ sizedMet enc Tryd.prog Tryd.f3 (OpenSpec.ofChange Rows.fnBoardsChangedOfAllSpec) false w args) (Rows.fnBoardsChangedOfAllSpec.post enc Tryd.prog Tryd.f3 false true false false) := by
  refine returnsInHanded_of_change_and (C := Tryd.checked) (X := fun w _ => laidMetH Tryd.prog Rows.fnBoardsChangedOfAllRow.laid w) (fun _ _ _ hh h => h.of_heap hh) own_FnBoardsChangedOfAll started (by kernel_rfl) Tryd.func3
    (ChangeSpec.witness_shaped (enc := enc) (C := Tryd.checked) (os := os) (X := fun w _ => laidMetH Tryd.prog Rows.fnBoardsChangedOfAllRow.laid w) false (World.laidAll Tryd.prog os Rows.fnBoardsChangedOfAllRow.laid) #[.string ⟨#[]⟩, .string ⟨#[]⟩, .string ⟨#[]⟩, .int .i64 0, .string ⟨#[]⟩, .int .i64 0, .int .i64 0] 8 (World.laidAll_os _ _ _)
      (door_shaped os _) (by kernel_rfl) (by kernel_rfl) (by kernel_rfl) (door_met os _)) ?_
  letI : CodeBlk := ⟨[]⟩
  intro W base args ds gs before hval0 hW _ _ _ _
  have hval : ∀ (j : Nat) t v, Tryd.f3.params[j]? = some t → args[j]? = some v → Value.okWide Tryd.prog W .any base t v := hval0
  have hW' := hW
  obtain ⟨p, q, hA0, hV, hpq, hz, hn⟩ := hW
  have hA : DataW.TrodAll enc Tryd.prog W 0 (fun _ => true) true Tryd.f3.params.toList args.toList ds p := hA0
  rw [Tryd.params3] at hA hval
  obtain ⟨v0, v1, v2, v3, v4, v5, v6, d0, d1, d2, d3, d4, d5, d6, p0, p1, p2, p3, p4, p5, p6, rfl, rfl, hps, h0, h1, h2, h3, h4, h5, h6⟩ := trodAll_many hA
  obtain ⟨rfl, rfl⟩ := trodVars_none hV
  obtain ⟨x0, hx0, hl0⟩ := arg_string Tryd.underlying9 (hval 0 9 v0 rfl rfl) h0
  obtain ⟨x1, hx1, hl1⟩ := arg_string Tryd.underlying9 (hval 1 9 v1 rfl rfl) h1
  obtain ⟨x2, hx2, hl2⟩ := arg_string Tryd.underlying9 (hval 2 9 v2 rfl rfl) h2
  obtain ⟨x3, hx3, hl3, hb3⟩ := arg_int Tryd.underlying3 (hval 3 3 v3 rfl rfl) h3
  obtain ⟨x4, hx4, hl4⟩ := arg_string Tryd.underlying9 (hval 4 9 v4 rfl rfl) h4
  obtain ⟨x5, hx5, hl5, hb5⟩ := arg_int Tryd.underlying3 (hval 5 3 v5 rfl rfl) h5
  obtain ⟨x6, hx6, hl6, hb6⟩ := arg_int Tryd.underlying3 (hval 6 3 v6 rfl rfl) h6
  refine (law_calls (lawBoardsChangedOfAll x0 x1 x2 x3 x4 x5 x6 ⟨hl5, hb5⟩ ⟨hl6, hb6⟩) (by simp only [SimL, and_true]; exact ⟨hx0, hx1, hx2, hx3, hx4, hx5, hx6⟩) rfl).mono fun e W' ⟨he, hm⟩ => ?_
  subst he
  exact ⟨_, rfl, law_post laid_FnBoardsChangedOfAll hW' rfl rfl (bt := 4) rfl Tryd.underlying4 (by rw [Tryd.params3]; decide +kernel) hm⟩

theorem row_FnBoardsChangedOfAll : Rows.FnBoardsChangedOfAllSaid :=
  OpenClaim.holds_of_wide 3 Tryd.f3 rfl rfl rfl rfl rfl rfl rfl ⟨rfl, rfl, rfl, rfl, rfl⟩ rfl rfl rfl rfl rfl (by kernel_rfl) Tryd.func3 closed_FnBoardsChangedOfAll
    (of_decide_eq_true (by kernel_rfl)) (by unfold Func.isWrapper; first | (rw [if_pos (by decide +kernel)]; kernel_rfl) | (rw [if_neg (by decide +kernel)]; exact ⟨rfl, rfl⟩))
    (fun os started H enc _ => lifted_FnBoardsChangedOfAll os started H enc)

theorem named_FnBoardsChangedOfAll : Tryd.prog.funcNamed Rows.fnBoardsChangedOfAllRow.func = some 3 := by kernel_rfl

theorem noStand_FnBoardsChangedOfAll : (Tryd.f3.params.toList.all fun t => !Tryd.prog.wantsStandIn t) = true := by kernel_rfl

theorem fnBoardsChangedOfAll_holds : Rows.FnBoardsChangedOfAllCardSaid :=
  Claim7.holds_tied_plain_at .later [] [.data, .pinned] true (true, "8259b0bcf0f3fdabae14d667467e905c9aa22d4ea853f6c35b6ecd404de9fe23") true
    row_FnBoardsChangedOfAll (fun _ h => by cases h) (by kernel_rfl) (fun _ h => by cases h) fnBoardsChangedOfAll_row_tie rfl ⟨rfl, rfl⟩ (by kernel_rfl) rfl
    (fun f fn hf hfn => by
      obtain rfl : f = 3 := Option.some.inj (named_FnBoardsChangedOfAll.symm.trans hf) |>.symm
      obtain rfl : fn = Tryd.f3 := (Option.some.inj (Tryd.func3.symm.trans hfn)).symm
      exact ⟨by kernel_rfl, fun j t ht => by
        have hm : t ∈ Tryd.f3.params.toList := by
          have := Array.mem_of_getElem? ht
          simpa using this
        have h2 := List.all_eq_true.1 noStand_FnBoardsChangedOfAll t hm
        have h3 : Tryd.prog.wantsStandIn t = false := by simpa using h2
        exact h3⟩)
    (by kernel_rfl)
end Go.Proofs.YtmifianbkpiifaaDoor
