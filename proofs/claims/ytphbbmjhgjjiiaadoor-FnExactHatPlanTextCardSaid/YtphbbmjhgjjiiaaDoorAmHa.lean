/- From a law's arguments to the machine's values: a struct of a number and texts. -/
import Derived.Test.YtphbbmjhgjjiiaaDoorAmO
import Derived.Test.YtphbbmjhgjjiiaaDoorAmHv
import Derived.ChangeSame
namespace Go.Am
open Go.ChangeShapes Go.WideShapes Go.ChangeAt Go.RowKit Go.ChangeMaps
variable {P : Program} {H : Type} {enc : TypeId × Value → H}
theorem arg_pln {W : World} {t e : TypeId} {f0 f1 : Field} {v : Value} {d : DataW H} {ps : List MemPlace} (ht : P.underlying t = some (.struct #[f0, f1])) (h0 : P.underlying f0.type = some (.int .i64)) (h1 : P.underlying f1.type = some (.slice e)) (he : P.underlying e = some .string)
    (hc : P.cellsOf e = 1) (hsz : P.cellsOf t = 2) (ho : f0.offset = 0 ∧ P.cellsOf f0.type = 1 ∧ f1.offset = 1 ∧ P.cellsOf f1.type = 1) (hval : Value.okWide P W .any 0 t v) (h : DataW.Trod enc P W 0 (fun _ => true) true t v d ps) :
    ∃ x : Int × List (List UInt8), SimV (pln x.1 x.2) (Outer W) v ∧ x.2.length ≤ 9223372036854775807 ∧ ∀ r ∈ x.2, r.length ≤ 9223372036854775807 := by
  obtain ⟨cs, rfl, hcs⟩ := okWide_struct ht hval
  obtain ⟨fuel, hf⟩ := h
  obtain ⟨y0, y1, n, _, hl, hd0, hd1⟩ := trod_struct2 ht hf
  obtain ⟨e1, e2, e3, e4⟩ := ho
  rw [e1, e2] at hd0
  rw [e3, e4] at hd1
  obtain ⟨c, _, s0⟩ := read_int h0 hd0
  obtain ⟨M, ⟨hM, hMs⟩, s1⟩ := read_strs h1 he hc hd1
  rw [hsz] at hcs
  have hM2 : (M.map fun b => b.data.toList).length = M.length := by simp
  have hcells : txs (M.map fun b => b.data.toList) = M.map fun b => AV.v (.string b) := by
    unfold txs
    rw [List.map_map]
    apply List.map_congr_left
    intro b _
    show AV.v (.string ⟨b.data.toList.toArray⟩) = _
    simp
  refine ⟨(c, M.map fun b => b.data.toList), ?_, by show (M.map _).length ≤ _; rw [hM2]; exact Nat.le_trans hM (by decide), fun r hr => ?_⟩
  · simp only [SimV]
    refine ⟨cs, rfl, hcs, ?_⟩
    obtain ⟨l⟩ := cs
    match l with
    | [] => simp at hcs
    | [_] => simp at hcs
    | _ :: _ :: _ :: _ => simp at hcs
    | [p, q] =>
      simp only [Value.cells, List.drop_zero, List.take_succ_cons, List.take_zero, List.drop_succ_cons, SimL, and_true] at s0 s1 ⊢
      rw [hcells, hM2]
      exact ⟨s0, s1⟩
  · obtain ⟨b, hb, rfl⟩ := List.mem_map.1 hr
    have := hMs b hb
    have e : b.data.toList.length = b.size := Array.length_toList
    rw [e]
    exact Nat.le_trans this (by decide)
end Go.Am
