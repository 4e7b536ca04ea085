/- What the row says of the library's two errors: they lie where the machine looks for them. -/
import Derived.Test.YtfoecdaggmagaaaDoorRows
import Derived.Test.YtfoecdaggmagaaaDoorAmGd
import Derived.Test.YtfoecdaggmagaaaDoorProg
import Derived.Stop.LaidErr
import Derived.LaidSub
import Derived.MakeChecks
namespace Go.Proofs.YtfoecdaggmagaaaDoor
open Go.RowKit Go.Am

theorem gES : Tryd.prog.globalNamed "strconv.ErrSyntax" = some 0 := by kernel_rfl
theorem gEST : (Tryd.prog.globals[0]?).map (·.type) = some 32 := by kernel_rfl
theorem gER : Tryd.prog.globalNamed "strconv.ErrRange" = some 1 := by kernel_rfl
theorem gERT : (Tryd.prog.globals[1]?).map (·.type) = some 32 := by kernel_rfl
theorem gStar : "*" ++ "errors.errorString" = "*errors.errorString" := by decide
theorem gRow (u : TypeId) (h : Tryd.prog.typeName? 3 u = some "*errors.errorString") : u = 90 :=
  typeName_ptr_named (nm := "errors.errorString") (by rw [gStar]; kernel_rfl) (by kernel_rfl) (by decide) u (by rw [gStar]; exact h)
theorem gC1 : Tryd.prog.cellsOf 92 = 1 := by kernel_rfl
theorem gC2 : Tryd.prog.cellsOf 9 = 1 := by kernel_rfl
theorem cells_of_var {P : Program} {w : World} {n : String} {g : Nat} {cs : Array Value} (hg : P.globalNamed n = some g) (h : w.var? P n = some cs) : ∃ e fz, w.heap[g]? = some (.cells cs e fz) := by
  unfold World.var? at h
  rw [hg, Option.bind_some] at h
  split at h
  · rename_i c e f hc
    cases h
    exact ⟨_, _, hc⟩
  · cases h
theorem goodW_of {W : World} (h : laidMetH Tryd.prog Rows.fnExactParseHatPlanRow.laid W) : GoodW W := by
  rw [MakeChecks.laidMetH_plain _ _ _ (by kernel_rfl)] at h
  have h4 := h.tail.tail.tail.tail
  obtain ⟨a1, s1, hv1, -, -, -⟩ := laid_sentinel h4 gER gERT Tryd.underlying32 gRow Tryd.underlying90 Tryd.underlying92 rfl rfl Tryd.underlying9 gC1 gC2
  obtain ⟨a0, s0, hv0, -, -, -⟩ := laid_sentinel h4.tail gES gEST Tryd.underlying32 gRow Tryd.underlying90 Tryd.underlying92 rfl rfl Tryd.underlying9 gC1 gC2
  intro b hb
  rcases List.mem_cons.1 hb with rfl | hb
  · obtain ⟨e, fz, hc⟩ := cells_of_var gES hv0
    exact ⟨_, e, fz, hc, _, _, rfl⟩
  · rcases List.mem_cons.1 hb with rfl | hb
    · obtain ⟨e, fz, hc⟩ := cells_of_var gER hv1
      exact ⟨_, e, fz, hc, _, _, rfl⟩
    · cases hb
end Go.Proofs.YtfoecdaggmagaaaDoor
