/- What the row says of math/bits' table: its cells are what the machine takes them for. -/
import Derived.Test.YtgekggljdcnmeaaDoorRows
import Derived.Test.YtgekggljdcnmeaaDoorAmGd
import Derived.Test.YtgekggljdcnmeaaDoorProg
import Derived.Lib.LaidTab
import Derived.LaidSub
import Derived.MakeChecks
namespace Go.Proofs.YtgekggljdcnmeaaDoor
open Go.RowKit Go.Am

theorem gTab : Tryd.prog.globalNamed "math/bits.deBruijn32tab" = some 0 := by kernel_rfl
theorem gTabT : (Tryd.prog.globals[0]?).map (·.type) = some 46 := by kernel_rfl
theorem gTabE : Tryd.prog.cellsOf 5 = 1 := by kernel_rfl
theorem gTabC : Tryd.prog.cellsOf 46 = 32 := by kernel_rfl
theorem cells_of_var {P : Program} {w : World} {n : String} {g : Nat} {cs : Array Value} (hg : P.globalNamed n = some g) (h : w.var? P n = some cs) : ∃ e fz, w.heap[g]? = some (.cells cs e fz) := by
  unfold World.var? at h
  rw [hg, Option.bind_some] at h
  split at h
  · rename_i c e f hc
    cases h
    exact ⟨_, _, hc⟩
  · cases h
theorem gData : (Rows.laid_math_bits_deBruijn32tab : DataW Unit) = Lib.tabData .u8 (Lib.deBruijn32tab.map fun (n : Nat) => (n : Int)) := by rfl
theorem goodW_of {W : World} (h : laidMetH Tryd.prog Rows.fnExactCountMutualRow.laid W) : GoodW W := by
  rw [MakeChecks.laidMetH_plain _ _ _ (by kernel_rfl)] at h
  have h1 : laidMet Tryd.prog [("math/bits.deBruijn32tab", Rows.laid_math_bits_deBruijn32tab)] W := h
  rw [gData] at h1
  have h2 : W.var? Tryd.prog "math/bits.deBruijn32tab" = some ((Lib.deBruijn32tab.map fun (n : Nat) => (n : Int)).map fun z => Value.int .u8 z).toArray := Lib.tabIs_of_head gTab gTabT Tryd.underlying46 Tryd.underlying5 gTabE gTabC h1
  intro b hb
  obtain rfl : b = 0 := List.mem_singleton.1 hb
  obtain ⟨e, fz, hc⟩ := cells_of_var gTab h2
  refine ⟨_, e, fz, hc, fun j hj => ?_⟩
  have hl : Lib.deBruijn32tab.length = 32 := by decide
  simp [hl, hj]
end Go.Proofs.YtgekggljdcnmeaaDoor
