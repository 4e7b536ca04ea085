/- By the kernel: all seatings of less than seven guests, summed up. -/
import Derived.Test.YtdbjchmmdfjhjaaZs4
namespace Go.Proofs.Ytdbjchmmdfjhjaa
open Go.Am
set_option maxHeartbeats 40000000 in
theorem sg_a : ∀ g < 7, 1 ≤ g → ∀ l < g + 1, sgTest g l = true := by decide +kernel
end Go.Proofs.Ytdbjchmmdfjhjaa
