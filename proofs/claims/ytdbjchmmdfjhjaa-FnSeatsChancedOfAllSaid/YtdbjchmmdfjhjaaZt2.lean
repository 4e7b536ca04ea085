/- By the kernel: all seatings of seven guests with less than four lost tickets, summed up. -/
import Derived.Test.YtdbjchmmdfjhjaaZs4
namespace Go.Proofs.Ytdbjchmmdfjhjaa
open Go.Am
set_option maxHeartbeats 40000000 in
theorem sg_b : ∀ l < 4, sgTest 7 l = true := by decide +kernel
end Go.Proofs.Ytdbjchmmdfjhjaa
