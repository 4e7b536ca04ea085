/- By the kernel: all seatings of seven guests with 7 lost tickets, summed up. -/
import Derived.Test.YtdbjchmmdfjhjaaZs4
namespace Go.Proofs.Ytdbjchmmdfjhjaa
open Go.Am
set_option maxHeartbeats 40000000 in
theorem sg_7 : sgTest 7 7 = true := by decide +kernel
end Go.Proofs.Ytdbjchmmdfjhjaa
