/- By the kernel: all seatings of seven guests with 5 lost tickets, summed up. -/
import Derived.Test.YtdbjchmmdfjhjaaZs4
namespace Go.Proofs.Ytdbjchmmdfjhjaa
open Go.Am
set_option maxHeartbeats 40000000 in
theorem sg_5 : sgTest 7 5 = true := by decide +kernel
end Go.Proofs.Ytdbjchmmdfjhjaa
