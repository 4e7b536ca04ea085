/- The abstract machine, contracts: part 3 of what this claim needs. -/
import Derived.Test.YtddlddnjchhniaaDoorZs2
namespace Go.Proofs.YtddlddnjchhniaaDoor
open Go.Am
def ac3 : ACode := (.seq (.ops [⟨(some 4), (.mov (.c (.bool false))), none⟩]) (.seq (.ops [⟨(some 10), (.mov (.t 0)), none⟩, ⟨(some 11), (.mov (.t 1)), none⟩, ⟨(some 12), (.call 4 [(.t 10), (.t 11)]), none⟩, ⟨(some 9), (.mov (.t 12)), none⟩, ⟨(some 13), (.ext (.t 9) 0), none⟩, ⟨(some 14), (.ext (.t 9) 1), none⟩, ⟨(some 5), (.mov (.t 13)), none⟩, ⟨(some 6), (.mov (.t 14)), none⟩]) (.seq (.ops [⟨(some 16), (.mov (.t 0)), none⟩, ⟨(some 17), (.mov (.t 1)), none⟩, ⟨(some 18), (.call 5 [(.t 16), (.t 17)]), none⟩, ⟨(some 15), (.mov (.t 18)), none⟩, ⟨(some 19), (.ext (.t 15) 0), none⟩, ⟨(some 20), (.ext (.t 15) 1), none⟩, ⟨(some 7), (.mov (.t 19)), none⟩, ⟨(some 8), (.mov (.t 20)), none⟩]) (.seq (.seq (.ops [⟨(some 21), (.mov (.t 7)), none⟩, ⟨(some 22), (.mov (.t 5)), none⟩, ⟨(some 23), (.bin .neq (.t 21) (.t 22)), none⟩, ⟨(some 24), (.mov (.t 23)), none⟩, ⟨(some 25), (.mov (.t 8)), (some (24, false))⟩, ⟨(some 26), (.mov (.t 6)), (some (24, false))⟩, ⟨(some 27), (.beq true (.t 25) (.t 26)), (some (24, false))⟩, ⟨(some 28), (.pick (.t 24) (.c (.bool true)) (.t 27)), none⟩]) (.cond (.t 28) (.seq (.ops [⟨(some 4), (.mov (.c (.bool false))), none⟩]) .ret) .skip)) (.seq (.ops [⟨(some 4), (.mov (.c (.bool true))), none⟩]) .ret)))))
theorem cc3 : ccode Tryd.prog (min Tryd.f3.ntmps pbase) (Tryd.f3.body.getD .skip) = some ac3 := by kernel_rfl
def ac4 : ACode := (.seq (.ops [⟨(some 4), (.mov (.c (.int .i64 0))), none⟩, ⟨(some 5), (.mov (.c (.bool false))), none⟩]) (.seq (.seq (.ops [⟨(some 9), (.mov (.t 0)), none⟩, ⟨(some 10), (.call 6 [(.t 9)]), none⟩, ⟨(some 11), (.not (.t 10)), none⟩, ⟨(some 12), (.mov (.t 11)), none⟩, ⟨(some 13), (.mov (.t 1)), (some (12, false))⟩, ⟨(some 14), (.mov (.t 0)), (some (12, false))⟩, ⟨(some 15), (.call 7 [(.t 13), (.c (.int .i64 0)), (.t 14)]), (some (12, false))⟩, ⟨(some 16), (.not (.t 15)), (some (12, false))⟩, ⟨(some 17), (.pick (.t 12) (.c (.bool true)) (.t 16)), none⟩]) (.cond (.t 17) (.seq (.ops [⟨(some 4), (.mov (.c (.int .i64 0))), none⟩, ⟨(some 5), (.mov (.c (.bool false))), none⟩]) .ret) .skip)) (.seq (.seq (.ops [⟨(some 18), (.mov (.t 0)), none⟩, ⟨(some 19), (.bin .eql (.t 18) (.c (.int .i64 1))), none⟩]) (.cond (.t 19) (.seq (.ops [⟨(some 20), (.mov (.t 1)), none⟩, ⟨(some 4), (.mov (.t 20)), none⟩, ⟨(some 5), (.mov (.c (.bool true))), none⟩]) .ret) .skip)) (.seq (.ops [⟨(some 6), (.nils 1), none⟩]) (.seq (.seq (.ops [⟨(some 7), (.mov (.c (.int .i64 0))), none⟩]) (.block 0 (.loop (.seq (.seq (.ops [⟨(some 21), (.mov (.t 7)), none⟩, ⟨(some 22), (.mov (.t 0)), none⟩, ⟨(some 23), (.bin .leq (.t 21) (.t 22)), none⟩]) (.cond (.t 23) .skip (.exit 0))) (.seq (.block 1 (.seq (.ops [⟨(some 26), (.mov (.t 0)), none⟩, ⟨(some 27), (.bin .mul (.c (.int .i64 2)) (.t 26)), none⟩, ⟨(some 28), (.mov (.t 0)), none⟩, ⟨(some 29), (.bin .mul (.c (.int .i64 2)) (.t 28)), none⟩, ⟨(some 30), (.mov (.t 7)), none⟩, ⟨(some 31), (.bin .sub (.t 29) (.t 30)), none⟩, ⟨(some 32), (.mov (.t 7)), none⟩, ⟨(some 33), (.call 8 [(.t 31), (.t 32)]), none⟩, ⟨(some 34), (.bin .mul (.t 27) (.t 33)), none⟩, ⟨(some 35), (.mov (.t 0)), none⟩, ⟨(some 36), (.bin .mul (.c (.int .i64 2)) (.t 35)), none⟩, ⟨(some 37), (.mov (.t 7)), none⟩, ⟨(some 38), (.bin .sub (.t 36) (.t 37)), none⟩, ⟨(some 39), (.bin .quo (.t 34) (.t 38)), none⟩, ⟨(some 8), (.mov (.t 39)), none⟩]) (.ops [⟨(some 40), (.mov (.t 6)), none⟩, ⟨(some 41), (.mov (.t 8)), none⟩, ⟨(some 42), (.mov (.t 0)), none⟩, ⟨(some 43), (.mov (.t 7)), none⟩, ⟨(some 44), (.bin .sub (.t 42) (.t 43)), none⟩, ⟨(some 45), (.call 9 [(.t 44)]), none⟩, ⟨(some 46), (.bin .mul (.t 41) (.t 45)), none⟩, ⟨(some 47), (.bsl 1 1 [(.int .i64 0)] [(0, (.t 46))]), none⟩, ⟨(some 48), (.app 1 8 (.t 40) (.t 47)), none⟩, ⟨(some 6), (.mov (.t 48)), none⟩]))) (.ops [⟨(some 24), (.mov (.t 7)), none⟩, ⟨(some 25), (.bin .add (.t 24) (.c (.int .i64 1))), none⟩, ⟨(some 7), (.mov (.t 25)), none⟩])))))) (.seq (.ops [⟨(some 49), (.mov (.t 0)), none⟩, ⟨(some 50), (.bin .sub (.t 49) (.c (.int .i64 1))), none⟩, ⟨(some 51), (.call 9 [(.t 50)]), none⟩, ⟨(some 52), (.mov (.t 6)), none⟩, ⟨(some 53), (.mov (.t 1)), none⟩, ⟨(some 54), (.call 10 [(.t 52), (.t 53)]), none⟩, ⟨(some 55), (.bin .mul (.t 51) (.t 54)), none⟩, ⟨(some 4), (.mov (.t 55)), none⟩, ⟨(some 5), (.mov (.c (.bool true))), none⟩]) .ret))))))
theorem cc4 : ccode Tryd.prog (min Tryd.f4.ntmps pbase) (Tryd.f4.body.getD .skip) = some ac4 := by kernel_rfl
def ac5 : ACode := (.seq (.ops [⟨(some 4), (.mov (.c (.int .i64 0))), none⟩, ⟨(some 5), (.mov (.c (.bool false))), none⟩]) (.seq (.seq (.ops [⟨(some 6), (.mov (.t 0)), none⟩, ⟨(some 7), (.mov (.t 1)), none⟩, ⟨(some 8), (.call 11 [(.t 6), (.t 7)]), none⟩, ⟨(some 9), (.not (.t 8)), none⟩]) (.cond (.t 9) (.seq (.ops [⟨(some 4), (.mov (.c (.int .i64 0))), none⟩, ⟨(some 5), (.mov (.c (.bool false))), none⟩]) .ret) .skip)) (.seq (.ops [⟨(some 10), (.mov (.t 0)), none⟩, ⟨(some 11), (.call 12 [(.t 10)]), none⟩, ⟨(some 12), (.mov (.t 1)), none⟩, ⟨(some 13), (.idx 1 (.t 11) (.t 12)), none⟩, ⟨(some 14), (.ld none (.t 13)), none⟩, ⟨(some 4), (.mov (.t 14)), none⟩, ⟨(some 5), (.mov (.c (.bool true))), none⟩]) .ret)))
theorem cc5 : ccode Tryd.prog (min Tryd.f5.ntmps pbase) (Tryd.f5.body.getD .skip) = some ac5 := by kernel_rfl
def ac6 : ACode := (.seq (.ops [⟨(some 2), (.mov (.c (.bool false))), none⟩]) (.seq (.ops [⟨(some 3), (.mov (.t 0)), none⟩, ⟨(some 4), (.call 7 [(.t 3), (.c (.int .i64 1)), (.c (.int .i64 7))]), none⟩, ⟨(some 2), (.mov (.t 4)), none⟩]) .ret))
theorem cc6 : ccode Tryd.prog (min Tryd.f6.ntmps pbase) (Tryd.f6.body.getD .skip) = some ac6 := by kernel_rfl
def ac7 : ACode := (.seq (.ops [⟨(some 6), (.mov (.c (.bool false))), none⟩]) (.seq (.ops [⟨(some 7), (.mov (.t 0)), none⟩, ⟨(some 8), (.mov (.t 1)), none⟩, ⟨(some 9), (.bin .geq (.t 7) (.t 8)), none⟩, ⟨(some 10), (.mov (.t 9)), none⟩, ⟨(some 11), (.mov (.t 0)), (some (10, true))⟩, ⟨(some 12), (.mov (.t 2)), (some (10, true))⟩, ⟨(some 13), (.bin .leq (.t 11) (.t 12)), (some (10, true))⟩, ⟨(some 14), (.pick (.t 10) (.t 13) (.c (.bool false))), none⟩, ⟨(some 6), (.mov (.t 14)), none⟩]) .ret))
theorem cc7 : ccode Tryd.prog (min Tryd.f7.ntmps pbase) (Tryd.f7.body.getD .skip) = some ac7 := by kernel_rfl
def ac8 : ACode := (.seq (.ops [⟨(some 4), (.mov (.c (.int .i64 0))), none⟩]) (.seq (.ops [⟨(some 5), (.mov (.c (.int .i64 1))), none⟩]) (.seq (.seq (.ops [⟨(some 6), (.mov (.c (.int .i64 1))), none⟩]) (.block 0 (.loop (.seq (.seq (.ops [⟨(some 7), (.mov (.t 6)), none⟩, ⟨(some 8), (.mov (.t 1)), none⟩, ⟨(some 9), (.bin .leq (.t 7) (.t 8)), none⟩]) (.cond (.t 9) .skip (.exit 0))) (.seq (.block 1 (.ops [⟨(some 12), (.mov (.t 5)), none⟩, ⟨(some 13), (.mov (.t 0)), none⟩, ⟨(some 14), (.mov (.t 1)), none⟩, ⟨(some 15), (.bin .sub (.t 13) (.t 14)), none⟩, ⟨(some 16), (.mov (.t 6)), none⟩, ⟨(some 17), (.bin .add (.t 15) (.t 16)), none⟩, ⟨(some 18), (.bin .mul (.t 12) (.t 17)), none⟩, ⟨(some 19), (.mov (.t 6)), none⟩, ⟨(some 20), (.bin .quo (.t 18) (.t 19)), none⟩, ⟨(some 5), (.mov (.t 20)), none⟩])) (.ops [⟨(some 10), (.mov (.t 6)), none⟩, ⟨(some 11), (.bin .add (.t 10) (.c (.int .i64 1))), none⟩, ⟨(some 6), (.mov (.t 11)), none⟩])))))) (.seq (.ops [⟨(some 21), (.mov (.t 5)), none⟩, ⟨(some 4), (.mov (.t 21)), none⟩]) .ret))))
theorem cc8 : ccode Tryd.prog (min Tryd.f8.ntmps pbase) (Tryd.f8.body.getD .skip) = some ac8 := by kernel_rfl
def ac9 : ACode := (.seq (.ops [⟨(some 2), (.mov (.c (.int .i64 0))), none⟩]) (.seq (.ops [⟨(some 3), (.mov (.c (.int .i64 1))), none⟩]) (.seq (.seq (.ops [⟨(some 4), (.mov (.c (.int .i64 2))), none⟩]) (.block 0 (.loop (.seq (.seq (.ops [⟨(some 5), (.mov (.t 4)), none⟩, ⟨(some 6), (.mov (.t 0)), none⟩, ⟨(some 7), (.bin .leq (.t 5) (.t 6)), none⟩]) (.cond (.t 7) .skip (.exit 0))) (.seq (.block 1 (.ops [⟨(some 10), (.mov (.t 3)), none⟩, ⟨(some 11), (.mov (.t 4)), none⟩, ⟨(some 12), (.bin .mul (.t 10) (.t 11)), none⟩, ⟨(some 3), (.mov (.t 12)), none⟩])) (.ops [⟨(some 8), (.mov (.t 4)), none⟩, ⟨(some 9), (.bin .add (.t 8) (.c (.int .i64 1))), none⟩, ⟨(some 4), (.mov (.t 9)), none⟩])))))) (.seq (.ops [⟨(some 13), (.mov (.t 3)), none⟩, ⟨(some 2), (.mov (.t 13)), none⟩]) .ret))))
theorem cc9 : ccode Tryd.prog (min Tryd.f9.ntmps pbase) (Tryd.f9.body.getD .skip) = some ac9 := by kernel_rfl
def ac10 : ACode := (.seq (.ops [⟨(some 4), (.mov (.c (.int .i64 0))), none⟩]) (.seq (.ops [⟨(some 5), (.mov (.c (.int .i64 0))), none⟩]) (.seq (.seq (.ops [⟨(some 8), (.mov (.t 1)), none⟩, ⟨(some 6), (.mov (.t 8)), none⟩]) (.block 0 (.loop (.seq (.seq (.ops [⟨(some 9), (.mov (.t 6)), none⟩, ⟨(some 10), (.mov (.t 0)), none⟩, ⟨(some 11), (.len (.t 10)), none⟩, ⟨(some 12), (.bin .lss (.t 9) (.t 11)), none⟩]) (.cond (.t 12) .skip (.exit 0))) (.seq (.block 1 (.seq (.tree (.take ⟨(some 15), (.mov (.t 0)), none⟩ (.take ⟨(some 16), (.mov (.t 6)), none⟩ (.take ⟨(some 17), (.idx 1 (.t 15) (.t 16)), none⟩ (.take ⟨(some 18), (.ld none (.t 17)), none⟩ (.take ⟨(some 19), (.mov (.t 6)), none⟩ (.take ⟨(some 20), (.mov (.t 1)), none⟩ (.take ⟨(some 21), (.call 8 [(.t 19), (.t 20)]), none⟩ (.take ⟨(some 22), (.bin .mul (.t 18) (.t 21)), none⟩ (.take ⟨(some 7), (.mov (.t 22)), none⟩ .done)))))))))) (.seq (.seq (.ops [⟨(some 23), (.mov (.t 6)), none⟩, ⟨(some 24), (.mov (.t 1)), none⟩, ⟨(some 25), (.bin .sub (.t 23) (.t 24)), none⟩, ⟨(some 26), (.bin .rem (.t 25) (.c (.int .i64 2))), none⟩, ⟨(some 27), (.bin .eql (.t 26) (.c (.int .i64 1))), none⟩]) (.cond (.t 27) (.ops [⟨(some 28), (.mov (.t 7)), none⟩, ⟨(some 29), (.neg (.t 28)), none⟩, ⟨(some 7), (.mov (.t 29)), none⟩]) .skip)) (.ops [⟨(some 30), (.mov (.t 5)), none⟩, ⟨(some 31), (.mov (.t 7)), none⟩, ⟨(some 32), (.bin .add (.t 30) (.t 31)), none⟩, ⟨(some 5), (.mov (.t 32)), none⟩])))) (.ops [⟨(some 13), (.mov (.t 6)), none⟩, ⟨(some 14), (.bin .add (.t 13) (.c (.int .i64 1))), none⟩, ⟨(some 6), (.mov (.t 14)), none⟩])))))) (.seq (.ops [⟨(some 33), (.mov (.t 5)), none⟩, ⟨(some 4), (.mov (.t 33)), none⟩]) .ret))))
theorem cc10 : ccode Tryd.prog (min Tryd.f10.ntmps pbase) (Tryd.f10.body.getD .skip) = some ac10 := by kernel_rfl
def ac11 : ACode := (.seq (.ops [⟨(some 4), (.mov (.c (.bool false))), none⟩]) (.seq (.ops [⟨(some 5), (.mov (.t 0)), none⟩, ⟨(some 6), (.call 13 [(.t 5)]), none⟩, ⟨(some 7), (.mov (.t 6)), none⟩, ⟨(some 8), (.mov (.t 1)), (some (7, true))⟩, ⟨(some 9), (.bin .geq (.t 8) (.c (.int .i64 0))), (some (7, true))⟩, ⟨(some 10), (.pick (.t 7) (.t 9) (.c (.bool false))), none⟩, ⟨(some 11), (.mov (.t 10)), none⟩, ⟨(some 12), (.mov (.t 1)), (some (11, true))⟩, ⟨(some 13), (.mov (.t 0)), (some (11, true))⟩, ⟨(some 14), (.bin .leq (.t 12) (.t 13)), (some (11, true))⟩, ⟨(some 15), (.pick (.t 11) (.t 14) (.c (.bool false))), none⟩, ⟨(some 4), (.mov (.t 15)), none⟩]) .ret))
theorem cc11 : ccode Tryd.prog (min Tryd.f11.ntmps pbase) (Tryd.f11.body.getD .skip) = some ac11 := by kernel_rfl
def ac12 : ACode := (.seq (.ops [⟨(some 2), (.nils 1), none⟩]) (.seq (.ops [⟨(some 9), (.mov (.t 0)), none⟩, ⟨(some 10), (.call 14 [(.t 9)]), none⟩, ⟨(some 8), (.mov (.t 10)), none⟩, ⟨(some 11), (.ext (.t 8) 0), none⟩, ⟨(some 12), (.ext (.t 8) 1), none⟩, ⟨(some 3), (.mov (.t 11)), none⟩, ⟨(some 4), (.mov (.t 12)), none⟩]) (.seq (.ops [⟨(some 14), (.mov (.t 3)), none⟩, ⟨(some 15), (.call 15 [(.t 14)]), none⟩, ⟨(some 13), (.mov (.t 15)), none⟩, ⟨(some 16), (.ext (.t 13) 0), none⟩, ⟨(some 17), (.ext (.t 13) 1), none⟩, ⟨(some 5), (.mov (.t 16)), none⟩, ⟨(some 6), (.mov (.t 17)), none⟩]) (.seq (.seq (.ops [⟨(some 18), (.mov (.t 5)), none⟩, ⟨(some 19), (.len (.t 18)), none⟩, ⟨(some 20), (.mov (.c (.int .i64 0))), none⟩]) (.block 0 (.loop (.seq (.ops [⟨(some 21), (.bin .lss (.t 20) (.t 19)), none⟩]) (.seq (.cond (.t 21) .skip (.exit 0)) (.seq (.block 1 (.seq (.ops [⟨(some 22), (.mov (.t 20)), none⟩, ⟨(some 7), (.mov (.t 22)), none⟩]) (.tree (.take ⟨(some 23), (.mov (.t 5)), none⟩ (.take ⟨(some 24), (.mov (.t 7)), none⟩ (.take ⟨(some 25), (.idx 1 (.t 23) (.t 24)), none⟩ (.take ⟨(some 26), (.ld none (.t 25)), none⟩ (.take ⟨(some 27), (.mov (.t 0)), none⟩ (.take ⟨(some 28), (.bin .sub (.t 27) (.c (.int .i64 1))), none⟩ (.take ⟨(some 29), (.call 16 [(.t 28)]), none⟩ (.take ⟨(some 30), (.bin .mul (.t 26) (.t 29)), none⟩ (.take ⟨(some 31), (.idx 1 (.t 23) (.t 24)), none⟩ (.take ⟨none, (.st 1 (.t 31) (.t 30)), none⟩ .done))))))))))))) (.ops [⟨(some 32), (.bin .add (.t 20) (.c (.int .i64 1))), none⟩, ⟨(some 20), (.mov (.t 32)), none⟩]))))))) (.seq (.ops [⟨(some 33), (.mov (.t 5)), none⟩, ⟨(some 2), (.mov (.t 33)), none⟩]) .ret)))))
theorem cc12 : ccode Tryd.prog (min Tryd.f12.ntmps pbase) (Tryd.f12.body.getD .skip) = some ac12 := by kernel_rfl
def ac13 : ACode := (.seq (.ops [⟨(some 2), (.mov (.c (.bool false))), none⟩]) (.seq (.ops [⟨(some 3), (.mov (.t 0)), none⟩, ⟨(some 4), (.bin .geq (.t 3) (.c (.int .i64 1))), none⟩, ⟨(some 5), (.mov (.t 4)), none⟩, ⟨(some 6), (.mov (.t 0)), (some (5, true))⟩, ⟨(some 7), (.bin .leq (.t 6) (.c (.int .i64 7))), (some (5, true))⟩, ⟨(some 8), (.pick (.t 5) (.t 7) (.c (.bool false))), none⟩, ⟨(some 2), (.mov (.t 8)), none⟩]) .ret))
theorem cc13 : ccode Tryd.prog (min Tryd.f13.ntmps pbase) (Tryd.f13.body.getD .skip) = some ac13 := by kernel_rfl
def ac14 : ACode := (.seq (.ops [⟨(some 1), (.box 1 (.t 0)), none⟩, ⟨(some 2), (.mov (.c (.string (.mk #[])))), none⟩, ⟨(some 3), (.mov (.c (.bool false))), none⟩]) (.seq (.seq (.ops [⟨(some 4), (.ld none (.t 1)), none⟩, ⟨(some 5), (.call 17 [(.t 4)]), none⟩, ⟨(some 6), (.not (.t 5)), none⟩]) (.cond (.t 6) (.seq (.ops [⟨(some 2), (.mov (.c (.string (.mk #[])))), none⟩, ⟨(some 3), (.mov (.c (.bool false))), none⟩]) .ret) .skip)) (.seq (.ops [⟨(some 7), (.ld none (.t 1)), none⟩, ⟨(some 8), (.mkf 19 0 [(.t 1)]), none⟩, ⟨(some 9), (.call 18 [(.t 7), (.t 8)]), none⟩, ⟨(some 2), (.mov (.t 9)), none⟩, ⟨(some 3), (.mov (.c (.bool true))), none⟩]) .ret)))
theorem cc14 : ccode Tryd.prog (min Tryd.f14.ntmps pbase) (Tryd.f14.body.getD .skip) = some ac14 := by kernel_rfl
def ac15 : ACode := (.seq (.ops [⟨(some 2), (.nils 1), none⟩, ⟨(some 3), (.mov (.c (.bool false))), none⟩]) (.seq (.ops [⟨(some 7), (.mov (.t 0)), none⟩, ⟨(some 8), (.call 20 [(.t 7)]), none⟩, ⟨(some 6), (.mov (.t 8)), none⟩, ⟨(some 9), (.ext (.t 6) 0), none⟩, ⟨(some 10), (.ext (.t 6) 1), none⟩, ⟨(some 4), (.alloc [(.int .i64 0), (.map none)]), none⟩, ⟨none, (.st 2 (.t 4) (.t 9)), none⟩, ⟨(some 5), (.mov (.t 10)), none⟩]) (.seq (.seq (.ops [⟨(some 11), (.mov (.t 5)), none⟩, ⟨(some 12), (.not (.t 11)), none⟩]) (.cond (.t 12) (.seq (.ops [⟨(some 2), (.nils 1), none⟩, ⟨(some 3), (.mov (.c (.bool false))), none⟩]) .ret) .skip)) (.seq (.ops [⟨(some 13), (.ld (some 2) (.t 4)), none⟩, ⟨(some 14), (.call 21 [(.t 13)]), none⟩, ⟨(some 2), (.mov (.t 14)), none⟩, ⟨(some 3), (.mov (.c (.bool true))), none⟩]) .ret))))
theorem cc15 : ccode Tryd.prog (min Tryd.f15.ntmps pbase) (Tryd.f15.body.getD .skip) = some ac15 := by kernel_rfl
def ac16 : ACode := (.seq (.ops [⟨(some 2), (.mov (.c (.int .i64 0))), none⟩]) (.seq (.ops [⟨(some 3), (.mov (.c (.int .i64 1))), none⟩]) (.seq (.seq (.ops [⟨(some 4), (.mov (.c (.int .i64 2))), none⟩]) (.block 0 (.loop (.seq (.seq (.ops [⟨(some 5), (.mov (.t 4)), none⟩, ⟨(some 6), (.mov (.t 0)), none⟩, ⟨(some 7), (.bin .leq (.t 5) (.t 6)), none⟩]) (.cond (.t 7) .skip (.exit 0))) (.seq (.block 1 (.ops [⟨(some 10), (.mov (.t 3)), none⟩, ⟨(some 11), (.mov (.t 4)), none⟩, ⟨(some 12), (.bin .mul (.t 10) (.t 11)), none⟩, ⟨(some 3), (.mov (.t 12)), none⟩])) (.ops [⟨(some 8), (.mov (.t 4)), none⟩, ⟨(some 9), (.bin .add (.t 8) (.c (.int .i64 1))), none⟩, ⟨(some 4), (.mov (.t 9)), none⟩])))))) (.seq (.ops [⟨(some 13), (.mov (.t 3)), none⟩, ⟨(some 2), (.mov (.t 13)), none⟩]) .ret))))
theorem cc16 : ccode Tryd.prog (min Tryd.f16.ntmps pbase) (Tryd.f16.body.getD .skip) = some ac16 := by kernel_rfl
def ac17 : ACode := (.seq (.ops [⟨(some 2), (.mov (.c (.bool false))), none⟩]) (.seq (.ops [⟨(some 3), (.mov (.t 0)), none⟩, ⟨(some 4), (.bin .geq (.t 3) (.c (.int .i64 1))), none⟩, ⟨(some 5), (.mov (.t 4)), none⟩, ⟨(some 6), (.mov (.t 0)), (some (5, true))⟩, ⟨(some 7), (.bin .leq (.t 6) (.c (.int .i64 8))), (some (5, true))⟩, ⟨(some 8), (.pick (.t 5) (.t 7) (.c (.bool false))), none⟩, ⟨(some 2), (.mov (.t 8)), none⟩]) .ret))
theorem cc17 : ccode Tryd.prog (min Tryd.f17.ntmps pbase) (Tryd.f17.body.getD .skip) = some ac17 := by kernel_rfl
def ac18 : ACode := (.seq (.ops [⟨(some 4), (.mov (.c (.string (.mk #[])))), none⟩]) (.seq (.ops [⟨(some 5), (.nils 1), none⟩]) (.seq (.seq (.ops [⟨(some 8), (.mov (.t 0)), none⟩, ⟨(some 9), (.mov (.c (.int .i64 0))), none⟩]) (.block 0 (.loop (.seq (.ops [⟨(some 10), (.bin .lss (.t 9) (.t 8)), none⟩]) (.seq (.cond (.t 10) .skip (.exit 0)) (.seq (.block 1 (.seq (.ops [⟨(some 11), (.mov (.t 9)), none⟩, ⟨(some 6), (.mov (.t 11)), none⟩]) (.seq (.seq (.ops [⟨(some 12), (.mov (.t 6)), none⟩, ⟨(some 13), (.bin .gtr (.t 12) (.c (.int .i64 0))), none⟩]) (.cond (.t 13) (.ops [⟨(some 14), (.mov (.t 5)), none⟩, ⟨(some 15), (.bsl 1 1 [(.int .u8 0)] [(0, (.c (.int .u8 47)))]), none⟩, ⟨(some 16), (.app 1 1 (.t 14) (.t 15)), none⟩, ⟨(some 5), (.mov (.t 16)), none⟩]) .skip)) (.seq (.ops [⟨(some 17), (.mov (.t 0)), none⟩, ⟨(some 18), (.mov (.c (.int .i64 0))), none⟩]) (.block 2 (.loop (.seq (.ops [⟨(some 19), (.bin .lss (.t 18) (.t 17)), none⟩]) (.seq (.cond (.t 19) .skip (.exit 2)) (.seq (.block 3 (.seq (.ops [⟨(some 20), (.mov (.t 18)), none⟩, ⟨(some 7), (.mov (.t 20)), none⟩]) (.seq (.ops [⟨(some 21), (.mov (.t 1)), none⟩, ⟨(some 22), (.mov (.t 6)), none⟩, ⟨(some 23), (.mov (.t 7)), none⟩, ⟨(some 24), (.pu (.bld [(.int .i64 0), (.int .i64 0)] [(0, 1), (1, 1)]) [(.t 22), (.t 23)]), none⟩, ⟨(some 25), (.callv (.t 21) [(.t 24)]), none⟩]) (.cond (.t 25) (.ops [⟨(some 26), (.mov (.t 5)), none⟩, ⟨(some 27), (.bsl 1 1 [(.int .u8 0)] [(0, (.c (.int .u8 35)))]), none⟩, ⟨(some 28), (.app 1 1 (.t 26) (.t 27)), none⟩, ⟨(some 5), (.mov (.t 28)), none⟩]) (.ops [⟨(some 29), (.mov (.t 5)), none⟩, ⟨(some 30), (.bsl 1 1 [(.int .u8 0)] [(0, (.c (.int .u8 46)))]), none⟩, ⟨(some 31), (.app 1 1 (.t 29) (.t 30)), none⟩, ⟨(some 5), (.mov (.t 31)), none⟩]))))) (.ops [⟨(some 32), (.bin .add (.t 18) (.c (.int .i64 1))), none⟩, ⟨(some 18), (.mov (.t 32)), none⟩])))))))))) (.ops [⟨(some 33), (.bin .add (.t 9) (.c (.int .i64 1))), none⟩, ⟨(some 9), (.mov (.t 33)), none⟩]))))))) (.seq (.ops [⟨(some 34), (.mov (.t 5)), none⟩, ⟨(some 35), (.bts (.t 34)), none⟩, ⟨(some 4), (.mov (.t 35)), none⟩]) .ret))))
theorem cc18 : ccode Tryd.prog (min Tryd.f18.ntmps pbase) (Tryd.f18.body.getD .skip) = some ac18 := by kernel_rfl
def ac19 : ACode := (.seq (.ops [⟨(some 2), (.box 2 (.t 0)), none⟩, ⟨(some 3), (.mov (.c (.bool false))), none⟩]) (.seq (.tree (.take ⟨(some 4), (.fa 1 (.t 2)), none⟩ (.take ⟨(some 5), (.ld none (.t 4)), none⟩ (.take ⟨(some 6), (.fa 0 (.t 2)), none⟩ (.take ⟨(some 7), (.ld none (.t 6)), none⟩ (.take ⟨(some 8), (.bin .eql (.t 5) (.t 7)), none⟩ (.take ⟨(some 9), (.mov (.t 8)), none⟩ (.take ⟨(some 10), (.fa 1 (.t 2)), (some (9, false))⟩ (.take ⟨(some 11), (.ld none (.t 10)), (some (9, false))⟩ (.take ⟨(some 12), (.fa 0 (.t 2)), (some (9, false))⟩ (.take ⟨(some 13), (.ld none (.t 12)), (some (9, false))⟩ (.take ⟨(some 14), (.bin .add (.t 13) (.c (.int .i64 1))), (some (9, false))⟩ (.take ⟨(some 15), (.ld none (.t 1)), (some (9, false))⟩ (.take ⟨(some 16), (.bin .rem (.t 14) (.t 15)), (some (9, false))⟩ (.take ⟨(some 17), (.bin .eql (.t 11) (.t 16)), (some (9, false))⟩ (.take ⟨(some 18), (.pick (.t 9) (.c (.bool true)) (.t 17)), none⟩ (.take ⟨(some 3), (.mov (.t 18)), none⟩ .done))))))))))))))))) .ret))
theorem cc19 : ccode Tryd.prog (min Tryd.f19.ntmps pbase) (Tryd.f19.body.getD .skip) = some ac19 := by kernel_rfl
def ac20 : ACode := (.seq (.ops [⟨(some 2), (.alloc [(.int .i64 0), (.map none)]), none⟩, ⟨(some 3), (.mov (.c (.bool false))), none⟩]) (.seq (.ops [⟨(some 9), (.mov (.t 0)), none⟩, ⟨(some 10), (.call 22 [(.t 9), (.c (.string (.mk #[47]))), (.c (.int .i64 9))]), none⟩, ⟨(some 4), (.mov (.t 10)), none⟩]) (.seq (.seq (.ops [⟨(some 11), (.mov (.t 4)), none⟩, ⟨(some 12), (.len (.t 11)), none⟩, ⟨(some 13), (.call 17 [(.t 12)]), none⟩, ⟨(some 14), (.not (.t 13)), none⟩]) (.cond (.t 14) (.seq (.ops [⟨(some 15), (.pu (.bld [(.int .i64 0), (.map none)] []) []), none⟩, ⟨none, (.st 2 (.t 2) (.t 15)), none⟩, ⟨(some 3), (.mov (.c (.bool false))), none⟩]) .ret) .skip)) (.seq (.ops [⟨(some 16), (.mov (.t 4)), none⟩, ⟨(some 17), (.len (.t 16)), none⟩, ⟨(some 18), .mmk, none⟩, ⟨(some 19), (.pu (.bld [(.int .i64 0), (.map none)] [(0, 1), (1, 1)]) [(.t 17), (.t 18)]), none⟩, ⟨(some 5), (.alloc [(.int .i64 0), (.map none)]), none⟩, ⟨none, (.st 2 (.t 5) (.t 19)), none⟩]) (.seq (.seq (.ops [⟨(some 20), (.mov (.t 4)), none⟩, ⟨(some 21), (.len (.t 20)), none⟩, ⟨(some 22), (.mov (.c (.int .i64 0))), none⟩]) (.block 0 (.loop (.seq (.ops [⟨(some 23), (.bin .lss (.t 22) (.t 21)), none⟩]) (.seq (.cond (.t 23) .skip (.exit 0)) (.seq (.block 1 (.seq (.ops [⟨(some 24), (.mov (.t 22)), none⟩, ⟨(some 25), (.idx 1 (.t 20) (.t 22)), none⟩, ⟨(some 26), (.ld none (.t 25)), none⟩, ⟨(some 6), (.mov (.t 24)), none⟩, ⟨(some 7), (.mov (.t 26)), none⟩]) (.seq (.seq (.ops [⟨(some 27), (.mov (.t 7)), none⟩, ⟨(some 28), (.slen (.t 27)), none⟩, ⟨(some 29), (.fa 0 (.t 5)), none⟩, ⟨(some 30), (.ld none (.t 29)), none⟩, ⟨(some 31), (.bin .neq (.t 28) (.t 30)), none⟩]) (.cond (.t 31) (.seq (.ops [⟨(some 32), (.pu (.bld [(.int .i64 0), (.map none)] []) []), none⟩, ⟨none, (.st 2 (.t 2) (.t 32)), none⟩, ⟨(some 3), (.mov (.c (.bool false))), none⟩]) .ret) .skip)) (.seq (.ops [⟨(some 33), (.mov (.t 7)), none⟩, ⟨(some 34), (.slen (.t 33)), none⟩, ⟨(some 35), (.mov (.c (.int .i64 0))), none⟩]) (.block 2 (.loop (.seq (.ops [⟨(some 36), (.bin .lss (.t 35) (.t 34)), none⟩]) (.seq (.cond (.t 36) .skip (.exit 2)) (.seq (.block 3 (.seq (.ops [⟨(some 37), (.mov (.t 35)), none⟩, ⟨(some 8), (.mov (.t 37)), none⟩]) (.seq (.ops [⟨(some 38), (.mov (.t 7)), none⟩, ⟨(some 39), (.mov (.t 8)), none⟩, ⟨(some 40), (.pu .six [(.t 38), (.t 39)]), none⟩]) (.block 4 (.seq (.ops [⟨(some 43), (.bin .eql (.t 40) (.c (.int .u8 46))), none⟩, ⟨(some 42), (.mov (.t 43)), none⟩]) (.cond (.t 42) .skip (.seq (.ops [⟨(some 45), (.bin .eql (.t 40) (.c (.int .u8 35))), none⟩, ⟨(some 44), (.mov (.t 45)), none⟩]) (.cond (.t 44) (.ops [⟨(some 46), (.fa 1 (.t 5)), none⟩, ⟨(some 47), (.ld none (.t 46)), none⟩, ⟨(some 48), (.mov (.t 6)), none⟩, ⟨(some 49), (.mov (.t 8)), none⟩, ⟨(some 50), (.pu (.bld [(.int .i64 0), (.int .i64 0)] [(0, 1), (1, 1)]) [(.t 48), (.t 49)]), none⟩, ⟨none, (.mputk 38 (.t 47) (.t 50) (.c (.bool true))), none⟩]) (.seq (.ops [⟨(some 41), (.pu (.bld [(.int .i64 0), (.map none)] []) []), none⟩, ⟨none, (.st 2 (.t 2) (.t 41)), none⟩, ⟨(some 3), (.mov (.c (.bool false))), none⟩]) .ret))))))))) (.ops [⟨(some 51), (.bin .add (.t 35) (.c (.int .i64 1))), none⟩, ⟨(some 35), (.mov (.t 51)), none⟩])))))))))) (.ops [⟨(some 52), (.bin .add (.t 22) (.c (.int .i64 1))), none⟩, ⟨(some 22), (.mov (.t 52)), none⟩]))))))) (.seq (.ops [⟨(some 53), (.ld (some 2) (.t 5)), none⟩, ⟨none, (.st 2 (.t 2) (.t 53)), none⟩, ⟨(some 3), (.mov (.c (.bool true))), none⟩]) .ret))))))
theorem cc20 : ccode Tryd.prog (min Tryd.f20.ntmps pbase) (Tryd.f20.body.getD .skip) = some ac20 := by kernel_rfl
def ac21 : ACode := (.seq (.ops [⟨(some 1), (.box 2 (.t 0)), none⟩, ⟨(some 2), (.nils 1), none⟩]) (.seq (.ops [⟨(some 5), (.ld (some 2) (.t 1)), none⟩, ⟨(some 6), (.call 23 [(.t 5)]), none⟩, ⟨(some 3), (.mov (.t 6)), none⟩]) (.seq (.seq (.ops [⟨(some 7), (.mov (.t 3)), none⟩, ⟨(some 8), (.len (.t 7)), none⟩, ⟨(some 9), (.mov (.c (.int .i64 0))), none⟩]) (.block 0 (.loop (.seq (.ops [⟨(some 10), (.bin .lss (.t 9) (.t 8)), none⟩]) (.seq (.cond (.t 10) .skip (.exit 0)) (.seq (.block 1 (.seq (.ops [⟨(some 11), (.mov (.t 9)), none⟩, ⟨(some 4), (.mov (.t 11)), none⟩]) (.tree (.take ⟨(some 12), (.mov (.t 3)), none⟩ (.take ⟨(some 13), (.mov (.t 4)), none⟩ (.take ⟨(some 14), (.idx 1 (.t 12) (.t 13)), none⟩ (.take ⟨(some 15), (.ld none (.t 14)), none⟩ (.take ⟨(some 16), (.fa 0 (.t 1)), none⟩ (.take ⟨(some 17), (.ld none (.t 16)), none⟩ (.take ⟨(some 18), (.mov (.t 4)), none⟩ (.take ⟨(some 19), (.bin .sub (.t 17) (.t 18)), none⟩ (.take ⟨(some 20), (.call 16 [(.t 19)]), none⟩ (.take ⟨(some 21), (.bin .mul (.t 15) (.t 20)), none⟩ (.take ⟨(some 22), (.idx 1 (.t 12) (.t 13)), none⟩ (.take ⟨none, (.st 1 (.t 22) (.t 21)), none⟩ .done))))))))))))))) (.ops [⟨(some 23), (.bin .add (.t 9) (.c (.int .i64 1))), none⟩, ⟨(some 9), (.mov (.t 23)), none⟩]))))))) (.seq (.ops [⟨(some 24), (.mov (.t 3)), none⟩, ⟨(some 25), (.call 24 [(.t 24)]), none⟩, ⟨(some 2), (.mov (.t 25)), none⟩]) .ret))))
theorem cc21 : ccode Tryd.prog (min Tryd.f21.ntmps pbase) (Tryd.f21.body.getD .skip) = some ac21 := by kernel_rfl
def ac22 : ACode := (.seq (.ops [⟨(some 6), (.nils 1), none⟩]) (.seq (.ops [⟨(some 7), (.mov (.t 0)), none⟩, ⟨(some 8), (.mov (.t 1)), none⟩, ⟨(some 9), (.mov (.t 2)), none⟩, ⟨(some 10), (.call 25 [(.t 7), (.t 8), (.c (.int .i64 0)), (.t 9)]), none⟩, ⟨(some 6), (.mov (.t 10)), none⟩]) .ret))
theorem cc22 : ccode Tryd.prog (min Tryd.f22.ntmps pbase) (Tryd.f22.body.getD .skip) = some ac22 := by kernel_rfl
def ac23 : ACode := (.seq (.ops [⟨(some 1), (.box 2 (.t 0)), none⟩, ⟨(some 2), (.nils 1), none⟩]) (.scope (.seq (.ops [⟨(some 14), .mmk, none⟩, ⟨none, (.mput .u16 (.t 14) (.c (.int .u16 0)) (.c (.int .i64 1))), none⟩, ⟨(some 15), (.mov (.t 14)), none⟩, ⟨(some 3), (.mov (.t 15)), none⟩]) (.seq (.ops [⟨(some 16), (.fa 1 (.t 1)), none⟩, ⟨(some 17), (.ld none (.t 16)), none⟩, ⟨(some 18), (.call 26 [(.t 17)]), none⟩, ⟨(some 4), (.mov (.t 18)), none⟩]) (.seq (.label 0) (.seq (.seq (.ops [⟨(some 19), (.mov (.t 4)), none⟩, ⟨(some 20), (.mrg (.t 19)), none⟩]) (.block 0 (.loop (.seq (.ops [⟨(some 21), (.mnx (.t 20)), none⟩, ⟨(some 22), (.ext (.t 21) 0), none⟩]) (.seq (.cond (.t 22) .skip (.exit 0)) (.block 1 (.seq (.ops [⟨(some 23), (.ment (.t 20)), none⟩, ⟨(some 24), (.ext (.t 23) 0), none⟩, ⟨(some 5), (.alloc [(.int .i64 0), (.int .i64 0)]), none⟩, ⟨none, (.st 2 (.t 5) (.t 24)), none⟩]) (.seq (.ops [⟨(some 25), (.mov (.t 3)), none⟩, ⟨(some 26), (.call 27 [(.t 25)]), none⟩, ⟨(some 6), (.mov (.t 26)), none⟩]) (.seq (.seq (.ops [⟨(some 27), (.fa 0 (.t 1)), none⟩, ⟨(some 28), (.ld none (.t 27)), none⟩, ⟨(some 29), (.mov (.c (.int .i64 0))), none⟩]) (.block 2 (.loop (.seq (.ops [⟨(some 30), (.bin .lss (.t 29) (.t 28)), none⟩]) (.seq (.cond (.t 30) .skip (.exit 2)) (.seq (.block 3 (.seq (.ops [⟨(some 31), (.mov (.t 29)), none⟩, ⟨(some 7), (.mov (.t 31)), none⟩]) (.seq (.ops [⟨(some 32), (.fa 0 (.t 5)), none⟩, ⟨(some 33), (.ld none (.t 32)), none⟩, ⟨(some 34), (.mov (.t 7)), none⟩, ⟨(some 35), (.pu (.bld [(.int .i64 0), (.int .i64 0)] [(0, 1), (1, 1)]) [(.t 33), (.t 34)]), none⟩, ⟨(some 8), (.alloc [(.int .i64 0), (.int .i64 0)]), none⟩, ⟨none, (.st 2 (.t 8) (.t 35)), none⟩]) (.seq (.seq (.ops [⟨(some 36), (.mov (.t 4)), none⟩, ⟨(some 37), (.ld (some 2) (.t 8)), none⟩, ⟨(some 38), (.mgetk 38 (.bool false) false (.t 36) (.t 37)), none⟩, ⟨(some 39), (.not (.t 38)), none⟩]) (.cond (.t 39) (.exit 3) .skip)) (.seq (.ops [⟨(some 40), (.mov (.t 4)), none⟩, ⟨(some 41), (.ld (some 2) (.t 8)), none⟩, ⟨none, (.mdel 38 (.t 40) (.t 41)), none⟩]) (.seq (.ops [⟨(some 42), (.mov (.t 3)), none⟩, ⟨(some 43), (.mrg (.t 42)), none⟩]) (.block 4 (.loop (.seq (.ops [⟨(some 44), (.mnx (.t 43)), none⟩, ⟨(some 45), (.ext (.t 44) 0), none⟩]) (.seq (.cond (.t 45) .skip (.exit 4)) (.block 5 (.seq (.ops [⟨(some 46), (.ment (.t 43)), none⟩, ⟨(some 47), (.ext (.t 46) 0), none⟩, ⟨(some 48), (.ext (.t 46) 1), none⟩, ⟨(some 9), (.mov (.t 47)), none⟩, ⟨(some 10), (.mov (.t 48)), none⟩]) (.seq (.ops [⟨(some 49), (.mov (.t 9)), none⟩, ⟨(some 50), (.mov (.t 7)), none⟩, ⟨(some 51), (.call 28 [(.t 49), (.t 50)]), none⟩, ⟨(some 52), (.not (.t 51)), none⟩]) (.cond (.t 52) (.ops [⟨(some 53), (.mov (.t 6)), none⟩, ⟨(some 54), (.mov (.t 9)), none⟩, ⟨(some 55), (.mov (.t 7)), none⟩, ⟨(some 56), (.call 29 [(.t 54), (.t 55)]), none⟩, ⟨(some 57), (.mget .u16 (.int .i64 0) false (.t 53) (.t 56)), none⟩, ⟨(some 58), (.mov (.t 10)), none⟩, ⟨(some 59), (.bin .add (.t 57) (.t 58)), none⟩, ⟨none, (.mput .u16 (.t 53) (.t 56) (.t 59)), none⟩]) .skip)))))))))))))) (.ops [⟨(some 60), (.bin .add (.t 29) (.c (.int .i64 1))), none⟩, ⟨(some 29), (.mov (.t 60)), none⟩]))))))) (.seq (.ops [⟨(some 61), (.mov (.t 6)), none⟩, ⟨(some 3), (.mov (.t 61)), none⟩]) (.goto 0))))))))))) (.seq (.ops [⟨(some 62), (.fa 0 (.t 1)), none⟩, ⟨(some 63), (.ld none (.t 62)), none⟩, ⟨(some 64), (.bin .add (.t 63) (.c (.int .i64 1))), none⟩, ⟨(some 65), (.mk 1 8 [(.int .i64 0)] (.t 64) (.t 64)), none⟩, ⟨(some 11), (.mov (.t 65)), none⟩]) (.seq (.seq (.ops [⟨(some 66), (.mov (.t 3)), none⟩, ⟨(some 67), (.mrg (.t 66)), none⟩]) (.block 6 (.loop (.seq (.ops [⟨(some 68), (.mnx (.t 67)), none⟩, ⟨(some 69), (.ext (.t 68) 0), none⟩]) (.seq (.cond (.t 69) .skip (.exit 6)) (.block 7 (.seq (.ops [⟨(some 70), (.ment (.t 67)), none⟩, ⟨(some 71), (.ext (.t 70) 0), none⟩, ⟨(some 72), (.ext (.t 70) 1), none⟩, ⟨(some 12), (.mov (.t 71)), none⟩, ⟨(some 13), (.mov (.t 72)), none⟩]) (.ops [⟨(some 73), (.mov (.t 11)), none⟩, ⟨(some 74), (.mov (.t 12)), none⟩, ⟨(some 75), (.call 30 [(.t 74)]), none⟩, ⟨(some 76), (.idx 1 (.t 73) (.t 75)), none⟩, ⟨(some 77), (.ld none (.t 76)), none⟩, ⟨(some 78), (.mov (.t 13)), none⟩, ⟨(some 79), (.bin .add (.t 77) (.t 78)), none⟩, ⟨(some 80), (.idx 1 (.t 73) (.t 75)), none⟩, ⟨none, (.st 1 (.t 80) (.t 79)), none⟩])))))))) (.seq (.ops [⟨(some 81), (.mov (.t 11)), none⟩, ⟨(some 2), (.mov (.t 81)), none⟩]) .ret)))))))))
theorem cc23 : ccode Tryd.prog (min Tryd.f23.ntmps pbase) (Tryd.f23.body.getD .skip) = some ac23 := by kernel_rfl
def ac24 : ACode := (.seq (.ops [⟨(some 2), (.nils 1), none⟩]) (.seq (.ops [⟨(some 6), (.mov (.t 0)), none⟩, ⟨(some 7), (.call 31 [(.t 6)]), none⟩, ⟨(some 3), (.mov (.t 7)), none⟩]) (.seq (.seq (.ops [⟨(some 8), (.mov (.t 3)), none⟩, ⟨(some 9), (.len (.t 8)), none⟩, ⟨(some 10), (.bin .sub (.t 9) (.c (.int .i64 1))), none⟩, ⟨(some 4), (.mov (.t 10)), none⟩]) (.block 0 (.loop (.seq (.seq (.ops [⟨(some 11), (.mov (.t 4)), none⟩, ⟨(some 12), (.bin .geq (.t 11) (.c (.int .i64 0))), none⟩]) (.cond (.t 12) .skip (.exit 0))) (.seq (.block 1 (.seq (.ops [⟨(some 15), (.mov (.t 4)), none⟩, ⟨(some 16), (.bin .add (.t 15) (.c (.int .i64 1))), none⟩, ⟨(some 5), (.mov (.t 16)), none⟩]) (.block 2 (.loop (.seq (.seq (.ops [⟨(some 17), (.mov (.t 5)), none⟩, ⟨(some 18), (.mov (.t 3)), none⟩, ⟨(some 19), (.len (.t 18)), none⟩, ⟨(some 20), (.bin .lss (.t 17) (.t 19)), none⟩]) (.cond (.t 20) .skip (.exit 2))) (.seq (.block 3 (.tree (.take ⟨(some 23), (.mov (.t 3)), none⟩ (.take ⟨(some 24), (.mov (.t 4)), none⟩ (.take ⟨(some 25), (.idx 1 (.t 23) (.t 24)), none⟩ (.take ⟨(some 26), (.ld none (.t 25)), none⟩ (.take ⟨(some 27), (.mov (.t 5)), none⟩ (.take ⟨(some 28), (.mov (.t 4)), none⟩ (.take ⟨(some 29), (.call 32 [(.t 27), (.t 28)]), none⟩ (.take ⟨(some 30), (.mov (.t 3)), none⟩ (.take ⟨(some 31), (.mov (.t 5)), none⟩ (.take ⟨(some 32), (.idx 1 (.t 30) (.t 31)), none⟩ (.take ⟨(some 33), (.ld none (.t 32)), none⟩ (.take ⟨(some 34), (.bin .mul (.t 29) (.t 33)), none⟩ (.take ⟨(some 35), (.bin .sub (.t 26) (.t 34)), none⟩ (.take ⟨(some 36), (.idx 1 (.t 23) (.t 24)), none⟩ (.take ⟨none, (.st 1 (.t 36) (.t 35)), none⟩ .done))))))))))))))))) (.ops [⟨(some 21), (.mov (.t 5)), none⟩, ⟨(some 22), (.bin .add (.t 21) (.c (.int .i64 1))), none⟩, ⟨(some 5), (.mov (.t 22)), none⟩]))))))) (.ops [⟨(some 13), (.mov (.t 4)), none⟩, ⟨(some 14), (.bin .sub (.t 13) (.c (.int .i64 1))), none⟩, ⟨(some 4), (.mov (.t 14)), none⟩])))))) (.seq (.ops [⟨(some 37), (.mov (.t 3)), none⟩, ⟨(some 2), (.mov (.t 37)), none⟩]) .ret))))
theorem cc24 : ccode Tryd.prog (min Tryd.f24.ntmps pbase) (Tryd.f24.body.getD .skip) = some ac24 := by kernel_rfl
def ac25 : ACode := (.seq (.ops [⟨(some 8), (.nils 1), none⟩]) (.seq (.seq (.ops [⟨(some 12), (.mov (.t 3)), none⟩, ⟨(some 13), (.bin .eql (.t 12) (.c (.int .i64 0))), none⟩]) (.cond (.t 13) (.seq (.ops [⟨(some 8), (.nils 1), none⟩]) .ret) .skip)) (.seq (.seq (.ops [⟨(some 14), (.mov (.t 1)), none⟩, ⟨(some 15), (.bin .eql (.t 14) (.c (.string (.mk #[])))), none⟩]) (.cond (.t 15) (.seq (.ops [⟨(some 16), (.mov (.t 0)), none⟩, ⟨(some 17), (.mov (.t 3)), none⟩, ⟨(some 18), (.call 33 [(.t 16), (.t 17)]), none⟩, ⟨(some 8), (.mov (.t 18)), none⟩]) .ret) .skip)) (.seq (.seq (.ops [⟨(some 19), (.mov (.t 3)), none⟩, ⟨(some 20), (.bin .lss (.t 19) (.c (.int .i64 0))), none⟩]) (.cond (.t 20) (.ops [⟨(some 21), (.mov (.t 0)), none⟩, ⟨(some 22), (.mov (.t 1)), none⟩, ⟨(some 23), (.call 34 [(.t 21), (.t 22)]), none⟩, ⟨(some 24), (.bin .add (.t 23) (.c (.int .i64 1))), none⟩, ⟨(some 3), (.mov (.t 24)), none⟩]) .skip)) (.seq (.ops [⟨(some 25), (.mov (.t 3)), none⟩, ⟨(some 26), (.mov (.t 0)), none⟩, ⟨(some 27), (.slen (.t 26)), none⟩, ⟨(some 28), (.bin .add (.t 27) (.c (.int .i64 1))), none⟩, ⟨(some 29), (.pu (.mm false) [(.t 25), (.t 28)]), none⟩, ⟨(some 3), (.mov (.t 29)), none⟩]) (.seq (.ops [⟨(some 30), (.mov (.t 3)), none⟩, ⟨(some 31), (.mk 1 16 [(.string (.mk #[]))] (.t 30) (.t 30)), none⟩, ⟨(some 9), (.mov (.t 31)), none⟩]) (.seq (.ops [⟨(some 32), (.mov (.t 3)), none⟩, ⟨(some 33), (.bin .sub (.t 32) (.c (.int .i64 1))), none⟩, ⟨(some 3), (.mov (.t 33)), none⟩]) (.seq (.ops [⟨(some 10), (.mov (.c (.int .i64 0))), none⟩]) (.seq (.block 0 (.loop (.seq (.seq (.ops [⟨(some 34), (.mov (.t 10)), none⟩, ⟨(some 35), (.mov (.t 3)), none⟩, ⟨(some 36), (.bin .lss (.t 34) (.t 35)), none⟩]) (.cond (.t 36) .skip (.exit 0))) (.block 1 (.seq (.ops [⟨(some 37), (.mov (.t 0)), none⟩, ⟨(some 38), (.mov (.t 1)), none⟩, ⟨(some 39), (.call 35 [(.t 37), (.t 38)]), none⟩, ⟨(some 11), (.mov (.t 39)), none⟩]) (.seq (.seq (.ops [⟨(some 40), (.mov (.t 11)), none⟩, ⟨(some 41), (.bin .lss (.t 40) (.c (.int .i64 0))), none⟩]) (.cond (.t 41) (.exit 0) .skip)) (.seq (.ops [⟨(some 42), (.mov (.t 9)), none⟩, ⟨(some 43), (.mov (.t 10)), none⟩, ⟨(some 44), (.mov (.t 0)), none⟩, ⟨(some 45), (.mov (.t 11)), none⟩, ⟨(some 46), (.mov (.t 2)), none⟩, ⟨(some 47), (.bin .add (.t 45) (.t 46)), none⟩, ⟨(some 48), (.pu (.scut false true) [(.t 44), (.t 47)]), none⟩, ⟨(some 49), (.idx 1 (.t 42) (.t 43)), none⟩, ⟨none, (.st 1 (.t 49) (.t 48)), none⟩]) (.seq (.ops [⟨(some 50), (.mov (.t 0)), none⟩, ⟨(some 51), (.mov (.t 11)), none⟩, ⟨(some 52), (.mov (.t 1)), none⟩, ⟨(some 53), (.slen (.t 52)), none⟩, ⟨(some 54), (.bin .add (.t 51) (.t 53)), none⟩, ⟨(some 55), (.pu (.scut true false) [(.t 50), (.t 54)]), none⟩, ⟨(some 0), (.mov (.t 55)), none⟩]) (.ops [⟨(some 56), (.mov (.t 10)), none⟩, ⟨(some 57), (.bin .add (.t 56) (.c (.int .i64 1))), none⟩, ⟨(some 10), (.mov (.t 57)), none⟩]))))))))) (.seq (.ops [⟨(some 58), (.mov (.t 9)), none⟩, ⟨(some 59), (.mov (.t 10)), none⟩, ⟨(some 60), (.mov (.t 0)), none⟩, ⟨(some 61), (.idx 1 (.t 58) (.t 59)), none⟩, ⟨none, (.st 1 (.t 61) (.t 60)), none⟩]) (.seq (.ops [⟨(some 62), (.mov (.t 9)), none⟩, ⟨(some 63), (.mov (.t 10)), none⟩, ⟨(some 64), (.bin .add (.t 63) (.c (.int .i64 1))), none⟩, ⟨(some 65), (.cut 1 (.t 62) none (some (.t 64))), none⟩, ⟨(some 8), (.mov (.t 65)), none⟩]) .ret)))))))))))
theorem cc25 : ccode Tryd.prog (min Tryd.f25.ntmps pbase) (Tryd.f25.body.getD .skip) = some ac25 := by kernel_rfl
def ac28 : ACode := (.seq (.ops [⟨(some 4), (.mov (.c (.bool false))), none⟩]) (.seq (.ops [⟨(some 5), (.mov (.t 0)), none⟩, ⟨(some 6), (.mov (.t 1)), none⟩, ⟨(some 7), (.bin .shr (.t 5) (.t 6)), none⟩, ⟨(some 8), (.bin .and (.t 7) (.c (.int .u16 1))), none⟩, ⟨(some 9), (.bin .eql (.t 8) (.c (.int .u16 1))), none⟩, ⟨(some 4), (.mov (.t 9)), none⟩]) .ret))
theorem cc28 : ccode Tryd.prog (min Tryd.f28.ntmps pbase) (Tryd.f28.body.getD .skip) = some ac28 := by kernel_rfl
def ac29 : ACode := (.seq (.ops [⟨(some 4), (.mov (.c (.int .u16 0))), none⟩]) (.seq (.ops [⟨(some 5), (.mov (.t 0)), none⟩, ⟨(some 6), (.mov (.t 1)), none⟩, ⟨(some 7), (.bin .shl (.c (.int .u16 1)) (.t 6)), none⟩, ⟨(some 8), (.bin .or (.t 5) (.t 7)), none⟩, ⟨(some 4), (.mov (.t 8)), none⟩]) .ret))
theorem cc29 : ccode Tryd.prog (min Tryd.f29.ntmps pbase) (Tryd.f29.body.getD .skip) = some ac29 := by kernel_rfl
def ac30 : ACode := (.seq (.ops [⟨(some 2), (.mov (.c (.int .i64 0))), none⟩]) (.seq (.ops [⟨(some 3), (.mov (.t 0)), none⟩, ⟨(some 4), (.call 37 [(.t 3)]), none⟩, ⟨(some 2), (.mov (.t 4)), none⟩]) .ret))
theorem cc30 : ccode Tryd.prog (min Tryd.f30.ntmps pbase) (Tryd.f30.body.getD .skip) = some ac30 := by kernel_rfl
def ac31 : ACode := (.seq (.ops [⟨(some 2), (.nils 1), none⟩]) (.seq (.seq (.ops [⟨(some 3), (.mov (.t 0)), none⟩, ⟨(some 4), (.isnil false (.t 3)), none⟩]) (.cond (.t 4) (.seq (.ops [⟨(some 2), (.nils 1), none⟩]) .ret) .skip)) (.seq (.ops [⟨(some 5), (.bsl 1 0 [(.int .i64 0)] []), none⟩, ⟨(some 6), (.mov (.t 0)), none⟩, ⟨(some 7), (.app 1 8 (.t 5) (.t 6)), none⟩, ⟨(some 2), (.mov (.t 7)), none⟩]) .ret)))
theorem cc31 : ccode Tryd.prog (min Tryd.f31.ntmps pbase) (Tryd.f31.body.getD .skip) = some ac31 := by kernel_rfl
def ac32 : ACode := (.seq (.ops [⟨(some 4), (.mov (.c (.int .i64 0))), none⟩]) (.seq (.ops [⟨(some 5), (.mov (.t 0)), none⟩, ⟨(some 6), (.call 16 [(.t 5)]), none⟩, ⟨(some 7), (.mov (.t 1)), none⟩, ⟨(some 8), (.call 16 [(.t 7)]), none⟩, ⟨(some 9), (.mov (.t 0)), none⟩, ⟨(some 10), (.mov (.t 1)), none⟩, ⟨(some 11), (.bin .sub (.t 9) (.t 10)), none⟩, ⟨(some 12), (.call 16 [(.t 11)]), none⟩, ⟨(some 13), (.bin .mul (.t 8) (.t 12)), none⟩, ⟨(some 14), (.bin .quo (.t 6) (.t 13)), none⟩, ⟨(some 4), (.mov (.t 14)), none⟩]) .ret))
theorem cc32 : ccode Tryd.prog (min Tryd.f32.ntmps pbase) (Tryd.f32.body.getD .skip) = some ac32 := by kernel_rfl
def ac35 : ACode := (.seq (.ops [⟨(some 4), (.mov (.c (.int .i64 0))), none⟩]) (.seq (.ops [⟨(some 5), (.mov (.t 0)), none⟩, ⟨(some 6), (.mov (.t 1)), none⟩, ⟨(some 7), (.call 41 [(.t 5), (.t 6)]), none⟩, ⟨(some 4), (.mov (.t 7)), none⟩]) .ret))
theorem cc35 : ccode Tryd.prog (min Tryd.f35.ntmps pbase) (Tryd.f35.body.getD .skip) = some ac35 := by kernel_rfl
def ac37 : ACode := (.seq (.ops [⟨(some 2), (.mov (.c (.int .i64 0))), none⟩]) (.seq (.tree (.take ⟨(some 3), (.mov (.t 0)), none⟩ (.take ⟨(some 4), (.bin .shr (.t 3) (.c (.int .u64 8))), none⟩ (.take ⟨(some 5), (.pu .six [(.c (.string (.mk #[0, 1, 1, 2, 1, 2, 2, 3, 1, 2, 2, 3, 2, 3, 3, 4, 1, 2, 2, 3, 2, 3, 3, 4, 2, 3, 3, 4, 3, 4, 4, 5, 1, 2, 2, 3, 2, 3, 3, 4, 2, 3, 3, 4, 3, 4, 4, 5, 2, 3, 3, 4, 3, 4, 4, 5, 3, 4, 4, 5, 4, 5, 5, 6, 1, 2, 2, 3, 2, 3, 3, 4, 2, 3, 3, 4, 3, 4, 4, 5, 2, 3, 3, 4, 3, 4, 4, 5, 3, 4, 4, 5, 4, 5, 5, 6, 2, 3, 3, 4, 3, 4, 4, 5, 3, 4, 4, 5, 4, 5, 5, 6, 3, 4, 4, 5, 4, 5, 5, 6, 4, 5, 5, 6, 5, 6, 6, 7, 1, 2, 2, 3, 2, 3, 3, 4, 2, 3, 3, 4, 3, 4, 4, 5, 2, 3, 3, 4, 3, 4, 4, 5, 3, 4, 4, 5, 4, 5, 5, 6, 2, 3, 3, 4, 3, 4, 4, 5, 3, 4, 4, 5, 4, 5, 5, 6, 3, 4, 4, 5, 4, 5, 5, 6, 4, 5, 5, 6, 5, 6, 6, 7, 2, 3, 3, 4, 3, 4, 4, 5, 3, 4, 4, 5, 4, 5, 5, 6, 3, 4, 4, 5, 4, 5, 5, 6, 4, 5, 5, 6, 5, 6, 6, 7, 3, 4, 4, 5, 4, 5, 5, 6, 4, 5, 5, 6, 5, 6, 6, 7, 4, 5, 5, 6, 5, 6, 6, 7, 5, 6, 6, 7, 6, 7, 7, 8]))), (.t 4)]), none⟩ (.take ⟨(some 6), (.mov (.t 0)), none⟩ (.take ⟨(some 7), (.bin .and (.t 6) (.c (.int .u16 255))), none⟩ (.take ⟨(some 8), (.pu .six [(.c (.string (.mk #[0, 1, 1, 2, 1, 2, 2, 3, 1, 2, 2, 3, 2, 3, 3, 4, 1, 2, 2, 3, 2, 3, 3, 4, 2, 3, 3, 4, 3, 4, 4, 5, 1, 2, 2, 3, 2, 3, 3, 4, 2, 3, 3, 4, 3, 4, 4, 5, 2, 3, 3, 4, 3, 4, 4, 5, 3, 4, 4, 5, 4, 5, 5, 6, 1, 2, 2, 3, 2, 3, 3, 4, 2, 3, 3, 4, 3, 4, 4, 5, 2, 3, 3, 4, 3, 4, 4, 5, 3, 4, 4, 5, 4, 5, 5, 6, 2, 3, 3, 4, 3, 4, 4, 5, 3, 4, 4, 5, 4, 5, 5, 6, 3, 4, 4, 5, 4, 5, 5, 6, 4, 5, 5, 6, 5, 6, 6, 7, 1, 2, 2, 3, 2, 3, 3, 4, 2, 3, 3, 4, 3, 4, 4, 5, 2, 3, 3, 4, 3, 4, 4, 5, 3, 4, 4, 5, 4, 5, 5, 6, 2, 3, 3, 4, 3, 4, 4, 5, 3, 4, 4, 5, 4, 5, 5, 6, 3, 4, 4, 5, 4, 5, 5, 6, 4, 5, 5, 6, 5, 6, 6, 7, 2, 3, 3, 4, 3, 4, 4, 5, 3, 4, 4, 5, 4, 5, 5, 6, 3, 4, 4, 5, 4, 5, 5, 6, 4, 5, 5, 6, 5, 6, 6, 7, 3, 4, 4, 5, 4, 5, 5, 6, 4, 5, 5, 6, 5, 6, 6, 7, 4, 5, 5, 6, 5, 6, 6, 7, 5, 6, 6, 7, 6, 7, 7, 8]))), (.t 7)]), none⟩ (.take ⟨(some 9), (.bin .add (.t 5) (.t 8)), none⟩ (.take ⟨(some 10), (.pu (.cvt .i64) [(.t 9)]), none⟩ (.take ⟨(some 2), (.mov (.t 10)), none⟩ .done)))))))))) .ret))
theorem cc37 : ccode Tryd.prog (min Tryd.f37.ntmps pbase) (Tryd.f37.body.getD .skip) = some ac37 := by kernel_rfl
def ac41 : ACode := (.seq (.ops [⟨(some 4), (.mov (.c (.int .i64 0))), none⟩]) (.seq (.ops [⟨(some 14), (.mov (.t 1)), none⟩, ⟨(some 15), (.slen (.t 14)), none⟩, ⟨(some 5), (.mov (.t 15)), none⟩]) (.seq (.block 0 (.seq (.ops [⟨(some 17), (.mov (.t 5)), none⟩, ⟨(some 18), (.bin .eql (.t 17) (.c (.int .i64 0))), none⟩, ⟨(some 19), (.mov (.t 18)), none⟩, ⟨(some 20), (.mov (.t 1)), (some (19, false))⟩, ⟨(some 21), (.mov (.t 0)), (some (19, false))⟩, ⟨(some 22), (.bin .eql (.t 20) (.t 21)), (some (19, false))⟩, ⟨(some 23), (.pick (.t 19) (.c (.bool true)) (.t 22)), none⟩, ⟨(some 16), (.mov (.t 23)), none⟩]) (.cond (.t 16) (.seq (.ops [⟨(some 4), (.mov (.c (.int .i64 0))), none⟩]) .ret) (.seq (.ops [⟨(some 25), (.mov (.t 5)), none⟩, ⟨(some 26), (.bin .eql (.t 25) (.c (.int .i64 1))), none⟩, ⟨(some 24), (.mov (.t 26)), none⟩]) (.cond (.t 24) (.seq (.ops [⟨(some 27), (.mov (.t 0)), none⟩, ⟨(some 28), (.mov (.t 1)), none⟩, ⟨(some 29), (.pu .six [(.t 28), (.c (.int .i64 0))]), none⟩, ⟨(some 30), (.call 43 [(.t 27), (.t 29)]), none⟩, ⟨(some 4), (.mov (.t 30)), none⟩]) .ret) (.seq (.ops [⟨(some 32), (.mov (.t 5)), none⟩, ⟨(some 33), (.mov (.t 0)), none⟩, ⟨(some 34), (.slen (.t 33)), none⟩, ⟨(some 35), (.bin .geq (.t 32) (.t 34)), none⟩, ⟨(some 31), (.mov (.t 35)), none⟩]) (.cond (.t 31) (.seq (.ops [⟨(some 4), (.mov (.c (.int .i64 (-1)))), none⟩]) .ret) (.seq (.ops [⟨(some 37), (.mov (.t 5)), none⟩, ⟨(some 38), (.ld none (.c (.pointer (some (.mk 0 0 none))))), none⟩, ⟨(some 39), (.bin .leq (.t 37) (.t 38)), none⟩, ⟨(some 40), (.mov (.t 39)), none⟩, ⟨(some 41), (.mov (.t 0)), (some (40, true))⟩, ⟨(some 42), (.slen (.t 41)), (some (40, true))⟩, ⟨(some 43), (.bin .leq (.t 42) (.c (.int .i64 64))), (some (40, true))⟩, ⟨(some 44), (.pick (.t 40) (.t 43) (.c (.bool false))), none⟩, ⟨(some 36), (.mov (.t 44)), none⟩]) (.cond (.t 36) (.seq (.ops [⟨(some 45), (.mov (.t 0)), none⟩, ⟨(some 46), (.mov (.t 1)), none⟩, ⟨(some 47), (.xcall 44 [(.t 45), (.t 46)]), none⟩, ⟨(some 4), (.mov (.t 47)), none⟩]) .ret) .skip))))))))) (.seq (.ops [⟨(some 48), (.mov (.t 1)), none⟩, ⟨(some 49), (.pu .six [(.t 48), (.c (.int .i64 0))]), none⟩, ⟨(some 6), (.mov (.t 49)), none⟩]) (.seq (.ops [⟨(some 50), (.mov (.t 1)), none⟩, ⟨(some 51), (.pu .six [(.t 50), (.c (.int .i64 1))]), none⟩, ⟨(some 7), (.mov (.t 51)), none⟩]) (.seq (.ops [⟨(some 8), (.mov (.c (.int .i64 0))), none⟩]) (.seq (.ops [⟨(some 52), (.mov (.t 0)), none⟩, ⟨(some 53), (.slen (.t 52)), none⟩, ⟨(some 54), (.mov (.t 5)), none⟩, ⟨(some 55), (.bin .sub (.t 53) (.t 54)), none⟩, ⟨(some 56), (.bin .add (.t 55) (.c (.int .i64 1))), none⟩, ⟨(some 9), (.mov (.t 56)), none⟩]) (.seq (.ops [⟨(some 10), (.mov (.c (.int .i64 0))), none⟩]) (.seq (.block 1 (.loop (.seq (.seq (.ops [⟨(some 57), (.mov (.t 8)), none⟩, ⟨(some 58), (.mov (.t 9)), none⟩, ⟨(some 59), (.bin .lss (.t 57) (.t 58)), none⟩]) (.cond (.t 59) .skip (.exit 1))) (.block 2 (.seq (.seq (.ops [⟨(some 60), (.mov (.t 0)), none⟩, ⟨(some 61), (.mov (.t 8)), none⟩, ⟨(some 62), (.pu .six [(.t 60), (.t 61)]), none⟩, ⟨(some 63), (.mov (.t 6)), none⟩, ⟨(some 64), (.bin .neq (.t 62) (.t 63)), none⟩]) (.cond (.t 64) (.seq (.ops [⟨(some 65), (.mov (.t 0)), none⟩, ⟨(some 66), (.mov (.t 8)), none⟩, ⟨(some 67), (.bin .add (.t 66) (.c (.int .i64 1))), none⟩, ⟨(some 68), (.mov (.t 9)), none⟩, ⟨(some 69), (.pu (.scut true true) [(.t 65), (.t 67), (.t 68)]), none⟩, ⟨(some 70), (.mov (.t 6)), none⟩, ⟨(some 71), (.call 43 [(.t 69), (.t 70)]), none⟩, ⟨(some 11), (.mov (.t 71)), none⟩]) (.seq (.seq (.ops [⟨(some 72), (.mov (.t 11)), none⟩, ⟨(some 73), (.bin .lss (.t 72) (.c (.int .i64 0))), none⟩]) (.cond (.t 73) (.seq (.ops [⟨(some 4), (.mov (.c (.int .i64 (-1)))), none⟩]) .ret) .skip)) (.ops [⟨(some 74), (.mov (.t 8)), none⟩, ⟨(some 75), (.mov (.t 11)), none⟩, ⟨(some 76), (.bin .add (.t 75) (.c (.int .i64 1))), none⟩, ⟨(some 77), (.bin .add (.t 74) (.t 76)), none⟩, ⟨(some 8), (.mov (.t 77)), none⟩]))) .skip)) (.seq (.seq (.ops [⟨(some 78), (.mov (.t 0)), none⟩, ⟨(some 79), (.mov (.t 8)), none⟩, ⟨(some 80), (.bin .add (.t 79) (.c (.int .i64 1))), none⟩, ⟨(some 81), (.pu .six [(.t 78), (.t 80)]), none⟩, ⟨(some 82), (.mov (.t 7)), none⟩, ⟨(some 83), (.bin .eql (.t 81) (.t 82)), none⟩, ⟨(some 84), (.mov (.t 83)), none⟩, ⟨(some 85), (.mov (.t 0)), (some (84, true))⟩, ⟨(some 86), (.mov (.t 8)), (some (84, true))⟩, ⟨(some 87), (.mov (.t 8)), (some (84, true))⟩, ⟨(some 88), (.mov (.t 5)), (some (84, true))⟩, ⟨(some 89), (.bin .add (.t 87) (.t 88)), (some (84, true))⟩, ⟨(some 90), (.pu (.scut true true) [(.t 85), (.t 86), (.t 89)]), (some (84, true))⟩, ⟨(some 91), (.mov (.t 1)), (some (84, true))⟩, ⟨(some 92), (.bin .eql (.t 90) (.t 91)), (some (84, true))⟩, ⟨(some 93), (.pick (.t 84) (.t 92) (.c (.bool false))), none⟩]) (.cond (.t 93) (.seq (.ops [⟨(some 94), (.mov (.t 8)), none⟩, ⟨(some 4), (.mov (.t 94)), none⟩]) .ret) .skip)) (.seq (.ops [⟨(some 95), (.mov (.t 8)), none⟩, ⟨(some 96), (.bin .add (.t 95) (.c (.int .i64 1))), none⟩, ⟨(some 8), (.mov (.t 96)), none⟩]) (.seq (.ops [⟨(some 97), (.mov (.t 10)), none⟩, ⟨(some 98), (.bin .add (.t 97) (.c (.int .i64 1))), none⟩, ⟨(some 10), (.mov (.t 98)), none⟩]) (.seq (.ops [⟨(some 99), (.mov (.t 5)), none⟩, ⟨(some 100), (.ld none (.c (.pointer (some (.mk 0 0 none))))), none⟩, ⟨(some 101), (.bin .leq (.t 99) (.t 100)), none⟩, ⟨(some 102), (.mov (.t 101)), none⟩, ⟨(some 103), (.mov (.t 10)), (some (102, true))⟩, ⟨(some 104), (.mov (.t 8)), (some (102, true))⟩, ⟨(some 105), (.call 45 [(.t 104)]), (some (102, true))⟩, ⟨(some 106), (.bin .gtr (.t 103) (.t 105)), (some (102, true))⟩, ⟨(some 107), (.pick (.t 102) (.t 106) (.c (.bool false))), none⟩]) (.cond (.t 107) (.seq (.ops [⟨(some 108), (.mov (.t 0)), none⟩, ⟨(some 109), (.mov (.t 8)), none⟩, ⟨(some 110), (.pu (.scut true false) [(.t 108), (.t 109)]), none⟩, ⟨(some 111), (.mov (.t 1)), none⟩, ⟨(some 112), (.xcall 44 [(.t 110), (.t 111)]), none⟩, ⟨(some 12), (.mov (.t 112)), none⟩]) (.seq (.seq (.ops [⟨(some 113), (.mov (.t 12)), none⟩, ⟨(some 114), (.bin .geq (.t 113) (.c (.int .i64 0))), none⟩]) (.cond (.t 114) (.seq (.ops [⟨(some 115), (.mov (.t 12)), none⟩, ⟨(some 116), (.mov (.t 8)), none⟩, ⟨(some 117), (.bin .add (.t 115) (.t 116)), none⟩, ⟨(some 4), (.mov (.t 117)), none⟩]) .ret) .skip)) (.seq (.ops [⟨(some 4), (.mov (.c (.int .i64 (-1)))), none⟩]) .ret))) (.seq (.ops [⟨(some 118), (.mov (.t 5)), none⟩, ⟨(some 119), (.ld none (.c (.pointer (some (.mk 0 0 none))))), none⟩, ⟨(some 120), (.bin .gtr (.t 118) (.t 119)), none⟩, ⟨(some 121), (.mov (.t 120)), none⟩, ⟨(some 122), (.mov (.t 10)), (some (121, true))⟩, ⟨(some 123), (.mov (.t 8)), (some (121, true))⟩, ⟨(some 124), (.bin .shr (.t 123) (.c (.int .u64 4))), (some (121, true))⟩, ⟨(some 125), (.bin .add (.c (.int .i64 4)) (.t 124)), (some (121, true))⟩, ⟨(some 126), (.bin .geq (.t 122) (.t 125)), (some (121, true))⟩, ⟨(some 127), (.pick (.t 121) (.t 126) (.c (.bool false))), none⟩, ⟨(some 128), (.mov (.t 127)), none⟩, ⟨(some 129), (.mov (.t 8)), (some (128, true))⟩, ⟨(some 130), (.mov (.t 9)), (some (128, true))⟩, ⟨(some 131), (.bin .lss (.t 129) (.t 130)), (some (128, true))⟩, ⟨(some 132), (.pick (.t 128) (.t 131) (.c (.bool false))), none⟩]) (.cond (.t 132) (.seq (.ops [⟨(some 133), (.mov (.t 0)), none⟩, ⟨(some 134), (.mov (.t 8)), none⟩, ⟨(some 135), (.pu (.scut true false) [(.t 133), (.t 134)]), none⟩, ⟨(some 136), (.mov (.t 1)), none⟩, ⟨(some 137), (.call 46 [(.t 135), (.t 136)]), none⟩, ⟨(some 13), (.mov (.t 137)), none⟩]) (.seq (.seq (.ops [⟨(some 138), (.mov (.t 13)), none⟩, ⟨(some 139), (.bin .lss (.t 138) (.c (.int .i64 0))), none⟩]) (.cond (.t 139) (.seq (.ops [⟨(some 4), (.mov (.c (.int .i64 (-1)))), none⟩]) .ret) .skip)) (.seq (.ops [⟨(some 140), (.mov (.t 8)), none⟩, ⟨(some 141), (.mov (.t 13)), none⟩, ⟨(some 142), (.bin .add (.t 140) (.t 141)), none⟩, ⟨(some 4), (.mov (.t 142)), none⟩]) .ret))) .skip)))))))))))) (.seq (.ops [⟨(some 4), (.mov (.c (.int .i64 (-1)))), none⟩]) .ret))))))))))
theorem cc41 : ccode Tryd.prog (min Tryd.f41.ntmps pbase) (Tryd.f41.body.getD .skip) = some ac41 := by kernel_rfl
def ac43 : ACode := (.seq (.ops [⟨(some 4), (.mov (.c (.int .i64 0))), none⟩]) (.seq (.ops [⟨(some 5), (.mov (.t 0)), none⟩, ⟨(some 6), (.mov (.t 1)), none⟩, ⟨(some 7), (.xcall 47 [(.t 5), (.t 6)]), none⟩, ⟨(some 4), (.mov (.t 7)), none⟩]) .ret))
theorem cc43 : ccode Tryd.prog (min Tryd.f43.ntmps pbase) (Tryd.f43.body.getD .skip) = some ac43 := by kernel_rfl
end Go.Proofs.YtddlddnjchhniaaDoor
namespace Go.Proofs.YtddlddnjchhniaaDoor
open Go.Am
attribute [local irreducible] AW Outs Weak Lends Lend Sp aops atree aop1 Then Round InBlock Done
theorem l1In_spec (a b c : Int) : Sp Tryd.prog 7 [.i a, .i b, .i c] (.b (decide (b ≤ a ∧ a ≤ c))) := by
  refine spec_of Tryd.func7 rfl cc7 rfl ?_
  unfold ac7
  by_cases h : b ≤ a
  all_goals
    repeat (first | (refine step_ops ?_; (first | ((try (refine g_yes rfl ?_ ?_; (· first | rfl | assumption | (refine decide_eq_true ?_; first | assumption | omega) | (refine nt ?_; first | assumption | omega) | (simp [*]; done) | (refine decide_eq_false ?_; first | assumption | omega) | (refine nf ?_; first | assumption | omega)))); (first | (refine m_mov (by conv => lhs; whnf) ?_) | (refine m_leq rfl rfl ?_) | (refine m_geq rfl rfl ?_) | (refine m_pick_t rfl ?_ (by conv => lhs; whnf) ?_; (· first | rfl | assumption | (refine decide_eq_true ?_; first | assumption | omega) | (refine nt ?_; first | assumption | omega) | (simp [*]; done))) | (refine m_pick_f rfl ?_ (by conv => lhs; whnf) ?_; (· first | rfl | assumption | (refine decide_eq_false ?_; first | assumption | omega) | (refine nf ?_; first | assumption | omega) | (simp [*]; done))))) | (refine g_noT rfl ?_ ?_; (· first | rfl | assumption | (refine decide_eq_false ?_; first | assumption | omega) | (refine nf ?_; first | assumption | omega) | (simp [*]; done))))) | refine end_ops ?_ | refine seq_ops ?_ | refine AW_ops ?_ | refine AW_seq ?_ | refine AW_ret ?_ | refine ret_done ?_ | refine norm_then ?_ | refine ret_then ?_ | refine exit_then ?_)
    refine outs_b ?_
    simp [*]
end Go.Proofs.YtddlddnjchhniaaDoor
namespace Go.Am
variable {P : Program} {N : Nat}
/-- What such a function owes at its end: s: names. -/
def DoneH (ts : List Nat) (res : AV) (hin hout : Hp) : Exit → AS → Prop
  | .normal, s | .ret, s => ∃ g : Nat → Nat, resAV s ts = renV g res ∧ (∀ r c, hout r = some c → ∃ c0, s.hp (g r) = some c0 ∧ (c0 = renR g c ∨ (c.2 = [] ∧ c0.2 = []))) ∧ (∀ r, (hin r).isSome = true → g r = r ∧ (hout r).isSome = true) ∧
      (∀ r, (hout r).isSome = true → hin r = none → g r < pbase) ∧ (∀ r r', (hout r).isSome = true → (hout r').isSome = true → g r = g r' → r = r')
  | _, _ => False
/-- With an open end. -/
def DoneX (ts : List Nat) {ι : Type} (ok : ι → Prop) (res : ι → AV) (hin : Hp) (hout : ι → Hp) (e : Exit) (s : AS) : Prop := ∃ i, ok i ∧ DoneH ts (res i) hin (hout i) e s
/-- A call that is lent regions. -/
theorem m_callh {s : AS} {K : AS → Prop} {d : Option Nat} {f : FuncId} {args : List Opd} {asx : List AV} {hin hout hp' : Hp} {res : AV} (g : Nat → Nat) (hs : SpH P f asx hin res hout) (ha : LendsH s.hp g hin (args.map s.ev) asx) (hL : Lent s g hin hout hp' res)
    (k : K (AS.put ⟨s.tm, hp'⟩ d (renV g res))) : aop1 P true ⟨d, .call f args, none⟩ s K := .inr (.inr (.inl ⟨rfl, asx, hin, Unit, fun _ => True, fun _ => res, fun _ => hout, g, fun _ => hp', hs.toX, ha, ⟨(), trivial⟩, fun _ _ => ⟨hL, k⟩⟩))
theorem entry_leE (w : World) (phi : Nat → Option Nat) : Ctx.Le { heap := w.heap, ro := fun b => b < w.heap.size, base := w.heap.size, phi := fun _ => none, live := fun _ => false, loc := false } (ctxE w phi fun _ => none) :=
  ⟨fun b hb => ⟨⟨hb, fun r hr => by simp at hr⟩, rfl⟩, Nat.le_refl _, fun e => by simp at e, fun e => by simp at e, fun e => by simp at e⟩
/-- Nothing is lent but to be read. -/
theorem lendsH_none {hp : Hp} {f : Nat → Nat} {xs asx : List AV} (h : Lends hp xs asx) : LendsH hp f (fun _ => none) xs asx := by
  intro w0 mu N tm w phi ro vs hS hs hl
  obtain ⟨h1, h2⟩ := h w0 mu N tm w phi ro vs hS hs hl
  exact ⟨SimL.mono _ _ _ _ (entry_leE w _) h1, h2⟩
end Go.Am
namespace Go.Am
variable {P : Program} {own : Bool} {N : Nat} {s : AS} {K : AS → Prop} {d : Option Nat}
mutual
/-- Read under other names. -/
theorem simV_ren (f : Nat → Nat) (C D : Ctx) (h1 : C.heap = D.heap) (h2 : C.ro = D.ro) (hb : C.base = D.base) (h3 : C.loc = D.loc) (h4 : ∀ r, C.live r = true → C.phi r = D.phi (f r)) :
    ∀ (x : AV) (y : Value), refsV C.live x = true → SimV (renV f x) D y → SimV x C y
  | .any, _, _, _ => by simp [SimV]
  | .v x, _, _, h => by simpa [SimV, renV] using h
  | .ro fr z cs n, y, _, h => by
    simp only [SimV, renV] at h ⊢
    rw [h1, h2, hb]
    refine h.imp_right fun ⟨b, o, cap, cur, e, fz, k1, k2, k3, k4, k5, k6, k7⟩ => ⟨b, o, cap, cur, e, fz, k1, k2, k3, k4, k5, k6, ?_⟩
    exact SimL.mono _ _ _ _ ⟨fun b hb => ⟨by rw [show C.out.ro = C.ro from rfl, h2]; exact hb, by show C.heap[b]? = D.heap[b]?; rw [h1]⟩, by show C.base ≤ D.base; omega, fun e => by simp [Ctx.out] at e, fun e => by simp [Ctx.out] at e, fun e => by simp [Ctx.out] at e⟩ k7
  | .rp cs, y, _, h => by
    simp only [SimV, renV] at h ⊢
    rw [h1, h2]
    obtain ⟨b, o, cur, e, fz, k1, k2, k3, k4⟩ := h
    refine ⟨b, o, cur, e, fz, k1, k2, k3, ?_⟩
    exact SimL.mono _ _ _ _ ⟨fun b hb => ⟨by rw [show C.out.ro = C.ro from rfl, h2]; exact hb, by show C.heap[b]? = D.heap[b]?; rw [h1]⟩, by show C.base ≤ D.base; omega, fun e => by simp [Ctx.out] at e, fun e => by simp [Ctx.out] at e, fun e => by simp [Ctx.out] at e⟩ k4
  | .sl r z off n, y, hr, h => by
    simp only [SimV, renV, refsV] at h hr ⊢
    obtain ⟨k1, k2, k3⟩ := h
    refine ⟨h3.trans k1, hr, ?_⟩
    rw [h4 r hr, h1]
    exact k3
  | .pt r off, y, hr, h => by
    simp only [SimV, renV, refsV] at h hr ⊢
    obtain ⟨k1, k2, b, k3, k4⟩ := h
    exact ⟨h3.trans k1, hr, b, by rw [h4 r hr]; exact k3, by rw [h1]; exact k4⟩
  | .mp r, y, hr, h => by
    simp only [SimV, renV, refsV] at h hr ⊢
    obtain ⟨k1, k2, b, k3, k4⟩ := h
    exact ⟨h3.trans k1, hr, b, by rw [h4 r hr]; exact k3, k4⟩
  | .itr r, y, hr, h => by
    simp only [SimV, renV, refsV] at h hr ⊢
    obtain ⟨k1, k2, b, k3, k4⟩ := h
    exact ⟨h3.trans k1, hr, b, by rw [h4 r hr]; exact k3, k4⟩
  | .ob o, y, _, h => by simp [SimV, renV] at h
  | .fn g l k, y, hr, h => by
    simp only [SimV, renV, refsV] at h hr ⊢
    obtain ⟨a, b, k1, k2, k3, k4⟩ := h
    rw [renL_map, List.length_map] at k3
    exact ⟨a, b, k1, k2, k3, simL_ren f C D h1 h2 hb h3 h4 l _ hr k4⟩
  | .fu z cs n, y, _, h => by
    simp only [SimV, renV] at h ⊢
    rw [h1, h2]
    refine h.imp_right fun ⟨b, o, cur, e, fz, k1, k2, k3, k4, k5⟩ => ⟨b, o, cur, e, fz, k1, k2, k3, k4, ?_⟩
    exact SimL.mono _ _ _ _ ⟨fun b hb => ⟨by rw [show C.out.ro = C.ro from rfl, h2]; exact hb, by show C.heap[b]? = D.heap[b]?; rw [h1]⟩, by show C.base ≤ D.base; omega, fun e => by simp [Ctx.out] at e, fun e => by simp [Ctx.out] at e, fun e => by simp [Ctx.out] at e⟩ k5
  | .mit r m bm es ck, y, hr, h => by
    simp only [SimV, renV, refsV, Bool.and_eq_true] at h hr ⊢
    obtain ⟨k1, k2, ⟨b, k3, k4⟩, k5⟩ := h
    refine ⟨h3.trans k1, hr.1, ⟨b, by rw [h4 r hr.1]; exact k3, k4⟩, ?_⟩
    rcases k5 with ⟨q, hq, k6, k7⟩ | ⟨hm, k6, k7⟩
    · obtain ⟨q0, rfl, rfl⟩ := Option.map_eq_some_iff.1 hq
      have hl : C.live q0 = true := by simpa using hr.2
      exact .inl ⟨q0, rfl, hl, by rw [h4 q0 hl]; exact k7⟩
    · exact .inr ⟨by simpa using hm, by rw [h2]; exact k6, by rw [h1]; exact k7⟩
  | .rmp fr es clock, y, _, h => by
    simp only [SimV, renV] at h ⊢
    obtain ⟨b, k1, k2, k3, k4⟩ := h
    exact ⟨b, k1, by rw [h1]; exact k2, by rw [h2]; exact k3, fun e => by rw [hb]; exact k4 e⟩
  | .agg l, y, hr, h => by
    simp only [SimV, renV, refsV] at h hr ⊢
    obtain ⟨a, k1, k2, k3⟩ := h
    rw [renL_map, List.length_map] at k2
    exact ⟨a, k1, k2, simL_ren f C D h1 h2 hb h3 h4 l _ hr k3⟩
  | .tup l, y, hr, h => by
    simp only [SimV, renV, refsV] at h hr ⊢
    obtain ⟨a, k1, k2, k3⟩ := h
    rw [renL_map, List.length_map] at k2
    exact ⟨a, k1, k2, simL_ren f C D h1 h2 hb h3 h4 l _ hr k3⟩
theorem simL_ren (f : Nat → Nat) (C D : Ctx) (h1 : C.heap = D.heap) (h2 : C.ro = D.ro) (hb : C.base = D.base) (h3 : C.loc = D.loc) (h4 : ∀ r, C.live r = true → C.phi r = D.phi (f r)) :
    ∀ (l : List AV) (ys : List Value), refsL C.live l = true → SimL (renL f l) D ys → SimL l C ys
  | [], _, _, _ => by simp [SimL]
  | _ :: _, [], _, h => by simp [SimL, renL] at h
  | a :: l, y :: ys, hr, h => by
    simp only [SimL, renL, refsL, Bool.and_eq_true] at h hr ⊢
    exact ⟨simV_ren f C D h1 h2 hb h3 h4 a y hr.1 h.1, simL_ren f C D h1 h2 hb h3 h4 l ys hr.2 h.2⟩
end
theorem simL_out_any (C D : Ctx) (h1 : C.heap = D.heap) (h2 : C.ro = D.ro) (hb : C.base = D.base) (l : List AV) (ys : List Value) (h : SimL l C.out ys) : SimL l D.out ys :=
  SimL.mono _ _ _ _ ⟨fun b hb' => ⟨by rw [show D.out.ro = D.ro from rfl, ← h2]; exact hb', by show D.heap[b]? = C.heap[b]?; rw [h1]⟩, by show D.base ≤ C.base; omega, fun e => by simp [Ctx.out] at e, fun e => by simp [Ctx.out] at e, fun e => by simp [Ctx.out] at e⟩ h
/-- A region's cells under other names; one whose cells lead nowhere may be told asx one whose cells may. -/
def cellsRen (f : Nat → Nat) (c c' : Bool × List AV) : Prop := (c'.1 = true ∧ c = (true, c'.2)) ∨ (c'.1 = false ∧ (c = (false, renL f c'.2) ∨ (c'.2 = [] ∧ c.2 = []) ∨ (c = (true, c'.2) ∧ c'.2.all plainV = true)))
/-- THE RULE OF FORGETTING: the state s' tells no more than s, under the names f. -/
theorem weak_ren {s s' : AS} (f : Nat → Nat) (htm : ∀ t, s'.tm t = .any ∨ s.tm t = renV f (s'.tm t)) (hhp : ∀ r c', s'.hp r = some c' → ∃ c, s.hp (f r) = some c ∧ cellsRen f c c')
    (hinj : ∀ r r', (s'.hp r).isSome = true → (s'.hp r').isSome = true → f r = f r' → r = r') (hpb : ∀ r, (s'.hp r).isSome = true → (r < pbase ∧ f r < pbase) ∨ (pbase ≤ r ∧ f r = r))
    (href : ∀ t, refsV (fun r => (s'.hp r).isSome) (s'.tm t) = true) (hrefh : ∀ r cs, s'.hp r = some (false, cs) → refsL (fun r => (s'.hp r).isSome) cs = true) : Weak s s' := by
  intro w0 mu N a w hS
  obtain ⟨hf, phi, ro, hS⟩ := hS
  have hlive : ∀ r, (s'.hp r).isSome = true → (s.hp (f r)).isSome = true := by
    intro r hr
    obtain ⟨c, hc⟩ := Option.isSome_iff_exists.1 hr
    obtain ⟨c0, h1, _⟩ := hhp r c hc
    rw [h1]; rfl
  refine ⟨hf, fun r => phi (f r), ro, { hS with
    inj := fun r r' b h1 h2 h3 h4 => hinj r r' h1 h2 (hS.inj _ _ b (hlive r h1) (hlive r' h2) h3 h4)
    liv := fun r c hc => ?_
    tms := fun t => ?_ }⟩
  · obtain ⟨c0, h1, h2⟩ := hhp r c hc
    have hp := hpb r (by rw [hc]; rfl)
    rcases hS.liv _ _ h1 with ⟨k1, k2, k3⟩ | ⟨b, cur, e, k1, k2, k3, k4, k5⟩ | ⟨b, o, rfl, k1, k2, k0, k3, k4⟩
    case inr.inr =>
      refine .inr (.inr ⟨b, o, ?_, k1, k2, k0, k3, ?_⟩)
      · obtain ⟨fl, cs⟩ := c
        rcases h2 with ⟨h3, h4⟩ | ⟨h3, h4⟩
        · simp only at h3 h4
          rw [h3]; exact h4.symm
        · simp only at h3
          rcases h4 with h4 | ⟨_, h4⟩ | ⟨h4, h5⟩
          · cases h4
          · simp at h4
          · simp only [Prod.mk.injEq, true_and] at h4
            rw [← h4] at h5
            simp [plainV] at h5
      · rcases hp with ⟨h3, h4⟩ | ⟨h3, h4⟩
        · rcases k4 with k4 | k4
          · exact .inl ⟨h3, k4.2⟩
          · omega
        · rcases k4 with k4 | k4
          · omega
          · exact .inr ⟨h3, by rw [← h4]; exact k4.2⟩
    · refine .inl ⟨k1, ?_, fun hge => ?_⟩
      · rcases h2 with ⟨_, rfl⟩ | ⟨_, rfl | ⟨h3, _⟩ | ⟨rfl, _⟩⟩
        · exact k2
        · simp only [renL_map] at k2
          exact List.map_eq_nil_iff.1 k2
        · exact h3
        · exact k2
      · rcases hp with ⟨h3, _⟩ | ⟨_, h3⟩
        · omega
        · rw [h3] at k3; exact k3 hge
    · refine .inr (.inl ⟨b, cur, e, k1, k2, k3, ?_, ?_⟩)
      · rcases hp with ⟨h3, h4⟩ | ⟨h3, h4⟩
        · rcases k4 with k4 | k4
          · exact .inl ⟨h3, k4.2⟩
          · omega
        · rcases k4 with k4 | k4
          · omega
          · exact .inr ⟨h3, by rw [← h4]; exact k4.2⟩
      · obtain ⟨fl, cs⟩ := c
        rcases h2 with ⟨h3, h4⟩ | ⟨h3, h4⟩
        · simp only at h3 h4
          subst h3; subst h4
          simp only [SimR, if_true] at k5 ⊢
          exact simL_out_any (ctx w0 w ro phi s) (ctx w0 w ro (fun r => phi (f r)) s') rfl rfl rfl _ _ k5
        · simp only at h3 h4
          subst h3
          simp only [SimR, Bool.false_eq_true, if_false]
          rcases h4 with rfl | ⟨h5, h6⟩ | ⟨rfl, h5⟩
          · simp only [SimR, Bool.false_eq_true, if_false] at k5
            exact simL_ren f (ctx w0 w ro (fun r => phi (f r)) s') (ctx w0 w ro phi s) rfl rfl rfl rfl (fun _ _ => rfl) cs _ (hrefh r cs hc) k5
          · rw [h5]; simp [SimL]
          · simp only [SimR, if_true] at k5
            exact simL_allv h5 k5
  · rcases htm t with h1 | h1
    · rw [h1]; simp [SimV]
    · have h2 := hS.tms t
      rw [h1] at h2
      exact simV_ren f (ctx w0 w ro (fun r => phi (f r)) s') (ctx w0 w ro phi s) rfl rfl rfl rfl (fun _ _ => rfl) _ _ (href t) h2
/-- The rows of a matrix, seen from the outer slice: regions b, b + 1, .. -/
def rowsC (b : Nat) : List (List Int) → List AV
  | [] => []
  | l :: rs => .sl b 1 0 l.length :: rowsC (b + 1) rs
theorem rowsC_get (b : Nat) (rows : List (List Int)) (j : Nat) (hj : j < rows.length) : (rowsC b rows)[j]? = some (.sl (b + j) 1 0 (rows.getD j []).length) := by
  induction rows generalizing b j with
  | nil => simp at hj
  | cons l rs ih =>
    cases j with
    | zero => simp [rowsC]
    | succ j =>
      simp only [rowsC, List.getElem?_cons_succ]
      rw [ih (b + 1) j (by simpa using hj)]
      simp; omega
/-- Regions: those of h, and the rows. -/
def famH (h : Hp) (b : Nat) (rows : List (List Int)) : Hp := fun r => match h r with
  | some c => some c
  | none => if b ≤ r ∧ r < b + rows.length then some (true, (rows.getD (r - b) []).map AV.i) else none
theorem famH_row {h : Hp} {b : Nat} {rows : List (List Int)} {j : Nat} (hn : h (b + j) = none) (hj : j < rows.length) : famH h b rows (b + j) = some (true, (rows.getD j []).map AV.i) := by
  unfold famH
  rw [hn]
  simp only
  rw [if_pos ⟨by omega, by omega⟩, Nat.add_sub_cancel_left]
/-- A state with a matrix: the outer slice lies in region r0, its rows in regions b, b + 1, .. -/
def stM (l : List (Nat × AV)) (h : List (Nat × (Bool × List AV))) (r0 b : Nat) (rows : List (List Int)) : AS :=
  ⟨fun t => (look l t).getD .any, famH (look ((r0, (false, rowsC b rows)) :: h)) b rows⟩
theorem look_none {β : Type} {l : List (Nat × β)} {t : Nat} (h : ∀ p ∈ l, p.1 < t) : look l t = none := by
  induction l with
  | nil => rfl
  | cons p l ih =>
    have h1 := h p (List.mem_cons_self ..)
    have : ¬ t = p.1 := by omega
    obtain ⟨k, x⟩ := p
    simp only [look]
    rw [if_neg this]
    exact ih fun q hq => h q (List.mem_cons_of_mem _ hq)
theorem look_mem {β : Type} {l : List (Nat × β)} {t : Nat} {x : β} (h : look l t = some x) : (t, x) ∈ l := by
  induction l with
  | nil => simp [look] at h
  | cons p l ih =>
    obtain ⟨k, y⟩ := p
    simp only [look] at h
    split at h
    · rename_i e; subst e; cases h; exact List.mem_cons_self ..
    · exact List.mem_cons_of_mem _ (ih h)
theorem stM_row {l : List (Nat × AV)} {h : List (Nat × (Bool × List AV))} {r0 b : Nat} {rows : List (List Int)} (hk : ((r0, (false, rowsC b rows)) :: h).all (fun p => decide (p.1 < b)) = true) {j : Nat} (hj : j < rows.length) :
    (stM l h r0 b rows).hp (b + j) = some (true, (rows.getD j []).map AV.i) :=
  famH_row (look_none fun p hp => by have := List.all_eq_true.1 hk p hp; have := of_decide_eq_true this; omega) hj
def HasF (s : AS) (f : Nat → Nat) : List (Nat × AV) → Prop
  | [] => True
  | (t, x) :: l => s.tm t = renV f x ∧ HasF s f l
theorem look_hasF {s : AS} {f : Nat → Nat} : ∀ {l : List (Nat × AV)} {t : Nat} {x : AV}, HasF s f l → look l t = some x → s.tm t = renV f x
  | [], _, _, _, h => by simp [look] at h
  | (k, y) :: l, t, x, h, e => by
    simp only [look] at e
    split at e
    · rename_i hk; subst hk; cases e; exact h.1
    · exact look_hasF h.2 e
theorem hp_put (s : AS) (d : Option Nat) (x : AV) : (s.put d x).hp = s.hp := by cases d <;> rfl
theorem hp_mem_ne {s : AS} {q r : Nat} {c : Bool × List AV} (h : r ≠ q) : (s.mem q c).hp r = s.hp r := by simp [AS.mem, h]
theorem hp_kill_ne {s : AS} {q r : Nat} (h : r ≠ q) : (s.kill q).hp r = (s.hp r).map (killR q) := by simp [AS.kill, h]
end Go.Am
namespace Go.Am
variable {P : Program} {own : Bool} {N : Nat} {s : AS} {K : AS → Prop} {d : Option Nat}
def nbase : Nat := 8000000
/-- A matrix that is read; one of new memory that is read. -/
abbrev roM (rows : List (List Int)) : AV := .ro false 1 (rows.map ints) rows.length
theorem lend_mat {hp : Hp} {r b : Nat} {rows : List (List Int)} (hr : hp r = some (false, rowsC b rows)) (hrow : ∀ j, j < rows.length → hp (b + j) = some (true, (rows.getD j []).map AV.i)) : Lend hp (.sl r 1 0 rows.length) (roM rows) := by
  intro w0 mu N tm w phi ro v hS h
  simp only [SimV] at h ⊢
  rcases h.2.2 with ⟨h1, _, h3, h4⟩ | ⟨b', o, cap, cur, e, h1, h2, h3, h4, h5, h6, h7⟩
  · have : rows = [] := List.eq_nil_of_length_eq_zero h3
    subst this
    exact .inl ⟨rfl, rfl, none, 0, by simpa using h4, by simp⟩
  · have ho : o = 0 := by
      rcases h4 with h4 | h4
      · exact h4
      · omega
    subst ho
    rcases hS.liv r _ hr with ⟨h8, _⟩ | ⟨b2, cur', e', h8, h9, h10, h11, h12⟩ | ⟨b2, o2, h0, _⟩
    · have : phi r = some b' := h1
      rw [h8] at this; cases this
    case inr.inr => cases h0
    · have h1' : phi r = some b' := h1
      rw [h8] at h1'
      cases h1'
      have h3' : w.heap[b']? = some (.cells cur e (0, 0)) := h3
      rw [h9] at h3'
      cases h3'
      refine .inr ⟨b', 0, cap, cur, e, (0, 0), h2, h9, lt_of_get h9, by simp, h5, by simp, ?_⟩
      simp only [SimR, Bool.false_eq_true, if_false] at h12
      rw [List.drop_zero]
      refine SimL.of_get fun j a hj => ?_
      rw [List.getElem?_map, Option.map_eq_some_iff] at hj
      obtain ⟨l, hl, rfl⟩ := hj
      have hjl := (List.getElem?_eq_some_iff.1 hl).1
      have e1 : rows.getD j [] = l := by rw [List.getD_eq_getElem?_getD, hl]; rfl
      obtain ⟨y, k1, k2⟩ := h12.get (rowsC_get b rows j hjl)
      refine ⟨y, k1, ?_⟩
      rw [e1] at k2
      have hrj := hrow j hjl
      rw [e1] at hrj
      have := lend_sli (hp := hp) (r := b + j) (L := l) hrj rfl w0 mu N tm w phi ro y hS k2
      rw [SimV] at this ⊢
      exact this
theorem lend_roM {hp : Hp} {fr fr2 : Bool} {n : Nat} {rows : List (List Int)} (hn : n = rows.length) : Lend hp (.ro fr 1 (rows.map fun l => .ro fr2 1 (l.map AV.i) l.length) n) (roM rows) := by
  subst hn
  intro w0 mu N tm w phi ro v hS h
  simp only [SimV] at h ⊢
  rcases h with ⟨h1, h2, a, c, h3, _⟩ | ⟨b, o, cap, cur, e, fz, h1, h2, h3, h4, h5, _, h6⟩
  · have : rows = [] := List.eq_nil_of_length_eq_zero h1
    subst this
    exact .inl ⟨rfl, rfl, a, c, h3, by simp⟩
  · refine .inr ⟨b, o, cap, cur, e, fz, h1, h2, hS.rob b h3, by simp, h5, by simp, ?_⟩
    refine SimL.of_get fun j x hj => ?_
    rw [List.getElem?_map, Option.map_eq_some_iff] at hj
    obtain ⟨l, hl, rfl⟩ := hj
    obtain ⟨y, k1, k2⟩ := h6.get (i := j) (a := .ro fr2 1 (l.map AV.i) l.length) (by rw [List.getElem?_map, hl]; rfl)
    refine ⟨y, k1, ?_⟩
    simp only [SimV] at k2 ⊢
    rcases k2 with ⟨g1, g2, a', c', g3, _⟩ | ⟨b', o', cap', cur', e', fz', g1, g2, g3, g4, g5, _, g6⟩
    · exact .inl ⟨g1, g2, a', c', g3, by simp⟩
    · exact .inr ⟨b', o', cap', cur', e', fz', g1, g2, hS.rob b' g3, g4, g5, by simp, simL_allv (allv_ints l) g6⟩
end Go.Am
namespace Go.Am
variable {P : Program} {own : Bool} {N : Nat} {s : AS} {K : AS → Prop} {d : Option Nat}
/-- A region told otherwise, its block being what it was. -/
theorem weak_recell {s : AS} {r : Nat} {c c' : Bool × List AV} (hr : s.hp r = some c) (hne : c.2 ≠ []) (hno : ∀ o, c ≠ (true, [.ob o]))
    (h : ∀ (w0 : World) (mu : Nat → Option Nat) (N : Nat) (tm : Array Value) (w : World) (phi : Nat → Option Nat) (ro : Nat → Prop) (cur : Array Value), Sim w0 mu N s tm w phi ro → SimR c (ctx w0 w ro phi s) cur.toList → SimR c' (ctx w0 w ro phi s) cur.toList) : Weak s (s.mem r c') := by
  intro w0 mu N a w hS
  obtain ⟨hf, phi, ro, hS⟩ := hS
  rcases hS.liv r c hr with ⟨_, h2, _⟩ | ⟨b, cur, e, h1, h2, h3, h4, h5⟩ | ⟨b, o, h0, _⟩
  · exact absurd h2 hne
  case inr.inr => exact absurd h0 (hno o)
  · exact ⟨hf, phi, ro, hS.write hr h1 h2 h2 rfl (fun _ _ _ => rfl) rfl rfl rfl (Nat.le_refl _) (h w0 mu N a.tmps w phi ro cur hS h5)⟩
/-- Plain cells may be told asx cells that may lead to regions. -/
theorem weak_deep {r : Nat} {cs : List AV} (hr : s.hp r = some (true, cs)) (hne : cs ≠ []) (hpl : cs.all plainV = true) : Weak s (s.mem r (false, cs)) := by
  refine weak_recell hr hne (fun o h => by cases h; simp [plainV] at hpl) fun w0 mu N tm w phi ro cur _ h => ?_
  simp only [SimR, if_true, Bool.false_eq_true, if_false] at h ⊢
  exact simL_allv hpl h
end Go.Am
namespace Go.Am
/-- A function value bears its first arguments; what it bears, a callee may read asx it is. -/
def Bears (fl : List AV) : Prop := ∀ hp, ∀ x ∈ fl, Lend hp x x
theorem lends_bears {fl : List AV} (h : Bears fl) (hp : Hp) {xs ys : List AV} (k : Lends hp xs ys) : Lends hp (fl ++ xs) (fl ++ ys) := by
  induction fl with
  | nil => exact k
  | cons a l ih => exact lends_cons (h hp a (by simp)) (ih fun hp x hx => h hp x (by simp [hx]))
theorem lend_fn {hp : Hp} {f : FuncId} {l m : List AV} {k : Nat} (h : Lends hp l m) : Lend hp (.fn f l k) (.fn f m k) := by
  intro w0 mu N tm w phi ro v hS hv
  simp only [SimV] at hv ⊢
  obtain ⟨a, b, h1, h2, h3, h4⟩ := hv
  obtain ⟨h5, h6⟩ := h w0 mu N tm w phi ro (a.toList ++ b.toList) hS h4 (by simpa using h3)
  exact ⟨a, b, h1, h2, by simpa using h6, h5⟩
section
variable {s : AS}
theorem tm_put_ne' {d t : Nat} {x : AV} (h : t ≠ d) : (s.put (some d) x).tm t = s.tm t := by simp [AS.put, h]
theorem tm_put_none {t : Nat} {x : AV} : (s.put none x).tm t = s.tm t := rfl
theorem tm_mem {r t : Nat} {c : Bool × List AV} : (s.mem r c).tm t = s.tm t := rfl
theorem tm_kill {r t : Nat} : (s.kill r).tm t = killV r (s.tm t) := rfl
theorem tm_mv {r q t : Nat} {c : List AV} : (s.mv r q c).tm t = mvV r q (s.tm t) := rfl
theorem tm_st {l : List (Nat × AV)} {h : List (Nat × (Bool × List AV))} {t : Nat} : (st l h).tm t = (look l t).getD .any := rfl
theorem tm_en0 {a : AV} {l : List AV} : (enter0 (a :: l)).tm 0 = a := rfl
theorem tm_en1 {a b : AV} {l : List AV} : (enter0 (a :: b :: l)).tm 1 = b := rfl
theorem tm_en2 {a b c : AV} {l : List AV} : (enter0 (a :: b :: c :: l)).tm 2 = c := rfl
theorem tm_en3 {a b c d : AV} {l : List AV} : (enter0 (a :: b :: c :: d :: l)).tm 3 = d := rfl
theorem tm_en4 {a b c d e : AV} {l : List AV} : (enter0 (a :: b :: c :: d :: e :: l)).tm 4 = e := rfl
end
section
variable {f : FuncId} {fl : List AV} {k r q : Nat}
theorem kill_fn (h : ∀ r, killL r fl = fl) : killV r (.fn f fl k) = .fn f fl k := by simp only [killV, h]
theorem mv_fn (h : ∀ r, killL r fl = fl) : mvV r q (.fn f fl k) = .fn f fl k := by simp only [mvV, killV, h]
end
theorem lends_self {fl : List AV} (h : Bears fl) (hp : Hp) : Lends hp fl fl := by
  have := lends_bears h hp lends_nil
  simpa only [List.append_nil] using this
/-- A pointer to memory that nobody writes. -/
theorem lend_rp {hp : Hp} {cs : List AV} (hall : cs.all plainV = true) : Lend hp (.rp cs) (.rp cs) := by
  intro w0 mu N tm w phi ro v hS hv
  simp only [SimV] at hv ⊢
  obtain ⟨b, o, cur, e, fz, h1, h2, h3, h4⟩ := hv
  exact ⟨b, o, cur, e, fz, h1, h2, lt_of_get h2, simL_allv hall h4⟩
theorem bears_rp {cs : List AV} (h : cs.all plainV = true) : Bears [.rp cs] := by
  intro hp x hx
  rw [List.mem_singleton.1 hx]
  exact lend_rp h
/-- A pointer to a region of my own: the callee reads it. -/
theorem lend_pt {hp : Hp} {r off : Nat} {cs : List AV} (hr : hp r = some (true, cs)) (hall : cs.all plainV = true) : Lend hp (.pt r off) (.rp (cs.drop off)) := by
  intro w0 mu N tm w phi ro v hS hv
  simp only [SimV] at hv ⊢
  obtain ⟨_, _, b, h1, h2, cur, e, h3⟩ := hv
  refine ⟨b, off, cur, e, (0, 0), h2, h3, lt_of_get h3, ?_⟩
  rcases hS.liv r _ hr with ⟨k1, _⟩ | ⟨b', cur', e', k1, k2, k3, k4, k5⟩ | ⟨b', o, k0, _⟩
  · have h1' : phi r = some b := h1
    rw [k1] at h1'; cases h1'
  · have h1' : phi r = some b := h1
    rw [k1] at h1'; cases h1'
    have h3' : w.heap[b]? = some (.cells cur e (0, 0)) := h3
    rw [k2] at h3'; cases h3'
    simp only [SimR, if_true] at k5
    exact (simL_allv hall k5).drop off
  · cases k0; simp [plainV] at hall
/-- May a function value be asked of a place? It answers asx fb says. -/
structure AsksP (P : Program) (f : FuncId) (fl : List AV) (n : Nat) (fb : Nat → Nat → Bool) : Prop where
  call : Callable P f
  bears : Bears fl
  norefs : ∀ keep, refsL keep fl = true
  nokill : ∀ r, killL r fl = fl
  spec : ∀ i j, i < n → j < n → Sp P f (.agg [.i (i : Nat), .i (j : Nat)] :: fl) (.b (fb i j))
/- Boards asx texts. -/
def sgn (b : Bool) : UInt8 := if b then 35 else 46
def rowT (fb : Nat → Nat → Bool) (i k : Nat) : List UInt8 := (List.range k).map fun j => sgn (fb i j)
def bdT (fb : Nat → Nat → Bool) (n : Nat) : Nat → List UInt8
  | 0 => []
  | k + 1 => bdT fb n k ++ (if 0 < k then [47] else []) ++ rowT fb k n
theorem rowT_len (fb : Nat → Nat → Bool) (i k : Nat) : (rowT fb i k).length = k := by simp [rowT]
theorem rowT_snoc (fb : Nat → Nat → Bool) (i k : Nat) : rowT fb i (k + 1) = rowT fb i k ++ [sgn (fb i k)] := by simp [rowT, List.range_succ]
theorem bdT_len (fb : Nat → Nat → Bool) (n k : Nat) : (bdT fb n k).length ≤ k * (n + 1) := by
  induction k with
  | zero => simp [bdT]
  | succ k ih =>
    simp only [bdT, List.length_append, rowT_len]
    have : (if 0 < k then [(47 : UInt8)] else []).length ≤ 1 := by split <;> simp
    rw [Nat.add_mul, Nat.one_mul]
    omega
theorem rowT_congr {f g : Nat → Nat → Bool} {i k n : Nat} (h : ∀ i j, i < n → j < n → f i j = g i j) (hi : i < n) (hk : k ≤ n) : rowT f i k = rowT g i k :=
  List.map_congr_left fun j hj => by rw [h i j hi (by have := List.mem_range.1 hj; omega)]
theorem bdT_congr {f g : Nat → Nat → Bool} {n k : Nat} (h : ∀ i j, i < n → j < n → f i j = g i j) (hk : k ≤ n) : bdT f n k = bdT g n k := by
  induction k with
  | zero => rfl
  | succ k ih => simp only [bdT]; rw [ih (by omega), rowT_congr h (by omega) (Nat.le_refl _)]
theorem getD_memL {α : Type} {l : List α} {d : α} {m : Nat} (h : m < l.length) : l.getD m d ∈ l := by
  have : l.getD m d = l[m] := by simp [h]
  rw [this]
  exact List.getElem_mem h
/-- Is a place in a list? -/
def inB (ps : List (List Int)) (i j : Nat) : Bool := ps.any fun p => decide (p.getD 0 0 = (i : Int)) && decide (p.getD 1 0 = (j : Int))
theorem byteVs_snoc (bs : List UInt8) (b : UInt8) : byteVs (bs ++ [b]) = byteVs bs ++ [.v (.int .u8 b.toNat)] := by simp [byteVs]
end Go.Am
namespace Go.Am
variable {P : Program} {own : Bool} {d : Option Nat} {s : AS} {K : AS → Prop} {N : Nat}
section
variable {x y z : Opd} {A B : List UInt8}
theorem str_beq (A B : List UInt8) : ((⟨A.toArray⟩ : ByteArray).toList == (⟨B.toArray⟩ : ByteArray).toList) = decide (A = B) := by
  rw [ByteArray.toList_eq, ByteArray.toList_eq, Bool.eq_iff_iff]
  simp
theorem m_eqs (hx : s.ev x = str A) (hy : s.ev y = str B) (k : K (s.put d (.b (decide (A = B))))) : aop1 P own ⟨d, .bin .eql x y, none⟩ s K := by
  refine ⟨_, _, _, hx, hy, rfl, ?_⟩
  rw [str_beq]
  exact k
theorem m_neqs (hx : s.ev x = str A) (hy : s.ev y = str B) (k : K (s.put d (.b (!decide (A = B))))) : aop1 P own ⟨d, .bin .neq x y, none⟩ s K := by
  refine ⟨_, _, _, hx, hy, rfl, ?_⟩
  rw [str_beq]
  exact k
theorem m_eqk {q : IntKind} {a b : Int} (hx : s.ev x = .v (.int q a)) (hy : s.ev y = .v (.int q b)) (k : K (s.put d (.b (decide (a = b))))) : aop1 P own ⟨d, .bin .eql x y, none⟩ s K := by
  refine ⟨_, _, .bool (a == b), hx, hy, by simp [pbin], ?_⟩
  rw [show (a == b) = decide (a = b) from by rw [Bool.eq_iff_iff]; simp]
  exact k
theorem m_neqk {q : IntKind} {a b : Int} (hx : s.ev x = .v (.int q a)) (hy : s.ev y = .v (.int q b)) (k : K (s.put d (.b (decide (a ≠ b))))) : aop1 P own ⟨d, .bin .neq x y, none⟩ s K := by
  refine ⟨_, _, .bool (a != b), hx, hy, by simp [pbin], ?_⟩
  rw [show (a != b) = decide (a ≠ b) from by rw [Bool.eq_iff_iff]; simp]
  exact k
theorem bytes_extract (A : List UInt8) (l h : Nat) : (⟨A.toArray⟩ : ByteArray).extract l h = ⟨((A.drop l).take (h - l)).toArray⟩ := by
  apply ByteArray.ext
  rw [ByteArray.data_extract]
  apply Array.ext'
  rw [Array.toList_extract]
theorem m_scutb {l h : Nat} (hx : s.ev x = str A) (hl : s.ev y = .i (l : Nat)) (hh : s.ev z = .i (h : Nat)) (h1 : l ≤ h) (h2 : h ≤ A.length) (k : K (s.put d (str ((A.drop l).take (h - l))))) : aop1 P own ⟨d, .pu (.scut true true) [x, y, z], none⟩ s K :=
  m_scut_both hx hl hh h1 (by show h ≤ A.toArray.size; simpa using h2) (by rw [bytes_extract]; exact k)
theorem m_scutl {l : Nat} (hx : s.ev x = str A) (hl : s.ev y = .i (l : Nat)) (h1 : l ≤ A.length) (k : K (s.put d (str (A.drop l)))) : aop1 P own ⟨d, .pu (.scut true false) [x, y], none⟩ s K := by
  refine m_scut_lo hx hl (by show l ≤ A.toArray.size; simpa using h1) ?_
  rw [bytes_extract]
  have : (⟨A.toArray⟩ : ByteArray).size = A.length := by show A.toArray.size = _; simp
  rw [this, List.take_of_length_le (by simp)]
  exact k
theorem m_scuth {h : Nat} (hx : s.ev x = str A) (hh : s.ev y = .i (h : Nat)) (h1 : h ≤ A.length) (k : K (s.put d (str (A.take h)))) : aop1 P own ⟨d, .pu (.scut false true) [x, y], none⟩ s K := by
  refine m_scut_hi hx hh (by show h ≤ A.toArray.size; simpa using h1) ?_
  rw [bytes_extract, List.drop_zero, Nat.sub_zero]
  exact k
theorem m_xcall {f : FuncId} {fn : Func} {e : Array Value → Sem Value} {args : List Opd} {vs : List Value} {v : Value} (h1 : P.funcs[f]? = some fn) (h2 : (fn.name == "runtime.NumGoroutine") = false) (h3 : fn.body.isNone = true) (h4 : Extern.findNext fn = none) (h5 : Extern.find fn = some e)
    (h6 : args.map s.ev = vs.map AV.v) (h7 : ∀ w, (e vs.toArray).run P w = .ok v w) (k : K (s.put d (.v v))) : aop1 P own ⟨d, .xcall f args, none⟩ s K := ⟨fn, e, vs, v, h1, h2, h3, h4, h5, h6, h7, k⟩
end
theorem m_fa_rp {x : Opd} {off : Nat} {cs : List AV} (hx : s.ev x = .rp cs) (k : K (s.put d (.rp (cs.drop off)))) : aop1 P own ⟨d, .fa off x, none⟩ s K := .inr ⟨cs, hx, k⟩
theorem m_ldall_rp {x : Opd} {n : Nat} {cs : List AV} (hx : s.ev x = .rp cs) (hl : cs.length = n) (k : K (s.put d (.agg cs))) : aop1 P own ⟨d, .ld (some n) x, none⟩ s K := m_ldk_rp hx (by omega) (by rw [List.take_of_length_le (by omega)]; exact k)
/- Maps. -/
section
variable {x y i : Opd}
theorem m_mgetk {kt : TypeId} {zv : Value} {es : Array MapEntry} {clock : Nat} {kv : Value} {r : AV} {ok : Bool} (KL : WideMaps.KeyLaw P kt) (hm : MapAt s (s.ev x) es clock) (hi : exV (s.ev i) = some kv) (hk : ∃ l, keyOf P kt kv = some l) (hkeys : ∀ e ∈ es.toList, ∃ l, keyOf P kt e.key = some l)
    (h1 : ∀ e ∈ es.toList, e.key = kv → mres ok e.val true = r) (h2 : (∀ e ∈ es.toList, e.key ≠ kv) → mres ok zv false = r) (k : K (s.put d r)) : aop1 P own ⟨d, .mgetk kt zv ok x i, none⟩ s K :=
  ⟨KL, es, clock, kv, hm, hi, hk, hkeys, r, h1, h2, k⟩
theorem m_mrg {r q : Nat} {es : Array MapEntry} {clock : Nat} (hx : s.ev x = .mp q) (hne : q ≠ r) (hq : s.hp q = some (true, [.ob (.map es clock)]))
    (k : ∀ bm : Nat, K (((s.kill r).mem r (true, [.ob (.mapIter (some bm) clock #[] clock)])).put (some r) (.mit r (some q) bm #[] 0))) : aop1 P own ⟨some r, .mrg x, none⟩ s K :=
  ⟨r, rfl, .inl ⟨q, es, clock, hx, hne, hq, k⟩⟩
theorem m_mnx {r q bm ck0 since : Nat} {es0 : Array MapEntry} {seen : Array Nat} {c0 : Nat} {es : Array MapEntry} {clock : Nat} (hx : s.ev x = .mit r (some q) bm es0 ck0) (hr : s.hp r = some (true, [.ob (.mapIter (some bm) since seen c0)]))
    (hne : q ≠ r) (hq : s.hp q = some (true, [.ob (.map es clock)])) (hold : ∀ e ∈ es.toList, e.born < since) (hsc : since ≤ c0) (k1 : (∀ e ∈ es.toList, seen.contains e.born = true) → K (s.put d (.tup [.v (.bool false)])))
    (k2 : ∀ e ∈ es.toList, seen.contains e.born = false → K ((s.mem r (true, [.ob (.mapIter (some bm) since (seen.push e.born) clock)])).put d (.tup [.v (.bool true), .any, .any]))) : aop1 P own ⟨d, .mnx x, none⟩ s K :=
  ⟨r, some q, bm, es0, ck0, since, seen, c0, es, clock, hx, hr, .inl ⟨q, rfl, hne, hq⟩, hold, hsc, k1, k2⟩
theorem m_ment {r q bm ck0 since : Nat} {es0 : Array MapEntry} {seen : Array Nat} {es : Array MapEntry} {clock : Nat} {e : MapEntry} {ka va : AV} (hx : s.ev x = .mit r (some q) bm es0 ck0)
    (hr : s.hp r = some (true, [.ob (.mapIter (some bm) since (seen.push e.born) clock)])) (hne : q ≠ r) (hq : s.hp q = some (true, [.ob (.map es clock)])) (he : e ∈ es.toList) (hn : (es.toList.map (·.born)).Nodup)
    (hka : exV ka = some e.key) (hva : exV va = some e.val) (k : K (s.put d (.tup [ka, va]))) : aop1 P own ⟨d, .ment x, none⟩ s K :=
  ⟨r, some q, bm, es0, ck0, since, seen, es, clock, e, ka, va, hx, hr, .inl ⟨q, rfl, hne, hq⟩, he, hn, hka, hva, k⟩
theorem m_mdel {kt : TypeId} {r : Nat} {es : Array MapEntry} {clock : Nat} {kv : Value} (KL : WideMaps.KeyLaw P kt) (hx : s.ev x = .mp r) (hr : s.hp r = some (true, [.ob (.map es clock)])) (hi : exV (s.ev i) = some kv) (hk : ∃ l, keyOf P kt kv = some l)
    (hks : ∀ e ∈ es.toList, ∃ l, keyOf P kt e.key = some l) (k1 : ∀ (n : Nat) (e : MapEntry), es.toList[n]? = some e → e.key = kv → K ((s.mem r (true, [.ob (.map (es.eraseIdxIfInBounds n) clock)])).put d (.tup [])))
    (k2 : (∀ e ∈ es.toList, e.key ≠ kv) → K ((s.mem r (true, [.ob (.map es clock)])).put d (.tup []))) : aop1 P own ⟨d, .mdel kt x i, none⟩ s K :=
  ⟨KL, r, es, clock, kv, hx, hr, hi, hk, hks, k1, k2⟩
theorem m_mputk {kt : TypeId} {r : Nat} {es : Array MapEntry} {clock : Nat} {kv v : Value} (KL : WideMaps.KeyLaw P kt) (hx : s.ev x = .mp r) (hr : s.hp r = some (true, [.ob (.map es clock)])) (hi : exV (s.ev i) = some kv) (hy : s.ev y = .v v) (hk : ∃ l, keyOf P kt kv = some l) (hkeys : ∀ e ∈ es.toList, ∃ l, keyOf P kt e.key = some l)
    (hnew : ∀ e ∈ es.toList, e.key ≠ kv) (k : K (s.mem r (true, [.ob (.map (es.push { key := kv, val := v, born := clock }) (clock + 1))]))) : aop1 P own ⟨none, .mputk kt x i y, none⟩ s K :=
  ⟨KL, r, es, clock, kv, v, hx, hr, hi, hy, hk, hkeys, fun _n e he hk => absurd hk (hnew e (List.mem_of_getElem? he)), fun _ => k⟩
end
/-- Plain values, and maps that nobody writes. -/
def plainM : AV → Bool
  | .v _ => true
  | .rmp _ _ _ => true
  | _ => false
/-- Such a value, asx somebody else sees it. -/
def unf : AV → AV
  | .rmp _ es clock => .rmp false es clock
  | x => x
theorem simL_rmp {C D : Ctx} (hh : C.heap = D.heap) (hr : ∀ b, C.ro b → D.ro b) : ∀ {l : List AV} {ys : List Value}, l.all plainM = true → SimL l C ys → SimL (l.map unf) D ys
  | [], _, _, _ => by simp [SimL]
  | _ :: _, [], _, h => by simp [SimL] at h
  | x :: l, y :: ys, h, hs => by
    simp only [List.all_cons, Bool.and_eq_true, SimL, List.map_cons] at h hs ⊢
    refine ⟨?_, simL_rmp hh hr h.2 hs.2⟩
    cases x <;> simp [plainM] at h
    · simpa [SimV, unf] using hs.1
    · have h1 := hs.1
      simp only [SimV, unf] at h1 ⊢
      obtain ⟨b, k1, k2, k3, _⟩ := h1
      exact ⟨b, k1, by rw [← hh]; exact k2, hr b k3, fun e => by cases e⟩
theorem lend_rmp {hp : Hp} {fr : Bool} {es : Array MapEntry} {clock : Nat} : Lend hp (.rmp fr es clock) (.rmp false es clock) := by
  intro w0 mu N tm w phi ro v hS hv
  simp only [SimV] at hv ⊢
  obtain ⟨b, k1, k2, k3, _⟩ := hv
  exact ⟨b, k1, k2, lt_of_get k2, fun e => by cases e⟩
theorem ob_at' {w0 w : World} {mu : Nat → Option Nat} {tm : Array Value} {phi : Nat → Option Nat} {ro : Nat → Prop} (hS : Sim w0 mu N s tm w phi ro) {r k : Nat} {es : Array MapEntry} {clock : Nat} (hr : s.hp r = some (true, [.ob (.map es clock)])) (hk : phi r = some k) :
    w.heap[k]? = some (.map es clock) ∧ (r < pbase → Mine w0 mu k) := by
  rcases hS.liv r _ hr with ⟨h1, _⟩ | ⟨b', cur, e, h1, h2, _, _, h5⟩ | ⟨b', o, h0, h1, h2, h3, h4, h5⟩
  · rw [h1] at hk; cases hk
  · exfalso
    simp only [SimR, if_true] at h5
    cases hc : cur.toList with
    | nil => rw [hc] at h5; simp [SimL] at h5
    | cons y ys => rw [hc] at h5; simp [SimL, SimV] at h5
  · rw [h1] at hk
    cases hk
    simp only [Prod.mk.injEq, List.cons.injEq, AV.ob.injEq, and_true, true_and] at h0
    subst h0
    exact ⟨h2, fun hp => (h5.resolve_right fun h => by omega).2⟩
/-- What a callee sees of plain memory. -/
abbrev ctxAll (w : World) : Ctx := { heap := w.heap, ro := fun b => b < w.heap.size, base := w.heap.size, phi := fun _ => none, live := fun _ => false, loc := false }
theorem lend_map {hp : Hp} {r : Nat} {es : Array MapEntry} {clock : Nat} (hr : hp r = some (true, [.ob (.map es clock)])) : Lend hp (.mp r) (.rmp false es clock) := by
  intro w0 mu N tm w phi ro v hS hv
  simp only [SimV] at hv ⊢
  obtain ⟨_, _, b, k1, k2⟩ := hv
  have k3 := (ob_at' hS hr k1).1
  exact ⟨b, k2, k3, lt_of_get k3, fun e => by cases e⟩
theorem lend_aggM {hp : Hp} {l : List AV} (hall : l.all plainM = true) : Lend hp (.agg l) (.agg (l.map unf)) := by
  intro w0 mu N tm w phi ro v hS h
  simp only [SimV] at h ⊢
  obtain ⟨a, h1, h2, h3⟩ := h
  exact ⟨a, h1, by rw [h2, List.length_map], simL_rmp (C := ctx w0 w ro phi ⟨fun _ => .any, hp⟩) (D := ctxAll w) rfl (fun b hb => hS.rob b hb) hall h3⟩
theorem outs_mp {r : Nat} {es : Array MapEntry} {clock : Nat} (hp : r < pbase) (hr : s.hp r = some (true, [.ob (.map es clock)])) : Outs s (.mp r) (.rmp true es clock) := by
  intro w0 N tm w phi ro y hS h
  simp only [SimV] at h ⊢
  obtain ⟨_, _, b, k1, k2⟩ := h
  obtain ⟨k3, k4'⟩ := ob_at' hS hr k1
  have k4 : r < pbase → w0.heap.size ≤ b := fun hp => (k4' hp).resolve_right fun h => by obtain ⟨_, _, h⟩ := h; cases h
  exact ⟨b, k2, k3, ⟨k4 hp, lt_of_get k3⟩, fun _ => k4 hp⟩
theorem outs_agg2 {a b a' b' : AV} (h1 : Outs s a a') (h2 : Outs s b b') : Outs s (.agg [a, b]) (.agg [a', b']) := by
  intro w0 N tm w phi ro y hS h
  simp only [SimV] at h ⊢
  obtain ⟨ar, k1, k2, k3⟩ := h
  obtain ⟨l⟩ := ar
  match l, k2, k3 with
  | [p, q], _, k3 =>
    simp only [SimL] at k3
    exact ⟨_, k1, rfl, by simp only [SimL, and_true]; exact ⟨h1 _ _ _ _ _ _ _ hS k3.1, h2 _ _ _ _ _ _ _ hS k3.2.1⟩⟩
/-- A region's beginning is handed out. -/
theorem outs_sl_take {r z n : Nat} {cs : List AV} (hr : s.hp r = some (true, cs)) (hl : n * z ≤ cs.length) (hall : cs.all plainV = true) :
    Outs s (.sl r z 0 n) (.ro true z (cs.take (n * z)) n) := by
  intro w0 N tm w phi ro y hS hy
  simp only [SimV] at hy ⊢
  rcases hy.2.2 with ⟨h1, _, rfl, rfl⟩ | ⟨b, o, cap, cur, e, h1, rfl, h3, h4, h5, h6, h7⟩
  · left
    exact ⟨rfl, by simp, none, 0, rfl, fun _ => ⟨rfl, rfl⟩⟩
  · right
    have ho : o = 0 := by
      rcases h4 with h4 | h4
      · exact h4
      · exact absurd h4.2 (Nat.lt_irrefl _)
    subst ho
    rcases hS.liv r _ hr with ⟨h8, _⟩ | ⟨b', cur', e', h8, h9, h10, h11, h12⟩ | ⟨b', o', _, h8, h9, h10, _⟩
    · have : phi r = some b := h1
      rw [h8] at this; cases this
    case inr.inr => exact ob_not_cells h8 h9 h10 h1 h3
    · have h1' : phi r = some b := h1
      rw [h8] at h1'
      cases h1'
      have h3' : w.heap[b]? = some (.cells cur e (0, 0)) := h3
      rw [h9] at h3'
      cases h3'
      have hb : w0.heap.size ≤ b := (h11.resolve_right fun h => by cases h.2).2.resolve_right fun h => by obtain ⟨_, _, h⟩ := h; cases h
      refine ⟨b, 0, cap, cur, e, (0, 0), rfl, h9, ⟨hb, lt_of_get h9⟩, by rw [List.length_take]; omega, h5, fun _ => ⟨hb, rfl, rfl, h6, by omega⟩, ?_⟩
      simp only [SimR, if_true] at h12
      rw [List.drop_zero]
      exact (simL_allv hall h12).take _
/-- An operation, something being forgotten first. -/
theorem step_opsW {o : AOper} {l : List AOper} {s' : AS} {Q : AS → Prop} (hw : Weak s s') (h : aop1 P own o s' fun s' => aops P own l s' Q) : aops P own (o :: l) s Q := ⟨s', hw, h⟩

/- Results of which some lie in cells. -/
inductive RV where
  | t (n : Nat)
  | c (a k : Nat)
def resG1 (P : Program) : ResultVar → Option RV
  | .tmp t => some (.t t)
  | .cell a t => (shapeT P t).bind fun k => k.map fun k => .c a k
def resG (P : Program) (fn : Func) : Option (List RV) := fn.results.toList.mapM (resG1 P)
def rvOk (s : AS) : RV → AV → Prop
  | .t n, x => s.tm n = x
  | .c a k, x => ∃ r off fl cs, s.tm a = .pt r off ∧ s.hp r = some (fl, cs) ∧ off + k ≤ cs.length ∧ x = .agg ((cs.drop off).take k)
def rvsOk (s : AS) : List RV → List AV → Prop
  | [], [] => True
  | r :: rs, x :: xs => rvOk s r x ∧ rvsOk s rs xs
  | _, _ => False
def tupAV : List AV → AV
  | [x] => x
  | xs => .tup xs
def DoneG (rs : List RV) (res : AV) : Exit → AS → Prop
  | .normal, s | .ret, s => ∃ xs, rvsOk s rs xs ∧ Outs s (tupAV xs) res
  | _, _ => False
theorem rv_run {w w' : World} {mu : Nat → Option Nat} {a' : Act} {phi : Nat → Option Nat} {ro : Nat → Prop} (hS : Sim w mu N s a'.tmps w' phi ro) {r : ResultVar} {rv : RV} {x : AV} (h1 : resG1 P r = some rv) (h2 : rvOk s rv x) :
    ∃ y, (resOne a'.tmps r).run P w' = .ok y w' ∧ SimV x (ctx w w' ro phi s) y := by
  cases r with
  | tmp t =>
    simp only [resG1, Option.some.injEq] at h1
    subst h1
    simp only [rvOk] at h2
    refine ⟨_, rfl, ?_⟩
    rw [← h2]
    exact hS.tms t
  | cell a t =>
    simp only [resG1] at h1
    rw [Option.bind_eq_some_iff] at h1
    obtain ⟨k0, hk0, h1⟩ := h1
    rw [Option.map_eq_some_iff] at h1
    obtain ⟨k, rfl, rfl⟩ := h1
    obtain ⟨r, off, fl, cs, hta, hra, hle, rfl⟩ := h2
    obtain ⟨dd, i, ht, hi, hik, hdd⟩ := shapeT_some hk0
    have hv := hS.tms a
    rw [hta] at hv
    simp only [SimV] at hv
    obtain ⟨_, _, b, hb', hy, cur1, e1, hcell1⟩ := hv
    obtain ⟨cur, e0, hcell, hsim, _⟩ := hS.cell hra hb' hcell1
    have hl := hsim.list
    have hlen := hl.length_le
    simp only [Array.length_toList] at hlen
    have hcell' : w'.heap[b]? = some (.cells cur e0 (0, 0)) := hcell
    have hld : (loadVar t ⟨b, off, none⟩).run P w' = .ok (.agg ((cur.toList.drop off).take k).toArray) w' := by
      have hrun := run_load_agg (P := P) (w := w') (b := b) (off := off) ht hi hdd hcell' (by omega)
      rw [hik] at hrun
      simpa [Instr.loadAt, Instr.sureAddr] using hrun
    refine ⟨.agg ((cur.toList.drop off).take k).toArray, by simp [resOne, hy, asAddr, hld], ?_⟩
    simp only [SimV]
    refine ⟨_, rfl, by simp; omega, ?_⟩
    exact ((hl.drop off).take k).shorter k (by simp; omega)
theorem rvs_run {w w' : World} {mu : Nat → Option Nat} {a' : Act} {phi : Nat → Option Nat} {ro : Nat → Prop} (hS : Sim w mu N s a'.tmps w' phi ro) : ∀ {rs : List ResultVar} {rvs : List RV} {xs : List AV}, rs.mapM (resG1 P) = some rvs → rvsOk s rvs xs →
    ∃ ys, (rs.mapM (m := Sem) (resOne a'.tmps)).run P w' = .ok ys w' ∧ SimL xs (ctx w w' ro phi s) ys ∧ ys.length = xs.length
  | [], rvs, xs, h1, h2 => by
    simp at h1
    subst h1
    cases xs with
    | nil => exact ⟨[], by simp, by simp [SimL], rfl⟩
    | cons => exact h2.elim
  | r :: rs, rvs, xs, h1, h2 => by
    rw [List.mapM_cons] at h1
    simp only [Option.bind_eq_bind, Option.bind_eq_some_iff, Option.pure_def, Option.some.injEq] at h1
    obtain ⟨rv, g1, rvs', g2, rfl⟩ := h1
    cases xs with
    | nil => exact h2.elim
    | cons x xs =>
      obtain ⟨y, k1, k2⟩ := rv_run hS g1 h2.1
      obtain ⟨ys, k3, k4, k5⟩ := rvs_run hS g2 h2.2
      refine ⟨y :: ys, ?_, ?_, by simp [k5]⟩
      · rw [List.mapM_cons]
        simp only [Sem.run_bind, k1, Result.andThen_ok, k3, Sem.run_pure]
      · simp only [SimL]; exact ⟨k2, k4⟩
theorem specG_of {f : FuncId} {fn : Func} {code : Code} {ac : ACode} {rvs : List RV} {asx : List AV} {res : AV} (hf : P.funcs[f]? = some fn) (hb : fn.body = some code) (hc : ccode P (min fn.ntmps pbase) code = some ac) (hr : resG P fn = some rvs)
    (h : AW P (min fn.ntmps pbase) ac (enter0 asx) (DoneG rvs res)) : Sp P f asx res := by
  intro w vs hg hent
  refine calls_of_wp hf hb (wp_mono (h code hc w (fun _ => none) _ w ⟨rfl, _, _, enter0_sim hg hent⟩) fun e a' w' hA => ?_)
  obtain ⟨s', h1, hf', phi, ro, hS⟩ := hA
  have fin : (∃ xs, rvsOk s' rvs xs ∧ Outs s' (tupAV xs) res) → a'.defers = [] ∧ ∃ v, (results fn a'.tmps).run P w' = .ok v w' ∧ ∃ v', Ending.returned v = .returned v' ∧ More w w' ∧ SimV res (fresh w w') v' := by
    rintro ⟨xs, hx, ho⟩
    obtain ⟨ys, k1, k2, k3⟩ := rvs_run hS hr hx
    have hr0 : results fn a'.tmps = (do let vs ← fn.results.mapM (resOne a'.tmps); pure (if h : vs.size = 1 then vs[0] else .tuple vs)) := rfl
    have hm : (fn.results.mapM (m := Sem) (resOne a'.tmps)).run P w' = .ok ys.toArray w' := by
      rw [Array.mapM_eq_mapM_toList, Sem.run_map, k1]
      rfl
    refine ⟨hf', if h : ys.toArray.size = 1 then ys.toArray[0] else .tuple ys.toArray, ?_, _, rfl, ⟨hS.os, hS.tape, hS.output, hS.size, fun b hb => hS.kept b hb (fun r => by simp)⟩, ho w (min fn.ntmps pbase) a'.tmps w' phi ro _ hS ?_⟩
    · rw [hr0, Sem.run_bind, hm]
      simp
    · match xs, ys, k2, k3 with
      | [x], [y], k2, _ =>
        simp only [SimL] at k2
        simpa [tupAV] using k2.1
      | [], [], _, _ => simp [tupAV, SimV, SimL]
      | x :: x' :: xs, y :: y' :: ys, k2, k3 =>
        simp only [tupAV, SimV]
        refine ⟨(y :: y' :: ys).toArray, by simp, by simpa using k3, k2⟩
  cases e with
  | normal => exact fin h1
  | ret => exact fin h1
  | exit id => exact h1.elim
  | goto l => exact h1.elim
  | panic c => exact h1.elim
  | outgrown => exact h1.elim
/-- The end of a function with a struct in a variable, and one value more. -/
theorem ret_doneg2 {a k t r : Nat} {fl : Bool} {cs : List AV} {res : AV} (h1 : s.tm a = .pt r 0) (h2 : s.hp r = some (fl, cs)) (h3 : cs.length = k) (h4 : Outs s (.tup [.agg cs, s.tm t]) res) : DoneG [.c a k, .t t] res .ret s :=
  ⟨[.agg cs, s.tm t], ⟨⟨r, 0, fl, cs, h1, h2, by omega, by rw [List.drop_zero, List.take_of_length_le (by omega)]⟩, rfl, trivial⟩, h4⟩
end Go.Am
namespace Go.Am
variable {P : Program} {own : Bool} {N : Nat} {s : AS} {K : AS → Prop} {d : Option Nat}
/-- How long an exact nil is. -/
theorem m_len_nil {x : Opd} (hx : s.ev x = .v (.slice none 0 0)) (k : K (s.put d (.i (0 : Nat)))) : aop1 P own ⟨d, .len x, none⟩ s K := .inr (.inr ⟨none, 0, 0, hx, k⟩)
theorem look_isSome {β : Type} {l : List (Nat × β)} {t : Nat} : (look l t).isSome = true ↔ t ∈ l.map (·.1) := by
  induction l with
  | nil => simp [look]
  | cons p l ih =>
    obtain ⟨k, x⟩ := p
    simp only [look, List.map_cons, List.mem_cons]
    by_cases e : t = k
    · simp [e]
    · rw [if_neg e, ih]; simp [e]
theorem look_inj {g : Nat → Nat} : ∀ {l : List (Nat × (Bool × List AV))} {r r' : Nat}, (l.map fun p => g p.1).Nodup → r ∈ l.map (·.1) → r' ∈ l.map (·.1) → g r = g r' → r = r'
  | [], _, _, _, h, _, _ => by simp at h
  | (k, x) :: l, r, r', hn, h1, h2, e => by
    simp only [List.map_cons, List.nodup_cons, List.mem_cons] at hn h1 h2
    have key : ∀ q, q ∈ l.map (·.1) → g q ∈ l.map fun p => g p.1 := fun q hq => by
      obtain ⟨p, hp, rfl⟩ := List.mem_map.1 hq
      exact List.mem_map.2 ⟨p, hp, rfl⟩
    rcases h1 with rfl | h1
    · rcases h2 with rfl | h2
      · rfl
      · exact absurd (e ▸ key _ h2) hn.1
    · rcases h2 with rfl | h2
      · exact absurd (e ▸ key _ h1) hn.1
      · exact look_inj hn.2 h1 h2 e
/-- Each region of a list is there, under its name. -/
def HasI (s : AS) (g : Nat → Nat) : List (Nat × (Bool × List AV)) → Prop
  | [] => True
  | (r, c) :: l => s.hp (g r) = some (renR g c) ∧ HasI s g l
def HasO (s : AS) (g : Nat → Nat) : List (Nat × (Bool × List AV)) → Prop
  | [] => True
  | (r, c) :: l => (∃ c0, s.hp (g r) = some c0 ∧ (c0 = renR g c ∨ (c.2 = [] ∧ c0.2 = []))) ∧ HasO s g l
theorem HasI.all {g : Nat → Nat} : ∀ {l : List (Nat × (Bool × List AV))}, HasI s g l → ∀ p ∈ l, s.hp (g p.1) = some (renR g p.2)
  | [], _, _, hp => by simp at hp
  | _ :: _, h, p, hp => by
    rcases List.mem_cons.1 hp with rfl | hp
    · exact h.1
    · exact HasI.all h.2 p hp
theorem HasO.all {g : Nat → Nat} : ∀ {l : List (Nat × (Bool × List AV))}, HasO s g l → ∀ p ∈ l, ∃ c0, s.hp (g p.1) = some c0 ∧ (c0 = renR g p.2 ∨ (p.2.2 = [] ∧ c0.2 = []))
  | [], _, _, hp => by simp at hp
  | _ :: _, h, p, hp => by
    rcases List.mem_cons.1 hp with rfl | hp
    · exact h.1
    · exact HasO.all h.2 p hp
/-- Regions under other names; cells that lead nowhere stay asx they are. -/
def HasJ (s : AS) (f : Nat → Nat) : List (Nat × (Bool × List AV)) → Prop
  | [] => True
  | (r, (true, cs)) :: l => s.hp (f r) = some (true, cs) ∧ HasJ s f l
  | (r, (false, cs)) :: l => s.hp (f r) = some (false, renL f cs) ∧ HasJ s f l
theorem HasJ.at {f : Nat → Nat} : ∀ {h : List (Nat × (Bool × List AV))} {r : Nat} {c : Bool × List AV}, HasJ s f h → (r, c) ∈ h → ∃ c0, s.hp (f r) = some c0 ∧ cellsRen f c0 c
  | [], _, _, _, hm => by simp at hm
  | (k, (true, cs)) :: l, r, c, h, hm => by
    rcases List.mem_cons.1 hm with e | hm
    · cases e; exact ⟨_, h.1, .inl ⟨rfl, rfl⟩⟩
    · exact HasJ.at h.2 hm
  | (k, (false, cs)) :: l, r, c, h, hm => by
    rcases List.mem_cons.1 hm with e | hm
    · cases e; exact ⟨_, h.1, .inr ⟨rfl, .inl rfl⟩⟩
    · exact HasJ.at h.2 hm
/-- What is not told is forgotten, and what is told may get other names. -/
theorem weak_stR {l : List (Nat × AV)} {h : List (Nat × (Bool × List AV))} (f : Nat → Nat) (hl : HasF s f l) (hh : HasJ s f h) (hnd : (h.map fun p => f p.1).Nodup) (hpb : ∀ p ∈ h, (p.1 < pbase ∧ f p.1 < pbase) ∨ (pbase ≤ p.1 ∧ f p.1 = p.1))
    (hr : refsT (fun r => (look h r).isSome) l = true) (hrh : refsH (fun r => (look h r).isSome) h = true) : Weak s (st l h) := by
  refine weak_ren f (fun t => ?_) (fun r c' hc => hh.at (look_mem hc)) (fun r r' h1 h2 e => look_inj hnd (look_isSome.1 h1) (look_isSome.1 h2) e) (fun r hr' => ?_) (fun t => ?_) (fun r cs hc => ?_)
  · show (look l t).getD .any = .any ∨ s.tm t = renV f ((look l t).getD .any)
    cases hx : look l t with
    | none => exact .inl rfl
    | some x => exact .inr (look_hasF hl hx)
  · obtain ⟨p, hp, rfl⟩ := List.mem_map.1 (look_isSome.1 hr')
    exact hpb p hp
  · show refsV (fun r => (look h r).isSome) ((look l t).getD .any) = true
    cases hx : look l t with
    | none => rfl
    | some x => exact look_refs hr hx
  · have h1 : (false || refsL (fun r => (look h r).isSome) cs) = true := look_refsH hrh hc
    rw [Bool.false_or] at h1
    exact h1
end Go.Am
namespace Go.Am
variable {P : Program} {own : Bool} {N : Nat} {s : AS} {K : AS → Prop} {d : Option Nat}
/-- An unsigned integer of sixteen bits. -/
abbrev AV.u (a : Nat) : AV := .v (.int .u16 (a : Int))
theorem wrap16 {a : Nat} (h : a < 65536) : IntKind.u16.wrap (a : Int) = (a : Int) := by
  have : IntKind.u16.wrap (a : Int) = (a : Int) % 65536 := by simp [IntKind.wrap, IntKind.bits, IntKind.signed]
  omega
theorem ofInt16 {a : Nat} (h : a < 65536) : (BitVec.ofInt IntKind.u16.bits (a : Int)).toNat = a := by
  show (BitVec.ofInt 16 (a : Int)).toNat = a
  rw [BitVec.ofInt_natCast, BitVec.toNat_ofNat]
  omega
theorem and16_lt {a b : Nat} (h : a < 65536) : a &&& b < 65536 := Nat.lt_of_le_of_lt Nat.and_le_left h
theorem or16_lt {a b : Nat} (h : a < 65536) (h2 : b < 65536) : a ||| b < 65536 := Nat.or_lt_two_pow (n := 16) h h2
theorem shl16_lt {k : Nat} (h : k < 16) : 1 <<< k < 65536 := by
  rw [Nat.one_shiftLeft]
  exact Nat.pow_lt_pow_right (by decide) h
section
variable {x y : Opd} {a b k : Nat}
theorem m_shr16 (hx : s.ev x = .u a) (hy : s.ev y = .i (k : Nat)) (hk : k < 16) (kk : K (s.put d (.u (a >>> k)))) : aop1 P own ⟨d, .bin .shr x y, none⟩ s K := by
  refine ⟨_, _, _, hx, hy, ?_, kk⟩
  have h1 : ¬ ((k : Nat) : Int) < 0 := by omega
  have h2 : min ((k : Nat) : Int).toNat IntKind.u16.bits = k := by show min _ 16 = k; omega
  show (if ((k : Nat) : Int) < 0 then none else some (Value.int .u16 ((a : Int).fdiv (2 ^ (min ((k : Nat) : Int).toNat IntKind.u16.bits))))) = _
  rw [if_neg h1, h2, Nat.shiftRight_eq_div_pow]
  congr 2
  rw [Int.fdiv_eq_ediv_of_nonneg _ (by exact Int.le_of_lt (Int.pow_pos (by decide)))]
  push_cast
  rfl
theorem m_shl16 (hx : s.ev x = .u 1) (hy : s.ev y = .i (k : Nat)) (hk : k < 16) (kk : K (s.put d (.u (1 <<< k)))) : aop1 P own ⟨d, .bin .shl x y, none⟩ s K := by
  refine ⟨_, _, _, hx, hy, ?_, kk⟩
  have h1 : ¬ ((k : Nat) : Int) < 0 := by omega
  have h2 : min ((k : Nat) : Int).toNat IntKind.u16.bits = k := by show min _ 16 = k; omega
  show (if ((k : Nat) : Int) < 0 then none else some (Value.int .u16 (IntKind.u16.wrap ((1 : Int) * 2 ^ (min ((k : Nat) : Int).toNat IntKind.u16.bits))))) = _
  rw [if_neg h1, h2]
  congr 2
  have : ((1 : Int) * (2 : Int) ^ k) = ((1 <<< k : Nat) : Int) := by rw [Nat.one_shiftLeft, Int.one_mul]; push_cast; rfl
  exact (congrArg _ this).trans (wrap16 (shl16_lt hk))
theorem m_and16 (hx : s.ev x = .u a) (hy : s.ev y = .u b) (ha : a < 65536) (hb : b < 65536) (kk : K (s.put d (.u (a &&& b)))) : aop1 P own ⟨d, .bin .and x y, none⟩ s K := by
  refine ⟨_, _, _, hx, hy, ?_, kk⟩
  show some (Value.int .u16 (IntKind.u16.wrap ((BitVec.ofInt IntKind.u16.bits (a : Int) &&& BitVec.ofInt IntKind.u16.bits (b : Int)).toNat : Int))) = _
  rw [BitVec.toNat_and, ofInt16 ha, ofInt16 hb, wrap16 (and16_lt ha)]
theorem m_or16 (hx : s.ev x = .u a) (hy : s.ev y = .u b) (ha : a < 65536) (hb : b < 65536) (kk : K (s.put d (.u (a ||| b)))) : aop1 P own ⟨d, .bin .or x y, none⟩ s K := by
  refine ⟨_, _, _, hx, hy, ?_, kk⟩
  show some (Value.int .u16 (IntKind.u16.wrap ((BitVec.ofInt IntKind.u16.bits (a : Int) ||| BitVec.ofInt IntKind.u16.bits (b : Int)).toNat : Int))) = _
  rw [BitVec.toNat_or, ofInt16 ha, ofInt16 hb, wrap16 (or16_lt ha hb)]
theorem m_eql16 (hx : s.ev x = .u a) (hy : s.ev y = .u b) (kk : K (s.put d (.b (decide (a = b))))) : aop1 P own ⟨d, .bin .eql x y, none⟩ s K := by
  refine ⟨_, _, _, hx, hy, rfl, ?_⟩
  rw [show (((a : Nat) : Int) == ((b : Nat) : Int)) = decide (a = b) from by rw [Bool.eq_iff_iff]; simp; omega]
  exact kk
theorem m_and16_1 (hx : s.ev x = .u a) (hy : s.ev y = .u 1) (ha : a < 65536) (kk : K (s.put d (.u (a &&& 1)))) : aop1 P own ⟨d, .bin .and x y, none⟩ s K := m_and16 hx hy ha (by decide) kk
theorem m_eql16_1 (hx : s.ev x = .u a) (hy : s.ev y = .u 1) (kk : K (s.put d (.b (decide (a = 1))))) : aop1 P own ⟨d, .bin .eql x y, none⟩ s K := m_eql16 hx hy kk
end
theorem bit_and (a k : Nat) : decide ((a >>> k) &&& 1 = 1) = a.testBit k := by
  rw [Nat.testBit, Nat.and_comm]
  have := Nat.one_and_eq_mod_two (a >>> k)
  rcases Nat.mod_two_eq_zero_or_one (a >>> k) with h | h <;> simp [this, h]
end Go.Am
namespace Go.Am
mutual
/-- Exact values, and slices and pointers that are read, all through. -/
def readV : AV → Bool
  | .v _ => true
  | .ro fr _ cs _ => !fr && readL cs
  | .rp cs => readL cs
  | .any => false
  | .sl _ _ _ _ => false
  | .pt _ _ => false
  | .agg _ => false
  | .tup _ => false
  | .mp _ => false
  | .itr _ => false
  | .ob _ => false
  | .fn _ _ _ => false
  | .rmp _ _ _ => false
  | .fu _ _ _ => false
  | .mit _ _ _ _ _ => false
def readL : List AV → Bool
  | [] => true
  | a :: l => readV a && readL l
end
mutual
theorem SimV.read : ∀ (x : AV) (C D : Ctx) (y : Value), readV x = true → D.heap = C.heap → (∀ b, C.ro b → D.ro b) → SimV x C y → SimV x D y
  | .v _, _, _, _, _, _, _, h => by simpa only [SimV] using h
  | .ro fr z cs n, C, D, y, hr, hh, hro, h => by
    simp only [readV, Bool.and_eq_true, Bool.not_eq_true'] at hr
    simp only [SimV] at h ⊢
    rcases h with h | ⟨b, o, cap, cur, e, fz, h1, h2, h3, h4, h5, h6, h7⟩
    · exact .inl h
    · exact .inr ⟨b, o, cap, cur, e, fz, h1, by rw [hh]; exact h2, hro b h3, h4, h5, (fun e => by rw [hr.1] at e; cases e), SimL.read cs C.out D.out _ hr.2 hh hro h7⟩
  | .rp cs, C, D, y, hr, hh, hro, h => by
    simp only [readV] at hr
    simp only [SimV] at h ⊢
    obtain ⟨b, o, cur, e, fz, h1, h2, h3, h4⟩ := h
    exact ⟨b, o, cur, e, fz, h1, by rw [hh]; exact h2, hro b h3, SimL.read cs C.out D.out _ hr hh hro h4⟩
  | .any, _, _, _, hr, _, _, _ => by simp [readV] at hr
  | .sl _ _ _ _, _, _, _, hr, _, _, _ => by simp [readV] at hr
  | .pt _ _, _, _, _, hr, _, _, _ => by simp [readV] at hr
  | .agg _, _, _, _, hr, _, _, _ => by simp [readV] at hr
  | .tup _, _, _, _, hr, _, _, _ => by simp [readV] at hr
  | .mp _, _, _, _, hr, _, _, _ => by simp [readV] at hr
  | .itr _, _, _, _, hr, _, _, _ => by simp [readV] at hr
  | .ob _, _, _, _, hr, _, _, _ => by simp [readV] at hr
  | .fn _ _ _, _, _, _, hr, _, _, _ => by simp [readV] at hr
  | .rmp _ _ _, _, _, _, hr, _, _, _ => by simp [readV] at hr
  | .fu _ _ _, _, _, _, hr, _, _, _ => by simp [readV] at hr
  | .mit _ _ _ _ _, _, _, _, hr, _, _, _ => by simp [readV] at hr
theorem SimL.read : ∀ (l : List AV) (C D : Ctx) (ys : List Value), readL l = true → D.heap = C.heap → (∀ b, C.ro b → D.ro b) → SimL l C ys → SimL l D ys
  | [], _, _, _, _, _, _, _ => by simp [SimL]
  | _ :: _, _, _, [], _, _, _, h => by simp [SimL] at h
  | a :: l, C, D, y :: ys, hr, hh, hro, h => by
    simp only [readL, Bool.and_eq_true] at hr
    simp only [SimL] at h ⊢
    exact ⟨SimV.read a C D y hr.1 hh hro h.1, SimL.read l C D ys hr.2 hh hro h.2⟩
end
end Go.Am
namespace Go.Am
/-- One new map. -/
abbrev oneM (es : Array MapEntry) (ck : Nat) : List (Nat × (Bool × List AV)) := [(nbase, (true, [.ob (.map es ck)]))]
theorem spH_clone {P : Program} {f : FuncId} (h : ∀ (b : Nat) (es : Array MapEntry) (clock : Nat) (w : World), w.heap[b]? = some (.map es clock) → Calls P f #[.map (some b)] w fun e w' => e = .returned (.map (some w.heap.size)) ∧ w' = w.alloc (.map es clock))
    (es : Array MapEntry) (ck : Nat) : SpH P f [.rmp false es ck] (fun _ => none) (.mp nbase) (look (oneM es ck)) := by
  intro w vs phi _ _ _ _ hs hl
  obtain ⟨l⟩ := vs
  match l with
  | [] => simp at hl
  | _ :: _ :: _ => simp at hl
  | [a] =>
    simp only [SimL, SimV, and_true] at hs
    obtain ⟨b, rfl, hb, _, _⟩ := hs
    refine (h b es ck w hb).mono fun e w' hp => ?_
    obtain ⟨rfl, rfl⟩ := hp
    refine ⟨_, fun r => if r = nbase then some w.heap.size else none, rfl, rfl, rfl, rfl, by simp, fun r hr => by simp at hr, fun b hb _ => heap_alloc_old w _ hb, fun b cur e fz hb => ⟨cur, (heap_alloc_old w _ (lt_of_get hb)).trans hb, rfl⟩, ?_, ?_, ?_, ?_⟩
    · intro r r' b h1 h2 e1 e2
      have k1 := look_isSome.1 h1
      have k2 := look_isSome.1 h2
      simp at k1 k2
      rw [k1, k2]
    · intro r b h1 _ e1
      have e1 : (if r = nbase then some w.heap.size else none) = some b := e1
      split at e1
      · cases e1; exact Nat.le_refl _
      · cases e1
    · intro r c hc
      have hm := look_mem hc
      simp at hm
      obtain ⟨rfl, rfl⟩ := hm
      exact .inr (.inr ⟨w.heap.size, .map es ck, rfl, (if_pos rfl : (if nbase = nbase then some w.heap.size else none) = some w.heap.size), heap_alloc_new w _, rfl⟩)
    · simp only [SimV]
      exact ⟨rfl, rfl, w.heap.size, (if_pos rfl : (if nbase = nbase then some w.heap.size else none) = some w.heap.size), rfl⟩
/-- A map is cloned, into a region q. -/
theorem m_clone {P : Program} {s : AS} {K : AS → Prop} {d : Option Nat} {f : FuncId} {x : Opd} {es : Array MapEntry} {ck : Nat} (q : Nat) (hs : SpH P f [.rmp false es ck] (fun _ => none) (.mp nbase) (look (oneM es ck))) (hx : MapAt s (s.ev x) es ck)
    (hq : s.hp q = none) (hqp : q < pbase) (k : K ((s.mem q (true, [.ob (.map es ck)])).put d (.mp q))) : aop1 P true ⟨d, .call f [x], none⟩ s K := by
  have hl : Lends s.hp [s.ev x] [.rmp false es ck] := by
    rcases hx with ⟨r, h1, h2⟩ | ⟨fr, h1⟩
    · rw [h1]; exact lends_cons (lend_map h2) lends_nil
    · rw [h1]; exact lends_cons lend_rmp lends_nil
  have hg : ∀ r, ((look (oneM es ck)) r).isSome = true → r = nbase := fun r hr => by have := look_isSome.1 hr; simpa using this
  refine m_callh (hp' := (s.mem q (true, [.ob (.map es ck)])).hp) (fun _ => q) hs (lendsH_none hl) ⟨fun r c h => by simp at h, fun r r' h1 h2 _ => by rw [hg r h1, hg r' h2], fun r h => by simp at h, fun r _ _ => ⟨hq, hqp⟩, fun r c hc => ?_, fun p hp => ?_, fun r c h => by simp at h, fun r c hc => ?_, rfl⟩ k
  · have hm := look_mem hc
    simp at hm
    obtain ⟨rfl, rfl⟩ := hm
    simp [AS.mem]; rfl
  · have : p ≠ q := fun e => hp nbase rfl e.symm
    simp [AS.mem, this]
  · have hm := look_mem hc
    simp at hm
    obtain ⟨rfl, rfl⟩ := hm
    rfl
end Go.Am
namespace Go.Proofs.YtddlddnjchhniaaDoor
open Go.Am
def cloneRenP : Go.Shelf.Ren := ⟨fun | 5 => 26 | 7 => 36 | n => n, fun | 4 => 4 | 20 => 20 | 23 => 40 | 25 => 38 | 3 => 4 | n => n, fun n => n⟩
theorem cloneLayP : SlLaysW.n5 Tryd.prog cloneRenP := {
  mixed := by kernel_rfl
  f5 := ⟨Tryd.f26.name, by kernel_rfl, Tryd.func26.trans (congrArg some (by kernel_rfl))⟩
  f7 := Tryd.func36.trans (congrArg some (by kernel_rfl))
  t4 := Tryd.underlying4
  a4 := Tryd.isAgg4
  z4 := Tryd.sizeOf4
  v4 := Tryd.zeroValue4
  t20 := Tryd.underlying20
  a20 := Tryd.isAgg20
  z20 := Tryd.sizeOf20
  v20 := Tryd.zeroValue20
  t23 := Tryd.underlying40
  a23 := Tryd.isAgg40
  z23 := Tryd.sizeOf40
  v23 := Tryd.zeroValue40 }
theorem clonePlaces_spec (es : Array MapEntry) (ck : Nat) : SpH Tryd.prog 26 [.rmp false es ck] (fun _ => none) (.mp nbase) (Am.look (oneM es ck)) :=
  spH_clone (fun b es clock w hb => AnyW.maps_Clone cloneLayP b es clock w hb) es ck
def cloneRenW : Go.Shelf.Ren := ⟨fun | 5 => 27 | 7 => 36 | n => n, fun | 4 => 4 | 20 => 20 | 23 => 53 | 25 => 52 | 3 => 3 | n => n, fun n => n⟩
theorem cloneLayW : SlLaysW.n5 Tryd.prog cloneRenW := {
  mixed := by kernel_rfl
  f5 := ⟨Tryd.f27.name, by kernel_rfl, Tryd.func27.trans (congrArg some (by kernel_rfl))⟩
  f7 := Tryd.func36.trans (congrArg some (by kernel_rfl))
  t4 := Tryd.underlying4
  a4 := Tryd.isAgg4
  z4 := Tryd.sizeOf4
  v4 := Tryd.zeroValue4
  t20 := Tryd.underlying20
  a20 := Tryd.isAgg20
  z20 := Tryd.sizeOf20
  v20 := Tryd.zeroValue20
  t23 := Tryd.underlying53
  a23 := Tryd.isAgg53
  z23 := Tryd.sizeOf53
  v23 := Tryd.zeroValue53 }
theorem cloneWays_spec (es : Array MapEntry) (ck : Nat) : SpH Tryd.prog 27 [.rmp false es ck] (fun _ => none) (.mp nbase) (Am.look (oneM es ck)) :=
  spH_clone (fun b es clock w hb => AnyW.maps_Clone cloneLayW b es clock w hb) es ck
end Go.Proofs.YtddlddnjchhniaaDoor
namespace Go.Am
/-- A text cut at slashes, at most k times. -/
def splitNB : Nat → List UInt8 → List (List UInt8)
  | 0, B => [B]
  | k + 1, B => if (47 : UInt8) ∈ B then B.takeWhile (· != 47) :: splitNB k (B.drop ((B.takeWhile (· != 47)).length + 1)) else [B]
/-- A text cut at all slashes. -/
def splitB (B : List UInt8) : List (List UInt8) := splitNB (B.count 47) B
theorem takeWhile_cut {p q : List UInt8} (h : (47 : UInt8) ∉ p) : (p ++ 47 :: q).takeWhile (· != 47) = p := by
  induction p with
  | nil => simp
  | cons a p ih =>
    have h1 : a ≠ 47 := fun e => h (by simp [e])
    simp [h1, ih (fun hh => h (by simp [hh]))]
theorem splitNB_cut {p q : List UInt8} (h : (47 : UInt8) ∉ p) (k : Nat) : splitNB (k + 1) (p ++ 47 :: q) = p :: splitNB k q := by
  rw [splitNB, if_pos (by simp), takeWhile_cut h]
  congr 2
  rw [List.drop_append, List.drop_of_length_le (by omega)]
  simp
theorem splitNB_one {B : List UInt8} (h : (47 : UInt8) ∉ B) (k : Nat) : splitNB k B = [B] := by
  cases k with
  | zero => rfl
  | succ k => rw [splitNB, if_neg h]
theorem cut_at {B : List UInt8} (h : (47 : UInt8) ∈ B) : ∃ p q, (47 : UInt8) ∉ p ∧ B = p ++ 47 :: q := by
  induction B with
  | nil => simp at h
  | cons a B ih =>
    by_cases ha : a = 47
    · exact ⟨[], B, by simp, by simp [ha]⟩
    · have hm : (47 : UInt8) ∈ B := by
        rcases List.mem_cons.1 h with e | e
        · exact absurd e.symm ha
        · exact e
      obtain ⟨p, q, h1, h2⟩ := ih hm
      exact ⟨a :: p, q, by simp [h1]; exact fun e => ha e.symm, by simp [h2]⟩
theorem count_cut {p q : List UInt8} (h : (47 : UInt8) ∉ p) : (p ++ 47 :: q).count 47 = q.count 47 + 1 := by
  rw [List.count_append, List.count_eq_zero.2 h, List.count_cons_self]
  omega
theorem splitB_cut {p q : List UInt8} (h : (47 : UInt8) ∉ p) : splitB (p ++ 47 :: q) = p :: splitB q := by
  unfold splitB
  rw [count_cut h, splitNB_cut h]
theorem splitB_one {B : List UInt8} (h : (47 : UInt8) ∉ B) : splitB B = [B] := splitNB_one h _
theorem splitNB_len : ∀ (k : Nat) (B : List UInt8), (splitNB k B).length = min k (B.count 47) + 1
  | 0, B => by simp [splitNB]
  | k + 1, B => by
    by_cases h : (47 : UInt8) ∈ B
    · obtain ⟨p, q, h1, rfl⟩ := cut_at h
      rw [splitNB_cut h1, List.length_cons, splitNB_len k q, count_cut h1]
      omega
    · rw [splitNB_one h, List.count_eq_zero.2 h]
      simp
theorem splitNB_all : ∀ (k : Nat) (B : List UInt8), B.count 47 ≤ k → splitNB k B = splitB B
  | k, B, hk => by
    by_cases h : (47 : UInt8) ∈ B
    · obtain ⟨p, q, h1, rfl⟩ := cut_at h
      rw [count_cut h1] at hk
      cases k with
      | zero => omega
      | succ k => rw [splitNB_cut h1, splitB_cut h1, splitNB_all k q (by omega)]
    · rw [splitNB_one h, splitB_one h]
theorem splitB_len (B : List UInt8) : (splitB B).length = B.count 47 + 1 := by
  unfold splitB
  rw [splitNB_len]
  omega
/-- A board that is well told: asx many rows asx there are signs in each, all of them signs. -/
def GoodBd (B : List UInt8) : Prop := B.count 47 ≤ 7 ∧ ∀ r ∈ splitB B, r.length = B.count 47 + 1 ∧ ∀ c ∈ r, c = 46 ∨ c = 35
instance (B : List UInt8) : Decidable (GoodBd B) := inferInstanceAs (Decidable (_ ∧ _))
/-- The side of a board, and what is forbidden. -/
def sdB (B : List UInt8) : Nat := B.count 47 + 1
def fbB (B : List UInt8) (i j : Nat) : Bool := decide (((splitB B).getD i []).getD j 0 = 35)
theorem getD_get {α : Type} {l : List α} {d : α} {j : Nat} (h : j < l.length) : l.getD j d = l[j] := by simp [h]
theorem good_sd {B : List UInt8} (h : GoodBd B) : 1 ≤ sdB B ∧ sdB B ≤ 8 := ⟨by unfold sdB; omega, by have := h.1; unfold sdB; omega⟩
theorem indexByte_cut {p q : List UInt8} (h : (47 : UInt8) ∉ p) : Lib.indexByte (p ++ 47 :: q) 47 = p.length := by
  induction p with
  | nil => simp [Lib.indexByte]
  | cons a p ih =>
    have h1 : (a == 47) = false := by
      rw [beq_eq_false_iff_ne]
      exact fun e => h (by simp [e])
    have h2 := ih (fun hh => h (by simp [hh]))
    rw [List.cons_append, Lib.indexByte, h1, h2]
    have : ((p.length : Int) == -1) = false := by
      rw [beq_eq_false_iff_ne]; omega
    simp [this]
theorem indexByte_none {B : List UInt8} (h : (47 : UInt8) ∉ B) : Lib.indexByte B 47 = -1 := by
  induction B with
  | nil => rfl
  | cons a p ih =>
    have h1 : (a == 47) = false := by
      rw [beq_eq_false_iff_ne]
      exact fun e => h (by simp [e])
    rw [Lib.indexByte, h1, ih (fun hh => h (by simp [hh]))]
    rfl

/- The forbidden places asx a map's entries. -/
def keyP (a b : Int) : Value := .agg #[.int .i64 a, .int .i64 b]
theorem keyP_inj {a b c d : Int} (h : keyP a b = keyP c d) : a = c ∧ b = d := by
  simp only [keyP, Value.agg.injEq, Array.mk.injEq, List.cons.injEq, Value.int.injEq, true_and, and_true] at h
  exact h
def entP (p : Nat × Nat) (born : Nat) : MapEntry := { key := keyP p.1 p.2, val := .bool true, born }
def mkEsL : Nat → List (Nat × Nat) → List MapEntry
  | _, [] => []
  | c, p :: l => entP p c :: mkEsL (c + 1) l
def mkEs (l : List (Nat × Nat)) : Array MapEntry := (mkEsL 0 l).toArray
theorem mkEsL_snoc (l : List (Nat × Nat)) (p : Nat × Nat) : ∀ c, mkEsL c (l ++ [p]) = mkEsL c l ++ [entP p (c + l.length)] := by
  induction l with
  | nil => intro c; simp [mkEsL]
  | cons a l ih => intro c; rw [List.cons_append, mkEsL, mkEsL, ih, List.length_cons, show c + 1 + l.length = c + (l.length + 1) by omega]; rfl
theorem mkEs_push (l : List (Nat × Nat)) (p : Nat × Nat) : (mkEs l).push { key := keyP p.1 p.2, val := .bool true, born := l.length } = mkEs (l ++ [p]) := by
  unfold mkEs
  rw [mkEsL_snoc, Nat.zero_add]
  simp [entP]
theorem mem_mkEsL {l : List (Nat × Nat)} {e : MapEntry} : ∀ {c}, e ∈ mkEsL c l → ∃ p ∈ l, e.key = keyP p.1 p.2 ∧ e.val = .bool true := by
  induction l with
  | nil => intro c h; simp [mkEsL] at h
  | cons a l ih =>
    intro c h
    simp only [mkEsL, List.mem_cons] at h
    rcases h with rfl | h
    · exact ⟨a, by simp, rfl, rfl⟩
    · obtain ⟨p, h1, h2⟩ := ih h
      exact ⟨p, by simp [h1], h2⟩
theorem mem_mkEs {l : List (Nat × Nat)} {e : MapEntry} (h : e ∈ (mkEs l).toList) : ∃ p ∈ l, e.key = keyP p.1 p.2 ∧ e.val = .bool true := mem_mkEsL (c := 0) (by simpa [mkEs] using h)
/-- The forbidden places of the first rows, and of a row's beginning. -/
def rowP (fb : Nat → Nat → Bool) (i k : Nat) : List (Nat × Nat) := ((List.range k).filter fun j => fb i j).map fun j => (i, j)
def posP (fb : Nat → Nat → Bool) (n : Nat) : Nat → List (Nat × Nat)
  | 0 => []
  | k + 1 => posP fb n k ++ rowP fb k n
theorem rowP_snoc (fb : Nat → Nat → Bool) (i k : Nat) : rowP fb i (k + 1) = rowP fb i k ++ (if fb i k then [(i, k)] else []) := by
  simp only [rowP, List.range_succ, List.filter_append, List.map_append, List.filter_cons, List.filter_nil]
  split <;> simp
theorem mem_rowP {fb : Nat → Nat → Bool} {i k : Nat} {p : Nat × Nat} : p ∈ rowP fb i k ↔ p.1 = i ∧ p.2 < k ∧ fb i p.2 = true := by
  simp only [rowP, List.mem_map, List.mem_filter, List.mem_range]
  constructor
  · rintro ⟨j, ⟨h1, h2⟩, rfl⟩; exact ⟨rfl, h1, h2⟩
  · rintro ⟨h1, h2, h3⟩; exact ⟨p.2, ⟨h2, h3⟩, by rw [← h1]⟩
theorem mem_posP {fb : Nat → Nat → Bool} {n : Nat} {p : Nat × Nat} : ∀ {k}, p ∈ posP fb n k ↔ p.1 < k ∧ p.2 < n ∧ fb p.1 p.2 = true
  | 0 => by simp [posP]
  | k + 1 => by
    simp only [posP, List.mem_append, mem_posP (k := k), mem_rowP]
    constructor
    · rintro (⟨h1, h2, h3⟩ | ⟨h1, h2, h3⟩)
      · exact ⟨by omega, h2, h3⟩
      · exact ⟨by omega, h2, by rw [h1]; exact h3⟩
    · rintro ⟨h1, h2, h3⟩
      by_cases h : p.1 = k
      · exact .inr ⟨h, h2, by rw [← h]; exact h3⟩
      · exact .inl ⟨by omega, h2, h3⟩
end Go.Am
namespace Go.Proofs.YtddlddnjchhniaaDoor
open Go.Am
attribute [local irreducible] AW Outs Weak Lends Lend Sp aops atree aop1 Then Round InBlock Done
theorem indexByte_spec (B : List UInt8) : Sp Tryd.prog 43 [str B, .v (.int .u8 47)] (.i (Lib.indexByte B 47)) := by
  refine spec_of Tryd.func43 rfl cc43 rfl ?_
  unfold ac43
  repeat (first | (refine step_ops ?_; (refine m_mov (by conv => lhs; whnf) ?_)) | refine end_ops ?_ | refine seq_ops ?_ | refine AW_ops ?_ | refine AW_seq ?_ | refine AW_ret ?_ | refine ret_done ?_ | refine norm_then ?_ | refine ret_then ?_ | refine exit_then ?_)
  refine step_ops ?_
  refine m_xcall (vs := [.string ⟨B.toArray⟩, .int .u8 47]) (e := Extern.BytealgIndexByte.indexByte) Tryd.func47 (by kernel_rfl) (by kernel_rfl) (by kernel_rfl) (by kernel_rfl) rfl (fun w => Lib.run_indexByteString _ _ _) ?_
  repeat (first | (refine step_ops ?_; (refine m_mov (by conv => lhs; whnf) ?_)) | refine end_ops ?_ | refine seq_ops ?_ | refine AW_ops ?_ | refine AW_seq ?_ | refine AW_ret ?_ | refine ret_done ?_ | refine norm_then ?_ | refine ret_then ?_ | refine exit_then ?_)
  exact outs_i rfl
theorem index_spec (B : List UInt8) (hB : B.length ≤ 1048576) : Sp Tryd.prog 41 [str B, str [47]] (.i (Lib.indexByte B 47)) := by
  refine spec_of Tryd.func41 rfl cc41 rfl ?_
  unfold ac41
  by_cases h : ([47] : List UInt8) = B
  · subst h
    repeat (first | (refine step_ops ?_; (first | ((try (refine g_yes rfl ?_ ?_; (· first | rfl | assumption | (refine decide_eq_true ?_; first | assumption | omega) | (refine nt ?_; first | assumption | omega) | (simp [*]; done) | (refine decide_eq_false ?_; first | assumption | omega) | (refine nf ?_; first | assumption | omega)))); (first | (refine m_mov (by conv => lhs; whnf) ?_) | (refine m_lss rfl rfl ?_) | (refine m_leq rfl rfl ?_) | (refine m_gtr rfl rfl ?_) | (refine m_geq rfl rfl ?_) | (refine m_eql rfl rfl ?_) | (refine m_eqk rfl rfl ?_) | (refine m_eqs rfl rfl ?_) | (refine m_neq rfl rfl ?_) | (refine m_neqk rfl rfl ?_) | (refine m_neqs_self rfl rfl ?_) | (refine m_neqs rfl rfl ?_) | (refine m_add rfl rfl ?_ ?_ ?_; (· omega); (· omega)) | (refine m_adds rfl rfl ?_ ?_; (· first | omega | (simp; omega))) | (refine m_sub rfl rfl ?_ ?_ ?_; (· omega); (· omega)) | (refine m_scutb rfl rfl rfl ?_ ?_ ?_; (· omega); (· first | omega | (simp; omega))) | (refine m_scutl rfl rfl ?_ ?_; (· first | omega | (simp; omega))) | (refine m_slen rfl ?_) | (refine m_six' rfl rfl ?_ ?_; (· first | omega | (simp; omega))) | (refine m_ld_rpi rfl ?_ ?_; (· omega)) | (refine m_ld_pti rfl (by rfl) ?_ ?_; (· first | omega | (simp; omega))) | (apply m_ld_ptb; (· rfl); (· rfl); (· assumption)) | (apply m_ld_rp; (· rfl); (· rfl)) | (apply m_ld_pt; (· rfl); (· rfl); (· rfl)) | (refine m_pick_t rfl ?_ (by conv => lhs; whnf) ?_; (· first | rfl | assumption | (refine decide_eq_true ?_; first | assumption | omega) | (refine nt ?_; first | assumption | omega) | (simp [*]; done))) | (refine m_pick_f rfl ?_ (by conv => lhs; whnf) ?_; (· first | rfl | assumption | (refine decide_eq_false ?_; first | assumption | omega) | (refine nf ?_; first | assumption | omega) | (simp [*]; done))))) | (refine g_noF rfl ?_ ?_; (· first | rfl | assumption | (refine decide_eq_true ?_; first | assumption | omega) | (refine nt ?_; first | assumption | omega) | (simp [*]; done))) | (refine g_noT rfl ?_ ?_; (· first | rfl | assumption | (refine decide_eq_false ?_; first | assumption | omega) | (refine nf ?_; first | assumption | omega) | (simp [*]; done))))) | refine end_ops ?_ | refine seq_ops ?_ | refine AW_ops ?_ | (refine cond_t rfl ?_ ?_; (· first | rfl | assumption | (refine decide_eq_true ?_; first | assumption | omega) | (refine nt ?_; first | assumption | omega) | (simp [*]; done))) | (refine cond_f rfl ?_ ?_; (· first | rfl | assumption | (refine decide_eq_false ?_; first | assumption | omega) | (refine nf ?_; first | assumption | omega) | (simp [*]; done))) | refine skip_then ?_ | refine AW_seq ?_ | refine AW_ret ?_ | refine ret_done ?_ | refine norm_then ?_ | refine ret_then ?_ | refine exit_then ?_ | refine AW_block ?_ | refine norm_block ?_ | refine ret_block ?_ | refine ret_round ?_ | refine exit_round ?_ | refine AW_exit ?_ | refine exit_block ?_ | (refine exit_other ?_ ?_; (· decide)) | refine AW_skip ?_)
    exact outs_i rfl
  · repeat (first | (refine step_ops ?_; (first | ((try (refine g_yes rfl ?_ ?_; (· first | rfl | assumption | (refine decide_eq_true ?_; first | assumption | omega) | (refine nt ?_; first | assumption | omega) | (simp [*]; done) | (refine decide_eq_false ?_; first | assumption | omega) | (refine nf ?_; first | assumption | omega)))); (first | (refine m_mov (by conv => lhs; whnf) ?_) | (refine m_lss rfl rfl ?_) | (refine m_leq rfl rfl ?_) | (refine m_gtr rfl rfl ?_) | (refine m_geq rfl rfl ?_) | (refine m_eql rfl rfl ?_) | (refine m_eqk rfl rfl ?_) | (refine m_eqs rfl rfl ?_) | (refine m_neq rfl rfl ?_) | (refine m_neqk rfl rfl ?_) | (refine m_neqs_self rfl rfl ?_) | (refine m_neqs rfl rfl ?_) | (refine m_add rfl rfl ?_ ?_ ?_; (· omega); (· omega)) | (refine m_adds rfl rfl ?_ ?_; (· first | omega | (simp; omega))) | (refine m_sub rfl rfl ?_ ?_ ?_; (· omega); (· omega)) | (refine m_scutb rfl rfl rfl ?_ ?_ ?_; (· omega); (· first | omega | (simp; omega))) | (refine m_scutl rfl rfl ?_ ?_; (· first | omega | (simp; omega))) | (refine m_slen rfl ?_) | (refine m_six' rfl rfl ?_ ?_; (· first | omega | (simp; omega))) | (refine m_ld_rpi rfl ?_ ?_; (· omega)) | (refine m_ld_pti rfl (by rfl) ?_ ?_; (· first | omega | (simp; omega))) | (apply m_ld_ptb; (· rfl); (· rfl); (· assumption)) | (apply m_ld_rp; (· rfl); (· rfl)) | (apply m_ld_pt; (· rfl); (· rfl); (· rfl)) | (refine m_pick_t rfl ?_ (by conv => lhs; whnf) ?_; (· first | rfl | assumption | (refine decide_eq_true ?_; first | assumption | omega) | (refine nt ?_; first | assumption | omega) | (simp [*]; done))) | (refine m_pick_f rfl ?_ (by conv => lhs; whnf) ?_; (· first | rfl | assumption | (refine decide_eq_false ?_; first | assumption | omega) | (refine nf ?_; first | assumption | omega) | (simp [*]; done))))) | (refine g_noF rfl ?_ ?_; (· first | rfl | assumption | (refine decide_eq_true ?_; first | assumption | omega) | (refine nt ?_; first | assumption | omega) | (simp [*]; done))) | (refine g_noT rfl ?_ ?_; (· first | rfl | assumption | (refine decide_eq_false ?_; first | assumption | omega) | (refine nf ?_; first | assumption | omega) | (simp [*]; done))))) | refine end_ops ?_ | refine seq_ops ?_ | refine AW_ops ?_ | (refine cond_t rfl ?_ ?_; (· first | rfl | assumption | (refine decide_eq_true ?_; first | assumption | omega) | (refine nt ?_; first | assumption | omega) | (simp [*]; done))) | (refine cond_f rfl ?_ ?_; (· first | rfl | assumption | (refine decide_eq_false ?_; first | assumption | omega) | (refine nf ?_; first | assumption | omega) | (simp [*]; done))) | refine skip_then ?_ | refine AW_seq ?_ | refine AW_ret ?_ | refine ret_done ?_ | refine norm_then ?_ | refine ret_then ?_ | refine exit_then ?_ | refine AW_block ?_ | refine norm_block ?_ | refine ret_block ?_ | refine ret_round ?_ | refine exit_round ?_ | refine AW_exit ?_ | refine exit_block ?_ | (refine exit_other ?_ ?_; (· decide)) | refine AW_skip ?_)
    refine step_ops ?_
    refine m_six' (j := 0) rfl rfl (by decide) ?_
    refine step_ops ?_
    refine m_call (indexByte_spec B) ?_ ?_
    · exact lends_cons lend_v (lends_cons lend_v lends_nil)
    repeat (first | (refine step_ops ?_; (first | ((try (refine g_yes rfl ?_ ?_; (· first | rfl | assumption | (refine decide_eq_true ?_; first | assumption | omega) | (refine nt ?_; first | assumption | omega) | (simp [*]; done) | (refine decide_eq_false ?_; first | assumption | omega) | (refine nf ?_; first | assumption | omega)))); (first | (refine m_mov (by conv => lhs; whnf) ?_) | (refine m_lss rfl rfl ?_) | (refine m_leq rfl rfl ?_) | (refine m_gtr rfl rfl ?_) | (refine m_geq rfl rfl ?_) | (refine m_eql rfl rfl ?_) | (refine m_eqk rfl rfl ?_) | (refine m_eqs rfl rfl ?_) | (refine m_neq rfl rfl ?_) | (refine m_neqk rfl rfl ?_) | (refine m_neqs_self rfl rfl ?_) | (refine m_neqs rfl rfl ?_) | (refine m_add rfl rfl ?_ ?_ ?_; (· omega); (· omega)) | (refine m_adds rfl rfl ?_ ?_; (· first | omega | (simp; omega))) | (refine m_sub rfl rfl ?_ ?_ ?_; (· omega); (· omega)) | (refine m_scutb rfl rfl rfl ?_ ?_ ?_; (· omega); (· first | omega | (simp; omega))) | (refine m_scutl rfl rfl ?_ ?_; (· first | omega | (simp; omega))) | (refine m_slen rfl ?_) | (refine m_six' rfl rfl ?_ ?_; (· first | omega | (simp; omega))) | (refine m_ld_rpi rfl ?_ ?_; (· omega)) | (refine m_ld_pti rfl (by rfl) ?_ ?_; (· first | omega | (simp; omega))) | (apply m_ld_ptb; (· rfl); (· rfl); (· assumption)) | (apply m_ld_rp; (· rfl); (· rfl)) | (apply m_ld_pt; (· rfl); (· rfl); (· rfl)) | (refine m_pick_t rfl ?_ (by conv => lhs; whnf) ?_; (· first | rfl | assumption | (refine decide_eq_true ?_; first | assumption | omega) | (refine nt ?_; first | assumption | omega) | (simp [*]; done))) | (refine m_pick_f rfl ?_ (by conv => lhs; whnf) ?_; (· first | rfl | assumption | (refine decide_eq_false ?_; first | assumption | omega) | (refine nf ?_; first | assumption | omega) | (simp [*]; done))))) | (refine g_noF rfl ?_ ?_; (· first | rfl | assumption | (refine decide_eq_true ?_; first | assumption | omega) | (refine nt ?_; first | assumption | omega) | (simp [*]; done))) | (refine g_noT rfl ?_ ?_; (· first | rfl | assumption | (refine decide_eq_false ?_; first | assumption | omega) | (refine nf ?_; first | assumption | omega) | (simp [*]; done))))) | refine end_ops ?_ | refine seq_ops ?_ | refine AW_ops ?_ | (refine cond_t rfl ?_ ?_; (· first | rfl | assumption | (refine decide_eq_true ?_; first | assumption | omega) | (refine nt ?_; first | assumption | omega) | (simp [*]; done))) | (refine cond_f rfl ?_ ?_; (· first | rfl | assumption | (refine decide_eq_false ?_; first | assumption | omega) | (refine nf ?_; first | assumption | omega) | (simp [*]; done))) | refine skip_then ?_ | refine AW_seq ?_ | refine AW_ret ?_ | refine ret_done ?_ | refine norm_then ?_ | refine ret_then ?_ | refine exit_then ?_ | refine AW_block ?_ | refine norm_block ?_ | refine ret_block ?_ | refine ret_round ?_ | refine exit_round ?_ | refine AW_exit ?_ | refine exit_block ?_ | (refine exit_other ?_ ?_; (· decide)) | refine AW_skip ?_)
    exact outs_i rfl
theorem stringsIndex_spec (B : List UInt8) (hB : B.length ≤ 1048576) : Sp Tryd.prog 35 [str B, str [47]] (.i (Lib.indexByte B 47)) := by
  refine spec_of Tryd.func35 rfl cc35 rfl ?_
  unfold ac35
  repeat (first | (refine step_ops ?_; (refine m_mov (by conv => lhs; whnf) ?_)) | refine end_ops ?_ | refine seq_ops ?_ | refine AW_ops ?_ | refine AW_seq ?_ | refine AW_ret ?_ | refine ret_done ?_ | refine norm_then ?_ | refine ret_then ?_ | refine exit_then ?_)
  (refine step_ops ?_); (apply m_call (index_spec B hB)); (· repeat (first | exact lends_nil | (refine lends_cons ?_ ?_; (· (first | exact lend_v | (refine lend_roM rfl; done) | (refine lend_mat rfl ?_; intro j hj; simp (disch := first | omega | assumption) only [hp_put, hp_mem_ne, hp_kill_ne]; first | exact stM_row rfl hj | (rw [stM_row rfl hj]; rfl)) | (refine lend_ints ?_; first | rfl | omega) | (refine lend_sli (by rfl) ?_; first | rfl | omega | (simp; done)) | (refine lend_pln rfl; done) | (refine lend_plns rfl rfl; done) | (refine lend_txr rfl; done) | (refine lend_txs rfl rfl; done) | exact lend_any | (refine lend_agg ?_; first | rfl | assumption | (simp [plainV]; done)))))))
  repeat (first | (refine step_ops ?_; (refine m_mov (by conv => lhs; whnf) ?_)) | refine end_ops ?_ | refine seq_ops ?_ | refine AW_ops ?_ | refine AW_seq ?_ | refine AW_ret ?_ | refine ret_done ?_ | refine norm_then ?_ | refine ret_then ?_ | refine exit_then ?_)
  exact outs_i rfl
/-- Texts asx values. -/
def strs (l : List (List UInt8)) : List AV := l.map fun r => str r
theorem strs_len (l : List (List UInt8)) : (strs l).length = l.length := by simp [strs]
theorem strs_plain (l : List (List UInt8)) : (strs l).all plainV = true := by simp [strs, plainV]
/-- What a cut has made so far: the pieces, and nothing behind them. -/
def cutC (done : List (List UInt8)) (m : Nat) : List AV := strs done ++ List.replicate (m - done.length) (str [])
theorem cutC_len (done : List (List UInt8)) (m : Nat) (h : done.length ≤ m) : (cutC done m).length = m := by
  simp [cutC, strs_len]; omega
theorem cutC_set (done : List (List UInt8)) (p : List UInt8) (m : Nat) (h : done.length < m) : (cutC done m).set done.length (str p) = cutC (done ++ [p]) m := by
  obtain ⟨j, hj⟩ : ∃ j, m - done.length = j + 1 := ⟨m - done.length - 1, by omega⟩
  have hj2 : m - (done ++ [p]).length = j := by simp; omega
  unfold cutC
  rw [hj, hj2, List.set_append_right _ _ (by simp [strs_len]), strs_len, Nat.sub_self, List.replicate_succ, List.set_cons_zero]
  simp [strs]
theorem flat_ones {α : Type} (x : α) : ∀ n, (List.replicate n [x]).flatten = List.replicate n x
  | 0 => rfl
  | n + 1 => by rw [List.replicate_succ, List.flatten_cons, flat_ones x n]; rfl
theorem cutC_take (done : List (List UInt8)) (m : Nat) : (cutC done m).take done.length = strs done := by
  unfold cutC
  rw [List.take_append_of_le_length (by simp [strs_len]), List.take_of_length_le (by simp [strs_len])]
theorem splitNB_min (B : List UInt8) : splitNB (min 8 B.length) B = splitNB 8 B := by
  rcases Nat.le_total 8 B.length with h | h
  · rw [Nat.min_eq_left h]
  · have hc : B.count 47 ≤ B.length := List.count_le_length
    rw [Nat.min_eq_right h, splitNB_all _ _ hc, splitNB_all _ _ (by omega)]
theorem genSplit_spec (B : List UInt8) (hB : B.length ≤ 1048576) : Sp Tryd.prog 25 [str B, str [47], .i 0, .i 9] (.ro true 1 (strs (splitNB 8 B)) (splitNB 8 B).length) := by
  obtain ⟨m, hm⟩ : ∃ m, m = min 8 B.length := ⟨_, rfl⟩
  have hmi : (if ((B.length : Int)) + 1 < 9 then ((B.length : Int)) + 1 else 9) = ((m + 1 : Nat) : Int) := by split <;> omega
  have hr0 : splitNB m B = splitNB 8 B := by rw [hm]; exact splitNB_min B
  rw [← hr0]
  refine spec_of Tryd.func25 rfl cc25 rfl ?_
  unfold ac25
  repeat (first | (refine step_ops ?_; (first | (refine m_mov (by conv => lhs; whnf) ?_) | (refine m_lss rfl rfl ?_) | (refine m_eql rfl rfl ?_) | (refine m_eqk rfl rfl ?_) | (refine m_eqs rfl rfl ?_) | (refine m_add rfl rfl ?_ ?_ ?_; (· omega); (· omega)) | (refine m_adds rfl rfl ?_ ?_; (· first | omega | (simp; omega))) | (refine m_sub rfl rfl ?_ ?_ ?_; (· omega); (· omega)) | (refine m_scutl rfl rfl ?_ ?_; (· first | omega | (simp; omega))) | (refine m_scuth rfl rfl ?_ ?_; (· first | omega | (simp; omega))) | (refine m_slen rfl ?_) | (refine m_idx1_ro rfl rfl ?_ ?_; (· omega)) | (refine m_idx1_sl rfl rfl ?_ ?_; (· omega)) | (apply m_idx1_slj; (· rfl); (· rfl); (· assumption); (· omega)) | (apply m_idx1_roj; (· rfl); (· rfl); (· assumption); (· omega)) | (refine m_idx_ro rfl rfl ?_ ?_ ?_; (· omega); (· omega)) | (refine m_idx_sl rfl rfl ?_ ?_ ?_; (· omega); (· omega)) | (apply m_st; (· rfl); (· rfl); (· rfl); (· first | omega | (simp; done) | (simp; omega)); (· rfl)) | (refine m_cut_hi rfl rfl ?_ ?_ ?_; (· first | rfl | omega | simp); (· first | omega | (simp; omega))) | (refine m_cut_lo rfl rfl ?_ ?_ ?_; (· first | rfl | omega | simp); (· first | omega | (simp; omega))) | (refine m_nils ?_) | (refine m_min rfl rfl ?_) | (refine m_stall rfl rfl rfl ?_ ?_ ?_ ?_; (· first | rfl | (simp [*]; done)); (· first | rfl | (simp [*]; done)); (· first | rfl | (simp [cellOk, Value.oneCell']; done))))) | refine end_ops ?_ | refine seq_ops ?_ | refine AW_ops ?_ | (refine cond_t rfl ?_ ?_; (· first | rfl | assumption | (refine decide_eq_true ?_; first | assumption | omega) | (refine nt ?_; first | assumption | omega) | (simp [*]; done))) | (refine cond_f rfl ?_ ?_; (· first | rfl | assumption | (refine decide_eq_false ?_; first | assumption | omega) | (refine nf ?_; first | assumption | omega) | (simp [*]; done))) | refine skip_then ?_ | refine AW_seq ?_ | refine AW_ret ?_ | refine ret_done ?_ | refine norm_then ?_ | refine ret_then ?_ | refine exit_then ?_ | refine AW_block ?_ | refine norm_block ?_ | refine ret_block ?_ | refine ret_round ?_ | refine exit_round ?_ | refine AW_exit ?_ | refine exit_block ?_ | (refine exit_other ?_ ?_; (· decide)) | refine AW_skip ?_)
  rw [hmi]
  refine step_ops ?_
  refine m_mk (n := m + 1) rfl rfl (by omega) (by omega) ?_
  repeat (first | (refine step_ops ?_; (first | (refine m_mov (by conv => lhs; whnf) ?_) | (refine m_lss rfl rfl ?_) | (refine m_eql rfl rfl ?_) | (refine m_eqk rfl rfl ?_) | (refine m_eqs rfl rfl ?_) | (refine m_add rfl rfl ?_ ?_ ?_; (· omega); (· omega)) | (refine m_adds rfl rfl ?_ ?_; (· first | omega | (simp; omega))) | (refine m_sub rfl rfl ?_ ?_ ?_; (· omega); (· omega)) | (refine m_scutl rfl rfl ?_ ?_; (· first | omega | (simp; omega))) | (refine m_scuth rfl rfl ?_ ?_; (· first | omega | (simp; omega))) | (refine m_slen rfl ?_) | (refine m_idx1_ro rfl rfl ?_ ?_; (· omega)) | (refine m_idx1_sl rfl rfl ?_ ?_; (· omega)) | (apply m_idx1_slj; (· rfl); (· rfl); (· assumption); (· omega)) | (apply m_idx1_roj; (· rfl); (· rfl); (· assumption); (· omega)) | (refine m_idx_ro rfl rfl ?_ ?_ ?_; (· omega); (· omega)) | (refine m_idx_sl rfl rfl ?_ ?_ ?_; (· omega); (· omega)) | (apply m_st; (· rfl); (· rfl); (· rfl); (· first | omega | (simp; done) | (simp; omega)); (· rfl)) | (refine m_cut_hi rfl rfl ?_ ?_ ?_; (· first | rfl | omega | simp); (· first | omega | (simp; omega))) | (refine m_cut_lo rfl rfl ?_ ?_ ?_; (· first | rfl | omega | simp); (· first | omega | (simp; omega))) | (refine m_nils ?_) | (refine m_min rfl rfl ?_) | (refine m_stall rfl rfl rfl ?_ ?_ ?_ ?_; (· first | rfl | (simp [*]; done)); (· first | rfl | (simp [*]; done)); (· first | rfl | (simp [cellOk, Value.oneCell']; done))))) | refine end_ops ?_ | refine seq_ops ?_ | refine AW_ops ?_ | (refine cond_t rfl ?_ ?_; (· first | rfl | assumption | (refine decide_eq_true ?_; first | assumption | omega) | (refine nt ?_; first | assumption | omega) | (simp [*]; done))) | (refine cond_f rfl ?_ ?_; (· first | rfl | assumption | (refine decide_eq_false ?_; first | assumption | omega) | (refine nf ?_; first | assumption | omega) | (simp [*]; done))) | refine skip_then ?_ | refine AW_seq ?_ | refine AW_ret ?_ | refine ret_done ?_ | refine norm_then ?_ | refine ret_then ?_ | refine exit_then ?_ | refine AW_block ?_ | refine norm_block ?_ | refine ret_block ?_ | refine ret_round ?_ | refine exit_round ?_ | refine AW_exit ?_ | refine exit_block ?_ | (refine exit_other ?_ ?_; (· decide)) | refine AW_skip ?_)
  rw [show ((m + 1 : Nat) : Int) - 1 = (m : Int) by omega]
  repeat (first | (refine step_ops ?_; (first | (refine m_mov (by conv => lhs; whnf) ?_) | (refine m_lss rfl rfl ?_) | (refine m_eql rfl rfl ?_) | (refine m_eqk rfl rfl ?_) | (refine m_eqs rfl rfl ?_) | (refine m_add rfl rfl ?_ ?_ ?_; (· omega); (· omega)) | (refine m_adds rfl rfl ?_ ?_; (· first | omega | (simp; omega))) | (refine m_sub rfl rfl ?_ ?_ ?_; (· omega); (· omega)) | (refine m_scutl rfl rfl ?_ ?_; (· first | omega | (simp; omega))) | (refine m_scuth rfl rfl ?_ ?_; (· first | omega | (simp; omega))) | (refine m_slen rfl ?_) | (refine m_idx1_ro rfl rfl ?_ ?_; (· omega)) | (refine m_idx1_sl rfl rfl ?_ ?_; (· omega)) | (apply m_idx1_slj; (· rfl); (· rfl); (· assumption); (· omega)) | (apply m_idx1_roj; (· rfl); (· rfl); (· assumption); (· omega)) | (refine m_idx_ro rfl rfl ?_ ?_ ?_; (· omega); (· omega)) | (refine m_idx_sl rfl rfl ?_ ?_ ?_; (· omega); (· omega)) | (apply m_st; (· rfl); (· rfl); (· rfl); (· first | omega | (simp; done) | (simp; omega)); (· rfl)) | (refine m_cut_hi rfl rfl ?_ ?_ ?_; (· first | rfl | omega | simp); (· first | omega | (simp; omega))) | (refine m_cut_lo rfl rfl ?_ ?_ ?_; (· first | rfl | omega | simp); (· first | omega | (simp; omega))) | (refine m_nils ?_) | (refine m_min rfl rfl ?_) | (refine m_stall rfl rfl rfl ?_ ?_ ?_ ?_; (· first | rfl | (simp [*]; done)); (· first | rfl | (simp [*]; done)); (· first | rfl | (simp [cellOk, Value.oneCell']; done))))) | refine end_ops ?_ | refine seq_ops ?_ | refine AW_ops ?_ | (refine cond_t rfl ?_ ?_; (· first | rfl | assumption | (refine decide_eq_true ?_; first | assumption | omega) | (refine nt ?_; first | assumption | omega) | (simp [*]; done))) | (refine cond_f rfl ?_ ?_; (· first | rfl | assumption | (refine decide_eq_false ?_; first | assumption | omega) | (refine nf ?_; first | assumption | omega) | (simp [*]; done))) | refine skip_then ?_ | refine AW_seq ?_ | refine AW_ret ?_ | refine ret_done ?_ | refine norm_then ?_ | refine ret_then ?_ | refine exit_then ?_ | refine AW_block ?_ | refine norm_block ?_ | refine ret_block ?_ | refine ret_round ?_ | refine exit_round ?_ | refine AW_exit ?_ | refine exit_block ?_ | (refine exit_other ?_ ?_; (· decide)) | refine AW_skip ?_)
  refine AW_loop (α := List (List UInt8) × List UInt8) (fun a => a.1.length ≤ m ∧ a.2.length + a.1.length ≤ B.length ∧ a.1 ++ splitNB (m - a.1.length) a.2 = splitNB m B)
    (fun a => st [(0, str a.2), (1, str [47]), (2, .i 0), (3, .i m), (9, .sl 31 1 0 (m + 1)), (10, .i a.1.length)] [(31, (true, cutC a.1 (m + 1)))]) (fun a => m - a.1.length) ([], B) ⟨Nat.zero_le _, by simp, by simp⟩ (weak_st ?_ ?_ rfl rfl) ?_
  · (repeat' (first | exact trivial | refine And.intro ?_ ?_)) <;> (first | rfl | skip)
  · refine ⟨?_, trivial⟩
    show some (true, (List.replicate (m + 1) [str []]).flatten) = some (true, cutC [] (m + 1))
    rw [flat_ones]; rfl
  rintro ⟨done, rest⟩ ⟨hd, hrl, hres⟩
  dsimp only at hd hrl hres ⊢
  have hcl := cutC_len done (m + 1) (by omega)
  have h47l : ([47] : List UInt8).length = 1 := rfl
  have hcp : (cutC done (m + 1)).all plainV = true := by simp [cutC, strs, plainV]
  have hrl1 : (done ++ [rest]).length = done.length + 1 := by simp
  have hout : ∀ {s : AS}, s.hp 31 = some (true, (cutC done (m + 1)).set done.length (str rest)) → Outs s (.sl 31 1 0 (done.length + 1)) (.ro true 1 (strs (done ++ [rest])) (done ++ [rest]).length) := by
    intro s hs
    rw [cutC_set done rest (m + 1) (by omega)] at hs
    have h := outs_sl_take (z := 1) (n := done.length + 1) hs (by rw [cutC_len _ _ (by omega)]; omega) (by simp [cutC, strs, plainV])
    rw [Nat.mul_one, ← hrl1, cutC_take] at h
    rw [hrl1] at h ⊢
    exact h
  by_cases hc : done.length < m
  · by_cases h47 : (47 : UInt8) ∈ rest
    · obtain ⟨p, q, hp, rfl⟩ := cut_at h47
      have hix := indexByte_cut (q := q) hp
      have hpl : (p ++ 47 :: q).length = p.length + (q.length + 1) := by simp
      repeat (first | (refine step_ops ?_; (first | (refine m_mov (by conv => lhs; whnf) ?_) | (refine m_lss rfl rfl ?_) | (refine m_eql rfl rfl ?_) | (refine m_eqk rfl rfl ?_) | (refine m_eqs rfl rfl ?_) | (refine m_add rfl rfl ?_ ?_ ?_; (· omega); (· omega)) | (refine m_adds rfl rfl ?_ ?_; (· first | omega | (simp; omega))) | (refine m_sub rfl rfl ?_ ?_ ?_; (· omega); (· omega)) | (refine m_scutl rfl rfl ?_ ?_; (· first | omega | (simp; omega))) | (refine m_scuth rfl rfl ?_ ?_; (· first | omega | (simp; omega))) | (refine m_slen rfl ?_) | (refine m_idx1_ro rfl rfl ?_ ?_; (· omega)) | (refine m_idx1_sl rfl rfl ?_ ?_; (· omega)) | (apply m_idx1_slj; (· rfl); (· rfl); (· assumption); (· omega)) | (apply m_idx1_roj; (· rfl); (· rfl); (· assumption); (· omega)) | (refine m_idx_ro rfl rfl ?_ ?_ ?_; (· omega); (· omega)) | (refine m_idx_sl rfl rfl ?_ ?_ ?_; (· omega); (· omega)) | (apply m_st; (· rfl); (· rfl); (· rfl); (· first | omega | (simp; done) | (simp; omega)); (· rfl)) | (refine m_cut_hi rfl rfl ?_ ?_ ?_; (· first | rfl | omega | simp); (· first | omega | (simp; omega))) | (refine m_cut_lo rfl rfl ?_ ?_ ?_; (· first | rfl | omega | simp); (· first | omega | (simp; omega))) | (refine m_nils ?_) | (refine m_min rfl rfl ?_) | (refine m_stall rfl rfl rfl ?_ ?_ ?_ ?_; (· first | rfl | (simp [*]; done)); (· first | rfl | (simp [*]; done)); (· first | rfl | (simp [cellOk, Value.oneCell']; done))))) | refine end_ops ?_ | refine seq_ops ?_ | refine AW_ops ?_ | (refine cond_t rfl ?_ ?_; (· first | rfl | assumption | (refine decide_eq_true ?_; first | assumption | omega) | (refine nt ?_; first | assumption | omega) | (simp [*]; done))) | (refine cond_f rfl ?_ ?_; (· first | rfl | assumption | (refine decide_eq_false ?_; first | assumption | omega) | (refine nf ?_; first | assumption | omega) | (simp [*]; done))) | refine skip_then ?_ | refine AW_seq ?_ | refine AW_ret ?_ | refine ret_done ?_ | refine norm_then ?_ | refine ret_then ?_ | refine exit_then ?_ | refine AW_block ?_ | refine norm_block ?_ | refine ret_block ?_ | refine ret_round ?_ | refine exit_round ?_ | refine AW_exit ?_ | refine exit_block ?_ | (refine exit_other ?_ ?_; (· decide)) | refine AW_skip ?_)
      (refine step_ops ?_); (apply m_call (stringsIndex_spec (p ++ 47 :: q) (by omega))); (· repeat (first | exact lends_nil | (refine lends_cons ?_ ?_; (· (first | exact lend_v | (refine lend_roM rfl; done) | (refine lend_mat rfl ?_; intro j hj; simp (disch := first | omega | assumption) only [hp_put, hp_mem_ne, hp_kill_ne]; first | exact stM_row rfl hj | (rw [stM_row rfl hj]; rfl)) | (refine lend_ints ?_; first | rfl | omega) | (refine lend_sli (by rfl) ?_; first | rfl | omega | (simp; done)) | (refine lend_pln rfl; done) | (refine lend_plns rfl rfl; done) | (refine lend_txr rfl; done) | (refine lend_txs rfl rfl; done) | exact lend_any | (refine lend_agg ?_; first | rfl | assumption | (simp [plainV]; done)))))))
      rw [hix]
      repeat (first | (refine step_ops ?_; (first | (refine m_mov (by conv => lhs; whnf) ?_) | (refine m_lss rfl rfl ?_) | (refine m_eql rfl rfl ?_) | (refine m_eqk rfl rfl ?_) | (refine m_eqs rfl rfl ?_) | (refine m_add rfl rfl ?_ ?_ ?_; (· omega); (· omega)) | (refine m_adds rfl rfl ?_ ?_; (· first | omega | (simp; omega))) | (refine m_sub rfl rfl ?_ ?_ ?_; (· omega); (· omega)) | (refine m_scutl rfl rfl ?_ ?_; (· first | omega | (simp; omega))) | (refine m_scuth rfl rfl ?_ ?_; (· first | omega | (simp; omega))) | (refine m_slen rfl ?_) | (refine m_idx1_ro rfl rfl ?_ ?_; (· omega)) | (refine m_idx1_sl rfl rfl ?_ ?_; (· omega)) | (apply m_idx1_slj; (· rfl); (· rfl); (· assumption); (· omega)) | (apply m_idx1_roj; (· rfl); (· rfl); (· assumption); (· omega)) | (refine m_idx_ro rfl rfl ?_ ?_ ?_; (· omega); (· omega)) | (refine m_idx_sl rfl rfl ?_ ?_ ?_; (· omega); (· omega)) | (apply m_st; (· rfl); (· rfl); (· rfl); (· first | omega | (simp; done) | (simp; omega)); (· rfl)) | (refine m_cut_hi rfl rfl ?_ ?_ ?_; (· first | rfl | omega | simp); (· first | omega | (simp; omega))) | (refine m_cut_lo rfl rfl ?_ ?_ ?_; (· first | rfl | omega | simp); (· first | omega | (simp; omega))) | (refine m_nils ?_) | (refine m_min rfl rfl ?_) | (refine m_stall rfl rfl rfl ?_ ?_ ?_ ?_; (· first | rfl | (simp [*]; done)); (· first | rfl | (simp [*]; done)); (· first | rfl | (simp [cellOk, Value.oneCell']; done))))) | refine end_ops ?_ | refine seq_ops ?_ | refine AW_ops ?_ | (refine cond_t rfl ?_ ?_; (· first | rfl | assumption | (refine decide_eq_true ?_; first | assumption | omega) | (refine nt ?_; first | assumption | omega) | (simp [*]; done))) | (refine cond_f rfl ?_ ?_; (· first | rfl | assumption | (refine decide_eq_false ?_; first | assumption | omega) | (refine nf ?_; first | assumption | omega) | (simp [*]; done))) | refine skip_then ?_ | refine AW_seq ?_ | refine AW_ret ?_ | refine ret_done ?_ | refine norm_then ?_ | refine ret_then ?_ | refine exit_then ?_ | refine AW_block ?_ | refine norm_block ?_ | refine ret_block ?_ | refine ret_round ?_ | refine exit_round ?_ | refine AW_exit ?_ | refine exit_block ?_ | (refine exit_other ?_ ?_; (· decide)) | refine AW_skip ?_)
      rw [show ((p.length : Int) + 0) = (p.length : Int) from Int.add_zero _]
      repeat (first | (refine step_ops ?_; (first | (refine m_mov (by conv => lhs; whnf) ?_) | (refine m_lss rfl rfl ?_) | (refine m_eql rfl rfl ?_) | (refine m_eqk rfl rfl ?_) | (refine m_eqs rfl rfl ?_) | (refine m_add rfl rfl ?_ ?_ ?_; (· omega); (· omega)) | (refine m_adds rfl rfl ?_ ?_; (· first | omega | (simp; omega))) | (refine m_sub rfl rfl ?_ ?_ ?_; (· omega); (· omega)) | (refine m_scutl rfl rfl ?_ ?_; (· first | omega | (simp; omega))) | (refine m_scuth rfl rfl ?_ ?_; (· first | omega | (simp; omega))) | (refine m_slen rfl ?_) | (refine m_idx1_ro rfl rfl ?_ ?_; (· omega)) | (refine m_idx1_sl rfl rfl ?_ ?_; (· omega)) | (apply m_idx1_slj; (· rfl); (· rfl); (· assumption); (· omega)) | (apply m_idx1_roj; (· rfl); (· rfl); (· assumption); (· omega)) | (refine m_idx_ro rfl rfl ?_ ?_ ?_; (· omega); (· omega)) | (refine m_idx_sl rfl rfl ?_ ?_ ?_; (· omega); (· omega)) | (apply m_st; (· rfl); (· rfl); (· rfl); (· first | omega | (simp; done) | (simp; omega)); (· rfl)) | (refine m_cut_hi rfl rfl ?_ ?_ ?_; (· first | rfl | omega | simp); (· first | omega | (simp; omega))) | (refine m_cut_lo rfl rfl ?_ ?_ ?_; (· first | rfl | omega | simp); (· first | omega | (simp; omega))) | (refine m_nils ?_) | (refine m_min rfl rfl ?_) | (refine m_stall rfl rfl rfl ?_ ?_ ?_ ?_; (· first | rfl | (simp [*]; done)); (· first | rfl | (simp [*]; done)); (· first | rfl | (simp [cellOk, Value.oneCell']; done))))) | refine end_ops ?_ | refine seq_ops ?_ | refine AW_ops ?_ | (refine cond_t rfl ?_ ?_; (· first | rfl | assumption | (refine decide_eq_true ?_; first | assumption | omega) | (refine nt ?_; first | assumption | omega) | (simp [*]; done))) | (refine cond_f rfl ?_ ?_; (· first | rfl | assumption | (refine decide_eq_false ?_; first | assumption | omega) | (refine nf ?_; first | assumption | omega) | (simp [*]; done))) | refine skip_then ?_ | refine AW_seq ?_ | refine AW_ret ?_ | refine ret_done ?_ | refine norm_then ?_ | refine ret_then ?_ | refine exit_then ?_ | refine AW_block ?_ | refine norm_block ?_ | refine ret_block ?_ | refine ret_round ?_ | refine exit_round ?_ | refine AW_exit ?_ | refine exit_block ?_ | (refine exit_other ?_ ?_; (· decide)) | refine AW_skip ?_)
      rw [show ((p.length : Int) + (([47] : List UInt8).length : Int)) = ((p.length + 1 : Nat) : Int) by omega]
      repeat (first | (refine step_ops ?_; (first | (refine m_mov (by conv => lhs; whnf) ?_) | (refine m_lss rfl rfl ?_) | (refine m_eql rfl rfl ?_) | (refine m_eqk rfl rfl ?_) | (refine m_eqs rfl rfl ?_) | (refine m_add rfl rfl ?_ ?_ ?_; (· omega); (· omega)) | (refine m_adds rfl rfl ?_ ?_; (· first | omega | (simp; omega))) | (refine m_sub rfl rfl ?_ ?_ ?_; (· omega); (· omega)) | (refine m_scutl rfl rfl ?_ ?_; (· first | omega | (simp; omega))) | (refine m_scuth rfl rfl ?_ ?_; (· first | omega | (simp; omega))) | (refine m_slen rfl ?_) | (refine m_idx1_ro rfl rfl ?_ ?_; (· omega)) | (refine m_idx1_sl rfl rfl ?_ ?_; (· omega)) | (apply m_idx1_slj; (· rfl); (· rfl); (· assumption); (· omega)) | (apply m_idx1_roj; (· rfl); (· rfl); (· assumption); (· omega)) | (refine m_idx_ro rfl rfl ?_ ?_ ?_; (· omega); (· omega)) | (refine m_idx_sl rfl rfl ?_ ?_ ?_; (· omega); (· omega)) | (apply m_st; (· rfl); (· rfl); (· rfl); (· first | omega | (simp; done) | (simp; omega)); (· rfl)) | (refine m_cut_hi rfl rfl ?_ ?_ ?_; (· first | rfl | omega | simp); (· first | omega | (simp; omega))) | (refine m_cut_lo rfl rfl ?_ ?_ ?_; (· first | rfl | omega | simp); (· first | omega | (simp; omega))) | (refine m_nils ?_) | (refine m_min rfl rfl ?_) | (refine m_stall rfl rfl rfl ?_ ?_ ?_ ?_; (· first | rfl | (simp [*]; done)); (· first | rfl | (simp [*]; done)); (· first | rfl | (simp [cellOk, Value.oneCell']; done))))) | refine end_ops ?_ | refine seq_ops ?_ | refine AW_ops ?_ | (refine cond_t rfl ?_ ?_; (· first | rfl | assumption | (refine decide_eq_true ?_; first | assumption | omega) | (refine nt ?_; first | assumption | omega) | (simp [*]; done))) | (refine cond_f rfl ?_ ?_; (· first | rfl | assumption | (refine decide_eq_false ?_; first | assumption | omega) | (refine nf ?_; first | assumption | omega) | (simp [*]; done))) | refine skip_then ?_ | refine AW_seq ?_ | refine AW_ret ?_ | refine ret_done ?_ | refine norm_then ?_ | refine ret_then ?_ | refine exit_then ?_ | refine AW_block ?_ | refine norm_block ?_ | refine ret_block ?_ | refine ret_round ?_ | refine exit_round ?_ | refine AW_exit ?_ | refine exit_block ?_ | (refine exit_other ?_ ?_; (· decide)) | refine AW_skip ?_)
      have e1 : (p ++ 47 :: q).take p.length = p := by simp
      have e2 : (p ++ 47 :: q).drop (p.length + ([47] : List UInt8).length) = q := by rw [h47l, List.drop_append]; simp
      refine next_round (done ++ [p], q) ⟨by simp; omega, by simp; omega, ?_⟩ (weak_st ?_ ?_ rfl rfl) ?_
      · rw [← hres, show m - done.length = (m - (done ++ [p]).length) + 1 by simp; omega, splitNB_cut hp, List.append_assoc]
        rfl
      · rw [show (done ++ [p]).length = done.length + 1 by simp]
        rw [e1, e2]
        (repeat' (first | exact trivial | refine And.intro ?_ ?_)) <;> (first | rfl | skip)
      · refine ⟨?_, trivial⟩
        rw [← cutC_set done p (m + 1) (by omega), e1]
        rfl
      · simp; omega
    · have hix := indexByte_none h47
      have hfin : splitNB m B = done ++ [rest] := by rw [← hres, splitNB_one h47]
      repeat (first | (refine step_ops ?_; (first | (refine m_mov (by conv => lhs; whnf) ?_) | (refine m_lss rfl rfl ?_) | (refine m_eql rfl rfl ?_) | (refine m_eqk rfl rfl ?_) | (refine m_eqs rfl rfl ?_) | (refine m_add rfl rfl ?_ ?_ ?_; (· omega); (· omega)) | (refine m_adds rfl rfl ?_ ?_; (· first | omega | (simp; omega))) | (refine m_sub rfl rfl ?_ ?_ ?_; (· omega); (· omega)) | (refine m_scutl rfl rfl ?_ ?_; (· first | omega | (simp; omega))) | (refine m_scuth rfl rfl ?_ ?_; (· first | omega | (simp; omega))) | (refine m_slen rfl ?_) | (refine m_idx1_ro rfl rfl ?_ ?_; (· omega)) | (refine m_idx1_sl rfl rfl ?_ ?_; (· omega)) | (apply m_idx1_slj; (· rfl); (· rfl); (· assumption); (· omega)) | (apply m_idx1_roj; (· rfl); (· rfl); (· assumption); (· omega)) | (refine m_idx_ro rfl rfl ?_ ?_ ?_; (· omega); (· omega)) | (refine m_idx_sl rfl rfl ?_ ?_ ?_; (· omega); (· omega)) | (apply m_st; (· rfl); (· rfl); (· rfl); (· first | omega | (simp; done) | (simp; omega)); (· rfl)) | (refine m_cut_hi rfl rfl ?_ ?_ ?_; (· first | rfl | omega | simp); (· first | omega | (simp; omega))) | (refine m_cut_lo rfl rfl ?_ ?_ ?_; (· first | rfl | omega | simp); (· first | omega | (simp; omega))) | (refine m_nils ?_) | (refine m_min rfl rfl ?_) | (refine m_stall rfl rfl rfl ?_ ?_ ?_ ?_; (· first | rfl | (simp [*]; done)); (· first | rfl | (simp [*]; done)); (· first | rfl | (simp [cellOk, Value.oneCell']; done))))) | refine end_ops ?_ | refine seq_ops ?_ | refine AW_ops ?_ | (refine cond_t rfl ?_ ?_; (· first | rfl | assumption | (refine decide_eq_true ?_; first | assumption | omega) | (refine nt ?_; first | assumption | omega) | (simp [*]; done))) | (refine cond_f rfl ?_ ?_; (· first | rfl | assumption | (refine decide_eq_false ?_; first | assumption | omega) | (refine nf ?_; first | assumption | omega) | (simp [*]; done))) | refine skip_then ?_ | refine AW_seq ?_ | refine AW_ret ?_ | refine ret_done ?_ | refine norm_then ?_ | refine ret_then ?_ | refine exit_then ?_ | refine AW_block ?_ | refine norm_block ?_ | refine ret_block ?_ | refine ret_round ?_ | refine exit_round ?_ | refine AW_exit ?_ | refine exit_block ?_ | (refine exit_other ?_ ?_; (· decide)) | refine AW_skip ?_)
      (refine step_ops ?_); (apply m_call (stringsIndex_spec rest (by omega))); (· repeat (first | exact lends_nil | (refine lends_cons ?_ ?_; (· (first | exact lend_v | (refine lend_roM rfl; done) | (refine lend_mat rfl ?_; intro j hj; simp (disch := first | omega | assumption) only [hp_put, hp_mem_ne, hp_kill_ne]; first | exact stM_row rfl hj | (rw [stM_row rfl hj]; rfl)) | (refine lend_ints ?_; first | rfl | omega) | (refine lend_sli (by rfl) ?_; first | rfl | omega | (simp; done)) | (refine lend_pln rfl; done) | (refine lend_plns rfl rfl; done) | (refine lend_txr rfl; done) | (refine lend_txs rfl rfl; done) | exact lend_any | (refine lend_agg ?_; first | rfl | assumption | (simp [plainV]; done)))))))
      rw [hix]
      repeat (first | (refine step_ops ?_; (first | (refine m_mov (by conv => lhs; whnf) ?_) | (refine m_lss rfl rfl ?_) | (refine m_eql rfl rfl ?_) | (refine m_eqk rfl rfl ?_) | (refine m_eqs rfl rfl ?_) | (refine m_add rfl rfl ?_ ?_ ?_; (· omega); (· omega)) | (refine m_adds rfl rfl ?_ ?_; (· first | omega | (simp; omega))) | (refine m_sub rfl rfl ?_ ?_ ?_; (· omega); (· omega)) | (refine m_scutl rfl rfl ?_ ?_; (· first | omega | (simp; omega))) | (refine m_scuth rfl rfl ?_ ?_; (· first | omega | (simp; omega))) | (refine m_slen rfl ?_) | (refine m_idx1_ro rfl rfl ?_ ?_; (· omega)) | (refine m_idx1_sl rfl rfl ?_ ?_; (· omega)) | (apply m_idx1_slj; (· rfl); (· rfl); (· assumption); (· omega)) | (apply m_idx1_roj; (· rfl); (· rfl); (· assumption); (· omega)) | (refine m_idx_ro rfl rfl ?_ ?_ ?_; (· omega); (· omega)) | (refine m_idx_sl rfl rfl ?_ ?_ ?_; (· omega); (· omega)) | (apply m_st; (· rfl); (· rfl); (· rfl); (· first | omega | (simp; done) | (simp; omega)); (· rfl)) | (refine m_cut_hi rfl rfl ?_ ?_ ?_; (· first | rfl | omega | simp); (· first | omega | (simp; omega))) | (refine m_cut_lo rfl rfl ?_ ?_ ?_; (· first | rfl | omega | simp); (· first | omega | (simp; omega))) | (refine m_nils ?_) | (refine m_min rfl rfl ?_) | (refine m_stall rfl rfl rfl ?_ ?_ ?_ ?_; (· first | rfl | (simp [*]; done)); (· first | rfl | (simp [*]; done)); (· first | rfl | (simp [cellOk, Value.oneCell']; done))))) | refine end_ops ?_ | refine seq_ops ?_ | refine AW_ops ?_ | (refine cond_t rfl ?_ ?_; (· first | rfl | assumption | (refine decide_eq_true ?_; first | assumption | omega) | (refine nt ?_; first | assumption | omega) | (simp [*]; done))) | (refine cond_f rfl ?_ ?_; (· first | rfl | assumption | (refine decide_eq_false ?_; first | assumption | omega) | (refine nf ?_; first | assumption | omega) | (simp [*]; done))) | refine skip_then ?_ | refine AW_seq ?_ | refine AW_ret ?_ | refine ret_done ?_ | refine norm_then ?_ | refine ret_then ?_ | refine exit_then ?_ | refine AW_block ?_ | refine norm_block ?_ | refine ret_block ?_ | refine ret_round ?_ | refine exit_round ?_ | refine AW_exit ?_ | refine exit_block ?_ | (refine exit_other ?_ ?_; (· decide)) | refine AW_skip ?_)
      rw [show ((done.length : Int) + 1) = ((done.length + 1 : Nat) : Int) by omega]
      repeat (first | (refine step_ops ?_; (first | (refine m_mov (by conv => lhs; whnf) ?_) | (refine m_lss rfl rfl ?_) | (refine m_eql rfl rfl ?_) | (refine m_eqk rfl rfl ?_) | (refine m_eqs rfl rfl ?_) | (refine m_add rfl rfl ?_ ?_ ?_; (· omega); (· omega)) | (refine m_adds rfl rfl ?_ ?_; (· first | omega | (simp; omega))) | (refine m_sub rfl rfl ?_ ?_ ?_; (· omega); (· omega)) | (refine m_scutl rfl rfl ?_ ?_; (· first | omega | (simp; omega))) | (refine m_scuth rfl rfl ?_ ?_; (· first | omega | (simp; omega))) | (refine m_slen rfl ?_) | (refine m_idx1_ro rfl rfl ?_ ?_; (· omega)) | (refine m_idx1_sl rfl rfl ?_ ?_; (· omega)) | (apply m_idx1_slj; (· rfl); (· rfl); (· assumption); (· omega)) | (apply m_idx1_roj; (· rfl); (· rfl); (· assumption); (· omega)) | (refine m_idx_ro rfl rfl ?_ ?_ ?_; (· omega); (· omega)) | (refine m_idx_sl rfl rfl ?_ ?_ ?_; (· omega); (· omega)) | (apply m_st; (· rfl); (· rfl); (· rfl); (· first | omega | (simp; done) | (simp; omega)); (· rfl)) | (refine m_cut_hi rfl rfl ?_ ?_ ?_; (· first | rfl | omega | simp); (· first | omega | (simp; omega))) | (refine m_cut_lo rfl rfl ?_ ?_ ?_; (· first | rfl | omega | simp); (· first | omega | (simp; omega))) | (refine m_nils ?_) | (refine m_min rfl rfl ?_) | (refine m_stall rfl rfl rfl ?_ ?_ ?_ ?_; (· first | rfl | (simp [*]; done)); (· first | rfl | (simp [*]; done)); (· first | rfl | (simp [cellOk, Value.oneCell']; done))))) | refine end_ops ?_ | refine seq_ops ?_ | refine AW_ops ?_ | (refine cond_t rfl ?_ ?_; (· first | rfl | assumption | (refine decide_eq_true ?_; first | assumption | omega) | (refine nt ?_; first | assumption | omega) | (simp [*]; done))) | (refine cond_f rfl ?_ ?_; (· first | rfl | assumption | (refine decide_eq_false ?_; first | assumption | omega) | (refine nf ?_; first | assumption | omega) | (simp [*]; done))) | refine skip_then ?_ | refine AW_seq ?_ | refine AW_ret ?_ | refine ret_done ?_ | refine norm_then ?_ | refine ret_then ?_ | refine exit_then ?_ | refine AW_block ?_ | refine norm_block ?_ | refine ret_block ?_ | refine ret_round ?_ | refine exit_round ?_ | refine AW_exit ?_ | refine exit_block ?_ | (refine exit_other ?_ ?_; (· decide)) | refine AW_skip ?_)
      refine step_ops ?_
      refine m_cut_sl (l := 0) (h := done.length + 1) rfl rfl ⟨_, rfl⟩ (Nat.zero_le _) (by omega) ?_
      repeat (first | (refine step_ops ?_; (first | (refine m_mov (by conv => lhs; whnf) ?_) | (refine m_lss rfl rfl ?_) | (refine m_eql rfl rfl ?_) | (refine m_eqk rfl rfl ?_) | (refine m_eqs rfl rfl ?_) | (refine m_add rfl rfl ?_ ?_ ?_; (· omega); (· omega)) | (refine m_adds rfl rfl ?_ ?_; (· first | omega | (simp; omega))) | (refine m_sub rfl rfl ?_ ?_ ?_; (· omega); (· omega)) | (refine m_scutl rfl rfl ?_ ?_; (· first | omega | (simp; omega))) | (refine m_scuth rfl rfl ?_ ?_; (· first | omega | (simp; omega))) | (refine m_slen rfl ?_) | (refine m_idx1_ro rfl rfl ?_ ?_; (· omega)) | (refine m_idx1_sl rfl rfl ?_ ?_; (· omega)) | (apply m_idx1_slj; (· rfl); (· rfl); (· assumption); (· omega)) | (apply m_idx1_roj; (· rfl); (· rfl); (· assumption); (· omega)) | (refine m_idx_ro rfl rfl ?_ ?_ ?_; (· omega); (· omega)) | (refine m_idx_sl rfl rfl ?_ ?_ ?_; (· omega); (· omega)) | (apply m_st; (· rfl); (· rfl); (· rfl); (· first | omega | (simp; done) | (simp; omega)); (· rfl)) | (refine m_cut_hi rfl rfl ?_ ?_ ?_; (· first | rfl | omega | simp); (· first | omega | (simp; omega))) | (refine m_cut_lo rfl rfl ?_ ?_ ?_; (· first | rfl | omega | simp); (· first | omega | (simp; omega))) | (refine m_nils ?_) | (refine m_min rfl rfl ?_) | (refine m_stall rfl rfl rfl ?_ ?_ ?_ ?_; (· first | rfl | (simp [*]; done)); (· first | rfl | (simp [*]; done)); (· first | rfl | (simp [cellOk, Value.oneCell']; done))))) | refine end_ops ?_ | refine seq_ops ?_ | refine AW_ops ?_ | (refine cond_t rfl ?_ ?_; (· first | rfl | assumption | (refine decide_eq_true ?_; first | assumption | omega) | (refine nt ?_; first | assumption | omega) | (simp [*]; done))) | (refine cond_f rfl ?_ ?_; (· first | rfl | assumption | (refine decide_eq_false ?_; first | assumption | omega) | (refine nf ?_; first | assumption | omega) | (simp [*]; done))) | refine skip_then ?_ | refine AW_seq ?_ | refine AW_ret ?_ | refine ret_done ?_ | refine norm_then ?_ | refine ret_then ?_ | refine exit_then ?_ | refine AW_block ?_ | refine norm_block ?_ | refine ret_block ?_ | refine ret_round ?_ | refine exit_round ?_ | refine AW_exit ?_ | refine exit_block ?_ | (refine exit_other ?_ ?_; (· decide)) | refine AW_skip ?_)
      rw [hfin]
      exact hout rfl
  · have hfin : splitNB m B = done ++ [rest] := by rw [← hres, show m - done.length = 0 by omega]; rfl
    repeat (first | (refine step_ops ?_; (first | (refine m_mov (by conv => lhs; whnf) ?_) | (refine m_lss rfl rfl ?_) | (refine m_eql rfl rfl ?_) | (refine m_eqk rfl rfl ?_) | (refine m_eqs rfl rfl ?_) | (refine m_add rfl rfl ?_ ?_ ?_; (· omega); (· omega)) | (refine m_adds rfl rfl ?_ ?_; (· first | omega | (simp; omega))) | (refine m_sub rfl rfl ?_ ?_ ?_; (· omega); (· omega)) | (refine m_scutl rfl rfl ?_ ?_; (· first | omega | (simp; omega))) | (refine m_scuth rfl rfl ?_ ?_; (· first | omega | (simp; omega))) | (refine m_slen rfl ?_) | (refine m_idx1_ro rfl rfl ?_ ?_; (· omega)) | (refine m_idx1_sl rfl rfl ?_ ?_; (· omega)) | (apply m_idx1_slj; (· rfl); (· rfl); (· assumption); (· omega)) | (apply m_idx1_roj; (· rfl); (· rfl); (· assumption); (· omega)) | (refine m_idx_ro rfl rfl ?_ ?_ ?_; (· omega); (· omega)) | (refine m_idx_sl rfl rfl ?_ ?_ ?_; (· omega); (· omega)) | (apply m_st; (· rfl); (· rfl); (· rfl); (· first | omega | (simp; done) | (simp; omega)); (· rfl)) | (refine m_cut_hi rfl rfl ?_ ?_ ?_; (· first | rfl | omega | simp); (· first | omega | (simp; omega))) | (refine m_cut_lo rfl rfl ?_ ?_ ?_; (· first | rfl | omega | simp); (· first | omega | (simp; omega))) | (refine m_nils ?_) | (refine m_min rfl rfl ?_) | (refine m_stall rfl rfl rfl ?_ ?_ ?_ ?_; (· first | rfl | (simp [*]; done)); (· first | rfl | (simp [*]; done)); (· first | rfl | (simp [cellOk, Value.oneCell']; done))))) | refine end_ops ?_ | refine seq_ops ?_ | refine AW_ops ?_ | (refine cond_t rfl ?_ ?_; (· first | rfl | assumption | (refine decide_eq_true ?_; first | assumption | omega) | (refine nt ?_; first | assumption | omega) | (simp [*]; done))) | (refine cond_f rfl ?_ ?_; (· first | rfl | assumption | (refine decide_eq_false ?_; first | assumption | omega) | (refine nf ?_; first | assumption | omega) | (simp [*]; done))) | refine skip_then ?_ | refine AW_seq ?_ | refine AW_ret ?_ | refine ret_done ?_ | refine norm_then ?_ | refine ret_then ?_ | refine exit_then ?_ | refine AW_block ?_ | refine norm_block ?_ | refine ret_block ?_ | refine ret_round ?_ | refine exit_round ?_ | refine AW_exit ?_ | refine exit_block ?_ | (refine exit_other ?_ ?_; (· decide)) | refine AW_skip ?_)
    rw [show ((done.length : Int) + 1) = ((done.length + 1 : Nat) : Int) by omega]
    repeat (first | (refine step_ops ?_; (first | (refine m_mov (by conv => lhs; whnf) ?_) | (refine m_lss rfl rfl ?_) | (refine m_eql rfl rfl ?_) | (refine m_eqk rfl rfl ?_) | (refine m_eqs rfl rfl ?_) | (refine m_add rfl rfl ?_ ?_ ?_; (· omega); (· omega)) | (refine m_adds rfl rfl ?_ ?_; (· first | omega | (simp; omega))) | (refine m_sub rfl rfl ?_ ?_ ?_; (· omega); (· omega)) | (refine m_scutl rfl rfl ?_ ?_; (· first | omega | (simp; omega))) | (refine m_scuth rfl rfl ?_ ?_; (· first | omega | (simp; omega))) | (refine m_slen rfl ?_) | (refine m_idx1_ro rfl rfl ?_ ?_; (· omega)) | (refine m_idx1_sl rfl rfl ?_ ?_; (· omega)) | (apply m_idx1_slj; (· rfl); (· rfl); (· assumption); (· omega)) | (apply m_idx1_roj; (· rfl); (· rfl); (· assumption); (· omega)) | (refine m_idx_ro rfl rfl ?_ ?_ ?_; (· omega); (· omega)) | (refine m_idx_sl rfl rfl ?_ ?_ ?_; (· omega); (· omega)) | (apply m_st; (· rfl); (· rfl); (· rfl); (· first | omega | (simp; done) | (simp; omega)); (· rfl)) | (refine m_cut_hi rfl rfl ?_ ?_ ?_; (· first | rfl | omega | simp); (· first | omega | (simp; omega))) | (refine m_cut_lo rfl rfl ?_ ?_ ?_; (· first | rfl | omega | simp); (· first | omega | (simp; omega))) | (refine m_nils ?_) | (refine m_min rfl rfl ?_) | (refine m_stall rfl rfl rfl ?_ ?_ ?_ ?_; (· first | rfl | (simp [*]; done)); (· first | rfl | (simp [*]; done)); (· first | rfl | (simp [cellOk, Value.oneCell']; done))))) | refine end_ops ?_ | refine seq_ops ?_ | refine AW_ops ?_ | (refine cond_t rfl ?_ ?_; (· first | rfl | assumption | (refine decide_eq_true ?_; first | assumption | omega) | (refine nt ?_; first | assumption | omega) | (simp [*]; done))) | (refine cond_f rfl ?_ ?_; (· first | rfl | assumption | (refine decide_eq_false ?_; first | assumption | omega) | (refine nf ?_; first | assumption | omega) | (simp [*]; done))) | refine skip_then ?_ | refine AW_seq ?_ | refine AW_ret ?_ | refine ret_done ?_ | refine norm_then ?_ | refine ret_then ?_ | refine exit_then ?_ | refine AW_block ?_ | refine norm_block ?_ | refine ret_block ?_ | refine ret_round ?_ | refine exit_round ?_ | refine AW_exit ?_ | refine exit_block ?_ | (refine exit_other ?_ ?_; (· decide)) | refine AW_skip ?_)
    refine step_ops ?_
    refine m_cut_sl (l := 0) (h := done.length + 1) rfl rfl ⟨_, rfl⟩ (Nat.zero_le _) (by omega) ?_
    repeat (first | (refine step_ops ?_; (first | (refine m_mov (by conv => lhs; whnf) ?_) | (refine m_lss rfl rfl ?_) | (refine m_eql rfl rfl ?_) | (refine m_eqk rfl rfl ?_) | (refine m_eqs rfl rfl ?_) | (refine m_add rfl rfl ?_ ?_ ?_; (· omega); (· omega)) | (refine m_adds rfl rfl ?_ ?_; (· first | omega | (simp; omega))) | (refine m_sub rfl rfl ?_ ?_ ?_; (· omega); (· omega)) | (refine m_scutl rfl rfl ?_ ?_; (· first | omega | (simp; omega))) | (refine m_scuth rfl rfl ?_ ?_; (· first | omega | (simp; omega))) | (refine m_slen rfl ?_) | (refine m_idx1_ro rfl rfl ?_ ?_; (· omega)) | (refine m_idx1_sl rfl rfl ?_ ?_; (· omega)) | (apply m_idx1_slj; (· rfl); (· rfl); (· assumption); (· omega)) | (apply m_idx1_roj; (· rfl); (· rfl); (· assumption); (· omega)) | (refine m_idx_ro rfl rfl ?_ ?_ ?_; (· omega); (· omega)) | (refine m_idx_sl rfl rfl ?_ ?_ ?_; (· omega); (· omega)) | (apply m_st; (· rfl); (· rfl); (· rfl); (· first | omega | (simp; done) | (simp; omega)); (· rfl)) | (refine m_cut_hi rfl rfl ?_ ?_ ?_; (· first | rfl | omega | simp); (· first | omega | (simp; omega))) | (refine m_cut_lo rfl rfl ?_ ?_ ?_; (· first | rfl | omega | simp); (· first | omega | (simp; omega))) | (refine m_nils ?_) | (refine m_min rfl rfl ?_) | (refine m_stall rfl rfl rfl ?_ ?_ ?_ ?_; (· first | rfl | (simp [*]; done)); (· first | rfl | (simp [*]; done)); (· first | rfl | (simp [cellOk, Value.oneCell']; done))))) | refine end_ops ?_ | refine seq_ops ?_ | refine AW_ops ?_ | (refine cond_t rfl ?_ ?_; (· first | rfl | assumption | (refine decide_eq_true ?_; first | assumption | omega) | (refine nt ?_; first | assumption | omega) | (simp [*]; done))) | (refine cond_f rfl ?_ ?_; (· first | rfl | assumption | (refine decide_eq_false ?_; first | assumption | omega) | (refine nf ?_; first | assumption | omega) | (simp [*]; done))) | refine skip_then ?_ | refine AW_seq ?_ | refine AW_ret ?_ | refine ret_done ?_ | refine norm_then ?_ | refine ret_then ?_ | refine exit_then ?_ | refine AW_block ?_ | refine norm_block ?_ | refine ret_block ?_ | refine ret_round ?_ | refine exit_round ?_ | refine AW_exit ?_ | refine exit_block ?_ | (refine exit_other ?_ ?_; (· decide)) | refine AW_skip ?_)
    rw [hfin]
    exact hout rfl
theorem splitN_spec (B : List UInt8) (hB : B.length ≤ 1048576) : Sp Tryd.prog 22 [str B, str [47], .i 9] (.ro true 1 (strs (splitNB 8 B)) (splitNB 8 B).length) := by
  refine spec_of Tryd.func22 rfl cc22 rfl ?_
  unfold ac22
  repeat (first | (refine step_ops ?_; (first | (refine m_mov (by conv => lhs; whnf) ?_) | (refine m_nils ?_))) | refine end_ops ?_ | refine seq_ops ?_ | refine AW_ops ?_ | refine AW_seq ?_ | refine AW_ret ?_ | refine ret_done ?_ | refine norm_then ?_ | refine ret_then ?_ | refine exit_then ?_)
  refine step_ops ?_
  refine m_callo (genSplit_spec B hB) ?_ (strs_plain _) ?_
  · exact lends_cons lend_v (lends_cons lend_v (lends_cons lend_v (lends_cons lend_v lends_nil)))
  repeat (first | (refine step_ops ?_; (first | (refine m_mov (by conv => lhs; whnf) ?_) | (refine m_nils ?_))) | refine end_ops ?_ | refine seq_ops ?_ | refine AW_ops ?_ | refine AW_seq ?_ | refine AW_ret ?_ | refine ret_done ?_ | refine norm_then ?_ | refine ret_then ?_ | refine exit_then ?_)
  exact outs_sl rfl (by rw [strs_len, Nat.mul_one]) (strs_plain _)
end Go.Proofs.YtddlddnjchhniaaDoor
namespace Go.Proofs.YtddlddnjchhniaaDoor
open Go.Am
attribute [local irreducible] AW Outs Weak Lends Lend Sp aops atree aop1 Then Round InBlock Done
theorem setHas_spec (a g : Nat) (ha : a < 65536) (hg : g < 16) : Sp Tryd.prog 28 [.u a, .i g] (.b (a.testBit g)) := by
  refine spec_of Tryd.func28 rfl cc28 rfl ?_
  unfold ac28
  repeat (first | (refine step_ops ?_; (first | (refine m_mov (by conv => lhs; whnf) ?_) | (refine m_eql rfl rfl ?_) | (refine m_eqk rfl rfl ?_) | (refine m_eqs rfl rfl ?_))) | refine end_ops ?_ | refine seq_ops ?_ | refine AW_ops ?_ | refine AW_seq ?_ | refine AW_ret ?_ | refine ret_done ?_ | refine norm_then ?_ | refine ret_then ?_ | refine exit_then ?_)
  refine step_ops ?_
  refine m_shr16 (a := a) (k := g) rfl rfl hg ?_
  refine step_ops ?_
  refine m_and16_1 (a := a >>> g) rfl rfl (Nat.lt_of_le_of_lt (Nat.shiftRight_le a g) ha) ?_
  refine step_ops ?_
  refine m_eql16_1 (a := (a >>> g) &&& 1) rfl rfl ?_
  rw [bit_and]
  repeat (first | (refine step_ops ?_; (first | (refine m_mov (by conv => lhs; whnf) ?_) | (refine m_eql rfl rfl ?_) | (refine m_eqk rfl rfl ?_) | (refine m_eqs rfl rfl ?_))) | refine end_ops ?_ | refine seq_ops ?_ | refine AW_ops ?_ | refine AW_seq ?_ | refine AW_ret ?_ | refine ret_done ?_ | refine norm_then ?_ | refine ret_then ?_ | refine exit_then ?_)
  exact outs_b rfl
theorem outs_u {s : AS} {a b : Nat} (h : a = b) : Outs s (.u a) (.u b) := by
  subst h; exact outs_v
theorem setWith_spec (a g : Nat) (ha : a < 65536) (hg : g < 16) : Sp Tryd.prog 29 [.u a, .i g] (.u (a ||| 1 <<< g)) := by
  refine spec_of Tryd.func29 rfl cc29 rfl ?_
  unfold ac29
  repeat (first | (refine step_ops ?_; (refine m_mov (by conv => lhs; whnf) ?_)) | refine end_ops ?_ | refine seq_ops ?_ | refine AW_ops ?_ | refine AW_seq ?_ | refine AW_ret ?_ | refine ret_done ?_ | refine norm_then ?_ | refine ret_then ?_ | refine exit_then ?_)
  refine step_ops ?_
  refine m_shl16 (k := g) rfl rfl hg ?_
  refine step_ops ?_
  refine m_or16 (a := a) (b := 1 <<< g) rfl rfl ha (shl16_lt hg) ?_
  repeat (first | (refine step_ops ?_; (refine m_mov (by conv => lhs; whnf) ?_)) | refine end_ops ?_ | refine seq_ops ?_ | refine AW_ops ?_ | refine AW_seq ?_ | refine AW_ret ?_ | refine ret_done ?_ | refine norm_then ?_ | refine ret_then ?_ | refine exit_then ?_)
  exact outs_u rfl
end Go.Proofs.YtddlddnjchhniaaDoor
namespace Go.Proofs.YtddlddnjchhniaaDoor
open Go.Am
attribute [local irreducible] AW Outs Weak Lends Lend Sp aops atree aop1 Then Round InBlock Done
/-- What an exchange is. -/
def IsEx (L : List Int) : Prop := 1 ≤ L.length ∧ L.length ≤ 12 ∧ (∀ x ∈ L, 0 ≤ x ∧ x < L.length) ∧ L.Nodup
instance (L : List Int) : Decidable (IsEx L) := inferInstanceAs (Decidable (_ ∧ _ ∧ _ ∧ _))
end Go.Proofs.YtddlddnjchhniaaDoor
namespace Go.Proofs.YtddlddnjchhniaaDoor
open Go.Am
attribute [local irreducible] AW Outs Weak Lends Lend Sp aops atree aop1 Then Round InBlock Done
theorem u8_eq {c : UInt8} {n : Nat} (h : c.toNat = n) (k : UInt8) (hk : k.toNat = n) : c = k := UInt8.toNat_inj.1 (h.trans hk.symm)
end Go.Proofs.YtddlddnjchhniaaDoor
namespace Go.Proofs.YtddlddnjchhniaaDoor
open Go.Am
attribute [local irreducible] AW Outs Weak Lends Lend Sp aops atree aop1 Then Round InBlock Done
theorem strs_at {l : List (List UInt8)} {k : Nat} (h : k < l.length) : ((strs l).drop k)[0]? = some (str (l.getD k [])) := by
  simp [strs, h]
/-- A row that is one of n signs. -/
def OkRow (n : Nat) (r : List UInt8) : Prop := r.length = n ∧ ∀ c ∈ r, c = 46 ∨ c = 35
theorem good_iff {B : List UInt8} (h : B.count 47 ≤ 7) : GoodBd B ↔ ∀ i < sdB B, OkRow (sdB B) ((splitB B).getD i []) := by
  have hl := splitB_len B
  constructor
  · intro hg i hi
    exact hg.2 _ (getD_memL (by rw [hl]; exact hi))
  · intro hg
    refine ⟨h, fun r hr => ?_⟩
    obtain ⟨i, hi, rfl⟩ := List.getElem_of_mem hr
    have := hg i (by rw [hl] at hi; exact hi)
    rw [getD_get hi] at this
    exact this
theorem all_snoc {n : Nat} {rows : List (List UInt8)} {k : Nat} (h : ∀ i < k, OkRow n (rows.getD i [])) (hk : OkRow n (rows.getD k [])) : ∀ i < k + 1, OkRow n (rows.getD i []) := by
  intro i hi
  by_cases e : i = k
  · subst e; exact hk
  · exact h i (by omega)
end Go.Proofs.YtddlddnjchhniaaDoor
namespace Go.Proofs.YtddlddnjchhniaaDoor
open Go.Am Go.WideMaps
theorem place_law : KeyLaw Tryd.prog 38 := deep_law (m := 2) (by omega) (by kernel_rfl) (by kernel_rfl) (by kernel_rfl)
theorem place_type : Tryd.prog.keyType 38 = true := by kernel_rfl
theorem place_cells : Tryd.prog.cellsOf 38 = 2 := by kernel_rfl
theorem types_size : ∃ m, Tryd.prog.types.size = m + 1 := ⟨Tryd.prog.types.size - 1, by kernel_rfl⟩
theorem int_under : Tryd.prog.underlying 3 = some (.int .i64) := by kernel_rfl
theorem int_cells : Tryd.prog.cellsOf 3 = 1 := by kernel_rfl
theorem lits_int {a : Int} (ha : (Lit.int .i64 a).wf = true) (m : Nat) : Tryd.prog.keyLits (m + 1) 3 [.int .i64 a] = some [.int .i64 a] := by
  unfold Program.keyLits
  simp [ha]
theorem key_place {a b : Int} (ha : (Lit.int .i64 a).wf = true) (hb : (Lit.int .i64 b).wf = true) : ∃ l, keyOf Tryd.prog 38 (keyP a b) = some l := by
  obtain ⟨m, hm⟩ := types_size
  unfold keyOf keyP
  rw [Tryd.underlying38]
  simp only [place_type, Bool.true_and]
  rw [if_pos (by simp [Value.formed, Tryd.underlying38, place_cells]), hm]
  unfold Program.keyLits
  simp [Tryd.underlying38, Value.cells, place_cells, int_cells, lits_int ha, lits_int hb]
theorem wf_int {a : Int} (h1 : -9223372036854775808 ≤ a) (h2 : a ≤ 9223372036854775807) : (Lit.int .i64 a).wf = true := by
  simp [Lit.wf, IntKind.min, IntKind.max, IntKind.signed, IntKind.bits, h1, h2]
theorem keys_place {l : List (Nat × Nat)} (h : ∀ p ∈ l, p.1 < 1000 ∧ p.2 < 1000) : ∀ e ∈ (mkEs l).toList, ∃ q, keyOf Tryd.prog 38 e.key = some q := by
  intro e he
  obtain ⟨p, hp, hk, _⟩ := mem_mkEs he
  have := h p hp
  rw [hk]
  exact key_place (wf_int (by omega) (by omega)) (wf_int (by omega) (by omega))
/-- A place that is not in a map is put into it. -/
theorem m_putPlace {own : Bool} {s : AS} {K : AS → Prop} {x i y : Opd} {r : Nat} {l : List (Nat × Nat)} {a b : Nat} (h : ∀ p ∈ l, p.1 < 1000 ∧ p.2 < 1000) (hx : s.ev x = .mp r) (hr : s.hp r = some (true, [.ob (.map (mkEs l) l.length)])) (hi : exV (s.ev i) = some (keyP a b)) (hy : s.ev y = .v (.bool true))
    (ha : a < 1000) (hb : b < 1000) (hn : (a, b) ∉ l) (k : K (s.mem r (true, [.ob (.map (mkEs (l ++ [(a, b)])) (l ++ [(a, b)]).length)]))) : aop1 Tryd.prog own ⟨none, .mputk 38 x i y, none⟩ s K := by
  refine m_mputk place_law hx hr hi hy (key_place (wf_int (by omega) (by omega)) (wf_int (by omega) (by omega))) (keys_place h) ?_ ?_
  · intro e he hk
    obtain ⟨p, hp, h1, _⟩ := mem_mkEs he
    rw [h1] at hk
    obtain ⟨e1, e2⟩ := keyP_inj hk
    have : p = (a, b) := Prod.ext (by omega) (by omega)
    exact hn (this ▸ hp)
  · rw [show l.length + 1 = (l ++ [(a, b)]).length by simp]
    rw [← mkEs_push l (a, b)] at k
    exact k
end Go.Proofs.YtddlddnjchhniaaDoor
namespace Go.Proofs.YtddlddnjchhniaaDoor
open Go.Am
attribute [local irreducible] AW Outs Weak Lends Lend Sp aops atree aop1 Then Round InBlock Done
theorem isSide_spec (n : Int) : Sp Tryd.prog 17 [.i n] (.b (decide (1 ≤ n ∧ n ≤ 8))) := by
  refine spec_of Tryd.func17 rfl cc17 rfl ?_
  unfold ac17
  by_cases h1 : 1 ≤ n
  · by_cases h2 : n ≤ 8
    · repeat (first | (refine step_ops ?_; (first | ((try (refine g_yes rfl ?_ ?_; (· first | rfl | assumption | (refine decide_eq_true ?_; first | assumption | omega) | (refine nt ?_; first | assumption | omega) | (simp [*]; done) | (refine decide_eq_false ?_; first | assumption | omega) | (refine nf ?_; first | assumption | omega)))); (first | (refine m_mov (by conv => lhs; whnf) ?_) | (refine m_leq rfl rfl ?_) | (refine m_geq rfl rfl ?_) | (refine m_pick_t rfl ?_ (by conv => lhs; whnf) ?_; (· first | rfl | assumption | (refine decide_eq_true ?_; first | assumption | omega) | (refine nt ?_; first | assumption | omega) | (simp [*]; done))) | (refine m_pick_f rfl ?_ (by conv => lhs; whnf) ?_; (· first | rfl | assumption | (refine decide_eq_false ?_; first | assumption | omega) | (refine nf ?_; first | assumption | omega) | (simp [*]; done))))) | (refine g_noT rfl ?_ ?_; (· first | rfl | assumption | (refine decide_eq_false ?_; first | assumption | omega) | (refine nf ?_; first | assumption | omega) | (simp [*]; done))))) | refine end_ops ?_ | refine seq_ops ?_ | refine AW_ops ?_ | refine AW_seq ?_ | refine AW_ret ?_ | refine ret_done ?_ | refine norm_then ?_ | refine ret_then ?_ | refine exit_then ?_)
      exact outs_b (by simp [h1, h2])
    · repeat (first | (refine step_ops ?_; (first | ((try (refine g_yes rfl ?_ ?_; (· first | rfl | assumption | (refine decide_eq_true ?_; first | assumption | omega) | (refine nt ?_; first | assumption | omega) | (simp [*]; done) | (refine decide_eq_false ?_; first | assumption | omega) | (refine nf ?_; first | assumption | omega)))); (first | (refine m_mov (by conv => lhs; whnf) ?_) | (refine m_leq rfl rfl ?_) | (refine m_geq rfl rfl ?_) | (refine m_pick_t rfl ?_ (by conv => lhs; whnf) ?_; (· first | rfl | assumption | (refine decide_eq_true ?_; first | assumption | omega) | (refine nt ?_; first | assumption | omega) | (simp [*]; done))) | (refine m_pick_f rfl ?_ (by conv => lhs; whnf) ?_; (· first | rfl | assumption | (refine decide_eq_false ?_; first | assumption | omega) | (refine nf ?_; first | assumption | omega) | (simp [*]; done))))) | (refine g_noT rfl ?_ ?_; (· first | rfl | assumption | (refine decide_eq_false ?_; first | assumption | omega) | (refine nf ?_; first | assumption | omega) | (simp [*]; done))))) | refine end_ops ?_ | refine seq_ops ?_ | refine AW_ops ?_ | refine AW_seq ?_ | refine AW_ret ?_ | refine ret_done ?_ | refine norm_then ?_ | refine ret_then ?_ | refine exit_then ?_)
      exact outs_b (by simp [h2])
  · repeat (first | (refine step_ops ?_; (first | ((try (refine g_yes rfl ?_ ?_; (· first | rfl | assumption | (refine decide_eq_true ?_; first | assumption | omega) | (refine nt ?_; first | assumption | omega) | (simp [*]; done) | (refine decide_eq_false ?_; first | assumption | omega) | (refine nf ?_; first | assumption | omega)))); (first | (refine m_mov (by conv => lhs; whnf) ?_) | (refine m_leq rfl rfl ?_) | (refine m_geq rfl rfl ?_) | (refine m_pick_t rfl ?_ (by conv => lhs; whnf) ?_; (· first | rfl | assumption | (refine decide_eq_true ?_; first | assumption | omega) | (refine nt ?_; first | assumption | omega) | (simp [*]; done))) | (refine m_pick_f rfl ?_ (by conv => lhs; whnf) ?_; (· first | rfl | assumption | (refine decide_eq_false ?_; first | assumption | omega) | (refine nf ?_; first | assumption | omega) | (simp [*]; done))))) | (refine g_noT rfl ?_ ?_; (· first | rfl | assumption | (refine decide_eq_false ?_; first | assumption | omega) | (refine nf ?_; first | assumption | omega) | (simp [*]; done))))) | refine end_ops ?_ | refine seq_ops ?_ | refine AW_ops ?_ | refine AW_seq ?_ | refine AW_ret ?_ | refine ret_done ?_ | refine norm_then ?_ | refine ret_then ?_ | refine exit_then ?_)
    exact outs_b (by simp [h1])
/-- The places of a board. -/
def plB (B : List UInt8) : List (Nat × Nat) := posP (fbB B) (sdB B) (sdB B)
/-- A board that was read. -/
def bdV (fr : Bool) (B : List UInt8) : AV := if GoodBd B then .agg [.i (sdB B : Nat), .rmp fr (mkEs (plB B)) (plB B).length] else .agg [.i 0, .v (.map none)]
def bdR (fr : Bool) (B : List UInt8) : AV := .tup [bdV fr B, .b (decide (GoodBd B))]
theorem pos_lt {fb : Nat → Nat → Bool} {n k i j : Nat} (hn : n ≤ 8) (hk : k ≤ n) (hi : i < 8) (hj : j ≤ n) : ∀ p ∈ posP fb n k ++ rowP fb i j, p.1 < 1000 ∧ p.2 < 1000 := by
  intro p hp
  rcases List.mem_append.1 hp with hp | hp
  · have := mem_posP.1 hp; omega
  · have := mem_rowP.1 hp; omega
theorem readBoard_spec (B : List UInt8) (hB : B.length ≤ 1048576) : Sp Tryd.prog 20 [str B] (bdR true B) := by
  have hl := splitB_len B
  have hnl := splitNB_len 8 B
  refine specG_of Tryd.func20 rfl cc20 (by rfl) ?_
  unfold ac20
  by_cases hc7 : B.count 47 ≤ 7
  · have hsp : splitNB 8 B = splitB B := splitNB_all 8 B (by omega)
    have hspec := splitN_spec B hB
    rw [hsp] at hspec
    have hsd : sdB B = (splitB B).length := hl.symm
    have hsd8 : sdB B ≤ 8 := by unfold sdB; omega
    repeat (first | (refine step_ops ?_; (first | (refine m_mov (by conv => lhs; whnf) ?_) | (refine m_lss rfl rfl ?_) | (refine m_eql rfl rfl ?_) | (refine m_eqk rfl rfl ?_) | (refine m_eqs rfl rfl ?_) | (refine m_neq rfl rfl ?_) | (refine m_neqk rfl rfl ?_) | (refine m_neqs_self rfl rfl ?_) | (refine m_neqs rfl rfl ?_) | (refine m_add rfl rfl ?_ ?_ ?_; (· omega); (· omega)) | (refine m_adds rfl rfl ?_ ?_; (· first | omega | (simp; omega))) | (refine m_slen rfl ?_) | (refine m_six' rfl rfl ?_ ?_; (· first | omega | (simp; omega))) | (refine m_not rfl ?_) | (refine m_len_ro rfl ?_) | (refine m_len_sl rfl ?_) | (refine m_len_nil rfl ?_) | (refine m_idx1_ro rfl rfl ?_ ?_; (· omega)) | (refine m_idx1_sl rfl rfl ?_ ?_; (· omega)) | (apply m_idx1_slj; (· rfl); (· rfl); (· assumption); (· omega)) | (apply m_idx1_roj; (· rfl); (· rfl); (· assumption); (· omega)) | (refine m_idx_ro rfl rfl ?_ ?_ ?_; (· omega); (· omega)) | (refine m_idx_sl rfl rfl ?_ ?_ ?_; (· omega); (· omega)) | (refine m_ld_rpi rfl ?_ ?_; (· omega)) | (refine m_ld_pti rfl (by rfl) ?_ ?_; (· first | omega | (simp; omega))) | (apply m_ld_ptb; (· rfl); (· rfl); (· assumption)) | (apply m_ld_rp; (· rfl); (· rfl)) | (apply m_ld_pt; (· rfl); (· rfl); (· rfl)) | (refine m_mmk ?_) | (refine m_alloc ?_) | (refine m_fa rfl ?_) | (refine m_fa_rp rfl ?_) | (refine m_bld rfl ?_) | (refine m_bld_1 (by conv => lhs; whnf) (by decide)  (by rfl) ?_) | (refine m_bld_2 (by conv => lhs; whnf) (by conv => lhs; whnf) (by decide)  (by decide) (by rfl) (by rfl) ?_) | (refine m_bld_3 (by conv => lhs; whnf) (by conv => lhs; whnf) (by conv => lhs; whnf) (by decide)  (by decide) (by decide) (by rfl) (by rfl) (by rfl) ?_) | (refine m_ldall rfl rfl ?_ ?_; (· first | rfl | (simp; done) | (simp [*]; done))) | (refine m_ldall_rp rfl rfl ?_) | (refine m_stall rfl rfl rfl ?_ ?_ ?_ ?_; (· first | rfl | (simp [*]; done)); (· first | rfl | (simp [*]; done)); (· first | rfl | (simp [cellOk, Value.oneCell']; done))))) | refine end_ops ?_ | refine seq_ops ?_ | refine AW_ops ?_ | (refine cond_t rfl ?_ ?_; (· first | rfl | assumption | (refine decide_eq_true ?_; first | assumption | omega) | (refine nt ?_; first | assumption | omega) | (simp [*]; done))) | (refine cond_f rfl ?_ ?_; (· first | rfl | assumption | (refine decide_eq_false ?_; first | assumption | omega) | (refine nf ?_; first | assumption | omega) | (simp [*]; done))) | refine skip_then ?_ | refine AW_seq ?_ | refine AW_ret ?_ | refine ret_done ?_ | refine norm_then ?_ | refine ret_then ?_ | refine exit_then ?_ | refine AW_block ?_ | refine norm_block ?_ | refine ret_block ?_ | refine ret_round ?_ | refine exit_round ?_ | refine AW_exit ?_ | refine exit_block ?_ | (refine exit_other ?_ ?_; (· decide)) | refine AW_skip ?_)
    (refine step_ops ?_); (apply m_call (hspec)); (· repeat (first | exact lends_nil | (refine lends_cons ?_ ?_; (· (first | exact lend_v | (refine lend_roM rfl; done) | (refine lend_mat rfl ?_; intro j hj; simp (disch := first | omega | assumption) only [hp_put, hp_mem_ne, hp_kill_ne]; first | exact stM_row rfl hj | (rw [stM_row rfl hj]; rfl)) | (refine lend_ints ?_; first | rfl | omega) | (refine lend_sli (by rfl) ?_; first | rfl | omega | (simp; done)) | (refine lend_pln rfl; done) | (refine lend_plns rfl rfl; done) | (refine lend_txr rfl; done) | (refine lend_txs rfl rfl; done) | exact lend_any | (refine lend_agg ?_; first | rfl | assumption | (simp [plainV]; done)))))))
    repeat (first | (refine step_ops ?_; (first | (refine m_mov (by conv => lhs; whnf) ?_) | (refine m_lss rfl rfl ?_) | (refine m_eql rfl rfl ?_) | (refine m_eqk rfl rfl ?_) | (refine m_eqs rfl rfl ?_) | (refine m_neq rfl rfl ?_) | (refine m_neqk rfl rfl ?_) | (refine m_neqs_self rfl rfl ?_) | (refine m_neqs rfl rfl ?_) | (refine m_add rfl rfl ?_ ?_ ?_; (· omega); (· omega)) | (refine m_adds rfl rfl ?_ ?_; (· first | omega | (simp; omega))) | (refine m_slen rfl ?_) | (refine m_six' rfl rfl ?_ ?_; (· first | omega | (simp; omega))) | (refine m_not rfl ?_) | (refine m_len_ro rfl ?_) | (refine m_len_sl rfl ?_) | (refine m_len_nil rfl ?_) | (refine m_idx1_ro rfl rfl ?_ ?_; (· omega)) | (refine m_idx1_sl rfl rfl ?_ ?_; (· omega)) | (apply m_idx1_slj; (· rfl); (· rfl); (· assumption); (· omega)) | (apply m_idx1_roj; (· rfl); (· rfl); (· assumption); (· omega)) | (refine m_idx_ro rfl rfl ?_ ?_ ?_; (· omega); (· omega)) | (refine m_idx_sl rfl rfl ?_ ?_ ?_; (· omega); (· omega)) | (refine m_ld_rpi rfl ?_ ?_; (· omega)) | (refine m_ld_pti rfl (by rfl) ?_ ?_; (· first | omega | (simp; omega))) | (apply m_ld_ptb; (· rfl); (· rfl); (· assumption)) | (apply m_ld_rp; (· rfl); (· rfl)) | (apply m_ld_pt; (· rfl); (· rfl); (· rfl)) | (refine m_mmk ?_) | (refine m_alloc ?_) | (refine m_fa rfl ?_) | (refine m_fa_rp rfl ?_) | (refine m_bld rfl ?_) | (refine m_bld_1 (by conv => lhs; whnf) (by decide)  (by rfl) ?_) | (refine m_bld_2 (by conv => lhs; whnf) (by conv => lhs; whnf) (by decide)  (by decide) (by rfl) (by rfl) ?_) | (refine m_bld_3 (by conv => lhs; whnf) (by conv => lhs; whnf) (by conv => lhs; whnf) (by decide)  (by decide) (by decide) (by rfl) (by rfl) (by rfl) ?_) | (refine m_ldall rfl rfl ?_ ?_; (· first | rfl | (simp; done) | (simp [*]; done))) | (refine m_ldall_rp rfl rfl ?_) | (refine m_stall rfl rfl rfl ?_ ?_ ?_ ?_; (· first | rfl | (simp [*]; done)); (· first | rfl | (simp [*]; done)); (· first | rfl | (simp [cellOk, Value.oneCell']; done))))) | refine end_ops ?_ | refine seq_ops ?_ | refine AW_ops ?_ | (refine cond_t rfl ?_ ?_; (· first | rfl | assumption | (refine decide_eq_true ?_; first | assumption | omega) | (refine nt ?_; first | assumption | omega) | (simp [*]; done))) | (refine cond_f rfl ?_ ?_; (· first | rfl | assumption | (refine decide_eq_false ?_; first | assumption | omega) | (refine nf ?_; first | assumption | omega) | (simp [*]; done))) | refine skip_then ?_ | refine AW_seq ?_ | refine AW_ret ?_ | refine ret_done ?_ | refine norm_then ?_ | refine ret_then ?_ | refine exit_then ?_ | refine AW_block ?_ | refine norm_block ?_ | refine ret_block ?_ | refine ret_round ?_ | refine exit_round ?_ | refine AW_exit ?_ | refine exit_block ?_ | (refine exit_other ?_ ?_; (· decide)) | refine AW_skip ?_)
    (refine step_ops ?_); (apply m_call (isSide_spec _)); (· repeat (first | exact lends_nil | (refine lends_cons ?_ ?_; (· (first | exact lend_v | (refine lend_roM rfl; done) | (refine lend_mat rfl ?_; intro j hj; simp (disch := first | omega | assumption) only [hp_put, hp_mem_ne, hp_kill_ne]; first | exact stM_row rfl hj | (rw [stM_row rfl hj]; rfl)) | (refine lend_ints ?_; first | rfl | omega) | (refine lend_sli (by rfl) ?_; first | rfl | omega | (simp; done)) | (refine lend_pln rfl; done) | (refine lend_plns rfl rfl; done) | (refine lend_txr rfl; done) | (refine lend_txs rfl rfl; done) | exact lend_any | (refine lend_agg ?_; first | rfl | assumption | (simp [plainV]; done)))))))
    repeat (first | (refine step_ops ?_; (first | (refine m_mov (by conv => lhs; whnf) ?_) | (refine m_lss rfl rfl ?_) | (refine m_eql rfl rfl ?_) | (refine m_eqk rfl rfl ?_) | (refine m_eqs rfl rfl ?_) | (refine m_neq rfl rfl ?_) | (refine m_neqk rfl rfl ?_) | (refine m_neqs_self rfl rfl ?_) | (refine m_neqs rfl rfl ?_) | (refine m_add rfl rfl ?_ ?_ ?_; (· omega); (· omega)) | (refine m_adds rfl rfl ?_ ?_; (· first | omega | (simp; omega))) | (refine m_slen rfl ?_) | (refine m_six' rfl rfl ?_ ?_; (· first | omega | (simp; omega))) | (refine m_not rfl ?_) | (refine m_len_ro rfl ?_) | (refine m_len_sl rfl ?_) | (refine m_len_nil rfl ?_) | (refine m_idx1_ro rfl rfl ?_ ?_; (· omega)) | (refine m_idx1_sl rfl rfl ?_ ?_; (· omega)) | (apply m_idx1_slj; (· rfl); (· rfl); (· assumption); (· omega)) | (apply m_idx1_roj; (· rfl); (· rfl); (· assumption); (· omega)) | (refine m_idx_ro rfl rfl ?_ ?_ ?_; (· omega); (· omega)) | (refine m_idx_sl rfl rfl ?_ ?_ ?_; (· omega); (· omega)) | (refine m_ld_rpi rfl ?_ ?_; (· omega)) | (refine m_ld_pti rfl (by rfl) ?_ ?_; (· first | omega | (simp; omega))) | (apply m_ld_ptb; (· rfl); (· rfl); (· assumption)) | (apply m_ld_rp; (· rfl); (· rfl)) | (apply m_ld_pt; (· rfl); (· rfl); (· rfl)) | (refine m_mmk ?_) | (refine m_alloc ?_) | (refine m_fa rfl ?_) | (refine m_fa_rp rfl ?_) | (refine m_bld rfl ?_) | (refine m_bld_1 (by conv => lhs; whnf) (by decide)  (by rfl) ?_) | (refine m_bld_2 (by conv => lhs; whnf) (by conv => lhs; whnf) (by decide)  (by decide) (by rfl) (by rfl) ?_) | (refine m_bld_3 (by conv => lhs; whnf) (by conv => lhs; whnf) (by conv => lhs; whnf) (by decide)  (by decide) (by decide) (by rfl) (by rfl) (by rfl) ?_) | (refine m_ldall rfl rfl ?_ ?_; (· first | rfl | (simp; done) | (simp [*]; done))) | (refine m_ldall_rp rfl rfl ?_) | (refine m_stall rfl rfl rfl ?_ ?_ ?_ ?_; (· first | rfl | (simp [*]; done)); (· first | rfl | (simp [*]; done)); (· first | rfl | (simp [cellOk, Value.oneCell']; done))))) | refine end_ops ?_ | refine seq_ops ?_ | refine AW_ops ?_ | (refine cond_t rfl ?_ ?_; (· first | rfl | assumption | (refine decide_eq_true ?_; first | assumption | omega) | (refine nt ?_; first | assumption | omega) | (simp [*]; done))) | (refine cond_f rfl ?_ ?_; (· first | rfl | assumption | (refine decide_eq_false ?_; first | assumption | omega) | (refine nf ?_; first | assumption | omega) | (simp [*]; done))) | refine skip_then ?_ | refine AW_seq ?_ | refine AW_ret ?_ | refine ret_done ?_ | refine norm_then ?_ | refine ret_then ?_ | refine exit_then ?_ | refine AW_block ?_ | refine norm_block ?_ | refine ret_block ?_ | refine ret_round ?_ | refine exit_round ?_ | refine AW_exit ?_ | refine exit_block ?_ | (refine exit_other ?_ ?_; (· decide)) | refine AW_skip ?_)
    refine step_opsW (weak_deep (r := 5) rfl (by simp) rfl) ?_
    refine m_stall (l := [.i (splitB B).length, .mp 18]) rfl rfl rfl rfl rfl rfl ?_
    repeat (first | (refine step_ops ?_; (first | (refine m_mov (by conv => lhs; whnf) ?_) | (refine m_lss rfl rfl ?_) | (refine m_eql rfl rfl ?_) | (refine m_eqk rfl rfl ?_) | (refine m_eqs rfl rfl ?_) | (refine m_neq rfl rfl ?_) | (refine m_neqk rfl rfl ?_) | (refine m_neqs_self rfl rfl ?_) | (refine m_neqs rfl rfl ?_) | (refine m_add rfl rfl ?_ ?_ ?_; (· omega); (· omega)) | (refine m_adds rfl rfl ?_ ?_; (· first | omega | (simp; omega))) | (refine m_slen rfl ?_) | (refine m_six' rfl rfl ?_ ?_; (· first | omega | (simp; omega))) | (refine m_not rfl ?_) | (refine m_len_ro rfl ?_) | (refine m_len_sl rfl ?_) | (refine m_len_nil rfl ?_) | (refine m_idx1_ro rfl rfl ?_ ?_; (· omega)) | (refine m_idx1_sl rfl rfl ?_ ?_; (· omega)) | (apply m_idx1_slj; (· rfl); (· rfl); (· assumption); (· omega)) | (apply m_idx1_roj; (· rfl); (· rfl); (· assumption); (· omega)) | (refine m_idx_ro rfl rfl ?_ ?_ ?_; (· omega); (· omega)) | (refine m_idx_sl rfl rfl ?_ ?_ ?_; (· omega); (· omega)) | (refine m_ld_rpi rfl ?_ ?_; (· omega)) | (refine m_ld_pti rfl (by rfl) ?_ ?_; (· first | omega | (simp; omega))) | (apply m_ld_ptb; (· rfl); (· rfl); (· assumption)) | (apply m_ld_rp; (· rfl); (· rfl)) | (apply m_ld_pt; (· rfl); (· rfl); (· rfl)) | (refine m_mmk ?_) | (refine m_alloc ?_) | (refine m_fa rfl ?_) | (refine m_fa_rp rfl ?_) | (refine m_bld rfl ?_) | (refine m_bld_1 (by conv => lhs; whnf) (by decide)  (by rfl) ?_) | (refine m_bld_2 (by conv => lhs; whnf) (by conv => lhs; whnf) (by decide)  (by decide) (by rfl) (by rfl) ?_) | (refine m_bld_3 (by conv => lhs; whnf) (by conv => lhs; whnf) (by conv => lhs; whnf) (by decide)  (by decide) (by decide) (by rfl) (by rfl) (by rfl) ?_) | (refine m_ldall rfl rfl ?_ ?_; (· first | rfl | (simp; done) | (simp [*]; done))) | (refine m_ldall_rp rfl rfl ?_) | (refine m_stall rfl rfl rfl ?_ ?_ ?_ ?_; (· first | rfl | (simp [*]; done)); (· first | rfl | (simp [*]; done)); (· first | rfl | (simp [cellOk, Value.oneCell']; done))))) | refine end_ops ?_ | refine seq_ops ?_ | refine AW_ops ?_ | (refine cond_t rfl ?_ ?_; (· first | rfl | assumption | (refine decide_eq_true ?_; first | assumption | omega) | (refine nt ?_; first | assumption | omega) | (simp [*]; done))) | (refine cond_f rfl ?_ ?_; (· first | rfl | assumption | (refine decide_eq_false ?_; first | assumption | omega) | (refine nf ?_; first | assumption | omega) | (simp [*]; done))) | refine skip_then ?_ | refine AW_seq ?_ | refine AW_ret ?_ | refine ret_done ?_ | refine norm_then ?_ | refine ret_then ?_ | refine exit_then ?_ | refine AW_block ?_ | refine norm_block ?_ | refine ret_block ?_ | refine ret_round ?_ | refine exit_round ?_ | refine AW_exit ?_ | refine exit_block ?_ | (refine exit_other ?_ ?_; (· decide)) | refine AW_skip ?_)
    refine AW_loop (α := Nat) (fun k => k ≤ sdB B ∧ ∀ i < k, OkRow (sdB B) ((splitB B).getD i []))
      (fun k => st [(2, .pt 2 0), (5, .pt 5 0), (20, .ro true 1 (strs (splitB B)) (splitB B).length), (21, .i (splitB B).length), (22, .i k)]
        [(2, (true, [.i 0, .v (.map none)])), (5, (false, [.i (splitB B).length, .mp 18])), (18, (true, [.ob (.map (mkEs (posP (fbB B) (sdB B) k)) (posP (fbB B) (sdB B) k).length)]))]) (fun k => sdB B - k) 0 ⟨Nat.zero_le _, fun i hi => by omega⟩ (weak_st ?_ ?_ rfl rfl) ?_
    · (repeat' (first | exact trivial | refine And.intro ?_ ?_)) <;> (first | rfl | skip)
    · (repeat' (first | exact trivial | refine And.intro ?_ ?_)) <;> (first | rfl | skip)
    rintro k ⟨hk, hok⟩
    by_cases hc : k < (splitB B).length
    · have hat := strs_at hc
      obtain ⟨row, hrow⟩ : ∃ row, row = (splitB B).getD k [] := ⟨_, rfl⟩
      rw [← hrow] at hat
      have hsn : OkRow (sdB B) row → ∀ i < k + 1, OkRow (sdB B) ((splitB B).getD i []) := fun h => all_snoc hok (by rw [← hrow]; exact h)
      have hbad : ¬ OkRow (sdB B) row → ¬ GoodBd B := fun h hg => h (by rw [hrow]; exact (good_iff hc7).1 hg k (by omega))
      have hfb : ∀ j, fbB B k j = decide (row.getD j 0 = 35) := fun j => by rw [hrow]; rfl
      have hout : ∀ {s : AS}, ¬ GoodBd B → s.tm 2 = .pt 2 0 → s.hp 2 = some (true, [.i 0, .v (.map none)]) → s.tm 3 = .b false → DoneG [.c 2 2, .t 3] (bdR true B) .ret s := by
        intro s hng h1 h2 h3
        refine ret_doneg2 h1 h2 rfl ?_
        unfold bdR bdV
        rw [h3, if_neg hng, decide_eq_false hng]
        exact outs_tup2 (outs_agg rfl) (outs_b rfl)
      by_cases hlen : row.length = (splitB B).length
      · repeat (first | (refine step_ops ?_; (first | (refine m_mov (by conv => lhs; whnf) ?_) | (refine m_lss rfl rfl ?_) | (refine m_eql rfl rfl ?_) | (refine m_eqk rfl rfl ?_) | (refine m_eqs rfl rfl ?_) | (refine m_neq rfl rfl ?_) | (refine m_neqk rfl rfl ?_) | (refine m_neqs_self rfl rfl ?_) | (refine m_neqs rfl rfl ?_) | (refine m_add rfl rfl ?_ ?_ ?_; (· omega); (· omega)) | (refine m_adds rfl rfl ?_ ?_; (· first | omega | (simp; omega))) | (refine m_slen rfl ?_) | (refine m_six' rfl rfl ?_ ?_; (· first | omega | (simp; omega))) | (refine m_not rfl ?_) | (refine m_len_ro rfl ?_) | (refine m_len_sl rfl ?_) | (refine m_len_nil rfl ?_) | (refine m_idx1_ro rfl rfl ?_ ?_; (· omega)) | (refine m_idx1_sl rfl rfl ?_ ?_; (· omega)) | (apply m_idx1_slj; (· rfl); (· rfl); (· assumption); (· omega)) | (apply m_idx1_roj; (· rfl); (· rfl); (· assumption); (· omega)) | (refine m_idx_ro rfl rfl ?_ ?_ ?_; (· omega); (· omega)) | (refine m_idx_sl rfl rfl ?_ ?_ ?_; (· omega); (· omega)) | (refine m_ld_rpi rfl ?_ ?_; (· omega)) | (refine m_ld_pti rfl (by rfl) ?_ ?_; (· first | omega | (simp; omega))) | (apply m_ld_ptb; (· rfl); (· rfl); (· assumption)) | (apply m_ld_rp; (· rfl); (· rfl)) | (apply m_ld_pt; (· rfl); (· rfl); (· rfl)) | (refine m_mmk ?_) | (refine m_alloc ?_) | (refine m_fa rfl ?_) | (refine m_fa_rp rfl ?_) | (refine m_bld rfl ?_) | (refine m_bld_1 (by conv => lhs; whnf) (by decide)  (by rfl) ?_) | (refine m_bld_2 (by conv => lhs; whnf) (by conv => lhs; whnf) (by decide)  (by decide) (by rfl) (by rfl) ?_) | (refine m_bld_3 (by conv => lhs; whnf) (by conv => lhs; whnf) (by conv => lhs; whnf) (by decide)  (by decide) (by decide) (by rfl) (by rfl) (by rfl) ?_) | (refine m_ldall rfl rfl ?_ ?_; (· first | rfl | (simp; done) | (simp [*]; done))) | (refine m_ldall_rp rfl rfl ?_) | (refine m_stall rfl rfl rfl ?_ ?_ ?_ ?_; (· first | rfl | (simp [*]; done)); (· first | rfl | (simp [*]; done)); (· first | rfl | (simp [cellOk, Value.oneCell']; done))))) | refine end_ops ?_ | refine seq_ops ?_ | refine AW_ops ?_ | (refine cond_t rfl ?_ ?_; (· first | rfl | assumption | (refine decide_eq_true ?_; first | assumption | omega) | (refine nt ?_; first | assumption | omega) | (simp [*]; done))) | (refine cond_f rfl ?_ ?_; (· first | rfl | assumption | (refine decide_eq_false ?_; first | assumption | omega) | (refine nf ?_; first | assumption | omega) | (simp [*]; done))) | refine skip_then ?_ | refine AW_seq ?_ | refine AW_ret ?_ | refine ret_done ?_ | refine norm_then ?_ | refine ret_then ?_ | refine exit_then ?_ | refine AW_block ?_ | refine norm_block ?_ | refine ret_block ?_ | refine ret_round ?_ | refine exit_round ?_ | refine AW_exit ?_ | refine exit_block ?_ | (refine exit_other ?_ ?_; (· decide)) | refine AW_skip ?_)
        refine step_ops ?_
        refine m_ld_rp rfl hat ?_
        repeat (first | (refine step_ops ?_; (first | (refine m_mov (by conv => lhs; whnf) ?_) | (refine m_lss rfl rfl ?_) | (refine m_eql rfl rfl ?_) | (refine m_eqk rfl rfl ?_) | (refine m_eqs rfl rfl ?_) | (refine m_neq rfl rfl ?_) | (refine m_neqk rfl rfl ?_) | (refine m_neqs_self rfl rfl ?_) | (refine m_neqs rfl rfl ?_) | (refine m_add rfl rfl ?_ ?_ ?_; (· omega); (· omega)) | (refine m_adds rfl rfl ?_ ?_; (· first | omega | (simp; omega))) | (refine m_slen rfl ?_) | (refine m_six' rfl rfl ?_ ?_; (· first | omega | (simp; omega))) | (refine m_not rfl ?_) | (refine m_len_ro rfl ?_) | (refine m_len_sl rfl ?_) | (refine m_len_nil rfl ?_) | (refine m_idx1_ro rfl rfl ?_ ?_; (· omega)) | (refine m_idx1_sl rfl rfl ?_ ?_; (· omega)) | (apply m_idx1_slj; (· rfl); (· rfl); (· assumption); (· omega)) | (apply m_idx1_roj; (· rfl); (· rfl); (· assumption); (· omega)) | (refine m_idx_ro rfl rfl ?_ ?_ ?_; (· omega); (· omega)) | (refine m_idx_sl rfl rfl ?_ ?_ ?_; (· omega); (· omega)) | (refine m_ld_rpi rfl ?_ ?_; (· omega)) | (refine m_ld_pti rfl (by rfl) ?_ ?_; (· first | omega | (simp; omega))) | (apply m_ld_ptb; (· rfl); (· rfl); (· assumption)) | (apply m_ld_rp; (· rfl); (· rfl)) | (apply m_ld_pt; (· rfl); (· rfl); (· rfl)) | (refine m_mmk ?_) | (refine m_alloc ?_) | (refine m_fa rfl ?_) | (refine m_fa_rp rfl ?_) | (refine m_bld rfl ?_) | (refine m_bld_1 (by conv => lhs; whnf) (by decide)  (by rfl) ?_) | (refine m_bld_2 (by conv => lhs; whnf) (by conv => lhs; whnf) (by decide)  (by decide) (by rfl) (by rfl) ?_) | (refine m_bld_3 (by conv => lhs; whnf) (by conv => lhs; whnf) (by conv => lhs; whnf) (by decide)  (by decide) (by decide) (by rfl) (by rfl) (by rfl) ?_) | (refine m_ldall rfl rfl ?_ ?_; (· first | rfl | (simp; done) | (simp [*]; done))) | (refine m_ldall_rp rfl rfl ?_) | (refine m_stall rfl rfl rfl ?_ ?_ ?_ ?_; (· first | rfl | (simp [*]; done)); (· first | rfl | (simp [*]; done)); (· first | rfl | (simp [cellOk, Value.oneCell']; done))))) | refine end_ops ?_ | refine seq_ops ?_ | refine AW_ops ?_ | (refine cond_t rfl ?_ ?_; (· first | rfl | assumption | (refine decide_eq_true ?_; first | assumption | omega) | (refine nt ?_; first | assumption | omega) | (simp [*]; done))) | (refine cond_f rfl ?_ ?_; (· first | rfl | assumption | (refine decide_eq_false ?_; first | assumption | omega) | (refine nf ?_; first | assumption | omega) | (simp [*]; done))) | refine skip_then ?_ | refine AW_seq ?_ | refine AW_ret ?_ | refine ret_done ?_ | refine norm_then ?_ | refine ret_then ?_ | refine exit_then ?_ | refine AW_block ?_ | refine norm_block ?_ | refine ret_block ?_ | refine ret_round ?_ | refine exit_round ?_ | refine AW_exit ?_ | refine exit_block ?_ | (refine exit_other ?_ ?_; (· decide)) | refine AW_skip ?_)
        refine AW_loop (α := Nat) (fun j => j ≤ row.length ∧ ∀ c ∈ row.take j, c = 46 ∨ c = 35)
          (fun j => st [(2, .pt 2 0), (5, .pt 5 0), (6, .i k), (7, str row), (20, .ro true 1 (strs (splitB B)) (splitB B).length), (21, .i (splitB B).length), (22, .i k), (34, .i row.length), (35, .i j)]
            [(2, (true, [.i 0, .v (.map none)])), (5, (false, [.i (splitB B).length, .mp 18])), (18, (true, [.ob (.map (mkEs (posP (fbB B) (sdB B) k ++ rowP (fbB B) k j)) (posP (fbB B) (sdB B) k ++ rowP (fbB B) k j).length)]))]) (fun j => row.length - j) 0 ⟨Nat.zero_le _, fun c hc => by simp at hc⟩ (weak_st ?_ ?_ rfl rfl) ?_
        · (repeat' (first | exact trivial | refine And.intro ?_ ?_)) <;> (first | rfl | skip)
        · rw [show posP (fbB B) (sdB B) k ++ rowP (fbB B) k 0 = posP (fbB B) (sdB B) k by simp [rowP]]
          (repeat' (first | exact trivial | refine And.intro ?_ ?_)) <;> (first | rfl | skip)
        rintro j ⟨hj, hjok⟩
        by_cases hcj : j < row.length
        · have hts := take_snoc row j 0 hcj
          have hrs := rowP_snoc (fbB B) k j
          have hlt := pos_lt (fb := fbB B) (n := sdB B) (k := k) (i := k) (j := j) hsd8 (by omega) (by omega) (by omega)
          by_cases h46 : row.getD j 0 = 46
          · have h46' : ((row.getD j 0).toNat : Int) = 46 := by rw [h46]; rfl
            have hfj : fbB B k j = false := by rw [hfb, h46]; rfl
            rw [hfj] at hrs
            repeat (first | (refine step_ops ?_; (first | (refine m_mov (by conv => lhs; whnf) ?_) | (refine m_lss rfl rfl ?_) | (refine m_eql rfl rfl ?_) | (refine m_eqk rfl rfl ?_) | (refine m_eqs rfl rfl ?_) | (refine m_neq rfl rfl ?_) | (refine m_neqk rfl rfl ?_) | (refine m_neqs_self rfl rfl ?_) | (refine m_neqs rfl rfl ?_) | (refine m_add rfl rfl ?_ ?_ ?_; (· omega); (· omega)) | (refine m_adds rfl rfl ?_ ?_; (· first | omega | (simp; omega))) | (refine m_slen rfl ?_) | (refine m_six' rfl rfl ?_ ?_; (· first | omega | (simp; omega))) | (refine m_not rfl ?_) | (refine m_len_ro rfl ?_) | (refine m_len_sl rfl ?_) | (refine m_len_nil rfl ?_) | (refine m_idx1_ro rfl rfl ?_ ?_; (· omega)) | (refine m_idx1_sl rfl rfl ?_ ?_; (· omega)) | (apply m_idx1_slj; (· rfl); (· rfl); (· assumption); (· omega)) | (apply m_idx1_roj; (· rfl); (· rfl); (· assumption); (· omega)) | (refine m_idx_ro rfl rfl ?_ ?_ ?_; (· omega); (· omega)) | (refine m_idx_sl rfl rfl ?_ ?_ ?_; (· omega); (· omega)) | (refine m_ld_rpi rfl ?_ ?_; (· omega)) | (refine m_ld_pti rfl (by rfl) ?_ ?_; (· first | omega | (simp; omega))) | (apply m_ld_ptb; (· rfl); (· rfl); (· assumption)) | (apply m_ld_rp; (· rfl); (· rfl)) | (apply m_ld_pt; (· rfl); (· rfl); (· rfl)) | (refine m_mmk ?_) | (refine m_alloc ?_) | (refine m_fa rfl ?_) | (refine m_fa_rp rfl ?_) | (refine m_bld rfl ?_) | (refine m_bld_1 (by conv => lhs; whnf) (by decide)  (by rfl) ?_) | (refine m_bld_2 (by conv => lhs; whnf) (by conv => lhs; whnf) (by decide)  (by decide) (by rfl) (by rfl) ?_) | (refine m_bld_3 (by conv => lhs; whnf) (by conv => lhs; whnf) (by conv => lhs; whnf) (by decide)  (by decide) (by decide) (by rfl) (by rfl) (by rfl) ?_) | (refine m_ldall rfl rfl ?_ ?_; (· first | rfl | (simp; done) | (simp [*]; done))) | (refine m_ldall_rp rfl rfl ?_) | (refine m_stall rfl rfl rfl ?_ ?_ ?_ ?_; (· first | rfl | (simp [*]; done)); (· first | rfl | (simp [*]; done)); (· first | rfl | (simp [cellOk, Value.oneCell']; done))))) | refine end_ops ?_ | refine seq_ops ?_ | refine AW_ops ?_ | (refine cond_t rfl ?_ ?_; (· first | rfl | assumption | (refine decide_eq_true ?_; first | assumption | omega) | (refine nt ?_; first | assumption | omega) | (simp [*]; done))) | (refine cond_f rfl ?_ ?_; (· first | rfl | assumption | (refine decide_eq_false ?_; first | assumption | omega) | (refine nf ?_; first | assumption | omega) | (simp [*]; done))) | refine skip_then ?_ | refine AW_seq ?_ | refine AW_ret ?_ | refine ret_done ?_ | refine norm_then ?_ | refine ret_then ?_ | refine exit_then ?_ | refine AW_block ?_ | refine norm_block ?_ | refine ret_block ?_ | refine ret_round ?_ | refine exit_round ?_ | refine AW_exit ?_ | refine exit_block ?_ | (refine exit_other ?_ ?_; (· decide)) | refine AW_skip ?_)
            refine next_round (j + 1) ⟨hcj, fun c hc => ?_⟩ (weak_st ?_ ?_ rfl rfl) ?_
            · rw [hts] at hc
              rcases List.mem_append.1 hc with hc | hc
              · exact hjok c hc
              · rw [List.mem_singleton.1 hc]; exact .inl h46
            · (repeat' (first | exact trivial | refine And.intro ?_ ?_)) <;> (first | rfl | skip)
            · rw [hrs]
              simp only [Bool.false_eq_true, if_false, List.append_nil]
              (repeat' (first | exact trivial | refine And.intro ?_ ?_)) <;> (first | rfl | skip)
            · omega
          · have h46' : ¬ ((row.getD j 0).toNat : Int) = 46 := fun e => h46 (u8_eq (n := 46) (by omega) 46 rfl)
            by_cases h35 : row.getD j 0 = 35
            · have h35' : ((row.getD j 0).toNat : Int) = 35 := by rw [h35]; rfl
              have hfj : fbB B k j = true := by rw [hfb, h35]; rfl
              rw [hfj, if_pos rfl] at hrs
              repeat (first | (refine step_ops ?_; (first | (refine m_mov (by conv => lhs; whnf) ?_) | (refine m_lss rfl rfl ?_) | (refine m_eql rfl rfl ?_) | (refine m_eqk rfl rfl ?_) | (refine m_eqs rfl rfl ?_) | (refine m_neq rfl rfl ?_) | (refine m_neqk rfl rfl ?_) | (refine m_neqs_self rfl rfl ?_) | (refine m_neqs rfl rfl ?_) | (refine m_add rfl rfl ?_ ?_ ?_; (· omega); (· omega)) | (refine m_adds rfl rfl ?_ ?_; (· first | omega | (simp; omega))) | (refine m_slen rfl ?_) | (refine m_six' rfl rfl ?_ ?_; (· first | omega | (simp; omega))) | (refine m_not rfl ?_) | (refine m_len_ro rfl ?_) | (refine m_len_sl rfl ?_) | (refine m_len_nil rfl ?_) | (refine m_idx1_ro rfl rfl ?_ ?_; (· omega)) | (refine m_idx1_sl rfl rfl ?_ ?_; (· omega)) | (apply m_idx1_slj; (· rfl); (· rfl); (· assumption); (· omega)) | (apply m_idx1_roj; (· rfl); (· rfl); (· assumption); (· omega)) | (refine m_idx_ro rfl rfl ?_ ?_ ?_; (· omega); (· omega)) | (refine m_idx_sl rfl rfl ?_ ?_ ?_; (· omega); (· omega)) | (refine m_ld_rpi rfl ?_ ?_; (· omega)) | (refine m_ld_pti rfl (by rfl) ?_ ?_; (· first | omega | (simp; omega))) | (apply m_ld_ptb; (· rfl); (· rfl); (· assumption)) | (apply m_ld_rp; (· rfl); (· rfl)) | (apply m_ld_pt; (· rfl); (· rfl); (· rfl)) | (refine m_mmk ?_) | (refine m_alloc ?_) | (refine m_fa rfl ?_) | (refine m_fa_rp rfl ?_) | (refine m_bld rfl ?_) | (refine m_bld_1 (by conv => lhs; whnf) (by decide)  (by rfl) ?_) | (refine m_bld_2 (by conv => lhs; whnf) (by conv => lhs; whnf) (by decide)  (by decide) (by rfl) (by rfl) ?_) | (refine m_bld_3 (by conv => lhs; whnf) (by conv => lhs; whnf) (by conv => lhs; whnf) (by decide)  (by decide) (by decide) (by rfl) (by rfl) (by rfl) ?_) | (refine m_ldall rfl rfl ?_ ?_; (· first | rfl | (simp; done) | (simp [*]; done))) | (refine m_ldall_rp rfl rfl ?_) | (refine m_stall rfl rfl rfl ?_ ?_ ?_ ?_; (· first | rfl | (simp [*]; done)); (· first | rfl | (simp [*]; done)); (· first | rfl | (simp [cellOk, Value.oneCell']; done))))) | refine end_ops ?_ | refine seq_ops ?_ | refine AW_ops ?_ | (refine cond_t rfl ?_ ?_; (· first | rfl | assumption | (refine decide_eq_true ?_; first | assumption | omega) | (refine nt ?_; first | assumption | omega) | (simp [*]; done))) | (refine cond_f rfl ?_ ?_; (· first | rfl | assumption | (refine decide_eq_false ?_; first | assumption | omega) | (refine nf ?_; first | assumption | omega) | (simp [*]; done))) | refine skip_then ?_ | refine AW_seq ?_ | refine AW_ret ?_ | refine ret_done ?_ | refine norm_then ?_ | refine ret_then ?_ | refine exit_then ?_ | refine AW_block ?_ | refine norm_block ?_ | refine ret_block ?_ | refine ret_round ?_ | refine exit_round ?_ | refine AW_exit ?_ | refine exit_block ?_ | (refine exit_other ?_ ?_; (· decide)) | refine AW_skip ?_)
              refine step_ops ?_
              refine m_putPlace (l := posP (fbB B) (sdB B) k ++ rowP (fbB B) k j) (a := k) (b := j) hlt rfl rfl rfl rfl (by omega) (by omega) ?_ ?_
              · intro hm
                rcases List.mem_append.1 hm with hm | hm
                · have := mem_posP.1 hm; simp at this
                · have := mem_rowP.1 hm; simp at this
              repeat (first | (refine step_ops ?_; (first | (refine m_mov (by conv => lhs; whnf) ?_) | (refine m_lss rfl rfl ?_) | (refine m_eql rfl rfl ?_) | (refine m_eqk rfl rfl ?_) | (refine m_eqs rfl rfl ?_) | (refine m_neq rfl rfl ?_) | (refine m_neqk rfl rfl ?_) | (refine m_neqs_self rfl rfl ?_) | (refine m_neqs rfl rfl ?_) | (refine m_add rfl rfl ?_ ?_ ?_; (· omega); (· omega)) | (refine m_adds rfl rfl ?_ ?_; (· first | omega | (simp; omega))) | (refine m_slen rfl ?_) | (refine m_six' rfl rfl ?_ ?_; (· first | omega | (simp; omega))) | (refine m_not rfl ?_) | (refine m_len_ro rfl ?_) | (refine m_len_sl rfl ?_) | (refine m_len_nil rfl ?_) | (refine m_idx1_ro rfl rfl ?_ ?_; (· omega)) | (refine m_idx1_sl rfl rfl ?_ ?_; (· omega)) | (apply m_idx1_slj; (· rfl); (· rfl); (· assumption); (· omega)) | (apply m_idx1_roj; (· rfl); (· rfl); (· assumption); (· omega)) | (refine m_idx_ro rfl rfl ?_ ?_ ?_; (· omega); (· omega)) | (refine m_idx_sl rfl rfl ?_ ?_ ?_; (· omega); (· omega)) | (refine m_ld_rpi rfl ?_ ?_; (· omega)) | (refine m_ld_pti rfl (by rfl) ?_ ?_; (· first | omega | (simp; omega))) | (apply m_ld_ptb; (· rfl); (· rfl); (· assumption)) | (apply m_ld_rp; (· rfl); (· rfl)) | (apply m_ld_pt; (· rfl); (· rfl); (· rfl)) | (refine m_mmk ?_) | (refine m_alloc ?_) | (refine m_fa rfl ?_) | (refine m_fa_rp rfl ?_) | (refine m_bld rfl ?_) | (refine m_bld_1 (by conv => lhs; whnf) (by decide)  (by rfl) ?_) | (refine m_bld_2 (by conv => lhs; whnf) (by conv => lhs; whnf) (by decide)  (by decide) (by rfl) (by rfl) ?_) | (refine m_bld_3 (by conv => lhs; whnf) (by conv => lhs; whnf) (by conv => lhs; whnf) (by decide)  (by decide) (by decide) (by rfl) (by rfl) (by rfl) ?_) | (refine m_ldall rfl rfl ?_ ?_; (· first | rfl | (simp; done) | (simp [*]; done))) | (refine m_ldall_rp rfl rfl ?_) | (refine m_stall rfl rfl rfl ?_ ?_ ?_ ?_; (· first | rfl | (simp [*]; done)); (· first | rfl | (simp [*]; done)); (· first | rfl | (simp [cellOk, Value.oneCell']; done))))) | refine end_ops ?_ | refine seq_ops ?_ | refine AW_ops ?_ | (refine cond_t rfl ?_ ?_; (· first | rfl | assumption | (refine decide_eq_true ?_; first | assumption | omega) | (refine nt ?_; first | assumption | omega) | (simp [*]; done))) | (refine cond_f rfl ?_ ?_; (· first | rfl | assumption | (refine decide_eq_false ?_; first | assumption | omega) | (refine nf ?_; first | assumption | omega) | (simp [*]; done))) | refine skip_then ?_ | refine AW_seq ?_ | refine AW_ret ?_ | refine ret_done ?_ | refine norm_then ?_ | refine ret_then ?_ | refine exit_then ?_ | refine AW_block ?_ | refine norm_block ?_ | refine ret_block ?_ | refine ret_round ?_ | refine exit_round ?_ | refine AW_exit ?_ | refine exit_block ?_ | (refine exit_other ?_ ?_; (· decide)) | refine AW_skip ?_)
              refine next_round (j + 1) ⟨hcj, fun c hc => ?_⟩ (weak_st ?_ ?_ rfl rfl) ?_
              · rw [hts] at hc
                rcases List.mem_append.1 hc with hc | hc
                · exact hjok c hc
                · rw [List.mem_singleton.1 hc]; exact .inr h35
              · (repeat' (first | exact trivial | refine And.intro ?_ ?_)) <;> (first | rfl | skip)
              · rw [hrs, ← List.append_assoc]
                (repeat' (first | exact trivial | refine And.intro ?_ ?_)) <;> (first | rfl | skip)
              · omega
            · have h35' : ¬ ((row.getD j 0).toNat : Int) = 35 := fun e => h35 (u8_eq (n := 35) (by omega) 35 rfl)
              repeat (first | (refine step_ops ?_; (first | (refine m_mov (by conv => lhs; whnf) ?_) | (refine m_lss rfl rfl ?_) | (refine m_eql rfl rfl ?_) | (refine m_eqk rfl rfl ?_) | (refine m_eqs rfl rfl ?_) | (refine m_neq rfl rfl ?_) | (refine m_neqk rfl rfl ?_) | (refine m_neqs_self rfl rfl ?_) | (refine m_neqs rfl rfl ?_) | (refine m_add rfl rfl ?_ ?_ ?_; (· omega); (· omega)) | (refine m_adds rfl rfl ?_ ?_; (· first | omega | (simp; omega))) | (refine m_slen rfl ?_) | (refine m_six' rfl rfl ?_ ?_; (· first | omega | (simp; omega))) | (refine m_not rfl ?_) | (refine m_len_ro rfl ?_) | (refine m_len_sl rfl ?_) | (refine m_len_nil rfl ?_) | (refine m_idx1_ro rfl rfl ?_ ?_; (· omega)) | (refine m_idx1_sl rfl rfl ?_ ?_; (· omega)) | (apply m_idx1_slj; (· rfl); (· rfl); (· assumption); (· omega)) | (apply m_idx1_roj; (· rfl); (· rfl); (· assumption); (· omega)) | (refine m_idx_ro rfl rfl ?_ ?_ ?_; (· omega); (· omega)) | (refine m_idx_sl rfl rfl ?_ ?_ ?_; (· omega); (· omega)) | (refine m_ld_rpi rfl ?_ ?_; (· omega)) | (refine m_ld_pti rfl (by rfl) ?_ ?_; (· first | omega | (simp; omega))) | (apply m_ld_ptb; (· rfl); (· rfl); (· assumption)) | (apply m_ld_rp; (· rfl); (· rfl)) | (apply m_ld_pt; (· rfl); (· rfl); (· rfl)) | (refine m_mmk ?_) | (refine m_alloc ?_) | (refine m_fa rfl ?_) | (refine m_fa_rp rfl ?_) | (refine m_bld rfl ?_) | (refine m_bld_1 (by conv => lhs; whnf) (by decide)  (by rfl) ?_) | (refine m_bld_2 (by conv => lhs; whnf) (by conv => lhs; whnf) (by decide)  (by decide) (by rfl) (by rfl) ?_) | (refine m_bld_3 (by conv => lhs; whnf) (by conv => lhs; whnf) (by conv => lhs; whnf) (by decide)  (by decide) (by decide) (by rfl) (by rfl) (by rfl) ?_) | (refine m_ldall rfl rfl ?_ ?_; (· first | rfl | (simp; done) | (simp [*]; done))) | (refine m_ldall_rp rfl rfl ?_) | (refine m_stall rfl rfl rfl ?_ ?_ ?_ ?_; (· first | rfl | (simp [*]; done)); (· first | rfl | (simp [*]; done)); (· first | rfl | (simp [cellOk, Value.oneCell']; done))))) | refine end_ops ?_ | refine seq_ops ?_ | refine AW_ops ?_ | (refine cond_t rfl ?_ ?_; (· first | rfl | assumption | (refine decide_eq_true ?_; first | assumption | omega) | (refine nt ?_; first | assumption | omega) | (simp [*]; done))) | (refine cond_f rfl ?_ ?_; (· first | rfl | assumption | (refine decide_eq_false ?_; first | assumption | omega) | (refine nf ?_; first | assumption | omega) | (simp [*]; done))) | refine skip_then ?_ | refine AW_seq ?_ | refine AW_ret ?_ | refine ret_done ?_ | refine norm_then ?_ | refine ret_then ?_ | refine exit_then ?_ | refine AW_block ?_ | refine norm_block ?_ | refine ret_block ?_ | refine ret_round ?_ | refine exit_round ?_ | refine AW_exit ?_ | refine exit_block ?_ | (refine exit_other ?_ ?_; (· decide)) | refine AW_skip ?_)
              exact hout (hbad fun h => (h.2 _ (getD_memL hcj)).elim h46 h35) rfl rfl rfl
        · obtain rfl : j = row.length := by omega
          rw [List.take_length] at hjok
          repeat (first | (refine step_ops ?_; (first | (refine m_mov (by conv => lhs; whnf) ?_) | (refine m_lss rfl rfl ?_) | (refine m_eql rfl rfl ?_) | (refine m_eqk rfl rfl ?_) | (refine m_eqs rfl rfl ?_) | (refine m_neq rfl rfl ?_) | (refine m_neqk rfl rfl ?_) | (refine m_neqs_self rfl rfl ?_) | (refine m_neqs rfl rfl ?_) | (refine m_add rfl rfl ?_ ?_ ?_; (· omega); (· omega)) | (refine m_adds rfl rfl ?_ ?_; (· first | omega | (simp; omega))) | (refine m_slen rfl ?_) | (refine m_six' rfl rfl ?_ ?_; (· first | omega | (simp; omega))) | (refine m_not rfl ?_) | (refine m_len_ro rfl ?_) | (refine m_len_sl rfl ?_) | (refine m_len_nil rfl ?_) | (refine m_idx1_ro rfl rfl ?_ ?_; (· omega)) | (refine m_idx1_sl rfl rfl ?_ ?_; (· omega)) | (apply m_idx1_slj; (· rfl); (· rfl); (· assumption); (· omega)) | (apply m_idx1_roj; (· rfl); (· rfl); (· assumption); (· omega)) | (refine m_idx_ro rfl rfl ?_ ?_ ?_; (· omega); (· omega)) | (refine m_idx_sl rfl rfl ?_ ?_ ?_; (· omega); (· omega)) | (refine m_ld_rpi rfl ?_ ?_; (· omega)) | (refine m_ld_pti rfl (by rfl) ?_ ?_; (· first | omega | (simp; omega))) | (apply m_ld_ptb; (· rfl); (· rfl); (· assumption)) | (apply m_ld_rp; (· rfl); (· rfl)) | (apply m_ld_pt; (· rfl); (· rfl); (· rfl)) | (refine m_mmk ?_) | (refine m_alloc ?_) | (refine m_fa rfl ?_) | (refine m_fa_rp rfl ?_) | (refine m_bld rfl ?_) | (refine m_bld_1 (by conv => lhs; whnf) (by decide)  (by rfl) ?_) | (refine m_bld_2 (by conv => lhs; whnf) (by conv => lhs; whnf) (by decide)  (by decide) (by rfl) (by rfl) ?_) | (refine m_bld_3 (by conv => lhs; whnf) (by conv => lhs; whnf) (by conv => lhs; whnf) (by decide)  (by decide) (by decide) (by rfl) (by rfl) (by rfl) ?_) | (refine m_ldall rfl rfl ?_ ?_; (· first | rfl | (simp; done) | (simp [*]; done))) | (refine m_ldall_rp rfl rfl ?_) | (refine m_stall rfl rfl rfl ?_ ?_ ?_ ?_; (· first | rfl | (simp [*]; done)); (· first | rfl | (simp [*]; done)); (· first | rfl | (simp [cellOk, Value.oneCell']; done))))) | refine end_ops ?_ | refine seq_ops ?_ | refine AW_ops ?_ | (refine cond_t rfl ?_ ?_; (· first | rfl | assumption | (refine decide_eq_true ?_; first | assumption | omega) | (refine nt ?_; first | assumption | omega) | (simp [*]; done))) | (refine cond_f rfl ?_ ?_; (· first | rfl | assumption | (refine decide_eq_false ?_; first | assumption | omega) | (refine nf ?_; first | assumption | omega) | (simp [*]; done))) | refine skip_then ?_ | refine AW_seq ?_ | refine AW_ret ?_ | refine ret_done ?_ | refine norm_then ?_ | refine ret_then ?_ | refine exit_then ?_ | refine AW_block ?_ | refine norm_block ?_ | refine ret_block ?_ | refine ret_round ?_ | refine exit_round ?_ | refine AW_exit ?_ | refine exit_block ?_ | (refine exit_other ?_ ?_; (· decide)) | refine AW_skip ?_)
          refine next_round (k + 1) ⟨by omega, hsn ⟨by omega, hjok⟩⟩ (weak_st ?_ ?_ rfl rfl) ?_
          · (repeat' (first | exact trivial | refine And.intro ?_ ?_)) <;> (first | rfl | skip)
          · rw [show posP (fbB B) (sdB B) (k + 1) = posP (fbB B) (sdB B) k ++ rowP (fbB B) k row.length by rw [hlen, ← hsd]; rfl]
            (repeat' (first | exact trivial | refine And.intro ?_ ?_)) <;> (first | rfl | skip)
          · omega
      · repeat (first | (refine step_ops ?_; (first | (refine m_mov (by conv => lhs; whnf) ?_) | (refine m_lss rfl rfl ?_) | (refine m_eql rfl rfl ?_) | (refine m_eqk rfl rfl ?_) | (refine m_eqs rfl rfl ?_) | (refine m_neq rfl rfl ?_) | (refine m_neqk rfl rfl ?_) | (refine m_neqs_self rfl rfl ?_) | (refine m_neqs rfl rfl ?_) | (refine m_add rfl rfl ?_ ?_ ?_; (· omega); (· omega)) | (refine m_adds rfl rfl ?_ ?_; (· first | omega | (simp; omega))) | (refine m_slen rfl ?_) | (refine m_six' rfl rfl ?_ ?_; (· first | omega | (simp; omega))) | (refine m_not rfl ?_) | (refine m_len_ro rfl ?_) | (refine m_len_sl rfl ?_) | (refine m_len_nil rfl ?_) | (refine m_idx1_ro rfl rfl ?_ ?_; (· omega)) | (refine m_idx1_sl rfl rfl ?_ ?_; (· omega)) | (apply m_idx1_slj; (· rfl); (· rfl); (· assumption); (· omega)) | (apply m_idx1_roj; (· rfl); (· rfl); (· assumption); (· omega)) | (refine m_idx_ro rfl rfl ?_ ?_ ?_; (· omega); (· omega)) | (refine m_idx_sl rfl rfl ?_ ?_ ?_; (· omega); (· omega)) | (refine m_ld_rpi rfl ?_ ?_; (· omega)) | (refine m_ld_pti rfl (by rfl) ?_ ?_; (· first | omega | (simp; omega))) | (apply m_ld_ptb; (· rfl); (· rfl); (· assumption)) | (apply m_ld_rp; (· rfl); (· rfl)) | (apply m_ld_pt; (· rfl); (· rfl); (· rfl)) | (refine m_mmk ?_) | (refine m_alloc ?_) | (refine m_fa rfl ?_) | (refine m_fa_rp rfl ?_) | (refine m_bld rfl ?_) | (refine m_bld_1 (by conv => lhs; whnf) (by decide)  (by rfl) ?_) | (refine m_bld_2 (by conv => lhs; whnf) (by conv => lhs; whnf) (by decide)  (by decide) (by rfl) (by rfl) ?_) | (refine m_bld_3 (by conv => lhs; whnf) (by conv => lhs; whnf) (by conv => lhs; whnf) (by decide)  (by decide) (by decide) (by rfl) (by rfl) (by rfl) ?_) | (refine m_ldall rfl rfl ?_ ?_; (· first | rfl | (simp; done) | (simp [*]; done))) | (refine m_ldall_rp rfl rfl ?_) | (refine m_stall rfl rfl rfl ?_ ?_ ?_ ?_; (· first | rfl | (simp [*]; done)); (· first | rfl | (simp [*]; done)); (· first | rfl | (simp [cellOk, Value.oneCell']; done))))) | refine end_ops ?_ | refine seq_ops ?_ | refine AW_ops ?_ | (refine cond_t rfl ?_ ?_; (· first | rfl | assumption | (refine decide_eq_true ?_; first | assumption | omega) | (refine nt ?_; first | assumption | omega) | (simp [*]; done))) | (refine cond_f rfl ?_ ?_; (· first | rfl | assumption | (refine decide_eq_false ?_; first | assumption | omega) | (refine nf ?_; first | assumption | omega) | (simp [*]; done))) | refine skip_then ?_ | refine AW_seq ?_ | refine AW_ret ?_ | refine ret_done ?_ | refine norm_then ?_ | refine ret_then ?_ | refine exit_then ?_ | refine AW_block ?_ | refine norm_block ?_ | refine ret_block ?_ | refine ret_round ?_ | refine exit_round ?_ | refine AW_exit ?_ | refine exit_block ?_ | (refine exit_other ?_ ?_; (· decide)) | refine AW_skip ?_)
        refine step_ops ?_
        refine m_ld_rp rfl hat ?_
        repeat (first | (refine step_ops ?_; (first | (refine m_mov (by conv => lhs; whnf) ?_) | (refine m_lss rfl rfl ?_) | (refine m_eql rfl rfl ?_) | (refine m_eqk rfl rfl ?_) | (refine m_eqs rfl rfl ?_) | (refine m_neq rfl rfl ?_) | (refine m_neqk rfl rfl ?_) | (refine m_neqs_self rfl rfl ?_) | (refine m_neqs rfl rfl ?_) | (refine m_add rfl rfl ?_ ?_ ?_; (· omega); (· omega)) | (refine m_adds rfl rfl ?_ ?_; (· first | omega | (simp; omega))) | (refine m_slen rfl ?_) | (refine m_six' rfl rfl ?_ ?_; (· first | omega | (simp; omega))) | (refine m_not rfl ?_) | (refine m_len_ro rfl ?_) | (refine m_len_sl rfl ?_) | (refine m_len_nil rfl ?_) | (refine m_idx1_ro rfl rfl ?_ ?_; (· omega)) | (refine m_idx1_sl rfl rfl ?_ ?_; (· omega)) | (apply m_idx1_slj; (· rfl); (· rfl); (· assumption); (· omega)) | (apply m_idx1_roj; (· rfl); (· rfl); (· assumption); (· omega)) | (refine m_idx_ro rfl rfl ?_ ?_ ?_; (· omega); (· omega)) | (refine m_idx_sl rfl rfl ?_ ?_ ?_; (· omega); (· omega)) | (refine m_ld_rpi rfl ?_ ?_; (· omega)) | (refine m_ld_pti rfl (by rfl) ?_ ?_; (· first | omega | (simp; omega))) | (apply m_ld_ptb; (· rfl); (· rfl); (· assumption)) | (apply m_ld_rp; (· rfl); (· rfl)) | (apply m_ld_pt; (· rfl); (· rfl); (· rfl)) | (refine m_mmk ?_) | (refine m_alloc ?_) | (refine m_fa rfl ?_) | (refine m_fa_rp rfl ?_) | (refine m_bld rfl ?_) | (refine m_bld_1 (by conv => lhs; whnf) (by decide)  (by rfl) ?_) | (refine m_bld_2 (by conv => lhs; whnf) (by conv => lhs; whnf) (by decide)  (by decide) (by rfl) (by rfl) ?_) | (refine m_bld_3 (by conv => lhs; whnf) (by conv => lhs; whnf) (by conv => lhs; whnf) (by decide)  (by decide) (by decide) (by rfl) (by rfl) (by rfl) ?_) | (refine m_ldall rfl rfl ?_ ?_; (· first | rfl | (simp; done) | (simp [*]; done))) | (refine m_ldall_rp rfl rfl ?_) | (refine m_stall rfl rfl rfl ?_ ?_ ?_ ?_; (· first | rfl | (simp [*]; done)); (· first | rfl | (simp [*]; done)); (· first | rfl | (simp [cellOk, Value.oneCell']; done))))) | refine end_ops ?_ | refine seq_ops ?_ | refine AW_ops ?_ | (refine cond_t rfl ?_ ?_; (· first | rfl | assumption | (refine decide_eq_true ?_; first | assumption | omega) | (refine nt ?_; first | assumption | omega) | (simp [*]; done))) | (refine cond_f rfl ?_ ?_; (· first | rfl | assumption | (refine decide_eq_false ?_; first | assumption | omega) | (refine nf ?_; first | assumption | omega) | (simp [*]; done))) | refine skip_then ?_ | refine AW_seq ?_ | refine AW_ret ?_ | refine ret_done ?_ | refine norm_then ?_ | refine ret_then ?_ | refine exit_then ?_ | refine AW_block ?_ | refine norm_block ?_ | refine ret_block ?_ | refine ret_round ?_ | refine exit_round ?_ | refine AW_exit ?_ | refine exit_block ?_ | (refine exit_other ?_ ?_; (· decide)) | refine AW_skip ?_)
        exact hout (hbad fun h => hlen (by rw [h.1]; exact hsd)) rfl rfl rfl
    · have hg : GoodBd B := (good_iff hc7).2 fun i hi => hok i (by omega)
      obtain rfl : k = sdB B := by omega
      repeat (first | (refine step_ops ?_; (first | (refine m_mov (by conv => lhs; whnf) ?_) | (refine m_lss rfl rfl ?_) | (refine m_eql rfl rfl ?_) | (refine m_eqk rfl rfl ?_) | (refine m_eqs rfl rfl ?_) | (refine m_neq rfl rfl ?_) | (refine m_neqk rfl rfl ?_) | (refine m_neqs_self rfl rfl ?_) | (refine m_neqs rfl rfl ?_) | (refine m_add rfl rfl ?_ ?_ ?_; (· omega); (· omega)) | (refine m_adds rfl rfl ?_ ?_; (· first | omega | (simp; omega))) | (refine m_slen rfl ?_) | (refine m_six' rfl rfl ?_ ?_; (· first | omega | (simp; omega))) | (refine m_not rfl ?_) | (refine m_len_ro rfl ?_) | (refine m_len_sl rfl ?_) | (refine m_len_nil rfl ?_) | (refine m_idx1_ro rfl rfl ?_ ?_; (· omega)) | (refine m_idx1_sl rfl rfl ?_ ?_; (· omega)) | (apply m_idx1_slj; (· rfl); (· rfl); (· assumption); (· omega)) | (apply m_idx1_roj; (· rfl); (· rfl); (· assumption); (· omega)) | (refine m_idx_ro rfl rfl ?_ ?_ ?_; (· omega); (· omega)) | (refine m_idx_sl rfl rfl ?_ ?_ ?_; (· omega); (· omega)) | (refine m_ld_rpi rfl ?_ ?_; (· omega)) | (refine m_ld_pti rfl (by rfl) ?_ ?_; (· first | omega | (simp; omega))) | (apply m_ld_ptb; (· rfl); (· rfl); (· assumption)) | (apply m_ld_rp; (· rfl); (· rfl)) | (apply m_ld_pt; (· rfl); (· rfl); (· rfl)) | (refine m_mmk ?_) | (refine m_alloc ?_) | (refine m_fa rfl ?_) | (refine m_fa_rp rfl ?_) | (refine m_bld rfl ?_) | (refine m_bld_1 (by conv => lhs; whnf) (by decide)  (by rfl) ?_) | (refine m_bld_2 (by conv => lhs; whnf) (by conv => lhs; whnf) (by decide)  (by decide) (by rfl) (by rfl) ?_) | (refine m_bld_3 (by conv => lhs; whnf) (by conv => lhs; whnf) (by conv => lhs; whnf) (by decide)  (by decide) (by decide) (by rfl) (by rfl) (by rfl) ?_) | (refine m_ldall rfl rfl ?_ ?_; (· first | rfl | (simp; done) | (simp [*]; done))) | (refine m_ldall_rp rfl rfl ?_) | (refine m_stall rfl rfl rfl ?_ ?_ ?_ ?_; (· first | rfl | (simp [*]; done)); (· first | rfl | (simp [*]; done)); (· first | rfl | (simp [cellOk, Value.oneCell']; done))))) | refine end_ops ?_ | refine seq_ops ?_ | refine AW_ops ?_ | (refine cond_t rfl ?_ ?_; (· first | rfl | assumption | (refine decide_eq_true ?_; first | assumption | omega) | (refine nt ?_; first | assumption | omega) | (simp [*]; done))) | (refine cond_f rfl ?_ ?_; (· first | rfl | assumption | (refine decide_eq_false ?_; first | assumption | omega) | (refine nf ?_; first | assumption | omega) | (simp [*]; done))) | refine skip_then ?_ | refine AW_seq ?_ | refine AW_ret ?_ | refine ret_done ?_ | refine norm_then ?_ | refine ret_then ?_ | refine exit_then ?_ | refine AW_block ?_ | refine norm_block ?_ | refine ret_block ?_ | refine ret_round ?_ | refine exit_round ?_ | refine AW_exit ?_ | refine exit_block ?_ | (refine exit_other ?_ ?_; (· decide)) | refine AW_skip ?_)
      refine step_opsW (weak_deep (r := 2) rfl (by simp) rfl) ?_
      refine m_stall (l := [.i (splitB B).length, .mp 18]) rfl rfl rfl rfl rfl rfl ?_
      repeat (first | (refine step_ops ?_; (first | (refine m_mov (by conv => lhs; whnf) ?_) | (refine m_lss rfl rfl ?_) | (refine m_eql rfl rfl ?_) | (refine m_eqk rfl rfl ?_) | (refine m_eqs rfl rfl ?_) | (refine m_neq rfl rfl ?_) | (refine m_neqk rfl rfl ?_) | (refine m_neqs_self rfl rfl ?_) | (refine m_neqs rfl rfl ?_) | (refine m_add rfl rfl ?_ ?_ ?_; (· omega); (· omega)) | (refine m_adds rfl rfl ?_ ?_; (· first | omega | (simp; omega))) | (refine m_slen rfl ?_) | (refine m_six' rfl rfl ?_ ?_; (· first | omega | (simp; omega))) | (refine m_not rfl ?_) | (refine m_len_ro rfl ?_) | (refine m_len_sl rfl ?_) | (refine m_len_nil rfl ?_) | (refine m_idx1_ro rfl rfl ?_ ?_; (· omega)) | (refine m_idx1_sl rfl rfl ?_ ?_; (· omega)) | (apply m_idx1_slj; (· rfl); (· rfl); (· assumption); (· omega)) | (apply m_idx1_roj; (· rfl); (· rfl); (· assumption); (· omega)) | (refine m_idx_ro rfl rfl ?_ ?_ ?_; (· omega); (· omega)) | (refine m_idx_sl rfl rfl ?_ ?_ ?_; (· omega); (· omega)) | (refine m_ld_rpi rfl ?_ ?_; (· omega)) | (refine m_ld_pti rfl (by rfl) ?_ ?_; (· first | omega | (simp; omega))) | (apply m_ld_ptb; (· rfl); (· rfl); (· assumption)) | (apply m_ld_rp; (· rfl); (· rfl)) | (apply m_ld_pt; (· rfl); (· rfl); (· rfl)) | (refine m_mmk ?_) | (refine m_alloc ?_) | (refine m_fa rfl ?_) | (refine m_fa_rp rfl ?_) | (refine m_bld rfl ?_) | (refine m_bld_1 (by conv => lhs; whnf) (by decide)  (by rfl) ?_) | (refine m_bld_2 (by conv => lhs; whnf) (by conv => lhs; whnf) (by decide)  (by decide) (by rfl) (by rfl) ?_) | (refine m_bld_3 (by conv => lhs; whnf) (by conv => lhs; whnf) (by conv => lhs; whnf) (by decide)  (by decide) (by decide) (by rfl) (by rfl) (by rfl) ?_) | (refine m_ldall rfl rfl ?_ ?_; (· first | rfl | (simp; done) | (simp [*]; done))) | (refine m_ldall_rp rfl rfl ?_) | (refine m_stall rfl rfl rfl ?_ ?_ ?_ ?_; (· first | rfl | (simp [*]; done)); (· first | rfl | (simp [*]; done)); (· first | rfl | (simp [cellOk, Value.oneCell']; done))))) | refine end_ops ?_ | refine seq_ops ?_ | refine AW_ops ?_ | (refine cond_t rfl ?_ ?_; (· first | rfl | assumption | (refine decide_eq_true ?_; first | assumption | omega) | (refine nt ?_; first | assumption | omega) | (simp [*]; done))) | (refine cond_f rfl ?_ ?_; (· first | rfl | assumption | (refine decide_eq_false ?_; first | assumption | omega) | (refine nf ?_; first | assumption | omega) | (simp [*]; done))) | refine skip_then ?_ | refine AW_seq ?_ | refine AW_ret ?_ | refine ret_done ?_ | refine norm_then ?_ | refine ret_then ?_ | refine exit_then ?_ | refine AW_block ?_ | refine norm_block ?_ | refine ret_block ?_ | refine ret_round ?_ | refine exit_round ?_ | refine AW_exit ?_ | refine exit_block ?_ | (refine exit_other ?_ ?_; (· decide)) | refine AW_skip ?_)
      refine ret_doneg2 rfl rfl rfl ?_
      unfold bdR bdV
      rw [if_pos hg, decide_eq_true hg]
      exact outs_tup2 (outs_agg2 (outs_i (by rw [hsd])) (outs_mp (by decide) rfl)) (outs_b rfl)
  · have hng : ¬ GoodBd B := fun h => hc7 h.1
    repeat (first | (refine step_ops ?_; (first | (refine m_mov (by conv => lhs; whnf) ?_) | (refine m_lss rfl rfl ?_) | (refine m_eql rfl rfl ?_) | (refine m_eqk rfl rfl ?_) | (refine m_eqs rfl rfl ?_) | (refine m_neq rfl rfl ?_) | (refine m_neqk rfl rfl ?_) | (refine m_neqs_self rfl rfl ?_) | (refine m_neqs rfl rfl ?_) | (refine m_add rfl rfl ?_ ?_ ?_; (· omega); (· omega)) | (refine m_adds rfl rfl ?_ ?_; (· first | omega | (simp; omega))) | (refine m_slen rfl ?_) | (refine m_six' rfl rfl ?_ ?_; (· first | omega | (simp; omega))) | (refine m_not rfl ?_) | (refine m_len_ro rfl ?_) | (refine m_len_sl rfl ?_) | (refine m_len_nil rfl ?_) | (refine m_idx1_ro rfl rfl ?_ ?_; (· omega)) | (refine m_idx1_sl rfl rfl ?_ ?_; (· omega)) | (apply m_idx1_slj; (· rfl); (· rfl); (· assumption); (· omega)) | (apply m_idx1_roj; (· rfl); (· rfl); (· assumption); (· omega)) | (refine m_idx_ro rfl rfl ?_ ?_ ?_; (· omega); (· omega)) | (refine m_idx_sl rfl rfl ?_ ?_ ?_; (· omega); (· omega)) | (refine m_ld_rpi rfl ?_ ?_; (· omega)) | (refine m_ld_pti rfl (by rfl) ?_ ?_; (· first | omega | (simp; omega))) | (apply m_ld_ptb; (· rfl); (· rfl); (· assumption)) | (apply m_ld_rp; (· rfl); (· rfl)) | (apply m_ld_pt; (· rfl); (· rfl); (· rfl)) | (refine m_mmk ?_) | (refine m_alloc ?_) | (refine m_fa rfl ?_) | (refine m_fa_rp rfl ?_) | (refine m_bld rfl ?_) | (refine m_bld_1 (by conv => lhs; whnf) (by decide)  (by rfl) ?_) | (refine m_bld_2 (by conv => lhs; whnf) (by conv => lhs; whnf) (by decide)  (by decide) (by rfl) (by rfl) ?_) | (refine m_bld_3 (by conv => lhs; whnf) (by conv => lhs; whnf) (by conv => lhs; whnf) (by decide)  (by decide) (by decide) (by rfl) (by rfl) (by rfl) ?_) | (refine m_ldall rfl rfl ?_ ?_; (· first | rfl | (simp; done) | (simp [*]; done))) | (refine m_ldall_rp rfl rfl ?_) | (refine m_stall rfl rfl rfl ?_ ?_ ?_ ?_; (· first | rfl | (simp [*]; done)); (· first | rfl | (simp [*]; done)); (· first | rfl | (simp [cellOk, Value.oneCell']; done))))) | refine end_ops ?_ | refine seq_ops ?_ | refine AW_ops ?_ | (refine cond_t rfl ?_ ?_; (· first | rfl | assumption | (refine decide_eq_true ?_; first | assumption | omega) | (refine nt ?_; first | assumption | omega) | (simp [*]; done))) | (refine cond_f rfl ?_ ?_; (· first | rfl | assumption | (refine decide_eq_false ?_; first | assumption | omega) | (refine nf ?_; first | assumption | omega) | (simp [*]; done))) | refine skip_then ?_ | refine AW_seq ?_ | refine AW_ret ?_ | refine ret_done ?_ | refine norm_then ?_ | refine ret_then ?_ | refine exit_then ?_ | refine AW_block ?_ | refine norm_block ?_ | refine ret_block ?_ | refine ret_round ?_ | refine exit_round ?_ | refine AW_exit ?_ | refine exit_block ?_ | (refine exit_other ?_ ?_; (· decide)) | refine AW_skip ?_)
    (refine step_ops ?_); (apply m_call (splitN_spec B hB)); (· repeat (first | exact lends_nil | (refine lends_cons ?_ ?_; (· (first | exact lend_v | (refine lend_roM rfl; done) | (refine lend_mat rfl ?_; intro j hj; simp (disch := first | omega | assumption) only [hp_put, hp_mem_ne, hp_kill_ne]; first | exact stM_row rfl hj | (rw [stM_row rfl hj]; rfl)) | (refine lend_ints ?_; first | rfl | omega) | (refine lend_sli (by rfl) ?_; first | rfl | omega | (simp; done)) | (refine lend_pln rfl; done) | (refine lend_plns rfl rfl; done) | (refine lend_txr rfl; done) | (refine lend_txs rfl rfl; done) | exact lend_any | (refine lend_agg ?_; first | rfl | assumption | (simp [plainV]; done)))))))
    repeat (first | (refine step_ops ?_; (first | (refine m_mov (by conv => lhs; whnf) ?_) | (refine m_lss rfl rfl ?_) | (refine m_eql rfl rfl ?_) | (refine m_eqk rfl rfl ?_) | (refine m_eqs rfl rfl ?_) | (refine m_neq rfl rfl ?_) | (refine m_neqk rfl rfl ?_) | (refine m_neqs_self rfl rfl ?_) | (refine m_neqs rfl rfl ?_) | (refine m_add rfl rfl ?_ ?_ ?_; (· omega); (· omega)) | (refine m_adds rfl rfl ?_ ?_; (· first | omega | (simp; omega))) | (refine m_slen rfl ?_) | (refine m_six' rfl rfl ?_ ?_; (· first | omega | (simp; omega))) | (refine m_not rfl ?_) | (refine m_len_ro rfl ?_) | (refine m_len_sl rfl ?_) | (refine m_len_nil rfl ?_) | (refine m_idx1_ro rfl rfl ?_ ?_; (· omega)) | (refine m_idx1_sl rfl rfl ?_ ?_; (· omega)) | (apply m_idx1_slj; (· rfl); (· rfl); (· assumption); (· omega)) | (apply m_idx1_roj; (· rfl); (· rfl); (· assumption); (· omega)) | (refine m_idx_ro rfl rfl ?_ ?_ ?_; (· omega); (· omega)) | (refine m_idx_sl rfl rfl ?_ ?_ ?_; (· omega); (· omega)) | (refine m_ld_rpi rfl ?_ ?_; (· omega)) | (refine m_ld_pti rfl (by rfl) ?_ ?_; (· first | omega | (simp; omega))) | (apply m_ld_ptb; (· rfl); (· rfl); (· assumption)) | (apply m_ld_rp; (· rfl); (· rfl)) | (apply m_ld_pt; (· rfl); (· rfl); (· rfl)) | (refine m_mmk ?_) | (refine m_alloc ?_) | (refine m_fa rfl ?_) | (refine m_fa_rp rfl ?_) | (refine m_bld rfl ?_) | (refine m_bld_1 (by conv => lhs; whnf) (by decide)  (by rfl) ?_) | (refine m_bld_2 (by conv => lhs; whnf) (by conv => lhs; whnf) (by decide)  (by decide) (by rfl) (by rfl) ?_) | (refine m_bld_3 (by conv => lhs; whnf) (by conv => lhs; whnf) (by conv => lhs; whnf) (by decide)  (by decide) (by decide) (by rfl) (by rfl) (by rfl) ?_) | (refine m_ldall rfl rfl ?_ ?_; (· first | rfl | (simp; done) | (simp [*]; done))) | (refine m_ldall_rp rfl rfl ?_) | (refine m_stall rfl rfl rfl ?_ ?_ ?_ ?_; (· first | rfl | (simp [*]; done)); (· first | rfl | (simp [*]; done)); (· first | rfl | (simp [cellOk, Value.oneCell']; done))))) | refine end_ops ?_ | refine seq_ops ?_ | refine AW_ops ?_ | (refine cond_t rfl ?_ ?_; (· first | rfl | assumption | (refine decide_eq_true ?_; first | assumption | omega) | (refine nt ?_; first | assumption | omega) | (simp [*]; done))) | (refine cond_f rfl ?_ ?_; (· first | rfl | assumption | (refine decide_eq_false ?_; first | assumption | omega) | (refine nf ?_; first | assumption | omega) | (simp [*]; done))) | refine skip_then ?_ | refine AW_seq ?_ | refine AW_ret ?_ | refine ret_done ?_ | refine norm_then ?_ | refine ret_then ?_ | refine exit_then ?_ | refine AW_block ?_ | refine norm_block ?_ | refine ret_block ?_ | refine ret_round ?_ | refine exit_round ?_ | refine AW_exit ?_ | refine exit_block ?_ | (refine exit_other ?_ ?_; (· decide)) | refine AW_skip ?_)
    (refine step_ops ?_); (apply m_call (isSide_spec _)); (· repeat (first | exact lends_nil | (refine lends_cons ?_ ?_; (· (first | exact lend_v | (refine lend_roM rfl; done) | (refine lend_mat rfl ?_; intro j hj; simp (disch := first | omega | assumption) only [hp_put, hp_mem_ne, hp_kill_ne]; first | exact stM_row rfl hj | (rw [stM_row rfl hj]; rfl)) | (refine lend_ints ?_; first | rfl | omega) | (refine lend_sli (by rfl) ?_; first | rfl | omega | (simp; done)) | (refine lend_pln rfl; done) | (refine lend_plns rfl rfl; done) | (refine lend_txr rfl; done) | (refine lend_txs rfl rfl; done) | exact lend_any | (refine lend_agg ?_; first | rfl | assumption | (simp [plainV]; done)))))))
    repeat (first | (refine step_ops ?_; (first | (refine m_mov (by conv => lhs; whnf) ?_) | (refine m_lss rfl rfl ?_) | (refine m_eql rfl rfl ?_) | (refine m_eqk rfl rfl ?_) | (refine m_eqs rfl rfl ?_) | (refine m_neq rfl rfl ?_) | (refine m_neqk rfl rfl ?_) | (refine m_neqs_self rfl rfl ?_) | (refine m_neqs rfl rfl ?_) | (refine m_add rfl rfl ?_ ?_ ?_; (· omega); (· omega)) | (refine m_adds rfl rfl ?_ ?_; (· first | omega | (simp; omega))) | (refine m_slen rfl ?_) | (refine m_six' rfl rfl ?_ ?_; (· first | omega | (simp; omega))) | (refine m_not rfl ?_) | (refine m_len_ro rfl ?_) | (refine m_len_sl rfl ?_) | (refine m_len_nil rfl ?_) | (refine m_idx1_ro rfl rfl ?_ ?_; (· omega)) | (refine m_idx1_sl rfl rfl ?_ ?_; (· omega)) | (apply m_idx1_slj; (· rfl); (· rfl); (· assumption); (· omega)) | (apply m_idx1_roj; (· rfl); (· rfl); (· assumption); (· omega)) | (refine m_idx_ro rfl rfl ?_ ?_ ?_; (· omega); (· omega)) | (refine m_idx_sl rfl rfl ?_ ?_ ?_; (· omega); (· omega)) | (refine m_ld_rpi rfl ?_ ?_; (· omega)) | (refine m_ld_pti rfl (by rfl) ?_ ?_; (· first | omega | (simp; omega))) | (apply m_ld_ptb; (· rfl); (· rfl); (· assumption)) | (apply m_ld_rp; (· rfl); (· rfl)) | (apply m_ld_pt; (· rfl); (· rfl); (· rfl)) | (refine m_mmk ?_) | (refine m_alloc ?_) | (refine m_fa rfl ?_) | (refine m_fa_rp rfl ?_) | (refine m_bld rfl ?_) | (refine m_bld_1 (by conv => lhs; whnf) (by decide)  (by rfl) ?_) | (refine m_bld_2 (by conv => lhs; whnf) (by conv => lhs; whnf) (by decide)  (by decide) (by rfl) (by rfl) ?_) | (refine m_bld_3 (by conv => lhs; whnf) (by conv => lhs; whnf) (by conv => lhs; whnf) (by decide)  (by decide) (by decide) (by rfl) (by rfl) (by rfl) ?_) | (refine m_ldall rfl rfl ?_ ?_; (· first | rfl | (simp; done) | (simp [*]; done))) | (refine m_ldall_rp rfl rfl ?_) | (refine m_stall rfl rfl rfl ?_ ?_ ?_ ?_; (· first | rfl | (simp [*]; done)); (· first | rfl | (simp [*]; done)); (· first | rfl | (simp [cellOk, Value.oneCell']; done))))) | refine end_ops ?_ | refine seq_ops ?_ | refine AW_ops ?_ | (refine cond_t rfl ?_ ?_; (· first | rfl | assumption | (refine decide_eq_true ?_; first | assumption | omega) | (refine nt ?_; first | assumption | omega) | (simp [*]; done))) | (refine cond_f rfl ?_ ?_; (· first | rfl | assumption | (refine decide_eq_false ?_; first | assumption | omega) | (refine nf ?_; first | assumption | omega) | (simp [*]; done))) | refine skip_then ?_ | refine AW_seq ?_ | refine AW_ret ?_ | refine ret_done ?_ | refine norm_then ?_ | refine ret_then ?_ | refine exit_then ?_ | refine AW_block ?_ | refine norm_block ?_ | refine ret_block ?_ | refine ret_round ?_ | refine exit_round ?_ | refine AW_exit ?_ | refine exit_block ?_ | (refine exit_other ?_ ?_; (· decide)) | refine AW_skip ?_)
    refine ret_doneg2 rfl rfl rfl ?_
    unfold bdR bdV
    rw [if_neg hng, decide_eq_false hng]
    exact outs_tup2 (outs_agg rfl) (outs_b rfl)
end Go.Proofs.YtddlddnjchhniaaDoor
namespace Go.Am
/-- The sum of a function over the first numbers. -/
def sumN : Nat → (Nat → Nat) → Nat
  | 0, _ => 0
  | k + 1, f => sumN k f + f k
theorem sumN_congr {f g : Nat → Nat} : ∀ {n : Nat}, (∀ c, c < n → f c = g c) → sumN n f = sumN n g
  | 0, _ => rfl
  | n + 1, h => by rw [sumN, sumN, sumN_congr fun c hc => h c (by omega), h n (by omega)]
theorem sumN_add (f g : Nat → Nat) : ∀ n : Nat, sumN n (fun c => f c + g c) = sumN n f + sumN n g
  | 0 => rfl
  | n + 1 => by simp only [sumN]; rw [sumN_add f g n]; omega
theorem sumN_zero : ∀ n : Nat, sumN n (fun _ => 0) = 0
  | 0 => rfl
  | n + 1 => by simp only [sumN]; rw [sumN_zero n]
theorem sumN_comm (h : Nat → Nat → Nat) (m : Nat) : ∀ n : Nat, sumN n (fun a => sumN m (fun b => h a b)) = sumN m (fun b => sumN n (fun a => h a b))
  | 0 => by simp only [sumN]; rw [sumN_zero]
  | n + 1 => by simp only [sumN]; rw [sumN_comm h m n, ← sumN_add]
theorem sumN_le {f g : Nat → Nat} : ∀ {n : Nat}, (∀ c, c < n → f c ≤ g c) → sumN n f ≤ sumN n g
  | 0, _ => Nat.le_refl _
  | n + 1, h => Nat.add_le_add (sumN_le fun c hc => h c (by omega)) (h n (by omega))
theorem sumN_const (c : Nat) : ∀ n : Nat, sumN n (fun _ => c) = n * c
  | 0 => by simp [sumN]
  | n + 1 => by simp only [sumN]; rw [sumN_const c n, Nat.succ_mul]
/-- A column more. -/
def insC (T c : Nat) : Nat := T ||| 1 <<< c
theorem insC_bit (T c k : Nat) : (insC T c).testBit k = (T.testBit k || decide (c = k)) := by
  unfold insC
  rw [Nat.testBit_or, Nat.one_shiftLeft, Nat.testBit_two_pow]
theorem insC_comm (T c d : Nat) : insC (insC T c) d = insC (insC T d) c := by
  apply Nat.eq_of_testBit_eq
  intro k
  simp only [insC_bit, Bool.or_assoc]
  congr 1
  rw [Bool.or_comm]
theorem insC_lt {T c n : Nat} (hT : T < 2 ^ n) (hc : c < n) : insC T c < 2 ^ n := by
  unfold insC
  refine Nat.or_lt_two_pow hT ?_
  rw [Nat.one_shiftLeft]
  exact Nat.pow_lt_pow_right (by omega) hc
/-- What a row's term for one column adds. -/
def addC (row : Nat → Bool) (g : Nat → Nat) (T c : Nat) : Nat := if row c && !T.testBit c then g (insC T c) else 0
/-- What a row makes of a test of sets, by its first columns: no rook, or a rook in one of them. -/
def stepR (n : Nat) (row : Nat → Bool) (g : Nat → Nat) (T : Nat) : Nat := g T + sumN n (addC row g T)
theorem stepR_comm (n : Nat) (r s : Nat → Bool) (g : Nat → Nat) (T : Nat) : stepR n r (stepR n s g) T = stepR n s (stepR n r g) T := by
  have key : ∀ r s : Nat → Bool, stepR n r (stepR n s g) T = g T + sumN n (addC s g T) + sumN n (addC r g T) + sumN n (fun c => sumN n (fun d => if (r c && !T.testBit c) && (s d && !(insC T c).testBit d) then g (insC (insC T c) d) else 0)) := by
    intro r s
    have : ∀ c, addC r (stepR n s g) T c = addC r g T c + sumN n (fun d => if (r c && !T.testBit c) && (s d && !(insC T c).testBit d) then g (insC (insC T c) d) else 0) := by
      intro c
      unfold addC stepR
      cases hb : (r c && !T.testBit c)
      · simp [sumN_zero]
      · simp only [if_true, Bool.true_and]
        rfl
    rw [stepR, sumN_congr fun c _ => this c, sumN_add, stepR]
    omega
  rw [key r s, key s r, sumN_comm]
  have : ∀ b, b < n → ∀ a, a < n → (if (r a && !T.testBit a) && (s b && !(insC T a).testBit b) then g (insC (insC T a) b) else 0) = (if (s b && !T.testBit b) && (r a && !(insC T b).testBit a) then g (insC (insC T b) a) else 0) := by
    intro b _ a _
    rw [insC_comm T a b, insC_bit, insC_bit]
    by_cases hab : a = b
    · subst hab; simp
    · have hba : ¬ b = a := fun e => hab e.symm
      simp only [hab, hba, decide_false, Bool.or_false]
      congr 2
      cases r a <;> cases s b <;> cases T.testBit a <;> cases T.testBit b <;> rfl
  have h2 : sumN n (fun b => sumN n (fun a => if (r a && !T.testBit a) && (s b && !(insC T a).testBit b) then g (insC (insC T a) b) else 0)) = sumN n (fun c => sumN n (fun d => if (s c && !T.testBit c) && (r d && !(insC T c).testBit d) then g (insC (insC T c) d) else 0)) :=
    sumN_congr fun b hb => sumN_congr fun a ha => this b hb a ha
  rw [h2]
  omega
theorem stepR_none {n : Nat} {row : Nat → Bool} (h : ∀ c, c < n → row c = false) (g : Nat → Nat) (T : Nat) : stepR n row g T = g T := by
  rw [stepR, sumN_congr (g := fun _ => 0) fun c hc => by simp [addC, h c hc], sumN_zero]
  rfl
/-- Rows, the first one outermost. -/
def rowsR (fb : Nat → Nat → Bool) (n : Nat) : List Nat → (Nat → Nat) → Nat → Nat
  | [], g => g
  | r :: l, g => stepR n (fb r) (rowsR fb n l g)
theorem rowsR_snoc (fb : Nat → Nat → Bool) (n r : Nat) (g : Nat → Nat) : ∀ l : List Nat, rowsR fb n (l ++ [r]) g = rowsR fb n l (stepR n (fb r) g)
  | [] => rfl
  | a :: l => by simp only [List.cons_append, rowsR]; rw [rowsR_snoc fb n r g l]
theorem rowsR_perm {fb : Nat → Nat → Bool} {n : Nat} {l m : List Nat} (h : l.Perm m) (g : Nat → Nat) : rowsR fb n l g = rowsR fb n m g := by
  induction h with
  | nil => rfl
  | cons a _ ih => simp only [rowsR, ih]
  | swap a b l => funext T; exact stepR_comm n (fb b) (fb a) _ T
  | trans _ _ ih1 ih2 => rw [ih1, ih2]
/-- Rows on which nothing is forbidden don't matter. -/
theorem rowsR_filter {fb : Nat → Nat → Bool} {n : Nat} (p : Nat → Bool) : ∀ (l : List Nat), (∀ r ∈ l, p r = false → ∀ c, c < n → fb r c = false) → ∀ g : Nat → Nat, rowsR fb n (l.filter p) g = rowsR fb n l g
  | [], _, _ => rfl
  | r :: l, h, g => by
    have ih := rowsR_filter p l (fun r hr => h r (by simp [hr])) g
    rw [List.filter_cons]
    cases hp : p r
    · simp only [Bool.false_eq_true, if_false, rowsR]
      rw [ih]
      funext T
      exact (stepR_none (h r (by simp) hp) _ T).symm
    · simp only [if_true, rowsR, ih]
/-- All rows that count were taken, each once, in whatever order. -/
theorem rowsR_any {fb : Nat → Nat → Bool} {n : Nat} {l : List Nat} (hn : l.Nodup) (hl : ∀ r ∈ l, r < n) (hall : ∀ r, r < n → r ∉ l → ∀ c, c < n → fb r c = false) (g : Nat → Nat) : rowsR fb n l g = rowsR fb n (List.range n) g := by
  have hp : l.Perm ((List.range n).filter fun r => decide (r ∈ l)) := by
    refine (List.perm_ext_iff_of_nodup hn (List.nodup_range.filter _)).2 fun a => ?_
    simp only [List.mem_filter, List.mem_range, decide_eq_true_eq]
    exact ⟨fun h => ⟨hl a h, h⟩, fun h => h.2⟩
  rw [rowsR_perm hp]
  exact rowsR_filter _ _ (fun r hr hp c hc => hall r (List.mem_range.1 hr) (by simpa using hp) c hc) g
theorem stepR_le {n : Nat} {row : Nat → Bool} {g : Nat → Nat} {b : Nat} (h : ∀ T, g T ≤ b) (T : Nat) : stepR n row g T ≤ (n + 1) * b := by
  have h1 : sumN n (addC row g T) ≤ n * b := by
    rw [← sumN_const]
    refine sumN_le fun c _ => ?_
    unfold addC
    split
    · exact h _
    · omega
  have := h T
  rw [stepR, Nat.succ_mul]
  omega
theorem rowsR_le {fb : Nat → Nat → Bool} {n : Nat} {g : Nat → Nat} {b : Nat} (h : ∀ T, g T ≤ b) : ∀ (l : List Nat) (T : Nat), rowsR fb n l g T ≤ (n + 1) ^ l.length * b
  | [], T => by simpa [rowsR] using h T
  | r :: l, T => by
    have := stepR_le (n := n) (row := fb r) (rowsR_le (fb := fb) (n := n) h l) T
    rw [List.length_cons, Nat.pow_succ, Nat.mul_comm _ (n + 1), Nat.mul_assoc]
    exact this
/-- How many columns a set has. -/
def pop16 (T : Nat) : Nat := sumN 16 fun k => if T.testBit k then 1 else 0
theorem pop_ins {T c : Nat} (hc : c < 16) (h : T.testBit c = false) : pop16 (insC T c) = pop16 T + 1 := by
  have key : ∀ m, sumN m (fun k => if (insC T c).testBit k then 1 else 0) = sumN m (fun k => if T.testBit k then 1 else 0) + (if c < m then 1 else 0) := by
    intro m
    induction m with
    | zero => simp [sumN]
    | succ m ih =>
      simp only [sumN]
      rw [ih, insC_bit]
      by_cases hm : c = m
      · subst hm; simp [h]
      · by_cases h1 : c < m
        · simp [hm, h1, show c < m + 1 by omega]; omega
        · simp [hm, h1, show ¬ c < m + 1 by omega]
  have := key 16
  unfold pop16
  rw [this, if_pos hc]
/-- In how many ways so many rooks can be put in the last rows, with columns taken. -/
def rkG (fb : Nat → Nat → Bool) (n : Nat) : Nat → Nat → Nat → Nat
  | 0, _, k => if k = 0 then 1 else 0
  | m + 1, S, k => rkG fb n m S k + sumN n fun j => if fb (n - (m + 1)) j && !S.testBit j then (match k with | 0 => 0 | q + 1 => rkG fb n m (insC S j) q) else 0
/-- The last rows. -/
def lastR (n : Nat) : Nat → List Nat
  | 0 => []
  | m + 1 => (n - (m + 1)) :: lastR n m
theorem lastR_range (n : Nat) : ∀ m, m ≤ n → lastR n m = List.range' (n - m) m
  | 0, _ => rfl
  | m + 1, h => by rw [lastR, lastR_range n m (by omega), List.range'_succ, show n - (m + 1) + 1 = n - m by omega]
theorem lastR_all (n : Nat) : lastR n n = List.range n := by rw [lastR_range n n (Nat.le_refl _), Nat.sub_self, List.range_eq_range']
def popIs (q T : Nat) : Nat := if pop16 T = q then 1 else 0
theorem rowsR_small {fb : Nat → Nat → Bool} {n q : Nat} (hn : n ≤ 16) : ∀ (l : List Nat) (S : Nat), q < pop16 S → rowsR fb n l (popIs q) S = 0
  | [], S, h => by simp [rowsR, popIs, show pop16 S ≠ q by omega]
  | r :: l, S, h => by
    rw [rowsR, stepR, rowsR_small hn l S h, sumN_congr (g := fun _ => 0) fun c hc => ?_, sumN_zero]
    unfold addC
    split
    · rename_i hb
      simp only [Bool.and_eq_true, Bool.not_eq_true'] at hb
      exact rowsR_small hn l _ (by rw [pop_ins (by omega) hb.2]; omega)
    · rfl
theorem rkG_rows {fb : Nat → Nat → Bool} {n : Nat} (hn : n ≤ 16) : ∀ (m S k : Nat), rkG fb n m S k = rowsR fb n (lastR n m) (popIs (k + pop16 S)) S
  | 0, S, k => by
    simp only [rkG, lastR, rowsR, popIs]
    by_cases h : k = 0
    · simp [h]
    · rw [if_neg h, if_neg (by omega)]
  | m + 1, S, k => by
    rw [rkG, lastR, rowsR, stepR, ← rkG_rows hn m S k]
    congr 1
    refine sumN_congr fun j hj => ?_
    unfold addC
    split
    · rename_i hb
      simp only [Bool.and_eq_true, Bool.not_eq_true'] at hb
      have hp := pop_ins (show j < 16 by omega) hb.2
      cases k with
      | zero => exact (rowsR_small hn _ _ (by rw [hp]; omega)).symm
      | succ q =>
        show rkG fb n m (insC S j) q = _
        rw [rkG_rows hn m (insC S j) q, hp, show q + (pop16 S + 1) = q + 1 + pop16 S by omega]
    · rfl
theorem rkG_le {fb : Nat → Nat → Bool} {n : Nat} : ∀ (m S k : Nat), rkG fb n m S k ≤ (n + 1) ^ m
  | 0, S, k => by rw [rkG]; split <;> simp
  | m + 1, S, k => by
    have h1 : sumN n (fun j => if fb (n - (m + 1)) j && !S.testBit j then (match k with | 0 => 0 | q + 1 => rkG fb n m (insC S j) q) else 0) ≤ n * (n + 1) ^ m := by
      rw [← sumN_const]
      refine sumN_le fun j _ => ?_
      split
      · cases k with
        | zero => exact Nat.zero_le _
        | succ q => exact rkG_le m _ q
      · omega
    have := rkG_le (fb := fb) (n := n) m S k
    rw [rkG, Nat.pow_succ, Nat.mul_succ, Nat.mul_comm _ n]
    omega
/-- The numbers of rooks of a board. -/
def rkN (fb : Nat → Nat → Bool) (n k : Nat) : Nat := rkG fb n n 0 k
theorem rkN_any {fb : Nat → Nat → Bool} {n : Nat} (h16 : n ≤ 16) {l : List Nat} (hn : l.Nodup) (hl : ∀ r ∈ l, r < n) (hall : ∀ r, r < n → r ∉ l → ∀ c, c < n → fb r c = false) (k : Nat) :
    rowsR fb n l (popIs k) 0 = rkN fb n k := by
  rw [rowsR_any hn hl hall, rkN, rkG_rows h16, lastR_all, show pop16 0 = 0 from by decide]
  rfl

/- Ways asx a map's entries: set, number, stamp. -/
structure RWay where
  t : Nat
  v : Nat
  b : Nat
def RWay.ent (p : RWay) : MapEntry := { key := .int .u16 (p.t : Nat), val := .int .i64 (p.v : Nat), born := p.b }
def sumW (w : List RWay) (g : RWay → Nat) : Nat := (w.map g).sum
theorem sumW_cons (p : RWay) (w : List RWay) (g : RWay → Nat) : sumW (p :: w) g = g p + sumW w g := by simp [sumW]
theorem sumW_snoc (p : RWay) (w : List RWay) (g : RWay → Nat) : sumW (w ++ [p]) g = sumW w g + g p := by simp [sumW]
theorem sumW_congr {w : List RWay} {g h : RWay → Nat} (he : ∀ p ∈ w, g p = h p) : sumW w g = sumW w h := by
  unfold sumW
  rw [List.map_congr_left he]
theorem sumW_add (w : List RWay) (g h : RWay → Nat) : sumW w (fun p => g p + h p) = sumW w g + sumW w h := by
  induction w with
  | nil => rfl
  | cons p w ih => simp only [sumW_cons]; rw [ih]; omega
theorem sumW_le {w : List RWay} {g : RWay → Nat} {p : RWay} (h : p ∈ w) : g p ≤ sumW w g := by
  induction w with
  | nil => simp at h
  | cons q w ih =>
    rw [sumW_cons]
    rcases List.mem_cons.1 h with rfl | h
    · omega
    · have := ih h; omega
theorem sumW_mono {w : List RWay} {g h : RWay → Nat} (he : ∀ p ∈ w, g p ≤ h p) : sumW w g ≤ sumW w h := by
  induction w with
  | nil => exact Nat.le_refl _
  | cons q w ih => rw [sumW_cons, sumW_cons]; exact Nat.add_le_add (he q (by simp)) (ih fun p hp => he p (by simp [hp]))
/-- Ways asx a map can hold them. -/
structure WaysOk (n ck : Nat) (w : List RWay) : Prop where
  keys : (w.map (·.t)).Nodup
  born : (w.map (·.b)).Nodup
  old : ∀ p ∈ w, p.b < ck
  lt : ∀ p ∈ w, p.t < 2 ^ n
/-- The weighed sum of a test of sets. -/
def wE (w : List RWay) (g : Nat → Nat) : Nat := sumW w fun p => p.v * g p.t
/-- A number more at a set. -/
theorem ways_set {n ck : Nat} {w : List RWay} (h : WaysOk n ck w) {k : Nat} {p : RWay} (hk : w[k]? = some p) (m : Nat) :
    WaysOk n ck (w.set k { p with v := p.v + m }) ∧ ∀ g, wE (w.set k { p with v := p.v + m }) g = wE w g + m * g p.t := by
  have hmap : ∀ (f : RWay → Nat), f { p with v := p.v + m } = f p → (w.set k { p with v := p.v + m }).map f = w.map f := by
    intro f hf
    rw [List.map_set, hf]
    apply List.ext_getElem?
    intro j
    rw [List.getElem?_set]
    split
    · rename_i e
      subst e
      rw [List.length_map]
      have hlt : k < w.length := (List.getElem?_eq_some_iff.1 hk).1
      rw [if_pos hlt, List.getElem?_map, hk]
      rfl
    · rfl
  refine ⟨⟨by rw [hmap _ rfl]; exact h.keys, by rw [hmap _ rfl]; exact h.born, fun q hq => ?_, fun q hq => ?_⟩, fun g => ?_⟩
  · rcases List.mem_or_eq_of_mem_set hq with hq | rfl
    · exact h.old q hq
    · exact h.old p (List.mem_of_getElem? hk)
  · rcases List.mem_or_eq_of_mem_set hq with hq | rfl
    · exact h.lt q hq
    · exact h.lt p (List.mem_of_getElem? hk)
  · have key : ∀ (w : List RWay) (k : Nat), w[k]? = some p → wE (w.set k { p with v := p.v + m }) g = wE w g + m * g p.t := by
      intro w
      induction w with
      | nil => intro k hk; simp at hk
      | cons q w ih =>
        intro k hk
        cases k with
        | zero =>
          simp at hk
          subst hk
          simp only [List.set_cons_zero, wE, sumW_cons]
          rw [Nat.add_mul]; omega
        | succ k =>
          have := ih k (by simpa using hk)
          simp only [List.set_cons_succ, wE, sumW_cons] at this ⊢
          omega
    exact key w k hk
theorem ways_push {n ck : Nat} {w : List RWay} (h : WaysOk n ck w) {T : Nat} (hT : T < 2 ^ n) (hno : ∀ p ∈ w, p.t ≠ T) (m : Nat) :
    WaysOk n (ck + 1) (w ++ [⟨T, m, ck⟩]) ∧ ∀ g, wE (w ++ [⟨T, m, ck⟩]) g = wE w g + m * g T := by
  refine ⟨⟨?_, ?_, fun q hq => ?_, fun q hq => ?_⟩, fun g => by simp only [wE, sumW_snoc]⟩
  · rw [List.map_append, List.nodup_append]
    refine ⟨h.keys, by simp, fun a ha b hb => ?_⟩
    obtain ⟨p, hp, rfl⟩ := List.mem_map.1 ha
    simp at hb
    rw [hb]
    exact hno p hp
  · rw [List.map_append, List.nodup_append]
    refine ⟨h.born, by simp, fun a ha b hb => ?_⟩
    obtain ⟨p, hp, rfl⟩ := List.mem_map.1 ha
    simp at hb
    have := h.old p hp
    omega
  · rcases List.mem_append.1 hq with hq | hq
    · have := h.old q hq; omega
    · simp at hq; subst hq; show ck < ck + 1; omega
  · rcases List.mem_append.1 hq with hq | hq
    · exact h.lt q hq
    · simp at hq; subst hq; exact hT
/-- One entry more is seen. -/
theorem sumW_seen {w : List RWay} (hn : (w.map (·.b)).Nodup) {seen : Array Nat} {p : RWay} (hp : p ∈ w) (hs : seen.contains p.b = false) (g : RWay → Nat) :
    sumW w (fun q => if (seen.push p.b).contains q.b then g q else 0) = sumW w (fun q => if seen.contains q.b then g q else 0) + g p := by
  have hpush : ∀ b, (seen.push p.b).contains b = (seen.contains b || decide (b = p.b)) := by
    intro b
    by_cases e : b = p.b
    · subst e; simp
    · simp [e]
  induction w with
  | nil => simp at hp
  | cons q w ih =>
    simp only [List.map_cons, List.nodup_cons] at hn
    simp only [sumW_cons]
    rcases List.mem_cons.1 hp with rfl | hp
    · have h1 : sumW w (fun r => if (seen.push p.b).contains r.b then g r else 0) = sumW w (fun r => if seen.contains r.b then g r else 0) := by
        refine sumW_congr fun r hr => ?_
        have : r.b ≠ p.b := fun e => hn.1 (List.mem_map.2 ⟨r, hr, e⟩)
        rw [hpush]
        simp [this]
      rw [h1, hpush, hs]
      simp
      omega
    · have hne : q.b ≠ p.b := fun e => hn.1 (List.mem_map.2 ⟨p, hp, e.symm⟩)
      rw [ih hn.2 hp, hpush]
      simp only [hne, decide_false, Bool.or_false]
      omega
theorem sumW_none (w : List RWay) (g : RWay → Nat) : sumW w (fun q => if (#[] : Array Nat).contains q.b then g q else 0) = 0 := by
  induction w with
  | nil => rfl
  | cons q w ih => rw [sumW_cons, ih]; simp
/-- How many entries are still to come. -/
def leftW (w : List RWay) (seen : Array Nat) : Nat := (w.filter fun q => !seen.contains q.b).length
theorem leftW_lt {w : List RWay} {seen : Array Nat} {p : RWay} (hp : p ∈ w) (hs : seen.contains p.b = false) : leftW w (seen.push p.b) < leftW w seen := by
  have hpush : ∀ b, (seen.push p.b).contains b = (seen.contains b || decide (b = p.b)) := by
    intro b
    by_cases e : b = p.b
    · subst e; simp
    · simp [e]
  unfold leftW
  have hsub : ∀ w : List RWay, (w.filter fun q => !(seen.push p.b).contains q.b) = (w.filter fun q => !seen.contains q.b).filter fun q => !decide (q.b = p.b) := by
    intro w
    rw [List.filter_filter]
    refine List.filter_congr fun q _ => ?_
    rw [hpush, Bool.not_or, Bool.and_comm]
  rw [hsub]
  have hm : p ∈ w.filter fun q => !seen.contains q.b := List.mem_filter.2 ⟨hp, by rw [hs]; rfl⟩
  refine List.length_filter_lt_length_iff_exists.2 ⟨p, hm, by simp⟩
end Go.Am
namespace Go.Am
variable {P : Program} {own : Bool} {s : AS} {K : AS → Prop} {d : Option Nat} {x i y : Opd}
/-- The entries of ways. -/
def wA (w : List RWay) : Array MapEntry := (w.map RWay.ent).toArray
abbrev wObj (w : List RWay) (ck : Nat) : Bool × List AV := (true, [.ob (.map (wA w) ck)])
theorem wA_mem {w : List RWay} {e : MapEntry} : e ∈ (wA w).toList ↔ ∃ p ∈ w, p.ent = e := by simp [wA]
theorem wA_get {w : List RWay} {n : Nat} {e : MapEntry} (h : (wA w).toList[n]? = some e) : ∃ p, w[n]? = some p ∧ p.ent = e := by
  simp only [wA, List.getElem?_map, Option.map_eq_some_iff] at h
  exact h
theorem wA_keys (w : List RWay) : ∀ e ∈ (wA w).toList, ∃ q, e.key = .int .u16 q := fun e he => by
  obtain ⟨p, _, rfl⟩ := wA_mem.1 he
  exact ⟨p.t, rfl⟩
theorem ent_key {p : RWay} {T : Nat} (h : p.ent.key = .int .u16 (T : Nat)) : p.t = T := by
  simp only [RWay.ent, Value.int.injEq, true_and] at h
  exact_mod_cast h
theorem wA_born {w : List RWay} (h : (w.map (·.b)).Nodup) : ((wA w).toList.map (·.born)).Nodup := by
  have : (wA w).toList.map (·.born) = w.map (·.b) := by simp [wA, Function.comp_def, RWay.ent]
  rw [this]; exact h
/-- What a map of ways has at a set. -/
def wv (w : List RWay) (T : Nat) : Nat := ((w.find? fun p => p.t == T).map (·.v)).getD 0
theorem wv_mem {w : List RWay} (hk : (w.map (·.t)).Nodup) {p : RWay} (hp : p ∈ w) : wv w p.t = p.v := by
  unfold wv
  induction w with
  | nil => simp at hp
  | cons q w ih =>
    simp only [List.map_cons, List.nodup_cons] at hk
    by_cases e : q.t = p.t
    · have : q = p := by
        rcases List.mem_cons.1 hp with rfl | hp
        · rfl
        · exact absurd (List.mem_map.2 ⟨p, hp, e.symm⟩) hk.1
      simp [this]
    · rcases List.mem_cons.1 hp with rfl | hp
      · exact absurd rfl e
      · rw [List.find?_cons, show (q.t == p.t) = false by simpa using e]
        exact ih hk.2 hp
theorem wv_none {w : List RWay} {T : Nat} (h : ∀ p ∈ w, p.t ≠ T) : wv w T = 0 := by
  unfold wv
  rw [List.find?_eq_none.2 fun p hp => by simpa using h p hp]
  rfl
/-- A map of ways is asked. -/
theorem m_wget {r n ck T : Nat} {w : List RWay} (hw : WaysOk n ck w) (hx : s.ev x = .mp r) (hr : s.hp r = some (wObj w ck)) (hi : s.ev i = .u T) (k : K (s.put d (.i (wv w T : Nat)))) : aop1 P own ⟨d, .mget .u16 (.int .i64 0) false x i, none⟩ s K := by
  refine m_mget hx hr hi (wA_keys w) (fun e he hk => ?_) fun hno => ?_
  · obtain ⟨p, hp, rfl⟩ := wA_mem.1 he
    have := ent_key hk
    rw [← this, wv_mem hw.keys hp] at k
    exact k
  · rw [wv_none fun p hp e => hno p.ent (wA_mem.2 ⟨p, hp, rfl⟩) (by rw [← e]; rfl)] at k
    exact k
/-- A number more at a set. -/
theorem m_wput {r n ck T m : Nat} {w : List RWay} (hw : WaysOk n ck w) (hT : T < 2 ^ n) (hx : s.ev x = .mp r) (hr : s.hp r = some (wObj w ck)) (hi : s.ev i = .u T) (hy : s.ev y = .i (wv w T + m : Nat))
    (k : ∀ w' ck', WaysOk n ck' w' → (∀ g, wE w' g = wE w g + m * g T) → K (s.mem r (wObj w' ck'))) : aop1 P own ⟨none, .mput .u16 x i y, none⟩ s K := by
  refine m_mput hx hr hi hy (wA_keys w) (fun j e he hk => ?_) fun hno => ?_
  · obtain ⟨p, hp, rfl⟩ := wA_get he
    have ht := ent_key hk
    obtain ⟨h1, h2⟩ := ways_set hw hp m
    have h3 := k _ _ h1 (fun g => by rw [h2 g, ht])
    have h4 : (wA w).modify j (fun e => { e with key := .int .u16 (T : Nat), val := .int .i64 ((wv w T + m : Nat) : Int) }) = wA (w.set j { p with v := p.v + m }) := by
      apply Array.ext'
      simp only [wA, List.map_set]
      rw [Array.toList_modify]
      apply List.ext_getElem?
      intro q
      rw [List.getElem?_modify, List.getElem?_set]
      by_cases e : j = q
      · subst e
        have hlt : j < w.length := (List.getElem?_eq_some_iff.1 hp).1
        simp only [if_true, List.getElem?_map, hp, Option.map_some, List.length_map, hlt]
        rw [← ht, wv_mem hw.keys (List.mem_of_getElem? hp)]
        rfl
      · simp [e]
    rw [h4]
    exact h3
  · have hno' : ∀ p ∈ w, p.t ≠ T := fun p hp e => hno p.ent (wA_mem.2 ⟨p, hp, rfl⟩) (by rw [← e]; rfl)
    obtain ⟨h1, h2⟩ := ways_push hw hT hno' m
    have h3 := k _ _ h1 h2
    have h4 : (wA w).push { key := .int .u16 (T : Nat), val := .int .i64 ((wv w T + m : Nat) : Int), born := ck } = wA (w ++ [⟨T, m, ck⟩]) := by
      rw [wv_none hno', Nat.zero_add]
      simp [wA, RWay.ent]
    rw [h4]
    exact h3
/-- The first entry. -/
theorem ways_one (n : Nat) : WaysOk n 1 [⟨0, 1, 0⟩] := ⟨by simp, by simp, by simp, by intro p hp; simp at hp; subst hp; exact Nat.pos_of_ne_zero (by simp)⟩

/- Places that are left, with their stamps. -/
def plE (p : (Nat × Nat) × Nat) : MapEntry := entP p.1 p.2
def plArr (l : List ((Nat × Nat) × Nat)) : Array MapEntry := (l.map plE).toArray
theorem mkEsL_zip : ∀ (l : List (Nat × Nat)) (c : Nat), mkEsL c l = (l.zipIdx c).map plE
  | [], _ => rfl
  | p :: l, c => by rw [mkEsL, mkEsL_zip l (c + 1)]; rfl
theorem mkEs_pl (l : List (Nat × Nat)) : mkEs l = plArr l.zipIdx := by unfold mkEs plArr; rw [mkEsL_zip]
theorem plArr_mem {l : List ((Nat × Nat) × Nat)} {e : MapEntry} : e ∈ (plArr l).toList ↔ ∃ p ∈ l, plE p = e := by simp [plArr]
end Go.Am
namespace Go.Am
/-- The bits of a byte, counted. -/
def popB : ByteArray := ⟨#[0, 1, 1, 2, 1, 2, 2, 3, 1, 2, 2, 3, 2, 3, 3, 4, 1, 2, 2, 3, 2, 3, 3, 4, 2, 3, 3, 4, 3, 4, 4, 5, 1, 2, 2, 3, 2, 3, 3, 4, 2, 3, 3, 4, 3, 4, 4, 5, 2, 3, 3, 4, 3, 4, 4, 5, 3, 4, 4, 5, 4, 5, 5, 6, 1, 2, 2, 3, 2, 3, 3, 4, 2, 3, 3, 4, 3, 4, 4, 5, 2, 3, 3, 4, 3, 4, 4, 5, 3, 4, 4, 5, 4, 5, 5, 6, 2, 3, 3, 4, 3, 4, 4, 5, 3, 4, 4, 5, 4, 5, 5, 6, 3, 4, 4, 5, 4, 5, 5, 6, 4, 5, 5, 6, 5, 6, 6, 7, 1, 2, 2, 3, 2, 3, 3, 4, 2, 3, 3, 4, 3, 4, 4, 5, 2, 3, 3, 4, 3, 4, 4, 5, 3, 4, 4, 5, 4, 5, 5, 6, 2, 3, 3, 4, 3, 4, 4, 5, 3, 4, 4, 5, 4, 5, 5, 6, 3, 4, 4, 5, 4, 5, 5, 6, 4, 5, 5, 6, 5, 6, 6, 7, 2, 3, 3, 4, 3, 4, 4, 5, 3, 4, 4, 5, 4, 5, 5, 6, 3, 4, 4, 5, 4, 5, 5, 6, 4, 5, 5, 6, 5, 6, 6, 7, 3, 4, 4, 5, 4, 5, 5, 6, 4, 5, 5, 6, 5, 6, 6, 7, 4, 5, 5, 6, 5, 6, 6, 7, 5, 6, 6, 7, 6, 7, 7, 8]⟩
theorem popP_get : ∀ S < 512, (popB.data.toList.getD (S >>> 8) 0).toNat + (popB.data.toList.getD (S &&& 255) 0).toNat = pop16 S := by decide +kernel
theorem popB_at {j : Nat} (h : j < popB.size) : (popB[j]'h).toNat = (popB.data.toList.getD j 0).toNat := by
  have h2 : j < popB.data.toList.length := h
  rw [List.getD_eq_getElem?_getD, List.getElem?_eq_getElem h2]
  rfl
theorem popB_size : popB.size = 256 := by decide +kernel
theorem popB_le : ∀ j < 256, (popB.data.toList.getD j 0).toNat ≤ 8 := by decide +kernel
section
variable {P : Program} {own : Bool} {s : AS} {K : AS → Prop} {d : Option Nat} {x y : Opd}
theorem m_sixu {b : ByteArray} {j : Nat} {q : IntKind} (hx : s.ev x = .v (.string b)) (hj : s.ev y = .v (.int q (j : Nat))) (h : j < b.size) (k : K (s.put d (.v (.int .u8 (b[j]'h).toNat)))) : aop1 P own ⟨d, .pu .six [x, y], none⟩ s K :=
  ⟨_, ⟨b, q, j, by simp [hx, hj], by omega, by simpa using h, by simp⟩, k⟩
theorem m_addk {q : IntKind} {a b c : Int} (hx : s.ev x = .v (.int q a)) (hy : s.ev y = .v (.int q b)) (hc : q.wrap (a + b) = c) (k : K (s.put d (.v (.int q c)))) : aop1 P own ⟨d, .bin .add x y, none⟩ s K := ⟨_, _, .int q c, hx, hy, by simp [pbin, hc], k⟩
theorem m_shr8 {a : Nat} (hx : s.ev x = .u a) (hy : s.ev y = .v (.int .u64 8)) (kk : K (s.put d (.u (a >>> 8)))) : aop1 P own ⟨d, .bin .shr x y, none⟩ s K := by
  refine ⟨_, _, _, hx, hy, ?_, kk⟩
  show (if (8 : Int) < 0 then none else some (Value.int .u16 ((a : Int).fdiv (2 ^ (min (8 : Int).toNat IntKind.u16.bits))))) = _
  rw [if_neg (by decide), show min (8 : Int).toNat IntKind.u16.bits = 8 from rfl, Nat.shiftRight_eq_div_pow]
  congr 2
  rw [Int.fdiv_eq_ediv_of_nonneg _ (by decide), show (2 : Int) ^ 8 = 256 from rfl, show (2 : Nat) ^ 8 = 256 from rfl]
  omega
theorem m_cvtk {q k : IntKind} {n c : Int} (hx : s.ev x = .v (.int q n)) (hc : k.wrap n = c) (kk : K (s.put d (.v (.int k c)))) : aop1 P own ⟨d, .pu (.cvt k) [x], none⟩ s K := ⟨_, ⟨q, n, by simp [hx], by rw [hc]⟩, kk⟩
end
/- The places that are left. -/
/-- Those of all that D tells. -/
def lfA (fb : Nat → Nat → Bool) (n : Nat) (D : Nat × Nat → Bool) : List ((Nat × Nat) × Nat) := (posP fb n n).zipIdx.filter fun q => D q.1
abbrev lfObj (fb : Nat → Nat → Bool) (n : Nat) (D : Nat × Nat → Bool) : Bool × List AV := (true, [.ob (.map (plArr (lfA fb n D)) (posP fb n n).length)])
theorem lfA_mem {fb : Nat → Nat → Bool} {n : Nat} {D : Nat × Nat → Bool} {q : (Nat × Nat) × Nat} (h : q ∈ lfA fb n D) : (q.1.1 < n ∧ q.1.2 < n ∧ fb q.1.1 q.1.2 = true) ∧ D q.1 = true ∧ q.2 < (posP fb n n).length := by
  obtain ⟨h1, h2⟩ := List.mem_filter.1 h
  have h3 := List.mem_zipIdx h1
  refine ⟨mem_posP.1 ?_, h2, by omega⟩
  rw [h3.2.2]
  exact List.getElem_mem _
theorem lfA_has {fb : Nat → Nat → Bool} {n : Nat} {D : Nat × Nat → Bool} {p : Nat × Nat} (h : p.1 < n ∧ p.2 < n ∧ fb p.1 p.2 = true) (hD : D p = true) : ∃ q ∈ lfA fb n D, q.1 = p := by
  obtain ⟨k, hk, e⟩ := List.mem_iff_getElem.1 (mem_posP.2 h : p ∈ posP fb n n)
  exact ⟨(p, k), List.mem_filter.2 ⟨by rw [List.mem_zipIdx_iff_getElem?]; simp [hk, e], hD⟩, rfl⟩
theorem lfA_all (fb : Nat → Nat → Bool) (n : Nat) : plArr (lfA fb n fun _ => true) = mkEs (posP fb n n) := by
  rw [mkEs_pl, lfA, List.filter_eq_self.2 fun _ _ => rfl]
theorem lfA_congr {fb : Nat → Nat → Bool} {n : Nat} {D E : Nat × Nat → Bool} (h : ∀ p : Nat × Nat, p.1 < n → p.2 < n → fb p.1 p.2 = true → D p = E p) : lfA fb n D = lfA fb n E := by
  refine List.filter_congr fun q hq => ?_
  have h3 := List.mem_zipIdx hq
  have : q.1 ∈ posP fb n n := by rw [h3.2.2]; exact List.getElem_mem _
  obtain ⟨h4, h5, h6⟩ := mem_posP.1 this
  exact h _ h4 h5 h6
theorem posP_nodup (fb : Nat → Nat → Bool) (n : Nat) : ∀ k, (posP fb n k).Nodup
  | 0 => by simp [posP]
  | k + 1 => by
    rw [posP, List.nodup_append]
    refine ⟨posP_nodup fb n k, ?_, fun a ha b hb e => ?_⟩
    · unfold rowP
      refine List.pairwise_map.2 (List.Pairwise.imp ?_ (List.nodup_range.filter fun j => fb k j))
      intro a b h e
      exact h (by simpa using e)
    · have h1 := mem_posP.1 ha
      have h2 := mem_rowP.1 hb
      rw [e] at h1
      omega
theorem lfA_nodup (fb : Nat → Nat → Bool) (n : Nat) (D : Nat × Nat → Bool) : ((lfA fb n D).map (·.1)).Nodup := by
  refine List.Nodup.sublist (List.filter_sublist.map _) (l₂ := (posP fb n n).zipIdx.map (·.1)) ?_
  rw [List.zipIdx_map_fst]
  exact posP_nodup fb n n
theorem lfA_born (fb : Nat → Nat → Bool) (n : Nat) (D : Nat × Nat → Bool) : ((plArr (lfA fb n D)).toList.map (·.born)).Nodup := by
  have e : (plArr (lfA fb n D)).toList.map (·.born) = (lfA fb n D).map (·.2) := by simp [plArr, Function.comp_def, plE, entP]
  rw [e]
  refine List.Nodup.sublist (List.filter_sublist.map _) (l₂ := (posP fb n n).zipIdx.map (·.2)) ?_
  rw [List.zipIdx_map_snd]
  exact List.nodup_range'
theorem erase_filter {L : List ((Nat × Nat) × Nat)} (h : (L.map (·.1)).Nodup) {j : Nat} {q : (Nat × Nat) × Nat} (hj : L[j]? = some q) : L.eraseIdx j = L.filter fun r => !decide (r.1 = q.1) := by
  induction L generalizing j with
  | nil => simp at hj
  | cons a L ih =>
    simp only [List.map_cons, List.nodup_cons] at h
    cases j with
    | zero =>
      simp at hj
      subst hj
      rw [List.eraseIdx_zero, List.tail_cons, List.filter_cons, if_neg (by simp), List.filter_eq_self.2]
      intro r hr
      have : r.1 ≠ a.1 := fun e => h.1 (List.mem_map.2 ⟨r, hr, e⟩)
      simpa using this
    | succ j =>
      have hq : L[j]? = some q := by simpa using hj
      have : a.1 ≠ q.1 := fun e => h.1 (List.mem_map.2 ⟨q, List.mem_of_getElem? hq, e.symm⟩)
      rw [List.eraseIdx_cons_succ, ih h.2 hq, List.filter_cons, if_pos (by simpa using this)]
theorem lfA_erase {fb : Nat → Nat → Bool} {n : Nat} {D : Nat × Nat → Bool} {j : Nat} {q : (Nat × Nat) × Nat} (hj : (lfA fb n D)[j]? = some q) :
    (plArr (lfA fb n D)).eraseIdxIfInBounds j = plArr (lfA fb n fun p => D p && !decide (p = q.1)) := by
  have hlt : j < (plArr (lfA fb n D)).size := by simpa [plArr] using (List.getElem?_eq_some_iff.1 hj).1
  rw [Array.eraseIdxIfInBounds, dif_pos hlt]
  apply Array.ext'
  rw [Array.toList_eraseIdx]
  simp only [plArr]
  rw [show (List.map plE (lfA fb n D)).eraseIdx j = ((lfA fb n D).eraseIdx j).map plE from by simp [List.eraseIdx_eq_take_drop_succ], erase_filter (lfA_nodup fb n D) hj, lfA, List.filter_filter]
  congr 1
  unfold lfA
  refine List.filter_congr fun r _ => ?_
  rw [Bool.and_comm]
theorem plArr_get {l : List ((Nat × Nat) × Nat)} {n : Nat} {e : MapEntry} (h : (plArr l).toList[n]? = some e) : ∃ p, l[n]? = some p ∧ plE p = e := by
  simp only [plArr, List.getElem?_map, Option.map_eq_some_iff] at h
  exact h
theorem plE_key {q : (Nat × Nat) × Nat} {a b : Nat} (h : (plE q).key = keyP a b) : q.1 = (a, b) := by
  obtain ⟨h1, h2⟩ := keyP_inj (h : keyP q.1.1 q.1.2 = keyP a b)
  exact Prod.ext (Int.ofNat_inj.1 h1) (Int.ofNat_inj.1 h2)
end Go.Am
namespace Go.Proofs.YtddlddnjchhniaaDoor
open Go.Am
attribute [local irreducible] AW Outs Weak Lends Lend Sp aops atree aop1 Then Round InBlock Done
attribute [local irreducible] SpH SpX DoneH DoneX
theorem onesP_spec (S : Nat) (hS2 : S < 512) : Sp Tryd.prog 37 [.u S] (.i (pop16 S : Nat)) := by
  have h1 : S >>> 8 < popB.size := by rw [popB_size, Nat.shiftRight_eq_div_pow]; omega
  have h2 : S &&& 255 < popB.size := by rw [popB_size]; exact Nat.lt_of_le_of_lt Nat.and_le_right (by decide)
  have hg := popP_get S hS2
  have e1 := popB_at h1
  have e2 := popB_at h2
  rw [popB_size] at h1 h2
  have l1 := popB_le _ h1
  have l2 := popB_le _ h2
  rw [← popB_size] at h1 h2
  rw [← e1, ← e2] at hg
  rw [← e1] at l1
  rw [← e2] at l2
  rw [← hg]
  refine spec_of Tryd.func37 rfl cc37 rfl ?_
  unfold ac37
  repeat (first | ((first | refine step_ops ?_ | refine step_tree ?_); (first | (refine m_mov (by conv => lhs; whnf) ?_) | (refine m_add rfl rfl ?_ ?_ ?_; (· omega); (· omega)) | (refine m_adds rfl rfl ?_ ?_; (· first | omega | (simp; omega))) | (refine m_six' rfl rfl ?_ ?_; (· first | omega | (simp; omega))) | (refine m_cvt rfl ?_))) | refine end_ops ?_ | refine seq_ops ?_ | refine AW_ops ?_ | refine end_tree ?_ | refine seq_tree ?_ | refine AW_tree ?_ | refine AW_seq ?_ | refine AW_ret ?_ | refine ret_done ?_ | refine norm_then ?_ | refine ret_then ?_ | refine exit_then ?_)
  refine step_tree ?_
  refine m_shr8 (a := S) rfl rfl ?_
  refine step_tree ?_
  refine m_sixu (b := popB) (j := S >>> 8) (q := .u16) rfl rfl h1 ?_
  repeat (first | ((first | refine step_ops ?_ | refine step_tree ?_); (first | (refine m_mov (by conv => lhs; whnf) ?_) | (refine m_add rfl rfl ?_ ?_ ?_; (· omega); (· omega)) | (refine m_adds rfl rfl ?_ ?_; (· first | omega | (simp; omega))) | (refine m_six' rfl rfl ?_ ?_; (· first | omega | (simp; omega))) | (refine m_cvt rfl ?_))) | refine end_ops ?_ | refine seq_ops ?_ | refine AW_ops ?_ | refine end_tree ?_ | refine seq_tree ?_ | refine AW_tree ?_ | refine AW_seq ?_ | refine AW_ret ?_ | refine ret_done ?_ | refine norm_then ?_ | refine ret_then ?_ | refine exit_then ?_)
  refine step_tree ?_
  refine m_and16 (a := S) (b := 255) rfl rfl (by omega) (by decide) ?_
  refine step_tree ?_
  refine m_sixu (b := popB) (j := S &&& 255) (q := .u16) rfl rfl h2 ?_
  generalize ((popB[S >>> 8]'h1).toNat) = p at *
  generalize ((popB[S &&& 255]'h2).toNat) = q at *
  have w1 : IntKind.u8.wrap ((p : Int) + (q : Int)) = ((p + q : Nat) : Int) := by
    have : IntKind.u8.wrap ((p : Int) + (q : Int)) = ((p : Int) + (q : Int)) % 256 := by simp [IntKind.wrap, IntKind.bits, IntKind.signed]
    omega
  have w2 : IntKind.i64.wrap ((p + q : Nat) : Int) = ((p + q : Nat) : Int) := by rw [IntKind.wrap_i64]; omega
  refine step_tree ?_
  refine m_addk rfl rfl w1 ?_
  refine step_tree ?_
  refine m_cvtk rfl w2 ?_
  repeat (first | ((first | refine step_ops ?_ | refine step_tree ?_); (first | (refine m_mov (by conv => lhs; whnf) ?_) | (refine m_add rfl rfl ?_ ?_ ?_; (· omega); (· omega)) | (refine m_adds rfl rfl ?_ ?_; (· first | omega | (simp; omega))) | (refine m_six' rfl rfl ?_ ?_; (· first | omega | (simp; omega))) | (refine m_cvt rfl ?_))) | refine end_ops ?_ | refine seq_ops ?_ | refine AW_ops ?_ | refine end_tree ?_ | refine seq_tree ?_ | refine AW_tree ?_ | refine AW_seq ?_ | refine AW_ret ?_ | refine ret_done ?_ | refine norm_then ?_ | refine ret_then ?_ | refine exit_then ?_)
  exact outs_i rfl
theorem sizeP_spec (S : Nat) (hS2 : S < 512) : Sp Tryd.prog 30 [.u S] (.i (pop16 S : Nat)) := by
  refine spec_of Tryd.func30 rfl cc30 rfl ?_
  unfold ac30
  repeat (first | (refine step_ops ?_; (refine m_mov (by conv => lhs; whnf) ?_)) | refine end_ops ?_ | refine seq_ops ?_ | refine AW_ops ?_ | refine AW_seq ?_ | refine AW_ret ?_ | refine ret_done ?_ | refine norm_then ?_ | refine ret_then ?_ | refine exit_then ?_)
  (refine step_ops ?_); (apply m_call (onesP_spec S hS2)); (· repeat (first | exact lends_nil | (refine lends_cons ?_ ?_; (· (first | exact lend_v | (refine lend_roM rfl; done) | (refine lend_mat rfl ?_; intro j hj; simp (disch := first | omega | assumption) only [hp_put, hp_mem_ne, hp_kill_ne]; first | exact stM_row rfl hj | (rw [stM_row rfl hj]; rfl)) | (refine lend_ints ?_; first | rfl | omega) | (refine lend_sli (by rfl) ?_; first | rfl | omega | (simp; done)) | (refine lend_pln rfl; done) | (refine lend_plns rfl rfl; done) | (refine lend_txr rfl; done) | (refine lend_txs rfl rfl; done) | exact lend_any | (refine lend_agg ?_; first | rfl | assumption | (simp [plainV]; done)))))))
  repeat (first | (refine step_ops ?_; (refine m_mov (by conv => lhs; whnf) ?_)) | refine end_ops ?_ | refine seq_ops ?_ | refine AW_ops ?_ | refine AW_seq ?_ | refine AW_ret ?_ | refine ret_done ?_ | refine norm_then ?_ | refine ret_then ?_ | refine exit_then ?_)
  exact outs_i rfl
end Go.Proofs.YtddlddnjchhniaaDoor
