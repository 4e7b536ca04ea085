/- The abstract machine, contracts: part 3 of what this claim needs. -/
import Derived.Test.YtjgcmbihbeokeaaDoorZq2
namespace Go.Proofs.YtjgcmbihbeokeaaDoor
open Go.Am
def ac3 : ACode := (.seq (.ops [⟨(some 1), (.box 2 (.t 0)), none⟩, ⟨(some 2), (.mov (.c (.bool false))), none⟩]) (.seq (.ops [⟨(some 3), (.mov (.c (.int .i64 1048576))), none⟩]) (.seq (.ops [⟨(some 9), (.ld (some 2) (.t 1)), none⟩, ⟨(some 10), (.mov (.t 3)), none⟩, ⟨(some 11), (.call 6 [(.t 9), (.t 10)]), none⟩, ⟨(some 3), (.mov (.t 11)), none⟩]) (.seq (.seq (.ops [⟨(some 12), (.mov (.t 3)), none⟩, ⟨(some 13), (.bin .lss (.t 12) (.c (.int .i64 0))), none⟩]) (.cond (.t 13) (.seq (.ops [⟨(some 2), (.mov (.c (.bool true))), none⟩]) .ret) .skip)) (.seq (.ops [⟨(some 15), (.ld (some 2) (.t 1)), none⟩, ⟨(some 16), (.call 8 [(.t 15)]), none⟩, ⟨(some 17), (.call 7 [(.t 16)]), none⟩, ⟨(some 14), (.mov (.t 17)), none⟩, ⟨(some 18), (.ext (.t 14) 0), none⟩, ⟨(some 19), (.ext (.t 14) 1), none⟩, ⟨(some 4), (.mov (.t 18)), none⟩, ⟨(some 5), (.mov (.t 19)), none⟩]) (.seq (.ops [⟨(some 20), (.ld (some 2) (.t 1)), none⟩, ⟨(some 21), (.call 8 [(.t 20)]), none⟩, ⟨(some 6), (.alloc [(.int .i64 0), (.slice none 0 0)]), none⟩, ⟨none, (.st 2 (.t 6) (.t 21)), none⟩]) (.seq (.ops [⟨(some 23), (.ld (some 2) (.t 6)), none⟩, ⟨(some 24), (.call 9 [(.t 23)]), none⟩, ⟨(some 22), (.mov (.t 24)), none⟩, ⟨(some 25), (.ext (.t 22) 0), none⟩, ⟨(some 26), (.ext (.t 22) 1), none⟩, ⟨(some 7), (.mov (.t 25)), none⟩, ⟨(some 8), (.mov (.t 26)), none⟩]) (.seq (.seq (.ops [⟨(some 27), (.mov (.t 7)), none⟩, ⟨(some 28), (.mov (.t 4)), none⟩, ⟨(some 29), (.bin .neq (.t 27) (.t 28)), none⟩, ⟨(some 30), (.mov (.t 29)), none⟩, ⟨(some 31), (.mov (.t 8)), (some (30, false))⟩, ⟨(some 32), (.mov (.t 5)), (some (30, false))⟩, ⟨(some 33), (.beq true (.t 31) (.t 32)), (some (30, false))⟩, ⟨(some 34), (.pick (.t 30) (.c (.bool true)) (.t 33)), none⟩]) (.cond (.t 34) (.seq (.ops [⟨(some 2), (.mov (.c (.bool false))), none⟩]) .ret) .skip)) (.seq (.seq (.tree (.take ⟨(some 35), (.ld (some 2) (.t 6)), none⟩ (.take ⟨(some 36), (.ld (some 2) (.t 1)), none⟩ (.take ⟨(some 37), (.call 8 [(.t 36)]), none⟩ (.take ⟨(some 38), (.call 10 [(.t 35), (.t 37)]), none⟩ (.take ⟨(some 39), (.not (.t 38)), none⟩ .done)))))) (.cond (.t 39) (.seq (.ops [⟨(some 2), (.mov (.c (.bool false))), none⟩]) .ret) .skip)) (.seq (.ops [⟨(some 2), (.mov (.c (.bool true))), none⟩]) .ret))))))))))
theorem cc3 : ccode Tryd.prog (min Tryd.f3.ntmps pbase) (Tryd.f3.body.getD .skip) = some ac3 := by kernel_rfl
def ac6 : ACode := (.seq (.ops [⟨(some 2), (.box 2 (.t 0)), none⟩, ⟨(some 4), (.mov (.c (.int .i64 0))), none⟩]) (.seq (.ops [⟨(some 5), (.fa 1 (.t 2)), none⟩, ⟨(some 6), (.ld none (.t 5)), none⟩, ⟨(some 7), (.mov (.t 1)), none⟩, ⟨(some 8), (.call 19 [(.t 6), (.t 7)]), none⟩, ⟨(some 1), (.mov (.t 8)), none⟩]) (.seq (.seq (.ops [⟨(some 9), (.mov (.t 1)), none⟩, ⟨(some 10), (.bin .lss (.t 9) (.c (.int .i64 0))), none⟩]) (.cond (.t 10) (.seq (.ops [⟨(some 4), (.mov (.c (.int .i64 (-1)))), none⟩]) .ret) .skip)) (.seq (.ops [⟨(some 11), (.mov (.t 1)), none⟩, ⟨(some 4), (.mov (.t 11)), none⟩]) .ret))))
theorem cc6 : ccode Tryd.prog (min Tryd.f6.ntmps pbase) (Tryd.f6.body.getD .skip) = some ac6 := by kernel_rfl
def ac7 : ACode := (.seq (.ops [⟨(some 1), (.box 2 (.t 0)), none⟩, ⟨(some 2), (.mov (.c (.string (.mk #[])))), none⟩, ⟨(some 3), (.mov (.c (.bool false))), none⟩]) (.seq (.seq (.ops [⟨(some 4), (.ld (some 2) (.t 1)), none⟩, ⟨(some 5), (.call 20 [(.t 4)]), none⟩, ⟨(some 6), (.not (.t 5)), none⟩]) (.cond (.t 6) (.seq (.ops [⟨(some 2), (.mov (.c (.string (.mk #[])))), none⟩, ⟨(some 3), (.mov (.c (.bool false))), none⟩]) .ret) .skip)) (.seq (.ops [⟨(some 7), (.ld (some 2) (.t 1)), none⟩, ⟨(some 8), (.call 21 [(.t 7)]), none⟩, ⟨(some 2), (.mov (.t 8)), none⟩, ⟨(some 3), (.mov (.c (.bool true))), none⟩]) .ret)))
theorem cc7 : ccode Tryd.prog (min Tryd.f7.ntmps pbase) (Tryd.f7.body.getD .skip) = some ac7 := by kernel_rfl
def ac8 : ACode := (.seq (.ops [⟨(some 1), (.box 2 (.t 0)), none⟩, ⟨(some 2), (.alloc [(.int .i64 0), (.slice none 0 0)]), none⟩]) (.seq (.ops [⟨(some 3), (.alloc [(.int .i64 0), (.slice none 0 0)]), none⟩]) (.seq (.ops [⟨(some 4), (.fa 0 (.t 1)), none⟩, ⟨(some 5), (.ld none (.t 4)), none⟩, ⟨(some 6), (.fa 0 (.t 3)), none⟩, ⟨none, (.st 1 (.t 6) (.t 5)), none⟩]) (.seq (.ops [⟨(some 7), (.fa 1 (.t 1)), none⟩, ⟨(some 8), (.ld none (.t 7)), none⟩, ⟨(some 9), (.call 22 [(.t 8)]), none⟩, ⟨(some 10), (.fa 1 (.t 3)), none⟩, ⟨none, (.st 1 (.t 10) (.t 9)), none⟩]) (.seq (.ops [⟨(some 11), (.ld (some 2) (.t 3)), none⟩, ⟨none, (.st 2 (.t 2) (.t 11)), none⟩]) .ret)))))
theorem cc8 : ccode Tryd.prog (min Tryd.f8.ntmps pbase) (Tryd.f8.body.getD .skip) = some ac8 := by kernel_rfl
def ac9 : ACode := (.seq (.ops [⟨(some 1), (.box 2 (.t 0)), none⟩, ⟨(some 2), (.mov (.c (.string (.mk #[])))), none⟩, ⟨(some 3), (.mov (.c (.bool false))), none⟩]) (.seq (.seq (.ops [⟨(some 7), (.ld (some 2) (.t 1)), none⟩, ⟨(some 8), (.call 23 [(.t 7)]), none⟩, ⟨(some 9), (.not (.t 8)), none⟩]) (.cond (.t 9) (.seq (.ops [⟨(some 2), (.mov (.c (.string (.mk #[])))), none⟩, ⟨(some 3), (.mov (.c (.bool false))), none⟩]) .ret) .skip)) (.seq (.ops [⟨(some 10), (.fa 1 (.t 1)), none⟩, ⟨(some 11), (.ld none (.t 10)), none⟩, ⟨(some 12), (.len (.t 11)), none⟩, ⟨(some 13), (.mk 1 16 [(.string (.mk #[]))] (.t 12) (.t 12)), none⟩, ⟨(some 4), (.mov (.t 13)), none⟩]) (.seq (.seq (.ops [⟨(some 14), (.fa 1 (.t 1)), none⟩, ⟨(some 15), (.ld none (.t 14)), none⟩, ⟨(some 16), (.len (.t 15)), none⟩, ⟨(some 17), (.mov (.c (.int .i64 0))), none⟩]) (.block 0 (.loop (.seq (.ops [⟨(some 18), (.bin .lss (.t 17) (.t 16)), none⟩]) (.seq (.cond (.t 18) .skip (.exit 0)) (.seq (.block 1 (.seq (.ops [⟨(some 19), (.mov (.t 17)), none⟩, ⟨(some 20), (.idx 3 (.t 15) (.t 17)), none⟩, ⟨(some 21), (.ld (some 3) (.t 20)), none⟩, ⟨(some 6), (.alloc [(.int .i64 0), (.int .i64 0), (.int .i64 0)]), none⟩, ⟨(some 5), (.mov (.t 19)), none⟩, ⟨none, (.st 3 (.t 6) (.t 21)), none⟩]) (.ops [⟨(some 22), (.mov (.t 4)), none⟩, ⟨(some 23), (.mov (.t 5)), none⟩, ⟨(some 24), (.fa 0 (.t 6)), none⟩, ⟨(some 25), (.ld none (.t 24)), none⟩, ⟨(some 26), (.fa 1 (.t 6)), none⟩, ⟨(some 27), (.ld none (.t 26)), none⟩, ⟨(some 28), (.fa 2 (.t 6)), none⟩, ⟨(some 29), (.ld none (.t 28)), none⟩, ⟨(some 30), (.bsl 1 3 [(.int .i64 0)] [(0, (.t 25)), (1, (.t 27)), (2, (.t 29))]), none⟩, ⟨(some 31), (.call 24 [(.t 30), (.c (.string (.mk #[46])))]), none⟩, ⟨(some 32), (.idx 1 (.t 22) (.t 23)), none⟩, ⟨none, (.st 1 (.t 32) (.t 31)), none⟩]))) (.ops [⟨(some 33), (.bin .add (.t 17) (.c (.int .i64 1))), none⟩, ⟨(some 17), (.mov (.t 33)), none⟩]))))))) (.seq (.ops [⟨(some 34), (.fa 0 (.t 1)), none⟩, ⟨(some 35), (.ld none (.t 34)), none⟩, ⟨(some 36), (.call 25 [(.t 35)]), none⟩, ⟨(some 37), (.bin .add (.t 36) (.c (.string (.mk #[58])))), none⟩, ⟨(some 38), (.mov (.t 4)), none⟩, ⟨(some 39), (.call 26 [(.t 38), (.c (.string (.mk #[44])))]), none⟩, ⟨(some 40), (.bin .add (.t 37) (.t 39)), none⟩, ⟨(some 2), (.mov (.t 40)), none⟩, ⟨(some 3), (.mov (.c (.bool true))), none⟩]) .ret)))))
theorem cc9 : ccode Tryd.prog (min Tryd.f9.ntmps pbase) (Tryd.f9.body.getD .skip) = some ac9 := by kernel_rfl
def ac10 : ACode := (.seq (.ops [⟨(some 2), (.box 2 (.t 0)), none⟩, ⟨(some 3), (.box 2 (.t 1)), none⟩, ⟨(some 4), (.mov (.c (.bool false))), none⟩]) (.seq (.seq (.ops [⟨(some 5), (.fa 0 (.t 2)), none⟩, ⟨(some 6), (.ld none (.t 5)), none⟩, ⟨(some 7), (.fa 0 (.t 3)), none⟩, ⟨(some 8), (.ld none (.t 7)), none⟩, ⟨(some 9), (.bin .neq (.t 6) (.t 8)), none⟩]) (.cond (.t 9) (.seq (.ops [⟨(some 4), (.mov (.c (.bool false))), none⟩]) .ret) .skip)) (.seq (.seq (.ops [⟨(some 10), (.fa 1 (.t 2)), none⟩, ⟨(some 11), (.ld none (.t 10)), none⟩, ⟨(some 12), (.fa 1 (.t 3)), none⟩, ⟨(some 13), (.ld none (.t 12)), none⟩, ⟨(some 14), (.call 27 [(.t 11), (.t 13)]), none⟩, ⟨(some 15), (.not (.t 14)), none⟩]) (.cond (.t 15) (.seq (.ops [⟨(some 4), (.mov (.c (.bool false))), none⟩]) .ret) .skip)) (.seq (.ops [⟨(some 4), (.mov (.c (.bool true))), none⟩]) .ret))))
theorem cc10 : ccode Tryd.prog (min Tryd.f10.ntmps pbase) (Tryd.f10.body.getD .skip) = some ac10 := by kernel_rfl
def ac19 : ACode := (.seq (.ops [⟨(some 4), (.mov (.c (.int .i64 0))), none⟩]) (.seq (.ops [⟨(some 5), (.mov (.t 1)), none⟩, ⟨(some 6), (.mov (.t 0)), none⟩, ⟨(some 7), (.len (.t 6)), none⟩, ⟨(some 8), (.bin .sub (.t 5) (.t 7)), none⟩, ⟨(some 1), (.mov (.t 8)), none⟩]) (.seq (.seq (.ops [⟨(some 9), (.mov (.t 1)), none⟩, ⟨(some 10), (.bin .lss (.t 9) (.c (.int .i64 0))), none⟩]) (.cond (.t 10) (.seq (.ops [⟨(some 4), (.mov (.c (.int .i64 (-1)))), none⟩]) .ret) .skip)) (.seq (.ops [⟨(some 11), (.mov (.t 1)), none⟩, ⟨(some 4), (.mov (.t 11)), none⟩]) .ret))))
theorem cc19 : ccode Tryd.prog (min Tryd.f19.ntmps pbase) (Tryd.f19.body.getD .skip) = some ac19 := by kernel_rfl
def ac20 : ACode := (.seq (.ops [⟨(some 1), (.box 2 (.t 0)), none⟩, ⟨(some 2), (.mov (.c (.bool false))), none⟩]) (.seq (.seq (.ops [⟨(some 5), (.fa 0 (.t 1)), none⟩, ⟨(some 6), (.ld none (.t 5)), none⟩, ⟨(some 7), (.call 33 [(.t 6)]), none⟩, ⟨(some 8), (.not (.t 7)), none⟩, ⟨(some 9), (.mov (.t 8)), none⟩, ⟨(some 10), (.fa 1 (.t 1)), (some (9, false))⟩, ⟨(some 11), (.ld none (.t 10)), (some (9, false))⟩, ⟨(some 12), (.len (.t 11)), (some (9, false))⟩, ⟨(some 13), (.bin .gtr (.t 12) (.c (.int .i64 6))), (some (9, false))⟩, ⟨(some 14), (.pick (.t 9) (.c (.bool true)) (.t 13)), none⟩]) (.cond (.t 14) (.seq (.ops [⟨(some 2), (.mov (.c (.bool false))), none⟩]) .ret) .skip)) (.seq (.seq (.ops [⟨(some 15), (.fa 1 (.t 1)), none⟩, ⟨(some 16), (.ld none (.t 15)), none⟩, ⟨(some 17), (.len (.t 16)), none⟩, ⟨(some 18), (.mov (.c (.int .i64 0))), none⟩]) (.block 0 (.loop (.seq (.ops [⟨(some 19), (.bin .lss (.t 18) (.t 17)), none⟩]) (.seq (.cond (.t 19) .skip (.exit 0)) (.seq (.block 1 (.seq (.ops [⟨(some 20), (.idx 3 (.t 16) (.t 18)), none⟩, ⟨(some 21), (.ld (some 3) (.t 20)), none⟩, ⟨(some 4), (.alloc [(.int .i64 0), (.int .i64 0), (.int .i64 0)]), none⟩, ⟨none, (.st 3 (.t 4) (.t 21)), none⟩]) (.seq (.ops [⟨(some 22), (.fa 0 (.t 1)), none⟩, ⟨(some 23), (.ld none (.t 22)), none⟩, ⟨(some 24), (.ld (some 3) (.t 4)), none⟩, ⟨(some 25), (.call 34 [(.t 23), (.t 24)]), none⟩, ⟨(some 26), (.not (.t 25)), none⟩]) (.cond (.t 26) (.seq (.ops [⟨(some 2), (.mov (.c (.bool false))), none⟩]) .ret) .skip)))) (.ops [⟨(some 27), (.bin .add (.t 18) (.c (.int .i64 1))), none⟩, ⟨(some 18), (.mov (.t 27)), none⟩]))))))) (.seq (.ops [⟨(some 2), (.mov (.c (.bool true))), none⟩]) .ret))))
theorem cc20 : ccode Tryd.prog (min Tryd.f20.ntmps pbase) (Tryd.f20.body.getD .skip) = some ac20 := by kernel_rfl
def ac21 : ACode := (.seq (.ops [⟨(some 1), (.box 2 (.t 0)), none⟩, ⟨(some 2), (.mov (.c (.string (.mk #[])))), none⟩]) (.seq (.ops [⟨(some 6), (.fa 0 (.t 1)), none⟩, ⟨(some 7), (.ld none (.t 6)), none⟩, ⟨(some 8), (.call 35 [(.t 7)]), none⟩, ⟨(some 9), (.bin .add (.t 8) (.c (.string (.mk #[58])))), none⟩, ⟨(some 3), (.mov (.t 9)), none⟩]) (.seq (.seq (.ops [⟨(some 10), (.fa 1 (.t 1)), none⟩, ⟨(some 11), (.ld none (.t 10)), none⟩, ⟨(some 12), (.len (.t 11)), none⟩, ⟨(some 13), (.mov (.c (.int .i64 0))), none⟩]) (.block 0 (.loop (.seq (.ops [⟨(some 14), (.bin .lss (.t 13) (.t 12)), none⟩]) (.seq (.cond (.t 14) .skip (.exit 0)) (.seq (.block 1 (.seq (.ops [⟨(some 15), (.mov (.t 13)), none⟩, ⟨(some 16), (.idx 3 (.t 11) (.t 13)), none⟩, ⟨(some 17), (.ld (some 3) (.t 16)), none⟩, ⟨(some 5), (.alloc [(.int .i64 0), (.int .i64 0), (.int .i64 0)]), none⟩, ⟨(some 4), (.mov (.t 15)), none⟩, ⟨none, (.st 3 (.t 5) (.t 17)), none⟩]) (.seq (.seq (.ops [⟨(some 18), (.mov (.t 4)), none⟩, ⟨(some 19), (.bin .gtr (.t 18) (.c (.int .i64 0))), none⟩]) (.cond (.t 19) (.ops [⟨(some 20), (.mov (.t 3)), none⟩, ⟨(some 21), (.bin .add (.t 20) (.c (.string (.mk #[44])))), none⟩, ⟨(some 3), (.mov (.t 21)), none⟩]) .skip)) (.tree (.take ⟨(some 22), (.mov (.t 3)), none⟩ (.take ⟨(some 23), (.fa 0 (.t 5)), none⟩ (.take ⟨(some 24), (.ld none (.t 23)), none⟩ (.take ⟨(some 25), (.call 35 [(.t 24)]), none⟩ (.take ⟨(some 26), (.bin .add (.t 25) (.c (.string (.mk #[46])))), none⟩ (.take ⟨(some 27), (.fa 1 (.t 5)), none⟩ (.take ⟨(some 28), (.ld none (.t 27)), none⟩ (.take ⟨(some 29), (.call 35 [(.t 28)]), none⟩ (.take ⟨(some 30), (.bin .add (.t 26) (.t 29)), none⟩ (.take ⟨(some 31), (.bin .add (.t 30) (.c (.string (.mk #[46])))), none⟩ (.take ⟨(some 32), (.fa 2 (.t 5)), none⟩ (.take ⟨(some 33), (.ld none (.t 32)), none⟩ (.take ⟨(some 34), (.call 35 [(.t 33)]), none⟩ (.take ⟨(some 35), (.bin .add (.t 31) (.t 34)), none⟩ (.take ⟨(some 36), (.bin .add (.t 22) (.t 35)), none⟩ (.take ⟨(some 3), (.mov (.t 36)), none⟩ .done)))))))))))))))))))) (.ops [⟨(some 37), (.bin .add (.t 13) (.c (.int .i64 1))), none⟩, ⟨(some 13), (.mov (.t 37)), none⟩]))))))) (.seq (.ops [⟨(some 38), (.mov (.t 3)), none⟩, ⟨(some 2), (.mov (.t 38)), none⟩]) .ret))))
theorem cc21 : ccode Tryd.prog (min Tryd.f21.ntmps pbase) (Tryd.f21.body.getD .skip) = some ac21 := by kernel_rfl
def ac22 : ACode := (.seq (.ops [⟨(some 2), (.nils 3), none⟩]) (.seq (.ops [⟨(some 5), (.mov (.t 0)), none⟩, ⟨(some 6), (.len (.t 5)), none⟩, ⟨(some 7), (.mk 3 24 [(.int .i64 0), (.int .i64 0), (.int .i64 0)] (.t 6) (.t 6)), none⟩, ⟨(some 3), (.mov (.t 7)), none⟩]) (.seq (.seq (.ops [⟨(some 4), (.mov (.c (.int .i64 0))), none⟩]) (.block 0 (.loop (.seq (.seq (.ops [⟨(some 8), (.mov (.t 4)), none⟩, ⟨(some 9), (.mov (.t 0)), none⟩, ⟨(some 10), (.len (.t 9)), none⟩, ⟨(some 11), (.bin .lss (.t 8) (.t 10)), none⟩]) (.cond (.t 11) .skip (.exit 0))) (.seq (.block 1 (.ops [⟨(some 14), (.mov (.t 3)), none⟩, ⟨(some 15), (.mov (.t 4)), none⟩, ⟨(some 16), (.mov (.t 0)), none⟩, ⟨(some 17), (.mov (.t 4)), none⟩, ⟨(some 18), (.idx 3 (.t 16) (.t 17)), none⟩, ⟨(some 19), (.ld (some 3) (.t 18)), none⟩, ⟨(some 20), (.call 36 [(.t 19)]), none⟩, ⟨(some 21), (.idx 3 (.t 14) (.t 15)), none⟩, ⟨none, (.st 3 (.t 21) (.t 20)), none⟩])) (.ops [⟨(some 12), (.mov (.t 4)), none⟩, ⟨(some 13), (.bin .add (.t 12) (.c (.int .i64 1))), none⟩, ⟨(some 4), (.mov (.t 13)), none⟩])))))) (.seq (.ops [⟨(some 22), (.mov (.t 3)), none⟩, ⟨(some 2), (.mov (.t 22)), none⟩]) .ret))))
theorem cc22 : ccode Tryd.prog (min Tryd.f22.ntmps pbase) (Tryd.f22.body.getD .skip) = some ac22 := by kernel_rfl
def ac23 : ACode := (.seq (.ops [⟨(some 1), (.box 2 (.t 0)), none⟩, ⟨(some 2), (.mov (.c (.bool false))), none⟩]) (.seq (.ops [⟨(some 6), (.ld (some 2) (.t 1)), none⟩, ⟨(some 7), (.call 37 [(.t 6)]), none⟩, ⟨(some 5), (.mov (.t 7)), none⟩, ⟨(some 8), (.ext (.t 5) 0), none⟩, ⟨(some 9), (.ext (.t 5) 1), none⟩, ⟨(some 3), (.mov (.t 8)), none⟩, ⟨(some 4), (.mov (.t 9)), none⟩]) (.seq (.ops [⟨(some 10), (.mov (.t 4)), none⟩, ⟨(some 2), (.mov (.t 10)), none⟩]) .ret)))
theorem cc23 : ccode Tryd.prog (min Tryd.f23.ntmps pbase) (Tryd.f23.body.getD .skip) = some ac23 := by kernel_rfl
def ac24 : ACode := (.seq (.ops [⟨(some 4), (.mov (.c (.string (.mk #[])))), none⟩]) (.seq (.ops [⟨(some 8), (.mov (.t 0)), none⟩, ⟨(some 9), (.len (.t 8)), none⟩, ⟨(some 10), (.mk 1 16 [(.string (.mk #[]))] (.t 9) (.t 9)), none⟩, ⟨(some 5), (.mov (.t 10)), none⟩]) (.seq (.seq (.ops [⟨(some 11), (.mov (.t 0)), none⟩, ⟨(some 12), (.len (.t 11)), none⟩, ⟨(some 13), (.mov (.c (.int .i64 0))), none⟩]) (.block 0 (.loop (.seq (.ops [⟨(some 14), (.bin .lss (.t 13) (.t 12)), none⟩]) (.seq (.cond (.t 14) .skip (.exit 0)) (.seq (.block 1 (.seq (.ops [⟨(some 15), (.mov (.t 13)), none⟩, ⟨(some 16), (.idx 1 (.t 11) (.t 13)), none⟩, ⟨(some 17), (.ld none (.t 16)), none⟩, ⟨(some 6), (.mov (.t 15)), none⟩, ⟨(some 7), (.mov (.t 17)), none⟩]) (.ops [⟨(some 18), (.mov (.t 5)), none⟩, ⟨(some 19), (.mov (.t 6)), none⟩, ⟨(some 20), (.mov (.t 7)), none⟩, ⟨(some 21), (.call 25 [(.t 20)]), none⟩, ⟨(some 22), (.idx 1 (.t 18) (.t 19)), none⟩, ⟨none, (.st 1 (.t 22) (.t 21)), none⟩]))) (.ops [⟨(some 23), (.bin .add (.t 13) (.c (.int .i64 1))), none⟩, ⟨(some 13), (.mov (.t 23)), none⟩]))))))) (.seq (.ops [⟨(some 24), (.mov (.t 5)), none⟩, ⟨(some 25), (.mov (.t 1)), none⟩, ⟨(some 26), (.call 26 [(.t 24), (.t 25)]), none⟩, ⟨(some 4), (.mov (.t 26)), none⟩]) .ret))))
theorem cc24 : ccode Tryd.prog (min Tryd.f24.ntmps pbase) (Tryd.f24.body.getD .skip) = some ac24 := by kernel_rfl
def ac27 : ACode := (.seq (.ops [⟨(some 4), (.mov (.c (.bool false))), none⟩]) (.seq (.seq (.ops [⟨(some 6), (.mov (.t 0)), none⟩, ⟨(some 7), (.len (.t 6)), none⟩, ⟨(some 8), (.mov (.t 1)), none⟩, ⟨(some 9), (.len (.t 8)), none⟩, ⟨(some 10), (.bin .neq (.t 7) (.t 9)), none⟩]) (.cond (.t 10) (.seq (.ops [⟨(some 4), (.mov (.c (.bool false))), none⟩]) .ret) .skip)) (.seq (.seq (.ops [⟨(some 5), (.mov (.c (.int .i64 0))), none⟩]) (.block 0 (.loop (.seq (.seq (.ops [⟨(some 11), (.mov (.t 5)), none⟩, ⟨(some 12), (.mov (.t 0)), none⟩, ⟨(some 13), (.len (.t 12)), none⟩, ⟨(some 14), (.bin .lss (.t 11) (.t 13)), none⟩]) (.cond (.t 14) .skip (.exit 0))) (.seq (.block 1 (.seq (.tree (.take ⟨(some 17), (.mov (.t 0)), none⟩ (.take ⟨(some 18), (.mov (.t 5)), none⟩ (.take ⟨(some 19), (.idx 3 (.t 17) (.t 18)), none⟩ (.take ⟨(some 20), (.ld (some 3) (.t 19)), none⟩ (.take ⟨(some 21), (.mov (.t 1)), none⟩ (.take ⟨(some 22), (.mov (.t 5)), none⟩ (.take ⟨(some 23), (.idx 3 (.t 21) (.t 22)), none⟩ (.take ⟨(some 24), (.ld (some 3) (.t 23)), none⟩ (.take ⟨(some 25), (.call 42 [(.t 20), (.t 24)]), none⟩ (.take ⟨(some 26), (.not (.t 25)), none⟩ .done))))))))))) (.cond (.t 26) (.seq (.ops [⟨(some 4), (.mov (.c (.bool false))), none⟩]) .ret) .skip))) (.ops [⟨(some 15), (.mov (.t 5)), none⟩, ⟨(some 16), (.bin .add (.t 15) (.c (.int .i64 1))), none⟩, ⟨(some 5), (.mov (.t 16)), none⟩])))))) (.seq (.ops [⟨(some 4), (.mov (.c (.bool true))), none⟩]) .ret))))
theorem cc27 : ccode Tryd.prog (min Tryd.f27.ntmps pbase) (Tryd.f27.body.getD .skip) = some ac27 := by kernel_rfl
def ac33 : ACode := (.seq (.ops [⟨(some 2), (.mov (.c (.bool false))), none⟩]) (.seq (.ops [⟨(some 3), (.mov (.t 0)), none⟩, ⟨(some 4), (.call 43 [(.t 3), (.c (.int .i64 1)), (.c (.int .i64 5))]), none⟩, ⟨(some 2), (.mov (.t 4)), none⟩]) .ret))
theorem cc33 : ccode Tryd.prog (min Tryd.f33.ntmps pbase) (Tryd.f33.body.getD .skip) = some ac33 := by kernel_rfl
def ac34 : ACode := (.seq (.ops [⟨(some 3), (.box 3 (.t 1)), none⟩, ⟨(some 4), (.mov (.c (.bool false))), none⟩]) (.seq (.seq (.ops [⟨(some 5), (.fa 0 (.t 3)), none⟩, ⟨(some 6), (.ld none (.t 5)), none⟩]) (.block 0 (.seq (.seq (.ops [⟨(some 8), (.bin .eql (.t 6) (.c (.int .i64 0))), none⟩, ⟨(some 7), (.mov (.t 8)), none⟩]) (.cond (.t 7) .skip (.ops [⟨(some 9), (.bin .eql (.t 6) (.c (.int .i64 1))), none⟩, ⟨(some 7), (.mov (.t 9)), none⟩]))) (.cond (.t 7) (.seq (.ops [⟨(some 10), (.fa 1 (.t 3)), none⟩, ⟨(some 11), (.ld none (.t 10)), none⟩, ⟨(some 12), (.mov (.t 0)), none⟩, ⟨(some 13), (.bin .sub (.t 12) (.c (.int .i64 1))), none⟩, ⟨(some 14), (.call 43 [(.t 11), (.c (.int .i64 0)), (.t 13)]), none⟩, ⟨(some 15), (.mov (.t 14)), none⟩, ⟨(some 16), (.fa 2 (.t 3)), (some (15, true))⟩, ⟨(some 17), (.ld none (.t 16)), (some (15, true))⟩, ⟨(some 18), (.mov (.t 0)), (some (15, true))⟩, ⟨(some 19), (.bin .sub (.t 18) (.c (.int .i64 1))), (some (15, true))⟩, ⟨(some 20), (.call 43 [(.t 17), (.c (.int .i64 0)), (.t 19)]), (some (15, true))⟩, ⟨(some 21), (.pick (.t 15) (.t 20) (.c (.bool false))), none⟩, ⟨(some 4), (.mov (.t 21)), none⟩]) .ret) (.seq (.ops [⟨(some 23), (.bin .eql (.t 6) (.c (.int .i64 2))), none⟩, ⟨(some 22), (.mov (.t 23)), none⟩]) (.cond (.t 22) (.seq (.ops [⟨(some 24), (.fa 1 (.t 3)), none⟩, ⟨(some 25), (.ld none (.t 24)), none⟩, ⟨(some 26), (.mov (.t 0)), none⟩, ⟨(some 27), (.call 43 [(.t 25), (.c (.int .i64 0)), (.t 26)]), none⟩, ⟨(some 28), (.mov (.t 27)), none⟩, ⟨(some 29), (.fa 2 (.t 3)), (some (28, true))⟩, ⟨(some 30), (.ld none (.t 29)), (some (28, true))⟩, ⟨(some 31), (.bin .eql (.t 30) (.c (.int .i64 0))), (some (28, true))⟩, ⟨(some 32), (.pick (.t 28) (.t 31) (.c (.bool false))), none⟩, ⟨(some 4), (.mov (.t 32)), none⟩]) .ret) (.seq (.ops [⟨(some 34), (.bin .eql (.t 6) (.c (.int .i64 3))), none⟩, ⟨(some 33), (.mov (.t 34)), none⟩]) (.cond (.t 33) (.seq (.ops [⟨(some 35), (.fa 1 (.t 3)), none⟩, ⟨(some 36), (.ld none (.t 35)), none⟩, ⟨(some 37), (.mov (.t 0)), none⟩, ⟨(some 38), (.call 43 [(.t 36), (.c (.int .i64 1)), (.t 37)]), none⟩, ⟨(some 39), (.mov (.t 38)), none⟩, ⟨(some 40), (.fa 2 (.t 3)), (some (39, true))⟩, ⟨(some 41), (.ld none (.t 40)), (some (39, true))⟩, ⟨(some 42), (.bin .eql (.t 41) (.c (.int .i64 0))), (some (39, true))⟩, ⟨(some 43), (.pick (.t 39) (.t 42) (.c (.bool false))), none⟩, ⟨(some 4), (.mov (.t 43)), none⟩]) .ret) (.seq (.ops [⟨(some 45), (.bin .eql (.t 6) (.c (.int .i64 4))), none⟩, ⟨(some 44), (.mov (.t 45)), none⟩]) (.cond (.t 44) (.seq (.ops [⟨(some 46), (.fa 1 (.t 3)), none⟩, ⟨(some 47), (.ld none (.t 46)), none⟩, ⟨(some 48), (.mov (.t 0)), none⟩, ⟨(some 49), (.bin .sub (.t 48) (.c (.int .i64 1))), none⟩, ⟨(some 50), (.call 43 [(.t 47), (.c (.int .i64 0)), (.t 49)]), none⟩, ⟨(some 51), (.mov (.t 50)), none⟩, ⟨(some 52), (.fa 2 (.t 3)), (some (51, true))⟩, ⟨(some 53), (.ld none (.t 52)), (some (51, true))⟩, ⟨(some 54), (.call 43 [(.t 53), (.c (.int .i64 0)), (.c (.int .i64 1))]), (some (51, true))⟩, ⟨(some 55), (.pick (.t 51) (.t 54) (.c (.bool false))), none⟩, ⟨(some 4), (.mov (.t 55)), none⟩]) .ret) (.seq (.ops [⟨(some 57), (.bin .eql (.t 6) (.c (.int .i64 5))), none⟩, ⟨(some 56), (.mov (.t 57)), none⟩]) (.cond (.t 56) (.seq (.ops [⟨(some 58), (.fa 1 (.t 3)), none⟩, ⟨(some 59), (.ld none (.t 58)), none⟩, ⟨(some 60), (.call 43 [(.t 59), (.c (.int .i64 1)), (.c (.int .i64 6))]), none⟩, ⟨(some 61), (.mov (.t 60)), none⟩, ⟨(some 62), (.fa 2 (.t 3)), (some (61, true))⟩, ⟨(some 63), (.ld none (.t 62)), (some (61, true))⟩, ⟨(some 64), (.bin .eql (.t 63) (.c (.int .i64 0))), (some (61, true))⟩, ⟨(some 65), (.pick (.t 61) (.t 64) (.c (.bool false))), none⟩, ⟨(some 4), (.mov (.t 65)), none⟩]) .ret) .skip)))))))))))) (.seq (.ops [⟨(some 4), (.mov (.c (.bool false))), none⟩]) .ret)))
theorem cc34 : ccode Tryd.prog (min Tryd.f34.ntmps pbase) (Tryd.f34.body.getD .skip) = some ac34 := by kernel_rfl
def ac35 : ACode := (.seq (.ops [⟨(some 2), (.mov (.c (.string (.mk #[])))), none⟩]) (.seq (.seq (.ops [⟨(some 3), (.mov (.t 0)), none⟩, ⟨(some 4), (.bin .lss (.t 3) (.c (.int .i64 10))), none⟩]) (.cond (.t 4) (.seq (.ops [⟨(some 5), (.mov (.t 0)), none⟩, ⟨(some 6), (.bin .add (.c (.int .i64 48)) (.t 5)), none⟩, ⟨(some 7), (.pu (.cvt .u8) [(.t 6)]), none⟩, ⟨(some 8), (.bsl 1 1 [(.int .u8 0)] [(0, (.t 7))]), none⟩, ⟨(some 9), (.bts (.t 8)), none⟩, ⟨(some 2), (.mov (.t 9)), none⟩]) .ret) .skip)) (.seq (.tree (.two ⟨(some 10), (.mov (.t 0)), none⟩ (.two ⟨(some 11), (.bin .quo (.t 10) (.c (.int .i64 10))), none⟩ (.two ⟨(some 12), (.call 35 [(.t 11)]), none⟩ (.take ⟨(some 13), (.mov (.t 0)), none⟩ (.take ⟨(some 14), (.bin .rem (.t 13) (.c (.int .i64 10))), none⟩ (.take ⟨(some 15), (.bin .add (.c (.int .i64 48)) (.t 14)), none⟩ (.take ⟨(some 16), (.pu (.cvt .u8) [(.t 15)]), none⟩ (.take ⟨(some 17), (.bsl 1 1 [(.int .u8 0)] [(0, (.t 16))]), none⟩ (.take ⟨(some 18), (.bts (.t 17)), none⟩ (.take ⟨(some 19), (.bin .add (.t 12) (.t 18)), none⟩ (.take ⟨(some 2), (.mov (.t 19)), none⟩ .done)))))))) ⟨(some 13), (.mov (.t 0)), none⟩ (.two ⟨(some 12), (.call 35 [(.t 11)]), none⟩ (.take ⟨(some 14), (.bin .rem (.t 13) (.c (.int .i64 10))), none⟩ (.take ⟨(some 15), (.bin .add (.c (.int .i64 48)) (.t 14)), none⟩ (.take ⟨(some 16), (.pu (.cvt .u8) [(.t 15)]), none⟩ (.take ⟨(some 17), (.bsl 1 1 [(.int .u8 0)] [(0, (.t 16))]), none⟩ (.take ⟨(some 18), (.bts (.t 17)), none⟩ (.take ⟨(some 19), (.bin .add (.t 12) (.t 18)), none⟩ (.take ⟨(some 2), (.mov (.t 19)), none⟩ .done))))))) ⟨(some 14), (.bin .rem (.t 13) (.c (.int .i64 10))), none⟩ (.two ⟨(some 12), (.call 35 [(.t 11)]), none⟩ (.take ⟨(some 15), (.bin .add (.c (.int .i64 48)) (.t 14)), none⟩ (.take ⟨(some 16), (.pu (.cvt .u8) [(.t 15)]), none⟩ (.take ⟨(some 17), (.bsl 1 1 [(.int .u8 0)] [(0, (.t 16))]), none⟩ (.take ⟨(some 18), (.bts (.t 17)), none⟩ (.take ⟨(some 19), (.bin .add (.t 12) (.t 18)), none⟩ (.take ⟨(some 2), (.mov (.t 19)), none⟩ .done)))))) ⟨(some 15), (.bin .add (.c (.int .i64 48)) (.t 14)), none⟩ (.two ⟨(some 12), (.call 35 [(.t 11)]), none⟩ (.take ⟨(some 16), (.pu (.cvt .u8) [(.t 15)]), none⟩ (.take ⟨(some 17), (.bsl 1 1 [(.int .u8 0)] [(0, (.t 16))]), none⟩ (.take ⟨(some 18), (.bts (.t 17)), none⟩ (.take ⟨(some 19), (.bin .add (.t 12) (.t 18)), none⟩ (.take ⟨(some 2), (.mov (.t 19)), none⟩ .done))))) ⟨(some 16), (.pu (.cvt .u8) [(.t 15)]), none⟩ (.two ⟨(some 12), (.call 35 [(.t 11)]), none⟩ (.take ⟨(some 17), (.bsl 1 1 [(.int .u8 0)] [(0, (.t 16))]), none⟩ (.take ⟨(some 18), (.bts (.t 17)), none⟩ (.take ⟨(some 19), (.bin .add (.t 12) (.t 18)), none⟩ (.take ⟨(some 2), (.mov (.t 19)), none⟩ .done)))) ⟨(some 17), (.bsl 1 1 [(.int .u8 0)] [(0, (.t 16))]), none⟩ (.two ⟨(some 12), (.call 35 [(.t 11)]), none⟩ (.take ⟨(some 18), (.bts (.t 17)), none⟩ (.take ⟨(some 19), (.bin .add (.t 12) (.t 18)), none⟩ (.take ⟨(some 2), (.mov (.t 19)), none⟩ .done))) ⟨(some 18), (.bts (.t 17)), none⟩ (.take ⟨(some 12), (.call 35 [(.t 11)]), none⟩ (.take ⟨(some 19), (.bin .add (.t 12) (.t 18)), none⟩ (.take ⟨(some 2), (.mov (.t 19)), none⟩ .done))))))))) ⟨(some 13), (.mov (.t 0)), none⟩ (.two ⟨(some 11), (.bin .quo (.t 10) (.c (.int .i64 10))), none⟩ (.two ⟨(some 12), (.call 35 [(.t 11)]), none⟩ (.take ⟨(some 14), (.bin .rem (.t 13) (.c (.int .i64 10))), none⟩ (.take ⟨(some 15), (.bin .add (.c (.int .i64 48)) (.t 14)), none⟩ (.take ⟨(some 16), (.pu (.cvt .u8) [(.t 15)]), none⟩ (.take ⟨(some 17), (.bsl 1 1 [(.int .u8 0)] [(0, (.t 16))]), none⟩ (.take ⟨(some 18), (.bts (.t 17)), none⟩ (.take ⟨(some 19), (.bin .add (.t 12) (.t 18)), none⟩ (.take ⟨(some 2), (.mov (.t 19)), none⟩ .done))))))) ⟨(some 14), (.bin .rem (.t 13) (.c (.int .i64 10))), none⟩ (.two ⟨(some 12), (.call 35 [(.t 11)]), none⟩ (.take ⟨(some 15), (.bin .add (.c (.int .i64 48)) (.t 14)), none⟩ (.take ⟨(some 16), (.pu (.cvt .u8) [(.t 15)]), none⟩ (.take ⟨(some 17), (.bsl 1 1 [(.int .u8 0)] [(0, (.t 16))]), none⟩ (.take ⟨(some 18), (.bts (.t 17)), none⟩ (.take ⟨(some 19), (.bin .add (.t 12) (.t 18)), none⟩ (.take ⟨(some 2), (.mov (.t 19)), none⟩ .done)))))) ⟨(some 15), (.bin .add (.c (.int .i64 48)) (.t 14)), none⟩ (.two ⟨(some 12), (.call 35 [(.t 11)]), none⟩ (.take ⟨(some 16), (.pu (.cvt .u8) [(.t 15)]), none⟩ (.take ⟨(some 17), (.bsl 1 1 [(.int .u8 0)] [(0, (.t 16))]), none⟩ (.take ⟨(some 18), (.bts (.t 17)), none⟩ (.take ⟨(some 19), (.bin .add (.t 12) (.t 18)), none⟩ (.take ⟨(some 2), (.mov (.t 19)), none⟩ .done))))) ⟨(some 16), (.pu (.cvt .u8) [(.t 15)]), none⟩ (.two ⟨(some 12), (.call 35 [(.t 11)]), none⟩ (.take ⟨(some 17), (.bsl 1 1 [(.int .u8 0)] [(0, (.t 16))]), none⟩ (.take ⟨(some 18), (.bts (.t 17)), none⟩ (.take ⟨(some 19), (.bin .add (.t 12) (.t 18)), none⟩ (.take ⟨(some 2), (.mov (.t 19)), none⟩ .done)))) ⟨(some 17), (.bsl 1 1 [(.int .u8 0)] [(0, (.t 16))]), none⟩ (.two ⟨(some 12), (.call 35 [(.t 11)]), none⟩ (.take ⟨(some 18), (.bts (.t 17)), none⟩ (.take ⟨(some 19), (.bin .add (.t 12) (.t 18)), none⟩ (.take ⟨(some 2), (.mov (.t 19)), none⟩ .done))) ⟨(some 18), (.bts (.t 17)), none⟩ (.take ⟨(some 12), (.call 35 [(.t 11)]), none⟩ (.take ⟨(some 19), (.bin .add (.t 12) (.t 18)), none⟩ (.take ⟨(some 2), (.mov (.t 19)), none⟩ .done)))))))) ⟨(some 14), (.bin .rem (.t 13) (.c (.int .i64 10))), none⟩ (.two ⟨(some 11), (.bin .quo (.t 10) (.c (.int .i64 10))), none⟩ (.two ⟨(some 12), (.call 35 [(.t 11)]), none⟩ (.take ⟨(some 15), (.bin .add (.c (.int .i64 48)) (.t 14)), none⟩ (.take ⟨(some 16), (.pu (.cvt .u8) [(.t 15)]), none⟩ (.take ⟨(some 17), (.bsl 1 1 [(.int .u8 0)] [(0, (.t 16))]), none⟩ (.take ⟨(some 18), (.bts (.t 17)), none⟩ (.take ⟨(some 19), (.bin .add (.t 12) (.t 18)), none⟩ (.take ⟨(some 2), (.mov (.t 19)), none⟩ .done)))))) ⟨(some 15), (.bin .add (.c (.int .i64 48)) (.t 14)), none⟩ (.two ⟨(some 12), (.call 35 [(.t 11)]), none⟩ (.take ⟨(some 16), (.pu (.cvt .u8) [(.t 15)]), none⟩ (.take ⟨(some 17), (.bsl 1 1 [(.int .u8 0)] [(0, (.t 16))]), none⟩ (.take ⟨(some 18), (.bts (.t 17)), none⟩ (.take ⟨(some 19), (.bin .add (.t 12) (.t 18)), none⟩ (.take ⟨(some 2), (.mov (.t 19)), none⟩ .done))))) ⟨(some 16), (.pu (.cvt .u8) [(.t 15)]), none⟩ (.two ⟨(some 12), (.call 35 [(.t 11)]), none⟩ (.take ⟨(some 17), (.bsl 1 1 [(.int .u8 0)] [(0, (.t 16))]), none⟩ (.take ⟨(some 18), (.bts (.t 17)), none⟩ (.take ⟨(some 19), (.bin .add (.t 12) (.t 18)), none⟩ (.take ⟨(some 2), (.mov (.t 19)), none⟩ .done)))) ⟨(some 17), (.bsl 1 1 [(.int .u8 0)] [(0, (.t 16))]), none⟩ (.two ⟨(some 12), (.call 35 [(.t 11)]), none⟩ (.take ⟨(some 18), (.bts (.t 17)), none⟩ (.take ⟨(some 19), (.bin .add (.t 12) (.t 18)), none⟩ (.take ⟨(some 2), (.mov (.t 19)), none⟩ .done))) ⟨(some 18), (.bts (.t 17)), none⟩ (.take ⟨(some 12), (.call 35 [(.t 11)]), none⟩ (.take ⟨(some 19), (.bin .add (.t 12) (.t 18)), none⟩ (.take ⟨(some 2), (.mov (.t 19)), none⟩ .done))))))) ⟨(some 15), (.bin .add (.c (.int .i64 48)) (.t 14)), none⟩ (.two ⟨(some 11), (.bin .quo (.t 10) (.c (.int .i64 10))), none⟩ (.two ⟨(some 12), (.call 35 [(.t 11)]), none⟩ (.take ⟨(some 16), (.pu (.cvt .u8) [(.t 15)]), none⟩ (.take ⟨(some 17), (.bsl 1 1 [(.int .u8 0)] [(0, (.t 16))]), none⟩ (.take ⟨(some 18), (.bts (.t 17)), none⟩ (.take ⟨(some 19), (.bin .add (.t 12) (.t 18)), none⟩ (.take ⟨(some 2), (.mov (.t 19)), none⟩ .done))))) ⟨(some 16), (.pu (.cvt .u8) [(.t 15)]), none⟩ (.two ⟨(some 12), (.call 35 [(.t 11)]), none⟩ (.take ⟨(some 17), (.bsl 1 1 [(.int .u8 0)] [(0, (.t 16))]), none⟩ (.take ⟨(some 18), (.bts (.t 17)), none⟩ (.take ⟨(some 19), (.bin .add (.t 12) (.t 18)), none⟩ (.take ⟨(some 2), (.mov (.t 19)), none⟩ .done)))) ⟨(some 17), (.bsl 1 1 [(.int .u8 0)] [(0, (.t 16))]), none⟩ (.two ⟨(some 12), (.call 35 [(.t 11)]), none⟩ (.take ⟨(some 18), (.bts (.t 17)), none⟩ (.take ⟨(some 19), (.bin .add (.t 12) (.t 18)), none⟩ (.take ⟨(some 2), (.mov (.t 19)), none⟩ .done))) ⟨(some 18), (.bts (.t 17)), none⟩ (.take ⟨(some 12), (.call 35 [(.t 11)]), none⟩ (.take ⟨(some 19), (.bin .add (.t 12) (.t 18)), none⟩ (.take ⟨(some 2), (.mov (.t 19)), none⟩ .done)))))) ⟨(some 16), (.pu (.cvt .u8) [(.t 15)]), none⟩ (.two ⟨(some 11), (.bin .quo (.t 10) (.c (.int .i64 10))), none⟩ (.two ⟨(some 12), (.call 35 [(.t 11)]), none⟩ (.take ⟨(some 17), (.bsl 1 1 [(.int .u8 0)] [(0, (.t 16))]), none⟩ (.take ⟨(some 18), (.bts (.t 17)), none⟩ (.take ⟨(some 19), (.bin .add (.t 12) (.t 18)), none⟩ (.take ⟨(some 2), (.mov (.t 19)), none⟩ .done)))) ⟨(some 17), (.bsl 1 1 [(.int .u8 0)] [(0, (.t 16))]), none⟩ (.two ⟨(some 12), (.call 35 [(.t 11)]), none⟩ (.take ⟨(some 18), (.bts (.t 17)), none⟩ (.take ⟨(some 19), (.bin .add (.t 12) (.t 18)), none⟩ (.take ⟨(some 2), (.mov (.t 19)), none⟩ .done))) ⟨(some 18), (.bts (.t 17)), none⟩ (.take ⟨(some 12), (.call 35 [(.t 11)]), none⟩ (.take ⟨(some 19), (.bin .add (.t 12) (.t 18)), none⟩ (.take ⟨(some 2), (.mov (.t 19)), none⟩ .done))))) ⟨(some 17), (.bsl 1 1 [(.int .u8 0)] [(0, (.t 16))]), none⟩ (.two ⟨(some 11), (.bin .quo (.t 10) (.c (.int .i64 10))), none⟩ (.two ⟨(some 12), (.call 35 [(.t 11)]), none⟩ (.take ⟨(some 18), (.bts (.t 17)), none⟩ (.take ⟨(some 19), (.bin .add (.t 12) (.t 18)), none⟩ (.take ⟨(some 2), (.mov (.t 19)), none⟩ .done))) ⟨(some 18), (.bts (.t 17)), none⟩ (.take ⟨(some 12), (.call 35 [(.t 11)]), none⟩ (.take ⟨(some 19), (.bin .add (.t 12) (.t 18)), none⟩ (.take ⟨(some 2), (.mov (.t 19)), none⟩ .done)))) ⟨(some 18), (.bts (.t 17)), none⟩ (.take ⟨(some 11), (.bin .quo (.t 10) (.c (.int .i64 10))), none⟩ (.take ⟨(some 12), (.call 35 [(.t 11)]), none⟩ (.take ⟨(some 19), (.bin .add (.t 12) (.t 18)), none⟩ (.take ⟨(some 2), (.mov (.t 19)), none⟩ .done)))))))))) ⟨(some 13), (.mov (.t 0)), none⟩ (.two ⟨(some 10), (.mov (.t 0)), none⟩ (.two ⟨(some 11), (.bin .quo (.t 10) (.c (.int .i64 10))), none⟩ (.two ⟨(some 12), (.call 35 [(.t 11)]), none⟩ (.take ⟨(some 14), (.bin .rem (.t 13) (.c (.int .i64 10))), none⟩ (.take ⟨(some 15), (.bin .add (.c (.int .i64 48)) (.t 14)), none⟩ (.take ⟨(some 16), (.pu (.cvt .u8) [(.t 15)]), none⟩ (.take ⟨(some 17), (.bsl 1 1 [(.int .u8 0)] [(0, (.t 16))]), none⟩ (.take ⟨(some 18), (.bts (.t 17)), none⟩ (.take ⟨(some 19), (.bin .add (.t 12) (.t 18)), none⟩ (.take ⟨(some 2), (.mov (.t 19)), none⟩ .done))))))) ⟨(some 14), (.bin .rem (.t 13) (.c (.int .i64 10))), none⟩ (.two ⟨(some 12), (.call 35 [(.t 11)]), none⟩ (.take ⟨(some 15), (.bin .add (.c (.int .i64 48)) (.t 14)), none⟩ (.take ⟨(some 16), (.pu (.cvt .u8) [(.t 15)]), none⟩ (.take ⟨(some 17), (.bsl 1 1 [(.int .u8 0)] [(0, (.t 16))]), none⟩ (.take ⟨(some 18), (.bts (.t 17)), none⟩ (.take ⟨(some 19), (.bin .add (.t 12) (.t 18)), none⟩ (.take ⟨(some 2), (.mov (.t 19)), none⟩ .done)))))) ⟨(some 15), (.bin .add (.c (.int .i64 48)) (.t 14)), none⟩ (.two ⟨(some 12), (.call 35 [(.t 11)]), none⟩ (.take ⟨(some 16), (.pu (.cvt .u8) [(.t 15)]), none⟩ (.take ⟨(some 17), (.bsl 1 1 [(.int .u8 0)] [(0, (.t 16))]), none⟩ (.take ⟨(some 18), (.bts (.t 17)), none⟩ (.take ⟨(some 19), (.bin .add (.t 12) (.t 18)), none⟩ (.take ⟨(some 2), (.mov (.t 19)), none⟩ .done))))) ⟨(some 16), (.pu (.cvt .u8) [(.t 15)]), none⟩ (.two ⟨(some 12), (.call 35 [(.t 11)]), none⟩ (.take ⟨(some 17), (.bsl 1 1 [(.int .u8 0)] [(0, (.t 16))]), none⟩ (.take ⟨(some 18), (.bts (.t 17)), none⟩ (.take ⟨(some 19), (.bin .add (.t 12) (.t 18)), none⟩ (.take ⟨(some 2), (.mov (.t 19)), none⟩ .done)))) ⟨(some 17), (.bsl 1 1 [(.int .u8 0)] [(0, (.t 16))]), none⟩ (.two ⟨(some 12), (.call 35 [(.t 11)]), none⟩ (.take ⟨(some 18), (.bts (.t 17)), none⟩ (.take ⟨(some 19), (.bin .add (.t 12) (.t 18)), none⟩ (.take ⟨(some 2), (.mov (.t 19)), none⟩ .done))) ⟨(some 18), (.bts (.t 17)), none⟩ (.take ⟨(some 12), (.call 35 [(.t 11)]), none⟩ (.take ⟨(some 19), (.bin .add (.t 12) (.t 18)), none⟩ (.take ⟨(some 2), (.mov (.t 19)), none⟩ .done)))))))) ⟨(some 14), (.bin .rem (.t 13) (.c (.int .i64 10))), none⟩ (.two ⟨(some 11), (.bin .quo (.t 10) (.c (.int .i64 10))), none⟩ (.two ⟨(some 12), (.call 35 [(.t 11)]), none⟩ (.take ⟨(some 15), (.bin .add (.c (.int .i64 48)) (.t 14)), none⟩ (.take ⟨(some 16), (.pu (.cvt .u8) [(.t 15)]), none⟩ (.take ⟨(some 17), (.bsl 1 1 [(.int .u8 0)] [(0, (.t 16))]), none⟩ (.take ⟨(some 18), (.bts (.t 17)), none⟩ (.take ⟨(some 19), (.bin .add (.t 12) (.t 18)), none⟩ (.take ⟨(some 2), (.mov (.t 19)), none⟩ .done)))))) ⟨(some 15), (.bin .add (.c (.int .i64 48)) (.t 14)), none⟩ (.two ⟨(some 12), (.call 35 [(.t 11)]), none⟩ (.take ⟨(some 16), (.pu (.cvt .u8) [(.t 15)]), none⟩ (.take ⟨(some 17), (.bsl 1 1 [(.int .u8 0)] [(0, (.t 16))]), none⟩ (.take ⟨(some 18), (.bts (.t 17)), none⟩ (.take ⟨(some 19), (.bin .add (.t 12) (.t 18)), none⟩ (.take ⟨(some 2), (.mov (.t 19)), none⟩ .done))))) ⟨(some 16), (.pu (.cvt .u8) [(.t 15)]), none⟩ (.two ⟨(some 12), (.call 35 [(.t 11)]), none⟩ (.take ⟨(some 17), (.bsl 1 1 [(.int .u8 0)] [(0, (.t 16))]), none⟩ (.take ⟨(some 18), (.bts (.t 17)), none⟩ (.take ⟨(some 19), (.bin .add (.t 12) (.t 18)), none⟩ (.take ⟨(some 2), (.mov (.t 19)), none⟩ .done)))) ⟨(some 17), (.bsl 1 1 [(.int .u8 0)] [(0, (.t 16))]), none⟩ (.two ⟨(some 12), (.call 35 [(.t 11)]), none⟩ (.take ⟨(some 18), (.bts (.t 17)), none⟩ (.take ⟨(some 19), (.bin .add (.t 12) (.t 18)), none⟩ (.take ⟨(some 2), (.mov (.t 19)), none⟩ .done))) ⟨(some 18), (.bts (.t 17)), none⟩ (.take ⟨(some 12), (.call 35 [(.t 11)]), none⟩ (.take ⟨(some 19), (.bin .add (.t 12) (.t 18)), none⟩ (.take ⟨(some 2), (.mov (.t 19)), none⟩ .done))))))) ⟨(some 15), (.bin .add (.c (.int .i64 48)) (.t 14)), none⟩ (.two ⟨(some 11), (.bin .quo (.t 10) (.c (.int .i64 10))), none⟩ (.two ⟨(some 12), (.call 35 [(.t 11)]), none⟩ (.take ⟨(some 16), (.pu (.cvt .u8) [(.t 15)]), none⟩ (.take ⟨(some 17), (.bsl 1 1 [(.int .u8 0)] [(0, (.t 16))]), none⟩ (.take ⟨(some 18), (.bts (.t 17)), none⟩ (.take ⟨(some 19), (.bin .add (.t 12) (.t 18)), none⟩ (.take ⟨(some 2), (.mov (.t 19)), none⟩ .done))))) ⟨(some 16), (.pu (.cvt .u8) [(.t 15)]), none⟩ (.two ⟨(some 12), (.call 35 [(.t 11)]), none⟩ (.take ⟨(some 17), (.bsl 1 1 [(.int .u8 0)] [(0, (.t 16))]), none⟩ (.take ⟨(some 18), (.bts (.t 17)), none⟩ (.take ⟨(some 19), (.bin .add (.t 12) (.t 18)), none⟩ (.take ⟨(some 2), (.mov (.t 19)), none⟩ .done)))) ⟨(some 17), (.bsl 1 1 [(.int .u8 0)] [(0, (.t 16))]), none⟩ (.two ⟨(some 12), (.call 35 [(.t 11)]), none⟩ (.take ⟨(some 18), (.bts (.t 17)), none⟩ (.take ⟨(some 19), (.bin .add (.t 12) (.t 18)), none⟩ (.take ⟨(some 2), (.mov (.t 19)), none⟩ .done))) ⟨(some 18), (.bts (.t 17)), none⟩ (.take ⟨(some 12), (.call 35 [(.t 11)]), none⟩ (.take ⟨(some 19), (.bin .add (.t 12) (.t 18)), none⟩ (.take ⟨(some 2), (.mov (.t 19)), none⟩ .done)))))) ⟨(some 16), (.pu (.cvt .u8) [(.t 15)]), none⟩ (.two ⟨(some 11), (.bin .quo (.t 10) (.c (.int .i64 10))), none⟩ (.two ⟨(some 12), (.call 35 [(.t 11)]), none⟩ (.take ⟨(some 17), (.bsl 1 1 [(.int .u8 0)] [(0, (.t 16))]), none⟩ (.take ⟨(some 18), (.bts (.t 17)), none⟩ (.take ⟨(some 19), (.bin .add (.t 12) (.t 18)), none⟩ (.take ⟨(some 2), (.mov (.t 19)), none⟩ .done)))) ⟨(some 17), (.bsl 1 1 [(.int .u8 0)] [(0, (.t 16))]), none⟩ (.two ⟨(some 12), (.call 35 [(.t 11)]), none⟩ (.take ⟨(some 18), (.bts (.t 17)), none⟩ (.take ⟨(some 19), (.bin .add (.t 12) (.t 18)), none⟩ (.take ⟨(some 2), (.mov (.t 19)), none⟩ .done))) ⟨(some 18), (.bts (.t 17)), none⟩ (.take ⟨(some 12), (.call 35 [(.t 11)]), none⟩ (.take ⟨(some 19), (.bin .add (.t 12) (.t 18)), none⟩ (.take ⟨(some 2), (.mov (.t 19)), none⟩ .done))))) ⟨(some 17), (.bsl 1 1 [(.int .u8 0)] [(0, (.t 16))]), none⟩ (.two ⟨(some 11), (.bin .quo (.t 10) (.c (.int .i64 10))), none⟩ (.two ⟨(some 12), (.call 35 [(.t 11)]), none⟩ (.take ⟨(some 18), (.bts (.t 17)), none⟩ (.take ⟨(some 19), (.bin .add (.t 12) (.t 18)), none⟩ (.take ⟨(some 2), (.mov (.t 19)), none⟩ .done))) ⟨(some 18), (.bts (.t 17)), none⟩ (.take ⟨(some 12), (.call 35 [(.t 11)]), none⟩ (.take ⟨(some 19), (.bin .add (.t 12) (.t 18)), none⟩ (.take ⟨(some 2), (.mov (.t 19)), none⟩ .done)))) ⟨(some 18), (.bts (.t 17)), none⟩ (.take ⟨(some 11), (.bin .quo (.t 10) (.c (.int .i64 10))), none⟩ (.take ⟨(some 12), (.call 35 [(.t 11)]), none⟩ (.take ⟨(some 19), (.bin .add (.t 12) (.t 18)), none⟩ (.take ⟨(some 2), (.mov (.t 19)), none⟩ .done))))))))) ⟨(some 14), (.bin .rem (.t 13) (.c (.int .i64 10))), none⟩ (.two ⟨(some 10), (.mov (.t 0)), none⟩ (.two ⟨(some 11), (.bin .quo (.t 10) (.c (.int .i64 10))), none⟩ (.two ⟨(some 12), (.call 35 [(.t 11)]), none⟩ (.take ⟨(some 15), (.bin .add (.c (.int .i64 48)) (.t 14)), none⟩ (.take ⟨(some 16), (.pu (.cvt .u8) [(.t 15)]), none⟩ (.take ⟨(some 17), (.bsl 1 1 [(.int .u8 0)] [(0, (.t 16))]), none⟩ (.take ⟨(some 18), (.bts (.t 17)), none⟩ (.take ⟨(some 19), (.bin .add (.t 12) (.t 18)), none⟩ (.take ⟨(some 2), (.mov (.t 19)), none⟩ .done)))))) ⟨(some 15), (.bin .add (.c (.int .i64 48)) (.t 14)), none⟩ (.two ⟨(some 12), (.call 35 [(.t 11)]), none⟩ (.take ⟨(some 16), (.pu (.cvt .u8) [(.t 15)]), none⟩ (.take ⟨(some 17), (.bsl 1 1 [(.int .u8 0)] [(0, (.t 16))]), none⟩ (.take ⟨(some 18), (.bts (.t 17)), none⟩ (.take ⟨(some 19), (.bin .add (.t 12) (.t 18)), none⟩ (.take ⟨(some 2), (.mov (.t 19)), none⟩ .done))))) ⟨(some 16), (.pu (.cvt .u8) [(.t 15)]), none⟩ (.two ⟨(some 12), (.call 35 [(.t 11)]), none⟩ (.take ⟨(some 17), (.bsl 1 1 [(.int .u8 0)] [(0, (.t 16))]), none⟩ (.take ⟨(some 18), (.bts (.t 17)), none⟩ (.take ⟨(some 19), (.bin .add (.t 12) (.t 18)), none⟩ (.take ⟨(some 2), (.mov (.t 19)), none⟩ .done)))) ⟨(some 17), (.bsl 1 1 [(.int .u8 0)] [(0, (.t 16))]), none⟩ (.two ⟨(some 12), (.call 35 [(.t 11)]), none⟩ (.take ⟨(some 18), (.bts (.t 17)), none⟩ (.take ⟨(some 19), (.bin .add (.t 12) (.t 18)), none⟩ (.take ⟨(some 2), (.mov (.t 19)), none⟩ .done))) ⟨(some 18), (.bts (.t 17)), none⟩ (.take ⟨(some 12), (.call 35 [(.t 11)]), none⟩ (.take ⟨(some 19), (.bin .add (.t 12) (.t 18)), none⟩ (.take ⟨(some 2), (.mov (.t 19)), none⟩ .done))))))) ⟨(some 15), (.bin .add (.c (.int .i64 48)) (.t 14)), none⟩ (.two ⟨(some 11), (.bin .quo (.t 10) (.c (.int .i64 10))), none⟩ (.two ⟨(some 12), (.call 35 [(.t 11)]), none⟩ (.take ⟨(some 16), (.pu (.cvt .u8) [(.t 15)]), none⟩ (.take ⟨(some 17), (.bsl 1 1 [(.int .u8 0)] [(0, (.t 16))]), none⟩ (.take ⟨(some 18), (.bts (.t 17)), none⟩ (.take ⟨(some 19), (.bin .add (.t 12) (.t 18)), none⟩ (.take ⟨(some 2), (.mov (.t 19)), none⟩ .done))))) ⟨(some 16), (.pu (.cvt .u8) [(.t 15)]), none⟩ (.two ⟨(some 12), (.call 35 [(.t 11)]), none⟩ (.take ⟨(some 17), (.bsl 1 1 [(.int .u8 0)] [(0, (.t 16))]), none⟩ (.take ⟨(some 18), (.bts (.t 17)), none⟩ (.take ⟨(some 19), (.bin .add (.t 12) (.t 18)), none⟩ (.take ⟨(some 2), (.mov (.t 19)), none⟩ .done)))) ⟨(some 17), (.bsl 1 1 [(.int .u8 0)] [(0, (.t 16))]), none⟩ (.two ⟨(some 12), (.call 35 [(.t 11)]), none⟩ (.take ⟨(some 18), (.bts (.t 17)), none⟩ (.take ⟨(some 19), (.bin .add (.t 12) (.t 18)), none⟩ (.take ⟨(some 2), (.mov (.t 19)), none⟩ .done))) ⟨(some 18), (.bts (.t 17)), none⟩ (.take ⟨(some 12), (.call 35 [(.t 11)]), none⟩ (.take ⟨(some 19), (.bin .add (.t 12) (.t 18)), none⟩ (.take ⟨(some 2), (.mov (.t 19)), none⟩ .done)))))) ⟨(some 16), (.pu (.cvt .u8) [(.t 15)]), none⟩ (.two ⟨(some 11), (.bin .quo (.t 10) (.c (.int .i64 10))), none⟩ (.two ⟨(some 12), (.call 35 [(.t 11)]), none⟩ (.take ⟨(some 17), (.bsl 1 1 [(.int .u8 0)] [(0, (.t 16))]), none⟩ (.take ⟨(some 18), (.bts (.t 17)), none⟩ (.take ⟨(some 19), (.bin .add (.t 12) (.t 18)), none⟩ (.take ⟨(some 2), (.mov (.t 19)), none⟩ .done)))) ⟨(some 17), (.bsl 1 1 [(.int .u8 0)] [(0, (.t 16))]), none⟩ (.two ⟨(some 12), (.call 35 [(.t 11)]), none⟩ (.take ⟨(some 18), (.bts (.t 17)), none⟩ (.take ⟨(some 19), (.bin .add (.t 12) (.t 18)), none⟩ (.take ⟨(some 2), (.mov (.t 19)), none⟩ .done))) ⟨(some 18), (.bts (.t 17)), none⟩ (.take ⟨(some 12), (.call 35 [(.t 11)]), none⟩ (.take ⟨(some 19), (.bin .add (.t 12) (.t 18)), none⟩ (.take ⟨(some 2), (.mov (.t 19)), none⟩ .done))))) ⟨(some 17), (.bsl 1 1 [(.int .u8 0)] [(0, (.t 16))]), none⟩ (.two ⟨(some 11), (.bin .quo (.t 10) (.c (.int .i64 10))), none⟩ (.two ⟨(some 12), (.call 35 [(.t 11)]), none⟩ (.take ⟨(some 18), (.bts (.t 17)), none⟩ (.take ⟨(some 19), (.bin .add (.t 12) (.t 18)), none⟩ (.take ⟨(some 2), (.mov (.t 19)), none⟩ .done))) ⟨(some 18), (.bts (.t 17)), none⟩ (.take ⟨(some 12), (.call 35 [(.t 11)]), none⟩ (.take ⟨(some 19), (.bin .add (.t 12) (.t 18)), none⟩ (.take ⟨(some 2), (.mov (.t 19)), none⟩ .done)))) ⟨(some 18), (.bts (.t 17)), none⟩ (.take ⟨(some 11), (.bin .quo (.t 10) (.c (.int .i64 10))), none⟩ (.take ⟨(some 12), (.call 35 [(.t 11)]), none⟩ (.take ⟨(some 19), (.bin .add (.t 12) (.t 18)), none⟩ (.take ⟨(some 2), (.mov (.t 19)), none⟩ .done)))))))) ⟨(some 15), (.bin .add (.c (.int .i64 48)) (.t 14)), none⟩ (.two ⟨(some 10), (.mov (.t 0)), none⟩ (.two ⟨(some 11), (.bin .quo (.t 10) (.c (.int .i64 10))), none⟩ (.two ⟨(some 12), (.call 35 [(.t 11)]), none⟩ (.take ⟨(some 16), (.pu (.cvt .u8) [(.t 15)]), none⟩ (.take ⟨(some 17), (.bsl 1 1 [(.int .u8 0)] [(0, (.t 16))]), none⟩ (.take ⟨(some 18), (.bts (.t 17)), none⟩ (.take ⟨(some 19), (.bin .add (.t 12) (.t 18)), none⟩ (.take ⟨(some 2), (.mov (.t 19)), none⟩ .done))))) ⟨(some 16), (.pu (.cvt .u8) [(.t 15)]), none⟩ (.two ⟨(some 12), (.call 35 [(.t 11)]), none⟩ (.take ⟨(some 17), (.bsl 1 1 [(.int .u8 0)] [(0, (.t 16))]), none⟩ (.take ⟨(some 18), (.bts (.t 17)), none⟩ (.take ⟨(some 19), (.bin .add (.t 12) (.t 18)), none⟩ (.take ⟨(some 2), (.mov (.t 19)), none⟩ .done)))) ⟨(some 17), (.bsl 1 1 [(.int .u8 0)] [(0, (.t 16))]), none⟩ (.two ⟨(some 12), (.call 35 [(.t 11)]), none⟩ (.take ⟨(some 18), (.bts (.t 17)), none⟩ (.take ⟨(some 19), (.bin .add (.t 12) (.t 18)), none⟩ (.take ⟨(some 2), (.mov (.t 19)), none⟩ .done))) ⟨(some 18), (.bts (.t 17)), none⟩ (.take ⟨(some 12), (.call 35 [(.t 11)]), none⟩ (.take ⟨(some 19), (.bin .add (.t 12) (.t 18)), none⟩ (.take ⟨(some 2), (.mov (.t 19)), none⟩ .done)))))) ⟨(some 16), (.pu (.cvt .u8) [(.t 15)]), none⟩ (.two ⟨(some 11), (.bin .quo (.t 10) (.c (.int .i64 10))), none⟩ (.two ⟨(some 12), (.call 35 [(.t 11)]), none⟩ (.take ⟨(some 17), (.bsl 1 1 [(.int .u8 0)] [(0, (.t 16))]), none⟩ (.take ⟨(some 18), (.bts (.t 17)), none⟩ (.take ⟨(some 19), (.bin .add (.t 12) (.t 18)), none⟩ (.take ⟨(some 2), (.mov (.t 19)), none⟩ .done)))) ⟨(some 17), (.bsl 1 1 [(.int .u8 0)] [(0, (.t 16))]), none⟩ (.two ⟨(some 12), (.call 35 [(.t 11)]), none⟩ (.take ⟨(some 18), (.bts (.t 17)), none⟩ (.take ⟨(some 19), (.bin .add (.t 12) (.t 18)), none⟩ (.take ⟨(some 2), (.mov (.t 19)), none⟩ .done))) ⟨(some 18), (.bts (.t 17)), none⟩ (.take ⟨(some 12), (.call 35 [(.t 11)]), none⟩ (.take ⟨(some 19), (.bin .add (.t 12) (.t 18)), none⟩ (.take ⟨(some 2), (.mov (.t 19)), none⟩ .done))))) ⟨(some 17), (.bsl 1 1 [(.int .u8 0)] [(0, (.t 16))]), none⟩ (.two ⟨(some 11), (.bin .quo (.t 10) (.c (.int .i64 10))), none⟩ (.two ⟨(some 12), (.call 35 [(.t 11)]), none⟩ (.take ⟨(some 18), (.bts (.t 17)), none⟩ (.take ⟨(some 19), (.bin .add (.t 12) (.t 18)), none⟩ (.take ⟨(some 2), (.mov (.t 19)), none⟩ .done))) ⟨(some 18), (.bts (.t 17)), none⟩ (.take ⟨(some 12), (.call 35 [(.t 11)]), none⟩ (.take ⟨(some 19), (.bin .add (.t 12) (.t 18)), none⟩ (.take ⟨(some 2), (.mov (.t 19)), none⟩ .done)))) ⟨(some 18), (.bts (.t 17)), none⟩ (.take ⟨(some 11), (.bin .quo (.t 10) (.c (.int .i64 10))), none⟩ (.take ⟨(some 12), (.call 35 [(.t 11)]), none⟩ (.take ⟨(some 19), (.bin .add (.t 12) (.t 18)), none⟩ (.take ⟨(some 2), (.mov (.t 19)), none⟩ .done))))))) ⟨(some 16), (.pu (.cvt .u8) [(.t 15)]), none⟩ (.two ⟨(some 10), (.mov (.t 0)), none⟩ (.two ⟨(some 11), (.bin .quo (.t 10) (.c (.int .i64 10))), none⟩ (.two ⟨(some 12), (.call 35 [(.t 11)]), none⟩ (.take ⟨(some 17), (.bsl 1 1 [(.int .u8 0)] [(0, (.t 16))]), none⟩ (.take ⟨(some 18), (.bts (.t 17)), none⟩ (.take ⟨(some 19), (.bin .add (.t 12) (.t 18)), none⟩ (.take ⟨(some 2), (.mov (.t 19)), none⟩ .done)))) ⟨(some 17), (.bsl 1 1 [(.int .u8 0)] [(0, (.t 16))]), none⟩ (.two ⟨(some 12), (.call 35 [(.t 11)]), none⟩ (.take ⟨(some 18), (.bts (.t 17)), none⟩ (.take ⟨(some 19), (.bin .add (.t 12) (.t 18)), none⟩ (.take ⟨(some 2), (.mov (.t 19)), none⟩ .done))) ⟨(some 18), (.bts (.t 17)), none⟩ (.take ⟨(some 12), (.call 35 [(.t 11)]), none⟩ (.take ⟨(some 19), (.bin .add (.t 12) (.t 18)), none⟩ (.take ⟨(some 2), (.mov (.t 19)), none⟩ .done))))) ⟨(some 17), (.bsl 1 1 [(.int .u8 0)] [(0, (.t 16))]), none⟩ (.two ⟨(some 11), (.bin .quo (.t 10) (.c (.int .i64 10))), none⟩ (.two ⟨(some 12), (.call 35 [(.t 11)]), none⟩ (.take ⟨(some 18), (.bts (.t 17)), none⟩ (.take ⟨(some 19), (.bin .add (.t 12) (.t 18)), none⟩ (.take ⟨(some 2), (.mov (.t 19)), none⟩ .done))) ⟨(some 18), (.bts (.t 17)), none⟩ (.take ⟨(some 12), (.call 35 [(.t 11)]), none⟩ (.take ⟨(some 19), (.bin .add (.t 12) (.t 18)), none⟩ (.take ⟨(some 2), (.mov (.t 19)), none⟩ .done)))) ⟨(some 18), (.bts (.t 17)), none⟩ (.take ⟨(some 11), (.bin .quo (.t 10) (.c (.int .i64 10))), none⟩ (.take ⟨(some 12), (.call 35 [(.t 11)]), none⟩ (.take ⟨(some 19), (.bin .add (.t 12) (.t 18)), none⟩ (.take ⟨(some 2), (.mov (.t 19)), none⟩ .done)))))) ⟨(some 17), (.bsl 1 1 [(.int .u8 0)] [(0, (.t 16))]), none⟩ (.two ⟨(some 10), (.mov (.t 0)), none⟩ (.two ⟨(some 11), (.bin .quo (.t 10) (.c (.int .i64 10))), none⟩ (.two ⟨(some 12), (.call 35 [(.t 11)]), none⟩ (.take ⟨(some 18), (.bts (.t 17)), none⟩ (.take ⟨(some 19), (.bin .add (.t 12) (.t 18)), none⟩ (.take ⟨(some 2), (.mov (.t 19)), none⟩ .done))) ⟨(some 18), (.bts (.t 17)), none⟩ (.take ⟨(some 12), (.call 35 [(.t 11)]), none⟩ (.take ⟨(some 19), (.bin .add (.t 12) (.t 18)), none⟩ (.take ⟨(some 2), (.mov (.t 19)), none⟩ .done)))) ⟨(some 18), (.bts (.t 17)), none⟩ (.take ⟨(some 11), (.bin .quo (.t 10) (.c (.int .i64 10))), none⟩ (.take ⟨(some 12), (.call 35 [(.t 11)]), none⟩ (.take ⟨(some 19), (.bin .add (.t 12) (.t 18)), none⟩ (.take ⟨(some 2), (.mov (.t 19)), none⟩ .done))))) ⟨(some 18), (.bts (.t 17)), none⟩ (.take ⟨(some 10), (.mov (.t 0)), none⟩ (.take ⟨(some 11), (.bin .quo (.t 10) (.c (.int .i64 10))), none⟩ (.take ⟨(some 12), (.call 35 [(.t 11)]), none⟩ (.take ⟨(some 19), (.bin .add (.t 12) (.t 18)), none⟩ (.take ⟨(some 2), (.mov (.t 19)), none⟩ .done)))))))))))) .ret)))
theorem cc35 : ccode Tryd.prog (min Tryd.f35.ntmps pbase) (Tryd.f35.body.getD .skip) = some ac35 := by kernel_rfl
def ac36 : ACode := (.seq (.ops [⟨(some 1), (.box 3 (.t 0)), none⟩, ⟨(some 2), (.alloc [(.int .i64 0), (.int .i64 0), (.int .i64 0)]), none⟩]) (.seq (.ops [⟨(some 3), (.alloc [(.int .i64 0), (.int .i64 0), (.int .i64 0)]), none⟩]) (.seq (.ops [⟨(some 4), (.fa 0 (.t 1)), none⟩, ⟨(some 5), (.ld none (.t 4)), none⟩, ⟨(some 6), (.fa 0 (.t 3)), none⟩, ⟨none, (.st 1 (.t 6) (.t 5)), none⟩]) (.seq (.ops [⟨(some 7), (.fa 1 (.t 1)), none⟩, ⟨(some 8), (.ld none (.t 7)), none⟩, ⟨(some 9), (.fa 1 (.t 3)), none⟩, ⟨none, (.st 1 (.t 9) (.t 8)), none⟩]) (.seq (.ops [⟨(some 10), (.fa 2 (.t 1)), none⟩, ⟨(some 11), (.ld none (.t 10)), none⟩, ⟨(some 12), (.fa 2 (.t 3)), none⟩, ⟨none, (.st 1 (.t 12) (.t 11)), none⟩]) (.seq (.ops [⟨(some 13), (.ld (some 3) (.t 3)), none⟩, ⟨none, (.st 3 (.t 2) (.t 13)), none⟩]) .ret))))))
theorem cc36 : ccode Tryd.prog (min Tryd.f36.ntmps pbase) (Tryd.f36.body.getD .skip) = some ac36 := by kernel_rfl
def ac37 : ACode := (.seq (.ops [⟨(some 1), (.box 2 (.t 0)), none⟩, ⟨(some 2), (.alloc [(.slice none 0 0)]), none⟩, ⟨(some 3), (.alloc [(.bool false)]), none⟩]) (.seq (.seq (.ops [⟨(some 6), (.fa 0 (.t 1)), none⟩, ⟨(some 7), (.ld none (.t 6)), none⟩, ⟨(some 8), (.bin .lss (.t 7) (.c (.int .i64 1))), none⟩, ⟨(some 9), (.mov (.t 8)), none⟩, ⟨(some 10), (.fa 0 (.t 1)), (some (9, false))⟩, ⟨(some 11), (.ld none (.t 10)), (some (9, false))⟩, ⟨(some 12), (.bin .gtr (.t 11) (.c (.int .i64 5))), (some (9, false))⟩, ⟨(some 13), (.pick (.t 9) (.c (.bool true)) (.t 12)), none⟩, ⟨(some 14), (.mov (.t 13)), none⟩, ⟨(some 15), (.fa 1 (.t 1)), (some (14, false))⟩, ⟨(some 16), (.ld none (.t 15)), (some (14, false))⟩, ⟨(some 17), (.len (.t 16)), (some (14, false))⟩, ⟨(some 18), (.bin .gtr (.t 17) (.c (.int .i64 6))), (some (14, false))⟩, ⟨(some 19), (.pick (.t 14) (.c (.bool true)) (.t 18)), none⟩]) (.cond (.t 19) (.seq (.ops [⟨none, (.st 1 (.t 2) (.c (.slice none 0 0))), none⟩, ⟨none, (.st 1 (.t 3) (.c (.bool false))), none⟩]) .ret) .skip)) (.seq (.ops [⟨(some 20), (.mkf 52 0 [(.t 2), (.t 3)]), none⟩, ⟨none, .dead, none⟩]) (.seq (.ops [⟨(some 4), (.mov (.c (.func (.func 53) #[] #[]))), none⟩]) (.seq (.ops [⟨(some 21), (.mkf 55 0 [(.t 1)]), none⟩, ⟨(some 5), (.mov (.t 21)), none⟩]) (.seq (.ops [⟨(some 22), (.fa 0 (.t 1)), none⟩, ⟨(some 23), (.ld none (.t 22)), none⟩, ⟨(some 24), (.mov (.t 4)), none⟩, ⟨(some 25), (.mov (.t 5)), none⟩, ⟨(some 26), (.call 57 [(.t 23), (.t 24), (.t 25)]), none⟩, ⟨none, (.st 1 (.t 2) (.t 26)), none⟩, ⟨none, (.st 1 (.t 3) (.c (.bool true))), none⟩]) .ret))))))
def ac42 : ACode := (.seq (.ops [⟨(some 2), (.box 3 (.t 0)), none⟩, ⟨(some 3), (.box 3 (.t 1)), none⟩, ⟨(some 4), (.mov (.c (.bool false))), none⟩]) (.seq (.seq (.ops [⟨(some 5), (.fa 0 (.t 2)), none⟩, ⟨(some 6), (.ld none (.t 5)), none⟩, ⟨(some 7), (.fa 0 (.t 3)), none⟩, ⟨(some 8), (.ld none (.t 7)), none⟩, ⟨(some 9), (.bin .neq (.t 6) (.t 8)), none⟩]) (.cond (.t 9) (.seq (.ops [⟨(some 4), (.mov (.c (.bool false))), none⟩]) .ret) .skip)) (.seq (.seq (.ops [⟨(some 10), (.fa 1 (.t 2)), none⟩, ⟨(some 11), (.ld none (.t 10)), none⟩, ⟨(some 12), (.fa 1 (.t 3)), none⟩, ⟨(some 13), (.ld none (.t 12)), none⟩, ⟨(some 14), (.bin .neq (.t 11) (.t 13)), none⟩]) (.cond (.t 14) (.seq (.ops [⟨(some 4), (.mov (.c (.bool false))), none⟩]) .ret) .skip)) (.seq (.seq (.ops [⟨(some 15), (.fa 2 (.t 2)), none⟩, ⟨(some 16), (.ld none (.t 15)), none⟩, ⟨(some 17), (.fa 2 (.t 3)), none⟩, ⟨(some 18), (.ld none (.t 17)), none⟩, ⟨(some 19), (.bin .neq (.t 16) (.t 18)), none⟩]) (.cond (.t 19) (.seq (.ops [⟨(some 4), (.mov (.c (.bool false))), none⟩]) .ret) .skip)) (.seq (.ops [⟨(some 4), (.mov (.c (.bool true))), none⟩]) .ret)))))
theorem cc42 : ccode Tryd.prog (min Tryd.f42.ntmps pbase) (Tryd.f42.body.getD .skip) = some ac42 := by kernel_rfl
def ac43 : ACode := (.seq (.ops [⟨(some 6), (.mov (.c (.bool false))), none⟩]) (.seq (.ops [⟨(some 7), (.mov (.t 0)), none⟩, ⟨(some 8), (.mov (.t 1)), none⟩, ⟨(some 9), (.bin .geq (.t 7) (.t 8)), none⟩, ⟨(some 10), (.mov (.t 9)), none⟩, ⟨(some 11), (.mov (.t 0)), (some (10, true))⟩, ⟨(some 12), (.mov (.t 2)), (some (10, true))⟩, ⟨(some 13), (.bin .leq (.t 11) (.t 12)), (some (10, true))⟩, ⟨(some 14), (.pick (.t 10) (.t 13) (.c (.bool false))), none⟩, ⟨(some 6), (.mov (.t 14)), none⟩]) .ret))
theorem cc43 : ccode Tryd.prog (min Tryd.f43.ntmps pbase) (Tryd.f43.body.getD .skip) = some ac43 := by kernel_rfl
def ac53 : ACode := (.seq (.ops [⟨(some 4), (.mov (.c (.bool false))), none⟩]) (.seq (.ops [⟨(some 5), (.mov (.t 0)), none⟩, ⟨(some 6), (.mov (.t 1)), none⟩, ⟨(some 7), (.call 54 [(.t 5), (.t 6)]), none⟩, ⟨(some 8), (.not (.t 7)), none⟩, ⟨(some 4), (.mov (.t 8)), none⟩]) .ret))
theorem cc53 : ccode Tryd.prog (min Tryd.f53.ntmps pbase) (Tryd.f53.body.getD .skip) = some ac53 := by kernel_rfl
def ac54 : ACode := (.seq (.ops [⟨(some 4), (.mov (.c (.bool false))), none⟩]) (.seq (.ops [⟨(some 5), (.mov (.t 0)), none⟩, ⟨(some 6), (.mov (.t 1)), none⟩, ⟨(some 7), (.call 67 [(.t 5), (.t 6)]), none⟩, ⟨(some 8), (.bin .geq (.t 7) (.c (.int .i64 0))), none⟩, ⟨(some 4), (.mov (.t 8)), none⟩]) .ret))
theorem cc54 : ccode Tryd.prog (min Tryd.f54.ntmps pbase) (Tryd.f54.body.getD .skip) = some ac54 := by kernel_rfl
def ac55 : ACode := (.seq (.ops [⟨(some 3), (.mov (.c (.bool false))), none⟩]) (.seq (.ops [⟨(some 4), (.fa 1 (.t 1)), none⟩, ⟨(some 5), (.ld none (.t 4)), none⟩, ⟨(some 6), (.mov (.t 0)), none⟩, ⟨(some 7), (.call 56 [(.t 5), (.t 6)]), none⟩, ⟨(some 3), (.mov (.t 7)), none⟩]) .ret))
theorem cc55 : ccode Tryd.prog (min Tryd.f55.ntmps pbase) (Tryd.f55.body.getD .skip) = some ac55 := by kernel_rfl
def ac56 : ACode := (.seq (.ops [⟨(some 4), (.mov (.c (.bool false))), none⟩]) (.seq (.ops [⟨(some 5), (.mov (.c (.bool true))), none⟩]) (.seq (.seq (.ops [⟨(some 8), (.mov (.t 0)), none⟩, ⟨(some 9), (.len (.t 8)), none⟩, ⟨(some 10), (.mov (.c (.int .i64 0))), none⟩]) (.block 0 (.loop (.seq (.ops [⟨(some 11), (.bin .lss (.t 10) (.t 9)), none⟩]) (.seq (.cond (.t 11) .skip (.exit 0)) (.seq (.block 1 (.seq (.ops [⟨(some 12), (.idx 3 (.t 8) (.t 10)), none⟩, ⟨(some 13), (.ld (some 3) (.t 12)), none⟩, ⟨(some 7), (.alloc [(.int .i64 0), (.int .i64 0), (.int .i64 0)]), none⟩, ⟨none, (.st 3 (.t 7) (.t 13)), none⟩]) (.ops [⟨(some 14), (.ld (some 3) (.t 7)), none⟩, ⟨(some 15), (.mov (.t 1)), none⟩, ⟨(some 16), (.call 68 [(.t 14), (.t 15)]), none⟩, ⟨(some 17), (.mov (.t 16)), none⟩, ⟨(some 18), (.mov (.t 5)), (some (17, true))⟩, ⟨(some 19), (.pick (.t 17) (.t 18) (.c (.bool false))), none⟩, ⟨(some 5), (.mov (.t 19)), none⟩]))) (.ops [⟨(some 20), (.bin .add (.t 10) (.c (.int .i64 1))), none⟩, ⟨(some 10), (.mov (.t 20)), none⟩]))))))) (.seq (.ops [⟨(some 21), (.mov (.t 5)), none⟩, ⟨(some 4), (.mov (.t 21)), none⟩]) .ret))))
theorem cc56 : ccode Tryd.prog (min Tryd.f56.ntmps pbase) (Tryd.f56.body.getD .skip) = some ac56 := by kernel_rfl
def ac57 : ACode := (.seq (.ops [⟨(some 6), (.nils 1), none⟩]) (.seq (.ops [⟨(some 7), (.nils 1), none⟩]) (.seq (.seq (.ops [⟨(some 11), (.mov (.t 0)), none⟩, ⟨(some 12), (.mov (.t 1)), none⟩, ⟨(some 13), (.call 69 [(.t 11), (.t 12)]), none⟩, ⟨(some 10), (.mov (.t 13)), none⟩, ⟨(some 14), (.ext (.t 10) 0), none⟩, ⟨(some 15), (.ext (.t 10) 1), none⟩, ⟨(some 8), (.mov (.t 14)), none⟩, ⟨(some 9), (.mov (.t 15)), none⟩]) (.block 0 (.loop (.seq (.seq (.ops [⟨(some 16), (.mov (.t 9)), none⟩]) (.cond (.t 16) .skip (.exit 0))) (.seq (.block 1 (.seq (.ops [⟨(some 23), (.mov (.t 2)), none⟩, ⟨(some 24), (.mov (.t 8)), none⟩, ⟨(some 25), (.callv (.t 23) [(.t 24)]), none⟩]) (.cond (.t 25) (.ops [⟨(some 26), (.mov (.t 7)), none⟩, ⟨(some 27), (.mov (.t 8)), none⟩, ⟨(some 28), (.bsl 1 1 [(.slice none 0 0)] [(0, (.t 27))]), none⟩, ⟨(some 29), (.app 1 24 (.t 26) (.t 28)), none⟩, ⟨(some 7), (.mov (.t 29)), none⟩]) .skip))) (.ops [⟨(some 18), (.mov (.t 8)), none⟩, ⟨(some 19), (.mov (.t 1)), none⟩, ⟨(some 20), (.call 70 [(.t 18), (.t 19)]), none⟩, ⟨(some 17), (.mov (.t 20)), none⟩, ⟨(some 21), (.ext (.t 17) 0), none⟩, ⟨(some 22), (.ext (.t 17) 1), none⟩, ⟨(some 8), (.mov (.t 21)), none⟩, ⟨(some 9), (.mov (.t 22)), none⟩])))))) (.seq (.ops [⟨(some 30), (.mov (.t 7)), none⟩, ⟨(some 6), (.mov (.t 30)), none⟩]) .ret))))
theorem cc57 : ccode Tryd.prog (min Tryd.f57.ntmps pbase) (Tryd.f57.body.getD .skip) = some ac57 := by kernel_rfl
def ac61 : ACode := (.seq (.ops [⟨(some 4), (.mov (.c (.bool false))), none⟩]) (.seq (.ops [⟨(some 5), (.mov (.t 0)), none⟩, ⟨(some 6), (.bin .geq (.t 5) (.c (.int .i64 0))), none⟩, ⟨(some 7), (.mov (.t 6)), none⟩, ⟨(some 8), (.mov (.t 0)), (some (7, true))⟩, ⟨(some 9), (.mov (.t 1)), (some (7, true))⟩, ⟨(some 10), (.bin .lss (.t 8) (.t 9)), (some (7, true))⟩, ⟨(some 11), (.pick (.t 7) (.t 10) (.c (.bool false))), none⟩, ⟨(some 4), (.mov (.t 11)), none⟩]) .ret))
theorem cc61 : ccode Tryd.prog (min Tryd.f61.ntmps pbase) (Tryd.f61.body.getD .skip) = some ac61 := by kernel_rfl
def ac67 : ACode := (.seq (.ops [⟨(some 4), (.mov (.c (.int .i64 0))), none⟩]) (.seq (.seq (.ops [⟨(some 6), (.mov (.t 0)), none⟩, ⟨(some 7), (.len (.t 6)), none⟩, ⟨(some 8), (.mov (.c (.int .i64 0))), none⟩]) (.block 0 (.loop (.seq (.ops [⟨(some 9), (.bin .lss (.t 8) (.t 7)), none⟩]) (.seq (.cond (.t 9) .skip (.exit 0)) (.seq (.block 1 (.seq (.ops [⟨(some 10), (.mov (.t 8)), none⟩, ⟨(some 5), (.mov (.t 10)), none⟩]) (.seq (.ops [⟨(some 11), (.mov (.t 1)), none⟩, ⟨(some 12), (.mov (.t 0)), none⟩, ⟨(some 13), (.mov (.t 5)), none⟩, ⟨(some 14), (.idx 1 (.t 12) (.t 13)), none⟩, ⟨(some 15), (.ld none (.t 14)), none⟩, ⟨(some 16), (.bin .eql (.t 11) (.t 15)), none⟩]) (.cond (.t 16) (.seq (.ops [⟨(some 17), (.mov (.t 5)), none⟩, ⟨(some 4), (.mov (.t 17)), none⟩]) .ret) .skip)))) (.ops [⟨(some 18), (.bin .add (.t 8) (.c (.int .i64 1))), none⟩, ⟨(some 8), (.mov (.t 18)), none⟩]))))))) (.seq (.ops [⟨(some 4), (.mov (.c (.int .i64 (-1)))), none⟩]) .ret)))
theorem cc67 : ccode Tryd.prog (min Tryd.f67.ntmps pbase) (Tryd.f67.body.getD .skip) = some ac67 := by kernel_rfl
def ac68 : ACode := (.seq (.ops [⟨(some 2), (.box 3 (.t 0)), none⟩, ⟨(some 4), (.mov (.c (.bool false))), none⟩]) (.seq (.seq (.ops [⟨(some 6), (.ld (some 3) (.t 2)), none⟩, ⟨(some 7), (.mov (.t 1)), none⟩, ⟨(some 8), (.len (.t 7)), none⟩, ⟨(some 9), (.call 85 [(.t 6), (.t 8)]), none⟩, ⟨(some 10), (.not (.t 9)), none⟩]) (.cond (.t 10) (.ops [⟨(some 11), (.ld (some 3) (.t 2)), none⟩, ⟨(some 12), .dead, none⟩, ⟨none, .dead, none⟩]) .skip)) (.seq (.ops [⟨(some 13), (.mov (.t 1)), none⟩, ⟨(some 14), (.fa 0 (.t 2)), none⟩, ⟨(some 15), (.ld none (.t 14)), none⟩, ⟨(some 16), (.fa 1 (.t 2)), none⟩, ⟨(some 17), (.ld none (.t 16)), none⟩, ⟨(some 18), (.call 86 [(.t 13), (.t 15), (.t 17)]), none⟩, ⟨(some 5), (.mov (.t 18)), none⟩]) (.seq (.ops [⟨(some 19), (.fa 0 (.t 2)), none⟩, ⟨(some 20), (.ld none (.t 19)), none⟩]) (.block 0 (.seq (.seq (.ops [⟨(some 26), (.bin .eql (.t 20) (.c (.int .i64 0))), none⟩, ⟨(some 25), (.mov (.t 26)), none⟩]) (.cond (.t 25) .skip (.ops [⟨(some 27), (.bin .eql (.t 20) (.c (.int .i64 4))), none⟩, ⟨(some 25), (.mov (.t 27)), none⟩]))) (.cond (.t 25) (.seq (.ops [⟨(some 28), (.fa 2 (.t 2)), none⟩, ⟨(some 29), (.ld none (.t 28)), none⟩, ⟨(some 30), (.mov (.t 5)), none⟩, ⟨(some 31), (.bin .eql (.t 29) (.t 30)), none⟩, ⟨(some 4), (.mov (.t 31)), none⟩]) .ret) (.seq (.ops [⟨(some 33), (.bin .eql (.t 20) (.c (.int .i64 1))), none⟩, ⟨(some 32), (.mov (.t 33)), none⟩]) (.cond (.t 32) (.seq (.ops [⟨(some 34), (.fa 2 (.t 2)), none⟩, ⟨(some 35), (.ld none (.t 34)), none⟩, ⟨(some 36), (.mov (.t 5)), none⟩, ⟨(some 37), (.bin .neq (.t 35) (.t 36)), none⟩, ⟨(some 4), (.mov (.t 37)), none⟩]) .ret) (.seq (.ops [⟨(some 21), (.fa 1 (.t 2)), none⟩, ⟨(some 22), (.ld none (.t 21)), none⟩, ⟨(some 23), (.mov (.t 5)), none⟩, ⟨(some 24), (.bin .eql (.t 22) (.t 23)), none⟩, ⟨(some 4), (.mov (.t 24)), none⟩]) .ret))))))))))
theorem cc68 : ccode Tryd.prog (min Tryd.f68.ntmps pbase) (Tryd.f68.body.getD .skip) = some ac68 := by kernel_rfl
def ac69 : ACode := (.seq (.ops [⟨(some 4), (.nils 1), none⟩, ⟨(some 5), (.mov (.c (.bool false))), none⟩]) (.seq (.ops [⟨(some 6), (.mov (.t 0)), none⟩, ⟨(some 7), (.mov (.t 1)), none⟩, ⟨(some 8), (.call 87 [(.t 6), (.c (.slice none 0 0)), (.c (.int .i64 0)), (.t 7)]), none⟩, ⟨(some 9), (.ext (.t 8) 0), none⟩, ⟨(some 10), (.ext (.t 8) 1), none⟩, ⟨(some 4), (.mov (.t 9)), none⟩, ⟨(some 5), (.mov (.t 10)), none⟩]) .ret))
theorem cc69 : ccode Tryd.prog (min Tryd.f69.ntmps pbase) (Tryd.f69.body.getD .skip) = some ac69 := by kernel_rfl
def ac70 : ACode := (.seq (.ops [⟨(some 4), (.nils 1), none⟩, ⟨(some 5), (.mov (.c (.bool false))), none⟩]) (.seq (.ops [⟨(some 6), (.mov (.c (.int .i64 0))), none⟩]) (.seq (.block 0 (.loop (.seq (.seq (.tree (.take ⟨(some 7), (.mov (.t 6)), none⟩ (.take ⟨(some 8), (.mov (.t 0)), none⟩ (.take ⟨(some 9), (.len (.t 8)), none⟩ (.take ⟨(some 10), (.bin .sub (.t 9) (.c (.int .i64 1))), none⟩ (.take ⟨(some 11), (.bin .lss (.t 7) (.t 10)), none⟩ (.take ⟨(some 12), (.mov (.t 11)), none⟩ (.take ⟨(some 13), (.mov (.t 1)), (some (12, true))⟩ (.take ⟨(some 14), (.mov (.t 0)), (some (12, true))⟩ (.take ⟨(some 15), (.mov (.t 6)), (some (12, true))⟩ (.take ⟨(some 16), (.cut 1 (.t 14) none (some (.t 15))), (some (12, true))⟩ (.take ⟨(some 17), (.mov (.t 0)), (some (12, true))⟩ (.take ⟨(some 18), (.mov (.t 6)), (some (12, true))⟩ (.take ⟨(some 19), (.idx 1 (.t 17) (.t 18)), (some (12, true))⟩ (.take ⟨(some 20), (.ld none (.t 19)), (some (12, true))⟩ (.take ⟨(some 21), (.callv (.t 13) [(.t 16), (.t 20)]), (some (12, true))⟩ (.take ⟨(some 22), (.pick (.t 12) (.t 21) (.c (.bool false))), none⟩ .done))))))))))))))))) (.cond (.t 22) .skip (.exit 0))) (.block 1 (.ops [⟨(some 23), (.mov (.t 6)), none⟩, ⟨(some 24), (.bin .add (.t 23) (.c (.int .i64 1))), none⟩, ⟨(some 6), (.mov (.t 24)), none⟩]))))) (.seq (.tree (.take ⟨(some 25), (.mov (.t 0)), none⟩ (.take ⟨(some 26), (.len (.t 25)), none⟩ (.take ⟨(some 27), (.mov (.t 0)), none⟩ (.take ⟨(some 28), (.mov (.t 6)), none⟩ (.take ⟨(some 29), (.cut 1 (.t 27) none (some (.t 28))), none⟩ (.take ⟨(some 30), (.mov (.t 0)), none⟩ (.take ⟨(some 31), (.mov (.t 6)), none⟩ (.take ⟨(some 32), (.idx 1 (.t 30) (.t 31)), none⟩ (.take ⟨(some 33), (.ld none (.t 32)), none⟩ (.take ⟨(some 34), (.bin .add (.t 33) (.c (.int .i64 1))), none⟩ (.take ⟨(some 35), (.mov (.t 1)), none⟩ (.take ⟨(some 36), (.call 87 [(.t 26), (.t 29), (.t 34), (.t 35)]), none⟩ (.take ⟨(some 37), (.ext (.t 36) 0), none⟩ (.take ⟨(some 38), (.ext (.t 36) 1), none⟩ (.take ⟨(some 4), (.mov (.t 37)), none⟩ (.take ⟨(some 5), (.mov (.t 38)), none⟩ .done))))))))))))))))) .ret))))
theorem cc70 : ccode Tryd.prog (min Tryd.f70.ntmps pbase) (Tryd.f70.body.getD .skip) = some ac70 := by kernel_rfl
def ac85 : ACode := (.seq (.ops [⟨(some 2), (.box 3 (.t 0)), none⟩, ⟨(some 4), (.mov (.c (.bool false))), none⟩]) (.seq (.ops [⟨(some 5), (.fa 0 (.t 2)), none⟩, ⟨(some 6), (.ld none (.t 5)), none⟩]) (.block 0 (.seq (.seq (.ops [⟨(some 8), (.bin .eql (.t 6) (.c (.int .i64 0))), none⟩, ⟨(some 7), (.mov (.t 8)), none⟩]) (.cond (.t 7) .skip (.ops [⟨(some 9), (.bin .eql (.t 6) (.c (.int .i64 1))), none⟩, ⟨(some 7), (.mov (.t 9)), none⟩]))) (.cond (.t 7) (.seq (.ops [⟨(some 10), (.fa 1 (.t 2)), none⟩, ⟨(some 11), (.ld none (.t 10)), none⟩, ⟨(some 12), (.mov (.t 1)), none⟩, ⟨(some 13), (.call 61 [(.t 11), (.t 12)]), none⟩, ⟨(some 14), (.mov (.t 13)), none⟩, ⟨(some 15), (.fa 2 (.t 2)), (some (14, true))⟩, ⟨(some 16), (.ld none (.t 15)), (some (14, true))⟩, ⟨(some 17), (.mov (.t 1)), (some (14, true))⟩, ⟨(some 18), (.call 61 [(.t 16), (.t 17)]), (some (14, true))⟩, ⟨(some 19), (.pick (.t 14) (.t 18) (.c (.bool false))), none⟩, ⟨(some 4), (.mov (.t 19)), none⟩]) .ret) (.seq (.ops [⟨(some 21), (.bin .eql (.t 6) (.c (.int .i64 2))), none⟩, ⟨(some 20), (.mov (.t 21)), none⟩]) (.cond (.t 20) (.seq (.ops [⟨(some 22), (.fa 1 (.t 2)), none⟩, ⟨(some 23), (.ld none (.t 22)), none⟩, ⟨(some 24), (.bin .geq (.t 23) (.c (.int .i64 0))), none⟩, ⟨(some 25), (.mov (.t 24)), none⟩, ⟨(some 26), (.fa 1 (.t 2)), (some (25, true))⟩, ⟨(some 27), (.ld none (.t 26)), (some (25, true))⟩, ⟨(some 28), (.mov (.t 1)), (some (25, true))⟩, ⟨(some 29), (.bin .leq (.t 27) (.t 28)), (some (25, true))⟩, ⟨(some 30), (.pick (.t 25) (.t 29) (.c (.bool false))), none⟩, ⟨(some 31), (.mov (.t 30)), none⟩, ⟨(some 32), (.fa 2 (.t 2)), (some (31, true))⟩, ⟨(some 33), (.ld none (.t 32)), (some (31, true))⟩, ⟨(some 34), (.bin .eql (.t 33) (.c (.int .i64 0))), (some (31, true))⟩, ⟨(some 35), (.pick (.t 31) (.t 34) (.c (.bool false))), none⟩, ⟨(some 4), (.mov (.t 35)), none⟩]) .ret) (.seq (.ops [⟨(some 37), (.bin .eql (.t 6) (.c (.int .i64 3))), none⟩, ⟨(some 36), (.mov (.t 37)), none⟩]) (.cond (.t 36) (.seq (.ops [⟨(some 38), (.fa 1 (.t 2)), none⟩, ⟨(some 39), (.ld none (.t 38)), none⟩, ⟨(some 40), (.bin .geq (.t 39) (.c (.int .i64 1))), none⟩, ⟨(some 41), (.mov (.t 40)), none⟩, ⟨(some 42), (.fa 1 (.t 2)), (some (41, true))⟩, ⟨(some 43), (.ld none (.t 42)), (some (41, true))⟩, ⟨(some 44), (.mov (.t 1)), (some (41, true))⟩, ⟨(some 45), (.bin .leq (.t 43) (.t 44)), (some (41, true))⟩, ⟨(some 46), (.pick (.t 41) (.t 45) (.c (.bool false))), none⟩, ⟨(some 47), (.mov (.t 46)), none⟩, ⟨(some 48), (.fa 2 (.t 2)), (some (47, true))⟩, ⟨(some 49), (.ld none (.t 48)), (some (47, true))⟩, ⟨(some 50), (.bin .eql (.t 49) (.c (.int .i64 0))), (some (47, true))⟩, ⟨(some 51), (.pick (.t 47) (.t 50) (.c (.bool false))), none⟩, ⟨(some 4), (.mov (.t 51)), none⟩]) .ret) (.seq (.ops [⟨(some 53), (.bin .eql (.t 6) (.c (.int .i64 4))), none⟩, ⟨(some 52), (.mov (.t 53)), none⟩]) (.cond (.t 52) (.seq (.ops [⟨(some 54), (.fa 1 (.t 2)), none⟩, ⟨(some 55), (.ld none (.t 54)), none⟩, ⟨(some 56), (.mov (.t 1)), none⟩, ⟨(some 57), (.call 61 [(.t 55), (.t 56)]), none⟩, ⟨(some 58), (.mov (.t 57)), none⟩, ⟨(some 59), (.fa 2 (.t 2)), (some (58, true))⟩, ⟨(some 60), (.ld none (.t 59)), (some (58, true))⟩, ⟨(some 61), (.bin .eql (.t 60) (.c (.int .i64 0))), (some (58, true))⟩, ⟨(some 62), (.mov (.t 61)), (some (58, true))⟩, ⟨(some 63), (.fa 2 (.t 2)), (some (62, false))⟩, ⟨(some 64), (.ld none (.t 63)), (some (62, false))⟩, ⟨(some 65), (.bin .eql (.t 64) (.c (.int .i64 1))), (some (62, false))⟩, ⟨(some 66), (.pick (.t 62) (.c (.bool true)) (.t 65)), (some (58, true))⟩, ⟨(some 67), (.pick (.t 58) (.t 66) (.c (.bool false))), none⟩, ⟨(some 4), (.mov (.t 67)), none⟩]) .ret) (.seq (.ops [⟨(some 69), (.bin .eql (.t 6) (.c (.int .i64 5))), none⟩, ⟨(some 68), (.mov (.t 69)), none⟩]) (.cond (.t 68) (.seq (.ops [⟨(some 70), (.fa 1 (.t 2)), none⟩, ⟨(some 71), (.ld none (.t 70)), none⟩, ⟨(some 72), (.bin .geq (.t 71) (.c (.int .i64 1))), none⟩, ⟨(some 73), (.mov (.t 72)), none⟩, ⟨(some 74), (.fa 1 (.t 2)), (some (73, true))⟩, ⟨(some 75), (.ld none (.t 74)), (some (73, true))⟩, ⟨(some 76), (.bin .leq (.t 75) (.c (.int .i64 6))), (some (73, true))⟩, ⟨(some 77), (.pick (.t 73) (.t 76) (.c (.bool false))), none⟩, ⟨(some 78), (.mov (.t 77)), none⟩, ⟨(some 79), (.fa 2 (.t 2)), (some (78, true))⟩, ⟨(some 80), (.ld none (.t 79)), (some (78, true))⟩, ⟨(some 81), (.bin .eql (.t 80) (.c (.int .i64 0))), (some (78, true))⟩, ⟨(some 82), (.pick (.t 78) (.t 81) (.c (.bool false))), none⟩, ⟨(some 4), (.mov (.t 82)), none⟩]) .ret) (.seq (.ops [⟨(some 4), (.mov (.c (.bool false))), none⟩]) .ret))))))))))))))
theorem cc85 : ccode Tryd.prog (min Tryd.f85.ntmps pbase) (Tryd.f85.body.getD .skip) = some ac85 := by kernel_rfl
def ac86 : ACode := (.seq (.ops [⟨(some 6), (.mov (.c (.int .i64 0))), none⟩]) (.seq (.ops [⟨(some 7), (.mov (.t 1)), none⟩]) (.block 0 (.seq (.seq (.ops [⟨(some 12), (.bin .eql (.t 7) (.c (.int .i64 0))), none⟩, ⟨(some 11), (.mov (.t 12)), none⟩]) (.cond (.t 11) .skip (.ops [⟨(some 13), (.bin .eql (.t 7) (.c (.int .i64 1))), none⟩, ⟨(some 11), (.mov (.t 13)), none⟩]))) (.cond (.t 11) (.seq (.ops [⟨(some 14), (.mov (.t 0)), none⟩, ⟨(some 15), (.mov (.t 2)), none⟩, ⟨(some 16), (.idx 1 (.t 14) (.t 15)), none⟩, ⟨(some 17), (.ld none (.t 16)), none⟩, ⟨(some 6), (.mov (.t 17)), none⟩]) .ret) (.seq (.ops [⟨(some 19), (.bin .eql (.t 7) (.c (.int .i64 2))), none⟩, ⟨(some 18), (.mov (.t 19)), none⟩]) (.cond (.t 18) (.seq (.ops [⟨(some 20), (.mov (.t 0)), none⟩, ⟨(some 21), (.len (.t 20)), none⟩, ⟨(some 22), (.mov (.t 0)), none⟩, ⟨(some 23), (.call 100 [(.t 22)]), none⟩, ⟨(some 24), (.len (.t 23)), none⟩, ⟨(some 25), (.bin .sub (.t 21) (.t 24)), none⟩, ⟨(some 6), (.mov (.t 25)), none⟩]) .ret) (.seq (.ops [⟨(some 27), (.bin .eql (.t 7) (.c (.int .i64 3))), none⟩, ⟨(some 26), (.mov (.t 27)), none⟩]) (.cond (.t 26) (.seq (.ops [⟨(some 28), (.mov (.t 0)), none⟩, ⟨(some 29), (.call 101 [(.t 28)]), none⟩, ⟨(some 30), (.len (.t 29)), none⟩, ⟨(some 6), (.mov (.t 30)), none⟩]) .ret) (.seq (.ops [⟨(some 32), (.bin .eql (.t 7) (.c (.int .i64 4))), none⟩, ⟨(some 31), (.mov (.t 32)), none⟩]) (.cond (.t 31) (.seq (.seq (.ops [⟨(some 33), (.mov (.t 0)), none⟩, ⟨(some 34), (.mov (.t 2)), none⟩, ⟨(some 35), (.idx 1 (.t 33) (.t 34)), none⟩, ⟨(some 36), (.ld none (.t 35)), none⟩, ⟨(some 37), (.mov (.t 2)), none⟩, ⟨(some 38), (.bin .gtr (.t 36) (.t 37)), none⟩]) (.cond (.t 38) (.seq (.ops [⟨(some 6), (.mov (.c (.int .i64 1))), none⟩]) .ret) .skip)) (.seq (.ops [⟨(some 6), (.mov (.c (.int .i64 0))), none⟩]) .ret)) (.seq (.ops [⟨(some 8), (.mov (.t 0)), none⟩, ⟨(some 9), (.call 103 [(.t 8), (.c (.func (.func 104) #[] #[]))]), none⟩, ⟨(some 10), (.call 102 [(.t 9)]), none⟩, ⟨(some 6), (.mov (.t 10)), none⟩]) .ret))))))))))))
theorem cc86 : ccode Tryd.prog (min Tryd.f86.ntmps pbase) (Tryd.f86.body.getD .skip) = some ac86 := by kernel_rfl
def ac87 : ACode := (.seq (.ops [⟨(some 8), (.nils 1), none⟩, ⟨(some 9), (.mov (.c (.bool false))), none⟩]) (.scope (.seq (.ops [⟨(some 13), (.mov (.t 1)), none⟩, ⟨(some 14), (.call 105 [(.t 13)]), none⟩, ⟨(some 10), (.mov (.t 14)), none⟩]) (.seq (.ops [⟨(some 15), (.mov (.t 2)), none⟩, ⟨(some 11), (.mov (.t 15)), none⟩]) (.seq (.label 0) (.seq (.block 0 (.loop (.block 1 (.block 2 (.seq (.ops [⟨(some 28), (.mov (.t 10)), none⟩, ⟨(some 29), (.len (.t 28)), none⟩, ⟨(some 30), (.mov (.t 0)), none⟩, ⟨(some 31), (.bin .eql (.t 29) (.t 30)), none⟩, ⟨(some 27), (.mov (.t 31)), none⟩]) (.cond (.t 27) (.exit 0) (.seq (.ops [⟨(some 33), (.mov (.t 11)), none⟩, ⟨(some 34), (.mov (.t 0)), none⟩, ⟨(some 35), (.bin .lss (.t 33) (.t 34)), none⟩, ⟨(some 36), (.mov (.t 35)), none⟩, ⟨(some 37), (.mov (.t 3)), (some (36, true))⟩, ⟨(some 38), (.mov (.t 10)), (some (36, true))⟩, ⟨(some 39), (.mov (.t 11)), (some (36, true))⟩, ⟨(some 40), (.callv (.t 37) [(.t 38), (.t 39)]), (some (36, true))⟩, ⟨(some 41), (.pick (.t 36) (.t 40) (.c (.bool false))), none⟩, ⟨(some 32), (.mov (.t 41)), none⟩]) (.cond (.t 32) (.seq (.ops [⟨(some 42), (.mov (.t 10)), none⟩, ⟨(some 43), (.mov (.t 11)), none⟩, ⟨(some 44), (.bsl 1 1 [(.int .i64 0)] [(0, (.t 43))]), none⟩, ⟨(some 45), (.app 1 8 (.t 42) (.t 44)), none⟩, ⟨(some 10), (.mov (.t 45)), none⟩]) (.ops [⟨(some 11), (.mov (.c (.int .i64 0))), none⟩])) (.seq (.ops [⟨(some 47), (.mov (.t 11)), none⟩, ⟨(some 48), (.mov (.t 0)), none⟩, ⟨(some 49), (.bin .lss (.t 47) (.t 48)), none⟩, ⟨(some 46), (.mov (.t 49)), none⟩]) (.cond (.t 46) (.ops [⟨(some 50), (.mov (.t 11)), none⟩, ⟨(some 51), (.bin .add (.t 50) (.c (.int .i64 1))), none⟩, ⟨(some 11), (.mov (.t 51)), none⟩]) (.seq (.ops [⟨(some 53), (.mov (.t 10)), none⟩, ⟨(some 54), (.len (.t 53)), none⟩, ⟨(some 55), (.bin .eql (.t 54) (.c (.int .i64 0))), none⟩, ⟨(some 52), (.mov (.t 55)), none⟩]) (.cond (.t 52) (.seq (.ops [⟨(some 8), (.nils 1), none⟩, ⟨(some 9), (.mov (.c (.bool false))), none⟩]) .ret) (.seq (.ops [⟨(some 16), (.mov (.t 10)), none⟩, ⟨(some 17), (.len (.t 16)), none⟩, ⟨(some 18), (.bin .sub (.t 17) (.c (.int .i64 1))), none⟩, ⟨(some 12), (.mov (.t 18)), none⟩]) (.seq (.ops [⟨(some 19), (.mov (.t 10)), none⟩, ⟨(some 20), (.mov (.t 12)), none⟩, ⟨(some 21), (.idx 1 (.t 19) (.t 20)), none⟩, ⟨(some 22), (.ld none (.t 21)), none⟩, ⟨(some 23), (.bin .add (.t 22) (.c (.int .i64 1))), none⟩, ⟨(some 11), (.mov (.t 23)), none⟩]) (.ops [⟨(some 24), (.mov (.t 10)), none⟩, ⟨(some 25), (.mov (.t 12)), none⟩, ⟨(some 26), (.cut 1 (.t 24) none (some (.t 25))), none⟩, ⟨(some 10), (.mov (.t 26)), none⟩]))))))))))))))) (.seq (.ops [⟨(some 56), (.mov (.t 10)), none⟩, ⟨(some 8), (.mov (.t 56)), none⟩, ⟨(some 9), (.mov (.c (.bool true))), none⟩]) .ret)))))))
theorem cc87 : ccode Tryd.prog (min Tryd.f87.ntmps pbase) (Tryd.f87.body.getD .skip) = some ac87 := by kernel_rfl
def ac100 : ACode := (.seq (.ops [⟨(some 2), (.nils 1), none⟩]) (.seq (.ops [⟨(some 3), (.nils 1), none⟩]) (.seq (.seq (.ops [⟨(some 6), (.mov (.t 0)), none⟩, ⟨(some 7), (.len (.t 6)), none⟩, ⟨(some 8), (.mov (.c (.int .i64 0))), none⟩]) (.block 0 (.loop (.seq (.ops [⟨(some 9), (.bin .lss (.t 8) (.t 7)), none⟩]) (.seq (.cond (.t 9) .skip (.exit 0)) (.seq (.block 1 (.seq (.ops [⟨(some 10), (.mov (.t 8)), none⟩, ⟨(some 11), (.idx 1 (.t 6) (.t 8)), none⟩, ⟨(some 12), (.ld none (.t 11)), none⟩, ⟨(some 4), (.mov (.t 10)), none⟩, ⟨(some 5), (.mov (.t 12)), none⟩]) (.seq (.ops [⟨(some 13), (.mov (.t 5)), none⟩, ⟨(some 14), (.mov (.t 4)), none⟩, ⟨(some 15), (.bin .neq (.t 13) (.t 14)), none⟩]) (.cond (.t 15) (.ops [⟨(some 16), (.mov (.t 3)), none⟩, ⟨(some 17), (.mov (.t 4)), none⟩, ⟨(some 18), (.bsl 1 1 [(.int .i64 0)] [(0, (.t 17))]), none⟩, ⟨(some 19), (.app 1 8 (.t 16) (.t 18)), none⟩, ⟨(some 3), (.mov (.t 19)), none⟩]) .skip)))) (.ops [⟨(some 20), (.bin .add (.t 8) (.c (.int .i64 1))), none⟩, ⟨(some 8), (.mov (.t 20)), none⟩]))))))) (.seq (.ops [⟨(some 21), (.mov (.t 3)), none⟩, ⟨(some 2), (.mov (.t 21)), none⟩]) .ret))))
theorem cc100 : ccode Tryd.prog (min Tryd.f100.ntmps pbase) (Tryd.f100.body.getD .skip) = some ac100 := by kernel_rfl
def ac101 : ACode := (.seq (.ops [⟨(some 2), (.nils 3), none⟩]) (.seq (.ops [⟨(some 3), (.alloc [(.bool false), (.bool false), (.bool false), (.bool false), (.bool false), (.bool false), (.bool false), (.bool false), (.bool false), (.bool false), (.bool false), (.bool false)]), none⟩]) (.seq (.ops [⟨(some 4), (.nils 3), none⟩]) (.seq (.seq (.ops [⟨(some 9), (.mov (.t 0)), none⟩, ⟨(some 10), (.len (.t 9)), none⟩, ⟨(some 11), (.mov (.c (.int .i64 0))), none⟩]) (.block 0 (.loop (.seq (.ops [⟨(some 12), (.bin .lss (.t 11) (.t 10)), none⟩]) (.seq (.cond (.t 12) .skip (.exit 0)) (.seq (.block 1 (.seq (.ops [⟨(some 13), (.mov (.t 11)), none⟩, ⟨(some 5), (.mov (.t 13)), none⟩]) (.seq (.seq (.ops [⟨(some 14), (.mov (.t 5)), none⟩, ⟨(some 15), (.arr 1 12 (.t 3) (.t 14)), none⟩, ⟨(some 16), (.ld none (.t 15)), none⟩]) (.cond (.t 16) (.exit 1) .skip)) (.seq (.ops [⟨(some 17), (.mov (.t 0)), none⟩, ⟨(some 18), (.mov (.t 5)), none⟩, ⟨(some 19), (.call 115 [(.t 17), (.t 18)]), none⟩, ⟨(some 6), (.alloc [(.int .i64 0), (.int .i64 0), (.slice none 0 0)]), none⟩, ⟨none, (.st 3 (.t 6) (.t 19)), none⟩]) (.seq (.seq (.ops [⟨(some 20), (.ld (some 3) (.t 6)), none⟩, ⟨(some 21), (.call 116 [(.t 20)]), none⟩, ⟨(some 22), (.len (.t 21)), none⟩, ⟨(some 23), (.mov (.c (.int .i64 0))), none⟩]) (.block 2 (.loop (.seq (.ops [⟨(some 24), (.bin .lss (.t 23) (.t 22)), none⟩]) (.seq (.cond (.t 24) .skip (.exit 2)) (.seq (.block 3 (.seq (.ops [⟨(some 25), (.idx 1 (.t 21) (.t 23)), none⟩, ⟨(some 26), (.ld none (.t 25)), none⟩, ⟨(some 8), (.mov (.t 26)), none⟩]) (.ops [⟨(some 27), (.mov (.t 8)), none⟩, ⟨(some 28), (.arr 1 12 (.t 3) (.t 27)), none⟩, ⟨none, (.st 1 (.t 28) (.c (.bool true))), none⟩]))) (.ops [⟨(some 29), (.bin .add (.t 23) (.c (.int .i64 1))), none⟩, ⟨(some 23), (.mov (.t 29)), none⟩]))))))) (.ops [⟨(some 30), (.mov (.t 4)), none⟩, ⟨(some 31), (.ld (some 3) (.t 6)), none⟩, ⟨(some 32), (.bsl 3 1 [(.int .i64 0), (.int .i64 0), (.slice none 0 0)] [(0, (.t 31))]), none⟩, ⟨(some 33), (.app 3 40 (.t 30) (.t 32)), none⟩, ⟨(some 4), (.mov (.t 33)), none⟩])))))) (.ops [⟨(some 34), (.bin .add (.t 11) (.c (.int .i64 1))), none⟩, ⟨(some 11), (.mov (.t 34)), none⟩]))))))) (.seq (.ops [⟨(some 35), (.mov (.t 4)), none⟩, ⟨(some 2), (.mov (.t 35)), none⟩]) .ret)))))
theorem cc101 : ccode Tryd.prog (min Tryd.f101.ntmps pbase) (Tryd.f101.body.getD .skip) = some ac101 := by kernel_rfl
def ac102 : ACode := (.seq (.ops [⟨(some 2), (.mov (.c (.int .i64 0))), none⟩]) (.seq (.ops [⟨(some 3), (.mov (.c (.int .i64 1))), none⟩]) (.seq (.seq (.ops [⟨(some 6), (.mov (.t 0)), none⟩, ⟨(some 7), (.len (.t 6)), none⟩, ⟨(some 8), (.mov (.c (.int .i64 0))), none⟩]) (.block 0 (.loop (.seq (.ops [⟨(some 9), (.bin .lss (.t 8) (.t 7)), none⟩]) (.seq (.cond (.t 9) .skip (.exit 0)) (.seq (.block 1 (.seq (.ops [⟨(some 10), (.idx 1 (.t 6) (.t 8)), none⟩, ⟨(some 11), (.ld none (.t 10)), none⟩, ⟨(some 5), (.mov (.t 11)), none⟩]) (.ops [⟨(some 12), (.mov (.t 3)), none⟩, ⟨(some 13), (.mov (.t 3)), none⟩, ⟨(some 14), (.mov (.t 5)), none⟩, ⟨(some 15), (.call 117 [(.t 13), (.t 14)]), none⟩, ⟨(some 16), (.bin .quo (.t 12) (.t 15)), none⟩, ⟨(some 17), (.mov (.t 5)), none⟩, ⟨(some 18), (.bin .mul (.t 16) (.t 17)), none⟩, ⟨(some 3), (.mov (.t 18)), none⟩]))) (.ops [⟨(some 19), (.bin .add (.t 8) (.c (.int .i64 1))), none⟩, ⟨(some 8), (.mov (.t 19)), none⟩]))))))) (.seq (.ops [⟨(some 20), (.mov (.t 3)), none⟩, ⟨(some 2), (.mov (.t 20)), none⟩]) .ret))))
theorem cc102 : ccode Tryd.prog (min Tryd.f102.ntmps pbase) (Tryd.f102.body.getD .skip) = some ac102 := by kernel_rfl
def ac103 : ACode := (.seq (.ops [⟨(some 4), (.nils 1), none⟩]) (.seq (.ops [⟨(some 5), (.nils 1), none⟩]) (.seq (.seq (.ops [⟨(some 8), (.mov (.t 0)), none⟩, ⟨(some 9), (.call 101 [(.t 8)]), none⟩, ⟨(some 10), (.len (.t 9)), none⟩, ⟨(some 11), (.mov (.c (.int .i64 0))), none⟩]) (.block 0 (.loop (.seq (.ops [⟨(some 12), (.bin .lss (.t 11) (.t 10)), none⟩]) (.seq (.cond (.t 12) .skip (.exit 0)) (.seq (.block 1 (.seq (.ops [⟨(some 13), (.idx 3 (.t 9) (.t 11)), none⟩, ⟨(some 14), (.ld (some 3) (.t 13)), none⟩, ⟨(some 7), (.alloc [(.int .i64 0), (.int .i64 0), (.slice none 0 0)]), none⟩, ⟨none, (.st 3 (.t 7) (.t 14)), none⟩]) (.ops [⟨(some 15), (.mov (.t 5)), none⟩, ⟨(some 16), (.mov (.t 1)), none⟩, ⟨(some 17), (.ld (some 3) (.t 7)), none⟩, ⟨(some 18), (.callv (.t 16) [(.t 17)]), none⟩, ⟨(some 19), (.bsl 1 1 [(.int .i64 0)] [(0, (.t 18))]), none⟩, ⟨(some 20), (.app 1 8 (.t 15) (.t 19)), none⟩, ⟨(some 5), (.mov (.t 20)), none⟩]))) (.ops [⟨(some 21), (.bin .add (.t 11) (.c (.int .i64 1))), none⟩, ⟨(some 11), (.mov (.t 21)), none⟩]))))))) (.seq (.ops [⟨(some 22), (.mov (.t 5)), none⟩, ⟨(some 4), (.mov (.t 22)), none⟩]) .ret))))
theorem cc103 : ccode Tryd.prog (min Tryd.f103.ntmps pbase) (Tryd.f103.body.getD .skip) = some ac103 := by kernel_rfl
def ac104 : ACode := (.seq (.ops [⟨(some 1), (.box 3 (.t 0)), none⟩, ⟨(some 2), (.mov (.c (.int .i64 0))), none⟩]) (.seq (.ops [⟨(some 3), (.fa 2 (.t 1)), none⟩, ⟨(some 4), (.ld none (.t 3)), none⟩, ⟨(some 5), (.len (.t 4)), none⟩, ⟨(some 6), (.bin .add (.c (.int .i64 1)) (.t 5)), none⟩, ⟨(some 2), (.mov (.t 6)), none⟩]) .ret))
theorem cc104 : ccode Tryd.prog (min Tryd.f104.ntmps pbase) (Tryd.f104.body.getD .skip) = some ac104 := by kernel_rfl
def ac105 : ACode := (.seq (.ops [⟨(some 2), (.nils 1), none⟩]) (.seq (.seq (.ops [⟨(some 3), (.mov (.t 0)), none⟩, ⟨(some 4), (.isnil false (.t 3)), none⟩]) (.cond (.t 4) (.seq (.ops [⟨(some 2), (.nils 1), none⟩]) .ret) .skip)) (.seq (.ops [⟨(some 5), (.bsl 1 0 [(.int .i64 0)] []), none⟩, ⟨(some 6), (.mov (.t 0)), none⟩, ⟨(some 7), (.app 1 8 (.t 5) (.t 6)), none⟩, ⟨(some 2), (.mov (.t 7)), none⟩]) .ret)))
theorem cc105 : ccode Tryd.prog (min Tryd.f105.ntmps pbase) (Tryd.f105.body.getD .skip) = some ac105 := by kernel_rfl
def ac115 : ACode := (.seq (.ops [⟨(some 4), (.alloc [(.int .i64 0), (.int .i64 0), (.slice none 0 0)]), none⟩]) (.seq (.ops [⟨(some 7), (.mov (.t 0)), none⟩, ⟨(some 8), (.mov (.t 1)), none⟩, ⟨(some 9), (.call 120 [(.t 7), (.t 8)]), none⟩, ⟨(some 10), (.pu (.bld [(.int .i64 0), (.int .i64 0), (.slice none 0 0)] [(0, 2)]) [(.t 9)]), none⟩, ⟨(some 5), (.alloc [(.int .i64 0), (.int .i64 0), (.slice none 0 0)]), none⟩, ⟨none, (.st 3 (.t 5) (.t 10)), none⟩]) (.seq (.seq (.ops [⟨(some 11), (.mov (.t 0)), none⟩, ⟨(some 12), (.fa 0 (.t 5)), none⟩, ⟨(some 13), (.fa 1 (.t 12)), none⟩, ⟨(some 14), (.ld none (.t 13)), none⟩, ⟨(some 15), (.call 120 [(.t 11), (.t 14)]), none⟩, ⟨(some 6), (.alloc [(.int .i64 0), (.int .i64 0)]), none⟩, ⟨none, (.st 2 (.t 6) (.t 15)), none⟩]) (.block 0 (.loop (.seq (.seq (.ops [⟨(some 16), (.ld (some 2) (.t 6)), none⟩, ⟨(some 17), (.fa 0 (.t 5)), none⟩, ⟨(some 18), (.ld (some 2) (.t 17)), none⟩, ⟨(some 19), (.pu (.aeq true [0, 1]) [(.t 16), (.t 18)]), none⟩]) (.cond (.t 19) .skip (.exit 0))) (.seq (.block 1 (.ops [⟨(some 24), (.fa 2 (.t 5)), none⟩, ⟨(some 25), (.ld none (.t 24)), none⟩, ⟨(some 26), (.ld (some 2) (.t 6)), none⟩, ⟨(some 27), (.bsl 2 1 [(.int .i64 0), (.int .i64 0)] [(0, (.t 26))]), none⟩, ⟨(some 28), (.app 2 16 (.t 25) (.t 27)), none⟩, ⟨(some 29), (.fa 2 (.t 5)), none⟩, ⟨none, (.st 1 (.t 29) (.t 28)), none⟩])) (.seq (.seq (.ops [⟨(some 30), (.ld (some 2) (.t 6)), none⟩]) (.ops [⟨(some 6), (.alloc [(.int .i64 0), (.int .i64 0)]), none⟩, ⟨none, (.st 2 (.t 6) (.t 30)), none⟩])) (.ops [⟨(some 20), (.mov (.t 0)), none⟩, ⟨(some 21), (.fa 1 (.t 6)), none⟩, ⟨(some 22), (.ld none (.t 21)), none⟩, ⟨(some 23), (.call 120 [(.t 20), (.t 22)]), none⟩, ⟨none, (.st 2 (.t 6) (.t 23)), none⟩]))))))) (.seq (.ops [⟨(some 31), (.ld (some 3) (.t 5)), none⟩, ⟨none, (.st 3 (.t 4) (.t 31)), none⟩]) .ret))))
theorem cc115 : ccode Tryd.prog (min Tryd.f115.ntmps pbase) (Tryd.f115.body.getD .skip) = some ac115 := by kernel_rfl
def ac116 : ACode := (.seq (.ops [⟨(some 1), (.box 3 (.t 0)), none⟩, ⟨(some 2), (.nils 1), none⟩]) (.seq (.ops [⟨(some 6), (.fa 0 (.t 1)), none⟩, ⟨(some 7), (.fa 0 (.t 6)), none⟩, ⟨(some 8), (.ld none (.t 7)), none⟩, ⟨(some 9), (.bsl 1 1 [(.int .i64 0)] [(0, (.t 8))]), none⟩, ⟨(some 3), (.mov (.t 9)), none⟩]) (.seq (.seq (.ops [⟨(some 10), (.fa 2 (.t 1)), none⟩, ⟨(some 11), (.ld none (.t 10)), none⟩, ⟨(some 12), (.len (.t 11)), none⟩, ⟨(some 13), (.mov (.c (.int .i64 0))), none⟩]) (.block 0 (.loop (.seq (.ops [⟨(some 14), (.bin .lss (.t 13) (.t 12)), none⟩]) (.seq (.cond (.t 14) .skip (.exit 0)) (.seq (.block 1 (.seq (.ops [⟨(some 15), (.idx 2 (.t 11) (.t 13)), none⟩, ⟨(some 16), (.ld (some 2) (.t 15)), none⟩, ⟨(some 5), (.alloc [(.int .i64 0), (.int .i64 0)]), none⟩, ⟨none, (.st 2 (.t 5) (.t 16)), none⟩]) (.ops [⟨(some 17), (.mov (.t 3)), none⟩, ⟨(some 18), (.fa 0 (.t 5)), none⟩, ⟨(some 19), (.ld none (.t 18)), none⟩, ⟨(some 20), (.bsl 1 1 [(.int .i64 0)] [(0, (.t 19))]), none⟩, ⟨(some 21), (.app 1 8 (.t 17) (.t 20)), none⟩, ⟨(some 3), (.mov (.t 21)), none⟩]))) (.ops [⟨(some 22), (.bin .add (.t 13) (.c (.int .i64 1))), none⟩, ⟨(some 13), (.mov (.t 22)), none⟩]))))))) (.seq (.ops [⟨(some 23), (.mov (.t 3)), none⟩, ⟨(some 2), (.mov (.t 23)), none⟩]) .ret))))
theorem cc116 : ccode Tryd.prog (min Tryd.f116.ntmps pbase) (Tryd.f116.body.getD .skip) = some ac116 := by kernel_rfl
def ac117 : ACode := (.seq (.ops [⟨(some 4), (.mov (.c (.int .i64 0))), none⟩]) (.seq (.block 0 (.loop (.seq (.seq (.ops [⟨(some 5), (.mov (.t 1)), none⟩, ⟨(some 6), (.bin .neq (.t 5) (.c (.int .i64 0))), none⟩]) (.cond (.t 6) .skip (.exit 0))) (.block 1 (.tree (.take ⟨(some 7), (.mov (.t 1)), none⟩ (.take ⟨(some 8), (.mov (.t 0)), none⟩ (.take ⟨(some 9), (.mov (.t 1)), none⟩ (.take ⟨(some 10), (.bin .rem (.t 8) (.t 9)), none⟩ (.take ⟨(some 0), (.mov (.t 7)), none⟩ (.take ⟨(some 1), (.mov (.t 10)), none⟩ .done))))))))))) (.seq (.ops [⟨(some 11), (.mov (.t 0)), none⟩, ⟨(some 4), (.mov (.t 11)), none⟩]) .ret)))
theorem cc117 : ccode Tryd.prog (min Tryd.f117.ntmps pbase) (Tryd.f117.body.getD .skip) = some ac117 := by kernel_rfl
def ac120 : ACode := (.seq (.ops [⟨(some 4), (.alloc [(.int .i64 0), (.int .i64 0)]), none⟩]) (.seq (.ops [⟨(some 5), (.mov (.t 1)), none⟩, ⟨(some 6), (.mov (.t 0)), none⟩, ⟨(some 7), (.mov (.t 1)), none⟩, ⟨(some 8), (.idx 1 (.t 6) (.t 7)), none⟩, ⟨(some 9), (.ld none (.t 8)), none⟩, ⟨(some 10), (.pu (.bld [(.int .i64 0), (.int .i64 0)] [(0, 1), (1, 1)]) [(.t 5), (.t 9)]), none⟩, ⟨none, (.st 2 (.t 4) (.t 10)), none⟩]) .ret))
theorem cc120 : ccode Tryd.prog (min Tryd.f120.ntmps pbase) (Tryd.f120.body.getD .skip) = some ac120 := by kernel_rfl
end Go.Proofs.YtjgcmbihbeokeaaDoor
namespace Go.Proofs.YtjgcmbihbeokeaaDoor
open Go.Am
attribute [local irreducible] AW Outs Weak Lends Lend Sp aops atree aop1 Then Round InBlock Done
theorem isGuest_spec (a b : Int) : Sp Tryd.prog 61 [.i a, .i b] (.b (decide (0 ≤ a ∧ a < b))) := by
  refine spec_of Tryd.func61 rfl cc61 rfl ?_
  unfold ac61
  by_cases h : 0 ≤ a
  all_goals
    repeat (first | (refine step_ops ?_; (first | ((try (refine g_yes rfl ?_ ?_; (· first | rfl | assumption | (refine decide_eq_true ?_; first | assumption | omega) | (refine nt ?_; first | assumption | omega) | (simp [*]; done) | (refine decide_eq_false ?_; first | assumption | omega) | (refine nf ?_; first | assumption | omega)))); (first | (refine m_mov (by conv => lhs; whnf) ?_) | (refine m_lss rfl rfl ?_) | (refine m_geq rfl rfl ?_) | (refine m_pick_t rfl ?_ (by conv => lhs; whnf) ?_; (· first | rfl | assumption | (refine decide_eq_true ?_; first | assumption | omega) | (refine nt ?_; first | assumption | omega) | (simp [*]; done))) | (refine m_pick_f rfl ?_ (by conv => lhs; whnf) ?_; (· first | rfl | assumption | (refine decide_eq_false ?_; first | assumption | omega) | (refine nf ?_; first | assumption | omega) | (simp [*]; done))))) | (refine g_noT rfl ?_ ?_; (· first | rfl | assumption | (refine decide_eq_false ?_; first | assumption | omega) | (refine nf ?_; first | assumption | omega) | (simp [*]; done))))) | refine end_ops ?_ | refine seq_ops ?_ | refine AW_ret ?_ | refine ret_done ?_)
    refine outs_b ?_
    simp [*]
theorem l1In_spec (a b c : Int) : Sp Tryd.prog 43 [.i a, .i b, .i c] (.b (decide (b ≤ a ∧ a ≤ c))) := by
  refine spec_of Tryd.func43 rfl cc43 rfl ?_
  unfold ac43
  by_cases h : b ≤ a
  all_goals
    repeat (first | (refine step_ops ?_; (first | ((try (refine g_yes rfl ?_ ?_; (· first | rfl | assumption | (refine decide_eq_true ?_; first | assumption | omega) | (refine nt ?_; first | assumption | omega) | (simp [*]; done) | (refine decide_eq_false ?_; first | assumption | omega) | (refine nf ?_; first | assumption | omega)))); (first | (refine m_mov (by conv => lhs; whnf) ?_) | (refine m_leq rfl rfl ?_) | (refine m_geq rfl rfl ?_) | (refine m_pick_t rfl ?_ (by conv => lhs; whnf) ?_; (· first | rfl | assumption | (refine decide_eq_true ?_; first | assumption | omega) | (refine nt ?_; first | assumption | omega) | (simp [*]; done))) | (refine m_pick_f rfl ?_ (by conv => lhs; whnf) ?_; (· first | rfl | assumption | (refine decide_eq_false ?_; first | assumption | omega) | (refine nf ?_; first | assumption | omega) | (simp [*]; done))))) | (refine g_noT rfl ?_ ?_; (· first | rfl | assumption | (refine decide_eq_false ?_; first | assumption | omega) | (refine nf ?_; first | assumption | omega) | (simp [*]; done))))) | refine end_ops ?_ | refine seq_ops ?_ | refine AW_ret ?_ | refine ret_done ?_)
    refine outs_b ?_
    simp [*]
theorem getD_mem {L : List Int} {k : Nat} (h : k < L.length) : L.getD k 0 ∈ L := by simp [h]
end Go.Proofs.YtjgcmbihbeokeaaDoor
namespace Go.Proofs.YtjgcmbihbeokeaaDoor
open Go.Am
attribute [local irreducible] AW Outs Weak Lends Lend Sp aops atree aop1 Then Round InBlock Done
/-- What an exchange is. -/
def IsEx (L : List Int) : Prop := 1 ≤ L.length ∧ L.length ≤ 12 ∧ (∀ x ∈ L, 0 ≤ x ∧ x < L.length) ∧ L.Nodup
instance (L : List Int) : Decidable (IsEx L) := inferInstanceAs (Decidable (_ ∧ _ ∧ _ ∧ _))
end Go.Proofs.YtjgcmbihbeokeaaDoor
namespace Go.Proofs.YtjgcmbihbeokeaaDoor
open Go.Am
attribute [local irreducible] AW Outs Weak Lends Lend Sp aops atree aop1 Then Round InBlock Done
theorem pzGuests_spec (g : Int) : Sp Tryd.prog 33 [.i g] (.b (decide (PzN g))) := by
  refine spec_of Tryd.func33 rfl cc33 rfl ?_
  unfold ac33
  repeat (first | (refine step_ops ?_; (refine m_mov (by conv => lhs; whnf) ?_)) | refine end_ops ?_ | refine seq_ops ?_)
  (refine step_ops ?_); (apply m_call (l1In_spec _ _ _)); (· repeat (first | exact lends_nil | (refine lends_cons ?_ ?_; (· exact lend_v))))
  repeat (first | (refine step_ops ?_; (refine m_mov (by conv => lhs; whnf) ?_)) | refine end_ops ?_ | refine AW_ret ?_ | refine ret_done ?_)
  exact outs_b rfl
theorem isClu_01 {g k a b : Int} (h : k = 0 ∨ k = 1) : IsClu g (k, a, b) ↔ (0 ≤ a ∧ a ≤ g - 1) ∧ 0 ≤ b ∧ b ≤ g - 1 := by unfold IsClu; simp only [if_pos h]
theorem isClu_2 {g a b : Int} : IsClu g (2, a, b) ↔ (0 ≤ a ∧ a ≤ g) ∧ b = 0 := by unfold IsClu; simp
theorem isClu_3 {g a b : Int} : IsClu g (3, a, b) ↔ (1 ≤ a ∧ a ≤ g) ∧ b = 0 := by unfold IsClu; simp
theorem isClu_4 {g a b : Int} : IsClu g (4, a, b) ↔ (0 ≤ a ∧ a ≤ g - 1) ∧ 0 ≤ b ∧ b ≤ 1 := by unfold IsClu; simp
theorem isClu_5 {g a b : Int} : IsClu g (5, a, b) ↔ (1 ≤ a ∧ a ≤ 6) ∧ b = 0 := by unfold IsClu; simp
theorem isClu_no {g k a b : Int} (h : ¬ (0 ≤ k ∧ k ≤ 5)) : ¬ IsClu g (k, a, b) := by
  unfold IsClu
  dsimp only
  rw [if_neg (by omega), if_neg (by omega), if_neg (by omega), if_neg (by omega)]
  rintro ⟨h1, _⟩
  omega
theorem pzClue_spec (g k a b : Int) (h : PzN g) : Sp Tryd.prog 34 [.i g, .agg [.i k, .i a, .i b]] (.b (decide (IsClu g (k, a, b)))) := by
  obtain ⟨hg1, hg5⟩ := h
  refine spec_of Tryd.func34 rfl cc34 rfl ?_
  unfold ac34
  refine seq_ops ?_
  refine step_ops ?_
  refine m_box (l := [.i k, .i a, .i b]) rfl rfl ?_
  by_cases h0 : k = 0
  · have hi : IsClu g (k, a, b) ↔ (0 ≤ a ∧ a ≤ g - 1) ∧ (0 ≤ b ∧ b ≤ g - 1) := by
      exact isClu_01 (.inl h0)
    rw [decide_eq_decide.2 hi]
    by_cases ha : (0 ≤ a ∧ a ≤ g - 1)
    · have hd : decide ((0 ≤ a ∧ a ≤ g - 1) ∧ (0 ≤ b ∧ b ≤ g - 1)) = decide ((0 ≤ b ∧ b ≤ g - 1)) := by simp [ha]
      rw [hd]
      have hc := l1In_spec a 0 (g - 1)
      rw [decide_eq_true ha] at hc
      repeat (first | (refine step_ops ?_; (first | (refine m_mov (by conv => lhs; whnf) ?_) | (refine m_eql rfl rfl ?_) | (refine m_sub rfl rfl ?_ ?_ ?_; (· omega); (· omega)) | (apply m_ld_pt; (· rfl); (· rfl); (· rfl)) | (refine m_fa rfl ?_))) | refine end_ops ?_ | refine seq_ops ?_ | (refine cond_t rfl ?_ ?_; (· first | rfl | assumption | (refine decide_eq_true ?_; first | assumption | omega) | (refine nt ?_; first | assumption | omega) | (simp [*]; done))) | refine skip_then ?_ | refine AW_seq ?_ | refine AW_block ?_)
      (refine step_ops ?_); (apply m_call (hc)); (· repeat (first | exact lends_nil | (refine lends_cons ?_ ?_; (· exact lend_v))))
      repeat (refine step_ops ?_; ((try (refine g_yes rfl ?_ ?_; (· first | rfl | assumption | (refine decide_eq_true ?_; first | assumption | omega) | (refine nt ?_; first | assumption | omega) | (simp [*]; done) | (refine decide_eq_false ?_; first | assumption | omega) | (refine nf ?_; first | assumption | omega)))); (first | (refine m_mov (by conv => lhs; whnf) ?_) | (refine m_sub rfl rfl ?_ ?_ ?_; (· omega); (· omega)) | (apply m_ld_pt; (· rfl); (· rfl); (· rfl)) | (refine m_fa rfl ?_))))
      (refine step_ops ?_); (refine g_yes rfl ?_ ?_; (· first | (first | rfl | assumption | (refine decide_eq_true ?_; first | assumption | omega) | (refine nt ?_; first | assumption | omega) | (simp [*]; done)) | (first | rfl | assumption | (refine decide_eq_false ?_; first | assumption | omega) | (refine nf ?_; first | assumption | omega) | (simp [*]; done))); (apply m_call (l1In_spec b 0 (g - 1)))); (· repeat (first | exact lends_nil | (refine lends_cons ?_ ?_; (· exact lend_v))))
      repeat (first | (refine step_ops ?_; (first | (refine m_mov (by conv => lhs; whnf) ?_) | (refine m_pick_t rfl ?_ (by conv => lhs; whnf) ?_; (· first | rfl | assumption | (refine decide_eq_true ?_; first | assumption | omega) | (refine nt ?_; first | assumption | omega) | (simp [*]; done))))) | refine end_ops ?_ | refine AW_ret ?_ | refine ret_done ?_ | refine ret_then ?_ | refine ret_block ?_)
      exact outs_b rfl
    · have hd : decide ((0 ≤ a ∧ a ≤ g - 1) ∧ (0 ≤ b ∧ b ≤ g - 1)) = false := by simp [ha]
      rw [hd]
      have hc := l1In_spec a 0 (g - 1)
      rw [decide_eq_false ha] at hc
      repeat (first | (refine step_ops ?_; (first | (refine m_mov (by conv => lhs; whnf) ?_) | (refine m_eql rfl rfl ?_) | (refine m_sub rfl rfl ?_ ?_ ?_; (· omega); (· omega)) | (apply m_ld_pt; (· rfl); (· rfl); (· rfl)) | (refine m_fa rfl ?_))) | refine end_ops ?_ | refine seq_ops ?_ | (refine cond_t rfl ?_ ?_; (· first | rfl | assumption | (refine decide_eq_true ?_; first | assumption | omega) | (refine nt ?_; first | assumption | omega) | (simp [*]; done))) | refine skip_then ?_ | refine AW_seq ?_ | refine AW_block ?_)
      (refine step_ops ?_); (apply m_call (hc)); (· repeat (first | exact lends_nil | (refine lends_cons ?_ ?_; (· exact lend_v))))
      repeat (first | (refine step_ops ?_; (first | (first | (refine m_mov (by conv => lhs; whnf) ?_) | (refine m_pick_f rfl ?_ (by conv => lhs; whnf) ?_; (· first | rfl | assumption | (refine decide_eq_false ?_; first | assumption | omega) | (refine nf ?_; first | assumption | omega) | (simp [*]; done)))) | (refine g_noT rfl ?_ ?_; (· first | rfl | assumption | (refine decide_eq_false ?_; first | assumption | omega) | (refine nf ?_; first | assumption | omega) | (simp [*]; done))))) | refine end_ops ?_ | refine AW_ret ?_ | refine ret_done ?_ | refine ret_then ?_ | refine ret_block ?_)
      exact outs_b rfl
  by_cases h1 : k = 1
  · have hi : IsClu g (k, a, b) ↔ (0 ≤ a ∧ a ≤ g - 1) ∧ (0 ≤ b ∧ b ≤ g - 1) := by
      exact isClu_01 (.inr h1)
    rw [decide_eq_decide.2 hi]
    by_cases ha : (0 ≤ a ∧ a ≤ g - 1)
    · have hd : decide ((0 ≤ a ∧ a ≤ g - 1) ∧ (0 ≤ b ∧ b ≤ g - 1)) = decide ((0 ≤ b ∧ b ≤ g - 1)) := by simp [ha]
      rw [hd]
      have hc := l1In_spec a 0 (g - 1)
      rw [decide_eq_true ha] at hc
      repeat (first | (refine step_ops ?_; (first | (refine m_mov (by conv => lhs; whnf) ?_) | (refine m_eql rfl rfl ?_) | (refine m_sub rfl rfl ?_ ?_ ?_; (· omega); (· omega)) | (apply m_ld_pt; (· rfl); (· rfl); (· rfl)) | (refine m_fa rfl ?_))) | refine end_ops ?_ | refine seq_ops ?_ | refine AW_ops ?_ | (refine cond_t rfl ?_ ?_; (· first | rfl | assumption | (refine decide_eq_true ?_; first | assumption | omega) | (refine nt ?_; first | assumption | omega) | (simp [*]; done))) | (refine cond_f rfl ?_ ?_; (· first | rfl | assumption | (refine decide_eq_false ?_; first | assumption | omega) | (refine nf ?_; first | assumption | omega) | (simp [*]; done))) | refine AW_seq ?_ | refine norm_then ?_ | refine AW_block ?_)
      (refine step_ops ?_); (apply m_call (hc)); (· repeat (first | exact lends_nil | (refine lends_cons ?_ ?_; (· exact lend_v))))
      repeat (refine step_ops ?_; ((try (refine g_yes rfl ?_ ?_; (· first | rfl | assumption | (refine decide_eq_true ?_; first | assumption | omega) | (refine nt ?_; first | assumption | omega) | (simp [*]; done) | (refine decide_eq_false ?_; first | assumption | omega) | (refine nf ?_; first | assumption | omega)))); (first | (refine m_mov (by conv => lhs; whnf) ?_) | (refine m_sub rfl rfl ?_ ?_ ?_; (· omega); (· omega)) | (apply m_ld_pt; (· rfl); (· rfl); (· rfl)) | (refine m_fa rfl ?_))))
      (refine step_ops ?_); (refine g_yes rfl ?_ ?_; (· first | (first | rfl | assumption | (refine decide_eq_true ?_; first | assumption | omega) | (refine nt ?_; first | assumption | omega) | (simp [*]; done)) | (first | rfl | assumption | (refine decide_eq_false ?_; first | assumption | omega) | (refine nf ?_; first | assumption | omega) | (simp [*]; done))); (apply m_call (l1In_spec b 0 (g - 1)))); (· repeat (first | exact lends_nil | (refine lends_cons ?_ ?_; (· exact lend_v))))
      repeat (first | (refine step_ops ?_; (first | (refine m_mov (by conv => lhs; whnf) ?_) | (refine m_pick_t rfl ?_ (by conv => lhs; whnf) ?_; (· first | rfl | assumption | (refine decide_eq_true ?_; first | assumption | omega) | (refine nt ?_; first | assumption | omega) | (simp [*]; done))))) | refine end_ops ?_ | refine AW_ret ?_ | refine ret_done ?_ | refine ret_then ?_ | refine ret_block ?_)
      exact outs_b rfl
    · have hd : decide ((0 ≤ a ∧ a ≤ g - 1) ∧ (0 ≤ b ∧ b ≤ g - 1)) = false := by simp [ha]
      rw [hd]
      have hc := l1In_spec a 0 (g - 1)
      rw [decide_eq_false ha] at hc
      repeat (first | (refine step_ops ?_; (first | (refine m_mov (by conv => lhs; whnf) ?_) | (refine m_eql rfl rfl ?_) | (refine m_sub rfl rfl ?_ ?_ ?_; (· omega); (· omega)) | (apply m_ld_pt; (· rfl); (· rfl); (· rfl)) | (refine m_fa rfl ?_))) | refine end_ops ?_ | refine seq_ops ?_ | refine AW_ops ?_ | (refine cond_t rfl ?_ ?_; (· first | rfl | assumption | (refine decide_eq_true ?_; first | assumption | omega) | (refine nt ?_; first | assumption | omega) | (simp [*]; done))) | (refine cond_f rfl ?_ ?_; (· first | rfl | assumption | (refine decide_eq_false ?_; first | assumption | omega) | (refine nf ?_; first | assumption | omega) | (simp [*]; done))) | refine AW_seq ?_ | refine norm_then ?_ | refine AW_block ?_)
      (refine step_ops ?_); (apply m_call (hc)); (· repeat (first | exact lends_nil | (refine lends_cons ?_ ?_; (· exact lend_v))))
      repeat (first | (refine step_ops ?_; (first | (first | (refine m_mov (by conv => lhs; whnf) ?_) | (refine m_pick_f rfl ?_ (by conv => lhs; whnf) ?_; (· first | rfl | assumption | (refine decide_eq_false ?_; first | assumption | omega) | (refine nf ?_; first | assumption | omega) | (simp [*]; done)))) | (refine g_noT rfl ?_ ?_; (· first | rfl | assumption | (refine decide_eq_false ?_; first | assumption | omega) | (refine nf ?_; first | assumption | omega) | (simp [*]; done))))) | refine end_ops ?_ | refine AW_ret ?_ | refine ret_done ?_ | refine ret_then ?_ | refine ret_block ?_)
      exact outs_b rfl
  by_cases h2 : k = 2
  · have hi : IsClu g (k, a, b) ↔ (0 ≤ a ∧ a ≤ g) ∧ b = 0 := by
      subst h2; exact isClu_2
    rw [decide_eq_decide.2 hi]
    by_cases ha : (0 ≤ a ∧ a ≤ g)
    · have hd : decide ((0 ≤ a ∧ a ≤ g) ∧ b = 0) = decide (b = 0) := by simp [ha]
      rw [hd]
      have hc := l1In_spec a 0 g
      rw [decide_eq_true ha] at hc
      repeat (first | (refine step_ops ?_; (first | (refine m_mov (by conv => lhs; whnf) ?_) | (refine m_eql rfl rfl ?_) | (apply m_ld_pt; (· rfl); (· rfl); (· rfl)) | (refine m_fa rfl ?_))) | refine end_ops ?_ | refine seq_ops ?_ | refine AW_ops ?_ | (refine cond_t rfl ?_ ?_; (· first | rfl | assumption | (refine decide_eq_true ?_; first | assumption | omega) | (refine nt ?_; first | assumption | omega) | (simp [*]; done))) | (refine cond_f rfl ?_ ?_; (· first | rfl | assumption | (refine decide_eq_false ?_; first | assumption | omega) | (refine nf ?_; first | assumption | omega) | (simp [*]; done))) | refine AW_seq ?_ | refine norm_then ?_ | refine AW_block ?_)
      (refine step_ops ?_); (apply m_call (hc)); (· repeat (first | exact lends_nil | (refine lends_cons ?_ ?_; (· exact lend_v))))
      repeat (first | (refine step_ops ?_; ((try (refine g_yes rfl ?_ ?_; (· first | rfl | assumption | (refine decide_eq_true ?_; first | assumption | omega) | (refine nt ?_; first | assumption | omega) | (simp [*]; done) | (refine decide_eq_false ?_; first | assumption | omega) | (refine nf ?_; first | assumption | omega)))); (first | (refine m_mov (by conv => lhs; whnf) ?_) | (refine m_eql rfl rfl ?_) | (apply m_ld_pt; (· rfl); (· rfl); (· rfl)) | (refine m_pick_t rfl ?_ (by conv => lhs; whnf) ?_; (· first | rfl | assumption | (refine decide_eq_true ?_; first | assumption | omega) | (refine nt ?_; first | assumption | omega) | (simp [*]; done))) | (refine m_fa rfl ?_)))) | refine end_ops ?_ | refine AW_ret ?_ | refine ret_done ?_ | refine ret_then ?_ | refine ret_block ?_)
      exact outs_b rfl
    · have hd : decide ((0 ≤ a ∧ a ≤ g) ∧ b = 0) = false := by simp [ha]
      rw [hd]
      have hc := l1In_spec a 0 g
      rw [decide_eq_false ha] at hc
      repeat (first | (refine step_ops ?_; (first | (refine m_mov (by conv => lhs; whnf) ?_) | (refine m_eql rfl rfl ?_) | (apply m_ld_pt; (· rfl); (· rfl); (· rfl)) | (refine m_fa rfl ?_))) | refine end_ops ?_ | refine seq_ops ?_ | refine AW_ops ?_ | (refine cond_t rfl ?_ ?_; (· first | rfl | assumption | (refine decide_eq_true ?_; first | assumption | omega) | (refine nt ?_; first | assumption | omega) | (simp [*]; done))) | (refine cond_f rfl ?_ ?_; (· first | rfl | assumption | (refine decide_eq_false ?_; first | assumption | omega) | (refine nf ?_; first | assumption | omega) | (simp [*]; done))) | refine AW_seq ?_ | refine norm_then ?_ | refine AW_block ?_)
      (refine step_ops ?_); (apply m_call (hc)); (· repeat (first | exact lends_nil | (refine lends_cons ?_ ?_; (· exact lend_v))))
      repeat (first | (refine step_ops ?_; (first | (first | (refine m_mov (by conv => lhs; whnf) ?_) | (refine m_pick_f rfl ?_ (by conv => lhs; whnf) ?_; (· first | rfl | assumption | (refine decide_eq_false ?_; first | assumption | omega) | (refine nf ?_; first | assumption | omega) | (simp [*]; done)))) | (refine g_noT rfl ?_ ?_; (· first | rfl | assumption | (refine decide_eq_false ?_; first | assumption | omega) | (refine nf ?_; first | assumption | omega) | (simp [*]; done))))) | refine end_ops ?_ | refine AW_ret ?_ | refine ret_done ?_ | refine ret_then ?_ | refine ret_block ?_)
      exact outs_b rfl
  by_cases h3 : k = 3
  · have hi : IsClu g (k, a, b) ↔ (1 ≤ a ∧ a ≤ g) ∧ b = 0 := by
      subst h3; exact isClu_3
    rw [decide_eq_decide.2 hi]
    by_cases ha : (1 ≤ a ∧ a ≤ g)
    · have hd : decide ((1 ≤ a ∧ a ≤ g) ∧ b = 0) = decide (b = 0) := by simp [ha]
      rw [hd]
      have hc := l1In_spec a 1 g
      rw [decide_eq_true ha] at hc
      repeat (first | (refine step_ops ?_; (first | (refine m_mov (by conv => lhs; whnf) ?_) | (refine m_eql rfl rfl ?_) | (apply m_ld_pt; (· rfl); (· rfl); (· rfl)) | (refine m_fa rfl ?_))) | refine end_ops ?_ | refine seq_ops ?_ | refine AW_ops ?_ | (refine cond_t rfl ?_ ?_; (· first | rfl | assumption | (refine decide_eq_true ?_; first | assumption | omega) | (refine nt ?_; first | assumption | omega) | (simp [*]; done))) | (refine cond_f rfl ?_ ?_; (· first | rfl | assumption | (refine decide_eq_false ?_; first | assumption | omega) | (refine nf ?_; first | assumption | omega) | (simp [*]; done))) | refine AW_seq ?_ | refine norm_then ?_ | refine AW_block ?_)
      (refine step_ops ?_); (apply m_call (hc)); (· repeat (first | exact lends_nil | (refine lends_cons ?_ ?_; (· exact lend_v))))
      repeat (first | (refine step_ops ?_; ((try (refine g_yes rfl ?_ ?_; (· first | rfl | assumption | (refine decide_eq_true ?_; first | assumption | omega) | (refine nt ?_; first | assumption | omega) | (simp [*]; done) | (refine decide_eq_false ?_; first | assumption | omega) | (refine nf ?_; first | assumption | omega)))); (first | (refine m_mov (by conv => lhs; whnf) ?_) | (refine m_eql rfl rfl ?_) | (apply m_ld_pt; (· rfl); (· rfl); (· rfl)) | (refine m_pick_t rfl ?_ (by conv => lhs; whnf) ?_; (· first | rfl | assumption | (refine decide_eq_true ?_; first | assumption | omega) | (refine nt ?_; first | assumption | omega) | (simp [*]; done))) | (refine m_fa rfl ?_)))) | refine end_ops ?_ | refine AW_ret ?_ | refine ret_done ?_ | refine ret_then ?_ | refine ret_block ?_)
      exact outs_b rfl
    · have hd : decide ((1 ≤ a ∧ a ≤ g) ∧ b = 0) = false := by simp [ha]
      rw [hd]
      have hc := l1In_spec a 1 g
      rw [decide_eq_false ha] at hc
      repeat (first | (refine step_ops ?_; (first | (refine m_mov (by conv => lhs; whnf) ?_) | (refine m_eql rfl rfl ?_) | (apply m_ld_pt; (· rfl); (· rfl); (· rfl)) | (refine m_fa rfl ?_))) | refine end_ops ?_ | refine seq_ops ?_ | refine AW_ops ?_ | (refine cond_t rfl ?_ ?_; (· first | rfl | assumption | (refine decide_eq_true ?_; first | assumption | omega) | (refine nt ?_; first | assumption | omega) | (simp [*]; done))) | (refine cond_f rfl ?_ ?_; (· first | rfl | assumption | (refine decide_eq_false ?_; first | assumption | omega) | (refine nf ?_; first | assumption | omega) | (simp [*]; done))) | refine AW_seq ?_ | refine norm_then ?_ | refine AW_block ?_)
      (refine step_ops ?_); (apply m_call (hc)); (· repeat (first | exact lends_nil | (refine lends_cons ?_ ?_; (· exact lend_v))))
      repeat (first | (refine step_ops ?_; (first | (first | (refine m_mov (by conv => lhs; whnf) ?_) | (refine m_pick_f rfl ?_ (by conv => lhs; whnf) ?_; (· first | rfl | assumption | (refine decide_eq_false ?_; first | assumption | omega) | (refine nf ?_; first | assumption | omega) | (simp [*]; done)))) | (refine g_noT rfl ?_ ?_; (· first | rfl | assumption | (refine decide_eq_false ?_; first | assumption | omega) | (refine nf ?_; first | assumption | omega) | (simp [*]; done))))) | refine end_ops ?_ | refine AW_ret ?_ | refine ret_done ?_ | refine ret_then ?_ | refine ret_block ?_)
      exact outs_b rfl
  by_cases h4 : k = 4
  · have hi : IsClu g (k, a, b) ↔ (0 ≤ a ∧ a ≤ g - 1) ∧ (0 ≤ b ∧ b ≤ 1) := by
      subst h4; exact isClu_4
    rw [decide_eq_decide.2 hi]
    by_cases ha : (0 ≤ a ∧ a ≤ g - 1)
    · have hd : decide ((0 ≤ a ∧ a ≤ g - 1) ∧ (0 ≤ b ∧ b ≤ 1)) = decide ((0 ≤ b ∧ b ≤ 1)) := by simp [ha]
      rw [hd]
      have hc := l1In_spec a 0 (g - 1)
      rw [decide_eq_true ha] at hc
      repeat (first | (refine step_ops ?_; (first | (refine m_mov (by conv => lhs; whnf) ?_) | (refine m_eql rfl rfl ?_) | (refine m_sub rfl rfl ?_ ?_ ?_; (· omega); (· omega)) | (apply m_ld_pt; (· rfl); (· rfl); (· rfl)) | (refine m_fa rfl ?_))) | refine end_ops ?_ | refine seq_ops ?_ | refine AW_ops ?_ | (refine cond_t rfl ?_ ?_; (· first | rfl | assumption | (refine decide_eq_true ?_; first | assumption | omega) | (refine nt ?_; first | assumption | omega) | (simp [*]; done))) | (refine cond_f rfl ?_ ?_; (· first | rfl | assumption | (refine decide_eq_false ?_; first | assumption | omega) | (refine nf ?_; first | assumption | omega) | (simp [*]; done))) | refine AW_seq ?_ | refine norm_then ?_ | refine AW_block ?_)
      (refine step_ops ?_); (apply m_call (hc)); (· repeat (first | exact lends_nil | (refine lends_cons ?_ ?_; (· exact lend_v))))
      repeat (refine step_ops ?_; ((try (refine g_yes rfl ?_ ?_; (· first | rfl | assumption | (refine decide_eq_true ?_; first | assumption | omega) | (refine nt ?_; first | assumption | omega) | (simp [*]; done) | (refine decide_eq_false ?_; first | assumption | omega) | (refine nf ?_; first | assumption | omega)))); (first | (refine m_mov (by conv => lhs; whnf) ?_) | (apply m_ld_pt; (· rfl); (· rfl); (· rfl)) | (refine m_fa rfl ?_))))
      (refine step_ops ?_); (refine g_yes rfl ?_ ?_; (· first | (first | rfl | assumption | (refine decide_eq_true ?_; first | assumption | omega) | (refine nt ?_; first | assumption | omega) | (simp [*]; done)) | (first | rfl | assumption | (refine decide_eq_false ?_; first | assumption | omega) | (refine nf ?_; first | assumption | omega) | (simp [*]; done))); (apply m_call (l1In_spec b 0 1))); (· repeat (first | exact lends_nil | (refine lends_cons ?_ ?_; (· exact lend_v))))
      repeat (first | (refine step_ops ?_; (first | (refine m_mov (by conv => lhs; whnf) ?_) | (refine m_pick_t rfl ?_ (by conv => lhs; whnf) ?_; (· first | rfl | assumption | (refine decide_eq_true ?_; first | assumption | omega) | (refine nt ?_; first | assumption | omega) | (simp [*]; done))))) | refine end_ops ?_ | refine AW_ret ?_ | refine ret_done ?_ | refine ret_then ?_ | refine ret_block ?_)
      exact outs_b rfl
    · have hd : decide ((0 ≤ a ∧ a ≤ g - 1) ∧ (0 ≤ b ∧ b ≤ 1)) = false := by simp [ha]
      rw [hd]
      have hc := l1In_spec a 0 (g - 1)
      rw [decide_eq_false ha] at hc
      repeat (first | (refine step_ops ?_; (first | (refine m_mov (by conv => lhs; whnf) ?_) | (refine m_eql rfl rfl ?_) | (refine m_sub rfl rfl ?_ ?_ ?_; (· omega); (· omega)) | (apply m_ld_pt; (· rfl); (· rfl); (· rfl)) | (refine m_fa rfl ?_))) | refine end_ops ?_ | refine seq_ops ?_ | refine AW_ops ?_ | (refine cond_t rfl ?_ ?_; (· first | rfl | assumption | (refine decide_eq_true ?_; first | assumption | omega) | (refine nt ?_; first | assumption | omega) | (simp [*]; done))) | (refine cond_f rfl ?_ ?_; (· first | rfl | assumption | (refine decide_eq_false ?_; first | assumption | omega) | (refine nf ?_; first | assumption | omega) | (simp [*]; done))) | refine AW_seq ?_ | refine norm_then ?_ | refine AW_block ?_)
      (refine step_ops ?_); (apply m_call (hc)); (· repeat (first | exact lends_nil | (refine lends_cons ?_ ?_; (· exact lend_v))))
      repeat (first | (refine step_ops ?_; (first | (first | (refine m_mov (by conv => lhs; whnf) ?_) | (refine m_pick_f rfl ?_ (by conv => lhs; whnf) ?_; (· first | rfl | assumption | (refine decide_eq_false ?_; first | assumption | omega) | (refine nf ?_; first | assumption | omega) | (simp [*]; done)))) | (refine g_noT rfl ?_ ?_; (· first | rfl | assumption | (refine decide_eq_false ?_; first | assumption | omega) | (refine nf ?_; first | assumption | omega) | (simp [*]; done))))) | refine end_ops ?_ | refine AW_ret ?_ | refine ret_done ?_ | refine ret_then ?_ | refine ret_block ?_)
      exact outs_b rfl
  by_cases h5 : k = 5
  · have hi : IsClu g (k, a, b) ↔ (1 ≤ a ∧ a ≤ 6) ∧ b = 0 := by
      subst h5; exact isClu_5
    rw [decide_eq_decide.2 hi]
    by_cases ha : (1 ≤ a ∧ a ≤ 6)
    · have hd : decide ((1 ≤ a ∧ a ≤ 6) ∧ b = 0) = decide (b = 0) := by simp [ha]
      rw [hd]
      have hc := l1In_spec a 1 6
      rw [decide_eq_true ha] at hc
      repeat (first | (refine step_ops ?_; (first | (refine m_mov (by conv => lhs; whnf) ?_) | (refine m_eql rfl rfl ?_) | (apply m_ld_pt; (· rfl); (· rfl); (· rfl)) | (refine m_fa rfl ?_))) | refine end_ops ?_ | refine seq_ops ?_ | refine AW_ops ?_ | (refine cond_t rfl ?_ ?_; (· first | rfl | assumption | (refine decide_eq_true ?_; first | assumption | omega) | (refine nt ?_; first | assumption | omega) | (simp [*]; done))) | (refine cond_f rfl ?_ ?_; (· first | rfl | assumption | (refine decide_eq_false ?_; first | assumption | omega) | (refine nf ?_; first | assumption | omega) | (simp [*]; done))) | refine AW_seq ?_ | refine norm_then ?_ | refine AW_block ?_)
      (refine step_ops ?_); (apply m_call (hc)); (· repeat (first | exact lends_nil | (refine lends_cons ?_ ?_; (· exact lend_v))))
      repeat (first | (refine step_ops ?_; ((try (refine g_yes rfl ?_ ?_; (· first | rfl | assumption | (refine decide_eq_true ?_; first | assumption | omega) | (refine nt ?_; first | assumption | omega) | (simp [*]; done) | (refine decide_eq_false ?_; first | assumption | omega) | (refine nf ?_; first | assumption | omega)))); (first | (refine m_mov (by conv => lhs; whnf) ?_) | (refine m_eql rfl rfl ?_) | (apply m_ld_pt; (· rfl); (· rfl); (· rfl)) | (refine m_pick_t rfl ?_ (by conv => lhs; whnf) ?_; (· first | rfl | assumption | (refine decide_eq_true ?_; first | assumption | omega) | (refine nt ?_; first | assumption | omega) | (simp [*]; done))) | (refine m_fa rfl ?_)))) | refine end_ops ?_ | refine AW_ret ?_ | refine ret_done ?_ | refine ret_then ?_ | refine ret_block ?_)
      exact outs_b rfl
    · have hd : decide ((1 ≤ a ∧ a ≤ 6) ∧ b = 0) = false := by simp [ha]
      rw [hd]
      have hc := l1In_spec a 1 6
      rw [decide_eq_false ha] at hc
      repeat (first | (refine step_ops ?_; (first | (refine m_mov (by conv => lhs; whnf) ?_) | (refine m_eql rfl rfl ?_) | (apply m_ld_pt; (· rfl); (· rfl); (· rfl)) | (refine m_fa rfl ?_))) | refine end_ops ?_ | refine seq_ops ?_ | refine AW_ops ?_ | (refine cond_t rfl ?_ ?_; (· first | rfl | assumption | (refine decide_eq_true ?_; first | assumption | omega) | (refine nt ?_; first | assumption | omega) | (simp [*]; done))) | (refine cond_f rfl ?_ ?_; (· first | rfl | assumption | (refine decide_eq_false ?_; first | assumption | omega) | (refine nf ?_; first | assumption | omega) | (simp [*]; done))) | refine AW_seq ?_ | refine norm_then ?_ | refine AW_block ?_)
      (refine step_ops ?_); (apply m_call (hc)); (· repeat (first | exact lends_nil | (refine lends_cons ?_ ?_; (· exact lend_v))))
      repeat (first | (refine step_ops ?_; (first | (first | (refine m_mov (by conv => lhs; whnf) ?_) | (refine m_pick_f rfl ?_ (by conv => lhs; whnf) ?_; (· first | rfl | assumption | (refine decide_eq_false ?_; first | assumption | omega) | (refine nf ?_; first | assumption | omega) | (simp [*]; done)))) | (refine g_noT rfl ?_ ?_; (· first | rfl | assumption | (refine decide_eq_false ?_; first | assumption | omega) | (refine nf ?_; first | assumption | omega) | (simp [*]; done))))) | refine end_ops ?_ | refine AW_ret ?_ | refine ret_done ?_ | refine ret_then ?_ | refine ret_block ?_)
      exact outs_b rfl
  rw [decide_eq_false (isClu_no (g := g) (a := a) (b := b) (show ¬ (0 ≤ k ∧ k ≤ 5) by omega))]
  repeat (first | (refine step_ops ?_; (first | (refine m_mov (by conv => lhs; whnf) ?_) | (refine m_eql rfl rfl ?_) | (apply m_ld_pt; (· rfl); (· rfl); (· rfl)) | (refine m_fa rfl ?_))) | refine end_ops ?_ | refine seq_ops ?_ | refine AW_ops ?_ | (refine cond_f rfl ?_ ?_; (· first | rfl | assumption | (refine decide_eq_false ?_; first | assumption | omega) | (refine nf ?_; first | assumption | omega) | (simp [*]; done))) | refine AW_seq ?_ | refine AW_ret ?_ | refine ret_done ?_ | refine norm_then ?_ | refine AW_block ?_ | refine norm_block ?_ | refine AW_skip ?_)
  exact outs_b rfl
theorem m_ldClu {P : Program} {own : Bool} {s : AS} {K : AS → Prop} {d : Option Nat} {x : Opd} {C : List Clu} {k : Nat} {c1 c2 c3 : Int} (h : k < C.length) (e : C.getD k (0, 0, 0) = (c1, c2, c3)) (hx : s.ev x = .rp ((cls C).drop (((k : Nat) : Int).toNat * 3))) (kk : K (s.put d (.agg [.i c1, .i c2, .i c3]))) : aop1 P own ⟨d, .ld (some 3) x, none⟩ s K := by
  rw [Int.toNat_natCast] at hx
  refine m_ldk_rp hx ?_ ?_
  · rw [List.length_drop, cls_len]; omega
  · rw [cls_at h, e]; exact kk
theorem pzGood_spec (g : Int) (C : List Clu) : Sp Tryd.prog 20 [pzl g C] (.b (decide (IsPz g C))) := by
  refine spec_of Tryd.func20 rfl cc20 rfl ?_
  unfold ac20
  by_cases hg : PzN g
  · have hgu := pzGuests_spec g
    rw [decide_eq_true hg] at hgu
    by_cases h6 : C.length ≤ 6
    · repeat (first | (refine step_ops ?_; (first | (refine m_mov (by conv => lhs; whnf) ?_) | (apply m_ld_pt; (· rfl); (· rfl); (· rfl)) | (refine m_fa rfl ?_) | (refine m_box rfl ?_ ?_; (· first | rfl | (simp [cellOk, Value.oneCell']; done))))) | refine end_ops ?_ | refine seq_ops ?_ | refine AW_seq ?_)
      (refine step_ops ?_); (apply m_call (hgu)); (· repeat (first | exact lends_nil | (refine lends_cons ?_ ?_; (· exact lend_v))))
      repeat (first | (refine step_ops ?_; ((try (refine g_yes rfl ?_ ?_; (· first | rfl | assumption | (refine decide_eq_true ?_; first | assumption | omega) | (refine nt ?_; first | assumption | omega) | (simp [*]; done) | (refine decide_eq_false ?_; first | assumption | omega) | (refine nf ?_; first | assumption | omega)))); (first | (refine m_mov (by conv => lhs; whnf) ?_) | (refine m_gtr rfl rfl ?_) | (refine m_not rfl ?_) | (refine m_len_ro rfl ?_) | (apply m_ld_pt; (· rfl); (· rfl); (· rfl)) | (refine m_pick_f rfl ?_ (by conv => lhs; whnf) ?_; (· first | rfl | assumption | (refine decide_eq_false ?_; first | assumption | omega) | (refine nf ?_; first | assumption | omega) | (simp [*]; done))) | (refine m_fa rfl ?_)))) | refine end_ops ?_ | refine seq_ops ?_ | (refine cond_f rfl ?_ ?_; (· first | rfl | assumption | (refine decide_eq_false ?_; first | assumption | omega) | (refine nf ?_; first | assumption | omega) | (simp [*]; done))) | refine skip_then ?_ | refine AW_seq ?_ | refine AW_block ?_)
      refine AW_loop (α := Nat) (fun k => k ≤ C.length ∧ ∀ c ∈ C.take k, IsClu g c) (fun k => st [(1, .pt 1 0), (16, .ro false 3 (cls C) C.length), (17, .i C.length), (18, .i k)] [(1, (true, [.i g, .ro false 3 (cls C) C.length]))]) (fun k => C.length - k) 0 ⟨Nat.zero_le _, by simp⟩ (weak_st ?_ ?_ rfl rfl) ?_
      · (repeat' (first | exact trivial | refine And.intro ?_ ?_)) <;> (first | rfl | skip)
      · (repeat' (first | exact trivial | refine And.intro ?_ ?_)) <;> (first | rfl | skip)
      rintro k ⟨hk, hI⟩
      by_cases h : k < C.length
      · have hsn := take_snoc C k (0, 0, 0) h
        have hmem := getD_memL (d := ((0, 0, 0) : Clu)) h
        rcases hce : C.getD k (0, 0, 0) with ⟨c1, c2, c3⟩
        rw [hce] at hsn hmem
        have hcl := pzClue_spec g c1 c2 c3 hg
        by_cases hc : IsClu g (c1, c2, c3)
        · rw [decide_eq_true hc] at hcl
          repeat (first | (refine step_ops ?_; (first | (refine m_lss rfl rfl ?_) | (refine m_idx_ro rfl rfl ?_ ?_ ?_; (· omega); (· omega)))) | refine end_ops ?_ | refine seq_ops ?_ | (refine cond_t rfl ?_ ?_; (· first | rfl | assumption | (refine decide_eq_true ?_; first | assumption | omega) | (refine nt ?_; first | assumption | omega) | (simp [*]; done))) | refine skip_then ?_ | refine AW_seq ?_ | refine AW_block ?_)
          refine step_ops ?_
          refine m_ldClu h hce rfl ?_
          repeat (first | (refine step_ops ?_; (first | (apply m_ld_pt; (· rfl); (· rfl); (· rfl)) | (refine m_alloc ?_) | (refine m_fa rfl ?_) | (refine m_ldall rfl rfl ?_ ?_; (· first | rfl | (simp; done) | (simp [*]; done))) | (refine m_stall rfl rfl rfl ?_ ?_ ?_ ?_; (· first | rfl | (simp [*]; done)); (· first | rfl | (simp [*]; done)); (· first | rfl | (simp [cellOk, Value.oneCell']; done))))) | refine end_ops ?_ | refine seq_ops ?_)
          (refine step_ops ?_); (apply m_call (hcl)); (· repeat (first | exact lends_nil | (refine lends_cons ?_ ?_; (· (first | exact lend_v | (refine lend_agg ?_; first | rfl | assumption | (simp [plainV]; done)))))))
          repeat (first | (refine step_ops ?_; (first | (refine m_mov (by conv => lhs; whnf) ?_) | (refine m_add rfl rfl ?_ ?_ ?_; (· omega); (· omega)) | (refine m_not rfl ?_))) | refine end_ops ?_ | refine AW_ops ?_ | (refine cond_f rfl ?_ ?_; (· first | rfl | assumption | (refine decide_eq_false ?_; first | assumption | omega) | (refine nf ?_; first | assumption | omega) | (simp [*]; done))) | refine norm_then ?_ | refine norm_block ?_ | refine AW_skip ?_)
          refine next_round (k + 1) ⟨h, fun c hcm => ?_⟩ (weak_st ?_ ?_ rfl rfl) ?_
          · rw [hsn] at hcm
            rcases List.mem_append.1 hcm with hcm | hcm
            · exact hI c hcm
            · rw [List.mem_singleton.1 hcm]; exact hc
          · (repeat' (first | exact trivial | refine And.intro ?_ ?_)) <;> (first | rfl | skip)
          · (repeat' (first | exact trivial | refine And.intro ?_ ?_)) <;> (first | rfl | skip)
          · omega
        · rw [decide_eq_false hc] at hcl
          rw [decide_eq_false (show ¬ IsPz g C from fun hp => hc (hp.2.2 _ hmem))]
          repeat (first | (refine step_ops ?_; (first | (refine m_lss rfl rfl ?_) | (refine m_idx_ro rfl rfl ?_ ?_ ?_; (· omega); (· omega)))) | refine end_ops ?_ | refine seq_ops ?_ | (refine cond_t rfl ?_ ?_; (· first | rfl | assumption | (refine decide_eq_true ?_; first | assumption | omega) | (refine nt ?_; first | assumption | omega) | (simp [*]; done))) | refine skip_then ?_ | refine AW_seq ?_ | refine AW_block ?_)
          refine step_ops ?_
          refine m_ldClu h hce rfl ?_
          repeat (first | (refine step_ops ?_; (first | (apply m_ld_pt; (· rfl); (· rfl); (· rfl)) | (refine m_alloc ?_) | (refine m_fa rfl ?_) | (refine m_ldall rfl rfl ?_ ?_; (· first | rfl | (simp; done) | (simp [*]; done))) | (refine m_stall rfl rfl rfl ?_ ?_ ?_ ?_; (· first | rfl | (simp [*]; done)); (· first | rfl | (simp [*]; done)); (· first | rfl | (simp [cellOk, Value.oneCell']; done))))) | refine end_ops ?_ | refine seq_ops ?_)
          (refine step_ops ?_); (apply m_call (hcl)); (· repeat (first | exact lends_nil | (refine lends_cons ?_ ?_; (· (first | exact lend_v | (refine lend_agg ?_; first | rfl | assumption | (simp [plainV]; done)))))))
          repeat (first | (refine step_ops ?_; (first | (refine m_mov (by conv => lhs; whnf) ?_) | (refine m_not rfl ?_))) | refine end_ops ?_ | refine seq_ops ?_ | (refine cond_t rfl ?_ ?_; (· first | rfl | assumption | (refine decide_eq_true ?_; first | assumption | omega) | (refine nt ?_; first | assumption | omega) | (simp [*]; done))) | refine AW_ret ?_ | refine ret_done ?_ | refine ret_then ?_ | refine ret_block ?_ | refine ret_round ?_)
          exact outs_b rfl
      · obtain rfl : k = C.length := by omega
        rw [List.take_length] at hI
        rw [decide_eq_true (show IsPz g C from ⟨hg, h6, hI⟩)]
        repeat (first | (refine step_ops ?_; (first | (refine m_mov (by conv => lhs; whnf) ?_) | (refine m_lss rfl rfl ?_))) | refine end_ops ?_ | refine seq_ops ?_ | (refine cond_f rfl ?_ ?_; (· first | rfl | assumption | (refine decide_eq_false ?_; first | assumption | omega) | (refine nf ?_; first | assumption | omega) | (simp [*]; done))) | refine AW_seq ?_ | refine AW_ret ?_ | refine ret_done ?_ | refine norm_then ?_ | refine exit_then ?_ | refine exit_round ?_ | refine AW_exit ?_ | refine exit_block ?_)
        exact outs_b rfl
    · rw [decide_eq_false (show ¬ IsPz g C from fun h => h6 h.2.1)]
      repeat (first | (refine step_ops ?_; (first | (refine m_mov (by conv => lhs; whnf) ?_) | (apply m_ld_pt; (· rfl); (· rfl); (· rfl)) | (refine m_fa rfl ?_) | (refine m_box rfl ?_ ?_; (· first | rfl | (simp [cellOk, Value.oneCell']; done))))) | refine end_ops ?_ | refine seq_ops ?_ | refine AW_seq ?_)
      (refine step_ops ?_); (apply m_call (hgu)); (· repeat (first | exact lends_nil | (refine lends_cons ?_ ?_; (· exact lend_v))))
      repeat (first | (refine step_ops ?_; ((try (refine g_yes rfl ?_ ?_; (· first | rfl | assumption | (refine decide_eq_true ?_; first | assumption | omega) | (refine nt ?_; first | assumption | omega) | (simp [*]; done) | (refine decide_eq_false ?_; first | assumption | omega) | (refine nf ?_; first | assumption | omega)))); (first | (refine m_mov (by conv => lhs; whnf) ?_) | (refine m_gtr rfl rfl ?_) | (refine m_not rfl ?_) | (refine m_len_ro rfl ?_) | (apply m_ld_pt; (· rfl); (· rfl); (· rfl)) | (refine m_pick_f rfl ?_ (by conv => lhs; whnf) ?_; (· first | rfl | assumption | (refine decide_eq_false ?_; first | assumption | omega) | (refine nf ?_; first | assumption | omega) | (simp [*]; done))) | (refine m_fa rfl ?_)))) | refine end_ops ?_ | refine seq_ops ?_ | (refine cond_t rfl ?_ ?_; (· first | rfl | assumption | (refine decide_eq_true ?_; first | assumption | omega) | (refine nt ?_; first | assumption | omega) | (simp [*]; done))) | refine AW_ret ?_ | refine ret_done ?_ | refine ret_then ?_)
      exact outs_b rfl
  · have hgu := pzGuests_spec g
    rw [decide_eq_false hg] at hgu
    rw [decide_eq_false (show ¬ IsPz g C from fun h => hg h.1)]
    repeat (first | (refine step_ops ?_; (first | (refine m_mov (by conv => lhs; whnf) ?_) | (apply m_ld_pt; (· rfl); (· rfl); (· rfl)) | (refine m_fa rfl ?_) | (refine m_box rfl ?_ ?_; (· first | rfl | (simp [cellOk, Value.oneCell']; done))))) | refine end_ops ?_ | refine seq_ops ?_ | refine AW_seq ?_)
    (refine step_ops ?_); (apply m_call (hgu)); (· repeat (first | exact lends_nil | (refine lends_cons ?_ ?_; (· exact lend_v))))
    repeat (first | (refine step_ops ?_; (first | (first | (refine m_mov (by conv => lhs; whnf) ?_) | (refine m_not rfl ?_) | (refine m_pick_t rfl ?_ (by conv => lhs; whnf) ?_; (· first | rfl | assumption | (refine decide_eq_true ?_; first | assumption | omega) | (refine nt ?_; first | assumption | omega) | (simp [*]; done)))) | (refine g_noF rfl ?_ ?_; (· first | rfl | assumption | (refine decide_eq_true ?_; first | assumption | omega) | (refine nt ?_; first | assumption | omega) | (simp [*]; done))))) | refine end_ops ?_ | refine seq_ops ?_ | (refine cond_t rfl ?_ ?_; (· first | rfl | assumption | (refine decide_eq_true ?_; first | assumption | omega) | (refine nt ?_; first | assumption | omega) | (simp [*]; done))) | refine AW_ret ?_ | refine ret_done ?_ | refine ret_then ?_)
    exact outs_b rfl
end Go.Proofs.YtjgcmbihbeokeaaDoor
namespace Go.Am
def cap : Nat → Int
  | 0 => 479001600
  | s + 1 => 2 * cap s
end Go.Am
namespace Go.Am
/-- How many numbers below n are told. -/
def cnt (p : Nat → Bool) : Nat → Nat
  | 0 => 0
  | n + 1 => cnt p n + if p n then 1 else 0
theorem cnt_congr {p q : Nat → Bool} {n : Nat} (h : ∀ k < n, p k = q k) : cnt p n = cnt q n := by
  induction n with
  | zero => rfl
  | succ n ih => simp only [cnt]; rw [ih fun k hk => h k (by omega), h n (by omega)]
theorem cnt_drop {p q : Nat → Bool} {n c : Nat} (hc : c < n) (hp : p c = true) (hq : q c = false) (h : ∀ k < n, k ≠ c → p k = q k) : cnt q n + 1 = cnt p n := by
  induction n with
  | zero => omega
  | succ n ih =>
    simp only [cnt]
    by_cases e : c = n
    · subst e
      rw [hp, hq, cnt_congr (p := q) (q := p) fun k hk => (h k (by omega) (by omega)).symm]
      simp
    · have := ih (by omega) fun k hk hkc => h k (by omega) hkc
      rw [h n (by omega) (by omega)]
      omega
/-- How many of the numbers a, a + 1, .., k of them, are not in a list. -/
def freeTo (M : List Int) (a k : Nat) : Nat := cnt (fun n => decide (((a + n : Nat) : Int) ∉ M)) k
theorem freeTo_in (M : List Int) (a k x : Nat) (h : a ≤ x) (h2 : x < a + k) (hx : (x : Int) ∉ M) : freeTo (M ++ [(x : Int)]) a k + 1 = freeTo M a k := by
  refine cnt_drop (c := x - a) (by omega) ?_ ?_ fun n hn hne => ?_
  · have e : a + (x - a) = x := by omega
    rw [e]; exact decide_eq_true hx
  · have e : a + (x - a) = x := by omega
    rw [e]; refine decide_eq_false ?_; simp
  · have : ¬ ((a + n : Nat) : Int) = (x : Int) := by omega
    simp only [List.mem_append, List.mem_singleton, this, or_false]
/-- Numbers below g, each once. -/
def Part (M : List Int) (g : Nat) : Prop := (∀ x ∈ M, 0 ≤ x ∧ x < g) ∧ M.Nodup
theorem freeTo_part (M : List Int) (g : Nat) (h : Part M g) : freeTo M 0 g + M.length = g := by
  suffices hh : ∀ (n : Nat) (M : List Int), M.length = n → Part M g → freeTo M 0 g + M.length = g from hh _ M rfl h
  intro n
  induction n with
  | zero =>
    intro M hM _
    have : M = [] := List.eq_nil_of_length_eq_zero hM
    subst this
    have : freeTo [] 0 g = g := by
      unfold freeTo
      clear h
      induction g with
      | zero => rfl
      | succ g ih => simp only [cnt]; rw [ih ⟨by simp, by simp⟩]; simp
    simp [this]
  | succ n ih =>
    intro M hM hp
    have hne : M ≠ [] := fun e => by rw [e] at hM; simp at hM
    have e := List.dropLast_concat_getLast hne
    have hg := hp.1 _ (List.getLast_mem hne)
    obtain ⟨x, hx⟩ := Int.eq_ofNat_of_zero_le hg.1
    rw [hx] at e hg
    have hl : M.dropLast.length = n := by simp [hM]
    have hnd : (M.dropLast ++ [(x : Int)]).Nodup := by rw [e]; exact hp.2
    have hxn : (x : Int) ∉ M.dropLast := by
      rw [List.nodup_append] at hnd
      exact fun hm => hnd.2.2 _ hm _ (List.mem_singleton.2 rfl) rfl
    have hp' : Part M.dropLast g := ⟨fun y hy => hp.1 y (List.dropLast_subset _ hy), (List.nodup_append.1 hnd).1⟩
    have h1 := ih M.dropLast hl hp'
    have h2 := freeTo_in M.dropLast 0 g x (by omega) (by omega) hxn
    rw [e] at h2
    omega
/-- May the guest i behind those of M take x? -/
def MayTake (M : List Int) (i x : Nat) : Prop := x ≠ i ∧ (x : Int) ∉ M
instance (M : List Int) (i x : Nat) : Decidable (MayTake M i x) := inferInstanceAs (Decidable (_ ∧ _))
end Go.Am
namespace Go.Am
/-- A list with each number below its length once. -/
def IsPm (L : List Int) : Prop := (∀ x ∈ L, 0 ≤ x ∧ x < L.length) ∧ L.Nodup
/-- The next one, and the one behind k steps. -/
def nx (L : List Int) (j : Nat) : Nat := (L.getD j 0).toNat
def it (L : List Int) : Nat → Nat → Nat
  | 0, i => i
  | k + 1, i => nx L (it L k i)
theorem nx_lt {L : List Int} (h : IsPm L) {j : Nat} (hj : j < L.length) : nx L j < L.length ∧ L.getD j 0 = (nx L j : Int) := by
  have h1 : L.getD j 0 ∈ L := by simp [hj]
  have := h.1 _ h1
  unfold nx
  omega
theorem nx_inj {L : List Int} (h : IsPm L) {i j : Nat} (hi : i < L.length) (hj : j < L.length) (e : nx L i = nx L j) : i = j := by
  have h1 := (nx_lt h hi).2
  have h2 := (nx_lt h hj).2
  rw [e, ← h2] at h1
  have e1 : L[i]? = L[j]? := by
    rw [List.getElem?_eq_getElem hi, List.getElem?_eq_getElem hj]
    simpa [hi, hj] using h1
  exact (List.getElem?_inj hi h.2).1 e1
theorem it_lt {L : List Int} (h : IsPm L) {i : Nat} (hi : i < L.length) (k : Nat) : it L k i < L.length := by
  induction k with
  | zero => exact hi
  | succ k ih => exact (nx_lt h ih).1
theorem it_add (L : List Int) (a b i : Nat) : it L (a + b) i = it L a (it L b i) := by
  induction a with
  | zero => rw [Nat.zero_add]; rfl
  | succ a ih => rw [Nat.succ_add]; simp only [it]; rw [ih]
theorem it_inj {L : List Int} (h : IsPm L) (a : Nat) {i j : Nat} (hi : i < L.length) (hj : j < L.length) (e : it L a i = it L a j) : i = j := by
  induction a with
  | zero => exact e
  | succ a ih => exact ih (nx_inj h (it_lt h hi a) (it_lt h hj a) e)
/-- The length of the chain. -/
def perA (L : List Int) (i : Nat) : Nat → Nat → Nat
  | 0, k => k
  | f + 1, k => if it L k i = i then k else perA L i f (k + 1)
def per (L : List Int) (i : Nat) : Nat := perA L i L.length 1
theorem perA_spec {L : List Int} {i : Nat} {f k m : Nat} (hm : m = k + f) (hex : ∃ q, k ≤ q ∧ q < m ∧ it L q i = i) : (∀ q, k ≤ q → q < perA L i f k → it L q i ≠ i) ∧ it L (perA L i f k) i = i ∧ k ≤ perA L i f k ∧ perA L i f k < m := by
  induction f generalizing k with
  | zero => obtain ⟨q, h1, h2, _⟩ := hex; omega
  | succ f ih =>
    simp only [perA]
    by_cases e : it L k i = i
    · rw [if_pos e]
      exact ⟨fun q h1 h2 => by omega, e, Nat.le_refl _, by omega⟩
    · rw [if_neg e]
      obtain ⟨q, h1, h2, h3⟩ := hex
      have hq : k + 1 ≤ q := by
        rcases Nat.lt_or_ge k q with h4 | h4
        · exact h4
        · have : q = k := by omega
          rw [this] at h3; exact absurd h3 e
      obtain ⟨h4, h5, h6, h7⟩ := ih (k := k + 1) (by omega) ⟨q, hq, h2, h3⟩
      refine ⟨fun q h8 h9 => ?_, h5, by omega, h7⟩
      rcases Nat.lt_or_ge k q with h10 | h10
      · exact h4 q (by omega) h9
      · have : q = k := by omega
        rw [this]; exact e
theorem per_ex {L : List Int} (h : IsPm L) {i : Nat} (hi : i < L.length) : ∃ q, 1 ≤ q ∧ q < 1 + L.length ∧ it L q i = i := by
  refine Classical.byContradiction fun hno => ?_
  have hne : ∀ q, 1 ≤ q → q < 1 + L.length → it L q i ≠ i := fun q h1 h2 h3 => hno ⟨q, h1, h2, h3⟩
  have hdist : ∀ a b, a < b → b ≤ L.length → it L a i ≠ it L b i := by
    intro a b hab hb e
    have e2 : b = a + (b - a) := by omega
    rw [e2, it_add] at e
    exact hne (b - a) (by omega) (by omega) (it_inj h a hi (it_lt h hi _) e).symm
  have hpart : Part ((List.range (L.length + 1)).map fun k => ((it L k i : Nat) : Int)) L.length := by
    refine ⟨fun x hx => ?_, ?_⟩
    · rw [List.mem_map] at hx
      obtain ⟨k, _, rfl⟩ := hx
      have := it_lt h hi k
      omega
    · rw [List.Nodup, List.pairwise_map]
      refine List.Pairwise.imp_of_mem ?_ (List.pairwise_lt_range (n := L.length + 1))
      intro a b ha hb hab e
      rw [List.mem_range] at hb
      exact hdist a b hab (by omega) (by omega)
  have := freeTo_part _ _ hpart
  simp at this
  omega
theorem per_spec {L : List Int} (h : IsPm L) {i : Nat} (hi : i < L.length) : 1 ≤ per L i ∧ per L i ≤ L.length ∧ it L (per L i) i = i ∧ ∀ q, 1 ≤ q → q < per L i → it L q i ≠ i := by
  obtain ⟨h1, h2, h3, h4⟩ := perA_spec (f := L.length) (k := 1) rfl (per_ex h hi)
  exact ⟨h3, by unfold per; omega, h2, h1⟩
theorem it_mul {L : List Int} (h : IsPm L) {i : Nat} (hi : i < L.length) (c : Nat) : it L (per L i * c) i = i := by
  induction c with
  | zero => rfl
  | succ c ih => rw [Nat.mul_succ, it_add, (per_spec h hi).2.2.1, ih]
theorem it_mod {L : List Int} (h : IsPm L) {i : Nat} (hi : i < L.length) (k : Nat) : it L k i = it L (k % per L i) i := by
  have := it_mul h hi (k / per L i)
  conv => lhs; rw [← Nat.mod_add_div k (per L i), it_add, this]
/-- Is j on the chain of m? -/
def onC (L : List Int) (m j : Nat) : Prop := ∃ k, it L k m = j
theorem onC_lt {L : List Int} (h : IsPm L) {m j : Nat} (hm : m < L.length) : onC L m j ↔ ∃ k, k < per L m ∧ it L k m = j := by
  constructor
  · rintro ⟨k, hk⟩
    exact ⟨k % per L m, Nat.mod_lt _ (per_spec h hm).1, by rw [← it_mod h hm]; exact hk⟩
  · rintro ⟨k, _, hk⟩
    exact ⟨k, hk⟩
theorem onC_trans {L : List Int} {a b c : Nat} (h1 : onC L a b) (h2 : onC L b c) : onC L a c := by
  obtain ⟨k, rfl⟩ := h1
  obtain ⟨l, rfl⟩ := h2
  exact ⟨l + k, it_add L l k a⟩
/-- Is j on a chain of one of the first i? -/
def seenB (L : List Int) (i j : Nat) : Bool := (List.range i).any fun m => (List.range L.length).any fun k => it L k m == j
theorem seenB_iff {L : List Int} (h : IsPm L) {i j : Nat} (hi : i ≤ L.length) : seenB L i j = true ↔ ∃ m, m < i ∧ onC L m j := by
  unfold seenB
  simp only [List.any_eq_true, List.mem_range, beq_iff_eq]
  constructor
  · rintro ⟨m, hm, k, _, hk⟩
    exact ⟨m, hm, k, hk⟩
  · rintro ⟨m, hm, ho⟩
    obtain ⟨k, hk, he⟩ := (onC_lt h (by omega)).1 ho
    exact ⟨m, hm, k, by have := (per_spec h (show m < L.length by omega)).2.1; omega, he⟩
/-- The first k of a chain, asx numbers. -/
def chT (L : List Int) (i k : Nat) : List Int := (List.range k).map fun a => ((it L a i : Nat) : Int)
theorem chT_len (L : List Int) (i k : Nat) : (chT L i k).length = k := by simp [chT]
theorem chT_succ (L : List Int) (i k : Nat) : chT L i (k + 1) = chT L i k ++ [((it L k i : Nat) : Int)] := by simp [chT, List.range_succ]
/-- The whole chain. -/
def chn (L : List Int) (i : Nat) : List Int := chT L i (per L i)
/-- The chains that begin with one of the first i. -/
def chsTo (L : List Int) : Nat → List (List Int)
  | 0 => []
  | i + 1 => if seenB L i i then chsTo L i else chsTo L i ++ [chn L i]
def chs (L : List Int) : List (List Int) := chsTo L L.length
/-- Marked: all on chains of the first i, and the first k on the chain of i. -/
def seenK (L : List Int) (i k n : Nat) : List Bool := (List.range n).map fun j => seenB L i j || (List.range k).any fun a => it L a i == j
theorem seenK_len (L : List Int) (i k n : Nat) : (seenK L i k n).length = n := by simp [seenK]
theorem seenK_get (L : List Int) (i k n : Nat) {j : Nat} (hj : j < n) : (seenK L i k n)[j]? = some (seenB L i j || (List.range k).any fun a => it L a i == j) := by simp [seenK, hj]
theorem seenK_set (L : List Int) (i k n : Nat) (h : it L k i < n) : (seenK L i k n).set (it L k i) true = seenK L i (k + 1) n := by
  apply List.ext_getElem?
  intro j
  rw [List.getElem?_set]
  by_cases hj : j < n
  · rw [seenK_get _ _ _ _ hj, seenK_get _ _ _ _ hj, seenK_len, List.range_succ, List.any_append]
    by_cases e : it L k i = j
    · subst e; simp [h]
    · have e' : (it L k i == j) = false := by simpa using e
      simp [e, e']
  · by_cases e : it L k i = j
    · omega
    · simp [seenK, hj, e]
theorem seenK_zero (L : List Int) (i n : Nat) : seenK L i 0 n = (List.range n).map fun j => seenB L i j := by simp [seenK]
theorem seenK_all {L : List Int} (h : IsPm L) {i n : Nat} (hi : i < L.length) : seenK L i (per L i) n = seenK L (i + 1) 0 n := by
  rw [seenK_zero]
  unfold seenK
  refine List.map_congr_left fun j _ => ?_
  rw [Bool.eq_iff_iff, Bool.or_eq_true, seenB_iff h (by omega), seenB_iff h (by omega)]
  simp only [List.any_eq_true, List.mem_range, beq_iff_eq]
  rw [← onC_lt h hi]
  constructor
  · rintro (⟨m, h1, h2⟩ | h1)
    · exact ⟨m, by omega, h2⟩
    · exact ⟨i, by omega, h1⟩
  · rintro ⟨m, h1, h2⟩
    by_cases e : m = i
    · exact .inr (e ▸ h2)
    · exact .inl ⟨m, by omega, h2⟩
theorem seenK_skip {L : List Int} (h : IsPm L) {i n : Nat} (hi : i < L.length) (hs : seenB L i i = true) : seenK L i 0 n = seenK L (i + 1) 0 n := by
  rw [seenK_zero, seenK_zero]
  refine List.map_congr_left fun j _ => ?_
  rw [Bool.eq_iff_iff, seenB_iff h (by omega), seenB_iff h (by omega)]
  obtain ⟨m, h1, h2⟩ := (seenB_iff h (by omega)).1 hs
  constructor
  · rintro ⟨m, h1, h2⟩
    exact ⟨m, by omega, h2⟩
  · rintro ⟨q, h3, h4⟩
    by_cases e : q = i
    · exact ⟨m, h1, onC_trans h2 (e ▸ h4)⟩
    · exact ⟨q, by omega, h4⟩
end Go.Am
namespace Go.Proofs.YtjgcmbihbeokeaaDoor
open Go.Am
attribute [local irreducible] AW Outs Weak Lends Lend Sp aops atree aop1 Then Round InBlock Done
attribute [local irreducible] SpH DoneH
theorem ex_pm {L : List Int} (h : IsEx L) : IsPm L := ⟨h.2.2.1, h.2.2.2⟩
end Go.Proofs.YtjgcmbihbeokeaaDoor
namespace Go.Proofs.YtjgcmbihbeokeaaDoor
open Go.Am
attribute [local irreducible] AW Outs Weak Lends Lend Sp aops atree aop1 Then Round InBlock Done
/-- Those of the first k guests who have their own coats. -/
def ownList (L : List Int) (k : Nat) : List Int := ((List.range k).filter fun (i : Nat) => decide (L.getD i 0 = i)).map fun (i : Nat) => (i : Int)
theorem ownList_yes {L : List Int} {k : Nat} (h : L.getD k 0 = k) : ownList L (k + 1) = ownList L k ++ [(k : Int)] := by
  unfold ownList; rw [List.range_succ, List.filter_append, List.map_append, List.filter_cons_of_pos (p := fun (i : Nat) => decide (L.getD i 0 = (i : Int))) (a := k) (decide_eq_true h)]; rfl
theorem ownList_no {L : List Int} {k : Nat} (h : ¬ L.getD k 0 = k) : ownList L (k + 1) = ownList L k := by
  unfold ownList; rw [List.range_succ, List.filter_append, List.map_append, List.filter_cons_of_neg (p := fun (i : Nat) => decide (L.getD i 0 = (i : Int))) (a := k) (fun e => h (of_decide_eq_true e))]; simp
end Go.Proofs.YtjgcmbihbeokeaaDoor
namespace Go.Proofs.YtjgcmbihbeokeaaDoor
open Go.Am
attribute [local irreducible] AW Outs Weak Lends Lend Sp aops atree aop1 Then Round InBlock Done
/-- Those behind the first one, each with the coat. -/
def othR (L : List Int) (i k : Nat) : List (List Int) := (List.range k).map fun a => [((it L (a + 1) i : Nat) : Int), ((it L (a + 2) i : Nat) : Int)]
def oth (L : List Int) (i k : Nat) : List Int := (othR L i k).flatten
theorem othR_row (L : List Int) (i k : Nat) : ∀ r ∈ othR L i k, r.length = 2 := by
  intro r hr
  simp only [othR, List.mem_map] at hr
  obtain ⟨a, _, rfl⟩ := hr
  rfl
theorem oth_len (L : List Int) (i k : Nat) : (oth L i k).length = k * 2 := by
  rw [oth, flat_len _ 2 (othR_row L i k)]; simp [othR]
theorem oth_succ (L : List Int) (i k : Nat) : oth L i (k + 1) = oth L i k ++ [((it L (k + 1) i : Nat) : Int), ((it L (k + 2) i : Nat) : Int)] := by
  simp [oth, othR, List.range_succ]
theorem oth_at (L : List Int) (i k j : Nat) (h : j < k) : (((oth L i k).map AV.i).drop (j * 2)).take 2 = [.i ((it L (j + 1) i : Nat) : Int), .i ((it L (j + 2) i : Nat) : Int)] := by
  rw [← List.map_drop, ← List.map_take, oth, drop_flat _ 2 j (othR_row L i k) (by simpa [othR] using h)]
  simp [othR, h]
set_option maxRecDepth 8000 in
theorem guestOf_spec (L : List Int) (j : Nat) (hp : IsPm L) (hj : j < L.length) : Sp Tryd.prog 120 [ints L, .i j] (.agg [.i j, .i (nx L j : Nat)]) := by
  have hnx := (nx_lt hp hj).2
  refine specC_of Tryd.func120 rfl cc120 (by rfl) ?_
  unfold ac120
  repeat (first | (refine step_ops ?_; (first | (refine m_mov (by conv => lhs; whnf) ?_) | (refine m_idx1_ro rfl rfl ?_ ?_; (· omega)) | (refine m_ld_rpi rfl ?_ ?_; (· omega)) | (refine m_alloc ?_) | (refine m_bld_2 (by conv => lhs; whnf) (by conv => lhs; whnf) (by decide)  (by decide) (by rfl) (by rfl) ?_) | (refine m_stall rfl rfl rfl ?_ ?_ ?_ ?_; (· first | rfl | (simp [*]; done)); (· first | rfl | (simp [*]; done)); (· first | rfl | (simp [cellOk, Value.oneCell']; done))))) | refine end_ops ?_ | refine seq_ops ?_ | refine AW_ret ?_)
  rw [hnx]
  skip
  refine ret_donec rfl rfl rfl (outs_agg rfl)
/-- A chain asx a struct. -/
def chnV (fr : Bool) (L : List Int) (i : Nat) : List AV := [.i i, .i (nx L i : Nat), .ro fr 2 ((oth L i (per L i - 1)).map AV.i) (per L i - 1)]
set_option maxRecDepth 8000 in
theorem chainFrom_spec (L : List Int) (i : Nat) (h : IsEx L) (hi : i < L.length) : Sp Tryd.prog 115 [ints L, .i i] (.agg (chnV true L i)) := by
  have hp := ex_pm h
  have h12 := h.2.1
  have hper := per_spec hp hi
  have hlt := it_lt hp hi
  refine specC_of Tryd.func115 rfl cc115 (by rfl) ?_
  unfold ac115
  repeat (first | (refine step_ops ?_; (first | (refine m_mov (by conv => lhs; whnf) ?_) | (refine m_alloc ?_))) | refine end_ops ?_ | refine seq_ops ?_)
  (refine step_ops ?_); (apply m_call (guestOf_spec L i hp hi)); (· repeat (first | exact lends_nil | (refine lends_cons ?_ ?_; (· (first | exact lend_v | (refine lend_ints ?_; first | rfl | omega))))))
  skip
  refine step_ops ?_
  refine m_bld (out := [.i i, .i (nx L i : Nat), .v (.slice none 0 0)]) ?_ ?_
  · exact .inr ⟨[.i i, .i (nx L i : Nat)], rfl, rfl, by decide, rfl⟩
  repeat (first | (refine step_ops ?_; (first | (refine m_mov (by conv => lhs; whnf) ?_) | (apply m_ld_pt; (· rfl); (· rfl); (· rfl)) | (refine m_alloc ?_) | (refine m_fa rfl ?_) | (refine m_stall rfl rfl rfl ?_ ?_ ?_ ?_; (· first | rfl | (simp [*]; done)); (· first | rfl | (simp [*]; done)); (· first | rfl | (simp [cellOk, Value.oneCell']; done))))) | refine end_ops ?_ | refine seq_ops ?_ | refine AW_seq ?_)
  (refine step_ops ?_); (apply m_call (guestOf_spec L (nx L i) hp (hlt 1))); (· repeat (first | exact lends_nil | (refine lends_cons ?_ ?_; (· (first | exact lend_v | (refine lend_ints ?_; first | rfl | omega))))))
  repeat (first | (refine step_ops ?_; (first | (refine m_alloc ?_) | (refine m_stall rfl rfl rfl ?_ ?_ ?_ ?_; (· first | rfl | (simp [*]; done)); (· first | rfl | (simp [*]; done)); (· first | rfl | (simp [cellOk, Value.oneCell']; done))))) | refine end_ops ?_ | refine AW_block ?_)
  refine AW_weak (Weak.trans (weak_deep (r := 4) rfl (by simp) rfl) (weak_nilcell 5 28 2 2 rfl rfl (by decide) rfl rfl)) ?_
  refine AW_loop (α := Nat) (fun k => k + 1 ≤ per L i) (fun k => st [(0, ints L), (4, .pt 4 0), (5, .pt 5 0), (6, .pt 6 0)] [(4, (false, [.i 0, .i 0, .v (.slice none 0 0)])), (5, (false, [.i i, .i (nx L i : Nat), .sl 28 2 0 k])), (6, (true, [.i (it L (k + 1) i : Nat), .i (it L (k + 2) i : Nat)])), (28, (true, (oth L i k).map AV.i))]) (fun k => per L i - k) 0 (by omega) (weak_st ?_ ?_ rfl rfl) ?_
  · (repeat' (first | exact trivial | refine And.intro ?_ ?_)) <;> (first | rfl | skip)
  · (repeat' (first | exact trivial | refine And.intro ?_ ?_)) <;> (first | rfl | skip)
  intro k hk
  have hol := oth_len L i k
  have hle := hper.2.1
  by_cases hc : it L (k + 1) i = i
  · have hkp : k + 1 = per L i := by
      rcases Nat.lt_or_ge (k + 1) (per L i) with h1 | h1
      · exact absurd hc (hper.2.2.2 (k + 1) (by omega) h1)
      · omega
    have hc2 : it L (k + 2) i = nx L i := by show nx L (it L (k + 1) i) = _; rw [hc]
    have hE : (true ^^ (decide (((it L (k + 1) i : Nat) : Int) = ((i : Nat) : Int)) && (decide (((it L (k + 2) i : Nat) : Int) = ((nx L i : Nat) : Int)) && true))) = false := by simp [hc, hc2]
    repeat (first | (refine step_ops ?_; (first | (refine m_fa rfl ?_) | (refine m_ldall rfl rfl ?_ ?_; (· first | rfl | (simp; done) | (simp [*]; done))))) | refine seq_ops ?_ | refine AW_seq ?_)
    refine step_ops ?_
    refine m_ldk (off := 0) rfl rfl (Nat.le_of_ble_eq_true rfl) ?_
    repeat (first | (refine step_ops ?_; (first | (refine m_aeq rfl rfl rfl ?_) | (refine m_ldall rfl rfl ?_ ?_; (· first | rfl | (simp; done) | (simp [*]; done))) | (refine m_stall rfl rfl rfl ?_ ?_ ?_ ?_; (· first | rfl | (simp [*]; done)); (· first | rfl | (simp [*]; done)); (· first | rfl | (simp [cellOk, Value.oneCell']; done))))) | refine end_ops ?_ | refine seq_ops ?_ | (refine cond_f rfl ?_ ?_; (· first | rfl | assumption | (refine decide_eq_false ?_; first | assumption | omega) | (refine nf ?_; first | assumption | omega) | (simp [*]; done))) | refine AW_ret ?_ | refine norm_then ?_ | refine exit_then ?_ | refine exit_round ?_ | refine AW_exit ?_ | refine exit_block ?_)
    refine ret_donec rfl rfl rfl ?_
    have ek : per L i - 1 = k := by omega
    unfold chnV
    rw [ek]
    exact outs_agg3 (outs_i rfl) (outs_i rfl) (outs_sl rfl (by rw [List.length_map, hol]) (allv_ints _))
  · have hkp : k + 1 < per L i := by
      rcases Nat.lt_or_ge (k + 1) (per L i) with h1 | h1
      · exact h1
      · have : k + 1 = per L i := by omega
        rw [this] at hc; exact absurd hper.2.2.1 hc
    have hE : (true ^^ (decide (((it L (k + 1) i : Nat) : Int) = ((i : Nat) : Int)) && (decide (((it L (k + 2) i : Nat) : Int) = ((nx L i : Nat) : Int)) && true))) = true := by
      have : ¬ ((it L (k + 1) i : Nat) : Int) = ((i : Nat) : Int) := by omega
      simp [this]
    repeat (first | (refine step_ops ?_; (first | (refine m_fa rfl ?_) | (refine m_ldall rfl rfl ?_ ?_; (· first | rfl | (simp; done) | (simp [*]; done))))) | refine seq_ops ?_ | refine AW_seq ?_)
    refine step_ops ?_
    refine m_ldk (off := 0) rfl rfl (Nat.le_of_ble_eq_true rfl) ?_
    repeat (first | (refine step_ops ?_; (first | (apply m_ld_pt; (· rfl); (· rfl); (· rfl)) | (refine m_fa rfl ?_) | (refine m_aeq rfl rfl rfl ?_) | (refine m_ldall rfl rfl ?_ ?_; (· first | rfl | (simp; done) | (simp [*]; done))))) | refine end_ops ?_ | refine AW_ops ?_ | (refine cond_t rfl ?_ ?_; (· first | rfl | assumption | (refine decide_eq_true ?_; first | assumption | omega) | (refine nt ?_; first | assumption | omega) | (simp [*]; done))) | refine skip_then ?_ | refine AW_seq ?_ | refine AW_block ?_)
    refine step_ops ?_
    refine m_bslz rfl rfl rfl rfl ?_
    refine step_ops ?_
    refine m_appz rfl (by decide) rfl (by rw [List.length_map, hol]) rfl rfl rfl rfl (by omega) (by decide) ?_
    repeat (refine step_ops ?_; (refine m_fa rfl ?_))
    refine step_ops ?_
    refine m_st (v := .sl 28 2 0 (k + 1)) (by rfl) (by rfl) (by rfl) (Nat.le_of_ble_eq_true rfl) rfl ?_
    repeat (first | (refine step_ops ?_; (first | (refine m_mov (by conv => lhs; whnf) ?_) | (apply m_ld_pt; (· rfl); (· rfl); (· rfl)) | (refine m_alloc ?_) | (refine m_fa rfl ?_) | (refine m_ldall rfl rfl ?_ ?_; (· first | rfl | (simp; done) | (simp [*]; done))) | (refine m_stall rfl rfl rfl ?_ ?_ ?_ ?_; (· first | rfl | (simp [*]; done)); (· first | rfl | (simp [*]; done)); (· first | rfl | (simp [cellOk, Value.oneCell']; done))))) | refine end_ops ?_ | refine seq_ops ?_ | refine AW_ops ?_ | refine AW_seq ?_ | refine norm_then ?_ | refine norm_block ?_)
    (refine step_ops ?_); (apply m_call (guestOf_spec L (it L (k + 2) i) hp (hlt _))); (· repeat (first | exact lends_nil | (refine lends_cons ?_ ?_; (· (first | exact lend_v | (refine lend_ints ?_; first | rfl | omega))))))
    repeat (first | (refine step_ops ?_; (refine m_stall rfl rfl rfl ?_ ?_ ?_ ?_; (· first | rfl | (simp [*]; done)); (· first | rfl | (simp [*]; done)); (· first | rfl | (simp [cellOk, Value.oneCell']; done)))) | refine end_ops ?_)
    refine next_round (k + 1) (by omega) (weak_st ?_ ?_ rfl rfl) ?_
    · (repeat' (first | exact trivial | refine And.intro ?_ ?_)) <;> (first | rfl | skip)
    · refine ⟨rfl, rfl, rfl, ?_, trivial⟩
      show some (true, (oth L i k).map AV.i ++ [AV.i ((it L (k + 1) i : Nat) : Int), AV.i ((it L (k + 2) i : Nat) : Int)]) = some (true, (oth L i (k + 1)).map AV.i)
      rw [oth_succ, List.map_append]; rfl
    · omega
theorem length_spec (L : List Int) (i : Nat) (h : IsEx L) (hi : i < L.length) : Sp Tryd.prog 104 [.agg (chnV false L i)] (.i (per L i : Nat)) := by
  have hper := per_spec (ex_pm h) hi
  have h12 := h.2.1
  unfold chnV
  refine spec_of Tryd.func104 rfl cc104 rfl ?_
  unfold ac104
  repeat (first | (refine step_ops ?_; (first | (refine m_mov (by conv => lhs; whnf) ?_) | (refine m_add rfl rfl ?_ ?_ ?_; (· omega); (· omega)) | (refine m_len_ro rfl ?_) | (apply m_ld_pt; (· rfl); (· rfl); (· rfl)) | (refine m_fa rfl ?_) | (refine m_box rfl ?_ ?_; (· first | rfl | (simp [cellOk, Value.oneCell']; done))))) | refine end_ops ?_ | refine seq_ops ?_ | refine AW_ret ?_ | refine ret_done ?_)
  refine outs_i ?_
  omega
theorem numbers_spec (L : List Int) (i : Nat) (h : IsEx L) (hi : i < L.length) : Sp Tryd.prog 116 [.agg (chnV false L i)] (newInts (chn L i)) := by
  have hper := per_spec (ex_pm h) hi
  have h12 := h.2.1
  obtain ⟨p, hpp⟩ : ∃ p, per L i = p + 1 := ⟨per L i - 1, by omega⟩
  unfold chnV chn
  rw [hpp, Nat.add_sub_cancel]
  refine spec_of Tryd.func116 rfl cc116 rfl ?_
  unfold ac116
  repeat (first | (refine step_ops ?_; (first | (refine m_mov (by conv => lhs; whnf) ?_) | (refine m_len_ro rfl ?_) | (apply m_ld_pt; (· rfl); (· rfl); (· rfl)) | (refine m_nils ?_) | (refine m_fa rfl ?_) | (refine m_bsl1 rfl rfl ?_) | (refine m_box rfl ?_ ?_; (· first | rfl | (simp [cellOk, Value.oneCell']; done))))) | refine end_ops ?_ | refine seq_ops ?_ | refine AW_seq ?_ | refine AW_block ?_)
  refine AW_loop (α := Nat) (fun j => j ≤ p) (fun j => st [(3, .sl 9 1 0 (chT L i (j + 1)).length), (11, .ro false 2 ((oth L i p).map AV.i) p), (12, .i p), (13, .i j)] [(9, (true, (chT L i (j + 1)).map AV.i))]) (fun j => p - j) 0 (by omega) (weak_st ?_ ?_ rfl rfl) ?_
  · (repeat' (first | exact trivial | refine And.intro ?_ ?_)) <;> (first | rfl | skip)
  · exact ⟨rfl, trivial⟩
  intro j hj
  have hcl := chT_len L i (j + 1)
  by_cases hc : j < p
  · have hat := oth_at L i p j hc
    have hol := oth_len L i p
    repeat (first | (refine step_ops ?_; (first | (refine m_lss rfl rfl ?_) | (refine m_idx_ro rfl rfl ?_ ?_ ?_; (· omega); (· omega)))) | refine end_ops ?_ | refine seq_ops ?_ | (refine cond_t rfl ?_ ?_; (· first | rfl | assumption | (refine decide_eq_true ?_; first | assumption | omega) | (refine nt ?_; first | assumption | omega) | (simp [*]; done))) | refine skip_then ?_ | refine AW_seq ?_ | refine AW_block ?_)
    refine step_ops ?_
    refine m_ldk_rp rfl (by simp [hol]; omega) ?_
    rw [Int.toNat_natCast, hat]
    repeat (first | (refine step_ops ?_; (first | (refine m_mov (by conv => lhs; whnf) ?_) | (refine m_add rfl rfl ?_ ?_ ?_; (· omega); (· omega)) | (apply m_ld_pt; (· rfl); (· rfl); (· rfl)) | (refine m_alloc ?_) | (refine m_fa rfl ?_) | (refine m_bsl1 rfl rfl ?_) | (refine m_app1i rfl (by decide) (by rfl) (by first | rfl | omega | (simp; done)) rfl rfl ?_ (by decide) ?_; (· first | omega | (simp; omega))) | (refine m_stall rfl rfl rfl ?_ ?_ ?_ ?_; (· first | rfl | (simp [*]; done)); (· first | rfl | (simp [*]; done)); (· first | rfl | (simp [cellOk, Value.oneCell']; done))))) | refine end_ops ?_ | refine AW_ops ?_ | refine norm_then ?_ | refine norm_block ?_)
    refine next_round (j + 1) (by omega) (Weak.trans (weak_move (r := 21) (q := 9) rfl (by decide) (by decide)) (weak_st ?_ ?_ rfl rfl)) ?_
    · rw [chT_succ L i (j + 1)]
      (repeat' (first | exact trivial | refine And.intro ?_ ?_)) <;> (first | rfl | skip)
    · rw [chT_succ L i (j + 1)]
      exact ⟨rfl, trivial⟩
    · omega
  · repeat (first | (refine step_ops ?_; (first | (refine m_mov (by conv => lhs; whnf) ?_) | (refine m_lss rfl rfl ?_))) | refine end_ops ?_ | refine seq_ops ?_ | (refine cond_f rfl ?_ ?_; (· first | rfl | assumption | (refine decide_eq_false ?_; first | assumption | omega) | (refine nf ?_; first | assumption | omega) | (simp [*]; done))) | refine AW_seq ?_ | refine AW_ret ?_ | refine ret_done ?_ | refine norm_then ?_ | refine exit_then ?_ | refine exit_round ?_ | refine AW_exit ?_ | refine exit_block ?_)
    obtain rfl : j = p := by omega
    exact outs_ints rfl rfl rfl
/-- The guests with whom chains begin. -/
def sts (L : List Int) : Nat → List Nat
  | 0 => []
  | i + 1 => if seenB L i i then sts L i else sts L i ++ [i]
theorem sts_lt (L : List Int) (i : Nat) : ∀ j ∈ sts L i, j < i := by
  induction i with
  | zero => intro j hj; simp [sts] at hj
  | succ i ih =>
    intro j hj
    simp only [sts] at hj
    split at hj
    · have := ih j hj; omega
    · rw [List.mem_append, List.mem_singleton] at hj
      rcases hj with hj | rfl
      · have := ih j hj; omega
      · omega
theorem sts_len (L : List Int) (i : Nat) : (sts L i).length ≤ i := by
  induction i with
  | zero => simp [sts]
  | succ i ih =>
    simp only [sts]
    split
    · omega
    · rw [List.length_append, List.length_singleton]; omega
theorem chs_sts (L : List Int) (i : Nat) : chsTo L i = (sts L i).map (chn L) := by
  induction i with
  | zero => rfl
  | succ i ih =>
    simp only [chsTo, sts]
    split
    · exact ih
    · rw [ih, List.map_append]; rfl
def chVs (L : List Int) (S : List Nat) : List (List AV) := S.map (chnV true L)
theorem chVs_row (L : List Int) (S : List Nat) : ∀ r ∈ chVs L S, r.length = 3 := by
  intro r hr
  simp only [chVs, List.mem_map] at hr
  obtain ⟨a, _, rfl⟩ := hr
  rfl
theorem chVs_len (L : List Int) (S : List Nat) : (chVs L S).flatten.length = S.length * 3 := by
  rw [flat_len _ 3 (chVs_row L S)]; simp [chVs]
theorem chVs_new (L : List Int) (S : List Nat) : (chVs L S).flatten.all newV = true := by
  rw [List.all_eq_true]
  intro x hx
  rw [List.mem_flatten] at hx
  obtain ⟨r, hr, hx⟩ := hx
  simp only [chVs, List.mem_map] at hr
  obtain ⟨a, _, rfl⟩ := hr
  simp only [chnV, List.mem_cons, List.not_mem_nil, or_false] at hx
  rcases hx with rfl | rfl | rfl
  · rfl
  · rfl
  · exact allv_ints _
theorem chVs_snoc (L : List Int) (S : List Nat) (i : Nat) : (chVs L (S ++ [i])).flatten = (chVs L S).flatten ++ chnV true L i := by simp [chVs]
theorem chT_get (L : List Int) (i k j : Nat) (h : j < k) : (chT L i k).getD j 0 = ((it L j i : Nat) : Int) := by simp [chT, h]
theorem chainsIn_spec (L : List Int) (h : IsEx L) : Sp Tryd.prog 101 [ints L] (.ro true 3 (chVs L (sts L L.length)).flatten (sts L L.length).length) := by
  have hp := ex_pm h
  have h12 := h.2.1
  refine spec_of Tryd.func101 rfl cc101 rfl ?_
  unfold ac101
  repeat (first | (refine step_ops ?_; (first | (refine m_mov (by conv => lhs; whnf) ?_) | (refine m_len_ro rfl ?_) | (refine m_nils ?_) | (refine m_alloc ?_))) | refine end_ops ?_ | refine seq_ops ?_ | refine AW_seq ?_ | refine AW_block ?_)
  refine AW_loop (α := Nat) (fun i => i ≤ L.length) (fun i => st [(0, ints L), (3, .pt 3 0), (4, .sl 4 3 0 (sts L i).length), (9, ints L), (10, .i L.length), (11, .i i)] [(3, (true, (seenK L i 0 12).map AV.b)), (4, (true, (chVs L (sts L i)).flatten))]) (fun i => L.length - i) 0 (by omega) (weak_st ?_ ?_ rfl rfl) ?_
  · (repeat' (first | exact trivial | refine And.intro ?_ ?_)) <;> (first | rfl | skip)
  · refine ⟨?_, rfl, trivial⟩
    show _ = some (true, (seenK L 0 0 12).map AV.b)
    have : seenK L 0 0 12 = List.replicate 12 false := by simp [seenK, seenB, List.range_succ]
    rw [this]; rfl
  intro i hi
  have hsl := sts_len L i
  have hvl := chVs_len L (sts L i)
  by_cases hc : i < L.length
  · have hget : (seenK L i 0 12)[i]? = some (seenB L i i) := by rw [seenK_get _ _ _ _ (by omega)]; simp
    by_cases hs : seenB L i i = true
    · have e : sts L (i + 1) = sts L i := by simp only [sts, hs, if_true]
      rw [hs] at hget
      repeat (first | (refine step_ops ?_; (first | (refine m_mov (by conv => lhs; whnf) ?_) | (refine m_lss rfl rfl ?_) | (refine m_add rfl rfl ?_ ?_ ?_; (· omega); (· omega)) | (refine m_arr1 rfl rfl ?_ ?_; (· omega)) | (apply m_ld_ptb; (· rfl); (· rfl); (· assumption)))) | refine end_ops ?_ | refine seq_ops ?_ | refine AW_ops ?_ | (refine cond_t rfl ?_ ?_; (· first | rfl | assumption | (refine decide_eq_true ?_; first | assumption | omega) | (refine nt ?_; first | assumption | omega) | (simp [*]; done))) | refine skip_then ?_ | refine AW_seq ?_ | refine norm_then ?_ | refine exit_then ?_ | refine AW_block ?_ | refine AW_exit ?_ | refine exit_block ?_)
      refine next_round (i + 1) (by omega) (weak_st ?_ ?_ rfl rfl) ?_
      · rw [e]
        (repeat' (first | exact trivial | refine And.intro ?_ ?_)) <;> (first | rfl | skip)
      · rw [e, ← seenK_skip hp hc hs]
        (repeat' (first | exact trivial | refine And.intro ?_ ?_)) <;> (first | rfl | skip)
      · omega
    · have hs' : seenB L i i = false := by simpa using hs
      have e : sts L (i + 1) = sts L i ++ [i] := by simp only [sts, hs', Bool.false_eq_true, if_false]
      have hper := per_spec hp hc
      rw [hs'] at hget
      repeat (first | (refine step_ops ?_; (first | (refine m_mov (by conv => lhs; whnf) ?_) | (refine m_lss rfl rfl ?_) | (refine m_arr1 rfl rfl ?_ ?_; (· omega)) | (apply m_ld_ptb; (· rfl); (· rfl); (· assumption)))) | refine end_ops ?_ | refine seq_ops ?_ | (refine cond_t rfl ?_ ?_; (· first | rfl | assumption | (refine decide_eq_true ?_; first | assumption | omega) | (refine nt ?_; first | assumption | omega) | (simp [*]; done))) | (refine cond_f rfl ?_ ?_; (· first | rfl | assumption | (refine decide_eq_false ?_; first | assumption | omega) | (refine nf ?_; first | assumption | omega) | (simp [*]; done))) | refine skip_then ?_ | refine AW_seq ?_ | refine AW_block ?_)
      refine step_ops ?_
      refine m_call (chainFrom_spec L i h hc) ?_ ?_
      · exact lends_cons (lend_ints rfl) (lends_cons lend_v lends_nil)
      repeat (first | (refine step_ops ?_; (first | (refine m_alloc ?_) | (refine m_ldall rfl rfl ?_ ?_; (· first | rfl | (simp; done) | (simp [*]; done))) | (refine m_stall rfl rfl rfl ?_ ?_ ?_ ?_; (· first | rfl | (simp [*]; done)); (· first | rfl | (simp [*]; done)); (· first | rfl | (simp [cellOk, Value.oneCell']; done))))) | refine end_ops ?_ | refine seq_ops ?_ | refine AW_seq ?_)
      refine step_ops ?_
      refine m_call (numbers_spec L i h hc) ?_ ?_
      · exact lends_cons (lend_aggs (lends_cons lend_v (lends_cons lend_v (lends_cons (lend_ro (allv_ints _)) lends_nil)))) lends_nil
      repeat (first | (refine step_ops ?_; (first | (refine m_mov (by conv => lhs; whnf) ?_) | (refine m_len_ro rfl ?_))) | refine end_ops ?_ | refine AW_block ?_)
      refine AW_loop (α := Nat) (fun k => k ≤ per L i) (fun k => st [(0, ints L), (3, .pt 3 0), (4, .sl 4 3 0 (sts L i).length), (6, .pt 6 0), (9, ints L), (10, .i L.length), (11, .i i), (21, newInts (chn L i)), (22, .i (chn L i).length), (23, .i k)] [(3, (true, (seenK L i k 12).map AV.b)), (4, (true, (chVs L (sts L i)).flatten)), (6, (true, chnV true L i))]) (fun k => per L i - k) 0 (by omega) (weak_st ?_ ?_ rfl rfl) ?_
      · (repeat' (first | exact trivial | refine And.intro ?_ ?_)) <;> (first | rfl | skip)
      · (repeat' (first | exact trivial | refine And.intro ?_ ?_)) <;> (first | rfl | skip)
      intro k hk
      have hcl : (chn L i).length = per L i := chT_len L i _
      have hlt := it_lt hp hc k
      by_cases hck : k < per L i
      · have hcg : (chn L i).getD k 0 = ((it L k i : Nat) : Int) := chT_get L i _ k hck
        have hsk := seenK_len L i k 12
        repeat (first | (refine step_ops ?_; (first | (refine m_mov (by conv => lhs; whnf) ?_) | (refine m_lss rfl rfl ?_) | (refine m_add rfl rfl ?_ ?_ ?_; (· omega); (· omega)) | (refine m_idx1_ro rfl rfl ?_ ?_; (· omega)) | (apply m_arr1j; (· rfl); (· rfl); (· assumption); (· omega)) | (refine m_ld_rpi rfl ?_ ?_; (· omega)) | (apply m_st; (· rfl); (· rfl); (· rfl); (· first | omega | (simp; done) | (simp; omega)); (· rfl)))) | refine end_ops ?_ | refine seq_ops ?_ | refine AW_ops ?_ | (refine cond_t rfl ?_ ?_; (· first | rfl | assumption | (refine decide_eq_true ?_; first | assumption | omega) | (refine nt ?_; first | assumption | omega) | (simp [*]; done))) | refine skip_then ?_ | refine AW_seq ?_ | refine norm_then ?_ | refine AW_block ?_ | refine norm_block ?_)
        refine next_round (k + 1) (by omega) (weak_st ?_ ?_ rfl rfl) ?_
        · (repeat' (first | exact trivial | refine And.intro ?_ ?_)) <;> (first | rfl | skip)
        · refine ⟨?_, rfl, rfl, trivial⟩
          show some (true, ((seenK L i k 12).map AV.b).set (it L k i) (AV.b true)) = some (true, (seenK L i (k + 1) 12).map AV.b)
          rw [← seenK_set L i k 12 (by omega), List.map_set]
        · omega
      · obtain rfl : k = per L i := by omega
        repeat (first | (refine step_ops ?_; (first | (refine m_mov (by conv => lhs; whnf) ?_) | (refine m_lss rfl rfl ?_) | (refine m_ldall rfl rfl ?_ ?_; (· first | rfl | (simp; done) | (simp [*]; done))))) | refine end_ops ?_ | refine seq_ops ?_ | refine AW_ops ?_ | (refine cond_f rfl ?_ ?_; (· first | rfl | assumption | (refine decide_eq_false ?_; first | assumption | omega) | (refine nf ?_; first | assumption | omega) | (simp [*]; done))) | refine AW_seq ?_ | refine norm_then ?_ | refine exit_then ?_ | refine exit_round ?_ | refine AW_exit ?_ | refine exit_block ?_)
        refine step_ops ?_
        refine m_bslz (l := chnV true L i) rfl rfl rfl rfl ?_
        refine step_ops ?_
        refine m_appz rfl (by decide) rfl hvl rfl rfl rfl rfl (by omega) (by decide) ?_
        repeat (first | (refine step_ops ?_; (first | (refine m_mov (by conv => lhs; whnf) ?_) | (refine m_add rfl rfl ?_ ?_ ?_; (· omega); (· omega)))) | refine end_ops ?_ | refine AW_ops ?_ | refine norm_then ?_ | refine norm_block ?_)
        refine next_round (i + 1) (by omega) (Weak.trans (weak_move (r := 33) (q := 4) rfl (by decide) (by decide)) (weak_st ?_ ?_ rfl rfl)) ?_
        · rw [e, List.length_append]
          (repeat' (first | exact trivial | refine And.intro ?_ ?_)) <;> (first | rfl | skip)
        · rw [e, ← seenK_all hp hc, chVs_snoc]
          (repeat' (first | exact trivial | refine And.intro ?_ ?_)) <;> (first | rfl | skip)
        · omega
  · repeat (first | (refine step_ops ?_; (first | (refine m_mov (by conv => lhs; whnf) ?_) | (refine m_lss rfl rfl ?_))) | refine end_ops ?_ | refine seq_ops ?_ | (refine cond_f rfl ?_ ?_; (· first | rfl | assumption | (refine decide_eq_false ?_; first | assumption | omega) | (refine nf ?_; first | assumption | omega) | (simp [*]; done))) | refine AW_seq ?_ | refine AW_ret ?_ | refine ret_done ?_ | refine norm_then ?_ | refine exit_then ?_ | refine exit_round ?_ | refine AW_exit ?_ | refine exit_block ?_)
    obtain rfl : i = L.length := by omega
    exact outs_sln rfl hvl (chVs_new _ _)
end Go.Proofs.YtjgcmbihbeokeaaDoor
namespace Go.Proofs.YtjgcmbihbeokeaaDoor
open Go.Am
attribute [local irreducible] AW Outs Weak Lends Lend Sp aops atree aop1 Then Round InBlock Done
attribute [local irreducible] SpH DoneH
/-- The least common multiple, number after number. -/
def lcF : List Nat → Nat → Nat
  | [], a => a
  | b :: l, a => lcF l (a / Nat.gcd a b * b)
theorem lcF_snoc (l : List Nat) (b a : Nat) : lcF (l ++ [b]) a = lcF l a / Nat.gcd (lcF l a) b * b := by
  induction l generalizing a with
  | nil => rfl
  | cons x l ih => simp only [List.cons_append, lcF, ih]
def pers (L : List Int) : List Nat := (sts L L.length).map (per L)
def timesF (L : List Int) : Nat := lcF (pers L) 1
theorem pers_ok {L : List Int} (h : IsEx L) : (pers L).length ≤ 12 ∧ ∀ b ∈ pers L, 1 ≤ b ∧ b ≤ 12 := by
  have hp := ex_pm h
  have h12 := h.2.1
  have := sts_len L L.length
  refine ⟨by unfold pers; rw [List.length_map]; omega, fun b hb => ?_⟩
  unfold pers at hb
  rw [List.mem_map] at hb
  obtain ⟨i, hi, rfl⟩ := hb
  have := per_spec hp (sts_lt L _ i hi)
  omega
theorem eachChainI_spec (L : List Int) (h : IsEx L) : Sp Tryd.prog 103 [ints L, .v (.func (.func 104) #[] #[])] (newInts ((pers L).map fun (p : Nat) => (p : Int))) := by
  have hp := ex_pm h
  have h12 := h.2.1
  have hsl := sts_len L L.length
  unfold pers
  generalize hS : sts L L.length = S at *
  have hlt : ∀ j ∈ S, j < L.length := fun j hj => sts_lt L L.length j (hS ▸ hj)
  rw [List.map_map]
  refine spec_of Tryd.func103 rfl cc103 rfl ?_
  unfold ac103
  repeat (first | (refine step_ops ?_; (first | (refine m_mov (by conv => lhs; whnf) ?_) | (refine m_nils ?_))) | refine end_ops ?_ | refine seq_ops ?_ | refine AW_seq ?_)
  (refine step_ops ?_); (apply m_call (chainsIn_spec L h)); (· repeat (first | exact lends_nil | (refine lends_cons ?_ ?_; (· (refine lend_ints ?_; first | rfl | omega)))))
  rw [hS]
  repeat (first | (refine step_ops ?_; (first | (refine m_mov (by conv => lhs; whnf) ?_) | (refine m_len_ro rfl ?_))) | refine end_ops ?_ | refine AW_block ?_)
  refine AW_loop (α := Nat) (fun j => j ≤ S.length) (fun j => st [(1, .v (.func (.func 104) #[] #[])), (5, .sl 5 1 0 ((S.take j).map fun a => ((per L a : Nat) : Int)).length), (9, .ro true 3 (chVs L S).flatten S.length), (10, .i S.length), (11, .i j)] [(5, (true, ((S.take j).map fun a => ((per L a : Nat) : Int)).map AV.i))]) (fun j => S.length - j) 0 (by omega)
    (weak_st ?_ ?_ rfl rfl) ?_
  · (repeat' (first | exact trivial | refine And.intro ?_ ?_)) <;> (first | rfl | skip)
  · (repeat' (first | exact trivial | refine And.intro ?_ ?_)) <;> (first | rfl | skip)
  intro j hj
  have htl : ((S.take j).map fun a => ((per L a : Nat) : Int)).length = j := by simp; omega
  have hcl := chVs_len L S
  by_cases hc : j < S.length
  · have hgm : S.getD j 0 ∈ S := by simp [hc]
    have hgl := hlt _ hgm
    have hat : (((chVs L S).flatten.drop (j * 3)).take 3) = chnV true L (S.getD j 0) := by
      rw [drop_flat _ 3 j (chVs_row L S) (by simpa [chVs] using hc)]
      simp [chVs, hc]
    have es : (S.take (j + 1)).map (fun a => ((per L a : Nat) : Int)) = (S.take j).map (fun a => ((per L a : Nat) : Int)) ++ [((per L (S.getD j 0) : Nat) : Int)] := by rw [take_snoc S j 0 hc, List.map_append]; rfl
    repeat (first | (refine step_ops ?_; (first | (refine m_lss rfl rfl ?_) | (refine m_idx_ro rfl rfl ?_ ?_ ?_; (· omega); (· omega)))) | refine end_ops ?_ | refine seq_ops ?_ | (refine cond_t rfl ?_ ?_; (· first | rfl | assumption | (refine decide_eq_true ?_; first | assumption | omega) | (refine nt ?_; first | assumption | omega) | (simp [*]; done))) | refine skip_then ?_ | refine AW_seq ?_ | refine AW_block ?_)
    refine step_ops ?_
    refine m_ldk_rp rfl (by simp only [List.length_drop, Int.toNat_natCast]; omega) ?_
    rw [Int.toNat_natCast, hat]
    repeat (first | (refine step_ops ?_; (first | (refine m_mov (by conv => lhs; whnf) ?_) | (refine m_alloc ?_) | (refine m_ldall rfl rfl ?_ ?_; (· first | rfl | (simp; done) | (simp [*]; done))) | (refine m_stall rfl rfl rfl ?_ ?_ ?_ ?_; (· first | rfl | (simp [*]; done)); (· first | rfl | (simp [*]; done)); (· first | rfl | (simp [cellOk, Value.oneCell']; done))))) | refine end_ops ?_ | refine AW_ops ?_)
    refine step_ops ?_
    refine m_callv rfl ⟨_, Tryd.func104, by rfl, by rfl⟩ (length_spec L (S.getD j 0) h hgl) ?_ ?_
    · exact lends_cons (lend_aggs (lends_cons lend_v (lends_cons lend_v (lends_cons (lend_ro (allv_ints _)) lends_nil)))) lends_nil
    repeat (first | (refine step_ops ?_; (first | (refine m_mov (by conv => lhs; whnf) ?_) | (refine m_add rfl rfl ?_ ?_ ?_; (· omega); (· omega)) | (refine m_bsl1 rfl rfl ?_) | (refine m_app1i rfl (by decide) (by rfl) (by first | rfl | omega | (simp; done)) rfl rfl ?_ (by decide) ?_; (· first | omega | (simp; omega))))) | refine end_ops ?_ | refine AW_ops ?_ | refine norm_then ?_ | refine norm_block ?_)
    refine next_round (j + 1) (by omega) (Weak.trans (weak_move (r := 20) (q := 5) rfl (by decide) (by decide)) (weak_st ?_ ?_ rfl rfl)) ?_
    · rw [es]
      (repeat' (first | exact trivial | refine And.intro ?_ ?_)) <;> (first | rfl | skip)
    · rw [es]
      exact ⟨rfl, trivial⟩
    · omega
  · repeat (first | (refine step_ops ?_; (first | (refine m_mov (by conv => lhs; whnf) ?_) | (refine m_lss rfl rfl ?_))) | refine end_ops ?_ | refine seq_ops ?_ | (refine cond_f rfl ?_ ?_; (· first | rfl | assumption | (refine decide_eq_false ?_; first | assumption | omega) | (refine nf ?_; first | assumption | omega) | (simp [*]; done))) | refine AW_seq ?_ | refine AW_ret ?_ | refine ret_done ?_ | refine norm_then ?_ | refine exit_then ?_ | refine exit_round ?_ | refine AW_exit ?_ | refine exit_block ?_)
    obtain rfl : j = S.length := by omega
    rw [List.take_length]
    exact outs_ints rfl rfl (by simp)
end Go.Proofs.YtjgcmbihbeokeaaDoor
namespace Go.Proofs.YtjgcmbihbeokeaaDoor
open Go.Am
attribute [local irreducible] AW Outs Weak Lends Lend Sp aops atree aop1 Then Round InBlock Done
theorem commonDivisor_spec (a b : Nat) : Sp Tryd.prog 117 [.i a, .i b] (.i (Nat.gcd a b)) := by
  refine spec_of Tryd.func117 rfl cc117 rfl ?_
  unfold ac117
  repeat (first | ((first | refine step_ops ?_ | refine step_tree ?_); (first | (refine m_mov (by conv => lhs; whnf) ?_) | (refine m_neq rfl rfl ?_) | (refine m_neqk rfl rfl ?_) | (refine m_neqs_self rfl rfl ?_) | (refine m_neqs rfl rfl ?_) | (refine m_rem rfl rfl ?_ ?_ ?_; (· omega); (· omega)))) | refine end_ops ?_ | refine seq_ops ?_ | refine AW_ops ?_ | refine end_tree ?_ | refine seq_tree ?_ | refine AW_tree ?_ | (refine cond_t rfl ?_ ?_; (· first | rfl | assumption | (refine decide_eq_true ?_; first | assumption | omega) | (refine nt ?_; first | assumption | omega) | (simp [*]; done))) | (refine cond_f rfl ?_ ?_; (· first | rfl | assumption | (refine decide_eq_false ?_; first | assumption | omega) | (refine nf ?_; first | assumption | omega) | (simp [*]; done))) | refine skip_then ?_ | refine AW_seq ?_ | refine AW_ret ?_ | refine ret_done ?_ | refine norm_then ?_ | refine ret_then ?_ | refine exit_then ?_ | refine AW_block ?_ | refine norm_block ?_ | refine ret_block ?_ | refine ret_round ?_ | refine exit_round ?_ | refine AW_exit ?_ | refine exit_block ?_ | (refine exit_other ?_ ?_; (· decide)) | refine AW_skip ?_)
  refine AW_loop (α := Nat × Nat) (fun q => Nat.gcd q.1 q.2 = Nat.gcd a b) (fun q => st [(0, .i q.1), (1, .i q.2)] []) (fun q => q.2) (a, b) rfl (weak_st ?_ ?_ rfl rfl) ?_
  · (repeat' (first | exact trivial | refine And.intro ?_ ?_)) <;> (first | rfl | skip)
  · trivial
  rintro ⟨u, v⟩ hq
  dsimp only at hq ⊢
  by_cases hc : v = 0
  · subst hc
    have hc' : ((0 : Nat) : Int) = 0 := rfl
    repeat (first | ((first | refine step_ops ?_ | refine step_tree ?_); (first | (refine m_mov (by conv => lhs; whnf) ?_) | (refine m_neq rfl rfl ?_) | (refine m_neqk rfl rfl ?_) | (refine m_neqs_self rfl rfl ?_) | (refine m_neqs rfl rfl ?_) | (refine m_rem rfl rfl ?_ ?_ ?_; (· omega); (· omega)))) | refine end_ops ?_ | refine seq_ops ?_ | refine AW_ops ?_ | refine end_tree ?_ | refine seq_tree ?_ | refine AW_tree ?_ | (refine cond_t rfl ?_ ?_; (· first | rfl | assumption | (refine decide_eq_true ?_; first | assumption | omega) | (refine nt ?_; first | assumption | omega) | (simp [*]; done))) | (refine cond_f rfl ?_ ?_; (· first | rfl | assumption | (refine decide_eq_false ?_; first | assumption | omega) | (refine nf ?_; first | assumption | omega) | (simp [*]; done))) | refine skip_then ?_ | refine AW_seq ?_ | refine AW_ret ?_ | refine ret_done ?_ | refine norm_then ?_ | refine ret_then ?_ | refine exit_then ?_ | refine AW_block ?_ | refine norm_block ?_ | refine ret_block ?_ | refine ret_round ?_ | refine exit_round ?_ | refine AW_exit ?_ | refine exit_block ?_ | (refine exit_other ?_ ?_; (· decide)) | refine AW_skip ?_)
    refine outs_i ?_
    rw [← hq, Nat.gcd_zero_right]
  · have hc' : ¬ (v : Int) = 0 := by omega
    repeat (first | ((first | refine step_ops ?_ | refine step_tree ?_); (first | (refine m_mov (by conv => lhs; whnf) ?_) | (refine m_neq rfl rfl ?_) | (refine m_neqk rfl rfl ?_) | (refine m_neqs_self rfl rfl ?_) | (refine m_neqs rfl rfl ?_) | (refine m_rem rfl rfl ?_ ?_ ?_; (· omega); (· omega)))) | refine end_ops ?_ | refine seq_ops ?_ | refine AW_ops ?_ | refine end_tree ?_ | refine seq_tree ?_ | refine AW_tree ?_ | (refine cond_t rfl ?_ ?_; (· first | rfl | assumption | (refine decide_eq_true ?_; first | assumption | omega) | (refine nt ?_; first | assumption | omega) | (simp [*]; done))) | (refine cond_f rfl ?_ ?_; (· first | rfl | assumption | (refine decide_eq_false ?_; first | assumption | omega) | (refine nf ?_; first | assumption | omega) | (simp [*]; done))) | refine skip_then ?_ | refine AW_seq ?_ | refine AW_ret ?_ | refine ret_done ?_ | refine norm_then ?_ | refine ret_then ?_ | refine exit_then ?_ | refine AW_block ?_ | refine norm_block ?_ | refine ret_block ?_ | refine ret_round ?_ | refine exit_round ?_ | refine AW_exit ?_ | refine exit_block ?_ | (refine exit_other ?_ ?_; (· decide)) | refine AW_skip ?_)
    refine next_round (v, u % v) ?_ (weak_st ?_ ?_ rfl rfl) ?_
    · dsimp only
      rw [← hq, Nat.gcd_comm u v, Nat.gcd_rec v u, Nat.gcd_comm]
    · (repeat' (first | exact trivial | refine And.intro ?_ ?_)) <;> (first | rfl | skip)
    · trivial
    · exact Nat.mod_lt _ (by omega)
end Go.Proofs.YtjgcmbihbeokeaaDoor
namespace Go.Proofs.YtjgcmbihbeokeaaDoor
open Go.Am
attribute [local irreducible] AW Outs Weak Lends Lend Sp aops atree aop1 Then Round InBlock Done
attribute [local irreducible] SpH DoneH
/-- Does a list fit a clue? -/
def fitC (L : List Int) (c : Clu) : Bool :=
  if c.1 = 0 then decide (L.getD c.2.1.toNat 0 = c.2.2)
  else if c.1 = 1 then decide (L.getD c.2.1.toNat 0 ≠ c.2.2)
  else if c.1 = 2 then decide (((ownList L L.length).length : Int) = c.2.1)
  else if c.1 = 3 then decide (((chs L).length : Int) = c.2.1)
  else if c.1 = 4 then decide (L.getD c.2.1.toNat 0 > c.2.1) == decide (c.2.2 = 1)
  else decide ((timesF L : Int) = c.2.1)
end Go.Proofs.YtjgcmbihbeokeaaDoor
namespace Go.Proofs.YtjgcmbihbeokeaaDoor
open Go.Am
attribute [local irreducible] AW Outs Weak Lends Lend Sp aops atree aop1 Then Round InBlock Done
theorem slicesClone_spec (L : List Int) (hL : L.length ≤ 1048576) (h1 : 1 ≤ L.length) : Sp Tryd.prog 105 [ints L] (newInts L) := by
  refine spec_of Tryd.func105 rfl cc105 rfl ?_
  unfold ac105
  repeat (first | (refine step_ops ?_; (first | (refine m_mov (by conv => lhs; whnf) ?_) | (refine m_isnil_x rfl ?_) | (refine m_isnil_ro rfl ?_ ?_; (· omega)) | (refine m_isnil_sl rfl ?_ ?_; (· omega)) | (refine m_nils ?_) | (refine m_bsl0 ?_) | (refine m_app1i rfl (by decide) (by rfl) (by first | rfl | omega | (simp; done)) rfl rfl ?_ (by decide) ?_; (· first | omega | (simp; omega))) | (refine m_app1 rfl (by decide) rfl (by first | (simp; done) | (simp [*]; done) | (simp; omega)) rfl rfl rfl ?_ (by decide) ?_; (· first | omega | (simp; omega))) | (refine m_appro rfl (by decide) rfl (by first | rfl | (simp; done) | (simp [*]; done) | (simp; omega)) rfl (oks_ints _) ?_ (by decide) ?_; (· first | omega | (simp; omega))))) | refine end_ops ?_ | refine seq_ops ?_ | refine AW_ops ?_ | (refine cond_t rfl ?_ ?_; (· first | rfl | assumption | (refine decide_eq_true ?_; first | assumption | omega) | (refine nt ?_; first | assumption | omega) | (simp [*]; done))) | (refine cond_f rfl ?_ ?_; (· first | rfl | assumption | (refine decide_eq_false ?_; first | assumption | omega) | (refine nf ?_; first | assumption | omega) | (simp [*]; done))) | refine skip_then ?_ | refine AW_seq ?_ | refine AW_ret ?_ | refine ret_done ?_ | refine norm_then ?_ | refine ret_then ?_ | refine exit_then ?_ | refine AW_skip ?_)
  exact outs_ints rfl rfl (Nat.zero_add _)
end Go.Proofs.YtjgcmbihbeokeaaDoor
namespace Go.Am
section
variable (fits : List Int → Nat → Bool) (n : Nat)
/-- All that go on from l by k more, in order. -/
def goOn : Nat → List Int → List (List Int)
  | 0, l => [l]
  | k + 1, l => ((List.range n).filter fun x => fits l x).flatMap fun (x : Nat) => goOn k (l ++ [(x : Int)])
/-- Those whose next is at least g. -/
def goFrom (l : List Int) (g : Nat) : List (List Int) := ((List.range n).filter fun x => decide (g ≤ x) && fits l x).flatMap fun (x : Nat) => goOn fits n (n - l.length - 1) (l ++ [(x : Int)])
/-- What comes behind all that go on from a list (which is told from its end). -/
def goBack : List Int → List (List Int)
  | [] => []
  | x :: r => goFrom fits n r.reverse (x.toNat + 1) ++ goBack r
/-- What a search finds that stands at a list and is to try g next. -/
def goAt (l : List Int) (g : Nat) : List (List Int) := (if l.length = n then [l] else goFrom fits n l g) ++ goBack fits n l.reverse
theorem range_split (p : Nat → Bool) (g : Nat) : ∀ n, g < n → (List.range n).filter (fun x => decide (g ≤ x) && p x) = (if p g then [g] else []) ++ (List.range n).filter (fun x => decide (g + 1 ≤ x) && p x)
  | 0, h => by omega
  | n + 1, h => by
    rw [List.range_succ, List.filter_append, List.filter_append]
    by_cases hg : g < n
    · rw [range_split p g n hg, List.append_assoc]
      congr 2
      have h1 : decide (g ≤ n) = true := decide_eq_true (by omega)
      have h2 : decide (g + 1 ≤ n) = true := decide_eq_true (by omega)
      simp only [List.filter_cons, List.filter_nil, h1, h2]
    · obtain rfl : g = n := by omega
      have e1 : (List.range g).filter (fun x => decide (g ≤ x) && p x) = [] := List.filter_eq_nil_iff.2 fun x hx => by have := List.mem_range.1 hx; simp; omega
      have e2 : (List.range g).filter (fun x => decide (g + 1 ≤ x) && p x) = [] := List.filter_eq_nil_iff.2 fun x hx => by have := List.mem_range.1 hx; simp; omega
      rw [e1, e2]
      have h2 : decide (g + 1 ≤ g) = false := decide_eq_false (by omega)
      have h1 : decide (g ≤ g) = true := decide_eq_true (by omega)
      simp only [List.filter_cons, List.filter_nil, List.nil_append, h1, h2]
      simp
theorem goFrom_step {l : List Int} {g : Nat} (hg : g < n) : goFrom fits n l g = (if fits l g then goOn fits n (n - l.length - 1) (l ++ [(g : Int)]) else []) ++ goFrom fits n l (g + 1) := by
  unfold goFrom
  rw [range_split (fits l) g n hg, List.flatMap_append]
  split <;> simp
theorem goFrom_end {l : List Int} {g : Nat} (hg : n ≤ g) : goFrom fits n l g = [] := by
  unfold goFrom
  rw [List.filter_eq_nil_iff.2 fun x hx => by have := List.mem_range.1 hx; simp; omega]
  rfl
theorem goOn_from {l : List Int} (h : l.length < n) : goOn fits n (n - l.length) l = goFrom fits n l 0 := by
  obtain ⟨k, hk⟩ : ∃ k, n - l.length = k + 1 := ⟨n - l.length - 1, by omega⟩
  unfold goFrom
  rw [hk]
  simp [goOn]
theorem goAt_full {l : List Int} {g : Nat} (h : l.length = n) : (goAt fits n l g).head? = some l := by
  simp [goAt, h]
theorem goAt_take {l : List Int} {g : Nat} (h : l.length < n) (hg : g < n) (hf : fits l g = true) : goAt fits n (l ++ [(g : Int)]) 0 = goAt fits n l g := by
  have hne : ¬ l.length = n := by omega
  unfold goAt
  rw [if_neg hne, goFrom_step fits n hg, if_pos hf, List.reverse_append, List.reverse_singleton, List.singleton_append, goBack, List.reverse_reverse, Int.toNat_natCast, List.append_assoc]
  congr 1
  by_cases h1 : l.length + 1 = n
  · have e : n - l.length - 1 = 0 := by omega
    rw [if_pos (by simpa using h1), e]
    rfl
  · have e : n - l.length - 1 = n - (l ++ [(g : Int)]).length := by simp; omega
    rw [if_neg (by simpa using h1), e, goOn_from fits n (by simp; omega)]
theorem goAt_skip {l : List Int} {g : Nat} (h : l.length < n) (hg : g < n) (hf : fits l g = false) : goAt fits n l (g + 1) = goAt fits n l g := by
  have hne : ¬ l.length = n := by omega
  unfold goAt
  rw [if_neg hne, if_neg hne, goFrom_step fits n hg, hf]
  simp
theorem goAt_none {g : Nat} (h : 0 < n) (hg : n ≤ g) : goAt fits n [] g = [] := by
  unfold goAt
  rw [if_neg (by simp; omega), goFrom_end fits n hg]
  rfl
theorem goAt_back {l : List Int} {x : Int} {g : Nat} (h : l.length + 1 < n) (hg : n ≤ g) : goAt fits n (l ++ [x]) g = goAt fits n l (x.toNat + 1) := by
  unfold goAt
  rw [if_neg (by simp; omega), if_neg (by omega), goFrom_end fits n hg, List.reverse_append, List.reverse_singleton, List.singleton_append, goBack, List.reverse_reverse]
  rfl
theorem goAt_start (h : 0 < n) : goAt fits n [] 0 = goOn fits n n [] := by
  have := goOn_from fits n (l := []) (by simpa using h)
  simp only [List.length_nil, Nat.sub_zero] at this
  unfold goAt
  rw [if_neg (by simp; omega), this]
  simp [goBack]
end
/-- How long a search may go on. -/
def goW (n : Nat) : Nat → Nat
  | 0 => 0
  | j + 1 => n * goW n j + 2
def goM (n : Nat) : List Int → Nat
  | [] => 0
  | x :: r => (n - (x.toNat + 1)) * goW n (n - r.length) + 1 + goM n r
def goMeas (n : Nat) (l : List Int) (g : Nat) : Nat := (n - g) * goW n (n - l.length) + goM n l.reverse
theorem goMeas_take {n : Nat} {l : List Int} {g : Nat} (h : l.length < n) (hg : g < n) : goMeas n (l ++ [(g : Int)]) 0 < goMeas n l g := by
  obtain ⟨k, hk⟩ : ∃ k, n - l.length = k + 1 := ⟨n - l.length - 1, by omega⟩
  have hk2 : n - (l ++ [(g : Int)]).length = k := by simp; omega
  obtain ⟨q, hq⟩ : ∃ q, n - g = q + 1 := ⟨n - g - 1, by omega⟩
  have hq2 : n - (g + 1) = q := by omega
  unfold goMeas
  rw [List.reverse_append, List.reverse_singleton, List.singleton_append, goM, List.length_reverse, Int.toNat_natCast, hk2, hk, hq, hq2, Nat.sub_zero, Nat.add_mul, Nat.one_mul]
  have : goW n (k + 1) = n * goW n k + 2 := rfl
  omega
theorem goMeas_skip {n : Nat} {l : List Int} {g : Nat} (h : l.length < n) (hg : g < n) : goMeas n l (g + 1) < goMeas n l g := by
  obtain ⟨k, hk⟩ : ∃ k, n - l.length = k + 1 := ⟨n - l.length - 1, by omega⟩
  obtain ⟨q, hq⟩ : ∃ q, n - g = q + 1 := ⟨n - g - 1, by omega⟩
  have hq2 : n - (g + 1) = q := by omega
  unfold goMeas
  rw [hk, hq, hq2, Nat.add_mul, Nat.one_mul]
  have : goW n (k + 1) = n * goW n k + 2 := rfl
  omega
theorem goMeas_back {n : Nat} {l : List Int} {x : Int} {g : Nat} (hg : n ≤ g) : goMeas n l (x.toNat + 1) < goMeas n (l ++ [x]) g := by
  have h0 : n - g = 0 := by omega
  unfold goMeas
  rw [List.reverse_append, List.reverse_singleton, List.singleton_append, goM, List.length_reverse, h0, Nat.zero_mul]
  omega
/-- Does a list come before another? -/
def comesB : List Int → List Int → Bool
  | [], _ => false
  | _ :: _, [] => false
  | a :: l, b :: m => if a = b then comesB l m else decide (a < b)
theorem comesB_append (p : List Int) (l m : List Int) : comesB (p ++ l) (p ++ m) = comesB l m := by
  induction p with
  | nil => rfl
  | cons a p ih => simp [comesB, ih]
theorem comesB_self (l : List Int) : comesB l l = false := by
  induction l with
  | nil => rfl
  | cons a l ih => simp [comesB, ih]
section
variable (fits : List Int → Nat → Bool) (n : Nat)
theorem goOn_shape : ∀ (k : Nat) (l x : List Int), x ∈ goOn fits n k l → ∃ m, x = l ++ m ∧ m.length = k
  | 0, l, x, h => ⟨[], by simpa [goOn] using h, rfl⟩
  | k + 1, l, x, h => by
    simp only [goOn, List.mem_flatMap] at h
    obtain ⟨y, _, hx⟩ := h
    obtain ⟨m, rfl, hm⟩ := goOn_shape k _ _ hx
    exact ⟨(y : Int) :: m, by simp, by simp [hm]⟩
/-- All that go on behind a lesser next come before; behind a greater one, behind. -/
theorem find_less {k : Nat} {l : List Int} {x : Nat} {b : Int} {t : List Int} (h : (x : Int) < b) : (goOn fits n k (l ++ [(x : Int)])).find? (fun m => comesB (l ++ b :: t) m) = none := by
  rw [List.find?_eq_none]
  intro m hm
  obtain ⟨r, rfl, _⟩ := goOn_shape fits n _ _ _ hm
  rw [List.append_assoc, comesB_append]
  have h1 : ¬ b = (x : Int) := by omega
  have h2 : ¬ b < (x : Int) := by omega
  simp [comesB, h1, h2]
theorem find_more {k : Nat} {l : List Int} {x : Nat} {b : Int} {t : List Int} (h : b < (x : Int)) : (goOn fits n k (l ++ [(x : Int)])).find? (fun m => comesB (l ++ b :: t) m) = (goOn fits n k (l ++ [(x : Int)])).head? := by
  have hall : ∀ m ∈ goOn fits n k (l ++ [(x : Int)]), comesB (l ++ b :: t) m = true := by
    intro m hm
    obtain ⟨r, rfl, _⟩ := goOn_shape fits n _ _ _ hm
    rw [List.append_assoc, comesB_append]
    have h1 : ¬ b = (x : Int) := by omega
    simp [comesB, h1, h]
  cases hg : goOn fits n k (l ++ [(x : Int)]) with
  | nil => rfl
  | cons m ms => simp [hall m (by rw [hg]; simp)]
end
theorem range_three (p : Nat → Bool) (g : Nat) : ∀ n, g < n → (List.range n).filter p = (List.range g).filter p ++ ((if p g then [g] else []) ++ (List.range n).filter (fun x => decide (g + 1 ≤ x) && p x))
  | 0, h => by omega
  | n + 1, h => by
    rw [List.range_succ, List.filter_append, List.filter_append]
    by_cases hg : g < n
    · rw [range_three p g n hg, List.append_assoc, List.append_assoc]
      congr 3
      have h2 : decide (g + 1 ≤ n) = true := decide_eq_true (by omega)
      simp only [List.filter_cons, List.filter_nil, h2, Bool.true_and]
    · obtain rfl : g = n := by omega
      have e2 : (List.range g).filter (fun x => decide (g + 1 ≤ x) && p x) = [] := List.filter_eq_nil_iff.2 fun x hx => by have := List.mem_range.1 hx; simp; omega
      have h2 : decide (g + 1 ≤ g) = false := decide_eq_false (by omega)
      rw [e2]
      simp only [List.filter_cons, List.filter_nil, List.nil_append, h2]
      simp
theorem findSome_congr {α β : Type} {f g : α → Option β} : ∀ {l : List α}, (∀ x ∈ l, f x = g x) → l.findSome? f = l.findSome? g
  | [], _ => rfl
  | a :: l, h => by
    simp only [List.findSome?_cons]
    rw [h a (by simp), findSome_congr fun x hx => h x (by simp [hx])]
section
variable (fits : List Int → Nat → Bool) (n : Nat)
theorem goFrom_head (l : List Int) (g : Nat) : (goFrom fits n l g).head? = ((List.range n).filter fun x => decide (g ≤ x) && fits l x).findSome? fun (x : Nat) => (goOn fits n (n - l.length - 1) (l ++ [(x : Int)])).head? := by
  unfold goFrom
  rw [List.head?_flatMap]
theorem find_next {k g : Nat} {l t : List Int} (hg : g < n) (hk : n - l.length = k + 1) : (goOn fits n (k + 1) l).find? (fun m => comesB (l ++ (g : Int) :: t) m) =
    (if fits l g then (goOn fits n k (l ++ [(g : Int)])).find? (fun m => comesB (l ++ (g : Int) :: t) m) else none).or (goFrom fits n l (g + 1)).head? := by
  have hk2 : n - l.length - 1 = k := by omega
  rw [goFrom_head, goOn, List.find?_flatMap, range_three _ g n hg, List.findSome?_append, List.findSome?_append, hk2]
  have e1 : ((List.range g).filter fun x => fits l x).findSome? (fun (x : Nat) => (goOn fits n k (l ++ [(x : Int)])).find? fun m => comesB (l ++ (g : Int) :: t) m) = none := by
    rw [List.findSome?_eq_none_iff]
    intro x hx
    have := List.mem_range.1 (List.mem_filter.1 hx).1
    exact find_less fits n (by omega)
  rw [e1, Option.none_or]
  congr 1
  · split <;> simp
  · refine findSome_congr fun x hx => ?_
    have := (List.mem_filter.1 hx).2
    simp only [Bool.and_eq_true, decide_eq_true_eq] at this
    exact find_more fits n (by omega)
/-- The first that comes behind a list: where its own beginning goes no further, a search that begins there finds it. -/
theorem find_behind {L : List Int} (hL : L.length = n) (hb : ∀ i < n, ∃ g : Nat, L.getD i 0 = g ∧ g < n) {kept : Nat} (hk : kept < n) (hf : ∀ i < kept, fits (L.take i) (L.getD i 0).toNat = true)
    (he : fits (L.take kept) (L.getD kept 0).toNat = false ∨ kept + 1 = n) : (goOn fits n n []).find? (fun m => comesB L m) = (goAt fits n (L.take kept) ((L.getD kept 0).toNat + 1)).head? := by
  have step : ∀ i, i < n → (goOn fits n (n - i) (L.take i)).find? (fun m => comesB L m) =
      (if fits (L.take i) (L.getD i 0).toNat then (goOn fits n (n - (i + 1)) (L.take (i + 1))).find? (fun m => comesB L m) else none).or (goFrom fits n (L.take i) ((L.getD i 0).toNat + 1)).head? := by
    intro i hi
    obtain ⟨g, hg, hgn⟩ := hb i hi
    have hlen : (L.take i).length = i := List.length_take_of_le (by omega)
    have hsp : L = L.take i ++ (g : Int) :: L.drop (i + 1) := by
      have h1 := take_snoc L i 0 (by omega)
      have h2 := List.take_append_drop (i + 1) L
      rw [h1, hg, List.append_assoc] at h2
      exact h2.symm
    have h1 := find_next fits n (k := n - (i + 1)) (g := g) (l := L.take i) (t := L.drop (i + 1)) hgn (by omega)
    rw [← hsp] at h1
    have e : n - (i + 1) + 1 = n - i := by omega
    rw [e] at h1
    rw [take_snoc L i 0 (by omega), hg, Int.toNat_natCast]
    exact h1
  have key : ∀ i, i ≤ kept → (goOn fits n n []).find? (fun m => comesB L m) = ((goOn fits n (n - i) (L.take i)).find? (fun m => comesB L m)).or (goBack fits n (L.take i).reverse).head? := by
    intro i
    induction i with
    | zero => intro _; simp [goBack]
    | succ i ih =>
      intro hi
      have h1 := hf i (by omega)
      rw [ih (by omega), step i (by omega), if_pos h1, Option.or_assoc]
      congr 1
      rw [take_snoc L i 0 (by omega), List.reverse_append, List.reverse_singleton, List.singleton_append, goBack, List.reverse_reverse, List.head?_append]
  have hlen : (L.take kept).length = kept := List.length_take_of_le (by omega)
  have hnone : (if fits (L.take kept) (L.getD kept 0).toNat then (goOn fits n (n - (kept + 1)) (L.take (kept + 1))).find? (fun m => comesB L m) else none) = none := by
    split
    · rename_i hh
      rcases he with he | he
      · rw [he] at hh; cases hh
      · have e : n - (kept + 1) = 0 := by omega
        rw [e, List.take_of_length_le (by omega)]
        simp [goOn, comesB_self]
    · rfl
  have hne : ¬ (L.take kept).length = n := by omega
  rw [key kept (Nat.le_refl _), step kept hk, hnone, Option.none_or, goAt, if_neg hne, List.head?_append]
end
end Go.Am
namespace Go.Am
theorem pig_le1 : ∀ (l m : List Int), l.Nodup → (∀ x ∈ l, x ∈ m) → l.length ≤ m.length
  | [], _, _, _ => Nat.zero_le _
  | a :: l, m, hn, hs => by
    have ha := hs a (List.mem_cons_self ..)
    have hn' := List.nodup_cons.1 hn
    have h := pig_le1 l (m.erase a) hn'.2 fun x hx => (List.mem_erase_of_ne fun e => hn'.1 (by rw [← e]; exact hx)).2 (hs x (List.mem_cons_of_mem _ hx))
    have hl := List.length_erase_of_mem ha
    have hp := List.length_pos_of_mem ha
    simp only [List.length_cons]
    omega
def facR : Nat → Nat
  | 0 => 1
  | k + 1 => (k + 1) * facR k
theorem sum_leR {α : Type} (f : α → Nat) (b : Nat) : ∀ l : List α, (∀ x ∈ l, f x ≤ b) → (l.map f).sum ≤ l.length * b
  | [], _ => by simp
  | a :: l, h => by
    have h1 := h a (List.mem_cons_self ..)
    have h2 := sum_leR f b l fun x hx => h x (List.mem_cons_of_mem _ hx)
    rw [List.map_cons, List.sum_cons, List.length_cons, Nat.add_mul]
    omega
theorem goOn_fac {fits : List Int → Nat → Bool} {n : Nat} (hf : ∀ l x, fits l x = true → (x : Int) ∉ l) : ∀ (k : Nat) (l : List Int), l.length + k = n → l.Nodup → (∀ y ∈ l, 0 ≤ y ∧ y < (n : Int)) → (goOn fits n k l).length ≤ facR k
  | 0, _, _, _, _ => Nat.le_refl _
  | k + 1, l, hl, hn, hb => by
    have hL : ((List.range n).filter fun x => fits l x).length ≤ k + 1 := by
      have h := pig_le1 (l ++ ((List.range n).filter fun x => fits l x).map fun (x : Nat) => (x : Int)) ((List.range n).map fun (x : Nat) => (x : Int)) ?_ ?_
      · simp only [List.length_append, List.length_map, List.length_range] at h
        omega
      · rw [List.nodup_append]
        refine ⟨hn, ?_, ?_⟩
        · exact List.Pairwise.map _ (fun a b h e => h (by omega)) (List.Pairwise.filter _ List.nodup_range)
        · rintro a ha b hb' rfl
          obtain ⟨x, hx, rfl⟩ := List.mem_map.1 hb'
          exact hf l x (List.mem_filter.1 hx).2 ha
      · intro y hy
        rcases List.mem_append.1 hy with hy | hy
        · have := hb y hy
          exact List.mem_map.2 ⟨y.toNat, List.mem_range.2 (by omega), by omega⟩
        · obtain ⟨x, hx, rfl⟩ := List.mem_map.1 hy
          exact List.mem_map.2 ⟨x, (List.mem_filter.1 hx).1, rfl⟩
    show (((List.range n).filter fun x => fits l x).flatMap fun (x : Nat) => goOn fits n k (l ++ [(x : Int)])).length ≤ (k + 1) * facR k
    rw [List.length_flatMap]
    refine Nat.le_trans (sum_leR _ (facR k) _ fun x hx => ?_) (Nat.mul_le_mul_right _ hL)
    have hx' := List.mem_filter.1 hx
    refine goOn_fac hf k (l ++ [(x : Int)]) (by simp; omega) ?_ ?_
    · rw [List.nodup_append]
      refine ⟨hn, by simp, ?_⟩
      rintro a ha b hb' rfl
      rw [List.mem_singleton] at hb'
      subst hb'
      exact hf l x hx'.2 ha
    · intro y hy
      rcases List.mem_append.1 hy with hy | hy
      · exact hb y hy
      · rw [List.mem_singleton.1 hy]
        have := List.mem_range.1 hx'.1
        omega
end Go.Am
namespace Go.Am
/-- What goes on has no number twice. -/
theorem goOn_pm {fits : List Int → Nat → Bool} {n : Nat} (hf : ∀ l x, fits l x = true → (x : Int) ∉ l) : ∀ (k : Nat) (l : List Int), l.Nodup → (∀ y ∈ l, 0 ≤ y ∧ y < (n : Int)) → ∀ m ∈ goOn fits n k l, m.Nodup ∧ (∀ y ∈ m, 0 ≤ y ∧ y < (n : Int)) ∧ m.length = l.length + k
  | 0, l, hn, hb, m, hm => by
    have : m = l := by simpa [goOn] using hm
    subst this
    exact ⟨hn, hb, rfl⟩
  | k + 1, l, hn, hb, m, hm => by
    obtain ⟨x, hx, hm⟩ := List.mem_flatMap.1 hm
    have hx' := List.mem_filter.1 hx
    obtain ⟨h1, h2, h3⟩ := goOn_pm hf k (l ++ [(x : Int)]) (by
      rw [List.nodup_append]
      refine ⟨hn, by simp, ?_⟩
      rintro a ha b hb' rfl
      rw [List.mem_singleton] at hb'
      subst hb'
      exact hf l x hx'.2 ha) (fun y hy => by
      rcases List.mem_append.1 hy with hy | hy
      · exact hb y hy
      · rw [List.mem_singleton.1 hy]
        have := List.mem_range.1 hx'.1
        omega) m hm
    refine ⟨h1, h2, ?_⟩
    rw [h3]
    simp
    omega
end Go.Am
namespace Go.Am
variable {P : Program} {own : Bool} {N : Nat} {s : AS} {K : AS → Prop} {d : Option Nat}
/-- The end of a function that is given regions. -/
def DoneT (ts : List Nat) (res : AV) (hin hout : Hp) : Exit → AS → Prop
  | .normal, s | .ret, s => ∃ g : Nat → Nat, resAV s ts = renV g res ∧ (∀ r c, hout r = some c → ∃ c0, s.hp (g r) = some c0 ∧ (c0 = renR g c ∨ (c.2 = [] ∧ c0.2 = []))) ∧ (∀ r, (hin r).isSome = true → r < gvb → g r = r ∧ (hout r).isSome = true) ∧
      (∀ r, (hout r).isSome = true → hin r = none → g r < pbase) ∧ (∀ r r', (hout r).isSome = true → (hout r').isSome = true → g r = g r' → r = r') ∧ ∀ r, (hout r).isSome = true → r < gvb
  | _, _ => False
end Go.Am
namespace Go.Am
section
attribute [local irreducible] SpH DoneH SpG DoneT
theorem look2_none {β : Type} {a b r : Nat} {x y : β} (h1 : r ≠ a) (h2 : r ≠ b) : look [(a, x), (b, y)] r = none := by
  simp only [look, if_neg h1, if_neg h2]
end
end Go.Am
namespace Go.Proofs.YtjgcmbihbeokeaaDoor
open Go.Am
attribute [local irreducible] AW Outs Weak Lends Lend Sp aops atree aop1 Then Round InBlock Done
attribute [local irreducible] SpM DoneM SpH DoneH SpG DoneT
/-- All that go on from a beginning. -/
def newN (l : List Int) (x : Nat) : Bool := !decide ((x : Int) ∈ l)
def allFit (C : List Clu) (L : List Int) : Bool := C.all (fitC L)
end Go.Proofs.YtjgcmbihbeokeaaDoor
namespace Go.Proofs.YtjgcmbihbeokeaaDoor
open Go.Am
attribute [local irreducible] AW Outs Weak Lends Lend Sp aops atree aop1 Then Round InBlock Done
attribute [local irreducible] SpM DoneM SpH DoneH SpG DoneT
/-- All that go on and fit. -/
def slv (C : List Clu) (n k : Nat) (l : List Int) : List (List Int) := (goOn newN n k l).filter (allFit C)
theorem newN_new : ∀ l x, newN l x = true → (x : Int) ∉ l := by
  intro l x h
  unfold newN at h
  simpa using h
theorem slv_len {C : List Clu} {n k : Nat} (h5 : n ≤ 5) {l : List Int} (hl : l.length + k = n) (hn : l.Nodup) (hb : ∀ y ∈ l, 0 ≤ y ∧ y < (n : Int)) : (slv C n k l).length ≤ 120 := by
  have h1 := goOn_fac newN_new k l hl hn hb
  have h2 : (slv C n k l).length ≤ (goOn newN n k l).length := List.length_filter_le ..
  have h3 : ∀ k < 6, facR k ≤ 120 := by decide
  have := h3 k (by omega)
  omega
theorem ex_of {n : Nat} {l : List Int} (h1 : 1 ≤ n) (h5 : n ≤ 5) (hl : l.length = n) (hn : l.Nodup) (hb : ∀ y ∈ l, 0 ≤ y ∧ y < (n : Int)) : IsEx l := ⟨by omega, by omega, fun x hx => by rw [hl]; exact hb x hx, hn⟩
end Go.Proofs.YtjgcmbihbeokeaaDoor
namespace Go.Proofs.YtjgcmbihbeokeaaDoor
open Go.Am
attribute [local irreducible] AW Outs Weak Lends Lend Sp aops atree aop1 Then Round InBlock Done
attribute [local irreducible] SpM DoneM SpH DoneH SpG DoneT
/-- All solutions, in order. -/
def sol (n : Nat) (C : List Clu) : List (List Int) := slv C n n []
theorem sol_len {n : Nat} {C : List Clu} (h5 : n ≤ 5) : (sol n C).length ≤ 120 := slv_len h5 (by simp) List.nodup_nil (by simp)
end Go.Proofs.YtjgcmbihbeokeaaDoor
namespace Go.Am
theorem lend_pzl {hp : Hp} {g : Int} {C : List Clu} {fr : Bool} : Lend hp (.agg [.i g, .ro fr 3 (cls C) C.length]) (pzl g C) := lend_aggs (lends_cons lend_v (lends_cons (lend_ro (cls_plain C)) lends_nil))
theorem lend_cls {hp : Hp} {C : List Clu} {fr : Bool} : Lend hp (.ro fr 3 (cls C) C.length) (.ro false 3 (cls C) C.length) := lend_ro (cls_plain C)
end Go.Am
namespace Go.Proofs.YtjgcmbihbeokeaaDoor
open Go.Am
attribute [local irreducible] AW Outs Weak Lends Lend Sp aops atree aop1 Then Round InBlock Done
attribute [local irreducible] SpM DoneM SpH DoneH SpG DoneT
theorem pz_nat {g : Int} {C : List Clu} (h : IsPz g C) : ∃ n : Nat, g = n ∧ 1 ≤ n ∧ n ≤ 5 := by
  have h1 := h.1.1
  have h5 := h.1.2
  obtain ⟨n, rfl⟩ := Int.eq_ofNat_of_zero_le (show 0 ≤ g by omega)
  exact ⟨n, rfl, by omega, by omega⟩
/-- All solutions; none, if there is no puzzle. -/
def solS (g : Int) (C : List Clu) : List (List Int) := if IsPz g C then sol g.toNat C else []
end Go.Proofs.YtjgcmbihbeokeaaDoor
namespace Go.Proofs.YtjgcmbihbeokeaaDoor
open Go.Am
attribute [local irreducible] AW Outs Weak Lends Lend Sp aops atree aop1 Then Round InBlock Done
attribute [local irreducible] SpM DoneM
set_option maxRecDepth 8000 in
theorem toClue_spec (k a b : Int) : Sp Tryd.prog 36 [.agg [.i k, .i a, .i b]] (.agg [.i k, .i a, .i b]) := by
  refine specC_of Tryd.func36 rfl cc36 (by rfl) ?_
  unfold ac36
  refine seq_ops ?_
  refine step_ops ?_
  refine m_box (l := [.i k, .i a, .i b]) rfl rfl ?_
  repeat (first | (refine step_ops ?_; (first | (apply m_ld_pt; (· rfl); (· rfl); (· rfl)) | (apply m_st; (· rfl); (· rfl); (· rfl); (· first | omega | (simp; done) | (simp; omega)); (· rfl)) | (refine m_alloc ?_) | (refine m_fa rfl ?_) | (refine m_ldall rfl rfl ?_ ?_; (· first | rfl | (simp; done) | (simp [*]; done))) | (refine m_stall rfl rfl rfl ?_ ?_ ?_ ?_; (· first | rfl | (simp [*]; done)); (· first | rfl | (simp [*]; done)); (· first | rfl | (simp [cellOk, Value.oneCell']; done))))) | refine end_ops ?_ | refine seq_ops ?_ | refine AW_ret ?_)
  refine ret_donec rfl rfl rfl ?_
  exact outs_agg3 (outs_i rfl) (outs_i rfl) (outs_i rfl)
def copP (C : List Clu) (k : Nat) : List Clu := C.take k ++ List.replicate (C.length - k) (0, 0, 0)
theorem copP_len (C : List Clu) (k : Nat) (h : k ≤ C.length) : (copP C k).length = C.length := by simp [copP]; omega
theorem copP_set (C : List Clu) (k : Nat) (h : k < C.length) : (copP C k).set k (C.getD k (0, 0, 0)) = copP C (k + 1) := by
  unfold copP
  have e : C.length - k = (C.length - (k + 1)) + 1 := by omega
  have e2 : k - (C.take k).length = 0 := by simp; omega
  rw [take_snoc C k (0, 0, 0) h, e, List.replicate_succ, List.set_append_right _ _ (by simp; omega), e2]
  simp
theorem toClueS_spec (C : List Clu) (hC : C.length ≤ 1048576) : Sp Tryd.prog 22 [.ro false 3 (cls C) C.length] (.ro true 3 (cls C) C.length) := by
  refine spec_of Tryd.func22 rfl cc22 rfl ?_
  unfold ac22
  repeat (first | (refine step_ops ?_; (first | (refine m_mov (by conv => lhs; whnf) ?_) | (refine m_len_ro rfl ?_) | (refine m_nils ?_))) | refine end_ops ?_ | refine seq_ops ?_)
  refine step_ops ?_
  refine m_mk rfl rfl ?_ ?_ ?_
  · omega
  · omega
  repeat (first | (refine step_ops ?_; (refine m_mov (by conv => lhs; whnf) ?_)) | refine end_ops ?_ | refine seq_ops ?_ | refine AW_seq ?_ | refine AW_block ?_)
  refine AW_loop (α := Nat) (fun k => k ≤ C.length) (fun k => st [(0, .ro false 3 (cls C) C.length), (3, .sl 7 3 0 C.length), (4, .i k)] [(7, (true, cls (copP C k)))]) (fun k => C.length - k) 0 (by omega) (weak_st ?_ ?_ rfl rfl) ?_
  · (repeat' (first | exact trivial | refine And.intro ?_ ?_)) <;> (first | rfl | skip)
  · refine ⟨?_, trivial⟩
    show some (true, (List.replicate C.length ([.int .i64 0, .int .i64 0, .int .i64 0].map AV.v)).flatten) = _
    rw [cls_rep]
    simp [copP]
  intro k hk
  by_cases h : k < C.length
  · have hcl := copP_len C k hk
    have hset := copP_set C k h
    rcases hce : C.getD k (0, 0, 0) with ⟨c1, c2, c3⟩
    rw [hce] at hset
    repeat (first | (refine step_ops ?_; (first | (refine m_mov (by conv => lhs; whnf) ?_) | (refine m_lss rfl rfl ?_) | (refine m_len_ro rfl ?_) | (refine m_idx_ro rfl rfl ?_ ?_ ?_; (· omega); (· omega)))) | refine end_ops ?_ | refine seq_ops ?_ | refine AW_ops ?_ | (refine cond_t rfl ?_ ?_; (· first | rfl | assumption | (refine decide_eq_true ?_; first | assumption | omega) | (refine nt ?_; first | assumption | omega) | (simp [*]; done))) | refine skip_then ?_ | refine AW_seq ?_ | refine AW_block ?_)
    refine step_ops ?_
    refine m_ldClu h hce rfl ?_
    skip
    (refine step_ops ?_); (apply m_call (toClue_spec c1 c2 c3)); (· repeat (first | exact lends_nil | (refine lends_cons ?_ ?_; (· (refine lend_agg ?_; first | rfl | assumption | (simp [plainV]; done))))))
    repeat (refine step_ops ?_; (refine m_idx_sl rfl rfl ?_ ?_ ?_; (· omega); (· omega)))
    refine step_ops ?_
    refine m_stClu rfl (by rfl) rfl (by omega) hset ?_
    repeat (first | (refine step_ops ?_; (first | (refine m_mov (by conv => lhs; whnf) ?_) | (refine m_add rfl rfl ?_ ?_ ?_; (· omega); (· omega)))) | refine end_ops ?_ | refine AW_ops ?_ | refine norm_then ?_ | refine norm_block ?_)
    refine next_round (k + 1) h (weak_st ?_ ?_ rfl rfl) ?_
    · (repeat' (first | exact trivial | refine And.intro ?_ ?_)) <;> (first | rfl | skip)
    · (repeat' (first | exact trivial | refine And.intro ?_ ?_)) <;> (first | rfl | skip)
    · omega
  · obtain rfl : k = C.length := by omega
    repeat (first | (refine step_ops ?_; (first | (refine m_mov (by conv => lhs; whnf) ?_) | (refine m_lss rfl rfl ?_) | (refine m_len_ro rfl ?_))) | refine end_ops ?_ | refine seq_ops ?_ | (refine cond_f rfl ?_ ?_; (· first | rfl | assumption | (refine decide_eq_false ?_; first | assumption | omega) | (refine nf ?_; first | assumption | omega) | (simp [*]; done))) | refine AW_seq ?_ | refine AW_ret ?_ | refine ret_done ?_ | refine norm_then ?_ | refine exit_then ?_ | refine exit_round ?_ | refine AW_exit ?_ | refine exit_block ?_)
    refine outs_clus rfl ?_ rfl
    simp [copP]
set_option maxRecDepth 8000 in
theorem toPuzzle_spec (g : Int) (C : List Clu) (hC : C.length ≤ 1048576) : Sp Tryd.prog 8 [pzl g C] (newPz g C) := by
  refine specC_of Tryd.func8 rfl cc8 (by rfl) ?_
  unfold ac8
  repeat (first | (refine step_ops ?_; (first | (apply m_ld_pt; (· rfl); (· rfl); (· rfl)) | (apply m_st; (· rfl); (· rfl); (· rfl); (· first | omega | (simp; done) | (simp; omega)); (· rfl)) | (refine m_alloc ?_) | (refine m_fa rfl ?_) | (refine m_box rfl ?_ ?_; (· first | rfl | (simp [cellOk, Value.oneCell']; done))))) | refine end_ops ?_ | refine seq_ops ?_)
  refine step_ops ?_
  refine m_callo (toClueS_spec C hC) ?_ (cls_plain C) ?_
  · exact lends_cons lend_cls lends_nil
  repeat (refine step_ops ?_; (refine m_fa rfl ?_))
  refine step_opsW (weak_deep (r := 3) rfl (by simp) rfl) ?_
  refine m_st (v := .sl 9 3 0 C.length) rfl rfl rfl (by simp) rfl ?_
  repeat (first | (refine step_ops ?_; (refine m_ldall rfl rfl ?_ ?_; (· first | rfl | (simp; done) | (simp [*]; done)))) | refine end_ops ?_ | refine seq_ops ?_)
  refine step_opsW (weak_deep (r := 2) rfl (by simp) rfl) ?_
  refine m_stall (l := [.i g, .sl 9 3 0 C.length]) rfl rfl rfl rfl rfl rfl ?_
  repeat (first | refine end_ops ?_ | refine AW_ret ?_)
  refine ret_donec rfl rfl rfl ?_
  exact outs_agg2 (outs_i rfl) (outs_clus rfl rfl rfl)
theorem szClueS_spec (C : List Clu) (hC : C.length ≤ 9223372036854775807) : Sp Tryd.prog 19 [.ro false 3 (cls C) C.length, .i 1048576] (.i (if C.length ≤ 1048576 then 1048576 - C.length else -1)) := by
  refine spec_of Tryd.func19 rfl cc19 rfl ?_
  unfold ac19
  by_cases h : C.length ≤ 1048576
  · rw [if_pos h]
    repeat (first | (refine step_ops ?_; (first | (refine m_mov (by conv => lhs; whnf) ?_) | (refine m_lss rfl rfl ?_) | (refine m_sub rfl rfl ?_ ?_ ?_; (· omega); (· omega)) | (refine m_len_ro rfl ?_))) | refine end_ops ?_ | refine seq_ops ?_ | (refine cond_f rfl ?_ ?_; (· first | rfl | assumption | (refine decide_eq_false ?_; first | assumption | omega) | (refine nf ?_; first | assumption | omega) | (simp [*]; done))) | refine skip_then ?_ | refine AW_seq ?_ | refine AW_ret ?_ | refine ret_done ?_)
    exact outs_i rfl
  · rw [if_neg h]
    repeat (first | (refine step_ops ?_; (first | (refine m_mov (by conv => lhs; whnf) ?_) | (refine m_lss rfl rfl ?_) | (refine m_sub rfl rfl ?_ ?_ ?_; (· omega); (· omega)) | (refine m_len_ro rfl ?_))) | refine end_ops ?_ | refine seq_ops ?_ | (refine cond_t rfl ?_ ?_; (· first | rfl | assumption | (refine decide_eq_true ?_; first | assumption | omega) | (refine nt ?_; first | assumption | omega) | (simp [*]; done))) | refine AW_seq ?_ | refine AW_ret ?_ | refine ret_done ?_ | refine ret_then ?_)
    exact outs_i rfl
theorem szPuzzle_spec (g : Int) (C : List Clu) (hC : C.length ≤ 9223372036854775807) : Sp Tryd.prog 6 [pzl g C, .i 1048576] (.i (if C.length ≤ 1048576 then 1048576 - C.length else -1)) := by
  have hs := szClueS_spec C hC
  refine spec_of Tryd.func6 rfl cc6 rfl ?_
  unfold ac6
  by_cases h : C.length ≤ 1048576
  · rw [if_pos h] at hs ⊢
    repeat (first | (refine step_ops ?_; (first | (refine m_mov (by conv => lhs; whnf) ?_) | (apply m_ld_pt; (· rfl); (· rfl); (· rfl)) | (refine m_fa rfl ?_) | (refine m_box rfl ?_ ?_; (· first | rfl | (simp [cellOk, Value.oneCell']; done))))) | refine end_ops ?_ | refine seq_ops ?_)
    (refine step_ops ?_); (apply m_call (hs)); (· repeat (first | exact lends_nil | (refine lends_cons ?_ ?_; (· (first | exact lend_v | exact lend_cls)))))
    repeat (first | (refine step_ops ?_; (first | (refine m_mov (by conv => lhs; whnf) ?_) | (refine m_lss rfl rfl ?_))) | refine end_ops ?_ | refine seq_ops ?_ | (refine cond_f rfl ?_ ?_; (· first | rfl | assumption | (refine decide_eq_false ?_; first | assumption | omega) | (refine nf ?_; first | assumption | omega) | (simp [*]; done))) | refine skip_then ?_ | refine AW_seq ?_ | refine AW_ret ?_ | refine ret_done ?_)
    exact outs_i rfl
  · rw [if_neg h] at hs ⊢
    repeat (first | (refine step_ops ?_; (first | (refine m_mov (by conv => lhs; whnf) ?_) | (apply m_ld_pt; (· rfl); (· rfl); (· rfl)) | (refine m_fa rfl ?_) | (refine m_box rfl ?_ ?_; (· first | rfl | (simp [cellOk, Value.oneCell']; done))))) | refine end_ops ?_ | refine seq_ops ?_)
    (refine step_ops ?_); (apply m_call (hs)); (· repeat (first | exact lends_nil | (refine lends_cons ?_ ?_; (· (first | exact lend_v | exact lend_cls)))))
    repeat (first | (refine step_ops ?_; (first | (refine m_mov (by conv => lhs; whnf) ?_) | (refine m_lss rfl rfl ?_))) | refine end_ops ?_ | refine seq_ops ?_ | (refine cond_t rfl ?_ ?_; (· first | rfl | assumption | (refine decide_eq_true ?_; first | assumption | omega) | (refine nt ?_; first | assumption | omega) | (simp [*]; done))) | refine AW_seq ?_ | refine AW_ret ?_ | refine ret_done ?_ | refine ret_then ?_)
    exact outs_i rfl
theorem eqClue_spec (k a b l c d : Int) : Sp Tryd.prog 42 [.agg [.i k, .i a, .i b], .agg [.i l, .i c, .i d]] (.b (decide (((k, a, b) : Clu) = (l, c, d)))) := by
  have e : decide (((k, a, b) : Clu) = (l, c, d)) = decide (k = l ∧ a = c ∧ b = d) := by simp
  rw [e]
  refine spec_of Tryd.func42 rfl cc42 rfl ?_
  unfold ac42
  refine seq_ops ?_
  refine step_ops ?_
  refine m_box (l := [.i k, .i a, .i b]) rfl rfl ?_
  refine step_ops ?_
  refine m_box (l := [.i l, .i c, .i d]) rfl rfl ?_
  by_cases h1 : k = l
  · by_cases h2 : a = c
    · by_cases h3 : b = d
      · repeat (first | (refine step_ops ?_; (first | (refine m_mov (by conv => lhs; whnf) ?_) | (refine m_neq rfl rfl ?_) | (apply m_ld_pt; (· rfl); (· rfl); (· rfl)) | (refine m_fa rfl ?_))) | refine end_ops ?_ | refine seq_ops ?_ | (refine cond_f rfl ?_ ?_; (· first | rfl | assumption | (refine decide_eq_false ?_; first | assumption | omega) | (refine nf ?_; first | assumption | omega) | (simp [*]; done))) | refine skip_then ?_ | refine AW_seq ?_ | refine AW_ret ?_ | refine ret_done ?_)
        exact outs_b (by simp [h1, h2, h3])
      · repeat (first | (refine step_ops ?_; (first | (refine m_mov (by conv => lhs; whnf) ?_) | (refine m_neq rfl rfl ?_) | (apply m_ld_pt; (· rfl); (· rfl); (· rfl)) | (refine m_fa rfl ?_))) | refine end_ops ?_ | refine seq_ops ?_ | (refine cond_t rfl ?_ ?_; (· first | rfl | assumption | (refine decide_eq_true ?_; first | assumption | omega) | (refine nt ?_; first | assumption | omega) | (simp [*]; done))) | (refine cond_f rfl ?_ ?_; (· first | rfl | assumption | (refine decide_eq_false ?_; first | assumption | omega) | (refine nf ?_; first | assumption | omega) | (simp [*]; done))) | refine skip_then ?_ | refine AW_seq ?_ | refine AW_ret ?_ | refine ret_done ?_ | refine ret_then ?_)
        exact outs_b (by simp [h3])
    · repeat (first | (refine step_ops ?_; (first | (refine m_mov (by conv => lhs; whnf) ?_) | (refine m_neq rfl rfl ?_) | (apply m_ld_pt; (· rfl); (· rfl); (· rfl)) | (refine m_fa rfl ?_))) | refine end_ops ?_ | refine seq_ops ?_ | (refine cond_t rfl ?_ ?_; (· first | rfl | assumption | (refine decide_eq_true ?_; first | assumption | omega) | (refine nt ?_; first | assumption | omega) | (simp [*]; done))) | (refine cond_f rfl ?_ ?_; (· first | rfl | assumption | (refine decide_eq_false ?_; first | assumption | omega) | (refine nf ?_; first | assumption | omega) | (simp [*]; done))) | refine skip_then ?_ | refine AW_seq ?_ | refine AW_ret ?_ | refine ret_done ?_ | refine ret_then ?_)
      exact outs_b (by simp [h2])
  · repeat (first | (refine step_ops ?_; (first | (refine m_mov (by conv => lhs; whnf) ?_) | (refine m_neq rfl rfl ?_) | (apply m_ld_pt; (· rfl); (· rfl); (· rfl)) | (refine m_fa rfl ?_))) | refine end_ops ?_ | refine seq_ops ?_ | (refine cond_t rfl ?_ ?_; (· first | rfl | assumption | (refine decide_eq_true ?_; first | assumption | omega) | (refine nt ?_; first | assumption | omega) | (simp [*]; done))) | refine AW_seq ?_ | refine AW_ret ?_ | refine ret_done ?_ | refine ret_then ?_)
    exact outs_b (by simp [h1])
theorem eqClueS_spec (C D : List Clu) (hC : C.length ≤ 1048576) : Sp Tryd.prog 27 [.ro false 3 (cls C) C.length, .ro false 3 (cls D) D.length] (.b (decide (C = D))) := by
  refine spec_of Tryd.func27 rfl cc27 rfl ?_
  unfold ac27
  by_cases hlen : C.length = D.length
  · have hlen' : (decide ((C.length : Int) ≠ D.length)) = false := by simp [hlen]
    repeat (first | (refine step_ops ?_; (first | (refine m_mov (by conv => lhs; whnf) ?_) | (refine m_neq rfl rfl ?_) | (refine m_len_ro rfl ?_))) | refine end_ops ?_ | refine seq_ops ?_ | (refine cond_f rfl ?_ ?_; (· first | rfl | assumption | (refine decide_eq_false ?_; first | assumption | omega) | (refine nf ?_; first | assumption | omega) | (simp [*]; done))) | refine skip_then ?_ | refine AW_seq ?_ | refine AW_block ?_)
    refine AW_loop (α := Nat) (fun k => k ≤ C.length ∧ C.take k = D.take k) (fun k => st [(0, .ro false 3 (cls C) C.length), (1, .ro false 3 (cls D) D.length), (5, .i k)] []) (fun k => C.length - k) 0 (by simp) (weak_st ?_ ?_ rfl rfl) ?_
    · (repeat' (first | exact trivial | refine And.intro ?_ ?_)) <;> (first | rfl | skip)
    · trivial
    rintro k ⟨hk, he⟩
    by_cases h : k < C.length
    · have h' : k < D.length := by omega
      have hsn := take_snoc C k (0, 0, 0) h
      have hsn' := take_snoc D k (0, 0, 0) h'
      have hne : C.getD k (0, 0, 0) ≠ D.getD k (0, 0, 0) → ¬ C = D := fun hx e => hx (by rw [e])
      rcases hce : C.getD k (0, 0, 0) with ⟨c1, c2, c3⟩
      rcases hcd : D.getD k (0, 0, 0) with ⟨d1, d2, d3⟩
      rw [hce] at hsn
      rw [hcd] at hsn'
      rw [hce, hcd] at hne
      have heq := eqClue_spec c1 c2 c3 d1 d2 d3
      by_cases hx : ((c1, c2, c3) : Clu) = (d1, d2, d3)
      · rw [decide_eq_true hx] at heq
        repeat (first | ((first | refine step_ops ?_ | refine step_tree ?_); (first | (refine m_mov (by conv => lhs; whnf) ?_) | (refine m_lss rfl rfl ?_) | (refine m_len_ro rfl ?_) | (refine m_idx_ro rfl rfl ?_ ?_ ?_; (· omega); (· omega)))) | refine end_ops ?_ | refine seq_ops ?_ | refine seq_tree ?_ | (refine cond_t rfl ?_ ?_; (· first | rfl | assumption | (refine decide_eq_true ?_; first | assumption | omega) | (refine nt ?_; first | assumption | omega) | (simp [*]; done))) | refine skip_then ?_ | refine AW_seq ?_ | refine AW_block ?_)
        refine step_tree ?_
        refine m_ldClu h hce rfl ?_
        repeat (refine step_tree ?_; (first | (refine m_mov (by conv => lhs; whnf) ?_) | (refine m_idx_ro rfl rfl ?_ ?_ ?_; (· omega); (· omega))))
        refine step_tree ?_
        refine m_ldClu h' hcd rfl ?_
        skip
        refine step_tree ?_; (apply m_call (heq)); (· repeat (first | exact lends_nil | (refine lends_cons ?_ ?_; (· (refine lend_agg ?_; first | rfl | assumption | (simp [plainV]; done))))))
        repeat (first | ((first | refine step_ops ?_ | refine step_tree ?_); (first | (refine m_mov (by conv => lhs; whnf) ?_) | (refine m_add rfl rfl ?_ ?_ ?_; (· omega); (· omega)) | (refine m_not rfl ?_))) | refine end_ops ?_ | refine AW_ops ?_ | refine end_tree ?_ | (refine cond_f rfl ?_ ?_; (· first | rfl | assumption | (refine decide_eq_false ?_; first | assumption | omega) | (refine nf ?_; first | assumption | omega) | (simp [*]; done))) | refine norm_then ?_ | refine norm_block ?_ | refine AW_skip ?_)
        refine next_round (k + 1) ⟨h, ?_⟩ (weak_st ?_ ?_ rfl rfl) ?_
        · rw [hsn, hsn', he, hx]
        · (repeat' (first | exact trivial | refine And.intro ?_ ?_)) <;> (first | rfl | skip)
        · trivial
        · omega
      · rw [decide_eq_false hx] at heq
        repeat (first | ((first | refine step_ops ?_ | refine step_tree ?_); (first | (refine m_mov (by conv => lhs; whnf) ?_) | (refine m_lss rfl rfl ?_) | (refine m_len_ro rfl ?_) | (refine m_idx_ro rfl rfl ?_ ?_ ?_; (· omega); (· omega)))) | refine end_ops ?_ | refine seq_ops ?_ | refine seq_tree ?_ | (refine cond_t rfl ?_ ?_; (· first | rfl | assumption | (refine decide_eq_true ?_; first | assumption | omega) | (refine nt ?_; first | assumption | omega) | (simp [*]; done))) | refine skip_then ?_ | refine AW_seq ?_ | refine AW_block ?_)
        refine step_tree ?_
        refine m_ldClu h hce rfl ?_
        repeat (refine step_tree ?_; (first | (refine m_mov (by conv => lhs; whnf) ?_) | (refine m_idx_ro rfl rfl ?_ ?_ ?_; (· omega); (· omega))))
        refine step_tree ?_
        refine m_ldClu h' hcd rfl ?_
        skip
        refine step_tree ?_; (apply m_call (heq)); (· repeat (first | exact lends_nil | (refine lends_cons ?_ ?_; (· (refine lend_agg ?_; first | rfl | assumption | (simp [plainV]; done))))))
        repeat (first | ((first | refine step_ops ?_ | refine step_tree ?_); (first | (refine m_mov (by conv => lhs; whnf) ?_) | (refine m_not rfl ?_))) | refine end_ops ?_ | refine seq_ops ?_ | refine end_tree ?_ | (refine cond_t rfl ?_ ?_; (· first | rfl | assumption | (refine decide_eq_true ?_; first | assumption | omega) | (refine nt ?_; first | assumption | omega) | (simp [*]; done))) | refine AW_ret ?_ | refine ret_done ?_ | refine ret_then ?_ | refine ret_block ?_ | refine ret_round ?_)
        exact outs_b (decide_eq_false (hne hx)).symm
    · obtain rfl : k = C.length := by omega
      rw [List.take_length, List.take_of_length_le (by omega)] at he
      repeat (first | (refine step_ops ?_; (first | (refine m_mov (by conv => lhs; whnf) ?_) | (refine m_lss rfl rfl ?_) | (refine m_len_ro rfl ?_))) | refine end_ops ?_ | refine seq_ops ?_ | (refine cond_f rfl ?_ ?_; (· first | rfl | assumption | (refine decide_eq_false ?_; first | assumption | omega) | (refine nf ?_; first | assumption | omega) | (simp [*]; done))) | refine AW_seq ?_ | refine AW_ret ?_ | refine ret_done ?_ | refine norm_then ?_ | refine exit_then ?_ | refine exit_round ?_ | refine AW_exit ?_ | refine exit_block ?_)
      exact outs_b (decide_eq_true he).symm
  · have hlen' : (decide ((C.length : Int) ≠ D.length)) = true := by simp; omega
    repeat (first | (refine step_ops ?_; (first | (refine m_mov (by conv => lhs; whnf) ?_) | (refine m_neq rfl rfl ?_) | (refine m_len_ro rfl ?_))) | refine end_ops ?_ | refine seq_ops ?_ | (refine cond_t rfl ?_ ?_; (· first | rfl | assumption | (refine decide_eq_true ?_; first | assumption | omega) | (refine nt ?_; first | assumption | omega) | (simp [*]; done))) | refine AW_seq ?_ | refine AW_ret ?_ | refine ret_done ?_ | refine ret_then ?_)
    exact outs_b (decide_eq_false fun e => hlen (by rw [e])).symm
theorem eqPuzzle_spec (g h : Int) (C D : List Clu) (hC : C.length ≤ 1048576) : Sp Tryd.prog 10 [pzl g C, pzl h D] (.b (decide (g = h ∧ C = D))) := by
  have hs := eqClueS_spec C D hC
  refine spec_of Tryd.func10 rfl cc10 rfl ?_
  unfold ac10
  by_cases hc : g = h
  · by_cases hx : C = D
    · rw [decide_eq_true hx] at hs
      repeat (first | (refine step_ops ?_; (first | (refine m_mov (by conv => lhs; whnf) ?_) | (refine m_neq rfl rfl ?_) | (apply m_ld_pt; (· rfl); (· rfl); (· rfl)) | (refine m_fa rfl ?_) | (refine m_box rfl ?_ ?_; (· first | rfl | (simp [cellOk, Value.oneCell']; done))))) | refine end_ops ?_ | refine seq_ops ?_ | (refine cond_f rfl ?_ ?_; (· first | rfl | assumption | (refine decide_eq_false ?_; first | assumption | omega) | (refine nf ?_; first | assumption | omega) | (simp [*]; done))) | refine skip_then ?_ | refine AW_seq ?_)
      (refine step_ops ?_); (apply m_call (hs)); (· repeat (first | exact lends_nil | (refine lends_cons ?_ ?_; (· exact lend_cls))))
      repeat (first | (refine step_ops ?_; (first | (refine m_mov (by conv => lhs; whnf) ?_) | (refine m_not rfl ?_))) | refine end_ops ?_ | refine seq_ops ?_ | (refine cond_f rfl ?_ ?_; (· first | rfl | assumption | (refine decide_eq_false ?_; first | assumption | omega) | (refine nf ?_; first | assumption | omega) | (simp [*]; done))) | refine skip_then ?_ | refine AW_ret ?_ | refine ret_done ?_)
      exact outs_b (by simp [hc, hx])
    · rw [decide_eq_false hx] at hs
      repeat (first | (refine step_ops ?_; (first | (refine m_mov (by conv => lhs; whnf) ?_) | (refine m_neq rfl rfl ?_) | (apply m_ld_pt; (· rfl); (· rfl); (· rfl)) | (refine m_fa rfl ?_) | (refine m_box rfl ?_ ?_; (· first | rfl | (simp [cellOk, Value.oneCell']; done))))) | refine end_ops ?_ | refine seq_ops ?_ | (refine cond_f rfl ?_ ?_; (· first | rfl | assumption | (refine decide_eq_false ?_; first | assumption | omega) | (refine nf ?_; first | assumption | omega) | (simp [*]; done))) | refine skip_then ?_ | refine AW_seq ?_)
      (refine step_ops ?_); (apply m_call (hs)); (· repeat (first | exact lends_nil | (refine lends_cons ?_ ?_; (· exact lend_cls))))
      repeat (first | (refine step_ops ?_; (first | (refine m_mov (by conv => lhs; whnf) ?_) | (refine m_not rfl ?_))) | refine end_ops ?_ | refine seq_ops ?_ | (refine cond_t rfl ?_ ?_; (· first | rfl | assumption | (refine decide_eq_true ?_; first | assumption | omega) | (refine nt ?_; first | assumption | omega) | (simp [*]; done))) | refine AW_ret ?_ | refine ret_done ?_ | refine ret_then ?_)
      exact outs_b (by simp [hx])
  · repeat (first | (refine step_ops ?_; (first | (refine m_mov (by conv => lhs; whnf) ?_) | (refine m_neq rfl rfl ?_) | (apply m_ld_pt; (· rfl); (· rfl); (· rfl)) | (refine m_fa rfl ?_) | (refine m_box rfl ?_ ?_; (· first | rfl | (simp [cellOk, Value.oneCell']; done))))) | refine end_ops ?_ | refine seq_ops ?_ | (refine cond_t rfl ?_ ?_; (· first | rfl | assumption | (refine decide_eq_true ?_; first | assumption | omega) | (refine nt ?_; first | assumption | omega) | (simp [*]; done))) | refine AW_seq ?_ | refine AW_ret ?_ | refine ret_done ?_ | refine ret_then ?_)
    exact outs_b (by simp [hc])
end Go.Proofs.YtjgcmbihbeokeaaDoor
namespace Go.Proofs
open Go.Shelf
def Tryd.lays156_ren : Go.Shelf.Ren := ⟨fun | 156 => 26 | 165 => 39 | 166 => 40 | 169 => 41 | 240 => 59 | 241 => 60 | 276 => 75 | 277 => 76 | n => n, fun | 31 => 47 | 9 => 9 | 3 => 3 | 4 => 4 | 0 => 0 | 20 => 20 | 72 => 66 | 76 => 70 | 70 => 63 | 37 => 64 | 75 => 69 | 127 => 85 | 164 => 101 | 5 => 5 | 80 => 72 | n => n, fun | n => n⟩
theorem Tryd.lays156 : Go.Proofs.Lays.n156 Tryd.prog Tryd.lays156_ren := {
  mixed := by kernel_rfl
  f156 := Tryd.func26.trans (congrArg some (by kernel_rfl))
  f165 := Tryd.func39.trans (congrArg some (by kernel_rfl))
  f166 := Tryd.func40.trans (congrArg some (by kernel_rfl))
  f169 := Tryd.func41.trans (congrArg some (by kernel_rfl))
  f240 := Tryd.func59.trans (congrArg some (by kernel_rfl))
  f241 := Tryd.func60.trans (congrArg some (by kernel_rfl))
  f276 := Tryd.func75.trans (congrArg some (by kernel_rfl))
  f277 := Tryd.func76.trans (congrArg some (by kernel_rfl))
  t0 := Tryd.underlying0
  a0 := Tryd.isAgg0
  z0 := Tryd.sizeOf0
  v0 := Tryd.zeroValue0
  t3 := Tryd.underlying3
  a3 := Tryd.isAgg3
  z3 := Tryd.sizeOf3
  v3 := Tryd.zeroValue3
  t4 := Tryd.underlying4
  a4 := Tryd.isAgg4
  z4 := Tryd.sizeOf4
  v4 := Tryd.zeroValue4
  t9 := Tryd.underlying9
  a9 := Tryd.isAgg9
  z9 := Tryd.sizeOf9
  v9 := Tryd.zeroValue9
  t20 := Tryd.underlying20
  a20 := Tryd.isAgg20
  z20 := Tryd.sizeOf20
  v20 := Tryd.zeroValue20
  t31 := Tryd.underlying47
  a31 := Tryd.isAgg47
  z31 := Tryd.sizeOf47
  v31 := Tryd.zeroValue47
  t37 := Tryd.underlying64
  a37 := Tryd.isAgg64
  z37 := Tryd.sizeOf64
  v37 := Tryd.zeroValue64
  t70 := Tryd.underlying63
  a70 := Tryd.isAgg63
  z70 := Tryd.sizeOf63
  v70 := Tryd.zeroValue63
  t72 := Tryd.underlying66
  a72 := Tryd.isAgg66
  z72 := Tryd.sizeOf66
  v72 := Tryd.zeroValue66
  t75 := Tryd.underlying69
  a75 := Tryd.isAgg69
  z75 := Tryd.sizeOf69
  v75 := Tryd.zeroValue69
  t76 := Tryd.underlying70
  a76 := Tryd.isAgg70
  z76 := Tryd.sizeOf70
  v76 := Tryd.zeroValue70
  t127 := Tryd.underlying85
  a127 := Tryd.isAgg85
  z127 := Tryd.sizeOf85
  v127 := Tryd.zeroValue85
  t164 := Tryd.underlying101
  a164 := Tryd.isAgg101
  z164 := Tryd.sizeOf101
  v164 := Tryd.zeroValue101 }
theorem Tryd.Builder_Extra_156 : Builder.Extra Tryd.prog Tryd.lays156_ren := {
  sizeBuilder := by kernel_rfl
  liesBuilder := by kernel_rfl
  t5 := Tryd.underlying5
  a5 := Tryd.isAgg5
  z5 := Tryd.sizeOf5
  v5 := Tryd.zeroValue5
  infoByte := by kernel_rfl
  cellsByte := by kernel_rfl
  sizeByte := by kernel_rfl
  neB5 := by decide }
open Go.RowKit in
/-- No element: the empty string; the world is asx it was. (Whatever the slice's address and capacity: a nil slice too.) (LAID: no walk: one application.) -/
theorem Tryd.strings_Join_none (a : Option Addr) (c : Nat) (sep : ByteArray) (w : World) :
    Calls Tryd.prog 26 #[.slice a 0 c, .string sep] w fun e w' => e = .returned (.string ⟨#[]⟩) ∧ w' = w := Any.strings_Join_none Tryd.lays156 Tryd.Builder_Extra_156 a c sep w
open Go.RowKit in
/-- strings.Join: "Join concatenates the elements of its first argument to create a single string. The separator string sep is placed between elements in the resulting string.": HOWEVER MANY ELEMENTS. Below the heap's end the world is asx it was. (LAID: no walk: one application.) -/
theorem Tryd.strings_Join (bk o c : Nat) (xs : List ByteArray) (sep : ByteArray) (w : World) (hcells : ∀ (j : Nat) x, xs[j]? = some x → w.cell? ⟨bk, o + j, none⟩ = some (.string x)) (hbk : bk < w.heap.size) (hN : xs.length ≤ 140737488355328) (hcap : xs.length ≤ c) (hlen : (Lib.join (xs.map (·.data.toList)) sep.data.toList).length ≤ 140737488355328) :
    Calls Tryd.prog 26 #[.slice (some ⟨bk, o, none⟩) xs.length c, .string sep] w fun e w' => e = .returned (.string ⟨(Lib.join (xs.map (·.data.toList)) sep.data.toList).toArray⟩) ∧ Below w.heap.size w w' := Any.strings_Join Tryd.lays156 Tryd.Builder_Extra_156 bk o c xs sep w hcells hbk hN hcap hlen
def Tryd.lays171_ren : Go.Shelf.Ren := ⟨fun | 171 => 25 | 243 => 38 | 246 => 58 | 283 => 71 | 284 => 72 | 285 => 73 | 286 => 74 | 129 => 89 | 317 => 88 | 318 => 90 | 319 => 91 | 320 => 92 | 337 => 106 | 338 => 107 | n => n, fun | 3 => 3 | 9 => 9 | 2 => 2 | 4 => 4 | 171 => 95 | 0 => 0 | 53 => 96 | 37 => 64 | 5 => 5 | 173 => 99 | 212 => 117 | 51 => 118 | 20 => 20 | 213 => 119 | 46 => 120 | 232 => 151 | 233 => 152 | n => n, fun | 17 => 0 | 18 => 4 | 19 => 5 | n => n⟩
theorem Tryd.lays171 : Go.Proofs.Lays.n171 Tryd.prog Tryd.lays171_ren := {
  mixed := by kernel_rfl
  f129 := Tryd.func89.trans (congrArg some (by kernel_rfl))
  f171 := Tryd.func25.trans (congrArg some (by kernel_rfl))
  f243 := Tryd.func38.trans (congrArg some (by kernel_rfl))
  f246 := Tryd.func58.trans (congrArg some (by kernel_rfl))
  f283 := Tryd.func71.trans (congrArg some (by kernel_rfl))
  f284 := Tryd.func72.trans (congrArg some (by kernel_rfl))
  f285 := Tryd.func73.trans (congrArg some (by kernel_rfl))
  f286 := Tryd.func74.trans (congrArg some (by kernel_rfl))
  f317 := Tryd.func88.trans (congrArg some (by kernel_rfl))
  f318 := Tryd.func90.trans (congrArg some (by kernel_rfl))
  f319 := Tryd.func91.trans (congrArg some (by kernel_rfl))
  f320 := Tryd.func92.trans (congrArg some (by kernel_rfl))
  f337 := Tryd.func106.trans (congrArg some (by kernel_rfl))
  f338 := Tryd.func107.trans (congrArg some (by kernel_rfl))
  t0 := Tryd.underlying0
  a0 := Tryd.isAgg0
  z0 := Tryd.sizeOf0
  v0 := Tryd.zeroValue0
  t2 := Tryd.underlying2
  a2 := Tryd.isAgg2
  z2 := Tryd.sizeOf2
  v2 := Tryd.zeroValue2
  t3 := Tryd.underlying3
  a3 := Tryd.isAgg3
  z3 := Tryd.sizeOf3
  v3 := Tryd.zeroValue3
  t4 := Tryd.underlying4
  a4 := Tryd.isAgg4
  z4 := Tryd.sizeOf4
  v4 := Tryd.zeroValue4
  t5 := Tryd.underlying5
  a5 := Tryd.isAgg5
  z5 := Tryd.sizeOf5
  v5 := Tryd.zeroValue5
  t9 := Tryd.underlying9
  a9 := Tryd.isAgg9
  z9 := Tryd.sizeOf9
  v9 := Tryd.zeroValue9
  t20 := Tryd.underlying20
  a20 := Tryd.isAgg20
  z20 := Tryd.sizeOf20
  v20 := Tryd.zeroValue20
  t37 := Tryd.underlying64
  a37 := Tryd.isAgg64
  z37 := Tryd.sizeOf64
  v37 := Tryd.zeroValue64
  t46 := Tryd.underlying120
  a46 := Tryd.isAgg120
  z46 := Tryd.sizeOf120
  v46 := Tryd.zeroValue120
  t51 := Tryd.underlying118
  a51 := Tryd.isAgg118
  z51 := Tryd.sizeOf118
  v51 := Tryd.zeroValue118
  t53 := Tryd.underlying96
  a53 := Tryd.isAgg96
  z53 := Tryd.sizeOf96
  v53 := Tryd.zeroValue96
  t171 := Tryd.underlying95
  a171 := Tryd.isAgg95
  z171 := Tryd.sizeOf95
  v171 := Tryd.zeroValue95
  t173 := Tryd.underlying99
  a173 := Tryd.isAgg99
  z173 := Tryd.sizeOf99
  v173 := Tryd.zeroValue99
  t212 := Tryd.underlying117
  a212 := Tryd.isAgg117
  z212 := Tryd.sizeOf117
  v212 := Tryd.zeroValue117
  t213 := Tryd.underlying119
  a213 := Tryd.isAgg119
  z213 := Tryd.sizeOf119
  t232 := Tryd.underlying151
  a232 := Tryd.isAgg151
  z232 := Tryd.sizeOf151
  v232 := Tryd.zeroValue151
  t233 := Tryd.underlying152
  a233 := Tryd.isAgg152
  z233 := Tryd.sizeOf152
  v233 := Tryd.zeroValue152
  g17 := by kernel_rfl
  g18 := by kernel_rfl
  g19 := by kernel_rfl }
open Go.RowKit Go.Sort Go.Lib in
/-- THE ROAD WITHOUT THE TABLE: 0 <= i < 100: NO PREMISE ON THE WORLD, AND THE WORLD IS AS IT WAS: a row that keeps its argument in that range need list no table ('laid = []'). (LAID: no walk: one application.) -/
theorem Tryd.strconv_Itoa_small (i : Nat) (hi : i < 100) (w : World) :
    Calls Tryd.prog 25 #[.int .i64 i] w fun e w' => e = .returned (.string ⟨(Lib.decDigits i).toArray⟩) ∧ w' = w := Any.strconv_Itoa_small Tryd.lays171 i hi w
end Go.Proofs
namespace Go.Am
/-- A call whose values are told, and that changes nothing. -/
theorem sp_same {P : Program} {f : FuncId} {x y : Value} (h : ∀ w, Calls P f #[x] w fun e w' => e = .returned y ∧ w' = w) : Sp P f [.v x] (.v y) := by
  intro w vs _ hent
  obtain ⟨hs, hl⟩ := hent
  obtain ⟨l⟩ := vs
  match l with
  | [] => simp at hl
  | [a] =>
    simp only [SimL, SimV, and_true] at hs
    subst hs
    refine (h w).mono fun e w' hp => ?_
    obtain ⟨rfl, rfl⟩ := hp
    exact ⟨y, rfl, More.refl _, by simp [SimV]⟩
  | _ :: _ :: _ => simp at hl
/-- Texts asx values. -/
def strsA (l : List (List UInt8)) : List AV := l.map fun r => str r
/-- A call with a slice of texts and one text more. -/
theorem sp_join {P : Program} {f : FuncId} {ls : List (List UInt8)} {sep : List UInt8} {y : Value}
    (h0 : ls = [] → ∀ a c w, Calls P f #[.slice a 0 c, .string ⟨sep.toArray⟩] w fun e w' => e = .returned y ∧ w' = w)
    (h : ∀ (bk o c : Nat) (w : World), (∀ (j : Nat) x, (ls.map fun r => (⟨r.toArray⟩ : ByteArray))[j]? = some x → w.cell? ⟨bk, o + j, none⟩ = some (.string x)) → bk < w.heap.size → ls.length ≤ c →
      Calls P f #[.slice (some ⟨bk, o, none⟩) ls.length c, .string ⟨sep.toArray⟩] w fun e w' => e = .returned y ∧ RowKit.Below w.heap.size w w') :
    Sp P f [.ro false 1 (strsA ls) ls.length, str sep] (.v y) := by
  intro w vs _ hent
  obtain ⟨hs, hl⟩ := hent
  obtain ⟨l⟩ := vs
  match l with
  | [] => simp at hl
  | [_] => simp at hl
  | _ :: _ :: _ :: _ => simp at hl
  | [a, b] =>
    simp only [SimL, and_true] at hs
    obtain ⟨ha, hb⟩ := hs
    simp only [SimV] at ha hb
    subst hb
    rcases ha with ⟨hn, _, ad, c, rfl, _⟩ | ⟨bk, o, cap, cur, e, fz, rfl, hc, _, hlen, hcap, _, hsim⟩
    · have : ls = [] := List.eq_nil_of_length_eq_zero hn
      refine (h0 this ad c w).mono fun e w' hp => ?_
      obtain ⟨rfl, rfl⟩ := hp
      exact ⟨y, rfl, More.refl _, by simp [SimV]⟩
    · refine (h bk o cap w (fun j x hx => ?_) (lt_of_get hc) hcap).mono fun e w' hp => ?_
      · have hj : (strsA ls)[j]? = some (.v (.string x)) := by
          unfold strsA
          rw [List.getElem?_map] at hx ⊢
          cases hh : ls[j]? with
          | none => rw [hh] at hx; cases hx
          | some r => rw [hh] at hx; cases hx; rfl
        obtain ⟨z, hz, hzz⟩ := hsim.get hj
        simp only [SimV] at hzz
        subst hzz
        rw [List.getElem?_drop] at hz
        show w.cell? ⟨bk, o + j, none⟩ = _
        unfold World.cell?
        simp only [hc]
        simpa using hz
      · obtain ⟨rfl, hw⟩ := hp
        exact ⟨y, rfl, ⟨hw.os, hw.tape, hw.output, hw.size, hw.block⟩, by simp [SimV]⟩
end Go.Am
namespace Go.Proofs.YtjgcmbihbeokeaaDoor
open Go.Am
theorem itoa_spec (i : Nat) (h : i < 100) : Sp Tryd.prog 25 [.i i] (str (Lib.decDigits i)) := sp_same fun w => Tryd.strconv_Itoa_small i h w
theorem join_spec (ls : List (List UInt8)) (sep : List UInt8) (h1 : ls.length ≤ 1000000) (h2 : (Lib.join ls sep).length ≤ 1000000) : Sp Tryd.prog 26 [.ro false 1 (strsA ls) ls.length, str sep] (str (Lib.join ls sep)) := by
  have e : (ls.map fun r => (⟨r.toArray⟩ : ByteArray)).map (·.data.toList) = ls := by rw [List.map_map]; simp [Function.comp_def]
  refine sp_join (fun h0 a c w => ?_) fun bk o c w hc hb hcap => ?_
  · subst h0
    exact Tryd.strings_Join_none a c ⟨sep.toArray⟩ w
  · have := Tryd.strings_Join bk o c (ls.map fun r => (⟨r.toArray⟩ : ByteArray)) ⟨sep.toArray⟩ w hc hb (by rw [List.length_map]; omega) (by rw [List.length_map]; exact hcap) (by rw [e]; show (Lib.join ls sep).length ≤ _; omega)
    rw [e, List.length_map] at this
    exact this
end Go.Proofs.YtjgcmbihbeokeaaDoor
namespace Go.Proofs.YtjgcmbihbeokeaaDoor
open Go.Am
attribute [local irreducible] AW Outs Weak Lends Lend Sp aops atree aop1 Then Round InBlock Done
/-- A digit. -/
def dg (n : Nat) : UInt8 := UInt8.ofNat (48 + n)
theorem dg_wrap : ∀ n < 10, IntKind.u8.wrap (48 + (n : Nat)) = ((dg n).toNat : Int) := by decide +kernel
theorem dec_one {n : Nat} (h : n < 10) : Lib.decDigits n = [dg n] := by rw [Lib.decDigits, dif_pos h]; rfl
theorem dec_two {n : Nat} (h : 10 ≤ n) (h2 : n < 100) : Lib.decDigits n = [dg (n / 10), dg (n % 10)] := by
  rw [Lib.decDigits, dif_neg (by omega), dec_one (by omega)]; rfl
theorem l1Num_one (n : Nat) (h : n < 10) : Sp Tryd.prog 35 [.i n] (str [dg n]) := by
  have hw := dg_wrap n h
  refine spec_of Tryd.func35 rfl cc35 rfl ?_
  unfold ac35
  repeat (first | (refine step_ops ?_; (first | (refine m_mov (by conv => lhs; whnf) ?_) | (refine m_lss rfl rfl ?_) | (refine m_add rfl rfl ?_ ?_ ?_; (· omega); (· omega)) | (refine m_bsl1 rfl rfl ?_) | (refine m_cvt rfl ?_))) | refine end_ops ?_ | refine seq_ops ?_ | (refine cond_t rfl ?_ ?_; (· first | rfl | assumption | (refine decide_eq_true ?_; first | assumption | omega) | (refine nt ?_; first | assumption | omega) | (simp [*]; done))) | refine AW_seq ?_)
  rw [hw]
  skip
  refine step_ops ?_
  refine m_bts_sl (bs := [dg n]) rfl rfl rfl ?_
  repeat (first | (refine step_ops ?_; (refine m_mov (by conv => lhs; whnf) ?_)) | refine end_ops ?_ | refine AW_ret ?_ | refine ret_done ?_ | refine ret_then ?_)
  exact outs_v
theorem l1Num_two (n : Nat) (h : 10 ≤ n) (h2 : n < 100) : Sp Tryd.prog 35 [.i n] (str [dg (n / 10), dg (n % 10)]) := by
  have hw := dg_wrap (n % 10) (by omega)
  have hq : (n : Int) / 10 = ((n / 10 : Nat) : Int) := by omega
  have hr : (n : Int) % 10 = ((n % 10 : Nat) : Int) := by omega
  have hs := l1Num_one (n / 10) (by omega)
  rw [← hq] at hs
  rw [← hr] at hw
  refine spec_of Tryd.func35 rfl cc35 rfl ?_
  unfold ac35
  repeat' (first | ((first | ((first | refine step_ops ?_ | refine step_tree ?_); (first | (refine m_mov (by conv => lhs; whnf) ?_) | (refine m_lss rfl rfl ?_) | (refine m_add rfl rfl ?_ ?_ ?_; (· omega); (· omega)) | (refine m_bsl1 rfl rfl ?_) | (refine m_cvt rfl ?_) | (refine m_quo rfl rfl ?_ ?_ ?_ ?_; (· omega); (· omega); (· omega)) | (refine m_rem rfl rfl ?_ ?_ ?_; (· omega); (· omega)))) | refine end_ops ?_ | refine seq_ops ?_ | refine end_tree ?_ | refine seq_tree ?_ | (refine cond_f rfl ?_ ?_; (· first | rfl | assumption | (refine decide_eq_false ?_; first | assumption | omega) | (refine nf ?_; first | assumption | omega) | (simp [*]; done))) | refine skip_then ?_ | refine AW_seq ?_ | refine AW_ret ?_ | refine ret_done ?_)) | (refine step_two ?_ ?_) | (refine step_tree ?_; apply m_call hs; (· exact lends_cons lend_v lends_nil)) | (refine step_tree ?_; refine m_bts_sl (bs := [dg (n % 10)]) rfl (congrArg (fun c => some (true, [AV.v (Value.int IntKind.u8 c)])) hw) rfl ?_) | (refine step_tree ?_; refine m_adds rfl rfl ?_ ?_; (· simp)))
  all_goals exact outs_v
theorem l1Num_spec (n : Nat) (h : n < 100) : Sp Tryd.prog 35 [.i n] (str (Lib.decDigits n)) := by
  by_cases h1 : n < 10
  · rw [dec_one h1]; exact l1Num_one n h1
  · rw [dec_two (by omega) h]; exact l1Num_two n (by omega) h
/-- The numbers asx texts, and all in one. -/
def wrds (L : List Int) : List (List UInt8) := L.map fun x => Lib.decDigits x.toNat
theorem dec_len {n : Nat} (h : n < 100) : (Lib.decDigits n).length ≤ 2 := by
  by_cases h1 : n < 10
  · rw [dec_one h1]; simp
  · rw [dec_two (by omega) h]; simp
/-- What the words are behind k rounds. -/
def wrdC (L : List Int) (k : Nat) : List AV := strsA (wrds (L.take k)) ++ List.replicate (L.length - k) (str [])
theorem wrdC_len (L : List Int) (k : Nat) (h : k ≤ L.length) : (wrdC L k).length = L.length := by simp [wrdC, strsA, wrds]; omega
theorem wrdC_set (L : List Int) (k : Nat) (h : k < L.length) : (wrdC L k).set k (str (Lib.decDigits (L.getD k 0).toNat)) = wrdC L (k + 1) := by
  have hl : (strsA (wrds (L.take k))).length = k := by simp [strsA, wrds]; omega
  obtain ⟨j, hj⟩ : ∃ j, L.length - k = j + 1 := ⟨L.length - k - 1, by omega⟩
  have hj2 : L.length - (k + 1) = j := by omega
  unfold wrdC
  rw [hj, hj2, List.set_append_right _ _ (by omega), hl, Nat.sub_self, List.replicate_succ, List.set_cons_zero, take_snoc L k 0 h]
  simp [strsA, wrds]
theorem wrdC_all (L : List Int) : wrdC L L.length = strsA (wrds L) := by simp [wrdC]
theorem strs_all (l : List (List UInt8)) : (strsA l).all plainV = true := by simp [strsA, plainV]
/-- The numbers asx texts with a sign between them, all in one. -/
def txtC (c : UInt8) (L : List Int) : List UInt8 := Lib.join (wrds L) [c]
theorem txtC_snoc (c : UInt8) (L : List Int) (x : Int) : txtC c (L ++ [x]) = (if L = [] then [] else txtC c L ++ [c]) ++ Lib.decDigits x.toNat := by
  unfold txtC wrds
  rw [List.map_append]
  cases L with
  | nil => simp [Lib.join_one]
  | cons a l =>
    rw [if_neg (by simp), List.map_cons, List.cons_append, Lib.join_cons, Lib.join_cons]
    simp [Lib.joinTail]
theorem txtC_len (c : UInt8) (L : List Int) (h : ∀ x ∈ L, 0 ≤ x ∧ x < 100) (k : Nat) : (txtC c (L.take k)).length ≤ 3 * k := by
  induction k with
  | zero => simp [txtC, wrds, Lib.join_nil]
  | succ k ih =>
    by_cases hk : k < L.length
    · have hx := h _ (getD_mem hk)
      have hd := dec_len (n := (L.getD k 0).toNat) (by omega)
      rw [take_snoc L k 0 hk, txtC_snoc]
      split
      · simp only [List.nil_append]; omega
      · simp only [List.length_append, List.length_cons, List.length_nil]; omega
    · rw [List.take_of_length_le (by omega)] at ih ⊢
      omega
theorem numbersText_spec (L : List Int) (c : UInt8) (h12 : L.length ≤ 1000) (hall : ∀ x ∈ L, 0 ≤ x ∧ x < 100) : Sp Tryd.prog 24 [ints L, str [c]] (str (txtC c L)) := by
  refine spec_of Tryd.func24 rfl cc24 rfl ?_
  unfold ac24
  repeat (first | (refine step_ops ?_; (first | (refine m_mov (by conv => lhs; whnf) ?_) | (refine m_len_ro rfl ?_))) | refine end_ops ?_ | refine seq_ops ?_)
  refine step_ops ?_
  refine m_mk (n := L.length) rfl rfl ?_ ?_ ?_
  · omega
  · omega
  repeat (first | (refine step_ops ?_; (first | (refine m_mov (by conv => lhs; whnf) ?_) | (refine m_len_ro rfl ?_))) | refine end_ops ?_ | refine seq_ops ?_ | refine AW_seq ?_ | refine AW_block ?_)
  refine AW_loop (α := Nat) (fun k => k ≤ L.length) (fun k => st [(1, str [c]), (5, .sl 10 1 0 L.length), (11, ints L), (12, .i L.length), (13, .i k)] [(10, (true, wrdC L k))]) (fun k => L.length - k) 0 (by omega) (weak_st ?_ ?_ rfl rfl) ?_
  · (repeat' (first | exact trivial | refine And.intro ?_ ?_)) <;> (first | rfl | skip)
  · refine ⟨?_, trivial⟩
    show some (true, (List.replicate L.length (List.map AV.v [Value.string ⟨#[]⟩])).flatten) = _
    simp [wrdC, wrds, strsA, List.flatten_replicate_singleton]
  intro k hk
  have hwl := wrdC_len L k hk
  by_cases hc : k < L.length
  · have hr := hall _ (getD_mem hc)
    obtain ⟨x, hx⟩ := Int.eq_ofNat_of_zero_le hr.1
    have hws := wrdC_set L k hc
    rw [hx, Int.toNat_natCast] at hws
    repeat (first | (refine step_ops ?_; (first | (refine m_mov (by conv => lhs; whnf) ?_) | (refine m_lss rfl rfl ?_) | (refine m_idx1_ro rfl rfl ?_ ?_; (· omega)) | (refine m_ld_rpi rfl ?_ ?_; (· omega)))) | refine end_ops ?_ | refine seq_ops ?_ | refine AW_ops ?_ | (refine cond_t rfl ?_ ?_; (· first | rfl | assumption | (refine decide_eq_true ?_; first | assumption | omega) | (refine nt ?_; first | assumption | omega) | (simp [*]; done))) | refine skip_then ?_ | refine AW_seq ?_ | refine AW_block ?_)
    rw [hx]
    (refine step_ops ?_); (apply m_call (itoa_spec x (by omega))); (· repeat (first | exact lends_nil | (refine lends_cons ?_ ?_; (· exact lend_v))))
    repeat (first | (refine step_ops ?_; (first | (refine m_mov (by conv => lhs; whnf) ?_) | (refine m_add rfl rfl ?_ ?_ ?_; (· omega); (· omega)) | (refine m_idx1_sl rfl rfl ?_ ?_; (· omega)) | (apply m_st; (· rfl); (· rfl); (· rfl); (· first | omega | (simp; done) | (simp; omega)); (· rfl)))) | refine end_ops ?_ | refine AW_ops ?_ | refine norm_then ?_ | refine norm_block ?_)
    refine next_round (k + 1) (by omega) (weak_st ?_ ?_ rfl rfl) ?_
    · (repeat' (first | exact trivial | refine And.intro ?_ ?_)) <;> (first | rfl | skip)
    · refine ⟨?_, trivial⟩
      rw [← hws]
      rfl
    · omega
  · obtain rfl : k = L.length := by omega
    have hj := join_spec (wrds L) [c] (by simp [wrds]; omega) (by
      have := txtC_len c L hall L.length
      rw [List.take_length] at this
      show (txtC c L).length ≤ _
      omega)
    have hwn : (wrds L).length = L.length := by simp [wrds]
    rw [hwn] at hj
    rw [wrdC_all]
    repeat (first | (refine step_ops ?_; (first | (refine m_mov (by conv => lhs; whnf) ?_) | (refine m_lss rfl rfl ?_))) | refine end_ops ?_ | refine seq_ops ?_ | (refine cond_f rfl ?_ ?_; (· first | rfl | assumption | (refine decide_eq_false ?_; first | assumption | omega) | (refine nf ?_; first | assumption | omega) | (simp [*]; done))) | refine AW_seq ?_ | refine norm_then ?_ | refine exit_then ?_ | refine exit_round ?_ | refine AW_exit ?_ | refine exit_block ?_)
    refine step_ops ?_
    refine m_call hj ?_ ?_
    · refine lends_cons ?_ (lends_cons lend_v lends_nil)
      have hlen : (strsA (wrds L)).length = L.length := by simp [strsA, wrds]
      have e1 : ((strsA (wrds L)).drop 0).take (L.length * 1) = strsA (wrds L) := by rw [List.drop_zero, Nat.mul_one, List.take_of_length_le (by omega)]
      have key : ∀ {hp : Hp}, hp 10 = some (true, strsA (wrds L)) → Lend hp (.sl 10 1 0 L.length) (.ro false 1 (strsA (wrds L)) L.length) := fun hr => by
        have := lend_sl (z := 1) (off := 0) (n := L.length) hr (by omega) (strs_all _)
        rwa [e1] at this
      exact key rfl
    repeat (first | (refine step_ops ?_; (refine m_mov (by conv => lhs; whnf) ?_)) | refine end_ops ?_ | refine AW_ret ?_ | refine ret_done ?_)
    exact outs_v
end Go.Proofs.YtjgcmbihbeokeaaDoor
namespace Go.Am
theorem g_undc {P : Program} {own : Bool} {s : AS} {K : AS → Prop} {d : Option Nat} {op : AOp} {t : Nat} {w : Bool} (h : s.tm t = .v undef) (k : K (s.put d (.v undef))) : aop1 P own ⟨d, op, some (t, w)⟩ s K := .inr ⟨h, k⟩
end Go.Am
namespace Go.Proofs.YtjgcmbihbeokeaaDoor
open Go.Am
attribute [local irreducible] AW Outs Weak Lends Lend Sp aops atree aop1 Then Round InBlock Done
theorem guest_le (a g : Int) : decide (0 ≤ a ∧ a < g) = decide (0 ≤ a ∧ a ≤ g - 1) := decide_eq_decide.2 ⟨fun h => ⟨h.1, by omega⟩, fun h => ⟨h.1, by omega⟩⟩
theorem canTell_spec (g k a b : Int) : Sp Tryd.prog 85 [.agg [.i k, .i a, .i b], .i g] (.b (decide (IsClu g (k, a, b)))) := by
  have ga := isGuest_spec a g
  have gb := isGuest_spec b g
  rw [guest_le] at ga gb
  refine spec_of Tryd.func85 rfl cc85 rfl ?_
  unfold ac85
  refine seq_ops ?_
  refine step_ops ?_
  refine m_box (l := [.i k, .i a, .i b]) rfl rfl ?_
  by_cases h0 : k = 0
  · have hi : IsClu g (k, a, b) ↔ (0 ≤ a ∧ a ≤ g - 1) ∧ (0 ≤ b ∧ b ≤ g - 1) := isClu_01 (.inl h0)
    rw [decide_eq_decide.2 hi]
    by_cases ha : (0 ≤ a ∧ a ≤ g - 1)
    · have hd : decide ((0 ≤ a ∧ a ≤ g - 1) ∧ (0 ≤ b ∧ b ≤ g - 1)) = decide ((0 ≤ b ∧ b ≤ g - 1)) := by simp [ha]
      rw [hd]
      rw [decide_eq_true ha] at ga
      repeat (first | (refine step_ops ?_; (first | (refine m_mov (by conv => lhs; whnf) ?_) | (refine m_eql rfl rfl ?_) | (apply m_ld_pt; (· rfl); (· rfl); (· rfl)) | (refine m_fa rfl ?_))) | refine end_ops ?_ | refine seq_ops ?_ | (refine cond_t rfl ?_ ?_; (· first | rfl | assumption | (refine decide_eq_true ?_; first | assumption | omega) | (refine nt ?_; first | assumption | omega) | (simp [*]; done))) | refine skip_then ?_ | refine AW_seq ?_ | refine AW_block ?_)
      (refine step_ops ?_); (apply m_call (ga)); (· repeat (first | exact lends_nil | (refine lends_cons ?_ ?_; (· exact lend_v))))
      repeat (refine step_ops ?_; ((try (refine g_yes rfl ?_ ?_; (· first | rfl | assumption | (refine decide_eq_true ?_; first | assumption | omega) | (refine nt ?_; first | assumption | omega) | (simp [*]; done) | (refine decide_eq_false ?_; first | assumption | omega) | (refine nf ?_; first | assumption | omega)))); (first | (refine m_mov (by conv => lhs; whnf) ?_) | (apply m_ld_pt; (· rfl); (· rfl); (· rfl)) | (refine m_fa rfl ?_))))
      (refine step_ops ?_); (refine g_yes rfl ?_ ?_; (· first | (first | rfl | assumption | (refine decide_eq_true ?_; first | assumption | omega) | (refine nt ?_; first | assumption | omega) | (simp [*]; done)) | (first | rfl | assumption | (refine decide_eq_false ?_; first | assumption | omega) | (refine nf ?_; first | assumption | omega) | (simp [*]; done))); (apply m_call (gb))); (· repeat (first | exact lends_nil | (refine lends_cons ?_ ?_; (· exact lend_v))))
      repeat (first | (refine step_ops ?_; (first | (refine m_mov (by conv => lhs; whnf) ?_) | (refine m_pick_t rfl ?_ (by conv => lhs; whnf) ?_; (· first | rfl | assumption | (refine decide_eq_true ?_; first | assumption | omega) | (refine nt ?_; first | assumption | omega) | (simp [*]; done))))) | refine end_ops ?_ | refine AW_ret ?_ | refine ret_done ?_ | refine ret_block ?_)
      exact outs_b rfl
    · have hd : decide ((0 ≤ a ∧ a ≤ g - 1) ∧ (0 ≤ b ∧ b ≤ g - 1)) = false := by simp [ha]
      rw [hd]
      rw [decide_eq_false ha] at ga
      repeat (first | (refine step_ops ?_; (first | (refine m_mov (by conv => lhs; whnf) ?_) | (refine m_eql rfl rfl ?_) | (apply m_ld_pt; (· rfl); (· rfl); (· rfl)) | (refine m_fa rfl ?_))) | refine end_ops ?_ | refine seq_ops ?_ | (refine cond_t rfl ?_ ?_; (· first | rfl | assumption | (refine decide_eq_true ?_; first | assumption | omega) | (refine nt ?_; first | assumption | omega) | (simp [*]; done))) | refine skip_then ?_ | refine AW_seq ?_ | refine AW_block ?_)
      (refine step_ops ?_); (apply m_call (ga)); (· repeat (first | exact lends_nil | (refine lends_cons ?_ ?_; (· exact lend_v))))
      repeat (first | (refine step_ops ?_; (first | (first | (refine m_mov (by conv => lhs; whnf) ?_) | (refine m_pick_f rfl ?_ (by conv => lhs; whnf) ?_; (· first | rfl | assumption | (refine decide_eq_false ?_; first | assumption | omega) | (refine nf ?_; first | assumption | omega) | (simp [*]; done)))) | (refine g_noT rfl ?_ ?_; (· first | rfl | assumption | (refine decide_eq_false ?_; first | assumption | omega) | (refine nf ?_; first | assumption | omega) | (simp [*]; done))))) | refine end_ops ?_ | refine AW_ret ?_ | refine ret_done ?_ | refine ret_block ?_)
      exact outs_b rfl
  by_cases h1 : k = 1
  · have hi : IsClu g (k, a, b) ↔ (0 ≤ a ∧ a ≤ g - 1) ∧ (0 ≤ b ∧ b ≤ g - 1) := isClu_01 (.inr h1)
    rw [decide_eq_decide.2 hi]
    by_cases ha : (0 ≤ a ∧ a ≤ g - 1)
    · have hd : decide ((0 ≤ a ∧ a ≤ g - 1) ∧ (0 ≤ b ∧ b ≤ g - 1)) = decide ((0 ≤ b ∧ b ≤ g - 1)) := by simp [ha]
      rw [hd]
      rw [decide_eq_true ha] at ga
      repeat (first | (refine step_ops ?_; (first | (refine m_mov (by conv => lhs; whnf) ?_) | (refine m_eql rfl rfl ?_) | (apply m_ld_pt; (· rfl); (· rfl); (· rfl)) | (refine m_fa rfl ?_))) | refine end_ops ?_ | refine seq_ops ?_ | refine AW_ops ?_ | (refine cond_t rfl ?_ ?_; (· first | rfl | assumption | (refine decide_eq_true ?_; first | assumption | omega) | (refine nt ?_; first | assumption | omega) | (simp [*]; done))) | (refine cond_f rfl ?_ ?_; (· first | rfl | assumption | (refine decide_eq_false ?_; first | assumption | omega) | (refine nf ?_; first | assumption | omega) | (simp [*]; done))) | refine AW_seq ?_ | refine norm_then ?_ | refine AW_block ?_)
      (refine step_ops ?_); (apply m_call (ga)); (· repeat (first | exact lends_nil | (refine lends_cons ?_ ?_; (· exact lend_v))))
      repeat (refine step_ops ?_; ((try (refine g_yes rfl ?_ ?_; (· first | rfl | assumption | (refine decide_eq_true ?_; first | assumption | omega) | (refine nt ?_; first | assumption | omega) | (simp [*]; done) | (refine decide_eq_false ?_; first | assumption | omega) | (refine nf ?_; first | assumption | omega)))); (first | (refine m_mov (by conv => lhs; whnf) ?_) | (apply m_ld_pt; (· rfl); (· rfl); (· rfl)) | (refine m_fa rfl ?_))))
      (refine step_ops ?_); (refine g_yes rfl ?_ ?_; (· first | (first | rfl | assumption | (refine decide_eq_true ?_; first | assumption | omega) | (refine nt ?_; first | assumption | omega) | (simp [*]; done)) | (first | rfl | assumption | (refine decide_eq_false ?_; first | assumption | omega) | (refine nf ?_; first | assumption | omega) | (simp [*]; done))); (apply m_call (gb))); (· repeat (first | exact lends_nil | (refine lends_cons ?_ ?_; (· exact lend_v))))
      repeat (first | (refine step_ops ?_; (first | (refine m_mov (by conv => lhs; whnf) ?_) | (refine m_pick_t rfl ?_ (by conv => lhs; whnf) ?_; (· first | rfl | assumption | (refine decide_eq_true ?_; first | assumption | omega) | (refine nt ?_; first | assumption | omega) | (simp [*]; done))))) | refine end_ops ?_ | refine AW_ret ?_ | refine ret_done ?_ | refine ret_block ?_)
      exact outs_b rfl
    · have hd : decide ((0 ≤ a ∧ a ≤ g - 1) ∧ (0 ≤ b ∧ b ≤ g - 1)) = false := by simp [ha]
      rw [hd]
      rw [decide_eq_false ha] at ga
      repeat (first | (refine step_ops ?_; (first | (refine m_mov (by conv => lhs; whnf) ?_) | (refine m_eql rfl rfl ?_) | (apply m_ld_pt; (· rfl); (· rfl); (· rfl)) | (refine m_fa rfl ?_))) | refine end_ops ?_ | refine seq_ops ?_ | refine AW_ops ?_ | (refine cond_t rfl ?_ ?_; (· first | rfl | assumption | (refine decide_eq_true ?_; first | assumption | omega) | (refine nt ?_; first | assumption | omega) | (simp [*]; done))) | (refine cond_f rfl ?_ ?_; (· first | rfl | assumption | (refine decide_eq_false ?_; first | assumption | omega) | (refine nf ?_; first | assumption | omega) | (simp [*]; done))) | refine AW_seq ?_ | refine norm_then ?_ | refine AW_block ?_)
      (refine step_ops ?_); (apply m_call (ga)); (· repeat (first | exact lends_nil | (refine lends_cons ?_ ?_; (· exact lend_v))))
      repeat (first | (refine step_ops ?_; (first | (first | (refine m_mov (by conv => lhs; whnf) ?_) | (refine m_pick_f rfl ?_ (by conv => lhs; whnf) ?_; (· first | rfl | assumption | (refine decide_eq_false ?_; first | assumption | omega) | (refine nf ?_; first | assumption | omega) | (simp [*]; done)))) | (refine g_noT rfl ?_ ?_; (· first | rfl | assumption | (refine decide_eq_false ?_; first | assumption | omega) | (refine nf ?_; first | assumption | omega) | (simp [*]; done))))) | refine end_ops ?_ | refine AW_ret ?_ | refine ret_done ?_ | refine ret_block ?_)
      exact outs_b rfl
  by_cases h2 : k = 2
  · have hi : IsClu g (k, a, b) ↔ (0 ≤ a ∧ a ≤ g) ∧ b = 0 := by
      subst h2; exact isClu_2
    rw [show decide (IsClu g (k, a, b)) = decide ((0 ≤ a ∧ a ≤ g) ∧ b = 0) from decide_eq_decide.2 hi]
    by_cases ha : 0 ≤ a
    all_goals by_cases hb : a ≤ g
    all_goals
      repeat (first | (refine step_ops ?_; (first | ((try (refine g_yes rfl ?_ ?_; (· first | rfl | assumption | (refine decide_eq_true ?_; first | assumption | omega) | (refine nt ?_; first | assumption | omega) | (simp [*]; done) | (refine decide_eq_false ?_; first | assumption | omega) | (refine nf ?_; first | assumption | omega)))); (first | (refine m_mov (by conv => lhs; whnf) ?_) | (refine m_leq rfl rfl ?_) | (refine m_geq rfl rfl ?_) | (refine m_eql rfl rfl ?_) | (apply m_ld_pt; (· rfl); (· rfl); (· rfl)) | (refine m_pick_t rfl ?_ (by conv => lhs; whnf) ?_; (· first | rfl | assumption | (refine decide_eq_true ?_; first | assumption | omega) | (refine nt ?_; first | assumption | omega) | (simp [*]; done))) | (refine m_pick_f rfl ?_ (by conv => lhs; whnf) ?_; (· first | rfl | assumption | (refine decide_eq_false ?_; first | assumption | omega) | (refine nf ?_; first | assumption | omega) | (simp [*]; done))) | (refine m_fa rfl ?_))) | (refine g_noT rfl ?_ ?_; (· first | rfl | assumption | (refine decide_eq_false ?_; first | assumption | omega) | (refine nf ?_; first | assumption | omega) | (simp [*]; done))))) | refine end_ops ?_ | refine seq_ops ?_ | refine AW_ops ?_ | (refine cond_t rfl ?_ ?_; (· first | rfl | assumption | (refine decide_eq_true ?_; first | assumption | omega) | (refine nt ?_; first | assumption | omega) | (simp [*]; done))) | (refine cond_f rfl ?_ ?_; (· first | rfl | assumption | (refine decide_eq_false ?_; first | assumption | omega) | (refine nf ?_; first | assumption | omega) | (simp [*]; done))) | refine AW_seq ?_ | refine AW_ret ?_ | refine ret_done ?_ | refine norm_then ?_ | refine AW_block ?_ | refine ret_block ?_)
      refine outs_b ?_
      simp [*]
  by_cases h3 : k = 3
  · have hi : IsClu g (k, a, b) ↔ (1 ≤ a ∧ a ≤ g) ∧ b = 0 := by
      subst h3; exact isClu_3
    rw [show decide (IsClu g (k, a, b)) = decide ((1 ≤ a ∧ a ≤ g) ∧ b = 0) from decide_eq_decide.2 hi]
    by_cases ha : 1 ≤ a
    all_goals by_cases hb : a ≤ g
    all_goals
      repeat (first | (refine step_ops ?_; (first | ((try (refine g_yes rfl ?_ ?_; (· first | rfl | assumption | (refine decide_eq_true ?_; first | assumption | omega) | (refine nt ?_; first | assumption | omega) | (simp [*]; done) | (refine decide_eq_false ?_; first | assumption | omega) | (refine nf ?_; first | assumption | omega)))); (first | (refine m_mov (by conv => lhs; whnf) ?_) | (refine m_leq rfl rfl ?_) | (refine m_geq rfl rfl ?_) | (refine m_eql rfl rfl ?_) | (apply m_ld_pt; (· rfl); (· rfl); (· rfl)) | (refine m_pick_t rfl ?_ (by conv => lhs; whnf) ?_; (· first | rfl | assumption | (refine decide_eq_true ?_; first | assumption | omega) | (refine nt ?_; first | assumption | omega) | (simp [*]; done))) | (refine m_pick_f rfl ?_ (by conv => lhs; whnf) ?_; (· first | rfl | assumption | (refine decide_eq_false ?_; first | assumption | omega) | (refine nf ?_; first | assumption | omega) | (simp [*]; done))) | (refine m_fa rfl ?_))) | (refine g_noT rfl ?_ ?_; (· first | rfl | assumption | (refine decide_eq_false ?_; first | assumption | omega) | (refine nf ?_; first | assumption | omega) | (simp [*]; done))))) | refine end_ops ?_ | refine seq_ops ?_ | refine AW_ops ?_ | (refine cond_t rfl ?_ ?_; (· first | rfl | assumption | (refine decide_eq_true ?_; first | assumption | omega) | (refine nt ?_; first | assumption | omega) | (simp [*]; done))) | (refine cond_f rfl ?_ ?_; (· first | rfl | assumption | (refine decide_eq_false ?_; first | assumption | omega) | (refine nf ?_; first | assumption | omega) | (simp [*]; done))) | refine AW_seq ?_ | refine AW_ret ?_ | refine ret_done ?_ | refine norm_then ?_ | refine AW_block ?_ | refine ret_block ?_)
      refine outs_b ?_
      simp [*]
  by_cases h4 : k = 4
  · have hi : IsClu g (k, a, b) ↔ (0 ≤ a ∧ a ≤ g - 1) ∧ (0 ≤ b ∧ b ≤ 1) := by
      subst h4; exact isClu_4
    rw [decide_eq_decide.2 hi]
    by_cases ha : (0 ≤ a ∧ a ≤ g - 1)
    · have hd : decide ((0 ≤ a ∧ a ≤ g - 1) ∧ (0 ≤ b ∧ b ≤ 1)) = decide (b = 0 ∨ b = 1) := decide_eq_decide.2 ⟨fun h => by omega, fun h => ⟨ha, by omega⟩⟩
      rw [hd]
      rw [decide_eq_true ha] at ga
      by_cases hb : b = 0
      all_goals
        repeat (first | (refine step_ops ?_; (first | (refine m_mov (by conv => lhs; whnf) ?_) | (refine m_eql rfl rfl ?_) | (apply m_ld_pt; (· rfl); (· rfl); (· rfl)) | (refine m_fa rfl ?_))) | refine end_ops ?_ | refine seq_ops ?_ | refine AW_ops ?_ | (refine cond_t rfl ?_ ?_; (· first | rfl | assumption | (refine decide_eq_true ?_; first | assumption | omega) | (refine nt ?_; first | assumption | omega) | (simp [*]; done))) | (refine cond_f rfl ?_ ?_; (· first | rfl | assumption | (refine decide_eq_false ?_; first | assumption | omega) | (refine nf ?_; first | assumption | omega) | (simp [*]; done))) | refine AW_seq ?_ | refine norm_then ?_ | refine AW_block ?_)
        (refine step_ops ?_); (apply m_call (ga)); (· repeat (first | exact lends_nil | (refine lends_cons ?_ ?_; (· exact lend_v))))
        repeat (first | (refine step_ops ?_; (first | ((try (refine g_yes rfl ?_ ?_; (· first | rfl | assumption | (refine decide_eq_true ?_; first | assumption | omega) | (refine nt ?_; first | assumption | omega) | (simp [*]; done) | (refine decide_eq_false ?_; first | assumption | omega) | (refine nf ?_; first | assumption | omega)))); (first | (refine m_mov (by conv => lhs; whnf) ?_) | (refine m_eql rfl rfl ?_) | (apply m_ld_pt; (· rfl); (· rfl); (· rfl)) | (refine m_pick_t rfl ?_ (by conv => lhs; whnf) ?_; (· first | rfl | assumption | (refine decide_eq_true ?_; first | assumption | omega) | (refine nt ?_; first | assumption | omega) | (simp [*]; done))) | (refine m_pick_f rfl ?_ (by conv => lhs; whnf) ?_; (· first | rfl | assumption | (refine decide_eq_false ?_; first | assumption | omega) | (refine nf ?_; first | assumption | omega) | (simp [*]; done))) | (refine m_fa rfl ?_))) | (refine g_noF rfl ?_ ?_; (· first | rfl | assumption | (refine decide_eq_true ?_; first | assumption | omega) | (refine nt ?_; first | assumption | omega) | (simp [*]; done))))) | refine end_ops ?_ | refine AW_ret ?_ | refine ret_done ?_ | refine ret_block ?_)
        refine outs_b ?_
        simp [hb]
    · have hd : decide ((0 ≤ a ∧ a ≤ g - 1) ∧ (0 ≤ b ∧ b ≤ 1)) = false := by simp [ha]
      rw [hd]
      rw [decide_eq_false ha] at ga
      repeat (first | (refine step_ops ?_; (first | (refine m_mov (by conv => lhs; whnf) ?_) | (refine m_eql rfl rfl ?_) | (apply m_ld_pt; (· rfl); (· rfl); (· rfl)) | (refine m_fa rfl ?_))) | refine end_ops ?_ | refine seq_ops ?_ | refine AW_ops ?_ | (refine cond_t rfl ?_ ?_; (· first | rfl | assumption | (refine decide_eq_true ?_; first | assumption | omega) | (refine nt ?_; first | assumption | omega) | (simp [*]; done))) | (refine cond_f rfl ?_ ?_; (· first | rfl | assumption | (refine decide_eq_false ?_; first | assumption | omega) | (refine nf ?_; first | assumption | omega) | (simp [*]; done))) | refine AW_seq ?_ | refine norm_then ?_ | refine AW_block ?_)
      (refine step_ops ?_); (apply m_call (ga)); (· repeat (first | exact lends_nil | (refine lends_cons ?_ ?_; (· exact lend_v))))
      repeat (first | ((first | (refine step_ops ?_; (first | (first | (refine m_mov (by conv => lhs; whnf) ?_) | (refine m_pick_f rfl ?_ (by conv => lhs; whnf) ?_; (· first | rfl | assumption | (refine decide_eq_false ?_; first | assumption | omega) | (refine nf ?_; first | assumption | omega) | (simp [*]; done)))) | (refine g_noT rfl ?_ ?_; (· first | rfl | assumption | (refine decide_eq_false ?_; first | assumption | omega) | (refine nf ?_; first | assumption | omega) | (simp [*]; done))))) | refine end_ops ?_ | refine AW_ret ?_ | refine ret_done ?_ | refine ret_block ?_)) | (refine step_ops ?_; refine g_undc rfl ?_))
      exact outs_b rfl
  by_cases h5 : k = 5
  · have hi : IsClu g (k, a, b) ↔ (1 ≤ a ∧ a ≤ 6) ∧ b = 0 := by
      subst h5; exact isClu_5
    rw [show decide (IsClu g (k, a, b)) = decide ((1 ≤ a ∧ a ≤ 6) ∧ b = 0) from decide_eq_decide.2 hi]
    by_cases ha : 1 ≤ a
    · by_cases hb : a ≤ 6
      all_goals
        repeat (first | (refine step_ops ?_; (first | ((try (refine g_yes rfl ?_ ?_; (· first | rfl | assumption | (refine decide_eq_true ?_; first | assumption | omega) | (refine nt ?_; first | assumption | omega) | (simp [*]; done) | (refine decide_eq_false ?_; first | assumption | omega) | (refine nf ?_; first | assumption | omega)))); (first | (refine m_mov (by conv => lhs; whnf) ?_) | (refine m_leq rfl rfl ?_) | (refine m_geq rfl rfl ?_) | (refine m_eql rfl rfl ?_) | (apply m_ld_pt; (· rfl); (· rfl); (· rfl)) | (refine m_pick_t rfl ?_ (by conv => lhs; whnf) ?_; (· first | rfl | assumption | (refine decide_eq_true ?_; first | assumption | omega) | (refine nt ?_; first | assumption | omega) | (simp [*]; done))) | (refine m_pick_f rfl ?_ (by conv => lhs; whnf) ?_; (· first | rfl | assumption | (refine decide_eq_false ?_; first | assumption | omega) | (refine nf ?_; first | assumption | omega) | (simp [*]; done))) | (refine m_fa rfl ?_))) | (refine g_noT rfl ?_ ?_; (· first | rfl | assumption | (refine decide_eq_false ?_; first | assumption | omega) | (refine nf ?_; first | assumption | omega) | (simp [*]; done))))) | refine end_ops ?_ | refine seq_ops ?_ | refine AW_ops ?_ | (refine cond_t rfl ?_ ?_; (· first | rfl | assumption | (refine decide_eq_true ?_; first | assumption | omega) | (refine nt ?_; first | assumption | omega) | (simp [*]; done))) | (refine cond_f rfl ?_ ?_; (· first | rfl | assumption | (refine decide_eq_false ?_; first | assumption | omega) | (refine nf ?_; first | assumption | omega) | (simp [*]; done))) | refine AW_seq ?_ | refine AW_ret ?_ | refine ret_done ?_ | refine norm_then ?_ | refine AW_block ?_ | refine ret_block ?_)
        refine outs_b ?_
        simp [*]
    · repeat (first | (refine step_ops ?_; (first | (first | (refine m_mov (by conv => lhs; whnf) ?_) | (refine m_geq rfl rfl ?_) | (refine m_eql rfl rfl ?_) | (apply m_ld_pt; (· rfl); (· rfl); (· rfl)) | (refine m_pick_f rfl ?_ (by conv => lhs; whnf) ?_; (· first | rfl | assumption | (refine decide_eq_false ?_; first | assumption | omega) | (refine nf ?_; first | assumption | omega) | (simp [*]; done))) | (refine m_fa rfl ?_)) | (refine g_noT rfl ?_ ?_; (· first | rfl | assumption | (refine decide_eq_false ?_; first | assumption | omega) | (refine nf ?_; first | assumption | omega) | (simp [*]; done))))) | refine end_ops ?_ | refine seq_ops ?_ | refine AW_ops ?_ | (refine cond_t rfl ?_ ?_; (· first | rfl | assumption | (refine decide_eq_true ?_; first | assumption | omega) | (refine nt ?_; first | assumption | omega) | (simp [*]; done))) | (refine cond_f rfl ?_ ?_; (· first | rfl | assumption | (refine decide_eq_false ?_; first | assumption | omega) | (refine nf ?_; first | assumption | omega) | (simp [*]; done))) | refine AW_seq ?_ | refine AW_ret ?_ | refine ret_done ?_ | refine norm_then ?_ | refine AW_block ?_ | refine ret_block ?_)
      refine outs_b ?_
      simp [*]
  rw [decide_eq_false (isClu_no (g := g) (a := a) (b := b) (show ¬ (0 ≤ k ∧ k ≤ 5) by omega))]
  repeat (first | (refine step_ops ?_; (first | (refine m_mov (by conv => lhs; whnf) ?_) | (refine m_eql rfl rfl ?_) | (apply m_ld_pt; (· rfl); (· rfl); (· rfl)) | (refine m_fa rfl ?_))) | refine end_ops ?_ | refine seq_ops ?_ | refine AW_ops ?_ | (refine cond_f rfl ?_ ?_; (· first | rfl | assumption | (refine decide_eq_false ?_; first | assumption | omega) | (refine nf ?_; first | assumption | omega) | (simp [*]; done))) | refine AW_seq ?_ | refine AW_ret ?_ | refine ret_done ?_ | refine norm_then ?_ | refine AW_block ?_ | refine ret_block ?_)
  exact outs_b rfl
end Go.Proofs.YtjgcmbihbeokeaaDoor
namespace Go.Am
/-- The least number that the first k lengths divide. -/
def lcT (K : List Int) : Nat → Nat
  | 0 => 1
  | k + 1 => lcT K k / Nat.gcd (lcT K k) (K.getD k 0).toNat * (K.getD k 0).toNat
theorem lcT_bd {K : List Int} (h : ∀ x ∈ K, 1 ≤ x ∧ x ≤ 12) : ∀ k, k ≤ K.length → 1 ≤ lcT K k ∧ lcT K k ≤ 12 ^ k
  | 0, _ => by simp [lcT]
  | k + 1, hk => by
    obtain ⟨h1, h2⟩ := lcT_bd h k (by omega)
    have hx := h (K.getD k 0) (by rw [List.getD_eq_getElem?_getD, List.getElem?_eq_getElem (show k < K.length by omega)]; exact List.getElem_mem _)
    obtain ⟨n, hn⟩ := Int.eq_ofNat_of_zero_le (show 0 ≤ K.getD k 0 by omega)
    rw [lcT, hn, Int.toNat_natCast]
    have hd : 0 < lcT K k / Nat.gcd (lcT K k) n := Nat.div_pos (Nat.le_of_dvd (by omega) (Nat.gcd_dvd_left ..)) (Nat.gcd_pos_of_pos_left _ (by omega))
    refine ⟨Nat.mul_pos hd (by omega), ?_⟩
    rw [Nat.pow_succ]
    exact Nat.mul_le_mul (Nat.le_trans (Nat.div_le_self ..) h2) (by omega)
end Go.Am
namespace Go.Proofs.YtjgcmbihbeokeaaDoor
open Go.Am
attribute [local irreducible] AW Outs Weak Lends Lend Sp aops atree aop1 Then Round InBlock Done
theorem timesOf_spec (K : List Int) (h12 : K.length ≤ 12) (h : ∀ x ∈ K, 1 ≤ x ∧ x ≤ 12) : Sp Tryd.prog 102 [ints K] (.i (lcT K K.length : Nat)) := by
  refine spec_of Tryd.func102 rfl cc102 rfl ?_
  unfold ac102
  repeat (first | (refine step_ops ?_; (first | (refine m_mov (by conv => lhs; whnf) ?_) | (refine m_lss rfl rfl ?_) | (refine m_add rfl rfl ?_ ?_ ?_; (· omega); (· omega)) | (refine m_adds rfl rfl ?_ ?_; (· first | omega | (simp; omega))) | (refine m_mul rfl rfl ?_ ?_ ?_; (· first | omega | (simp; done)); (· first | omega | (simp; done))) | (refine m_len_ro rfl ?_) | (refine m_len_sl rfl ?_) | (refine m_len_nil rfl ?_) | (refine m_idx1_ro rfl rfl ?_ ?_; (· omega)) | (refine m_idx1_sl rfl rfl ?_ ?_; (· omega)) | (apply m_idx1_slj; (· rfl); (· rfl); (· assumption); (· omega)) | (apply m_idx1_roj; (· rfl); (· rfl); (· assumption); (· omega)) | (refine m_idx_ro rfl rfl ?_ ?_ ?_; (· omega); (· omega)) | (refine m_idx_sl rfl rfl ?_ ?_ ?_; (· omega); (· omega)) | (refine m_ld_rpi rfl ?_ ?_; (· omega)) | (refine m_ld_pti rfl (by rfl) ?_ ?_; (· first | omega | (simp; omega))) | (apply m_ld_ptb; (· rfl); (· rfl); (· assumption)) | (apply m_ld_rp; (· rfl); (· rfl)) | (apply m_ld_pt; (· rfl); (· rfl); (· rfl)) | (refine m_quo rfl rfl ?_ ?_ ?_ ?_; (· omega); (· omega); (· omega)))) | refine end_ops ?_ | refine seq_ops ?_ | refine AW_ops ?_ | (refine cond_t rfl ?_ ?_; (· first | rfl | assumption | (refine decide_eq_true ?_; first | assumption | omega) | (refine nt ?_; first | assumption | omega) | (simp [*]; done))) | (refine cond_f rfl ?_ ?_; (· first | rfl | assumption | (refine decide_eq_false ?_; first | assumption | omega) | (refine nf ?_; first | assumption | omega) | (simp [*]; done))) | refine skip_then ?_ | refine AW_seq ?_ | refine AW_ret ?_ | refine ret_done ?_ | refine norm_then ?_ | refine ret_then ?_ | refine exit_then ?_ | refine AW_block ?_ | refine norm_block ?_ | refine ret_block ?_ | refine ret_round ?_ | refine exit_round ?_ | refine AW_exit ?_ | refine exit_block ?_ | (refine exit_other ?_ ?_; (· decide)) | refine AW_skip ?_)
  refine AW_loop (α := Nat) (fun k => k ≤ K.length) (fun k => st [(3, .i (lcT K k : Nat)), (6, ints K), (7, .i K.length), (8, .i k)] []) (fun k => K.length - k) 0 (by omega) (weak_st ?_ ?_ rfl rfl) ?_
  · (repeat' (first | exact trivial | refine And.intro ?_ ?_)) <;> (first | rfl | skip)
  · trivial
  intro k hk
  have hp : ∀ j, j ≤ 12 → 12 ^ j ≤ 8916100448256 := fun j hj => Nat.le_trans (Nat.pow_le_pow_right (by decide) hj) (by decide)
  have hb := lcT_bd h k hk
  have hb0 := hp k (by omega)
  by_cases hc : k < K.length
  · have hx := h _ (getD_mem hc)
    have hb1 := lcT_bd h (k + 1) hc
    have hb2 := hp (k + 1) (by omega)
    obtain ⟨B, hB⟩ := Int.eq_ofNat_of_zero_le (show 0 ≤ K.getD k 0 by omega)
    have hs : lcT K (k + 1) = lcT K k / Nat.gcd (lcT K k) (K.getD k 0).toNat * (K.getD k 0).toNat := rfl
    rw [hB, Int.toNat_natCast] at hs
    rw [hB] at hx
    rw [hs] at hb1
    generalize lcT K k = A at *
    have hg0 : 0 < Nat.gcd A B := Nat.gcd_pos_of_pos_left _ (by omega)
    have hdiv : (A : Int) / ((Nat.gcd A B : Nat) : Int) = ((A / Nat.gcd A B : Nat) : Int) := rfl
    have hmul : ((A / Nat.gcd A B : Nat) : Int) * (B : Int) = ((A / Nat.gcd A B * B : Nat) : Int) := by rw [Int.natCast_mul]
    repeat (first | (refine step_ops ?_; (first | (refine m_mov (by conv => lhs; whnf) ?_) | (refine m_lss rfl rfl ?_) | (refine m_add rfl rfl ?_ ?_ ?_; (· omega); (· omega)) | (refine m_adds rfl rfl ?_ ?_; (· first | omega | (simp; omega))) | (refine m_mul rfl rfl ?_ ?_ ?_; (· first | omega | (simp; done)); (· first | omega | (simp; done))) | (refine m_len_ro rfl ?_) | (refine m_len_sl rfl ?_) | (refine m_len_nil rfl ?_) | (refine m_idx1_ro rfl rfl ?_ ?_; (· omega)) | (refine m_idx1_sl rfl rfl ?_ ?_; (· omega)) | (apply m_idx1_slj; (· rfl); (· rfl); (· assumption); (· omega)) | (apply m_idx1_roj; (· rfl); (· rfl); (· assumption); (· omega)) | (refine m_idx_ro rfl rfl ?_ ?_ ?_; (· omega); (· omega)) | (refine m_idx_sl rfl rfl ?_ ?_ ?_; (· omega); (· omega)) | (refine m_ld_rpi rfl ?_ ?_; (· omega)) | (refine m_ld_pti rfl (by rfl) ?_ ?_; (· first | omega | (simp; omega))) | (apply m_ld_ptb; (· rfl); (· rfl); (· assumption)) | (apply m_ld_rp; (· rfl); (· rfl)) | (apply m_ld_pt; (· rfl); (· rfl); (· rfl)) | (refine m_quo rfl rfl ?_ ?_ ?_ ?_; (· omega); (· omega); (· omega)))) | refine end_ops ?_ | refine seq_ops ?_ | refine AW_ops ?_ | (refine cond_t rfl ?_ ?_; (· first | rfl | assumption | (refine decide_eq_true ?_; first | assumption | omega) | (refine nt ?_; first | assumption | omega) | (simp [*]; done))) | (refine cond_f rfl ?_ ?_; (· first | rfl | assumption | (refine decide_eq_false ?_; first | assumption | omega) | (refine nf ?_; first | assumption | omega) | (simp [*]; done))) | refine skip_then ?_ | refine AW_seq ?_ | refine AW_ret ?_ | refine ret_done ?_ | refine norm_then ?_ | refine ret_then ?_ | refine exit_then ?_ | refine AW_block ?_ | refine norm_block ?_ | refine ret_block ?_ | refine ret_round ?_ | refine exit_round ?_ | refine AW_exit ?_ | refine exit_block ?_ | (refine exit_other ?_ ?_; (· decide)) | refine AW_skip ?_)
    rw [hB]
    repeat (first | (refine step_ops ?_; (first | (refine m_mov (by conv => lhs; whnf) ?_) | (refine m_lss rfl rfl ?_) | (refine m_add rfl rfl ?_ ?_ ?_; (· omega); (· omega)) | (refine m_adds rfl rfl ?_ ?_; (· first | omega | (simp; omega))) | (refine m_mul rfl rfl ?_ ?_ ?_; (· first | omega | (simp; done)); (· first | omega | (simp; done))) | (refine m_len_ro rfl ?_) | (refine m_len_sl rfl ?_) | (refine m_len_nil rfl ?_) | (refine m_idx1_ro rfl rfl ?_ ?_; (· omega)) | (refine m_idx1_sl rfl rfl ?_ ?_; (· omega)) | (apply m_idx1_slj; (· rfl); (· rfl); (· assumption); (· omega)) | (apply m_idx1_roj; (· rfl); (· rfl); (· assumption); (· omega)) | (refine m_idx_ro rfl rfl ?_ ?_ ?_; (· omega); (· omega)) | (refine m_idx_sl rfl rfl ?_ ?_ ?_; (· omega); (· omega)) | (refine m_ld_rpi rfl ?_ ?_; (· omega)) | (refine m_ld_pti rfl (by rfl) ?_ ?_; (· first | omega | (simp; omega))) | (apply m_ld_ptb; (· rfl); (· rfl); (· assumption)) | (apply m_ld_rp; (· rfl); (· rfl)) | (apply m_ld_pt; (· rfl); (· rfl); (· rfl)) | (refine m_quo rfl rfl ?_ ?_ ?_ ?_; (· omega); (· omega); (· omega)))) | refine end_ops ?_ | refine seq_ops ?_ | refine AW_ops ?_ | (refine cond_t rfl ?_ ?_; (· first | rfl | assumption | (refine decide_eq_true ?_; first | assumption | omega) | (refine nt ?_; first | assumption | omega) | (simp [*]; done))) | (refine cond_f rfl ?_ ?_; (· first | rfl | assumption | (refine decide_eq_false ?_; first | assumption | omega) | (refine nf ?_; first | assumption | omega) | (simp [*]; done))) | refine skip_then ?_ | refine AW_seq ?_ | refine AW_ret ?_ | refine ret_done ?_ | refine norm_then ?_ | refine ret_then ?_ | refine exit_then ?_ | refine AW_block ?_ | refine norm_block ?_ | refine ret_block ?_ | refine ret_round ?_ | refine exit_round ?_ | refine AW_exit ?_ | refine exit_block ?_ | (refine exit_other ?_ ?_; (· decide)) | refine AW_skip ?_)
    (refine step_ops ?_); (apply m_call (commonDivisor_spec A B)); (· repeat (first | exact lends_nil | (refine lends_cons ?_ ?_; (· (first | exact lend_v | (refine lend_roM rfl; done) | (refine lend_mat rfl ?_; intro j hj; simp (disch := first | omega | assumption) only [hp_put, hp_mem_ne, hp_kill_ne]; first | exact stM_row rfl hj | (rw [stM_row rfl hj]; rfl)) | (refine lend_ints ?_; first | rfl | omega) | (refine lend_sli (by rfl) ?_; first | rfl | omega | (simp; done)) | (refine lend_pln rfl; done) | (refine lend_plns rfl rfl; done) | (refine lend_txr rfl; done) | (refine lend_txs rfl rfl; done) | exact lend_any | (refine lend_agg ?_; first | rfl | assumption | (simp [plainV]; done)))))))
    repeat (first | (refine step_ops ?_; (first | (refine m_mov (by conv => lhs; whnf) ?_) | (refine m_lss rfl rfl ?_) | (refine m_add rfl rfl ?_ ?_ ?_; (· omega); (· omega)) | (refine m_adds rfl rfl ?_ ?_; (· first | omega | (simp; omega))) | (refine m_mul rfl rfl ?_ ?_ ?_; (· first | omega | (simp; done)); (· first | omega | (simp; done))) | (refine m_len_ro rfl ?_) | (refine m_len_sl rfl ?_) | (refine m_len_nil rfl ?_) | (refine m_idx1_ro rfl rfl ?_ ?_; (· omega)) | (refine m_idx1_sl rfl rfl ?_ ?_; (· omega)) | (apply m_idx1_slj; (· rfl); (· rfl); (· assumption); (· omega)) | (apply m_idx1_roj; (· rfl); (· rfl); (· assumption); (· omega)) | (refine m_idx_ro rfl rfl ?_ ?_ ?_; (· omega); (· omega)) | (refine m_idx_sl rfl rfl ?_ ?_ ?_; (· omega); (· omega)) | (refine m_ld_rpi rfl ?_ ?_; (· omega)) | (refine m_ld_pti rfl (by rfl) ?_ ?_; (· first | omega | (simp; omega))) | (apply m_ld_ptb; (· rfl); (· rfl); (· assumption)) | (apply m_ld_rp; (· rfl); (· rfl)) | (apply m_ld_pt; (· rfl); (· rfl); (· rfl)) | (refine m_quo rfl rfl ?_ ?_ ?_ ?_; (· omega); (· omega); (· omega)))) | refine end_ops ?_ | refine seq_ops ?_ | refine AW_ops ?_ | (refine cond_t rfl ?_ ?_; (· first | rfl | assumption | (refine decide_eq_true ?_; first | assumption | omega) | (refine nt ?_; first | assumption | omega) | (simp [*]; done))) | (refine cond_f rfl ?_ ?_; (· first | rfl | assumption | (refine decide_eq_false ?_; first | assumption | omega) | (refine nf ?_; first | assumption | omega) | (simp [*]; done))) | refine skip_then ?_ | refine AW_seq ?_ | refine AW_ret ?_ | refine ret_done ?_ | refine norm_then ?_ | refine ret_then ?_ | refine exit_then ?_ | refine AW_block ?_ | refine norm_block ?_ | refine ret_block ?_ | refine ret_round ?_ | refine exit_round ?_ | refine AW_exit ?_ | refine exit_block ?_ | (refine exit_other ?_ ?_; (· decide)) | refine AW_skip ?_)
    rw [hdiv]
    refine step_ops ?_
    refine m_mul rfl rfl (by rw [hmul]; omega) (by rw [hmul]; omega) ?_
    rw [hmul]
    repeat (first | (refine step_ops ?_; (first | (refine m_mov (by conv => lhs; whnf) ?_) | (refine m_lss rfl rfl ?_) | (refine m_add rfl rfl ?_ ?_ ?_; (· omega); (· omega)) | (refine m_adds rfl rfl ?_ ?_; (· first | omega | (simp; omega))) | (refine m_mul rfl rfl ?_ ?_ ?_; (· first | omega | (simp; done)); (· first | omega | (simp; done))) | (refine m_len_ro rfl ?_) | (refine m_len_sl rfl ?_) | (refine m_len_nil rfl ?_) | (refine m_idx1_ro rfl rfl ?_ ?_; (· omega)) | (refine m_idx1_sl rfl rfl ?_ ?_; (· omega)) | (apply m_idx1_slj; (· rfl); (· rfl); (· assumption); (· omega)) | (apply m_idx1_roj; (· rfl); (· rfl); (· assumption); (· omega)) | (refine m_idx_ro rfl rfl ?_ ?_ ?_; (· omega); (· omega)) | (refine m_idx_sl rfl rfl ?_ ?_ ?_; (· omega); (· omega)) | (refine m_ld_rpi rfl ?_ ?_; (· omega)) | (refine m_ld_pti rfl (by rfl) ?_ ?_; (· first | omega | (simp; omega))) | (apply m_ld_ptb; (· rfl); (· rfl); (· assumption)) | (apply m_ld_rp; (· rfl); (· rfl)) | (apply m_ld_pt; (· rfl); (· rfl); (· rfl)) | (refine m_quo rfl rfl ?_ ?_ ?_ ?_; (· omega); (· omega); (· omega)))) | refine end_ops ?_ | refine seq_ops ?_ | refine AW_ops ?_ | (refine cond_t rfl ?_ ?_; (· first | rfl | assumption | (refine decide_eq_true ?_; first | assumption | omega) | (refine nt ?_; first | assumption | omega) | (simp [*]; done))) | (refine cond_f rfl ?_ ?_; (· first | rfl | assumption | (refine decide_eq_false ?_; first | assumption | omega) | (refine nf ?_; first | assumption | omega) | (simp [*]; done))) | refine skip_then ?_ | refine AW_seq ?_ | refine AW_ret ?_ | refine ret_done ?_ | refine norm_then ?_ | refine ret_then ?_ | refine exit_then ?_ | refine AW_block ?_ | refine norm_block ?_ | refine ret_block ?_ | refine ret_round ?_ | refine exit_round ?_ | refine AW_exit ?_ | refine exit_block ?_ | (refine exit_other ?_ ?_; (· decide)) | refine AW_skip ?_)
    refine next_round (k + 1) (by omega) (weak_st ?_ ?_ rfl rfl) ?_
    · rw [hs]
      (repeat' (first | exact trivial | refine And.intro ?_ ?_)) <;> (first | rfl | skip)
    · trivial
    · omega
  · obtain rfl : k = K.length := by omega
    repeat (first | (refine step_ops ?_; (first | (refine m_mov (by conv => lhs; whnf) ?_) | (refine m_lss rfl rfl ?_) | (refine m_add rfl rfl ?_ ?_ ?_; (· omega); (· omega)) | (refine m_adds rfl rfl ?_ ?_; (· first | omega | (simp; omega))) | (refine m_mul rfl rfl ?_ ?_ ?_; (· first | omega | (simp; done)); (· first | omega | (simp; done))) | (refine m_len_ro rfl ?_) | (refine m_len_sl rfl ?_) | (refine m_len_nil rfl ?_) | (refine m_idx1_ro rfl rfl ?_ ?_; (· omega)) | (refine m_idx1_sl rfl rfl ?_ ?_; (· omega)) | (apply m_idx1_slj; (· rfl); (· rfl); (· assumption); (· omega)) | (apply m_idx1_roj; (· rfl); (· rfl); (· assumption); (· omega)) | (refine m_idx_ro rfl rfl ?_ ?_ ?_; (· omega); (· omega)) | (refine m_idx_sl rfl rfl ?_ ?_ ?_; (· omega); (· omega)) | (refine m_ld_rpi rfl ?_ ?_; (· omega)) | (refine m_ld_pti rfl (by rfl) ?_ ?_; (· first | omega | (simp; omega))) | (apply m_ld_ptb; (· rfl); (· rfl); (· assumption)) | (apply m_ld_rp; (· rfl); (· rfl)) | (apply m_ld_pt; (· rfl); (· rfl); (· rfl)) | (refine m_quo rfl rfl ?_ ?_ ?_ ?_; (· omega); (· omega); (· omega)))) | refine end_ops ?_ | refine seq_ops ?_ | refine AW_ops ?_ | (refine cond_t rfl ?_ ?_; (· first | rfl | assumption | (refine decide_eq_true ?_; first | assumption | omega) | (refine nt ?_; first | assumption | omega) | (simp [*]; done))) | (refine cond_f rfl ?_ ?_; (· first | rfl | assumption | (refine decide_eq_false ?_; first | assumption | omega) | (refine nf ?_; first | assumption | omega) | (simp [*]; done))) | refine skip_then ?_ | refine AW_seq ?_ | refine AW_ret ?_ | refine ret_done ?_ | refine norm_then ?_ | refine ret_then ?_ | refine exit_then ?_ | refine AW_block ?_ | refine norm_block ?_ | refine ret_block ?_ | refine ret_round ?_ | refine exit_round ?_ | refine AW_exit ?_ | refine exit_block ?_ | (refine exit_other ?_ ?_; (· decide)) | refine AW_skip ?_)
    exact outs_i rfl
end Go.Proofs.YtjgcmbihbeokeaaDoor
namespace Go.Proofs.YtjgcmbihbeokeaaDoor
open Go.Am
attribute [local irreducible] AW Outs Weak Lends Lend Sp aops atree aop1 Then Round InBlock Done
attribute [local irreducible] SpM DoneM SpH DoneH
theorem lcT_pers (B : List Nat) : ∀ k, k ≤ B.length → lcT (B.map fun (p : Nat) => (p : Int)) k = lcF (B.take k) 1
  | 0, _ => rfl
  | k + 1, hk => by
    have e : (B.map fun (p : Nat) => (p : Int)).getD k 0 = ((B[k] : Nat) : Int) := by rw [List.getD_eq_getElem?_getD, List.getElem?_map, List.getElem?_eq_getElem (by omega)]; rfl
    rw [lcT, lcT_pers B k (by omega), List.take_add_one, List.getElem?_eq_getElem (by omega), e, Int.toNat_natCast]
    exact (lcF_snoc _ _ _).symm
end Go.Proofs.YtjgcmbihbeokeaaDoor
