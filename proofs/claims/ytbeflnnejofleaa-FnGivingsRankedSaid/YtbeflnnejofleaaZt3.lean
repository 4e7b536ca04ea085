/- The abstract machine, contracts: part 3 of what this claim needs. -/
import Derived.Test.YtbeflnnejofleaaZt2
set_option linter.unusedSectionVars false
namespace Go.Proofs.Ytbeflnnejofleaa
variable [Go.Am.CodeBlk]
open Go.Am
def ac3 : ACode := (.seq (.ops [⟨(some 4), (.mov (.c (.bool false))), none⟩]) (.seq (.seq (.ops [⟨(some 49), (.mov (.t 0)), none⟩, ⟨(some 50), (.mov (.t 1)), none⟩, ⟨(some 51), (.call 5 [(.t 49), (.t 50)]), none⟩]) (.cond (.t 51) (.seq (.ops [⟨(some 4), (.mov (.c (.bool true))), none⟩]) .ret) .skip)) (.seq (.ops [⟨(some 53), (.mov (.t 0)), none⟩, ⟨(some 54), (.call 6 [(.t 53)]), none⟩, ⟨(some 52), (.mov (.t 54)), none⟩, ⟨(some 55), (.ext (.t 52) 0), none⟩, ⟨(some 56), (.ext (.t 52) 1), none⟩, ⟨(some 5), (.mov (.t 55)), none⟩, ⟨(some 6), (.mov (.t 56)), none⟩]) (.seq (.ops [⟨(some 58), (.mov (.t 5)), none⟩, ⟨(some 59), (.mov (.t 6)), none⟩, ⟨(some 60), (.call 7 [(.t 58), (.t 59)]), none⟩, ⟨(some 57), (.mov (.t 60)), none⟩, ⟨(some 61), (.ext (.t 57) 0), none⟩, ⟨(some 62), (.ext (.t 57) 1), none⟩, ⟨(some 7), (.mov (.t 61)), none⟩, ⟨(some 8), (.mov (.t 62)), none⟩]) (.seq (.ops [⟨(some 64), (.mov (.t 5)), none⟩, ⟨(some 65), (.mov (.t 6)), none⟩, ⟨(some 66), (.call 8 [(.t 64), (.t 65)]), none⟩, ⟨(some 63), (.mov (.t 66)), none⟩, ⟨(some 67), (.ext (.t 63) 0), none⟩, ⟨(some 68), (.ext (.t 63) 1), none⟩, ⟨(some 9), (.mov (.t 67)), none⟩, ⟨(some 10), (.mov (.t 68)), none⟩]) (.seq (.ops [⟨(some 70), (.mov (.t 5)), none⟩, ⟨(some 71), (.mov (.t 6)), none⟩, ⟨(some 72), (.call 9 [(.t 70), (.t 71)]), none⟩, ⟨(some 69), (.mov (.t 72)), none⟩, ⟨(some 73), (.ext (.t 69) 0), none⟩, ⟨(some 74), (.ext (.t 69) 1), none⟩, ⟨(some 11), (.mov (.t 73)), none⟩, ⟨(some 12), (.mov (.t 74)), none⟩]) (.seq (.ops [⟨(some 76), (.mov (.t 5)), none⟩, ⟨(some 77), (.mov (.t 6)), none⟩, ⟨(some 78), (.call 10 [(.t 76), (.t 77)]), none⟩, ⟨(some 75), (.mov (.t 78)), none⟩, ⟨(some 79), (.ext (.t 75) 0), none⟩, ⟨(some 80), (.ext (.t 75) 1), none⟩, ⟨(some 13), (.mov (.t 79)), none⟩, ⟨(some 14), (.mov (.t 80)), none⟩]) (.seq (.ops [⟨(some 82), (.mov (.t 5)), none⟩, ⟨(some 83), (.mov (.t 6)), none⟩, ⟨(some 84), (.call 11 [(.t 82), (.t 83)]), none⟩, ⟨(some 81), (.mov (.t 84)), none⟩, ⟨(some 85), (.ext (.t 81) 0), none⟩, ⟨(some 86), (.ext (.t 81) 1), none⟩, ⟨(some 15), (.mov (.t 85)), none⟩, ⟨(some 16), (.mov (.t 86)), none⟩]) (.seq (.ops [⟨(some 88), (.mov (.t 5)), none⟩, ⟨(some 89), (.mov (.t 6)), none⟩, ⟨(some 90), (.call 12 [(.t 88), (.t 89)]), none⟩, ⟨(some 87), (.mov (.t 90)), none⟩, ⟨(some 91), (.ext (.t 87) 0), none⟩, ⟨(some 92), (.ext (.t 87) 1), none⟩, ⟨(some 17), (.mov (.t 91)), none⟩, ⟨(some 18), (.mov (.t 92)), none⟩]) (.seq (.ops [⟨(some 94), (.mov (.t 5)), none⟩, ⟨(some 95), (.mov (.t 6)), none⟩, ⟨(some 96), (.call 13 [(.t 94), (.t 95)]), none⟩, ⟨(some 93), (.mov (.t 96)), none⟩, ⟨(some 97), (.ext (.t 93) 0), none⟩, ⟨(some 98), (.ext (.t 93) 1), none⟩, ⟨(some 19), (.mov (.t 97)), none⟩, ⟨(some 20), (.mov (.t 98)), none⟩]) (.seq (.ops [⟨(some 100), (.mov (.t 5)), none⟩, ⟨(some 101), (.mov (.t 6)), none⟩, ⟨(some 102), (.call 14 [(.t 100), (.t 101)]), none⟩, ⟨(some 99), (.mov (.t 102)), none⟩, ⟨(some 103), (.ext (.t 99) 0), none⟩, ⟨(some 104), (.ext (.t 99) 1), none⟩, ⟨(some 21), (.mov (.t 103)), none⟩, ⟨(some 22), (.mov (.t 104)), none⟩]) (.seq (.seq (.ops [⟨(some 105), (.mov (.t 8)), none⟩, ⟨(some 106), (.mov (.t 10)), none⟩, ⟨(some 107), (.beq true (.t 105) (.t 106)), none⟩, ⟨(some 108), (.mov (.t 107)), none⟩, ⟨(some 109), (.mov (.t 7)), (some (108, false))⟩, ⟨(some 110), (.mov (.t 9)), (some (108, false))⟩, ⟨(some 111), (.beq true (.t 109) (.t 110)), (some (108, false))⟩, ⟨(some 112), (.pick (.t 108) (.c (.bool true)) (.t 111)), none⟩, ⟨(some 113), (.mov (.t 112)), none⟩, ⟨(some 114), (.mov (.t 12)), (some (113, false))⟩, ⟨(some 115), (.mov (.t 14)), (some (113, false))⟩, ⟨(some 116), (.beq true (.t 114) (.t 115)), (some (113, false))⟩, ⟨(some 117), (.pick (.t 113) (.c (.bool true)) (.t 116)), none⟩, ⟨(some 118), (.mov (.t 117)), none⟩, ⟨(some 119), (.mov (.t 11)), (some (118, false))⟩, ⟨(some 120), (.mov (.t 13)), (some (118, false))⟩, ⟨(some 121), (.bin .neq (.t 119) (.t 120)), (some (118, false))⟩, ⟨(some 122), (.pick (.t 118) (.c (.bool true)) (.t 121)), none⟩, ⟨(some 123), (.mov (.t 122)), none⟩, ⟨(some 124), (.mov (.t 16)), (some (123, false))⟩, ⟨(some 125), (.mov (.t 18)), (some (123, false))⟩, ⟨(some 126), (.beq true (.t 124) (.t 125)), (some (123, false))⟩, ⟨(some 127), (.pick (.t 123) (.c (.bool true)) (.t 126)), none⟩, ⟨(some 128), (.mov (.t 127)), none⟩, ⟨(some 129), (.mov (.t 15)), (some (128, false))⟩, ⟨(some 130), (.mov (.t 17)), (some (128, false))⟩, ⟨(some 131), (.call 15 [(.t 129), (.t 130)]), (some (128, false))⟩, ⟨(some 132), (.not (.t 131)), (some (128, false))⟩, ⟨(some 133), (.pick (.t 128) (.c (.bool true)) (.t 132)), none⟩, ⟨(some 134), (.mov (.t 133)), none⟩, ⟨(some 135), (.mov (.t 20)), (some (134, false))⟩, ⟨(some 136), (.mov (.t 22)), (some (134, false))⟩, ⟨(some 137), (.beq true (.t 135) (.t 136)), (some (134, false))⟩, ⟨(some 138), (.pick (.t 134) (.c (.bool true)) (.t 137)), none⟩, ⟨(some 139), (.mov (.t 138)), none⟩, ⟨(some 140), (.mov (.t 19)), (some (139, false))⟩, ⟨(some 141), (.mov (.t 21)), (some (139, false))⟩, ⟨(some 142), (.call 16 [(.t 140), (.t 141)]), (some (139, false))⟩, ⟨(some 143), (.not (.t 142)), (some (139, false))⟩, ⟨(some 144), (.pick (.t 139) (.c (.bool true)) (.t 143)), none⟩, ⟨(some 145), (.mov (.t 144)), none⟩, ⟨(some 146), (.mov (.t 12)), (some (145, false))⟩, ⟨(some 147), (.mov (.t 8)), (some (145, false))⟩, ⟨(some 148), (.mov (.t 147)), (some (145, false))⟩, ⟨(some 149), (.mov (.t 7)), (some (148, true))⟩, ⟨(some 150), (.pick (.t 148) (.t 149) (.c (.bool false))), (some (145, false))⟩, ⟨(some 151), (.beq true (.t 146) (.t 150)), (some (145, false))⟩, ⟨(some 152), (.pick (.t 145) (.c (.bool true)) (.t 151)), none⟩, ⟨(some 153), (.mov (.t 152)), none⟩, ⟨(some 154), (.mov (.t 20)), (some (153, false))⟩, ⟨(some 155), (.mov (.t 12)), (some (153, false))⟩, ⟨(some 156), (.beq true (.t 154) (.t 155)), (some (153, false))⟩, ⟨(some 157), (.pick (.t 153) (.c (.bool true)) (.t 156)), none⟩, ⟨(some 158), (.mov (.t 157)), none⟩, ⟨(some 159), (.mov (.t 16)), (some (158, false))⟩, ⟨(some 160), (.mov (.t 159)), (some (158, false))⟩, ⟨(some 161), (.mov (.t 8)), (some (160, true))⟩, ⟨(some 162), (.not (.t 161)), (some (160, true))⟩, ⟨(some 163), (.pick (.t 160) (.t 162) (.c (.bool false))), (some (158, false))⟩, ⟨(some 164), (.pick (.t 158) (.c (.bool true)) (.t 163)), none⟩]) (.cond (.t 164) (.seq (.ops [⟨(some 4), (.mov (.c (.bool false))), none⟩]) .ret) .skip)) (.seq (.seq (.ops [⟨(some 165), (.mov (.t 16)), none⟩]) (.cond (.t 165) (.seq (.ops [⟨(some 167), (.mov (.t 5)), none⟩, ⟨(some 168), (.mov (.t 15)), none⟩, ⟨(some 169), (.call 7 [(.t 167), (.t 168)]), none⟩, ⟨(some 166), (.mov (.t 169)), none⟩, ⟨(some 170), (.ext (.t 166) 0), none⟩, ⟨(some 171), (.ext (.t 166) 1), none⟩, ⟨(some 23), (.mov (.t 170)), none⟩, ⟨(some 24), (.mov (.t 171)), none⟩]) (.seq (.ops [⟨(some 172), (.mov (.t 24)), none⟩, ⟨(some 173), (.not (.t 172)), none⟩, ⟨(some 174), (.mov (.t 173)), none⟩, ⟨(some 175), (.mov (.t 23)), (some (174, false))⟩, ⟨(some 176), (.not (.t 175)), (some (174, false))⟩, ⟨(some 177), (.pick (.t 174) (.c (.bool true)) (.t 176)), none⟩, ⟨(some 178), (.mov (.t 177)), none⟩, ⟨(some 179), (.mov (.t 6)), (some (178, false))⟩, ⟨(some 180), (.mov (.t 15)), (some (178, false))⟩, ⟨(some 181), (.call 17 [(.t 179), (.t 180)]), (some (178, false))⟩, ⟨(some 182), (.not (.t 181)), (some (178, false))⟩, ⟨(some 183), (.pick (.t 178) (.c (.bool true)) (.t 182)), none⟩]) (.cond (.t 183) (.seq (.ops [⟨(some 4), (.mov (.c (.bool false))), none⟩]) .ret) .skip))) .skip)) (.seq (.seq (.ops [⟨(some 184), (.mov (.t 12)), none⟩]) (.cond (.t 184) (.seq (.ops [⟨(some 186), (.mov (.t 5)), none⟩, ⟨(some 187), (.mov (.t 11)), none⟩, ⟨(some 188), (.call 18 [(.t 186), (.t 187)]), none⟩, ⟨(some 185), (.mov (.t 188)), none⟩, ⟨(some 189), (.ext (.t 185) 0), none⟩, ⟨(some 190), (.ext (.t 185) 1), none⟩, ⟨(some 25), (.mov (.t 189)), none⟩, ⟨(some 26), (.mov (.t 190)), none⟩]) (.seq (.ops [⟨(some 192), (.mov (.t 5)), none⟩, ⟨(some 193), (.call 19 [(.t 192)]), none⟩, ⟨(some 191), (.mov (.t 193)), none⟩, ⟨(some 194), (.ext (.t 191) 0), none⟩, ⟨(some 195), (.ext (.t 191) 1), none⟩, ⟨(some 27), (.mov (.t 194)), none⟩, ⟨(some 28), (.mov (.t 195)), none⟩]) (.seq (.ops [⟨(some 197), (.mov (.t 5)), none⟩, ⟨(some 198), (.mov (.t 11)), none⟩, ⟨(some 199), (.bin .add (.t 198) (.c (.int .i64 1))), none⟩, ⟨(some 200), (.call 18 [(.t 197), (.t 199)]), none⟩, ⟨(some 196), (.mov (.t 200)), none⟩, ⟨(some 201), (.ext (.t 196) 0), none⟩, ⟨(some 202), (.ext (.t 196) 1), none⟩, ⟨(some 29), (.mov (.t 201)), none⟩, ⟨(some 30), (.mov (.t 202)), none⟩]) (.seq (.seq (.ops [⟨(some 203), (.mov (.t 26)), none⟩, ⟨(some 204), (.not (.t 203)), none⟩, ⟨(some 205), (.mov (.t 204)), none⟩, ⟨(some 206), (.mov (.t 25)), (some (205, false))⟩, ⟨(some 207), (.mov (.t 6)), (some (205, false))⟩, ⟨(some 208), (.call 15 [(.t 206), (.t 207)]), (some (205, false))⟩, ⟨(some 209), (.not (.t 208)), (some (205, false))⟩, ⟨(some 210), (.pick (.t 205) (.c (.bool true)) (.t 209)), none⟩, ⟨(some 211), (.mov (.t 210)), none⟩, ⟨(some 212), (.mov (.t 28)), (some (211, false))⟩, ⟨(some 213), (.not (.t 212)), (some (211, false))⟩, ⟨(some 214), (.pick (.t 211) (.c (.bool true)) (.t 213)), none⟩, ⟨(some 215), (.mov (.t 214)), none⟩, ⟨(some 216), (.mov (.t 11)), (some (215, false))⟩, ⟨(some 217), (.bin .lss (.t 216) (.c (.int .i64 0))), (some (215, false))⟩, ⟨(some 218), (.pick (.t 215) (.c (.bool true)) (.t 217)), none⟩, ⟨(some 219), (.mov (.t 218)), none⟩, ⟨(some 220), (.mov (.t 11)), (some (219, false))⟩, ⟨(some 221), (.mov (.t 27)), (some (219, false))⟩, ⟨(some 222), (.bin .geq (.t 220) (.t 221)), (some (219, false))⟩, ⟨(some 223), (.pick (.t 219) (.c (.bool true)) (.t 222)), none⟩, ⟨(some 224), (.mov (.t 223)), none⟩, ⟨(some 225), (.mov (.t 30)), (some (224, false))⟩, ⟨(some 226), (.mov (.t 11)), (some (224, false))⟩, ⟨(some 227), (.bin .add (.t 226) (.c (.int .i64 1))), (some (224, false))⟩, ⟨(some 228), (.mov (.t 27)), (some (224, false))⟩, ⟨(some 229), (.bin .lss (.t 227) (.t 228)), (some (224, false))⟩, ⟨(some 230), (.beq true (.t 225) (.t 229)), (some (224, false))⟩, ⟨(some 231), (.pick (.t 224) (.c (.bool true)) (.t 230)), none⟩, ⟨(some 232), (.mov (.t 231)), none⟩, ⟨(some 233), (.mov (.t 30)), (some (232, false))⟩, ⟨(some 234), (.mov (.t 16)), (some (232, false))⟩, ⟨(some 235), (.beq true (.t 233) (.t 234)), (some (232, false))⟩, ⟨(some 236), (.pick (.t 232) (.c (.bool true)) (.t 235)), none⟩, ⟨(some 237), (.mov (.t 236)), none⟩, ⟨(some 238), (.mov (.t 30)), (some (237, false))⟩, ⟨(some 239), (.mov (.t 238)), (some (237, false))⟩, ⟨(some 240), (.mov (.t 29)), (some (239, true))⟩, ⟨(some 241), (.mov (.t 15)), (some (239, true))⟩, ⟨(some 242), (.call 15 [(.t 240), (.t 241)]), (some (239, true))⟩, ⟨(some 243), (.not (.t 242)), (some (239, true))⟩, ⟨(some 244), (.pick (.t 239) (.t 243) (.c (.bool false))), (some (237, false))⟩, ⟨(some 245), (.pick (.t 237) (.c (.bool true)) (.t 244)), none⟩]) (.cond (.t 245) (.seq (.ops [⟨(some 4), (.mov (.c (.bool false))), none⟩]) .ret) .skip)) (.seq (.ops [⟨(some 247), (.mov (.t 5)), none⟩, ⟨(some 248), (.call 20 [(.t 247)]), none⟩, ⟨(some 246), (.mov (.t 248)), none⟩, ⟨(some 249), (.ext (.t 246) 0), none⟩, ⟨(some 250), (.ext (.t 246) 1), none⟩, ⟨(some 31), (.mov (.t 249)), none⟩, ⟨(some 32), (.mov (.t 250)), none⟩]) (.seq (.seq (.ops [⟨(some 251), (.mov (.t 32)), none⟩, ⟨(some 252), (.not (.t 251)), none⟩, ⟨(some 253), (.mov (.t 252)), none⟩, ⟨(some 254), (.mov (.t 19)), (some (253, false))⟩, ⟨(some 255), (.len (.t 254)), (some (253, false))⟩, ⟨(some 256), (.mov (.t 31)), (some (253, false))⟩, ⟨(some 257), (.len (.t 256)), (some (253, false))⟩, ⟨(some 258), (.bin .neq (.t 255) (.t 257)), (some (253, false))⟩, ⟨(some 259), (.pick (.t 253) (.c (.bool true)) (.t 258)), none⟩]) (.cond (.t 259) (.seq (.ops [⟨(some 4), (.mov (.c (.bool false))), none⟩]) .ret) .skip)) (.seq (.seq (.ops [⟨(some 260), (.mov (.t 19)), none⟩, ⟨(some 261), (.len (.t 260)), none⟩, ⟨(some 262), (.mov (.c (.int .i64 0))), none⟩]) (.block 0 (.loop (.seq (.ops [⟨(some 263), (.bin .lss (.t 262) (.t 261)), none⟩]) (.seq (.cond (.t 263) .skip (.exit 0)) (.seq (.block 1 (.seq (.ops [⟨(some 264), (.mov (.t 262)), none⟩, ⟨(some 265), (.idx 1 (.t 260) (.t 262)), none⟩, ⟨(some 266), (.ld none (.t 265)), none⟩, ⟨(some 33), (.mov (.t 264)), none⟩, ⟨(some 34), (.mov (.t 266)), none⟩]) (.seq (.ops [⟨(some 35), (.mov (.c (.int .i64 0))), none⟩]) (.seq (.seq (.ops [⟨(some 267), (.mov (.t 19)), none⟩, ⟨(some 268), (.len (.t 267)), none⟩, ⟨(some 269), (.mov (.c (.int .i64 0))), none⟩]) (.block 2 (.loop (.seq (.ops [⟨(some 270), (.bin .lss (.t 269) (.t 268)), none⟩]) (.seq (.cond (.t 270) .skip (.exit 2)) (.seq (.block 3 (.seq (.ops [⟨(some 271), (.mov (.t 269)), none⟩, ⟨(some 36), (.mov (.t 271)), none⟩]) (.ops [⟨(some 272), (.mov (.t 35)), none⟩, ⟨(some 273), (.mov (.t 19)), none⟩, ⟨(some 274), (.mov (.t 36)), none⟩, ⟨(some 275), (.idx 1 (.t 273) (.t 274)), none⟩, ⟨(some 276), (.ld none (.t 275)), none⟩, ⟨(some 277), (.mov (.t 33)), none⟩, ⟨(some 278), (.idx 1 (.t 276) (.t 277)), none⟩, ⟨(some 279), (.ld none (.t 278)), none⟩, ⟨(some 280), (.bin .add (.t 272) (.t 279)), none⟩, ⟨(some 35), (.mov (.t 280)), none⟩]))) (.ops [⟨(some 281), (.bin .add (.t 269) (.c (.int .i64 1))), none⟩, ⟨(some 269), (.mov (.t 281)), none⟩]))))))) (.seq (.tree (.take ⟨(some 282), (.mov (.t 34)), none⟩ (.take ⟨(some 283), (.mov (.t 33)), none⟩ (.take ⟨(some 284), (.idx 1 (.t 282) (.t 283)), none⟩ (.take ⟨(some 285), (.ld none (.t 284)), none⟩ (.take ⟨(some 286), (.bin .neq (.t 285) (.c (.int .i64 0))), none⟩ (.take ⟨(some 287), (.mov (.t 286)), none⟩ (.take ⟨(some 288), (.mov (.t 34)), (some (287, false))⟩ (.take ⟨(some 289), (.call 21 [(.t 288)]), (some (287, false))⟩ (.take ⟨(some 290), (.mov (.t 31)), (some (287, false))⟩ (.take ⟨(some 291), (.mov (.t 33)), (some (287, false))⟩ (.take ⟨(some 292), (.idx 1 (.t 290) (.t 291)), (some (287, false))⟩ (.take ⟨(some 293), (.ld none (.t 292)), (some (287, false))⟩ (.take ⟨(some 294), (.bin .neq (.t 289) (.t 293)), (some (287, false))⟩ (.take ⟨(some 295), (.pick (.t 287) (.c (.bool true)) (.t 294)), none⟩ (.take ⟨(some 296), (.mov (.t 295)), none⟩ (.take ⟨(some 297), (.mov (.t 35)), (some (296, false))⟩ (.take ⟨(some 298), (.mov (.t 31)), (some (296, false))⟩ (.take ⟨(some 299), (.mov (.t 33)), (some (296, false))⟩ (.take ⟨(some 300), (.idx 1 (.t 298) (.t 299)), (some (296, false))⟩ (.take ⟨(some 301), (.ld none (.t 300)), (some (296, false))⟩ (.take ⟨(some 302), (.bin .neq (.t 297) (.t 301)), (some (296, false))⟩ (.take ⟨(some 303), (.pick (.t 296) (.c (.bool true)) (.t 302)), none⟩ .done))))))))))))))))))))))) (.cond (.t 303) (.seq (.ops [⟨(some 4), (.mov (.c (.bool false))), none⟩]) .ret) .skip)))))) (.ops [⟨(some 304), (.bin .add (.t 262) (.c (.int .i64 1))), none⟩, ⟨(some 262), (.mov (.t 304)), none⟩]))))))) (.seq (.ops [⟨(some 306), (.mov (.t 6)), none⟩, ⟨(some 307), (.call 22 [(.t 306)]), none⟩, ⟨(some 305), (.mov (.t 307)), none⟩, ⟨(some 308), (.ext (.t 305) 0), none⟩, ⟨(some 309), (.ext (.t 305) 1), none⟩, ⟨(some 37), (.mov (.t 308)), none⟩, ⟨(some 38), (.mov (.t 309)), none⟩]) (.seq (.ops [⟨(some 311), (.mov (.t 5)), none⟩, ⟨(some 312), (.mov (.t 37)), none⟩, ⟨(some 313), (.call 7 [(.t 311), (.t 312)]), none⟩, ⟨(some 310), (.mov (.t 313)), none⟩, ⟨(some 314), (.ext (.t 310) 0), none⟩, ⟨(some 315), (.ext (.t 310) 1), none⟩, ⟨(some 39), (.mov (.t 314)), none⟩, ⟨(some 40), (.mov (.t 315)), none⟩]) (.seq (.ops [⟨(some 316), (.mov (.t 38)), none⟩, ⟨(some 317), (.not (.t 316)), none⟩, ⟨(some 318), (.mov (.t 317)), none⟩, ⟨(some 319), (.mov (.t 40)), (some (318, false))⟩, ⟨(some 320), (.not (.t 319)), (some (318, false))⟩, ⟨(some 321), (.pick (.t 318) (.c (.bool true)) (.t 320)), none⟩, ⟨(some 322), (.mov (.t 321)), none⟩, ⟨(some 323), (.mov (.t 39)), (some (322, false))⟩, ⟨(some 324), (.not (.t 323)), (some (322, false))⟩, ⟨(some 325), (.pick (.t 322) (.c (.bool true)) (.t 324)), none⟩]) (.cond (.t 325) (.seq (.ops [⟨(some 4), (.mov (.c (.bool false))), none⟩]) .ret) .skip))))))))))) .skip)) (.seq (.ops [⟨(some 327), (.mov (.t 1)), none⟩, ⟨(some 328), (.call 23 [(.t 327)]), none⟩, ⟨(some 326), (.mov (.t 328)), none⟩, ⟨(some 329), (.ext (.t 326) 0), none⟩, ⟨(some 330), (.ext (.t 326) 1), none⟩, ⟨(some 41), (.mov (.t 329)), none⟩, ⟨(some 42), (.mov (.t 330)), none⟩]) (.seq (.ops [⟨(some 332), (.mov (.t 41)), none⟩, ⟨(some 333), (.mov (.t 42)), none⟩, ⟨(some 334), (.call 18 [(.t 332), (.t 333)]), none⟩, ⟨(some 331), (.mov (.t 334)), none⟩, ⟨(some 335), (.ext (.t 331) 0), none⟩, ⟨(some 336), (.ext (.t 331) 1), none⟩, ⟨(some 43), (.mov (.t 335)), none⟩, ⟨(some 44), (.mov (.t 336)), none⟩]) (.seq (.ops [⟨(some 338), (.mov (.t 41)), none⟩, ⟨(some 339), (.mov (.t 42)), none⟩, ⟨(some 340), (.call 24 [(.t 338), (.t 339)]), none⟩, ⟨(some 337), (.mov (.t 340)), none⟩, ⟨(some 341), (.ext (.t 337) 0), none⟩, ⟨(some 342), (.ext (.t 337) 1), none⟩, ⟨(some 45), (.mov (.t 341)), none⟩, ⟨(some 46), (.mov (.t 342)), none⟩]) (.seq (.seq (.ops [⟨(some 343), (.mov (.t 44)), none⟩, ⟨(some 344), (.mov (.t 46)), none⟩, ⟨(some 345), (.beq true (.t 343) (.t 344)), none⟩, ⟨(some 346), (.mov (.t 345)), none⟩, ⟨(some 347), (.mov (.t 43)), (some (346, false))⟩, ⟨(some 348), (.mov (.t 45)), (some (346, false))⟩, ⟨(some 349), (.call 15 [(.t 347), (.t 348)]), (some (346, false))⟩, ⟨(some 350), (.not (.t 349)), (some (346, false))⟩, ⟨(some 351), (.pick (.t 346) (.c (.bool true)) (.t 350)), none⟩]) (.cond (.t 351) (.seq (.ops [⟨(some 4), (.mov (.c (.bool false))), none⟩]) .ret) .skip)) (.seq (.seq (.ops [⟨(some 352), (.mov (.t 44)), none⟩]) (.cond (.t 352) (.seq (.ops [⟨(some 354), (.mov (.t 41)), none⟩, ⟨(some 355), (.mov (.t 43)), none⟩, ⟨(some 356), (.call 9 [(.t 354), (.t 355)]), none⟩, ⟨(some 353), (.mov (.t 356)), none⟩, ⟨(some 357), (.ext (.t 353) 0), none⟩, ⟨(some 358), (.ext (.t 353) 1), none⟩, ⟨(some 47), (.mov (.t 357)), none⟩, ⟨(some 48), (.mov (.t 358)), none⟩]) (.seq (.ops [⟨(some 359), (.mov (.t 48)), none⟩, ⟨(some 360), (.mov (.t 359)), none⟩, ⟨(some 361), (.mov (.t 47)), (some (360, true))⟩, ⟨(some 362), (.mov (.t 42)), (some (360, true))⟩, ⟨(some 363), (.bin .eql (.t 361) (.t 362)), (some (360, true))⟩, ⟨(some 364), (.pick (.t 360) (.t 363) (.c (.bool false))), none⟩, ⟨(some 4), (.mov (.t 364)), none⟩]) .ret)) .skip)) (.seq (.ops [⟨(some 4), (.mov (.c (.bool true))), none⟩]) .ret))))))))))))))))))))
theorem cc3 : ccode Try.prog (min Try.f3.ntmps pbase) (Try.f3.body.getD .skip) = some ac3 := by kernel_rfl
def ac5 : ACode := (.seq (.ops [⟨(some 4), (.mov (.c (.bool false))), none⟩]) (.seq (.ops [⟨(some 5), (.mov (.t 0)), none⟩, ⟨(some 6), (.len (.t 5)), none⟩, ⟨(some 7), (.bin .gtr (.t 6) (.c (.int .i64 1048576))), none⟩, ⟨(some 8), (.mov (.t 7)), none⟩, ⟨(some 9), (.mov (.t 1)), (some (8, false))⟩, ⟨(some 10), (.len (.t 9)), (some (8, false))⟩, ⟨(some 11), (.mov (.t 0)), (some (8, false))⟩, ⟨(some 12), (.len (.t 11)), (some (8, false))⟩, ⟨(some 13), (.bin .sub (.c (.int .i64 1048576)) (.t 12)), (some (8, false))⟩, ⟨(some 14), (.bin .gtr (.t 10) (.t 13)), (some (8, false))⟩, ⟨(some 15), (.pick (.t 8) (.c (.bool true)) (.t 14)), none⟩, ⟨(some 4), (.mov (.t 15)), none⟩]) .ret))
theorem cc5 : ccode Try.prog (min Try.f5.ntmps pbase) (Try.f5.body.getD .skip) = some ac5 := by kernel_rfl
def ac6 : ACode := (.seq (.ops [⟨(some 2), (.nils 1), none⟩, ⟨(some 3), (.nils 1), none⟩]) (.seq (.ops [⟨(some 5), (.mov (.t 0)), none⟩, ⟨(some 6), (.pu (.bld [(.slice none 0 0), (.int .i64 0), (.int .u64 0)] [(0, 1)]) [(.t 5)]), none⟩, ⟨(some 7), (.box 3 (.t 6)), none⟩, ⟨(some 4), (.mov (.t 7)), none⟩]) (.seq (.ops [⟨(some 8), (.mov (.t 4)), none⟩, ⟨(some 9), (.call 25 [(.t 8)]), none⟩, ⟨(some 10), (.ext (.t 9) 0), none⟩, ⟨(some 11), (.ext (.t 9) 1), none⟩, ⟨(some 2), (.mov (.t 10)), none⟩, ⟨(some 3), (.mov (.t 11)), none⟩]) .ret)))
theorem cc6 : ccode Try.prog (min Try.f6.ntmps pbase) (Try.f6.body.getD .skip) = some ac6 := by kernel_rfl
def ac7 : ACode := (.seq (.ops [⟨(some 4), (.mov (.c (.bool false))), none⟩, ⟨(some 5), (.mov (.c (.bool false))), none⟩]) (.seq (.seq (.ops [⟨(some 6), (.mov (.t 0)), none⟩, ⟨(some 7), (.mov (.t 1)), none⟩, ⟨(some 8), (.call 26 [(.t 6), (.t 7)]), none⟩, ⟨(some 9), (.not (.t 8)), none⟩]) (.cond (.t 9) (.seq (.ops [⟨(some 4), (.mov (.c (.bool false))), none⟩, ⟨(some 5), (.mov (.c (.bool false))), none⟩]) .ret) .skip)) (.seq (.ops [⟨(some 10), (.mov (.t 0)), none⟩, ⟨(some 11), (.call 27 [(.t 10)]), none⟩, ⟨(some 12), (.mov (.t 1)), none⟩, ⟨(some 13), (.call 28 [(.t 11), (.t 12)]), none⟩, ⟨(some 4), (.mov (.t 13)), none⟩, ⟨(some 5), (.mov (.c (.bool true))), none⟩]) .ret)))
theorem cc7 : ccode Try.prog (min Try.f7.ntmps pbase) (Try.f7.body.getD .skip) = some ac7 := by kernel_rfl
def ac8 : ACode := (.seq (.ops [⟨(some 4), (.mov (.c (.bool false))), none⟩, ⟨(some 5), (.mov (.c (.bool false))), none⟩]) (.seq (.seq (.ops [⟨(some 6), (.mov (.t 0)), none⟩, ⟨(some 7), (.mov (.t 1)), none⟩, ⟨(some 8), (.call 29 [(.t 6), (.t 7)]), none⟩, ⟨(some 9), (.not (.t 8)), none⟩]) (.cond (.t 9) (.seq (.ops [⟨(some 4), (.mov (.c (.bool false))), none⟩, ⟨(some 5), (.mov (.c (.bool false))), none⟩]) .ret) .skip)) (.seq (.ops [⟨(some 10), (.mov (.t 0)), none⟩, ⟨(some 11), (.mov (.t 1)), none⟩, ⟨(some 12), (.call 30 [(.t 10), (.t 11)]), none⟩, ⟨(some 4), (.mov (.t 12)), none⟩, ⟨(some 5), (.mov (.c (.bool true))), none⟩]) .ret)))
theorem cc8 : ccode Try.prog (min Try.f8.ntmps pbase) (Try.f8.body.getD .skip) = some ac8 := by kernel_rfl
def ac9 : ACode := (.seq (.ops [⟨(some 4), (.mov (.c (.int .i64 0))), none⟩, ⟨(some 5), (.mov (.c (.bool false))), none⟩]) (.seq (.ops [⟨(some 15), (.mov (.t 0)), none⟩, ⟨(some 16), (.mov (.t 1)), none⟩, ⟨(some 17), (.call 7 [(.t 15), (.t 16)]), none⟩, ⟨(some 14), (.mov (.t 17)), none⟩, ⟨(some 18), (.ext (.t 14) 0), none⟩, ⟨(some 19), (.ext (.t 14) 1), none⟩, ⟨(some 6), (.mov (.t 18)), none⟩, ⟨(some 7), (.mov (.t 19)), none⟩]) (.seq (.seq (.ops [⟨(some 20), (.mov (.t 7)), none⟩, ⟨(some 21), (.not (.t 20)), none⟩, ⟨(some 22), (.mov (.t 21)), none⟩, ⟨(some 23), (.mov (.t 6)), (some (22, false))⟩, ⟨(some 24), (.not (.t 23)), (some (22, false))⟩, ⟨(some 25), (.pick (.t 22) (.c (.bool true)) (.t 24)), none⟩]) (.cond (.t 25) (.seq (.ops [⟨(some 4), (.mov (.c (.int .i64 0))), none⟩, ⟨(some 5), (.mov (.c (.bool false))), none⟩]) .ret) .skip)) (.seq (.ops [⟨(some 26), (.mov (.t 0)), none⟩, ⟨(some 27), (.call 31 [(.t 26)]), none⟩, ⟨(some 8), (.alloc [(.int .i64 0), (.int .i64 0), (.int .i64 0), (.int .i64 0), (.int .i64 0), (.int .i64 0), (.int .i64 0), (.int .i64 0), (.int .i64 0), (.int .i64 0), (.map none)]), none⟩, ⟨none, (.st 11 (.t 8) (.t 27)), none⟩]) (.seq (.ops [⟨(some 9), (.mov (.c (.int .u16 0))), none⟩]) (.seq (.ops [⟨(some 10), (.mov (.c (.int .i64 0))), none⟩]) (.seq (.seq (.ops [⟨(some 28), (.mov (.t 1)), none⟩, ⟨(some 29), (.len (.t 28)), none⟩, ⟨(some 30), (.mov (.c (.int .i64 0))), none⟩]) (.block 0 (.loop (.seq (.ops [⟨(some 31), (.bin .lss (.t 30) (.t 29)), none⟩]) (.seq (.cond (.t 31) .skip (.exit 0)) (.seq (.block 1 (.seq (.ops [⟨(some 32), (.mov (.t 30)), none⟩, ⟨(some 33), (.idx 1 (.t 28) (.t 30)), none⟩, ⟨(some 34), (.ld none (.t 33)), none⟩, ⟨(some 11), (.mov (.t 32)), none⟩, ⟨(some 12), (.mov (.t 34)), none⟩]) (.seq (.seq (.ops [⟨(some 35), (.mov (.t 12)), none⟩, ⟨(some 36), (.mov (.c (.int .i64 0))), none⟩]) (.block 2 (.loop (.seq (.ops [⟨(some 37), (.bin .lss (.t 36) (.t 35)), none⟩]) (.seq (.cond (.t 37) .skip (.exit 2)) (.seq (.block 3 (.seq (.ops [⟨(some 38), (.mov (.t 36)), none⟩, ⟨(some 13), (.mov (.t 38)), none⟩]) (.seq (.ops [⟨(some 39), (.mov (.t 9)), none⟩, ⟨(some 40), (.mov (.t 13)), none⟩, ⟨(some 41), (.call 32 [(.t 39), (.t 40)]), none⟩, ⟨(some 42), (.not (.t 41)), none⟩, ⟨(some 43), (.mov (.t 42)), none⟩, ⟨(some 44), (.fa 0 (.t 8)), (some (43, true))⟩, ⟨(some 45), (.ld (some 10) (.t 44)), (some (43, true))⟩, ⟨(some 46), (.mov (.t 11)), (some (43, true))⟩, ⟨(some 47), (.mov (.t 13)), (some (43, true))⟩, ⟨(some 48), (.call 33 [(.t 45), (.t 46), (.t 47)]), (some (43, true))⟩, ⟨(some 49), (.pick (.t 43) (.t 48) (.c (.bool false))), none⟩]) (.cond (.t 49) (.tree (.take ⟨(some 50), (.mov (.t 10)), none⟩ (.take ⟨(some 51), (.ld (some 11) (.t 8)), none⟩ (.take ⟨(some 52), (.mov (.t 9)), none⟩ (.take ⟨(some 53), (.mov (.t 13)), none⟩ (.take ⟨(some 54), (.call 35 [(.t 52), (.t 53)]), none⟩ (.one ⟨(some 55), (.call 34 [(.t 51), (.t 54)]), none⟩ (.take ⟨(some 56), (.bin .add (.t 50) (.t 55)), none⟩ (.take ⟨(some 10), (.mov (.t 56)), none⟩ .done))))))))) .skip)))) (.ops [⟨(some 57), (.bin .add (.t 36) (.c (.int .i64 1))), none⟩, ⟨(some 36), (.mov (.t 57)), none⟩]))))))) (.ops [⟨(some 58), (.mov (.t 9)), none⟩, ⟨(some 59), (.mov (.t 12)), none⟩, ⟨(some 60), (.call 35 [(.t 58), (.t 59)]), none⟩, ⟨(some 9), (.mov (.t 60)), none⟩])))) (.ops [⟨(some 61), (.bin .add (.t 30) (.c (.int .i64 1))), none⟩, ⟨(some 30), (.mov (.t 61)), none⟩]))))))) (.seq (.ops [⟨(some 62), (.mov (.t 10)), none⟩, ⟨(some 4), (.mov (.t 62)), none⟩, ⟨(some 5), (.mov (.c (.bool true))), none⟩]) .ret))))))))
theorem cc9 : ccode Try.prog (min Try.f9.ntmps pbase) (Try.f9.body.getD .skip) = some ac9 := by kernel_rfl
def ac10 : ACode := (.seq (.ops [⟨(some 4), (.mov (.c (.int .i64 0))), none⟩, ⟨(some 5), (.mov (.c (.bool false))), none⟩]) (.seq (.seq (.ops [⟨(some 10), (.mov (.t 0)), none⟩, ⟨(some 11), (.mov (.t 1)), none⟩, ⟨(some 12), (.call 29 [(.t 10), (.t 11)]), none⟩, ⟨(some 13), (.not (.t 12)), none⟩, ⟨(some 14), (.mov (.t 13)), none⟩, ⟨(some 15), (.mov (.t 0)), (some (14, false))⟩, ⟨(some 16), (.mov (.t 1)), (some (14, false))⟩, ⟨(some 17), (.call 30 [(.t 15), (.t 16)]), (some (14, false))⟩, ⟨(some 18), (.not (.t 17)), (some (14, false))⟩, ⟨(some 19), (.pick (.t 14) (.c (.bool true)) (.t 18)), none⟩]) (.cond (.t 19) (.seq (.ops [⟨(some 4), (.mov (.c (.int .i64 0))), none⟩, ⟨(some 5), (.mov (.c (.bool false))), none⟩]) .ret) .skip)) (.seq (.ops [⟨(some 6), (.mov (.c (.int .i64 0))), none⟩]) (.seq (.seq (.ops [⟨(some 20), (.mov (.t 1)), none⟩, ⟨(some 21), (.len (.t 20)), none⟩, ⟨(some 22), (.mov (.c (.int .i64 0))), none⟩]) (.block 0 (.loop (.seq (.ops [⟨(some 23), (.bin .lss (.t 22) (.t 21)), none⟩]) (.seq (.cond (.t 23) .skip (.exit 0)) (.seq (.block 1 (.seq (.ops [⟨(some 24), (.mov (.t 22)), none⟩, ⟨(some 25), (.idx 1 (.t 20) (.t 22)), none⟩, ⟨(some 26), (.ld none (.t 25)), none⟩, ⟨(some 7), (.mov (.t 24)), none⟩, ⟨(some 8), (.mov (.t 26)), none⟩]) (.seq (.ops [⟨(some 9), (.mov (.c (.int .i64 0))), none⟩]) (.block 2 (.loop (.seq (.seq (.ops [⟨(some 27), (.mov (.t 9)), none⟩, ⟨(some 28), (.mov (.t 8)), none⟩, ⟨(some 29), (.bin .lss (.t 27) (.t 28)), none⟩]) (.cond (.t 29) .skip (.exit 2))) (.seq (.block 3 (.seq (.tree (.take ⟨(some 32), (.mov (.t 0)), none⟩ (.take ⟨(some 33), (.mov (.t 9)), none⟩ (.take ⟨(some 34), (.idx 1 (.t 32) (.t 33)), none⟩ (.take ⟨(some 35), (.ld none (.t 34)), none⟩ (.take ⟨(some 36), (.mov (.t 0)), none⟩ (.take ⟨(some 37), (.mov (.t 7)), none⟩ (.take ⟨(some 38), (.idx 1 (.t 36) (.t 37)), none⟩ (.take ⟨(some 39), (.ld none (.t 38)), none⟩ (.take ⟨(some 40), (.bin .neq (.t 35) (.t 39)), none⟩ (.take ⟨(some 41), (.mov (.t 40)), none⟩ (.take ⟨(some 42), (.mov (.t 1)), (some (41, true))⟩ (.take ⟨(some 43), (.mov (.t 7)), (some (41, true))⟩ (.take ⟨(some 44), (.cut 1 (.t 42) none (some (.t 43))), (some (41, true))⟩ (.take ⟨(some 45), (.mov (.t 9)), (some (41, true))⟩ (.take ⟨(some 46), (.call 36 [(.t 44), (.t 45)]), (some (41, true))⟩ (.take ⟨(some 47), (.not (.t 46)), (some (41, true))⟩ (.take ⟨(some 48), (.pick (.t 41) (.t 47) (.c (.bool false))), none⟩ .done)))))))))))))))))) (.cond (.t 48) (.ops [⟨(some 49), (.mov (.t 6)), none⟩, ⟨(some 50), (.mov (.t 0)), none⟩, ⟨(some 51), (.mov (.t 1)), none⟩, ⟨(some 52), (.mov (.t 7)), none⟩, ⟨(some 53), (.cut 1 (.t 51) none (some (.t 52))), none⟩, ⟨(some 54), (.call 38 [(.t 53)]), none⟩, ⟨(some 55), (.mov (.t 9)), none⟩, ⟨(some 56), (.bsl 1 1 [(.int .i64 0)] [(0, (.t 55))]), none⟩, ⟨(some 57), (.app 1 8 (.t 54) (.t 56)), none⟩, ⟨(some 58), (.call 37 [(.t 50), (.t 57)]), none⟩, ⟨(some 59), (.bin .add (.t 49) (.t 58)), none⟩, ⟨(some 6), (.mov (.t 59)), none⟩]) .skip))) (.ops [⟨(some 30), (.mov (.t 9)), none⟩, ⟨(some 31), (.bin .add (.t 30) (.c (.int .i64 1))), none⟩, ⟨(some 9), (.mov (.t 31)), none⟩])))))))) (.ops [⟨(some 60), (.bin .add (.t 22) (.c (.int .i64 1))), none⟩, ⟨(some 22), (.mov (.t 60)), none⟩]))))))) (.seq (.ops [⟨(some 61), (.mov (.t 6)), none⟩, ⟨(some 4), (.mov (.t 61)), none⟩, ⟨(some 5), (.mov (.c (.bool true))), none⟩]) .ret)))))
theorem cc10 : ccode Try.prog (min Try.f10.ntmps pbase) (Try.f10.body.getD .skip) = some ac10 := by kernel_rfl
def ac11 : ACode := (.seq (.ops [⟨(some 4), (.nils 1), none⟩, ⟨(some 5), (.mov (.c (.bool false))), none⟩]) (.seq (.seq (.ops [⟨(some 6), (.mov (.t 0)), none⟩, ⟨(some 7), (.mov (.t 1)), none⟩, ⟨(some 8), (.call 26 [(.t 6), (.t 7)]), none⟩, ⟨(some 9), (.not (.t 8)), none⟩]) (.cond (.t 9) (.seq (.ops [⟨(some 4), (.nils 1), none⟩, ⟨(some 5), (.mov (.c (.bool false))), none⟩]) .ret) .skip)) (.seq (.ops [⟨(some 10), (.mov (.t 1)), none⟩, ⟨(some 11), (.mov (.t 0)), none⟩, ⟨(some 12), (.call 27 [(.t 11)]), none⟩, ⟨(some 13), (.mkf 40 1 [(.t 12)]), none⟩, ⟨(some 14), (.call 39 [(.t 10), (.t 13)]), none⟩, ⟨(some 15), (.ext (.t 14) 0), none⟩, ⟨(some 16), (.ext (.t 14) 1), none⟩, ⟨(some 4), (.mov (.t 15)), none⟩, ⟨(some 5), (.mov (.t 16)), none⟩]) .ret)))
theorem cc11 : ccode Try.prog (min Try.f11.ntmps pbase) (Try.f11.body.getD .skip) = some ac11 := by kernel_rfl
def ac12 : ACode := (.seq (.ops [⟨(some 4), (.nils 1), none⟩, ⟨(some 5), (.mov (.c (.bool false))), none⟩]) (.seq (.seq (.ops [⟨(some 7), (.mov (.t 0)), none⟩, ⟨(some 8), (.mov (.t 1)), none⟩, ⟨(some 9), (.call 29 [(.t 7), (.t 8)]), none⟩, ⟨(some 10), (.not (.t 9)), none⟩]) (.cond (.t 10) (.seq (.ops [⟨(some 4), (.nils 1), none⟩, ⟨(some 5), (.mov (.c (.bool false))), none⟩]) .ret) .skip)) (.seq (.ops [⟨(some 6), (.alloc [(.slice none 0 0)]), none⟩]) (.seq (.ops [⟨(some 11), (.mov (.t 0)), none⟩, ⟨(some 12), (.mov (.t 1)), none⟩, ⟨(some 13), (.call 41 [(.t 11), (.c (.slice none 0 0)), (.t 12), (.c (.int .i64 1)), (.t 6)]), none⟩]) (.seq (.seq (.ops [⟨(some 14), (.ld none (.t 6)), none⟩, ⟨(some 15), (.len (.t 14)), none⟩, ⟨(some 16), (.bin .eql (.t 15) (.c (.int .i64 0))), none⟩]) (.cond (.t 16) (.seq (.ops [⟨(some 4), (.nils 1), none⟩, ⟨(some 5), (.mov (.c (.bool false))), none⟩]) .ret) .skip)) (.seq (.ops [⟨(some 17), (.ld none (.t 6)), none⟩, ⟨(some 18), (.idx 1 (.t 17) (.c (.int .i64 0))), none⟩, ⟨(some 19), (.ld none (.t 18)), none⟩, ⟨(some 4), (.mov (.t 19)), none⟩, ⟨(some 5), (.mov (.c (.bool true))), none⟩]) .ret))))))
theorem cc12 : ccode Try.prog (min Try.f12.ntmps pbase) (Try.f12.body.getD .skip) = some ac12 := by kernel_rfl
def ac13 : ACode := (.seq (.ops [⟨(some 4), (.nils 1), none⟩, ⟨(some 5), (.mov (.c (.bool false))), none⟩]) (.seq (.ops [⟨(some 13), (.mov (.t 0)), none⟩, ⟨(some 14), (.mov (.t 1)), none⟩, ⟨(some 15), (.call 7 [(.t 13), (.t 14)]), none⟩, ⟨(some 12), (.mov (.t 15)), none⟩, ⟨(some 16), (.ext (.t 12) 0), none⟩, ⟨(some 17), (.ext (.t 12) 1), none⟩, ⟨(some 6), (.mov (.t 16)), none⟩, ⟨(some 7), (.mov (.t 17)), none⟩]) (.seq (.seq (.ops [⟨(some 18), (.mov (.t 7)), none⟩, ⟨(some 19), (.not (.t 18)), none⟩, ⟨(some 20), (.mov (.t 19)), none⟩, ⟨(some 21), (.mov (.t 6)), (some (20, false))⟩, ⟨(some 22), (.not (.t 21)), (some (20, false))⟩, ⟨(some 23), (.pick (.t 20) (.c (.bool true)) (.t 22)), none⟩]) (.cond (.t 23) (.seq (.ops [⟨(some 4), (.nils 1), none⟩, ⟨(some 5), (.mov (.c (.bool false))), none⟩]) .ret) .skip)) (.seq (.ops [⟨(some 24), (.mov (.t 0)), none⟩, ⟨(some 25), (.call 42 [(.t 24)]), none⟩, ⟨(some 26), (.mk 1 24 [(.slice none 0 0)] (.t 25) (.t 25)), none⟩, ⟨(some 8), (.mov (.t 26)), none⟩]) (.seq (.seq (.ops [⟨(some 27), (.mov (.t 8)), none⟩, ⟨(some 28), (.len (.t 27)), none⟩, ⟨(some 29), (.mov (.c (.int .i64 0))), none⟩]) (.block 0 (.loop (.seq (.ops [⟨(some 30), (.bin .lss (.t 29) (.t 28)), none⟩]) (.seq (.cond (.t 30) .skip (.exit 0)) (.seq (.block 1 (.seq (.ops [⟨(some 31), (.mov (.t 29)), none⟩, ⟨(some 9), (.mov (.t 31)), none⟩]) (.ops [⟨(some 32), (.mov (.t 8)), none⟩, ⟨(some 33), (.mov (.t 9)), none⟩, ⟨(some 34), (.mov (.t 8)), none⟩, ⟨(some 35), (.len (.t 34)), none⟩, ⟨(some 36), (.mk 1 8 [(.int .i64 0)] (.t 35) (.t 35)), none⟩, ⟨(some 37), (.idx 1 (.t 32) (.t 33)), none⟩, ⟨none, (.st 1 (.t 37) (.t 36)), none⟩]))) (.ops [⟨(some 38), (.bin .add (.t 29) (.c (.int .i64 1))), none⟩, ⟨(some 29), (.mov (.t 38)), none⟩]))))))) (.seq (.seq (.ops [⟨(some 39), (.mov (.t 1)), none⟩, ⟨(some 40), (.len (.t 39)), none⟩, ⟨(some 41), (.mov (.c (.int .i64 0))), none⟩]) (.block 2 (.loop (.seq (.ops [⟨(some 42), (.bin .lss (.t 41) (.t 40)), none⟩]) (.seq (.cond (.t 42) .skip (.exit 2)) (.seq (.block 3 (.seq (.ops [⟨(some 43), (.mov (.t 41)), none⟩, ⟨(some 44), (.idx 1 (.t 39) (.t 41)), none⟩, ⟨(some 45), (.ld none (.t 44)), none⟩, ⟨(some 10), (.mov (.t 43)), none⟩, ⟨(some 11), (.mov (.t 45)), none⟩]) (.tree (.take ⟨(some 46), (.mov (.t 8)), none⟩ (.take ⟨(some 47), (.mov (.t 0)), none⟩ (.take ⟨(some 48), (.mov (.t 10)), none⟩ (.take ⟨(some 49), (.idx 1 (.t 47) (.t 48)), none⟩ (.take ⟨(some 50), (.ld none (.t 49)), none⟩ (.take ⟨(some 51), (.idx 1 (.t 46) (.t 50)), none⟩ (.take ⟨(some 52), (.ld none (.t 51)), none⟩ (.take ⟨(some 53), (.mov (.t 0)), none⟩ (.take ⟨(some 54), (.mov (.t 11)), none⟩ (.take ⟨(some 55), (.idx 1 (.t 53) (.t 54)), none⟩ (.take ⟨(some 56), (.ld none (.t 55)), none⟩ (.take ⟨(some 57), (.idx 1 (.t 52) (.t 56)), none⟩ (.take ⟨(some 58), (.ld none (.t 57)), none⟩ (.take ⟨(some 59), (.bin .add (.t 58) (.c (.int .i64 1))), none⟩ (.take ⟨(some 60), (.idx 1 (.t 52) (.t 56)), none⟩ (.take ⟨none, (.st 1 (.t 60) (.t 59)), none⟩ .done))))))))))))))))))) (.ops [⟨(some 61), (.bin .add (.t 41) (.c (.int .i64 1))), none⟩, ⟨(some 41), (.mov (.t 61)), none⟩]))))))) (.seq (.ops [⟨(some 62), (.mov (.t 8)), none⟩, ⟨(some 4), (.mov (.t 62)), none⟩, ⟨(some 5), (.mov (.c (.bool true))), none⟩]) .ret)))))))
theorem cc13 : ccode Try.prog (min Try.f13.ntmps pbase) (Try.f13.body.getD .skip) = some ac13 := by kernel_rfl
def ac14 : ACode := (.seq (.ops [⟨(some 4), (.nils 1), none⟩, ⟨(some 5), (.mov (.c (.bool false))), none⟩]) (.seq (.seq (.ops [⟨(some 12), (.mov (.t 0)), none⟩, ⟨(some 13), (.mov (.t 1)), none⟩, ⟨(some 14), (.call 29 [(.t 12), (.t 13)]), none⟩, ⟨(some 15), (.not (.t 14)), none⟩, ⟨(some 16), (.mov (.t 15)), none⟩, ⟨(some 17), (.mov (.t 0)), (some (16, false))⟩, ⟨(some 18), (.mov (.t 1)), (some (16, false))⟩, ⟨(some 19), (.call 30 [(.t 17), (.t 18)]), (some (16, false))⟩, ⟨(some 20), (.not (.t 19)), (some (16, false))⟩, ⟨(some 21), (.pick (.t 16) (.c (.bool true)) (.t 20)), none⟩]) (.cond (.t 21) (.seq (.ops [⟨(some 4), (.nils 1), none⟩, ⟨(some 5), (.mov (.c (.bool false))), none⟩]) .ret) .skip)) (.seq (.ops [⟨(some 22), (.mov (.t 0)), none⟩, ⟨(some 23), (.call 43 [(.t 22)]), none⟩, ⟨(some 24), (.len (.t 23)), none⟩, ⟨(some 6), (.mov (.t 24)), none⟩]) (.seq (.ops [⟨(some 7), (.nils 1), none⟩]) (.seq (.seq (.ops [⟨(some 8), (.mov (.c (.int .i64 0))), none⟩]) (.block 0 (.loop (.seq (.seq (.ops [⟨(some 25), (.mov (.t 8)), none⟩, ⟨(some 26), (.mov (.t 6)), none⟩, ⟨(some 27), (.bin .lss (.t 25) (.t 26)), none⟩]) (.cond (.t 27) .skip (.exit 0))) (.seq (.block 1 (.seq (.ops [⟨(some 30), (.mov (.t 6)), none⟩, ⟨(some 31), (.mk 1 8 [(.int .i64 0)] (.t 30) (.t 30)), none⟩, ⟨(some 9), (.mov (.t 31)), none⟩]) (.seq (.seq (.ops [⟨(some 32), (.mov (.t 1)), none⟩, ⟨(some 33), (.len (.t 32)), none⟩, ⟨(some 34), (.mov (.c (.int .i64 0))), none⟩]) (.block 2 (.loop (.seq (.ops [⟨(some 35), (.bin .lss (.t 34) (.t 33)), none⟩]) (.seq (.cond (.t 35) .skip (.exit 2)) (.seq (.block 3 (.seq (.ops [⟨(some 36), (.mov (.t 34)), none⟩, ⟨(some 37), (.idx 1 (.t 32) (.t 34)), none⟩, ⟨(some 38), (.ld none (.t 37)), none⟩, ⟨(some 10), (.mov (.t 36)), none⟩, ⟨(some 11), (.mov (.t 38)), none⟩]) (.seq (.ops [⟨(some 39), (.mov (.t 0)), none⟩, ⟨(some 40), (.mov (.t 10)), none⟩, ⟨(some 41), (.idx 1 (.t 39) (.t 40)), none⟩, ⟨(some 42), (.ld none (.t 41)), none⟩, ⟨(some 43), (.mov (.t 8)), none⟩, ⟨(some 44), (.bin .eql (.t 42) (.t 43)), none⟩]) (.cond (.t 44) (.ops [⟨(some 45), (.mov (.t 9)), none⟩, ⟨(some 46), (.mov (.t 0)), none⟩, ⟨(some 47), (.mov (.t 11)), none⟩, ⟨(some 48), (.idx 1 (.t 46) (.t 47)), none⟩, ⟨(some 49), (.ld none (.t 48)), none⟩, ⟨(some 50), (.idx 1 (.t 45) (.t 49)), none⟩, ⟨(some 51), (.ld none (.t 50)), none⟩, ⟨(some 52), (.bin .add (.t 51) (.c (.int .i64 1))), none⟩, ⟨(some 53), (.idx 1 (.t 45) (.t 49)), none⟩, ⟨none, (.st 1 (.t 53) (.t 52)), none⟩]) .skip)))) (.ops [⟨(some 54), (.bin .add (.t 34) (.c (.int .i64 1))), none⟩, ⟨(some 34), (.mov (.t 54)), none⟩]))))))) (.ops [⟨(some 55), (.mov (.t 7)), none⟩, ⟨(some 56), (.mov (.t 9)), none⟩, ⟨(some 57), (.bsl 1 1 [(.slice none 0 0)] [(0, (.t 56))]), none⟩, ⟨(some 58), (.app 1 24 (.t 55) (.t 57)), none⟩, ⟨(some 7), (.mov (.t 58)), none⟩])))) (.ops [⟨(some 28), (.mov (.t 8)), none⟩, ⟨(some 29), (.bin .add (.t 28) (.c (.int .i64 1))), none⟩, ⟨(some 8), (.mov (.t 29)), none⟩])))))) (.seq (.ops [⟨(some 59), (.mov (.t 7)), none⟩, ⟨(some 4), (.mov (.t 59)), none⟩, ⟨(some 5), (.mov (.c (.bool true))), none⟩]) .ret))))))
theorem cc14 : ccode Try.prog (min Try.f14.ntmps pbase) (Try.f14.body.getD .skip) = some ac14 := by kernel_rfl
def ac15 : ACode := (.seq (.ops [⟨(some 4), (.mov (.c (.bool false))), none⟩]) (.seq (.seq (.ops [⟨(some 6), (.mov (.t 0)), none⟩, ⟨(some 7), (.len (.t 6)), none⟩, ⟨(some 8), (.mov (.t 1)), none⟩, ⟨(some 9), (.len (.t 8)), none⟩, ⟨(some 10), (.bin .neq (.t 7) (.t 9)), none⟩]) (.cond (.t 10) (.seq (.ops [⟨(some 4), (.mov (.c (.bool false))), none⟩]) .ret) .skip)) (.seq (.seq (.ops [⟨(some 11), (.mov (.t 0)), none⟩, ⟨(some 12), (.len (.t 11)), none⟩, ⟨(some 13), (.mov (.c (.int .i64 0))), none⟩]) (.block 0 (.loop (.seq (.ops [⟨(some 14), (.bin .lss (.t 13) (.t 12)), none⟩]) (.seq (.cond (.t 14) .skip (.exit 0)) (.seq (.block 1 (.seq (.ops [⟨(some 15), (.mov (.t 13)), none⟩, ⟨(some 5), (.mov (.t 15)), none⟩]) (.seq (.tree (.take ⟨(some 16), (.mov (.t 0)), none⟩ (.take ⟨(some 17), (.mov (.t 5)), none⟩ (.take ⟨(some 18), (.idx 1 (.t 16) (.t 17)), none⟩ (.take ⟨(some 19), (.ld none (.t 18)), none⟩ (.take ⟨(some 20), (.mov (.t 1)), none⟩ (.take ⟨(some 21), (.mov (.t 5)), none⟩ (.take ⟨(some 22), (.idx 1 (.t 20) (.t 21)), none⟩ (.take ⟨(some 23), (.ld none (.t 22)), none⟩ (.take ⟨(some 24), (.bin .neq (.t 19) (.t 23)), none⟩ .done)))))))))) (.cond (.t 24) (.seq (.ops [⟨(some 4), (.mov (.c (.bool false))), none⟩]) .ret) .skip)))) (.ops [⟨(some 25), (.bin .add (.t 13) (.c (.int .i64 1))), none⟩, ⟨(some 13), (.mov (.t 25)), none⟩]))))))) (.seq (.ops [⟨(some 4), (.mov (.c (.bool true))), none⟩]) .ret))))
theorem cc15 : ccode Try.prog (min Try.f15.ntmps pbase) (Try.f15.body.getD .skip) = some ac15 := by kernel_rfl
def ac16 : ACode := (.seq (.ops [⟨(some 4), (.mov (.c (.bool false))), none⟩]) (.seq (.seq (.ops [⟨(some 6), (.mov (.t 0)), none⟩, ⟨(some 7), (.len (.t 6)), none⟩, ⟨(some 8), (.mov (.t 1)), none⟩, ⟨(some 9), (.len (.t 8)), none⟩, ⟨(some 10), (.bin .neq (.t 7) (.t 9)), none⟩]) (.cond (.t 10) (.seq (.ops [⟨(some 4), (.mov (.c (.bool false))), none⟩]) .ret) .skip)) (.seq (.seq (.ops [⟨(some 11), (.mov (.t 0)), none⟩, ⟨(some 12), (.len (.t 11)), none⟩, ⟨(some 13), (.mov (.c (.int .i64 0))), none⟩]) (.block 0 (.loop (.seq (.ops [⟨(some 14), (.bin .lss (.t 13) (.t 12)), none⟩]) (.seq (.cond (.t 14) .skip (.exit 0)) (.seq (.block 1 (.seq (.ops [⟨(some 15), (.mov (.t 13)), none⟩, ⟨(some 5), (.mov (.t 15)), none⟩]) (.seq (.tree (.take ⟨(some 16), (.mov (.t 0)), none⟩ (.take ⟨(some 17), (.mov (.t 5)), none⟩ (.take ⟨(some 18), (.idx 1 (.t 16) (.t 17)), none⟩ (.take ⟨(some 19), (.ld none (.t 18)), none⟩ (.take ⟨(some 20), (.mov (.t 1)), none⟩ (.take ⟨(some 21), (.mov (.t 5)), none⟩ (.take ⟨(some 22), (.idx 1 (.t 20) (.t 21)), none⟩ (.take ⟨(some 23), (.ld none (.t 22)), none⟩ (.take ⟨(some 24), (.call 15 [(.t 19), (.t 23)]), none⟩ (.take ⟨(some 25), (.not (.t 24)), none⟩ .done))))))))))) (.cond (.t 25) (.seq (.ops [⟨(some 4), (.mov (.c (.bool false))), none⟩]) .ret) .skip)))) (.ops [⟨(some 26), (.bin .add (.t 13) (.c (.int .i64 1))), none⟩, ⟨(some 13), (.mov (.t 26)), none⟩]))))))) (.seq (.ops [⟨(some 4), (.mov (.c (.bool true))), none⟩]) .ret))))
theorem cc16 : ccode Try.prog (min Try.f16.ntmps pbase) (Try.f16.body.getD .skip) = some ac16 := by kernel_rfl
def ac17 : ACode := (.seq (.ops [⟨(some 4), (.mov (.c (.bool false))), none⟩]) (.seq (.seq (.ops [⟨(some 7), (.mov (.t 0)), none⟩, ⟨(some 8), (.len (.t 7)), none⟩, ⟨(some 9), (.mov (.c (.int .i64 0))), none⟩]) (.block 0 (.loop (.seq (.ops [⟨(some 10), (.bin .lss (.t 9) (.t 8)), none⟩]) (.seq (.cond (.t 10) .skip (.exit 0)) (.seq (.block 1 (.seq (.ops [⟨(some 11), (.mov (.t 9)), none⟩, ⟨(some 12), (.idx 1 (.t 7) (.t 9)), none⟩, ⟨(some 13), (.ld none (.t 12)), none⟩, ⟨(some 5), (.mov (.t 11)), none⟩, ⟨(some 6), (.mov (.t 13)), none⟩]) (.seq (.ops [⟨(some 14), (.mov (.t 6)), none⟩, ⟨(some 15), (.mov (.t 1)), none⟩, ⟨(some 16), (.mov (.t 5)), none⟩, ⟨(some 17), (.idx 1 (.t 15) (.t 16)), none⟩, ⟨(some 18), (.ld none (.t 17)), none⟩, ⟨(some 19), (.bin .neq (.t 14) (.t 18)), none⟩]) (.cond (.t 19) (.seq (.ops [⟨(some 20), (.mov (.t 6)), none⟩, ⟨(some 21), (.mov (.t 1)), none⟩, ⟨(some 22), (.mov (.t 5)), none⟩, ⟨(some 23), (.idx 1 (.t 21) (.t 22)), none⟩, ⟨(some 24), (.ld none (.t 23)), none⟩, ⟨(some 25), (.bin .lss (.t 20) (.t 24)), none⟩, ⟨(some 4), (.mov (.t 25)), none⟩]) .ret) .skip)))) (.ops [⟨(some 26), (.bin .add (.t 9) (.c (.int .i64 1))), none⟩, ⟨(some 9), (.mov (.t 26)), none⟩]))))))) (.seq (.ops [⟨(some 4), (.mov (.c (.bool false))), none⟩]) .ret)))
theorem cc17 : ccode Try.prog (min Try.f17.ntmps pbase) (Try.f17.body.getD .skip) = some ac17 := by kernel_rfl
def ac18 : ACode := (.seq (.ops [⟨(some 4), (.nils 1), none⟩, ⟨(some 5), (.mov (.c (.bool false))), none⟩]) (.seq (.seq (.ops [⟨(some 12), (.mov (.t 0)), none⟩, ⟨(some 13), (.call 44 [(.t 12)]), none⟩, ⟨(some 14), (.not (.t 13)), none⟩]) (.cond (.t 14) (.seq (.ops [⟨(some 4), (.nils 1), none⟩, ⟨(some 5), (.mov (.c (.bool false))), none⟩]) .ret) .skip)) (.seq (.ops [⟨(some 15), (.mov (.t 0)), none⟩, ⟨(some 16), (.call 31 [(.t 15)]), none⟩, ⟨(some 6), (.alloc [(.int .i64 0), (.int .i64 0), (.int .i64 0), (.int .i64 0), (.int .i64 0), (.int .i64 0), (.int .i64 0), (.int .i64 0), (.int .i64 0), (.int .i64 0), (.map none)]), none⟩, ⟨none, (.st 11 (.t 6) (.t 16)), none⟩]) (.seq (.seq (.ops [⟨(some 17), (.mov (.t 1)), none⟩, ⟨(some 18), (.bin .lss (.t 17) (.c (.int .i64 0))), none⟩, ⟨(some 19), (.mov (.t 18)), none⟩, ⟨(some 20), (.mov (.t 1)), (some (19, false))⟩, ⟨(some 21), (.ld (some 11) (.t 6)), (some (19, false))⟩, ⟨(some 22), (.call 34 [(.t 21), (.c (.int .u16 0))]), (some (19, false))⟩, ⟨(some 23), (.bin .geq (.t 20) (.t 22)), (some (19, false))⟩, ⟨(some 24), (.pick (.t 19) (.c (.bool true)) (.t 23)), none⟩]) (.cond (.t 24) (.seq (.ops [⟨(some 4), (.nils 1), none⟩, ⟨(some 5), (.mov (.c (.bool false))), none⟩]) .ret) .skip)) (.seq (.ops [⟨(some 7), (.mov (.c (.int .u16 0))), none⟩]) (.seq (.ops [⟨(some 25), (.mov (.t 0)), none⟩, ⟨(some 26), (.len (.t 25)), none⟩, ⟨(some 27), (.mk 1 8 [(.int .i64 0)] (.t 26) (.t 26)), none⟩, ⟨(some 8), (.mov (.t 27)), none⟩]) (.seq (.seq (.ops [⟨(some 28), (.mov (.t 8)), none⟩, ⟨(some 29), (.len (.t 28)), none⟩, ⟨(some 30), (.mov (.c (.int .i64 0))), none⟩]) (.block 0 (.loop (.seq (.ops [⟨(some 31), (.bin .lss (.t 30) (.t 29)), none⟩]) (.seq (.cond (.t 31) .skip (.exit 0)) (.seq (.block 1 (.seq (.ops [⟨(some 32), (.mov (.t 30)), none⟩, ⟨(some 9), (.mov (.t 32)), none⟩]) (.seq (.ops [⟨(some 33), (.mov (.t 8)), none⟩, ⟨(some 34), (.len (.t 33)), none⟩, ⟨(some 35), (.mov (.c (.int .i64 0))), none⟩]) (.block 2 (.loop (.seq (.ops [⟨(some 36), (.bin .lss (.t 35) (.t 34)), none⟩]) (.seq (.cond (.t 36) .skip (.exit 2)) (.seq (.block 3 (.seq (.ops [⟨(some 37), (.mov (.t 35)), none⟩, ⟨(some 10), (.mov (.t 37)), none⟩]) (.seq (.seq (.ops [⟨(some 38), (.mov (.t 7)), none⟩, ⟨(some 39), (.mov (.t 10)), none⟩, ⟨(some 40), (.call 32 [(.t 38), (.t 39)]), none⟩, ⟨(some 41), (.mov (.t 40)), none⟩, ⟨(some 42), (.fa 0 (.t 6)), (some (41, false))⟩, ⟨(some 43), (.ld (some 10) (.t 42)), (some (41, false))⟩, ⟨(some 44), (.mov (.t 9)), (some (41, false))⟩, ⟨(some 45), (.mov (.t 10)), (some (41, false))⟩, ⟨(some 46), (.call 33 [(.t 43), (.t 44), (.t 45)]), (some (41, false))⟩, ⟨(some 47), (.not (.t 46)), (some (41, false))⟩, ⟨(some 48), (.pick (.t 41) (.c (.bool true)) (.t 47)), none⟩]) (.cond (.t 48) (.exit 3) .skip)) (.seq (.tree (.take ⟨(some 49), (.ld (some 11) (.t 6)), none⟩ (.take ⟨(some 50), (.mov (.t 7)), none⟩ (.take ⟨(some 51), (.mov (.t 10)), none⟩ (.take ⟨(some 52), (.call 35 [(.t 50), (.t 51)]), none⟩ (.one ⟨(some 53), (.call 34 [(.t 49), (.t 52)]), none⟩ (.take ⟨(some 11), (.mov (.t 53)), none⟩ .done))))))) (.seq (.seq (.ops [⟨(some 54), (.mov (.t 1)), none⟩, ⟨(some 55), (.mov (.t 11)), none⟩, ⟨(some 56), (.bin .lss (.t 54) (.t 55)), none⟩]) (.cond (.t 56) (.seq (.ops [⟨(some 57), (.mov (.t 8)), none⟩, ⟨(some 58), (.mov (.t 9)), none⟩, ⟨(some 59), (.mov (.t 10)), none⟩, ⟨(some 60), (.mov (.t 7)), none⟩, ⟨(some 61), (.mov (.t 10)), none⟩, ⟨(some 62), (.call 35 [(.t 60), (.t 61)]), none⟩, ⟨(some 63), (.idx 1 (.t 57) (.t 58)), none⟩, ⟨none, (.st 1 (.t 63) (.t 59)), none⟩, ⟨(some 7), (.mov (.t 62)), none⟩]) (.exit 2)) .skip)) (.ops [⟨(some 64), (.mov (.t 1)), none⟩, ⟨(some 65), (.mov (.t 11)), none⟩, ⟨(some 66), (.bin .sub (.t 64) (.t 65)), none⟩, ⟨(some 1), (.mov (.t 66)), none⟩])))))) (.ops [⟨(some 67), (.bin .add (.t 35) (.c (.int .i64 1))), none⟩, ⟨(some 35), (.mov (.t 67)), none⟩]))))))))) (.ops [⟨(some 68), (.bin .add (.t 30) (.c (.int .i64 1))), none⟩, ⟨(some 30), (.mov (.t 68)), none⟩]))))))) (.seq (.ops [⟨(some 69), (.mov (.t 8)), none⟩, ⟨(some 4), (.mov (.t 69)), none⟩, ⟨(some 5), (.mov (.c (.bool true))), none⟩]) .ret))))))))
theorem cc18 : ccode Try.prog (min Try.f18.ntmps pbase) (Try.f18.body.getD .skip) = some ac18 := by kernel_rfl
def ac19 : ACode := (.seq (.ops [⟨(some 2), (.mov (.c (.int .i64 0))), none⟩, ⟨(some 3), (.mov (.c (.bool false))), none⟩]) (.seq (.seq (.ops [⟨(some 4), (.mov (.t 0)), none⟩, ⟨(some 5), (.call 44 [(.t 4)]), none⟩, ⟨(some 6), (.not (.t 5)), none⟩]) (.cond (.t 6) (.seq (.ops [⟨(some 2), (.mov (.c (.int .i64 0))), none⟩, ⟨(some 3), (.mov (.c (.bool false))), none⟩]) .ret) .skip)) (.seq (.ops [⟨(some 7), (.mov (.t 0)), none⟩, ⟨(some 8), (.call 31 [(.t 7)]), none⟩, ⟨(some 9), (.call 34 [(.t 8), (.c (.int .u16 0))]), none⟩, ⟨(some 2), (.mov (.t 9)), none⟩, ⟨(some 3), (.mov (.c (.bool true))), none⟩]) .ret)))
theorem cc19 : ccode Try.prog (min Try.f19.ntmps pbase) (Try.f19.body.getD .skip) = some ac19 := by kernel_rfl
def ac20 : ACode := (.seq (.ops [⟨(some 2), (.nils 1), none⟩, ⟨(some 3), (.mov (.c (.bool false))), none⟩]) (.seq (.seq (.ops [⟨(some 7), (.mov (.t 0)), none⟩, ⟨(some 8), (.call 44 [(.t 7)]), none⟩, ⟨(some 9), (.not (.t 8)), none⟩]) (.cond (.t 9) (.seq (.ops [⟨(some 2), (.nils 1), none⟩, ⟨(some 3), (.mov (.c (.bool false))), none⟩]) .ret) .skip)) (.seq (.ops [⟨(some 10), (.mov (.t 0)), none⟩, ⟨(some 11), (.call 42 [(.t 10)]), none⟩, ⟨(some 12), (.mk 1 8 [(.int .i64 0)] (.t 11) (.t 11)), none⟩, ⟨(some 4), (.mov (.t 12)), none⟩]) (.seq (.seq (.ops [⟨(some 13), (.mov (.t 0)), none⟩, ⟨(some 14), (.len (.t 13)), none⟩, ⟨(some 15), (.mov (.c (.int .i64 0))), none⟩]) (.block 0 (.loop (.seq (.ops [⟨(some 16), (.bin .lss (.t 15) (.t 14)), none⟩]) (.seq (.cond (.t 16) .skip (.exit 0)) (.seq (.block 1 (.seq (.ops [⟨(some 17), (.idx 1 (.t 13) (.t 15)), none⟩, ⟨(some 18), (.ld none (.t 17)), none⟩, ⟨(some 6), (.mov (.t 18)), none⟩]) (.ops [⟨(some 19), (.mov (.t 4)), none⟩, ⟨(some 20), (.mov (.t 6)), none⟩, ⟨(some 21), (.idx 1 (.t 19) (.t 20)), none⟩, ⟨(some 22), (.ld none (.t 21)), none⟩, ⟨(some 23), (.bin .add (.t 22) (.c (.int .i64 1))), none⟩, ⟨(some 24), (.idx 1 (.t 19) (.t 20)), none⟩, ⟨none, (.st 1 (.t 24) (.t 23)), none⟩]))) (.ops [⟨(some 25), (.bin .add (.t 15) (.c (.int .i64 1))), none⟩, ⟨(some 15), (.mov (.t 25)), none⟩]))))))) (.seq (.ops [⟨(some 26), (.mov (.t 4)), none⟩, ⟨(some 2), (.mov (.t 26)), none⟩, ⟨(some 3), (.mov (.c (.bool true))), none⟩]) .ret)))))
theorem cc20 : ccode Try.prog (min Try.f20.ntmps pbase) (Try.f20.body.getD .skip) = some ac20 := by kernel_rfl
def ac21 : ACode := (.seq (.ops [⟨(some 2), (.mov (.c (.int .i64 0))), none⟩]) (.seq (.ops [⟨(some 3), (.mov (.c (.int .i64 0))), none⟩]) (.seq (.seq (.ops [⟨(some 6), (.mov (.t 0)), none⟩, ⟨(some 7), (.len (.t 6)), none⟩, ⟨(some 8), (.mov (.c (.int .i64 0))), none⟩]) (.block 0 (.loop (.seq (.ops [⟨(some 9), (.bin .lss (.t 8) (.t 7)), none⟩]) (.seq (.cond (.t 9) .skip (.exit 0)) (.seq (.block 1 (.seq (.ops [⟨(some 10), (.idx 1 (.t 6) (.t 8)), none⟩, ⟨(some 11), (.ld none (.t 10)), none⟩, ⟨(some 5), (.mov (.t 11)), none⟩]) (.ops [⟨(some 12), (.mov (.t 3)), none⟩, ⟨(some 13), (.mov (.t 5)), none⟩, ⟨(some 14), (.bin .add (.t 12) (.t 13)), none⟩, ⟨(some 3), (.mov (.t 14)), none⟩]))) (.ops [⟨(some 15), (.bin .add (.t 8) (.c (.int .i64 1))), none⟩, ⟨(some 8), (.mov (.t 15)), none⟩]))))))) (.seq (.ops [⟨(some 16), (.mov (.t 3)), none⟩, ⟨(some 2), (.mov (.t 16)), none⟩]) .ret))))
theorem cc21 : ccode Try.prog (min Try.f21.ntmps pbase) (Try.f21.body.getD .skip) = some ac21 := by kernel_rfl
def ac22 : ACode := (.seq (.ops [⟨(some 2), (.nils 1), none⟩, ⟨(some 3), (.mov (.c (.bool false))), none⟩]) (.seq (.seq (.ops [⟨(some 7), (.mov (.t 0)), none⟩, ⟨(some 8), (.call 45 [(.t 7)]), none⟩, ⟨(some 9), (.not (.t 8)), none⟩]) (.cond (.t 9) (.seq (.ops [⟨(some 2), (.nils 1), none⟩, ⟨(some 3), (.mov (.c (.bool false))), none⟩]) .ret) .skip)) (.seq (.ops [⟨(some 10), (.mov (.t 0)), none⟩, ⟨(some 11), (.len (.t 10)), none⟩, ⟨(some 12), (.mk 1 8 [(.int .i64 0)] (.t 11) (.t 11)), none⟩, ⟨(some 4), (.mov (.t 12)), none⟩]) (.seq (.seq (.ops [⟨(some 13), (.mov (.t 0)), none⟩, ⟨(some 14), (.len (.t 13)), none⟩, ⟨(some 15), (.mov (.c (.int .i64 0))), none⟩]) (.block 0 (.loop (.seq (.ops [⟨(some 16), (.bin .lss (.t 15) (.t 14)), none⟩]) (.seq (.cond (.t 16) .skip (.exit 0)) (.seq (.block 1 (.seq (.ops [⟨(some 17), (.mov (.t 15)), none⟩, ⟨(some 18), (.idx 1 (.t 13) (.t 15)), none⟩, ⟨(some 19), (.ld none (.t 18)), none⟩, ⟨(some 5), (.mov (.t 17)), none⟩, ⟨(some 6), (.mov (.t 19)), none⟩]) (.ops [⟨(some 20), (.mov (.t 4)), none⟩, ⟨(some 21), (.mov (.t 6)), none⟩, ⟨(some 22), (.mov (.t 5)), none⟩, ⟨(some 23), (.idx 1 (.t 20) (.t 21)), none⟩, ⟨none, (.st 1 (.t 23) (.t 22)), none⟩]))) (.ops [⟨(some 24), (.bin .add (.t 15) (.c (.int .i64 1))), none⟩, ⟨(some 15), (.mov (.t 24)), none⟩]))))))) (.seq (.ops [⟨(some 25), (.mov (.t 4)), none⟩, ⟨(some 2), (.mov (.t 25)), none⟩, ⟨(some 3), (.mov (.c (.bool true))), none⟩]) .ret)))))
theorem cc22 : ccode Try.prog (min Try.f22.ntmps pbase) (Try.f22.body.getD .skip) = some ac22 := by kernel_rfl
def ac23 : ACode := (.seq (.ops [⟨(some 2), (.nils 1), none⟩, ⟨(some 3), (.mov (.c (.int .i64 0))), none⟩]) (.seq (.ops [⟨(some 6), (.mov (.t 0)), none⟩, ⟨(some 7), (.pu (.bld [(.slice none 0 0), (.int .i64 0), (.int .u64 0)] [(0, 1)]) [(.t 6)]), none⟩, ⟨(some 8), (.box 3 (.t 7)), none⟩, ⟨(some 4), (.mov (.t 8)), none⟩]) (.seq (.ops [⟨(some 9), (.mov (.t 4)), none⟩, ⟨(some 10), (.call 46 [(.t 9)]), none⟩, ⟨(some 5), (.mov (.t 10)), none⟩]) (.seq (.seq (.ops [⟨(some 11), (.mov (.t 5)), none⟩, ⟨(some 12), (.call 47 [(.t 11)]), none⟩, ⟨(some 13), (.mov (.t 12)), none⟩, ⟨(some 14), (.mov (.t 4)), (some (13, true))⟩, ⟨(some 15), (.call 48 [(.t 14), (.c (.int .i64 4))]), (some (13, true))⟩, ⟨(some 16), (.not (.t 15)), (some (13, true))⟩, ⟨(some 17), (.pick (.t 13) (.t 16) (.c (.bool false))), none⟩]) (.cond (.t 17) (.seq (.ops [⟨(some 18), (.mov (.t 5)), none⟩, ⟨(some 19), (.mov (.t 4)), none⟩, ⟨(some 20), (.mov (.t 5)), none⟩, ⟨(some 21), (.call 37 [(.t 20), (.c (.slice none 0 0))]), none⟩, ⟨(some 22), (.call 50 [(.c (.int .i64 1)), (.t 21)]), none⟩, ⟨(some 23), (.call 49 [(.t 19), (.t 22)]), none⟩, ⟨(some 2), (.mov (.t 18)), none⟩, ⟨(some 3), (.mov (.t 23)), none⟩]) .ret) .skip)) (.seq (.ops [⟨(some 24), (.mov (.t 5)), none⟩, ⟨(some 25), (.mov (.t 4)), none⟩, ⟨(some 26), (.bsl 1 6 [(.int .i64 0)] [(0, (.c (.int .i64 (-1)))), (1, (.c (.int .i64 0))), (2, (.c (.int .i64 1))), (3, (.c (.int .i64 5))), (4, (.c (.int .i64 100))), (5, (.c (.int .i64 4611686018427387904)))]), none⟩, ⟨(some 27), (.call 51 [(.t 25), (.t 26)]), none⟩, ⟨(some 2), (.mov (.t 24)), none⟩, ⟨(some 3), (.mov (.t 27)), none⟩]) .ret)))))
theorem cc23 : ccode Try.prog (min Try.f23.ntmps pbase) (Try.f23.body.getD .skip) = some ac23 := by kernel_rfl
def ac24 : ACode := (.seq (.ops [⟨(some 4), (.nils 1), none⟩, ⟨(some 5), (.mov (.c (.bool false))), none⟩]) (.seq (.seq (.ops [⟨(some 10), (.mov (.t 0)), none⟩, ⟨(some 11), (.call 47 [(.t 10)]), none⟩, ⟨(some 12), (.not (.t 11)), none⟩, ⟨(some 13), (.mov (.t 12)), none⟩, ⟨(some 14), (.mov (.t 1)), (some (13, false))⟩, ⟨(some 15), (.mov (.t 0)), (some (13, false))⟩, ⟨(some 16), (.call 37 [(.t 15), (.c (.slice none 0 0))]), (some (13, false))⟩, ⟨(some 17), (.bin .sub (.t 16) (.c (.int .i64 1))), (some (13, false))⟩, ⟨(some 18), (.call 52 [(.t 14), (.c (.int .i64 0)), (.t 17)]), (some (13, false))⟩, ⟨(some 19), (.not (.t 18)), (some (13, false))⟩, ⟨(some 20), (.pick (.t 13) (.c (.bool true)) (.t 19)), none⟩]) (.cond (.t 20) (.seq (.ops [⟨(some 4), (.nils 1), none⟩, ⟨(some 5), (.mov (.c (.bool false))), none⟩]) .ret) .skip)) (.seq (.ops [⟨(some 6), (.nils 1), none⟩]) (.seq (.block 0 (.loop (.seq (.seq (.ops [⟨(some 21), (.mov (.t 6)), none⟩, ⟨(some 22), (.len (.t 21)), none⟩, ⟨(some 23), (.mov (.t 0)), none⟩, ⟨(some 24), (.len (.t 23)), none⟩, ⟨(some 25), (.bin .lss (.t 22) (.t 24)), none⟩]) (.cond (.t 25) .skip (.exit 0))) (.block 1 (.seq (.ops [⟨(some 26), (.mov (.t 0)), none⟩, ⟨(some 27), (.len (.t 26)), none⟩, ⟨(some 28), (.mov (.c (.int .i64 0))), none⟩]) (.block 2 (.loop (.seq (.ops [⟨(some 29), (.bin .lss (.t 28) (.t 27)), none⟩]) (.seq (.cond (.t 29) .skip (.exit 2)) (.seq (.block 3 (.seq (.ops [⟨(some 30), (.mov (.t 28)), none⟩, ⟨(some 7), (.mov (.t 30)), none⟩]) (.seq (.seq (.tree (.take ⟨(some 31), (.mov (.t 0)), none⟩ (.take ⟨(some 32), (.mov (.t 7)), none⟩ (.take ⟨(some 33), (.idx 1 (.t 31) (.t 32)), none⟩ (.take ⟨(some 34), (.ld none (.t 33)), none⟩ (.take ⟨(some 35), (.mov (.t 0)), none⟩ (.take ⟨(some 36), (.mov (.t 6)), none⟩ (.take ⟨(some 37), (.len (.t 36)), none⟩ (.take ⟨(some 38), (.idx 1 (.t 35) (.t 37)), none⟩ (.take ⟨(some 39), (.ld none (.t 38)), none⟩ (.take ⟨(some 40), (.bin .eql (.t 34) (.t 39)), none⟩ (.take ⟨(some 41), (.mov (.t 40)), none⟩ (.take ⟨(some 42), (.mov (.t 6)), (some (41, false))⟩ (.take ⟨(some 43), (.mov (.t 7)), (some (41, false))⟩ (.take ⟨(some 44), (.call 36 [(.t 42), (.t 43)]), (some (41, false))⟩ (.take ⟨(some 45), (.pick (.t 41) (.c (.bool true)) (.t 44)), none⟩ .done)))))))))))))))) (.cond (.t 45) (.exit 3) .skip)) (.seq (.ops [⟨(some 46), (.mov (.t 6)), none⟩, ⟨(some 47), (.call 38 [(.t 46)]), none⟩, ⟨(some 48), (.mov (.t 7)), none⟩, ⟨(some 49), (.bsl 1 1 [(.int .i64 0)] [(0, (.t 48))]), none⟩, ⟨(some 50), (.app 1 8 (.t 47) (.t 49)), none⟩, ⟨(some 8), (.mov (.t 50)), none⟩]) (.seq (.ops [⟨(some 51), (.mov (.t 0)), none⟩, ⟨(some 52), (.mov (.t 8)), none⟩, ⟨(some 53), (.call 37 [(.t 51), (.t 52)]), none⟩, ⟨(some 9), (.mov (.t 53)), none⟩]) (.seq (.seq (.ops [⟨(some 54), (.mov (.t 1)), none⟩, ⟨(some 55), (.mov (.t 9)), none⟩, ⟨(some 56), (.bin .lss (.t 54) (.t 55)), none⟩]) (.cond (.t 56) (.seq (.ops [⟨(some 57), (.mov (.t 8)), none⟩, ⟨(some 6), (.mov (.t 57)), none⟩]) (.exit 2)) .skip)) (.ops [⟨(some 58), (.mov (.t 1)), none⟩, ⟨(some 59), (.mov (.t 9)), none⟩, ⟨(some 60), (.bin .sub (.t 58) (.t 59)), none⟩, ⟨(some 1), (.mov (.t 60)), none⟩]))))))) (.ops [⟨(some 61), (.bin .add (.t 28) (.c (.int .i64 1))), none⟩, ⟨(some 28), (.mov (.t 61)), none⟩]))))))))))) (.seq (.ops [⟨(some 62), (.mov (.t 6)), none⟩, ⟨(some 4), (.mov (.t 62)), none⟩, ⟨(some 5), (.mov (.c (.bool true))), none⟩]) .ret)))))
theorem cc24 : ccode Try.prog (min Try.f24.ntmps pbase) (Try.f24.body.getD .skip) = some ac24 := by kernel_rfl
def ac25 : ACode := (.seq (.ops [⟨(some 2), (.nils 1), none⟩, ⟨(some 3), (.nils 1), none⟩]) (.seq (.ops [⟨(some 8), (.mov (.t 0)), none⟩, ⟨(some 9), (.call 46 [(.t 8)]), none⟩, ⟨(some 4), (.mov (.t 9)), none⟩]) (.seq (.seq (.ops [⟨(some 10), (.mov (.t 4)), none⟩, ⟨(some 11), (.call 47 [(.t 10)]), none⟩, ⟨(some 12), (.mov (.t 11)), none⟩, ⟨(some 13), (.mov (.t 0)), (some (12, true))⟩, ⟨(some 14), (.call 48 [(.t 13), (.c (.int .i64 4))]), (some (12, true))⟩, ⟨(some 15), (.not (.t 14)), (some (12, true))⟩, ⟨(some 16), (.pick (.t 12) (.t 15) (.c (.bool false))), none⟩]) (.cond (.t 16) (.seq (.ops [⟨(some 17), (.mov (.t 4)), none⟩, ⟨(some 18), (.call 37 [(.t 17), (.c (.slice none 0 0))]), none⟩, ⟨(some 5), (.mov (.t 18)), none⟩]) (.seq (.ops [⟨(some 19), (.mov (.t 5)), none⟩, ⟨(some 20), (.bin .gtr (.t 19) (.c (.int .i64 0))), none⟩]) (.cond (.t 20) (.seq (.ops [⟨(some 22), (.mov (.t 4)), none⟩, ⟨(some 23), (.mov (.t 0)), none⟩, ⟨(some 24), (.mov (.t 5)), none⟩, ⟨(some 25), (.call 49 [(.t 23), (.t 24)]), none⟩, ⟨(some 26), (.call 24 [(.t 22), (.t 25)]), none⟩, ⟨(some 21), (.mov (.t 26)), none⟩, ⟨(some 27), (.ext (.t 21) 0), none⟩, ⟨(some 28), (.ext (.t 21) 1), none⟩, ⟨(some 6), (.mov (.t 27)), none⟩, ⟨(some 7), (.mov (.t 28)), none⟩]) (.seq (.ops [⟨(some 29), (.mov (.t 4)), none⟩, ⟨(some 30), (.mov (.t 6)), none⟩, ⟨(some 2), (.mov (.t 29)), none⟩, ⟨(some 3), (.mov (.t 30)), none⟩]) .ret)) .skip))) .skip)) (.seq (.seq (.ops [⟨(some 31), (.mov (.t 4)), none⟩, ⟨(some 32), (.call 47 [(.t 31)]), none⟩, ⟨(some 33), (.mov (.t 32)), none⟩, ⟨(some 34), (.mov (.t 0)), (some (33, true))⟩, ⟨(some 35), (.call 48 [(.t 34), (.c (.int .i64 2))]), (some (33, true))⟩, ⟨(some 36), (.pick (.t 33) (.t 35) (.c (.bool false))), none⟩]) (.cond (.t 36) (.seq (.ops [⟨(some 37), (.mov (.t 4)), none⟩, ⟨(some 38), (.mov (.t 4)), none⟩, ⟨(some 39), (.len (.t 38)), none⟩, ⟨(some 40), (.mov (.t 0)), none⟩, ⟨(some 41), (.call 49 [(.t 40), (.c (.int .i64 250))]), none⟩, ⟨(some 42), (.call 53 [(.t 39), (.t 41)]), none⟩, ⟨(some 2), (.mov (.t 37)), none⟩, ⟨(some 3), (.mov (.t 42)), none⟩]) .ret) .skip)) (.seq (.ops [⟨(some 43), (.mov (.t 4)), none⟩, ⟨(some 44), (.mov (.t 0)), none⟩, ⟨(some 45), (.call 54 [(.t 44)]), none⟩, ⟨(some 2), (.mov (.t 43)), none⟩, ⟨(some 3), (.mov (.t 45)), none⟩]) .ret)))))
theorem cc25 : ccode Try.prog (min Try.f25.ntmps pbase) (Try.f25.body.getD .skip) = some ac25 := by kernel_rfl
def ac26 : ACode := (.seq (.ops [⟨(some 4), (.mov (.c (.bool false))), none⟩]) (.seq (.ops [⟨(some 5), (.mov (.t 0)), none⟩, ⟨(some 6), (.call 44 [(.t 5)]), none⟩, ⟨(some 7), (.mov (.t 6)), none⟩, ⟨(some 8), (.mov (.t 1)), (some (7, true))⟩, ⟨(some 9), (.call 45 [(.t 8)]), (some (7, true))⟩, ⟨(some 10), (.pick (.t 7) (.t 9) (.c (.bool false))), none⟩, ⟨(some 11), (.mov (.t 10)), none⟩, ⟨(some 12), (.mov (.t 0)), (some (11, true))⟩, ⟨(some 13), (.len (.t 12)), (some (11, true))⟩, ⟨(some 14), (.mov (.t 1)), (some (11, true))⟩, ⟨(some 15), (.len (.t 14)), (some (11, true))⟩, ⟨(some 16), (.bin .eql (.t 13) (.t 15)), (some (11, true))⟩, ⟨(some 17), (.pick (.t 11) (.t 16) (.c (.bool false))), none⟩, ⟨(some 4), (.mov (.t 17)), none⟩]) .ret))
theorem cc26 : ccode Try.prog (min Try.f26.ntmps pbase) (Try.f26.body.getD .skip) = some ac26 := by kernel_rfl
def ac27 : ACode := (.seq (.ops [⟨(some 2), (.alloc [(.int .i64 0), (.int .i64 0), (.int .i64 0), (.int .i64 0), (.int .i64 0), (.int .i64 0), (.int .i64 0), (.int .i64 0), (.int .i64 0), (.int .i64 0)]), none⟩]) (.seq (.ops [⟨(some 4), (.mov (.t 0)), none⟩, ⟨(some 5), (.len (.t 4)), none⟩, ⟨(some 6), (.pu (.bld [(.int .i64 0), (.int .i64 0), (.int .i64 0), (.int .i64 0), (.int .i64 0), (.int .i64 0), (.int .i64 0), (.int .i64 0), (.int .i64 0), (.int .i64 0)] [(0, 1)]) [(.t 5)]), none⟩, ⟨(some 3), (.alloc [(.int .i64 0), (.int .i64 0), (.int .i64 0), (.int .i64 0), (.int .i64 0), (.int .i64 0), (.int .i64 0), (.int .i64 0), (.int .i64 0), (.int .i64 0)]), none⟩, ⟨none, (.st 10 (.t 3) (.t 6)), none⟩]) (.seq (.ops [⟨(some 7), (.fa 1 (.t 3)), none⟩, ⟨(some 8), (.acut 1 9 (.t 7) none none), none⟩, ⟨(some 9), (.mov (.t 0)), none⟩, ⟨(some 10), (.cpy 1 (.t 8) (.t 9)), none⟩]) (.seq (.ops [⟨(some 11), (.ld (some 10) (.t 3)), none⟩, ⟨none, (.st 10 (.t 2) (.t 11)), none⟩]) .ret))))
theorem cc27 : ccode Try.prog (min Try.f27.ntmps pbase) (Try.f27.body.getD .skip) = some ac27 := by kernel_rfl
def ac28 : ACode := (.seq (.ops [⟨(some 2), (.box 10 (.t 0)), none⟩, ⟨(some 4), (.mov (.c (.bool false))), none⟩]) (.seq (.seq (.ops [⟨(some 7), (.mov (.t 1)), none⟩, ⟨(some 8), (.len (.t 7)), none⟩, ⟨(some 9), (.mov (.c (.int .i64 0))), none⟩]) (.block 0 (.loop (.seq (.ops [⟨(some 10), (.bin .lss (.t 9) (.t 8)), none⟩]) (.seq (.cond (.t 10) .skip (.exit 0)) (.seq (.block 1 (.seq (.ops [⟨(some 11), (.mov (.t 9)), none⟩, ⟨(some 12), (.idx 1 (.t 7) (.t 9)), none⟩, ⟨(some 13), (.ld none (.t 12)), none⟩, ⟨(some 5), (.mov (.t 11)), none⟩, ⟨(some 6), (.mov (.t 13)), none⟩]) (.seq (.ops [⟨(some 14), (.ld (some 10) (.t 2)), none⟩, ⟨(some 15), (.mov (.t 5)), none⟩, ⟨(some 16), (.mov (.t 6)), none⟩, ⟨(some 17), (.call 33 [(.t 14), (.t 15), (.t 16)]), none⟩, ⟨(some 18), (.not (.t 17)), none⟩]) (.cond (.t 18) (.seq (.ops [⟨(some 4), (.mov (.c (.bool false))), none⟩]) .ret) .skip)))) (.ops [⟨(some 19), (.bin .add (.t 9) (.c (.int .i64 1))), none⟩, ⟨(some 9), (.mov (.t 19)), none⟩]))))))) (.seq (.ops [⟨(some 4), (.mov (.c (.bool true))), none⟩]) .ret)))
theorem cc28 : ccode Try.prog (min Try.f28.ntmps pbase) (Try.f28.body.getD .skip) = some ac28 := by kernel_rfl
def ac29 : ACode := (.seq (.ops [⟨(some 4), (.mov (.c (.bool false))), none⟩]) (.seq (.ops [⟨(some 5), (.mov (.t 0)), none⟩, ⟨(some 6), (.call 47 [(.t 5)]), none⟩, ⟨(some 7), (.mov (.t 6)), none⟩, ⟨(some 8), (.mov (.t 1)), (some (7, true))⟩, ⟨(some 9), (.call 55 [(.t 8)]), (some (7, true))⟩, ⟨(some 10), (.pick (.t 7) (.t 9) (.c (.bool false))), none⟩, ⟨(some 11), (.mov (.t 10)), none⟩, ⟨(some 12), (.mov (.t 0)), (some (11, true))⟩, ⟨(some 13), (.len (.t 12)), (some (11, true))⟩, ⟨(some 14), (.mov (.t 1)), (some (11, true))⟩, ⟨(some 15), (.len (.t 14)), (some (11, true))⟩, ⟨(some 16), (.bin .eql (.t 13) (.t 15)), (some (11, true))⟩, ⟨(some 17), (.pick (.t 11) (.t 16) (.c (.bool false))), none⟩, ⟨(some 4), (.mov (.t 17)), none⟩]) .ret))
theorem cc29 : ccode Try.prog (min Try.f29.ntmps pbase) (Try.f29.body.getD .skip) = some ac29 := by kernel_rfl
def ac30 : ACode := (.seq (.ops [⟨(some 4), (.mov (.c (.bool false))), none⟩]) (.seq (.seq (.ops [⟨(some 7), (.mov (.t 1)), none⟩, ⟨(some 8), (.len (.t 7)), none⟩, ⟨(some 9), (.mov (.c (.int .i64 0))), none⟩]) (.block 0 (.loop (.seq (.ops [⟨(some 10), (.bin .lss (.t 9) (.t 8)), none⟩]) (.seq (.cond (.t 10) .skip (.exit 0)) (.seq (.block 1 (.seq (.ops [⟨(some 11), (.mov (.t 9)), none⟩, ⟨(some 12), (.idx 1 (.t 7) (.t 9)), none⟩, ⟨(some 13), (.ld none (.t 12)), none⟩, ⟨(some 5), (.mov (.t 11)), none⟩, ⟨(some 6), (.mov (.t 13)), none⟩]) (.seq (.tree (.take ⟨(some 14), (.mov (.t 0)), none⟩ (.take ⟨(some 15), (.mov (.t 5)), none⟩ (.take ⟨(some 16), (.idx 1 (.t 14) (.t 15)), none⟩ (.take ⟨(some 17), (.ld none (.t 16)), none⟩ (.take ⟨(some 18), (.mov (.t 0)), none⟩ (.take ⟨(some 19), (.mov (.t 6)), none⟩ (.take ⟨(some 20), (.idx 1 (.t 18) (.t 19)), none⟩ (.take ⟨(some 21), (.ld none (.t 20)), none⟩ (.take ⟨(some 22), (.bin .eql (.t 17) (.t 21)), none⟩ .done)))))))))) (.cond (.t 22) (.seq (.ops [⟨(some 4), (.mov (.c (.bool false))), none⟩]) .ret) .skip)))) (.ops [⟨(some 23), (.bin .add (.t 9) (.c (.int .i64 1))), none⟩, ⟨(some 9), (.mov (.t 23)), none⟩]))))))) (.seq (.ops [⟨(some 4), (.mov (.c (.bool true))), none⟩]) .ret)))
theorem cc30 : ccode Try.prog (min Try.f30.ntmps pbase) (Try.f30.body.getD .skip) = some ac30 := by kernel_rfl
def ac31 : ACode := (.seq (.ops [⟨(some 2), (.alloc [(.int .i64 0), (.int .i64 0), (.int .i64 0), (.int .i64 0), (.int .i64 0), (.int .i64 0), (.int .i64 0), (.int .i64 0), (.int .i64 0), (.int .i64 0), (.map none)]), none⟩]) (.seq (.ops [⟨(some 3), (.mov (.t 0)), none⟩, ⟨(some 4), (.call 27 [(.t 3)]), none⟩, ⟨(some 5), .mmk, none⟩, ⟨(some 6), (.pu (.bld [(.int .i64 0), (.int .i64 0), (.int .i64 0), (.int .i64 0), (.int .i64 0), (.int .i64 0), (.int .i64 0), (.int .i64 0), (.int .i64 0), (.int .i64 0), (.map none)] [(0, 10), (10, 1)]) [(.t 4), (.t 5)]), none⟩, ⟨none, (.st 11 (.t 2) (.t 6)), none⟩]) .ret))
theorem cc31 : ccode Try.prog (min Try.f31.ntmps pbase) (Try.f31.body.getD .skip) = some ac31 := by kernel_rfl
def ac32 : ACode := (.seq (.ops [⟨(some 4), (.mov (.c (.bool false))), none⟩]) (.seq (.ops [⟨(some 5), (.mov (.t 0)), none⟩, ⟨(some 6), (.mov (.t 1)), none⟩, ⟨(some 7), (.bin .shr (.t 5) (.t 6)), none⟩, ⟨(some 8), (.bin .and (.t 7) (.c (.int .u16 1))), none⟩, ⟨(some 9), (.bin .eql (.t 8) (.c (.int .u16 1))), none⟩, ⟨(some 4), (.mov (.t 9)), none⟩]) .ret))
theorem cc32 : ccode Try.prog (min Try.f32.ntmps pbase) (Try.f32.body.getD .skip) = some ac32 := by kernel_rfl
def ac33 : ACode := (.seq (.ops [⟨(some 3), (.box 10 (.t 0)), none⟩, ⟨(some 6), (.mov (.c (.bool false))), none⟩]) (.seq (.tree (.take ⟨(some 7), (.mov (.t 1)), none⟩ (.take ⟨(some 8), (.fa 1 (.t 3)), none⟩ (.take ⟨(some 9), (.arr 1 9 (.t 8) (.t 7)), none⟩ (.take ⟨(some 10), (.ld none (.t 9)), none⟩ (.take ⟨(some 11), (.mov (.t 2)), none⟩ (.take ⟨(some 12), (.fa 1 (.t 3)), none⟩ (.take ⟨(some 13), (.arr 1 9 (.t 12) (.t 11)), none⟩ (.take ⟨(some 14), (.ld none (.t 13)), none⟩ (.take ⟨(some 15), (.bin .neq (.t 10) (.t 14)), none⟩ (.take ⟨(some 6), (.mov (.t 15)), none⟩ .done))))))))))) .ret))
theorem cc33 : ccode Try.prog (min Try.f33.ntmps pbase) (Try.f33.body.getD .skip) = some ac33 := by kernel_rfl
def ac34 : ACode := (.seq (.ops [⟨(some 2), (.box 11 (.t 0)), none⟩, ⟨(some 4), (.mov (.c (.int .i64 0))), none⟩]) (.seq (.seq (.ops [⟨(some 10), (.mov (.t 1)), none⟩, ⟨(some 11), (.fa 0 (.t 2)), none⟩, ⟨(some 12), (.ld (some 10) (.t 11)), none⟩, ⟨(some 13), (.call 56 [(.t 12)]), none⟩, ⟨(some 14), (.bin .eql (.t 10) (.t 13)), none⟩]) (.cond (.t 14) (.seq (.ops [⟨(some 4), (.mov (.c (.int .i64 1))), none⟩]) .ret) .skip)) (.seq (.seq (.ops [⟨(some 16), (.fa 10 (.t 2)), none⟩, ⟨(some 17), (.ld none (.t 16)), none⟩, ⟨(some 18), (.mov (.t 1)), none⟩, ⟨(some 19), (.mget .u16 (.int .i64 0) true (.t 17) (.t 18)), none⟩, ⟨(some 15), (.mov (.t 19)), none⟩, ⟨(some 20), (.ext (.t 15) 0), none⟩, ⟨(some 21), (.ext (.t 15) 1), none⟩, ⟨(some 5), (.mov (.t 20)), none⟩, ⟨(some 6), (.mov (.t 21)), none⟩]) (.seq (.ops [⟨(some 22), (.mov (.t 6)), none⟩]) (.cond (.t 22) (.seq (.ops [⟨(some 23), (.mov (.t 5)), none⟩, ⟨(some 4), (.mov (.t 23)), none⟩]) .ret) .skip))) (.seq (.ops [⟨(some 24), (.mov (.t 1)), none⟩, ⟨(some 25), (.call 57 [(.t 24)]), none⟩, ⟨(some 7), (.mov (.t 25)), none⟩]) (.seq (.ops [⟨(some 8), (.mov (.c (.int .i64 0))), none⟩]) (.seq (.seq (.ops [⟨(some 26), (.fa 0 (.t 2)), none⟩, ⟨(some 27), (.fa 0 (.t 26)), none⟩, ⟨(some 28), (.ld none (.t 27)), none⟩, ⟨(some 29), (.mov (.c (.int .i64 0))), none⟩]) (.block 0 (.loop (.seq (.ops [⟨(some 30), (.bin .lss (.t 29) (.t 28)), none⟩]) (.seq (.cond (.t 30) .skip (.exit 0)) (.seq (.block 1 (.seq (.ops [⟨(some 31), (.mov (.t 29)), none⟩, ⟨(some 9), (.mov (.t 31)), none⟩]) (.seq (.ops [⟨(some 32), (.mov (.t 1)), none⟩, ⟨(some 33), (.mov (.t 9)), none⟩, ⟨(some 34), (.call 32 [(.t 32), (.t 33)]), none⟩, ⟨(some 35), (.not (.t 34)), none⟩, ⟨(some 36), (.mov (.t 35)), none⟩, ⟨(some 37), (.fa 0 (.t 2)), (some (36, true))⟩, ⟨(some 38), (.ld (some 10) (.t 37)), (some (36, true))⟩, ⟨(some 39), (.mov (.t 7)), (some (36, true))⟩, ⟨(some 40), (.mov (.t 9)), (some (36, true))⟩, ⟨(some 41), (.call 33 [(.t 38), (.t 39), (.t 40)]), (some (36, true))⟩, ⟨(some 42), (.pick (.t 36) (.t 41) (.c (.bool false))), none⟩]) (.cond (.t 42) (.tree (.take ⟨(some 43), (.mov (.t 8)), none⟩ (.take ⟨(some 44), (.ld (some 11) (.t 2)), none⟩ (.take ⟨(some 45), (.mov (.t 1)), none⟩ (.take ⟨(some 46), (.mov (.t 9)), none⟩ (.take ⟨(some 47), (.call 35 [(.t 45), (.t 46)]), none⟩ (.one ⟨(some 48), (.call 34 [(.t 44), (.t 47)]), none⟩ (.take ⟨(some 49), (.bin .add (.t 43) (.t 48)), none⟩ (.take ⟨(some 8), (.mov (.t 49)), none⟩ .done))))))))) .skip)))) (.ops [⟨(some 50), (.bin .add (.t 29) (.c (.int .i64 1))), none⟩, ⟨(some 29), (.mov (.t 50)), none⟩]))))))) (.seq (.ops [⟨(some 51), (.fa 10 (.t 2)), none⟩, ⟨(some 52), (.ld none (.t 51)), none⟩, ⟨(some 53), (.mov (.t 1)), none⟩, ⟨(some 54), (.mov (.t 8)), none⟩, ⟨none, (.mput .u16 (.t 52) (.t 53) (.t 54)), none⟩]) (.seq (.ops [⟨(some 55), (.mov (.t 8)), none⟩, ⟨(some 4), (.mov (.t 55)), none⟩]) .ret))))))))
theorem cc34 : ccode Try.prog (min Try.f34.ntmps pbase) (Try.f34.body.getD .skip) = some ac34 := by kernel_rfl
def ac35 : ACode := (.seq (.ops [⟨(some 4), (.mov (.c (.int .u16 0))), none⟩]) (.seq (.ops [⟨(some 5), (.mov (.t 0)), none⟩, ⟨(some 6), (.mov (.t 1)), none⟩, ⟨(some 7), (.bin .shl (.c (.int .u16 1)) (.t 6)), none⟩, ⟨(some 8), (.bin .or (.t 5) (.t 7)), none⟩, ⟨(some 4), (.mov (.t 8)), none⟩]) .ret))
theorem cc35 : ccode Try.prog (min Try.f35.ntmps pbase) (Try.f35.body.getD .skip) = some ac35 := by kernel_rfl
def ac36 : ACode := (.seq (.ops [⟨(some 4), (.mov (.c (.bool false))), none⟩]) (.seq (.seq (.ops [⟨(some 7), (.mov (.t 0)), none⟩, ⟨(some 8), (.len (.t 7)), none⟩, ⟨(some 9), (.mov (.c (.int .i64 0))), none⟩]) (.block 0 (.loop (.seq (.ops [⟨(some 10), (.bin .lss (.t 9) (.t 8)), none⟩]) (.seq (.cond (.t 10) .skip (.exit 0)) (.seq (.block 1 (.seq (.ops [⟨(some 11), (.idx 1 (.t 7) (.t 9)), none⟩, ⟨(some 12), (.ld none (.t 11)), none⟩, ⟨(some 6), (.mov (.t 12)), none⟩]) (.seq (.ops [⟨(some 13), (.mov (.t 6)), none⟩, ⟨(some 14), (.mov (.t 1)), none⟩, ⟨(some 15), (.bin .eql (.t 13) (.t 14)), none⟩]) (.cond (.t 15) (.seq (.ops [⟨(some 4), (.mov (.c (.bool true))), none⟩]) .ret) .skip)))) (.ops [⟨(some 16), (.bin .add (.t 9) (.c (.int .i64 1))), none⟩, ⟨(some 9), (.mov (.t 16)), none⟩]))))))) (.seq (.ops [⟨(some 4), (.mov (.c (.bool false))), none⟩]) .ret)))
theorem cc36 : ccode Try.prog (min Try.f36.ntmps pbase) (Try.f36.body.getD .skip) = some ac36 := by kernel_rfl
def ac37 : ACode := (.seq (.ops [⟨(some 4), (.mov (.c (.int .i64 0))), none⟩]) (.seq (.ops [⟨(some 15), (.mov (.t 0)), none⟩, ⟨(some 16), (.len (.t 15)), none⟩, ⟨(some 5), (.mov (.t 16)), none⟩]) (.seq (.ops [⟨(some 17), (.mov (.t 5)), none⟩, ⟨(some 18), (.bin .shl (.c (.int .i64 1)) (.t 17)), none⟩, ⟨(some 19), (.mk 1 8 [(.int .i64 0)] (.t 18) (.t 18)), none⟩, ⟨(some 6), (.mov (.t 19)), none⟩]) (.seq (.ops [⟨(some 7), (.mov (.c (.int .i64 0))), none⟩]) (.seq (.seq (.ops [⟨(some 20), (.mov (.t 1)), none⟩, ⟨(some 21), (.len (.t 20)), none⟩, ⟨(some 22), (.mov (.c (.int .i64 0))), none⟩]) (.block 0 (.loop (.seq (.ops [⟨(some 23), (.bin .lss (.t 22) (.t 21)), none⟩]) (.seq (.cond (.t 23) .skip (.exit 0)) (.seq (.block 1 (.seq (.ops [⟨(some 24), (.idx 1 (.t 20) (.t 22)), none⟩, ⟨(some 25), (.ld none (.t 24)), none⟩, ⟨(some 9), (.mov (.t 25)), none⟩]) (.ops [⟨(some 26), (.mov (.t 7)), none⟩, ⟨(some 27), (.mov (.t 9)), none⟩, ⟨(some 28), (.bin .shl (.c (.int .i64 1)) (.t 27)), none⟩, ⟨(some 29), (.bin .add (.t 26) (.t 28)), none⟩, ⟨(some 7), (.mov (.t 29)), none⟩]))) (.ops [⟨(some 30), (.bin .add (.t 22) (.c (.int .i64 1))), none⟩, ⟨(some 22), (.mov (.t 30)), none⟩]))))))) (.seq (.ops [⟨(some 31), (.mov (.t 6)), none⟩, ⟨(some 32), (.mov (.t 7)), none⟩, ⟨(some 33), (.idx 1 (.t 31) (.t 32)), none⟩, ⟨none, (.st 1 (.t 33) (.c (.int .i64 1))), none⟩]) (.seq (.seq (.ops [⟨(some 34), (.mov (.t 1)), none⟩, ⟨(some 35), (.len (.t 34)), none⟩, ⟨(some 10), (.mov (.t 35)), none⟩]) (.block 2 (.loop (.seq (.seq (.ops [⟨(some 36), (.mov (.t 10)), none⟩, ⟨(some 37), (.mov (.t 5)), none⟩, ⟨(some 38), (.bin .lss (.t 36) (.t 37)), none⟩]) (.cond (.t 38) .skip (.exit 2))) (.seq (.block 3 (.seq (.ops [⟨(some 41), (.mov (.t 5)), none⟩, ⟨(some 42), (.bin .shl (.c (.int .i64 1)) (.t 41)), none⟩, ⟨(some 43), (.mk 1 8 [(.int .i64 0)] (.t 42) (.t 42)), none⟩, ⟨(some 11), (.mov (.t 43)), none⟩]) (.seq (.seq (.ops [⟨(some 44), (.mov (.t 6)), none⟩, ⟨(some 45), (.len (.t 44)), none⟩, ⟨(some 46), (.mov (.c (.int .i64 0))), none⟩]) (.block 4 (.loop (.seq (.ops [⟨(some 47), (.bin .lss (.t 46) (.t 45)), none⟩]) (.seq (.cond (.t 47) .skip (.exit 4)) (.seq (.block 5 (.seq (.ops [⟨(some 48), (.mov (.t 46)), none⟩, ⟨(some 49), (.idx 1 (.t 44) (.t 46)), none⟩, ⟨(some 50), (.ld none (.t 49)), none⟩, ⟨(some 12), (.mov (.t 48)), none⟩, ⟨(some 13), (.mov (.t 50)), none⟩]) (.seq (.ops [⟨(some 14), (.mov (.c (.int .i64 0))), none⟩]) (.block 6 (.loop (.seq (.seq (.ops [⟨(some 51), (.mov (.t 14)), none⟩, ⟨(some 52), (.mov (.t 5)), none⟩, ⟨(some 53), (.bin .lss (.t 51) (.t 52)), none⟩, ⟨(some 54), (.mov (.t 53)), none⟩, ⟨(some 55), (.mov (.t 13)), (some (54, true))⟩, ⟨(some 56), (.bin .gtr (.t 55) (.c (.int .i64 0))), (some (54, true))⟩, ⟨(some 57), (.pick (.t 54) (.t 56) (.c (.bool false))), none⟩]) (.cond (.t 57) .skip (.exit 6))) (.seq (.block 7 (.seq (.tree (.take ⟨(some 60), (.mov (.t 12)), none⟩ (.take ⟨(some 61), (.mov (.t 14)), none⟩ (.take ⟨(some 62), (.bin .shr (.t 60) (.t 61)), none⟩ (.take ⟨(some 63), (.bin .and (.t 62) (.c (.int .i64 1))), none⟩ (.take ⟨(some 64), (.bin .eql (.t 63) (.c (.int .i64 0))), none⟩ (.take ⟨(some 65), (.mov (.t 64)), none⟩ (.take ⟨(some 66), (.mov (.t 0)), (some (65, true))⟩ (.take ⟨(some 67), (.mov (.t 14)), (some (65, true))⟩ (.take ⟨(some 68), (.idx 1 (.t 66) (.t 67)), (some (65, true))⟩ (.take ⟨(some 69), (.ld none (.t 68)), (some (65, true))⟩ (.take ⟨(some 70), (.mov (.t 0)), (some (65, true))⟩ (.take ⟨(some 71), (.mov (.t 10)), (some (65, true))⟩ (.take ⟨(some 72), (.idx 1 (.t 70) (.t 71)), (some (65, true))⟩ (.take ⟨(some 73), (.ld none (.t 72)), (some (65, true))⟩ (.take ⟨(some 74), (.bin .neq (.t 69) (.t 73)), (some (65, true))⟩ (.take ⟨(some 75), (.pick (.t 65) (.t 74) (.c (.bool false))), none⟩ .done))))))))))))))))) (.cond (.t 75) (.ops [⟨(some 76), (.mov (.t 11)), none⟩, ⟨(some 77), (.mov (.t 12)), none⟩, ⟨(some 78), (.mov (.t 14)), none⟩, ⟨(some 79), (.bin .shl (.c (.int .i64 1)) (.t 78)), none⟩, ⟨(some 80), (.bin .add (.t 77) (.t 79)), none⟩, ⟨(some 81), (.idx 1 (.t 76) (.t 80)), none⟩, ⟨(some 82), (.ld none (.t 81)), none⟩, ⟨(some 83), (.mov (.t 13)), none⟩, ⟨(some 84), (.bin .add (.t 82) (.t 83)), none⟩, ⟨(some 85), (.idx 1 (.t 76) (.t 80)), none⟩, ⟨none, (.st 1 (.t 85) (.t 84)), none⟩]) .skip))) (.ops [⟨(some 58), (.mov (.t 14)), none⟩, ⟨(some 59), (.bin .add (.t 58) (.c (.int .i64 1))), none⟩, ⟨(some 14), (.mov (.t 59)), none⟩])))))))) (.ops [⟨(some 86), (.bin .add (.t 46) (.c (.int .i64 1))), none⟩, ⟨(some 46), (.mov (.t 86)), none⟩]))))))) (.ops [⟨(some 87), (.mov (.t 11)), none⟩, ⟨(some 6), (.mov (.t 87)), none⟩])))) (.ops [⟨(some 39), (.mov (.t 10)), none⟩, ⟨(some 40), (.bin .add (.t 39) (.c (.int .i64 1))), none⟩, ⟨(some 10), (.mov (.t 40)), none⟩])))))) (.seq (.ops [⟨(some 88), (.mov (.t 6)), none⟩, ⟨(some 89), (.mov (.t 5)), none⟩, ⟨(some 90), (.bin .shl (.c (.int .i64 1)) (.t 89)), none⟩, ⟨(some 91), (.bin .sub (.t 90) (.c (.int .i64 1))), none⟩, ⟨(some 92), (.idx 1 (.t 88) (.t 91)), none⟩, ⟨(some 93), (.ld none (.t 92)), none⟩, ⟨(some 4), (.mov (.t 93)), none⟩]) .ret))))))))
theorem cc37 : ccode Try.prog (min Try.f37.ntmps pbase) (Try.f37.body.getD .skip) = some ac37 := by kernel_rfl
def ac38 : ACode := (.seq (.ops [⟨(some 2), (.nils 1), none⟩]) (.seq (.ops [⟨(some 3), (.bsl 1 0 [(.int .i64 0)] []), none⟩, ⟨(some 4), (.mov (.t 0)), none⟩, ⟨(some 5), (.app 1 8 (.t 3) (.t 4)), none⟩, ⟨(some 2), (.mov (.t 5)), none⟩]) .ret))
theorem cc38 : ccode Try.prog (min Try.f38.ntmps pbase) (Try.f38.body.getD .skip) = some ac38 := by kernel_rfl
def ac39 : ACode := (.seq (.ops [⟨(some 4), (.nils 1), none⟩, ⟨(some 5), (.mov (.c (.bool false))), none⟩]) (.seq (.ops [⟨(some 6), (.mov (.c (.int .i64 0))), none⟩]) (.seq (.block 0 (.loop (.seq (.seq (.tree (.take ⟨(some 7), (.mov (.t 6)), none⟩ (.take ⟨(some 8), (.mov (.t 0)), none⟩ (.take ⟨(some 9), (.len (.t 8)), none⟩ (.take ⟨(some 10), (.bin .sub (.t 9) (.c (.int .i64 1))), none⟩ (.take ⟨(some 11), (.bin .lss (.t 7) (.t 10)), none⟩ (.take ⟨(some 12), (.mov (.t 11)), none⟩ (.take ⟨(some 13), (.mov (.t 1)), (some (12, true))⟩ (.take ⟨(some 14), (.mov (.t 0)), (some (12, true))⟩ (.take ⟨(some 15), (.mov (.t 6)), (some (12, true))⟩ (.take ⟨(some 16), (.cut 1 (.t 14) none (some (.t 15))), (some (12, true))⟩ (.take ⟨(some 17), (.mov (.t 0)), (some (12, true))⟩ (.take ⟨(some 18), (.mov (.t 6)), (some (12, true))⟩ (.take ⟨(some 19), (.idx 1 (.t 17) (.t 18)), (some (12, true))⟩ (.take ⟨(some 20), (.ld none (.t 19)), (some (12, true))⟩ (.take ⟨(some 21), (.callv (.t 13) [(.t 16), (.t 20)]), (some (12, true))⟩ (.take ⟨(some 22), (.pick (.t 12) (.t 21) (.c (.bool false))), none⟩ .done))))))))))))))))) (.cond (.t 22) .skip (.exit 0))) (.block 1 (.ops [⟨(some 23), (.mov (.t 6)), none⟩, ⟨(some 24), (.bin .add (.t 23) (.c (.int .i64 1))), none⟩, ⟨(some 6), (.mov (.t 24)), none⟩]))))) (.seq (.tree (.take ⟨(some 25), (.mov (.t 0)), none⟩ (.take ⟨(some 26), (.len (.t 25)), none⟩ (.take ⟨(some 27), (.mov (.t 0)), none⟩ (.take ⟨(some 28), (.mov (.t 6)), none⟩ (.take ⟨(some 29), (.cut 1 (.t 27) none (some (.t 28))), none⟩ (.take ⟨(some 30), (.mov (.t 0)), none⟩ (.take ⟨(some 31), (.mov (.t 6)), none⟩ (.take ⟨(some 32), (.idx 1 (.t 30) (.t 31)), none⟩ (.take ⟨(some 33), (.ld none (.t 32)), none⟩ (.take ⟨(some 34), (.bin .add (.t 33) (.c (.int .i64 1))), none⟩ (.take ⟨(some 35), (.mov (.t 1)), none⟩ (.take ⟨(some 36), (.call 58 [(.t 26), (.t 29), (.t 34), (.t 35)]), none⟩ (.take ⟨(some 37), (.ext (.t 36) 0), none⟩ (.take ⟨(some 38), (.ext (.t 36) 1), none⟩ (.take ⟨(some 4), (.mov (.t 37)), none⟩ (.take ⟨(some 5), (.mov (.t 38)), none⟩ .done))))))))))))))))) .ret))))
theorem cc39 : ccode Try.prog (min Try.f39.ntmps pbase) (Try.f39.body.getD .skip) = some ac39 := by kernel_rfl
def ac40 : ACode := (.seq (.ops [⟨(some 3), (.box 10 (.t 0)), none⟩, ⟨(some 6), (.mov (.c (.bool false))), none⟩]) (.seq (.ops [⟨(some 7), (.ld (some 10) (.t 3)), none⟩, ⟨(some 8), (.mov (.t 1)), none⟩, ⟨(some 9), (.len (.t 8)), none⟩, ⟨(some 10), (.mov (.t 2)), none⟩, ⟨(some 11), (.call 33 [(.t 7), (.t 9), (.t 10)]), none⟩, ⟨(some 12), (.mov (.t 11)), none⟩, ⟨(some 13), (.mov (.t 1)), (some (12, true))⟩, ⟨(some 14), (.mov (.t 2)), (some (12, true))⟩, ⟨(some 15), (.call 59 [(.t 13), (.t 14)]), (some (12, true))⟩, ⟨(some 16), (.not (.t 15)), (some (12, true))⟩, ⟨(some 17), (.pick (.t 12) (.t 16) (.c (.bool false))), none⟩, ⟨(some 6), (.mov (.t 17)), none⟩]) .ret))
theorem cc40 : ccode Try.prog (min Try.f40.ntmps pbase) (Try.f40.body.getD .skip) = some ac40 := by kernel_rfl
def ac41 : ACode := (.seq (.seq (.ops [⟨(some 12), (.mov (.t 4)), none⟩, ⟨(some 13), (.nchk (.t 12)), none⟩, ⟨(some 14), (.ld none (.t 13)), none⟩, ⟨(some 15), (.len (.t 14)), none⟩, ⟨(some 16), (.mov (.t 3)), none⟩, ⟨(some 17), (.bin .eql (.t 15) (.t 16)), none⟩]) (.cond (.t 17) .ret .skip)) (.seq (.seq (.ops [⟨(some 18), (.mov (.t 1)), none⟩, ⟨(some 19), (.len (.t 18)), none⟩, ⟨(some 20), (.mov (.t 0)), none⟩, ⟨(some 21), (.len (.t 20)), none⟩, ⟨(some 22), (.bin .eql (.t 19) (.t 21)), none⟩]) (.cond (.t 22) (.seq (.seq (.ops [⟨(some 23), (.mov (.t 2)), none⟩, ⟨(some 24), (.len (.t 23)), none⟩, ⟨(some 25), (.bin .eql (.t 24) (.c (.int .i64 0))), none⟩, ⟨(some 26), (.mov (.t 25)), none⟩, ⟨(some 27), (.mov (.t 2)), (some (26, false))⟩, ⟨(some 28), (.mov (.t 1)), (some (26, false))⟩, ⟨(some 29), (.call 60 [(.t 27), (.t 28)]), (some (26, false))⟩, ⟨(some 30), (.pick (.t 26) (.c (.bool true)) (.t 29)), none⟩]) (.cond (.t 30) (.ops [⟨(some 31), (.mov (.t 4)), none⟩, ⟨(some 32), (.mov (.t 4)), none⟩, ⟨(some 33), (.nchk (.t 32)), none⟩, ⟨(some 34), (.ld none (.t 33)), none⟩, ⟨(some 35), (.mov (.t 1)), none⟩, ⟨(some 36), (.bsl 1 1 [(.slice none 0 0)] [(0, (.t 35))]), none⟩, ⟨(some 37), (.app 1 24 (.t 34) (.t 36)), none⟩, ⟨(some 38), (.nchk (.t 31)), none⟩, ⟨none, (.st 1 (.t 38) (.t 37)), none⟩]) .skip)) .ret) .skip)) (.seq (.seq (.ops [⟨(some 10), (.mov (.c (.int .i64 0))), none⟩]) (.block 0 (.loop (.seq (.seq (.ops [⟨(some 39), (.mov (.t 10)), none⟩, ⟨(some 40), (.mov (.t 1)), none⟩, ⟨(some 41), (.len (.t 40)), none⟩, ⟨(some 42), (.bin .lss (.t 39) (.t 41)), none⟩, ⟨(some 43), (.mov (.t 42)), none⟩, ⟨(some 44), (.mov (.t 10)), (some (43, true))⟩, ⟨(some 45), (.mov (.t 2)), (some (43, true))⟩, ⟨(some 46), (.len (.t 45)), (some (43, true))⟩, ⟨(some 47), (.bin .lss (.t 44) (.t 46)), (some (43, true))⟩, ⟨(some 48), (.pick (.t 43) (.t 47) (.c (.bool false))), none⟩]) (.cond (.t 48) .skip (.exit 0))) (.seq (.block 1 (.seq (.tree (.take ⟨(some 51), (.mov (.t 1)), none⟩ (.take ⟨(some 52), (.mov (.t 10)), none⟩ (.take ⟨(some 53), (.idx 1 (.t 51) (.t 52)), none⟩ (.take ⟨(some 54), (.ld none (.t 53)), none⟩ (.take ⟨(some 55), (.mov (.t 2)), none⟩ (.take ⟨(some 56), (.mov (.t 10)), none⟩ (.take ⟨(some 57), (.idx 1 (.t 55) (.t 56)), none⟩ (.take ⟨(some 58), (.ld none (.t 57)), none⟩ (.take ⟨(some 59), (.bin .neq (.t 54) (.t 58)), none⟩ .done)))))))))) (.cond (.t 59) (.seq (.seq (.tree (.take ⟨(some 60), (.mov (.t 1)), none⟩ (.take ⟨(some 61), (.mov (.t 10)), none⟩ (.take ⟨(some 62), (.idx 1 (.t 60) (.t 61)), none⟩ (.take ⟨(some 63), (.ld none (.t 62)), none⟩ (.take ⟨(some 64), (.mov (.t 2)), none⟩ (.take ⟨(some 65), (.mov (.t 10)), none⟩ (.take ⟨(some 66), (.idx 1 (.t 64) (.t 65)), none⟩ (.take ⟨(some 67), (.ld none (.t 66)), none⟩ (.take ⟨(some 68), (.bin .lss (.t 63) (.t 67)), none⟩ .done)))))))))) (.cond (.t 68) .ret .skip)) (.exit 0)) .skip))) (.ops [⟨(some 49), (.mov (.t 10)), none⟩, ⟨(some 50), (.bin .add (.t 49) (.c (.int .i64 1))), none⟩, ⟨(some 10), (.mov (.t 50)), none⟩])))))) (.seq (.ops [⟨(some 69), (.mov (.t 0)), none⟩, ⟨(some 70), (.len (.t 69)), none⟩, ⟨(some 71), (.mov (.c (.int .i64 0))), none⟩]) (.block 2 (.loop (.seq (.ops [⟨(some 72), (.bin .lss (.t 71) (.t 70)), none⟩]) (.seq (.cond (.t 72) .skip (.exit 2)) (.seq (.block 3 (.seq (.ops [⟨(some 73), (.mov (.t 71)), none⟩, ⟨(some 11), (.mov (.t 73)), none⟩]) (.seq (.tree (.take ⟨(some 74), (.mov (.t 0)), none⟩ (.take ⟨(some 75), (.mov (.t 11)), none⟩ (.take ⟨(some 76), (.idx 1 (.t 74) (.t 75)), none⟩ (.take ⟨(some 77), (.ld none (.t 76)), none⟩ (.take ⟨(some 78), (.mov (.t 0)), none⟩ (.take ⟨(some 79), (.mov (.t 1)), none⟩ (.take ⟨(some 80), (.len (.t 79)), none⟩ (.take ⟨(some 81), (.idx 1 (.t 78) (.t 80)), none⟩ (.take ⟨(some 82), (.ld none (.t 81)), none⟩ (.take ⟨(some 83), (.bin .neq (.t 77) (.t 82)), none⟩ (.take ⟨(some 84), (.mov (.t 83)), none⟩ (.take ⟨(some 85), (.mov (.t 1)), (some (84, true))⟩ (.take ⟨(some 86), (.mov (.t 11)), (some (84, true))⟩ (.take ⟨(some 87), (.call 36 [(.t 85), (.t 86)]), (some (84, true))⟩ (.take ⟨(some 88), (.not (.t 87)), (some (84, true))⟩ (.take ⟨(some 89), (.pick (.t 84) (.t 88) (.c (.bool false))), none⟩ .done))))))))))))))))) (.cond (.t 89) (.ops [⟨(some 90), (.mov (.t 0)), none⟩, ⟨(some 91), (.mov (.t 1)), none⟩, ⟨(some 92), (.call 38 [(.t 91)]), none⟩, ⟨(some 93), (.mov (.t 11)), none⟩, ⟨(some 94), (.bsl 1 1 [(.int .i64 0)] [(0, (.t 93))]), none⟩, ⟨(some 95), (.app 1 8 (.t 92) (.t 94)), none⟩, ⟨(some 96), (.mov (.t 2)), none⟩, ⟨(some 97), (.mov (.t 3)), none⟩, ⟨(some 98), (.mov (.t 4)), none⟩, ⟨(some 99), (.call 41 [(.t 90), (.t 95), (.t 96), (.t 97), (.t 98)]), none⟩]) .skip)))) (.ops [⟨(some 100), (.bin .add (.t 71) (.c (.int .i64 1))), none⟩, ⟨(some 71), (.mov (.t 100)), none⟩]))))))))))
theorem cc41 : ccode Try.prog (min Try.f41.ntmps pbase) (Try.f41.body.getD .skip) = some ac41 := by kernel_rfl
def ac42 : ACode := (.seq (.ops [⟨(some 2), (.mov (.c (.int .i64 0))), none⟩]) (.seq (.ops [⟨(some 3), (.mov (.t 0)), none⟩, ⟨(some 4), (.call 61 [(.t 3)]), none⟩, ⟨(some 5), (.bin .add (.t 4) (.c (.int .i64 1))), none⟩, ⟨(some 2), (.mov (.t 5)), none⟩]) .ret))
theorem cc42 : ccode Try.prog (min Try.f42.ntmps pbase) (Try.f42.body.getD .skip) = some ac42 := by kernel_rfl
def ac43 : ACode := (.seq (.ops [⟨(some 2), (.nils 1), none⟩]) (.seq (.ops [⟨(some 3), (.nils 1), none⟩]) (.seq (.seq (.ops [⟨(some 6), (.mov (.t 0)), none⟩, ⟨(some 7), (.len (.t 6)), none⟩, ⟨(some 8), (.mov (.c (.int .i64 0))), none⟩]) (.block 0 (.loop (.seq (.ops [⟨(some 9), (.bin .lss (.t 8) (.t 7)), none⟩]) (.seq (.cond (.t 9) .skip (.exit 0)) (.seq (.block 1 (.seq (.ops [⟨(some 10), (.idx 1 (.t 6) (.t 8)), none⟩, ⟨(some 11), (.ld none (.t 10)), none⟩, ⟨(some 5), (.mov (.t 11)), none⟩]) (.seq (.ops [⟨(some 12), (.mov (.t 5)), none⟩, ⟨(some 13), (.mov (.t 3)), none⟩, ⟨(some 14), (.len (.t 13)), none⟩, ⟨(some 15), (.bin .eql (.t 12) (.t 14)), none⟩]) (.cond (.t 15) (.ops [⟨(some 16), (.mov (.t 3)), none⟩, ⟨(some 17), (.bsl 1 1 [(.int .i64 0)] [(0, (.c (.int .i64 1)))]), none⟩, ⟨(some 18), (.app 1 8 (.t 16) (.t 17)), none⟩, ⟨(some 3), (.mov (.t 18)), none⟩]) (.ops [⟨(some 19), (.mov (.t 3)), none⟩, ⟨(some 20), (.mov (.t 5)), none⟩, ⟨(some 21), (.idx 1 (.t 19) (.t 20)), none⟩, ⟨(some 22), (.ld none (.t 21)), none⟩, ⟨(some 23), (.bin .add (.t 22) (.c (.int .i64 1))), none⟩, ⟨(some 24), (.idx 1 (.t 19) (.t 20)), none⟩, ⟨none, (.st 1 (.t 24) (.t 23)), none⟩]))))) (.ops [⟨(some 25), (.bin .add (.t 8) (.c (.int .i64 1))), none⟩, ⟨(some 8), (.mov (.t 25)), none⟩]))))))) (.seq (.ops [⟨(some 26), (.mov (.t 3)), none⟩, ⟨(some 2), (.mov (.t 26)), none⟩]) .ret))))
theorem cc43 : ccode Try.prog (min Try.f43.ntmps pbase) (Try.f43.body.getD .skip) = some ac43 := by kernel_rfl
def ac44 : ACode := (.seq (.ops [⟨(some 2), (.mov (.c (.bool false))), none⟩]) (.seq (.seq (.ops [⟨(some 6), (.mov (.t 0)), none⟩, ⟨(some 7), (.len (.t 6)), none⟩, ⟨(some 8), (.bin .lss (.t 7) (.c (.int .i64 1))), none⟩, ⟨(some 9), (.mov (.t 8)), none⟩, ⟨(some 10), (.mov (.t 0)), (some (9, false))⟩, ⟨(some 11), (.len (.t 10)), (some (9, false))⟩, ⟨(some 12), (.bin .gtr (.t 11) (.c (.int .i64 9))), (some (9, false))⟩, ⟨(some 13), (.pick (.t 9) (.c (.bool true)) (.t 12)), none⟩]) (.cond (.t 13) (.seq (.ops [⟨(some 2), (.mov (.c (.bool false))), none⟩]) .ret) .skip)) (.seq (.ops [⟨(some 3), (.mov (.c (.int .i64 0))), none⟩]) (.seq (.seq (.ops [⟨(some 14), (.mov (.t 0)), none⟩, ⟨(some 15), (.len (.t 14)), none⟩, ⟨(some 16), (.mov (.c (.int .i64 0))), none⟩]) (.block 0 (.loop (.seq (.ops [⟨(some 17), (.bin .lss (.t 16) (.t 15)), none⟩]) (.seq (.cond (.t 17) .skip (.exit 0)) (.seq (.block 1 (.seq (.ops [⟨(some 18), (.idx 1 (.t 14) (.t 16)), none⟩, ⟨(some 19), (.ld none (.t 18)), none⟩, ⟨(some 5), (.mov (.t 19)), none⟩]) (.seq (.seq (.ops [⟨(some 20), (.mov (.t 5)), none⟩, ⟨(some 21), (.bin .lss (.t 20) (.c (.int .i64 0))), none⟩, ⟨(some 22), (.mov (.t 21)), none⟩, ⟨(some 23), (.mov (.t 5)), (some (22, false))⟩, ⟨(some 24), (.mov (.t 3)), (some (22, false))⟩, ⟨(some 25), (.bin .gtr (.t 23) (.t 24)), (some (22, false))⟩, ⟨(some 26), (.pick (.t 22) (.c (.bool true)) (.t 25)), none⟩]) (.cond (.t 26) (.seq (.ops [⟨(some 2), (.mov (.c (.bool false))), none⟩]) .ret) .skip)) (.seq (.ops [⟨(some 27), (.mov (.t 5)), none⟩, ⟨(some 28), (.mov (.t 3)), none⟩, ⟨(some 29), (.bin .eql (.t 27) (.t 28)), none⟩]) (.cond (.t 29) (.ops [⟨(some 30), (.mov (.t 3)), none⟩, ⟨(some 31), (.bin .add (.t 30) (.c (.int .i64 1))), none⟩, ⟨(some 3), (.mov (.t 31)), none⟩]) .skip))))) (.ops [⟨(some 32), (.bin .add (.t 16) (.c (.int .i64 1))), none⟩, ⟨(some 16), (.mov (.t 32)), none⟩]))))))) (.seq (.ops [⟨(some 2), (.mov (.c (.bool true))), none⟩]) .ret)))))
theorem cc44 : ccode Try.prog (min Try.f44.ntmps pbase) (Try.f44.body.getD .skip) = some ac44 := by kernel_rfl
def ac45 : ACode := (.seq (.ops [⟨(some 2), (.mov (.c (.bool false))), none⟩]) (.seq (.ops [⟨(some 3), (.mov (.t 0)), none⟩, ⟨(some 4), (.len (.t 3)), none⟩, ⟨(some 5), (.call 62 [(.t 4)]), none⟩, ⟨(some 6), (.mov (.t 5)), none⟩, ⟨(some 7), (.mov (.t 0)), (some (6, true))⟩, ⟨(some 8), (.mov (.t 0)), (some (6, true))⟩, ⟨(some 9), (.len (.t 8)), (some (6, true))⟩, ⟨(some 10), (.call 63 [(.t 7), (.t 9)]), (some (6, true))⟩, ⟨(some 11), (.pick (.t 6) (.t 10) (.c (.bool false))), none⟩, ⟨(some 2), (.mov (.t 11)), none⟩]) .ret))
theorem cc45 : ccode Try.prog (min Try.f45.ntmps pbase) (Try.f45.body.getD .skip) = some ac45 := by kernel_rfl
def ac46 : ACode := (.seq (.ops [⟨(some 2), (.nils 1), none⟩]) (.seq (.seq (.ops [⟨(some 3), (.mov (.t 0)), none⟩, ⟨(some 4), (.call 48 [(.t 3), (.c (.int .i64 12))]), none⟩]) (.cond (.t 4) (.seq (.ops [⟨(some 5), (.bsl 1 1 [(.int .i64 0)] [(0, (.c (.int .i64 1)))]), none⟩, ⟨(some 6), (.bsl 1 2 [(.int .i64 0)] [(0, (.c (.int .i64 0))), (1, (.c (.int .i64 2)))]), none⟩, ⟨(some 7), (.bsl 1 1 [(.int .i64 0)] [(0, (.c (.int .i64 (-1))))]), none⟩, ⟨(some 8), (.bsl 1 10 [(.int .i64 0)] [(0, (.c (.int .i64 0))), (1, (.c (.int .i64 0))), (2, (.c (.int .i64 0))), (3, (.c (.int .i64 0))), (4, (.c (.int .i64 0))), (5, (.c (.int .i64 0))), (6, (.c (.int .i64 0))), (7, (.c (.int .i64 0))), (8, (.c (.int .i64 0))), (9, (.c (.int .i64 0)))]), none⟩, ⟨(some 9), (.bsl 1 9 [(.int .i64 0)] [(0, (.c (.int .i64 0))), (1, (.c (.int .i64 1))), (2, (.c (.int .i64 2))), (3, (.c (.int .i64 3))), (4, (.c (.int .i64 4))), (5, (.c (.int .i64 5))), (6, (.c (.int .i64 6))), (7, (.c (.int .i64 7))), (8, (.c (.int .i64 8)))]), none⟩, ⟨(some 10), (.bsl 1 2 [(.int .i64 0)] [(0, (.c (.int .i64 0))), (1, (.c (.int .i64 4611686018427387904)))]), none⟩, ⟨(some 11), (.bsl 1 7 [(.slice none 0 0)] [(0, (.c (.slice none 0 0))), (1, (.t 5)), (2, (.t 6)), (3, (.t 7)), (4, (.t 8)), (5, (.t 9)), (6, (.t 10))]), none⟩, ⟨(some 12), (.mov (.t 0)), none⟩, ⟨(some 13), (.call 49 [(.t 12), (.c (.int .i64 7))]), none⟩, ⟨(some 14), (.idx 1 (.t 11) (.t 13)), none⟩, ⟨(some 15), (.ld none (.t 14)), none⟩, ⟨(some 2), (.mov (.t 15)), none⟩]) .ret) .skip)) (.seq (.ops [⟨(some 16), (.mov (.t 0)), none⟩, ⟨(some 17), (.call 64 [(.t 16), (.c (.int .i64 7))]), none⟩, ⟨(some 2), (.mov (.t 17)), none⟩]) .ret)))
theorem cc46 : ccode Try.prog (min Try.f46.ntmps pbase) (Try.f46.body.getD .skip) = some ac46 := by kernel_rfl
def ac47 : ACode := (.seq (.ops [⟨(some 2), (.mov (.c (.bool false))), none⟩]) (.seq (.seq (.ops [⟨(some 6), (.mov (.t 0)), none⟩, ⟨(some 7), (.len (.t 6)), none⟩, ⟨(some 8), (.call 52 [(.t 7), (.c (.int .i64 1)), (.c (.int .i64 9))]), none⟩, ⟨(some 9), (.not (.t 8)), none⟩]) (.cond (.t 9) (.seq (.ops [⟨(some 2), (.mov (.c (.bool false))), none⟩]) .ret) .skip)) (.seq (.ops [⟨(some 3), (.mov (.c (.int .i64 0))), none⟩]) (.seq (.seq (.ops [⟨(some 10), (.mov (.t 0)), none⟩, ⟨(some 11), (.len (.t 10)), none⟩, ⟨(some 12), (.mov (.c (.int .i64 0))), none⟩]) (.block 0 (.loop (.seq (.ops [⟨(some 13), (.bin .lss (.t 12) (.t 11)), none⟩]) (.seq (.cond (.t 13) .skip (.exit 0)) (.seq (.block 1 (.seq (.ops [⟨(some 14), (.idx 1 (.t 10) (.t 12)), none⟩, ⟨(some 15), (.ld none (.t 14)), none⟩, ⟨(some 5), (.mov (.t 15)), none⟩]) (.seq (.seq (.ops [⟨(some 16), (.mov (.t 5)), none⟩, ⟨(some 17), (.mov (.t 3)), none⟩, ⟨(some 18), (.call 52 [(.t 16), (.c (.int .i64 0)), (.t 17)]), none⟩, ⟨(some 19), (.not (.t 18)), none⟩]) (.cond (.t 19) (.seq (.ops [⟨(some 2), (.mov (.c (.bool false))), none⟩]) .ret) .skip)) (.seq (.ops [⟨(some 20), (.mov (.t 5)), none⟩, ⟨(some 21), (.mov (.t 3)), none⟩, ⟨(some 22), (.bin .eql (.t 20) (.t 21)), none⟩]) (.cond (.t 22) (.ops [⟨(some 23), (.mov (.t 3)), none⟩, ⟨(some 24), (.bin .add (.t 23) (.c (.int .i64 1))), none⟩, ⟨(some 3), (.mov (.t 24)), none⟩]) .skip))))) (.ops [⟨(some 25), (.bin .add (.t 12) (.c (.int .i64 1))), none⟩, ⟨(some 12), (.mov (.t 25)), none⟩]))))))) (.seq (.ops [⟨(some 2), (.mov (.c (.bool true))), none⟩]) .ret)))))
theorem cc47 : ccode Try.prog (min Try.f47.ntmps pbase) (Try.f47.body.getD .skip) = some ac47 := by kernel_rfl
def ac48 : ACode := (.seq (.ops [⟨(some 4), (.mov (.c (.bool false))), none⟩]) (.seq (.ops [⟨(some 5), (.mov (.t 0)), none⟩, ⟨(some 6), (.mov (.t 1)), none⟩, ⟨(some 7), (.call 49 [(.t 5), (.t 6)]), none⟩, ⟨(some 8), (.bin .eql (.t 7) (.c (.int .i64 0))), none⟩, ⟨(some 4), (.mov (.t 8)), none⟩]) .ret))
theorem cc48 : ccode Try.prog (min Try.f48.ntmps pbase) (Try.f48.body.getD .skip) = some ac48 := by kernel_rfl
def ac49 : ACode := (.seq (.ops [⟨(some 4), (.mov (.c (.int .i64 0))), none⟩]) (.seq (.seq (.ops [⟨(some 6), (.mov (.t 1)), none⟩, ⟨(some 7), (.bin .leq (.t 6) (.c (.int .i64 1))), none⟩]) (.cond (.t 7) (.seq (.ops [⟨(some 4), (.mov (.c (.int .i64 0))), none⟩]) .ret) .skip)) (.seq (.ops [⟨(some 8), (.mov (.t 0)), none⟩, ⟨(some 9), (.call 65 [(.t 8)]), none⟩, ⟨(some 5), (.mov (.t 9)), none⟩]) (.seq (.seq (.ops [⟨(some 10), (.mov (.t 1)), none⟩, ⟨(some 11), (.bin .gtr (.t 10) (.c (.int .i64 200))), none⟩]) (.cond (.t 11) (.ops [⟨(some 12), (.mov (.t 5)), none⟩, ⟨(some 13), (.bin .mul (.t 12) (.c (.int .i64 256))), none⟩, ⟨(some 14), (.mov (.t 0)), none⟩, ⟨(some 15), (.call 65 [(.t 14)]), none⟩, ⟨(some 16), (.bin .add (.t 13) (.t 15)), none⟩, ⟨(some 5), (.mov (.t 16)), none⟩]) .skip)) (.seq (.ops [⟨(some 17), (.mov (.t 5)), none⟩, ⟨(some 18), (.mov (.t 1)), none⟩, ⟨(some 19), (.bin .rem (.t 17) (.t 18)), none⟩, ⟨(some 4), (.mov (.t 19)), none⟩]) .ret)))))
theorem cc49 : ccode Try.prog (min Try.f49.ntmps pbase) (Try.f49.body.getD .skip) = some ac49 := by kernel_rfl
def ac50 : ACode := (.seq (.ops [⟨(some 4), (.mov (.c (.int .i64 0))), none⟩]) (.seq (.seq (.ops [⟨(some 5), (.mov (.t 0)), none⟩, ⟨(some 6), (.mov (.t 1)), none⟩, ⟨(some 7), (.bin .gtr (.t 5) (.t 6)), none⟩]) (.cond (.t 7) (.seq (.ops [⟨(some 8), (.mov (.t 0)), none⟩, ⟨(some 4), (.mov (.t 8)), none⟩]) .ret) .skip)) (.seq (.ops [⟨(some 9), (.mov (.t 1)), none⟩, ⟨(some 4), (.mov (.t 9)), none⟩]) .ret)))
theorem cc50 : ccode Try.prog (min Try.f50.ntmps pbase) (Try.f50.body.getD .skip) = some ac50 := by kernel_rfl
def ac51 : ACode := (.seq (.ops [⟨(some 4), (.mov (.c (.int .i64 0))), none⟩]) (.seq (.ops [⟨(some 5), (.mov (.t 1)), none⟩, ⟨(some 6), (.mov (.t 0)), none⟩, ⟨(some 7), (.mov (.t 1)), none⟩, ⟨(some 8), (.len (.t 7)), none⟩, ⟨(some 9), (.call 49 [(.t 6), (.t 8)]), none⟩, ⟨(some 10), (.idx 1 (.t 5) (.t 9)), none⟩, ⟨(some 11), (.ld none (.t 10)), none⟩, ⟨(some 4), (.mov (.t 11)), none⟩]) .ret))
theorem cc51 : ccode Try.prog (min Try.f51.ntmps pbase) (Try.f51.body.getD .skip) = some ac51 := by kernel_rfl
def ac52 : ACode := (.seq (.ops [⟨(some 6), (.mov (.c (.bool false))), none⟩]) (.seq (.ops [⟨(some 7), (.mov (.t 0)), none⟩, ⟨(some 8), (.mov (.t 1)), none⟩, ⟨(some 9), (.bin .geq (.t 7) (.t 8)), none⟩, ⟨(some 10), (.mov (.t 9)), none⟩, ⟨(some 11), (.mov (.t 0)), (some (10, true))⟩, ⟨(some 12), (.mov (.t 2)), (some (10, true))⟩, ⟨(some 13), (.bin .leq (.t 11) (.t 12)), (some (10, true))⟩, ⟨(some 14), (.pick (.t 10) (.t 13) (.c (.bool false))), none⟩, ⟨(some 6), (.mov (.t 14)), none⟩]) .ret))
theorem cc52 : ccode Try.prog (min Try.f52.ntmps pbase) (Try.f52.body.getD .skip) = some ac52 := by kernel_rfl
def ac53 : ACode := (.seq (.ops [⟨(some 4), (.nils 1), none⟩]) (.seq (.ops [⟨(some 5), (.nils 1), none⟩]) (.seq (.seq (.ops [⟨(some 6), (.mov (.c (.int .i64 0))), none⟩]) (.block 0 (.loop (.seq (.seq (.ops [⟨(some 9), (.mov (.t 6)), none⟩, ⟨(some 10), (.mov (.t 0)), none⟩, ⟨(some 11), (.bin .lss (.t 9) (.t 10)), none⟩]) (.cond (.t 11) .skip (.exit 0))) (.seq (.block 1 (.seq (.ops [⟨(some 14), (.mov (.t 1)), none⟩, ⟨(some 15), (.mov (.t 5)), none⟩, ⟨(some 16), (.len (.t 15)), none⟩, ⟨(some 17), (.bin .add (.t 16) (.c (.int .i64 1))), none⟩, ⟨(some 18), (.bin .rem (.t 14) (.t 17)), none⟩, ⟨(some 7), (.mov (.t 18)), none⟩]) (.seq (.ops [⟨(some 19), (.mov (.t 1)), none⟩, ⟨(some 20), (.mov (.t 5)), none⟩, ⟨(some 21), (.len (.t 20)), none⟩, ⟨(some 22), (.bin .add (.t 21) (.c (.int .i64 1))), none⟩, ⟨(some 23), (.bin .quo (.t 19) (.t 22)), none⟩, ⟨(some 1), (.mov (.t 23)), none⟩]) (.seq (.ops [⟨(some 24), (.mov (.t 5)), none⟩, ⟨(some 25), (.mov (.t 7)), none⟩, ⟨(some 26), (.cut 1 (.t 24) none (some (.t 25))), none⟩, ⟨(some 27), (.call 38 [(.t 26)]), none⟩, ⟨(some 28), (.mov (.t 6)), none⟩, ⟨(some 29), (.bsl 1 1 [(.int .i64 0)] [(0, (.t 28))]), none⟩, ⟨(some 30), (.app 1 8 (.t 27) (.t 29)), none⟩, ⟨(some 8), (.mov (.t 30)), none⟩]) (.ops [⟨(some 31), (.mov (.t 8)), none⟩, ⟨(some 32), (.mov (.t 5)), none⟩, ⟨(some 33), (.mov (.t 7)), none⟩, ⟨(some 34), (.cut 1 (.t 32) (some (.t 33)) none), none⟩, ⟨(some 35), (.app 1 8 (.t 31) (.t 34)), none⟩, ⟨(some 5), (.mov (.t 35)), none⟩]))))) (.ops [⟨(some 12), (.mov (.t 6)), none⟩, ⟨(some 13), (.bin .add (.t 12) (.c (.int .i64 1))), none⟩, ⟨(some 6), (.mov (.t 13)), none⟩])))))) (.seq (.ops [⟨(some 36), (.mov (.t 5)), none⟩, ⟨(some 4), (.mov (.t 36)), none⟩]) .ret))))
theorem cc53 : ccode Try.prog (min Try.f53.ntmps pbase) (Try.f53.body.getD .skip) = some ac53 := by kernel_rfl
def ac54 : ACode := (.seq (.ops [⟨(some 2), (.nils 1), none⟩]) (.seq (.seq (.ops [⟨(some 4), (.mov (.t 0)), none⟩, ⟨(some 5), (.call 48 [(.t 4), (.c (.int .i64 12))]), none⟩]) (.cond (.t 5) (.seq (.ops [⟨(some 6), (.bsl 1 1 [(.int .i64 0)] [(0, (.c (.int .i64 1)))]), none⟩, ⟨(some 7), (.bsl 1 2 [(.int .i64 0)] [(0, (.c (.int .i64 0))), (1, (.c (.int .i64 0)))]), none⟩, ⟨(some 8), (.bsl 1 1 [(.int .i64 0)] [(0, (.c (.int .i64 (-1))))]), none⟩, ⟨(some 9), (.bsl 1 2 [(.int .i64 0)] [(0, (.c (.int .i64 0))), (1, (.c (.int .i64 2)))]), none⟩, ⟨(some 10), (.bsl 1 13 [(.int .i64 0)] [(0, (.c (.int .i64 0))), (1, (.c (.int .i64 1))), (2, (.c (.int .i64 2))), (3, (.c (.int .i64 3))), (4, (.c (.int .i64 4))), (5, (.c (.int .i64 5))), (6, (.c (.int .i64 6))), (7, (.c (.int .i64 7))), (8, (.c (.int .i64 8))), (9, (.c (.int .i64 9))), (10, (.c (.int .i64 10))), (11, (.c (.int .i64 11))), (12, (.c (.int .i64 12)))]), none⟩, ⟨(some 11), (.bsl 1 12 [(.int .i64 0)] [(0, (.c (.int .i64 1))), (1, (.c (.int .i64 2))), (2, (.c (.int .i64 3))), (3, (.c (.int .i64 4))), (4, (.c (.int .i64 5))), (5, (.c (.int .i64 6))), (6, (.c (.int .i64 7))), (7, (.c (.int .i64 8))), (8, (.c (.int .i64 9))), (9, (.c (.int .i64 10))), (10, (.c (.int .i64 11))), (11, (.c (.int .i64 0)))]), none⟩, ⟨(some 12), (.bsl 1 7 [(.slice none 0 0)] [(0, (.c (.slice none 0 0))), (1, (.t 6)), (2, (.t 7)), (3, (.t 8)), (4, (.t 9)), (5, (.t 10)), (6, (.t 11))]), none⟩, ⟨(some 13), (.mov (.t 0)), none⟩, ⟨(some 14), (.call 49 [(.t 13), (.c (.int .i64 7))]), none⟩, ⟨(some 15), (.idx 1 (.t 12) (.t 14)), none⟩, ⟨(some 16), (.ld none (.t 15)), none⟩, ⟨(some 2), (.mov (.t 16)), none⟩]) .ret) .skip)) (.seq (.seq (.ops [⟨(some 17), (.mov (.t 0)), none⟩, ⟨(some 18), (.call 48 [(.t 17), (.c (.int .i64 4))]), none⟩]) (.cond (.t 18) (.seq (.ops [⟨(some 19), (.mov (.t 0)), none⟩, ⟨(some 20), (.call 49 [(.t 19), (.c (.int .i64 5))]), none⟩, ⟨(some 21), (.bin .add (.c (.int .i64 2)) (.t 20)), none⟩, ⟨(some 3), (.mov (.t 21)), none⟩]) (.seq (.ops [⟨(some 22), (.mov (.t 3)), none⟩, ⟨(some 23), (.mov (.t 0)), none⟩, ⟨(some 24), (.mov (.t 3)), none⟩, ⟨(some 25), (.call 67 [(.t 24)]), none⟩, ⟨(some 26), (.call 49 [(.t 23), (.t 25)]), none⟩, ⟨(some 27), (.call 66 [(.t 22), (.t 26)]), none⟩, ⟨(some 2), (.mov (.t 27)), none⟩]) .ret)) .skip)) (.seq (.ops [⟨(some 28), (.mov (.t 0)), none⟩, ⟨(some 29), (.call 68 [(.t 28), (.c (.int .i64 7))]), none⟩, ⟨(some 2), (.mov (.t 29)), none⟩]) .ret))))
theorem cc54 : ccode Try.prog (min Try.f54.ntmps pbase) (Try.f54.body.getD .skip) = some ac54 := by kernel_rfl
def ac55 : ACode := (.seq (.ops [⟨(some 2), (.mov (.c (.bool false))), none⟩]) (.seq (.seq (.ops [⟨(some 5), (.mov (.t 0)), none⟩, ⟨(some 6), (.len (.t 5)), none⟩, ⟨(some 7), (.call 52 [(.t 6), (.c (.int .i64 1)), (.c (.int .i64 12))]), none⟩, ⟨(some 8), (.not (.t 7)), none⟩, ⟨(some 9), (.mov (.t 8)), none⟩, ⟨(some 10), (.mov (.t 0)), (some (9, false))⟩, ⟨(some 11), (.mov (.t 0)), (some (9, false))⟩, ⟨(some 12), (.len (.t 11)), (some (9, false))⟩, ⟨(some 13), (.bin .sub (.t 12) (.c (.int .i64 1))), (some (9, false))⟩, ⟨(some 14), (.call 69 [(.t 10), (.c (.int .i64 0)), (.t 13)]), (some (9, false))⟩, ⟨(some 15), (.not (.t 14)), (some (9, false))⟩, ⟨(some 16), (.pick (.t 9) (.c (.bool true)) (.t 15)), none⟩]) (.cond (.t 16) (.seq (.ops [⟨(some 2), (.mov (.c (.bool false))), none⟩]) .ret) .skip)) (.seq (.seq (.ops [⟨(some 17), (.mov (.t 0)), none⟩, ⟨(some 18), (.len (.t 17)), none⟩, ⟨(some 19), (.mov (.c (.int .i64 0))), none⟩]) (.block 0 (.loop (.seq (.ops [⟨(some 20), (.bin .lss (.t 19) (.t 18)), none⟩]) (.seq (.cond (.t 20) .skip (.exit 0)) (.seq (.block 1 (.seq (.ops [⟨(some 21), (.mov (.t 19)), none⟩, ⟨(some 22), (.idx 1 (.t 17) (.t 19)), none⟩, ⟨(some 23), (.ld none (.t 22)), none⟩, ⟨(some 3), (.mov (.t 21)), none⟩, ⟨(some 4), (.mov (.t 23)), none⟩]) (.seq (.ops [⟨(some 24), (.mov (.t 0)), none⟩, ⟨(some 25), (.mov (.t 3)), none⟩, ⟨(some 26), (.cut 1 (.t 24) none (some (.t 25))), none⟩, ⟨(some 27), (.mov (.t 4)), none⟩, ⟨(some 28), (.call 36 [(.t 26), (.t 27)]), none⟩]) (.cond (.t 28) (.seq (.ops [⟨(some 2), (.mov (.c (.bool false))), none⟩]) .ret) .skip)))) (.ops [⟨(some 29), (.bin .add (.t 19) (.c (.int .i64 1))), none⟩, ⟨(some 19), (.mov (.t 29)), none⟩]))))))) (.seq (.ops [⟨(some 2), (.mov (.c (.bool true))), none⟩]) .ret))))
theorem cc55 : ccode Try.prog (min Try.f55.ntmps pbase) (Try.f55.body.getD .skip) = some ac55 := by kernel_rfl
def ac56 : ACode := (.seq (.ops [⟨(some 1), (.box 10 (.t 0)), none⟩, ⟨(some 2), (.mov (.c (.int .u16 0))), none⟩]) (.seq (.ops [⟨(some 3), (.fa 0 (.t 1)), none⟩, ⟨(some 4), (.ld none (.t 3)), none⟩, ⟨(some 5), (.bin .shl (.c (.int .u16 1)) (.t 4)), none⟩, ⟨(some 6), (.bin .sub (.t 5) (.c (.int .u16 1))), none⟩, ⟨(some 2), (.mov (.t 6)), none⟩]) .ret))
theorem cc56 : ccode Try.prog (min Try.f56.ntmps pbase) (Try.f56.body.getD .skip) = some ac56 := by kernel_rfl
def ac57 : ACode := (.seq (.ops [⟨(some 2), (.mov (.c (.int .i64 0))), none⟩]) (.seq (.ops [⟨(some 3), (.mov (.t 0)), none⟩, ⟨(some 4), (.call 70 [(.t 3)]), none⟩, ⟨(some 2), (.mov (.t 4)), none⟩]) .ret))
theorem cc57 : ccode Try.prog (min Try.f57.ntmps pbase) (Try.f57.body.getD .skip) = some ac57 := by kernel_rfl
def ac58 : ACode := (.seq (.ops [⟨(some 8), (.nils 1), none⟩, ⟨(some 9), (.mov (.c (.bool false))), none⟩]) (.scope (.seq (.ops [⟨(some 13), (.mov (.t 1)), none⟩, ⟨(some 14), (.call 71 [(.t 13)]), none⟩, ⟨(some 10), (.mov (.t 14)), none⟩]) (.seq (.ops [⟨(some 15), (.mov (.t 2)), none⟩, ⟨(some 11), (.mov (.t 15)), none⟩]) (.seq (.label 0) (.seq (.block 0 (.loop (.block 1 (.block 2 (.seq (.ops [⟨(some 28), (.mov (.t 10)), none⟩, ⟨(some 29), (.len (.t 28)), none⟩, ⟨(some 30), (.mov (.t 0)), none⟩, ⟨(some 31), (.bin .eql (.t 29) (.t 30)), none⟩, ⟨(some 27), (.mov (.t 31)), none⟩]) (.cond (.t 27) (.exit 0) (.seq (.ops [⟨(some 33), (.mov (.t 11)), none⟩, ⟨(some 34), (.mov (.t 0)), none⟩, ⟨(some 35), (.bin .lss (.t 33) (.t 34)), none⟩, ⟨(some 36), (.mov (.t 35)), none⟩, ⟨(some 37), (.mov (.t 3)), (some (36, true))⟩, ⟨(some 38), (.mov (.t 10)), (some (36, true))⟩, ⟨(some 39), (.mov (.t 11)), (some (36, true))⟩, ⟨(some 40), (.callv (.t 37) [(.t 38), (.t 39)]), (some (36, true))⟩, ⟨(some 41), (.pick (.t 36) (.t 40) (.c (.bool false))), none⟩, ⟨(some 32), (.mov (.t 41)), none⟩]) (.cond (.t 32) (.seq (.ops [⟨(some 42), (.mov (.t 10)), none⟩, ⟨(some 43), (.mov (.t 11)), none⟩, ⟨(some 44), (.bsl 1 1 [(.int .i64 0)] [(0, (.t 43))]), none⟩, ⟨(some 45), (.app 1 8 (.t 42) (.t 44)), none⟩, ⟨(some 10), (.mov (.t 45)), none⟩]) (.ops [⟨(some 11), (.mov (.c (.int .i64 0))), none⟩])) (.seq (.ops [⟨(some 47), (.mov (.t 11)), none⟩, ⟨(some 48), (.mov (.t 0)), none⟩, ⟨(some 49), (.bin .lss (.t 47) (.t 48)), none⟩, ⟨(some 46), (.mov (.t 49)), none⟩]) (.cond (.t 46) (.ops [⟨(some 50), (.mov (.t 11)), none⟩, ⟨(some 51), (.bin .add (.t 50) (.c (.int .i64 1))), none⟩, ⟨(some 11), (.mov (.t 51)), none⟩]) (.seq (.ops [⟨(some 53), (.mov (.t 10)), none⟩, ⟨(some 54), (.len (.t 53)), none⟩, ⟨(some 55), (.bin .eql (.t 54) (.c (.int .i64 0))), none⟩, ⟨(some 52), (.mov (.t 55)), none⟩]) (.cond (.t 52) (.seq (.ops [⟨(some 8), (.nils 1), none⟩, ⟨(some 9), (.mov (.c (.bool false))), none⟩]) .ret) (.seq (.ops [⟨(some 16), (.mov (.t 10)), none⟩, ⟨(some 17), (.len (.t 16)), none⟩, ⟨(some 18), (.bin .sub (.t 17) (.c (.int .i64 1))), none⟩, ⟨(some 12), (.mov (.t 18)), none⟩]) (.seq (.ops [⟨(some 19), (.mov (.t 10)), none⟩, ⟨(some 20), (.mov (.t 12)), none⟩, ⟨(some 21), (.idx 1 (.t 19) (.t 20)), none⟩, ⟨(some 22), (.ld none (.t 21)), none⟩, ⟨(some 23), (.bin .add (.t 22) (.c (.int .i64 1))), none⟩, ⟨(some 11), (.mov (.t 23)), none⟩]) (.ops [⟨(some 24), (.mov (.t 10)), none⟩, ⟨(some 25), (.mov (.t 12)), none⟩, ⟨(some 26), (.cut 1 (.t 24) none (some (.t 25))), none⟩, ⟨(some 10), (.mov (.t 26)), none⟩]))))))))))))))) (.seq (.ops [⟨(some 56), (.mov (.t 10)), none⟩, ⟨(some 8), (.mov (.t 56)), none⟩, ⟨(some 9), (.mov (.c (.bool true))), none⟩]) .ret)))))))
theorem cc58 : ccode Try.prog (min Try.f58.ntmps pbase) (Try.f58.body.getD .skip) = some ac58 := by kernel_rfl
def ac59 : ACode := (.seq (.ops [⟨(some 4), (.mov (.c (.bool false))), none⟩]) (.seq (.ops [⟨(some 5), (.mov (.t 0)), none⟩, ⟨(some 6), (.mov (.t 1)), none⟩, ⟨(some 7), (.call 72 [(.t 5), (.t 6)]), none⟩, ⟨(some 8), (.bin .geq (.t 7) (.c (.int .i64 0))), none⟩, ⟨(some 4), (.mov (.t 8)), none⟩]) .ret))
theorem cc59 : ccode Try.prog (min Try.f59.ntmps pbase) (Try.f59.body.getD .skip) = some ac59 := by kernel_rfl
def ac60 : ACode := (.seq (.ops [⟨(some 4), (.mov (.c (.bool false))), none⟩]) (.seq (.seq (.ops [⟨(some 7), (.mov (.t 0)), none⟩, ⟨(some 8), (.len (.t 7)), none⟩, ⟨(some 9), (.mov (.c (.int .i64 0))), none⟩]) (.block 0 (.loop (.seq (.ops [⟨(some 10), (.bin .lss (.t 9) (.t 8)), none⟩]) (.seq (.cond (.t 10) .skip (.exit 0)) (.seq (.block 1 (.seq (.ops [⟨(some 11), (.mov (.t 9)), none⟩, ⟨(some 12), (.idx 1 (.t 7) (.t 9)), none⟩, ⟨(some 13), (.ld none (.t 12)), none⟩, ⟨(some 5), (.mov (.t 11)), none⟩, ⟨(some 6), (.mov (.t 13)), none⟩]) (.seq (.ops [⟨(some 14), (.mov (.t 6)), none⟩, ⟨(some 15), (.mov (.t 1)), none⟩, ⟨(some 16), (.mov (.t 5)), none⟩, ⟨(some 17), (.idx 1 (.t 15) (.t 16)), none⟩, ⟨(some 18), (.ld none (.t 17)), none⟩, ⟨(some 19), (.bin .neq (.t 14) (.t 18)), none⟩]) (.cond (.t 19) (.seq (.ops [⟨(some 20), (.mov (.t 6)), none⟩, ⟨(some 21), (.mov (.t 1)), none⟩, ⟨(some 22), (.mov (.t 5)), none⟩, ⟨(some 23), (.idx 1 (.t 21) (.t 22)), none⟩, ⟨(some 24), (.ld none (.t 23)), none⟩, ⟨(some 25), (.bin .lss (.t 20) (.t 24)), none⟩, ⟨(some 4), (.mov (.t 25)), none⟩]) .ret) .skip)))) (.ops [⟨(some 26), (.bin .add (.t 9) (.c (.int .i64 1))), none⟩, ⟨(some 9), (.mov (.t 26)), none⟩]))))))) (.seq (.ops [⟨(some 4), (.mov (.c (.bool false))), none⟩]) .ret)))
theorem cc60 : ccode Try.prog (min Try.f60.ntmps pbase) (Try.f60.body.getD .skip) = some ac60 := by kernel_rfl
def ac61 : ACode := (.seq (.ops [⟨(some 2), (.mov (.c (.int .i64 0))), none⟩]) (.seq (.seq (.ops [⟨(some 5), (.mov (.t 0)), none⟩, ⟨(some 6), (.len (.t 5)), none⟩, ⟨(some 7), (.bin .lss (.t 6) (.c (.int .i64 1))), none⟩]) (.cond (.t 7) (.ops [⟨(some 8), .dead, none⟩, ⟨none, .dead, none⟩]) .skip)) (.seq (.ops [⟨(some 9), (.mov (.t 0)), none⟩, ⟨(some 10), (.idx 1 (.t 9) (.c (.int .i64 0))), none⟩, ⟨(some 11), (.ld none (.t 10)), none⟩, ⟨(some 3), (.mov (.t 11)), none⟩]) (.seq (.seq (.ops [⟨(some 4), (.mov (.c (.int .i64 1))), none⟩]) (.block 0 (.loop (.seq (.seq (.ops [⟨(some 12), (.mov (.t 4)), none⟩, ⟨(some 13), (.mov (.t 0)), none⟩, ⟨(some 14), (.len (.t 13)), none⟩, ⟨(some 15), (.bin .lss (.t 12) (.t 14)), none⟩]) (.cond (.t 15) .skip (.exit 0))) (.seq (.block 1 (.ops [⟨(some 18), (.mov (.t 3)), none⟩, ⟨(some 19), (.mov (.t 0)), none⟩, ⟨(some 20), (.mov (.t 4)), none⟩, ⟨(some 21), (.idx 1 (.t 19) (.t 20)), none⟩, ⟨(some 22), (.ld none (.t 21)), none⟩, ⟨(some 23), (.pu (.mm true) [(.t 18), (.t 22)]), none⟩, ⟨(some 3), (.mov (.t 23)), none⟩])) (.ops [⟨(some 16), (.mov (.t 4)), none⟩, ⟨(some 17), (.bin .add (.t 16) (.c (.int .i64 1))), none⟩, ⟨(some 4), (.mov (.t 17)), none⟩])))))) (.seq (.ops [⟨(some 24), (.mov (.t 3)), none⟩, ⟨(some 2), (.mov (.t 24)), none⟩]) .ret)))))
theorem cc61 : ccode Try.prog (min Try.f61.ntmps pbase) (Try.f61.body.getD .skip) = some ac61 := by kernel_rfl
def ac62 : ACode := (.seq (.ops [⟨(some 2), (.mov (.c (.bool false))), none⟩]) (.seq (.ops [⟨(some 3), (.mov (.t 0)), none⟩, ⟨(some 4), (.bin .geq (.t 3) (.c (.int .i64 1))), none⟩, ⟨(some 5), (.mov (.t 4)), none⟩, ⟨(some 6), (.mov (.t 0)), (some (5, true))⟩, ⟨(some 7), (.bin .leq (.t 6) (.c (.int .i64 12))), (some (5, true))⟩, ⟨(some 8), (.pick (.t 5) (.t 7) (.c (.bool false))), none⟩, ⟨(some 2), (.mov (.t 8)), none⟩]) .ret))
theorem cc62 : ccode Try.prog (min Try.f62.ntmps pbase) (Try.f62.body.getD .skip) = some ac62 := by kernel_rfl
def ac63 : ACode := (.seq (.ops [⟨(some 4), (.mov (.c (.bool false))), none⟩]) (.seq (.ops [⟨(some 5), (.mov (.c (.int .u16 0))), none⟩]) (.seq (.seq (.ops [⟨(some 8), (.mov (.t 0)), none⟩, ⟨(some 9), (.len (.t 8)), none⟩, ⟨(some 10), (.mov (.c (.int .i64 0))), none⟩]) (.block 0 (.loop (.seq (.ops [⟨(some 11), (.bin .lss (.t 10) (.t 9)), none⟩]) (.seq (.cond (.t 11) .skip (.exit 0)) (.seq (.block 1 (.seq (.ops [⟨(some 12), (.idx 1 (.t 8) (.t 10)), none⟩, ⟨(some 13), (.ld none (.t 12)), none⟩, ⟨(some 7), (.mov (.t 13)), none⟩]) (.seq (.seq (.ops [⟨(some 14), (.mov (.t 7)), none⟩, ⟨(some 15), (.mov (.t 1)), none⟩, ⟨(some 16), (.call 73 [(.t 14), (.t 15)]), none⟩, ⟨(some 17), (.not (.t 16)), none⟩, ⟨(some 18), (.mov (.t 17)), none⟩, ⟨(some 19), (.mov (.t 5)), (some (18, false))⟩, ⟨(some 20), (.mov (.t 7)), (some (18, false))⟩, ⟨(some 21), (.call 32 [(.t 19), (.t 20)]), (some (18, false))⟩, ⟨(some 22), (.pick (.t 18) (.c (.bool true)) (.t 21)), none⟩]) (.cond (.t 22) (.seq (.ops [⟨(some 4), (.mov (.c (.bool false))), none⟩]) .ret) .skip)) (.ops [⟨(some 23), (.mov (.t 5)), none⟩, ⟨(some 24), (.mov (.t 7)), none⟩, ⟨(some 25), (.call 35 [(.t 23), (.t 24)]), none⟩, ⟨(some 5), (.mov (.t 25)), none⟩])))) (.ops [⟨(some 26), (.bin .add (.t 10) (.c (.int .i64 1))), none⟩, ⟨(some 10), (.mov (.t 26)), none⟩]))))))) (.seq (.ops [⟨(some 4), (.mov (.c (.bool true))), none⟩]) .ret))))
theorem cc63 : ccode Try.prog (min Try.f63.ntmps pbase) (Try.f63.body.getD .skip) = some ac63 := by kernel_rfl
def ac64 : ACode := (.seq (.ops [⟨(some 4), (.nils 1), none⟩]) (.seq (.ops [⟨(some 5), (.nils 1), none⟩]) (.seq (.seq (.ops [⟨(some 7), (.mov (.t 0)), none⟩, ⟨(some 8), (.mov (.t 1)), none⟩, ⟨(some 9), (.call 49 [(.t 7), (.t 8)]), none⟩, ⟨(some 10), (.bin .add (.c (.int .i64 1)) (.t 9)), none⟩, ⟨(some 6), (.mov (.t 10)), none⟩]) (.block 0 (.loop (.seq (.seq (.ops [⟨(some 11), (.mov (.t 6)), none⟩, ⟨(some 12), (.bin .gtr (.t 11) (.c (.int .i64 0))), none⟩]) (.cond (.t 12) .skip (.exit 0))) (.seq (.block 1 (.ops [⟨(some 15), (.mov (.t 5)), none⟩, ⟨(some 16), (.mov (.t 0)), none⟩, ⟨(some 17), (.mov (.t 0)), none⟩, ⟨(some 18), (.call 49 [(.t 17), (.c (.int .i64 6))]), none⟩, ⟨(some 19), (.bin .add (.c (.int .i64 1)) (.t 18)), none⟩, ⟨(some 20), (.call 49 [(.t 16), (.t 19)]), none⟩, ⟨(some 21), (.bsl 1 1 [(.int .i64 0)] [(0, (.t 20))]), none⟩, ⟨(some 22), (.app 1 8 (.t 15) (.t 21)), none⟩, ⟨(some 5), (.mov (.t 22)), none⟩])) (.ops [⟨(some 13), (.mov (.t 6)), none⟩, ⟨(some 14), (.bin .sub (.t 13) (.c (.int .i64 1))), none⟩, ⟨(some 6), (.mov (.t 14)), none⟩])))))) (.seq (.ops [⟨(some 23), (.mov (.t 5)), none⟩, ⟨(some 24), (.call 74 [(.t 23)]), none⟩, ⟨(some 4), (.mov (.t 24)), none⟩]) .ret))))
theorem cc64 : ccode Try.prog (min Try.f64.ntmps pbase) (Try.f64.body.getD .skip) = some ac64 := by kernel_rfl
def ac65 : ACode := (.seq (.ops [⟨(some 2), (.mov (.c (.int .i64 0))), none⟩]) (.seq (.ops [⟨(some 3), (.mov (.c (.int .i64 0))), none⟩]) (.seq (.seq (.tree (.take ⟨(some 4), (.mov (.t 0)), none⟩ (.take ⟨(some 5), (.nchk (.t 4)), none⟩ (.take ⟨(some 6), (.fa 1 (.t 5)), none⟩ (.take ⟨(some 7), (.ld none (.t 6)), none⟩ (.take ⟨(some 8), (.mov (.t 0)), none⟩ (.take ⟨(some 9), (.nchk (.t 8)), none⟩ (.take ⟨(some 10), (.fa 0 (.t 9)), none⟩ (.take ⟨(some 11), (.ld none (.t 10)), none⟩ (.take ⟨(some 12), (.len (.t 11)), none⟩ (.take ⟨(some 13), (.bin .lss (.t 7) (.t 12)), none⟩ .done))))))))))) (.cond (.t 13) (.tree (.take ⟨(some 14), (.mov (.t 0)), none⟩ (.take ⟨(some 15), (.nchk (.t 14)), none⟩ (.take ⟨(some 16), (.fa 0 (.t 15)), none⟩ (.take ⟨(some 17), (.ld none (.t 16)), none⟩ (.take ⟨(some 18), (.mov (.t 0)), none⟩ (.take ⟨(some 19), (.nchk (.t 18)), none⟩ (.take ⟨(some 20), (.fa 1 (.t 19)), none⟩ (.take ⟨(some 21), (.ld none (.t 20)), none⟩ (.take ⟨(some 22), (.idx 1 (.t 17) (.t 21)), none⟩ (.take ⟨(some 23), (.ld none (.t 22)), none⟩ (.take ⟨(some 24), (.pu (.cvt .i64) [(.t 23)]), none⟩ (.take ⟨(some 3), (.mov (.t 24)), none⟩ .done))))))))))))) .skip)) (.seq (.ops [⟨(some 25), (.mov (.t 0)), none⟩, ⟨(some 26), (.nchk (.t 25)), none⟩, ⟨(some 27), (.fa 1 (.t 26)), none⟩, ⟨(some 28), (.ld none (.t 27)), none⟩, ⟨(some 29), (.bin .add (.t 28) (.c (.int .i64 1))), none⟩, ⟨(some 30), (.nchk (.t 25)), none⟩, ⟨(some 31), (.fa 1 (.t 30)), none⟩, ⟨none, (.st 1 (.t 31) (.t 29)), none⟩]) (.seq (.ops [⟨(some 32), (.mov (.t 0)), none⟩, ⟨(some 33), (.mov (.t 0)), none⟩, ⟨(some 34), (.nchk (.t 33)), none⟩, ⟨(some 35), (.fa 2 (.t 34)), none⟩, ⟨(some 36), (.ld none (.t 35)), none⟩, ⟨(some 37), (.bin .mul (.t 36) (.c (.int .u64 6364136223846793005))), none⟩, ⟨(some 38), (.mov (.t 3)), none⟩, ⟨(some 39), (.pu (.cvt .u64) [(.t 38)]), none⟩, ⟨(some 40), (.bin .add (.t 37) (.t 39)), none⟩, ⟨(some 41), (.bin .add (.t 40) (.c (.int .u64 1442695040888963407))), none⟩, ⟨(some 42), (.nchk (.t 32)), none⟩, ⟨(some 43), (.fa 2 (.t 42)), none⟩, ⟨none, (.st 1 (.t 43) (.t 41)), none⟩]) (.seq (.seq (.tree (.take ⟨(some 44), (.mov (.t 0)), none⟩ (.take ⟨(some 45), (.nchk (.t 44)), none⟩ (.take ⟨(some 46), (.fa 1 (.t 45)), none⟩ (.take ⟨(some 47), (.ld none (.t 46)), none⟩ (.take ⟨(some 48), (.mov (.t 0)), none⟩ (.take ⟨(some 49), (.nchk (.t 48)), none⟩ (.take ⟨(some 50), (.fa 0 (.t 49)), none⟩ (.take ⟨(some 51), (.ld none (.t 50)), none⟩ (.take ⟨(some 52), (.len (.t 51)), none⟩ (.take ⟨(some 53), (.bin .leq (.t 47) (.t 52)), none⟩ .done))))))))))) (.cond (.t 53) (.seq (.ops [⟨(some 54), (.mov (.t 3)), none⟩, ⟨(some 2), (.mov (.t 54)), none⟩]) .ret) .skip)) (.seq (.ops [⟨(some 55), (.mov (.t 0)), none⟩, ⟨(some 56), (.nchk (.t 55)), none⟩, ⟨(some 57), (.fa 2 (.t 56)), none⟩, ⟨(some 58), (.ld none (.t 57)), none⟩, ⟨(some 59), (.bin .shr (.t 58) (.c (.int .u64 40))), none⟩, ⟨(some 60), (.bin .and (.t 59) (.c (.int .u64 255))), none⟩, ⟨(some 61), (.pu (.cvt .i64) [(.t 60)]), none⟩, ⟨(some 2), (.mov (.t 61)), none⟩]) .ret)))))))
theorem cc65 : ccode Try.prog (min Try.f65.ntmps pbase) (Try.f65.body.getD .skip) = some ac65 := by kernel_rfl
def ac66 : ACode := (.seq (.ops [⟨(some 4), (.nils 1), none⟩]) (.seq (.ops [⟨(some 5), (.nils 1), none⟩]) (.seq (.seq (.ops [⟨(some 6), (.mov (.c (.int .i64 0))), none⟩]) (.block 0 (.loop (.seq (.seq (.ops [⟨(some 10), (.mov (.t 6)), none⟩, ⟨(some 11), (.mov (.t 0)), none⟩, ⟨(some 12), (.bin .lss (.t 10) (.t 11)), none⟩]) (.cond (.t 12) .skip (.exit 0))) (.seq (.block 1 (.seq (.ops [⟨(some 7), (.mov (.c (.int .i64 0))), none⟩]) (.block 2 (.loop (.seq (.seq (.ops [⟨(some 15), (.mov (.t 7)), none⟩, ⟨(some 16), (.mov (.t 0)), none⟩, ⟨(some 17), (.bin .lss (.t 15) (.t 16)), none⟩]) (.cond (.t 17) .skip (.exit 2))) (.seq (.block 3 (.seq (.seq (.ops [⟨(some 20), (.mov (.t 7)), none⟩, ⟨(some 21), (.mov (.t 6)), none⟩, ⟨(some 22), (.bin .eql (.t 20) (.t 21)), none⟩, ⟨(some 23), (.mov (.t 22)), none⟩, ⟨(some 24), (.mov (.t 5)), (some (23, false))⟩, ⟨(some 25), (.mov (.t 7)), (some (23, false))⟩, ⟨(some 26), (.call 36 [(.t 24), (.t 25)]), (some (23, false))⟩, ⟨(some 27), (.pick (.t 23) (.c (.bool true)) (.t 26)), none⟩]) (.cond (.t 27) (.exit 3) .skip)) (.seq (.ops [⟨(some 28), (.mov (.t 5)), none⟩, ⟨(some 29), (.call 38 [(.t 28)]), none⟩, ⟨(some 30), (.mov (.t 7)), none⟩, ⟨(some 31), (.bsl 1 1 [(.int .i64 0)] [(0, (.t 30))]), none⟩, ⟨(some 32), (.app 1 8 (.t 29) (.t 31)), none⟩, ⟨(some 8), (.mov (.t 32)), none⟩]) (.seq (.ops [⟨(some 33), (.mov (.t 8)), none⟩, ⟨(some 34), (.mov (.t 0)), none⟩, ⟨(some 35), (.call 75 [(.t 33), (.t 34)]), none⟩, ⟨(some 9), (.mov (.t 35)), none⟩]) (.seq (.seq (.ops [⟨(some 36), (.mov (.t 1)), none⟩, ⟨(some 37), (.mov (.t 9)), none⟩, ⟨(some 38), (.bin .lss (.t 36) (.t 37)), none⟩]) (.cond (.t 38) (.seq (.ops [⟨(some 39), (.mov (.t 8)), none⟩, ⟨(some 5), (.mov (.t 39)), none⟩]) (.exit 2)) .skip)) (.ops [⟨(some 40), (.mov (.t 1)), none⟩, ⟨(some 41), (.mov (.t 9)), none⟩, ⟨(some 42), (.bin .sub (.t 40) (.t 41)), none⟩, ⟨(some 1), (.mov (.t 42)), none⟩])))))) (.ops [⟨(some 18), (.mov (.t 7)), none⟩, ⟨(some 19), (.bin .add (.t 18) (.c (.int .i64 1))), none⟩, ⟨(some 7), (.mov (.t 19)), none⟩]))))))) (.ops [⟨(some 13), (.mov (.t 6)), none⟩, ⟨(some 14), (.bin .add (.t 13) (.c (.int .i64 1))), none⟩, ⟨(some 6), (.mov (.t 14)), none⟩])))))) (.seq (.ops [⟨(some 43), (.mov (.t 5)), none⟩, ⟨(some 4), (.mov (.t 43)), none⟩]) .ret))))
theorem cc66 : ccode Try.prog (min Try.f66.ntmps pbase) (Try.f66.body.getD .skip) = some ac66 := by kernel_rfl
def ac67 : ACode := (.seq (.ops [⟨(some 2), (.mov (.c (.int .i64 0))), none⟩]) (.seq (.ops [⟨(some 3), (.mov (.c (.int .i64 1))), none⟩, ⟨(some 4), (.mov (.c (.int .i64 0))), none⟩]) (.seq (.seq (.ops [⟨(some 5), (.mov (.c (.int .i64 2))), none⟩]) (.block 0 (.loop (.seq (.seq (.ops [⟨(some 6), (.mov (.t 5)), none⟩, ⟨(some 7), (.mov (.t 0)), none⟩, ⟨(some 8), (.bin .leq (.t 6) (.t 7)), none⟩]) (.cond (.t 8) .skip (.exit 0))) (.seq (.block 1 (.ops [⟨(some 11), (.mov (.t 4)), none⟩, ⟨(some 12), (.mov (.t 5)), none⟩, ⟨(some 13), (.bin .sub (.t 12) (.c (.int .i64 1))), none⟩, ⟨(some 14), (.mov (.t 3)), none⟩, ⟨(some 15), (.mov (.t 4)), none⟩, ⟨(some 16), (.bin .add (.t 14) (.t 15)), none⟩, ⟨(some 17), (.bin .mul (.t 13) (.t 16)), none⟩, ⟨(some 3), (.mov (.t 11)), none⟩, ⟨(some 4), (.mov (.t 17)), none⟩])) (.ops [⟨(some 9), (.mov (.t 5)), none⟩, ⟨(some 10), (.bin .add (.t 9) (.c (.int .i64 1))), none⟩, ⟨(some 5), (.mov (.t 10)), none⟩])))))) (.seq (.seq (.ops [⟨(some 18), (.mov (.t 0)), none⟩, ⟨(some 19), (.bin .eql (.t 18) (.c (.int .i64 0))), none⟩]) (.cond (.t 19) (.seq (.ops [⟨(some 2), (.mov (.c (.int .i64 1))), none⟩]) .ret) .skip)) (.seq (.ops [⟨(some 20), (.mov (.t 4)), none⟩, ⟨(some 2), (.mov (.t 20)), none⟩]) .ret)))))
theorem cc67 : ccode Try.prog (min Try.f67.ntmps pbase) (Try.f67.body.getD .skip) = some ac67 := by kernel_rfl
def ac68 : ACode := (.seq (.ops [⟨(some 4), (.nils 1), none⟩]) (.seq (.ops [⟨(some 5), (.nils 1), none⟩]) (.seq (.ops [⟨(some 10), (.mov (.t 0)), none⟩, ⟨(some 11), (.mov (.t 1)), none⟩, ⟨(some 12), (.call 49 [(.t 10), (.t 11)]), none⟩, ⟨(some 13), (.bin .add (.c (.int .i64 1)) (.t 12)), none⟩, ⟨(some 6), (.mov (.t 13)), none⟩]) (.seq (.seq (.ops [⟨(some 7), (.mov (.c (.int .i64 0))), none⟩]) (.block 0 (.loop (.seq (.seq (.ops [⟨(some 14), (.mov (.t 7)), none⟩, ⟨(some 15), (.mov (.t 6)), none⟩, ⟨(some 16), (.bin .lss (.t 14) (.t 15)), none⟩]) (.cond (.t 16) .skip (.exit 0))) (.seq (.block 1 (.seq (.ops [⟨(some 19), (.mov (.t 0)), none⟩, ⟨(some 20), (.mov (.t 5)), none⟩, ⟨(some 21), (.len (.t 20)), none⟩, ⟨(some 22), (.bin .add (.t 21) (.c (.int .i64 1))), none⟩, ⟨(some 23), (.call 49 [(.t 19), (.t 22)]), none⟩, ⟨(some 8), (.mov (.t 23)), none⟩]) (.seq (.ops [⟨(some 24), (.mov (.t 5)), none⟩, ⟨(some 25), (.mov (.t 8)), none⟩, ⟨(some 26), (.cut 1 (.t 24) none (some (.t 25))), none⟩, ⟨(some 27), (.call 38 [(.t 26)]), none⟩, ⟨(some 28), (.mov (.t 7)), none⟩, ⟨(some 29), (.bsl 1 1 [(.int .i64 0)] [(0, (.t 28))]), none⟩, ⟨(some 30), (.app 1 8 (.t 27) (.t 29)), none⟩, ⟨(some 9), (.mov (.t 30)), none⟩]) (.ops [⟨(some 31), (.mov (.t 9)), none⟩, ⟨(some 32), (.mov (.t 5)), none⟩, ⟨(some 33), (.mov (.t 8)), none⟩, ⟨(some 34), (.cut 1 (.t 32) (some (.t 33)) none), none⟩, ⟨(some 35), (.app 1 8 (.t 31) (.t 34)), none⟩, ⟨(some 5), (.mov (.t 35)), none⟩])))) (.ops [⟨(some 17), (.mov (.t 7)), none⟩, ⟨(some 18), (.bin .add (.t 17) (.c (.int .i64 1))), none⟩, ⟨(some 7), (.mov (.t 18)), none⟩])))))) (.seq (.ops [⟨(some 36), (.mov (.t 5)), none⟩, ⟨(some 4), (.mov (.t 36)), none⟩]) .ret)))))
theorem cc68 : ccode Try.prog (min Try.f68.ntmps pbase) (Try.f68.body.getD .skip) = some ac68 := by kernel_rfl
def ac69 : ACode := (.seq (.ops [⟨(some 6), (.mov (.c (.bool false))), none⟩]) (.seq (.seq (.ops [⟨(some 9), (.mov (.t 0)), none⟩, ⟨(some 10), (.len (.t 9)), none⟩, ⟨(some 11), (.mov (.c (.int .i64 0))), none⟩]) (.block 0 (.loop (.seq (.ops [⟨(some 12), (.bin .lss (.t 11) (.t 10)), none⟩]) (.seq (.cond (.t 12) .skip (.exit 0)) (.seq (.block 1 (.seq (.ops [⟨(some 13), (.idx 1 (.t 9) (.t 11)), none⟩, ⟨(some 14), (.ld none (.t 13)), none⟩, ⟨(some 8), (.mov (.t 14)), none⟩]) (.seq (.ops [⟨(some 15), (.mov (.t 8)), none⟩, ⟨(some 16), (.mov (.t 1)), none⟩, ⟨(some 17), (.mov (.t 2)), none⟩, ⟨(some 18), (.call 52 [(.t 15), (.t 16), (.t 17)]), none⟩, ⟨(some 19), (.not (.t 18)), none⟩]) (.cond (.t 19) (.seq (.ops [⟨(some 6), (.mov (.c (.bool false))), none⟩]) .ret) .skip)))) (.ops [⟨(some 20), (.bin .add (.t 11) (.c (.int .i64 1))), none⟩, ⟨(some 11), (.mov (.t 20)), none⟩]))))))) (.seq (.ops [⟨(some 6), (.mov (.c (.bool true))), none⟩]) .ret)))
theorem cc69 : ccode Try.prog (min Try.f69.ntmps pbase) (Try.f69.body.getD .skip) = some ac69 := by kernel_rfl
def ac70 : ACode := (.seq (.ops [⟨(some 2), (.mov (.c (.int .i64 0))), none⟩]) (.seq (.tree (.take ⟨(some 3), (.mov (.t 0)), none⟩ (.take ⟨(some 4), (.bin .shr (.t 3) (.c (.int .u64 8))), none⟩ (.take ⟨(some 5), (.pu .six [(.c (.string (.mk #[0, 1, 1, 2, 1, 2, 2, 3, 1, 2, 2, 3, 2, 3, 3, 4, 1, 2, 2, 3, 2, 3, 3, 4, 2, 3, 3, 4, 3, 4, 4, 5, 1, 2, 2, 3, 2, 3, 3, 4, 2, 3, 3, 4, 3, 4, 4, 5, 2, 3, 3, 4, 3, 4, 4, 5, 3, 4, 4, 5, 4, 5, 5, 6, 1, 2, 2, 3, 2, 3, 3, 4, 2, 3, 3, 4, 3, 4, 4, 5, 2, 3, 3, 4, 3, 4, 4, 5, 3, 4, 4, 5, 4, 5, 5, 6, 2, 3, 3, 4, 3, 4, 4, 5, 3, 4, 4, 5, 4, 5, 5, 6, 3, 4, 4, 5, 4, 5, 5, 6, 4, 5, 5, 6, 5, 6, 6, 7, 1, 2, 2, 3, 2, 3, 3, 4, 2, 3, 3, 4, 3, 4, 4, 5, 2, 3, 3, 4, 3, 4, 4, 5, 3, 4, 4, 5, 4, 5, 5, 6, 2, 3, 3, 4, 3, 4, 4, 5, 3, 4, 4, 5, 4, 5, 5, 6, 3, 4, 4, 5, 4, 5, 5, 6, 4, 5, 5, 6, 5, 6, 6, 7, 2, 3, 3, 4, 3, 4, 4, 5, 3, 4, 4, 5, 4, 5, 5, 6, 3, 4, 4, 5, 4, 5, 5, 6, 4, 5, 5, 6, 5, 6, 6, 7, 3, 4, 4, 5, 4, 5, 5, 6, 4, 5, 5, 6, 5, 6, 6, 7, 4, 5, 5, 6, 5, 6, 6, 7, 5, 6, 6, 7, 6, 7, 7, 8]))), (.t 4)]), none⟩ (.take ⟨(some 6), (.mov (.t 0)), none⟩ (.take ⟨(some 7), (.bin .and (.t 6) (.c (.int .u16 255))), none⟩ (.take ⟨(some 8), (.pu .six [(.c (.string (.mk #[0, 1, 1, 2, 1, 2, 2, 3, 1, 2, 2, 3, 2, 3, 3, 4, 1, 2, 2, 3, 2, 3, 3, 4, 2, 3, 3, 4, 3, 4, 4, 5, 1, 2, 2, 3, 2, 3, 3, 4, 2, 3, 3, 4, 3, 4, 4, 5, 2, 3, 3, 4, 3, 4, 4, 5, 3, 4, 4, 5, 4, 5, 5, 6, 1, 2, 2, 3, 2, 3, 3, 4, 2, 3, 3, 4, 3, 4, 4, 5, 2, 3, 3, 4, 3, 4, 4, 5, 3, 4, 4, 5, 4, 5, 5, 6, 2, 3, 3, 4, 3, 4, 4, 5, 3, 4, 4, 5, 4, 5, 5, 6, 3, 4, 4, 5, 4, 5, 5, 6, 4, 5, 5, 6, 5, 6, 6, 7, 1, 2, 2, 3, 2, 3, 3, 4, 2, 3, 3, 4, 3, 4, 4, 5, 2, 3, 3, 4, 3, 4, 4, 5, 3, 4, 4, 5, 4, 5, 5, 6, 2, 3, 3, 4, 3, 4, 4, 5, 3, 4, 4, 5, 4, 5, 5, 6, 3, 4, 4, 5, 4, 5, 5, 6, 4, 5, 5, 6, 5, 6, 6, 7, 2, 3, 3, 4, 3, 4, 4, 5, 3, 4, 4, 5, 4, 5, 5, 6, 3, 4, 4, 5, 4, 5, 5, 6, 4, 5, 5, 6, 5, 6, 6, 7, 3, 4, 4, 5, 4, 5, 5, 6, 4, 5, 5, 6, 5, 6, 6, 7, 4, 5, 5, 6, 5, 6, 6, 7, 5, 6, 6, 7, 6, 7, 7, 8]))), (.t 7)]), none⟩ (.take ⟨(some 9), (.bin .add (.t 5) (.t 8)), none⟩ (.take ⟨(some 10), (.pu (.cvt .i64) [(.t 9)]), none⟩ (.take ⟨(some 2), (.mov (.t 10)), none⟩ .done)))))))))) .ret))
theorem cc70 : ccode Try.prog (min Try.f70.ntmps pbase) (Try.f70.body.getD .skip) = some ac70 := by kernel_rfl
def ac71 : ACode := (.seq (.ops [⟨(some 2), (.nils 1), none⟩]) (.seq (.seq (.ops [⟨(some 3), (.mov (.t 0)), none⟩, ⟨(some 4), (.isnil false (.t 3)), none⟩]) (.cond (.t 4) (.seq (.ops [⟨(some 2), (.nils 1), none⟩]) .ret) .skip)) (.seq (.ops [⟨(some 5), (.bsl 1 0 [(.int .i64 0)] []), none⟩, ⟨(some 6), (.mov (.t 0)), none⟩, ⟨(some 7), (.app 1 8 (.t 5) (.t 6)), none⟩, ⟨(some 2), (.mov (.t 7)), none⟩]) .ret)))
theorem cc71 : ccode Try.prog (min Try.f71.ntmps pbase) (Try.f71.body.getD .skip) = some ac71 := by kernel_rfl
def ac72 : ACode := (.seq (.ops [⟨(some 4), (.mov (.c (.int .i64 0))), none⟩]) (.seq (.seq (.ops [⟨(some 6), (.mov (.t 0)), none⟩, ⟨(some 7), (.len (.t 6)), none⟩, ⟨(some 8), (.mov (.c (.int .i64 0))), none⟩]) (.block 0 (.loop (.seq (.ops [⟨(some 9), (.bin .lss (.t 8) (.t 7)), none⟩]) (.seq (.cond (.t 9) .skip (.exit 0)) (.seq (.block 1 (.seq (.ops [⟨(some 10), (.mov (.t 8)), none⟩, ⟨(some 5), (.mov (.t 10)), none⟩]) (.seq (.ops [⟨(some 11), (.mov (.t 1)), none⟩, ⟨(some 12), (.mov (.t 0)), none⟩, ⟨(some 13), (.mov (.t 5)), none⟩, ⟨(some 14), (.idx 1 (.t 12) (.t 13)), none⟩, ⟨(some 15), (.ld none (.t 14)), none⟩, ⟨(some 16), (.bin .eql (.t 11) (.t 15)), none⟩]) (.cond (.t 16) (.seq (.ops [⟨(some 17), (.mov (.t 5)), none⟩, ⟨(some 4), (.mov (.t 17)), none⟩]) .ret) .skip)))) (.ops [⟨(some 18), (.bin .add (.t 8) (.c (.int .i64 1))), none⟩, ⟨(some 8), (.mov (.t 18)), none⟩]))))))) (.seq (.ops [⟨(some 4), (.mov (.c (.int .i64 (-1)))), none⟩]) .ret)))
theorem cc72 : ccode Try.prog (min Try.f72.ntmps pbase) (Try.f72.body.getD .skip) = some ac72 := by kernel_rfl
def ac73 : ACode := (.seq (.ops [⟨(some 4), (.mov (.c (.bool false))), none⟩]) (.seq (.ops [⟨(some 5), (.mov (.t 0)), none⟩, ⟨(some 6), (.bin .geq (.t 5) (.c (.int .i64 0))), none⟩, ⟨(some 7), (.mov (.t 6)), none⟩, ⟨(some 8), (.mov (.t 0)), (some (7, true))⟩, ⟨(some 9), (.mov (.t 1)), (some (7, true))⟩, ⟨(some 10), (.bin .lss (.t 8) (.t 9)), (some (7, true))⟩, ⟨(some 11), (.pick (.t 7) (.t 10) (.c (.bool false))), none⟩, ⟨(some 4), (.mov (.t 11)), none⟩]) .ret))
theorem cc73 : ccode Try.prog (min Try.f73.ntmps pbase) (Try.f73.body.getD .skip) = some ac73 := by kernel_rfl
def ac74 : ACode := (.seq (.ops [⟨(some 2), (.nils 1), none⟩]) (.seq (.ops [⟨(some 3), (.nils 1), none⟩, ⟨(some 4), (.nils 1), none⟩]) (.seq (.seq (.ops [⟨(some 7), (.mov (.t 0)), none⟩, ⟨(some 8), (.len (.t 7)), none⟩, ⟨(some 9), (.mov (.c (.int .i64 0))), none⟩]) (.block 0 (.loop (.seq (.ops [⟨(some 10), (.bin .lss (.t 9) (.t 8)), none⟩]) (.seq (.cond (.t 10) .skip (.exit 0)) (.seq (.block 1 (.seq (.ops [⟨(some 11), (.idx 1 (.t 7) (.t 9)), none⟩, ⟨(some 12), (.ld none (.t 11)), none⟩, ⟨(some 6), (.mov (.t 12)), none⟩]) (.seq (.seq (.ops [⟨(some 13), (.mov (.t 3)), none⟩, ⟨(some 14), (.mov (.t 6)), none⟩, ⟨(some 15), (.call 36 [(.t 13), (.t 14)]), none⟩, ⟨(some 16), (.not (.t 15)), none⟩]) (.cond (.t 16) (.ops [⟨(some 17), (.mov (.t 3)), none⟩, ⟨(some 18), (.mov (.t 6)), none⟩, ⟨(some 19), (.bsl 1 1 [(.int .i64 0)] [(0, (.t 18))]), none⟩, ⟨(some 20), (.app 1 8 (.t 17) (.t 19)), none⟩, ⟨(some 3), (.mov (.t 20)), none⟩]) .skip)) (.ops [⟨(some 21), (.mov (.t 4)), none⟩, ⟨(some 22), (.mov (.t 3)), none⟩, ⟨(some 23), (.mov (.t 6)), none⟩, ⟨(some 24), (.call 76 [(.t 22), (.t 23)]), none⟩, ⟨(some 25), (.bsl 1 1 [(.int .i64 0)] [(0, (.t 24))]), none⟩, ⟨(some 26), (.app 1 8 (.t 21) (.t 25)), none⟩, ⟨(some 4), (.mov (.t 26)), none⟩])))) (.ops [⟨(some 27), (.bin .add (.t 9) (.c (.int .i64 1))), none⟩, ⟨(some 9), (.mov (.t 27)), none⟩]))))))) (.seq (.ops [⟨(some 28), (.mov (.t 4)), none⟩, ⟨(some 2), (.mov (.t 28)), none⟩]) .ret))))
theorem cc74 : ccode Try.prog (min Try.f74.ntmps pbase) (Try.f74.body.getD .skip) = some ac74 := by kernel_rfl
def ac75 : ACode := (.seq (.ops [⟨(some 4), (.mov (.c (.int .i64 0))), none⟩]) (.seq (.ops [⟨(some 5), (.mov (.c (.int .i64 0))), none⟩]) (.seq (.seq (.ops [⟨(some 11), (.mov (.t 0)), none⟩, ⟨(some 12), (.len (.t 11)), none⟩, ⟨(some 6), (.mov (.t 12)), none⟩]) (.block 0 (.loop (.seq (.seq (.ops [⟨(some 13), (.mov (.t 6)), none⟩, ⟨(some 14), (.mov (.t 1)), none⟩, ⟨(some 15), (.bin .lss (.t 13) (.t 14)), none⟩]) (.cond (.t 15) .skip (.exit 0))) (.seq (.block 1 (.seq (.ops [⟨(some 18), (.mov (.t 0)), none⟩, ⟨(some 19), (.mov (.t 6)), none⟩, ⟨(some 20), (.call 36 [(.t 18), (.t 19)]), none⟩, ⟨(some 21), (.not (.t 20)), none⟩]) (.cond (.t 21) (.ops [⟨(some 22), (.mov (.t 5)), none⟩, ⟨(some 23), (.bin .add (.t 22) (.c (.int .i64 1))), none⟩, ⟨(some 5), (.mov (.t 23)), none⟩]) .skip))) (.ops [⟨(some 16), (.mov (.t 6)), none⟩, ⟨(some 17), (.bin .add (.t 16) (.c (.int .i64 1))), none⟩, ⟨(some 6), (.mov (.t 17)), none⟩])))))) (.seq (.ops [⟨(some 24), (.mov (.t 1)), none⟩, ⟨(some 25), (.mov (.t 0)), none⟩, ⟨(some 26), (.len (.t 25)), none⟩, ⟨(some 27), (.bin .sub (.t 24) (.t 26)), none⟩, ⟨(some 7), (.mov (.t 27)), none⟩]) (.seq (.ops [⟨(some 8), (.mov (.c (.int .i64 0))), none⟩]) (.seq (.seq (.ops [⟨(some 9), (.mov (.c (.int .i64 0))), none⟩]) (.block 2 (.loop (.seq (.seq (.ops [⟨(some 28), (.mov (.t 9)), none⟩, ⟨(some 29), (.mov (.t 5)), none⟩, ⟨(some 30), (.bin .leq (.t 28) (.t 29)), none⟩]) (.cond (.t 30) .skip (.exit 2))) (.seq (.block 3 (.seq (.ops [⟨(some 33), (.mov (.t 5)), none⟩, ⟨(some 34), (.mov (.t 9)), none⟩, ⟨(some 35), (.call 77 [(.t 33), (.t 34)]), none⟩, ⟨(some 36), (.mov (.t 7)), none⟩, ⟨(some 37), (.mov (.t 9)), none⟩, ⟨(some 38), (.bin .sub (.t 36) (.t 37)), none⟩, ⟨(some 39), (.call 78 [(.t 38)]), none⟩, ⟨(some 40), (.bin .mul (.t 35) (.t 39)), none⟩, ⟨(some 10), (.mov (.t 40)), none⟩]) (.seq (.ops [⟨(some 41), (.mov (.t 9)), none⟩, ⟨(some 42), (.bin .rem (.t 41) (.c (.int .i64 2))), none⟩, ⟨(some 43), (.bin .eql (.t 42) (.c (.int .i64 0))), none⟩]) (.cond (.t 43) (.ops [⟨(some 44), (.mov (.t 8)), none⟩, ⟨(some 45), (.mov (.t 10)), none⟩, ⟨(some 46), (.bin .add (.t 44) (.t 45)), none⟩, ⟨(some 8), (.mov (.t 46)), none⟩]) (.ops [⟨(some 47), (.mov (.t 8)), none⟩, ⟨(some 48), (.mov (.t 10)), none⟩, ⟨(some 49), (.bin .sub (.t 47) (.t 48)), none⟩, ⟨(some 8), (.mov (.t 49)), none⟩]))))) (.ops [⟨(some 31), (.mov (.t 9)), none⟩, ⟨(some 32), (.bin .add (.t 31) (.c (.int .i64 1))), none⟩, ⟨(some 9), (.mov (.t 32)), none⟩])))))) (.seq (.ops [⟨(some 50), (.mov (.t 8)), none⟩, ⟨(some 4), (.mov (.t 50)), none⟩]) .ret)))))))
theorem cc75 : ccode Try.prog (min Try.f75.ntmps pbase) (Try.f75.body.getD .skip) = some ac75 := by kernel_rfl
def ac76 : ACode := (.seq (.ops [⟨(some 4), (.mov (.c (.int .i64 0))), none⟩]) (.seq (.seq (.ops [⟨(some 7), (.mov (.t 0)), none⟩, ⟨(some 8), (.len (.t 7)), none⟩, ⟨(some 9), (.mov (.c (.int .i64 0))), none⟩]) (.block 0 (.loop (.seq (.ops [⟨(some 10), (.bin .lss (.t 9) (.t 8)), none⟩]) (.seq (.cond (.t 10) .skip (.exit 0)) (.seq (.block 1 (.seq (.ops [⟨(some 11), (.mov (.t 9)), none⟩, ⟨(some 12), (.idx 1 (.t 7) (.t 9)), none⟩, ⟨(some 13), (.ld none (.t 12)), none⟩, ⟨(some 5), (.mov (.t 11)), none⟩, ⟨(some 6), (.mov (.t 13)), none⟩]) (.seq (.ops [⟨(some 14), (.mov (.t 6)), none⟩, ⟨(some 15), (.mov (.t 1)), none⟩, ⟨(some 16), (.bin .eql (.t 14) (.t 15)), none⟩]) (.cond (.t 16) (.seq (.ops [⟨(some 17), (.mov (.t 5)), none⟩, ⟨(some 4), (.mov (.t 17)), none⟩]) .ret) .skip)))) (.ops [⟨(some 18), (.bin .add (.t 9) (.c (.int .i64 1))), none⟩, ⟨(some 9), (.mov (.t 18)), none⟩]))))))) (.seq (.ops [⟨(some 4), (.mov (.c (.int .i64 (-1)))), none⟩]) .ret)))
theorem cc76 : ccode Try.prog (min Try.f76.ntmps pbase) (Try.f76.body.getD .skip) = some ac76 := by kernel_rfl
def ac77 : ACode := (.seq (.ops [⟨(some 4), (.mov (.c (.int .i64 0))), none⟩]) (.seq (.ops [⟨(some 5), (.mov (.c (.int .i64 1))), none⟩]) (.seq (.seq (.ops [⟨(some 6), (.mov (.c (.int .i64 1))), none⟩]) (.block 0 (.loop (.seq (.seq (.ops [⟨(some 7), (.mov (.t 6)), none⟩, ⟨(some 8), (.mov (.t 1)), none⟩, ⟨(some 9), (.bin .leq (.t 7) (.t 8)), none⟩]) (.cond (.t 9) .skip (.exit 0))) (.seq (.block 1 (.ops [⟨(some 12), (.mov (.t 5)), none⟩, ⟨(some 13), (.mov (.t 0)), none⟩, ⟨(some 14), (.mov (.t 1)), none⟩, ⟨(some 15), (.bin .sub (.t 13) (.t 14)), none⟩, ⟨(some 16), (.mov (.t 6)), none⟩, ⟨(some 17), (.bin .add (.t 15) (.t 16)), none⟩, ⟨(some 18), (.bin .mul (.t 12) (.t 17)), none⟩, ⟨(some 19), (.mov (.t 6)), none⟩, ⟨(some 20), (.bin .quo (.t 18) (.t 19)), none⟩, ⟨(some 5), (.mov (.t 20)), none⟩])) (.ops [⟨(some 10), (.mov (.t 6)), none⟩, ⟨(some 11), (.bin .add (.t 10) (.c (.int .i64 1))), none⟩, ⟨(some 6), (.mov (.t 11)), none⟩])))))) (.seq (.ops [⟨(some 21), (.mov (.t 5)), none⟩, ⟨(some 4), (.mov (.t 21)), none⟩]) .ret))))
theorem cc77 : ccode Try.prog (min Try.f77.ntmps pbase) (Try.f77.body.getD .skip) = some ac77 := by kernel_rfl
def ac78 : ACode := (.seq (.ops [⟨(some 2), (.mov (.c (.int .i64 0))), none⟩]) (.seq (.ops [⟨(some 3), (.mov (.c (.int .i64 1))), none⟩]) (.seq (.seq (.ops [⟨(some 4), (.mov (.c (.int .i64 2))), none⟩]) (.block 0 (.loop (.seq (.seq (.ops [⟨(some 5), (.mov (.t 4)), none⟩, ⟨(some 6), (.mov (.t 0)), none⟩, ⟨(some 7), (.bin .leq (.t 5) (.t 6)), none⟩]) (.cond (.t 7) .skip (.exit 0))) (.seq (.block 1 (.ops [⟨(some 10), (.mov (.t 3)), none⟩, ⟨(some 11), (.mov (.t 4)), none⟩, ⟨(some 12), (.bin .mul (.t 10) (.t 11)), none⟩, ⟨(some 3), (.mov (.t 12)), none⟩])) (.ops [⟨(some 8), (.mov (.t 4)), none⟩, ⟨(some 9), (.bin .add (.t 8) (.c (.int .i64 1))), none⟩, ⟨(some 4), (.mov (.t 9)), none⟩])))))) (.seq (.ops [⟨(some 13), (.mov (.t 3)), none⟩, ⟨(some 2), (.mov (.t 13)), none⟩]) .ret))))
theorem cc78 : ccode Try.prog (min Try.f78.ntmps pbase) (Try.f78.body.getD .skip) = some ac78 := by kernel_rfl
end Go.Proofs.Ytbeflnnejofleaa
namespace Go.Proofs.Ytbeflnnejofleaa
variable [Go.Am.CodeBlk]
open Go.Am
attribute [local irreducible] AW Outs Weak Lends Lend Sp aops atree aop1 Then Round InBlock Done
theorem isGuest_spec (a b : Int) : Sp Try.prog 73 [.i a, .i b] (.b (decide (0 ≤ a ∧ a < b))) := by
  refine spec_of Try.func73 rfl cc73 rfl ?_
  unfold ac73
  by_cases h : 0 ≤ a
  all_goals
    repeat (first | (refine step_ops ?_; (first | ((try (refine g_yes rfl ?_ ?_; (· (refine decide_eq_true ?_; assumption)))); (first | (refine m_mov (by conv => lhs; whnf) ?_) | (refine m_lss rfl rfl ?_) | (refine m_geq rfl rfl ?_) | (refine m_pick_t rfl ?_ (by conv => lhs; whnf) ?_; (· (refine decide_eq_true ?_; assumption))) | (refine m_pick_f rfl ?_ (by conv => lhs; whnf) ?_; (· (refine decide_eq_false ?_; assumption))))) | (refine g_noT rfl ?_ ?_; (· (refine decide_eq_false ?_; assumption))))) | refine end_ops ?_ | refine seq_ops ?_ | refine AW_ret ?_ | refine ret_done ?_)
    refine outs_b ?_
    simp [*]
theorem isGuestCount_spec (a : Int) : Sp Try.prog 62 [.i a] (.b (decide (1 ≤ a ∧ a ≤ 12))) := by
  refine spec_of Try.func62 rfl cc62 rfl ?_
  unfold ac62
  by_cases h : 1 ≤ a
  all_goals
    repeat (first | (refine step_ops ?_; (first | ((try (refine g_yes rfl ?_ ?_; (· (refine decide_eq_true ?_; assumption)))); (first | (refine m_mov (by conv => lhs; whnf) ?_) | (refine m_leq rfl rfl ?_) | (refine m_geq rfl rfl ?_) | (refine m_pick_t rfl ?_ (by conv => lhs; whnf) ?_; (· (refine decide_eq_true ?_; assumption))) | (refine m_pick_f rfl ?_ (by conv => lhs; whnf) ?_; (· (refine decide_eq_false ?_; assumption))))) | (refine g_noT rfl ?_ ?_; (· (refine decide_eq_false ?_; assumption))))) | refine end_ops ?_ | refine seq_ops ?_ | refine AW_ret ?_ | refine ret_done ?_)
    refine outs_b ?_
    simp [*]
theorem l1In_spec (a b c : Int) : Sp Try.prog 52 [.i a, .i b, .i c] (.b (decide (b ≤ a ∧ a ≤ c))) := by
  refine spec_of Try.func52 rfl cc52 rfl ?_
  unfold ac52
  by_cases h : b ≤ a
  all_goals
    repeat (first | (refine step_ops ?_; (first | ((try (refine g_yes rfl ?_ ?_; (· (refine decide_eq_true ?_; assumption)))); (first | (refine m_mov (by conv => lhs; whnf) ?_) | (refine m_leq rfl rfl ?_) | (refine m_geq rfl rfl ?_) | (refine m_pick_t rfl ?_ (by conv => lhs; whnf) ?_; (· (refine decide_eq_true ?_; assumption))) | (refine m_pick_f rfl ?_ (by conv => lhs; whnf) ?_; (· (refine decide_eq_false ?_; assumption))))) | (refine g_noT rfl ?_ ?_; (· (refine decide_eq_false ?_; assumption))))) | refine end_ops ?_ | refine seq_ops ?_ | refine AW_ret ?_ | refine ret_done ?_)
    refine outs_b ?_
    simp [*]
theorem getD_mem {L : List Int} {k : Nat} (h : k < L.length) : L.getD k 0 ∈ L := by simp [h]
end Go.Proofs.Ytbeflnnejofleaa
namespace Go.Am
variable [Go.Am.CodeBlk]
variable {P : Program} {own : Bool} {N : Nat} {s : AS} {K : AS → Prop} {d : Option Nat}
/-- An unsigned integer of sixteen bits. -/
abbrev AV.u (a : Nat) : AV := .v (.int .u16 (a : Int))
theorem wrap16 {a : Nat} (h : a < 65536) : IntKind.u16.wrap (a : Int) = (a : Int) := by
  have : IntKind.u16.wrap (a : Int) = (a : Int) % 65536 := by simp [IntKind.wrap, IntKind.bits, IntKind.signed]
  omega
theorem ofInt16 {a : Nat} (h : a < 65536) : (BitVec.ofInt IntKind.u16.bits (a : Int)).toNat = a := by
  show (BitVec.ofInt 16 (a : Int)).toNat = a
  rw [BitVec.ofInt_natCast, BitVec.toNat_ofNat]
  omega
theorem and16_lt {a b : Nat} (h : a < 65536) : a &&& b < 65536 := Nat.lt_of_le_of_lt Nat.and_le_left h
theorem or16_lt {a b : Nat} (h : a < 65536) (h2 : b < 65536) : a ||| b < 65536 := Nat.or_lt_two_pow (n := 16) h h2
theorem shl16_lt {k : Nat} (h : k < 16) : 1 <<< k < 65536 := by
  rw [Nat.one_shiftLeft]
  exact Nat.pow_lt_pow_right (by decide) h
section
variable {x y : Opd} {a b k : Nat}
theorem m_shr16 (hx : s.ev x = .u a) (hy : s.ev y = .i (k : Nat)) (hk : k < 16) (kk : K (s.put d (.u (a >>> k)))) : aop1 P own ⟨d, .bin .shr x y, none⟩ s K := by
  refine ⟨_, _, _, hx, hy, ?_, kk⟩
  have h1 : ¬ ((k : Nat) : Int) < 0 := by omega
  have h2 : min ((k : Nat) : Int).toNat IntKind.u16.bits = k := by show min _ 16 = k; omega
  show (if ((k : Nat) : Int) < 0 then none else some (Value.int .u16 ((a : Int).fdiv (2 ^ (min ((k : Nat) : Int).toNat IntKind.u16.bits))))) = _
  rw [if_neg h1, h2, Nat.shiftRight_eq_div_pow]
  congr 2
  rw [Int.fdiv_eq_ediv_of_nonneg _ (by exact Int.le_of_lt (Int.pow_pos (by decide)))]
  push_cast
  rfl
theorem m_shl16 (hx : s.ev x = .u 1) (hy : s.ev y = .i (k : Nat)) (hk : k < 16) (kk : K (s.put d (.u (1 <<< k)))) : aop1 P own ⟨d, .bin .shl x y, none⟩ s K := by
  refine ⟨_, _, _, hx, hy, ?_, kk⟩
  have h1 : ¬ ((k : Nat) : Int) < 0 := by omega
  have h2 : min ((k : Nat) : Int).toNat IntKind.u16.bits = k := by show min _ 16 = k; omega
  show (if ((k : Nat) : Int) < 0 then none else some (Value.int .u16 (IntKind.u16.wrap ((1 : Int) * 2 ^ (min ((k : Nat) : Int).toNat IntKind.u16.bits))))) = _
  rw [if_neg h1, h2]
  congr 2
  have : ((1 : Int) * (2 : Int) ^ k) = ((1 <<< k : Nat) : Int) := by rw [Nat.one_shiftLeft, Int.one_mul]; push_cast; rfl
  exact (congrArg _ this).trans (wrap16 (shl16_lt hk))
theorem m_and16 (hx : s.ev x = .u a) (hy : s.ev y = .u b) (ha : a < 65536) (hb : b < 65536) (kk : K (s.put d (.u (a &&& b)))) : aop1 P own ⟨d, .bin .and x y, none⟩ s K := by
  refine ⟨_, _, _, hx, hy, ?_, kk⟩
  show some (Value.int .u16 (IntKind.u16.wrap ((BitVec.ofInt IntKind.u16.bits (a : Int) &&& BitVec.ofInt IntKind.u16.bits (b : Int)).toNat : Int))) = _
  rw [BitVec.toNat_and, ofInt16 ha, ofInt16 hb, wrap16 (and16_lt ha)]
theorem m_or16 (hx : s.ev x = .u a) (hy : s.ev y = .u b) (ha : a < 65536) (hb : b < 65536) (kk : K (s.put d (.u (a ||| b)))) : aop1 P own ⟨d, .bin .or x y, none⟩ s K := by
  refine ⟨_, _, _, hx, hy, ?_, kk⟩
  show some (Value.int .u16 (IntKind.u16.wrap ((BitVec.ofInt IntKind.u16.bits (a : Int) ||| BitVec.ofInt IntKind.u16.bits (b : Int)).toNat : Int))) = _
  rw [BitVec.toNat_or, ofInt16 ha, ofInt16 hb, wrap16 (or16_lt ha hb)]
theorem m_eql16 (hx : s.ev x = .u a) (hy : s.ev y = .u b) (kk : K (s.put d (.b (decide (a = b))))) : aop1 P own ⟨d, .bin .eql x y, none⟩ s K := by
  refine ⟨_, _, _, hx, hy, rfl, ?_⟩
  rw [show (((a : Nat) : Int) == ((b : Nat) : Int)) = decide (a = b) from by rw [Bool.eq_iff_iff]; simp; omega]
  exact kk
theorem m_and16_1 (hx : s.ev x = .u a) (hy : s.ev y = .u 1) (ha : a < 65536) (kk : K (s.put d (.u (a &&& 1)))) : aop1 P own ⟨d, .bin .and x y, none⟩ s K := m_and16 hx hy ha (by decide) kk
theorem m_eql16_1 (hx : s.ev x = .u a) (hy : s.ev y = .u 1) (kk : K (s.put d (.b (decide (a = 1))))) : aop1 P own ⟨d, .bin .eql x y, none⟩ s K := m_eql16 hx hy kk
end
theorem bit_and (a k : Nat) : decide ((a >>> k) &&& 1 = 1) = a.testBit k := by
  rw [Nat.testBit, Nat.and_comm]
  have := Nat.one_and_eq_mod_two (a >>> k)
  rcases Nat.mod_two_eq_zero_or_one (a >>> k) with h | h <;> simp [this, h]
theorem bit_or (a k i : Nat) : (a ||| 1 <<< k).testBit i = (a.testBit i || decide (i = k)) := by
  rw [Nat.testBit_or, Nat.one_shiftLeft, Nat.testBit_two_pow]
  by_cases h : k = i
  · subst h; simp
  · simp [h, Ne.symm h]
end Go.Am
namespace Go.Proofs.Ytbeflnnejofleaa
variable [Go.Am.CodeBlk]
open Go.Am
attribute [local irreducible] AW Outs Weak Lends Lend Sp aops atree aop1 Then Round InBlock Done
theorem setHas_spec (a g : Nat) (ha : a < 65536) (hg : g < 16) : Sp Try.prog 32 [.u a, .i g] (.b (a.testBit g)) := by
  refine spec_of Try.func32 rfl cc32 rfl ?_
  unfold ac32
  repeat (first | (refine step_ops ?_; (refine m_mov (by conv => lhs; whnf) ?_)) | refine end_ops ?_ | refine seq_ops ?_)
  refine step_ops ?_
  refine m_shr16 (a := a) (k := g) rfl rfl hg ?_
  refine step_ops ?_
  refine m_and16_1 (a := a >>> g) rfl rfl (Nat.lt_of_le_of_lt (Nat.shiftRight_le a g) ha) ?_
  refine step_ops ?_
  refine m_eql16_1 (a := (a >>> g) &&& 1) rfl rfl ?_
  rw [bit_and]
  repeat (first | (refine step_ops ?_; (refine m_mov (by conv => lhs; whnf) ?_)) | refine end_ops ?_ | refine AW_ret ?_ | refine ret_done ?_)
  exact outs_b rfl
theorem outs_u {s : AS} {a b : Nat} (h : a = b) : Outs s (.u a) (.u b) := by
  subst h; exact outs_v
theorem setWith_spec (a g : Nat) (ha : a < 65536) (hg : g < 16) : Sp Try.prog 35 [.u a, .i g] (.u (a ||| 1 <<< g)) := by
  refine spec_of Try.func35 rfl cc35 rfl ?_
  unfold ac35
  repeat (first | (refine step_ops ?_; (refine m_mov (by conv => lhs; whnf) ?_)) | refine end_ops ?_ | refine seq_ops ?_)
  refine step_ops ?_
  refine m_shl16 (k := g) rfl rfl hg ?_
  refine step_ops ?_
  refine m_or16 (a := a) (b := 1 <<< g) rfl rfl ha (shl16_lt hg) ?_
  repeat (first | (refine step_ops ?_; (refine m_mov (by conv => lhs; whnf) ?_)) | refine end_ops ?_ | refine AW_ret ?_ | refine ret_done ?_)
  exact outs_u rfl
theorem notNodup {L : List Int} {k : Nat} (hk : k < L.length) (h : L.getD k 0 ∈ L.take k) : ¬ L.Nodup := by
  intro hn
  rw [← List.take_append_drop k L, List.nodup_append] at hn
  refine hn.2.2 _ h _ ?_ rfl
  have : L.drop k = L.getD k 0 :: L.drop (k + 1) := by rw [List.drop_eq_getElem_cons hk]; simp [hk]
  rw [this]
  exact List.mem_cons_self ..
theorem nodupSnoc {L : List Int} {k : Nat} (hk : k < L.length) (hn : (L.take k).Nodup) (h : L.getD k 0 ∉ L.take k) : (L.take (k + 1)).Nodup := by
  rw [take_snoc L k 0 hk, List.nodup_append]
  refine ⟨hn, by simp, ?_⟩
  intro a ha b hb hab
  rw [List.mem_singleton] at hb
  subst hb
  exact h (hab ▸ ha)
theorem areDifferent_spec (L : List Int) (n : Nat) (_hL : L.length ≤ 1048576) (hn16 : n ≤ 16) : Sp Try.prog 63 [ints L, .i n] (.b (decide ((∀ x ∈ L, 0 ≤ x ∧ x < (n : Int)) ∧ L.Nodup))) := by
  refine spec_of Try.func63 rfl cc63 rfl ?_
  unfold ac63
  repeat (first | (refine step_ops ?_; (first | (refine m_mov (by conv => lhs; whnf) ?_) | (refine m_len_ro rfl ?_))) | refine end_ops ?_ | refine seq_ops ?_ | refine AW_seq ?_ | refine AW_block ?_)
  refine AW_loop (α := Nat × Nat) (fun p => p.1 ≤ L.length ∧ p.2 < 65536 ∧ (∀ x ∈ L.take p.1, 0 ≤ x ∧ x < (n : Int)) ∧ (L.take p.1).Nodup ∧ ∀ i < 16, p.2.testBit i = decide ((i : Int) ∈ L.take p.1))
    (fun p => st [(0, ints L), (1, .i n), (5, .u p.2), (8, ints L), (9, .i L.length), (10, .i p.1)] []) (fun p => L.length - p.1) (0, 0) ⟨Nat.zero_le _, by decide, by simp, by simp, fun i _ => by simp⟩ (weak_st ?_ ?_ rfl rfl) ?_
  · (repeat' (first | exact trivial | refine And.intro ?_ ?_)) <;> (first | rfl | skip)
  · trivial
  rintro ⟨k, a⟩ ⟨hk, ha, hr, hn, hb⟩
  dsimp only at hk ha hr hn hb ⊢
  by_cases h : k < L.length
  · by_cases hx : 0 ≤ L.getD k 0 ∧ L.getD k 0 < (n : Int)
    · obtain ⟨i, hi⟩ := Int.eq_ofNat_of_zero_le hx.1
      have hi16 : i < 16 := by omega
      have hbi := hb i hi16
      by_cases hm : (i : Int) ∈ L.take k
      · have hbt : a.testBit i = true := by rw [hbi]; exact decide_eq_true hm
        repeat (first | (refine step_ops ?_; (first | (refine m_mov (by conv => lhs; whnf) ?_) | (refine m_lss rfl rfl ?_) | (refine m_idx1_ro rfl rfl ?_ ?_; (· omega)) | (refine m_ld_rpi rfl ?_ ?_; (· omega)))) | refine end_ops ?_ | refine seq_ops ?_ | (refine cond_t rfl ?_ ?_; (· (refine decide_eq_true ?_; omega))) | refine skip_then ?_ | refine AW_seq ?_ | refine AW_block ?_)
        (refine step_ops ?_); (apply m_call (isGuest_spec _ _)); (· repeat (first | exact lends_nil | (refine lends_cons ?_ ?_; (· exact lend_v))))
        repeat (refine step_ops ?_; ((try (refine g_yes rfl ?_ ?_; (· (refine nf ?_; assumption)))); (first | (refine m_mov (by conv => lhs; whnf) ?_) | (refine m_not rfl ?_))))
        rw [hi]
        skip
        (refine step_ops ?_); (refine g_yes rfl ?_ ?_; (· first | ((simp [*]; done)) | (fail)); (apply m_call (setHas_spec a i ha (by omega)))); (· repeat (first | exact lends_nil | (refine lends_cons ?_ ?_; (· exact lend_v))))
        repeat (first | (refine step_ops ?_; (first | (refine m_mov (by conv => lhs; whnf) ?_) | (refine m_pick_f rfl ?_ (by conv => lhs; whnf) ?_; (· (refine nf ?_; omega))))) | refine end_ops ?_ | refine seq_ops ?_ | (refine cond_t rfl ?_ ?_; (· assumption)) | refine AW_ret ?_ | refine ret_done ?_ | refine ret_then ?_ | refine ret_block ?_ | refine ret_round ?_)
        refine outs_b ?_
        symm
        exact decide_eq_false fun he => notNodup h (hi ▸ hm) he.2
      · have hbt : a.testBit i = false := by rw [hbi]; exact decide_eq_false hm
        repeat (first | (refine step_ops ?_; (first | (refine m_mov (by conv => lhs; whnf) ?_) | (refine m_lss rfl rfl ?_) | (refine m_idx1_ro rfl rfl ?_ ?_; (· omega)) | (refine m_ld_rpi rfl ?_ ?_; (· omega)))) | refine end_ops ?_ | refine seq_ops ?_ | (refine cond_t rfl ?_ ?_; (· (refine decide_eq_true ?_; omega))) | refine skip_then ?_ | refine AW_seq ?_ | refine AW_block ?_)
        (refine step_ops ?_); (apply m_call (isGuest_spec _ _)); (· repeat (first | exact lends_nil | (refine lends_cons ?_ ?_; (· exact lend_v))))
        repeat (refine step_ops ?_; ((try (refine g_yes rfl ?_ ?_; (· (refine nf ?_; assumption)))); (first | (refine m_mov (by conv => lhs; whnf) ?_) | (refine m_not rfl ?_))))
        rw [hi]
        skip
        (refine step_ops ?_); (refine g_yes rfl ?_ ?_; (· first | (fail) | ((refine nf ?_; omega))); (apply m_call (setHas_spec a i ha (by omega)))); (· repeat (first | exact lends_nil | (refine lends_cons ?_ ?_; (· exact lend_v))))
        repeat (first | (refine step_ops ?_; (first | (refine m_mov (by conv => lhs; whnf) ?_) | (refine m_pick_f rfl ?_ (by conv => lhs; whnf) ?_; (· (refine nf ?_; omega))))) | refine end_ops ?_ | refine AW_ops ?_ | (refine cond_f rfl ?_ ?_; (· assumption)) | refine skip_then ?_)
        (refine step_ops ?_); (apply m_call (setWith_spec a i ha (by omega))); (· repeat (first | exact lends_nil | (refine lends_cons ?_ ?_; (· exact lend_v))))
        repeat (first | (refine step_ops ?_; (first | (refine m_mov (by conv => lhs; whnf) ?_) | (refine m_add rfl rfl ?_ ?_ ?_; (· omega); (· omega)))) | refine end_ops ?_ | refine AW_ops ?_ | refine norm_then ?_ | refine norm_block ?_)
        refine next_round (k + 1, a ||| 1 <<< i) ⟨by omega, or16_lt ha (shl16_lt (by omega)), ?_, nodupSnoc h hn (hi ▸ hm), fun j hj => ?_⟩ (weak_st ?_ ?_ rfl rfl) ?_
        · rw [take_snoc L k 0 h]
          intro x hxm
          rw [List.mem_append, List.mem_singleton] at hxm
          rcases hxm with h1 | rfl
          · exact hr x h1
          · exact hx
        · rw [bit_or, hb j hj, take_snoc L k 0 h, Bool.eq_iff_iff]
          have hji : ((j : Int) = (i : Int)) ↔ j = i := by omega
          simp only [Bool.or_eq_true, decide_eq_true_eq, List.mem_append, List.mem_singleton, hi, hji]
        · (repeat' (first | exact trivial | refine And.intro ?_ ?_)) <;> (first | rfl | skip)
        · trivial
        · show L.length - (k + 1) < L.length - k
          omega
    · repeat (first | (refine step_ops ?_; (first | (refine m_mov (by conv => lhs; whnf) ?_) | (refine m_lss rfl rfl ?_) | (refine m_idx1_ro rfl rfl ?_ ?_; (· omega)) | (refine m_ld_rpi rfl ?_ ?_; (· omega)))) | refine end_ops ?_ | refine seq_ops ?_ | (refine cond_t rfl ?_ ?_; (· (refine decide_eq_true ?_; omega))) | refine skip_then ?_ | refine AW_seq ?_ | refine AW_block ?_)
      (refine step_ops ?_); (apply m_call (isGuest_spec _ _)); (· repeat (first | exact lends_nil | (refine lends_cons ?_ ?_; (· exact lend_v))))
      repeat (first | (refine step_ops ?_; (first | (first | (refine m_mov (by conv => lhs; whnf) ?_) | (refine m_not rfl ?_) | (refine m_pick_t rfl ?_ (by conv => lhs; whnf) ?_; (· (refine nt ?_; assumption)))) | (refine g_noF rfl ?_ ?_; (· (refine nt ?_; assumption))))) | refine end_ops ?_ | refine seq_ops ?_ | (refine cond_t rfl ?_ ?_; (· rfl)) | refine AW_ret ?_ | refine ret_done ?_ | refine ret_then ?_ | refine ret_block ?_ | refine ret_round ?_)
      refine outs_b ?_
      symm
      exact decide_eq_false fun he => hx (he.1 _ (getD_mem h))
  · repeat (first | (refine step_ops ?_; (first | (refine m_mov (by conv => lhs; whnf) ?_) | (refine m_lss rfl rfl ?_))) | refine end_ops ?_ | refine seq_ops ?_ | (refine cond_f rfl ?_ ?_; (· (refine decide_eq_false ?_; omega))) | refine AW_seq ?_ | refine AW_ret ?_ | refine ret_done ?_ | refine norm_then ?_ | refine exit_then ?_ | refine exit_round ?_ | refine AW_exit ?_ | refine exit_block ?_)
    refine outs_b ?_
    symm
    rw [List.take_of_length_le (by omega)] at hr hn
    exact decide_eq_true ⟨hr, hn⟩
end Go.Proofs.Ytbeflnnejofleaa
namespace Go.Proofs.Ytbeflnnejofleaa
variable [Go.Am.CodeBlk]
open Go.Am
attribute [local irreducible] AW Outs Weak Lends Lend Sp aops atree aop1 Then Round InBlock Done
/-- What an exchange is. -/
def IsEx (L : List Int) : Prop := 1 ≤ L.length ∧ L.length ≤ 12 ∧ (∀ x ∈ L, 0 ≤ x ∧ x < L.length) ∧ L.Nodup
instance (L : List Int) : Decidable (IsEx L) := inferInstanceAs (Decidable (_ ∧ _ ∧ _ ∧ _))
theorem l1Has_spec (L : List Int) (n : Int) (hL : L.length ≤ 1048576) : Sp Try.prog 36 [ints L, .i n] (.b (decide (n ∈ L))) := by
  refine spec_of Try.func36 rfl cc36 rfl ?_
  unfold ac36
  repeat (first | (refine step_ops ?_; (first | (refine m_mov (by conv => lhs; whnf) ?_) | (refine m_len_ro rfl ?_))) | refine end_ops ?_ | refine seq_ops ?_ | refine AW_seq ?_ | refine AW_block ?_)
  refine AW_loop (α := Nat) (fun k => k ≤ L.length ∧ n ∉ L.take k) (fun k => st [(7, ints L), (1, .i n), (8, .i L.length), (9, .i k)] []) (fun k => L.length - k) 0 (by simp) (weak_st ?_ ?_ rfl rfl) ?_
  · (repeat' (first | exact trivial | refine And.intro ?_ ?_)) <;> (first | rfl | skip)
  · trivial
  rintro k ⟨hk, he⟩
  by_cases h : k < L.length
  · by_cases hx : L.getD k 0 = n
    · repeat (first | (refine step_ops ?_; (first | (refine m_mov (by conv => lhs; whnf) ?_) | (refine m_lss rfl rfl ?_) | (refine m_eql rfl rfl ?_) | (refine m_idx1_ro rfl rfl ?_ ?_; (· omega)) | (refine m_ld_rpi rfl ?_ ?_; (· omega)))) | refine end_ops ?_ | refine seq_ops ?_ | (refine cond_t rfl ?_ ?_; (· first | (refine decide_eq_true ?_; assumption) | (refine decide_eq_true ?_; omega))) | refine skip_then ?_ | refine AW_seq ?_ | refine AW_ret ?_ | refine ret_done ?_ | refine ret_then ?_ | refine AW_block ?_ | refine ret_block ?_ | refine ret_round ?_)
      refine outs_b ?_
      symm
      exact decide_eq_true (hx ▸ getD_mem h)
    · repeat (first | (refine step_ops ?_; (first | (refine m_mov (by conv => lhs; whnf) ?_) | (refine m_lss rfl rfl ?_) | (refine m_eql rfl rfl ?_) | (refine m_add rfl rfl ?_ ?_ ?_; (· omega); (· omega)) | (refine m_idx1_ro rfl rfl ?_ ?_; (· omega)) | (refine m_ld_rpi rfl ?_ ?_; (· omega)))) | refine end_ops ?_ | refine seq_ops ?_ | refine AW_ops ?_ | (refine cond_t rfl ?_ ?_; (· (refine decide_eq_true ?_; omega))) | (refine cond_f rfl ?_ ?_; (· (refine decide_eq_false ?_; assumption))) | refine skip_then ?_ | refine AW_seq ?_ | refine norm_then ?_ | refine AW_block ?_ | refine norm_block ?_ | refine AW_skip ?_)
      refine next_round (k + 1) ⟨by omega, ?_⟩ (weak_st ?_ ?_ rfl rfl) ?_
      · rw [take_snoc L k 0 h, List.mem_append, List.mem_singleton]
        rintro (h1 | h1)
        · exact he h1
        · exact hx h1.symm
      · (repeat' (first | exact trivial | refine And.intro ?_ ?_)) <;> (first | rfl | skip)
      · trivial
      · omega
  · repeat (first | (refine step_ops ?_; (first | (refine m_mov (by conv => lhs; whnf) ?_) | (refine m_lss rfl rfl ?_))) | refine end_ops ?_ | refine seq_ops ?_ | (refine cond_f rfl ?_ ?_; (· (refine decide_eq_false ?_; omega))) | refine AW_seq ?_ | refine AW_ret ?_ | refine ret_done ?_ | refine norm_then ?_ | refine exit_then ?_ | refine exit_round ?_ | refine AW_exit ?_ | refine exit_block ?_)
    refine outs_b ?_
    symm
    rw [List.take_of_length_le (by omega)] at he
    exact decide_eq_false he
theorem l1All_spec (L : List Int) (lo hi : Int) (hL : L.length ≤ 1048576) : Sp Try.prog 69 [ints L, .i lo, .i hi] (.b (decide (∀ x ∈ L, lo ≤ x ∧ x ≤ hi))) := by
  refine spec_of Try.func69 rfl cc69 rfl ?_
  unfold ac69
  repeat (first | (refine step_ops ?_; (first | (refine m_mov (by conv => lhs; whnf) ?_) | (refine m_len_ro rfl ?_))) | refine end_ops ?_ | refine seq_ops ?_ | refine AW_seq ?_ | refine AW_block ?_)
  refine AW_loop (α := Nat) (fun k => k ≤ L.length ∧ ∀ x ∈ L.take k, lo ≤ x ∧ x ≤ hi) (fun k => st [(9, ints L), (1, .i lo), (2, .i hi), (10, .i L.length), (11, .i k)] []) (fun k => L.length - k) 0 (by simp) (weak_st ?_ ?_ rfl rfl) ?_
  · (repeat' (first | exact trivial | refine And.intro ?_ ?_)) <;> (first | rfl | skip)
  · trivial
  rintro k ⟨hk, he⟩
  by_cases h : k < L.length
  · by_cases hx : lo ≤ L.getD k 0 ∧ L.getD k 0 ≤ hi
    · repeat (first | (refine step_ops ?_; (first | (refine m_mov (by conv => lhs; whnf) ?_) | (refine m_lss rfl rfl ?_) | (refine m_idx1_ro rfl rfl ?_ ?_; (· omega)) | (refine m_ld_rpi rfl ?_ ?_; (· omega)))) | refine end_ops ?_ | refine seq_ops ?_ | (refine cond_t rfl ?_ ?_; (· (refine decide_eq_true ?_; omega))) | refine skip_then ?_ | refine AW_seq ?_ | refine AW_block ?_)
      (refine step_ops ?_); (apply m_call (l1In_spec _ _ _)); (· repeat (first | exact lends_nil | (refine lends_cons ?_ ?_; (· exact lend_v))))
      repeat (first | (refine step_ops ?_; (first | (refine m_mov (by conv => lhs; whnf) ?_) | (refine m_add rfl rfl ?_ ?_ ?_; (· omega); (· omega)) | (refine m_not rfl ?_))) | refine end_ops ?_ | refine AW_ops ?_ | (refine cond_f rfl ?_ ?_; (· (refine nf ?_; assumption))) | refine norm_then ?_ | refine norm_block ?_ | refine AW_skip ?_)
      refine next_round (k + 1) ⟨by omega, ?_⟩ (weak_st ?_ ?_ rfl rfl) ?_
      · rw [take_snoc L k 0 h]
        intro x hxm
        rw [List.mem_append, List.mem_singleton] at hxm
        rcases hxm with h1 | rfl
        · exact he x h1
        · exact hx
      · (repeat' (first | exact trivial | refine And.intro ?_ ?_)) <;> (first | rfl | skip)
      · trivial
      · omega
    · repeat (first | (refine step_ops ?_; (first | (refine m_mov (by conv => lhs; whnf) ?_) | (refine m_lss rfl rfl ?_) | (refine m_idx1_ro rfl rfl ?_ ?_; (· omega)) | (refine m_ld_rpi rfl ?_ ?_; (· omega)))) | refine end_ops ?_ | refine seq_ops ?_ | (refine cond_t rfl ?_ ?_; (· (refine decide_eq_true ?_; omega))) | refine skip_then ?_ | refine AW_seq ?_ | refine AW_block ?_)
      (refine step_ops ?_); (apply m_call (l1In_spec _ _ _)); (· repeat (first | exact lends_nil | (refine lends_cons ?_ ?_; (· exact lend_v))))
      repeat (first | (refine step_ops ?_; (first | (refine m_mov (by conv => lhs; whnf) ?_) | (refine m_not rfl ?_))) | refine end_ops ?_ | refine seq_ops ?_ | (refine cond_t rfl ?_ ?_; (· (refine nt ?_; assumption))) | refine AW_ret ?_ | refine ret_done ?_ | refine ret_then ?_ | refine ret_block ?_ | refine ret_round ?_)
      refine outs_b ?_
      symm
      exact decide_eq_false fun hall => hx (hall _ (getD_mem h))
  · repeat (first | (refine step_ops ?_; (first | (refine m_mov (by conv => lhs; whnf) ?_) | (refine m_lss rfl rfl ?_))) | refine end_ops ?_ | refine seq_ops ?_ | (refine cond_f rfl ?_ ?_; (· (refine decide_eq_false ?_; omega))) | refine AW_seq ?_ | refine AW_ret ?_ | refine ret_done ?_ | refine norm_then ?_ | refine exit_then ?_ | refine exit_round ?_ | refine AW_exit ?_ | refine exit_block ?_)
    refine outs_b ?_
    symm
    rw [List.take_of_length_le (by omega)] at he
    exact decide_eq_true he
theorem not_nodup {L : List Int} {k : Nat} (hk : k < L.length) (h : L.getD k 0 ∈ L.take k) : ¬ L.Nodup := by
  intro hn
  rw [← List.take_append_drop k L, List.nodup_append] at hn
  refine hn.2.2 _ h _ ?_ rfl
  have : L.drop k = L.getD k 0 :: L.drop (k + 1) := by rw [List.drop_eq_getElem_cons hk]; simp [hk]
  rw [this]
  exact List.mem_cons_self ..
theorem nodup_snoc {L : List Int} {k : Nat} (hk : k < L.length) (hn : (L.take k).Nodup) (h : L.getD k 0 ∉ L.take k) : (L.take (k + 1)).Nodup := by
  rw [take_snoc L k 0 hk, List.nodup_append]
  refine ⟨hn, by simp, ?_⟩
  intro a ha b hb hab
  rw [List.mem_singleton] at hb
  subst hb
  exact h (hab ▸ ha)
theorem implIsExchange_spec (L : List Int) (hL : L.length ≤ 1048576) : Sp Try.prog 45 [ints L] (.b (decide (IsEx L))) := by
  refine spec_of Try.func45 rfl cc45 rfl ?_
  unfold ac45
  by_cases hc : 1 ≤ (L.length : Int) ∧ (L.length : Int) ≤ 12
  · have hd := areDifferent_spec L L.length hL (by omega)
    have e : decide (IsEx L) = decide ((∀ x ∈ L, 0 ≤ x ∧ x < (L.length : Int)) ∧ L.Nodup) := decide_eq_decide.2 ⟨fun he => he.2.2, fun he => ⟨by omega, by omega, he⟩⟩
    rw [e]
    repeat (first | (refine step_ops ?_; (first | (refine m_mov (by conv => lhs; whnf) ?_) | (refine m_len_ro rfl ?_))) | refine end_ops ?_ | refine seq_ops ?_)
    (refine step_ops ?_); (apply m_call (isGuestCount_spec _)); (· repeat (first | exact lends_nil | (refine lends_cons ?_ ?_; (· exact lend_v))))
    repeat (refine step_ops ?_; ((try (refine g_yes rfl ?_ ?_; (· (refine decide_eq_true ?_; assumption)))); (first | (refine m_mov (by conv => lhs; whnf) ?_) | (refine m_len_ro rfl ?_))))
    (refine step_ops ?_); (refine g_yes rfl ?_ ?_; (· first | ((refine decide_eq_true ?_; assumption)) | (fail)); (apply m_call (hd))); (· repeat (first | exact lends_nil | (refine lends_cons ?_ ?_; (· (first | exact lend_v | (refine lend_ints ?_; first | rfl | omega))))))
    repeat (first | (refine step_ops ?_; (first | (refine m_mov (by conv => lhs; whnf) ?_) | (refine m_pick_t rfl ?_ (by conv => lhs; whnf) ?_; (· (refine decide_eq_true ?_; assumption))))) | refine end_ops ?_ | refine AW_ret ?_ | refine ret_done ?_)
    exact outs_b rfl
  · repeat (first | (refine step_ops ?_; (first | (refine m_mov (by conv => lhs; whnf) ?_) | (refine m_len_ro rfl ?_))) | refine end_ops ?_ | refine seq_ops ?_)
    (refine step_ops ?_); (apply m_call (isGuestCount_spec _)); (· repeat (first | exact lends_nil | (refine lends_cons ?_ ?_; (· exact lend_v))))
    repeat (first | (refine step_ops ?_; (first | (first | (refine m_mov (by conv => lhs; whnf) ?_) | (refine m_pick_f rfl ?_ (by conv => lhs; whnf) ?_; (· (refine decide_eq_false ?_; assumption)))) | (refine g_noT rfl ?_ ?_; (· (refine decide_eq_false ?_; assumption))))) | refine end_ops ?_ | refine AW_ret ?_ | refine ret_done ?_)
    refine outs_b ?_
    symm
    exact decide_eq_false fun he => hc ⟨by have := he.1; omega, by have := he.2.1; omega⟩
theorem exGood_spec (L : List Int) (hL : L.length ≤ 1048576) : Sp Try.prog 55 [ints L] (.b (decide (IsEx L))) := by
  refine spec_of Try.func55 rfl cc55 rfl ?_
  unfold ac55
  by_cases hc : 1 ≤ (L.length : Int) ∧ (L.length : Int) ≤ 12
  · by_cases hall : ∀ x ∈ L, 0 ≤ x ∧ x ≤ (L.length : Int) - 1
    · repeat (first | (refine step_ops ?_; (first | (refine m_mov (by conv => lhs; whnf) ?_) | (refine m_len_ro rfl ?_))) | refine end_ops ?_ | refine seq_ops ?_ | refine AW_seq ?_)
      (refine step_ops ?_); (apply m_call (l1In_spec _ _ _)); (· repeat (first | exact lends_nil | (refine lends_cons ?_ ?_; (· exact lend_v))))
      repeat (refine step_ops ?_; ((try (refine g_yes rfl ?_ ?_; (· (simp [*]; done)))); (first | (refine m_mov (by conv => lhs; whnf) ?_) | (refine m_sub rfl rfl ?_ ?_ ?_; (· omega); (· omega)) | (refine m_not rfl ?_) | (refine m_len_ro rfl ?_))))
      (refine step_ops ?_); (refine g_yes rfl ?_ ?_; (· first | ((simp [*]; done)) | (fail)); (apply m_call (l1All_spec _ _ _ hL))); (· repeat (first | exact lends_nil | (refine lends_cons ?_ ?_; (· (first | exact lend_v | (refine lend_ints ?_; first | rfl | omega))))))
      repeat (first | (refine step_ops ?_; ((try (refine g_yes rfl ?_ ?_; (· (simp [*]; done)))); (first | (refine m_mov (by conv => lhs; whnf) ?_) | (refine m_not rfl ?_) | (refine m_len_ro rfl ?_) | (refine m_pick_f rfl ?_ (by conv => lhs; whnf) ?_; (· (refine nf ?_; assumption)))))) | refine end_ops ?_ | refine seq_ops ?_ | (refine cond_f rfl ?_ ?_; (· (refine nf ?_; assumption))) | refine skip_then ?_ | refine AW_seq ?_ | refine AW_block ?_)
      refine AW_loop (α := Nat) (fun k => k ≤ L.length ∧ (L.take k).Nodup) (fun k => st [(0, ints L), (17, ints L), (18, .i L.length), (19, .i k)] []) (fun k => L.length - k) 0 (by simp) (weak_st ?_ ?_ rfl rfl) ?_
      · (repeat' (first | exact trivial | refine And.intro ?_ ?_)) <;> (first | rfl | skip)
      · trivial
      rintro k ⟨hk, hn⟩
      by_cases h : k < L.length
      · have hlt : (L.take k).length ≤ 1048576 := by simp; omega
        by_cases hm : L.getD k 0 ∈ L.take k
        · repeat (first | (refine step_ops ?_; (first | (refine m_mov (by conv => lhs; whnf) ?_) | (refine m_lss rfl rfl ?_) | (refine m_idx1_ro rfl rfl ?_ ?_; (· omega)) | (refine m_ld_rpi rfl ?_ ?_; (· omega)) | (refine m_cut_hi rfl rfl ?_ ?_ ?_; (· first | rfl | omega | simp); (· first | omega | (simp; omega))))) | refine end_ops ?_ | refine seq_ops ?_ | (refine cond_t rfl ?_ ?_; (· (refine decide_eq_true ?_; omega))) | refine skip_then ?_ | refine AW_seq ?_ | refine AW_block ?_)
          (refine step_ops ?_); (apply m_call (l1Has_spec _ _ hlt)); (· repeat (first | exact lends_nil | (refine lends_cons ?_ ?_; (· (first | exact lend_v | (refine lend_ints ?_; first | rfl | omega))))))
          repeat (first | (refine step_ops ?_; (refine m_mov (by conv => lhs; whnf) ?_)) | refine end_ops ?_ | refine seq_ops ?_ | (refine cond_t rfl ?_ ?_; (· (refine decide_eq_true ?_; assumption))) | refine AW_ret ?_ | refine ret_done ?_ | refine ret_then ?_ | refine ret_block ?_ | refine ret_round ?_)
          refine outs_b ?_
          symm
          exact decide_eq_false fun he => not_nodup h hm he.2.2.2
        · repeat (first | (refine step_ops ?_; (first | (refine m_mov (by conv => lhs; whnf) ?_) | (refine m_lss rfl rfl ?_) | (refine m_idx1_ro rfl rfl ?_ ?_; (· omega)) | (refine m_ld_rpi rfl ?_ ?_; (· omega)) | (refine m_cut_hi rfl rfl ?_ ?_ ?_; (· first | rfl | omega | simp); (· first | omega | (simp; omega))))) | refine end_ops ?_ | refine seq_ops ?_ | (refine cond_t rfl ?_ ?_; (· (refine decide_eq_true ?_; omega))) | refine skip_then ?_ | refine AW_seq ?_ | refine AW_block ?_)
          (refine step_ops ?_); (apply m_call (l1Has_spec _ _ hlt)); (· repeat (first | exact lends_nil | (refine lends_cons ?_ ?_; (· (first | exact lend_v | (refine lend_ints ?_; first | rfl | omega))))))
          repeat (first | (refine step_ops ?_; (first | (refine m_mov (by conv => lhs; whnf) ?_) | (refine m_add rfl rfl ?_ ?_ ?_; (· omega); (· omega)))) | refine end_ops ?_ | refine AW_ops ?_ | (refine cond_f rfl ?_ ?_; (· (refine decide_eq_false ?_; assumption))) | refine norm_then ?_ | refine norm_block ?_ | refine AW_skip ?_)
          refine next_round (k + 1) ⟨by omega, nodup_snoc h hn hm⟩ (weak_st ?_ ?_ rfl rfl) ?_
          · (repeat' (first | exact trivial | refine And.intro ?_ ?_)) <;> (first | rfl | skip)
          · trivial
          · omega
      · repeat (first | (refine step_ops ?_; (first | (refine m_mov (by conv => lhs; whnf) ?_) | (refine m_lss rfl rfl ?_))) | refine end_ops ?_ | refine seq_ops ?_ | (refine cond_f rfl ?_ ?_; (· (refine decide_eq_false ?_; omega))) | refine AW_seq ?_ | refine AW_ret ?_ | refine ret_done ?_ | refine norm_then ?_ | refine exit_then ?_ | refine exit_round ?_ | refine AW_exit ?_ | refine exit_block ?_)
        refine outs_b ?_
        symm
        rw [List.take_of_length_le (by omega)] at hn
        exact decide_eq_true ⟨by omega, by omega, fun x hx => ⟨(hall x hx).1, by have := (hall x hx).2; omega⟩, hn⟩
    · repeat (first | (refine step_ops ?_; (first | (refine m_mov (by conv => lhs; whnf) ?_) | (refine m_len_ro rfl ?_))) | refine end_ops ?_ | refine seq_ops ?_ | refine AW_seq ?_)
      (refine step_ops ?_); (apply m_call (l1In_spec _ _ _)); (· repeat (first | exact lends_nil | (refine lends_cons ?_ ?_; (· exact lend_v))))
      repeat (refine step_ops ?_; ((try (refine g_yes rfl ?_ ?_; (· (simp [*]; done)))); (first | (refine m_mov (by conv => lhs; whnf) ?_) | (refine m_sub rfl rfl ?_ ?_ ?_; (· omega); (· omega)) | (refine m_not rfl ?_) | (refine m_len_ro rfl ?_))))
      (refine step_ops ?_); (refine g_yes rfl ?_ ?_; (· first | ((simp [*]; done)) | (fail)); (apply m_call (l1All_spec _ _ _ hL))); (· repeat (first | exact lends_nil | (refine lends_cons ?_ ?_; (· (first | exact lend_v | (refine lend_ints ?_; first | rfl | omega))))))
      repeat (first | (refine step_ops ?_; ((try (refine g_yes rfl ?_ ?_; (· (simp [*]; done)))); (first | (refine m_mov (by conv => lhs; whnf) ?_) | (refine m_not rfl ?_) | (refine m_pick_f rfl ?_ (by conv => lhs; whnf) ?_; (· (refine nf ?_; assumption)))))) | refine end_ops ?_ | refine seq_ops ?_ | (refine cond_t rfl ?_ ?_; (· (refine nt ?_; assumption))) | refine AW_ret ?_ | refine ret_done ?_ | refine ret_then ?_)
      refine outs_b ?_
      symm
      exact decide_eq_false fun he => hall fun x hx => ⟨(he.2.2.1 x hx).1, by have := (he.2.2.1 x hx).2; omega⟩
  · repeat (first | (refine step_ops ?_; (first | (refine m_mov (by conv => lhs; whnf) ?_) | (refine m_len_ro rfl ?_))) | refine end_ops ?_ | refine seq_ops ?_ | refine AW_seq ?_)
    (refine step_ops ?_); (apply m_call (l1In_spec _ _ _)); (· repeat (first | exact lends_nil | (refine lends_cons ?_ ?_; (· exact lend_v))))
    repeat (first | (refine step_ops ?_; (first | (first | (refine m_mov (by conv => lhs; whnf) ?_) | (refine m_not rfl ?_) | (refine m_pick_t rfl ?_ (by conv => lhs; whnf) ?_; (· (refine nt ?_; assumption)))) | (refine g_noF rfl ?_ ?_; (· (refine nt ?_; assumption))))) | refine end_ops ?_ | refine seq_ops ?_ | (refine cond_t rfl ?_ ?_; (· rfl)) | refine AW_ret ?_ | refine ret_done ?_ | refine ret_then ?_)
    refine outs_b ?_
    symm
    exact decide_eq_false fun he => hc ⟨by have := he.1; omega, by have := he.2.1; omega⟩
end Go.Proofs.Ytbeflnnejofleaa
namespace Go.Proofs.Ytbeflnnejofleaa
variable [Go.Am.CodeBlk]
open Go.Am
attribute [local irreducible] AW Outs Weak Lends Lend Sp aops atree aop1 Then Round InBlock Done
/-- What is written back behind k guests. -/
def backW (L : List Int) (k : Nat) : List Int := (List.range k).foldl (fun acc (i : Nat) => acc.set (L.getD i 0).toNat (i : Int)) (List.replicate L.length 0)
theorem backW_zero (L : List Int) : backW L 0 = List.replicate L.length 0 := rfl
theorem backW_succ (L : List Int) (k i : Nat) (hi : L.getD k 0 = i) : backW L (k + 1) = (backW L k).set i (k : Int) := by
  unfold backW; rw [List.range_succ, List.foldl_append, List.foldl_cons, List.foldl_nil, hi]; rfl
theorem backW_len (L : List Int) (k : Nat) : (backW L k).length = L.length := by
  induction k with
  | zero => simp [backW]
  | succ k ih => unfold backW at ih ⊢; rw [List.range_succ, List.foldl_append, List.foldl_cons, List.foldl_nil, List.length_set]; exact ih
def backRes (L : List Int) : List Int := if IsEx L then backW L L.length else []
theorem backRes_le (L : List Int) : (backRes L).length ≤ L.length := by
  unfold backRes; split
  · rw [backW_len]; exact Nat.le_refl _
  · simp
theorem implBackExchange_spec (L : List Int) (hL : L.length ≤ 1048576) : Sp Try.prog 22 [ints L] (.tup [newInts (backRes L), .b (decide (IsEx L))]) := by
  refine spec_of Try.func22 rfl cc22 rfl ?_
  unfold ac22
  by_cases hex : IsEx L
  · have e : backRes L = backW L L.length := if_pos hex
    repeat (first | (refine step_ops ?_; (first | (refine m_mov (by conv => lhs; whnf) ?_) | (refine m_nils ?_))) | refine end_ops ?_ | refine seq_ops ?_ | refine AW_seq ?_)
    (refine step_ops ?_); (apply m_call (implIsExchange_spec _ hL)); (· repeat (first | exact lends_nil | (refine lends_cons ?_ ?_; (· (refine lend_ints ?_; first | rfl | omega)))))
    repeat (first | (refine step_ops ?_; (first | (refine m_mov (by conv => lhs; whnf) ?_) | (refine m_not rfl ?_) | (refine m_len_ro rfl ?_))) | refine end_ops ?_ | refine seq_ops ?_ | (refine cond_f rfl ?_ ?_; (· (refine nf ?_; assumption))) | refine skip_then ?_)
    refine step_ops ?_
    refine m_mk rfl rfl ?_ ?_ ?_
    · omega
    · omega
    repeat (first | (refine step_ops ?_; (first | (refine m_mov (by conv => lhs; whnf) ?_) | (refine m_len_ro rfl ?_))) | refine end_ops ?_ | refine seq_ops ?_ | refine AW_seq ?_ | refine AW_block ?_)
    refine AW_loop (α := Nat) (fun k => k ≤ L.length) (fun k => st [(13, ints L), (14, .i L.length), (15, .i k), (4, .sl 12 1 0 L.length)] [(12, (true, (backW L k).map AV.i))]) (fun k => L.length - k) 0 (by omega) (weak_st ?_ ?_ rfl rfl) ?_
    · (repeat' (first | exact trivial | refine And.intro ?_ ?_)) <;> (first | rfl | skip)
    · refine ⟨?_, trivial⟩
      show some (true, (List.replicate L.length (List.map AV.v [Value.int IntKind.i64 0])).flatten) = _
      simp [backW_zero]
    intro k hk
    by_cases h : k < L.length
    · have hx := hex.2.2.1 _ (getD_mem h)
      obtain ⟨i, hi⟩ := Int.eq_ofNat_of_zero_le hx.1
      have hin : i < L.length := by omega
      have hl := backW_len L k
      repeat (first | (refine step_ops ?_; (first | (refine m_mov (by conv => lhs; whnf) ?_) | (refine m_lss rfl rfl ?_) | (refine m_add rfl rfl ?_ ?_ ?_; (· omega); (· omega)) | (refine m_idx1_ro rfl rfl ?_ ?_; (· omega)) | (apply m_idx1_slj; (· rfl); (· rfl); (· assumption); (· omega)) | (refine m_ld_rpi rfl ?_ ?_; (· omega)) | (apply m_st; (· rfl); (· rfl); (· rfl); (· first | omega | (simp; done) | (simp; omega)); (· rfl)))) | refine end_ops ?_ | refine seq_ops ?_ | refine AW_ops ?_ | (refine cond_t rfl ?_ ?_; (· (refine decide_eq_true ?_; omega))) | refine skip_then ?_ | refine AW_seq ?_ | refine norm_then ?_ | refine AW_block ?_ | refine norm_block ?_)
      refine next_round (k + 1) ?_ (weak_st ?_ ?_ rfl rfl) ?_
      · omega
      · (repeat' (first | exact trivial | refine And.intro ?_ ?_)) <;> (first | rfl | skip)
      · refine ⟨?_, trivial⟩
        show some (true, ((backW L k).map AV.i).set i (AV.i k)) = _
        rw [backW_succ L k i hi, List.map_set]
      · omega
    · repeat (first | (refine step_ops ?_; (first | (refine m_mov (by conv => lhs; whnf) ?_) | (refine m_lss rfl rfl ?_))) | refine end_ops ?_ | refine seq_ops ?_ | (refine cond_f rfl ?_ ?_; (· (refine decide_eq_false ?_; omega))) | refine AW_seq ?_ | refine AW_ret ?_ | refine ret_done ?_ | refine norm_then ?_ | refine exit_then ?_ | refine exit_round ?_ | refine AW_exit ?_ | refine exit_block ?_)
      obtain rfl : k = L.length := by omega
      refine outs_tup2 (outs_ints rfl (by rw [e]) (by rw [e, backW_len])) (outs_b ?_)
      simp [hex]
  · have e : backRes L = [] := if_neg hex
    repeat (first | (refine step_ops ?_; (first | (refine m_mov (by conv => lhs; whnf) ?_) | (refine m_nils ?_))) | refine end_ops ?_ | refine seq_ops ?_ | refine AW_seq ?_)
    (refine step_ops ?_); (apply m_call (implIsExchange_spec _ hL)); (· repeat (first | exact lends_nil | (refine lends_cons ?_ ?_; (· (refine lend_ints ?_; first | rfl | omega)))))
    repeat (first | (refine step_ops ?_; (first | (refine m_mov (by conv => lhs; whnf) ?_) | (refine m_not rfl ?_) | (refine m_nils ?_))) | refine end_ops ?_ | refine seq_ops ?_ | (refine cond_t rfl ?_ ?_; (· (refine nt ?_; assumption))) | refine AW_ret ?_ | refine ret_done ?_ | refine ret_then ?_)
    refine outs_tup2 (outs_ints rfl (by rw [e]; rfl) (by rw [e]; rfl)) (outs_b ?_)
    simp [hex]
end Go.Proofs.Ytbeflnnejofleaa
namespace Go.Am
variable [Go.Am.CodeBlk]
/-- Families read on from n that were told: how many are told behind them. -/
def famFold : List Int → Int → Option Int
  | [], n => some n
  | f :: l, n => if 0 ≤ f ∧ f ≤ n then famFold l (if f = n then n + 1 else n) else none
theorem famFold_append (l : List Int) (m : List Int) : ∀ n : Int, famFold (l ++ m) n = (famFold l n).bind (famFold m) := by
  induction l with
  | nil => intro n; rfl
  | cons f l ih =>
    intro n
    simp only [List.cons_append, famFold]
    split
    · exact ih _
    · rfl
theorem famFold_snoc (l : List Int) (f n : Int) : famFold (l ++ [f]) n = (famFold l n).bind fun m => if 0 ≤ f ∧ f ≤ m then some (if f = m then m + 1 else m) else none := by
  rw [famFold_append]; rfl
theorem famFold_le : ∀ (l : List Int) (n m : Int), famFold l n = some m → n ≤ m ∧ m ≤ n + l.length
  | [], n, m, h => by simp only [famFold, Option.some.injEq] at h; simp; omega
  | f :: l, n, m, h => by
    simp only [famFold] at h
    split at h
    · have := famFold_le l _ _ h
      simp only [List.length_cons]
      split at this <;> omega
    · cases h
def IsFam (L : List Int) : Prop := 1 ≤ L.length ∧ L.length ≤ 9 ∧ (famFold L 0).isSome = true
instance (L : List Int) : Decidable (IsFam L) := inferInstanceAs (Decidable (_ ∧ _ ∧ _))
/-- How many families there are. -/
def famN (L : List Int) : Int := (famFold L 0).getD 0
theorem fam_fold {L : List Int} (h : IsFam L) : famFold L 0 = some (famN L) := by
  obtain ⟨n, hn⟩ := Option.isSome_iff_exists.1 h.2.2
  rw [famN, hn]; rfl
theorem famFold_take {L : List Int} {m : Int} (h : famFold L 0 = some m) (k : Nat) : ∃ n, famFold (L.take k) 0 = some n := by
  rw [← List.take_append_drop k L, famFold_append, Option.bind_eq_some_iff] at h
  obtain ⟨n, h1, _⟩ := h
  exact ⟨n, h1⟩
/-- Families are told from 0 up to how many there are, each at least once. -/
theorem famFold_mem : ∀ (l : List Int) (n m : Int), famFold l n = some m → (∀ f ∈ l, 0 ≤ f ∧ f < m) ∧ ∀ f, n ≤ f → f < m → f ∈ l
  | [], n, m, h => by
    simp only [famFold, Option.some.injEq] at h
    refine ⟨by simp, fun f h1 h2 => by omega⟩
  | f :: l, n, m, h => by
    simp only [famFold] at h
    split at h
    · rename_i hf
      have hl := famFold_le _ _ _ h
      obtain ⟨h1, h2⟩ := famFold_mem l _ _ h
      refine ⟨fun g hg => ?_, fun g hg hgm => ?_⟩
      · rcases List.mem_cons.1 hg with rfl | hg
        · split at hl <;> omega
        · exact h1 g hg
      · by_cases hgf : g = f
        · rw [hgf]; exact List.mem_cons_self ..
        · refine List.mem_cons_of_mem _ (h2 g ?_ hgm)
          split <;> omega
    · cases h
theorem fam_range {L : List Int} (h : IsFam L) {f : Int} (hf : f ∈ L) : 0 ≤ f ∧ f < famN L := (famFold_mem _ _ _ (fam_fold h)).1 f hf
theorem fam_each {L : List Int} (h : IsFam L) {f : Int} (h0 : 0 ≤ f) (h1 : f < famN L) : f ∈ L := (famFold_mem _ _ _ (fam_fold h)).2 f h0 h1
theorem famN_le {L : List Int} (h : IsFam L) : 1 ≤ famN L ∧ famN L ≤ L.length := by
  have h1 := famFold_le _ _ _ (fam_fold h)
  obtain ⟨f, l, rfl⟩ : ∃ f l, L = f :: l := by
    cases L with
    | nil => have := h.1; simp at this
    | cons f l => exact ⟨f, l, rfl⟩
  have := fam_range h (List.mem_cons_self (a := f) (l := l))
  omega
/-- How often a number stands in a list, asx an integer. -/
def cntI (L : List Int) (f : Int) : Int := (L.count f : Nat)
theorem cntI_snoc (L : List Int) (x f : Int) : cntI (L ++ [x]) f = cntI L f + if x = f then 1 else 0 := by
  unfold cntI
  rw [List.count_append, List.count_singleton]
  by_cases h : x = f
  · subst h; simp
  · simp [h]
theorem cntI_le (L : List Int) (f : Int) : 0 ≤ cntI L f ∧ cntI L f ≤ L.length := by
  unfold cntI
  have := List.count_le_length (a := f) (l := L)
  omega
/-- The sizes of the families 0 up to m - 1. -/
def sizesOf (L : List Int) (m : Nat) : List Int := (List.range m).map fun (f : Nat) => cntI L f
theorem sizesOf_len (L : List Int) (m : Nat) : (sizesOf L m).length = m := by simp [sizesOf]
theorem sizesOf_get (L : List Int) (m : Nat) {f : Nat} (h : f < m) : (sizesOf L m).getD f 0 = cntI L f := by simp [sizesOf, h]
theorem sizesOf_snoc (L : List Int) (m : Nat) {f : Nat} (h : f < m) : (sizesOf L m).set f ((sizesOf L m).getD f 0 + 1) = sizesOf (L ++ [(f : Int)]) m := by
  rw [sizesOf_get _ _ h]
  apply List.ext_getElem?
  intro j
  rw [List.getElem?_set]
  by_cases hj : j < m
  · by_cases hf : f = j
    · subst hf
      simp [sizesOf, h, cntI_snoc]
    · have : ¬ (f : Int) = (j : Int) := by omega
      simp [sizesOf, hj, hf, cntI_snoc, this]
  · by_cases hf : f = j
    · omega
    · simp [sizesOf, hj, hf]
theorem cntI_zero {L : List Int} {f : Int} (h : f ∉ L) : cntI L f = 0 := by
  unfold cntI; rw [List.count_eq_zero_of_not_mem h]; rfl
theorem sizesOf_new (L : List Int) (m : Nat) (h : ∀ f ∈ L, f < m) : sizesOf L m ++ [1] = sizesOf (L ++ [(m : Int)]) (m + 1) := by
  have e : cntI L m = 0 := cntI_zero fun hm => by have := h _ hm; omega
  unfold sizesOf
  rw [List.range_succ, List.map_append, List.map_singleton, cntI_snoc, e]
  congr 1
  · refine List.map_congr_left fun f hf => ?_
    rw [List.mem_range] at hf
    have : ¬ (m : Int) = (f : Int) := by omega
    rw [cntI_snoc, if_neg this, Int.add_zero]
  · simp
/-- The greatest number of a list. -/
def maxI : List Int → Int
  | [] => 0
  | x :: l => l.foldl (fun a b => if b > a then b else a) x
theorem maxI_snoc (L : List Int) (x : Int) (h : L ≠ []) : maxI (L ++ [x]) = if x > maxI L then x else maxI L := by
  cases L with
  | nil => exact absurd rfl h
  | cons y l => simp [maxI, List.foldl_append]
theorem foldl_max (l : List Int) : ∀ x : Int, x ≤ l.foldl (fun a b => if b > a then b else a) x ∧ (∀ y ∈ l, y ≤ l.foldl (fun a b => if b > a then b else a) x) ∧
    (l.foldl (fun a b => if b > a then b else a) x = x ∨ l.foldl (fun a b => if b > a then b else a) x ∈ l) := by
  induction l with
  | nil => intro x; simp
  | cons z l ih =>
    intro x
    simp only [List.foldl_cons]
    obtain ⟨h1, h2, h3⟩ := ih (if z > x then z else x)
    generalize l.foldl (fun a b => if b > a then b else a) (if z > x then z else x) = r at h1 h2 h3 ⊢
    refine ⟨by split at h1 <;> omega, fun y hy => ?_, ?_⟩
    · rcases List.mem_cons.1 hy with rfl | hy
      · split at h1 <;> omega
      · exact h2 y hy
    · rcases h3 with h3 | h3
      · rw [h3]
        split
        · exact .inr (List.mem_cons_self ..)
        · exact .inl rfl
      · exact .inr (List.mem_cons_of_mem _ h3)
theorem maxI_ge {L : List Int} {x : Int} (h : x ∈ L) : x ≤ maxI L := by
  cases L with
  | nil => simp at h
  | cons y l =>
    obtain ⟨h1, h2, _⟩ := foldl_max l y
    rcases List.mem_cons.1 h with rfl | h
    · exact h1
    · exact h2 x h
theorem maxI_mem {L : List Int} (h : L ≠ []) : maxI L ∈ L := by
  cases L with
  | nil => exact absurd rfl h
  | cons y l =>
    obtain ⟨_, _, h3⟩ := foldl_max l y
    show l.foldl _ y ∈ _
    rcases h3 with h3 | h3
    · rw [h3]; exact List.mem_cons_self ..
    · exact List.mem_cons_of_mem _ h3
theorem maxI_eq {L : List Int} {m : Int} (h : m ∈ L) (hm : ∀ x ∈ L, x ≤ m) : maxI L = m := by
  have h1 := maxI_ge h
  have h2 := hm _ (maxI_mem (L := L) (by intro e; rw [e] at h; simp at h))
  omega
theorem fam_max {L : List Int} (h : IsFam L) : maxI L = famN L - 1 := by
  have := famN_le h
  exact maxI_eq (fam_each h (by omega) (by omega)) fun x hx => by have := fam_range h hx; omega
end Go.Am
namespace Go.Proofs.Ytbeflnnejofleaa
variable [Go.Am.CodeBlk]
open Go.Am
attribute [local irreducible] AW Outs Weak Lends Lend Sp aops atree aop1 Then Round InBlock Done
theorem implAreFam_spec (L : List Int) (hL : L.length ≤ 1048576) : Sp Try.prog 44 [ints L] (.b (decide (IsFam L))) := by
  refine spec_of Try.func44 rfl cc44 rfl ?_
  unfold ac44
  by_cases hc : 1 ≤ (L.length : Int)
  · by_cases hc2 : (L.length : Int) ≤ 9
    · repeat (first | (refine step_ops ?_; ((try (refine g_yes rfl ?_ ?_; (· (simp [*]; done)))); (first | (refine m_mov (by conv => lhs; whnf) ?_) | (refine m_lss rfl rfl ?_) | (refine m_gtr rfl rfl ?_) | (refine m_len_ro rfl ?_) | (refine m_pick_f rfl ?_ (by conv => lhs; whnf) ?_; (· (refine decide_eq_false ?_; omega)))))) | refine end_ops ?_ | refine seq_ops ?_ | (refine cond_f rfl ?_ ?_; (· (refine decide_eq_false ?_; omega))) | refine skip_then ?_ | refine AW_seq ?_ | refine AW_block ?_)
      refine AW_loop (α := Nat × Int) (fun a => a.1 ≤ L.length ∧ famFold (L.take a.1) 0 = some a.2) (fun a => st [(0, ints L), (3, .i a.2), (14, ints L), (15, .i L.length), (16, .i a.1)] []) (fun a => L.length - a.1) (0, 0) (by simp [famFold]) (weak_st ?_ ?_ rfl rfl) ?_
      · (repeat' (first | exact trivial | refine And.intro ?_ ?_)) <;> (first | rfl | skip)
      · trivial
      rintro ⟨k, n⟩ ⟨hk, hn⟩
      have hle := famFold_le _ _ _ hn
      have hkl : (L.take k).length = k := List.length_take_of_le hk
      dsimp only at hk hn hle ⊢
      by_cases h : k < L.length
      · by_cases h1 : 0 ≤ L.getD k 0
        · by_cases h2 : L.getD k 0 ≤ n
          · by_cases h3 : L.getD k 0 = n
            · repeat (first | (refine step_ops ?_; ((try (refine g_yes rfl ?_ ?_; (· (refine decide_eq_false ?_; omega)))); (first | (refine m_mov (by conv => lhs; whnf) ?_) | (refine m_lss rfl rfl ?_) | (refine m_gtr rfl rfl ?_) | (refine m_eql rfl rfl ?_) | (refine m_add rfl rfl ?_ ?_ ?_; (· omega); (· omega)) | (refine m_idx1_ro rfl rfl ?_ ?_; (· omega)) | (refine m_ld_rpi rfl ?_ ?_; (· omega)) | (refine m_pick_f rfl ?_ (by conv => lhs; whnf) ?_; (· (refine decide_eq_false ?_; omega)))))) | refine end_ops ?_ | refine seq_ops ?_ | refine AW_ops ?_ | (refine cond_t rfl ?_ ?_; (· first | (refine decide_eq_true ?_; assumption) | (refine decide_eq_true ?_; omega))) | (refine cond_f rfl ?_ ?_; (· (refine decide_eq_false ?_; omega))) | refine skip_then ?_ | refine AW_seq ?_ | refine norm_then ?_ | refine AW_block ?_ | refine norm_block ?_)
              refine next_round (k + 1, n + 1) ⟨by omega, ?_⟩ (weak_st ?_ ?_ rfl rfl) ?_
              · rw [take_snoc L k 0 h, famFold_snoc, hn, Option.bind_some, if_pos ⟨h1, h2⟩, if_pos h3]
              · (repeat' (first | exact trivial | refine And.intro ?_ ?_)) <;> (first | rfl | skip)
              · trivial
              · omega
            · repeat (first | (refine step_ops ?_; ((try (refine g_yes rfl ?_ ?_; (· (refine decide_eq_false ?_; omega)))); (first | (refine m_mov (by conv => lhs; whnf) ?_) | (refine m_lss rfl rfl ?_) | (refine m_gtr rfl rfl ?_) | (refine m_eql rfl rfl ?_) | (refine m_add rfl rfl ?_ ?_ ?_; (· omega); (· omega)) | (refine m_idx1_ro rfl rfl ?_ ?_; (· omega)) | (refine m_ld_rpi rfl ?_ ?_; (· omega)) | (refine m_pick_f rfl ?_ (by conv => lhs; whnf) ?_; (· (refine decide_eq_false ?_; omega)))))) | refine end_ops ?_ | refine seq_ops ?_ | refine AW_ops ?_ | (refine cond_t rfl ?_ ?_; (· (refine decide_eq_true ?_; omega))) | (refine cond_f rfl ?_ ?_; (· first | (refine decide_eq_false ?_; assumption) | (refine decide_eq_false ?_; omega))) | refine skip_then ?_ | refine AW_seq ?_ | refine norm_then ?_ | refine AW_block ?_ | refine norm_block ?_ | refine AW_skip ?_)
              refine next_round (k + 1, n) ⟨by omega, ?_⟩ (weak_st ?_ ?_ rfl rfl) ?_
              · rw [take_snoc L k 0 h, famFold_snoc, hn, Option.bind_some, if_pos ⟨h1, h2⟩, if_neg h3]
              · (repeat' (first | exact trivial | refine And.intro ?_ ?_)) <;> (first | rfl | skip)
              · trivial
              · omega
          · repeat (first | (refine step_ops ?_; ((try (refine g_yes rfl ?_ ?_; (· (refine decide_eq_false ?_; omega)))); (first | (refine m_mov (by conv => lhs; whnf) ?_) | (refine m_lss rfl rfl ?_) | (refine m_gtr rfl rfl ?_) | (refine m_idx1_ro rfl rfl ?_ ?_; (· omega)) | (refine m_ld_rpi rfl ?_ ?_; (· omega)) | (refine m_pick_f rfl ?_ (by conv => lhs; whnf) ?_; (· (refine decide_eq_false ?_; omega)))))) | refine end_ops ?_ | refine seq_ops ?_ | (refine cond_t rfl ?_ ?_; (· (refine decide_eq_true ?_; omega))) | refine skip_then ?_ | refine AW_seq ?_ | refine AW_ret ?_ | refine ret_done ?_ | refine ret_then ?_ | refine AW_block ?_ | refine ret_block ?_ | refine ret_round ?_)
            refine outs_b ?_
            symm
            refine decide_eq_false fun hf => ?_
            obtain ⟨m, hm⟩ := famFold_take (fam_fold hf) (k + 1)
            rw [take_snoc L k 0 h, famFold_snoc, hn, Option.bind_some, if_neg (by omega)] at hm
            cases hm
        · repeat (first | (refine step_ops ?_; (first | (first | (refine m_mov (by conv => lhs; whnf) ?_) | (refine m_lss rfl rfl ?_) | (refine m_idx1_ro rfl rfl ?_ ?_; (· omega)) | (refine m_ld_rpi rfl ?_ ?_; (· omega)) | (refine m_pick_t rfl ?_ (by conv => lhs; whnf) ?_; (· (refine decide_eq_true ?_; omega)))) | (refine g_noF rfl ?_ ?_; (· (refine decide_eq_true ?_; omega))))) | refine end_ops ?_ | refine seq_ops ?_ | (refine cond_t rfl ?_ ?_; (· first | rfl | (refine decide_eq_true ?_; omega))) | refine skip_then ?_ | refine AW_seq ?_ | refine AW_ret ?_ | refine ret_done ?_ | refine ret_then ?_ | refine AW_block ?_ | refine ret_block ?_ | refine ret_round ?_)
          refine outs_b ?_
          symm
          refine decide_eq_false fun hf => ?_
          obtain ⟨m, hm⟩ := famFold_take (fam_fold hf) (k + 1)
          rw [take_snoc L k 0 h, famFold_snoc, hn, Option.bind_some, if_neg (by omega)] at hm
          cases hm
      · repeat (first | (refine step_ops ?_; (first | (refine m_mov (by conv => lhs; whnf) ?_) | (refine m_lss rfl rfl ?_))) | refine end_ops ?_ | refine seq_ops ?_ | (refine cond_f rfl ?_ ?_; (· (refine decide_eq_false ?_; omega))) | refine AW_seq ?_ | refine AW_ret ?_ | refine ret_done ?_ | refine norm_then ?_ | refine exit_then ?_ | refine exit_round ?_ | refine AW_exit ?_ | refine exit_block ?_)
        refine outs_b ?_
        symm
        rw [List.take_of_length_le (by omega)] at hn
        exact decide_eq_true ⟨by omega, by omega, by rw [hn]; rfl⟩
    · repeat (first | (refine step_ops ?_; ((try (refine g_yes rfl ?_ ?_; (· (simp [*]; done)))); (first | (refine m_mov (by conv => lhs; whnf) ?_) | (refine m_lss rfl rfl ?_) | (refine m_gtr rfl rfl ?_) | (refine m_len_ro rfl ?_) | (refine m_pick_f rfl ?_ (by conv => lhs; whnf) ?_; (· (refine decide_eq_false ?_; omega)))))) | refine end_ops ?_ | refine seq_ops ?_ | (refine cond_t rfl ?_ ?_; (· (refine decide_eq_true ?_; omega))) | refine AW_seq ?_ | refine AW_ret ?_ | refine ret_done ?_ | refine ret_then ?_)
      refine outs_b ?_
      symm
      exact decide_eq_false fun hf => hc2 (by have := hf.2.1; omega)
  · repeat (first | (refine step_ops ?_; (first | (first | (refine m_mov (by conv => lhs; whnf) ?_) | (refine m_lss rfl rfl ?_) | (refine m_len_ro rfl ?_) | (refine m_pick_t rfl ?_ (by conv => lhs; whnf) ?_; (· (refine decide_eq_true ?_; omega)))) | (refine g_noF rfl ?_ ?_; (· (refine decide_eq_true ?_; omega))))) | refine end_ops ?_ | refine seq_ops ?_ | (refine cond_t rfl ?_ ?_; (· rfl)) | refine AW_seq ?_ | refine AW_ret ?_ | refine ret_done ?_ | refine ret_then ?_)
    refine outs_b ?_
    symm
    exact decide_eq_false fun hf => hc (by have := hf.1; omega)
theorem giGood_spec (L : List Int) (hL : L.length ≤ 1048576) : Sp Try.prog 47 [ints L] (.b (decide (IsFam L))) := by
  refine spec_of Try.func47 rfl cc47 rfl ?_
  unfold ac47
  by_cases hc : 1 ≤ (L.length : Int) ∧ (L.length : Int) ≤ 9
  · repeat (first | (refine step_ops ?_; (first | (refine m_mov (by conv => lhs; whnf) ?_) | (refine m_len_ro rfl ?_))) | refine end_ops ?_ | refine seq_ops ?_ | refine AW_seq ?_)
    (refine step_ops ?_); (apply m_call (l1In_spec _ _ _)); (· repeat (first | exact lends_nil | (refine lends_cons ?_ ?_; (· exact lend_v))))
    repeat (first | (refine step_ops ?_; (first | (refine m_mov (by conv => lhs; whnf) ?_) | (refine m_not rfl ?_) | (refine m_len_ro rfl ?_))) | refine end_ops ?_ | refine seq_ops ?_ | (refine cond_f rfl ?_ ?_; (· (refine nf ?_; assumption))) | refine skip_then ?_ | refine AW_seq ?_ | refine AW_block ?_)
    refine AW_loop (α := Nat × Int) (fun a => a.1 ≤ L.length ∧ famFold (L.take a.1) 0 = some a.2) (fun a => st [(0, ints L), (3, .i a.2), (10, ints L), (11, .i L.length), (12, .i a.1)] []) (fun a => L.length - a.1) (0, 0) (by simp [famFold]) (weak_st ?_ ?_ rfl rfl) ?_
    · (repeat' (first | exact trivial | refine And.intro ?_ ?_)) <;> (first | rfl | skip)
    · trivial
    rintro ⟨k, n⟩ ⟨hk, hn⟩
    have hle := famFold_le _ _ _ hn
    have hkl : (L.take k).length = k := List.length_take_of_le hk
    dsimp only at hk hn hle ⊢
    by_cases h : k < L.length
    · by_cases h2 : 0 ≤ L.getD k 0 ∧ L.getD k 0 ≤ n
      · by_cases h3 : L.getD k 0 = n
        · repeat (first | (refine step_ops ?_; (first | (refine m_mov (by conv => lhs; whnf) ?_) | (refine m_lss rfl rfl ?_) | (refine m_idx1_ro rfl rfl ?_ ?_; (· omega)) | (refine m_ld_rpi rfl ?_ ?_; (· omega)))) | refine end_ops ?_ | refine seq_ops ?_ | (refine cond_t rfl ?_ ?_; (· (refine decide_eq_true ?_; omega))) | refine skip_then ?_ | refine AW_seq ?_ | refine AW_block ?_)
          (refine step_ops ?_); (apply m_call (l1In_spec _ _ _)); (· repeat (first | exact lends_nil | (refine lends_cons ?_ ?_; (· exact lend_v))))
          repeat (first | (refine step_ops ?_; (first | (refine m_mov (by conv => lhs; whnf) ?_) | (refine m_eql rfl rfl ?_) | (refine m_add rfl rfl ?_ ?_ ?_; (· omega); (· omega)) | (refine m_not rfl ?_))) | refine end_ops ?_ | refine seq_ops ?_ | refine AW_ops ?_ | (refine cond_t rfl ?_ ?_; (· (refine decide_eq_true ?_; assumption))) | (refine cond_f rfl ?_ ?_; (· (refine nf ?_; assumption))) | refine skip_then ?_ | refine norm_then ?_ | refine norm_block ?_)
          refine next_round (k + 1, n + 1) ⟨by omega, ?_⟩ (weak_st ?_ ?_ rfl rfl) ?_
          · rw [take_snoc L k 0 h, famFold_snoc, hn, Option.bind_some, if_pos h2, if_pos h3]
          · (repeat' (first | exact trivial | refine And.intro ?_ ?_)) <;> (first | rfl | skip)
          · trivial
          · omega
        · repeat (first | (refine step_ops ?_; (first | (refine m_mov (by conv => lhs; whnf) ?_) | (refine m_lss rfl rfl ?_) | (refine m_idx1_ro rfl rfl ?_ ?_; (· omega)) | (refine m_ld_rpi rfl ?_ ?_; (· omega)))) | refine end_ops ?_ | refine seq_ops ?_ | (refine cond_t rfl ?_ ?_; (· (refine decide_eq_true ?_; omega))) | refine skip_then ?_ | refine AW_seq ?_ | refine AW_block ?_)
          (refine step_ops ?_); (apply m_call (l1In_spec _ _ _)); (· repeat (first | exact lends_nil | (refine lends_cons ?_ ?_; (· exact lend_v))))
          repeat (first | (refine step_ops ?_; (first | (refine m_mov (by conv => lhs; whnf) ?_) | (refine m_eql rfl rfl ?_) | (refine m_add rfl rfl ?_ ?_ ?_; (· omega); (· omega)) | (refine m_not rfl ?_))) | refine end_ops ?_ | refine seq_ops ?_ | refine AW_ops ?_ | (refine cond_f rfl ?_ ?_; (· first | (refine decide_eq_false ?_; assumption) | (refine nf ?_; assumption))) | refine skip_then ?_ | refine norm_then ?_ | refine norm_block ?_ | refine AW_skip ?_)
          refine next_round (k + 1, n) ⟨by omega, ?_⟩ (weak_st ?_ ?_ rfl rfl) ?_
          · rw [take_snoc L k 0 h, famFold_snoc, hn, Option.bind_some, if_pos h2, if_neg h3]
          · (repeat' (first | exact trivial | refine And.intro ?_ ?_)) <;> (first | rfl | skip)
          · trivial
          · omega
      · repeat (first | (refine step_ops ?_; (first | (refine m_mov (by conv => lhs; whnf) ?_) | (refine m_lss rfl rfl ?_) | (refine m_idx1_ro rfl rfl ?_ ?_; (· omega)) | (refine m_ld_rpi rfl ?_ ?_; (· omega)))) | refine end_ops ?_ | refine seq_ops ?_ | (refine cond_t rfl ?_ ?_; (· (refine decide_eq_true ?_; omega))) | refine skip_then ?_ | refine AW_seq ?_ | refine AW_block ?_)
        (refine step_ops ?_); (apply m_call (l1In_spec _ _ _)); (· repeat (first | exact lends_nil | (refine lends_cons ?_ ?_; (· exact lend_v))))
        repeat (first | (refine step_ops ?_; (first | (refine m_mov (by conv => lhs; whnf) ?_) | (refine m_not rfl ?_))) | refine end_ops ?_ | refine seq_ops ?_ | (refine cond_t rfl ?_ ?_; (· (refine nt ?_; assumption))) | refine AW_ret ?_ | refine ret_done ?_ | refine ret_then ?_ | refine ret_block ?_ | refine ret_round ?_)
        refine outs_b ?_
        symm
        refine decide_eq_false fun hf => ?_
        obtain ⟨m, hm⟩ := famFold_take (fam_fold hf) (k + 1)
        rw [take_snoc L k 0 h, famFold_snoc, hn, Option.bind_some, if_neg h2] at hm
        cases hm
    · repeat (first | (refine step_ops ?_; (first | (refine m_mov (by conv => lhs; whnf) ?_) | (refine m_lss rfl rfl ?_))) | refine end_ops ?_ | refine seq_ops ?_ | (refine cond_f rfl ?_ ?_; (· (refine decide_eq_false ?_; omega))) | refine AW_seq ?_ | refine AW_ret ?_ | refine ret_done ?_ | refine norm_then ?_ | refine exit_then ?_ | refine exit_round ?_ | refine AW_exit ?_ | refine exit_block ?_)
      refine outs_b ?_
      symm
      rw [List.take_of_length_le (by omega)] at hn
      exact decide_eq_true ⟨by omega, by omega, by rw [hn]; rfl⟩
  · repeat (first | (refine step_ops ?_; (first | (refine m_mov (by conv => lhs; whnf) ?_) | (refine m_len_ro rfl ?_))) | refine end_ops ?_ | refine seq_ops ?_ | refine AW_seq ?_)
    (refine step_ops ?_); (apply m_call (l1In_spec _ _ _)); (· repeat (first | exact lends_nil | (refine lends_cons ?_ ?_; (· exact lend_v))))
    repeat (first | (refine step_ops ?_; (first | (refine m_mov (by conv => lhs; whnf) ?_) | (refine m_not rfl ?_))) | refine end_ops ?_ | refine seq_ops ?_ | (refine cond_t rfl ?_ ?_; (· (refine nt ?_; assumption))) | refine AW_ret ?_ | refine ret_done ?_ | refine ret_then ?_)
    refine outs_b ?_
    symm
    exact decide_eq_false fun hf => hc ⟨by have := hf.1; omega, by have := hf.2.1; omega⟩
end Go.Proofs.Ytbeflnnejofleaa
namespace Go.Proofs.Ytbeflnnejofleaa
variable [Go.Am.CodeBlk]
open Go.Am
attribute [local irreducible] AW Outs Weak Lends Lend Sp aops atree aop1 Then Round InBlock Done
theorem slicesMax_spec (L : List Int) (hL : L.length ≤ 1048576) (hne : 1 ≤ L.length) : Sp Try.prog 61 [ints L] (.i (maxI L)) := by
  have hne' : L ≠ [] := fun e => by rw [e] at hne; simp at hne
  have h0 : (L.take 1) = [L.getD 0 0] := by rw [take_snoc L 0 0 (by omega)]; rfl
  refine spec_of Try.func61 rfl cc61 rfl ?_
  unfold ac61
  repeat (first | (refine step_ops ?_; (first | (refine m_mov (by conv => lhs; whnf) ?_) | (refine m_lss rfl rfl ?_) | (refine m_len_ro rfl ?_) | (refine m_idx_ro rfl rfl ?_ ?_ ?_; (· omega); (· omega)) | (refine m_ld_rpi rfl ?_ ?_; (· omega)))) | refine end_ops ?_ | refine seq_ops ?_ | (refine cond_f rfl ?_ ?_; (· (refine decide_eq_false ?_; omega))) | refine skip_then ?_ | refine AW_seq ?_ | refine AW_block ?_)
  refine AW_loop (α := Nat) (fun k => 1 ≤ k ∧ k ≤ L.length) (fun k => st [(0, ints L), (3, .i (maxI (L.take k))), (4, .i k)] []) (fun k => L.length - k) 1 (by omega) (weak_st ?_ ?_ rfl rfl) ?_
  · refine ⟨rfl, ?_, rfl, trivial⟩
    show AV.i (L.getD 0 0) = AV.i (maxI (L.take 1))
    rw [h0]; rfl
  · trivial
  rintro k ⟨hk1, hk⟩
  by_cases h : k < L.length
  · have ht : L.take k ≠ [] := fun e => by have e2 := congrArg List.length e; rw [List.length_take_of_le hk] at e2; simp at e2; omega
    repeat (first | (refine step_ops ?_; (first | (refine m_mov (by conv => lhs; whnf) ?_) | (refine m_lss rfl rfl ?_) | (refine m_add rfl rfl ?_ ?_ ?_; (· omega); (· omega)) | (refine m_len_ro rfl ?_) | (refine m_idx1_ro rfl rfl ?_ ?_; (· omega)) | (refine m_ld_rpi rfl ?_ ?_; (· omega)) | (refine m_max rfl rfl ?_))) | refine end_ops ?_ | refine seq_ops ?_ | refine AW_ops ?_ | (refine cond_t rfl ?_ ?_; (· (refine decide_eq_true ?_; omega))) | refine skip_then ?_ | refine AW_seq ?_ | refine norm_then ?_ | refine AW_block ?_ | refine norm_block ?_)
    refine next_round (k + 1) ⟨by omega, by omega⟩ (weak_st ?_ ?_ rfl rfl) ?_
    · refine ⟨rfl, ?_, rfl, trivial⟩
      show AV.i _ = AV.i (maxI (L.take (k + 1)))
      rw [take_snoc L k 0 h, maxI_snoc _ _ ht]
    · trivial
    · omega
  · repeat (first | (refine step_ops ?_; (first | (refine m_mov (by conv => lhs; whnf) ?_) | (refine m_lss rfl rfl ?_) | (refine m_len_ro rfl ?_))) | refine end_ops ?_ | refine seq_ops ?_ | (refine cond_f rfl ?_ ?_; (· (refine decide_eq_false ?_; omega))) | refine AW_seq ?_ | refine AW_ret ?_ | refine ret_done ?_ | refine norm_then ?_ | refine exit_then ?_ | refine exit_round ?_ | refine AW_exit ?_ | refine exit_block ?_)
    refine outs_i ?_
    rw [List.take_of_length_le (by omega)]
theorem countFam_spec (L : List Int) (h : IsFam L) : Sp Try.prog 42 [ints L] (.i (famN L)) := by
  have h1 := h.1
  have h2 := h.2.1
  have hn := famN_le h
  have hm := fam_max h
  refine spec_of Try.func42 rfl cc42 rfl ?_
  unfold ac42
  repeat (first | (refine step_ops ?_; (refine m_mov (by conv => lhs; whnf) ?_)) | refine end_ops ?_ | refine seq_ops ?_)
  (refine step_ops ?_); (apply m_call (slicesMax_spec _ (by omega) h1)); (· repeat (first | exact lends_nil | (refine lends_cons ?_ ?_; (· (refine lend_ints ?_; first | rfl | omega)))))
  repeat (first | (refine step_ops ?_; (first | (refine m_mov (by conv => lhs; whnf) ?_) | (refine m_add rfl rfl ?_ ?_ ?_; (· omega); (· omega)))) | refine end_ops ?_ | refine AW_ret ?_ | refine ret_done ?_)
  refine outs_i ?_
  omega
theorem giSizes_spec (L : List Int) (hf : IsFam L) : Sp Try.prog 43 [ints L] (newInts (sizesOf L (famN L).toNat)) := by
  have h9 := hf.2.1
  refine spec_of Try.func43 rfl cc43 rfl ?_
  unfold ac43
  repeat (first | (refine step_ops ?_; (first | (refine m_mov (by conv => lhs; whnf) ?_) | (refine m_len_ro rfl ?_) | (refine m_nils ?_))) | refine end_ops ?_ | refine seq_ops ?_ | refine AW_seq ?_ | refine AW_block ?_)
  refine AW_loop (α := Nat × Nat) (fun a => a.1 ≤ L.length ∧ famFold (L.take a.1) 0 = some (a.2 : Int)) (fun a => st [(6, ints L), (7, .i L.length), (8, .i a.1), (3, .sl 3 1 0 a.2)] [(3, (true, (sizesOf (L.take a.1) a.2).map AV.i))]) (fun a => L.length - a.1) (0, 0) (by simp [famFold]) (weak_st ?_ ?_ rfl rfl) ?_
  · (repeat' (first | exact trivial | refine And.intro ?_ ?_)) <;> (first | rfl | skip)
  · exact ⟨rfl, trivial⟩
  rintro ⟨k, n⟩ ⟨hk, hn⟩
  have hle := famFold_le _ _ _ hn
  have hkl : (L.take k).length = k := List.length_take_of_le hk
  have hlen := sizesOf_len (L.take k) n
  have hmem := famFold_mem _ _ _ hn
  dsimp only at hk hn hle hlen hmem ⊢
  by_cases h : k < L.length
  · obtain ⟨m, hm⟩ := famFold_take (fam_fold hf) (k + 1)
    have hr : 0 ≤ L.getD k 0 ∧ L.getD k 0 ≤ n := by
      rw [take_snoc L k 0 h, famFold_snoc, hn, Option.bind_some] at hm
      split at hm
      · assumption
      · cases hm
    by_cases h3 : L.getD k 0 = n
    · repeat (first | (refine step_ops ?_; (first | (refine m_mov (by conv => lhs; whnf) ?_) | (refine m_lss rfl rfl ?_) | (refine m_eql rfl rfl ?_) | (refine m_add rfl rfl ?_ ?_ ?_; (· omega); (· omega)) | (refine m_len_sl rfl ?_) | (refine m_idx1_ro rfl rfl ?_ ?_; (· omega)) | (refine m_ld_rpi rfl ?_ ?_; (· omega)) | (refine m_bsl1 rfl rfl ?_) | (refine m_app1i rfl (by decide) (by rfl) (by first | rfl | omega | (simp; done)) rfl rfl ?_ (by decide) ?_; (· first | omega | (simp; omega))))) | refine end_ops ?_ | refine seq_ops ?_ | refine AW_ops ?_ | (refine cond_t rfl ?_ ?_; (· first | (refine decide_eq_true ?_; assumption) | (refine decide_eq_true ?_; omega))) | refine skip_then ?_ | refine AW_seq ?_ | refine norm_then ?_ | refine AW_block ?_ | refine norm_block ?_)
      refine next_round (k + 1, n + 1) ⟨by omega, ?_⟩ (Weak.trans (weak_move (r := 18) (q := 3) rfl (by decide) (by decide)) (weak_st ?_ ?_ rfl rfl)) ?_
      · rw [take_snoc L k 0 h, famFold_snoc, hn, Option.bind_some, if_pos hr, if_pos h3]; rfl
      · refine ⟨rfl, rfl, rfl, ?_, trivial⟩
        show AV.sl 3 1 0 (sizesOf (L.take k) n ++ [1]).length = AV.sl 3 1 0 (n + 1)
        rw [List.length_append, sizesOf_len]; rfl
      · refine ⟨?_, trivial⟩
        show some (true, (sizesOf (L.take k) n ++ [1]).map AV.i) = some (true, (sizesOf (L.take (k + 1)) (n + 1)).map AV.i)
        rw [take_snoc L k 0 h, h3, ← sizesOf_new _ _ (fun f hf => (hmem.1 f hf).2)]
      · omega
    · obtain ⟨f, hfk⟩ := Int.eq_ofNat_of_zero_le hr.1
      have hfn : f < n := by omega
      have hc := cntI_le (L.take k) f
      have hg := sizesOf_get (L.take k) n hfn
      rw [← hg] at hc
      repeat (first | (refine step_ops ?_; (first | (refine m_mov (by conv => lhs; whnf) ?_) | (refine m_lss rfl rfl ?_) | (refine m_eql rfl rfl ?_) | (refine m_add rfl rfl ?_ ?_ ?_; (· omega); (· omega)) | (refine m_len_sl rfl ?_) | (refine m_idx1_ro rfl rfl ?_ ?_; (· omega)) | (apply m_idx1_slj; (· rfl); (· rfl); (· assumption); (· omega)) | (refine m_ld_rpi rfl ?_ ?_; (· omega)) | (refine m_ld_pti rfl (by rfl) ?_ ?_; (· first | omega | (simp; omega))) | (apply m_st; (· rfl); (· rfl); (· rfl); (· first | omega | (simp; done) | (simp; omega)); (· rfl)))) | refine end_ops ?_ | refine seq_ops ?_ | refine AW_ops ?_ | (refine cond_t rfl ?_ ?_; (· (refine decide_eq_true ?_; omega))) | (refine cond_f rfl ?_ ?_; (· (refine decide_eq_false ?_; assumption))) | refine skip_then ?_ | refine AW_seq ?_ | refine norm_then ?_ | refine AW_block ?_ | refine norm_block ?_)
      refine next_round (k + 1, n) ⟨by omega, ?_⟩ (weak_st ?_ ?_ rfl rfl) ?_
      · rw [take_snoc L k 0 h, famFold_snoc, hn, Option.bind_some, if_pos hr, if_neg h3]
      · (repeat' (first | exact trivial | refine And.intro ?_ ?_)) <;> (first | rfl | skip)
      · refine ⟨?_, trivial⟩
        show some (true, ((sizesOf (L.take k) n).map AV.i).set f (AV.i ((sizesOf (L.take k) n).getD f 0 + 1))) = some (true, (sizesOf (L.take (k + 1)) n).map AV.i)
        rw [take_snoc L k 0 h, hfk, ← sizesOf_snoc _ _ hfn, List.map_set]
      · omega
  · repeat (first | (refine step_ops ?_; (first | (refine m_mov (by conv => lhs; whnf) ?_) | (refine m_lss rfl rfl ?_))) | refine end_ops ?_ | refine seq_ops ?_ | (refine cond_f rfl ?_ ?_; (· (refine decide_eq_false ?_; omega))) | refine AW_seq ?_ | refine AW_ret ?_ | refine ret_done ?_ | refine norm_then ?_ | refine exit_then ?_ | refine exit_round ?_ | refine AW_exit ?_ | refine exit_block ?_)
    obtain rfl : k = L.length := by omega
    rw [List.take_length] at hn
    have : famN L = n := by rw [famN, hn]; rfl
    rw [this]
    refine outs_ints rfl ?_ ?_
    · rw [List.take_length]; rfl
    · rw [sizesOf_len]; rfl
/-- What FamilySizes tells. -/
def sizesRes (L : List Int) : List Int := if IsFam L then sizesOf L (famN L).toNat else []
theorem implFamilySizes_spec (L : List Int) (hL : L.length ≤ 1048576) : Sp Try.prog 20 [ints L] (.tup [newInts (sizesRes L), .b (decide (IsFam L))]) := by
  refine spec_of Try.func20 rfl cc20 rfl ?_
  unfold ac20
  by_cases hf : IsFam L
  · have e : sizesRes L = sizesOf L (famN L).toNat := if_pos hf
    have hn := famN_le hf
    have h9 := hf.2.1
    obtain ⟨n, hn0⟩ := Int.eq_ofNat_of_zero_le (show 0 ≤ famN L by omega)
    rw [hn0] at e hn
    repeat (first | (refine step_ops ?_; (first | (refine m_mov (by conv => lhs; whnf) ?_) | (refine m_nils ?_))) | refine end_ops ?_ | refine seq_ops ?_ | refine AW_seq ?_)
    (refine step_ops ?_); (apply m_call (implAreFam_spec _ hL)); (· repeat (first | exact lends_nil | (refine lends_cons ?_ ?_; (· (refine lend_ints ?_; first | rfl | omega)))))
    repeat (first | (refine step_ops ?_; (first | (refine m_mov (by conv => lhs; whnf) ?_) | (refine m_not rfl ?_))) | refine end_ops ?_ | refine seq_ops ?_ | (refine cond_f rfl ?_ ?_; (· (refine nf ?_; assumption))) | refine skip_then ?_)
    (refine step_ops ?_); (apply m_call (countFam_spec _ hf)); (· repeat (first | exact lends_nil | (refine lends_cons ?_ ?_; (· (refine lend_ints ?_; first | rfl | omega)))))
    rw [hn0]
    refine step_ops ?_
    refine m_mk rfl rfl ?_ ?_ ?_
    · omega
    · omega
    repeat (first | (refine step_ops ?_; (first | (refine m_mov (by conv => lhs; whnf) ?_) | (refine m_len_ro rfl ?_))) | refine end_ops ?_ | refine seq_ops ?_ | refine AW_seq ?_ | refine AW_block ?_)
    refine AW_loop (α := Nat) (fun k => k ≤ L.length) (fun k => st [(13, ints L), (14, .i L.length), (15, .i k), (4, .sl 12 1 0 n)] [(12, (true, (sizesOf (L.take k) n).map AV.i))]) (fun k => L.length - k) 0 (by simp) (weak_st ?_ ?_ rfl rfl) ?_
    · (repeat' (first | exact trivial | refine And.intro ?_ ?_)) <;> (first | rfl | skip)
    · refine ⟨?_, trivial⟩
      show some (true, (List.replicate n (List.map AV.v [Value.int IntKind.i64 0])).flatten) = some (true, (sizesOf (L.take 0) n).map AV.i)
      have : sizesOf (L.take 0) n = List.replicate n 0 := by
        apply List.ext_getElem?
        intro j
        by_cases hj : j < n
        · simp [sizesOf, hj, cntI]
        · simp [sizesOf, hj]
      rw [this]
      simp
    intro k hk
    have hlen := sizesOf_len (L.take k) n
    have hkl : (L.take k).length = k := List.length_take_of_le hk
    by_cases h : k < L.length
    · have hr := fam_range hf (getD_mem h)
      obtain ⟨f, hfk⟩ := Int.eq_ofNat_of_zero_le hr.1
      have hfn : f < n := by omega
      have hc := cntI_le (L.take k) f
      have hg := sizesOf_get (L.take k) n hfn
      rw [← hg] at hc
      repeat (first | (refine step_ops ?_; (first | (refine m_mov (by conv => lhs; whnf) ?_) | (refine m_lss rfl rfl ?_) | (refine m_add rfl rfl ?_ ?_ ?_; (· omega); (· omega)) | (refine m_idx1_ro rfl rfl ?_ ?_; (· omega)) | (apply m_idx1_slj; (· rfl); (· rfl); (· assumption); (· omega)) | (refine m_ld_rpi rfl ?_ ?_; (· omega)) | (refine m_ld_pti rfl (by rfl) ?_ ?_; (· first | omega | (simp; omega))) | (apply m_st; (· rfl); (· rfl); (· rfl); (· first | omega | (simp; done) | (simp; omega)); (· rfl)))) | refine end_ops ?_ | refine seq_ops ?_ | refine AW_ops ?_ | (refine cond_t rfl ?_ ?_; (· (refine decide_eq_true ?_; omega))) | refine skip_then ?_ | refine AW_seq ?_ | refine norm_then ?_ | refine AW_block ?_ | refine norm_block ?_)
      refine next_round (k + 1) (by omega) (weak_st ?_ ?_ rfl rfl) ?_
      · (repeat' (first | exact trivial | refine And.intro ?_ ?_)) <;> (first | rfl | skip)
      · refine ⟨?_, trivial⟩
        show some (true, ((sizesOf (L.take k) n).map AV.i).set f (AV.i ((sizesOf (L.take k) n).getD f 0 + 1))) = some (true, (sizesOf (L.take (k + 1)) n).map AV.i)
        rw [take_snoc L k 0 h, hfk, ← sizesOf_snoc _ _ hfn, List.map_set]
      · omega
    · repeat (first | (refine step_ops ?_; (first | (refine m_mov (by conv => lhs; whnf) ?_) | (refine m_lss rfl rfl ?_))) | refine end_ops ?_ | refine seq_ops ?_ | (refine cond_f rfl ?_ ?_; (· (refine decide_eq_false ?_; omega))) | refine AW_seq ?_ | refine AW_ret ?_ | refine ret_done ?_ | refine norm_then ?_ | refine exit_then ?_ | refine exit_round ?_ | refine AW_exit ?_ | refine exit_block ?_)
      obtain rfl : k = L.length := by omega
      refine outs_tup2 (outs_ints rfl ?_ ?_) (outs_b ?_)
      · rw [e, List.take_length]; rfl
      · rw [e, sizesOf_len]; rfl
      · simp [hf]
  · have e : sizesRes L = [] := if_neg hf
    repeat (first | (refine step_ops ?_; (first | (refine m_mov (by conv => lhs; whnf) ?_) | (refine m_nils ?_))) | refine end_ops ?_ | refine seq_ops ?_ | refine AW_seq ?_)
    (refine step_ops ?_); (apply m_call (implAreFam_spec _ hL)); (· repeat (first | exact lends_nil | (refine lends_cons ?_ ?_; (· (refine lend_ints ?_; first | rfl | omega)))))
    repeat (first | (refine step_ops ?_; (first | (refine m_mov (by conv => lhs; whnf) ?_) | (refine m_not rfl ?_) | (refine m_nils ?_))) | refine end_ops ?_ | refine seq_ops ?_ | (refine cond_t rfl ?_ ?_; (· (refine nt ?_; assumption))) | refine AW_ret ?_ | refine ret_done ?_ | refine ret_then ?_)
    refine outs_tup2 (outs_ints rfl (by rw [e]; rfl) (by rw [e]; rfl)) (outs_b ?_)
    simp [hf]
end Go.Proofs.Ytbeflnnejofleaa
namespace Go.Am
variable [Go.Am.CodeBlk]
variable {P : Program} {N : Nat}
/-- Where such a call begins. -/
def enterH (asx : List AV) (hin : Hp) : AS := ⟨fun t => (asx[t]?).getD .any, hin⟩
theorem enterH_sim {w : World} {phi : Nat → Option Nat} {asx : List AV} {hin : Hp} {vs : Array Value} {n : Nat} (hg : GoodW w) (hgb : ∀ r b, (hin r).isSome = true → phi r = some b → b ∉ goodB) (hpb : ∀ r, (hin r).isSome = true → pbase ≤ r) (hinj : Inj hin phi) (hregs : Regs (ctxE w phi hin) hin)
    (hs : SimL asx (ctxE w phi hin) vs.toList) (hl : vs.size = asx.length) :
    Sim w (fun r => if (hin r).isSome then phi r else none) (min n pbase) (enterH asx hin) (vs ++ Array.replicate (n - vs.size) undef) w phi (ctxE w phi hin).ro where
  os := rfl
  tape := rfl
  output := rfl
  size := Nat.le_refl _
  kept := fun _ _ _ => rfl
  shp := fun b cur e f hb => ⟨cur, hb, rfl⟩
  npb := Nat.min_le_right _ _
  gd := ⟨hg, fun r b h => by split at h; exact hgb r b ‹_› h; cases h⟩
  rob := fun _ hb => hb.1
  inj := fun r r' b h1 h2 h3 h4 => hinj r r' b h1 h2 h3 h4
  liv := fun r c hc => by
    have hr : (hin r).isSome = true := by have h1 : hin r = some c := hc
                                          rw [h1]; rfl
    rcases hregs r c hc with ⟨h1, h2⟩ | ⟨b, cur, e, h1, h2, h3⟩ | ⟨b, o, h0, h1, h2, h3⟩
    · refine .inl ⟨h1, h2, fun _ => ?_⟩
      rw [if_pos hr]; exact h1
    · refine .inr (.inl ⟨b, cur, e, h1, h2, fun hb => hb.2 r hr h1, .inr ⟨hpb r hr, ?_⟩, h3⟩)
      rw [if_pos hr]; exact h1
    · refine .inr (.inr ⟨b, o, h0, h1, h2, h3, fun hb => hb.2 r hr h1, .inr ⟨hpb r hr, ?_⟩⟩)
      rw [if_pos hr]; exact h1
  tms := fun t => by
    simp only [enterH]
    cases hx : asx[t]? with
    | none => simp [SimV]
    | some x =>
      obtain ⟨y, hy, hsy⟩ := hs.get hx
      have hlt : t < vs.size := by
        have := (List.getElem?_eq_some_iff.1 hy).1
        simpa using this
      have hy' : vs[t] = y := by
        have := (List.getElem?_eq_some_iff.1 hy).2
        simpa using this
      have : (vs ++ Array.replicate (n - vs.size) undef).getD t undef = y := by
        simp [Array.getD_eq_getD_getElem?, Array.getElem?_append, hlt, hy']
      rw [this]
      exact hsy
  slots := by simp; omega
/-- What such a function owes at its end: s: names. -/
def DoneH (ts : List Nat) (res : AV) (hin hout : Hp) : Exit → AS → Prop
  | .normal, s | .ret, s => ∃ g : Nat → Nat, resAV s ts = renV g res ∧ (∀ r c, hout r = some c → ∃ c0, s.hp (g r) = some c0 ∧ (c0 = renR g c ∨ (c.2 = [] ∧ c0.2 = []))) ∧ (∀ r, (hin r).isSome = true → g r = r ∧ (hout r).isSome = true) ∧
      (∀ r, (hout r).isSome = true → hin r = none → g r < pbase) ∧ (∀ r r', (hout r).isSome = true → (hout r').isSome = true → g r = g r' → r = r')
  | _, _ => False
/-- What is asked of names and values alone. -/
structure Static (hin : Hp) (res : AV) (hout : Hp) : Prop where
  pb : ∀ r, (hin r).isSome = true → pbase ≤ r
  own : ∀ r c, hout r = some c → ownL false c.2 = true ∧ refsL (fun r => (hout r).isSome) c.2 = true
  res : ownV false res = true ∧ refsV (fun r => (hout r).isSome) res = true
/-- A block that is a region's own is new, if all that was lent is there still. -/
theorem Sim.mine_new {w0 w : World} {mu : Nat → Option Nat} {N : Nat} {s : AS} {tm : Array Value} {phi : Nat → Option Nat} {ro : Nat → Prop} (h : Sim w0 mu N s tm w phi ro) (hall : ∀ r b, mu r = some b → (s.hp r).isSome = true) {q b : Nat} (hq : (s.hp q).isSome = true) (hlt : q < pbase) (hp : phi q = some b) (hm : Mine w0 mu b) : w0.heap.size ≤ b := by
  rcases hm with h1 | ⟨r, hr, hmu⟩
  · exact h1
  exfalso
  have hs := hall r b hmu
  obtain ⟨c, hc⟩ := Option.isSome_iff_exists.1 hs
  have hge : pbase ≤ r := Nat.le_trans (by decide) hr
  have key : phi r = some b := by
    rcases h.liv r c hc with ⟨_, _, k3⟩ | ⟨b', _, _, k1, _, _, k4, _⟩ | ⟨b', _, _, k1, _, _, _, k4⟩
    · rw [k3 hge] at hmu; cases hmu
    · rcases k4 with k4 | k4
      · omega
      · rw [k4.2] at hmu; cases hmu; exact k1
    · rcases k4 with k4 | k4
      · omega
      · rw [k4.2] at hmu; cases hmu; exact k1
  have := h.inj q r b hq hs hp key
  omega
theorem specH_of {f : FuncId} {fn : Func} {code : Code} {ac : ACode} {ts : List Nat} {asx : List AV} {hin hout : Hp} {res : AV} (hf : P.funcs[f]? = some fn) (hb : fn.body = some code) (hc : ccode P (min fn.ntmps pbase) code = some ac) (hr : resTmps fn = some ts)
    (hst : Static hin res hout) (h : AW P (min fn.ntmps pbase) ac (enterH asx hin) (DoneH ts res hin hout)) : SpH P f asx hin res hout := by
  intro w vs phi hg hgb hinj hregs hs hl
  refine calls_of_wp hf hb (wp_mono (h code hc w _ _ w ⟨rfl, _, _, enterH_sim hg hgb hst.pb hinj hregs hs hl⟩) fun e a' w' hA => ?_)
  obtain ⟨s', h1, hf', phi', ro, hS⟩ := hA
  have fin : (∃ g : Nat → Nat, resAV s' ts = renV g res ∧ (∀ r c, hout r = some c → ∃ c0, s'.hp (g r) = some c0 ∧ (c0 = renR g c ∨ (c.2 = [] ∧ c0.2 = []))) ∧ (∀ r, (hin r).isSome = true → g r = r ∧ (hout r).isSome = true) ∧
      (∀ r, (hout r).isSome = true → hin r = none → g r < pbase) ∧ (∀ r r', (hout r).isSome = true → (hout r').isSome = true → g r = g r' → r = r')) → a'.defers = [] ∧ ∃ v, (results fn a'.tmps).run P w' = .ok v w' ∧
      ∃ v' phi', Ending.returned v = .returned v' ∧ w'.os = w.os ∧ w'.tape = w.tape ∧ w'.output = w.output ∧ w.heap.size ≤ w'.heap.size ∧
      (∀ r, (hin r).isSome = true → phi' r = phi r) ∧ (∀ b, b < w.heap.size → (∀ r, (hin r).isSome = true → phi r ≠ some b) → w'.heap[b]? = w.heap[b]?) ∧
      (∀ (b : Nat) (cur : Array Value) (e : TypeId) (f : Nat × Nat), w.heap[b]? = some (.cells cur e f) → ∃ cur' : Array Value, w'.heap[b]? = some (.cells cur' e f) ∧ cur'.size = cur.size) ∧
      Inj hout phi' ∧ (∀ r b, (hout r).isSome = true → hin r = none → phi' r = some b → w.heap.size ≤ b) ∧ Regs (ctxX w w' phi' hout) hout ∧ SimV res (ctxX w w' phi' hout) v' := by
    rintro ⟨g, hres, hhas, hstay, hfresh, hgi⟩
    have hlv : ∀ r, (hout r).isSome = true → (s'.hp (g r)).isSome = true := by
      intro r hr
      obtain ⟨c, hc⟩ := Option.isSome_iff_exists.1 hr
      obtain ⟨c0, h1, _⟩ := hhas r c hc
      rw [h1]; rfl
    have hall : ∀ r b, (if (hin r).isSome = true then phi r else none) = some b → (s'.hp r).isSome = true := by
      intro r b hb
      split at hb
      · rename_i hi
        have := hlv r (hstay r hi).2
        rw [(hstay r hi).1] at this
        exact this
      · cases hb
    have hvt : SimV (resAV s' ts) (ctx w w' ro phi' s') (resVal a'.tmps ts) := simv_res hS ts
    rw [hres] at hvt
    refine ⟨hf', _, run_results hr a'.tmps w' P, _, fun r => phi' (g r), rfl, hS.os, hS.tape, hS.output, hS.size, fun r hr => ?_, fun b hb hne => hS.kept b hb fun r hr => ?_, hS.shp, ?_, ?_, ?_, ?_⟩
    · obtain ⟨e1, e2⟩ := hstay r hr
      obtain ⟨c, hc⟩ := Option.isSome_iff_exists.1 e2
      obtain ⟨c0, hh, _⟩ := hhas r c hc
      rw [e1] at hh
      show phi' (g r) = phi r
      rw [e1]
      rcases hS.liv r _ hh with ⟨k1, _, k3⟩ | ⟨b, cur, e', k1, _, _, k4, _⟩ | ⟨b, o, _, k1, _, _, _, k4⟩
      case inr.inr =>
        rcases k4 with k4 | k4
        · have := hst.pb r hr; omega
        · have k5 := k4.2
          simp only [hr, if_true] at k5
          rw [k1, k5]
      · have k5 := k3 (hst.pb r hr)
        simp only [hr, if_true] at k5
        rw [k1, k5]
      · rcases k4 with k4 | k4
        · have := hst.pb r hr; omega
        · have k5 := k4.2
          simp only [hr, if_true] at k5
          rw [k1, k5]
    · split at hr
      · rename_i hrs; exact hne r hrs hr
      · cases hr
    · intro r r' b h1 h2 h3 h4
      exact hgi r r' h1 h2 (hS.inj _ _ b (hlv r h1) (hlv r' h2) h3 h4)
    · intro r b h1 h2 h3
      obtain ⟨c, hc⟩ := Option.isSome_iff_exists.1 h1
      have hlt := hfresh r h1 h2
      obtain ⟨c0, hh0, _⟩ := hhas r c hc
      rcases hS.liv _ _ hh0 with ⟨k1, _⟩ | ⟨b', _, _, k1, _, _, k4, _⟩ | ⟨b', _, _, k1, _, _, _, k4⟩
      · have h3' : phi' (g r) = some b := h3
        rw [k1] at h3'; cases h3'
      case inr.inr =>
        have h3' : phi' (g r) = some b := h3
        rw [k1] at h3'; cases h3'
        rcases k4 with k4 | k4
        · exact hS.mine_new hall (by rw [hh0]; rfl) k4.1 k1 k4.2
        · omega
      · have h3' : phi' (g r) = some b := h3
        rw [k1] at h3'; cases h3'
        rcases k4 with k4 | k4
        · exact hS.mine_new hall (by rw [hh0]; rfl) k4.1 k1 k4.2
        · omega
    · intro r c hc
      obtain ⟨ho, hrf⟩ := hst.own r c hc
      obtain ⟨c0, hh0, hc0⟩ := hhas r c hc
      rcases hS.liv _ _ hh0 with ⟨k1, k2, _⟩ | ⟨b, cur, e', k1, k2, _, _, k5⟩ | ⟨b, o, h0, k1, k2, k3, _⟩
      case inr.inr =>
        rcases hc0 with rfl | hc0
        · exact .inr (.inr ⟨b, o, renR_ob h0, k1, k2, k3⟩)
        · rw [h0] at hc0; simp at hc0
      · refine .inl ⟨k1, ?_⟩
        rcases hc0 with rfl | hc0
        · obtain ⟨fl, cs⟩ := c
          simp only [renR, renL_map] at k2
          exact List.map_eq_nil_iff.1 k2
        · exact hc0.1
      · rcases hc0 with rfl | hc0
        case inr => exact .inr (.inl ⟨b, cur, e', k1, k2, by unfold SimR; rw [hc0.1]; simp [SimL]⟩)
        refine .inr (.inl ?_)
        exact ⟨b, cur, e', k1, k2, simR_in (q := false) (C := ctxX w w' (fun r => phi' (g r)) hout) (D := ctx w w' ro phi' s') rfl (fun e => by cases e) (fun _ => rfl) (fun _ r _ => rfl) ho hrf k5⟩
    · exact simV_in false g (ctxX w w' (fun r => phi' (g r)) hout) (ctx w w' ro phi' s') rfl (fun e => by cases e) (fun _ => rfl) (fun _ r _ => rfl) res _ hst.res.1 hst.res.2 hvt
  cases e with
  | normal => exact fin h1
  | ret => exact fin h1
  | exit id => exact h1.elim
  | goto l => exact h1.elim
  | panic c => exact h1.elim
  | outgrown => exact h1.elim
/-- With an open end. -/
def DoneX (ts : List Nat) {ι : Type} (ok : ι → Prop) (res : ι → AV) (hin : Hp) (hout : ι → Hp) (e : Exit) (s : AS) : Prop := ∃ i, ok i ∧ DoneH ts (res i) hin (hout i) e s
theorem specX_of {f : FuncId} {fn : Func} {code : Code} {ac : ACode} {ts : List Nat} {asx : List AV} {hin : Hp} {ι : Type} {ok : ι → Prop} {res : ι → AV} {hout : ι → Hp} (hf : P.funcs[f]? = some fn) (hb : fn.body = some code) (hc : ccode P (min fn.ntmps pbase) code = some ac) (hr : resTmps fn = some ts)
    (hpb : ∀ r, (hin r).isSome = true → pbase ≤ r) (hsta : ∀ i, ok i → Static hin (res i) (hout i)) (h : AW P (min fn.ntmps pbase) ac (enterH asx hin) (DoneX ts ok res hin hout)) : SpX P f asx hin ok res hout := by
  intro w vs phi hg hgb hinj hregs hs hl
  refine calls_of_wp hf hb (wp_mono (h code hc w _ _ w ⟨rfl, _, _, enterH_sim hg hgb hpb hinj hregs hs hl⟩) fun e a' w' hA => ?_)
  obtain ⟨s', h0, hf', phi', ro, hS⟩ := hA
  obtain ⟨i, hi, h1⟩ : ∃ i, ok i ∧ DoneH ts (res i) hin (hout i) e s' := h0
  have hst := hsta i hi
  clear h hsta
  have fin : (∃ g : Nat → Nat, resAV s' ts = renV g (res i) ∧ (∀ r c, hout i r = some c → ∃ c0, s'.hp (g r) = some c0 ∧ (c0 = renR g c ∨ (c.2 = [] ∧ c0.2 = []))) ∧ (∀ r, (hin r).isSome = true → g r = r ∧ (hout i r).isSome = true) ∧
      (∀ r, (hout i r).isSome = true → hin r = none → g r < pbase) ∧ (∀ r r', (hout i r).isSome = true → (hout i r').isSome = true → g r = g r' → r = r')) → a'.defers = [] ∧ ∃ v, (results fn a'.tmps).run P w' = .ok v w' ∧ ∃ i, ok i ∧
      ∃ v' phi', Ending.returned v = .returned v' ∧ w'.os = w.os ∧ w'.tape = w.tape ∧ w'.output = w.output ∧ w.heap.size ≤ w'.heap.size ∧
      (∀ r, (hin r).isSome = true → phi' r = phi r) ∧ (∀ b, b < w.heap.size → (∀ r, (hin r).isSome = true → phi r ≠ some b) → w'.heap[b]? = w.heap[b]?) ∧
      (∀ (b : Nat) (cur : Array Value) (e : TypeId) (f : Nat × Nat), w.heap[b]? = some (.cells cur e f) → ∃ cur' : Array Value, w'.heap[b]? = some (.cells cur' e f) ∧ cur'.size = cur.size) ∧
      Inj (hout i) phi' ∧ (∀ r b, (hout i r).isSome = true → hin r = none → phi' r = some b → w.heap.size ≤ b) ∧ Regs (ctxX w w' phi' (hout i)) (hout i) ∧ SimV (res i) (ctxX w w' phi' (hout i)) v' := by
    rintro ⟨g, hres, hhas, hstay, hfresh, hgi⟩
    have hlv : ∀ r, (hout i r).isSome = true → (s'.hp (g r)).isSome = true := by
      intro r hr
      obtain ⟨c, hc⟩ := Option.isSome_iff_exists.1 hr
      obtain ⟨c0, h1, _⟩ := hhas r c hc
      rw [h1]; rfl
    have hall : ∀ r b, (if (hin r).isSome = true then phi r else none) = some b → (s'.hp r).isSome = true := by
      intro r b hb
      split at hb
      · rename_i hi
        have := hlv r (hstay r hi).2
        rw [(hstay r hi).1] at this
        exact this
      · cases hb
    have hvt : SimV (resAV s' ts) (ctx w w' ro phi' s') (resVal a'.tmps ts) := simv_res hS ts
    rw [hres] at hvt
    refine ⟨hf', _, run_results hr a'.tmps w' P, i, hi, _, fun r => phi' (g r), rfl, hS.os, hS.tape, hS.output, hS.size, fun r hr => ?_, fun b hb hne => hS.kept b hb fun r hr => ?_, hS.shp, ?_, ?_, ?_, ?_⟩
    · obtain ⟨e1, e2⟩ := hstay r hr
      obtain ⟨c, hc⟩ := Option.isSome_iff_exists.1 e2
      obtain ⟨c0, hh, _⟩ := hhas r c hc
      rw [e1] at hh
      show phi' (g r) = phi r
      rw [e1]
      rcases hS.liv r _ hh with ⟨k1, _, k3⟩ | ⟨b, cur, e', k1, _, _, k4, _⟩ | ⟨b, o, _, k1, _, _, _, k4⟩
      case inr.inr =>
        rcases k4 with k4 | k4
        · have := hst.pb r hr; omega
        · have k5 := k4.2
          simp only [hr, if_true] at k5
          rw [k1, k5]
      · have k5 := k3 (hst.pb r hr)
        simp only [hr, if_true] at k5
        rw [k1, k5]
      · rcases k4 with k4 | k4
        · have := hst.pb r hr; omega
        · have k5 := k4.2
          simp only [hr, if_true] at k5
          rw [k1, k5]
    · split at hr
      · rename_i hrs; exact hne r hrs hr
      · cases hr
    · intro r r' b h1 h2 h3 h4
      exact hgi r r' h1 h2 (hS.inj _ _ b (hlv r h1) (hlv r' h2) h3 h4)
    · intro r b h1 h2 h3
      obtain ⟨c, hc⟩ := Option.isSome_iff_exists.1 h1
      have hlt := hfresh r h1 h2
      obtain ⟨c0, hh0, _⟩ := hhas r c hc
      rcases hS.liv _ _ hh0 with ⟨k1, _⟩ | ⟨b', _, _, k1, _, _, k4, _⟩ | ⟨b', _, _, k1, _, _, _, k4⟩
      · have h3' : phi' (g r) = some b := h3
        rw [k1] at h3'; cases h3'
      case inr.inr =>
        have h3' : phi' (g r) = some b := h3
        rw [k1] at h3'; cases h3'
        rcases k4 with k4 | k4
        · exact hS.mine_new hall (by rw [hh0]; rfl) k4.1 k1 k4.2
        · omega
      · have h3' : phi' (g r) = some b := h3
        rw [k1] at h3'; cases h3'
        rcases k4 with k4 | k4
        · exact hS.mine_new hall (by rw [hh0]; rfl) k4.1 k1 k4.2
        · omega
    · intro r c hc
      obtain ⟨ho, hrf⟩ := hst.own r c hc
      obtain ⟨c0, hh0, hc0⟩ := hhas r c hc
      rcases hS.liv _ _ hh0 with ⟨k1, k2, _⟩ | ⟨b, cur, e', k1, k2, _, _, k5⟩ | ⟨b, o, h0, k1, k2, k3, _⟩
      case inr.inr =>
        rcases hc0 with rfl | hc0
        · exact .inr (.inr ⟨b, o, renR_ob h0, k1, k2, k3⟩)
        · rw [h0] at hc0; simp at hc0
      · refine .inl ⟨k1, ?_⟩
        rcases hc0 with rfl | hc0
        · obtain ⟨fl, cs⟩ := c
          simp only [renR, renL_map] at k2
          exact List.map_eq_nil_iff.1 k2
        · exact hc0.1
      · rcases hc0 with rfl | hc0
        case inr => exact .inr (.inl ⟨b, cur, e', k1, k2, by unfold SimR; rw [hc0.1]; simp [SimL]⟩)
        refine .inr (.inl ?_)
        exact ⟨b, cur, e', k1, k2, simR_in (q := false) (C := ctxX w w' (fun r => phi' (g r)) (hout i)) (D := ctx w w' ro phi' s') rfl (fun e => by cases e) (fun _ => rfl) (fun _ r _ => rfl) ho hrf k5⟩
    · exact simV_in false g (ctxX w w' (fun r => phi' (g r)) (hout i)) (ctx w w' ro phi' s') rfl (fun e => by cases e) (fun _ => rfl) (fun _ r _ => rfl) (res i) _ hst.res.1 hst.res.2 hvt
  cases e with
  | normal => exact fin h1
  | ret => exact fin h1
  | exit id => exact h1.elim
  | goto l => exact h1.elim
  | panic c => exact h1.elim
  | outgrown => exact h1.elim
theorem ret_doneh {s : AS} {ts : List Nat} {res : AV} {hin hout : Hp} (g : Nat → Nat) (h1 : resAV s ts = renV g res) (h2 : ∀ r c, hout r = some c → ∃ c0, s.hp (g r) = some c0 ∧ (c0 = renR g c ∨ (c.2 = [] ∧ c0.2 = []))) (h3 : ∀ r, (hin r).isSome = true → g r = r ∧ (hout r).isSome = true)
    (h4 : ∀ r, (hout r).isSome = true → hin r = none → g r < pbase) (h5 : ∀ r r', (hout r).isSome = true → (hout r').isSome = true → g r = g r' → r = r') : DoneH ts res hin hout .ret s := ⟨g, h1, h2, h3, h4, h5⟩
/-- A call that is lent regions. -/
theorem m_callh {s : AS} {K : AS → Prop} {d : Option Nat} {f : FuncId} {args : List Opd} {asx : List AV} {hin hout hp' : Hp} {res : AV} (g : Nat → Nat) (hs : SpH P f asx hin res hout) (ha : LendsH s.hp g hin (args.map s.ev) asx) (hL : Lent s g hin hout hp' res)
    (k : K (AS.put ⟨s.tm, hp'⟩ d (renV g res))) : aop1 P true ⟨d, .call f args, none⟩ s K := .inr (.inr (.inl ⟨rfl, asx, hin, Unit, fun _ => True, fun _ => res, fun _ => hout, g, fun _ => hp', hs.toX, ha, ⟨(), trivial⟩, fun _ _ => ⟨hL, k⟩⟩))
/-- One with an open end. -/
theorem m_callx {s : AS} {K : AS → Prop} {d : Option Nat} {f : FuncId} {args : List Opd} {asx : List AV} {hin : Hp} {ι : Type} {ok : ι → Prop} {res : ι → AV} {hout hp' : ι → Hp} (g : Nat → Nat) (hs : SpX P f asx hin ok res hout) (ha : LendsH s.hp g hin (args.map s.ev) asx) (hne : ∃ i, ok i)
    (k : ∀ i, ok i → Lent s g hin (hout i) (hp' i) (res i) ∧ K (AS.put ⟨s.tm, hp' i⟩ d (renV g (res i)))) : aop1 P true ⟨d, .call f args, none⟩ s K := .inr (.inr (.inl ⟨rfl, asx, hin, ι, ok, res, hout, g, hp', hs, ha, hne, k⟩))
theorem entry_leE (w : World) (phi : Nat → Option Nat) : Ctx.Le { heap := w.heap, ro := fun b => b < w.heap.size, base := w.heap.size, phi := fun _ => none, live := fun _ => false, loc := false } (ctxE w phi fun _ => none) :=
  ⟨fun b hb => ⟨⟨hb, fun r hr => by simp at hr⟩, rfl⟩, Nat.le_refl _, fun e => by simp at e, fun e => by simp at e, fun e => by simp at e⟩
/-- Nothing is lent but to be read. -/
theorem lendsH_none {hp : Hp} {f : Nat → Nat} {xs asx : List AV} (h : Lends hp xs asx) : LendsH hp f (fun _ => none) xs asx := by
  intro w0 mu N tm w phi ro vs hS hs hl
  obtain ⟨h1, h2⟩ := h w0 mu N tm w phi ro vs hS hs hl
  exact ⟨SimL.mono _ _ _ _ (entry_leE w _) h1, h2⟩
/-- What leads to lent regions, or is plain. -/
theorem lendsH_ren {hp : Hp} {f : Nat → Nat} {hin : Hp} {asx : List AV} (hin1 : ∀ r c, hin r = some c → (hp (f r)).isSome = true) (ho : ownL true asx = true) (hr : refsL (fun r => (hin r).isSome) asx = true) : LendsH hp f hin (renL f asx) asx := by
  intro w0 mu N tm w phi ro vs hS hs hl
  rw [renL_map, List.length_map] at hl
  refine ⟨?_, hl⟩
  refine simL_in true f (ctxE w (fun r => phi (f r)) hin) (ctx w0 w ro phi ⟨fun _ => .any, hp⟩) rfl (fun _ b hb => ?_) (fun _ => rfl) (fun _ r _ => rfl) asx vs ho hr hs
  refine ⟨hS.rob b hb, fun r hr hp' => ?_⟩
  obtain ⟨c, hc⟩ := Option.isSome_iff_exists.1 hr
  obtain ⟨c', hc'⟩ := Option.isSome_iff_exists.1 (hin1 r c hc)
  have hp'' : phi (f r) = some b := hp'
  rcases hS.liv _ _ hc' with ⟨h1, _⟩ | ⟨b', _, _, h1, _, h2, _⟩ | ⟨b', _, _, h1, _, _, h2, _⟩
  · rw [h1] at hp''; cases hp''
  · rw [h1] at hp''; cases hp''
    exact h2 hb
  · rw [h1] at hp''; cases hp''
    exact h2 hb
/-- A function that is lent nothing, its result read asx new memory. -/
theorem spH_sp {f : FuncId} {asx : List AV} {res res' : AV} {hout : Hp} (h : SpH P f asx (fun _ => none) res hout)
    (hr : ∀ w w' phi v, (∀ r b, (hout r).isSome = true → phi r = some b → w.heap.size ≤ b) → Regs (ctxX w w' phi hout) hout → SimV res (ctxX w w' phi hout) v → SimV res' (fresh w w') v) : Sp P f asx res' := by
  intro w vs hg hent
  refine (h w vs (fun _ => none) hg (fun r b hr => by simp at hr) (fun r r' b hr => by simp at hr) (fun r c hc => by simp at hc) (SimL.mono _ _ _ _ (entry_leE w _) hent.1) (by simpa using hent.2)).mono fun x w' hpost => ?_
  obtain ⟨v, phi', rfl, hos, htape, hout', hsize, _, hkept, _, _, hnew, hregs, hres⟩ := hpost
  exact ⟨v, rfl, ⟨hos, htape, hout', hsize, fun b hb => hkept b hb fun r hr => by simp at hr⟩, hr w w' phi' v (fun r b h1 h2 => hnew r b h1 rfl h2) hregs hres⟩
end Go.Am
namespace Go.Am
variable [Go.Am.CodeBlk]
variable {P : Program} {own : Bool} {N : Nat} {s : AS} {K : AS → Prop} {d : Option Nat}
mutual
/-- Read under other names. -/
theorem simV_ren (f : Nat → Nat) (C D : Ctx) (h1 : C.heap = D.heap) (h2 : C.ro = D.ro) (hb : C.base = D.base) (h3 : C.loc = D.loc) (h4 : ∀ r, C.live r = true → C.phi r = D.phi (f r)) :
    ∀ (x : AV) (y : Value), refsV C.live x = true → SimV (renV f x) D y → SimV x C y
  | .any, _, _, _ => by simp [SimV]
  | .v x, _, _, h => by simpa [SimV, renV] using h
  | .ro fr z cs n, y, _, h => by
    simp only [SimV, renV] at h ⊢
    rw [h1, h2, hb]
    refine h.imp_right fun ⟨b, o, cap, cur, e, fz, k1, k2, k3, k4, k5, k6, k7⟩ => ⟨b, o, cap, cur, e, fz, k1, k2, k3, k4, k5, k6, ?_⟩
    exact SimL.mono _ _ _ _ ⟨fun b hb => ⟨by rw [show C.out.ro = C.ro from rfl, h2]; exact hb, by show C.heap[b]? = D.heap[b]?; rw [h1]⟩, by show C.base ≤ D.base; omega, fun e => by simp [Ctx.out] at e, fun e => by simp [Ctx.out] at e, fun e => by simp [Ctx.out] at e⟩ k7
  | .rp cs, y, _, h => by
    simp only [SimV, renV] at h ⊢
    rw [h1, h2]
    obtain ⟨b, o, cur, e, fz, k1, k2, k3, k4⟩ := h
    refine ⟨b, o, cur, e, fz, k1, k2, k3, ?_⟩
    exact SimL.mono _ _ _ _ ⟨fun b hb => ⟨by rw [show C.out.ro = C.ro from rfl, h2]; exact hb, by show C.heap[b]? = D.heap[b]?; rw [h1]⟩, by show C.base ≤ D.base; omega, fun e => by simp [Ctx.out] at e, fun e => by simp [Ctx.out] at e, fun e => by simp [Ctx.out] at e⟩ k4
  | .sl r z off n, y, hr, h => by
    simp only [SimV, renV, refsV] at h hr ⊢
    obtain ⟨k1, k2, k3⟩ := h
    refine ⟨h3.trans k1, hr, ?_⟩
    rw [h4 r hr, h1]
    exact k3
  | .pt r off, y, hr, h => by
    simp only [SimV, renV, refsV] at h hr ⊢
    obtain ⟨k1, k2, b, k3, k4⟩ := h
    exact ⟨h3.trans k1, hr, b, by rw [h4 r hr]; exact k3, by rw [h1]; exact k4⟩
  | .mp r, y, hr, h => by
    simp only [SimV, renV, refsV] at h hr ⊢
    obtain ⟨k1, k2, b, k3, k4⟩ := h
    exact ⟨h3.trans k1, hr, b, by rw [h4 r hr]; exact k3, k4⟩
  | .itr r, y, hr, h => by
    simp only [SimV, renV, refsV] at h hr ⊢
    obtain ⟨k1, k2, b, k3, k4⟩ := h
    exact ⟨h3.trans k1, hr, b, by rw [h4 r hr]; exact k3, k4⟩
  | .ob o, y, _, h => by simp [SimV, renV] at h
  | .fn g l k, y, hr, h => by
    simp only [SimV, renV, refsV] at h hr ⊢
    obtain ⟨a, b, k1, k2, k3, k4⟩ := h
    rw [renL_map, List.length_map] at k3
    exact ⟨a, b, k1, k2, k3, simL_ren f C D h1 h2 hb h3 h4 l _ hr k4⟩
  | .fu z cs n, y, _, h => by
    simp only [SimV, renV] at h ⊢
    rw [h1, h2]
    refine h.imp_right fun ⟨b, o, cur, e, fz, k1, k2, k3, k4, k5⟩ => ⟨b, o, cur, e, fz, k1, k2, k3, k4, ?_⟩
    exact SimL.mono _ _ _ _ ⟨fun b hb => ⟨by rw [show C.out.ro = C.ro from rfl, h2]; exact hb, by show C.heap[b]? = D.heap[b]?; rw [h1]⟩, by show C.base ≤ D.base; omega, fun e => by simp [Ctx.out] at e, fun e => by simp [Ctx.out] at e, fun e => by simp [Ctx.out] at e⟩ k5
  | .mit r m bm es ck, y, hr, h => by
    simp only [SimV, renV, refsV, Bool.and_eq_true] at h hr ⊢
    obtain ⟨k1, k2, ⟨b, k3, k4⟩, k5⟩ := h
    refine ⟨h3.trans k1, hr.1, ⟨b, by rw [h4 r hr.1]; exact k3, k4⟩, ?_⟩
    rcases k5 with ⟨q, hq, k6, k7⟩ | ⟨hm, k6, k7⟩
    · obtain ⟨q0, rfl, rfl⟩ := Option.map_eq_some_iff.1 hq
      have hl : C.live q0 = true := by simpa using hr.2
      exact .inl ⟨q0, rfl, hl, by rw [h4 q0 hl]; exact k7⟩
    · exact .inr ⟨by simpa using hm, by rw [h2]; exact k6, by rw [h1]; exact k7⟩
  | .rmp fr es clock, y, _, h => by
    simp only [SimV, renV] at h ⊢
    obtain ⟨b, k1, k2, k3, k4⟩ := h
    exact ⟨b, k1, by rw [h1]; exact k2, by rw [h2]; exact k3, fun e => by rw [hb]; exact k4 e⟩
  | .agg l, y, hr, h => by
    simp only [SimV, renV, refsV] at h hr ⊢
    obtain ⟨a, k1, k2, k3⟩ := h
    rw [renL_map, List.length_map] at k2
    exact ⟨a, k1, k2, simL_ren f C D h1 h2 hb h3 h4 l _ hr k3⟩
  | .tup l, y, hr, h => by
    simp only [SimV, renV, refsV] at h hr ⊢
    obtain ⟨a, k1, k2, k3⟩ := h
    rw [renL_map, List.length_map] at k2
    exact ⟨a, k1, k2, simL_ren f C D h1 h2 hb h3 h4 l _ hr k3⟩
theorem simL_ren (f : Nat → Nat) (C D : Ctx) (h1 : C.heap = D.heap) (h2 : C.ro = D.ro) (hb : C.base = D.base) (h3 : C.loc = D.loc) (h4 : ∀ r, C.live r = true → C.phi r = D.phi (f r)) :
    ∀ (l : List AV) (ys : List Value), refsL C.live l = true → SimL (renL f l) D ys → SimL l C ys
  | [], _, _, _ => by simp [SimL]
  | _ :: _, [], _, h => by simp [SimL, renL] at h
  | a :: l, y :: ys, hr, h => by
    simp only [SimL, renL, refsL, Bool.and_eq_true] at h hr ⊢
    exact ⟨simV_ren f C D h1 h2 hb h3 h4 a y hr.1 h.1, simL_ren f C D h1 h2 hb h3 h4 l ys hr.2 h.2⟩
end
theorem simL_out_any (C D : Ctx) (h1 : C.heap = D.heap) (h2 : C.ro = D.ro) (hb : C.base = D.base) (l : List AV) (ys : List Value) (h : SimL l C.out ys) : SimL l D.out ys :=
  SimL.mono _ _ _ _ ⟨fun b hb' => ⟨by rw [show D.out.ro = D.ro from rfl, ← h2]; exact hb', by show D.heap[b]? = C.heap[b]?; rw [h1]⟩, by show D.base ≤ C.base; omega, fun e => by simp [Ctx.out] at e, fun e => by simp [Ctx.out] at e, fun e => by simp [Ctx.out] at e⟩ h
/-- A region's cells under other names; one whose cells lead nowhere may be told asx one whose cells may. -/
def cellsRen (f : Nat → Nat) (c c' : Bool × List AV) : Prop := (c'.1 = true ∧ c = (true, c'.2)) ∨ (c'.1 = false ∧ (c = (false, renL f c'.2) ∨ (c'.2 = [] ∧ c.2 = []) ∨ (c = (true, c'.2) ∧ c'.2.all plainV = true)))
/-- THE RULE OF FORGETTING: the state s' tells no more than s, under the names f. -/
theorem weak_ren {s s' : AS} (f : Nat → Nat) (htm : ∀ t, s'.tm t = .any ∨ s.tm t = renV f (s'.tm t)) (hhp : ∀ r c', s'.hp r = some c' → ∃ c, s.hp (f r) = some c ∧ cellsRen f c c')
    (hinj : ∀ r r', (s'.hp r).isSome = true → (s'.hp r').isSome = true → f r = f r' → r = r') (hpb : ∀ r, (s'.hp r).isSome = true → (r < pbase ∧ f r < pbase) ∨ (pbase ≤ r ∧ f r = r))
    (href : ∀ t, refsV (fun r => (s'.hp r).isSome) (s'.tm t) = true) (hrefh : ∀ r cs, s'.hp r = some (false, cs) → refsL (fun r => (s'.hp r).isSome) cs = true) : Weak s s' := by
  intro w0 mu N a w hS
  obtain ⟨hf, phi, ro, hS⟩ := hS
  have hlive : ∀ r, (s'.hp r).isSome = true → (s.hp (f r)).isSome = true := by
    intro r hr
    obtain ⟨c, hc⟩ := Option.isSome_iff_exists.1 hr
    obtain ⟨c0, h1, _⟩ := hhp r c hc
    rw [h1]; rfl
  refine ⟨hf, fun r => phi (f r), ro, { hS with
    inj := fun r r' b h1 h2 h3 h4 => hinj r r' h1 h2 (hS.inj _ _ b (hlive r h1) (hlive r' h2) h3 h4)
    liv := fun r c hc => ?_
    tms := fun t => ?_ }⟩
  · obtain ⟨c0, h1, h2⟩ := hhp r c hc
    have hp := hpb r (by rw [hc]; rfl)
    rcases hS.liv _ _ h1 with ⟨k1, k2, k3⟩ | ⟨b, cur, e, k1, k2, k3, k4, k5⟩ | ⟨b, o, rfl, k1, k2, k0, k3, k4⟩
    case inr.inr =>
      refine .inr (.inr ⟨b, o, ?_, k1, k2, k0, k3, ?_⟩)
      · obtain ⟨fl, cs⟩ := c
        rcases h2 with ⟨h3, h4⟩ | ⟨h3, h4⟩
        · simp only at h3 h4
          rw [h3]; exact h4.symm
        · simp only at h3
          rcases h4 with h4 | ⟨_, h4⟩ | ⟨h4, h5⟩
          · cases h4
          · simp at h4
          · simp only [Prod.mk.injEq, true_and] at h4
            rw [← h4] at h5
            simp [plainV] at h5
      · rcases hp with ⟨h3, h4⟩ | ⟨h3, h4⟩
        · rcases k4 with k4 | k4
          · exact .inl ⟨h3, k4.2⟩
          · omega
        · rcases k4 with k4 | k4
          · omega
          · exact .inr ⟨h3, by rw [← h4]; exact k4.2⟩
    · refine .inl ⟨k1, ?_, fun hge => ?_⟩
      · rcases h2 with ⟨_, rfl⟩ | ⟨_, rfl | ⟨h3, _⟩ | ⟨rfl, _⟩⟩
        · exact k2
        · simp only [renL_map] at k2
          exact List.map_eq_nil_iff.1 k2
        · exact h3
        · exact k2
      · rcases hp with ⟨h3, _⟩ | ⟨_, h3⟩
        · omega
        · rw [h3] at k3; exact k3 hge
    · refine .inr (.inl ⟨b, cur, e, k1, k2, k3, ?_, ?_⟩)
      · rcases hp with ⟨h3, h4⟩ | ⟨h3, h4⟩
        · rcases k4 with k4 | k4
          · exact .inl ⟨h3, k4.2⟩
          · omega
        · rcases k4 with k4 | k4
          · omega
          · exact .inr ⟨h3, by rw [← h4]; exact k4.2⟩
      · obtain ⟨fl, cs⟩ := c
        rcases h2 with ⟨h3, h4⟩ | ⟨h3, h4⟩
        · simp only at h3 h4
          subst h3; subst h4
          simp only [SimR, if_true] at k5 ⊢
          exact simL_out_any (ctx w0 w ro phi s) (ctx w0 w ro (fun r => phi (f r)) s') rfl rfl rfl _ _ k5
        · simp only at h3 h4
          subst h3
          simp only [SimR, Bool.false_eq_true, if_false]
          rcases h4 with rfl | ⟨h5, h6⟩ | ⟨rfl, h5⟩
          · simp only [SimR, Bool.false_eq_true, if_false] at k5
            exact simL_ren f (ctx w0 w ro (fun r => phi (f r)) s') (ctx w0 w ro phi s) rfl rfl rfl rfl (fun _ _ => rfl) cs _ (hrefh r cs hc) k5
          · rw [h5]; simp [SimL]
          · simp only [SimR, if_true] at k5
            exact simL_allv h5 k5
  · rcases htm t with h1 | h1
    · rw [h1]; simp [SimV]
    · have h2 := hS.tms t
      rw [h1] at h2
      exact simV_ren f (ctx w0 w ro (fun r => phi (f r)) s') (ctx w0 w ro phi s) rfl rfl rfl rfl (fun _ _ => rfl) _ _ (href t) h2
/-- The rows of a matrix, seen from the outer slice: regions b, b + 1, .. -/
def rowsC (b : Nat) : List (List Int) → List AV
  | [] => []
  | l :: rs => .sl b 1 0 l.length :: rowsC (b + 1) rs
theorem rowsC_len (b : Nat) (rows : List (List Int)) : (rowsC b rows).length = rows.length := by
  induction rows generalizing b with
  | nil => rfl
  | cons l rs ih => simp [rowsC, ih]
theorem rowsC_get (b : Nat) (rows : List (List Int)) (j : Nat) (hj : j < rows.length) : (rowsC b rows)[j]? = some (.sl (b + j) 1 0 (rows.getD j []).length) := by
  induction rows generalizing b j with
  | nil => simp at hj
  | cons l rs ih =>
    cases j with
    | zero => simp [rowsC]
    | succ j =>
      simp only [rowsC, List.getElem?_cons_succ]
      rw [ih (b + 1) j (by simpa using hj)]
      simp; omega
theorem rowsC_snoc (b : Nat) (rows : List (List Int)) (l : List Int) : rowsC b (rows ++ [l]) = rowsC b rows ++ [.sl (b + rows.length) 1 0 l.length] := by
  induction rows generalizing b with
  | nil => simp [rowsC]
  | cons r rs ih => simp only [List.cons_append, rowsC, ih]; congr 4; simp; omega
theorem rowsC_kill (r b : Nat) (rows : List (List Int)) (h : r < b) : killL r (rowsC b rows) = rowsC b rows := by
  induction rows generalizing b with
  | nil => rfl
  | cons l rs ih =>
    have : ¬ b = r := by omega
    simp only [rowsC, killL, killV, this, if_false]
    rw [ih (b + 1) (by omega)]
theorem rowsC_ren (f : Nat → Nat) (b b' : Nat) (rows : List (List Int)) (h : ∀ j, j < rows.length → f (b + j) = b' + j) : renL f (rowsC b rows) = rowsC b' rows := by
  induction rows generalizing b b' with
  | nil => rfl
  | cons l rs ih =>
    simp only [rowsC, renL, renV]
    have h0 := h 0 (by simp)
    rw [Nat.add_zero, Nat.add_zero] at h0
    rw [h0, ih (b + 1) (b' + 1) fun j hj => by
      have := h (j + 1) (by simpa using hj)
      rw [show b + 1 + j = b + (j + 1) by omega, this]; omega]
theorem rowsC_refs (keep : Nat → Bool) (b : Nat) (rows : List (List Int)) (h : ∀ j, j < rows.length → keep (b + j) = true) : refsL keep (rowsC b rows) = true := by
  induction rows generalizing b with
  | nil => rfl
  | cons l rs ih =>
    simp only [rowsC, refsL, refsV, Bool.and_eq_true]
    refine ⟨by have := h 0 (by simp); simpa using this, ih (b + 1) fun j hj => ?_⟩
    have := h (j + 1) (by simpa using hj)
    rw [show b + 1 + j = b + (j + 1) by omega]; exact this
theorem rowsC_own (b : Nat) (rows : List (List Int)) (q : Bool) : ownL q (rowsC b rows) = true := by
  induction rows generalizing b with
  | nil => rfl
  | cons l rs ih => simp only [rowsC, ownL, ownV, Bool.true_and]; exact ih _
/-- The rows depend on their lengths alone. -/
theorem rowsC_same (b : Nat) (rows rows' : List (List Int)) (hl : rows.length = rows'.length) (h : ∀ j, j < rows.length → (rows.getD j []).length = (rows'.getD j []).length) : rowsC b rows = rowsC b rows' := by
  apply List.ext_getElem?
  intro j
  by_cases hj : j < rows.length
  · rw [rowsC_get _ _ _ hj, rowsC_get _ _ _ (by omega), h j hj]
  · rw [List.getElem?_eq_none (by rw [rowsC_len]; omega), List.getElem?_eq_none (by rw [rowsC_len]; omega)]
/-- Regions: those of h, and the rows. -/
def famH (h : Hp) (b : Nat) (rows : List (List Int)) : Hp := fun r => match h r with
  | some c => some c
  | none => if b ≤ r ∧ r < b + rows.length then some (true, (rows.getD (r - b) []).map AV.i) else none
theorem famH_row {h : Hp} {b : Nat} {rows : List (List Int)} {j : Nat} (hn : h (b + j) = none) (hj : j < rows.length) : famH h b rows (b + j) = some (true, (rows.getD j []).map AV.i) := by
  unfold famH
  rw [hn]
  simp only
  rw [if_pos ⟨by omega, by omega⟩, Nat.add_sub_cancel_left]
theorem famH_some {h : Hp} {b : Nat} {rows : List (List Int)} {r : Nat} {c : Bool × List AV} (e : famH h b rows r = some c) : h r = some c ∨ (h r = none ∧ ∃ j, j < rows.length ∧ r = b + j ∧ c = (true, (rows.getD j []).map AV.i)) := by
  unfold famH at e
  cases hr : h r with
  | some c' => rw [hr] at e; exact .inl e
  | none =>
    rw [hr] at e
    simp only at e
    split at e
    · rename_i hh
      cases e
      exact .inr ⟨rfl, r - b, by omega, by omega, rfl⟩
    · cases e
/-- A state with a matrix: the outer slice lies in region r0, its rows in regions b, b + 1, .. -/
def stM (l : List (Nat × AV)) (h : List (Nat × (Bool × List AV))) (r0 b : Nat) (rows : List (List Int)) : AS :=
  ⟨fun t => (look l t).getD .any, famH (look ((r0, (false, rowsC b rows)) :: h)) b rows⟩
theorem look_none {β : Type} {l : List (Nat × β)} {t : Nat} (h : ∀ p ∈ l, p.1 < t) : look l t = none := by
  induction l with
  | nil => rfl
  | cons p l ih =>
    have h1 := h p (List.mem_cons_self ..)
    have : ¬ t = p.1 := by omega
    obtain ⟨k, x⟩ := p
    simp only [look]
    rw [if_neg this]
    exact ih fun q hq => h q (List.mem_cons_of_mem _ hq)
theorem look_mem {β : Type} {l : List (Nat × β)} {t : Nat} {x : β} (h : look l t = some x) : (t, x) ∈ l := by
  induction l with
  | nil => simp [look] at h
  | cons p l ih =>
    obtain ⟨k, y⟩ := p
    simp only [look] at h
    split at h
    · rename_i e; subst e; cases h; exact List.mem_cons_self ..
    · exact List.mem_cons_of_mem _ (ih h)
theorem stM_row {l : List (Nat × AV)} {h : List (Nat × (Bool × List AV))} {r0 b : Nat} {rows : List (List Int)} (hk : ((r0, (false, rowsC b rows)) :: h).all (fun p => decide (p.1 < b)) = true) {j : Nat} (hj : j < rows.length) :
    (stM l h r0 b rows).hp (b + j) = some (true, (rows.getD j []).map AV.i) :=
  famH_row (look_none fun p hp => by have := List.all_eq_true.1 hk p hp; have := of_decide_eq_true this; omega) hj
def HasF (s : AS) (f : Nat → Nat) : List (Nat × AV) → Prop
  | [] => True
  | (t, x) :: l => s.tm t = renV f x ∧ HasF s f l
def HasRF (s : AS) (f : Nat → Nat) : List (Nat × (Bool × List AV)) → Prop
  | [] => True
  | (r, c) :: l => s.hp (f r) = some c ∧ HasRF s f l
theorem look_hasF {s : AS} {f : Nat → Nat} : ∀ {l : List (Nat × AV)} {t : Nat} {x : AV}, HasF s f l → look l t = some x → s.tm t = renV f x
  | [], _, _, _, h => by simp [look] at h
  | (k, y) :: l, t, x, h, e => by
    simp only [look] at e
    split at e
    · rename_i hk; subst hk; cases e; exact h.1
    · exact look_hasF h.2 e
theorem look_hasRF {s : AS} {f : Nat → Nat} : ∀ {l : List (Nat × (Bool × List AV))} {r : Nat} {c : Bool × List AV}, HasRF s f l → look l r = some c → s.hp (f r) = some c
  | [], _, _, _, h => by simp [look] at h
  | (k, y) :: l, t, x, h, e => by
    simp only [look] at e
    split at e
    · rename_i hk; subst hk; cases e; exact h.1
    · exact look_hasRF h.2 e
def nodupB : List Nat → Bool
  | [] => true
  | x :: l => !(l.contains x) && nodupB l
theorem nodupB_spec : ∀ {l : List Nat}, nodupB l = true → l.Nodup
  | [], _ => by simp
  | x :: l, h => by
    simp only [nodupB, Bool.and_eq_true, Bool.not_eq_true'] at h
    rw [List.nodup_cons]
    exact ⟨fun hm => by rw [List.contains_iff_mem.2 hm] at h; simp at h, nodupB_spec h.2⟩
/-- The names of a state that tells a matrix: f0 below b; the rows asx g says. -/
def nmF (b : Nat) (f0 g : Nat → Nat) : Nat → Nat := fun r => if r < b then f0 r else g (r - b)
/-- A state with a matrix whose outer slice has the cells cs. -/
def stC (l : List (Nat × AV)) (h : List (Nat × (Bool × List AV))) (r0 : Nat) (cs : List AV) (b : Nat) (rows : List (List Int)) : AS :=
  ⟨fun t => (look l t).getD .any, famH (look ((r0, (false, cs)) :: h)) b rows⟩
theorem stC_row {l : List (Nat × AV)} {h : List (Nat × (Bool × List AV))} {r0 b : Nat} {cs : List AV} {rows : List (List Int)} (hk : ((r0, (false, cs)) :: h).all (fun p => decide (p.1 < b)) = true) {j : Nat} (hj : j < rows.length) :
    (stC l h r0 cs b rows).hp (b + j) = some (true, (rows.getD j []).map AV.i) :=
  famH_row (look_none fun p hp => by have := List.all_eq_true.1 hk p hp; have := of_decide_eq_true this; omega) hj
/-- Forgetting, to a state with a matrix whose rows are known under the names g. -/
theorem weak_matC {s : AS} {l : List (Nat × AV)} {h : List (Nat × (Bool × List AV))} {r0 b : Nat} {cs : List AV} {rows : List (List Int)} (f0 g : Nat → Nat)
    (hl : HasF s (nmF b f0 g) l) (hh : HasRF s (nmF b f0 g) h) (hflat : (h.all fun p => p.2.1) = true) (hk : (r0 :: h.map (·.1)).all (fun r => decide (r < b ∧ f0 r < b)) = true) (hpk : (r0 :: h.map (·.1)).all (fun r => decide ((r < pbase ∧ f0 r < pbase) ∨ (pbase ≤ r ∧ f0 r = r))) = true) (hpr : ∀ j, j < rows.length → (b + j < pbase ∧ g j < pbase) ∨ (pbase ≤ b + j ∧ g j = b + j)) (hr : refsT (fun r => (r0 :: h.map (·.1)).contains r) l = true)
    (h0 : ∃ c, s.hp (f0 r0) = some c ∧ cellsRen (nmF b f0 g) c (false, cs)) (hrefc : ∀ keep : Nat → Bool, (∀ j, j < rows.length → keep (b + j) = true) → refsL keep cs = true)
    (hrow : ∀ j, j < rows.length → s.hp (g j) = some (true, (rows.getD j []).map AV.i))
    (hndB : nodupB ((r0 :: h.map (·.1)).map f0) = true) (hg : ∀ j, j < rows.length → ∀ r ∈ (r0 :: h.map (·.1)), f0 r ≠ g j) (hgi : ∀ j j', j < rows.length → j' < rows.length → g j = g j' → j = j') : Weak s (stC l h r0 cs b rows) := by
  have hnd := nodupB_spec hndB
  have hkey : ∀ r c, look ((r0, (false, cs)) :: h) r = some c → r ∈ (r0 :: h.map (·.1)) := by
    intro r c hc
    have h1 : r ∈ ((r0, (false, cs)) :: h).map (·.1) := List.mem_map.2 ⟨(r, c), look_mem hc, rfl⟩
    simpa using h1
  have hklt : ∀ r ∈ (r0 :: h.map (·.1)), r < b ∧ f0 r < b := fun r hr => of_decide_eq_true (List.all_eq_true.1 hk r hr)
  have hall : ((r0, (false, cs)) :: h).all (fun p => decide (p.1 < b)) = true := by
    rw [List.all_eq_true]
    intro p hp
    exact decide_eq_true (hklt p.1 (List.mem_map.2 ⟨p, hp, rfl⟩)).1
  have hinj0 : ∀ r ∈ (r0 :: h.map (·.1)), ∀ r' ∈ (r0 :: h.map (·.1)), f0 r = f0 r' → r = r' := by
    generalize r0 :: h.map (·.1) = ks at hnd
    clear hkey hklt hg hr hk hpk hndB
    induction ks with
    | nil => intro r hr; simp at hr
    | cons k ks ih =>
      rw [List.map_cons, List.nodup_cons] at hnd
      intro r hr r' hr' e
      rcases List.mem_cons.1 hr with h1 | h1
      · rcases List.mem_cons.1 hr' with h2 | h2
        · rw [h1, h2]
        · rw [h1] at e
          exact absurd (List.mem_map.2 ⟨r', h2, e.symm⟩) hnd.1
      · rcases List.mem_cons.1 hr' with h2 | h2
        · rw [h2] at e
          exact absurd (List.mem_map.2 ⟨r, h1, e⟩) hnd.1
        · exact ih hnd.2 r h1 r' h2 e
  have hsome : ∀ r, ((stC l h r0 cs b rows).hp r).isSome = true → (r ∈ (r0 :: h.map (·.1)) ∧ nmF b f0 g r = f0 r) ∨ ∃ j, j < rows.length ∧ r = b + j ∧ nmF b f0 g r = g j := by
    intro r hr
    obtain ⟨c, hc⟩ := Option.isSome_iff_exists.1 hr
    rcases famH_some hc with h1 | ⟨_, j, hj, rfl, _⟩
    · have hm := hkey r c h1
      exact .inl ⟨hm, by unfold nmF; rw [if_pos (hklt r hm).1]⟩
    · exact .inr ⟨j, hj, rfl, by unfold nmF; rw [if_neg (by omega), Nat.add_sub_cancel_left]⟩
  have hlive : ∀ r, r ∈ (r0 :: h.map (·.1)) → ((stC l h r0 cs b rows).hp r).isSome = true := by
    intro r hr
    show (famH (look ((r0, (false, cs)) :: h)) b rows r).isSome = true
    have : ∃ c, look ((r0, (false, cs)) :: h) r = some c := by
      have key : ∀ l : List (Nat × (Bool × List AV)), r ∈ l.map (·.1) → ∃ c, look l r = some c := by
        intro l
        induction l with
        | nil => intro h; simp at h
        | cons p l ih =>
          intro h
          obtain ⟨k, y⟩ := p
          simp only [look]
          by_cases e : r = k
          · exact ⟨y, if_pos e⟩
          · rw [if_neg e]
            rw [List.map_cons, List.mem_cons] at h
            exact ih (h.resolve_left e)
      exact key _ (by simpa using hr)
    obtain ⟨c, hc⟩ := this
    unfold famH
    rw [hc]; rfl
  have hliveR : ∀ j, j < rows.length → ((stC l h r0 cs b rows).hp (b + j)).isSome = true := fun j hj => by rw [stC_row hall hj]; rfl
  refine weak_ren (nmF b f0 g) (fun t => ?_) (fun r c' hc => ?_) (fun r r' h1 h2 h3 => ?_) (fun r h1 => ?_) (fun t => ?_) (fun r cs' hc => ?_)
  · show (look l t).getD .any = .any ∨ s.tm t = renV _ ((look l t).getD .any)
    cases hx : look l t with
    | none => exact .inl rfl
    | some x => exact .inr (look_hasF hl hx)
  · rcases famH_some hc with h1 | ⟨h1, j, hj, rfl, rfl⟩
    · have hm := hkey r c' h1
      have hnm : nmF b f0 g r = f0 r := by unfold nmF; rw [if_pos (hklt r hm).1]
      simp only [look] at h1
      split at h1
      · rename_i e
        cases h1
        rw [hnm, e]
        exact h0
      · refine ⟨_, look_hasRF hh h1, .inl ⟨?_, ?_⟩⟩
        · exact List.all_eq_true.1 hflat _ (look_mem h1)
        · have := List.all_eq_true.1 hflat _ (look_mem h1)
          obtain ⟨fl, cs⟩ := c'
          simp only at this
          subst this; rfl
    · refine ⟨_, ?_, .inl ⟨rfl, rfl⟩⟩
      unfold nmF
      rw [if_neg (by omega), Nat.add_sub_cancel_left]
      exact hrow j hj
  · rcases hsome r h1 with ⟨m1, e1⟩ | ⟨j, hj, rfl, e1⟩
    · rcases hsome r' h2 with ⟨m2, e2⟩ | ⟨j', hj', rfl, e2⟩
      · rw [e1, e2] at h3
        exact hinj0 r m1 r' m2 h3
      · rw [e1, e2] at h3
        exact absurd h3 (hg j' hj' r m1)
    · rcases hsome r' h2 with ⟨m2, e2⟩ | ⟨j', hj', rfl, e2⟩
      · rw [e1, e2] at h3
        exact absurd h3.symm (hg j hj r' m2)
      · rw [e1, e2] at h3
        rw [hgi j j' hj hj' h3]
  · rcases hsome r h1 with ⟨m1, e1⟩ | ⟨j, hj, rfl, e1⟩
    · have := of_decide_eq_true (List.all_eq_true.1 hpk r m1)
      rw [e1]; exact this
    · rw [e1]; exact hpr j hj
  · show refsV _ ((look l t).getD .any) = true
    cases hx : look l t with
    | none => rfl
    | some x =>
      have h1 := look_refs hr hx
      have key := AV.rec_1 (motive_1 := fun x => refsV (fun r => (r0 :: h.map (·.1)).contains r) x = true → refsV (fun r => ((stC l h r0 cs b rows).hp r).isSome) x = true) (motive_2 := fun l' => refsL (fun r => (r0 :: h.map (·.1)).contains r) l' = true → refsL (fun r => ((stC l h r0 cs b rows).hp r).isSome) l' = true)
        (by simp [refsV]) (by simp [refsV]) (by intros; simp [refsV]) (by intros; simp [refsV]) (fun q _ _ _ hq => by simp only [refsV] at hq ⊢; exact hlive q (List.contains_iff_mem.1 hq))
        (fun q _ hq => by simp only [refsV] at hq ⊢; exact hlive q (List.contains_iff_mem.1 hq)) (fun l hl hq => by simp only [refsV] at hq ⊢; exact hl hq) (fun l hl hq => by simp only [refsV] at hq ⊢; exact hl hq)
        (fun q hq => by simp only [refsV] at hq ⊢; exact hlive q (List.contains_iff_mem.1 hq)) (fun q hq => by simp only [refsV] at hq ⊢; exact hlive q (List.contains_iff_mem.1 hq)) (by intros; simp [refsV]) (fun f l k hl hq => by simp only [refsV] at hq ⊢; exact hl hq) (by intros; simp [refsV]) (by intros; simp [refsV]) (fun q m _ _ _ hq => by
          simp only [refsV, Bool.and_eq_true] at hq ⊢
          refine ⟨hlive q (List.contains_iff_mem.1 hq.1), ?_⟩
          cases m with
          | none => rfl
          | some k => exact hlive k (List.contains_iff_mem.1 (by simpa using hq.2)))
        (by simp [refsL]) (fun a l ha hl hq => by simp only [refsL, Bool.and_eq_true] at hq ⊢; exact ⟨ha hq.1, hl hq.2⟩) [x]
      have := key (by simp only [refsL, Bool.and_eq_true, and_true]; exact h1)
      simp only [refsL, Bool.and_eq_true, and_true] at this
      exact this
  · rcases famH_some hc with h1 | ⟨_, j, _, _, h2⟩
    · simp only [look] at h1
      split at h1
      · cases h1
        exact hrefc _ hliveR
      · have := List.all_eq_true.1 hflat _ (look_mem h1)
        simp at this
    · cases h2
/-- Forgetting, to a state with a matrix whose rows are known under the names g. -/
theorem weak_mat {s : AS} {l : List (Nat × AV)} {h : List (Nat × (Bool × List AV))} {r0 b : Nat} {rows : List (List Int)} (f0 g : Nat → Nat)
    (hl : HasF s (nmF b f0 g) l) (hh : HasRF s (nmF b f0 g) h) (hflat : (h.all fun p => p.2.1) = true) (hk : (r0 :: h.map (·.1)).all (fun r => decide (r < b ∧ f0 r < b)) = true) (hpk : (r0 :: h.map (·.1)).all (fun r => decide ((r < pbase ∧ f0 r < pbase) ∨ (pbase ≤ r ∧ f0 r = r))) = true) (hpr : ∀ j, j < rows.length → (b + j < pbase ∧ g j < pbase) ∨ (pbase ≤ b + j ∧ g j = b + j)) (hr : refsT (fun r => (r0 :: h.map (·.1)).contains r) l = true)
    (h0 : ∃ fl cs, s.hp (f0 r0) = some (fl, cs) ∧ (fl = false ∧ cs = renL (nmF b f0 g) (rowsC b rows) ∨ rows = [] ∧ cs = []))
    (hrow : ∀ j, j < rows.length → s.hp (g j) = some (true, (rows.getD j []).map AV.i))
    (hndB : nodupB ((r0 :: h.map (·.1)).map f0) = true) (hg : ∀ j, j < rows.length → ∀ r ∈ (r0 :: h.map (·.1)), f0 r ≠ g j) (hgi : ∀ j j', j < rows.length → j' < rows.length → g j = g j' → j = j') : Weak s (stM l h r0 b rows) := by
  obtain ⟨fl, cs, h1, h2⟩ := h0
  refine weak_matC (cs := rowsC b rows) f0 g hl hh hflat hk hpk hpr hr ⟨_, h1, .inr ⟨rfl, ?_⟩⟩ (fun keep hkp => rowsC_refs _ _ _ hkp) hrow hndB hg hgi
  rcases h2 with ⟨rfl, rfl⟩ | ⟨h3, h4⟩
  · exact .inl rfl
  · exact .inr (.inl ⟨by show rowsC b rows = []; rw [h3]; rfl, h4⟩)
/-- Forgetting, the matrix being what it was. -/
theorem weak_keep {s : AS} {l : List (Nat × AV)} {h : List (Nat × (Bool × List AV))} {r0 b : Nat} {rows : List (List Int)} (f0 : Nat → Nat)
    (hl : HasF s (nmF b f0 fun j => b + j) l) (hh : HasRF s (nmF b f0 fun j => b + j) h) (hflat : (h.all fun p => p.2.1) = true) (hk : (r0 :: h.map (·.1)).all (fun r => decide (r < b ∧ f0 r < b)) = true)
    (hpk : (r0 :: h.map (·.1)).all (fun r => decide ((r < pbase ∧ f0 r < pbase) ∨ (pbase ≤ r ∧ f0 r = r))) = true) (hb : b + rows.length ≤ pbase ∨ pbase ≤ b) (hr : refsT (fun r => (r0 :: h.map (·.1)).contains r) l = true) (hndB : nodupB ((r0 :: h.map (·.1)).map f0) = true)
    {fl : Bool} {cs : List AV} (h0 : s.hp (f0 r0) = some (fl, cs)) (hcs : fl = false ∧ cs = rowsC b rows ∨ rows = [] ∧ cs = [])
    (hrow : ∀ j, j < rows.length → s.hp (b + j) = some (true, (rows.getD j []).map AV.i)) : Weak s (stM l h r0 b rows) := by
  refine weak_mat f0 (fun j => b + j) hl hh hflat hk hpk (fun j hj => by rcases hb with hb | hb; exact .inl ⟨by omega, by omega⟩; exact .inr ⟨by omega, rfl⟩) hr ⟨fl, cs, h0, ?_⟩ hrow hndB (fun j hj r hr => ?_) (fun j j' _ _ e => by omega)
  · rcases hcs with ⟨h1, h2⟩ | h1
    · exact .inl ⟨h1, by rw [h2, rowsC_ren _ b b]; intro j _; unfold nmF; rw [if_neg (by omega), Nat.add_sub_cancel_left]⟩
    · exact .inr h1
  · have := of_decide_eq_true (List.all_eq_true.1 hk r hr)
    omega
def gpush (b m q : Nat) : Nat → Nat := fun j => if j < m then b + j else q
theorem renL_append (f : Nat → Nat) (l m : List AV) : renL f (l ++ m) = renL f l ++ renL f m := by rw [renL_map, renL_map, renL_map, List.map_append]
/-- Forgetting, a region having become a row. -/
theorem weak_push {s : AS} {l : List (Nat × AV)} {h : List (Nat × (Bool × List AV))} {r0 b : Nat} {rows : List (List Int)} {row : List Int} (f0 : Nat → Nat) (q : Nat)
    (hl : HasF s (nmF b f0 (gpush b rows.length q)) l) (hh : HasRF s (nmF b f0 (gpush b rows.length q)) h) (hflat : (h.all fun p => p.2.1) = true) (hk : (r0 :: h.map (·.1)).all (fun r => decide (r < b ∧ f0 r < b)) = true)
    (hpk : (r0 :: h.map (·.1)).all (fun r => decide ((r < pbase ∧ f0 r < pbase) ∨ (pbase ≤ r ∧ f0 r = r))) = true) (hb : b + rows.length + 1 ≤ pbase) (hr : refsT (fun r => (r0 :: h.map (·.1)).contains r) l = true) (hndB : nodupB ((r0 :: h.map (·.1)).map f0) = true)
    (hqb : q < b) (hqn : ((r0 :: h.map (·.1)).map f0).contains q = false)
    {cs : List AV} (h0 : s.hp (f0 r0) = some (false, cs)) (hcs : cs = rowsC b rows ++ [.sl q 1 0 row.length]) (hq : s.hp q = some (true, row.map AV.i))
    (hrow : ∀ j, j < rows.length → s.hp (b + j) = some (true, (rows.getD j []).map AV.i)) : Weak s (stM l h r0 b (rows ++ [row])) := by
  have hlen : (rows ++ [row]).length = rows.length + 1 := by simp
  refine weak_mat f0 (gpush b rows.length q) hl hh hflat hk hpk (fun j hj => .inl ⟨by omega, by unfold gpush; split <;> omega⟩) hr ⟨false, cs, h0, .inl ⟨rfl, ?_⟩⟩ (fun j hj => ?_) hndB (fun j hj r hr => ?_) (fun j j' h1 h2 e => ?_)
  · rw [hcs, rowsC_snoc, renL_append, rowsC_ren _ b b]
    · simp only [renL, renV]
      unfold nmF gpush
      rw [if_neg (by omega), Nat.add_sub_cancel_left, if_neg (by omega)]
    · intro j hj
      unfold nmF gpush
      rw [if_neg (by omega), Nat.add_sub_cancel_left, if_pos hj]
  · unfold gpush
    by_cases hj' : j < rows.length
    · rw [if_pos hj', hrow j hj']
      simp [List.getElem?_append, hj']
    · have : j = rows.length := by omega
      subst this
      rw [if_neg hj', hq]
      simp
  · have := of_decide_eq_true (List.all_eq_true.1 hk r hr)
    unfold gpush
    split
    · omega
    · intro e
      have hm : q ∈ (r0 :: h.map (·.1)).map f0 := List.mem_map.2 ⟨r, hr, e⟩
      have := List.contains_iff_mem.2 hm
      rw [hqn] at this; cases this
  · unfold gpush at e
    split at e <;> split at e <;> omega
theorem hp_put (s : AS) (d : Option Nat) (x : AV) : (s.put d x).hp = s.hp := by cases d <;> rfl
theorem hp_mem_ne {s : AS} {q r : Nat} {c : Bool × List AV} (h : r ≠ q) : (s.mem q c).hp r = s.hp r := by simp [AS.mem, h]
theorem hp_kill_ne {s : AS} {q r : Nat} (h : r ≠ q) : (s.kill q).hp r = (s.hp r).map (killR q) := by simp [AS.kill, h]
end Go.Am
