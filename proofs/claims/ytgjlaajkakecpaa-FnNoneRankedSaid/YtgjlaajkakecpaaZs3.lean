/- The abstract machine, contracts: part 3 of what this claim needs. -/
import Derived.Test.YtgjlaajkakecpaaZs2
set_option linter.unusedSectionVars false
namespace Go.Proofs.Ytgjlaajkakecpaa
variable [Go.Am.CodeBlk]
open Go.Am
def ac3 : ACode := (.seq (.ops [⟨(some 4), (.mov (.c (.bool false))), none⟩]) (.seq (.seq (.ops [⟨(some 58), (.mov (.t 0)), none⟩, ⟨(some 59), (.mov (.t 1)), none⟩, ⟨(some 60), (.call 5 [(.t 58), (.t 59)]), none⟩]) (.cond (.t 60) (.seq (.ops [⟨(some 4), (.mov (.c (.bool true))), none⟩]) .ret) .skip)) (.seq (.ops [⟨(some 61), (.mov (.t 0)), none⟩, ⟨(some 62), (.call 6 [(.t 61)]), none⟩, ⟨(some 5), (.mov (.t 62)), none⟩]) (.seq (.ops [⟨(some 64), (.mov (.t 5)), none⟩, ⟨(some 65), (.call 7 [(.t 64)]), none⟩, ⟨(some 63), (.mov (.t 65)), none⟩, ⟨(some 66), (.ext (.t 63) 0), none⟩, ⟨(some 67), (.ext (.t 63) 1), none⟩, ⟨(some 6), (.mov (.t 66)), none⟩, ⟨(some 7), (.mov (.t 67)), none⟩]) (.seq (.ops [⟨(some 69), (.mov (.t 5)), none⟩, ⟨(some 70), (.call 8 [(.t 69)]), none⟩, ⟨(some 68), (.mov (.t 70)), none⟩, ⟨(some 71), (.ext (.t 68) 0), none⟩, ⟨(some 72), (.ext (.t 68) 1), none⟩, ⟨(some 8), (.mov (.t 71)), none⟩, ⟨(some 9), (.mov (.t 72)), none⟩]) (.seq (.ops [⟨(some 74), (.mov (.t 5)), none⟩, ⟨(some 75), (.call 9 [(.t 74)]), none⟩, ⟨(some 73), (.mov (.t 75)), none⟩, ⟨(some 76), (.ext (.t 73) 0), none⟩, ⟨(some 77), (.ext (.t 73) 1), none⟩, ⟨(some 10), (.mov (.t 76)), none⟩, ⟨(some 11), (.mov (.t 77)), none⟩]) (.seq (.ops [⟨(some 79), (.mov (.t 5)), none⟩, ⟨(some 80), (.call 10 [(.t 79)]), none⟩, ⟨(some 78), (.mov (.t 80)), none⟩, ⟨(some 81), (.ext (.t 78) 0), none⟩, ⟨(some 82), (.ext (.t 78) 1), none⟩, ⟨(some 12), (.mov (.t 81)), none⟩, ⟨(some 13), (.mov (.t 82)), none⟩]) (.seq (.seq (.ops [⟨(some 83), (.mov (.t 7)), none⟩, ⟨(some 84), (.mov (.t 9)), none⟩, ⟨(some 85), (.beq true (.t 83) (.t 84)), none⟩, ⟨(some 86), (.mov (.t 85)), none⟩, ⟨(some 87), (.mov (.t 6)), (some (86, false))⟩, ⟨(some 88), (.mov (.t 8)), (some (86, false))⟩, ⟨(some 89), (.call 11 [(.t 87), (.t 88)]), (some (86, false))⟩, ⟨(some 90), (.not (.t 89)), (some (86, false))⟩, ⟨(some 91), (.pick (.t 86) (.c (.bool true)) (.t 90)), none⟩, ⟨(some 92), (.mov (.t 91)), none⟩, ⟨(some 93), (.mov (.t 11)), (some (92, false))⟩, ⟨(some 94), (.mov (.t 13)), (some (92, false))⟩, ⟨(some 95), (.beq true (.t 93) (.t 94)), (some (92, false))⟩, ⟨(some 96), (.pick (.t 92) (.c (.bool true)) (.t 95)), none⟩, ⟨(some 97), (.mov (.t 96)), none⟩, ⟨(some 98), (.mov (.t 10)), (some (97, false))⟩, ⟨(some 99), (.mov (.t 12)), (some (97, false))⟩, ⟨(some 100), (.bin .neq (.t 98) (.t 99)), (some (97, false))⟩, ⟨(some 101), (.pick (.t 97) (.c (.bool true)) (.t 100)), none⟩, ⟨(some 102), (.mov (.t 101)), none⟩, ⟨(some 103), (.mov (.t 11)), (some (102, false))⟩, ⟨(some 104), (.mov (.t 5)), (some (102, false))⟩, ⟨(some 105), (.call 12 [(.t 104)]), (some (102, false))⟩, ⟨(some 106), (.mov (.t 105)), (some (102, false))⟩, ⟨(some 107), (.mov (.t 5)), (some (106, true))⟩, ⟨(some 108), (.call 13 [(.t 107)]), (some (106, true))⟩, ⟨(some 109), (.bin .eql (.t 108) (.c (.int .i64 0))), (some (106, true))⟩, ⟨(some 110), (.pick (.t 106) (.t 109) (.c (.bool false))), (some (102, false))⟩, ⟨(some 111), (.beq true (.t 103) (.t 110)), (some (102, false))⟩, ⟨(some 112), (.pick (.t 102) (.c (.bool true)) (.t 111)), none⟩]) (.cond (.t 112) (.seq (.ops [⟨(some 4), (.mov (.c (.bool false))), none⟩]) .ret) .skip)) (.seq (.seq (.ops [⟨(some 113), (.mov (.t 11)), none⟩]) (.cond (.t 113) (.seq (.ops [⟨(some 115), (.mov (.t 5)), none⟩, ⟨(some 116), (.len (.t 115)), none⟩, ⟨(some 117), (.mov (.t 10)), none⟩, ⟨(some 118), (.call 14 [(.t 116), (.t 117)]), none⟩, ⟨(some 114), (.mov (.t 118)), none⟩, ⟨(some 119), (.ext (.t 114) 0), none⟩, ⟨(some 120), (.ext (.t 114) 1), none⟩, ⟨(some 14), (.mov (.t 119)), none⟩, ⟨(some 15), (.mov (.t 120)), none⟩]) (.seq (.ops [⟨(some 122), (.mov (.t 5)), none⟩, ⟨(some 123), (.len (.t 122)), none⟩, ⟨(some 124), (.call 15 [(.t 123)]), none⟩, ⟨(some 121), (.mov (.t 124)), none⟩, ⟨(some 125), (.ext (.t 121) 0), none⟩, ⟨(some 126), (.ext (.t 121) 1), none⟩, ⟨(some 16), (.mov (.t 125)), none⟩, ⟨(some 17), (.mov (.t 126)), none⟩]) (.seq (.ops [⟨(some 127), (.mov (.t 15)), none⟩, ⟨(some 128), (.not (.t 127)), none⟩, ⟨(some 129), (.mov (.t 128)), none⟩, ⟨(some 130), (.mov (.t 14)), (some (129, false))⟩, ⟨(some 131), (.mov (.t 5)), (some (129, false))⟩, ⟨(some 132), (.call 11 [(.t 130), (.t 131)]), (some (129, false))⟩, ⟨(some 133), (.not (.t 132)), (some (129, false))⟩, ⟨(some 134), (.pick (.t 129) (.c (.bool true)) (.t 133)), none⟩, ⟨(some 135), (.mov (.t 134)), none⟩, ⟨(some 136), (.mov (.t 17)), (some (135, false))⟩, ⟨(some 137), (.not (.t 136)), (some (135, false))⟩, ⟨(some 138), (.pick (.t 135) (.c (.bool true)) (.t 137)), none⟩, ⟨(some 139), (.mov (.t 138)), none⟩, ⟨(some 140), (.mov (.t 10)), (some (139, false))⟩, ⟨(some 141), (.bin .lss (.t 140) (.c (.int .i64 0))), (some (139, false))⟩, ⟨(some 142), (.pick (.t 139) (.c (.bool true)) (.t 141)), none⟩, ⟨(some 143), (.mov (.t 142)), none⟩, ⟨(some 144), (.mov (.t 10)), (some (143, false))⟩, ⟨(some 145), (.mov (.t 16)), (some (143, false))⟩, ⟨(some 146), (.bin .geq (.t 144) (.t 145)), (some (143, false))⟩, ⟨(some 147), (.pick (.t 143) (.c (.bool true)) (.t 146)), none⟩, ⟨(some 148), (.mov (.t 147)), none⟩, ⟨(some 149), (.mov (.t 7)), (some (148, false))⟩, ⟨(some 150), (.mov (.t 10)), (some (148, false))⟩, ⟨(some 151), (.bin .add (.t 150) (.c (.int .i64 1))), (some (148, false))⟩, ⟨(some 152), (.mov (.t 16)), (some (148, false))⟩, ⟨(some 153), (.bin .lss (.t 151) (.t 152)), (some (148, false))⟩, ⟨(some 154), (.beq true (.t 149) (.t 153)), (some (148, false))⟩, ⟨(some 155), (.pick (.t 148) (.c (.bool true)) (.t 154)), none⟩]) (.cond (.t 155) (.seq (.ops [⟨(some 4), (.mov (.c (.bool false))), none⟩]) .ret) .skip)))) .skip)) (.seq (.seq (.ops [⟨(some 156), (.mov (.t 7)), none⟩]) (.cond (.t 156) (.seq (.ops [⟨(some 158), (.mov (.t 6)), none⟩, ⟨(some 159), (.call 9 [(.t 158)]), none⟩, ⟨(some 157), (.mov (.t 159)), none⟩, ⟨(some 160), (.ext (.t 157) 0), none⟩, ⟨(some 161), (.ext (.t 157) 1), none⟩, ⟨(some 18), (.mov (.t 160)), none⟩, ⟨(some 19), (.mov (.t 161)), none⟩]) (.seq (.seq (.ops [⟨(some 162), (.mov (.t 5)), none⟩, ⟨(some 163), (.mov (.t 6)), none⟩, ⟨(some 164), (.call 16 [(.t 162), (.t 163)]), none⟩, ⟨(some 165), (.not (.t 164)), none⟩, ⟨(some 166), (.mov (.t 165)), none⟩, ⟨(some 167), (.mov (.t 6)), (some (166, false))⟩, ⟨(some 168), (.len (.t 167)), (some (166, false))⟩, ⟨(some 169), (.mov (.t 5)), (some (166, false))⟩, ⟨(some 170), (.len (.t 169)), (some (166, false))⟩, ⟨(some 171), (.bin .neq (.t 168) (.t 170)), (some (166, false))⟩, ⟨(some 172), (.pick (.t 166) (.c (.bool true)) (.t 171)), none⟩, ⟨(some 173), (.mov (.t 172)), none⟩, ⟨(some 174), (.mov (.t 6)), (some (173, false))⟩, ⟨(some 175), (.call 13 [(.t 174)]), (some (173, false))⟩, ⟨(some 176), (.bin .neq (.t 175) (.c (.int .i64 0))), (some (173, false))⟩, ⟨(some 177), (.pick (.t 173) (.c (.bool true)) (.t 176)), none⟩, ⟨(some 178), (.mov (.t 177)), none⟩, ⟨(some 179), (.mov (.t 19)), (some (178, false))⟩, ⟨(some 180), (.not (.t 179)), (some (178, false))⟩, ⟨(some 181), (.pick (.t 178) (.c (.bool true)) (.t 180)), none⟩, ⟨(some 182), (.mov (.t 181)), none⟩, ⟨(some 183), (.mov (.t 11)), (some (182, false))⟩, ⟨(some 184), (.mov (.t 183)), (some (182, false))⟩, ⟨(some 185), (.mov (.t 18)), (some (184, true))⟩, ⟨(some 186), (.mov (.t 10)), (some (184, true))⟩, ⟨(some 187), (.bin .add (.t 186) (.c (.int .i64 1))), (some (184, true))⟩, ⟨(some 188), (.bin .neq (.t 185) (.t 187)), (some (184, true))⟩, ⟨(some 189), (.pick (.t 184) (.t 188) (.c (.bool false))), (some (182, false))⟩, ⟨(some 190), (.pick (.t 182) (.c (.bool true)) (.t 189)), none⟩]) (.cond (.t 190) (.seq (.ops [⟨(some 4), (.mov (.c (.bool false))), none⟩]) .ret) .skip)) (.seq (.ops [⟨(some 191), (.mov (.t 18)), none⟩, ⟨(some 192), (.bin .gtr (.t 191) (.c (.int .i64 0))), none⟩]) (.cond (.t 192) (.seq (.ops [⟨(some 194), (.mov (.t 5)), none⟩, ⟨(some 195), (.len (.t 194)), none⟩, ⟨(some 196), (.mov (.t 18)), none⟩, ⟨(some 197), (.bin .sub (.t 196) (.c (.int .i64 1))), none⟩, ⟨(some 198), (.call 14 [(.t 195), (.t 197)]), none⟩, ⟨(some 193), (.mov (.t 198)), none⟩, ⟨(some 199), (.ext (.t 193) 0), none⟩, ⟨(some 200), (.ext (.t 193) 1), none⟩, ⟨(some 20), (.mov (.t 199)), none⟩, ⟨(some 21), (.mov (.t 200)), none⟩]) (.seq (.ops [⟨(some 201), (.mov (.t 21)), none⟩, ⟨(some 202), (.not (.t 201)), none⟩, ⟨(some 203), (.mov (.t 202)), none⟩, ⟨(some 204), (.mov (.t 5)), (some (203, false))⟩, ⟨(some 205), (.mov (.t 20)), (some (203, false))⟩, ⟨(some 206), (.call 16 [(.t 204), (.t 205)]), (some (203, false))⟩, ⟨(some 207), (.pick (.t 203) (.c (.bool true)) (.t 206)), none⟩]) (.cond (.t 207) (.seq (.ops [⟨(some 4), (.mov (.c (.bool false))), none⟩]) .ret) .skip))) .skip)))) .skip)) (.seq (.ops [⟨(some 208), (.mov (.t 1)), none⟩, ⟨(some 209), (.call 17 [(.t 208)]), none⟩, ⟨(some 22), (.mov (.t 209)), none⟩]) (.seq (.ops [⟨(some 211), (.mov (.t 22)), none⟩, ⟨(some 212), (.call 18 [(.t 211)]), none⟩, ⟨(some 210), (.mov (.t 212)), none⟩, ⟨(some 213), (.ext (.t 210) 0), none⟩, ⟨(some 214), (.ext (.t 210) 1), none⟩, ⟨(some 23), (.mov (.t 213)), none⟩, ⟨(some 24), (.mov (.t 214)), none⟩]) (.seq (.ops [⟨(some 216), (.mov (.t 22)), none⟩, ⟨(some 217), (.call 19 [(.t 216)]), none⟩, ⟨(some 215), (.mov (.t 217)), none⟩, ⟨(some 218), (.ext (.t 215) 0), none⟩, ⟨(some 219), (.ext (.t 215) 1), none⟩, ⟨(some 25), (.mov (.t 218)), none⟩, ⟨(some 26), (.mov (.t 219)), none⟩]) (.seq (.ops [⟨(some 221), (.mov (.t 22)), none⟩, ⟨(some 222), (.call 15 [(.t 221)]), none⟩, ⟨(some 220), (.mov (.t 222)), none⟩, ⟨(some 223), (.ext (.t 220) 0), none⟩, ⟨(some 224), (.ext (.t 220) 1), none⟩, ⟨(some 27), (.mov (.t 223)), none⟩, ⟨(some 28), (.mov (.t 224)), none⟩]) (.seq (.ops [⟨(some 226), (.mov (.t 22)), none⟩, ⟨(some 227), (.call 20 [(.t 226)]), none⟩, ⟨(some 225), (.mov (.t 227)), none⟩, ⟨(some 228), (.ext (.t 225) 0), none⟩, ⟨(some 229), (.ext (.t 225) 1), none⟩, ⟨(some 29), (.mov (.t 228)), none⟩, ⟨(some 30), (.mov (.t 229)), none⟩]) (.seq (.ops [⟨(some 231), (.mov (.t 22)), none⟩, ⟨(some 232), (.call 21 [(.t 231)]), none⟩, ⟨(some 230), (.mov (.t 232)), none⟩, ⟨(some 233), (.ext (.t 230) 0), none⟩, ⟨(some 234), (.ext (.t 230) 1), none⟩, ⟨(some 235), (.ext (.t 230) 2), none⟩, ⟨(some 31), (.mov (.t 233)), none⟩, ⟨(some 32), (.mov (.t 234)), none⟩, ⟨(some 33), (.mov (.t 235)), none⟩]) (.seq (.ops [⟨(some 237), (.mov (.t 22)), none⟩, ⟨(some 238), (.call 22 [(.t 237)]), none⟩, ⟨(some 236), (.mov (.t 238)), none⟩, ⟨(some 239), (.ext (.t 236) 0), none⟩, ⟨(some 240), (.ext (.t 236) 1), none⟩, ⟨(some 241), (.ext (.t 236) 2), none⟩, ⟨(some 34), (.mov (.t 239)), none⟩, ⟨(some 35), (.mov (.t 240)), none⟩, ⟨(some 36), (.mov (.t 241)), none⟩]) (.seq (.ops [⟨(some 243), (.mov (.t 1)), none⟩, ⟨(some 244), (.call 23 [(.t 243)]), none⟩, ⟨(some 242), (.mov (.t 244)), none⟩, ⟨(some 245), (.ext (.t 242) 0), none⟩, ⟨(some 246), (.ext (.t 242) 1), none⟩, ⟨(some 37), (.mov (.t 245)), none⟩, ⟨(some 38), (.mov (.t 246)), none⟩]) (.seq (.ops [⟨(some 248), (.mov (.t 37)), none⟩, ⟨(some 249), (.mov (.t 38)), none⟩, ⟨(some 250), (.call 24 [(.t 248), (.t 249)]), none⟩, ⟨(some 247), (.mov (.t 250)), none⟩, ⟨(some 251), (.ext (.t 247) 0), none⟩, ⟨(some 252), (.ext (.t 247) 1), none⟩, ⟨(some 39), (.mov (.t 251)), none⟩, ⟨(some 40), (.mov (.t 252)), none⟩]) (.seq (.ops [⟨(some 254), (.mov (.t 37)), none⟩, ⟨(some 255), (.mov (.t 38)), none⟩, ⟨(some 256), (.call 25 [(.t 254), (.t 255)]), none⟩, ⟨(some 253), (.mov (.t 256)), none⟩, ⟨(some 257), (.ext (.t 253) 0), none⟩, ⟨(some 258), (.ext (.t 253) 1), none⟩, ⟨(some 41), (.mov (.t 257)), none⟩, ⟨(some 42), (.mov (.t 258)), none⟩]) (.seq (.ops [⟨(some 260), (.mov (.t 1)), none⟩, ⟨(some 261), (.call 26 [(.t 260)]), none⟩, ⟨(some 259), (.mov (.t 261)), none⟩, ⟨(some 262), (.ext (.t 259) 0), none⟩, ⟨(some 263), (.ext (.t 259) 1), none⟩, ⟨(some 43), (.mov (.t 262)), none⟩, ⟨(some 44), (.mov (.t 263)), none⟩]) (.seq (.ops [⟨(some 265), (.mov (.t 43)), none⟩, ⟨(some 266), (.mov (.t 44)), none⟩, ⟨(some 267), (.call 14 [(.t 265), (.t 266)]), none⟩, ⟨(some 264), (.mov (.t 267)), none⟩, ⟨(some 268), (.ext (.t 264) 0), none⟩, ⟨(some 269), (.ext (.t 264) 1), none⟩, ⟨(some 45), (.mov (.t 268)), none⟩, ⟨(some 46), (.mov (.t 269)), none⟩]) (.seq (.ops [⟨(some 271), (.mov (.t 43)), none⟩, ⟨(some 272), (.mov (.t 44)), none⟩, ⟨(some 273), (.call 27 [(.t 271), (.t 272)]), none⟩, ⟨(some 270), (.mov (.t 273)), none⟩, ⟨(some 274), (.ext (.t 270) 0), none⟩, ⟨(some 275), (.ext (.t 270) 1), none⟩, ⟨(some 47), (.mov (.t 274)), none⟩, ⟨(some 48), (.mov (.t 275)), none⟩]) (.seq (.seq (.ops [⟨(some 276), (.mov (.t 24)), none⟩, ⟨(some 277), (.mov (.t 26)), none⟩, ⟨(some 278), (.beq true (.t 276) (.t 277)), none⟩, ⟨(some 279), (.mov (.t 278)), none⟩, ⟨(some 280), (.mov (.t 23)), (some (279, false))⟩, ⟨(some 281), (.mov (.t 25)), (some (279, false))⟩, ⟨(some 282), (.call 11 [(.t 280), (.t 281)]), (some (279, false))⟩, ⟨(some 283), (.not (.t 282)), (some (279, false))⟩, ⟨(some 284), (.pick (.t 279) (.c (.bool true)) (.t 283)), none⟩, ⟨(some 285), (.mov (.t 284)), none⟩, ⟨(some 286), (.mov (.t 28)), (some (285, false))⟩, ⟨(some 287), (.mov (.t 30)), (some (285, false))⟩, ⟨(some 288), (.beq true (.t 286) (.t 287)), (some (285, false))⟩, ⟨(some 289), (.pick (.t 285) (.c (.bool true)) (.t 288)), none⟩, ⟨(some 290), (.mov (.t 289)), none⟩, ⟨(some 291), (.mov (.t 27)), (some (290, false))⟩, ⟨(some 292), (.mov (.t 29)), (some (290, false))⟩, ⟨(some 293), (.bin .neq (.t 291) (.t 292)), (some (290, false))⟩, ⟨(some 294), (.pick (.t 290) (.c (.bool true)) (.t 293)), none⟩, ⟨(some 295), (.mov (.t 294)), none⟩, ⟨(some 296), (.mov (.t 33)), (some (295, false))⟩, ⟨(some 297), (.mov (.t 36)), (some (295, false))⟩, ⟨(some 298), (.beq true (.t 296) (.t 297)), (some (295, false))⟩, ⟨(some 299), (.pick (.t 295) (.c (.bool true)) (.t 298)), none⟩, ⟨(some 300), (.mov (.t 299)), none⟩, ⟨(some 301), (.mov (.t 31)), (some (300, false))⟩, ⟨(some 302), (.mov (.t 34)), (some (300, false))⟩, ⟨(some 303), (.bin .neq (.t 301) (.t 302)), (some (300, false))⟩, ⟨(some 304), (.pick (.t 300) (.c (.bool true)) (.t 303)), none⟩, ⟨(some 305), (.mov (.t 304)), none⟩, ⟨(some 306), (.mov (.t 32)), (some (305, false))⟩, ⟨(some 307), (.mov (.t 35)), (some (305, false))⟩, ⟨(some 308), (.bin .neq (.t 306) (.t 307)), (some (305, false))⟩, ⟨(some 309), (.pick (.t 305) (.c (.bool true)) (.t 308)), none⟩, ⟨(some 310), (.mov (.t 309)), none⟩, ⟨(some 311), (.mov (.t 33)), (some (310, false))⟩, ⟨(some 312), (.mov (.t 28)), (some (310, false))⟩, ⟨(some 313), (.beq true (.t 311) (.t 312)), (some (310, false))⟩, ⟨(some 314), (.pick (.t 310) (.c (.bool true)) (.t 313)), none⟩, ⟨(some 315), (.mov (.t 314)), none⟩, ⟨(some 316), (.mov (.t 40)), (some (315, false))⟩, ⟨(some 317), (.mov (.t 42)), (some (315, false))⟩, ⟨(some 318), (.beq true (.t 316) (.t 317)), (some (315, false))⟩, ⟨(some 319), (.pick (.t 315) (.c (.bool true)) (.t 318)), none⟩, ⟨(some 320), (.mov (.t 319)), none⟩, ⟨(some 321), (.mov (.t 39)), (some (320, false))⟩, ⟨(some 322), (.mov (.t 41)), (some (320, false))⟩, ⟨(some 323), (.bin .neq (.t 321) (.t 322)), (some (320, false))⟩, ⟨(some 324), (.pick (.t 320) (.c (.bool true)) (.t 323)), none⟩, ⟨(some 325), (.mov (.t 324)), none⟩, ⟨(some 326), (.mov (.t 46)), (some (325, false))⟩, ⟨(some 327), (.mov (.t 48)), (some (325, false))⟩, ⟨(some 328), (.beq true (.t 326) (.t 327)), (some (325, false))⟩, ⟨(some 329), (.pick (.t 325) (.c (.bool true)) (.t 328)), none⟩, ⟨(some 330), (.mov (.t 329)), none⟩, ⟨(some 331), (.mov (.t 45)), (some (330, false))⟩, ⟨(some 332), (.mov (.t 47)), (some (330, false))⟩, ⟨(some 333), (.call 11 [(.t 331), (.t 332)]), (some (330, false))⟩, ⟨(some 334), (.not (.t 333)), (some (330, false))⟩, ⟨(some 335), (.pick (.t 330) (.c (.bool true)) (.t 334)), none⟩, ⟨(some 336), (.mov (.t 335)), none⟩, ⟨(some 337), (.mov (.t 24)), (some (336, false))⟩, ⟨(some 338), (.mov (.t 28)), (some (336, false))⟩, ⟨(some 339), (.mov (.t 338)), (some (336, false))⟩, ⟨(some 340), (.mov (.t 27)), (some (339, true))⟩, ⟨(some 341), (.bin .gtr (.t 340) (.c (.int .i64 0))), (some (339, true))⟩, ⟨(some 342), (.pick (.t 339) (.t 341) (.c (.bool false))), (some (336, false))⟩, ⟨(some 343), (.beq true (.t 337) (.t 342)), (some (336, false))⟩, ⟨(some 344), (.pick (.t 336) (.c (.bool true)) (.t 343)), none⟩]) (.cond (.t 344) (.seq (.ops [⟨(some 4), (.mov (.c (.bool false))), none⟩]) .ret) .skip)) (.seq (.seq (.ops [⟨(some 345), (.mov (.t 28)), none⟩]) (.cond (.t 345) (.seq (.ops [⟨(some 49), (.mov (.c (.int .i64 0))), none⟩, ⟨(some 50), (.mov (.c (.int .i64 0))), none⟩]) (.seq (.seq (.ops [⟨(some 51), (.mov (.c (.int .i64 0))), none⟩]) (.block 0 (.loop (.seq (.seq (.ops [⟨(some 346), (.mov (.t 51)), none⟩, ⟨(some 347), (.mov (.t 22)), none⟩, ⟨(some 348), (.bin .leq (.t 346) (.t 347)), none⟩]) (.cond (.t 348) .skip (.exit 0))) (.seq (.block 1 (.seq (.ops [⟨(some 352), (.mov (.t 22)), none⟩, ⟨(some 353), (.mov (.t 51)), none⟩, ⟨(some 354), (.call 24 [(.t 352), (.t 353)]), none⟩, ⟨(some 351), (.mov (.t 354)), none⟩, ⟨(some 355), (.ext (.t 351) 0), none⟩, ⟨(some 356), (.ext (.t 351) 1), none⟩, ⟨(some 52), (.mov (.t 355)), none⟩, ⟨(some 53), (.mov (.t 356)), none⟩]) (.seq (.seq (.ops [⟨(some 357), (.mov (.t 53)), none⟩, ⟨(some 358), (.not (.t 357)), none⟩, ⟨(some 359), (.mov (.t 358)), none⟩, ⟨(some 360), (.mov (.t 51)), (some (359, false))⟩, ⟨(some 361), (.bin .eql (.t 360) (.c (.int .i64 0))), (some (359, false))⟩, ⟨(some 362), (.mov (.t 361)), (some (359, false))⟩, ⟨(some 363), (.mov (.t 52)), (some (362, true))⟩, ⟨(some 364), (.mov (.t 27)), (some (362, true))⟩, ⟨(some 365), (.bin .neq (.t 363) (.t 364)), (some (362, true))⟩, ⟨(some 366), (.pick (.t 362) (.t 365) (.c (.bool false))), (some (359, false))⟩, ⟨(some 367), (.pick (.t 359) (.c (.bool true)) (.t 366)), none⟩]) (.cond (.t 367) (.seq (.ops [⟨(some 4), (.mov (.c (.bool false))), none⟩]) .ret) .skip)) (.seq (.ops [⟨(some 368), (.mov (.t 49)), none⟩, ⟨(some 369), (.mov (.t 52)), none⟩, ⟨(some 370), (.bin .add (.t 368) (.t 369)), none⟩, ⟨(some 49), (.mov (.t 370)), none⟩]) (.ops [⟨(some 371), (.mov (.t 50)), none⟩, ⟨(some 372), (.mov (.t 51)), none⟩, ⟨(some 373), (.mov (.t 52)), none⟩, ⟨(some 374), (.bin .mul (.t 372) (.t 373)), none⟩, ⟨(some 375), (.bin .add (.t 371) (.t 374)), none⟩, ⟨(some 50), (.mov (.t 375)), none⟩]))))) (.ops [⟨(some 349), (.mov (.t 51)), none⟩, ⟨(some 350), (.bin .add (.t 349) (.c (.int .i64 1))), none⟩, ⟨(some 51), (.mov (.t 350)), none⟩])))))) (.seq (.ops [⟨(some 376), (.mov (.t 49)), none⟩, ⟨(some 377), (.mov (.t 22)), none⟩, ⟨(some 378), (.call 28 [(.t 377)]), none⟩, ⟨(some 379), (.bin .neq (.t 376) (.t 378)), none⟩, ⟨(some 380), (.mov (.t 379)), none⟩, ⟨(some 381), (.mov (.t 50)), (some (380, false))⟩, ⟨(some 382), (.mov (.t 49)), (some (380, false))⟩, ⟨(some 383), (.bin .neq (.t 381) (.t 382)), (some (380, false))⟩, ⟨(some 384), (.pick (.t 380) (.c (.bool true)) (.t 383)), none⟩, ⟨(some 385), (.mov (.t 384)), none⟩, ⟨(some 386), (.mov (.t 27)), (some (385, false))⟩, ⟨(some 387), (.mov (.t 32)), (some (385, false))⟩, ⟨(some 388), (.bin .mul (.t 386) (.t 387)), (some (385, false))⟩, ⟨(some 389), (.mov (.t 31)), (some (385, false))⟩, ⟨(some 390), (.mov (.t 49)), (some (385, false))⟩, ⟨(some 391), (.bin .mul (.t 389) (.t 390)), (some (385, false))⟩, ⟨(some 392), (.bin .neq (.t 388) (.t 391)), (some (385, false))⟩, ⟨(some 393), (.pick (.t 385) (.c (.bool true)) (.t 392)), none⟩]) (.cond (.t 393) (.seq (.ops [⟨(some 4), (.mov (.c (.bool false))), none⟩]) .ret) .skip)))) .skip)) (.seq (.seq (.ops [⟨(some 394), (.mov (.t 24)), none⟩]) (.cond (.t 394) (.seq (.ops [⟨(some 396), (.mov (.t 23)), none⟩, ⟨(some 397), (.call 9 [(.t 396)]), none⟩, ⟨(some 395), (.mov (.t 397)), none⟩, ⟨(some 398), (.ext (.t 395) 0), none⟩, ⟨(some 399), (.ext (.t 395) 1), none⟩, ⟨(some 54), (.mov (.t 398)), none⟩, ⟨(some 55), (.mov (.t 399)), none⟩]) (.seq (.ops [⟨(some 400), (.mov (.t 55)), none⟩, ⟨(some 401), (.not (.t 400)), none⟩, ⟨(some 402), (.mov (.t 401)), none⟩, ⟨(some 403), (.mov (.t 54)), (some (402, false))⟩, ⟨(some 404), (.bin .neq (.t 403) (.c (.int .i64 0))), (some (402, false))⟩, ⟨(some 405), (.pick (.t 402) (.c (.bool true)) (.t 404)), none⟩]) (.cond (.t 405) (.seq (.ops [⟨(some 4), (.mov (.c (.bool false))), none⟩]) .ret) .skip))) .skip)) (.seq (.seq (.ops [⟨(some 406), (.mov (.t 46)), none⟩]) (.cond (.t 406) (.seq (.ops [⟨(some 408), (.mov (.t 45)), none⟩, ⟨(some 409), (.call 9 [(.t 408)]), none⟩, ⟨(some 407), (.mov (.t 409)), none⟩, ⟨(some 410), (.ext (.t 407) 0), none⟩, ⟨(some 411), (.ext (.t 407) 1), none⟩, ⟨(some 56), (.mov (.t 410)), none⟩, ⟨(some 57), (.mov (.t 411)), none⟩]) (.seq (.ops [⟨(some 412), (.mov (.t 57)), none⟩, ⟨(some 413), (.mov (.t 412)), none⟩, ⟨(some 414), (.mov (.t 56)), (some (413, true))⟩, ⟨(some 415), (.mov (.t 44)), (some (413, true))⟩, ⟨(some 416), (.bin .eql (.t 414) (.t 415)), (some (413, true))⟩, ⟨(some 417), (.pick (.t 413) (.t 416) (.c (.bool false))), none⟩, ⟨(some 4), (.mov (.t 417)), none⟩]) .ret)) .skip)) (.seq (.ops [⟨(some 4), (.mov (.c (.bool true))), none⟩]) .ret))))))))))))))))))))))))))))
theorem cc3 : ccode Try.prog (min Try.f3.ntmps pbase) (Try.f3.body.getD .skip) = some ac3 := by kernel_rfl
def ac5 : ACode := (.seq (.ops [⟨(some 4), (.mov (.c (.bool false))), none⟩]) (.seq (.ops [⟨(some 5), (.mov (.t 0)), none⟩, ⟨(some 6), (.len (.t 5)), none⟩, ⟨(some 7), (.bin .gtr (.t 6) (.c (.int .i64 1048576))), none⟩, ⟨(some 8), (.mov (.t 7)), none⟩, ⟨(some 9), (.mov (.t 1)), (some (8, false))⟩, ⟨(some 10), (.len (.t 9)), (some (8, false))⟩, ⟨(some 11), (.mov (.t 0)), (some (8, false))⟩, ⟨(some 12), (.len (.t 11)), (some (8, false))⟩, ⟨(some 13), (.bin .sub (.c (.int .i64 1048576)) (.t 12)), (some (8, false))⟩, ⟨(some 14), (.bin .gtr (.t 10) (.t 13)), (some (8, false))⟩, ⟨(some 15), (.pick (.t 8) (.c (.bool true)) (.t 14)), none⟩, ⟨(some 4), (.mov (.t 15)), none⟩]) .ret))
theorem cc5 : ccode Try.prog (min Try.f5.ntmps pbase) (Try.f5.body.getD .skip) = some ac5 := by kernel_rfl
def ac6 : ACode := (.seq (.ops [⟨(some 2), (.nils 1), none⟩]) (.seq (.ops [⟨(some 3), (.mov (.t 0)), none⟩, ⟨(some 4), (.call 29 [(.t 3)]), none⟩, ⟨(some 2), (.mov (.t 4)), none⟩]) .ret))
theorem cc6 : ccode Try.prog (min Try.f6.ntmps pbase) (Try.f6.body.getD .skip) = some ac6 := by kernel_rfl
def ac7 : ACode := (.seq (.ops [⟨(some 2), (.nils 1), none⟩, ⟨(some 3), (.mov (.c (.bool false))), none⟩]) (.seq (.seq (.ops [⟨(some 5), (.mov (.t 0)), none⟩, ⟨(some 6), (.call 12 [(.t 5)]), none⟩, ⟨(some 7), (.not (.t 6)), none⟩]) (.cond (.t 7) (.seq (.ops [⟨(some 2), (.nils 1), none⟩, ⟨(some 3), (.mov (.c (.bool false))), none⟩]) .ret) .skip)) (.seq (.ops [⟨(some 8), (.mov (.t 0)), none⟩, ⟨(some 9), (.call 30 [(.t 8)]), none⟩, ⟨(some 4), (.mov (.t 9)), none⟩]) (.seq (.seq (.ops [⟨(some 10), (.mov (.t 0)), none⟩, ⟨(some 11), (.call 31 [(.t 10)]), none⟩, ⟨(some 12), (.not (.t 11)), none⟩]) (.cond (.t 12) (.ops [⟨(some 13), (.mov (.t 4)), none⟩, ⟨(some 14), (.bin .add (.t 13) (.c (.int .i64 1))), none⟩, ⟨(some 4), (.mov (.t 14)), none⟩]) .skip)) (.seq (.ops [⟨(some 15), (.mov (.t 0)), none⟩, ⟨(some 16), (.len (.t 15)), none⟩, ⟨(some 17), (.mov (.t 4)), none⟩, ⟨(some 18), (.call 14 [(.t 16), (.t 17)]), none⟩, ⟨(some 19), (.ext (.t 18) 0), none⟩, ⟨(some 20), (.ext (.t 18) 1), none⟩, ⟨(some 2), (.mov (.t 19)), none⟩, ⟨(some 3), (.mov (.t 20)), none⟩]) .ret)))))
theorem cc7 : ccode Try.prog (min Try.f7.ntmps pbase) (Try.f7.body.getD .skip) = some ac7 := by kernel_rfl
def ac8 : ACode := (.seq (.ops [⟨(some 2), (.nils 1), none⟩, ⟨(some 3), (.mov (.c (.bool false))), none⟩]) (.seq (.seq (.ops [⟨(some 5), (.mov (.t 0)), none⟩, ⟨(some 6), (.call 32 [(.t 5)]), none⟩, ⟨(some 7), (.not (.t 6)), none⟩]) (.cond (.t 7) (.seq (.ops [⟨(some 2), (.nils 1), none⟩, ⟨(some 3), (.mov (.c (.bool false))), none⟩]) .ret) .skip)) (.seq (.ops [⟨(some 8), (.mov (.t 0)), none⟩, ⟨(some 9), (.call 33 [(.t 8)]), none⟩, ⟨(some 4), (.mov (.t 9)), none⟩]) (.seq (.seq (.ops [⟨(some 10), (.mov (.t 0)), none⟩, ⟨(some 11), (.call 34 [(.t 10)]), none⟩, ⟨(some 12), (.len (.t 11)), none⟩, ⟨(some 13), (.bin .eql (.t 12) (.c (.int .i64 0))), none⟩]) (.cond (.t 13) (.ops [⟨(some 14), (.mov (.t 4)), none⟩, ⟨(some 15), (.bin .add (.t 14) (.c (.int .i64 1))), none⟩, ⟨(some 4), (.mov (.t 15)), none⟩]) .skip)) (.seq (.seq (.ops [⟨(some 16), (.mov (.t 4)), none⟩, ⟨(some 17), (.mov (.t 0)), none⟩, ⟨(some 18), (.len (.t 17)), none⟩, ⟨(some 19), (.call 35 [(.t 18)]), none⟩, ⟨(some 20), (.bin .geq (.t 16) (.t 19)), none⟩]) (.cond (.t 20) (.seq (.ops [⟨(some 2), (.nils 1), none⟩, ⟨(some 3), (.mov (.c (.bool false))), none⟩]) .ret) .skip)) (.seq (.ops [⟨(some 21), (.mov (.t 0)), none⟩, ⟨(some 22), (.len (.t 21)), none⟩, ⟨(some 23), (.mov (.t 4)), none⟩, ⟨(some 24), (.call 36 [(.t 22), (.t 23)]), none⟩, ⟨(some 2), (.mov (.t 24)), none⟩, ⟨(some 3), (.mov (.c (.bool true))), none⟩]) .ret))))))
theorem cc8 : ccode Try.prog (min Try.f8.ntmps pbase) (Try.f8.body.getD .skip) = some ac8 := by kernel_rfl
def ac9 : ACode := (.seq (.ops [⟨(some 2), (.mov (.c (.int .i64 0))), none⟩, ⟨(some 3), (.mov (.c (.bool false))), none⟩]) (.seq (.seq (.ops [⟨(some 4), (.mov (.t 0)), none⟩, ⟨(some 5), (.call 12 [(.t 4)]), none⟩, ⟨(some 6), (.not (.t 5)), none⟩, ⟨(some 7), (.mov (.t 6)), none⟩, ⟨(some 8), (.mov (.t 0)), (some (7, false))⟩, ⟨(some 9), (.call 31 [(.t 8)]), (some (7, false))⟩, ⟨(some 10), (.pick (.t 7) (.c (.bool true)) (.t 9)), none⟩]) (.cond (.t 10) (.seq (.ops [⟨(some 2), (.mov (.c (.int .i64 0))), none⟩, ⟨(some 3), (.mov (.c (.bool false))), none⟩]) .ret) .skip)) (.seq (.ops [⟨(some 11), (.mov (.t 0)), none⟩, ⟨(some 12), (.call 30 [(.t 11)]), none⟩, ⟨(some 2), (.mov (.t 12)), none⟩, ⟨(some 3), (.mov (.c (.bool true))), none⟩]) .ret)))
theorem cc9 : ccode Try.prog (min Try.f9.ntmps pbase) (Try.f9.body.getD .skip) = some ac9 := by kernel_rfl
def ac10 : ACode := (.seq (.ops [⟨(some 2), (.mov (.c (.int .i64 0))), none⟩, ⟨(some 3), (.mov (.c (.bool false))), none⟩]) (.seq (.seq (.ops [⟨(some 4), (.mov (.t 0)), none⟩, ⟨(some 5), (.call 32 [(.t 4)]), none⟩, ⟨(some 6), (.not (.t 5)), none⟩, ⟨(some 7), (.mov (.t 6)), none⟩, ⟨(some 8), (.mov (.t 0)), (some (7, false))⟩, ⟨(some 9), (.call 34 [(.t 8)]), (some (7, false))⟩, ⟨(some 10), (.len (.t 9)), (some (7, false))⟩, ⟨(some 11), (.bin .gtr (.t 10) (.c (.int .i64 0))), (some (7, false))⟩, ⟨(some 12), (.pick (.t 7) (.c (.bool true)) (.t 11)), none⟩]) (.cond (.t 12) (.seq (.ops [⟨(some 2), (.mov (.c (.int .i64 0))), none⟩, ⟨(some 3), (.mov (.c (.bool false))), none⟩]) .ret) .skip)) (.seq (.ops [⟨(some 13), (.mov (.t 0)), none⟩, ⟨(some 14), (.call 33 [(.t 13)]), none⟩, ⟨(some 2), (.mov (.t 14)), none⟩, ⟨(some 3), (.mov (.c (.bool true))), none⟩]) .ret)))
theorem cc10 : ccode Try.prog (min Try.f10.ntmps pbase) (Try.f10.body.getD .skip) = some ac10 := by kernel_rfl
def ac11 : ACode := (.seq (.ops [⟨(some 4), (.mov (.c (.bool false))), none⟩]) (.seq (.seq (.ops [⟨(some 6), (.mov (.t 0)), none⟩, ⟨(some 7), (.len (.t 6)), none⟩, ⟨(some 8), (.mov (.t 1)), none⟩, ⟨(some 9), (.len (.t 8)), none⟩, ⟨(some 10), (.bin .neq (.t 7) (.t 9)), none⟩]) (.cond (.t 10) (.seq (.ops [⟨(some 4), (.mov (.c (.bool false))), none⟩]) .ret) .skip)) (.seq (.seq (.ops [⟨(some 11), (.mov (.t 0)), none⟩, ⟨(some 12), (.len (.t 11)), none⟩, ⟨(some 13), (.mov (.c (.int .i64 0))), none⟩]) (.block 0 (.loop (.seq (.ops [⟨(some 14), (.bin .lss (.t 13) (.t 12)), none⟩]) (.seq (.cond (.t 14) .skip (.exit 0)) (.seq (.block 1 (.seq (.ops [⟨(some 15), (.mov (.t 13)), none⟩, ⟨(some 5), (.mov (.t 15)), none⟩]) (.seq (.tree (.take ⟨(some 16), (.mov (.t 0)), none⟩ (.take ⟨(some 17), (.mov (.t 5)), none⟩ (.take ⟨(some 18), (.idx 1 (.t 16) (.t 17)), none⟩ (.take ⟨(some 19), (.ld none (.t 18)), none⟩ (.take ⟨(some 20), (.mov (.t 1)), none⟩ (.take ⟨(some 21), (.mov (.t 5)), none⟩ (.take ⟨(some 22), (.idx 1 (.t 20) (.t 21)), none⟩ (.take ⟨(some 23), (.ld none (.t 22)), none⟩ (.take ⟨(some 24), (.bin .neq (.t 19) (.t 23)), none⟩ .done)))))))))) (.cond (.t 24) (.seq (.ops [⟨(some 4), (.mov (.c (.bool false))), none⟩]) .ret) .skip)))) (.ops [⟨(some 25), (.bin .add (.t 13) (.c (.int .i64 1))), none⟩, ⟨(some 13), (.mov (.t 25)), none⟩]))))))) (.seq (.ops [⟨(some 4), (.mov (.c (.bool true))), none⟩]) .ret))))
theorem cc11 : ccode Try.prog (min Try.f11.ntmps pbase) (Try.f11.body.getD .skip) = some ac11 := by kernel_rfl
def ac12 : ACode := (.seq (.ops [⟨(some 2), (.mov (.c (.bool false))), none⟩]) (.seq (.ops [⟨(some 3), (.mov (.t 0)), none⟩, ⟨(some 4), (.len (.t 3)), none⟩, ⟨(some 5), (.call 37 [(.t 4)]), none⟩, ⟨(some 6), (.mov (.t 5)), none⟩, ⟨(some 7), (.mov (.t 0)), (some (6, true))⟩, ⟨(some 8), (.mov (.t 0)), (some (6, true))⟩, ⟨(some 9), (.len (.t 8)), (some (6, true))⟩, ⟨(some 10), (.call 38 [(.t 7), (.t 9)]), (some (6, true))⟩, ⟨(some 11), (.pick (.t 6) (.t 10) (.c (.bool false))), none⟩, ⟨(some 2), (.mov (.t 11)), none⟩]) .ret))
theorem cc12 : ccode Try.prog (min Try.f12.ntmps pbase) (Try.f12.body.getD .skip) = some ac12 := by kernel_rfl
def ac13 : ACode := (.seq (.ops [⟨(some 2), (.mov (.c (.int .i64 0))), none⟩]) (.seq (.ops [⟨(some 3), (.mov (.c (.int .i64 0))), none⟩]) (.seq (.seq (.ops [⟨(some 6), (.mov (.t 0)), none⟩, ⟨(some 7), (.len (.t 6)), none⟩, ⟨(some 8), (.mov (.c (.int .i64 0))), none⟩]) (.block 0 (.loop (.seq (.ops [⟨(some 9), (.bin .lss (.t 8) (.t 7)), none⟩]) (.seq (.cond (.t 9) .skip (.exit 0)) (.seq (.block 1 (.seq (.ops [⟨(some 10), (.mov (.t 8)), none⟩, ⟨(some 11), (.idx 1 (.t 6) (.t 8)), none⟩, ⟨(some 12), (.ld none (.t 11)), none⟩, ⟨(some 4), (.mov (.t 10)), none⟩, ⟨(some 5), (.mov (.t 12)), none⟩]) (.seq (.ops [⟨(some 13), (.mov (.t 4)), none⟩, ⟨(some 14), (.mov (.t 5)), none⟩, ⟨(some 15), (.bin .eql (.t 13) (.t 14)), none⟩]) (.cond (.t 15) (.ops [⟨(some 16), (.mov (.t 3)), none⟩, ⟨(some 17), (.bin .add (.t 16) (.c (.int .i64 1))), none⟩, ⟨(some 3), (.mov (.t 17)), none⟩]) .skip)))) (.ops [⟨(some 18), (.bin .add (.t 8) (.c (.int .i64 1))), none⟩, ⟨(some 8), (.mov (.t 18)), none⟩]))))))) (.seq (.ops [⟨(some 19), (.mov (.t 3)), none⟩, ⟨(some 2), (.mov (.t 19)), none⟩]) .ret))))
theorem cc13 : ccode Try.prog (min Try.f13.ntmps pbase) (Try.f13.body.getD .skip) = some ac13 := by kernel_rfl
def ac14 : ACode := (.seq (.ops [⟨(some 4), (.nils 1), none⟩, ⟨(some 5), (.mov (.c (.bool false))), none⟩]) (.seq (.seq (.ops [⟨(some 12), (.mov (.t 0)), none⟩, ⟨(some 13), (.call 37 [(.t 12)]), none⟩, ⟨(some 14), (.not (.t 13)), none⟩, ⟨(some 15), (.mov (.t 14)), none⟩, ⟨(some 16), (.mov (.t 1)), (some (15, false))⟩, ⟨(some 17), (.bin .lss (.t 16) (.c (.int .i64 0))), (some (15, false))⟩, ⟨(some 18), (.pick (.t 15) (.c (.bool true)) (.t 17)), none⟩, ⟨(some 19), (.mov (.t 18)), none⟩, ⟨(some 20), (.mov (.t 1)), (some (19, false))⟩, ⟨(some 21), (.mov (.t 0)), (some (19, false))⟩, ⟨(some 22), (.mov (.t 0)), (some (19, false))⟩, ⟨(some 23), (.call 39 [(.t 21), (.t 22)]), (some (19, false))⟩, ⟨(some 24), (.bin .geq (.t 20) (.t 23)), (some (19, false))⟩, ⟨(some 25), (.pick (.t 19) (.c (.bool true)) (.t 24)), none⟩]) (.cond (.t 25) (.seq (.ops [⟨(some 4), (.nils 1), none⟩, ⟨(some 5), (.mov (.c (.bool false))), none⟩]) .ret) .skip)) (.seq (.ops [⟨(some 26), (.mov (.t 0)), none⟩, ⟨(some 27), (.pu (.bld [(.int .i64 0), (.bool false), (.bool false), (.bool false), (.bool false), (.bool false), (.bool false), (.bool false), (.bool false), (.bool false), (.bool false), (.bool false), (.bool false)] [(0, 1)]) [(.t 26)]), none⟩, ⟨(some 6), (.alloc [(.int .i64 0), (.bool false), (.bool false), (.bool false), (.bool false), (.bool false), (.bool false), (.bool false), (.bool false), (.bool false), (.bool false), (.bool false), (.bool false)]), none⟩, ⟨none, (.st 13 (.t 6) (.t 27)), none⟩]) (.seq (.ops [⟨(some 28), (.mov (.t 0)), none⟩, ⟨(some 29), (.mk 1 8 [(.int .i64 0)] (.t 28) (.t 28)), none⟩, ⟨(some 7), (.mov (.t 29)), none⟩]) (.seq (.seq (.ops [⟨(some 30), (.mov (.t 7)), none⟩, ⟨(some 31), (.len (.t 30)), none⟩, ⟨(some 32), (.mov (.c (.int .i64 0))), none⟩]) (.block 0 (.loop (.seq (.ops [⟨(some 33), (.bin .lss (.t 32) (.t 31)), none⟩]) (.seq (.cond (.t 33) .skip (.exit 0)) (.seq (.block 1 (.seq (.ops [⟨(some 34), (.mov (.t 32)), none⟩, ⟨(some 8), (.mov (.t 34)), none⟩]) (.seq (.ops [⟨(some 35), (.mov (.t 0)), none⟩, ⟨(some 36), (.mov (.c (.int .i64 0))), none⟩]) (.block 2 (.loop (.seq (.ops [⟨(some 37), (.bin .lss (.t 36) (.t 35)), none⟩]) (.seq (.cond (.t 37) .skip (.exit 2)) (.seq (.block 3 (.seq (.ops [⟨(some 38), (.mov (.t 36)), none⟩, ⟨(some 9), (.mov (.t 38)), none⟩]) (.seq (.seq (.ops [⟨(some 39), (.ld (some 13) (.t 6)), none⟩, ⟨(some 40), (.mov (.t 8)), none⟩, ⟨(some 41), (.mov (.t 9)), none⟩, ⟨(some 42), (.call 40 [(.t 39), (.t 40), (.t 41)]), none⟩, ⟨(some 43), (.not (.t 42)), none⟩]) (.cond (.t 43) (.exit 3) .skip)) (.seq (.ops [⟨(some 44), (.ld (some 13) (.t 6)), none⟩, ⟨(some 45), (.mov (.t 9)), none⟩, ⟨(some 46), (.call 41 [(.t 44), (.t 45)]), none⟩, ⟨(some 10), (.alloc [(.int .i64 0), (.bool false), (.bool false), (.bool false), (.bool false), (.bool false), (.bool false), (.bool false), (.bool false), (.bool false), (.bool false), (.bool false), (.bool false)]), none⟩, ⟨none, (.st 13 (.t 10) (.t 46)), none⟩]) (.seq (.ops [⟨(some 47), (.ld (some 13) (.t 10)), none⟩, ⟨(some 48), (.mov (.t 8)), none⟩, ⟨(some 49), (.bin .add (.t 48) (.c (.int .i64 1))), none⟩, ⟨(some 50), (.call 42 [(.t 47), (.t 49)]), none⟩, ⟨(some 11), (.mov (.t 50)), none⟩]) (.seq (.seq (.ops [⟨(some 51), (.mov (.t 1)), none⟩, ⟨(some 52), (.mov (.t 11)), none⟩, ⟨(some 53), (.bin .lss (.t 51) (.t 52)), none⟩]) (.cond (.t 53) (.seq (.tree (.take ⟨(some 54), (.mov (.t 7)), none⟩ (.take ⟨(some 55), (.mov (.t 8)), none⟩ (.take ⟨(some 56), (.mov (.t 9)), none⟩ (.take ⟨(some 58), (.idx 1 (.t 54) (.t 55)), none⟩ (.two ⟨(some 57), (.ld (some 13) (.t 10)), none⟩ (.take ⟨none, (.st 1 (.t 58) (.t 56)), none⟩ (.take ⟨none, (.st 13 (.t 6) (.t 57)), none⟩ .done)) ⟨none, (.st 1 (.t 58) (.t 56)), none⟩ (.take ⟨(some 57), (.ld (some 13) (.t 10)), none⟩ (.take ⟨none, (.st 13 (.t 6) (.t 57)), none⟩ .done)))))))) (.exit 2)) .skip)) (.ops [⟨(some 59), (.mov (.t 1)), none⟩, ⟨(some 60), (.mov (.t 11)), none⟩, ⟨(some 61), (.bin .sub (.t 59) (.t 60)), none⟩, ⟨(some 1), (.mov (.t 61)), none⟩]))))))) (.ops [⟨(some 62), (.bin .add (.t 36) (.c (.int .i64 1))), none⟩, ⟨(some 36), (.mov (.t 62)), none⟩]))))))))) (.ops [⟨(some 63), (.bin .add (.t 32) (.c (.int .i64 1))), none⟩, ⟨(some 32), (.mov (.t 63)), none⟩]))))))) (.seq (.ops [⟨(some 64), (.mov (.t 7)), none⟩, ⟨(some 4), (.mov (.t 64)), none⟩, ⟨(some 5), (.mov (.c (.bool true))), none⟩]) .ret))))))
theorem cc14 : ccode Try.prog (min Try.f14.ntmps pbase) (Try.f14.body.getD .skip) = some ac14 := by kernel_rfl
def ac15 : ACode := (.seq (.ops [⟨(some 2), (.mov (.c (.int .i64 0))), none⟩, ⟨(some 3), (.mov (.c (.bool false))), none⟩]) (.seq (.seq (.ops [⟨(some 4), (.mov (.t 0)), none⟩, ⟨(some 5), (.call 37 [(.t 4)]), none⟩, ⟨(some 6), (.not (.t 5)), none⟩]) (.cond (.t 6) (.seq (.ops [⟨(some 2), (.mov (.c (.int .i64 0))), none⟩, ⟨(some 3), (.mov (.c (.bool false))), none⟩]) .ret) .skip)) (.seq (.ops [⟨(some 7), (.mov (.t 0)), none⟩, ⟨(some 8), (.mov (.t 0)), none⟩, ⟨(some 9), (.call 39 [(.t 7), (.t 8)]), none⟩, ⟨(some 2), (.mov (.t 9)), none⟩, ⟨(some 3), (.mov (.c (.bool true))), none⟩]) .ret)))
theorem cc15 : ccode Try.prog (min Try.f15.ntmps pbase) (Try.f15.body.getD .skip) = some ac15 := by kernel_rfl
def ac16 : ACode := (.seq (.ops [⟨(some 4), (.mov (.c (.bool false))), none⟩]) (.seq (.seq (.ops [⟨(some 5), (.mov (.c (.int .i64 0))), none⟩]) (.block 0 (.loop (.seq (.seq (.ops [⟨(some 6), (.mov (.t 5)), none⟩, ⟨(some 7), (.mov (.t 0)), none⟩, ⟨(some 8), (.len (.t 7)), none⟩, ⟨(some 9), (.bin .lss (.t 6) (.t 8)), none⟩, ⟨(some 10), (.mov (.t 9)), none⟩, ⟨(some 11), (.mov (.t 5)), (some (10, true))⟩, ⟨(some 12), (.mov (.t 1)), (some (10, true))⟩, ⟨(some 13), (.len (.t 12)), (some (10, true))⟩, ⟨(some 14), (.bin .lss (.t 11) (.t 13)), (some (10, true))⟩, ⟨(some 15), (.pick (.t 10) (.t 14) (.c (.bool false))), none⟩]) (.cond (.t 15) .skip (.exit 0))) (.seq (.block 1 (.seq (.tree (.take ⟨(some 18), (.mov (.t 0)), none⟩ (.take ⟨(some 19), (.mov (.t 5)), none⟩ (.take ⟨(some 20), (.idx 1 (.t 18) (.t 19)), none⟩ (.take ⟨(some 21), (.ld none (.t 20)), none⟩ (.take ⟨(some 22), (.mov (.t 1)), none⟩ (.take ⟨(some 23), (.mov (.t 5)), none⟩ (.take ⟨(some 24), (.idx 1 (.t 22) (.t 23)), none⟩ (.take ⟨(some 25), (.ld none (.t 24)), none⟩ (.take ⟨(some 26), (.bin .neq (.t 21) (.t 25)), none⟩ .done)))))))))) (.cond (.t 26) (.seq (.tree (.take ⟨(some 27), (.mov (.t 0)), none⟩ (.take ⟨(some 28), (.mov (.t 5)), none⟩ (.take ⟨(some 29), (.idx 1 (.t 27) (.t 28)), none⟩ (.take ⟨(some 30), (.ld none (.t 29)), none⟩ (.take ⟨(some 31), (.mov (.t 1)), none⟩ (.take ⟨(some 32), (.mov (.t 5)), none⟩ (.take ⟨(some 33), (.idx 1 (.t 31) (.t 32)), none⟩ (.take ⟨(some 34), (.ld none (.t 33)), none⟩ (.take ⟨(some 35), (.bin .lss (.t 30) (.t 34)), none⟩ (.take ⟨(some 4), (.mov (.t 35)), none⟩ .done))))))))))) .ret) .skip))) (.ops [⟨(some 16), (.mov (.t 5)), none⟩, ⟨(some 17), (.bin .add (.t 16) (.c (.int .i64 1))), none⟩, ⟨(some 5), (.mov (.t 17)), none⟩])))))) (.seq (.ops [⟨(some 36), (.mov (.t 0)), none⟩, ⟨(some 37), (.len (.t 36)), none⟩, ⟨(some 38), (.mov (.t 1)), none⟩, ⟨(some 39), (.len (.t 38)), none⟩, ⟨(some 40), (.bin .lss (.t 37) (.t 39)), none⟩, ⟨(some 4), (.mov (.t 40)), none⟩]) .ret)))
theorem cc16 : ccode Try.prog (min Try.f16.ntmps pbase) (Try.f16.body.getD .skip) = some ac16 := by kernel_rfl
def ac17 : ACode := (.seq (.ops [⟨(some 2), (.mov (.c (.int .i64 0))), none⟩]) (.seq (.ops [⟨(some 3), (.mov (.t 0)), none⟩, ⟨(some 4), (.call 43 [(.t 3)]), none⟩, ⟨(some 2), (.mov (.t 4)), none⟩]) .ret))
theorem cc17 : ccode Try.prog (min Try.f17.ntmps pbase) (Try.f17.body.getD .skip) = some ac17 := by kernel_rfl
def ac18 : ACode := (.seq (.ops [⟨(some 2), (.nils 1), none⟩, ⟨(some 3), (.mov (.c (.bool false))), none⟩]) (.seq (.ops [⟨(some 4), (.mov (.t 0)), none⟩, ⟨(some 5), (.call 14 [(.t 4), (.c (.int .i64 0))]), none⟩, ⟨(some 6), (.ext (.t 5) 0), none⟩, ⟨(some 7), (.ext (.t 5) 1), none⟩, ⟨(some 2), (.mov (.t 6)), none⟩, ⟨(some 3), (.mov (.t 7)), none⟩]) .ret))
theorem cc18 : ccode Try.prog (min Try.f18.ntmps pbase) (Try.f18.body.getD .skip) = some ac18 := by kernel_rfl
def ac19 : ACode := (.seq (.ops [⟨(some 2), (.nils 1), none⟩, ⟨(some 3), (.mov (.c (.bool false))), none⟩]) (.seq (.seq (.ops [⟨(some 4), (.mov (.t 0)), none⟩, ⟨(some 5), (.call 44 [(.t 4)]), none⟩, ⟨(some 6), (.not (.t 5)), none⟩, ⟨(some 7), (.mov (.t 6)), none⟩, ⟨(some 8), (.mov (.t 0)), (some (7, false))⟩, ⟨(some 9), (.call 35 [(.t 8)]), (some (7, false))⟩, ⟨(some 10), (.bin .eql (.t 9) (.c (.int .i64 0))), (some (7, false))⟩, ⟨(some 11), (.pick (.t 7) (.c (.bool true)) (.t 10)), none⟩]) (.cond (.t 11) (.seq (.ops [⟨(some 2), (.nils 1), none⟩, ⟨(some 3), (.mov (.c (.bool false))), none⟩]) .ret) .skip)) (.seq (.ops [⟨(some 12), (.mov (.t 0)), none⟩, ⟨(some 13), (.call 36 [(.t 12), (.c (.int .i64 0))]), none⟩, ⟨(some 2), (.mov (.t 13)), none⟩, ⟨(some 3), (.mov (.c (.bool true))), none⟩]) .ret)))
theorem cc19 : ccode Try.prog (min Try.f19.ntmps pbase) (Try.f19.body.getD .skip) = some ac19 := by kernel_rfl
def ac20 : ACode := (.seq (.ops [⟨(some 2), (.mov (.c (.int .i64 0))), none⟩, ⟨(some 3), (.mov (.c (.bool false))), none⟩]) (.seq (.seq (.ops [⟨(some 4), (.mov (.t 0)), none⟩, ⟨(some 5), (.call 44 [(.t 4)]), none⟩, ⟨(some 6), (.not (.t 5)), none⟩]) (.cond (.t 6) (.seq (.ops [⟨(some 2), (.mov (.c (.int .i64 0))), none⟩, ⟨(some 3), (.mov (.c (.bool false))), none⟩]) .ret) .skip)) (.seq (.ops [⟨(some 7), (.mov (.t 0)), none⟩, ⟨(some 8), (.call 35 [(.t 7)]), none⟩, ⟨(some 2), (.mov (.t 8)), none⟩, ⟨(some 3), (.mov (.c (.bool true))), none⟩]) .ret)))
theorem cc20 : ccode Try.prog (min Try.f20.ntmps pbase) (Try.f20.body.getD .skip) = some ac20 := by kernel_rfl
def ac21 : ACode := (.seq (.ops [⟨(some 2), (.mov (.c (.int .i64 0))), none⟩, ⟨(some 3), (.mov (.c (.int .i64 0))), none⟩, ⟨(some 4), (.mov (.c (.bool false))), none⟩]) (.seq (.seq (.ops [⟨(some 5), (.mov (.t 0)), none⟩, ⟨(some 6), (.call 37 [(.t 5)]), none⟩, ⟨(some 7), (.not (.t 6)), none⟩]) (.cond (.t 7) (.seq (.ops [⟨(some 2), (.mov (.c (.int .i64 0))), none⟩, ⟨(some 3), (.mov (.c (.int .i64 0))), none⟩, ⟨(some 4), (.mov (.c (.bool false))), none⟩]) .ret) .skip)) (.seq (.ops [⟨(some 8), (.mov (.t 0)), none⟩, ⟨(some 9), (.mov (.t 0)), none⟩, ⟨(some 10), (.call 39 [(.t 8), (.t 9)]), none⟩, ⟨(some 11), (.mov (.t 0)), none⟩, ⟨(some 12), (.call 46 [(.t 11)]), none⟩, ⟨(some 13), (.call 45 [(.t 10), (.t 12)]), none⟩, ⟨(some 14), (.call 47 [(.t 13)]), none⟩, ⟨(some 15), (.ext (.t 14) 0), none⟩, ⟨(some 16), (.ext (.t 14) 1), none⟩, ⟨(some 17), (.ext (.t 14) 2), none⟩, ⟨(some 2), (.mov (.t 15)), none⟩, ⟨(some 3), (.mov (.t 16)), none⟩, ⟨(some 4), (.mov (.t 17)), none⟩]) .ret)))
theorem cc21 : ccode Try.prog (min Try.f21.ntmps pbase) (Try.f21.body.getD .skip) = some ac21 := by kernel_rfl
def ac22 : ACode := (.seq (.ops [⟨(some 2), (.mov (.c (.int .i64 0))), none⟩, ⟨(some 3), (.mov (.c (.int .i64 0))), none⟩, ⟨(some 4), (.mov (.c (.bool false))), none⟩]) (.seq (.seq (.ops [⟨(some 7), (.mov (.t 0)), none⟩, ⟨(some 8), (.call 44 [(.t 7)]), none⟩, ⟨(some 9), (.not (.t 8)), none⟩]) (.cond (.t 9) (.seq (.ops [⟨(some 2), (.mov (.c (.int .i64 0))), none⟩, ⟨(some 3), (.mov (.c (.int .i64 0))), none⟩, ⟨(some 4), (.mov (.c (.bool false))), none⟩]) .ret) .skip)) (.seq (.ops [⟨(some 11), (.mov (.t 0)), none⟩, ⟨(some 12), (.call 35 [(.t 11)]), none⟩, ⟨(some 13), (.mov (.t 0)), none⟩, ⟨(some 14), (.call 49 [(.t 13)]), none⟩, ⟨(some 15), (.call 48 [(.t 12), (.t 14)]), none⟩, ⟨(some 10), (.mov (.t 15)), none⟩, ⟨(some 16), (.ext (.t 10) 0), none⟩, ⟨(some 17), (.ext (.t 10) 1), none⟩, ⟨(some 5), (.mov (.t 16)), none⟩, ⟨(some 6), (.mov (.t 17)), none⟩]) (.seq (.ops [⟨(some 18), (.mov (.t 5)), none⟩, ⟨(some 19), (.mov (.t 6)), none⟩, ⟨(some 2), (.mov (.t 18)), none⟩, ⟨(some 3), (.mov (.t 19)), none⟩, ⟨(some 4), (.mov (.c (.bool true))), none⟩]) .ret))))
theorem cc22 : ccode Try.prog (min Try.f22.ntmps pbase) (Try.f22.body.getD .skip) = some ac22 := by kernel_rfl
def ac23 : ACode := (.seq (.ops [⟨(some 2), (.mov (.c (.int .i64 0))), none⟩, ⟨(some 3), (.mov (.c (.int .i64 0))), none⟩]) (.seq (.ops [⟨(some 5), (.mov (.t 0)), none⟩, ⟨(some 6), (.pu (.bld [(.slice none 0 0), (.int .i64 0), (.int .u64 0)] [(0, 1)]) [(.t 5)]), none⟩, ⟨(some 7), (.box 3 (.t 6)), none⟩, ⟨(some 4), (.mov (.t 7)), none⟩]) (.seq (.ops [⟨(some 8), (.mov (.t 4)), none⟩, ⟨(some 9), (.call 50 [(.t 8)]), none⟩, ⟨(some 10), (.mov (.t 4)), none⟩, ⟨(some 11), (.bsl 1 8 [(.int .i64 0)] [(0, (.c (.int .i64 0))), (1, (.c (.int .i64 1))), (2, (.c (.int .i64 2))), (3, (.c (.int .i64 3))), (4, (.c (.int .i64 5))), (5, (.c (.int .i64 12))), (6, (.c (.int .i64 13))), (7, (.c (.int .i64 (-1))))]), none⟩, ⟨(some 12), (.call 51 [(.t 10), (.t 11)]), none⟩, ⟨(some 2), (.mov (.t 9)), none⟩, ⟨(some 3), (.mov (.t 12)), none⟩]) .ret)))
theorem cc23 : ccode Try.prog (min Try.f23.ntmps pbase) (Try.f23.body.getD .skip) = some ac23 := by kernel_rfl
def ac24 : ACode := (.seq (.ops [⟨(some 4), (.mov (.c (.int .i64 0))), none⟩, ⟨(some 5), (.mov (.c (.bool false))), none⟩]) (.seq (.seq (.ops [⟨(some 7), (.mov (.t 0)), none⟩, ⟨(some 8), (.call 37 [(.t 7)]), none⟩, ⟨(some 9), (.not (.t 8)), none⟩, ⟨(some 10), (.mov (.t 9)), none⟩, ⟨(some 11), (.mov (.t 1)), (some (10, false))⟩, ⟨(some 12), (.bin .lss (.t 11) (.c (.int .i64 0))), (some (10, false))⟩, ⟨(some 13), (.pick (.t 10) (.c (.bool true)) (.t 12)), none⟩, ⟨(some 14), (.mov (.t 13)), none⟩, ⟨(some 15), (.mov (.t 1)), (some (14, false))⟩, ⟨(some 16), (.mov (.t 0)), (some (14, false))⟩, ⟨(some 17), (.bin .gtr (.t 15) (.t 16)), (some (14, false))⟩, ⟨(some 18), (.pick (.t 14) (.c (.bool true)) (.t 17)), none⟩]) (.cond (.t 18) (.seq (.ops [⟨(some 4), (.mov (.c (.int .i64 0))), none⟩, ⟨(some 5), (.mov (.c (.bool false))), none⟩]) .ret) .skip)) (.seq (.ops [⟨(some 19), (.mov (.t 0)), none⟩, ⟨(some 20), (.mov (.t 1)), none⟩, ⟨(some 21), (.bin .sub (.t 19) (.t 20)), none⟩, ⟨(some 6), (.mov (.t 21)), none⟩]) (.seq (.ops [⟨(some 22), (.mov (.t 0)), none⟩, ⟨(some 23), (.mov (.t 1)), none⟩, ⟨(some 24), (.call 52 [(.t 22), (.t 23)]), none⟩, ⟨(some 25), (.mov (.t 6)), none⟩, ⟨(some 26), (.mov (.t 6)), none⟩, ⟨(some 27), (.call 39 [(.t 25), (.t 26)]), none⟩, ⟨(some 28), (.bin .mul (.t 24) (.t 27)), none⟩, ⟨(some 4), (.mov (.t 28)), none⟩, ⟨(some 5), (.mov (.c (.bool true))), none⟩]) .ret))))
theorem cc24 : ccode Try.prog (min Try.f24.ntmps pbase) (Try.f24.body.getD .skip) = some ac24 := by kernel_rfl
def ac25 : ACode := (.seq (.ops [⟨(some 4), (.mov (.c (.int .i64 0))), none⟩, ⟨(some 5), (.mov (.c (.bool false))), none⟩]) (.seq (.seq (.ops [⟨(some 6), (.mov (.t 0)), none⟩, ⟨(some 7), (.call 44 [(.t 6)]), none⟩, ⟨(some 8), (.not (.t 7)), none⟩, ⟨(some 9), (.mov (.t 8)), none⟩, ⟨(some 10), (.mov (.t 1)), (some (9, false))⟩, ⟨(some 11), (.mov (.t 0)), (some (9, false))⟩, ⟨(some 12), (.call 53 [(.t 10), (.c (.int .i64 0)), (.t 11)]), (some (9, false))⟩, ⟨(some 13), (.not (.t 12)), (some (9, false))⟩, ⟨(some 14), (.pick (.t 9) (.c (.bool true)) (.t 13)), none⟩]) (.cond (.t 14) (.seq (.ops [⟨(some 4), (.mov (.c (.int .i64 0))), none⟩, ⟨(some 5), (.mov (.c (.bool false))), none⟩]) .ret) .skip)) (.seq (.ops [⟨(some 15), (.mov (.t 0)), none⟩, ⟨(some 16), (.mov (.t 1)), none⟩, ⟨(some 17), (.call 54 [(.t 15), (.t 16)]), none⟩, ⟨(some 18), (.mov (.t 0)), none⟩, ⟨(some 19), (.mov (.t 1)), none⟩, ⟨(some 20), (.bin .sub (.t 18) (.t 19)), none⟩, ⟨(some 21), (.call 35 [(.t 20)]), none⟩, ⟨(some 22), (.bin .mul (.t 17) (.t 21)), none⟩, ⟨(some 4), (.mov (.t 22)), none⟩, ⟨(some 5), (.mov (.c (.bool true))), none⟩]) .ret)))
theorem cc25 : ccode Try.prog (min Try.f25.ntmps pbase) (Try.f25.body.getD .skip) = some ac25 := by kernel_rfl
def ac26 : ACode := (.seq (.ops [⟨(some 2), (.mov (.c (.int .i64 0))), none⟩, ⟨(some 3), (.mov (.c (.int .i64 0))), none⟩]) (.seq (.ops [⟨(some 5), (.mov (.t 0)), none⟩, ⟨(some 6), (.pu (.bld [(.slice none 0 0), (.int .i64 0), (.int .u64 0)] [(0, 1)]) [(.t 5)]), none⟩, ⟨(some 7), (.box 3 (.t 6)), none⟩, ⟨(some 4), (.mov (.t 7)), none⟩]) (.seq (.ops [⟨(some 8), (.mov (.t 4)), none⟩, ⟨(some 9), (.call 50 [(.t 8)]), none⟩, ⟨(some 10), (.mov (.t 4)), none⟩, ⟨(some 11), (.bsl 1 11 [(.int .i64 0)] [(0, (.c (.int .i64 0))), (1, (.c (.int .i64 1))), (2, (.c (.int .i64 2))), (3, (.c (.int .i64 8))), (4, (.c (.int .i64 9))), (5, (.c (.int .i64 43))), (6, (.c (.int .i64 44))), (7, (.c (.int .i64 264))), (8, (.c (.int .i64 1000000))), (9, (.c (.int .i64 (-1)))), (10, (.c (.int .i64 4611686018427387904)))]), none⟩, ⟨(some 12), (.call 51 [(.t 10), (.t 11)]), none⟩, ⟨(some 2), (.mov (.t 9)), none⟩, ⟨(some 3), (.mov (.t 12)), none⟩]) .ret)))
theorem cc26 : ccode Try.prog (min Try.f26.ntmps pbase) (Try.f26.body.getD .skip) = some ac26 := by kernel_rfl
def ac27 : ACode := (.seq (.ops [⟨(some 4), (.nils 1), none⟩, ⟨(some 5), (.mov (.c (.bool false))), none⟩]) (.seq (.seq (.ops [⟨(some 6), (.mov (.t 0)), none⟩, ⟨(some 7), (.call 44 [(.t 6)]), none⟩, ⟨(some 8), (.not (.t 7)), none⟩, ⟨(some 9), (.mov (.t 8)), none⟩, ⟨(some 10), (.mov (.t 1)), (some (9, false))⟩, ⟨(some 11), (.mov (.t 0)), (some (9, false))⟩, ⟨(some 12), (.call 35 [(.t 11)]), (some (9, false))⟩, ⟨(some 13), (.bin .sub (.t 12) (.c (.int .i64 1))), (some (9, false))⟩, ⟨(some 14), (.call 53 [(.t 10), (.c (.int .i64 0)), (.t 13)]), (some (9, false))⟩, ⟨(some 15), (.not (.t 14)), (some (9, false))⟩, ⟨(some 16), (.pick (.t 9) (.c (.bool true)) (.t 15)), none⟩]) (.cond (.t 16) (.seq (.ops [⟨(some 4), (.nils 1), none⟩, ⟨(some 5), (.mov (.c (.bool false))), none⟩]) .ret) .skip)) (.seq (.ops [⟨(some 17), (.mov (.t 0)), none⟩, ⟨(some 18), (.mov (.t 1)), none⟩, ⟨(some 19), (.call 36 [(.t 17), (.t 18)]), none⟩, ⟨(some 4), (.mov (.t 19)), none⟩, ⟨(some 5), (.mov (.c (.bool true))), none⟩]) .ret)))
theorem cc27 : ccode Try.prog (min Try.f27.ntmps pbase) (Try.f27.body.getD .skip) = some ac27 := by kernel_rfl
def ac28 : ACode := (.seq (.ops [⟨(some 2), (.mov (.c (.int .i64 0))), none⟩]) (.seq (.ops [⟨(some 3), (.mov (.c (.int .i64 1))), none⟩]) (.seq (.seq (.ops [⟨(some 4), (.mov (.c (.int .i64 2))), none⟩]) (.block 0 (.loop (.seq (.seq (.ops [⟨(some 5), (.mov (.t 4)), none⟩, ⟨(some 6), (.mov (.t 0)), none⟩, ⟨(some 7), (.bin .leq (.t 5) (.t 6)), none⟩]) (.cond (.t 7) .skip (.exit 0))) (.seq (.block 1 (.ops [⟨(some 10), (.mov (.t 3)), none⟩, ⟨(some 11), (.mov (.t 4)), none⟩, ⟨(some 12), (.bin .mul (.t 10) (.t 11)), none⟩, ⟨(some 3), (.mov (.t 12)), none⟩])) (.ops [⟨(some 8), (.mov (.t 4)), none⟩, ⟨(some 9), (.bin .add (.t 8) (.c (.int .i64 1))), none⟩, ⟨(some 4), (.mov (.t 9)), none⟩])))))) (.seq (.ops [⟨(some 13), (.mov (.t 3)), none⟩, ⟨(some 2), (.mov (.t 13)), none⟩]) .ret))))
theorem cc28 : ccode Try.prog (min Try.f28.ntmps pbase) (Try.f28.body.getD .skip) = some ac28 := by kernel_rfl
def ac29 : ACode := (.seq (.ops [⟨(some 2), (.nils 1), none⟩]) (.seq (.ops [⟨(some 4), (.mov (.t 0)), none⟩, ⟨(some 5), (.pu (.bld [(.slice none 0 0), (.int .i64 0), (.int .u64 0)] [(0, 1)]) [(.t 4)]), none⟩, ⟨(some 6), (.box 3 (.t 5)), none⟩, ⟨(some 3), (.mov (.t 6)), none⟩]) (.seq (.ops [⟨(some 7), (.mov (.t 3)), none⟩, ⟨(some 8), (.call 55 [(.t 7)]), none⟩, ⟨(some 2), (.mov (.t 8)), none⟩]) .ret)))
theorem cc29 : ccode Try.prog (min Try.f29.ntmps pbase) (Try.f29.body.getD .skip) = some ac29 := by kernel_rfl
def ac30 : ACode := (.seq (.ops [⟨(some 2), (.mov (.c (.int .i64 0))), none⟩]) (.seq (.ops [⟨(some 3), (.mov (.c (.int .i64 0))), none⟩]) (.seq (.ops [⟨(some 8), (.mov (.t 0)), none⟩, ⟨(some 9), (.len (.t 8)), none⟩, ⟨(some 10), (.pu (.bld [(.int .i64 0), (.bool false), (.bool false), (.bool false), (.bool false), (.bool false), (.bool false), (.bool false), (.bool false), (.bool false), (.bool false), (.bool false), (.bool false)] [(0, 1)]) [(.t 9)]), none⟩, ⟨(some 4), (.alloc [(.int .i64 0), (.bool false), (.bool false), (.bool false), (.bool false), (.bool false), (.bool false), (.bool false), (.bool false), (.bool false), (.bool false), (.bool false), (.bool false)]), none⟩, ⟨none, (.st 13 (.t 4) (.t 10)), none⟩]) (.seq (.seq (.ops [⟨(some 11), (.mov (.t 0)), none⟩, ⟨(some 12), (.len (.t 11)), none⟩, ⟨(some 13), (.mov (.c (.int .i64 0))), none⟩]) (.block 0 (.loop (.seq (.ops [⟨(some 14), (.bin .lss (.t 13) (.t 12)), none⟩]) (.seq (.cond (.t 14) .skip (.exit 0)) (.seq (.block 1 (.seq (.ops [⟨(some 15), (.mov (.t 13)), none⟩, ⟨(some 16), (.idx 1 (.t 11) (.t 13)), none⟩, ⟨(some 17), (.ld none (.t 16)), none⟩, ⟨(some 5), (.mov (.t 15)), none⟩, ⟨(some 6), (.mov (.t 17)), none⟩]) (.seq (.seq (.ops [⟨(some 18), (.mov (.t 6)), none⟩, ⟨(some 19), (.mov (.c (.int .i64 0))), none⟩]) (.block 2 (.loop (.seq (.ops [⟨(some 20), (.bin .lss (.t 19) (.t 18)), none⟩]) (.seq (.cond (.t 20) .skip (.exit 2)) (.seq (.block 3 (.seq (.ops [⟨(some 21), (.mov (.t 19)), none⟩, ⟨(some 7), (.mov (.t 21)), none⟩]) (.seq (.ops [⟨(some 22), (.ld (some 13) (.t 4)), none⟩, ⟨(some 23), (.mov (.t 5)), none⟩, ⟨(some 24), (.mov (.t 7)), none⟩, ⟨(some 25), (.call 40 [(.t 22), (.t 23), (.t 24)]), none⟩]) (.cond (.t 25) (.ops [⟨(some 26), (.mov (.t 3)), none⟩, ⟨(some 27), (.ld (some 13) (.t 4)), none⟩, ⟨(some 28), (.mov (.t 7)), none⟩, ⟨(some 29), (.call 41 [(.t 27), (.t 28)]), none⟩, ⟨(some 30), (.mov (.t 5)), none⟩, ⟨(some 31), (.bin .add (.t 30) (.c (.int .i64 1))), none⟩, ⟨(some 32), (.call 42 [(.t 29), (.t 31)]), none⟩, ⟨(some 33), (.bin .add (.t 26) (.t 32)), none⟩, ⟨(some 3), (.mov (.t 33)), none⟩]) .skip)))) (.ops [⟨(some 34), (.bin .add (.t 19) (.c (.int .i64 1))), none⟩, ⟨(some 19), (.mov (.t 34)), none⟩]))))))) (.seq (.seq (.ops [⟨(some 35), (.mov (.t 6)), none⟩, ⟨(some 36), (.mov (.t 5)), none⟩, ⟨(some 37), (.bin .eql (.t 35) (.t 36)), none⟩]) (.cond (.t 37) (.exit 0) .skip)) (.ops [⟨(some 38), (.ld (some 13) (.t 4)), none⟩, ⟨(some 39), (.mov (.t 6)), none⟩, ⟨(some 40), (.call 41 [(.t 38), (.t 39)]), none⟩, ⟨none, (.st 13 (.t 4) (.t 40)), none⟩]))))) (.ops [⟨(some 41), (.bin .add (.t 13) (.c (.int .i64 1))), none⟩, ⟨(some 13), (.mov (.t 41)), none⟩]))))))) (.seq (.ops [⟨(some 42), (.mov (.t 3)), none⟩, ⟨(some 2), (.mov (.t 42)), none⟩]) .ret)))))
theorem cc30 : ccode Try.prog (min Try.f30.ntmps pbase) (Try.f30.body.getD .skip) = some ac30 := by kernel_rfl
def ac31 : ACode := (.seq (.ops [⟨(some 2), (.mov (.c (.bool false))), none⟩]) (.seq (.seq (.ops [⟨(some 5), (.mov (.t 0)), none⟩, ⟨(some 6), (.len (.t 5)), none⟩, ⟨(some 7), (.mov (.c (.int .i64 0))), none⟩]) (.block 0 (.loop (.seq (.ops [⟨(some 8), (.bin .lss (.t 7) (.t 6)), none⟩]) (.seq (.cond (.t 8) .skip (.exit 0)) (.seq (.block 1 (.seq (.ops [⟨(some 9), (.mov (.t 7)), none⟩, ⟨(some 10), (.idx 1 (.t 5) (.t 7)), none⟩, ⟨(some 11), (.ld none (.t 10)), none⟩, ⟨(some 3), (.mov (.t 9)), none⟩, ⟨(some 4), (.mov (.t 11)), none⟩]) (.seq (.ops [⟨(some 12), (.mov (.t 4)), none⟩, ⟨(some 13), (.mov (.t 3)), none⟩, ⟨(some 14), (.bin .eql (.t 12) (.t 13)), none⟩]) (.cond (.t 14) (.seq (.ops [⟨(some 2), (.mov (.c (.bool true))), none⟩]) .ret) .skip)))) (.ops [⟨(some 15), (.bin .add (.t 7) (.c (.int .i64 1))), none⟩, ⟨(some 7), (.mov (.t 15)), none⟩]))))))) (.seq (.ops [⟨(some 2), (.mov (.c (.bool false))), none⟩]) .ret)))
theorem cc31 : ccode Try.prog (min Try.f31.ntmps pbase) (Try.f31.body.getD .skip) = some ac31 := by kernel_rfl
def ac32 : ACode := (.seq (.ops [⟨(some 2), (.mov (.c (.bool false))), none⟩]) (.seq (.seq (.ops [⟨(some 5), (.mov (.t 0)), none⟩, ⟨(some 6), (.len (.t 5)), none⟩, ⟨(some 7), (.call 53 [(.t 6), (.c (.int .i64 1)), (.c (.int .i64 12))]), none⟩, ⟨(some 8), (.not (.t 7)), none⟩, ⟨(some 9), (.mov (.t 8)), none⟩, ⟨(some 10), (.mov (.t 0)), (some (9, false))⟩, ⟨(some 11), (.mov (.t 0)), (some (9, false))⟩, ⟨(some 12), (.len (.t 11)), (some (9, false))⟩, ⟨(some 13), (.bin .sub (.t 12) (.c (.int .i64 1))), (some (9, false))⟩, ⟨(some 14), (.call 56 [(.t 10), (.c (.int .i64 0)), (.t 13)]), (some (9, false))⟩, ⟨(some 15), (.not (.t 14)), (some (9, false))⟩, ⟨(some 16), (.pick (.t 9) (.c (.bool true)) (.t 15)), none⟩]) (.cond (.t 16) (.seq (.ops [⟨(some 2), (.mov (.c (.bool false))), none⟩]) .ret) .skip)) (.seq (.seq (.ops [⟨(some 17), (.mov (.t 0)), none⟩, ⟨(some 18), (.len (.t 17)), none⟩, ⟨(some 19), (.mov (.c (.int .i64 0))), none⟩]) (.block 0 (.loop (.seq (.ops [⟨(some 20), (.bin .lss (.t 19) (.t 18)), none⟩]) (.seq (.cond (.t 20) .skip (.exit 0)) (.seq (.block 1 (.seq (.ops [⟨(some 21), (.mov (.t 19)), none⟩, ⟨(some 22), (.idx 1 (.t 17) (.t 19)), none⟩, ⟨(some 23), (.ld none (.t 22)), none⟩, ⟨(some 3), (.mov (.t 21)), none⟩, ⟨(some 4), (.mov (.t 23)), none⟩]) (.seq (.ops [⟨(some 24), (.mov (.t 0)), none⟩, ⟨(some 25), (.mov (.t 3)), none⟩, ⟨(some 26), (.cut 1 (.t 24) none (some (.t 25))), none⟩, ⟨(some 27), (.mov (.t 4)), none⟩, ⟨(some 28), (.call 57 [(.t 26), (.t 27)]), none⟩]) (.cond (.t 28) (.seq (.ops [⟨(some 2), (.mov (.c (.bool false))), none⟩]) .ret) .skip)))) (.ops [⟨(some 29), (.bin .add (.t 19) (.c (.int .i64 1))), none⟩, ⟨(some 19), (.mov (.t 29)), none⟩]))))))) (.seq (.ops [⟨(some 2), (.mov (.c (.bool true))), none⟩]) .ret))))
theorem cc32 : ccode Try.prog (min Try.f32.ntmps pbase) (Try.f32.body.getD .skip) = some ac32 := by kernel_rfl
def ac33 : ACode := (.seq (.ops [⟨(some 2), (.mov (.c (.int .i64 0))), none⟩]) (.seq (.ops [⟨(some 3), (.mov (.c (.int .i64 0))), none⟩]) (.seq (.seq (.ops [⟨(some 7), (.mov (.t 0)), none⟩, ⟨(some 8), (.len (.t 7)), none⟩, ⟨(some 9), (.mov (.c (.int .i64 0))), none⟩]) (.block 0 (.loop (.seq (.ops [⟨(some 10), (.bin .lss (.t 9) (.t 8)), none⟩]) (.seq (.cond (.t 10) .skip (.exit 0)) (.seq (.block 1 (.seq (.ops [⟨(some 11), (.mov (.t 9)), none⟩, ⟨(some 12), (.idx 1 (.t 7) (.t 9)), none⟩, ⟨(some 13), (.ld none (.t 12)), none⟩, ⟨(some 4), (.mov (.t 11)), none⟩, ⟨(some 5), (.mov (.t 13)), none⟩]) (.seq (.seq (.ops [⟨(some 6), (.mov (.c (.int .i64 0))), none⟩]) (.block 2 (.loop (.seq (.seq (.ops [⟨(some 14), (.mov (.t 6)), none⟩, ⟨(some 15), (.mov (.t 5)), none⟩, ⟨(some 16), (.bin .lss (.t 14) (.t 15)), none⟩]) (.cond (.t 16) .skip (.exit 2))) (.seq (.block 3 (.seq (.ops [⟨(some 19), (.mov (.t 6)), none⟩, ⟨(some 20), (.mov (.t 4)), none⟩, ⟨(some 21), (.bin .neq (.t 19) (.t 20)), none⟩, ⟨(some 22), (.mov (.t 21)), none⟩, ⟨(some 23), (.mov (.t 0)), (some (22, true))⟩, ⟨(some 24), (.mov (.t 4)), (some (22, true))⟩, ⟨(some 25), (.cut 1 (.t 23) none (some (.t 24))), (some (22, true))⟩, ⟨(some 26), (.mov (.t 6)), (some (22, true))⟩, ⟨(some 27), (.call 57 [(.t 25), (.t 26)]), (some (22, true))⟩, ⟨(some 28), (.not (.t 27)), (some (22, true))⟩, ⟨(some 29), (.pick (.t 22) (.t 28) (.c (.bool false))), none⟩]) (.cond (.t 29) (.ops [⟨(some 30), (.mov (.t 3)), none⟩, ⟨(some 31), (.mov (.t 0)), none⟩, ⟨(some 32), (.mov (.t 4)), none⟩, ⟨(some 33), (.cut 1 (.t 31) none (some (.t 32))), none⟩, ⟨(some 34), (.call 59 [(.t 33)]), none⟩, ⟨(some 35), (.mov (.t 6)), none⟩, ⟨(some 36), (.bsl 1 1 [(.int .i64 0)] [(0, (.t 35))]), none⟩, ⟨(some 37), (.app 1 8 (.t 34) (.t 36)), none⟩, ⟨(some 38), (.mov (.t 0)), none⟩, ⟨(some 39), (.len (.t 38)), none⟩, ⟨(some 40), (.call 58 [(.t 37), (.t 39)]), none⟩, ⟨(some 41), (.bin .add (.t 30) (.t 40)), none⟩, ⟨(some 3), (.mov (.t 41)), none⟩]) .skip))) (.ops [⟨(some 17), (.mov (.t 6)), none⟩, ⟨(some 18), (.bin .add (.t 17) (.c (.int .i64 1))), none⟩, ⟨(some 6), (.mov (.t 18)), none⟩])))))) (.seq (.ops [⟨(some 42), (.mov (.t 5)), none⟩, ⟨(some 43), (.mov (.t 4)), none⟩, ⟨(some 44), (.bin .eql (.t 42) (.t 43)), none⟩]) (.cond (.t 44) (.seq (.ops [⟨(some 45), (.mov (.t 3)), none⟩, ⟨(some 2), (.mov (.t 45)), none⟩]) .ret) .skip))))) (.ops [⟨(some 46), (.bin .add (.t 9) (.c (.int .i64 1))), none⟩, ⟨(some 9), (.mov (.t 46)), none⟩]))))))) (.seq (.ops [⟨(some 47), (.mov (.t 3)), none⟩, ⟨(some 2), (.mov (.t 47)), none⟩]) .ret))))
theorem cc33 : ccode Try.prog (min Try.f33.ntmps pbase) (Try.f33.body.getD .skip) = some ac33 := by kernel_rfl
def ac34 : ACode := (.seq (.ops [⟨(some 2), (.nils 1), none⟩]) (.seq (.ops [⟨(some 3), (.nils 1), none⟩]) (.seq (.seq (.ops [⟨(some 6), (.mov (.t 0)), none⟩, ⟨(some 7), (.len (.t 6)), none⟩, ⟨(some 8), (.mov (.c (.int .i64 0))), none⟩]) (.block 0 (.loop (.seq (.ops [⟨(some 9), (.bin .lss (.t 8) (.t 7)), none⟩]) (.seq (.cond (.t 9) .skip (.exit 0)) (.seq (.block 1 (.seq (.ops [⟨(some 10), (.mov (.t 8)), none⟩, ⟨(some 11), (.idx 1 (.t 6) (.t 8)), none⟩, ⟨(some 12), (.ld none (.t 11)), none⟩, ⟨(some 4), (.mov (.t 10)), none⟩, ⟨(some 5), (.mov (.t 12)), none⟩]) (.seq (.ops [⟨(some 13), (.mov (.t 4)), none⟩, ⟨(some 14), (.mov (.t 5)), none⟩, ⟨(some 15), (.bin .eql (.t 13) (.t 14)), none⟩]) (.cond (.t 15) (.ops [⟨(some 16), (.mov (.t 3)), none⟩, ⟨(some 17), (.mov (.t 4)), none⟩, ⟨(some 18), (.bsl 1 1 [(.int .i64 0)] [(0, (.t 17))]), none⟩, ⟨(some 19), (.app 1 8 (.t 16) (.t 18)), none⟩, ⟨(some 3), (.mov (.t 19)), none⟩]) .skip)))) (.ops [⟨(some 20), (.bin .add (.t 8) (.c (.int .i64 1))), none⟩, ⟨(some 8), (.mov (.t 20)), none⟩]))))))) (.seq (.ops [⟨(some 21), (.mov (.t 3)), none⟩, ⟨(some 2), (.mov (.t 21)), none⟩]) .ret))))
theorem cc34 : ccode Try.prog (min Try.f34.ntmps pbase) (Try.f34.body.getD .skip) = some ac34 := by kernel_rfl
def ac35 : ACode := (.seq (.ops [⟨(some 2), (.mov (.c (.int .i64 0))), none⟩]) (.seq (.ops [⟨(some 3), (.mov (.c (.int .i64 1))), none⟩, ⟨(some 4), (.mov (.c (.int .i64 0))), none⟩]) (.seq (.seq (.ops [⟨(some 5), (.mov (.c (.int .i64 2))), none⟩]) (.block 0 (.loop (.seq (.seq (.ops [⟨(some 6), (.mov (.t 5)), none⟩, ⟨(some 7), (.mov (.t 0)), none⟩, ⟨(some 8), (.bin .leq (.t 6) (.t 7)), none⟩]) (.cond (.t 8) .skip (.exit 0))) (.seq (.block 1 (.ops [⟨(some 11), (.mov (.t 4)), none⟩, ⟨(some 12), (.mov (.t 5)), none⟩, ⟨(some 13), (.bin .sub (.t 12) (.c (.int .i64 1))), none⟩, ⟨(some 14), (.mov (.t 3)), none⟩, ⟨(some 15), (.mov (.t 4)), none⟩, ⟨(some 16), (.bin .add (.t 14) (.t 15)), none⟩, ⟨(some 17), (.bin .mul (.t 13) (.t 16)), none⟩, ⟨(some 3), (.mov (.t 11)), none⟩, ⟨(some 4), (.mov (.t 17)), none⟩])) (.ops [⟨(some 9), (.mov (.t 5)), none⟩, ⟨(some 10), (.bin .add (.t 9) (.c (.int .i64 1))), none⟩, ⟨(some 5), (.mov (.t 10)), none⟩])))))) (.seq (.seq (.ops [⟨(some 18), (.mov (.t 0)), none⟩, ⟨(some 19), (.bin .eql (.t 18) (.c (.int .i64 0))), none⟩]) (.cond (.t 19) (.seq (.ops [⟨(some 2), (.mov (.c (.int .i64 1))), none⟩]) .ret) .skip)) (.seq (.ops [⟨(some 20), (.mov (.t 4)), none⟩, ⟨(some 2), (.mov (.t 20)), none⟩]) .ret)))))
theorem cc35 : ccode Try.prog (min Try.f35.ntmps pbase) (Try.f35.body.getD .skip) = some ac35 := by kernel_rfl
def ac36 : ACode := (.seq (.ops [⟨(some 4), (.nils 1), none⟩]) (.seq (.ops [⟨(some 5), (.nils 1), none⟩]) (.seq (.seq (.ops [⟨(some 6), (.mov (.c (.int .i64 0))), none⟩]) (.block 0 (.loop (.seq (.seq (.ops [⟨(some 10), (.mov (.t 6)), none⟩, ⟨(some 11), (.mov (.t 0)), none⟩, ⟨(some 12), (.bin .lss (.t 10) (.t 11)), none⟩]) (.cond (.t 12) .skip (.exit 0))) (.seq (.block 1 (.seq (.ops [⟨(some 7), (.mov (.c (.int .i64 0))), none⟩]) (.block 2 (.loop (.seq (.seq (.ops [⟨(some 15), (.mov (.t 7)), none⟩, ⟨(some 16), (.mov (.t 0)), none⟩, ⟨(some 17), (.bin .lss (.t 15) (.t 16)), none⟩]) (.cond (.t 17) .skip (.exit 2))) (.seq (.block 3 (.seq (.seq (.ops [⟨(some 20), (.mov (.t 7)), none⟩, ⟨(some 21), (.mov (.t 6)), none⟩, ⟨(some 22), (.bin .eql (.t 20) (.t 21)), none⟩, ⟨(some 23), (.mov (.t 22)), none⟩, ⟨(some 24), (.mov (.t 5)), (some (23, false))⟩, ⟨(some 25), (.mov (.t 7)), (some (23, false))⟩, ⟨(some 26), (.call 57 [(.t 24), (.t 25)]), (some (23, false))⟩, ⟨(some 27), (.pick (.t 23) (.c (.bool true)) (.t 26)), none⟩]) (.cond (.t 27) (.exit 3) .skip)) (.seq (.ops [⟨(some 28), (.mov (.t 5)), none⟩, ⟨(some 29), (.call 59 [(.t 28)]), none⟩, ⟨(some 30), (.mov (.t 7)), none⟩, ⟨(some 31), (.bsl 1 1 [(.int .i64 0)] [(0, (.t 30))]), none⟩, ⟨(some 32), (.app 1 8 (.t 29) (.t 31)), none⟩, ⟨(some 8), (.mov (.t 32)), none⟩]) (.seq (.ops [⟨(some 33), (.mov (.t 8)), none⟩, ⟨(some 34), (.mov (.t 0)), none⟩, ⟨(some 35), (.call 58 [(.t 33), (.t 34)]), none⟩, ⟨(some 9), (.mov (.t 35)), none⟩]) (.seq (.seq (.ops [⟨(some 36), (.mov (.t 1)), none⟩, ⟨(some 37), (.mov (.t 9)), none⟩, ⟨(some 38), (.bin .lss (.t 36) (.t 37)), none⟩]) (.cond (.t 38) (.seq (.ops [⟨(some 39), (.mov (.t 8)), none⟩, ⟨(some 5), (.mov (.t 39)), none⟩]) (.exit 2)) .skip)) (.ops [⟨(some 40), (.mov (.t 1)), none⟩, ⟨(some 41), (.mov (.t 9)), none⟩, ⟨(some 42), (.bin .sub (.t 40) (.t 41)), none⟩, ⟨(some 1), (.mov (.t 42)), none⟩])))))) (.ops [⟨(some 18), (.mov (.t 7)), none⟩, ⟨(some 19), (.bin .add (.t 18) (.c (.int .i64 1))), none⟩, ⟨(some 7), (.mov (.t 19)), none⟩]))))))) (.ops [⟨(some 13), (.mov (.t 6)), none⟩, ⟨(some 14), (.bin .add (.t 13) (.c (.int .i64 1))), none⟩, ⟨(some 6), (.mov (.t 14)), none⟩])))))) (.seq (.ops [⟨(some 43), (.mov (.t 5)), none⟩, ⟨(some 4), (.mov (.t 43)), none⟩]) .ret))))
theorem cc36 : ccode Try.prog (min Try.f36.ntmps pbase) (Try.f36.body.getD .skip) = some ac36 := by kernel_rfl
def ac37 : ACode := (.seq (.ops [⟨(some 2), (.mov (.c (.bool false))), none⟩]) (.seq (.ops [⟨(some 3), (.mov (.t 0)), none⟩, ⟨(some 4), (.bin .geq (.t 3) (.c (.int .i64 1))), none⟩, ⟨(some 5), (.mov (.t 4)), none⟩, ⟨(some 6), (.mov (.t 0)), (some (5, true))⟩, ⟨(some 7), (.bin .leq (.t 6) (.c (.int .i64 12))), (some (5, true))⟩, ⟨(some 8), (.pick (.t 5) (.t 7) (.c (.bool false))), none⟩, ⟨(some 2), (.mov (.t 8)), none⟩]) .ret))
theorem cc37 : ccode Try.prog (min Try.f37.ntmps pbase) (Try.f37.body.getD .skip) = some ac37 := by kernel_rfl
def ac38 : ACode := (.seq (.ops [⟨(some 4), (.mov (.c (.bool false))), none⟩]) (.seq (.ops [⟨(some 5), (.mov (.c (.int .u16 0))), none⟩]) (.seq (.seq (.ops [⟨(some 8), (.mov (.t 0)), none⟩, ⟨(some 9), (.len (.t 8)), none⟩, ⟨(some 10), (.mov (.c (.int .i64 0))), none⟩]) (.block 0 (.loop (.seq (.ops [⟨(some 11), (.bin .lss (.t 10) (.t 9)), none⟩]) (.seq (.cond (.t 11) .skip (.exit 0)) (.seq (.block 1 (.seq (.ops [⟨(some 12), (.idx 1 (.t 8) (.t 10)), none⟩, ⟨(some 13), (.ld none (.t 12)), none⟩, ⟨(some 7), (.mov (.t 13)), none⟩]) (.seq (.seq (.ops [⟨(some 14), (.mov (.t 7)), none⟩, ⟨(some 15), (.mov (.t 1)), none⟩, ⟨(some 16), (.call 60 [(.t 14), (.t 15)]), none⟩, ⟨(some 17), (.not (.t 16)), none⟩, ⟨(some 18), (.mov (.t 17)), none⟩, ⟨(some 19), (.mov (.t 5)), (some (18, false))⟩, ⟨(some 20), (.mov (.t 7)), (some (18, false))⟩, ⟨(some 21), (.call 61 [(.t 19), (.t 20)]), (some (18, false))⟩, ⟨(some 22), (.pick (.t 18) (.c (.bool true)) (.t 21)), none⟩]) (.cond (.t 22) (.seq (.ops [⟨(some 4), (.mov (.c (.bool false))), none⟩]) .ret) .skip)) (.ops [⟨(some 23), (.mov (.t 5)), none⟩, ⟨(some 24), (.mov (.t 7)), none⟩, ⟨(some 25), (.call 62 [(.t 23), (.t 24)]), none⟩, ⟨(some 5), (.mov (.t 25)), none⟩])))) (.ops [⟨(some 26), (.bin .add (.t 10) (.c (.int .i64 1))), none⟩, ⟨(some 10), (.mov (.t 26)), none⟩]))))))) (.seq (.ops [⟨(some 4), (.mov (.c (.bool true))), none⟩]) .ret))))
theorem cc38 : ccode Try.prog (min Try.f38.ntmps pbase) (Try.f38.body.getD .skip) = some ac38 := by kernel_rfl
def ac39 : ACode := (.seq (.ops [⟨(some 4), (.mov (.c (.int .i64 0))), none⟩]) (.seq (.ops [⟨(some 8), (.mov (.t 0)), none⟩, ⟨(some 9), (.bin .add (.t 8) (.c (.int .i64 1))), none⟩, ⟨(some 10), (.mk 1 8 [(.int .i64 0)] (.t 9) (.t 9)), none⟩, ⟨(some 5), (.mov (.t 10)), none⟩]) (.seq (.seq (.ops [⟨(some 11), (.mov (.t 5)), none⟩, ⟨(some 12), (.len (.t 11)), none⟩, ⟨(some 13), (.mov (.c (.int .i64 0))), none⟩]) (.block 0 (.loop (.seq (.ops [⟨(some 14), (.bin .lss (.t 13) (.t 12)), none⟩]) (.seq (.cond (.t 14) .skip (.exit 0)) (.seq (.block 1 (.seq (.ops [⟨(some 15), (.mov (.t 13)), none⟩, ⟨(some 6), (.mov (.t 15)), none⟩]) (.ops [⟨(some 16), (.mov (.t 5)), none⟩, ⟨(some 17), (.mov (.t 6)), none⟩, ⟨(some 18), (.mov (.t 6)), none⟩, ⟨(some 19), (.call 46 [(.t 18)]), none⟩, ⟨(some 20), (.idx 1 (.t 16) (.t 17)), none⟩, ⟨none, (.st 1 (.t 20) (.t 19)), none⟩]))) (.ops [⟨(some 21), (.bin .add (.t 13) (.c (.int .i64 1))), none⟩, ⟨(some 13), (.mov (.t 21)), none⟩]))))))) (.seq (.seq (.ops [⟨(some 22), (.mov (.t 1)), none⟩, ⟨(some 23), (.mov (.c (.int .i64 0))), none⟩]) (.block 2 (.loop (.seq (.ops [⟨(some 24), (.bin .lss (.t 23) (.t 22)), none⟩]) (.seq (.cond (.t 24) .skip (.exit 2)) (.seq (.block 3 (.seq (.ops [⟨(some 25), (.mov (.t 0)), none⟩, ⟨(some 7), (.mov (.t 25)), none⟩]) (.block 4 (.loop (.seq (.seq (.ops [⟨(some 26), (.mov (.t 7)), none⟩, ⟨(some 27), (.bin .gtr (.t 26) (.c (.int .i64 0))), none⟩]) (.cond (.t 27) .skip (.exit 4))) (.seq (.block 5 (.tree (.take ⟨(some 30), (.mov (.t 5)), none⟩ (.take ⟨(some 31), (.mov (.t 7)), none⟩ (.take ⟨(some 32), (.idx 1 (.t 30) (.t 31)), none⟩ (.take ⟨(some 33), (.ld none (.t 32)), none⟩ (.take ⟨(some 34), (.mov (.t 5)), none⟩ (.take ⟨(some 35), (.mov (.t 7)), none⟩ (.take ⟨(some 36), (.bin .sub (.t 35) (.c (.int .i64 1))), none⟩ (.take ⟨(some 37), (.idx 1 (.t 34) (.t 36)), none⟩ (.take ⟨(some 38), (.ld none (.t 37)), none⟩ (.take ⟨(some 39), (.bin .sub (.t 33) (.t 38)), none⟩ (.take ⟨(some 40), (.idx 1 (.t 30) (.t 31)), none⟩ (.take ⟨none, (.st 1 (.t 40) (.t 39)), none⟩ .done)))))))))))))) (.ops [⟨(some 28), (.mov (.t 7)), none⟩, ⟨(some 29), (.bin .sub (.t 28) (.c (.int .i64 1))), none⟩, ⟨(some 7), (.mov (.t 29)), none⟩]))))))) (.ops [⟨(some 41), (.bin .add (.t 23) (.c (.int .i64 1))), none⟩, ⟨(some 23), (.mov (.t 41)), none⟩]))))))) (.seq (.ops [⟨(some 42), (.mov (.t 5)), none⟩, ⟨(some 43), (.mov (.t 0)), none⟩, ⟨(some 44), (.idx 1 (.t 42) (.t 43)), none⟩, ⟨(some 45), (.ld none (.t 44)), none⟩, ⟨(some 4), (.mov (.t 45)), none⟩]) .ret)))))
theorem cc39 : ccode Try.prog (min Try.f39.ntmps pbase) (Try.f39.body.getD .skip) = some ac39 := by kernel_rfl
def ac40 : ACode := (.seq (.ops [⟨(some 3), (.box 13 (.t 0)), none⟩, ⟨(some 6), (.mov (.c (.bool false))), none⟩]) (.seq (.ops [⟨(some 7), (.mov (.t 2)), none⟩, ⟨(some 8), (.mov (.t 1)), none⟩, ⟨(some 9), (.bin .neq (.t 7) (.t 8)), none⟩, ⟨(some 10), (.mov (.t 9)), none⟩, ⟨(some 11), (.mov (.t 2)), (some (10, true))⟩, ⟨(some 12), (.fa 1 (.t 3)), (some (10, true))⟩, ⟨(some 13), (.arr 1 12 (.t 12) (.t 11)), (some (10, true))⟩, ⟨(some 14), (.ld none (.t 13)), (some (10, true))⟩, ⟨(some 15), (.not (.t 14)), (some (10, true))⟩, ⟨(some 16), (.pick (.t 10) (.t 15) (.c (.bool false))), none⟩, ⟨(some 6), (.mov (.t 16)), none⟩]) .ret))
theorem cc40 : ccode Try.prog (min Try.f40.ntmps pbase) (Try.f40.body.getD .skip) = some ac40 := by kernel_rfl
def ac41 : ACode := (.seq (.ops [⟨(some 2), (.box 13 (.t 0)), none⟩, ⟨(some 4), (.alloc [(.int .i64 0), (.bool false), (.bool false), (.bool false), (.bool false), (.bool false), (.bool false), (.bool false), (.bool false), (.bool false), (.bool false), (.bool false), (.bool false)]), none⟩]) (.seq (.ops [⟨(some 5), (.mov (.t 1)), none⟩, ⟨(some 6), (.fa 1 (.t 2)), none⟩, ⟨(some 7), (.arr 1 12 (.t 6) (.t 5)), none⟩, ⟨none, (.st 1 (.t 7) (.c (.bool true))), none⟩]) (.seq (.ops [⟨(some 8), (.ld (some 13) (.t 2)), none⟩, ⟨none, (.st 13 (.t 4) (.t 8)), none⟩]) .ret)))
theorem cc41 : ccode Try.prog (min Try.f41.ntmps pbase) (Try.f41.body.getD .skip) = some ac41 := by kernel_rfl
def ac42 : ACode := (.seq (.ops [⟨(some 2), (.box 13 (.t 0)), none⟩, ⟨(some 4), (.mov (.c (.int .i64 0))), none⟩]) (.seq (.ops [⟨(some 5), (.mov (.c (.int .i64 0))), none⟩]) (.seq (.seq (.ops [⟨(some 7), (.mov (.t 1)), none⟩, ⟨(some 6), (.mov (.t 7)), none⟩]) (.block 0 (.loop (.seq (.seq (.ops [⟨(some 8), (.mov (.t 6)), none⟩, ⟨(some 9), (.fa 0 (.t 2)), none⟩, ⟨(some 10), (.ld none (.t 9)), none⟩, ⟨(some 11), (.bin .lss (.t 8) (.t 10)), none⟩]) (.cond (.t 11) .skip (.exit 0))) (.seq (.block 1 (.seq (.ops [⟨(some 14), (.mov (.t 6)), none⟩, ⟨(some 15), (.fa 1 (.t 2)), none⟩, ⟨(some 16), (.arr 1 12 (.t 15) (.t 14)), none⟩, ⟨(some 17), (.ld none (.t 16)), none⟩, ⟨(some 18), (.not (.t 17)), none⟩]) (.cond (.t 18) (.ops [⟨(some 19), (.mov (.t 5)), none⟩, ⟨(some 20), (.bin .add (.t 19) (.c (.int .i64 1))), none⟩, ⟨(some 5), (.mov (.t 20)), none⟩]) .skip))) (.ops [⟨(some 12), (.mov (.t 6)), none⟩, ⟨(some 13), (.bin .add (.t 12) (.c (.int .i64 1))), none⟩, ⟨(some 6), (.mov (.t 13)), none⟩])))))) (.seq (.ops [⟨(some 21), (.fa 0 (.t 2)), none⟩, ⟨(some 22), (.ld none (.t 21)), none⟩, ⟨(some 23), (.mov (.t 1)), none⟩, ⟨(some 24), (.bin .sub (.t 22) (.t 23)), none⟩, ⟨(some 25), (.mov (.t 5)), none⟩, ⟨(some 26), (.call 39 [(.t 24), (.t 25)]), none⟩, ⟨(some 4), (.mov (.t 26)), none⟩]) .ret))))
theorem cc42 : ccode Try.prog (min Try.f42.ntmps pbase) (Try.f42.body.getD .skip) = some ac42 := by kernel_rfl
def ac43 : ACode := (.seq (.ops [⟨(some 2), (.mov (.c (.int .i64 0))), none⟩]) (.seq (.ops [⟨(some 4), (.mov (.t 0)), none⟩, ⟨(some 5), (.pu (.bld [(.slice none 0 0), (.int .i64 0), (.int .u64 0)] [(0, 1)]) [(.t 4)]), none⟩, ⟨(some 6), (.box 3 (.t 5)), none⟩, ⟨(some 3), (.mov (.t 6)), none⟩]) (.seq (.ops [⟨(some 7), (.mov (.t 3)), none⟩, ⟨(some 8), (.call 50 [(.t 7)]), none⟩, ⟨(some 2), (.mov (.t 8)), none⟩]) .ret)))
theorem cc43 : ccode Try.prog (min Try.f43.ntmps pbase) (Try.f43.body.getD .skip) = some ac43 := by kernel_rfl
def ac44 : ACode := (.seq (.ops [⟨(some 2), (.mov (.c (.bool false))), none⟩]) (.seq (.ops [⟨(some 3), (.mov (.t 0)), none⟩, ⟨(some 4), (.call 53 [(.t 3), (.c (.int .i64 1)), (.c (.int .i64 12))]), none⟩, ⟨(some 2), (.mov (.t 4)), none⟩]) .ret))
theorem cc44 : ccode Try.prog (min Try.f44.ntmps pbase) (Try.f44.body.getD .skip) = some ac44 := by kernel_rfl
def ac45 : ACode := (.seq (.ops [⟨(some 4), (.alloc [(.int .i64 0), (.int .i64 0)]), none⟩]) (.seq (.ops [⟨(some 6), (.mov (.t 0)), none⟩, ⟨(some 7), (.mov (.t 1)), none⟩, ⟨(some 8), (.call 63 [(.t 6), (.t 7)]), none⟩, ⟨(some 5), (.mov (.t 8)), none⟩]) (.seq (.tree (.take ⟨(some 9), (.mov (.t 0)), none⟩ (.take ⟨(some 10), (.mov (.t 5)), none⟩ (.take ⟨(some 11), (.bin .quo (.t 9) (.t 10)), none⟩ (.take ⟨(some 12), (.mov (.t 1)), none⟩ (.take ⟨(some 13), (.mov (.t 5)), none⟩ (.take ⟨(some 14), (.bin .quo (.t 12) (.t 13)), none⟩ (.take ⟨(some 15), (.pu (.bld [(.int .i64 0), (.int .i64 0)] [(0, 1), (1, 1)]) [(.t 11), (.t 14)]), none⟩ (.take ⟨none, (.st 2 (.t 4) (.t 15)), none⟩ .done))))))))) .ret)))
theorem cc45 : ccode Try.prog (min Try.f45.ntmps pbase) (Try.f45.body.getD .skip) = some ac45 := by kernel_rfl
def ac46 : ACode := (.seq (.ops [⟨(some 2), (.mov (.c (.int .i64 0))), none⟩]) (.seq (.ops [⟨(some 3), (.mov (.c (.int .i64 1))), none⟩]) (.seq (.seq (.ops [⟨(some 4), (.mov (.c (.int .i64 2))), none⟩]) (.block 0 (.loop (.seq (.seq (.ops [⟨(some 5), (.mov (.t 4)), none⟩, ⟨(some 6), (.mov (.t 0)), none⟩, ⟨(some 7), (.bin .leq (.t 5) (.t 6)), none⟩]) (.cond (.t 7) .skip (.exit 0))) (.seq (.block 1 (.ops [⟨(some 10), (.mov (.t 3)), none⟩, ⟨(some 11), (.mov (.t 4)), none⟩, ⟨(some 12), (.bin .mul (.t 10) (.t 11)), none⟩, ⟨(some 3), (.mov (.t 12)), none⟩])) (.ops [⟨(some 8), (.mov (.t 4)), none⟩, ⟨(some 9), (.bin .add (.t 8) (.c (.int .i64 1))), none⟩, ⟨(some 4), (.mov (.t 9)), none⟩])))))) (.seq (.ops [⟨(some 13), (.mov (.t 3)), none⟩, ⟨(some 2), (.mov (.t 13)), none⟩]) .ret))))
theorem cc46 : ccode Try.prog (min Try.f46.ntmps pbase) (Try.f46.body.getD .skip) = some ac46 := by kernel_rfl
def ac47 : ACode := (.seq (.ops [⟨(some 1), (.box 2 (.t 0)), none⟩, ⟨(some 2), (.mov (.c (.int .i64 0))), none⟩, ⟨(some 3), (.mov (.c (.int .i64 0))), none⟩, ⟨(some 4), (.mov (.c (.bool false))), none⟩]) (.seq (.tree (.take ⟨(some 5), (.fa 0 (.t 1)), none⟩ (.take ⟨(some 6), (.ld none (.t 5)), none⟩ (.take ⟨(some 7), (.fa 1 (.t 1)), none⟩ (.take ⟨(some 8), (.ld none (.t 7)), none⟩ (.take ⟨(some 2), (.mov (.t 6)), none⟩ (.take ⟨(some 3), (.mov (.t 8)), none⟩ (.take ⟨(some 4), (.mov (.c (.bool true))), none⟩ .done)))))))) .ret))
theorem cc47 : ccode Try.prog (min Try.f47.ntmps pbase) (Try.f47.body.getD .skip) = some ac47 := by kernel_rfl
def ac48 : ACode := (.seq (.ops [⟨(some 4), (.mov (.c (.int .i64 0))), none⟩, ⟨(some 5), (.mov (.c (.int .i64 0))), none⟩]) (.seq (.ops [⟨(some 8), (.mov (.t 0)), none⟩, ⟨(some 9), (.mov (.t 1)), none⟩, ⟨(some 6), (.mov (.t 8)), none⟩, ⟨(some 7), (.mov (.t 9)), none⟩]) (.seq (.block 0 (.loop (.seq (.seq (.ops [⟨(some 10), (.mov (.t 7)), none⟩, ⟨(some 11), (.bin .gtr (.t 10) (.c (.int .i64 0))), none⟩]) (.cond (.t 11) .skip (.exit 0))) (.block 1 (.tree (.take ⟨(some 12), (.mov (.t 7)), none⟩ (.take ⟨(some 13), (.mov (.t 6)), none⟩ (.take ⟨(some 14), (.mov (.t 7)), none⟩ (.take ⟨(some 15), (.bin .rem (.t 13) (.t 14)), none⟩ (.take ⟨(some 6), (.mov (.t 12)), none⟩ (.take ⟨(some 7), (.mov (.t 15)), none⟩ .done))))))))))) (.seq (.tree (.take ⟨(some 16), (.mov (.t 0)), none⟩ (.take ⟨(some 17), (.mov (.t 6)), none⟩ (.take ⟨(some 18), (.bin .quo (.t 16) (.t 17)), none⟩ (.take ⟨(some 19), (.mov (.t 1)), none⟩ (.take ⟨(some 20), (.mov (.t 6)), none⟩ (.take ⟨(some 21), (.bin .quo (.t 19) (.t 20)), none⟩ (.take ⟨(some 4), (.mov (.t 18)), none⟩ (.take ⟨(some 5), (.mov (.t 21)), none⟩ .done))))))))) .ret))))
theorem cc48 : ccode Try.prog (min Try.f48.ntmps pbase) (Try.f48.body.getD .skip) = some ac48 := by kernel_rfl
def ac49 : ACode := (.seq (.ops [⟨(some 2), (.mov (.c (.int .i64 0))), none⟩]) (.seq (.ops [⟨(some 3), (.mov (.c (.int .i64 1))), none⟩]) (.seq (.seq (.ops [⟨(some 4), (.mov (.c (.int .i64 2))), none⟩]) (.block 0 (.loop (.seq (.seq (.ops [⟨(some 5), (.mov (.t 4)), none⟩, ⟨(some 6), (.mov (.t 0)), none⟩, ⟨(some 7), (.bin .leq (.t 5) (.t 6)), none⟩]) (.cond (.t 7) .skip (.exit 0))) (.seq (.block 1 (.ops [⟨(some 10), (.mov (.t 3)), none⟩, ⟨(some 11), (.mov (.t 4)), none⟩, ⟨(some 12), (.bin .mul (.t 10) (.t 11)), none⟩, ⟨(some 3), (.mov (.t 12)), none⟩])) (.ops [⟨(some 8), (.mov (.t 4)), none⟩, ⟨(some 9), (.bin .add (.t 8) (.c (.int .i64 1))), none⟩, ⟨(some 4), (.mov (.t 9)), none⟩])))))) (.seq (.ops [⟨(some 13), (.mov (.t 3)), none⟩, ⟨(some 2), (.mov (.t 13)), none⟩]) .ret))))
theorem cc49 : ccode Try.prog (min Try.f49.ntmps pbase) (Try.f49.body.getD .skip) = some ac49 := by kernel_rfl
def ac50 : ACode := (.seq (.ops [⟨(some 2), (.mov (.c (.int .i64 0))), none⟩]) (.seq (.ops [⟨(some 3), (.mov (.t 0)), none⟩, ⟨(some 4), (.bsl 1 12 [(.int .i64 0)] [(0, (.c (.int .i64 1))), (1, (.c (.int .i64 2))), (2, (.c (.int .i64 3))), (3, (.c (.int .i64 4))), (4, (.c (.int .i64 5))), (5, (.c (.int .i64 6))), (6, (.c (.int .i64 7))), (7, (.c (.int .i64 8))), (8, (.c (.int .i64 12))), (9, (.c (.int .i64 13))), (10, (.c (.int .i64 0))), (11, (.c (.int .i64 (-1))))]), none⟩, ⟨(some 5), (.call 51 [(.t 3), (.t 4)]), none⟩, ⟨(some 2), (.mov (.t 5)), none⟩]) .ret))
theorem cc50 : ccode Try.prog (min Try.f50.ntmps pbase) (Try.f50.body.getD .skip) = some ac50 := by kernel_rfl
def ac51 : ACode := (.seq (.ops [⟨(some 4), (.mov (.c (.int .i64 0))), none⟩]) (.seq (.ops [⟨(some 5), (.mov (.t 1)), none⟩, ⟨(some 6), (.mov (.t 0)), none⟩, ⟨(some 7), (.mov (.t 1)), none⟩, ⟨(some 8), (.len (.t 7)), none⟩, ⟨(some 9), (.call 64 [(.t 6), (.t 8)]), none⟩, ⟨(some 10), (.idx 1 (.t 5) (.t 9)), none⟩, ⟨(some 11), (.ld none (.t 10)), none⟩, ⟨(some 4), (.mov (.t 11)), none⟩]) .ret))
theorem cc51 : ccode Try.prog (min Try.f51.ntmps pbase) (Try.f51.body.getD .skip) = some ac51 := by kernel_rfl
def ac52 : ACode := (.seq (.ops [⟨(some 4), (.mov (.c (.int .i64 0))), none⟩]) (.seq (.ops [⟨(some 5), (.mov (.t 0)), none⟩, ⟨(some 6), (.call 46 [(.t 5)]), none⟩, ⟨(some 7), (.mov (.t 1)), none⟩, ⟨(some 8), (.call 46 [(.t 7)]), none⟩, ⟨(some 9), (.mov (.t 0)), none⟩, ⟨(some 10), (.mov (.t 1)), none⟩, ⟨(some 11), (.bin .sub (.t 9) (.t 10)), none⟩, ⟨(some 12), (.call 46 [(.t 11)]), none⟩, ⟨(some 13), (.bin .mul (.t 8) (.t 12)), none⟩, ⟨(some 14), (.bin .quo (.t 6) (.t 13)), none⟩, ⟨(some 4), (.mov (.t 14)), none⟩]) .ret))
theorem cc52 : ccode Try.prog (min Try.f52.ntmps pbase) (Try.f52.body.getD .skip) = some ac52 := by kernel_rfl
def ac53 : ACode := (.seq (.ops [⟨(some 6), (.mov (.c (.bool false))), none⟩]) (.seq (.ops [⟨(some 7), (.mov (.t 0)), none⟩, ⟨(some 8), (.mov (.t 1)), none⟩, ⟨(some 9), (.bin .geq (.t 7) (.t 8)), none⟩, ⟨(some 10), (.mov (.t 9)), none⟩, ⟨(some 11), (.mov (.t 0)), (some (10, true))⟩, ⟨(some 12), (.mov (.t 2)), (some (10, true))⟩, ⟨(some 13), (.bin .leq (.t 11) (.t 12)), (some (10, true))⟩, ⟨(some 14), (.pick (.t 10) (.t 13) (.c (.bool false))), none⟩, ⟨(some 6), (.mov (.t 14)), none⟩]) .ret))
theorem cc53 : ccode Try.prog (min Try.f53.ntmps pbase) (Try.f53.body.getD .skip) = some ac53 := by kernel_rfl
def ac54 : ACode := (.seq (.ops [⟨(some 4), (.mov (.c (.int .i64 0))), none⟩]) (.seq (.ops [⟨(some 5), (.mov (.c (.int .i64 1))), none⟩]) (.seq (.seq (.ops [⟨(some 6), (.mov (.c (.int .i64 1))), none⟩]) (.block 0 (.loop (.seq (.seq (.ops [⟨(some 7), (.mov (.t 6)), none⟩, ⟨(some 8), (.mov (.t 1)), none⟩, ⟨(some 9), (.bin .leq (.t 7) (.t 8)), none⟩]) (.cond (.t 9) .skip (.exit 0))) (.seq (.block 1 (.ops [⟨(some 12), (.mov (.t 5)), none⟩, ⟨(some 13), (.mov (.t 0)), none⟩, ⟨(some 14), (.mov (.t 1)), none⟩, ⟨(some 15), (.bin .sub (.t 13) (.t 14)), none⟩, ⟨(some 16), (.mov (.t 6)), none⟩, ⟨(some 17), (.bin .add (.t 15) (.t 16)), none⟩, ⟨(some 18), (.bin .mul (.t 12) (.t 17)), none⟩, ⟨(some 19), (.mov (.t 6)), none⟩, ⟨(some 20), (.bin .quo (.t 18) (.t 19)), none⟩, ⟨(some 5), (.mov (.t 20)), none⟩])) (.ops [⟨(some 10), (.mov (.t 6)), none⟩, ⟨(some 11), (.bin .add (.t 10) (.c (.int .i64 1))), none⟩, ⟨(some 6), (.mov (.t 11)), none⟩])))))) (.seq (.ops [⟨(some 21), (.mov (.t 5)), none⟩, ⟨(some 4), (.mov (.t 21)), none⟩]) .ret))))
theorem cc54 : ccode Try.prog (min Try.f54.ntmps pbase) (Try.f54.body.getD .skip) = some ac54 := by kernel_rfl
def ac55 : ACode := (.seq (.ops [⟨(some 2), (.nils 1), none⟩]) (.seq (.seq (.ops [⟨(some 4), (.mov (.t 0)), none⟩, ⟨(some 5), (.call 65 [(.t 4), (.c (.int .i64 12))]), none⟩]) (.cond (.t 5) (.seq (.ops [⟨(some 6), (.bsl 1 1 [(.int .i64 0)] [(0, (.c (.int .i64 1)))]), none⟩, ⟨(some 7), (.bsl 1 2 [(.int .i64 0)] [(0, (.c (.int .i64 0))), (1, (.c (.int .i64 0)))]), none⟩, ⟨(some 8), (.bsl 1 1 [(.int .i64 0)] [(0, (.c (.int .i64 (-1))))]), none⟩, ⟨(some 9), (.bsl 1 2 [(.int .i64 0)] [(0, (.c (.int .i64 0))), (1, (.c (.int .i64 2)))]), none⟩, ⟨(some 10), (.bsl 1 13 [(.int .i64 0)] [(0, (.c (.int .i64 0))), (1, (.c (.int .i64 1))), (2, (.c (.int .i64 2))), (3, (.c (.int .i64 3))), (4, (.c (.int .i64 4))), (5, (.c (.int .i64 5))), (6, (.c (.int .i64 6))), (7, (.c (.int .i64 7))), (8, (.c (.int .i64 8))), (9, (.c (.int .i64 9))), (10, (.c (.int .i64 10))), (11, (.c (.int .i64 11))), (12, (.c (.int .i64 12)))]), none⟩, ⟨(some 11), (.bsl 1 12 [(.int .i64 0)] [(0, (.c (.int .i64 1))), (1, (.c (.int .i64 2))), (2, (.c (.int .i64 3))), (3, (.c (.int .i64 4))), (4, (.c (.int .i64 5))), (5, (.c (.int .i64 6))), (6, (.c (.int .i64 7))), (7, (.c (.int .i64 8))), (8, (.c (.int .i64 9))), (9, (.c (.int .i64 10))), (10, (.c (.int .i64 11))), (11, (.c (.int .i64 0)))]), none⟩, ⟨(some 12), (.bsl 1 7 [(.slice none 0 0)] [(0, (.c (.slice none 0 0))), (1, (.t 6)), (2, (.t 7)), (3, (.t 8)), (4, (.t 9)), (5, (.t 10)), (6, (.t 11))]), none⟩, ⟨(some 13), (.mov (.t 0)), none⟩, ⟨(some 14), (.call 64 [(.t 13), (.c (.int .i64 7))]), none⟩, ⟨(some 15), (.idx 1 (.t 12) (.t 14)), none⟩, ⟨(some 16), (.ld none (.t 15)), none⟩, ⟨(some 2), (.mov (.t 16)), none⟩]) .ret) .skip)) (.seq (.seq (.ops [⟨(some 17), (.mov (.t 0)), none⟩, ⟨(some 18), (.call 65 [(.t 17), (.c (.int .i64 4))]), none⟩]) (.cond (.t 18) (.seq (.ops [⟨(some 19), (.mov (.t 0)), none⟩, ⟨(some 20), (.call 64 [(.t 19), (.c (.int .i64 5))]), none⟩, ⟨(some 21), (.bin .add (.c (.int .i64 2)) (.t 20)), none⟩, ⟨(some 3), (.mov (.t 21)), none⟩]) (.seq (.ops [⟨(some 22), (.mov (.t 3)), none⟩, ⟨(some 23), (.mov (.t 0)), none⟩, ⟨(some 24), (.mov (.t 3)), none⟩, ⟨(some 25), (.call 35 [(.t 24)]), none⟩, ⟨(some 26), (.call 64 [(.t 23), (.t 25)]), none⟩, ⟨(some 27), (.call 36 [(.t 22), (.t 26)]), none⟩, ⟨(some 2), (.mov (.t 27)), none⟩]) .ret)) .skip)) (.seq (.ops [⟨(some 28), (.mov (.t 0)), none⟩, ⟨(some 29), (.call 66 [(.t 28), (.c (.int .i64 7))]), none⟩, ⟨(some 2), (.mov (.t 29)), none⟩]) .ret))))
theorem cc55 : ccode Try.prog (min Try.f55.ntmps pbase) (Try.f55.body.getD .skip) = some ac55 := by kernel_rfl
def ac56 : ACode := (.seq (.ops [⟨(some 6), (.mov (.c (.bool false))), none⟩]) (.seq (.seq (.ops [⟨(some 9), (.mov (.t 0)), none⟩, ⟨(some 10), (.len (.t 9)), none⟩, ⟨(some 11), (.mov (.c (.int .i64 0))), none⟩]) (.block 0 (.loop (.seq (.ops [⟨(some 12), (.bin .lss (.t 11) (.t 10)), none⟩]) (.seq (.cond (.t 12) .skip (.exit 0)) (.seq (.block 1 (.seq (.ops [⟨(some 13), (.idx 1 (.t 9) (.t 11)), none⟩, ⟨(some 14), (.ld none (.t 13)), none⟩, ⟨(some 8), (.mov (.t 14)), none⟩]) (.seq (.ops [⟨(some 15), (.mov (.t 8)), none⟩, ⟨(some 16), (.mov (.t 1)), none⟩, ⟨(some 17), (.mov (.t 2)), none⟩, ⟨(some 18), (.call 53 [(.t 15), (.t 16), (.t 17)]), none⟩, ⟨(some 19), (.not (.t 18)), none⟩]) (.cond (.t 19) (.seq (.ops [⟨(some 6), (.mov (.c (.bool false))), none⟩]) .ret) .skip)))) (.ops [⟨(some 20), (.bin .add (.t 11) (.c (.int .i64 1))), none⟩, ⟨(some 11), (.mov (.t 20)), none⟩]))))))) (.seq (.ops [⟨(some 6), (.mov (.c (.bool true))), none⟩]) .ret)))
theorem cc56 : ccode Try.prog (min Try.f56.ntmps pbase) (Try.f56.body.getD .skip) = some ac56 := by kernel_rfl
def ac57 : ACode := (.seq (.ops [⟨(some 4), (.mov (.c (.bool false))), none⟩]) (.seq (.seq (.ops [⟨(some 7), (.mov (.t 0)), none⟩, ⟨(some 8), (.len (.t 7)), none⟩, ⟨(some 9), (.mov (.c (.int .i64 0))), none⟩]) (.block 0 (.loop (.seq (.ops [⟨(some 10), (.bin .lss (.t 9) (.t 8)), none⟩]) (.seq (.cond (.t 10) .skip (.exit 0)) (.seq (.block 1 (.seq (.ops [⟨(some 11), (.idx 1 (.t 7) (.t 9)), none⟩, ⟨(some 12), (.ld none (.t 11)), none⟩, ⟨(some 6), (.mov (.t 12)), none⟩]) (.seq (.ops [⟨(some 13), (.mov (.t 6)), none⟩, ⟨(some 14), (.mov (.t 1)), none⟩, ⟨(some 15), (.bin .eql (.t 13) (.t 14)), none⟩]) (.cond (.t 15) (.seq (.ops [⟨(some 4), (.mov (.c (.bool true))), none⟩]) .ret) .skip)))) (.ops [⟨(some 16), (.bin .add (.t 9) (.c (.int .i64 1))), none⟩, ⟨(some 9), (.mov (.t 16)), none⟩]))))))) (.seq (.ops [⟨(some 4), (.mov (.c (.bool false))), none⟩]) .ret)))
theorem cc57 : ccode Try.prog (min Try.f57.ntmps pbase) (Try.f57.body.getD .skip) = some ac57 := by kernel_rfl
def ac58 : ACode := (.seq (.ops [⟨(some 4), (.mov (.c (.int .i64 0))), none⟩]) (.seq (.ops [⟨(some 5), (.mov (.c (.int .i64 0))), none⟩]) (.seq (.seq (.ops [⟨(some 11), (.mov (.t 0)), none⟩, ⟨(some 12), (.len (.t 11)), none⟩, ⟨(some 6), (.mov (.t 12)), none⟩]) (.block 0 (.loop (.seq (.seq (.ops [⟨(some 13), (.mov (.t 6)), none⟩, ⟨(some 14), (.mov (.t 1)), none⟩, ⟨(some 15), (.bin .lss (.t 13) (.t 14)), none⟩]) (.cond (.t 15) .skip (.exit 0))) (.seq (.block 1 (.seq (.ops [⟨(some 18), (.mov (.t 0)), none⟩, ⟨(some 19), (.mov (.t 6)), none⟩, ⟨(some 20), (.call 57 [(.t 18), (.t 19)]), none⟩, ⟨(some 21), (.not (.t 20)), none⟩]) (.cond (.t 21) (.ops [⟨(some 22), (.mov (.t 5)), none⟩, ⟨(some 23), (.bin .add (.t 22) (.c (.int .i64 1))), none⟩, ⟨(some 5), (.mov (.t 23)), none⟩]) .skip))) (.ops [⟨(some 16), (.mov (.t 6)), none⟩, ⟨(some 17), (.bin .add (.t 16) (.c (.int .i64 1))), none⟩, ⟨(some 6), (.mov (.t 17)), none⟩])))))) (.seq (.ops [⟨(some 24), (.mov (.t 1)), none⟩, ⟨(some 25), (.mov (.t 0)), none⟩, ⟨(some 26), (.len (.t 25)), none⟩, ⟨(some 27), (.bin .sub (.t 24) (.t 26)), none⟩, ⟨(some 7), (.mov (.t 27)), none⟩]) (.seq (.ops [⟨(some 8), (.mov (.c (.int .i64 0))), none⟩]) (.seq (.seq (.ops [⟨(some 9), (.mov (.c (.int .i64 0))), none⟩]) (.block 2 (.loop (.seq (.seq (.ops [⟨(some 28), (.mov (.t 9)), none⟩, ⟨(some 29), (.mov (.t 5)), none⟩, ⟨(some 30), (.bin .leq (.t 28) (.t 29)), none⟩]) (.cond (.t 30) .skip (.exit 2))) (.seq (.block 3 (.seq (.ops [⟨(some 33), (.mov (.t 5)), none⟩, ⟨(some 34), (.mov (.t 9)), none⟩, ⟨(some 35), (.call 54 [(.t 33), (.t 34)]), none⟩, ⟨(some 36), (.mov (.t 7)), none⟩, ⟨(some 37), (.mov (.t 9)), none⟩, ⟨(some 38), (.bin .sub (.t 36) (.t 37)), none⟩, ⟨(some 39), (.call 49 [(.t 38)]), none⟩, ⟨(some 40), (.bin .mul (.t 35) (.t 39)), none⟩, ⟨(some 10), (.mov (.t 40)), none⟩]) (.seq (.ops [⟨(some 41), (.mov (.t 9)), none⟩, ⟨(some 42), (.bin .rem (.t 41) (.c (.int .i64 2))), none⟩, ⟨(some 43), (.bin .eql (.t 42) (.c (.int .i64 0))), none⟩]) (.cond (.t 43) (.ops [⟨(some 44), (.mov (.t 8)), none⟩, ⟨(some 45), (.mov (.t 10)), none⟩, ⟨(some 46), (.bin .add (.t 44) (.t 45)), none⟩, ⟨(some 8), (.mov (.t 46)), none⟩]) (.ops [⟨(some 47), (.mov (.t 8)), none⟩, ⟨(some 48), (.mov (.t 10)), none⟩, ⟨(some 49), (.bin .sub (.t 47) (.t 48)), none⟩, ⟨(some 8), (.mov (.t 49)), none⟩]))))) (.ops [⟨(some 31), (.mov (.t 9)), none⟩, ⟨(some 32), (.bin .add (.t 31) (.c (.int .i64 1))), none⟩, ⟨(some 9), (.mov (.t 32)), none⟩])))))) (.seq (.ops [⟨(some 50), (.mov (.t 8)), none⟩, ⟨(some 4), (.mov (.t 50)), none⟩]) .ret)))))))
theorem cc58 : ccode Try.prog (min Try.f58.ntmps pbase) (Try.f58.body.getD .skip) = some ac58 := by kernel_rfl
def ac59 : ACode := (.seq (.ops [⟨(some 2), (.nils 1), none⟩]) (.seq (.ops [⟨(some 3), (.bsl 1 0 [(.int .i64 0)] []), none⟩, ⟨(some 4), (.mov (.t 0)), none⟩, ⟨(some 5), (.app 1 8 (.t 3) (.t 4)), none⟩, ⟨(some 2), (.mov (.t 5)), none⟩]) .ret))
theorem cc59 : ccode Try.prog (min Try.f59.ntmps pbase) (Try.f59.body.getD .skip) = some ac59 := by kernel_rfl
def ac60 : ACode := (.seq (.ops [⟨(some 4), (.mov (.c (.bool false))), none⟩]) (.seq (.ops [⟨(some 5), (.mov (.t 0)), none⟩, ⟨(some 6), (.bin .geq (.t 5) (.c (.int .i64 0))), none⟩, ⟨(some 7), (.mov (.t 6)), none⟩, ⟨(some 8), (.mov (.t 0)), (some (7, true))⟩, ⟨(some 9), (.mov (.t 1)), (some (7, true))⟩, ⟨(some 10), (.bin .lss (.t 8) (.t 9)), (some (7, true))⟩, ⟨(some 11), (.pick (.t 7) (.t 10) (.c (.bool false))), none⟩, ⟨(some 4), (.mov (.t 11)), none⟩]) .ret))
theorem cc60 : ccode Try.prog (min Try.f60.ntmps pbase) (Try.f60.body.getD .skip) = some ac60 := by kernel_rfl
def ac61 : ACode := (.seq (.ops [⟨(some 4), (.mov (.c (.bool false))), none⟩]) (.seq (.ops [⟨(some 5), (.mov (.t 0)), none⟩, ⟨(some 6), (.mov (.t 1)), none⟩, ⟨(some 7), (.bin .shr (.t 5) (.t 6)), none⟩, ⟨(some 8), (.bin .and (.t 7) (.c (.int .u16 1))), none⟩, ⟨(some 9), (.bin .eql (.t 8) (.c (.int .u16 1))), none⟩, ⟨(some 4), (.mov (.t 9)), none⟩]) .ret))
theorem cc61 : ccode Try.prog (min Try.f61.ntmps pbase) (Try.f61.body.getD .skip) = some ac61 := by kernel_rfl
def ac62 : ACode := (.seq (.ops [⟨(some 4), (.mov (.c (.int .u16 0))), none⟩]) (.seq (.ops [⟨(some 5), (.mov (.t 0)), none⟩, ⟨(some 6), (.mov (.t 1)), none⟩, ⟨(some 7), (.bin .shl (.c (.int .u16 1)) (.t 6)), none⟩, ⟨(some 8), (.bin .or (.t 5) (.t 7)), none⟩, ⟨(some 4), (.mov (.t 8)), none⟩]) .ret))
theorem cc62 : ccode Try.prog (min Try.f62.ntmps pbase) (Try.f62.body.getD .skip) = some ac62 := by kernel_rfl
def ac63 : ACode := (.seq (.ops [⟨(some 4), (.mov (.c (.int .i64 0))), none⟩]) (.seq (.block 0 (.loop (.seq (.seq (.ops [⟨(some 5), (.mov (.t 1)), none⟩, ⟨(some 6), (.bin .neq (.t 5) (.c (.int .i64 0))), none⟩]) (.cond (.t 6) .skip (.exit 0))) (.block 1 (.tree (.take ⟨(some 7), (.mov (.t 1)), none⟩ (.take ⟨(some 8), (.mov (.t 0)), none⟩ (.take ⟨(some 9), (.mov (.t 1)), none⟩ (.take ⟨(some 10), (.bin .rem (.t 8) (.t 9)), none⟩ (.take ⟨(some 0), (.mov (.t 7)), none⟩ (.take ⟨(some 1), (.mov (.t 10)), none⟩ .done))))))))))) (.seq (.ops [⟨(some 11), (.mov (.t 0)), none⟩, ⟨(some 4), (.mov (.t 11)), none⟩]) .ret)))
theorem cc63 : ccode Try.prog (min Try.f63.ntmps pbase) (Try.f63.body.getD .skip) = some ac63 := by kernel_rfl
def ac64 : ACode := (.seq (.ops [⟨(some 4), (.mov (.c (.int .i64 0))), none⟩]) (.seq (.seq (.ops [⟨(some 6), (.mov (.t 1)), none⟩, ⟨(some 7), (.bin .leq (.t 6) (.c (.int .i64 1))), none⟩]) (.cond (.t 7) (.seq (.ops [⟨(some 4), (.mov (.c (.int .i64 0))), none⟩]) .ret) .skip)) (.seq (.ops [⟨(some 8), (.mov (.t 0)), none⟩, ⟨(some 9), (.call 67 [(.t 8)]), none⟩, ⟨(some 5), (.mov (.t 9)), none⟩]) (.seq (.seq (.ops [⟨(some 10), (.mov (.t 1)), none⟩, ⟨(some 11), (.bin .gtr (.t 10) (.c (.int .i64 200))), none⟩]) (.cond (.t 11) (.ops [⟨(some 12), (.mov (.t 5)), none⟩, ⟨(some 13), (.bin .mul (.t 12) (.c (.int .i64 256))), none⟩, ⟨(some 14), (.mov (.t 0)), none⟩, ⟨(some 15), (.call 67 [(.t 14)]), none⟩, ⟨(some 16), (.bin .add (.t 13) (.t 15)), none⟩, ⟨(some 5), (.mov (.t 16)), none⟩]) .skip)) (.seq (.ops [⟨(some 17), (.mov (.t 5)), none⟩, ⟨(some 18), (.mov (.t 1)), none⟩, ⟨(some 19), (.bin .rem (.t 17) (.t 18)), none⟩, ⟨(some 4), (.mov (.t 19)), none⟩]) .ret)))))
theorem cc64 : ccode Try.prog (min Try.f64.ntmps pbase) (Try.f64.body.getD .skip) = some ac64 := by kernel_rfl
def ac65 : ACode := (.seq (.ops [⟨(some 4), (.mov (.c (.bool false))), none⟩]) (.seq (.ops [⟨(some 5), (.mov (.t 0)), none⟩, ⟨(some 6), (.mov (.t 1)), none⟩, ⟨(some 7), (.call 64 [(.t 5), (.t 6)]), none⟩, ⟨(some 8), (.bin .eql (.t 7) (.c (.int .i64 0))), none⟩, ⟨(some 4), (.mov (.t 8)), none⟩]) .ret))
theorem cc65 : ccode Try.prog (min Try.f65.ntmps pbase) (Try.f65.body.getD .skip) = some ac65 := by kernel_rfl
def ac66 : ACode := (.seq (.ops [⟨(some 4), (.nils 1), none⟩]) (.seq (.ops [⟨(some 5), (.nils 1), none⟩]) (.seq (.ops [⟨(some 10), (.mov (.t 0)), none⟩, ⟨(some 11), (.mov (.t 1)), none⟩, ⟨(some 12), (.call 64 [(.t 10), (.t 11)]), none⟩, ⟨(some 13), (.bin .add (.c (.int .i64 1)) (.t 12)), none⟩, ⟨(some 6), (.mov (.t 13)), none⟩]) (.seq (.seq (.ops [⟨(some 7), (.mov (.c (.int .i64 0))), none⟩]) (.block 0 (.loop (.seq (.seq (.ops [⟨(some 14), (.mov (.t 7)), none⟩, ⟨(some 15), (.mov (.t 6)), none⟩, ⟨(some 16), (.bin .lss (.t 14) (.t 15)), none⟩]) (.cond (.t 16) .skip (.exit 0))) (.seq (.block 1 (.seq (.ops [⟨(some 19), (.mov (.t 0)), none⟩, ⟨(some 20), (.mov (.t 5)), none⟩, ⟨(some 21), (.len (.t 20)), none⟩, ⟨(some 22), (.bin .add (.t 21) (.c (.int .i64 1))), none⟩, ⟨(some 23), (.call 64 [(.t 19), (.t 22)]), none⟩, ⟨(some 8), (.mov (.t 23)), none⟩]) (.seq (.ops [⟨(some 24), (.mov (.t 5)), none⟩, ⟨(some 25), (.mov (.t 8)), none⟩, ⟨(some 26), (.cut 1 (.t 24) none (some (.t 25))), none⟩, ⟨(some 27), (.call 59 [(.t 26)]), none⟩, ⟨(some 28), (.mov (.t 7)), none⟩, ⟨(some 29), (.bsl 1 1 [(.int .i64 0)] [(0, (.t 28))]), none⟩, ⟨(some 30), (.app 1 8 (.t 27) (.t 29)), none⟩, ⟨(some 9), (.mov (.t 30)), none⟩]) (.ops [⟨(some 31), (.mov (.t 9)), none⟩, ⟨(some 32), (.mov (.t 5)), none⟩, ⟨(some 33), (.mov (.t 8)), none⟩, ⟨(some 34), (.cut 1 (.t 32) (some (.t 33)) none), none⟩, ⟨(some 35), (.app 1 8 (.t 31) (.t 34)), none⟩, ⟨(some 5), (.mov (.t 35)), none⟩])))) (.ops [⟨(some 17), (.mov (.t 7)), none⟩, ⟨(some 18), (.bin .add (.t 17) (.c (.int .i64 1))), none⟩, ⟨(some 7), (.mov (.t 18)), none⟩])))))) (.seq (.ops [⟨(some 36), (.mov (.t 5)), none⟩, ⟨(some 4), (.mov (.t 36)), none⟩]) .ret)))))
theorem cc66 : ccode Try.prog (min Try.f66.ntmps pbase) (Try.f66.body.getD .skip) = some ac66 := by kernel_rfl
def ac67 : ACode := (.seq (.ops [⟨(some 2), (.mov (.c (.int .i64 0))), none⟩]) (.seq (.ops [⟨(some 3), (.mov (.c (.int .i64 0))), none⟩]) (.seq (.seq (.tree (.take ⟨(some 4), (.mov (.t 0)), none⟩ (.take ⟨(some 5), (.nchk (.t 4)), none⟩ (.take ⟨(some 6), (.fa 1 (.t 5)), none⟩ (.take ⟨(some 7), (.ld none (.t 6)), none⟩ (.take ⟨(some 8), (.mov (.t 0)), none⟩ (.take ⟨(some 9), (.nchk (.t 8)), none⟩ (.take ⟨(some 10), (.fa 0 (.t 9)), none⟩ (.take ⟨(some 11), (.ld none (.t 10)), none⟩ (.take ⟨(some 12), (.len (.t 11)), none⟩ (.take ⟨(some 13), (.bin .lss (.t 7) (.t 12)), none⟩ .done))))))))))) (.cond (.t 13) (.tree (.take ⟨(some 14), (.mov (.t 0)), none⟩ (.take ⟨(some 15), (.nchk (.t 14)), none⟩ (.take ⟨(some 16), (.fa 0 (.t 15)), none⟩ (.take ⟨(some 17), (.ld none (.t 16)), none⟩ (.take ⟨(some 18), (.mov (.t 0)), none⟩ (.take ⟨(some 19), (.nchk (.t 18)), none⟩ (.take ⟨(some 20), (.fa 1 (.t 19)), none⟩ (.take ⟨(some 21), (.ld none (.t 20)), none⟩ (.take ⟨(some 22), (.idx 1 (.t 17) (.t 21)), none⟩ (.take ⟨(some 23), (.ld none (.t 22)), none⟩ (.take ⟨(some 24), (.pu (.cvt .i64) [(.t 23)]), none⟩ (.take ⟨(some 3), (.mov (.t 24)), none⟩ .done))))))))))))) .skip)) (.seq (.ops [⟨(some 25), (.mov (.t 0)), none⟩, ⟨(some 26), (.nchk (.t 25)), none⟩, ⟨(some 27), (.fa 1 (.t 26)), none⟩, ⟨(some 28), (.ld none (.t 27)), none⟩, ⟨(some 29), (.bin .add (.t 28) (.c (.int .i64 1))), none⟩, ⟨(some 30), (.nchk (.t 25)), none⟩, ⟨(some 31), (.fa 1 (.t 30)), none⟩, ⟨none, (.st 1 (.t 31) (.t 29)), none⟩]) (.seq (.ops [⟨(some 32), (.mov (.t 0)), none⟩, ⟨(some 33), (.mov (.t 0)), none⟩, ⟨(some 34), (.nchk (.t 33)), none⟩, ⟨(some 35), (.fa 2 (.t 34)), none⟩, ⟨(some 36), (.ld none (.t 35)), none⟩, ⟨(some 37), (.bin .mul (.t 36) (.c (.int .u64 6364136223846793005))), none⟩, ⟨(some 38), (.mov (.t 3)), none⟩, ⟨(some 39), (.pu (.cvt .u64) [(.t 38)]), none⟩, ⟨(some 40), (.bin .add (.t 37) (.t 39)), none⟩, ⟨(some 41), (.bin .add (.t 40) (.c (.int .u64 1442695040888963407))), none⟩, ⟨(some 42), (.nchk (.t 32)), none⟩, ⟨(some 43), (.fa 2 (.t 42)), none⟩, ⟨none, (.st 1 (.t 43) (.t 41)), none⟩]) (.seq (.seq (.tree (.take ⟨(some 44), (.mov (.t 0)), none⟩ (.take ⟨(some 45), (.nchk (.t 44)), none⟩ (.take ⟨(some 46), (.fa 1 (.t 45)), none⟩ (.take ⟨(some 47), (.ld none (.t 46)), none⟩ (.take ⟨(some 48), (.mov (.t 0)), none⟩ (.take ⟨(some 49), (.nchk (.t 48)), none⟩ (.take ⟨(some 50), (.fa 0 (.t 49)), none⟩ (.take ⟨(some 51), (.ld none (.t 50)), none⟩ (.take ⟨(some 52), (.len (.t 51)), none⟩ (.take ⟨(some 53), (.bin .leq (.t 47) (.t 52)), none⟩ .done))))))))))) (.cond (.t 53) (.seq (.ops [⟨(some 54), (.mov (.t 3)), none⟩, ⟨(some 2), (.mov (.t 54)), none⟩]) .ret) .skip)) (.seq (.ops [⟨(some 55), (.mov (.t 0)), none⟩, ⟨(some 56), (.nchk (.t 55)), none⟩, ⟨(some 57), (.fa 2 (.t 56)), none⟩, ⟨(some 58), (.ld none (.t 57)), none⟩, ⟨(some 59), (.bin .shr (.t 58) (.c (.int .u64 40))), none⟩, ⟨(some 60), (.bin .and (.t 59) (.c (.int .u64 255))), none⟩, ⟨(some 61), (.pu (.cvt .i64) [(.t 60)]), none⟩, ⟨(some 2), (.mov (.t 61)), none⟩]) .ret)))))))
theorem cc67 : ccode Try.prog (min Try.f67.ntmps pbase) (Try.f67.body.getD .skip) = some ac67 := by kernel_rfl
end Go.Proofs.Ytgjlaajkakecpaa
namespace Go.Proofs.Ytgjlaajkakecpaa
variable [Go.Am.CodeBlk]
open Go.Am
attribute [local irreducible] AW Outs Weak Lends Lend Sp aops atree aop1 Then Round InBlock Done
theorem isGuest_spec (a b : Int) : Sp Try.prog 60 [.i a, .i b] (.b (decide (0 ≤ a ∧ a < b))) := by
  refine spec_of Try.func60 rfl cc60 rfl ?_
  unfold ac60
  by_cases h : 0 ≤ a
  all_goals
    repeat (first | (refine step_ops ?_; (first | ((try (refine g_yes rfl ?_ ?_; (· first | rfl | assumption | (refine decide_eq_true ?_; first | assumption | omega) | (refine nt ?_; first | assumption | omega) | (simp [*]; done) | (refine decide_eq_false ?_; first | assumption | omega) | (refine nf ?_; first | assumption | omega)))); (first | (refine m_mov (by conv => lhs; whnf) ?_) | (refine m_lss rfl rfl ?_) | (refine m_geq rfl rfl ?_) | (refine m_pick_t rfl ?_ (by conv => lhs; whnf) ?_; (· first | rfl | assumption | (refine decide_eq_true ?_; first | assumption | omega) | (refine nt ?_; first | assumption | omega) | (simp [*]; done))) | (refine m_pick_f rfl ?_ (by conv => lhs; whnf) ?_; (· first | rfl | assumption | (refine decide_eq_false ?_; first | assumption | omega) | (refine nf ?_; first | assumption | omega) | (simp [*]; done))))) | (refine g_noT rfl ?_ ?_; (· first | rfl | assumption | (refine decide_eq_false ?_; first | assumption | omega) | (refine nf ?_; first | assumption | omega) | (simp [*]; done))))) | refine end_ops ?_ | refine seq_ops ?_ | refine AW_ret ?_ | refine ret_done ?_)
    refine outs_b ?_
    simp [*]
theorem isGuestCount_spec (a : Int) : Sp Try.prog 37 [.i a] (.b (decide (1 ≤ a ∧ a ≤ 12))) := by
  refine spec_of Try.func37 rfl cc37 rfl ?_
  unfold ac37
  by_cases h : 1 ≤ a
  all_goals
    repeat (first | (refine step_ops ?_; (first | ((try (refine g_yes rfl ?_ ?_; (· first | rfl | assumption | (refine decide_eq_true ?_; first | assumption | omega) | (refine nt ?_; first | assumption | omega) | (simp [*]; done) | (refine decide_eq_false ?_; first | assumption | omega) | (refine nf ?_; first | assumption | omega)))); (first | (refine m_mov (by conv => lhs; whnf) ?_) | (refine m_leq rfl rfl ?_) | (refine m_geq rfl rfl ?_) | (refine m_pick_t rfl ?_ (by conv => lhs; whnf) ?_; (· first | rfl | assumption | (refine decide_eq_true ?_; first | assumption | omega) | (refine nt ?_; first | assumption | omega) | (simp [*]; done))) | (refine m_pick_f rfl ?_ (by conv => lhs; whnf) ?_; (· first | rfl | assumption | (refine decide_eq_false ?_; first | assumption | omega) | (refine nf ?_; first | assumption | omega) | (simp [*]; done))))) | (refine g_noT rfl ?_ ?_; (· first | rfl | assumption | (refine decide_eq_false ?_; first | assumption | omega) | (refine nf ?_; first | assumption | omega) | (simp [*]; done))))) | refine end_ops ?_ | refine seq_ops ?_ | refine AW_ret ?_ | refine ret_done ?_)
    refine outs_b ?_
    simp [*]
theorem l1In_spec (a b c : Int) : Sp Try.prog 53 [.i a, .i b, .i c] (.b (decide (b ≤ a ∧ a ≤ c))) := by
  refine spec_of Try.func53 rfl cc53 rfl ?_
  unfold ac53
  by_cases h : b ≤ a
  all_goals
    repeat (first | (refine step_ops ?_; (first | ((try (refine g_yes rfl ?_ ?_; (· first | rfl | assumption | (refine decide_eq_true ?_; first | assumption | omega) | (refine nt ?_; first | assumption | omega) | (simp [*]; done) | (refine decide_eq_false ?_; first | assumption | omega) | (refine nf ?_; first | assumption | omega)))); (first | (refine m_mov (by conv => lhs; whnf) ?_) | (refine m_leq rfl rfl ?_) | (refine m_geq rfl rfl ?_) | (refine m_pick_t rfl ?_ (by conv => lhs; whnf) ?_; (· first | rfl | assumption | (refine decide_eq_true ?_; first | assumption | omega) | (refine nt ?_; first | assumption | omega) | (simp [*]; done))) | (refine m_pick_f rfl ?_ (by conv => lhs; whnf) ?_; (· first | rfl | assumption | (refine decide_eq_false ?_; first | assumption | omega) | (refine nf ?_; first | assumption | omega) | (simp [*]; done))))) | (refine g_noT rfl ?_ ?_; (· first | rfl | assumption | (refine decide_eq_false ?_; first | assumption | omega) | (refine nf ?_; first | assumption | omega) | (simp [*]; done))))) | refine end_ops ?_ | refine seq_ops ?_ | refine AW_ret ?_ | refine ret_done ?_)
    refine outs_b ?_
    simp [*]
theorem getD_mem {L : List Int} {k : Nat} (h : k < L.length) : L.getD k 0 ∈ L := by simp [h]
end Go.Proofs.Ytgjlaajkakecpaa
namespace Go.Am
variable [Go.Am.CodeBlk]
variable {P : Program} {own : Bool} {N : Nat} {s : AS} {K : AS → Prop} {d : Option Nat}
/-- An unsigned integer of sixteen bits. -/
abbrev AV.u (a : Nat) : AV := .v (.int .u16 (a : Int))
theorem wrap16 {a : Nat} (h : a < 65536) : IntKind.u16.wrap (a : Int) = (a : Int) := by
  have : IntKind.u16.wrap (a : Int) = (a : Int) % 65536 := by simp [IntKind.wrap, IntKind.bits, IntKind.signed]
  omega
theorem ofInt16 {a : Nat} (h : a < 65536) : (BitVec.ofInt IntKind.u16.bits (a : Int)).toNat = a := by
  show (BitVec.ofInt 16 (a : Int)).toNat = a
  rw [BitVec.ofInt_natCast, BitVec.toNat_ofNat]
  omega
theorem and16_lt {a b : Nat} (h : a < 65536) : a &&& b < 65536 := Nat.lt_of_le_of_lt Nat.and_le_left h
theorem or16_lt {a b : Nat} (h : a < 65536) (h2 : b < 65536) : a ||| b < 65536 := Nat.or_lt_two_pow (n := 16) h h2
theorem shl16_lt {k : Nat} (h : k < 16) : 1 <<< k < 65536 := by
  rw [Nat.one_shiftLeft]
  exact Nat.pow_lt_pow_right (by decide) h
section
variable {x y : Opd} {a b k : Nat}
theorem m_shr16 (hx : s.ev x = .u a) (hy : s.ev y = .i (k : Nat)) (hk : k < 16) (kk : K (s.put d (.u (a >>> k)))) : aop1 P own ⟨d, .bin .shr x y, none⟩ s K := by
  refine ⟨_, _, _, hx, hy, ?_, kk⟩
  have h1 : ¬ ((k : Nat) : Int) < 0 := by omega
  have h2 : min ((k : Nat) : Int).toNat IntKind.u16.bits = k := by show min _ 16 = k; omega
  show (if ((k : Nat) : Int) < 0 then none else some (Value.int .u16 ((a : Int).fdiv (2 ^ (min ((k : Nat) : Int).toNat IntKind.u16.bits))))) = _
  rw [if_neg h1, h2, Nat.shiftRight_eq_div_pow]
  congr 2
  rw [Int.fdiv_eq_ediv_of_nonneg _ (by exact Int.le_of_lt (Int.pow_pos (by decide)))]
  push_cast
  rfl
theorem m_shl16 (hx : s.ev x = .u 1) (hy : s.ev y = .i (k : Nat)) (hk : k < 16) (kk : K (s.put d (.u (1 <<< k)))) : aop1 P own ⟨d, .bin .shl x y, none⟩ s K := by
  refine ⟨_, _, _, hx, hy, ?_, kk⟩
  have h1 : ¬ ((k : Nat) : Int) < 0 := by omega
  have h2 : min ((k : Nat) : Int).toNat IntKind.u16.bits = k := by show min _ 16 = k; omega
  show (if ((k : Nat) : Int) < 0 then none else some (Value.int .u16 (IntKind.u16.wrap ((1 : Int) * 2 ^ (min ((k : Nat) : Int).toNat IntKind.u16.bits))))) = _
  rw [if_neg h1, h2]
  congr 2
  have : ((1 : Int) * (2 : Int) ^ k) = ((1 <<< k : Nat) : Int) := by rw [Nat.one_shiftLeft, Int.one_mul]; push_cast; rfl
  exact (congrArg _ this).trans (wrap16 (shl16_lt hk))
theorem m_and16 (hx : s.ev x = .u a) (hy : s.ev y = .u b) (ha : a < 65536) (hb : b < 65536) (kk : K (s.put d (.u (a &&& b)))) : aop1 P own ⟨d, .bin .and x y, none⟩ s K := by
  refine ⟨_, _, _, hx, hy, ?_, kk⟩
  show some (Value.int .u16 (IntKind.u16.wrap ((BitVec.ofInt IntKind.u16.bits (a : Int) &&& BitVec.ofInt IntKind.u16.bits (b : Int)).toNat : Int))) = _
  rw [BitVec.toNat_and, ofInt16 ha, ofInt16 hb, wrap16 (and16_lt ha)]
theorem m_or16 (hx : s.ev x = .u a) (hy : s.ev y = .u b) (ha : a < 65536) (hb : b < 65536) (kk : K (s.put d (.u (a ||| b)))) : aop1 P own ⟨d, .bin .or x y, none⟩ s K := by
  refine ⟨_, _, _, hx, hy, ?_, kk⟩
  show some (Value.int .u16 (IntKind.u16.wrap ((BitVec.ofInt IntKind.u16.bits (a : Int) ||| BitVec.ofInt IntKind.u16.bits (b : Int)).toNat : Int))) = _
  rw [BitVec.toNat_or, ofInt16 ha, ofInt16 hb, wrap16 (or16_lt ha hb)]
theorem m_eql16 (hx : s.ev x = .u a) (hy : s.ev y = .u b) (kk : K (s.put d (.b (decide (a = b))))) : aop1 P own ⟨d, .bin .eql x y, none⟩ s K := by
  refine ⟨_, _, _, hx, hy, rfl, ?_⟩
  rw [show (((a : Nat) : Int) == ((b : Nat) : Int)) = decide (a = b) from by rw [Bool.eq_iff_iff]; simp; omega]
  exact kk
theorem m_and16_1 (hx : s.ev x = .u a) (hy : s.ev y = .u 1) (ha : a < 65536) (kk : K (s.put d (.u (a &&& 1)))) : aop1 P own ⟨d, .bin .and x y, none⟩ s K := m_and16 hx hy ha (by decide) kk
theorem m_eql16_1 (hx : s.ev x = .u a) (hy : s.ev y = .u 1) (kk : K (s.put d (.b (decide (a = 1))))) : aop1 P own ⟨d, .bin .eql x y, none⟩ s K := m_eql16 hx hy kk
end
theorem bit_and (a k : Nat) : decide ((a >>> k) &&& 1 = 1) = a.testBit k := by
  rw [Nat.testBit, Nat.and_comm]
  have := Nat.one_and_eq_mod_two (a >>> k)
  rcases Nat.mod_two_eq_zero_or_one (a >>> k) with h | h <;> simp [this, h]
theorem bit_or (a k i : Nat) : (a ||| 1 <<< k).testBit i = (a.testBit i || decide (i = k)) := by
  rw [Nat.testBit_or, Nat.one_shiftLeft, Nat.testBit_two_pow]
  by_cases h : k = i
  · subst h; simp
  · simp [h, Ne.symm h]
end Go.Am
namespace Go.Proofs.Ytgjlaajkakecpaa
variable [Go.Am.CodeBlk]
open Go.Am
attribute [local irreducible] AW Outs Weak Lends Lend Sp aops atree aop1 Then Round InBlock Done
theorem setHas_spec (a g : Nat) (ha : a < 65536) (hg : g < 16) : Sp Try.prog 61 [.u a, .i g] (.b (a.testBit g)) := by
  refine spec_of Try.func61 rfl cc61 rfl ?_
  unfold ac61
  repeat (first | (refine step_ops ?_; (refine m_mov (by conv => lhs; whnf) ?_)) | refine end_ops ?_ | refine seq_ops ?_)
  refine step_ops ?_
  refine m_shr16 (a := a) (k := g) rfl rfl hg ?_
  refine step_ops ?_
  refine m_and16_1 (a := a >>> g) rfl rfl (Nat.lt_of_le_of_lt (Nat.shiftRight_le a g) ha) ?_
  refine step_ops ?_
  refine m_eql16_1 (a := (a >>> g) &&& 1) rfl rfl ?_
  rw [bit_and]
  repeat (first | (refine step_ops ?_; (refine m_mov (by conv => lhs; whnf) ?_)) | refine end_ops ?_ | refine AW_ret ?_ | refine ret_done ?_)
  exact outs_b rfl
theorem outs_u {s : AS} {a b : Nat} (h : a = b) : Outs s (.u a) (.u b) := by
  subst h; exact outs_v
theorem setWith_spec (a g : Nat) (ha : a < 65536) (hg : g < 16) : Sp Try.prog 62 [.u a, .i g] (.u (a ||| 1 <<< g)) := by
  refine spec_of Try.func62 rfl cc62 rfl ?_
  unfold ac62
  repeat (first | (refine step_ops ?_; (refine m_mov (by conv => lhs; whnf) ?_)) | refine end_ops ?_ | refine seq_ops ?_)
  refine step_ops ?_
  refine m_shl16 (k := g) rfl rfl hg ?_
  refine step_ops ?_
  refine m_or16 (a := a) (b := 1 <<< g) rfl rfl ha (shl16_lt hg) ?_
  repeat (first | (refine step_ops ?_; (refine m_mov (by conv => lhs; whnf) ?_)) | refine end_ops ?_ | refine AW_ret ?_ | refine ret_done ?_)
  exact outs_u rfl
theorem notNodup {L : List Int} {k : Nat} (hk : k < L.length) (h : L.getD k 0 ∈ L.take k) : ¬ L.Nodup := by
  intro hn
  rw [← List.take_append_drop k L, List.nodup_append] at hn
  refine hn.2.2 _ h _ ?_ rfl
  have : L.drop k = L.getD k 0 :: L.drop (k + 1) := by rw [List.drop_eq_getElem_cons hk]; simp [hk]
  rw [this]
  exact List.mem_cons_self ..
theorem nodupSnoc {L : List Int} {k : Nat} (hk : k < L.length) (hn : (L.take k).Nodup) (h : L.getD k 0 ∉ L.take k) : (L.take (k + 1)).Nodup := by
  rw [take_snoc L k 0 hk, List.nodup_append]
  refine ⟨hn, by simp, ?_⟩
  intro a ha b hb hab
  rw [List.mem_singleton] at hb
  subst hb
  exact h (hab ▸ ha)
theorem areDifferent_spec (L : List Int) (n : Nat) (_hL : L.length ≤ 1048576) (hn16 : n ≤ 16) : Sp Try.prog 38 [ints L, .i n] (.b (decide ((∀ x ∈ L, 0 ≤ x ∧ x < (n : Int)) ∧ L.Nodup))) := by
  refine spec_of Try.func38 rfl cc38 rfl ?_
  unfold ac38
  repeat (first | (refine step_ops ?_; (first | (refine m_mov (by conv => lhs; whnf) ?_) | (refine m_len_ro rfl ?_))) | refine end_ops ?_ | refine seq_ops ?_ | refine AW_seq ?_ | refine AW_block ?_)
  refine AW_loop (α := Nat × Nat) (fun p => p.1 ≤ L.length ∧ p.2 < 65536 ∧ (∀ x ∈ L.take p.1, 0 ≤ x ∧ x < (n : Int)) ∧ (L.take p.1).Nodup ∧ ∀ i < 16, p.2.testBit i = decide ((i : Int) ∈ L.take p.1))
    (fun p => st [(0, ints L), (1, .i n), (5, .u p.2), (8, ints L), (9, .i L.length), (10, .i p.1)] []) (fun p => L.length - p.1) (0, 0) ⟨Nat.zero_le _, by decide, by simp, by simp, fun i _ => by simp⟩ (weak_st ?_ ?_ rfl rfl) ?_
  · (repeat' (first | exact trivial | refine And.intro ?_ ?_)) <;> (first | rfl | skip)
  · trivial
  rintro ⟨k, a⟩ ⟨hk, ha, hr, hn, hb⟩
  dsimp only at hk ha hr hn hb ⊢
  by_cases h : k < L.length
  · by_cases hx : 0 ≤ L.getD k 0 ∧ L.getD k 0 < (n : Int)
    · obtain ⟨i, hi⟩ := Int.eq_ofNat_of_zero_le hx.1
      have hi16 : i < 16 := by omega
      have hbi := hb i hi16
      by_cases hm : (i : Int) ∈ L.take k
      · have hbt : a.testBit i = true := by rw [hbi]; exact decide_eq_true hm
        repeat (first | (refine step_ops ?_; (first | (refine m_mov (by conv => lhs; whnf) ?_) | (refine m_lss rfl rfl ?_) | (refine m_idx1_ro rfl rfl ?_ ?_; (· omega)) | (refine m_ld_rpi rfl ?_ ?_; (· omega)))) | refine end_ops ?_ | refine seq_ops ?_ | (refine cond_t rfl ?_ ?_; (· first | rfl | assumption | (refine decide_eq_true ?_; first | assumption | omega) | (refine nt ?_; first | assumption | omega) | (simp [*]; done))) | refine skip_then ?_ | refine AW_seq ?_ | refine AW_block ?_)
        (refine step_ops ?_); (apply m_call (isGuest_spec _ _)); (· repeat (first | exact lends_nil | (refine lends_cons ?_ ?_; (· exact lend_v))))
        repeat (refine step_ops ?_; ((try (refine g_yes rfl ?_ ?_; (· first | rfl | assumption | (refine decide_eq_true ?_; first | assumption | omega) | (refine nt ?_; first | assumption | omega) | (simp [*]; done) | (refine decide_eq_false ?_; first | assumption | omega) | (refine nf ?_; first | assumption | omega)))); (first | (refine m_mov (by conv => lhs; whnf) ?_) | (refine m_not rfl ?_))))
        rw [hi]
        skip
        (refine step_ops ?_); (refine g_yes rfl ?_ ?_; (· first | (first | rfl | assumption | (refine decide_eq_true ?_; first | assumption | omega) | (refine nt ?_; first | assumption | omega) | (simp [*]; done)) | (first | rfl | assumption | (refine decide_eq_false ?_; first | assumption | omega) | (refine nf ?_; first | assumption | omega) | (simp [*]; done))); (apply m_call (setHas_spec a i ha (by omega)))); (· repeat (first | exact lends_nil | (refine lends_cons ?_ ?_; (· exact lend_v))))
        repeat (first | (refine step_ops ?_; (first | (refine m_mov (by conv => lhs; whnf) ?_) | (refine m_pick_f rfl ?_ (by conv => lhs; whnf) ?_; (· first | rfl | assumption | (refine decide_eq_false ?_; first | assumption | omega) | (refine nf ?_; first | assumption | omega) | (simp [*]; done))))) | refine end_ops ?_ | refine seq_ops ?_ | (refine cond_t rfl ?_ ?_; (· first | rfl | assumption | (refine decide_eq_true ?_; first | assumption | omega) | (refine nt ?_; first | assumption | omega) | (simp [*]; done))) | refine AW_ret ?_ | refine ret_done ?_ | refine ret_then ?_ | refine ret_block ?_ | refine ret_round ?_)
        refine outs_b ?_
        symm
        exact decide_eq_false fun he => notNodup h (hi ▸ hm) he.2
      · have hbt : a.testBit i = false := by rw [hbi]; exact decide_eq_false hm
        repeat (first | (refine step_ops ?_; (first | (refine m_mov (by conv => lhs; whnf) ?_) | (refine m_lss rfl rfl ?_) | (refine m_idx1_ro rfl rfl ?_ ?_; (· omega)) | (refine m_ld_rpi rfl ?_ ?_; (· omega)))) | refine end_ops ?_ | refine seq_ops ?_ | (refine cond_t rfl ?_ ?_; (· first | rfl | assumption | (refine decide_eq_true ?_; first | assumption | omega) | (refine nt ?_; first | assumption | omega) | (simp [*]; done))) | refine skip_then ?_ | refine AW_seq ?_ | refine AW_block ?_)
        (refine step_ops ?_); (apply m_call (isGuest_spec _ _)); (· repeat (first | exact lends_nil | (refine lends_cons ?_ ?_; (· exact lend_v))))
        repeat (refine step_ops ?_; ((try (refine g_yes rfl ?_ ?_; (· first | rfl | assumption | (refine decide_eq_true ?_; first | assumption | omega) | (refine nt ?_; first | assumption | omega) | (simp [*]; done) | (refine decide_eq_false ?_; first | assumption | omega) | (refine nf ?_; first | assumption | omega)))); (first | (refine m_mov (by conv => lhs; whnf) ?_) | (refine m_not rfl ?_))))
        rw [hi]
        skip
        (refine step_ops ?_); (refine g_yes rfl ?_ ?_; (· first | (first | rfl | assumption | (refine decide_eq_true ?_; first | assumption | omega) | (refine nt ?_; first | assumption | omega) | (simp [*]; done)) | (first | rfl | assumption | (refine decide_eq_false ?_; first | assumption | omega) | (refine nf ?_; first | assumption | omega) | (simp [*]; done))); (apply m_call (setHas_spec a i ha (by omega)))); (· repeat (first | exact lends_nil | (refine lends_cons ?_ ?_; (· exact lend_v))))
        repeat (first | (refine step_ops ?_; (first | (refine m_mov (by conv => lhs; whnf) ?_) | (refine m_pick_f rfl ?_ (by conv => lhs; whnf) ?_; (· first | rfl | assumption | (refine decide_eq_false ?_; first | assumption | omega) | (refine nf ?_; first | assumption | omega) | (simp [*]; done))))) | refine end_ops ?_ | refine AW_ops ?_ | (refine cond_f rfl ?_ ?_; (· first | rfl | assumption | (refine decide_eq_false ?_; first | assumption | omega) | (refine nf ?_; first | assumption | omega) | (simp [*]; done))) | refine skip_then ?_)
        (refine step_ops ?_); (apply m_call (setWith_spec a i ha (by omega))); (· repeat (first | exact lends_nil | (refine lends_cons ?_ ?_; (· exact lend_v))))
        repeat (first | (refine step_ops ?_; (first | (refine m_mov (by conv => lhs; whnf) ?_) | (refine m_add rfl rfl ?_ ?_ ?_; (· omega); (· omega)))) | refine end_ops ?_ | refine AW_ops ?_ | refine norm_then ?_ | refine norm_block ?_)
        refine next_round (k + 1, a ||| 1 <<< i) ⟨by omega, or16_lt ha (shl16_lt (by omega)), ?_, nodupSnoc h hn (hi ▸ hm), fun j hj => ?_⟩ (weak_st ?_ ?_ rfl rfl) ?_
        · rw [take_snoc L k 0 h]
          intro x hxm
          rw [List.mem_append, List.mem_singleton] at hxm
          rcases hxm with h1 | rfl
          · exact hr x h1
          · exact hx
        · rw [bit_or, hb j hj, take_snoc L k 0 h, Bool.eq_iff_iff]
          have hji : ((j : Int) = (i : Int)) ↔ j = i := by omega
          simp only [Bool.or_eq_true, decide_eq_true_eq, List.mem_append, List.mem_singleton, hi, hji]
        · (repeat' (first | exact trivial | refine And.intro ?_ ?_)) <;> (first | rfl | skip)
        · trivial
        · show L.length - (k + 1) < L.length - k
          omega
    · repeat (first | (refine step_ops ?_; (first | (refine m_mov (by conv => lhs; whnf) ?_) | (refine m_lss rfl rfl ?_) | (refine m_idx1_ro rfl rfl ?_ ?_; (· omega)) | (refine m_ld_rpi rfl ?_ ?_; (· omega)))) | refine end_ops ?_ | refine seq_ops ?_ | (refine cond_t rfl ?_ ?_; (· first | rfl | assumption | (refine decide_eq_true ?_; first | assumption | omega) | (refine nt ?_; first | assumption | omega) | (simp [*]; done))) | refine skip_then ?_ | refine AW_seq ?_ | refine AW_block ?_)
      (refine step_ops ?_); (apply m_call (isGuest_spec _ _)); (· repeat (first | exact lends_nil | (refine lends_cons ?_ ?_; (· exact lend_v))))
      repeat (first | (refine step_ops ?_; (first | (first | (refine m_mov (by conv => lhs; whnf) ?_) | (refine m_not rfl ?_) | (refine m_pick_t rfl ?_ (by conv => lhs; whnf) ?_; (· first | rfl | assumption | (refine decide_eq_true ?_; first | assumption | omega) | (refine nt ?_; first | assumption | omega) | (simp [*]; done)))) | (refine g_noF rfl ?_ ?_; (· first | rfl | assumption | (refine decide_eq_true ?_; first | assumption | omega) | (refine nt ?_; first | assumption | omega) | (simp [*]; done))))) | refine end_ops ?_ | refine seq_ops ?_ | (refine cond_t rfl ?_ ?_; (· first | rfl | assumption | (refine decide_eq_true ?_; first | assumption | omega) | (refine nt ?_; first | assumption | omega) | (simp [*]; done))) | refine AW_ret ?_ | refine ret_done ?_ | refine ret_then ?_ | refine ret_block ?_ | refine ret_round ?_)
      refine outs_b ?_
      symm
      exact decide_eq_false fun he => hx (he.1 _ (getD_mem h))
  · repeat (first | (refine step_ops ?_; (first | (refine m_mov (by conv => lhs; whnf) ?_) | (refine m_lss rfl rfl ?_))) | refine end_ops ?_ | refine seq_ops ?_ | (refine cond_f rfl ?_ ?_; (· first | rfl | assumption | (refine decide_eq_false ?_; first | assumption | omega) | (refine nf ?_; first | assumption | omega) | (simp [*]; done))) | refine AW_seq ?_ | refine AW_ret ?_ | refine ret_done ?_ | refine norm_then ?_ | refine exit_then ?_ | refine exit_round ?_ | refine AW_exit ?_ | refine exit_block ?_)
    refine outs_b ?_
    symm
    rw [List.take_of_length_le (by omega)] at hr hn
    exact decide_eq_true ⟨hr, hn⟩
end Go.Proofs.Ytgjlaajkakecpaa
namespace Go.Proofs.Ytgjlaajkakecpaa
variable [Go.Am.CodeBlk]
open Go.Am
attribute [local irreducible] AW Outs Weak Lends Lend Sp aops atree aop1 Then Round InBlock Done
/-- What an exchange is. -/
def IsEx (L : List Int) : Prop := 1 ≤ L.length ∧ L.length ≤ 12 ∧ (∀ x ∈ L, 0 ≤ x ∧ x < L.length) ∧ L.Nodup
instance (L : List Int) : Decidable (IsEx L) := inferInstanceAs (Decidable (_ ∧ _ ∧ _ ∧ _))
theorem l1Has_spec (L : List Int) (n : Int) (hL : L.length ≤ 1048576) : Sp Try.prog 57 [ints L, .i n] (.b (decide (n ∈ L))) := by
  refine spec_of Try.func57 rfl cc57 rfl ?_
  unfold ac57
  repeat (first | (refine step_ops ?_; (first | (refine m_mov (by conv => lhs; whnf) ?_) | (refine m_len_ro rfl ?_))) | refine end_ops ?_ | refine seq_ops ?_ | refine AW_seq ?_ | refine AW_block ?_)
  refine AW_loop (α := Nat) (fun k => k ≤ L.length ∧ n ∉ L.take k) (fun k => st [(7, ints L), (1, .i n), (8, .i L.length), (9, .i k)] []) (fun k => L.length - k) 0 (by simp) (weak_st ?_ ?_ rfl rfl) ?_
  · (repeat' (first | exact trivial | refine And.intro ?_ ?_)) <;> (first | rfl | skip)
  · trivial
  rintro k ⟨hk, he⟩
  by_cases h : k < L.length
  · by_cases hx : L.getD k 0 = n
    · repeat (first | (refine step_ops ?_; (first | (refine m_mov (by conv => lhs; whnf) ?_) | (refine m_lss rfl rfl ?_) | (refine m_eql rfl rfl ?_) | (refine m_idx1_ro rfl rfl ?_ ?_; (· omega)) | (refine m_ld_rpi rfl ?_ ?_; (· omega)))) | refine end_ops ?_ | refine seq_ops ?_ | (refine cond_t rfl ?_ ?_; (· first | rfl | assumption | (refine decide_eq_true ?_; first | assumption | omega) | (refine nt ?_; first | assumption | omega) | (simp [*]; done))) | refine skip_then ?_ | refine AW_seq ?_ | refine AW_ret ?_ | refine ret_done ?_ | refine ret_then ?_ | refine AW_block ?_ | refine ret_block ?_ | refine ret_round ?_)
      refine outs_b ?_
      symm
      exact decide_eq_true (hx ▸ getD_mem h)
    · repeat (first | (refine step_ops ?_; (first | (refine m_mov (by conv => lhs; whnf) ?_) | (refine m_lss rfl rfl ?_) | (refine m_eql rfl rfl ?_) | (refine m_add rfl rfl ?_ ?_ ?_; (· omega); (· omega)) | (refine m_idx1_ro rfl rfl ?_ ?_; (· omega)) | (refine m_ld_rpi rfl ?_ ?_; (· omega)))) | refine end_ops ?_ | refine seq_ops ?_ | refine AW_ops ?_ | (refine cond_t rfl ?_ ?_; (· first | rfl | assumption | (refine decide_eq_true ?_; first | assumption | omega) | (refine nt ?_; first | assumption | omega) | (simp [*]; done))) | (refine cond_f rfl ?_ ?_; (· first | rfl | assumption | (refine decide_eq_false ?_; first | assumption | omega) | (refine nf ?_; first | assumption | omega) | (simp [*]; done))) | refine skip_then ?_ | refine AW_seq ?_ | refine norm_then ?_ | refine AW_block ?_ | refine norm_block ?_ | refine AW_skip ?_)
      refine next_round (k + 1) ⟨by omega, ?_⟩ (weak_st ?_ ?_ rfl rfl) ?_
      · rw [take_snoc L k 0 h, List.mem_append, List.mem_singleton]
        rintro (h1 | h1)
        · exact he h1
        · exact hx h1.symm
      · (repeat' (first | exact trivial | refine And.intro ?_ ?_)) <;> (first | rfl | skip)
      · trivial
      · omega
  · repeat (first | (refine step_ops ?_; (first | (refine m_mov (by conv => lhs; whnf) ?_) | (refine m_lss rfl rfl ?_))) | refine end_ops ?_ | refine seq_ops ?_ | (refine cond_f rfl ?_ ?_; (· first | rfl | assumption | (refine decide_eq_false ?_; first | assumption | omega) | (refine nf ?_; first | assumption | omega) | (simp [*]; done))) | refine AW_seq ?_ | refine AW_ret ?_ | refine ret_done ?_ | refine norm_then ?_ | refine exit_then ?_ | refine exit_round ?_ | refine AW_exit ?_ | refine exit_block ?_)
    refine outs_b ?_
    symm
    rw [List.take_of_length_le (by omega)] at he
    exact decide_eq_false he
theorem l1All_spec (L : List Int) (lo hi : Int) (hL : L.length ≤ 1048576) : Sp Try.prog 56 [ints L, .i lo, .i hi] (.b (decide (∀ x ∈ L, lo ≤ x ∧ x ≤ hi))) := by
  refine spec_of Try.func56 rfl cc56 rfl ?_
  unfold ac56
  repeat (first | (refine step_ops ?_; (first | (refine m_mov (by conv => lhs; whnf) ?_) | (refine m_len_ro rfl ?_))) | refine end_ops ?_ | refine seq_ops ?_ | refine AW_seq ?_ | refine AW_block ?_)
  refine AW_loop (α := Nat) (fun k => k ≤ L.length ∧ ∀ x ∈ L.take k, lo ≤ x ∧ x ≤ hi) (fun k => st [(9, ints L), (1, .i lo), (2, .i hi), (10, .i L.length), (11, .i k)] []) (fun k => L.length - k) 0 (by simp) (weak_st ?_ ?_ rfl rfl) ?_
  · (repeat' (first | exact trivial | refine And.intro ?_ ?_)) <;> (first | rfl | skip)
  · trivial
  rintro k ⟨hk, he⟩
  by_cases h : k < L.length
  · by_cases hx : lo ≤ L.getD k 0 ∧ L.getD k 0 ≤ hi
    · repeat (first | (refine step_ops ?_; (first | (refine m_mov (by conv => lhs; whnf) ?_) | (refine m_lss rfl rfl ?_) | (refine m_idx1_ro rfl rfl ?_ ?_; (· omega)) | (refine m_ld_rpi rfl ?_ ?_; (· omega)))) | refine end_ops ?_ | refine seq_ops ?_ | (refine cond_t rfl ?_ ?_; (· first | rfl | assumption | (refine decide_eq_true ?_; first | assumption | omega) | (refine nt ?_; first | assumption | omega) | (simp [*]; done))) | refine skip_then ?_ | refine AW_seq ?_ | refine AW_block ?_)
      (refine step_ops ?_); (apply m_call (l1In_spec _ _ _)); (· repeat (first | exact lends_nil | (refine lends_cons ?_ ?_; (· exact lend_v))))
      repeat (first | (refine step_ops ?_; (first | (refine m_mov (by conv => lhs; whnf) ?_) | (refine m_add rfl rfl ?_ ?_ ?_; (· omega); (· omega)) | (refine m_not rfl ?_))) | refine end_ops ?_ | refine AW_ops ?_ | (refine cond_f rfl ?_ ?_; (· first | rfl | assumption | (refine decide_eq_false ?_; first | assumption | omega) | (refine nf ?_; first | assumption | omega) | (simp [*]; done))) | refine norm_then ?_ | refine norm_block ?_ | refine AW_skip ?_)
      refine next_round (k + 1) ⟨by omega, ?_⟩ (weak_st ?_ ?_ rfl rfl) ?_
      · rw [take_snoc L k 0 h]
        intro x hxm
        rw [List.mem_append, List.mem_singleton] at hxm
        rcases hxm with h1 | rfl
        · exact he x h1
        · exact hx
      · (repeat' (first | exact trivial | refine And.intro ?_ ?_)) <;> (first | rfl | skip)
      · trivial
      · omega
    · repeat (first | (refine step_ops ?_; (first | (refine m_mov (by conv => lhs; whnf) ?_) | (refine m_lss rfl rfl ?_) | (refine m_idx1_ro rfl rfl ?_ ?_; (· omega)) | (refine m_ld_rpi rfl ?_ ?_; (· omega)))) | refine end_ops ?_ | refine seq_ops ?_ | (refine cond_t rfl ?_ ?_; (· first | rfl | assumption | (refine decide_eq_true ?_; first | assumption | omega) | (refine nt ?_; first | assumption | omega) | (simp [*]; done))) | refine skip_then ?_ | refine AW_seq ?_ | refine AW_block ?_)
      (refine step_ops ?_); (apply m_call (l1In_spec _ _ _)); (· repeat (first | exact lends_nil | (refine lends_cons ?_ ?_; (· exact lend_v))))
      repeat (first | (refine step_ops ?_; (first | (refine m_mov (by conv => lhs; whnf) ?_) | (refine m_not rfl ?_))) | refine end_ops ?_ | refine seq_ops ?_ | (refine cond_t rfl ?_ ?_; (· first | rfl | assumption | (refine decide_eq_true ?_; first | assumption | omega) | (refine nt ?_; first | assumption | omega) | (simp [*]; done))) | refine AW_ret ?_ | refine ret_done ?_ | refine ret_then ?_ | refine ret_block ?_ | refine ret_round ?_)
      refine outs_b ?_
      symm
      exact decide_eq_false fun hall => hx (hall _ (getD_mem h))
  · repeat (first | (refine step_ops ?_; (first | (refine m_mov (by conv => lhs; whnf) ?_) | (refine m_lss rfl rfl ?_))) | refine end_ops ?_ | refine seq_ops ?_ | (refine cond_f rfl ?_ ?_; (· first | rfl | assumption | (refine decide_eq_false ?_; first | assumption | omega) | (refine nf ?_; first | assumption | omega) | (simp [*]; done))) | refine AW_seq ?_ | refine AW_ret ?_ | refine ret_done ?_ | refine norm_then ?_ | refine exit_then ?_ | refine exit_round ?_ | refine AW_exit ?_ | refine exit_block ?_)
    refine outs_b ?_
    symm
    rw [List.take_of_length_le (by omega)] at he
    exact decide_eq_true he
theorem not_nodup {L : List Int} {k : Nat} (hk : k < L.length) (h : L.getD k 0 ∈ L.take k) : ¬ L.Nodup := by
  intro hn
  rw [← List.take_append_drop k L, List.nodup_append] at hn
  refine hn.2.2 _ h _ ?_ rfl
  have : L.drop k = L.getD k 0 :: L.drop (k + 1) := by rw [List.drop_eq_getElem_cons hk]; simp [hk]
  rw [this]
  exact List.mem_cons_self ..
theorem nodup_snoc {L : List Int} {k : Nat} (hk : k < L.length) (hn : (L.take k).Nodup) (h : L.getD k 0 ∉ L.take k) : (L.take (k + 1)).Nodup := by
  rw [take_snoc L k 0 hk, List.nodup_append]
  refine ⟨hn, by simp, ?_⟩
  intro a ha b hb hab
  rw [List.mem_singleton] at hb
  subst hb
  exact h (hab ▸ ha)
theorem implIsExchange_spec (L : List Int) (hL : L.length ≤ 1048576) : Sp Try.prog 12 [ints L] (.b (decide (IsEx L))) := by
  refine spec_of Try.func12 rfl cc12 rfl ?_
  unfold ac12
  by_cases hc : 1 ≤ (L.length : Int) ∧ (L.length : Int) ≤ 12
  · have hd := areDifferent_spec L L.length hL (by omega)
    have e : decide (IsEx L) = decide ((∀ x ∈ L, 0 ≤ x ∧ x < (L.length : Int)) ∧ L.Nodup) := decide_eq_decide.2 ⟨fun he => he.2.2, fun he => ⟨by omega, by omega, he⟩⟩
    rw [e]
    repeat (first | (refine step_ops ?_; (first | (refine m_mov (by conv => lhs; whnf) ?_) | (refine m_len_ro rfl ?_))) | refine end_ops ?_ | refine seq_ops ?_)
    (refine step_ops ?_); (apply m_call (isGuestCount_spec _)); (· repeat (first | exact lends_nil | (refine lends_cons ?_ ?_; (· exact lend_v))))
    repeat (refine step_ops ?_; ((try (refine g_yes rfl ?_ ?_; (· first | rfl | assumption | (refine decide_eq_true ?_; first | assumption | omega) | (refine nt ?_; first | assumption | omega) | (simp [*]; done) | (refine decide_eq_false ?_; first | assumption | omega) | (refine nf ?_; first | assumption | omega)))); (first | (refine m_mov (by conv => lhs; whnf) ?_) | (refine m_len_ro rfl ?_))))
    (refine step_ops ?_); (refine g_yes rfl ?_ ?_; (· first | (first | rfl | assumption | (refine decide_eq_true ?_; first | assumption | omega) | (refine nt ?_; first | assumption | omega) | (simp [*]; done)) | (first | rfl | assumption | (refine decide_eq_false ?_; first | assumption | omega) | (refine nf ?_; first | assumption | omega) | (simp [*]; done))); (apply m_call (hd))); (· repeat (first | exact lends_nil | (refine lends_cons ?_ ?_; (· (first | exact lend_v | (refine lend_ints ?_; first | rfl | omega))))))
    repeat (first | (refine step_ops ?_; (first | (refine m_mov (by conv => lhs; whnf) ?_) | (refine m_pick_t rfl ?_ (by conv => lhs; whnf) ?_; (· first | rfl | assumption | (refine decide_eq_true ?_; first | assumption | omega) | (refine nt ?_; first | assumption | omega) | (simp [*]; done))))) | refine end_ops ?_ | refine AW_ret ?_ | refine ret_done ?_)
    exact outs_b rfl
  · repeat (first | (refine step_ops ?_; (first | (refine m_mov (by conv => lhs; whnf) ?_) | (refine m_len_ro rfl ?_))) | refine end_ops ?_ | refine seq_ops ?_)
    (refine step_ops ?_); (apply m_call (isGuestCount_spec _)); (· repeat (first | exact lends_nil | (refine lends_cons ?_ ?_; (· exact lend_v))))
    repeat (first | (refine step_ops ?_; (first | (first | (refine m_mov (by conv => lhs; whnf) ?_) | (refine m_pick_f rfl ?_ (by conv => lhs; whnf) ?_; (· first | rfl | assumption | (refine decide_eq_false ?_; first | assumption | omega) | (refine nf ?_; first | assumption | omega) | (simp [*]; done)))) | (refine g_noT rfl ?_ ?_; (· first | rfl | assumption | (refine decide_eq_false ?_; first | assumption | omega) | (refine nf ?_; first | assumption | omega) | (simp [*]; done))))) | refine end_ops ?_ | refine AW_ret ?_ | refine ret_done ?_)
    refine outs_b ?_
    symm
    exact decide_eq_false fun he => hc ⟨by have := he.1; omega, by have := he.2.1; omega⟩
theorem exGood_spec (L : List Int) (hL : L.length ≤ 1048576) : Sp Try.prog 32 [ints L] (.b (decide (IsEx L))) := by
  refine spec_of Try.func32 rfl cc32 rfl ?_
  unfold ac32
  by_cases hc : 1 ≤ (L.length : Int) ∧ (L.length : Int) ≤ 12
  · by_cases hall : ∀ x ∈ L, 0 ≤ x ∧ x ≤ (L.length : Int) - 1
    · repeat (first | (refine step_ops ?_; (first | (refine m_mov (by conv => lhs; whnf) ?_) | (refine m_len_ro rfl ?_))) | refine end_ops ?_ | refine seq_ops ?_ | refine AW_seq ?_)
      (refine step_ops ?_); (apply m_call (l1In_spec _ _ _)); (· repeat (first | exact lends_nil | (refine lends_cons ?_ ?_; (· exact lend_v))))
      repeat (refine step_ops ?_; ((try (refine g_yes rfl ?_ ?_; (· first | rfl | assumption | (refine decide_eq_true ?_; first | assumption | omega) | (refine nt ?_; first | assumption | omega) | (simp [*]; done) | (refine decide_eq_false ?_; first | assumption | omega) | (refine nf ?_; first | assumption | omega)))); (first | (refine m_mov (by conv => lhs; whnf) ?_) | (refine m_sub rfl rfl ?_ ?_ ?_; (· omega); (· omega)) | (refine m_not rfl ?_) | (refine m_len_ro rfl ?_))))
      (refine step_ops ?_); (refine g_yes rfl ?_ ?_; (· first | (first | rfl | assumption | (refine decide_eq_true ?_; first | assumption | omega) | (refine nt ?_; first | assumption | omega) | (simp [*]; done)) | (first | rfl | assumption | (refine decide_eq_false ?_; first | assumption | omega) | (refine nf ?_; first | assumption | omega) | (simp [*]; done))); (apply m_call (l1All_spec _ _ _ hL))); (· repeat (first | exact lends_nil | (refine lends_cons ?_ ?_; (· (first | exact lend_v | (refine lend_ints ?_; first | rfl | omega))))))
      repeat (first | (refine step_ops ?_; ((try (refine g_yes rfl ?_ ?_; (· first | rfl | assumption | (refine decide_eq_true ?_; first | assumption | omega) | (refine nt ?_; first | assumption | omega) | (simp [*]; done) | (refine decide_eq_false ?_; first | assumption | omega) | (refine nf ?_; first | assumption | omega)))); (first | (refine m_mov (by conv => lhs; whnf) ?_) | (refine m_not rfl ?_) | (refine m_len_ro rfl ?_) | (refine m_pick_f rfl ?_ (by conv => lhs; whnf) ?_; (· first | rfl | assumption | (refine decide_eq_false ?_; first | assumption | omega) | (refine nf ?_; first | assumption | omega) | (simp [*]; done)))))) | refine end_ops ?_ | refine seq_ops ?_ | (refine cond_f rfl ?_ ?_; (· first | rfl | assumption | (refine decide_eq_false ?_; first | assumption | omega) | (refine nf ?_; first | assumption | omega) | (simp [*]; done))) | refine skip_then ?_ | refine AW_seq ?_ | refine AW_block ?_)
      refine AW_loop (α := Nat) (fun k => k ≤ L.length ∧ (L.take k).Nodup) (fun k => st [(0, ints L), (17, ints L), (18, .i L.length), (19, .i k)] []) (fun k => L.length - k) 0 (by simp) (weak_st ?_ ?_ rfl rfl) ?_
      · (repeat' (first | exact trivial | refine And.intro ?_ ?_)) <;> (first | rfl | skip)
      · trivial
      rintro k ⟨hk, hn⟩
      by_cases h : k < L.length
      · have hlt : (L.take k).length ≤ 1048576 := by simp; omega
        by_cases hm : L.getD k 0 ∈ L.take k
        · repeat (first | (refine step_ops ?_; (first | (refine m_mov (by conv => lhs; whnf) ?_) | (refine m_lss rfl rfl ?_) | (refine m_idx1_ro rfl rfl ?_ ?_; (· omega)) | (refine m_ld_rpi rfl ?_ ?_; (· omega)) | (refine m_cut_hi rfl rfl ?_ ?_ ?_; (· first | rfl | omega | simp); (· first | omega | (simp; omega))))) | refine end_ops ?_ | refine seq_ops ?_ | (refine cond_t rfl ?_ ?_; (· first | rfl | assumption | (refine decide_eq_true ?_; first | assumption | omega) | (refine nt ?_; first | assumption | omega) | (simp [*]; done))) | refine skip_then ?_ | refine AW_seq ?_ | refine AW_block ?_)
          (refine step_ops ?_); (apply m_call (l1Has_spec _ _ hlt)); (· repeat (first | exact lends_nil | (refine lends_cons ?_ ?_; (· (first | exact lend_v | (refine lend_ints ?_; first | rfl | omega))))))
          repeat (first | (refine step_ops ?_; (refine m_mov (by conv => lhs; whnf) ?_)) | refine end_ops ?_ | refine seq_ops ?_ | (refine cond_t rfl ?_ ?_; (· first | rfl | assumption | (refine decide_eq_true ?_; first | assumption | omega) | (refine nt ?_; first | assumption | omega) | (simp [*]; done))) | refine AW_ret ?_ | refine ret_done ?_ | refine ret_then ?_ | refine ret_block ?_ | refine ret_round ?_)
          refine outs_b ?_
          symm
          exact decide_eq_false fun he => not_nodup h hm he.2.2.2
        · repeat (first | (refine step_ops ?_; (first | (refine m_mov (by conv => lhs; whnf) ?_) | (refine m_lss rfl rfl ?_) | (refine m_idx1_ro rfl rfl ?_ ?_; (· omega)) | (refine m_ld_rpi rfl ?_ ?_; (· omega)) | (refine m_cut_hi rfl rfl ?_ ?_ ?_; (· first | rfl | omega | simp); (· first | omega | (simp; omega))))) | refine end_ops ?_ | refine seq_ops ?_ | (refine cond_t rfl ?_ ?_; (· first | rfl | assumption | (refine decide_eq_true ?_; first | assumption | omega) | (refine nt ?_; first | assumption | omega) | (simp [*]; done))) | refine skip_then ?_ | refine AW_seq ?_ | refine AW_block ?_)
          (refine step_ops ?_); (apply m_call (l1Has_spec _ _ hlt)); (· repeat (first | exact lends_nil | (refine lends_cons ?_ ?_; (· (first | exact lend_v | (refine lend_ints ?_; first | rfl | omega))))))
          repeat (first | (refine step_ops ?_; (first | (refine m_mov (by conv => lhs; whnf) ?_) | (refine m_add rfl rfl ?_ ?_ ?_; (· omega); (· omega)))) | refine end_ops ?_ | refine AW_ops ?_ | (refine cond_f rfl ?_ ?_; (· first | rfl | assumption | (refine decide_eq_false ?_; first | assumption | omega) | (refine nf ?_; first | assumption | omega) | (simp [*]; done))) | refine norm_then ?_ | refine norm_block ?_ | refine AW_skip ?_)
          refine next_round (k + 1) ⟨by omega, nodup_snoc h hn hm⟩ (weak_st ?_ ?_ rfl rfl) ?_
          · (repeat' (first | exact trivial | refine And.intro ?_ ?_)) <;> (first | rfl | skip)
          · trivial
          · omega
      · repeat (first | (refine step_ops ?_; (first | (refine m_mov (by conv => lhs; whnf) ?_) | (refine m_lss rfl rfl ?_))) | refine end_ops ?_ | refine seq_ops ?_ | (refine cond_f rfl ?_ ?_; (· first | rfl | assumption | (refine decide_eq_false ?_; first | assumption | omega) | (refine nf ?_; first | assumption | omega) | (simp [*]; done))) | refine AW_seq ?_ | refine AW_ret ?_ | refine ret_done ?_ | refine norm_then ?_ | refine exit_then ?_ | refine exit_round ?_ | refine AW_exit ?_ | refine exit_block ?_)
        refine outs_b ?_
        symm
        rw [List.take_of_length_le (by omega)] at hn
        exact decide_eq_true ⟨by omega, by omega, fun x hx => ⟨(hall x hx).1, by have := (hall x hx).2; omega⟩, hn⟩
    · repeat (first | (refine step_ops ?_; (first | (refine m_mov (by conv => lhs; whnf) ?_) | (refine m_len_ro rfl ?_))) | refine end_ops ?_ | refine seq_ops ?_ | refine AW_seq ?_)
      (refine step_ops ?_); (apply m_call (l1In_spec _ _ _)); (· repeat (first | exact lends_nil | (refine lends_cons ?_ ?_; (· exact lend_v))))
      repeat (refine step_ops ?_; ((try (refine g_yes rfl ?_ ?_; (· first | rfl | assumption | (refine decide_eq_true ?_; first | assumption | omega) | (refine nt ?_; first | assumption | omega) | (simp [*]; done) | (refine decide_eq_false ?_; first | assumption | omega) | (refine nf ?_; first | assumption | omega)))); (first | (refine m_mov (by conv => lhs; whnf) ?_) | (refine m_sub rfl rfl ?_ ?_ ?_; (· omega); (· omega)) | (refine m_not rfl ?_) | (refine m_len_ro rfl ?_))))
      (refine step_ops ?_); (refine g_yes rfl ?_ ?_; (· first | (first | rfl | assumption | (refine decide_eq_true ?_; first | assumption | omega) | (refine nt ?_; first | assumption | omega) | (simp [*]; done)) | (first | rfl | assumption | (refine decide_eq_false ?_; first | assumption | omega) | (refine nf ?_; first | assumption | omega) | (simp [*]; done))); (apply m_call (l1All_spec _ _ _ hL))); (· repeat (first | exact lends_nil | (refine lends_cons ?_ ?_; (· (first | exact lend_v | (refine lend_ints ?_; first | rfl | omega))))))
      repeat (first | (refine step_ops ?_; ((try (refine g_yes rfl ?_ ?_; (· first | rfl | assumption | (refine decide_eq_true ?_; first | assumption | omega) | (refine nt ?_; first | assumption | omega) | (simp [*]; done) | (refine decide_eq_false ?_; first | assumption | omega) | (refine nf ?_; first | assumption | omega)))); (first | (refine m_mov (by conv => lhs; whnf) ?_) | (refine m_not rfl ?_) | (refine m_pick_f rfl ?_ (by conv => lhs; whnf) ?_; (· first | rfl | assumption | (refine decide_eq_false ?_; first | assumption | omega) | (refine nf ?_; first | assumption | omega) | (simp [*]; done)))))) | refine end_ops ?_ | refine seq_ops ?_ | (refine cond_t rfl ?_ ?_; (· first | rfl | assumption | (refine decide_eq_true ?_; first | assumption | omega) | (refine nt ?_; first | assumption | omega) | (simp [*]; done))) | refine AW_ret ?_ | refine ret_done ?_ | refine ret_then ?_)
      refine outs_b ?_
      symm
      exact decide_eq_false fun he => hall fun x hx => ⟨(he.2.2.1 x hx).1, by have := (he.2.2.1 x hx).2; omega⟩
  · repeat (first | (refine step_ops ?_; (first | (refine m_mov (by conv => lhs; whnf) ?_) | (refine m_len_ro rfl ?_))) | refine end_ops ?_ | refine seq_ops ?_ | refine AW_seq ?_)
    (refine step_ops ?_); (apply m_call (l1In_spec _ _ _)); (· repeat (first | exact lends_nil | (refine lends_cons ?_ ?_; (· exact lend_v))))
    repeat (first | (refine step_ops ?_; (first | (first | (refine m_mov (by conv => lhs; whnf) ?_) | (refine m_not rfl ?_) | (refine m_pick_t rfl ?_ (by conv => lhs; whnf) ?_; (· first | rfl | assumption | (refine decide_eq_true ?_; first | assumption | omega) | (refine nt ?_; first | assumption | omega) | (simp [*]; done)))) | (refine g_noF rfl ?_ ?_; (· first | rfl | assumption | (refine decide_eq_true ?_; first | assumption | omega) | (refine nt ?_; first | assumption | omega) | (simp [*]; done))))) | refine end_ops ?_ | refine seq_ops ?_ | (refine cond_t rfl ?_ ?_; (· first | rfl | assumption | (refine decide_eq_true ?_; first | assumption | omega) | (refine nt ?_; first | assumption | omega) | (simp [*]; done))) | refine AW_ret ?_ | refine ret_done ?_ | refine ret_then ?_)
    refine outs_b ?_
    symm
    exact decide_eq_false fun he => hc ⟨by have := he.1; omega, by have := he.2.1; omega⟩
end Go.Proofs.Ytgjlaajkakecpaa
namespace Go.Proofs.Ytgjlaajkakecpaa
variable [Go.Am.CodeBlk]
open Go.Am
attribute [local irreducible] AW Outs Weak Lends Lend Sp aops atree aop1 Then Round InBlock Done
theorem exGuests_spec (a : Int) : Sp Try.prog 44 [.i a] (.b (decide (1 ≤ a ∧ a ≤ 12))) := by
  refine spec_of Try.func44 rfl cc44 rfl ?_
  unfold ac44
  repeat (first | (refine step_ops ?_; (refine m_mov (by conv => lhs; whnf) ?_)) | refine end_ops ?_ | refine seq_ops ?_)
  (refine step_ops ?_); (apply m_call (l1In_spec _ _ _)); (· repeat (first | exact lends_nil | (refine lends_cons ?_ ?_; (· exact lend_v))))
  repeat (first | (refine step_ops ?_; (refine m_mov (by conv => lhs; whnf) ?_)) | refine end_ops ?_ | refine AW_ret ?_ | refine ret_done ?_)
  exact outs_b rfl
theorem factorial_spec (n : Nat) (h : n ≤ 12) : Sp Try.prog 46 [.i n] (.i (fac n)) := by
  refine spec_of Try.func46 rfl cc46 rfl ?_
  unfold ac46
  repeat (first | (refine step_ops ?_; (refine m_mov (by conv => lhs; whnf) ?_)) | refine end_ops ?_ | refine seq_ops ?_ | refine AW_seq ?_ | refine AW_block ?_)
  refine AW_loop (α := Nat) (fun j => j + 1 ≤ n ∨ j = 0) (fun j => st [(0, .i n), (3, .i (fac (j + 1))), (4, .i ((j : Int) + 2))] []) (fun j => n - j) 0 (.inr rfl) (weak_st ?_ ?_ rfl rfl) ?_
  · (repeat' (first | exact trivial | refine And.intro ?_ ?_)) <;> (first | rfl | skip)
  · trivial
  intro j hj
  by_cases hc : (j : Int) + 2 ≤ n
  · have hb := fac_le (j + 2) (by omega)
    have e : fac (j + 2) = fac (j + 1) * ((j : Int) + 2) := rfl
    rw [e] at hb
    repeat (first | (refine step_ops ?_; (first | (refine m_mov (by conv => lhs; whnf) ?_) | (refine m_leq rfl rfl ?_) | (refine m_add rfl rfl ?_ ?_ ?_; (· omega); (· omega)) | (refine m_mul rfl rfl ?_ ?_ ?_; (· first | omega | (simp; done)); (· first | omega | (simp; done))))) | refine end_ops ?_ | refine seq_ops ?_ | refine AW_ops ?_ | (refine cond_t rfl ?_ ?_; (· first | rfl | assumption | (refine decide_eq_true ?_; first | assumption | omega) | (refine nt ?_; first | assumption | omega) | (simp [*]; done))) | refine skip_then ?_ | refine AW_seq ?_ | refine norm_then ?_ | refine AW_block ?_ | refine norm_block ?_)
    refine next_round (j + 1) (by omega) (weak_st ?_ ?_ rfl rfl) ?_
    · (repeat' (first | exact trivial | refine And.intro ?_ ?_)) <;> (first | rfl | skip)
    · trivial
    · omega
  · repeat (first | (refine step_ops ?_; (first | (refine m_mov (by conv => lhs; whnf) ?_) | (refine m_leq rfl rfl ?_))) | refine end_ops ?_ | refine seq_ops ?_ | (refine cond_f rfl ?_ ?_; (· first | rfl | assumption | (refine decide_eq_false ?_; first | assumption | omega) | (refine nf ?_; first | assumption | omega) | (simp [*]; done))) | refine AW_seq ?_ | refine AW_ret ?_ | refine ret_done ?_ | refine norm_then ?_ | refine exit_then ?_ | refine exit_round ?_ | refine AW_exit ?_ | refine exit_block ?_)
    refine outs_i ?_
    rcases hj with hj | rfl
    · have : j + 1 = n := by omega
      rw [this]
    · have : n = 0 ∨ n = 1 := by omega
      rcases this with rfl | rfl <;> rfl
theorem exNone_spec (n : Nat) (h : n ≤ 12) : Sp Try.prog 35 [.i n] (.i (noneN n)) := by
  refine spec_of Try.func35 rfl cc35 rfl ?_
  unfold ac35
  repeat (first | (refine step_ops ?_; (refine m_mov (by conv => lhs; whnf) ?_)) | refine end_ops ?_ | refine seq_ops ?_ | refine AW_seq ?_ | refine AW_block ?_)
  refine AW_loop (α := Nat) (fun j => j + 1 ≤ n ∨ j = 0) (fun j => st [(0, .i n), (3, .i (nn j).1), (4, .i (nn j).2), (5, .i ((j : Int) + 2))] []) (fun j => n - j) 0 (.inr rfl) (weak_st ?_ ?_ rfl rfl) ?_
  · (repeat' (first | exact trivial | refine And.intro ?_ ?_)) <;> (first | rfl | skip)
  · trivial
  intro j hj
  by_cases hc : (j : Int) + 2 ≤ n
  · have hb := nn_le (j + 1) (by omega)
    have hb0 := nn_le j (by omega)
    have e : nn (j + 1) = ((nn j).2, ((j : Int) + 2 - 1) * ((nn j).1 + (nn j).2)) := rfl
    rw [e] at hb
    dsimp only at hb
    repeat (first | (refine step_ops ?_; (first | (refine m_mov (by conv => lhs; whnf) ?_) | (refine m_leq rfl rfl ?_) | (refine m_add rfl rfl ?_ ?_ ?_; (· omega); (· omega)) | (refine m_sub rfl rfl ?_ ?_ ?_; (· omega); (· omega)) | (refine m_mul rfl rfl ?_ ?_ ?_; (· first | omega | (simp; done)); (· first | omega | (simp; done))))) | refine end_ops ?_ | refine seq_ops ?_ | refine AW_ops ?_ | (refine cond_t rfl ?_ ?_; (· first | rfl | assumption | (refine decide_eq_true ?_; first | assumption | omega) | (refine nt ?_; first | assumption | omega) | (simp [*]; done))) | refine skip_then ?_ | refine AW_seq ?_ | refine norm_then ?_ | refine AW_block ?_ | refine norm_block ?_)
    refine next_round (j + 1) (by omega) (weak_st ?_ ?_ rfl rfl) ?_
    · (repeat' (first | exact trivial | refine And.intro ?_ ?_)) <;> (first | rfl | skip)
    · trivial
    · omega
  · by_cases h0 : n = 0
    · subst h0
      repeat (first | (refine step_ops ?_; (first | (refine m_mov (by conv => lhs; whnf) ?_) | (refine m_leq rfl rfl ?_) | (refine m_eql rfl rfl ?_))) | refine end_ops ?_ | refine seq_ops ?_ | (refine cond_t rfl ?_ ?_; (· first | rfl | assumption | (refine decide_eq_true ?_; first | assumption | omega) | (refine nt ?_; first | assumption | omega) | (simp [*]; done))) | (refine cond_f rfl ?_ ?_; (· first | rfl | assumption | (refine decide_eq_false ?_; first | assumption | omega) | (refine nf ?_; first | assumption | omega) | (simp [*]; done))) | refine AW_seq ?_ | refine AW_ret ?_ | refine ret_done ?_ | refine norm_then ?_ | refine ret_then ?_ | refine exit_then ?_ | refine exit_round ?_ | refine AW_exit ?_ | refine exit_block ?_)
      exact outs_i rfl
    · have hn0 : ¬ (n : Int) = 0 := by omega
      repeat (first | (refine step_ops ?_; (first | (refine m_mov (by conv => lhs; whnf) ?_) | (refine m_leq rfl rfl ?_) | (refine m_eql rfl rfl ?_))) | refine end_ops ?_ | refine seq_ops ?_ | (refine cond_f rfl ?_ ?_; (· first | rfl | assumption | (refine decide_eq_false ?_; first | assumption | omega) | (refine nf ?_; first | assumption | omega) | (simp [*]; done))) | refine skip_then ?_ | refine AW_seq ?_ | refine AW_ret ?_ | refine ret_done ?_ | refine norm_then ?_ | refine exit_then ?_ | refine exit_round ?_ | refine AW_exit ?_ | refine exit_block ?_)
      refine outs_i ?_
      rw [noneN, if_neg h0]
      have : j = n - 1 := by omega
      rw [this]
theorem countApart_spec (g h : Nat) (hg : g ≤ 12) (hh : h ≤ 12) : Sp Try.prog 39 [.i g, .i h] (.i ((apOut g h).getD g 0)) := by
  refine spec_of Try.func39 rfl cc39 rfl ?_
  unfold ac39
  repeat (first | (refine step_ops ?_; (first | (refine m_mov (by conv => lhs; whnf) ?_) | (refine m_add rfl rfl ?_ ?_ ?_; (· omega); (· omega)))) | refine end_ops ?_ | refine seq_ops ?_)
  refine step_ops ?_
  refine m_mk (n := g + 1) rfl rfl ?_ ?_ ?_
  · omega
  · omega
  repeat (first | (refine step_ops ?_; (first | (refine m_mov (by conv => lhs; whnf) ?_) | (refine m_len_sl rfl ?_))) | refine end_ops ?_ | refine seq_ops ?_ | refine AW_seq ?_ | refine AW_block ?_)
  refine AW_loop (α := Nat) (fun k => k ≤ g + 1) (fun k => st [(0, .i g), (1, .i h), (5, .sl 10 1 0 (g + 1)), (12, .i (g + 1 : Nat)), (13, .i k)] [(10, (true, (facW g k).map AV.i))]) (fun k => g + 1 - k) 0 (by omega) (weak_st ?_ ?_ rfl rfl) ?_
  · (repeat' (first | exact trivial | refine And.intro ?_ ?_)) <;> (first | rfl | skip)
  · refine ⟨?_, trivial⟩
    show some (true, (List.replicate (g + 1) (List.map AV.v [Value.int IntKind.i64 0])).flatten) = _
    simp [facW]
  · intro k hk
    have hl := facW_len g k hk
    by_cases hc : k < g + 1
    · repeat (first | (refine step_ops ?_; (first | (refine m_mov (by conv => lhs; whnf) ?_) | (refine m_lss rfl rfl ?_))) | refine end_ops ?_ | refine seq_ops ?_ | refine AW_ops ?_ | (refine cond_t rfl ?_ ?_; (· first | rfl | assumption | (refine decide_eq_true ?_; first | assumption | omega) | (refine nt ?_; first | assumption | omega) | (simp [*]; done))) | refine skip_then ?_ | refine AW_seq ?_ | refine AW_block ?_)
      refine step_ops ?_; (apply m_call (factorial_spec k (by omega))); (· repeat (first | exact lends_nil | (refine lends_cons ?_ ?_; (· exact lend_v))))
      repeat (first | (refine step_ops ?_; (first | (refine m_mov (by conv => lhs; whnf) ?_) | (refine m_add rfl rfl ?_ ?_ ?_; (· omega); (· omega)) | (refine m_idx1_sl rfl rfl ?_ ?_; (· omega)) | (apply m_st; (· rfl); (· rfl); (· rfl); (· first | omega | (simp; done) | (simp; omega)); (· rfl)))) | refine end_ops ?_ | refine AW_ops ?_ | refine norm_then ?_ | refine norm_block ?_)
      refine next_round (k + 1) (by omega) (weak_st ?_ ?_ rfl rfl) ?_
      · (repeat' (first | exact trivial | refine And.intro ?_ ?_)) <;> (first | rfl | skip)
      · refine ⟨?_, trivial⟩
        show some (true, ((facW g k).map AV.i).set k (AV.i (fac k))) = _
        rw [← facW_set g k hc, List.map_set]
      · omega
    · repeat (first | (refine step_ops ?_; (first | (refine m_mov (by conv => lhs; whnf) ?_) | (refine m_lss rfl rfl ?_))) | refine end_ops ?_ | refine seq_ops ?_ | (refine cond_f rfl ?_ ?_; (· first | rfl | assumption | (refine decide_eq_false ?_; first | assumption | omega) | (refine nf ?_; first | assumption | omega) | (simp [*]; done))) | refine AW_seq ?_ | refine norm_then ?_ | refine exit_then ?_ | refine AW_block ?_ | refine exit_round ?_ | refine AW_exit ?_ | refine exit_block ?_)
      obtain rfl : k = g + 1 := by omega
      refine AW_loop (α := Nat) (fun s => s ≤ h) (fun s => st [(0, .i g), (5, .sl 10 1 0 (g + 1)), (22, .i h), (23, .i s)] [(10, (true, (apOut g s).map AV.i))]) (fun s => h - s) 0 (by omega) (weak_st ?_ ?_ rfl rfl) ?_
      · (repeat' (first | exact trivial | refine And.intro ?_ ?_)) <;> (first | rfl | skip)
      · refine ⟨?_, trivial⟩
        show some (true, (facW g (g + 1)).map AV.i) = _
        simp [facW, apOut, facs]
      intro s hs
      have hlo := apOut_len g s
      by_cases hc : s < h
      · repeat (first | (refine step_ops ?_; (first | (refine m_mov (by conv => lhs; whnf) ?_) | (refine m_lss rfl rfl ?_))) | refine end_ops ?_ | refine seq_ops ?_ | (refine cond_t rfl ?_ ?_; (· first | rfl | assumption | (refine decide_eq_true ?_; first | assumption | omega) | (refine nt ?_; first | assumption | omega) | (simp [*]; done))) | refine skip_then ?_ | refine AW_seq ?_ | refine AW_block ?_)
        refine AW_loop (α := Nat) (fun j => j ≤ g) (fun j => st [(0, .i g), (5, .sl 10 1 0 (g + 1)), (22, .i h), (23, .i s), (7, .i (g - j : Nat))] [(10, (true, (apIn (apOut g s) g j).map AV.i))]) (fun j => g - j) 0 (by omega) (weak_st ?_ ?_ rfl rfl) ?_
        · (repeat' (first | exact trivial | refine And.intro ?_ ?_)) <;> (first | rfl | skip)
        · exact ⟨rfl, trivial⟩
        intro j hj
        have hli := apIn_len (apOut g s) g j
        have hb := apIn_bound (cap_le s (by omega)).1 hj hlo (apOut_bound g s hg (by omega))
        have hcs := cap_le s (by omega)
        have hb1 := hb (g - j)
        have hb2 := hb (g - j - 1)
        by_cases hd : 0 < ((g - j : Nat) : Int)
        · have hm1 : ((g - j : Nat) : Int) - 1 = ((g - j - 1 : Nat) : Int) := by omega
          repeat (first | ((first | refine step_ops ?_ | refine step_tree ?_); (first | (refine m_mov (by conv => lhs; whnf) ?_) | (refine m_gtr rfl rfl ?_) | (refine m_sub rfl rfl ?_ ?_ ?_; (· omega); (· omega)) | (refine m_idx1_sl rfl rfl ?_ ?_; (· omega)) | (apply m_idx1_slj; (· rfl); (· rfl); (· assumption); (· omega)) | (refine m_ld_pti rfl (by rfl) ?_ ?_; (· first | omega | (simp; omega))) | (apply m_st; (· rfl); (· rfl); (· rfl); (· first | omega | (simp; done) | (simp; omega)); (· rfl)))) | refine end_ops ?_ | refine seq_ops ?_ | refine AW_ops ?_ | refine end_tree ?_ | refine AW_tree ?_ | (refine cond_t rfl ?_ ?_; (· first | rfl | assumption | (refine decide_eq_true ?_; first | assumption | omega) | (refine nt ?_; first | assumption | omega) | (simp [*]; done))) | refine skip_then ?_ | refine AW_seq ?_ | refine norm_then ?_ | refine AW_block ?_ | refine norm_block ?_)
          refine next_round (j + 1) (by omega) (weak_st ?_ ?_ rfl rfl) ?_
          · refine ⟨rfl, rfl, rfl, rfl, ?_, trivial⟩
            show AV.i (((g - j : Nat) : Int) - 1) = AV.i ((g - (j + 1) : Nat) : Int)
            rw [hm1]; rfl
          · refine ⟨?_, trivial⟩
            show some (true, ((apIn (apOut g s) g j).map AV.i).set (g - j) (AV.i _)) = _
            rw [apIn, List.map_set]
          · omega
        · repeat (first | (refine step_ops ?_; (first | (refine m_mov (by conv => lhs; whnf) ?_) | (refine m_gtr rfl rfl ?_) | (refine m_add rfl rfl ?_ ?_ ?_; (· omega); (· omega)))) | refine end_ops ?_ | refine seq_ops ?_ | refine AW_ops ?_ | (refine cond_f rfl ?_ ?_; (· first | rfl | assumption | (refine decide_eq_false ?_; first | assumption | omega) | (refine nf ?_; first | assumption | omega) | (simp [*]; done))) | refine AW_seq ?_ | refine norm_then ?_ | refine exit_then ?_ | refine norm_block ?_ | refine exit_round ?_ | refine AW_exit ?_ | refine exit_block ?_)
          have : j = g := by omega
          subst this
          refine next_round (s + 1) (by omega) (weak_st ?_ ?_ rfl rfl) ?_
          · (repeat' (first | exact trivial | refine And.intro ?_ ?_)) <;> (first | rfl | skip)
          · exact ⟨rfl, trivial⟩
          · omega
      · obtain rfl : s = h := by omega
        repeat (first | (refine step_ops ?_; (first | (refine m_mov (by conv => lhs; whnf) ?_) | (refine m_lss rfl rfl ?_) | (refine m_idx1_sl rfl rfl ?_ ?_; (· omega)) | (refine m_ld_pti rfl (by rfl) ?_ ?_; (· first | omega | (simp; omega))))) | refine end_ops ?_ | refine seq_ops ?_ | (refine cond_f rfl ?_ ?_; (· first | rfl | assumption | (refine decide_eq_false ?_; first | assumption | omega) | (refine nf ?_; first | assumption | omega) | (simp [*]; done))) | refine AW_seq ?_ | refine AW_ret ?_ | refine ret_done ?_ | refine norm_then ?_ | refine exit_then ?_ | refine exit_round ?_ | refine AW_exit ?_ | refine exit_block ?_)
        exact outs_i rfl
end Go.Proofs.Ytgjlaajkakecpaa
namespace Go.Proofs.Ytgjlaajkakecpaa
variable [Go.Am.CodeBlk]
open Go.Am
attribute [local irreducible] AW Outs Weak Lends Lend Sp aops atree aop1 Then Round InBlock Done
theorem exTimes_spec (n : Nat) (h : n ≤ 12) : Sp Try.prog 49 [.i n] (.i (fac n)) := by
  refine spec_of Try.func49 rfl cc49 rfl ?_
  unfold ac49
  repeat (first | (refine step_ops ?_; (refine m_mov (by conv => lhs; whnf) ?_)) | refine end_ops ?_ | refine seq_ops ?_ | refine AW_seq ?_ | refine AW_block ?_)
  refine AW_loop (α := Nat) (fun j => j + 1 ≤ n ∨ j = 0) (fun j => st [(0, .i n), (3, .i (fac (j + 1))), (4, .i ((j : Int) + 2))] []) (fun j => n - j) 0 (.inr rfl) (weak_st ?_ ?_ rfl rfl) ?_
  · (repeat' (first | exact trivial | refine And.intro ?_ ?_)) <;> (first | rfl | skip)
  · trivial
  intro j hj
  by_cases hc : (j : Int) + 2 ≤ n
  · have hb := fac_le (j + 2) (by omega)
    have e : fac (j + 2) = fac (j + 1) * ((j : Int) + 2) := rfl
    rw [e] at hb
    repeat (first | (refine step_ops ?_; (first | (refine m_mov (by conv => lhs; whnf) ?_) | (refine m_leq rfl rfl ?_) | (refine m_add rfl rfl ?_ ?_ ?_; (· omega); (· omega)) | (refine m_mul rfl rfl ?_ ?_ ?_; (· first | omega | (simp; done)); (· first | omega | (simp; done))))) | refine end_ops ?_ | refine seq_ops ?_ | refine AW_ops ?_ | (refine cond_t rfl ?_ ?_; (· first | rfl | assumption | (refine decide_eq_true ?_; first | assumption | omega) | (refine nt ?_; first | assumption | omega) | (simp [*]; done))) | refine skip_then ?_ | refine AW_seq ?_ | refine norm_then ?_ | refine AW_block ?_ | refine norm_block ?_)
    refine next_round (j + 1) (by omega) (weak_st ?_ ?_ rfl rfl) ?_
    · (repeat' (first | exact trivial | refine And.intro ?_ ?_)) <;> (first | rfl | skip)
    · trivial
    · omega
  · repeat (first | (refine step_ops ?_; (first | (refine m_mov (by conv => lhs; whnf) ?_) | (refine m_leq rfl rfl ?_))) | refine end_ops ?_ | refine seq_ops ?_ | (refine cond_f rfl ?_ ?_; (· first | rfl | assumption | (refine decide_eq_false ?_; first | assumption | omega) | (refine nf ?_; first | assumption | omega) | (simp [*]; done))) | refine AW_seq ?_ | refine AW_ret ?_ | refine ret_done ?_ | refine norm_then ?_ | refine exit_then ?_ | refine exit_round ?_ | refine AW_exit ?_ | refine exit_block ?_)
    refine outs_i ?_
    rcases hj with hj | rfl
    · have : j + 1 = n := by omega
      rw [this]
    · have : n = 0 ∨ n = 1 := by omega
      rcases this with rfl | rfl <;> rfl
theorem commonDivisor_spec (a b : Nat) : Sp Try.prog 63 [.i a, .i b] (.i (Nat.gcd a b)) := by
  refine spec_of Try.func63 rfl cc63 rfl ?_
  unfold ac63
  repeat (first | (refine step_ops ?_; (refine m_mov (by conv => lhs; whnf) ?_)) | refine end_ops ?_ | refine seq_ops ?_ | refine AW_seq ?_ | refine AW_block ?_)
  refine AW_loop (α := Nat × Nat) (fun q => Nat.gcd q.1 q.2 = Nat.gcd a b) (fun q => st [(0, .i q.1), (1, .i q.2)] []) (fun q => q.2) (a, b) rfl (weak_st ?_ ?_ rfl rfl) ?_
  · (repeat' (first | exact trivial | refine And.intro ?_ ?_)) <;> (first | rfl | skip)
  · trivial
  rintro ⟨u, v⟩ hq
  dsimp only at hq ⊢
  by_cases hc : v = 0
  · subst hc
    have hc' : ((0 : Nat) : Int) = 0 := rfl
    repeat (first | (refine step_ops ?_; (first | (refine m_mov (by conv => lhs; whnf) ?_) | (refine m_neq rfl rfl ?_))) | refine end_ops ?_ | refine seq_ops ?_ | (refine cond_f rfl ?_ ?_; (· first | rfl | assumption | (refine decide_eq_false ?_; first | assumption | omega) | (refine nf ?_; first | assumption | omega) | (simp [*]; done))) | refine AW_seq ?_ | refine AW_ret ?_ | refine ret_done ?_ | refine norm_then ?_ | refine exit_then ?_ | refine exit_round ?_ | refine AW_exit ?_ | refine exit_block ?_)
    refine outs_i ?_
    rw [← hq, Nat.gcd_zero_right]
  · have hc' : ¬ (v : Int) = 0 := by omega
    repeat (first | ((first | refine step_ops ?_ | refine step_tree ?_); (first | (refine m_mov (by conv => lhs; whnf) ?_) | (refine m_neq rfl rfl ?_) | (refine m_rem rfl rfl ?_ ?_ ?_; (· omega); (· omega)))) | refine end_ops ?_ | refine seq_ops ?_ | refine end_tree ?_ | refine AW_tree ?_ | (refine cond_t rfl ?_ ?_; (· first | rfl | assumption | (refine decide_eq_true ?_; first | assumption | omega) | (refine nt ?_; first | assumption | omega) | (simp [*]; done))) | refine skip_then ?_ | refine AW_seq ?_ | refine AW_block ?_ | refine norm_block ?_)
    refine next_round (v, u % v) ?_ (weak_st ?_ ?_ rfl rfl) ?_
    · dsimp only
      rw [← hq, Nat.gcd_comm u v, Nat.gcd_rec v u, Nat.gcd_comm]
    · (repeat' (first | exact trivial | refine And.intro ?_ ?_)) <;> (first | rfl | skip)
    · trivial
    · exact Nat.mod_lt _ (by omega)
end Go.Proofs.Ytgjlaajkakecpaa
namespace Go.Am
variable [Go.Am.CodeBlk]
/-- In how many ways n coats can be taken if h guests must not take their own. -/
def apD (n h : Nat) : Int := (apOut n h).getD n 0
/-- Products of n - k + 1 up to n, divided step by step. -/
def chz (n k : Nat) : Nat → Int
  | 0 => 1
  | j + 1 => chz n k j * ((n : Int) - k + ((j : Int) + 1)) / ((j : Int) + 1)
/-- In- and exclusion. -/
def inx (b l : Nat) : Nat → Int
  | 0 => 0
  | k + 1 => if k % 2 = 0 then inx b l k + chz b k k * fac (l - k) else inx b l k - chz b k k * fac (l - k)
theorem inx_table : ∀ l < 13, ∀ b < l + 1, inx b l (b + 1) = apD l b ∧ 0 ≤ apD l b ∧ apD l b ≤ 479001600 := by decide +kernel
theorem inx_le : ∀ l < 13, ∀ b < l + 1, ∀ k < b + 1, (-1000000000000 ≤ inx b l k ∧ inx b l k ≤ 1000000000000) ∧ 0 ≤ chz b k k * fac (l - k) ∧ chz b k k * fac (l - k) ≤ 1000000000000 := by decide +kernel
theorem apD_rec : ∀ n < 12, ∀ f < n + 1, (apD (n + 1) f = ((n : Int) + 1 - f) * apD n f + f * apD n (f - 1)) ∧ apD (n + 1) (f + 1) = ((n : Int) - f) * apD n f + f * apD n (f - 1) := by decide +kernel
/-- How many numbers below n are told. -/
def cnt (p : Nat → Bool) : Nat → Nat
  | 0 => 0
  | n + 1 => cnt p n + if p n then 1 else 0
theorem cnt_le (p : Nat → Bool) (n : Nat) : cnt p n ≤ n := by
  induction n with
  | zero => simp [cnt]
  | succ n ih => simp only [cnt]; split <;> omega
theorem cnt_congr {p q : Nat → Bool} {n : Nat} (h : ∀ k < n, p k = q k) : cnt p n = cnt q n := by
  induction n with
  | zero => rfl
  | succ n ih => simp only [cnt]; rw [ih fun k hk => h k (by omega), h n (by omega)]
theorem cnt_drop {p q : Nat → Bool} {n c : Nat} (hc : c < n) (hp : p c = true) (hq : q c = false) (h : ∀ k < n, k ≠ c → p k = q k) : cnt q n + 1 = cnt p n := by
  induction n with
  | zero => omega
  | succ n ih =>
    simp only [cnt]
    by_cases e : c = n
    · subst e
      rw [hp, hq, cnt_congr (p := q) (q := p) fun k hk => (h k (by omega) (by omega)).symm]
      simp
    · have := ih (by omega) fun k hk hkc => h k (by omega) hkc
      rw [h n (by omega) (by omega)]
      omega
theorem cnt_add (p : Nat → Bool) (a b : Nat) : cnt p (a + b) = cnt p a + cnt (fun k => p (a + k)) b := by
  induction b with
  | zero => simp [cnt]
  | succ b ih => rw [← Nat.add_assoc]; simp only [cnt]; rw [ih]; omega
/-- How many of the numbers a, a + 1, .., k of them, are not in a list. -/
def freeTo (M : List Int) (a k : Nat) : Nat := cnt (fun n => decide (((a + n : Nat) : Int) ∉ M)) k
theorem freeTo_succ (M : List Int) (a k : Nat) : freeTo M a (k + 1) = freeTo M a k + if ((a + k : Nat) : Int) ∉ M then 1 else 0 := by
  simp only [freeTo, cnt]; congr 1; simp
theorem freeTo_le (M : List Int) (a k : Nat) : freeTo M a k ≤ k := cnt_le _ _
theorem freeTo_add (M : List Int) (a b c : Nat) : freeTo M a (b + c) = freeTo M a b + freeTo M (a + b) c := by
  unfold freeTo
  rw [cnt_add]
  congr 1
  refine cnt_congr fun k _ => ?_
  rw [Nat.add_assoc]
theorem freeTo_out (M : List Int) (a k x : Nat) (h : x < a) : freeTo (M ++ [(x : Int)]) a k = freeTo M a k := by
  refine cnt_congr fun n _ => ?_
  have : ¬ ((a + n : Nat) : Int) = (x : Int) := by omega
  simp only [List.mem_append, List.mem_singleton, this, or_false]
theorem freeTo_in (M : List Int) (a k x : Nat) (h : a ≤ x) (h2 : x < a + k) (hx : (x : Int) ∉ M) : freeTo (M ++ [(x : Int)]) a k + 1 = freeTo M a k := by
  refine cnt_drop (c := x - a) (by omega) ?_ ?_ fun n hn hne => ?_
  · have e : a + (x - a) = x := by omega
    rw [e]; exact decide_eq_true hx
  · have e : a + (x - a) = x := by omega
    rw [e]; refine decide_eq_false ?_; simp
  · have : ¬ ((a + n : Nat) : Int) = (x : Int) := by omega
    simp only [List.mem_append, List.mem_singleton, this, or_false]
/-- Numbers below g, each once. -/
def Part (M : List Int) (g : Nat) : Prop := (∀ x ∈ M, 0 ≤ x ∧ x < g) ∧ M.Nodup
theorem freeTo_part (M : List Int) (g : Nat) (h : Part M g) : freeTo M 0 g + M.length = g := by
  suffices hh : ∀ (n : Nat) (M : List Int), M.length = n → Part M g → freeTo M 0 g + M.length = g from hh _ M rfl h
  intro n
  induction n with
  | zero =>
    intro M hM _
    have : M = [] := List.eq_nil_of_length_eq_zero hM
    subst this
    have : freeTo [] 0 g = g := by
      unfold freeTo
      clear h
      induction g with
      | zero => rfl
      | succ g ih => simp only [cnt]; rw [ih ⟨by simp, by simp⟩]; simp
    simp [this]
  | succ n ih =>
    intro M hM hp
    have hne : M ≠ [] := fun e => by rw [e] at hM; simp at hM
    have e := List.dropLast_concat_getLast hne
    have hg := hp.1 _ (List.getLast_mem hne)
    obtain ⟨x, hx⟩ := Int.eq_ofNat_of_zero_le hg.1
    rw [hx] at e hg
    have hl : M.dropLast.length = n := by simp [hM]
    have hnd : (M.dropLast ++ [(x : Int)]).Nodup := by rw [e]; exact hp.2
    have hxn : (x : Int) ∉ M.dropLast := by
      rw [List.nodup_append] at hnd
      exact fun hm => hnd.2.2 _ hm _ (List.mem_singleton.2 rfl) rfl
    have hp' : Part M.dropLast g := ⟨fun y hy => hp.1 y (List.dropLast_subset _ hy), (List.nodup_append.1 hnd).1⟩
    have h1 := ih M.dropLast hl hp'
    have h2 := freeTo_in M.dropLast 0 g x (by omega) (by omega) hxn
    rw [e] at h2
    omega
theorem Part.snoc {M : List Int} {g x : Nat} (h : Part M g) (hx : x < g) (hm : (x : Int) ∉ M) : Part (M ++ [(x : Int)]) g := by
  refine ⟨fun y hy => ?_, ?_⟩
  · rw [List.mem_append, List.mem_singleton] at hy
    rcases hy with hy | rfl
    · exact h.1 y hy
    · omega
  · rw [List.nodup_append]
    refine ⟨h.2, by simp, fun a ha b hb hab => ?_⟩
    rw [List.mem_singleton] at hb
    subst hb; subst hab
    exact hm ha
/-- In how many ways a beginning of an exchange of g guests goes on without own coats. -/
def lft (M : List Int) (g : Nat) : Int := apD (g - M.length) (freeTo M M.length (g - M.length))
theorem lft_le (M : List Int) (g : Nat) (hg : g ≤ 12) : 0 ≤ lft M g ∧ lft M g ≤ 479001600 := by
  have := inx_table (g - M.length) (by omega) (freeTo M M.length (g - M.length)) (by have := freeTo_le M M.length (g - M.length); omega)
  exact this.2
/-- May the guest i behind those of M take x? -/
def MayTake (M : List Int) (i x : Nat) : Prop := x ≠ i ∧ (x : Int) ∉ M
instance (M : List Int) (i x : Nat) : Decidable (MayTake M i x) := inferInstanceAs (Decidable (_ ∧ _))
/-- How many come before those that go on with x. -/
def smTo (M : List Int) (g i : Nat) : Nat → Int
  | 0 => 0
  | x + 1 => if MayTake M i x then smTo M g i x + lft (M ++ [(x : Int)]) g else smTo M g i x
theorem smTo_le (M : List Int) (g i x : Nat) (hg : g ≤ 12) : 0 ≤ smTo M g i x ∧ smTo M g i x ≤ 479001600 * x := by
  induction x with
  | zero => simp [smTo]
  | succ x ih =>
    have := lft_le (M ++ [(x : Int)]) g hg
    simp only [smTo]
    split <;> omega
theorem lft_lo {M : List Int} {g x : Nat} (h : x < M.length) : lft (M ++ [(x : Int)]) g = apD (g - M.length - 1) (freeTo M (M.length + 1) (g - M.length - 1)) := by
  unfold lft
  rw [List.length_append, List.length_singleton, freeTo_out _ _ _ _ (by omega)]
  rfl
theorem lft_hi {M : List Int} {g x : Nat} (h : M.length < x) (hg : x < g) (hx : (x : Int) ∉ M) : lft (M ++ [(x : Int)]) g = apD (g - M.length - 1) (freeTo M (M.length + 1) (g - M.length - 1) - 1) := by
  have := freeTo_in M (M.length + 1) (g - M.length - 1) x (by omega) (by omega) hx
  unfold lft
  rw [List.length_append, List.length_singleton]
  have e : g - (M.length + 1) = g - M.length - 1 := by omega
  rw [e]
  congr 1
  omega
theorem smTo_lo (M : List Int) (g x : Nat) (h : x ≤ M.length) : smTo M g M.length x = (freeTo M 0 x : Nat) * apD (g - M.length - 1) (freeTo M (M.length + 1) (g - M.length - 1)) := by
  induction x with
  | zero => simp [smTo, freeTo, cnt]
  | succ x ih =>
    simp only [smTo]
    rw [freeTo_succ, Nat.zero_add, ih (by omega)]
    by_cases hx : (x : Int) ∈ M
    · have : ¬ MayTake M M.length x := fun hh => hh.2 hx
      rw [if_neg this]; simp [hx]
    · have : MayTake M M.length x := ⟨by omega, hx⟩
      rw [if_pos this, lft_lo (by omega)]; simp [hx, Int.add_mul]
theorem smTo_hi (M : List Int) (g k : Nat) (h : M.length + 1 + k ≤ g) : smTo M g M.length (M.length + 1 + k) = smTo M g M.length M.length + (freeTo M (M.length + 1) k : Nat) * apD (g - M.length - 1) (freeTo M (M.length + 1) (g - M.length - 1) - 1) := by
  induction k with
  | zero =>
    have : ¬ MayTake M M.length M.length := fun hh => hh.1 rfl
    simp only [smTo]
    rw [if_neg this]; simp [freeTo, cnt]
  | succ k ih =>
    rw [← Nat.add_assoc]
    simp only [smTo]
    rw [freeTo_succ, ih (by omega)]
    by_cases hx : ((M.length + 1 + k : Nat) : Int) ∈ M
    · have : ¬ MayTake M M.length (M.length + 1 + k) := fun hh => hh.2 hx
      rw [if_neg this, if_neg (fun hh => hh hx)]; rfl
    · have : MayTake M M.length (M.length + 1 + k) := ⟨by omega, hx⟩
      rw [if_pos this, lft_hi (by omega) (by omega) hx]
      rw [if_pos hx, Int.natCast_add, Int.add_mul, Int.natCast_one, Int.one_mul]
      omega
/-- All that go on are those that go on with some coat. -/
theorem smTo_all {M : List Int} {g : Nat} (hp : Part M g) (hi : M.length < g) (hg : g ≤ 12) : smTo M g M.length g = lft M g := by
  obtain ⟨n, hn⟩ : ∃ n, g = M.length + 1 + n := ⟨g - M.length - 1, by omega⟩
  have e1 := smTo_hi M g n (by omega)
  rw [← hn] at e1
  rw [e1, smTo_lo _ _ _ (Nat.le_refl _)]
  have hall := freeTo_part M g hp
  have e2 : freeTo M 0 g = freeTo M 0 M.length + freeTo M M.length (g - M.length) := by
    have := freeTo_add M 0 M.length (g - M.length)
    rw [Nat.zero_add, Nat.add_sub_cancel' (by omega)] at this
    exact this
  have e3 : freeTo M M.length (g - M.length) = freeTo M M.length 1 + freeTo M (M.length + 1) n := by
    have := freeTo_add M M.length 1 n
    rw [← this]; congr 1; omega
  have e4 : g - M.length - 1 = n := by omega
  have e5 : g - M.length = n + 1 := by omega
  unfold lft
  rw [e4, e3, e5]
  have hF := freeTo_le M (M.length + 1) n
  generalize hf : freeTo M (M.length + 1) n = f at *
  have hrec := apD_rec n (by omega) f (by omega)
  have e6 : freeTo M M.length 1 = if ((M.length : Nat) : Int) ∉ M then 1 else 0 := by
    have := freeTo_succ M M.length 0
    simp only [Nat.add_zero, Nat.zero_add] at this
    rw [this]; simp [freeTo, cnt]
  by_cases hm : ((M.length : Nat) : Int) ∈ M
  · have e7 : freeTo M M.length 1 = 0 := by rw [e6]; simp [hm]
    have e8 : (freeTo M 0 M.length : Int) = (n : Int) + 1 - f := by omega
    rw [e7, Nat.zero_add, hrec.1, e8]
  · have e7 : freeTo M M.length 1 = 1 := by rw [e6]; simp [hm]
    have e8 : (freeTo M 0 M.length : Int) = (n : Int) - f := by omega
    rw [e7, Nat.add_comm 1 f, hrec.2, e8]
theorem lft_none (g : Nat) (hg : g ≤ 12) : lft [] g = noneN g := by
  have : freeTo [] 0 g = g := by have := freeTo_part [] g ⟨by simp, by simp⟩; simpa using this
  show apD (g - 0) (freeTo [] 0 (g - 0)) = _
  rw [Nat.sub_zero, this]
  revert g
  decide +kernel
/-- The first coat x from which on a rank falls into those that go on with it, and what is left of the rank. -/
def pickF (M : List Int) (g i : Nat) : Nat → Nat → Int → Option (Nat × Int)
  | 0, _, _ => none
  | n + 1, x, r => if MayTake M i x then (if r < lft (M ++ [(x : Int)]) g then some (x, r) else pickF M g i n (x + 1) (r - lft (M ++ [(x : Int)]) g)) else pickF M g i n (x + 1) r
theorem pickF_some (M : List Int) (g : Nat) (hp : Part M g) (hi : M.length < g) (hg : g ≤ 12) (r0 : Int) (h0 : r0 < lft M g) : ∀ (n x : Nat) (r : Int), x + n = g → 0 ≤ r → r + smTo M g M.length x = r0 →
    ∃ y s, pickF M g M.length n x r = some (y, s) ∧ y < g ∧ MayTake M M.length y ∧ 0 ≤ s ∧ s < lft (M ++ [(y : Int)]) g
  | 0, x, r, hx, hr, he => by
    have := smTo_all hp hi hg
    have e : x = g := by omega
    rw [e, this] at he
    omega
  | n + 1, x, r, hx, hr, he => by
    simp only [pickF]
    by_cases hc : MayTake M M.length x
    · rw [if_pos hc]
      by_cases hl : r < lft (M ++ [(x : Int)]) g
      · rw [if_pos hl]
        exact ⟨x, r, rfl, by omega, hc, hr, hl⟩
      · rw [if_neg hl]
        refine pickF_some M g hp hi hg r0 h0 n (x + 1) _ (by omega) (by omega) ?_
        simp only [smTo]
        rw [if_pos hc]; omega
    · rw [if_neg hc]
      refine pickF_some M g hp hi hg r0 h0 n (x + 1) _ (by omega) hr ?_
      simp only [smTo]
      rw [if_neg hc]; exact he
/-- The exchange without own coats with a rank, behind a beginning. -/
def unrF (g : Nat) : Nat → List Int → Int → List Int
  | 0, M, _ => M
  | n + 1, M, r => match pickF M g M.length g 0 r with
    | some (x, s) => unrF g n (M ++ [(x : Int)]) s
    | none => M
/-- How many come before a list, from its place k on. -/
def befF (L : List Int) (g : Nat) : Nat → Nat → Int → Int
  | 0, _, a => a
  | n + 1, k, a => if L.getD k 0 = k then a + smTo (L.take k) g k (L.getD k 0).toNat else befF L g n (k + 1) (a + smTo (L.take k) g k (L.getD k 0).toNat)
def befR (L : List Int) : Int := befF L L.length L.length 0 0
end Go.Am
namespace Go.Proofs.Ytgjlaajkakecpaa
variable [Go.Am.CodeBlk]
open Go.Am
attribute [local irreducible] AW Outs Weak Lends Lend Sp aops atree aop1 Then Round InBlock Done
theorem chz_le : ∀ n < 13, ∀ k < n + 1, ∀ j < k + 1, (0 ≤ chz n k j ∧ chz n k j ≤ 1000) ∧ 0 ≤ chz n k j * ((n : Int) - k + ((j : Int) + 1)) ∧ chz n k j * ((n : Int) - k + ((j : Int) + 1)) ≤ 100000 := by decide +kernel
theorem exChoose_spec (n k : Nat) (hn : n ≤ 12) (hk : k ≤ n) : Sp Try.prog 54 [.i n, .i k] (.i (chz n k k)) := by
  refine spec_of Try.func54 rfl cc54 rfl ?_
  unfold ac54
  repeat (first | (refine step_ops ?_; (refine m_mov (by conv => lhs; whnf) ?_)) | refine end_ops ?_ | refine seq_ops ?_ | refine AW_seq ?_ | refine AW_block ?_)
  refine AW_loop (α := Nat) (fun j => j ≤ k) (fun j => st [(0, .i n), (1, .i k), (5, .i (chz n k j)), (6, .i ((j : Int) + 1))] []) (fun j => k - j) 0 (by omega) (weak_st ?_ ?_ rfl rfl) ?_
  · (repeat' (first | exact trivial | refine And.intro ?_ ?_)) <;> (first | rfl | skip)
  · trivial
  intro j hj
  have hb := chz_le n (by omega) k (by omega) j (by omega)
  by_cases hc : (j : Int) + 1 ≤ k
  · repeat (first | (refine step_ops ?_; (first | (refine m_mov (by conv => lhs; whnf) ?_) | (refine m_leq rfl rfl ?_) | (refine m_add rfl rfl ?_ ?_ ?_; (· omega); (· omega)) | (refine m_sub rfl rfl ?_ ?_ ?_; (· omega); (· omega)) | (refine m_mul rfl rfl ?_ ?_ ?_; (· first | omega | (simp; done)); (· first | omega | (simp; done))) | (refine m_quo rfl rfl ?_ ?_ ?_ ?_; (· omega); (· omega); (· omega)))) | refine end_ops ?_ | refine seq_ops ?_ | refine AW_ops ?_ | (refine cond_t rfl ?_ ?_; (· first | rfl | assumption | (refine decide_eq_true ?_; first | assumption | omega) | (refine nt ?_; first | assumption | omega) | (simp [*]; done))) | refine skip_then ?_ | refine AW_seq ?_ | refine norm_then ?_ | refine AW_block ?_ | refine norm_block ?_)
    refine next_round (j + 1) (by omega) (weak_st ?_ ?_ rfl rfl) ?_
    · (repeat' (first | exact trivial | refine And.intro ?_ ?_)) <;> (first | rfl | skip)
    · trivial
    · omega
  · repeat (first | (refine step_ops ?_; (first | (refine m_mov (by conv => lhs; whnf) ?_) | (refine m_leq rfl rfl ?_))) | refine end_ops ?_ | refine seq_ops ?_ | (refine cond_f rfl ?_ ?_; (· first | rfl | assumption | (refine decide_eq_false ?_; first | assumption | omega) | (refine nf ?_; first | assumption | omega) | (simp [*]; done))) | refine AW_seq ?_ | refine AW_ret ?_ | refine ret_done ?_ | refine norm_then ?_ | refine exit_then ?_ | refine exit_round ?_ | refine AW_exit ?_ | refine exit_block ?_)
    obtain rfl : j = k := by omega
    exact outs_i rfl
end Go.Proofs.Ytgjlaajkakecpaa
namespace Go.Proofs.Ytgjlaajkakecpaa
variable [Go.Am.CodeBlk]
open Go.Am
attribute [local irreducible] AW Outs Weak Lends Lend Sp aops atree aop1 Then Round InBlock Done
theorem exLeft_spec (M : List Int) (g : Nat) (hM : M.length ≤ g) (hg : g ≤ 12) : Sp Try.prog 58 [ints M, .i g] (.i (lft M g)) := by
  refine spec_of Try.func58 rfl cc58 rfl ?_
  unfold ac58
  repeat (first | (refine step_ops ?_; (first | (refine m_mov (by conv => lhs; whnf) ?_) | (refine m_len_ro rfl ?_))) | refine end_ops ?_ | refine seq_ops ?_ | refine AW_seq ?_ | refine AW_block ?_)
  refine AW_loop (α := Nat) (fun k => k ≤ g - M.length) (fun k => st [(0, ints M), (1, .i g), (5, .i (freeTo M M.length k : Nat)), (6, .i (M.length + k : Nat))] []) (fun k => g - M.length - k) 0 (by omega) (weak_st ?_ ?_ rfl rfl) ?_
  · (repeat' (first | exact trivial | refine And.intro ?_ ?_)) <;> (first | rfl | skip)
  · trivial
  intro k hk
  have hs := freeTo_succ M M.length k
  have hfl := freeTo_le M M.length k
  by_cases hc : M.length + k < g
  · by_cases hm : ((M.length + k : Nat) : Int) ∈ M
    · repeat (first | (refine step_ops ?_; (first | (refine m_mov (by conv => lhs; whnf) ?_) | (refine m_lss rfl rfl ?_))) | refine end_ops ?_ | refine seq_ops ?_ | (refine cond_t rfl ?_ ?_; (· first | rfl | assumption | (refine decide_eq_true ?_; first | assumption | omega) | (refine nt ?_; first | assumption | omega) | (simp [*]; done))) | refine skip_then ?_ | refine AW_seq ?_ | refine AW_block ?_)
      (refine step_ops ?_); (apply m_call (l1Has_spec M _ (by omega))); (· repeat (first | exact lends_nil | (refine lends_cons ?_ ?_; (· (first | exact lend_v | (refine lend_ints ?_; first | rfl | omega))))))
      repeat (first | (refine step_ops ?_; (first | (refine m_mov (by conv => lhs; whnf) ?_) | (refine m_add rfl rfl ?_ ?_ ?_; (· omega); (· omega)) | (refine m_not rfl ?_))) | refine end_ops ?_ | refine AW_ops ?_ | (refine cond_f rfl ?_ ?_; (· first | rfl | assumption | (refine decide_eq_false ?_; first | assumption | omega) | (refine nf ?_; first | assumption | omega) | (simp [*]; done))) | refine norm_then ?_ | refine norm_block ?_ | refine AW_skip ?_)
      refine next_round (k + 1) (by omega) (weak_st ?_ ?_ rfl rfl) ?_
      · rw [hs, if_neg (fun h => h hm)]
        (repeat' (first | exact trivial | refine And.intro ?_ ?_)) <;> (first | rfl | skip)
      · trivial
      · omega
    · repeat (first | (refine step_ops ?_; (first | (refine m_mov (by conv => lhs; whnf) ?_) | (refine m_lss rfl rfl ?_))) | refine end_ops ?_ | refine seq_ops ?_ | (refine cond_t rfl ?_ ?_; (· first | rfl | assumption | (refine decide_eq_true ?_; first | assumption | omega) | (refine nt ?_; first | assumption | omega) | (simp [*]; done))) | refine skip_then ?_ | refine AW_seq ?_ | refine AW_block ?_)
      (refine step_ops ?_); (apply m_call (l1Has_spec M _ (by omega))); (· repeat (first | exact lends_nil | (refine lends_cons ?_ ?_; (· (first | exact lend_v | (refine lend_ints ?_; first | rfl | omega))))))
      repeat (first | (refine step_ops ?_; (first | (refine m_mov (by conv => lhs; whnf) ?_) | (refine m_add rfl rfl ?_ ?_ ?_; (· omega); (· omega)) | (refine m_not rfl ?_))) | refine end_ops ?_ | refine AW_ops ?_ | (refine cond_t rfl ?_ ?_; (· first | rfl | assumption | (refine decide_eq_true ?_; first | assumption | omega) | (refine nt ?_; first | assumption | omega) | (simp [*]; done))) | refine norm_then ?_ | refine norm_block ?_)
      refine next_round (k + 1) (by omega) (weak_st ?_ ?_ rfl rfl) ?_
      · rw [hs, if_pos hm]
        (repeat' (first | exact trivial | refine And.intro ?_ ?_)) <;> (first | rfl | skip)
      · trivial
      · omega
  · repeat (first | (refine step_ops ?_; (first | (refine m_mov (by conv => lhs; whnf) ?_) | (refine m_lss rfl rfl ?_) | (refine m_sub rfl rfl ?_ ?_ ?_; (· omega); (· omega)) | (refine m_len_ro rfl ?_))) | refine end_ops ?_ | refine seq_ops ?_ | (refine cond_f rfl ?_ ?_; (· first | rfl | assumption | (refine decide_eq_false ?_; first | assumption | omega) | (refine nf ?_; first | assumption | omega) | (simp [*]; done))) | refine AW_seq ?_ | refine norm_then ?_ | refine exit_then ?_ | refine AW_block ?_ | refine exit_round ?_ | refine AW_exit ?_ | refine exit_block ?_)
    obtain rfl : k = g - M.length := by omega
    have e0 : (g : Int) - (M.length : Int) = ((g - M.length : Nat) : Int) := by omega
    rw [e0]
    generalize hl : g - M.length = l at *
    generalize hb : freeTo M M.length l = b at *
    have htab := inx_table l (by omega) b (by omega)
    refine AW_loop (α := Nat) (fun k => k ≤ b + 1) (fun k => st [(5, .i b), (7, .i l), (8, .i (inx b l k)), (9, .i k)] []) (fun k => b + 1 - k) 0 (by omega) (weak_st ?_ ?_ rfl rfl) ?_
    · (repeat' (first | exact trivial | refine And.intro ?_ ?_)) <;> (first | rfl | skip)
    · trivial
    intro k hk
    by_cases hc : k ≤ b
    · have h1 := inx_le l (by omega) b (by omega) k (by omega)
      have e1 : (l : Int) - (k : Int) = ((l - k : Nat) : Int) := by omega
      by_cases hp : k % 2 = 0
      · have hp' : (k : Int) % 2 = 0 := by omega
        have e2 : inx b l (k + 1) = inx b l k + chz b k k * fac (l - k) := by simp only [inx, hp, if_true]
        repeat (first | (refine step_ops ?_; (first | (refine m_mov (by conv => lhs; whnf) ?_) | (refine m_leq rfl rfl ?_))) | refine end_ops ?_ | refine seq_ops ?_ | (refine cond_t rfl ?_ ?_; (· first | rfl | assumption | (refine decide_eq_true ?_; first | assumption | omega) | (refine nt ?_; first | assumption | omega) | (simp [*]; done))) | refine skip_then ?_ | refine AW_seq ?_ | refine AW_block ?_)
        (refine step_ops ?_); (apply m_call (exChoose_spec b k (by omega) hc)); (· repeat (first | exact lends_nil | (refine lends_cons ?_ ?_; (· exact lend_v))))
        repeat (refine step_ops ?_; (first | (refine m_mov (by conv => lhs; whnf) ?_) | (refine m_sub rfl rfl ?_ ?_ ?_; (· omega); (· omega))))
        rw [e1]
        (refine step_ops ?_); (apply m_call (exTimes_spec (l - k) (by omega))); (· repeat (first | exact lends_nil | (refine lends_cons ?_ ?_; (· exact lend_v))))
        repeat (first | (refine step_ops ?_; (first | (refine m_mov (by conv => lhs; whnf) ?_) | (refine m_eql rfl rfl ?_) | (refine m_add rfl rfl ?_ ?_ ?_; (· omega); (· omega)) | (refine m_mul rfl rfl ?_ ?_ ?_; (· first | omega | (simp; done)); (· first | omega | (simp; done))) | (refine m_rem rfl rfl ?_ ?_ ?_; (· omega); (· omega)))) | refine end_ops ?_ | refine seq_ops ?_ | refine AW_ops ?_ | (refine cond_t rfl ?_ ?_; (· first | rfl | assumption | (refine decide_eq_true ?_; first | assumption | omega) | (refine nt ?_; first | assumption | omega) | (simp [*]; done))) | refine norm_then ?_ | refine norm_block ?_)
        refine next_round (k + 1) (by omega) (weak_st ?_ ?_ rfl rfl) ?_
        · rw [e2]
          (repeat' (first | exact trivial | refine And.intro ?_ ?_)) <;> (first | rfl | skip)
        · trivial
        · omega
      · have hp' : ¬ (k : Int) % 2 = 0 := by omega
        have e2 : inx b l (k + 1) = inx b l k - chz b k k * fac (l - k) := by simp only [inx, hp, if_false]
        repeat (first | (refine step_ops ?_; (first | (refine m_mov (by conv => lhs; whnf) ?_) | (refine m_leq rfl rfl ?_))) | refine end_ops ?_ | refine seq_ops ?_ | (refine cond_t rfl ?_ ?_; (· first | rfl | assumption | (refine decide_eq_true ?_; first | assumption | omega) | (refine nt ?_; first | assumption | omega) | (simp [*]; done))) | refine skip_then ?_ | refine AW_seq ?_ | refine AW_block ?_)
        (refine step_ops ?_); (apply m_call (exChoose_spec b k (by omega) hc)); (· repeat (first | exact lends_nil | (refine lends_cons ?_ ?_; (· exact lend_v))))
        repeat (refine step_ops ?_; (first | (refine m_mov (by conv => lhs; whnf) ?_) | (refine m_sub rfl rfl ?_ ?_ ?_; (· omega); (· omega))))
        rw [e1]
        (refine step_ops ?_); (apply m_call (exTimes_spec (l - k) (by omega))); (· repeat (first | exact lends_nil | (refine lends_cons ?_ ?_; (· exact lend_v))))
        repeat (first | (refine step_ops ?_; (first | (refine m_mov (by conv => lhs; whnf) ?_) | (refine m_eql rfl rfl ?_) | (refine m_add rfl rfl ?_ ?_ ?_; (· omega); (· omega)) | (refine m_sub rfl rfl ?_ ?_ ?_; (· omega); (· omega)) | (refine m_mul rfl rfl ?_ ?_ ?_; (· first | omega | (simp; done)); (· first | omega | (simp; done))) | (refine m_rem rfl rfl ?_ ?_ ?_; (· omega); (· omega)))) | refine end_ops ?_ | refine seq_ops ?_ | refine AW_ops ?_ | (refine cond_f rfl ?_ ?_; (· first | rfl | assumption | (refine decide_eq_false ?_; first | assumption | omega) | (refine nf ?_; first | assumption | omega) | (simp [*]; done))) | refine norm_then ?_ | refine norm_block ?_)
        refine next_round (k + 1) (by omega) (weak_st ?_ ?_ rfl rfl) ?_
        · rw [e2]
          (repeat' (first | exact trivial | refine And.intro ?_ ?_)) <;> (first | rfl | skip)
        · trivial
        · omega
    · repeat (first | (refine step_ops ?_; (first | (refine m_mov (by conv => lhs; whnf) ?_) | (refine m_leq rfl rfl ?_))) | refine end_ops ?_ | refine seq_ops ?_ | (refine cond_f rfl ?_ ?_; (· first | rfl | assumption | (refine decide_eq_false ?_; first | assumption | omega) | (refine nf ?_; first | assumption | omega) | (simp [*]; done))) | refine AW_seq ?_ | refine AW_ret ?_ | refine ret_done ?_ | refine norm_then ?_ | refine exit_then ?_ | refine exit_round ?_ | refine AW_exit ?_ | refine exit_block ?_)
      obtain rfl : k = b + 1 := by omega
      refine outs_i ?_
      rw [htab.1, lft, hl, hb]
/-- A rack from which the coats of M are taken. -/
def takenB (M : List Int) : List Bool := (List.range 12).map fun (i : Nat) => decide ((i : Int) ∈ M)
def rackV (g : Nat) (M : List Int) : List AV := .i g :: (takenB M).map AV.b
theorem rackV_len (g : Nat) (M : List Int) : (rackV g M).length = 13 := by simp [rackV, takenB]
theorem rackV_plain (g : Nat) (M : List Int) : (rackV g M).all plainV = true := by simp [rackV, plainV]
theorem rackV_ok (g : Nat) (M : List Int) (fl : Bool) : (rackV g M).all (cellOk fl) = true := by simp [rackV, cellOk, Value.oneCell']
theorem rackV_get (g : Nat) (M : List Int) (j : Nat) (h : j < 12) : (rackV g M)[0 + 1 + j]? = some (.b (decide ((j : Int) ∈ M))) := by
  rw [show 0 + 1 + j = j + 1 by omega, rackV, List.getElem?_cons_succ]
  simp [takenB, h]
theorem rackV_set (g : Nat) (M : List Int) (j : Nat) (h : j < 12) : (rackV g M).set (0 + 1 + j) (.b true) = rackV g (M ++ [(j : Int)]) := by
  rw [show 0 + 1 + j = j + 1 by omega, rackV, rackV, List.set_cons_succ]
  congr 1
  rw [show AV.b true = AV.b (true) from rfl, ← List.map_set]
  congr 1
  apply List.ext_getElem?
  intro k
  rw [List.getElem?_set]
  by_cases hk : k < 12
  · by_cases hjk : j = k
    · subst hjk
      simp [takenB, h]
    · have : ¬ (k : Int) = (j : Int) := by omega
      simp [takenB, hk, hjk, this]
  · by_cases hjk : j = k
    · omega
    · simp [takenB, hk, hjk]
theorem rackV_nil (g : Nat) : rackV g [] = [.i g, .b false, .b false, .b false, .b false, .b false, .b false, .b false, .b false, .b false, .b false, .b false, .b false] := by
  simp [rackV, takenB, List.range_succ]
theorem canTake_spec (g : Nat) (M : List Int) (i x : Nat) (hx : x < 12) : Sp Try.prog 40 [.agg (rackV g M), .i i, .i x] (.b (decide (MayTake M i x))) := by
  have hok := rackV_ok g M true
  have hget := rackV_get g M x hx
  refine spec_of Try.func40 rfl cc40 rfl ?_
  unfold ac40
  repeat (first | (refine step_ops ?_; (first | (refine m_mov (by conv => lhs; whnf) ?_) | (refine m_neq rfl rfl ?_) | (refine m_box rfl ?_ ?_; (· first | rfl | (simp [cellOk, Value.oneCell']; done))))) | refine end_ops ?_ | refine seq_ops ?_)
  by_cases h : x = i
  · have h' : ¬ ((x : Int) ≠ (i : Int)) := by omega
    repeat (first | (refine step_ops ?_; (first | (first | (refine m_mov (by conv => lhs; whnf) ?_) | (refine m_pick_f rfl ?_ (by conv => lhs; whnf) ?_; (· first | rfl | assumption | (refine decide_eq_false ?_; first | assumption | omega) | (refine nf ?_; first | assumption | omega) | (simp [*]; done)))) | (refine g_noT rfl ?_ ?_; (· first | rfl | assumption | (refine decide_eq_false ?_; first | assumption | omega) | (refine nf ?_; first | assumption | omega) | (simp [*]; done))))) | refine end_ops ?_ | refine AW_ret ?_ | refine ret_done ?_)
    refine outs_b ?_
    symm
    exact decide_eq_false fun hh => hh.1 h
  · have h' : (x : Int) ≠ (i : Int) := by omega
    repeat (refine step_ops ?_; ((try (refine g_yes rfl ?_ ?_; (· first | rfl | assumption | (refine decide_eq_true ?_; first | assumption | omega) | (refine nt ?_; first | assumption | omega) | (simp [*]; done) | (refine decide_eq_false ?_; first | assumption | omega) | (refine nf ?_; first | assumption | omega)))); (first | (refine m_mov (by conv => lhs; whnf) ?_) | (refine m_arro rfl rfl ?_ ?_; (· omega)) | (refine m_fa rfl ?_))))
    refine step_ops ?_
    refine g_yes rfl (decide_eq_true h') ?_
    refine m_ld_pt rfl rfl hget ?_
    repeat (first | (refine step_ops ?_; ((try (refine g_yes rfl ?_ ?_; (· first | rfl | assumption | (refine decide_eq_true ?_; first | assumption | omega) | (refine nt ?_; first | assumption | omega) | (simp [*]; done) | (refine decide_eq_false ?_; first | assumption | omega) | (refine nf ?_; first | assumption | omega)))); (first | (refine m_mov (by conv => lhs; whnf) ?_) | (refine m_not rfl ?_) | (refine m_pick_t rfl ?_ (by conv => lhs; whnf) ?_; (· first | rfl | assumption | (refine decide_eq_true ?_; first | assumption | omega) | (refine nt ?_; first | assumption | omega) | (simp [*]; done)))))) | refine end_ops ?_ | refine AW_ret ?_ | refine ret_done ?_)
    refine outs_b ?_
    unfold MayTake
    simp [h]
theorem without_spec (g : Nat) (M : List Int) (x : Nat) (hx : x < 12) : Sp Try.prog 41 [.agg (rackV g M), .i x] (.agg (rackV g (M ++ [(x : Int)]))) := by
  have hok := rackV_ok g M true
  refine specC_of Try.func41 rfl cc41 (by rfl) ?_
  unfold ac41
  repeat (first | (refine step_ops ?_; (first | (refine m_mov (by conv => lhs; whnf) ?_) | (refine m_arro rfl rfl ?_ ?_; (· omega)) | (refine m_alloc ?_) | (refine m_fa rfl ?_) | (refine m_box rfl ?_ ?_; (· first | rfl | (simp [cellOk, Value.oneCell']; done))))) | refine end_ops ?_ | refine seq_ops ?_)
  have hlen := rackV_len g M
  have hlen2 := rackV_len g (M ++ [(x : Int)])
  refine step_ops ?_
  refine m_st (v := .b true) (by rfl) (by rfl) (by rfl) ?_ ?_ ?_
  · omega
  · rfl
  rw [rackV_set g M x hx]
  have hok2 := rackV_ok g (M ++ [(x : Int)]) true
  repeat (first | (refine step_ops ?_; (first | (refine m_ldall rfl rfl ?_ ?_; (· first | rfl | (simp; done) | (simp [*]; done))) | (refine m_stall rfl rfl rfl ?_ ?_ ?_ ?_; (· first | rfl | (simp [*]; done)); (· first | rfl | (simp [*]; done)); (· first | rfl | (simp [cellOk, Value.oneCell']; done))))) | refine end_ops ?_ | refine seq_ops ?_ | refine AW_ret ?_)
  refine ret_donec rfl rfl hlen2 (outs_agg (rackV_plain _ _))
theorem countNone_spec (g : Nat) (M : List Int) (a : Nat) (ha : a ≤ g) (hg : g ≤ 12) : Sp Try.prog 42 [.agg (rackV g M), .i a] (.i (apD (g - a) (freeTo M a (g - a)))) := by
  have hok := rackV_ok g M true
  refine spec_of Try.func42 rfl cc42 rfl ?_
  unfold ac42
  repeat (first | (refine step_ops ?_; (first | (refine m_mov (by conv => lhs; whnf) ?_) | (refine m_box rfl ?_ ?_; (· first | rfl | (simp [cellOk, Value.oneCell']; done))))) | refine end_ops ?_ | refine seq_ops ?_ | refine AW_seq ?_ | refine AW_block ?_)
  refine AW_loop (α := Nat) (fun k => k ≤ g - a) (fun k => st [(1, .i a), (2, .pt 2 0), (5, .i (freeTo M a k : Nat)), (6, .i (a + k : Nat))] [(2, (true, rackV g M))]) (fun k => g - a - k) 0 (by omega) (weak_st ?_ ?_ rfl rfl) ?_
  · (repeat' (first | exact trivial | refine And.intro ?_ ?_)) <;> (first | rfl | skip)
  · exact ⟨rfl, trivial⟩
  intro k hk
  have hs := freeTo_succ M a k
  have hfl := freeTo_le M a k
  by_cases hc : a + k < g
  · have hget := rackV_get g M (a + k) (by omega)
    by_cases hm : ((a + k : Nat) : Int) ∈ M
    · repeat (first | (refine step_ops ?_; (first | (refine m_mov (by conv => lhs; whnf) ?_) | (refine m_lss rfl rfl ?_) | (refine m_arro rfl rfl ?_ ?_; (· omega)) | (apply m_ld_pt; (· rfl); (· rfl); (· rfl)) | (refine m_fa rfl ?_))) | refine end_ops ?_ | refine seq_ops ?_ | (refine cond_t rfl ?_ ?_; (· first | rfl | assumption | (refine decide_eq_true ?_; first | assumption | omega) | (refine nt ?_; first | assumption | omega) | (simp [*]; done))) | refine skip_then ?_ | refine AW_seq ?_ | refine AW_block ?_)
      refine step_ops ?_
      refine m_ld_pt rfl rfl hget ?_
      repeat (first | (refine step_ops ?_; (first | (refine m_mov (by conv => lhs; whnf) ?_) | (refine m_add rfl rfl ?_ ?_ ?_; (· omega); (· omega)) | (refine m_not rfl ?_))) | refine end_ops ?_ | refine AW_ops ?_ | (refine cond_f rfl ?_ ?_; (· first | rfl | assumption | (refine decide_eq_false ?_; first | assumption | omega) | (refine nf ?_; first | assumption | omega) | (simp [*]; done))) | refine norm_then ?_ | refine norm_block ?_ | refine AW_skip ?_)
      refine next_round (k + 1) (by omega) (weak_st ?_ ?_ rfl rfl) ?_
      · rw [hs, if_neg (fun h => h hm)]
        (repeat' (first | exact trivial | refine And.intro ?_ ?_)) <;> (first | rfl | skip)
      · exact ⟨rfl, trivial⟩
      · omega
    · repeat (first | (refine step_ops ?_; (first | (refine m_mov (by conv => lhs; whnf) ?_) | (refine m_lss rfl rfl ?_) | (refine m_arro rfl rfl ?_ ?_; (· omega)) | (apply m_ld_pt; (· rfl); (· rfl); (· rfl)) | (refine m_fa rfl ?_))) | refine end_ops ?_ | refine seq_ops ?_ | (refine cond_t rfl ?_ ?_; (· first | rfl | assumption | (refine decide_eq_true ?_; first | assumption | omega) | (refine nt ?_; first | assumption | omega) | (simp [*]; done))) | refine skip_then ?_ | refine AW_seq ?_ | refine AW_block ?_)
      refine step_ops ?_
      refine m_ld_pt rfl rfl hget ?_
      repeat (first | (refine step_ops ?_; (first | (refine m_mov (by conv => lhs; whnf) ?_) | (refine m_add rfl rfl ?_ ?_ ?_; (· omega); (· omega)) | (refine m_not rfl ?_))) | refine end_ops ?_ | refine AW_ops ?_ | (refine cond_t rfl ?_ ?_; (· first | rfl | assumption | (refine decide_eq_true ?_; first | assumption | omega) | (refine nt ?_; first | assumption | omega) | (simp [*]; done))) | refine norm_then ?_ | refine norm_block ?_)
      refine next_round (k + 1) (by omega) (weak_st ?_ ?_ rfl rfl) ?_
      · rw [hs, if_pos hm]
        (repeat' (first | exact trivial | refine And.intro ?_ ?_)) <;> (first | rfl | skip)
      · exact ⟨rfl, trivial⟩
      · omega
  · repeat (first | (refine step_ops ?_; (first | (refine m_mov (by conv => lhs; whnf) ?_) | (refine m_lss rfl rfl ?_) | (refine m_sub rfl rfl ?_ ?_ ?_; (· omega); (· omega)) | (apply m_ld_pt; (· rfl); (· rfl); (· rfl)) | (refine m_fa rfl ?_))) | refine end_ops ?_ | refine seq_ops ?_ | (refine cond_f rfl ?_ ?_; (· first | rfl | assumption | (refine decide_eq_false ?_; first | assumption | omega) | (refine nf ?_; first | assumption | omega) | (simp [*]; done))) | refine AW_seq ?_ | refine norm_then ?_ | refine exit_then ?_ | refine exit_round ?_ | refine AW_exit ?_ | refine exit_block ?_)
    obtain rfl : k = g - a := by omega
    have e0 : (g : Int) - (a : Int) = ((g - a : Nat) : Int) := by omega
    rw [e0]
    (refine step_ops ?_); (apply m_call (countApart_spec (g - a) (freeTo M a (g - a)) (by omega) (by omega))); (· repeat (first | exact lends_nil | (refine lends_cons ?_ ?_; (· exact lend_v))))
    repeat (first | (refine step_ops ?_; (refine m_mov (by conv => lhs; whnf) ?_)) | refine end_ops ?_ | refine AW_ret ?_ | refine ret_done ?_)
    exact outs_i rfl
end Go.Proofs.Ytgjlaajkakecpaa
namespace Go.Proofs.Ytgjlaajkakecpaa
variable [Go.Am.CodeBlk]
open Go.Am
attribute [local irreducible] AW Outs Weak Lends Lend Sp aops atree aop1 Then Round InBlock Done
theorem l1Own_spec (L : List Int) (hL : L.length ≤ 1048576) : Sp Try.prog 59 [ints L] (newInts L) := by
  refine spec_of Try.func59 rfl cc59 rfl ?_
  unfold ac59
  repeat (first | (refine step_ops ?_; (first | (refine m_mov (by conv => lhs; whnf) ?_) | (refine m_nils ?_) | (refine m_bsl0 ?_) | (refine m_appro rfl (by decide) rfl (by first | rfl | (simp; done) | (simp [*]; done) | (simp; omega)) rfl (oks_ints _) ?_ (by decide) ?_; (· first | omega | (simp; omega))))) | refine end_ops ?_ | refine seq_ops ?_ | refine AW_ret ?_ | refine ret_done ?_)
  exact outs_ints rfl rfl (Nat.zero_add _)
end Go.Proofs.Ytgjlaajkakecpaa
namespace Go.Proofs.Ytgjlaajkakecpaa
variable [Go.Am.CodeBlk]
open Go.Am
attribute [local irreducible] AW Outs Weak Lends Lend Sp aops atree aop1 Then Round InBlock Done
/-- Those of the first k guests who have their own coats. -/
def ownList (L : List Int) (k : Nat) : List Int := ((List.range k).filter fun (i : Nat) => decide (L.getD i 0 = i)).map fun (i : Nat) => (i : Int)
theorem ownList_yes {L : List Int} {k : Nat} (h : L.getD k 0 = k) : ownList L (k + 1) = ownList L k ++ [(k : Int)] := by
  unfold ownList; rw [List.range_succ, List.filter_append, List.map_append, List.filter_cons_of_pos (p := fun (i : Nat) => decide (L.getD i 0 = (i : Int))) (a := k) (decide_eq_true h)]; rfl
theorem ownList_no {L : List Int} {k : Nat} (h : ¬ L.getD k 0 = k) : ownList L (k + 1) = ownList L k := by
  unfold ownList; rw [List.range_succ, List.filter_append, List.map_append, List.filter_cons_of_neg (p := fun (i : Nat) => decide (L.getD i 0 = (i : Int))) (a := k) (fun e => h (of_decide_eq_true e))]; simp
theorem ownList_le (L : List Int) (k : Nat) : (ownList L k).length ≤ k := by
  unfold ownList; rw [List.length_map]; exact Nat.le_trans (List.length_filter_le ..) (by simp)
theorem exOwn_spec (L : List Int) (hL : L.length ≤ 1048576) : Sp Try.prog 34 [ints L] (newInts (ownList L L.length)) := by
  refine spec_of Try.func34 rfl cc34 rfl ?_
  unfold ac34
  repeat (first | (refine step_ops ?_; (first | (refine m_mov (by conv => lhs; whnf) ?_) | (refine m_len_ro rfl ?_) | (refine m_nils ?_))) | refine end_ops ?_ | refine seq_ops ?_ | refine AW_seq ?_ | refine AW_block ?_)
  refine AW_loop (α := Nat × Nat) (fun a => a.1 ≤ L.length ∧ (a.2 = 3 ∨ a.2 = 19)) (fun a => st [(6, ints L), (7, .i L.length), (8, .i a.1), (3, .sl a.2 1 0 (ownList L a.1).length)] [(a.2, (true, (ownList L a.1).map AV.i))]) (fun a => L.length - a.1) (0, 3) (by simp) (weak_st ?_ ?_ rfl rfl) ?_
  · (repeat' (first | exact trivial | refine And.intro ?_ ?_)) <;> (first | rfl | skip)
  · exact ⟨rfl, trivial⟩
  rintro ⟨k, r⟩ ⟨hk, hr⟩
  have hn := ownList_le L k
  simp only at hk hr
  rcases hr with rfl | rfl
  all_goals
    dsimp only
    by_cases h : k < L.length
    · by_cases hx : L.getD k 0 = k
      · repeat (first | (refine step_ops ?_; (first | (refine m_mov (by conv => lhs; whnf) ?_) | (refine m_lss rfl rfl ?_) | (refine m_eql rfl rfl ?_) | (refine m_add rfl rfl ?_ ?_ ?_; (· omega); (· omega)) | (refine m_idx1_ro rfl rfl ?_ ?_; (· omega)) | (refine m_ld_rpi rfl ?_ ?_; (· omega)) | (refine m_bsl1 rfl rfl ?_) | (refine m_app1i rfl (by decide) (by rfl) (by first | rfl | omega | (simp; done)) rfl rfl ?_ (by decide) ?_; (· first | omega | (simp; omega))))) | refine end_ops ?_ | refine seq_ops ?_ | refine AW_ops ?_ | (refine cond_t rfl ?_ ?_; (· first | rfl | assumption | (refine decide_eq_true ?_; first | assumption | omega) | (refine nt ?_; first | assumption | omega) | (simp [*]; done))) | refine skip_then ?_ | refine AW_seq ?_ | refine norm_then ?_ | refine AW_block ?_ | refine norm_block ?_)
        refine next_round (k + 1, 19) ⟨by omega, .inr rfl⟩ (weak_st ?_ ?_ rfl rfl) ?_
        · refine ⟨rfl, rfl, rfl, ?_, trivial⟩
          show AV.sl 19 1 0 (ownList L k ++ [(k : Int)]).length = AV.sl 19 1 0 (ownList L (k + 1)).length
          rw [ownList_yes hx]
        · refine ⟨?_, trivial⟩
          show some (true, (ownList L k ++ [(k : Int)]).map AV.i) = some (true, (ownList L (k + 1)).map AV.i)
          rw [ownList_yes hx]
        · omega
      · repeat (first | (refine step_ops ?_; (first | (refine m_mov (by conv => lhs; whnf) ?_) | (refine m_lss rfl rfl ?_) | (refine m_eql rfl rfl ?_) | (refine m_add rfl rfl ?_ ?_ ?_; (· omega); (· omega)) | (refine m_idx1_ro rfl rfl ?_ ?_; (· omega)) | (refine m_ld_rpi rfl ?_ ?_; (· omega)))) | refine end_ops ?_ | refine seq_ops ?_ | refine AW_ops ?_ | (refine cond_t rfl ?_ ?_; (· first | rfl | assumption | (refine decide_eq_true ?_; first | assumption | omega) | (refine nt ?_; first | assumption | omega) | (simp [*]; done))) | (refine cond_f rfl ?_ ?_; (· first | rfl | assumption | (refine decide_eq_false ?_; first | assumption | omega) | (refine nf ?_; first | assumption | omega) | (simp [*]; done))) | refine skip_then ?_ | refine AW_seq ?_ | refine norm_then ?_ | refine AW_block ?_ | refine norm_block ?_ | refine AW_skip ?_)
        first
        | (refine next_round (k + 1, 3) ⟨by omega, .inl rfl⟩ (weak_st ?_ ?_ rfl rfl) ?_
           · exact ⟨rfl, rfl, rfl, by show _ = AV.sl 3 1 0 (ownList L (k + 1)).length; rw [ownList_no hx]; rfl, trivial⟩
           · exact ⟨by show _ = some (true, (ownList L (k + 1)).map AV.i); rw [ownList_no hx]; rfl, trivial⟩
           · omega)
        | (refine next_round (k + 1, 19) ⟨by omega, .inr rfl⟩ (weak_st ?_ ?_ rfl rfl) ?_
           · exact ⟨rfl, rfl, rfl, by show _ = AV.sl 19 1 0 (ownList L (k + 1)).length; rw [ownList_no hx]; rfl, trivial⟩
           · exact ⟨by show _ = some (true, (ownList L (k + 1)).map AV.i); rw [ownList_no hx]; rfl, trivial⟩
           · omega)
    · repeat (first | (refine step_ops ?_; (first | (refine m_mov (by conv => lhs; whnf) ?_) | (refine m_lss rfl rfl ?_))) | refine end_ops ?_ | refine seq_ops ?_ | (refine cond_f rfl ?_ ?_; (· first | rfl | assumption | (refine decide_eq_false ?_; first | assumption | omega) | (refine nf ?_; first | assumption | omega) | (simp [*]; done))) | refine AW_seq ?_ | refine AW_ret ?_ | refine ret_done ?_ | refine norm_then ?_ | refine exit_then ?_ | refine exit_round ?_ | refine AW_exit ?_ | refine exit_block ?_)
      obtain rfl : k = L.length := by omega
      exact outs_ints rfl rfl rfl
end Go.Proofs.Ytgjlaajkakecpaa
namespace Go.Proofs.Ytgjlaajkakecpaa
variable [Go.Am.CodeBlk]
open Go.Am
attribute [local irreducible] AW Outs Weak Lends Lend Sp aops atree aop1 Then Round InBlock Done
theorem ex_get {L : List Int} (h : IsEx L) {k : Nat} (hk : k < L.length) : ∃ x : Nat, L.getD k 0 = x ∧ x < L.length := by
  have hr := h.2.2.1 _ (getD_mem hk)
  obtain ⟨x, hx⟩ := Int.eq_ofNat_of_zero_le hr.1
  exact ⟨x, hx, by omega⟩
theorem bef_le (L : List Int) (h : IsEx L) (k : Nat) (hk : k < L.length) (a : Int) (h0 : 0 ≤ a) (h1 : a ≤ 5748019200 * k) :
    0 ≤ a + smTo (L.take k) L.length k (L.getD k 0).toNat ∧ a + smTo (L.take k) L.length k (L.getD k 0).toNat ≤ 5748019200 * (k + 1 : Nat) := by
  obtain ⟨x, hx, hxl⟩ := ex_get h hk
  have h12 := h.2.1
  have := smTo_le (L.take k) L.length k (L.getD k 0).toNat h12
  rw [hx, Int.toNat_natCast] at *
  omega
theorem exBefore_spec (L : List Int) (h : IsEx L) : Sp Try.prog 33 [ints L] (.i (befR L)) := by
  have h12 := h.2.1
  refine spec_of Try.func33 rfl cc33 rfl ?_
  unfold ac33
  repeat (first | (refine step_ops ?_; (first | (refine m_mov (by conv => lhs; whnf) ?_) | (refine m_len_ro rfl ?_))) | refine end_ops ?_ | refine seq_ops ?_ | refine AW_seq ?_ | refine AW_block ?_)
  refine AW_loop (α := Nat × Int) (fun q => q.1 ≤ L.length ∧ befF L L.length (L.length - q.1) q.1 q.2 = befR L ∧ 0 ≤ q.2 ∧ q.2 ≤ 5748019200 * q.1) (fun q => st [(0, ints L), (3, .i q.2), (7, ints L), (8, .i L.length), (9, .i q.1)] []) (fun q => L.length - q.1) (0, 0) ⟨by omega, rfl, by simp, by simp⟩ (weak_st ?_ ?_ rfl rfl) ?_
  · (repeat' (first | exact trivial | refine And.intro ?_ ?_)) <;> (first | rfl | skip)
  · trivial
  rintro ⟨k, a⟩ ⟨hk, hbef, ha0, ha1⟩
  dsimp only at hk hbef ha0 ha1 ⊢
  by_cases hc : k < L.length
  · obtain ⟨X, hX, hXl⟩ := ex_get h hc
    have hb := bef_le L h k hc a ha0 ha1
    obtain ⟨n, hn⟩ : ∃ n, L.length - k = n + 1 := ⟨L.length - k - 1, by omega⟩
    rw [hn, befF] at hbef
    rw [hX, Int.toNat_natCast] at hb hbef
    have hlt : (L.take k).length = k := List.length_take_of_le hk
    repeat (first | (refine step_ops ?_; (first | (refine m_mov (by conv => lhs; whnf) ?_) | (refine m_lss rfl rfl ?_) | (refine m_idx1_ro rfl rfl ?_ ?_; (· omega)) | (refine m_ld_rpi rfl ?_ ?_; (· omega)))) | refine end_ops ?_ | refine seq_ops ?_ | (refine cond_t rfl ?_ ?_; (· first | rfl | assumption | (refine decide_eq_true ?_; first | assumption | omega) | (refine nt ?_; first | assumption | omega) | (simp [*]; done))) | refine skip_then ?_ | refine AW_seq ?_ | refine AW_block ?_)
    rw [hX]
    refine AW_loop (α := Nat) (fun x => x ≤ X) (fun x => st [(0, ints L), (3, .i (a + smTo (L.take k) L.length k x)), (4, .i k), (5, .i X), (6, .i x), (7, ints L), (8, .i L.length), (9, .i k)] []) (fun x => X - x) 0 (by omega) (weak_st ?_ ?_ rfl rfl) ?_
    · refine ⟨rfl, ?_, rfl, rfl, rfl, rfl, rfl, rfl, trivial⟩
      show AV.i a = AV.i (a + smTo (L.take k) L.length k 0)
      simp [smTo]
    · trivial
    intro x hx
    have hs := smTo_le (L.take k) L.length k x h12
    have hs1 := smTo_le (L.take k) L.length k (x + 1) h12
    have hl := lft_le (L.take k ++ [(x : Int)]) L.length h12
    by_cases hcx : x < X
    · by_cases hne : x = k
      · have hne' : ¬ ((x : Int) ≠ (k : Int)) := by omega
        have e : smTo (L.take k) L.length k (x + 1) = smTo (L.take k) L.length k x := by simp only [smTo]; rw [if_neg fun hh => hh.1 hne]
        repeat (first | (refine step_ops ?_; (first | (first | (refine m_mov (by conv => lhs; whnf) ?_) | (refine m_lss rfl rfl ?_) | (refine m_neq rfl rfl ?_) | (refine m_add rfl rfl ?_ ?_ ?_; (· omega); (· omega)) | (refine m_pick_f rfl ?_ (by conv => lhs; whnf) ?_; (· first | rfl | assumption | (refine decide_eq_false ?_; first | assumption | omega) | (refine nf ?_; first | assumption | omega) | (simp [*]; done)))) | (refine g_noT rfl ?_ ?_; (· first | rfl | assumption | (refine decide_eq_false ?_; first | assumption | omega) | (refine nf ?_; first | assumption | omega) | (simp [*]; done))))) | refine end_ops ?_ | refine seq_ops ?_ | refine AW_ops ?_ | (refine cond_t rfl ?_ ?_; (· first | rfl | assumption | (refine decide_eq_true ?_; first | assumption | omega) | (refine nt ?_; first | assumption | omega) | (simp [*]; done))) | (refine cond_f rfl ?_ ?_; (· first | rfl | assumption | (refine decide_eq_false ?_; first | assumption | omega) | (refine nf ?_; first | assumption | omega) | (simp [*]; done))) | refine skip_then ?_ | refine AW_seq ?_ | refine norm_then ?_ | refine AW_block ?_ | refine norm_block ?_ | refine AW_skip ?_)
        refine next_round (x + 1) (by omega) (weak_st ?_ ?_ rfl rfl) ?_
        · rw [e]
          (repeat' (first | exact trivial | refine And.intro ?_ ?_)) <;> (first | rfl | skip)
        · trivial
        · omega
      · have hne' : (x : Int) ≠ (k : Int) := by omega
        by_cases hm : (x : Int) ∈ L.take k
        · have e : smTo (L.take k) L.length k (x + 1) = smTo (L.take k) L.length k x := by simp only [smTo]; rw [if_neg fun hh => hh.2 hm]
          repeat (first | (refine step_ops ?_; ((try (refine g_yes rfl ?_ ?_; (· first | rfl | assumption | (refine decide_eq_true ?_; first | assumption | omega) | (refine nt ?_; first | assumption | omega) | (simp [*]; done) | (refine decide_eq_false ?_; first | assumption | omega) | (refine nf ?_; first | assumption | omega)))); (first | (refine m_mov (by conv => lhs; whnf) ?_) | (refine m_lss rfl rfl ?_) | (refine m_neq rfl rfl ?_) | (refine m_cut_hi rfl rfl ?_ ?_ ?_; (· first | rfl | omega | simp); (· first | omega | (simp; omega)))))) | refine end_ops ?_ | refine seq_ops ?_ | (refine cond_t rfl ?_ ?_; (· first | rfl | assumption | (refine decide_eq_true ?_; first | assumption | omega) | (refine nt ?_; first | assumption | omega) | (simp [*]; done))) | refine skip_then ?_ | refine AW_seq ?_ | refine AW_block ?_)
          (refine step_ops ?_); (refine g_yes rfl ?_ ?_; (· first | (first | rfl | assumption | (refine decide_eq_true ?_; first | assumption | omega) | (refine nt ?_; first | assumption | omega) | (simp [*]; done)) | (first | rfl | assumption | (refine decide_eq_false ?_; first | assumption | omega) | (refine nf ?_; first | assumption | omega) | (simp [*]; done))); (apply m_call (l1Has_spec (L.take k) _ (by omega)))); (· repeat (first | exact lends_nil | (refine lends_cons ?_ ?_; (· (first | exact lend_v | (refine lend_ints ?_; first | rfl | omega))))))
          repeat (first | (refine step_ops ?_; ((try (refine g_yes rfl ?_ ?_; (· first | rfl | assumption | (refine decide_eq_true ?_; first | assumption | omega) | (refine nt ?_; first | assumption | omega) | (simp [*]; done) | (refine decide_eq_false ?_; first | assumption | omega) | (refine nf ?_; first | assumption | omega)))); (first | (refine m_mov (by conv => lhs; whnf) ?_) | (refine m_add rfl rfl ?_ ?_ ?_; (· omega); (· omega)) | (refine m_not rfl ?_) | (refine m_pick_t rfl ?_ (by conv => lhs; whnf) ?_; (· first | rfl | assumption | (refine decide_eq_true ?_; first | assumption | omega) | (refine nt ?_; first | assumption | omega) | (simp [*]; done)))))) | refine end_ops ?_ | refine AW_ops ?_ | (refine cond_f rfl ?_ ?_; (· first | rfl | assumption | (refine decide_eq_false ?_; first | assumption | omega) | (refine nf ?_; first | assumption | omega) | (simp [*]; done))) | refine norm_then ?_ | refine norm_block ?_ | refine AW_skip ?_)
          refine next_round (x + 1) (by omega) (weak_st ?_ ?_ rfl rfl) ?_
          · rw [e]
            (repeat' (first | exact trivial | refine And.intro ?_ ?_)) <;> (first | rfl | skip)
          · trivial
          · omega
        · have e : smTo (L.take k) L.length k (x + 1) = smTo (L.take k) L.length k x + lft (L.take k ++ [(x : Int)]) L.length := by simp only [smTo]; rw [if_pos ⟨hne, hm⟩]
          rw [e] at hs1
          have hll : (L.take k ++ [(x : Int)]).length = k + 1 := by rw [List.length_append, hlt]; rfl
          repeat (first | (refine step_ops ?_; ((try (refine g_yes rfl ?_ ?_; (· first | rfl | assumption | (refine decide_eq_true ?_; first | assumption | omega) | (refine nt ?_; first | assumption | omega) | (simp [*]; done) | (refine decide_eq_false ?_; first | assumption | omega) | (refine nf ?_; first | assumption | omega)))); (first | (refine m_mov (by conv => lhs; whnf) ?_) | (refine m_lss rfl rfl ?_) | (refine m_neq rfl rfl ?_) | (refine m_cut_hi rfl rfl ?_ ?_ ?_; (· first | rfl | omega | simp); (· first | omega | (simp; omega)))))) | refine end_ops ?_ | refine seq_ops ?_ | (refine cond_t rfl ?_ ?_; (· first | rfl | assumption | (refine decide_eq_true ?_; first | assumption | omega) | (refine nt ?_; first | assumption | omega) | (simp [*]; done))) | refine skip_then ?_ | refine AW_seq ?_ | refine AW_block ?_)
          (refine step_ops ?_); (refine g_yes rfl ?_ ?_; (· first | (first | rfl | assumption | (refine decide_eq_true ?_; first | assumption | omega) | (refine nt ?_; first | assumption | omega) | (simp [*]; done)) | (first | rfl | assumption | (refine decide_eq_false ?_; first | assumption | omega) | (refine nf ?_; first | assumption | omega) | (simp [*]; done))); (apply m_call (l1Has_spec (L.take k) _ (by omega)))); (· repeat (first | exact lends_nil | (refine lends_cons ?_ ?_; (· (first | exact lend_v | (refine lend_ints ?_; first | rfl | omega))))))
          repeat (first | (refine step_ops ?_; ((try (refine g_yes rfl ?_ ?_; (· first | rfl | assumption | (refine decide_eq_true ?_; first | assumption | omega) | (refine nt ?_; first | assumption | omega) | (simp [*]; done) | (refine decide_eq_false ?_; first | assumption | omega) | (refine nf ?_; first | assumption | omega)))); (first | (refine m_mov (by conv => lhs; whnf) ?_) | (refine m_not rfl ?_) | (refine m_pick_t rfl ?_ (by conv => lhs; whnf) ?_; (· first | rfl | assumption | (refine decide_eq_true ?_; first | assumption | omega) | (refine nt ?_; first | assumption | omega) | (simp [*]; done))) | (refine m_cut_hi rfl rfl ?_ ?_ ?_; (· first | rfl | omega | simp); (· first | omega | (simp; omega)))))) | refine end_ops ?_ | refine AW_ops ?_ | (refine cond_t rfl ?_ ?_; (· first | rfl | assumption | (refine decide_eq_true ?_; first | assumption | omega) | (refine nt ?_; first | assumption | omega) | (simp [*]; done))))
          (refine step_ops ?_); (apply m_callo (l1Own_spec (L.take k) (by omega))); (· repeat (first | exact lends_nil | (refine lends_cons ?_ ?_; (· (refine lend_ints ?_; first | rfl | omega))))); (· first | exact allv_ints _ | rfl | (simp; done))
          repeat (refine step_ops ?_; (first | (refine m_mov (by conv => lhs; whnf) ?_) | (refine m_len_ro rfl ?_) | (refine m_bsl1 rfl rfl ?_) | (refine m_app1i rfl (by decide) (by rfl) (by first | rfl | omega | (simp; done)) rfl rfl ?_ (by decide) ?_; (· first | omega | (simp; omega)))))
          (refine step_ops ?_); (apply m_call (exLeft_spec (L.take k ++ [(x : Int)]) L.length (by omega) h12)); (· repeat (first | exact lends_nil | (refine lends_cons ?_ ?_; (· (first | exact lend_v | (refine lend_sli (by rfl) ?_; first | rfl | omega | (simp; done)))))))
          repeat (first | (refine step_ops ?_; (first | (refine m_mov (by conv => lhs; whnf) ?_) | (refine m_add rfl rfl ?_ ?_ ?_; (· omega); (· omega)))) | refine end_ops ?_ | refine AW_ops ?_ | refine norm_then ?_ | refine norm_block ?_)
          refine next_round (x + 1) (by omega) (weak_st ?_ ?_ rfl rfl) ?_
          · refine ⟨rfl, ?_, rfl, rfl, rfl, rfl, rfl, rfl, trivial⟩
            show AV.i (a + smTo (L.take k) L.length k x + lft (L.take k ++ [(x : Int)]) L.length) = AV.i (a + smTo (L.take k) L.length k (x + 1))
            rw [e, Int.add_assoc]
          · trivial
          · omega
    · obtain rfl : x = X := by omega
      by_cases ho : (x : Int) = (k : Int)
      · repeat (first | (refine step_ops ?_; (first | (refine m_mov (by conv => lhs; whnf) ?_) | (refine m_lss rfl rfl ?_) | (refine m_eql rfl rfl ?_))) | refine end_ops ?_ | refine seq_ops ?_ | (refine cond_t rfl ?_ ?_; (· first | rfl | assumption | (refine decide_eq_true ?_; first | assumption | omega) | (refine nt ?_; first | assumption | omega) | (simp [*]; done))) | (refine cond_f rfl ?_ ?_; (· first | rfl | assumption | (refine decide_eq_false ?_; first | assumption | omega) | (refine nf ?_; first | assumption | omega) | (simp [*]; done))) | refine AW_seq ?_ | refine AW_ret ?_ | refine ret_done ?_ | refine norm_then ?_ | refine ret_then ?_ | refine exit_then ?_ | refine ret_block ?_ | refine ret_round ?_ | refine exit_round ?_ | refine AW_exit ?_ | refine exit_block ?_)
        refine outs_i ?_
        rw [← hbef, if_pos ho]
      · repeat (first | (refine step_ops ?_; (first | (refine m_mov (by conv => lhs; whnf) ?_) | (refine m_lss rfl rfl ?_) | (refine m_eql rfl rfl ?_) | (refine m_add rfl rfl ?_ ?_ ?_; (· omega); (· omega)))) | refine end_ops ?_ | refine seq_ops ?_ | refine AW_ops ?_ | (refine cond_f rfl ?_ ?_; (· first | rfl | assumption | (refine decide_eq_false ?_; first | assumption | omega) | (refine nf ?_; first | assumption | omega) | (simp [*]; done))) | refine AW_seq ?_ | refine norm_then ?_ | refine exit_then ?_ | refine norm_block ?_ | refine exit_round ?_ | refine AW_exit ?_ | refine exit_block ?_ | refine AW_skip ?_)
        refine next_round (k + 1, a + smTo (L.take k) L.length k x) ⟨by dsimp only; omega, ?_, hb.1, hb.2⟩ (weak_st ?_ ?_ rfl rfl) ?_
        · have e : L.length - (k + 1) = n := by omega
          dsimp only
          rw [e, ← hbef, if_neg ho]
        · (repeat' (first | exact trivial | refine And.intro ?_ ?_)) <;> (first | rfl | skip)
        · trivial
        · dsimp only; omega
  · repeat (first | (refine step_ops ?_; (first | (refine m_mov (by conv => lhs; whnf) ?_) | (refine m_lss rfl rfl ?_))) | refine end_ops ?_ | refine seq_ops ?_ | (refine cond_f rfl ?_ ?_; (· first | rfl | assumption | (refine decide_eq_false ?_; first | assumption | omega) | (refine nf ?_; first | assumption | omega) | (simp [*]; done))) | refine AW_seq ?_ | refine AW_ret ?_ | refine ret_done ?_ | refine norm_then ?_ | refine exit_then ?_ | refine exit_round ?_ | refine AW_exit ?_ | refine exit_block ?_)
    refine outs_i ?_
    have e : L.length - k = 0 := by omega
    rw [← hbef, e, befF]
theorem noneBefore_spec (L : List Int) (h : IsEx L) : Sp Try.prog 30 [ints L] (.i (befR L)) := by
  have h12 := h.2.1
  refine spec_of Try.func30 rfl cc30 rfl ?_
  unfold ac30
  repeat (first | (refine step_ops ?_; (first | (refine m_mov (by conv => lhs; whnf) ?_) | (refine m_len_ro rfl ?_) | (refine m_alloc ?_) | (refine m_bld_1 (by conv => lhs; whnf) (by decide)  (by rfl) ?_) | (refine m_stall rfl rfl rfl ?_ ?_ ?_ ?_; (· first | rfl | (simp [*]; done)); (· first | rfl | (simp [*]; done)); (· first | rfl | (simp [cellOk, Value.oneCell']; done))))) | refine end_ops ?_ | refine seq_ops ?_ | refine AW_seq ?_ | refine AW_block ?_)
  refine AW_loop (α := Nat × Int) (fun q => q.1 ≤ L.length ∧ befF L L.length (L.length - q.1) q.1 q.2 = befR L ∧ 0 ≤ q.2 ∧ q.2 ≤ 5748019200 * q.1) (fun q => st [(3, .i q.2), (4, .pt 4 0), (11, ints L), (12, .i L.length), (13, .i q.1)] [(4, (true, rackV L.length (L.take q.1)))]) (fun q => L.length - q.1) (0, 0) ⟨by omega, rfl, by simp, by simp⟩ (weak_st ?_ ?_ rfl rfl) ?_
  · (repeat' (first | exact trivial | refine And.intro ?_ ?_)) <;> (first | rfl | skip)
  · refine ⟨?_, trivial⟩
    rw [List.take_zero, rackV_nil]; rfl
  rintro ⟨k, a⟩ ⟨hk, hbef, ha0, ha1⟩
  dsimp only at hk hbef ha0 ha1 ⊢
  by_cases hc : k < L.length
  · obtain ⟨X, hX, hXl⟩ := ex_get h hc
    have hb := bef_le L h k hc a ha0 ha1
    obtain ⟨n, hn⟩ : ∃ n, L.length - k = n + 1 := ⟨L.length - k - 1, by omega⟩
    rw [hn, befF] at hbef
    rw [hX, Int.toNat_natCast] at hb hbef
    have hlt : (L.take k).length = k := List.length_take_of_le hk
    have hrl := rackV_len L.length (L.take k)
    have hrp := rackV_plain L.length (L.take k)
    repeat (first | (refine step_ops ?_; (first | (refine m_mov (by conv => lhs; whnf) ?_) | (refine m_lss rfl rfl ?_) | (refine m_idx1_ro rfl rfl ?_ ?_; (· omega)) | (refine m_ld_rpi rfl ?_ ?_; (· omega)))) | refine end_ops ?_ | refine seq_ops ?_ | (refine cond_t rfl ?_ ?_; (· first | rfl | assumption | (refine decide_eq_true ?_; first | assumption | omega) | (refine nt ?_; first | assumption | omega) | (simp [*]; done))) | refine skip_then ?_ | refine AW_seq ?_ | refine AW_block ?_)
    rw [hX]
    refine AW_loop (α := Nat) (fun x => x ≤ X) (fun x => st [(3, .i (a + smTo (L.take k) L.length k x)), (4, .pt 4 0), (5, .i k), (6, .i X), (11, ints L), (12, .i L.length), (13, .i k), (18, .i X), (19, .i x)] [(4, (true, rackV L.length (L.take k)))]) (fun x => X - x) 0 (by omega) (weak_st ?_ ?_ rfl rfl) ?_
    · refine ⟨?_, rfl, rfl, rfl, rfl, rfl, rfl, rfl, rfl, trivial⟩
      show AV.i a = AV.i (a + smTo (L.take k) L.length k 0)
      simp [smTo]
    · exact ⟨rfl, trivial⟩
    intro x hx
    have hs := smTo_le (L.take k) L.length k x h12
    have hs1 := smTo_le (L.take k) L.length k (x + 1) h12
    have hl := lft_le (L.take k ++ [(x : Int)]) L.length h12
    by_cases hcx : x < X
    · by_cases hcan : MayTake (L.take k) k x
      · have e : smTo (L.take k) L.length k (x + 1) = smTo (L.take k) L.length k x + lft (L.take k ++ [(x : Int)]) L.length := by simp only [smTo]; rw [if_pos hcan]
        rw [e] at hs1
        have hll : (L.take k ++ [(x : Int)]).length = k + 1 := by rw [List.length_append, hlt]; rfl
        have hle : lft (L.take k ++ [(x : Int)]) L.length = apD (L.length - (k + 1)) (freeTo (L.take k ++ [(x : Int)]) (k + 1) (L.length - (k + 1))) := by unfold lft; rw [hll]
        have hrp2 := rackV_plain L.length (L.take k ++ [(x : Int)])
        rw [hle] at hl e hs1
        repeat (first | (refine step_ops ?_; (first | (refine m_mov (by conv => lhs; whnf) ?_) | (refine m_lss rfl rfl ?_) | (refine m_ldall rfl rfl ?_ ?_; (· first | rfl | (simp; done) | (simp [*]; done))))) | refine end_ops ?_ | refine seq_ops ?_ | (refine cond_t rfl ?_ ?_; (· first | rfl | assumption | (refine decide_eq_true ?_; first | assumption | omega) | (refine nt ?_; first | assumption | omega) | (simp [*]; done))) | refine skip_then ?_ | refine AW_seq ?_ | refine AW_block ?_)
        (refine step_ops ?_); (apply m_call (canTake_spec L.length (L.take k) k x (by omega))); (· repeat (first | exact lends_nil | (refine lends_cons ?_ ?_; (· (first | exact lend_v | (refine lend_agg ?_; first | rfl | assumption | (simp [plainV]; done)))))))
        repeat (first | (refine step_ops ?_; (first | (refine m_mov (by conv => lhs; whnf) ?_) | (refine m_ldall rfl rfl ?_ ?_; (· first | rfl | (simp; done) | (simp [*]; done))))) | refine end_ops ?_ | refine AW_ops ?_ | (refine cond_t rfl ?_ ?_; (· first | rfl | assumption | (refine decide_eq_true ?_; first | assumption | omega) | (refine nt ?_; first | assumption | omega) | (simp [*]; done))))
        (refine step_ops ?_); (apply m_call (without_spec L.length (L.take k) x (by omega))); (· repeat (first | exact lends_nil | (refine lends_cons ?_ ?_; (· (first | exact lend_v | (refine lend_agg ?_; first | rfl | assumption | (simp [plainV]; done)))))))
        repeat (refine step_ops ?_; (first | (refine m_mov (by conv => lhs; whnf) ?_) | (refine m_add rfl rfl ?_ ?_ ?_; (· omega); (· omega))))
        (refine step_ops ?_); (apply m_call (countNone_spec L.length (L.take k ++ [(x : Int)]) (k + 1) (by omega) h12)); (· repeat (first | exact lends_nil | (refine lends_cons ?_ ?_; (· (first | exact lend_v | (refine lend_agg ?_; first | rfl | assumption | (simp [plainV]; done)))))))
        repeat (first | (refine step_ops ?_; (first | (refine m_mov (by conv => lhs; whnf) ?_) | (refine m_add rfl rfl ?_ ?_ ?_; (· omega); (· omega)))) | refine end_ops ?_ | refine AW_ops ?_ | refine norm_then ?_ | refine norm_block ?_)
        refine next_round (x + 1) (by omega) (weak_st ?_ ?_ rfl rfl) ?_
        · refine ⟨?_, rfl, rfl, rfl, rfl, rfl, rfl, rfl, rfl, trivial⟩
          show AV.i (a + smTo (L.take k) L.length k x + apD (L.length - (k + 1)) (freeTo (L.take k ++ [(x : Int)]) (k + 1) (L.length - (k + 1)))) = AV.i (a + smTo (L.take k) L.length k (x + 1))
          rw [e, Int.add_assoc]
        · exact ⟨rfl, trivial⟩
        · omega
      · have e : smTo (L.take k) L.length k (x + 1) = smTo (L.take k) L.length k x := by simp only [smTo]; rw [if_neg hcan]
        repeat (first | (refine step_ops ?_; (first | (refine m_mov (by conv => lhs; whnf) ?_) | (refine m_lss rfl rfl ?_) | (refine m_ldall rfl rfl ?_ ?_; (· first | rfl | (simp; done) | (simp [*]; done))))) | refine end_ops ?_ | refine seq_ops ?_ | (refine cond_t rfl ?_ ?_; (· first | rfl | assumption | (refine decide_eq_true ?_; first | assumption | omega) | (refine nt ?_; first | assumption | omega) | (simp [*]; done))) | refine skip_then ?_ | refine AW_seq ?_ | refine AW_block ?_)
        (refine step_ops ?_); (apply m_call (canTake_spec L.length (L.take k) k x (by omega))); (· repeat (first | exact lends_nil | (refine lends_cons ?_ ?_; (· (first | exact lend_v | (refine lend_agg ?_; first | rfl | assumption | (simp [plainV]; done)))))))
        repeat (first | (refine step_ops ?_; (first | (refine m_mov (by conv => lhs; whnf) ?_) | (refine m_add rfl rfl ?_ ?_ ?_; (· omega); (· omega)))) | refine end_ops ?_ | refine AW_ops ?_ | (refine cond_f rfl ?_ ?_; (· first | rfl | assumption | (refine decide_eq_false ?_; first | assumption | omega) | (refine nf ?_; first | assumption | omega) | (simp [*]; done))) | refine norm_then ?_ | refine norm_block ?_ | refine AW_skip ?_)
        refine next_round (x + 1) (by omega) (weak_st ?_ ?_ rfl rfl) ?_
        · rw [e]
          (repeat' (first | exact trivial | refine And.intro ?_ ?_)) <;> (first | rfl | skip)
        · exact ⟨rfl, trivial⟩
        · omega
    · obtain rfl : x = X := by omega
      by_cases ho : (x : Int) = (k : Int)
      · repeat (first | (refine step_ops ?_; (first | (refine m_mov (by conv => lhs; whnf) ?_) | (refine m_lss rfl rfl ?_) | (refine m_eql rfl rfl ?_))) | refine end_ops ?_ | refine seq_ops ?_ | (refine cond_t rfl ?_ ?_; (· first | rfl | assumption | (refine decide_eq_true ?_; first | assumption | omega) | (refine nt ?_; first | assumption | omega) | (simp [*]; done))) | (refine cond_f rfl ?_ ?_; (· first | rfl | assumption | (refine decide_eq_false ?_; first | assumption | omega) | (refine nf ?_; first | assumption | omega) | (simp [*]; done))) | refine AW_seq ?_ | refine AW_ret ?_ | refine ret_done ?_ | refine norm_then ?_ | refine exit_then ?_ | refine exit_round ?_ | refine AW_exit ?_ | refine exit_block ?_ | (refine exit_other ?_ ?_; (· decide)))
        refine outs_i ?_
        rw [← hbef, if_pos ho]
      · have hrl2 := rackV_len L.length (L.take k ++ [(x : Int)])
        have hok2 := rackV_ok L.length (L.take k ++ [(x : Int)]) true
        repeat (first | (refine step_ops ?_; (first | (refine m_mov (by conv => lhs; whnf) ?_) | (refine m_lss rfl rfl ?_) | (refine m_eql rfl rfl ?_) | (refine m_ldall rfl rfl ?_ ?_; (· first | rfl | (simp; done) | (simp [*]; done))))) | refine end_ops ?_ | refine seq_ops ?_ | refine AW_ops ?_ | (refine cond_f rfl ?_ ?_; (· first | rfl | assumption | (refine decide_eq_false ?_; first | assumption | omega) | (refine nf ?_; first | assumption | omega) | (simp [*]; done))) | refine skip_then ?_ | refine AW_seq ?_ | refine norm_then ?_ | refine exit_then ?_ | refine exit_round ?_ | refine AW_exit ?_ | refine exit_block ?_)
        (refine step_ops ?_); (apply m_call (without_spec L.length (L.take k) x (by omega))); (· repeat (first | exact lends_nil | (refine lends_cons ?_ ?_; (· (first | exact lend_v | (refine lend_agg ?_; first | rfl | assumption | (simp [plainV]; done)))))))
        repeat (first | (refine step_ops ?_; (first | (refine m_mov (by conv => lhs; whnf) ?_) | (refine m_add rfl rfl ?_ ?_ ?_; (· omega); (· omega)) | (refine m_stall rfl rfl rfl ?_ ?_ ?_ ?_; (· first | rfl | (simp [*]; done)); (· first | rfl | (simp [*]; done)); (· first | rfl | (simp [cellOk, Value.oneCell']; done))))) | refine end_ops ?_ | refine AW_ops ?_ | refine norm_then ?_ | refine norm_block ?_)
        refine next_round (k + 1, a + smTo (L.take k) L.length k x) ⟨by dsimp only; omega, ?_, hb.1, hb.2⟩ (weak_st ?_ ?_ rfl rfl) ?_
        · have e : L.length - (k + 1) = n := by omega
          dsimp only
          rw [e, ← hbef, if_neg ho]
        · (repeat' (first | exact trivial | refine And.intro ?_ ?_)) <;> (first | rfl | skip)
        · refine ⟨?_, trivial⟩
          dsimp only
          rw [take_snoc L k 0 hc, hX]
          rfl
        · dsimp only; omega
  · repeat (first | (refine step_ops ?_; (first | (refine m_mov (by conv => lhs; whnf) ?_) | (refine m_lss rfl rfl ?_))) | refine end_ops ?_ | refine seq_ops ?_ | (refine cond_f rfl ?_ ?_; (· first | rfl | assumption | (refine decide_eq_false ?_; first | assumption | omega) | (refine nf ?_; first | assumption | omega) | (simp [*]; done))) | refine AW_seq ?_ | refine AW_ret ?_ | refine ret_done ?_ | refine norm_then ?_ | refine exit_then ?_ | refine exit_round ?_ | refine AW_exit ?_ | refine exit_block ?_)
    refine outs_i ?_
    have e : L.length - k = 0 := by omega
    rw [← hbef, e, befF]
/-- Does a guest get the own coat? -/
def HasOwn (L : List Int) : Prop := ∃ k, k < L.length ∧ L.getD k 0 = k
instance (L : List Int) : Decidable (HasOwn L) := decidable_of_iff (∃ k ∈ List.range L.length, L.getD k 0 = (k : Nat)) (by simp [HasOwn])
theorem hasOwn_spec (L : List Int) (hL : L.length ≤ 1048576) : Sp Try.prog 31 [ints L] (.b (decide (HasOwn L))) := by
  refine spec_of Try.func31 rfl cc31 rfl ?_
  unfold ac31
  repeat (first | (refine step_ops ?_; (first | (refine m_mov (by conv => lhs; whnf) ?_) | (refine m_len_ro rfl ?_))) | refine end_ops ?_ | refine seq_ops ?_ | refine AW_seq ?_ | refine AW_block ?_)
  refine AW_loop (α := Nat) (fun k => k ≤ L.length ∧ ∀ j < k, L.getD j 0 ≠ j) (fun k => st [(5, ints L), (6, .i L.length), (7, .i k)] []) (fun k => L.length - k) 0 ⟨by omega, by simp⟩ (weak_st ?_ ?_ rfl rfl) ?_
  · (repeat' (first | exact trivial | refine And.intro ?_ ?_)) <;> (first | rfl | skip)
  · trivial
  rintro k ⟨hk, hno⟩
  by_cases hc : k < L.length
  · by_cases ho : L.getD k 0 = k
    · repeat (first | (refine step_ops ?_; (first | (refine m_mov (by conv => lhs; whnf) ?_) | (refine m_lss rfl rfl ?_) | (refine m_eql rfl rfl ?_) | (refine m_idx1_ro rfl rfl ?_ ?_; (· omega)) | (refine m_ld_rpi rfl ?_ ?_; (· omega)))) | refine end_ops ?_ | refine seq_ops ?_ | (refine cond_t rfl ?_ ?_; (· first | rfl | assumption | (refine decide_eq_true ?_; first | assumption | omega) | (refine nt ?_; first | assumption | omega) | (simp [*]; done))) | refine skip_then ?_ | refine AW_seq ?_ | refine AW_ret ?_ | refine ret_done ?_ | refine ret_then ?_ | refine AW_block ?_ | refine ret_block ?_ | refine ret_round ?_)
      refine outs_b ?_
      symm
      exact decide_eq_true ⟨k, hc, ho⟩
    · repeat (first | (refine step_ops ?_; (first | (refine m_mov (by conv => lhs; whnf) ?_) | (refine m_lss rfl rfl ?_) | (refine m_eql rfl rfl ?_) | (refine m_add rfl rfl ?_ ?_ ?_; (· omega); (· omega)) | (refine m_idx1_ro rfl rfl ?_ ?_; (· omega)) | (refine m_ld_rpi rfl ?_ ?_; (· omega)))) | refine end_ops ?_ | refine seq_ops ?_ | refine AW_ops ?_ | (refine cond_t rfl ?_ ?_; (· first | rfl | assumption | (refine decide_eq_true ?_; first | assumption | omega) | (refine nt ?_; first | assumption | omega) | (simp [*]; done))) | (refine cond_f rfl ?_ ?_; (· first | rfl | assumption | (refine decide_eq_false ?_; first | assumption | omega) | (refine nf ?_; first | assumption | omega) | (simp [*]; done))) | refine skip_then ?_ | refine AW_seq ?_ | refine norm_then ?_ | refine AW_block ?_ | refine norm_block ?_ | refine AW_skip ?_)
      refine next_round (k + 1) ⟨by omega, fun j hj => ?_⟩ (weak_st ?_ ?_ rfl rfl) ?_
      · by_cases e : j = k
        · rw [e]; exact ho
        · exact hno j (by omega)
      · (repeat' (first | exact trivial | refine And.intro ?_ ?_)) <;> (first | rfl | skip)
      · trivial
      · omega
  · repeat (first | (refine step_ops ?_; (first | (refine m_mov (by conv => lhs; whnf) ?_) | (refine m_lss rfl rfl ?_))) | refine end_ops ?_ | refine seq_ops ?_ | (refine cond_f rfl ?_ ?_; (· first | rfl | assumption | (refine decide_eq_false ?_; first | assumption | omega) | (refine nf ?_; first | assumption | omega) | (simp [*]; done))) | refine AW_seq ?_ | refine AW_ret ?_ | refine ret_done ?_ | refine norm_then ?_ | refine exit_then ?_ | refine exit_round ?_ | refine AW_exit ?_ | refine exit_block ?_)
    refine outs_b ?_
    symm
    exact decide_eq_false fun ⟨j, hj, hh⟩ => hno j (by omega) hh
theorem ownList_nil (L : List Int) : (0 < (ownList L L.length).length) ↔ HasOwn L := by
  unfold ownList HasOwn
  rw [List.length_map, List.length_pos_iff_exists_mem]
  simp
/-- What RankOfNone tells. -/
def RankOk (L : List Int) : Prop := IsEx L ∧ ¬ HasOwn L
instance (L : List Int) : Decidable (RankOk L) := inferInstanceAs (Decidable (_ ∧ _))
def rankR (L : List Int) : AV := .tup [.i (if RankOk L then befR L else 0), .b (decide (RankOk L))]
theorem specRankOfNone_spec (L : List Int) (hL : L.length ≤ 1048576) : Sp Try.prog 10 [ints L] (rankR L) := by
  unfold rankR
  refine spec_of Try.func10 rfl cc10 rfl ?_
  unfold ac10
  by_cases h : IsEx L
  · have ho := ownList_nil L
    by_cases hh : HasOwn L
    · have h1 := ho.2 hh
      have h2 : ¬ RankOk L := fun h => h.2 hh
      repeat (first | (refine step_ops ?_; (refine m_mov (by conv => lhs; whnf) ?_)) | refine end_ops ?_ | refine seq_ops ?_ | refine AW_seq ?_)
      (refine step_ops ?_); (apply m_call (exGood_spec L hL)); (· repeat (first | exact lends_nil | (refine lends_cons ?_ ?_; (· (refine lend_ints ?_; first | rfl | omega)))))
      repeat (refine step_ops ?_; ((try (refine g_yes rfl ?_ ?_; (· first | rfl | assumption | (refine decide_eq_true ?_; first | assumption | omega) | (refine nt ?_; first | assumption | omega) | (simp [*]; done) | (refine decide_eq_false ?_; first | assumption | omega) | (refine nf ?_; first | assumption | omega)))); (first | (refine m_mov (by conv => lhs; whnf) ?_) | (refine m_not rfl ?_))))
      (refine step_ops ?_); (refine g_yes rfl ?_ ?_; (· first | (first | rfl | assumption | (refine decide_eq_true ?_; first | assumption | omega) | (refine nt ?_; first | assumption | omega) | (simp [*]; done)) | (first | rfl | assumption | (refine decide_eq_false ?_; first | assumption | omega) | (refine nf ?_; first | assumption | omega) | (simp [*]; done))); (apply m_callo (exOwn_spec L hL))); (· repeat (first | exact lends_nil | (refine lends_cons ?_ ?_; (· (refine lend_ints ?_; first | rfl | omega))))); (· first | exact allv_ints _ | rfl | (simp; done))
      repeat (first | (refine step_ops ?_; ((try (refine g_yes rfl ?_ ?_; (· first | rfl | assumption | (refine decide_eq_true ?_; first | assumption | omega) | (refine nt ?_; first | assumption | omega) | (simp [*]; done) | (refine decide_eq_false ?_; first | assumption | omega) | (refine nf ?_; first | assumption | omega)))); (first | (refine m_mov (by conv => lhs; whnf) ?_) | (refine m_gtr rfl rfl ?_) | (refine m_len_sl rfl ?_) | (refine m_pick_f rfl ?_ (by conv => lhs; whnf) ?_; (· first | rfl | assumption | (refine decide_eq_false ?_; first | assumption | omega) | (refine nf ?_; first | assumption | omega) | (simp [*]; done)))))) | refine end_ops ?_ | refine seq_ops ?_ | (refine cond_t rfl ?_ ?_; (· first | rfl | assumption | (refine decide_eq_true ?_; first | assumption | omega) | (refine nt ?_; first | assumption | omega) | (simp [*]; done))) | refine AW_ret ?_ | refine ret_done ?_ | refine ret_then ?_)
      refine outs_tup2 (outs_i ?_) (outs_b ?_) <;> simp [h2]
    · have h1 : ¬ (0 < (ownList L L.length).length) := fun h => hh (ho.1 h)
      have h2 : RankOk L := ⟨h, hh⟩
      repeat (first | (refine step_ops ?_; (refine m_mov (by conv => lhs; whnf) ?_)) | refine end_ops ?_ | refine seq_ops ?_ | refine AW_seq ?_)
      (refine step_ops ?_); (apply m_call (exGood_spec L hL)); (· repeat (first | exact lends_nil | (refine lends_cons ?_ ?_; (· (refine lend_ints ?_; first | rfl | omega)))))
      repeat (refine step_ops ?_; ((try (refine g_yes rfl ?_ ?_; (· first | rfl | assumption | (refine decide_eq_true ?_; first | assumption | omega) | (refine nt ?_; first | assumption | omega) | (simp [*]; done) | (refine decide_eq_false ?_; first | assumption | omega) | (refine nf ?_; first | assumption | omega)))); (first | (refine m_mov (by conv => lhs; whnf) ?_) | (refine m_not rfl ?_))))
      (refine step_ops ?_); (refine g_yes rfl ?_ ?_; (· first | (first | rfl | assumption | (refine decide_eq_true ?_; first | assumption | omega) | (refine nt ?_; first | assumption | omega) | (simp [*]; done)) | (first | rfl | assumption | (refine decide_eq_false ?_; first | assumption | omega) | (refine nf ?_; first | assumption | omega) | (simp [*]; done))); (apply m_callo (exOwn_spec L hL))); (· repeat (first | exact lends_nil | (refine lends_cons ?_ ?_; (· (refine lend_ints ?_; first | rfl | omega))))); (· first | exact allv_ints _ | rfl | (simp; done))
      repeat (first | (refine step_ops ?_; ((try (refine g_yes rfl ?_ ?_; (· first | rfl | assumption | (refine decide_eq_true ?_; first | assumption | omega) | (refine nt ?_; first | assumption | omega) | (simp [*]; done) | (refine decide_eq_false ?_; first | assumption | omega) | (refine nf ?_; first | assumption | omega)))); (first | (refine m_mov (by conv => lhs; whnf) ?_) | (refine m_gtr rfl rfl ?_) | (refine m_len_sl rfl ?_) | (refine m_pick_f rfl ?_ (by conv => lhs; whnf) ?_; (· first | rfl | assumption | (refine decide_eq_false ?_; first | assumption | omega) | (refine nf ?_; first | assumption | omega) | (simp [*]; done)))))) | refine end_ops ?_ | refine seq_ops ?_ | (refine cond_f rfl ?_ ?_; (· first | rfl | assumption | (refine decide_eq_false ?_; first | assumption | omega) | (refine nf ?_; first | assumption | omega) | (simp [*]; done))) | refine skip_then ?_)
      (refine step_ops ?_); (apply m_call (exBefore_spec L h)); (· repeat (first | exact lends_nil | (refine lends_cons ?_ ?_; (· (refine lend_ints ?_; first | rfl | omega)))))
      repeat (first | (refine step_ops ?_; (refine m_mov (by conv => lhs; whnf) ?_)) | refine end_ops ?_ | refine AW_ret ?_ | refine ret_done ?_)
      refine outs_tup2 (outs_i ?_) (outs_b ?_) <;> simp [h2]
  · have h2 : ¬ RankOk L := fun hh => h hh.1
    repeat (first | (refine step_ops ?_; (refine m_mov (by conv => lhs; whnf) ?_)) | refine end_ops ?_ | refine seq_ops ?_ | refine AW_seq ?_)
    (refine step_ops ?_); (apply m_call (exGood_spec L hL)); (· repeat (first | exact lends_nil | (refine lends_cons ?_ ?_; (· (refine lend_ints ?_; first | rfl | omega)))))
    repeat (first | (refine step_ops ?_; (first | (first | (refine m_mov (by conv => lhs; whnf) ?_) | (refine m_not rfl ?_) | (refine m_pick_t rfl ?_ (by conv => lhs; whnf) ?_; (· first | rfl | assumption | (refine decide_eq_true ?_; first | assumption | omega) | (refine nt ?_; first | assumption | omega) | (simp [*]; done)))) | (refine g_noF rfl ?_ ?_; (· first | rfl | assumption | (refine decide_eq_true ?_; first | assumption | omega) | (refine nt ?_; first | assumption | omega) | (simp [*]; done))))) | refine end_ops ?_ | refine seq_ops ?_ | (refine cond_t rfl ?_ ?_; (· first | rfl | assumption | (refine decide_eq_true ?_; first | assumption | omega) | (refine nt ?_; first | assumption | omega) | (simp [*]; done))) | refine AW_ret ?_ | refine ret_done ?_ | refine ret_then ?_)
    refine outs_tup2 (outs_i ?_) (outs_b ?_) <;> simp [h2]
theorem implRankOfNone_spec (L : List Int) (hL : L.length ≤ 1048576) : Sp Try.prog 9 [ints L] (rankR L) := by
  unfold rankR
  refine spec_of Try.func9 rfl cc9 rfl ?_
  unfold ac9
  by_cases h : IsEx L
  · by_cases hh : HasOwn L
    · have h2 : ¬ RankOk L := fun h => h.2 hh
      repeat (first | (refine step_ops ?_; (refine m_mov (by conv => lhs; whnf) ?_)) | refine end_ops ?_ | refine seq_ops ?_ | refine AW_seq ?_)
      (refine step_ops ?_); (apply m_call (implIsExchange_spec L hL)); (· repeat (first | exact lends_nil | (refine lends_cons ?_ ?_; (· (refine lend_ints ?_; first | rfl | omega)))))
      repeat (refine step_ops ?_; ((try (refine g_yes rfl ?_ ?_; (· first | rfl | assumption | (refine decide_eq_true ?_; first | assumption | omega) | (refine nt ?_; first | assumption | omega) | (simp [*]; done) | (refine decide_eq_false ?_; first | assumption | omega) | (refine nf ?_; first | assumption | omega)))); (first | (refine m_mov (by conv => lhs; whnf) ?_) | (refine m_not rfl ?_))))
      (refine step_ops ?_); (refine g_yes rfl ?_ ?_; (· first | (first | rfl | assumption | (refine decide_eq_true ?_; first | assumption | omega) | (refine nt ?_; first | assumption | omega) | (simp [*]; done)) | (first | rfl | assumption | (refine decide_eq_false ?_; first | assumption | omega) | (refine nf ?_; first | assumption | omega) | (simp [*]; done))); (apply m_call (hasOwn_spec L hL))); (· repeat (first | exact lends_nil | (refine lends_cons ?_ ?_; (· (refine lend_ints ?_; first | rfl | omega)))))
      repeat (first | (refine step_ops ?_; (first | (refine m_mov (by conv => lhs; whnf) ?_) | (refine m_pick_f rfl ?_ (by conv => lhs; whnf) ?_; (· first | rfl | assumption | (refine decide_eq_false ?_; first | assumption | omega) | (refine nf ?_; first | assumption | omega) | (simp [*]; done))))) | refine end_ops ?_ | refine seq_ops ?_ | (refine cond_t rfl ?_ ?_; (· first | rfl | assumption | (refine decide_eq_true ?_; first | assumption | omega) | (refine nt ?_; first | assumption | omega) | (simp [*]; done))) | refine AW_ret ?_ | refine ret_done ?_ | refine ret_then ?_)
      refine outs_tup2 (outs_i ?_) (outs_b ?_) <;> simp [h2]
    · have h2 : RankOk L := ⟨h, hh⟩
      repeat (first | (refine step_ops ?_; (refine m_mov (by conv => lhs; whnf) ?_)) | refine end_ops ?_ | refine seq_ops ?_ | refine AW_seq ?_)
      (refine step_ops ?_); (apply m_call (implIsExchange_spec L hL)); (· repeat (first | exact lends_nil | (refine lends_cons ?_ ?_; (· (refine lend_ints ?_; first | rfl | omega)))))
      repeat (refine step_ops ?_; ((try (refine g_yes rfl ?_ ?_; (· first | rfl | assumption | (refine decide_eq_true ?_; first | assumption | omega) | (refine nt ?_; first | assumption | omega) | (simp [*]; done) | (refine decide_eq_false ?_; first | assumption | omega) | (refine nf ?_; first | assumption | omega)))); (first | (refine m_mov (by conv => lhs; whnf) ?_) | (refine m_not rfl ?_))))
      (refine step_ops ?_); (refine g_yes rfl ?_ ?_; (· first | (first | rfl | assumption | (refine decide_eq_true ?_; first | assumption | omega) | (refine nt ?_; first | assumption | omega) | (simp [*]; done)) | (first | rfl | assumption | (refine decide_eq_false ?_; first | assumption | omega) | (refine nf ?_; first | assumption | omega) | (simp [*]; done))); (apply m_call (hasOwn_spec L hL))); (· repeat (first | exact lends_nil | (refine lends_cons ?_ ?_; (· (refine lend_ints ?_; first | rfl | omega)))))
      repeat (first | (refine step_ops ?_; (first | (refine m_mov (by conv => lhs; whnf) ?_) | (refine m_pick_f rfl ?_ (by conv => lhs; whnf) ?_; (· first | rfl | assumption | (refine decide_eq_false ?_; first | assumption | omega) | (refine nf ?_; first | assumption | omega) | (simp [*]; done))))) | refine end_ops ?_ | refine seq_ops ?_ | (refine cond_f rfl ?_ ?_; (· first | rfl | assumption | (refine decide_eq_false ?_; first | assumption | omega) | (refine nf ?_; first | assumption | omega) | (simp [*]; done))) | refine skip_then ?_)
      (refine step_ops ?_); (apply m_call (noneBefore_spec L h)); (· repeat (first | exact lends_nil | (refine lends_cons ?_ ?_; (· (refine lend_ints ?_; first | rfl | omega)))))
      repeat (first | (refine step_ops ?_; (refine m_mov (by conv => lhs; whnf) ?_)) | refine end_ops ?_ | refine AW_ret ?_ | refine ret_done ?_)
      refine outs_tup2 (outs_i ?_) (outs_b ?_) <;> simp [h2]
  · have h2 : ¬ RankOk L := fun hh => h hh.1
    repeat (first | (refine step_ops ?_; (refine m_mov (by conv => lhs; whnf) ?_)) | refine end_ops ?_ | refine seq_ops ?_ | refine AW_seq ?_)
    (refine step_ops ?_); (apply m_call (implIsExchange_spec L hL)); (· repeat (first | exact lends_nil | (refine lends_cons ?_ ?_; (· (refine lend_ints ?_; first | rfl | omega)))))
    repeat (first | (refine step_ops ?_; (first | (first | (refine m_mov (by conv => lhs; whnf) ?_) | (refine m_not rfl ?_) | (refine m_pick_t rfl ?_ (by conv => lhs; whnf) ?_; (· first | rfl | assumption | (refine decide_eq_true ?_; first | assumption | omega) | (refine nt ?_; first | assumption | omega) | (simp [*]; done)))) | (refine g_noF rfl ?_ ?_; (· first | rfl | assumption | (refine decide_eq_true ?_; first | assumption | omega) | (refine nt ?_; first | assumption | omega) | (simp [*]; done))))) | refine end_ops ?_ | refine seq_ops ?_ | (refine cond_t rfl ?_ ?_; (· first | rfl | assumption | (refine decide_eq_true ?_; first | assumption | omega) | (refine nt ?_; first | assumption | omega) | (simp [*]; done))) | refine AW_ret ?_ | refine ret_done ?_ | refine ret_then ?_)
    refine outs_tup2 (outs_i ?_) (outs_b ?_) <;> simp [h2]
end Go.Proofs.Ytgjlaajkakecpaa
