/- The abstract machine, contracts: part 3 of what this claim needs. -/
import Derived.Test.YtmmcldbldbpikaaGreatDoorZs2
set_option linter.unusedSectionVars false
namespace Go.Proofs.YtmmcldbldbpikaaGreatDoor
variable [Go.Am.CodeBlk]
open Go.Am
def ac3 : ACode := (.seq (.ops [⟨(some 4), (.mov (.c (.bool false))), none⟩]) (.seq (.seq (.ops [⟨(some 65), (.mov (.t 0)), none⟩, ⟨(some 66), (.mov (.t 1)), none⟩, ⟨(some 67), (.call 4 [(.t 65), (.t 66)]), none⟩]) (.cond (.t 67) (.seq (.ops [⟨(some 4), (.mov (.c (.bool true))), none⟩]) .ret) .skip)) (.seq (.ops [⟨(some 69), (.mov (.t 0)), none⟩, ⟨(some 70), (.call 5 [(.t 69)]), none⟩, ⟨(some 68), (.mov (.t 70)), none⟩, ⟨(some 71), (.ext (.t 68) 0), none⟩, ⟨(some 72), (.ext (.t 68) 1), none⟩, ⟨(some 5), (.mov (.t 71)), none⟩, ⟨(some 6), (.mov (.t 72)), none⟩]) (.seq (.ops [⟨(some 74), (.mov (.t 5)), none⟩, ⟨(some 75), (.mov (.t 6)), none⟩, ⟨(some 76), (.call 6 [(.t 74), (.t 75)]), none⟩, ⟨(some 73), (.mov (.t 76)), none⟩, ⟨(some 77), (.ext (.t 73) 0), none⟩, ⟨(some 78), (.ext (.t 73) 1), none⟩, ⟨(some 7), (.mov (.t 77)), none⟩, ⟨(some 8), (.mov (.t 78)), none⟩]) (.seq (.ops [⟨(some 80), (.mov (.t 5)), none⟩, ⟨(some 81), (.mov (.t 6)), none⟩, ⟨(some 82), (.call 7 [(.t 80), (.t 81)]), none⟩, ⟨(some 79), (.mov (.t 82)), none⟩, ⟨(some 83), (.ext (.t 79) 0), none⟩, ⟨(some 84), (.ext (.t 79) 1), none⟩, ⟨(some 9), (.mov (.t 83)), none⟩, ⟨(some 10), (.mov (.t 84)), none⟩]) (.seq (.ops [⟨(some 86), (.mov (.t 5)), none⟩, ⟨(some 87), (.mov (.t 6)), none⟩, ⟨(some 88), (.call 8 [(.t 86), (.t 87)]), none⟩, ⟨(some 85), (.mov (.t 88)), none⟩, ⟨(some 89), (.ext (.t 85) 0), none⟩, ⟨(some 90), (.ext (.t 85) 1), none⟩, ⟨(some 11), (.mov (.t 89)), none⟩, ⟨(some 12), (.mov (.t 90)), none⟩]) (.seq (.ops [⟨(some 92), (.mov (.t 5)), none⟩, ⟨(some 93), (.mov (.t 6)), none⟩, ⟨(some 94), (.call 9 [(.t 92), (.t 93)]), none⟩, ⟨(some 91), (.mov (.t 94)), none⟩, ⟨(some 95), (.ext (.t 91) 0), none⟩, ⟨(some 96), (.ext (.t 91) 1), none⟩, ⟨(some 13), (.mov (.t 95)), none⟩, ⟨(some 14), (.mov (.t 96)), none⟩]) (.seq (.ops [⟨(some 98), (.mov (.t 5)), none⟩, ⟨(some 99), (.mov (.t 6)), none⟩, ⟨(some 100), (.call 10 [(.t 98), (.t 99)]), none⟩, ⟨(some 97), (.mov (.t 100)), none⟩, ⟨(some 101), (.ext (.t 97) 0), none⟩, ⟨(some 102), (.ext (.t 97) 1), none⟩, ⟨(some 15), (.mov (.t 101)), none⟩, ⟨(some 16), (.mov (.t 102)), none⟩]) (.seq (.ops [⟨(some 104), (.mov (.t 5)), none⟩, ⟨(some 105), (.mov (.t 6)), none⟩, ⟨(some 106), (.call 11 [(.t 104), (.t 105)]), none⟩, ⟨(some 103), (.mov (.t 106)), none⟩, ⟨(some 107), (.ext (.t 103) 0), none⟩, ⟨(some 108), (.ext (.t 103) 1), none⟩, ⟨(some 17), (.mov (.t 107)), none⟩, ⟨(some 18), (.mov (.t 108)), none⟩]) (.seq (.seq (.ops [⟨(some 109), (.mov (.t 8)), none⟩, ⟨(some 110), (.mov (.t 10)), none⟩, ⟨(some 111), (.beq true (.t 109) (.t 110)), none⟩, ⟨(some 112), (.mov (.t 111)), none⟩, ⟨(some 113), (.mov (.t 7)), (some (112, false))⟩, ⟨(some 114), (.mov (.t 9)), (some (112, false))⟩, ⟨(some 115), (.bin .neq (.t 113) (.t 114)), (some (112, false))⟩, ⟨(some 116), (.pick (.t 112) (.c (.bool true)) (.t 115)), none⟩, ⟨(some 117), (.mov (.t 116)), none⟩, ⟨(some 118), (.mov (.t 12)), (some (117, false))⟩, ⟨(some 119), (.mov (.t 14)), (some (117, false))⟩, ⟨(some 120), (.beq true (.t 118) (.t 119)), (some (117, false))⟩, ⟨(some 121), (.pick (.t 117) (.c (.bool true)) (.t 120)), none⟩, ⟨(some 122), (.mov (.t 121)), none⟩, ⟨(some 123), (.mov (.t 11)), (some (122, false))⟩, ⟨(some 124), (.mov (.t 13)), (some (122, false))⟩, ⟨(some 125), (.bin .neq (.t 123) (.t 124)), (some (122, false))⟩, ⟨(some 126), (.pick (.t 122) (.c (.bool true)) (.t 125)), none⟩, ⟨(some 127), (.mov (.t 126)), none⟩, ⟨(some 128), (.mov (.t 16)), (some (127, false))⟩, ⟨(some 129), (.mov (.t 18)), (some (127, false))⟩, ⟨(some 130), (.beq true (.t 128) (.t 129)), (some (127, false))⟩, ⟨(some 131), (.pick (.t 127) (.c (.bool true)) (.t 130)), none⟩, ⟨(some 132), (.mov (.t 131)), none⟩, ⟨(some 133), (.mov (.t 15)), (some (132, false))⟩, ⟨(some 134), (.mov (.t 17)), (some (132, false))⟩, ⟨(some 135), (.bin .neq (.t 133) (.t 134)), (some (132, false))⟩, ⟨(some 136), (.pick (.t 132) (.c (.bool true)) (.t 135)), none⟩, ⟨(some 137), (.mov (.t 136)), none⟩, ⟨(some 138), (.mov (.t 12)), (some (137, false))⟩, ⟨(some 139), (.mov (.t 8)), (some (137, false))⟩, ⟨(some 140), (.beq true (.t 138) (.t 139)), (some (137, false))⟩, ⟨(some 141), (.pick (.t 137) (.c (.bool true)) (.t 140)), none⟩, ⟨(some 142), (.mov (.t 141)), none⟩, ⟨(some 143), (.mov (.t 16)), (some (142, false))⟩, ⟨(some 144), (.mov (.t 8)), (some (142, false))⟩, ⟨(some 145), (.beq true (.t 143) (.t 144)), (some (142, false))⟩, ⟨(some 146), (.pick (.t 142) (.c (.bool true)) (.t 145)), none⟩, ⟨(some 147), (.mov (.t 146)), none⟩, ⟨(some 148), (.mov (.t 8)), (some (147, false))⟩, ⟨(some 149), (.mov (.t 148)), (some (147, false))⟩, ⟨(some 150), (.mov (.t 7)), (some (149, true))⟩, ⟨(some 151), (.bin .lss (.t 150) (.c (.int .i64 0))), (some (149, true))⟩, ⟨(some 152), (.mov (.t 151)), (some (149, true))⟩, ⟨(some 153), (.mov (.t 11)), (some (152, false))⟩, ⟨(some 154), (.bin .lss (.t 153) (.c (.int .i64 0))), (some (152, false))⟩, ⟨(some 155), (.pick (.t 152) (.c (.bool true)) (.t 154)), (some (149, true))⟩, ⟨(some 156), (.mov (.t 155)), (some (149, true))⟩, ⟨(some 157), (.mov (.t 15)), (some (156, false))⟩, ⟨(some 158), (.bin .lss (.t 157) (.c (.int .i64 0))), (some (156, false))⟩, ⟨(some 159), (.pick (.t 156) (.c (.bool true)) (.t 158)), (some (149, true))⟩, ⟨(some 160), (.mov (.t 159)), (some (149, true))⟩, ⟨(some 161), (.mov (.t 15)), (some (160, false))⟩, ⟨(some 162), (.mov (.t 7)), (some (160, false))⟩, ⟨(some 163), (.bin .gtr (.t 161) (.t 162)), (some (160, false))⟩, ⟨(some 164), (.pick (.t 160) (.c (.bool true)) (.t 163)), (some (149, true))⟩, ⟨(some 165), (.pick (.t 149) (.t 164) (.c (.bool false))), (some (147, false))⟩, ⟨(some 166), (.pick (.t 147) (.c (.bool true)) (.t 165)), none⟩]) (.cond (.t 166) (.seq (.ops [⟨(some 4), (.mov (.c (.bool false))), none⟩]) .ret) .skip)) (.seq (.ops [⟨(some 167), (.mov (.t 1)), none⟩, ⟨(some 168), (.call 12 [(.t 167)]), none⟩, ⟨(some 19), (.mov (.t 168)), none⟩]) (.seq (.ops [⟨(some 170), (.mov (.t 19)), none⟩, ⟨(some 171), (.call 13 [(.t 170)]), none⟩, ⟨(some 169), (.mov (.t 171)), none⟩, ⟨(some 172), (.ext (.t 169) 0), none⟩, ⟨(some 173), (.ext (.t 169) 1), none⟩, ⟨(some 20), (.mov (.t 172)), none⟩, ⟨(some 21), (.mov (.t 173)), none⟩]) (.seq (.ops [⟨(some 175), (.mov (.t 19)), none⟩, ⟨(some 176), (.call 14 [(.t 175)]), none⟩, ⟨(some 174), (.mov (.t 176)), none⟩, ⟨(some 177), (.ext (.t 174) 0), none⟩, ⟨(some 178), (.ext (.t 174) 1), none⟩, ⟨(some 22), (.mov (.t 177)), none⟩, ⟨(some 23), (.mov (.t 178)), none⟩]) (.seq (.ops [⟨(some 180), (.mov (.t 19)), none⟩, ⟨(some 181), (.call 15 [(.t 180)]), none⟩, ⟨(some 179), (.mov (.t 181)), none⟩, ⟨(some 182), (.ext (.t 179) 0), none⟩, ⟨(some 183), (.ext (.t 179) 1), none⟩, ⟨(some 24), (.mov (.t 182)), none⟩, ⟨(some 25), (.mov (.t 183)), none⟩]) (.seq (.ops [⟨(some 185), (.mov (.t 19)), none⟩, ⟨(some 186), (.call 16 [(.t 185)]), none⟩, ⟨(some 184), (.mov (.t 186)), none⟩, ⟨(some 187), (.ext (.t 184) 0), none⟩, ⟨(some 188), (.ext (.t 184) 1), none⟩, ⟨(some 26), (.mov (.t 187)), none⟩, ⟨(some 27), (.mov (.t 188)), none⟩]) (.seq (.ops [⟨(some 190), (.mov (.t 19)), none⟩, ⟨(some 191), (.call 17 [(.t 190)]), none⟩, ⟨(some 189), (.mov (.t 191)), none⟩, ⟨(some 192), (.ext (.t 189) 0), none⟩, ⟨(some 193), (.ext (.t 189) 1), none⟩, ⟨(some 194), (.ext (.t 189) 2), none⟩, ⟨(some 28), (.mov (.t 192)), none⟩, ⟨(some 29), (.mov (.t 193)), none⟩, ⟨(some 30), (.mov (.t 194)), none⟩]) (.seq (.ops [⟨(some 196), (.mov (.t 19)), none⟩, ⟨(some 197), (.call 18 [(.t 196)]), none⟩, ⟨(some 195), (.mov (.t 197)), none⟩, ⟨(some 198), (.ext (.t 195) 0), none⟩, ⟨(some 199), (.ext (.t 195) 1), none⟩, ⟨(some 200), (.ext (.t 195) 2), none⟩, ⟨(some 31), (.mov (.t 198)), none⟩, ⟨(some 32), (.mov (.t 199)), none⟩, ⟨(some 33), (.mov (.t 200)), none⟩]) (.seq (.ops [⟨(some 202), (.mov (.t 19)), none⟩, ⟨(some 203), (.call 19 [(.t 202)]), none⟩, ⟨(some 201), (.mov (.t 203)), none⟩, ⟨(some 204), (.ext (.t 201) 0), none⟩, ⟨(some 205), (.ext (.t 201) 1), none⟩, ⟨(some 34), (.mov (.t 204)), none⟩, ⟨(some 35), (.mov (.t 205)), none⟩]) (.seq (.ops [⟨(some 207), (.mov (.t 19)), none⟩, ⟨(some 208), (.call 20 [(.t 207)]), none⟩, ⟨(some 206), (.mov (.t 208)), none⟩, ⟨(some 209), (.ext (.t 206) 0), none⟩, ⟨(some 210), (.ext (.t 206) 1), none⟩, ⟨(some 36), (.mov (.t 209)), none⟩, ⟨(some 37), (.mov (.t 210)), none⟩]) (.seq (.ops [⟨(some 211), (.mov (.t 1)), none⟩, ⟨(some 212), (.call 21 [(.t 211)]), none⟩, ⟨(some 38), (.mov (.t 212)), none⟩]) (.seq (.ops [⟨(some 214), (.mov (.t 38)), none⟩, ⟨(some 215), (.call 22 [(.t 214)]), none⟩, ⟨(some 213), (.mov (.t 215)), none⟩, ⟨(some 216), (.ext (.t 213) 0), none⟩, ⟨(some 217), (.ext (.t 213) 1), none⟩, ⟨(some 39), (.mov (.t 216)), none⟩, ⟨(some 40), (.mov (.t 217)), none⟩]) (.seq (.ops [⟨(some 219), (.mov (.t 38)), none⟩, ⟨(some 220), (.call 23 [(.t 219)]), none⟩, ⟨(some 218), (.mov (.t 220)), none⟩, ⟨(some 221), (.ext (.t 218) 0), none⟩, ⟨(some 222), (.ext (.t 218) 1), none⟩, ⟨(some 41), (.mov (.t 221)), none⟩, ⟨(some 42), (.mov (.t 222)), none⟩]) (.seq (.seq (.ops [⟨(some 223), (.mov (.t 21)), none⟩, ⟨(some 224), (.mov (.t 23)), none⟩, ⟨(some 225), (.beq true (.t 223) (.t 224)), none⟩, ⟨(some 226), (.mov (.t 225)), none⟩, ⟨(some 227), (.mov (.t 20)), (some (226, false))⟩, ⟨(some 228), (.mov (.t 22)), (some (226, false))⟩, ⟨(some 229), (.bin .neq (.t 227) (.t 228)), (some (226, false))⟩, ⟨(some 230), (.pick (.t 226) (.c (.bool true)) (.t 229)), none⟩, ⟨(some 231), (.mov (.t 230)), none⟩, ⟨(some 232), (.mov (.t 25)), (some (231, false))⟩, ⟨(some 233), (.mov (.t 27)), (some (231, false))⟩, ⟨(some 234), (.beq true (.t 232) (.t 233)), (some (231, false))⟩, ⟨(some 235), (.pick (.t 231) (.c (.bool true)) (.t 234)), none⟩, ⟨(some 236), (.mov (.t 235)), none⟩, ⟨(some 237), (.mov (.t 24)), (some (236, false))⟩, ⟨(some 238), (.mov (.t 26)), (some (236, false))⟩, ⟨(some 239), (.bin .neq (.t 237) (.t 238)), (some (236, false))⟩, ⟨(some 240), (.pick (.t 236) (.c (.bool true)) (.t 239)), none⟩, ⟨(some 241), (.mov (.t 240)), none⟩, ⟨(some 242), (.mov (.t 30)), (some (241, false))⟩, ⟨(some 243), (.mov (.t 33)), (some (241, false))⟩, ⟨(some 244), (.beq true (.t 242) (.t 243)), (some (241, false))⟩, ⟨(some 245), (.pick (.t 241) (.c (.bool true)) (.t 244)), none⟩, ⟨(some 246), (.mov (.t 245)), none⟩, ⟨(some 247), (.mov (.t 28)), (some (246, false))⟩, ⟨(some 248), (.mov (.t 31)), (some (246, false))⟩, ⟨(some 249), (.bin .neq (.t 247) (.t 248)), (some (246, false))⟩, ⟨(some 250), (.pick (.t 246) (.c (.bool true)) (.t 249)), none⟩, ⟨(some 251), (.mov (.t 250)), none⟩, ⟨(some 252), (.mov (.t 29)), (some (251, false))⟩, ⟨(some 253), (.mov (.t 32)), (some (251, false))⟩, ⟨(some 254), (.bin .neq (.t 252) (.t 253)), (some (251, false))⟩, ⟨(some 255), (.pick (.t 251) (.c (.bool true)) (.t 254)), none⟩, ⟨(some 256), (.mov (.t 255)), none⟩, ⟨(some 257), (.mov (.t 35)), (some (256, false))⟩, ⟨(some 258), (.mov (.t 37)), (some (256, false))⟩, ⟨(some 259), (.beq true (.t 257) (.t 258)), (some (256, false))⟩, ⟨(some 260), (.pick (.t 256) (.c (.bool true)) (.t 259)), none⟩, ⟨(some 261), (.mov (.t 260)), none⟩, ⟨(some 262), (.mov (.t 34)), (some (261, false))⟩, ⟨(some 263), (.mov (.t 36)), (some (261, false))⟩, ⟨(some 264), (.call 24 [(.t 262), (.t 263)]), (some (261, false))⟩, ⟨(some 265), (.not (.t 264)), (some (261, false))⟩, ⟨(some 266), (.pick (.t 261) (.c (.bool true)) (.t 265)), none⟩, ⟨(some 267), (.mov (.t 266)), none⟩, ⟨(some 268), (.mov (.t 40)), (some (267, false))⟩, ⟨(some 269), (.mov (.t 42)), (some (267, false))⟩, ⟨(some 270), (.beq true (.t 268) (.t 269)), (some (267, false))⟩, ⟨(some 271), (.pick (.t 267) (.c (.bool true)) (.t 270)), none⟩, ⟨(some 272), (.mov (.t 271)), none⟩, ⟨(some 273), (.mov (.t 39)), (some (272, false))⟩, ⟨(some 274), (.mov (.t 41)), (some (272, false))⟩, ⟨(some 275), (.call 24 [(.t 273), (.t 274)]), (some (272, false))⟩, ⟨(some 276), (.not (.t 275)), (some (272, false))⟩, ⟨(some 277), (.pick (.t 272) (.c (.bool true)) (.t 276)), none⟩, ⟨(some 278), (.mov (.t 277)), none⟩, ⟨(some 279), (.mov (.t 25)), (some (278, false))⟩, ⟨(some 280), (.mov (.t 21)), (some (278, false))⟩, ⟨(some 281), (.beq true (.t 279) (.t 280)), (some (278, false))⟩, ⟨(some 282), (.pick (.t 278) (.c (.bool true)) (.t 281)), none⟩, ⟨(some 283), (.mov (.t 282)), none⟩, ⟨(some 284), (.mov (.t 30)), (some (283, false))⟩, ⟨(some 285), (.mov (.t 21)), (some (283, false))⟩, ⟨(some 286), (.beq true (.t 284) (.t 285)), (some (283, false))⟩, ⟨(some 287), (.pick (.t 283) (.c (.bool true)) (.t 286)), none⟩, ⟨(some 288), (.mov (.t 287)), none⟩, ⟨(some 289), (.mov (.t 35)), (some (288, false))⟩, ⟨(some 290), (.mov (.t 21)), (some (288, false))⟩, ⟨(some 291), (.mov (.t 290)), (some (288, false))⟩, ⟨(some 292), (.mov (.t 19)), (some (291, true))⟩, ⟨(some 293), (.bin .gtr (.t 292) (.c (.int .i64 1))), (some (291, true))⟩, ⟨(some 294), (.pick (.t 291) (.t 293) (.c (.bool false))), (some (288, false))⟩, ⟨(some 295), (.beq true (.t 289) (.t 294)), (some (288, false))⟩, ⟨(some 296), (.pick (.t 288) (.c (.bool true)) (.t 295)), none⟩]) (.cond (.t 296) (.seq (.ops [⟨(some 4), (.mov (.c (.bool false))), none⟩]) .ret) .skip)) (.seq (.seq (.ops [⟨(some 297), (.mov (.t 21)), none⟩]) (.cond (.t 297) (.seq (.ops [⟨(some 43), (.mov (.c (.int .i64 0))), none⟩, ⟨(some 44), (.mov (.c (.int .i64 0))), none⟩, ⟨(some 45), (.mov (.c (.int .i64 0))), none⟩, ⟨(some 46), (.mov (.c (.int .i64 1))), none⟩]) (.seq (.seq (.ops [⟨(some 47), (.mov (.c (.int .i64 0))), none⟩]) (.block 0 (.loop (.seq (.seq (.ops [⟨(some 298), (.mov (.t 47)), none⟩, ⟨(some 299), (.mov (.t 19)), none⟩, ⟨(some 300), (.bin .leq (.t 298) (.t 299)), none⟩]) (.cond (.t 300) .skip (.exit 0))) (.seq (.block 1 (.seq (.ops [⟨(some 304), (.mov (.t 19)), none⟩, ⟨(some 305), (.mov (.t 47)), none⟩, ⟨(some 306), (.call 6 [(.t 304), (.t 305)]), none⟩, ⟨(some 303), (.mov (.t 306)), none⟩, ⟨(some 307), (.ext (.t 303) 0), none⟩, ⟨(some 308), (.ext (.t 303) 1), none⟩, ⟨(some 48), (.mov (.t 307)), none⟩, ⟨(some 49), (.mov (.t 308)), none⟩]) (.seq (.ops [⟨(some 310), (.mov (.t 19)), none⟩, ⟨(some 311), (.mov (.t 47)), none⟩, ⟨(some 312), (.call 8 [(.t 310), (.t 311)]), none⟩, ⟨(some 309), (.mov (.t 312)), none⟩, ⟨(some 313), (.ext (.t 309) 0), none⟩, ⟨(some 314), (.ext (.t 309) 1), none⟩, ⟨(some 50), (.mov (.t 313)), none⟩, ⟨(some 51), (.mov (.t 314)), none⟩]) (.seq (.ops [⟨(some 316), (.mov (.t 19)), none⟩, ⟨(some 317), (.mov (.t 47)), none⟩, ⟨(some 318), (.call 10 [(.t 316), (.t 317)]), none⟩, ⟨(some 315), (.mov (.t 318)), none⟩, ⟨(some 319), (.ext (.t 315) 0), none⟩, ⟨(some 320), (.ext (.t 315) 1), none⟩, ⟨(some 52), (.mov (.t 319)), none⟩, ⟨(some 53), (.mov (.t 320)), none⟩]) (.seq (.seq (.ops [⟨(some 321), (.mov (.t 49)), none⟩, ⟨(some 322), (.not (.t 321)), none⟩, ⟨(some 323), (.mov (.t 322)), none⟩, ⟨(some 324), (.mov (.t 51)), (some (323, false))⟩, ⟨(some 325), (.not (.t 324)), (some (323, false))⟩, ⟨(some 326), (.pick (.t 323) (.c (.bool true)) (.t 325)), none⟩, ⟨(some 327), (.mov (.t 326)), none⟩, ⟨(some 328), (.mov (.t 53)), (some (327, false))⟩, ⟨(some 329), (.not (.t 328)), (some (327, false))⟩, ⟨(some 330), (.pick (.t 327) (.c (.bool true)) (.t 329)), none⟩, ⟨(some 331), (.mov (.t 330)), none⟩, ⟨(some 332), (.mov (.t 47)), (some (331, false))⟩, ⟨(some 333), (.bin .eql (.t 332) (.c (.int .i64 0))), (some (331, false))⟩, ⟨(some 334), (.mov (.t 333)), (some (331, false))⟩, ⟨(some 335), (.mov (.t 48)), (some (334, true))⟩, ⟨(some 336), (.mov (.t 29)), (some (334, true))⟩, ⟨(some 337), (.bin .mul (.t 335) (.t 336)), (some (334, true))⟩, ⟨(some 338), (.mov (.t 20)), (some (334, true))⟩, ⟨(some 339), (.mov (.t 28)), (some (334, true))⟩, ⟨(some 340), (.bin .mul (.t 338) (.t 339)), (some (334, true))⟩, ⟨(some 341), (.bin .neq (.t 337) (.t 340)), (some (334, true))⟩, ⟨(some 342), (.pick (.t 334) (.t 341) (.c (.bool false))), (some (331, false))⟩, ⟨(some 343), (.pick (.t 331) (.c (.bool true)) (.t 342)), none⟩]) (.cond (.t 343) (.seq (.ops [⟨(some 4), (.mov (.c (.bool false))), none⟩]) .ret) .skip)) (.seq (.ops [⟨(some 344), (.mov (.t 43)), none⟩, ⟨(some 345), (.mov (.t 48)), none⟩, ⟨(some 346), (.bin .add (.t 344) (.t 345)), none⟩, ⟨(some 43), (.mov (.t 346)), none⟩]) (.seq (.ops [⟨(some 347), (.mov (.t 44)), none⟩, ⟨(some 348), (.mov (.t 50)), none⟩, ⟨(some 349), (.bin .add (.t 347) (.t 348)), none⟩, ⟨(some 44), (.mov (.t 349)), none⟩]) (.ops [⟨(some 350), (.mov (.t 45)), none⟩, ⟨(some 351), (.mov (.t 52)), none⟩, ⟨(some 352), (.bin .add (.t 350) (.t 351)), none⟩, ⟨(some 45), (.mov (.t 352)), none⟩])))))))) (.ops [⟨(some 301), (.mov (.t 47)), none⟩, ⟨(some 302), (.bin .add (.t 301) (.c (.int .i64 1))), none⟩, ⟨(some 47), (.mov (.t 302)), none⟩])))))) (.seq (.seq (.ops [⟨(some 54), (.mov (.c (.int .i64 2))), none⟩]) (.block 2 (.loop (.seq (.seq (.ops [⟨(some 353), (.mov (.t 54)), none⟩, ⟨(some 354), (.mov (.t 19)), none⟩, ⟨(some 355), (.bin .mul (.c (.int .i64 2)) (.t 354)), none⟩, ⟨(some 356), (.bin .leq (.t 353) (.t 355)), none⟩]) (.cond (.t 356) .skip (.exit 2))) (.seq (.block 3 (.ops [⟨(some 359), (.mov (.t 46)), none⟩, ⟨(some 360), (.mov (.t 54)), none⟩, ⟨(some 361), (.bin .mul (.t 359) (.t 360)), none⟩, ⟨(some 46), (.mov (.t 361)), none⟩])) (.ops [⟨(some 357), (.mov (.t 54)), none⟩, ⟨(some 358), (.bin .add (.t 357) (.c (.int .i64 1))), none⟩, ⟨(some 54), (.mov (.t 358)), none⟩])))))) (.seq (.ops [⟨(some 362), (.mov (.t 43)), none⟩, ⟨(some 363), (.mov (.t 20)), none⟩, ⟨(some 364), (.bin .neq (.t 362) (.t 363)), none⟩, ⟨(some 365), (.mov (.t 364)), none⟩, ⟨(some 366), (.mov (.t 44)), (some (365, false))⟩, ⟨(some 367), (.mov (.t 46)), (some (365, false))⟩, ⟨(some 368), (.bin .neq (.t 366) (.t 367)), (some (365, false))⟩, ⟨(some 369), (.pick (.t 365) (.c (.bool true)) (.t 368)), none⟩, ⟨(some 370), (.mov (.t 369)), none⟩, ⟨(some 371), (.mov (.t 45)), (some (370, false))⟩, ⟨(some 372), (.mov (.t 24)), (some (370, false))⟩, ⟨(some 373), (.bin .neq (.t 371) (.t 372)), (some (370, false))⟩, ⟨(some 374), (.pick (.t 370) (.c (.bool true)) (.t 373)), none⟩, ⟨(some 375), (.mov (.t 374)), none⟩, ⟨(some 376), (.mov (.t 44)), (some (375, false))⟩, ⟨(some 377), (.mov (.t 19)), (some (375, false))⟩, ⟨(some 378), (.bin .mul (.c (.int .i64 2)) (.t 377)), (some (375, false))⟩, ⟨(some 379), (.mov (.t 20)), (some (375, false))⟩, ⟨(some 380), (.bin .mul (.t 378) (.t 379)), (some (375, false))⟩, ⟨(some 381), (.bin .neq (.t 376) (.t 380)), (some (375, false))⟩, ⟨(some 382), (.pick (.t 375) (.c (.bool true)) (.t 381)), none⟩]) (.cond (.t 382) (.seq (.ops [⟨(some 4), (.mov (.c (.bool false))), none⟩]) .ret) .skip))))) .skip)) (.seq (.seq (.ops [⟨(some 383), (.mov (.t 35)), none⟩]) (.cond (.t 383) (.seq (.ops [⟨(some 385), (.mov (.t 34)), none⟩, ⟨(some 386), (.call 25 [(.t 385)]), none⟩, ⟨(some 384), (.mov (.t 386)), none⟩, ⟨(some 387), (.ext (.t 384) 0), none⟩, ⟨(some 388), (.ext (.t 384) 1), none⟩, ⟨(some 55), (.mov (.t 387)), none⟩, ⟨(some 56), (.mov (.t 388)), none⟩]) (.seq (.ops [⟨(some 389), (.mov (.t 56)), none⟩, ⟨(some 390), (.not (.t 389)), none⟩, ⟨(some 391), (.mov (.t 390)), none⟩, ⟨(some 392), (.mov (.t 55)), (some (391, false))⟩, ⟨(some 393), (.len (.t 392)), (some (391, false))⟩, ⟨(some 394), (.bin .neq (.t 393) (.c (.int .i64 0))), (some (391, false))⟩, ⟨(some 395), (.pick (.t 391) (.c (.bool true)) (.t 394)), none⟩, ⟨(some 396), (.mov (.t 395)), none⟩, ⟨(some 397), (.mov (.t 34)), (some (396, false))⟩, ⟨(some 398), (.idx 1 (.t 397) (.c (.int .i64 0))), (some (396, false))⟩, ⟨(some 399), (.ld none (.t 398)), (some (396, false))⟩, ⟨(some 400), (.bin .neq (.t 399) (.c (.int .i64 0))), (some (396, false))⟩, ⟨(some 401), (.pick (.t 396) (.c (.bool true)) (.t 400)), none⟩]) (.cond (.t 401) (.seq (.ops [⟨(some 4), (.mov (.c (.bool false))), none⟩]) .ret) .skip))) .skip)) (.seq (.seq (.ops [⟨(some 402), (.mov (.t 40)), none⟩]) (.cond (.t 402) (.seq (.ops [⟨(some 404), (.mov (.t 39)), none⟩, ⟨(some 405), (.call 25 [(.t 404)]), none⟩, ⟨(some 403), (.mov (.t 405)), none⟩, ⟨(some 406), (.ext (.t 403) 0), none⟩, ⟨(some 407), (.ext (.t 403) 1), none⟩, ⟨(some 57), (.mov (.t 406)), none⟩, ⟨(some 58), (.mov (.t 407)), none⟩]) (.seq (.ops [⟨(some 408), (.mov (.t 58)), none⟩, ⟨(some 409), (.not (.t 408)), none⟩, ⟨(some 410), (.mov (.t 409)), none⟩, ⟨(some 411), (.mov (.t 57)), (some (410, false))⟩, ⟨(some 412), (.len (.t 411)), (some (410, false))⟩, ⟨(some 413), (.bin .neq (.t 412) (.c (.int .i64 0))), (some (410, false))⟩, ⟨(some 414), (.pick (.t 410) (.c (.bool true)) (.t 413)), none⟩, ⟨(some 415), (.mov (.t 414)), none⟩, ⟨(some 416), (.mov (.t 39)), (some (415, false))⟩, ⟨(some 417), (.idx 1 (.t 416) (.c (.int .i64 0))), (some (415, false))⟩, ⟨(some 418), (.ld none (.t 417)), (some (415, false))⟩, ⟨(some 419), (.bin .neq (.t 418) (.c (.int .i64 0))), (some (415, false))⟩, ⟨(some 420), (.pick (.t 415) (.c (.bool true)) (.t 419)), none⟩, ⟨(some 421), (.mov (.t 420)), none⟩, ⟨(some 422), (.mov (.t 38)), (some (421, false))⟩, ⟨(some 423), (.mov (.t 39)), (some (421, false))⟩, ⟨(some 424), (.call 26 [(.t 422), (.t 423)]), (some (421, false))⟩, ⟨(some 425), (.not (.t 424)), (some (421, false))⟩, ⟨(some 426), (.pick (.t 421) (.c (.bool true)) (.t 425)), none⟩]) (.cond (.t 426) (.seq (.ops [⟨(some 4), (.mov (.c (.bool false))), none⟩]) .ret) .skip))) .skip)) (.seq (.seq (.ops [⟨(some 427), (.mov (.t 35)), none⟩, ⟨(some 428), (.mov (.t 427)), none⟩, ⟨(some 429), (.mov (.t 19)), (some (428, true))⟩, ⟨(some 430), (.bin .lss (.t 429) (.c (.int .i64 4))), (some (428, true))⟩, ⟨(some 431), (.pick (.t 428) (.t 430) (.c (.bool false))), none⟩]) (.cond (.t 431) (.seq (.ops [⟨(some 432), (.mov (.t 34)), none⟩, ⟨(some 59), (.mov (.c (.int .i64 1))), none⟩, ⟨(some 60), (.mov (.t 432)), none⟩]) (.seq (.block 4 (.loop (.seq (.seq (.ops [⟨(some 433), (.mov (.t 59)), none⟩, ⟨(some 434), (.bin .lss (.t 433) (.c (.int .i64 200))), none⟩]) (.cond (.t 434) .skip (.exit 4))) (.block 5 (.seq (.ops [⟨(some 436), (.mov (.t 60)), none⟩, ⟨(some 437), (.call 22 [(.t 436)]), none⟩, ⟨(some 435), (.mov (.t 437)), none⟩, ⟨(some 438), (.ext (.t 435) 0), none⟩, ⟨(some 439), (.ext (.t 435) 1), none⟩, ⟨(some 61), (.mov (.t 438)), none⟩, ⟨(some 62), (.mov (.t 439)), none⟩]) (.seq (.seq (.ops [⟨(some 440), (.mov (.t 62)), none⟩, ⟨(some 441), (.not (.t 440)), none⟩]) (.cond (.t 441) (.exit 4) .skip)) (.seq (.ops [⟨(some 442), (.mov (.t 61)), none⟩, ⟨(some 60), (.mov (.t 442)), none⟩]) (.ops [⟨(some 443), (.mov (.t 59)), none⟩, ⟨(some 444), (.bin .add (.t 443) (.c (.int .i64 1))), none⟩, ⟨(some 59), (.mov (.t 444)), none⟩])))))))) (.seq (.ops [⟨(some 446), (.mov (.t 19)), none⟩, ⟨(some 447), (.call 6 [(.t 446), (.c (.int .i64 0))]), none⟩, ⟨(some 445), (.mov (.t 447)), none⟩, ⟨(some 448), (.ext (.t 445) 0), none⟩, ⟨(some 449), (.ext (.t 445) 1), none⟩, ⟨(some 63), (.mov (.t 448)), none⟩, ⟨(some 64), (.mov (.t 449)), none⟩]) (.seq (.ops [⟨(some 450), (.mov (.t 64)), none⟩, ⟨(some 451), (.mov (.t 450)), none⟩, ⟨(some 452), (.mov (.t 63)), (some (451, true))⟩, ⟨(some 453), (.mov (.t 59)), (some (451, true))⟩, ⟨(some 454), (.bin .eql (.t 452) (.t 453)), (some (451, true))⟩, ⟨(some 455), (.pick (.t 451) (.t 454) (.c (.bool false))), none⟩, ⟨(some 4), (.mov (.t 455)), none⟩]) .ret)))) .skip)) (.seq (.ops [⟨(some 4), (.mov (.c (.bool true))), none⟩]) .ret))))))))))))))))))))))))))))
theorem cc3 : ccode Tryz.prog (min Tryz.f3.ntmps pbase) (Tryz.f3.body.getD .skip) = some ac3 := by kernel_rfl
def ac4 : ACode := (.seq (.ops [⟨(some 4), (.mov (.c (.bool false))), none⟩]) (.seq (.ops [⟨(some 5), (.mov (.t 0)), none⟩, ⟨(some 6), (.len (.t 5)), none⟩, ⟨(some 7), (.bin .gtr (.t 6) (.c (.int .i64 1048576))), none⟩, ⟨(some 8), (.mov (.t 7)), none⟩, ⟨(some 9), (.mov (.t 1)), (some (8, false))⟩, ⟨(some 10), (.len (.t 9)), (some (8, false))⟩, ⟨(some 11), (.mov (.t 0)), (some (8, false))⟩, ⟨(some 12), (.len (.t 11)), (some (8, false))⟩, ⟨(some 13), (.bin .sub (.c (.int .i64 1048576)) (.t 12)), (some (8, false))⟩, ⟨(some 14), (.bin .gtr (.t 10) (.t 13)), (some (8, false))⟩, ⟨(some 15), (.pick (.t 8) (.c (.bool true)) (.t 14)), none⟩, ⟨(some 4), (.mov (.t 15)), none⟩]) .ret))
theorem cc4 : ccode Tryz.prog (min Tryz.f4.ntmps pbase) (Tryz.f4.body.getD .skip) = some ac4 := by kernel_rfl
def ac5 : ACode := (.seq (.ops [⟨(some 2), (.mov (.c (.int .i64 0))), none⟩, ⟨(some 3), (.mov (.c (.int .i64 0))), none⟩]) (.seq (.ops [⟨(some 5), (.mov (.t 0)), none⟩, ⟨(some 6), (.pu (.bld [(.slice none 0 0), (.int .i64 0), (.int .u64 0)] [(0, 1)]) [(.t 5)]), none⟩, ⟨(some 7), (.box 3 (.t 6)), none⟩, ⟨(some 4), (.mov (.t 7)), none⟩]) (.seq (.ops [⟨(some 8), (.mov (.t 4)), none⟩, ⟨(some 9), (.call 27 [(.t 8)]), none⟩, ⟨(some 10), (.ext (.t 9) 0), none⟩, ⟨(some 11), (.ext (.t 9) 1), none⟩, ⟨(some 2), (.mov (.t 10)), none⟩, ⟨(some 3), (.mov (.t 11)), none⟩]) .ret)))
theorem cc5 : ccode Tryz.prog (min Tryz.f5.ntmps pbase) (Tryz.f5.body.getD .skip) = some ac5 := by kernel_rfl
def ac6 : ACode := (.seq (.ops [⟨(some 4), (.mov (.c (.int .i64 0))), none⟩, ⟨(some 5), (.mov (.c (.bool false))), none⟩]) (.seq (.seq (.ops [⟨(some 6), (.mov (.t 0)), none⟩, ⟨(some 7), (.mov (.t 1)), none⟩, ⟨(some 8), (.call 28 [(.t 6), (.t 7)]), none⟩, ⟨(some 9), (.not (.t 8)), none⟩]) (.cond (.t 9) (.seq (.ops [⟨(some 4), (.mov (.c (.int .i64 0))), none⟩, ⟨(some 5), (.mov (.c (.bool false))), none⟩]) .ret) .skip)) (.seq (.ops [⟨(some 10), (.mov (.t 0)), none⟩, ⟨(some 11), (.call 29 [(.t 10)]), none⟩, ⟨(some 12), (.mov (.t 1)), none⟩, ⟨(some 13), (.idx 1 (.t 11) (.t 12)), none⟩, ⟨(some 14), (.ld none (.t 13)), none⟩, ⟨(some 4), (.mov (.t 14)), none⟩, ⟨(some 5), (.mov (.c (.bool true))), none⟩]) .ret)))
theorem cc6 : ccode Tryz.prog (min Tryz.f6.ntmps pbase) (Tryz.f6.body.getD .skip) = some ac6 := by kernel_rfl
def ac7 : ACode := (.seq (.ops [⟨(some 4), (.mov (.c (.int .i64 0))), none⟩, ⟨(some 5), (.mov (.c (.bool false))), none⟩]) (.seq (.seq (.ops [⟨(some 6), (.mov (.t 0)), none⟩, ⟨(some 7), (.call 30 [(.t 6)]), none⟩, ⟨(some 8), (.not (.t 7)), none⟩, ⟨(some 9), (.mov (.t 8)), none⟩, ⟨(some 10), (.mov (.t 1)), (some (9, false))⟩, ⟨(some 11), (.mov (.t 0)), (some (9, false))⟩, ⟨(some 12), (.call 31 [(.t 10), (.c (.int .i64 0)), (.t 11)]), (some (9, false))⟩, ⟨(some 13), (.not (.t 12)), (some (9, false))⟩, ⟨(some 14), (.pick (.t 9) (.c (.bool true)) (.t 13)), none⟩]) (.cond (.t 14) (.seq (.ops [⟨(some 4), (.mov (.c (.int .i64 0))), none⟩, ⟨(some 5), (.mov (.c (.bool false))), none⟩]) .ret) .skip)) (.seq (.ops [⟨(some 15), (.mov (.t 0)), none⟩, ⟨(some 16), (.call 33 [(.t 15)]), none⟩, ⟨(some 17), (.mov (.t 1)), none⟩, ⟨(some 18), (.call 32 [(.t 16), (.t 17)]), none⟩, ⟨(some 4), (.mov (.t 18)), none⟩, ⟨(some 5), (.mov (.c (.bool true))), none⟩]) .ret)))
theorem cc7 : ccode Tryz.prog (min Tryz.f7.ntmps pbase) (Tryz.f7.body.getD .skip) = some ac7 := by kernel_rfl
def ac8 : ACode := (.seq (.ops [⟨(some 4), (.mov (.c (.int .i64 0))), none⟩, ⟨(some 5), (.mov (.c (.bool false))), none⟩]) (.seq (.seq (.ops [⟨(some 6), (.mov (.t 0)), none⟩, ⟨(some 7), (.mov (.t 1)), none⟩, ⟨(some 8), (.call 28 [(.t 6), (.t 7)]), none⟩, ⟨(some 9), (.not (.t 8)), none⟩]) (.cond (.t 9) (.seq (.ops [⟨(some 4), (.mov (.c (.int .i64 0))), none⟩, ⟨(some 5), (.mov (.c (.bool false))), none⟩]) .ret) .skip)) (.seq (.ops [⟨(some 10), (.mov (.t 0)), none⟩, ⟨(some 11), (.call 34 [(.t 10), (.c (.func (.func 35) #[] #[]))]), none⟩, ⟨(some 12), (.mov (.t 1)), none⟩, ⟨(some 13), (.idx 1 (.t 11) (.t 12)), none⟩, ⟨(some 14), (.ld none (.t 13)), none⟩, ⟨(some 4), (.mov (.t 14)), none⟩, ⟨(some 5), (.mov (.c (.bool true))), none⟩]) .ret)))
theorem cc8 : ccode Tryz.prog (min Tryz.f8.ntmps pbase) (Tryz.f8.body.getD .skip) = some ac8 := by kernel_rfl
def ac9 : ACode := (.seq (.ops [⟨(some 4), (.mov (.c (.int .i64 0))), none⟩, ⟨(some 5), (.mov (.c (.bool false))), none⟩]) (.seq (.seq (.ops [⟨(some 8), (.mov (.t 0)), none⟩, ⟨(some 9), (.call 30 [(.t 8)]), none⟩, ⟨(some 10), (.not (.t 9)), none⟩, ⟨(some 11), (.mov (.t 10)), none⟩, ⟨(some 12), (.mov (.t 1)), (some (11, false))⟩, ⟨(some 13), (.mov (.t 0)), (some (11, false))⟩, ⟨(some 14), (.call 31 [(.t 12), (.c (.int .i64 0)), (.t 13)]), (some (11, false))⟩, ⟨(some 15), (.not (.t 14)), (some (11, false))⟩, ⟨(some 16), (.pick (.t 11) (.c (.bool true)) (.t 15)), none⟩]) (.cond (.t 16) (.seq (.ops [⟨(some 4), (.mov (.c (.int .i64 0))), none⟩, ⟨(some 5), (.mov (.c (.bool false))), none⟩]) .ret) .skip)) (.seq (.ops [⟨(some 6), (.nils 1), none⟩]) (.seq (.seq (.ops [⟨(some 7), (.mov (.c (.int .i64 0))), none⟩]) (.block 0 (.loop (.seq (.seq (.ops [⟨(some 17), (.mov (.t 7)), none⟩, ⟨(some 18), (.mov (.t 0)), none⟩, ⟨(some 19), (.bin .leq (.t 17) (.t 18)), none⟩]) (.cond (.t 19) .skip (.exit 0))) (.seq (.block 1 (.ops [⟨(some 22), (.mov (.t 6)), none⟩, ⟨(some 23), (.mov (.t 0)), none⟩, ⟨(some 24), (.mov (.t 7)), none⟩, ⟨(some 25), (.call 36 [(.t 23), (.t 24)]), none⟩, ⟨(some 26), (.mov (.t 7)), none⟩, ⟨(some 27), (.call 37 [(.t 26)]), none⟩, ⟨(some 28), (.bin .mul (.t 25) (.t 27)), none⟩, ⟨(some 29), (.mov (.t 0)), none⟩, ⟨(some 30), (.bin .mul (.c (.int .i64 2)) (.t 29)), none⟩, ⟨(some 31), (.mov (.t 7)), none⟩, ⟨(some 32), (.bin .sub (.t 30) (.t 31)), none⟩, ⟨(some 33), (.call 38 [(.t 32)]), none⟩, ⟨(some 34), (.bin .mul (.t 28) (.t 33)), none⟩, ⟨(some 35), (.bsl 1 1 [(.int .i64 0)] [(0, (.t 34))]), none⟩, ⟨(some 36), (.app 1 8 (.t 22) (.t 35)), none⟩, ⟨(some 6), (.mov (.t 36)), none⟩])) (.ops [⟨(some 20), (.mov (.t 7)), none⟩, ⟨(some 21), (.bin .add (.t 20) (.c (.int .i64 1))), none⟩, ⟨(some 7), (.mov (.t 21)), none⟩])))))) (.seq (.ops [⟨(some 37), (.mov (.t 6)), none⟩, ⟨(some 38), (.mov (.t 1)), none⟩, ⟨(some 39), (.call 32 [(.t 37), (.t 38)]), none⟩, ⟨(some 4), (.mov (.t 39)), none⟩, ⟨(some 5), (.mov (.c (.bool true))), none⟩]) .ret)))))
theorem cc9 : ccode Tryz.prog (min Tryz.f9.ntmps pbase) (Tryz.f9.body.getD .skip) = some ac9 := by kernel_rfl
def ac10 : ACode := (.seq (.ops [⟨(some 4), (.mov (.c (.int .i64 0))), none⟩, ⟨(some 5), (.mov (.c (.bool false))), none⟩]) (.seq (.seq (.ops [⟨(some 6), (.mov (.t 0)), none⟩, ⟨(some 7), (.mov (.t 1)), none⟩, ⟨(some 8), (.call 28 [(.t 6), (.t 7)]), none⟩, ⟨(some 9), (.not (.t 8)), none⟩]) (.cond (.t 9) (.seq (.ops [⟨(some 4), (.mov (.c (.int .i64 0))), none⟩, ⟨(some 5), (.mov (.c (.bool false))), none⟩]) .ret) .skip)) (.seq (.ops [⟨(some 10), (.mov (.t 0)), none⟩, ⟨(some 11), (.call 39 [(.t 10)]), none⟩, ⟨(some 12), (.mov (.t 1)), none⟩, ⟨(some 13), (.idx 1 (.t 11) (.t 12)), none⟩, ⟨(some 14), (.ld none (.t 13)), none⟩, ⟨(some 4), (.mov (.t 14)), none⟩, ⟨(some 5), (.mov (.c (.bool true))), none⟩]) .ret)))
theorem cc10 : ccode Tryz.prog (min Tryz.f10.ntmps pbase) (Tryz.f10.body.getD .skip) = some ac10 := by kernel_rfl
def ac11 : ACode := (.seq (.ops [⟨(some 4), (.mov (.c (.int .i64 0))), none⟩, ⟨(some 5), (.mov (.c (.bool false))), none⟩]) (.seq (.seq (.ops [⟨(some 9), (.mov (.t 0)), none⟩, ⟨(some 10), (.call 30 [(.t 9)]), none⟩, ⟨(some 11), (.not (.t 10)), none⟩, ⟨(some 12), (.mov (.t 11)), none⟩, ⟨(some 13), (.mov (.t 1)), (some (12, false))⟩, ⟨(some 14), (.mov (.t 0)), (some (12, false))⟩, ⟨(some 15), (.call 31 [(.t 13), (.c (.int .i64 0)), (.t 14)]), (some (12, false))⟩, ⟨(some 16), (.not (.t 15)), (some (12, false))⟩, ⟨(some 17), (.pick (.t 12) (.c (.bool true)) (.t 16)), none⟩]) (.cond (.t 17) (.seq (.ops [⟨(some 4), (.mov (.c (.int .i64 0))), none⟩, ⟨(some 5), (.mov (.c (.bool false))), none⟩]) .ret) .skip)) (.seq (.seq (.ops [⟨(some 18), (.mov (.t 0)), none⟩, ⟨(some 19), (.bin .eql (.t 18) (.c (.int .i64 1))), none⟩]) (.cond (.t 19) (.seq (.ops [⟨(some 20), (.mov (.t 1)), none⟩, ⟨(some 4), (.mov (.t 20)), none⟩, ⟨(some 5), (.mov (.c (.bool true))), none⟩]) .ret) .skip)) (.seq (.ops [⟨(some 6), (.nils 1), none⟩]) (.seq (.seq (.ops [⟨(some 7), (.mov (.c (.int .i64 0))), none⟩]) (.block 0 (.loop (.seq (.seq (.ops [⟨(some 21), (.mov (.t 7)), none⟩, ⟨(some 22), (.mov (.t 0)), none⟩, ⟨(some 23), (.bin .leq (.t 21) (.t 22)), none⟩]) (.cond (.t 23) .skip (.exit 0))) (.seq (.block 1 (.seq (.ops [⟨(some 26), (.mov (.t 0)), none⟩, ⟨(some 27), (.bin .mul (.c (.int .i64 2)) (.t 26)), none⟩, ⟨(some 28), (.mov (.t 0)), none⟩, ⟨(some 29), (.bin .mul (.c (.int .i64 2)) (.t 28)), none⟩, ⟨(some 30), (.mov (.t 7)), none⟩, ⟨(some 31), (.bin .sub (.t 29) (.t 30)), none⟩, ⟨(some 32), (.mov (.t 7)), none⟩, ⟨(some 33), (.call 36 [(.t 31), (.t 32)]), none⟩, ⟨(some 34), (.bin .mul (.t 27) (.t 33)), none⟩, ⟨(some 35), (.mov (.t 0)), none⟩, ⟨(some 36), (.bin .mul (.c (.int .i64 2)) (.t 35)), none⟩, ⟨(some 37), (.mov (.t 7)), none⟩, ⟨(some 38), (.bin .sub (.t 36) (.t 37)), none⟩, ⟨(some 39), (.bin .quo (.t 34) (.t 38)), none⟩, ⟨(some 8), (.mov (.t 39)), none⟩]) (.ops [⟨(some 40), (.mov (.t 6)), none⟩, ⟨(some 41), (.mov (.t 8)), none⟩, ⟨(some 42), (.mov (.t 0)), none⟩, ⟨(some 43), (.mov (.t 7)), none⟩, ⟨(some 44), (.bin .sub (.t 42) (.t 43)), none⟩, ⟨(some 45), (.call 38 [(.t 44)]), none⟩, ⟨(some 46), (.bin .mul (.t 41) (.t 45)), none⟩, ⟨(some 47), (.bsl 1 1 [(.int .i64 0)] [(0, (.t 46))]), none⟩, ⟨(some 48), (.app 1 8 (.t 40) (.t 47)), none⟩, ⟨(some 6), (.mov (.t 48)), none⟩]))) (.ops [⟨(some 24), (.mov (.t 7)), none⟩, ⟨(some 25), (.bin .add (.t 24) (.c (.int .i64 1))), none⟩, ⟨(some 7), (.mov (.t 25)), none⟩])))))) (.seq (.ops [⟨(some 49), (.mov (.t 0)), none⟩, ⟨(some 50), (.bin .sub (.t 49) (.c (.int .i64 1))), none⟩, ⟨(some 51), (.call 38 [(.t 50)]), none⟩, ⟨(some 52), (.mov (.t 6)), none⟩, ⟨(some 53), (.mov (.t 1)), none⟩, ⟨(some 54), (.call 32 [(.t 52), (.t 53)]), none⟩, ⟨(some 55), (.bin .mul (.t 51) (.t 54)), none⟩, ⟨(some 4), (.mov (.t 55)), none⟩, ⟨(some 5), (.mov (.c (.bool true))), none⟩]) .ret))))))
theorem cc11 : ccode Tryz.prog (min Tryz.f11.ntmps pbase) (Tryz.f11.body.getD .skip) = some ac11 := by kernel_rfl
def ac12 : ACode := (.seq (.ops [⟨(some 2), (.mov (.c (.int .i64 0))), none⟩]) (.seq (.ops [⟨(some 6), (.mov (.t 0)), none⟩, ⟨(some 7), (.pu (.bld [(.slice none 0 0), (.int .i64 0), (.int .u64 0)] [(0, 1)]) [(.t 6)]), none⟩, ⟨(some 8), (.box 3 (.t 7)), none⟩, ⟨(some 3), (.mov (.t 8)), none⟩]) (.seq (.ops [⟨(some 10), (.mov (.t 3)), none⟩, ⟨(some 11), (.call 27 [(.t 10)]), none⟩, ⟨(some 9), (.mov (.t 11)), none⟩, ⟨(some 12), (.ext (.t 9) 0), none⟩, ⟨(some 13), (.ext (.t 9) 1), none⟩, ⟨(some 4), (.mov (.t 12)), none⟩, ⟨(some 5), (.mov (.t 13)), none⟩]) (.seq (.ops [⟨(some 14), (.mov (.t 4)), none⟩, ⟨(some 2), (.mov (.t 14)), none⟩]) .ret))))
theorem cc12 : ccode Tryz.prog (min Tryz.f12.ntmps pbase) (Tryz.f12.body.getD .skip) = some ac12 := by kernel_rfl
def ac13 : ACode := (.seq (.ops [⟨(some 2), (.mov (.c (.int .i64 0))), none⟩, ⟨(some 3), (.mov (.c (.bool false))), none⟩]) (.seq (.seq (.ops [⟨(some 4), (.mov (.t 0)), none⟩, ⟨(some 5), (.call 40 [(.t 4)]), none⟩, ⟨(some 6), (.not (.t 5)), none⟩]) (.cond (.t 6) (.seq (.ops [⟨(some 2), (.mov (.c (.int .i64 0))), none⟩, ⟨(some 3), (.mov (.c (.bool false))), none⟩]) .ret) .skip)) (.seq (.ops [⟨(some 7), (.mov (.t 0)), none⟩, ⟨(some 8), (.call 41 [(.t 7)]), none⟩, ⟨(some 2), (.mov (.t 8)), none⟩, ⟨(some 3), (.mov (.c (.bool true))), none⟩]) .ret)))
theorem cc13 : ccode Tryz.prog (min Tryz.f13.ntmps pbase) (Tryz.f13.body.getD .skip) = some ac13 := by kernel_rfl
def ac14 : ACode := (.seq (.ops [⟨(some 2), (.mov (.c (.int .i64 0))), none⟩, ⟨(some 3), (.mov (.c (.bool false))), none⟩]) (.seq (.seq (.ops [⟨(some 4), (.mov (.t 0)), none⟩, ⟨(some 5), (.call 30 [(.t 4)]), none⟩, ⟨(some 6), (.not (.t 5)), none⟩]) (.cond (.t 6) (.seq (.ops [⟨(some 2), (.mov (.c (.int .i64 0))), none⟩, ⟨(some 3), (.mov (.c (.bool false))), none⟩]) .ret) .skip)) (.seq (.ops [⟨(some 7), (.mov (.t 0)), none⟩, ⟨(some 8), (.bin .mul (.c (.int .i64 2)) (.t 7)), none⟩, ⟨(some 9), (.bin .sub (.t 8) (.c (.int .i64 1))), none⟩, ⟨(some 10), (.call 38 [(.t 9)]), none⟩, ⟨(some 2), (.mov (.t 10)), none⟩, ⟨(some 3), (.mov (.c (.bool true))), none⟩]) .ret)))
theorem cc14 : ccode Tryz.prog (min Tryz.f14.ntmps pbase) (Tryz.f14.body.getD .skip) = some ac14 := by kernel_rfl
def ac15 : ACode := (.seq (.ops [⟨(some 2), (.mov (.c (.int .i64 0))), none⟩, ⟨(some 3), (.mov (.c (.bool false))), none⟩]) (.seq (.seq (.ops [⟨(some 4), (.mov (.t 0)), none⟩, ⟨(some 5), (.call 40 [(.t 4)]), none⟩, ⟨(some 6), (.not (.t 5)), none⟩]) (.cond (.t 6) (.seq (.ops [⟨(some 2), (.mov (.c (.int .i64 0))), none⟩, ⟨(some 3), (.mov (.c (.bool false))), none⟩]) .ret) .skip)) (.seq (.ops [⟨(some 7), (.mov (.t 0)), none⟩, ⟨(some 8), (.bin .sub (.t 7) (.c (.int .i64 1))), none⟩, ⟨(some 9), (.call 35 [(.t 8)]), none⟩, ⟨(some 10), (.mov (.t 0)), none⟩, ⟨(some 11), (.call 35 [(.t 10)]), none⟩, ⟨(some 12), (.bin .mul (.t 9) (.t 11)), none⟩, ⟨(some 2), (.mov (.t 12)), none⟩, ⟨(some 3), (.mov (.c (.bool true))), none⟩]) .ret)))
theorem cc15 : ccode Tryz.prog (min Tryz.f15.ntmps pbase) (Tryz.f15.body.getD .skip) = some ac15 := by kernel_rfl
def ac16 : ACode := (.seq (.ops [⟨(some 2), (.mov (.c (.int .i64 0))), none⟩, ⟨(some 3), (.mov (.c (.bool false))), none⟩]) (.seq (.seq (.ops [⟨(some 4), (.mov (.t 0)), none⟩, ⟨(some 5), (.call 30 [(.t 4)]), none⟩, ⟨(some 6), (.not (.t 5)), none⟩]) (.cond (.t 6) (.seq (.ops [⟨(some 2), (.mov (.c (.int .i64 0))), none⟩, ⟨(some 3), (.mov (.c (.bool false))), none⟩]) .ret) .skip)) (.seq (.ops [⟨(some 7), (.mov (.t 0)), none⟩, ⟨(some 8), (.call 38 [(.t 7)]), none⟩, ⟨(some 9), (.mov (.t 0)), none⟩, ⟨(some 10), (.bin .sub (.t 9) (.c (.int .i64 1))), none⟩, ⟨(some 11), (.call 38 [(.t 10)]), none⟩, ⟨(some 12), (.bin .mul (.t 8) (.t 11)), none⟩, ⟨(some 2), (.mov (.t 12)), none⟩, ⟨(some 3), (.mov (.c (.bool true))), none⟩]) .ret)))
theorem cc16 : ccode Tryz.prog (min Tryz.f16.ntmps pbase) (Tryz.f16.body.getD .skip) = some ac16 := by kernel_rfl
def ac17 : ACode := (.seq (.ops [⟨(some 2), (.mov (.c (.int .i64 0))), none⟩, ⟨(some 3), (.mov (.c (.int .i64 0))), none⟩, ⟨(some 4), (.mov (.c (.bool false))), none⟩]) (.seq (.seq (.ops [⟨(some 5), (.mov (.t 0)), none⟩, ⟨(some 6), (.call 40 [(.t 5)]), none⟩, ⟨(some 7), (.not (.t 6)), none⟩]) (.cond (.t 7) (.seq (.ops [⟨(some 2), (.mov (.c (.int .i64 0))), none⟩, ⟨(some 3), (.mov (.c (.int .i64 0))), none⟩, ⟨(some 4), (.mov (.c (.bool false))), none⟩]) .ret) .skip)) (.seq (.tree (.take ⟨(some 8), (.mov (.t 0)), none⟩ (.take ⟨(some 9), (.call 29 [(.t 8)]), none⟩ (.take ⟨(some 10), (.idx 1 (.t 9) (.c (.int .i64 0))), none⟩ (.take ⟨(some 11), (.ld none (.t 10)), none⟩ (.take ⟨(some 12), (.mov (.t 0)), none⟩ (.take ⟨(some 13), (.call 41 [(.t 12)]), none⟩ (.take ⟨(some 14), (.call 42 [(.t 11), (.t 13)]), none⟩ (.take ⟨(some 15), (.call 43 [(.t 14)]), none⟩ (.take ⟨(some 16), (.ext (.t 15) 0), none⟩ (.take ⟨(some 17), (.ext (.t 15) 1), none⟩ (.take ⟨(some 18), (.ext (.t 15) 2), none⟩ (.take ⟨(some 2), (.mov (.t 16)), none⟩ (.take ⟨(some 3), (.mov (.t 17)), none⟩ (.take ⟨(some 4), (.mov (.t 18)), none⟩ .done))))))))))))))) .ret)))
theorem cc17 : ccode Tryz.prog (min Tryz.f17.ntmps pbase) (Tryz.f17.body.getD .skip) = some ac17 := by kernel_rfl
def ac18 : ACode := (.seq (.ops [⟨(some 2), (.mov (.c (.int .i64 0))), none⟩, ⟨(some 3), (.mov (.c (.int .i64 0))), none⟩, ⟨(some 4), (.mov (.c (.bool false))), none⟩]) (.seq (.seq (.ops [⟨(some 7), (.mov (.t 0)), none⟩, ⟨(some 8), (.call 30 [(.t 7)]), none⟩, ⟨(some 9), (.not (.t 8)), none⟩]) (.cond (.t 9) (.seq (.ops [⟨(some 2), (.mov (.c (.int .i64 0))), none⟩, ⟨(some 3), (.mov (.c (.int .i64 0))), none⟩, ⟨(some 4), (.mov (.c (.bool false))), none⟩]) .ret) .skip)) (.seq (.ops [⟨(some 11), (.mov (.t 0)), none⟩, ⟨(some 12), (.call 33 [(.t 11)]), none⟩, ⟨(some 13), (.call 32 [(.t 12), (.c (.int .i64 0))]), none⟩, ⟨(some 14), (.mov (.t 0)), none⟩, ⟨(some 15), (.bin .mul (.c (.int .i64 2)) (.t 14)), none⟩, ⟨(some 16), (.bin .sub (.t 15) (.c (.int .i64 1))), none⟩, ⟨(some 17), (.call 38 [(.t 16)]), none⟩, ⟨(some 18), (.call 44 [(.t 13), (.t 17)]), none⟩, ⟨(some 10), (.mov (.t 18)), none⟩, ⟨(some 19), (.ext (.t 10) 0), none⟩, ⟨(some 20), (.ext (.t 10) 1), none⟩, ⟨(some 5), (.mov (.t 19)), none⟩, ⟨(some 6), (.mov (.t 20)), none⟩]) (.seq (.ops [⟨(some 21), (.mov (.t 5)), none⟩, ⟨(some 22), (.mov (.t 6)), none⟩, ⟨(some 2), (.mov (.t 21)), none⟩, ⟨(some 3), (.mov (.t 22)), none⟩, ⟨(some 4), (.mov (.c (.bool true))), none⟩]) .ret))))
theorem cc18 : ccode Tryz.prog (min Tryz.f18.ntmps pbase) (Tryz.f18.body.getD .skip) = some ac18 := by kernel_rfl
def ac19 : ACode := (.seq (.ops [⟨(some 2), (.nils 1), none⟩, ⟨(some 3), (.mov (.c (.bool false))), none⟩]) (.seq (.seq (.ops [⟨(some 4), (.mov (.t 0)), none⟩, ⟨(some 5), (.call 40 [(.t 4)]), none⟩, ⟨(some 6), (.not (.t 5)), none⟩]) (.cond (.t 6) (.seq (.ops [⟨(some 2), (.nils 1), none⟩, ⟨(some 3), (.mov (.c (.bool false))), none⟩]) .ret) .skip)) (.seq (.ops [⟨(some 7), (.mov (.t 0)), none⟩, ⟨(some 8), (.bin .mul (.c (.int .i64 2)) (.t 7)), none⟩, ⟨(some 9), (.mov (.t 0)), none⟩, ⟨(some 10), (.bin .mul (.c (.int .i64 2)) (.t 9)), none⟩, ⟨(some 11), (.call 46 [(.t 10)]), none⟩, ⟨(some 12), (.call 45 [(.t 8), (.t 11)]), none⟩, ⟨(some 13), (.ext (.t 12) 0), none⟩, ⟨(some 14), (.ext (.t 12) 1), none⟩, ⟨(some 2), (.mov (.t 13)), none⟩, ⟨(some 3), (.mov (.t 14)), none⟩]) .ret)))
theorem cc19 : ccode Tryz.prog (min Tryz.f19.ntmps pbase) (Tryz.f19.body.getD .skip) = some ac19 := by kernel_rfl
def ac20 : ACode := (.seq (.ops [⟨(some 2), (.nils 1), none⟩, ⟨(some 3), (.mov (.c (.bool false))), none⟩]) (.seq (.seq (.ops [⟨(some 6), (.mov (.t 0)), none⟩, ⟨(some 7), (.call 30 [(.t 6)]), none⟩, ⟨(some 8), (.not (.t 7)), none⟩]) (.cond (.t 8) (.seq (.ops [⟨(some 2), (.nils 1), none⟩, ⟨(some 3), (.mov (.c (.bool false))), none⟩]) .ret) .skip)) (.seq (.ops [⟨(some 10), (.mov (.t 0)), none⟩, ⟨(some 11), (.bin .mul (.c (.int .i64 2)) (.t 10)), none⟩, ⟨(some 12), (.bsl 1 1 [(.int .i64 0)] [(0, (.c (.int .i64 0)))]), none⟩, ⟨(some 13), (.call 47 [(.t 11), (.t 12), (.c (.slice none 0 0))]), none⟩, ⟨(some 9), (.mov (.t 13)), none⟩, ⟨(some 14), (.ext (.t 9) 0), none⟩, ⟨(some 15), (.ext (.t 9) 1), none⟩, ⟨(some 4), (.mov (.t 14)), none⟩, ⟨(some 5), (.mov (.t 15)), none⟩]) (.seq (.seq (.ops [⟨(some 16), (.mov (.t 5)), none⟩, ⟨(some 17), (.not (.t 16)), none⟩]) (.cond (.t 17) (.seq (.ops [⟨(some 2), (.nils 1), none⟩, ⟨(some 3), (.mov (.c (.bool false))), none⟩]) .ret) .skip)) (.seq (.ops [⟨(some 18), (.mov (.t 4)), none⟩, ⟨(some 2), (.mov (.t 18)), none⟩, ⟨(some 3), (.mov (.c (.bool true))), none⟩]) .ret)))))
theorem cc20 : ccode Tryz.prog (min Tryz.f20.ntmps pbase) (Tryz.f20.body.getD .skip) = some ac20 := by kernel_rfl
def ac21 : ACode := (.seq (.ops [⟨(some 2), (.nils 1), none⟩]) (.seq (.ops [⟨(some 5), (.mov (.t 0)), none⟩, ⟨(some 6), (.pu (.bld [(.slice none 0 0), (.int .i64 0), (.int .u64 0)] [(0, 1)]) [(.t 5)]), none⟩, ⟨(some 7), (.box 3 (.t 6)), none⟩, ⟨(some 3), (.mov (.t 7)), none⟩]) (.seq (.ops [⟨(some 8), (.mov (.t 3)), none⟩, ⟨(some 9), (.call 48 [(.t 8), (.c (.int .i64 5))]), none⟩, ⟨(some 4), (.mov (.t 9)), none⟩]) (.seq (.seq (.ops [⟨(some 10), (.mov (.t 4)), none⟩, ⟨(some 11), (.call 49 [(.t 10)]), none⟩, ⟨(some 12), (.mov (.t 11)), none⟩, ⟨(some 13), (.mov (.t 3)), (some (12, true))⟩, ⟨(some 14), (.call 50 [(.t 13), (.c (.int .i64 6))]), (some (12, true))⟩, ⟨(some 15), (.not (.t 14)), (some (12, true))⟩, ⟨(some 16), (.pick (.t 12) (.t 15) (.c (.bool false))), none⟩]) (.cond (.t 16) (.seq (.ops [⟨(some 17), (.mov (.t 4)), none⟩, ⟨(some 18), (.mov (.t 4)), none⟩, ⟨(some 19), (.call 52 [(.t 18), (.c (.int .i64 0))]), none⟩, ⟨(some 20), (.call 51 [(.t 17), (.t 19)]), none⟩, ⟨(some 2), (.mov (.t 20)), none⟩]) .ret) .skip)) (.seq (.ops [⟨(some 21), (.mov (.t 4)), none⟩, ⟨(some 2), (.mov (.t 21)), none⟩]) .ret)))))
theorem cc21 : ccode Tryz.prog (min Tryz.f21.ntmps pbase) (Tryz.f21.body.getD .skip) = some ac21 := by kernel_rfl
def ac22 : ACode := (.seq (.ops [⟨(some 2), (.nils 1), none⟩, ⟨(some 3), (.mov (.c (.bool false))), none⟩]) (.seq (.seq (.ops [⟨(some 4), (.mov (.t 0)), none⟩, ⟨(some 5), (.call 53 [(.t 4)]), none⟩, ⟨(some 6), (.not (.t 5)), none⟩, ⟨(some 7), (.mov (.t 6)), none⟩, ⟨(some 8), (.mov (.t 0)), (some (7, false))⟩, ⟨(some 9), (.idx 1 (.t 8) (.c (.int .i64 0))), (some (7, false))⟩, ⟨(some 10), (.ld none (.t 9)), (some (7, false))⟩, ⟨(some 11), (.bin .neq (.t 10) (.c (.int .i64 0))), (some (7, false))⟩, ⟨(some 12), (.pick (.t 7) (.c (.bool true)) (.t 11)), none⟩]) (.cond (.t 12) (.seq (.ops [⟨(some 2), (.nils 1), none⟩, ⟨(some 3), (.mov (.c (.bool false))), none⟩]) .ret) .skip)) (.seq (.ops [⟨(some 13), (.mov (.t 0)), none⟩, ⟨(some 14), (.mov (.t 0)), none⟩, ⟨(some 15), (.len (.t 14)), none⟩, ⟨(some 16), (.call 46 [(.t 15)]), none⟩, ⟨(some 17), (.call 54 [(.t 13), (.t 16)]), none⟩, ⟨(some 18), (.ext (.t 17) 0), none⟩, ⟨(some 19), (.ext (.t 17) 1), none⟩, ⟨(some 2), (.mov (.t 18)), none⟩, ⟨(some 3), (.mov (.t 19)), none⟩]) .ret)))
theorem cc22 : ccode Tryz.prog (min Tryz.f22.ntmps pbase) (Tryz.f22.body.getD .skip) = some ac22 := by kernel_rfl
def ac23 : ACode := (.seq (.ops [⟨(some 2), (.nils 1), none⟩, ⟨(some 3), (.mov (.c (.bool false))), none⟩]) (.seq (.seq (.ops [⟨(some 6), (.mov (.t 0)), none⟩, ⟨(some 7), (.call 49 [(.t 6)]), none⟩, ⟨(some 8), (.not (.t 7)), none⟩, ⟨(some 9), (.mov (.t 8)), none⟩, ⟨(some 10), (.mov (.t 0)), (some (9, false))⟩, ⟨(some 11), (.idx 1 (.t 10) (.c (.int .i64 0))), (some (9, false))⟩, ⟨(some 12), (.ld none (.t 11)), (some (9, false))⟩, ⟨(some 13), (.bin .neq (.t 12) (.c (.int .i64 0))), (some (9, false))⟩, ⟨(some 14), (.pick (.t 9) (.c (.bool true)) (.t 13)), none⟩]) (.cond (.t 14) (.seq (.ops [⟨(some 2), (.nils 1), none⟩, ⟨(some 3), (.mov (.c (.bool false))), none⟩]) .ret) .skip)) (.seq (.ops [⟨(some 16), (.mov (.t 0)), none⟩, ⟨(some 17), (.len (.t 16)), none⟩, ⟨(some 18), (.bsl 1 1 [(.int .i64 0)] [(0, (.c (.int .i64 0)))]), none⟩, ⟨(some 19), (.mov (.t 0)), none⟩, ⟨(some 20), (.call 47 [(.t 17), (.t 18), (.t 19)]), none⟩, ⟨(some 15), (.mov (.t 20)), none⟩, ⟨(some 21), (.ext (.t 15) 0), none⟩, ⟨(some 22), (.ext (.t 15) 1), none⟩, ⟨(some 4), (.mov (.t 21)), none⟩, ⟨(some 5), (.mov (.t 22)), none⟩]) (.seq (.seq (.ops [⟨(some 23), (.mov (.t 5)), none⟩, ⟨(some 24), (.not (.t 23)), none⟩]) (.cond (.t 24) (.seq (.ops [⟨(some 2), (.nils 1), none⟩, ⟨(some 3), (.mov (.c (.bool false))), none⟩]) .ret) .skip)) (.seq (.ops [⟨(some 25), (.mov (.t 4)), none⟩, ⟨(some 2), (.mov (.t 25)), none⟩, ⟨(some 3), (.mov (.c (.bool true))), none⟩]) .ret)))))
theorem cc23 : ccode Tryz.prog (min Tryz.f23.ntmps pbase) (Tryz.f23.body.getD .skip) = some ac23 := by kernel_rfl
def ac24 : ACode := (.seq (.ops [⟨(some 4), (.mov (.c (.bool false))), none⟩]) (.seq (.seq (.ops [⟨(some 6), (.mov (.t 0)), none⟩, ⟨(some 7), (.len (.t 6)), none⟩, ⟨(some 8), (.mov (.t 1)), none⟩, ⟨(some 9), (.len (.t 8)), none⟩, ⟨(some 10), (.bin .neq (.t 7) (.t 9)), none⟩]) (.cond (.t 10) (.seq (.ops [⟨(some 4), (.mov (.c (.bool false))), none⟩]) .ret) .skip)) (.seq (.seq (.ops [⟨(some 11), (.mov (.t 0)), none⟩, ⟨(some 12), (.len (.t 11)), none⟩, ⟨(some 13), (.mov (.c (.int .i64 0))), none⟩]) (.block 0 (.loop (.seq (.ops [⟨(some 14), (.bin .lss (.t 13) (.t 12)), none⟩]) (.seq (.cond (.t 14) .skip (.exit 0)) (.seq (.block 1 (.seq (.ops [⟨(some 15), (.mov (.t 13)), none⟩, ⟨(some 5), (.mov (.t 15)), none⟩]) (.seq (.tree (.take ⟨(some 16), (.mov (.t 0)), none⟩ (.take ⟨(some 17), (.mov (.t 5)), none⟩ (.take ⟨(some 18), (.idx 1 (.t 16) (.t 17)), none⟩ (.take ⟨(some 19), (.ld none (.t 18)), none⟩ (.take ⟨(some 20), (.mov (.t 1)), none⟩ (.take ⟨(some 21), (.mov (.t 5)), none⟩ (.take ⟨(some 22), (.idx 1 (.t 20) (.t 21)), none⟩ (.take ⟨(some 23), (.ld none (.t 22)), none⟩ (.take ⟨(some 24), (.bin .neq (.t 19) (.t 23)), none⟩ .done)))))))))) (.cond (.t 24) (.seq (.ops [⟨(some 4), (.mov (.c (.bool false))), none⟩]) .ret) .skip)))) (.ops [⟨(some 25), (.bin .add (.t 13) (.c (.int .i64 1))), none⟩, ⟨(some 13), (.mov (.t 25)), none⟩]))))))) (.seq (.ops [⟨(some 4), (.mov (.c (.bool true))), none⟩]) .ret))))
theorem cc24 : ccode Tryz.prog (min Tryz.f24.ntmps pbase) (Tryz.f24.body.getD .skip) = some ac24 := by kernel_rfl
def ac25 : ACode := (.seq (.ops [⟨(some 2), (.nils 1), none⟩, ⟨(some 3), (.mov (.c (.bool false))), none⟩]) (.seq (.seq (.ops [⟨(some 4), (.mov (.t 0)), none⟩, ⟨(some 5), (.call 53 [(.t 4)]), none⟩, ⟨(some 6), (.not (.t 5)), none⟩]) (.cond (.t 6) (.seq (.ops [⟨(some 2), (.nils 1), none⟩, ⟨(some 3), (.mov (.c (.bool false))), none⟩]) .ret) .skip)) (.seq (.ops [⟨(some 7), (.mov (.t 0)), none⟩, ⟨(some 8), (.call 55 [(.t 7)]), none⟩, ⟨(some 9), (.call 56 [(.t 8)]), none⟩, ⟨(some 2), (.mov (.t 9)), none⟩, ⟨(some 3), (.mov (.c (.bool true))), none⟩]) .ret)))
theorem cc25 : ccode Tryz.prog (min Tryz.f25.ntmps pbase) (Tryz.f25.body.getD .skip) = some ac25 := by kernel_rfl
def ac26 : ACode := (.seq (.ops [⟨(some 4), (.mov (.c (.bool false))), none⟩]) (.seq (.seq (.ops [⟨(some 7), (.mov (.t 0)), none⟩, ⟨(some 8), (.len (.t 7)), none⟩, ⟨(some 9), (.mov (.c (.int .i64 0))), none⟩]) (.block 0 (.loop (.seq (.ops [⟨(some 10), (.bin .lss (.t 9) (.t 8)), none⟩]) (.seq (.cond (.t 10) .skip (.exit 0)) (.seq (.block 1 (.seq (.ops [⟨(some 11), (.mov (.t 9)), none⟩, ⟨(some 12), (.idx 1 (.t 7) (.t 9)), none⟩, ⟨(some 13), (.ld none (.t 12)), none⟩, ⟨(some 5), (.mov (.t 11)), none⟩, ⟨(some 6), (.mov (.t 13)), none⟩]) (.seq (.ops [⟨(some 14), (.mov (.t 6)), none⟩, ⟨(some 15), (.mov (.t 1)), none⟩, ⟨(some 16), (.mov (.t 5)), none⟩, ⟨(some 17), (.idx 1 (.t 15) (.t 16)), none⟩, ⟨(some 18), (.ld none (.t 17)), none⟩, ⟨(some 19), (.bin .neq (.t 14) (.t 18)), none⟩]) (.cond (.t 19) (.seq (.ops [⟨(some 20), (.mov (.t 6)), none⟩, ⟨(some 21), (.mov (.t 1)), none⟩, ⟨(some 22), (.mov (.t 5)), none⟩, ⟨(some 23), (.idx 1 (.t 21) (.t 22)), none⟩, ⟨(some 24), (.ld none (.t 23)), none⟩, ⟨(some 25), (.bin .lss (.t 20) (.t 24)), none⟩, ⟨(some 4), (.mov (.t 25)), none⟩]) .ret) .skip)))) (.ops [⟨(some 26), (.bin .add (.t 9) (.c (.int .i64 1))), none⟩, ⟨(some 9), (.mov (.t 26)), none⟩]))))))) (.seq (.ops [⟨(some 4), (.mov (.c (.bool false))), none⟩]) .ret)))
theorem cc26 : ccode Tryz.prog (min Tryz.f26.ntmps pbase) (Tryz.f26.body.getD .skip) = some ac26 := by kernel_rfl
def ac27 : ACode := (.seq (.ops [⟨(some 2), (.mov (.c (.int .i64 0))), none⟩, ⟨(some 3), (.mov (.c (.int .i64 0))), none⟩]) (.seq (.seq (.ops [⟨(some 5), (.mov (.t 0)), none⟩, ⟨(some 6), (.call 50 [(.t 5), (.c (.int .i64 10))]), none⟩]) (.cond (.t 6) (.seq (.ops [⟨(some 7), (.mov (.t 0)), none⟩, ⟨(some 8), (.bsl 1 6 [(.int .i64 0)] [(0, (.c (.int .i64 (-1)))), (1, (.c (.int .i64 0))), (2, (.c (.int .i64 1))), (3, (.c (.int .i64 7))), (4, (.c (.int .i64 8))), (5, (.c (.int .i64 4611686018427387904)))]), none⟩, ⟨(some 9), (.call 57 [(.t 7), (.t 8)]), none⟩, ⟨(some 10), (.mov (.t 0)), none⟩, ⟨(some 11), (.bsl 1 5 [(.int .i64 0)] [(0, (.c (.int .i64 (-1)))), (1, (.c (.int .i64 0))), (2, (.c (.int .i64 1))), (3, (.c (.int .i64 7))), (4, (.c (.int .i64 8)))]), none⟩, ⟨(some 12), (.call 57 [(.t 10), (.t 11)]), none⟩, ⟨(some 2), (.mov (.t 9)), none⟩, ⟨(some 3), (.mov (.t 12)), none⟩]) .ret) .skip)) (.seq (.ops [⟨(some 13), (.mov (.t 0)), none⟩, ⟨(some 14), (.call 58 [(.t 13), (.c (.int .i64 7))]), none⟩, ⟨(some 15), (.bin .add (.c (.int .i64 1)) (.t 14)), none⟩, ⟨(some 4), (.mov (.t 15)), none⟩]) (.seq (.ops [⟨(some 16), (.mov (.t 4)), none⟩, ⟨(some 17), (.mov (.t 0)), none⟩, ⟨(some 18), (.mov (.t 4)), none⟩, ⟨(some 19), (.bin .add (.t 18) (.c (.int .i64 2))), none⟩, ⟨(some 20), (.call 58 [(.t 17), (.t 19)]), none⟩, ⟨(some 21), (.mov (.t 0)), none⟩, ⟨(some 22), (.call 58 [(.t 21), (.c (.int .i64 9))]), none⟩, ⟨(some 23), (.bin .quo (.t 22) (.c (.int .i64 8))), none⟩, ⟨(some 24), (.bin .sub (.t 20) (.t 23)), none⟩, ⟨(some 2), (.mov (.t 16)), none⟩, ⟨(some 3), (.mov (.t 24)), none⟩]) .ret))))
theorem cc27 : ccode Tryz.prog (min Tryz.f27.ntmps pbase) (Tryz.f27.body.getD .skip) = some ac27 := by kernel_rfl
def ac28 : ACode := (.seq (.ops [⟨(some 4), (.mov (.c (.bool false))), none⟩]) (.seq (.ops [⟨(some 5), (.mov (.t 0)), none⟩, ⟨(some 6), (.call 40 [(.t 5)]), none⟩, ⟨(some 7), (.mov (.t 6)), none⟩, ⟨(some 8), (.mov (.t 1)), (some (7, true))⟩, ⟨(some 9), (.bin .geq (.t 8) (.c (.int .i64 0))), (some (7, true))⟩, ⟨(some 10), (.pick (.t 7) (.t 9) (.c (.bool false))), none⟩, ⟨(some 11), (.mov (.t 10)), none⟩, ⟨(some 12), (.mov (.t 1)), (some (11, true))⟩, ⟨(some 13), (.mov (.t 0)), (some (11, true))⟩, ⟨(some 14), (.bin .leq (.t 12) (.t 13)), (some (11, true))⟩, ⟨(some 15), (.pick (.t 11) (.t 14) (.c (.bool false))), none⟩, ⟨(some 4), (.mov (.t 15)), none⟩]) .ret))
theorem cc28 : ccode Tryz.prog (min Tryz.f28.ntmps pbase) (Tryz.f28.body.getD .skip) = some ac28 := by kernel_rfl
def ac29 : ACode := (.seq (.ops [⟨(some 2), (.nils 1), none⟩]) (.seq (.seq (.ops [⟨(some 3), (.mov (.t 0)), none⟩, ⟨(some 4), (.bin .eql (.t 3) (.c (.int .i64 1))), none⟩]) (.cond (.t 4) (.seq (.ops [⟨(some 5), (.bsl 1 2 [(.int .i64 0)] [(0, (.c (.int .i64 0))), (1, (.c (.int .i64 1)))]), none⟩, ⟨(some 2), (.mov (.t 5)), none⟩]) .ret) .skip)) (.seq (.ops [⟨(some 6), (.mov (.t 0)), none⟩, ⟨(some 7), (.call 34 [(.t 6), (.c (.func (.func 59) #[] #[]))]), none⟩, ⟨(some 2), (.mov (.t 7)), none⟩]) .ret)))
theorem cc29 : ccode Tryz.prog (min Tryz.f29.ntmps pbase) (Tryz.f29.body.getD .skip) = some ac29 := by kernel_rfl
def ac30 : ACode := (.seq (.ops [⟨(some 2), (.mov (.c (.bool false))), none⟩]) (.seq (.ops [⟨(some 3), (.mov (.t 0)), none⟩, ⟨(some 4), (.call 31 [(.t 3), (.c (.int .i64 1)), (.c (.int .i64 7))]), none⟩, ⟨(some 2), (.mov (.t 4)), none⟩]) .ret))
theorem cc30 : ccode Tryz.prog (min Tryz.f30.ntmps pbase) (Tryz.f30.body.getD .skip) = some ac30 := by kernel_rfl
def ac31 : ACode := (.seq (.ops [⟨(some 6), (.mov (.c (.bool false))), none⟩]) (.seq (.ops [⟨(some 7), (.mov (.t 0)), none⟩, ⟨(some 8), (.mov (.t 1)), none⟩, ⟨(some 9), (.bin .geq (.t 7) (.t 8)), none⟩, ⟨(some 10), (.mov (.t 9)), none⟩, ⟨(some 11), (.mov (.t 0)), (some (10, true))⟩, ⟨(some 12), (.mov (.t 2)), (some (10, true))⟩, ⟨(some 13), (.bin .leq (.t 11) (.t 12)), (some (10, true))⟩, ⟨(some 14), (.pick (.t 10) (.t 13) (.c (.bool false))), none⟩, ⟨(some 6), (.mov (.t 14)), none⟩]) .ret))
theorem cc31 : ccode Tryz.prog (min Tryz.f31.ntmps pbase) (Tryz.f31.body.getD .skip) = some ac31 := by kernel_rfl
def ac32 : ACode := (.seq (.ops [⟨(some 4), (.mov (.c (.int .i64 0))), none⟩]) (.seq (.ops [⟨(some 5), (.mov (.c (.int .i64 0))), none⟩]) (.seq (.seq (.ops [⟨(some 8), (.mov (.t 1)), none⟩, ⟨(some 6), (.mov (.t 8)), none⟩]) (.block 0 (.loop (.seq (.seq (.ops [⟨(some 9), (.mov (.t 6)), none⟩, ⟨(some 10), (.mov (.t 0)), none⟩, ⟨(some 11), (.len (.t 10)), none⟩, ⟨(some 12), (.bin .lss (.t 9) (.t 11)), none⟩]) (.cond (.t 12) .skip (.exit 0))) (.seq (.block 1 (.seq (.tree (.take ⟨(some 15), (.mov (.t 0)), none⟩ (.take ⟨(some 16), (.mov (.t 6)), none⟩ (.take ⟨(some 17), (.idx 1 (.t 15) (.t 16)), none⟩ (.take ⟨(some 18), (.ld none (.t 17)), none⟩ (.take ⟨(some 19), (.mov (.t 6)), none⟩ (.take ⟨(some 20), (.mov (.t 1)), none⟩ (.take ⟨(some 21), (.call 36 [(.t 19), (.t 20)]), none⟩ (.take ⟨(some 22), (.bin .mul (.t 18) (.t 21)), none⟩ (.take ⟨(some 7), (.mov (.t 22)), none⟩ .done)))))))))) (.seq (.seq (.ops [⟨(some 23), (.mov (.t 6)), none⟩, ⟨(some 24), (.mov (.t 1)), none⟩, ⟨(some 25), (.bin .sub (.t 23) (.t 24)), none⟩, ⟨(some 26), (.bin .rem (.t 25) (.c (.int .i64 2))), none⟩, ⟨(some 27), (.bin .eql (.t 26) (.c (.int .i64 1))), none⟩]) (.cond (.t 27) (.ops [⟨(some 28), (.mov (.t 7)), none⟩, ⟨(some 29), (.neg (.t 28)), none⟩, ⟨(some 7), (.mov (.t 29)), none⟩]) .skip)) (.ops [⟨(some 30), (.mov (.t 5)), none⟩, ⟨(some 31), (.mov (.t 7)), none⟩, ⟨(some 32), (.bin .add (.t 30) (.t 31)), none⟩, ⟨(some 5), (.mov (.t 32)), none⟩])))) (.ops [⟨(some 13), (.mov (.t 6)), none⟩, ⟨(some 14), (.bin .add (.t 13) (.c (.int .i64 1))), none⟩, ⟨(some 6), (.mov (.t 14)), none⟩])))))) (.seq (.ops [⟨(some 33), (.mov (.t 5)), none⟩, ⟨(some 4), (.mov (.t 33)), none⟩]) .ret))))
theorem cc32 : ccode Tryz.prog (min Tryz.f32.ntmps pbase) (Tryz.f32.body.getD .skip) = some ac32 := by kernel_rfl
def ac33 : ACode := (.seq (.ops [⟨(some 2), (.nils 1), none⟩]) (.seq (.ops [⟨(some 3), (.nils 1), none⟩]) (.seq (.seq (.ops [⟨(some 4), (.mov (.c (.int .i64 0))), none⟩]) (.block 0 (.loop (.seq (.seq (.ops [⟨(some 6), (.mov (.t 4)), none⟩, ⟨(some 7), (.mov (.t 0)), none⟩, ⟨(some 8), (.bin .leq (.t 6) (.t 7)), none⟩]) (.cond (.t 8) .skip (.exit 0))) (.seq (.block 1 (.seq (.ops [⟨(some 11), (.mov (.t 0)), none⟩, ⟨(some 12), (.bin .mul (.c (.int .i64 2)) (.t 11)), none⟩, ⟨(some 13), (.mov (.t 4)), none⟩, ⟨(some 14), (.bin .sub (.t 12) (.t 13)), none⟩, ⟨(some 15), (.bin .sub (.t 14) (.c (.int .i64 1))), none⟩, ⟨(some 16), (.call 38 [(.t 15)]), none⟩, ⟨(some 5), (.mov (.t 16)), none⟩]) (.seq (.seq (.ops [⟨(some 17), (.mov (.t 0)), none⟩, ⟨(some 18), (.bin .eql (.t 17) (.c (.int .i64 1))), none⟩]) (.cond (.t 18) (.seq (.ops [⟨(some 19), (.mov (.t 3)), none⟩, ⟨(some 20), (.bsl 1 1 [(.int .i64 0)] [(0, (.c (.int .i64 1)))]), none⟩, ⟨(some 21), (.app 1 8 (.t 19) (.t 20)), none⟩, ⟨(some 3), (.mov (.t 21)), none⟩]) (.exit 1)) .skip)) (.ops [⟨(some 22), (.mov (.t 3)), none⟩, ⟨(some 23), (.mov (.t 0)), none⟩, ⟨(some 24), (.mov (.t 4)), none⟩, ⟨(some 25), (.call 36 [(.t 23), (.t 24)]), none⟩, ⟨(some 26), (.mov (.t 4)), none⟩, ⟨(some 27), (.call 37 [(.t 26)]), none⟩, ⟨(some 28), (.bin .mul (.t 25) (.t 27)), none⟩, ⟨(some 29), (.mov (.t 5)), none⟩, ⟨(some 30), (.bin .mul (.t 28) (.t 29)), none⟩, ⟨(some 31), (.bsl 1 1 [(.int .i64 0)] [(0, (.t 30))]), none⟩, ⟨(some 32), (.app 1 8 (.t 22) (.t 31)), none⟩, ⟨(some 3), (.mov (.t 32)), none⟩])))) (.ops [⟨(some 9), (.mov (.t 4)), none⟩, ⟨(some 10), (.bin .add (.t 9) (.c (.int .i64 1))), none⟩, ⟨(some 4), (.mov (.t 10)), none⟩])))))) (.seq (.ops [⟨(some 33), (.mov (.t 3)), none⟩, ⟨(some 2), (.mov (.t 33)), none⟩]) .ret))))
theorem cc33 : ccode Tryz.prog (min Tryz.f33.ntmps pbase) (Tryz.f33.body.getD .skip) = some ac33 := by kernel_rfl
def ac34 : ACode := (.seq (.ops [⟨(some 4), (.nils 1), none⟩]) (.seq (.ops [⟨(some 7), (.mov (.t 0)), none⟩, ⟨(some 8), (.bin .add (.t 7) (.c (.int .i64 1))), none⟩, ⟨(some 9), (.mk 1 8 [(.int .i64 0)] (.t 8) (.t 8)), none⟩, ⟨(some 5), (.mov (.t 9)), none⟩]) (.seq (.seq (.ops [⟨(some 10), (.mov (.t 5)), none⟩, ⟨(some 11), (.len (.t 10)), none⟩, ⟨(some 12), (.mov (.c (.int .i64 0))), none⟩]) (.block 0 (.loop (.seq (.ops [⟨(some 13), (.bin .lss (.t 12) (.t 11)), none⟩]) (.seq (.cond (.t 13) .skip (.exit 0)) (.seq (.block 1 (.seq (.ops [⟨(some 14), (.mov (.t 12)), none⟩, ⟨(some 6), (.mov (.t 14)), none⟩]) (.tree (.take ⟨(some 15), (.mov (.t 5)), none⟩ (.take ⟨(some 16), (.mov (.t 6)), none⟩ (.take ⟨(some 17), (.mov (.t 0)), none⟩ (.take ⟨(some 18), (.mov (.t 6)), none⟩ (.take ⟨(some 19), (.call 60 [(.t 17), (.t 18)]), none⟩ (.take ⟨(some 20), (.mov (.t 6)), none⟩ (.take ⟨(some 21), (.bin .shl (.t 19) (.t 20)), none⟩ (.take ⟨(some 22), (.mov (.t 1)), none⟩ (.take ⟨(some 23), (.mov (.t 0)), none⟩ (.take ⟨(some 24), (.bin .mul (.c (.int .i64 2)) (.t 23)), none⟩ (.take ⟨(some 25), (.mov (.t 6)), none⟩ (.take ⟨(some 26), (.bin .sub (.t 24) (.t 25)), none⟩ (.take ⟨(some 27), (.callv (.t 22) [(.t 26)]), none⟩ (.take ⟨(some 28), (.bin .mul (.t 21) (.t 27)), none⟩ (.take ⟨(some 29), (.idx 1 (.t 15) (.t 16)), none⟩ (.take ⟨none, (.st 1 (.t 29) (.t 28)), none⟩ .done))))))))))))))))))) (.ops [⟨(some 30), (.bin .add (.t 12) (.c (.int .i64 1))), none⟩, ⟨(some 12), (.mov (.t 30)), none⟩]))))))) (.seq (.ops [⟨(some 31), (.mov (.t 5)), none⟩, ⟨(some 32), (.call 61 [(.t 31)]), none⟩, ⟨(some 4), (.mov (.t 32)), none⟩]) .ret))))
theorem cc34 : ccode Tryz.prog (min Tryz.f34.ntmps pbase) (Tryz.f34.body.getD .skip) = some ac34 := by kernel_rfl
def ac35 : ACode := (.seq (.ops [⟨(some 2), (.mov (.c (.int .i64 0))), none⟩]) (.seq (.ops [⟨(some 3), (.mov (.c (.int .i64 1))), none⟩]) (.seq (.seq (.ops [⟨(some 4), (.mov (.c (.int .i64 2))), none⟩]) (.block 0 (.loop (.seq (.seq (.ops [⟨(some 5), (.mov (.t 4)), none⟩, ⟨(some 6), (.mov (.t 0)), none⟩, ⟨(some 7), (.bin .leq (.t 5) (.t 6)), none⟩]) (.cond (.t 7) .skip (.exit 0))) (.seq (.block 1 (.ops [⟨(some 10), (.mov (.t 3)), none⟩, ⟨(some 11), (.mov (.t 4)), none⟩, ⟨(some 12), (.bin .mul (.t 10) (.t 11)), none⟩, ⟨(some 3), (.mov (.t 12)), none⟩])) (.ops [⟨(some 8), (.mov (.t 4)), none⟩, ⟨(some 9), (.bin .add (.t 8) (.c (.int .i64 1))), none⟩, ⟨(some 4), (.mov (.t 9)), none⟩])))))) (.seq (.ops [⟨(some 13), (.mov (.t 3)), none⟩, ⟨(some 2), (.mov (.t 13)), none⟩]) .ret))))
theorem cc35 : ccode Tryz.prog (min Tryz.f35.ntmps pbase) (Tryz.f35.body.getD .skip) = some ac35 := by kernel_rfl
def ac36 : ACode := (.seq (.ops [⟨(some 4), (.mov (.c (.int .i64 0))), none⟩]) (.seq (.ops [⟨(some 5), (.mov (.c (.int .i64 1))), none⟩]) (.seq (.seq (.ops [⟨(some 6), (.mov (.c (.int .i64 1))), none⟩]) (.block 0 (.loop (.seq (.seq (.ops [⟨(some 7), (.mov (.t 6)), none⟩, ⟨(some 8), (.mov (.t 1)), none⟩, ⟨(some 9), (.bin .leq (.t 7) (.t 8)), none⟩]) (.cond (.t 9) .skip (.exit 0))) (.seq (.block 1 (.ops [⟨(some 12), (.mov (.t 5)), none⟩, ⟨(some 13), (.mov (.t 0)), none⟩, ⟨(some 14), (.mov (.t 1)), none⟩, ⟨(some 15), (.bin .sub (.t 13) (.t 14)), none⟩, ⟨(some 16), (.mov (.t 6)), none⟩, ⟨(some 17), (.bin .add (.t 15) (.t 16)), none⟩, ⟨(some 18), (.bin .mul (.t 12) (.t 17)), none⟩, ⟨(some 19), (.mov (.t 6)), none⟩, ⟨(some 20), (.bin .quo (.t 18) (.t 19)), none⟩, ⟨(some 5), (.mov (.t 20)), none⟩])) (.ops [⟨(some 10), (.mov (.t 6)), none⟩, ⟨(some 11), (.bin .add (.t 10) (.c (.int .i64 1))), none⟩, ⟨(some 6), (.mov (.t 11)), none⟩])))))) (.seq (.ops [⟨(some 21), (.mov (.t 5)), none⟩, ⟨(some 4), (.mov (.t 21)), none⟩]) .ret))))
theorem cc36 : ccode Tryz.prog (min Tryz.f36.ntmps pbase) (Tryz.f36.body.getD .skip) = some ac36 := by kernel_rfl
def ac37 : ACode := (.seq (.ops [⟨(some 2), (.mov (.c (.int .i64 0))), none⟩]) (.seq (.ops [⟨(some 3), (.mov (.t 0)), none⟩, ⟨(some 4), (.bin .shl (.c (.int .i64 1)) (.t 3)), none⟩, ⟨(some 2), (.mov (.t 4)), none⟩]) .ret))
theorem cc37 : ccode Tryz.prog (min Tryz.f37.ntmps pbase) (Tryz.f37.body.getD .skip) = some ac37 := by kernel_rfl
def ac38 : ACode := (.seq (.ops [⟨(some 2), (.mov (.c (.int .i64 0))), none⟩]) (.seq (.ops [⟨(some 3), (.mov (.c (.int .i64 1))), none⟩]) (.seq (.seq (.ops [⟨(some 4), (.mov (.c (.int .i64 2))), none⟩]) (.block 0 (.loop (.seq (.seq (.ops [⟨(some 5), (.mov (.t 4)), none⟩, ⟨(some 6), (.mov (.t 0)), none⟩, ⟨(some 7), (.bin .leq (.t 5) (.t 6)), none⟩]) (.cond (.t 7) .skip (.exit 0))) (.seq (.block 1 (.ops [⟨(some 10), (.mov (.t 3)), none⟩, ⟨(some 11), (.mov (.t 4)), none⟩, ⟨(some 12), (.bin .mul (.t 10) (.t 11)), none⟩, ⟨(some 3), (.mov (.t 12)), none⟩])) (.ops [⟨(some 8), (.mov (.t 4)), none⟩, ⟨(some 9), (.bin .add (.t 8) (.c (.int .i64 1))), none⟩, ⟨(some 4), (.mov (.t 9)), none⟩])))))) (.seq (.ops [⟨(some 13), (.mov (.t 3)), none⟩, ⟨(some 2), (.mov (.t 13)), none⟩]) .ret))))
theorem cc38 : ccode Tryz.prog (min Tryz.f38.ntmps pbase) (Tryz.f38.body.getD .skip) = some ac38 := by kernel_rfl
def ac39 : ACode := (.seq (.ops [⟨(some 2), (.nils 1), none⟩]) (.seq (.ops [⟨(some 9), (.mov (.t 0)), none⟩, ⟨(some 10), (.call 62 [(.t 9)]), none⟩, ⟨(some 8), (.mov (.t 10)), none⟩, ⟨(some 11), (.ext (.t 8) 0), none⟩, ⟨(some 12), (.ext (.t 8) 1), none⟩, ⟨(some 3), (.mov (.t 11)), none⟩, ⟨(some 4), (.mov (.t 12)), none⟩]) (.seq (.ops [⟨(some 14), (.mov (.t 3)), none⟩, ⟨(some 15), (.call 63 [(.t 14)]), none⟩, ⟨(some 13), (.mov (.t 15)), none⟩, ⟨(some 16), (.ext (.t 13) 0), none⟩, ⟨(some 17), (.ext (.t 13) 1), none⟩, ⟨(some 5), (.mov (.t 16)), none⟩, ⟨(some 6), (.mov (.t 17)), none⟩]) (.seq (.seq (.ops [⟨(some 18), (.mov (.t 5)), none⟩, ⟨(some 19), (.len (.t 18)), none⟩, ⟨(some 20), (.mov (.c (.int .i64 0))), none⟩]) (.block 0 (.loop (.seq (.ops [⟨(some 21), (.bin .lss (.t 20) (.t 19)), none⟩]) (.seq (.cond (.t 21) .skip (.exit 0)) (.seq (.block 1 (.seq (.ops [⟨(some 22), (.mov (.t 20)), none⟩, ⟨(some 7), (.mov (.t 22)), none⟩]) (.tree (.take ⟨(some 23), (.mov (.t 5)), none⟩ (.take ⟨(some 24), (.mov (.t 7)), none⟩ (.take ⟨(some 25), (.idx 1 (.t 23) (.t 24)), none⟩ (.take ⟨(some 26), (.ld none (.t 25)), none⟩ (.take ⟨(some 27), (.mov (.t 0)), none⟩ (.take ⟨(some 28), (.bin .sub (.t 27) (.c (.int .i64 1))), none⟩ (.take ⟨(some 29), (.call 35 [(.t 28)]), none⟩ (.take ⟨(some 30), (.bin .mul (.t 26) (.t 29)), none⟩ (.take ⟨(some 31), (.idx 1 (.t 23) (.t 24)), none⟩ (.take ⟨none, (.st 1 (.t 31) (.t 30)), none⟩ .done))))))))))))) (.ops [⟨(some 32), (.bin .add (.t 20) (.c (.int .i64 1))), none⟩, ⟨(some 20), (.mov (.t 32)), none⟩]))))))) (.seq (.ops [⟨(some 33), (.mov (.t 5)), none⟩, ⟨(some 2), (.mov (.t 33)), none⟩]) .ret)))))
theorem cc39 : ccode Tryz.prog (min Tryz.f39.ntmps pbase) (Tryz.f39.body.getD .skip) = some ac39 := by kernel_rfl
def ac40 : ACode := (.seq (.ops [⟨(some 2), (.mov (.c (.bool false))), none⟩]) (.seq (.ops [⟨(some 3), (.mov (.t 0)), none⟩, ⟨(some 4), (.bin .geq (.t 3) (.c (.int .i64 1))), none⟩, ⟨(some 5), (.mov (.t 4)), none⟩, ⟨(some 6), (.mov (.t 0)), (some (5, true))⟩, ⟨(some 7), (.bin .leq (.t 6) (.c (.int .i64 7))), (some (5, true))⟩, ⟨(some 8), (.pick (.t 5) (.t 7) (.c (.bool false))), none⟩, ⟨(some 2), (.mov (.t 8)), none⟩]) .ret))
theorem cc40 : ccode Tryz.prog (min Tryz.f40.ntmps pbase) (Tryz.f40.body.getD .skip) = some ac40 := by kernel_rfl
def ac41 : ACode := (.seq (.ops [⟨(some 2), (.mov (.c (.int .i64 0))), none⟩]) (.seq (.ops [⟨(some 3), (.mov (.t 0)), none⟩, ⟨(some 4), (.bin .mul (.c (.int .i64 2)) (.t 3)), none⟩, ⟨(some 5), (.bin .sub (.t 4) (.c (.int .i64 1))), none⟩, ⟨(some 6), (.call 35 [(.t 5)]), none⟩, ⟨(some 2), (.mov (.t 6)), none⟩]) .ret))
theorem cc41 : ccode Tryz.prog (min Tryz.f41.ntmps pbase) (Tryz.f41.body.getD .skip) = some ac41 := by kernel_rfl
def ac42 : ACode := (.seq (.ops [⟨(some 4), (.alloc [(.int .i64 0), (.int .i64 0)]), none⟩]) (.seq (.ops [⟨(some 6), (.mov (.t 0)), none⟩, ⟨(some 7), (.mov (.t 1)), none⟩, ⟨(some 8), (.call 64 [(.t 6), (.t 7)]), none⟩, ⟨(some 5), (.mov (.t 8)), none⟩]) (.seq (.tree (.take ⟨(some 9), (.mov (.t 0)), none⟩ (.take ⟨(some 10), (.mov (.t 5)), none⟩ (.take ⟨(some 11), (.bin .quo (.t 9) (.t 10)), none⟩ (.take ⟨(some 12), (.mov (.t 1)), none⟩ (.take ⟨(some 13), (.mov (.t 5)), none⟩ (.take ⟨(some 14), (.bin .quo (.t 12) (.t 13)), none⟩ (.take ⟨(some 15), (.pu (.bld [(.int .i64 0), (.int .i64 0)] [(0, 1), (1, 1)]) [(.t 11), (.t 14)]), none⟩ (.take ⟨none, (.st 2 (.t 4) (.t 15)), none⟩ .done))))))))) .ret)))
theorem cc42 : ccode Tryz.prog (min Tryz.f42.ntmps pbase) (Tryz.f42.body.getD .skip) = some ac42 := by kernel_rfl
def ac43 : ACode := (.seq (.ops [⟨(some 1), (.box 2 (.t 0)), none⟩, ⟨(some 2), (.mov (.c (.int .i64 0))), none⟩, ⟨(some 3), (.mov (.c (.int .i64 0))), none⟩, ⟨(some 4), (.mov (.c (.bool false))), none⟩]) (.seq (.tree (.take ⟨(some 5), (.fa 0 (.t 1)), none⟩ (.take ⟨(some 6), (.ld none (.t 5)), none⟩ (.take ⟨(some 7), (.fa 1 (.t 1)), none⟩ (.take ⟨(some 8), (.ld none (.t 7)), none⟩ (.take ⟨(some 2), (.mov (.t 6)), none⟩ (.take ⟨(some 3), (.mov (.t 8)), none⟩ (.take ⟨(some 4), (.mov (.c (.bool true))), none⟩ .done)))))))) .ret))
theorem cc43 : ccode Tryz.prog (min Tryz.f43.ntmps pbase) (Tryz.f43.body.getD .skip) = some ac43 := by kernel_rfl
def ac44 : ACode := (.seq (.ops [⟨(some 4), (.mov (.c (.int .i64 0))), none⟩, ⟨(some 5), (.mov (.c (.int .i64 0))), none⟩]) (.seq (.ops [⟨(some 8), (.mov (.t 0)), none⟩, ⟨(some 9), (.mov (.t 1)), none⟩, ⟨(some 6), (.mov (.t 8)), none⟩, ⟨(some 7), (.mov (.t 9)), none⟩]) (.seq (.block 0 (.loop (.seq (.seq (.ops [⟨(some 10), (.mov (.t 7)), none⟩, ⟨(some 11), (.bin .gtr (.t 10) (.c (.int .i64 0))), none⟩]) (.cond (.t 11) .skip (.exit 0))) (.block 1 (.tree (.take ⟨(some 12), (.mov (.t 7)), none⟩ (.take ⟨(some 13), (.mov (.t 6)), none⟩ (.take ⟨(some 14), (.mov (.t 7)), none⟩ (.take ⟨(some 15), (.bin .rem (.t 13) (.t 14)), none⟩ (.take ⟨(some 6), (.mov (.t 12)), none⟩ (.take ⟨(some 7), (.mov (.t 15)), none⟩ .done))))))))))) (.seq (.tree (.take ⟨(some 16), (.mov (.t 0)), none⟩ (.take ⟨(some 17), (.mov (.t 6)), none⟩ (.take ⟨(some 18), (.bin .quo (.t 16) (.t 17)), none⟩ (.take ⟨(some 19), (.mov (.t 1)), none⟩ (.take ⟨(some 20), (.mov (.t 6)), none⟩ (.take ⟨(some 21), (.bin .quo (.t 19) (.t 20)), none⟩ (.take ⟨(some 4), (.mov (.t 18)), none⟩ (.take ⟨(some 5), (.mov (.t 21)), none⟩ .done))))))))) .ret))))
theorem cc44 : ccode Tryz.prog (min Tryz.f44.ntmps pbase) (Tryz.f44.body.getD .skip) = some ac44 := by kernel_rfl
def ac45 : ACode := (.seq (.ops [⟨(some 4), (.nils 1), none⟩, ⟨(some 5), (.mov (.c (.bool false))), none⟩]) (.seq (.ops [⟨(some 6), (.mov (.t 0)), none⟩, ⟨(some 7), (.mov (.t 1)), none⟩, ⟨(some 8), (.call 65 [(.t 6), (.c (.slice none 0 0)), (.c (.int .i64 0)), (.t 7)]), none⟩, ⟨(some 9), (.ext (.t 8) 0), none⟩, ⟨(some 10), (.ext (.t 8) 1), none⟩, ⟨(some 4), (.mov (.t 9)), none⟩, ⟨(some 5), (.mov (.t 10)), none⟩]) .ret))
theorem cc45 : ccode Tryz.prog (min Tryz.f45.ntmps pbase) (Tryz.f45.body.getD .skip) = some ac45 := by kernel_rfl
def ac46 : ACode := (.seq (.ops [⟨(some 1), (.box 1 (.t 0)), none⟩, ⟨(some 2), (.mov (.c .nilFunc)), none⟩]) (.seq (.ops [⟨(some 3), (.mkf 66 0 [(.t 1)]), none⟩, ⟨(some 2), (.mov (.t 3)), none⟩]) .ret))
theorem cc46 : ccode Tryz.prog (min Tryz.f46.ntmps pbase) (Tryz.f46.body.getD .skip) = some ac46 := by kernel_rfl
def ac47 : ACode := (.seq (.ops [⟨(some 6), (.nils 1), none⟩, ⟨(some 7), (.mov (.c (.bool false))), none⟩]) (.seq (.ops [⟨(some 13), (.mov (.t 1)), none⟩, ⟨(some 14), (.len (.t 13)), none⟩, ⟨(some 8), (.mov (.t 14)), none⟩]) (.seq (.seq (.tree (.take ⟨(some 15), (.mov (.t 8)), none⟩ (.take ⟨(some 16), (.bin .gtr (.t 15) (.c (.int .i64 1))), none⟩ (.take ⟨(some 17), (.mov (.t 16)), none⟩ (.take ⟨(some 18), (.mov (.t 1)), (some (17, true))⟩ (.take ⟨(some 19), (.mov (.t 8)), (some (17, true))⟩ (.take ⟨(some 20), (.bin .sub (.t 19) (.c (.int .i64 1))), (some (17, true))⟩ (.take ⟨(some 21), (.idx 1 (.t 18) (.t 20)), (some (17, true))⟩ (.take ⟨(some 22), (.ld none (.t 21)), (some (17, true))⟩ (.take ⟨(some 23), (.bin .quo (.t 22) (.c (.int .i64 2))), (some (17, true))⟩ (.take ⟨(some 24), (.mov (.t 1)), (some (17, true))⟩ (.take ⟨(some 25), (.mov (.t 8)), (some (17, true))⟩ (.take ⟨(some 26), (.bin .sub (.t 25) (.c (.int .i64 2))), (some (17, true))⟩ (.take ⟨(some 27), (.idx 1 (.t 24) (.t 26)), (some (17, true))⟩ (.take ⟨(some 28), (.ld none (.t 27)), (some (17, true))⟩ (.take ⟨(some 29), (.bin .quo (.t 28) (.c (.int .i64 2))), (some (17, true))⟩ (.take ⟨(some 30), (.bin .eql (.t 23) (.t 29)), (some (17, true))⟩ (.take ⟨(some 31), (.pick (.t 17) (.t 30) (.c (.bool false))), none⟩ (.take ⟨(some 32), (.mov (.t 31)), none⟩ (.take ⟨(some 33), (.mov (.t 8)), (some (32, false))⟩ (.take ⟨(some 34), (.mov (.t 0)), (some (32, false))⟩ (.take ⟨(some 35), (.bin .eql (.t 33) (.t 34)), (some (32, false))⟩ (.take ⟨(some 36), (.mov (.t 35)), (some (32, false))⟩ (.take ⟨(some 37), (.mov (.t 1)), (some (36, true))⟩ (.take ⟨(some 38), (.mov (.t 8)), (some (36, true))⟩ (.take ⟨(some 39), (.bin .sub (.t 38) (.c (.int .i64 1))), (some (36, true))⟩ (.take ⟨(some 40), (.idx 1 (.t 37) (.t 39)), (some (36, true))⟩ (.take ⟨(some 41), (.ld none (.t 40)), (some (36, true))⟩ (.take ⟨(some 42), (.bin .quo (.t 41) (.c (.int .i64 2))), (some (36, true))⟩ (.take ⟨(some 43), (.mov (.t 1)), (some (36, true))⟩ (.take ⟨(some 44), (.idx 1 (.t 43) (.c (.int .i64 0))), (some (36, true))⟩ (.take ⟨(some 45), (.ld none (.t 44)), (some (36, true))⟩ (.take ⟨(some 46), (.bin .quo (.t 45) (.c (.int .i64 2))), (some (36, true))⟩ (.take ⟨(some 47), (.bin .eql (.t 42) (.t 46)), (some (36, true))⟩ (.take ⟨(some 48), (.pick (.t 36) (.t 47) (.c (.bool false))), (some (32, false))⟩ (.take ⟨(some 49), (.pick (.t 32) (.c (.bool true)) (.t 48)), none⟩ .done)))))))))))))))))))))))))))))))))))) (.cond (.t 49) (.seq (.ops [⟨(some 6), (.nils 1), none⟩, ⟨(some 7), (.mov (.c (.bool false))), none⟩]) .ret) .skip)) (.seq (.seq (.ops [⟨(some 9), (.mov (.c (.int .i64 0))), none⟩]) (.block 0 (.loop (.seq (.seq (.ops [⟨(some 50), (.mov (.t 9)), none⟩, ⟨(some 51), (.mov (.t 8)), none⟩, ⟨(some 52), (.bin .lss (.t 50) (.t 51)), none⟩, ⟨(some 53), (.mov (.t 52)), none⟩, ⟨(some 54), (.mov (.t 9)), (some (53, true))⟩, ⟨(some 55), (.mov (.t 2)), (some (53, true))⟩, ⟨(some 56), (.len (.t 55)), (some (53, true))⟩, ⟨(some 57), (.bin .lss (.t 54) (.t 56)), (some (53, true))⟩, ⟨(some 58), (.pick (.t 53) (.t 57) (.c (.bool false))), none⟩]) (.cond (.t 58) .skip (.exit 0))) (.seq (.block 1 (.seq (.tree (.take ⟨(some 61), (.mov (.t 1)), none⟩ (.take ⟨(some 62), (.mov (.t 9)), none⟩ (.take ⟨(some 63), (.idx 1 (.t 61) (.t 62)), none⟩ (.take ⟨(some 64), (.ld none (.t 63)), none⟩ (.take ⟨(some 65), (.mov (.t 2)), none⟩ (.take ⟨(some 66), (.mov (.t 9)), none⟩ (.take ⟨(some 67), (.idx 1 (.t 65) (.t 66)), none⟩ (.take ⟨(some 68), (.ld none (.t 67)), none⟩ (.take ⟨(some 69), (.bin .neq (.t 64) (.t 68)), none⟩ .done)))))))))) (.cond (.t 69) (.seq (.seq (.tree (.take ⟨(some 70), (.mov (.t 1)), none⟩ (.take ⟨(some 71), (.mov (.t 9)), none⟩ (.take ⟨(some 72), (.idx 1 (.t 70) (.t 71)), none⟩ (.take ⟨(some 73), (.ld none (.t 72)), none⟩ (.take ⟨(some 74), (.mov (.t 2)), none⟩ (.take ⟨(some 75), (.mov (.t 9)), none⟩ (.take ⟨(some 76), (.idx 1 (.t 74) (.t 75)), none⟩ (.take ⟨(some 77), (.ld none (.t 76)), none⟩ (.take ⟨(some 78), (.bin .lss (.t 73) (.t 77)), none⟩ .done)))))))))) (.cond (.t 78) (.seq (.ops [⟨(some 6), (.nils 1), none⟩, ⟨(some 7), (.mov (.c (.bool false))), none⟩]) .ret) .skip)) (.exit 0)) .skip))) (.ops [⟨(some 59), (.mov (.t 9)), none⟩, ⟨(some 60), (.bin .add (.t 59) (.c (.int .i64 1))), none⟩, ⟨(some 9), (.mov (.t 60)), none⟩])))))) (.seq (.seq (.ops [⟨(some 79), (.mov (.t 8)), none⟩, ⟨(some 80), (.mov (.t 0)), none⟩, ⟨(some 81), (.bin .eql (.t 79) (.t 80)), none⟩]) (.cond (.t 81) (.seq (.ops [⟨(some 82), (.mov (.t 1)), none⟩, ⟨(some 83), (.mov (.t 2)), none⟩, ⟨(some 84), (.len (.t 83)), none⟩, ⟨(some 85), (.bin .eql (.t 84) (.c (.int .i64 0))), none⟩, ⟨(some 86), (.mov (.t 85)), none⟩, ⟨(some 87), (.mov (.t 2)), (some (86, false))⟩, ⟨(some 88), (.mov (.t 1)), (some (86, false))⟩, ⟨(some 89), (.call 69 [(.t 87), (.t 88)]), (some (86, false))⟩, ⟨(some 90), (.pick (.t 86) (.c (.bool true)) (.t 89)), none⟩, ⟨(some 6), (.mov (.t 82)), none⟩, ⟨(some 7), (.mov (.t 90)), none⟩]) .ret) .skip)) (.seq (.seq (.ops [⟨(some 10), (.mov (.c (.int .i64 0))), none⟩]) (.block 2 (.loop (.seq (.seq (.ops [⟨(some 91), (.mov (.t 10)), none⟩, ⟨(some 92), (.mov (.t 0)), none⟩, ⟨(some 93), (.bin .lss (.t 91) (.t 92)), none⟩]) (.cond (.t 93) .skip (.exit 2))) (.seq (.block 3 (.seq (.seq (.ops [⟨(some 96), (.mov (.t 1)), none⟩, ⟨(some 97), (.mov (.t 10)), none⟩, ⟨(some 98), (.call 70 [(.t 96), (.t 97)]), none⟩]) (.cond (.t 98) (.exit 3) .skip)) (.seq (.ops [⟨(some 100), (.mov (.t 0)), none⟩, ⟨(some 101), (.mov (.t 1)), none⟩, ⟨(some 102), (.call 71 [(.t 101)]), none⟩, ⟨(some 103), (.mov (.t 10)), none⟩, ⟨(some 104), (.bsl 1 1 [(.int .i64 0)] [(0, (.t 103))]), none⟩, ⟨(some 105), (.app 1 8 (.t 102) (.t 104)), none⟩, ⟨(some 106), (.mov (.t 2)), none⟩, ⟨(some 107), (.call 47 [(.t 100), (.t 105), (.t 106)]), none⟩, ⟨(some 99), (.mov (.t 107)), none⟩, ⟨(some 108), (.ext (.t 99) 0), none⟩, ⟨(some 109), (.ext (.t 99) 1), none⟩, ⟨(some 11), (.mov (.t 108)), none⟩, ⟨(some 12), (.mov (.t 109)), none⟩]) (.seq (.ops [⟨(some 110), (.mov (.t 12)), none⟩]) (.cond (.t 110) (.seq (.ops [⟨(some 111), (.mov (.t 11)), none⟩, ⟨(some 6), (.mov (.t 111)), none⟩, ⟨(some 7), (.mov (.c (.bool true))), none⟩]) .ret) .skip))))) (.ops [⟨(some 94), (.mov (.t 10)), none⟩, ⟨(some 95), (.bin .add (.t 94) (.c (.int .i64 1))), none⟩, ⟨(some 10), (.mov (.t 95)), none⟩])))))) (.seq (.ops [⟨(some 6), (.nils 1), none⟩, ⟨(some 7), (.mov (.c (.bool false))), none⟩]) .ret)))))))
theorem cc47 : ccode Tryz.prog (min Tryz.f47.ntmps pbase) (Tryz.f47.body.getD .skip) = some ac47 := by kernel_rfl
def ac48 : ACode := (.seq (.ops [⟨(some 4), (.nils 1), none⟩]) (.seq (.seq (.ops [⟨(some 10), (.mov (.t 0)), none⟩, ⟨(some 11), (.call 50 [(.t 10), (.c (.int .i64 14))]), none⟩]) (.cond (.t 11) (.seq (.ops [⟨(some 12), (.bsl 1 1 [(.int .i64 0)] [(0, (.c (.int .i64 0)))]), none⟩, ⟨(some 13), (.bsl 1 2 [(.int .i64 0)] [(0, (.c (.int .i64 0))), (1, (.c (.int .i64 0)))]), none⟩, ⟨(some 14), (.bsl 1 3 [(.int .i64 0)] [(0, (.c (.int .i64 0))), (1, (.c (.int .i64 1))), (2, (.c (.int .i64 2)))]), none⟩, ⟨(some 15), (.bsl 1 2 [(.int .i64 0)] [(0, (.c (.int .i64 (-1)))), (1, (.c (.int .i64 0)))]), none⟩, ⟨(some 16), (.bsl 1 4 [(.int .i64 0)] [(0, (.c (.int .i64 0))), (1, (.c (.int .i64 1))), (2, (.c (.int .i64 4611686018427387904))), (3, (.c (.int .i64 3)))]), none⟩, ⟨(some 17), (.bsl 1 14 [(.int .i64 0)] [(0, (.c (.int .i64 0))), (1, (.c (.int .i64 1))), (2, (.c (.int .i64 2))), (3, (.c (.int .i64 3))), (4, (.c (.int .i64 4))), (5, (.c (.int .i64 5))), (6, (.c (.int .i64 6))), (7, (.c (.int .i64 7))), (8, (.c (.int .i64 8))), (9, (.c (.int .i64 9))), (10, (.c (.int .i64 10))), (11, (.c (.int .i64 11))), (12, (.c (.int .i64 12))), (13, (.c (.int .i64 13)))]), none⟩, ⟨(some 18), (.bsl 1 16 [(.int .i64 0)] [(0, (.c (.int .i64 0))), (1, (.c (.int .i64 1))), (2, (.c (.int .i64 2))), (3, (.c (.int .i64 3))), (4, (.c (.int .i64 4))), (5, (.c (.int .i64 5))), (6, (.c (.int .i64 6))), (7, (.c (.int .i64 7))), (8, (.c (.int .i64 8))), (9, (.c (.int .i64 9))), (10, (.c (.int .i64 10))), (11, (.c (.int .i64 11))), (12, (.c (.int .i64 12))), (13, (.c (.int .i64 13))), (14, (.c (.int .i64 14))), (15, (.c (.int .i64 15)))]), none⟩, ⟨(some 19), (.bsl 1 8 [(.slice none 0 0)] [(0, (.c (.slice none 0 0))), (1, (.t 12)), (2, (.t 13)), (3, (.t 14)), (4, (.t 15)), (5, (.t 16)), (6, (.t 17)), (7, (.t 18))]), none⟩, ⟨(some 20), (.mov (.t 0)), none⟩, ⟨(some 21), (.call 58 [(.t 20), (.c (.int .i64 8))]), none⟩, ⟨(some 22), (.idx 1 (.t 19) (.t 21)), none⟩, ⟨(some 23), (.ld none (.t 22)), none⟩, ⟨(some 4), (.mov (.t 23)), none⟩]) .ret) .skip)) (.seq (.ops [⟨(some 24), (.mov (.t 0)), none⟩, ⟨(some 25), (.mov (.t 1)), none⟩, ⟨(some 26), (.call 58 [(.t 24), (.t 25)]), none⟩, ⟨(some 27), (.bin .mul (.c (.int .i64 2)) (.t 26)), none⟩, ⟨(some 28), (.bin .add (.c (.int .i64 2)) (.t 27)), none⟩, ⟨(some 5), (.mov (.t 28)), none⟩]) (.seq (.ops [⟨(some 6), (.nils 1), none⟩]) (.seq (.seq (.ops [⟨(some 7), (.mov (.c (.int .i64 0))), none⟩]) (.block 0 (.loop (.seq (.seq (.ops [⟨(some 29), (.mov (.t 7)), none⟩, ⟨(some 30), (.mov (.t 5)), none⟩, ⟨(some 31), (.bin .lss (.t 29) (.t 30)), none⟩]) (.cond (.t 31) .skip (.exit 0))) (.seq (.block 1 (.seq (.ops [⟨(some 34), (.mov (.t 0)), none⟩, ⟨(some 35), (.mov (.t 6)), none⟩, ⟨(some 36), (.len (.t 35)), none⟩, ⟨(some 37), (.bin .add (.t 36) (.c (.int .i64 1))), none⟩, ⟨(some 38), (.call 58 [(.t 34), (.t 37)]), none⟩, ⟨(some 8), (.mov (.t 38)), none⟩]) (.seq (.ops [⟨(some 39), (.mov (.t 6)), none⟩, ⟨(some 40), (.mov (.t 8)), none⟩, ⟨(some 41), (.cut 1 (.t 39) none (some (.t 40))), none⟩, ⟨(some 42), (.call 71 [(.t 41)]), none⟩, ⟨(some 43), (.mov (.t 7)), none⟩, ⟨(some 44), (.bsl 1 1 [(.int .i64 0)] [(0, (.t 43))]), none⟩, ⟨(some 45), (.app 1 8 (.t 42) (.t 44)), none⟩, ⟨(some 9), (.mov (.t 45)), none⟩]) (.ops [⟨(some 46), (.mov (.t 9)), none⟩, ⟨(some 47), (.mov (.t 6)), none⟩, ⟨(some 48), (.mov (.t 8)), none⟩, ⟨(some 49), (.cut 1 (.t 47) (some (.t 48)) none), none⟩, ⟨(some 50), (.app 1 8 (.t 46) (.t 49)), none⟩, ⟨(some 6), (.mov (.t 50)), none⟩])))) (.ops [⟨(some 32), (.mov (.t 7)), none⟩, ⟨(some 33), (.bin .add (.t 32) (.c (.int .i64 1))), none⟩, ⟨(some 7), (.mov (.t 33)), none⟩])))))) (.seq (.ops [⟨(some 51), (.mov (.t 6)), none⟩, ⟨(some 4), (.mov (.t 51)), none⟩]) .ret))))))
theorem cc48 : ccode Tryz.prog (min Tryz.f48.ntmps pbase) (Tryz.f48.body.getD .skip) = some ac48 := by kernel_rfl
def ac49 : ACode := (.seq (.ops [⟨(some 2), (.mov (.c (.bool false))), none⟩]) (.seq (.ops [⟨(some 6), (.mov (.t 0)), none⟩, ⟨(some 7), (.len (.t 6)), none⟩, ⟨(some 3), (.mov (.t 7)), none⟩]) (.seq (.seq (.ops [⟨(some 8), (.mov (.t 3)), none⟩, ⟨(some 9), (.call 31 [(.t 8), (.c (.int .i64 2)), (.c (.int .i64 14))]), none⟩, ⟨(some 10), (.not (.t 9)), none⟩, ⟨(some 11), (.mov (.t 10)), none⟩, ⟨(some 12), (.mov (.t 3)), (some (11, false))⟩, ⟨(some 13), (.bin .rem (.t 12) (.c (.int .i64 2))), (some (11, false))⟩, ⟨(some 14), (.bin .eql (.t 13) (.c (.int .i64 1))), (some (11, false))⟩, ⟨(some 15), (.pick (.t 11) (.c (.bool true)) (.t 14)), none⟩, ⟨(some 16), (.mov (.t 15)), none⟩, ⟨(some 17), (.mov (.t 0)), (some (16, false))⟩, ⟨(some 18), (.mov (.t 3)), (some (16, false))⟩, ⟨(some 19), (.bin .sub (.t 18) (.c (.int .i64 1))), (some (16, false))⟩, ⟨(some 20), (.call 72 [(.t 17), (.c (.int .i64 0)), (.t 19)]), (some (16, false))⟩, ⟨(some 21), (.not (.t 20)), (some (16, false))⟩, ⟨(some 22), (.pick (.t 16) (.c (.bool true)) (.t 21)), none⟩]) (.cond (.t 22) (.seq (.ops [⟨(some 2), (.mov (.c (.bool false))), none⟩]) .ret) .skip)) (.seq (.seq (.ops [⟨(some 23), (.mov (.t 0)), none⟩, ⟨(some 24), (.len (.t 23)), none⟩, ⟨(some 25), (.mov (.c (.int .i64 0))), none⟩]) (.block 0 (.loop (.seq (.ops [⟨(some 26), (.bin .lss (.t 25) (.t 24)), none⟩]) (.seq (.cond (.t 26) .skip (.exit 0)) (.seq (.block 1 (.seq (.ops [⟨(some 27), (.mov (.t 25)), none⟩, ⟨(some 28), (.idx 1 (.t 23) (.t 25)), none⟩, ⟨(some 29), (.ld none (.t 28)), none⟩, ⟨(some 4), (.mov (.t 27)), none⟩, ⟨(some 5), (.mov (.t 29)), none⟩]) (.seq (.ops [⟨(some 30), (.mov (.t 0)), none⟩, ⟨(some 31), (.mov (.t 4)), none⟩, ⟨(some 32), (.cut 1 (.t 30) none (some (.t 31))), none⟩, ⟨(some 33), (.mov (.t 5)), none⟩, ⟨(some 34), (.call 70 [(.t 32), (.t 33)]), none⟩]) (.cond (.t 34) (.seq (.ops [⟨(some 2), (.mov (.c (.bool false))), none⟩]) .ret) .skip)))) (.ops [⟨(some 35), (.bin .add (.t 25) (.c (.int .i64 1))), none⟩, ⟨(some 25), (.mov (.t 35)), none⟩]))))))) (.seq (.ops [⟨(some 2), (.mov (.c (.bool true))), none⟩]) .ret)))))
theorem cc49 : ccode Tryz.prog (min Tryz.f49.ntmps pbase) (Tryz.f49.body.getD .skip) = some ac49 := by kernel_rfl
def ac50 : ACode := (.seq (.ops [⟨(some 4), (.mov (.c (.bool false))), none⟩]) (.seq (.ops [⟨(some 5), (.mov (.t 0)), none⟩, ⟨(some 6), (.mov (.t 1)), none⟩, ⟨(some 7), (.call 58 [(.t 5), (.t 6)]), none⟩, ⟨(some 8), (.bin .eql (.t 7) (.c (.int .i64 0))), none⟩, ⟨(some 4), (.mov (.t 8)), none⟩]) .ret))
theorem cc50 : ccode Tryz.prog (min Tryz.f50.ntmps pbase) (Tryz.f50.body.getD .skip) = some ac50 := by kernel_rfl
def ac51 : ACode := (.seq (.ops [⟨(some 4), (.nils 1), none⟩]) (.seq (.tree (.take ⟨(some 5), (.mov (.t 0)), none⟩ (.take ⟨(some 6), (.mov (.t 1)), none⟩ (.take ⟨(some 7), (.cut 1 (.t 5) (some (.t 6)) none), none⟩ (.own ⟨(some 8), (.call 71 [(.t 7)]), none⟩ (.two ⟨(some 9), (.mov (.t 0)), none⟩ (.take ⟨(some 10), (.mov (.t 1)), none⟩ (.take ⟨(some 11), (.cut 1 (.t 9) none (some (.t 10))), none⟩ (.take ⟨(some 12), (.app 1 8 (.t 8) (.t 11)), none⟩ (.take ⟨(some 4), (.mov (.t 12)), none⟩ .done)))) ⟨(some 10), (.mov (.t 1)), none⟩ (.take ⟨(some 9), (.mov (.t 0)), none⟩ (.take ⟨(some 11), (.cut 1 (.t 9) none (some (.t 10))), none⟩ (.take ⟨(some 12), (.app 1 8 (.t 8) (.t 11)), none⟩ (.take ⟨(some 4), (.mov (.t 12)), none⟩ .done)))))))))) .ret))
theorem cc51 : ccode Tryz.prog (min Tryz.f51.ntmps pbase) (Tryz.f51.body.getD .skip) = some ac51 := by kernel_rfl
def ac52 : ACode := (.seq (.ops [⟨(some 4), (.mov (.c (.int .i64 0))), none⟩]) (.seq (.seq (.ops [⟨(some 7), (.mov (.t 0)), none⟩, ⟨(some 8), (.len (.t 7)), none⟩, ⟨(some 9), (.mov (.c (.int .i64 0))), none⟩]) (.block 0 (.loop (.seq (.ops [⟨(some 10), (.bin .lss (.t 9) (.t 8)), none⟩]) (.seq (.cond (.t 10) .skip (.exit 0)) (.seq (.block 1 (.seq (.ops [⟨(some 11), (.mov (.t 9)), none⟩, ⟨(some 12), (.idx 1 (.t 7) (.t 9)), none⟩, ⟨(some 13), (.ld none (.t 12)), none⟩, ⟨(some 5), (.mov (.t 11)), none⟩, ⟨(some 6), (.mov (.t 13)), none⟩]) (.seq (.ops [⟨(some 14), (.mov (.t 6)), none⟩, ⟨(some 15), (.mov (.t 1)), none⟩, ⟨(some 16), (.bin .eql (.t 14) (.t 15)), none⟩]) (.cond (.t 16) (.seq (.ops [⟨(some 17), (.mov (.t 5)), none⟩, ⟨(some 4), (.mov (.t 17)), none⟩]) .ret) .skip)))) (.ops [⟨(some 18), (.bin .add (.t 9) (.c (.int .i64 1))), none⟩, ⟨(some 9), (.mov (.t 18)), none⟩]))))))) (.seq (.ops [⟨(some 4), (.mov (.c (.int .i64 (-1)))), none⟩]) .ret)))
theorem cc52 : ccode Tryz.prog (min Tryz.f52.ntmps pbase) (Tryz.f52.body.getD .skip) = some ac52 := by kernel_rfl
def ac53 : ACode := (.seq (.ops [⟨(some 2), (.mov (.c (.bool false))), none⟩]) (.seq (.ops [⟨(some 3), (.mov (.t 0)), none⟩, ⟨(some 4), (.len (.t 3)), none⟩, ⟨(some 5), (.bin .rem (.t 4) (.c (.int .i64 2))), none⟩, ⟨(some 6), (.bin .eql (.t 5) (.c (.int .i64 0))), none⟩, ⟨(some 7), (.mov (.t 6)), none⟩, ⟨(some 8), (.mov (.t 0)), (some (7, true))⟩, ⟨(some 9), (.len (.t 8)), (some (7, true))⟩, ⟨(some 10), (.bin .quo (.t 9) (.c (.int .i64 2))), (some (7, true))⟩, ⟨(some 11), (.call 40 [(.t 10)]), (some (7, true))⟩, ⟨(some 12), (.pick (.t 7) (.t 11) (.c (.bool false))), none⟩, ⟨(some 13), (.mov (.t 12)), none⟩, ⟨(some 14), (.mov (.t 0)), (some (13, true))⟩, ⟨(some 15), (.mov (.t 0)), (some (13, true))⟩, ⟨(some 16), (.len (.t 15)), (some (13, true))⟩, ⟨(some 17), (.call 73 [(.t 14), (.t 16)]), (some (13, true))⟩, ⟨(some 18), (.pick (.t 13) (.t 17) (.c (.bool false))), none⟩, ⟨(some 2), (.mov (.t 18)), none⟩]) .ret))
theorem cc53 : ccode Tryz.prog (min Tryz.f53.ntmps pbase) (Tryz.f53.body.getD .skip) = some ac53 := by kernel_rfl
def ac54 : ACode := (.seq (.ops [⟨(some 4), (.nils 1), none⟩, ⟨(some 5), (.mov (.c (.bool false))), none⟩]) (.seq (.ops [⟨(some 6), (.mov (.c (.int .i64 0))), none⟩]) (.seq (.block 0 (.loop (.seq (.seq (.tree (.take ⟨(some 7), (.mov (.t 6)), none⟩ (.take ⟨(some 8), (.mov (.t 0)), none⟩ (.take ⟨(some 9), (.len (.t 8)), none⟩ (.take ⟨(some 10), (.bin .sub (.t 9) (.c (.int .i64 1))), none⟩ (.take ⟨(some 11), (.bin .lss (.t 7) (.t 10)), none⟩ (.take ⟨(some 12), (.mov (.t 11)), none⟩ (.take ⟨(some 13), (.mov (.t 1)), (some (12, true))⟩ (.take ⟨(some 14), (.mov (.t 0)), (some (12, true))⟩ (.take ⟨(some 15), (.mov (.t 6)), (some (12, true))⟩ (.take ⟨(some 16), (.cut 1 (.t 14) none (some (.t 15))), (some (12, true))⟩ (.take ⟨(some 17), (.mov (.t 0)), (some (12, true))⟩ (.take ⟨(some 18), (.mov (.t 6)), (some (12, true))⟩ (.take ⟨(some 19), (.idx 1 (.t 17) (.t 18)), (some (12, true))⟩ (.take ⟨(some 20), (.ld none (.t 19)), (some (12, true))⟩ (.take ⟨(some 21), (.callv (.t 13) [(.t 16), (.t 20)]), (some (12, true))⟩ (.take ⟨(some 22), (.pick (.t 12) (.t 21) (.c (.bool false))), none⟩ .done))))))))))))))))) (.cond (.t 22) .skip (.exit 0))) (.block 1 (.ops [⟨(some 23), (.mov (.t 6)), none⟩, ⟨(some 24), (.bin .add (.t 23) (.c (.int .i64 1))), none⟩, ⟨(some 6), (.mov (.t 24)), none⟩]))))) (.seq (.tree (.take ⟨(some 25), (.mov (.t 0)), none⟩ (.take ⟨(some 26), (.len (.t 25)), none⟩ (.take ⟨(some 27), (.mov (.t 0)), none⟩ (.take ⟨(some 28), (.mov (.t 6)), none⟩ (.take ⟨(some 29), (.cut 1 (.t 27) none (some (.t 28))), none⟩ (.take ⟨(some 30), (.mov (.t 0)), none⟩ (.take ⟨(some 31), (.mov (.t 6)), none⟩ (.take ⟨(some 32), (.idx 1 (.t 30) (.t 31)), none⟩ (.take ⟨(some 33), (.ld none (.t 32)), none⟩ (.take ⟨(some 34), (.bin .add (.t 33) (.c (.int .i64 1))), none⟩ (.take ⟨(some 35), (.mov (.t 1)), none⟩ (.take ⟨(some 36), (.call 65 [(.t 26), (.t 29), (.t 34), (.t 35)]), none⟩ (.take ⟨(some 37), (.ext (.t 36) 0), none⟩ (.take ⟨(some 38), (.ext (.t 36) 1), none⟩ (.take ⟨(some 4), (.mov (.t 37)), none⟩ (.take ⟨(some 5), (.mov (.t 38)), none⟩ .done))))))))))))))))) .ret))))
theorem cc54 : ccode Tryz.prog (min Tryz.f54.ntmps pbase) (Tryz.f54.body.getD .skip) = some ac54 := by kernel_rfl
def ac55 : ACode := (.seq (.ops [⟨(some 2), (.mov (.c (.int .u16 0))), none⟩]) (.seq (.ops [⟨(some 6), (.mov (.t 0)), none⟩, ⟨(some 7), (.call 74 [(.t 6)]), none⟩, ⟨(some 3), (.mov (.t 7)), none⟩]) (.seq (.tree (.take ⟨(some 8), (.mov (.t 0)), none⟩ (.take ⟨(some 9), (.idx 1 (.t 8) (.c (.int .i64 0))), none⟩ (.take ⟨(some 10), (.ld none (.t 9)), none⟩ (.take ⟨(some 11), (.mov (.t 0)), none⟩ (.take ⟨(some 12), (.mov (.t 0)), none⟩ (.take ⟨(some 13), (.len (.t 12)), none⟩ (.take ⟨(some 14), (.bin .sub (.t 13) (.c (.int .i64 1))), none⟩ (.take ⟨(some 15), (.idx 1 (.t 11) (.t 14)), none⟩ (.take ⟨(some 16), (.ld none (.t 15)), none⟩ (.take ⟨(some 4), (.mov (.t 10)), none⟩ (.take ⟨(some 5), (.mov (.t 16)), none⟩ .done)))))))))))) (.seq (.seq (.ops [⟨(some 17), (.mov (.t 4)), none⟩, ⟨(some 18), (.mov (.t 5)), none⟩, ⟨(some 19), (.call 68 [(.t 17), (.t 18)]), none⟩]) (.cond (.t 19) (.ops [⟨(some 20), (.mov (.t 3)), none⟩, ⟨(some 21), (.mov (.t 4)), none⟩, ⟨(some 22), (.bin .quo (.t 21) (.c (.int .i64 2))), none⟩, ⟨(some 23), (.call 75 [(.t 20), (.t 22)]), none⟩, ⟨(some 3), (.mov (.t 23)), none⟩]) .skip)) (.seq (.ops [⟨(some 24), (.mov (.t 3)), none⟩, ⟨(some 2), (.mov (.t 24)), none⟩]) .ret)))))
theorem cc55 : ccode Tryz.prog (min Tryz.f55.ntmps pbase) (Tryz.f55.body.getD .skip) = some ac55 := by kernel_rfl
def ac56 : ACode := (.seq (.ops [⟨(some 2), (.nils 1), none⟩]) (.seq (.ops [⟨(some 3), (.nils 1), none⟩]) (.seq (.seq (.ops [⟨(some 5), (.mov (.c (.int .i64 0))), none⟩]) (.block 0 (.loop (.seq (.ops [⟨(some 6), (.bin .lss (.t 5) (.c (.int .i64 12))), none⟩]) (.seq (.cond (.t 6) .skip (.exit 0)) (.seq (.block 1 (.seq (.ops [⟨(some 7), (.mov (.t 5)), none⟩, ⟨(some 4), (.mov (.t 7)), none⟩]) (.seq (.ops [⟨(some 8), (.mov (.t 0)), none⟩, ⟨(some 9), (.mov (.t 4)), none⟩, ⟨(some 10), (.call 76 [(.t 8), (.t 9)]), none⟩]) (.cond (.t 10) (.ops [⟨(some 11), (.mov (.t 3)), none⟩, ⟨(some 12), (.mov (.t 4)), none⟩, ⟨(some 13), (.bsl 1 1 [(.int .i64 0)] [(0, (.t 12))]), none⟩, ⟨(some 14), (.app 1 8 (.t 11) (.t 13)), none⟩, ⟨(some 3), (.mov (.t 14)), none⟩]) .skip)))) (.ops [⟨(some 15), (.bin .add (.t 5) (.c (.int .i64 1))), none⟩, ⟨(some 5), (.mov (.t 15)), none⟩]))))))) (.seq (.ops [⟨(some 16), (.mov (.t 3)), none⟩, ⟨(some 2), (.mov (.t 16)), none⟩]) .ret))))
theorem cc56 : ccode Tryz.prog (min Tryz.f56.ntmps pbase) (Tryz.f56.body.getD .skip) = some ac56 := by kernel_rfl
def ac57 : ACode := (.seq (.ops [⟨(some 4), (.mov (.c (.int .i64 0))), none⟩]) (.seq (.ops [⟨(some 5), (.mov (.t 1)), none⟩, ⟨(some 6), (.mov (.t 0)), none⟩, ⟨(some 7), (.mov (.t 1)), none⟩, ⟨(some 8), (.len (.t 7)), none⟩, ⟨(some 9), (.call 58 [(.t 6), (.t 8)]), none⟩, ⟨(some 10), (.idx 1 (.t 5) (.t 9)), none⟩, ⟨(some 11), (.ld none (.t 10)), none⟩, ⟨(some 4), (.mov (.t 11)), none⟩]) .ret))
theorem cc57 : ccode Tryz.prog (min Tryz.f57.ntmps pbase) (Tryz.f57.body.getD .skip) = some ac57 := by kernel_rfl
def ac58 : ACode := (.seq (.ops [⟨(some 4), (.mov (.c (.int .i64 0))), none⟩]) (.seq (.seq (.ops [⟨(some 6), (.mov (.t 1)), none⟩, ⟨(some 7), (.bin .leq (.t 6) (.c (.int .i64 1))), none⟩]) (.cond (.t 7) (.seq (.ops [⟨(some 4), (.mov (.c (.int .i64 0))), none⟩]) .ret) .skip)) (.seq (.ops [⟨(some 8), (.mov (.t 0)), none⟩, ⟨(some 9), (.call 77 [(.t 8)]), none⟩, ⟨(some 5), (.mov (.t 9)), none⟩]) (.seq (.seq (.ops [⟨(some 10), (.mov (.t 1)), none⟩, ⟨(some 11), (.bin .gtr (.t 10) (.c (.int .i64 200))), none⟩]) (.cond (.t 11) (.ops [⟨(some 12), (.mov (.t 5)), none⟩, ⟨(some 13), (.bin .mul (.t 12) (.c (.int .i64 256))), none⟩, ⟨(some 14), (.mov (.t 0)), none⟩, ⟨(some 15), (.call 77 [(.t 14)]), none⟩, ⟨(some 16), (.bin .add (.t 13) (.t 15)), none⟩, ⟨(some 5), (.mov (.t 16)), none⟩]) .skip)) (.seq (.ops [⟨(some 17), (.mov (.t 5)), none⟩, ⟨(some 18), (.mov (.t 1)), none⟩, ⟨(some 19), (.bin .rem (.t 17) (.t 18)), none⟩, ⟨(some 4), (.mov (.t 19)), none⟩]) .ret)))))
theorem cc58 : ccode Tryz.prog (min Tryz.f58.ntmps pbase) (Tryz.f58.body.getD .skip) = some ac58 := by kernel_rfl
def ac59 : ACode := (.seq (.ops [⟨(some 2), (.mov (.c (.int .i64 0))), none⟩]) (.seq (.ops [⟨(some 3), (.mov (.t 0)), none⟩, ⟨(some 4), (.bin .sub (.t 3) (.c (.int .i64 1))), none⟩, ⟨(some 5), (.call 35 [(.t 4)]), none⟩, ⟨(some 2), (.mov (.t 5)), none⟩]) .ret))
theorem cc59 : ccode Tryz.prog (min Tryz.f59.ntmps pbase) (Tryz.f59.body.getD .skip) = some ac59 := by kernel_rfl
def ac60 : ACode := (.seq (.ops [⟨(some 4), (.mov (.c (.int .i64 0))), none⟩]) (.seq (.ops [⟨(some 5), (.mov (.t 0)), none⟩, ⟨(some 6), (.call 35 [(.t 5)]), none⟩, ⟨(some 7), (.mov (.t 1)), none⟩, ⟨(some 8), (.call 35 [(.t 7)]), none⟩, ⟨(some 9), (.mov (.t 0)), none⟩, ⟨(some 10), (.mov (.t 1)), none⟩, ⟨(some 11), (.bin .sub (.t 9) (.t 10)), none⟩, ⟨(some 12), (.call 35 [(.t 11)]), none⟩, ⟨(some 13), (.bin .mul (.t 8) (.t 12)), none⟩, ⟨(some 14), (.bin .quo (.t 6) (.t 13)), none⟩, ⟨(some 4), (.mov (.t 14)), none⟩]) .ret))
theorem cc60 : ccode Tryz.prog (min Tryz.f60.ntmps pbase) (Tryz.f60.body.getD .skip) = some ac60 := by kernel_rfl
def ac61 : ACode := (.seq (.ops [⟨(some 2), (.nils 1), none⟩]) (.seq (.ops [⟨(some 6), (.mov (.t 0)), none⟩, ⟨(some 7), (.call 78 [(.t 6)]), none⟩, ⟨(some 3), (.mov (.t 7)), none⟩]) (.seq (.seq (.ops [⟨(some 8), (.mov (.t 3)), none⟩, ⟨(some 9), (.len (.t 8)), none⟩, ⟨(some 10), (.bin .sub (.t 9) (.c (.int .i64 1))), none⟩, ⟨(some 4), (.mov (.t 10)), none⟩]) (.block 0 (.loop (.seq (.seq (.ops [⟨(some 11), (.mov (.t 4)), none⟩, ⟨(some 12), (.bin .geq (.t 11) (.c (.int .i64 0))), none⟩]) (.cond (.t 12) .skip (.exit 0))) (.seq (.block 1 (.seq (.ops [⟨(some 15), (.mov (.t 4)), none⟩, ⟨(some 16), (.bin .add (.t 15) (.c (.int .i64 1))), none⟩, ⟨(some 5), (.mov (.t 16)), none⟩]) (.block 2 (.loop (.seq (.seq (.ops [⟨(some 17), (.mov (.t 5)), none⟩, ⟨(some 18), (.mov (.t 3)), none⟩, ⟨(some 19), (.len (.t 18)), none⟩, ⟨(some 20), (.bin .lss (.t 17) (.t 19)), none⟩]) (.cond (.t 20) .skip (.exit 2))) (.seq (.block 3 (.tree (.take ⟨(some 23), (.mov (.t 3)), none⟩ (.take ⟨(some 24), (.mov (.t 4)), none⟩ (.take ⟨(some 25), (.idx 1 (.t 23) (.t 24)), none⟩ (.take ⟨(some 26), (.ld none (.t 25)), none⟩ (.take ⟨(some 27), (.mov (.t 5)), none⟩ (.take ⟨(some 28), (.mov (.t 4)), none⟩ (.take ⟨(some 29), (.call 60 [(.t 27), (.t 28)]), none⟩ (.take ⟨(some 30), (.mov (.t 3)), none⟩ (.take ⟨(some 31), (.mov (.t 5)), none⟩ (.take ⟨(some 32), (.idx 1 (.t 30) (.t 31)), none⟩ (.take ⟨(some 33), (.ld none (.t 32)), none⟩ (.take ⟨(some 34), (.bin .mul (.t 29) (.t 33)), none⟩ (.take ⟨(some 35), (.bin .sub (.t 26) (.t 34)), none⟩ (.take ⟨(some 36), (.idx 1 (.t 23) (.t 24)), none⟩ (.take ⟨none, (.st 1 (.t 36) (.t 35)), none⟩ .done))))))))))))))))) (.ops [⟨(some 21), (.mov (.t 5)), none⟩, ⟨(some 22), (.bin .add (.t 21) (.c (.int .i64 1))), none⟩, ⟨(some 5), (.mov (.t 22)), none⟩]))))))) (.ops [⟨(some 13), (.mov (.t 4)), none⟩, ⟨(some 14), (.bin .sub (.t 13) (.c (.int .i64 1))), none⟩, ⟨(some 4), (.mov (.t 14)), none⟩])))))) (.seq (.ops [⟨(some 37), (.mov (.t 3)), none⟩, ⟨(some 2), (.mov (.t 37)), none⟩]) .ret))))
theorem cc61 : ccode Tryz.prog (min Tryz.f61.ntmps pbase) (Tryz.f61.body.getD .skip) = some ac61 := by kernel_rfl
def ac62 : ACode := (.seq (.ops [⟨(some 1), (.box 1 (.t 0)), none⟩, ⟨(some 2), (.mov (.c (.string (.mk #[])))), none⟩, ⟨(some 3), (.mov (.c (.bool false))), none⟩]) (.seq (.seq (.ops [⟨(some 4), (.ld none (.t 1)), none⟩, ⟨(some 5), (.call 79 [(.t 4)]), none⟩, ⟨(some 6), (.not (.t 5)), none⟩]) (.cond (.t 6) (.seq (.ops [⟨(some 2), (.mov (.c (.string (.mk #[])))), none⟩, ⟨(some 3), (.mov (.c (.bool false))), none⟩]) .ret) .skip)) (.seq (.ops [⟨(some 7), (.ld none (.t 1)), none⟩, ⟨(some 8), (.mkf 81 0 [(.t 1)]), none⟩, ⟨(some 9), (.call 80 [(.t 7), (.t 8)]), none⟩, ⟨(some 2), (.mov (.t 9)), none⟩, ⟨(some 3), (.mov (.c (.bool true))), none⟩]) .ret)))
theorem cc62 : ccode Tryz.prog (min Tryz.f62.ntmps pbase) (Tryz.f62.body.getD .skip) = some ac62 := by kernel_rfl
def ac63 : ACode := (.seq (.ops [⟨(some 2), (.nils 1), none⟩, ⟨(some 3), (.mov (.c (.bool false))), none⟩]) (.seq (.ops [⟨(some 7), (.mov (.t 0)), none⟩, ⟨(some 8), (.call 82 [(.t 7)]), none⟩, ⟨(some 6), (.mov (.t 8)), none⟩, ⟨(some 9), (.ext (.t 6) 0), none⟩, ⟨(some 10), (.ext (.t 6) 1), none⟩, ⟨(some 4), (.alloc [(.int .i64 0), (.map none)]), none⟩, ⟨none, (.st 2 (.t 4) (.t 9)), none⟩, ⟨(some 5), (.mov (.t 10)), none⟩]) (.seq (.seq (.ops [⟨(some 11), (.mov (.t 5)), none⟩, ⟨(some 12), (.not (.t 11)), none⟩]) (.cond (.t 12) (.seq (.ops [⟨(some 2), (.nils 1), none⟩, ⟨(some 3), (.mov (.c (.bool false))), none⟩]) .ret) .skip)) (.seq (.ops [⟨(some 13), (.ld (some 2) (.t 4)), none⟩, ⟨(some 14), (.call 83 [(.t 13)]), none⟩, ⟨(some 2), (.mov (.t 14)), none⟩, ⟨(some 3), (.mov (.c (.bool true))), none⟩]) .ret))))
theorem cc63 : ccode Tryz.prog (min Tryz.f63.ntmps pbase) (Tryz.f63.body.getD .skip) = some ac63 := by kernel_rfl
def ac64 : ACode := (.seq (.ops [⟨(some 4), (.mov (.c (.int .i64 0))), none⟩]) (.seq (.block 0 (.loop (.seq (.seq (.ops [⟨(some 5), (.mov (.t 1)), none⟩, ⟨(some 6), (.bin .neq (.t 5) (.c (.int .i64 0))), none⟩]) (.cond (.t 6) .skip (.exit 0))) (.block 1 (.tree (.take ⟨(some 7), (.mov (.t 1)), none⟩ (.take ⟨(some 8), (.mov (.t 0)), none⟩ (.take ⟨(some 9), (.mov (.t 1)), none⟩ (.take ⟨(some 10), (.bin .rem (.t 8) (.t 9)), none⟩ (.take ⟨(some 0), (.mov (.t 7)), none⟩ (.take ⟨(some 1), (.mov (.t 10)), none⟩ .done))))))))))) (.seq (.ops [⟨(some 11), (.mov (.t 0)), none⟩, ⟨(some 4), (.mov (.t 11)), none⟩]) .ret)))
theorem cc64 : ccode Tryz.prog (min Tryz.f64.ntmps pbase) (Tryz.f64.body.getD .skip) = some ac64 := by kernel_rfl
def ac65 : ACode := (.seq (.ops [⟨(some 8), (.nils 1), none⟩, ⟨(some 9), (.mov (.c (.bool false))), none⟩]) (.scope (.seq (.ops [⟨(some 13), (.mov (.t 1)), none⟩, ⟨(some 14), (.call 78 [(.t 13)]), none⟩, ⟨(some 10), (.mov (.t 14)), none⟩]) (.seq (.ops [⟨(some 15), (.mov (.t 2)), none⟩, ⟨(some 11), (.mov (.t 15)), none⟩]) (.seq (.label 0) (.seq (.block 0 (.loop (.block 1 (.block 2 (.seq (.ops [⟨(some 28), (.mov (.t 10)), none⟩, ⟨(some 29), (.len (.t 28)), none⟩, ⟨(some 30), (.mov (.t 0)), none⟩, ⟨(some 31), (.bin .eql (.t 29) (.t 30)), none⟩, ⟨(some 27), (.mov (.t 31)), none⟩]) (.cond (.t 27) (.exit 0) (.seq (.ops [⟨(some 33), (.mov (.t 11)), none⟩, ⟨(some 34), (.mov (.t 0)), none⟩, ⟨(some 35), (.bin .lss (.t 33) (.t 34)), none⟩, ⟨(some 36), (.mov (.t 35)), none⟩, ⟨(some 37), (.mov (.t 3)), (some (36, true))⟩, ⟨(some 38), (.mov (.t 10)), (some (36, true))⟩, ⟨(some 39), (.mov (.t 11)), (some (36, true))⟩, ⟨(some 40), (.callv (.t 37) [(.t 38), (.t 39)]), (some (36, true))⟩, ⟨(some 41), (.pick (.t 36) (.t 40) (.c (.bool false))), none⟩, ⟨(some 32), (.mov (.t 41)), none⟩]) (.cond (.t 32) (.seq (.ops [⟨(some 42), (.mov (.t 10)), none⟩, ⟨(some 43), (.mov (.t 11)), none⟩, ⟨(some 44), (.bsl 1 1 [(.int .i64 0)] [(0, (.t 43))]), none⟩, ⟨(some 45), (.app 1 8 (.t 42) (.t 44)), none⟩, ⟨(some 10), (.mov (.t 45)), none⟩]) (.ops [⟨(some 11), (.mov (.c (.int .i64 0))), none⟩])) (.seq (.ops [⟨(some 47), (.mov (.t 11)), none⟩, ⟨(some 48), (.mov (.t 0)), none⟩, ⟨(some 49), (.bin .lss (.t 47) (.t 48)), none⟩, ⟨(some 46), (.mov (.t 49)), none⟩]) (.cond (.t 46) (.ops [⟨(some 50), (.mov (.t 11)), none⟩, ⟨(some 51), (.bin .add (.t 50) (.c (.int .i64 1))), none⟩, ⟨(some 11), (.mov (.t 51)), none⟩]) (.seq (.ops [⟨(some 53), (.mov (.t 10)), none⟩, ⟨(some 54), (.len (.t 53)), none⟩, ⟨(some 55), (.bin .eql (.t 54) (.c (.int .i64 0))), none⟩, ⟨(some 52), (.mov (.t 55)), none⟩]) (.cond (.t 52) (.seq (.ops [⟨(some 8), (.nils 1), none⟩, ⟨(some 9), (.mov (.c (.bool false))), none⟩]) .ret) (.seq (.ops [⟨(some 16), (.mov (.t 10)), none⟩, ⟨(some 17), (.len (.t 16)), none⟩, ⟨(some 18), (.bin .sub (.t 17) (.c (.int .i64 1))), none⟩, ⟨(some 12), (.mov (.t 18)), none⟩]) (.seq (.ops [⟨(some 19), (.mov (.t 10)), none⟩, ⟨(some 20), (.mov (.t 12)), none⟩, ⟨(some 21), (.idx 1 (.t 19) (.t 20)), none⟩, ⟨(some 22), (.ld none (.t 21)), none⟩, ⟨(some 23), (.bin .add (.t 22) (.c (.int .i64 1))), none⟩, ⟨(some 11), (.mov (.t 23)), none⟩]) (.ops [⟨(some 24), (.mov (.t 10)), none⟩, ⟨(some 25), (.mov (.t 12)), none⟩, ⟨(some 26), (.cut 1 (.t 24) none (some (.t 25))), none⟩, ⟨(some 10), (.mov (.t 26)), none⟩]))))))))))))))) (.seq (.ops [⟨(some 56), (.mov (.t 10)), none⟩, ⟨(some 8), (.mov (.t 56)), none⟩, ⟨(some 9), (.mov (.c (.bool true))), none⟩]) .ret)))))))
theorem cc65 : ccode Tryz.prog (min Tryz.f65.ntmps pbase) (Tryz.f65.body.getD .skip) = some ac65 := by kernel_rfl
def ac66 : ACode := (.seq (.ops [⟨(some 5), (.mov (.c (.bool false))), none⟩]) (.seq (.seq (.ops [⟨(some 6), (.mov (.t 0)), none⟩, ⟨(some 7), (.len (.t 6)), none⟩, ⟨(some 8), (.bin .eql (.t 7) (.c (.int .i64 0))), none⟩]) (.cond (.t 8) (.seq (.ops [⟨(some 9), (.mov (.t 1)), none⟩, ⟨(some 10), (.bin .eql (.t 9) (.c (.int .i64 0))), none⟩, ⟨(some 5), (.mov (.t 10)), none⟩]) .ret) .skip)) (.seq (.seq (.ops [⟨(some 11), (.mov (.t 0)), none⟩, ⟨(some 12), (.mov (.t 1)), none⟩, ⟨(some 13), (.call 67 [(.t 11), (.t 12)]), none⟩, ⟨(some 14), (.mov (.t 13)), none⟩, ⟨(some 15), (.mov (.t 0)), (some (14, false))⟩, ⟨(some 16), (.mov (.t 0)), (some (14, false))⟩, ⟨(some 17), (.len (.t 16)), (some (14, false))⟩, ⟨(some 18), (.bin .sub (.t 17) (.c (.int .i64 1))), (some (14, false))⟩, ⟨(some 19), (.idx 1 (.t 15) (.t 18)), (some (14, false))⟩, ⟨(some 20), (.ld none (.t 19)), (some (14, false))⟩, ⟨(some 21), (.mov (.t 1)), (some (14, false))⟩, ⟨(some 22), (.call 68 [(.t 20), (.t 21)]), (some (14, false))⟩, ⟨(some 23), (.pick (.t 14) (.c (.bool true)) (.t 22)), none⟩]) (.cond (.t 23) (.seq (.ops [⟨(some 5), (.mov (.c (.bool false))), none⟩]) .ret) .skip)) (.seq (.ops [⟨(some 24), (.mov (.t 0)), none⟩, ⟨(some 25), (.len (.t 24)), none⟩, ⟨(some 26), (.ld none (.t 2)), none⟩, ⟨(some 27), (.bin .sub (.t 26) (.c (.int .i64 1))), none⟩, ⟨(some 28), (.bin .lss (.t 25) (.t 27)), none⟩, ⟨(some 29), (.mov (.t 28)), none⟩, ⟨(some 30), (.mov (.t 0)), (some (29, false))⟩, ⟨(some 31), (.idx 1 (.t 30) (.c (.int .i64 0))), (some (29, false))⟩, ⟨(some 32), (.ld none (.t 31)), (some (29, false))⟩, ⟨(some 33), (.mov (.t 1)), (some (29, false))⟩, ⟨(some 34), (.call 68 [(.t 32), (.t 33)]), (some (29, false))⟩, ⟨(some 35), (.not (.t 34)), (some (29, false))⟩, ⟨(some 36), (.pick (.t 29) (.c (.bool true)) (.t 35)), none⟩, ⟨(some 5), (.mov (.t 36)), none⟩]) .ret))))
theorem cc66 : ccode Tryz.prog (min Tryz.f66.ntmps pbase) (Tryz.f66.body.getD .skip) = some ac66 := by kernel_rfl
def ac67 : ACode := (.seq (.ops [⟨(some 4), (.mov (.c (.bool false))), none⟩]) (.seq (.ops [⟨(some 5), (.mov (.t 0)), none⟩, ⟨(some 6), (.mov (.t 1)), none⟩, ⟨(some 7), (.call 84 [(.t 5), (.t 6)]), none⟩, ⟨(some 8), (.bin .geq (.t 7) (.c (.int .i64 0))), none⟩, ⟨(some 4), (.mov (.t 8)), none⟩]) .ret))
theorem cc67 : ccode Tryz.prog (min Tryz.f67.ntmps pbase) (Tryz.f67.body.getD .skip) = some ac67 := by kernel_rfl
def ac68 : ACode := (.seq (.ops [⟨(some 4), (.mov (.c (.bool false))), none⟩]) (.seq (.ops [⟨(some 5), (.mov (.t 0)), none⟩, ⟨(some 6), (.bin .quo (.t 5) (.c (.int .i64 2))), none⟩, ⟨(some 7), (.mov (.t 1)), none⟩, ⟨(some 8), (.bin .quo (.t 7) (.c (.int .i64 2))), none⟩, ⟨(some 9), (.bin .eql (.t 6) (.t 8)), none⟩, ⟨(some 4), (.mov (.t 9)), none⟩]) .ret))
theorem cc68 : ccode Tryz.prog (min Tryz.f68.ntmps pbase) (Tryz.f68.body.getD .skip) = some ac68 := by kernel_rfl
def ac69 : ACode := (.seq (.ops [⟨(some 4), (.mov (.c (.bool false))), none⟩]) (.seq (.seq (.ops [⟨(some 7), (.mov (.t 0)), none⟩, ⟨(some 8), (.len (.t 7)), none⟩, ⟨(some 9), (.mov (.c (.int .i64 0))), none⟩]) (.block 0 (.loop (.seq (.ops [⟨(some 10), (.bin .lss (.t 9) (.t 8)), none⟩]) (.seq (.cond (.t 10) .skip (.exit 0)) (.seq (.block 1 (.seq (.ops [⟨(some 11), (.mov (.t 9)), none⟩, ⟨(some 12), (.idx 1 (.t 7) (.t 9)), none⟩, ⟨(some 13), (.ld none (.t 12)), none⟩, ⟨(some 5), (.mov (.t 11)), none⟩, ⟨(some 6), (.mov (.t 13)), none⟩]) (.seq (.ops [⟨(some 14), (.mov (.t 6)), none⟩, ⟨(some 15), (.mov (.t 1)), none⟩, ⟨(some 16), (.mov (.t 5)), none⟩, ⟨(some 17), (.idx 1 (.t 15) (.t 16)), none⟩, ⟨(some 18), (.ld none (.t 17)), none⟩, ⟨(some 19), (.bin .neq (.t 14) (.t 18)), none⟩]) (.cond (.t 19) (.seq (.ops [⟨(some 20), (.mov (.t 6)), none⟩, ⟨(some 21), (.mov (.t 1)), none⟩, ⟨(some 22), (.mov (.t 5)), none⟩, ⟨(some 23), (.idx 1 (.t 21) (.t 22)), none⟩, ⟨(some 24), (.ld none (.t 23)), none⟩, ⟨(some 25), (.bin .lss (.t 20) (.t 24)), none⟩, ⟨(some 4), (.mov (.t 25)), none⟩]) .ret) .skip)))) (.ops [⟨(some 26), (.bin .add (.t 9) (.c (.int .i64 1))), none⟩, ⟨(some 9), (.mov (.t 26)), none⟩]))))))) (.seq (.ops [⟨(some 4), (.mov (.c (.bool false))), none⟩]) .ret)))
theorem cc69 : ccode Tryz.prog (min Tryz.f69.ntmps pbase) (Tryz.f69.body.getD .skip) = some ac69 := by kernel_rfl
def ac70 : ACode := (.seq (.ops [⟨(some 4), (.mov (.c (.bool false))), none⟩]) (.seq (.seq (.ops [⟨(some 7), (.mov (.t 0)), none⟩, ⟨(some 8), (.len (.t 7)), none⟩, ⟨(some 9), (.mov (.c (.int .i64 0))), none⟩]) (.block 0 (.loop (.seq (.ops [⟨(some 10), (.bin .lss (.t 9) (.t 8)), none⟩]) (.seq (.cond (.t 10) .skip (.exit 0)) (.seq (.block 1 (.seq (.ops [⟨(some 11), (.idx 1 (.t 7) (.t 9)), none⟩, ⟨(some 12), (.ld none (.t 11)), none⟩, ⟨(some 6), (.mov (.t 12)), none⟩]) (.seq (.ops [⟨(some 13), (.mov (.t 6)), none⟩, ⟨(some 14), (.mov (.t 1)), none⟩, ⟨(some 15), (.bin .eql (.t 13) (.t 14)), none⟩]) (.cond (.t 15) (.seq (.ops [⟨(some 4), (.mov (.c (.bool true))), none⟩]) .ret) .skip)))) (.ops [⟨(some 16), (.bin .add (.t 9) (.c (.int .i64 1))), none⟩, ⟨(some 9), (.mov (.t 16)), none⟩]))))))) (.seq (.ops [⟨(some 4), (.mov (.c (.bool false))), none⟩]) .ret)))
theorem cc70 : ccode Tryz.prog (min Tryz.f70.ntmps pbase) (Tryz.f70.body.getD .skip) = some ac70 := by kernel_rfl
def ac71 : ACode := (.seq (.ops [⟨(some 2), (.nils 1), none⟩]) (.seq (.ops [⟨(some 3), (.bsl 1 0 [(.int .i64 0)] []), none⟩, ⟨(some 4), (.mov (.t 0)), none⟩, ⟨(some 5), (.app 1 8 (.t 3) (.t 4)), none⟩, ⟨(some 2), (.mov (.t 5)), none⟩]) .ret))
theorem cc71 : ccode Tryz.prog (min Tryz.f71.ntmps pbase) (Tryz.f71.body.getD .skip) = some ac71 := by kernel_rfl
def ac72 : ACode := (.seq (.ops [⟨(some 6), (.mov (.c (.bool false))), none⟩]) (.seq (.seq (.ops [⟨(some 9), (.mov (.t 0)), none⟩, ⟨(some 10), (.len (.t 9)), none⟩, ⟨(some 11), (.mov (.c (.int .i64 0))), none⟩]) (.block 0 (.loop (.seq (.ops [⟨(some 12), (.bin .lss (.t 11) (.t 10)), none⟩]) (.seq (.cond (.t 12) .skip (.exit 0)) (.seq (.block 1 (.seq (.ops [⟨(some 13), (.idx 1 (.t 9) (.t 11)), none⟩, ⟨(some 14), (.ld none (.t 13)), none⟩, ⟨(some 8), (.mov (.t 14)), none⟩]) (.seq (.ops [⟨(some 15), (.mov (.t 8)), none⟩, ⟨(some 16), (.mov (.t 1)), none⟩, ⟨(some 17), (.mov (.t 2)), none⟩, ⟨(some 18), (.call 31 [(.t 15), (.t 16), (.t 17)]), none⟩, ⟨(some 19), (.not (.t 18)), none⟩]) (.cond (.t 19) (.seq (.ops [⟨(some 6), (.mov (.c (.bool false))), none⟩]) .ret) .skip)))) (.ops [⟨(some 20), (.bin .add (.t 11) (.c (.int .i64 1))), none⟩, ⟨(some 11), (.mov (.t 20)), none⟩]))))))) (.seq (.ops [⟨(some 6), (.mov (.c (.bool true))), none⟩]) .ret)))
theorem cc72 : ccode Tryz.prog (min Tryz.f72.ntmps pbase) (Tryz.f72.body.getD .skip) = some ac72 := by kernel_rfl
def ac73 : ACode := (.seq (.ops [⟨(some 4), (.mov (.c (.bool false))), none⟩]) (.seq (.ops [⟨(some 5), (.mov (.c (.int .u16 0))), none⟩]) (.seq (.seq (.ops [⟨(some 8), (.mov (.t 0)), none⟩, ⟨(some 9), (.len (.t 8)), none⟩, ⟨(some 10), (.mov (.c (.int .i64 0))), none⟩]) (.block 0 (.loop (.seq (.ops [⟨(some 11), (.bin .lss (.t 10) (.t 9)), none⟩]) (.seq (.cond (.t 11) .skip (.exit 0)) (.seq (.block 1 (.seq (.ops [⟨(some 12), (.idx 1 (.t 8) (.t 10)), none⟩, ⟨(some 13), (.ld none (.t 12)), none⟩, ⟨(some 7), (.mov (.t 13)), none⟩]) (.seq (.seq (.ops [⟨(some 14), (.mov (.t 7)), none⟩, ⟨(some 15), (.mov (.t 1)), none⟩, ⟨(some 16), (.call 85 [(.t 14), (.t 15)]), none⟩, ⟨(some 17), (.not (.t 16)), none⟩, ⟨(some 18), (.mov (.t 17)), none⟩, ⟨(some 19), (.mov (.t 5)), (some (18, false))⟩, ⟨(some 20), (.mov (.t 7)), (some (18, false))⟩, ⟨(some 21), (.call 76 [(.t 19), (.t 20)]), (some (18, false))⟩, ⟨(some 22), (.pick (.t 18) (.c (.bool true)) (.t 21)), none⟩]) (.cond (.t 22) (.seq (.ops [⟨(some 4), (.mov (.c (.bool false))), none⟩]) .ret) .skip)) (.ops [⟨(some 23), (.mov (.t 5)), none⟩, ⟨(some 24), (.mov (.t 7)), none⟩, ⟨(some 25), (.call 75 [(.t 23), (.t 24)]), none⟩, ⟨(some 5), (.mov (.t 25)), none⟩])))) (.ops [⟨(some 26), (.bin .add (.t 10) (.c (.int .i64 1))), none⟩, ⟨(some 10), (.mov (.t 26)), none⟩]))))))) (.seq (.ops [⟨(some 4), (.mov (.c (.bool true))), none⟩]) .ret))))
theorem cc73 : ccode Tryz.prog (min Tryz.f73.ntmps pbase) (Tryz.f73.body.getD .skip) = some ac73 := by kernel_rfl
def ac74 : ACode := (.seq (.ops [⟨(some 2), (.mov (.c (.int .u16 0))), none⟩]) (.seq (.ops [⟨(some 3), (.mov (.c (.int .u16 0))), none⟩]) (.seq (.seq (.ops [⟨(some 4), (.mov (.c (.int .i64 1))), none⟩]) (.block 0 (.loop (.seq (.seq (.ops [⟨(some 5), (.mov (.t 4)), none⟩, ⟨(some 6), (.mov (.t 0)), none⟩, ⟨(some 7), (.len (.t 6)), none⟩, ⟨(some 8), (.bin .lss (.t 5) (.t 7)), none⟩]) (.cond (.t 8) .skip (.exit 0))) (.seq (.block 1 (.seq (.tree (.take ⟨(some 11), (.mov (.t 0)), none⟩ (.take ⟨(some 12), (.mov (.t 4)), none⟩ (.take ⟨(some 13), (.bin .sub (.t 12) (.c (.int .i64 1))), none⟩ (.take ⟨(some 14), (.idx 1 (.t 11) (.t 13)), none⟩ (.take ⟨(some 15), (.ld none (.t 14)), none⟩ (.take ⟨(some 16), (.mov (.t 0)), none⟩ (.take ⟨(some 17), (.mov (.t 4)), none⟩ (.take ⟨(some 18), (.idx 1 (.t 16) (.t 17)), none⟩ (.take ⟨(some 19), (.ld none (.t 18)), none⟩ (.take ⟨(some 20), (.call 68 [(.t 15), (.t 19)]), none⟩ .done))))))))))) (.cond (.t 20) (.ops [⟨(some 21), (.mov (.t 3)), none⟩, ⟨(some 22), (.mov (.t 0)), none⟩, ⟨(some 23), (.mov (.t 4)), none⟩, ⟨(some 24), (.idx 1 (.t 22) (.t 23)), none⟩, ⟨(some 25), (.ld none (.t 24)), none⟩, ⟨(some 26), (.bin .quo (.t 25) (.c (.int .i64 2))), none⟩, ⟨(some 27), (.call 75 [(.t 21), (.t 26)]), none⟩, ⟨(some 3), (.mov (.t 27)), none⟩]) .skip))) (.ops [⟨(some 9), (.mov (.t 4)), none⟩, ⟨(some 10), (.bin .add (.t 9) (.c (.int .i64 1))), none⟩, ⟨(some 4), (.mov (.t 10)), none⟩])))))) (.seq (.ops [⟨(some 28), (.mov (.t 3)), none⟩, ⟨(some 2), (.mov (.t 28)), none⟩]) .ret))))
theorem cc74 : ccode Tryz.prog (min Tryz.f74.ntmps pbase) (Tryz.f74.body.getD .skip) = some ac74 := by kernel_rfl
def ac75 : ACode := (.seq (.ops [⟨(some 4), (.mov (.c (.int .u16 0))), none⟩]) (.seq (.ops [⟨(some 5), (.mov (.t 0)), none⟩, ⟨(some 6), (.mov (.t 1)), none⟩, ⟨(some 7), (.bin .shl (.c (.int .u16 1)) (.t 6)), none⟩, ⟨(some 8), (.bin .or (.t 5) (.t 7)), none⟩, ⟨(some 4), (.mov (.t 8)), none⟩]) .ret))
theorem cc75 : ccode Tryz.prog (min Tryz.f75.ntmps pbase) (Tryz.f75.body.getD .skip) = some ac75 := by kernel_rfl
def ac76 : ACode := (.seq (.ops [⟨(some 4), (.mov (.c (.bool false))), none⟩]) (.seq (.ops [⟨(some 5), (.mov (.t 0)), none⟩, ⟨(some 6), (.mov (.t 1)), none⟩, ⟨(some 7), (.bin .shr (.t 5) (.t 6)), none⟩, ⟨(some 8), (.bin .and (.t 7) (.c (.int .u16 1))), none⟩, ⟨(some 9), (.bin .eql (.t 8) (.c (.int .u16 1))), none⟩, ⟨(some 4), (.mov (.t 9)), none⟩]) .ret))
theorem cc76 : ccode Tryz.prog (min Tryz.f76.ntmps pbase) (Tryz.f76.body.getD .skip) = some ac76 := by kernel_rfl
def ac77 : ACode := (.seq (.ops [⟨(some 2), (.mov (.c (.int .i64 0))), none⟩]) (.seq (.ops [⟨(some 3), (.mov (.c (.int .i64 0))), none⟩]) (.seq (.seq (.tree (.take ⟨(some 4), (.mov (.t 0)), none⟩ (.take ⟨(some 5), (.nchk (.t 4)), none⟩ (.take ⟨(some 6), (.fa 1 (.t 5)), none⟩ (.take ⟨(some 7), (.ld none (.t 6)), none⟩ (.take ⟨(some 8), (.mov (.t 0)), none⟩ (.take ⟨(some 9), (.nchk (.t 8)), none⟩ (.take ⟨(some 10), (.fa 0 (.t 9)), none⟩ (.take ⟨(some 11), (.ld none (.t 10)), none⟩ (.take ⟨(some 12), (.len (.t 11)), none⟩ (.take ⟨(some 13), (.bin .lss (.t 7) (.t 12)), none⟩ .done))))))))))) (.cond (.t 13) (.tree (.take ⟨(some 14), (.mov (.t 0)), none⟩ (.take ⟨(some 15), (.nchk (.t 14)), none⟩ (.take ⟨(some 16), (.fa 0 (.t 15)), none⟩ (.take ⟨(some 17), (.ld none (.t 16)), none⟩ (.take ⟨(some 18), (.mov (.t 0)), none⟩ (.take ⟨(some 19), (.nchk (.t 18)), none⟩ (.take ⟨(some 20), (.fa 1 (.t 19)), none⟩ (.take ⟨(some 21), (.ld none (.t 20)), none⟩ (.take ⟨(some 22), (.idx 1 (.t 17) (.t 21)), none⟩ (.take ⟨(some 23), (.ld none (.t 22)), none⟩ (.take ⟨(some 24), (.pu (.cvt .i64) [(.t 23)]), none⟩ (.take ⟨(some 3), (.mov (.t 24)), none⟩ .done))))))))))))) .skip)) (.seq (.ops [⟨(some 25), (.mov (.t 0)), none⟩, ⟨(some 26), (.nchk (.t 25)), none⟩, ⟨(some 27), (.fa 1 (.t 26)), none⟩, ⟨(some 28), (.ld none (.t 27)), none⟩, ⟨(some 29), (.bin .add (.t 28) (.c (.int .i64 1))), none⟩, ⟨(some 30), (.nchk (.t 25)), none⟩, ⟨(some 31), (.fa 1 (.t 30)), none⟩, ⟨none, (.st 1 (.t 31) (.t 29)), none⟩]) (.seq (.ops [⟨(some 32), (.mov (.t 0)), none⟩, ⟨(some 33), (.mov (.t 0)), none⟩, ⟨(some 34), (.nchk (.t 33)), none⟩, ⟨(some 35), (.fa 2 (.t 34)), none⟩, ⟨(some 36), (.ld none (.t 35)), none⟩, ⟨(some 37), (.bin .mul (.t 36) (.c (.int .u64 6364136223846793005))), none⟩, ⟨(some 38), (.mov (.t 3)), none⟩, ⟨(some 39), (.pu (.cvt .u64) [(.t 38)]), none⟩, ⟨(some 40), (.bin .add (.t 37) (.t 39)), none⟩, ⟨(some 41), (.bin .add (.t 40) (.c (.int .u64 1442695040888963407))), none⟩, ⟨(some 42), (.nchk (.t 32)), none⟩, ⟨(some 43), (.fa 2 (.t 42)), none⟩, ⟨none, (.st 1 (.t 43) (.t 41)), none⟩]) (.seq (.seq (.tree (.take ⟨(some 44), (.mov (.t 0)), none⟩ (.take ⟨(some 45), (.nchk (.t 44)), none⟩ (.take ⟨(some 46), (.fa 1 (.t 45)), none⟩ (.take ⟨(some 47), (.ld none (.t 46)), none⟩ (.take ⟨(some 48), (.mov (.t 0)), none⟩ (.take ⟨(some 49), (.nchk (.t 48)), none⟩ (.take ⟨(some 50), (.fa 0 (.t 49)), none⟩ (.take ⟨(some 51), (.ld none (.t 50)), none⟩ (.take ⟨(some 52), (.len (.t 51)), none⟩ (.take ⟨(some 53), (.bin .leq (.t 47) (.t 52)), none⟩ .done))))))))))) (.cond (.t 53) (.seq (.ops [⟨(some 54), (.mov (.t 3)), none⟩, ⟨(some 2), (.mov (.t 54)), none⟩]) .ret) .skip)) (.seq (.ops [⟨(some 55), (.mov (.t 0)), none⟩, ⟨(some 56), (.nchk (.t 55)), none⟩, ⟨(some 57), (.fa 2 (.t 56)), none⟩, ⟨(some 58), (.ld none (.t 57)), none⟩, ⟨(some 59), (.bin .shr (.t 58) (.c (.int .u64 40))), none⟩, ⟨(some 60), (.bin .and (.t 59) (.c (.int .u64 255))), none⟩, ⟨(some 61), (.pu (.cvt .i64) [(.t 60)]), none⟩, ⟨(some 2), (.mov (.t 61)), none⟩]) .ret)))))))
theorem cc77 : ccode Tryz.prog (min Tryz.f77.ntmps pbase) (Tryz.f77.body.getD .skip) = some ac77 := by kernel_rfl
def ac78 : ACode := (.seq (.ops [⟨(some 2), (.nils 1), none⟩]) (.seq (.seq (.ops [⟨(some 3), (.mov (.t 0)), none⟩, ⟨(some 4), (.isnil false (.t 3)), none⟩]) (.cond (.t 4) (.seq (.ops [⟨(some 2), (.nils 1), none⟩]) .ret) .skip)) (.seq (.ops [⟨(some 5), (.bsl 1 0 [(.int .i64 0)] []), none⟩, ⟨(some 6), (.mov (.t 0)), none⟩, ⟨(some 7), (.app 1 8 (.t 5) (.t 6)), none⟩, ⟨(some 2), (.mov (.t 7)), none⟩]) .ret)))
theorem cc78 : ccode Tryz.prog (min Tryz.f78.ntmps pbase) (Tryz.f78.body.getD .skip) = some ac78 := by kernel_rfl
def ac79 : ACode := (.seq (.ops [⟨(some 2), (.mov (.c (.bool false))), none⟩]) (.seq (.ops [⟨(some 3), (.mov (.t 0)), none⟩, ⟨(some 4), (.bin .geq (.t 3) (.c (.int .i64 1))), none⟩, ⟨(some 5), (.mov (.t 4)), none⟩, ⟨(some 6), (.mov (.t 0)), (some (5, true))⟩, ⟨(some 7), (.bin .leq (.t 6) (.c (.int .i64 8))), (some (5, true))⟩, ⟨(some 8), (.pick (.t 5) (.t 7) (.c (.bool false))), none⟩, ⟨(some 2), (.mov (.t 8)), none⟩]) .ret))
theorem cc79 : ccode Tryz.prog (min Tryz.f79.ntmps pbase) (Tryz.f79.body.getD .skip) = some ac79 := by kernel_rfl
def ac80 : ACode := (.seq (.ops [⟨(some 4), (.mov (.c (.string (.mk #[])))), none⟩]) (.seq (.ops [⟨(some 5), (.nils 1), none⟩]) (.seq (.seq (.ops [⟨(some 8), (.mov (.t 0)), none⟩, ⟨(some 9), (.mov (.c (.int .i64 0))), none⟩]) (.block 0 (.loop (.seq (.ops [⟨(some 10), (.bin .lss (.t 9) (.t 8)), none⟩]) (.seq (.cond (.t 10) .skip (.exit 0)) (.seq (.block 1 (.seq (.ops [⟨(some 11), (.mov (.t 9)), none⟩, ⟨(some 6), (.mov (.t 11)), none⟩]) (.seq (.seq (.ops [⟨(some 12), (.mov (.t 6)), none⟩, ⟨(some 13), (.bin .gtr (.t 12) (.c (.int .i64 0))), none⟩]) (.cond (.t 13) (.ops [⟨(some 14), (.mov (.t 5)), none⟩, ⟨(some 15), (.bsl 1 1 [(.int .u8 0)] [(0, (.c (.int .u8 47)))]), none⟩, ⟨(some 16), (.app 1 1 (.t 14) (.t 15)), none⟩, ⟨(some 5), (.mov (.t 16)), none⟩]) .skip)) (.seq (.ops [⟨(some 17), (.mov (.t 0)), none⟩, ⟨(some 18), (.mov (.c (.int .i64 0))), none⟩]) (.block 2 (.loop (.seq (.ops [⟨(some 19), (.bin .lss (.t 18) (.t 17)), none⟩]) (.seq (.cond (.t 19) .skip (.exit 2)) (.seq (.block 3 (.seq (.ops [⟨(some 20), (.mov (.t 18)), none⟩, ⟨(some 7), (.mov (.t 20)), none⟩]) (.seq (.ops [⟨(some 21), (.mov (.t 1)), none⟩, ⟨(some 22), (.mov (.t 6)), none⟩, ⟨(some 23), (.mov (.t 7)), none⟩, ⟨(some 24), (.pu (.bld [(.int .i64 0), (.int .i64 0)] [(0, 1), (1, 1)]) [(.t 22), (.t 23)]), none⟩, ⟨(some 25), (.callv (.t 21) [(.t 24)]), none⟩]) (.cond (.t 25) (.ops [⟨(some 26), (.mov (.t 5)), none⟩, ⟨(some 27), (.bsl 1 1 [(.int .u8 0)] [(0, (.c (.int .u8 35)))]), none⟩, ⟨(some 28), (.app 1 1 (.t 26) (.t 27)), none⟩, ⟨(some 5), (.mov (.t 28)), none⟩]) (.ops [⟨(some 29), (.mov (.t 5)), none⟩, ⟨(some 30), (.bsl 1 1 [(.int .u8 0)] [(0, (.c (.int .u8 46)))]), none⟩, ⟨(some 31), (.app 1 1 (.t 29) (.t 30)), none⟩, ⟨(some 5), (.mov (.t 31)), none⟩]))))) (.ops [⟨(some 32), (.bin .add (.t 18) (.c (.int .i64 1))), none⟩, ⟨(some 18), (.mov (.t 32)), none⟩])))))))))) (.ops [⟨(some 33), (.bin .add (.t 9) (.c (.int .i64 1))), none⟩, ⟨(some 9), (.mov (.t 33)), none⟩]))))))) (.seq (.ops [⟨(some 34), (.mov (.t 5)), none⟩, ⟨(some 35), (.bts (.t 34)), none⟩, ⟨(some 4), (.mov (.t 35)), none⟩]) .ret))))
theorem cc80 : ccode Tryz.prog (min Tryz.f80.ntmps pbase) (Tryz.f80.body.getD .skip) = some ac80 := by kernel_rfl
def ac81 : ACode := (.seq (.ops [⟨(some 2), (.box 2 (.t 0)), none⟩, ⟨(some 3), (.mov (.c (.bool false))), none⟩]) (.seq (.tree (.take ⟨(some 4), (.fa 1 (.t 2)), none⟩ (.take ⟨(some 5), (.ld none (.t 4)), none⟩ (.take ⟨(some 6), (.fa 0 (.t 2)), none⟩ (.take ⟨(some 7), (.ld none (.t 6)), none⟩ (.take ⟨(some 8), (.bin .eql (.t 5) (.t 7)), none⟩ (.take ⟨(some 9), (.mov (.t 8)), none⟩ (.take ⟨(some 10), (.fa 1 (.t 2)), (some (9, false))⟩ (.take ⟨(some 11), (.ld none (.t 10)), (some (9, false))⟩ (.take ⟨(some 12), (.fa 0 (.t 2)), (some (9, false))⟩ (.take ⟨(some 13), (.ld none (.t 12)), (some (9, false))⟩ (.take ⟨(some 14), (.bin .add (.t 13) (.c (.int .i64 1))), (some (9, false))⟩ (.take ⟨(some 15), (.ld none (.t 1)), (some (9, false))⟩ (.take ⟨(some 16), (.bin .rem (.t 14) (.t 15)), (some (9, false))⟩ (.take ⟨(some 17), (.bin .eql (.t 11) (.t 16)), (some (9, false))⟩ (.take ⟨(some 18), (.pick (.t 9) (.c (.bool true)) (.t 17)), none⟩ (.take ⟨(some 3), (.mov (.t 18)), none⟩ .done))))))))))))))))) .ret))
theorem cc81 : ccode Tryz.prog (min Tryz.f81.ntmps pbase) (Tryz.f81.body.getD .skip) = some ac81 := by kernel_rfl
def ac82 : ACode := (.seq (.ops [⟨(some 2), (.alloc [(.int .i64 0), (.map none)]), none⟩, ⟨(some 3), (.mov (.c (.bool false))), none⟩]) (.seq (.ops [⟨(some 9), (.mov (.t 0)), none⟩, ⟨(some 10), (.call 86 [(.t 9), (.c (.string (.mk #[47]))), (.c (.int .i64 9))]), none⟩, ⟨(some 4), (.mov (.t 10)), none⟩]) (.seq (.seq (.ops [⟨(some 11), (.mov (.t 4)), none⟩, ⟨(some 12), (.len (.t 11)), none⟩, ⟨(some 13), (.call 79 [(.t 12)]), none⟩, ⟨(some 14), (.not (.t 13)), none⟩]) (.cond (.t 14) (.seq (.ops [⟨(some 15), (.pu (.bld [(.int .i64 0), (.map none)] []) []), none⟩, ⟨none, (.st 2 (.t 2) (.t 15)), none⟩, ⟨(some 3), (.mov (.c (.bool false))), none⟩]) .ret) .skip)) (.seq (.ops [⟨(some 16), (.mov (.t 4)), none⟩, ⟨(some 17), (.len (.t 16)), none⟩, ⟨(some 18), .mmk, none⟩, ⟨(some 19), (.pu (.bld [(.int .i64 0), (.map none)] [(0, 1), (1, 1)]) [(.t 17), (.t 18)]), none⟩, ⟨(some 5), (.alloc [(.int .i64 0), (.map none)]), none⟩, ⟨none, (.st 2 (.t 5) (.t 19)), none⟩]) (.seq (.seq (.ops [⟨(some 20), (.mov (.t 4)), none⟩, ⟨(some 21), (.len (.t 20)), none⟩, ⟨(some 22), (.mov (.c (.int .i64 0))), none⟩]) (.block 0 (.loop (.seq (.ops [⟨(some 23), (.bin .lss (.t 22) (.t 21)), none⟩]) (.seq (.cond (.t 23) .skip (.exit 0)) (.seq (.block 1 (.seq (.ops [⟨(some 24), (.mov (.t 22)), none⟩, ⟨(some 25), (.idx 1 (.t 20) (.t 22)), none⟩, ⟨(some 26), (.ld none (.t 25)), none⟩, ⟨(some 6), (.mov (.t 24)), none⟩, ⟨(some 7), (.mov (.t 26)), none⟩]) (.seq (.seq (.ops [⟨(some 27), (.mov (.t 7)), none⟩, ⟨(some 28), (.slen (.t 27)), none⟩, ⟨(some 29), (.fa 0 (.t 5)), none⟩, ⟨(some 30), (.ld none (.t 29)), none⟩, ⟨(some 31), (.bin .neq (.t 28) (.t 30)), none⟩]) (.cond (.t 31) (.seq (.ops [⟨(some 32), (.pu (.bld [(.int .i64 0), (.map none)] []) []), none⟩, ⟨none, (.st 2 (.t 2) (.t 32)), none⟩, ⟨(some 3), (.mov (.c (.bool false))), none⟩]) .ret) .skip)) (.seq (.ops [⟨(some 33), (.mov (.t 7)), none⟩, ⟨(some 34), (.slen (.t 33)), none⟩, ⟨(some 35), (.mov (.c (.int .i64 0))), none⟩]) (.block 2 (.loop (.seq (.ops [⟨(some 36), (.bin .lss (.t 35) (.t 34)), none⟩]) (.seq (.cond (.t 36) .skip (.exit 2)) (.seq (.block 3 (.seq (.ops [⟨(some 37), (.mov (.t 35)), none⟩, ⟨(some 8), (.mov (.t 37)), none⟩]) (.seq (.ops [⟨(some 38), (.mov (.t 7)), none⟩, ⟨(some 39), (.mov (.t 8)), none⟩, ⟨(some 40), (.pu .six [(.t 38), (.t 39)]), none⟩]) (.block 4 (.seq (.ops [⟨(some 43), (.bin .eql (.t 40) (.c (.int .u8 46))), none⟩, ⟨(some 42), (.mov (.t 43)), none⟩]) (.cond (.t 42) .skip (.seq (.ops [⟨(some 45), (.bin .eql (.t 40) (.c (.int .u8 35))), none⟩, ⟨(some 44), (.mov (.t 45)), none⟩]) (.cond (.t 44) (.ops [⟨(some 46), (.fa 1 (.t 5)), none⟩, ⟨(some 47), (.ld none (.t 46)), none⟩, ⟨(some 48), (.mov (.t 6)), none⟩, ⟨(some 49), (.mov (.t 8)), none⟩, ⟨(some 50), (.pu (.bld [(.int .i64 0), (.int .i64 0)] [(0, 1), (1, 1)]) [(.t 48), (.t 49)]), none⟩, ⟨none, (.mputk 79 (.t 47) (.t 50) (.c (.bool true))), none⟩]) (.seq (.ops [⟨(some 41), (.pu (.bld [(.int .i64 0), (.map none)] []) []), none⟩, ⟨none, (.st 2 (.t 2) (.t 41)), none⟩, ⟨(some 3), (.mov (.c (.bool false))), none⟩]) .ret))))))))) (.ops [⟨(some 51), (.bin .add (.t 35) (.c (.int .i64 1))), none⟩, ⟨(some 35), (.mov (.t 51)), none⟩])))))))))) (.ops [⟨(some 52), (.bin .add (.t 22) (.c (.int .i64 1))), none⟩, ⟨(some 22), (.mov (.t 52)), none⟩]))))))) (.seq (.ops [⟨(some 53), (.ld (some 2) (.t 5)), none⟩, ⟨none, (.st 2 (.t 2) (.t 53)), none⟩, ⟨(some 3), (.mov (.c (.bool true))), none⟩]) .ret))))))
theorem cc82 : ccode Tryz.prog (min Tryz.f82.ntmps pbase) (Tryz.f82.body.getD .skip) = some ac82 := by kernel_rfl
def ac83 : ACode := (.seq (.ops [⟨(some 1), (.box 2 (.t 0)), none⟩, ⟨(some 2), (.nils 1), none⟩]) (.seq (.ops [⟨(some 5), (.ld (some 2) (.t 1)), none⟩, ⟨(some 6), (.call 87 [(.t 5)]), none⟩, ⟨(some 3), (.mov (.t 6)), none⟩]) (.seq (.seq (.ops [⟨(some 7), (.mov (.t 3)), none⟩, ⟨(some 8), (.len (.t 7)), none⟩, ⟨(some 9), (.mov (.c (.int .i64 0))), none⟩]) (.block 0 (.loop (.seq (.ops [⟨(some 10), (.bin .lss (.t 9) (.t 8)), none⟩]) (.seq (.cond (.t 10) .skip (.exit 0)) (.seq (.block 1 (.seq (.ops [⟨(some 11), (.mov (.t 9)), none⟩, ⟨(some 4), (.mov (.t 11)), none⟩]) (.tree (.take ⟨(some 12), (.mov (.t 3)), none⟩ (.take ⟨(some 13), (.mov (.t 4)), none⟩ (.take ⟨(some 14), (.idx 1 (.t 12) (.t 13)), none⟩ (.take ⟨(some 15), (.ld none (.t 14)), none⟩ (.take ⟨(some 16), (.fa 0 (.t 1)), none⟩ (.take ⟨(some 17), (.ld none (.t 16)), none⟩ (.take ⟨(some 18), (.mov (.t 4)), none⟩ (.take ⟨(some 19), (.bin .sub (.t 17) (.t 18)), none⟩ (.take ⟨(some 20), (.call 35 [(.t 19)]), none⟩ (.take ⟨(some 21), (.bin .mul (.t 15) (.t 20)), none⟩ (.take ⟨(some 22), (.idx 1 (.t 12) (.t 13)), none⟩ (.take ⟨none, (.st 1 (.t 22) (.t 21)), none⟩ .done))))))))))))))) (.ops [⟨(some 23), (.bin .add (.t 9) (.c (.int .i64 1))), none⟩, ⟨(some 9), (.mov (.t 23)), none⟩]))))))) (.seq (.ops [⟨(some 24), (.mov (.t 3)), none⟩, ⟨(some 25), (.call 61 [(.t 24)]), none⟩, ⟨(some 2), (.mov (.t 25)), none⟩]) .ret))))
theorem cc83 : ccode Tryz.prog (min Tryz.f83.ntmps pbase) (Tryz.f83.body.getD .skip) = some ac83 := by kernel_rfl
def ac84 : ACode := (.seq (.ops [⟨(some 4), (.mov (.c (.int .i64 0))), none⟩]) (.seq (.seq (.ops [⟨(some 6), (.mov (.t 0)), none⟩, ⟨(some 7), (.len (.t 6)), none⟩, ⟨(some 8), (.mov (.c (.int .i64 0))), none⟩]) (.block 0 (.loop (.seq (.ops [⟨(some 9), (.bin .lss (.t 8) (.t 7)), none⟩]) (.seq (.cond (.t 9) .skip (.exit 0)) (.seq (.block 1 (.seq (.ops [⟨(some 10), (.mov (.t 8)), none⟩, ⟨(some 5), (.mov (.t 10)), none⟩]) (.seq (.ops [⟨(some 11), (.mov (.t 1)), none⟩, ⟨(some 12), (.mov (.t 0)), none⟩, ⟨(some 13), (.mov (.t 5)), none⟩, ⟨(some 14), (.idx 1 (.t 12) (.t 13)), none⟩, ⟨(some 15), (.ld none (.t 14)), none⟩, ⟨(some 16), (.bin .eql (.t 11) (.t 15)), none⟩]) (.cond (.t 16) (.seq (.ops [⟨(some 17), (.mov (.t 5)), none⟩, ⟨(some 4), (.mov (.t 17)), none⟩]) .ret) .skip)))) (.ops [⟨(some 18), (.bin .add (.t 8) (.c (.int .i64 1))), none⟩, ⟨(some 8), (.mov (.t 18)), none⟩]))))))) (.seq (.ops [⟨(some 4), (.mov (.c (.int .i64 (-1)))), none⟩]) .ret)))
theorem cc84 : ccode Tryz.prog (min Tryz.f84.ntmps pbase) (Tryz.f84.body.getD .skip) = some ac84 := by kernel_rfl
def ac85 : ACode := (.seq (.ops [⟨(some 4), (.mov (.c (.bool false))), none⟩]) (.seq (.ops [⟨(some 5), (.mov (.t 0)), none⟩, ⟨(some 6), (.bin .geq (.t 5) (.c (.int .i64 0))), none⟩, ⟨(some 7), (.mov (.t 6)), none⟩, ⟨(some 8), (.mov (.t 0)), (some (7, true))⟩, ⟨(some 9), (.mov (.t 1)), (some (7, true))⟩, ⟨(some 10), (.bin .lss (.t 8) (.t 9)), (some (7, true))⟩, ⟨(some 11), (.pick (.t 7) (.t 10) (.c (.bool false))), none⟩, ⟨(some 4), (.mov (.t 11)), none⟩]) .ret))
theorem cc85 : ccode Tryz.prog (min Tryz.f85.ntmps pbase) (Tryz.f85.body.getD .skip) = some ac85 := by kernel_rfl
def ac86 : ACode := (.seq (.ops [⟨(some 6), (.nils 1), none⟩]) (.seq (.ops [⟨(some 7), (.mov (.t 0)), none⟩, ⟨(some 8), (.mov (.t 1)), none⟩, ⟨(some 9), (.mov (.t 2)), none⟩, ⟨(some 10), (.call 88 [(.t 7), (.t 8), (.c (.int .i64 0)), (.t 9)]), none⟩, ⟨(some 6), (.mov (.t 10)), none⟩]) .ret))
theorem cc86 : ccode Tryz.prog (min Tryz.f86.ntmps pbase) (Tryz.f86.body.getD .skip) = some ac86 := by kernel_rfl
def ac87 : ACode := (.seq (.ops [⟨(some 1), (.box 2 (.t 0)), none⟩, ⟨(some 2), (.nils 1), none⟩]) (.scope (.seq (.ops [⟨(some 14), .mmk, none⟩, ⟨none, (.mput .u16 (.t 14) (.c (.int .u16 0)) (.c (.int .i64 1))), none⟩, ⟨(some 15), (.mov (.t 14)), none⟩, ⟨(some 3), (.mov (.t 15)), none⟩]) (.seq (.ops [⟨(some 16), (.fa 1 (.t 1)), none⟩, ⟨(some 17), (.ld none (.t 16)), none⟩, ⟨(some 18), (.call 89 [(.t 17)]), none⟩, ⟨(some 4), (.mov (.t 18)), none⟩]) (.seq (.label 0) (.seq (.seq (.ops [⟨(some 19), (.mov (.t 4)), none⟩, ⟨(some 20), (.mrg (.t 19)), none⟩]) (.block 0 (.loop (.seq (.ops [⟨(some 21), (.mnx (.t 20)), none⟩, ⟨(some 22), (.ext (.t 21) 0), none⟩]) (.seq (.cond (.t 22) .skip (.exit 0)) (.block 1 (.seq (.ops [⟨(some 23), (.ment (.t 20)), none⟩, ⟨(some 24), (.ext (.t 23) 0), none⟩, ⟨(some 5), (.alloc [(.int .i64 0), (.int .i64 0)]), none⟩, ⟨none, (.st 2 (.t 5) (.t 24)), none⟩]) (.seq (.ops [⟨(some 25), (.mov (.t 3)), none⟩, ⟨(some 26), (.call 90 [(.t 25)]), none⟩, ⟨(some 6), (.mov (.t 26)), none⟩]) (.seq (.seq (.ops [⟨(some 27), (.fa 0 (.t 1)), none⟩, ⟨(some 28), (.ld none (.t 27)), none⟩, ⟨(some 29), (.mov (.c (.int .i64 0))), none⟩]) (.block 2 (.loop (.seq (.ops [⟨(some 30), (.bin .lss (.t 29) (.t 28)), none⟩]) (.seq (.cond (.t 30) .skip (.exit 2)) (.seq (.block 3 (.seq (.ops [⟨(some 31), (.mov (.t 29)), none⟩, ⟨(some 7), (.mov (.t 31)), none⟩]) (.seq (.ops [⟨(some 32), (.fa 0 (.t 5)), none⟩, ⟨(some 33), (.ld none (.t 32)), none⟩, ⟨(some 34), (.mov (.t 7)), none⟩, ⟨(some 35), (.pu (.bld [(.int .i64 0), (.int .i64 0)] [(0, 1), (1, 1)]) [(.t 33), (.t 34)]), none⟩, ⟨(some 8), (.alloc [(.int .i64 0), (.int .i64 0)]), none⟩, ⟨none, (.st 2 (.t 8) (.t 35)), none⟩]) (.seq (.seq (.ops [⟨(some 36), (.mov (.t 4)), none⟩, ⟨(some 37), (.ld (some 2) (.t 8)), none⟩, ⟨(some 38), (.mgetk 79 (.bool false) false (.t 36) (.t 37)), none⟩, ⟨(some 39), (.not (.t 38)), none⟩]) (.cond (.t 39) (.exit 3) .skip)) (.seq (.ops [⟨(some 40), (.mov (.t 4)), none⟩, ⟨(some 41), (.ld (some 2) (.t 8)), none⟩, ⟨none, (.mdel 79 (.t 40) (.t 41)), none⟩]) (.seq (.ops [⟨(some 42), (.mov (.t 3)), none⟩, ⟨(some 43), (.mrg (.t 42)), none⟩]) (.block 4 (.loop (.seq (.ops [⟨(some 44), (.mnx (.t 43)), none⟩, ⟨(some 45), (.ext (.t 44) 0), none⟩]) (.seq (.cond (.t 45) .skip (.exit 4)) (.block 5 (.seq (.ops [⟨(some 46), (.ment (.t 43)), none⟩, ⟨(some 47), (.ext (.t 46) 0), none⟩, ⟨(some 48), (.ext (.t 46) 1), none⟩, ⟨(some 9), (.mov (.t 47)), none⟩, ⟨(some 10), (.mov (.t 48)), none⟩]) (.seq (.ops [⟨(some 49), (.mov (.t 9)), none⟩, ⟨(some 50), (.mov (.t 7)), none⟩, ⟨(some 51), (.call 76 [(.t 49), (.t 50)]), none⟩, ⟨(some 52), (.not (.t 51)), none⟩]) (.cond (.t 52) (.ops [⟨(some 53), (.mov (.t 6)), none⟩, ⟨(some 54), (.mov (.t 9)), none⟩, ⟨(some 55), (.mov (.t 7)), none⟩, ⟨(some 56), (.call 75 [(.t 54), (.t 55)]), none⟩, ⟨(some 57), (.mget .u16 (.int .i64 0) false (.t 53) (.t 56)), none⟩, ⟨(some 58), (.mov (.t 10)), none⟩, ⟨(some 59), (.bin .add (.t 57) (.t 58)), none⟩, ⟨none, (.mput .u16 (.t 53) (.t 56) (.t 59)), none⟩]) .skip)))))))))))))) (.ops [⟨(some 60), (.bin .add (.t 29) (.c (.int .i64 1))), none⟩, ⟨(some 29), (.mov (.t 60)), none⟩]))))))) (.seq (.ops [⟨(some 61), (.mov (.t 6)), none⟩, ⟨(some 3), (.mov (.t 61)), none⟩]) (.goto 0))))))))))) (.seq (.ops [⟨(some 62), (.fa 0 (.t 1)), none⟩, ⟨(some 63), (.ld none (.t 62)), none⟩, ⟨(some 64), (.bin .add (.t 63) (.c (.int .i64 1))), none⟩, ⟨(some 65), (.mk 1 8 [(.int .i64 0)] (.t 64) (.t 64)), none⟩, ⟨(some 11), (.mov (.t 65)), none⟩]) (.seq (.seq (.ops [⟨(some 66), (.mov (.t 3)), none⟩, ⟨(some 67), (.mrg (.t 66)), none⟩]) (.block 6 (.loop (.seq (.ops [⟨(some 68), (.mnx (.t 67)), none⟩, ⟨(some 69), (.ext (.t 68) 0), none⟩]) (.seq (.cond (.t 69) .skip (.exit 6)) (.block 7 (.seq (.ops [⟨(some 70), (.ment (.t 67)), none⟩, ⟨(some 71), (.ext (.t 70) 0), none⟩, ⟨(some 72), (.ext (.t 70) 1), none⟩, ⟨(some 12), (.mov (.t 71)), none⟩, ⟨(some 13), (.mov (.t 72)), none⟩]) (.ops [⟨(some 73), (.mov (.t 11)), none⟩, ⟨(some 74), (.mov (.t 12)), none⟩, ⟨(some 75), (.call 91 [(.t 74)]), none⟩, ⟨(some 76), (.idx 1 (.t 73) (.t 75)), none⟩, ⟨(some 77), (.ld none (.t 76)), none⟩, ⟨(some 78), (.mov (.t 13)), none⟩, ⟨(some 79), (.bin .add (.t 77) (.t 78)), none⟩, ⟨(some 80), (.idx 1 (.t 73) (.t 75)), none⟩, ⟨none, (.st 1 (.t 80) (.t 79)), none⟩])))))))) (.seq (.ops [⟨(some 81), (.mov (.t 11)), none⟩, ⟨(some 2), (.mov (.t 81)), none⟩]) .ret)))))))))
theorem cc87 : ccode Tryz.prog (min Tryz.f87.ntmps pbase) (Tryz.f87.body.getD .skip) = some ac87 := by kernel_rfl
def ac88 : ACode := (.seq (.ops [⟨(some 8), (.nils 1), none⟩]) (.seq (.seq (.ops [⟨(some 12), (.mov (.t 3)), none⟩, ⟨(some 13), (.bin .eql (.t 12) (.c (.int .i64 0))), none⟩]) (.cond (.t 13) (.seq (.ops [⟨(some 8), (.nils 1), none⟩]) .ret) .skip)) (.seq (.seq (.ops [⟨(some 14), (.mov (.t 1)), none⟩, ⟨(some 15), (.bin .eql (.t 14) (.c (.string (.mk #[])))), none⟩]) (.cond (.t 15) (.seq (.ops [⟨(some 16), (.mov (.t 0)), none⟩, ⟨(some 17), (.mov (.t 3)), none⟩, ⟨(some 18), (.call 92 [(.t 16), (.t 17)]), none⟩, ⟨(some 8), (.mov (.t 18)), none⟩]) .ret) .skip)) (.seq (.seq (.ops [⟨(some 19), (.mov (.t 3)), none⟩, ⟨(some 20), (.bin .lss (.t 19) (.c (.int .i64 0))), none⟩]) (.cond (.t 20) (.ops [⟨(some 21), (.mov (.t 0)), none⟩, ⟨(some 22), (.mov (.t 1)), none⟩, ⟨(some 23), (.call 93 [(.t 21), (.t 22)]), none⟩, ⟨(some 24), (.bin .add (.t 23) (.c (.int .i64 1))), none⟩, ⟨(some 3), (.mov (.t 24)), none⟩]) .skip)) (.seq (.ops [⟨(some 25), (.mov (.t 3)), none⟩, ⟨(some 26), (.mov (.t 0)), none⟩, ⟨(some 27), (.slen (.t 26)), none⟩, ⟨(some 28), (.bin .add (.t 27) (.c (.int .i64 1))), none⟩, ⟨(some 29), (.pu (.mm false) [(.t 25), (.t 28)]), none⟩, ⟨(some 3), (.mov (.t 29)), none⟩]) (.seq (.ops [⟨(some 30), (.mov (.t 3)), none⟩, ⟨(some 31), (.mk 1 16 [(.string (.mk #[]))] (.t 30) (.t 30)), none⟩, ⟨(some 9), (.mov (.t 31)), none⟩]) (.seq (.ops [⟨(some 32), (.mov (.t 3)), none⟩, ⟨(some 33), (.bin .sub (.t 32) (.c (.int .i64 1))), none⟩, ⟨(some 3), (.mov (.t 33)), none⟩]) (.seq (.ops [⟨(some 10), (.mov (.c (.int .i64 0))), none⟩]) (.seq (.block 0 (.loop (.seq (.seq (.ops [⟨(some 34), (.mov (.t 10)), none⟩, ⟨(some 35), (.mov (.t 3)), none⟩, ⟨(some 36), (.bin .lss (.t 34) (.t 35)), none⟩]) (.cond (.t 36) .skip (.exit 0))) (.block 1 (.seq (.ops [⟨(some 37), (.mov (.t 0)), none⟩, ⟨(some 38), (.mov (.t 1)), none⟩, ⟨(some 39), (.call 94 [(.t 37), (.t 38)]), none⟩, ⟨(some 11), (.mov (.t 39)), none⟩]) (.seq (.seq (.ops [⟨(some 40), (.mov (.t 11)), none⟩, ⟨(some 41), (.bin .lss (.t 40) (.c (.int .i64 0))), none⟩]) (.cond (.t 41) (.exit 0) .skip)) (.seq (.ops [⟨(some 42), (.mov (.t 9)), none⟩, ⟨(some 43), (.mov (.t 10)), none⟩, ⟨(some 44), (.mov (.t 0)), none⟩, ⟨(some 45), (.mov (.t 11)), none⟩, ⟨(some 46), (.mov (.t 2)), none⟩, ⟨(some 47), (.bin .add (.t 45) (.t 46)), none⟩, ⟨(some 48), (.pu (.scut false true) [(.t 44), (.t 47)]), none⟩, ⟨(some 49), (.idx 1 (.t 42) (.t 43)), none⟩, ⟨none, (.st 1 (.t 49) (.t 48)), none⟩]) (.seq (.ops [⟨(some 50), (.mov (.t 0)), none⟩, ⟨(some 51), (.mov (.t 11)), none⟩, ⟨(some 52), (.mov (.t 1)), none⟩, ⟨(some 53), (.slen (.t 52)), none⟩, ⟨(some 54), (.bin .add (.t 51) (.t 53)), none⟩, ⟨(some 55), (.pu (.scut true false) [(.t 50), (.t 54)]), none⟩, ⟨(some 0), (.mov (.t 55)), none⟩]) (.ops [⟨(some 56), (.mov (.t 10)), none⟩, ⟨(some 57), (.bin .add (.t 56) (.c (.int .i64 1))), none⟩, ⟨(some 10), (.mov (.t 57)), none⟩]))))))))) (.seq (.ops [⟨(some 58), (.mov (.t 9)), none⟩, ⟨(some 59), (.mov (.t 10)), none⟩, ⟨(some 60), (.mov (.t 0)), none⟩, ⟨(some 61), (.idx 1 (.t 58) (.t 59)), none⟩, ⟨none, (.st 1 (.t 61) (.t 60)), none⟩]) (.seq (.ops [⟨(some 62), (.mov (.t 9)), none⟩, ⟨(some 63), (.mov (.t 10)), none⟩, ⟨(some 64), (.bin .add (.t 63) (.c (.int .i64 1))), none⟩, ⟨(some 65), (.cut 1 (.t 62) none (some (.t 64))), none⟩, ⟨(some 8), (.mov (.t 65)), none⟩]) .ret)))))))))))
theorem cc88 : ccode Tryz.prog (min Tryz.f88.ntmps pbase) (Tryz.f88.body.getD .skip) = some ac88 := by kernel_rfl
def ac91 : ACode := (.seq (.ops [⟨(some 2), (.mov (.c (.int .i64 0))), none⟩]) (.seq (.ops [⟨(some 3), (.mov (.t 0)), none⟩, ⟨(some 4), (.call 96 [(.t 3)]), none⟩, ⟨(some 2), (.mov (.t 4)), none⟩]) .ret))
theorem cc91 : ccode Tryz.prog (min Tryz.f91.ntmps pbase) (Tryz.f91.body.getD .skip) = some ac91 := by kernel_rfl
def ac94 : ACode := (.seq (.ops [⟨(some 4), (.mov (.c (.int .i64 0))), none⟩]) (.seq (.ops [⟨(some 5), (.mov (.t 0)), none⟩, ⟨(some 6), (.mov (.t 1)), none⟩, ⟨(some 7), (.call 100 [(.t 5), (.t 6)]), none⟩, ⟨(some 4), (.mov (.t 7)), none⟩]) .ret))
theorem cc94 : ccode Tryz.prog (min Tryz.f94.ntmps pbase) (Tryz.f94.body.getD .skip) = some ac94 := by kernel_rfl
def ac96 : ACode := (.seq (.ops [⟨(some 2), (.mov (.c (.int .i64 0))), none⟩]) (.seq (.tree (.take ⟨(some 3), (.mov (.t 0)), none⟩ (.take ⟨(some 4), (.bin .shr (.t 3) (.c (.int .u64 8))), none⟩ (.take ⟨(some 5), (.pu .six [(.c (.string (.mk #[0, 1, 1, 2, 1, 2, 2, 3, 1, 2, 2, 3, 2, 3, 3, 4, 1, 2, 2, 3, 2, 3, 3, 4, 2, 3, 3, 4, 3, 4, 4, 5, 1, 2, 2, 3, 2, 3, 3, 4, 2, 3, 3, 4, 3, 4, 4, 5, 2, 3, 3, 4, 3, 4, 4, 5, 3, 4, 4, 5, 4, 5, 5, 6, 1, 2, 2, 3, 2, 3, 3, 4, 2, 3, 3, 4, 3, 4, 4, 5, 2, 3, 3, 4, 3, 4, 4, 5, 3, 4, 4, 5, 4, 5, 5, 6, 2, 3, 3, 4, 3, 4, 4, 5, 3, 4, 4, 5, 4, 5, 5, 6, 3, 4, 4, 5, 4, 5, 5, 6, 4, 5, 5, 6, 5, 6, 6, 7, 1, 2, 2, 3, 2, 3, 3, 4, 2, 3, 3, 4, 3, 4, 4, 5, 2, 3, 3, 4, 3, 4, 4, 5, 3, 4, 4, 5, 4, 5, 5, 6, 2, 3, 3, 4, 3, 4, 4, 5, 3, 4, 4, 5, 4, 5, 5, 6, 3, 4, 4, 5, 4, 5, 5, 6, 4, 5, 5, 6, 5, 6, 6, 7, 2, 3, 3, 4, 3, 4, 4, 5, 3, 4, 4, 5, 4, 5, 5, 6, 3, 4, 4, 5, 4, 5, 5, 6, 4, 5, 5, 6, 5, 6, 6, 7, 3, 4, 4, 5, 4, 5, 5, 6, 4, 5, 5, 6, 5, 6, 6, 7, 4, 5, 5, 6, 5, 6, 6, 7, 5, 6, 6, 7, 6, 7, 7, 8]))), (.t 4)]), none⟩ (.take ⟨(some 6), (.mov (.t 0)), none⟩ (.take ⟨(some 7), (.bin .and (.t 6) (.c (.int .u16 255))), none⟩ (.take ⟨(some 8), (.pu .six [(.c (.string (.mk #[0, 1, 1, 2, 1, 2, 2, 3, 1, 2, 2, 3, 2, 3, 3, 4, 1, 2, 2, 3, 2, 3, 3, 4, 2, 3, 3, 4, 3, 4, 4, 5, 1, 2, 2, 3, 2, 3, 3, 4, 2, 3, 3, 4, 3, 4, 4, 5, 2, 3, 3, 4, 3, 4, 4, 5, 3, 4, 4, 5, 4, 5, 5, 6, 1, 2, 2, 3, 2, 3, 3, 4, 2, 3, 3, 4, 3, 4, 4, 5, 2, 3, 3, 4, 3, 4, 4, 5, 3, 4, 4, 5, 4, 5, 5, 6, 2, 3, 3, 4, 3, 4, 4, 5, 3, 4, 4, 5, 4, 5, 5, 6, 3, 4, 4, 5, 4, 5, 5, 6, 4, 5, 5, 6, 5, 6, 6, 7, 1, 2, 2, 3, 2, 3, 3, 4, 2, 3, 3, 4, 3, 4, 4, 5, 2, 3, 3, 4, 3, 4, 4, 5, 3, 4, 4, 5, 4, 5, 5, 6, 2, 3, 3, 4, 3, 4, 4, 5, 3, 4, 4, 5, 4, 5, 5, 6, 3, 4, 4, 5, 4, 5, 5, 6, 4, 5, 5, 6, 5, 6, 6, 7, 2, 3, 3, 4, 3, 4, 4, 5, 3, 4, 4, 5, 4, 5, 5, 6, 3, 4, 4, 5, 4, 5, 5, 6, 4, 5, 5, 6, 5, 6, 6, 7, 3, 4, 4, 5, 4, 5, 5, 6, 4, 5, 5, 6, 5, 6, 6, 7, 4, 5, 5, 6, 5, 6, 6, 7, 5, 6, 6, 7, 6, 7, 7, 8]))), (.t 7)]), none⟩ (.take ⟨(some 9), (.bin .add (.t 5) (.t 8)), none⟩ (.take ⟨(some 10), (.pu (.cvt .i64) [(.t 9)]), none⟩ (.take ⟨(some 2), (.mov (.t 10)), none⟩ .done)))))))))) .ret))
theorem cc96 : ccode Tryz.prog (min Tryz.f96.ntmps pbase) (Tryz.f96.body.getD .skip) = some ac96 := by kernel_rfl
def ac100 : ACode := (.seq (.ops [⟨(some 4), (.mov (.c (.int .i64 0))), none⟩]) (.seq (.ops [⟨(some 14), (.mov (.t 1)), none⟩, ⟨(some 15), (.slen (.t 14)), none⟩, ⟨(some 5), (.mov (.t 15)), none⟩]) (.seq (.block 0 (.seq (.ops [⟨(some 17), (.mov (.t 5)), none⟩, ⟨(some 18), (.bin .eql (.t 17) (.c (.int .i64 0))), none⟩, ⟨(some 19), (.mov (.t 18)), none⟩, ⟨(some 20), (.mov (.t 1)), (some (19, false))⟩, ⟨(some 21), (.mov (.t 0)), (some (19, false))⟩, ⟨(some 22), (.bin .eql (.t 20) (.t 21)), (some (19, false))⟩, ⟨(some 23), (.pick (.t 19) (.c (.bool true)) (.t 22)), none⟩, ⟨(some 16), (.mov (.t 23)), none⟩]) (.cond (.t 16) (.seq (.ops [⟨(some 4), (.mov (.c (.int .i64 0))), none⟩]) .ret) (.seq (.ops [⟨(some 25), (.mov (.t 5)), none⟩, ⟨(some 26), (.bin .eql (.t 25) (.c (.int .i64 1))), none⟩, ⟨(some 24), (.mov (.t 26)), none⟩]) (.cond (.t 24) (.seq (.ops [⟨(some 27), (.mov (.t 0)), none⟩, ⟨(some 28), (.mov (.t 1)), none⟩, ⟨(some 29), (.pu .six [(.t 28), (.c (.int .i64 0))]), none⟩, ⟨(some 30), (.call 102 [(.t 27), (.t 29)]), none⟩, ⟨(some 4), (.mov (.t 30)), none⟩]) .ret) (.seq (.ops [⟨(some 32), (.mov (.t 5)), none⟩, ⟨(some 33), (.mov (.t 0)), none⟩, ⟨(some 34), (.slen (.t 33)), none⟩, ⟨(some 35), (.bin .geq (.t 32) (.t 34)), none⟩, ⟨(some 31), (.mov (.t 35)), none⟩]) (.cond (.t 31) (.seq (.ops [⟨(some 4), (.mov (.c (.int .i64 (-1)))), none⟩]) .ret) (.seq (.ops [⟨(some 37), (.mov (.t 5)), none⟩, ⟨(some 38), (.ld none (.c (.pointer (some (.mk 0 0 none))))), none⟩, ⟨(some 39), (.bin .leq (.t 37) (.t 38)), none⟩, ⟨(some 40), (.mov (.t 39)), none⟩, ⟨(some 41), (.mov (.t 0)), (some (40, true))⟩, ⟨(some 42), (.slen (.t 41)), (some (40, true))⟩, ⟨(some 43), (.bin .leq (.t 42) (.c (.int .i64 64))), (some (40, true))⟩, ⟨(some 44), (.pick (.t 40) (.t 43) (.c (.bool false))), none⟩, ⟨(some 36), (.mov (.t 44)), none⟩]) (.cond (.t 36) (.seq (.ops [⟨(some 45), (.mov (.t 0)), none⟩, ⟨(some 46), (.mov (.t 1)), none⟩, ⟨(some 47), (.xcall 103 [(.t 45), (.t 46)]), none⟩, ⟨(some 4), (.mov (.t 47)), none⟩]) .ret) .skip))))))))) (.seq (.ops [⟨(some 48), (.mov (.t 1)), none⟩, ⟨(some 49), (.pu .six [(.t 48), (.c (.int .i64 0))]), none⟩, ⟨(some 6), (.mov (.t 49)), none⟩]) (.seq (.ops [⟨(some 50), (.mov (.t 1)), none⟩, ⟨(some 51), (.pu .six [(.t 50), (.c (.int .i64 1))]), none⟩, ⟨(some 7), (.mov (.t 51)), none⟩]) (.seq (.ops [⟨(some 8), (.mov (.c (.int .i64 0))), none⟩]) (.seq (.ops [⟨(some 52), (.mov (.t 0)), none⟩, ⟨(some 53), (.slen (.t 52)), none⟩, ⟨(some 54), (.mov (.t 5)), none⟩, ⟨(some 55), (.bin .sub (.t 53) (.t 54)), none⟩, ⟨(some 56), (.bin .add (.t 55) (.c (.int .i64 1))), none⟩, ⟨(some 9), (.mov (.t 56)), none⟩]) (.seq (.ops [⟨(some 10), (.mov (.c (.int .i64 0))), none⟩]) (.seq (.block 1 (.loop (.seq (.seq (.ops [⟨(some 57), (.mov (.t 8)), none⟩, ⟨(some 58), (.mov (.t 9)), none⟩, ⟨(some 59), (.bin .lss (.t 57) (.t 58)), none⟩]) (.cond (.t 59) .skip (.exit 1))) (.block 2 (.seq (.seq (.ops [⟨(some 60), (.mov (.t 0)), none⟩, ⟨(some 61), (.mov (.t 8)), none⟩, ⟨(some 62), (.pu .six [(.t 60), (.t 61)]), none⟩, ⟨(some 63), (.mov (.t 6)), none⟩, ⟨(some 64), (.bin .neq (.t 62) (.t 63)), none⟩]) (.cond (.t 64) (.seq (.ops [⟨(some 65), (.mov (.t 0)), none⟩, ⟨(some 66), (.mov (.t 8)), none⟩, ⟨(some 67), (.bin .add (.t 66) (.c (.int .i64 1))), none⟩, ⟨(some 68), (.mov (.t 9)), none⟩, ⟨(some 69), (.pu (.scut true true) [(.t 65), (.t 67), (.t 68)]), none⟩, ⟨(some 70), (.mov (.t 6)), none⟩, ⟨(some 71), (.call 102 [(.t 69), (.t 70)]), none⟩, ⟨(some 11), (.mov (.t 71)), none⟩]) (.seq (.seq (.ops [⟨(some 72), (.mov (.t 11)), none⟩, ⟨(some 73), (.bin .lss (.t 72) (.c (.int .i64 0))), none⟩]) (.cond (.t 73) (.seq (.ops [⟨(some 4), (.mov (.c (.int .i64 (-1)))), none⟩]) .ret) .skip)) (.ops [⟨(some 74), (.mov (.t 8)), none⟩, ⟨(some 75), (.mov (.t 11)), none⟩, ⟨(some 76), (.bin .add (.t 75) (.c (.int .i64 1))), none⟩, ⟨(some 77), (.bin .add (.t 74) (.t 76)), none⟩, ⟨(some 8), (.mov (.t 77)), none⟩]))) .skip)) (.seq (.seq (.ops [⟨(some 78), (.mov (.t 0)), none⟩, ⟨(some 79), (.mov (.t 8)), none⟩, ⟨(some 80), (.bin .add (.t 79) (.c (.int .i64 1))), none⟩, ⟨(some 81), (.pu .six [(.t 78), (.t 80)]), none⟩, ⟨(some 82), (.mov (.t 7)), none⟩, ⟨(some 83), (.bin .eql (.t 81) (.t 82)), none⟩, ⟨(some 84), (.mov (.t 83)), none⟩, ⟨(some 85), (.mov (.t 0)), (some (84, true))⟩, ⟨(some 86), (.mov (.t 8)), (some (84, true))⟩, ⟨(some 87), (.mov (.t 8)), (some (84, true))⟩, ⟨(some 88), (.mov (.t 5)), (some (84, true))⟩, ⟨(some 89), (.bin .add (.t 87) (.t 88)), (some (84, true))⟩, ⟨(some 90), (.pu (.scut true true) [(.t 85), (.t 86), (.t 89)]), (some (84, true))⟩, ⟨(some 91), (.mov (.t 1)), (some (84, true))⟩, ⟨(some 92), (.bin .eql (.t 90) (.t 91)), (some (84, true))⟩, ⟨(some 93), (.pick (.t 84) (.t 92) (.c (.bool false))), none⟩]) (.cond (.t 93) (.seq (.ops [⟨(some 94), (.mov (.t 8)), none⟩, ⟨(some 4), (.mov (.t 94)), none⟩]) .ret) .skip)) (.seq (.ops [⟨(some 95), (.mov (.t 8)), none⟩, ⟨(some 96), (.bin .add (.t 95) (.c (.int .i64 1))), none⟩, ⟨(some 8), (.mov (.t 96)), none⟩]) (.seq (.ops [⟨(some 97), (.mov (.t 10)), none⟩, ⟨(some 98), (.bin .add (.t 97) (.c (.int .i64 1))), none⟩, ⟨(some 10), (.mov (.t 98)), none⟩]) (.seq (.ops [⟨(some 99), (.mov (.t 5)), none⟩, ⟨(some 100), (.ld none (.c (.pointer (some (.mk 0 0 none))))), none⟩, ⟨(some 101), (.bin .leq (.t 99) (.t 100)), none⟩, ⟨(some 102), (.mov (.t 101)), none⟩, ⟨(some 103), (.mov (.t 10)), (some (102, true))⟩, ⟨(some 104), (.mov (.t 8)), (some (102, true))⟩, ⟨(some 105), (.call 104 [(.t 104)]), (some (102, true))⟩, ⟨(some 106), (.bin .gtr (.t 103) (.t 105)), (some (102, true))⟩, ⟨(some 107), (.pick (.t 102) (.t 106) (.c (.bool false))), none⟩]) (.cond (.t 107) (.seq (.ops [⟨(some 108), (.mov (.t 0)), none⟩, ⟨(some 109), (.mov (.t 8)), none⟩, ⟨(some 110), (.pu (.scut true false) [(.t 108), (.t 109)]), none⟩, ⟨(some 111), (.mov (.t 1)), none⟩, ⟨(some 112), (.xcall 103 [(.t 110), (.t 111)]), none⟩, ⟨(some 12), (.mov (.t 112)), none⟩]) (.seq (.seq (.ops [⟨(some 113), (.mov (.t 12)), none⟩, ⟨(some 114), (.bin .geq (.t 113) (.c (.int .i64 0))), none⟩]) (.cond (.t 114) (.seq (.ops [⟨(some 115), (.mov (.t 12)), none⟩, ⟨(some 116), (.mov (.t 8)), none⟩, ⟨(some 117), (.bin .add (.t 115) (.t 116)), none⟩, ⟨(some 4), (.mov (.t 117)), none⟩]) .ret) .skip)) (.seq (.ops [⟨(some 4), (.mov (.c (.int .i64 (-1)))), none⟩]) .ret))) (.seq (.ops [⟨(some 118), (.mov (.t 5)), none⟩, ⟨(some 119), (.ld none (.c (.pointer (some (.mk 0 0 none))))), none⟩, ⟨(some 120), (.bin .gtr (.t 118) (.t 119)), none⟩, ⟨(some 121), (.mov (.t 120)), none⟩, ⟨(some 122), (.mov (.t 10)), (some (121, true))⟩, ⟨(some 123), (.mov (.t 8)), (some (121, true))⟩, ⟨(some 124), (.bin .shr (.t 123) (.c (.int .u64 4))), (some (121, true))⟩, ⟨(some 125), (.bin .add (.c (.int .i64 4)) (.t 124)), (some (121, true))⟩, ⟨(some 126), (.bin .geq (.t 122) (.t 125)), (some (121, true))⟩, ⟨(some 127), (.pick (.t 121) (.t 126) (.c (.bool false))), none⟩, ⟨(some 128), (.mov (.t 127)), none⟩, ⟨(some 129), (.mov (.t 8)), (some (128, true))⟩, ⟨(some 130), (.mov (.t 9)), (some (128, true))⟩, ⟨(some 131), (.bin .lss (.t 129) (.t 130)), (some (128, true))⟩, ⟨(some 132), (.pick (.t 128) (.t 131) (.c (.bool false))), none⟩]) (.cond (.t 132) (.seq (.ops [⟨(some 133), (.mov (.t 0)), none⟩, ⟨(some 134), (.mov (.t 8)), none⟩, ⟨(some 135), (.pu (.scut true false) [(.t 133), (.t 134)]), none⟩, ⟨(some 136), (.mov (.t 1)), none⟩, ⟨(some 137), (.call 105 [(.t 135), (.t 136)]), none⟩, ⟨(some 13), (.mov (.t 137)), none⟩]) (.seq (.seq (.ops [⟨(some 138), (.mov (.t 13)), none⟩, ⟨(some 139), (.bin .lss (.t 138) (.c (.int .i64 0))), none⟩]) (.cond (.t 139) (.seq (.ops [⟨(some 4), (.mov (.c (.int .i64 (-1)))), none⟩]) .ret) .skip)) (.seq (.ops [⟨(some 140), (.mov (.t 8)), none⟩, ⟨(some 141), (.mov (.t 13)), none⟩, ⟨(some 142), (.bin .add (.t 140) (.t 141)), none⟩, ⟨(some 4), (.mov (.t 142)), none⟩]) .ret))) .skip)))))))))))) (.seq (.ops [⟨(some 4), (.mov (.c (.int .i64 (-1)))), none⟩]) .ret))))))))))
theorem cc100 : ccode Tryz.prog (min Tryz.f100.ntmps pbase) (Tryz.f100.body.getD .skip) = some ac100 := by kernel_rfl
def ac102 : ACode := (.seq (.ops [⟨(some 4), (.mov (.c (.int .i64 0))), none⟩]) (.seq (.ops [⟨(some 5), (.mov (.t 0)), none⟩, ⟨(some 6), (.mov (.t 1)), none⟩, ⟨(some 7), (.xcall 106 [(.t 5), (.t 6)]), none⟩, ⟨(some 4), (.mov (.t 7)), none⟩]) .ret))
theorem cc102 : ccode Tryz.prog (min Tryz.f102.ntmps pbase) (Tryz.f102.body.getD .skip) = some ac102 := by kernel_rfl
end Go.Proofs.YtmmcldbldbpikaaGreatDoor
namespace Go.Proofs.YtmmcldbldbpikaaGreatDoor
variable [Go.Am.CodeBlk]
open Go.Am
attribute [local irreducible] AW Outs Weak Lends Lend Sp aops atree aop1 Then Round InBlock Done
theorem isGuest_spec (a b : Int) : Sp Tryz.prog 85 [.i a, .i b] (.b (decide (0 ≤ a ∧ a < b))) := by
  refine spec_of Tryz.func85 rfl cc85 rfl ?_
  unfold ac85
  by_cases h : 0 ≤ a
  all_goals
    repeat (first | (refine step_ops ?_; (first | ((try (refine g_yes rfl ?_ ?_; (· first | rfl | assumption | (refine decide_eq_true ?_; first | assumption | omega) | (refine nt ?_; first | assumption | omega) | (simp [*]; done) | (refine decide_eq_false ?_; first | assumption | omega) | (refine nf ?_; first | assumption | omega)))); (first | (refine m_mov (by conv => lhs; whnf) ?_) | (refine m_lss rfl rfl ?_) | (refine m_geq rfl rfl ?_) | (refine m_pick_t rfl ?_ (by conv => lhs; whnf) ?_; (· first | rfl | assumption | (refine decide_eq_true ?_; first | assumption | omega) | (refine nt ?_; first | assumption | omega) | (simp [*]; done))) | (refine m_pick_f rfl ?_ (by conv => lhs; whnf) ?_; (· first | rfl | assumption | (refine decide_eq_false ?_; first | assumption | omega) | (refine nf ?_; first | assumption | omega) | (simp [*]; done))))) | (refine g_noT rfl ?_ ?_; (· first | rfl | assumption | (refine decide_eq_false ?_; first | assumption | omega) | (refine nf ?_; first | assumption | omega) | (simp [*]; done))))) | refine end_ops ?_ | refine seq_ops ?_ | refine AW_ret ?_ | refine ret_done ?_)
    refine outs_b ?_
    simp [*]
theorem l1In_spec (a b c : Int) : Sp Tryz.prog 31 [.i a, .i b, .i c] (.b (decide (b ≤ a ∧ a ≤ c))) := by
  refine spec_of Tryz.func31 rfl cc31 rfl ?_
  unfold ac31
  by_cases h : b ≤ a
  all_goals
    repeat (first | (refine step_ops ?_; (first | ((try (refine g_yes rfl ?_ ?_; (· first | rfl | assumption | (refine decide_eq_true ?_; first | assumption | omega) | (refine nt ?_; first | assumption | omega) | (simp [*]; done) | (refine decide_eq_false ?_; first | assumption | omega) | (refine nf ?_; first | assumption | omega)))); (first | (refine m_mov (by conv => lhs; whnf) ?_) | (refine m_leq rfl rfl ?_) | (refine m_geq rfl rfl ?_) | (refine m_pick_t rfl ?_ (by conv => lhs; whnf) ?_; (· first | rfl | assumption | (refine decide_eq_true ?_; first | assumption | omega) | (refine nt ?_; first | assumption | omega) | (simp [*]; done))) | (refine m_pick_f rfl ?_ (by conv => lhs; whnf) ?_; (· first | rfl | assumption | (refine decide_eq_false ?_; first | assumption | omega) | (refine nf ?_; first | assumption | omega) | (simp [*]; done))))) | (refine g_noT rfl ?_ ?_; (· first | rfl | assumption | (refine decide_eq_false ?_; first | assumption | omega) | (refine nf ?_; first | assumption | omega) | (simp [*]; done))))) | refine end_ops ?_ | refine seq_ops ?_ | refine AW_ret ?_ | refine ret_done ?_)
    refine outs_b ?_
    simp [*]
theorem getD_mem {L : List Int} {k : Nat} (h : k < L.length) : L.getD k 0 ∈ L := by simp [h]
end Go.Proofs.YtmmcldbldbpikaaGreatDoor
namespace Go.Am
variable [Go.Am.CodeBlk]
variable {P : Program} {own : Bool} {N : Nat} {s : AS} {K : AS → Prop} {d : Option Nat}
/-- An unsigned integer of sixteen bits. -/
abbrev AV.u (a : Nat) : AV := .v (.int .u16 (a : Int))
theorem wrap16 {a : Nat} (h : a < 65536) : IntKind.u16.wrap (a : Int) = (a : Int) := by
  have : IntKind.u16.wrap (a : Int) = (a : Int) % 65536 := by simp [IntKind.wrap, IntKind.bits, IntKind.signed]
  omega
theorem ofInt16 {a : Nat} (h : a < 65536) : (BitVec.ofInt IntKind.u16.bits (a : Int)).toNat = a := by
  show (BitVec.ofInt 16 (a : Int)).toNat = a
  rw [BitVec.ofInt_natCast, BitVec.toNat_ofNat]
  omega
theorem and16_lt {a b : Nat} (h : a < 65536) : a &&& b < 65536 := Nat.lt_of_le_of_lt Nat.and_le_left h
theorem or16_lt {a b : Nat} (h : a < 65536) (h2 : b < 65536) : a ||| b < 65536 := Nat.or_lt_two_pow (n := 16) h h2
theorem shl16_lt {k : Nat} (h : k < 16) : 1 <<< k < 65536 := by
  rw [Nat.one_shiftLeft]
  exact Nat.pow_lt_pow_right (by decide) h
section
variable {x y : Opd} {a b k : Nat}
theorem m_shr16 (hx : s.ev x = .u a) (hy : s.ev y = .i (k : Nat)) (hk : k < 16) (kk : K (s.put d (.u (a >>> k)))) : aop1 P own ⟨d, .bin .shr x y, none⟩ s K := by
  refine ⟨_, _, _, hx, hy, ?_, kk⟩
  have h1 : ¬ ((k : Nat) : Int) < 0 := by omega
  have h2 : min ((k : Nat) : Int).toNat IntKind.u16.bits = k := by show min _ 16 = k; omega
  show (if ((k : Nat) : Int) < 0 then none else some (Value.int .u16 ((a : Int).fdiv (2 ^ (min ((k : Nat) : Int).toNat IntKind.u16.bits))))) = _
  rw [if_neg h1, h2, Nat.shiftRight_eq_div_pow]
  congr 2
  rw [Int.fdiv_eq_ediv_of_nonneg _ (by exact Int.le_of_lt (Int.pow_pos (by decide)))]
  push_cast
  rfl
theorem m_shl16 (hx : s.ev x = .u 1) (hy : s.ev y = .i (k : Nat)) (hk : k < 16) (kk : K (s.put d (.u (1 <<< k)))) : aop1 P own ⟨d, .bin .shl x y, none⟩ s K := by
  refine ⟨_, _, _, hx, hy, ?_, kk⟩
  have h1 : ¬ ((k : Nat) : Int) < 0 := by omega
  have h2 : min ((k : Nat) : Int).toNat IntKind.u16.bits = k := by show min _ 16 = k; omega
  show (if ((k : Nat) : Int) < 0 then none else some (Value.int .u16 (IntKind.u16.wrap ((1 : Int) * 2 ^ (min ((k : Nat) : Int).toNat IntKind.u16.bits))))) = _
  rw [if_neg h1, h2]
  congr 2
  have : ((1 : Int) * (2 : Int) ^ k) = ((1 <<< k : Nat) : Int) := by rw [Nat.one_shiftLeft, Int.one_mul]; push_cast; rfl
  exact (congrArg _ this).trans (wrap16 (shl16_lt hk))
theorem m_and16 (hx : s.ev x = .u a) (hy : s.ev y = .u b) (ha : a < 65536) (hb : b < 65536) (kk : K (s.put d (.u (a &&& b)))) : aop1 P own ⟨d, .bin .and x y, none⟩ s K := by
  refine ⟨_, _, _, hx, hy, ?_, kk⟩
  show some (Value.int .u16 (IntKind.u16.wrap ((BitVec.ofInt IntKind.u16.bits (a : Int) &&& BitVec.ofInt IntKind.u16.bits (b : Int)).toNat : Int))) = _
  rw [BitVec.toNat_and, ofInt16 ha, ofInt16 hb, wrap16 (and16_lt ha)]
theorem m_or16 (hx : s.ev x = .u a) (hy : s.ev y = .u b) (ha : a < 65536) (hb : b < 65536) (kk : K (s.put d (.u (a ||| b)))) : aop1 P own ⟨d, .bin .or x y, none⟩ s K := by
  refine ⟨_, _, _, hx, hy, ?_, kk⟩
  show some (Value.int .u16 (IntKind.u16.wrap ((BitVec.ofInt IntKind.u16.bits (a : Int) ||| BitVec.ofInt IntKind.u16.bits (b : Int)).toNat : Int))) = _
  rw [BitVec.toNat_or, ofInt16 ha, ofInt16 hb, wrap16 (or16_lt ha hb)]
theorem m_eql16 (hx : s.ev x = .u a) (hy : s.ev y = .u b) (kk : K (s.put d (.b (decide (a = b))))) : aop1 P own ⟨d, .bin .eql x y, none⟩ s K := by
  refine ⟨_, _, _, hx, hy, rfl, ?_⟩
  rw [show (((a : Nat) : Int) == ((b : Nat) : Int)) = decide (a = b) from by rw [Bool.eq_iff_iff]; simp; omega]
  exact kk
theorem m_and16_1 (hx : s.ev x = .u a) (hy : s.ev y = .u 1) (ha : a < 65536) (kk : K (s.put d (.u (a &&& 1)))) : aop1 P own ⟨d, .bin .and x y, none⟩ s K := m_and16 hx hy ha (by decide) kk
theorem m_eql16_1 (hx : s.ev x = .u a) (hy : s.ev y = .u 1) (kk : K (s.put d (.b (decide (a = 1))))) : aop1 P own ⟨d, .bin .eql x y, none⟩ s K := m_eql16 hx hy kk
end
theorem bit_and (a k : Nat) : decide ((a >>> k) &&& 1 = 1) = a.testBit k := by
  rw [Nat.testBit, Nat.and_comm]
  have := Nat.one_and_eq_mod_two (a >>> k)
  rcases Nat.mod_two_eq_zero_or_one (a >>> k) with h | h <;> simp [this, h]
theorem bit_or (a k i : Nat) : (a ||| 1 <<< k).testBit i = (a.testBit i || decide (i = k)) := by
  rw [Nat.testBit_or, Nat.one_shiftLeft, Nat.testBit_two_pow]
  by_cases h : k = i
  · subst h; simp
  · simp [h, Ne.symm h]
end Go.Am
namespace Go.Proofs.YtmmcldbldbpikaaGreatDoor
variable [Go.Am.CodeBlk]
open Go.Am
attribute [local irreducible] AW Outs Weak Lends Lend Sp aops atree aop1 Then Round InBlock Done
theorem setHas_spec (a g : Nat) (ha : a < 65536) (hg : g < 16) : Sp Tryz.prog 76 [.u a, .i g] (.b (a.testBit g)) := by
  refine spec_of Tryz.func76 rfl cc76 rfl ?_
  unfold ac76
  repeat (first | (refine step_ops ?_; (refine m_mov (by conv => lhs; whnf) ?_)) | refine end_ops ?_ | refine seq_ops ?_)
  refine step_ops ?_
  refine m_shr16 (a := a) (k := g) rfl rfl hg ?_
  refine step_ops ?_
  refine m_and16_1 (a := a >>> g) rfl rfl (Nat.lt_of_le_of_lt (Nat.shiftRight_le a g) ha) ?_
  refine step_ops ?_
  refine m_eql16_1 (a := (a >>> g) &&& 1) rfl rfl ?_
  rw [bit_and]
  repeat (first | (refine step_ops ?_; (refine m_mov (by conv => lhs; whnf) ?_)) | refine end_ops ?_ | refine AW_ret ?_ | refine ret_done ?_)
  exact outs_b rfl
theorem outs_u {s : AS} {a b : Nat} (h : a = b) : Outs s (.u a) (.u b) := by
  subst h; exact outs_v
theorem setWith_spec (a g : Nat) (ha : a < 65536) (hg : g < 16) : Sp Tryz.prog 75 [.u a, .i g] (.u (a ||| 1 <<< g)) := by
  refine spec_of Tryz.func75 rfl cc75 rfl ?_
  unfold ac75
  repeat (first | (refine step_ops ?_; (refine m_mov (by conv => lhs; whnf) ?_)) | refine end_ops ?_ | refine seq_ops ?_)
  refine step_ops ?_
  refine m_shl16 (k := g) rfl rfl hg ?_
  refine step_ops ?_
  refine m_or16 (a := a) (b := 1 <<< g) rfl rfl ha (shl16_lt hg) ?_
  repeat (first | (refine step_ops ?_; (refine m_mov (by conv => lhs; whnf) ?_)) | refine end_ops ?_ | refine AW_ret ?_ | refine ret_done ?_)
  exact outs_u rfl
theorem notNodup {L : List Int} {k : Nat} (hk : k < L.length) (h : L.getD k 0 ∈ L.take k) : ¬ L.Nodup := by
  intro hn
  rw [← List.take_append_drop k L, List.nodup_append] at hn
  refine hn.2.2 _ h _ ?_ rfl
  have : L.drop k = L.getD k 0 :: L.drop (k + 1) := by rw [List.drop_eq_getElem_cons hk]; simp [hk]
  rw [this]
  exact List.mem_cons_self ..
theorem nodupSnoc {L : List Int} {k : Nat} (hk : k < L.length) (hn : (L.take k).Nodup) (h : L.getD k 0 ∉ L.take k) : (L.take (k + 1)).Nodup := by
  rw [take_snoc L k 0 hk, List.nodup_append]
  refine ⟨hn, by simp, ?_⟩
  intro a ha b hb hab
  rw [List.mem_singleton] at hb
  subst hb
  exact h (hab ▸ ha)
theorem areDifferent_spec (L : List Int) (n : Nat) (_hL : L.length ≤ 1048576) (hn16 : n ≤ 16) : Sp Tryz.prog 73 [ints L, .i n] (.b (decide ((∀ x ∈ L, 0 ≤ x ∧ x < (n : Int)) ∧ L.Nodup))) := by
  refine spec_of Tryz.func73 rfl cc73 rfl ?_
  unfold ac73
  repeat (first | (refine step_ops ?_; (first | (refine m_mov (by conv => lhs; whnf) ?_) | (refine m_len_ro rfl ?_))) | refine end_ops ?_ | refine seq_ops ?_ | refine AW_seq ?_ | refine AW_block ?_)
  refine AW_loop (α := Nat × Nat) (fun p => p.1 ≤ L.length ∧ p.2 < 65536 ∧ (∀ x ∈ L.take p.1, 0 ≤ x ∧ x < (n : Int)) ∧ (L.take p.1).Nodup ∧ ∀ i < 16, p.2.testBit i = decide ((i : Int) ∈ L.take p.1))
    (fun p => st [(0, ints L), (1, .i n), (5, .u p.2), (8, ints L), (9, .i L.length), (10, .i p.1)] []) (fun p => L.length - p.1) (0, 0) ⟨Nat.zero_le _, by decide, by simp, by simp, fun i _ => by simp⟩ (weak_st ?_ ?_ rfl rfl) ?_
  · (repeat' (first | exact trivial | refine And.intro ?_ ?_)) <;> (first | rfl | skip)
  · trivial
  rintro ⟨k, a⟩ ⟨hk, ha, hr, hn, hb⟩
  dsimp only at hk ha hr hn hb ⊢
  by_cases h : k < L.length
  · by_cases hx : 0 ≤ L.getD k 0 ∧ L.getD k 0 < (n : Int)
    · obtain ⟨i, hi⟩ := Int.eq_ofNat_of_zero_le hx.1
      have hi16 : i < 16 := by omega
      have hbi := hb i hi16
      by_cases hm : (i : Int) ∈ L.take k
      · have hbt : a.testBit i = true := by rw [hbi]; exact decide_eq_true hm
        repeat (first | (refine step_ops ?_; (first | (refine m_mov (by conv => lhs; whnf) ?_) | (refine m_lss rfl rfl ?_) | (refine m_idx1_ro rfl rfl ?_ ?_; (· omega)) | (refine m_ld_rpi rfl ?_ ?_; (· omega)))) | refine end_ops ?_ | refine seq_ops ?_ | (refine cond_t rfl ?_ ?_; (· first | rfl | assumption | (refine decide_eq_true ?_; first | assumption | omega) | (refine nt ?_; first | assumption | omega) | (simp [*]; done))) | refine skip_then ?_ | refine AW_seq ?_ | refine AW_block ?_)
        (refine step_ops ?_); (apply m_call (isGuest_spec _ _)); (· repeat (first | exact lends_nil | (refine lends_cons ?_ ?_; (· exact lend_v))))
        repeat (refine step_ops ?_; ((try (refine g_yes rfl ?_ ?_; (· first | rfl | assumption | (refine decide_eq_true ?_; first | assumption | omega) | (refine nt ?_; first | assumption | omega) | (simp [*]; done) | (refine decide_eq_false ?_; first | assumption | omega) | (refine nf ?_; first | assumption | omega)))); (first | (refine m_mov (by conv => lhs; whnf) ?_) | (refine m_not rfl ?_))))
        rw [hi]
        skip
        (refine step_ops ?_); (refine g_yes rfl ?_ ?_; (· first | (first | rfl | assumption | (refine decide_eq_true ?_; first | assumption | omega) | (refine nt ?_; first | assumption | omega) | (simp [*]; done)) | (first | rfl | assumption | (refine decide_eq_false ?_; first | assumption | omega) | (refine nf ?_; first | assumption | omega) | (simp [*]; done))); (apply m_call (setHas_spec a i ha (by omega)))); (· repeat (first | exact lends_nil | (refine lends_cons ?_ ?_; (· exact lend_v))))
        repeat (first | (refine step_ops ?_; (first | (refine m_mov (by conv => lhs; whnf) ?_) | (refine m_pick_f rfl ?_ (by conv => lhs; whnf) ?_; (· first | rfl | assumption | (refine decide_eq_false ?_; first | assumption | omega) | (refine nf ?_; first | assumption | omega) | (simp [*]; done))))) | refine end_ops ?_ | refine seq_ops ?_ | (refine cond_t rfl ?_ ?_; (· first | rfl | assumption | (refine decide_eq_true ?_; first | assumption | omega) | (refine nt ?_; first | assumption | omega) | (simp [*]; done))) | refine AW_ret ?_ | refine ret_done ?_ | refine ret_then ?_ | refine ret_block ?_ | refine ret_round ?_)
        refine outs_b ?_
        symm
        exact decide_eq_false fun he => notNodup h (hi ▸ hm) he.2
      · have hbt : a.testBit i = false := by rw [hbi]; exact decide_eq_false hm
        repeat (first | (refine step_ops ?_; (first | (refine m_mov (by conv => lhs; whnf) ?_) | (refine m_lss rfl rfl ?_) | (refine m_idx1_ro rfl rfl ?_ ?_; (· omega)) | (refine m_ld_rpi rfl ?_ ?_; (· omega)))) | refine end_ops ?_ | refine seq_ops ?_ | (refine cond_t rfl ?_ ?_; (· first | rfl | assumption | (refine decide_eq_true ?_; first | assumption | omega) | (refine nt ?_; first | assumption | omega) | (simp [*]; done))) | refine skip_then ?_ | refine AW_seq ?_ | refine AW_block ?_)
        (refine step_ops ?_); (apply m_call (isGuest_spec _ _)); (· repeat (first | exact lends_nil | (refine lends_cons ?_ ?_; (· exact lend_v))))
        repeat (refine step_ops ?_; ((try (refine g_yes rfl ?_ ?_; (· first | rfl | assumption | (refine decide_eq_true ?_; first | assumption | omega) | (refine nt ?_; first | assumption | omega) | (simp [*]; done) | (refine decide_eq_false ?_; first | assumption | omega) | (refine nf ?_; first | assumption | omega)))); (first | (refine m_mov (by conv => lhs; whnf) ?_) | (refine m_not rfl ?_))))
        rw [hi]
        skip
        (refine step_ops ?_); (refine g_yes rfl ?_ ?_; (· first | (first | rfl | assumption | (refine decide_eq_true ?_; first | assumption | omega) | (refine nt ?_; first | assumption | omega) | (simp [*]; done)) | (first | rfl | assumption | (refine decide_eq_false ?_; first | assumption | omega) | (refine nf ?_; first | assumption | omega) | (simp [*]; done))); (apply m_call (setHas_spec a i ha (by omega)))); (· repeat (first | exact lends_nil | (refine lends_cons ?_ ?_; (· exact lend_v))))
        repeat (first | (refine step_ops ?_; (first | (refine m_mov (by conv => lhs; whnf) ?_) | (refine m_pick_f rfl ?_ (by conv => lhs; whnf) ?_; (· first | rfl | assumption | (refine decide_eq_false ?_; first | assumption | omega) | (refine nf ?_; first | assumption | omega) | (simp [*]; done))))) | refine end_ops ?_ | refine AW_ops ?_ | (refine cond_f rfl ?_ ?_; (· first | rfl | assumption | (refine decide_eq_false ?_; first | assumption | omega) | (refine nf ?_; first | assumption | omega) | (simp [*]; done))) | refine skip_then ?_)
        (refine step_ops ?_); (apply m_call (setWith_spec a i ha (by omega))); (· repeat (first | exact lends_nil | (refine lends_cons ?_ ?_; (· exact lend_v))))
        repeat (first | (refine step_ops ?_; (first | (refine m_mov (by conv => lhs; whnf) ?_) | (refine m_add rfl rfl ?_ ?_ ?_; (· omega); (· omega)))) | refine end_ops ?_ | refine AW_ops ?_ | refine norm_then ?_ | refine norm_block ?_)
        refine next_round (k + 1, a ||| 1 <<< i) ⟨by omega, or16_lt ha (shl16_lt (by omega)), ?_, nodupSnoc h hn (hi ▸ hm), fun j hj => ?_⟩ (weak_st ?_ ?_ rfl rfl) ?_
        · rw [take_snoc L k 0 h]
          intro x hxm
          rw [List.mem_append, List.mem_singleton] at hxm
          rcases hxm with h1 | rfl
          · exact hr x h1
          · exact hx
        · rw [bit_or, hb j hj, take_snoc L k 0 h, Bool.eq_iff_iff]
          have hji : ((j : Int) = (i : Int)) ↔ j = i := by omega
          simp only [Bool.or_eq_true, decide_eq_true_eq, List.mem_append, List.mem_singleton, hi, hji]
        · (repeat' (first | exact trivial | refine And.intro ?_ ?_)) <;> (first | rfl | skip)
        · trivial
        · show L.length - (k + 1) < L.length - k
          omega
    · repeat (first | (refine step_ops ?_; (first | (refine m_mov (by conv => lhs; whnf) ?_) | (refine m_lss rfl rfl ?_) | (refine m_idx1_ro rfl rfl ?_ ?_; (· omega)) | (refine m_ld_rpi rfl ?_ ?_; (· omega)))) | refine end_ops ?_ | refine seq_ops ?_ | (refine cond_t rfl ?_ ?_; (· first | rfl | assumption | (refine decide_eq_true ?_; first | assumption | omega) | (refine nt ?_; first | assumption | omega) | (simp [*]; done))) | refine skip_then ?_ | refine AW_seq ?_ | refine AW_block ?_)
      (refine step_ops ?_); (apply m_call (isGuest_spec _ _)); (· repeat (first | exact lends_nil | (refine lends_cons ?_ ?_; (· exact lend_v))))
      repeat (first | (refine step_ops ?_; (first | (first | (refine m_mov (by conv => lhs; whnf) ?_) | (refine m_not rfl ?_) | (refine m_pick_t rfl ?_ (by conv => lhs; whnf) ?_; (· first | rfl | assumption | (refine decide_eq_true ?_; first | assumption | omega) | (refine nt ?_; first | assumption | omega) | (simp [*]; done)))) | (refine g_noF rfl ?_ ?_; (· first | rfl | assumption | (refine decide_eq_true ?_; first | assumption | omega) | (refine nt ?_; first | assumption | omega) | (simp [*]; done))))) | refine end_ops ?_ | refine seq_ops ?_ | (refine cond_t rfl ?_ ?_; (· first | rfl | assumption | (refine decide_eq_true ?_; first | assumption | omega) | (refine nt ?_; first | assumption | omega) | (simp [*]; done))) | refine AW_ret ?_ | refine ret_done ?_ | refine ret_then ?_ | refine ret_block ?_ | refine ret_round ?_)
      refine outs_b ?_
      symm
      exact decide_eq_false fun he => hx (he.1 _ (getD_mem h))
  · repeat (first | (refine step_ops ?_; (first | (refine m_mov (by conv => lhs; whnf) ?_) | (refine m_lss rfl rfl ?_))) | refine end_ops ?_ | refine seq_ops ?_ | (refine cond_f rfl ?_ ?_; (· first | rfl | assumption | (refine decide_eq_false ?_; first | assumption | omega) | (refine nf ?_; first | assumption | omega) | (simp [*]; done))) | refine AW_seq ?_ | refine AW_ret ?_ | refine ret_done ?_ | refine norm_then ?_ | refine exit_then ?_ | refine exit_round ?_ | refine AW_exit ?_ | refine exit_block ?_)
    refine outs_b ?_
    symm
    rw [List.take_of_length_le (by omega)] at hr hn
    exact decide_eq_true ⟨hr, hn⟩
end Go.Proofs.YtmmcldbldbpikaaGreatDoor
namespace Go.Proofs.YtmmcldbldbpikaaGreatDoor
variable [Go.Am.CodeBlk]
open Go.Am
attribute [local irreducible] AW Outs Weak Lends Lend Sp aops atree aop1 Then Round InBlock Done
/-- What an exchange is. -/
def IsEx (L : List Int) : Prop := 1 ≤ L.length ∧ L.length ≤ 12 ∧ (∀ x ∈ L, 0 ≤ x ∧ x < L.length) ∧ L.Nodup
instance (L : List Int) : Decidable (IsEx L) := inferInstanceAs (Decidable (_ ∧ _ ∧ _ ∧ _))
theorem l1Has_spec (L : List Int) (n : Int) (hL : L.length ≤ 1048576) : Sp Tryz.prog 70 [ints L, .i n] (.b (decide (n ∈ L))) := by
  refine spec_of Tryz.func70 rfl cc70 rfl ?_
  unfold ac70
  repeat (first | (refine step_ops ?_; (first | (refine m_mov (by conv => lhs; whnf) ?_) | (refine m_len_ro rfl ?_))) | refine end_ops ?_ | refine seq_ops ?_ | refine AW_seq ?_ | refine AW_block ?_)
  refine AW_loop (α := Nat) (fun k => k ≤ L.length ∧ n ∉ L.take k) (fun k => st [(7, ints L), (1, .i n), (8, .i L.length), (9, .i k)] []) (fun k => L.length - k) 0 (by simp) (weak_st ?_ ?_ rfl rfl) ?_
  · (repeat' (first | exact trivial | refine And.intro ?_ ?_)) <;> (first | rfl | skip)
  · trivial
  rintro k ⟨hk, he⟩
  by_cases h : k < L.length
  · by_cases hx : L.getD k 0 = n
    · repeat (first | (refine step_ops ?_; (first | (refine m_mov (by conv => lhs; whnf) ?_) | (refine m_lss rfl rfl ?_) | (refine m_eql rfl rfl ?_) | (refine m_idx1_ro rfl rfl ?_ ?_; (· omega)) | (refine m_ld_rpi rfl ?_ ?_; (· omega)))) | refine end_ops ?_ | refine seq_ops ?_ | (refine cond_t rfl ?_ ?_; (· first | rfl | assumption | (refine decide_eq_true ?_; first | assumption | omega) | (refine nt ?_; first | assumption | omega) | (simp [*]; done))) | refine skip_then ?_ | refine AW_seq ?_ | refine AW_ret ?_ | refine ret_done ?_ | refine ret_then ?_ | refine AW_block ?_ | refine ret_block ?_ | refine ret_round ?_)
      refine outs_b ?_
      symm
      exact decide_eq_true (hx ▸ getD_mem h)
    · repeat (first | (refine step_ops ?_; (first | (refine m_mov (by conv => lhs; whnf) ?_) | (refine m_lss rfl rfl ?_) | (refine m_eql rfl rfl ?_) | (refine m_add rfl rfl ?_ ?_ ?_; (· omega); (· omega)) | (refine m_idx1_ro rfl rfl ?_ ?_; (· omega)) | (refine m_ld_rpi rfl ?_ ?_; (· omega)))) | refine end_ops ?_ | refine seq_ops ?_ | refine AW_ops ?_ | (refine cond_t rfl ?_ ?_; (· first | rfl | assumption | (refine decide_eq_true ?_; first | assumption | omega) | (refine nt ?_; first | assumption | omega) | (simp [*]; done))) | (refine cond_f rfl ?_ ?_; (· first | rfl | assumption | (refine decide_eq_false ?_; first | assumption | omega) | (refine nf ?_; first | assumption | omega) | (simp [*]; done))) | refine skip_then ?_ | refine AW_seq ?_ | refine norm_then ?_ | refine AW_block ?_ | refine norm_block ?_ | refine AW_skip ?_)
      refine next_round (k + 1) ⟨by omega, ?_⟩ (weak_st ?_ ?_ rfl rfl) ?_
      · rw [take_snoc L k 0 h, List.mem_append, List.mem_singleton]
        rintro (h1 | h1)
        · exact he h1
        · exact hx h1.symm
      · (repeat' (first | exact trivial | refine And.intro ?_ ?_)) <;> (first | rfl | skip)
      · trivial
      · omega
  · repeat (first | (refine step_ops ?_; (first | (refine m_mov (by conv => lhs; whnf) ?_) | (refine m_lss rfl rfl ?_))) | refine end_ops ?_ | refine seq_ops ?_ | (refine cond_f rfl ?_ ?_; (· first | rfl | assumption | (refine decide_eq_false ?_; first | assumption | omega) | (refine nf ?_; first | assumption | omega) | (simp [*]; done))) | refine AW_seq ?_ | refine AW_ret ?_ | refine ret_done ?_ | refine norm_then ?_ | refine exit_then ?_ | refine exit_round ?_ | refine AW_exit ?_ | refine exit_block ?_)
    refine outs_b ?_
    symm
    rw [List.take_of_length_le (by omega)] at he
    exact decide_eq_false he
theorem l1All_spec (L : List Int) (lo hi : Int) (hL : L.length ≤ 1048576) : Sp Tryz.prog 72 [ints L, .i lo, .i hi] (.b (decide (∀ x ∈ L, lo ≤ x ∧ x ≤ hi))) := by
  refine spec_of Tryz.func72 rfl cc72 rfl ?_
  unfold ac72
  repeat (first | (refine step_ops ?_; (first | (refine m_mov (by conv => lhs; whnf) ?_) | (refine m_len_ro rfl ?_))) | refine end_ops ?_ | refine seq_ops ?_ | refine AW_seq ?_ | refine AW_block ?_)
  refine AW_loop (α := Nat) (fun k => k ≤ L.length ∧ ∀ x ∈ L.take k, lo ≤ x ∧ x ≤ hi) (fun k => st [(9, ints L), (1, .i lo), (2, .i hi), (10, .i L.length), (11, .i k)] []) (fun k => L.length - k) 0 (by simp) (weak_st ?_ ?_ rfl rfl) ?_
  · (repeat' (first | exact trivial | refine And.intro ?_ ?_)) <;> (first | rfl | skip)
  · trivial
  rintro k ⟨hk, he⟩
  by_cases h : k < L.length
  · by_cases hx : lo ≤ L.getD k 0 ∧ L.getD k 0 ≤ hi
    · repeat (first | (refine step_ops ?_; (first | (refine m_mov (by conv => lhs; whnf) ?_) | (refine m_lss rfl rfl ?_) | (refine m_idx1_ro rfl rfl ?_ ?_; (· omega)) | (refine m_ld_rpi rfl ?_ ?_; (· omega)))) | refine end_ops ?_ | refine seq_ops ?_ | (refine cond_t rfl ?_ ?_; (· first | rfl | assumption | (refine decide_eq_true ?_; first | assumption | omega) | (refine nt ?_; first | assumption | omega) | (simp [*]; done))) | refine skip_then ?_ | refine AW_seq ?_ | refine AW_block ?_)
      (refine step_ops ?_); (apply m_call (l1In_spec _ _ _)); (· repeat (first | exact lends_nil | (refine lends_cons ?_ ?_; (· exact lend_v))))
      repeat (first | (refine step_ops ?_; (first | (refine m_mov (by conv => lhs; whnf) ?_) | (refine m_add rfl rfl ?_ ?_ ?_; (· omega); (· omega)) | (refine m_not rfl ?_))) | refine end_ops ?_ | refine AW_ops ?_ | (refine cond_f rfl ?_ ?_; (· first | rfl | assumption | (refine decide_eq_false ?_; first | assumption | omega) | (refine nf ?_; first | assumption | omega) | (simp [*]; done))) | refine norm_then ?_ | refine norm_block ?_ | refine AW_skip ?_)
      refine next_round (k + 1) ⟨by omega, ?_⟩ (weak_st ?_ ?_ rfl rfl) ?_
      · rw [take_snoc L k 0 h]
        intro x hxm
        rw [List.mem_append, List.mem_singleton] at hxm
        rcases hxm with h1 | rfl
        · exact he x h1
        · exact hx
      · (repeat' (first | exact trivial | refine And.intro ?_ ?_)) <;> (first | rfl | skip)
      · trivial
      · omega
    · repeat (first | (refine step_ops ?_; (first | (refine m_mov (by conv => lhs; whnf) ?_) | (refine m_lss rfl rfl ?_) | (refine m_idx1_ro rfl rfl ?_ ?_; (· omega)) | (refine m_ld_rpi rfl ?_ ?_; (· omega)))) | refine end_ops ?_ | refine seq_ops ?_ | (refine cond_t rfl ?_ ?_; (· first | rfl | assumption | (refine decide_eq_true ?_; first | assumption | omega) | (refine nt ?_; first | assumption | omega) | (simp [*]; done))) | refine skip_then ?_ | refine AW_seq ?_ | refine AW_block ?_)
      (refine step_ops ?_); (apply m_call (l1In_spec _ _ _)); (· repeat (first | exact lends_nil | (refine lends_cons ?_ ?_; (· exact lend_v))))
      repeat (first | (refine step_ops ?_; (first | (refine m_mov (by conv => lhs; whnf) ?_) | (refine m_not rfl ?_))) | refine end_ops ?_ | refine seq_ops ?_ | (refine cond_t rfl ?_ ?_; (· first | rfl | assumption | (refine decide_eq_true ?_; first | assumption | omega) | (refine nt ?_; first | assumption | omega) | (simp [*]; done))) | refine AW_ret ?_ | refine ret_done ?_ | refine ret_then ?_ | refine ret_block ?_ | refine ret_round ?_)
      refine outs_b ?_
      symm
      exact decide_eq_false fun hall => hx (hall _ (getD_mem h))
  · repeat (first | (refine step_ops ?_; (first | (refine m_mov (by conv => lhs; whnf) ?_) | (refine m_lss rfl rfl ?_))) | refine end_ops ?_ | refine seq_ops ?_ | (refine cond_f rfl ?_ ?_; (· first | rfl | assumption | (refine decide_eq_false ?_; first | assumption | omega) | (refine nf ?_; first | assumption | omega) | (simp [*]; done))) | refine AW_seq ?_ | refine AW_ret ?_ | refine ret_done ?_ | refine norm_then ?_ | refine exit_then ?_ | refine exit_round ?_ | refine AW_exit ?_ | refine exit_block ?_)
    refine outs_b ?_
    symm
    rw [List.take_of_length_le (by omega)] at he
    exact decide_eq_true he
theorem not_nodup {L : List Int} {k : Nat} (hk : k < L.length) (h : L.getD k 0 ∈ L.take k) : ¬ L.Nodup := by
  intro hn
  rw [← List.take_append_drop k L, List.nodup_append] at hn
  refine hn.2.2 _ h _ ?_ rfl
  have : L.drop k = L.getD k 0 :: L.drop (k + 1) := by rw [List.drop_eq_getElem_cons hk]; simp [hk]
  rw [this]
  exact List.mem_cons_self ..
theorem nodup_snoc {L : List Int} {k : Nat} (hk : k < L.length) (hn : (L.take k).Nodup) (h : L.getD k 0 ∉ L.take k) : (L.take (k + 1)).Nodup := by
  rw [take_snoc L k 0 hk, List.nodup_append]
  refine ⟨hn, by simp, ?_⟩
  intro a ha b hb hab
  rw [List.mem_singleton] at hb
  subst hb
  exact h (hab ▸ ha)
end Go.Proofs.YtmmcldbldbpikaaGreatDoor
namespace Go.Am
variable [Go.Am.CodeBlk]
section
variable (fits : List Int → Nat → Bool) (n : Nat)
/-- All that go on from l by k more, in order. -/
def goOn : Nat → List Int → List (List Int)
  | 0, l => [l]
  | k + 1, l => ((List.range n).filter fun x => fits l x).flatMap fun (x : Nat) => goOn k (l ++ [(x : Int)])
/-- Those whose next is at least g. -/
def goFrom (l : List Int) (g : Nat) : List (List Int) := ((List.range n).filter fun x => decide (g ≤ x) && fits l x).flatMap fun (x : Nat) => goOn fits n (n - l.length - 1) (l ++ [(x : Int)])
/-- What comes behind all that go on from a list (which is told from its end). -/
def goBack : List Int → List (List Int)
  | [] => []
  | x :: r => goFrom fits n r.reverse (x.toNat + 1) ++ goBack r
/-- What a search finds that stands at a list and is to try g next. -/
def goAt (l : List Int) (g : Nat) : List (List Int) := (if l.length = n then [l] else goFrom fits n l g) ++ goBack fits n l.reverse
theorem range_split (p : Nat → Bool) (g : Nat) : ∀ n, g < n → (List.range n).filter (fun x => decide (g ≤ x) && p x) = (if p g then [g] else []) ++ (List.range n).filter (fun x => decide (g + 1 ≤ x) && p x)
  | 0, h => by omega
  | n + 1, h => by
    rw [List.range_succ, List.filter_append, List.filter_append]
    by_cases hg : g < n
    · rw [range_split p g n hg, List.append_assoc]
      congr 2
      have h1 : decide (g ≤ n) = true := decide_eq_true (by omega)
      have h2 : decide (g + 1 ≤ n) = true := decide_eq_true (by omega)
      simp only [List.filter_cons, List.filter_nil, h1, h2]
    · obtain rfl : g = n := by omega
      have e1 : (List.range g).filter (fun x => decide (g ≤ x) && p x) = [] := List.filter_eq_nil_iff.2 fun x hx => by have := List.mem_range.1 hx; simp; omega
      have e2 : (List.range g).filter (fun x => decide (g + 1 ≤ x) && p x) = [] := List.filter_eq_nil_iff.2 fun x hx => by have := List.mem_range.1 hx; simp; omega
      rw [e1, e2]
      have h2 : decide (g + 1 ≤ g) = false := decide_eq_false (by omega)
      have h1 : decide (g ≤ g) = true := decide_eq_true (by omega)
      simp only [List.filter_cons, List.filter_nil, List.nil_append, h1, h2]
      simp
theorem goFrom_step {l : List Int} {g : Nat} (hg : g < n) : goFrom fits n l g = (if fits l g then goOn fits n (n - l.length - 1) (l ++ [(g : Int)]) else []) ++ goFrom fits n l (g + 1) := by
  unfold goFrom
  rw [range_split (fits l) g n hg, List.flatMap_append]
  split <;> simp
theorem goFrom_end {l : List Int} {g : Nat} (hg : n ≤ g) : goFrom fits n l g = [] := by
  unfold goFrom
  rw [List.filter_eq_nil_iff.2 fun x hx => by have := List.mem_range.1 hx; simp; omega]
  rfl
theorem goOn_from {l : List Int} (h : l.length < n) : goOn fits n (n - l.length) l = goFrom fits n l 0 := by
  obtain ⟨k, hk⟩ : ∃ k, n - l.length = k + 1 := ⟨n - l.length - 1, by omega⟩
  unfold goFrom
  rw [hk]
  simp [goOn]
theorem goAt_full {l : List Int} {g : Nat} (h : l.length = n) : (goAt fits n l g).head? = some l := by
  simp [goAt, h]
theorem goAt_take {l : List Int} {g : Nat} (h : l.length < n) (hg : g < n) (hf : fits l g = true) : goAt fits n (l ++ [(g : Int)]) 0 = goAt fits n l g := by
  have hne : ¬ l.length = n := by omega
  unfold goAt
  rw [if_neg hne, goFrom_step fits n hg, if_pos hf, List.reverse_append, List.reverse_singleton, List.singleton_append, goBack, List.reverse_reverse, Int.toNat_natCast, List.append_assoc]
  congr 1
  by_cases h1 : l.length + 1 = n
  · have e : n - l.length - 1 = 0 := by omega
    rw [if_pos (by simpa using h1), e]
    rfl
  · have e : n - l.length - 1 = n - (l ++ [(g : Int)]).length := by simp; omega
    rw [if_neg (by simpa using h1), e, goOn_from fits n (by simp; omega)]
theorem goAt_skip {l : List Int} {g : Nat} (h : l.length < n) (hg : g < n) (hf : fits l g = false) : goAt fits n l (g + 1) = goAt fits n l g := by
  have hne : ¬ l.length = n := by omega
  unfold goAt
  rw [if_neg hne, if_neg hne, goFrom_step fits n hg, hf]
  simp
theorem goAt_none {g : Nat} (h : 0 < n) (hg : n ≤ g) : goAt fits n [] g = [] := by
  unfold goAt
  rw [if_neg (by simp; omega), goFrom_end fits n hg]
  rfl
theorem goAt_back {l : List Int} {x : Int} {g : Nat} (h : l.length + 1 < n) (hg : n ≤ g) : goAt fits n (l ++ [x]) g = goAt fits n l (x.toNat + 1) := by
  unfold goAt
  rw [if_neg (by simp; omega), if_neg (by omega), goFrom_end fits n hg, List.reverse_append, List.reverse_singleton, List.singleton_append, goBack, List.reverse_reverse]
  rfl
theorem goAt_start (h : 0 < n) : goAt fits n [] 0 = goOn fits n n [] := by
  have := goOn_from fits n (l := []) (by simpa using h)
  simp only [List.length_nil, Nat.sub_zero] at this
  unfold goAt
  rw [if_neg (by simp; omega), this]
  simp [goBack]
end
/-- How long a search may go on. -/
def goW (n : Nat) : Nat → Nat
  | 0 => 0
  | j + 1 => n * goW n j + 2
def goM (n : Nat) : List Int → Nat
  | [] => 0
  | x :: r => (n - (x.toNat + 1)) * goW n (n - r.length) + 1 + goM n r
def goMeas (n : Nat) (l : List Int) (g : Nat) : Nat := (n - g) * goW n (n - l.length) + goM n l.reverse
theorem goMeas_take {n : Nat} {l : List Int} {g : Nat} (h : l.length < n) (hg : g < n) : goMeas n (l ++ [(g : Int)]) 0 < goMeas n l g := by
  obtain ⟨k, hk⟩ : ∃ k, n - l.length = k + 1 := ⟨n - l.length - 1, by omega⟩
  have hk2 : n - (l ++ [(g : Int)]).length = k := by simp; omega
  obtain ⟨q, hq⟩ : ∃ q, n - g = q + 1 := ⟨n - g - 1, by omega⟩
  have hq2 : n - (g + 1) = q := by omega
  unfold goMeas
  rw [List.reverse_append, List.reverse_singleton, List.singleton_append, goM, List.length_reverse, Int.toNat_natCast, hk2, hk, hq, hq2, Nat.sub_zero, Nat.add_mul, Nat.one_mul]
  have : goW n (k + 1) = n * goW n k + 2 := rfl
  omega
theorem goMeas_skip {n : Nat} {l : List Int} {g : Nat} (h : l.length < n) (hg : g < n) : goMeas n l (g + 1) < goMeas n l g := by
  obtain ⟨k, hk⟩ : ∃ k, n - l.length = k + 1 := ⟨n - l.length - 1, by omega⟩
  obtain ⟨q, hq⟩ : ∃ q, n - g = q + 1 := ⟨n - g - 1, by omega⟩
  have hq2 : n - (g + 1) = q := by omega
  unfold goMeas
  rw [hk, hq, hq2, Nat.add_mul, Nat.one_mul]
  have : goW n (k + 1) = n * goW n k + 2 := rfl
  omega
theorem goMeas_back {n : Nat} {l : List Int} {x : Int} {g : Nat} (hg : n ≤ g) : goMeas n l (x.toNat + 1) < goMeas n (l ++ [x]) g := by
  have h0 : n - g = 0 := by omega
  unfold goMeas
  rw [List.reverse_append, List.reverse_singleton, List.singleton_append, goM, List.length_reverse, h0, Nat.zero_mul]
  omega
/-- Does a list come before another? -/
def comesB : List Int → List Int → Bool
  | [], _ => false
  | _ :: _, [] => false
  | a :: l, b :: m => if a = b then comesB l m else decide (a < b)
theorem comesB_append (p : List Int) (l m : List Int) : comesB (p ++ l) (p ++ m) = comesB l m := by
  induction p with
  | nil => rfl
  | cons a p ih => simp [comesB, ih]
theorem comesB_self (l : List Int) : comesB l l = false := by
  induction l with
  | nil => rfl
  | cons a l ih => simp [comesB, ih]
section
variable (fits : List Int → Nat → Bool) (n : Nat)
theorem goOn_shape : ∀ (k : Nat) (l x : List Int), x ∈ goOn fits n k l → ∃ m, x = l ++ m ∧ m.length = k
  | 0, l, x, h => ⟨[], by simpa [goOn] using h, rfl⟩
  | k + 1, l, x, h => by
    simp only [goOn, List.mem_flatMap] at h
    obtain ⟨y, _, hx⟩ := h
    obtain ⟨m, rfl, hm⟩ := goOn_shape k _ _ hx
    exact ⟨(y : Int) :: m, by simp, by simp [hm]⟩
/-- All that go on behind a lesser next come before; behind a greater one, behind. -/
theorem find_less {k : Nat} {l : List Int} {x : Nat} {b : Int} {t : List Int} (h : (x : Int) < b) : (goOn fits n k (l ++ [(x : Int)])).find? (fun m => comesB (l ++ b :: t) m) = none := by
  rw [List.find?_eq_none]
  intro m hm
  obtain ⟨r, rfl, _⟩ := goOn_shape fits n _ _ _ hm
  rw [List.append_assoc, comesB_append]
  have h1 : ¬ b = (x : Int) := by omega
  have h2 : ¬ b < (x : Int) := by omega
  simp [comesB, h1, h2]
theorem find_more {k : Nat} {l : List Int} {x : Nat} {b : Int} {t : List Int} (h : b < (x : Int)) : (goOn fits n k (l ++ [(x : Int)])).find? (fun m => comesB (l ++ b :: t) m) = (goOn fits n k (l ++ [(x : Int)])).head? := by
  have hall : ∀ m ∈ goOn fits n k (l ++ [(x : Int)]), comesB (l ++ b :: t) m = true := by
    intro m hm
    obtain ⟨r, rfl, _⟩ := goOn_shape fits n _ _ _ hm
    rw [List.append_assoc, comesB_append]
    have h1 : ¬ b = (x : Int) := by omega
    simp [comesB, h1, h]
  cases hg : goOn fits n k (l ++ [(x : Int)]) with
  | nil => rfl
  | cons m ms => simp [hall m (by rw [hg]; simp)]
end
theorem range_three (p : Nat → Bool) (g : Nat) : ∀ n, g < n → (List.range n).filter p = (List.range g).filter p ++ ((if p g then [g] else []) ++ (List.range n).filter (fun x => decide (g + 1 ≤ x) && p x))
  | 0, h => by omega
  | n + 1, h => by
    rw [List.range_succ, List.filter_append, List.filter_append]
    by_cases hg : g < n
    · rw [range_three p g n hg, List.append_assoc, List.append_assoc]
      congr 3
      have h2 : decide (g + 1 ≤ n) = true := decide_eq_true (by omega)
      simp only [List.filter_cons, List.filter_nil, h2, Bool.true_and]
    · obtain rfl : g = n := by omega
      have e2 : (List.range g).filter (fun x => decide (g + 1 ≤ x) && p x) = [] := List.filter_eq_nil_iff.2 fun x hx => by have := List.mem_range.1 hx; simp; omega
      have h2 : decide (g + 1 ≤ g) = false := decide_eq_false (by omega)
      rw [e2]
      simp only [List.filter_cons, List.filter_nil, List.nil_append, h2]
      simp
theorem findSome_congr {α β : Type} {f g : α → Option β} : ∀ {l : List α}, (∀ x ∈ l, f x = g x) → l.findSome? f = l.findSome? g
  | [], _ => rfl
  | a :: l, h => by
    simp only [List.findSome?_cons]
    rw [h a (by simp), findSome_congr fun x hx => h x (by simp [hx])]
section
variable (fits : List Int → Nat → Bool) (n : Nat)
theorem goFrom_head (l : List Int) (g : Nat) : (goFrom fits n l g).head? = ((List.range n).filter fun x => decide (g ≤ x) && fits l x).findSome? fun (x : Nat) => (goOn fits n (n - l.length - 1) (l ++ [(x : Int)])).head? := by
  unfold goFrom
  rw [List.head?_flatMap]
theorem find_next {k g : Nat} {l t : List Int} (hg : g < n) (hk : n - l.length = k + 1) : (goOn fits n (k + 1) l).find? (fun m => comesB (l ++ (g : Int) :: t) m) =
    (if fits l g then (goOn fits n k (l ++ [(g : Int)])).find? (fun m => comesB (l ++ (g : Int) :: t) m) else none).or (goFrom fits n l (g + 1)).head? := by
  have hk2 : n - l.length - 1 = k := by omega
  rw [goFrom_head, goOn, List.find?_flatMap, range_three _ g n hg, List.findSome?_append, List.findSome?_append, hk2]
  have e1 : ((List.range g).filter fun x => fits l x).findSome? (fun (x : Nat) => (goOn fits n k (l ++ [(x : Int)])).find? fun m => comesB (l ++ (g : Int) :: t) m) = none := by
    rw [List.findSome?_eq_none_iff]
    intro x hx
    have := List.mem_range.1 (List.mem_filter.1 hx).1
    exact find_less fits n (by omega)
  rw [e1, Option.none_or]
  congr 1
  · split <;> simp
  · refine findSome_congr fun x hx => ?_
    have := (List.mem_filter.1 hx).2
    simp only [Bool.and_eq_true, decide_eq_true_eq] at this
    exact find_more fits n (by omega)
/-- The first that comes behind a list: where its own beginning goes no further, a search that begins there finds it. -/
theorem find_behind {L : List Int} (hL : L.length = n) (hb : ∀ i < n, ∃ g : Nat, L.getD i 0 = g ∧ g < n) {kept : Nat} (hk : kept < n) (hf : ∀ i < kept, fits (L.take i) (L.getD i 0).toNat = true)
    (he : fits (L.take kept) (L.getD kept 0).toNat = false ∨ kept + 1 = n) : (goOn fits n n []).find? (fun m => comesB L m) = (goAt fits n (L.take kept) ((L.getD kept 0).toNat + 1)).head? := by
  have step : ∀ i, i < n → (goOn fits n (n - i) (L.take i)).find? (fun m => comesB L m) =
      (if fits (L.take i) (L.getD i 0).toNat then (goOn fits n (n - (i + 1)) (L.take (i + 1))).find? (fun m => comesB L m) else none).or (goFrom fits n (L.take i) ((L.getD i 0).toNat + 1)).head? := by
    intro i hi
    obtain ⟨g, hg, hgn⟩ := hb i hi
    have hlen : (L.take i).length = i := List.length_take_of_le (by omega)
    have hsp : L = L.take i ++ (g : Int) :: L.drop (i + 1) := by
      have h1 := take_snoc L i 0 (by omega)
      have h2 := List.take_append_drop (i + 1) L
      rw [h1, hg, List.append_assoc] at h2
      exact h2.symm
    have h1 := find_next fits n (k := n - (i + 1)) (g := g) (l := L.take i) (t := L.drop (i + 1)) hgn (by omega)
    rw [← hsp] at h1
    have e : n - (i + 1) + 1 = n - i := by omega
    rw [e] at h1
    rw [take_snoc L i 0 (by omega), hg, Int.toNat_natCast]
    exact h1
  have key : ∀ i, i ≤ kept → (goOn fits n n []).find? (fun m => comesB L m) = ((goOn fits n (n - i) (L.take i)).find? (fun m => comesB L m)).or (goBack fits n (L.take i).reverse).head? := by
    intro i
    induction i with
    | zero => intro _; simp [goBack]
    | succ i ih =>
      intro hi
      have h1 := hf i (by omega)
      rw [ih (by omega), step i (by omega), if_pos h1, Option.or_assoc]
      congr 1
      rw [take_snoc L i 0 (by omega), List.reverse_append, List.reverse_singleton, List.singleton_append, goBack, List.reverse_reverse, List.head?_append]
  have hlen : (L.take kept).length = kept := List.length_take_of_le (by omega)
  have hnone : (if fits (L.take kept) (L.getD kept 0).toNat then (goOn fits n (n - (kept + 1)) (L.take (kept + 1))).find? (fun m => comesB L m) else none) = none := by
    split
    · rename_i hh
      rcases he with he | he
      · rw [he] at hh; cases hh
      · have e : n - (kept + 1) = 0 := by omega
        rw [e, List.take_of_length_le (by omega)]
        simp [goOn, comesB_self]
    · rfl
  have hne : ¬ (L.take kept).length = n := by omega
  rw [key kept (Nat.le_refl _), step kept hk, hnone, Option.none_or, goAt, if_neg hne, List.head?_append]
end
/-- Where a beginning differs from a list for the first time by less, none that goes on from it comes behind. -/
theorem find_prune (fits : List Int → Nat → Bool) (n : Nat) {k i : Nat} {l b : List Int} (hl : i < l.length) (hb : i < b.length) (he : l.take i = b.take i) (hlt : l.getD i 0 < b.getD i 0) : (goOn fits n k l).find? (fun m => comesB b m) = none := by
  rw [List.find?_eq_none]
  intro m hm
  obtain ⟨r, rfl, _⟩ := goOn_shape fits n _ _ _ hm
  have h1 : l = l.take i ++ l.getD i 0 :: l.drop (i + 1) := by
    have h2 := List.take_append_drop (i + 1) l
    rw [take_snoc l i 0 hl, List.append_assoc] at h2
    exact h2.symm
  have h2 : b = l.take i ++ b.getD i 0 :: b.drop (i + 1) := by
    have h2 := List.take_append_drop (i + 1) b
    rw [take_snoc b i 0 hb, List.append_assoc, ← he] at h2
    exact h2.symm
  rw [h1, h2, List.append_assoc, comesB_append]
  have h3 : ¬ b.getD i 0 = l.getD i 0 := by omega
  have h4 : ¬ b.getD i 0 < l.getD i 0 := by omega
  simp only [List.cons_append, comesB, if_neg h3]
  exact fun hh => h4 (of_decide_eq_true hh)
end Go.Am
namespace Go.Am
variable [Go.Am.CodeBlk]
/-- What a table is. -/
def IsTab (L : List Int) : Prop := 2 ≤ L.length ∧ L.length ≤ 14 ∧ L.length % 2 = 0 ∧ (∀ x ∈ L, 0 ≤ x ∧ x < L.length) ∧ L.Nodup
instance (L : List Int) : Decidable (IsTab L) := inferInstanceAs (Decidable (_ ∧ _ ∧ _ ∧ _ ∧ _))
theorem pig_le : ∀ (l m : List Int), l.Nodup → (∀ x ∈ l, x ∈ m) → l.length ≤ m.length
  | [], _, _, _ => Nat.zero_le _
  | a :: l, m, hn, hs => by
    rw [List.nodup_cons] at hn
    have ha : a ∈ m := hs a (List.mem_cons_self ..)
    have h1 := pig_le l (m.erase a) hn.2 fun x hx => (List.mem_erase_of_ne (show x ≠ a from fun e => hn.1 (e ▸ hx))).2 (hs x (List.mem_cons_of_mem _ hx))
    rw [List.length_erase_of_mem ha] at h1
    have := List.length_pos_of_mem ha
    simp only [List.length_cons]
    omega
theorem tab_mem {L : List Int} (h : IsTab L) {i : Nat} (hi : i < L.length) : (i : Int) ∈ L := by
  refine Decidable.byContradiction fun hne => ?_
  have h1 := pig_le ((i : Int) :: L) ((List.range L.length).map fun (k : Nat) => (k : Int)) (List.nodup_cons.2 ⟨hne, h.2.2.2.2⟩) fun x hx => by
    have hx2 : 0 ≤ x ∧ x < L.length := by
      rcases List.mem_cons.1 hx with rfl | hx
      · omega
      · exact h.2.2.2.1 x hx
    obtain ⟨q, rfl⟩ := Int.eq_ofNat_of_zero_le hx2.1
    exact List.mem_map.2 ⟨q, List.mem_range.2 (by omega), rfl⟩
  simp only [List.length_cons, List.length_map, List.length_range] at h1
  omega
theorem tab_get {L : List Int} (h : IsTab L) {k : Nat} (hk : k < L.length) : ∃ x : Nat, L.getD k 0 = x ∧ x < L.length := by
  have hr := h.2.2.2.1 _ (show L.getD k 0 ∈ L by simp [hk])
  obtain ⟨x, hx⟩ := Int.eq_ofNat_of_zero_le hr.1
  exact ⟨x, hx, by omega⟩
/-- A table told from a place on. -/
def turnT (L : List Int) (by_ : Nat) : List Int := L.drop by_ ++ L.take by_
theorem turnT_len (L : List Int) (k : Nat) : (turnT L k).length = L.length := by simp [turnT]; omega
end Go.Am
namespace Go.Proofs.YtmmcldbldbpikaaGreatDoor
variable [Go.Am.CodeBlk]
open Go.Am
attribute [local irreducible] AW Outs Weak Lends Lend Sp aops atree aop1 Then Round InBlock Done
theorem isCoupleCount_spec (a : Int) : Sp Tryz.prog 40 [.i a] (.b (decide (1 ≤ a ∧ a ≤ 7))) := by
  refine spec_of Tryz.func40 rfl cc40 rfl ?_
  unfold ac40
  by_cases h : 1 ≤ a
  all_goals
    repeat (first | (refine step_ops ?_; (first | ((try (refine g_yes rfl ?_ ?_; (· first | rfl | assumption | (refine decide_eq_true ?_; first | assumption | omega) | (refine nt ?_; first | assumption | omega) | (simp [*]; done) | (refine decide_eq_false ?_; first | assumption | omega) | (refine nf ?_; first | assumption | omega)))); (first | (refine m_mov (by conv => lhs; whnf) ?_) | (refine m_leq rfl rfl ?_) | (refine m_geq rfl rfl ?_) | (refine m_pick_t rfl ?_ (by conv => lhs; whnf) ?_; (· first | rfl | assumption | (refine decide_eq_true ?_; first | assumption | omega) | (refine nt ?_; first | assumption | omega) | (simp [*]; done))) | (refine m_pick_f rfl ?_ (by conv => lhs; whnf) ?_; (· first | rfl | assumption | (refine decide_eq_false ?_; first | assumption | omega) | (refine nf ?_; first | assumption | omega) | (simp [*]; done))))) | (refine g_noT rfl ?_ ?_; (· first | rfl | assumption | (refine decide_eq_false ?_; first | assumption | omega) | (refine nf ?_; first | assumption | omega) | (simp [*]; done))))) | refine end_ops ?_ | refine seq_ops ?_ | refine AW_ret ?_ | refine ret_done ?_)
    refine outs_b ?_
    simp [*]
theorem implIsTable_spec (L : List Int) (hL : L.length ≤ 1048576) : Sp Tryz.prog 53 [ints L] (.b (decide (IsTab L))) := by
  refine spec_of Tryz.func53 rfl cc53 rfl ?_
  unfold ac53
  by_cases hp : (L.length : Int) % 2 = 0
  · by_cases hc : 1 ≤ (L.length : Int) / 2 ∧ (L.length : Int) / 2 ≤ 7
    · have hd := areDifferent_spec L L.length hL (by omega)
      have e : decide (IsTab L) = decide ((∀ x ∈ L, 0 ≤ x ∧ x < (L.length : Int)) ∧ L.Nodup) := decide_eq_decide.2 ⟨fun he => he.2.2.2, fun he => ⟨by omega, by omega, by omega, he⟩⟩
      rw [e]
      repeat (first | (refine step_ops ?_; ((try (refine g_yes rfl ?_ ?_; (· first | rfl | assumption | (refine decide_eq_true ?_; first | assumption | omega) | (refine nt ?_; first | assumption | omega) | (simp [*]; done) | (refine decide_eq_false ?_; first | assumption | omega) | (refine nf ?_; first | assumption | omega)))); (first | (refine m_mov (by conv => lhs; whnf) ?_) | (refine m_eql rfl rfl ?_) | (refine m_len_ro rfl ?_) | (refine m_quo rfl rfl ?_ ?_ ?_ ?_; (· omega); (· omega); (· omega)) | (refine m_rem rfl rfl ?_ ?_ ?_; (· omega); (· omega))))) | refine end_ops ?_ | refine seq_ops ?_)
      (refine step_ops ?_); (refine g_yes rfl ?_ ?_; (· first | (first | rfl | assumption | (refine decide_eq_true ?_; first | assumption | omega) | (refine nt ?_; first | assumption | omega) | (simp [*]; done)) | (first | rfl | assumption | (refine decide_eq_false ?_; first | assumption | omega) | (refine nf ?_; first | assumption | omega) | (simp [*]; done))); (apply m_call (isCoupleCount_spec _))); (· repeat (first | exact lends_nil | (refine lends_cons ?_ ?_; (· exact lend_v))))
      repeat (refine step_ops ?_; ((try (refine g_yes rfl ?_ ?_; (· first | rfl | assumption | (refine decide_eq_true ?_; first | assumption | omega) | (refine nt ?_; first | assumption | omega) | (simp [*]; done) | (refine decide_eq_false ?_; first | assumption | omega) | (refine nf ?_; first | assumption | omega)))); (first | (refine m_mov (by conv => lhs; whnf) ?_) | (refine m_len_ro rfl ?_) | (refine m_pick_t rfl ?_ (by conv => lhs; whnf) ?_; (· first | rfl | assumption | (refine decide_eq_true ?_; first | assumption | omega) | (refine nt ?_; first | assumption | omega) | (simp [*]; done))))))
      (refine step_ops ?_); (refine g_yes rfl ?_ ?_; (· first | (first | rfl | assumption | (refine decide_eq_true ?_; first | assumption | omega) | (refine nt ?_; first | assumption | omega) | (simp [*]; done)) | (first | rfl | assumption | (refine decide_eq_false ?_; first | assumption | omega) | (refine nf ?_; first | assumption | omega) | (simp [*]; done))); (apply m_call (hd))); (· repeat (first | exact lends_nil | (refine lends_cons ?_ ?_; (· (first | exact lend_v | (refine lend_ints ?_; first | rfl | omega))))))
      repeat (first | (refine step_ops ?_; (first | (refine m_mov (by conv => lhs; whnf) ?_) | (refine m_pick_t rfl ?_ (by conv => lhs; whnf) ?_; (· first | rfl | assumption | (refine decide_eq_true ?_; first | assumption | omega) | (refine nt ?_; first | assumption | omega) | (simp [*]; done))))) | refine end_ops ?_ | refine AW_ret ?_ | refine ret_done ?_)
      exact outs_b rfl
    · repeat (first | (refine step_ops ?_; ((try (refine g_yes rfl ?_ ?_; (· first | rfl | assumption | (refine decide_eq_true ?_; first | assumption | omega) | (refine nt ?_; first | assumption | omega) | (simp [*]; done) | (refine decide_eq_false ?_; first | assumption | omega) | (refine nf ?_; first | assumption | omega)))); (first | (refine m_mov (by conv => lhs; whnf) ?_) | (refine m_eql rfl rfl ?_) | (refine m_len_ro rfl ?_) | (refine m_quo rfl rfl ?_ ?_ ?_ ?_; (· omega); (· omega); (· omega)) | (refine m_rem rfl rfl ?_ ?_ ?_; (· omega); (· omega))))) | refine end_ops ?_ | refine seq_ops ?_)
      (refine step_ops ?_); (refine g_yes rfl ?_ ?_; (· first | (first | rfl | assumption | (refine decide_eq_true ?_; first | assumption | omega) | (refine nt ?_; first | assumption | omega) | (simp [*]; done)) | (first | rfl | assumption | (refine decide_eq_false ?_; first | assumption | omega) | (refine nf ?_; first | assumption | omega) | (simp [*]; done))); (apply m_call (isCoupleCount_spec _))); (· repeat (first | exact lends_nil | (refine lends_cons ?_ ?_; (· exact lend_v))))
      repeat (first | (refine step_ops ?_; (first | (first | (refine m_mov (by conv => lhs; whnf) ?_) | (refine m_pick_t rfl ?_ (by conv => lhs; whnf) ?_; (· first | rfl | assumption | (refine decide_eq_true ?_; first | assumption | omega) | (refine nt ?_; first | assumption | omega) | (simp [*]; done))) | (refine m_pick_f rfl ?_ (by conv => lhs; whnf) ?_; (· first | rfl | assumption | (refine decide_eq_false ?_; first | assumption | omega) | (refine nf ?_; first | assumption | omega) | (simp [*]; done)))) | (refine g_noT rfl ?_ ?_; (· first | rfl | assumption | (refine decide_eq_false ?_; first | assumption | omega) | (refine nf ?_; first | assumption | omega) | (simp [*]; done))))) | refine end_ops ?_ | refine AW_ret ?_ | refine ret_done ?_)
      refine outs_b ?_
      symm
      exact decide_eq_false fun he => hc ⟨by have := he.1; omega, by have := he.2.1; omega⟩
  · repeat (first | (refine step_ops ?_; (first | (first | (refine m_mov (by conv => lhs; whnf) ?_) | (refine m_eql rfl rfl ?_) | (refine m_len_ro rfl ?_) | (refine m_pick_f rfl ?_ (by conv => lhs; whnf) ?_; (· first | rfl | assumption | (refine decide_eq_false ?_; first | assumption | omega) | (refine nf ?_; first | assumption | omega) | (simp [*]; done))) | (refine m_rem rfl rfl ?_ ?_ ?_; (· omega); (· omega))) | (refine g_noT rfl ?_ ?_; (· first | rfl | assumption | (refine decide_eq_false ?_; first | assumption | omega) | (refine nf ?_; first | assumption | omega) | (simp [*]; done))))) | refine end_ops ?_ | refine seq_ops ?_ | refine AW_ret ?_ | refine ret_done ?_)
    refine outs_b ?_
    symm
    exact decide_eq_false fun he => hp (by have := he.2.2.1; omega)
theorem taGood_spec (L : List Int) (hL : L.length ≤ 1048576) : Sp Tryz.prog 49 [ints L] (.b (decide (IsTab L))) := by
  refine spec_of Tryz.func49 rfl cc49 rfl ?_
  unfold ac49
  by_cases hc : 2 ≤ (L.length : Int) ∧ (L.length : Int) ≤ 14
  · by_cases hp : (L.length : Int) % 2 = 1
    · repeat (first | (refine step_ops ?_; (first | (refine m_mov (by conv => lhs; whnf) ?_) | (refine m_len_ro rfl ?_))) | refine end_ops ?_ | refine seq_ops ?_ | refine AW_seq ?_)
      (refine step_ops ?_); (apply m_call (l1In_spec _ _ _)); (· repeat (first | exact lends_nil | (refine lends_cons ?_ ?_; (· exact lend_v))))
      repeat (first | (refine step_ops ?_; (first | ((try (refine g_yes rfl ?_ ?_; (· first | rfl | assumption | (refine decide_eq_true ?_; first | assumption | omega) | (refine nt ?_; first | assumption | omega) | (simp [*]; done) | (refine decide_eq_false ?_; first | assumption | omega) | (refine nf ?_; first | assumption | omega)))); (first | (refine m_mov (by conv => lhs; whnf) ?_) | (refine m_eql rfl rfl ?_) | (refine m_not rfl ?_) | (refine m_pick_t rfl ?_ (by conv => lhs; whnf) ?_; (· first | rfl | assumption | (refine decide_eq_true ?_; first | assumption | omega) | (refine nt ?_; first | assumption | omega) | (simp [*]; done))) | (refine m_pick_f rfl ?_ (by conv => lhs; whnf) ?_; (· first | rfl | assumption | (refine decide_eq_false ?_; first | assumption | omega) | (refine nf ?_; first | assumption | omega) | (simp [*]; done))) | (refine m_rem rfl rfl ?_ ?_ ?_; (· omega); (· omega)))) | (refine g_noF rfl ?_ ?_; (· first | rfl | assumption | (refine decide_eq_true ?_; first | assumption | omega) | (refine nt ?_; first | assumption | omega) | (simp [*]; done))))) | refine end_ops ?_ | refine seq_ops ?_ | (refine cond_t rfl ?_ ?_; (· first | rfl | assumption | (refine decide_eq_true ?_; first | assumption | omega) | (refine nt ?_; first | assumption | omega) | (simp [*]; done))) | refine AW_ret ?_ | refine ret_done ?_ | refine ret_then ?_)
      refine outs_b ?_
      symm
      exact decide_eq_false fun he => by have := he.2.2.1; omega
    · by_cases hall : ∀ x ∈ L, 0 ≤ x ∧ x ≤ (L.length : Int) - 1
      · repeat (first | (refine step_ops ?_; (first | (refine m_mov (by conv => lhs; whnf) ?_) | (refine m_len_ro rfl ?_))) | refine end_ops ?_ | refine seq_ops ?_ | refine AW_seq ?_)
        (refine step_ops ?_); (apply m_call (l1In_spec _ _ _)); (· repeat (first | exact lends_nil | (refine lends_cons ?_ ?_; (· exact lend_v))))
        repeat (refine step_ops ?_; ((try (refine g_yes rfl ?_ ?_; (· first | rfl | assumption | (refine decide_eq_true ?_; first | assumption | omega) | (refine nt ?_; first | assumption | omega) | (simp [*]; done) | (refine decide_eq_false ?_; first | assumption | omega) | (refine nf ?_; first | assumption | omega)))); (first | (refine m_mov (by conv => lhs; whnf) ?_) | (refine m_eql rfl rfl ?_) | (refine m_sub rfl rfl ?_ ?_ ?_; (· omega); (· omega)) | (refine m_not rfl ?_) | (refine m_pick_f rfl ?_ (by conv => lhs; whnf) ?_; (· first | rfl | assumption | (refine decide_eq_false ?_; first | assumption | omega) | (refine nf ?_; first | assumption | omega) | (simp [*]; done))) | (refine m_rem rfl rfl ?_ ?_ ?_; (· omega); (· omega)))))
        (refine step_ops ?_); (refine g_yes rfl ?_ ?_; (· first | (first | rfl | assumption | (refine decide_eq_true ?_; first | assumption | omega) | (refine nt ?_; first | assumption | omega) | (simp [*]; done)) | (first | rfl | assumption | (refine decide_eq_false ?_; first | assumption | omega) | (refine nf ?_; first | assumption | omega) | (simp [*]; done))); (apply m_call (l1All_spec _ _ _ hL))); (· repeat (first | exact lends_nil | (refine lends_cons ?_ ?_; (· (first | exact lend_v | (refine lend_ints ?_; first | rfl | omega))))))
        repeat (first | (refine step_ops ?_; ((try (refine g_yes rfl ?_ ?_; (· first | rfl | assumption | (refine decide_eq_true ?_; first | assumption | omega) | (refine nt ?_; first | assumption | omega) | (simp [*]; done) | (refine decide_eq_false ?_; first | assumption | omega) | (refine nf ?_; first | assumption | omega)))); (first | (refine m_mov (by conv => lhs; whnf) ?_) | (refine m_not rfl ?_) | (refine m_len_ro rfl ?_) | (refine m_pick_f rfl ?_ (by conv => lhs; whnf) ?_; (· first | rfl | assumption | (refine decide_eq_false ?_; first | assumption | omega) | (refine nf ?_; first | assumption | omega) | (simp [*]; done)))))) | refine end_ops ?_ | refine seq_ops ?_ | (refine cond_f rfl ?_ ?_; (· first | rfl | assumption | (refine decide_eq_false ?_; first | assumption | omega) | (refine nf ?_; first | assumption | omega) | (simp [*]; done))) | refine skip_then ?_ | refine AW_seq ?_ | refine AW_block ?_)
        refine AW_loop (α := Nat) (fun k => k ≤ L.length ∧ (L.take k).Nodup) (fun k => st [(0, ints L), (23, ints L), (24, .i L.length), (25, .i k)] []) (fun k => L.length - k) 0 (by simp) (weak_st ?_ ?_ rfl rfl) ?_
        · (repeat' (first | exact trivial | refine And.intro ?_ ?_)) <;> (first | rfl | skip)
        · trivial
        rintro k ⟨hk, hn⟩
        by_cases h : k < L.length
        · have hlt : (L.take k).length ≤ 1048576 := by simp; omega
          by_cases hm : L.getD k 0 ∈ L.take k
          · repeat (first | (refine step_ops ?_; (first | (refine m_mov (by conv => lhs; whnf) ?_) | (refine m_lss rfl rfl ?_) | (refine m_idx1_ro rfl rfl ?_ ?_; (· omega)) | (refine m_ld_rpi rfl ?_ ?_; (· omega)) | (refine m_cut_hi rfl rfl ?_ ?_ ?_; (· first | rfl | omega | simp); (· first | omega | (simp; omega))))) | refine end_ops ?_ | refine seq_ops ?_ | (refine cond_t rfl ?_ ?_; (· first | rfl | assumption | (refine decide_eq_true ?_; first | assumption | omega) | (refine nt ?_; first | assumption | omega) | (simp [*]; done))) | refine skip_then ?_ | refine AW_seq ?_ | refine AW_block ?_)
            (refine step_ops ?_); (apply m_call (l1Has_spec _ _ hlt)); (· repeat (first | exact lends_nil | (refine lends_cons ?_ ?_; (· (first | exact lend_v | (refine lend_ints ?_; first | rfl | omega))))))
            repeat (first | (refine step_ops ?_; (refine m_mov (by conv => lhs; whnf) ?_)) | refine end_ops ?_ | refine seq_ops ?_ | (refine cond_t rfl ?_ ?_; (· first | rfl | assumption | (refine decide_eq_true ?_; first | assumption | omega) | (refine nt ?_; first | assumption | omega) | (simp [*]; done))) | refine AW_ret ?_ | refine ret_done ?_ | refine ret_then ?_ | refine ret_block ?_ | refine ret_round ?_)
            refine outs_b ?_
            symm
            exact decide_eq_false fun he => not_nodup h hm he.2.2.2.2
          · repeat (first | (refine step_ops ?_; (first | (refine m_mov (by conv => lhs; whnf) ?_) | (refine m_lss rfl rfl ?_) | (refine m_idx1_ro rfl rfl ?_ ?_; (· omega)) | (refine m_ld_rpi rfl ?_ ?_; (· omega)) | (refine m_cut_hi rfl rfl ?_ ?_ ?_; (· first | rfl | omega | simp); (· first | omega | (simp; omega))))) | refine end_ops ?_ | refine seq_ops ?_ | (refine cond_t rfl ?_ ?_; (· first | rfl | assumption | (refine decide_eq_true ?_; first | assumption | omega) | (refine nt ?_; first | assumption | omega) | (simp [*]; done))) | refine skip_then ?_ | refine AW_seq ?_ | refine AW_block ?_)
            (refine step_ops ?_); (apply m_call (l1Has_spec _ _ hlt)); (· repeat (first | exact lends_nil | (refine lends_cons ?_ ?_; (· (first | exact lend_v | (refine lend_ints ?_; first | rfl | omega))))))
            repeat (first | (refine step_ops ?_; (first | (refine m_mov (by conv => lhs; whnf) ?_) | (refine m_add rfl rfl ?_ ?_ ?_; (· omega); (· omega)))) | refine end_ops ?_ | refine AW_ops ?_ | (refine cond_f rfl ?_ ?_; (· first | rfl | assumption | (refine decide_eq_false ?_; first | assumption | omega) | (refine nf ?_; first | assumption | omega) | (simp [*]; done))) | refine norm_then ?_ | refine norm_block ?_ | refine AW_skip ?_)
            refine next_round (k + 1) ⟨by omega, nodup_snoc h hn hm⟩ (weak_st ?_ ?_ rfl rfl) ?_
            · (repeat' (first | exact trivial | refine And.intro ?_ ?_)) <;> (first | rfl | skip)
            · trivial
            · omega
        · repeat (first | (refine step_ops ?_; (first | (refine m_mov (by conv => lhs; whnf) ?_) | (refine m_lss rfl rfl ?_))) | refine end_ops ?_ | refine seq_ops ?_ | (refine cond_f rfl ?_ ?_; (· first | rfl | assumption | (refine decide_eq_false ?_; first | assumption | omega) | (refine nf ?_; first | assumption | omega) | (simp [*]; done))) | refine AW_seq ?_ | refine AW_ret ?_ | refine ret_done ?_ | refine norm_then ?_ | refine exit_then ?_ | refine exit_round ?_ | refine AW_exit ?_ | refine exit_block ?_)
          refine outs_b ?_
          symm
          rw [List.take_of_length_le (by omega)] at hn
          exact decide_eq_true ⟨by omega, by omega, by omega, fun x hx => ⟨(hall x hx).1, by have := (hall x hx).2; omega⟩, hn⟩
      · repeat (first | (refine step_ops ?_; (first | (refine m_mov (by conv => lhs; whnf) ?_) | (refine m_len_ro rfl ?_))) | refine end_ops ?_ | refine seq_ops ?_ | refine AW_seq ?_)
        (refine step_ops ?_); (apply m_call (l1In_spec _ _ _)); (· repeat (first | exact lends_nil | (refine lends_cons ?_ ?_; (· exact lend_v))))
        repeat (refine step_ops ?_; ((try (refine g_yes rfl ?_ ?_; (· first | rfl | assumption | (refine decide_eq_true ?_; first | assumption | omega) | (refine nt ?_; first | assumption | omega) | (simp [*]; done) | (refine decide_eq_false ?_; first | assumption | omega) | (refine nf ?_; first | assumption | omega)))); (first | (refine m_mov (by conv => lhs; whnf) ?_) | (refine m_eql rfl rfl ?_) | (refine m_sub rfl rfl ?_ ?_ ?_; (· omega); (· omega)) | (refine m_not rfl ?_) | (refine m_pick_f rfl ?_ (by conv => lhs; whnf) ?_; (· first | rfl | assumption | (refine decide_eq_false ?_; first | assumption | omega) | (refine nf ?_; first | assumption | omega) | (simp [*]; done))) | (refine m_rem rfl rfl ?_ ?_ ?_; (· omega); (· omega)))))
        (refine step_ops ?_); (refine g_yes rfl ?_ ?_; (· first | (first | rfl | assumption | (refine decide_eq_true ?_; first | assumption | omega) | (refine nt ?_; first | assumption | omega) | (simp [*]; done)) | (first | rfl | assumption | (refine decide_eq_false ?_; first | assumption | omega) | (refine nf ?_; first | assumption | omega) | (simp [*]; done))); (apply m_call (l1All_spec _ _ _ hL))); (· repeat (first | exact lends_nil | (refine lends_cons ?_ ?_; (· (first | exact lend_v | (refine lend_ints ?_; first | rfl | omega))))))
        repeat (first | (refine step_ops ?_; ((try (refine g_yes rfl ?_ ?_; (· first | rfl | assumption | (refine decide_eq_true ?_; first | assumption | omega) | (refine nt ?_; first | assumption | omega) | (simp [*]; done) | (refine decide_eq_false ?_; first | assumption | omega) | (refine nf ?_; first | assumption | omega)))); (first | (refine m_mov (by conv => lhs; whnf) ?_) | (refine m_not rfl ?_) | (refine m_pick_f rfl ?_ (by conv => lhs; whnf) ?_; (· first | rfl | assumption | (refine decide_eq_false ?_; first | assumption | omega) | (refine nf ?_; first | assumption | omega) | (simp [*]; done)))))) | refine end_ops ?_ | refine seq_ops ?_ | (refine cond_t rfl ?_ ?_; (· first | rfl | assumption | (refine decide_eq_true ?_; first | assumption | omega) | (refine nt ?_; first | assumption | omega) | (simp [*]; done))) | refine AW_ret ?_ | refine ret_done ?_ | refine ret_then ?_)
        refine outs_b ?_
        symm
        exact decide_eq_false fun he => hall fun x hx => ⟨(he.2.2.2.1 x hx).1, by have := (he.2.2.2.1 x hx).2; omega⟩
  · repeat (first | (refine step_ops ?_; (first | (refine m_mov (by conv => lhs; whnf) ?_) | (refine m_len_ro rfl ?_))) | refine end_ops ?_ | refine seq_ops ?_ | refine AW_seq ?_)
    (refine step_ops ?_); (apply m_call (l1In_spec _ _ _)); (· repeat (first | exact lends_nil | (refine lends_cons ?_ ?_; (· exact lend_v))))
    repeat (first | (refine step_ops ?_; (first | (first | (refine m_mov (by conv => lhs; whnf) ?_) | (refine m_not rfl ?_) | (refine m_pick_t rfl ?_ (by conv => lhs; whnf) ?_; (· first | rfl | assumption | (refine decide_eq_true ?_; first | assumption | omega) | (refine nt ?_; first | assumption | omega) | (simp [*]; done)))) | (refine g_noF rfl ?_ ?_; (· first | rfl | assumption | (refine decide_eq_true ?_; first | assumption | omega) | (refine nt ?_; first | assumption | omega) | (simp [*]; done))))) | refine end_ops ?_ | refine seq_ops ?_ | (refine cond_t rfl ?_ ?_; (· first | rfl | assumption | (refine decide_eq_true ?_; first | assumption | omega) | (refine nt ?_; first | assumption | omega) | (simp [*]; done))) | refine AW_ret ?_ | refine ret_done ?_ | refine ret_then ?_)
    refine outs_b ?_
    symm
    exact decide_eq_false fun he => hc ⟨by have := he.1; omega, by have := he.2.1; omega⟩
end Go.Proofs.YtmmcldbldbpikaaGreatDoor
namespace Go.Am
variable [Go.Am.CodeBlk]
/-- Those of a set, increasing. -/
def nums (a : Nat) : List Int := ((List.range 12).filter fun i => a.testBit i).map fun (i : Nat) => (i : Int)
def numsTo (a k : Nat) : List Int := ((List.range k).filter fun i => a.testBit i).map fun (i : Nat) => (i : Int)
theorem numsTo_yes {a k : Nat} (h : a.testBit k = true) : numsTo a (k + 1) = numsTo a k ++ [(k : Int)] := by
  simp [numsTo, List.range_succ, List.filter_append, h]
theorem numsTo_no {a k : Nat} (h : a.testBit k = false) : numsTo a (k + 1) = numsTo a k := by
  simp [numsTo, List.range_succ, List.filter_append, h]
theorem numsTo_le (a k : Nat) : (numsTo a k).length ≤ k := by
  unfold numsTo
  rw [List.length_map]
  exact Nat.le_trans (List.length_filter_le _ _) (by simp)
/-- The couples who are together among the first k neighbours, asx a set. -/
def togT (L : List Int) : Nat → Nat
  | 0 => 0
  | k + 1 => if L.getD k 0 / 2 = L.getD ((k + 1) % L.length) 0 / 2 then togT L k ||| 1 <<< (L.getD k 0 / 2).toNat else togT L k
theorem togT_lt {L : List Int} (h : IsTab L) : ∀ k, k ≤ L.length → togT L k < 128
  | 0, _ => by simp [togT]
  | k + 1, hk => by
    have ih := togT_lt h k (by omega)
    obtain ⟨x, hx, hxl⟩ := tab_get h (k := k) (by omega)
    have h14 := h.2.1
    simp only [togT]
    split
    · have h7 : (L.getD k 0 / 2).toNat < 7 := by omega
      exact Nat.or_lt_two_pow (n := 7) ih (by rw [Nat.one_shiftLeft]; exact Nat.pow_lt_pow_right (by decide) h7)
    · exact ih
theorem togT_yes {L : List Int} {k x y : Nat} (hx : L.getD k 0 = x) (hy : L.getD ((k + 1) % L.length) 0 = y) (h : (x : Int) / 2 = (y : Int) / 2) : togT L (k + 1) = togT L k ||| 1 <<< (x / 2) := by
  simp only [togT]
  rw [hx, hy, if_pos h, show ((x : Int) / 2).toNat = x / 2 by omega]
theorem togT_no {L : List Int} {k x y : Nat} (hx : L.getD k 0 = x) (hy : L.getD ((k + 1) % L.length) 0 = y) (h : ¬ (x : Int) / 2 = (y : Int) / 2) : togT L (k + 1) = togT L k := by
  simp only [togT]
  rw [hx, hy, if_neg h]
def rowT' (L : List Int) : Nat := togT L (L.length - 1)
def aroundT (L : List Int) : Nat := togT L L.length
def togR (L : List Int) (a : Nat) : List Int := if IsTab L then nums a else []
end Go.Am
namespace Go.Proofs.YtmmcldbldbpikaaGreatDoor
variable [Go.Am.CodeBlk]
open Go.Am
attribute [local irreducible] AW Outs Weak Lends Lend Sp aops atree aop1 Then Round InBlock Done
theorem areCouple_spec (a b : Nat) (ha : a < 14) (hb : b < 14) : Sp Tryz.prog 68 [.i a, .i b] (.b (decide ((a : Int) / 2 = (b : Int) / 2))) := by
  refine spec_of Tryz.func68 rfl cc68 rfl ?_
  unfold ac68
  repeat (first | (refine step_ops ?_; (first | (refine m_mov (by conv => lhs; whnf) ?_) | (refine m_eql rfl rfl ?_) | (refine m_quo rfl rfl ?_ ?_ ?_ ?_; (· omega); (· omega); (· omega)))) | refine end_ops ?_ | refine seq_ops ?_ | refine AW_ret ?_ | refine ret_done ?_)
  exact outs_b rfl
theorem numbers_spec (a : Nat) (ha : a < 65536) : Sp Tryz.prog 56 [.u a] (newInts (nums a)) := by
  refine spec_of Tryz.func56 rfl cc56 rfl ?_
  unfold ac56
  repeat (first | (refine step_ops ?_; (first | (refine m_mov (by conv => lhs; whnf) ?_) | (refine m_nils ?_))) | refine end_ops ?_ | refine seq_ops ?_ | refine AW_seq ?_ | refine AW_block ?_)
  refine AW_loop (α := Nat) (fun k => k ≤ 12) (fun k => st [(0, .u a), (5, .i k), (3, .sl 3 1 0 (numsTo a k).length)] [(3, (true, (numsTo a k).map AV.i))]) (fun k => 12 - k) 0 (by decide) (weak_st ?_ ?_ rfl rfl) ?_
  · (repeat' (first | exact trivial | refine And.intro ?_ ?_)) <;> (first | rfl | skip)
  · exact ⟨rfl, trivial⟩
  intro k hk
  have hn := numsTo_le a k
  by_cases h : k < 12
  · by_cases hx : a.testBit k = true
    · repeat (first | (refine step_ops ?_; (first | (refine m_mov (by conv => lhs; whnf) ?_) | (refine m_lss rfl rfl ?_))) | refine end_ops ?_ | refine seq_ops ?_ | (refine cond_t rfl ?_ ?_; (· first | rfl | assumption | (refine decide_eq_true ?_; first | assumption | omega) | (refine nt ?_; first | assumption | omega) | (simp [*]; done))) | refine skip_then ?_ | refine AW_seq ?_ | refine AW_block ?_)
      (refine step_ops ?_); (apply m_call (setHas_spec a k ha (by omega))); (· repeat (first | exact lends_nil | (refine lends_cons ?_ ?_; (· exact lend_v))))
      repeat (first | (refine step_ops ?_; (first | (refine m_mov (by conv => lhs; whnf) ?_) | (refine m_add rfl rfl ?_ ?_ ?_; (· omega); (· omega)) | (refine m_bsl1 rfl rfl ?_) | (refine m_app1i rfl (by decide) (by rfl) (by first | rfl | omega | (simp; done)) rfl rfl ?_ (by decide) ?_; (· first | omega | (simp; omega))))) | refine end_ops ?_ | refine AW_ops ?_ | (refine cond_t rfl ?_ ?_; (· first | rfl | assumption | (refine decide_eq_true ?_; first | assumption | omega) | (refine nt ?_; first | assumption | omega) | (simp [*]; done))) | refine norm_then ?_ | refine norm_block ?_)
      refine next_round (k + 1) h (Weak.trans (weak_move (r := 14) (q := 3) rfl (by decide) (by decide)) (weak_st ?_ ?_ rfl rfl)) ?_
      · rw [numsTo_yes hx]
        (repeat' (first | exact trivial | refine And.intro ?_ ?_)) <;> (first | rfl | skip)
      · rw [numsTo_yes hx]
        exact ⟨rfl, trivial⟩
      · omega
    · have hx : a.testBit k = false := by simpa using hx
      repeat (first | (refine step_ops ?_; (first | (refine m_mov (by conv => lhs; whnf) ?_) | (refine m_lss rfl rfl ?_))) | refine end_ops ?_ | refine seq_ops ?_ | (refine cond_t rfl ?_ ?_; (· first | rfl | assumption | (refine decide_eq_true ?_; first | assumption | omega) | (refine nt ?_; first | assumption | omega) | (simp [*]; done))) | refine skip_then ?_ | refine AW_seq ?_ | refine AW_block ?_)
      (refine step_ops ?_); (apply m_call (setHas_spec a k ha (by omega))); (· repeat (first | exact lends_nil | (refine lends_cons ?_ ?_; (· exact lend_v))))
      repeat (first | (refine step_ops ?_; (first | (refine m_mov (by conv => lhs; whnf) ?_) | (refine m_add rfl rfl ?_ ?_ ?_; (· omega); (· omega)))) | refine end_ops ?_ | refine AW_ops ?_ | (refine cond_f rfl ?_ ?_; (· first | rfl | assumption | (refine decide_eq_false ?_; first | assumption | omega) | (refine nf ?_; first | assumption | omega) | (simp [*]; done))) | refine norm_then ?_ | refine norm_block ?_ | refine AW_skip ?_)
      refine next_round (k + 1) h (weak_st ?_ ?_ rfl rfl) ?_
      · rw [numsTo_no hx]
        (repeat' (first | exact trivial | refine And.intro ?_ ?_)) <;> (first | rfl | skip)
      · rw [numsTo_no hx]
        exact ⟨rfl, trivial⟩
      · omega
  · obtain rfl : k = 12 := by omega
    repeat (first | (refine step_ops ?_; (first | (refine m_mov (by conv => lhs; whnf) ?_) | (refine m_lss rfl rfl ?_))) | refine end_ops ?_ | refine seq_ops ?_ | (refine cond_f rfl ?_ ?_; (· first | rfl | assumption | (refine decide_eq_false ?_; first | assumption | omega) | (refine nf ?_; first | assumption | omega) | (simp [*]; done))) | refine AW_seq ?_ | refine AW_ret ?_ | refine ret_done ?_ | refine norm_then ?_ | refine exit_then ?_ | refine exit_round ?_ | refine AW_exit ?_ | refine exit_block ?_)
    exact outs_ints rfl rfl rfl
end Go.Proofs.YtmmcldbldbpikaaGreatDoor
namespace Go.Proofs.YtmmcldbldbpikaaGreatDoor
variable [Go.Am.CodeBlk]
open Go.Am
attribute [local irreducible] AW Outs Weak Lends Lend Sp aops atree aop1 Then Round InBlock Done
theorem atT {L : List Int} {k : Nat} {x : Int} (h : L.getD k 0 = x) : L.getD ((k : Int).toNat * 1) 0 = x := by
  rw [Int.toNat_natCast, Nat.mul_one]; exact h
theorem togetherInRow_spec (L : List Int) (h : IsTab L) : Sp Tryz.prog 74 [ints L] (.u (rowT' L)) := by
  have h2 := h.1
  have h14 := h.2.1
  refine spec_of Tryz.func74 rfl cc74 rfl ?_
  unfold ac74
  repeat (first | (refine step_ops ?_; (refine m_mov (by conv => lhs; whnf) ?_)) | refine end_ops ?_ | refine seq_ops ?_ | refine AW_seq ?_ | refine AW_block ?_)
  refine AW_loop (α := Nat) (fun k => k + 1 ≤ L.length) (fun k => st [(0, ints L), (4, .i (k + 1 : Nat)), (3, .u (togT L k))] []) (fun k => L.length - k) 0 (by omega) (weak_st ?_ ?_ rfl rfl) ?_
  · (repeat' (first | exact trivial | refine And.intro ?_ ?_)) <;> (first | rfl | skip)
  · trivial
  intro k hk
  have hlt := togT_lt h k (by omega)
  by_cases hc : k + 1 < L.length
  · have hmod : (k + 1) % L.length = k + 1 := Nat.mod_eq_of_lt hc
    obtain ⟨x, hx, hxl⟩ := tab_get h (k := k) (by omega)
    obtain ⟨y, hy, hyl⟩ := tab_get h hc
    have hy' : L.getD ((k + 1) % L.length) 0 = y := by rw [hmod]; exact hy
    by_cases he : (x : Int) / 2 = (y : Int) / 2
    · repeat (first | ((first | refine step_ops ?_ | refine step_tree ?_); (first | (refine m_mov (by conv => lhs; whnf) ?_) | (refine m_lss rfl rfl ?_) | (refine m_sub rfl rfl ?_ ?_ ?_; (· omega); (· omega)) | (refine m_len_ro rfl ?_) | (refine m_idx1_ro rfl rfl ?_ ?_; (· omega)) | (refine m_idx_ro rfl rfl ?_ ?_ ?_; (· omega); (· omega)) | (refine m_ld_rpi rfl ?_ ?_; (· omega)))) | refine end_ops ?_ | refine seq_ops ?_ | refine seq_tree ?_ | (refine cond_t rfl ?_ ?_; (· first | rfl | assumption | (refine decide_eq_true ?_; first | assumption | omega) | (refine nt ?_; first | assumption | omega) | (simp [*]; done))) | refine skip_then ?_ | refine AW_seq ?_ | refine AW_block ?_)
      rw [show ((k + 1 : Nat) : Int) - 1 = (k : Int) by omega]
      skip
      rw [atT hx, hy]
      refine step_tree ?_; (apply m_call (areCouple_spec x y (by omega) (by omega))); (· repeat (first | exact lends_nil | (refine lends_cons ?_ ?_; (· exact lend_v))))
      repeat (first | (refine step_ops ?_; (first | (refine m_mov (by conv => lhs; whnf) ?_) | (refine m_idx1_ro rfl rfl ?_ ?_; (· omega)) | (refine m_ld_rpi rfl ?_ ?_; (· omega)) | (refine m_quo rfl rfl ?_ ?_ ?_ ?_; (· omega); (· omega); (· omega)))) | refine AW_ops ?_ | refine end_tree ?_ | (refine cond_t rfl ?_ ?_; (· first | rfl | assumption | (refine decide_eq_true ?_; first | assumption | omega) | (refine nt ?_; first | assumption | omega) | (simp [*]; done))))
      rw [hy]
      skip
      rw [show ((y : Nat) : Int) / 2 = ((y / 2 : Nat) : Int) by omega]
      refine step_ops ?_; (apply m_call (setWith_spec (togT L k) (y / 2) (by omega) (by omega))); (· repeat (first | exact lends_nil | (refine lends_cons ?_ ?_; (· exact lend_v))))
      repeat (first | (refine step_ops ?_; (first | (refine m_mov (by conv => lhs; whnf) ?_) | (refine m_add rfl rfl ?_ ?_ ?_; (· omega); (· omega)))) | refine end_ops ?_ | refine AW_ops ?_ | refine norm_then ?_ | refine norm_block ?_)
      refine next_round (k + 1) (by omega) (weak_st ?_ ?_ rfl rfl) ?_
      · rw [togT_yes hx hy' he, show x / 2 = y / 2 by omega]
        (repeat' (first | exact trivial | refine And.intro ?_ ?_)) <;> (first | rfl | skip)
      · trivial
      · omega
    · repeat (first | ((first | refine step_ops ?_ | refine step_tree ?_); (first | (refine m_mov (by conv => lhs; whnf) ?_) | (refine m_lss rfl rfl ?_) | (refine m_sub rfl rfl ?_ ?_ ?_; (· omega); (· omega)) | (refine m_len_ro rfl ?_) | (refine m_idx1_ro rfl rfl ?_ ?_; (· omega)) | (refine m_idx_ro rfl rfl ?_ ?_ ?_; (· omega); (· omega)) | (refine m_ld_rpi rfl ?_ ?_; (· omega)))) | refine end_ops ?_ | refine seq_ops ?_ | refine seq_tree ?_ | (refine cond_t rfl ?_ ?_; (· first | rfl | assumption | (refine decide_eq_true ?_; first | assumption | omega) | (refine nt ?_; first | assumption | omega) | (simp [*]; done))) | refine skip_then ?_ | refine AW_seq ?_ | refine AW_block ?_)
      rw [show ((k + 1 : Nat) : Int) - 1 = (k : Int) by omega]
      skip
      rw [atT hx, hy]
      refine step_tree ?_; (apply m_call (areCouple_spec x y (by omega) (by omega))); (· repeat (first | exact lends_nil | (refine lends_cons ?_ ?_; (· exact lend_v))))
      repeat (first | (refine step_ops ?_; (first | (refine m_mov (by conv => lhs; whnf) ?_) | (refine m_add rfl rfl ?_ ?_ ?_; (· omega); (· omega)))) | refine end_ops ?_ | refine AW_ops ?_ | refine end_tree ?_ | (refine cond_f rfl ?_ ?_; (· first | rfl | assumption | (refine decide_eq_false ?_; first | assumption | omega) | (refine nf ?_; first | assumption | omega) | (simp [*]; done))) | refine norm_then ?_ | refine norm_block ?_ | refine AW_skip ?_)
      refine next_round (k + 1) (by omega) (weak_st ?_ ?_ rfl rfl) ?_
      · rw [togT_no hx hy' he]
        (repeat' (first | exact trivial | refine And.intro ?_ ?_)) <;> (first | rfl | skip)
      · trivial
      · omega
  · obtain rfl : k = L.length - 1 := by omega
    repeat (first | (refine step_ops ?_; (first | (refine m_mov (by conv => lhs; whnf) ?_) | (refine m_lss rfl rfl ?_) | (refine m_len_ro rfl ?_))) | refine end_ops ?_ | refine seq_ops ?_ | (refine cond_f rfl ?_ ?_; (· first | rfl | assumption | (refine decide_eq_false ?_; first | assumption | omega) | (refine nf ?_; first | assumption | omega) | (simp [*]; done))) | refine AW_seq ?_ | refine AW_ret ?_ | refine ret_done ?_ | refine norm_then ?_ | refine exit_then ?_ | refine exit_round ?_ | refine AW_exit ?_ | refine exit_block ?_)
    exact outs_u rfl
theorem togetherAround_spec (L : List Int) (h : IsTab L) : Sp Tryz.prog 55 [ints L] (.u (aroundT L)) := by
  have h2 := h.1
  have h14 := h.2.1
  obtain ⟨k, hk⟩ : ∃ k, L.length = k + 1 := ⟨L.length - 1, by omega⟩
  have hlt := togT_lt h k (by omega)
  have hmod : (k + 1) % L.length = 0 := by rw [hk]; exact Nat.mod_self _
  obtain ⟨x, hx, hxl⟩ := tab_get h (k := k) (by omega)
  obtain ⟨y, hy, hyl⟩ := tab_get h (k := 0) (by omega)
  have hy' : L.getD ((k + 1) % L.length) 0 = y := by rw [hmod]; exact hy
  have hrow : rowT' L = togT L k := by unfold rowT'; rw [hk]; rfl
  have har : aroundT L = togT L (k + 1) := by unfold aroundT; rw [hk]
  have hy0 : L.getD (Int.toNat 0 * 1) 0 = y := hy
  refine spec_of Tryz.func55 rfl cc55 rfl ?_
  unfold ac55
  by_cases he : (y : Int) / 2 = (x : Int) / 2
  · repeat (first | (refine step_ops ?_; (refine m_mov (by conv => lhs; whnf) ?_)) | refine end_ops ?_ | refine seq_ops ?_)
    refine step_ops ?_; (apply m_call (togetherInRow_spec L h)); (· repeat (first | exact lends_nil | (refine lends_cons ?_ ?_; (· (refine lend_ints ?_; first | rfl | omega)))))
    repeat (first | ((first | refine step_ops ?_ | refine step_tree ?_); (first | (refine m_mov (by conv => lhs; whnf) ?_) | (refine m_sub rfl rfl ?_ ?_ ?_; (· omega); (· omega)) | (refine m_len_ro rfl ?_) | (refine m_idx_ro rfl rfl ?_ ?_ ?_; (· omega); (· omega)) | (refine m_ld_rpi rfl ?_ ?_; (· omega)))) | refine end_ops ?_ | refine seq_ops ?_ | refine end_tree ?_ | refine seq_tree ?_ | refine AW_seq ?_)
    rw [show (L.length : Int) - 1 = (k : Int) by omega]
    skip
    rw [atT hx, hrow]
    rw [hy0]
    skip
    refine step_ops ?_; (apply m_call (areCouple_spec y x (by omega) (by omega))); (· repeat (first | exact lends_nil | (refine lends_cons ?_ ?_; (· exact lend_v))))
    repeat (first | (refine step_ops ?_; (first | (refine m_mov (by conv => lhs; whnf) ?_) | (refine m_quo rfl rfl ?_ ?_ ?_ ?_; (· omega); (· omega); (· omega)))) | refine end_ops ?_ | refine AW_ops ?_ | (refine cond_t rfl ?_ ?_; (· first | rfl | assumption | (refine decide_eq_true ?_; first | assumption | omega) | (refine nt ?_; first | assumption | omega) | (simp [*]; done))))
    rw [show ((y : Nat) : Int) / 2 = ((y / 2 : Nat) : Int) by omega]
    refine step_ops ?_; (apply m_call (setWith_spec (togT L k) (y / 2) (by omega) (by omega))); (· repeat (first | exact lends_nil | (refine lends_cons ?_ ?_; (· exact lend_v))))
    repeat (first | (refine step_ops ?_; (refine m_mov (by conv => lhs; whnf) ?_)) | refine end_ops ?_ | refine seq_ops ?_ | refine AW_ret ?_ | refine ret_done ?_ | refine norm_then ?_)
    refine outs_u ?_
    rw [har, togT_yes hx hy' he.symm, show x / 2 = y / 2 by omega]
  · repeat (first | (refine step_ops ?_; (refine m_mov (by conv => lhs; whnf) ?_)) | refine end_ops ?_ | refine seq_ops ?_)
    refine step_ops ?_; (apply m_call (togetherInRow_spec L h)); (· repeat (first | exact lends_nil | (refine lends_cons ?_ ?_; (· (refine lend_ints ?_; first | rfl | omega)))))
    repeat (first | ((first | refine step_ops ?_ | refine step_tree ?_); (first | (refine m_mov (by conv => lhs; whnf) ?_) | (refine m_sub rfl rfl ?_ ?_ ?_; (· omega); (· omega)) | (refine m_len_ro rfl ?_) | (refine m_idx_ro rfl rfl ?_ ?_ ?_; (· omega); (· omega)) | (refine m_ld_rpi rfl ?_ ?_; (· omega)))) | refine end_ops ?_ | refine seq_ops ?_ | refine end_tree ?_ | refine seq_tree ?_ | refine AW_seq ?_)
    rw [show (L.length : Int) - 1 = (k : Int) by omega]
    skip
    rw [atT hx, hrow]
    rw [hy0]
    skip
    refine step_ops ?_; (apply m_call (areCouple_spec y x (by omega) (by omega))); (· repeat (first | exact lends_nil | (refine lends_cons ?_ ?_; (· exact lend_v))))
    repeat (first | (refine step_ops ?_; (refine m_mov (by conv => lhs; whnf) ?_)) | refine end_ops ?_ | refine seq_ops ?_ | (refine cond_f rfl ?_ ?_; (· first | rfl | assumption | (refine decide_eq_false ?_; first | assumption | omega) | (refine nf ?_; first | assumption | omega) | (simp [*]; done))) | refine skip_then ?_ | refine AW_ret ?_ | refine ret_done ?_)
    refine outs_u ?_
    rw [har, togT_no hx hy' (Ne.symm he)]
end Go.Proofs.YtmmcldbldbpikaaGreatDoor
namespace Go.Proofs.YtmmcldbldbpikaaGreatDoor
variable [Go.Am.CodeBlk]
open Go.Am
attribute [local irreducible] AW Outs Weak Lends Lend Sp aops atree aop1 Then Round InBlock Done
theorem implCouplesTogether_spec (L : List Int) (hL : L.length ≤ 1048576) : Sp Tryz.prog 25 [ints L] (.tup [newInts (togR L (aroundT L)), .b (decide (IsTab L))]) := by
  refine spec_of Tryz.func25 rfl cc25 rfl ?_
  unfold ac25
  by_cases h : IsTab L
  · have e : togR L (aroundT L) = nums (aroundT L) := if_pos h
    have hlt : aroundT L < 128 := togT_lt h _ (by omega)
    repeat (first | (refine step_ops ?_; (first | (refine m_mov (by conv => lhs; whnf) ?_) | (refine m_nils ?_))) | refine end_ops ?_ | refine seq_ops ?_ | refine AW_seq ?_)
    (refine step_ops ?_); (apply m_call (implIsTable_spec _ hL)); (· repeat (first | exact lends_nil | (refine lends_cons ?_ ?_; (· (refine lend_ints ?_; first | rfl | omega)))))
    repeat (first | (refine step_ops ?_; (first | (refine m_mov (by conv => lhs; whnf) ?_) | (refine m_not rfl ?_))) | refine end_ops ?_ | refine seq_ops ?_ | (refine cond_f rfl ?_ ?_; (· first | rfl | assumption | (refine decide_eq_false ?_; first | assumption | omega) | (refine nf ?_; first | assumption | omega) | (simp [*]; done))) | refine skip_then ?_)
    (refine step_ops ?_); (apply m_call (togetherAround_spec L h)); (· repeat (first | exact lends_nil | (refine lends_cons ?_ ?_; (· (refine lend_ints ?_; first | rfl | omega)))))
    skip
    (refine step_ops ?_); (apply m_callo (numbers_spec (aroundT L) (by omega))); (· repeat (first | exact lends_nil | (refine lends_cons ?_ ?_; (· exact lend_v)))); (· first | exact allv_ints _ | rfl | (simp; done))
    repeat (first | (refine step_ops ?_; (refine m_mov (by conv => lhs; whnf) ?_)) | refine end_ops ?_ | refine AW_ret ?_ | refine ret_done ?_)
    refine outs_tup2 (outs_ints rfl (by rw [e]) (by rw [e])) (outs_b ?_)
    simp [h]
  · have e : togR L (aroundT L) = [] := if_neg h
    repeat (first | (refine step_ops ?_; (first | (refine m_mov (by conv => lhs; whnf) ?_) | (refine m_nils ?_))) | refine end_ops ?_ | refine seq_ops ?_ | refine AW_seq ?_)
    (refine step_ops ?_); (apply m_call (implIsTable_spec _ hL)); (· repeat (first | exact lends_nil | (refine lends_cons ?_ ?_; (· (refine lend_ints ?_; first | rfl | omega)))))
    repeat (first | (refine step_ops ?_; (first | (refine m_mov (by conv => lhs; whnf) ?_) | (refine m_not rfl ?_) | (refine m_nils ?_))) | refine end_ops ?_ | refine seq_ops ?_ | (refine cond_t rfl ?_ ?_; (· first | rfl | assumption | (refine decide_eq_true ?_; first | assumption | omega) | (refine nt ?_; first | assumption | omega) | (simp [*]; done))) | refine AW_ret ?_ | refine ret_done ?_ | refine ret_then ?_)
    refine outs_tup2 (outs_ints rfl (by rw [e]; rfl) (by rw [e]; rfl)) (outs_b ?_)
    simp [h]
end Go.Proofs.YtmmcldbldbpikaaGreatDoor
namespace Go.Am
variable [Go.Am.CodeBlk]
variable {P : Program} {N : Nat}
/-- Where such a call begins. -/
def enterH (asx : List AV) (hin : Hp) : AS := ⟨fun t => (asx[t]?).getD .any, hin⟩
theorem enterH_sim {w : World} {phi : Nat → Option Nat} {asx : List AV} {hin : Hp} {vs : Array Value} {n : Nat} (hg : GoodW w) (hgb : ∀ r b, (hin r).isSome = true → phi r = some b → b ∉ goodB) (hpb : ∀ r, (hin r).isSome = true → pbase ≤ r) (hinj : Inj hin phi) (hregs : Regs (ctxE w phi hin) hin)
    (hs : SimL asx (ctxE w phi hin) vs.toList) (hl : vs.size = asx.length) :
    Sim w (fun r => if (hin r).isSome then phi r else none) (min n pbase) (enterH asx hin) (vs ++ Array.replicate (n - vs.size) undef) w phi (ctxE w phi hin).ro where
  os := rfl
  tape := rfl
  output := rfl
  size := Nat.le_refl _
  kept := fun _ _ _ => rfl
  shp := fun b cur e f hb => ⟨cur, hb, rfl⟩
  npb := Nat.min_le_right _ _
  gd := ⟨hg, fun r b h => by split at h; exact hgb r b ‹_› h; cases h⟩
  rob := fun _ hb => hb.1
  inj := fun r r' b h1 h2 h3 h4 => hinj r r' b h1 h2 h3 h4
  liv := fun r c hc => by
    have hr : (hin r).isSome = true := by have h1 : hin r = some c := hc
                                          rw [h1]; rfl
    rcases hregs r c hc with ⟨h1, h2⟩ | ⟨b, cur, e, h1, h2, h3⟩ | ⟨b, o, h0, h1, h2, h3⟩
    · refine .inl ⟨h1, h2, fun _ => ?_⟩
      rw [if_pos hr]; exact h1
    · refine .inr (.inl ⟨b, cur, e, h1, h2, fun hb => hb.2 r hr h1, .inr ⟨hpb r hr, ?_⟩, h3⟩)
      rw [if_pos hr]; exact h1
    · refine .inr (.inr ⟨b, o, h0, h1, h2, h3, fun hb => hb.2 r hr h1, .inr ⟨hpb r hr, ?_⟩⟩)
      rw [if_pos hr]; exact h1
  tms := fun t => by
    simp only [enterH]
    cases hx : asx[t]? with
    | none => simp [SimV]
    | some x =>
      obtain ⟨y, hy, hsy⟩ := hs.get hx
      have hlt : t < vs.size := by
        have := (List.getElem?_eq_some_iff.1 hy).1
        simpa using this
      have hy' : vs[t] = y := by
        have := (List.getElem?_eq_some_iff.1 hy).2
        simpa using this
      have : (vs ++ Array.replicate (n - vs.size) undef).getD t undef = y := by
        simp [Array.getD_eq_getD_getElem?, Array.getElem?_append, hlt, hy']
      rw [this]
      exact hsy
  slots := by simp; omega
/-- What such a function owes at its end: s: names. -/
def DoneH (ts : List Nat) (res : AV) (hin hout : Hp) : Exit → AS → Prop
  | .normal, s | .ret, s => ∃ g : Nat → Nat, resAV s ts = renV g res ∧ (∀ r c, hout r = some c → ∃ c0, s.hp (g r) = some c0 ∧ (c0 = renR g c ∨ (c.2 = [] ∧ c0.2 = []))) ∧ (∀ r, (hin r).isSome = true → g r = r ∧ (hout r).isSome = true) ∧
      (∀ r, (hout r).isSome = true → hin r = none → g r < pbase) ∧ (∀ r r', (hout r).isSome = true → (hout r').isSome = true → g r = g r' → r = r')
  | _, _ => False
/-- What is asked of names and values alone. -/
structure Static (hin : Hp) (res : AV) (hout : Hp) : Prop where
  pb : ∀ r, (hin r).isSome = true → pbase ≤ r
  own : ∀ r c, hout r = some c → ownL false c.2 = true ∧ refsL (fun r => (hout r).isSome) c.2 = true
  res : ownV false res = true ∧ refsV (fun r => (hout r).isSome) res = true
/-- A block that is a region's own is new, if all that was lent is there still. -/
theorem Sim.mine_new {w0 w : World} {mu : Nat → Option Nat} {N : Nat} {s : AS} {tm : Array Value} {phi : Nat → Option Nat} {ro : Nat → Prop} (h : Sim w0 mu N s tm w phi ro) (hall : ∀ r b, mu r = some b → (s.hp r).isSome = true) {q b : Nat} (hq : (s.hp q).isSome = true) (hlt : q < pbase) (hp : phi q = some b) (hm : Mine w0 mu b) : w0.heap.size ≤ b := by
  rcases hm with h1 | ⟨r, hr, hmu⟩
  · exact h1
  exfalso
  have hs := hall r b hmu
  obtain ⟨c, hc⟩ := Option.isSome_iff_exists.1 hs
  have hge : pbase ≤ r := Nat.le_trans (by decide) hr
  have key : phi r = some b := by
    rcases h.liv r c hc with ⟨_, _, k3⟩ | ⟨b', _, _, k1, _, _, k4, _⟩ | ⟨b', _, _, k1, _, _, _, k4⟩
    · rw [k3 hge] at hmu; cases hmu
    · rcases k4 with k4 | k4
      · omega
      · rw [k4.2] at hmu; cases hmu; exact k1
    · rcases k4 with k4 | k4
      · omega
      · rw [k4.2] at hmu; cases hmu; exact k1
  have := h.inj q r b hq hs hp key
  omega
theorem specH_of {f : FuncId} {fn : Func} {code : Code} {ac : ACode} {ts : List Nat} {asx : List AV} {hin hout : Hp} {res : AV} (hf : P.funcs[f]? = some fn) (hb : fn.body = some code) (hc : ccode P (min fn.ntmps pbase) code = some ac) (hr : resTmps fn = some ts)
    (hst : Static hin res hout) (h : AW P (min fn.ntmps pbase) ac (enterH asx hin) (DoneH ts res hin hout)) : SpH P f asx hin res hout := by
  intro w vs phi hg hgb hinj hregs hs hl
  refine calls_of_wp hf hb (wp_mono (h code hc w _ _ w ⟨rfl, _, _, enterH_sim hg hgb hst.pb hinj hregs hs hl⟩) fun e a' w' hA => ?_)
  obtain ⟨s', h1, hf', phi', ro, hS⟩ := hA
  have fin : (∃ g : Nat → Nat, resAV s' ts = renV g res ∧ (∀ r c, hout r = some c → ∃ c0, s'.hp (g r) = some c0 ∧ (c0 = renR g c ∨ (c.2 = [] ∧ c0.2 = []))) ∧ (∀ r, (hin r).isSome = true → g r = r ∧ (hout r).isSome = true) ∧
      (∀ r, (hout r).isSome = true → hin r = none → g r < pbase) ∧ (∀ r r', (hout r).isSome = true → (hout r').isSome = true → g r = g r' → r = r')) → a'.defers = [] ∧ ∃ v, (results fn a'.tmps).run P w' = .ok v w' ∧
      ∃ v' phi', Ending.returned v = .returned v' ∧ w'.os = w.os ∧ w'.tape = w.tape ∧ w'.output = w.output ∧ w.heap.size ≤ w'.heap.size ∧
      (∀ r, (hin r).isSome = true → phi' r = phi r) ∧ (∀ b, b < w.heap.size → (∀ r, (hin r).isSome = true → phi r ≠ some b) → w'.heap[b]? = w.heap[b]?) ∧
      (∀ (b : Nat) (cur : Array Value) (e : TypeId) (f : Nat × Nat), w.heap[b]? = some (.cells cur e f) → ∃ cur' : Array Value, w'.heap[b]? = some (.cells cur' e f) ∧ cur'.size = cur.size) ∧
      Inj hout phi' ∧ (∀ r b, (hout r).isSome = true → hin r = none → phi' r = some b → w.heap.size ≤ b) ∧ Regs (ctxX w w' phi' hout) hout ∧ SimV res (ctxX w w' phi' hout) v' := by
    rintro ⟨g, hres, hhas, hstay, hfresh, hgi⟩
    have hlv : ∀ r, (hout r).isSome = true → (s'.hp (g r)).isSome = true := by
      intro r hr
      obtain ⟨c, hc⟩ := Option.isSome_iff_exists.1 hr
      obtain ⟨c0, h1, _⟩ := hhas r c hc
      rw [h1]; rfl
    have hall : ∀ r b, (if (hin r).isSome = true then phi r else none) = some b → (s'.hp r).isSome = true := by
      intro r b hb
      split at hb
      · rename_i hi
        have := hlv r (hstay r hi).2
        rw [(hstay r hi).1] at this
        exact this
      · cases hb
    have hvt : SimV (resAV s' ts) (ctx w w' ro phi' s') (resVal a'.tmps ts) := simv_res hS ts
    rw [hres] at hvt
    refine ⟨hf', _, run_results hr a'.tmps w' P, _, fun r => phi' (g r), rfl, hS.os, hS.tape, hS.output, hS.size, fun r hr => ?_, fun b hb hne => hS.kept b hb fun r hr => ?_, hS.shp, ?_, ?_, ?_, ?_⟩
    · obtain ⟨e1, e2⟩ := hstay r hr
      obtain ⟨c, hc⟩ := Option.isSome_iff_exists.1 e2
      obtain ⟨c0, hh, _⟩ := hhas r c hc
      rw [e1] at hh
      show phi' (g r) = phi r
      rw [e1]
      rcases hS.liv r _ hh with ⟨k1, _, k3⟩ | ⟨b, cur, e', k1, _, _, k4, _⟩ | ⟨b, o, _, k1, _, _, _, k4⟩
      case inr.inr =>
        rcases k4 with k4 | k4
        · have := hst.pb r hr; omega
        · have k5 := k4.2
          simp only [hr, if_true] at k5
          rw [k1, k5]
      · have k5 := k3 (hst.pb r hr)
        simp only [hr, if_true] at k5
        rw [k1, k5]
      · rcases k4 with k4 | k4
        · have := hst.pb r hr; omega
        · have k5 := k4.2
          simp only [hr, if_true] at k5
          rw [k1, k5]
    · split at hr
      · rename_i hrs; exact hne r hrs hr
      · cases hr
    · intro r r' b h1 h2 h3 h4
      exact hgi r r' h1 h2 (hS.inj _ _ b (hlv r h1) (hlv r' h2) h3 h4)
    · intro r b h1 h2 h3
      obtain ⟨c, hc⟩ := Option.isSome_iff_exists.1 h1
      have hlt := hfresh r h1 h2
      obtain ⟨c0, hh0, _⟩ := hhas r c hc
      rcases hS.liv _ _ hh0 with ⟨k1, _⟩ | ⟨b', _, _, k1, _, _, k4, _⟩ | ⟨b', _, _, k1, _, _, _, k4⟩
      · have h3' : phi' (g r) = some b := h3
        rw [k1] at h3'; cases h3'
      case inr.inr =>
        have h3' : phi' (g r) = some b := h3
        rw [k1] at h3'; cases h3'
        rcases k4 with k4 | k4
        · exact hS.mine_new hall (by rw [hh0]; rfl) k4.1 k1 k4.2
        · omega
      · have h3' : phi' (g r) = some b := h3
        rw [k1] at h3'; cases h3'
        rcases k4 with k4 | k4
        · exact hS.mine_new hall (by rw [hh0]; rfl) k4.1 k1 k4.2
        · omega
    · intro r c hc
      obtain ⟨ho, hrf⟩ := hst.own r c hc
      obtain ⟨c0, hh0, hc0⟩ := hhas r c hc
      rcases hS.liv _ _ hh0 with ⟨k1, k2, _⟩ | ⟨b, cur, e', k1, k2, _, _, k5⟩ | ⟨b, o, h0, k1, k2, k3, _⟩
      case inr.inr =>
        rcases hc0 with rfl | hc0
        · exact .inr (.inr ⟨b, o, renR_ob h0, k1, k2, k3⟩)
        · rw [h0] at hc0; simp at hc0
      · refine .inl ⟨k1, ?_⟩
        rcases hc0 with rfl | hc0
        · obtain ⟨fl, cs⟩ := c
          simp only [renR, renL_map] at k2
          exact List.map_eq_nil_iff.1 k2
        · exact hc0.1
      · rcases hc0 with rfl | hc0
        case inr => exact .inr (.inl ⟨b, cur, e', k1, k2, by unfold SimR; rw [hc0.1]; simp [SimL]⟩)
        refine .inr (.inl ?_)
        exact ⟨b, cur, e', k1, k2, simR_in (q := false) (C := ctxX w w' (fun r => phi' (g r)) hout) (D := ctx w w' ro phi' s') rfl (fun e => by cases e) (fun _ => rfl) (fun _ r _ => rfl) ho hrf k5⟩
    · exact simV_in false g (ctxX w w' (fun r => phi' (g r)) hout) (ctx w w' ro phi' s') rfl (fun e => by cases e) (fun _ => rfl) (fun _ r _ => rfl) res _ hst.res.1 hst.res.2 hvt
  cases e with
  | normal => exact fin h1
  | ret => exact fin h1
  | exit id => exact h1.elim
  | goto l => exact h1.elim
  | panic c => exact h1.elim
  | outgrown => exact h1.elim
/-- With an open end. -/
def DoneX (ts : List Nat) {ι : Type} (ok : ι → Prop) (res : ι → AV) (hin : Hp) (hout : ι → Hp) (e : Exit) (s : AS) : Prop := ∃ i, ok i ∧ DoneH ts (res i) hin (hout i) e s
theorem specX_of {f : FuncId} {fn : Func} {code : Code} {ac : ACode} {ts : List Nat} {asx : List AV} {hin : Hp} {ι : Type} {ok : ι → Prop} {res : ι → AV} {hout : ι → Hp} (hf : P.funcs[f]? = some fn) (hb : fn.body = some code) (hc : ccode P (min fn.ntmps pbase) code = some ac) (hr : resTmps fn = some ts)
    (hpb : ∀ r, (hin r).isSome = true → pbase ≤ r) (hsta : ∀ i, ok i → Static hin (res i) (hout i)) (h : AW P (min fn.ntmps pbase) ac (enterH asx hin) (DoneX ts ok res hin hout)) : SpX P f asx hin ok res hout := by
  intro w vs phi hg hgb hinj hregs hs hl
  refine calls_of_wp hf hb (wp_mono (h code hc w _ _ w ⟨rfl, _, _, enterH_sim hg hgb hpb hinj hregs hs hl⟩) fun e a' w' hA => ?_)
  obtain ⟨s', h0, hf', phi', ro, hS⟩ := hA
  obtain ⟨i, hi, h1⟩ : ∃ i, ok i ∧ DoneH ts (res i) hin (hout i) e s' := h0
  have hst := hsta i hi
  clear h hsta
  have fin : (∃ g : Nat → Nat, resAV s' ts = renV g (res i) ∧ (∀ r c, hout i r = some c → ∃ c0, s'.hp (g r) = some c0 ∧ (c0 = renR g c ∨ (c.2 = [] ∧ c0.2 = []))) ∧ (∀ r, (hin r).isSome = true → g r = r ∧ (hout i r).isSome = true) ∧
      (∀ r, (hout i r).isSome = true → hin r = none → g r < pbase) ∧ (∀ r r', (hout i r).isSome = true → (hout i r').isSome = true → g r = g r' → r = r')) → a'.defers = [] ∧ ∃ v, (results fn a'.tmps).run P w' = .ok v w' ∧ ∃ i, ok i ∧
      ∃ v' phi', Ending.returned v = .returned v' ∧ w'.os = w.os ∧ w'.tape = w.tape ∧ w'.output = w.output ∧ w.heap.size ≤ w'.heap.size ∧
      (∀ r, (hin r).isSome = true → phi' r = phi r) ∧ (∀ b, b < w.heap.size → (∀ r, (hin r).isSome = true → phi r ≠ some b) → w'.heap[b]? = w.heap[b]?) ∧
      (∀ (b : Nat) (cur : Array Value) (e : TypeId) (f : Nat × Nat), w.heap[b]? = some (.cells cur e f) → ∃ cur' : Array Value, w'.heap[b]? = some (.cells cur' e f) ∧ cur'.size = cur.size) ∧
      Inj (hout i) phi' ∧ (∀ r b, (hout i r).isSome = true → hin r = none → phi' r = some b → w.heap.size ≤ b) ∧ Regs (ctxX w w' phi' (hout i)) (hout i) ∧ SimV (res i) (ctxX w w' phi' (hout i)) v' := by
    rintro ⟨g, hres, hhas, hstay, hfresh, hgi⟩
    have hlv : ∀ r, (hout i r).isSome = true → (s'.hp (g r)).isSome = true := by
      intro r hr
      obtain ⟨c, hc⟩ := Option.isSome_iff_exists.1 hr
      obtain ⟨c0, h1, _⟩ := hhas r c hc
      rw [h1]; rfl
    have hall : ∀ r b, (if (hin r).isSome = true then phi r else none) = some b → (s'.hp r).isSome = true := by
      intro r b hb
      split at hb
      · rename_i hi
        have := hlv r (hstay r hi).2
        rw [(hstay r hi).1] at this
        exact this
      · cases hb
    have hvt : SimV (resAV s' ts) (ctx w w' ro phi' s') (resVal a'.tmps ts) := simv_res hS ts
    rw [hres] at hvt
    refine ⟨hf', _, run_results hr a'.tmps w' P, i, hi, _, fun r => phi' (g r), rfl, hS.os, hS.tape, hS.output, hS.size, fun r hr => ?_, fun b hb hne => hS.kept b hb fun r hr => ?_, hS.shp, ?_, ?_, ?_, ?_⟩
    · obtain ⟨e1, e2⟩ := hstay r hr
      obtain ⟨c, hc⟩ := Option.isSome_iff_exists.1 e2
      obtain ⟨c0, hh, _⟩ := hhas r c hc
      rw [e1] at hh
      show phi' (g r) = phi r
      rw [e1]
      rcases hS.liv r _ hh with ⟨k1, _, k3⟩ | ⟨b, cur, e', k1, _, _, k4, _⟩ | ⟨b, o, _, k1, _, _, _, k4⟩
      case inr.inr =>
        rcases k4 with k4 | k4
        · have := hst.pb r hr; omega
        · have k5 := k4.2
          simp only [hr, if_true] at k5
          rw [k1, k5]
      · have k5 := k3 (hst.pb r hr)
        simp only [hr, if_true] at k5
        rw [k1, k5]
      · rcases k4 with k4 | k4
        · have := hst.pb r hr; omega
        · have k5 := k4.2
          simp only [hr, if_true] at k5
          rw [k1, k5]
    · split at hr
      · rename_i hrs; exact hne r hrs hr
      · cases hr
    · intro r r' b h1 h2 h3 h4
      exact hgi r r' h1 h2 (hS.inj _ _ b (hlv r h1) (hlv r' h2) h3 h4)
    · intro r b h1 h2 h3
      obtain ⟨c, hc⟩ := Option.isSome_iff_exists.1 h1
      have hlt := hfresh r h1 h2
      obtain ⟨c0, hh0, _⟩ := hhas r c hc
      rcases hS.liv _ _ hh0 with ⟨k1, _⟩ | ⟨b', _, _, k1, _, _, k4, _⟩ | ⟨b', _, _, k1, _, _, _, k4⟩
      · have h3' : phi' (g r) = some b := h3
        rw [k1] at h3'; cases h3'
      case inr.inr =>
        have h3' : phi' (g r) = some b := h3
        rw [k1] at h3'; cases h3'
        rcases k4 with k4 | k4
        · exact hS.mine_new hall (by rw [hh0]; rfl) k4.1 k1 k4.2
        · omega
      · have h3' : phi' (g r) = some b := h3
        rw [k1] at h3'; cases h3'
        rcases k4 with k4 | k4
        · exact hS.mine_new hall (by rw [hh0]; rfl) k4.1 k1 k4.2
        · omega
    · intro r c hc
      obtain ⟨ho, hrf⟩ := hst.own r c hc
      obtain ⟨c0, hh0, hc0⟩ := hhas r c hc
      rcases hS.liv _ _ hh0 with ⟨k1, k2, _⟩ | ⟨b, cur, e', k1, k2, _, _, k5⟩ | ⟨b, o, h0, k1, k2, k3, _⟩
      case inr.inr =>
        rcases hc0 with rfl | hc0
        · exact .inr (.inr ⟨b, o, renR_ob h0, k1, k2, k3⟩)
        · rw [h0] at hc0; simp at hc0
      · refine .inl ⟨k1, ?_⟩
        rcases hc0 with rfl | hc0
        · obtain ⟨fl, cs⟩ := c
          simp only [renR, renL_map] at k2
          exact List.map_eq_nil_iff.1 k2
        · exact hc0.1
      · rcases hc0 with rfl | hc0
        case inr => exact .inr (.inl ⟨b, cur, e', k1, k2, by unfold SimR; rw [hc0.1]; simp [SimL]⟩)
        refine .inr (.inl ?_)
        exact ⟨b, cur, e', k1, k2, simR_in (q := false) (C := ctxX w w' (fun r => phi' (g r)) (hout i)) (D := ctx w w' ro phi' s') rfl (fun e => by cases e) (fun _ => rfl) (fun _ r _ => rfl) ho hrf k5⟩
    · exact simV_in false g (ctxX w w' (fun r => phi' (g r)) (hout i)) (ctx w w' ro phi' s') rfl (fun e => by cases e) (fun _ => rfl) (fun _ r _ => rfl) (res i) _ hst.res.1 hst.res.2 hvt
  cases e with
  | normal => exact fin h1
  | ret => exact fin h1
  | exit id => exact h1.elim
  | goto l => exact h1.elim
  | panic c => exact h1.elim
  | outgrown => exact h1.elim
theorem ret_doneh {s : AS} {ts : List Nat} {res : AV} {hin hout : Hp} (g : Nat → Nat) (h1 : resAV s ts = renV g res) (h2 : ∀ r c, hout r = some c → ∃ c0, s.hp (g r) = some c0 ∧ (c0 = renR g c ∨ (c.2 = [] ∧ c0.2 = []))) (h3 : ∀ r, (hin r).isSome = true → g r = r ∧ (hout r).isSome = true)
    (h4 : ∀ r, (hout r).isSome = true → hin r = none → g r < pbase) (h5 : ∀ r r', (hout r).isSome = true → (hout r').isSome = true → g r = g r' → r = r') : DoneH ts res hin hout .ret s := ⟨g, h1, h2, h3, h4, h5⟩
/-- A call that is lent regions. -/
theorem m_callh {s : AS} {K : AS → Prop} {d : Option Nat} {f : FuncId} {args : List Opd} {asx : List AV} {hin hout hp' : Hp} {res : AV} (g : Nat → Nat) (hs : SpH P f asx hin res hout) (ha : LendsH s.hp g hin (args.map s.ev) asx) (hL : Lent s g hin hout hp' res)
    (k : K (AS.put ⟨s.tm, hp'⟩ d (renV g res))) : aop1 P true ⟨d, .call f args, none⟩ s K := .inr (.inr (.inl ⟨rfl, asx, hin, Unit, fun _ => True, fun _ => res, fun _ => hout, g, fun _ => hp', hs.toX, ha, ⟨(), trivial⟩, fun _ _ => ⟨hL, k⟩⟩))
/-- One with an open end. -/
theorem m_callx {s : AS} {K : AS → Prop} {d : Option Nat} {f : FuncId} {args : List Opd} {asx : List AV} {hin : Hp} {ι : Type} {ok : ι → Prop} {res : ι → AV} {hout hp' : ι → Hp} (g : Nat → Nat) (hs : SpX P f asx hin ok res hout) (ha : LendsH s.hp g hin (args.map s.ev) asx) (hne : ∃ i, ok i)
    (k : ∀ i, ok i → Lent s g hin (hout i) (hp' i) (res i) ∧ K (AS.put ⟨s.tm, hp' i⟩ d (renV g (res i)))) : aop1 P true ⟨d, .call f args, none⟩ s K := .inr (.inr (.inl ⟨rfl, asx, hin, ι, ok, res, hout, g, hp', hs, ha, hne, k⟩))
theorem entry_leE (w : World) (phi : Nat → Option Nat) : Ctx.Le { heap := w.heap, ro := fun b => b < w.heap.size, base := w.heap.size, phi := fun _ => none, live := fun _ => false, loc := false } (ctxE w phi fun _ => none) :=
  ⟨fun b hb => ⟨⟨hb, fun r hr => by simp at hr⟩, rfl⟩, Nat.le_refl _, fun e => by simp at e, fun e => by simp at e, fun e => by simp at e⟩
/-- Nothing is lent but to be read. -/
theorem lendsH_none {hp : Hp} {f : Nat → Nat} {xs asx : List AV} (h : Lends hp xs asx) : LendsH hp f (fun _ => none) xs asx := by
  intro w0 mu N tm w phi ro vs hS hs hl
  obtain ⟨h1, h2⟩ := h w0 mu N tm w phi ro vs hS hs hl
  exact ⟨SimL.mono _ _ _ _ (entry_leE w _) h1, h2⟩
/-- What leads to lent regions, or is plain. -/
theorem lendsH_ren {hp : Hp} {f : Nat → Nat} {hin : Hp} {asx : List AV} (hin1 : ∀ r c, hin r = some c → (hp (f r)).isSome = true) (ho : ownL true asx = true) (hr : refsL (fun r => (hin r).isSome) asx = true) : LendsH hp f hin (renL f asx) asx := by
  intro w0 mu N tm w phi ro vs hS hs hl
  rw [renL_map, List.length_map] at hl
  refine ⟨?_, hl⟩
  refine simL_in true f (ctxE w (fun r => phi (f r)) hin) (ctx w0 w ro phi ⟨fun _ => .any, hp⟩) rfl (fun _ b hb => ?_) (fun _ => rfl) (fun _ r _ => rfl) asx vs ho hr hs
  refine ⟨hS.rob b hb, fun r hr hp' => ?_⟩
  obtain ⟨c, hc⟩ := Option.isSome_iff_exists.1 hr
  obtain ⟨c', hc'⟩ := Option.isSome_iff_exists.1 (hin1 r c hc)
  have hp'' : phi (f r) = some b := hp'
  rcases hS.liv _ _ hc' with ⟨h1, _⟩ | ⟨b', _, _, h1, _, h2, _⟩ | ⟨b', _, _, h1, _, _, h2, _⟩
  · rw [h1] at hp''; cases hp''
  · rw [h1] at hp''; cases hp''
    exact h2 hb
  · rw [h1] at hp''; cases hp''
    exact h2 hb
end Go.Am
namespace Go.Am
variable [Go.Am.CodeBlk]
variable {P : Program} {own : Bool} {N : Nat} {s : AS} {K : AS → Prop} {d : Option Nat}
mutual
/-- Read under other names. -/
theorem simV_ren (f : Nat → Nat) (C D : Ctx) (h1 : C.heap = D.heap) (h2 : C.ro = D.ro) (hb : C.base = D.base) (h3 : C.loc = D.loc) (h4 : ∀ r, C.live r = true → C.phi r = D.phi (f r)) :
    ∀ (x : AV) (y : Value), refsV C.live x = true → SimV (renV f x) D y → SimV x C y
  | .any, _, _, _ => by simp [SimV]
  | .v x, _, _, h => by simpa [SimV, renV] using h
  | .ro fr z cs n, y, _, h => by
    simp only [SimV, renV] at h ⊢
    rw [h1, h2, hb]
    refine h.imp_right fun ⟨b, o, cap, cur, e, fz, k1, k2, k3, k4, k5, k6, k7⟩ => ⟨b, o, cap, cur, e, fz, k1, k2, k3, k4, k5, k6, ?_⟩
    exact SimL.mono _ _ _ _ ⟨fun b hb => ⟨by rw [show C.out.ro = C.ro from rfl, h2]; exact hb, by show C.heap[b]? = D.heap[b]?; rw [h1]⟩, by show C.base ≤ D.base; omega, fun e => by simp [Ctx.out] at e, fun e => by simp [Ctx.out] at e, fun e => by simp [Ctx.out] at e⟩ k7
  | .rp cs, y, _, h => by
    simp only [SimV, renV] at h ⊢
    rw [h1, h2]
    obtain ⟨b, o, cur, e, fz, k1, k2, k3, k4⟩ := h
    refine ⟨b, o, cur, e, fz, k1, k2, k3, ?_⟩
    exact SimL.mono _ _ _ _ ⟨fun b hb => ⟨by rw [show C.out.ro = C.ro from rfl, h2]; exact hb, by show C.heap[b]? = D.heap[b]?; rw [h1]⟩, by show C.base ≤ D.base; omega, fun e => by simp [Ctx.out] at e, fun e => by simp [Ctx.out] at e, fun e => by simp [Ctx.out] at e⟩ k4
  | .sl r z off n, y, hr, h => by
    simp only [SimV, renV, refsV] at h hr ⊢
    obtain ⟨k1, k2, k3⟩ := h
    refine ⟨h3.trans k1, hr, ?_⟩
    rw [h4 r hr, h1]
    exact k3
  | .pt r off, y, hr, h => by
    simp only [SimV, renV, refsV] at h hr ⊢
    obtain ⟨k1, k2, b, k3, k4⟩ := h
    exact ⟨h3.trans k1, hr, b, by rw [h4 r hr]; exact k3, by rw [h1]; exact k4⟩
  | .mp r, y, hr, h => by
    simp only [SimV, renV, refsV] at h hr ⊢
    obtain ⟨k1, k2, b, k3, k4⟩ := h
    exact ⟨h3.trans k1, hr, b, by rw [h4 r hr]; exact k3, k4⟩
  | .itr r, y, hr, h => by
    simp only [SimV, renV, refsV] at h hr ⊢
    obtain ⟨k1, k2, b, k3, k4⟩ := h
    exact ⟨h3.trans k1, hr, b, by rw [h4 r hr]; exact k3, k4⟩
  | .ob o, y, _, h => by simp [SimV, renV] at h
  | .fn g l k, y, hr, h => by
    simp only [SimV, renV, refsV] at h hr ⊢
    obtain ⟨a, b, k1, k2, k3, k4⟩ := h
    rw [renL_map, List.length_map] at k3
    exact ⟨a, b, k1, k2, k3, simL_ren f C D h1 h2 hb h3 h4 l _ hr k4⟩
  | .fu z cs n, y, _, h => by
    simp only [SimV, renV] at h ⊢
    rw [h1, h2]
    refine h.imp_right fun ⟨b, o, cur, e, fz, k1, k2, k3, k4, k5⟩ => ⟨b, o, cur, e, fz, k1, k2, k3, k4, ?_⟩
    exact SimL.mono _ _ _ _ ⟨fun b hb => ⟨by rw [show C.out.ro = C.ro from rfl, h2]; exact hb, by show C.heap[b]? = D.heap[b]?; rw [h1]⟩, by show C.base ≤ D.base; omega, fun e => by simp [Ctx.out] at e, fun e => by simp [Ctx.out] at e, fun e => by simp [Ctx.out] at e⟩ k5
  | .mit r m bm es ck, y, hr, h => by
    simp only [SimV, renV, refsV, Bool.and_eq_true] at h hr ⊢
    obtain ⟨k1, k2, ⟨b, k3, k4⟩, k5⟩ := h
    refine ⟨h3.trans k1, hr.1, ⟨b, by rw [h4 r hr.1]; exact k3, k4⟩, ?_⟩
    rcases k5 with ⟨q, hq, k6, k7⟩ | ⟨hm, k6, k7⟩
    · obtain ⟨q0, rfl, rfl⟩ := Option.map_eq_some_iff.1 hq
      have hl : C.live q0 = true := by simpa using hr.2
      exact .inl ⟨q0, rfl, hl, by rw [h4 q0 hl]; exact k7⟩
    · exact .inr ⟨by simpa using hm, by rw [h2]; exact k6, by rw [h1]; exact k7⟩
  | .rmp fr es clock, y, _, h => by
    simp only [SimV, renV] at h ⊢
    obtain ⟨b, k1, k2, k3, k4⟩ := h
    exact ⟨b, k1, by rw [h1]; exact k2, by rw [h2]; exact k3, fun e => by rw [hb]; exact k4 e⟩
  | .agg l, y, hr, h => by
    simp only [SimV, renV, refsV] at h hr ⊢
    obtain ⟨a, k1, k2, k3⟩ := h
    rw [renL_map, List.length_map] at k2
    exact ⟨a, k1, k2, simL_ren f C D h1 h2 hb h3 h4 l _ hr k3⟩
  | .tup l, y, hr, h => by
    simp only [SimV, renV, refsV] at h hr ⊢
    obtain ⟨a, k1, k2, k3⟩ := h
    rw [renL_map, List.length_map] at k2
    exact ⟨a, k1, k2, simL_ren f C D h1 h2 hb h3 h4 l _ hr k3⟩
theorem simL_ren (f : Nat → Nat) (C D : Ctx) (h1 : C.heap = D.heap) (h2 : C.ro = D.ro) (hb : C.base = D.base) (h3 : C.loc = D.loc) (h4 : ∀ r, C.live r = true → C.phi r = D.phi (f r)) :
    ∀ (l : List AV) (ys : List Value), refsL C.live l = true → SimL (renL f l) D ys → SimL l C ys
  | [], _, _, _ => by simp [SimL]
  | _ :: _, [], _, h => by simp [SimL, renL] at h
  | a :: l, y :: ys, hr, h => by
    simp only [SimL, renL, refsL, Bool.and_eq_true] at h hr ⊢
    exact ⟨simV_ren f C D h1 h2 hb h3 h4 a y hr.1 h.1, simL_ren f C D h1 h2 hb h3 h4 l ys hr.2 h.2⟩
end
theorem simL_out_any (C D : Ctx) (h1 : C.heap = D.heap) (h2 : C.ro = D.ro) (hb : C.base = D.base) (l : List AV) (ys : List Value) (h : SimL l C.out ys) : SimL l D.out ys :=
  SimL.mono _ _ _ _ ⟨fun b hb' => ⟨by rw [show D.out.ro = D.ro from rfl, ← h2]; exact hb', by show D.heap[b]? = C.heap[b]?; rw [h1]⟩, by show D.base ≤ C.base; omega, fun e => by simp [Ctx.out] at e, fun e => by simp [Ctx.out] at e, fun e => by simp [Ctx.out] at e⟩ h
/-- A region's cells under other names; one whose cells lead nowhere may be told asx one whose cells may. -/
def cellsRen (f : Nat → Nat) (c c' : Bool × List AV) : Prop := (c'.1 = true ∧ c = (true, c'.2)) ∨ (c'.1 = false ∧ (c = (false, renL f c'.2) ∨ (c'.2 = [] ∧ c.2 = []) ∨ (c = (true, c'.2) ∧ c'.2.all plainV = true)))
/-- THE RULE OF FORGETTING: the state s' tells no more than s, under the names f. -/
theorem weak_ren {s s' : AS} (f : Nat → Nat) (htm : ∀ t, s'.tm t = .any ∨ s.tm t = renV f (s'.tm t)) (hhp : ∀ r c', s'.hp r = some c' → ∃ c, s.hp (f r) = some c ∧ cellsRen f c c')
    (hinj : ∀ r r', (s'.hp r).isSome = true → (s'.hp r').isSome = true → f r = f r' → r = r') (hpb : ∀ r, (s'.hp r).isSome = true → (r < pbase ∧ f r < pbase) ∨ (pbase ≤ r ∧ f r = r))
    (href : ∀ t, refsV (fun r => (s'.hp r).isSome) (s'.tm t) = true) (hrefh : ∀ r cs, s'.hp r = some (false, cs) → refsL (fun r => (s'.hp r).isSome) cs = true) : Weak s s' := by
  intro w0 mu N a w hS
  obtain ⟨hf, phi, ro, hS⟩ := hS
  have hlive : ∀ r, (s'.hp r).isSome = true → (s.hp (f r)).isSome = true := by
    intro r hr
    obtain ⟨c, hc⟩ := Option.isSome_iff_exists.1 hr
    obtain ⟨c0, h1, _⟩ := hhp r c hc
    rw [h1]; rfl
  refine ⟨hf, fun r => phi (f r), ro, { hS with
    inj := fun r r' b h1 h2 h3 h4 => hinj r r' h1 h2 (hS.inj _ _ b (hlive r h1) (hlive r' h2) h3 h4)
    liv := fun r c hc => ?_
    tms := fun t => ?_ }⟩
  · obtain ⟨c0, h1, h2⟩ := hhp r c hc
    have hp := hpb r (by rw [hc]; rfl)
    rcases hS.liv _ _ h1 with ⟨k1, k2, k3⟩ | ⟨b, cur, e, k1, k2, k3, k4, k5⟩ | ⟨b, o, rfl, k1, k2, k0, k3, k4⟩
    case inr.inr =>
      refine .inr (.inr ⟨b, o, ?_, k1, k2, k0, k3, ?_⟩)
      · obtain ⟨fl, cs⟩ := c
        rcases h2 with ⟨h3, h4⟩ | ⟨h3, h4⟩
        · simp only at h3 h4
          rw [h3]; exact h4.symm
        · simp only at h3
          rcases h4 with h4 | ⟨_, h4⟩ | ⟨h4, h5⟩
          · cases h4
          · simp at h4
          · simp only [Prod.mk.injEq, true_and] at h4
            rw [← h4] at h5
            simp [plainV] at h5
      · rcases hp with ⟨h3, h4⟩ | ⟨h3, h4⟩
        · rcases k4 with k4 | k4
          · exact .inl ⟨h3, k4.2⟩
          · omega
        · rcases k4 with k4 | k4
          · omega
          · exact .inr ⟨h3, by rw [← h4]; exact k4.2⟩
    · refine .inl ⟨k1, ?_, fun hge => ?_⟩
      · rcases h2 with ⟨_, rfl⟩ | ⟨_, rfl | ⟨h3, _⟩ | ⟨rfl, _⟩⟩
        · exact k2
        · simp only [renL_map] at k2
          exact List.map_eq_nil_iff.1 k2
        · exact h3
        · exact k2
      · rcases hp with ⟨h3, _⟩ | ⟨_, h3⟩
        · omega
        · rw [h3] at k3; exact k3 hge
    · refine .inr (.inl ⟨b, cur, e, k1, k2, k3, ?_, ?_⟩)
      · rcases hp with ⟨h3, h4⟩ | ⟨h3, h4⟩
        · rcases k4 with k4 | k4
          · exact .inl ⟨h3, k4.2⟩
          · omega
        · rcases k4 with k4 | k4
          · omega
          · exact .inr ⟨h3, by rw [← h4]; exact k4.2⟩
      · obtain ⟨fl, cs⟩ := c
        rcases h2 with ⟨h3, h4⟩ | ⟨h3, h4⟩
        · simp only at h3 h4
          subst h3; subst h4
          simp only [SimR, if_true] at k5 ⊢
          exact simL_out_any (ctx w0 w ro phi s) (ctx w0 w ro (fun r => phi (f r)) s') rfl rfl rfl _ _ k5
        · simp only at h3 h4
          subst h3
          simp only [SimR, Bool.false_eq_true, if_false]
          rcases h4 with rfl | ⟨h5, h6⟩ | ⟨rfl, h5⟩
          · simp only [SimR, Bool.false_eq_true, if_false] at k5
            exact simL_ren f (ctx w0 w ro (fun r => phi (f r)) s') (ctx w0 w ro phi s) rfl rfl rfl rfl (fun _ _ => rfl) cs _ (hrefh r cs hc) k5
          · rw [h5]; simp [SimL]
          · simp only [SimR, if_true] at k5
            exact simL_allv h5 k5
  · rcases htm t with h1 | h1
    · rw [h1]; simp [SimV]
    · have h2 := hS.tms t
      rw [h1] at h2
      exact simV_ren f (ctx w0 w ro (fun r => phi (f r)) s') (ctx w0 w ro phi s) rfl rfl rfl rfl (fun _ _ => rfl) _ _ (href t) h2
/-- The rows of a matrix, seen from the outer slice: regions b, b + 1, .. -/
def rowsC (b : Nat) : List (List Int) → List AV
  | [] => []
  | l :: rs => .sl b 1 0 l.length :: rowsC (b + 1) rs
theorem rowsC_refs (keep : Nat → Bool) (b : Nat) (rows : List (List Int)) (h : ∀ j, j < rows.length → keep (b + j) = true) : refsL keep (rowsC b rows) = true := by
  induction rows generalizing b with
  | nil => rfl
  | cons l rs ih =>
    simp only [rowsC, refsL, refsV, Bool.and_eq_true]
    refine ⟨by have := h 0 (by simp); simpa using this, ih (b + 1) fun j hj => ?_⟩
    have := h (j + 1) (by simpa using hj)
    rw [show b + 1 + j = b + (j + 1) by omega]; exact this
theorem rowsC_own (b : Nat) (rows : List (List Int)) (q : Bool) : ownL q (rowsC b rows) = true := by
  induction rows generalizing b with
  | nil => rfl
  | cons l rs ih => simp only [rowsC, ownL, ownV, Bool.true_and]; exact ih _
/-- Regions: those of h, and the rows. -/
def famH (h : Hp) (b : Nat) (rows : List (List Int)) : Hp := fun r => match h r with
  | some c => some c
  | none => if b ≤ r ∧ r < b + rows.length then some (true, (rows.getD (r - b) []).map AV.i) else none
theorem famH_row {h : Hp} {b : Nat} {rows : List (List Int)} {j : Nat} (hn : h (b + j) = none) (hj : j < rows.length) : famH h b rows (b + j) = some (true, (rows.getD j []).map AV.i) := by
  unfold famH
  rw [hn]
  simp only
  rw [if_pos ⟨by omega, by omega⟩, Nat.add_sub_cancel_left]
theorem famH_some {h : Hp} {b : Nat} {rows : List (List Int)} {r : Nat} {c : Bool × List AV} (e : famH h b rows r = some c) : h r = some c ∨ (h r = none ∧ ∃ j, j < rows.length ∧ r = b + j ∧ c = (true, (rows.getD j []).map AV.i)) := by
  unfold famH at e
  cases hr : h r with
  | some c' => rw [hr] at e; exact .inl e
  | none =>
    rw [hr] at e
    simp only at e
    split at e
    · rename_i hh
      cases e
      exact .inr ⟨rfl, r - b, by omega, by omega, rfl⟩
    · cases e
theorem look_mem {β : Type} {l : List (Nat × β)} {t : Nat} {x : β} (h : look l t = some x) : (t, x) ∈ l := by
  induction l with
  | nil => simp [look] at h
  | cons p l ih =>
    obtain ⟨k, y⟩ := p
    simp only [look] at h
    split at h
    · rename_i e; subst e; cases h; exact List.mem_cons_self ..
    · exact List.mem_cons_of_mem _ (ih h)
def HasF (s : AS) (f : Nat → Nat) : List (Nat × AV) → Prop
  | [] => True
  | (t, x) :: l => s.tm t = renV f x ∧ HasF s f l
theorem look_hasF {s : AS} {f : Nat → Nat} : ∀ {l : List (Nat × AV)} {t : Nat} {x : AV}, HasF s f l → look l t = some x → s.tm t = renV f x
  | [], _, _, _, h => by simp [look] at h
  | (k, y) :: l, t, x, h, e => by
    simp only [look] at e
    split at e
    · rename_i hk; subst hk; cases e; exact h.1
    · exact look_hasF h.2 e
end Go.Am
namespace Go.Am
variable [Go.Am.CodeBlk]
variable {P : Program} {own : Bool} {N : Nat} {s : AS} {K : AS → Prop} {d : Option Nat}
def nbase : Nat := 8000000
/-- A matrix asx regions: the outer slice in r0, its rows in b, b + 1, .. -/
def matH (r0 b : Nat) (rows : List (List Int)) : Hp := famH (fun r => if r = r0 then some (false, rowsC b rows) else none) b rows
theorem matH_some {r0 b r : Nat} {rows : List (List Int)} {c : Bool × List AV} (h : matH r0 b rows r = some c) : (r = r0 ∧ c = (false, rowsC b rows)) ∨ ∃ j, j < rows.length ∧ r = b + j ∧ c = (true, (rows.getD j []).map AV.i) := by
  rcases famH_some h with h1 | ⟨_, h1⟩
  · split at h1
    · rename_i e; cases h1; exact .inl ⟨e, rfl⟩
    · cases h1
  · exact .inr h1
theorem matH_outer (r0 b : Nat) (rows : List (List Int)) : matH r0 b rows r0 = some (false, rowsC b rows) := by simp [matH, famH]
theorem matH_row {r0 b : Nat} {rows : List (List Int)} {j : Nat} (h : r0 < b) (hj : j < rows.length) : matH r0 b rows (b + j) = some (true, (rows.getD j []).map AV.i) :=
  famH_row (by have : ¬ b + j = r0 := by omega
               simp [this]) hj
theorem renL_ints (f : Nat → Nat) (l : List Int) : renL f (l.map AV.i) = l.map AV.i := by
  induction l with
  | nil => rfl
  | cons x l ih => simp only [List.map_cons, renL, renV, ih]
theorem ownL_ints (q : Bool) (l : List Int) : ownL q (l.map AV.i) = true := by
  induction l with
  | nil => rfl
  | cons x l ih => simp only [List.map_cons, ownL, ownV, ih, Bool.and_self]
theorem refsL_ints (keep : Nat → Bool) (l : List Int) : refsL keep (l.map AV.i) = true := by
  induction l with
  | nil => rfl
  | cons x l ih => simp only [List.map_cons, refsL, refsV, ih, Bool.and_self]
theorem matH_own {r0 b : Nat} {rows : List (List Int)} (h : r0 < b) (r : Nat) (c : Bool × List AV) (hc : matH r0 b rows r = some c) : ownL false c.2 = true ∧ refsL (fun r => (matH r0 b rows r).isSome) c.2 = true := by
  rcases matH_some hc with ⟨rfl, rfl⟩ | ⟨j, hj, rfl, rfl⟩
  · exact ⟨rowsC_own _ _ _, rowsC_refs _ _ _ fun j hj => by rw [matH_row h hj]; rfl⟩
  · exact ⟨ownL_ints _ _, refsL_ints _ _⟩
abbrev matO (rows : List (List Int)) : Hp := matH nbase (nbase + 1) rows
theorem static_mat1 (rows : List (List Int)) : Static (fun _ => none) (.sl nbase 1 0 rows.length) (matO rows) :=
  ⟨fun r h => by simp at h, matH_own (by omega), by simp [ownV], by simp [refsV, matO, matH_outer]⟩
theorem static_mat2 (rows : List (List Int)) (x : Value) : Static (fun _ => none) (.tup [.sl nbase 1 0 rows.length, .v x]) (matO rows) :=
  ⟨fun r h => by simp at h, matH_own (by omega), by simp [ownV, ownL], by simp [refsV, refsL, matO, matH_outer]⟩
end Go.Am
namespace Go.Am
variable [Go.Am.CodeBlk]
variable {P : Program} {own : Bool} {N : Nat} {s : AS} {K : AS → Prop} {d : Option Nat}
/-- A region told otherwise, its block being what it was. -/
theorem weak_recell {s : AS} {r : Nat} {c c' : Bool × List AV} (hr : s.hp r = some c) (hne : c.2 ≠ []) (hno : ∀ o, c ≠ (true, [.ob o]))
    (h : ∀ (w0 : World) (mu : Nat → Option Nat) (N : Nat) (tm : Array Value) (w : World) (phi : Nat → Option Nat) (ro : Nat → Prop) (cur : Array Value), Sim w0 mu N s tm w phi ro → SimR c (ctx w0 w ro phi s) cur.toList → SimR c' (ctx w0 w ro phi s) cur.toList) : Weak s (s.mem r c') := by
  intro w0 mu N a w hS
  obtain ⟨hf, phi, ro, hS⟩ := hS
  rcases hS.liv r c hr with ⟨_, h2, _⟩ | ⟨b, cur, e, h1, h2, h3, h4, h5⟩ | ⟨b, o, h0, _⟩
  · exact absurd h2 hne
  case inr.inr => exact absurd h0 (hno o)
  · exact ⟨hf, phi, ro, hS.write hr h1 h2 h2 rfl (fun _ _ _ => rfl) rfl rfl rfl (Nat.le_refl _) (h w0 mu N a.tmps w phi ro cur hS h5)⟩
/-- Plain cells may be told asx cells that may lead to regions. -/
theorem weak_deep {r : Nat} {cs : List AV} (hr : s.hp r = some (true, cs)) (hne : cs ≠ []) (hpl : cs.all plainV = true) : Weak s (s.mem r (false, cs)) := by
  refine weak_recell hr hne (fun o h => by cases h; simp [plainV] at hpl) fun w0 mu N tm w phi ro cur _ h => ?_
  simp only [SimR, if_true, Bool.false_eq_true, if_false] at h ⊢
  exact simL_allv hpl h
end Go.Am
namespace Go.Am
variable [Go.Am.CodeBlk]
variable {s : AS}
theorem mem_self {r : Nat} {c : Bool × List AV} (hr : s.hp r = some c) : s.mem r c = s := by
  obtain ⟨tm, hp⟩ := s
  simp only [AS.mem, AS.mk.injEq, true_and]
  funext q
  by_cases h : q = r
  · subst h; simp only [if_true]; exact hr.symm
  · simp [h]
/-- A region's last cells are forgotten. -/
theorem weak_shrink (r n : Nat) {cs : List AV} (hr : s.hp r = some (true, cs)) (hpl : cs.all plainV = true) : Weak s (s.mem r (true, cs.take n)) := by
  intro w0 mu N a w hS
  obtain ⟨hf, phi, ro, hS⟩ := hS
  rcases hS.liv r _ hr with ⟨_, h2, _⟩ | ⟨b, cur, e, h1, h2, h3, h4, h5⟩ | ⟨b, o, h0, _⟩
  · simp only at h2
    subst h2
    rw [List.take_nil, mem_self hr]
    exact ⟨hf, phi, ro, hS⟩
  · refine ⟨hf, _, ro, hS.write hr h1 h2 h2 rfl (fun _ _ _ => rfl) rfl rfl rfl (Nat.le_refl _) ?_⟩
    simp only [SimR, if_true] at h5 ⊢
    exact h5.take n
  · cases h0
    simp [plainV] at hpl
end Go.Am
