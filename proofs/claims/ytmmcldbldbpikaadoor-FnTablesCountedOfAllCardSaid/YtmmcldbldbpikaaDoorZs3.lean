/- The abstract machine, contracts: part 3 of what this claim needs. -/
import Derived.Test.YtmmcldbldbpikaaDoorZs2
namespace Go.Proofs.YtmmcldbldbpikaaDoor
open Go.Am
def ac3 : ACode := (.seq (.ops [⟨(some 8), (.mov (.c (.bool false))), none⟩]) (.seq (.seq (.ops [⟨(some 65), (.mov (.t 3)), none⟩, ⟨(some 66), (.len (.t 65)), none⟩, ⟨(some 67), (.bin .gtr (.t 66) (.c (.int .i64 10000))), none⟩]) (.cond (.t 67) (.seq (.ops [⟨(some 8), (.mov (.c (.bool true))), none⟩]) .ret) .skip)) (.seq (.ops [⟨(some 69), (.mov (.t 0)), none⟩, ⟨(some 70), (.mov (.t 1)), none⟩, ⟨(some 71), (.call 4 [(.t 69), (.t 70)]), none⟩, ⟨(some 68), (.mov (.t 71)), none⟩, ⟨(some 72), (.ext (.t 68) 0), none⟩, ⟨(some 73), (.ext (.t 68) 1), none⟩, ⟨(some 9), (.mov (.t 72)), none⟩, ⟨(some 10), (.mov (.t 73)), none⟩]) (.seq (.ops [⟨(some 75), (.mov (.t 0)), none⟩, ⟨(some 76), (.mov (.t 1)), none⟩, ⟨(some 77), (.call 5 [(.t 75), (.t 76)]), none⟩, ⟨(some 74), (.mov (.t 77)), none⟩, ⟨(some 78), (.ext (.t 74) 0), none⟩, ⟨(some 79), (.ext (.t 74) 1), none⟩, ⟨(some 11), (.mov (.t 78)), none⟩, ⟨(some 12), (.mov (.t 79)), none⟩]) (.seq (.ops [⟨(some 81), (.mov (.t 0)), none⟩, ⟨(some 82), (.mov (.t 1)), none⟩, ⟨(some 83), (.call 6 [(.t 81), (.t 82)]), none⟩, ⟨(some 80), (.mov (.t 83)), none⟩, ⟨(some 84), (.ext (.t 80) 0), none⟩, ⟨(some 85), (.ext (.t 80) 1), none⟩, ⟨(some 13), (.mov (.t 84)), none⟩, ⟨(some 14), (.mov (.t 85)), none⟩]) (.seq (.ops [⟨(some 87), (.mov (.t 0)), none⟩, ⟨(some 88), (.mov (.t 1)), none⟩, ⟨(some 89), (.call 7 [(.t 87), (.t 88)]), none⟩, ⟨(some 86), (.mov (.t 89)), none⟩, ⟨(some 90), (.ext (.t 86) 0), none⟩, ⟨(some 91), (.ext (.t 86) 1), none⟩, ⟨(some 15), (.mov (.t 90)), none⟩, ⟨(some 16), (.mov (.t 91)), none⟩]) (.seq (.ops [⟨(some 93), (.mov (.t 0)), none⟩, ⟨(some 94), (.mov (.t 1)), none⟩, ⟨(some 95), (.call 8 [(.t 93), (.t 94)]), none⟩, ⟨(some 92), (.mov (.t 95)), none⟩, ⟨(some 96), (.ext (.t 92) 0), none⟩, ⟨(some 97), (.ext (.t 92) 1), none⟩, ⟨(some 17), (.mov (.t 96)), none⟩, ⟨(some 18), (.mov (.t 97)), none⟩]) (.seq (.ops [⟨(some 99), (.mov (.t 0)), none⟩, ⟨(some 100), (.mov (.t 1)), none⟩, ⟨(some 101), (.call 9 [(.t 99), (.t 100)]), none⟩, ⟨(some 98), (.mov (.t 101)), none⟩, ⟨(some 102), (.ext (.t 98) 0), none⟩, ⟨(some 103), (.ext (.t 98) 1), none⟩, ⟨(some 19), (.mov (.t 102)), none⟩, ⟨(some 20), (.mov (.t 103)), none⟩]) (.seq (.seq (.ops [⟨(some 104), (.mov (.t 10)), none⟩, ⟨(some 105), (.mov (.t 12)), none⟩, ⟨(some 106), (.beq true (.t 104) (.t 105)), none⟩, ⟨(some 107), (.mov (.t 106)), none⟩, ⟨(some 108), (.mov (.t 9)), (some (107, false))⟩, ⟨(some 109), (.mov (.t 11)), (some (107, false))⟩, ⟨(some 110), (.bin .neq (.t 108) (.t 109)), (some (107, false))⟩, ⟨(some 111), (.pick (.t 107) (.c (.bool true)) (.t 110)), none⟩, ⟨(some 112), (.mov (.t 111)), none⟩, ⟨(some 113), (.mov (.t 14)), (some (112, false))⟩, ⟨(some 114), (.mov (.t 16)), (some (112, false))⟩, ⟨(some 115), (.beq true (.t 113) (.t 114)), (some (112, false))⟩, ⟨(some 116), (.pick (.t 112) (.c (.bool true)) (.t 115)), none⟩, ⟨(some 117), (.mov (.t 116)), none⟩, ⟨(some 118), (.mov (.t 13)), (some (117, false))⟩, ⟨(some 119), (.mov (.t 15)), (some (117, false))⟩, ⟨(some 120), (.bin .neq (.t 118) (.t 119)), (some (117, false))⟩, ⟨(some 121), (.pick (.t 117) (.c (.bool true)) (.t 120)), none⟩, ⟨(some 122), (.mov (.t 121)), none⟩, ⟨(some 123), (.mov (.t 18)), (some (122, false))⟩, ⟨(some 124), (.mov (.t 20)), (some (122, false))⟩, ⟨(some 125), (.beq true (.t 123) (.t 124)), (some (122, false))⟩, ⟨(some 126), (.pick (.t 122) (.c (.bool true)) (.t 125)), none⟩, ⟨(some 127), (.mov (.t 126)), none⟩, ⟨(some 128), (.mov (.t 17)), (some (127, false))⟩, ⟨(some 129), (.mov (.t 19)), (some (127, false))⟩, ⟨(some 130), (.bin .neq (.t 128) (.t 129)), (some (127, false))⟩, ⟨(some 131), (.pick (.t 127) (.c (.bool true)) (.t 130)), none⟩, ⟨(some 132), (.mov (.t 131)), none⟩, ⟨(some 133), (.mov (.t 14)), (some (132, false))⟩, ⟨(some 134), (.mov (.t 10)), (some (132, false))⟩, ⟨(some 135), (.beq true (.t 133) (.t 134)), (some (132, false))⟩, ⟨(some 136), (.pick (.t 132) (.c (.bool true)) (.t 135)), none⟩, ⟨(some 137), (.mov (.t 136)), none⟩, ⟨(some 138), (.mov (.t 18)), (some (137, false))⟩, ⟨(some 139), (.mov (.t 10)), (some (137, false))⟩, ⟨(some 140), (.beq true (.t 138) (.t 139)), (some (137, false))⟩, ⟨(some 141), (.pick (.t 137) (.c (.bool true)) (.t 140)), none⟩, ⟨(some 142), (.mov (.t 141)), none⟩, ⟨(some 143), (.mov (.t 10)), (some (142, false))⟩, ⟨(some 144), (.mov (.t 143)), (some (142, false))⟩, ⟨(some 145), (.mov (.t 9)), (some (144, true))⟩, ⟨(some 146), (.bin .lss (.t 145) (.c (.int .i64 0))), (some (144, true))⟩, ⟨(some 147), (.mov (.t 146)), (some (144, true))⟩, ⟨(some 148), (.mov (.t 13)), (some (147, false))⟩, ⟨(some 149), (.bin .lss (.t 148) (.c (.int .i64 0))), (some (147, false))⟩, ⟨(some 150), (.pick (.t 147) (.c (.bool true)) (.t 149)), (some (144, true))⟩, ⟨(some 151), (.mov (.t 150)), (some (144, true))⟩, ⟨(some 152), (.mov (.t 17)), (some (151, false))⟩, ⟨(some 153), (.bin .lss (.t 152) (.c (.int .i64 0))), (some (151, false))⟩, ⟨(some 154), (.pick (.t 151) (.c (.bool true)) (.t 153)), (some (144, true))⟩, ⟨(some 155), (.mov (.t 154)), (some (144, true))⟩, ⟨(some 156), (.mov (.t 17)), (some (155, false))⟩, ⟨(some 157), (.mov (.t 9)), (some (155, false))⟩, ⟨(some 158), (.bin .gtr (.t 156) (.t 157)), (some (155, false))⟩, ⟨(some 159), (.pick (.t 155) (.c (.bool true)) (.t 158)), (some (144, true))⟩, ⟨(some 160), (.pick (.t 144) (.t 159) (.c (.bool false))), (some (142, false))⟩, ⟨(some 161), (.pick (.t 142) (.c (.bool true)) (.t 160)), none⟩]) (.cond (.t 161) (.seq (.ops [⟨(some 8), (.mov (.c (.bool false))), none⟩]) .ret) .skip)) (.seq (.ops [⟨(some 163), (.mov (.t 2)), none⟩, ⟨(some 164), (.call 10 [(.t 163)]), none⟩, ⟨(some 162), (.mov (.t 164)), none⟩, ⟨(some 165), (.ext (.t 162) 0), none⟩, ⟨(some 166), (.ext (.t 162) 1), none⟩, ⟨(some 21), (.mov (.t 165)), none⟩, ⟨(some 22), (.mov (.t 166)), none⟩]) (.seq (.ops [⟨(some 168), (.mov (.t 2)), none⟩, ⟨(some 169), (.call 11 [(.t 168)]), none⟩, ⟨(some 167), (.mov (.t 169)), none⟩, ⟨(some 170), (.ext (.t 167) 0), none⟩, ⟨(some 171), (.ext (.t 167) 1), none⟩, ⟨(some 23), (.mov (.t 170)), none⟩, ⟨(some 24), (.mov (.t 171)), none⟩]) (.seq (.ops [⟨(some 173), (.mov (.t 2)), none⟩, ⟨(some 174), (.call 12 [(.t 173)]), none⟩, ⟨(some 172), (.mov (.t 174)), none⟩, ⟨(some 175), (.ext (.t 172) 0), none⟩, ⟨(some 176), (.ext (.t 172) 1), none⟩, ⟨(some 25), (.mov (.t 175)), none⟩, ⟨(some 26), (.mov (.t 176)), none⟩]) (.seq (.ops [⟨(some 178), (.mov (.t 2)), none⟩, ⟨(some 179), (.call 13 [(.t 178)]), none⟩, ⟨(some 177), (.mov (.t 179)), none⟩, ⟨(some 180), (.ext (.t 177) 0), none⟩, ⟨(some 181), (.ext (.t 177) 1), none⟩, ⟨(some 27), (.mov (.t 180)), none⟩, ⟨(some 28), (.mov (.t 181)), none⟩]) (.seq (.ops [⟨(some 183), (.mov (.t 2)), none⟩, ⟨(some 184), (.call 14 [(.t 183)]), none⟩, ⟨(some 182), (.mov (.t 184)), none⟩, ⟨(some 185), (.ext (.t 182) 0), none⟩, ⟨(some 186), (.ext (.t 182) 1), none⟩, ⟨(some 187), (.ext (.t 182) 2), none⟩, ⟨(some 29), (.mov (.t 185)), none⟩, ⟨(some 30), (.mov (.t 186)), none⟩, ⟨(some 31), (.mov (.t 187)), none⟩]) (.seq (.ops [⟨(some 189), (.mov (.t 2)), none⟩, ⟨(some 190), (.call 15 [(.t 189)]), none⟩, ⟨(some 188), (.mov (.t 190)), none⟩, ⟨(some 191), (.ext (.t 188) 0), none⟩, ⟨(some 192), (.ext (.t 188) 1), none⟩, ⟨(some 193), (.ext (.t 188) 2), none⟩, ⟨(some 32), (.mov (.t 191)), none⟩, ⟨(some 33), (.mov (.t 192)), none⟩, ⟨(some 34), (.mov (.t 193)), none⟩]) (.seq (.ops [⟨(some 195), (.mov (.t 2)), none⟩, ⟨(some 196), (.call 16 [(.t 195)]), none⟩, ⟨(some 194), (.mov (.t 196)), none⟩, ⟨(some 197), (.ext (.t 194) 0), none⟩, ⟨(some 198), (.ext (.t 194) 1), none⟩, ⟨(some 35), (.mov (.t 197)), none⟩, ⟨(some 36), (.mov (.t 198)), none⟩]) (.seq (.ops [⟨(some 200), (.mov (.t 2)), none⟩, ⟨(some 201), (.call 17 [(.t 200)]), none⟩, ⟨(some 199), (.mov (.t 201)), none⟩, ⟨(some 202), (.ext (.t 199) 0), none⟩, ⟨(some 203), (.ext (.t 199) 1), none⟩, ⟨(some 37), (.mov (.t 202)), none⟩, ⟨(some 38), (.mov (.t 203)), none⟩]) (.seq (.ops [⟨(some 205), (.mov (.t 3)), none⟩, ⟨(some 206), (.call 18 [(.t 205)]), none⟩, ⟨(some 204), (.mov (.t 206)), none⟩, ⟨(some 207), (.ext (.t 204) 0), none⟩, ⟨(some 208), (.ext (.t 204) 1), none⟩, ⟨(some 39), (.mov (.t 207)), none⟩, ⟨(some 40), (.mov (.t 208)), none⟩]) (.seq (.ops [⟨(some 210), (.mov (.t 3)), none⟩, ⟨(some 211), (.call 19 [(.t 210)]), none⟩, ⟨(some 209), (.mov (.t 211)), none⟩, ⟨(some 212), (.ext (.t 209) 0), none⟩, ⟨(some 213), (.ext (.t 209) 1), none⟩, ⟨(some 41), (.mov (.t 212)), none⟩, ⟨(some 42), (.mov (.t 213)), none⟩]) (.seq (.seq (.ops [⟨(some 214), (.mov (.t 22)), none⟩, ⟨(some 215), (.mov (.t 24)), none⟩, ⟨(some 216), (.beq true (.t 214) (.t 215)), none⟩, ⟨(some 217), (.mov (.t 216)), none⟩, ⟨(some 218), (.mov (.t 21)), (some (217, false))⟩, ⟨(some 219), (.mov (.t 23)), (some (217, false))⟩, ⟨(some 220), (.bin .neq (.t 218) (.t 219)), (some (217, false))⟩, ⟨(some 221), (.pick (.t 217) (.c (.bool true)) (.t 220)), none⟩, ⟨(some 222), (.mov (.t 221)), none⟩, ⟨(some 223), (.mov (.t 26)), (some (222, false))⟩, ⟨(some 224), (.mov (.t 28)), (some (222, false))⟩, ⟨(some 225), (.beq true (.t 223) (.t 224)), (some (222, false))⟩, ⟨(some 226), (.pick (.t 222) (.c (.bool true)) (.t 225)), none⟩, ⟨(some 227), (.mov (.t 226)), none⟩, ⟨(some 228), (.mov (.t 25)), (some (227, false))⟩, ⟨(some 229), (.mov (.t 27)), (some (227, false))⟩, ⟨(some 230), (.bin .neq (.t 228) (.t 229)), (some (227, false))⟩, ⟨(some 231), (.pick (.t 227) (.c (.bool true)) (.t 230)), none⟩, ⟨(some 232), (.mov (.t 231)), none⟩, ⟨(some 233), (.mov (.t 31)), (some (232, false))⟩, ⟨(some 234), (.mov (.t 34)), (some (232, false))⟩, ⟨(some 235), (.beq true (.t 233) (.t 234)), (some (232, false))⟩, ⟨(some 236), (.pick (.t 232) (.c (.bool true)) (.t 235)), none⟩, ⟨(some 237), (.mov (.t 236)), none⟩, ⟨(some 238), (.mov (.t 29)), (some (237, false))⟩, ⟨(some 239), (.mov (.t 32)), (some (237, false))⟩, ⟨(some 240), (.bin .neq (.t 238) (.t 239)), (some (237, false))⟩, ⟨(some 241), (.pick (.t 237) (.c (.bool true)) (.t 240)), none⟩, ⟨(some 242), (.mov (.t 241)), none⟩, ⟨(some 243), (.mov (.t 30)), (some (242, false))⟩, ⟨(some 244), (.mov (.t 33)), (some (242, false))⟩, ⟨(some 245), (.bin .neq (.t 243) (.t 244)), (some (242, false))⟩, ⟨(some 246), (.pick (.t 242) (.c (.bool true)) (.t 245)), none⟩, ⟨(some 247), (.mov (.t 246)), none⟩, ⟨(some 248), (.mov (.t 36)), (some (247, false))⟩, ⟨(some 249), (.mov (.t 38)), (some (247, false))⟩, ⟨(some 250), (.beq true (.t 248) (.t 249)), (some (247, false))⟩, ⟨(some 251), (.pick (.t 247) (.c (.bool true)) (.t 250)), none⟩, ⟨(some 252), (.mov (.t 251)), none⟩, ⟨(some 253), (.mov (.t 35)), (some (252, false))⟩, ⟨(some 254), (.mov (.t 37)), (some (252, false))⟩, ⟨(some 255), (.call 20 [(.t 253), (.t 254)]), (some (252, false))⟩, ⟨(some 256), (.not (.t 255)), (some (252, false))⟩, ⟨(some 257), (.pick (.t 252) (.c (.bool true)) (.t 256)), none⟩, ⟨(some 258), (.mov (.t 257)), none⟩, ⟨(some 259), (.mov (.t 40)), (some (258, false))⟩, ⟨(some 260), (.mov (.t 42)), (some (258, false))⟩, ⟨(some 261), (.beq true (.t 259) (.t 260)), (some (258, false))⟩, ⟨(some 262), (.pick (.t 258) (.c (.bool true)) (.t 261)), none⟩, ⟨(some 263), (.mov (.t 262)), none⟩, ⟨(some 264), (.mov (.t 39)), (some (263, false))⟩, ⟨(some 265), (.mov (.t 41)), (some (263, false))⟩, ⟨(some 266), (.call 20 [(.t 264), (.t 265)]), (some (263, false))⟩, ⟨(some 267), (.not (.t 266)), (some (263, false))⟩, ⟨(some 268), (.pick (.t 263) (.c (.bool true)) (.t 267)), none⟩, ⟨(some 269), (.mov (.t 268)), none⟩, ⟨(some 270), (.mov (.t 26)), (some (269, false))⟩, ⟨(some 271), (.mov (.t 22)), (some (269, false))⟩, ⟨(some 272), (.beq true (.t 270) (.t 271)), (some (269, false))⟩, ⟨(some 273), (.pick (.t 269) (.c (.bool true)) (.t 272)), none⟩, ⟨(some 274), (.mov (.t 273)), none⟩, ⟨(some 275), (.mov (.t 31)), (some (274, false))⟩, ⟨(some 276), (.mov (.t 22)), (some (274, false))⟩, ⟨(some 277), (.beq true (.t 275) (.t 276)), (some (274, false))⟩, ⟨(some 278), (.pick (.t 274) (.c (.bool true)) (.t 277)), none⟩, ⟨(some 279), (.mov (.t 278)), none⟩, ⟨(some 280), (.mov (.t 36)), (some (279, false))⟩, ⟨(some 281), (.mov (.t 22)), (some (279, false))⟩, ⟨(some 282), (.mov (.t 281)), (some (279, false))⟩, ⟨(some 283), (.mov (.t 2)), (some (282, true))⟩, ⟨(some 284), (.bin .gtr (.t 283) (.c (.int .i64 1))), (some (282, true))⟩, ⟨(some 285), (.pick (.t 282) (.t 284) (.c (.bool false))), (some (279, false))⟩, ⟨(some 286), (.beq true (.t 280) (.t 285)), (some (279, false))⟩, ⟨(some 287), (.pick (.t 279) (.c (.bool true)) (.t 286)), none⟩]) (.cond (.t 287) (.seq (.ops [⟨(some 8), (.mov (.c (.bool false))), none⟩]) .ret) .skip)) (.seq (.seq (.ops [⟨(some 288), (.mov (.t 22)), none⟩]) (.cond (.t 288) (.seq (.ops [⟨(some 43), (.mov (.c (.int .i64 0))), none⟩, ⟨(some 44), (.mov (.c (.int .i64 0))), none⟩, ⟨(some 45), (.mov (.c (.int .i64 0))), none⟩, ⟨(some 46), (.mov (.c (.int .i64 1))), none⟩]) (.seq (.seq (.ops [⟨(some 47), (.mov (.c (.int .i64 0))), none⟩]) (.block 0 (.loop (.seq (.seq (.ops [⟨(some 289), (.mov (.t 47)), none⟩, ⟨(some 290), (.mov (.t 2)), none⟩, ⟨(some 291), (.bin .leq (.t 289) (.t 290)), none⟩]) (.cond (.t 291) .skip (.exit 0))) (.seq (.block 1 (.seq (.ops [⟨(some 295), (.mov (.t 2)), none⟩, ⟨(some 296), (.mov (.t 47)), none⟩, ⟨(some 297), (.call 4 [(.t 295), (.t 296)]), none⟩, ⟨(some 294), (.mov (.t 297)), none⟩, ⟨(some 298), (.ext (.t 294) 0), none⟩, ⟨(some 299), (.ext (.t 294) 1), none⟩, ⟨(some 48), (.mov (.t 298)), none⟩, ⟨(some 49), (.mov (.t 299)), none⟩]) (.seq (.ops [⟨(some 301), (.mov (.t 2)), none⟩, ⟨(some 302), (.mov (.t 47)), none⟩, ⟨(some 303), (.call 6 [(.t 301), (.t 302)]), none⟩, ⟨(some 300), (.mov (.t 303)), none⟩, ⟨(some 304), (.ext (.t 300) 0), none⟩, ⟨(some 305), (.ext (.t 300) 1), none⟩, ⟨(some 50), (.mov (.t 304)), none⟩, ⟨(some 51), (.mov (.t 305)), none⟩]) (.seq (.ops [⟨(some 307), (.mov (.t 2)), none⟩, ⟨(some 308), (.mov (.t 47)), none⟩, ⟨(some 309), (.call 8 [(.t 307), (.t 308)]), none⟩, ⟨(some 306), (.mov (.t 309)), none⟩, ⟨(some 310), (.ext (.t 306) 0), none⟩, ⟨(some 311), (.ext (.t 306) 1), none⟩, ⟨(some 52), (.mov (.t 310)), none⟩, ⟨(some 53), (.mov (.t 311)), none⟩]) (.seq (.seq (.ops [⟨(some 312), (.mov (.t 49)), none⟩, ⟨(some 313), (.not (.t 312)), none⟩, ⟨(some 314), (.mov (.t 313)), none⟩, ⟨(some 315), (.mov (.t 51)), (some (314, false))⟩, ⟨(some 316), (.not (.t 315)), (some (314, false))⟩, ⟨(some 317), (.pick (.t 314) (.c (.bool true)) (.t 316)), none⟩, ⟨(some 318), (.mov (.t 317)), none⟩, ⟨(some 319), (.mov (.t 53)), (some (318, false))⟩, ⟨(some 320), (.not (.t 319)), (some (318, false))⟩, ⟨(some 321), (.pick (.t 318) (.c (.bool true)) (.t 320)), none⟩, ⟨(some 322), (.mov (.t 321)), none⟩, ⟨(some 323), (.mov (.t 47)), (some (322, false))⟩, ⟨(some 324), (.bin .eql (.t 323) (.c (.int .i64 0))), (some (322, false))⟩, ⟨(some 325), (.mov (.t 324)), (some (322, false))⟩, ⟨(some 326), (.mov (.t 48)), (some (325, true))⟩, ⟨(some 327), (.mov (.t 30)), (some (325, true))⟩, ⟨(some 328), (.bin .mul (.t 326) (.t 327)), (some (325, true))⟩, ⟨(some 329), (.mov (.t 21)), (some (325, true))⟩, ⟨(some 330), (.mov (.t 29)), (some (325, true))⟩, ⟨(some 331), (.bin .mul (.t 329) (.t 330)), (some (325, true))⟩, ⟨(some 332), (.bin .neq (.t 328) (.t 331)), (some (325, true))⟩, ⟨(some 333), (.pick (.t 325) (.t 332) (.c (.bool false))), (some (322, false))⟩, ⟨(some 334), (.pick (.t 322) (.c (.bool true)) (.t 333)), none⟩]) (.cond (.t 334) (.seq (.ops [⟨(some 8), (.mov (.c (.bool false))), none⟩]) .ret) .skip)) (.seq (.ops [⟨(some 335), (.mov (.t 43)), none⟩, ⟨(some 336), (.mov (.t 48)), none⟩, ⟨(some 337), (.bin .add (.t 335) (.t 336)), none⟩, ⟨(some 43), (.mov (.t 337)), none⟩]) (.seq (.ops [⟨(some 338), (.mov (.t 44)), none⟩, ⟨(some 339), (.mov (.t 50)), none⟩, ⟨(some 340), (.bin .add (.t 338) (.t 339)), none⟩, ⟨(some 44), (.mov (.t 340)), none⟩]) (.ops [⟨(some 341), (.mov (.t 45)), none⟩, ⟨(some 342), (.mov (.t 52)), none⟩, ⟨(some 343), (.bin .add (.t 341) (.t 342)), none⟩, ⟨(some 45), (.mov (.t 343)), none⟩])))))))) (.ops [⟨(some 292), (.mov (.t 47)), none⟩, ⟨(some 293), (.bin .add (.t 292) (.c (.int .i64 1))), none⟩, ⟨(some 47), (.mov (.t 293)), none⟩])))))) (.seq (.seq (.ops [⟨(some 54), (.mov (.c (.int .i64 2))), none⟩]) (.block 2 (.loop (.seq (.seq (.ops [⟨(some 344), (.mov (.t 54)), none⟩, ⟨(some 345), (.mov (.t 2)), none⟩, ⟨(some 346), (.bin .mul (.c (.int .i64 2)) (.t 345)), none⟩, ⟨(some 347), (.bin .leq (.t 344) (.t 346)), none⟩]) (.cond (.t 347) .skip (.exit 2))) (.seq (.block 3 (.ops [⟨(some 350), (.mov (.t 46)), none⟩, ⟨(some 351), (.mov (.t 54)), none⟩, ⟨(some 352), (.bin .mul (.t 350) (.t 351)), none⟩, ⟨(some 46), (.mov (.t 352)), none⟩])) (.ops [⟨(some 348), (.mov (.t 54)), none⟩, ⟨(some 349), (.bin .add (.t 348) (.c (.int .i64 1))), none⟩, ⟨(some 54), (.mov (.t 349)), none⟩])))))) (.seq (.ops [⟨(some 353), (.mov (.t 43)), none⟩, ⟨(some 354), (.mov (.t 21)), none⟩, ⟨(some 355), (.bin .neq (.t 353) (.t 354)), none⟩, ⟨(some 356), (.mov (.t 355)), none⟩, ⟨(some 357), (.mov (.t 44)), (some (356, false))⟩, ⟨(some 358), (.mov (.t 46)), (some (356, false))⟩, ⟨(some 359), (.bin .neq (.t 357) (.t 358)), (some (356, false))⟩, ⟨(some 360), (.pick (.t 356) (.c (.bool true)) (.t 359)), none⟩, ⟨(some 361), (.mov (.t 360)), none⟩, ⟨(some 362), (.mov (.t 45)), (some (361, false))⟩, ⟨(some 363), (.mov (.t 25)), (some (361, false))⟩, ⟨(some 364), (.bin .neq (.t 362) (.t 363)), (some (361, false))⟩, ⟨(some 365), (.pick (.t 361) (.c (.bool true)) (.t 364)), none⟩, ⟨(some 366), (.mov (.t 365)), none⟩, ⟨(some 367), (.mov (.t 44)), (some (366, false))⟩, ⟨(some 368), (.mov (.t 2)), (some (366, false))⟩, ⟨(some 369), (.bin .mul (.c (.int .i64 2)) (.t 368)), (some (366, false))⟩, ⟨(some 370), (.mov (.t 21)), (some (366, false))⟩, ⟨(some 371), (.bin .mul (.t 369) (.t 370)), (some (366, false))⟩, ⟨(some 372), (.bin .neq (.t 367) (.t 371)), (some (366, false))⟩, ⟨(some 373), (.pick (.t 366) (.c (.bool true)) (.t 372)), none⟩]) (.cond (.t 373) (.seq (.ops [⟨(some 8), (.mov (.c (.bool false))), none⟩]) .ret) .skip))))) .skip)) (.seq (.seq (.ops [⟨(some 374), (.mov (.t 36)), none⟩]) (.cond (.t 374) (.seq (.ops [⟨(some 376), (.mov (.t 35)), none⟩, ⟨(some 377), (.call 21 [(.t 376)]), none⟩, ⟨(some 375), (.mov (.t 377)), none⟩, ⟨(some 378), (.ext (.t 375) 0), none⟩, ⟨(some 379), (.ext (.t 375) 1), none⟩, ⟨(some 55), (.mov (.t 378)), none⟩, ⟨(some 56), (.mov (.t 379)), none⟩]) (.seq (.ops [⟨(some 380), (.mov (.t 56)), none⟩, ⟨(some 381), (.not (.t 380)), none⟩, ⟨(some 382), (.mov (.t 381)), none⟩, ⟨(some 383), (.mov (.t 55)), (some (382, false))⟩, ⟨(some 384), (.len (.t 383)), (some (382, false))⟩, ⟨(some 385), (.bin .neq (.t 384) (.c (.int .i64 0))), (some (382, false))⟩, ⟨(some 386), (.pick (.t 382) (.c (.bool true)) (.t 385)), none⟩, ⟨(some 387), (.mov (.t 386)), none⟩, ⟨(some 388), (.mov (.t 35)), (some (387, false))⟩, ⟨(some 389), (.idx 1 (.t 388) (.c (.int .i64 0))), (some (387, false))⟩, ⟨(some 390), (.ld none (.t 389)), (some (387, false))⟩, ⟨(some 391), (.bin .neq (.t 390) (.c (.int .i64 0))), (some (387, false))⟩, ⟨(some 392), (.pick (.t 387) (.c (.bool true)) (.t 391)), none⟩]) (.cond (.t 392) (.seq (.ops [⟨(some 8), (.mov (.c (.bool false))), none⟩]) .ret) .skip))) .skip)) (.seq (.seq (.ops [⟨(some 393), (.mov (.t 40)), none⟩]) (.cond (.t 393) (.seq (.ops [⟨(some 395), (.mov (.t 39)), none⟩, ⟨(some 396), (.call 21 [(.t 395)]), none⟩, ⟨(some 394), (.mov (.t 396)), none⟩, ⟨(some 397), (.ext (.t 394) 0), none⟩, ⟨(some 398), (.ext (.t 394) 1), none⟩, ⟨(some 57), (.mov (.t 397)), none⟩, ⟨(some 58), (.mov (.t 398)), none⟩]) (.seq (.ops [⟨(some 399), (.mov (.t 58)), none⟩, ⟨(some 400), (.not (.t 399)), none⟩, ⟨(some 401), (.mov (.t 400)), none⟩, ⟨(some 402), (.mov (.t 57)), (some (401, false))⟩, ⟨(some 403), (.len (.t 402)), (some (401, false))⟩, ⟨(some 404), (.bin .neq (.t 403) (.c (.int .i64 0))), (some (401, false))⟩, ⟨(some 405), (.pick (.t 401) (.c (.bool true)) (.t 404)), none⟩, ⟨(some 406), (.mov (.t 405)), none⟩, ⟨(some 407), (.mov (.t 39)), (some (406, false))⟩, ⟨(some 408), (.idx 1 (.t 407) (.c (.int .i64 0))), (some (406, false))⟩, ⟨(some 409), (.ld none (.t 408)), (some (406, false))⟩, ⟨(some 410), (.bin .neq (.t 409) (.c (.int .i64 0))), (some (406, false))⟩, ⟨(some 411), (.pick (.t 406) (.c (.bool true)) (.t 410)), none⟩, ⟨(some 412), (.mov (.t 411)), none⟩, ⟨(some 413), (.mov (.t 3)), (some (412, false))⟩, ⟨(some 414), (.mov (.t 39)), (some (412, false))⟩, ⟨(some 415), (.call 22 [(.t 413), (.t 414)]), (some (412, false))⟩, ⟨(some 416), (.not (.t 415)), (some (412, false))⟩, ⟨(some 417), (.pick (.t 412) (.c (.bool true)) (.t 416)), none⟩]) (.cond (.t 417) (.seq (.ops [⟨(some 8), (.mov (.c (.bool false))), none⟩]) .ret) .skip))) .skip)) (.seq (.seq (.ops [⟨(some 418), (.mov (.t 36)), none⟩, ⟨(some 419), (.mov (.t 418)), none⟩, ⟨(some 420), (.mov (.t 2)), (some (419, true))⟩, ⟨(some 421), (.bin .lss (.t 420) (.c (.int .i64 4))), (some (419, true))⟩, ⟨(some 422), (.pick (.t 419) (.t 421) (.c (.bool false))), none⟩]) (.cond (.t 422) (.seq (.ops [⟨(some 423), (.mov (.t 35)), none⟩, ⟨(some 59), (.mov (.c (.int .i64 1))), none⟩, ⟨(some 60), (.mov (.t 423)), none⟩]) (.seq (.block 4 (.loop (.seq (.seq (.ops [⟨(some 424), (.mov (.t 59)), none⟩, ⟨(some 425), (.bin .lss (.t 424) (.c (.int .i64 200))), none⟩]) (.cond (.t 425) .skip (.exit 4))) (.block 5 (.seq (.ops [⟨(some 427), (.mov (.t 60)), none⟩, ⟨(some 428), (.call 18 [(.t 427)]), none⟩, ⟨(some 426), (.mov (.t 428)), none⟩, ⟨(some 429), (.ext (.t 426) 0), none⟩, ⟨(some 430), (.ext (.t 426) 1), none⟩, ⟨(some 61), (.mov (.t 429)), none⟩, ⟨(some 62), (.mov (.t 430)), none⟩]) (.seq (.seq (.ops [⟨(some 431), (.mov (.t 62)), none⟩, ⟨(some 432), (.not (.t 431)), none⟩]) (.cond (.t 432) (.exit 4) .skip)) (.seq (.ops [⟨(some 433), (.mov (.t 61)), none⟩, ⟨(some 60), (.mov (.t 433)), none⟩]) (.ops [⟨(some 434), (.mov (.t 59)), none⟩, ⟨(some 435), (.bin .add (.t 434) (.c (.int .i64 1))), none⟩, ⟨(some 59), (.mov (.t 435)), none⟩])))))))) (.seq (.ops [⟨(some 437), (.mov (.t 2)), none⟩, ⟨(some 438), (.call 4 [(.t 437), (.c (.int .i64 0))]), none⟩, ⟨(some 436), (.mov (.t 438)), none⟩, ⟨(some 439), (.ext (.t 436) 0), none⟩, ⟨(some 440), (.ext (.t 436) 1), none⟩, ⟨(some 63), (.mov (.t 439)), none⟩, ⟨(some 64), (.mov (.t 440)), none⟩]) (.seq (.ops [⟨(some 441), (.mov (.t 64)), none⟩, ⟨(some 442), (.mov (.t 441)), none⟩, ⟨(some 443), (.mov (.t 63)), (some (442, true))⟩, ⟨(some 444), (.mov (.t 59)), (some (442, true))⟩, ⟨(some 445), (.bin .eql (.t 443) (.t 444)), (some (442, true))⟩, ⟨(some 446), (.pick (.t 442) (.t 445) (.c (.bool false))), none⟩, ⟨(some 8), (.mov (.t 446)), none⟩]) .ret)))) .skip)) (.seq (.ops [⟨(some 8), (.mov (.c (.bool true))), none⟩]) .ret)))))))))))))))))))))))))
theorem cc3 : ccode Tryd.prog (min Tryd.f3.ntmps pbase) (Tryd.f3.body.getD .skip) = some ac3 := by kernel_rfl
def ac4 : ACode := (.seq (.ops [⟨(some 4), (.mov (.c (.int .i64 0))), none⟩, ⟨(some 5), (.mov (.c (.bool false))), none⟩]) (.seq (.seq (.ops [⟨(some 6), (.mov (.t 0)), none⟩, ⟨(some 7), (.mov (.t 1)), none⟩, ⟨(some 8), (.call 23 [(.t 6), (.t 7)]), none⟩, ⟨(some 9), (.not (.t 8)), none⟩]) (.cond (.t 9) (.seq (.ops [⟨(some 4), (.mov (.c (.int .i64 0))), none⟩, ⟨(some 5), (.mov (.c (.bool false))), none⟩]) .ret) .skip)) (.seq (.ops [⟨(some 10), (.mov (.t 0)), none⟩, ⟨(some 11), (.call 24 [(.t 10)]), none⟩, ⟨(some 12), (.mov (.t 1)), none⟩, ⟨(some 13), (.idx 1 (.t 11) (.t 12)), none⟩, ⟨(some 14), (.ld none (.t 13)), none⟩, ⟨(some 4), (.mov (.t 14)), none⟩, ⟨(some 5), (.mov (.c (.bool true))), none⟩]) .ret)))
theorem cc4 : ccode Tryd.prog (min Tryd.f4.ntmps pbase) (Tryd.f4.body.getD .skip) = some ac4 := by kernel_rfl
def ac5 : ACode := (.seq (.ops [⟨(some 4), (.mov (.c (.int .i64 0))), none⟩, ⟨(some 5), (.mov (.c (.bool false))), none⟩]) (.seq (.seq (.ops [⟨(some 6), (.mov (.t 0)), none⟩, ⟨(some 7), (.call 25 [(.t 6)]), none⟩, ⟨(some 8), (.not (.t 7)), none⟩, ⟨(some 9), (.mov (.t 8)), none⟩, ⟨(some 10), (.mov (.t 1)), (some (9, false))⟩, ⟨(some 11), (.mov (.t 0)), (some (9, false))⟩, ⟨(some 12), (.call 26 [(.t 10), (.c (.int .i64 0)), (.t 11)]), (some (9, false))⟩, ⟨(some 13), (.not (.t 12)), (some (9, false))⟩, ⟨(some 14), (.pick (.t 9) (.c (.bool true)) (.t 13)), none⟩]) (.cond (.t 14) (.seq (.ops [⟨(some 4), (.mov (.c (.int .i64 0))), none⟩, ⟨(some 5), (.mov (.c (.bool false))), none⟩]) .ret) .skip)) (.seq (.ops [⟨(some 15), (.mov (.t 0)), none⟩, ⟨(some 16), (.call 28 [(.t 15)]), none⟩, ⟨(some 17), (.mov (.t 1)), none⟩, ⟨(some 18), (.call 27 [(.t 16), (.t 17)]), none⟩, ⟨(some 4), (.mov (.t 18)), none⟩, ⟨(some 5), (.mov (.c (.bool true))), none⟩]) .ret)))
theorem cc5 : ccode Tryd.prog (min Tryd.f5.ntmps pbase) (Tryd.f5.body.getD .skip) = some ac5 := by kernel_rfl
def ac6 : ACode := (.seq (.ops [⟨(some 4), (.mov (.c (.int .i64 0))), none⟩, ⟨(some 5), (.mov (.c (.bool false))), none⟩]) (.seq (.seq (.ops [⟨(some 6), (.mov (.t 0)), none⟩, ⟨(some 7), (.mov (.t 1)), none⟩, ⟨(some 8), (.call 23 [(.t 6), (.t 7)]), none⟩, ⟨(some 9), (.not (.t 8)), none⟩]) (.cond (.t 9) (.seq (.ops [⟨(some 4), (.mov (.c (.int .i64 0))), none⟩, ⟨(some 5), (.mov (.c (.bool false))), none⟩]) .ret) .skip)) (.seq (.ops [⟨(some 10), (.mov (.t 0)), none⟩, ⟨(some 11), (.call 29 [(.t 10), (.c (.func (.func 30) #[] #[]))]), none⟩, ⟨(some 12), (.mov (.t 1)), none⟩, ⟨(some 13), (.idx 1 (.t 11) (.t 12)), none⟩, ⟨(some 14), (.ld none (.t 13)), none⟩, ⟨(some 4), (.mov (.t 14)), none⟩, ⟨(some 5), (.mov (.c (.bool true))), none⟩]) .ret)))
theorem cc6 : ccode Tryd.prog (min Tryd.f6.ntmps pbase) (Tryd.f6.body.getD .skip) = some ac6 := by kernel_rfl
def ac7 : ACode := (.seq (.ops [⟨(some 4), (.mov (.c (.int .i64 0))), none⟩, ⟨(some 5), (.mov (.c (.bool false))), none⟩]) (.seq (.seq (.ops [⟨(some 8), (.mov (.t 0)), none⟩, ⟨(some 9), (.call 25 [(.t 8)]), none⟩, ⟨(some 10), (.not (.t 9)), none⟩, ⟨(some 11), (.mov (.t 10)), none⟩, ⟨(some 12), (.mov (.t 1)), (some (11, false))⟩, ⟨(some 13), (.mov (.t 0)), (some (11, false))⟩, ⟨(some 14), (.call 26 [(.t 12), (.c (.int .i64 0)), (.t 13)]), (some (11, false))⟩, ⟨(some 15), (.not (.t 14)), (some (11, false))⟩, ⟨(some 16), (.pick (.t 11) (.c (.bool true)) (.t 15)), none⟩]) (.cond (.t 16) (.seq (.ops [⟨(some 4), (.mov (.c (.int .i64 0))), none⟩, ⟨(some 5), (.mov (.c (.bool false))), none⟩]) .ret) .skip)) (.seq (.ops [⟨(some 6), (.nils 1), none⟩]) (.seq (.seq (.ops [⟨(some 7), (.mov (.c (.int .i64 0))), none⟩]) (.block 0 (.loop (.seq (.seq (.ops [⟨(some 17), (.mov (.t 7)), none⟩, ⟨(some 18), (.mov (.t 0)), none⟩, ⟨(some 19), (.bin .leq (.t 17) (.t 18)), none⟩]) (.cond (.t 19) .skip (.exit 0))) (.seq (.block 1 (.ops [⟨(some 22), (.mov (.t 6)), none⟩, ⟨(some 23), (.mov (.t 0)), none⟩, ⟨(some 24), (.mov (.t 7)), none⟩, ⟨(some 25), (.call 31 [(.t 23), (.t 24)]), none⟩, ⟨(some 26), (.mov (.t 7)), none⟩, ⟨(some 27), (.call 32 [(.t 26)]), none⟩, ⟨(some 28), (.bin .mul (.t 25) (.t 27)), none⟩, ⟨(some 29), (.mov (.t 0)), none⟩, ⟨(some 30), (.bin .mul (.c (.int .i64 2)) (.t 29)), none⟩, ⟨(some 31), (.mov (.t 7)), none⟩, ⟨(some 32), (.bin .sub (.t 30) (.t 31)), none⟩, ⟨(some 33), (.call 33 [(.t 32)]), none⟩, ⟨(some 34), (.bin .mul (.t 28) (.t 33)), none⟩, ⟨(some 35), (.bsl 1 1 [(.int .i64 0)] [(0, (.t 34))]), none⟩, ⟨(some 36), (.app 1 8 (.t 22) (.t 35)), none⟩, ⟨(some 6), (.mov (.t 36)), none⟩])) (.ops [⟨(some 20), (.mov (.t 7)), none⟩, ⟨(some 21), (.bin .add (.t 20) (.c (.int .i64 1))), none⟩, ⟨(some 7), (.mov (.t 21)), none⟩])))))) (.seq (.ops [⟨(some 37), (.mov (.t 6)), none⟩, ⟨(some 38), (.mov (.t 1)), none⟩, ⟨(some 39), (.call 27 [(.t 37), (.t 38)]), none⟩, ⟨(some 4), (.mov (.t 39)), none⟩, ⟨(some 5), (.mov (.c (.bool true))), none⟩]) .ret)))))
theorem cc7 : ccode Tryd.prog (min Tryd.f7.ntmps pbase) (Tryd.f7.body.getD .skip) = some ac7 := by kernel_rfl
def ac8 : ACode := (.seq (.ops [⟨(some 4), (.mov (.c (.int .i64 0))), none⟩, ⟨(some 5), (.mov (.c (.bool false))), none⟩]) (.seq (.seq (.ops [⟨(some 6), (.mov (.t 0)), none⟩, ⟨(some 7), (.mov (.t 1)), none⟩, ⟨(some 8), (.call 23 [(.t 6), (.t 7)]), none⟩, ⟨(some 9), (.not (.t 8)), none⟩]) (.cond (.t 9) (.seq (.ops [⟨(some 4), (.mov (.c (.int .i64 0))), none⟩, ⟨(some 5), (.mov (.c (.bool false))), none⟩]) .ret) .skip)) (.seq (.ops [⟨(some 10), (.mov (.t 0)), none⟩, ⟨(some 11), (.call 34 [(.t 10)]), none⟩, ⟨(some 12), (.mov (.t 1)), none⟩, ⟨(some 13), (.idx 1 (.t 11) (.t 12)), none⟩, ⟨(some 14), (.ld none (.t 13)), none⟩, ⟨(some 4), (.mov (.t 14)), none⟩, ⟨(some 5), (.mov (.c (.bool true))), none⟩]) .ret)))
theorem cc8 : ccode Tryd.prog (min Tryd.f8.ntmps pbase) (Tryd.f8.body.getD .skip) = some ac8 := by kernel_rfl
def ac9 : ACode := (.seq (.ops [⟨(some 4), (.mov (.c (.int .i64 0))), none⟩, ⟨(some 5), (.mov (.c (.bool false))), none⟩]) (.seq (.seq (.ops [⟨(some 9), (.mov (.t 0)), none⟩, ⟨(some 10), (.call 25 [(.t 9)]), none⟩, ⟨(some 11), (.not (.t 10)), none⟩, ⟨(some 12), (.mov (.t 11)), none⟩, ⟨(some 13), (.mov (.t 1)), (some (12, false))⟩, ⟨(some 14), (.mov (.t 0)), (some (12, false))⟩, ⟨(some 15), (.call 26 [(.t 13), (.c (.int .i64 0)), (.t 14)]), (some (12, false))⟩, ⟨(some 16), (.not (.t 15)), (some (12, false))⟩, ⟨(some 17), (.pick (.t 12) (.c (.bool true)) (.t 16)), none⟩]) (.cond (.t 17) (.seq (.ops [⟨(some 4), (.mov (.c (.int .i64 0))), none⟩, ⟨(some 5), (.mov (.c (.bool false))), none⟩]) .ret) .skip)) (.seq (.seq (.ops [⟨(some 18), (.mov (.t 0)), none⟩, ⟨(some 19), (.bin .eql (.t 18) (.c (.int .i64 1))), none⟩]) (.cond (.t 19) (.seq (.ops [⟨(some 20), (.mov (.t 1)), none⟩, ⟨(some 4), (.mov (.t 20)), none⟩, ⟨(some 5), (.mov (.c (.bool true))), none⟩]) .ret) .skip)) (.seq (.ops [⟨(some 6), (.nils 1), none⟩]) (.seq (.seq (.ops [⟨(some 7), (.mov (.c (.int .i64 0))), none⟩]) (.block 0 (.loop (.seq (.seq (.ops [⟨(some 21), (.mov (.t 7)), none⟩, ⟨(some 22), (.mov (.t 0)), none⟩, ⟨(some 23), (.bin .leq (.t 21) (.t 22)), none⟩]) (.cond (.t 23) .skip (.exit 0))) (.seq (.block 1 (.seq (.ops [⟨(some 26), (.mov (.t 0)), none⟩, ⟨(some 27), (.bin .mul (.c (.int .i64 2)) (.t 26)), none⟩, ⟨(some 28), (.mov (.t 0)), none⟩, ⟨(some 29), (.bin .mul (.c (.int .i64 2)) (.t 28)), none⟩, ⟨(some 30), (.mov (.t 7)), none⟩, ⟨(some 31), (.bin .sub (.t 29) (.t 30)), none⟩, ⟨(some 32), (.mov (.t 7)), none⟩, ⟨(some 33), (.call 31 [(.t 31), (.t 32)]), none⟩, ⟨(some 34), (.bin .mul (.t 27) (.t 33)), none⟩, ⟨(some 35), (.mov (.t 0)), none⟩, ⟨(some 36), (.bin .mul (.c (.int .i64 2)) (.t 35)), none⟩, ⟨(some 37), (.mov (.t 7)), none⟩, ⟨(some 38), (.bin .sub (.t 36) (.t 37)), none⟩, ⟨(some 39), (.bin .quo (.t 34) (.t 38)), none⟩, ⟨(some 8), (.mov (.t 39)), none⟩]) (.ops [⟨(some 40), (.mov (.t 6)), none⟩, ⟨(some 41), (.mov (.t 8)), none⟩, ⟨(some 42), (.mov (.t 0)), none⟩, ⟨(some 43), (.mov (.t 7)), none⟩, ⟨(some 44), (.bin .sub (.t 42) (.t 43)), none⟩, ⟨(some 45), (.call 33 [(.t 44)]), none⟩, ⟨(some 46), (.bin .mul (.t 41) (.t 45)), none⟩, ⟨(some 47), (.bsl 1 1 [(.int .i64 0)] [(0, (.t 46))]), none⟩, ⟨(some 48), (.app 1 8 (.t 40) (.t 47)), none⟩, ⟨(some 6), (.mov (.t 48)), none⟩]))) (.ops [⟨(some 24), (.mov (.t 7)), none⟩, ⟨(some 25), (.bin .add (.t 24) (.c (.int .i64 1))), none⟩, ⟨(some 7), (.mov (.t 25)), none⟩])))))) (.seq (.ops [⟨(some 49), (.mov (.t 0)), none⟩, ⟨(some 50), (.bin .sub (.t 49) (.c (.int .i64 1))), none⟩, ⟨(some 51), (.call 33 [(.t 50)]), none⟩, ⟨(some 52), (.mov (.t 6)), none⟩, ⟨(some 53), (.mov (.t 1)), none⟩, ⟨(some 54), (.call 27 [(.t 52), (.t 53)]), none⟩, ⟨(some 55), (.bin .mul (.t 51) (.t 54)), none⟩, ⟨(some 4), (.mov (.t 55)), none⟩, ⟨(some 5), (.mov (.c (.bool true))), none⟩]) .ret))))))
theorem cc9 : ccode Tryd.prog (min Tryd.f9.ntmps pbase) (Tryd.f9.body.getD .skip) = some ac9 := by kernel_rfl
def ac10 : ACode := (.seq (.ops [⟨(some 2), (.mov (.c (.int .i64 0))), none⟩, ⟨(some 3), (.mov (.c (.bool false))), none⟩]) (.seq (.seq (.ops [⟨(some 4), (.mov (.t 0)), none⟩, ⟨(some 5), (.call 35 [(.t 4)]), none⟩, ⟨(some 6), (.not (.t 5)), none⟩]) (.cond (.t 6) (.seq (.ops [⟨(some 2), (.mov (.c (.int .i64 0))), none⟩, ⟨(some 3), (.mov (.c (.bool false))), none⟩]) .ret) .skip)) (.seq (.ops [⟨(some 7), (.mov (.t 0)), none⟩, ⟨(some 8), (.call 36 [(.t 7)]), none⟩, ⟨(some 2), (.mov (.t 8)), none⟩, ⟨(some 3), (.mov (.c (.bool true))), none⟩]) .ret)))
theorem cc10 : ccode Tryd.prog (min Tryd.f10.ntmps pbase) (Tryd.f10.body.getD .skip) = some ac10 := by kernel_rfl
def ac11 : ACode := (.seq (.ops [⟨(some 2), (.mov (.c (.int .i64 0))), none⟩, ⟨(some 3), (.mov (.c (.bool false))), none⟩]) (.seq (.seq (.ops [⟨(some 4), (.mov (.t 0)), none⟩, ⟨(some 5), (.call 25 [(.t 4)]), none⟩, ⟨(some 6), (.not (.t 5)), none⟩]) (.cond (.t 6) (.seq (.ops [⟨(some 2), (.mov (.c (.int .i64 0))), none⟩, ⟨(some 3), (.mov (.c (.bool false))), none⟩]) .ret) .skip)) (.seq (.ops [⟨(some 7), (.mov (.t 0)), none⟩, ⟨(some 8), (.bin .mul (.c (.int .i64 2)) (.t 7)), none⟩, ⟨(some 9), (.bin .sub (.t 8) (.c (.int .i64 1))), none⟩, ⟨(some 10), (.call 33 [(.t 9)]), none⟩, ⟨(some 2), (.mov (.t 10)), none⟩, ⟨(some 3), (.mov (.c (.bool true))), none⟩]) .ret)))
theorem cc11 : ccode Tryd.prog (min Tryd.f11.ntmps pbase) (Tryd.f11.body.getD .skip) = some ac11 := by kernel_rfl
def ac12 : ACode := (.seq (.ops [⟨(some 2), (.mov (.c (.int .i64 0))), none⟩, ⟨(some 3), (.mov (.c (.bool false))), none⟩]) (.seq (.seq (.ops [⟨(some 4), (.mov (.t 0)), none⟩, ⟨(some 5), (.call 35 [(.t 4)]), none⟩, ⟨(some 6), (.not (.t 5)), none⟩]) (.cond (.t 6) (.seq (.ops [⟨(some 2), (.mov (.c (.int .i64 0))), none⟩, ⟨(some 3), (.mov (.c (.bool false))), none⟩]) .ret) .skip)) (.seq (.ops [⟨(some 7), (.mov (.t 0)), none⟩, ⟨(some 8), (.bin .sub (.t 7) (.c (.int .i64 1))), none⟩, ⟨(some 9), (.call 30 [(.t 8)]), none⟩, ⟨(some 10), (.mov (.t 0)), none⟩, ⟨(some 11), (.call 30 [(.t 10)]), none⟩, ⟨(some 12), (.bin .mul (.t 9) (.t 11)), none⟩, ⟨(some 2), (.mov (.t 12)), none⟩, ⟨(some 3), (.mov (.c (.bool true))), none⟩]) .ret)))
theorem cc12 : ccode Tryd.prog (min Tryd.f12.ntmps pbase) (Tryd.f12.body.getD .skip) = some ac12 := by kernel_rfl
def ac13 : ACode := (.seq (.ops [⟨(some 2), (.mov (.c (.int .i64 0))), none⟩, ⟨(some 3), (.mov (.c (.bool false))), none⟩]) (.seq (.seq (.ops [⟨(some 4), (.mov (.t 0)), none⟩, ⟨(some 5), (.call 25 [(.t 4)]), none⟩, ⟨(some 6), (.not (.t 5)), none⟩]) (.cond (.t 6) (.seq (.ops [⟨(some 2), (.mov (.c (.int .i64 0))), none⟩, ⟨(some 3), (.mov (.c (.bool false))), none⟩]) .ret) .skip)) (.seq (.ops [⟨(some 7), (.mov (.t 0)), none⟩, ⟨(some 8), (.call 33 [(.t 7)]), none⟩, ⟨(some 9), (.mov (.t 0)), none⟩, ⟨(some 10), (.bin .sub (.t 9) (.c (.int .i64 1))), none⟩, ⟨(some 11), (.call 33 [(.t 10)]), none⟩, ⟨(some 12), (.bin .mul (.t 8) (.t 11)), none⟩, ⟨(some 2), (.mov (.t 12)), none⟩, ⟨(some 3), (.mov (.c (.bool true))), none⟩]) .ret)))
theorem cc13 : ccode Tryd.prog (min Tryd.f13.ntmps pbase) (Tryd.f13.body.getD .skip) = some ac13 := by kernel_rfl
def ac14 : ACode := (.seq (.ops [⟨(some 2), (.mov (.c (.int .i64 0))), none⟩, ⟨(some 3), (.mov (.c (.int .i64 0))), none⟩, ⟨(some 4), (.mov (.c (.bool false))), none⟩]) (.seq (.seq (.ops [⟨(some 5), (.mov (.t 0)), none⟩, ⟨(some 6), (.call 35 [(.t 5)]), none⟩, ⟨(some 7), (.not (.t 6)), none⟩]) (.cond (.t 7) (.seq (.ops [⟨(some 2), (.mov (.c (.int .i64 0))), none⟩, ⟨(some 3), (.mov (.c (.int .i64 0))), none⟩, ⟨(some 4), (.mov (.c (.bool false))), none⟩]) .ret) .skip)) (.seq (.tree (.take ⟨(some 8), (.mov (.t 0)), none⟩ (.take ⟨(some 9), (.call 24 [(.t 8)]), none⟩ (.take ⟨(some 10), (.idx 1 (.t 9) (.c (.int .i64 0))), none⟩ (.take ⟨(some 11), (.ld none (.t 10)), none⟩ (.take ⟨(some 12), (.mov (.t 0)), none⟩ (.take ⟨(some 13), (.call 36 [(.t 12)]), none⟩ (.take ⟨(some 14), (.call 37 [(.t 11), (.t 13)]), none⟩ (.take ⟨(some 15), (.call 38 [(.t 14)]), none⟩ (.take ⟨(some 16), (.ext (.t 15) 0), none⟩ (.take ⟨(some 17), (.ext (.t 15) 1), none⟩ (.take ⟨(some 18), (.ext (.t 15) 2), none⟩ (.take ⟨(some 2), (.mov (.t 16)), none⟩ (.take ⟨(some 3), (.mov (.t 17)), none⟩ (.take ⟨(some 4), (.mov (.t 18)), none⟩ .done))))))))))))))) .ret)))
theorem cc14 : ccode Tryd.prog (min Tryd.f14.ntmps pbase) (Tryd.f14.body.getD .skip) = some ac14 := by kernel_rfl
def ac15 : ACode := (.seq (.ops [⟨(some 2), (.mov (.c (.int .i64 0))), none⟩, ⟨(some 3), (.mov (.c (.int .i64 0))), none⟩, ⟨(some 4), (.mov (.c (.bool false))), none⟩]) (.seq (.seq (.ops [⟨(some 7), (.mov (.t 0)), none⟩, ⟨(some 8), (.call 25 [(.t 7)]), none⟩, ⟨(some 9), (.not (.t 8)), none⟩]) (.cond (.t 9) (.seq (.ops [⟨(some 2), (.mov (.c (.int .i64 0))), none⟩, ⟨(some 3), (.mov (.c (.int .i64 0))), none⟩, ⟨(some 4), (.mov (.c (.bool false))), none⟩]) .ret) .skip)) (.seq (.ops [⟨(some 11), (.mov (.t 0)), none⟩, ⟨(some 12), (.call 28 [(.t 11)]), none⟩, ⟨(some 13), (.call 27 [(.t 12), (.c (.int .i64 0))]), none⟩, ⟨(some 14), (.mov (.t 0)), none⟩, ⟨(some 15), (.bin .mul (.c (.int .i64 2)) (.t 14)), none⟩, ⟨(some 16), (.bin .sub (.t 15) (.c (.int .i64 1))), none⟩, ⟨(some 17), (.call 33 [(.t 16)]), none⟩, ⟨(some 18), (.call 39 [(.t 13), (.t 17)]), none⟩, ⟨(some 10), (.mov (.t 18)), none⟩, ⟨(some 19), (.ext (.t 10) 0), none⟩, ⟨(some 20), (.ext (.t 10) 1), none⟩, ⟨(some 5), (.mov (.t 19)), none⟩, ⟨(some 6), (.mov (.t 20)), none⟩]) (.seq (.ops [⟨(some 21), (.mov (.t 5)), none⟩, ⟨(some 22), (.mov (.t 6)), none⟩, ⟨(some 2), (.mov (.t 21)), none⟩, ⟨(some 3), (.mov (.t 22)), none⟩, ⟨(some 4), (.mov (.c (.bool true))), none⟩]) .ret))))
theorem cc15 : ccode Tryd.prog (min Tryd.f15.ntmps pbase) (Tryd.f15.body.getD .skip) = some ac15 := by kernel_rfl
def ac16 : ACode := (.seq (.ops [⟨(some 2), (.nils 1), none⟩, ⟨(some 3), (.mov (.c (.bool false))), none⟩]) (.seq (.seq (.ops [⟨(some 4), (.mov (.t 0)), none⟩, ⟨(some 5), (.call 35 [(.t 4)]), none⟩, ⟨(some 6), (.not (.t 5)), none⟩]) (.cond (.t 6) (.seq (.ops [⟨(some 2), (.nils 1), none⟩, ⟨(some 3), (.mov (.c (.bool false))), none⟩]) .ret) .skip)) (.seq (.ops [⟨(some 7), (.mov (.t 0)), none⟩, ⟨(some 8), (.bin .mul (.c (.int .i64 2)) (.t 7)), none⟩, ⟨(some 9), (.mov (.t 0)), none⟩, ⟨(some 10), (.bin .mul (.c (.int .i64 2)) (.t 9)), none⟩, ⟨(some 11), (.call 41 [(.t 10)]), none⟩, ⟨(some 12), (.call 40 [(.t 8), (.t 11)]), none⟩, ⟨(some 13), (.ext (.t 12) 0), none⟩, ⟨(some 14), (.ext (.t 12) 1), none⟩, ⟨(some 2), (.mov (.t 13)), none⟩, ⟨(some 3), (.mov (.t 14)), none⟩]) .ret)))
theorem cc16 : ccode Tryd.prog (min Tryd.f16.ntmps pbase) (Tryd.f16.body.getD .skip) = some ac16 := by kernel_rfl
def ac17 : ACode := (.seq (.ops [⟨(some 2), (.nils 1), none⟩, ⟨(some 3), (.mov (.c (.bool false))), none⟩]) (.seq (.seq (.ops [⟨(some 6), (.mov (.t 0)), none⟩, ⟨(some 7), (.call 25 [(.t 6)]), none⟩, ⟨(some 8), (.not (.t 7)), none⟩]) (.cond (.t 8) (.seq (.ops [⟨(some 2), (.nils 1), none⟩, ⟨(some 3), (.mov (.c (.bool false))), none⟩]) .ret) .skip)) (.seq (.ops [⟨(some 10), (.mov (.t 0)), none⟩, ⟨(some 11), (.bin .mul (.c (.int .i64 2)) (.t 10)), none⟩, ⟨(some 12), (.bsl 1 1 [(.int .i64 0)] [(0, (.c (.int .i64 0)))]), none⟩, ⟨(some 13), (.call 42 [(.t 11), (.t 12), (.c (.slice none 0 0))]), none⟩, ⟨(some 9), (.mov (.t 13)), none⟩, ⟨(some 14), (.ext (.t 9) 0), none⟩, ⟨(some 15), (.ext (.t 9) 1), none⟩, ⟨(some 4), (.mov (.t 14)), none⟩, ⟨(some 5), (.mov (.t 15)), none⟩]) (.seq (.seq (.ops [⟨(some 16), (.mov (.t 5)), none⟩, ⟨(some 17), (.not (.t 16)), none⟩]) (.cond (.t 17) (.seq (.ops [⟨(some 2), (.nils 1), none⟩, ⟨(some 3), (.mov (.c (.bool false))), none⟩]) .ret) .skip)) (.seq (.ops [⟨(some 18), (.mov (.t 4)), none⟩, ⟨(some 2), (.mov (.t 18)), none⟩, ⟨(some 3), (.mov (.c (.bool true))), none⟩]) .ret)))))
theorem cc17 : ccode Tryd.prog (min Tryd.f17.ntmps pbase) (Tryd.f17.body.getD .skip) = some ac17 := by kernel_rfl
def ac18 : ACode := (.seq (.ops [⟨(some 2), (.nils 1), none⟩, ⟨(some 3), (.mov (.c (.bool false))), none⟩]) (.seq (.seq (.ops [⟨(some 4), (.mov (.t 0)), none⟩, ⟨(some 5), (.call 43 [(.t 4)]), none⟩, ⟨(some 6), (.not (.t 5)), none⟩, ⟨(some 7), (.mov (.t 6)), none⟩, ⟨(some 8), (.mov (.t 0)), (some (7, false))⟩, ⟨(some 9), (.idx 1 (.t 8) (.c (.int .i64 0))), (some (7, false))⟩, ⟨(some 10), (.ld none (.t 9)), (some (7, false))⟩, ⟨(some 11), (.bin .neq (.t 10) (.c (.int .i64 0))), (some (7, false))⟩, ⟨(some 12), (.pick (.t 7) (.c (.bool true)) (.t 11)), none⟩]) (.cond (.t 12) (.seq (.ops [⟨(some 2), (.nils 1), none⟩, ⟨(some 3), (.mov (.c (.bool false))), none⟩]) .ret) .skip)) (.seq (.ops [⟨(some 13), (.mov (.t 0)), none⟩, ⟨(some 14), (.mov (.t 0)), none⟩, ⟨(some 15), (.len (.t 14)), none⟩, ⟨(some 16), (.call 41 [(.t 15)]), none⟩, ⟨(some 17), (.call 44 [(.t 13), (.t 16)]), none⟩, ⟨(some 18), (.ext (.t 17) 0), none⟩, ⟨(some 19), (.ext (.t 17) 1), none⟩, ⟨(some 2), (.mov (.t 18)), none⟩, ⟨(some 3), (.mov (.t 19)), none⟩]) .ret)))
theorem cc18 : ccode Tryd.prog (min Tryd.f18.ntmps pbase) (Tryd.f18.body.getD .skip) = some ac18 := by kernel_rfl
def ac19 : ACode := (.seq (.ops [⟨(some 2), (.nils 1), none⟩, ⟨(some 3), (.mov (.c (.bool false))), none⟩]) (.seq (.seq (.ops [⟨(some 6), (.mov (.t 0)), none⟩, ⟨(some 7), (.call 45 [(.t 6)]), none⟩, ⟨(some 8), (.not (.t 7)), none⟩, ⟨(some 9), (.mov (.t 8)), none⟩, ⟨(some 10), (.mov (.t 0)), (some (9, false))⟩, ⟨(some 11), (.idx 1 (.t 10) (.c (.int .i64 0))), (some (9, false))⟩, ⟨(some 12), (.ld none (.t 11)), (some (9, false))⟩, ⟨(some 13), (.bin .neq (.t 12) (.c (.int .i64 0))), (some (9, false))⟩, ⟨(some 14), (.pick (.t 9) (.c (.bool true)) (.t 13)), none⟩]) (.cond (.t 14) (.seq (.ops [⟨(some 2), (.nils 1), none⟩, ⟨(some 3), (.mov (.c (.bool false))), none⟩]) .ret) .skip)) (.seq (.ops [⟨(some 16), (.mov (.t 0)), none⟩, ⟨(some 17), (.len (.t 16)), none⟩, ⟨(some 18), (.bsl 1 1 [(.int .i64 0)] [(0, (.c (.int .i64 0)))]), none⟩, ⟨(some 19), (.mov (.t 0)), none⟩, ⟨(some 20), (.call 42 [(.t 17), (.t 18), (.t 19)]), none⟩, ⟨(some 15), (.mov (.t 20)), none⟩, ⟨(some 21), (.ext (.t 15) 0), none⟩, ⟨(some 22), (.ext (.t 15) 1), none⟩, ⟨(some 4), (.mov (.t 21)), none⟩, ⟨(some 5), (.mov (.t 22)), none⟩]) (.seq (.seq (.ops [⟨(some 23), (.mov (.t 5)), none⟩, ⟨(some 24), (.not (.t 23)), none⟩]) (.cond (.t 24) (.seq (.ops [⟨(some 2), (.nils 1), none⟩, ⟨(some 3), (.mov (.c (.bool false))), none⟩]) .ret) .skip)) (.seq (.ops [⟨(some 25), (.mov (.t 4)), none⟩, ⟨(some 2), (.mov (.t 25)), none⟩, ⟨(some 3), (.mov (.c (.bool true))), none⟩]) .ret)))))
theorem cc19 : ccode Tryd.prog (min Tryd.f19.ntmps pbase) (Tryd.f19.body.getD .skip) = some ac19 := by kernel_rfl
def ac20 : ACode := (.seq (.ops [⟨(some 4), (.mov (.c (.bool false))), none⟩]) (.seq (.seq (.ops [⟨(some 6), (.mov (.t 0)), none⟩, ⟨(some 7), (.len (.t 6)), none⟩, ⟨(some 8), (.mov (.t 1)), none⟩, ⟨(some 9), (.len (.t 8)), none⟩, ⟨(some 10), (.bin .neq (.t 7) (.t 9)), none⟩]) (.cond (.t 10) (.seq (.ops [⟨(some 4), (.mov (.c (.bool false))), none⟩]) .ret) .skip)) (.seq (.seq (.ops [⟨(some 11), (.mov (.t 0)), none⟩, ⟨(some 12), (.len (.t 11)), none⟩, ⟨(some 13), (.mov (.c (.int .i64 0))), none⟩]) (.block 0 (.loop (.seq (.ops [⟨(some 14), (.bin .lss (.t 13) (.t 12)), none⟩]) (.seq (.cond (.t 14) .skip (.exit 0)) (.seq (.block 1 (.seq (.ops [⟨(some 15), (.mov (.t 13)), none⟩, ⟨(some 5), (.mov (.t 15)), none⟩]) (.seq (.tree (.take ⟨(some 16), (.mov (.t 0)), none⟩ (.take ⟨(some 17), (.mov (.t 5)), none⟩ (.take ⟨(some 18), (.idx 1 (.t 16) (.t 17)), none⟩ (.take ⟨(some 19), (.ld none (.t 18)), none⟩ (.take ⟨(some 20), (.mov (.t 1)), none⟩ (.take ⟨(some 21), (.mov (.t 5)), none⟩ (.take ⟨(some 22), (.idx 1 (.t 20) (.t 21)), none⟩ (.take ⟨(some 23), (.ld none (.t 22)), none⟩ (.take ⟨(some 24), (.bin .neq (.t 19) (.t 23)), none⟩ .done)))))))))) (.cond (.t 24) (.seq (.ops [⟨(some 4), (.mov (.c (.bool false))), none⟩]) .ret) .skip)))) (.ops [⟨(some 25), (.bin .add (.t 13) (.c (.int .i64 1))), none⟩, ⟨(some 13), (.mov (.t 25)), none⟩]))))))) (.seq (.ops [⟨(some 4), (.mov (.c (.bool true))), none⟩]) .ret))))
theorem cc20 : ccode Tryd.prog (min Tryd.f20.ntmps pbase) (Tryd.f20.body.getD .skip) = some ac20 := by kernel_rfl
def ac21 : ACode := (.seq (.ops [⟨(some 2), (.nils 1), none⟩, ⟨(some 3), (.mov (.c (.bool false))), none⟩]) (.seq (.seq (.ops [⟨(some 4), (.mov (.t 0)), none⟩, ⟨(some 5), (.call 43 [(.t 4)]), none⟩, ⟨(some 6), (.not (.t 5)), none⟩]) (.cond (.t 6) (.seq (.ops [⟨(some 2), (.nils 1), none⟩, ⟨(some 3), (.mov (.c (.bool false))), none⟩]) .ret) .skip)) (.seq (.ops [⟨(some 7), (.mov (.t 0)), none⟩, ⟨(some 8), (.call 46 [(.t 7)]), none⟩, ⟨(some 9), (.call 47 [(.t 8)]), none⟩, ⟨(some 2), (.mov (.t 9)), none⟩, ⟨(some 3), (.mov (.c (.bool true))), none⟩]) .ret)))
theorem cc21 : ccode Tryd.prog (min Tryd.f21.ntmps pbase) (Tryd.f21.body.getD .skip) = some ac21 := by kernel_rfl
def ac22 : ACode := (.seq (.ops [⟨(some 4), (.mov (.c (.bool false))), none⟩]) (.seq (.seq (.ops [⟨(some 7), (.mov (.t 0)), none⟩, ⟨(some 8), (.len (.t 7)), none⟩, ⟨(some 9), (.mov (.c (.int .i64 0))), none⟩]) (.block 0 (.loop (.seq (.ops [⟨(some 10), (.bin .lss (.t 9) (.t 8)), none⟩]) (.seq (.cond (.t 10) .skip (.exit 0)) (.seq (.block 1 (.seq (.ops [⟨(some 11), (.mov (.t 9)), none⟩, ⟨(some 12), (.idx 1 (.t 7) (.t 9)), none⟩, ⟨(some 13), (.ld none (.t 12)), none⟩, ⟨(some 5), (.mov (.t 11)), none⟩, ⟨(some 6), (.mov (.t 13)), none⟩]) (.seq (.ops [⟨(some 14), (.mov (.t 6)), none⟩, ⟨(some 15), (.mov (.t 1)), none⟩, ⟨(some 16), (.mov (.t 5)), none⟩, ⟨(some 17), (.idx 1 (.t 15) (.t 16)), none⟩, ⟨(some 18), (.ld none (.t 17)), none⟩, ⟨(some 19), (.bin .neq (.t 14) (.t 18)), none⟩]) (.cond (.t 19) (.seq (.ops [⟨(some 20), (.mov (.t 6)), none⟩, ⟨(some 21), (.mov (.t 1)), none⟩, ⟨(some 22), (.mov (.t 5)), none⟩, ⟨(some 23), (.idx 1 (.t 21) (.t 22)), none⟩, ⟨(some 24), (.ld none (.t 23)), none⟩, ⟨(some 25), (.bin .lss (.t 20) (.t 24)), none⟩, ⟨(some 4), (.mov (.t 25)), none⟩]) .ret) .skip)))) (.ops [⟨(some 26), (.bin .add (.t 9) (.c (.int .i64 1))), none⟩, ⟨(some 9), (.mov (.t 26)), none⟩]))))))) (.seq (.ops [⟨(some 4), (.mov (.c (.bool false))), none⟩]) .ret)))
theorem cc22 : ccode Tryd.prog (min Tryd.f22.ntmps pbase) (Tryd.f22.body.getD .skip) = some ac22 := by kernel_rfl
def ac23 : ACode := (.seq (.ops [⟨(some 4), (.mov (.c (.bool false))), none⟩]) (.seq (.ops [⟨(some 5), (.mov (.t 0)), none⟩, ⟨(some 6), (.call 35 [(.t 5)]), none⟩, ⟨(some 7), (.mov (.t 6)), none⟩, ⟨(some 8), (.mov (.t 1)), (some (7, true))⟩, ⟨(some 9), (.bin .geq (.t 8) (.c (.int .i64 0))), (some (7, true))⟩, ⟨(some 10), (.pick (.t 7) (.t 9) (.c (.bool false))), none⟩, ⟨(some 11), (.mov (.t 10)), none⟩, ⟨(some 12), (.mov (.t 1)), (some (11, true))⟩, ⟨(some 13), (.mov (.t 0)), (some (11, true))⟩, ⟨(some 14), (.bin .leq (.t 12) (.t 13)), (some (11, true))⟩, ⟨(some 15), (.pick (.t 11) (.t 14) (.c (.bool false))), none⟩, ⟨(some 4), (.mov (.t 15)), none⟩]) .ret))
theorem cc23 : ccode Tryd.prog (min Tryd.f23.ntmps pbase) (Tryd.f23.body.getD .skip) = some ac23 := by kernel_rfl
def ac24 : ACode := (.seq (.ops [⟨(some 2), (.nils 1), none⟩]) (.seq (.seq (.ops [⟨(some 3), (.mov (.t 0)), none⟩, ⟨(some 4), (.bin .eql (.t 3) (.c (.int .i64 1))), none⟩]) (.cond (.t 4) (.seq (.ops [⟨(some 5), (.bsl 1 2 [(.int .i64 0)] [(0, (.c (.int .i64 0))), (1, (.c (.int .i64 1)))]), none⟩, ⟨(some 2), (.mov (.t 5)), none⟩]) .ret) .skip)) (.seq (.ops [⟨(some 6), (.mov (.t 0)), none⟩, ⟨(some 7), (.call 29 [(.t 6), (.c (.func (.func 48) #[] #[]))]), none⟩, ⟨(some 2), (.mov (.t 7)), none⟩]) .ret)))
theorem cc24 : ccode Tryd.prog (min Tryd.f24.ntmps pbase) (Tryd.f24.body.getD .skip) = some ac24 := by kernel_rfl
def ac25 : ACode := (.seq (.ops [⟨(some 2), (.mov (.c (.bool false))), none⟩]) (.seq (.ops [⟨(some 3), (.mov (.t 0)), none⟩, ⟨(some 4), (.call 26 [(.t 3), (.c (.int .i64 1)), (.c (.int .i64 7))]), none⟩, ⟨(some 2), (.mov (.t 4)), none⟩]) .ret))
theorem cc25 : ccode Tryd.prog (min Tryd.f25.ntmps pbase) (Tryd.f25.body.getD .skip) = some ac25 := by kernel_rfl
def ac26 : ACode := (.seq (.ops [⟨(some 6), (.mov (.c (.bool false))), none⟩]) (.seq (.ops [⟨(some 7), (.mov (.t 0)), none⟩, ⟨(some 8), (.mov (.t 1)), none⟩, ⟨(some 9), (.bin .geq (.t 7) (.t 8)), none⟩, ⟨(some 10), (.mov (.t 9)), none⟩, ⟨(some 11), (.mov (.t 0)), (some (10, true))⟩, ⟨(some 12), (.mov (.t 2)), (some (10, true))⟩, ⟨(some 13), (.bin .leq (.t 11) (.t 12)), (some (10, true))⟩, ⟨(some 14), (.pick (.t 10) (.t 13) (.c (.bool false))), none⟩, ⟨(some 6), (.mov (.t 14)), none⟩]) .ret))
theorem cc26 : ccode Tryd.prog (min Tryd.f26.ntmps pbase) (Tryd.f26.body.getD .skip) = some ac26 := by kernel_rfl
def ac27 : ACode := (.seq (.ops [⟨(some 4), (.mov (.c (.int .i64 0))), none⟩]) (.seq (.ops [⟨(some 5), (.mov (.c (.int .i64 0))), none⟩]) (.seq (.seq (.ops [⟨(some 8), (.mov (.t 1)), none⟩, ⟨(some 6), (.mov (.t 8)), none⟩]) (.block 0 (.loop (.seq (.seq (.ops [⟨(some 9), (.mov (.t 6)), none⟩, ⟨(some 10), (.mov (.t 0)), none⟩, ⟨(some 11), (.len (.t 10)), none⟩, ⟨(some 12), (.bin .lss (.t 9) (.t 11)), none⟩]) (.cond (.t 12) .skip (.exit 0))) (.seq (.block 1 (.seq (.tree (.take ⟨(some 15), (.mov (.t 0)), none⟩ (.take ⟨(some 16), (.mov (.t 6)), none⟩ (.take ⟨(some 17), (.idx 1 (.t 15) (.t 16)), none⟩ (.take ⟨(some 18), (.ld none (.t 17)), none⟩ (.take ⟨(some 19), (.mov (.t 6)), none⟩ (.take ⟨(some 20), (.mov (.t 1)), none⟩ (.take ⟨(some 21), (.call 31 [(.t 19), (.t 20)]), none⟩ (.take ⟨(some 22), (.bin .mul (.t 18) (.t 21)), none⟩ (.take ⟨(some 7), (.mov (.t 22)), none⟩ .done)))))))))) (.seq (.seq (.ops [⟨(some 23), (.mov (.t 6)), none⟩, ⟨(some 24), (.mov (.t 1)), none⟩, ⟨(some 25), (.bin .sub (.t 23) (.t 24)), none⟩, ⟨(some 26), (.bin .rem (.t 25) (.c (.int .i64 2))), none⟩, ⟨(some 27), (.bin .eql (.t 26) (.c (.int .i64 1))), none⟩]) (.cond (.t 27) (.ops [⟨(some 28), (.mov (.t 7)), none⟩, ⟨(some 29), (.neg (.t 28)), none⟩, ⟨(some 7), (.mov (.t 29)), none⟩]) .skip)) (.ops [⟨(some 30), (.mov (.t 5)), none⟩, ⟨(some 31), (.mov (.t 7)), none⟩, ⟨(some 32), (.bin .add (.t 30) (.t 31)), none⟩, ⟨(some 5), (.mov (.t 32)), none⟩])))) (.ops [⟨(some 13), (.mov (.t 6)), none⟩, ⟨(some 14), (.bin .add (.t 13) (.c (.int .i64 1))), none⟩, ⟨(some 6), (.mov (.t 14)), none⟩])))))) (.seq (.ops [⟨(some 33), (.mov (.t 5)), none⟩, ⟨(some 4), (.mov (.t 33)), none⟩]) .ret))))
theorem cc27 : ccode Tryd.prog (min Tryd.f27.ntmps pbase) (Tryd.f27.body.getD .skip) = some ac27 := by kernel_rfl
def ac28 : ACode := (.seq (.ops [⟨(some 2), (.nils 1), none⟩]) (.seq (.ops [⟨(some 3), (.nils 1), none⟩]) (.seq (.seq (.ops [⟨(some 4), (.mov (.c (.int .i64 0))), none⟩]) (.block 0 (.loop (.seq (.seq (.ops [⟨(some 6), (.mov (.t 4)), none⟩, ⟨(some 7), (.mov (.t 0)), none⟩, ⟨(some 8), (.bin .leq (.t 6) (.t 7)), none⟩]) (.cond (.t 8) .skip (.exit 0))) (.seq (.block 1 (.seq (.ops [⟨(some 11), (.mov (.t 0)), none⟩, ⟨(some 12), (.bin .mul (.c (.int .i64 2)) (.t 11)), none⟩, ⟨(some 13), (.mov (.t 4)), none⟩, ⟨(some 14), (.bin .sub (.t 12) (.t 13)), none⟩, ⟨(some 15), (.bin .sub (.t 14) (.c (.int .i64 1))), none⟩, ⟨(some 16), (.call 33 [(.t 15)]), none⟩, ⟨(some 5), (.mov (.t 16)), none⟩]) (.seq (.seq (.ops [⟨(some 17), (.mov (.t 0)), none⟩, ⟨(some 18), (.bin .eql (.t 17) (.c (.int .i64 1))), none⟩]) (.cond (.t 18) (.seq (.ops [⟨(some 19), (.mov (.t 3)), none⟩, ⟨(some 20), (.bsl 1 1 [(.int .i64 0)] [(0, (.c (.int .i64 1)))]), none⟩, ⟨(some 21), (.app 1 8 (.t 19) (.t 20)), none⟩, ⟨(some 3), (.mov (.t 21)), none⟩]) (.exit 1)) .skip)) (.ops [⟨(some 22), (.mov (.t 3)), none⟩, ⟨(some 23), (.mov (.t 0)), none⟩, ⟨(some 24), (.mov (.t 4)), none⟩, ⟨(some 25), (.call 31 [(.t 23), (.t 24)]), none⟩, ⟨(some 26), (.mov (.t 4)), none⟩, ⟨(some 27), (.call 32 [(.t 26)]), none⟩, ⟨(some 28), (.bin .mul (.t 25) (.t 27)), none⟩, ⟨(some 29), (.mov (.t 5)), none⟩, ⟨(some 30), (.bin .mul (.t 28) (.t 29)), none⟩, ⟨(some 31), (.bsl 1 1 [(.int .i64 0)] [(0, (.t 30))]), none⟩, ⟨(some 32), (.app 1 8 (.t 22) (.t 31)), none⟩, ⟨(some 3), (.mov (.t 32)), none⟩])))) (.ops [⟨(some 9), (.mov (.t 4)), none⟩, ⟨(some 10), (.bin .add (.t 9) (.c (.int .i64 1))), none⟩, ⟨(some 4), (.mov (.t 10)), none⟩])))))) (.seq (.ops [⟨(some 33), (.mov (.t 3)), none⟩, ⟨(some 2), (.mov (.t 33)), none⟩]) .ret))))
theorem cc28 : ccode Tryd.prog (min Tryd.f28.ntmps pbase) (Tryd.f28.body.getD .skip) = some ac28 := by kernel_rfl
def ac29 : ACode := (.seq (.ops [⟨(some 4), (.nils 1), none⟩]) (.seq (.ops [⟨(some 7), (.mov (.t 0)), none⟩, ⟨(some 8), (.bin .add (.t 7) (.c (.int .i64 1))), none⟩, ⟨(some 9), (.mk 1 8 [(.int .i64 0)] (.t 8) (.t 8)), none⟩, ⟨(some 5), (.mov (.t 9)), none⟩]) (.seq (.seq (.ops [⟨(some 10), (.mov (.t 5)), none⟩, ⟨(some 11), (.len (.t 10)), none⟩, ⟨(some 12), (.mov (.c (.int .i64 0))), none⟩]) (.block 0 (.loop (.seq (.ops [⟨(some 13), (.bin .lss (.t 12) (.t 11)), none⟩]) (.seq (.cond (.t 13) .skip (.exit 0)) (.seq (.block 1 (.seq (.ops [⟨(some 14), (.mov (.t 12)), none⟩, ⟨(some 6), (.mov (.t 14)), none⟩]) (.tree (.take ⟨(some 15), (.mov (.t 5)), none⟩ (.take ⟨(some 16), (.mov (.t 6)), none⟩ (.take ⟨(some 17), (.mov (.t 0)), none⟩ (.take ⟨(some 18), (.mov (.t 6)), none⟩ (.take ⟨(some 19), (.call 49 [(.t 17), (.t 18)]), none⟩ (.take ⟨(some 20), (.mov (.t 6)), none⟩ (.take ⟨(some 21), (.bin .shl (.t 19) (.t 20)), none⟩ (.take ⟨(some 22), (.mov (.t 1)), none⟩ (.take ⟨(some 23), (.mov (.t 0)), none⟩ (.take ⟨(some 24), (.bin .mul (.c (.int .i64 2)) (.t 23)), none⟩ (.take ⟨(some 25), (.mov (.t 6)), none⟩ (.take ⟨(some 26), (.bin .sub (.t 24) (.t 25)), none⟩ (.take ⟨(some 27), (.callv (.t 22) [(.t 26)]), none⟩ (.take ⟨(some 28), (.bin .mul (.t 21) (.t 27)), none⟩ (.take ⟨(some 29), (.idx 1 (.t 15) (.t 16)), none⟩ (.take ⟨none, (.st 1 (.t 29) (.t 28)), none⟩ .done))))))))))))))))))) (.ops [⟨(some 30), (.bin .add (.t 12) (.c (.int .i64 1))), none⟩, ⟨(some 12), (.mov (.t 30)), none⟩]))))))) (.seq (.ops [⟨(some 31), (.mov (.t 5)), none⟩, ⟨(some 32), (.call 50 [(.t 31)]), none⟩, ⟨(some 4), (.mov (.t 32)), none⟩]) .ret))))
theorem cc29 : ccode Tryd.prog (min Tryd.f29.ntmps pbase) (Tryd.f29.body.getD .skip) = some ac29 := by kernel_rfl
def ac30 : ACode := (.seq (.ops [⟨(some 2), (.mov (.c (.int .i64 0))), none⟩]) (.seq (.ops [⟨(some 3), (.mov (.c (.int .i64 1))), none⟩]) (.seq (.seq (.ops [⟨(some 4), (.mov (.c (.int .i64 2))), none⟩]) (.block 0 (.loop (.seq (.seq (.ops [⟨(some 5), (.mov (.t 4)), none⟩, ⟨(some 6), (.mov (.t 0)), none⟩, ⟨(some 7), (.bin .leq (.t 5) (.t 6)), none⟩]) (.cond (.t 7) .skip (.exit 0))) (.seq (.block 1 (.ops [⟨(some 10), (.mov (.t 3)), none⟩, ⟨(some 11), (.mov (.t 4)), none⟩, ⟨(some 12), (.bin .mul (.t 10) (.t 11)), none⟩, ⟨(some 3), (.mov (.t 12)), none⟩])) (.ops [⟨(some 8), (.mov (.t 4)), none⟩, ⟨(some 9), (.bin .add (.t 8) (.c (.int .i64 1))), none⟩, ⟨(some 4), (.mov (.t 9)), none⟩])))))) (.seq (.ops [⟨(some 13), (.mov (.t 3)), none⟩, ⟨(some 2), (.mov (.t 13)), none⟩]) .ret))))
theorem cc30 : ccode Tryd.prog (min Tryd.f30.ntmps pbase) (Tryd.f30.body.getD .skip) = some ac30 := by kernel_rfl
def ac31 : ACode := (.seq (.ops [⟨(some 4), (.mov (.c (.int .i64 0))), none⟩]) (.seq (.ops [⟨(some 5), (.mov (.c (.int .i64 1))), none⟩]) (.seq (.seq (.ops [⟨(some 6), (.mov (.c (.int .i64 1))), none⟩]) (.block 0 (.loop (.seq (.seq (.ops [⟨(some 7), (.mov (.t 6)), none⟩, ⟨(some 8), (.mov (.t 1)), none⟩, ⟨(some 9), (.bin .leq (.t 7) (.t 8)), none⟩]) (.cond (.t 9) .skip (.exit 0))) (.seq (.block 1 (.ops [⟨(some 12), (.mov (.t 5)), none⟩, ⟨(some 13), (.mov (.t 0)), none⟩, ⟨(some 14), (.mov (.t 1)), none⟩, ⟨(some 15), (.bin .sub (.t 13) (.t 14)), none⟩, ⟨(some 16), (.mov (.t 6)), none⟩, ⟨(some 17), (.bin .add (.t 15) (.t 16)), none⟩, ⟨(some 18), (.bin .mul (.t 12) (.t 17)), none⟩, ⟨(some 19), (.mov (.t 6)), none⟩, ⟨(some 20), (.bin .quo (.t 18) (.t 19)), none⟩, ⟨(some 5), (.mov (.t 20)), none⟩])) (.ops [⟨(some 10), (.mov (.t 6)), none⟩, ⟨(some 11), (.bin .add (.t 10) (.c (.int .i64 1))), none⟩, ⟨(some 6), (.mov (.t 11)), none⟩])))))) (.seq (.ops [⟨(some 21), (.mov (.t 5)), none⟩, ⟨(some 4), (.mov (.t 21)), none⟩]) .ret))))
theorem cc31 : ccode Tryd.prog (min Tryd.f31.ntmps pbase) (Tryd.f31.body.getD .skip) = some ac31 := by kernel_rfl
def ac32 : ACode := (.seq (.ops [⟨(some 2), (.mov (.c (.int .i64 0))), none⟩]) (.seq (.ops [⟨(some 3), (.mov (.t 0)), none⟩, ⟨(some 4), (.bin .shl (.c (.int .i64 1)) (.t 3)), none⟩, ⟨(some 2), (.mov (.t 4)), none⟩]) .ret))
theorem cc32 : ccode Tryd.prog (min Tryd.f32.ntmps pbase) (Tryd.f32.body.getD .skip) = some ac32 := by kernel_rfl
def ac33 : ACode := (.seq (.ops [⟨(some 2), (.mov (.c (.int .i64 0))), none⟩]) (.seq (.ops [⟨(some 3), (.mov (.c (.int .i64 1))), none⟩]) (.seq (.seq (.ops [⟨(some 4), (.mov (.c (.int .i64 2))), none⟩]) (.block 0 (.loop (.seq (.seq (.ops [⟨(some 5), (.mov (.t 4)), none⟩, ⟨(some 6), (.mov (.t 0)), none⟩, ⟨(some 7), (.bin .leq (.t 5) (.t 6)), none⟩]) (.cond (.t 7) .skip (.exit 0))) (.seq (.block 1 (.ops [⟨(some 10), (.mov (.t 3)), none⟩, ⟨(some 11), (.mov (.t 4)), none⟩, ⟨(some 12), (.bin .mul (.t 10) (.t 11)), none⟩, ⟨(some 3), (.mov (.t 12)), none⟩])) (.ops [⟨(some 8), (.mov (.t 4)), none⟩, ⟨(some 9), (.bin .add (.t 8) (.c (.int .i64 1))), none⟩, ⟨(some 4), (.mov (.t 9)), none⟩])))))) (.seq (.ops [⟨(some 13), (.mov (.t 3)), none⟩, ⟨(some 2), (.mov (.t 13)), none⟩]) .ret))))
theorem cc33 : ccode Tryd.prog (min Tryd.f33.ntmps pbase) (Tryd.f33.body.getD .skip) = some ac33 := by kernel_rfl
def ac34 : ACode := (.seq (.ops [⟨(some 2), (.nils 1), none⟩]) (.seq (.ops [⟨(some 9), (.mov (.t 0)), none⟩, ⟨(some 10), (.call 51 [(.t 9)]), none⟩, ⟨(some 8), (.mov (.t 10)), none⟩, ⟨(some 11), (.ext (.t 8) 0), none⟩, ⟨(some 12), (.ext (.t 8) 1), none⟩, ⟨(some 3), (.mov (.t 11)), none⟩, ⟨(some 4), (.mov (.t 12)), none⟩]) (.seq (.ops [⟨(some 14), (.mov (.t 3)), none⟩, ⟨(some 15), (.call 52 [(.t 14)]), none⟩, ⟨(some 13), (.mov (.t 15)), none⟩, ⟨(some 16), (.ext (.t 13) 0), none⟩, ⟨(some 17), (.ext (.t 13) 1), none⟩, ⟨(some 5), (.mov (.t 16)), none⟩, ⟨(some 6), (.mov (.t 17)), none⟩]) (.seq (.seq (.ops [⟨(some 18), (.mov (.t 5)), none⟩, ⟨(some 19), (.len (.t 18)), none⟩, ⟨(some 20), (.mov (.c (.int .i64 0))), none⟩]) (.block 0 (.loop (.seq (.ops [⟨(some 21), (.bin .lss (.t 20) (.t 19)), none⟩]) (.seq (.cond (.t 21) .skip (.exit 0)) (.seq (.block 1 (.seq (.ops [⟨(some 22), (.mov (.t 20)), none⟩, ⟨(some 7), (.mov (.t 22)), none⟩]) (.tree (.take ⟨(some 23), (.mov (.t 5)), none⟩ (.take ⟨(some 24), (.mov (.t 7)), none⟩ (.take ⟨(some 25), (.idx 1 (.t 23) (.t 24)), none⟩ (.take ⟨(some 26), (.ld none (.t 25)), none⟩ (.take ⟨(some 27), (.mov (.t 0)), none⟩ (.take ⟨(some 28), (.bin .sub (.t 27) (.c (.int .i64 1))), none⟩ (.take ⟨(some 29), (.call 30 [(.t 28)]), none⟩ (.take ⟨(some 30), (.bin .mul (.t 26) (.t 29)), none⟩ (.take ⟨(some 31), (.idx 1 (.t 23) (.t 24)), none⟩ (.take ⟨none, (.st 1 (.t 31) (.t 30)), none⟩ .done))))))))))))) (.ops [⟨(some 32), (.bin .add (.t 20) (.c (.int .i64 1))), none⟩, ⟨(some 20), (.mov (.t 32)), none⟩]))))))) (.seq (.ops [⟨(some 33), (.mov (.t 5)), none⟩, ⟨(some 2), (.mov (.t 33)), none⟩]) .ret)))))
theorem cc34 : ccode Tryd.prog (min Tryd.f34.ntmps pbase) (Tryd.f34.body.getD .skip) = some ac34 := by kernel_rfl
def ac35 : ACode := (.seq (.ops [⟨(some 2), (.mov (.c (.bool false))), none⟩]) (.seq (.ops [⟨(some 3), (.mov (.t 0)), none⟩, ⟨(some 4), (.bin .geq (.t 3) (.c (.int .i64 1))), none⟩, ⟨(some 5), (.mov (.t 4)), none⟩, ⟨(some 6), (.mov (.t 0)), (some (5, true))⟩, ⟨(some 7), (.bin .leq (.t 6) (.c (.int .i64 7))), (some (5, true))⟩, ⟨(some 8), (.pick (.t 5) (.t 7) (.c (.bool false))), none⟩, ⟨(some 2), (.mov (.t 8)), none⟩]) .ret))
theorem cc35 : ccode Tryd.prog (min Tryd.f35.ntmps pbase) (Tryd.f35.body.getD .skip) = some ac35 := by kernel_rfl
def ac36 : ACode := (.seq (.ops [⟨(some 2), (.mov (.c (.int .i64 0))), none⟩]) (.seq (.ops [⟨(some 3), (.mov (.t 0)), none⟩, ⟨(some 4), (.bin .mul (.c (.int .i64 2)) (.t 3)), none⟩, ⟨(some 5), (.bin .sub (.t 4) (.c (.int .i64 1))), none⟩, ⟨(some 6), (.call 30 [(.t 5)]), none⟩, ⟨(some 2), (.mov (.t 6)), none⟩]) .ret))
theorem cc36 : ccode Tryd.prog (min Tryd.f36.ntmps pbase) (Tryd.f36.body.getD .skip) = some ac36 := by kernel_rfl
def ac37 : ACode := (.seq (.ops [⟨(some 4), (.alloc [(.int .i64 0), (.int .i64 0)]), none⟩]) (.seq (.ops [⟨(some 6), (.mov (.t 0)), none⟩, ⟨(some 7), (.mov (.t 1)), none⟩, ⟨(some 8), (.call 53 [(.t 6), (.t 7)]), none⟩, ⟨(some 5), (.mov (.t 8)), none⟩]) (.seq (.tree (.take ⟨(some 9), (.mov (.t 0)), none⟩ (.take ⟨(some 10), (.mov (.t 5)), none⟩ (.take ⟨(some 11), (.bin .quo (.t 9) (.t 10)), none⟩ (.take ⟨(some 12), (.mov (.t 1)), none⟩ (.take ⟨(some 13), (.mov (.t 5)), none⟩ (.take ⟨(some 14), (.bin .quo (.t 12) (.t 13)), none⟩ (.take ⟨(some 15), (.pu (.bld [(.int .i64 0), (.int .i64 0)] [(0, 1), (1, 1)]) [(.t 11), (.t 14)]), none⟩ (.take ⟨none, (.st 2 (.t 4) (.t 15)), none⟩ .done))))))))) .ret)))
theorem cc37 : ccode Tryd.prog (min Tryd.f37.ntmps pbase) (Tryd.f37.body.getD .skip) = some ac37 := by kernel_rfl
def ac38 : ACode := (.seq (.ops [⟨(some 1), (.box 2 (.t 0)), none⟩, ⟨(some 2), (.mov (.c (.int .i64 0))), none⟩, ⟨(some 3), (.mov (.c (.int .i64 0))), none⟩, ⟨(some 4), (.mov (.c (.bool false))), none⟩]) (.seq (.tree (.take ⟨(some 5), (.fa 0 (.t 1)), none⟩ (.take ⟨(some 6), (.ld none (.t 5)), none⟩ (.take ⟨(some 7), (.fa 1 (.t 1)), none⟩ (.take ⟨(some 8), (.ld none (.t 7)), none⟩ (.take ⟨(some 2), (.mov (.t 6)), none⟩ (.take ⟨(some 3), (.mov (.t 8)), none⟩ (.take ⟨(some 4), (.mov (.c (.bool true))), none⟩ .done)))))))) .ret))
theorem cc38 : ccode Tryd.prog (min Tryd.f38.ntmps pbase) (Tryd.f38.body.getD .skip) = some ac38 := by kernel_rfl
def ac39 : ACode := (.seq (.ops [⟨(some 4), (.mov (.c (.int .i64 0))), none⟩, ⟨(some 5), (.mov (.c (.int .i64 0))), none⟩]) (.seq (.ops [⟨(some 8), (.mov (.t 0)), none⟩, ⟨(some 9), (.mov (.t 1)), none⟩, ⟨(some 6), (.mov (.t 8)), none⟩, ⟨(some 7), (.mov (.t 9)), none⟩]) (.seq (.block 0 (.loop (.seq (.seq (.ops [⟨(some 10), (.mov (.t 7)), none⟩, ⟨(some 11), (.bin .gtr (.t 10) (.c (.int .i64 0))), none⟩]) (.cond (.t 11) .skip (.exit 0))) (.block 1 (.tree (.take ⟨(some 12), (.mov (.t 7)), none⟩ (.take ⟨(some 13), (.mov (.t 6)), none⟩ (.take ⟨(some 14), (.mov (.t 7)), none⟩ (.take ⟨(some 15), (.bin .rem (.t 13) (.t 14)), none⟩ (.take ⟨(some 6), (.mov (.t 12)), none⟩ (.take ⟨(some 7), (.mov (.t 15)), none⟩ .done))))))))))) (.seq (.tree (.take ⟨(some 16), (.mov (.t 0)), none⟩ (.take ⟨(some 17), (.mov (.t 6)), none⟩ (.take ⟨(some 18), (.bin .quo (.t 16) (.t 17)), none⟩ (.take ⟨(some 19), (.mov (.t 1)), none⟩ (.take ⟨(some 20), (.mov (.t 6)), none⟩ (.take ⟨(some 21), (.bin .quo (.t 19) (.t 20)), none⟩ (.take ⟨(some 4), (.mov (.t 18)), none⟩ (.take ⟨(some 5), (.mov (.t 21)), none⟩ .done))))))))) .ret))))
theorem cc39 : ccode Tryd.prog (min Tryd.f39.ntmps pbase) (Tryd.f39.body.getD .skip) = some ac39 := by kernel_rfl
def ac40 : ACode := (.seq (.ops [⟨(some 4), (.nils 1), none⟩, ⟨(some 5), (.mov (.c (.bool false))), none⟩]) (.seq (.ops [⟨(some 6), (.mov (.t 0)), none⟩, ⟨(some 7), (.mov (.t 1)), none⟩, ⟨(some 8), (.call 54 [(.t 6), (.c (.slice none 0 0)), (.c (.int .i64 0)), (.t 7)]), none⟩, ⟨(some 9), (.ext (.t 8) 0), none⟩, ⟨(some 10), (.ext (.t 8) 1), none⟩, ⟨(some 4), (.mov (.t 9)), none⟩, ⟨(some 5), (.mov (.t 10)), none⟩]) .ret))
theorem cc40 : ccode Tryd.prog (min Tryd.f40.ntmps pbase) (Tryd.f40.body.getD .skip) = some ac40 := by kernel_rfl
def ac41 : ACode := (.seq (.ops [⟨(some 1), (.box 1 (.t 0)), none⟩, ⟨(some 2), (.mov (.c .nilFunc)), none⟩]) (.seq (.ops [⟨(some 3), (.mkf 55 0 [(.t 1)]), none⟩, ⟨(some 2), (.mov (.t 3)), none⟩]) .ret))
theorem cc41 : ccode Tryd.prog (min Tryd.f41.ntmps pbase) (Tryd.f41.body.getD .skip) = some ac41 := by kernel_rfl
def ac42 : ACode := (.seq (.ops [⟨(some 6), (.nils 1), none⟩, ⟨(some 7), (.mov (.c (.bool false))), none⟩]) (.seq (.ops [⟨(some 13), (.mov (.t 1)), none⟩, ⟨(some 14), (.len (.t 13)), none⟩, ⟨(some 8), (.mov (.t 14)), none⟩]) (.seq (.seq (.tree (.take ⟨(some 15), (.mov (.t 8)), none⟩ (.take ⟨(some 16), (.bin .gtr (.t 15) (.c (.int .i64 1))), none⟩ (.take ⟨(some 17), (.mov (.t 16)), none⟩ (.take ⟨(some 18), (.mov (.t 1)), (some (17, true))⟩ (.take ⟨(some 19), (.mov (.t 8)), (some (17, true))⟩ (.take ⟨(some 20), (.bin .sub (.t 19) (.c (.int .i64 1))), (some (17, true))⟩ (.take ⟨(some 21), (.idx 1 (.t 18) (.t 20)), (some (17, true))⟩ (.take ⟨(some 22), (.ld none (.t 21)), (some (17, true))⟩ (.take ⟨(some 23), (.bin .quo (.t 22) (.c (.int .i64 2))), (some (17, true))⟩ (.take ⟨(some 24), (.mov (.t 1)), (some (17, true))⟩ (.take ⟨(some 25), (.mov (.t 8)), (some (17, true))⟩ (.take ⟨(some 26), (.bin .sub (.t 25) (.c (.int .i64 2))), (some (17, true))⟩ (.take ⟨(some 27), (.idx 1 (.t 24) (.t 26)), (some (17, true))⟩ (.take ⟨(some 28), (.ld none (.t 27)), (some (17, true))⟩ (.take ⟨(some 29), (.bin .quo (.t 28) (.c (.int .i64 2))), (some (17, true))⟩ (.take ⟨(some 30), (.bin .eql (.t 23) (.t 29)), (some (17, true))⟩ (.take ⟨(some 31), (.pick (.t 17) (.t 30) (.c (.bool false))), none⟩ (.take ⟨(some 32), (.mov (.t 31)), none⟩ (.take ⟨(some 33), (.mov (.t 8)), (some (32, false))⟩ (.take ⟨(some 34), (.mov (.t 0)), (some (32, false))⟩ (.take ⟨(some 35), (.bin .eql (.t 33) (.t 34)), (some (32, false))⟩ (.take ⟨(some 36), (.mov (.t 35)), (some (32, false))⟩ (.take ⟨(some 37), (.mov (.t 1)), (some (36, true))⟩ (.take ⟨(some 38), (.mov (.t 8)), (some (36, true))⟩ (.take ⟨(some 39), (.bin .sub (.t 38) (.c (.int .i64 1))), (some (36, true))⟩ (.take ⟨(some 40), (.idx 1 (.t 37) (.t 39)), (some (36, true))⟩ (.take ⟨(some 41), (.ld none (.t 40)), (some (36, true))⟩ (.take ⟨(some 42), (.bin .quo (.t 41) (.c (.int .i64 2))), (some (36, true))⟩ (.take ⟨(some 43), (.mov (.t 1)), (some (36, true))⟩ (.take ⟨(some 44), (.idx 1 (.t 43) (.c (.int .i64 0))), (some (36, true))⟩ (.take ⟨(some 45), (.ld none (.t 44)), (some (36, true))⟩ (.take ⟨(some 46), (.bin .quo (.t 45) (.c (.int .i64 2))), (some (36, true))⟩ (.take ⟨(some 47), (.bin .eql (.t 42) (.t 46)), (some (36, true))⟩ (.take ⟨(some 48), (.pick (.t 36) (.t 47) (.c (.bool false))), (some (32, false))⟩ (.take ⟨(some 49), (.pick (.t 32) (.c (.bool true)) (.t 48)), none⟩ .done)))))))))))))))))))))))))))))))))))) (.cond (.t 49) (.seq (.ops [⟨(some 6), (.nils 1), none⟩, ⟨(some 7), (.mov (.c (.bool false))), none⟩]) .ret) .skip)) (.seq (.seq (.ops [⟨(some 9), (.mov (.c (.int .i64 0))), none⟩]) (.block 0 (.loop (.seq (.seq (.ops [⟨(some 50), (.mov (.t 9)), none⟩, ⟨(some 51), (.mov (.t 8)), none⟩, ⟨(some 52), (.bin .lss (.t 50) (.t 51)), none⟩, ⟨(some 53), (.mov (.t 52)), none⟩, ⟨(some 54), (.mov (.t 9)), (some (53, true))⟩, ⟨(some 55), (.mov (.t 2)), (some (53, true))⟩, ⟨(some 56), (.len (.t 55)), (some (53, true))⟩, ⟨(some 57), (.bin .lss (.t 54) (.t 56)), (some (53, true))⟩, ⟨(some 58), (.pick (.t 53) (.t 57) (.c (.bool false))), none⟩]) (.cond (.t 58) .skip (.exit 0))) (.seq (.block 1 (.seq (.tree (.take ⟨(some 61), (.mov (.t 1)), none⟩ (.take ⟨(some 62), (.mov (.t 9)), none⟩ (.take ⟨(some 63), (.idx 1 (.t 61) (.t 62)), none⟩ (.take ⟨(some 64), (.ld none (.t 63)), none⟩ (.take ⟨(some 65), (.mov (.t 2)), none⟩ (.take ⟨(some 66), (.mov (.t 9)), none⟩ (.take ⟨(some 67), (.idx 1 (.t 65) (.t 66)), none⟩ (.take ⟨(some 68), (.ld none (.t 67)), none⟩ (.take ⟨(some 69), (.bin .neq (.t 64) (.t 68)), none⟩ .done)))))))))) (.cond (.t 69) (.seq (.seq (.tree (.take ⟨(some 70), (.mov (.t 1)), none⟩ (.take ⟨(some 71), (.mov (.t 9)), none⟩ (.take ⟨(some 72), (.idx 1 (.t 70) (.t 71)), none⟩ (.take ⟨(some 73), (.ld none (.t 72)), none⟩ (.take ⟨(some 74), (.mov (.t 2)), none⟩ (.take ⟨(some 75), (.mov (.t 9)), none⟩ (.take ⟨(some 76), (.idx 1 (.t 74) (.t 75)), none⟩ (.take ⟨(some 77), (.ld none (.t 76)), none⟩ (.take ⟨(some 78), (.bin .lss (.t 73) (.t 77)), none⟩ .done)))))))))) (.cond (.t 78) (.seq (.ops [⟨(some 6), (.nils 1), none⟩, ⟨(some 7), (.mov (.c (.bool false))), none⟩]) .ret) .skip)) (.exit 0)) .skip))) (.ops [⟨(some 59), (.mov (.t 9)), none⟩, ⟨(some 60), (.bin .add (.t 59) (.c (.int .i64 1))), none⟩, ⟨(some 9), (.mov (.t 60)), none⟩])))))) (.seq (.seq (.ops [⟨(some 79), (.mov (.t 8)), none⟩, ⟨(some 80), (.mov (.t 0)), none⟩, ⟨(some 81), (.bin .eql (.t 79) (.t 80)), none⟩]) (.cond (.t 81) (.seq (.ops [⟨(some 82), (.mov (.t 1)), none⟩, ⟨(some 83), (.mov (.t 2)), none⟩, ⟨(some 84), (.len (.t 83)), none⟩, ⟨(some 85), (.bin .eql (.t 84) (.c (.int .i64 0))), none⟩, ⟨(some 86), (.mov (.t 85)), none⟩, ⟨(some 87), (.mov (.t 2)), (some (86, false))⟩, ⟨(some 88), (.mov (.t 1)), (some (86, false))⟩, ⟨(some 89), (.call 58 [(.t 87), (.t 88)]), (some (86, false))⟩, ⟨(some 90), (.pick (.t 86) (.c (.bool true)) (.t 89)), none⟩, ⟨(some 6), (.mov (.t 82)), none⟩, ⟨(some 7), (.mov (.t 90)), none⟩]) .ret) .skip)) (.seq (.seq (.ops [⟨(some 10), (.mov (.c (.int .i64 0))), none⟩]) (.block 2 (.loop (.seq (.seq (.ops [⟨(some 91), (.mov (.t 10)), none⟩, ⟨(some 92), (.mov (.t 0)), none⟩, ⟨(some 93), (.bin .lss (.t 91) (.t 92)), none⟩]) (.cond (.t 93) .skip (.exit 2))) (.seq (.block 3 (.seq (.seq (.ops [⟨(some 96), (.mov (.t 1)), none⟩, ⟨(some 97), (.mov (.t 10)), none⟩, ⟨(some 98), (.call 59 [(.t 96), (.t 97)]), none⟩]) (.cond (.t 98) (.exit 3) .skip)) (.seq (.ops [⟨(some 100), (.mov (.t 0)), none⟩, ⟨(some 101), (.mov (.t 1)), none⟩, ⟨(some 102), (.call 60 [(.t 101)]), none⟩, ⟨(some 103), (.mov (.t 10)), none⟩, ⟨(some 104), (.bsl 1 1 [(.int .i64 0)] [(0, (.t 103))]), none⟩, ⟨(some 105), (.app 1 8 (.t 102) (.t 104)), none⟩, ⟨(some 106), (.mov (.t 2)), none⟩, ⟨(some 107), (.call 42 [(.t 100), (.t 105), (.t 106)]), none⟩, ⟨(some 99), (.mov (.t 107)), none⟩, ⟨(some 108), (.ext (.t 99) 0), none⟩, ⟨(some 109), (.ext (.t 99) 1), none⟩, ⟨(some 11), (.mov (.t 108)), none⟩, ⟨(some 12), (.mov (.t 109)), none⟩]) (.seq (.ops [⟨(some 110), (.mov (.t 12)), none⟩]) (.cond (.t 110) (.seq (.ops [⟨(some 111), (.mov (.t 11)), none⟩, ⟨(some 6), (.mov (.t 111)), none⟩, ⟨(some 7), (.mov (.c (.bool true))), none⟩]) .ret) .skip))))) (.ops [⟨(some 94), (.mov (.t 10)), none⟩, ⟨(some 95), (.bin .add (.t 94) (.c (.int .i64 1))), none⟩, ⟨(some 10), (.mov (.t 95)), none⟩])))))) (.seq (.ops [⟨(some 6), (.nils 1), none⟩, ⟨(some 7), (.mov (.c (.bool false))), none⟩]) .ret)))))))
theorem cc42 : ccode Tryd.prog (min Tryd.f42.ntmps pbase) (Tryd.f42.body.getD .skip) = some ac42 := by kernel_rfl
def ac43 : ACode := (.seq (.ops [⟨(some 2), (.mov (.c (.bool false))), none⟩]) (.seq (.ops [⟨(some 3), (.mov (.t 0)), none⟩, ⟨(some 4), (.len (.t 3)), none⟩, ⟨(some 5), (.bin .rem (.t 4) (.c (.int .i64 2))), none⟩, ⟨(some 6), (.bin .eql (.t 5) (.c (.int .i64 0))), none⟩, ⟨(some 7), (.mov (.t 6)), none⟩, ⟨(some 8), (.mov (.t 0)), (some (7, true))⟩, ⟨(some 9), (.len (.t 8)), (some (7, true))⟩, ⟨(some 10), (.bin .quo (.t 9) (.c (.int .i64 2))), (some (7, true))⟩, ⟨(some 11), (.call 35 [(.t 10)]), (some (7, true))⟩, ⟨(some 12), (.pick (.t 7) (.t 11) (.c (.bool false))), none⟩, ⟨(some 13), (.mov (.t 12)), none⟩, ⟨(some 14), (.mov (.t 0)), (some (13, true))⟩, ⟨(some 15), (.mov (.t 0)), (some (13, true))⟩, ⟨(some 16), (.len (.t 15)), (some (13, true))⟩, ⟨(some 17), (.call 61 [(.t 14), (.t 16)]), (some (13, true))⟩, ⟨(some 18), (.pick (.t 13) (.t 17) (.c (.bool false))), none⟩, ⟨(some 2), (.mov (.t 18)), none⟩]) .ret))
theorem cc43 : ccode Tryd.prog (min Tryd.f43.ntmps pbase) (Tryd.f43.body.getD .skip) = some ac43 := by kernel_rfl
def ac44 : ACode := (.seq (.ops [⟨(some 4), (.nils 1), none⟩, ⟨(some 5), (.mov (.c (.bool false))), none⟩]) (.seq (.ops [⟨(some 6), (.mov (.c (.int .i64 0))), none⟩]) (.seq (.block 0 (.loop (.seq (.seq (.tree (.take ⟨(some 7), (.mov (.t 6)), none⟩ (.take ⟨(some 8), (.mov (.t 0)), none⟩ (.take ⟨(some 9), (.len (.t 8)), none⟩ (.take ⟨(some 10), (.bin .sub (.t 9) (.c (.int .i64 1))), none⟩ (.take ⟨(some 11), (.bin .lss (.t 7) (.t 10)), none⟩ (.take ⟨(some 12), (.mov (.t 11)), none⟩ (.take ⟨(some 13), (.mov (.t 1)), (some (12, true))⟩ (.take ⟨(some 14), (.mov (.t 0)), (some (12, true))⟩ (.take ⟨(some 15), (.mov (.t 6)), (some (12, true))⟩ (.take ⟨(some 16), (.cut 1 (.t 14) none (some (.t 15))), (some (12, true))⟩ (.take ⟨(some 17), (.mov (.t 0)), (some (12, true))⟩ (.take ⟨(some 18), (.mov (.t 6)), (some (12, true))⟩ (.take ⟨(some 19), (.idx 1 (.t 17) (.t 18)), (some (12, true))⟩ (.take ⟨(some 20), (.ld none (.t 19)), (some (12, true))⟩ (.take ⟨(some 21), (.callv (.t 13) [(.t 16), (.t 20)]), (some (12, true))⟩ (.take ⟨(some 22), (.pick (.t 12) (.t 21) (.c (.bool false))), none⟩ .done))))))))))))))))) (.cond (.t 22) .skip (.exit 0))) (.block 1 (.ops [⟨(some 23), (.mov (.t 6)), none⟩, ⟨(some 24), (.bin .add (.t 23) (.c (.int .i64 1))), none⟩, ⟨(some 6), (.mov (.t 24)), none⟩]))))) (.seq (.tree (.take ⟨(some 25), (.mov (.t 0)), none⟩ (.take ⟨(some 26), (.len (.t 25)), none⟩ (.take ⟨(some 27), (.mov (.t 0)), none⟩ (.take ⟨(some 28), (.mov (.t 6)), none⟩ (.take ⟨(some 29), (.cut 1 (.t 27) none (some (.t 28))), none⟩ (.take ⟨(some 30), (.mov (.t 0)), none⟩ (.take ⟨(some 31), (.mov (.t 6)), none⟩ (.take ⟨(some 32), (.idx 1 (.t 30) (.t 31)), none⟩ (.take ⟨(some 33), (.ld none (.t 32)), none⟩ (.take ⟨(some 34), (.bin .add (.t 33) (.c (.int .i64 1))), none⟩ (.take ⟨(some 35), (.mov (.t 1)), none⟩ (.take ⟨(some 36), (.call 54 [(.t 26), (.t 29), (.t 34), (.t 35)]), none⟩ (.take ⟨(some 37), (.ext (.t 36) 0), none⟩ (.take ⟨(some 38), (.ext (.t 36) 1), none⟩ (.take ⟨(some 4), (.mov (.t 37)), none⟩ (.take ⟨(some 5), (.mov (.t 38)), none⟩ .done))))))))))))))))) .ret))))
theorem cc44 : ccode Tryd.prog (min Tryd.f44.ntmps pbase) (Tryd.f44.body.getD .skip) = some ac44 := by kernel_rfl
def ac45 : ACode := (.seq (.ops [⟨(some 2), (.mov (.c (.bool false))), none⟩]) (.seq (.ops [⟨(some 6), (.mov (.t 0)), none⟩, ⟨(some 7), (.len (.t 6)), none⟩, ⟨(some 3), (.mov (.t 7)), none⟩]) (.seq (.seq (.ops [⟨(some 8), (.mov (.t 3)), none⟩, ⟨(some 9), (.call 26 [(.t 8), (.c (.int .i64 2)), (.c (.int .i64 14))]), none⟩, ⟨(some 10), (.not (.t 9)), none⟩, ⟨(some 11), (.mov (.t 10)), none⟩, ⟨(some 12), (.mov (.t 3)), (some (11, false))⟩, ⟨(some 13), (.bin .rem (.t 12) (.c (.int .i64 2))), (some (11, false))⟩, ⟨(some 14), (.bin .eql (.t 13) (.c (.int .i64 1))), (some (11, false))⟩, ⟨(some 15), (.pick (.t 11) (.c (.bool true)) (.t 14)), none⟩, ⟨(some 16), (.mov (.t 15)), none⟩, ⟨(some 17), (.mov (.t 0)), (some (16, false))⟩, ⟨(some 18), (.mov (.t 3)), (some (16, false))⟩, ⟨(some 19), (.bin .sub (.t 18) (.c (.int .i64 1))), (some (16, false))⟩, ⟨(some 20), (.call 62 [(.t 17), (.c (.int .i64 0)), (.t 19)]), (some (16, false))⟩, ⟨(some 21), (.not (.t 20)), (some (16, false))⟩, ⟨(some 22), (.pick (.t 16) (.c (.bool true)) (.t 21)), none⟩]) (.cond (.t 22) (.seq (.ops [⟨(some 2), (.mov (.c (.bool false))), none⟩]) .ret) .skip)) (.seq (.seq (.ops [⟨(some 23), (.mov (.t 0)), none⟩, ⟨(some 24), (.len (.t 23)), none⟩, ⟨(some 25), (.mov (.c (.int .i64 0))), none⟩]) (.block 0 (.loop (.seq (.ops [⟨(some 26), (.bin .lss (.t 25) (.t 24)), none⟩]) (.seq (.cond (.t 26) .skip (.exit 0)) (.seq (.block 1 (.seq (.ops [⟨(some 27), (.mov (.t 25)), none⟩, ⟨(some 28), (.idx 1 (.t 23) (.t 25)), none⟩, ⟨(some 29), (.ld none (.t 28)), none⟩, ⟨(some 4), (.mov (.t 27)), none⟩, ⟨(some 5), (.mov (.t 29)), none⟩]) (.seq (.ops [⟨(some 30), (.mov (.t 0)), none⟩, ⟨(some 31), (.mov (.t 4)), none⟩, ⟨(some 32), (.cut 1 (.t 30) none (some (.t 31))), none⟩, ⟨(some 33), (.mov (.t 5)), none⟩, ⟨(some 34), (.call 59 [(.t 32), (.t 33)]), none⟩]) (.cond (.t 34) (.seq (.ops [⟨(some 2), (.mov (.c (.bool false))), none⟩]) .ret) .skip)))) (.ops [⟨(some 35), (.bin .add (.t 25) (.c (.int .i64 1))), none⟩, ⟨(some 25), (.mov (.t 35)), none⟩]))))))) (.seq (.ops [⟨(some 2), (.mov (.c (.bool true))), none⟩]) .ret)))))
theorem cc45 : ccode Tryd.prog (min Tryd.f45.ntmps pbase) (Tryd.f45.body.getD .skip) = some ac45 := by kernel_rfl
def ac46 : ACode := (.seq (.ops [⟨(some 2), (.mov (.c (.int .u16 0))), none⟩]) (.seq (.ops [⟨(some 6), (.mov (.t 0)), none⟩, ⟨(some 7), (.call 63 [(.t 6)]), none⟩, ⟨(some 3), (.mov (.t 7)), none⟩]) (.seq (.tree (.take ⟨(some 8), (.mov (.t 0)), none⟩ (.take ⟨(some 9), (.idx 1 (.t 8) (.c (.int .i64 0))), none⟩ (.take ⟨(some 10), (.ld none (.t 9)), none⟩ (.take ⟨(some 11), (.mov (.t 0)), none⟩ (.take ⟨(some 12), (.mov (.t 0)), none⟩ (.take ⟨(some 13), (.len (.t 12)), none⟩ (.take ⟨(some 14), (.bin .sub (.t 13) (.c (.int .i64 1))), none⟩ (.take ⟨(some 15), (.idx 1 (.t 11) (.t 14)), none⟩ (.take ⟨(some 16), (.ld none (.t 15)), none⟩ (.take ⟨(some 4), (.mov (.t 10)), none⟩ (.take ⟨(some 5), (.mov (.t 16)), none⟩ .done)))))))))))) (.seq (.seq (.ops [⟨(some 17), (.mov (.t 4)), none⟩, ⟨(some 18), (.mov (.t 5)), none⟩, ⟨(some 19), (.call 57 [(.t 17), (.t 18)]), none⟩]) (.cond (.t 19) (.ops [⟨(some 20), (.mov (.t 3)), none⟩, ⟨(some 21), (.mov (.t 4)), none⟩, ⟨(some 22), (.bin .quo (.t 21) (.c (.int .i64 2))), none⟩, ⟨(some 23), (.call 64 [(.t 20), (.t 22)]), none⟩, ⟨(some 3), (.mov (.t 23)), none⟩]) .skip)) (.seq (.ops [⟨(some 24), (.mov (.t 3)), none⟩, ⟨(some 2), (.mov (.t 24)), none⟩]) .ret)))))
theorem cc46 : ccode Tryd.prog (min Tryd.f46.ntmps pbase) (Tryd.f46.body.getD .skip) = some ac46 := by kernel_rfl
def ac47 : ACode := (.seq (.ops [⟨(some 2), (.nils 1), none⟩]) (.seq (.ops [⟨(some 3), (.nils 1), none⟩]) (.seq (.seq (.ops [⟨(some 5), (.mov (.c (.int .i64 0))), none⟩]) (.block 0 (.loop (.seq (.ops [⟨(some 6), (.bin .lss (.t 5) (.c (.int .i64 12))), none⟩]) (.seq (.cond (.t 6) .skip (.exit 0)) (.seq (.block 1 (.seq (.ops [⟨(some 7), (.mov (.t 5)), none⟩, ⟨(some 4), (.mov (.t 7)), none⟩]) (.seq (.ops [⟨(some 8), (.mov (.t 0)), none⟩, ⟨(some 9), (.mov (.t 4)), none⟩, ⟨(some 10), (.call 65 [(.t 8), (.t 9)]), none⟩]) (.cond (.t 10) (.ops [⟨(some 11), (.mov (.t 3)), none⟩, ⟨(some 12), (.mov (.t 4)), none⟩, ⟨(some 13), (.bsl 1 1 [(.int .i64 0)] [(0, (.t 12))]), none⟩, ⟨(some 14), (.app 1 8 (.t 11) (.t 13)), none⟩, ⟨(some 3), (.mov (.t 14)), none⟩]) .skip)))) (.ops [⟨(some 15), (.bin .add (.t 5) (.c (.int .i64 1))), none⟩, ⟨(some 5), (.mov (.t 15)), none⟩]))))))) (.seq (.ops [⟨(some 16), (.mov (.t 3)), none⟩, ⟨(some 2), (.mov (.t 16)), none⟩]) .ret))))
theorem cc47 : ccode Tryd.prog (min Tryd.f47.ntmps pbase) (Tryd.f47.body.getD .skip) = some ac47 := by kernel_rfl
def ac48 : ACode := (.seq (.ops [⟨(some 2), (.mov (.c (.int .i64 0))), none⟩]) (.seq (.ops [⟨(some 3), (.mov (.t 0)), none⟩, ⟨(some 4), (.bin .sub (.t 3) (.c (.int .i64 1))), none⟩, ⟨(some 5), (.call 30 [(.t 4)]), none⟩, ⟨(some 2), (.mov (.t 5)), none⟩]) .ret))
theorem cc48 : ccode Tryd.prog (min Tryd.f48.ntmps pbase) (Tryd.f48.body.getD .skip) = some ac48 := by kernel_rfl
def ac49 : ACode := (.seq (.ops [⟨(some 4), (.mov (.c (.int .i64 0))), none⟩]) (.seq (.ops [⟨(some 5), (.mov (.t 0)), none⟩, ⟨(some 6), (.call 30 [(.t 5)]), none⟩, ⟨(some 7), (.mov (.t 1)), none⟩, ⟨(some 8), (.call 30 [(.t 7)]), none⟩, ⟨(some 9), (.mov (.t 0)), none⟩, ⟨(some 10), (.mov (.t 1)), none⟩, ⟨(some 11), (.bin .sub (.t 9) (.t 10)), none⟩, ⟨(some 12), (.call 30 [(.t 11)]), none⟩, ⟨(some 13), (.bin .mul (.t 8) (.t 12)), none⟩, ⟨(some 14), (.bin .quo (.t 6) (.t 13)), none⟩, ⟨(some 4), (.mov (.t 14)), none⟩]) .ret))
theorem cc49 : ccode Tryd.prog (min Tryd.f49.ntmps pbase) (Tryd.f49.body.getD .skip) = some ac49 := by kernel_rfl
def ac50 : ACode := (.seq (.ops [⟨(some 2), (.nils 1), none⟩]) (.seq (.ops [⟨(some 6), (.mov (.t 0)), none⟩, ⟨(some 7), (.call 66 [(.t 6)]), none⟩, ⟨(some 3), (.mov (.t 7)), none⟩]) (.seq (.seq (.ops [⟨(some 8), (.mov (.t 3)), none⟩, ⟨(some 9), (.len (.t 8)), none⟩, ⟨(some 10), (.bin .sub (.t 9) (.c (.int .i64 1))), none⟩, ⟨(some 4), (.mov (.t 10)), none⟩]) (.block 0 (.loop (.seq (.seq (.ops [⟨(some 11), (.mov (.t 4)), none⟩, ⟨(some 12), (.bin .geq (.t 11) (.c (.int .i64 0))), none⟩]) (.cond (.t 12) .skip (.exit 0))) (.seq (.block 1 (.seq (.ops [⟨(some 15), (.mov (.t 4)), none⟩, ⟨(some 16), (.bin .add (.t 15) (.c (.int .i64 1))), none⟩, ⟨(some 5), (.mov (.t 16)), none⟩]) (.block 2 (.loop (.seq (.seq (.ops [⟨(some 17), (.mov (.t 5)), none⟩, ⟨(some 18), (.mov (.t 3)), none⟩, ⟨(some 19), (.len (.t 18)), none⟩, ⟨(some 20), (.bin .lss (.t 17) (.t 19)), none⟩]) (.cond (.t 20) .skip (.exit 2))) (.seq (.block 3 (.tree (.take ⟨(some 23), (.mov (.t 3)), none⟩ (.take ⟨(some 24), (.mov (.t 4)), none⟩ (.take ⟨(some 25), (.idx 1 (.t 23) (.t 24)), none⟩ (.take ⟨(some 26), (.ld none (.t 25)), none⟩ (.take ⟨(some 27), (.mov (.t 5)), none⟩ (.take ⟨(some 28), (.mov (.t 4)), none⟩ (.take ⟨(some 29), (.call 49 [(.t 27), (.t 28)]), none⟩ (.take ⟨(some 30), (.mov (.t 3)), none⟩ (.take ⟨(some 31), (.mov (.t 5)), none⟩ (.take ⟨(some 32), (.idx 1 (.t 30) (.t 31)), none⟩ (.take ⟨(some 33), (.ld none (.t 32)), none⟩ (.take ⟨(some 34), (.bin .mul (.t 29) (.t 33)), none⟩ (.take ⟨(some 35), (.bin .sub (.t 26) (.t 34)), none⟩ (.take ⟨(some 36), (.idx 1 (.t 23) (.t 24)), none⟩ (.take ⟨none, (.st 1 (.t 36) (.t 35)), none⟩ .done))))))))))))))))) (.ops [⟨(some 21), (.mov (.t 5)), none⟩, ⟨(some 22), (.bin .add (.t 21) (.c (.int .i64 1))), none⟩, ⟨(some 5), (.mov (.t 22)), none⟩]))))))) (.ops [⟨(some 13), (.mov (.t 4)), none⟩, ⟨(some 14), (.bin .sub (.t 13) (.c (.int .i64 1))), none⟩, ⟨(some 4), (.mov (.t 14)), none⟩])))))) (.seq (.ops [⟨(some 37), (.mov (.t 3)), none⟩, ⟨(some 2), (.mov (.t 37)), none⟩]) .ret))))
theorem cc50 : ccode Tryd.prog (min Tryd.f50.ntmps pbase) (Tryd.f50.body.getD .skip) = some ac50 := by kernel_rfl
def ac51 : ACode := (.seq (.ops [⟨(some 1), (.box 1 (.t 0)), none⟩, ⟨(some 2), (.mov (.c (.string (.mk #[])))), none⟩, ⟨(some 3), (.mov (.c (.bool false))), none⟩]) (.seq (.seq (.ops [⟨(some 4), (.ld none (.t 1)), none⟩, ⟨(some 5), (.call 67 [(.t 4)]), none⟩, ⟨(some 6), (.not (.t 5)), none⟩]) (.cond (.t 6) (.seq (.ops [⟨(some 2), (.mov (.c (.string (.mk #[])))), none⟩, ⟨(some 3), (.mov (.c (.bool false))), none⟩]) .ret) .skip)) (.seq (.ops [⟨(some 7), (.ld none (.t 1)), none⟩, ⟨(some 8), (.mkf 69 0 [(.t 1)]), none⟩, ⟨(some 9), (.call 68 [(.t 7), (.t 8)]), none⟩, ⟨(some 2), (.mov (.t 9)), none⟩, ⟨(some 3), (.mov (.c (.bool true))), none⟩]) .ret)))
theorem cc51 : ccode Tryd.prog (min Tryd.f51.ntmps pbase) (Tryd.f51.body.getD .skip) = some ac51 := by kernel_rfl
def ac52 : ACode := (.seq (.ops [⟨(some 2), (.nils 1), none⟩, ⟨(some 3), (.mov (.c (.bool false))), none⟩]) (.seq (.ops [⟨(some 7), (.mov (.t 0)), none⟩, ⟨(some 8), (.call 70 [(.t 7)]), none⟩, ⟨(some 6), (.mov (.t 8)), none⟩, ⟨(some 9), (.ext (.t 6) 0), none⟩, ⟨(some 10), (.ext (.t 6) 1), none⟩, ⟨(some 4), (.alloc [(.int .i64 0), (.map none)]), none⟩, ⟨none, (.st 2 (.t 4) (.t 9)), none⟩, ⟨(some 5), (.mov (.t 10)), none⟩]) (.seq (.seq (.ops [⟨(some 11), (.mov (.t 5)), none⟩, ⟨(some 12), (.not (.t 11)), none⟩]) (.cond (.t 12) (.seq (.ops [⟨(some 2), (.nils 1), none⟩, ⟨(some 3), (.mov (.c (.bool false))), none⟩]) .ret) .skip)) (.seq (.ops [⟨(some 13), (.ld (some 2) (.t 4)), none⟩, ⟨(some 14), (.call 71 [(.t 13)]), none⟩, ⟨(some 2), (.mov (.t 14)), none⟩, ⟨(some 3), (.mov (.c (.bool true))), none⟩]) .ret))))
theorem cc52 : ccode Tryd.prog (min Tryd.f52.ntmps pbase) (Tryd.f52.body.getD .skip) = some ac52 := by kernel_rfl
def ac53 : ACode := (.seq (.ops [⟨(some 4), (.mov (.c (.int .i64 0))), none⟩]) (.seq (.block 0 (.loop (.seq (.seq (.ops [⟨(some 5), (.mov (.t 1)), none⟩, ⟨(some 6), (.bin .neq (.t 5) (.c (.int .i64 0))), none⟩]) (.cond (.t 6) .skip (.exit 0))) (.block 1 (.tree (.take ⟨(some 7), (.mov (.t 1)), none⟩ (.take ⟨(some 8), (.mov (.t 0)), none⟩ (.take ⟨(some 9), (.mov (.t 1)), none⟩ (.take ⟨(some 10), (.bin .rem (.t 8) (.t 9)), none⟩ (.take ⟨(some 0), (.mov (.t 7)), none⟩ (.take ⟨(some 1), (.mov (.t 10)), none⟩ .done))))))))))) (.seq (.ops [⟨(some 11), (.mov (.t 0)), none⟩, ⟨(some 4), (.mov (.t 11)), none⟩]) .ret)))
theorem cc53 : ccode Tryd.prog (min Tryd.f53.ntmps pbase) (Tryd.f53.body.getD .skip) = some ac53 := by kernel_rfl
def ac54 : ACode := (.seq (.ops [⟨(some 8), (.nils 1), none⟩, ⟨(some 9), (.mov (.c (.bool false))), none⟩]) (.scope (.seq (.ops [⟨(some 13), (.mov (.t 1)), none⟩, ⟨(some 14), (.call 66 [(.t 13)]), none⟩, ⟨(some 10), (.mov (.t 14)), none⟩]) (.seq (.ops [⟨(some 15), (.mov (.t 2)), none⟩, ⟨(some 11), (.mov (.t 15)), none⟩]) (.seq (.label 0) (.seq (.block 0 (.loop (.block 1 (.block 2 (.seq (.ops [⟨(some 28), (.mov (.t 10)), none⟩, ⟨(some 29), (.len (.t 28)), none⟩, ⟨(some 30), (.mov (.t 0)), none⟩, ⟨(some 31), (.bin .eql (.t 29) (.t 30)), none⟩, ⟨(some 27), (.mov (.t 31)), none⟩]) (.cond (.t 27) (.exit 0) (.seq (.ops [⟨(some 33), (.mov (.t 11)), none⟩, ⟨(some 34), (.mov (.t 0)), none⟩, ⟨(some 35), (.bin .lss (.t 33) (.t 34)), none⟩, ⟨(some 36), (.mov (.t 35)), none⟩, ⟨(some 37), (.mov (.t 3)), (some (36, true))⟩, ⟨(some 38), (.mov (.t 10)), (some (36, true))⟩, ⟨(some 39), (.mov (.t 11)), (some (36, true))⟩, ⟨(some 40), (.callv (.t 37) [(.t 38), (.t 39)]), (some (36, true))⟩, ⟨(some 41), (.pick (.t 36) (.t 40) (.c (.bool false))), none⟩, ⟨(some 32), (.mov (.t 41)), none⟩]) (.cond (.t 32) (.seq (.ops [⟨(some 42), (.mov (.t 10)), none⟩, ⟨(some 43), (.mov (.t 11)), none⟩, ⟨(some 44), (.bsl 1 1 [(.int .i64 0)] [(0, (.t 43))]), none⟩, ⟨(some 45), (.app 1 8 (.t 42) (.t 44)), none⟩, ⟨(some 10), (.mov (.t 45)), none⟩]) (.ops [⟨(some 11), (.mov (.c (.int .i64 0))), none⟩])) (.seq (.ops [⟨(some 47), (.mov (.t 11)), none⟩, ⟨(some 48), (.mov (.t 0)), none⟩, ⟨(some 49), (.bin .lss (.t 47) (.t 48)), none⟩, ⟨(some 46), (.mov (.t 49)), none⟩]) (.cond (.t 46) (.ops [⟨(some 50), (.mov (.t 11)), none⟩, ⟨(some 51), (.bin .add (.t 50) (.c (.int .i64 1))), none⟩, ⟨(some 11), (.mov (.t 51)), none⟩]) (.seq (.ops [⟨(some 53), (.mov (.t 10)), none⟩, ⟨(some 54), (.len (.t 53)), none⟩, ⟨(some 55), (.bin .eql (.t 54) (.c (.int .i64 0))), none⟩, ⟨(some 52), (.mov (.t 55)), none⟩]) (.cond (.t 52) (.seq (.ops [⟨(some 8), (.nils 1), none⟩, ⟨(some 9), (.mov (.c (.bool false))), none⟩]) .ret) (.seq (.ops [⟨(some 16), (.mov (.t 10)), none⟩, ⟨(some 17), (.len (.t 16)), none⟩, ⟨(some 18), (.bin .sub (.t 17) (.c (.int .i64 1))), none⟩, ⟨(some 12), (.mov (.t 18)), none⟩]) (.seq (.ops [⟨(some 19), (.mov (.t 10)), none⟩, ⟨(some 20), (.mov (.t 12)), none⟩, ⟨(some 21), (.idx 1 (.t 19) (.t 20)), none⟩, ⟨(some 22), (.ld none (.t 21)), none⟩, ⟨(some 23), (.bin .add (.t 22) (.c (.int .i64 1))), none⟩, ⟨(some 11), (.mov (.t 23)), none⟩]) (.ops [⟨(some 24), (.mov (.t 10)), none⟩, ⟨(some 25), (.mov (.t 12)), none⟩, ⟨(some 26), (.cut 1 (.t 24) none (some (.t 25))), none⟩, ⟨(some 10), (.mov (.t 26)), none⟩]))))))))))))))) (.seq (.ops [⟨(some 56), (.mov (.t 10)), none⟩, ⟨(some 8), (.mov (.t 56)), none⟩, ⟨(some 9), (.mov (.c (.bool true))), none⟩]) .ret)))))))
theorem cc54 : ccode Tryd.prog (min Tryd.f54.ntmps pbase) (Tryd.f54.body.getD .skip) = some ac54 := by kernel_rfl
def ac55 : ACode := (.seq (.ops [⟨(some 5), (.mov (.c (.bool false))), none⟩]) (.seq (.seq (.ops [⟨(some 6), (.mov (.t 0)), none⟩, ⟨(some 7), (.len (.t 6)), none⟩, ⟨(some 8), (.bin .eql (.t 7) (.c (.int .i64 0))), none⟩]) (.cond (.t 8) (.seq (.ops [⟨(some 9), (.mov (.t 1)), none⟩, ⟨(some 10), (.bin .eql (.t 9) (.c (.int .i64 0))), none⟩, ⟨(some 5), (.mov (.t 10)), none⟩]) .ret) .skip)) (.seq (.seq (.ops [⟨(some 11), (.mov (.t 0)), none⟩, ⟨(some 12), (.mov (.t 1)), none⟩, ⟨(some 13), (.call 56 [(.t 11), (.t 12)]), none⟩, ⟨(some 14), (.mov (.t 13)), none⟩, ⟨(some 15), (.mov (.t 0)), (some (14, false))⟩, ⟨(some 16), (.mov (.t 0)), (some (14, false))⟩, ⟨(some 17), (.len (.t 16)), (some (14, false))⟩, ⟨(some 18), (.bin .sub (.t 17) (.c (.int .i64 1))), (some (14, false))⟩, ⟨(some 19), (.idx 1 (.t 15) (.t 18)), (some (14, false))⟩, ⟨(some 20), (.ld none (.t 19)), (some (14, false))⟩, ⟨(some 21), (.mov (.t 1)), (some (14, false))⟩, ⟨(some 22), (.call 57 [(.t 20), (.t 21)]), (some (14, false))⟩, ⟨(some 23), (.pick (.t 14) (.c (.bool true)) (.t 22)), none⟩]) (.cond (.t 23) (.seq (.ops [⟨(some 5), (.mov (.c (.bool false))), none⟩]) .ret) .skip)) (.seq (.ops [⟨(some 24), (.mov (.t 0)), none⟩, ⟨(some 25), (.len (.t 24)), none⟩, ⟨(some 26), (.ld none (.t 2)), none⟩, ⟨(some 27), (.bin .sub (.t 26) (.c (.int .i64 1))), none⟩, ⟨(some 28), (.bin .lss (.t 25) (.t 27)), none⟩, ⟨(some 29), (.mov (.t 28)), none⟩, ⟨(some 30), (.mov (.t 0)), (some (29, false))⟩, ⟨(some 31), (.idx 1 (.t 30) (.c (.int .i64 0))), (some (29, false))⟩, ⟨(some 32), (.ld none (.t 31)), (some (29, false))⟩, ⟨(some 33), (.mov (.t 1)), (some (29, false))⟩, ⟨(some 34), (.call 57 [(.t 32), (.t 33)]), (some (29, false))⟩, ⟨(some 35), (.not (.t 34)), (some (29, false))⟩, ⟨(some 36), (.pick (.t 29) (.c (.bool true)) (.t 35)), none⟩, ⟨(some 5), (.mov (.t 36)), none⟩]) .ret))))
theorem cc55 : ccode Tryd.prog (min Tryd.f55.ntmps pbase) (Tryd.f55.body.getD .skip) = some ac55 := by kernel_rfl
def ac56 : ACode := (.seq (.ops [⟨(some 4), (.mov (.c (.bool false))), none⟩]) (.seq (.ops [⟨(some 5), (.mov (.t 0)), none⟩, ⟨(some 6), (.mov (.t 1)), none⟩, ⟨(some 7), (.call 72 [(.t 5), (.t 6)]), none⟩, ⟨(some 8), (.bin .geq (.t 7) (.c (.int .i64 0))), none⟩, ⟨(some 4), (.mov (.t 8)), none⟩]) .ret))
theorem cc56 : ccode Tryd.prog (min Tryd.f56.ntmps pbase) (Tryd.f56.body.getD .skip) = some ac56 := by kernel_rfl
def ac57 : ACode := (.seq (.ops [⟨(some 4), (.mov (.c (.bool false))), none⟩]) (.seq (.ops [⟨(some 5), (.mov (.t 0)), none⟩, ⟨(some 6), (.bin .quo (.t 5) (.c (.int .i64 2))), none⟩, ⟨(some 7), (.mov (.t 1)), none⟩, ⟨(some 8), (.bin .quo (.t 7) (.c (.int .i64 2))), none⟩, ⟨(some 9), (.bin .eql (.t 6) (.t 8)), none⟩, ⟨(some 4), (.mov (.t 9)), none⟩]) .ret))
theorem cc57 : ccode Tryd.prog (min Tryd.f57.ntmps pbase) (Tryd.f57.body.getD .skip) = some ac57 := by kernel_rfl
def ac58 : ACode := (.seq (.ops [⟨(some 4), (.mov (.c (.bool false))), none⟩]) (.seq (.seq (.ops [⟨(some 7), (.mov (.t 0)), none⟩, ⟨(some 8), (.len (.t 7)), none⟩, ⟨(some 9), (.mov (.c (.int .i64 0))), none⟩]) (.block 0 (.loop (.seq (.ops [⟨(some 10), (.bin .lss (.t 9) (.t 8)), none⟩]) (.seq (.cond (.t 10) .skip (.exit 0)) (.seq (.block 1 (.seq (.ops [⟨(some 11), (.mov (.t 9)), none⟩, ⟨(some 12), (.idx 1 (.t 7) (.t 9)), none⟩, ⟨(some 13), (.ld none (.t 12)), none⟩, ⟨(some 5), (.mov (.t 11)), none⟩, ⟨(some 6), (.mov (.t 13)), none⟩]) (.seq (.ops [⟨(some 14), (.mov (.t 6)), none⟩, ⟨(some 15), (.mov (.t 1)), none⟩, ⟨(some 16), (.mov (.t 5)), none⟩, ⟨(some 17), (.idx 1 (.t 15) (.t 16)), none⟩, ⟨(some 18), (.ld none (.t 17)), none⟩, ⟨(some 19), (.bin .neq (.t 14) (.t 18)), none⟩]) (.cond (.t 19) (.seq (.ops [⟨(some 20), (.mov (.t 6)), none⟩, ⟨(some 21), (.mov (.t 1)), none⟩, ⟨(some 22), (.mov (.t 5)), none⟩, ⟨(some 23), (.idx 1 (.t 21) (.t 22)), none⟩, ⟨(some 24), (.ld none (.t 23)), none⟩, ⟨(some 25), (.bin .lss (.t 20) (.t 24)), none⟩, ⟨(some 4), (.mov (.t 25)), none⟩]) .ret) .skip)))) (.ops [⟨(some 26), (.bin .add (.t 9) (.c (.int .i64 1))), none⟩, ⟨(some 9), (.mov (.t 26)), none⟩]))))))) (.seq (.ops [⟨(some 4), (.mov (.c (.bool false))), none⟩]) .ret)))
theorem cc58 : ccode Tryd.prog (min Tryd.f58.ntmps pbase) (Tryd.f58.body.getD .skip) = some ac58 := by kernel_rfl
def ac59 : ACode := (.seq (.ops [⟨(some 4), (.mov (.c (.bool false))), none⟩]) (.seq (.seq (.ops [⟨(some 7), (.mov (.t 0)), none⟩, ⟨(some 8), (.len (.t 7)), none⟩, ⟨(some 9), (.mov (.c (.int .i64 0))), none⟩]) (.block 0 (.loop (.seq (.ops [⟨(some 10), (.bin .lss (.t 9) (.t 8)), none⟩]) (.seq (.cond (.t 10) .skip (.exit 0)) (.seq (.block 1 (.seq (.ops [⟨(some 11), (.idx 1 (.t 7) (.t 9)), none⟩, ⟨(some 12), (.ld none (.t 11)), none⟩, ⟨(some 6), (.mov (.t 12)), none⟩]) (.seq (.ops [⟨(some 13), (.mov (.t 6)), none⟩, ⟨(some 14), (.mov (.t 1)), none⟩, ⟨(some 15), (.bin .eql (.t 13) (.t 14)), none⟩]) (.cond (.t 15) (.seq (.ops [⟨(some 4), (.mov (.c (.bool true))), none⟩]) .ret) .skip)))) (.ops [⟨(some 16), (.bin .add (.t 9) (.c (.int .i64 1))), none⟩, ⟨(some 9), (.mov (.t 16)), none⟩]))))))) (.seq (.ops [⟨(some 4), (.mov (.c (.bool false))), none⟩]) .ret)))
theorem cc59 : ccode Tryd.prog (min Tryd.f59.ntmps pbase) (Tryd.f59.body.getD .skip) = some ac59 := by kernel_rfl
def ac60 : ACode := (.seq (.ops [⟨(some 2), (.nils 1), none⟩]) (.seq (.ops [⟨(some 3), (.bsl 1 0 [(.int .i64 0)] []), none⟩, ⟨(some 4), (.mov (.t 0)), none⟩, ⟨(some 5), (.app 1 8 (.t 3) (.t 4)), none⟩, ⟨(some 2), (.mov (.t 5)), none⟩]) .ret))
theorem cc60 : ccode Tryd.prog (min Tryd.f60.ntmps pbase) (Tryd.f60.body.getD .skip) = some ac60 := by kernel_rfl
def ac61 : ACode := (.seq (.ops [⟨(some 4), (.mov (.c (.bool false))), none⟩]) (.seq (.ops [⟨(some 5), (.mov (.c (.int .u16 0))), none⟩]) (.seq (.seq (.ops [⟨(some 8), (.mov (.t 0)), none⟩, ⟨(some 9), (.len (.t 8)), none⟩, ⟨(some 10), (.mov (.c (.int .i64 0))), none⟩]) (.block 0 (.loop (.seq (.ops [⟨(some 11), (.bin .lss (.t 10) (.t 9)), none⟩]) (.seq (.cond (.t 11) .skip (.exit 0)) (.seq (.block 1 (.seq (.ops [⟨(some 12), (.idx 1 (.t 8) (.t 10)), none⟩, ⟨(some 13), (.ld none (.t 12)), none⟩, ⟨(some 7), (.mov (.t 13)), none⟩]) (.seq (.seq (.ops [⟨(some 14), (.mov (.t 7)), none⟩, ⟨(some 15), (.mov (.t 1)), none⟩, ⟨(some 16), (.call 73 [(.t 14), (.t 15)]), none⟩, ⟨(some 17), (.not (.t 16)), none⟩, ⟨(some 18), (.mov (.t 17)), none⟩, ⟨(some 19), (.mov (.t 5)), (some (18, false))⟩, ⟨(some 20), (.mov (.t 7)), (some (18, false))⟩, ⟨(some 21), (.call 65 [(.t 19), (.t 20)]), (some (18, false))⟩, ⟨(some 22), (.pick (.t 18) (.c (.bool true)) (.t 21)), none⟩]) (.cond (.t 22) (.seq (.ops [⟨(some 4), (.mov (.c (.bool false))), none⟩]) .ret) .skip)) (.ops [⟨(some 23), (.mov (.t 5)), none⟩, ⟨(some 24), (.mov (.t 7)), none⟩, ⟨(some 25), (.call 64 [(.t 23), (.t 24)]), none⟩, ⟨(some 5), (.mov (.t 25)), none⟩])))) (.ops [⟨(some 26), (.bin .add (.t 10) (.c (.int .i64 1))), none⟩, ⟨(some 10), (.mov (.t 26)), none⟩]))))))) (.seq (.ops [⟨(some 4), (.mov (.c (.bool true))), none⟩]) .ret))))
theorem cc61 : ccode Tryd.prog (min Tryd.f61.ntmps pbase) (Tryd.f61.body.getD .skip) = some ac61 := by kernel_rfl
def ac62 : ACode := (.seq (.ops [⟨(some 6), (.mov (.c (.bool false))), none⟩]) (.seq (.seq (.ops [⟨(some 9), (.mov (.t 0)), none⟩, ⟨(some 10), (.len (.t 9)), none⟩, ⟨(some 11), (.mov (.c (.int .i64 0))), none⟩]) (.block 0 (.loop (.seq (.ops [⟨(some 12), (.bin .lss (.t 11) (.t 10)), none⟩]) (.seq (.cond (.t 12) .skip (.exit 0)) (.seq (.block 1 (.seq (.ops [⟨(some 13), (.idx 1 (.t 9) (.t 11)), none⟩, ⟨(some 14), (.ld none (.t 13)), none⟩, ⟨(some 8), (.mov (.t 14)), none⟩]) (.seq (.ops [⟨(some 15), (.mov (.t 8)), none⟩, ⟨(some 16), (.mov (.t 1)), none⟩, ⟨(some 17), (.mov (.t 2)), none⟩, ⟨(some 18), (.call 26 [(.t 15), (.t 16), (.t 17)]), none⟩, ⟨(some 19), (.not (.t 18)), none⟩]) (.cond (.t 19) (.seq (.ops [⟨(some 6), (.mov (.c (.bool false))), none⟩]) .ret) .skip)))) (.ops [⟨(some 20), (.bin .add (.t 11) (.c (.int .i64 1))), none⟩, ⟨(some 11), (.mov (.t 20)), none⟩]))))))) (.seq (.ops [⟨(some 6), (.mov (.c (.bool true))), none⟩]) .ret)))
theorem cc62 : ccode Tryd.prog (min Tryd.f62.ntmps pbase) (Tryd.f62.body.getD .skip) = some ac62 := by kernel_rfl
def ac63 : ACode := (.seq (.ops [⟨(some 2), (.mov (.c (.int .u16 0))), none⟩]) (.seq (.ops [⟨(some 3), (.mov (.c (.int .u16 0))), none⟩]) (.seq (.seq (.ops [⟨(some 4), (.mov (.c (.int .i64 1))), none⟩]) (.block 0 (.loop (.seq (.seq (.ops [⟨(some 5), (.mov (.t 4)), none⟩, ⟨(some 6), (.mov (.t 0)), none⟩, ⟨(some 7), (.len (.t 6)), none⟩, ⟨(some 8), (.bin .lss (.t 5) (.t 7)), none⟩]) (.cond (.t 8) .skip (.exit 0))) (.seq (.block 1 (.seq (.tree (.take ⟨(some 11), (.mov (.t 0)), none⟩ (.take ⟨(some 12), (.mov (.t 4)), none⟩ (.take ⟨(some 13), (.bin .sub (.t 12) (.c (.int .i64 1))), none⟩ (.take ⟨(some 14), (.idx 1 (.t 11) (.t 13)), none⟩ (.take ⟨(some 15), (.ld none (.t 14)), none⟩ (.take ⟨(some 16), (.mov (.t 0)), none⟩ (.take ⟨(some 17), (.mov (.t 4)), none⟩ (.take ⟨(some 18), (.idx 1 (.t 16) (.t 17)), none⟩ (.take ⟨(some 19), (.ld none (.t 18)), none⟩ (.take ⟨(some 20), (.call 57 [(.t 15), (.t 19)]), none⟩ .done))))))))))) (.cond (.t 20) (.ops [⟨(some 21), (.mov (.t 3)), none⟩, ⟨(some 22), (.mov (.t 0)), none⟩, ⟨(some 23), (.mov (.t 4)), none⟩, ⟨(some 24), (.idx 1 (.t 22) (.t 23)), none⟩, ⟨(some 25), (.ld none (.t 24)), none⟩, ⟨(some 26), (.bin .quo (.t 25) (.c (.int .i64 2))), none⟩, ⟨(some 27), (.call 64 [(.t 21), (.t 26)]), none⟩, ⟨(some 3), (.mov (.t 27)), none⟩]) .skip))) (.ops [⟨(some 9), (.mov (.t 4)), none⟩, ⟨(some 10), (.bin .add (.t 9) (.c (.int .i64 1))), none⟩, ⟨(some 4), (.mov (.t 10)), none⟩])))))) (.seq (.ops [⟨(some 28), (.mov (.t 3)), none⟩, ⟨(some 2), (.mov (.t 28)), none⟩]) .ret))))
theorem cc63 : ccode Tryd.prog (min Tryd.f63.ntmps pbase) (Tryd.f63.body.getD .skip) = some ac63 := by kernel_rfl
def ac64 : ACode := (.seq (.ops [⟨(some 4), (.mov (.c (.int .u16 0))), none⟩]) (.seq (.ops [⟨(some 5), (.mov (.t 0)), none⟩, ⟨(some 6), (.mov (.t 1)), none⟩, ⟨(some 7), (.bin .shl (.c (.int .u16 1)) (.t 6)), none⟩, ⟨(some 8), (.bin .or (.t 5) (.t 7)), none⟩, ⟨(some 4), (.mov (.t 8)), none⟩]) .ret))
theorem cc64 : ccode Tryd.prog (min Tryd.f64.ntmps pbase) (Tryd.f64.body.getD .skip) = some ac64 := by kernel_rfl
def ac65 : ACode := (.seq (.ops [⟨(some 4), (.mov (.c (.bool false))), none⟩]) (.seq (.ops [⟨(some 5), (.mov (.t 0)), none⟩, ⟨(some 6), (.mov (.t 1)), none⟩, ⟨(some 7), (.bin .shr (.t 5) (.t 6)), none⟩, ⟨(some 8), (.bin .and (.t 7) (.c (.int .u16 1))), none⟩, ⟨(some 9), (.bin .eql (.t 8) (.c (.int .u16 1))), none⟩, ⟨(some 4), (.mov (.t 9)), none⟩]) .ret))
theorem cc65 : ccode Tryd.prog (min Tryd.f65.ntmps pbase) (Tryd.f65.body.getD .skip) = some ac65 := by kernel_rfl
def ac66 : ACode := (.seq (.ops [⟨(some 2), (.nils 1), none⟩]) (.seq (.seq (.ops [⟨(some 3), (.mov (.t 0)), none⟩, ⟨(some 4), (.isnil false (.t 3)), none⟩]) (.cond (.t 4) (.seq (.ops [⟨(some 2), (.nils 1), none⟩]) .ret) .skip)) (.seq (.ops [⟨(some 5), (.bsl 1 0 [(.int .i64 0)] []), none⟩, ⟨(some 6), (.mov (.t 0)), none⟩, ⟨(some 7), (.app 1 8 (.t 5) (.t 6)), none⟩, ⟨(some 2), (.mov (.t 7)), none⟩]) .ret)))
theorem cc66 : ccode Tryd.prog (min Tryd.f66.ntmps pbase) (Tryd.f66.body.getD .skip) = some ac66 := by kernel_rfl
def ac67 : ACode := (.seq (.ops [⟨(some 2), (.mov (.c (.bool false))), none⟩]) (.seq (.ops [⟨(some 3), (.mov (.t 0)), none⟩, ⟨(some 4), (.bin .geq (.t 3) (.c (.int .i64 1))), none⟩, ⟨(some 5), (.mov (.t 4)), none⟩, ⟨(some 6), (.mov (.t 0)), (some (5, true))⟩, ⟨(some 7), (.bin .leq (.t 6) (.c (.int .i64 8))), (some (5, true))⟩, ⟨(some 8), (.pick (.t 5) (.t 7) (.c (.bool false))), none⟩, ⟨(some 2), (.mov (.t 8)), none⟩]) .ret))
theorem cc67 : ccode Tryd.prog (min Tryd.f67.ntmps pbase) (Tryd.f67.body.getD .skip) = some ac67 := by kernel_rfl
def ac68 : ACode := (.seq (.ops [⟨(some 4), (.mov (.c (.string (.mk #[])))), none⟩]) (.seq (.ops [⟨(some 5), (.nils 1), none⟩]) (.seq (.seq (.ops [⟨(some 8), (.mov (.t 0)), none⟩, ⟨(some 9), (.mov (.c (.int .i64 0))), none⟩]) (.block 0 (.loop (.seq (.ops [⟨(some 10), (.bin .lss (.t 9) (.t 8)), none⟩]) (.seq (.cond (.t 10) .skip (.exit 0)) (.seq (.block 1 (.seq (.ops [⟨(some 11), (.mov (.t 9)), none⟩, ⟨(some 6), (.mov (.t 11)), none⟩]) (.seq (.seq (.ops [⟨(some 12), (.mov (.t 6)), none⟩, ⟨(some 13), (.bin .gtr (.t 12) (.c (.int .i64 0))), none⟩]) (.cond (.t 13) (.ops [⟨(some 14), (.mov (.t 5)), none⟩, ⟨(some 15), (.bsl 1 1 [(.int .u8 0)] [(0, (.c (.int .u8 47)))]), none⟩, ⟨(some 16), (.app 1 1 (.t 14) (.t 15)), none⟩, ⟨(some 5), (.mov (.t 16)), none⟩]) .skip)) (.seq (.ops [⟨(some 17), (.mov (.t 0)), none⟩, ⟨(some 18), (.mov (.c (.int .i64 0))), none⟩]) (.block 2 (.loop (.seq (.ops [⟨(some 19), (.bin .lss (.t 18) (.t 17)), none⟩]) (.seq (.cond (.t 19) .skip (.exit 2)) (.seq (.block 3 (.seq (.ops [⟨(some 20), (.mov (.t 18)), none⟩, ⟨(some 7), (.mov (.t 20)), none⟩]) (.seq (.ops [⟨(some 21), (.mov (.t 1)), none⟩, ⟨(some 22), (.mov (.t 6)), none⟩, ⟨(some 23), (.mov (.t 7)), none⟩, ⟨(some 24), (.pu (.bld [(.int .i64 0), (.int .i64 0)] [(0, 1), (1, 1)]) [(.t 22), (.t 23)]), none⟩, ⟨(some 25), (.callv (.t 21) [(.t 24)]), none⟩]) (.cond (.t 25) (.ops [⟨(some 26), (.mov (.t 5)), none⟩, ⟨(some 27), (.bsl 1 1 [(.int .u8 0)] [(0, (.c (.int .u8 35)))]), none⟩, ⟨(some 28), (.app 1 1 (.t 26) (.t 27)), none⟩, ⟨(some 5), (.mov (.t 28)), none⟩]) (.ops [⟨(some 29), (.mov (.t 5)), none⟩, ⟨(some 30), (.bsl 1 1 [(.int .u8 0)] [(0, (.c (.int .u8 46)))]), none⟩, ⟨(some 31), (.app 1 1 (.t 29) (.t 30)), none⟩, ⟨(some 5), (.mov (.t 31)), none⟩]))))) (.ops [⟨(some 32), (.bin .add (.t 18) (.c (.int .i64 1))), none⟩, ⟨(some 18), (.mov (.t 32)), none⟩])))))))))) (.ops [⟨(some 33), (.bin .add (.t 9) (.c (.int .i64 1))), none⟩, ⟨(some 9), (.mov (.t 33)), none⟩]))))))) (.seq (.ops [⟨(some 34), (.mov (.t 5)), none⟩, ⟨(some 35), (.bts (.t 34)), none⟩, ⟨(some 4), (.mov (.t 35)), none⟩]) .ret))))
theorem cc68 : ccode Tryd.prog (min Tryd.f68.ntmps pbase) (Tryd.f68.body.getD .skip) = some ac68 := by kernel_rfl
def ac69 : ACode := (.seq (.ops [⟨(some 2), (.box 2 (.t 0)), none⟩, ⟨(some 3), (.mov (.c (.bool false))), none⟩]) (.seq (.tree (.take ⟨(some 4), (.fa 1 (.t 2)), none⟩ (.take ⟨(some 5), (.ld none (.t 4)), none⟩ (.take ⟨(some 6), (.fa 0 (.t 2)), none⟩ (.take ⟨(some 7), (.ld none (.t 6)), none⟩ (.take ⟨(some 8), (.bin .eql (.t 5) (.t 7)), none⟩ (.take ⟨(some 9), (.mov (.t 8)), none⟩ (.take ⟨(some 10), (.fa 1 (.t 2)), (some (9, false))⟩ (.take ⟨(some 11), (.ld none (.t 10)), (some (9, false))⟩ (.take ⟨(some 12), (.fa 0 (.t 2)), (some (9, false))⟩ (.take ⟨(some 13), (.ld none (.t 12)), (some (9, false))⟩ (.take ⟨(some 14), (.bin .add (.t 13) (.c (.int .i64 1))), (some (9, false))⟩ (.take ⟨(some 15), (.ld none (.t 1)), (some (9, false))⟩ (.take ⟨(some 16), (.bin .rem (.t 14) (.t 15)), (some (9, false))⟩ (.take ⟨(some 17), (.bin .eql (.t 11) (.t 16)), (some (9, false))⟩ (.take ⟨(some 18), (.pick (.t 9) (.c (.bool true)) (.t 17)), none⟩ (.take ⟨(some 3), (.mov (.t 18)), none⟩ .done))))))))))))))))) .ret))
theorem cc69 : ccode Tryd.prog (min Tryd.f69.ntmps pbase) (Tryd.f69.body.getD .skip) = some ac69 := by kernel_rfl
def ac70 : ACode := (.seq (.ops [⟨(some 2), (.alloc [(.int .i64 0), (.map none)]), none⟩, ⟨(some 3), (.mov (.c (.bool false))), none⟩]) (.seq (.ops [⟨(some 9), (.mov (.t 0)), none⟩, ⟨(some 10), (.call 74 [(.t 9), (.c (.string (.mk #[47]))), (.c (.int .i64 9))]), none⟩, ⟨(some 4), (.mov (.t 10)), none⟩]) (.seq (.seq (.ops [⟨(some 11), (.mov (.t 4)), none⟩, ⟨(some 12), (.len (.t 11)), none⟩, ⟨(some 13), (.call 67 [(.t 12)]), none⟩, ⟨(some 14), (.not (.t 13)), none⟩]) (.cond (.t 14) (.seq (.ops [⟨(some 15), (.pu (.bld [(.int .i64 0), (.map none)] []) []), none⟩, ⟨none, (.st 2 (.t 2) (.t 15)), none⟩, ⟨(some 3), (.mov (.c (.bool false))), none⟩]) .ret) .skip)) (.seq (.ops [⟨(some 16), (.mov (.t 4)), none⟩, ⟨(some 17), (.len (.t 16)), none⟩, ⟨(some 18), .mmk, none⟩, ⟨(some 19), (.pu (.bld [(.int .i64 0), (.map none)] [(0, 1), (1, 1)]) [(.t 17), (.t 18)]), none⟩, ⟨(some 5), (.alloc [(.int .i64 0), (.map none)]), none⟩, ⟨none, (.st 2 (.t 5) (.t 19)), none⟩]) (.seq (.seq (.ops [⟨(some 20), (.mov (.t 4)), none⟩, ⟨(some 21), (.len (.t 20)), none⟩, ⟨(some 22), (.mov (.c (.int .i64 0))), none⟩]) (.block 0 (.loop (.seq (.ops [⟨(some 23), (.bin .lss (.t 22) (.t 21)), none⟩]) (.seq (.cond (.t 23) .skip (.exit 0)) (.seq (.block 1 (.seq (.ops [⟨(some 24), (.mov (.t 22)), none⟩, ⟨(some 25), (.idx 1 (.t 20) (.t 22)), none⟩, ⟨(some 26), (.ld none (.t 25)), none⟩, ⟨(some 6), (.mov (.t 24)), none⟩, ⟨(some 7), (.mov (.t 26)), none⟩]) (.seq (.seq (.ops [⟨(some 27), (.mov (.t 7)), none⟩, ⟨(some 28), (.slen (.t 27)), none⟩, ⟨(some 29), (.fa 0 (.t 5)), none⟩, ⟨(some 30), (.ld none (.t 29)), none⟩, ⟨(some 31), (.bin .neq (.t 28) (.t 30)), none⟩]) (.cond (.t 31) (.seq (.ops [⟨(some 32), (.pu (.bld [(.int .i64 0), (.map none)] []) []), none⟩, ⟨none, (.st 2 (.t 2) (.t 32)), none⟩, ⟨(some 3), (.mov (.c (.bool false))), none⟩]) .ret) .skip)) (.seq (.ops [⟨(some 33), (.mov (.t 7)), none⟩, ⟨(some 34), (.slen (.t 33)), none⟩, ⟨(some 35), (.mov (.c (.int .i64 0))), none⟩]) (.block 2 (.loop (.seq (.ops [⟨(some 36), (.bin .lss (.t 35) (.t 34)), none⟩]) (.seq (.cond (.t 36) .skip (.exit 2)) (.seq (.block 3 (.seq (.ops [⟨(some 37), (.mov (.t 35)), none⟩, ⟨(some 8), (.mov (.t 37)), none⟩]) (.seq (.ops [⟨(some 38), (.mov (.t 7)), none⟩, ⟨(some 39), (.mov (.t 8)), none⟩, ⟨(some 40), (.pu .six [(.t 38), (.t 39)]), none⟩]) (.block 4 (.seq (.ops [⟨(some 43), (.bin .eql (.t 40) (.c (.int .u8 46))), none⟩, ⟨(some 42), (.mov (.t 43)), none⟩]) (.cond (.t 42) .skip (.seq (.ops [⟨(some 45), (.bin .eql (.t 40) (.c (.int .u8 35))), none⟩, ⟨(some 44), (.mov (.t 45)), none⟩]) (.cond (.t 44) (.ops [⟨(some 46), (.fa 1 (.t 5)), none⟩, ⟨(some 47), (.ld none (.t 46)), none⟩, ⟨(some 48), (.mov (.t 6)), none⟩, ⟨(some 49), (.mov (.t 8)), none⟩, ⟨(some 50), (.pu (.bld [(.int .i64 0), (.int .i64 0)] [(0, 1), (1, 1)]) [(.t 48), (.t 49)]), none⟩, ⟨none, (.mputk 66 (.t 47) (.t 50) (.c (.bool true))), none⟩]) (.seq (.ops [⟨(some 41), (.pu (.bld [(.int .i64 0), (.map none)] []) []), none⟩, ⟨none, (.st 2 (.t 2) (.t 41)), none⟩, ⟨(some 3), (.mov (.c (.bool false))), none⟩]) .ret))))))))) (.ops [⟨(some 51), (.bin .add (.t 35) (.c (.int .i64 1))), none⟩, ⟨(some 35), (.mov (.t 51)), none⟩])))))))))) (.ops [⟨(some 52), (.bin .add (.t 22) (.c (.int .i64 1))), none⟩, ⟨(some 22), (.mov (.t 52)), none⟩]))))))) (.seq (.ops [⟨(some 53), (.ld (some 2) (.t 5)), none⟩, ⟨none, (.st 2 (.t 2) (.t 53)), none⟩, ⟨(some 3), (.mov (.c (.bool true))), none⟩]) .ret))))))
theorem cc70 : ccode Tryd.prog (min Tryd.f70.ntmps pbase) (Tryd.f70.body.getD .skip) = some ac70 := by kernel_rfl
def ac71 : ACode := (.seq (.ops [⟨(some 1), (.box 2 (.t 0)), none⟩, ⟨(some 2), (.nils 1), none⟩]) (.seq (.ops [⟨(some 5), (.ld (some 2) (.t 1)), none⟩, ⟨(some 6), (.call 75 [(.t 5)]), none⟩, ⟨(some 3), (.mov (.t 6)), none⟩]) (.seq (.seq (.ops [⟨(some 7), (.mov (.t 3)), none⟩, ⟨(some 8), (.len (.t 7)), none⟩, ⟨(some 9), (.mov (.c (.int .i64 0))), none⟩]) (.block 0 (.loop (.seq (.ops [⟨(some 10), (.bin .lss (.t 9) (.t 8)), none⟩]) (.seq (.cond (.t 10) .skip (.exit 0)) (.seq (.block 1 (.seq (.ops [⟨(some 11), (.mov (.t 9)), none⟩, ⟨(some 4), (.mov (.t 11)), none⟩]) (.tree (.take ⟨(some 12), (.mov (.t 3)), none⟩ (.take ⟨(some 13), (.mov (.t 4)), none⟩ (.take ⟨(some 14), (.idx 1 (.t 12) (.t 13)), none⟩ (.take ⟨(some 15), (.ld none (.t 14)), none⟩ (.take ⟨(some 16), (.fa 0 (.t 1)), none⟩ (.take ⟨(some 17), (.ld none (.t 16)), none⟩ (.take ⟨(some 18), (.mov (.t 4)), none⟩ (.take ⟨(some 19), (.bin .sub (.t 17) (.t 18)), none⟩ (.take ⟨(some 20), (.call 30 [(.t 19)]), none⟩ (.take ⟨(some 21), (.bin .mul (.t 15) (.t 20)), none⟩ (.take ⟨(some 22), (.idx 1 (.t 12) (.t 13)), none⟩ (.take ⟨none, (.st 1 (.t 22) (.t 21)), none⟩ .done))))))))))))))) (.ops [⟨(some 23), (.bin .add (.t 9) (.c (.int .i64 1))), none⟩, ⟨(some 9), (.mov (.t 23)), none⟩]))))))) (.seq (.ops [⟨(some 24), (.mov (.t 3)), none⟩, ⟨(some 25), (.call 50 [(.t 24)]), none⟩, ⟨(some 2), (.mov (.t 25)), none⟩]) .ret))))
theorem cc71 : ccode Tryd.prog (min Tryd.f71.ntmps pbase) (Tryd.f71.body.getD .skip) = some ac71 := by kernel_rfl
def ac72 : ACode := (.seq (.ops [⟨(some 4), (.mov (.c (.int .i64 0))), none⟩]) (.seq (.seq (.ops [⟨(some 6), (.mov (.t 0)), none⟩, ⟨(some 7), (.len (.t 6)), none⟩, ⟨(some 8), (.mov (.c (.int .i64 0))), none⟩]) (.block 0 (.loop (.seq (.ops [⟨(some 9), (.bin .lss (.t 8) (.t 7)), none⟩]) (.seq (.cond (.t 9) .skip (.exit 0)) (.seq (.block 1 (.seq (.ops [⟨(some 10), (.mov (.t 8)), none⟩, ⟨(some 5), (.mov (.t 10)), none⟩]) (.seq (.ops [⟨(some 11), (.mov (.t 1)), none⟩, ⟨(some 12), (.mov (.t 0)), none⟩, ⟨(some 13), (.mov (.t 5)), none⟩, ⟨(some 14), (.idx 1 (.t 12) (.t 13)), none⟩, ⟨(some 15), (.ld none (.t 14)), none⟩, ⟨(some 16), (.bin .eql (.t 11) (.t 15)), none⟩]) (.cond (.t 16) (.seq (.ops [⟨(some 17), (.mov (.t 5)), none⟩, ⟨(some 4), (.mov (.t 17)), none⟩]) .ret) .skip)))) (.ops [⟨(some 18), (.bin .add (.t 8) (.c (.int .i64 1))), none⟩, ⟨(some 8), (.mov (.t 18)), none⟩]))))))) (.seq (.ops [⟨(some 4), (.mov (.c (.int .i64 (-1)))), none⟩]) .ret)))
theorem cc72 : ccode Tryd.prog (min Tryd.f72.ntmps pbase) (Tryd.f72.body.getD .skip) = some ac72 := by kernel_rfl
def ac73 : ACode := (.seq (.ops [⟨(some 4), (.mov (.c (.bool false))), none⟩]) (.seq (.ops [⟨(some 5), (.mov (.t 0)), none⟩, ⟨(some 6), (.bin .geq (.t 5) (.c (.int .i64 0))), none⟩, ⟨(some 7), (.mov (.t 6)), none⟩, ⟨(some 8), (.mov (.t 0)), (some (7, true))⟩, ⟨(some 9), (.mov (.t 1)), (some (7, true))⟩, ⟨(some 10), (.bin .lss (.t 8) (.t 9)), (some (7, true))⟩, ⟨(some 11), (.pick (.t 7) (.t 10) (.c (.bool false))), none⟩, ⟨(some 4), (.mov (.t 11)), none⟩]) .ret))
theorem cc73 : ccode Tryd.prog (min Tryd.f73.ntmps pbase) (Tryd.f73.body.getD .skip) = some ac73 := by kernel_rfl
def ac74 : ACode := (.seq (.ops [⟨(some 6), (.nils 1), none⟩]) (.seq (.ops [⟨(some 7), (.mov (.t 0)), none⟩, ⟨(some 8), (.mov (.t 1)), none⟩, ⟨(some 9), (.mov (.t 2)), none⟩, ⟨(some 10), (.call 76 [(.t 7), (.t 8), (.c (.int .i64 0)), (.t 9)]), none⟩, ⟨(some 6), (.mov (.t 10)), none⟩]) .ret))
theorem cc74 : ccode Tryd.prog (min Tryd.f74.ntmps pbase) (Tryd.f74.body.getD .skip) = some ac74 := by kernel_rfl
def ac75 : ACode := (.seq (.ops [⟨(some 1), (.box 2 (.t 0)), none⟩, ⟨(some 2), (.nils 1), none⟩]) (.scope (.seq (.ops [⟨(some 14), .mmk, none⟩, ⟨none, (.mput .u16 (.t 14) (.c (.int .u16 0)) (.c (.int .i64 1))), none⟩, ⟨(some 15), (.mov (.t 14)), none⟩, ⟨(some 3), (.mov (.t 15)), none⟩]) (.seq (.ops [⟨(some 16), (.fa 1 (.t 1)), none⟩, ⟨(some 17), (.ld none (.t 16)), none⟩, ⟨(some 18), (.call 77 [(.t 17)]), none⟩, ⟨(some 4), (.mov (.t 18)), none⟩]) (.seq (.label 0) (.seq (.seq (.ops [⟨(some 19), (.mov (.t 4)), none⟩, ⟨(some 20), (.mrg (.t 19)), none⟩]) (.block 0 (.loop (.seq (.ops [⟨(some 21), (.mnx (.t 20)), none⟩, ⟨(some 22), (.ext (.t 21) 0), none⟩]) (.seq (.cond (.t 22) .skip (.exit 0)) (.block 1 (.seq (.ops [⟨(some 23), (.ment (.t 20)), none⟩, ⟨(some 24), (.ext (.t 23) 0), none⟩, ⟨(some 5), (.alloc [(.int .i64 0), (.int .i64 0)]), none⟩, ⟨none, (.st 2 (.t 5) (.t 24)), none⟩]) (.seq (.ops [⟨(some 25), (.mov (.t 3)), none⟩, ⟨(some 26), (.call 78 [(.t 25)]), none⟩, ⟨(some 6), (.mov (.t 26)), none⟩]) (.seq (.seq (.ops [⟨(some 27), (.fa 0 (.t 1)), none⟩, ⟨(some 28), (.ld none (.t 27)), none⟩, ⟨(some 29), (.mov (.c (.int .i64 0))), none⟩]) (.block 2 (.loop (.seq (.ops [⟨(some 30), (.bin .lss (.t 29) (.t 28)), none⟩]) (.seq (.cond (.t 30) .skip (.exit 2)) (.seq (.block 3 (.seq (.ops [⟨(some 31), (.mov (.t 29)), none⟩, ⟨(some 7), (.mov (.t 31)), none⟩]) (.seq (.ops [⟨(some 32), (.fa 0 (.t 5)), none⟩, ⟨(some 33), (.ld none (.t 32)), none⟩, ⟨(some 34), (.mov (.t 7)), none⟩, ⟨(some 35), (.pu (.bld [(.int .i64 0), (.int .i64 0)] [(0, 1), (1, 1)]) [(.t 33), (.t 34)]), none⟩, ⟨(some 8), (.alloc [(.int .i64 0), (.int .i64 0)]), none⟩, ⟨none, (.st 2 (.t 8) (.t 35)), none⟩]) (.seq (.seq (.ops [⟨(some 36), (.mov (.t 4)), none⟩, ⟨(some 37), (.ld (some 2) (.t 8)), none⟩, ⟨(some 38), (.mgetk 66 (.bool false) false (.t 36) (.t 37)), none⟩, ⟨(some 39), (.not (.t 38)), none⟩]) (.cond (.t 39) (.exit 3) .skip)) (.seq (.ops [⟨(some 40), (.mov (.t 4)), none⟩, ⟨(some 41), (.ld (some 2) (.t 8)), none⟩, ⟨none, (.mdel 66 (.t 40) (.t 41)), none⟩]) (.seq (.ops [⟨(some 42), (.mov (.t 3)), none⟩, ⟨(some 43), (.mrg (.t 42)), none⟩]) (.block 4 (.loop (.seq (.ops [⟨(some 44), (.mnx (.t 43)), none⟩, ⟨(some 45), (.ext (.t 44) 0), none⟩]) (.seq (.cond (.t 45) .skip (.exit 4)) (.block 5 (.seq (.ops [⟨(some 46), (.ment (.t 43)), none⟩, ⟨(some 47), (.ext (.t 46) 0), none⟩, ⟨(some 48), (.ext (.t 46) 1), none⟩, ⟨(some 9), (.mov (.t 47)), none⟩, ⟨(some 10), (.mov (.t 48)), none⟩]) (.seq (.ops [⟨(some 49), (.mov (.t 9)), none⟩, ⟨(some 50), (.mov (.t 7)), none⟩, ⟨(some 51), (.call 65 [(.t 49), (.t 50)]), none⟩, ⟨(some 52), (.not (.t 51)), none⟩]) (.cond (.t 52) (.ops [⟨(some 53), (.mov (.t 6)), none⟩, ⟨(some 54), (.mov (.t 9)), none⟩, ⟨(some 55), (.mov (.t 7)), none⟩, ⟨(some 56), (.call 64 [(.t 54), (.t 55)]), none⟩, ⟨(some 57), (.mget .u16 (.int .i64 0) false (.t 53) (.t 56)), none⟩, ⟨(some 58), (.mov (.t 10)), none⟩, ⟨(some 59), (.bin .add (.t 57) (.t 58)), none⟩, ⟨none, (.mput .u16 (.t 53) (.t 56) (.t 59)), none⟩]) .skip)))))))))))))) (.ops [⟨(some 60), (.bin .add (.t 29) (.c (.int .i64 1))), none⟩, ⟨(some 29), (.mov (.t 60)), none⟩]))))))) (.seq (.ops [⟨(some 61), (.mov (.t 6)), none⟩, ⟨(some 3), (.mov (.t 61)), none⟩]) (.goto 0))))))))))) (.seq (.ops [⟨(some 62), (.fa 0 (.t 1)), none⟩, ⟨(some 63), (.ld none (.t 62)), none⟩, ⟨(some 64), (.bin .add (.t 63) (.c (.int .i64 1))), none⟩, ⟨(some 65), (.mk 1 8 [(.int .i64 0)] (.t 64) (.t 64)), none⟩, ⟨(some 11), (.mov (.t 65)), none⟩]) (.seq (.seq (.ops [⟨(some 66), (.mov (.t 3)), none⟩, ⟨(some 67), (.mrg (.t 66)), none⟩]) (.block 6 (.loop (.seq (.ops [⟨(some 68), (.mnx (.t 67)), none⟩, ⟨(some 69), (.ext (.t 68) 0), none⟩]) (.seq (.cond (.t 69) .skip (.exit 6)) (.block 7 (.seq (.ops [⟨(some 70), (.ment (.t 67)), none⟩, ⟨(some 71), (.ext (.t 70) 0), none⟩, ⟨(some 72), (.ext (.t 70) 1), none⟩, ⟨(some 12), (.mov (.t 71)), none⟩, ⟨(some 13), (.mov (.t 72)), none⟩]) (.ops [⟨(some 73), (.mov (.t 11)), none⟩, ⟨(some 74), (.mov (.t 12)), none⟩, ⟨(some 75), (.call 79 [(.t 74)]), none⟩, ⟨(some 76), (.idx 1 (.t 73) (.t 75)), none⟩, ⟨(some 77), (.ld none (.t 76)), none⟩, ⟨(some 78), (.mov (.t 13)), none⟩, ⟨(some 79), (.bin .add (.t 77) (.t 78)), none⟩, ⟨(some 80), (.idx 1 (.t 73) (.t 75)), none⟩, ⟨none, (.st 1 (.t 80) (.t 79)), none⟩])))))))) (.seq (.ops [⟨(some 81), (.mov (.t 11)), none⟩, ⟨(some 2), (.mov (.t 81)), none⟩]) .ret)))))))))
theorem cc75 : ccode Tryd.prog (min Tryd.f75.ntmps pbase) (Tryd.f75.body.getD .skip) = some ac75 := by kernel_rfl
def ac76 : ACode := (.seq (.ops [⟨(some 8), (.nils 1), none⟩]) (.seq (.seq (.ops [⟨(some 12), (.mov (.t 3)), none⟩, ⟨(some 13), (.bin .eql (.t 12) (.c (.int .i64 0))), none⟩]) (.cond (.t 13) (.seq (.ops [⟨(some 8), (.nils 1), none⟩]) .ret) .skip)) (.seq (.seq (.ops [⟨(some 14), (.mov (.t 1)), none⟩, ⟨(some 15), (.bin .eql (.t 14) (.c (.string (.mk #[])))), none⟩]) (.cond (.t 15) (.seq (.ops [⟨(some 16), (.mov (.t 0)), none⟩, ⟨(some 17), (.mov (.t 3)), none⟩, ⟨(some 18), (.call 80 [(.t 16), (.t 17)]), none⟩, ⟨(some 8), (.mov (.t 18)), none⟩]) .ret) .skip)) (.seq (.seq (.ops [⟨(some 19), (.mov (.t 3)), none⟩, ⟨(some 20), (.bin .lss (.t 19) (.c (.int .i64 0))), none⟩]) (.cond (.t 20) (.ops [⟨(some 21), (.mov (.t 0)), none⟩, ⟨(some 22), (.mov (.t 1)), none⟩, ⟨(some 23), (.call 81 [(.t 21), (.t 22)]), none⟩, ⟨(some 24), (.bin .add (.t 23) (.c (.int .i64 1))), none⟩, ⟨(some 3), (.mov (.t 24)), none⟩]) .skip)) (.seq (.ops [⟨(some 25), (.mov (.t 3)), none⟩, ⟨(some 26), (.mov (.t 0)), none⟩, ⟨(some 27), (.slen (.t 26)), none⟩, ⟨(some 28), (.bin .add (.t 27) (.c (.int .i64 1))), none⟩, ⟨(some 29), (.pu (.mm false) [(.t 25), (.t 28)]), none⟩, ⟨(some 3), (.mov (.t 29)), none⟩]) (.seq (.ops [⟨(some 30), (.mov (.t 3)), none⟩, ⟨(some 31), (.mk 1 16 [(.string (.mk #[]))] (.t 30) (.t 30)), none⟩, ⟨(some 9), (.mov (.t 31)), none⟩]) (.seq (.ops [⟨(some 32), (.mov (.t 3)), none⟩, ⟨(some 33), (.bin .sub (.t 32) (.c (.int .i64 1))), none⟩, ⟨(some 3), (.mov (.t 33)), none⟩]) (.seq (.ops [⟨(some 10), (.mov (.c (.int .i64 0))), none⟩]) (.seq (.block 0 (.loop (.seq (.seq (.ops [⟨(some 34), (.mov (.t 10)), none⟩, ⟨(some 35), (.mov (.t 3)), none⟩, ⟨(some 36), (.bin .lss (.t 34) (.t 35)), none⟩]) (.cond (.t 36) .skip (.exit 0))) (.block 1 (.seq (.ops [⟨(some 37), (.mov (.t 0)), none⟩, ⟨(some 38), (.mov (.t 1)), none⟩, ⟨(some 39), (.call 82 [(.t 37), (.t 38)]), none⟩, ⟨(some 11), (.mov (.t 39)), none⟩]) (.seq (.seq (.ops [⟨(some 40), (.mov (.t 11)), none⟩, ⟨(some 41), (.bin .lss (.t 40) (.c (.int .i64 0))), none⟩]) (.cond (.t 41) (.exit 0) .skip)) (.seq (.ops [⟨(some 42), (.mov (.t 9)), none⟩, ⟨(some 43), (.mov (.t 10)), none⟩, ⟨(some 44), (.mov (.t 0)), none⟩, ⟨(some 45), (.mov (.t 11)), none⟩, ⟨(some 46), (.mov (.t 2)), none⟩, ⟨(some 47), (.bin .add (.t 45) (.t 46)), none⟩, ⟨(some 48), (.pu (.scut false true) [(.t 44), (.t 47)]), none⟩, ⟨(some 49), (.idx 1 (.t 42) (.t 43)), none⟩, ⟨none, (.st 1 (.t 49) (.t 48)), none⟩]) (.seq (.ops [⟨(some 50), (.mov (.t 0)), none⟩, ⟨(some 51), (.mov (.t 11)), none⟩, ⟨(some 52), (.mov (.t 1)), none⟩, ⟨(some 53), (.slen (.t 52)), none⟩, ⟨(some 54), (.bin .add (.t 51) (.t 53)), none⟩, ⟨(some 55), (.pu (.scut true false) [(.t 50), (.t 54)]), none⟩, ⟨(some 0), (.mov (.t 55)), none⟩]) (.ops [⟨(some 56), (.mov (.t 10)), none⟩, ⟨(some 57), (.bin .add (.t 56) (.c (.int .i64 1))), none⟩, ⟨(some 10), (.mov (.t 57)), none⟩]))))))))) (.seq (.ops [⟨(some 58), (.mov (.t 9)), none⟩, ⟨(some 59), (.mov (.t 10)), none⟩, ⟨(some 60), (.mov (.t 0)), none⟩, ⟨(some 61), (.idx 1 (.t 58) (.t 59)), none⟩, ⟨none, (.st 1 (.t 61) (.t 60)), none⟩]) (.seq (.ops [⟨(some 62), (.mov (.t 9)), none⟩, ⟨(some 63), (.mov (.t 10)), none⟩, ⟨(some 64), (.bin .add (.t 63) (.c (.int .i64 1))), none⟩, ⟨(some 65), (.cut 1 (.t 62) none (some (.t 64))), none⟩, ⟨(some 8), (.mov (.t 65)), none⟩]) .ret)))))))))))
theorem cc76 : ccode Tryd.prog (min Tryd.f76.ntmps pbase) (Tryd.f76.body.getD .skip) = some ac76 := by kernel_rfl
def ac79 : ACode := (.seq (.ops [⟨(some 2), (.mov (.c (.int .i64 0))), none⟩]) (.seq (.ops [⟨(some 3), (.mov (.t 0)), none⟩, ⟨(some 4), (.call 84 [(.t 3)]), none⟩, ⟨(some 2), (.mov (.t 4)), none⟩]) .ret))
theorem cc79 : ccode Tryd.prog (min Tryd.f79.ntmps pbase) (Tryd.f79.body.getD .skip) = some ac79 := by kernel_rfl
def ac82 : ACode := (.seq (.ops [⟨(some 4), (.mov (.c (.int .i64 0))), none⟩]) (.seq (.ops [⟨(some 5), (.mov (.t 0)), none⟩, ⟨(some 6), (.mov (.t 1)), none⟩, ⟨(some 7), (.call 88 [(.t 5), (.t 6)]), none⟩, ⟨(some 4), (.mov (.t 7)), none⟩]) .ret))
theorem cc82 : ccode Tryd.prog (min Tryd.f82.ntmps pbase) (Tryd.f82.body.getD .skip) = some ac82 := by kernel_rfl
def ac84 : ACode := (.seq (.ops [⟨(some 2), (.mov (.c (.int .i64 0))), none⟩]) (.seq (.tree (.take ⟨(some 3), (.mov (.t 0)), none⟩ (.take ⟨(some 4), (.bin .shr (.t 3) (.c (.int .u64 8))), none⟩ (.take ⟨(some 5), (.pu .six [(.c (.string (.mk #[0, 1, 1, 2, 1, 2, 2, 3, 1, 2, 2, 3, 2, 3, 3, 4, 1, 2, 2, 3, 2, 3, 3, 4, 2, 3, 3, 4, 3, 4, 4, 5, 1, 2, 2, 3, 2, 3, 3, 4, 2, 3, 3, 4, 3, 4, 4, 5, 2, 3, 3, 4, 3, 4, 4, 5, 3, 4, 4, 5, 4, 5, 5, 6, 1, 2, 2, 3, 2, 3, 3, 4, 2, 3, 3, 4, 3, 4, 4, 5, 2, 3, 3, 4, 3, 4, 4, 5, 3, 4, 4, 5, 4, 5, 5, 6, 2, 3, 3, 4, 3, 4, 4, 5, 3, 4, 4, 5, 4, 5, 5, 6, 3, 4, 4, 5, 4, 5, 5, 6, 4, 5, 5, 6, 5, 6, 6, 7, 1, 2, 2, 3, 2, 3, 3, 4, 2, 3, 3, 4, 3, 4, 4, 5, 2, 3, 3, 4, 3, 4, 4, 5, 3, 4, 4, 5, 4, 5, 5, 6, 2, 3, 3, 4, 3, 4, 4, 5, 3, 4, 4, 5, 4, 5, 5, 6, 3, 4, 4, 5, 4, 5, 5, 6, 4, 5, 5, 6, 5, 6, 6, 7, 2, 3, 3, 4, 3, 4, 4, 5, 3, 4, 4, 5, 4, 5, 5, 6, 3, 4, 4, 5, 4, 5, 5, 6, 4, 5, 5, 6, 5, 6, 6, 7, 3, 4, 4, 5, 4, 5, 5, 6, 4, 5, 5, 6, 5, 6, 6, 7, 4, 5, 5, 6, 5, 6, 6, 7, 5, 6, 6, 7, 6, 7, 7, 8]))), (.t 4)]), none⟩ (.take ⟨(some 6), (.mov (.t 0)), none⟩ (.take ⟨(some 7), (.bin .and (.t 6) (.c (.int .u16 255))), none⟩ (.take ⟨(some 8), (.pu .six [(.c (.string (.mk #[0, 1, 1, 2, 1, 2, 2, 3, 1, 2, 2, 3, 2, 3, 3, 4, 1, 2, 2, 3, 2, 3, 3, 4, 2, 3, 3, 4, 3, 4, 4, 5, 1, 2, 2, 3, 2, 3, 3, 4, 2, 3, 3, 4, 3, 4, 4, 5, 2, 3, 3, 4, 3, 4, 4, 5, 3, 4, 4, 5, 4, 5, 5, 6, 1, 2, 2, 3, 2, 3, 3, 4, 2, 3, 3, 4, 3, 4, 4, 5, 2, 3, 3, 4, 3, 4, 4, 5, 3, 4, 4, 5, 4, 5, 5, 6, 2, 3, 3, 4, 3, 4, 4, 5, 3, 4, 4, 5, 4, 5, 5, 6, 3, 4, 4, 5, 4, 5, 5, 6, 4, 5, 5, 6, 5, 6, 6, 7, 1, 2, 2, 3, 2, 3, 3, 4, 2, 3, 3, 4, 3, 4, 4, 5, 2, 3, 3, 4, 3, 4, 4, 5, 3, 4, 4, 5, 4, 5, 5, 6, 2, 3, 3, 4, 3, 4, 4, 5, 3, 4, 4, 5, 4, 5, 5, 6, 3, 4, 4, 5, 4, 5, 5, 6, 4, 5, 5, 6, 5, 6, 6, 7, 2, 3, 3, 4, 3, 4, 4, 5, 3, 4, 4, 5, 4, 5, 5, 6, 3, 4, 4, 5, 4, 5, 5, 6, 4, 5, 5, 6, 5, 6, 6, 7, 3, 4, 4, 5, 4, 5, 5, 6, 4, 5, 5, 6, 5, 6, 6, 7, 4, 5, 5, 6, 5, 6, 6, 7, 5, 6, 6, 7, 6, 7, 7, 8]))), (.t 7)]), none⟩ (.take ⟨(some 9), (.bin .add (.t 5) (.t 8)), none⟩ (.take ⟨(some 10), (.pu (.cvt .i64) [(.t 9)]), none⟩ (.take ⟨(some 2), (.mov (.t 10)), none⟩ .done)))))))))) .ret))
theorem cc84 : ccode Tryd.prog (min Tryd.f84.ntmps pbase) (Tryd.f84.body.getD .skip) = some ac84 := by kernel_rfl
def ac88 : ACode := (.seq (.ops [⟨(some 4), (.mov (.c (.int .i64 0))), none⟩]) (.seq (.ops [⟨(some 14), (.mov (.t 1)), none⟩, ⟨(some 15), (.slen (.t 14)), none⟩, ⟨(some 5), (.mov (.t 15)), none⟩]) (.seq (.block 0 (.seq (.ops [⟨(some 17), (.mov (.t 5)), none⟩, ⟨(some 18), (.bin .eql (.t 17) (.c (.int .i64 0))), none⟩, ⟨(some 19), (.mov (.t 18)), none⟩, ⟨(some 20), (.mov (.t 1)), (some (19, false))⟩, ⟨(some 21), (.mov (.t 0)), (some (19, false))⟩, ⟨(some 22), (.bin .eql (.t 20) (.t 21)), (some (19, false))⟩, ⟨(some 23), (.pick (.t 19) (.c (.bool true)) (.t 22)), none⟩, ⟨(some 16), (.mov (.t 23)), none⟩]) (.cond (.t 16) (.seq (.ops [⟨(some 4), (.mov (.c (.int .i64 0))), none⟩]) .ret) (.seq (.ops [⟨(some 25), (.mov (.t 5)), none⟩, ⟨(some 26), (.bin .eql (.t 25) (.c (.int .i64 1))), none⟩, ⟨(some 24), (.mov (.t 26)), none⟩]) (.cond (.t 24) (.seq (.ops [⟨(some 27), (.mov (.t 0)), none⟩, ⟨(some 28), (.mov (.t 1)), none⟩, ⟨(some 29), (.pu .six [(.t 28), (.c (.int .i64 0))]), none⟩, ⟨(some 30), (.call 90 [(.t 27), (.t 29)]), none⟩, ⟨(some 4), (.mov (.t 30)), none⟩]) .ret) (.seq (.ops [⟨(some 32), (.mov (.t 5)), none⟩, ⟨(some 33), (.mov (.t 0)), none⟩, ⟨(some 34), (.slen (.t 33)), none⟩, ⟨(some 35), (.bin .geq (.t 32) (.t 34)), none⟩, ⟨(some 31), (.mov (.t 35)), none⟩]) (.cond (.t 31) (.seq (.ops [⟨(some 4), (.mov (.c (.int .i64 (-1)))), none⟩]) .ret) (.seq (.ops [⟨(some 37), (.mov (.t 5)), none⟩, ⟨(some 38), (.ld none (.c (.pointer (some (.mk 0 0 none))))), none⟩, ⟨(some 39), (.bin .leq (.t 37) (.t 38)), none⟩, ⟨(some 40), (.mov (.t 39)), none⟩, ⟨(some 41), (.mov (.t 0)), (some (40, true))⟩, ⟨(some 42), (.slen (.t 41)), (some (40, true))⟩, ⟨(some 43), (.bin .leq (.t 42) (.c (.int .i64 64))), (some (40, true))⟩, ⟨(some 44), (.pick (.t 40) (.t 43) (.c (.bool false))), none⟩, ⟨(some 36), (.mov (.t 44)), none⟩]) (.cond (.t 36) (.seq (.ops [⟨(some 45), (.mov (.t 0)), none⟩, ⟨(some 46), (.mov (.t 1)), none⟩, ⟨(some 47), (.xcall 91 [(.t 45), (.t 46)]), none⟩, ⟨(some 4), (.mov (.t 47)), none⟩]) .ret) .skip))))))))) (.seq (.ops [⟨(some 48), (.mov (.t 1)), none⟩, ⟨(some 49), (.pu .six [(.t 48), (.c (.int .i64 0))]), none⟩, ⟨(some 6), (.mov (.t 49)), none⟩]) (.seq (.ops [⟨(some 50), (.mov (.t 1)), none⟩, ⟨(some 51), (.pu .six [(.t 50), (.c (.int .i64 1))]), none⟩, ⟨(some 7), (.mov (.t 51)), none⟩]) (.seq (.ops [⟨(some 8), (.mov (.c (.int .i64 0))), none⟩]) (.seq (.ops [⟨(some 52), (.mov (.t 0)), none⟩, ⟨(some 53), (.slen (.t 52)), none⟩, ⟨(some 54), (.mov (.t 5)), none⟩, ⟨(some 55), (.bin .sub (.t 53) (.t 54)), none⟩, ⟨(some 56), (.bin .add (.t 55) (.c (.int .i64 1))), none⟩, ⟨(some 9), (.mov (.t 56)), none⟩]) (.seq (.ops [⟨(some 10), (.mov (.c (.int .i64 0))), none⟩]) (.seq (.block 1 (.loop (.seq (.seq (.ops [⟨(some 57), (.mov (.t 8)), none⟩, ⟨(some 58), (.mov (.t 9)), none⟩, ⟨(some 59), (.bin .lss (.t 57) (.t 58)), none⟩]) (.cond (.t 59) .skip (.exit 1))) (.block 2 (.seq (.seq (.ops [⟨(some 60), (.mov (.t 0)), none⟩, ⟨(some 61), (.mov (.t 8)), none⟩, ⟨(some 62), (.pu .six [(.t 60), (.t 61)]), none⟩, ⟨(some 63), (.mov (.t 6)), none⟩, ⟨(some 64), (.bin .neq (.t 62) (.t 63)), none⟩]) (.cond (.t 64) (.seq (.ops [⟨(some 65), (.mov (.t 0)), none⟩, ⟨(some 66), (.mov (.t 8)), none⟩, ⟨(some 67), (.bin .add (.t 66) (.c (.int .i64 1))), none⟩, ⟨(some 68), (.mov (.t 9)), none⟩, ⟨(some 69), (.pu (.scut true true) [(.t 65), (.t 67), (.t 68)]), none⟩, ⟨(some 70), (.mov (.t 6)), none⟩, ⟨(some 71), (.call 90 [(.t 69), (.t 70)]), none⟩, ⟨(some 11), (.mov (.t 71)), none⟩]) (.seq (.seq (.ops [⟨(some 72), (.mov (.t 11)), none⟩, ⟨(some 73), (.bin .lss (.t 72) (.c (.int .i64 0))), none⟩]) (.cond (.t 73) (.seq (.ops [⟨(some 4), (.mov (.c (.int .i64 (-1)))), none⟩]) .ret) .skip)) (.ops [⟨(some 74), (.mov (.t 8)), none⟩, ⟨(some 75), (.mov (.t 11)), none⟩, ⟨(some 76), (.bin .add (.t 75) (.c (.int .i64 1))), none⟩, ⟨(some 77), (.bin .add (.t 74) (.t 76)), none⟩, ⟨(some 8), (.mov (.t 77)), none⟩]))) .skip)) (.seq (.seq (.ops [⟨(some 78), (.mov (.t 0)), none⟩, ⟨(some 79), (.mov (.t 8)), none⟩, ⟨(some 80), (.bin .add (.t 79) (.c (.int .i64 1))), none⟩, ⟨(some 81), (.pu .six [(.t 78), (.t 80)]), none⟩, ⟨(some 82), (.mov (.t 7)), none⟩, ⟨(some 83), (.bin .eql (.t 81) (.t 82)), none⟩, ⟨(some 84), (.mov (.t 83)), none⟩, ⟨(some 85), (.mov (.t 0)), (some (84, true))⟩, ⟨(some 86), (.mov (.t 8)), (some (84, true))⟩, ⟨(some 87), (.mov (.t 8)), (some (84, true))⟩, ⟨(some 88), (.mov (.t 5)), (some (84, true))⟩, ⟨(some 89), (.bin .add (.t 87) (.t 88)), (some (84, true))⟩, ⟨(some 90), (.pu (.scut true true) [(.t 85), (.t 86), (.t 89)]), (some (84, true))⟩, ⟨(some 91), (.mov (.t 1)), (some (84, true))⟩, ⟨(some 92), (.bin .eql (.t 90) (.t 91)), (some (84, true))⟩, ⟨(some 93), (.pick (.t 84) (.t 92) (.c (.bool false))), none⟩]) (.cond (.t 93) (.seq (.ops [⟨(some 94), (.mov (.t 8)), none⟩, ⟨(some 4), (.mov (.t 94)), none⟩]) .ret) .skip)) (.seq (.ops [⟨(some 95), (.mov (.t 8)), none⟩, ⟨(some 96), (.bin .add (.t 95) (.c (.int .i64 1))), none⟩, ⟨(some 8), (.mov (.t 96)), none⟩]) (.seq (.ops [⟨(some 97), (.mov (.t 10)), none⟩, ⟨(some 98), (.bin .add (.t 97) (.c (.int .i64 1))), none⟩, ⟨(some 10), (.mov (.t 98)), none⟩]) (.seq (.ops [⟨(some 99), (.mov (.t 5)), none⟩, ⟨(some 100), (.ld none (.c (.pointer (some (.mk 0 0 none))))), none⟩, ⟨(some 101), (.bin .leq (.t 99) (.t 100)), none⟩, ⟨(some 102), (.mov (.t 101)), none⟩, ⟨(some 103), (.mov (.t 10)), (some (102, true))⟩, ⟨(some 104), (.mov (.t 8)), (some (102, true))⟩, ⟨(some 105), (.call 92 [(.t 104)]), (some (102, true))⟩, ⟨(some 106), (.bin .gtr (.t 103) (.t 105)), (some (102, true))⟩, ⟨(some 107), (.pick (.t 102) (.t 106) (.c (.bool false))), none⟩]) (.cond (.t 107) (.seq (.ops [⟨(some 108), (.mov (.t 0)), none⟩, ⟨(some 109), (.mov (.t 8)), none⟩, ⟨(some 110), (.pu (.scut true false) [(.t 108), (.t 109)]), none⟩, ⟨(some 111), (.mov (.t 1)), none⟩, ⟨(some 112), (.xcall 91 [(.t 110), (.t 111)]), none⟩, ⟨(some 12), (.mov (.t 112)), none⟩]) (.seq (.seq (.ops [⟨(some 113), (.mov (.t 12)), none⟩, ⟨(some 114), (.bin .geq (.t 113) (.c (.int .i64 0))), none⟩]) (.cond (.t 114) (.seq (.ops [⟨(some 115), (.mov (.t 12)), none⟩, ⟨(some 116), (.mov (.t 8)), none⟩, ⟨(some 117), (.bin .add (.t 115) (.t 116)), none⟩, ⟨(some 4), (.mov (.t 117)), none⟩]) .ret) .skip)) (.seq (.ops [⟨(some 4), (.mov (.c (.int .i64 (-1)))), none⟩]) .ret))) (.seq (.ops [⟨(some 118), (.mov (.t 5)), none⟩, ⟨(some 119), (.ld none (.c (.pointer (some (.mk 0 0 none))))), none⟩, ⟨(some 120), (.bin .gtr (.t 118) (.t 119)), none⟩, ⟨(some 121), (.mov (.t 120)), none⟩, ⟨(some 122), (.mov (.t 10)), (some (121, true))⟩, ⟨(some 123), (.mov (.t 8)), (some (121, true))⟩, ⟨(some 124), (.bin .shr (.t 123) (.c (.int .u64 4))), (some (121, true))⟩, ⟨(some 125), (.bin .add (.c (.int .i64 4)) (.t 124)), (some (121, true))⟩, ⟨(some 126), (.bin .geq (.t 122) (.t 125)), (some (121, true))⟩, ⟨(some 127), (.pick (.t 121) (.t 126) (.c (.bool false))), none⟩, ⟨(some 128), (.mov (.t 127)), none⟩, ⟨(some 129), (.mov (.t 8)), (some (128, true))⟩, ⟨(some 130), (.mov (.t 9)), (some (128, true))⟩, ⟨(some 131), (.bin .lss (.t 129) (.t 130)), (some (128, true))⟩, ⟨(some 132), (.pick (.t 128) (.t 131) (.c (.bool false))), none⟩]) (.cond (.t 132) (.seq (.ops [⟨(some 133), (.mov (.t 0)), none⟩, ⟨(some 134), (.mov (.t 8)), none⟩, ⟨(some 135), (.pu (.scut true false) [(.t 133), (.t 134)]), none⟩, ⟨(some 136), (.mov (.t 1)), none⟩, ⟨(some 137), (.call 93 [(.t 135), (.t 136)]), none⟩, ⟨(some 13), (.mov (.t 137)), none⟩]) (.seq (.seq (.ops [⟨(some 138), (.mov (.t 13)), none⟩, ⟨(some 139), (.bin .lss (.t 138) (.c (.int .i64 0))), none⟩]) (.cond (.t 139) (.seq (.ops [⟨(some 4), (.mov (.c (.int .i64 (-1)))), none⟩]) .ret) .skip)) (.seq (.ops [⟨(some 140), (.mov (.t 8)), none⟩, ⟨(some 141), (.mov (.t 13)), none⟩, ⟨(some 142), (.bin .add (.t 140) (.t 141)), none⟩, ⟨(some 4), (.mov (.t 142)), none⟩]) .ret))) .skip)))))))))))) (.seq (.ops [⟨(some 4), (.mov (.c (.int .i64 (-1)))), none⟩]) .ret))))))))))
theorem cc88 : ccode Tryd.prog (min Tryd.f88.ntmps pbase) (Tryd.f88.body.getD .skip) = some ac88 := by kernel_rfl
def ac90 : ACode := (.seq (.ops [⟨(some 4), (.mov (.c (.int .i64 0))), none⟩]) (.seq (.ops [⟨(some 5), (.mov (.t 0)), none⟩, ⟨(some 6), (.mov (.t 1)), none⟩, ⟨(some 7), (.xcall 94 [(.t 5), (.t 6)]), none⟩, ⟨(some 4), (.mov (.t 7)), none⟩]) .ret))
theorem cc90 : ccode Tryd.prog (min Tryd.f90.ntmps pbase) (Tryd.f90.body.getD .skip) = some ac90 := by kernel_rfl
end Go.Proofs.YtmmcldbldbpikaaDoor
namespace Go.Proofs.YtmmcldbldbpikaaDoor
open Go.Am
attribute [local irreducible] AW Outs Weak Lends Lend Sp aops atree aop1 Then Round InBlock Done
theorem isGuest_spec (a b : Int) : Sp Tryd.prog 73 [.i a, .i b] (.b (decide (0 ≤ a ∧ a < b))) := by
  refine spec_of Tryd.func73 rfl cc73 rfl ?_
  unfold ac73
  by_cases h : 0 ≤ a
  all_goals
    repeat (first | (refine step_ops ?_; (first | ((try (refine g_yes rfl ?_ ?_; (· first | rfl | assumption | (refine decide_eq_true ?_; first | assumption | omega) | (refine nt ?_; first | assumption | omega) | (simp [*]; done) | (refine decide_eq_false ?_; first | assumption | omega) | (refine nf ?_; first | assumption | omega)))); (first | (refine m_mov (by conv => lhs; whnf) ?_) | (refine m_lss rfl rfl ?_) | (refine m_geq rfl rfl ?_) | (refine m_pick_t rfl ?_ (by conv => lhs; whnf) ?_; (· first | rfl | assumption | (refine decide_eq_true ?_; first | assumption | omega) | (refine nt ?_; first | assumption | omega) | (simp [*]; done))) | (refine m_pick_f rfl ?_ (by conv => lhs; whnf) ?_; (· first | rfl | assumption | (refine decide_eq_false ?_; first | assumption | omega) | (refine nf ?_; first | assumption | omega) | (simp [*]; done))))) | (refine g_noT rfl ?_ ?_; (· first | rfl | assumption | (refine decide_eq_false ?_; first | assumption | omega) | (refine nf ?_; first | assumption | omega) | (simp [*]; done))))) | refine end_ops ?_ | refine seq_ops ?_ | refine AW_ret ?_ | refine ret_done ?_)
    refine outs_b ?_
    simp [*]
theorem l1In_spec (a b c : Int) : Sp Tryd.prog 26 [.i a, .i b, .i c] (.b (decide (b ≤ a ∧ a ≤ c))) := by
  refine spec_of Tryd.func26 rfl cc26 rfl ?_
  unfold ac26
  by_cases h : b ≤ a
  all_goals
    repeat (first | (refine step_ops ?_; (first | ((try (refine g_yes rfl ?_ ?_; (· first | rfl | assumption | (refine decide_eq_true ?_; first | assumption | omega) | (refine nt ?_; first | assumption | omega) | (simp [*]; done) | (refine decide_eq_false ?_; first | assumption | omega) | (refine nf ?_; first | assumption | omega)))); (first | (refine m_mov (by conv => lhs; whnf) ?_) | (refine m_leq rfl rfl ?_) | (refine m_geq rfl rfl ?_) | (refine m_pick_t rfl ?_ (by conv => lhs; whnf) ?_; (· first | rfl | assumption | (refine decide_eq_true ?_; first | assumption | omega) | (refine nt ?_; first | assumption | omega) | (simp [*]; done))) | (refine m_pick_f rfl ?_ (by conv => lhs; whnf) ?_; (· first | rfl | assumption | (refine decide_eq_false ?_; first | assumption | omega) | (refine nf ?_; first | assumption | omega) | (simp [*]; done))))) | (refine g_noT rfl ?_ ?_; (· first | rfl | assumption | (refine decide_eq_false ?_; first | assumption | omega) | (refine nf ?_; first | assumption | omega) | (simp [*]; done))))) | refine end_ops ?_ | refine seq_ops ?_ | refine AW_ret ?_ | refine ret_done ?_)
    refine outs_b ?_
    simp [*]
theorem getD_mem {L : List Int} {k : Nat} (h : k < L.length) : L.getD k 0 ∈ L := by simp [h]
end Go.Proofs.YtmmcldbldbpikaaDoor
namespace Go.Am
variable {P : Program} {own : Bool} {N : Nat} {s : AS} {K : AS → Prop} {d : Option Nat}
/-- An unsigned integer of sixteen bits. -/
abbrev AV.u (a : Nat) : AV := .v (.int .u16 (a : Int))
theorem wrap16 {a : Nat} (h : a < 65536) : IntKind.u16.wrap (a : Int) = (a : Int) := by
  have : IntKind.u16.wrap (a : Int) = (a : Int) % 65536 := by simp [IntKind.wrap, IntKind.bits, IntKind.signed]
  omega
theorem ofInt16 {a : Nat} (h : a < 65536) : (BitVec.ofInt IntKind.u16.bits (a : Int)).toNat = a := by
  show (BitVec.ofInt 16 (a : Int)).toNat = a
  rw [BitVec.ofInt_natCast, BitVec.toNat_ofNat]
  omega
theorem and16_lt {a b : Nat} (h : a < 65536) : a &&& b < 65536 := Nat.lt_of_le_of_lt Nat.and_le_left h
theorem or16_lt {a b : Nat} (h : a < 65536) (h2 : b < 65536) : a ||| b < 65536 := Nat.or_lt_two_pow (n := 16) h h2
theorem shl16_lt {k : Nat} (h : k < 16) : 1 <<< k < 65536 := by
  rw [Nat.one_shiftLeft]
  exact Nat.pow_lt_pow_right (by decide) h
section
variable {x y : Opd} {a b k : Nat}
theorem m_shr16 (hx : s.ev x = .u a) (hy : s.ev y = .i (k : Nat)) (hk : k < 16) (kk : K (s.put d (.u (a >>> k)))) : aop1 P own ⟨d, .bin .shr x y, none⟩ s K := by
  refine ⟨_, _, _, hx, hy, ?_, kk⟩
  have h1 : ¬ ((k : Nat) : Int) < 0 := by omega
  have h2 : min ((k : Nat) : Int).toNat IntKind.u16.bits = k := by show min _ 16 = k; omega
  show (if ((k : Nat) : Int) < 0 then none else some (Value.int .u16 ((a : Int).fdiv (2 ^ (min ((k : Nat) : Int).toNat IntKind.u16.bits))))) = _
  rw [if_neg h1, h2, Nat.shiftRight_eq_div_pow]
  congr 2
  rw [Int.fdiv_eq_ediv_of_nonneg _ (by exact Int.le_of_lt (Int.pow_pos (by decide)))]
  push_cast
  rfl
theorem m_shl16 (hx : s.ev x = .u 1) (hy : s.ev y = .i (k : Nat)) (hk : k < 16) (kk : K (s.put d (.u (1 <<< k)))) : aop1 P own ⟨d, .bin .shl x y, none⟩ s K := by
  refine ⟨_, _, _, hx, hy, ?_, kk⟩
  have h1 : ¬ ((k : Nat) : Int) < 0 := by omega
  have h2 : min ((k : Nat) : Int).toNat IntKind.u16.bits = k := by show min _ 16 = k; omega
  show (if ((k : Nat) : Int) < 0 then none else some (Value.int .u16 (IntKind.u16.wrap ((1 : Int) * 2 ^ (min ((k : Nat) : Int).toNat IntKind.u16.bits))))) = _
  rw [if_neg h1, h2]
  congr 2
  have : ((1 : Int) * (2 : Int) ^ k) = ((1 <<< k : Nat) : Int) := by rw [Nat.one_shiftLeft, Int.one_mul]; push_cast; rfl
  exact (congrArg _ this).trans (wrap16 (shl16_lt hk))
theorem m_and16 (hx : s.ev x = .u a) (hy : s.ev y = .u b) (ha : a < 65536) (hb : b < 65536) (kk : K (s.put d (.u (a &&& b)))) : aop1 P own ⟨d, .bin .and x y, none⟩ s K := by
  refine ⟨_, _, _, hx, hy, ?_, kk⟩
  show some (Value.int .u16 (IntKind.u16.wrap ((BitVec.ofInt IntKind.u16.bits (a : Int) &&& BitVec.ofInt IntKind.u16.bits (b : Int)).toNat : Int))) = _
  rw [BitVec.toNat_and, ofInt16 ha, ofInt16 hb, wrap16 (and16_lt ha)]
theorem m_or16 (hx : s.ev x = .u a) (hy : s.ev y = .u b) (ha : a < 65536) (hb : b < 65536) (kk : K (s.put d (.u (a ||| b)))) : aop1 P own ⟨d, .bin .or x y, none⟩ s K := by
  refine ⟨_, _, _, hx, hy, ?_, kk⟩
  show some (Value.int .u16 (IntKind.u16.wrap ((BitVec.ofInt IntKind.u16.bits (a : Int) ||| BitVec.ofInt IntKind.u16.bits (b : Int)).toNat : Int))) = _
  rw [BitVec.toNat_or, ofInt16 ha, ofInt16 hb, wrap16 (or16_lt ha hb)]
theorem m_eql16 (hx : s.ev x = .u a) (hy : s.ev y = .u b) (kk : K (s.put d (.b (decide (a = b))))) : aop1 P own ⟨d, .bin .eql x y, none⟩ s K := by
  refine ⟨_, _, _, hx, hy, rfl, ?_⟩
  rw [show (((a : Nat) : Int) == ((b : Nat) : Int)) = decide (a = b) from by rw [Bool.eq_iff_iff]; simp; omega]
  exact kk
theorem m_and16_1 (hx : s.ev x = .u a) (hy : s.ev y = .u 1) (ha : a < 65536) (kk : K (s.put d (.u (a &&& 1)))) : aop1 P own ⟨d, .bin .and x y, none⟩ s K := m_and16 hx hy ha (by decide) kk
theorem m_eql16_1 (hx : s.ev x = .u a) (hy : s.ev y = .u 1) (kk : K (s.put d (.b (decide (a = 1))))) : aop1 P own ⟨d, .bin .eql x y, none⟩ s K := m_eql16 hx hy kk
end
theorem bit_and (a k : Nat) : decide ((a >>> k) &&& 1 = 1) = a.testBit k := by
  rw [Nat.testBit, Nat.and_comm]
  have := Nat.one_and_eq_mod_two (a >>> k)
  rcases Nat.mod_two_eq_zero_or_one (a >>> k) with h | h <;> simp [this, h]
theorem bit_or (a k i : Nat) : (a ||| 1 <<< k).testBit i = (a.testBit i || decide (i = k)) := by
  rw [Nat.testBit_or, Nat.one_shiftLeft, Nat.testBit_two_pow]
  by_cases h : k = i
  · subst h; simp
  · simp [h, Ne.symm h]
end Go.Am
namespace Go.Proofs.YtmmcldbldbpikaaDoor
open Go.Am
attribute [local irreducible] AW Outs Weak Lends Lend Sp aops atree aop1 Then Round InBlock Done
theorem setHas_spec (a g : Nat) (ha : a < 65536) (hg : g < 16) : Sp Tryd.prog 65 [.u a, .i g] (.b (a.testBit g)) := by
  refine spec_of Tryd.func65 rfl cc65 rfl ?_
  unfold ac65
  repeat (first | (refine step_ops ?_; (refine m_mov (by conv => lhs; whnf) ?_)) | refine end_ops ?_ | refine seq_ops ?_)
  refine step_ops ?_
  refine m_shr16 (a := a) (k := g) rfl rfl hg ?_
  refine step_ops ?_
  refine m_and16_1 (a := a >>> g) rfl rfl (Nat.lt_of_le_of_lt (Nat.shiftRight_le a g) ha) ?_
  refine step_ops ?_
  refine m_eql16_1 (a := (a >>> g) &&& 1) rfl rfl ?_
  rw [bit_and]
  repeat (first | (refine step_ops ?_; (refine m_mov (by conv => lhs; whnf) ?_)) | refine end_ops ?_ | refine AW_ret ?_ | refine ret_done ?_)
  exact outs_b rfl
theorem outs_u {s : AS} {a b : Nat} (h : a = b) : Outs s (.u a) (.u b) := by
  subst h; exact outs_v
theorem setWith_spec (a g : Nat) (ha : a < 65536) (hg : g < 16) : Sp Tryd.prog 64 [.u a, .i g] (.u (a ||| 1 <<< g)) := by
  refine spec_of Tryd.func64 rfl cc64 rfl ?_
  unfold ac64
  repeat (first | (refine step_ops ?_; (refine m_mov (by conv => lhs; whnf) ?_)) | refine end_ops ?_ | refine seq_ops ?_)
  refine step_ops ?_
  refine m_shl16 (k := g) rfl rfl hg ?_
  refine step_ops ?_
  refine m_or16 (a := a) (b := 1 <<< g) rfl rfl ha (shl16_lt hg) ?_
  repeat (first | (refine step_ops ?_; (refine m_mov (by conv => lhs; whnf) ?_)) | refine end_ops ?_ | refine AW_ret ?_ | refine ret_done ?_)
  exact outs_u rfl
theorem notNodup {L : List Int} {k : Nat} (hk : k < L.length) (h : L.getD k 0 ∈ L.take k) : ¬ L.Nodup := by
  intro hn
  rw [← List.take_append_drop k L, List.nodup_append] at hn
  refine hn.2.2 _ h _ ?_ rfl
  have : L.drop k = L.getD k 0 :: L.drop (k + 1) := by rw [List.drop_eq_getElem_cons hk]; simp [hk]
  rw [this]
  exact List.mem_cons_self ..
theorem nodupSnoc {L : List Int} {k : Nat} (hk : k < L.length) (hn : (L.take k).Nodup) (h : L.getD k 0 ∉ L.take k) : (L.take (k + 1)).Nodup := by
  rw [take_snoc L k 0 hk, List.nodup_append]
  refine ⟨hn, by simp, ?_⟩
  intro a ha b hb hab
  rw [List.mem_singleton] at hb
  subst hb
  exact h (hab ▸ ha)
theorem areDifferent_spec (L : List Int) (n : Nat) (_hL : L.length ≤ 1048576) (hn16 : n ≤ 16) : Sp Tryd.prog 61 [ints L, .i n] (.b (decide ((∀ x ∈ L, 0 ≤ x ∧ x < (n : Int)) ∧ L.Nodup))) := by
  refine spec_of Tryd.func61 rfl cc61 rfl ?_
  unfold ac61
  repeat (first | (refine step_ops ?_; (first | (refine m_mov (by conv => lhs; whnf) ?_) | (refine m_len_ro rfl ?_))) | refine end_ops ?_ | refine seq_ops ?_ | refine AW_seq ?_ | refine AW_block ?_)
  refine AW_loop (α := Nat × Nat) (fun p => p.1 ≤ L.length ∧ p.2 < 65536 ∧ (∀ x ∈ L.take p.1, 0 ≤ x ∧ x < (n : Int)) ∧ (L.take p.1).Nodup ∧ ∀ i < 16, p.2.testBit i = decide ((i : Int) ∈ L.take p.1))
    (fun p => st [(0, ints L), (1, .i n), (5, .u p.2), (8, ints L), (9, .i L.length), (10, .i p.1)] []) (fun p => L.length - p.1) (0, 0) ⟨Nat.zero_le _, by decide, by simp, by simp, fun i _ => by simp⟩ (weak_st ?_ ?_ rfl rfl) ?_
  · (repeat' (first | exact trivial | refine And.intro ?_ ?_)) <;> (first | rfl | skip)
  · trivial
  rintro ⟨k, a⟩ ⟨hk, ha, hr, hn, hb⟩
  dsimp only at hk ha hr hn hb ⊢
  by_cases h : k < L.length
  · by_cases hx : 0 ≤ L.getD k 0 ∧ L.getD k 0 < (n : Int)
    · obtain ⟨i, hi⟩ := Int.eq_ofNat_of_zero_le hx.1
      have hi16 : i < 16 := by omega
      have hbi := hb i hi16
      by_cases hm : (i : Int) ∈ L.take k
      · have hbt : a.testBit i = true := by rw [hbi]; exact decide_eq_true hm
        repeat (first | (refine step_ops ?_; (first | (refine m_mov (by conv => lhs; whnf) ?_) | (refine m_lss rfl rfl ?_) | (refine m_idx1_ro rfl rfl ?_ ?_; (· omega)) | (refine m_ld_rpi rfl ?_ ?_; (· omega)))) | refine end_ops ?_ | refine seq_ops ?_ | (refine cond_t rfl ?_ ?_; (· first | rfl | assumption | (refine decide_eq_true ?_; first | assumption | omega) | (refine nt ?_; first | assumption | omega) | (simp [*]; done))) | refine skip_then ?_ | refine AW_seq ?_ | refine AW_block ?_)
        (refine step_ops ?_); (apply m_call (isGuest_spec _ _)); (· repeat (first | exact lends_nil | (refine lends_cons ?_ ?_; (· exact lend_v))))
        repeat (refine step_ops ?_; ((try (refine g_yes rfl ?_ ?_; (· first | rfl | assumption | (refine decide_eq_true ?_; first | assumption | omega) | (refine nt ?_; first | assumption | omega) | (simp [*]; done) | (refine decide_eq_false ?_; first | assumption | omega) | (refine nf ?_; first | assumption | omega)))); (first | (refine m_mov (by conv => lhs; whnf) ?_) | (refine m_not rfl ?_))))
        rw [hi]
        skip
        (refine step_ops ?_); (refine g_yes rfl ?_ ?_; (· first | (first | rfl | assumption | (refine decide_eq_true ?_; first | assumption | omega) | (refine nt ?_; first | assumption | omega) | (simp [*]; done)) | (first | rfl | assumption | (refine decide_eq_false ?_; first | assumption | omega) | (refine nf ?_; first | assumption | omega) | (simp [*]; done))); (apply m_call (setHas_spec a i ha (by omega)))); (· repeat (first | exact lends_nil | (refine lends_cons ?_ ?_; (· exact lend_v))))
        repeat (first | (refine step_ops ?_; (first | (refine m_mov (by conv => lhs; whnf) ?_) | (refine m_pick_f rfl ?_ (by conv => lhs; whnf) ?_; (· first | rfl | assumption | (refine decide_eq_false ?_; first | assumption | omega) | (refine nf ?_; first | assumption | omega) | (simp [*]; done))))) | refine end_ops ?_ | refine seq_ops ?_ | (refine cond_t rfl ?_ ?_; (· first | rfl | assumption | (refine decide_eq_true ?_; first | assumption | omega) | (refine nt ?_; first | assumption | omega) | (simp [*]; done))) | refine AW_ret ?_ | refine ret_done ?_ | refine ret_then ?_ | refine ret_block ?_ | refine ret_round ?_)
        refine outs_b ?_
        symm
        exact decide_eq_false fun he => notNodup h (hi ▸ hm) he.2
      · have hbt : a.testBit i = false := by rw [hbi]; exact decide_eq_false hm
        repeat (first | (refine step_ops ?_; (first | (refine m_mov (by conv => lhs; whnf) ?_) | (refine m_lss rfl rfl ?_) | (refine m_idx1_ro rfl rfl ?_ ?_; (· omega)) | (refine m_ld_rpi rfl ?_ ?_; (· omega)))) | refine end_ops ?_ | refine seq_ops ?_ | (refine cond_t rfl ?_ ?_; (· first | rfl | assumption | (refine decide_eq_true ?_; first | assumption | omega) | (refine nt ?_; first | assumption | omega) | (simp [*]; done))) | refine skip_then ?_ | refine AW_seq ?_ | refine AW_block ?_)
        (refine step_ops ?_); (apply m_call (isGuest_spec _ _)); (· repeat (first | exact lends_nil | (refine lends_cons ?_ ?_; (· exact lend_v))))
        repeat (refine step_ops ?_; ((try (refine g_yes rfl ?_ ?_; (· first | rfl | assumption | (refine decide_eq_true ?_; first | assumption | omega) | (refine nt ?_; first | assumption | omega) | (simp [*]; done) | (refine decide_eq_false ?_; first | assumption | omega) | (refine nf ?_; first | assumption | omega)))); (first | (refine m_mov (by conv => lhs; whnf) ?_) | (refine m_not rfl ?_))))
        rw [hi]
        skip
        (refine step_ops ?_); (refine g_yes rfl ?_ ?_; (· first | (first | rfl | assumption | (refine decide_eq_true ?_; first | assumption | omega) | (refine nt ?_; first | assumption | omega) | (simp [*]; done)) | (first | rfl | assumption | (refine decide_eq_false ?_; first | assumption | omega) | (refine nf ?_; first | assumption | omega) | (simp [*]; done))); (apply m_call (setHas_spec a i ha (by omega)))); (· repeat (first | exact lends_nil | (refine lends_cons ?_ ?_; (· exact lend_v))))
        repeat (first | (refine step_ops ?_; (first | (refine m_mov (by conv => lhs; whnf) ?_) | (refine m_pick_f rfl ?_ (by conv => lhs; whnf) ?_; (· first | rfl | assumption | (refine decide_eq_false ?_; first | assumption | omega) | (refine nf ?_; first | assumption | omega) | (simp [*]; done))))) | refine end_ops ?_ | refine AW_ops ?_ | (refine cond_f rfl ?_ ?_; (· first | rfl | assumption | (refine decide_eq_false ?_; first | assumption | omega) | (refine nf ?_; first | assumption | omega) | (simp [*]; done))) | refine skip_then ?_)
        (refine step_ops ?_); (apply m_call (setWith_spec a i ha (by omega))); (· repeat (first | exact lends_nil | (refine lends_cons ?_ ?_; (· exact lend_v))))
        repeat (first | (refine step_ops ?_; (first | (refine m_mov (by conv => lhs; whnf) ?_) | (refine m_add rfl rfl ?_ ?_ ?_; (· omega); (· omega)))) | refine end_ops ?_ | refine AW_ops ?_ | refine norm_then ?_ | refine norm_block ?_)
        refine next_round (k + 1, a ||| 1 <<< i) ⟨by omega, or16_lt ha (shl16_lt (by omega)), ?_, nodupSnoc h hn (hi ▸ hm), fun j hj => ?_⟩ (weak_st ?_ ?_ rfl rfl) ?_
        · rw [take_snoc L k 0 h]
          intro x hxm
          rw [List.mem_append, List.mem_singleton] at hxm
          rcases hxm with h1 | rfl
          · exact hr x h1
          · exact hx
        · rw [bit_or, hb j hj, take_snoc L k 0 h, Bool.eq_iff_iff]
          have hji : ((j : Int) = (i : Int)) ↔ j = i := by omega
          simp only [Bool.or_eq_true, decide_eq_true_eq, List.mem_append, List.mem_singleton, hi, hji]
        · (repeat' (first | exact trivial | refine And.intro ?_ ?_)) <;> (first | rfl | skip)
        · trivial
        · show L.length - (k + 1) < L.length - k
          omega
    · repeat (first | (refine step_ops ?_; (first | (refine m_mov (by conv => lhs; whnf) ?_) | (refine m_lss rfl rfl ?_) | (refine m_idx1_ro rfl rfl ?_ ?_; (· omega)) | (refine m_ld_rpi rfl ?_ ?_; (· omega)))) | refine end_ops ?_ | refine seq_ops ?_ | (refine cond_t rfl ?_ ?_; (· first | rfl | assumption | (refine decide_eq_true ?_; first | assumption | omega) | (refine nt ?_; first | assumption | omega) | (simp [*]; done))) | refine skip_then ?_ | refine AW_seq ?_ | refine AW_block ?_)
      (refine step_ops ?_); (apply m_call (isGuest_spec _ _)); (· repeat (first | exact lends_nil | (refine lends_cons ?_ ?_; (· exact lend_v))))
      repeat (first | (refine step_ops ?_; (first | (first | (refine m_mov (by conv => lhs; whnf) ?_) | (refine m_not rfl ?_) | (refine m_pick_t rfl ?_ (by conv => lhs; whnf) ?_; (· first | rfl | assumption | (refine decide_eq_true ?_; first | assumption | omega) | (refine nt ?_; first | assumption | omega) | (simp [*]; done)))) | (refine g_noF rfl ?_ ?_; (· first | rfl | assumption | (refine decide_eq_true ?_; first | assumption | omega) | (refine nt ?_; first | assumption | omega) | (simp [*]; done))))) | refine end_ops ?_ | refine seq_ops ?_ | (refine cond_t rfl ?_ ?_; (· first | rfl | assumption | (refine decide_eq_true ?_; first | assumption | omega) | (refine nt ?_; first | assumption | omega) | (simp [*]; done))) | refine AW_ret ?_ | refine ret_done ?_ | refine ret_then ?_ | refine ret_block ?_ | refine ret_round ?_)
      refine outs_b ?_
      symm
      exact decide_eq_false fun he => hx (he.1 _ (getD_mem h))
  · repeat (first | (refine step_ops ?_; (first | (refine m_mov (by conv => lhs; whnf) ?_) | (refine m_lss rfl rfl ?_))) | refine end_ops ?_ | refine seq_ops ?_ | (refine cond_f rfl ?_ ?_; (· first | rfl | assumption | (refine decide_eq_false ?_; first | assumption | omega) | (refine nf ?_; first | assumption | omega) | (simp [*]; done))) | refine AW_seq ?_ | refine AW_ret ?_ | refine ret_done ?_ | refine norm_then ?_ | refine exit_then ?_ | refine exit_round ?_ | refine AW_exit ?_ | refine exit_block ?_)
    refine outs_b ?_
    symm
    rw [List.take_of_length_le (by omega)] at hr hn
    exact decide_eq_true ⟨hr, hn⟩
end Go.Proofs.YtmmcldbldbpikaaDoor
namespace Go.Proofs.YtmmcldbldbpikaaDoor
open Go.Am
attribute [local irreducible] AW Outs Weak Lends Lend Sp aops atree aop1 Then Round InBlock Done
/-- What an exchange is. -/
def IsEx (L : List Int) : Prop := 1 ≤ L.length ∧ L.length ≤ 12 ∧ (∀ x ∈ L, 0 ≤ x ∧ x < L.length) ∧ L.Nodup
instance (L : List Int) : Decidable (IsEx L) := inferInstanceAs (Decidable (_ ∧ _ ∧ _ ∧ _))
theorem l1Has_spec (L : List Int) (n : Int) (hL : L.length ≤ 1048576) : Sp Tryd.prog 59 [ints L, .i n] (.b (decide (n ∈ L))) := by
  refine spec_of Tryd.func59 rfl cc59 rfl ?_
  unfold ac59
  repeat (first | (refine step_ops ?_; (first | (refine m_mov (by conv => lhs; whnf) ?_) | (refine m_len_ro rfl ?_))) | refine end_ops ?_ | refine seq_ops ?_ | refine AW_seq ?_ | refine AW_block ?_)
  refine AW_loop (α := Nat) (fun k => k ≤ L.length ∧ n ∉ L.take k) (fun k => st [(7, ints L), (1, .i n), (8, .i L.length), (9, .i k)] []) (fun k => L.length - k) 0 (by simp) (weak_st ?_ ?_ rfl rfl) ?_
  · (repeat' (first | exact trivial | refine And.intro ?_ ?_)) <;> (first | rfl | skip)
  · trivial
  rintro k ⟨hk, he⟩
  by_cases h : k < L.length
  · by_cases hx : L.getD k 0 = n
    · repeat (first | (refine step_ops ?_; (first | (refine m_mov (by conv => lhs; whnf) ?_) | (refine m_lss rfl rfl ?_) | (refine m_eql rfl rfl ?_) | (refine m_idx1_ro rfl rfl ?_ ?_; (· omega)) | (refine m_ld_rpi rfl ?_ ?_; (· omega)))) | refine end_ops ?_ | refine seq_ops ?_ | (refine cond_t rfl ?_ ?_; (· first | rfl | assumption | (refine decide_eq_true ?_; first | assumption | omega) | (refine nt ?_; first | assumption | omega) | (simp [*]; done))) | refine skip_then ?_ | refine AW_seq ?_ | refine AW_ret ?_ | refine ret_done ?_ | refine ret_then ?_ | refine AW_block ?_ | refine ret_block ?_ | refine ret_round ?_)
      refine outs_b ?_
      symm
      exact decide_eq_true (hx ▸ getD_mem h)
    · repeat (first | (refine step_ops ?_; (first | (refine m_mov (by conv => lhs; whnf) ?_) | (refine m_lss rfl rfl ?_) | (refine m_eql rfl rfl ?_) | (refine m_add rfl rfl ?_ ?_ ?_; (· omega); (· omega)) | (refine m_idx1_ro rfl rfl ?_ ?_; (· omega)) | (refine m_ld_rpi rfl ?_ ?_; (· omega)))) | refine end_ops ?_ | refine seq_ops ?_ | refine AW_ops ?_ | (refine cond_t rfl ?_ ?_; (· first | rfl | assumption | (refine decide_eq_true ?_; first | assumption | omega) | (refine nt ?_; first | assumption | omega) | (simp [*]; done))) | (refine cond_f rfl ?_ ?_; (· first | rfl | assumption | (refine decide_eq_false ?_; first | assumption | omega) | (refine nf ?_; first | assumption | omega) | (simp [*]; done))) | refine skip_then ?_ | refine AW_seq ?_ | refine norm_then ?_ | refine AW_block ?_ | refine norm_block ?_ | refine AW_skip ?_)
      refine next_round (k + 1) ⟨by omega, ?_⟩ (weak_st ?_ ?_ rfl rfl) ?_
      · rw [take_snoc L k 0 h, List.mem_append, List.mem_singleton]
        rintro (h1 | h1)
        · exact he h1
        · exact hx h1.symm
      · (repeat' (first | exact trivial | refine And.intro ?_ ?_)) <;> (first | rfl | skip)
      · trivial
      · omega
  · repeat (first | (refine step_ops ?_; (first | (refine m_mov (by conv => lhs; whnf) ?_) | (refine m_lss rfl rfl ?_))) | refine end_ops ?_ | refine seq_ops ?_ | (refine cond_f rfl ?_ ?_; (· first | rfl | assumption | (refine decide_eq_false ?_; first | assumption | omega) | (refine nf ?_; first | assumption | omega) | (simp [*]; done))) | refine AW_seq ?_ | refine AW_ret ?_ | refine ret_done ?_ | refine norm_then ?_ | refine exit_then ?_ | refine exit_round ?_ | refine AW_exit ?_ | refine exit_block ?_)
    refine outs_b ?_
    symm
    rw [List.take_of_length_le (by omega)] at he
    exact decide_eq_false he
theorem l1All_spec (L : List Int) (lo hi : Int) (hL : L.length ≤ 1048576) : Sp Tryd.prog 62 [ints L, .i lo, .i hi] (.b (decide (∀ x ∈ L, lo ≤ x ∧ x ≤ hi))) := by
  refine spec_of Tryd.func62 rfl cc62 rfl ?_
  unfold ac62
  repeat (first | (refine step_ops ?_; (first | (refine m_mov (by conv => lhs; whnf) ?_) | (refine m_len_ro rfl ?_))) | refine end_ops ?_ | refine seq_ops ?_ | refine AW_seq ?_ | refine AW_block ?_)
  refine AW_loop (α := Nat) (fun k => k ≤ L.length ∧ ∀ x ∈ L.take k, lo ≤ x ∧ x ≤ hi) (fun k => st [(9, ints L), (1, .i lo), (2, .i hi), (10, .i L.length), (11, .i k)] []) (fun k => L.length - k) 0 (by simp) (weak_st ?_ ?_ rfl rfl) ?_
  · (repeat' (first | exact trivial | refine And.intro ?_ ?_)) <;> (first | rfl | skip)
  · trivial
  rintro k ⟨hk, he⟩
  by_cases h : k < L.length
  · by_cases hx : lo ≤ L.getD k 0 ∧ L.getD k 0 ≤ hi
    · repeat (first | (refine step_ops ?_; (first | (refine m_mov (by conv => lhs; whnf) ?_) | (refine m_lss rfl rfl ?_) | (refine m_idx1_ro rfl rfl ?_ ?_; (· omega)) | (refine m_ld_rpi rfl ?_ ?_; (· omega)))) | refine end_ops ?_ | refine seq_ops ?_ | (refine cond_t rfl ?_ ?_; (· first | rfl | assumption | (refine decide_eq_true ?_; first | assumption | omega) | (refine nt ?_; first | assumption | omega) | (simp [*]; done))) | refine skip_then ?_ | refine AW_seq ?_ | refine AW_block ?_)
      (refine step_ops ?_); (apply m_call (l1In_spec _ _ _)); (· repeat (first | exact lends_nil | (refine lends_cons ?_ ?_; (· exact lend_v))))
      repeat (first | (refine step_ops ?_; (first | (refine m_mov (by conv => lhs; whnf) ?_) | (refine m_add rfl rfl ?_ ?_ ?_; (· omega); (· omega)) | (refine m_not rfl ?_))) | refine end_ops ?_ | refine AW_ops ?_ | (refine cond_f rfl ?_ ?_; (· first | rfl | assumption | (refine decide_eq_false ?_; first | assumption | omega) | (refine nf ?_; first | assumption | omega) | (simp [*]; done))) | refine norm_then ?_ | refine norm_block ?_ | refine AW_skip ?_)
      refine next_round (k + 1) ⟨by omega, ?_⟩ (weak_st ?_ ?_ rfl rfl) ?_
      · rw [take_snoc L k 0 h]
        intro x hxm
        rw [List.mem_append, List.mem_singleton] at hxm
        rcases hxm with h1 | rfl
        · exact he x h1
        · exact hx
      · (repeat' (first | exact trivial | refine And.intro ?_ ?_)) <;> (first | rfl | skip)
      · trivial
      · omega
    · repeat (first | (refine step_ops ?_; (first | (refine m_mov (by conv => lhs; whnf) ?_) | (refine m_lss rfl rfl ?_) | (refine m_idx1_ro rfl rfl ?_ ?_; (· omega)) | (refine m_ld_rpi rfl ?_ ?_; (· omega)))) | refine end_ops ?_ | refine seq_ops ?_ | (refine cond_t rfl ?_ ?_; (· first | rfl | assumption | (refine decide_eq_true ?_; first | assumption | omega) | (refine nt ?_; first | assumption | omega) | (simp [*]; done))) | refine skip_then ?_ | refine AW_seq ?_ | refine AW_block ?_)
      (refine step_ops ?_); (apply m_call (l1In_spec _ _ _)); (· repeat (first | exact lends_nil | (refine lends_cons ?_ ?_; (· exact lend_v))))
      repeat (first | (refine step_ops ?_; (first | (refine m_mov (by conv => lhs; whnf) ?_) | (refine m_not rfl ?_))) | refine end_ops ?_ | refine seq_ops ?_ | (refine cond_t rfl ?_ ?_; (· first | rfl | assumption | (refine decide_eq_true ?_; first | assumption | omega) | (refine nt ?_; first | assumption | omega) | (simp [*]; done))) | refine AW_ret ?_ | refine ret_done ?_ | refine ret_then ?_ | refine ret_block ?_ | refine ret_round ?_)
      refine outs_b ?_
      symm
      exact decide_eq_false fun hall => hx (hall _ (getD_mem h))
  · repeat (first | (refine step_ops ?_; (first | (refine m_mov (by conv => lhs; whnf) ?_) | (refine m_lss rfl rfl ?_))) | refine end_ops ?_ | refine seq_ops ?_ | (refine cond_f rfl ?_ ?_; (· first | rfl | assumption | (refine decide_eq_false ?_; first | assumption | omega) | (refine nf ?_; first | assumption | omega) | (simp [*]; done))) | refine AW_seq ?_ | refine AW_ret ?_ | refine ret_done ?_ | refine norm_then ?_ | refine exit_then ?_ | refine exit_round ?_ | refine AW_exit ?_ | refine exit_block ?_)
    refine outs_b ?_
    symm
    rw [List.take_of_length_le (by omega)] at he
    exact decide_eq_true he
theorem not_nodup {L : List Int} {k : Nat} (hk : k < L.length) (h : L.getD k 0 ∈ L.take k) : ¬ L.Nodup := by
  intro hn
  rw [← List.take_append_drop k L, List.nodup_append] at hn
  refine hn.2.2 _ h _ ?_ rfl
  have : L.drop k = L.getD k 0 :: L.drop (k + 1) := by rw [List.drop_eq_getElem_cons hk]; simp [hk]
  rw [this]
  exact List.mem_cons_self ..
theorem nodup_snoc {L : List Int} {k : Nat} (hk : k < L.length) (hn : (L.take k).Nodup) (h : L.getD k 0 ∉ L.take k) : (L.take (k + 1)).Nodup := by
  rw [take_snoc L k 0 hk, List.nodup_append]
  refine ⟨hn, by simp, ?_⟩
  intro a ha b hb hab
  rw [List.mem_singleton] at hb
  subst hb
  exact h (hab ▸ ha)
end Go.Proofs.YtmmcldbldbpikaaDoor
namespace Go.Am
section
variable (fits : List Int → Nat → Bool) (n : Nat)
/-- All that go on from l by k more, in order. -/
def goOn : Nat → List Int → List (List Int)
  | 0, l => [l]
  | k + 1, l => ((List.range n).filter fun x => fits l x).flatMap fun (x : Nat) => goOn k (l ++ [(x : Int)])
/-- Those whose next is at least g. -/
def goFrom (l : List Int) (g : Nat) : List (List Int) := ((List.range n).filter fun x => decide (g ≤ x) && fits l x).flatMap fun (x : Nat) => goOn fits n (n - l.length - 1) (l ++ [(x : Int)])
/-- What comes behind all that go on from a list (which is told from its end). -/
def goBack : List Int → List (List Int)
  | [] => []
  | x :: r => goFrom fits n r.reverse (x.toNat + 1) ++ goBack r
/-- What a search finds that stands at a list and is to try g next. -/
def goAt (l : List Int) (g : Nat) : List (List Int) := (if l.length = n then [l] else goFrom fits n l g) ++ goBack fits n l.reverse
theorem range_split (p : Nat → Bool) (g : Nat) : ∀ n, g < n → (List.range n).filter (fun x => decide (g ≤ x) && p x) = (if p g then [g] else []) ++ (List.range n).filter (fun x => decide (g + 1 ≤ x) && p x)
  | 0, h => by omega
  | n + 1, h => by
    rw [List.range_succ, List.filter_append, List.filter_append]
    by_cases hg : g < n
    · rw [range_split p g n hg, List.append_assoc]
      congr 2
      have h1 : decide (g ≤ n) = true := decide_eq_true (by omega)
      have h2 : decide (g + 1 ≤ n) = true := decide_eq_true (by omega)
      simp only [List.filter_cons, List.filter_nil, h1, h2]
    · obtain rfl : g = n := by omega
      have e1 : (List.range g).filter (fun x => decide (g ≤ x) && p x) = [] := List.filter_eq_nil_iff.2 fun x hx => by have := List.mem_range.1 hx; simp; omega
      have e2 : (List.range g).filter (fun x => decide (g + 1 ≤ x) && p x) = [] := List.filter_eq_nil_iff.2 fun x hx => by have := List.mem_range.1 hx; simp; omega
      rw [e1, e2]
      have h2 : decide (g + 1 ≤ g) = false := decide_eq_false (by omega)
      have h1 : decide (g ≤ g) = true := decide_eq_true (by omega)
      simp only [List.filter_cons, List.filter_nil, List.nil_append, h1, h2]
      simp
theorem goFrom_step {l : List Int} {g : Nat} (hg : g < n) : goFrom fits n l g = (if fits l g then goOn fits n (n - l.length - 1) (l ++ [(g : Int)]) else []) ++ goFrom fits n l (g + 1) := by
  unfold goFrom
  rw [range_split (fits l) g n hg, List.flatMap_append]
  split <;> simp
theorem goFrom_end {l : List Int} {g : Nat} (hg : n ≤ g) : goFrom fits n l g = [] := by
  unfold goFrom
  rw [List.filter_eq_nil_iff.2 fun x hx => by have := List.mem_range.1 hx; simp; omega]
  rfl
theorem goOn_from {l : List Int} (h : l.length < n) : goOn fits n (n - l.length) l = goFrom fits n l 0 := by
  obtain ⟨k, hk⟩ : ∃ k, n - l.length = k + 1 := ⟨n - l.length - 1, by omega⟩
  unfold goFrom
  rw [hk]
  simp [goOn]
theorem goAt_full {l : List Int} {g : Nat} (h : l.length = n) : (goAt fits n l g).head? = some l := by
  simp [goAt, h]
theorem goAt_take {l : List Int} {g : Nat} (h : l.length < n) (hg : g < n) (hf : fits l g = true) : goAt fits n (l ++ [(g : Int)]) 0 = goAt fits n l g := by
  have hne : ¬ l.length = n := by omega
  unfold goAt
  rw [if_neg hne, goFrom_step fits n hg, if_pos hf, List.reverse_append, List.reverse_singleton, List.singleton_append, goBack, List.reverse_reverse, Int.toNat_natCast, List.append_assoc]
  congr 1
  by_cases h1 : l.length + 1 = n
  · have e : n - l.length - 1 = 0 := by omega
    rw [if_pos (by simpa using h1), e]
    rfl
  · have e : n - l.length - 1 = n - (l ++ [(g : Int)]).length := by simp; omega
    rw [if_neg (by simpa using h1), e, goOn_from fits n (by simp; omega)]
theorem goAt_skip {l : List Int} {g : Nat} (h : l.length < n) (hg : g < n) (hf : fits l g = false) : goAt fits n l (g + 1) = goAt fits n l g := by
  have hne : ¬ l.length = n := by omega
  unfold goAt
  rw [if_neg hne, if_neg hne, goFrom_step fits n hg, hf]
  simp
theorem goAt_none {g : Nat} (h : 0 < n) (hg : n ≤ g) : goAt fits n [] g = [] := by
  unfold goAt
  rw [if_neg (by simp; omega), goFrom_end fits n hg]
  rfl
theorem goAt_back {l : List Int} {x : Int} {g : Nat} (h : l.length + 1 < n) (hg : n ≤ g) : goAt fits n (l ++ [x]) g = goAt fits n l (x.toNat + 1) := by
  unfold goAt
  rw [if_neg (by simp; omega), if_neg (by omega), goFrom_end fits n hg, List.reverse_append, List.reverse_singleton, List.singleton_append, goBack, List.reverse_reverse]
  rfl
theorem goAt_start (h : 0 < n) : goAt fits n [] 0 = goOn fits n n [] := by
  have := goOn_from fits n (l := []) (by simpa using h)
  simp only [List.length_nil, Nat.sub_zero] at this
  unfold goAt
  rw [if_neg (by simp; omega), this]
  simp [goBack]
end
/-- How long a search may go on. -/
def goW (n : Nat) : Nat → Nat
  | 0 => 0
  | j + 1 => n * goW n j + 2
def goM (n : Nat) : List Int → Nat
  | [] => 0
  | x :: r => (n - (x.toNat + 1)) * goW n (n - r.length) + 1 + goM n r
def goMeas (n : Nat) (l : List Int) (g : Nat) : Nat := (n - g) * goW n (n - l.length) + goM n l.reverse
theorem goMeas_take {n : Nat} {l : List Int} {g : Nat} (h : l.length < n) (hg : g < n) : goMeas n (l ++ [(g : Int)]) 0 < goMeas n l g := by
  obtain ⟨k, hk⟩ : ∃ k, n - l.length = k + 1 := ⟨n - l.length - 1, by omega⟩
  have hk2 : n - (l ++ [(g : Int)]).length = k := by simp; omega
  obtain ⟨q, hq⟩ : ∃ q, n - g = q + 1 := ⟨n - g - 1, by omega⟩
  have hq2 : n - (g + 1) = q := by omega
  unfold goMeas
  rw [List.reverse_append, List.reverse_singleton, List.singleton_append, goM, List.length_reverse, Int.toNat_natCast, hk2, hk, hq, hq2, Nat.sub_zero, Nat.add_mul, Nat.one_mul]
  have : goW n (k + 1) = n * goW n k + 2 := rfl
  omega
theorem goMeas_skip {n : Nat} {l : List Int} {g : Nat} (h : l.length < n) (hg : g < n) : goMeas n l (g + 1) < goMeas n l g := by
  obtain ⟨k, hk⟩ : ∃ k, n - l.length = k + 1 := ⟨n - l.length - 1, by omega⟩
  obtain ⟨q, hq⟩ : ∃ q, n - g = q + 1 := ⟨n - g - 1, by omega⟩
  have hq2 : n - (g + 1) = q := by omega
  unfold goMeas
  rw [hk, hq, hq2, Nat.add_mul, Nat.one_mul]
  have : goW n (k + 1) = n * goW n k + 2 := rfl
  omega
theorem goMeas_back {n : Nat} {l : List Int} {x : Int} {g : Nat} (hg : n ≤ g) : goMeas n l (x.toNat + 1) < goMeas n (l ++ [x]) g := by
  have h0 : n - g = 0 := by omega
  unfold goMeas
  rw [List.reverse_append, List.reverse_singleton, List.singleton_append, goM, List.length_reverse, h0, Nat.zero_mul]
  omega
/-- Does a list come before another? -/
def comesB : List Int → List Int → Bool
  | [], _ => false
  | _ :: _, [] => false
  | a :: l, b :: m => if a = b then comesB l m else decide (a < b)
theorem comesB_append (p : List Int) (l m : List Int) : comesB (p ++ l) (p ++ m) = comesB l m := by
  induction p with
  | nil => rfl
  | cons a p ih => simp [comesB, ih]
theorem comesB_self (l : List Int) : comesB l l = false := by
  induction l with
  | nil => rfl
  | cons a l ih => simp [comesB, ih]
section
variable (fits : List Int → Nat → Bool) (n : Nat)
theorem goOn_shape : ∀ (k : Nat) (l x : List Int), x ∈ goOn fits n k l → ∃ m, x = l ++ m ∧ m.length = k
  | 0, l, x, h => ⟨[], by simpa [goOn] using h, rfl⟩
  | k + 1, l, x, h => by
    simp only [goOn, List.mem_flatMap] at h
    obtain ⟨y, _, hx⟩ := h
    obtain ⟨m, rfl, hm⟩ := goOn_shape k _ _ hx
    exact ⟨(y : Int) :: m, by simp, by simp [hm]⟩
/-- All that go on behind a lesser next come before; behind a greater one, behind. -/
theorem find_less {k : Nat} {l : List Int} {x : Nat} {b : Int} {t : List Int} (h : (x : Int) < b) : (goOn fits n k (l ++ [(x : Int)])).find? (fun m => comesB (l ++ b :: t) m) = none := by
  rw [List.find?_eq_none]
  intro m hm
  obtain ⟨r, rfl, _⟩ := goOn_shape fits n _ _ _ hm
  rw [List.append_assoc, comesB_append]
  have h1 : ¬ b = (x : Int) := by omega
  have h2 : ¬ b < (x : Int) := by omega
  simp [comesB, h1, h2]
theorem find_more {k : Nat} {l : List Int} {x : Nat} {b : Int} {t : List Int} (h : b < (x : Int)) : (goOn fits n k (l ++ [(x : Int)])).find? (fun m => comesB (l ++ b :: t) m) = (goOn fits n k (l ++ [(x : Int)])).head? := by
  have hall : ∀ m ∈ goOn fits n k (l ++ [(x : Int)]), comesB (l ++ b :: t) m = true := by
    intro m hm
    obtain ⟨r, rfl, _⟩ := goOn_shape fits n _ _ _ hm
    rw [List.append_assoc, comesB_append]
    have h1 : ¬ b = (x : Int) := by omega
    simp [comesB, h1, h]
  cases hg : goOn fits n k (l ++ [(x : Int)]) with
  | nil => rfl
  | cons m ms => simp [hall m (by rw [hg]; simp)]
end
theorem range_three (p : Nat → Bool) (g : Nat) : ∀ n, g < n → (List.range n).filter p = (List.range g).filter p ++ ((if p g then [g] else []) ++ (List.range n).filter (fun x => decide (g + 1 ≤ x) && p x))
  | 0, h => by omega
  | n + 1, h => by
    rw [List.range_succ, List.filter_append, List.filter_append]
    by_cases hg : g < n
    · rw [range_three p g n hg, List.append_assoc, List.append_assoc]
      congr 3
      have h2 : decide (g + 1 ≤ n) = true := decide_eq_true (by omega)
      simp only [List.filter_cons, List.filter_nil, h2, Bool.true_and]
    · obtain rfl : g = n := by omega
      have e2 : (List.range g).filter (fun x => decide (g + 1 ≤ x) && p x) = [] := List.filter_eq_nil_iff.2 fun x hx => by have := List.mem_range.1 hx; simp; omega
      have h2 : decide (g + 1 ≤ g) = false := decide_eq_false (by omega)
      rw [e2]
      simp only [List.filter_cons, List.filter_nil, List.nil_append, h2]
      simp
theorem findSome_congr {α β : Type} {f g : α → Option β} : ∀ {l : List α}, (∀ x ∈ l, f x = g x) → l.findSome? f = l.findSome? g
  | [], _ => rfl
  | a :: l, h => by
    simp only [List.findSome?_cons]
    rw [h a (by simp), findSome_congr fun x hx => h x (by simp [hx])]
section
variable (fits : List Int → Nat → Bool) (n : Nat)
theorem goFrom_head (l : List Int) (g : Nat) : (goFrom fits n l g).head? = ((List.range n).filter fun x => decide (g ≤ x) && fits l x).findSome? fun (x : Nat) => (goOn fits n (n - l.length - 1) (l ++ [(x : Int)])).head? := by
  unfold goFrom
  rw [List.head?_flatMap]
theorem find_next {k g : Nat} {l t : List Int} (hg : g < n) (hk : n - l.length = k + 1) : (goOn fits n (k + 1) l).find? (fun m => comesB (l ++ (g : Int) :: t) m) =
    (if fits l g then (goOn fits n k (l ++ [(g : Int)])).find? (fun m => comesB (l ++ (g : Int) :: t) m) else none).or (goFrom fits n l (g + 1)).head? := by
  have hk2 : n - l.length - 1 = k := by omega
  rw [goFrom_head, goOn, List.find?_flatMap, range_three _ g n hg, List.findSome?_append, List.findSome?_append, hk2]
  have e1 : ((List.range g).filter fun x => fits l x).findSome? (fun (x : Nat) => (goOn fits n k (l ++ [(x : Int)])).find? fun m => comesB (l ++ (g : Int) :: t) m) = none := by
    rw [List.findSome?_eq_none_iff]
    intro x hx
    have := List.mem_range.1 (List.mem_filter.1 hx).1
    exact find_less fits n (by omega)
  rw [e1, Option.none_or]
  congr 1
  · split <;> simp
  · refine findSome_congr fun x hx => ?_
    have := (List.mem_filter.1 hx).2
    simp only [Bool.and_eq_true, decide_eq_true_eq] at this
    exact find_more fits n (by omega)
/-- The first that comes behind a list: where its own beginning goes no further, a search that begins there finds it. -/
theorem find_behind {L : List Int} (hL : L.length = n) (hb : ∀ i < n, ∃ g : Nat, L.getD i 0 = g ∧ g < n) {kept : Nat} (hk : kept < n) (hf : ∀ i < kept, fits (L.take i) (L.getD i 0).toNat = true)
    (he : fits (L.take kept) (L.getD kept 0).toNat = false ∨ kept + 1 = n) : (goOn fits n n []).find? (fun m => comesB L m) = (goAt fits n (L.take kept) ((L.getD kept 0).toNat + 1)).head? := by
  have step : ∀ i, i < n → (goOn fits n (n - i) (L.take i)).find? (fun m => comesB L m) =
      (if fits (L.take i) (L.getD i 0).toNat then (goOn fits n (n - (i + 1)) (L.take (i + 1))).find? (fun m => comesB L m) else none).or (goFrom fits n (L.take i) ((L.getD i 0).toNat + 1)).head? := by
    intro i hi
    obtain ⟨g, hg, hgn⟩ := hb i hi
    have hlen : (L.take i).length = i := List.length_take_of_le (by omega)
    have hsp : L = L.take i ++ (g : Int) :: L.drop (i + 1) := by
      have h1 := take_snoc L i 0 (by omega)
      have h2 := List.take_append_drop (i + 1) L
      rw [h1, hg, List.append_assoc] at h2
      exact h2.symm
    have h1 := find_next fits n (k := n - (i + 1)) (g := g) (l := L.take i) (t := L.drop (i + 1)) hgn (by omega)
    rw [← hsp] at h1
    have e : n - (i + 1) + 1 = n - i := by omega
    rw [e] at h1
    rw [take_snoc L i 0 (by omega), hg, Int.toNat_natCast]
    exact h1
  have key : ∀ i, i ≤ kept → (goOn fits n n []).find? (fun m => comesB L m) = ((goOn fits n (n - i) (L.take i)).find? (fun m => comesB L m)).or (goBack fits n (L.take i).reverse).head? := by
    intro i
    induction i with
    | zero => intro _; simp [goBack]
    | succ i ih =>
      intro hi
      have h1 := hf i (by omega)
      rw [ih (by omega), step i (by omega), if_pos h1, Option.or_assoc]
      congr 1
      rw [take_snoc L i 0 (by omega), List.reverse_append, List.reverse_singleton, List.singleton_append, goBack, List.reverse_reverse, List.head?_append]
  have hlen : (L.take kept).length = kept := List.length_take_of_le (by omega)
  have hnone : (if fits (L.take kept) (L.getD kept 0).toNat then (goOn fits n (n - (kept + 1)) (L.take (kept + 1))).find? (fun m => comesB L m) else none) = none := by
    split
    · rename_i hh
      rcases he with he | he
      · rw [he] at hh; cases hh
      · have e : n - (kept + 1) = 0 := by omega
        rw [e, List.take_of_length_le (by omega)]
        simp [goOn, comesB_self]
    · rfl
  have hne : ¬ (L.take kept).length = n := by omega
  rw [key kept (Nat.le_refl _), step kept hk, hnone, Option.none_or, goAt, if_neg hne, List.head?_append]
end
/-- Where a beginning differs from a list for the first time by less, none that goes on from it comes behind. -/
theorem find_prune (fits : List Int → Nat → Bool) (n : Nat) {k i : Nat} {l b : List Int} (hl : i < l.length) (hb : i < b.length) (he : l.take i = b.take i) (hlt : l.getD i 0 < b.getD i 0) : (goOn fits n k l).find? (fun m => comesB b m) = none := by
  rw [List.find?_eq_none]
  intro m hm
  obtain ⟨r, rfl, _⟩ := goOn_shape fits n _ _ _ hm
  have h1 : l = l.take i ++ l.getD i 0 :: l.drop (i + 1) := by
    have h2 := List.take_append_drop (i + 1) l
    rw [take_snoc l i 0 hl, List.append_assoc] at h2
    exact h2.symm
  have h2 : b = l.take i ++ b.getD i 0 :: b.drop (i + 1) := by
    have h2 := List.take_append_drop (i + 1) b
    rw [take_snoc b i 0 hb, List.append_assoc, ← he] at h2
    exact h2.symm
  rw [h1, h2, List.append_assoc, comesB_append]
  have h3 : ¬ b.getD i 0 = l.getD i 0 := by omega
  have h4 : ¬ b.getD i 0 < l.getD i 0 := by omega
  simp only [List.cons_append, comesB, if_neg h3]
  exact fun hh => h4 (of_decide_eq_true hh)
end Go.Am
namespace Go.Am
/-- What a table is. -/
def IsTab (L : List Int) : Prop := 2 ≤ L.length ∧ L.length ≤ 14 ∧ L.length % 2 = 0 ∧ (∀ x ∈ L, 0 ≤ x ∧ x < L.length) ∧ L.Nodup
instance (L : List Int) : Decidable (IsTab L) := inferInstanceAs (Decidable (_ ∧ _ ∧ _ ∧ _ ∧ _))
theorem tab_get {L : List Int} (h : IsTab L) {k : Nat} (hk : k < L.length) : ∃ x : Nat, L.getD k 0 = x ∧ x < L.length := by
  have hr := h.2.2.2.1 _ (show L.getD k 0 ∈ L by simp [hk])
  obtain ⟨x, hx⟩ := Int.eq_ofNat_of_zero_le hr.1
  exact ⟨x, hx, by omega⟩
end Go.Am
namespace Go.Proofs.YtmmcldbldbpikaaDoor
open Go.Am
attribute [local irreducible] AW Outs Weak Lends Lend Sp aops atree aop1 Then Round InBlock Done
theorem isCoupleCount_spec (a : Int) : Sp Tryd.prog 35 [.i a] (.b (decide (1 ≤ a ∧ a ≤ 7))) := by
  refine spec_of Tryd.func35 rfl cc35 rfl ?_
  unfold ac35
  by_cases h : 1 ≤ a
  all_goals
    repeat (first | (refine step_ops ?_; (first | ((try (refine g_yes rfl ?_ ?_; (· first | rfl | assumption | (refine decide_eq_true ?_; first | assumption | omega) | (refine nt ?_; first | assumption | omega) | (simp [*]; done) | (refine decide_eq_false ?_; first | assumption | omega) | (refine nf ?_; first | assumption | omega)))); (first | (refine m_mov (by conv => lhs; whnf) ?_) | (refine m_leq rfl rfl ?_) | (refine m_geq rfl rfl ?_) | (refine m_pick_t rfl ?_ (by conv => lhs; whnf) ?_; (· first | rfl | assumption | (refine decide_eq_true ?_; first | assumption | omega) | (refine nt ?_; first | assumption | omega) | (simp [*]; done))) | (refine m_pick_f rfl ?_ (by conv => lhs; whnf) ?_; (· first | rfl | assumption | (refine decide_eq_false ?_; first | assumption | omega) | (refine nf ?_; first | assumption | omega) | (simp [*]; done))))) | (refine g_noT rfl ?_ ?_; (· first | rfl | assumption | (refine decide_eq_false ?_; first | assumption | omega) | (refine nf ?_; first | assumption | omega) | (simp [*]; done))))) | refine end_ops ?_ | refine seq_ops ?_ | refine AW_ret ?_ | refine ret_done ?_)
    refine outs_b ?_
    simp [*]
theorem implIsTable_spec (L : List Int) (hL : L.length ≤ 1048576) : Sp Tryd.prog 43 [ints L] (.b (decide (IsTab L))) := by
  refine spec_of Tryd.func43 rfl cc43 rfl ?_
  unfold ac43
  by_cases hp : (L.length : Int) % 2 = 0
  · by_cases hc : 1 ≤ (L.length : Int) / 2 ∧ (L.length : Int) / 2 ≤ 7
    · have hd := areDifferent_spec L L.length hL (by omega)
      have e : decide (IsTab L) = decide ((∀ x ∈ L, 0 ≤ x ∧ x < (L.length : Int)) ∧ L.Nodup) := decide_eq_decide.2 ⟨fun he => he.2.2.2, fun he => ⟨by omega, by omega, by omega, he⟩⟩
      rw [e]
      repeat (first | (refine step_ops ?_; ((try (refine g_yes rfl ?_ ?_; (· first | rfl | assumption | (refine decide_eq_true ?_; first | assumption | omega) | (refine nt ?_; first | assumption | omega) | (simp [*]; done) | (refine decide_eq_false ?_; first | assumption | omega) | (refine nf ?_; first | assumption | omega)))); (first | (refine m_mov (by conv => lhs; whnf) ?_) | (refine m_eql rfl rfl ?_) | (refine m_len_ro rfl ?_) | (refine m_quo rfl rfl ?_ ?_ ?_ ?_; (· omega); (· omega); (· omega)) | (refine m_rem rfl rfl ?_ ?_ ?_; (· omega); (· omega))))) | refine end_ops ?_ | refine seq_ops ?_)
      (refine step_ops ?_); (refine g_yes rfl ?_ ?_; (· first | (first | rfl | assumption | (refine decide_eq_true ?_; first | assumption | omega) | (refine nt ?_; first | assumption | omega) | (simp [*]; done)) | (first | rfl | assumption | (refine decide_eq_false ?_; first | assumption | omega) | (refine nf ?_; first | assumption | omega) | (simp [*]; done))); (apply m_call (isCoupleCount_spec _))); (· repeat (first | exact lends_nil | (refine lends_cons ?_ ?_; (· exact lend_v))))
      repeat (refine step_ops ?_; ((try (refine g_yes rfl ?_ ?_; (· first | rfl | assumption | (refine decide_eq_true ?_; first | assumption | omega) | (refine nt ?_; first | assumption | omega) | (simp [*]; done) | (refine decide_eq_false ?_; first | assumption | omega) | (refine nf ?_; first | assumption | omega)))); (first | (refine m_mov (by conv => lhs; whnf) ?_) | (refine m_len_ro rfl ?_) | (refine m_pick_t rfl ?_ (by conv => lhs; whnf) ?_; (· first | rfl | assumption | (refine decide_eq_true ?_; first | assumption | omega) | (refine nt ?_; first | assumption | omega) | (simp [*]; done))))))
      (refine step_ops ?_); (refine g_yes rfl ?_ ?_; (· first | (first | rfl | assumption | (refine decide_eq_true ?_; first | assumption | omega) | (refine nt ?_; first | assumption | omega) | (simp [*]; done)) | (first | rfl | assumption | (refine decide_eq_false ?_; first | assumption | omega) | (refine nf ?_; first | assumption | omega) | (simp [*]; done))); (apply m_call (hd))); (· repeat (first | exact lends_nil | (refine lends_cons ?_ ?_; (· (first | exact lend_v | (refine lend_ints ?_; first | rfl | omega))))))
      repeat (first | (refine step_ops ?_; (first | (refine m_mov (by conv => lhs; whnf) ?_) | (refine m_pick_t rfl ?_ (by conv => lhs; whnf) ?_; (· first | rfl | assumption | (refine decide_eq_true ?_; first | assumption | omega) | (refine nt ?_; first | assumption | omega) | (simp [*]; done))))) | refine end_ops ?_ | refine AW_ret ?_ | refine ret_done ?_)
      exact outs_b rfl
    · repeat (first | (refine step_ops ?_; ((try (refine g_yes rfl ?_ ?_; (· first | rfl | assumption | (refine decide_eq_true ?_; first | assumption | omega) | (refine nt ?_; first | assumption | omega) | (simp [*]; done) | (refine decide_eq_false ?_; first | assumption | omega) | (refine nf ?_; first | assumption | omega)))); (first | (refine m_mov (by conv => lhs; whnf) ?_) | (refine m_eql rfl rfl ?_) | (refine m_len_ro rfl ?_) | (refine m_quo rfl rfl ?_ ?_ ?_ ?_; (· omega); (· omega); (· omega)) | (refine m_rem rfl rfl ?_ ?_ ?_; (· omega); (· omega))))) | refine end_ops ?_ | refine seq_ops ?_)
      (refine step_ops ?_); (refine g_yes rfl ?_ ?_; (· first | (first | rfl | assumption | (refine decide_eq_true ?_; first | assumption | omega) | (refine nt ?_; first | assumption | omega) | (simp [*]; done)) | (first | rfl | assumption | (refine decide_eq_false ?_; first | assumption | omega) | (refine nf ?_; first | assumption | omega) | (simp [*]; done))); (apply m_call (isCoupleCount_spec _))); (· repeat (first | exact lends_nil | (refine lends_cons ?_ ?_; (· exact lend_v))))
      repeat (first | (refine step_ops ?_; (first | (first | (refine m_mov (by conv => lhs; whnf) ?_) | (refine m_pick_t rfl ?_ (by conv => lhs; whnf) ?_; (· first | rfl | assumption | (refine decide_eq_true ?_; first | assumption | omega) | (refine nt ?_; first | assumption | omega) | (simp [*]; done))) | (refine m_pick_f rfl ?_ (by conv => lhs; whnf) ?_; (· first | rfl | assumption | (refine decide_eq_false ?_; first | assumption | omega) | (refine nf ?_; first | assumption | omega) | (simp [*]; done)))) | (refine g_noT rfl ?_ ?_; (· first | rfl | assumption | (refine decide_eq_false ?_; first | assumption | omega) | (refine nf ?_; first | assumption | omega) | (simp [*]; done))))) | refine end_ops ?_ | refine AW_ret ?_ | refine ret_done ?_)
      refine outs_b ?_
      symm
      exact decide_eq_false fun he => hc ⟨by have := he.1; omega, by have := he.2.1; omega⟩
  · repeat (first | (refine step_ops ?_; (first | (first | (refine m_mov (by conv => lhs; whnf) ?_) | (refine m_eql rfl rfl ?_) | (refine m_len_ro rfl ?_) | (refine m_pick_f rfl ?_ (by conv => lhs; whnf) ?_; (· first | rfl | assumption | (refine decide_eq_false ?_; first | assumption | omega) | (refine nf ?_; first | assumption | omega) | (simp [*]; done))) | (refine m_rem rfl rfl ?_ ?_ ?_; (· omega); (· omega))) | (refine g_noT rfl ?_ ?_; (· first | rfl | assumption | (refine decide_eq_false ?_; first | assumption | omega) | (refine nf ?_; first | assumption | omega) | (simp [*]; done))))) | refine end_ops ?_ | refine seq_ops ?_ | refine AW_ret ?_ | refine ret_done ?_)
    refine outs_b ?_
    symm
    exact decide_eq_false fun he => hp (by have := he.2.2.1; omega)
theorem taGood_spec (L : List Int) (hL : L.length ≤ 1048576) : Sp Tryd.prog 45 [ints L] (.b (decide (IsTab L))) := by
  refine spec_of Tryd.func45 rfl cc45 rfl ?_
  unfold ac45
  by_cases hc : 2 ≤ (L.length : Int) ∧ (L.length : Int) ≤ 14
  · by_cases hp : (L.length : Int) % 2 = 1
    · repeat (first | (refine step_ops ?_; (first | (refine m_mov (by conv => lhs; whnf) ?_) | (refine m_len_ro rfl ?_))) | refine end_ops ?_ | refine seq_ops ?_ | refine AW_seq ?_)
      (refine step_ops ?_); (apply m_call (l1In_spec _ _ _)); (· repeat (first | exact lends_nil | (refine lends_cons ?_ ?_; (· exact lend_v))))
      repeat (first | (refine step_ops ?_; (first | ((try (refine g_yes rfl ?_ ?_; (· first | rfl | assumption | (refine decide_eq_true ?_; first | assumption | omega) | (refine nt ?_; first | assumption | omega) | (simp [*]; done) | (refine decide_eq_false ?_; first | assumption | omega) | (refine nf ?_; first | assumption | omega)))); (first | (refine m_mov (by conv => lhs; whnf) ?_) | (refine m_eql rfl rfl ?_) | (refine m_not rfl ?_) | (refine m_pick_t rfl ?_ (by conv => lhs; whnf) ?_; (· first | rfl | assumption | (refine decide_eq_true ?_; first | assumption | omega) | (refine nt ?_; first | assumption | omega) | (simp [*]; done))) | (refine m_pick_f rfl ?_ (by conv => lhs; whnf) ?_; (· first | rfl | assumption | (refine decide_eq_false ?_; first | assumption | omega) | (refine nf ?_; first | assumption | omega) | (simp [*]; done))) | (refine m_rem rfl rfl ?_ ?_ ?_; (· omega); (· omega)))) | (refine g_noF rfl ?_ ?_; (· first | rfl | assumption | (refine decide_eq_true ?_; first | assumption | omega) | (refine nt ?_; first | assumption | omega) | (simp [*]; done))))) | refine end_ops ?_ | refine seq_ops ?_ | (refine cond_t rfl ?_ ?_; (· first | rfl | assumption | (refine decide_eq_true ?_; first | assumption | omega) | (refine nt ?_; first | assumption | omega) | (simp [*]; done))) | refine AW_ret ?_ | refine ret_done ?_ | refine ret_then ?_)
      refine outs_b ?_
      symm
      exact decide_eq_false fun he => by have := he.2.2.1; omega
    · by_cases hall : ∀ x ∈ L, 0 ≤ x ∧ x ≤ (L.length : Int) - 1
      · repeat (first | (refine step_ops ?_; (first | (refine m_mov (by conv => lhs; whnf) ?_) | (refine m_len_ro rfl ?_))) | refine end_ops ?_ | refine seq_ops ?_ | refine AW_seq ?_)
        (refine step_ops ?_); (apply m_call (l1In_spec _ _ _)); (· repeat (first | exact lends_nil | (refine lends_cons ?_ ?_; (· exact lend_v))))
        repeat (refine step_ops ?_; ((try (refine g_yes rfl ?_ ?_; (· first | rfl | assumption | (refine decide_eq_true ?_; first | assumption | omega) | (refine nt ?_; first | assumption | omega) | (simp [*]; done) | (refine decide_eq_false ?_; first | assumption | omega) | (refine nf ?_; first | assumption | omega)))); (first | (refine m_mov (by conv => lhs; whnf) ?_) | (refine m_eql rfl rfl ?_) | (refine m_sub rfl rfl ?_ ?_ ?_; (· omega); (· omega)) | (refine m_not rfl ?_) | (refine m_pick_f rfl ?_ (by conv => lhs; whnf) ?_; (· first | rfl | assumption | (refine decide_eq_false ?_; first | assumption | omega) | (refine nf ?_; first | assumption | omega) | (simp [*]; done))) | (refine m_rem rfl rfl ?_ ?_ ?_; (· omega); (· omega)))))
        (refine step_ops ?_); (refine g_yes rfl ?_ ?_; (· first | (first | rfl | assumption | (refine decide_eq_true ?_; first | assumption | omega) | (refine nt ?_; first | assumption | omega) | (simp [*]; done)) | (first | rfl | assumption | (refine decide_eq_false ?_; first | assumption | omega) | (refine nf ?_; first | assumption | omega) | (simp [*]; done))); (apply m_call (l1All_spec _ _ _ hL))); (· repeat (first | exact lends_nil | (refine lends_cons ?_ ?_; (· (first | exact lend_v | (refine lend_ints ?_; first | rfl | omega))))))
        repeat (first | (refine step_ops ?_; ((try (refine g_yes rfl ?_ ?_; (· first | rfl | assumption | (refine decide_eq_true ?_; first | assumption | omega) | (refine nt ?_; first | assumption | omega) | (simp [*]; done) | (refine decide_eq_false ?_; first | assumption | omega) | (refine nf ?_; first | assumption | omega)))); (first | (refine m_mov (by conv => lhs; whnf) ?_) | (refine m_not rfl ?_) | (refine m_len_ro rfl ?_) | (refine m_pick_f rfl ?_ (by conv => lhs; whnf) ?_; (· first | rfl | assumption | (refine decide_eq_false ?_; first | assumption | omega) | (refine nf ?_; first | assumption | omega) | (simp [*]; done)))))) | refine end_ops ?_ | refine seq_ops ?_ | (refine cond_f rfl ?_ ?_; (· first | rfl | assumption | (refine decide_eq_false ?_; first | assumption | omega) | (refine nf ?_; first | assumption | omega) | (simp [*]; done))) | refine skip_then ?_ | refine AW_seq ?_ | refine AW_block ?_)
        refine AW_loop (α := Nat) (fun k => k ≤ L.length ∧ (L.take k).Nodup) (fun k => st [(0, ints L), (23, ints L), (24, .i L.length), (25, .i k)] []) (fun k => L.length - k) 0 (by simp) (weak_st ?_ ?_ rfl rfl) ?_
        · (repeat' (first | exact trivial | refine And.intro ?_ ?_)) <;> (first | rfl | skip)
        · trivial
        rintro k ⟨hk, hn⟩
        by_cases h : k < L.length
        · have hlt : (L.take k).length ≤ 1048576 := by simp; omega
          by_cases hm : L.getD k 0 ∈ L.take k
          · repeat (first | (refine step_ops ?_; (first | (refine m_mov (by conv => lhs; whnf) ?_) | (refine m_lss rfl rfl ?_) | (refine m_idx1_ro rfl rfl ?_ ?_; (· omega)) | (refine m_ld_rpi rfl ?_ ?_; (· omega)) | (refine m_cut_hi rfl rfl ?_ ?_ ?_; (· first | rfl | omega | simp); (· first | omega | (simp; omega))))) | refine end_ops ?_ | refine seq_ops ?_ | (refine cond_t rfl ?_ ?_; (· first | rfl | assumption | (refine decide_eq_true ?_; first | assumption | omega) | (refine nt ?_; first | assumption | omega) | (simp [*]; done))) | refine skip_then ?_ | refine AW_seq ?_ | refine AW_block ?_)
            (refine step_ops ?_); (apply m_call (l1Has_spec _ _ hlt)); (· repeat (first | exact lends_nil | (refine lends_cons ?_ ?_; (· (first | exact lend_v | (refine lend_ints ?_; first | rfl | omega))))))
            repeat (first | (refine step_ops ?_; (refine m_mov (by conv => lhs; whnf) ?_)) | refine end_ops ?_ | refine seq_ops ?_ | (refine cond_t rfl ?_ ?_; (· first | rfl | assumption | (refine decide_eq_true ?_; first | assumption | omega) | (refine nt ?_; first | assumption | omega) | (simp [*]; done))) | refine AW_ret ?_ | refine ret_done ?_ | refine ret_then ?_ | refine ret_block ?_ | refine ret_round ?_)
            refine outs_b ?_
            symm
            exact decide_eq_false fun he => not_nodup h hm he.2.2.2.2
          · repeat (first | (refine step_ops ?_; (first | (refine m_mov (by conv => lhs; whnf) ?_) | (refine m_lss rfl rfl ?_) | (refine m_idx1_ro rfl rfl ?_ ?_; (· omega)) | (refine m_ld_rpi rfl ?_ ?_; (· omega)) | (refine m_cut_hi rfl rfl ?_ ?_ ?_; (· first | rfl | omega | simp); (· first | omega | (simp; omega))))) | refine end_ops ?_ | refine seq_ops ?_ | (refine cond_t rfl ?_ ?_; (· first | rfl | assumption | (refine decide_eq_true ?_; first | assumption | omega) | (refine nt ?_; first | assumption | omega) | (simp [*]; done))) | refine skip_then ?_ | refine AW_seq ?_ | refine AW_block ?_)
            (refine step_ops ?_); (apply m_call (l1Has_spec _ _ hlt)); (· repeat (first | exact lends_nil | (refine lends_cons ?_ ?_; (· (first | exact lend_v | (refine lend_ints ?_; first | rfl | omega))))))
            repeat (first | (refine step_ops ?_; (first | (refine m_mov (by conv => lhs; whnf) ?_) | (refine m_add rfl rfl ?_ ?_ ?_; (· omega); (· omega)))) | refine end_ops ?_ | refine AW_ops ?_ | (refine cond_f rfl ?_ ?_; (· first | rfl | assumption | (refine decide_eq_false ?_; first | assumption | omega) | (refine nf ?_; first | assumption | omega) | (simp [*]; done))) | refine norm_then ?_ | refine norm_block ?_ | refine AW_skip ?_)
            refine next_round (k + 1) ⟨by omega, nodup_snoc h hn hm⟩ (weak_st ?_ ?_ rfl rfl) ?_
            · (repeat' (first | exact trivial | refine And.intro ?_ ?_)) <;> (first | rfl | skip)
            · trivial
            · omega
        · repeat (first | (refine step_ops ?_; (first | (refine m_mov (by conv => lhs; whnf) ?_) | (refine m_lss rfl rfl ?_))) | refine end_ops ?_ | refine seq_ops ?_ | (refine cond_f rfl ?_ ?_; (· first | rfl | assumption | (refine decide_eq_false ?_; first | assumption | omega) | (refine nf ?_; first | assumption | omega) | (simp [*]; done))) | refine AW_seq ?_ | refine AW_ret ?_ | refine ret_done ?_ | refine norm_then ?_ | refine exit_then ?_ | refine exit_round ?_ | refine AW_exit ?_ | refine exit_block ?_)
          refine outs_b ?_
          symm
          rw [List.take_of_length_le (by omega)] at hn
          exact decide_eq_true ⟨by omega, by omega, by omega, fun x hx => ⟨(hall x hx).1, by have := (hall x hx).2; omega⟩, hn⟩
      · repeat (first | (refine step_ops ?_; (first | (refine m_mov (by conv => lhs; whnf) ?_) | (refine m_len_ro rfl ?_))) | refine end_ops ?_ | refine seq_ops ?_ | refine AW_seq ?_)
        (refine step_ops ?_); (apply m_call (l1In_spec _ _ _)); (· repeat (first | exact lends_nil | (refine lends_cons ?_ ?_; (· exact lend_v))))
        repeat (refine step_ops ?_; ((try (refine g_yes rfl ?_ ?_; (· first | rfl | assumption | (refine decide_eq_true ?_; first | assumption | omega) | (refine nt ?_; first | assumption | omega) | (simp [*]; done) | (refine decide_eq_false ?_; first | assumption | omega) | (refine nf ?_; first | assumption | omega)))); (first | (refine m_mov (by conv => lhs; whnf) ?_) | (refine m_eql rfl rfl ?_) | (refine m_sub rfl rfl ?_ ?_ ?_; (· omega); (· omega)) | (refine m_not rfl ?_) | (refine m_pick_f rfl ?_ (by conv => lhs; whnf) ?_; (· first | rfl | assumption | (refine decide_eq_false ?_; first | assumption | omega) | (refine nf ?_; first | assumption | omega) | (simp [*]; done))) | (refine m_rem rfl rfl ?_ ?_ ?_; (· omega); (· omega)))))
        (refine step_ops ?_); (refine g_yes rfl ?_ ?_; (· first | (first | rfl | assumption | (refine decide_eq_true ?_; first | assumption | omega) | (refine nt ?_; first | assumption | omega) | (simp [*]; done)) | (first | rfl | assumption | (refine decide_eq_false ?_; first | assumption | omega) | (refine nf ?_; first | assumption | omega) | (simp [*]; done))); (apply m_call (l1All_spec _ _ _ hL))); (· repeat (first | exact lends_nil | (refine lends_cons ?_ ?_; (· (first | exact lend_v | (refine lend_ints ?_; first | rfl | omega))))))
        repeat (first | (refine step_ops ?_; ((try (refine g_yes rfl ?_ ?_; (· first | rfl | assumption | (refine decide_eq_true ?_; first | assumption | omega) | (refine nt ?_; first | assumption | omega) | (simp [*]; done) | (refine decide_eq_false ?_; first | assumption | omega) | (refine nf ?_; first | assumption | omega)))); (first | (refine m_mov (by conv => lhs; whnf) ?_) | (refine m_not rfl ?_) | (refine m_pick_f rfl ?_ (by conv => lhs; whnf) ?_; (· first | rfl | assumption | (refine decide_eq_false ?_; first | assumption | omega) | (refine nf ?_; first | assumption | omega) | (simp [*]; done)))))) | refine end_ops ?_ | refine seq_ops ?_ | (refine cond_t rfl ?_ ?_; (· first | rfl | assumption | (refine decide_eq_true ?_; first | assumption | omega) | (refine nt ?_; first | assumption | omega) | (simp [*]; done))) | refine AW_ret ?_ | refine ret_done ?_ | refine ret_then ?_)
        refine outs_b ?_
        symm
        exact decide_eq_false fun he => hall fun x hx => ⟨(he.2.2.2.1 x hx).1, by have := (he.2.2.2.1 x hx).2; omega⟩
  · repeat (first | (refine step_ops ?_; (first | (refine m_mov (by conv => lhs; whnf) ?_) | (refine m_len_ro rfl ?_))) | refine end_ops ?_ | refine seq_ops ?_ | refine AW_seq ?_)
    (refine step_ops ?_); (apply m_call (l1In_spec _ _ _)); (· repeat (first | exact lends_nil | (refine lends_cons ?_ ?_; (· exact lend_v))))
    repeat (first | (refine step_ops ?_; (first | (first | (refine m_mov (by conv => lhs; whnf) ?_) | (refine m_not rfl ?_) | (refine m_pick_t rfl ?_ (by conv => lhs; whnf) ?_; (· first | rfl | assumption | (refine decide_eq_true ?_; first | assumption | omega) | (refine nt ?_; first | assumption | omega) | (simp [*]; done)))) | (refine g_noF rfl ?_ ?_; (· first | rfl | assumption | (refine decide_eq_true ?_; first | assumption | omega) | (refine nt ?_; first | assumption | omega) | (simp [*]; done))))) | refine end_ops ?_ | refine seq_ops ?_ | (refine cond_t rfl ?_ ?_; (· first | rfl | assumption | (refine decide_eq_true ?_; first | assumption | omega) | (refine nt ?_; first | assumption | omega) | (simp [*]; done))) | refine AW_ret ?_ | refine ret_done ?_ | refine ret_then ?_)
    refine outs_b ?_
    symm
    exact decide_eq_false fun he => hc ⟨by have := he.1; omega, by have := he.2.1; omega⟩
end Go.Proofs.YtmmcldbldbpikaaDoor
namespace Go.Am
/-- Those of a set, increasing. -/
def nums (a : Nat) : List Int := ((List.range 12).filter fun i => a.testBit i).map fun (i : Nat) => (i : Int)
def numsTo (a k : Nat) : List Int := ((List.range k).filter fun i => a.testBit i).map fun (i : Nat) => (i : Int)
theorem numsTo_yes {a k : Nat} (h : a.testBit k = true) : numsTo a (k + 1) = numsTo a k ++ [(k : Int)] := by
  simp [numsTo, List.range_succ, List.filter_append, h]
theorem numsTo_no {a k : Nat} (h : a.testBit k = false) : numsTo a (k + 1) = numsTo a k := by
  simp [numsTo, List.range_succ, List.filter_append, h]
theorem numsTo_le (a k : Nat) : (numsTo a k).length ≤ k := by
  unfold numsTo
  rw [List.length_map]
  exact Nat.le_trans (List.length_filter_le _ _) (by simp)
/-- The couples who are together among the first k neighbours, asx a set. -/
def togT (L : List Int) : Nat → Nat
  | 0 => 0
  | k + 1 => if L.getD k 0 / 2 = L.getD ((k + 1) % L.length) 0 / 2 then togT L k ||| 1 <<< (L.getD k 0 / 2).toNat else togT L k
theorem togT_lt {L : List Int} (h : IsTab L) : ∀ k, k ≤ L.length → togT L k < 128
  | 0, _ => by simp [togT]
  | k + 1, hk => by
    have ih := togT_lt h k (by omega)
    obtain ⟨x, hx, hxl⟩ := tab_get h (k := k) (by omega)
    have h14 := h.2.1
    simp only [togT]
    split
    · have h7 : (L.getD k 0 / 2).toNat < 7 := by omega
      exact Nat.or_lt_two_pow (n := 7) ih (by rw [Nat.one_shiftLeft]; exact Nat.pow_lt_pow_right (by decide) h7)
    · exact ih
theorem togT_yes {L : List Int} {k x y : Nat} (hx : L.getD k 0 = x) (hy : L.getD ((k + 1) % L.length) 0 = y) (h : (x : Int) / 2 = (y : Int) / 2) : togT L (k + 1) = togT L k ||| 1 <<< (x / 2) := by
  simp only [togT]
  rw [hx, hy, if_pos h, show ((x : Int) / 2).toNat = x / 2 by omega]
theorem togT_no {L : List Int} {k x y : Nat} (hx : L.getD k 0 = x) (hy : L.getD ((k + 1) % L.length) 0 = y) (h : ¬ (x : Int) / 2 = (y : Int) / 2) : togT L (k + 1) = togT L k := by
  simp only [togT]
  rw [hx, hy, if_neg h]
def rowT' (L : List Int) : Nat := togT L (L.length - 1)
def aroundT (L : List Int) : Nat := togT L L.length
def togR (L : List Int) (a : Nat) : List Int := if IsTab L then nums a else []
end Go.Am
namespace Go.Proofs.YtmmcldbldbpikaaDoor
open Go.Am
attribute [local irreducible] AW Outs Weak Lends Lend Sp aops atree aop1 Then Round InBlock Done
theorem areCouple_spec (a b : Nat) (ha : a < 14) (hb : b < 14) : Sp Tryd.prog 57 [.i a, .i b] (.b (decide ((a : Int) / 2 = (b : Int) / 2))) := by
  refine spec_of Tryd.func57 rfl cc57 rfl ?_
  unfold ac57
  repeat (first | (refine step_ops ?_; (first | (refine m_mov (by conv => lhs; whnf) ?_) | (refine m_eql rfl rfl ?_) | (refine m_quo rfl rfl ?_ ?_ ?_ ?_; (· omega); (· omega); (· omega)))) | refine end_ops ?_ | refine seq_ops ?_ | refine AW_ret ?_ | refine ret_done ?_)
  exact outs_b rfl
theorem numbers_spec (a : Nat) (ha : a < 65536) : Sp Tryd.prog 47 [.u a] (newInts (nums a)) := by
  refine spec_of Tryd.func47 rfl cc47 rfl ?_
  unfold ac47
  repeat (first | (refine step_ops ?_; (first | (refine m_mov (by conv => lhs; whnf) ?_) | (refine m_nils ?_))) | refine end_ops ?_ | refine seq_ops ?_ | refine AW_seq ?_ | refine AW_block ?_)
  refine AW_loop (α := Nat) (fun k => k ≤ 12) (fun k => st [(0, .u a), (5, .i k), (3, .sl 3 1 0 (numsTo a k).length)] [(3, (true, (numsTo a k).map AV.i))]) (fun k => 12 - k) 0 (by decide) (weak_st ?_ ?_ rfl rfl) ?_
  · (repeat' (first | exact trivial | refine And.intro ?_ ?_)) <;> (first | rfl | skip)
  · exact ⟨rfl, trivial⟩
  intro k hk
  have hn := numsTo_le a k
  by_cases h : k < 12
  · by_cases hx : a.testBit k = true
    · repeat (first | (refine step_ops ?_; (first | (refine m_mov (by conv => lhs; whnf) ?_) | (refine m_lss rfl rfl ?_))) | refine end_ops ?_ | refine seq_ops ?_ | (refine cond_t rfl ?_ ?_; (· first | rfl | assumption | (refine decide_eq_true ?_; first | assumption | omega) | (refine nt ?_; first | assumption | omega) | (simp [*]; done))) | refine skip_then ?_ | refine AW_seq ?_ | refine AW_block ?_)
      (refine step_ops ?_); (apply m_call (setHas_spec a k ha (by omega))); (· repeat (first | exact lends_nil | (refine lends_cons ?_ ?_; (· exact lend_v))))
      repeat (first | (refine step_ops ?_; (first | (refine m_mov (by conv => lhs; whnf) ?_) | (refine m_add rfl rfl ?_ ?_ ?_; (· omega); (· omega)) | (refine m_bsl1 rfl rfl ?_) | (refine m_app1i rfl (by decide) (by rfl) (by first | rfl | omega | (simp; done)) rfl rfl ?_ (by decide) ?_; (· first | omega | (simp; omega))))) | refine end_ops ?_ | refine AW_ops ?_ | (refine cond_t rfl ?_ ?_; (· first | rfl | assumption | (refine decide_eq_true ?_; first | assumption | omega) | (refine nt ?_; first | assumption | omega) | (simp [*]; done))) | refine norm_then ?_ | refine norm_block ?_)
      refine next_round (k + 1) h (Weak.trans (weak_move (r := 14) (q := 3) rfl (by decide) (by decide)) (weak_st ?_ ?_ rfl rfl)) ?_
      · rw [numsTo_yes hx]
        (repeat' (first | exact trivial | refine And.intro ?_ ?_)) <;> (first | rfl | skip)
      · rw [numsTo_yes hx]
        exact ⟨rfl, trivial⟩
      · omega
    · have hx : a.testBit k = false := by simpa using hx
      repeat (first | (refine step_ops ?_; (first | (refine m_mov (by conv => lhs; whnf) ?_) | (refine m_lss rfl rfl ?_))) | refine end_ops ?_ | refine seq_ops ?_ | (refine cond_t rfl ?_ ?_; (· first | rfl | assumption | (refine decide_eq_true ?_; first | assumption | omega) | (refine nt ?_; first | assumption | omega) | (simp [*]; done))) | refine skip_then ?_ | refine AW_seq ?_ | refine AW_block ?_)
      (refine step_ops ?_); (apply m_call (setHas_spec a k ha (by omega))); (· repeat (first | exact lends_nil | (refine lends_cons ?_ ?_; (· exact lend_v))))
      repeat (first | (refine step_ops ?_; (first | (refine m_mov (by conv => lhs; whnf) ?_) | (refine m_add rfl rfl ?_ ?_ ?_; (· omega); (· omega)))) | refine end_ops ?_ | refine AW_ops ?_ | (refine cond_f rfl ?_ ?_; (· first | rfl | assumption | (refine decide_eq_false ?_; first | assumption | omega) | (refine nf ?_; first | assumption | omega) | (simp [*]; done))) | refine norm_then ?_ | refine norm_block ?_ | refine AW_skip ?_)
      refine next_round (k + 1) h (weak_st ?_ ?_ rfl rfl) ?_
      · rw [numsTo_no hx]
        (repeat' (first | exact trivial | refine And.intro ?_ ?_)) <;> (first | rfl | skip)
      · rw [numsTo_no hx]
        exact ⟨rfl, trivial⟩
      · omega
  · obtain rfl : k = 12 := by omega
    repeat (first | (refine step_ops ?_; (first | (refine m_mov (by conv => lhs; whnf) ?_) | (refine m_lss rfl rfl ?_))) | refine end_ops ?_ | refine seq_ops ?_ | (refine cond_f rfl ?_ ?_; (· first | rfl | assumption | (refine decide_eq_false ?_; first | assumption | omega) | (refine nf ?_; first | assumption | omega) | (simp [*]; done))) | refine AW_seq ?_ | refine AW_ret ?_ | refine ret_done ?_ | refine norm_then ?_ | refine exit_then ?_ | refine exit_round ?_ | refine AW_exit ?_ | refine exit_block ?_)
    exact outs_ints rfl rfl rfl
end Go.Proofs.YtmmcldbldbpikaaDoor
namespace Go.Proofs.YtmmcldbldbpikaaDoor
open Go.Am
attribute [local irreducible] AW Outs Weak Lends Lend Sp aops atree aop1 Then Round InBlock Done
theorem atT {L : List Int} {k : Nat} {x : Int} (h : L.getD k 0 = x) : L.getD ((k : Int).toNat * 1) 0 = x := by
  rw [Int.toNat_natCast, Nat.mul_one]; exact h
theorem togetherInRow_spec (L : List Int) (h : IsTab L) : Sp Tryd.prog 63 [ints L] (.u (rowT' L)) := by
  have h2 := h.1
  have h14 := h.2.1
  refine spec_of Tryd.func63 rfl cc63 rfl ?_
  unfold ac63
  repeat (first | (refine step_ops ?_; (refine m_mov (by conv => lhs; whnf) ?_)) | refine end_ops ?_ | refine seq_ops ?_ | refine AW_seq ?_ | refine AW_block ?_)
  refine AW_loop (α := Nat) (fun k => k + 1 ≤ L.length) (fun k => st [(0, ints L), (4, .i (k + 1 : Nat)), (3, .u (togT L k))] []) (fun k => L.length - k) 0 (by omega) (weak_st ?_ ?_ rfl rfl) ?_
  · (repeat' (first | exact trivial | refine And.intro ?_ ?_)) <;> (first | rfl | skip)
  · trivial
  intro k hk
  have hlt := togT_lt h k (by omega)
  by_cases hc : k + 1 < L.length
  · have hmod : (k + 1) % L.length = k + 1 := Nat.mod_eq_of_lt hc
    obtain ⟨x, hx, hxl⟩ := tab_get h (k := k) (by omega)
    obtain ⟨y, hy, hyl⟩ := tab_get h hc
    have hy' : L.getD ((k + 1) % L.length) 0 = y := by rw [hmod]; exact hy
    by_cases he : (x : Int) / 2 = (y : Int) / 2
    · repeat (first | ((first | refine step_ops ?_ | refine step_tree ?_); (first | (refine m_mov (by conv => lhs; whnf) ?_) | (refine m_lss rfl rfl ?_) | (refine m_sub rfl rfl ?_ ?_ ?_; (· omega); (· omega)) | (refine m_len_ro rfl ?_) | (refine m_idx1_ro rfl rfl ?_ ?_; (· omega)) | (refine m_idx_ro rfl rfl ?_ ?_ ?_; (· omega); (· omega)) | (refine m_ld_rpi rfl ?_ ?_; (· omega)))) | refine end_ops ?_ | refine seq_ops ?_ | refine seq_tree ?_ | (refine cond_t rfl ?_ ?_; (· first | rfl | assumption | (refine decide_eq_true ?_; first | assumption | omega) | (refine nt ?_; first | assumption | omega) | (simp [*]; done))) | refine skip_then ?_ | refine AW_seq ?_ | refine AW_block ?_)
      rw [show ((k + 1 : Nat) : Int) - 1 = (k : Int) by omega]
      skip
      rw [atT hx, hy]
      refine step_tree ?_; (apply m_call (areCouple_spec x y (by omega) (by omega))); (· repeat (first | exact lends_nil | (refine lends_cons ?_ ?_; (· exact lend_v))))
      repeat (first | (refine step_ops ?_; (first | (refine m_mov (by conv => lhs; whnf) ?_) | (refine m_idx1_ro rfl rfl ?_ ?_; (· omega)) | (refine m_ld_rpi rfl ?_ ?_; (· omega)) | (refine m_quo rfl rfl ?_ ?_ ?_ ?_; (· omega); (· omega); (· omega)))) | refine AW_ops ?_ | refine end_tree ?_ | (refine cond_t rfl ?_ ?_; (· first | rfl | assumption | (refine decide_eq_true ?_; first | assumption | omega) | (refine nt ?_; first | assumption | omega) | (simp [*]; done))))
      rw [hy]
      skip
      rw [show ((y : Nat) : Int) / 2 = ((y / 2 : Nat) : Int) by omega]
      refine step_ops ?_; (apply m_call (setWith_spec (togT L k) (y / 2) (by omega) (by omega))); (· repeat (first | exact lends_nil | (refine lends_cons ?_ ?_; (· exact lend_v))))
      repeat (first | (refine step_ops ?_; (first | (refine m_mov (by conv => lhs; whnf) ?_) | (refine m_add rfl rfl ?_ ?_ ?_; (· omega); (· omega)))) | refine end_ops ?_ | refine AW_ops ?_ | refine norm_then ?_ | refine norm_block ?_)
      refine next_round (k + 1) (by omega) (weak_st ?_ ?_ rfl rfl) ?_
      · rw [togT_yes hx hy' he, show x / 2 = y / 2 by omega]
        (repeat' (first | exact trivial | refine And.intro ?_ ?_)) <;> (first | rfl | skip)
      · trivial
      · omega
    · repeat (first | ((first | refine step_ops ?_ | refine step_tree ?_); (first | (refine m_mov (by conv => lhs; whnf) ?_) | (refine m_lss rfl rfl ?_) | (refine m_sub rfl rfl ?_ ?_ ?_; (· omega); (· omega)) | (refine m_len_ro rfl ?_) | (refine m_idx1_ro rfl rfl ?_ ?_; (· omega)) | (refine m_idx_ro rfl rfl ?_ ?_ ?_; (· omega); (· omega)) | (refine m_ld_rpi rfl ?_ ?_; (· omega)))) | refine end_ops ?_ | refine seq_ops ?_ | refine seq_tree ?_ | (refine cond_t rfl ?_ ?_; (· first | rfl | assumption | (refine decide_eq_true ?_; first | assumption | omega) | (refine nt ?_; first | assumption | omega) | (simp [*]; done))) | refine skip_then ?_ | refine AW_seq ?_ | refine AW_block ?_)
      rw [show ((k + 1 : Nat) : Int) - 1 = (k : Int) by omega]
      skip
      rw [atT hx, hy]
      refine step_tree ?_; (apply m_call (areCouple_spec x y (by omega) (by omega))); (· repeat (first | exact lends_nil | (refine lends_cons ?_ ?_; (· exact lend_v))))
      repeat (first | (refine step_ops ?_; (first | (refine m_mov (by conv => lhs; whnf) ?_) | (refine m_add rfl rfl ?_ ?_ ?_; (· omega); (· omega)))) | refine end_ops ?_ | refine AW_ops ?_ | refine end_tree ?_ | (refine cond_f rfl ?_ ?_; (· first | rfl | assumption | (refine decide_eq_false ?_; first | assumption | omega) | (refine nf ?_; first | assumption | omega) | (simp [*]; done))) | refine norm_then ?_ | refine norm_block ?_ | refine AW_skip ?_)
      refine next_round (k + 1) (by omega) (weak_st ?_ ?_ rfl rfl) ?_
      · rw [togT_no hx hy' he]
        (repeat' (first | exact trivial | refine And.intro ?_ ?_)) <;> (first | rfl | skip)
      · trivial
      · omega
  · obtain rfl : k = L.length - 1 := by omega
    repeat (first | (refine step_ops ?_; (first | (refine m_mov (by conv => lhs; whnf) ?_) | (refine m_lss rfl rfl ?_) | (refine m_len_ro rfl ?_))) | refine end_ops ?_ | refine seq_ops ?_ | (refine cond_f rfl ?_ ?_; (· first | rfl | assumption | (refine decide_eq_false ?_; first | assumption | omega) | (refine nf ?_; first | assumption | omega) | (simp [*]; done))) | refine AW_seq ?_ | refine AW_ret ?_ | refine ret_done ?_ | refine norm_then ?_ | refine exit_then ?_ | refine exit_round ?_ | refine AW_exit ?_ | refine exit_block ?_)
    exact outs_u rfl
theorem togetherAround_spec (L : List Int) (h : IsTab L) : Sp Tryd.prog 46 [ints L] (.u (aroundT L)) := by
  have h2 := h.1
  have h14 := h.2.1
  obtain ⟨k, hk⟩ : ∃ k, L.length = k + 1 := ⟨L.length - 1, by omega⟩
  have hlt := togT_lt h k (by omega)
  have hmod : (k + 1) % L.length = 0 := by rw [hk]; exact Nat.mod_self _
  obtain ⟨x, hx, hxl⟩ := tab_get h (k := k) (by omega)
  obtain ⟨y, hy, hyl⟩ := tab_get h (k := 0) (by omega)
  have hy' : L.getD ((k + 1) % L.length) 0 = y := by rw [hmod]; exact hy
  have hrow : rowT' L = togT L k := by unfold rowT'; rw [hk]; rfl
  have har : aroundT L = togT L (k + 1) := by unfold aroundT; rw [hk]
  have hy0 : L.getD (Int.toNat 0 * 1) 0 = y := hy
  refine spec_of Tryd.func46 rfl cc46 rfl ?_
  unfold ac46
  by_cases he : (y : Int) / 2 = (x : Int) / 2
  · repeat (first | (refine step_ops ?_; (refine m_mov (by conv => lhs; whnf) ?_)) | refine end_ops ?_ | refine seq_ops ?_)
    refine step_ops ?_; (apply m_call (togetherInRow_spec L h)); (· repeat (first | exact lends_nil | (refine lends_cons ?_ ?_; (· (refine lend_ints ?_; first | rfl | omega)))))
    repeat (first | ((first | refine step_ops ?_ | refine step_tree ?_); (first | (refine m_mov (by conv => lhs; whnf) ?_) | (refine m_sub rfl rfl ?_ ?_ ?_; (· omega); (· omega)) | (refine m_len_ro rfl ?_) | (refine m_idx_ro rfl rfl ?_ ?_ ?_; (· omega); (· omega)) | (refine m_ld_rpi rfl ?_ ?_; (· omega)))) | refine end_ops ?_ | refine seq_ops ?_ | refine end_tree ?_ | refine seq_tree ?_ | refine AW_seq ?_)
    rw [show (L.length : Int) - 1 = (k : Int) by omega]
    skip
    rw [atT hx, hrow]
    rw [hy0]
    skip
    refine step_ops ?_; (apply m_call (areCouple_spec y x (by omega) (by omega))); (· repeat (first | exact lends_nil | (refine lends_cons ?_ ?_; (· exact lend_v))))
    repeat (first | (refine step_ops ?_; (first | (refine m_mov (by conv => lhs; whnf) ?_) | (refine m_quo rfl rfl ?_ ?_ ?_ ?_; (· omega); (· omega); (· omega)))) | refine end_ops ?_ | refine AW_ops ?_ | (refine cond_t rfl ?_ ?_; (· first | rfl | assumption | (refine decide_eq_true ?_; first | assumption | omega) | (refine nt ?_; first | assumption | omega) | (simp [*]; done))))
    rw [show ((y : Nat) : Int) / 2 = ((y / 2 : Nat) : Int) by omega]
    refine step_ops ?_; (apply m_call (setWith_spec (togT L k) (y / 2) (by omega) (by omega))); (· repeat (first | exact lends_nil | (refine lends_cons ?_ ?_; (· exact lend_v))))
    repeat (first | (refine step_ops ?_; (refine m_mov (by conv => lhs; whnf) ?_)) | refine end_ops ?_ | refine seq_ops ?_ | refine AW_ret ?_ | refine ret_done ?_ | refine norm_then ?_)
    refine outs_u ?_
    rw [har, togT_yes hx hy' he.symm, show x / 2 = y / 2 by omega]
  · repeat (first | (refine step_ops ?_; (refine m_mov (by conv => lhs; whnf) ?_)) | refine end_ops ?_ | refine seq_ops ?_)
    refine step_ops ?_; (apply m_call (togetherInRow_spec L h)); (· repeat (first | exact lends_nil | (refine lends_cons ?_ ?_; (· (refine lend_ints ?_; first | rfl | omega)))))
    repeat (first | ((first | refine step_ops ?_ | refine step_tree ?_); (first | (refine m_mov (by conv => lhs; whnf) ?_) | (refine m_sub rfl rfl ?_ ?_ ?_; (· omega); (· omega)) | (refine m_len_ro rfl ?_) | (refine m_idx_ro rfl rfl ?_ ?_ ?_; (· omega); (· omega)) | (refine m_ld_rpi rfl ?_ ?_; (· omega)))) | refine end_ops ?_ | refine seq_ops ?_ | refine end_tree ?_ | refine seq_tree ?_ | refine AW_seq ?_)
    rw [show (L.length : Int) - 1 = (k : Int) by omega]
    skip
    rw [atT hx, hrow]
    rw [hy0]
    skip
    refine step_ops ?_; (apply m_call (areCouple_spec y x (by omega) (by omega))); (· repeat (first | exact lends_nil | (refine lends_cons ?_ ?_; (· exact lend_v))))
    repeat (first | (refine step_ops ?_; (refine m_mov (by conv => lhs; whnf) ?_)) | refine end_ops ?_ | refine seq_ops ?_ | (refine cond_f rfl ?_ ?_; (· first | rfl | assumption | (refine decide_eq_false ?_; first | assumption | omega) | (refine nf ?_; first | assumption | omega) | (simp [*]; done))) | refine skip_then ?_ | refine AW_ret ?_ | refine ret_done ?_)
    refine outs_u ?_
    rw [har, togT_no hx hy' (Ne.symm he)]
end Go.Proofs.YtmmcldbldbpikaaDoor
namespace Go.Proofs.YtmmcldbldbpikaaDoor
open Go.Am
attribute [local irreducible] AW Outs Weak Lends Lend Sp aops atree aop1 Then Round InBlock Done
theorem implCouplesTogether_spec (L : List Int) (hL : L.length ≤ 1048576) : Sp Tryd.prog 21 [ints L] (.tup [newInts (togR L (aroundT L)), .b (decide (IsTab L))]) := by
  refine spec_of Tryd.func21 rfl cc21 rfl ?_
  unfold ac21
  by_cases h : IsTab L
  · have e : togR L (aroundT L) = nums (aroundT L) := if_pos h
    have hlt : aroundT L < 128 := togT_lt h _ (by omega)
    repeat (first | (refine step_ops ?_; (first | (refine m_mov (by conv => lhs; whnf) ?_) | (refine m_nils ?_))) | refine end_ops ?_ | refine seq_ops ?_ | refine AW_seq ?_)
    (refine step_ops ?_); (apply m_call (implIsTable_spec _ hL)); (· repeat (first | exact lends_nil | (refine lends_cons ?_ ?_; (· (refine lend_ints ?_; first | rfl | omega)))))
    repeat (first | (refine step_ops ?_; (first | (refine m_mov (by conv => lhs; whnf) ?_) | (refine m_not rfl ?_))) | refine end_ops ?_ | refine seq_ops ?_ | (refine cond_f rfl ?_ ?_; (· first | rfl | assumption | (refine decide_eq_false ?_; first | assumption | omega) | (refine nf ?_; first | assumption | omega) | (simp [*]; done))) | refine skip_then ?_)
    (refine step_ops ?_); (apply m_call (togetherAround_spec L h)); (· repeat (first | exact lends_nil | (refine lends_cons ?_ ?_; (· (refine lend_ints ?_; first | rfl | omega)))))
    skip
    (refine step_ops ?_); (apply m_callo (numbers_spec (aroundT L) (by omega))); (· repeat (first | exact lends_nil | (refine lends_cons ?_ ?_; (· exact lend_v)))); (· first | exact allv_ints _ | rfl | (simp; done))
    repeat (first | (refine step_ops ?_; (refine m_mov (by conv => lhs; whnf) ?_)) | refine end_ops ?_ | refine AW_ret ?_ | refine ret_done ?_)
    refine outs_tup2 (outs_ints rfl (by rw [e]) (by rw [e])) (outs_b ?_)
    simp [h]
  · have e : togR L (aroundT L) = [] := if_neg h
    repeat (first | (refine step_ops ?_; (first | (refine m_mov (by conv => lhs; whnf) ?_) | (refine m_nils ?_))) | refine end_ops ?_ | refine seq_ops ?_ | refine AW_seq ?_)
    (refine step_ops ?_); (apply m_call (implIsTable_spec _ hL)); (· repeat (first | exact lends_nil | (refine lends_cons ?_ ?_; (· (refine lend_ints ?_; first | rfl | omega)))))
    repeat (first | (refine step_ops ?_; (first | (refine m_mov (by conv => lhs; whnf) ?_) | (refine m_not rfl ?_) | (refine m_nils ?_))) | refine end_ops ?_ | refine seq_ops ?_ | (refine cond_t rfl ?_ ?_; (· first | rfl | assumption | (refine decide_eq_true ?_; first | assumption | omega) | (refine nt ?_; first | assumption | omega) | (simp [*]; done))) | refine AW_ret ?_ | refine ret_done ?_ | refine ret_then ?_)
    refine outs_tup2 (outs_ints rfl (by rw [e]; rfl) (by rw [e]; rfl)) (outs_b ?_)
    simp [h]
end Go.Proofs.YtmmcldbldbpikaaDoor
namespace Go.Am
variable {P : Program} {N : Nat}
/-- Where such a call begins. -/
def enterH (asx : List AV) (hin : Hp) : AS := ⟨fun t => (asx[t]?).getD .any, hin⟩
theorem enterH_sim {w : World} {phi : Nat → Option Nat} {asx : List AV} {hin : Hp} {vs : Array Value} {n : Nat} (hg : GoodW w) (hgb : ∀ r b, (hin r).isSome = true → phi r = some b → b ∉ goodB) (hpb : ∀ r, (hin r).isSome = true → pbase ≤ r) (hinj : Inj hin phi) (hregs : Regs (ctxE w phi hin) hin)
    (hs : SimL asx (ctxE w phi hin) vs.toList) (hl : vs.size = asx.length) :
    Sim w (fun r => if (hin r).isSome then phi r else none) (min n pbase) (enterH asx hin) (vs ++ Array.replicate (n - vs.size) undef) w phi (ctxE w phi hin).ro where
  os := rfl
  tape := rfl
  output := rfl
  size := Nat.le_refl _
  kept := fun _ _ _ => rfl
  shp := fun b cur e f hb => ⟨cur, hb, rfl⟩
  npb := Nat.min_le_right _ _
  gd := ⟨hg, fun r b h => by split at h; exact hgb r b ‹_› h; cases h⟩
  rob := fun _ hb => hb.1
  inj := fun r r' b h1 h2 h3 h4 => hinj r r' b h1 h2 h3 h4
  liv := fun r c hc => by
    have hr : (hin r).isSome = true := by have h1 : hin r = some c := hc
                                          rw [h1]; rfl
    rcases hregs r c hc with ⟨h1, h2⟩ | ⟨b, cur, e, h1, h2, h3⟩ | ⟨b, o, h0, h1, h2, h3⟩
    · refine .inl ⟨h1, h2, fun _ => ?_⟩
      rw [if_pos hr]; exact h1
    · refine .inr (.inl ⟨b, cur, e, h1, h2, fun hb => hb.2 r hr h1, .inr ⟨hpb r hr, ?_⟩, h3⟩)
      rw [if_pos hr]; exact h1
    · refine .inr (.inr ⟨b, o, h0, h1, h2, h3, fun hb => hb.2 r hr h1, .inr ⟨hpb r hr, ?_⟩⟩)
      rw [if_pos hr]; exact h1
  tms := fun t => by
    simp only [enterH]
    cases hx : asx[t]? with
    | none => simp [SimV]
    | some x =>
      obtain ⟨y, hy, hsy⟩ := hs.get hx
      have hlt : t < vs.size := by
        have := (List.getElem?_eq_some_iff.1 hy).1
        simpa using this
      have hy' : vs[t] = y := by
        have := (List.getElem?_eq_some_iff.1 hy).2
        simpa using this
      have : (vs ++ Array.replicate (n - vs.size) undef).getD t undef = y := by
        simp [Array.getD_eq_getD_getElem?, Array.getElem?_append, hlt, hy']
      rw [this]
      exact hsy
  slots := by simp; omega
/-- What such a function owes at its end: s: names. -/
def DoneH (ts : List Nat) (res : AV) (hin hout : Hp) : Exit → AS → Prop
  | .normal, s | .ret, s => ∃ g : Nat → Nat, resAV s ts = renV g res ∧ (∀ r c, hout r = some c → ∃ c0, s.hp (g r) = some c0 ∧ (c0 = renR g c ∨ (c.2 = [] ∧ c0.2 = []))) ∧ (∀ r, (hin r).isSome = true → g r = r ∧ (hout r).isSome = true) ∧
      (∀ r, (hout r).isSome = true → hin r = none → g r < pbase) ∧ (∀ r r', (hout r).isSome = true → (hout r').isSome = true → g r = g r' → r = r')
  | _, _ => False
/-- What is asked of names and values alone. -/
structure Static (hin : Hp) (res : AV) (hout : Hp) : Prop where
  pb : ∀ r, (hin r).isSome = true → pbase ≤ r
  own : ∀ r c, hout r = some c → ownL false c.2 = true ∧ refsL (fun r => (hout r).isSome) c.2 = true
  res : ownV false res = true ∧ refsV (fun r => (hout r).isSome) res = true
/-- A block that is a region's own is new, if all that was lent is there still. -/
theorem Sim.mine_new {w0 w : World} {mu : Nat → Option Nat} {N : Nat} {s : AS} {tm : Array Value} {phi : Nat → Option Nat} {ro : Nat → Prop} (h : Sim w0 mu N s tm w phi ro) (hall : ∀ r b, mu r = some b → (s.hp r).isSome = true) {q b : Nat} (hq : (s.hp q).isSome = true) (hlt : q < pbase) (hp : phi q = some b) (hm : Mine w0 mu b) : w0.heap.size ≤ b := by
  rcases hm with h1 | ⟨r, hr, hmu⟩
  · exact h1
  exfalso
  have hs := hall r b hmu
  obtain ⟨c, hc⟩ := Option.isSome_iff_exists.1 hs
  have hge : pbase ≤ r := Nat.le_trans (by decide) hr
  have key : phi r = some b := by
    rcases h.liv r c hc with ⟨_, _, k3⟩ | ⟨b', _, _, k1, _, _, k4, _⟩ | ⟨b', _, _, k1, _, _, _, k4⟩
    · rw [k3 hge] at hmu; cases hmu
    · rcases k4 with k4 | k4
      · omega
      · rw [k4.2] at hmu; cases hmu; exact k1
    · rcases k4 with k4 | k4
      · omega
      · rw [k4.2] at hmu; cases hmu; exact k1
  have := h.inj q r b hq hs hp key
  omega
theorem specH_of {f : FuncId} {fn : Func} {code : Code} {ac : ACode} {ts : List Nat} {asx : List AV} {hin hout : Hp} {res : AV} (hf : P.funcs[f]? = some fn) (hb : fn.body = some code) (hc : ccode P (min fn.ntmps pbase) code = some ac) (hr : resTmps fn = some ts)
    (hst : Static hin res hout) (h : AW P (min fn.ntmps pbase) ac (enterH asx hin) (DoneH ts res hin hout)) : SpH P f asx hin res hout := by
  intro w vs phi hg hgb hinj hregs hs hl
  refine calls_of_wp hf hb (wp_mono (h code hc w _ _ w ⟨rfl, _, _, enterH_sim hg hgb hst.pb hinj hregs hs hl⟩) fun e a' w' hA => ?_)
  obtain ⟨s', h1, hf', phi', ro, hS⟩ := hA
  have fin : (∃ g : Nat → Nat, resAV s' ts = renV g res ∧ (∀ r c, hout r = some c → ∃ c0, s'.hp (g r) = some c0 ∧ (c0 = renR g c ∨ (c.2 = [] ∧ c0.2 = []))) ∧ (∀ r, (hin r).isSome = true → g r = r ∧ (hout r).isSome = true) ∧
      (∀ r, (hout r).isSome = true → hin r = none → g r < pbase) ∧ (∀ r r', (hout r).isSome = true → (hout r').isSome = true → g r = g r' → r = r')) → a'.defers = [] ∧ ∃ v, (results fn a'.tmps).run P w' = .ok v w' ∧
      ∃ v' phi', Ending.returned v = .returned v' ∧ w'.os = w.os ∧ w'.tape = w.tape ∧ w'.output = w.output ∧ w.heap.size ≤ w'.heap.size ∧
      (∀ r, (hin r).isSome = true → phi' r = phi r) ∧ (∀ b, b < w.heap.size → (∀ r, (hin r).isSome = true → phi r ≠ some b) → w'.heap[b]? = w.heap[b]?) ∧
      (∀ (b : Nat) (cur : Array Value) (e : TypeId) (f : Nat × Nat), w.heap[b]? = some (.cells cur e f) → ∃ cur' : Array Value, w'.heap[b]? = some (.cells cur' e f) ∧ cur'.size = cur.size) ∧
      Inj hout phi' ∧ (∀ r b, (hout r).isSome = true → hin r = none → phi' r = some b → w.heap.size ≤ b) ∧ Regs (ctxX w w' phi' hout) hout ∧ SimV res (ctxX w w' phi' hout) v' := by
    rintro ⟨g, hres, hhas, hstay, hfresh, hgi⟩
    have hlv : ∀ r, (hout r).isSome = true → (s'.hp (g r)).isSome = true := by
      intro r hr
      obtain ⟨c, hc⟩ := Option.isSome_iff_exists.1 hr
      obtain ⟨c0, h1, _⟩ := hhas r c hc
      rw [h1]; rfl
    have hall : ∀ r b, (if (hin r).isSome = true then phi r else none) = some b → (s'.hp r).isSome = true := by
      intro r b hb
      split at hb
      · rename_i hi
        have := hlv r (hstay r hi).2
        rw [(hstay r hi).1] at this
        exact this
      · cases hb
    have hvt : SimV (resAV s' ts) (ctx w w' ro phi' s') (resVal a'.tmps ts) := simv_res hS ts
    rw [hres] at hvt
    refine ⟨hf', _, run_results hr a'.tmps w' P, _, fun r => phi' (g r), rfl, hS.os, hS.tape, hS.output, hS.size, fun r hr => ?_, fun b hb hne => hS.kept b hb fun r hr => ?_, hS.shp, ?_, ?_, ?_, ?_⟩
    · obtain ⟨e1, e2⟩ := hstay r hr
      obtain ⟨c, hc⟩ := Option.isSome_iff_exists.1 e2
      obtain ⟨c0, hh, _⟩ := hhas r c hc
      rw [e1] at hh
      show phi' (g r) = phi r
      rw [e1]
      rcases hS.liv r _ hh with ⟨k1, _, k3⟩ | ⟨b, cur, e', k1, _, _, k4, _⟩ | ⟨b, o, _, k1, _, _, _, k4⟩
      case inr.inr =>
        rcases k4 with k4 | k4
        · have := hst.pb r hr; omega
        · have k5 := k4.2
          simp only [hr, if_true] at k5
          rw [k1, k5]
      · have k5 := k3 (hst.pb r hr)
        simp only [hr, if_true] at k5
        rw [k1, k5]
      · rcases k4 with k4 | k4
        · have := hst.pb r hr; omega
        · have k5 := k4.2
          simp only [hr, if_true] at k5
          rw [k1, k5]
    · split at hr
      · rename_i hrs; exact hne r hrs hr
      · cases hr
    · intro r r' b h1 h2 h3 h4
      exact hgi r r' h1 h2 (hS.inj _ _ b (hlv r h1) (hlv r' h2) h3 h4)
    · intro r b h1 h2 h3
      obtain ⟨c, hc⟩ := Option.isSome_iff_exists.1 h1
      have hlt := hfresh r h1 h2
      obtain ⟨c0, hh0, _⟩ := hhas r c hc
      rcases hS.liv _ _ hh0 with ⟨k1, _⟩ | ⟨b', _, _, k1, _, _, k4, _⟩ | ⟨b', _, _, k1, _, _, _, k4⟩
      · have h3' : phi' (g r) = some b := h3
        rw [k1] at h3'; cases h3'
      case inr.inr =>
        have h3' : phi' (g r) = some b := h3
        rw [k1] at h3'; cases h3'
        rcases k4 with k4 | k4
        · exact hS.mine_new hall (by rw [hh0]; rfl) k4.1 k1 k4.2
        · omega
      · have h3' : phi' (g r) = some b := h3
        rw [k1] at h3'; cases h3'
        rcases k4 with k4 | k4
        · exact hS.mine_new hall (by rw [hh0]; rfl) k4.1 k1 k4.2
        · omega
    · intro r c hc
      obtain ⟨ho, hrf⟩ := hst.own r c hc
      obtain ⟨c0, hh0, hc0⟩ := hhas r c hc
      rcases hS.liv _ _ hh0 with ⟨k1, k2, _⟩ | ⟨b, cur, e', k1, k2, _, _, k5⟩ | ⟨b, o, h0, k1, k2, k3, _⟩
      case inr.inr =>
        rcases hc0 with rfl | hc0
        · exact .inr (.inr ⟨b, o, renR_ob h0, k1, k2, k3⟩)
        · rw [h0] at hc0; simp at hc0
      · refine .inl ⟨k1, ?_⟩
        rcases hc0 with rfl | hc0
        · obtain ⟨fl, cs⟩ := c
          simp only [renR, renL_map] at k2
          exact List.map_eq_nil_iff.1 k2
        · exact hc0.1
      · rcases hc0 with rfl | hc0
        case inr => exact .inr (.inl ⟨b, cur, e', k1, k2, by unfold SimR; rw [hc0.1]; simp [SimL]⟩)
        refine .inr (.inl ?_)
        exact ⟨b, cur, e', k1, k2, simR_in (q := false) (C := ctxX w w' (fun r => phi' (g r)) hout) (D := ctx w w' ro phi' s') rfl (fun e => by cases e) (fun _ => rfl) (fun _ r _ => rfl) ho hrf k5⟩
    · exact simV_in false g (ctxX w w' (fun r => phi' (g r)) hout) (ctx w w' ro phi' s') rfl (fun e => by cases e) (fun _ => rfl) (fun _ r _ => rfl) res _ hst.res.1 hst.res.2 hvt
  cases e with
  | normal => exact fin h1
  | ret => exact fin h1
  | exit id => exact h1.elim
  | goto l => exact h1.elim
  | panic c => exact h1.elim
  | outgrown => exact h1.elim
/-- With an open end. -/
def DoneX (ts : List Nat) {ι : Type} (ok : ι → Prop) (res : ι → AV) (hin : Hp) (hout : ι → Hp) (e : Exit) (s : AS) : Prop := ∃ i, ok i ∧ DoneH ts (res i) hin (hout i) e s
theorem ret_doneh {s : AS} {ts : List Nat} {res : AV} {hin hout : Hp} (g : Nat → Nat) (h1 : resAV s ts = renV g res) (h2 : ∀ r c, hout r = some c → ∃ c0, s.hp (g r) = some c0 ∧ (c0 = renR g c ∨ (c.2 = [] ∧ c0.2 = []))) (h3 : ∀ r, (hin r).isSome = true → g r = r ∧ (hout r).isSome = true)
    (h4 : ∀ r, (hout r).isSome = true → hin r = none → g r < pbase) (h5 : ∀ r r', (hout r).isSome = true → (hout r').isSome = true → g r = g r' → r = r') : DoneH ts res hin hout .ret s := ⟨g, h1, h2, h3, h4, h5⟩
/-- A call that is lent regions. -/
theorem m_callh {s : AS} {K : AS → Prop} {d : Option Nat} {f : FuncId} {args : List Opd} {asx : List AV} {hin hout hp' : Hp} {res : AV} (g : Nat → Nat) (hs : SpH P f asx hin res hout) (ha : LendsH s.hp g hin (args.map s.ev) asx) (hL : Lent s g hin hout hp' res)
    (k : K (AS.put ⟨s.tm, hp'⟩ d (renV g res))) : aop1 P true ⟨d, .call f args, none⟩ s K := .inr (.inr (.inl ⟨rfl, asx, hin, Unit, fun _ => True, fun _ => res, fun _ => hout, g, fun _ => hp', hs.toX, ha, ⟨(), trivial⟩, fun _ _ => ⟨hL, k⟩⟩))
theorem entry_leE (w : World) (phi : Nat → Option Nat) : Ctx.Le { heap := w.heap, ro := fun b => b < w.heap.size, base := w.heap.size, phi := fun _ => none, live := fun _ => false, loc := false } (ctxE w phi fun _ => none) :=
  ⟨fun b hb => ⟨⟨hb, fun r hr => by simp at hr⟩, rfl⟩, Nat.le_refl _, fun e => by simp at e, fun e => by simp at e, fun e => by simp at e⟩
/-- Nothing is lent but to be read. -/
theorem lendsH_none {hp : Hp} {f : Nat → Nat} {xs asx : List AV} (h : Lends hp xs asx) : LendsH hp f (fun _ => none) xs asx := by
  intro w0 mu N tm w phi ro vs hS hs hl
  obtain ⟨h1, h2⟩ := h w0 mu N tm w phi ro vs hS hs hl
  exact ⟨SimL.mono _ _ _ _ (entry_leE w _) h1, h2⟩
/-- What leads to lent regions, or is plain. -/
theorem lendsH_ren {hp : Hp} {f : Nat → Nat} {hin : Hp} {asx : List AV} (hin1 : ∀ r c, hin r = some c → (hp (f r)).isSome = true) (ho : ownL true asx = true) (hr : refsL (fun r => (hin r).isSome) asx = true) : LendsH hp f hin (renL f asx) asx := by
  intro w0 mu N tm w phi ro vs hS hs hl
  rw [renL_map, List.length_map] at hl
  refine ⟨?_, hl⟩
  refine simL_in true f (ctxE w (fun r => phi (f r)) hin) (ctx w0 w ro phi ⟨fun _ => .any, hp⟩) rfl (fun _ b hb => ?_) (fun _ => rfl) (fun _ r _ => rfl) asx vs ho hr hs
  refine ⟨hS.rob b hb, fun r hr hp' => ?_⟩
  obtain ⟨c, hc⟩ := Option.isSome_iff_exists.1 hr
  obtain ⟨c', hc'⟩ := Option.isSome_iff_exists.1 (hin1 r c hc)
  have hp'' : phi (f r) = some b := hp'
  rcases hS.liv _ _ hc' with ⟨h1, _⟩ | ⟨b', _, _, h1, _, h2, _⟩ | ⟨b', _, _, h1, _, _, h2, _⟩
  · rw [h1] at hp''; cases hp''
  · rw [h1] at hp''; cases hp''
    exact h2 hb
  · rw [h1] at hp''; cases hp''
    exact h2 hb
end Go.Am
namespace Go.Am
variable {P : Program} {own : Bool} {N : Nat} {s : AS} {K : AS → Prop} {d : Option Nat}
mutual
/-- Read under other names. -/
theorem simV_ren (f : Nat → Nat) (C D : Ctx) (h1 : C.heap = D.heap) (h2 : C.ro = D.ro) (hb : C.base = D.base) (h3 : C.loc = D.loc) (h4 : ∀ r, C.live r = true → C.phi r = D.phi (f r)) :
    ∀ (x : AV) (y : Value), refsV C.live x = true → SimV (renV f x) D y → SimV x C y
  | .any, _, _, _ => by simp [SimV]
  | .v x, _, _, h => by simpa [SimV, renV] using h
  | .ro fr z cs n, y, _, h => by
    simp only [SimV, renV] at h ⊢
    rw [h1, h2, hb]
    refine h.imp_right fun ⟨b, o, cap, cur, e, fz, k1, k2, k3, k4, k5, k6, k7⟩ => ⟨b, o, cap, cur, e, fz, k1, k2, k3, k4, k5, k6, ?_⟩
    exact SimL.mono _ _ _ _ ⟨fun b hb => ⟨by rw [show C.out.ro = C.ro from rfl, h2]; exact hb, by show C.heap[b]? = D.heap[b]?; rw [h1]⟩, by show C.base ≤ D.base; omega, fun e => by simp [Ctx.out] at e, fun e => by simp [Ctx.out] at e, fun e => by simp [Ctx.out] at e⟩ k7
  | .rp cs, y, _, h => by
    simp only [SimV, renV] at h ⊢
    rw [h1, h2]
    obtain ⟨b, o, cur, e, fz, k1, k2, k3, k4⟩ := h
    refine ⟨b, o, cur, e, fz, k1, k2, k3, ?_⟩
    exact SimL.mono _ _ _ _ ⟨fun b hb => ⟨by rw [show C.out.ro = C.ro from rfl, h2]; exact hb, by show C.heap[b]? = D.heap[b]?; rw [h1]⟩, by show C.base ≤ D.base; omega, fun e => by simp [Ctx.out] at e, fun e => by simp [Ctx.out] at e, fun e => by simp [Ctx.out] at e⟩ k4
  | .sl r z off n, y, hr, h => by
    simp only [SimV, renV, refsV] at h hr ⊢
    obtain ⟨k1, k2, k3⟩ := h
    refine ⟨h3.trans k1, hr, ?_⟩
    rw [h4 r hr, h1]
    exact k3
  | .pt r off, y, hr, h => by
    simp only [SimV, renV, refsV] at h hr ⊢
    obtain ⟨k1, k2, b, k3, k4⟩ := h
    exact ⟨h3.trans k1, hr, b, by rw [h4 r hr]; exact k3, by rw [h1]; exact k4⟩
  | .mp r, y, hr, h => by
    simp only [SimV, renV, refsV] at h hr ⊢
    obtain ⟨k1, k2, b, k3, k4⟩ := h
    exact ⟨h3.trans k1, hr, b, by rw [h4 r hr]; exact k3, k4⟩
  | .itr r, y, hr, h => by
    simp only [SimV, renV, refsV] at h hr ⊢
    obtain ⟨k1, k2, b, k3, k4⟩ := h
    exact ⟨h3.trans k1, hr, b, by rw [h4 r hr]; exact k3, k4⟩
  | .ob o, y, _, h => by simp [SimV, renV] at h
  | .fn g l k, y, hr, h => by
    simp only [SimV, renV, refsV] at h hr ⊢
    obtain ⟨a, b, k1, k2, k3, k4⟩ := h
    rw [renL_map, List.length_map] at k3
    exact ⟨a, b, k1, k2, k3, simL_ren f C D h1 h2 hb h3 h4 l _ hr k4⟩
  | .fu z cs n, y, _, h => by
    simp only [SimV, renV] at h ⊢
    rw [h1, h2]
    refine h.imp_right fun ⟨b, o, cur, e, fz, k1, k2, k3, k4, k5⟩ => ⟨b, o, cur, e, fz, k1, k2, k3, k4, ?_⟩
    exact SimL.mono _ _ _ _ ⟨fun b hb => ⟨by rw [show C.out.ro = C.ro from rfl, h2]; exact hb, by show C.heap[b]? = D.heap[b]?; rw [h1]⟩, by show C.base ≤ D.base; omega, fun e => by simp [Ctx.out] at e, fun e => by simp [Ctx.out] at e, fun e => by simp [Ctx.out] at e⟩ k5
  | .mit r m bm es ck, y, hr, h => by
    simp only [SimV, renV, refsV, Bool.and_eq_true] at h hr ⊢
    obtain ⟨k1, k2, ⟨b, k3, k4⟩, k5⟩ := h
    refine ⟨h3.trans k1, hr.1, ⟨b, by rw [h4 r hr.1]; exact k3, k4⟩, ?_⟩
    rcases k5 with ⟨q, hq, k6, k7⟩ | ⟨hm, k6, k7⟩
    · obtain ⟨q0, rfl, rfl⟩ := Option.map_eq_some_iff.1 hq
      have hl : C.live q0 = true := by simpa using hr.2
      exact .inl ⟨q0, rfl, hl, by rw [h4 q0 hl]; exact k7⟩
    · exact .inr ⟨by simpa using hm, by rw [h2]; exact k6, by rw [h1]; exact k7⟩
  | .rmp fr es clock, y, _, h => by
    simp only [SimV, renV] at h ⊢
    obtain ⟨b, k1, k2, k3, k4⟩ := h
    exact ⟨b, k1, by rw [h1]; exact k2, by rw [h2]; exact k3, fun e => by rw [hb]; exact k4 e⟩
  | .agg l, y, hr, h => by
    simp only [SimV, renV, refsV] at h hr ⊢
    obtain ⟨a, k1, k2, k3⟩ := h
    rw [renL_map, List.length_map] at k2
    exact ⟨a, k1, k2, simL_ren f C D h1 h2 hb h3 h4 l _ hr k3⟩
  | .tup l, y, hr, h => by
    simp only [SimV, renV, refsV] at h hr ⊢
    obtain ⟨a, k1, k2, k3⟩ := h
    rw [renL_map, List.length_map] at k2
    exact ⟨a, k1, k2, simL_ren f C D h1 h2 hb h3 h4 l _ hr k3⟩
theorem simL_ren (f : Nat → Nat) (C D : Ctx) (h1 : C.heap = D.heap) (h2 : C.ro = D.ro) (hb : C.base = D.base) (h3 : C.loc = D.loc) (h4 : ∀ r, C.live r = true → C.phi r = D.phi (f r)) :
    ∀ (l : List AV) (ys : List Value), refsL C.live l = true → SimL (renL f l) D ys → SimL l C ys
  | [], _, _, _ => by simp [SimL]
  | _ :: _, [], _, h => by simp [SimL, renL] at h
  | a :: l, y :: ys, hr, h => by
    simp only [SimL, renL, refsL, Bool.and_eq_true] at h hr ⊢
    exact ⟨simV_ren f C D h1 h2 hb h3 h4 a y hr.1 h.1, simL_ren f C D h1 h2 hb h3 h4 l ys hr.2 h.2⟩
end
theorem simL_out_any (C D : Ctx) (h1 : C.heap = D.heap) (h2 : C.ro = D.ro) (hb : C.base = D.base) (l : List AV) (ys : List Value) (h : SimL l C.out ys) : SimL l D.out ys :=
  SimL.mono _ _ _ _ ⟨fun b hb' => ⟨by rw [show D.out.ro = D.ro from rfl, ← h2]; exact hb', by show D.heap[b]? = C.heap[b]?; rw [h1]⟩, by show D.base ≤ C.base; omega, fun e => by simp [Ctx.out] at e, fun e => by simp [Ctx.out] at e, fun e => by simp [Ctx.out] at e⟩ h
/-- A region's cells under other names; one whose cells lead nowhere may be told asx one whose cells may. -/
def cellsRen (f : Nat → Nat) (c c' : Bool × List AV) : Prop := (c'.1 = true ∧ c = (true, c'.2)) ∨ (c'.1 = false ∧ (c = (false, renL f c'.2) ∨ (c'.2 = [] ∧ c.2 = []) ∨ (c = (true, c'.2) ∧ c'.2.all plainV = true)))
/-- THE RULE OF FORGETTING: the state s' tells no more than s, under the names f. -/
theorem weak_ren {s s' : AS} (f : Nat → Nat) (htm : ∀ t, s'.tm t = .any ∨ s.tm t = renV f (s'.tm t)) (hhp : ∀ r c', s'.hp r = some c' → ∃ c, s.hp (f r) = some c ∧ cellsRen f c c')
    (hinj : ∀ r r', (s'.hp r).isSome = true → (s'.hp r').isSome = true → f r = f r' → r = r') (hpb : ∀ r, (s'.hp r).isSome = true → (r < pbase ∧ f r < pbase) ∨ (pbase ≤ r ∧ f r = r))
    (href : ∀ t, refsV (fun r => (s'.hp r).isSome) (s'.tm t) = true) (hrefh : ∀ r cs, s'.hp r = some (false, cs) → refsL (fun r => (s'.hp r).isSome) cs = true) : Weak s s' := by
  intro w0 mu N a w hS
  obtain ⟨hf, phi, ro, hS⟩ := hS
  have hlive : ∀ r, (s'.hp r).isSome = true → (s.hp (f r)).isSome = true := by
    intro r hr
    obtain ⟨c, hc⟩ := Option.isSome_iff_exists.1 hr
    obtain ⟨c0, h1, _⟩ := hhp r c hc
    rw [h1]; rfl
  refine ⟨hf, fun r => phi (f r), ro, { hS with
    inj := fun r r' b h1 h2 h3 h4 => hinj r r' h1 h2 (hS.inj _ _ b (hlive r h1) (hlive r' h2) h3 h4)
    liv := fun r c hc => ?_
    tms := fun t => ?_ }⟩
  · obtain ⟨c0, h1, h2⟩ := hhp r c hc
    have hp := hpb r (by rw [hc]; rfl)
    rcases hS.liv _ _ h1 with ⟨k1, k2, k3⟩ | ⟨b, cur, e, k1, k2, k3, k4, k5⟩ | ⟨b, o, rfl, k1, k2, k0, k3, k4⟩
    case inr.inr =>
      refine .inr (.inr ⟨b, o, ?_, k1, k2, k0, k3, ?_⟩)
      · obtain ⟨fl, cs⟩ := c
        rcases h2 with ⟨h3, h4⟩ | ⟨h3, h4⟩
        · simp only at h3 h4
          rw [h3]; exact h4.symm
        · simp only at h3
          rcases h4 with h4 | ⟨_, h4⟩ | ⟨h4, h5⟩
          · cases h4
          · simp at h4
          · simp only [Prod.mk.injEq, true_and] at h4
            rw [← h4] at h5
            simp [plainV] at h5
      · rcases hp with ⟨h3, h4⟩ | ⟨h3, h4⟩
        · rcases k4 with k4 | k4
          · exact .inl ⟨h3, k4.2⟩
          · omega
        · rcases k4 with k4 | k4
          · omega
          · exact .inr ⟨h3, by rw [← h4]; exact k4.2⟩
    · refine .inl ⟨k1, ?_, fun hge => ?_⟩
      · rcases h2 with ⟨_, rfl⟩ | ⟨_, rfl | ⟨h3, _⟩ | ⟨rfl, _⟩⟩
        · exact k2
        · simp only [renL_map] at k2
          exact List.map_eq_nil_iff.1 k2
        · exact h3
        · exact k2
      · rcases hp with ⟨h3, _⟩ | ⟨_, h3⟩
        · omega
        · rw [h3] at k3; exact k3 hge
    · refine .inr (.inl ⟨b, cur, e, k1, k2, k3, ?_, ?_⟩)
      · rcases hp with ⟨h3, h4⟩ | ⟨h3, h4⟩
        · rcases k4 with k4 | k4
          · exact .inl ⟨h3, k4.2⟩
          · omega
        · rcases k4 with k4 | k4
          · omega
          · exact .inr ⟨h3, by rw [← h4]; exact k4.2⟩
      · obtain ⟨fl, cs⟩ := c
        rcases h2 with ⟨h3, h4⟩ | ⟨h3, h4⟩
        · simp only at h3 h4
          subst h3; subst h4
          simp only [SimR, if_true] at k5 ⊢
          exact simL_out_any (ctx w0 w ro phi s) (ctx w0 w ro (fun r => phi (f r)) s') rfl rfl rfl _ _ k5
        · simp only at h3 h4
          subst h3
          simp only [SimR, Bool.false_eq_true, if_false]
          rcases h4 with rfl | ⟨h5, h6⟩ | ⟨rfl, h5⟩
          · simp only [SimR, Bool.false_eq_true, if_false] at k5
            exact simL_ren f (ctx w0 w ro (fun r => phi (f r)) s') (ctx w0 w ro phi s) rfl rfl rfl rfl (fun _ _ => rfl) cs _ (hrefh r cs hc) k5
          · rw [h5]; simp [SimL]
          · simp only [SimR, if_true] at k5
            exact simL_allv h5 k5
  · rcases htm t with h1 | h1
    · rw [h1]; simp [SimV]
    · have h2 := hS.tms t
      rw [h1] at h2
      exact simV_ren f (ctx w0 w ro (fun r => phi (f r)) s') (ctx w0 w ro phi s) rfl rfl rfl rfl (fun _ _ => rfl) _ _ (href t) h2
/-- The rows of a matrix, seen from the outer slice: regions b, b + 1, .. -/
def rowsC (b : Nat) : List (List Int) → List AV
  | [] => []
  | l :: rs => .sl b 1 0 l.length :: rowsC (b + 1) rs
theorem rowsC_refs (keep : Nat → Bool) (b : Nat) (rows : List (List Int)) (h : ∀ j, j < rows.length → keep (b + j) = true) : refsL keep (rowsC b rows) = true := by
  induction rows generalizing b with
  | nil => rfl
  | cons l rs ih =>
    simp only [rowsC, refsL, refsV, Bool.and_eq_true]
    refine ⟨by have := h 0 (by simp); simpa using this, ih (b + 1) fun j hj => ?_⟩
    have := h (j + 1) (by simpa using hj)
    rw [show b + 1 + j = b + (j + 1) by omega]; exact this
theorem rowsC_own (b : Nat) (rows : List (List Int)) (q : Bool) : ownL q (rowsC b rows) = true := by
  induction rows generalizing b with
  | nil => rfl
  | cons l rs ih => simp only [rowsC, ownL, ownV, Bool.true_and]; exact ih _
/-- Regions: those of h, and the rows. -/
def famH (h : Hp) (b : Nat) (rows : List (List Int)) : Hp := fun r => match h r with
  | some c => some c
  | none => if b ≤ r ∧ r < b + rows.length then some (true, (rows.getD (r - b) []).map AV.i) else none
theorem famH_row {h : Hp} {b : Nat} {rows : List (List Int)} {j : Nat} (hn : h (b + j) = none) (hj : j < rows.length) : famH h b rows (b + j) = some (true, (rows.getD j []).map AV.i) := by
  unfold famH
  rw [hn]
  simp only
  rw [if_pos ⟨by omega, by omega⟩, Nat.add_sub_cancel_left]
theorem famH_some {h : Hp} {b : Nat} {rows : List (List Int)} {r : Nat} {c : Bool × List AV} (e : famH h b rows r = some c) : h r = some c ∨ (h r = none ∧ ∃ j, j < rows.length ∧ r = b + j ∧ c = (true, (rows.getD j []).map AV.i)) := by
  unfold famH at e
  cases hr : h r with
  | some c' => rw [hr] at e; exact .inl e
  | none =>
    rw [hr] at e
    simp only at e
    split at e
    · rename_i hh
      cases e
      exact .inr ⟨rfl, r - b, by omega, by omega, rfl⟩
    · cases e
theorem look_mem {β : Type} {l : List (Nat × β)} {t : Nat} {x : β} (h : look l t = some x) : (t, x) ∈ l := by
  induction l with
  | nil => simp [look] at h
  | cons p l ih =>
    obtain ⟨k, y⟩ := p
    simp only [look] at h
    split at h
    · rename_i e; subst e; cases h; exact List.mem_cons_self ..
    · exact List.mem_cons_of_mem _ (ih h)
def HasF (s : AS) (f : Nat → Nat) : List (Nat × AV) → Prop
  | [] => True
  | (t, x) :: l => s.tm t = renV f x ∧ HasF s f l
theorem look_hasF {s : AS} {f : Nat → Nat} : ∀ {l : List (Nat × AV)} {t : Nat} {x : AV}, HasF s f l → look l t = some x → s.tm t = renV f x
  | [], _, _, _, h => by simp [look] at h
  | (k, y) :: l, t, x, h, e => by
    simp only [look] at e
    split at e
    · rename_i hk; subst hk; cases e; exact h.1
    · exact look_hasF h.2 e
end Go.Am
namespace Go.Am
variable {P : Program} {own : Bool} {N : Nat} {s : AS} {K : AS → Prop} {d : Option Nat}
def nbase : Nat := 8000000
/-- A matrix asx regions: the outer slice in r0, its rows in b, b + 1, .. -/
def matH (r0 b : Nat) (rows : List (List Int)) : Hp := famH (fun r => if r = r0 then some (false, rowsC b rows) else none) b rows
theorem matH_some {r0 b r : Nat} {rows : List (List Int)} {c : Bool × List AV} (h : matH r0 b rows r = some c) : (r = r0 ∧ c = (false, rowsC b rows)) ∨ ∃ j, j < rows.length ∧ r = b + j ∧ c = (true, (rows.getD j []).map AV.i) := by
  rcases famH_some h with h1 | ⟨_, h1⟩
  · split at h1
    · rename_i e; cases h1; exact .inl ⟨e, rfl⟩
    · cases h1
  · exact .inr h1
theorem matH_outer (r0 b : Nat) (rows : List (List Int)) : matH r0 b rows r0 = some (false, rowsC b rows) := by simp [matH, famH]
theorem matH_row {r0 b : Nat} {rows : List (List Int)} {j : Nat} (h : r0 < b) (hj : j < rows.length) : matH r0 b rows (b + j) = some (true, (rows.getD j []).map AV.i) :=
  famH_row (by have : ¬ b + j = r0 := by omega
               simp [this]) hj
theorem renL_ints (f : Nat → Nat) (l : List Int) : renL f (l.map AV.i) = l.map AV.i := by
  induction l with
  | nil => rfl
  | cons x l ih => simp only [List.map_cons, renL, renV, ih]
theorem ownL_ints (q : Bool) (l : List Int) : ownL q (l.map AV.i) = true := by
  induction l with
  | nil => rfl
  | cons x l ih => simp only [List.map_cons, ownL, ownV, ih, Bool.and_self]
theorem refsL_ints (keep : Nat → Bool) (l : List Int) : refsL keep (l.map AV.i) = true := by
  induction l with
  | nil => rfl
  | cons x l ih => simp only [List.map_cons, refsL, refsV, ih, Bool.and_self]
theorem matH_own {r0 b : Nat} {rows : List (List Int)} (h : r0 < b) (r : Nat) (c : Bool × List AV) (hc : matH r0 b rows r = some c) : ownL false c.2 = true ∧ refsL (fun r => (matH r0 b rows r).isSome) c.2 = true := by
  rcases matH_some hc with ⟨rfl, rfl⟩ | ⟨j, hj, rfl, rfl⟩
  · exact ⟨rowsC_own _ _ _, rowsC_refs _ _ _ fun j hj => by rw [matH_row h hj]; rfl⟩
  · exact ⟨ownL_ints _ _, refsL_ints _ _⟩
abbrev matO (rows : List (List Int)) : Hp := matH nbase (nbase + 1) rows
theorem static_mat1 (rows : List (List Int)) : Static (fun _ => none) (.sl nbase 1 0 rows.length) (matO rows) :=
  ⟨fun r h => by simp at h, matH_own (by omega), by simp [ownV], by simp [refsV, matO, matH_outer]⟩
theorem static_mat2 (rows : List (List Int)) (x : Value) : Static (fun _ => none) (.tup [.sl nbase 1 0 rows.length, .v x]) (matO rows) :=
  ⟨fun r h => by simp at h, matH_own (by omega), by simp [ownV, ownL], by simp [refsV, refsL, matO, matH_outer]⟩
end Go.Am
namespace Go.Am
variable {P : Program} {own : Bool} {N : Nat} {s : AS} {K : AS → Prop} {d : Option Nat}
/-- A region told otherwise, its block being what it was. -/
theorem weak_recell {s : AS} {r : Nat} {c c' : Bool × List AV} (hr : s.hp r = some c) (hne : c.2 ≠ []) (hno : ∀ o, c ≠ (true, [.ob o]))
    (h : ∀ (w0 : World) (mu : Nat → Option Nat) (N : Nat) (tm : Array Value) (w : World) (phi : Nat → Option Nat) (ro : Nat → Prop) (cur : Array Value), Sim w0 mu N s tm w phi ro → SimR c (ctx w0 w ro phi s) cur.toList → SimR c' (ctx w0 w ro phi s) cur.toList) : Weak s (s.mem r c') := by
  intro w0 mu N a w hS
  obtain ⟨hf, phi, ro, hS⟩ := hS
  rcases hS.liv r c hr with ⟨_, h2, _⟩ | ⟨b, cur, e, h1, h2, h3, h4, h5⟩ | ⟨b, o, h0, _⟩
  · exact absurd h2 hne
  case inr.inr => exact absurd h0 (hno o)
  · exact ⟨hf, phi, ro, hS.write hr h1 h2 h2 rfl (fun _ _ _ => rfl) rfl rfl rfl (Nat.le_refl _) (h w0 mu N a.tmps w phi ro cur hS h5)⟩
/-- Plain cells may be told asx cells that may lead to regions. -/
theorem weak_deep {r : Nat} {cs : List AV} (hr : s.hp r = some (true, cs)) (hne : cs ≠ []) (hpl : cs.all plainV = true) : Weak s (s.mem r (false, cs)) := by
  refine weak_recell hr hne (fun o h => by cases h; simp [plainV] at hpl) fun w0 mu N tm w phi ro cur _ h => ?_
  simp only [SimR, if_true, Bool.false_eq_true, if_false] at h ⊢
  exact simL_allv hpl h
end Go.Am
namespace Go.Am
variable {s : AS}
theorem mem_self {r : Nat} {c : Bool × List AV} (hr : s.hp r = some c) : s.mem r c = s := by
  obtain ⟨tm, hp⟩ := s
  simp only [AS.mem, AS.mk.injEq, true_and]
  funext q
  by_cases h : q = r
  · subst h; simp only [if_true]; exact hr.symm
  · simp [h]
/-- A region's last cells are forgotten. -/
theorem weak_shrink (r n : Nat) {cs : List AV} (hr : s.hp r = some (true, cs)) (hpl : cs.all plainV = true) : Weak s (s.mem r (true, cs.take n)) := by
  intro w0 mu N a w hS
  obtain ⟨hf, phi, ro, hS⟩ := hS
  rcases hS.liv r _ hr with ⟨_, h2, _⟩ | ⟨b, cur, e, h1, h2, h3, h4, h5⟩ | ⟨b, o, h0, _⟩
  · simp only at h2
    subst h2
    rw [List.take_nil, mem_self hr]
    exact ⟨hf, phi, ro, hS⟩
  · refine ⟨hf, _, ro, hS.write hr h1 h2 h2 rfl (fun _ _ _ => rfl) rfl rfl rfl (Nat.le_refl _) ?_⟩
    simp only [SimR, if_true] at h5 ⊢
    exact h5.take n
  · cases h0
    simp [plainV] at hpl
end Go.Am
namespace Go.Am
/-- A function value bears its first arguments; what it bears, a callee may read asx it is. -/
def Bears (fl : List AV) : Prop := ∀ hp, ∀ x ∈ fl, Lend hp x x
theorem lends_bears {fl : List AV} (h : Bears fl) (hp : Hp) {xs ys : List AV} (k : Lends hp xs ys) : Lends hp (fl ++ xs) (fl ++ ys) := by
  induction fl with
  | nil => exact k
  | cons a l ih => exact lends_cons (h hp a (by simp)) (ih fun hp x hx => h hp x (by simp [hx]))
theorem lend_fn {hp : Hp} {f : FuncId} {l m : List AV} {k : Nat} (h : Lends hp l m) : Lend hp (.fn f l k) (.fn f m k) := by
  intro w0 mu N tm w phi ro v hS hv
  simp only [SimV] at hv ⊢
  obtain ⟨a, b, h1, h2, h3, h4⟩ := hv
  obtain ⟨h5, h6⟩ := h w0 mu N tm w phi ro (a.toList ++ b.toList) hS h4 (by simpa using h3)
  exact ⟨a, b, h1, h2, by simpa using h6, h5⟩
theorem lend_bears {hp : Hp} {f : FuncId} {fl : List AV} {k : Nat} (h : Bears fl) : Lend hp (.fn f fl k) (.fn f fl k) := by
  have := lends_bears h hp lends_nil
  simp only [List.append_nil] at this
  exact lend_fn this
section
variable {s : AS}
theorem tm_put_ne' {d t : Nat} {x : AV} (h : t ≠ d) : (s.put (some d) x).tm t = s.tm t := by simp [AS.put, h]
theorem tm_put_none {t : Nat} {x : AV} : (s.put none x).tm t = s.tm t := rfl
theorem tm_mem {r t : Nat} {c : Bool × List AV} : (s.mem r c).tm t = s.tm t := rfl
theorem tm_kill {r t : Nat} : (s.kill r).tm t = killV r (s.tm t) := rfl
theorem tm_mv {r q t : Nat} {c : List AV} : (s.mv r q c).tm t = mvV r q (s.tm t) := rfl
theorem tm_st {l : List (Nat × AV)} {h : List (Nat × (Bool × List AV))} {t : Nat} : (st l h).tm t = (look l t).getD .any := rfl
theorem tm_en0 {a : AV} {l : List AV} : (enter0 (a :: l)).tm 0 = a := rfl
theorem tm_en1 {a b : AV} {l : List AV} : (enter0 (a :: b :: l)).tm 1 = b := rfl
theorem tm_en2 {a b c : AV} {l : List AV} : (enter0 (a :: b :: c :: l)).tm 2 = c := rfl
theorem tm_en3 {a b c d : AV} {l : List AV} : (enter0 (a :: b :: c :: d :: l)).tm 3 = d := rfl
theorem tm_en4 {a b c d e : AV} {l : List AV} : (enter0 (a :: b :: c :: d :: e :: l)).tm 4 = e := rfl
end
section
variable {f : FuncId} {fl : List AV} {k r q : Nat}
theorem kill_fn (h : ∀ r, killL r fl = fl) : killV r (.fn f fl k) = .fn f fl k := by simp only [killV, h]
theorem mv_fn (h : ∀ r, killL r fl = fl) : mvV r q (.fn f fl k) = .fn f fl k := by simp only [mvV, killV, h]
end
theorem lends_self {fl : List AV} (h : Bears fl) (hp : Hp) : Lends hp fl fl := by
  have := lends_bears h hp lends_nil
  simpa only [List.append_nil] using this
/-- A pointer to memory that nobody writes. -/
theorem lend_rp {hp : Hp} {cs : List AV} (hall : cs.all plainV = true) : Lend hp (.rp cs) (.rp cs) := by
  intro w0 mu N tm w phi ro v hS hv
  simp only [SimV] at hv ⊢
  obtain ⟨b, o, cur, e, fz, h1, h2, h3, h4⟩ := hv
  exact ⟨b, o, cur, e, fz, h1, h2, lt_of_get h2, simL_allv hall h4⟩
theorem bears_rp {cs : List AV} (h : cs.all plainV = true) : Bears [.rp cs] := by
  intro hp x hx
  rw [List.mem_singleton.1 hx]
  exact lend_rp h
/-- A pointer to a region of my own: the callee reads it. -/
theorem lend_pt {hp : Hp} {r off : Nat} {cs : List AV} (hr : hp r = some (true, cs)) (hall : cs.all plainV = true) : Lend hp (.pt r off) (.rp (cs.drop off)) := by
  intro w0 mu N tm w phi ro v hS hv
  simp only [SimV] at hv ⊢
  obtain ⟨_, _, b, h1, h2, cur, e, h3⟩ := hv
  refine ⟨b, off, cur, e, (0, 0), h2, h3, lt_of_get h3, ?_⟩
  rcases hS.liv r _ hr with ⟨k1, _⟩ | ⟨b', cur', e', k1, k2, k3, k4, k5⟩ | ⟨b', o, k0, _⟩
  · have h1' : phi r = some b := h1
    rw [k1] at h1'; cases h1'
  · have h1' : phi r = some b := h1
    rw [k1] at h1'; cases h1'
    have h3' : w.heap[b]? = some (.cells cur e (0, 0)) := h3
    rw [k2] at h3'; cases h3'
    simp only [SimR, if_true] at k5
    exact (simL_allv hall k5).drop off
  · cases k0; simp [plainV] at hall
/-- May a function value be asked of a place? It answers asx fb says. -/
structure AsksP (P : Program) (f : FuncId) (fl : List AV) (n : Nat) (fb : Nat → Nat → Bool) : Prop where
  call : Callable P f
  bears : Bears fl
  norefs : ∀ keep, refsL keep fl = true
  nokill : ∀ r, killL r fl = fl
  spec : ∀ i j, i < n → j < n → Sp P f (.agg [.i (i : Nat), .i (j : Nat)] :: fl) (.b (fb i j))
/- Boards asx texts. -/
def sgn (b : Bool) : UInt8 := if b then 35 else 46
def rowT (fb : Nat → Nat → Bool) (i k : Nat) : List UInt8 := (List.range k).map fun j => sgn (fb i j)
def bdT (fb : Nat → Nat → Bool) (n : Nat) : Nat → List UInt8
  | 0 => []
  | k + 1 => bdT fb n k ++ (if 0 < k then [47] else []) ++ rowT fb k n
theorem rowT_len (fb : Nat → Nat → Bool) (i k : Nat) : (rowT fb i k).length = k := by simp [rowT]
theorem rowT_snoc (fb : Nat → Nat → Bool) (i k : Nat) : rowT fb i (k + 1) = rowT fb i k ++ [sgn (fb i k)] := by simp [rowT, List.range_succ]
theorem bdT_len (fb : Nat → Nat → Bool) (n k : Nat) : (bdT fb n k).length ≤ k * (n + 1) := by
  induction k with
  | zero => simp [bdT]
  | succ k ih =>
    simp only [bdT, List.length_append, rowT_len]
    have : (if 0 < k then [(47 : UInt8)] else []).length ≤ 1 := by split <;> simp
    rw [Nat.add_mul, Nat.one_mul]
    omega
theorem rowT_congr {f g : Nat → Nat → Bool} {i k n : Nat} (h : ∀ i j, i < n → j < n → f i j = g i j) (hi : i < n) (hk : k ≤ n) : rowT f i k = rowT g i k :=
  List.map_congr_left fun j hj => by rw [h i j hi (by have := List.mem_range.1 hj; omega)]
theorem bdT_congr {f g : Nat → Nat → Bool} {n k : Nat} (h : ∀ i j, i < n → j < n → f i j = g i j) (hk : k ≤ n) : bdT f n k = bdT g n k := by
  induction k with
  | zero => rfl
  | succ k ih => simp only [bdT]; rw [ih (by omega), rowT_congr h (by omega) (Nat.le_refl _)]
theorem getD_memL {α : Type} {l : List α} {d : α} {m : Nat} (h : m < l.length) : l.getD m d ∈ l := by
  have : l.getD m d = l[m] := by simp [h]
  rw [this]
  exact List.getElem_mem h
/-- Is a place in a list? -/
def inB (ps : List (List Int)) (i j : Nat) : Bool := ps.any fun p => decide (p.getD 0 0 = (i : Int)) && decide (p.getD 1 0 = (j : Int))
theorem byteVs_snoc (bs : List UInt8) (b : UInt8) : byteVs (bs ++ [b]) = byteVs bs ++ [.v (.int .u8 b.toNat)] := by simp [byteVs]
end Go.Am
namespace Go.Am
variable {P : Program} {own : Bool} {d : Option Nat} {s : AS} {K : AS → Prop} {N : Nat}
section
variable {x y z : Opd} {A B : List UInt8}
theorem str_beq (A B : List UInt8) : ((⟨A.toArray⟩ : ByteArray).toList == (⟨B.toArray⟩ : ByteArray).toList) = decide (A = B) := by
  rw [ByteArray.toList_eq, ByteArray.toList_eq, Bool.eq_iff_iff]
  simp
theorem m_eqs (hx : s.ev x = str A) (hy : s.ev y = str B) (k : K (s.put d (.b (decide (A = B))))) : aop1 P own ⟨d, .bin .eql x y, none⟩ s K := by
  refine ⟨_, _, _, hx, hy, rfl, ?_⟩
  rw [str_beq]
  exact k
theorem m_eqk {q : IntKind} {a b : Int} (hx : s.ev x = .v (.int q a)) (hy : s.ev y = .v (.int q b)) (k : K (s.put d (.b (decide (a = b))))) : aop1 P own ⟨d, .bin .eql x y, none⟩ s K := by
  refine ⟨_, _, .bool (a == b), hx, hy, by simp [pbin], ?_⟩
  rw [show (a == b) = decide (a = b) from by rw [Bool.eq_iff_iff]; simp]
  exact k
theorem bytes_extract (A : List UInt8) (l h : Nat) : (⟨A.toArray⟩ : ByteArray).extract l h = ⟨((A.drop l).take (h - l)).toArray⟩ := by
  apply ByteArray.ext
  rw [ByteArray.data_extract]
  apply Array.ext'
  rw [Array.toList_extract]
theorem m_scutl {l : Nat} (hx : s.ev x = str A) (hl : s.ev y = .i (l : Nat)) (h1 : l ≤ A.length) (k : K (s.put d (str (A.drop l)))) : aop1 P own ⟨d, .pu (.scut true false) [x, y], none⟩ s K := by
  refine m_scut_lo hx hl (by show l ≤ A.toArray.size; simpa using h1) ?_
  rw [bytes_extract]
  have : (⟨A.toArray⟩ : ByteArray).size = A.length := by show A.toArray.size = _; simp
  rw [this, List.take_of_length_le (by simp)]
  exact k
theorem m_scuth {h : Nat} (hx : s.ev x = str A) (hh : s.ev y = .i (h : Nat)) (h1 : h ≤ A.length) (k : K (s.put d (str (A.take h)))) : aop1 P own ⟨d, .pu (.scut false true) [x, y], none⟩ s K := by
  refine m_scut_hi hx hh (by show h ≤ A.toArray.size; simpa using h1) ?_
  rw [bytes_extract, List.drop_zero, Nat.sub_zero]
  exact k
theorem m_xcall {f : FuncId} {fn : Func} {e : Array Value → Sem Value} {args : List Opd} {vs : List Value} {v : Value} (h1 : P.funcs[f]? = some fn) (h2 : (fn.name == "runtime.NumGoroutine") = false) (h3 : fn.body.isNone = true) (h4 : Extern.findNext fn = none) (h5 : Extern.find fn = some e)
    (h6 : args.map s.ev = vs.map AV.v) (h7 : ∀ w, (e vs.toArray).run P w = .ok v w) (k : K (s.put d (.v v))) : aop1 P own ⟨d, .xcall f args, none⟩ s K := ⟨fn, e, vs, v, h1, h2, h3, h4, h5, h6, h7, k⟩
end
section
variable {x y i : Opd}
theorem m_mgetk {kt : TypeId} {zv : Value} {es : Array MapEntry} {clock : Nat} {kv : Value} {r : AV} {ok : Bool} (KL : WideMaps.KeyLaw P kt) (hm : MapAt s (s.ev x) es clock) (hi : exV (s.ev i) = some kv) (hk : ∃ l, keyOf P kt kv = some l) (hkeys : ∀ e ∈ es.toList, ∃ l, keyOf P kt e.key = some l)
    (h1 : ∀ e ∈ es.toList, e.key = kv → mres ok e.val true = r) (h2 : (∀ e ∈ es.toList, e.key ≠ kv) → mres ok zv false = r) (k : K (s.put d r)) : aop1 P own ⟨d, .mgetk kt zv ok x i, none⟩ s K :=
  ⟨KL, es, clock, kv, hm, hi, hk, hkeys, r, h1, h2, k⟩
theorem m_mrg {r q : Nat} {es : Array MapEntry} {clock : Nat} (hx : s.ev x = .mp q) (hne : q ≠ r) (hq : s.hp q = some (true, [.ob (.map es clock)]))
    (k : ∀ bm : Nat, K (((s.kill r).mem r (true, [.ob (.mapIter (some bm) clock #[] clock)])).put (some r) (.mit r (some q) bm #[] 0))) : aop1 P own ⟨some r, .mrg x, none⟩ s K :=
  ⟨r, rfl, .inl ⟨q, es, clock, hx, hne, hq, k⟩⟩
theorem m_mnx {r q bm ck0 since : Nat} {es0 : Array MapEntry} {seen : Array Nat} {c0 : Nat} {es : Array MapEntry} {clock : Nat} (hx : s.ev x = .mit r (some q) bm es0 ck0) (hr : s.hp r = some (true, [.ob (.mapIter (some bm) since seen c0)]))
    (hne : q ≠ r) (hq : s.hp q = some (true, [.ob (.map es clock)])) (hold : ∀ e ∈ es.toList, e.born < since) (hsc : since ≤ c0) (k1 : (∀ e ∈ es.toList, seen.contains e.born = true) → K (s.put d (.tup [.v (.bool false)])))
    (k2 : ∀ e ∈ es.toList, seen.contains e.born = false → K ((s.mem r (true, [.ob (.mapIter (some bm) since (seen.push e.born) clock)])).put d (.tup [.v (.bool true), .any, .any]))) : aop1 P own ⟨d, .mnx x, none⟩ s K :=
  ⟨r, some q, bm, es0, ck0, since, seen, c0, es, clock, hx, hr, .inl ⟨q, rfl, hne, hq⟩, hold, hsc, k1, k2⟩
theorem m_ment {r q bm ck0 since : Nat} {es0 : Array MapEntry} {seen : Array Nat} {es : Array MapEntry} {clock : Nat} {e : MapEntry} {ka va : AV} (hx : s.ev x = .mit r (some q) bm es0 ck0)
    (hr : s.hp r = some (true, [.ob (.mapIter (some bm) since (seen.push e.born) clock)])) (hne : q ≠ r) (hq : s.hp q = some (true, [.ob (.map es clock)])) (he : e ∈ es.toList) (hn : (es.toList.map (·.born)).Nodup)
    (hka : exV ka = some e.key) (hva : exV va = some e.val) (k : K (s.put d (.tup [ka, va]))) : aop1 P own ⟨d, .ment x, none⟩ s K :=
  ⟨r, some q, bm, es0, ck0, since, seen, es, clock, e, ka, va, hx, hr, .inl ⟨q, rfl, hne, hq⟩, he, hn, hka, hva, k⟩
theorem m_mdel {kt : TypeId} {r : Nat} {es : Array MapEntry} {clock : Nat} {kv : Value} (KL : WideMaps.KeyLaw P kt) (hx : s.ev x = .mp r) (hr : s.hp r = some (true, [.ob (.map es clock)])) (hi : exV (s.ev i) = some kv) (hk : ∃ l, keyOf P kt kv = some l)
    (hks : ∀ e ∈ es.toList, ∃ l, keyOf P kt e.key = some l) (k1 : ∀ (n : Nat) (e : MapEntry), es.toList[n]? = some e → e.key = kv → K ((s.mem r (true, [.ob (.map (es.eraseIdxIfInBounds n) clock)])).put d (.tup [])))
    (k2 : (∀ e ∈ es.toList, e.key ≠ kv) → K ((s.mem r (true, [.ob (.map es clock)])).put d (.tup []))) : aop1 P own ⟨d, .mdel kt x i, none⟩ s K :=
  ⟨KL, r, es, clock, kv, hx, hr, hi, hk, hks, k1, k2⟩
theorem m_mputk {kt : TypeId} {r : Nat} {es : Array MapEntry} {clock : Nat} {kv v : Value} (KL : WideMaps.KeyLaw P kt) (hx : s.ev x = .mp r) (hr : s.hp r = some (true, [.ob (.map es clock)])) (hi : exV (s.ev i) = some kv) (hy : s.ev y = .v v) (hk : ∃ l, keyOf P kt kv = some l) (hkeys : ∀ e ∈ es.toList, ∃ l, keyOf P kt e.key = some l)
    (hnew : ∀ e ∈ es.toList, e.key ≠ kv) (k : K (s.mem r (true, [.ob (.map (es.push { key := kv, val := v, born := clock }) (clock + 1))]))) : aop1 P own ⟨none, .mputk kt x i y, none⟩ s K :=
  ⟨KL, r, es, clock, kv, v, hx, hr, hi, hy, hk, hkeys, fun n e he hk => absurd hk (hnew e (List.mem_of_getElem? he)), fun _ => k⟩
end
/-- Plain values, and maps that nobody writes. -/
def plainM : AV → Bool
  | .v _ => true
  | .rmp _ _ _ => true
  | _ => false
/-- Such a value, asx somebody else sees it. -/
def unf : AV → AV
  | .rmp _ es clock => .rmp false es clock
  | x => x
theorem simL_rmp {C D : Ctx} (hh : C.heap = D.heap) (hr : ∀ b, C.ro b → D.ro b) : ∀ {l : List AV} {ys : List Value}, l.all plainM = true → SimL l C ys → SimL (l.map unf) D ys
  | [], _, _, _ => by simp [SimL]
  | _ :: _, [], _, h => by simp [SimL] at h
  | x :: l, y :: ys, h, hs => by
    simp only [List.all_cons, Bool.and_eq_true, SimL, List.map_cons] at h hs ⊢
    refine ⟨?_, simL_rmp hh hr h.2 hs.2⟩
    cases x <;> simp [plainM] at h
    · simpa [SimV, unf] using hs.1
    · have h1 := hs.1
      simp only [SimV, unf] at h1 ⊢
      obtain ⟨b, k1, k2, k3, _⟩ := h1
      exact ⟨b, k1, by rw [← hh]; exact k2, hr b k3, fun e => by cases e⟩
theorem lend_rmp {hp : Hp} {fr : Bool} {es : Array MapEntry} {clock : Nat} : Lend hp (.rmp fr es clock) (.rmp false es clock) := by
  intro w0 mu N tm w phi ro v hS hv
  simp only [SimV] at hv ⊢
  obtain ⟨b, k1, k2, k3, _⟩ := hv
  exact ⟨b, k1, k2, lt_of_get k2, fun e => by cases e⟩
theorem ob_at' {w0 w : World} {mu : Nat → Option Nat} {tm : Array Value} {phi : Nat → Option Nat} {ro : Nat → Prop} (hS : Sim w0 mu N s tm w phi ro) {r k : Nat} {es : Array MapEntry} {clock : Nat} (hr : s.hp r = some (true, [.ob (.map es clock)])) (hk : phi r = some k) :
    w.heap[k]? = some (.map es clock) ∧ (r < pbase → Mine w0 mu k) := by
  rcases hS.liv r _ hr with ⟨h1, _⟩ | ⟨b', cur, e, h1, h2, _, _, h5⟩ | ⟨b', o, h0, h1, h2, h3, h4, h5⟩
  · rw [h1] at hk; cases hk
  · exfalso
    simp only [SimR, if_true] at h5
    cases hc : cur.toList with
    | nil => rw [hc] at h5; simp [SimL] at h5
    | cons y ys => rw [hc] at h5; simp [SimL, SimV] at h5
  · rw [h1] at hk
    cases hk
    simp only [Prod.mk.injEq, List.cons.injEq, AV.ob.injEq, and_true, true_and] at h0
    subst h0
    exact ⟨h2, fun hp => (h5.resolve_right fun h => by omega).2⟩
/-- What a callee sees of plain memory. -/
abbrev ctxAll (w : World) : Ctx := { heap := w.heap, ro := fun b => b < w.heap.size, base := w.heap.size, phi := fun _ => none, live := fun _ => false, loc := false }
theorem lend_map {hp : Hp} {r : Nat} {es : Array MapEntry} {clock : Nat} (hr : hp r = some (true, [.ob (.map es clock)])) : Lend hp (.mp r) (.rmp false es clock) := by
  intro w0 mu N tm w phi ro v hS hv
  simp only [SimV] at hv ⊢
  obtain ⟨_, _, b, k1, k2⟩ := hv
  have k3 := (ob_at' hS hr k1).1
  exact ⟨b, k2, k3, lt_of_get k3, fun e => by cases e⟩
theorem lend_aggM {hp : Hp} {l : List AV} (hall : l.all plainM = true) : Lend hp (.agg l) (.agg (l.map unf)) := by
  intro w0 mu N tm w phi ro v hS h
  simp only [SimV] at h ⊢
  obtain ⟨a, h1, h2, h3⟩ := h
  exact ⟨a, h1, by rw [h2, List.length_map], simL_rmp (C := ctx w0 w ro phi ⟨fun _ => .any, hp⟩) (D := ctxAll w) rfl (fun b hb => hS.rob b hb) hall h3⟩
theorem outs_mp {r : Nat} {es : Array MapEntry} {clock : Nat} (hp : r < pbase) (hr : s.hp r = some (true, [.ob (.map es clock)])) : Outs s (.mp r) (.rmp true es clock) := by
  intro w0 N tm w phi ro y hS h
  simp only [SimV] at h ⊢
  obtain ⟨_, _, b, k1, k2⟩ := h
  obtain ⟨k3, k4'⟩ := ob_at' hS hr k1
  have k4 : r < pbase → w0.heap.size ≤ b := fun hp => (k4' hp).resolve_right fun h => by obtain ⟨_, _, h⟩ := h; cases h
  exact ⟨b, k2, k3, ⟨k4 hp, lt_of_get k3⟩, fun _ => k4 hp⟩
theorem outs_agg2 {a b a' b' : AV} (h1 : Outs s a a') (h2 : Outs s b b') : Outs s (.agg [a, b]) (.agg [a', b']) := by
  intro w0 N tm w phi ro y hS h
  simp only [SimV] at h ⊢
  obtain ⟨ar, k1, k2, k3⟩ := h
  obtain ⟨l⟩ := ar
  match l, k2, k3 with
  | [p, q], _, k3 =>
    simp only [SimL] at k3
    exact ⟨_, k1, rfl, by simp only [SimL, and_true]; exact ⟨h1 _ _ _ _ _ _ _ hS k3.1, h2 _ _ _ _ _ _ _ hS k3.2.1⟩⟩
/-- A region's beginning is handed out. -/
theorem outs_sl_take {r z n : Nat} {cs : List AV} (hr : s.hp r = some (true, cs)) (hl : n * z ≤ cs.length) (hall : cs.all plainV = true) :
    Outs s (.sl r z 0 n) (.ro true z (cs.take (n * z)) n) := by
  intro w0 N tm w phi ro y hS hy
  simp only [SimV] at hy ⊢
  rcases hy.2.2 with ⟨h1, _, rfl, rfl⟩ | ⟨b, o, cap, cur, e, h1, rfl, h3, h4, h5, h6, h7⟩
  · left
    exact ⟨rfl, by simp, none, 0, rfl, fun _ => ⟨rfl, rfl⟩⟩
  · right
    have ho : o = 0 := by
      rcases h4 with h4 | h4
      · exact h4
      · exact absurd h4.2 (Nat.lt_irrefl _)
    subst ho
    rcases hS.liv r _ hr with ⟨h8, _⟩ | ⟨b', cur', e', h8, h9, h10, h11, h12⟩ | ⟨b', o', _, h8, h9, h10, _⟩
    · have : phi r = some b := h1
      rw [h8] at this; cases this
    case inr.inr => exact ob_not_cells h8 h9 h10 h1 h3
    · have h1' : phi r = some b := h1
      rw [h8] at h1'
      cases h1'
      have h3' : w.heap[b]? = some (.cells cur e (0, 0)) := h3
      rw [h9] at h3'
      cases h3'
      have hb : w0.heap.size ≤ b := (h11.resolve_right fun h => by cases h.2).2.resolve_right fun h => by obtain ⟨_, _, h⟩ := h; cases h
      refine ⟨b, 0, cap, cur, e, (0, 0), rfl, h9, ⟨hb, lt_of_get h9⟩, by rw [List.length_take]; omega, h5, fun _ => ⟨hb, rfl, rfl, h6, by omega⟩, ?_⟩
      simp only [SimR, if_true] at h12
      rw [List.drop_zero]
      exact (simL_allv hall h12).take _
/-- An operation, something being forgotten first. -/
theorem step_opsW {o : AOper} {l : List AOper} {s' : AS} {Q : AS → Prop} (hw : Weak s s') (h : aop1 P own o s' fun s' => aops P own l s' Q) : aops P own (o :: l) s Q := ⟨s', hw, h⟩

/- Results of which some lie in cells. -/
inductive RV where
  | t (n : Nat)
  | c (a k : Nat)
def resG1 (P : Program) : ResultVar → Option RV
  | .tmp t => some (.t t)
  | .cell a t => (shapeT P t).bind fun k => k.map fun k => .c a k
def resG (P : Program) (fn : Func) : Option (List RV) := fn.results.toList.mapM (resG1 P)
def rvOk (s : AS) : RV → AV → Prop
  | .t n, x => s.tm n = x
  | .c a k, x => ∃ r off fl cs, s.tm a = .pt r off ∧ s.hp r = some (fl, cs) ∧ off + k ≤ cs.length ∧ x = .agg ((cs.drop off).take k)
def rvsOk (s : AS) : List RV → List AV → Prop
  | [], [] => True
  | r :: rs, x :: xs => rvOk s r x ∧ rvsOk s rs xs
  | _, _ => False
def tupAV : List AV → AV
  | [x] => x
  | xs => .tup xs
def DoneG (rs : List RV) (res : AV) : Exit → AS → Prop
  | .normal, s | .ret, s => ∃ xs, rvsOk s rs xs ∧ Outs s (tupAV xs) res
  | _, _ => False
theorem rv_run {w w' : World} {mu : Nat → Option Nat} {a' : Act} {phi : Nat → Option Nat} {ro : Nat → Prop} (hS : Sim w mu N s a'.tmps w' phi ro) {r : ResultVar} {rv : RV} {x : AV} (h1 : resG1 P r = some rv) (h2 : rvOk s rv x) :
    ∃ y, (resOne a'.tmps r).run P w' = .ok y w' ∧ SimV x (ctx w w' ro phi s) y := by
  cases r with
  | tmp t =>
    simp only [resG1, Option.some.injEq] at h1
    subst h1
    simp only [rvOk] at h2
    refine ⟨_, rfl, ?_⟩
    rw [← h2]
    exact hS.tms t
  | cell a t =>
    simp only [resG1] at h1
    rw [Option.bind_eq_some_iff] at h1
    obtain ⟨k0, hk0, h1⟩ := h1
    rw [Option.map_eq_some_iff] at h1
    obtain ⟨k, rfl, rfl⟩ := h1
    obtain ⟨r, off, fl, cs, hta, hra, hle, rfl⟩ := h2
    obtain ⟨dd, i, ht, hi, hik, hdd⟩ := shapeT_some hk0
    have hv := hS.tms a
    rw [hta] at hv
    simp only [SimV] at hv
    obtain ⟨_, _, b, hb', hy, cur1, e1, hcell1⟩ := hv
    obtain ⟨cur, e0, hcell, hsim, _⟩ := hS.cell hra hb' hcell1
    have hl := hsim.list
    have hlen := hl.length_le
    simp only [Array.length_toList] at hlen
    have hcell' : w'.heap[b]? = some (.cells cur e0 (0, 0)) := hcell
    have hld : (loadVar t ⟨b, off, none⟩).run P w' = .ok (.agg ((cur.toList.drop off).take k).toArray) w' := by
      have hrun := run_load_agg (P := P) (w := w') (b := b) (off := off) ht hi hdd hcell' (by omega)
      rw [hik] at hrun
      simpa [Instr.loadAt, Instr.sureAddr] using hrun
    refine ⟨.agg ((cur.toList.drop off).take k).toArray, by simp [resOne, hy, asAddr, hld], ?_⟩
    simp only [SimV]
    refine ⟨_, rfl, by simp; omega, ?_⟩
    exact ((hl.drop off).take k).shorter k (by simp; omega)
theorem rvs_run {w w' : World} {mu : Nat → Option Nat} {a' : Act} {phi : Nat → Option Nat} {ro : Nat → Prop} (hS : Sim w mu N s a'.tmps w' phi ro) : ∀ {rs : List ResultVar} {rvs : List RV} {xs : List AV}, rs.mapM (resG1 P) = some rvs → rvsOk s rvs xs →
    ∃ ys, (rs.mapM (m := Sem) (resOne a'.tmps)).run P w' = .ok ys w' ∧ SimL xs (ctx w w' ro phi s) ys ∧ ys.length = xs.length
  | [], rvs, xs, h1, h2 => by
    simp at h1
    subst h1
    cases xs with
    | nil => exact ⟨[], by simp, by simp [SimL], rfl⟩
    | cons => exact h2.elim
  | r :: rs, rvs, xs, h1, h2 => by
    rw [List.mapM_cons] at h1
    simp only [Option.bind_eq_bind, Option.bind_eq_some_iff, Option.pure_def, Option.some.injEq] at h1
    obtain ⟨rv, g1, rvs', g2, rfl⟩ := h1
    cases xs with
    | nil => exact h2.elim
    | cons x xs =>
      obtain ⟨y, k1, k2⟩ := rv_run hS g1 h2.1
      obtain ⟨ys, k3, k4, k5⟩ := rvs_run hS g2 h2.2
      refine ⟨y :: ys, ?_, ?_, by simp [k5]⟩
      · rw [List.mapM_cons]
        simp only [Sem.run_bind, k1, Result.andThen_ok, k3, Sem.run_pure]
      · simp only [SimL]; exact ⟨k2, k4⟩
theorem specG_of {f : FuncId} {fn : Func} {code : Code} {ac : ACode} {rvs : List RV} {asx : List AV} {res : AV} (hf : P.funcs[f]? = some fn) (hb : fn.body = some code) (hc : ccode P (min fn.ntmps pbase) code = some ac) (hr : resG P fn = some rvs)
    (h : AW P (min fn.ntmps pbase) ac (enter0 asx) (DoneG rvs res)) : Sp P f asx res := by
  intro w vs hg hent
  refine calls_of_wp hf hb (wp_mono (h code hc w (fun _ => none) _ w ⟨rfl, _, _, enter0_sim hg hent⟩) fun e a' w' hA => ?_)
  obtain ⟨s', h1, hf', phi, ro, hS⟩ := hA
  have fin : (∃ xs, rvsOk s' rvs xs ∧ Outs s' (tupAV xs) res) → a'.defers = [] ∧ ∃ v, (results fn a'.tmps).run P w' = .ok v w' ∧ ∃ v', Ending.returned v = .returned v' ∧ More w w' ∧ SimV res (fresh w w') v' := by
    rintro ⟨xs, hx, ho⟩
    obtain ⟨ys, k1, k2, k3⟩ := rvs_run hS hr hx
    have hr0 : results fn a'.tmps = (do let vs ← fn.results.mapM (resOne a'.tmps); pure (if h : vs.size = 1 then vs[0] else .tuple vs)) := rfl
    have hm : (fn.results.mapM (m := Sem) (resOne a'.tmps)).run P w' = .ok ys.toArray w' := by
      rw [Array.mapM_eq_mapM_toList, Sem.run_map, k1]
      rfl
    refine ⟨hf', if h : ys.toArray.size = 1 then ys.toArray[0] else .tuple ys.toArray, ?_, _, rfl, ⟨hS.os, hS.tape, hS.output, hS.size, fun b hb => hS.kept b hb (fun r => by simp)⟩, ho w (min fn.ntmps pbase) a'.tmps w' phi ro _ hS ?_⟩
    · rw [hr0, Sem.run_bind, hm]
      simp
    · match xs, ys, k2, k3 with
      | [x], [y], k2, _ =>
        simp only [SimL] at k2
        simpa [tupAV] using k2.1
      | [], [], _, _ => simp [tupAV, SimV, SimL]
      | x :: x' :: xs, y :: y' :: ys, k2, k3 =>
        simp only [tupAV, SimV]
        refine ⟨(y :: y' :: ys).toArray, by simp, by simpa using k3, k2⟩
  cases e with
  | normal => exact fin h1
  | ret => exact fin h1
  | exit id => exact h1.elim
  | goto l => exact h1.elim
  | panic c => exact h1.elim
  | outgrown => exact h1.elim
/-- The end of a function with a struct in a variable, and one value more. -/
theorem ret_doneg2 {a k t r : Nat} {fl : Bool} {cs : List AV} {res : AV} (h1 : s.tm a = .pt r 0) (h2 : s.hp r = some (fl, cs)) (h3 : cs.length = k) (h4 : Outs s (.tup [.agg cs, s.tm t]) res) : DoneG [.c a k, .t t] res .ret s :=
  ⟨[.agg cs, s.tm t], ⟨⟨r, 0, fl, cs, h1, h2, by omega, by rw [List.drop_zero, List.take_of_length_le (by omega)]⟩, rfl, trivial⟩, h4⟩
end Go.Am
namespace Go.Am
variable {P : Program} {own : Bool} {N : Nat} {s : AS} {K : AS → Prop} {d : Option Nat}
/-- The state's regions behind a call that handed out these, under the names g. -/
def outR (s : AS) (g : Nat → Nat) (ho : List (Nat × (Bool × List AV))) : Hp := fun q => (look (ho.map fun p => (g p.1, renR g p.2)) q).or (s.hp q)
theorem look_isSome {β : Type} {l : List (Nat × β)} {t : Nat} : (look l t).isSome = true ↔ t ∈ l.map (·.1) := by
  induction l with
  | nil => simp [look]
  | cons p l ih =>
    obtain ⟨k, x⟩ := p
    simp only [look, List.map_cons, List.mem_cons]
    by_cases e : t = k
    · simp [e]
    · rw [if_neg e, ih]; simp [e]
theorem look_map {g : Nat → Nat} {h : (Bool × List AV) → (Bool × List AV)} : ∀ {l : List (Nat × (Bool × List AV))} {r : Nat} {c : Bool × List AV}, (l.map fun p => g p.1).Nodup → look l r = some c → look (l.map fun p => (g p.1, h p.2)) (g r) = some (h c)
  | [], _, _, _, e => by simp [look] at e
  | (k, x) :: l, r, c, hn, e => by
    simp only [look, List.map_cons] at e ⊢
    simp only [List.map_cons, List.nodup_cons] at hn
    by_cases hk : r = k
    · subst hk
      rw [if_pos rfl] at e ⊢
      cases e
      rfl
    · rw [if_neg hk] at e
      have hm := look_mem e
      have hne : ¬ g r = g k := fun e2 => hn.1 (List.mem_map.2 ⟨(r, c), hm, e2⟩)
      rw [if_neg hne]
      exact look_map hn.2 e
theorem look_inj {g : Nat → Nat} : ∀ {l : List (Nat × (Bool × List AV))} {r r' : Nat}, (l.map fun p => g p.1).Nodup → r ∈ l.map (·.1) → r' ∈ l.map (·.1) → g r = g r' → r = r'
  | [], _, _, _, h, _, _ => by simp at h
  | (k, x) :: l, r, r', hn, h1, h2, e => by
    simp only [List.map_cons, List.nodup_cons, List.mem_cons] at hn h1 h2
    have key : ∀ q, q ∈ l.map (·.1) → g q ∈ l.map fun p => g p.1 := fun q hq => by
      obtain ⟨p, hp, rfl⟩ := List.mem_map.1 hq
      exact List.mem_map.2 ⟨p, hp, rfl⟩
    rcases h1 with rfl | h1
    · rcases h2 with rfl | h2
      · rfl
      · exact absurd (e ▸ key _ h2) hn.1
    · rcases h2 with rfl | h2
      · exact absurd (e ▸ key _ h1) hn.1
      · exact look_inj hn.2 h1 h2 e
/-- Each region of a list is there, under its name. -/
def HasI (s : AS) (g : Nat → Nat) : List (Nat × (Bool × List AV)) → Prop
  | [] => True
  | (r, c) :: l => s.hp (g r) = some (renR g c) ∧ HasI s g l
def HasO (s : AS) (g : Nat → Nat) : List (Nat × (Bool × List AV)) → Prop
  | [] => True
  | (r, c) :: l => (∃ c0, s.hp (g r) = some c0 ∧ (c0 = renR g c ∨ (c.2 = [] ∧ c0.2 = []))) ∧ HasO s g l
theorem HasI.all {g : Nat → Nat} : ∀ {l : List (Nat × (Bool × List AV))}, HasI s g l → ∀ p ∈ l, s.hp (g p.1) = some (renR g p.2)
  | [], _, _, hp => by simp at hp
  | _ :: _, h, p, hp => by
    rcases List.mem_cons.1 hp with rfl | hp
    · exact h.1
    · exact HasI.all h.2 p hp
theorem HasO.all {g : Nat → Nat} : ∀ {l : List (Nat × (Bool × List AV))}, HasO s g l → ∀ p ∈ l, ∃ c0, s.hp (g p.1) = some c0 ∧ (c0 = renR g p.2 ∨ (p.2.2 = [] ∧ c0.2 = []))
  | [], _, _, hp => by simp at hp
  | _ :: _, h, p, hp => by
    rcases List.mem_cons.1 hp with rfl | hp
    · exact h.1
    · exact HasO.all h.2 p hp
/-- A call that is lent the regions of one list and hands back those of another. -/
theorem m_callR {f : FuncId} {args : List Opd} {asx : List AV} {hl ho : List (Nat × (Bool × List AV))} {res : AV} (g : Nat → Nat) (hs : SpH P f asx (look hl) res (look ho)) (ha : args.map s.ev = renL g asx)
    (hha : ownL true asx = true) (hra : refsL (fun r => (look hl r).isSome) asx = true)
    (hI : HasI s g hl) (hnd : (ho.map fun p => g p.1).Nodup) (hst : ∀ p ∈ hl, p.1 ∈ ho.map (·.1)) (hfr : ∀ p ∈ ho, p.1 ∈ hl.map (·.1) ∨ (s.hp (g p.1) = none ∧ g p.1 < pbase))
    (hoI : ∀ p ∈ hl, ownL true p.2.2 = true ∧ refsL (fun r => (look hl r).isSome) p.2.2 = true) (hoO : ∀ p ∈ ho, ownL false p.2.2 = true) (hoR : ownV false res = true)
    (k : K (AS.put ⟨s.tm, outR s g ho⟩ d (renV g res))) : aop1 P true ⟨d, .call f args, none⟩ s K := by
  have has := hI.all
  refine m_callh g hs ?_ ⟨fun r c hc => has _ (look_mem hc), fun r r' h1 h2 e => look_inj hnd (look_isSome.1 h1) (look_isSome.1 h2) e, fun r hr => ?_, fun r hr hn => ?_, fun r c hc => ?_, fun q hq => ?_, fun r c hc => hoI _ (look_mem hc), fun r c hc => hoO _ (look_mem hc), hoR⟩ k
  · rw [ha]
    exact lendsH_ren (fun r c hc => by rw [has _ (look_mem hc)]; rfl) hha hra
  · obtain ⟨p, hp, rfl⟩ := List.mem_map.1 (look_isSome.1 hr)
    exact look_isSome.2 (hst p hp)
  · obtain ⟨p, hp, rfl⟩ := List.mem_map.1 (look_isSome.1 hr)
    rcases hfr p hp with h1 | h1
    · have := look_isSome.2 h1
      rw [hn] at this
      cases this
    · exact h1
  · show (look _ (g r)).or _ = _
    rw [look_map hnd hc]
    rfl
  · show (look (ho.map fun p => (g p.1, renR g p.2)) q).or _ = _
    have : look (ho.map fun p => (g p.1, renR g p.2)) q = none := by
      cases h : look (ho.map fun p => (g p.1, renR g p.2)) q with
      | none => rfl
      | some c =>
        obtain ⟨p, hp, e⟩ := List.mem_map.1 (look_mem h)
        cases e
        exact absurd rfl (hq p.1 (look_isSome.2 (List.mem_map.2 ⟨p, hp, rfl⟩)))
    rw [this]
    rfl
/-- What is asked of such lists. -/
theorem static_R {hl ho : List (Nat × (Bool × List AV))} {res : AV} (h1 : ∀ p ∈ hl, pbase ≤ p.1) (h2 : ∀ p ∈ ho, ownL false p.2.2 = true ∧ refsL (fun r => (look ho r).isSome) p.2.2 = true) (h3 : ownV false res = true ∧ refsV (fun r => (look ho r).isSome) res = true) : Static (look hl) res (look ho) :=
  ⟨fun r hr => by
    obtain ⟨p, hp, rfl⟩ := List.mem_map.1 (look_isSome.1 hr)
    exact h1 p hp, fun r c hc => h2 _ (look_mem hc), h3⟩
/-- The end of such a function. -/
theorem ret_R {ts : List Nat} {res : AV} {hl ho : List (Nat × (Bool × List AV))} (g : Nat → Nat) (h1 : resAV s ts = renV g res) (hO : HasO s g ho) (h3 : ∀ p ∈ hl, g p.1 = p.1 ∧ p.1 ∈ ho.map (·.1))
    (h4 : ∀ p ∈ ho, p.1 ∈ hl.map (·.1) ∨ g p.1 < pbase) (h5 : (ho.map fun p => g p.1).Nodup) : DoneH ts res (look hl) (look ho) .ret s := by
  have h2 := hO.all
  refine ret_doneh g h1 (fun r c hc => h2 _ (look_mem hc)) (fun r hr => ?_) (fun r hr hn => ?_) fun r r' a b e => look_inj h5 (look_isSome.1 a) (look_isSome.1 b) e
  · obtain ⟨p, hp, rfl⟩ := List.mem_map.1 (look_isSome.1 hr)
    exact ⟨(h3 p hp).1, look_isSome.2 (h3 p hp).2⟩
  · obtain ⟨p, hp, rfl⟩ := List.mem_map.1 (look_isSome.1 hr)
    rcases h4 p hp with k | k
    · have := look_isSome.2 k
      rw [hn] at this
      cases this
    · exact k
/-- Regions under other names; cells that lead nowhere stay asx they are. -/
def HasJ (s : AS) (f : Nat → Nat) : List (Nat × (Bool × List AV)) → Prop
  | [] => True
  | (r, (true, cs)) :: l => s.hp (f r) = some (true, cs) ∧ HasJ s f l
  | (r, (false, cs)) :: l => s.hp (f r) = some (false, renL f cs) ∧ HasJ s f l
theorem HasJ.at {f : Nat → Nat} : ∀ {h : List (Nat × (Bool × List AV))} {r : Nat} {c : Bool × List AV}, HasJ s f h → (r, c) ∈ h → ∃ c0, s.hp (f r) = some c0 ∧ cellsRen f c0 c
  | [], _, _, _, hm => by simp at hm
  | (k, (true, cs)) :: l, r, c, h, hm => by
    rcases List.mem_cons.1 hm with e | hm
    · cases e; exact ⟨_, h.1, .inl ⟨rfl, rfl⟩⟩
    · exact HasJ.at h.2 hm
  | (k, (false, cs)) :: l, r, c, h, hm => by
    rcases List.mem_cons.1 hm with e | hm
    · cases e; exact ⟨_, h.1, .inr ⟨rfl, .inl rfl⟩⟩
    · exact HasJ.at h.2 hm
/-- What is not told is forgotten, and what is told may get other names. -/
theorem weak_stR {l : List (Nat × AV)} {h : List (Nat × (Bool × List AV))} (f : Nat → Nat) (hl : HasF s f l) (hh : HasJ s f h) (hnd : (h.map fun p => f p.1).Nodup) (hpb : ∀ p ∈ h, (p.1 < pbase ∧ f p.1 < pbase) ∨ (pbase ≤ p.1 ∧ f p.1 = p.1))
    (hr : refsT (fun r => (look h r).isSome) l = true) (hrh : refsH (fun r => (look h r).isSome) h = true) : Weak s (st l h) := by
  refine weak_ren f (fun t => ?_) (fun r c' hc => hh.at (look_mem hc)) (fun r r' h1 h2 e => look_inj hnd (look_isSome.1 h1) (look_isSome.1 h2) e) (fun r hr' => ?_) (fun t => ?_) (fun r cs hc => ?_)
  · show (look l t).getD .any = .any ∨ s.tm t = renV f ((look l t).getD .any)
    cases hx : look l t with
    | none => exact .inl rfl
    | some x => exact .inr (look_hasF hl hx)
  · obtain ⟨p, hp, rfl⟩ := List.mem_map.1 (look_isSome.1 hr')
    exact hpb p hp
  · show refsV (fun r => (look h r).isSome) ((look l t).getD .any) = true
    cases hx : look l t with
    | none => rfl
    | some x => exact look_refs hr hx
  · have h1 : (false || refsL (fun r => (look h r).isSome) cs) = true := look_refsH hrh hc
    rw [Bool.false_or] at h1
    exact h1
/-- A loop that is left in many places goes on from one state. -/
def CutQ (R : AS) (Q : Exit → AS → Prop) : Exit → AS → Prop
  | .normal, s => Weak s R
  | e, s => Q e s
theorem AW_cutloop {id : Nat} {c y : ACode} {Q : Exit → AS → Prop} (R : AS) (k : AW P N y R Q) (h : AW P N (.loop c) s (InBlock id (CutQ R Q))) : AW P N (.loop c) s (InBlock id (Then (fun s' => AW P N y s' Q) Q)) := by
  have key : ∀ e s', CutQ R Q e s' → Then (fun s' => AW P N y s' Q) Q e s' := by
    intro e s' he
    cases e <;> first | exact AW_weak he k | exact he
  refine AW_mono h fun e s' he => ?_
  cases e with
  | exit i =>
    simp only [InBlock] at he ⊢
    split at he
    · rename_i hi
      rw [if_pos hi]
      exact key _ _ he
    · rename_i hi
      rw [if_neg hi]
      exact key _ _ he
  | normal => exact key .normal _ he
  | ret => exact key .ret _ he
  | goto l => exact key (.goto l) _ he
  | panic x => exact key (.panic x) _ he
  | outgrown => exact key .outgrown _ he
end Go.Am
