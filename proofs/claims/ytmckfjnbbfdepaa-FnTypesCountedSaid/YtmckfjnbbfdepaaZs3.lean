/- The abstract machine, contracts: part 3 of what this claim needs. -/
import Derived.Test.YtmckfjnbbfdepaaZs2
set_option linter.unusedSectionVars false
namespace Go.Proofs.Ytmckfjnbbfdepaa
variable [Go.Am.CodeBlk]
open Go.Am
def ac3 : ACode := (.seq (.ops [⟨(some 4), (.mov (.c (.bool false))), none⟩]) (.seq (.seq (.ops [⟨(some 87), (.mov (.t 0)), none⟩, ⟨(some 88), (.mov (.t 1)), none⟩, ⟨(some 89), (.call 5 [(.t 87), (.t 88)]), none⟩]) (.cond (.t 89) (.seq (.ops [⟨(some 4), (.mov (.c (.bool true))), none⟩]) .ret) .skip)) (.seq (.ops [⟨(some 90), (.mov (.t 0)), none⟩, ⟨(some 91), (.call 6 [(.t 90)]), none⟩, ⟨(some 5), (.mov (.t 91)), none⟩]) (.seq (.ops [⟨(some 93), (.mov (.t 5)), none⟩, ⟨(some 94), (.call 7 [(.t 93)]), none⟩, ⟨(some 92), (.mov (.t 94)), none⟩, ⟨(some 95), (.ext (.t 92) 0), none⟩, ⟨(some 96), (.ext (.t 92) 1), none⟩, ⟨(some 6), (.mov (.t 95)), none⟩, ⟨(some 7), (.mov (.t 96)), none⟩]) (.seq (.ops [⟨(some 98), (.mov (.t 5)), none⟩, ⟨(some 99), (.call 8 [(.t 98)]), none⟩, ⟨(some 97), (.mov (.t 99)), none⟩, ⟨(some 100), (.ext (.t 97) 0), none⟩, ⟨(some 101), (.ext (.t 97) 1), none⟩, ⟨(some 8), (.mov (.t 100)), none⟩, ⟨(some 9), (.mov (.t 101)), none⟩]) (.seq (.ops [⟨(some 103), (.mov (.t 5)), none⟩, ⟨(some 104), (.call 9 [(.t 103)]), none⟩, ⟨(some 102), (.mov (.t 104)), none⟩, ⟨(some 105), (.ext (.t 102) 0), none⟩, ⟨(some 106), (.ext (.t 102) 1), none⟩, ⟨(some 107), (.ext (.t 102) 2), none⟩, ⟨(some 10), (.mov (.t 105)), none⟩, ⟨(some 11), (.mov (.t 106)), none⟩, ⟨(some 12), (.mov (.t 107)), none⟩]) (.seq (.ops [⟨(some 109), (.mov (.t 5)), none⟩, ⟨(some 110), (.call 10 [(.t 109)]), none⟩, ⟨(some 108), (.mov (.t 110)), none⟩, ⟨(some 111), (.ext (.t 108) 0), none⟩, ⟨(some 112), (.ext (.t 108) 1), none⟩, ⟨(some 113), (.ext (.t 108) 2), none⟩, ⟨(some 13), (.mov (.t 111)), none⟩, ⟨(some 14), (.mov (.t 112)), none⟩, ⟨(some 15), (.mov (.t 113)), none⟩]) (.seq (.ops [⟨(some 115), (.mov (.t 5)), none⟩, ⟨(some 116), (.call 11 [(.t 115)]), none⟩, ⟨(some 114), (.mov (.t 116)), none⟩, ⟨(some 117), (.ext (.t 114) 0), none⟩, ⟨(some 118), (.ext (.t 114) 1), none⟩, ⟨(some 16), (.mov (.t 117)), none⟩, ⟨(some 17), (.mov (.t 118)), none⟩]) (.seq (.ops [⟨(some 120), (.mov (.t 5)), none⟩, ⟨(some 121), (.call 12 [(.t 120)]), none⟩, ⟨(some 119), (.mov (.t 121)), none⟩, ⟨(some 122), (.ext (.t 119) 0), none⟩, ⟨(some 123), (.ext (.t 119) 1), none⟩, ⟨(some 18), (.mov (.t 122)), none⟩, ⟨(some 19), (.mov (.t 123)), none⟩]) (.seq (.ops [⟨(some 125), (.mov (.t 5)), none⟩, ⟨(some 126), (.call 13 [(.t 125)]), none⟩, ⟨(some 124), (.mov (.t 126)), none⟩, ⟨(some 127), (.ext (.t 124) 0), none⟩, ⟨(some 128), (.ext (.t 124) 1), none⟩, ⟨(some 20), (.mov (.t 127)), none⟩, ⟨(some 21), (.mov (.t 128)), none⟩]) (.seq (.ops [⟨(some 130), (.mov (.t 5)), none⟩, ⟨(some 131), (.call 14 [(.t 130)]), none⟩, ⟨(some 129), (.mov (.t 131)), none⟩, ⟨(some 132), (.ext (.t 129) 0), none⟩, ⟨(some 133), (.ext (.t 129) 1), none⟩, ⟨(some 22), (.mov (.t 132)), none⟩, ⟨(some 23), (.mov (.t 133)), none⟩]) (.seq (.seq (.ops [⟨(some 134), (.mov (.t 7)), none⟩, ⟨(some 135), (.mov (.t 9)), none⟩, ⟨(some 136), (.beq true (.t 134) (.t 135)), none⟩, ⟨(some 137), (.mov (.t 136)), none⟩, ⟨(some 138), (.mov (.t 6)), (some (137, false))⟩, ⟨(some 139), (.mov (.t 8)), (some (137, false))⟩, ⟨(some 140), (.call 15 [(.t 138), (.t 139)]), (some (137, false))⟩, ⟨(some 141), (.not (.t 140)), (some (137, false))⟩, ⟨(some 142), (.pick (.t 137) (.c (.bool true)) (.t 141)), none⟩, ⟨(some 143), (.mov (.t 142)), none⟩, ⟨(some 144), (.mov (.t 12)), (some (143, false))⟩, ⟨(some 145), (.mov (.t 15)), (some (143, false))⟩, ⟨(some 146), (.beq true (.t 144) (.t 145)), (some (143, false))⟩, ⟨(some 147), (.pick (.t 143) (.c (.bool true)) (.t 146)), none⟩, ⟨(some 148), (.mov (.t 147)), none⟩, ⟨(some 149), (.mov (.t 10)), (some (148, false))⟩, ⟨(some 150), (.mov (.t 13)), (some (148, false))⟩, ⟨(some 151), (.bin .neq (.t 149) (.t 150)), (some (148, false))⟩, ⟨(some 152), (.pick (.t 148) (.c (.bool true)) (.t 151)), none⟩, ⟨(some 153), (.mov (.t 152)), none⟩, ⟨(some 154), (.mov (.t 11)), (some (153, false))⟩, ⟨(some 155), (.mov (.t 14)), (some (153, false))⟩, ⟨(some 156), (.bin .neq (.t 154) (.t 155)), (some (153, false))⟩, ⟨(some 157), (.pick (.t 153) (.c (.bool true)) (.t 156)), none⟩, ⟨(some 158), (.mov (.t 157)), none⟩, ⟨(some 159), (.mov (.t 17)), (some (158, false))⟩, ⟨(some 160), (.mov (.t 19)), (some (158, false))⟩, ⟨(some 161), (.beq true (.t 159) (.t 160)), (some (158, false))⟩, ⟨(some 162), (.pick (.t 158) (.c (.bool true)) (.t 161)), none⟩, ⟨(some 163), (.mov (.t 162)), none⟩, ⟨(some 164), (.mov (.t 16)), (some (163, false))⟩, ⟨(some 165), (.mov (.t 18)), (some (163, false))⟩, ⟨(some 166), (.bin .neq (.t 164) (.t 165)), (some (163, false))⟩, ⟨(some 167), (.pick (.t 163) (.c (.bool true)) (.t 166)), none⟩, ⟨(some 168), (.mov (.t 167)), none⟩, ⟨(some 169), (.mov (.t 21)), (some (168, false))⟩, ⟨(some 170), (.mov (.t 23)), (some (168, false))⟩, ⟨(some 171), (.beq true (.t 169) (.t 170)), (some (168, false))⟩, ⟨(some 172), (.pick (.t 168) (.c (.bool true)) (.t 171)), none⟩, ⟨(some 173), (.mov (.t 172)), none⟩, ⟨(some 174), (.mov (.t 20)), (some (173, false))⟩, ⟨(some 175), (.mov (.t 22)), (some (173, false))⟩, ⟨(some 176), (.bin .neq (.t 174) (.t 175)), (some (173, false))⟩, ⟨(some 177), (.pick (.t 173) (.c (.bool true)) (.t 176)), none⟩, ⟨(some 178), (.mov (.t 177)), none⟩, ⟨(some 179), (.mov (.t 12)), (some (178, false))⟩, ⟨(some 180), (.mov (.t 7)), (some (178, false))⟩, ⟨(some 181), (.beq true (.t 179) (.t 180)), (some (178, false))⟩, ⟨(some 182), (.pick (.t 178) (.c (.bool true)) (.t 181)), none⟩, ⟨(some 183), (.mov (.t 182)), none⟩, ⟨(some 184), (.mov (.t 17)), (some (183, false))⟩, ⟨(some 185), (.mov (.t 7)), (some (183, false))⟩, ⟨(some 186), (.beq true (.t 184) (.t 185)), (some (183, false))⟩, ⟨(some 187), (.pick (.t 183) (.c (.bool true)) (.t 186)), none⟩, ⟨(some 188), (.mov (.t 187)), none⟩, ⟨(some 189), (.mov (.t 21)), (some (188, false))⟩, ⟨(some 190), (.mov (.t 7)), (some (188, false))⟩, ⟨(some 191), (.beq true (.t 189) (.t 190)), (some (188, false))⟩, ⟨(some 192), (.pick (.t 188) (.c (.bool true)) (.t 191)), none⟩]) (.cond (.t 192) (.seq (.ops [⟨(some 4), (.mov (.c (.bool false))), none⟩]) .ret) .skip)) (.seq (.seq (.ops [⟨(some 193), (.mov (.t 7)), none⟩]) (.cond (.t 193) (.seq (.ops [⟨(some 194), (.mov (.t 5)), none⟩, ⟨(some 195), (.call 16 [(.t 194)]), none⟩, ⟨(some 24), (.mov (.t 195)), none⟩]) (.seq (.ops [⟨(some 25), (.mov (.c (.int .i64 0))), none⟩, ⟨(some 26), (.mov (.c (.int .i64 0))), none⟩, ⟨(some 27), (.mov (.c (.int .i64 0))), none⟩, ⟨(some 28), (.mov (.c (.int .i64 0))), none⟩]) (.seq (.ops [⟨(some 196), (.mov (.t 5)), none⟩, ⟨(some 197), (.bin .add (.t 196) (.c (.int .i64 1))), none⟩, ⟨(some 198), (.mk 1 8 [(.int .i64 0)] (.t 197) (.t 197)), none⟩, ⟨(some 29), (.mov (.t 198)), none⟩]) (.seq (.ops [⟨(some 199), (.mov (.t 5)), none⟩, ⟨(some 200), (.bin .add (.t 199) (.c (.int .i64 1))), none⟩, ⟨(some 201), (.mk 1 8 [(.int .i64 0)] (.t 200) (.t 200)), none⟩, ⟨(some 30), (.mov (.t 201)), none⟩]) (.seq (.ops [⟨(some 202), (.mov (.t 5)), none⟩, ⟨(some 203), (.bin .add (.t 202) (.c (.int .i64 1))), none⟩, ⟨(some 204), (.mk 1 8 [(.int .i64 0)] (.t 203) (.t 203)), none⟩, ⟨(some 31), (.mov (.t 204)), none⟩]) (.seq (.ops [⟨(some 205), (.mov (.t 5)), none⟩, ⟨(some 206), (.bin .add (.t 205) (.c (.int .i64 1))), none⟩, ⟨(some 207), (.mk 1 8 [(.int .i64 0)] (.t 206) (.t 206)), none⟩, ⟨(some 32), (.mov (.t 207)), none⟩]) (.seq (.seq (.ops [⟨(some 208), (.mov (.t 6)), none⟩, ⟨(some 209), (.len (.t 208)), none⟩, ⟨(some 210), (.mov (.c (.int .i64 0))), none⟩]) (.block 0 (.loop (.seq (.ops [⟨(some 211), (.bin .lss (.t 210) (.t 209)), none⟩]) (.seq (.cond (.t 211) .skip (.exit 0)) (.seq (.block 1 (.seq (.ops [⟨(some 212), (.mov (.t 210)), none⟩, ⟨(some 213), (.idx 1 (.t 208) (.t 210)), none⟩, ⟨(some 214), (.ld none (.t 213)), none⟩, ⟨(some 33), (.mov (.t 212)), none⟩, ⟨(some 34), (.mov (.t 214)), none⟩]) (.seq (.ops [⟨(some 216), (.mov (.t 34)), none⟩, ⟨(some 217), (.call 17 [(.t 216)]), none⟩, ⟨(some 215), (.mov (.t 217)), none⟩, ⟨(some 218), (.ext (.t 215) 0), none⟩, ⟨(some 219), (.ext (.t 215) 1), none⟩, ⟨(some 35), (.mov (.t 218)), none⟩, ⟨(some 36), (.mov (.t 219)), none⟩]) (.seq (.ops [⟨(some 221), (.mov (.t 34)), none⟩, ⟨(some 222), (.call 18 [(.t 221)]), none⟩, ⟨(some 220), (.mov (.t 222)), none⟩, ⟨(some 223), (.ext (.t 220) 0), none⟩, ⟨(some 224), (.ext (.t 220) 1), none⟩, ⟨(some 37), (.mov (.t 223)), none⟩, ⟨(some 38), (.mov (.t 224)), none⟩]) (.seq (.seq (.ops [⟨(some 225), (.mov (.t 36)), none⟩, ⟨(some 226), (.not (.t 225)), none⟩, ⟨(some 227), (.mov (.t 226)), none⟩, ⟨(some 228), (.mov (.t 38)), (some (227, false))⟩, ⟨(some 229), (.not (.t 228)), (some (227, false))⟩, ⟨(some 230), (.pick (.t 227) (.c (.bool true)) (.t 229)), none⟩, ⟨(some 231), (.mov (.t 230)), none⟩, ⟨(some 232), (.mov (.t 34)), (some (231, false))⟩, ⟨(some 233), (.call 19 [(.t 232)]), (some (231, false))⟩, ⟨(some 234), (.mov (.t 5)), (some (231, false))⟩, ⟨(some 235), (.bin .neq (.t 233) (.t 234)), (some (231, false))⟩, ⟨(some 236), (.pick (.t 231) (.c (.bool true)) (.t 235)), none⟩, ⟨(some 237), (.mov (.t 236)), none⟩, ⟨(some 238), (.mov (.t 33)), (some (237, false))⟩, ⟨(some 239), (.bin .gtr (.t 238) (.c (.int .i64 0))), (some (237, false))⟩, ⟨(some 240), (.mov (.t 239)), (some (237, false))⟩, ⟨(some 241), (.mov (.t 34)), (some (240, true))⟩, ⟨(some 242), (.mov (.t 6)), (some (240, true))⟩, ⟨(some 243), (.mov (.t 33)), (some (240, true))⟩, ⟨(some 244), (.bin .sub (.t 243) (.c (.int .i64 1))), (some (240, true))⟩, ⟨(some 245), (.idx 1 (.t 242) (.t 244)), (some (240, true))⟩, ⟨(some 246), (.ld none (.t 245)), (some (240, true))⟩, ⟨(some 247), (.call 20 [(.t 241), (.t 246)]), (some (240, true))⟩, ⟨(some 248), (.not (.t 247)), (some (240, true))⟩, ⟨(some 249), (.pick (.t 240) (.t 248) (.c (.bool false))), (some (237, false))⟩, ⟨(some 250), (.pick (.t 237) (.c (.bool true)) (.t 249)), none⟩]) (.cond (.t 250) (.seq (.ops [⟨(some 4), (.mov (.c (.bool false))), none⟩]) .ret) .skip)) (.seq (.ops [⟨(some 251), (.mov (.t 25)), none⟩, ⟨(some 252), (.mov (.t 35)), none⟩, ⟨(some 253), (.bin .add (.t 251) (.t 252)), none⟩, ⟨(some 25), (.mov (.t 253)), none⟩]) (.seq (.ops [⟨(some 254), (.mov (.t 26)), none⟩, ⟨(some 255), (.mov (.t 35)), none⟩, ⟨(some 256), (.mov (.t 34)), none⟩, ⟨(some 257), (.len (.t 256)), none⟩, ⟨(some 258), (.bin .mul (.t 255) (.t 257)), none⟩, ⟨(some 259), (.bin .add (.t 254) (.t 258)), none⟩, ⟨(some 26), (.mov (.t 259)), none⟩]) (.seq (.ops [⟨(some 260), (.mov (.t 29)), none⟩, ⟨(some 261), (.mov (.t 34)), none⟩, ⟨(some 262), (.len (.t 261)), none⟩, ⟨(some 263), (.idx 1 (.t 260) (.t 262)), none⟩, ⟨(some 264), (.ld none (.t 263)), none⟩, ⟨(some 265), (.mov (.t 35)), none⟩, ⟨(some 266), (.bin .add (.t 264) (.t 265)), none⟩, ⟨(some 267), (.idx 1 (.t 260) (.t 262)), none⟩, ⟨none, (.st 1 (.t 267) (.t 266)), none⟩]) (.seq (.ops [⟨(some 268), (.mov (.t 30)), none⟩, ⟨(some 269), (.mov (.t 34)), none⟩, ⟨(some 270), (.idx 1 (.t 269) (.c (.int .i64 0))), none⟩, ⟨(some 271), (.ld none (.t 270)), none⟩, ⟨(some 272), (.idx 1 (.t 268) (.t 271)), none⟩, ⟨(some 273), (.ld none (.t 272)), none⟩, ⟨(some 274), (.mov (.t 35)), none⟩, ⟨(some 275), (.bin .add (.t 273) (.t 274)), none⟩, ⟨(some 276), (.idx 1 (.t 268) (.t 271)), none⟩, ⟨none, (.st 1 (.t 276) (.t 275)), none⟩]) (.seq (.ops [⟨(some 277), (.mov (.t 31)), none⟩, ⟨(some 278), (.mov (.t 34)), none⟩, ⟨(some 279), (.mov (.t 34)), none⟩, ⟨(some 280), (.len (.t 279)), none⟩, ⟨(some 281), (.bin .sub (.t 280) (.c (.int .i64 1))), none⟩, ⟨(some 282), (.idx 1 (.t 278) (.t 281)), none⟩, ⟨(some 283), (.ld none (.t 282)), none⟩, ⟨(some 284), (.idx 1 (.t 277) (.t 283)), none⟩, ⟨(some 285), (.ld none (.t 284)), none⟩, ⟨(some 286), (.mov (.t 35)), none⟩, ⟨(some 287), (.bin .add (.t 285) (.t 286)), none⟩, ⟨(some 288), (.idx 1 (.t 277) (.t 283)), none⟩, ⟨none, (.st 1 (.t 288) (.t 287)), none⟩]) (.seq (.seq (.ops [⟨(some 289), (.mov (.t 34)), none⟩, ⟨(some 290), (.len (.t 289)), none⟩, ⟨(some 291), (.mov (.c (.int .i64 0))), none⟩]) (.block 2 (.loop (.seq (.ops [⟨(some 292), (.bin .lss (.t 291) (.t 290)), none⟩]) (.seq (.cond (.t 292) .skip (.exit 2)) (.seq (.block 3 (.seq (.ops [⟨(some 293), (.idx 1 (.t 289) (.t 291)), none⟩, ⟨(some 294), (.ld none (.t 293)), none⟩, ⟨(some 40), (.mov (.t 294)), none⟩]) (.ops [⟨(some 295), (.mov (.t 32)), none⟩, ⟨(some 296), (.mov (.t 40)), none⟩, ⟨(some 297), (.idx 1 (.t 295) (.t 296)), none⟩, ⟨(some 298), (.ld none (.t 297)), none⟩, ⟨(some 299), (.mov (.t 35)), none⟩, ⟨(some 300), (.bin .add (.t 298) (.t 299)), none⟩, ⟨(some 301), (.idx 1 (.t 295) (.t 296)), none⟩, ⟨none, (.st 1 (.t 301) (.t 300)), none⟩]))) (.ops [⟨(some 302), (.bin .add (.t 291) (.c (.int .i64 1))), none⟩, ⟨(some 291), (.mov (.t 302)), none⟩]))))))) (.seq (.seq (.ops [⟨(some 303), (.mov (.t 34)), none⟩, ⟨(some 304), (.idx 1 (.t 303) (.c (.int .i64 0))), none⟩, ⟨(some 305), (.ld none (.t 304)), none⟩, ⟨(some 306), (.bin .leq (.t 305) (.c (.int .i64 2))), none⟩]) (.cond (.t 306) (.ops [⟨(some 307), (.mov (.t 27)), none⟩, ⟨(some 308), (.mov (.t 35)), none⟩, ⟨(some 309), (.bin .add (.t 307) (.t 308)), none⟩, ⟨(some 27), (.mov (.t 309)), none⟩]) .skip)) (.seq (.ops [⟨(some 310), (.mov (.t 37)), none⟩, ⟨(some 311), (.mov (.t 28)), none⟩, ⟨(some 312), (.bin .gtr (.t 310) (.t 311)), none⟩]) (.cond (.t 312) (.ops [⟨(some 313), (.mov (.t 37)), none⟩, ⟨(some 28), (.mov (.t 313)), none⟩]) .skip)))))))))))))) (.ops [⟨(some 314), (.bin .add (.t 210) (.c (.int .i64 1))), none⟩, ⟨(some 210), (.mov (.t 314)), none⟩]))))))) (.seq (.seq (.ops [⟨(some 315), (.mov (.t 6)), none⟩, ⟨(some 316), (.len (.t 315)), none⟩, ⟨(some 317), (.bin .gtr (.t 316) (.c (.int .i64 77))), none⟩, ⟨(some 318), (.mov (.t 317)), none⟩, ⟨(some 319), (.mov (.t 25)), (some (318, false))⟩, ⟨(some 320), (.mov (.t 24)), (some (318, false))⟩, ⟨(some 321), (.bin .neq (.t 319) (.t 320)), (some (318, false))⟩, ⟨(some 322), (.pick (.t 318) (.c (.bool true)) (.t 321)), none⟩, ⟨(some 323), (.mov (.t 322)), none⟩, ⟨(some 324), (.mov (.t 26)), (some (323, false))⟩, ⟨(some 325), (.mov (.t 11)), (some (323, false))⟩, ⟨(some 326), (.bin .mul (.t 324) (.t 325)), (some (323, false))⟩, ⟨(some 327), (.mov (.t 10)), (some (323, false))⟩, ⟨(some 328), (.mov (.t 24)), (some (323, false))⟩, ⟨(some 329), (.bin .mul (.t 327) (.t 328)), (some (323, false))⟩, ⟨(some 330), (.bin .neq (.t 326) (.t 329)), (some (323, false))⟩, ⟨(some 331), (.pick (.t 323) (.c (.bool true)) (.t 330)), none⟩, ⟨(some 332), (.mov (.t 331)), none⟩, ⟨(some 333), (.mov (.t 27)), (some (332, false))⟩, ⟨(some 334), (.mov (.t 16)), (some (332, false))⟩, ⟨(some 335), (.bin .neq (.t 333) (.t 334)), (some (332, false))⟩, ⟨(some 336), (.pick (.t 332) (.c (.bool true)) (.t 335)), none⟩, ⟨(some 337), (.mov (.t 336)), none⟩, ⟨(some 338), (.mov (.t 28)), (some (337, false))⟩, ⟨(some 339), (.mov (.t 20)), (some (337, false))⟩, ⟨(some 340), (.bin .neq (.t 338) (.t 339)), (some (337, false))⟩, ⟨(some 341), (.pick (.t 337) (.c (.bool true)) (.t 340)), none⟩]) (.cond (.t 341) (.seq (.ops [⟨(some 4), (.mov (.c (.bool false))), none⟩]) .ret) .skip)) (.seq (.ops [⟨(some 41), (.mov (.c (.int .i64 0))), none⟩]) (.block 4 (.loop (.seq (.seq (.ops [⟨(some 342), (.mov (.t 41)), none⟩, ⟨(some 343), (.mov (.t 5)), none⟩, ⟨(some 344), (.bin .leq (.t 342) (.t 343)), none⟩]) (.cond (.t 344) .skip (.exit 4))) (.seq (.block 5 (.seq (.ops [⟨(some 348), (.mov (.t 5)), none⟩, ⟨(some 349), (.mov (.t 41)), none⟩, ⟨(some 350), (.call 21 [(.t 348), (.t 349)]), none⟩, ⟨(some 347), (.mov (.t 350)), none⟩, ⟨(some 351), (.ext (.t 347) 0), none⟩, ⟨(some 352), (.ext (.t 347) 1), none⟩, ⟨(some 42), (.mov (.t 351)), none⟩, ⟨(some 43), (.mov (.t 352)), none⟩]) (.seq (.seq (.ops [⟨(some 353), (.mov (.t 43)), none⟩, ⟨(some 354), (.not (.t 353)), none⟩, ⟨(some 355), (.mov (.t 354)), none⟩, ⟨(some 356), (.mov (.t 42)), (some (355, false))⟩, ⟨(some 357), (.mov (.t 29)), (some (355, false))⟩, ⟨(some 358), (.mov (.t 41)), (some (355, false))⟩, ⟨(some 359), (.idx 1 (.t 357) (.t 358)), (some (355, false))⟩, ⟨(some 360), (.ld none (.t 359)), (some (355, false))⟩, ⟨(some 361), (.bin .neq (.t 356) (.t 360)), (some (355, false))⟩, ⟨(some 362), (.pick (.t 355) (.c (.bool true)) (.t 361)), none⟩]) (.cond (.t 362) (.seq (.ops [⟨(some 4), (.mov (.c (.bool false))), none⟩]) .ret) .skip)) (.seq (.ops [⟨(some 363), (.mov (.t 41)), none⟩, ⟨(some 364), (.bin .gtr (.t 363) (.c (.int .i64 0))), none⟩]) (.cond (.t 364) (.seq (.ops [⟨(some 366), (.mov (.t 5)), none⟩, ⟨(some 367), (.mov (.t 41)), none⟩, ⟨(some 368), (.call 22 [(.t 366), (.t 367)]), none⟩, ⟨(some 365), (.mov (.t 368)), none⟩, ⟨(some 369), (.ext (.t 365) 0), none⟩, ⟨(some 370), (.ext (.t 365) 1), none⟩, ⟨(some 44), (.mov (.t 369)), none⟩, ⟨(some 45), (.mov (.t 370)), none⟩]) (.seq (.ops [⟨(some 372), (.mov (.t 5)), none⟩, ⟨(some 373), (.mov (.t 41)), none⟩, ⟨(some 374), (.call 23 [(.t 372), (.t 373)]), none⟩, ⟨(some 371), (.mov (.t 374)), none⟩, ⟨(some 375), (.ext (.t 371) 0), none⟩, ⟨(some 376), (.ext (.t 371) 1), none⟩, ⟨(some 46), (.mov (.t 375)), none⟩, ⟨(some 47), (.mov (.t 376)), none⟩]) (.seq (.ops [⟨(some 378), (.mov (.t 5)), none⟩, ⟨(some 379), (.mov (.t 41)), none⟩, ⟨(some 380), (.call 24 [(.t 378), (.t 379)]), none⟩, ⟨(some 377), (.mov (.t 380)), none⟩, ⟨(some 381), (.ext (.t 377) 0), none⟩, ⟨(some 382), (.ext (.t 377) 1), none⟩, ⟨(some 383), (.ext (.t 377) 2), none⟩, ⟨(some 48), (.mov (.t 381)), none⟩, ⟨(some 49), (.mov (.t 382)), none⟩, ⟨(some 50), (.mov (.t 383)), none⟩]) (.seq (.ops [⟨(some 384), (.mov (.t 45)), none⟩, ⟨(some 385), (.not (.t 384)), none⟩, ⟨(some 386), (.mov (.t 385)), none⟩, ⟨(some 387), (.mov (.t 44)), (some (386, false))⟩, ⟨(some 388), (.mov (.t 30)), (some (386, false))⟩, ⟨(some 389), (.mov (.t 41)), (some (386, false))⟩, ⟨(some 390), (.idx 1 (.t 388) (.t 389)), (some (386, false))⟩, ⟨(some 391), (.ld none (.t 390)), (some (386, false))⟩, ⟨(some 392), (.bin .neq (.t 387) (.t 391)), (some (386, false))⟩, ⟨(some 393), (.pick (.t 386) (.c (.bool true)) (.t 392)), none⟩, ⟨(some 394), (.mov (.t 393)), none⟩, ⟨(some 395), (.mov (.t 47)), (some (394, false))⟩, ⟨(some 396), (.not (.t 395)), (some (394, false))⟩, ⟨(some 397), (.pick (.t 394) (.c (.bool true)) (.t 396)), none⟩, ⟨(some 398), (.mov (.t 397)), none⟩, ⟨(some 399), (.mov (.t 46)), (some (398, false))⟩, ⟨(some 400), (.mov (.t 31)), (some (398, false))⟩, ⟨(some 401), (.mov (.t 41)), (some (398, false))⟩, ⟨(some 402), (.idx 1 (.t 400) (.t 401)), (some (398, false))⟩, ⟨(some 403), (.ld none (.t 402)), (some (398, false))⟩, ⟨(some 404), (.bin .neq (.t 399) (.t 403)), (some (398, false))⟩, ⟨(some 405), (.pick (.t 398) (.c (.bool true)) (.t 404)), none⟩, ⟨(some 406), (.mov (.t 405)), none⟩, ⟨(some 407), (.mov (.t 50)), (some (406, false))⟩, ⟨(some 408), (.not (.t 407)), (some (406, false))⟩, ⟨(some 409), (.pick (.t 406) (.c (.bool true)) (.t 408)), none⟩, ⟨(some 410), (.mov (.t 409)), none⟩, ⟨(some 411), (.mov (.t 32)), (some (410, false))⟩, ⟨(some 412), (.mov (.t 41)), (some (410, false))⟩, ⟨(some 413), (.idx 1 (.t 411) (.t 412)), (some (410, false))⟩, ⟨(some 414), (.ld none (.t 413)), (some (410, false))⟩, ⟨(some 415), (.mov (.t 49)), (some (410, false))⟩, ⟨(some 416), (.bin .mul (.t 414) (.t 415)), (some (410, false))⟩, ⟨(some 417), (.mov (.t 48)), (some (410, false))⟩, ⟨(some 418), (.mov (.t 24)), (some (410, false))⟩, ⟨(some 419), (.bin .mul (.t 417) (.t 418)), (some (410, false))⟩, ⟨(some 420), (.bin .neq (.t 416) (.t 419)), (some (410, false))⟩, ⟨(some 421), (.pick (.t 410) (.c (.bool true)) (.t 420)), none⟩]) (.cond (.t 421) (.seq (.ops [⟨(some 4), (.mov (.c (.bool false))), none⟩]) .ret) .skip))))) .skip))))) (.ops [⟨(some 345), (.mov (.t 41)), none⟩, ⟨(some 346), (.bin .add (.t 345) (.c (.int .i64 1))), none⟩, ⟨(some 41), (.mov (.t 346)), none⟩])))))))))))))) .skip)) (.seq (.ops [⟨(some 423), (.mov (.t 1)), none⟩, ⟨(some 424), (.call 25 [(.t 423)]), none⟩, ⟨(some 422), (.mov (.t 424)), none⟩, ⟨(some 425), (.ext (.t 422) 0), none⟩, ⟨(some 426), (.ext (.t 422) 1), none⟩, ⟨(some 51), (.mov (.t 425)), none⟩, ⟨(some 52), (.mov (.t 426)), none⟩]) (.seq (.ops [⟨(some 428), (.mov (.t 51)), none⟩, ⟨(some 429), (.mov (.t 52)), none⟩, ⟨(some 430), (.call 22 [(.t 428), (.t 429)]), none⟩, ⟨(some 427), (.mov (.t 430)), none⟩, ⟨(some 431), (.ext (.t 427) 0), none⟩, ⟨(some 432), (.ext (.t 427) 1), none⟩, ⟨(some 53), (.mov (.t 431)), none⟩, ⟨(some 54), (.mov (.t 432)), none⟩]) (.seq (.ops [⟨(some 434), (.mov (.t 51)), none⟩, ⟨(some 435), (.mov (.t 52)), none⟩, ⟨(some 436), (.call 26 [(.t 434), (.t 435)]), none⟩, ⟨(some 433), (.mov (.t 436)), none⟩, ⟨(some 437), (.ext (.t 433) 0), none⟩, ⟨(some 438), (.ext (.t 433) 1), none⟩, ⟨(some 55), (.mov (.t 437)), none⟩, ⟨(some 56), (.mov (.t 438)), none⟩]) (.seq (.ops [⟨(some 440), (.mov (.t 51)), none⟩, ⟨(some 441), (.mov (.t 52)), none⟩, ⟨(some 442), (.call 23 [(.t 440), (.t 441)]), none⟩, ⟨(some 439), (.mov (.t 442)), none⟩, ⟨(some 443), (.ext (.t 439) 0), none⟩, ⟨(some 444), (.ext (.t 439) 1), none⟩, ⟨(some 57), (.mov (.t 443)), none⟩, ⟨(some 58), (.mov (.t 444)), none⟩]) (.seq (.ops [⟨(some 446), (.mov (.t 51)), none⟩, ⟨(some 447), (.mov (.t 52)), none⟩, ⟨(some 448), (.call 27 [(.t 446), (.t 447)]), none⟩, ⟨(some 445), (.mov (.t 448)), none⟩, ⟨(some 449), (.ext (.t 445) 0), none⟩, ⟨(some 450), (.ext (.t 445) 1), none⟩, ⟨(some 59), (.mov (.t 449)), none⟩, ⟨(some 60), (.mov (.t 450)), none⟩]) (.seq (.ops [⟨(some 452), (.mov (.t 51)), none⟩, ⟨(some 453), (.mov (.t 52)), none⟩, ⟨(some 454), (.call 21 [(.t 452), (.t 453)]), none⟩, ⟨(some 451), (.mov (.t 454)), none⟩, ⟨(some 455), (.ext (.t 451) 0), none⟩, ⟨(some 456), (.ext (.t 451) 1), none⟩, ⟨(some 61), (.mov (.t 455)), none⟩, ⟨(some 62), (.mov (.t 456)), none⟩]) (.seq (.ops [⟨(some 458), (.mov (.t 51)), none⟩, ⟨(some 459), (.mov (.t 52)), none⟩, ⟨(some 460), (.call 28 [(.t 458), (.t 459)]), none⟩, ⟨(some 457), (.mov (.t 460)), none⟩, ⟨(some 461), (.ext (.t 457) 0), none⟩, ⟨(some 462), (.ext (.t 457) 1), none⟩, ⟨(some 63), (.mov (.t 461)), none⟩, ⟨(some 64), (.mov (.t 462)), none⟩]) (.seq (.ops [⟨(some 464), (.mov (.t 51)), none⟩, ⟨(some 465), (.mov (.t 52)), none⟩, ⟨(some 466), (.call 29 [(.t 464), (.t 465)]), none⟩, ⟨(some 463), (.mov (.t 466)), none⟩, ⟨(some 467), (.ext (.t 463) 0), none⟩, ⟨(some 468), (.ext (.t 463) 1), none⟩, ⟨(some 469), (.ext (.t 463) 2), none⟩, ⟨(some 65), (.mov (.t 467)), none⟩, ⟨(some 66), (.mov (.t 468)), none⟩, ⟨(some 67), (.mov (.t 469)), none⟩]) (.seq (.ops [⟨(some 471), (.mov (.t 51)), none⟩, ⟨(some 472), (.mov (.t 52)), none⟩, ⟨(some 473), (.call 30 [(.t 471), (.t 472)]), none⟩, ⟨(some 470), (.mov (.t 473)), none⟩, ⟨(some 474), (.ext (.t 470) 0), none⟩, ⟨(some 475), (.ext (.t 470) 1), none⟩, ⟨(some 476), (.ext (.t 470) 2), none⟩, ⟨(some 68), (.mov (.t 474)), none⟩, ⟨(some 69), (.mov (.t 475)), none⟩, ⟨(some 70), (.mov (.t 476)), none⟩]) (.seq (.ops [⟨(some 478), (.mov (.t 51)), none⟩, ⟨(some 479), (.mov (.t 52)), none⟩, ⟨(some 480), (.call 24 [(.t 478), (.t 479)]), none⟩, ⟨(some 477), (.mov (.t 480)), none⟩, ⟨(some 481), (.ext (.t 477) 0), none⟩, ⟨(some 482), (.ext (.t 477) 1), none⟩, ⟨(some 483), (.ext (.t 477) 2), none⟩, ⟨(some 71), (.mov (.t 481)), none⟩, ⟨(some 72), (.mov (.t 482)), none⟩, ⟨(some 73), (.mov (.t 483)), none⟩]) (.seq (.ops [⟨(some 485), (.mov (.t 51)), none⟩, ⟨(some 486), (.mov (.t 52)), none⟩, ⟨(some 487), (.call 31 [(.t 485), (.t 486)]), none⟩, ⟨(some 484), (.mov (.t 487)), none⟩, ⟨(some 488), (.ext (.t 484) 0), none⟩, ⟨(some 489), (.ext (.t 484) 1), none⟩, ⟨(some 490), (.ext (.t 484) 2), none⟩, ⟨(some 74), (.mov (.t 488)), none⟩, ⟨(some 75), (.mov (.t 489)), none⟩, ⟨(some 76), (.mov (.t 490)), none⟩]) (.seq (.ops [⟨(some 492), (.mov (.t 1)), none⟩, ⟨(some 493), (.call 32 [(.t 492)]), none⟩, ⟨(some 491), (.mov (.t 493)), none⟩, ⟨(some 494), (.ext (.t 491) 0), none⟩, ⟨(some 495), (.ext (.t 491) 1), none⟩, ⟨(some 77), (.mov (.t 494)), none⟩, ⟨(some 78), (.mov (.t 495)), none⟩]) (.seq (.ops [⟨(some 497), (.mov (.t 77)), none⟩, ⟨(some 498), (.mov (.t 78)), none⟩, ⟨(some 499), (.call 33 [(.t 497), (.t 498)]), none⟩, ⟨(some 496), (.mov (.t 499)), none⟩, ⟨(some 500), (.ext (.t 496) 0), none⟩, ⟨(some 501), (.ext (.t 496) 1), none⟩, ⟨(some 79), (.mov (.t 500)), none⟩, ⟨(some 80), (.mov (.t 501)), none⟩]) (.seq (.ops [⟨(some 503), (.mov (.t 77)), none⟩, ⟨(some 504), (.mov (.t 78)), none⟩, ⟨(some 505), (.call 34 [(.t 503), (.t 504)]), none⟩, ⟨(some 502), (.mov (.t 505)), none⟩, ⟨(some 506), (.ext (.t 502) 0), none⟩, ⟨(some 507), (.ext (.t 502) 1), none⟩, ⟨(some 81), (.mov (.t 506)), none⟩, ⟨(some 82), (.mov (.t 507)), none⟩]) (.seq (.seq (.ops [⟨(some 508), (.mov (.t 54)), none⟩, ⟨(some 509), (.mov (.t 56)), none⟩, ⟨(some 510), (.beq true (.t 508) (.t 509)), none⟩, ⟨(some 511), (.mov (.t 510)), none⟩, ⟨(some 512), (.mov (.t 53)), (some (511, false))⟩, ⟨(some 513), (.mov (.t 55)), (some (511, false))⟩, ⟨(some 514), (.bin .neq (.t 512) (.t 513)), (some (511, false))⟩, ⟨(some 515), (.pick (.t 511) (.c (.bool true)) (.t 514)), none⟩, ⟨(some 516), (.mov (.t 515)), none⟩, ⟨(some 517), (.mov (.t 58)), (some (516, false))⟩, ⟨(some 518), (.mov (.t 60)), (some (516, false))⟩, ⟨(some 519), (.beq true (.t 517) (.t 518)), (some (516, false))⟩, ⟨(some 520), (.pick (.t 516) (.c (.bool true)) (.t 519)), none⟩, ⟨(some 521), (.mov (.t 520)), none⟩, ⟨(some 522), (.mov (.t 57)), (some (521, false))⟩, ⟨(some 523), (.mov (.t 59)), (some (521, false))⟩, ⟨(some 524), (.bin .neq (.t 522) (.t 523)), (some (521, false))⟩, ⟨(some 525), (.pick (.t 521) (.c (.bool true)) (.t 524)), none⟩, ⟨(some 526), (.mov (.t 525)), none⟩, ⟨(some 527), (.mov (.t 62)), (some (526, false))⟩, ⟨(some 528), (.mov (.t 64)), (some (526, false))⟩, ⟨(some 529), (.beq true (.t 527) (.t 528)), (some (526, false))⟩, ⟨(some 530), (.pick (.t 526) (.c (.bool true)) (.t 529)), none⟩, ⟨(some 531), (.mov (.t 530)), none⟩, ⟨(some 532), (.mov (.t 61)), (some (531, false))⟩, ⟨(some 533), (.mov (.t 63)), (some (531, false))⟩, ⟨(some 534), (.bin .neq (.t 532) (.t 533)), (some (531, false))⟩, ⟨(some 535), (.pick (.t 531) (.c (.bool true)) (.t 534)), none⟩, ⟨(some 536), (.mov (.t 535)), none⟩, ⟨(some 537), (.mov (.t 67)), (some (536, false))⟩, ⟨(some 538), (.mov (.t 70)), (some (536, false))⟩, ⟨(some 539), (.beq true (.t 537) (.t 538)), (some (536, false))⟩, ⟨(some 540), (.pick (.t 536) (.c (.bool true)) (.t 539)), none⟩, ⟨(some 541), (.mov (.t 540)), none⟩, ⟨(some 542), (.mov (.t 65)), (some (541, false))⟩, ⟨(some 543), (.mov (.t 68)), (some (541, false))⟩, ⟨(some 544), (.bin .neq (.t 542) (.t 543)), (some (541, false))⟩, ⟨(some 545), (.pick (.t 541) (.c (.bool true)) (.t 544)), none⟩, ⟨(some 546), (.mov (.t 545)), none⟩, ⟨(some 547), (.mov (.t 66)), (some (546, false))⟩, ⟨(some 548), (.mov (.t 69)), (some (546, false))⟩, ⟨(some 549), (.bin .neq (.t 547) (.t 548)), (some (546, false))⟩, ⟨(some 550), (.pick (.t 546) (.c (.bool true)) (.t 549)), none⟩, ⟨(some 551), (.mov (.t 550)), none⟩, ⟨(some 552), (.mov (.t 73)), (some (551, false))⟩, ⟨(some 553), (.mov (.t 76)), (some (551, false))⟩, ⟨(some 554), (.beq true (.t 552) (.t 553)), (some (551, false))⟩, ⟨(some 555), (.pick (.t 551) (.c (.bool true)) (.t 554)), none⟩, ⟨(some 556), (.mov (.t 555)), none⟩, ⟨(some 557), (.mov (.t 71)), (some (556, false))⟩, ⟨(some 558), (.mov (.t 74)), (some (556, false))⟩, ⟨(some 559), (.bin .neq (.t 557) (.t 558)), (some (556, false))⟩, ⟨(some 560), (.pick (.t 556) (.c (.bool true)) (.t 559)), none⟩, ⟨(some 561), (.mov (.t 560)), none⟩, ⟨(some 562), (.mov (.t 72)), (some (561, false))⟩, ⟨(some 563), (.mov (.t 75)), (some (561, false))⟩, ⟨(some 564), (.bin .neq (.t 562) (.t 563)), (some (561, false))⟩, ⟨(some 565), (.pick (.t 561) (.c (.bool true)) (.t 564)), none⟩, ⟨(some 566), (.mov (.t 565)), none⟩, ⟨(some 567), (.mov (.t 80)), (some (566, false))⟩, ⟨(some 568), (.mov (.t 82)), (some (566, false))⟩, ⟨(some 569), (.beq true (.t 567) (.t 568)), (some (566, false))⟩, ⟨(some 570), (.pick (.t 566) (.c (.bool true)) (.t 569)), none⟩, ⟨(some 571), (.mov (.t 570)), none⟩, ⟨(some 572), (.mov (.t 79)), (some (571, false))⟩, ⟨(some 573), (.mov (.t 81)), (some (571, false))⟩, ⟨(some 574), (.bin .neq (.t 572) (.t 573)), (some (571, false))⟩, ⟨(some 575), (.pick (.t 571) (.c (.bool true)) (.t 574)), none⟩]) (.cond (.t 575) (.seq (.ops [⟨(some 4), (.mov (.c (.bool false))), none⟩]) .ret) .skip)) (.seq (.seq (.ops [⟨(some 576), (.mov (.t 54)), none⟩]) (.cond (.t 576) (.seq (.ops [⟨(some 578), (.mov (.t 51)), none⟩, ⟨(some 579), (.mov (.t 52)), none⟩, ⟨(some 580), (.bin .sub (.t 579) (.c (.int .i64 1))), none⟩, ⟨(some 581), (.call 29 [(.t 578), (.t 580)]), none⟩, ⟨(some 577), (.mov (.t 581)), none⟩, ⟨(some 582), (.ext (.t 577) 0), none⟩, ⟨(some 583), (.ext (.t 577) 1), none⟩, ⟨(some 584), (.ext (.t 577) 2), none⟩, ⟨(some 83), (.mov (.t 582)), none⟩, ⟨(some 84), (.mov (.t 583)), none⟩, ⟨(some 85), (.mov (.t 584)), none⟩]) (.seq (.ops [⟨(some 585), (.mov (.t 51)), none⟩, ⟨(some 586), (.call 16 [(.t 585)]), none⟩, ⟨(some 86), (.mov (.t 586)), none⟩]) (.seq (.tree (.take ⟨(some 587), (.mov (.t 67)), none⟩ (.take ⟨(some 588), (.mov (.t 587)), none⟩ (.take ⟨(some 589), (.mov (.t 85)), (some (588, true))⟩ (.take ⟨(some 590), (.pick (.t 588) (.t 589) (.c (.bool false))), none⟩ (.take ⟨(some 591), (.mov (.t 590)), none⟩ (.take ⟨(some 592), (.mov (.t 86)), (some (591, true))⟩ (.take ⟨(some 593), (.mov (.t 66)), (some (591, true))⟩ (.take ⟨(some 594), (.bin .rem (.t 592) (.t 593)), (some (591, true))⟩ (.take ⟨(some 595), (.bin .eql (.t 594) (.c (.int .i64 0))), (some (591, true))⟩ (.take ⟨(some 596), (.pick (.t 591) (.t 595) (.c (.bool false))), none⟩ (.take ⟨(some 597), (.mov (.t 596)), none⟩ (.take ⟨(some 598), (.mov (.t 86)), (some (597, true))⟩ (.take ⟨(some 599), (.mov (.t 84)), (some (597, true))⟩ (.take ⟨(some 600), (.bin .rem (.t 598) (.t 599)), (some (597, true))⟩ (.take ⟨(some 601), (.bin .eql (.t 600) (.c (.int .i64 0))), (some (597, true))⟩ (.take ⟨(some 602), (.pick (.t 597) (.t 601) (.c (.bool false))), none⟩ (.take ⟨(some 603), (.mov (.t 602)), none⟩ (.take ⟨(some 604), (.mov (.t 65)), (some (603, true))⟩ (.take ⟨(some 605), (.mov (.t 86)), (some (603, true))⟩ (.take ⟨(some 606), (.mov (.t 66)), (some (603, true))⟩ (.take ⟨(some 607), (.bin .quo (.t 605) (.t 606)), (some (603, true))⟩ (.take ⟨(some 608), (.bin .mul (.t 604) (.t 607)), (some (603, true))⟩ (.take ⟨(some 609), (.mov (.t 83)), (some (603, true))⟩ (.take ⟨(some 610), (.mov (.t 86)), (some (603, true))⟩ (.take ⟨(some 611), (.mov (.t 84)), (some (603, true))⟩ (.take ⟨(some 612), (.bin .quo (.t 610) (.t 611)), (some (603, true))⟩ (.take ⟨(some 613), (.bin .mul (.t 609) (.t 612)), (some (603, true))⟩ (.take ⟨(some 614), (.bin .sub (.t 608) (.t 613)), (some (603, true))⟩ (.take ⟨(some 615), (.mov (.t 53)), (some (603, true))⟩ (.take ⟨(some 616), (.bin .eql (.t 614) (.t 615)), (some (603, true))⟩ (.take ⟨(some 617), (.pick (.t 603) (.t 616) (.c (.bool false))), none⟩ (.take ⟨(some 4), (.mov (.t 617)), none⟩ .done))))))))))))))))))))))))))))))))) .ret))) .skip)) (.seq (.ops [⟨(some 4), (.mov (.c (.bool true))), none⟩]) .ret))))))))))))))))))))))))))))))
theorem cc3 : ccode Try.prog (min Try.f3.ntmps pbase) (Try.f3.body.getD .skip) = some ac3 := by kernel_rfl
def ac5 : ACode := (.seq (.ops [⟨(some 4), (.mov (.c (.bool false))), none⟩]) (.seq (.ops [⟨(some 5), (.mov (.t 0)), none⟩, ⟨(some 6), (.len (.t 5)), none⟩, ⟨(some 7), (.bin .gtr (.t 6) (.c (.int .i64 1048576))), none⟩, ⟨(some 8), (.mov (.t 7)), none⟩, ⟨(some 9), (.mov (.t 1)), (some (8, false))⟩, ⟨(some 10), (.len (.t 9)), (some (8, false))⟩, ⟨(some 11), (.mov (.t 0)), (some (8, false))⟩, ⟨(some 12), (.len (.t 11)), (some (8, false))⟩, ⟨(some 13), (.bin .sub (.c (.int .i64 1048576)) (.t 12)), (some (8, false))⟩, ⟨(some 14), (.bin .gtr (.t 10) (.t 13)), (some (8, false))⟩, ⟨(some 15), (.pick (.t 8) (.c (.bool true)) (.t 14)), none⟩, ⟨(some 4), (.mov (.t 15)), none⟩]) .ret))
theorem cc5 : ccode Try.prog (min Try.f5.ntmps pbase) (Try.f5.body.getD .skip) = some ac5 := by kernel_rfl
def ac6 : ACode := (.seq (.ops [⟨(some 2), (.mov (.c (.int .i64 0))), none⟩]) (.seq (.ops [⟨(some 3), (.mov (.t 0)), none⟩, ⟨(some 4), (.call 35 [(.t 3)]), none⟩, ⟨(some 2), (.mov (.t 4)), none⟩]) .ret))
theorem cc6 : ccode Try.prog (min Try.f6.ntmps pbase) (Try.f6.body.getD .skip) = some ac6 := by kernel_rfl
def ac7 : ACode := (.seq (.ops [⟨(some 2), (.nils 1), none⟩, ⟨(some 3), (.mov (.c (.bool false))), none⟩]) (.seq (.seq (.ops [⟨(some 4), (.mov (.t 0)), none⟩, ⟨(some 5), (.call 36 [(.t 4)]), none⟩, ⟨(some 6), (.not (.t 5)), none⟩]) (.cond (.t 6) (.seq (.ops [⟨(some 2), (.nils 1), none⟩, ⟨(some 3), (.mov (.c (.bool false))), none⟩]) .ret) .skip)) (.seq (.ops [⟨(some 7), (.mov (.t 0)), none⟩, ⟨(some 8), (.call 37 [(.t 7)]), none⟩, ⟨(some 2), (.mov (.t 8)), none⟩, ⟨(some 3), (.mov (.c (.bool true))), none⟩]) .ret)))
theorem cc7 : ccode Try.prog (min Try.f7.ntmps pbase) (Try.f7.body.getD .skip) = some ac7 := by kernel_rfl
def ac8 : ACode := (.seq (.ops [⟨(some 2), (.nils 1), none⟩, ⟨(some 3), (.mov (.c (.bool false))), none⟩]) (.seq (.seq (.ops [⟨(some 4), (.mov (.t 0)), none⟩, ⟨(some 5), (.call 38 [(.t 4)]), none⟩, ⟨(some 6), (.not (.t 5)), none⟩]) (.cond (.t 6) (.seq (.ops [⟨(some 2), (.nils 1), none⟩, ⟨(some 3), (.mov (.c (.bool false))), none⟩]) .ret) .skip)) (.seq (.ops [⟨(some 7), (.mov (.t 0)), none⟩, ⟨(some 8), (.mov (.t 0)), none⟩, ⟨(some 9), (.call 39 [(.t 7), (.t 8)]), none⟩, ⟨(some 2), (.mov (.t 9)), none⟩, ⟨(some 3), (.mov (.c (.bool true))), none⟩]) .ret)))
theorem cc8 : ccode Try.prog (min Try.f8.ntmps pbase) (Try.f8.body.getD .skip) = some ac8 := by kernel_rfl
def ac9 : ACode := (.seq (.ops [⟨(some 2), (.mov (.c (.int .i64 0))), none⟩, ⟨(some 3), (.mov (.c (.int .i64 0))), none⟩, ⟨(some 4), (.mov (.c (.bool false))), none⟩]) (.seq (.seq (.ops [⟨(some 7), (.mov (.t 0)), none⟩, ⟨(some 8), (.call 36 [(.t 7)]), none⟩, ⟨(some 9), (.not (.t 8)), none⟩]) (.cond (.t 9) (.seq (.ops [⟨(some 2), (.mov (.c (.int .i64 0))), none⟩, ⟨(some 3), (.mov (.c (.int .i64 0))), none⟩, ⟨(some 4), (.mov (.c (.bool false))), none⟩]) .ret) .skip)) (.seq (.ops [⟨(some 10), (.call 40 [(.c (.int .i64 0)), (.c (.int .i64 1))]), none⟩, ⟨(some 5), (.alloc [(.int .i64 0), (.int .i64 0)]), none⟩, ⟨none, (.st 2 (.t 5) (.t 10)), none⟩]) (.seq (.seq (.ops [⟨(some 6), (.mov (.c (.int .i64 1))), none⟩]) (.block 0 (.loop (.seq (.seq (.ops [⟨(some 11), (.mov (.t 6)), none⟩, ⟨(some 12), (.mov (.t 0)), none⟩, ⟨(some 13), (.bin .leq (.t 11) (.t 12)), none⟩]) (.cond (.t 13) .skip (.exit 0))) (.seq (.block 1 (.tree (.take ⟨(some 16), (.ld (some 2) (.t 5)), none⟩ (.take ⟨(some 17), (.mov (.t 6)), none⟩ (.take ⟨(some 18), (.call 42 [(.t 17)]), none⟩ (.take ⟨(some 19), (.call 41 [(.t 16), (.t 18)]), none⟩ (.take ⟨none, (.st 2 (.t 5) (.t 19)), none⟩ .done))))))) (.ops [⟨(some 14), (.mov (.t 6)), none⟩, ⟨(some 15), (.bin .add (.t 14) (.c (.int .i64 1))), none⟩, ⟨(some 6), (.mov (.t 15)), none⟩])))))) (.seq (.ops [⟨(some 20), (.ld (some 2) (.t 5)), none⟩, ⟨(some 21), (.call 43 [(.t 20)]), none⟩, ⟨(some 22), (.ext (.t 21) 0), none⟩, ⟨(some 23), (.ext (.t 21) 1), none⟩, ⟨(some 24), (.ext (.t 21) 2), none⟩, ⟨(some 2), (.mov (.t 22)), none⟩, ⟨(some 3), (.mov (.t 23)), none⟩, ⟨(some 4), (.mov (.t 24)), none⟩]) .ret)))))
theorem cc9 : ccode Try.prog (min Try.f9.ntmps pbase) (Try.f9.body.getD .skip) = some ac9 := by kernel_rfl
def ac10 : ACode := (.seq (.ops [⟨(some 2), (.mov (.c (.int .i64 0))), none⟩, ⟨(some 3), (.mov (.c (.int .i64 0))), none⟩, ⟨(some 4), (.mov (.c (.bool false))), none⟩]) (.seq (.seq (.ops [⟨(some 8), (.mov (.t 0)), none⟩, ⟨(some 9), (.call 38 [(.t 8)]), none⟩, ⟨(some 10), (.not (.t 9)), none⟩]) (.cond (.t 10) (.seq (.ops [⟨(some 2), (.mov (.c (.int .i64 0))), none⟩, ⟨(some 3), (.mov (.c (.int .i64 0))), none⟩, ⟨(some 4), (.mov (.c (.bool false))), none⟩]) .ret) .skip)) (.seq (.ops [⟨(some 5), (.mov (.c (.int .i64 0))), none⟩, ⟨(some 6), (.mov (.c (.int .i64 1))), none⟩]) (.seq (.seq (.ops [⟨(some 7), (.mov (.c (.int .i64 1))), none⟩]) (.block 0 (.loop (.seq (.seq (.ops [⟨(some 11), (.mov (.t 7)), none⟩, ⟨(some 12), (.mov (.t 0)), none⟩, ⟨(some 13), (.bin .leq (.t 11) (.t 12)), none⟩]) (.cond (.t 13) .skip (.exit 0))) (.seq (.block 1 (.ops [⟨(some 17), (.mov (.t 5)), none⟩, ⟨(some 18), (.mov (.t 7)), none⟩, ⟨(some 19), (.bin .mul (.t 17) (.t 18)), none⟩, ⟨(some 20), (.mov (.t 6)), none⟩, ⟨(some 21), (.bin .add (.t 19) (.t 20)), none⟩, ⟨(some 22), (.mov (.t 6)), none⟩, ⟨(some 23), (.mov (.t 7)), none⟩, ⟨(some 24), (.bin .mul (.t 22) (.t 23)), none⟩, ⟨(some 25), (.call 44 [(.t 21), (.t 24)]), none⟩, ⟨(some 16), (.mov (.t 25)), none⟩, ⟨(some 26), (.ext (.t 16) 0), none⟩, ⟨(some 27), (.ext (.t 16) 1), none⟩, ⟨(some 5), (.mov (.t 26)), none⟩, ⟨(some 6), (.mov (.t 27)), none⟩])) (.ops [⟨(some 14), (.mov (.t 7)), none⟩, ⟨(some 15), (.bin .add (.t 14) (.c (.int .i64 1))), none⟩, ⟨(some 7), (.mov (.t 15)), none⟩])))))) (.seq (.ops [⟨(some 28), (.mov (.t 5)), none⟩, ⟨(some 29), (.mov (.t 6)), none⟩, ⟨(some 2), (.mov (.t 28)), none⟩, ⟨(some 3), (.mov (.t 29)), none⟩, ⟨(some 4), (.mov (.c (.bool true))), none⟩]) .ret)))))
theorem cc10 : ccode Try.prog (min Try.f10.ntmps pbase) (Try.f10.body.getD .skip) = some ac10 := by kernel_rfl
def ac11 : ACode := (.seq (.ops [⟨(some 2), (.mov (.c (.int .i64 0))), none⟩, ⟨(some 3), (.mov (.c (.bool false))), none⟩]) (.seq (.seq (.ops [⟨(some 4), (.mov (.t 0)), none⟩, ⟨(some 5), (.call 36 [(.t 4)]), none⟩, ⟨(some 6), (.not (.t 5)), none⟩]) (.cond (.t 6) (.seq (.ops [⟨(some 2), (.mov (.c (.int .i64 0))), none⟩, ⟨(some 3), (.mov (.c (.bool false))), none⟩]) .ret) .skip)) (.seq (.ops [⟨(some 7), (.mov (.t 0)), none⟩, ⟨(some 8), (.call 45 [(.t 7), (.c (.int .i64 1)), (.c (.int .i64 2))]), none⟩, ⟨(some 2), (.mov (.t 8)), none⟩, ⟨(some 3), (.mov (.c (.bool true))), none⟩]) .ret)))
theorem cc11 : ccode Try.prog (min Try.f11.ntmps pbase) (Try.f11.body.getD .skip) = some ac11 := by kernel_rfl
def ac12 : ACode := (.seq (.ops [⟨(some 2), (.mov (.c (.int .i64 0))), none⟩, ⟨(some 3), (.mov (.c (.bool false))), none⟩]) (.seq (.seq (.ops [⟨(some 4), (.mov (.t 0)), none⟩, ⟨(some 5), (.call 38 [(.t 4)]), none⟩, ⟨(some 6), (.not (.t 5)), none⟩]) (.cond (.t 6) (.seq (.ops [⟨(some 2), (.mov (.c (.int .i64 0))), none⟩, ⟨(some 3), (.mov (.c (.bool false))), none⟩]) .ret) .skip)) (.seq (.ops [⟨(some 7), (.mov (.t 0)), none⟩, ⟨(some 8), (.call 46 [(.t 7), (.c (.int .i64 2))]), none⟩, ⟨(some 2), (.mov (.t 8)), none⟩, ⟨(some 3), (.mov (.c (.bool true))), none⟩]) .ret)))
theorem cc12 : ccode Try.prog (min Try.f12.ntmps pbase) (Try.f12.body.getD .skip) = some ac12 := by kernel_rfl
def ac13 : ACode := (.seq (.ops [⟨(some 2), (.mov (.c (.int .i64 0))), none⟩, ⟨(some 3), (.mov (.c (.bool false))), none⟩]) (.seq (.seq (.ops [⟨(some 7), (.mov (.t 0)), none⟩, ⟨(some 8), (.call 36 [(.t 7)]), none⟩, ⟨(some 9), (.not (.t 8)), none⟩]) (.cond (.t 9) (.seq (.ops [⟨(some 2), (.mov (.c (.int .i64 0))), none⟩, ⟨(some 3), (.mov (.c (.bool false))), none⟩]) .ret) .skip)) (.seq (.ops [⟨(some 4), (.mov (.c (.int .i64 0))), none⟩]) (.seq (.seq (.ops [⟨(some 10), (.mov (.t 0)), none⟩, ⟨(some 11), (.call 37 [(.t 10)]), none⟩, ⟨(some 12), (.len (.t 11)), none⟩, ⟨(some 13), (.mov (.c (.int .i64 0))), none⟩]) (.block 0 (.loop (.seq (.ops [⟨(some 14), (.bin .lss (.t 13) (.t 12)), none⟩]) (.seq (.cond (.t 14) .skip (.exit 0)) (.seq (.block 1 (.seq (.ops [⟨(some 15), (.idx 1 (.t 11) (.t 13)), none⟩, ⟨(some 16), (.ld none (.t 15)), none⟩, ⟨(some 6), (.mov (.t 16)), none⟩]) (.ops [⟨(some 17), (.mov (.t 4)), none⟩, ⟨(some 18), (.mov (.t 6)), none⟩, ⟨(some 19), (.call 47 [(.t 18)]), none⟩, ⟨(some 20), (.pu (.mm true) [(.t 17), (.t 19)]), none⟩, ⟨(some 4), (.mov (.t 20)), none⟩]))) (.ops [⟨(some 21), (.bin .add (.t 13) (.c (.int .i64 1))), none⟩, ⟨(some 13), (.mov (.t 21)), none⟩]))))))) (.seq (.ops [⟨(some 22), (.mov (.t 4)), none⟩, ⟨(some 2), (.mov (.t 22)), none⟩, ⟨(some 3), (.mov (.c (.bool true))), none⟩]) .ret)))))
theorem cc13 : ccode Try.prog (min Try.f13.ntmps pbase) (Try.f13.body.getD .skip) = some ac13 := by kernel_rfl
def ac14 : ACode := (.seq (.ops [⟨(some 2), (.mov (.c (.int .i64 0))), none⟩, ⟨(some 3), (.mov (.c (.bool false))), none⟩]) (.seq (.seq (.ops [⟨(some 7), (.mov (.t 0)), none⟩, ⟨(some 8), (.call 38 [(.t 7)]), none⟩, ⟨(some 9), (.not (.t 8)), none⟩]) (.cond (.t 9) (.seq (.ops [⟨(some 2), (.mov (.c (.int .i64 0))), none⟩, ⟨(some 3), (.mov (.c (.bool false))), none⟩]) .ret) .skip)) (.seq (.ops [⟨(some 4), (.mov (.c (.int .i64 0))), none⟩]) (.seq (.seq (.ops [⟨(some 10), (.mov (.t 0)), none⟩, ⟨(some 11), (.mov (.t 0)), none⟩, ⟨(some 12), (.call 39 [(.t 10), (.t 11)]), none⟩, ⟨(some 13), (.len (.t 12)), none⟩, ⟨(some 14), (.mov (.c (.int .i64 0))), none⟩]) (.block 0 (.loop (.seq (.ops [⟨(some 15), (.bin .lss (.t 14) (.t 13)), none⟩]) (.seq (.cond (.t 15) .skip (.exit 0)) (.seq (.block 1 (.seq (.ops [⟨(some 16), (.idx 1 (.t 12) (.t 14)), none⟩, ⟨(some 17), (.ld none (.t 16)), none⟩, ⟨(some 6), (.mov (.t 17)), none⟩]) (.ops [⟨(some 18), (.mov (.t 4)), none⟩, ⟨(some 19), (.mov (.t 6)), none⟩, ⟨(some 20), (.call 49 [(.t 19)]), none⟩, ⟨(some 21), (.call 48 [(.t 18), (.t 20)]), none⟩, ⟨(some 4), (.mov (.t 21)), none⟩]))) (.ops [⟨(some 22), (.bin .add (.t 14) (.c (.int .i64 1))), none⟩, ⟨(some 14), (.mov (.t 22)), none⟩]))))))) (.seq (.ops [⟨(some 23), (.mov (.t 4)), none⟩, ⟨(some 2), (.mov (.t 23)), none⟩, ⟨(some 3), (.mov (.c (.bool true))), none⟩]) .ret)))))
theorem cc14 : ccode Try.prog (min Try.f14.ntmps pbase) (Try.f14.body.getD .skip) = some ac14 := by kernel_rfl
def ac15 : ACode := (.seq (.ops [⟨(some 4), (.mov (.c (.bool false))), none⟩]) (.seq (.seq (.ops [⟨(some 6), (.mov (.t 0)), none⟩, ⟨(some 7), (.len (.t 6)), none⟩, ⟨(some 8), (.mov (.t 1)), none⟩, ⟨(some 9), (.len (.t 8)), none⟩, ⟨(some 10), (.bin .neq (.t 7) (.t 9)), none⟩]) (.cond (.t 10) (.seq (.ops [⟨(some 4), (.mov (.c (.bool false))), none⟩]) .ret) .skip)) (.seq (.seq (.ops [⟨(some 11), (.mov (.t 0)), none⟩, ⟨(some 12), (.len (.t 11)), none⟩, ⟨(some 13), (.mov (.c (.int .i64 0))), none⟩]) (.block 0 (.loop (.seq (.ops [⟨(some 14), (.bin .lss (.t 13) (.t 12)), none⟩]) (.seq (.cond (.t 14) .skip (.exit 0)) (.seq (.block 1 (.seq (.ops [⟨(some 15), (.mov (.t 13)), none⟩, ⟨(some 5), (.mov (.t 15)), none⟩]) (.seq (.tree (.take ⟨(some 16), (.mov (.t 0)), none⟩ (.take ⟨(some 17), (.mov (.t 5)), none⟩ (.take ⟨(some 18), (.idx 1 (.t 16) (.t 17)), none⟩ (.take ⟨(some 19), (.ld none (.t 18)), none⟩ (.take ⟨(some 20), (.mov (.t 1)), none⟩ (.take ⟨(some 21), (.mov (.t 5)), none⟩ (.take ⟨(some 22), (.idx 1 (.t 20) (.t 21)), none⟩ (.take ⟨(some 23), (.ld none (.t 22)), none⟩ (.take ⟨(some 24), (.call 50 [(.t 19), (.t 23)]), none⟩ (.take ⟨(some 25), (.not (.t 24)), none⟩ .done))))))))))) (.cond (.t 25) (.seq (.ops [⟨(some 4), (.mov (.c (.bool false))), none⟩]) .ret) .skip)))) (.ops [⟨(some 26), (.bin .add (.t 13) (.c (.int .i64 1))), none⟩, ⟨(some 13), (.mov (.t 26)), none⟩]))))))) (.seq (.ops [⟨(some 4), (.mov (.c (.bool true))), none⟩]) .ret))))
theorem cc15 : ccode Try.prog (min Try.f15.ntmps pbase) (Try.f15.body.getD .skip) = some ac15 := by kernel_rfl
def ac16 : ACode := (.seq (.ops [⟨(some 2), (.mov (.c (.int .i64 0))), none⟩]) (.seq (.ops [⟨(some 3), (.mov (.c (.int .i64 1))), none⟩]) (.seq (.seq (.ops [⟨(some 4), (.mov (.c (.int .i64 2))), none⟩]) (.block 0 (.loop (.seq (.seq (.ops [⟨(some 5), (.mov (.t 4)), none⟩, ⟨(some 6), (.mov (.t 0)), none⟩, ⟨(some 7), (.bin .leq (.t 5) (.t 6)), none⟩]) (.cond (.t 7) .skip (.exit 0))) (.seq (.block 1 (.ops [⟨(some 10), (.mov (.t 3)), none⟩, ⟨(some 11), (.mov (.t 4)), none⟩, ⟨(some 12), (.bin .mul (.t 10) (.t 11)), none⟩, ⟨(some 3), (.mov (.t 12)), none⟩])) (.ops [⟨(some 8), (.mov (.t 4)), none⟩, ⟨(some 9), (.bin .add (.t 8) (.c (.int .i64 1))), none⟩, ⟨(some 4), (.mov (.t 9)), none⟩])))))) (.seq (.ops [⟨(some 13), (.mov (.t 3)), none⟩, ⟨(some 2), (.mov (.t 13)), none⟩]) .ret))))
theorem cc16 : ccode Try.prog (min Try.f16.ntmps pbase) (Try.f16.body.getD .skip) = some ac16 := by kernel_rfl
def ac17 : ACode := (.seq (.ops [⟨(some 2), (.mov (.c (.int .i64 0))), none⟩, ⟨(some 3), (.mov (.c (.bool false))), none⟩]) (.seq (.seq (.ops [⟨(some 4), (.mov (.t 0)), none⟩, ⟨(some 5), (.call 51 [(.t 4)]), none⟩, ⟨(some 6), (.not (.t 5)), none⟩]) (.cond (.t 6) (.seq (.ops [⟨(some 2), (.mov (.c (.int .i64 0))), none⟩, ⟨(some 3), (.mov (.c (.bool false))), none⟩]) .ret) .skip)) (.seq (.ops [⟨(some 7), (.mov (.t 0)), none⟩, ⟨(some 8), (.call 52 [(.t 7)]), none⟩, ⟨(some 2), (.mov (.t 8)), none⟩, ⟨(some 3), (.mov (.c (.bool true))), none⟩]) .ret)))
theorem cc17 : ccode Try.prog (min Try.f17.ntmps pbase) (Try.f17.body.getD .skip) = some ac17 := by kernel_rfl
def ac18 : ACode := (.seq (.ops [⟨(some 2), (.mov (.c (.int .i64 0))), none⟩, ⟨(some 3), (.mov (.c (.bool false))), none⟩]) (.seq (.seq (.ops [⟨(some 4), (.mov (.t 0)), none⟩, ⟨(some 5), (.call 51 [(.t 4)]), none⟩, ⟨(some 6), (.not (.t 5)), none⟩]) (.cond (.t 6) (.seq (.ops [⟨(some 2), (.mov (.c (.int .i64 0))), none⟩, ⟨(some 3), (.mov (.c (.bool false))), none⟩]) .ret) .skip)) (.seq (.ops [⟨(some 7), (.mov (.t 0)), none⟩, ⟨(some 8), (.call 47 [(.t 7)]), none⟩, ⟨(some 2), (.mov (.t 8)), none⟩, ⟨(some 3), (.mov (.c (.bool true))), none⟩]) .ret)))
theorem cc18 : ccode Try.prog (min Try.f18.ntmps pbase) (Try.f18.body.getD .skip) = some ac18 := by kernel_rfl
def ac19 : ACode := (.seq (.ops [⟨(some 2), (.mov (.c (.int .i64 0))), none⟩]) (.seq (.ops [⟨(some 3), (.mov (.c (.int .i64 0))), none⟩]) (.seq (.seq (.ops [⟨(some 6), (.mov (.t 0)), none⟩, ⟨(some 7), (.len (.t 6)), none⟩, ⟨(some 8), (.mov (.c (.int .i64 0))), none⟩]) (.block 0 (.loop (.seq (.ops [⟨(some 9), (.bin .lss (.t 8) (.t 7)), none⟩]) (.seq (.cond (.t 9) .skip (.exit 0)) (.seq (.block 1 (.seq (.ops [⟨(some 10), (.idx 1 (.t 6) (.t 8)), none⟩, ⟨(some 11), (.ld none (.t 10)), none⟩, ⟨(some 5), (.mov (.t 11)), none⟩]) (.ops [⟨(some 12), (.mov (.t 3)), none⟩, ⟨(some 13), (.mov (.t 5)), none⟩, ⟨(some 14), (.bin .add (.t 12) (.t 13)), none⟩, ⟨(some 3), (.mov (.t 14)), none⟩]))) (.ops [⟨(some 15), (.bin .add (.t 8) (.c (.int .i64 1))), none⟩, ⟨(some 8), (.mov (.t 15)), none⟩]))))))) (.seq (.ops [⟨(some 16), (.mov (.t 3)), none⟩, ⟨(some 2), (.mov (.t 16)), none⟩]) .ret))))
theorem cc19 : ccode Try.prog (min Try.f19.ntmps pbase) (Try.f19.body.getD .skip) = some ac19 := by kernel_rfl
def ac20 : ACode := (.seq (.ops [⟨(some 4), (.mov (.c (.bool false))), none⟩]) (.seq (.seq (.ops [⟨(some 5), (.mov (.c (.int .i64 0))), none⟩]) (.block 0 (.loop (.seq (.seq (.ops [⟨(some 6), (.mov (.t 5)), none⟩, ⟨(some 7), (.mov (.t 0)), none⟩, ⟨(some 8), (.len (.t 7)), none⟩, ⟨(some 9), (.bin .lss (.t 6) (.t 8)), none⟩, ⟨(some 10), (.mov (.t 9)), none⟩, ⟨(some 11), (.mov (.t 5)), (some (10, true))⟩, ⟨(some 12), (.mov (.t 1)), (some (10, true))⟩, ⟨(some 13), (.len (.t 12)), (some (10, true))⟩, ⟨(some 14), (.bin .lss (.t 11) (.t 13)), (some (10, true))⟩, ⟨(some 15), (.pick (.t 10) (.t 14) (.c (.bool false))), none⟩]) (.cond (.t 15) .skip (.exit 0))) (.seq (.block 1 (.seq (.tree (.take ⟨(some 18), (.mov (.t 0)), none⟩ (.take ⟨(some 19), (.mov (.t 5)), none⟩ (.take ⟨(some 20), (.idx 1 (.t 18) (.t 19)), none⟩ (.take ⟨(some 21), (.ld none (.t 20)), none⟩ (.take ⟨(some 22), (.mov (.t 1)), none⟩ (.take ⟨(some 23), (.mov (.t 5)), none⟩ (.take ⟨(some 24), (.idx 1 (.t 22) (.t 23)), none⟩ (.take ⟨(some 25), (.ld none (.t 24)), none⟩ (.take ⟨(some 26), (.bin .neq (.t 21) (.t 25)), none⟩ .done)))))))))) (.cond (.t 26) (.seq (.tree (.take ⟨(some 27), (.mov (.t 0)), none⟩ (.take ⟨(some 28), (.mov (.t 5)), none⟩ (.take ⟨(some 29), (.idx 1 (.t 27) (.t 28)), none⟩ (.take ⟨(some 30), (.ld none (.t 29)), none⟩ (.take ⟨(some 31), (.mov (.t 1)), none⟩ (.take ⟨(some 32), (.mov (.t 5)), none⟩ (.take ⟨(some 33), (.idx 1 (.t 31) (.t 32)), none⟩ (.take ⟨(some 34), (.ld none (.t 33)), none⟩ (.take ⟨(some 35), (.bin .lss (.t 30) (.t 34)), none⟩ (.take ⟨(some 4), (.mov (.t 35)), none⟩ .done))))))))))) .ret) .skip))) (.ops [⟨(some 16), (.mov (.t 5)), none⟩, ⟨(some 17), (.bin .add (.t 16) (.c (.int .i64 1))), none⟩, ⟨(some 5), (.mov (.t 17)), none⟩])))))) (.seq (.ops [⟨(some 36), (.mov (.t 0)), none⟩, ⟨(some 37), (.len (.t 36)), none⟩, ⟨(some 38), (.mov (.t 1)), none⟩, ⟨(some 39), (.len (.t 38)), none⟩, ⟨(some 40), (.bin .lss (.t 37) (.t 39)), none⟩, ⟨(some 4), (.mov (.t 40)), none⟩]) .ret)))
theorem cc20 : ccode Try.prog (min Try.f20.ntmps pbase) (Try.f20.body.getD .skip) = some ac20 := by kernel_rfl
def ac21 : ACode := (.seq (.ops [⟨(some 3), (.box 1 (.t 1)), none⟩, ⟨(some 4), (.mov (.c (.int .i64 0))), none⟩, ⟨(some 5), (.mov (.c (.bool false))), none⟩]) (.seq (.seq (.ops [⟨(some 6), (.mov (.t 0)), none⟩, ⟨(some 7), (.call 36 [(.t 6)]), none⟩, ⟨(some 8), (.not (.t 7)), none⟩, ⟨(some 9), (.mov (.t 8)), none⟩, ⟨(some 10), (.ld none (.t 3)), (some (9, false))⟩, ⟨(some 11), (.bin .lss (.t 10) (.c (.int .i64 0))), (some (9, false))⟩, ⟨(some 12), (.pick (.t 9) (.c (.bool true)) (.t 11)), none⟩, ⟨(some 13), (.mov (.t 12)), none⟩, ⟨(some 14), (.ld none (.t 3)), (some (13, false))⟩, ⟨(some 15), (.mov (.t 0)), (some (13, false))⟩, ⟨(some 16), (.bin .gtr (.t 14) (.t 15)), (some (13, false))⟩, ⟨(some 17), (.pick (.t 13) (.c (.bool true)) (.t 16)), none⟩]) (.cond (.t 17) (.seq (.ops [⟨(some 4), (.mov (.c (.int .i64 0))), none⟩, ⟨(some 5), (.mov (.c (.bool false))), none⟩]) .ret) .skip)) (.seq (.ops [⟨(some 18), (.mov (.t 0)), none⟩, ⟨(some 19), (.mkf 54 0 [(.t 3)]), none⟩, ⟨(some 20), (.call 53 [(.t 18), (.t 19)]), none⟩, ⟨(some 4), (.mov (.t 20)), none⟩, ⟨(some 5), (.mov (.c (.bool true))), none⟩]) .ret)))
theorem cc21 : ccode Try.prog (min Try.f21.ntmps pbase) (Try.f21.body.getD .skip) = some ac21 := by kernel_rfl
def ac22 : ACode := (.seq (.ops [⟨(some 3), (.box 1 (.t 1)), none⟩, ⟨(some 4), (.mov (.c (.int .i64 0))), none⟩, ⟨(some 5), (.mov (.c (.bool false))), none⟩]) (.seq (.seq (.ops [⟨(some 6), (.mov (.t 0)), none⟩, ⟨(some 7), (.ld none (.t 3)), none⟩, ⟨(some 8), (.call 55 [(.t 6), (.t 7)]), none⟩, ⟨(some 9), (.not (.t 8)), none⟩]) (.cond (.t 9) (.seq (.ops [⟨(some 4), (.mov (.c (.int .i64 0))), none⟩, ⟨(some 5), (.mov (.c (.bool false))), none⟩]) .ret) .skip)) (.seq (.ops [⟨(some 10), (.mov (.t 0)), none⟩, ⟨(some 11), (.mkf 56 0 [(.t 3)]), none⟩, ⟨(some 12), (.call 53 [(.t 10), (.t 11)]), none⟩, ⟨(some 4), (.mov (.t 12)), none⟩, ⟨(some 5), (.mov (.c (.bool true))), none⟩]) .ret)))
theorem cc22 : ccode Try.prog (min Try.f22.ntmps pbase) (Try.f22.body.getD .skip) = some ac22 := by kernel_rfl
def ac23 : ACode := (.seq (.ops [⟨(some 3), (.box 1 (.t 1)), none⟩, ⟨(some 4), (.mov (.c (.int .i64 0))), none⟩, ⟨(some 5), (.mov (.c (.bool false))), none⟩]) (.seq (.seq (.ops [⟨(some 6), (.mov (.t 0)), none⟩, ⟨(some 7), (.ld none (.t 3)), none⟩, ⟨(some 8), (.call 55 [(.t 6), (.t 7)]), none⟩, ⟨(some 9), (.not (.t 8)), none⟩]) (.cond (.t 9) (.seq (.ops [⟨(some 4), (.mov (.c (.int .i64 0))), none⟩, ⟨(some 5), (.mov (.c (.bool false))), none⟩]) .ret) .skip)) (.seq (.ops [⟨(some 10), (.mov (.t 0)), none⟩, ⟨(some 11), (.mkf 58 0 [(.t 3)]), none⟩, ⟨(some 12), (.call 53 [(.t 10), (.t 11)]), none⟩, ⟨(some 4), (.mov (.t 12)), none⟩, ⟨(some 5), (.mov (.c (.bool true))), none⟩]) .ret)))
theorem cc23 : ccode Try.prog (min Try.f23.ntmps pbase) (Try.f23.body.getD .skip) = some ac23 := by kernel_rfl
def ac24 : ACode := (.seq (.ops [⟨(some 4), (.mov (.c (.int .i64 0))), none⟩, ⟨(some 5), (.mov (.c (.int .i64 0))), none⟩, ⟨(some 6), (.mov (.c (.bool false))), none⟩]) (.seq (.seq (.ops [⟨(some 7), (.mov (.t 0)), none⟩, ⟨(some 8), (.mov (.t 1)), none⟩, ⟨(some 9), (.call 55 [(.t 7), (.t 8)]), none⟩, ⟨(some 10), (.not (.t 9)), none⟩]) (.cond (.t 10) (.seq (.ops [⟨(some 4), (.mov (.c (.int .i64 0))), none⟩, ⟨(some 5), (.mov (.c (.int .i64 0))), none⟩, ⟨(some 6), (.mov (.c (.bool false))), none⟩]) .ret) .skip)) (.seq (.ops [⟨(some 11), (.mov (.t 1)), none⟩, ⟨(some 12), (.call 42 [(.t 11)]), none⟩, ⟨(some 13), (.call 43 [(.t 12)]), none⟩, ⟨(some 14), (.ext (.t 13) 0), none⟩, ⟨(some 15), (.ext (.t 13) 1), none⟩, ⟨(some 16), (.ext (.t 13) 2), none⟩, ⟨(some 4), (.mov (.t 14)), none⟩, ⟨(some 5), (.mov (.t 15)), none⟩, ⟨(some 6), (.mov (.t 16)), none⟩]) .ret)))
theorem cc24 : ccode Try.prog (min Try.f24.ntmps pbase) (Try.f24.body.getD .skip) = some ac24 := by kernel_rfl
def ac25 : ACode := (.seq (.ops [⟨(some 2), (.mov (.c (.int .i64 0))), none⟩, ⟨(some 3), (.mov (.c (.int .i64 0))), none⟩]) (.seq (.ops [⟨(some 4), (.mov (.t 0)), none⟩, ⟨(some 5), (.call 60 [(.t 4)]), none⟩, ⟨(some 6), (.ext (.t 5) 0), none⟩, ⟨(some 7), (.ext (.t 5) 1), none⟩, ⟨(some 2), (.mov (.t 6)), none⟩, ⟨(some 3), (.mov (.t 7)), none⟩]) .ret))
theorem cc25 : ccode Try.prog (min Try.f25.ntmps pbase) (Try.f25.body.getD .skip) = some ac25 := by kernel_rfl
def ac26 : ACode := (.seq (.ops [⟨(some 4), (.mov (.c (.int .i64 0))), none⟩, ⟨(some 5), (.mov (.c (.bool false))), none⟩]) (.seq (.seq (.ops [⟨(some 6), (.mov (.t 0)), none⟩, ⟨(some 7), (.call 38 [(.t 6)]), none⟩, ⟨(some 8), (.not (.t 7)), none⟩, ⟨(some 9), (.mov (.t 8)), none⟩, ⟨(some 10), (.mov (.t 1)), (some (9, false))⟩, ⟨(some 11), (.mov (.t 0)), (some (9, false))⟩, ⟨(some 12), (.call 61 [(.t 10), (.c (.int .i64 1)), (.t 11)]), (some (9, false))⟩, ⟨(some 13), (.not (.t 12)), (some (9, false))⟩, ⟨(some 14), (.pick (.t 9) (.c (.bool true)) (.t 13)), none⟩]) (.cond (.t 14) (.seq (.ops [⟨(some 4), (.mov (.c (.int .i64 0))), none⟩, ⟨(some 5), (.mov (.c (.bool false))), none⟩]) .ret) .skip)) (.seq (.ops [⟨(some 15), (.mov (.t 0)), none⟩, ⟨(some 16), (.mov (.t 1)), none⟩, ⟨(some 17), (.call 46 [(.t 15), (.t 16)]), none⟩, ⟨(some 18), (.mov (.t 0)), none⟩, ⟨(some 19), (.mov (.t 1)), none⟩, ⟨(some 20), (.bin .sub (.t 19) (.c (.int .i64 1))), none⟩, ⟨(some 21), (.call 46 [(.t 18), (.t 20)]), none⟩, ⟨(some 22), (.bin .sub (.t 17) (.t 21)), none⟩, ⟨(some 4), (.mov (.t 22)), none⟩, ⟨(some 5), (.mov (.c (.bool true))), none⟩]) .ret)))
theorem cc26 : ccode Try.prog (min Try.f26.ntmps pbase) (Try.f26.body.getD .skip) = some ac26 := by kernel_rfl
def ac27 : ACode := (.seq (.ops [⟨(some 4), (.mov (.c (.int .i64 0))), none⟩, ⟨(some 5), (.mov (.c (.bool false))), none⟩]) (.seq (.seq (.ops [⟨(some 9), (.mov (.t 0)), none⟩, ⟨(some 10), (.call 38 [(.t 9)]), none⟩, ⟨(some 11), (.not (.t 10)), none⟩, ⟨(some 12), (.mov (.t 11)), none⟩, ⟨(some 13), (.mov (.t 1)), (some (12, false))⟩, ⟨(some 14), (.mov (.t 0)), (some (12, false))⟩, ⟨(some 15), (.call 61 [(.t 13), (.c (.int .i64 1)), (.t 14)]), (some (12, false))⟩, ⟨(some 16), (.not (.t 15)), (some (12, false))⟩, ⟨(some 17), (.pick (.t 12) (.c (.bool true)) (.t 16)), none⟩]) (.cond (.t 17) (.seq (.ops [⟨(some 4), (.mov (.c (.int .i64 0))), none⟩, ⟨(some 5), (.mov (.c (.bool false))), none⟩]) .ret) .skip)) (.seq (.ops [⟨(some 6), (.mov (.c (.int .i64 0))), none⟩]) (.seq (.seq (.ops [⟨(some 18), (.mov (.t 0)), none⟩, ⟨(some 19), (.mov (.t 0)), none⟩, ⟨(some 20), (.call 39 [(.t 18), (.t 19)]), none⟩, ⟨(some 21), (.len (.t 20)), none⟩, ⟨(some 22), (.mov (.c (.int .i64 0))), none⟩]) (.block 0 (.loop (.seq (.ops [⟨(some 23), (.bin .lss (.t 22) (.t 21)), none⟩]) (.seq (.cond (.t 23) .skip (.exit 0)) (.seq (.block 1 (.seq (.ops [⟨(some 24), (.idx 1 (.t 20) (.t 22)), none⟩, ⟨(some 25), (.ld none (.t 24)), none⟩, ⟨(some 8), (.mov (.t 25)), none⟩]) (.seq (.ops [⟨(some 26), (.mov (.t 8)), none⟩, ⟨(some 27), (.mov (.t 8)), none⟩, ⟨(some 28), (.len (.t 27)), none⟩, ⟨(some 29), (.bin .sub (.t 28) (.c (.int .i64 1))), none⟩, ⟨(some 30), (.idx 1 (.t 26) (.t 29)), none⟩, ⟨(some 31), (.ld none (.t 30)), none⟩, ⟨(some 32), (.mov (.t 1)), none⟩, ⟨(some 33), (.bin .eql (.t 31) (.t 32)), none⟩]) (.cond (.t 33) (.ops [⟨(some 34), (.mov (.t 6)), none⟩, ⟨(some 35), (.mov (.t 8)), none⟩, ⟨(some 36), (.call 62 [(.t 35)]), none⟩, ⟨(some 37), (.bin .add (.t 34) (.t 36)), none⟩, ⟨(some 6), (.mov (.t 37)), none⟩]) .skip)))) (.ops [⟨(some 38), (.bin .add (.t 22) (.c (.int .i64 1))), none⟩, ⟨(some 22), (.mov (.t 38)), none⟩]))))))) (.seq (.ops [⟨(some 39), (.mov (.t 6)), none⟩, ⟨(some 4), (.mov (.t 39)), none⟩, ⟨(some 5), (.mov (.c (.bool true))), none⟩]) .ret)))))
theorem cc27 : ccode Try.prog (min Try.f27.ntmps pbase) (Try.f27.body.getD .skip) = some ac27 := by kernel_rfl
def ac28 : ACode := (.seq (.ops [⟨(some 4), (.mov (.c (.int .i64 0))), none⟩, ⟨(some 5), (.mov (.c (.bool false))), none⟩]) (.seq (.seq (.ops [⟨(some 9), (.mov (.t 0)), none⟩, ⟨(some 10), (.call 38 [(.t 9)]), none⟩, ⟨(some 11), (.not (.t 10)), none⟩, ⟨(some 12), (.mov (.t 11)), none⟩, ⟨(some 13), (.mov (.t 1)), (some (12, false))⟩, ⟨(some 14), (.mov (.t 0)), (some (12, false))⟩, ⟨(some 15), (.call 61 [(.t 13), (.c (.int .i64 0)), (.t 14)]), (some (12, false))⟩, ⟨(some 16), (.not (.t 15)), (some (12, false))⟩, ⟨(some 17), (.pick (.t 12) (.c (.bool true)) (.t 16)), none⟩]) (.cond (.t 17) (.seq (.ops [⟨(some 4), (.mov (.c (.int .i64 0))), none⟩, ⟨(some 5), (.mov (.c (.bool false))), none⟩]) .ret) .skip)) (.seq (.ops [⟨(some 6), (.mov (.c (.int .i64 0))), none⟩]) (.seq (.seq (.ops [⟨(some 18), (.mov (.t 0)), none⟩, ⟨(some 19), (.mov (.t 0)), none⟩, ⟨(some 20), (.call 39 [(.t 18), (.t 19)]), none⟩, ⟨(some 21), (.len (.t 20)), none⟩, ⟨(some 22), (.mov (.c (.int .i64 0))), none⟩]) (.block 0 (.loop (.seq (.ops [⟨(some 23), (.bin .lss (.t 22) (.t 21)), none⟩]) (.seq (.cond (.t 23) .skip (.exit 0)) (.seq (.block 1 (.seq (.ops [⟨(some 24), (.idx 1 (.t 20) (.t 22)), none⟩, ⟨(some 25), (.ld none (.t 24)), none⟩, ⟨(some 8), (.mov (.t 25)), none⟩]) (.seq (.ops [⟨(some 26), (.mov (.t 8)), none⟩, ⟨(some 27), (.len (.t 26)), none⟩, ⟨(some 28), (.mov (.t 1)), none⟩, ⟨(some 29), (.bin .eql (.t 27) (.t 28)), none⟩]) (.cond (.t 29) (.ops [⟨(some 30), (.mov (.t 6)), none⟩, ⟨(some 31), (.mov (.t 8)), none⟩, ⟨(some 32), (.call 62 [(.t 31)]), none⟩, ⟨(some 33), (.bin .add (.t 30) (.t 32)), none⟩, ⟨(some 6), (.mov (.t 33)), none⟩]) .skip)))) (.ops [⟨(some 34), (.bin .add (.t 22) (.c (.int .i64 1))), none⟩, ⟨(some 22), (.mov (.t 34)), none⟩]))))))) (.seq (.ops [⟨(some 35), (.mov (.t 6)), none⟩, ⟨(some 4), (.mov (.t 35)), none⟩, ⟨(some 5), (.mov (.c (.bool true))), none⟩]) .ret)))))
theorem cc28 : ccode Try.prog (min Try.f28.ntmps pbase) (Try.f28.body.getD .skip) = some ac28 := by kernel_rfl
def ac29 : ACode := (.seq (.ops [⟨(some 4), (.mov (.c (.int .i64 0))), none⟩, ⟨(some 5), (.mov (.c (.int .i64 0))), none⟩, ⟨(some 6), (.mov (.c (.bool false))), none⟩]) (.seq (.seq (.ops [⟨(some 7), (.mov (.t 0)), none⟩, ⟨(some 8), (.call 36 [(.t 7)]), none⟩, ⟨(some 9), (.not (.t 8)), none⟩, ⟨(some 10), (.mov (.t 9)), none⟩, ⟨(some 11), (.mov (.t 1)), (some (10, false))⟩, ⟨(some 12), (.bin .lss (.t 11) (.c (.int .i64 0))), (some (10, false))⟩, ⟨(some 13), (.pick (.t 10) (.c (.bool true)) (.t 12)), none⟩, ⟨(some 14), (.mov (.t 13)), none⟩, ⟨(some 15), (.mov (.t 1)), (some (14, false))⟩, ⟨(some 16), (.mov (.t 0)), (some (14, false))⟩, ⟨(some 17), (.bin .gtr (.t 15) (.t 16)), (some (14, false))⟩, ⟨(some 18), (.pick (.t 14) (.c (.bool true)) (.t 17)), none⟩]) (.cond (.t 18) (.seq (.ops [⟨(some 4), (.mov (.c (.int .i64 0))), none⟩, ⟨(some 5), (.mov (.c (.int .i64 0))), none⟩, ⟨(some 6), (.mov (.c (.bool false))), none⟩]) .ret) .skip)) (.seq (.ops [⟨(some 19), (.mov (.t 0)), none⟩, ⟨(some 20), (.mov (.t 1)), none⟩, ⟨(some 21), (.call 45 [(.t 19), (.c (.int .i64 1)), (.t 20)]), none⟩, ⟨(some 22), (.mov (.t 0)), none⟩, ⟨(some 23), (.call 63 [(.t 22)]), none⟩, ⟨(some 24), (.call 40 [(.t 21), (.t 23)]), none⟩, ⟨(some 25), (.call 43 [(.t 24)]), none⟩, ⟨(some 26), (.ext (.t 25) 0), none⟩, ⟨(some 27), (.ext (.t 25) 1), none⟩, ⟨(some 28), (.ext (.t 25) 2), none⟩, ⟨(some 4), (.mov (.t 26)), none⟩, ⟨(some 5), (.mov (.t 27)), none⟩, ⟨(some 6), (.mov (.t 28)), none⟩]) .ret)))
theorem cc29 : ccode Try.prog (min Try.f29.ntmps pbase) (Try.f29.body.getD .skip) = some ac29 := by kernel_rfl
def ac30 : ACode := (.seq (.ops [⟨(some 4), (.mov (.c (.int .i64 0))), none⟩, ⟨(some 5), (.mov (.c (.int .i64 0))), none⟩, ⟨(some 6), (.mov (.c (.bool false))), none⟩]) (.seq (.seq (.ops [⟨(some 9), (.mov (.t 0)), none⟩, ⟨(some 10), (.call 38 [(.t 9)]), none⟩, ⟨(some 11), (.not (.t 10)), none⟩, ⟨(some 12), (.mov (.t 11)), none⟩, ⟨(some 13), (.mov (.t 1)), (some (12, false))⟩, ⟨(some 14), (.mov (.t 0)), (some (12, false))⟩, ⟨(some 15), (.call 61 [(.t 13), (.c (.int .i64 0)), (.t 14)]), (some (12, false))⟩, ⟨(some 16), (.not (.t 15)), (some (12, false))⟩, ⟨(some 17), (.pick (.t 12) (.c (.bool true)) (.t 16)), none⟩]) (.cond (.t 17) (.seq (.ops [⟨(some 4), (.mov (.c (.int .i64 0))), none⟩, ⟨(some 5), (.mov (.c (.int .i64 0))), none⟩, ⟨(some 6), (.mov (.c (.bool false))), none⟩]) .ret) .skip)) (.seq (.ops [⟨(some 19), (.mov (.t 0)), none⟩, ⟨(some 20), (.mov (.t 1)), none⟩, ⟨(some 21), (.call 46 [(.t 19), (.t 20)]), none⟩, ⟨(some 22), (.mov (.t 0)), none⟩, ⟨(some 23), (.call 64 [(.t 22)]), none⟩, ⟨(some 24), (.call 44 [(.t 21), (.t 23)]), none⟩, ⟨(some 18), (.mov (.t 24)), none⟩, ⟨(some 25), (.ext (.t 18) 0), none⟩, ⟨(some 26), (.ext (.t 18) 1), none⟩, ⟨(some 7), (.mov (.t 25)), none⟩, ⟨(some 8), (.mov (.t 26)), none⟩]) (.seq (.ops [⟨(some 27), (.mov (.t 7)), none⟩, ⟨(some 28), (.mov (.t 8)), none⟩, ⟨(some 4), (.mov (.t 27)), none⟩, ⟨(some 5), (.mov (.t 28)), none⟩, ⟨(some 6), (.mov (.c (.bool true))), none⟩]) .ret))))
theorem cc30 : ccode Try.prog (min Try.f30.ntmps pbase) (Try.f30.body.getD .skip) = some ac30 := by kernel_rfl
def ac31 : ACode := (.seq (.ops [⟨(some 4), (.mov (.c (.int .i64 0))), none⟩, ⟨(some 5), (.mov (.c (.int .i64 0))), none⟩, ⟨(some 6), (.mov (.c (.bool false))), none⟩]) (.seq (.seq (.ops [⟨(some 7), (.mov (.t 0)), none⟩, ⟨(some 8), (.call 38 [(.t 7)]), none⟩, ⟨(some 9), (.not (.t 8)), none⟩, ⟨(some 10), (.mov (.t 9)), none⟩, ⟨(some 11), (.mov (.t 1)), (some (10, false))⟩, ⟨(some 12), (.mov (.t 0)), (some (10, false))⟩, ⟨(some 13), (.call 61 [(.t 11), (.c (.int .i64 1)), (.t 12)]), (some (10, false))⟩, ⟨(some 14), (.not (.t 13)), (some (10, false))⟩, ⟨(some 15), (.pick (.t 10) (.c (.bool true)) (.t 14)), none⟩]) (.cond (.t 15) (.seq (.ops [⟨(some 4), (.mov (.c (.int .i64 0))), none⟩, ⟨(some 5), (.mov (.c (.int .i64 0))), none⟩, ⟨(some 6), (.mov (.c (.bool false))), none⟩]) .ret) .skip)) (.seq (.ops [⟨(some 16), (.mov (.t 1)), none⟩, ⟨(some 4), (.mov (.c (.int .i64 1))), none⟩, ⟨(some 5), (.mov (.t 16)), none⟩, ⟨(some 6), (.mov (.c (.bool true))), none⟩]) .ret)))
theorem cc31 : ccode Try.prog (min Try.f31.ntmps pbase) (Try.f31.body.getD .skip) = some ac31 := by kernel_rfl
def ac32 : ACode := (.seq (.ops [⟨(some 2), (.mov (.c (.int .i64 0))), none⟩, ⟨(some 3), (.mov (.c (.int .i64 0))), none⟩]) (.seq (.ops [⟨(some 5), (.mov (.t 0)), none⟩, ⟨(some 6), (.pu (.bld [(.slice none 0 0), (.int .i64 0), (.int .u64 0)] [(0, 1)]) [(.t 5)]), none⟩, ⟨(some 7), (.box 3 (.t 6)), none⟩, ⟨(some 4), (.mov (.t 7)), none⟩]) (.seq (.ops [⟨(some 8), (.mov (.t 4)), none⟩, ⟨(some 9), (.call 65 [(.t 8)]), none⟩, ⟨(some 10), (.mov (.t 4)), none⟩, ⟨(some 11), (.bsl 1 10 [(.int .i64 0)] [(0, (.c (.int .i64 1))), (1, (.c (.int .i64 2))), (2, (.c (.int .i64 3))), (3, (.c (.int .i64 4))), (4, (.c (.int .i64 6))), (5, (.c (.int .i64 12))), (6, (.c (.int .i64 60))), (7, (.c (.int .i64 1000))), (8, (.c (.int .i64 1001))), (9, (.c (.int .i64 0)))]), none⟩, ⟨(some 12), (.call 66 [(.t 10), (.t 11)]), none⟩, ⟨(some 2), (.mov (.t 9)), none⟩, ⟨(some 3), (.mov (.t 12)), none⟩]) .ret)))
theorem cc32 : ccode Try.prog (min Try.f32.ntmps pbase) (Try.f32.body.getD .skip) = some ac32 := by kernel_rfl
def ac33 : ACode := (.seq (.ops [⟨(some 3), (.box 1 (.t 1)), none⟩, ⟨(some 4), (.mov (.c (.int .i64 0))), none⟩, ⟨(some 5), (.mov (.c (.bool false))), none⟩]) (.seq (.seq (.ops [⟨(some 6), (.mov (.t 0)), none⟩, ⟨(some 7), (.call 36 [(.t 6)]), none⟩, ⟨(some 8), (.not (.t 7)), none⟩, ⟨(some 9), (.mov (.t 8)), none⟩, ⟨(some 10), (.ld none (.t 3)), (some (9, false))⟩, ⟨(some 11), (.bin .lss (.t 10) (.c (.int .i64 1))), (some (9, false))⟩, ⟨(some 12), (.pick (.t 9) (.c (.bool true)) (.t 11)), none⟩, ⟨(some 13), (.mov (.t 12)), none⟩, ⟨(some 14), (.ld none (.t 3)), (some (13, false))⟩, ⟨(some 15), (.bin .gtr (.t 14) (.c (.int .i64 1000))), (some (13, false))⟩, ⟨(some 16), (.pick (.t 13) (.c (.bool true)) (.t 15)), none⟩]) (.cond (.t 16) (.seq (.ops [⟨(some 4), (.mov (.c (.int .i64 0))), none⟩, ⟨(some 5), (.mov (.c (.bool false))), none⟩]) .ret) .skip)) (.seq (.ops [⟨(some 17), (.mov (.t 0)), none⟩, ⟨(some 18), (.mkf 67 0 [(.t 3)]), none⟩, ⟨(some 19), (.call 53 [(.t 17), (.t 18)]), none⟩, ⟨(some 4), (.mov (.t 19)), none⟩, ⟨(some 5), (.mov (.c (.bool true))), none⟩]) .ret)))
theorem cc33 : ccode Try.prog (min Try.f33.ntmps pbase) (Try.f33.body.getD .skip) = some ac33 := by kernel_rfl
def ac34 : ACode := (.seq (.ops [⟨(some 4), (.mov (.c (.int .i64 0))), none⟩, ⟨(some 5), (.mov (.c (.bool false))), none⟩]) (.seq (.seq (.ops [⟨(some 9), (.mov (.t 0)), none⟩, ⟨(some 10), (.call 38 [(.t 9)]), none⟩, ⟨(some 11), (.not (.t 10)), none⟩, ⟨(some 12), (.mov (.t 11)), none⟩, ⟨(some 13), (.mov (.t 1)), (some (12, false))⟩, ⟨(some 14), (.call 61 [(.t 13), (.c (.int .i64 1)), (.c (.int .i64 1000))]), (some (12, false))⟩, ⟨(some 15), (.not (.t 14)), (some (12, false))⟩, ⟨(some 16), (.pick (.t 12) (.c (.bool true)) (.t 15)), none⟩]) (.cond (.t 16) (.seq (.ops [⟨(some 4), (.mov (.c (.int .i64 0))), none⟩, ⟨(some 5), (.mov (.c (.bool false))), none⟩]) .ret) .skip)) (.seq (.ops [⟨(some 6), (.mov (.c (.int .i64 0))), none⟩]) (.seq (.seq (.ops [⟨(some 17), (.mov (.t 0)), none⟩, ⟨(some 18), (.mov (.t 0)), none⟩, ⟨(some 19), (.call 39 [(.t 17), (.t 18)]), none⟩, ⟨(some 20), (.len (.t 19)), none⟩, ⟨(some 21), (.mov (.c (.int .i64 0))), none⟩]) (.block 0 (.loop (.seq (.ops [⟨(some 22), (.bin .lss (.t 21) (.t 20)), none⟩]) (.seq (.cond (.t 22) .skip (.exit 0)) (.seq (.block 1 (.seq (.ops [⟨(some 23), (.idx 1 (.t 19) (.t 21)), none⟩, ⟨(some 24), (.ld none (.t 23)), none⟩, ⟨(some 8), (.mov (.t 24)), none⟩]) (.seq (.ops [⟨(some 25), (.mov (.t 8)), none⟩, ⟨(some 26), (.call 49 [(.t 25)]), none⟩, ⟨(some 27), (.mov (.t 1)), none⟩, ⟨(some 28), (.bin .eql (.t 26) (.t 27)), none⟩]) (.cond (.t 28) (.ops [⟨(some 29), (.mov (.t 6)), none⟩, ⟨(some 30), (.mov (.t 8)), none⟩, ⟨(some 31), (.call 62 [(.t 30)]), none⟩, ⟨(some 32), (.bin .add (.t 29) (.t 31)), none⟩, ⟨(some 6), (.mov (.t 32)), none⟩]) .skip)))) (.ops [⟨(some 33), (.bin .add (.t 21) (.c (.int .i64 1))), none⟩, ⟨(some 21), (.mov (.t 33)), none⟩]))))))) (.seq (.ops [⟨(some 34), (.mov (.t 6)), none⟩, ⟨(some 4), (.mov (.t 34)), none⟩, ⟨(some 5), (.mov (.c (.bool true))), none⟩]) .ret)))))
theorem cc34 : ccode Try.prog (min Try.f34.ntmps pbase) (Try.f34.body.getD .skip) = some ac34 := by kernel_rfl
def ac35 : ACode := (.seq (.ops [⟨(some 2), (.mov (.c (.int .i64 0))), none⟩]) (.seq (.ops [⟨(some 4), (.mov (.t 0)), none⟩, ⟨(some 5), (.pu (.bld [(.slice none 0 0), (.int .i64 0), (.int .u64 0)] [(0, 1)]) [(.t 4)]), none⟩, ⟨(some 6), (.box 3 (.t 5)), none⟩, ⟨(some 3), (.mov (.t 6)), none⟩]) (.seq (.ops [⟨(some 7), (.mov (.t 3)), none⟩, ⟨(some 8), (.call 65 [(.t 7)]), none⟩, ⟨(some 2), (.mov (.t 8)), none⟩]) .ret)))
theorem cc35 : ccode Try.prog (min Try.f35.ntmps pbase) (Try.f35.body.getD .skip) = some ac35 := by kernel_rfl
def ac36 : ACode := (.seq (.ops [⟨(some 2), (.mov (.c (.bool false))), none⟩]) (.seq (.ops [⟨(some 3), (.mov (.t 0)), none⟩, ⟨(some 4), (.bin .geq (.t 3) (.c (.int .i64 1))), none⟩, ⟨(some 5), (.mov (.t 4)), none⟩, ⟨(some 6), (.mov (.t 0)), (some (5, true))⟩, ⟨(some 7), (.bin .leq (.t 6) (.c (.int .i64 12))), (some (5, true))⟩, ⟨(some 8), (.pick (.t 5) (.t 7) (.c (.bool false))), none⟩, ⟨(some 2), (.mov (.t 8)), none⟩]) .ret))
theorem cc36 : ccode Try.prog (min Try.f36.ntmps pbase) (Try.f36.body.getD .skip) = some ac36 := by kernel_rfl
def ac37 : ACode := (.seq (.ops [⟨(some 2), (.nils 1), none⟩]) (.seq (.ops [⟨(some 3), (.alloc [(.slice none 0 0)]), none⟩]) (.seq (.ops [⟨(some 4), (.alloc [.nilFunc]), none⟩]) (.seq (.ops [⟨(some 5), (.mkf 68 0 [(.t 3), (.t 4)]), none⟩, ⟨none, (.st 1 (.t 4) (.t 5)), none⟩]) (.seq (.ops [⟨(some 6), (.ld none (.t 4)), none⟩, ⟨(some 7), (.mov (.t 0)), none⟩, ⟨(some 8), (.callv (.t 6) [(.t 7), (.c (.slice none 0 0))]), none⟩]) (.seq (.ops [⟨(some 9), (.ld none (.t 3)), none⟩, ⟨(some 2), (.mov (.t 9)), none⟩]) .ret))))))
theorem cc37 : ccode Try.prog (min Try.f37.ntmps pbase) (Try.f37.body.getD .skip) = some ac37 := by kernel_rfl
def ac38 : ACode := (.seq (.ops [⟨(some 2), (.mov (.c (.bool false))), none⟩]) (.seq (.ops [⟨(some 3), (.mov (.t 0)), none⟩, ⟨(some 4), (.call 61 [(.t 3), (.c (.int .i64 1)), (.c (.int .i64 12))]), none⟩, ⟨(some 2), (.mov (.t 4)), none⟩]) .ret))
theorem cc38 : ccode Try.prog (min Try.f38.ntmps pbase) (Try.f38.body.getD .skip) = some ac38 := by kernel_rfl
def ac39 : ACode := (.seq (.ops [⟨(some 4), (.nils 1), none⟩]) (.seq (.seq (.ops [⟨(some 9), (.mov (.t 0)), none⟩, ⟨(some 10), (.bin .eql (.t 9) (.c (.int .i64 0))), none⟩]) (.cond (.t 10) (.seq (.ops [⟨(some 11), (.bsl 1 0 [(.int .i64 0)] []), none⟩, ⟨(some 12), (.bsl 1 1 [(.slice none 0 0)] [(0, (.t 11))]), none⟩, ⟨(some 4), (.mov (.t 12)), none⟩]) .ret) .skip)) (.seq (.ops [⟨(some 5), (.nils 1), none⟩]) (.seq (.seq (.ops [⟨(some 13), (.mov (.t 0)), none⟩, ⟨(some 14), (.mov (.t 1)), none⟩, ⟨(some 15), (.call 70 [(.t 13), (.t 14)]), none⟩, ⟨(some 6), (.mov (.t 15)), none⟩]) (.block 0 (.loop (.seq (.seq (.ops [⟨(some 16), (.mov (.t 6)), none⟩, ⟨(some 17), (.bin .gtr (.t 16) (.c (.int .i64 0))), none⟩]) (.cond (.t 17) .skip (.exit 0))) (.seq (.block 1 (.seq (.ops [⟨(some 20), (.mov (.t 0)), none⟩, ⟨(some 21), (.mov (.t 6)), none⟩, ⟨(some 22), (.bin .sub (.t 20) (.t 21)), none⟩, ⟨(some 23), (.mov (.t 6)), none⟩, ⟨(some 24), (.call 39 [(.t 22), (.t 23)]), none⟩, ⟨(some 25), (.len (.t 24)), none⟩, ⟨(some 26), (.mov (.c (.int .i64 0))), none⟩]) (.block 2 (.loop (.seq (.ops [⟨(some 27), (.bin .lss (.t 26) (.t 25)), none⟩]) (.seq (.cond (.t 27) .skip (.exit 2)) (.seq (.block 3 (.seq (.ops [⟨(some 28), (.idx 1 (.t 24) (.t 26)), none⟩, ⟨(some 29), (.ld none (.t 28)), none⟩, ⟨(some 8), (.mov (.t 29)), none⟩]) (.ops [⟨(some 30), (.mov (.t 5)), none⟩, ⟨(some 31), (.mov (.t 6)), none⟩, ⟨(some 32), (.bsl 1 1 [(.int .i64 0)] [(0, (.t 31))]), none⟩, ⟨(some 33), (.mov (.t 8)), none⟩, ⟨(some 34), (.app 1 8 (.t 32) (.t 33)), none⟩, ⟨(some 35), (.bsl 1 1 [(.slice none 0 0)] [(0, (.t 34))]), none⟩, ⟨(some 36), (.app 1 24 (.t 30) (.t 35)), none⟩, ⟨(some 5), (.mov (.t 36)), none⟩]))) (.ops [⟨(some 37), (.bin .add (.t 26) (.c (.int .i64 1))), none⟩, ⟨(some 26), (.mov (.t 37)), none⟩])))))))) (.ops [⟨(some 18), (.mov (.t 6)), none⟩, ⟨(some 19), (.bin .sub (.t 18) (.c (.int .i64 1))), none⟩, ⟨(some 6), (.mov (.t 19)), none⟩])))))) (.seq (.ops [⟨(some 38), (.mov (.t 5)), none⟩, ⟨(some 4), (.mov (.t 38)), none⟩]) .ret)))))
theorem cc39 : ccode Try.prog (min Try.f39.ntmps pbase) (Try.f39.body.getD .skip) = some ac39 := by kernel_rfl
def ac40 : ACode := (.seq (.ops [⟨(some 4), (.alloc [(.int .i64 0), (.int .i64 0)]), none⟩]) (.seq (.ops [⟨(some 6), (.mov (.t 0)), none⟩, ⟨(some 7), (.mov (.t 1)), none⟩, ⟨(some 8), (.call 71 [(.t 6), (.t 7)]), none⟩, ⟨(some 5), (.mov (.t 8)), none⟩]) (.seq (.tree (.take ⟨(some 9), (.mov (.t 0)), none⟩ (.take ⟨(some 10), (.mov (.t 5)), none⟩ (.take ⟨(some 11), (.bin .quo (.t 9) (.t 10)), none⟩ (.take ⟨(some 12), (.mov (.t 1)), none⟩ (.take ⟨(some 13), (.mov (.t 5)), none⟩ (.take ⟨(some 14), (.bin .quo (.t 12) (.t 13)), none⟩ (.take ⟨(some 15), (.pu (.bld [(.int .i64 0), (.int .i64 0)] [(0, 1), (1, 1)]) [(.t 11), (.t 14)]), none⟩ (.take ⟨none, (.st 2 (.t 4) (.t 15)), none⟩ .done))))))))) .ret)))
theorem cc40 : ccode Try.prog (min Try.f40.ntmps pbase) (Try.f40.body.getD .skip) = some ac40 := by kernel_rfl
def ac41 : ACode := (.seq (.ops [⟨(some 2), (.box 2 (.t 0)), none⟩, ⟨(some 3), (.box 2 (.t 1)), none⟩, ⟨(some 4), (.alloc [(.int .i64 0), (.int .i64 0)]), none⟩]) (.seq (.ops [⟨(some 5), (.fa 0 (.t 2)), none⟩, ⟨(some 6), (.ld none (.t 5)), none⟩, ⟨(some 7), (.fa 1 (.t 3)), none⟩, ⟨(some 8), (.ld none (.t 7)), none⟩, ⟨(some 9), (.bin .mul (.t 6) (.t 8)), none⟩, ⟨(some 10), (.fa 0 (.t 3)), none⟩, ⟨(some 11), (.ld none (.t 10)), none⟩, ⟨(some 12), (.fa 1 (.t 2)), none⟩, ⟨(some 13), (.ld none (.t 12)), none⟩, ⟨(some 14), (.bin .mul (.t 11) (.t 13)), none⟩, ⟨(some 15), (.bin .add (.t 9) (.t 14)), none⟩, ⟨(some 16), (.fa 1 (.t 2)), none⟩, ⟨(some 17), (.ld none (.t 16)), none⟩, ⟨(some 18), (.fa 1 (.t 3)), none⟩, ⟨(some 19), (.ld none (.t 18)), none⟩, ⟨(some 20), (.bin .mul (.t 17) (.t 19)), none⟩, ⟨(some 21), (.call 40 [(.t 15), (.t 20)]), none⟩, ⟨none, (.st 2 (.t 4) (.t 21)), none⟩]) .ret))
theorem cc41 : ccode Try.prog (min Try.f41.ntmps pbase) (Try.f41.body.getD .skip) = some ac41 := by kernel_rfl
def ac42 : ACode := (.seq (.ops [⟨(some 2), (.alloc [(.int .i64 0), (.int .i64 0)]), none⟩]) (.seq (.ops [⟨(some 3), (.mov (.t 0)), none⟩, ⟨(some 4), (.call 40 [(.c (.int .i64 1)), (.t 3)]), none⟩, ⟨none, (.st 2 (.t 2) (.t 4)), none⟩]) .ret))
theorem cc42 : ccode Try.prog (min Try.f42.ntmps pbase) (Try.f42.body.getD .skip) = some ac42 := by kernel_rfl
def ac43 : ACode := (.seq (.ops [⟨(some 1), (.box 2 (.t 0)), none⟩, ⟨(some 2), (.mov (.c (.int .i64 0))), none⟩, ⟨(some 3), (.mov (.c (.int .i64 0))), none⟩, ⟨(some 4), (.mov (.c (.bool false))), none⟩]) (.seq (.tree (.take ⟨(some 5), (.fa 0 (.t 1)), none⟩ (.take ⟨(some 6), (.ld none (.t 5)), none⟩ (.take ⟨(some 7), (.fa 1 (.t 1)), none⟩ (.take ⟨(some 8), (.ld none (.t 7)), none⟩ (.take ⟨(some 2), (.mov (.t 6)), none⟩ (.take ⟨(some 3), (.mov (.t 8)), none⟩ (.take ⟨(some 4), (.mov (.c (.bool true))), none⟩ .done)))))))) .ret))
theorem cc43 : ccode Try.prog (min Try.f43.ntmps pbase) (Try.f43.body.getD .skip) = some ac43 := by kernel_rfl
def ac44 : ACode := (.seq (.ops [⟨(some 4), (.mov (.c (.int .i64 0))), none⟩, ⟨(some 5), (.mov (.c (.int .i64 0))), none⟩]) (.seq (.ops [⟨(some 8), (.mov (.t 0)), none⟩, ⟨(some 9), (.mov (.t 1)), none⟩, ⟨(some 6), (.mov (.t 8)), none⟩, ⟨(some 7), (.mov (.t 9)), none⟩]) (.seq (.block 0 (.loop (.seq (.seq (.ops [⟨(some 10), (.mov (.t 7)), none⟩, ⟨(some 11), (.bin .gtr (.t 10) (.c (.int .i64 0))), none⟩]) (.cond (.t 11) .skip (.exit 0))) (.block 1 (.tree (.take ⟨(some 12), (.mov (.t 7)), none⟩ (.take ⟨(some 13), (.mov (.t 6)), none⟩ (.take ⟨(some 14), (.mov (.t 7)), none⟩ (.take ⟨(some 15), (.bin .rem (.t 13) (.t 14)), none⟩ (.take ⟨(some 6), (.mov (.t 12)), none⟩ (.take ⟨(some 7), (.mov (.t 15)), none⟩ .done))))))))))) (.seq (.tree (.take ⟨(some 16), (.mov (.t 0)), none⟩ (.take ⟨(some 17), (.mov (.t 6)), none⟩ (.take ⟨(some 18), (.bin .quo (.t 16) (.t 17)), none⟩ (.take ⟨(some 19), (.mov (.t 1)), none⟩ (.take ⟨(some 20), (.mov (.t 6)), none⟩ (.take ⟨(some 21), (.bin .quo (.t 19) (.t 20)), none⟩ (.take ⟨(some 4), (.mov (.t 18)), none⟩ (.take ⟨(some 5), (.mov (.t 21)), none⟩ .done))))))))) .ret))))
theorem cc44 : ccode Try.prog (min Try.f44.ntmps pbase) (Try.f44.body.getD .skip) = some ac44 := by kernel_rfl
def ac45 : ACode := (.seq (.ops [⟨(some 6), (.mov (.c (.int .i64 0))), none⟩]) (.seq (.ops [⟨(some 10), (.mov (.t 0)), none⟩, ⟨(some 11), (.bin .add (.t 10) (.c (.int .i64 1))), none⟩, ⟨(some 12), (.mk 1 8 [(.int .i64 0)] (.t 11) (.t 11)), none⟩, ⟨(some 7), (.mov (.t 12)), none⟩]) (.seq (.ops [⟨(some 13), (.mov (.t 7)), none⟩, ⟨(some 14), (.idx 1 (.t 13) (.c (.int .i64 0))), none⟩, ⟨none, (.st 1 (.t 14) (.c (.int .i64 1))), none⟩]) (.seq (.seq (.ops [⟨(some 8), (.mov (.c (.int .i64 1))), none⟩]) (.block 0 (.loop (.seq (.seq (.ops [⟨(some 15), (.mov (.t 8)), none⟩, ⟨(some 16), (.mov (.t 0)), none⟩, ⟨(some 17), (.bin .leq (.t 15) (.t 16)), none⟩]) (.cond (.t 17) .skip (.exit 0))) (.seq (.block 1 (.seq (.ops [⟨(some 20), (.mov (.t 1)), none⟩, ⟨(some 9), (.mov (.t 20)), none⟩]) (.block 2 (.loop (.seq (.seq (.ops [⟨(some 21), (.mov (.t 9)), none⟩, ⟨(some 22), (.mov (.t 2)), none⟩, ⟨(some 23), (.mov (.t 8)), none⟩, ⟨(some 24), (.pu (.mm false) [(.t 22), (.t 23)]), none⟩, ⟨(some 25), (.bin .leq (.t 21) (.t 24)), none⟩]) (.cond (.t 25) .skip (.exit 2))) (.seq (.block 3 (.tree (.take ⟨(some 28), (.mov (.t 7)), none⟩ (.take ⟨(some 29), (.mov (.t 8)), none⟩ (.take ⟨(some 30), (.idx 1 (.t 28) (.t 29)), none⟩ (.take ⟨(some 31), (.ld none (.t 30)), none⟩ (.take ⟨(some 32), (.mov (.t 8)), none⟩ (.take ⟨(some 33), (.bin .sub (.t 32) (.c (.int .i64 1))), none⟩ (.take ⟨(some 34), (.call 63 [(.t 33)]), none⟩ (.take ⟨(some 35), (.mov (.t 8)), none⟩ (.take ⟨(some 36), (.mov (.t 9)), none⟩ (.take ⟨(some 37), (.bin .sub (.t 35) (.t 36)), none⟩ (.take ⟨(some 38), (.call 63 [(.t 37)]), none⟩ (.take ⟨(some 39), (.bin .quo (.t 34) (.t 38)), none⟩ (.take ⟨(some 40), (.mov (.t 7)), none⟩ (.take ⟨(some 41), (.mov (.t 8)), none⟩ (.take ⟨(some 42), (.mov (.t 9)), none⟩ (.take ⟨(some 43), (.bin .sub (.t 41) (.t 42)), none⟩ (.take ⟨(some 44), (.idx 1 (.t 40) (.t 43)), none⟩ (.take ⟨(some 45), (.ld none (.t 44)), none⟩ (.take ⟨(some 46), (.bin .mul (.t 39) (.t 45)), none⟩ (.take ⟨(some 47), (.bin .add (.t 31) (.t 46)), none⟩ (.take ⟨(some 48), (.idx 1 (.t 28) (.t 29)), none⟩ (.take ⟨none, (.st 1 (.t 48) (.t 47)), none⟩ .done)))))))))))))))))))))))) (.ops [⟨(some 26), (.mov (.t 9)), none⟩, ⟨(some 27), (.bin .add (.t 26) (.c (.int .i64 1))), none⟩, ⟨(some 9), (.mov (.t 27)), none⟩]))))))) (.ops [⟨(some 18), (.mov (.t 8)), none⟩, ⟨(some 19), (.bin .add (.t 18) (.c (.int .i64 1))), none⟩, ⟨(some 8), (.mov (.t 19)), none⟩])))))) (.seq (.ops [⟨(some 49), (.mov (.t 7)), none⟩, ⟨(some 50), (.mov (.t 0)), none⟩, ⟨(some 51), (.idx 1 (.t 49) (.t 50)), none⟩, ⟨(some 52), (.ld none (.t 51)), none⟩, ⟨(some 6), (.mov (.t 52)), none⟩]) .ret)))))
theorem cc45 : ccode Try.prog (min Try.f45.ntmps pbase) (Try.f45.body.getD .skip) = some ac45 := by kernel_rfl
def ac46 : ACode := (.seq (.ops [⟨(some 4), (.mov (.c (.int .i64 0))), none⟩]) (.seq (.ops [⟨(some 5), (.mov (.c (.int .i64 0))), none⟩]) (.seq (.seq (.ops [⟨(some 8), (.mov (.t 0)), none⟩, ⟨(some 9), (.mov (.t 0)), none⟩, ⟨(some 10), (.call 39 [(.t 8), (.t 9)]), none⟩, ⟨(some 11), (.len (.t 10)), none⟩, ⟨(some 12), (.mov (.c (.int .i64 0))), none⟩]) (.block 0 (.loop (.seq (.ops [⟨(some 13), (.bin .lss (.t 12) (.t 11)), none⟩]) (.seq (.cond (.t 13) .skip (.exit 0)) (.seq (.block 1 (.seq (.ops [⟨(some 14), (.idx 1 (.t 10) (.t 12)), none⟩, ⟨(some 15), (.ld none (.t 14)), none⟩, ⟨(some 7), (.mov (.t 15)), none⟩]) (.seq (.ops [⟨(some 16), (.mov (.t 7)), none⟩, ⟨(some 17), (.idx 1 (.t 16) (.c (.int .i64 0))), none⟩, ⟨(some 18), (.ld none (.t 17)), none⟩, ⟨(some 19), (.mov (.t 1)), none⟩, ⟨(some 20), (.bin .leq (.t 18) (.t 19)), none⟩]) (.cond (.t 20) (.ops [⟨(some 21), (.mov (.t 5)), none⟩, ⟨(some 22), (.mov (.t 7)), none⟩, ⟨(some 23), (.call 62 [(.t 22)]), none⟩, ⟨(some 24), (.bin .add (.t 21) (.t 23)), none⟩, ⟨(some 5), (.mov (.t 24)), none⟩]) .skip)))) (.ops [⟨(some 25), (.bin .add (.t 12) (.c (.int .i64 1))), none⟩, ⟨(some 12), (.mov (.t 25)), none⟩]))))))) (.seq (.ops [⟨(some 26), (.mov (.t 5)), none⟩, ⟨(some 4), (.mov (.t 26)), none⟩]) .ret))))
theorem cc46 : ccode Try.prog (min Try.f46.ntmps pbase) (Try.f46.body.getD .skip) = some ac46 := by kernel_rfl
def ac47 : ACode := (.seq (.ops [⟨(some 2), (.mov (.c (.int .i64 0))), none⟩]) (.seq (.ops [⟨(some 3), (.mov (.c (.int .i64 1))), none⟩]) (.seq (.seq (.ops [⟨(some 6), (.mov (.t 0)), none⟩, ⟨(some 7), (.len (.t 6)), none⟩, ⟨(some 8), (.mov (.c (.int .i64 0))), none⟩]) (.block 0 (.loop (.seq (.ops [⟨(some 9), (.bin .lss (.t 8) (.t 7)), none⟩]) (.seq (.cond (.t 9) .skip (.exit 0)) (.seq (.block 1 (.seq (.ops [⟨(some 10), (.idx 1 (.t 6) (.t 8)), none⟩, ⟨(some 11), (.ld none (.t 10)), none⟩, ⟨(some 5), (.mov (.t 11)), none⟩]) (.ops [⟨(some 12), (.mov (.t 3)), none⟩, ⟨(some 13), (.mov (.t 3)), none⟩, ⟨(some 14), (.mov (.t 5)), none⟩, ⟨(some 15), (.call 71 [(.t 13), (.t 14)]), none⟩, ⟨(some 16), (.bin .quo (.t 12) (.t 15)), none⟩, ⟨(some 17), (.mov (.t 5)), none⟩, ⟨(some 18), (.bin .mul (.t 16) (.t 17)), none⟩, ⟨(some 3), (.mov (.t 18)), none⟩]))) (.ops [⟨(some 19), (.bin .add (.t 8) (.c (.int .i64 1))), none⟩, ⟨(some 8), (.mov (.t 19)), none⟩]))))))) (.seq (.ops [⟨(some 20), (.mov (.t 3)), none⟩, ⟨(some 2), (.mov (.t 20)), none⟩]) .ret))))
theorem cc47 : ccode Try.prog (min Try.f47.ntmps pbase) (Try.f47.body.getD .skip) = some ac47 := by kernel_rfl
def ac48 : ACode := (.seq (.ops [⟨(some 4), (.mov (.c (.int .i64 0))), none⟩]) (.seq (.seq (.ops [⟨(some 5), (.mov (.t 0)), none⟩, ⟨(some 6), (.mov (.t 1)), none⟩, ⟨(some 7), (.bin .gtr (.t 5) (.t 6)), none⟩]) (.cond (.t 7) (.seq (.ops [⟨(some 8), (.mov (.t 0)), none⟩, ⟨(some 4), (.mov (.t 8)), none⟩]) .ret) .skip)) (.seq (.ops [⟨(some 9), (.mov (.t 1)), none⟩, ⟨(some 4), (.mov (.t 9)), none⟩]) .ret)))
theorem cc48 : ccode Try.prog (min Try.f48.ntmps pbase) (Try.f48.body.getD .skip) = some ac48 := by kernel_rfl
def ac49 : ACode := (.seq (.ops [⟨(some 2), (.mov (.c (.int .i64 0))), none⟩]) (.seq (.ops [⟨(some 3), (.mov (.c (.int .i64 1))), none⟩]) (.seq (.seq (.ops [⟨(some 8), (.mov (.t 0)), none⟩, ⟨(some 9), (.len (.t 8)), none⟩, ⟨(some 10), (.mov (.c (.int .i64 0))), none⟩]) (.block 0 (.loop (.seq (.ops [⟨(some 11), (.bin .lss (.t 10) (.t 9)), none⟩]) (.seq (.cond (.t 11) .skip (.exit 0)) (.seq (.block 1 (.seq (.ops [⟨(some 12), (.idx 1 (.t 8) (.t 10)), none⟩, ⟨(some 13), (.ld none (.t 12)), none⟩, ⟨(some 5), (.mov (.t 13)), none⟩]) (.seq (.ops [⟨(some 14), (.mov (.t 3)), none⟩, ⟨(some 15), (.mov (.t 5)), none⟩, ⟨(some 6), (.mov (.t 14)), none⟩, ⟨(some 7), (.mov (.t 15)), none⟩]) (.seq (.block 2 (.loop (.seq (.seq (.ops [⟨(some 16), (.mov (.t 7)), none⟩, ⟨(some 17), (.bin .gtr (.t 16) (.c (.int .i64 0))), none⟩]) (.cond (.t 17) .skip (.exit 2))) (.block 3 (.tree (.take ⟨(some 18), (.mov (.t 7)), none⟩ (.take ⟨(some 19), (.mov (.t 6)), none⟩ (.take ⟨(some 20), (.mov (.t 7)), none⟩ (.take ⟨(some 21), (.bin .rem (.t 19) (.t 20)), none⟩ (.take ⟨(some 6), (.mov (.t 18)), none⟩ (.take ⟨(some 7), (.mov (.t 21)), none⟩ .done))))))))))) (.ops [⟨(some 22), (.mov (.t 3)), none⟩, ⟨(some 23), (.mov (.t 6)), none⟩, ⟨(some 24), (.bin .quo (.t 22) (.t 23)), none⟩, ⟨(some 25), (.mov (.t 5)), none⟩, ⟨(some 26), (.bin .mul (.t 24) (.t 25)), none⟩, ⟨(some 3), (.mov (.t 26)), none⟩]))))) (.ops [⟨(some 27), (.bin .add (.t 10) (.c (.int .i64 1))), none⟩, ⟨(some 10), (.mov (.t 27)), none⟩]))))))) (.seq (.ops [⟨(some 28), (.mov (.t 3)), none⟩, ⟨(some 2), (.mov (.t 28)), none⟩]) .ret))))
theorem cc49 : ccode Try.prog (min Try.f49.ntmps pbase) (Try.f49.body.getD .skip) = some ac49 := by kernel_rfl
def ac50 : ACode := (.seq (.ops [⟨(some 4), (.mov (.c (.bool false))), none⟩]) (.seq (.seq (.ops [⟨(some 6), (.mov (.t 0)), none⟩, ⟨(some 7), (.len (.t 6)), none⟩, ⟨(some 8), (.mov (.t 1)), none⟩, ⟨(some 9), (.len (.t 8)), none⟩, ⟨(some 10), (.bin .neq (.t 7) (.t 9)), none⟩]) (.cond (.t 10) (.seq (.ops [⟨(some 4), (.mov (.c (.bool false))), none⟩]) .ret) .skip)) (.seq (.seq (.ops [⟨(some 11), (.mov (.t 0)), none⟩, ⟨(some 12), (.len (.t 11)), none⟩, ⟨(some 13), (.mov (.c (.int .i64 0))), none⟩]) (.block 0 (.loop (.seq (.ops [⟨(some 14), (.bin .lss (.t 13) (.t 12)), none⟩]) (.seq (.cond (.t 14) .skip (.exit 0)) (.seq (.block 1 (.seq (.ops [⟨(some 15), (.mov (.t 13)), none⟩, ⟨(some 5), (.mov (.t 15)), none⟩]) (.seq (.tree (.take ⟨(some 16), (.mov (.t 0)), none⟩ (.take ⟨(some 17), (.mov (.t 5)), none⟩ (.take ⟨(some 18), (.idx 1 (.t 16) (.t 17)), none⟩ (.take ⟨(some 19), (.ld none (.t 18)), none⟩ (.take ⟨(some 20), (.mov (.t 1)), none⟩ (.take ⟨(some 21), (.mov (.t 5)), none⟩ (.take ⟨(some 22), (.idx 1 (.t 20) (.t 21)), none⟩ (.take ⟨(some 23), (.ld none (.t 22)), none⟩ (.take ⟨(some 24), (.bin .neq (.t 19) (.t 23)), none⟩ .done)))))))))) (.cond (.t 24) (.seq (.ops [⟨(some 4), (.mov (.c (.bool false))), none⟩]) .ret) .skip)))) (.ops [⟨(some 25), (.bin .add (.t 13) (.c (.int .i64 1))), none⟩, ⟨(some 13), (.mov (.t 25)), none⟩]))))))) (.seq (.ops [⟨(some 4), (.mov (.c (.bool true))), none⟩]) .ret))))
theorem cc50 : ccode Try.prog (min Try.f50.ntmps pbase) (Try.f50.body.getD .skip) = some ac50 := by kernel_rfl
def ac51 : ACode := (.seq (.ops [⟨(some 2), (.mov (.c (.bool false))), none⟩]) (.seq (.ops [⟨(some 3), (.mov (.c (.int .i64 0))), none⟩]) (.seq (.seq (.ops [⟨(some 6), (.mov (.t 0)), none⟩, ⟨(some 7), (.len (.t 6)), none⟩, ⟨(some 8), (.mov (.c (.int .i64 0))), none⟩]) (.block 0 (.loop (.seq (.ops [⟨(some 9), (.bin .lss (.t 8) (.t 7)), none⟩]) (.seq (.cond (.t 9) .skip (.exit 0)) (.seq (.block 1 (.seq (.ops [⟨(some 10), (.mov (.t 8)), none⟩, ⟨(some 11), (.idx 1 (.t 6) (.t 8)), none⟩, ⟨(some 12), (.ld none (.t 11)), none⟩, ⟨(some 4), (.mov (.t 10)), none⟩, ⟨(some 5), (.mov (.t 12)), none⟩]) (.seq (.seq (.ops [⟨(some 13), (.mov (.t 5)), none⟩, ⟨(some 14), (.bin .lss (.t 13) (.c (.int .i64 1))), none⟩, ⟨(some 15), (.mov (.t 14)), none⟩, ⟨(some 16), (.mov (.t 5)), (some (15, false))⟩, ⟨(some 17), (.mov (.t 3)), (some (15, false))⟩, ⟨(some 18), (.bin .sub (.c (.int .i64 12)) (.t 17)), (some (15, false))⟩, ⟨(some 19), (.bin .gtr (.t 16) (.t 18)), (some (15, false))⟩, ⟨(some 20), (.pick (.t 15) (.c (.bool true)) (.t 19)), none⟩, ⟨(some 21), (.mov (.t 20)), none⟩, ⟨(some 22), (.mov (.t 4)), (some (21, false))⟩, ⟨(some 23), (.bin .gtr (.t 22) (.c (.int .i64 0))), (some (21, false))⟩, ⟨(some 24), (.mov (.t 23)), (some (21, false))⟩, ⟨(some 25), (.mov (.t 5)), (some (24, true))⟩, ⟨(some 26), (.mov (.t 0)), (some (24, true))⟩, ⟨(some 27), (.mov (.t 4)), (some (24, true))⟩, ⟨(some 28), (.bin .sub (.t 27) (.c (.int .i64 1))), (some (24, true))⟩, ⟨(some 29), (.idx 1 (.t 26) (.t 28)), (some (24, true))⟩, ⟨(some 30), (.ld none (.t 29)), (some (24, true))⟩, ⟨(some 31), (.bin .gtr (.t 25) (.t 30)), (some (24, true))⟩, ⟨(some 32), (.pick (.t 24) (.t 31) (.c (.bool false))), (some (21, false))⟩, ⟨(some 33), (.pick (.t 21) (.c (.bool true)) (.t 32)), none⟩]) (.cond (.t 33) (.seq (.ops [⟨(some 2), (.mov (.c (.bool false))), none⟩]) .ret) .skip)) (.ops [⟨(some 34), (.mov (.t 3)), none⟩, ⟨(some 35), (.mov (.t 5)), none⟩, ⟨(some 36), (.bin .add (.t 34) (.t 35)), none⟩, ⟨(some 3), (.mov (.t 36)), none⟩])))) (.ops [⟨(some 37), (.bin .add (.t 8) (.c (.int .i64 1))), none⟩, ⟨(some 8), (.mov (.t 37)), none⟩]))))))) (.seq (.ops [⟨(some 38), (.mov (.t 3)), none⟩, ⟨(some 39), (.call 36 [(.t 38)]), none⟩, ⟨(some 2), (.mov (.t 39)), none⟩]) .ret))))
theorem cc51 : ccode Try.prog (min Try.f51.ntmps pbase) (Try.f51.body.getD .skip) = some ac51 := by kernel_rfl
def ac52 : ACode := (.seq (.ops [⟨(some 2), (.mov (.c (.int .i64 0))), none⟩]) (.seq (.ops [⟨(some 3), (.mov (.c (.int .i64 0))), none⟩, ⟨(some 4), (.mov (.c (.int .i64 0))), none⟩]) (.seq (.ops [⟨(some 5), (.mov (.c (.int .i64 1))), none⟩]) (.seq (.seq (.ops [⟨(some 8), (.mov (.t 0)), none⟩, ⟨(some 9), (.len (.t 8)), none⟩, ⟨(some 10), (.mov (.c (.int .i64 0))), none⟩]) (.block 0 (.loop (.seq (.ops [⟨(some 11), (.bin .lss (.t 10) (.t 9)), none⟩]) (.seq (.cond (.t 11) .skip (.exit 0)) (.seq (.block 1 (.seq (.ops [⟨(some 12), (.mov (.t 10)), none⟩, ⟨(some 13), (.idx 1 (.t 8) (.t 10)), none⟩, ⟨(some 14), (.ld none (.t 13)), none⟩, ⟨(some 6), (.mov (.t 12)), none⟩, ⟨(some 7), (.mov (.t 14)), none⟩]) (.seq (.seq (.ops [⟨(some 15), (.mov (.t 6)), none⟩, ⟨(some 16), (.bin .gtr (.t 15) (.c (.int .i64 0))), none⟩, ⟨(some 17), (.mov (.t 16)), none⟩, ⟨(some 18), (.mov (.t 7)), (some (17, true))⟩, ⟨(some 19), (.mov (.t 0)), (some (17, true))⟩, ⟨(some 20), (.mov (.t 6)), (some (17, true))⟩, ⟨(some 21), (.bin .sub (.t 20) (.c (.int .i64 1))), (some (17, true))⟩, ⟨(some 22), (.idx 1 (.t 19) (.t 21)), (some (17, true))⟩, ⟨(some 23), (.ld none (.t 22)), (some (17, true))⟩, ⟨(some 24), (.bin .neq (.t 18) (.t 23)), (some (17, true))⟩, ⟨(some 25), (.pick (.t 17) (.t 24) (.c (.bool false))), none⟩]) (.cond (.t 25) (.ops [⟨(some 4), (.mov (.c (.int .i64 0))), none⟩]) .skip)) (.seq (.ops [⟨(some 26), (.mov (.t 4)), none⟩, ⟨(some 27), (.bin .add (.t 26) (.c (.int .i64 1))), none⟩, ⟨(some 4), (.mov (.t 27)), none⟩]) (.seq (.ops [⟨(some 28), (.mov (.t 5)), none⟩, ⟨(some 29), (.mov (.t 7)), none⟩, ⟨(some 30), (.mov (.t 4)), none⟩, ⟨(some 31), (.bin .mul (.t 29) (.t 30)), none⟩, ⟨(some 32), (.bin .mul (.t 28) (.t 31)), none⟩, ⟨(some 5), (.mov (.t 32)), none⟩]) (.ops [⟨(some 33), (.mov (.t 3)), none⟩, ⟨(some 34), (.mov (.t 7)), none⟩, ⟨(some 35), (.bin .add (.t 33) (.t 34)), none⟩, ⟨(some 3), (.mov (.t 35)), none⟩])))))) (.ops [⟨(some 36), (.bin .add (.t 10) (.c (.int .i64 1))), none⟩, ⟨(some 10), (.mov (.t 36)), none⟩]))))))) (.seq (.ops [⟨(some 37), (.mov (.t 3)), none⟩, ⟨(some 38), (.call 63 [(.t 37)]), none⟩, ⟨(some 39), (.mov (.t 5)), none⟩, ⟨(some 40), (.bin .quo (.t 38) (.t 39)), none⟩, ⟨(some 2), (.mov (.t 40)), none⟩]) .ret)))))
theorem cc52 : ccode Try.prog (min Try.f52.ntmps pbase) (Try.f52.body.getD .skip) = some ac52 := by kernel_rfl
def ac53 : ACode := (.seq (.ops [⟨(some 4), (.mov (.c (.int .i64 0))), none⟩]) (.seq (.ops [⟨(some 5), (.mov (.c (.int .i64 0))), none⟩]) (.seq (.seq (.ops [⟨(some 8), (.mov (.t 0)), none⟩, ⟨(some 9), (.call 37 [(.t 8)]), none⟩, ⟨(some 10), (.len (.t 9)), none⟩, ⟨(some 11), (.mov (.c (.int .i64 0))), none⟩]) (.block 0 (.loop (.seq (.ops [⟨(some 12), (.bin .lss (.t 11) (.t 10)), none⟩]) (.seq (.cond (.t 12) .skip (.exit 0)) (.seq (.block 1 (.seq (.ops [⟨(some 13), (.idx 1 (.t 9) (.t 11)), none⟩, ⟨(some 14), (.ld none (.t 13)), none⟩, ⟨(some 7), (.mov (.t 14)), none⟩]) (.seq (.ops [⟨(some 15), (.mov (.t 1)), none⟩, ⟨(some 16), (.mov (.t 7)), none⟩, ⟨(some 17), (.callv (.t 15) [(.t 16)]), none⟩]) (.cond (.t 17) (.ops [⟨(some 18), (.mov (.t 5)), none⟩, ⟨(some 19), (.mov (.t 7)), none⟩, ⟨(some 20), (.call 52 [(.t 19)]), none⟩, ⟨(some 21), (.bin .add (.t 18) (.t 20)), none⟩, ⟨(some 5), (.mov (.t 21)), none⟩]) .skip)))) (.ops [⟨(some 22), (.bin .add (.t 11) (.c (.int .i64 1))), none⟩, ⟨(some 11), (.mov (.t 22)), none⟩]))))))) (.seq (.ops [⟨(some 23), (.mov (.t 5)), none⟩, ⟨(some 4), (.mov (.t 23)), none⟩]) .ret))))
theorem cc53 : ccode Try.prog (min Try.f53.ntmps pbase) (Try.f53.body.getD .skip) = some ac53 := by kernel_rfl
def ac54 : ACode := (.seq (.ops [⟨(some 3), (.mov (.c (.bool false))), none⟩]) (.seq (.ops [⟨(some 4), (.mov (.t 0)), none⟩, ⟨(some 5), (.len (.t 4)), none⟩, ⟨(some 6), (.ld none (.t 1)), none⟩, ⟨(some 7), (.bin .eql (.t 5) (.t 6)), none⟩, ⟨(some 3), (.mov (.t 7)), none⟩]) .ret))
theorem cc54 : ccode Try.prog (min Try.f54.ntmps pbase) (Try.f54.body.getD .skip) = some ac54 := by kernel_rfl
def ac55 : ACode := (.seq (.ops [⟨(some 4), (.mov (.c (.bool false))), none⟩]) (.seq (.ops [⟨(some 5), (.mov (.t 0)), none⟩, ⟨(some 6), (.call 36 [(.t 5)]), none⟩, ⟨(some 7), (.mov (.t 6)), none⟩, ⟨(some 8), (.mov (.t 1)), (some (7, true))⟩, ⟨(some 9), (.bin .geq (.t 8) (.c (.int .i64 1))), (some (7, true))⟩, ⟨(some 10), (.pick (.t 7) (.t 9) (.c (.bool false))), none⟩, ⟨(some 11), (.mov (.t 10)), none⟩, ⟨(some 12), (.mov (.t 1)), (some (11, true))⟩, ⟨(some 13), (.mov (.t 0)), (some (11, true))⟩, ⟨(some 14), (.bin .leq (.t 12) (.t 13)), (some (11, true))⟩, ⟨(some 15), (.pick (.t 11) (.t 14) (.c (.bool false))), none⟩, ⟨(some 4), (.mov (.t 15)), none⟩]) .ret))
theorem cc55 : ccode Try.prog (min Try.f55.ntmps pbase) (Try.f55.body.getD .skip) = some ac55 := by kernel_rfl
def ac56 : ACode := (.seq (.ops [⟨(some 3), (.mov (.c (.bool false))), none⟩]) (.seq (.tree (.take ⟨(some 4), (.mov (.t 0)), none⟩ (.take ⟨(some 5), (.call 57 [(.t 4)]), none⟩ (.take ⟨(some 6), (.ld none (.t 1)), none⟩ (.take ⟨(some 7), (.bin .eql (.t 5) (.t 6)), none⟩ (.take ⟨(some 3), (.mov (.t 7)), none⟩ .done)))))) .ret))
theorem cc56 : ccode Try.prog (min Try.f56.ntmps pbase) (Try.f56.body.getD .skip) = some ac56 := by kernel_rfl
def ac57 : ACode := (.seq (.ops [⟨(some 2), (.mov (.c (.int .i64 0))), none⟩]) (.seq (.seq (.ops [⟨(some 5), (.mov (.t 0)), none⟩, ⟨(some 6), (.len (.t 5)), none⟩, ⟨(some 7), (.bin .lss (.t 6) (.c (.int .i64 1))), none⟩]) (.cond (.t 7) (.ops [⟨(some 8), .dead, none⟩, ⟨none, .dead, none⟩]) .skip)) (.seq (.ops [⟨(some 9), (.mov (.t 0)), none⟩, ⟨(some 10), (.idx 1 (.t 9) (.c (.int .i64 0))), none⟩, ⟨(some 11), (.ld none (.t 10)), none⟩, ⟨(some 3), (.mov (.t 11)), none⟩]) (.seq (.seq (.ops [⟨(some 4), (.mov (.c (.int .i64 1))), none⟩]) (.block 0 (.loop (.seq (.seq (.ops [⟨(some 12), (.mov (.t 4)), none⟩, ⟨(some 13), (.mov (.t 0)), none⟩, ⟨(some 14), (.len (.t 13)), none⟩, ⟨(some 15), (.bin .lss (.t 12) (.t 14)), none⟩]) (.cond (.t 15) .skip (.exit 0))) (.seq (.block 1 (.ops [⟨(some 18), (.mov (.t 3)), none⟩, ⟨(some 19), (.mov (.t 0)), none⟩, ⟨(some 20), (.mov (.t 4)), none⟩, ⟨(some 21), (.idx 1 (.t 19) (.t 20)), none⟩, ⟨(some 22), (.ld none (.t 21)), none⟩, ⟨(some 23), (.pu (.mm true) [(.t 18), (.t 22)]), none⟩, ⟨(some 3), (.mov (.t 23)), none⟩])) (.ops [⟨(some 16), (.mov (.t 4)), none⟩, ⟨(some 17), (.bin .add (.t 16) (.c (.int .i64 1))), none⟩, ⟨(some 4), (.mov (.t 17)), none⟩])))))) (.seq (.ops [⟨(some 24), (.mov (.t 3)), none⟩, ⟨(some 2), (.mov (.t 24)), none⟩]) .ret)))))
theorem cc57 : ccode Try.prog (min Try.f57.ntmps pbase) (Try.f57.body.getD .skip) = some ac57 := by kernel_rfl
def ac58 : ACode := (.seq (.ops [⟨(some 3), (.mov (.c (.bool false))), none⟩]) (.seq (.tree (.take ⟨(some 4), (.mov (.t 0)), none⟩ (.take ⟨(some 5), (.call 59 [(.t 4)]), none⟩ (.take ⟨(some 6), (.ld none (.t 1)), none⟩ (.take ⟨(some 7), (.bin .eql (.t 5) (.t 6)), none⟩ (.take ⟨(some 3), (.mov (.t 7)), none⟩ .done)))))) .ret))
theorem cc58 : ccode Try.prog (min Try.f58.ntmps pbase) (Try.f58.body.getD .skip) = some ac58 := by kernel_rfl
def ac59 : ACode := (.seq (.ops [⟨(some 2), (.mov (.c (.int .i64 0))), none⟩]) (.seq (.seq (.ops [⟨(some 5), (.mov (.t 0)), none⟩, ⟨(some 6), (.len (.t 5)), none⟩, ⟨(some 7), (.bin .lss (.t 6) (.c (.int .i64 1))), none⟩]) (.cond (.t 7) (.ops [⟨(some 8), .dead, none⟩, ⟨none, .dead, none⟩]) .skip)) (.seq (.ops [⟨(some 9), (.mov (.t 0)), none⟩, ⟨(some 10), (.idx 1 (.t 9) (.c (.int .i64 0))), none⟩, ⟨(some 11), (.ld none (.t 10)), none⟩, ⟨(some 3), (.mov (.t 11)), none⟩]) (.seq (.seq (.ops [⟨(some 4), (.mov (.c (.int .i64 1))), none⟩]) (.block 0 (.loop (.seq (.seq (.ops [⟨(some 12), (.mov (.t 4)), none⟩, ⟨(some 13), (.mov (.t 0)), none⟩, ⟨(some 14), (.len (.t 13)), none⟩, ⟨(some 15), (.bin .lss (.t 12) (.t 14)), none⟩]) (.cond (.t 15) .skip (.exit 0))) (.seq (.block 1 (.ops [⟨(some 18), (.mov (.t 3)), none⟩, ⟨(some 19), (.mov (.t 0)), none⟩, ⟨(some 20), (.mov (.t 4)), none⟩, ⟨(some 21), (.idx 1 (.t 19) (.t 20)), none⟩, ⟨(some 22), (.ld none (.t 21)), none⟩, ⟨(some 23), (.pu (.mm false) [(.t 18), (.t 22)]), none⟩, ⟨(some 3), (.mov (.t 23)), none⟩])) (.ops [⟨(some 16), (.mov (.t 4)), none⟩, ⟨(some 17), (.bin .add (.t 16) (.c (.int .i64 1))), none⟩, ⟨(some 4), (.mov (.t 17)), none⟩])))))) (.seq (.ops [⟨(some 24), (.mov (.t 3)), none⟩, ⟨(some 2), (.mov (.t 24)), none⟩]) .ret)))))
theorem cc59 : ccode Try.prog (min Try.f59.ntmps pbase) (Try.f59.body.getD .skip) = some ac59 := by kernel_rfl
def ac60 : ACode := (.seq (.ops [⟨(some 2), (.mov (.c (.int .i64 0))), none⟩, ⟨(some 3), (.mov (.c (.int .i64 0))), none⟩]) (.seq (.ops [⟨(some 5), (.mov (.t 0)), none⟩, ⟨(some 6), (.pu (.bld [(.slice none 0 0), (.int .i64 0), (.int .u64 0)] [(0, 1)]) [(.t 5)]), none⟩, ⟨(some 7), (.box 3 (.t 6)), none⟩, ⟨(some 4), (.mov (.t 7)), none⟩]) (.seq (.ops [⟨(some 8), (.mov (.t 4)), none⟩, ⟨(some 9), (.call 65 [(.t 8)]), none⟩, ⟨(some 10), (.mov (.t 4)), none⟩, ⟨(some 11), (.bsl 1 9 [(.int .i64 0)] [(0, (.c (.int .i64 0))), (1, (.c (.int .i64 1))), (2, (.c (.int .i64 2))), (3, (.c (.int .i64 3))), (4, (.c (.int .i64 4))), (5, (.c (.int .i64 5))), (6, (.c (.int .i64 12))), (7, (.c (.int .i64 13))), (8, (.c (.int .i64 (-1))))]), none⟩, ⟨(some 12), (.call 66 [(.t 10), (.t 11)]), none⟩, ⟨(some 2), (.mov (.t 9)), none⟩, ⟨(some 3), (.mov (.t 12)), none⟩]) .ret)))
theorem cc60 : ccode Try.prog (min Try.f60.ntmps pbase) (Try.f60.body.getD .skip) = some ac60 := by kernel_rfl
def ac61 : ACode := (.seq (.ops [⟨(some 6), (.mov (.c (.bool false))), none⟩]) (.seq (.ops [⟨(some 7), (.mov (.t 0)), none⟩, ⟨(some 8), (.mov (.t 1)), none⟩, ⟨(some 9), (.bin .geq (.t 7) (.t 8)), none⟩, ⟨(some 10), (.mov (.t 9)), none⟩, ⟨(some 11), (.mov (.t 0)), (some (10, true))⟩, ⟨(some 12), (.mov (.t 2)), (some (10, true))⟩, ⟨(some 13), (.bin .leq (.t 11) (.t 12)), (some (10, true))⟩, ⟨(some 14), (.pick (.t 10) (.t 13) (.c (.bool false))), none⟩, ⟨(some 6), (.mov (.t 14)), none⟩]) .ret))
theorem cc61 : ccode Try.prog (min Try.f61.ntmps pbase) (Try.f61.body.getD .skip) = some ac61 := by kernel_rfl
def ac62 : ACode := (.seq (.ops [⟨(some 2), (.mov (.c (.int .i64 0))), none⟩]) (.seq (.ops [⟨(some 8), (.mov (.t 0)), none⟩, ⟨(some 9), (.call 72 [(.t 8)]), none⟩, ⟨(some 10), (.call 64 [(.t 9)]), none⟩, ⟨(some 3), (.mov (.t 10)), none⟩]) (.seq (.seq (.ops [⟨(some 11), (.mov (.t 0)), none⟩, ⟨(some 12), (.len (.t 11)), none⟩, ⟨(some 13), (.mov (.c (.int .i64 0))), none⟩]) (.block 0 (.loop (.seq (.ops [⟨(some 14), (.bin .lss (.t 13) (.t 12)), none⟩]) (.seq (.cond (.t 14) .skip (.exit 0)) (.seq (.block 1 (.seq (.ops [⟨(some 15), (.mov (.t 13)), none⟩, ⟨(some 16), (.idx 1 (.t 11) (.t 13)), none⟩, ⟨(some 17), (.ld none (.t 16)), none⟩, ⟨(some 4), (.mov (.t 15)), none⟩, ⟨(some 5), (.mov (.t 17)), none⟩]) (.seq (.ops [⟨(some 6), (.mov (.c (.int .i64 1))), none⟩]) (.seq (.seq (.ops [⟨(some 18), (.mov (.t 4)), none⟩, ⟨(some 7), (.mov (.t 18)), none⟩]) (.block 2 (.loop (.seq (.seq (.ops [⟨(some 19), (.mov (.t 7)), none⟩, ⟨(some 20), (.bin .gtr (.t 19) (.c (.int .i64 0))), none⟩, ⟨(some 21), (.mov (.t 20)), none⟩, ⟨(some 22), (.mov (.t 0)), (some (21, true))⟩, ⟨(some 23), (.mov (.t 7)), (some (21, true))⟩, ⟨(some 24), (.bin .sub (.t 23) (.c (.int .i64 1))), (some (21, true))⟩, ⟨(some 25), (.idx 1 (.t 22) (.t 24)), (some (21, true))⟩, ⟨(some 26), (.ld none (.t 25)), (some (21, true))⟩, ⟨(some 27), (.mov (.t 5)), (some (21, true))⟩, ⟨(some 28), (.bin .eql (.t 26) (.t 27)), (some (21, true))⟩, ⟨(some 29), (.pick (.t 21) (.t 28) (.c (.bool false))), none⟩]) (.cond (.t 29) .skip (.exit 2))) (.seq (.block 3 (.ops [⟨(some 32), (.mov (.t 6)), none⟩, ⟨(some 33), (.bin .add (.t 32) (.c (.int .i64 1))), none⟩, ⟨(some 6), (.mov (.t 33)), none⟩])) (.ops [⟨(some 30), (.mov (.t 7)), none⟩, ⟨(some 31), (.bin .sub (.t 30) (.c (.int .i64 1))), none⟩, ⟨(some 7), (.mov (.t 31)), none⟩])))))) (.ops [⟨(some 34), (.mov (.t 3)), none⟩, ⟨(some 35), (.mov (.t 5)), none⟩, ⟨(some 36), (.mov (.t 6)), none⟩, ⟨(some 37), (.bin .mul (.t 35) (.t 36)), none⟩, ⟨(some 38), (.bin .quo (.t 34) (.t 37)), none⟩, ⟨(some 3), (.mov (.t 38)), none⟩]))))) (.ops [⟨(some 39), (.bin .add (.t 13) (.c (.int .i64 1))), none⟩, ⟨(some 13), (.mov (.t 39)), none⟩]))))))) (.seq (.ops [⟨(some 40), (.mov (.t 3)), none⟩, ⟨(some 2), (.mov (.t 40)), none⟩]) .ret))))
theorem cc62 : ccode Try.prog (min Try.f62.ntmps pbase) (Try.f62.body.getD .skip) = some ac62 := by kernel_rfl
def ac63 : ACode := (.seq (.ops [⟨(some 2), (.mov (.c (.int .i64 0))), none⟩]) (.seq (.ops [⟨(some 3), (.mov (.c (.int .i64 1))), none⟩]) (.seq (.seq (.ops [⟨(some 4), (.mov (.c (.int .i64 2))), none⟩]) (.block 0 (.loop (.seq (.seq (.ops [⟨(some 5), (.mov (.t 4)), none⟩, ⟨(some 6), (.mov (.t 0)), none⟩, ⟨(some 7), (.bin .leq (.t 5) (.t 6)), none⟩]) (.cond (.t 7) .skip (.exit 0))) (.seq (.block 1 (.ops [⟨(some 10), (.mov (.t 3)), none⟩, ⟨(some 11), (.mov (.t 4)), none⟩, ⟨(some 12), (.bin .mul (.t 10) (.t 11)), none⟩, ⟨(some 3), (.mov (.t 12)), none⟩])) (.ops [⟨(some 8), (.mov (.t 4)), none⟩, ⟨(some 9), (.bin .add (.t 8) (.c (.int .i64 1))), none⟩, ⟨(some 4), (.mov (.t 9)), none⟩])))))) (.seq (.ops [⟨(some 13), (.mov (.t 3)), none⟩, ⟨(some 2), (.mov (.t 13)), none⟩]) .ret))))
theorem cc63 : ccode Try.prog (min Try.f63.ntmps pbase) (Try.f63.body.getD .skip) = some ac63 := by kernel_rfl
def ac64 : ACode := (.seq (.ops [⟨(some 2), (.mov (.c (.int .i64 0))), none⟩]) (.seq (.ops [⟨(some 3), (.mov (.c (.int .i64 1))), none⟩]) (.seq (.seq (.ops [⟨(some 4), (.mov (.c (.int .i64 2))), none⟩]) (.block 0 (.loop (.seq (.seq (.ops [⟨(some 5), (.mov (.t 4)), none⟩, ⟨(some 6), (.mov (.t 0)), none⟩, ⟨(some 7), (.bin .leq (.t 5) (.t 6)), none⟩]) (.cond (.t 7) .skip (.exit 0))) (.seq (.block 1 (.ops [⟨(some 10), (.mov (.t 3)), none⟩, ⟨(some 11), (.mov (.t 4)), none⟩, ⟨(some 12), (.bin .mul (.t 10) (.t 11)), none⟩, ⟨(some 3), (.mov (.t 12)), none⟩])) (.ops [⟨(some 8), (.mov (.t 4)), none⟩, ⟨(some 9), (.bin .add (.t 8) (.c (.int .i64 1))), none⟩, ⟨(some 4), (.mov (.t 9)), none⟩])))))) (.seq (.ops [⟨(some 13), (.mov (.t 3)), none⟩, ⟨(some 2), (.mov (.t 13)), none⟩]) .ret))))
theorem cc64 : ccode Try.prog (min Try.f64.ntmps pbase) (Try.f64.body.getD .skip) = some ac64 := by kernel_rfl
def ac65 : ACode := (.seq (.ops [⟨(some 2), (.mov (.c (.int .i64 0))), none⟩]) (.seq (.ops [⟨(some 3), (.mov (.t 0)), none⟩, ⟨(some 4), (.bsl 1 12 [(.int .i64 0)] [(0, (.c (.int .i64 1))), (1, (.c (.int .i64 2))), (2, (.c (.int .i64 3))), (3, (.c (.int .i64 4))), (4, (.c (.int .i64 5))), (5, (.c (.int .i64 6))), (6, (.c (.int .i64 7))), (7, (.c (.int .i64 8))), (8, (.c (.int .i64 12))), (9, (.c (.int .i64 13))), (10, (.c (.int .i64 0))), (11, (.c (.int .i64 (-1))))]), none⟩, ⟨(some 5), (.call 66 [(.t 3), (.t 4)]), none⟩, ⟨(some 2), (.mov (.t 5)), none⟩]) .ret))
theorem cc65 : ccode Try.prog (min Try.f65.ntmps pbase) (Try.f65.body.getD .skip) = some ac65 := by kernel_rfl
def ac66 : ACode := (.seq (.ops [⟨(some 4), (.mov (.c (.int .i64 0))), none⟩]) (.seq (.ops [⟨(some 5), (.mov (.t 1)), none⟩, ⟨(some 6), (.mov (.t 0)), none⟩, ⟨(some 7), (.mov (.t 1)), none⟩, ⟨(some 8), (.len (.t 7)), none⟩, ⟨(some 9), (.call 73 [(.t 6), (.t 8)]), none⟩, ⟨(some 10), (.idx 1 (.t 5) (.t 9)), none⟩, ⟨(some 11), (.ld none (.t 10)), none⟩, ⟨(some 4), (.mov (.t 11)), none⟩]) .ret))
theorem cc66 : ccode Try.prog (min Try.f66.ntmps pbase) (Try.f66.body.getD .skip) = some ac66 := by kernel_rfl
def ac67 : ACode := (.seq (.ops [⟨(some 3), (.mov (.c (.bool false))), none⟩]) (.seq (.tree (.take ⟨(some 4), (.mov (.t 0)), none⟩ (.take ⟨(some 5), (.call 47 [(.t 4)]), none⟩ (.take ⟨(some 6), (.ld none (.t 1)), none⟩ (.take ⟨(some 7), (.bin .eql (.t 5) (.t 6)), none⟩ (.take ⟨(some 3), (.mov (.t 7)), none⟩ .done)))))) .ret))
theorem cc67 : ccode Try.prog (min Try.f67.ntmps pbase) (Try.f67.body.getD .skip) = some ac67 := by kernel_rfl
def ac68 : ACode := (.seq (.seq (.ops [⟨(some 8), (.mov (.t 0)), none⟩, ⟨(some 9), (.bin .eql (.t 8) (.c (.int .i64 0))), none⟩]) (.cond (.t 9) (.seq (.ops [⟨(some 10), (.ld none (.t 2)), none⟩, ⟨(some 11), (.mov (.t 1)), none⟩, ⟨(some 12), (.bsl 1 1 [(.slice none 0 0)] [(0, (.t 11))]), none⟩, ⟨(some 13), (.app 1 24 (.t 10) (.t 12)), none⟩, ⟨none, (.st 1 (.t 2) (.t 13)), none⟩]) .ret) .skip)) (.seq (.ops [⟨(some 14), (.mov (.t 0)), none⟩, ⟨(some 6), (.mov (.t 14)), none⟩]) (.seq (.seq (.ops [⟨(some 15), (.mov (.t 1)), none⟩, ⟨(some 16), (.len (.t 15)), none⟩, ⟨(some 17), (.bin .gtr (.t 16) (.c (.int .i64 0))), none⟩]) (.cond (.t 17) (.ops [⟨(some 18), (.mov (.t 6)), none⟩, ⟨(some 19), (.mov (.t 1)), none⟩, ⟨(some 20), (.mov (.t 1)), none⟩, ⟨(some 21), (.len (.t 20)), none⟩, ⟨(some 22), (.bin .sub (.t 21) (.c (.int .i64 1))), none⟩, ⟨(some 23), (.idx 1 (.t 19) (.t 22)), none⟩, ⟨(some 24), (.ld none (.t 23)), none⟩, ⟨(some 25), (.pu (.mm false) [(.t 18), (.t 24)]), none⟩, ⟨(some 6), (.mov (.t 25)), none⟩]) .skip)) (.seq (.ops [⟨(some 26), (.mov (.t 6)), none⟩, ⟨(some 7), (.mov (.t 26)), none⟩]) (.block 0 (.loop (.seq (.seq (.ops [⟨(some 27), (.mov (.t 7)), none⟩, ⟨(some 28), (.bin .geq (.t 27) (.c (.int .i64 1))), none⟩]) (.cond (.t 28) .skip (.exit 0))) (.seq (.block 1 (.tree (.take ⟨(some 32), (.mov (.t 0)), none⟩ (.take ⟨(some 33), (.mov (.t 7)), none⟩ (.take ⟨(some 34), (.bin .sub (.t 32) (.t 33)), none⟩ (.take ⟨(some 35), (.mov (.t 1)), none⟩ (.two ⟨(some 31), (.ld none (.t 3)), none⟩ (.take ⟨(some 36), (.mov (.t 7)), none⟩ (.own ⟨(some 37), (.call 69 [(.t 35), (.t 36)]), none⟩ (.one ⟨(some 38), (.callv (.t 31) [(.t 34), (.t 37)]), none⟩ .done))) ⟨(some 36), (.mov (.t 7)), none⟩ (.alt (.take ⟨(some 31), (.ld none (.t 3)), none⟩ (.own ⟨(some 37), (.call 69 [(.t 35), (.t 36)]), none⟩ (.one ⟨(some 38), (.callv (.t 31) [(.t 34), (.t 37)]), none⟩ .done))) (.one ⟨(some 37), (.call 69 [(.t 35), (.t 36)]), none⟩ (.take ⟨(some 31), (.ld none (.t 3)), none⟩ (.one ⟨(some 38), (.callv (.t 31) [(.t 34), (.t 37)]), none⟩ .done))))))))))) (.ops [⟨(some 29), (.mov (.t 7)), none⟩, ⟨(some 30), (.bin .sub (.t 29) (.c (.int .i64 1))), none⟩, ⟨(some 7), (.mov (.t 30)), none⟩])))))))))
theorem cc68 : ccode Try.prog (min Try.f68.ntmps pbase) (Try.f68.body.getD .skip) = some ac68 := by kernel_rfl
def ac69 : ACode := (.seq (.ops [⟨(some 4), (.nils 1), none⟩]) (.seq (.ops [⟨(some 5), (.mov (.t 0)), none⟩, ⟨(some 6), (.mov (.t 0)), none⟩, ⟨(some 7), (.len (.t 6)), none⟩, ⟨(some 8), (.mov (.t 0)), none⟩, ⟨(some 9), (.len (.t 8)), none⟩, ⟨(some 10), (.cut3 1 (.t 5) (.t 7) (.t 9)), none⟩, ⟨(some 11), (.mov (.t 1)), none⟩, ⟨(some 12), (.bsl 1 1 [(.int .i64 0)] [(0, (.t 11))]), none⟩, ⟨(some 13), (.app 1 8 (.t 10) (.t 12)), none⟩, ⟨(some 4), (.mov (.t 13)), none⟩]) .ret))
theorem cc69 : ccode Try.prog (min Try.f69.ntmps pbase) (Try.f69.body.getD .skip) = some ac69 := by kernel_rfl
def ac70 : ACode := (.seq (.ops [⟨(some 4), (.mov (.c (.int .i64 0))), none⟩]) (.seq (.seq (.ops [⟨(some 5), (.mov (.t 0)), none⟩, ⟨(some 6), (.mov (.t 1)), none⟩, ⟨(some 7), (.bin .lss (.t 5) (.t 6)), none⟩]) (.cond (.t 7) (.seq (.ops [⟨(some 8), (.mov (.t 0)), none⟩, ⟨(some 4), (.mov (.t 8)), none⟩]) .ret) .skip)) (.seq (.ops [⟨(some 9), (.mov (.t 1)), none⟩, ⟨(some 4), (.mov (.t 9)), none⟩]) .ret)))
theorem cc70 : ccode Try.prog (min Try.f70.ntmps pbase) (Try.f70.body.getD .skip) = some ac70 := by kernel_rfl
def ac71 : ACode := (.seq (.ops [⟨(some 4), (.mov (.c (.int .i64 0))), none⟩]) (.seq (.block 0 (.loop (.seq (.seq (.ops [⟨(some 5), (.mov (.t 1)), none⟩, ⟨(some 6), (.bin .neq (.t 5) (.c (.int .i64 0))), none⟩]) (.cond (.t 6) .skip (.exit 0))) (.block 1 (.tree (.take ⟨(some 7), (.mov (.t 1)), none⟩ (.take ⟨(some 8), (.mov (.t 0)), none⟩ (.take ⟨(some 9), (.mov (.t 1)), none⟩ (.take ⟨(some 10), (.bin .rem (.t 8) (.t 9)), none⟩ (.take ⟨(some 0), (.mov (.t 7)), none⟩ (.take ⟨(some 1), (.mov (.t 10)), none⟩ .done))))))))))) (.seq (.ops [⟨(some 11), (.mov (.t 0)), none⟩, ⟨(some 4), (.mov (.t 11)), none⟩]) .ret)))
theorem cc71 : ccode Try.prog (min Try.f71.ntmps pbase) (Try.f71.body.getD .skip) = some ac71 := by kernel_rfl
def ac72 : ACode := (.seq (.ops [⟨(some 2), (.mov (.c (.int .i64 0))), none⟩]) (.seq (.ops [⟨(some 3), (.mov (.c (.int .i64 0))), none⟩]) (.seq (.seq (.ops [⟨(some 6), (.mov (.t 0)), none⟩, ⟨(some 7), (.len (.t 6)), none⟩, ⟨(some 8), (.mov (.c (.int .i64 0))), none⟩]) (.block 0 (.loop (.seq (.ops [⟨(some 9), (.bin .lss (.t 8) (.t 7)), none⟩]) (.seq (.cond (.t 9) .skip (.exit 0)) (.seq (.block 1 (.seq (.ops [⟨(some 10), (.idx 1 (.t 6) (.t 8)), none⟩, ⟨(some 11), (.ld none (.t 10)), none⟩, ⟨(some 5), (.mov (.t 11)), none⟩]) (.ops [⟨(some 12), (.mov (.t 3)), none⟩, ⟨(some 13), (.mov (.t 5)), none⟩, ⟨(some 14), (.bin .add (.t 12) (.t 13)), none⟩, ⟨(some 3), (.mov (.t 14)), none⟩]))) (.ops [⟨(some 15), (.bin .add (.t 8) (.c (.int .i64 1))), none⟩, ⟨(some 8), (.mov (.t 15)), none⟩]))))))) (.seq (.ops [⟨(some 16), (.mov (.t 3)), none⟩, ⟨(some 2), (.mov (.t 16)), none⟩]) .ret))))
theorem cc72 : ccode Try.prog (min Try.f72.ntmps pbase) (Try.f72.body.getD .skip) = some ac72 := by kernel_rfl
def ac73 : ACode := (.seq (.ops [⟨(some 4), (.mov (.c (.int .i64 0))), none⟩]) (.seq (.seq (.ops [⟨(some 6), (.mov (.t 1)), none⟩, ⟨(some 7), (.bin .leq (.t 6) (.c (.int .i64 1))), none⟩]) (.cond (.t 7) (.seq (.ops [⟨(some 4), (.mov (.c (.int .i64 0))), none⟩]) .ret) .skip)) (.seq (.ops [⟨(some 8), (.mov (.t 0)), none⟩, ⟨(some 9), (.call 74 [(.t 8)]), none⟩, ⟨(some 5), (.mov (.t 9)), none⟩]) (.seq (.seq (.ops [⟨(some 10), (.mov (.t 1)), none⟩, ⟨(some 11), (.bin .gtr (.t 10) (.c (.int .i64 200))), none⟩]) (.cond (.t 11) (.ops [⟨(some 12), (.mov (.t 5)), none⟩, ⟨(some 13), (.bin .mul (.t 12) (.c (.int .i64 256))), none⟩, ⟨(some 14), (.mov (.t 0)), none⟩, ⟨(some 15), (.call 74 [(.t 14)]), none⟩, ⟨(some 16), (.bin .add (.t 13) (.t 15)), none⟩, ⟨(some 5), (.mov (.t 16)), none⟩]) .skip)) (.seq (.ops [⟨(some 17), (.mov (.t 5)), none⟩, ⟨(some 18), (.mov (.t 1)), none⟩, ⟨(some 19), (.bin .rem (.t 17) (.t 18)), none⟩, ⟨(some 4), (.mov (.t 19)), none⟩]) .ret)))))
theorem cc73 : ccode Try.prog (min Try.f73.ntmps pbase) (Try.f73.body.getD .skip) = some ac73 := by kernel_rfl
def ac74 : ACode := (.seq (.ops [⟨(some 2), (.mov (.c (.int .i64 0))), none⟩]) (.seq (.ops [⟨(some 3), (.mov (.c (.int .i64 0))), none⟩]) (.seq (.seq (.tree (.take ⟨(some 4), (.mov (.t 0)), none⟩ (.take ⟨(some 5), (.nchk (.t 4)), none⟩ (.take ⟨(some 6), (.fa 1 (.t 5)), none⟩ (.take ⟨(some 7), (.ld none (.t 6)), none⟩ (.take ⟨(some 8), (.mov (.t 0)), none⟩ (.take ⟨(some 9), (.nchk (.t 8)), none⟩ (.take ⟨(some 10), (.fa 0 (.t 9)), none⟩ (.take ⟨(some 11), (.ld none (.t 10)), none⟩ (.take ⟨(some 12), (.len (.t 11)), none⟩ (.take ⟨(some 13), (.bin .lss (.t 7) (.t 12)), none⟩ .done))))))))))) (.cond (.t 13) (.tree (.take ⟨(some 14), (.mov (.t 0)), none⟩ (.take ⟨(some 15), (.nchk (.t 14)), none⟩ (.take ⟨(some 16), (.fa 0 (.t 15)), none⟩ (.take ⟨(some 17), (.ld none (.t 16)), none⟩ (.take ⟨(some 18), (.mov (.t 0)), none⟩ (.take ⟨(some 19), (.nchk (.t 18)), none⟩ (.take ⟨(some 20), (.fa 1 (.t 19)), none⟩ (.take ⟨(some 21), (.ld none (.t 20)), none⟩ (.take ⟨(some 22), (.idx 1 (.t 17) (.t 21)), none⟩ (.take ⟨(some 23), (.ld none (.t 22)), none⟩ (.take ⟨(some 24), (.pu (.cvt .i64) [(.t 23)]), none⟩ (.take ⟨(some 3), (.mov (.t 24)), none⟩ .done))))))))))))) .skip)) (.seq (.ops [⟨(some 25), (.mov (.t 0)), none⟩, ⟨(some 26), (.nchk (.t 25)), none⟩, ⟨(some 27), (.fa 1 (.t 26)), none⟩, ⟨(some 28), (.ld none (.t 27)), none⟩, ⟨(some 29), (.bin .add (.t 28) (.c (.int .i64 1))), none⟩, ⟨(some 30), (.nchk (.t 25)), none⟩, ⟨(some 31), (.fa 1 (.t 30)), none⟩, ⟨none, (.st 1 (.t 31) (.t 29)), none⟩]) (.seq (.ops [⟨(some 32), (.mov (.t 0)), none⟩, ⟨(some 33), (.mov (.t 0)), none⟩, ⟨(some 34), (.nchk (.t 33)), none⟩, ⟨(some 35), (.fa 2 (.t 34)), none⟩, ⟨(some 36), (.ld none (.t 35)), none⟩, ⟨(some 37), (.bin .mul (.t 36) (.c (.int .u64 6364136223846793005))), none⟩, ⟨(some 38), (.mov (.t 3)), none⟩, ⟨(some 39), (.pu (.cvt .u64) [(.t 38)]), none⟩, ⟨(some 40), (.bin .add (.t 37) (.t 39)), none⟩, ⟨(some 41), (.bin .add (.t 40) (.c (.int .u64 1442695040888963407))), none⟩, ⟨(some 42), (.nchk (.t 32)), none⟩, ⟨(some 43), (.fa 2 (.t 42)), none⟩, ⟨none, (.st 1 (.t 43) (.t 41)), none⟩]) (.seq (.seq (.tree (.take ⟨(some 44), (.mov (.t 0)), none⟩ (.take ⟨(some 45), (.nchk (.t 44)), none⟩ (.take ⟨(some 46), (.fa 1 (.t 45)), none⟩ (.take ⟨(some 47), (.ld none (.t 46)), none⟩ (.take ⟨(some 48), (.mov (.t 0)), none⟩ (.take ⟨(some 49), (.nchk (.t 48)), none⟩ (.take ⟨(some 50), (.fa 0 (.t 49)), none⟩ (.take ⟨(some 51), (.ld none (.t 50)), none⟩ (.take ⟨(some 52), (.len (.t 51)), none⟩ (.take ⟨(some 53), (.bin .leq (.t 47) (.t 52)), none⟩ .done))))))))))) (.cond (.t 53) (.seq (.ops [⟨(some 54), (.mov (.t 3)), none⟩, ⟨(some 2), (.mov (.t 54)), none⟩]) .ret) .skip)) (.seq (.ops [⟨(some 55), (.mov (.t 0)), none⟩, ⟨(some 56), (.nchk (.t 55)), none⟩, ⟨(some 57), (.fa 2 (.t 56)), none⟩, ⟨(some 58), (.ld none (.t 57)), none⟩, ⟨(some 59), (.bin .shr (.t 58) (.c (.int .u64 40))), none⟩, ⟨(some 60), (.bin .and (.t 59) (.c (.int .u64 255))), none⟩, ⟨(some 61), (.pu (.cvt .i64) [(.t 60)]), none⟩, ⟨(some 2), (.mov (.t 61)), none⟩]) .ret)))))))
theorem cc74 : ccode Try.prog (min Try.f74.ntmps pbase) (Try.f74.body.getD .skip) = some ac74 := by kernel_rfl
end Go.Proofs.Ytmckfjnbbfdepaa
namespace Go.Proofs.Ytmckfjnbbfdepaa
variable [Go.Am.CodeBlk]
open Go.Am
attribute [local irreducible] AW Outs Weak Lends Lend Sp aops atree aop1 Then Round InBlock Done
theorem isGuestCount_spec (a : Int) : Sp Try.prog 36 [.i a] (.b (decide (1 ≤ a ∧ a ≤ 12))) := by
  refine spec_of Try.func36 rfl cc36 rfl ?_
  unfold ac36
  by_cases h : 1 ≤ a
  all_goals
    repeat (first | (refine step_ops ?_; (first | ((try (refine g_yes rfl ?_ ?_; (· first | rfl | assumption | (refine decide_eq_true ?_; first | assumption | omega) | (refine nt ?_; first | assumption | omega) | (simp [*]; done) | (refine decide_eq_false ?_; first | assumption | omega) | (refine nf ?_; first | assumption | omega)))); (first | (refine m_mov (by conv => lhs; whnf) ?_) | (refine m_leq rfl rfl ?_) | (refine m_geq rfl rfl ?_) | (refine m_pick_t rfl ?_ (by conv => lhs; whnf) ?_; (· first | rfl | assumption | (refine decide_eq_true ?_; first | assumption | omega) | (refine nt ?_; first | assumption | omega) | (simp [*]; done))) | (refine m_pick_f rfl ?_ (by conv => lhs; whnf) ?_; (· first | rfl | assumption | (refine decide_eq_false ?_; first | assumption | omega) | (refine nf ?_; first | assumption | omega) | (simp [*]; done))))) | (refine g_noT rfl ?_ ?_; (· first | rfl | assumption | (refine decide_eq_false ?_; first | assumption | omega) | (refine nf ?_; first | assumption | omega) | (simp [*]; done))))) | refine end_ops ?_ | refine seq_ops ?_ | refine AW_ret ?_ | refine ret_done ?_)
    refine outs_b ?_
    simp [*]
theorem l1In_spec (a b c : Int) : Sp Try.prog 61 [.i a, .i b, .i c] (.b (decide (b ≤ a ∧ a ≤ c))) := by
  refine spec_of Try.func61 rfl cc61 rfl ?_
  unfold ac61
  by_cases h : b ≤ a
  all_goals
    repeat (first | (refine step_ops ?_; (first | ((try (refine g_yes rfl ?_ ?_; (· first | rfl | assumption | (refine decide_eq_true ?_; first | assumption | omega) | (refine nt ?_; first | assumption | omega) | (simp [*]; done) | (refine decide_eq_false ?_; first | assumption | omega) | (refine nf ?_; first | assumption | omega)))); (first | (refine m_mov (by conv => lhs; whnf) ?_) | (refine m_leq rfl rfl ?_) | (refine m_geq rfl rfl ?_) | (refine m_pick_t rfl ?_ (by conv => lhs; whnf) ?_; (· first | rfl | assumption | (refine decide_eq_true ?_; first | assumption | omega) | (refine nt ?_; first | assumption | omega) | (simp [*]; done))) | (refine m_pick_f rfl ?_ (by conv => lhs; whnf) ?_; (· first | rfl | assumption | (refine decide_eq_false ?_; first | assumption | omega) | (refine nf ?_; first | assumption | omega) | (simp [*]; done))))) | (refine g_noT rfl ?_ ?_; (· first | rfl | assumption | (refine decide_eq_false ?_; first | assumption | omega) | (refine nf ?_; first | assumption | omega) | (simp [*]; done))))) | refine end_ops ?_ | refine seq_ops ?_ | refine AW_ret ?_ | refine ret_done ?_)
    refine outs_b ?_
    simp [*]
theorem getD_mem {L : List Int} {k : Nat} (h : k < L.length) : L.getD k 0 ∈ L := by simp [h]
end Go.Proofs.Ytmckfjnbbfdepaa
namespace Go.Am
variable [Go.Am.CodeBlk]
variable {P : Program} {own : Bool} {N : Nat} {s : AS} {K : AS → Prop} {d : Option Nat}
/-- An unsigned integer of sixteen bits. -/
abbrev AV.u (a : Nat) : AV := .v (.int .u16 (a : Int))
end Go.Am
namespace Go.Proofs.Ytmckfjnbbfdepaa
variable [Go.Am.CodeBlk]
open Go.Am
attribute [local irreducible] AW Outs Weak Lends Lend Sp aops atree aop1 Then Round InBlock Done
/-- What an exchange is. -/
def IsEx (L : List Int) : Prop := 1 ≤ L.length ∧ L.length ≤ 12 ∧ (∀ x ∈ L, 0 ≤ x ∧ x < L.length) ∧ L.Nodup
instance (L : List Int) : Decidable (IsEx L) := inferInstanceAs (Decidable (_ ∧ _ ∧ _ ∧ _))
end Go.Proofs.Ytmckfjnbbfdepaa
namespace Go.Proofs.Ytmckfjnbbfdepaa
variable [Go.Am.CodeBlk]
open Go.Am
attribute [local irreducible] AW Outs Weak Lends Lend Sp aops atree aop1 Then Round InBlock Done
theorem exGuests_spec (a : Int) : Sp Try.prog 38 [.i a] (.b (decide (1 ≤ a ∧ a ≤ 12))) := by
  refine spec_of Try.func38 rfl cc38 rfl ?_
  unfold ac38
  repeat (first | (refine step_ops ?_; (refine m_mov (by conv => lhs; whnf) ?_)) | refine end_ops ?_ | refine seq_ops ?_)
  (refine step_ops ?_); (apply m_call (l1In_spec _ _ _)); (· repeat (first | exact lends_nil | (refine lends_cons ?_ ?_; (· exact lend_v))))
  repeat (first | (refine step_ops ?_; (refine m_mov (by conv => lhs; whnf) ?_)) | refine end_ops ?_ | refine AW_ret ?_ | refine ret_done ?_)
  exact outs_b rfl
theorem factorial_spec (n : Nat) (h : n ≤ 12) : Sp Try.prog 63 [.i n] (.i (fac n)) := by
  refine spec_of Try.func63 rfl cc63 rfl ?_
  unfold ac63
  repeat (first | (refine step_ops ?_; (refine m_mov (by conv => lhs; whnf) ?_)) | refine end_ops ?_ | refine seq_ops ?_ | refine AW_seq ?_ | refine AW_block ?_)
  refine AW_loop (α := Nat) (fun j => j + 1 ≤ n ∨ j = 0) (fun j => st [(0, .i n), (3, .i (fac (j + 1))), (4, .i ((j : Int) + 2))] []) (fun j => n - j) 0 (.inr rfl) (weak_st ?_ ?_ rfl rfl) ?_
  · (repeat' (first | exact trivial | refine And.intro ?_ ?_)) <;> (first | rfl | skip)
  · trivial
  intro j hj
  by_cases hc : (j : Int) + 2 ≤ n
  · have hb := fac_le (j + 2) (by omega)
    have e : fac (j + 2) = fac (j + 1) * ((j : Int) + 2) := rfl
    rw [e] at hb
    repeat (first | (refine step_ops ?_; (first | (refine m_mov (by conv => lhs; whnf) ?_) | (refine m_leq rfl rfl ?_) | (refine m_add rfl rfl ?_ ?_ ?_; (· omega); (· omega)) | (refine m_mul rfl rfl ?_ ?_ ?_; (· first | omega | (simp; done)); (· first | omega | (simp; done))))) | refine end_ops ?_ | refine seq_ops ?_ | refine AW_ops ?_ | (refine cond_t rfl ?_ ?_; (· first | rfl | assumption | (refine decide_eq_true ?_; first | assumption | omega) | (refine nt ?_; first | assumption | omega) | (simp [*]; done))) | refine skip_then ?_ | refine AW_seq ?_ | refine norm_then ?_ | refine AW_block ?_ | refine norm_block ?_)
    refine next_round (j + 1) (by omega) (weak_st ?_ ?_ rfl rfl) ?_
    · (repeat' (first | exact trivial | refine And.intro ?_ ?_)) <;> (first | rfl | skip)
    · trivial
    · omega
  · repeat (first | (refine step_ops ?_; (first | (refine m_mov (by conv => lhs; whnf) ?_) | (refine m_leq rfl rfl ?_))) | refine end_ops ?_ | refine seq_ops ?_ | (refine cond_f rfl ?_ ?_; (· first | rfl | assumption | (refine decide_eq_false ?_; first | assumption | omega) | (refine nf ?_; first | assumption | omega) | (simp [*]; done))) | refine AW_seq ?_ | refine AW_ret ?_ | refine ret_done ?_ | refine norm_then ?_ | refine exit_then ?_ | refine exit_round ?_ | refine AW_exit ?_ | refine exit_block ?_)
    refine outs_i ?_
    rcases hj with hj | rfl
    · have : j + 1 = n := by omega
      rw [this]
    · have : n = 0 ∨ n = 1 := by omega
      rcases this with rfl | rfl <;> rfl
end Go.Proofs.Ytmckfjnbbfdepaa
namespace Go.Proofs.Ytmckfjnbbfdepaa
variable [Go.Am.CodeBlk]
open Go.Am
attribute [local irreducible] AW Outs Weak Lends Lend Sp aops atree aop1 Then Round InBlock Done
theorem exTimes_spec (n : Nat) (h : n ≤ 12) : Sp Try.prog 64 [.i n] (.i (fac n)) := by
  refine spec_of Try.func64 rfl cc64 rfl ?_
  unfold ac64
  repeat (first | (refine step_ops ?_; (refine m_mov (by conv => lhs; whnf) ?_)) | refine end_ops ?_ | refine seq_ops ?_ | refine AW_seq ?_ | refine AW_block ?_)
  refine AW_loop (α := Nat) (fun j => j + 1 ≤ n ∨ j = 0) (fun j => st [(0, .i n), (3, .i (fac (j + 1))), (4, .i ((j : Int) + 2))] []) (fun j => n - j) 0 (.inr rfl) (weak_st ?_ ?_ rfl rfl) ?_
  · (repeat' (first | exact trivial | refine And.intro ?_ ?_)) <;> (first | rfl | skip)
  · trivial
  intro j hj
  by_cases hc : (j : Int) + 2 ≤ n
  · have hb := fac_le (j + 2) (by omega)
    have e : fac (j + 2) = fac (j + 1) * ((j : Int) + 2) := rfl
    rw [e] at hb
    repeat (first | (refine step_ops ?_; (first | (refine m_mov (by conv => lhs; whnf) ?_) | (refine m_leq rfl rfl ?_) | (refine m_add rfl rfl ?_ ?_ ?_; (· omega); (· omega)) | (refine m_mul rfl rfl ?_ ?_ ?_; (· first | omega | (simp; done)); (· first | omega | (simp; done))))) | refine end_ops ?_ | refine seq_ops ?_ | refine AW_ops ?_ | (refine cond_t rfl ?_ ?_; (· first | rfl | assumption | (refine decide_eq_true ?_; first | assumption | omega) | (refine nt ?_; first | assumption | omega) | (simp [*]; done))) | refine skip_then ?_ | refine AW_seq ?_ | refine norm_then ?_ | refine AW_block ?_ | refine norm_block ?_)
    refine next_round (j + 1) (by omega) (weak_st ?_ ?_ rfl rfl) ?_
    · (repeat' (first | exact trivial | refine And.intro ?_ ?_)) <;> (first | rfl | skip)
    · trivial
    · omega
  · repeat (first | (refine step_ops ?_; (first | (refine m_mov (by conv => lhs; whnf) ?_) | (refine m_leq rfl rfl ?_))) | refine end_ops ?_ | refine seq_ops ?_ | (refine cond_f rfl ?_ ?_; (· first | rfl | assumption | (refine decide_eq_false ?_; first | assumption | omega) | (refine nf ?_; first | assumption | omega) | (simp [*]; done))) | refine AW_seq ?_ | refine AW_ret ?_ | refine ret_done ?_ | refine norm_then ?_ | refine exit_then ?_ | refine exit_round ?_ | refine AW_exit ?_ | refine exit_block ?_)
    refine outs_i ?_
    rcases hj with hj | rfl
    · have : j + 1 = n := by omega
      rw [this]
    · have : n = 0 ∨ n = 1 := by omega
      rcases this with rfl | rfl <;> rfl
theorem commonDivisor_spec (a b : Nat) : Sp Try.prog 71 [.i a, .i b] (.i (Nat.gcd a b)) := by
  refine spec_of Try.func71 rfl cc71 rfl ?_
  unfold ac71
  repeat (first | (refine step_ops ?_; (refine m_mov (by conv => lhs; whnf) ?_)) | refine end_ops ?_ | refine seq_ops ?_ | refine AW_seq ?_ | refine AW_block ?_)
  refine AW_loop (α := Nat × Nat) (fun q => Nat.gcd q.1 q.2 = Nat.gcd a b) (fun q => st [(0, .i q.1), (1, .i q.2)] []) (fun q => q.2) (a, b) rfl (weak_st ?_ ?_ rfl rfl) ?_
  · (repeat' (first | exact trivial | refine And.intro ?_ ?_)) <;> (first | rfl | skip)
  · trivial
  rintro ⟨u, v⟩ hq
  dsimp only at hq ⊢
  by_cases hc : v = 0
  · subst hc
    have hc' : ((0 : Nat) : Int) = 0 := rfl
    repeat (first | (refine step_ops ?_; (first | (refine m_mov (by conv => lhs; whnf) ?_) | (refine m_neq rfl rfl ?_))) | refine end_ops ?_ | refine seq_ops ?_ | (refine cond_f rfl ?_ ?_; (· first | rfl | assumption | (refine decide_eq_false ?_; first | assumption | omega) | (refine nf ?_; first | assumption | omega) | (simp [*]; done))) | refine AW_seq ?_ | refine AW_ret ?_ | refine ret_done ?_ | refine norm_then ?_ | refine exit_then ?_ | refine exit_round ?_ | refine AW_exit ?_ | refine exit_block ?_)
    refine outs_i ?_
    rw [← hq, Nat.gcd_zero_right]
  · have hc' : ¬ (v : Int) = 0 := by omega
    repeat (first | ((first | refine step_ops ?_ | refine step_tree ?_); (first | (refine m_mov (by conv => lhs; whnf) ?_) | (refine m_neq rfl rfl ?_) | (refine m_rem rfl rfl ?_ ?_ ?_; (· omega); (· omega)))) | refine end_ops ?_ | refine seq_ops ?_ | refine end_tree ?_ | refine AW_tree ?_ | (refine cond_t rfl ?_ ?_; (· first | rfl | assumption | (refine decide_eq_true ?_; first | assumption | omega) | (refine nt ?_; first | assumption | omega) | (simp [*]; done))) | refine skip_then ?_ | refine AW_seq ?_ | refine AW_block ?_ | refine norm_block ?_)
    refine next_round (v, u % v) ?_ (weak_st ?_ ?_ rfl rfl) ?_
    · dsimp only
      rw [← hq, Nat.gcd_comm u v, Nat.gcd_rec v u, Nat.gcd_comm]
    · (repeat' (first | exact trivial | refine And.intro ?_ ?_)) <;> (first | rfl | skip)
    · trivial
    · exact Nat.mod_lt _ (by omega)
end Go.Proofs.Ytmckfjnbbfdepaa
namespace Go.Proofs.Ytmckfjnbbfdepaa
variable [Go.Am.CodeBlk]
open Go.Am
attribute [local irreducible] AW Outs Weak Lends Lend Sp aops atree aop1 Then Round InBlock Done
theorem l1Least_spec (a b : Int) : Sp Try.prog 70 [.i a, .i b] (.i (min a b)) := by
  refine spec_of Try.func70 rfl cc70 rfl ?_
  unfold ac70
  by_cases h : a < b
  all_goals
    repeat (first | (refine step_ops ?_; (first | (refine m_mov (by conv => lhs; whnf) ?_) | (refine m_lss rfl rfl ?_))) | refine end_ops ?_ | refine seq_ops ?_ | (refine cond_t rfl ?_ ?_; (· first | rfl | assumption | (refine decide_eq_true ?_; first | assumption | omega) | (refine nt ?_; first | assumption | omega) | (simp [*]; done))) | (refine cond_f rfl ?_ ?_; (· first | rfl | assumption | (refine decide_eq_false ?_; first | assumption | omega) | (refine nf ?_; first | assumption | omega) | (simp [*]; done))) | refine skip_then ?_ | refine AW_seq ?_ | refine AW_ret ?_ | refine ret_done ?_ | refine ret_then ?_)
    refine outs_i ?_
    omega
theorem l1Most_spec (a b : Int) : Sp Try.prog 48 [.i a, .i b] (.i (max a b)) := by
  refine spec_of Try.func48 rfl cc48 rfl ?_
  unfold ac48
  by_cases h : a > b
  all_goals
    repeat (first | (refine step_ops ?_; (first | (refine m_mov (by conv => lhs; whnf) ?_) | (refine m_gtr rfl rfl ?_))) | refine end_ops ?_ | refine seq_ops ?_ | (refine cond_t rfl ?_ ?_; (· first | rfl | assumption | (refine decide_eq_true ?_; first | assumption | omega) | (refine nt ?_; first | assumption | omega) | (simp [*]; done))) | (refine cond_f rfl ?_ ?_; (· first | rfl | assumption | (refine decide_eq_false ?_; first | assumption | omega) | (refine nf ?_; first | assumption | omega) | (simp [*]; done))) | refine skip_then ?_ | refine AW_seq ?_ | refine AW_ret ?_ | refine ret_done ?_ | refine ret_then ?_)
    refine outs_i ?_
    omega
/-- Guests and tries that there are. -/
def DrOk (g t : Int) : Prop := (1 ≤ g ∧ g ≤ 12) ∧ 1 ≤ t ∧ t ≤ g
instance (g t : Int) : Decidable (DrOk g t) := inferInstanceAs (Decidable (_ ∧ _))
end Go.Proofs.Ytmckfjnbbfdepaa
namespace Go.Am
variable [Go.Am.CodeBlk]
/-- All types of a sum s with no number greater than m (u: at least the sum). -/
def tyU : Nat → Nat → Nat → List (List Int)
  | 0, _, _ => [[]]
  | u + 1, s, m => if s = 0 then [[]] else (List.range (min s m)).flatMap fun c => (tyU u (s - (min s m - c)) (min s m - c)).map fun r => ((min s m - c : Nat) : Int) :: r
def tyAll (s m : Nat) : List (List Int) := tyU s s m
theorem flatMap_congrM {α β : Type} {f g : α → List β} : ∀ {l : List α}, (∀ x ∈ l, f x = g x) → l.flatMap f = l.flatMap g
  | [], _ => rfl
  | a :: l, h => by
    rw [List.flatMap_cons, List.flatMap_cons, h a (List.mem_cons_self ..), flatMap_congrM fun x hx => h x (List.mem_cons_of_mem _ hx)]
theorem tyU_eq : ∀ u v s m, s ≤ u → s ≤ v → tyU u s m = tyU v s m
  | 0, 0, _, _, _, _ => rfl
  | 0, v + 1, s, m, h, _ => by
    obtain rfl : s = 0 := by omega
    simp [tyU]
  | u + 1, 0, s, m, _, h => by
    obtain rfl : s = 0 := by omega
    simp [tyU]
  | u + 1, v + 1, s, m, h1, h2 => by
    rw [tyU, tyU]
    by_cases hs : s = 0
    · rw [if_pos hs, if_pos hs]
    · rw [if_neg hs, if_neg hs]
      refine flatMap_congrM fun c hc => ?_
      have := List.mem_range.1 hc
      rw [tyU_eq u v _ _ (by omega) (by omega)]
/-- The types whose greatest number is t or one of the first c below. -/
def tyPart (s t c : Nat) : List (List Int) := (List.range c).flatMap fun c => (tyAll (s - (t - c)) (t - c)).map fun r => ((t - c : Nat) : Int) :: r
theorem tyPart_zero (s t : Nat) : tyPart s t 0 = [] := rfl
theorem tyPart_succ (s t c : Nat) : tyPart s t (c + 1) = tyPart s t c ++ (tyAll (s - (t - c)) (t - c)).map fun r => ((t - c : Nat) : Int) :: r := by
  unfold tyPart
  rw [List.range_succ, List.flatMap_append, List.flatMap_singleton]
theorem tyAll_zero (m : Nat) : tyAll 0 m = [[]] := rfl
theorem tyAll_part {s m : Nat} (h : 0 < s) : tyAll s m = tyPart s (min s m) (min s m) := by
  obtain ⟨u, rfl⟩ : ∃ u, s = u + 1 := ⟨s - 1, by omega⟩
  unfold tyAll tyPart
  rw [tyU, if_neg (by omega)]
  refine flatMap_congrM fun c hc => ?_
  have := List.mem_range.1 hc
  unfold tyAll
  rw [tyU_eq u _ _ _ (by omega) (Nat.le_refl _)]
def rowsOkB (n : Nat) (R : List (List Int)) : Bool := decide (R.length ≤ 77) && R.all fun r => decide (r.length ≤ n)
theorem tyAll_ok0 : ∀ s < 13, ∀ m < 13, rowsOkB s (tyAll s m) = true := by decide +kernel
theorem tyAll_len {s m : Nat} (hs : s ≤ 12) (hm : m ≤ 12) : (tyAll s m).length ≤ 77 := by
  have := tyAll_ok0 s (by omega) m (by omega)
  unfold rowsOkB at this
  rw [Bool.and_eq_true] at this
  exact of_decide_eq_true this.1
theorem tyAll_row {s m : Nat} (hs : s ≤ 12) (hm : m ≤ 12) {r : List Int} (hr : r ∈ tyAll s m) : r.length ≤ s := by
  have := tyAll_ok0 s (by omega) m (by omega)
  unfold rowsOkB at this
  rw [Bool.and_eq_true] at this
  exact of_decide_eq_true (List.all_eq_true.1 this.2 r hr)
theorem tyPart_mono (s t : Nat) {c d : Nat} (h : c ≤ d) : (tyPart s t c).length ≤ (tyPart s t d).length := by
  induction d with
  | zero => obtain rfl : c = 0 := by omega
            exact Nat.le_refl _
  | succ d ih =>
    rcases Nat.lt_or_eq_of_le h with h1 | h1
    · refine Nat.le_trans (ih (by omega)) ?_
      rw [tyPart_succ, List.length_append]; omega
    · rw [h1]; exact Nat.le_refl _
theorem tyPart_len {s m c : Nat} (hs : s ≤ 12) (hm : m ≤ 12) (h0 : 0 < s) (hc : c ≤ min s m) : (tyPart s (min s m) c).length ≤ 77 := by
  refine Nat.le_trans (tyPart_mono s _ hc) ?_
  rw [← tyAll_part h0]
  exact tyAll_len hs hm
/-- How many exchanges have a type: the numbers one after the other, with those before them. -/
def tySame (L : List Int) (n : Int) : Nat → Nat
  | 0 => 0
  | k + 1 => if L.getD k 0 = n then tySame L n k + 1 else 0
def tyDiv (L : List Int) (f : Int) : Nat → Int
  | 0 => f
  | i + 1 => tyDiv L f i / (L.getD i 0 * (tySame L (L.getD i 0) i + 1 : Nat))
def tyCnt (L : List Int) : Int := tyDiv L (fac L.sum.toNat) L.length
theorem sum_bd : ∀ {L : List Int}, (∀ x ∈ L, 1 ≤ x ∧ x ≤ 12) → (L.length : Int) ≤ L.sum ∧ L.sum ≤ 12 * L.length
  | [], _ => by simp
  | a :: L, h => by
    have h1 := h a (List.mem_cons_self ..)
    have h2 := sum_bd (L := L) fun x hx => h x (List.mem_cons_of_mem _ hx)
    rw [List.sum_cons, List.length_cons]
    omega
theorem sum_snoc' (L : List Int) (k : Nat) (h : k < L.length) : (L.take (k + 1)).sum = (L.take k).sum + L.getD k 0 := by
  have e : L.take (k + 1) = L.take k ++ [L.getD k 0] := by rw [List.take_add_one, List.getD_eq_getElem?_getD, List.getElem?_eq_getElem h]; rfl
  rw [e, List.sum_append]; simp
theorem tySame_le (L : List Int) (n : Int) : ∀ k, tySame L n k ≤ k
  | 0 => Nat.le_refl _
  | k + 1 => by
    rw [tySame]
    have := tySame_le L n k
    split <;> omega
theorem tyDiv_bd {L : List Int} (h : ∀ x ∈ L, 1 ≤ x ∧ x ≤ 12) {f : Int} (hf : 0 ≤ f) : ∀ i, i ≤ L.length → 0 ≤ tyDiv L f i ∧ tyDiv L f i ≤ f
  | 0, _ => ⟨hf, Int.le_refl _⟩
  | i + 1, hi => by
    obtain ⟨h1, h2⟩ := tyDiv_bd h hf i (by omega)
    have hx : 1 ≤ L.getD i 0 ∧ L.getD i 0 ≤ 12 := h _ (by rw [List.getD_eq_getElem?_getD, List.getElem?_eq_getElem (by omega)]; exact List.getElem_mem _)
    rw [tyDiv]
    have hp : 0 ≤ L.getD i 0 * ((tySame L (L.getD i 0) i + 1 : Nat) : Int) := Int.mul_nonneg (by omega) (by omega)
    exact ⟨Int.ediv_nonneg h1 hp, Int.le_trans (Int.ediv_le_self _ h1) h2⟩
end Go.Am
namespace Go.Proofs.Ytmckfjnbbfdepaa
variable [Go.Am.CodeBlk]
open Go.Am
attribute [local irreducible] AW Outs Weak Lends Lend Sp aops atree aop1 Then Round InBlock Done
def TyOk (K : List Int) : Prop := 1 ≤ K.length ∧ K.length ≤ 12 ∧ (∀ x ∈ K, 1 ≤ x ∧ x ≤ 12) ∧ K.sum ≤ 12 ∧ ∀ i, i < K.length - 1 → K.getD (i + 1) 0 ≤ K.getD i 0
instance (K : List Int) : Decidable (TyOk K) := inferInstanceAs (Decidable (_ ∧ _ ∧ _ ∧ _ ∧ ∀ i, i < K.length - 1 → _))
theorem take_bd {K : List Int} (h : ∀ x ∈ K, 1 ≤ x ∧ x ≤ 12) {k : Nat} (hk : k ≤ 12) : 0 ≤ (K.take k).sum ∧ (K.take k).sum ≤ 144 := by
  have := sum_bd (L := K.take k) fun x hx => h x (List.mem_of_mem_take hx)
  have hl : (K.take k).length ≤ k := List.length_take_le ..
  omega
theorem chSum_spec (K : List Int) (h12 : K.length ≤ 12) (h : ∀ x ∈ K, 1 ≤ x ∧ x ≤ 12) : Sp Try.prog 72 [ints K] (.i K.sum) := by
  refine spec_of Try.func72 rfl cc72 rfl ?_
  unfold ac72
  repeat (first | (refine step_ops ?_; (first | (refine m_mov (by conv => lhs; whnf) ?_) | (refine m_len_ro rfl ?_))) | refine end_ops ?_ | refine seq_ops ?_ | refine AW_seq ?_ | refine AW_block ?_)
  refine AW_loop (α := Nat) (fun k => k ≤ K.length) (fun k => st [(3, .i (K.take k).sum), (6, ints K), (7, .i K.length), (8, .i k)] []) (fun k => K.length - k) 0 (by omega) (weak_st ?_ ?_ rfl rfl) ?_
  · (repeat' (first | exact trivial | refine And.intro ?_ ?_)) <;> (first | rfl | skip)
  · trivial
  intro k hk
  have hb := take_bd h (k := k) (by omega)
  by_cases hc : k < K.length
  · have hx := h _ (getD_mem hc)
    have hs := sum_snoc' K k hc
    generalize (K.take k).sum = a at *
    repeat (first | (refine step_ops ?_; (first | (refine m_mov (by conv => lhs; whnf) ?_) | (refine m_lss rfl rfl ?_) | (refine m_add rfl rfl ?_ ?_ ?_; (· omega); (· omega)) | (refine m_idx1_ro rfl rfl ?_ ?_; (· omega)) | (refine m_ld_rpi rfl ?_ ?_; (· omega)))) | refine end_ops ?_ | refine seq_ops ?_ | refine AW_ops ?_ | (refine cond_t rfl ?_ ?_; (· first | rfl | assumption | (refine decide_eq_true ?_; first | assumption | omega) | (refine nt ?_; first | assumption | omega) | (simp [*]; done))) | refine skip_then ?_ | refine AW_seq ?_ | refine norm_then ?_ | refine AW_block ?_ | refine norm_block ?_)
    refine next_round (k + 1) (by omega) (weak_st ?_ ?_ rfl rfl) ?_
    · rw [hs]
      (repeat' (first | exact trivial | refine And.intro ?_ ?_)) <;> (first | rfl | skip)
    · trivial
    · omega
  · obtain rfl : k = K.length := by omega
    rw [List.take_length] at hb ⊢
    repeat (first | (refine step_ops ?_; (first | (refine m_mov (by conv => lhs; whnf) ?_) | (refine m_lss rfl rfl ?_))) | refine end_ops ?_ | refine seq_ops ?_ | (refine cond_f rfl ?_ ?_; (· first | rfl | assumption | (refine decide_eq_false ?_; first | assumption | omega) | (refine nf ?_; first | assumption | omega) | (simp [*]; done))) | refine AW_seq ?_ | refine AW_ret ?_ | refine ret_done ?_ | refine norm_then ?_ | refine exit_then ?_ | refine exit_round ?_ | refine AW_exit ?_ | refine exit_block ?_)
    exact outs_i rfl
theorem chCount_spec (K : List Int) (hK : TyOk K) : Sp Try.prog 62 [ints K] (.i (tyCnt K)) := by
  obtain ⟨h1, h12, hx, h3, _⟩ := hK
  have hsb := sum_bd hx
  obtain ⟨N, hN⟩ := Int.eq_ofNat_of_zero_le (show 0 ≤ K.sum by omega)
  have hN12 : N ≤ 12 := by omega
  have hsum := chSum_spec K h12 hx
  rw [hN] at hsum
  unfold tyCnt
  rw [hN, Int.toNat_natCast]
  have hf0 := fac_le N (by omega)
  have hf1 : 0 ≤ fac N := by
    have : ∀ n ≤ 12, 0 ≤ fac n := by decide
    exact this N hN12
  generalize hf : fac N = f at *
  have hft := exTimes_spec N hN12
  rw [hf] at hft
  refine spec_of Try.func62 rfl cc62 rfl ?_
  unfold ac62
  repeat (first | (refine step_ops ?_; (refine m_mov (by conv => lhs; whnf) ?_)) | refine end_ops ?_ | refine seq_ops ?_)
  (refine step_ops ?_); (apply m_call (hsum)); (· repeat (first | exact lends_nil | (refine lends_cons ?_ ?_; (· (refine lend_ints ?_; first | rfl | omega)))))
  skip
  (refine step_ops ?_); (apply m_call (hft)); (· repeat (first | exact lends_nil | (refine lends_cons ?_ ?_; (· exact lend_v))))
  repeat (first | (refine step_ops ?_; (first | (refine m_mov (by conv => lhs; whnf) ?_) | (refine m_len_ro rfl ?_))) | refine end_ops ?_ | refine seq_ops ?_ | refine AW_seq ?_ | refine AW_block ?_)
  refine AW_loop (α := Nat) (fun k => k ≤ K.length) (fun k => st [(0, ints K), (3, .i (tyDiv K f k)), (11, ints K), (12, .i K.length), (13, .i k)] []) (fun k => K.length - k) 0 (by omega) (weak_st ?_ ?_ rfl rfl) ?_
  · (repeat' (first | exact trivial | refine And.intro ?_ ?_)) <;> (first | rfl | skip)
  · trivial
  intro k hk
  have hb := tyDiv_bd hx hf1 k hk
  by_cases hc : k < K.length
  · have hxk := hx _ (getD_mem hc)
    have hs : tyDiv K f (k + 1) = tyDiv K f k / (K.getD k 0 * (tySame K (K.getD k 0) k + 1 : Nat)) := rfl
    have hsl := tySame_le K (K.getD k 0) k
    generalize tyDiv K f k = a at *
    generalize hn : K.getD k 0 = n at *
    repeat (first | (refine step_ops ?_; (first | (refine m_mov (by conv => lhs; whnf) ?_) | (refine m_lss rfl rfl ?_) | (refine m_idx1_ro rfl rfl ?_ ?_; (· omega)) | (refine m_ld_rpi rfl ?_ ?_; (· omega)))) | refine end_ops ?_ | refine seq_ops ?_ | (refine cond_t rfl ?_ ?_; (· first | rfl | assumption | (refine decide_eq_true ?_; first | assumption | omega) | (refine nt ?_; first | assumption | omega) | (simp [*]; done))) | refine skip_then ?_ | refine AW_seq ?_ | refine AW_block ?_)
    rw [hn]
    skip
    refine AW_loop (α := Nat × Nat) (fun q => q.1 ≤ k ∧ q.2 + tySame K n q.1 = tySame K n k) (fun q => st [(0, ints K), (3, .i a), (4, .i k), (5, .i n), (6, .i ((q.2 + 1 : Nat) : Int)), (7, .i q.1), (11, ints K), (12, .i K.length), (13, .i k)] []) (fun q => q.1) (k, 0) ⟨Nat.le_refl _, Nat.zero_add _⟩ (weak_st ?_ ?_ rfl rfl) ?_
    · (repeat' (first | exact trivial | refine And.intro ?_ ?_)) <;> (first | rfl | skip)
    · trivial
    rintro ⟨j, c⟩ ⟨hj, hcs⟩
    dsimp only at hj hcs ⊢
    by_cases hj0 : j = 0
    · subst hj0
      have hj0' : ¬ (((0 : Nat) : Int) > 0) := by omega
      have hce : c = tySame K n k := by rw [← hcs]; simp [tySame]
      have hm0 : 0 < n * ((c + 1 : Nat) : Int) := Int.mul_pos (by omega) (by omega)
      have hm1 : n * ((c + 1 : Nat) : Int) ≤ 12 * 13 := Int.mul_le_mul (by omega) (by omega) (by omega) (by omega)
      repeat (first | (refine step_ops ?_; (first | (first | (refine m_mov (by conv => lhs; whnf) ?_) | (refine m_gtr rfl rfl ?_) | (refine m_add rfl rfl ?_ ?_ ?_; (· omega); (· omega)) | (refine m_mul rfl rfl ?_ ?_ ?_; (· first | omega | (simp; done)); (· first | omega | (simp; done))) | (refine m_pick_f rfl ?_ (by conv => lhs; whnf) ?_; (· first | rfl | assumption | (refine decide_eq_false ?_; first | assumption | omega) | (refine nf ?_; first | assumption | omega) | (simp [*]; done))) | (refine m_quo rfl rfl ?_ ?_ ?_ ?_; (· omega); (· omega); (· omega))) | (refine g_noT rfl ?_ ?_; (· first | rfl | assumption | (refine decide_eq_false ?_; first | assumption | omega) | (refine nf ?_; first | assumption | omega) | (simp [*]; done))))) | refine end_ops ?_ | refine seq_ops ?_ | refine AW_ops ?_ | (refine cond_f rfl ?_ ?_; (· first | rfl | assumption | (refine decide_eq_false ?_; first | assumption | omega) | (refine nf ?_; first | assumption | omega) | (simp [*]; done))) | refine AW_seq ?_ | refine norm_then ?_ | refine exit_then ?_ | refine norm_block ?_ | refine exit_round ?_ | refine AW_exit ?_ | refine exit_block ?_)
      refine next_round (k + 1) (by omega) (weak_st ?_ ?_ rfl rfl) ?_
      · rw [hs, ← hce]
        (repeat' (first | exact trivial | refine And.intro ?_ ?_)) <;> (first | rfl | skip)
      · trivial
      · omega
    · obtain ⟨j', rfl⟩ : ∃ j', j = j' + 1 := ⟨j - 1, by omega⟩
      have hj0' : ((j' + 1 : Nat) : Int) > 0 := by omega
      have hidx : ((j' + 1 : Nat) : Int) - 1 = (j' : Nat) := by omega
      have hss : tySame K n (j' + 1) = if K.getD j' 0 = n then tySame K n j' + 1 else 0 := rfl
      by_cases he : K.getD j' 0 = n
      · rw [if_pos he] at hss
        repeat (first | (refine step_ops ?_; ((try (refine g_yes rfl ?_ ?_; (· first | rfl | assumption | (refine decide_eq_true ?_; first | assumption | omega) | (refine nt ?_; first | assumption | omega) | (simp [*]; done) | (refine decide_eq_false ?_; first | assumption | omega) | (refine nf ?_; first | assumption | omega)))); (first | (refine m_mov (by conv => lhs; whnf) ?_) | (refine m_gtr rfl rfl ?_) | (refine m_eql rfl rfl ?_) | (refine m_add rfl rfl ?_ ?_ ?_; (· omega); (· omega)) | (refine m_sub rfl rfl ?_ ?_ ?_; (· omega); (· omega)) | (apply m_idx1_roj; (· rfl); (· rfl); (· assumption); (· omega)) | (refine m_ld_rpi rfl ?_ ?_; (· omega)) | (refine m_pick_t rfl ?_ (by conv => lhs; whnf) ?_; (· first | rfl | assumption | (refine decide_eq_true ?_; first | assumption | omega) | (refine nt ?_; first | assumption | omega) | (simp [*]; done)))))) | refine end_ops ?_ | refine seq_ops ?_ | refine AW_ops ?_ | (refine cond_t rfl ?_ ?_; (· first | rfl | assumption | (refine decide_eq_true ?_; first | assumption | omega) | (refine nt ?_; first | assumption | omega) | (simp [*]; done))) | refine skip_then ?_ | refine AW_seq ?_ | refine norm_then ?_ | refine AW_block ?_ | refine norm_block ?_)
        rw [hidx]
        skip
        refine next_round (j', c + 1) ⟨by omega, by dsimp only; omega⟩ (weak_st ?_ ?_ rfl rfl) ?_
        · (repeat' (first | exact trivial | refine And.intro ?_ ?_)) <;> (first | rfl | skip)
        · trivial
        · show j' < j' + 1; omega
      · rw [if_neg he] at hss
        have hce : c = tySame K n k := by omega
        have hm0 : 0 < n * ((c + 1 : Nat) : Int) := Int.mul_pos (by omega) (by omega)
        have hm1 : n * ((c + 1 : Nat) : Int) ≤ 12 * 13 := Int.mul_le_mul (by omega) (by omega) (by omega) (by omega)
        repeat (first | (refine step_ops ?_; ((try (refine g_yes rfl ?_ ?_; (· first | rfl | assumption | (refine decide_eq_true ?_; first | assumption | omega) | (refine nt ?_; first | assumption | omega) | (simp [*]; done) | (refine decide_eq_false ?_; first | assumption | omega) | (refine nf ?_; first | assumption | omega)))); (first | (refine m_mov (by conv => lhs; whnf) ?_) | (refine m_gtr rfl rfl ?_) | (refine m_eql rfl rfl ?_) | (refine m_add rfl rfl ?_ ?_ ?_; (· omega); (· omega)) | (refine m_sub rfl rfl ?_ ?_ ?_; (· omega); (· omega)) | (refine m_mul rfl rfl ?_ ?_ ?_; (· first | omega | (simp; done)); (· first | omega | (simp; done))) | (apply m_idx1_roj; (· rfl); (· rfl); (· assumption); (· omega)) | (refine m_ld_rpi rfl ?_ ?_; (· omega)) | (refine m_pick_t rfl ?_ (by conv => lhs; whnf) ?_; (· first | rfl | assumption | (refine decide_eq_true ?_; first | assumption | omega) | (refine nt ?_; first | assumption | omega) | (simp [*]; done))) | (refine m_quo rfl rfl ?_ ?_ ?_ ?_; (· omega); (· omega); (· omega))))) | refine end_ops ?_ | refine seq_ops ?_ | refine AW_ops ?_ | (refine cond_f rfl ?_ ?_; (· first | rfl | assumption | (refine decide_eq_false ?_; first | assumption | omega) | (refine nf ?_; first | assumption | omega) | (simp [*]; done))) | refine AW_seq ?_ | refine norm_then ?_ | refine exit_then ?_ | refine norm_block ?_ | refine exit_round ?_ | refine AW_exit ?_ | refine exit_block ?_)
        rw [hidx]
        skip
        refine next_round (k + 1) (by omega) (weak_st ?_ ?_ rfl rfl) ?_
        · rw [hs, ← hce]
          (repeat' (first | exact trivial | refine And.intro ?_ ?_)) <;> (first | rfl | skip)
        · trivial
        · omega
  · obtain rfl : k = K.length := by omega
    repeat (first | (refine step_ops ?_; (first | (refine m_mov (by conv => lhs; whnf) ?_) | (refine m_lss rfl rfl ?_))) | refine end_ops ?_ | refine seq_ops ?_ | (refine cond_f rfl ?_ ?_; (· first | rfl | assumption | (refine decide_eq_false ?_; first | assumption | omega) | (refine nf ?_; first | assumption | omega) | (simp [*]; done))) | refine AW_seq ?_ | refine AW_ret ?_ | refine ret_done ?_ | refine norm_then ?_ | refine exit_then ?_ | refine exit_round ?_ | refine AW_exit ?_ | refine exit_block ?_)
    exact outs_i rfl
end Go.Proofs.Ytmckfjnbbfdepaa
namespace Go.Am
variable [Go.Am.CodeBlk]
theorem ty_mem : ∀ (K : List Int) (s m : Nat), (∀ x ∈ K, 1 ≤ x) → K.sum = s → (∀ i, i < K.length - 1 → K.getD (i + 1) 0 ≤ K.getD i 0) → K.getD 0 0 ≤ m → K ∈ tyAll s m
  | [], s, m, _, hs, _, _ => by
    obtain rfl : s = 0 := by simp at hs; omega
    rw [tyAll_zero]
    exact List.mem_singleton.2 rfl
  | n :: K, s, m, h1, hs, ha, hm => by
    have hn := h1 n (List.mem_cons_self ..)
    have hK : ∀ x ∈ K, 1 ≤ x := fun x hx => h1 x (List.mem_cons_of_mem _ hx)
    have hks : 0 ≤ K.sum := by
      have : ∀ l : List Int, (∀ x ∈ l, 1 ≤ x) → 0 ≤ l.sum := by
        intro l
        induction l with
        | nil => intro _; simp
        | cons a l ih =>
          intro h
          have := h a (List.mem_cons_self ..)
          have := ih fun x hx => h x (List.mem_cons_of_mem _ hx)
          rw [List.sum_cons]; omega
      exact this K hK
    rw [List.sum_cons] at hs
    have hm' : n ≤ m := hm
    obtain ⟨N, rfl⟩ := Int.eq_ofNat_of_zero_le (show 0 ≤ n by omega)
    have hih := ty_mem K (s - N) N hK (by omega) (fun i hi => ha (i + 1) (by rw [List.length_cons]; omega)) (by
      cases K with
      | nil => simp
      | cons b K => exact ha 0 (by simp))
    rw [tyAll_part (by omega)]
    unfold tyPart
    rw [List.mem_flatMap]
    have hN : min s m - (min s m - N) = N := by omega
    refine ⟨min s m - N, List.mem_range.2 (by omega), ?_⟩
    rw [hN]
    exact List.mem_map.2 ⟨K, hih, rfl⟩
end Go.Am
namespace Go.Proofs.Ytmckfjnbbfdepaa
variable [Go.Am.CodeBlk]
open Go.Am
attribute [local irreducible] AW Outs Weak Lends Lend Sp aops atree aop1 Then Round InBlock Done
theorem ty_all {p : List Int → Bool} (h : ∀ s < 13, (tyAll s 12).all p = true) {K : List Int} (hK : TyOk K) : p K = true := by
  obtain ⟨h1, h12, hx, hs, ha⟩ := hK
  have hb := sum_bd hx
  obtain ⟨s, hse⟩ := Int.eq_ofNat_of_zero_le (show 0 ≤ K.sum by omega)
  have hm := ty_mem K s 12 (fun x hx' => (hx x hx').1) hse ha (hx _ (getD_mem h1)).2
  exact List.all_eq_true.1 (h s (by omega)) K hm
/-- Two counts are the same for all types if they are for those of the list. -/
theorem ty_eq {f g : List Int → Int} (h : ∀ s < 13, (tyAll s 12).all (fun K => decide (f K = g K)) = true) {K : List Int} (hK : TyOk K) : f K = g K := of_decide_eq_true (ty_all h hK)
example : ∀ s < 13, (tyAll s 12).all (fun K => decide (tyCnt K = tyCnt K)) = true := by decide +kernel
end Go.Proofs.Ytmckfjnbbfdepaa
namespace Go.Am
variable [Go.Am.CodeBlk]
theorem g_unb {P : Program} {own : Bool} {s : AS} {K : AS → Prop} {d : Option Nat} {op : AOp} {t : Nat} {w : Bool} (h : s.tm t = .v undef) (k : K (s.put d (.v undef))) : aop1 P own ⟨d, op, some (t, w)⟩ s K := .inr ⟨h, k⟩
end Go.Am
namespace Go.Proofs.Ytmckfjnbbfdepaa
variable [Go.Am.CodeBlk]
open Go.Am
attribute [local irreducible] AW Outs Weak Lends Lend Sp aops atree aop1 Then Round InBlock Done
theorem sum_split (K : List Int) (h : ∀ x ∈ K, 1 ≤ x) (k : Nat) : 0 ≤ (K.take k).sum ∧ (k : Nat) ≤ (K.take k).sum + (k - K.length : Nat) ∧ (K.take k).sum + (K.length - k : Nat) ≤ K.sum := by
  have hs : ∀ l : List Int, (∀ x ∈ l, 1 ≤ x) → (l.length : Int) ≤ l.sum := by
    intro l
    induction l with
    | nil => intro _; simp
    | cons a l ih =>
      intro h
      have h1 := h a (List.mem_cons_self ..)
      have h2 := ih fun x hx => h x (List.mem_cons_of_mem _ hx)
      rw [List.sum_cons, List.length_cons]; omega
  have h1 := hs (K.take k) fun x hx => h x (List.mem_of_mem_take hx)
  have h2 := hs (K.drop k) fun x hx => h x (List.mem_of_mem_drop hx)
  have e : K.sum = (K.take k).sum + (K.drop k).sum := by rw [← List.sum_append, List.take_append_drop]
  rw [List.length_take] at h1
  rw [List.length_drop] at h2
  omega
theorem isType_spec (K : List Int) (hL : K.length ≤ 1048576) : Sp Try.prog 51 [ints K] (.b (decide (TyOk K))) := by
  refine spec_of Try.func51 rfl cc51 rfl ?_
  unfold ac51
  repeat (first | (refine step_ops ?_; (first | (refine m_mov (by conv => lhs; whnf) ?_) | (refine m_len_ro rfl ?_))) | refine end_ops ?_ | refine seq_ops ?_ | refine AW_seq ?_ | refine AW_block ?_)
  refine AW_loop (α := Nat) (fun k => k ≤ K.length ∧ (∀ x ∈ K.take k, 1 ≤ x) ∧ (K.take k).sum ≤ 12 ∧ ∀ i, i + 1 < k → K.getD (i + 1) 0 ≤ K.getD i 0) (fun k => st [(0, ints K), (3, .i (K.take k).sum), (6, ints K), (7, .i K.length), (8, .i k)] []) (fun k => K.length - k) 0 ⟨by omega, by simp, by simp, fun i hi => absurd hi (by omega)⟩ (weak_st ?_ ?_ rfl rfl) ?_
  · (repeat' (first | exact trivial | refine And.intro ?_ ?_)) <;> (first | rfl | skip)
  · trivial
  rintro k ⟨hk, h1, h2, h3⟩
  have hb : 0 ≤ (K.take k).sum ∧ (k : Int) ≤ (K.take k).sum := by
    have := sum_split (K.take k) h1 k
    rw [List.take_take, Nat.min_self, List.length_take, Nat.min_eq_left hk] at this
    omega
  by_cases hc : k < K.length
  · have hs := sum_snoc' K k hc
    have hty : TyOk K → 1 ≤ K.getD k 0 ∧ K.getD k 0 ≤ 12 - (K.take k).sum := by
      intro ht
      have h4 := ht.2.2.1 _ (getD_mem hc)
      have h5 := sum_split K (fun x hx => (ht.2.2.1 x hx).1) (k + 1)
      have h6 := ht.2.2.2.1
      omega
    have hmem : ∀ x, 1 ≤ K.getD k 0 → x ∈ K.take (k + 1) → 1 ≤ x := by
      intro x hx hm
      rw [take_snoc K k 0 hc, List.mem_append, List.mem_singleton] at hm
      rcases hm with hm | rfl
      · exact h1 x hm
      · exact hx
    generalize (K.take k).sum = a at *
    by_cases g1 : K.getD k 0 < 1
    · repeat (first | (refine step_ops ?_; (first | (first | (refine m_mov (by conv => lhs; whnf) ?_) | (refine m_lss rfl rfl ?_) | (refine m_idx1_ro rfl rfl ?_ ?_; (· omega)) | (refine m_ld_rpi rfl ?_ ?_; (· omega)) | (refine m_pick_t rfl ?_ (by conv => lhs; whnf) ?_; (· first | rfl | assumption | (refine decide_eq_true ?_; first | assumption | omega) | (refine nt ?_; first | assumption | omega) | (simp [*]; done)))) | (refine g_noF rfl ?_ ?_; (· first | rfl | assumption | (refine decide_eq_true ?_; first | assumption | omega) | (refine nt ?_; first | assumption | omega) | (simp [*]; done))))) | refine end_ops ?_ | refine seq_ops ?_ | (refine cond_t rfl ?_ ?_; (· first | rfl | assumption | (refine decide_eq_true ?_; first | assumption | omega) | (refine nt ?_; first | assumption | omega) | (simp [*]; done))) | refine skip_then ?_ | refine AW_seq ?_ | refine AW_block ?_)
      repeat (refine step_ops ?_; refine g_unb rfl ?_)
      repeat (first | (refine step_ops ?_; (first | (first | (refine m_mov (by conv => lhs; whnf) ?_) | (refine m_pick_t rfl ?_ (by conv => lhs; whnf) ?_; (· first | rfl | assumption | (refine decide_eq_true ?_; first | assumption | omega) | (refine nt ?_; first | assumption | omega) | (simp [*]; done)))) | (refine g_noF rfl ?_ ?_; (· first | rfl | assumption | (refine decide_eq_true ?_; first | assumption | omega) | (refine nt ?_; first | assumption | omega) | (simp [*]; done))))) | refine end_ops ?_ | refine seq_ops ?_ | (refine cond_t rfl ?_ ?_; (· first | rfl | assumption | (refine decide_eq_true ?_; first | assumption | omega) | (refine nt ?_; first | assumption | omega) | (simp [*]; done))) | refine AW_ret ?_ | refine ret_done ?_ | refine ret_then ?_ | refine ret_block ?_ | refine ret_round ?_)
      exact outs_b (decide_eq_false fun ht => by have := hty ht; omega).symm
    by_cases g2 : K.getD k 0 > 12 - a
    · repeat (first | (refine step_ops ?_; (first | ((try (refine g_yes rfl ?_ ?_; (· first | rfl | assumption | (refine decide_eq_true ?_; first | assumption | omega) | (refine nt ?_; first | assumption | omega) | (simp [*]; done) | (refine decide_eq_false ?_; first | assumption | omega) | (refine nf ?_; first | assumption | omega)))); (first | (refine m_mov (by conv => lhs; whnf) ?_) | (refine m_lss rfl rfl ?_) | (refine m_gtr rfl rfl ?_) | (refine m_sub rfl rfl ?_ ?_ ?_; (· omega); (· omega)) | (refine m_idx1_ro rfl rfl ?_ ?_; (· omega)) | (refine m_ld_rpi rfl ?_ ?_; (· omega)) | (refine m_pick_f rfl ?_ (by conv => lhs; whnf) ?_; (· first | rfl | assumption | (refine decide_eq_false ?_; first | assumption | omega) | (refine nf ?_; first | assumption | omega) | (simp [*]; done))))) | (refine g_noF rfl ?_ ?_; (· first | rfl | assumption | (refine decide_eq_true ?_; first | assumption | omega) | (refine nt ?_; first | assumption | omega) | (simp [*]; done))))) | refine end_ops ?_ | refine seq_ops ?_ | (refine cond_t rfl ?_ ?_; (· first | rfl | assumption | (refine decide_eq_true ?_; first | assumption | omega) | (refine nt ?_; first | assumption | omega) | (simp [*]; done))) | refine skip_then ?_ | refine AW_seq ?_ | refine AW_block ?_)
      repeat (refine step_ops ?_; refine g_unb rfl ?_)
      repeat (first | (refine step_ops ?_; (first | (first | (refine m_mov (by conv => lhs; whnf) ?_) | (refine m_pick_t rfl ?_ (by conv => lhs; whnf) ?_; (· first | rfl | assumption | (refine decide_eq_true ?_; first | assumption | omega) | (refine nt ?_; first | assumption | omega) | (simp [*]; done)))) | (refine g_noF rfl ?_ ?_; (· first | rfl | assumption | (refine decide_eq_true ?_; first | assumption | omega) | (refine nt ?_; first | assumption | omega) | (simp [*]; done))))) | refine end_ops ?_ | refine seq_ops ?_ | (refine cond_t rfl ?_ ?_; (· first | rfl | assumption | (refine decide_eq_true ?_; first | assumption | omega) | (refine nt ?_; first | assumption | omega) | (simp [*]; done))) | refine AW_ret ?_ | refine ret_done ?_ | refine ret_then ?_ | refine ret_block ?_ | refine ret_round ?_)
      exact outs_b (decide_eq_false fun ht => by have := hty ht; omega).symm
    by_cases g3 : k = 0
    · subst g3
      have g4 : ¬ ((0 : Nat) : Int) > 0 := by omega
      repeat (first | (refine step_ops ?_; (first | ((try (refine g_yes rfl ?_ ?_; (· first | rfl | assumption | (refine decide_eq_true ?_; first | assumption | omega) | (refine nt ?_; first | assumption | omega) | (simp [*]; done) | (refine decide_eq_false ?_; first | assumption | omega) | (refine nf ?_; first | assumption | omega)))); (first | (refine m_mov (by conv => lhs; whnf) ?_) | (refine m_lss rfl rfl ?_) | (refine m_gtr rfl rfl ?_) | (refine m_add rfl rfl ?_ ?_ ?_; (· omega); (· omega)) | (refine m_sub rfl rfl ?_ ?_ ?_; (· omega); (· omega)) | (refine m_idx1_ro rfl rfl ?_ ?_; (· omega)) | (refine m_ld_rpi rfl ?_ ?_; (· omega)) | (refine m_pick_f rfl ?_ (by conv => lhs; whnf) ?_; (· first | rfl | assumption | (refine decide_eq_false ?_; first | assumption | omega) | (refine nf ?_; first | assumption | omega) | (simp [*]; done))))) | (refine g_noT rfl ?_ ?_; (· first | rfl | assumption | (refine decide_eq_false ?_; first | assumption | omega) | (refine nf ?_; first | assumption | omega) | (simp [*]; done))))) | refine end_ops ?_ | refine seq_ops ?_ | refine AW_ops ?_ | (refine cond_t rfl ?_ ?_; (· first | rfl | assumption | (refine decide_eq_true ?_; first | assumption | omega) | (refine nt ?_; first | assumption | omega) | (simp [*]; done))) | (refine cond_f rfl ?_ ?_; (· first | rfl | assumption | (refine decide_eq_false ?_; first | assumption | omega) | (refine nf ?_; first | assumption | omega) | (simp [*]; done))) | refine skip_then ?_ | refine AW_seq ?_ | refine norm_then ?_ | refine AW_block ?_ | refine norm_block ?_)
      refine next_round (0 + 1) ⟨by omega, fun x hx => hmem x (by omega) hx, by omega, fun i hi => by omega⟩ (weak_st ?_ ?_ rfl rfl) ?_
      · rw [hs]
        (repeat' (first | exact trivial | refine And.intro ?_ ?_)) <;> (first | rfl | skip)
      · trivial
      · omega
    · obtain ⟨k', rfl⟩ : ∃ k', k = k' + 1 := ⟨k - 1, by omega⟩
      have g4 : ((k' + 1 : Nat) : Int) > 0 := by omega
      have hidx : ((k' + 1 : Nat) : Int) - 1 = (k' : Nat) := by omega
      by_cases g5 : K.getD (k' + 1) 0 > K.getD k' 0
      · repeat (first | (refine step_ops ?_; ((try (refine g_yes rfl ?_ ?_; (· first | rfl | assumption | (refine decide_eq_true ?_; first | assumption | omega) | (refine nt ?_; first | assumption | omega) | (simp [*]; done) | (refine decide_eq_false ?_; first | assumption | omega) | (refine nf ?_; first | assumption | omega)))); (first | (refine m_mov (by conv => lhs; whnf) ?_) | (refine m_lss rfl rfl ?_) | (refine m_gtr rfl rfl ?_) | (refine m_sub rfl rfl ?_ ?_ ?_; (· omega); (· omega)) | (refine m_idx1_ro rfl rfl ?_ ?_; (· omega)) | (apply m_idx1_roj; (· rfl); (· rfl); (· assumption); (· omega)) | (refine m_ld_rpi rfl ?_ ?_; (· omega)) | (refine m_pick_t rfl ?_ (by conv => lhs; whnf) ?_; (· first | rfl | assumption | (refine decide_eq_true ?_; first | assumption | omega) | (refine nt ?_; first | assumption | omega) | (simp [*]; done))) | (refine m_pick_f rfl ?_ (by conv => lhs; whnf) ?_; (· first | rfl | assumption | (refine decide_eq_false ?_; first | assumption | omega) | (refine nf ?_; first | assumption | omega) | (simp [*]; done)))))) | refine end_ops ?_ | refine seq_ops ?_ | (refine cond_t rfl ?_ ?_; (· first | rfl | assumption | (refine decide_eq_true ?_; first | assumption | omega) | (refine nt ?_; first | assumption | omega) | (simp [*]; done))) | refine skip_then ?_ | refine AW_seq ?_ | refine AW_ret ?_ | refine ret_done ?_ | refine ret_then ?_ | refine AW_block ?_ | refine ret_block ?_ | refine ret_round ?_)
        rw [hidx]
        skip
        exact outs_b (decide_eq_false fun ht => by have := ht.2.2.2.2 k' (by omega); omega).symm
      · repeat (first | (refine step_ops ?_; ((try (refine g_yes rfl ?_ ?_; (· first | rfl | assumption | (refine decide_eq_true ?_; first | assumption | omega) | (refine nt ?_; first | assumption | omega) | (simp [*]; done) | (refine decide_eq_false ?_; first | assumption | omega) | (refine nf ?_; first | assumption | omega)))); (first | (refine m_mov (by conv => lhs; whnf) ?_) | (refine m_lss rfl rfl ?_) | (refine m_gtr rfl rfl ?_) | (refine m_add rfl rfl ?_ ?_ ?_; (· omega); (· omega)) | (refine m_sub rfl rfl ?_ ?_ ?_; (· omega); (· omega)) | (refine m_idx1_ro rfl rfl ?_ ?_; (· omega)) | (apply m_idx1_roj; (· rfl); (· rfl); (· assumption); (· omega)) | (refine m_ld_rpi rfl ?_ ?_; (· omega)) | (refine m_pick_t rfl ?_ (by conv => lhs; whnf) ?_; (· first | rfl | assumption | (refine decide_eq_true ?_; first | assumption | omega) | (refine nt ?_; first | assumption | omega) | (simp [*]; done))) | (refine m_pick_f rfl ?_ (by conv => lhs; whnf) ?_; (· first | rfl | assumption | (refine decide_eq_false ?_; first | assumption | omega) | (refine nf ?_; first | assumption | omega) | (simp [*]; done)))))) | refine end_ops ?_ | refine seq_ops ?_ | refine AW_ops ?_ | (refine cond_t rfl ?_ ?_; (· first | rfl | assumption | (refine decide_eq_true ?_; first | assumption | omega) | (refine nt ?_; first | assumption | omega) | (simp [*]; done))) | (refine cond_f rfl ?_ ?_; (· first | rfl | assumption | (refine decide_eq_false ?_; first | assumption | omega) | (refine nf ?_; first | assumption | omega) | (simp [*]; done))) | refine skip_then ?_ | refine AW_seq ?_ | refine norm_then ?_ | refine AW_block ?_ | refine norm_block ?_)
        rw [hidx]
        skip
        refine next_round (k' + 1 + 1) ⟨by omega, fun x hx => hmem x (by omega) hx, by omega, fun i hi => ?_⟩ (weak_st ?_ ?_ rfl rfl) ?_
        · by_cases e : i = k'
          · subst e; omega
          · exact h3 i (by omega)
        · rw [hs]
          (repeat' (first | exact trivial | refine And.intro ?_ ?_)) <;> (first | rfl | skip)
        · trivial
        · omega
  · obtain rfl : k = K.length := by omega
    rw [List.take_length] at h1 h2 hb ⊢
    have he : decide (1 ≤ K.sum ∧ K.sum ≤ 12) = decide (TyOk K) := by
      refine decide_eq_decide.2 ⟨fun h => ⟨?_, by omega, fun x hx => ⟨h1 x hx, ?_⟩, by omega, fun i hi => h3 i (by omega)⟩, fun h => ?_⟩
      · rcases Nat.eq_zero_or_pos K.length with h0 | h0
        · rw [List.eq_nil_of_length_eq_zero h0] at h; simp at h
        · exact h0
      · obtain ⟨i, hi, rfl⟩ := List.mem_iff_getElem.1 hx
        have h5 := sum_split K h1 i
        have h6 := sum_split K h1 (i + 1)
        have h7 := sum_snoc' K i hi
        rw [List.getD_eq_getElem?_getD, List.getElem?_eq_getElem hi] at h7
        have : (some K[i]).getD 0 = K[i] := rfl
        rw [this] at h7
        omega
      · have := h.1; omega
    repeat (first | (refine step_ops ?_; (first | (refine m_mov (by conv => lhs; whnf) ?_) | (refine m_lss rfl rfl ?_))) | refine end_ops ?_ | refine seq_ops ?_ | (refine cond_f rfl ?_ ?_; (· first | rfl | assumption | (refine decide_eq_false ?_; first | assumption | omega) | (refine nf ?_; first | assumption | omega) | (simp [*]; done))) | refine AW_seq ?_ | refine norm_then ?_ | refine exit_then ?_ | refine exit_round ?_ | refine AW_exit ?_ | refine exit_block ?_)
    (refine step_ops ?_); (apply m_call (isGuestCount_spec _)); (· repeat (first | exact lends_nil | (refine lends_cons ?_ ?_; (· exact lend_v))))
    repeat (first | (refine step_ops ?_; (refine m_mov (by conv => lhs; whnf) ?_)) | refine end_ops ?_ | refine AW_ret ?_ | refine ret_done ?_)
    exact outs_b he
end Go.Proofs.Ytmckfjnbbfdepaa
namespace Go.Am
variable [Go.Am.CodeBlk]
variable {P : Program} {N : Nat}
/-- Where such a call begins. -/
def enterH (asx : List AV) (hin : Hp) : AS := ⟨fun t => (asx[t]?).getD .any, hin⟩
theorem enterH_sim {w : World} {phi : Nat → Option Nat} {asx : List AV} {hin : Hp} {vs : Array Value} {n : Nat} (hg : GoodW w) (hgb : ∀ r b, (hin r).isSome = true → phi r = some b → b ∉ goodB) (hpb : ∀ r, (hin r).isSome = true → pbase ≤ r) (hinj : Inj hin phi) (hregs : Regs (ctxE w phi hin) hin)
    (hs : SimL asx (ctxE w phi hin) vs.toList) (hl : vs.size = asx.length) :
    Sim w (fun r => if (hin r).isSome then phi r else none) (min n pbase) (enterH asx hin) (vs ++ Array.replicate (n - vs.size) undef) w phi (ctxE w phi hin).ro where
  os := rfl
  tape := rfl
  output := rfl
  size := Nat.le_refl _
  kept := fun _ _ _ => rfl
  shp := fun b cur e f hb => ⟨cur, hb, rfl⟩
  npb := Nat.min_le_right _ _
  gd := ⟨hg, fun r b h => by split at h; exact hgb r b ‹_› h; cases h⟩
  rob := fun _ hb => hb.1
  inj := fun r r' b h1 h2 h3 h4 => hinj r r' b h1 h2 h3 h4
  liv := fun r c hc => by
    have hr : (hin r).isSome = true := by have h1 : hin r = some c := hc
                                          rw [h1]; rfl
    rcases hregs r c hc with ⟨h1, h2⟩ | ⟨b, cur, e, h1, h2, h3⟩ | ⟨b, o, h0, h1, h2, h3⟩
    · refine .inl ⟨h1, h2, fun _ => ?_⟩
      rw [if_pos hr]; exact h1
    · refine .inr (.inl ⟨b, cur, e, h1, h2, fun hb => hb.2 r hr h1, .inr ⟨hpb r hr, ?_⟩, h3⟩)
      rw [if_pos hr]; exact h1
    · refine .inr (.inr ⟨b, o, h0, h1, h2, h3, fun hb => hb.2 r hr h1, .inr ⟨hpb r hr, ?_⟩⟩)
      rw [if_pos hr]; exact h1
  tms := fun t => by
    simp only [enterH]
    cases hx : asx[t]? with
    | none => simp [SimV]
    | some x =>
      obtain ⟨y, hy, hsy⟩ := hs.get hx
      have hlt : t < vs.size := by
        have := (List.getElem?_eq_some_iff.1 hy).1
        simpa using this
      have hy' : vs[t] = y := by
        have := (List.getElem?_eq_some_iff.1 hy).2
        simpa using this
      have : (vs ++ Array.replicate (n - vs.size) undef).getD t undef = y := by
        simp [Array.getD_eq_getD_getElem?, Array.getElem?_append, hlt, hy']
      rw [this]
      exact hsy
  slots := by simp; omega
/-- What such a function owes at its end: s: names. -/
def DoneH (ts : List Nat) (res : AV) (hin hout : Hp) : Exit → AS → Prop
  | .normal, s | .ret, s => ∃ g : Nat → Nat, resAV s ts = renV g res ∧ (∀ r c, hout r = some c → ∃ c0, s.hp (g r) = some c0 ∧ (c0 = renR g c ∨ (c.2 = [] ∧ c0.2 = []))) ∧ (∀ r, (hin r).isSome = true → g r = r ∧ (hout r).isSome = true) ∧
      (∀ r, (hout r).isSome = true → hin r = none → g r < pbase) ∧ (∀ r r', (hout r).isSome = true → (hout r').isSome = true → g r = g r' → r = r')
  | _, _ => False
/-- What is asked of names and values alone. -/
structure Static (hin : Hp) (res : AV) (hout : Hp) : Prop where
  pb : ∀ r, (hin r).isSome = true → pbase ≤ r
  own : ∀ r c, hout r = some c → ownL false c.2 = true ∧ refsL (fun r => (hout r).isSome) c.2 = true
  res : ownV false res = true ∧ refsV (fun r => (hout r).isSome) res = true
/-- A block that is a region's own is new, if all that was lent is there still. -/
theorem Sim.mine_new {w0 w : World} {mu : Nat → Option Nat} {N : Nat} {s : AS} {tm : Array Value} {phi : Nat → Option Nat} {ro : Nat → Prop} (h : Sim w0 mu N s tm w phi ro) (hall : ∀ r b, mu r = some b → (s.hp r).isSome = true) {q b : Nat} (hq : (s.hp q).isSome = true) (hlt : q < pbase) (hp : phi q = some b) (hm : Mine w0 mu b) : w0.heap.size ≤ b := by
  rcases hm with h1 | ⟨r, hr, hmu⟩
  · exact h1
  exfalso
  have hs := hall r b hmu
  obtain ⟨c, hc⟩ := Option.isSome_iff_exists.1 hs
  have hge : pbase ≤ r := Nat.le_trans (by decide) hr
  have key : phi r = some b := by
    rcases h.liv r c hc with ⟨_, _, k3⟩ | ⟨b', _, _, k1, _, _, k4, _⟩ | ⟨b', _, _, k1, _, _, _, k4⟩
    · rw [k3 hge] at hmu; cases hmu
    · rcases k4 with k4 | k4
      · omega
      · rw [k4.2] at hmu; cases hmu; exact k1
    · rcases k4 with k4 | k4
      · omega
      · rw [k4.2] at hmu; cases hmu; exact k1
  have := h.inj q r b hq hs hp key
  omega
theorem specH_of {f : FuncId} {fn : Func} {code : Code} {ac : ACode} {ts : List Nat} {asx : List AV} {hin hout : Hp} {res : AV} (hf : P.funcs[f]? = some fn) (hb : fn.body = some code) (hc : ccode P (min fn.ntmps pbase) code = some ac) (hr : resTmps fn = some ts)
    (hst : Static hin res hout) (h : AW P (min fn.ntmps pbase) ac (enterH asx hin) (DoneH ts res hin hout)) : SpH P f asx hin res hout := by
  intro w vs phi hg hgb hinj hregs hs hl
  refine calls_of_wp hf hb (wp_mono (h code hc w _ _ w ⟨rfl, _, _, enterH_sim hg hgb hst.pb hinj hregs hs hl⟩) fun e a' w' hA => ?_)
  obtain ⟨s', h1, hf', phi', ro, hS⟩ := hA
  have fin : (∃ g : Nat → Nat, resAV s' ts = renV g res ∧ (∀ r c, hout r = some c → ∃ c0, s'.hp (g r) = some c0 ∧ (c0 = renR g c ∨ (c.2 = [] ∧ c0.2 = []))) ∧ (∀ r, (hin r).isSome = true → g r = r ∧ (hout r).isSome = true) ∧
      (∀ r, (hout r).isSome = true → hin r = none → g r < pbase) ∧ (∀ r r', (hout r).isSome = true → (hout r').isSome = true → g r = g r' → r = r')) → a'.defers = [] ∧ ∃ v, (results fn a'.tmps).run P w' = .ok v w' ∧
      ∃ v' phi', Ending.returned v = .returned v' ∧ w'.os = w.os ∧ w'.tape = w.tape ∧ w'.output = w.output ∧ w.heap.size ≤ w'.heap.size ∧
      (∀ r, (hin r).isSome = true → phi' r = phi r) ∧ (∀ b, b < w.heap.size → (∀ r, (hin r).isSome = true → phi r ≠ some b) → w'.heap[b]? = w.heap[b]?) ∧
      (∀ (b : Nat) (cur : Array Value) (e : TypeId) (f : Nat × Nat), w.heap[b]? = some (.cells cur e f) → ∃ cur' : Array Value, w'.heap[b]? = some (.cells cur' e f) ∧ cur'.size = cur.size) ∧
      Inj hout phi' ∧ (∀ r b, (hout r).isSome = true → hin r = none → phi' r = some b → w.heap.size ≤ b) ∧ Regs (ctxX w w' phi' hout) hout ∧ SimV res (ctxX w w' phi' hout) v' := by
    rintro ⟨g, hres, hhas, hstay, hfresh, hgi⟩
    have hlv : ∀ r, (hout r).isSome = true → (s'.hp (g r)).isSome = true := by
      intro r hr
      obtain ⟨c, hc⟩ := Option.isSome_iff_exists.1 hr
      obtain ⟨c0, h1, _⟩ := hhas r c hc
      rw [h1]; rfl
    have hall : ∀ r b, (if (hin r).isSome = true then phi r else none) = some b → (s'.hp r).isSome = true := by
      intro r b hb
      split at hb
      · rename_i hi
        have := hlv r (hstay r hi).2
        rw [(hstay r hi).1] at this
        exact this
      · cases hb
    have hvt : SimV (resAV s' ts) (ctx w w' ro phi' s') (resVal a'.tmps ts) := simv_res hS ts
    rw [hres] at hvt
    refine ⟨hf', _, run_results hr a'.tmps w' P, _, fun r => phi' (g r), rfl, hS.os, hS.tape, hS.output, hS.size, fun r hr => ?_, fun b hb hne => hS.kept b hb fun r hr => ?_, hS.shp, ?_, ?_, ?_, ?_⟩
    · obtain ⟨e1, e2⟩ := hstay r hr
      obtain ⟨c, hc⟩ := Option.isSome_iff_exists.1 e2
      obtain ⟨c0, hh, _⟩ := hhas r c hc
      rw [e1] at hh
      show phi' (g r) = phi r
      rw [e1]
      rcases hS.liv r _ hh with ⟨k1, _, k3⟩ | ⟨b, cur, e', k1, _, _, k4, _⟩ | ⟨b, o, _, k1, _, _, _, k4⟩
      case inr.inr =>
        rcases k4 with k4 | k4
        · have := hst.pb r hr; omega
        · have k5 := k4.2
          simp only [hr, if_true] at k5
          rw [k1, k5]
      · have k5 := k3 (hst.pb r hr)
        simp only [hr, if_true] at k5
        rw [k1, k5]
      · rcases k4 with k4 | k4
        · have := hst.pb r hr; omega
        · have k5 := k4.2
          simp only [hr, if_true] at k5
          rw [k1, k5]
    · split at hr
      · rename_i hrs; exact hne r hrs hr
      · cases hr
    · intro r r' b h1 h2 h3 h4
      exact hgi r r' h1 h2 (hS.inj _ _ b (hlv r h1) (hlv r' h2) h3 h4)
    · intro r b h1 h2 h3
      obtain ⟨c, hc⟩ := Option.isSome_iff_exists.1 h1
      have hlt := hfresh r h1 h2
      obtain ⟨c0, hh0, _⟩ := hhas r c hc
      rcases hS.liv _ _ hh0 with ⟨k1, _⟩ | ⟨b', _, _, k1, _, _, k4, _⟩ | ⟨b', _, _, k1, _, _, _, k4⟩
      · have h3' : phi' (g r) = some b := h3
        rw [k1] at h3'; cases h3'
      case inr.inr =>
        have h3' : phi' (g r) = some b := h3
        rw [k1] at h3'; cases h3'
        rcases k4 with k4 | k4
        · exact hS.mine_new hall (by rw [hh0]; rfl) k4.1 k1 k4.2
        · omega
      · have h3' : phi' (g r) = some b := h3
        rw [k1] at h3'; cases h3'
        rcases k4 with k4 | k4
        · exact hS.mine_new hall (by rw [hh0]; rfl) k4.1 k1 k4.2
        · omega
    · intro r c hc
      obtain ⟨ho, hrf⟩ := hst.own r c hc
      obtain ⟨c0, hh0, hc0⟩ := hhas r c hc
      rcases hS.liv _ _ hh0 with ⟨k1, k2, _⟩ | ⟨b, cur, e', k1, k2, _, _, k5⟩ | ⟨b, o, h0, k1, k2, k3, _⟩
      case inr.inr =>
        rcases hc0 with rfl | hc0
        · exact .inr (.inr ⟨b, o, renR_ob h0, k1, k2, k3⟩)
        · rw [h0] at hc0; simp at hc0
      · refine .inl ⟨k1, ?_⟩
        rcases hc0 with rfl | hc0
        · obtain ⟨fl, cs⟩ := c
          simp only [renR, renL_map] at k2
          exact List.map_eq_nil_iff.1 k2
        · exact hc0.1
      · rcases hc0 with rfl | hc0
        case inr => exact .inr (.inl ⟨b, cur, e', k1, k2, by unfold SimR; rw [hc0.1]; simp [SimL]⟩)
        refine .inr (.inl ?_)
        exact ⟨b, cur, e', k1, k2, simR_in (q := false) (C := ctxX w w' (fun r => phi' (g r)) hout) (D := ctx w w' ro phi' s') rfl (fun e => by cases e) (fun _ => rfl) (fun _ r _ => rfl) ho hrf k5⟩
    · exact simV_in false g (ctxX w w' (fun r => phi' (g r)) hout) (ctx w w' ro phi' s') rfl (fun e => by cases e) (fun _ => rfl) (fun _ r _ => rfl) res _ hst.res.1 hst.res.2 hvt
  cases e with
  | normal => exact fin h1
  | ret => exact fin h1
  | exit id => exact h1.elim
  | goto l => exact h1.elim
  | panic c => exact h1.elim
  | outgrown => exact h1.elim
/-- With an open end. -/
def DoneX (ts : List Nat) {ι : Type} (ok : ι → Prop) (res : ι → AV) (hin : Hp) (hout : ι → Hp) (e : Exit) (s : AS) : Prop := ∃ i, ok i ∧ DoneH ts (res i) hin (hout i) e s
theorem specX_of {f : FuncId} {fn : Func} {code : Code} {ac : ACode} {ts : List Nat} {asx : List AV} {hin : Hp} {ι : Type} {ok : ι → Prop} {res : ι → AV} {hout : ι → Hp} (hf : P.funcs[f]? = some fn) (hb : fn.body = some code) (hc : ccode P (min fn.ntmps pbase) code = some ac) (hr : resTmps fn = some ts)
    (hpb : ∀ r, (hin r).isSome = true → pbase ≤ r) (hsta : ∀ i, ok i → Static hin (res i) (hout i)) (h : AW P (min fn.ntmps pbase) ac (enterH asx hin) (DoneX ts ok res hin hout)) : SpX P f asx hin ok res hout := by
  intro w vs phi hg hgb hinj hregs hs hl
  refine calls_of_wp hf hb (wp_mono (h code hc w _ _ w ⟨rfl, _, _, enterH_sim hg hgb hpb hinj hregs hs hl⟩) fun e a' w' hA => ?_)
  obtain ⟨s', h0, hf', phi', ro, hS⟩ := hA
  obtain ⟨i, hi, h1⟩ : ∃ i, ok i ∧ DoneH ts (res i) hin (hout i) e s' := h0
  have hst := hsta i hi
  clear h hsta
  have fin : (∃ g : Nat → Nat, resAV s' ts = renV g (res i) ∧ (∀ r c, hout i r = some c → ∃ c0, s'.hp (g r) = some c0 ∧ (c0 = renR g c ∨ (c.2 = [] ∧ c0.2 = []))) ∧ (∀ r, (hin r).isSome = true → g r = r ∧ (hout i r).isSome = true) ∧
      (∀ r, (hout i r).isSome = true → hin r = none → g r < pbase) ∧ (∀ r r', (hout i r).isSome = true → (hout i r').isSome = true → g r = g r' → r = r')) → a'.defers = [] ∧ ∃ v, (results fn a'.tmps).run P w' = .ok v w' ∧ ∃ i, ok i ∧
      ∃ v' phi', Ending.returned v = .returned v' ∧ w'.os = w.os ∧ w'.tape = w.tape ∧ w'.output = w.output ∧ w.heap.size ≤ w'.heap.size ∧
      (∀ r, (hin r).isSome = true → phi' r = phi r) ∧ (∀ b, b < w.heap.size → (∀ r, (hin r).isSome = true → phi r ≠ some b) → w'.heap[b]? = w.heap[b]?) ∧
      (∀ (b : Nat) (cur : Array Value) (e : TypeId) (f : Nat × Nat), w.heap[b]? = some (.cells cur e f) → ∃ cur' : Array Value, w'.heap[b]? = some (.cells cur' e f) ∧ cur'.size = cur.size) ∧
      Inj (hout i) phi' ∧ (∀ r b, (hout i r).isSome = true → hin r = none → phi' r = some b → w.heap.size ≤ b) ∧ Regs (ctxX w w' phi' (hout i)) (hout i) ∧ SimV (res i) (ctxX w w' phi' (hout i)) v' := by
    rintro ⟨g, hres, hhas, hstay, hfresh, hgi⟩
    have hlv : ∀ r, (hout i r).isSome = true → (s'.hp (g r)).isSome = true := by
      intro r hr
      obtain ⟨c, hc⟩ := Option.isSome_iff_exists.1 hr
      obtain ⟨c0, h1, _⟩ := hhas r c hc
      rw [h1]; rfl
    have hall : ∀ r b, (if (hin r).isSome = true then phi r else none) = some b → (s'.hp r).isSome = true := by
      intro r b hb
      split at hb
      · rename_i hi
        have := hlv r (hstay r hi).2
        rw [(hstay r hi).1] at this
        exact this
      · cases hb
    have hvt : SimV (resAV s' ts) (ctx w w' ro phi' s') (resVal a'.tmps ts) := simv_res hS ts
    rw [hres] at hvt
    refine ⟨hf', _, run_results hr a'.tmps w' P, i, hi, _, fun r => phi' (g r), rfl, hS.os, hS.tape, hS.output, hS.size, fun r hr => ?_, fun b hb hne => hS.kept b hb fun r hr => ?_, hS.shp, ?_, ?_, ?_, ?_⟩
    · obtain ⟨e1, e2⟩ := hstay r hr
      obtain ⟨c, hc⟩ := Option.isSome_iff_exists.1 e2
      obtain ⟨c0, hh, _⟩ := hhas r c hc
      rw [e1] at hh
      show phi' (g r) = phi r
      rw [e1]
      rcases hS.liv r _ hh with ⟨k1, _, k3⟩ | ⟨b, cur, e', k1, _, _, k4, _⟩ | ⟨b, o, _, k1, _, _, _, k4⟩
      case inr.inr =>
        rcases k4 with k4 | k4
        · have := hst.pb r hr; omega
        · have k5 := k4.2
          simp only [hr, if_true] at k5
          rw [k1, k5]
      · have k5 := k3 (hst.pb r hr)
        simp only [hr, if_true] at k5
        rw [k1, k5]
      · rcases k4 with k4 | k4
        · have := hst.pb r hr; omega
        · have k5 := k4.2
          simp only [hr, if_true] at k5
          rw [k1, k5]
    · split at hr
      · rename_i hrs; exact hne r hrs hr
      · cases hr
    · intro r r' b h1 h2 h3 h4
      exact hgi r r' h1 h2 (hS.inj _ _ b (hlv r h1) (hlv r' h2) h3 h4)
    · intro r b h1 h2 h3
      obtain ⟨c, hc⟩ := Option.isSome_iff_exists.1 h1
      have hlt := hfresh r h1 h2
      obtain ⟨c0, hh0, _⟩ := hhas r c hc
      rcases hS.liv _ _ hh0 with ⟨k1, _⟩ | ⟨b', _, _, k1, _, _, k4, _⟩ | ⟨b', _, _, k1, _, _, _, k4⟩
      · have h3' : phi' (g r) = some b := h3
        rw [k1] at h3'; cases h3'
      case inr.inr =>
        have h3' : phi' (g r) = some b := h3
        rw [k1] at h3'; cases h3'
        rcases k4 with k4 | k4
        · exact hS.mine_new hall (by rw [hh0]; rfl) k4.1 k1 k4.2
        · omega
      · have h3' : phi' (g r) = some b := h3
        rw [k1] at h3'; cases h3'
        rcases k4 with k4 | k4
        · exact hS.mine_new hall (by rw [hh0]; rfl) k4.1 k1 k4.2
        · omega
    · intro r c hc
      obtain ⟨ho, hrf⟩ := hst.own r c hc
      obtain ⟨c0, hh0, hc0⟩ := hhas r c hc
      rcases hS.liv _ _ hh0 with ⟨k1, k2, _⟩ | ⟨b, cur, e', k1, k2, _, _, k5⟩ | ⟨b, o, h0, k1, k2, k3, _⟩
      case inr.inr =>
        rcases hc0 with rfl | hc0
        · exact .inr (.inr ⟨b, o, renR_ob h0, k1, k2, k3⟩)
        · rw [h0] at hc0; simp at hc0
      · refine .inl ⟨k1, ?_⟩
        rcases hc0 with rfl | hc0
        · obtain ⟨fl, cs⟩ := c
          simp only [renR, renL_map] at k2
          exact List.map_eq_nil_iff.1 k2
        · exact hc0.1
      · rcases hc0 with rfl | hc0
        case inr => exact .inr (.inl ⟨b, cur, e', k1, k2, by unfold SimR; rw [hc0.1]; simp [SimL]⟩)
        refine .inr (.inl ?_)
        exact ⟨b, cur, e', k1, k2, simR_in (q := false) (C := ctxX w w' (fun r => phi' (g r)) (hout i)) (D := ctx w w' ro phi' s') rfl (fun e => by cases e) (fun _ => rfl) (fun _ r _ => rfl) ho hrf k5⟩
    · exact simV_in false g (ctxX w w' (fun r => phi' (g r)) (hout i)) (ctx w w' ro phi' s') rfl (fun e => by cases e) (fun _ => rfl) (fun _ r _ => rfl) (res i) _ hst.res.1 hst.res.2 hvt
  cases e with
  | normal => exact fin h1
  | ret => exact fin h1
  | exit id => exact h1.elim
  | goto l => exact h1.elim
  | panic c => exact h1.elim
  | outgrown => exact h1.elim
theorem ret_doneh {s : AS} {ts : List Nat} {res : AV} {hin hout : Hp} (g : Nat → Nat) (h1 : resAV s ts = renV g res) (h2 : ∀ r c, hout r = some c → ∃ c0, s.hp (g r) = some c0 ∧ (c0 = renR g c ∨ (c.2 = [] ∧ c0.2 = []))) (h3 : ∀ r, (hin r).isSome = true → g r = r ∧ (hout r).isSome = true)
    (h4 : ∀ r, (hout r).isSome = true → hin r = none → g r < pbase) (h5 : ∀ r r', (hout r).isSome = true → (hout r').isSome = true → g r = g r' → r = r') : DoneH ts res hin hout .ret s := ⟨g, h1, h2, h3, h4, h5⟩
/-- A call that is lent regions. -/
theorem m_callh {s : AS} {K : AS → Prop} {d : Option Nat} {f : FuncId} {args : List Opd} {asx : List AV} {hin hout hp' : Hp} {res : AV} (g : Nat → Nat) (hs : SpH P f asx hin res hout) (ha : LendsH s.hp g hin (args.map s.ev) asx) (hL : Lent s g hin hout hp' res)
    (k : K (AS.put ⟨s.tm, hp'⟩ d (renV g res))) : aop1 P true ⟨d, .call f args, none⟩ s K := .inr (.inr (.inl ⟨rfl, asx, hin, Unit, fun _ => True, fun _ => res, fun _ => hout, g, fun _ => hp', hs.toX, ha, ⟨(), trivial⟩, fun _ _ => ⟨hL, k⟩⟩))
/-- One with an open end. -/
theorem m_callx {s : AS} {K : AS → Prop} {d : Option Nat} {f : FuncId} {args : List Opd} {asx : List AV} {hin : Hp} {ι : Type} {ok : ι → Prop} {res : ι → AV} {hout hp' : ι → Hp} (g : Nat → Nat) (hs : SpX P f asx hin ok res hout) (ha : LendsH s.hp g hin (args.map s.ev) asx) (hne : ∃ i, ok i)
    (k : ∀ i, ok i → Lent s g hin (hout i) (hp' i) (res i) ∧ K (AS.put ⟨s.tm, hp' i⟩ d (renV g (res i)))) : aop1 P true ⟨d, .call f args, none⟩ s K := .inr (.inr (.inl ⟨rfl, asx, hin, ι, ok, res, hout, g, hp', hs, ha, hne, k⟩))
theorem entry_leE (w : World) (phi : Nat → Option Nat) : Ctx.Le { heap := w.heap, ro := fun b => b < w.heap.size, base := w.heap.size, phi := fun _ => none, live := fun _ => false, loc := false } (ctxE w phi fun _ => none) :=
  ⟨fun b hb => ⟨⟨hb, fun r hr => by simp at hr⟩, rfl⟩, Nat.le_refl _, fun e => by simp at e, fun e => by simp at e, fun e => by simp at e⟩
/-- Nothing is lent but to be read. -/
theorem lendsH_none {hp : Hp} {f : Nat → Nat} {xs asx : List AV} (h : Lends hp xs asx) : LendsH hp f (fun _ => none) xs asx := by
  intro w0 mu N tm w phi ro vs hS hs hl
  obtain ⟨h1, h2⟩ := h w0 mu N tm w phi ro vs hS hs hl
  exact ⟨SimL.mono _ _ _ _ (entry_leE w _) h1, h2⟩
/-- A function that is lent nothing, its result read asx new memory. -/
theorem spH_sp {f : FuncId} {asx : List AV} {res res' : AV} {hout : Hp} (h : SpH P f asx (fun _ => none) res hout)
    (hr : ∀ w w' phi v, (∀ r b, (hout r).isSome = true → phi r = some b → w.heap.size ≤ b) → Regs (ctxX w w' phi hout) hout → SimV res (ctxX w w' phi hout) v → SimV res' (fresh w w') v) : Sp P f asx res' := by
  intro w vs hg hent
  refine (h w vs (fun _ => none) hg (fun r b hr => by simp at hr) (fun r r' b hr => by simp at hr) (fun r c hc => by simp at hc) (SimL.mono _ _ _ _ (entry_leE w _) hent.1) (by simpa using hent.2)).mono fun x w' hpost => ?_
  obtain ⟨v, phi', rfl, hos, htape, hout', hsize, _, hkept, _, _, hnew, hregs, hres⟩ := hpost
  exact ⟨v, rfl, ⟨hos, htape, hout', hsize, fun b hb => hkept b hb fun r hr => by simp at hr⟩, hr w w' phi' v (fun r b h1 h2 => hnew r b h1 rfl h2) hregs hres⟩
end Go.Am
namespace Go.Am
variable [Go.Am.CodeBlk]
variable {P : Program} {own : Bool} {N : Nat} {s : AS} {K : AS → Prop} {d : Option Nat}
mutual
/-- Read under other names. -/
theorem simV_ren (f : Nat → Nat) (C D : Ctx) (h1 : C.heap = D.heap) (h2 : C.ro = D.ro) (hb : C.base = D.base) (h3 : C.loc = D.loc) (h4 : ∀ r, C.live r = true → C.phi r = D.phi (f r)) :
    ∀ (x : AV) (y : Value), refsV C.live x = true → SimV (renV f x) D y → SimV x C y
  | .any, _, _, _ => by simp [SimV]
  | .v x, _, _, h => by simpa [SimV, renV] using h
  | .ro fr z cs n, y, _, h => by
    simp only [SimV, renV] at h ⊢
    rw [h1, h2, hb]
    refine h.imp_right fun ⟨b, o, cap, cur, e, fz, k1, k2, k3, k4, k5, k6, k7⟩ => ⟨b, o, cap, cur, e, fz, k1, k2, k3, k4, k5, k6, ?_⟩
    exact SimL.mono _ _ _ _ ⟨fun b hb => ⟨by rw [show C.out.ro = C.ro from rfl, h2]; exact hb, by show C.heap[b]? = D.heap[b]?; rw [h1]⟩, by show C.base ≤ D.base; omega, fun e => by simp [Ctx.out] at e, fun e => by simp [Ctx.out] at e, fun e => by simp [Ctx.out] at e⟩ k7
  | .rp cs, y, _, h => by
    simp only [SimV, renV] at h ⊢
    rw [h1, h2]
    obtain ⟨b, o, cur, e, fz, k1, k2, k3, k4⟩ := h
    refine ⟨b, o, cur, e, fz, k1, k2, k3, ?_⟩
    exact SimL.mono _ _ _ _ ⟨fun b hb => ⟨by rw [show C.out.ro = C.ro from rfl, h2]; exact hb, by show C.heap[b]? = D.heap[b]?; rw [h1]⟩, by show C.base ≤ D.base; omega, fun e => by simp [Ctx.out] at e, fun e => by simp [Ctx.out] at e, fun e => by simp [Ctx.out] at e⟩ k4
  | .sl r z off n, y, hr, h => by
    simp only [SimV, renV, refsV] at h hr ⊢
    obtain ⟨k1, k2, k3⟩ := h
    refine ⟨h3.trans k1, hr, ?_⟩
    rw [h4 r hr, h1]
    exact k3
  | .pt r off, y, hr, h => by
    simp only [SimV, renV, refsV] at h hr ⊢
    obtain ⟨k1, k2, b, k3, k4⟩ := h
    exact ⟨h3.trans k1, hr, b, by rw [h4 r hr]; exact k3, by rw [h1]; exact k4⟩
  | .mp r, y, hr, h => by
    simp only [SimV, renV, refsV] at h hr ⊢
    obtain ⟨k1, k2, b, k3, k4⟩ := h
    exact ⟨h3.trans k1, hr, b, by rw [h4 r hr]; exact k3, k4⟩
  | .itr r, y, hr, h => by
    simp only [SimV, renV, refsV] at h hr ⊢
    obtain ⟨k1, k2, b, k3, k4⟩ := h
    exact ⟨h3.trans k1, hr, b, by rw [h4 r hr]; exact k3, k4⟩
  | .ob o, y, _, h => by simp [SimV, renV] at h
  | .fn g l k, y, hr, h => by
    simp only [SimV, renV, refsV] at h hr ⊢
    obtain ⟨a, b, k1, k2, k3, k4⟩ := h
    rw [renL_map, List.length_map] at k3
    exact ⟨a, b, k1, k2, k3, simL_ren f C D h1 h2 hb h3 h4 l _ hr k4⟩
  | .fu z cs n, y, _, h => by
    simp only [SimV, renV] at h ⊢
    rw [h1, h2]
    refine h.imp_right fun ⟨b, o, cur, e, fz, k1, k2, k3, k4, k5⟩ => ⟨b, o, cur, e, fz, k1, k2, k3, k4, ?_⟩
    exact SimL.mono _ _ _ _ ⟨fun b hb => ⟨by rw [show C.out.ro = C.ro from rfl, h2]; exact hb, by show C.heap[b]? = D.heap[b]?; rw [h1]⟩, by show C.base ≤ D.base; omega, fun e => by simp [Ctx.out] at e, fun e => by simp [Ctx.out] at e, fun e => by simp [Ctx.out] at e⟩ k5
  | .mit r m bm es ck, y, hr, h => by
    simp only [SimV, renV, refsV, Bool.and_eq_true] at h hr ⊢
    obtain ⟨k1, k2, ⟨b, k3, k4⟩, k5⟩ := h
    refine ⟨h3.trans k1, hr.1, ⟨b, by rw [h4 r hr.1]; exact k3, k4⟩, ?_⟩
    rcases k5 with ⟨q, hq, k6, k7⟩ | ⟨hm, k6, k7⟩
    · obtain ⟨q0, rfl, rfl⟩ := Option.map_eq_some_iff.1 hq
      have hl : C.live q0 = true := by simpa using hr.2
      exact .inl ⟨q0, rfl, hl, by rw [h4 q0 hl]; exact k7⟩
    · exact .inr ⟨by simpa using hm, by rw [h2]; exact k6, by rw [h1]; exact k7⟩
  | .rmp fr es clock, y, _, h => by
    simp only [SimV, renV] at h ⊢
    obtain ⟨b, k1, k2, k3, k4⟩ := h
    exact ⟨b, k1, by rw [h1]; exact k2, by rw [h2]; exact k3, fun e => by rw [hb]; exact k4 e⟩
  | .agg l, y, hr, h => by
    simp only [SimV, renV, refsV] at h hr ⊢
    obtain ⟨a, k1, k2, k3⟩ := h
    rw [renL_map, List.length_map] at k2
    exact ⟨a, k1, k2, simL_ren f C D h1 h2 hb h3 h4 l _ hr k3⟩
  | .tup l, y, hr, h => by
    simp only [SimV, renV, refsV] at h hr ⊢
    obtain ⟨a, k1, k2, k3⟩ := h
    rw [renL_map, List.length_map] at k2
    exact ⟨a, k1, k2, simL_ren f C D h1 h2 hb h3 h4 l _ hr k3⟩
theorem simL_ren (f : Nat → Nat) (C D : Ctx) (h1 : C.heap = D.heap) (h2 : C.ro = D.ro) (hb : C.base = D.base) (h3 : C.loc = D.loc) (h4 : ∀ r, C.live r = true → C.phi r = D.phi (f r)) :
    ∀ (l : List AV) (ys : List Value), refsL C.live l = true → SimL (renL f l) D ys → SimL l C ys
  | [], _, _, _ => by simp [SimL]
  | _ :: _, [], _, h => by simp [SimL, renL] at h
  | a :: l, y :: ys, hr, h => by
    simp only [SimL, renL, refsL, Bool.and_eq_true] at h hr ⊢
    exact ⟨simV_ren f C D h1 h2 hb h3 h4 a y hr.1 h.1, simL_ren f C D h1 h2 hb h3 h4 l ys hr.2 h.2⟩
end
theorem simL_out_any (C D : Ctx) (h1 : C.heap = D.heap) (h2 : C.ro = D.ro) (hb : C.base = D.base) (l : List AV) (ys : List Value) (h : SimL l C.out ys) : SimL l D.out ys :=
  SimL.mono _ _ _ _ ⟨fun b hb' => ⟨by rw [show D.out.ro = D.ro from rfl, ← h2]; exact hb', by show D.heap[b]? = C.heap[b]?; rw [h1]⟩, by show D.base ≤ C.base; omega, fun e => by simp [Ctx.out] at e, fun e => by simp [Ctx.out] at e, fun e => by simp [Ctx.out] at e⟩ h
/-- A region's cells under other names; one whose cells lead nowhere may be told asx one whose cells may. -/
def cellsRen (f : Nat → Nat) (c c' : Bool × List AV) : Prop := (c'.1 = true ∧ c = (true, c'.2)) ∨ (c'.1 = false ∧ (c = (false, renL f c'.2) ∨ (c'.2 = [] ∧ c.2 = []) ∨ (c = (true, c'.2) ∧ c'.2.all plainV = true)))
/-- THE RULE OF FORGETTING: the state s' tells no more than s, under the names f. -/
theorem weak_ren {s s' : AS} (f : Nat → Nat) (htm : ∀ t, s'.tm t = .any ∨ s.tm t = renV f (s'.tm t)) (hhp : ∀ r c', s'.hp r = some c' → ∃ c, s.hp (f r) = some c ∧ cellsRen f c c')
    (hinj : ∀ r r', (s'.hp r).isSome = true → (s'.hp r').isSome = true → f r = f r' → r = r') (hpb : ∀ r, (s'.hp r).isSome = true → (r < pbase ∧ f r < pbase) ∨ (pbase ≤ r ∧ f r = r))
    (href : ∀ t, refsV (fun r => (s'.hp r).isSome) (s'.tm t) = true) (hrefh : ∀ r cs, s'.hp r = some (false, cs) → refsL (fun r => (s'.hp r).isSome) cs = true) : Weak s s' := by
  intro w0 mu N a w hS
  obtain ⟨hf, phi, ro, hS⟩ := hS
  have hlive : ∀ r, (s'.hp r).isSome = true → (s.hp (f r)).isSome = true := by
    intro r hr
    obtain ⟨c, hc⟩ := Option.isSome_iff_exists.1 hr
    obtain ⟨c0, h1, _⟩ := hhp r c hc
    rw [h1]; rfl
  refine ⟨hf, fun r => phi (f r), ro, { hS with
    inj := fun r r' b h1 h2 h3 h4 => hinj r r' h1 h2 (hS.inj _ _ b (hlive r h1) (hlive r' h2) h3 h4)
    liv := fun r c hc => ?_
    tms := fun t => ?_ }⟩
  · obtain ⟨c0, h1, h2⟩ := hhp r c hc
    have hp := hpb r (by rw [hc]; rfl)
    rcases hS.liv _ _ h1 with ⟨k1, k2, k3⟩ | ⟨b, cur, e, k1, k2, k3, k4, k5⟩ | ⟨b, o, rfl, k1, k2, k0, k3, k4⟩
    case inr.inr =>
      refine .inr (.inr ⟨b, o, ?_, k1, k2, k0, k3, ?_⟩)
      · obtain ⟨fl, cs⟩ := c
        rcases h2 with ⟨h3, h4⟩ | ⟨h3, h4⟩
        · simp only at h3 h4
          rw [h3]; exact h4.symm
        · simp only at h3
          rcases h4 with h4 | ⟨_, h4⟩ | ⟨h4, h5⟩
          · cases h4
          · simp at h4
          · simp only [Prod.mk.injEq, true_and] at h4
            rw [← h4] at h5
            simp [plainV] at h5
      · rcases hp with ⟨h3, h4⟩ | ⟨h3, h4⟩
        · rcases k4 with k4 | k4
          · exact .inl ⟨h3, k4.2⟩
          · omega
        · rcases k4 with k4 | k4
          · omega
          · exact .inr ⟨h3, by rw [← h4]; exact k4.2⟩
    · refine .inl ⟨k1, ?_, fun hge => ?_⟩
      · rcases h2 with ⟨_, rfl⟩ | ⟨_, rfl | ⟨h3, _⟩ | ⟨rfl, _⟩⟩
        · exact k2
        · simp only [renL_map] at k2
          exact List.map_eq_nil_iff.1 k2
        · exact h3
        · exact k2
      · rcases hp with ⟨h3, _⟩ | ⟨_, h3⟩
        · omega
        · rw [h3] at k3; exact k3 hge
    · refine .inr (.inl ⟨b, cur, e, k1, k2, k3, ?_, ?_⟩)
      · rcases hp with ⟨h3, h4⟩ | ⟨h3, h4⟩
        · rcases k4 with k4 | k4
          · exact .inl ⟨h3, k4.2⟩
          · omega
        · rcases k4 with k4 | k4
          · omega
          · exact .inr ⟨h3, by rw [← h4]; exact k4.2⟩
      · obtain ⟨fl, cs⟩ := c
        rcases h2 with ⟨h3, h4⟩ | ⟨h3, h4⟩
        · simp only at h3 h4
          subst h3; subst h4
          simp only [SimR, if_true] at k5 ⊢
          exact simL_out_any (ctx w0 w ro phi s) (ctx w0 w ro (fun r => phi (f r)) s') rfl rfl rfl _ _ k5
        · simp only at h3 h4
          subst h3
          simp only [SimR, Bool.false_eq_true, if_false]
          rcases h4 with rfl | ⟨h5, h6⟩ | ⟨rfl, h5⟩
          · simp only [SimR, Bool.false_eq_true, if_false] at k5
            exact simL_ren f (ctx w0 w ro (fun r => phi (f r)) s') (ctx w0 w ro phi s) rfl rfl rfl rfl (fun _ _ => rfl) cs _ (hrefh r cs hc) k5
          · rw [h5]; simp [SimL]
          · simp only [SimR, if_true] at k5
            exact simL_allv h5 k5
  · rcases htm t with h1 | h1
    · rw [h1]; simp [SimV]
    · have h2 := hS.tms t
      rw [h1] at h2
      exact simV_ren f (ctx w0 w ro (fun r => phi (f r)) s') (ctx w0 w ro phi s) rfl rfl rfl rfl (fun _ _ => rfl) _ _ (href t) h2
/-- The rows of a matrix, seen from the outer slice: regions b, b + 1, .. -/
def rowsC (b : Nat) : List (List Int) → List AV
  | [] => []
  | l :: rs => .sl b 1 0 l.length :: rowsC (b + 1) rs
theorem rowsC_len (b : Nat) (rows : List (List Int)) : (rowsC b rows).length = rows.length := by
  induction rows generalizing b with
  | nil => rfl
  | cons l rs ih => simp [rowsC, ih]
theorem rowsC_get (b : Nat) (rows : List (List Int)) (j : Nat) (hj : j < rows.length) : (rowsC b rows)[j]? = some (.sl (b + j) 1 0 (rows.getD j []).length) := by
  induction rows generalizing b j with
  | nil => simp at hj
  | cons l rs ih =>
    cases j with
    | zero => simp [rowsC]
    | succ j =>
      simp only [rowsC, List.getElem?_cons_succ]
      rw [ih (b + 1) j (by simpa using hj)]
      simp; omega
theorem rowsC_snoc (b : Nat) (rows : List (List Int)) (l : List Int) : rowsC b (rows ++ [l]) = rowsC b rows ++ [.sl (b + rows.length) 1 0 l.length] := by
  induction rows generalizing b with
  | nil => simp [rowsC]
  | cons r rs ih => simp only [List.cons_append, rowsC, ih]; congr 4; simp; omega
theorem rowsC_kill (r b : Nat) (rows : List (List Int)) (h : r < b) : killL r (rowsC b rows) = rowsC b rows := by
  induction rows generalizing b with
  | nil => rfl
  | cons l rs ih =>
    have : ¬ b = r := by omega
    simp only [rowsC, killL, killV, this, if_false]
    rw [ih (b + 1) (by omega)]
theorem rowsC_ren (f : Nat → Nat) (b b' : Nat) (rows : List (List Int)) (h : ∀ j, j < rows.length → f (b + j) = b' + j) : renL f (rowsC b rows) = rowsC b' rows := by
  induction rows generalizing b b' with
  | nil => rfl
  | cons l rs ih =>
    simp only [rowsC, renL, renV]
    have h0 := h 0 (by simp)
    rw [Nat.add_zero, Nat.add_zero] at h0
    rw [h0, ih (b + 1) (b' + 1) fun j hj => by
      have := h (j + 1) (by simpa using hj)
      rw [show b + 1 + j = b + (j + 1) by omega, this]; omega]
theorem rowsC_refs (keep : Nat → Bool) (b : Nat) (rows : List (List Int)) (h : ∀ j, j < rows.length → keep (b + j) = true) : refsL keep (rowsC b rows) = true := by
  induction rows generalizing b with
  | nil => rfl
  | cons l rs ih =>
    simp only [rowsC, refsL, refsV, Bool.and_eq_true]
    refine ⟨by have := h 0 (by simp); simpa using this, ih (b + 1) fun j hj => ?_⟩
    have := h (j + 1) (by simpa using hj)
    rw [show b + 1 + j = b + (j + 1) by omega]; exact this
theorem rowsC_own (b : Nat) (rows : List (List Int)) (q : Bool) : ownL q (rowsC b rows) = true := by
  induction rows generalizing b with
  | nil => rfl
  | cons l rs ih => simp only [rowsC, ownL, ownV, Bool.true_and]; exact ih _
/-- Regions: those of h, and the rows. -/
def famH (h : Hp) (b : Nat) (rows : List (List Int)) : Hp := fun r => match h r with
  | some c => some c
  | none => if b ≤ r ∧ r < b + rows.length then some (true, (rows.getD (r - b) []).map AV.i) else none
theorem famH_row {h : Hp} {b : Nat} {rows : List (List Int)} {j : Nat} (hn : h (b + j) = none) (hj : j < rows.length) : famH h b rows (b + j) = some (true, (rows.getD j []).map AV.i) := by
  unfold famH
  rw [hn]
  simp only
  rw [if_pos ⟨by omega, by omega⟩, Nat.add_sub_cancel_left]
theorem famH_some {h : Hp} {b : Nat} {rows : List (List Int)} {r : Nat} {c : Bool × List AV} (e : famH h b rows r = some c) : h r = some c ∨ (h r = none ∧ ∃ j, j < rows.length ∧ r = b + j ∧ c = (true, (rows.getD j []).map AV.i)) := by
  unfold famH at e
  cases hr : h r with
  | some c' => rw [hr] at e; exact .inl e
  | none =>
    rw [hr] at e
    simp only at e
    split at e
    · rename_i hh
      cases e
      exact .inr ⟨rfl, r - b, by omega, by omega, rfl⟩
    · cases e
/-- A state with a matrix: the outer slice lies in region r0, its rows in regions b, b + 1, .. -/
def stM (l : List (Nat × AV)) (h : List (Nat × (Bool × List AV))) (r0 b : Nat) (rows : List (List Int)) : AS :=
  ⟨fun t => (look l t).getD .any, famH (look ((r0, (false, rowsC b rows)) :: h)) b rows⟩
theorem look_none {β : Type} {l : List (Nat × β)} {t : Nat} (h : ∀ p ∈ l, p.1 < t) : look l t = none := by
  induction l with
  | nil => rfl
  | cons p l ih =>
    have h1 := h p (List.mem_cons_self ..)
    have : ¬ t = p.1 := by omega
    obtain ⟨k, x⟩ := p
    simp only [look]
    rw [if_neg this]
    exact ih fun q hq => h q (List.mem_cons_of_mem _ hq)
theorem look_mem {β : Type} {l : List (Nat × β)} {t : Nat} {x : β} (h : look l t = some x) : (t, x) ∈ l := by
  induction l with
  | nil => simp [look] at h
  | cons p l ih =>
    obtain ⟨k, y⟩ := p
    simp only [look] at h
    split at h
    · rename_i e; subst e; cases h; exact List.mem_cons_self ..
    · exact List.mem_cons_of_mem _ (ih h)
theorem stM_row {l : List (Nat × AV)} {h : List (Nat × (Bool × List AV))} {r0 b : Nat} {rows : List (List Int)} (hk : ((r0, (false, rowsC b rows)) :: h).all (fun p => decide (p.1 < b)) = true) {j : Nat} (hj : j < rows.length) :
    (stM l h r0 b rows).hp (b + j) = some (true, (rows.getD j []).map AV.i) :=
  famH_row (look_none fun p hp => by have := List.all_eq_true.1 hk p hp; have := of_decide_eq_true this; omega) hj
def HasF (s : AS) (f : Nat → Nat) : List (Nat × AV) → Prop
  | [] => True
  | (t, x) :: l => s.tm t = renV f x ∧ HasF s f l
def HasRF (s : AS) (f : Nat → Nat) : List (Nat × (Bool × List AV)) → Prop
  | [] => True
  | (r, c) :: l => s.hp (f r) = some c ∧ HasRF s f l
theorem look_hasF {s : AS} {f : Nat → Nat} : ∀ {l : List (Nat × AV)} {t : Nat} {x : AV}, HasF s f l → look l t = some x → s.tm t = renV f x
  | [], _, _, _, h => by simp [look] at h
  | (k, y) :: l, t, x, h, e => by
    simp only [look] at e
    split at e
    · rename_i hk; subst hk; cases e; exact h.1
    · exact look_hasF h.2 e
theorem look_hasRF {s : AS} {f : Nat → Nat} : ∀ {l : List (Nat × (Bool × List AV))} {r : Nat} {c : Bool × List AV}, HasRF s f l → look l r = some c → s.hp (f r) = some c
  | [], _, _, _, h => by simp [look] at h
  | (k, y) :: l, t, x, h, e => by
    simp only [look] at e
    split at e
    · rename_i hk; subst hk; cases e; exact h.1
    · exact look_hasRF h.2 e
def nodupB : List Nat → Bool
  | [] => true
  | x :: l => !(l.contains x) && nodupB l
theorem nodupB_spec : ∀ {l : List Nat}, nodupB l = true → l.Nodup
  | [], _ => by simp
  | x :: l, h => by
    simp only [nodupB, Bool.and_eq_true, Bool.not_eq_true'] at h
    rw [List.nodup_cons]
    exact ⟨fun hm => by rw [List.contains_iff_mem.2 hm] at h; simp at h, nodupB_spec h.2⟩
/-- The names of a state that tells a matrix: f0 below b; the rows asx g says. -/
def nmF (b : Nat) (f0 g : Nat → Nat) : Nat → Nat := fun r => if r < b then f0 r else g (r - b)
/-- A state with a matrix whose outer slice has the cells cs. -/
def stC (l : List (Nat × AV)) (h : List (Nat × (Bool × List AV))) (r0 : Nat) (cs : List AV) (b : Nat) (rows : List (List Int)) : AS :=
  ⟨fun t => (look l t).getD .any, famH (look ((r0, (false, cs)) :: h)) b rows⟩
theorem stC_row {l : List (Nat × AV)} {h : List (Nat × (Bool × List AV))} {r0 b : Nat} {cs : List AV} {rows : List (List Int)} (hk : ((r0, (false, cs)) :: h).all (fun p => decide (p.1 < b)) = true) {j : Nat} (hj : j < rows.length) :
    (stC l h r0 cs b rows).hp (b + j) = some (true, (rows.getD j []).map AV.i) :=
  famH_row (look_none fun p hp => by have := List.all_eq_true.1 hk p hp; have := of_decide_eq_true this; omega) hj
/-- Forgetting, to a state with a matrix whose rows are known under the names g. -/
theorem weak_matC {s : AS} {l : List (Nat × AV)} {h : List (Nat × (Bool × List AV))} {r0 b : Nat} {cs : List AV} {rows : List (List Int)} (f0 g : Nat → Nat)
    (hl : HasF s (nmF b f0 g) l) (hh : HasRF s (nmF b f0 g) h) (hflat : (h.all fun p => p.2.1) = true) (hk : (r0 :: h.map (·.1)).all (fun r => decide (r < b ∧ f0 r < b)) = true) (hpk : (r0 :: h.map (·.1)).all (fun r => decide ((r < pbase ∧ f0 r < pbase) ∨ (pbase ≤ r ∧ f0 r = r))) = true) (hpr : ∀ j, j < rows.length → (b + j < pbase ∧ g j < pbase) ∨ (pbase ≤ b + j ∧ g j = b + j)) (hr : refsT (fun r => (r0 :: h.map (·.1)).contains r) l = true)
    (h0 : ∃ c, s.hp (f0 r0) = some c ∧ cellsRen (nmF b f0 g) c (false, cs)) (hrefc : ∀ keep : Nat → Bool, (∀ j, j < rows.length → keep (b + j) = true) → refsL keep cs = true)
    (hrow : ∀ j, j < rows.length → s.hp (g j) = some (true, (rows.getD j []).map AV.i))
    (hndB : nodupB ((r0 :: h.map (·.1)).map f0) = true) (hg : ∀ j, j < rows.length → ∀ r ∈ (r0 :: h.map (·.1)), f0 r ≠ g j) (hgi : ∀ j j', j < rows.length → j' < rows.length → g j = g j' → j = j') : Weak s (stC l h r0 cs b rows) := by
  have hnd := nodupB_spec hndB
  have hkey : ∀ r c, look ((r0, (false, cs)) :: h) r = some c → r ∈ (r0 :: h.map (·.1)) := by
    intro r c hc
    have h1 : r ∈ ((r0, (false, cs)) :: h).map (·.1) := List.mem_map.2 ⟨(r, c), look_mem hc, rfl⟩
    simpa using h1
  have hklt : ∀ r ∈ (r0 :: h.map (·.1)), r < b ∧ f0 r < b := fun r hr => of_decide_eq_true (List.all_eq_true.1 hk r hr)
  have hall : ((r0, (false, cs)) :: h).all (fun p => decide (p.1 < b)) = true := by
    rw [List.all_eq_true]
    intro p hp
    exact decide_eq_true (hklt p.1 (List.mem_map.2 ⟨p, hp, rfl⟩)).1
  have hinj0 : ∀ r ∈ (r0 :: h.map (·.1)), ∀ r' ∈ (r0 :: h.map (·.1)), f0 r = f0 r' → r = r' := by
    generalize r0 :: h.map (·.1) = ks at hnd
    clear hkey hklt hg hr hk hpk hndB
    induction ks with
    | nil => intro r hr; simp at hr
    | cons k ks ih =>
      rw [List.map_cons, List.nodup_cons] at hnd
      intro r hr r' hr' e
      rcases List.mem_cons.1 hr with h1 | h1
      · rcases List.mem_cons.1 hr' with h2 | h2
        · rw [h1, h2]
        · rw [h1] at e
          exact absurd (List.mem_map.2 ⟨r', h2, e.symm⟩) hnd.1
      · rcases List.mem_cons.1 hr' with h2 | h2
        · rw [h2] at e
          exact absurd (List.mem_map.2 ⟨r, h1, e⟩) hnd.1
        · exact ih hnd.2 r h1 r' h2 e
  have hsome : ∀ r, ((stC l h r0 cs b rows).hp r).isSome = true → (r ∈ (r0 :: h.map (·.1)) ∧ nmF b f0 g r = f0 r) ∨ ∃ j, j < rows.length ∧ r = b + j ∧ nmF b f0 g r = g j := by
    intro r hr
    obtain ⟨c, hc⟩ := Option.isSome_iff_exists.1 hr
    rcases famH_some hc with h1 | ⟨_, j, hj, rfl, _⟩
    · have hm := hkey r c h1
      exact .inl ⟨hm, by unfold nmF; rw [if_pos (hklt r hm).1]⟩
    · exact .inr ⟨j, hj, rfl, by unfold nmF; rw [if_neg (by omega), Nat.add_sub_cancel_left]⟩
  have hlive : ∀ r, r ∈ (r0 :: h.map (·.1)) → ((stC l h r0 cs b rows).hp r).isSome = true := by
    intro r hr
    show (famH (look ((r0, (false, cs)) :: h)) b rows r).isSome = true
    have : ∃ c, look ((r0, (false, cs)) :: h) r = some c := by
      have key : ∀ l : List (Nat × (Bool × List AV)), r ∈ l.map (·.1) → ∃ c, look l r = some c := by
        intro l
        induction l with
        | nil => intro h; simp at h
        | cons p l ih =>
          intro h
          obtain ⟨k, y⟩ := p
          simp only [look]
          by_cases e : r = k
          · exact ⟨y, if_pos e⟩
          · rw [if_neg e]
            rw [List.map_cons, List.mem_cons] at h
            exact ih (h.resolve_left e)
      exact key _ (by simpa using hr)
    obtain ⟨c, hc⟩ := this
    unfold famH
    rw [hc]; rfl
  have hliveR : ∀ j, j < rows.length → ((stC l h r0 cs b rows).hp (b + j)).isSome = true := fun j hj => by rw [stC_row hall hj]; rfl
  refine weak_ren (nmF b f0 g) (fun t => ?_) (fun r c' hc => ?_) (fun r r' h1 h2 h3 => ?_) (fun r h1 => ?_) (fun t => ?_) (fun r cs' hc => ?_)
  · show (look l t).getD .any = .any ∨ s.tm t = renV _ ((look l t).getD .any)
    cases hx : look l t with
    | none => exact .inl rfl
    | some x => exact .inr (look_hasF hl hx)
  · rcases famH_some hc with h1 | ⟨h1, j, hj, rfl, rfl⟩
    · have hm := hkey r c' h1
      have hnm : nmF b f0 g r = f0 r := by unfold nmF; rw [if_pos (hklt r hm).1]
      simp only [look] at h1
      split at h1
      · rename_i e
        cases h1
        rw [hnm, e]
        exact h0
      · refine ⟨_, look_hasRF hh h1, .inl ⟨?_, ?_⟩⟩
        · exact List.all_eq_true.1 hflat _ (look_mem h1)
        · have := List.all_eq_true.1 hflat _ (look_mem h1)
          obtain ⟨fl, cs⟩ := c'
          simp only at this
          subst this; rfl
    · refine ⟨_, ?_, .inl ⟨rfl, rfl⟩⟩
      unfold nmF
      rw [if_neg (by omega), Nat.add_sub_cancel_left]
      exact hrow j hj
  · rcases hsome r h1 with ⟨m1, e1⟩ | ⟨j, hj, rfl, e1⟩
    · rcases hsome r' h2 with ⟨m2, e2⟩ | ⟨j', hj', rfl, e2⟩
      · rw [e1, e2] at h3
        exact hinj0 r m1 r' m2 h3
      · rw [e1, e2] at h3
        exact absurd h3 (hg j' hj' r m1)
    · rcases hsome r' h2 with ⟨m2, e2⟩ | ⟨j', hj', rfl, e2⟩
      · rw [e1, e2] at h3
        exact absurd h3.symm (hg j hj r' m2)
      · rw [e1, e2] at h3
        rw [hgi j j' hj hj' h3]
  · rcases hsome r h1 with ⟨m1, e1⟩ | ⟨j, hj, rfl, e1⟩
    · have := of_decide_eq_true (List.all_eq_true.1 hpk r m1)
      rw [e1]; exact this
    · rw [e1]; exact hpr j hj
  · show refsV _ ((look l t).getD .any) = true
    cases hx : look l t with
    | none => rfl
    | some x =>
      have h1 := look_refs hr hx
      have key := AV.rec_1 (motive_1 := fun x => refsV (fun r => (r0 :: h.map (·.1)).contains r) x = true → refsV (fun r => ((stC l h r0 cs b rows).hp r).isSome) x = true) (motive_2 := fun l' => refsL (fun r => (r0 :: h.map (·.1)).contains r) l' = true → refsL (fun r => ((stC l h r0 cs b rows).hp r).isSome) l' = true)
        (by simp [refsV]) (by simp [refsV]) (by intros; simp [refsV]) (by intros; simp [refsV]) (fun q _ _ _ hq => by simp only [refsV] at hq ⊢; exact hlive q (List.contains_iff_mem.1 hq))
        (fun q _ hq => by simp only [refsV] at hq ⊢; exact hlive q (List.contains_iff_mem.1 hq)) (fun l hl hq => by simp only [refsV] at hq ⊢; exact hl hq) (fun l hl hq => by simp only [refsV] at hq ⊢; exact hl hq)
        (fun q hq => by simp only [refsV] at hq ⊢; exact hlive q (List.contains_iff_mem.1 hq)) (fun q hq => by simp only [refsV] at hq ⊢; exact hlive q (List.contains_iff_mem.1 hq)) (by intros; simp [refsV]) (fun f l k hl hq => by simp only [refsV] at hq ⊢; exact hl hq) (by intros; simp [refsV]) (by intros; simp [refsV]) (fun q m _ _ _ hq => by
          simp only [refsV, Bool.and_eq_true] at hq ⊢
          refine ⟨hlive q (List.contains_iff_mem.1 hq.1), ?_⟩
          cases m with
          | none => rfl
          | some k => exact hlive k (List.contains_iff_mem.1 (by simpa using hq.2)))
        (by simp [refsL]) (fun a l ha hl hq => by simp only [refsL, Bool.and_eq_true] at hq ⊢; exact ⟨ha hq.1, hl hq.2⟩) [x]
      have := key (by simp only [refsL, Bool.and_eq_true, and_true]; exact h1)
      simp only [refsL, Bool.and_eq_true, and_true] at this
      exact this
  · rcases famH_some hc with h1 | ⟨_, j, _, _, h2⟩
    · simp only [look] at h1
      split at h1
      · cases h1
        exact hrefc _ hliveR
      · have := List.all_eq_true.1 hflat _ (look_mem h1)
        simp at this
    · cases h2
/-- Forgetting, to a state with a matrix whose rows are known under the names g. -/
theorem weak_mat {s : AS} {l : List (Nat × AV)} {h : List (Nat × (Bool × List AV))} {r0 b : Nat} {rows : List (List Int)} (f0 g : Nat → Nat)
    (hl : HasF s (nmF b f0 g) l) (hh : HasRF s (nmF b f0 g) h) (hflat : (h.all fun p => p.2.1) = true) (hk : (r0 :: h.map (·.1)).all (fun r => decide (r < b ∧ f0 r < b)) = true) (hpk : (r0 :: h.map (·.1)).all (fun r => decide ((r < pbase ∧ f0 r < pbase) ∨ (pbase ≤ r ∧ f0 r = r))) = true) (hpr : ∀ j, j < rows.length → (b + j < pbase ∧ g j < pbase) ∨ (pbase ≤ b + j ∧ g j = b + j)) (hr : refsT (fun r => (r0 :: h.map (·.1)).contains r) l = true)
    (h0 : ∃ fl cs, s.hp (f0 r0) = some (fl, cs) ∧ (fl = false ∧ cs = renL (nmF b f0 g) (rowsC b rows) ∨ rows = [] ∧ cs = []))
    (hrow : ∀ j, j < rows.length → s.hp (g j) = some (true, (rows.getD j []).map AV.i))
    (hndB : nodupB ((r0 :: h.map (·.1)).map f0) = true) (hg : ∀ j, j < rows.length → ∀ r ∈ (r0 :: h.map (·.1)), f0 r ≠ g j) (hgi : ∀ j j', j < rows.length → j' < rows.length → g j = g j' → j = j') : Weak s (stM l h r0 b rows) := by
  obtain ⟨fl, cs, h1, h2⟩ := h0
  refine weak_matC (cs := rowsC b rows) f0 g hl hh hflat hk hpk hpr hr ⟨_, h1, .inr ⟨rfl, ?_⟩⟩ (fun keep hkp => rowsC_refs _ _ _ hkp) hrow hndB hg hgi
  rcases h2 with ⟨rfl, rfl⟩ | ⟨h3, h4⟩
  · exact .inl rfl
  · exact .inr (.inl ⟨by show rowsC b rows = []; rw [h3]; rfl, h4⟩)
/-- Forgetting, the matrix being what it was. -/
theorem weak_keep {s : AS} {l : List (Nat × AV)} {h : List (Nat × (Bool × List AV))} {r0 b : Nat} {rows : List (List Int)} (f0 : Nat → Nat)
    (hl : HasF s (nmF b f0 fun j => b + j) l) (hh : HasRF s (nmF b f0 fun j => b + j) h) (hflat : (h.all fun p => p.2.1) = true) (hk : (r0 :: h.map (·.1)).all (fun r => decide (r < b ∧ f0 r < b)) = true)
    (hpk : (r0 :: h.map (·.1)).all (fun r => decide ((r < pbase ∧ f0 r < pbase) ∨ (pbase ≤ r ∧ f0 r = r))) = true) (hb : b + rows.length ≤ pbase ∨ pbase ≤ b) (hr : refsT (fun r => (r0 :: h.map (·.1)).contains r) l = true) (hndB : nodupB ((r0 :: h.map (·.1)).map f0) = true)
    {fl : Bool} {cs : List AV} (h0 : s.hp (f0 r0) = some (fl, cs)) (hcs : fl = false ∧ cs = rowsC b rows ∨ rows = [] ∧ cs = [])
    (hrow : ∀ j, j < rows.length → s.hp (b + j) = some (true, (rows.getD j []).map AV.i)) : Weak s (stM l h r0 b rows) := by
  refine weak_mat f0 (fun j => b + j) hl hh hflat hk hpk (fun j hj => by rcases hb with hb | hb; exact .inl ⟨by omega, by omega⟩; exact .inr ⟨by omega, rfl⟩) hr ⟨fl, cs, h0, ?_⟩ hrow hndB (fun j hj r hr => ?_) (fun j j' _ _ e => by omega)
  · rcases hcs with ⟨h1, h2⟩ | h1
    · exact .inl ⟨h1, by rw [h2, rowsC_ren _ b b]; intro j _; unfold nmF; rw [if_neg (by omega), Nat.add_sub_cancel_left]⟩
    · exact .inr h1
  · have := of_decide_eq_true (List.all_eq_true.1 hk r hr)
    omega
def gpush (b m q : Nat) : Nat → Nat := fun j => if j < m then b + j else q
theorem renL_append (f : Nat → Nat) (l m : List AV) : renL f (l ++ m) = renL f l ++ renL f m := by rw [renL_map, renL_map, renL_map, List.map_append]
/-- Forgetting, a region having become a row. -/
theorem weak_push {s : AS} {l : List (Nat × AV)} {h : List (Nat × (Bool × List AV))} {r0 b : Nat} {rows : List (List Int)} {row : List Int} (f0 : Nat → Nat) (q : Nat)
    (hl : HasF s (nmF b f0 (gpush b rows.length q)) l) (hh : HasRF s (nmF b f0 (gpush b rows.length q)) h) (hflat : (h.all fun p => p.2.1) = true) (hk : (r0 :: h.map (·.1)).all (fun r => decide (r < b ∧ f0 r < b)) = true)
    (hpk : (r0 :: h.map (·.1)).all (fun r => decide ((r < pbase ∧ f0 r < pbase) ∨ (pbase ≤ r ∧ f0 r = r))) = true) (hb : b + rows.length + 1 ≤ pbase) (hr : refsT (fun r => (r0 :: h.map (·.1)).contains r) l = true) (hndB : nodupB ((r0 :: h.map (·.1)).map f0) = true)
    (hqb : q < b) (hqn : ((r0 :: h.map (·.1)).map f0).contains q = false)
    {cs : List AV} (h0 : s.hp (f0 r0) = some (false, cs)) (hcs : cs = rowsC b rows ++ [.sl q 1 0 row.length]) (hq : s.hp q = some (true, row.map AV.i))
    (hrow : ∀ j, j < rows.length → s.hp (b + j) = some (true, (rows.getD j []).map AV.i)) : Weak s (stM l h r0 b (rows ++ [row])) := by
  have hlen : (rows ++ [row]).length = rows.length + 1 := by simp
  refine weak_mat f0 (gpush b rows.length q) hl hh hflat hk hpk (fun j hj => .inl ⟨by omega, by unfold gpush; split <;> omega⟩) hr ⟨false, cs, h0, .inl ⟨rfl, ?_⟩⟩ (fun j hj => ?_) hndB (fun j hj r hr => ?_) (fun j j' h1 h2 e => ?_)
  · rw [hcs, rowsC_snoc, renL_append, rowsC_ren _ b b]
    · simp only [renL, renV]
      unfold nmF gpush
      rw [if_neg (by omega), Nat.add_sub_cancel_left, if_neg (by omega)]
    · intro j hj
      unfold nmF gpush
      rw [if_neg (by omega), Nat.add_sub_cancel_left, if_pos hj]
  · unfold gpush
    by_cases hj' : j < rows.length
    · rw [if_pos hj', hrow j hj']
      simp [List.getElem?_append, hj']
    · have : j = rows.length := by omega
      subst this
      rw [if_neg hj', hq]
      simp
  · have := of_decide_eq_true (List.all_eq_true.1 hk r hr)
    unfold gpush
    split
    · omega
    · intro e
      have hm : q ∈ (r0 :: h.map (·.1)).map f0 := List.mem_map.2 ⟨r, hr, e⟩
      have := List.contains_iff_mem.2 hm
      rw [hqn] at this; cases this
  · unfold gpush at e
    split at e <;> split at e <;> omega
theorem hp_put (s : AS) (d : Option Nat) (x : AV) : (s.put d x).hp = s.hp := by cases d <;> rfl
theorem hp_mem_ne {s : AS} {q r : Nat} {c : Bool × List AV} (h : r ≠ q) : (s.mem q c).hp r = s.hp r := by simp [AS.mem, h]
theorem hp_kill_ne {s : AS} {q r : Nat} (h : r ≠ q) : (s.kill q).hp r = (s.hp r).map (killR q) := by simp [AS.kill, h]
end Go.Am
namespace Go.Am
variable [Go.Am.CodeBlk]
variable {P : Program} {own : Bool} {N : Nat} {s : AS} {K : AS → Prop} {d : Option Nat}
def nbase : Nat := 8000000
/-- A matrix asx regions: the outer slice in r0, its rows in b, b + 1, .. -/
def matH (r0 b : Nat) (rows : List (List Int)) : Hp := famH (fun r => if r = r0 then some (false, rowsC b rows) else none) b rows
theorem matH_some {r0 b r : Nat} {rows : List (List Int)} {c : Bool × List AV} (h : matH r0 b rows r = some c) : (r = r0 ∧ c = (false, rowsC b rows)) ∨ ∃ j, j < rows.length ∧ r = b + j ∧ c = (true, (rows.getD j []).map AV.i) := by
  rcases famH_some h with h1 | ⟨_, h1⟩
  · split at h1
    · rename_i e; cases h1; exact .inl ⟨e, rfl⟩
    · cases h1
  · exact .inr h1
theorem matH_outer (r0 b : Nat) (rows : List (List Int)) : matH r0 b rows r0 = some (false, rowsC b rows) := by simp [matH, famH]
theorem matH_row {r0 b : Nat} {rows : List (List Int)} {j : Nat} (h : r0 < b) (hj : j < rows.length) : matH r0 b rows (b + j) = some (true, (rows.getD j []).map AV.i) :=
  famH_row (by have : ¬ b + j = r0 := by omega
               simp [this]) hj
theorem renL_ints (f : Nat → Nat) (l : List Int) : renL f (l.map AV.i) = l.map AV.i := by
  induction l with
  | nil => rfl
  | cons x l ih => simp only [List.map_cons, renL, renV, ih]
theorem ownL_ints (q : Bool) (l : List Int) : ownL q (l.map AV.i) = true := by
  induction l with
  | nil => rfl
  | cons x l ih => simp only [List.map_cons, ownL, ownV, ih, Bool.and_self]
theorem refsL_ints (keep : Nat → Bool) (l : List Int) : refsL keep (l.map AV.i) = true := by
  induction l with
  | nil => rfl
  | cons x l ih => simp only [List.map_cons, refsL, refsV, ih, Bool.and_self]
theorem matH_own {r0 b : Nat} {rows : List (List Int)} (h : r0 < b) (r : Nat) (c : Bool × List AV) (hc : matH r0 b rows r = some c) : ownL false c.2 = true ∧ refsL (fun r => (matH r0 b rows r).isSome) c.2 = true := by
  rcases matH_some hc with ⟨rfl, rfl⟩ | ⟨j, hj, rfl, rfl⟩
  · exact ⟨rowsC_own _ _ _, rowsC_refs _ _ _ fun j hj => by rw [matH_row h hj]; rfl⟩
  · exact ⟨ownL_ints _ _, refsL_ints _ _⟩
/-- The names of a matrix handed out. -/
def gnm (q b : Nat) : Nat → Nat := fun r => if r = nbase then q else b + (r - (nbase + 1))
theorem gnm_outer (q b : Nat) : gnm q b nbase = q := if_pos rfl
theorem gnm_row (q b j : Nat) : gnm q b (nbase + 1 + j) = b + j := by
  unfold gnm
  rw [if_neg (by omega), Nat.add_sub_cancel_left]
theorem gnm_inj {q b : Nat} (hq : q < b) {rows : List (List Int)} {r r' : Nat} (h1 : (matH nbase (nbase + 1) rows r).isSome = true) (h2 : (matH nbase (nbase + 1) rows r').isSome = true) (e : gnm q b r = gnm q b r') : r = r' := by
  obtain ⟨c, hc⟩ := Option.isSome_iff_exists.1 h1
  obtain ⟨c', hc'⟩ := Option.isSome_iff_exists.1 h2
  rcases matH_some hc with ⟨rfl, _⟩ | ⟨j, hj, rfl, _⟩
  · rcases matH_some hc' with ⟨rfl, _⟩ | ⟨j', hj', rfl, _⟩
    · rfl
    · rw [gnm_outer, gnm_row] at e; omega
  · rcases matH_some hc' with ⟨rfl, _⟩ | ⟨j', hj', rfl, _⟩
    · rw [gnm_outer, gnm_row] at e; omega
    · rw [gnm_row, gnm_row] at e; omega
theorem gnm_cells (q b : Nat) (rows : List (List Int)) : renL (gnm q b) (rowsC (nbase + 1) rows) = rowsC b rows := rowsC_ren _ _ _ _ fun j _ => gnm_row q b j
theorem gnm_hp {q b : Nat} {rows : List (List Int)} {hp : Hp} (h0 : hp q = some (false, rowsC b rows)) (hr : ∀ j, j < rows.length → hp (b + j) = some (true, (rows.getD j []).map AV.i)) (r : Nat) (c : Bool × List AV) (hc : matH nbase (nbase + 1) rows r = some c) :
    hp (gnm q b r) = some (renR (gnm q b) c) := by
  rcases matH_some hc with ⟨rfl, rfl⟩ | ⟨j, hj, rfl, rfl⟩
  · rw [gnm_outer, h0]
    simp only [renR]
    rw [gnm_cells]
  · rw [gnm_row, hr j hj]
    simp only [renR]
    rw [renL_ints]
abbrev matO (rows : List (List Int)) : Hp := matH nbase (nbase + 1) rows
theorem static_mat1 (rows : List (List Int)) : Static (fun _ => none) (.sl nbase 1 0 rows.length) (matO rows) :=
  ⟨fun r h => by simp at h, matH_own (by omega), by simp [ownV], by simp [refsV, matO, matH_outer]⟩
theorem static_mat2 (rows : List (List Int)) (x : Value) : Static (fun _ => none) (.tup [.sl nbase 1 0 rows.length, .v x]) (matO rows) :=
  ⟨fun r h => by simp at h, matH_own (by omega), by simp [ownV, ownL], by simp [refsV, refsL, matO, matH_outer]⟩
/-- A matrix is handed out. -/
theorem ret_mat {r0 b : Nat} {rows : List (List Int)} {ts : List Nat} {res : AV} (hr0 : r0 < b) (hpb : r0 < pbase) (hb : b + rows.length ≤ pbase)
    (h1 : resAV s ts = renV (gnm r0 b) res) (h0 : s.hp r0 = some (false, rowsC b rows)) (hrow : ∀ j, j < rows.length → s.hp (b + j) = some (true, (rows.getD j []).map AV.i)) : DoneH ts res (fun _ => none) (matO rows) .ret s := by
  refine ret_doneh (gnm r0 b) h1 (fun r c hc => ⟨_, gnm_hp h0 hrow r c hc, .inl rfl⟩) (fun r hr => by simp at hr) (fun r hr _ => ?_) fun r r' h2 h3 e => gnm_inj hr0 h2 h3 e
  obtain ⟨c, hc⟩ := Option.isSome_iff_exists.1 hr
  rcases matH_some hc with ⟨rfl, _⟩ | ⟨j, hj, rfl, _⟩
  · rw [gnm_outer]; exact hpb
  · rw [gnm_row]; omega
/-- An empty one. -/
theorem ret_mat0 {r0 : Nat} {fl : Bool} {ts : List Nat} {res : AV} (hpb : r0 < pbase) (h1 : resAV s ts = renV (gnm r0 (r0 + 1)) res) (h0 : s.hp r0 = some (fl, [])) : DoneH ts res (fun _ => none) (matO []) .ret s := by
  refine ret_doneh (gnm r0 (r0 + 1)) h1 (fun r c hc => ?_) (fun r hr => by simp at hr) (fun r hr _ => ?_) fun r r' h2 h3 e => gnm_inj (by omega) h2 h3 e
  · rcases matH_some hc with ⟨rfl, rfl⟩ | ⟨j, hj, _⟩
    · exact ⟨_, by rw [gnm_outer]; exact h0, .inr ⟨rfl, rfl⟩⟩
    · simp at hj
  · obtain ⟨c, hc⟩ := Option.isSome_iff_exists.1 hr
    rcases matH_some hc with ⟨rfl, _⟩ | ⟨j, hj, _⟩
    · rw [gnm_outer]; exact hpb
    · simp at hj
/-- A matrix comes in: its outer slice is region q, its rows are b, b + 1, .. -/
def AS.addM (s : AS) (q b : Nat) (rows : List (List Int)) : AS := ⟨s.tm, famH (fun r => if r = q then some (false, rowsC b rows) else s.hp r) b rows⟩
theorem addM_row {s : AS} {q b : Nat} {rows : List (List Int)} {j : Nat} (hq : q < b) (hn : s.hp (b + j) = none) (hj : j < rows.length) : (s.addM q b rows).hp (b + j) = some (true, (rows.getD j []).map AV.i) :=
  famH_row (h := fun r => if r = q then some (false, rowsC b rows) else s.hp r) (by
    show (if b + j = q then some (false, rowsC b rows) else s.hp (b + j)) = none
    rw [if_neg (by omega)]; exact hn) hj
/-- A call that hands out a matrix: its outer slice is taken asx region q, its rows asx b, b + 1, .. -/
theorem m_callM {f : FuncId} {args : List Opd} {asx : List AV} {rows : List (List Int)} {res : AV} (q b : Nat) (hs : SpH P f asx (fun _ => none) res (matO rows)) (hl : Lends s.hp (args.map s.ev) asx) (hor : ownV false res = true) (hqb : q < b) (hqp : q < pbase) (hb : b + rows.length ≤ pbase)
    (hq : s.hp q = none) (hrow : ∀ j, j < rows.length → s.hp (b + j) = none)
    (k : K (AS.put (s.addM q b rows) d (renV (gnm q b) res))) : aop1 P true ⟨d, .call f args, none⟩ s K := by
  refine m_callh (gnm q b) hs (lendsH_none hl) ⟨fun r c h => by simp at h, fun r r' h1 h2 e => gnm_inj hqb h1 h2 e, fun r h => by simp at h, fun r hr _ => ?_, gnm_hp ?_ fun j hj => ?_, fun p hp => ?_, fun r c h => by simp at h, fun r c hc => (matH_own (by omega) r c hc).1, hor⟩ k
  · obtain ⟨c, hc⟩ := Option.isSome_iff_exists.1 hr
    rcases matH_some hc with ⟨rfl, _⟩ | ⟨j, hj, rfl, _⟩
    · rw [gnm_outer]; exact ⟨hq, hqp⟩
    · rw [gnm_row]; exact ⟨hrow j hj, by omega⟩
  · simp [famH]
  · exact famH_row (by have : ¬ b + j = q := by omega
                       simp only [this, if_false]; exact hrow j hj) hj
  · have h1 : p ≠ q := fun e => hp nbase (by rw [matO, matH_outer]; rfl) (by rw [gnm_outer]; exact e.symm)
    unfold famH
    simp only [h1, if_false]
    cases hh : s.hp p with
    | some c => rfl
    | none =>
      simp only
      rw [if_neg]
      rintro ⟨h2, h3⟩
      refine hp (nbase + 1 + (p - b)) ?_ ?_
      · rw [matO, matH_row (by omega) (by omega)]; rfl
      · rw [gnm_row]; omega
mutual
theorem renV_id : ∀ x : AV, renV id x = x
  | .any => rfl
  | .v _ => rfl
  | .ro _ _ _ _ => rfl
  | .rp _ => rfl
  | .sl _ _ _ _ => rfl
  | .pt _ _ => rfl
  | .mp _ => rfl
  | .itr _ => rfl
  | .ob _ => rfl
  | .fn _ l _ => by simp only [renV, renL_id l]
  | .rmp _ _ _ => rfl
  | .fu _ _ _ => rfl
  | .mit _ m _ _ _ => by cases m <;> rfl
  | .agg l => by simp only [renV, renL_id l]
  | .tup l => by simp only [renV, renL_id l]
theorem renL_id : ∀ l : List AV, renL id l = l
  | [] => rfl
  | a :: l => by simp only [renL, renV_id a, renL_id l]
end
/-- A matrix that is read; one of new memory that is read. -/
abbrev roM (rows : List (List Int)) : AV := .ro false 1 (rows.map ints) rows.length
abbrev roF (rows : List (List Int)) : AV := .ro true 1 (rows.map newInts) rows.length
theorem lend_mat {hp : Hp} {r b : Nat} {rows : List (List Int)} (hr : hp r = some (false, rowsC b rows)) (hrow : ∀ j, j < rows.length → hp (b + j) = some (true, (rows.getD j []).map AV.i)) : Lend hp (.sl r 1 0 rows.length) (roM rows) := by
  intro w0 mu N tm w phi ro v hS h
  simp only [SimV] at h ⊢
  rcases h.2.2 with ⟨h1, _, h3, h4⟩ | ⟨b', o, cap, cur, e, h1, h2, h3, h4, h5, h6, h7⟩
  · have : rows = [] := List.eq_nil_of_length_eq_zero h3
    subst this
    exact .inl ⟨rfl, rfl, none, 0, by simpa using h4, by simp⟩
  · have ho : o = 0 := by
      rcases h4 with h4 | h4
      · exact h4
      · omega
    subst ho
    rcases hS.liv r _ hr with ⟨h8, _⟩ | ⟨b2, cur', e', h8, h9, h10, h11, h12⟩ | ⟨b2, o2, h0, _⟩
    · have : phi r = some b' := h1
      rw [h8] at this; cases this
    case inr.inr => cases h0
    · have h1' : phi r = some b' := h1
      rw [h8] at h1'
      cases h1'
      have h3' : w.heap[b']? = some (.cells cur e (0, 0)) := h3
      rw [h9] at h3'
      cases h3'
      refine .inr ⟨b', 0, cap, cur, e, (0, 0), h2, h9, lt_of_get h9, by simp, h5, by simp, ?_⟩
      simp only [SimR, Bool.false_eq_true, if_false] at h12
      rw [List.drop_zero]
      refine SimL.of_get fun j a hj => ?_
      rw [List.getElem?_map, Option.map_eq_some_iff] at hj
      obtain ⟨l, hl, rfl⟩ := hj
      have hjl := (List.getElem?_eq_some_iff.1 hl).1
      have e1 : rows.getD j [] = l := by rw [List.getD_eq_getElem?_getD, hl]; rfl
      obtain ⟨y, k1, k2⟩ := h12.get (rowsC_get b rows j hjl)
      refine ⟨y, k1, ?_⟩
      rw [e1] at k2
      have hrj := hrow j hjl
      rw [e1] at hrj
      have := lend_sli (hp := hp) (r := b + j) (L := l) hrj rfl w0 mu N tm w phi ro y hS k2
      rw [SimV] at this ⊢
      exact this
theorem lend_roM {hp : Hp} {fr fr2 : Bool} {n : Nat} {rows : List (List Int)} (hn : n = rows.length) : Lend hp (.ro fr 1 (rows.map fun l => .ro fr2 1 (l.map AV.i) l.length) n) (roM rows) := by
  subst hn
  intro w0 mu N tm w phi ro v hS h
  simp only [SimV] at h ⊢
  rcases h with ⟨h1, h2, a, c, h3, _⟩ | ⟨b, o, cap, cur, e, fz, h1, h2, h3, h4, h5, _, h6⟩
  · have : rows = [] := List.eq_nil_of_length_eq_zero h1
    subst this
    exact .inl ⟨rfl, rfl, a, c, h3, by simp⟩
  · refine .inr ⟨b, o, cap, cur, e, fz, h1, h2, hS.rob b h3, by simp, h5, by simp, ?_⟩
    refine SimL.of_get fun j x hj => ?_
    rw [List.getElem?_map, Option.map_eq_some_iff] at hj
    obtain ⟨l, hl, rfl⟩ := hj
    obtain ⟨y, k1, k2⟩ := h6.get (i := j) (a := .ro fr2 1 (l.map AV.i) l.length) (by rw [List.getElem?_map, hl]; rfl)
    refine ⟨y, k1, ?_⟩
    simp only [SimV] at k2 ⊢
    rcases k2 with ⟨g1, g2, a', c', g3, _⟩ | ⟨b', o', cap', cur', e', fz', g1, g2, g3, g4, g5, _, g6⟩
    · exact .inl ⟨g1, g2, a', c', g3, by simp⟩
    · exact .inr ⟨b', o', cap', cur', e', fz', g1, g2, hS.rob b' g3, g4, g5, by simp, simL_allv (allv_ints l) g6⟩
theorem ob_ints {G : Prop} {l : List Int} {o : Obj} (h : ((true, l.map AV.i) : Bool × List AV) = (true, [.ob o])) : G := by
  simp only [Prod.mk.injEq, true_and] at h
  cases l with
  | nil => simp at h
  | cons x l => simp at h
/-- A matrix handed out, read. -/
theorem simv_roF {w w' : World} {phi : Nat → Option Nat} {rows : List (List Int)} {v : Value} (h1 : ∀ r b, (matO rows r).isSome = true → phi r = some b → w.heap.size ≤ b) (h2 : Regs (ctxX w w' phi (matO rows)) (matO rows)) (h3 : SimV (.sl nbase 1 0 rows.length) (ctxX w w' phi (matO rows)) v) : SimV (roF rows) (fresh w w') v := by
  simp only [SimV] at h3 ⊢
  rcases h3.2.2 with ⟨k1, _, k3, k4⟩ | ⟨b', o, cap, cur, e, k1, k2, k3, k4, k5, k6, k7⟩
  · have : rows = [] := List.eq_nil_of_length_eq_zero k3
    subst this
    exact .inl ⟨rfl, rfl, none, 0, by simpa using k4, by simp⟩
  · have ho : o = 0 := by
      rcases k4 with k4 | k4
      · exact k4
      · omega
    subst ho
    have hb := h1 nbase b' (by rw [matO, matH_outer]; rfl) k1
    have k3' : w'.heap[b']? = some (.cells cur e (0, 0)) := k3
    refine .inr ⟨b', 0, cap, cur, e, (0, 0), k2, k3', ⟨hb, lt_of_get k3'⟩, by simp, k5, fun _ => ⟨hb, rfl, rfl, k6, by omega⟩, ?_⟩
    rcases h2 nbase _ (matH_outer _ _ _) with ⟨g1, _⟩ | ⟨b2, cur2, e2, g1, g2, g3⟩ | ⟨b2, o2, h0, _⟩
    case inr.inr => cases h0
    · have : phi nbase = some b' := k1
      have g1' : phi nbase = none := g1
      rw [g1'] at this; cases this
    · have g1' : phi nbase = some b2 := g1
      have k1' : phi nbase = some b' := k1
      rw [g1'] at k1'
      cases k1'
      have g2' : w'.heap[b']? = some (.cells cur2 e2 (0, 0)) := g2
      rw [k3'] at g2'
      cases g2'
      simp only [SimR, Bool.false_eq_true, if_false] at g3
      rw [List.drop_zero]
      refine SimL.of_get fun j x hj => ?_
      rw [List.getElem?_map, Option.map_eq_some_iff] at hj
      obtain ⟨l, hl, rfl⟩ := hj
      have hjl := (List.getElem?_eq_some_iff.1 hl).1
      have e1 : rows.getD j [] = l := by rw [List.getD_eq_getElem?_getD, hl]; rfl
      obtain ⟨y, m1, m2⟩ := g3.get (rowsC_get (nbase + 1) rows j hjl)
      refine ⟨y, m1, ?_⟩
      rw [e1] at m2
      simp only [SimV] at m2 ⊢
      rcases m2.2.2 with ⟨n1, _, n3, n4⟩ | ⟨b3, o3, cap3, cur3, e3, n1, n2, n3, n4, n5, n6, n7⟩
      · have : l = [] := List.eq_nil_of_length_eq_zero n3
        subst this
        exact .inl ⟨rfl, rfl, none, 0, by simpa using n4, by simp⟩
      · have ho3 : o3 = 0 := by
          rcases n4 with n4 | n4
          · exact n4
          · omega
        subst ho3
        have hrow := matH_row (r0 := nbase) (b := nbase + 1) (rows := rows) (by omega) hjl
        have hb3 := h1 (nbase + 1 + j) b3 (by rw [matO, hrow]; rfl) n1
        have n3' : w'.heap[b3]? = some (.cells cur3 e3 (0, 0)) := n3
        refine .inr ⟨b3, 0, cap3, cur3, e3, (0, 0), n2, n3', ⟨hb3, lt_of_get n3'⟩, by simp, n5, fun _ => ⟨hb3, rfl, rfl, n6, by omega⟩, ?_⟩
        rcases h2 _ _ hrow with ⟨g4, _⟩ | ⟨b4, cur4, e4, g4, g5, g6⟩ | ⟨b4, o4, h0, _⟩
        case inr.inr => exact ob_ints h0
        · have n1' : phi (nbase + 1 + j) = some b3 := n1
          have g4' : phi (nbase + 1 + j) = none := g4
          rw [g4'] at n1'; cases n1'
        · have g4' : phi (nbase + 1 + j) = some b4 := g4
          have n1' : phi (nbase + 1 + j) = some b3 := n1
          rw [g4'] at n1'
          cases n1'
          have g5' : w'.heap[b3]? = some (.cells cur4 e4 (0, 0)) := g5
          rw [n3'] at g5'
          cases g5'
          simp only [SimR, if_true] at g6
          rw [e1] at g6
          rw [List.drop_zero]
          exact simL_allv (allv_ints l) g6
theorem sp_mat1 {f : FuncId} {asx : List AV} {rows : List (List Int)} (h : SpH P f asx (fun _ => none) (.sl nbase 1 0 rows.length) (matO rows)) : Sp P f asx (roF rows) :=
  spH_sp h fun _ _ _ _ h1 h2 h3 => simv_roF h1 h2 h3
theorem sp_mat2 {f : FuncId} {asx : List AV} {rows : List (List Int)} {x : Value} (h : SpH P f asx (fun _ => none) (.tup [.sl nbase 1 0 rows.length, .v x]) (matO rows)) : Sp P f asx (.tup [roF rows, .v x]) := by
  refine spH_sp h fun w w' phi v h1 h2 h3 => ?_
  rw [SimV] at h3 ⊢
  obtain ⟨a, k1, k2, k3⟩ := h3
  refine ⟨a, k1, k2, ?_⟩
  match hl : a.toList with
  | [] => rw [hl] at k3; simp [SimL] at k3
  | [_] => rw [hl] at k3; simp [SimL] at k3
  | u :: v :: rest =>
    rw [hl] at k3
    rw [SimL, SimL] at k3 ⊢
    exact ⟨simv_roF h1 h2 k3.1, by simpa [SimV] using k3.2.1, by simp [SimL]⟩
end Go.Am
namespace Go.Am
variable [Go.Am.CodeBlk]
variable {P : Program} {own : Bool} {N : Nat} {s : AS} {K : AS → Prop} {d : Option Nat}
/-- A region told otherwise, its block being what it was. -/
theorem weak_recell {s : AS} {r : Nat} {c c' : Bool × List AV} (hr : s.hp r = some c) (hne : c.2 ≠ []) (hno : ∀ o, c ≠ (true, [.ob o]))
    (h : ∀ (w0 : World) (mu : Nat → Option Nat) (N : Nat) (tm : Array Value) (w : World) (phi : Nat → Option Nat) (ro : Nat → Prop) (cur : Array Value), Sim w0 mu N s tm w phi ro → SimR c (ctx w0 w ro phi s) cur.toList → SimR c' (ctx w0 w ro phi s) cur.toList) : Weak s (s.mem r c') := by
  intro w0 mu N a w hS
  obtain ⟨hf, phi, ro, hS⟩ := hS
  rcases hS.liv r c hr with ⟨_, h2, _⟩ | ⟨b, cur, e, h1, h2, h3, h4, h5⟩ | ⟨b, o, h0, _⟩
  · exact absurd h2 hne
  case inr.inr => exact absurd h0 (hno o)
  · exact ⟨hf, phi, ro, hS.write hr h1 h2 h2 rfl (fun _ _ _ => rfl) rfl rfl rfl (Nat.le_refl _) (h w0 mu N a.tmps w phi ro cur hS h5)⟩
/-- Plain cells may be told asx cells that may lead to regions. -/
theorem weak_deep {r : Nat} {cs : List AV} (hr : s.hp r = some (true, cs)) (hne : cs ≠ []) (hpl : cs.all plainV = true) : Weak s (s.mem r (false, cs)) := by
  refine weak_recell hr hne (fun o h => by cases h; simp [plainV] at hpl) fun w0 mu N tm w phi ro cur _ h => ?_
  simp only [SimR, if_true, Bool.false_eq_true, if_false] at h ⊢
  exact simL_allv hpl h
end Go.Am
namespace Go.Am
variable [Go.Am.CodeBlk]
theorem lend_fn {hp : Hp} {f : FuncId} {l m : List AV} {k : Nat} (h : Lends hp l m) : Lend hp (.fn f l k) (.fn f m k) := by
  intro w0 mu N tm w phi ro v hS hv
  simp only [SimV] at hv ⊢
  obtain ⟨a, b, h1, h2, h3, h4⟩ := hv
  obtain ⟨h5, h6⟩ := h w0 mu N tm w phi ro (a.toList ++ b.toList) hS h4 (by simpa using h3)
  exact ⟨a, b, h1, h2, by simpa using h6, h5⟩
/-- A pointer to memory that nobody writes. -/
theorem lend_rp {hp : Hp} {cs : List AV} (hall : cs.all plainV = true) : Lend hp (.rp cs) (.rp cs) := by
  intro w0 mu N tm w phi ro v hS hv
  simp only [SimV] at hv ⊢
  obtain ⟨b, o, cur, e, fz, h1, h2, h3, h4⟩ := hv
  exact ⟨b, o, cur, e, fz, h1, h2, lt_of_get h2, simL_allv hall h4⟩
/-- A pointer to a region of my own: the callee reads it. -/
theorem lend_pt {hp : Hp} {r off : Nat} {cs : List AV} (hr : hp r = some (true, cs)) (hall : cs.all plainV = true) : Lend hp (.pt r off) (.rp (cs.drop off)) := by
  intro w0 mu N tm w phi ro v hS hv
  simp only [SimV] at hv ⊢
  obtain ⟨_, _, b, h1, h2, cur, e, h3⟩ := hv
  refine ⟨b, off, cur, e, (0, 0), h2, h3, lt_of_get h3, ?_⟩
  rcases hS.liv r _ hr with ⟨k1, _⟩ | ⟨b', cur', e', k1, k2, k3, k4, k5⟩ | ⟨b', o, k0, _⟩
  · have h1' : phi r = some b := h1
    rw [k1] at h1'; cases h1'
  · have h1' : phi r = some b := h1
    rw [k1] at h1'; cases h1'
    have h3' : w.heap[b]? = some (.cells cur e (0, 0)) := h3
    rw [k2] at h3'; cases h3'
    simp only [SimR, if_true] at k5
    exact (simL_allv hall k5).drop off
  · cases k0; simp [plainV] at hall
/- Boards asx texts. -/
theorem getD_memL {α : Type} {l : List α} {d : α} {m : Nat} (h : m < l.length) : l.getD m d ∈ l := by
  have : l.getD m d = l[m] := by simp [h]
  rw [this]
  exact List.getElem_mem h
end Go.Am
namespace Go.Am
variable [Go.Am.CodeBlk]
theorem rowT_at {rows : List (List Int)} {k : Nat} (h : k < rows.length) : ((rows.map newInts).drop k)[0]? = some (newInts (rows.getD k [])) := by
  rw [List.getElem?_drop, Nat.add_zero, List.getElem?_map, List.getElem?_eq_getElem h, List.getD_eq_getElem?_getD, List.getElem?_eq_getElem h]; rfl
theorem take_mapT {α β : Type} (f : α → β) (l : List α) (d : α) (k : Nat) (h : k < l.length) : (l.take (k + 1)).map f = (l.take k).map f ++ [f (l.getD k d)] := by
  rw [List.take_add_one, List.getD_eq_getElem?_getD, List.getElem?_eq_getElem h, List.map_append]; rfl
end Go.Am
namespace Go.Proofs.Ytmckfjnbbfdepaa
variable [Go.Am.CodeBlk]
open Go.Am
attribute [local irreducible] AW Outs Weak Lends Lend Sp aops atree aop1 Then Round InBlock Done
attribute [local irreducible] SpH DoneH
theorem chAll_zero (m : Nat) : SpH Try.prog 39 [.i (0 : Nat), .i m] (fun _ => none) (.sl nbase 1 0 1) (matO [[]]) := by
  have hpb : pbase = 4000000 := rfl
  have hstat : Static (fun _ => none) (.sl nbase 1 0 1) (matO [[]]) := static_mat1 [[]]
  refine specH_of Try.func39 rfl cc39 rfl (by first | exact static_mat1 _ | exact static_mat2 _ _ | assumption) ?_
  unfold ac39
  repeat (first | (refine step_ops ?_; (first | (refine m_mov (by conv => lhs; whnf) ?_) | (refine m_eql rfl rfl ?_) | (refine m_nils ?_) | (refine m_bsl0 ?_))) | refine end_ops ?_ | refine seq_ops ?_ | (refine cond_t rfl ?_ ?_; (· first | rfl | assumption | (refine decide_eq_true ?_; first | assumption | omega) | (refine nt ?_; first | assumption | omega) | (simp [*]; done))) | refine AW_seq ?_)
  refine step_ops ?_
  refine m_bsl1d rfl rfl ?_
  refine step_ops ?_; (refine m_mov (by conv => lhs; whnf) ?_)
  refine end_ops ?_
  refine AW_weak (weak_push (rows := []) (row := []) (r0 := 12) (b := 1000) (l := [(4, .sl 12 1 0 1)]) (h := []) id 11 ?_ ?_ rfl rfl rfl (by simp [hpb]) rfl rfl (by decide) rfl rfl ?_ ?_ ?_) ?_
  · (repeat' (first | exact trivial | refine And.intro ?_ ?_)) <;> (first | rfl | skip)
  · trivial
  · simp [rowsC, killL]
    rfl
  · rfl
  · intro j hj; simp at hj
  refine AW_ret ?_
  refine ret_then ?_
  refine ret_mat (r0 := 12) (b := 1000) (by omega) (by omega) (by simp [hpb]) rfl rfl ?_
  intro j hj
  exact stM_row rfl hj
theorem chAll_spec : ∀ s : Nat, s ≤ 12 → ∀ m : Nat, m ≤ 12 → SpH Try.prog 39 [.i s, .i m] (fun _ => none) (.sl nbase 1 0 (tyAll s m).length) (matO (tyAll s m)) := by
  intro s
  induction s using Nat.strongRecOn with
  | _ s ih =>
  intro hs m hm
  by_cases h0 : s = 0
  · subst h0
    exact chAll_zero m
  have hs0 : 0 < s := by omega
  have hpb : pbase = 4000000 := rfl
  have hstat : Static (fun _ => none) (.sl nbase 1 0 (tyAll s m).length) (matO (tyAll s m)) := static_mat1 _
  have hle := l1Least_spec (s : Int) (m : Int)
  have hmin : min (s : Int) (m : Int) = ((min s m : Nat) : Int) := by omega
  rw [hmin] at hle
  have hfull := tyAll_part (m := m) hs0
  have hpl : ∀ c, c ≤ min s m → (tyPart s (min s m) c).length ≤ 77 := fun c hc => tyPart_len hs hm hs0 hc
  have hTs : min s m ≤ s := Nat.min_le_left ..
  rw [hfull] at hstat ⊢
  generalize min s m = T at *
  have hsne : ¬ ((s : Nat) : Int) = 0 := by omega
  refine specH_of Try.func39 rfl cc39 rfl (by first | exact static_mat1 _ | exact static_mat2 _ _ | assumption) ?_
  unfold ac39
  repeat (first | (refine step_ops ?_; (first | (refine m_mov (by conv => lhs; whnf) ?_) | (refine m_eql rfl rfl ?_) | (refine m_nils ?_))) | refine end_ops ?_ | refine seq_ops ?_ | (refine cond_f rfl ?_ ?_; (· first | rfl | assumption | (refine decide_eq_false ?_; first | assumption | omega) | (refine nf ?_; first | assumption | omega) | (simp [*]; done))) | refine skip_then ?_ | refine AW_seq ?_)
  (refine step_ops ?_); (apply m_call (hle)); (· repeat (first | exact lends_nil | (refine lends_cons ?_ ?_; (· exact lend_v))))
  repeat (first | (refine step_ops ?_; (refine m_mov (by conv => lhs; whnf) ?_)) | refine end_ops ?_ | refine AW_block ?_)
  refine AW_loop (α := Nat) (fun c => c ≤ T) (fun c => stM [(0, .i s), (5, .sl 5 1 0 (tyPart s T c).length), (6, .i ((T - c : Nat) : Int))] [] 5 1000 (tyPart s T c)) (fun c => T - c) 0 (by omega)
    (weak_keep id ?_ ?_ rfl rfl rfl (.inl (by simp [pbase, tyPart])) rfl rfl rfl (.inr ⟨rfl, rfl⟩) (fun j hj => by simp [tyPart] at hj)) ?_
  · (repeat' (first | exact trivial | refine And.intro ?_ ?_)) <;> (first | rfl | skip)
  · trivial
  intro c hc
  have hrl := rowsC_len 1000 (tyPart s T c)
  have hb0 := hpl c hc
  by_cases hcc : c < T
  · have hsuc := tyPart_succ s T c
    have hb1 := hpl (c + 1) (by omega)
    have hnx : T - (c + 1) = T - c - 1 := by omega
    obtain ⟨n, hn⟩ : ∃ n, T - c = n := ⟨_, rfl⟩
    rw [hn] at hsuc hnx
    have hn1 : ((n : Nat) : Int) > 0 := by omega
    have hih := sp_mat1 (ih (s - n) (by omega) (by omega) n (by omega))
    have hsub : (s : Int) - (n : Int) = ((s - n : Nat) : Int) := by omega
    rw [← hsub] at hih
    have hRl := tyAll_len (s := s - n) (m := n) (by omega) (by omega)
    have hrow : ∀ r ∈ tyAll (s - n) n, r.length ≤ 12 := fun r hr => Nat.le_trans (tyAll_row (by omega) (by omega) hr) (by omega)
    generalize tyAll (s - n) n = R at *
    generalize hP : tyPart s T c = P at *
    rw [hn]
    repeat (first | (refine step_ops ?_; (first | (refine m_mov (by conv => lhs; whnf) ?_) | (refine m_gtr rfl rfl ?_) | (refine m_sub rfl rfl ?_ ?_ ?_; (· omega); (· omega)))) | refine end_ops ?_ | refine seq_ops ?_ | (refine cond_t rfl ?_ ?_; (· first | rfl | assumption | (refine decide_eq_true ?_; first | assumption | omega) | (refine nt ?_; first | assumption | omega) | (simp [*]; done))) | refine skip_then ?_ | refine AW_seq ?_ | refine AW_block ?_)
    (refine step_ops ?_); (apply m_call (hih)); (· repeat (first | exact lends_nil | (refine lends_cons ?_ ?_; (· exact lend_v))))
    repeat (first | (refine step_ops ?_; (first | (refine m_mov (by conv => lhs; whnf) ?_) | (refine m_len_ro rfl ?_))) | refine end_ops ?_ | refine AW_block ?_)
    refine AW_loop (α := Nat) (fun j => j ≤ R.length) (fun j => stM [(0, .i s), (5, .sl 5 1 0 (P ++ (R.take j).map fun r => (n : Int) :: r).length), (6, .i n), (24, roF R), (25, .i R.length), (26, .i j)] [] 5 1000 (P ++ (R.take j).map fun r => (n : Int) :: r)) (fun j => R.length - j) 0 (Nat.zero_le _)
      (weak_keep id ?_ ?_ rfl rfl rfl (.inl (by simp [pbase]; omega)) rfl rfl rfl (.inl ⟨rfl, ?_⟩) ?_) ?_
    · simp only [List.take_zero, List.map_nil, List.append_nil]
      (repeat' (first | exact trivial | refine And.intro ?_ ?_)) <;> (first | rfl | skip)
    · trivial
    · simp
    · simp only [List.take_zero, List.map_nil, List.append_nil]
      (intro j hj; simp (disch := first | omega | assumption) only [hp_put, hp_mem_ne, hp_kill_ne]; first | exact stM_row rfl hj | (rw [stM_row rfl hj]; rfl))
    intro j hj
    have hml : (P ++ (R.take j).map fun r => (n : Int) :: r).length = P.length + j := by simp; omega
    have hrl := rowsC_len 1000 (P ++ (R.take j).map fun r => (n : Int) :: r)
    by_cases hcj : j < R.length
    · have hsn : (P ++ (R.take (j + 1)).map fun r => (n : Int) :: r) = (P ++ (R.take j).map fun r => (n : Int) :: r) ++ [(n : Int) :: R.getD j []] := by rw [take_mapT _ R [] j hcj, List.append_assoc]
      have hrw1 := hrow _ (getD_memL hcj : R.getD j [] ∈ R)
      obtain ⟨row, hrw⟩ : ∃ row, row = R.getD j [] := ⟨_, rfl⟩
      rw [← hrw] at hsn hrw1
      generalize (P ++ (R.take j).map fun r => (n : Int) :: r) = T2 at *
      repeat (first | (refine step_ops ?_; (first | (refine m_lss rfl rfl ?_) | (refine m_idx1_ro rfl rfl ?_ ?_; (· omega)))) | refine end_ops ?_ | refine seq_ops ?_ | (refine cond_t rfl ?_ ?_; (· first | rfl | assumption | (refine decide_eq_true ?_; first | assumption | omega) | (refine nt ?_; first | assumption | omega) | (simp [*]; done))) | refine skip_then ?_ | refine AW_seq ?_ | refine AW_block ?_)
      refine step_ops ?_
      refine m_ld_rp rfl (rowT_at hcj) ?_
      rw [← hrw]
      repeat (first | (refine step_ops ?_; (first | (refine m_mov (by conv => lhs; whnf) ?_) | (refine m_bsl1 rfl rfl ?_) | (refine m_appro rfl (by decide) rfl (by first | rfl | (simp; done) | (simp [*]; done) | (simp; omega)) rfl (oks_ints _) ?_ (by decide) ?_; (· first | omega | (simp; omega))))) | refine end_ops ?_ | refine AW_ops ?_)
      refine step_ops ?_
      refine m_bsl1d rfl rfl ?_
      refine step_ops ?_
      refine m_app1d rfl (by decide) rfl ?_ rfl rfl rfl ?_ (by decide) ?_
      · simp [rowsC_kill, rowsC_len]
      · omega
      repeat (first | (refine step_ops ?_; (first | (refine m_mov (by conv => lhs; whnf) ?_) | (refine m_add rfl rfl ?_ ?_ ?_; (· omega); (· omega)))) | refine end_ops ?_ | refine AW_ops ?_ | refine norm_then ?_ | refine norm_block ?_)
      refine next_round (j + 1) (by omega) ?_ ?_
      · rw [hsn, List.length_append]
        refine weak_push (fun r => if r = 5 then 36 else r) 34 ?_ ?_ rfl rfl rfl (by omega) rfl rfl (by decide) rfl rfl ?_ ?_ ?_
        · (repeat' (first | exact trivial | refine And.intro ?_ ?_)) <;> (first | rfl | skip)
        · trivial
        · rw [show ((n : Int) :: row).length = 1 + row.length from Nat.add_comm ..]
          simp [rowsC_kill, killL_append, killL]
          rfl
        · rfl
        · (intro j hj; simp (disch := first | omega | assumption) only [hp_put, hp_mem_ne, hp_kill_ne]; first | exact stM_row rfl hj | (rw [stM_row rfl hj]; rfl))
      · omega
    · obtain rfl : j = R.length := by omega
      rw [List.take_length] at hml hrl ⊢
      repeat (first | (refine step_ops ?_; (first | (refine m_mov (by conv => lhs; whnf) ?_) | (refine m_lss rfl rfl ?_) | (refine m_sub rfl rfl ?_ ?_ ?_; (· omega); (· omega)))) | refine end_ops ?_ | refine seq_ops ?_ | refine AW_ops ?_ | (refine cond_f rfl ?_ ?_; (· first | rfl | assumption | (refine decide_eq_false ?_; first | assumption | omega) | (refine nf ?_; first | assumption | omega) | (simp [*]; done))) | refine AW_seq ?_ | refine norm_then ?_ | refine exit_then ?_ | refine norm_block ?_ | refine exit_round ?_ | refine AW_exit ?_ | refine exit_block ?_)
      refine next_round (c + 1) (by omega) ?_ ?_
      · rw [hsuc]
        refine weak_keep id ?_ ?_ rfl rfl rfl (.inl (by simp [pbase]; omega)) rfl rfl rfl (.inl ⟨rfl, rfl⟩) ?_
        · refine ⟨rfl, rfl, ?_, trivial⟩
          show AV.i ((n : Int) - 1) = AV.i _
          congr 1
          omega
        · trivial
        · (intro j hj; simp (disch := first | omega | assumption) only [hp_put, hp_mem_ne, hp_kill_ne]; first | exact stM_row rfl hj | (rw [stM_row rfl hj]; rfl))
      · omega
  · obtain rfl : c = T := by omega
    rw [Nat.sub_self]
    have hz : ¬ ((0 : Nat) : Int) > 0 := by omega
    repeat (first | (refine step_ops ?_; (first | (refine m_mov (by conv => lhs; whnf) ?_) | (refine m_gtr rfl rfl ?_))) | refine end_ops ?_ | refine seq_ops ?_ | (refine cond_f rfl ?_ ?_; (· first | rfl | assumption | (refine decide_eq_false ?_; first | assumption | omega) | (refine nf ?_; first | assumption | omega) | (simp [*]; done))) | refine AW_seq ?_ | refine AW_ret ?_ | refine norm_then ?_ | refine exit_then ?_ | refine exit_round ?_ | refine AW_exit ?_ | refine exit_block ?_)
    refine ret_mat (r0 := 5) (b := 1000) (by omega) (by omega) (by omega) rfl rfl ?_
    (intro j hj; simp (disch := first | omega | assumption) only [hp_put, hp_mem_ne, hp_kill_ne]; first | exact stM_row rfl hj | (rw [stM_row rfl hj]; rfl))
end Go.Proofs.Ytmckfjnbbfdepaa
