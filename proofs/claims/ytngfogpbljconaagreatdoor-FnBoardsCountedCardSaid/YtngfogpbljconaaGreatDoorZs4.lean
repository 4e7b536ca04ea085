/- The abstract machine, contracts: part 4 of what this claim needs. -/
import Derived.Test.YtngfogpbljconaaGreatDoorZs3
set_option linter.unusedSectionVars false
namespace Go.Proofs.YtngfogpbljconaaGreatDoor
variable [Go.Am.CodeBlk]
open Go.Am
abbrev oM (d t : Nat) : AOper := ⟨some d,.mov (.t t),none⟩
abbrev oN (d : Nat) (o : AOp) : AOper := ⟨some d,o,none⟩
abbrev oT (d : Nat) (o : AOp) (t : Nat) : AOper := ⟨some d,o,some (t,true)⟩
abbrev oF (d : Nat) (o : AOp) (t : Nat) : AOper := ⟨some d,o,some (t,false)⟩
abbrev mT (d t u : Nat) : AOper := ⟨some d,.mov (.t t),some (u,true)⟩
abbrev mF (d t u : Nat) : AOper := ⟨some d,.mov (.t t),some (u,false)⟩
def ac3 : ACode := (.seq (.ops [oN 4 (.mov (.c (.bool false)))]) (.seq (.seq (.ops [oM 66 0,oM 67 1,oN 68 (.call 4 [(.t 66),(.t 67)])]) (.cond (.t 68) (.seq (.ops [oN 4 (.mov (.c (.bool true)))]) .ret) .skip)) (.seq (.ops [oM 70 0,oN 71 (.call 5 [(.t 70)]),oM 69 71,oN 72 (.ext (.t 69) 0),oN 73 (.ext (.t 69) 1),oM 5 72,oM 6 73]) (.seq (.ops [oM 75 5,oM 76 6,oN 77 (.call 6 [(.t 75),(.t 76)]),oM 74 77,oN 78 (.ext (.t 74) 0),oN 79 (.ext (.t 74) 1),oM 7 78,oM 8 79]) (.seq (.ops [oM 81 5,oM 82 6,oN 83 (.call 7 [(.t 81),(.t 82)]),oM 80 83,oN 84 (.ext (.t 80) 0),oN 85 (.ext (.t 80) 1),oM 9 84,oM 10 85]) (.seq (.ops [oM 87 5,oM 88 6,oN 89 (.call 8 [(.t 87),(.t 88)]),oM 86 89,oN 90 (.ext (.t 86) 0),oN 91 (.ext (.t 86) 1),oM 11 90,oM 12 91]) (.seq (.ops [oM 93 5,oM 94 6,oN 95 (.call 9 [(.t 93),(.t 94)]),oM 92 95,oN 96 (.ext (.t 92) 0),oN 97 (.ext (.t 92) 1),oM 13 96,oM 14 97]) (.seq (.ops [oM 99 5,oM 100 6,oN 101 (.call 10 [(.t 99),(.t 100)]),oM 98 101,oN 102 (.ext (.t 98) 0),oN 103 (.ext (.t 98) 1),oM 15 102,oM 16 103]) (.seq (.ops [oM 105 5,oM 106 6,oN 107 (.call 11 [(.t 105),(.t 106)]),oM 104 107,oN 108 (.ext (.t 104) 0),oN 109 (.ext (.t 104) 1),oM 17 108,oM 18 109]) (.seq (.ops [oM 111 5,oN 112 (.call 12 [(.t 111)]),oM 110 112,oN 113 (.ext (.t 110) 0),oN 114 (.ext (.t 110) 1),oM 19 113,oM 20 114]) (.seq (.ops [oM 116 5,oN 117 (.call 13 [(.t 116)]),oM 115 117,oN 118 (.ext (.t 115) 0),oN 119 (.ext (.t 115) 1),oM 21 118,oM 22 119]) (.seq (.ops [oM 121 5,oN 122 (.call 14 [(.t 121)]),oM 120 122,oN 123 (.ext (.t 120) 0),oN 124 (.ext (.t 120) 1),oM 23 123,oM 24 124]) (.seq (.ops [oM 126 5,oN 127 (.call 15 [(.t 126)]),oM 125 127,oN 128 (.ext (.t 125) 0),oN 129 (.ext (.t 125) 1),oM 25 128,oM 26 129]) (.seq (.seq (.ops [oM 130 8,oM 131 10,oN 132 (.beq true (.t 130) (.t 131)),oM 133 132,mF 134 7 133,mF 135 9 133,oF 136 (.call 16 [(.t 134),(.t 135)]) 133,oF 137 (.not (.t 136)) 133,oN 138 (.pick (.t 133) (.c (.bool true)) (.t 137)),oM 139 138,mF 140 12 139,mF 141 14 139,oF 142 (.beq true (.t 140) (.t 141)) 139,oN 143 (.pick (.t 139) (.c (.bool true)) (.t 142)),oM 144 143,mF 145 11 144,mF 146 13 144,oF 147 (.beq true (.t 145) (.t 146)) 144,oN 148 (.pick (.t 144) (.c (.bool true)) (.t 147)),oM 149 148,mF 150 16 149,mF 151 18 149,oF 152 (.beq true (.t 150) (.t 151)) 149,oN 153 (.pick (.t 149) (.c (.bool true)) (.t 152)),oM 154 153,mF 155 15 154,mF 156 17 154,oF 157 (.bin .neq (.t 155) (.t 156)) 154,oN 158 (.pick (.t 154) (.c (.bool true)) (.t 157)),oM 159 158,mF 160 20 159,mF 161 22 159,oF 162 (.beq true (.t 160) (.t 161)) 159,oN 163 (.pick (.t 159) (.c (.bool true)) (.t 162)),oM 164 163,mF 165 19 164,mF 166 21 164,oF 167 (.call 16 [(.t 165),(.t 166)]) 164,oF 168 (.not (.t 167)) 164,oN 169 (.pick (.t 164) (.c (.bool true)) (.t 168)),oM 170 169,mF 171 24 170,mF 172 26 170,oF 173 (.beq true (.t 171) (.t 172)) 170,oN 174 (.pick (.t 170) (.c (.bool true)) (.t 173)),oM 175 174,mF 176 23 175,mF 177 25 175,oF 178 (.bin .neq (.t 176) (.t 177)) 175,oN 179 (.pick (.t 175) (.c (.bool true)) (.t 178)),oM 180 179,mF 181 24 180,mF 182 5 180,oF 183 (.call 17 [(.t 182)]) 180,oF 184 (.beq true (.t 181) (.t 183)) 180,oN 185 (.pick (.t 180) (.c (.bool true)) (.t 184)),oM 186 185,mF 187 5 186,oF 188 (.call 17 [(.t 187)]) 186,mF 189 5 186,oF 190 (.call 18 [(.t 189)]) 186,oF 191 (.beq true (.t 188) (.t 190)) 186,oN 192 (.pick (.t 186) (.c (.bool true)) (.t 191)),oM 193 192,mF 194 20 193,mF 195 24 193,mF 196 195 193,mT 197 23 196,oT 198 (.bin .gtr (.t 197) (.c (.int .i64 0))) 196,oF 199 (.pick (.t 196) (.t 198) (.c (.bool false))) 193,oF 200 (.beq true (.t 194) (.t 199)) 193,oN 201 (.pick (.t 193) (.c (.bool true)) (.t 200)),oM 202 201,mF 203 12 202,mF 204 203 202,mT 205 24 204,oT 206 (.not (.t 205)) 204,oF 207 (.pick (.t 204) (.t 206) (.c (.bool false))) 202,oN 208 (.pick (.t 202) (.c (.bool true)) (.t 207)),oM 209 208,mF 210 16 209,mF 211 12 209,oF 212 (.beq true (.t 210) (.t 211)) 209,oN 213 (.pick (.t 209) (.c (.bool true)) (.t 212)),oM 214 213,mF 215 12 214,mF 216 215 214,mT 217 11 216,mT 218 15 216,oT 219 (.bin .eql (.t 218) (.c (.int .i64 0))) 216,oT 220 (.beq true (.t 217) (.t 219)) 216,oF 221 (.pick (.t 216) (.t 220) (.c (.bool false))) 214,oN 222 (.pick (.t 214) (.c (.bool true)) (.t 221)),oM 223 222,mF 224 8 223,mF 225 224 223,mT 226 12 225,oT 227 (.not (.t 226)) 225,oF 228 (.pick (.t 225) (.t 227) (.c (.bool false))) 223,oN 229 (.pick (.t 223) (.c (.bool true)) (.t 228))]) (.cond (.t 229) (.seq (.ops [oN 4 (.mov (.c (.bool false)))]) .ret) .skip)) (.seq (.seq (.ops [oM 230 20]) (.cond (.t 230) (.seq (.ops [oM 232 5,oM 233 19,oN 234 (.call 10 [(.t 232),(.t 233)]),oM 231 234,oN 235 (.ext (.t 231) 0),oN 236 (.ext (.t 231) 1),oM 27 235,oM 28 236]) (.seq (.ops [oM 237 28,oN 238 (.not (.t 237)),oM 239 238,mF 240 27 239,oF 241 (.bin .neq (.t 240) (.c (.int .i64 0))) 239,oN 242 (.pick (.t 239) (.c (.bool true)) (.t 241)),oM 243 242,mF 244 12 243,mF 245 244 243,mT 246 11 245,oF 247 (.pick (.t 245) (.t 246) (.c (.bool false))) 243,mF 248 247 243,mT 249 6 248,mT 250 19 248,oT 251 (.call 19 [(.t 249),(.t 250)]) 248,oF 252 (.pick (.t 248) (.t 251) (.c (.bool false))) 243,oN 253 (.pick (.t 243) (.c (.bool true)) (.t 252))]) (.cond (.t 253) (.seq (.ops [oN 4 (.mov (.c (.bool false)))]) .ret) .skip))) .skip)) (.seq (.seq (.ops [oM 254 8]) (.cond (.t 254) (.seq (.ops [oM 256 5,oM 257 7,oN 258 (.call 10 [(.t 256),(.t 257)]),oM 255 258,oN 259 (.ext (.t 255) 0),oN 260 (.ext (.t 255) 1),oM 29 259,oM 30 260]) (.seq (.ops [oM 261 30,oN 262 (.not (.t 261)),oM 263 262,mF 264 29 263,oF 265 (.bin .neq (.t 264) (.c (.int .i64 0))) 263,oN 266 (.pick (.t 263) (.c (.bool true)) (.t 265)),oM 267 266,mF 268 6 267,mF 269 7 267,oF 270 (.call 19 [(.t 268),(.t 269)]) 267,oF 271 (.not (.t 270)) 267,oN 272 (.pick (.t 267) (.c (.bool true)) (.t 271)),oM 273 272,mF 274 7 273,mF 275 19 273,oF 276 (.call 19 [(.t 274),(.t 275)]) 273,oN 277 (.pick (.t 273) (.c (.bool true)) (.t 276))]) (.cond (.t 277) (.seq (.ops [oN 4 (.mov (.c (.bool false)))]) .ret) .skip))) .skip)) (.seq (.seq (.ops [oM 278 24,oM 279 278,mT 280 12 279,oN 281 (.pick (.t 279) (.t 280) (.c (.bool false))),oM 282 281,mT 283 23 282,oT 284 (.bin .leq (.t 283) (.c (.int .i64 60))) 282,oN 285 (.pick (.t 282) (.t 284) (.c (.bool false)))]) (.cond (.t 285) (.seq (.ops [oM 286 19,oM 31 286,oN 32 (.mov (.c (.int .i64 0)))]) (.seq (.ops [oM 287 20,oM 33 287]) (.seq (.block 0 (.loop (.seq (.seq (.ops [oM 288 33,oM 289 288,mT 290 32 289,mT 291 23 289,oT 292 (.bin .leq (.t 290) (.t 291)) 289,oN 293 (.pick (.t 289) (.t 292) (.c (.bool false)))]) (.cond (.t 293) .skip (.exit 0))) (.block 1 (.seq (.ops [oM 294 32,oN 295 (.bin .add (.t 294) (.c (.int .i64 1))),oM 32 295]) (.seq (.ops [oM 297 5,oM 298 31,oN 299 (.call 6 [(.t 297),(.t 298)]),oM 296 299,oN 300 (.ext (.t 296) 0),oN 301 (.ext (.t 296) 1),oM 34 300,oM 35 301]) (.seq (.ops [oM 302 34,oM 31 302]) (.ops [oM 303 35,oM 33 303])))))))) (.seq (.ops [oM 304 32,oM 305 23,oN 306 (.bin .neq (.t 304) (.t 305))]) (.cond (.t 306) (.seq (.ops [oN 4 (.mov (.c (.bool false)))]) .ret) .skip))))) .skip)) (.seq (.ops [oM 307 1,oN 308 (.call 20 [(.t 307)]),oM 36 308]) (.seq (.ops [oM 310 36,oN 311 (.call 21 [(.t 310)]),oM 309 311,oN 312 (.ext (.t 309) 0),oN 313 (.ext (.t 309) 1),oM 37 312,oM 38 313]) (.seq (.ops [oM 315 36,oN 316 (.call 22 [(.t 315)]),oM 314 316,oN 317 (.ext (.t 314) 0),oN 318 (.ext (.t 314) 1),oM 39 317,oM 40 318]) (.seq (.ops [oM 320 36,oN 321 (.call 23 [(.t 320)]),oM 319 321,oN 322 (.ext (.t 319) 0),oN 323 (.ext (.t 319) 1),oM 41 322,oM 42 323]) (.seq (.ops [oM 325 36,oN 326 (.call 24 [(.t 325)]),oM 324 326,oN 327 (.ext (.t 324) 0),oN 328 (.ext (.t 324) 1),oM 43 327,oM 44 328]) (.seq (.ops [oM 330 36,oN 331 (.call 25 [(.t 330)]),oM 329 331,oN 332 (.ext (.t 329) 0),oN 333 (.ext (.t 329) 1),oM 45 332,oM 46 333]) (.seq (.ops [oM 335 36,oN 336 (.call 26 [(.t 335)]),oM 334 336,oN 337 (.ext (.t 334) 0),oN 338 (.ext (.t 334) 1),oM 47 337,oM 48 338]) (.seq (.ops [oM 340 36,oN 341 (.call 27 [(.t 340)]),oM 339 341,oN 342 (.ext (.t 339) 0),oN 343 (.ext (.t 339) 1),oN 344 (.ext (.t 339) 2),oM 49 342,oM 50 343,oM 51 344]) (.seq (.ops [oM 346 36,oN 347 (.call 28 [(.t 346)]),oM 345 347,oN 348 (.ext (.t 345) 0),oN 349 (.ext (.t 345) 1),oN 350 (.ext (.t 345) 2),oM 52 348,oM 53 349,oM 54 350]) (.seq (.ops [oM 352 36,oN 353 (.call 29 [(.t 352)]),oM 351 353,oN 354 (.ext (.t 351) 0),oN 355 (.ext (.t 351) 1),oM 55 354,oM 56 355]) (.seq (.ops [oM 357 36,oN 358 (.call 30 [(.t 357)]),oM 356 358,oN 359 (.ext (.t 356) 0),oN 360 (.ext (.t 356) 1),oM 57 359,oM 58 360]) (.seq (.seq (.ops [oM 361 38,oM 362 40,oN 363 (.beq true (.t 361) (.t 362)),oM 364 363,mF 365 37 364,mF 366 39 364,oF 367 (.call 16 [(.t 365),(.t 366)]) 364,oF 368 (.not (.t 367)) 364,oN 369 (.pick (.t 364) (.c (.bool true)) (.t 368)),oM 370 369,mF 371 42 370,mF 372 44 370,oF 373 (.beq true (.t 371) (.t 372)) 370,oN 374 (.pick (.t 370) (.c (.bool true)) (.t 373)),oM 375 374,mF 376 41 375,mF 377 43 375,oF 378 (.call 16 [(.t 376),(.t 377)]) 375,oF 379 (.not (.t 378)) 375,oN 380 (.pick (.t 375) (.c (.bool true)) (.t 379)),oM 381 380,mF 382 46 381,mF 383 48 381,oF 384 (.beq true (.t 382) (.t 383)) 381,oN 385 (.pick (.t 381) (.c (.bool true)) (.t 384)),oM 386 385,mF 387 45 386,mF 388 47 386,oF 389 (.bin .neq (.t 387) (.t 388)) 386,oN 390 (.pick (.t 386) (.c (.bool true)) (.t 389)),oM 391 390,mF 392 51 391,mF 393 54 391,oF 394 (.beq true (.t 392) (.t 393)) 391,oN 395 (.pick (.t 391) (.c (.bool true)) (.t 394)),oM 396 395,mF 397 49 396,mF 398 52 396,oF 399 (.call 16 [(.t 397),(.t 398)]) 396,oF 400 (.not (.t 399)) 396,oN 401 (.pick (.t 396) (.c (.bool true)) (.t 400)),oM 402 401,mF 403 50 402,mF 404 53 402,oF 405 (.call 16 [(.t 403),(.t 404)]) 402,oF 406 (.not (.t 405)) 402,oN 407 (.pick (.t 402) (.c (.bool true)) (.t 406)),oM 408 407,mF 409 56 408,mF 410 58 408,oF 411 (.beq true (.t 409) (.t 410)) 408,oN 412 (.pick (.t 408) (.c (.bool true)) (.t 411)),oM 413 412,mF 414 55 413,mF 415 57 413,oF 416 (.call 31 [(.t 414),(.t 415)]) 413,oF 417 (.not (.t 416)) 413,oN 418 (.pick (.t 413) (.c (.bool true)) (.t 417)),oM 419 418,mF 420 38 419,mF 421 36 419,oF 422 (.call 17 [(.t 421)]) 419,oF 423 (.beq true (.t 420) (.t 422)) 419,oN 424 (.pick (.t 419) (.c (.bool true)) (.t 423)),oM 425 424,mF 426 42 425,mF 427 38 425,oF 428 (.beq true (.t 426) (.t 427)) 425,oN 429 (.pick (.t 425) (.c (.bool true)) (.t 428)),oM 430 429,mF 431 46 430,mF 432 38 430,oF 433 (.beq true (.t 431) (.t 432)) 430,oN 434 (.pick (.t 430) (.c (.bool true)) (.t 433)),oM 435 434,mF 436 51 435,mF 437 38 435,oF 438 (.beq true (.t 436) (.t 437)) 435,oN 439 (.pick (.t 435) (.c (.bool true)) (.t 438)),oM 440 439,mF 441 56 440,mF 442 38 440,oF 443 (.beq true (.t 441) (.t 442)) 440,oN 444 (.pick (.t 440) (.c (.bool true)) (.t 443))]) (.cond (.t 444) (.seq (.ops [oN 4 (.mov (.c (.bool false)))]) .ret) .skip)) (.seq (.seq (.ops [oM 445 38]) (.cond (.t 445) (.seq (.ops [oM 447 36,oN 448 (.call 32 [(.t 447)]),oM 446 448,oN 449 (.ext (.t 446) 0),oN 450 (.ext (.t 446) 1),oM 59 449,oM 60 450]) (.seq (.ops [oN 61 (.mov (.c (.int .i64 0)))]) (.seq (.seq (.ops [oM 451 37,oN 452 (.len (.t 451)),oN 453 (.mov (.c (.int .i64 0)))]) (.block 2 (.loop (.seq (.ops [oN 454 (.bin .lss (.t 453) (.t 452))]) (.seq (.cond (.t 454) .skip (.exit 2)) (.seq (.block 3 (.seq (.ops [oM 455 453,oN 456 (.idx 1 (.t 451) (.t 453)),oN 457 (.ld none (.t 456)),oM 62 455,oM 63 457]) (.ops [oM 458 61,oM 459 62,oM 460 63,oN 461 (.bin .mul (.t 459) (.t 460)),oN 462 (.bin .add (.t 458) (.t 461)),oM 61 462]))) (.ops [oN 463 (.bin .add (.t 453) (.c (.int .i64 1))),oM 453 463]))))))) (.seq (.seq (.tree (.take (oM 464 60) (.take (oN 465 (.not (.t 464))) (.take (oM 466 465) (.take (mF 467 37 466) (.take (oF 468 (.len (.t 467)) 466) (.take (mF 469 59 466) (.take (oF 470 (.bin .add (.t 469) (.c (.int .i64 1))) 466) (.take (oF 471 (.bin .neq (.t 468) (.t 470)) 466) (.take (oN 472 (.pick (.t 466) (.c (.bool true)) (.t 471))) (.take (oM 473 472) (.take (mF 474 41 473) (.take (oF 475 (.len (.t 474)) 473) (.take (mF 476 59 473) (.take (oF 477 (.bin .add (.t 476) (.c (.int .i64 1))) 473) (.take (oF 478 (.bin .neq (.t 475) (.t 477)) 473) (.take (oN 479 (.pick (.t 473) (.c (.bool true)) (.t 478))) (.take (oM 480 479) (.take (mF 481 37 480) (.take (oF 482 (.call 33 [(.t 481)]) 480) (.take (mF 483 59 480) (.take (oF 484 (.call 34 [(.t 483)]) 480) (.take (oF 485 (.bin .neq (.t 482) (.t 484)) 480) (.take (oN 486 (.pick (.t 480) (.c (.bool true)) (.t 485))) (.take (oM 487 486) (.take (mF 488 61 487) (.take (mF 489 55 487) (.take (oF 490 (.len (.t 489)) 487) (.take (mF 491 59 487) (.take (oF 492 (.bin .sub (.t 491) (.c (.int .i64 1))) 487) (.take (oF 493 (.call 34 [(.t 492)]) 487) (.take (oF 494 (.bin .mul (.t 490) (.t 493)) 487) (.take (oF 495 (.bin .neq (.t 488) (.t 494)) 487) (.take (oN 496 (.pick (.t 487) (.c (.bool true)) (.t 495))) (.take (oM 497 496) (.take (mF 498 41 497) (.take (oF 499 (.idx 1 (.t 498) (.c (.int .i64 0))) 497) (.take (oF 500 (.ld none (.t 499)) 497) (.take (oF 501 (.bin .neq (.t 500) (.c (.int .i64 1))) 497) (.take (oN 502 (.pick (.t 497) (.c (.bool true)) (.t 501))) (.take (oM 503 502) (.take (mF 504 41 503) (.take (oF 505 (.idx 1 (.t 504) (.c (.int .i64 1))) 503) (.take (oF 506 (.ld none (.t 505)) 503) (.take (mF 507 55 503) (.take (oF 508 (.len (.t 507)) 503) (.take (oF 509 (.bin .neq (.t 506) (.t 508)) 503) (.take (oN 510 (.pick (.t 503) (.c (.bool true)) (.t 509))) (.take (oM 511 510) (.take (mF 512 37 511) (.take (mF 513 59 511) (.take (oF 514 (.idx 1 (.t 512) (.t 513)) 511) (.take (oF 515 (.ld none (.t 514)) 511) (.take (mF 516 41 511) (.take (mF 517 59 511) (.take (oF 518 (.idx 1 (.t 516) (.t 517)) 511) (.take (oF 519 (.ld none (.t 518)) 511) (.take (oF 520 (.bin .neq (.t 515) (.t 519)) 511) (.take (oN 521 (.pick (.t 511) (.c (.bool true)) (.t 520))) (.take (oM 522 521) (.take (mF 523 41 522) (.take (mF 524 45 522) (.take (oF 525 (.idx 1 (.t 523) (.t 524)) 522) (.take (oF 526 (.ld none (.t 525)) 522) (.take (oF 527 (.bin .lss (.t 526) (.c (.int .i64 1))) 522) (.take (oN 528 (.pick (.t 522) (.c (.bool true)) (.t 527))) (.take (oM 529 528) (.take (mF 530 45 529) (.take (mF 531 59 529) (.take (oF 532 (.bin .lss (.t 530) (.t 531)) 529) (.take (mF 533 532 529) (.take (mT 534 41 533) (.take (mT 535 45 533) (.take (oT 536 (.bin .add (.t 535) (.c (.int .i64 1))) 533) (.take (oT 537 (.idx 1 (.t 534) (.t 536)) 533) (.take (oT 538 (.ld none (.t 537)) 533) (.take (oT 539 (.bin .neq (.t 538) (.c (.int .i64 0))) 533) (.take (oF 540 (.pick (.t 533) (.t 539) (.c (.bool false))) 529) (.take (oN 541 (.pick (.t 529) (.c (.bool true)) (.t 540))) (.take (oM 542 541) (.take (mF 543 49 542) (.take (oF 544 (.len (.t 543)) 542) (.take (mF 545 50 542) (.take (oF 546 (.len (.t 545)) 542) (.take (oF 547 (.bin .add (.t 544) (.t 546)) 542) (.take (mF 548 45 542) (.take (oF 549 (.bin .neq (.t 547) (.t 548)) 542) (.take (oN 550 (.pick (.t 542) (.c (.bool true)) (.t 549))) (.take (oM 551 550) (.take (mF 552 49 551) (.take (oF 553 (.call 35 [(.t 552)]) 551) (.take (oF 554 (.not (.t 553)) 551) (.take (oN 555 (.pick (.t 551) (.c (.bool true)) (.t 554))) (.take (oM 556 555) (.take (mF 557 50 556) (.take (oF 558 (.call 35 [(.t 557)]) 556) (.take (oF 559 (.not (.t 558)) 556) (.take (oN 560 (.pick (.t 556) (.c (.bool true)) (.t 559))) .done)))))))))))))))))))))))))))))))))))))))))))))))))))))))))))))))))))))))))))))))))))))))))))))))))) (.cond (.t 560) (.seq (.ops [oN 4 (.mov (.c (.bool false)))]) .ret) .skip)) (.seq (.ops [oM 561 55,oN 562 (.len (.t 561)),oN 563 (.mov (.c (.int .i64 0)))]) (.block 4 (.loop (.seq (.ops [oN 564 (.bin .lss (.t 563) (.t 562))]) (.seq (.cond (.t 564) .skip (.exit 4)) (.seq (.block 5 (.seq (.ops [oN 565 (.idx 1 (.t 561) (.t 563)),oN 566 (.ld none (.t 565)),oM 65 566]) (.seq (.ops [oM 567 49,oM 568 65,oN 569 (.idx 1 (.t 568) (.c (.int .i64 0))),oN 570 (.ld none (.t 569)),oN 571 (.call 36 [(.t 567),(.t 570)]),oN 572 (.not (.t 571)),oM 573 572,mT 574 50 573,mT 575 65 573,oT 576 (.idx 1 (.t 575) (.c (.int .i64 1))) 573,oT 577 (.ld none (.t 576)) 573,oT 578 (.call 36 [(.t 574),(.t 577)]) 573,oT 579 (.not (.t 578)) 573,oN 580 (.pick (.t 573) (.t 579) (.c (.bool false)))]) (.cond (.t 580) (.seq (.ops [oN 4 (.mov (.c (.bool false)))]) .ret) .skip)))) (.ops [oN 581 (.bin .add (.t 563) (.c (.int .i64 1))),oM 563 581]))))))))))) .skip)) (.seq (.ops [oN 4 (.mov (.c (.bool true)))]) .ret)))))))))))))))))))))))))))))))
theorem cc3 : ccode Tryz.prog (min Tryz.f3.ntmps pbase) (Tryz.f3.body.getD .skip) = some ac3 := by kernel_rfl
def ac4 : ACode := (.seq (.ops [oN 4 (.mov (.c (.bool false)))]) (.seq (.ops [oM 5 0,oN 6 (.len (.t 5)),oN 7 (.bin .gtr (.t 6) (.c (.int .i64 1048576))),oM 8 7,mF 9 1 8,oF 10 (.len (.t 9)) 8,mF 11 0 8,oF 12 (.len (.t 11)) 8,oF 13 (.bin .sub (.c (.int .i64 1048576)) (.t 12)) 8,oF 14 (.bin .gtr (.t 10) (.t 13)) 8,oN 15 (.pick (.t 8) (.c (.bool true)) (.t 14)),oM 4 15]) .ret))
theorem cc4 : ccode Tryz.prog (min Tryz.f4.ntmps pbase) (Tryz.f4.body.getD .skip) = some ac4 := by kernel_rfl
def ac5 : ACode := (.seq (.ops [oN 2 (.mov (.c (.string (.mk #[])))),oN 3 (.nils 1)]) (.seq (.ops [oM 4 0,oN 5 (.call 37 [(.t 4)]),oN 6 (.ext (.t 5) 0),oN 7 (.ext (.t 5) 1),oM 2 6,oM 3 7]) .ret))
theorem cc5 : ccode Tryz.prog (min Tryz.f5.ntmps pbase) (Tryz.f5.body.getD .skip) = some ac5 := by kernel_rfl
def ac6 : ACode := (.seq (.ops [oN 4 (.nils 1),oN 5 (.mov (.c (.bool false)))]) (.seq (.ops [oM 9 0,oM 10 1,oN 11 (.call 38 [(.t 9),(.t 10)]),oM 8 11,oN 12 (.ext (.t 8) 0),oN 13 (.ext (.t 8) 1),oN 6 (.alloc [(.int .i64 0),(.map none)]),⟨none,(.st 2 (.t 6) (.t 12)),none⟩,oM 7 13]) (.seq (.seq (.ops [oM 14 7,oN 15 (.not (.t 14))]) (.cond (.t 15) (.seq (.ops [oN 4 (.nils 1),oN 5 (.mov (.c (.bool false)))]) .ret) .skip)) (.seq (.ops [oM 16 1,oN 17 (.ld (some 2) (.t 6)),oN 18 (.mkf 40 1 [(.t 17)]),oN 19 (.call 39 [(.t 16),(.t 18)]),oN 20 (.ext (.t 19) 0),oN 21 (.ext (.t 19) 1),oM 4 20,oM 5 21]) .ret))))
theorem cc6 : ccode Tryz.prog (min Tryz.f6.ntmps pbase) (Tryz.f6.body.getD .skip) = some ac6 := by kernel_rfl
def ac7 : ACode := (.seq (.ops [oN 4 (.nils 1),oN 5 (.mov (.c (.bool false)))]) (.seq (.seq (.ops [oM 7 0,oM 8 1,oN 9 (.call 41 [(.t 7),(.t 8)]),oN 10 (.not (.t 9))]) (.cond (.t 10) (.seq (.ops [oN 4 (.nils 1),oN 5 (.mov (.c (.bool false)))]) .ret) .skip)) (.seq (.ops [oM 11 0,oM 12 1,oN 13 (.call 42 [(.t 11),(.c (.slice none 0 0)),(.t 12)]),oM 6 13]) (.seq (.ops [oM 14 6,oM 15 6,oN 16 (.len (.t 15)),oN 17 (.bin .gtr (.t 16) (.c (.int .i64 0))),oM 4 14,oM 5 17]) .ret))))
theorem cc7 : ccode Tryz.prog (min Tryz.f7.ntmps pbase) (Tryz.f7.body.getD .skip) = some ac7 := by kernel_rfl
def ac8 : ACode := (.seq (.ops [oN 4 (.mov (.c (.bool false))),oN 5 (.mov (.c (.bool false)))]) (.seq (.ops [oM 9 0,oM 10 1,oN 11 (.call 10 [(.t 9),(.t 10)]),oM 8 11,oN 12 (.ext (.t 8) 0),oN 13 (.ext (.t 8) 1),oM 6 12,oM 7 13]) (.seq (.ops [oM 14 7,oM 15 14,mT 16 6 15,oT 17 (.bin .eql (.t 16) (.c (.int .i64 0))) 15,oN 18 (.pick (.t 15) (.t 17) (.c (.bool false))),oM 19 7,oM 4 18,oM 5 19]) .ret)))
theorem cc8 : ccode Tryz.prog (min Tryz.f8.ntmps pbase) (Tryz.f8.body.getD .skip) = some ac8 := by kernel_rfl
def ac9 : ACode := (.seq (.ops [oN 4 (.mov (.c (.bool false))),oN 5 (.mov (.c (.bool false)))]) (.seq (.seq (.ops [oM 6 0,oM 7 1,oN 8 (.call 41 [(.t 6),(.t 7)]),oN 9 (.not (.t 8))]) (.cond (.t 9) (.seq (.ops [oN 4 (.mov (.c (.bool false))),oN 5 (.mov (.c (.bool false)))]) .ret) .skip)) (.seq (.ops [oM 10 0,oM 11 1,oN 12 (.call 43 [(.t 10),(.t 11)]),oN 13 (.bin .eql (.t 12) (.c (.int .i64 0))),oM 4 13,oN 5 (.mov (.c (.bool true)))]) .ret)))
theorem cc9 : ccode Tryz.prog (min Tryz.f9.ntmps pbase) (Tryz.f9.body.getD .skip) = some ac9 := by kernel_rfl
def ac10 : ACode := (.seq (.ops [oN 4 (.mov (.c (.int .i64 0))),oN 5 (.mov (.c (.bool false)))]) (.seq (.ops [oM 12 0,oM 13 1,oN 14 (.call 38 [(.t 12),(.t 13)]),oM 11 14,oN 15 (.ext (.t 11) 0),oN 16 (.ext (.t 11) 1),oN 6 (.alloc [(.int .i64 0),(.map none)]),⟨none,(.st 2 (.t 6) (.t 15)),none⟩,oM 7 16]) (.seq (.seq (.ops [oM 17 7,oN 18 (.not (.t 17))]) (.cond (.t 18) (.seq (.ops [oN 4 (.mov (.c (.int .i64 0))),oN 5 (.mov (.c (.bool false)))]) .ret) .skip)) (.seq (.ops [oN 8 (.mov (.c (.int .i64 0)))]) (.seq (.seq (.ops [oM 19 1,oN 20 (.len (.t 19)),oN 21 (.mov (.c (.int .i64 0)))]) (.block 0 (.loop (.seq (.ops [oN 22 (.bin .lss (.t 21) (.t 20))]) (.seq (.cond (.t 22) .skip (.exit 0)) (.seq (.block 1 (.seq (.ops [oM 23 21,oN 24 (.idx 1 (.t 19) (.t 21)),oN 25 (.ld none (.t 24)),oM 9 23,oM 10 25]) (.seq (.ops [oN 26 (.fa 1 (.t 6)),oN 27 (.ld none (.t 26)),oM 28 9,oM 29 10,oN 30 (.pu (.bld [(.int .i64 0),(.int .i64 0)] [(0,1),(1,1)]) [(.t 28),(.t 29)]),oN 31 (.mgetk 58 (.bool false) false (.t 27) (.t 30))]) (.cond (.t 31) (.ops [oM 32 8,oN 33 (.bin .add (.t 32) (.c (.int .i64 1))),oM 8 33]) .skip)))) (.ops [oN 34 (.bin .add (.t 21) (.c (.int .i64 1))),oM 21 34]))))))) (.seq (.ops [oM 35 8,oM 4 35,oN 5 (.mov (.c (.bool true)))]) .ret))))))
theorem cc10 : ccode Tryz.prog (min Tryz.f10.ntmps pbase) (Tryz.f10.body.getD .skip) = some ac10 := by kernel_rfl
def ac11 : ACode := (.seq (.ops [oN 4 (.mov (.c (.int .i64 0))),oN 5 (.mov (.c (.bool false)))]) (.seq (.seq (.ops [oM 6 0,oM 7 1,oN 8 (.call 41 [(.t 6),(.t 7)]),oN 9 (.not (.t 8))]) (.cond (.t 9) (.seq (.ops [oN 4 (.mov (.c (.int .i64 0))),oN 5 (.mov (.c (.bool false)))]) .ret) .skip)) (.seq (.ops [oM 10 0,oM 11 1,oN 12 (.call 43 [(.t 10),(.t 11)]),oM 4 12,oN 5 (.mov (.c (.bool true)))]) .ret)))
theorem cc11 : ccode Tryz.prog (min Tryz.f11.ntmps pbase) (Tryz.f11.body.getD .skip) = some ac11 := by kernel_rfl
def ac12 : ACode := (.seq (.ops [oN 2 (.nils 1),oN 3 (.mov (.c (.bool false)))]) (.seq (.ops [oM 7 0,oN 8 (.call 44 [(.t 7)]),oM 6 8,oN 9 (.ext (.t 6) 0),oN 10 (.ext (.t 6) 1),oN 4 (.alloc [(.int .i64 0),(.map none)]),⟨none,(.st 2 (.t 4) (.t 9)),none⟩,oM 5 10]) (.seq (.seq (.ops [oM 11 5,oN 12 (.not (.t 11))]) (.cond (.t 12) (.seq (.ops [oN 2 (.nils 1),oN 3 (.mov (.c (.bool false)))]) .ret) .skip)) (.seq (.ops [oN 13 (.fa 0 (.t 4)),oN 14 (.ld none (.t 13)),oN 15 (.ld (some 2) (.t 4)),oN 16 (.mkf 40 1 [(.t 15)]),oN 17 (.call 45 [(.t 14),(.t 16)]),oN 18 (.ext (.t 17) 0),oN 19 (.ext (.t 17) 1),oM 2 18,oM 3 19]) .ret))))
theorem cc12 : ccode Tryz.prog (min Tryz.f12.ntmps pbase) (Tryz.f12.body.getD .skip) = some ac12 := by kernel_rfl
def ac13 : ACode := (.seq (.ops [oN 2 (.nils 1),oN 3 (.mov (.c (.bool false)))]) (.seq (.seq (.ops [oM 5 0,oN 6 (.call 46 [(.t 5)]),oN 7 (.not (.t 6))]) (.cond (.t 7) (.seq (.ops [oN 2 (.nils 1),oN 3 (.mov (.c (.bool false)))]) .ret) .skip)) (.seq (.ops [oM 8 0,oN 9 (.call 42 [(.t 8),(.c (.slice none 0 0)),(.c (.slice none 0 0))]),oM 4 9]) (.seq (.ops [oM 10 4,oM 11 4,oN 12 (.len (.t 11)),oN 13 (.bin .gtr (.t 12) (.c (.int .i64 0))),oM 2 10,oM 3 13]) .ret))))
theorem cc13 : ccode Tryz.prog (min Tryz.f13.ntmps pbase) (Tryz.f13.body.getD .skip) = some ac13 := by kernel_rfl
def ac14 : ACode := (.seq (.ops [oN 2 (.mov (.c (.int .i64 0))),oN 3 (.mov (.c (.bool false)))]) (.seq (.ops [oM 7 0,oN 8 (.call 44 [(.t 7)]),oM 6 8,oN 9 (.ext (.t 6) 0),oN 10 (.ext (.t 6) 1),oN 4 (.alloc [(.int .i64 0),(.map none)]),⟨none,(.st 2 (.t 4) (.t 9)),none⟩,oM 5 10]) (.seq (.seq (.ops [oM 11 5,oN 12 (.not (.t 11))]) (.cond (.t 12) (.seq (.ops [oN 2 (.mov (.c (.int .i64 0))),oN 3 (.mov (.c (.bool false)))]) .ret) .skip)) (.seq (.ops [oN 13 (.ld (some 2) (.t 4)),oN 14 (.call 47 [(.t 13)]),oN 15 (.idx 1 (.t 14) (.c (.int .i64 0))),oN 16 (.ld none (.t 15)),oM 2 16,oN 3 (.mov (.c (.bool true)))]) .ret))))
theorem cc14 : ccode Tryz.prog (min Tryz.f14.ntmps pbase) (Tryz.f14.body.getD .skip) = some ac14 := by kernel_rfl
def ac15 : ACode := (.seq (.ops [oN 2 (.mov (.c (.int .i64 0))),oN 3 (.mov (.c (.bool false)))]) (.seq (.seq (.ops [oM 4 0,oN 5 (.call 46 [(.t 4)]),oN 6 (.not (.t 5))]) (.cond (.t 6) (.seq (.ops [oN 2 (.mov (.c (.int .i64 0))),oN 3 (.mov (.c (.bool false)))]) .ret) .skip)) (.seq (.ops [oM 7 0,oN 8 (.call 48 [(.t 7)]),oN 9 (.idx 1 (.t 8) (.c (.int .i64 0))),oN 10 (.ld none (.t 9)),oM 2 10,oN 3 (.mov (.c (.bool true)))]) .ret)))
theorem cc15 : ccode Tryz.prog (min Tryz.f15.ntmps pbase) (Tryz.f15.body.getD .skip) = some ac15 := by kernel_rfl
def ac16 : ACode := (.seq (.ops [oN 4 (.mov (.c (.bool false)))]) (.seq (.seq (.ops [oM 6 0,oN 7 (.len (.t 6)),oM 8 1,oN 9 (.len (.t 8)),oN 10 (.bin .neq (.t 7) (.t 9))]) (.cond (.t 10) (.seq (.ops [oN 4 (.mov (.c (.bool false)))]) .ret) .skip)) (.seq (.seq (.ops [oM 11 0,oN 12 (.len (.t 11)),oN 13 (.mov (.c (.int .i64 0)))]) (.block 0 (.loop (.seq (.ops [oN 14 (.bin .lss (.t 13) (.t 12))]) (.seq (.cond (.t 14) .skip (.exit 0)) (.seq (.block 1 (.seq (.ops [oM 15 13,oM 5 15]) (.seq (.tree (.take (oM 16 0) (.take (oM 17 5) (.take (oN 18 (.idx 1 (.t 16) (.t 17))) (.take (oN 19 (.ld none (.t 18))) (.take (oM 20 1) (.take (oM 21 5) (.take (oN 22 (.idx 1 (.t 20) (.t 21))) (.take (oN 23 (.ld none (.t 22))) (.take (oN 24 (.bin .neq (.t 19) (.t 23))) .done)))))))))) (.cond (.t 24) (.seq (.ops [oN 4 (.mov (.c (.bool false)))]) .ret) .skip)))) (.ops [oN 25 (.bin .add (.t 13) (.c (.int .i64 1))),oM 13 25]))))))) (.seq (.ops [oN 4 (.mov (.c (.bool true)))]) .ret))))
theorem cc16 : ccode Tryz.prog (min Tryz.f16.ntmps pbase) (Tryz.f16.body.getD .skip) = some ac16 := by kernel_rfl
def ac17 : ACode := (.seq (.ops [oN 2 (.mov (.c (.bool false)))]) (.seq (.ops [oM 6 0,oN 7 (.call 44 [(.t 6)]),oM 5 7,oN 8 (.ext (.t 5) 0),oN 9 (.ext (.t 5) 1),oN 3 (.alloc [(.int .i64 0),(.map none)]),⟨none,(.st 2 (.t 3) (.t 8)),none⟩,oM 4 9]) (.seq (.ops [oM 10 4,oM 2 10]) .ret)))
theorem cc17 : ccode Tryz.prog (min Tryz.f17.ntmps pbase) (Tryz.f17.body.getD .skip) = some ac17 := by kernel_rfl
def ac18 : ACode := (.seq (.ops [oN 2 (.mov (.c (.bool false)))]) (.seq (.ops [oM 3 0,oN 4 (.call 46 [(.t 3)]),oM 2 4]) .ret))
theorem cc18 : ccode Tryz.prog (min Tryz.f18.ntmps pbase) (Tryz.f18.body.getD .skip) = some ac18 := by kernel_rfl
def ac19 : ACode := (.seq (.ops [oN 4 (.mov (.c (.bool false)))]) (.seq (.seq (.ops [oN 5 (.mov (.c (.int .i64 0)))]) (.block 0 (.loop (.seq (.seq (.ops [oM 6 5,oM 7 0,oN 8 (.len (.t 7)),oN 9 (.bin .lss (.t 6) (.t 8)),oM 10 9,mT 11 5 10,mT 12 1 10,oT 13 (.len (.t 12)) 10,oT 14 (.bin .lss (.t 11) (.t 13)) 10,oN 15 (.pick (.t 10) (.t 14) (.c (.bool false)))]) (.cond (.t 15) .skip (.exit 0))) (.seq (.block 1 (.seq (.tree (.take (oM 18 0) (.take (oM 19 5) (.take (oN 20 (.idx 1 (.t 18) (.t 19))) (.take (oN 21 (.ld none (.t 20))) (.take (oM 22 1) (.take (oM 23 5) (.take (oN 24 (.idx 1 (.t 22) (.t 23))) (.take (oN 25 (.ld none (.t 24))) (.take (oN 26 (.bin .neq (.t 21) (.t 25))) .done)))))))))) (.cond (.t 26) (.seq (.tree (.take (oM 27 0) (.take (oM 28 5) (.take (oN 29 (.idx 1 (.t 27) (.t 28))) (.take (oN 30 (.ld none (.t 29))) (.take (oM 31 1) (.take (oM 32 5) (.take (oN 33 (.idx 1 (.t 31) (.t 32))) (.take (oN 34 (.ld none (.t 33))) (.take (oN 35 (.bin .lss (.t 30) (.t 34))) (.take (oM 4 35) .done))))))))))) .ret) .skip))) (.ops [oM 16 5,oN 17 (.bin .add (.t 16) (.c (.int .i64 1))),oM 5 17])))))) (.seq (.ops [oM 36 0,oN 37 (.len (.t 36)),oM 38 1,oN 39 (.len (.t 38)),oN 40 (.bin .lss (.t 37) (.t 39)),oM 4 40]) .ret)))
theorem cc19 : ccode Tryz.prog (min Tryz.f19.ntmps pbase) (Tryz.f19.body.getD .skip) = some ac19 := by kernel_rfl
def ac20 : ACode := (.seq (.ops [oN 2 (.mov (.c (.string (.mk #[]))))]) (.seq (.ops [oM 3 0,oN 4 (.call 49 [(.t 3)]),oM 2 4]) .ret))
theorem cc20 : ccode Tryz.prog (min Tryz.f20.ntmps pbase) (Tryz.f20.body.getD .skip) = some ac20 := by kernel_rfl
def ac21 : ACode := (.seq (.ops [oN 2 (.nils 1),oN 3 (.mov (.c (.bool false)))]) (.seq (.ops [oM 7 0,oN 8 (.call 44 [(.t 7)]),oM 6 8,oN 9 (.ext (.t 6) 0),oN 10 (.ext (.t 6) 1),oN 4 (.alloc [(.int .i64 0),(.map none)]),⟨none,(.st 2 (.t 4) (.t 9)),none⟩,oM 5 10]) (.seq (.seq (.ops [oM 11 5,oN 12 (.not (.t 11))]) (.cond (.t 12) (.seq (.ops [oN 2 (.nils 1),oN 3 (.mov (.c (.bool false)))]) .ret) .skip)) (.seq (.ops [oN 13 (.ld (some 2) (.t 4)),oN 14 (.call 47 [(.t 13)]),oM 2 14,oN 3 (.mov (.c (.bool true)))]) .ret))))
theorem cc21 : ccode Tryz.prog (min Tryz.f21.ntmps pbase) (Tryz.f21.body.getD .skip) = some ac21 := by kernel_rfl
def ac22 : ACode := (.seq (.ops [oN 2 (.nils 1),oN 3 (.mov (.c (.bool false)))]) (.seq (.seq (.ops [oM 4 0,oN 5 (.call 46 [(.t 4)]),oN 6 (.not (.t 5))]) (.cond (.t 6) (.seq (.ops [oN 2 (.nils 1),oN 3 (.mov (.c (.bool false)))]) .ret) .skip)) (.seq (.ops [oM 7 0,oN 8 (.call 48 [(.t 7)]),oM 2 8,oN 3 (.mov (.c (.bool true)))]) .ret)))
theorem cc22 : ccode Tryz.prog (min Tryz.f22.ntmps pbase) (Tryz.f22.body.getD .skip) = some ac22 := by kernel_rfl
def ac23 : ACode := (.seq (.ops [oN 2 (.nils 1),oN 3 (.mov (.c (.bool false)))]) (.seq (.ops [oM 7 0,oN 8 (.call 44 [(.t 7)]),oM 6 8,oN 9 (.ext (.t 6) 0),oN 10 (.ext (.t 6) 1),oN 4 (.alloc [(.int .i64 0),(.map none)]),⟨none,(.st 2 (.t 4) (.t 9)),none⟩,oM 5 10]) (.seq (.seq (.ops [oM 11 5,oN 12 (.not (.t 11))]) (.cond (.t 12) (.seq (.ops [oN 2 (.nils 1),oN 3 (.mov (.c (.bool false)))]) .ret) .skip)) (.seq (.ops [oN 13 (.ld (some 2) (.t 4)),oN 14 (.call 50 [(.t 13)]),oM 2 14,oN 3 (.mov (.c (.bool true)))]) .ret))))
theorem cc23 : ccode Tryz.prog (min Tryz.f23.ntmps pbase) (Tryz.f23.body.getD .skip) = some ac23 := by kernel_rfl
def ac24 : ACode := (.seq (.ops [oN 2 (.nils 1),oN 3 (.mov (.c (.bool false)))]) (.seq (.seq (.ops [oM 4 0,oN 5 (.call 46 [(.t 4)]),oN 6 (.not (.t 5))]) (.cond (.t 6) (.seq (.ops [oN 2 (.nils 1),oN 3 (.mov (.c (.bool false)))]) .ret) .skip)) (.seq (.ops [oM 7 0,oN 8 (.call 51 [(.t 7),(.c (.int .i64 0)),(.c (.int .i64 0))]),oM 2 8,oN 3 (.mov (.c (.bool true)))]) .ret)))
theorem cc24 : ccode Tryz.prog (min Tryz.f24.ntmps pbase) (Tryz.f24.body.getD .skip) = some ac24 := by kernel_rfl
def ac25 : ACode := (.seq (.ops [oN 2 (.mov (.c (.int .i64 0))),oN 3 (.mov (.c (.bool false)))]) (.seq (.ops [oM 9 0,oN 10 (.call 44 [(.t 9)]),oM 8 10,oN 11 (.ext (.t 8) 0),oN 12 (.ext (.t 8) 1),oN 4 (.alloc [(.int .i64 0),(.map none)]),⟨none,(.st 2 (.t 4) (.t 11)),none⟩,oM 5 12]) (.seq (.seq (.ops [oM 13 5,oN 14 (.not (.t 13))]) (.cond (.t 14) (.seq (.ops [oN 2 (.mov (.c (.int .i64 0))),oN 3 (.mov (.c (.bool false)))]) .ret) .skip)) (.seq (.ops [oN 15 (.ld (some 2) (.t 4)),oN 16 (.call 50 [(.t 15)]),oM 6 16]) (.seq (.ops [oN 17 (.fa 0 (.t 4)),oN 18 (.ld none (.t 17)),oM 7 18]) (.seq (.block 0 (.loop (.seq (.seq (.ops [oM 19 6,oM 20 7,oN 21 (.idx 1 (.t 19) (.t 20)),oN 22 (.ld none (.t 21)),oN 23 (.bin .eql (.t 22) (.c (.int .i64 0)))]) (.cond (.t 23) .skip (.exit 0))) (.block 1 (.ops [oM 24 7,oN 25 (.bin .sub (.t 24) (.c (.int .i64 1))),oM 7 25]))))) (.seq (.ops [oM 26 7,oM 2 26,oN 3 (.mov (.c (.bool true)))]) .ret)))))))
theorem cc25 : ccode Tryz.prog (min Tryz.f25.ntmps pbase) (Tryz.f25.body.getD .skip) = some ac25 := by kernel_rfl
def ac26 : ACode := (.seq (.ops [oN 2 (.mov (.c (.int .i64 0))),oN 3 (.mov (.c (.bool false)))]) (.seq (.seq (.ops [oM 4 0,oN 5 (.call 46 [(.t 4)]),oN 6 (.not (.t 5))]) (.cond (.t 6) (.seq (.ops [oN 2 (.mov (.c (.int .i64 0))),oN 3 (.mov (.c (.bool false)))]) .ret) .skip)) (.seq (.ops [oM 7 0,oN 8 (.call 52 [(.t 7)]),oM 2 8,oN 3 (.mov (.c (.bool true)))]) .ret)))
theorem cc26 : ccode Tryz.prog (min Tryz.f26.ntmps pbase) (Tryz.f26.body.getD .skip) = some ac26 := by kernel_rfl
def ac27 : ACode := (.seq (.ops [oN 2 (.nils 1),oN 3 (.nils 1),oN 4 (.mov (.c (.bool false)))]) (.seq (.ops [oM 9 0,oN 10 (.call 44 [(.t 9)]),oM 8 10,oN 11 (.ext (.t 8) 0),oN 12 (.ext (.t 8) 1),oN 5 (.alloc [(.int .i64 0),(.map none)]),⟨none,(.st 2 (.t 5) (.t 11)),none⟩,oM 6 12]) (.seq (.seq (.ops [oM 13 6,oN 14 (.not (.t 13))]) (.cond (.t 14) (.seq (.ops [oN 2 (.nils 1),oN 3 (.nils 1),oN 4 (.mov (.c (.bool false)))]) .ret) .skip)) (.seq (.ops [oN 15 (.ld (some 2) (.t 5)),oN 16 (.call 53 [(.t 15)]),oM 7 16]) (.seq (.tree (.take (oM 17 7) (.alt (.one (oN 18 (.call 54 [(.t 17)])) (.two (oN 19 (.ld (some 2) (.t 5))) (.take (oM 20 7) (.take (oN 21 (.call 55 [(.t 19),(.t 20)])) (.own (oN 22 (.call 54 [(.t 21)])) (.take (oM 2 18) (.take (oM 3 22) (.take (oN 4 (.mov (.c (.bool true)))) .done)))))) (oM 20 7) (.take (oN 19 (.ld (some 2) (.t 5))) (.take (oN 21 (.call 55 [(.t 19),(.t 20)])) (.own (oN 22 (.call 54 [(.t 21)])) (.take (oM 2 18) (.take (oM 3 22) (.take (oN 4 (.mov (.c (.bool true)))) .done)))))))) (.alt (.take (oN 19 (.ld (some 2) (.t 5))) (.own (oN 18 (.call 54 [(.t 17)])) (.take (oM 20 7) (.take (oN 21 (.call 55 [(.t 19),(.t 20)])) (.own (oN 22 (.call 54 [(.t 21)])) (.take (oM 2 18) (.take (oM 3 22) (.take (oN 4 (.mov (.c (.bool true)))) .done)))))))) (.alt (.take (oM 20 7) (.alt (.one (oN 18 (.call 54 [(.t 17)])) (.take (oN 19 (.ld (some 2) (.t 5))) (.take (oN 21 (.call 55 [(.t 19),(.t 20)])) (.own (oN 22 (.call 54 [(.t 21)])) (.take (oM 2 18) (.take (oM 3 22) (.take (oN 4 (.mov (.c (.bool true)))) .done))))))) (.take (oN 19 (.ld (some 2) (.t 5))) (.own (oN 18 (.call 54 [(.t 17)])) (.take (oN 21 (.call 55 [(.t 19),(.t 20)])) (.own (oN 22 (.call 54 [(.t 21)])) (.take (oM 2 18) (.take (oM 3 22) (.take (oN 4 (.mov (.c (.bool true)))) .done))))))))) .top))))) .ret)))))
theorem cc27 : ccode Tryz.prog (min Tryz.f27.ntmps pbase) (Tryz.f27.body.getD .skip) = some ac27 := by kernel_rfl
def ac28 : ACode := (.seq (.ops [oN 2 (.nils 1),oN 3 (.nils 1),oN 4 (.mov (.c (.bool false)))]) (.seq (.seq (.ops [oM 16 0,oN 17 (.call 46 [(.t 16)]),oN 18 (.not (.t 17))]) (.cond (.t 18) (.seq (.ops [oN 2 (.nils 1),oN 3 (.nils 1),oN 4 (.mov (.c (.bool false)))]) .ret) .skip)) (.seq (.ops [oM 19 0,oN 20 (.call 52 [(.t 19)]),oM 5 20]) (.seq (.ops [oN 6 (.nils 1),oN 7 (.nils 1)]) (.seq (.ops [oN 8 (.mov (.c (.bool false)))]) (.seq (.seq (.ops [oN 9 (.mov (.c (.int .i64 0)))]) (.block 0 (.loop (.seq (.seq (.ops [oM 21 9,oM 22 0,oN 23 (.call 56 [(.t 22)]),oN 24 (.bin .shl (.c (.int .i64 1)) (.t 23)),oN 25 (.bin .lss (.t 21) (.t 24))]) (.cond (.t 25) .skip (.exit 0))) (.seq (.block 1 (.seq (.ops [oN 10 (.nils 1),oN 11 (.nils 1)]) (.seq (.seq (.ops [oN 12 (.mov (.c (.int .i64 0)))]) (.block 2 (.loop (.seq (.seq (.ops [oM 28 12,oM 29 0,oN 30 (.call 56 [(.t 29)]),oN 31 (.bin .lss (.t 28) (.t 30))]) (.cond (.t 31) .skip (.exit 2))) (.seq (.block 3 (.seq (.ops [oM 34 9,oM 35 12,oN 36 (.bin .shr (.t 34) (.t 35)),oN 37 (.bin .and (.t 36) (.c (.int .i64 1))),oN 38 (.bin .eql (.t 37) (.c (.int .i64 1)))]) (.cond (.t 38) (.ops [oM 39 10,oM 40 12,oN 41 (.bsl 1 1 [(.int .i64 0)] [(0,(.t 40))]),oN 42 (.app 1 8 (.t 39) (.t 41)),oM 10 42]) .skip))) (.ops [oM 32 12,oN 33 (.bin .add (.t 32) (.c (.int .i64 1))),oM 12 33])))))) (.seq (.seq (.ops [oN 13 (.mov (.c (.int .i64 0)))]) (.block 4 (.loop (.seq (.seq (.ops [oM 43 13,oM 44 0,oN 45 (.call 56 [(.t 44)]),oN 46 (.bin .lss (.t 43) (.t 45))]) (.cond (.t 46) .skip (.exit 4))) (.seq (.block 5 (.seq (.ops [oN 14 (.mov (.c (.bool false)))]) (.seq (.seq (.ops [oN 15 (.mov (.c (.int .i64 0)))]) (.block 6 (.loop (.seq (.seq (.ops [oM 49 15,oM 50 0,oN 51 (.call 56 [(.t 50)]),oN 52 (.bin .lss (.t 49) (.t 51))]) (.cond (.t 52) .skip (.exit 6))) (.seq (.block 7 (.ops [oM 55 14,oM 56 55,mF 57 0 56,mF 58 15 56,mF 59 13 56,oF 60 (.call 57 [(.t 57),(.t 58),(.t 59)]) 56,mF 61 60 56,mT 62 10 61,mT 63 15 61,oT 64 (.call 58 [(.t 62),(.t 63)]) 61,oT 65 (.not (.t 64)) 61,oF 66 (.pick (.t 61) (.t 65) (.c (.bool false))) 56,oN 67 (.pick (.t 56) (.c (.bool true)) (.t 66)),oM 14 67])) (.ops [oM 53 15,oN 54 (.bin .add (.t 53) (.c (.int .i64 1))),oM 15 54])))))) (.seq (.ops [oM 68 14]) (.cond (.t 68) (.ops [oM 69 11,oM 70 13,oN 71 (.bsl 1 1 [(.int .i64 0)] [(0,(.t 70))]),oN 72 (.app 1 8 (.t 69) (.t 71)),oM 11 72]) .skip))))) (.ops [oM 47 13,oN 48 (.bin .add (.t 47) (.c (.int .i64 1))),oM 13 48])))))) (.seq (.ops [oM 73 10,oN 74 (.len (.t 73)),oM 75 11,oN 76 (.len (.t 75)),oN 77 (.bin .add (.t 74) (.t 76)),oM 78 5,oN 79 (.bin .eql (.t 77) (.t 78)),oM 80 79,mT 81 8 80,oT 82 (.not (.t 81)) 80,mT 83 82 80,mF 84 10 83,mF 85 6 83,oF 86 (.call 59 [(.t 84),(.t 85)]) 83,oT 87 (.pick (.t 83) (.c (.bool true)) (.t 86)) 80,oN 88 (.pick (.t 80) (.t 87) (.c (.bool false)))]) (.cond (.t 88) (.seq (.ops [oM 89 10,oM 6 89]) (.seq (.ops [oM 90 11,oM 7 90]) (.ops [oN 8 (.mov (.c (.bool true)))]))) .skip)))))) (.ops [oM 26 9,oN 27 (.bin .add (.t 26) (.c (.int .i64 1))),oM 9 27])))))) (.seq (.ops [oM 91 6,oM 92 7,oM 2 91,oM 3 92,oN 4 (.mov (.c (.bool true)))]) .ret)))))))
theorem cc28 : ccode Tryz.prog (min Tryz.f28.ntmps pbase) (Tryz.f28.body.getD .skip) = some ac28 := by kernel_rfl
def ac29 : ACode := (.seq (.ops [oN 2 (.nils 1),oN 3 (.mov (.c (.bool false)))]) (.seq (.ops [oM 10 0,oN 11 (.call 44 [(.t 10)]),oM 9 11,oN 12 (.ext (.t 9) 0),oN 13 (.ext (.t 9) 1),oN 4 (.alloc [(.int .i64 0),(.map none)]),⟨none,(.st 2 (.t 4) (.t 12)),none⟩,oM 5 13]) (.seq (.seq (.ops [oM 14 5,oN 15 (.not (.t 14))]) (.cond (.t 15) (.seq (.ops [oN 2 (.nils 1),oN 3 (.mov (.c (.bool false)))]) .ret) .skip)) (.seq (.ops [oN 6 (.nils 1)]) (.seq (.seq (.ops [oN 16 (.fa 0 (.t 4)),oN 17 (.ld none (.t 16)),oN 18 (.mov (.c (.int .i64 0)))]) (.block 0 (.loop (.seq (.ops [oN 19 (.bin .lss (.t 18) (.t 17))]) (.seq (.cond (.t 19) .skip (.exit 0)) (.seq (.block 1 (.seq (.ops [oM 20 18,oM 7 20]) (.seq (.ops [oN 21 (.fa 0 (.t 4)),oN 22 (.ld none (.t 21)),oN 23 (.mov (.c (.int .i64 0)))]) (.block 2 (.loop (.seq (.ops [oN 24 (.bin .lss (.t 23) (.t 22))]) (.seq (.cond (.t 24) .skip (.exit 2)) (.seq (.block 3 (.seq (.ops [oM 25 23,oM 8 25]) (.seq (.ops [oN 26 (.fa 1 (.t 4)),oN 27 (.ld none (.t 26)),oM 28 7,oM 29 8,oN 30 (.pu (.bld [(.int .i64 0),(.int .i64 0)] [(0,1),(1,1)]) [(.t 28),(.t 29)]),oN 31 (.mgetk 58 (.bool false) false (.t 27) (.t 30))]) (.cond (.t 31) (.ops [oM 32 6,oM 33 7,oM 34 8,oN 35 (.bsl 1 2 [(.int .i64 0)] [(0,(.t 33)),(1,(.t 34))]),oN 36 (.bsl 1 1 [(.slice none 0 0)] [(0,(.t 35))]),oN 37 (.app 1 24 (.t 32) (.t 36)),oM 6 37]) .skip)))) (.ops [oN 38 (.bin .add (.t 23) (.c (.int .i64 1))),oM 23 38]))))))))) (.ops [oN 39 (.bin .add (.t 18) (.c (.int .i64 1))),oM 18 39]))))))) (.seq (.ops [oM 40 6,oM 2 40,oN 3 (.mov (.c (.bool true)))]) .ret))))))
theorem cc29 : ccode Tryz.prog (min Tryz.f29.ntmps pbase) (Tryz.f29.body.getD .skip) = some ac29 := by kernel_rfl
def ac30 : ACode := (.seq (.ops [oN 2 (.nils 1),oN 3 (.mov (.c (.bool false)))]) (.seq (.seq (.ops [oM 4 0,oN 5 (.call 46 [(.t 4)]),oN 6 (.not (.t 5))]) (.cond (.t 6) (.seq (.ops [oN 2 (.nils 1),oN 3 (.mov (.c (.bool false)))]) .ret) .skip)) (.seq (.ops [oM 7 0,oN 8 (.call 60 [(.t 7)]),oM 2 8,oN 3 (.mov (.c (.bool true)))]) .ret)))
theorem cc30 : ccode Tryz.prog (min Tryz.f30.ntmps pbase) (Tryz.f30.body.getD .skip) = some ac30 := by kernel_rfl
def ac31 : ACode := (.seq (.ops [oN 4 (.mov (.c (.bool false)))]) (.seq (.seq (.ops [oM 6 0,oN 7 (.len (.t 6)),oM 8 1,oN 9 (.len (.t 8)),oN 10 (.bin .neq (.t 7) (.t 9))]) (.cond (.t 10) (.seq (.ops [oN 4 (.mov (.c (.bool false)))]) .ret) .skip)) (.seq (.seq (.ops [oM 11 0,oN 12 (.len (.t 11)),oN 13 (.mov (.c (.int .i64 0)))]) (.block 0 (.loop (.seq (.ops [oN 14 (.bin .lss (.t 13) (.t 12))]) (.seq (.cond (.t 14) .skip (.exit 0)) (.seq (.block 1 (.seq (.ops [oM 15 13,oM 5 15]) (.seq (.tree (.take (oM 16 0) (.take (oM 17 5) (.take (oN 18 (.idx 1 (.t 16) (.t 17))) (.take (oN 19 (.ld none (.t 18))) (.take (oM 20 1) (.take (oM 21 5) (.take (oN 22 (.idx 1 (.t 20) (.t 21))) (.take (oN 23 (.ld none (.t 22))) (.take (oN 24 (.call 16 [(.t 19),(.t 23)])) (.take (oN 25 (.not (.t 24))) .done))))))))))) (.cond (.t 25) (.seq (.ops [oN 4 (.mov (.c (.bool false)))]) .ret) .skip)))) (.ops [oN 26 (.bin .add (.t 13) (.c (.int .i64 1))),oM 13 26]))))))) (.seq (.ops [oN 4 (.mov (.c (.bool true)))]) .ret))))
theorem cc31 : ccode Tryz.prog (min Tryz.f31.ntmps pbase) (Tryz.f31.body.getD .skip) = some ac31 := by kernel_rfl
def ac32 : ACode := (.seq (.ops [oN 2 (.mov (.c (.int .i64 0))),oN 3 (.mov (.c (.bool false)))]) (.seq (.ops [oM 7 0,oN 8 (.call 44 [(.t 7)]),oM 6 8,oN 9 (.ext (.t 6) 0),oN 10 (.ext (.t 6) 1),oN 4 (.alloc [(.int .i64 0),(.map none)]),⟨none,(.st 2 (.t 4) (.t 9)),none⟩,oM 5 10]) (.seq (.ops [oN 11 (.fa 0 (.t 4)),oN 12 (.ld none (.t 11)),oM 13 5,oM 2 12,oM 3 13]) .ret)))
theorem cc32 : ccode Tryz.prog (min Tryz.f32.ntmps pbase) (Tryz.f32.body.getD .skip) = some ac32 := by kernel_rfl
def ac33 : ACode := (.seq (.ops [oN 2 (.mov (.c (.int .i64 0)))]) (.seq (.ops [oN 3 (.mov (.c (.int .i64 0)))]) (.seq (.seq (.ops [oM 6 0,oN 7 (.len (.t 6)),oN 8 (.mov (.c (.int .i64 0)))]) (.block 0 (.loop (.seq (.ops [oN 9 (.bin .lss (.t 8) (.t 7))]) (.seq (.cond (.t 9) .skip (.exit 0)) (.seq (.block 1 (.seq (.ops [oN 10 (.idx 1 (.t 6) (.t 8)),oN 11 (.ld none (.t 10)),oM 5 11]) (.ops [oM 12 3,oM 13 5,oN 14 (.bin .add (.t 12) (.t 13)),oM 3 14]))) (.ops [oN 15 (.bin .add (.t 8) (.c (.int .i64 1))),oM 8 15]))))))) (.seq (.ops [oM 16 3,oM 2 16]) .ret))))
theorem cc33 : ccode Tryz.prog (min Tryz.f33.ntmps pbase) (Tryz.f33.body.getD .skip) = some ac33 := by kernel_rfl
def ac34 : ACode := (.seq (.ops [oN 2 (.mov (.c (.int .i64 0)))]) (.seq (.ops [oN 3 (.mov (.c (.int .i64 1)))]) (.seq (.seq (.ops [oN 4 (.mov (.c (.int .i64 2)))]) (.block 0 (.loop (.seq (.seq (.ops [oM 5 4,oM 6 0,oN 7 (.bin .leq (.t 5) (.t 6))]) (.cond (.t 7) .skip (.exit 0))) (.seq (.block 1 (.ops [oM 10 3,oM 11 4,oN 12 (.bin .mul (.t 10) (.t 11)),oM 3 12])) (.ops [oM 8 4,oN 9 (.bin .add (.t 8) (.c (.int .i64 1))),oM 4 9])))))) (.seq (.ops [oM 13 3,oM 2 13]) .ret))))
theorem cc34 : ccode Tryz.prog (min Tryz.f34.ntmps pbase) (Tryz.f34.body.getD .skip) = some ac34 := by kernel_rfl
def ac35 : ACode := (.seq (.ops [oN 2 (.mov (.c (.bool false)))]) (.seq (.seq (.ops [oN 3 (.mov (.c (.int .i64 1)))]) (.block 0 (.loop (.seq (.seq (.ops [oM 4 3,oM 5 0,oN 6 (.len (.t 5)),oN 7 (.bin .lss (.t 4) (.t 6))]) (.cond (.t 7) .skip (.exit 0))) (.seq (.block 1 (.seq (.tree (.take (oM 10 0) (.take (oM 11 3) (.take (oN 12 (.bin .sub (.t 11) (.c (.int .i64 1)))) (.take (oN 13 (.idx 1 (.t 10) (.t 12))) (.take (oN 14 (.ld none (.t 13))) (.take (oM 15 0) (.take (oM 16 3) (.take (oN 17 (.idx 1 (.t 15) (.t 16))) (.take (oN 18 (.ld none (.t 17))) (.take (oN 19 (.bin .geq (.t 14) (.t 18))) .done))))))))))) (.cond (.t 19) (.seq (.ops [oN 2 (.mov (.c (.bool false)))]) .ret) .skip))) (.ops [oM 8 3,oN 9 (.bin .add (.t 8) (.c (.int .i64 1))),oM 3 9])))))) (.seq (.ops [oN 2 (.mov (.c (.bool true)))]) .ret)))
theorem cc35 : ccode Tryz.prog (min Tryz.f35.ntmps pbase) (Tryz.f35.body.getD .skip) = some ac35 := by kernel_rfl
def ac36 : ACode := (.seq (.ops [oN 4 (.mov (.c (.bool false)))]) (.seq (.seq (.ops [oM 7 0,oN 8 (.len (.t 7)),oN 9 (.mov (.c (.int .i64 0)))]) (.block 0 (.loop (.seq (.ops [oN 10 (.bin .lss (.t 9) (.t 8))]) (.seq (.cond (.t 10) .skip (.exit 0)) (.seq (.block 1 (.seq (.ops [oN 11 (.idx 1 (.t 7) (.t 9)),oN 12 (.ld none (.t 11)),oM 6 12]) (.seq (.ops [oM 13 6,oM 14 1,oN 15 (.bin .eql (.t 13) (.t 14))]) (.cond (.t 15) (.seq (.ops [oN 4 (.mov (.c (.bool true)))]) .ret) .skip)))) (.ops [oN 16 (.bin .add (.t 9) (.c (.int .i64 1))),oM 9 16]))))))) (.seq (.ops [oN 4 (.mov (.c (.bool false)))]) .ret)))
theorem cc36 : ccode Tryz.prog (min Tryz.f36.ntmps pbase) (Tryz.f36.body.getD .skip) = some ac36 := by kernel_rfl
def ac37 : ACode := (.seq (.ops [oN 2 (.mov (.c (.string (.mk #[])))),oN 3 (.nils 1)]) (.seq (.ops [oM 5 0,oN 6 (.pu (.bld [(.slice none 0 0),(.int .i64 0),(.int .u64 0)] [(0,1)]) [(.t 5)]),oN 7 (.box 3 (.t 6)),oM 4 7]) (.seq (.ops [oM 8 4,oN 9 (.call 61 [(.t 8)]),oN 10 (.ext (.t 9) 0),oN 11 (.ext (.t 9) 1),oM 2 10,oM 3 11]) .ret)))
theorem cc37 : ccode Tryz.prog (min Tryz.f37.ntmps pbase) (Tryz.f37.body.getD .skip) = some ac37 := by kernel_rfl
def ac38 : ACode := (.seq (.ops [oN 4 (.alloc [(.int .i64 0),(.map none)]),oN 5 (.mov (.c (.bool false)))]) (.seq (.ops [oM 9 0,oN 10 (.call 44 [(.t 9)]),oM 8 10,oN 11 (.ext (.t 8) 0),oN 12 (.ext (.t 8) 1),oN 6 (.alloc [(.int .i64 0),(.map none)]),⟨none,(.st 2 (.t 6) (.t 11)),none⟩,oM 7 12]) (.seq (.seq (.ops [oM 13 7,oN 14 (.not (.t 13)),oM 15 14,mF 16 1 15,oF 17 (.call 62 [(.t 16)]) 15,oF 18 (.not (.t 17)) 15,oN 19 (.pick (.t 15) (.c (.bool true)) (.t 18)),oM 20 19,mF 21 1 20,oF 22 (.len (.t 21)) 20,oF 23 (.fa 0 (.t 6)) 20,oF 24 (.ld none (.t 23)) 20,oF 25 (.bin .neq (.t 22) (.t 24)) 20,oN 26 (.pick (.t 20) (.c (.bool true)) (.t 25))]) (.cond (.t 26) (.seq (.ops [oN 27 (.pu (.bld [(.int .i64 0),(.map none)] []) []),⟨none,(.st 2 (.t 4) (.t 27)),none⟩,oN 5 (.mov (.c (.bool false)))]) .ret) .skip)) (.seq (.ops [oN 28 (.ld (some 2) (.t 6)),⟨none,(.st 2 (.t 4) (.t 28)),none⟩,oN 5 (.mov (.c (.bool true)))]) .ret))))
theorem cc38 : ccode Tryz.prog (min Tryz.f38.ntmps pbase) (Tryz.f38.body.getD .skip) = some ac38 := by kernel_rfl
def ac39 : ACode := (.seq (.ops [oN 4 (.nils 1),oN 5 (.mov (.c (.bool false)))]) (.seq (.ops [oN 6 (.mov (.c (.int .i64 0)))]) (.seq (.block 0 (.loop (.seq (.seq (.tree (.take (oM 7 6) (.take (oM 8 0) (.take (oN 9 (.len (.t 8))) (.take (oN 10 (.bin .sub (.t 9) (.c (.int .i64 1)))) (.take (oN 11 (.bin .lss (.t 7) (.t 10))) (.take (oM 12 11) (.take (mT 13 1 12) (.take (mT 14 0 12) (.take (mT 15 6 12) (.take (oT 16 (.cut 1 (.t 14) none (some (.t 15))) 12) (.take (mT 17 0 12) (.take (mT 18 6 12) (.take (oT 19 (.idx 1 (.t 17) (.t 18)) 12) (.take (oT 20 (.ld none (.t 19)) 12) (.take (oT 21 (.callv (.t 13) [(.t 16),(.t 20)]) 12) (.take (oN 22 (.pick (.t 12) (.t 21) (.c (.bool false)))) .done))))))))))))))))) (.cond (.t 22) .skip (.exit 0))) (.block 1 (.ops [oM 23 6,oN 24 (.bin .add (.t 23) (.c (.int .i64 1))),oM 6 24]))))) (.seq (.tree (.take (oM 25 0) (.take (oN 26 (.len (.t 25))) (.take (oM 27 0) (.take (oM 28 6) (.take (oN 29 (.cut 1 (.t 27) none (some (.t 28)))) (.take (oM 30 0) (.take (oM 31 6) (.take (oN 32 (.idx 1 (.t 30) (.t 31))) (.take (oN 33 (.ld none (.t 32))) (.take (oN 34 (.bin .add (.t 33) (.c (.int .i64 1)))) (.take (oM 35 1) (.take (oN 36 (.call 63 [(.t 26),(.t 29),(.t 34),(.t 35)])) (.take (oN 37 (.ext (.t 36) 0)) (.take (oN 38 (.ext (.t 36) 1)) (.take (oM 4 37) (.take (oM 5 38) .done))))))))))))))))) .ret))))
theorem cc39 : ccode Tryz.prog (min Tryz.f39.ntmps pbase) (Tryz.f39.body.getD .skip) = some ac39 := by kernel_rfl
def ac40 : ACode := (.seq (.ops [oN 3 (.box 2 (.t 0)),oN 6 (.mov (.c (.bool false)))]) (.seq (.ops [oN 7 (.fa 1 (.t 3)),oN 8 (.ld none (.t 7)),oM 9 1,oN 10 (.len (.t 9)),oM 11 2,oN 12 (.pu (.bld [(.int .i64 0),(.int .i64 0)] [(0,1),(1,1)]) [(.t 10),(.t 11)]),oN 13 (.mgetk 58 (.bool false) false (.t 8) (.t 12)),oN 14 (.not (.t 13)),oM 15 14,mT 16 1 15,mT 17 2 15,oT 18 (.call 64 [(.t 16),(.t 17)]) 15,oT 19 (.not (.t 18)) 15,oN 20 (.pick (.t 15) (.t 19) (.c (.bool false))),oM 6 20]) .ret))
theorem cc40 : ccode Tryz.prog (min Tryz.f40.ntmps pbase) (Tryz.f40.body.getD .skip) = some ac40 := by kernel_rfl
def ac41 : ACode := (.seq (.ops [oN 4 (.mov (.c (.bool false)))]) (.seq (.ops [oM 5 0,oN 6 (.call 46 [(.t 5)]),oM 7 6,mT 8 1 7,oT 9 (.call 65 [(.t 8)]) 7,oN 10 (.pick (.t 7) (.t 9) (.c (.bool false))),oM 11 10,mT 12 1 11,oT 13 (.len (.t 12)) 11,mT 14 0 11,oT 15 (.call 56 [(.t 14)]) 11,oT 16 (.bin .eql (.t 13) (.t 15)) 11,oN 17 (.pick (.t 11) (.t 16) (.c (.bool false))),oM 4 17]) .ret))
theorem cc41 : ccode Tryz.prog (min Tryz.f41.ntmps pbase) (Tryz.f41.body.getD .skip) = some ac41 := by kernel_rfl
def ac42 : ACode := (.seq (.ops [oN 6 (.nils 1)]) (.seq (.seq (.ops [oM 12 1,oN 13 (.len (.t 12)),oM 14 0,oN 15 (.call 56 [(.t 14)]),oN 16 (.bin .eql (.t 13) (.t 15))]) (.cond (.t 16) (.seq (.ops [oM 17 1,oN 18 (.call 66 [(.t 17)]),oM 6 18]) .ret) .skip)) (.seq (.ops [oM 19 1,oN 20 (.len (.t 19)),oM 7 20]) (.seq (.ops [oN 8 (.mov (.c (.int .i64 0)))]) (.seq (.seq (.ops [oM 21 2,oN 22 (.len (.t 21)),oN 23 (.bin .gtr (.t 22) (.c (.int .i64 0)))]) (.cond (.t 23) (.ops [oM 24 2,oM 25 7,oN 26 (.idx 1 (.t 24) (.t 25)),oN 27 (.ld none (.t 26)),oM 8 27]) .skip)) (.seq (.seq (.ops [oM 28 8,oM 9 28]) (.block 0 (.loop (.seq (.seq (.ops [oM 29 9,oM 30 0,oN 31 (.call 56 [(.t 30)]),oN 32 (.bin .lss (.t 29) (.t 31))]) (.cond (.t 32) .skip (.exit 0))) (.seq (.block 1 (.seq (.seq (.ops [oM 35 0,oM 36 7,oM 37 9,oN 38 (.call 57 [(.t 35),(.t 36),(.t 37)]),oM 39 38,mF 40 1 39,mF 41 9 39,oF 42 (.call 58 [(.t 40),(.t 41)]) 39,oN 43 (.pick (.t 39) (.c (.bool true)) (.t 42))]) (.cond (.t 43) (.exit 1) .skip)) (.seq (.ops [oM 44 2,oM 10 44]) (.seq (.seq (.ops [oM 45 2,oN 46 (.len (.t 45)),oN 47 (.bin .gtr (.t 46) (.c (.int .i64 0))),oM 48 47,mT 49 9 48,mT 50 2 48,mT 51 7 48,oT 52 (.idx 1 (.t 50) (.t 51)) 48,oT 53 (.ld none (.t 52)) 48,oT 54 (.bin .gtr (.t 49) (.t 53)) 48,oN 55 (.pick (.t 48) (.t 54) (.c (.bool false)))]) (.cond (.t 55) (.ops [oN 10 (.nils 1)]) .skip)) (.seq (.seq (.ops [oM 56 10,oN 57 (.len (.t 56)),oN 58 (.bin .gtr (.t 57) (.c (.int .i64 0))),oM 59 58,mT 60 7 59,mT 61 10 59,oT 62 (.len (.t 61)) 59,oT 63 (.bin .sub (.t 62) (.c (.int .i64 1))) 59,oT 64 (.bin .eql (.t 60) (.t 63)) 59,oN 65 (.pick (.t 59) (.t 64) (.c (.bool false)))]) (.cond (.t 65) (.exit 1) .skip)) (.seq (.ops [oM 66 0,oM 67 1,oN 68 (.call 66 [(.t 67)]),oM 69 9,oN 70 (.bsl 1 1 [(.int .i64 0)] [(0,(.t 69))]),oN 71 (.app 1 8 (.t 68) (.t 70)),oM 72 10,oN 73 (.call 42 [(.t 66),(.t 71),(.t 72)]),oM 11 73]) (.seq (.ops [oM 74 11,oN 75 (.len (.t 74)),oN 76 (.bin .gtr (.t 75) (.c (.int .i64 0)))]) (.cond (.t 76) (.seq (.ops [oM 77 11,oM 6 77]) .ret) .skip)))))))) (.ops [oM 33 9,oN 34 (.bin .add (.t 33) (.c (.int .i64 1))),oM 9 34])))))) (.seq (.ops [oN 6 (.nils 1)]) .ret)))))))
theorem cc42 : ccode Tryz.prog (min Tryz.f42.ntmps pbase) (Tryz.f42.body.getD .skip) = some ac42 := by kernel_rfl
def ac43 : ACode := (.seq (.ops [oN 4 (.mov (.c (.int .i64 0)))]) (.seq (.ops [oN 5 (.mov (.c (.int .i64 0)))]) (.seq (.seq (.ops [oM 8 1,oN 9 (.len (.t 8)),oN 10 (.mov (.c (.int .i64 0)))]) (.block 0 (.loop (.seq (.ops [oN 11 (.bin .lss (.t 10) (.t 9))]) (.seq (.cond (.t 11) .skip (.exit 0)) (.seq (.block 1 (.seq (.ops [oM 12 10,oN 13 (.idx 1 (.t 8) (.t 10)),oN 14 (.ld none (.t 13)),oM 6 12,oM 7 14]) (.seq (.ops [oM 15 0,oM 16 6,oM 17 7,oN 18 (.call 57 [(.t 15),(.t 16),(.t 17)])]) (.cond (.t 18) (.ops [oM 19 5,oN 20 (.bin .add (.t 19) (.c (.int .i64 1))),oM 5 20]) .skip)))) (.ops [oN 21 (.bin .add (.t 10) (.c (.int .i64 1))),oM 10 21]))))))) (.seq (.ops [oM 22 5,oM 4 22]) .ret))))
theorem cc43 : ccode Tryz.prog (min Tryz.f43.ntmps pbase) (Tryz.f43.body.getD .skip) = some ac43 := by kernel_rfl
def ac44 : ACode := (.seq (.ops [oN 2 (.alloc [(.int .i64 0),(.map none)]),oN 3 (.mov (.c (.bool false)))]) (.seq (.ops [oM 9 0,oN 10 (.call 67 [(.t 9),(.c (.string (.mk #[47]))),(.c (.int .i64 9))]),oM 4 10]) (.seq (.seq (.ops [oM 11 4,oN 12 (.len (.t 11)),oN 13 (.call 68 [(.t 12)]),oN 14 (.not (.t 13))]) (.cond (.t 14) (.seq (.ops [oN 15 (.pu (.bld [(.int .i64 0),(.map none)] []) []),⟨none,(.st 2 (.t 2) (.t 15)),none⟩,oN 3 (.mov (.c (.bool false)))]) .ret) .skip)) (.seq (.ops [oM 16 4,oN 17 (.len (.t 16)),oN 18 .mmk,oN 19 (.pu (.bld [(.int .i64 0),(.map none)] [(0,1),(1,1)]) [(.t 17),(.t 18)]),oN 5 (.alloc [(.int .i64 0),(.map none)]),⟨none,(.st 2 (.t 5) (.t 19)),none⟩]) (.seq (.seq (.ops [oM 20 4,oN 21 (.len (.t 20)),oN 22 (.mov (.c (.int .i64 0)))]) (.block 0 (.loop (.seq (.ops [oN 23 (.bin .lss (.t 22) (.t 21))]) (.seq (.cond (.t 23) .skip (.exit 0)) (.seq (.block 1 (.seq (.ops [oM 24 22,oN 25 (.idx 1 (.t 20) (.t 22)),oN 26 (.ld none (.t 25)),oM 6 24,oM 7 26]) (.seq (.seq (.ops [oM 27 7,oN 28 (.slen (.t 27)),oN 29 (.fa 0 (.t 5)),oN 30 (.ld none (.t 29)),oN 31 (.bin .neq (.t 28) (.t 30))]) (.cond (.t 31) (.seq (.ops [oN 32 (.pu (.bld [(.int .i64 0),(.map none)] []) []),⟨none,(.st 2 (.t 2) (.t 32)),none⟩,oN 3 (.mov (.c (.bool false)))]) .ret) .skip)) (.seq (.ops [oM 33 7,oN 34 (.slen (.t 33)),oN 35 (.mov (.c (.int .i64 0)))]) (.block 2 (.loop (.seq (.ops [oN 36 (.bin .lss (.t 35) (.t 34))]) (.seq (.cond (.t 36) .skip (.exit 2)) (.seq (.block 3 (.seq (.ops [oM 37 35,oM 8 37]) (.seq (.ops [oM 38 7,oM 39 8,oN 40 (.pu .six [(.t 38),(.t 39)])]) (.block 4 (.seq (.ops [oN 43 (.bin .eql (.t 40) (.c (.int .u8 46))),oM 42 43]) (.cond (.t 42) .skip (.seq (.ops [oN 45 (.bin .eql (.t 40) (.c (.int .u8 35))),oM 44 45]) (.cond (.t 44) (.ops [oN 46 (.fa 1 (.t 5)),oN 47 (.ld none (.t 46)),oM 48 6,oM 49 8,oN 50 (.pu (.bld [(.int .i64 0),(.int .i64 0)] [(0,1),(1,1)]) [(.t 48),(.t 49)]),⟨none,(.mputk 58 (.t 47) (.t 50) (.c (.bool true))),none⟩]) (.seq (.ops [oN 41 (.pu (.bld [(.int .i64 0),(.map none)] []) []),⟨none,(.st 2 (.t 2) (.t 41)),none⟩,oN 3 (.mov (.c (.bool false)))]) .ret))))))))) (.ops [oN 51 (.bin .add (.t 35) (.c (.int .i64 1))),oM 35 51])))))))))) (.ops [oN 52 (.bin .add (.t 22) (.c (.int .i64 1))),oM 22 52]))))))) (.seq (.ops [oN 53 (.ld (some 2) (.t 5)),⟨none,(.st 2 (.t 2) (.t 53)),none⟩,oN 3 (.mov (.c (.bool true)))]) .ret))))))
theorem cc44 : ccode Tryz.prog (min Tryz.f44.ntmps pbase) (Tryz.f44.body.getD .skip) = some ac44 := by kernel_rfl
def ac45 : ACode := (.seq (.ops [oN 4 (.nils 1),oN 5 (.mov (.c (.bool false)))]) (.seq (.ops [oM 6 0,oM 7 1,oN 8 (.call 63 [(.t 6),(.c (.slice none 0 0)),(.c (.int .i64 0)),(.t 7)]),oN 9 (.ext (.t 8) 0),oN 10 (.ext (.t 8) 1),oM 4 9,oM 5 10]) .ret))
theorem cc45 : ccode Tryz.prog (min Tryz.f45.ntmps pbase) (Tryz.f45.body.getD .skip) = some ac45 := by kernel_rfl
def ac46 : ACode := (.seq (.ops [oN 2 (.mov (.c (.bool false)))]) (.seq (.seq (.ops [oM 7 0,oN 8 (.slen (.t 7)),oN 9 (.bin .gtr (.t 8) (.c (.int .i64 72)))]) (.cond (.t 9) (.seq (.ops [oN 2 (.mov (.c (.bool false)))]) .ret) .skip)) (.seq (.ops [oM 10 0,oN 11 (.call 69 [(.t 10),(.c (.int .u8 47))]),oM 3 11]) (.seq (.seq (.ops [oM 12 3,oN 13 (.len (.t 12)),oN 14 (.call 70 [(.t 13),(.c (.int .i64 1)),(.c (.int .i64 8))]),oN 15 (.not (.t 14))]) (.cond (.t 15) (.seq (.ops [oN 2 (.mov (.c (.bool false)))]) .ret) .skip)) (.seq (.seq (.ops [oM 16 3,oN 17 (.len (.t 16)),oN 18 (.mov (.c (.int .i64 0)))]) (.block 0 (.loop (.seq (.ops [oN 19 (.bin .lss (.t 18) (.t 17))]) (.seq (.cond (.t 19) .skip (.exit 0)) (.seq (.block 1 (.seq (.ops [oN 20 (.idx 1 (.t 16) (.t 18)),oN 21 (.ld none (.t 20)),oM 5 21]) (.seq (.seq (.ops [oM 22 5,oN 23 (.slen (.t 22)),oM 24 3,oN 25 (.len (.t 24)),oN 26 (.bin .neq (.t 23) (.t 25))]) (.cond (.t 26) (.seq (.ops [oN 2 (.mov (.c (.bool false)))]) .ret) .skip)) (.seq (.ops [oN 6 (.mov (.c (.int .i64 0)))]) (.block 2 (.loop (.seq (.seq (.ops [oM 27 6,oM 28 5,oN 29 (.slen (.t 28)),oN 30 (.bin .lss (.t 27) (.t 29))]) (.cond (.t 30) .skip (.exit 2))) (.seq (.block 3 (.seq (.ops [oM 33 5,oM 34 6,oN 35 (.pu .six [(.t 33),(.t 34)]),oN 36 (.bin .neq (.t 35) (.c (.int .u8 46))),oM 37 36,mT 38 5 37,mT 39 6 37,oT 40 (.pu .six [(.t 38),(.t 39)]) 37,oT 41 (.bin .neq (.t 40) (.c (.int .u8 35))) 37,oN 42 (.pick (.t 37) (.t 41) (.c (.bool false)))]) (.cond (.t 42) (.seq (.ops [oN 2 (.mov (.c (.bool false)))]) .ret) .skip))) (.ops [oM 31 6,oN 32 (.bin .add (.t 31) (.c (.int .i64 1))),oM 6 32]))))))))) (.ops [oN 43 (.bin .add (.t 18) (.c (.int .i64 1))),oM 18 43]))))))) (.seq (.ops [oN 2 (.mov (.c (.bool true)))]) .ret))))))
theorem cc46 : ccode Tryz.prog (min Tryz.f46.ntmps pbase) (Tryz.f46.body.getD .skip) = some ac46 := by kernel_rfl
def ac47 : ACode := (.seq (.ops [oN 1 (.box 2 (.t 0)),oN 2 (.nils 1)]) (.seq (.ops [oN 5 (.ld (some 2) (.t 1)),oN 6 (.call 50 [(.t 5)]),oM 3 6]) (.seq (.seq (.ops [oM 7 3,oN 8 (.len (.t 7)),oN 9 (.mov (.c (.int .i64 0)))]) (.block 0 (.loop (.seq (.ops [oN 10 (.bin .lss (.t 9) (.t 8))]) (.seq (.cond (.t 10) .skip (.exit 0)) (.seq (.block 1 (.seq (.ops [oM 11 9,oM 4 11]) (.tree (.take (oM 12 3) (.take (oM 13 4) (.take (oN 14 (.idx 1 (.t 12) (.t 13))) (.take (oN 15 (.ld none (.t 14))) (.take (oN 16 (.fa 0 (.t 1))) (.take (oN 17 (.ld none (.t 16))) (.take (oM 18 4) (.take (oN 19 (.bin .sub (.t 17) (.t 18))) (.take (oN 20 (.call 71 [(.t 19)])) (.take (oN 21 (.bin .mul (.t 15) (.t 20))) (.take (oN 22 (.idx 1 (.t 12) (.t 13))) (.take ⟨none,(.st 1 (.t 22) (.t 21)),none⟩ .done))))))))))))))) (.ops [oN 23 (.bin .add (.t 9) (.c (.int .i64 1))),oM 9 23]))))))) (.seq (.ops [oM 24 3,oN 25 (.call 72 [(.t 24)]),oM 2 25]) .ret))))
theorem cc47 : ccode Tryz.prog (min Tryz.f47.ntmps pbase) (Tryz.f47.body.getD .skip) = some ac47 := by kernel_rfl
def ac48 : ACode := (.seq (.ops [oN 2 (.nils 1)]) (.seq (.ops [oM 9 0,oN 10 (.call 56 [(.t 9)]),oM 3 10]) (.seq (.ops [oM 11 0,oN 12 (.call 51 [(.t 11),(.c (.int .i64 0)),(.c (.int .i64 0))]),oM 4 12]) (.seq (.ops [oM 13 3,oN 14 (.bin .add (.t 13) (.c (.int .i64 1))),oN 15 (.mk 1 8 [(.int .i64 0)] (.t 14) (.t 14)),oM 5 15]) (.seq (.seq (.ops [oM 16 3,oM 6 16]) (.block 0 (.loop (.seq (.seq (.ops [oM 17 6,oN 18 (.bin .geq (.t 17) (.c (.int .i64 0)))]) (.cond (.t 18) .skip (.exit 0))) (.seq (.block 1 (.seq (.tree (.take (oM 21 4) (.take (oM 22 6) (.take (oN 23 (.idx 1 (.t 21) (.t 22))) (.take (oN 24 (.ld none (.t 23))) (.take (oM 25 3) (.take (oM 26 6) (.take (oN 27 (.bin .sub (.t 25) (.t 26))) (.take (oN 28 (.call 73 [(.t 27)])) (.take (oN 29 (.bin .mul (.t 24) (.t 28))) (.take (oM 7 29) .done))))))))))) (.seq (.seq (.ops [oM 30 6,oN 31 (.bin .add (.t 30) (.c (.int .i64 1))),oM 8 31]) (.block 2 (.loop (.seq (.seq (.ops [oM 32 8,oM 33 3,oN 34 (.bin .leq (.t 32) (.t 33))]) (.cond (.t 34) .skip (.exit 2))) (.seq (.block 3 (.tree (.take (oM 37 7) (.take (oM 38 8) (.take (oM 39 6) (.take (oN 40 (.call 74 [(.t 38),(.t 39)])) (.take (oM 41 5) (.take (oM 42 8) (.take (oN 43 (.idx 1 (.t 41) (.t 42))) (.take (oN 44 (.ld none (.t 43))) (.take (oN 45 (.bin .mul (.t 40) (.t 44))) (.take (oN 46 (.bin .sub (.t 37) (.t 45))) (.take (oM 7 46) .done))))))))))))) (.ops [oM 35 8,oN 36 (.bin .add (.t 35) (.c (.int .i64 1))),oM 8 36])))))) (.ops [oM 47 5,oM 48 6,oM 49 7,oN 50 (.idx 1 (.t 47) (.t 48)),⟨none,(.st 1 (.t 50) (.t 49)),none⟩])))) (.ops [oM 19 6,oN 20 (.bin .sub (.t 19) (.c (.int .i64 1))),oM 6 20])))))) (.seq (.ops [oM 51 5,oM 2 51]) .ret))))))
theorem cc48 : ccode Tryz.prog (min Tryz.f48.ntmps pbase) (Tryz.f48.body.getD .skip) = some ac48 := by kernel_rfl
def ac49 : ACode := (.seq (.ops [oN 2 (.mov (.c (.string (.mk #[]))))]) (.seq (.ops [oM 4 0,oN 5 (.pu (.bld [(.slice none 0 0),(.int .i64 0),(.int .u64 0)] [(0,1)]) [(.t 4)]),oN 6 (.box 3 (.t 5)),oM 3 6]) (.seq (.ops [oM 7 3,oN 8 (.call 75 [(.t 7)]),oM 2 8]) .ret)))
theorem cc49 : ccode Tryz.prog (min Tryz.f49.ntmps pbase) (Tryz.f49.body.getD .skip) = some ac49 := by kernel_rfl
def ac50 : ACode := (.seq (.ops [oN 1 (.box 2 (.t 0)),oN 2 (.nils 1)]) (.scope (.seq (.ops [oN 14 .mmk,⟨none,(.mput .u16 (.t 14) (.c (.int .u16 0)) (.c (.int .i64 1))),none⟩,oM 15 14,oM 3 15]) (.seq (.ops [oN 16 (.fa 1 (.t 1)),oN 17 (.ld none (.t 16)),oN 18 (.call 76 [(.t 17)]),oM 4 18]) (.seq (.label 0) (.seq (.seq (.ops [oM 19 4,oN 20 (.mrg (.t 19))]) (.block 0 (.loop (.seq (.ops [oN 21 (.mnx (.t 20)),oN 22 (.ext (.t 21) 0)]) (.seq (.cond (.t 22) .skip (.exit 0)) (.block 1 (.seq (.ops [oN 23 (.ment (.t 20)),oN 24 (.ext (.t 23) 0),oN 5 (.alloc [(.int .i64 0),(.int .i64 0)]),⟨none,(.st 2 (.t 5) (.t 24)),none⟩]) (.seq (.ops [oM 25 3,oN 26 (.call 77 [(.t 25)]),oM 6 26]) (.seq (.seq (.ops [oN 27 (.fa 0 (.t 1)),oN 28 (.ld none (.t 27)),oN 29 (.mov (.c (.int .i64 0)))]) (.block 2 (.loop (.seq (.ops [oN 30 (.bin .lss (.t 29) (.t 28))]) (.seq (.cond (.t 30) .skip (.exit 2)) (.seq (.block 3 (.seq (.ops [oM 31 29,oM 7 31]) (.seq (.ops [oN 32 (.fa 0 (.t 5)),oN 33 (.ld none (.t 32)),oM 34 7,oN 35 (.pu (.bld [(.int .i64 0),(.int .i64 0)] [(0,1),(1,1)]) [(.t 33),(.t 34)]),oN 8 (.alloc [(.int .i64 0),(.int .i64 0)]),⟨none,(.st 2 (.t 8) (.t 35)),none⟩]) (.seq (.seq (.ops [oM 36 4,oN 37 (.ld (some 2) (.t 8)),oN 38 (.mgetk 58 (.bool false) false (.t 36) (.t 37)),oN 39 (.not (.t 38))]) (.cond (.t 39) (.exit 3) .skip)) (.seq (.ops [oM 40 4,oN 41 (.ld (some 2) (.t 8)),⟨none,(.mdel 58 (.t 40) (.t 41)),none⟩]) (.seq (.ops [oM 42 3,oN 43 (.mrg (.t 42))]) (.block 4 (.loop (.seq (.ops [oN 44 (.mnx (.t 43)),oN 45 (.ext (.t 44) 0)]) (.seq (.cond (.t 45) .skip (.exit 4)) (.block 5 (.seq (.ops [oN 46 (.ment (.t 43)),oN 47 (.ext (.t 46) 0),oN 48 (.ext (.t 46) 1),oM 9 47,oM 10 48]) (.seq (.ops [oM 49 9,oM 50 7,oN 51 (.call 78 [(.t 49),(.t 50)]),oN 52 (.not (.t 51))]) (.cond (.t 52) (.ops [oM 53 6,oM 54 9,oM 55 7,oN 56 (.call 79 [(.t 54),(.t 55)]),oN 57 (.mget .u16 (.int .i64 0) false (.t 53) (.t 56)),oM 58 10,oN 59 (.bin .add (.t 57) (.t 58)),⟨none,(.mput .u16 (.t 53) (.t 56) (.t 59)),none⟩]) .skip)))))))))))))) (.ops [oN 60 (.bin .add (.t 29) (.c (.int .i64 1))),oM 29 60]))))))) (.seq (.ops [oM 61 6,oM 3 61]) (.goto 0))))))))))) (.seq (.ops [oN 62 (.fa 0 (.t 1)),oN 63 (.ld none (.t 62)),oN 64 (.bin .add (.t 63) (.c (.int .i64 1))),oN 65 (.mk 1 8 [(.int .i64 0)] (.t 64) (.t 64)),oM 11 65]) (.seq (.seq (.ops [oM 66 3,oN 67 (.mrg (.t 66))]) (.block 6 (.loop (.seq (.ops [oN 68 (.mnx (.t 67)),oN 69 (.ext (.t 68) 0)]) (.seq (.cond (.t 69) .skip (.exit 6)) (.block 7 (.seq (.ops [oN 70 (.ment (.t 67)),oN 71 (.ext (.t 70) 0),oN 72 (.ext (.t 70) 1),oM 12 71,oM 13 72]) (.ops [oM 73 11,oM 74 12,oN 75 (.call 80 [(.t 74)]),oN 76 (.idx 1 (.t 73) (.t 75)),oN 77 (.ld none (.t 76)),oM 78 13,oN 79 (.bin .add (.t 77) (.t 78)),oN 80 (.idx 1 (.t 73) (.t 75)),⟨none,(.st 1 (.t 80) (.t 79)),none⟩])))))))) (.seq (.ops [oM 81 11,oM 2 81]) .ret)))))))))
theorem cc50 : ccode Tryz.prog (min Tryz.f50.ntmps pbase) (Tryz.f50.body.getD .skip) = some ac50 := by kernel_rfl
def ac51 : ACode := (.seq (.ops [oN 6 (.nils 1)]) (.seq (.ops [oM 14 0,oN 15 (.call 56 [(.t 14)]),oM 7 15]) (.seq (.ops [oM 16 7,oN 17 (.bin .add (.t 16) (.c (.int .i64 1))),oN 18 (.mk 1 8 [(.int .i64 0)] (.t 17) (.t 17)),oM 8 18]) (.seq (.seq (.ops [oM 19 1,oM 20 7,oN 21 (.bin .eql (.t 19) (.t 20))]) (.cond (.t 21) (.seq (.ops [oM 22 8,oN 23 (.idx 1 (.t 22) (.c (.int .i64 0))),⟨none,(.st 1 (.t 23) (.c (.int .i64 1))),none⟩]) (.seq (.ops [oM 24 8,oM 6 24]) .ret)) .skip)) (.seq (.seq (.ops [oM 25 0,oM 26 1,oN 27 (.bin .add (.t 26) (.c (.int .i64 1))),oM 28 2,oN 29 (.call 51 [(.t 25),(.t 27),(.t 28)]),oN 30 (.len (.t 29)),oN 31 (.mov (.c (.int .i64 0)))]) (.block 0 (.loop (.seq (.ops [oN 32 (.bin .lss (.t 31) (.t 30))]) (.seq (.cond (.t 32) .skip (.exit 0)) (.seq (.block 1 (.seq (.ops [oM 33 31,oN 34 (.idx 1 (.t 29) (.t 31)),oN 35 (.ld none (.t 34)),oM 9 33,oM 10 35]) (.ops [oM 36 8,oM 37 9,oN 38 (.idx 1 (.t 36) (.t 37)),oN 39 (.ld none (.t 38)),oM 40 10,oN 41 (.bin .add (.t 39) (.t 40)),oN 42 (.idx 1 (.t 36) (.t 37)),⟨none,(.st 1 (.t 42) (.t 41)),none⟩]))) (.ops [oN 43 (.bin .add (.t 31) (.c (.int .i64 1))),oM 31 43]))))))) (.seq (.seq (.ops [oN 11 (.mov (.c (.int .i64 0)))]) (.block 2 (.loop (.seq (.seq (.ops [oM 44 11,oM 45 7,oN 46 (.bin .lss (.t 44) (.t 45))]) (.cond (.t 46) .skip (.exit 2))) (.seq (.block 3 (.seq (.ops [oM 49 2,oM 50 11,oN 51 (.bin .shr (.t 49) (.t 50)),oN 52 (.bin .and (.t 51) (.c (.int .i64 1))),oN 53 (.bin .eql (.t 52) (.c (.int .i64 0))),oM 54 53,mT 55 0 54,mT 56 1 54,mT 57 11 54,oT 58 (.call 57 [(.t 55),(.t 56),(.t 57)]) 54,oN 59 (.pick (.t 54) (.t 58) (.c (.bool false)))]) (.cond (.t 59) (.seq (.ops [oM 60 0,oM 61 1,oN 62 (.bin .add (.t 61) (.c (.int .i64 1))),oM 63 2,oM 64 11,oN 65 (.bin .shl (.c (.int .i64 1)) (.t 64)),oN 66 (.bin .or (.t 63) (.t 65)),oN 67 (.call 51 [(.t 60),(.t 62),(.t 66)]),oN 68 (.len (.t 67)),oN 69 (.mov (.c (.int .i64 0)))]) (.block 4 (.loop (.seq (.ops [oN 70 (.bin .lss (.t 69) (.t 68))]) (.seq (.cond (.t 70) .skip (.exit 4)) (.seq (.block 5 (.seq (.ops [oM 71 69,oN 72 (.idx 1 (.t 67) (.t 69)),oN 73 (.ld none (.t 72)),oM 12 71,oM 13 73]) (.seq (.ops [oM 74 13,oN 75 (.bin .gtr (.t 74) (.c (.int .i64 0)))]) (.cond (.t 75) (.ops [oM 76 8,oM 77 12,oN 78 (.bin .add (.t 77) (.c (.int .i64 1))),oN 79 (.idx 1 (.t 76) (.t 78)),oN 80 (.ld none (.t 79)),oM 81 13,oN 82 (.bin .add (.t 80) (.t 81)),oN 83 (.idx 1 (.t 76) (.t 78)),⟨none,(.st 1 (.t 83) (.t 82)),none⟩]) .skip)))) (.ops [oN 84 (.bin .add (.t 69) (.c (.int .i64 1))),oM 69 84]))))))) .skip))) (.ops [oM 47 11,oN 48 (.bin .add (.t 47) (.c (.int .i64 1))),oM 11 48])))))) (.seq (.ops [oM 85 8,oM 6 85]) .ret)))))))
theorem cc51 : ccode Tryz.prog (min Tryz.f51.ntmps pbase) (Tryz.f51.body.getD .skip) = some ac51 := by kernel_rfl
def ac52 : ACode := (.seq (.ops [oN 2 (.mov (.c (.int .i64 0)))]) (.seq (.ops [oN 3 (.mov (.c (.int .i64 0)))]) (.seq (.seq (.ops [oM 6 0,oN 7 (.call 51 [(.t 6),(.c (.int .i64 0)),(.c (.int .i64 0))]),oN 8 (.len (.t 7)),oN 9 (.mov (.c (.int .i64 0)))]) (.block 0 (.loop (.seq (.ops [oN 10 (.bin .lss (.t 9) (.t 8))]) (.seq (.cond (.t 10) .skip (.exit 0)) (.seq (.block 1 (.seq (.ops [oM 11 9,oN 12 (.idx 1 (.t 7) (.t 9)),oN 13 (.ld none (.t 12)),oM 4 11,oM 5 13]) (.seq (.ops [oM 14 5,oN 15 (.bin .gtr (.t 14) (.c (.int .i64 0)))]) (.cond (.t 15) (.ops [oM 16 4,oM 3 16]) .skip)))) (.ops [oN 17 (.bin .add (.t 9) (.c (.int .i64 1))),oM 9 17]))))))) (.seq (.ops [oM 18 3,oM 2 18]) .ret))))
theorem cc52 : ccode Tryz.prog (min Tryz.f52.ntmps pbase) (Tryz.f52.body.getD .skip) = some ac52 := by kernel_rfl
def ac53 : ACode := (.seq (.ops [oN 1 (.box 2 (.t 0)),oN 2 (.mov (.c (.int .u16 0)))]) (.seq (.ops [oN 3 (.mov (.c (.int .u16 0)))]) (.seq (.seq (.ops [oN 6 (.fa 0 (.t 1)),oN 7 (.ld none (.t 6)),oN 8 (.bin .shl (.c (.int .u16 1)) (.t 7)),oN 9 (.mov (.c (.int .u16 0)))]) (.block 0 (.loop (.seq (.ops [oN 10 (.bin .lss (.t 9) (.t 8))]) (.seq (.cond (.t 10) .skip (.exit 0)) (.seq (.block 1 (.seq (.ops [oM 11 9,oM 4 11]) (.seq (.tree (.take (oN 12 (.ld (some 2) (.t 1))) (.take (oM 13 4) (.take (oN 14 (.call 83 [(.t 12),(.t 13)])) (.take (oN 15 (.ld (some 2) (.t 1))) (.take (oM 16 3) (.take (oN 17 (.call 83 [(.t 15),(.t 16)])) (.take (oN 18 (.call 82 [(.t 14),(.t 17)])) (.two (oM 19 4) (.two (oN 20 (.call 54 [(.t 19)])) (.take (oM 21 3) (.take (oN 22 (.call 54 [(.t 21)])) (.take (oN 23 (.call 84 [(.t 20),(.t 22)])) (.take (oN 24 (.bsl 1 2 [(.int .i64 0)] [(0,(.t 18)),(1,(.t 23))])) (.take (oN 25 (.call 81 [(.t 24)])) (.take (oM 5 25) .done)))))) (oM 21 3) (.take (oN 20 (.call 54 [(.t 19)])) (.take (oN 22 (.call 54 [(.t 21)])) (.take (oN 23 (.call 84 [(.t 20),(.t 22)])) (.take (oN 24 (.bsl 1 2 [(.int .i64 0)] [(0,(.t 18)),(1,(.t 23))])) (.take (oN 25 (.call 81 [(.t 24)])) (.take (oM 5 25) .done))))))) (oM 21 3) (.take (oM 19 4) (.take (oN 20 (.call 54 [(.t 19)])) (.take (oN 22 (.call 54 [(.t 21)])) (.take (oN 23 (.call 84 [(.t 20),(.t 22)])) (.take (oN 24 (.bsl 1 2 [(.int .i64 0)] [(0,(.t 18)),(1,(.t 23))])) (.take (oN 25 (.call 81 [(.t 24)])) (.take (oM 5 25) .done)))))))))))))))) (.seq (.ops [oM 26 5,oN 27 (.bin .lss (.t 26) (.c (.int .i64 0)))]) (.cond (.t 27) (.ops [oM 28 4,oM 3 28]) .skip))))) (.ops [oN 29 (.bin .add (.t 9) (.c (.int .u16 1))),oM 9 29]))))))) (.seq (.ops [oM 30 3,oM 2 30]) .ret))))
theorem cc53 : ccode Tryz.prog (min Tryz.f53.ntmps pbase) (Tryz.f53.body.getD .skip) = some ac53 := by kernel_rfl
def ac54 : ACode := (.seq (.ops [oN 2 (.nils 1)]) (.seq (.ops [oN 3 (.nils 1)]) (.seq (.seq (.ops [oN 5 (.mov (.c (.int .i64 0)))]) (.block 0 (.loop (.seq (.ops [oN 6 (.bin .lss (.t 5) (.c (.int .i64 12)))]) (.seq (.cond (.t 6) .skip (.exit 0)) (.seq (.block 1 (.seq (.ops [oM 7 5,oM 4 7]) (.seq (.ops [oM 8 0,oM 9 4,oN 10 (.call 78 [(.t 8),(.t 9)])]) (.cond (.t 10) (.ops [oM 11 3,oM 12 4,oN 13 (.bsl 1 1 [(.int .i64 0)] [(0,(.t 12))]),oN 14 (.app 1 8 (.t 11) (.t 13)),oM 3 14]) .skip)))) (.ops [oN 15 (.bin .add (.t 5) (.c (.int .i64 1))),oM 5 15]))))))) (.seq (.ops [oM 16 3,oM 2 16]) .ret))))
theorem cc54 : ccode Tryz.prog (min Tryz.f54.ntmps pbase) (Tryz.f54.body.getD .skip) = some ac54 := by kernel_rfl
def ac55 : ACode := (.seq (.ops [oN 2 (.box 2 (.t 0)),oN 4 (.mov (.c (.int .u16 0)))]) (.seq (.ops [oN 5 (.mov (.c (.int .u16 0)))]) (.seq (.seq (.ops [oN 7 (.fa 1 (.t 2)),oN 8 (.ld none (.t 7)),oN 9 (.mrg (.t 8))]) (.block 0 (.loop (.seq (.ops [oN 10 (.mnx (.t 9)),oN 11 (.ext (.t 10) 0)]) (.seq (.cond (.t 11) .skip (.exit 0)) (.block 1 (.seq (.ops [oN 12 (.ment (.t 9)),oN 13 (.ext (.t 12) 0),oN 6 (.alloc [(.int .i64 0),(.int .i64 0)]),⟨none,(.st 2 (.t 6) (.t 13)),none⟩]) (.seq (.ops [oM 14 1,oN 15 (.fa 0 (.t 6)),oN 16 (.ld none (.t 15)),oN 17 (.call 78 [(.t 14),(.t 16)]),oN 18 (.not (.t 17))]) (.cond (.t 18) (.ops [oM 19 5,oN 20 (.fa 1 (.t 6)),oN 21 (.ld none (.t 20)),oN 22 (.call 79 [(.t 19),(.t 21)]),oM 5 22]) .skip))))))))) (.seq (.ops [oM 23 5,oM 4 23]) .ret))))
theorem cc55 : ccode Tryz.prog (min Tryz.f55.ntmps pbase) (Tryz.f55.body.getD .skip) = some ac55 := by kernel_rfl
def ac56 : ACode := (.seq (.ops [oN 2 (.mov (.c (.int .i64 0)))]) (.seq (.ops [oM 3 0,oN 4 (.call 69 [(.t 3),(.c (.int .u8 47))]),oN 5 (.len (.t 4)),oM 2 5]) .ret))
theorem cc56 : ccode Tryz.prog (min Tryz.f56.ntmps pbase) (Tryz.f56.body.getD .skip) = some ac56 := by kernel_rfl
def ac57 : ACode := (.seq (.ops [oN 6 (.mov (.c (.bool false)))]) (.seq (.ops [oM 7 0,oM 8 1,oM 9 0,oN 10 (.call 56 [(.t 9)]),oN 11 (.bin .add (.t 10) (.c (.int .i64 1))),oN 12 (.bin .mul (.t 8) (.t 11)),oM 13 2,oN 14 (.bin .add (.t 12) (.t 13)),oN 15 (.pu .six [(.t 7),(.t 14)]),oN 16 (.bin .eql (.t 15) (.c (.int .u8 35))),oM 6 16]) .ret))
theorem cc57 : ccode Tryz.prog (min Tryz.f57.ntmps pbase) (Tryz.f57.body.getD .skip) = some ac57 := by kernel_rfl
def ac58 : ACode := (.seq (.ops [oN 4 (.mov (.c (.bool false)))]) (.seq (.seq (.ops [oM 7 0,oN 8 (.len (.t 7)),oN 9 (.mov (.c (.int .i64 0)))]) (.block 0 (.loop (.seq (.ops [oN 10 (.bin .lss (.t 9) (.t 8))]) (.seq (.cond (.t 10) .skip (.exit 0)) (.seq (.block 1 (.seq (.ops [oN 11 (.idx 1 (.t 7) (.t 9)),oN 12 (.ld none (.t 11)),oM 6 12]) (.seq (.ops [oM 13 6,oM 14 1,oN 15 (.bin .eql (.t 13) (.t 14))]) (.cond (.t 15) (.seq (.ops [oN 4 (.mov (.c (.bool true)))]) .ret) .skip)))) (.ops [oN 16 (.bin .add (.t 9) (.c (.int .i64 1))),oM 9 16]))))))) (.seq (.ops [oN 4 (.mov (.c (.bool false)))]) .ret)))
theorem cc58 : ccode Tryz.prog (min Tryz.f58.ntmps pbase) (Tryz.f58.body.getD .skip) = some ac58 := by kernel_rfl
def ac59 : ACode := (.seq (.ops [oN 4 (.mov (.c (.bool false)))]) (.seq (.seq (.ops [oN 5 (.mov (.c (.int .i64 0)))]) (.block 0 (.loop (.seq (.seq (.ops [oM 6 5,oM 7 0,oN 8 (.len (.t 7)),oN 9 (.bin .lss (.t 6) (.t 8)),oM 10 9,mT 11 5 10,mT 12 1 10,oT 13 (.len (.t 12)) 10,oT 14 (.bin .lss (.t 11) (.t 13)) 10,oN 15 (.pick (.t 10) (.t 14) (.c (.bool false)))]) (.cond (.t 15) .skip (.exit 0))) (.seq (.block 1 (.seq (.tree (.take (oM 18 0) (.take (oM 19 5) (.take (oN 20 (.idx 1 (.t 18) (.t 19))) (.take (oN 21 (.ld none (.t 20))) (.take (oM 22 1) (.take (oM 23 5) (.take (oN 24 (.idx 1 (.t 22) (.t 23))) (.take (oN 25 (.ld none (.t 24))) (.take (oN 26 (.bin .neq (.t 21) (.t 25))) .done)))))))))) (.cond (.t 26) (.seq (.tree (.take (oM 27 0) (.take (oM 28 5) (.take (oN 29 (.idx 1 (.t 27) (.t 28))) (.take (oN 30 (.ld none (.t 29))) (.take (oM 31 1) (.take (oM 32 5) (.take (oN 33 (.idx 1 (.t 31) (.t 32))) (.take (oN 34 (.ld none (.t 33))) (.take (oN 35 (.bin .lss (.t 30) (.t 34))) (.take (oM 4 35) .done))))))))))) .ret) .skip))) (.ops [oM 16 5,oN 17 (.bin .add (.t 16) (.c (.int .i64 1))),oM 5 17])))))) (.seq (.ops [oM 36 0,oN 37 (.len (.t 36)),oM 38 1,oN 39 (.len (.t 38)),oN 40 (.bin .lss (.t 37) (.t 39)),oM 4 40]) .ret)))
theorem cc59 : ccode Tryz.prog (min Tryz.f59.ntmps pbase) (Tryz.f59.body.getD .skip) = some ac59 := by kernel_rfl
def ac60 : ACode := (.seq (.ops [oN 2 (.nils 1)]) (.seq (.ops [oN 3 (.nils 1)]) (.seq (.seq (.ops [oN 4 (.mov (.c (.int .i64 0)))]) (.block 0 (.loop (.seq (.seq (.ops [oM 6 4,oM 7 0,oN 8 (.call 56 [(.t 7)]),oN 9 (.bin .lss (.t 6) (.t 8))]) (.cond (.t 9) .skip (.exit 0))) (.seq (.block 1 (.seq (.ops [oN 5 (.mov (.c (.int .i64 0)))]) (.block 2 (.loop (.seq (.seq (.ops [oM 12 5,oM 13 0,oN 14 (.call 56 [(.t 13)]),oN 15 (.bin .lss (.t 12) (.t 14))]) (.cond (.t 15) .skip (.exit 2))) (.seq (.block 3 (.seq (.ops [oM 18 0,oM 19 4,oM 20 5,oN 21 (.call 57 [(.t 18),(.t 19),(.t 20)])]) (.cond (.t 21) (.ops [oM 22 3,oM 23 4,oM 24 5,oN 25 (.bsl 1 2 [(.int .i64 0)] [(0,(.t 23)),(1,(.t 24))]),oN 26 (.bsl 1 1 [(.slice none 0 0)] [(0,(.t 25))]),oN 27 (.app 1 24 (.t 22) (.t 26)),oM 3 27]) .skip))) (.ops [oM 16 5,oN 17 (.bin .add (.t 16) (.c (.int .i64 1))),oM 5 17]))))))) (.ops [oM 10 4,oN 11 (.bin .add (.t 10) (.c (.int .i64 1))),oM 4 11])))))) (.seq (.ops [oM 28 3,oM 2 28]) .ret))))
theorem cc60 : ccode Tryz.prog (min Tryz.f60.ntmps pbase) (Tryz.f60.body.getD .skip) = some ac60 := by kernel_rfl
def ac61 : ACode := (.seq (.ops [oN 2 (.mov (.c (.string (.mk #[])))),oN 3 (.nils 1)]) (.seq (.ops [oM 9 0,oN 10 (.call 75 [(.t 9)]),oM 4 10]) (.seq (.seq (.ops [oM 11 4,oN 12 (.call 46 [(.t 11)]),oN 13 (.not (.t 12)),oM 14 13,mF 15 0 14,oF 16 (.call 85 [(.t 15),(.c (.int .i64 10))]) 14,oN 17 (.pick (.t 14) (.c (.bool true)) (.t 16))]) (.cond (.t 17) (.seq (.ops [oM 18 4,oM 19 0,oN 20 (.call 86 [(.t 19)]),oM 2 18,oM 3 20]) .ret) .skip)) (.seq (.ops [oN 5 (.nils 1)]) (.seq (.seq (.ops [oN 6 (.mov (.c (.int .i64 0)))]) (.block 0 (.loop (.seq (.seq (.ops [oM 21 6,oM 22 4,oN 23 (.call 56 [(.t 22)]),oN 24 (.bin .lss (.t 21) (.t 23))]) (.cond (.t 24) .skip (.exit 0))) (.seq (.block 1 (.seq (.ops [oM 27 0,oM 28 5,oN 29 (.len (.t 28)),oN 30 (.bin .add (.t 29) (.c (.int .i64 1))),oN 31 (.call 87 [(.t 27),(.t 30)]),oM 7 31]) (.seq (.ops [oM 32 5,oM 33 7,oN 34 (.cut 1 (.t 32) none (some (.t 33))),oN 35 (.call 66 [(.t 34)]),oM 36 6,oN 37 (.bsl 1 1 [(.int .i64 0)] [(0,(.t 36))]),oN 38 (.app 1 8 (.t 35) (.t 37)),oM 8 38]) (.ops [oM 39 8,oM 40 5,oM 41 7,oN 42 (.cut 1 (.t 40) (some (.t 41)) none),oN 43 (.app 1 8 (.t 39) (.t 42)),oM 5 43])))) (.ops [oM 25 6,oN 26 (.bin .add (.t 25) (.c (.int .i64 1))),oM 6 26])))))) (.seq (.ops [oM 44 4,oM 45 5,oM 2 44,oM 3 45]) .ret))))))
theorem cc61 : ccode Tryz.prog (min Tryz.f61.ntmps pbase) (Tryz.f61.body.getD .skip) = some ac61 := by kernel_rfl
def ac62 : ACode := (.seq (.ops [oN 2 (.mov (.c (.bool false)))]) (.seq (.ops [oM 3 0,oN 4 (.len (.t 3)),oN 5 (.call 88 [(.t 4)]),oM 6 5,mT 7 0 6,mT 8 0 6,oT 9 (.len (.t 8)) 6,oT 10 (.call 89 [(.t 7),(.t 9)]) 6,oN 11 (.pick (.t 6) (.t 10) (.c (.bool false))),oM 2 11]) .ret))
theorem cc62 : ccode Tryz.prog (min Tryz.f62.ntmps pbase) (Tryz.f62.body.getD .skip) = some ac62 := by kernel_rfl
def ac63 : ACode := (.seq (.ops [oN 8 (.nils 1),oN 9 (.mov (.c (.bool false)))]) (.scope (.seq (.ops [oM 13 1,oN 14 (.call 90 [(.t 13)]),oM 10 14]) (.seq (.ops [oM 15 2,oM 11 15]) (.seq (.label 0) (.seq (.block 0 (.loop (.block 1 (.block 2 (.seq (.ops [oM 28 10,oN 29 (.len (.t 28)),oM 30 0,oN 31 (.bin .eql (.t 29) (.t 30)),oM 27 31]) (.cond (.t 27) (.exit 0) (.seq (.ops [oM 33 11,oM 34 0,oN 35 (.bin .lss (.t 33) (.t 34)),oM 36 35,mT 37 3 36,mT 38 10 36,mT 39 11 36,oT 40 (.callv (.t 37) [(.t 38),(.t 39)]) 36,oN 41 (.pick (.t 36) (.t 40) (.c (.bool false))),oM 32 41]) (.cond (.t 32) (.seq (.ops [oM 42 10,oM 43 11,oN 44 (.bsl 1 1 [(.int .i64 0)] [(0,(.t 43))]),oN 45 (.app 1 8 (.t 42) (.t 44)),oM 10 45]) (.ops [oN 11 (.mov (.c (.int .i64 0)))])) (.seq (.ops [oM 47 11,oM 48 0,oN 49 (.bin .lss (.t 47) (.t 48)),oM 46 49]) (.cond (.t 46) (.ops [oM 50 11,oN 51 (.bin .add (.t 50) (.c (.int .i64 1))),oM 11 51]) (.seq (.ops [oM 53 10,oN 54 (.len (.t 53)),oN 55 (.bin .eql (.t 54) (.c (.int .i64 0))),oM 52 55]) (.cond (.t 52) (.seq (.ops [oN 8 (.nils 1),oN 9 (.mov (.c (.bool false)))]) .ret) (.seq (.ops [oM 16 10,oN 17 (.len (.t 16)),oN 18 (.bin .sub (.t 17) (.c (.int .i64 1))),oM 12 18]) (.seq (.ops [oM 19 10,oM 20 12,oN 21 (.idx 1 (.t 19) (.t 20)),oN 22 (.ld none (.t 21)),oN 23 (.bin .add (.t 22) (.c (.int .i64 1))),oM 11 23]) (.ops [oM 24 10,oM 25 12,oN 26 (.cut 1 (.t 24) none (some (.t 25))),oM 10 26]))))))))))))))) (.seq (.ops [oM 56 10,oM 8 56,oN 9 (.mov (.c (.bool true)))]) .ret)))))))
theorem cc63 : ccode Tryz.prog (min Tryz.f63.ntmps pbase) (Tryz.f63.body.getD .skip) = some ac63 := by kernel_rfl
def ac64 : ACode := (.seq (.ops [oN 4 (.mov (.c (.bool false)))]) (.seq (.ops [oM 5 0,oM 6 1,oN 7 (.call 91 [(.t 5),(.t 6)]),oN 8 (.bin .geq (.t 7) (.c (.int .i64 0))),oM 4 8]) .ret))
theorem cc64 : ccode Tryz.prog (min Tryz.f64.ntmps pbase) (Tryz.f64.body.getD .skip) = some ac64 := by kernel_rfl
def ac65 : ACode := (.seq (.ops [oN 2 (.mov (.c (.bool false)))]) (.seq (.seq (.ops [oM 5 0,oN 6 (.len (.t 5)),oN 7 (.call 70 [(.t 6),(.c (.int .i64 1)),(.c (.int .i64 12))]),oN 8 (.not (.t 7)),oM 9 8,mF 10 0 9,mF 11 0 9,oF 12 (.len (.t 11)) 9,oF 13 (.bin .sub (.t 12) (.c (.int .i64 1))) 9,oF 14 (.call 92 [(.t 10),(.c (.int .i64 0)),(.t 13)]) 9,oF 15 (.not (.t 14)) 9,oN 16 (.pick (.t 9) (.c (.bool true)) (.t 15))]) (.cond (.t 16) (.seq (.ops [oN 2 (.mov (.c (.bool false)))]) .ret) .skip)) (.seq (.seq (.ops [oM 17 0,oN 18 (.len (.t 17)),oN 19 (.mov (.c (.int .i64 0)))]) (.block 0 (.loop (.seq (.ops [oN 20 (.bin .lss (.t 19) (.t 18))]) (.seq (.cond (.t 20) .skip (.exit 0)) (.seq (.block 1 (.seq (.ops [oM 21 19,oN 22 (.idx 1 (.t 17) (.t 19)),oN 23 (.ld none (.t 22)),oM 3 21,oM 4 23]) (.seq (.ops [oM 24 0,oM 25 3,oN 26 (.cut 1 (.t 24) none (some (.t 25))),oM 27 4,oN 28 (.call 58 [(.t 26),(.t 27)])]) (.cond (.t 28) (.seq (.ops [oN 2 (.mov (.c (.bool false)))]) .ret) .skip)))) (.ops [oN 29 (.bin .add (.t 19) (.c (.int .i64 1))),oM 19 29]))))))) (.seq (.ops [oN 2 (.mov (.c (.bool true)))]) .ret))))
theorem cc65 : ccode Tryz.prog (min Tryz.f65.ntmps pbase) (Tryz.f65.body.getD .skip) = some ac65 := by kernel_rfl
def ac66 : ACode := (.seq (.ops [oN 2 (.nils 1)]) (.seq (.ops [oN 3 (.bsl 1 0 [(.int .i64 0)] []),oM 4 0,oN 5 (.app 1 8 (.t 3) (.t 4)),oM 2 5]) .ret))
theorem cc66 : ccode Tryz.prog (min Tryz.f66.ntmps pbase) (Tryz.f66.body.getD .skip) = some ac66 := by kernel_rfl
def ac67 : ACode := (.seq (.ops [oN 6 (.nils 1)]) (.seq (.ops [oM 7 0,oM 8 1,oM 9 2,oN 10 (.call 93 [(.t 7),(.t 8),(.c (.int .i64 0)),(.t 9)]),oM 6 10]) .ret))
theorem cc67 : ccode Tryz.prog (min Tryz.f67.ntmps pbase) (Tryz.f67.body.getD .skip) = some ac67 := by kernel_rfl
def ac68 : ACode := (.seq (.ops [oN 2 (.mov (.c (.bool false)))]) (.seq (.ops [oM 3 0,oN 4 (.bin .geq (.t 3) (.c (.int .i64 1))),oM 5 4,mT 6 0 5,oT 7 (.bin .leq (.t 6) (.c (.int .i64 8))) 5,oN 8 (.pick (.t 5) (.t 7) (.c (.bool false))),oM 2 8]) .ret))
theorem cc68 : ccode Tryz.prog (min Tryz.f68.ntmps pbase) (Tryz.f68.body.getD .skip) = some ac68 := by kernel_rfl
def ac69 : ACode := (.seq (.ops [oN 4 (.nils 1)]) (.seq (.ops [oN 5 (.nils 1)]) (.seq (.ops [oN 6 (.mov (.c (.int .i64 0)))]) (.seq (.seq (.ops [oN 7 (.mov (.c (.int .i64 0)))]) (.block 0 (.loop (.seq (.seq (.ops [oM 8 7,oM 9 0,oN 10 (.slen (.t 9)),oN 11 (.bin .lss (.t 8) (.t 10))]) (.cond (.t 11) .skip (.exit 0))) (.seq (.block 1 (.seq (.ops [oM 14 0,oM 15 7,oN 16 (.pu .six [(.t 14),(.t 15)]),oM 17 1,oN 18 (.bin .eql (.t 16) (.t 17))]) (.cond (.t 18) (.seq (.ops [oM 19 5,oM 20 0,oM 21 6,oM 22 7,oN 23 (.pu (.scut true true) [(.t 20),(.t 21),(.t 22)]),oN 24 (.bsl 1 1 [(.string (.mk #[]))] [(0,(.t 23))]),oN 25 (.app 1 16 (.t 19) (.t 24)),oM 5 25]) (.ops [oM 26 7,oN 27 (.bin .add (.t 26) (.c (.int .i64 1))),oM 6 27])) .skip))) (.ops [oM 12 7,oN 13 (.bin .add (.t 12) (.c (.int .i64 1))),oM 7 13])))))) (.seq (.ops [oM 28 5,oM 29 0,oM 30 6,oN 31 (.pu (.scut true false) [(.t 29),(.t 30)]),oN 32 (.bsl 1 1 [(.string (.mk #[]))] [(0,(.t 31))]),oN 33 (.app 1 16 (.t 28) (.t 32)),oM 4 33]) .ret)))))
theorem cc69 : ccode Tryz.prog (min Tryz.f69.ntmps pbase) (Tryz.f69.body.getD .skip) = some ac69 := by kernel_rfl
def ac70 : ACode := (.seq (.ops [oN 6 (.mov (.c (.bool false)))]) (.seq (.ops [oM 7 0,oM 8 1,oN 9 (.bin .geq (.t 7) (.t 8)),oM 10 9,mT 11 0 10,mT 12 2 10,oT 13 (.bin .leq (.t 11) (.t 12)) 10,oN 14 (.pick (.t 10) (.t 13) (.c (.bool false))),oM 6 14]) .ret))
theorem cc70 : ccode Tryz.prog (min Tryz.f70.ntmps pbase) (Tryz.f70.body.getD .skip) = some ac70 := by kernel_rfl
def ac71 : ACode := (.seq (.ops [oN 2 (.mov (.c (.int .i64 0)))]) (.seq (.ops [oN 3 (.mov (.c (.int .i64 1)))]) (.seq (.seq (.ops [oN 4 (.mov (.c (.int .i64 2)))]) (.block 0 (.loop (.seq (.seq (.ops [oM 5 4,oM 6 0,oN 7 (.bin .leq (.t 5) (.t 6))]) (.cond (.t 7) .skip (.exit 0))) (.seq (.block 1 (.ops [oM 10 3,oM 11 4,oN 12 (.bin .mul (.t 10) (.t 11)),oM 3 12])) (.ops [oM 8 4,oN 9 (.bin .add (.t 8) (.c (.int .i64 1))),oM 4 9])))))) (.seq (.ops [oM 13 3,oM 2 13]) .ret))))
theorem cc71 : ccode Tryz.prog (min Tryz.f71.ntmps pbase) (Tryz.f71.body.getD .skip) = some ac71 := by kernel_rfl
def ac72 : ACode := (.seq (.ops [oN 2 (.nils 1)]) (.seq (.ops [oM 6 0,oN 7 (.call 90 [(.t 6)]),oM 3 7]) (.seq (.seq (.ops [oM 8 3,oN 9 (.len (.t 8)),oN 10 (.bin .sub (.t 9) (.c (.int .i64 1))),oM 4 10]) (.block 0 (.loop (.seq (.seq (.ops [oM 11 4,oN 12 (.bin .geq (.t 11) (.c (.int .i64 0)))]) (.cond (.t 12) .skip (.exit 0))) (.seq (.block 1 (.seq (.ops [oM 15 4,oN 16 (.bin .add (.t 15) (.c (.int .i64 1))),oM 5 16]) (.block 2 (.loop (.seq (.seq (.ops [oM 17 5,oM 18 3,oN 19 (.len (.t 18)),oN 20 (.bin .lss (.t 17) (.t 19))]) (.cond (.t 20) .skip (.exit 2))) (.seq (.block 3 (.tree (.take (oM 23 3) (.take (oM 24 4) (.take (oN 25 (.idx 1 (.t 23) (.t 24))) (.take (oN 26 (.ld none (.t 25))) (.take (oM 27 5) (.take (oM 28 4) (.take (oN 29 (.call 94 [(.t 27),(.t 28)])) (.take (oM 30 3) (.take (oM 31 5) (.take (oN 32 (.idx 1 (.t 30) (.t 31))) (.take (oN 33 (.ld none (.t 32))) (.take (oN 34 (.bin .mul (.t 29) (.t 33))) (.take (oN 35 (.bin .sub (.t 26) (.t 34))) (.take (oN 36 (.idx 1 (.t 23) (.t 24))) (.take ⟨none,(.st 1 (.t 36) (.t 35)),none⟩ .done))))))))))))))))) (.ops [oM 21 5,oN 22 (.bin .add (.t 21) (.c (.int .i64 1))),oM 5 22]))))))) (.ops [oM 13 4,oN 14 (.bin .sub (.t 13) (.c (.int .i64 1))),oM 4 14])))))) (.seq (.ops [oM 37 3,oM 2 37]) .ret))))
theorem cc72 : ccode Tryz.prog (min Tryz.f72.ntmps pbase) (Tryz.f72.body.getD .skip) = some ac72 := by kernel_rfl
def ac73 : ACode := (.seq (.ops [oN 2 (.mov (.c (.int .i64 0)))]) (.seq (.ops [oN 3 (.mov (.c (.int .i64 1)))]) (.seq (.seq (.ops [oN 4 (.mov (.c (.int .i64 2)))]) (.block 0 (.loop (.seq (.seq (.ops [oM 5 4,oM 6 0,oN 7 (.bin .leq (.t 5) (.t 6))]) (.cond (.t 7) .skip (.exit 0))) (.seq (.block 1 (.ops [oM 10 3,oM 11 4,oN 12 (.bin .mul (.t 10) (.t 11)),oM 3 12])) (.ops [oM 8 4,oN 9 (.bin .add (.t 8) (.c (.int .i64 1))),oM 4 9])))))) (.seq (.ops [oM 13 3,oM 2 13]) .ret))))
theorem cc73 : ccode Tryz.prog (min Tryz.f73.ntmps pbase) (Tryz.f73.body.getD .skip) = some ac73 := by kernel_rfl
def ac74 : ACode := (.seq (.ops [oN 4 (.mov (.c (.int .i64 0)))]) (.seq (.ops [oN 5 (.mov (.c (.int .i64 1)))]) (.seq (.seq (.ops [oN 6 (.mov (.c (.int .i64 1)))]) (.block 0 (.loop (.seq (.seq (.ops [oM 7 6,oM 8 1,oN 9 (.bin .leq (.t 7) (.t 8))]) (.cond (.t 9) .skip (.exit 0))) (.seq (.block 1 (.ops [oM 12 5,oM 13 0,oM 14 1,oN 15 (.bin .sub (.t 13) (.t 14)),oM 16 6,oN 17 (.bin .add (.t 15) (.t 16)),oN 18 (.bin .mul (.t 12) (.t 17)),oM 19 6,oN 20 (.bin .quo (.t 18) (.t 19)),oM 5 20])) (.ops [oM 10 6,oN 11 (.bin .add (.t 10) (.c (.int .i64 1))),oM 6 11])))))) (.seq (.ops [oM 21 5,oM 4 21]) .ret))))
theorem cc74 : ccode Tryz.prog (min Tryz.f74.ntmps pbase) (Tryz.f74.body.getD .skip) = some ac74 := by kernel_rfl
def ac75 : ACode := (.seq (.ops [oN 2 (.mov (.c (.string (.mk #[]))))]) (.seq (.seq (.ops [oM 5 0,oN 6 (.call 85 [(.t 5),(.c (.int .i64 12))])]) (.cond (.t 6) (.seq (.ops [oM 7 0,oN 8 (.bsl 1 8 [(.string (.mk #[]))] [(0,(.c (.string (.mk #[])))),(1,(.c (.string (.mk #[47])))),(2,(.c (.string (.mk #[120])))),(3,(.c (.string (.mk #[46,35])))),(4,(.c (.string (.mk #[46,46])))),(5,(.c (.string (.mk #[46,47,35])))),(6,(.c (.string (.mk #[35,46,47,46,35,47])))),(7,(.c (.string (.mk #[46,46,47,46,120]))))]),oN 9 (.call 95 [(.t 7),(.t 8)]),oM 2 9]) .ret) .skip)) (.seq (.seq (.ops [oM 10 0,oN 11 (.call 85 [(.t 10),(.c (.int .i64 6))])]) (.cond (.t 11) (.seq (.ops [oM 13 0,oN 14 (.call 87 [(.t 13),(.c (.int .i64 6))]),oN 15 (.bin .add (.c (.int .i64 1)) (.t 14)),oN 16 (.call 96 [(.t 15)]),oM 12 16,oN 17 (.ext (.t 12) 0),oN 18 (.ext (.t 12) 1),oM 3 17,oM 4 18]) (.seq (.ops [oM 19 3,oM 2 19]) .ret)) .skip)) (.seq (.ops [oM 20 0,oM 21 0,oN 22 (.call 87 [(.t 21),(.c (.int .i64 5))]),oN 23 (.bin .add (.c (.int .i64 1)) (.t 22)),oN 24 (.call 97 [(.t 20),(.t 23)]),oM 2 24]) .ret))))
theorem cc75 : ccode Tryz.prog (min Tryz.f75.ntmps pbase) (Tryz.f75.body.getD .skip) = some ac75 := by kernel_rfl
def ac78 : ACode := (.seq (.ops [oN 4 (.mov (.c (.bool false)))]) (.seq (.ops [oM 5 0,oM 6 1,oN 7 (.bin .shr (.t 5) (.t 6)),oN 8 (.bin .and (.t 7) (.c (.int .u16 1))),oN 9 (.bin .eql (.t 8) (.c (.int .u16 1))),oM 4 9]) .ret))
theorem cc78 : ccode Tryz.prog (min Tryz.f78.ntmps pbase) (Tryz.f78.body.getD .skip) = some ac78 := by kernel_rfl
def ac79 : ACode := (.seq (.ops [oN 4 (.mov (.c (.int .u16 0)))]) (.seq (.ops [oM 5 0,oM 6 1,oN 7 (.bin .shl (.c (.int .u16 1)) (.t 6)),oN 8 (.bin .or (.t 5) (.t 7)),oM 4 8]) .ret))
theorem cc79 : ccode Tryz.prog (min Tryz.f79.ntmps pbase) (Tryz.f79.body.getD .skip) = some ac79 := by kernel_rfl
def ac80 : ACode := (.seq (.ops [oN 2 (.mov (.c (.int .i64 0)))]) (.seq (.ops [oM 3 0,oN 4 (.call 99 [(.t 3)]),oM 2 4]) .ret))
theorem cc80 : ccode Tryz.prog (min Tryz.f80.ntmps pbase) (Tryz.f80.body.getD .skip) = some ac80 := by kernel_rfl
def ac81 : ACode := (.seq (.ops [oN 2 (.mov (.c (.int .i64 0)))]) (.seq (.ops [oN 3 (.mov (.c (.int .i64 0)))]) (.seq (.seq (.ops [oM 6 0,oN 7 (.len (.t 6)),oN 8 (.mov (.c (.int .i64 0)))]) (.block 0 (.loop (.seq (.ops [oN 9 (.bin .lss (.t 8) (.t 7))]) (.seq (.cond (.t 9) .skip (.exit 0)) (.seq (.block 1 (.seq (.ops [oN 10 (.idx 1 (.t 6) (.t 8)),oN 11 (.ld none (.t 10)),oM 5 11]) (.seq (.ops [oM 12 5,oM 13 3,oN 14 (.bin .neq (.t 12) (.t 13))]) (.cond (.t 14) (.seq (.ops [oM 15 5,oM 2 15]) .ret) .skip)))) (.ops [oN 16 (.bin .add (.t 8) (.c (.int .i64 1))),oM 8 16]))))))) (.seq (.ops [oM 17 3,oM 2 17]) .ret))))
theorem cc81 : ccode Tryz.prog (min Tryz.f81.ntmps pbase) (Tryz.f81.body.getD .skip) = some ac81 := by kernel_rfl
def ac82 : ACode := (.seq (.ops [oN 4 (.mov (.c (.int .i64 0)))]) (.seq (.ops [oM 7 0,oN 8 (.call 100 [(.t 7)]),oM 5 8]) (.seq (.ops [oM 9 1,oN 10 (.call 100 [(.t 9)]),oM 6 10]) (.seq (.seq (.ops [oM 11 5]) (.cond (.t 11) (.seq (.seq (.ops [oM 12 6]) (.cond (.t 12) (.seq (.ops [oN 4 (.mov (.c (.int .i64 0)))]) .ret) .skip)) (.seq (.ops [oN 4 (.mov (.c (.int .i64 (-1))))]) .ret)) .skip)) (.seq (.seq (.ops [oM 13 6]) (.cond (.t 13) (.seq (.ops [oN 4 (.mov (.c (.int .i64 1)))]) .ret) .skip)) (.seq (.seq (.ops [oM 14 0,oM 15 1,oN 16 (.bin .lss (.t 14) (.t 15))]) (.cond (.t 16) (.seq (.ops [oN 4 (.mov (.c (.int .i64 (-1))))]) .ret) .skip)) (.seq (.seq (.ops [oM 17 0,oM 18 1,oN 19 (.bin .gtr (.t 17) (.t 18))]) (.cond (.t 19) (.seq (.ops [oN 4 (.mov (.c (.int .i64 1)))]) .ret) .skip)) (.seq (.ops [oN 4 (.mov (.c (.int .i64 0)))]) .ret))))))))
theorem cc82 : ccode Tryz.prog (min Tryz.f82.ntmps pbase) (Tryz.f82.body.getD .skip) = some ac82 := by kernel_rfl
def ac83 : ACode := (.seq (.ops [oN 2 (.box 2 (.t 0)),oN 4 (.mov (.c (.int .i64 0)))]) (.seq (.tree (.take (oM 5 1) (.take (oN 6 (.call 80 [(.t 5)])) (.take (oN 7 (.ld (some 2) (.t 2))) (.take (oM 8 1) (.take (oN 9 (.call 55 [(.t 7),(.t 8)])) (.take (oN 10 (.call 80 [(.t 9)])) (.take (oN 11 (.bin .add (.t 6) (.t 10))) (.take (oM 4 11) .done))))))))) .ret))
theorem cc83 : ccode Tryz.prog (min Tryz.f83.ntmps pbase) (Tryz.f83.body.getD .skip) = some ac83 := by kernel_rfl
def ac84 : ACode := (.seq (.ops [oN 4 (.mov (.c (.int .i64 0)))]) (.seq (.seq (.ops [oM 9 0,oN 10 (.len (.t 9)),oN 11 (.mov (.c (.int .i64 0)))]) (.block 0 (.loop (.seq (.ops [oN 12 (.bin .lss (.t 11) (.t 10))]) (.seq (.cond (.t 12) .skip (.exit 0)) (.seq (.block 1 (.seq (.ops [oM 13 11,oN 14 (.idx 1 (.t 9) (.t 11)),oN 15 (.ld none (.t 14)),oM 5 13,oM 6 15]) (.seq (.seq (.ops [oM 16 5,oM 17 1,oN 18 (.len (.t 17)),oN 19 (.bin .geq (.t 16) (.t 18))]) (.cond (.t 19) (.seq (.ops [oN 4 (.mov (.c (.int .i64 1)))]) .ret) .skip)) (.seq (.ops [oM 20 1,oM 21 5,oN 22 (.idx 1 (.t 20) (.t 21)),oN 23 (.ld none (.t 22)),oM 7 23]) (.seq (.ops [oM 24 6,oM 25 7,oN 26 (.call 82 [(.t 24),(.t 25)]),oM 8 26]) (.seq (.ops [oM 27 8,oN 28 (.bin .neq (.t 27) (.c (.int .i64 0)))]) (.cond (.t 28) (.seq (.ops [oM 29 8,oM 4 29]) .ret) .skip))))))) (.ops [oN 30 (.bin .add (.t 11) (.c (.int .i64 1))),oM 11 30]))))))) (.seq (.seq (.ops [oM 31 0,oN 32 (.len (.t 31)),oM 33 1,oN 34 (.len (.t 33)),oN 35 (.bin .lss (.t 32) (.t 34))]) (.cond (.t 35) (.seq (.ops [oN 4 (.mov (.c (.int .i64 (-1))))]) .ret) .skip)) (.seq (.ops [oN 4 (.mov (.c (.int .i64 0)))]) .ret))))
theorem cc84 : ccode Tryz.prog (min Tryz.f84.ntmps pbase) (Tryz.f84.body.getD .skip) = some ac84 := by kernel_rfl
def ac85 : ACode := (.seq (.ops [oN 4 (.mov (.c (.bool false)))]) (.seq (.ops [oM 5 0,oM 6 1,oN 7 (.call 87 [(.t 5),(.t 6)]),oN 8 (.bin .eql (.t 7) (.c (.int .i64 0))),oM 4 8]) .ret))
theorem cc85 : ccode Tryz.prog (min Tryz.f85.ntmps pbase) (Tryz.f85.body.getD .skip) = some ac85 := by kernel_rfl
def ac86 : ACode := (.seq (.ops [oN 2 (.nils 1)]) (.seq (.seq (.ops [oM 4 0,oN 5 (.call 85 [(.t 4),(.c (.int .i64 12))])]) (.cond (.t 5) (.seq (.ops [oN 6 (.bsl 1 1 [(.int .i64 0)] [(0,(.c (.int .i64 1)))]),oN 7 (.bsl 1 2 [(.int .i64 0)] [(0,(.c (.int .i64 0))),(1,(.c (.int .i64 0)))]),oN 8 (.bsl 1 1 [(.int .i64 0)] [(0,(.c (.int .i64 (-1))))]),oN 9 (.bsl 1 2 [(.int .i64 0)] [(0,(.c (.int .i64 0))),(1,(.c (.int .i64 2)))]),oN 10 (.bsl 1 13 [(.int .i64 0)] [(0,(.c (.int .i64 0))),(1,(.c (.int .i64 1))),(2,(.c (.int .i64 2))),(3,(.c (.int .i64 3))),(4,(.c (.int .i64 4))),(5,(.c (.int .i64 5))),(6,(.c (.int .i64 6))),(7,(.c (.int .i64 7))),(8,(.c (.int .i64 8))),(9,(.c (.int .i64 9))),(10,(.c (.int .i64 10))),(11,(.c (.int .i64 11))),(12,(.c (.int .i64 12)))]),oN 11 (.bsl 1 12 [(.int .i64 0)] [(0,(.c (.int .i64 1))),(1,(.c (.int .i64 2))),(2,(.c (.int .i64 3))),(3,(.c (.int .i64 4))),(4,(.c (.int .i64 5))),(5,(.c (.int .i64 6))),(6,(.c (.int .i64 7))),(7,(.c (.int .i64 8))),(8,(.c (.int .i64 9))),(9,(.c (.int .i64 10))),(10,(.c (.int .i64 11))),(11,(.c (.int .i64 0)))]),oN 12 (.bsl 1 7 [(.slice none 0 0)] [(0,(.c (.slice none 0 0))),(1,(.t 6)),(2,(.t 7)),(3,(.t 8)),(4,(.t 9)),(5,(.t 10)),(6,(.t 11))]),oM 13 0,oN 14 (.call 87 [(.t 13),(.c (.int .i64 7))]),oN 15 (.idx 1 (.t 12) (.t 14)),oN 16 (.ld none (.t 15)),oM 2 16]) .ret) .skip)) (.seq (.seq (.ops [oM 17 0,oN 18 (.call 85 [(.t 17),(.c (.int .i64 4))])]) (.cond (.t 18) (.seq (.ops [oM 19 0,oN 20 (.call 87 [(.t 19),(.c (.int .i64 5))]),oN 21 (.bin .add (.c (.int .i64 2)) (.t 20)),oM 3 21]) (.seq (.ops [oM 22 3,oM 23 0,oM 24 3,oN 25 (.call 102 [(.t 24)]),oN 26 (.call 87 [(.t 23),(.t 25)]),oN 27 (.call 101 [(.t 22),(.t 26)]),oM 2 27]) .ret)) .skip)) (.seq (.ops [oM 28 0,oN 29 (.call 103 [(.t 28),(.c (.int .i64 7))]),oM 2 29]) .ret))))
theorem cc86 : ccode Tryz.prog (min Tryz.f86.ntmps pbase) (Tryz.f86.body.getD .skip) = some ac86 := by kernel_rfl
def ac87 : ACode := (.seq (.ops [oN 4 (.mov (.c (.int .i64 0)))]) (.seq (.seq (.ops [oM 6 1,oN 7 (.bin .leq (.t 6) (.c (.int .i64 1)))]) (.cond (.t 7) (.seq (.ops [oN 4 (.mov (.c (.int .i64 0)))]) .ret) .skip)) (.seq (.ops [oM 8 0,oN 9 (.call 104 [(.t 8)]),oM 5 9]) (.seq (.seq (.ops [oM 10 1,oN 11 (.bin .gtr (.t 10) (.c (.int .i64 200)))]) (.cond (.t 11) (.ops [oM 12 5,oN 13 (.bin .mul (.t 12) (.c (.int .i64 256))),oM 14 0,oN 15 (.call 104 [(.t 14)]),oN 16 (.bin .add (.t 13) (.t 15)),oM 5 16]) .skip)) (.seq (.ops [oM 17 5,oM 18 1,oN 19 (.bin .rem (.t 17) (.t 18)),oM 4 19]) .ret)))))
theorem cc87 : ccode Tryz.prog (min Tryz.f87.ntmps pbase) (Tryz.f87.body.getD .skip) = some ac87 := by kernel_rfl
def ac88 : ACode := (.seq (.ops [oN 2 (.mov (.c (.bool false)))]) (.seq (.ops [oM 3 0,oN 4 (.bin .geq (.t 3) (.c (.int .i64 1))),oM 5 4,mT 6 0 5,oT 7 (.bin .leq (.t 6) (.c (.int .i64 12))) 5,oN 8 (.pick (.t 5) (.t 7) (.c (.bool false))),oM 2 8]) .ret))
theorem cc88 : ccode Tryz.prog (min Tryz.f88.ntmps pbase) (Tryz.f88.body.getD .skip) = some ac88 := by kernel_rfl
def ac89 : ACode := (.seq (.ops [oN 4 (.mov (.c (.bool false)))]) (.seq (.ops [oN 5 (.mov (.c (.int .u16 0)))]) (.seq (.seq (.ops [oM 8 0,oN 9 (.len (.t 8)),oN 10 (.mov (.c (.int .i64 0)))]) (.block 0 (.loop (.seq (.ops [oN 11 (.bin .lss (.t 10) (.t 9))]) (.seq (.cond (.t 11) .skip (.exit 0)) (.seq (.block 1 (.seq (.ops [oN 12 (.idx 1 (.t 8) (.t 10)),oN 13 (.ld none (.t 12)),oM 7 13]) (.seq (.seq (.ops [oM 14 7,oM 15 1,oN 16 (.call 105 [(.t 14),(.t 15)]),oN 17 (.not (.t 16)),oM 18 17,mF 19 5 18,mF 20 7 18,oF 21 (.call 78 [(.t 19),(.t 20)]) 18,oN 22 (.pick (.t 18) (.c (.bool true)) (.t 21))]) (.cond (.t 22) (.seq (.ops [oN 4 (.mov (.c (.bool false)))]) .ret) .skip)) (.ops [oM 23 5,oM 24 7,oN 25 (.call 79 [(.t 23),(.t 24)]),oM 5 25])))) (.ops [oN 26 (.bin .add (.t 10) (.c (.int .i64 1))),oM 10 26]))))))) (.seq (.ops [oN 4 (.mov (.c (.bool true)))]) .ret))))
theorem cc89 : ccode Tryz.prog (min Tryz.f89.ntmps pbase) (Tryz.f89.body.getD .skip) = some ac89 := by kernel_rfl
def ac90 : ACode := (.seq (.ops [oN 2 (.nils 1)]) (.seq (.seq (.ops [oM 3 0,oN 4 (.isnil false (.t 3))]) (.cond (.t 4) (.seq (.ops [oN 2 (.nils 1)]) .ret) .skip)) (.seq (.ops [oN 5 (.bsl 1 0 [(.int .i64 0)] []),oM 6 0,oN 7 (.app 1 8 (.t 5) (.t 6)),oM 2 7]) .ret)))
theorem cc90 : ccode Tryz.prog (min Tryz.f90.ntmps pbase) (Tryz.f90.body.getD .skip) = some ac90 := by kernel_rfl
def ac91 : ACode := (.seq (.ops [oN 4 (.mov (.c (.int .i64 0)))]) (.seq (.seq (.ops [oM 6 0,oN 7 (.len (.t 6)),oN 8 (.mov (.c (.int .i64 0)))]) (.block 0 (.loop (.seq (.ops [oN 9 (.bin .lss (.t 8) (.t 7))]) (.seq (.cond (.t 9) .skip (.exit 0)) (.seq (.block 1 (.seq (.ops [oM 10 8,oM 5 10]) (.seq (.ops [oM 11 1,oM 12 0,oM 13 5,oN 14 (.idx 1 (.t 12) (.t 13)),oN 15 (.ld none (.t 14)),oN 16 (.bin .eql (.t 11) (.t 15))]) (.cond (.t 16) (.seq (.ops [oM 17 5,oM 4 17]) .ret) .skip)))) (.ops [oN 18 (.bin .add (.t 8) (.c (.int .i64 1))),oM 8 18]))))))) (.seq (.ops [oN 4 (.mov (.c (.int .i64 (-1))))]) .ret)))
theorem cc91 : ccode Tryz.prog (min Tryz.f91.ntmps pbase) (Tryz.f91.body.getD .skip) = some ac91 := by kernel_rfl
def ac92 : ACode := (.seq (.ops [oN 6 (.mov (.c (.bool false)))]) (.seq (.seq (.ops [oM 9 0,oN 10 (.len (.t 9)),oN 11 (.mov (.c (.int .i64 0)))]) (.block 0 (.loop (.seq (.ops [oN 12 (.bin .lss (.t 11) (.t 10))]) (.seq (.cond (.t 12) .skip (.exit 0)) (.seq (.block 1 (.seq (.ops [oN 13 (.idx 1 (.t 9) (.t 11)),oN 14 (.ld none (.t 13)),oM 8 14]) (.seq (.ops [oM 15 8,oM 16 1,oM 17 2,oN 18 (.call 70 [(.t 15),(.t 16),(.t 17)]),oN 19 (.not (.t 18))]) (.cond (.t 19) (.seq (.ops [oN 6 (.mov (.c (.bool false)))]) .ret) .skip)))) (.ops [oN 20 (.bin .add (.t 11) (.c (.int .i64 1))),oM 11 20]))))))) (.seq (.ops [oN 6 (.mov (.c (.bool true)))]) .ret)))
theorem cc92 : ccode Tryz.prog (min Tryz.f92.ntmps pbase) (Tryz.f92.body.getD .skip) = some ac92 := by kernel_rfl
def ac93 : ACode := (.seq (.ops [oN 8 (.nils 1)]) (.seq (.seq (.ops [oM 12 3,oN 13 (.bin .eql (.t 12) (.c (.int .i64 0)))]) (.cond (.t 13) (.seq (.ops [oN 8 (.nils 1)]) .ret) .skip)) (.seq (.seq (.ops [oM 14 1,oN 15 (.bin .eql (.t 14) (.c (.string (.mk #[]))))]) (.cond (.t 15) (.seq (.ops [oM 16 0,oM 17 3,oN 18 (.call 106 [(.t 16),(.t 17)]),oM 8 18]) .ret) .skip)) (.seq (.seq (.ops [oM 19 3,oN 20 (.bin .lss (.t 19) (.c (.int .i64 0)))]) (.cond (.t 20) (.ops [oM 21 0,oM 22 1,oN 23 (.call 107 [(.t 21),(.t 22)]),oN 24 (.bin .add (.t 23) (.c (.int .i64 1))),oM 3 24]) .skip)) (.seq (.ops [oM 25 3,oM 26 0,oN 27 (.slen (.t 26)),oN 28 (.bin .add (.t 27) (.c (.int .i64 1))),oN 29 (.pu (.mm false) [(.t 25),(.t 28)]),oM 3 29]) (.seq (.ops [oM 30 3,oN 31 (.mk 1 16 [(.string (.mk #[]))] (.t 30) (.t 30)),oM 9 31]) (.seq (.ops [oM 32 3,oN 33 (.bin .sub (.t 32) (.c (.int .i64 1))),oM 3 33]) (.seq (.ops [oN 10 (.mov (.c (.int .i64 0)))]) (.seq (.block 0 (.loop (.seq (.seq (.ops [oM 34 10,oM 35 3,oN 36 (.bin .lss (.t 34) (.t 35))]) (.cond (.t 36) .skip (.exit 0))) (.block 1 (.seq (.ops [oM 37 0,oM 38 1,oN 39 (.call 108 [(.t 37),(.t 38)]),oM 11 39]) (.seq (.seq (.ops [oM 40 11,oN 41 (.bin .lss (.t 40) (.c (.int .i64 0)))]) (.cond (.t 41) (.exit 0) .skip)) (.seq (.ops [oM 42 9,oM 43 10,oM 44 0,oM 45 11,oM 46 2,oN 47 (.bin .add (.t 45) (.t 46)),oN 48 (.pu (.scut false true) [(.t 44),(.t 47)]),oN 49 (.idx 1 (.t 42) (.t 43)),⟨none,(.st 1 (.t 49) (.t 48)),none⟩]) (.seq (.ops [oM 50 0,oM 51 11,oM 52 1,oN 53 (.slen (.t 52)),oN 54 (.bin .add (.t 51) (.t 53)),oN 55 (.pu (.scut true false) [(.t 50),(.t 54)]),oM 0 55]) (.ops [oM 56 10,oN 57 (.bin .add (.t 56) (.c (.int .i64 1))),oM 10 57]))))))))) (.seq (.ops [oM 58 9,oM 59 10,oM 60 0,oN 61 (.idx 1 (.t 58) (.t 59)),⟨none,(.st 1 (.t 61) (.t 60)),none⟩]) (.seq (.ops [oM 62 9,oM 63 10,oN 64 (.bin .add (.t 63) (.c (.int .i64 1))),oN 65 (.cut 1 (.t 62) none (some (.t 64))),oM 8 65]) .ret)))))))))))
theorem cc93 : ccode Tryz.prog (min Tryz.f93.ntmps pbase) (Tryz.f93.body.getD .skip) = some ac93 := by kernel_rfl
def ac94 : ACode := (.seq (.ops [oN 4 (.mov (.c (.int .i64 0)))]) (.seq (.ops [oM 5 0,oN 6 (.call 71 [(.t 5)]),oM 7 1,oN 8 (.call 71 [(.t 7)]),oM 9 0,oM 10 1,oN 11 (.bin .sub (.t 9) (.t 10)),oN 12 (.call 71 [(.t 11)]),oN 13 (.bin .mul (.t 8) (.t 12)),oN 14 (.bin .quo (.t 6) (.t 13)),oM 4 14]) .ret))
theorem cc94 : ccode Tryz.prog (min Tryz.f94.ntmps pbase) (Tryz.f94.body.getD .skip) = some ac94 := by kernel_rfl
def ac95 : ACode := (.seq (.ops [oN 4 (.mov (.c (.string (.mk #[]))))]) (.seq (.ops [oM 5 1,oM 6 0,oM 7 1,oN 8 (.len (.t 7)),oN 9 (.call 87 [(.t 6),(.t 8)]),oN 10 (.idx 1 (.t 5) (.t 9)),oN 11 (.ld none (.t 10)),oM 4 11]) .ret))
theorem cc95 : ccode Tryz.prog (min Tryz.f95.ntmps pbase) (Tryz.f95.body.getD .skip) = some ac95 := by kernel_rfl
def ac96 : ACode := (.seq (.ops [oN 2 (.mov (.c (.string (.mk #[])))),oN 3 (.mov (.c (.bool false)))]) (.seq (.seq (.ops [oM 6 0,oN 7 (.call 70 [(.t 6),(.c (.int .i64 1)),(.c (.int .i64 8))]),oN 8 (.not (.t 7))]) (.cond (.t 8) (.seq (.ops [oN 2 (.mov (.c (.string (.mk #[])))),oN 3 (.mov (.c (.bool false)))]) .ret) .skip)) (.seq (.ops [oN 4 (.nils 1)]) (.seq (.seq (.ops [oN 5 (.mov (.c (.int .i64 0)))]) (.block 0 (.loop (.seq (.seq (.ops [oM 9 5,oM 10 0,oN 11 (.bin .lss (.t 9) (.t 10))]) (.cond (.t 11) .skip (.exit 0))) (.seq (.block 1 (.ops [oM 14 4,oM 15 5,oM 16 5,oN 17 (.bsl 1 2 [(.int .i64 0)] [(0,(.t 15)),(1,(.t 16))]),oM 18 5,oM 19 5,oN 20 (.bin .add (.t 19) (.c (.int .i64 1))),oM 21 0,oN 22 (.bin .rem (.t 20) (.t 21)),oN 23 (.bsl 1 2 [(.int .i64 0)] [(0,(.t 18)),(1,(.t 22))]),oN 24 (.bsl 1 2 [(.slice none 0 0)] [(0,(.t 17)),(1,(.t 23))]),oN 25 (.app 1 24 (.t 14) (.t 24)),oM 4 25])) (.ops [oM 12 5,oN 13 (.bin .add (.t 12) (.c (.int .i64 1))),oM 5 13])))))) (.seq (.ops [oM 26 0,oM 27 4,oN 28 (.call 109 [(.t 26),(.t 27)]),oM 2 28,oN 3 (.mov (.c (.bool true)))]) .ret)))))
theorem cc96 : ccode Tryz.prog (min Tryz.f96.ntmps pbase) (Tryz.f96.body.getD .skip) = some ac96 := by kernel_rfl
def ac97 : ACode := (.seq (.ops [oN 4 (.mov (.c (.string (.mk #[]))))]) (.seq (.ops [oN 5 (.mov (.c (.string (.mk #[]))))]) (.seq (.ops [oM 9 0,oN 10 (.call 87 [(.t 9),(.c (.int .i64 3))]),oN 11 (.bin .add (.c (.int .i64 2)) (.t 10)),oM 6 11]) (.seq (.seq (.ops [oN 7 (.mov (.c (.int .i64 0)))]) (.block 0 (.loop (.seq (.seq (.ops [oM 12 7,oM 13 1,oN 14 (.bin .lss (.t 12) (.t 13))]) (.cond (.t 14) .skip (.exit 0))) (.seq (.block 1 (.seq (.seq (.ops [oM 17 7,oN 18 (.bin .gtr (.t 17) (.c (.int .i64 0)))]) (.cond (.t 18) (.ops [oM 19 5,oN 20 (.bin .add (.t 19) (.c (.string (.mk #[47])))),oM 5 20]) .skip)) (.seq (.ops [oN 8 (.mov (.c (.int .i64 0)))]) (.block 2 (.loop (.seq (.seq (.ops [oM 21 8,oM 22 1,oN 23 (.bin .lss (.t 21) (.t 22))]) (.cond (.t 23) .skip (.exit 2))) (.seq (.block 3 (.seq (.ops [oM 26 0,oM 27 6,oN 28 (.call 85 [(.t 26),(.t 27)])]) (.cond (.t 28) (.ops [oM 29 5,oN 30 (.bin .add (.t 29) (.c (.string (.mk #[35])))),oM 5 30]) (.ops [oM 31 5,oN 32 (.bin .add (.t 31) (.c (.string (.mk #[46])))),oM 5 32])))) (.ops [oM 24 8,oN 25 (.bin .add (.t 24) (.c (.int .i64 1))),oM 8 25])))))))) (.ops [oM 15 7,oN 16 (.bin .add (.t 15) (.c (.int .i64 1))),oM 7 16])))))) (.seq (.ops [oM 33 5,oM 4 33]) .ret)))))
theorem cc97 : ccode Tryz.prog (min Tryz.f97.ntmps pbase) (Tryz.f97.body.getD .skip) = some ac97 := by kernel_rfl
def ac99 : ACode := (.seq (.ops [oN 2 (.mov (.c (.int .i64 0)))]) (.seq (.tree (.take (oM 3 0) (.take (oN 4 (.bin .shr (.t 3) (.c (.int .u64 8)))) (.take (oN 5 (.pu .six [(.c (.string (.mk #[0,1,1,2,1,2,2,3,1,2,2,3,2,3,3,4,1,2,2,3,2,3,3,4,2,3,3,4,3,4,4,5,1,2,2,3,2,3,3,4,2,3,3,4,3,4,4,5,2,3,3,4,3,4,4,5,3,4,4,5,4,5,5,6,1,2,2,3,2,3,3,4,2,3,3,4,3,4,4,5,2,3,3,4,3,4,4,5,3,4,4,5,4,5,5,6,2,3,3,4,3,4,4,5,3,4,4,5,4,5,5,6,3,4,4,5,4,5,5,6,4,5,5,6,5,6,6,7,1,2,2,3,2,3,3,4,2,3,3,4,3,4,4,5,2,3,3,4,3,4,4,5,3,4,4,5,4,5,5,6,2,3,3,4,3,4,4,5,3,4,4,5,4,5,5,6,3,4,4,5,4,5,5,6,4,5,5,6,5,6,6,7,2,3,3,4,3,4,4,5,3,4,4,5,4,5,5,6,3,4,4,5,4,5,5,6,4,5,5,6,5,6,6,7,3,4,4,5,4,5,5,6,4,5,5,6,5,6,6,7,4,5,5,6,5,6,6,7,5,6,6,7,6,7,7,8]))),(.t 4)])) (.take (oM 6 0) (.take (oN 7 (.bin .and (.t 6) (.c (.int .u16 255)))) (.take (oN 8 (.pu .six [(.c (.string (.mk #[0,1,1,2,1,2,2,3,1,2,2,3,2,3,3,4,1,2,2,3,2,3,3,4,2,3,3,4,3,4,4,5,1,2,2,3,2,3,3,4,2,3,3,4,3,4,4,5,2,3,3,4,3,4,4,5,3,4,4,5,4,5,5,6,1,2,2,3,2,3,3,4,2,3,3,4,3,4,4,5,2,3,3,4,3,4,4,5,3,4,4,5,4,5,5,6,2,3,3,4,3,4,4,5,3,4,4,5,4,5,5,6,3,4,4,5,4,5,5,6,4,5,5,6,5,6,6,7,1,2,2,3,2,3,3,4,2,3,3,4,3,4,4,5,2,3,3,4,3,4,4,5,3,4,4,5,4,5,5,6,2,3,3,4,3,4,4,5,3,4,4,5,4,5,5,6,3,4,4,5,4,5,5,6,4,5,5,6,5,6,6,7,2,3,3,4,3,4,4,5,3,4,4,5,4,5,5,6,3,4,4,5,4,5,5,6,4,5,5,6,5,6,6,7,3,4,4,5,4,5,5,6,4,5,5,6,5,6,6,7,4,5,5,6,5,6,6,7,5,6,6,7,6,7,7,8]))),(.t 7)])) (.take (oN 9 (.bin .add (.t 5) (.t 8))) (.take (oN 10 (.pu (.cvt .i64) [(.t 9)])) (.take (oM 2 10) .done)))))))))) .ret))
theorem cc99 : ccode Tryz.prog (min Tryz.f99.ntmps pbase) (Tryz.f99.body.getD .skip) = some ac99 := by kernel_rfl
def ac100 : ACode := (.seq (.ops [oN 2 (.mov (.c (.bool false)))]) (.seq (.ops [oM 3 0,oM 4 0,oN 5 (.bin .neq (.t 3) (.t 4)),oM 2 5]) .ret))
theorem cc100 : ccode Tryz.prog (min Tryz.f100.ntmps pbase) (Tryz.f100.body.getD .skip) = some ac100 := by kernel_rfl
def ac101 : ACode := (.seq (.ops [oN 4 (.nils 1)]) (.seq (.ops [oN 5 (.nils 1)]) (.seq (.seq (.ops [oN 6 (.mov (.c (.int .i64 0)))]) (.block 0 (.loop (.seq (.seq (.ops [oM 10 6,oM 11 0,oN 12 (.bin .lss (.t 10) (.t 11))]) (.cond (.t 12) .skip (.exit 0))) (.seq (.block 1 (.seq (.ops [oN 7 (.mov (.c (.int .i64 0)))]) (.block 2 (.loop (.seq (.seq (.ops [oM 15 7,oM 16 0,oN 17 (.bin .lss (.t 15) (.t 16))]) (.cond (.t 17) .skip (.exit 2))) (.seq (.block 3 (.seq (.seq (.ops [oM 20 7,oM 21 6,oN 22 (.bin .eql (.t 20) (.t 21)),oM 23 22,mF 24 5 23,mF 25 7 23,oF 26 (.call 58 [(.t 24),(.t 25)]) 23,oN 27 (.pick (.t 23) (.c (.bool true)) (.t 26))]) (.cond (.t 27) (.exit 3) .skip)) (.seq (.ops [oM 28 5,oN 29 (.call 66 [(.t 28)]),oM 30 7,oN 31 (.bsl 1 1 [(.int .i64 0)] [(0,(.t 30))]),oN 32 (.app 1 8 (.t 29) (.t 31)),oM 8 32]) (.seq (.ops [oM 33 8,oM 34 0,oN 35 (.call 110 [(.t 33),(.t 34)]),oM 9 35]) (.seq (.seq (.ops [oM 36 1,oM 37 9,oN 38 (.bin .lss (.t 36) (.t 37))]) (.cond (.t 38) (.seq (.ops [oM 39 8,oM 5 39]) (.exit 2)) .skip)) (.ops [oM 40 1,oM 41 9,oN 42 (.bin .sub (.t 40) (.t 41)),oM 1 42])))))) (.ops [oM 18 7,oN 19 (.bin .add (.t 18) (.c (.int .i64 1))),oM 7 19]))))))) (.ops [oM 13 6,oN 14 (.bin .add (.t 13) (.c (.int .i64 1))),oM 6 14])))))) (.seq (.ops [oM 43 5,oM 4 43]) .ret))))
theorem cc101 : ccode Tryz.prog (min Tryz.f101.ntmps pbase) (Tryz.f101.body.getD .skip) = some ac101 := by kernel_rfl
def ac102 : ACode := (.seq (.ops [oN 2 (.mov (.c (.int .i64 0)))]) (.seq (.ops [oN 3 (.mov (.c (.int .i64 1))),oN 4 (.mov (.c (.int .i64 0)))]) (.seq (.seq (.ops [oN 5 (.mov (.c (.int .i64 2)))]) (.block 0 (.loop (.seq (.seq (.ops [oM 6 5,oM 7 0,oN 8 (.bin .leq (.t 6) (.t 7))]) (.cond (.t 8) .skip (.exit 0))) (.seq (.block 1 (.ops [oM 11 4,oM 12 5,oN 13 (.bin .sub (.t 12) (.c (.int .i64 1))),oM 14 3,oM 15 4,oN 16 (.bin .add (.t 14) (.t 15)),oN 17 (.bin .mul (.t 13) (.t 16)),oM 3 11,oM 4 17])) (.ops [oM 9 5,oN 10 (.bin .add (.t 9) (.c (.int .i64 1))),oM 5 10])))))) (.seq (.seq (.ops [oM 18 0,oN 19 (.bin .eql (.t 18) (.c (.int .i64 0)))]) (.cond (.t 19) (.seq (.ops [oN 2 (.mov (.c (.int .i64 1)))]) .ret) .skip)) (.seq (.ops [oM 20 4,oM 2 20]) .ret)))))
theorem cc102 : ccode Tryz.prog (min Tryz.f102.ntmps pbase) (Tryz.f102.body.getD .skip) = some ac102 := by kernel_rfl
def ac103 : ACode := (.seq (.ops [oN 4 (.nils 1)]) (.seq (.ops [oN 5 (.nils 1)]) (.seq (.ops [oM 10 0,oM 11 1,oN 12 (.call 87 [(.t 10),(.t 11)]),oN 13 (.bin .add (.c (.int .i64 1)) (.t 12)),oM 6 13]) (.seq (.seq (.ops [oN 7 (.mov (.c (.int .i64 0)))]) (.block 0 (.loop (.seq (.seq (.ops [oM 14 7,oM 15 6,oN 16 (.bin .lss (.t 14) (.t 15))]) (.cond (.t 16) .skip (.exit 0))) (.seq (.block 1 (.seq (.ops [oM 19 0,oM 20 5,oN 21 (.len (.t 20)),oN 22 (.bin .add (.t 21) (.c (.int .i64 1))),oN 23 (.call 87 [(.t 19),(.t 22)]),oM 8 23]) (.seq (.ops [oM 24 5,oM 25 8,oN 26 (.cut 1 (.t 24) none (some (.t 25))),oN 27 (.call 66 [(.t 26)]),oM 28 7,oN 29 (.bsl 1 1 [(.int .i64 0)] [(0,(.t 28))]),oN 30 (.app 1 8 (.t 27) (.t 29)),oM 9 30]) (.ops [oM 31 9,oM 32 5,oM 33 8,oN 34 (.cut 1 (.t 32) (some (.t 33)) none),oN 35 (.app 1 8 (.t 31) (.t 34)),oM 5 35])))) (.ops [oM 17 7,oN 18 (.bin .add (.t 17) (.c (.int .i64 1))),oM 7 18])))))) (.seq (.ops [oM 36 5,oM 4 36]) .ret)))))
theorem cc103 : ccode Tryz.prog (min Tryz.f103.ntmps pbase) (Tryz.f103.body.getD .skip) = some ac103 := by kernel_rfl
def ac104 : ACode := (.seq (.ops [oN 2 (.mov (.c (.int .i64 0)))]) (.seq (.ops [oN 3 (.mov (.c (.int .i64 0)))]) (.seq (.seq (.tree (.take (oM 4 0) (.take (oN 5 (.nchk (.t 4))) (.take (oN 6 (.fa 1 (.t 5))) (.take (oN 7 (.ld none (.t 6))) (.take (oM 8 0) (.take (oN 9 (.nchk (.t 8))) (.take (oN 10 (.fa 0 (.t 9))) (.take (oN 11 (.ld none (.t 10))) (.take (oN 12 (.len (.t 11))) (.take (oN 13 (.bin .lss (.t 7) (.t 12))) .done))))))))))) (.cond (.t 13) (.tree (.take (oM 14 0) (.take (oN 15 (.nchk (.t 14))) (.take (oN 16 (.fa 0 (.t 15))) (.take (oN 17 (.ld none (.t 16))) (.take (oM 18 0) (.take (oN 19 (.nchk (.t 18))) (.take (oN 20 (.fa 1 (.t 19))) (.take (oN 21 (.ld none (.t 20))) (.take (oN 22 (.idx 1 (.t 17) (.t 21))) (.take (oN 23 (.ld none (.t 22))) (.take (oN 24 (.pu (.cvt .i64) [(.t 23)])) (.take (oM 3 24) .done))))))))))))) .skip)) (.seq (.ops [oM 25 0,oN 26 (.nchk (.t 25)),oN 27 (.fa 1 (.t 26)),oN 28 (.ld none (.t 27)),oN 29 (.bin .add (.t 28) (.c (.int .i64 1))),oN 30 (.nchk (.t 25)),oN 31 (.fa 1 (.t 30)),⟨none,(.st 1 (.t 31) (.t 29)),none⟩]) (.seq (.ops [oM 32 0,oM 33 0,oN 34 (.nchk (.t 33)),oN 35 (.fa 2 (.t 34)),oN 36 (.ld none (.t 35)),oN 37 (.bin .mul (.t 36) (.c (.int .u64 6364136223846793005))),oM 38 3,oN 39 (.pu (.cvt .u64) [(.t 38)]),oN 40 (.bin .add (.t 37) (.t 39)),oN 41 (.bin .add (.t 40) (.c (.int .u64 1442695040888963407))),oN 42 (.nchk (.t 32)),oN 43 (.fa 2 (.t 42)),⟨none,(.st 1 (.t 43) (.t 41)),none⟩]) (.seq (.seq (.tree (.take (oM 44 0) (.take (oN 45 (.nchk (.t 44))) (.take (oN 46 (.fa 1 (.t 45))) (.take (oN 47 (.ld none (.t 46))) (.take (oM 48 0) (.take (oN 49 (.nchk (.t 48))) (.take (oN 50 (.fa 0 (.t 49))) (.take (oN 51 (.ld none (.t 50))) (.take (oN 52 (.len (.t 51))) (.take (oN 53 (.bin .leq (.t 47) (.t 52))) .done))))))))))) (.cond (.t 53) (.seq (.ops [oM 54 3,oM 2 54]) .ret) .skip)) (.seq (.ops [oM 55 0,oN 56 (.nchk (.t 55)),oN 57 (.fa 2 (.t 56)),oN 58 (.ld none (.t 57)),oN 59 (.bin .shr (.t 58) (.c (.int .u64 40))),oN 60 (.bin .and (.t 59) (.c (.int .u64 255))),oN 61 (.pu (.cvt .i64) [(.t 60)]),oM 2 61]) .ret)))))))
theorem cc104 : ccode Tryz.prog (min Tryz.f104.ntmps pbase) (Tryz.f104.body.getD .skip) = some ac104 := by kernel_rfl
def ac105 : ACode := (.seq (.ops [oN 4 (.mov (.c (.bool false)))]) (.seq (.ops [oM 5 0,oN 6 (.bin .geq (.t 5) (.c (.int .i64 0))),oM 7 6,mT 8 0 7,mT 9 1 7,oT 10 (.bin .lss (.t 8) (.t 9)) 7,oN 11 (.pick (.t 7) (.t 10) (.c (.bool false))),oM 4 11]) .ret))
theorem cc105 : ccode Tryz.prog (min Tryz.f105.ntmps pbase) (Tryz.f105.body.getD .skip) = some ac105 := by kernel_rfl
def ac108 : ACode := (.seq (.ops [oN 4 (.mov (.c (.int .i64 0)))]) (.seq (.ops [oM 5 0,oM 6 1,oN 7 (.call 114 [(.t 5),(.t 6)]),oM 4 7]) .ret))
theorem cc108 : ccode Tryz.prog (min Tryz.f108.ntmps pbase) (Tryz.f108.body.getD .skip) = some ac108 := by kernel_rfl
def ac109 : ACode := (.seq (.ops [oN 4 (.mov (.c (.string (.mk #[]))))]) (.seq (.ops [oN 5 (.mov (.c (.string (.mk #[]))))]) (.seq (.seq (.ops [oN 6 (.mov (.c (.int .i64 0)))]) (.block 0 (.loop (.seq (.seq (.ops [oM 11 6,oM 12 0,oN 13 (.bin .lss (.t 11) (.t 12))]) (.cond (.t 13) .skip (.exit 0))) (.seq (.block 1 (.seq (.seq (.ops [oM 16 6,oN 17 (.bin .gtr (.t 16) (.c (.int .i64 0)))]) (.cond (.t 17) (.ops [oM 18 5,oN 19 (.bin .add (.t 18) (.c (.string (.mk #[47])))),oM 5 19]) .skip)) (.seq (.ops [oN 7 (.mov (.c (.int .i64 0)))]) (.block 2 (.loop (.seq (.seq (.ops [oM 20 7,oM 21 0,oN 22 (.bin .lss (.t 20) (.t 21))]) (.cond (.t 22) .skip (.exit 2))) (.seq (.block 3 (.seq (.ops [oN 8 (.mov (.c (.string (.mk #[46]))))]) (.seq (.seq (.ops [oM 25 1,oN 26 (.len (.t 25)),oN 27 (.mov (.c (.int .i64 0)))]) (.block 4 (.loop (.seq (.ops [oN 28 (.bin .lss (.t 27) (.t 26))]) (.seq (.cond (.t 28) .skip (.exit 4)) (.seq (.block 5 (.seq (.ops [oN 29 (.idx 1 (.t 25) (.t 27)),oN 30 (.ld none (.t 29)),oM 10 30]) (.seq (.ops [oM 31 10,oN 32 (.idx 1 (.t 31) (.c (.int .i64 0))),oN 33 (.ld none (.t 32)),oM 34 6,oN 35 (.bin .eql (.t 33) (.t 34)),oM 36 35,mT 37 10 36,oT 38 (.idx 1 (.t 37) (.c (.int .i64 1))) 36,oT 39 (.ld none (.t 38)) 36,mT 40 7 36,oT 41 (.bin .eql (.t 39) (.t 40)) 36,oN 42 (.pick (.t 36) (.t 41) (.c (.bool false)))]) (.cond (.t 42) (.ops [oN 8 (.mov (.c (.string (.mk #[35]))))]) .skip)))) (.ops [oN 43 (.bin .add (.t 27) (.c (.int .i64 1))),oM 27 43]))))))) (.ops [oM 44 5,oM 45 8,oN 46 (.bin .add (.t 44) (.t 45)),oM 5 46])))) (.ops [oM 23 7,oN 24 (.bin .add (.t 23) (.c (.int .i64 1))),oM 7 24])))))))) (.ops [oM 14 6,oN 15 (.bin .add (.t 14) (.c (.int .i64 1))),oM 6 15])))))) (.seq (.ops [oM 47 5,oM 4 47]) .ret))))
theorem cc109 : ccode Tryz.prog (min Tryz.f109.ntmps pbase) (Tryz.f109.body.getD .skip) = some ac109 := by kernel_rfl
def ac110 : ACode := (.seq (.ops [oN 4 (.mov (.c (.int .i64 0)))]) (.seq (.ops [oN 5 (.mov (.c (.int .i64 0)))]) (.seq (.seq (.ops [oM 11 0,oN 12 (.len (.t 11)),oM 6 12]) (.block 0 (.loop (.seq (.seq (.ops [oM 13 6,oM 14 1,oN 15 (.bin .lss (.t 13) (.t 14))]) (.cond (.t 15) .skip (.exit 0))) (.seq (.block 1 (.seq (.ops [oM 18 0,oM 19 6,oN 20 (.call 58 [(.t 18),(.t 19)]),oN 21 (.not (.t 20))]) (.cond (.t 21) (.ops [oM 22 5,oN 23 (.bin .add (.t 22) (.c (.int .i64 1))),oM 5 23]) .skip))) (.ops [oM 16 6,oN 17 (.bin .add (.t 16) (.c (.int .i64 1))),oM 6 17])))))) (.seq (.ops [oM 24 1,oM 25 0,oN 26 (.len (.t 25)),oN 27 (.bin .sub (.t 24) (.t 26)),oM 7 27]) (.seq (.ops [oN 8 (.mov (.c (.int .i64 0)))]) (.seq (.seq (.ops [oN 9 (.mov (.c (.int .i64 0)))]) (.block 2 (.loop (.seq (.seq (.ops [oM 28 9,oM 29 5,oN 30 (.bin .leq (.t 28) (.t 29))]) (.cond (.t 30) .skip (.exit 2))) (.seq (.block 3 (.seq (.ops [oM 33 5,oM 34 9,oN 35 (.call 74 [(.t 33),(.t 34)]),oM 36 7,oM 37 9,oN 38 (.bin .sub (.t 36) (.t 37)),oN 39 (.call 73 [(.t 38)]),oN 40 (.bin .mul (.t 35) (.t 39)),oM 10 40]) (.seq (.ops [oM 41 9,oN 42 (.bin .rem (.t 41) (.c (.int .i64 2))),oN 43 (.bin .eql (.t 42) (.c (.int .i64 0)))]) (.cond (.t 43) (.ops [oM 44 8,oM 45 10,oN 46 (.bin .add (.t 44) (.t 45)),oM 8 46]) (.ops [oM 47 8,oM 48 10,oN 49 (.bin .sub (.t 47) (.t 48)),oM 8 49]))))) (.ops [oM 31 9,oN 32 (.bin .add (.t 31) (.c (.int .i64 1))),oM 9 32])))))) (.seq (.ops [oM 50 8,oM 4 50]) .ret)))))))
theorem cc110 : ccode Tryz.prog (min Tryz.f110.ntmps pbase) (Tryz.f110.body.getD .skip) = some ac110 := by kernel_rfl
def ac114 : ACode := (.seq (.ops [oN 4 (.mov (.c (.int .i64 0)))]) (.seq (.ops [oM 14 1,oN 15 (.slen (.t 14)),oM 5 15]) (.seq (.block 0 (.seq (.ops [oM 17 5,oN 18 (.bin .eql (.t 17) (.c (.int .i64 0))),oM 19 18,mF 20 1 19,mF 21 0 19,oF 22 (.bin .eql (.t 20) (.t 21)) 19,oN 23 (.pick (.t 19) (.c (.bool true)) (.t 22)),oM 16 23]) (.cond (.t 16) (.seq (.ops [oN 4 (.mov (.c (.int .i64 0)))]) .ret) (.seq (.ops [oM 25 5,oN 26 (.bin .eql (.t 25) (.c (.int .i64 1))),oM 24 26]) (.cond (.t 24) (.seq (.ops [oM 27 0,oM 28 1,oN 29 (.pu .six [(.t 28),(.c (.int .i64 0))]),oN 30 (.call 116 [(.t 27),(.t 29)]),oM 4 30]) .ret) (.seq (.ops [oM 32 5,oM 33 0,oN 34 (.slen (.t 33)),oN 35 (.bin .geq (.t 32) (.t 34)),oM 31 35]) (.cond (.t 31) (.seq (.ops [oN 4 (.mov (.c (.int .i64 (-1))))]) .ret) (.seq (.ops [oM 37 5,oN 38 (.ld none (.c (.pointer (some (.mk 0 0 none))))),oN 39 (.bin .leq (.t 37) (.t 38)),oM 40 39,mT 41 0 40,oT 42 (.slen (.t 41)) 40,oT 43 (.bin .leq (.t 42) (.c (.int .i64 64))) 40,oN 44 (.pick (.t 40) (.t 43) (.c (.bool false))),oM 36 44]) (.cond (.t 36) (.seq (.ops [oM 45 0,oM 46 1,oN 47 (.xcall 117 [(.t 45),(.t 46)]),oM 4 47]) .ret) .skip))))))))) (.seq (.ops [oM 48 1,oN 49 (.pu .six [(.t 48),(.c (.int .i64 0))]),oM 6 49]) (.seq (.ops [oM 50 1,oN 51 (.pu .six [(.t 50),(.c (.int .i64 1))]),oM 7 51]) (.seq (.ops [oN 8 (.mov (.c (.int .i64 0)))]) (.seq (.ops [oM 52 0,oN 53 (.slen (.t 52)),oM 54 5,oN 55 (.bin .sub (.t 53) (.t 54)),oN 56 (.bin .add (.t 55) (.c (.int .i64 1))),oM 9 56]) (.seq (.ops [oN 10 (.mov (.c (.int .i64 0)))]) (.seq (.block 1 (.loop (.seq (.seq (.ops [oM 57 8,oM 58 9,oN 59 (.bin .lss (.t 57) (.t 58))]) (.cond (.t 59) .skip (.exit 1))) (.block 2 (.seq (.seq (.ops [oM 60 0,oM 61 8,oN 62 (.pu .six [(.t 60),(.t 61)]),oM 63 6,oN 64 (.bin .neq (.t 62) (.t 63))]) (.cond (.t 64) (.seq (.ops [oM 65 0,oM 66 8,oN 67 (.bin .add (.t 66) (.c (.int .i64 1))),oM 68 9,oN 69 (.pu (.scut true true) [(.t 65),(.t 67),(.t 68)]),oM 70 6,oN 71 (.call 116 [(.t 69),(.t 70)]),oM 11 71]) (.seq (.seq (.ops [oM 72 11,oN 73 (.bin .lss (.t 72) (.c (.int .i64 0)))]) (.cond (.t 73) (.seq (.ops [oN 4 (.mov (.c (.int .i64 (-1))))]) .ret) .skip)) (.ops [oM 74 8,oM 75 11,oN 76 (.bin .add (.t 75) (.c (.int .i64 1))),oN 77 (.bin .add (.t 74) (.t 76)),oM 8 77]))) .skip)) (.seq (.seq (.ops [oM 78 0,oM 79 8,oN 80 (.bin .add (.t 79) (.c (.int .i64 1))),oN 81 (.pu .six [(.t 78),(.t 80)]),oM 82 7,oN 83 (.bin .eql (.t 81) (.t 82)),oM 84 83,mT 85 0 84,mT 86 8 84,mT 87 8 84,mT 88 5 84,oT 89 (.bin .add (.t 87) (.t 88)) 84,oT 90 (.pu (.scut true true) [(.t 85),(.t 86),(.t 89)]) 84,mT 91 1 84,oT 92 (.bin .eql (.t 90) (.t 91)) 84,oN 93 (.pick (.t 84) (.t 92) (.c (.bool false)))]) (.cond (.t 93) (.seq (.ops [oM 94 8,oM 4 94]) .ret) .skip)) (.seq (.ops [oM 95 8,oN 96 (.bin .add (.t 95) (.c (.int .i64 1))),oM 8 96]) (.seq (.ops [oM 97 10,oN 98 (.bin .add (.t 97) (.c (.int .i64 1))),oM 10 98]) (.seq (.ops [oM 99 5,oN 100 (.ld none (.c (.pointer (some (.mk 0 0 none))))),oN 101 (.bin .leq (.t 99) (.t 100)),oM 102 101,mT 103 10 102,mT 104 8 102,oT 105 (.call 118 [(.t 104)]) 102,oT 106 (.bin .gtr (.t 103) (.t 105)) 102,oN 107 (.pick (.t 102) (.t 106) (.c (.bool false)))]) (.cond (.t 107) (.seq (.ops [oM 108 0,oM 109 8,oN 110 (.pu (.scut true false) [(.t 108),(.t 109)]),oM 111 1,oN 112 (.xcall 117 [(.t 110),(.t 111)]),oM 12 112]) (.seq (.seq (.ops [oM 113 12,oN 114 (.bin .geq (.t 113) (.c (.int .i64 0)))]) (.cond (.t 114) (.seq (.ops [oM 115 12,oM 116 8,oN 117 (.bin .add (.t 115) (.t 116)),oM 4 117]) .ret) .skip)) (.seq (.ops [oN 4 (.mov (.c (.int .i64 (-1))))]) .ret))) (.seq (.ops [oM 118 5,oN 119 (.ld none (.c (.pointer (some (.mk 0 0 none))))),oN 120 (.bin .gtr (.t 118) (.t 119)),oM 121 120,mT 122 10 121,mT 123 8 121,oT 124 (.bin .shr (.t 123) (.c (.int .u64 4))) 121,oT 125 (.bin .add (.c (.int .i64 4)) (.t 124)) 121,oT 126 (.bin .geq (.t 122) (.t 125)) 121,oN 127 (.pick (.t 121) (.t 126) (.c (.bool false))),oM 128 127,mT 129 8 128,mT 130 9 128,oT 131 (.bin .lss (.t 129) (.t 130)) 128,oN 132 (.pick (.t 128) (.t 131) (.c (.bool false)))]) (.cond (.t 132) (.seq (.ops [oM 133 0,oM 134 8,oN 135 (.pu (.scut true false) [(.t 133),(.t 134)]),oM 136 1,oN 137 (.call 119 [(.t 135),(.t 136)]),oM 13 137]) (.seq (.seq (.ops [oM 138 13,oN 139 (.bin .lss (.t 138) (.c (.int .i64 0)))]) (.cond (.t 139) (.seq (.ops [oN 4 (.mov (.c (.int .i64 (-1))))]) .ret) .skip)) (.seq (.ops [oM 140 8,oM 141 13,oN 142 (.bin .add (.t 140) (.t 141)),oM 4 142]) .ret))) .skip)))))))))))) (.seq (.ops [oN 4 (.mov (.c (.int .i64 (-1))))]) .ret))))))))))
theorem cc114 : ccode Tryz.prog (min Tryz.f114.ntmps pbase) (Tryz.f114.body.getD .skip) = some ac114 := by kernel_rfl
def ac116 : ACode := (.seq (.ops [oN 4 (.mov (.c (.int .i64 0)))]) (.seq (.ops [oM 5 0,oM 6 1,oN 7 (.xcall 120 [(.t 5),(.t 6)]),oM 4 7]) .ret))
theorem cc116 : ccode Tryz.prog (min Tryz.f116.ntmps pbase) (Tryz.f116.body.getD .skip) = some ac116 := by kernel_rfl
end Go.Proofs.YtngfogpbljconaaGreatDoor
namespace Go.Proofs.YtngfogpbljconaaGreatDoor
variable [Go.Am.CodeBlk]
open Go.Am
attribute [local irreducible] AW Outs Weak Lends Lend Sp aops atree aop1 Then Round InBlock Done
theorem isGuest_spec (a b : Int) : Sp Tryz.prog 105 [.i a,.i b] (.b (decide (0 ≤ a ∧ a < b))) := by
  refine qy7 Tryz.func105 rfl cc105 rfl ?_
  unfold ac105
  by_cases h : 0 ≤ a
  all_goals
    repeat (first|(refine qz0 ?_;(first|((try (refine g_yes rfl ?_ ?_;(· (refine decide_eq_true ?_; assumption))));(first|(refine m_mov (by conv => lhs; whnf) ?_)|(refine m_lss rfl rfl ?_)|(refine m_geq rfl rfl ?_)|(refine qye rfl ?_ (by conv => lhs; whnf) ?_;(· (refine decide_eq_true ?_; assumption)))|(refine qy3 rfl ?_ (by conv => lhs; whnf) ?_;(· (refine decide_eq_false ?_; assumption)))))|(refine g_noT rfl ?_ ?_;(· (refine decide_eq_false ?_; assumption)))))|refine qz1 ?_|refine qz3 ?_|refine qzj ?_|refine qzc ?_)
    refine qyb ?_
    simp [*]
theorem isGuestCount_spec (a : Int) : Sp Tryz.prog 88 [.i a] (.b (decide (1 ≤ a ∧ a ≤ 12))) := by
  refine qy7 Tryz.func88 rfl cc88 rfl ?_
  unfold ac88
  by_cases h : 1 ≤ a
  all_goals
    repeat (first|(refine qz0 ?_;(first|((try (refine g_yes rfl ?_ ?_;(· (refine decide_eq_true ?_; assumption))));(first|(refine m_mov (by conv => lhs; whnf) ?_)|(refine m_leq rfl rfl ?_)|(refine m_geq rfl rfl ?_)|(refine qye rfl ?_ (by conv => lhs; whnf) ?_;(· (refine decide_eq_true ?_; assumption)))|(refine qy3 rfl ?_ (by conv => lhs; whnf) ?_;(· (refine decide_eq_false ?_; assumption)))))|(refine g_noT rfl ?_ ?_;(· (refine decide_eq_false ?_; assumption)))))|refine qz1 ?_|refine qz3 ?_|refine qzj ?_|refine qzc ?_)
    refine qyb ?_
    simp [*]
theorem qvh (a b c : Int) : Sp Tryz.prog 70 [.i a,.i b,.i c] (.b (decide (b ≤ a ∧ a ≤ c))) := by
  refine qy7 Tryz.func70 rfl cc70 rfl ?_
  unfold ac70
  by_cases h : b ≤ a
  all_goals
    repeat (first|(refine qz0 ?_;(first|((try (refine g_yes rfl ?_ ?_;(· (refine decide_eq_true ?_; assumption))));(first|(refine m_mov (by conv => lhs; whnf) ?_)|(refine m_leq rfl rfl ?_)|(refine m_geq rfl rfl ?_)|(refine qye rfl ?_ (by conv => lhs; whnf) ?_;(· (refine decide_eq_true ?_; assumption)))|(refine qy3 rfl ?_ (by conv => lhs; whnf) ?_;(· (refine decide_eq_false ?_; assumption)))))|(refine g_noT rfl ?_ ?_;(· (refine decide_eq_false ?_; assumption)))))|refine qz1 ?_|refine qz3 ?_|refine qzj ?_|refine qzc ?_)
    refine qyb ?_
    simp [*]
theorem qud {L : List Int} {k : Nat} (h : k < L.length) : L.getD k 0 ∈ L := by simp [h]
end Go.Proofs.YtngfogpbljconaaGreatDoor
namespace Go.Am
variable [Go.Am.CodeBlk]
variable {P : Program} {own : Bool} {d : Option Nat} {s : AS} {K : AS → Prop} {N : Nat}
section
variable {x y z : Opd} {A B : List UInt8}
theorem str_beq (A B : List UInt8) : ((⟨A.toArray⟩ : ByteArray).toList == (⟨B.toArray⟩ : ByteArray).toList) = decide (A = B) := by
  rw [ByteArray.toList_eq,ByteArray.toList_eq,Bool.eq_iff_iff]
  simp
theorem m_eqs (hx : s.ev x = str A) (hy : s.ev y = str B) (k : K (s.put d (.b (decide (A = B))))) : aop1 P own ⟨d,.bin .eql x y,none⟩ s K := by
  refine ⟨_,_,_,hx,hy,rfl,?_⟩
  rw [str_beq]
  exact k
theorem m_eqk {q : IntKind} {a b : Int} (hx : s.ev x = .v (.int q a)) (hy : s.ev y = .v (.int q b)) (k : K (s.put d (.b (decide (a = b))))) : aop1 P own ⟨d,.bin .eql x y,none⟩ s K := by
  refine ⟨_,_,.bool (a == b),hx,hy,by simp [pbin],?_⟩
  rw [show (a == b) = decide (a = b) from by rw [Bool.eq_iff_iff]; simp]
  exact k
theorem m_neqk {q : IntKind} {a b : Int} (hx : s.ev x = .v (.int q a)) (hy : s.ev y = .v (.int q b)) (k : K (s.put d (.b (decide (a ≠ b))))) : aop1 P own ⟨d,.bin .neq x y,none⟩ s K := by
  refine ⟨_,_,.bool (a != b),hx,hy,by simp [pbin],?_⟩
  rw [show (a != b) = decide (a ≠ b) from by rw [Bool.eq_iff_iff]; simp]
  exact k
theorem bytes_extract (A : List UInt8) (l h : Nat) : (⟨A.toArray⟩ : ByteArray).extract l h = ⟨((A.drop l).take (h - l)).toArray⟩ := by
  apply ByteArray.ext
  rw [ByteArray.data_extract]
  apply Array.ext'
  rw [Array.toList_extract]
theorem m_scutb {l h : Nat} (hx : s.ev x = str A) (hl : s.ev y = .i (l : Nat)) (hh : s.ev z = .i (h : Nat)) (h1 : l ≤ h) (h2 : h ≤ A.length) (k : K (s.put d (str ((A.drop l).take (h - l))))) : aop1 P own ⟨d,.pu (.scut true true) [x,y,z],none⟩ s K :=
  m_scut_both hx hl hh h1 (by show h ≤ A.toArray.size; simpa using h2) (by rw [bytes_extract]; exact k)
theorem m_scutl {l : Nat} (hx : s.ev x = str A) (hl : s.ev y = .i (l : Nat)) (h1 : l ≤ A.length) (k : K (s.put d (str (A.drop l)))) : aop1 P own ⟨d,.pu (.scut true false) [x,y],none⟩ s K := by
  refine m_scut_lo hx hl (by show l ≤ A.toArray.size; simpa using h1) ?_
  rw [bytes_extract]
  have : (⟨A.toArray⟩ : ByteArray).size = A.length := by show A.toArray.size = _; simp
  rw [this,List.take_of_length_le (by simp)]
  exact k
theorem m_scuth {h : Nat} (hx : s.ev x = str A) (hh : s.ev y = .i (h : Nat)) (h1 : h ≤ A.length) (k : K (s.put d (str (A.take h)))) : aop1 P own ⟨d,.pu (.scut false true) [x,y],none⟩ s K := by
  refine m_scut_hi hx hh (by show h ≤ A.toArray.size; simpa using h1) ?_
  rw [bytes_extract,List.drop_zero,Nat.sub_zero]
  exact k
theorem m_xcall {f : FuncId} {fn : Func} {e : Array Value → Sem Value} {args : List Opd} {vs : List Value} {v : Value} (h1 : P.funcs[f]? = some fn) (h2 : (fn.name == "runtime.NumGoroutine") = false) (h3 : fn.body.isNone = true) (h4 : Extern.findNext fn = none) (h5 : Extern.find fn = some e)
    (h6 : args.map s.ev = vs.map AV.v) (h7 : ∀ w,(e vs.toArray).run P w = .ok v w) (k : K (s.put d (.v v))) : aop1 P own ⟨d,.xcall f args,none⟩ s K := ⟨fn,e,vs,v,h1,h2,h3,h4,h5,h6,h7,k⟩
end
section
variable {x y i : Opd}
theorem m_mgetk {kt : TypeId} {zv : Value} {es : Array MapEntry} {clock : Nat} {kv : Value} {r : AV} {ok : Bool} (KL : WideMaps.KeyLaw P kt) (hm : MapAt s (s.ev x) es clock) (hi : exV (s.ev i) = some kv) (hk : ∃ l,keyOf P kt kv = some l) (hkeys : ∀ e ∈ es.toList,∃ l,keyOf P kt e.key = some l)
    (h1 : ∀ e ∈ es.toList,e.key = kv → mres ok e.val true = r) (h2 : (∀ e ∈ es.toList,e.key ≠ kv) → mres ok zv false = r) (k : K (s.put d r)) : aop1 P own ⟨d,.mgetk kt zv ok x i,none⟩ s K :=
  ⟨KL,es,clock,kv,hm,hi,hk,hkeys,r,h1,h2,k⟩
theorem m_mrg {r q : Nat} {es : Array MapEntry} {clock : Nat} (hx : s.ev x = .mp q) (hne : q ≠ r) (hq : s.hp q = some (true,[.ob (.map es clock)]))
    (k : ∀ bm : Nat,K (((s.kill r).mem r (true,[.ob (.mapIter (some bm) clock #[] clock)])).put (some r) (.mit r (some q) bm #[] 0))) : aop1 P own ⟨some r,.mrg x,none⟩ s K :=
  ⟨r,rfl,.inl ⟨q,es,clock,hx,hne,hq,k⟩⟩
theorem m_mrgr {r : Nat} {fr : Bool} {es : Array MapEntry} {clock : Nat} (hx : s.ev x = .rmp fr es clock)
    (k : ∀ bm : Nat,K (((s.kill r).mem r (true,[.ob (.mapIter (some bm) clock #[] clock)])).put (some r) (.mit r none bm es clock))) : aop1 P own ⟨some r,.mrg x,none⟩ s K :=
  ⟨r,rfl,.inr ⟨fr,es,clock,hx,k⟩⟩
theorem m_mnx {r q bm ck0 since : Nat} {es0 : Array MapEntry} {seen : Array Nat} {c0 : Nat} {es : Array MapEntry} {clock : Nat} (hx : s.ev x = .mit r (some q) bm es0 ck0) (hr : s.hp r = some (true,[.ob (.mapIter (some bm) since seen c0)]))
    (hne : q ≠ r) (hq : s.hp q = some (true,[.ob (.map es clock)])) (hold : ∀ e ∈ es.toList,e.born < since) (hsc : since ≤ c0) (k1 : (∀ e ∈ es.toList,seen.contains e.born = true) → K (s.put d (.tup [.v (.bool false)])))
    (k2 : ∀ e ∈ es.toList,seen.contains e.born = false → K ((s.mem r (true,[.ob (.mapIter (some bm) since (seen.push e.born) clock)])).put d (.tup [.v (.bool true),.any,.any]))) : aop1 P own ⟨d,.mnx x,none⟩ s K :=
  ⟨r,some q,bm,es0,ck0,since,seen,c0,es,clock,hx,hr,.inl ⟨q,rfl,hne,hq⟩,hold,hsc,k1,k2⟩
theorem m_mnxr {r bm since : Nat} {seen : Array Nat} {c0 : Nat} {es : Array MapEntry} {clock : Nat} (hx : s.ev x = .mit r none bm es clock) (hr : s.hp r = some (true,[.ob (.mapIter (some bm) since seen c0)]))
    (hold : ∀ e ∈ es.toList,e.born < since) (hsc : since ≤ c0) (k1 : (∀ e ∈ es.toList,seen.contains e.born = true) → K (s.put d (.tup [.v (.bool false)])))
    (k2 : ∀ e ∈ es.toList,seen.contains e.born = false → K ((s.mem r (true,[.ob (.mapIter (some bm) since (seen.push e.born) clock)])).put d (.tup [.v (.bool true),.any,.any]))) : aop1 P own ⟨d,.mnx x,none⟩ s K :=
  ⟨r,none,bm,es,clock,since,seen,c0,es,clock,hx,hr,.inr ⟨rfl,rfl,rfl⟩,hold,hsc,k1,k2⟩
theorem m_ment {r q bm ck0 since : Nat} {es0 : Array MapEntry} {seen : Array Nat} {es : Array MapEntry} {clock : Nat} {e : MapEntry} {ka va : AV} (hx : s.ev x = .mit r (some q) bm es0 ck0)
    (hr : s.hp r = some (true,[.ob (.mapIter (some bm) since (seen.push e.born) clock)])) (hne : q ≠ r) (hq : s.hp q = some (true,[.ob (.map es clock)])) (he : e ∈ es.toList) (hn : (es.toList.map (·.born)).Nodup)
    (hka : exV ka = some e.key) (hva : exV va = some e.val) (k : K (s.put d (.tup [ka,va]))) : aop1 P own ⟨d,.ment x,none⟩ s K :=
  ⟨r,some q,bm,es0,ck0,since,seen,es,clock,e,ka,va,hx,hr,.inl ⟨q,rfl,hne,hq⟩,he,hn,hka,hva,k⟩
theorem m_mentr {r bm since : Nat} {seen : Array Nat} {es : Array MapEntry} {clock : Nat} {e : MapEntry} {ka va : AV} (hx : s.ev x = .mit r none bm es clock)
    (hr : s.hp r = some (true,[.ob (.mapIter (some bm) since (seen.push e.born) clock)])) (he : e ∈ es.toList) (hn : (es.toList.map (·.born)).Nodup)
    (hka : exV ka = some e.key) (hva : exV va = some e.val) (k : K (s.put d (.tup [ka,va]))) : aop1 P own ⟨d,.ment x,none⟩ s K :=
  ⟨r,none,bm,es,clock,since,seen,es,clock,e,ka,va,hx,hr,.inr ⟨rfl,rfl,rfl⟩,he,hn,hka,hva,k⟩
theorem m_mdel {kt : TypeId} {r : Nat} {es : Array MapEntry} {clock : Nat} {kv : Value} (KL : WideMaps.KeyLaw P kt) (hx : s.ev x = .mp r) (hr : s.hp r = some (true,[.ob (.map es clock)])) (hi : exV (s.ev i) = some kv) (hk : ∃ l,keyOf P kt kv = some l)
    (hks : ∀ e ∈ es.toList,∃ l,keyOf P kt e.key = some l) (k1 : ∀ (n : Nat) (e : MapEntry),es.toList[n]? = some e → e.key = kv → K ((s.mem r (true,[.ob (.map (es.eraseIdxIfInBounds n) clock)])).put d (.tup [])))
    (k2 : (∀ e ∈ es.toList,e.key ≠ kv) → K ((s.mem r (true,[.ob (.map es clock)])).put d (.tup []))) : aop1 P own ⟨d,.mdel kt x i,none⟩ s K :=
  ⟨KL,r,es,clock,kv,hx,hr,hi,hk,hks,k1,k2⟩
theorem m_mputk {kt : TypeId} {r : Nat} {es : Array MapEntry} {clock : Nat} {kv v : Value} (KL : WideMaps.KeyLaw P kt) (hx : s.ev x = .mp r) (hr : s.hp r = some (true,[.ob (.map es clock)])) (hi : exV (s.ev i) = some kv) (hy : s.ev y = .v v) (hk : ∃ l,keyOf P kt kv = some l) (hkeys : ∀ e ∈ es.toList,∃ l,keyOf P kt e.key = some l)
    (hnew : ∀ e ∈ es.toList,e.key ≠ kv) (k : K (s.mem r (true,[.ob (.map (es.push { key := kv,val := v,born := clock }) (clock + 1))]))) : aop1 P own ⟨none,.mputk kt x i y,none⟩ s K :=
  ⟨KL,r,es,clock,kv,v,hx,hr,hi,hy,hk,hkeys,fun _n e he hk => absurd hk (hnew e (List.mem_of_getElem? he)),fun _ => k⟩
end
def plainM : AV → Bool
  | .v _ => true
  | .rmp _ _ _ => true
  | _ => false
def unf : AV → AV
  | .rmp _ es clock => .rmp false es clock
  | x => x
theorem simL_rmp {C D : Ctx} (hh : C.heap = D.heap) (hr : ∀ b,C.ro b → D.ro b) : ∀ {l : List AV} {ys : List Value},l.all plainM = true → SimL l C ys → SimL (l.map unf) D ys
  | [],_,_,_ => by simp [SimL]
  | _ :: _,[],_,h => by simp [SimL] at h
  | x :: l,y :: ys,h,hs => by
    simp only [List.all_cons,Bool.and_eq_true,SimL,List.map_cons] at h hs ⊢
    refine ⟨?_,simL_rmp hh hr h.2 hs.2⟩
    cases x <;> simp [plainM] at h
    · simpa [SimV,unf] using hs.1
    · have h1 := hs.1
      simp only [SimV,unf] at h1 ⊢
      obtain ⟨b,k1,k2,k3,_⟩ := h1
      exact ⟨b,k1,by rw [← hh]; exact k2,hr b k3,fun e => by cases e⟩
theorem lend_rmp {hp : Hp} {fr : Bool} {es : Array MapEntry} {clock : Nat} : Lend hp (.rmp fr es clock) (.rmp false es clock) := by
  intro w0 mu N tm w phi ro v hS hv
  simp only [SimV] at hv ⊢
  obtain ⟨b,k1,k2,k3,_⟩ := hv
  exact ⟨b,k1,k2,qyc k2,fun e => by cases e⟩
theorem ob_at' {w0 w : World} {mu : Nat → Option Nat} {tm : Array Value} {phi : Nat → Option Nat} {ro : Nat → Prop} (hS : Sim w0 mu N s tm w phi ro) {r k : Nat} {es : Array MapEntry} {clock : Nat} (hr : s.hp r = some (true,[.ob (.map es clock)])) (hk : phi r = some k) :
    w.heap[k]? = some (.map es clock) ∧ (r < pbase → Mine w0 mu k) := by
  rcases hS.liv r _ hr with ⟨h1,_⟩|⟨b',cur,e,h1,h2,_,_,h5⟩|⟨b',o,h0,h1,h2,h3,h4,h5⟩
  · rw [h1] at hk; cases hk
  · exfalso
    simp only [SimR,if_true] at h5
    cases hc : cur.toList with
    | nil => rw [hc] at h5; simp [SimL] at h5
    | cons y ys => rw [hc] at h5; simp [SimL,SimV] at h5
  · rw [h1] at hk
    cases hk
    simp only [Prod.mk.injEq,List.cons.injEq,AV.ob.injEq,and_true,true_and] at h0
    subst h0
    exact ⟨h2,fun hp => (h5.resolve_right fun h => by omega).2⟩
abbrev ctxAll (w : World) : Ctx := { heap := w.heap,ro := fun b => b < w.heap.size,base := w.heap.size,phi := fun _ => none,live := fun _ => false,loc := false }
theorem lend_map {hp : Hp} {r : Nat} {es : Array MapEntry} {clock : Nat} (hr : hp r = some (true,[.ob (.map es clock)])) : Lend hp (.mp r) (.rmp false es clock) := by
  intro w0 mu N tm w phi ro v hS hv
  simp only [SimV] at hv ⊢
  obtain ⟨_,_,b,k1,k2⟩ := hv
  have k3 := (ob_at' hS hr k1).1
  exact ⟨b,k2,k3,qyc k3,fun e => by cases e⟩
theorem qwi {hp : Hp} {l : List AV} (hall : l.all plainM = true) : Lend hp (.agg l) (.agg (l.map unf)) := by
  intro w0 mu N tm w phi ro v hS h
  simp only [SimV] at h ⊢
  obtain ⟨a,h1,h2,h3⟩ := h
  exact ⟨a,h1,by rw [h2,List.length_map],simL_rmp (C := ctx w0 w ro phi ⟨fun _ => .any,hp⟩) (D := ctxAll w) rfl (fun b hb => hS.rob b hb) hall h3⟩
theorem outs_mp {r : Nat} {es : Array MapEntry} {clock : Nat} (hp : r < pbase) (hr : s.hp r = some (true,[.ob (.map es clock)])) : Outs s (.mp r) (.rmp true es clock) := by
  intro w0 N tm w phi ro y hS h
  simp only [SimV] at h ⊢
  obtain ⟨_,_,b,k1,k2⟩ := h
  obtain ⟨k3,k4'⟩ := ob_at' hS hr k1
  have k4 : r < pbase → w0.heap.size ≤ b := fun hp => (k4' hp).resolve_right fun h => by obtain ⟨_,_,h⟩ := h; cases h
  exact ⟨b,k2,k3,⟨k4 hp,qyc k3⟩,fun _ => k4 hp⟩
theorem outs_rmp {es : Array MapEntry} {clock : Nat} : Outs s (.rmp true es clock) (.rmp true es clock) := by
  intro w0 N tm w phi ro y hS h
  simp only [SimV] at h ⊢
  obtain ⟨b,k1,k2,k3,k4⟩ := h
  exact ⟨b,k1,k2,⟨k4 trivial,qyc k2⟩,k4⟩
theorem outs_agg2 {a b a' b' : AV} (h1 : Outs s a a') (h2 : Outs s b b') : Outs s (.agg [a,b]) (.agg [a',b']) := by
  intro w0 N tm w phi ro y hS h
  simp only [SimV] at h ⊢
  obtain ⟨ar,k1,k2,k3⟩ := h
  obtain ⟨l⟩ := ar
  match l,k2,k3 with
  | [p,q],_,k3 =>
    simp only [SimL] at k3
    exact ⟨_,k1,rfl,by simp only [SimL,and_true]; exact ⟨h1 _ _ _ _ _ _ _ hS k3.1,h2 _ _ _ _ _ _ _ hS k3.2.1⟩⟩
theorem outs_sl_take {r z n : Nat} {cs : List AV} (hr : s.hp r = some (true,cs)) (hl : n * z ≤ cs.length) (hall : cs.all plainV = true) :
    Outs s (.sl r z 0 n) (.ro true z (cs.take (n * z)) n) := by
  intro w0 N tm w phi ro y hS hy
  simp only [SimV] at hy ⊢
  rcases hy.2.2 with ⟨h1,_,rfl,rfl⟩|⟨b,o,cap,cur,e,h1,rfl,h3,h4,h5,h6,h7⟩
  · left
    exact ⟨rfl,by simp,none,0,rfl,fun _ => ⟨rfl,rfl⟩⟩
  · right
    have ho : o = 0 := by
      rcases h4 with h4|h4
      · exact h4
      · exact absurd h4.2 (Nat.lt_irrefl _)
    subst ho
    rcases hS.liv r _ hr with ⟨h8,_⟩|⟨b',cur',e',h8,h9,h10,h11,h12⟩|⟨b',o',_,h8,h9,h10,_⟩
    · have : phi r = some b := h1
      rw [h8] at this; cases this
    case inr.inr => exact ob_not_cells h8 h9 h10 h1 h3
    · have h1' : phi r = some b := h1
      rw [h8] at h1'
      cases h1'
      have h3' : w.heap[b]? = some (.cells cur e (0,0)) := h3
      rw [h9] at h3'
      cases h3'
      have hb : w0.heap.size ≤ b := (h11.resolve_right fun h => by cases h.2).2.resolve_right fun h => by obtain ⟨_,_,h⟩ := h; cases h
      refine ⟨b,0,cap,cur,e,(0,0),rfl,h9,⟨hb,qyc h9⟩,by rw [List.length_take]; omega,h5,fun _ => ⟨hb,rfl,rfl,h6,by omega⟩,?_⟩
      simp only [SimR,if_true] at h12
      rw [List.drop_zero]
      exact (qxg hall h12).take _
theorem step_opsW {o : AOper} {l : List AOper} {s' : AS} {Q : AS → Prop} (hw : Weak s s') (h : aop1 P own o s' fun s' => aops P own l s' Q) : aops P own (o :: l) s Q := ⟨s',hw,h⟩
/- Results of which some lie in cells. -/
inductive RV where
  | t (n : Nat)
  | c (a k : Nat)
def resG1 (P : Program) : ResultVar → Option RV
  | .tmp t => some (.t t)
  | .cell a t => (shapeT P t).bind fun k => k.map fun k => .c a k
def resG (P : Program) (fn : Func) : Option (List RV) := fn.results.toList.mapM (resG1 P)
def rvOk (s : AS) : RV → AV → Prop
  | .t n,x => s.tm n = x
  | .c a k,x => ∃ r off fl cs,s.tm a = .pt r off ∧ s.hp r = some (fl,cs) ∧ off + k ≤ cs.length ∧ x = .agg ((cs.drop off).take k)
def rvsOk (s : AS) : List RV → List AV → Prop
  | [],[] => True
  | r :: rs,x :: xs => rvOk s r x ∧ rvsOk s rs xs
  | _,_ => False
def tupAV : List AV → AV
  | [x] => x
  | xs => .tup xs
def DoneG (rs : List RV) (res : AV) : Exit → AS → Prop
  | .normal,s|.ret,s => ∃ xs,rvsOk s rs xs ∧ Outs s (tupAV xs) res
  | _,_ => False
theorem rv_run {w w' : World} {mu : Nat → Option Nat} {a' : Act} {phi : Nat → Option Nat} {ro : Nat → Prop} (hS : Sim w mu N s a'.tmps w' phi ro) {r : ResultVar} {rv : RV} {x : AV} (h1 : resG1 P r = some rv) (h2 : rvOk s rv x) :
    ∃ y,(resOne a'.tmps r).run P w' = .ok y w' ∧ SimV x (ctx w w' ro phi s) y := by
  cases r with
  | tmp t =>
    simp only [resG1,Option.some.injEq] at h1
    subst h1
    simp only [rvOk] at h2
    refine ⟨_,rfl,?_⟩
    rw [← h2]
    exact hS.tms t
  | cell a t =>
    simp only [resG1] at h1
    rw [Option.bind_eq_some_iff] at h1
    obtain ⟨k0,hk0,h1⟩ := h1
    rw [Option.map_eq_some_iff] at h1
    obtain ⟨k,rfl,rfl⟩ := h1
    obtain ⟨r,off,fl,cs,hta,hra,hle,rfl⟩ := h2
    obtain ⟨dd,i,ht,hi,hik,hdd⟩ := shapeT_some hk0
    have hv := hS.tms a
    rw [hta] at hv
    simp only [SimV] at hv
    obtain ⟨_,_,b,hb',hy,cur1,e1,hcell1⟩ := hv
    obtain ⟨cur,e0,hcell,hsim,_⟩ := hS.cell hra hb' hcell1
    have hl := hsim.list
    have hlen := hl.length_le
    simp only [Array.length_toList] at hlen
    have hcell' : w'.heap[b]? = some (.cells cur e0 (0,0)) := hcell
    have hld : (loadVar t ⟨b,off,none⟩).run P w' = .ok (.agg ((cur.toList.drop off).take k).toArray) w' := by
      have hrun := run_load_agg (P := P) (w := w') (b := b) (off := off) ht hi hdd hcell' (by omega)
      rw [hik] at hrun
      simpa [Instr.loadAt,Instr.sureAddr] using hrun
    refine ⟨.agg ((cur.toList.drop off).take k).toArray,by simp [resOne,hy,asAddr,hld],?_⟩
    simp only [SimV]
    refine ⟨_,rfl,by simp; omega,?_⟩
    exact ((hl.drop off).take k).shorter k (by simp; omega)
theorem rvs_run {w w' : World} {mu : Nat → Option Nat} {a' : Act} {phi : Nat → Option Nat} {ro : Nat → Prop} (hS : Sim w mu N s a'.tmps w' phi ro) : ∀ {rs : List ResultVar} {rvs : List RV} {xs : List AV},rs.mapM (resG1 P) = some rvs → rvsOk s rvs xs →
    ∃ ys,(rs.mapM (m := Sem) (resOne a'.tmps)).run P w' = .ok ys w' ∧ SimL xs (ctx w w' ro phi s) ys ∧ ys.length = xs.length
  | [],rvs,xs,h1,h2 => by
    simp at h1
    subst h1
    cases xs with
    | nil => exact ⟨[],by simp,by simp [SimL],rfl⟩
    | cons => exact h2.elim
  | r :: rs,rvs,xs,h1,h2 => by
    rw [List.mapM_cons] at h1
    simp only [Option.bind_eq_bind,Option.bind_eq_some_iff,Option.pure_def,Option.some.injEq] at h1
    obtain ⟨rv,g1,rvs',g2,rfl⟩ := h1
    cases xs with
    | nil => exact h2.elim
    | cons x xs =>
      obtain ⟨y,k1,k2⟩ := rv_run hS g1 h2.1
      obtain ⟨ys,k3,k4,k5⟩ := rvs_run hS g2 h2.2
      refine ⟨y :: ys,?_,?_,by simp [k5]⟩
      · rw [List.mapM_cons]
        simp only [Sem.run_bind,k1,Result.andThen_ok,k3,Sem.run_pure]
      · simp only [SimL]; exact ⟨k2,k4⟩
theorem specG_of {f : FuncId} {fn : Func} {code : Code} {ac : ACode} {rvs : List RV} {asx : List AV} {res : AV} (hf : P.funcs[f]? = some fn) (hb : fn.body = some code) (hc : ccode P (min fn.ntmps pbase) code = some ac) (hr : resG P fn = some rvs)
    (h : AW P (min fn.ntmps pbase) ac (enter0 asx) (DoneG rvs res)) : Sp P f asx res := by
  intro w vs hg hent
  refine calls_of_wp hf hb (wp_mono (h code hc w (fun _ => none) _ w ⟨rfl,_,_,enter0_sim hg hent⟩) fun e a' w' hA => ?_)
  obtain ⟨s',h1,hf',phi,ro,hS⟩ := hA
  have fin : (∃ xs,rvsOk s' rvs xs ∧ Outs s' (tupAV xs) res) → a'.defers = [] ∧ ∃ v,(results fn a'.tmps).run P w' = .ok v w' ∧ ∃ v',Ending.returned v = .returned v' ∧ More w w' ∧ SimV res (fresh w w') v' := by
    rintro ⟨xs,hx,ho⟩
    obtain ⟨ys,k1,k2,k3⟩ := rvs_run hS hr hx
    have hr0 : results fn a'.tmps = (do let vs ← fn.results.mapM (resOne a'.tmps); pure (if h : vs.size = 1 then vs[0] else .tuple vs)) := rfl
    have hm : (fn.results.mapM (m := Sem) (resOne a'.tmps)).run P w' = .ok ys.toArray w' := by
      rw [Array.mapM_eq_mapM_toList,Sem.run_map,k1]
      rfl
    refine ⟨hf',if h : ys.toArray.size = 1 then ys.toArray[0] else .tuple ys.toArray,?_,_,rfl,⟨hS.os,hS.tape,hS.output,hS.size,fun b hb => hS.kept b hb (fun r => by simp)⟩,ho w (min fn.ntmps pbase) a'.tmps w' phi ro _ hS ?_⟩
    · rw [hr0,Sem.run_bind,hm]
      simp
    · match xs,ys,k2,k3 with
      | [x],[y],k2,_ =>
        simp only [SimL] at k2
        simpa [tupAV] using k2.1
      | [],[],_,_ => simp [tupAV,SimV,SimL]
      | x :: x' :: xs,y :: y' :: ys,k2,k3 =>
        simp only [tupAV,SimV]
        refine ⟨(y :: y' :: ys).toArray,by simp,by simpa using k3,k2⟩
  cases e with
  | normal => exact fin h1
  | ret => exact fin h1
  | exit id => exact h1.elim
  | goto l => exact h1.elim
  | panic c => exact h1.elim
  | outgrown => exact h1.elim
theorem ret_doneg2 {a k t r : Nat} {fl : Bool} {cs : List AV} {res : AV} (h1 : s.tm a = .pt r 0) (h2 : s.hp r = some (fl,cs)) (h3 : cs.length = k) (h4 : Outs s (.tup [.agg cs,s.tm t]) res) : DoneG [.c a k,.t t] res .ret s :=
  ⟨[.agg cs,s.tm t],⟨⟨r,0,fl,cs,h1,h2,by omega,by rw [List.drop_zero,List.take_of_length_le (by omega)]⟩,rfl,trivial⟩,h4⟩
end Go.Am
namespace Go.Am
variable [Go.Am.CodeBlk]
variable {P : Program} {own : Bool} {N : Nat} {s : AS} {K : AS → Prop} {d : Option Nat}
theorem weak_nilslot (t q z : Nat) (fl : Bool) (ht : s.tm t = .v (.slice none 0 0)) (hq : s.hp q = none) (hqp : q < pbase) : Weak s ((s.mem q (fl,[])).put (some t) (.sl q z 0 0)) := by
  intro w0 mu N a w hS
  obtain ⟨hf,phi,ro,hS⟩ := hS
  have hS1 := hS.born hq hqp (fl,[]) none rfl
  refine ⟨hf,_,ro,{ hS1 with tms := fun t' => ?_ }⟩
  by_cases e : t' = t
  · subst e
    have h := hS.tms t'
    rw [ht] at h
    simp only [SimV] at h
    show SimV (if t' = t' then .sl q z 0 0 else _) _ _
    rw [if_pos rfl]
    simp only [SimV]
    exact ⟨rfl,by simp [ctx,AS.mem,AS.put],.inl ⟨by simp [ctx],trivial,trivial,h⟩⟩
  · show SimV (if t' = t then .sl q z 0 0 else (s.mem q (fl,[])).tm t') _ _
    rw [if_neg e]
    exact hS1.tms t'
def outR (s : AS) (g : Nat → Nat) (ho : List (Nat × (Bool × List AV))) : Hp := fun q => (look (ho.map fun p => (g p.1,renR g p.2)) q).or (s.hp q)
theorem look_isSome {β : Type} {l : List (Nat × β)} {t : Nat} : (look l t).isSome = true ↔ t ∈ l.map (·.1) := by
  induction l with
  | nil => simp [look]
  | cons p l ih =>
    obtain ⟨k,x⟩ := p
    simp only [look,List.map_cons,List.mem_cons]
    by_cases e : t = k
    · simp [e]
    · rw [if_neg e,ih]; simp [e]
theorem look_map {g : Nat → Nat} {h : (Bool × List AV) → (Bool × List AV)} : ∀ {l : List (Nat × (Bool × List AV))} {r : Nat} {c : Bool × List AV},(l.map fun p => g p.1).Nodup → look l r = some c → look (l.map fun p => (g p.1,h p.2)) (g r) = some (h c)
  | [],_,_,_,e => by simp [look] at e
  | (k,x) :: l,r,c,hn,e => by
    simp only [look,List.map_cons] at e ⊢
    simp only [List.map_cons,List.nodup_cons] at hn
    by_cases hk : r = k
    · subst hk
      rw [if_pos rfl] at e ⊢
      cases e
      rfl
    · rw [if_neg hk] at e
      have hm := qxh e
      have hne : ¬ g r = g k := fun e2 => hn.1 (List.mem_map.2 ⟨(r,c),hm,e2⟩)
      rw [if_neg hne]
      exact look_map hn.2 e
theorem look_inj {g : Nat → Nat} : ∀ {l : List (Nat × (Bool × List AV))} {r r' : Nat},(l.map fun p => g p.1).Nodup → r ∈ l.map (·.1) → r' ∈ l.map (·.1) → g r = g r' → r = r'
  | [],_,_,_,h,_,_ => by simp at h
  | (k,x) :: l,r,r',hn,h1,h2,e => by
    simp only [List.map_cons,List.nodup_cons,List.mem_cons] at hn h1 h2
    have key : ∀ q,q ∈ l.map (·.1) → g q ∈ l.map fun p => g p.1 := fun q hq => by
      obtain ⟨p,hp,rfl⟩ := List.mem_map.1 hq
      exact List.mem_map.2 ⟨p,hp,rfl⟩
    rcases h1 with rfl|h1
    · rcases h2 with rfl|h2
      · rfl
      · exact absurd (e ▸ key _ h2) hn.1
    · rcases h2 with rfl|h2
      · exact absurd (e ▸ key _ h1) hn.1
      · exact look_inj hn.2 h1 h2 e
def HasI (s : AS) (g : Nat → Nat) : List (Nat × (Bool × List AV)) → Prop
  | [] => True
  | (r,c) :: l => s.hp (g r) = some (renR g c) ∧ HasI s g l
def HasO (s : AS) (g : Nat → Nat) : List (Nat × (Bool × List AV)) → Prop
  | [] => True
  | (r,c) :: l => (∃ c0,s.hp (g r) = some c0 ∧ (c0 = renR g c ∨ (c.2 = [] ∧ c0.2 = []))) ∧ HasO s g l
theorem HasI.all {g : Nat → Nat} : ∀ {l : List (Nat × (Bool × List AV))},HasI s g l → ∀ p ∈ l,s.hp (g p.1) = some (renR g p.2)
  | [],_,_,hp => by simp at hp
  | _ :: _,h,p,hp => by
    rcases List.mem_cons.1 hp with rfl|hp
    · exact h.1
    · exact HasI.all h.2 p hp
theorem HasO.all {g : Nat → Nat} : ∀ {l : List (Nat × (Bool × List AV))},HasO s g l → ∀ p ∈ l,∃ c0,s.hp (g p.1) = some c0 ∧ (c0 = renR g p.2 ∨ (p.2.2 = [] ∧ c0.2 = []))
  | [],_,_,hp => by simp at hp
  | _ :: _,h,p,hp => by
    rcases List.mem_cons.1 hp with rfl|hp
    · exact h.1
    · exact HasO.all h.2 p hp
theorem m_callR {f : FuncId} {args : List Opd} {asx : List AV} {hl ho : List (Nat × (Bool × List AV))} {res : AV} (g : Nat → Nat) (hs : SpH P f asx (look hl) res (look ho)) (ha : args.map s.ev = renL g asx)
    (hha : ownL true asx = true) (hra : refsL (fun r => (look hl r).isSome) asx = true)
    (hI : HasI s g hl) (hnd : (ho.map fun p => g p.1).Nodup) (hst : ∀ p ∈ hl,p.1 ∈ ho.map (·.1)) (hfr : ∀ p ∈ ho,p.1 ∈ hl.map (·.1) ∨ (s.hp (g p.1) = none ∧ g p.1 < pbase))
    (hoI : ∀ p ∈ hl,ownL true p.2.2 = true ∧ refsL (fun r => (look hl r).isSome) p.2.2 = true) (hoO : ∀ p ∈ ho,ownL false p.2.2 = true) (hoR : ownV false res = true)
    (k : K (AS.put ⟨s.tm,outR s g ho⟩ d (renV g res))) : aop1 P true ⟨d,.call f args,none⟩ s K := by
  have has := hI.all
  refine m_callh g hs ?_ ⟨fun r c hc => has _ (qxh hc),fun r r' h1 h2 e => look_inj hnd (look_isSome.1 h1) (look_isSome.1 h2) e,fun r hr => ?_,fun r hr hn => ?_,fun r c hc => ?_,fun q hq => ?_,fun r c hc => hoI _ (qxh hc),fun r c hc => hoO _ (qxh hc),hoR⟩ k
  · rw [ha]
    exact lendsH_ren (fun r c hc => by rw [has _ (qxh hc)]; rfl) hha hra
  · obtain ⟨p,hp,rfl⟩ := List.mem_map.1 (look_isSome.1 hr)
    exact look_isSome.2 (hst p hp)
  · obtain ⟨p,hp,rfl⟩ := List.mem_map.1 (look_isSome.1 hr)
    rcases hfr p hp with h1|h1
    · have := look_isSome.2 h1
      rw [hn] at this
      cases this
    · exact h1
  · show (look _ (g r)).or _ = _
    rw [look_map hnd hc]
    rfl
  · show (look (ho.map fun p => (g p.1,renR g p.2)) q).or _ = _
    have : look (ho.map fun p => (g p.1,renR g p.2)) q = none := by
      cases h : look (ho.map fun p => (g p.1,renR g p.2)) q with
      | none => rfl
      | some c =>
        obtain ⟨p,hp,e⟩ := List.mem_map.1 (qxh h)
        cases e
        exact absurd rfl (hq p.1 (look_isSome.2 (List.mem_map.2 ⟨p,hp,rfl⟩)))
    rw [this]
    rfl
theorem quc {hl ho : List (Nat × (Bool × List AV))} {res : AV} (h1 : ∀ p ∈ hl,pbase ≤ p.1) (h2 : ∀ p ∈ ho,ownL false p.2.2 = true ∧ refsL (fun r => (look ho r).isSome) p.2.2 = true) (h3 : ownV false res = true ∧ refsV (fun r => (look ho r).isSome) res = true) : Static (look hl) res (look ho) :=
  ⟨fun r hr => by
    obtain ⟨p,hp,rfl⟩ := List.mem_map.1 (look_isSome.1 hr)
    exact h1 p hp,fun r c hc => h2 _ (qxh hc),h3⟩
theorem ret_R {ts : List Nat} {res : AV} {hl ho : List (Nat × (Bool × List AV))} (g : Nat → Nat) (h1 : resAV s ts = renV g res) (hO : HasO s g ho) (h3 : ∀ p ∈ hl,g p.1 = p.1 ∧ p.1 ∈ ho.map (·.1))
    (h4 : ∀ p ∈ ho,p.1 ∈ hl.map (·.1) ∨ g p.1 < pbase) (h5 : (ho.map fun p => g p.1).Nodup) : DoneH ts res (look hl) (look ho) .ret s := by
  have h2 := hO.all
  refine ret_doneh g h1 (fun r c hc => h2 _ (qxh hc)) (fun r hr => ?_) (fun r hr hn => ?_) fun r r' a b e => look_inj h5 (look_isSome.1 a) (look_isSome.1 b) e
  · obtain ⟨p,hp,rfl⟩ := List.mem_map.1 (look_isSome.1 hr)
    exact ⟨(h3 p hp).1,look_isSome.2 (h3 p hp).2⟩
  · obtain ⟨p,hp,rfl⟩ := List.mem_map.1 (look_isSome.1 hr)
    rcases h4 p hp with k|k
    · have := look_isSome.2 k
      rw [hn] at this
      cases this
    · exact k
def HasJ (s : AS) (f : Nat → Nat) : List (Nat × (Bool × List AV)) → Prop
  | [] => True
  | (r,(true,cs)) :: l => s.hp (f r) = some (true,cs) ∧ HasJ s f l
  | (r,(false,cs)) :: l => s.hp (f r) = some (false,renL f cs) ∧ HasJ s f l
theorem HasJ.at {f : Nat → Nat} : ∀ {h : List (Nat × (Bool × List AV))} {r : Nat} {c : Bool × List AV},HasJ s f h → (r,c) ∈ h → ∃ c0,s.hp (f r) = some c0 ∧ cellsRen f c0 c
  | [],_,_,_,hm => by simp at hm
  | (k,(true,cs)) :: l,r,c,h,hm => by
    rcases List.mem_cons.1 hm with e|hm
    · cases e; exact ⟨_,h.1,.inl ⟨rfl,rfl⟩⟩
    · exact HasJ.at h.2 hm
  | (k,(false,cs)) :: l,r,c,h,hm => by
    rcases List.mem_cons.1 hm with e|hm
    · cases e; exact ⟨_,h.1,.inr ⟨rfl,.inl rfl⟩⟩
    · exact HasJ.at h.2 hm
theorem weak_stR {l : List (Nat × AV)} {h : List (Nat × (Bool × List AV))} (f : Nat → Nat) (hl : HasF s f l) (hh : HasJ s f h) (hnd : (h.map fun p => f p.1).Nodup) (hpb : ∀ p ∈ h,(p.1 < pbase ∧ f p.1 < pbase) ∨ (pbase ≤ p.1 ∧ f p.1 = p.1))
    (hr : refsT (fun r => (look h r).isSome) l = true) (hrh : refsH (fun r => (look h r).isSome) h = true) : Weak s (st l h) := by
  refine weak_ren f (fun t => ?_) (fun r c' hc => hh.at (qxh hc)) (fun r r' h1 h2 e => look_inj hnd (look_isSome.1 h1) (look_isSome.1 h2) e) (fun r hr' => ?_) (fun t => ?_) (fun r cs hc => ?_)
  · show (look l t).getD .any = .any ∨ s.tm t = renV f ((look l t).getD .any)
    cases hx : look l t with
    | none => exact .inl rfl
    | some x => exact .inr (look_hasF hl hx)
  · obtain ⟨p,hp,rfl⟩ := List.mem_map.1 (look_isSome.1 hr')
    exact hpb p hp
  · show refsV (fun r => (look h r).isSome) ((look l t).getD .any) = true
    cases hx : look l t with
    | none => rfl
    | some x => exact look_refs hr hx
  · have h1 : (false || refsL (fun r => (look h r).isSome) cs) = true := look_refsH hrh hc
    rw [Bool.false_or] at h1
    exact h1
def CutQ (R : AS) (Q : Exit → AS → Prop) : Exit → AS → Prop
  | .normal,s => Weak s R
  | e,s => Q e s
theorem AW_cutloop {id : Nat} {c y : ACode} {Q : Exit → AS → Prop} (R : AS) (k : AW P N y R Q) (h : AW P N (.loop c) s (InBlock id (CutQ R Q))) : AW P N (.loop c) s (InBlock id (Then (fun s' => AW P N y s' Q) Q)) := by
  have key : ∀ e s',CutQ R Q e s' → Then (fun s' => AW P N y s' Q) Q e s' := by
    intro e s' he
    cases e <;> first|exact qxe he k|exact he
  refine AW_mono h fun e s' he => ?_
  cases e with
  | exit i =>
    simp only [InBlock] at he ⊢
    split at he
    · rename_i hi
      rw [if_pos hi]
      exact key _ _ he
    · rename_i hi
      rw [if_neg hi]
      exact key _ _ he
  | normal => exact key .normal _ he
  | ret => exact key .ret _ he
  | goto l => exact key (.goto l) _ he
  | panic x => exact key (.panic x) _ he
  | outgrown => exact key .outgrown _ he
end Go.Am
namespace Go.Am
variable [Go.Am.CodeBlk]
variable {P : Program} {own : Bool} {N : Nat} {s : AS} {K : AS → Prop} {d : Option Nat}
abbrev AV.u (a : Nat) : AV := .v (.int .u16 (a : Int))
theorem wrap16 {a : Nat} (h : a < 65536) : IntKind.u16.wrap (a : Int) = (a : Int) := by
  have : IntKind.u16.wrap (a : Int) = (a : Int) % 65536 := by simp [IntKind.wrap,IntKind.bits,IntKind.signed]
  omega
theorem ofInt16 {a : Nat} (h : a < 65536) : (BitVec.ofInt IntKind.u16.bits (a : Int)).toNat = a := by
  show (BitVec.ofInt 16 (a : Int)).toNat = a
  rw [BitVec.ofInt_natCast,BitVec.toNat_ofNat]
  omega
theorem and16_lt {a b : Nat} (h : a < 65536) : a &&& b < 65536 := Nat.lt_of_le_of_lt Nat.and_le_left h
theorem or16_lt {a b : Nat} (h : a < 65536) (h2 : b < 65536) : a ||| b < 65536 := Nat.or_lt_two_pow (n := 16) h h2
theorem shl16_lt {k : Nat} (h : k < 16) : 1 <<< k < 65536 := by
  rw [Nat.one_shiftLeft]
  exact Nat.pow_lt_pow_right (by decide) h
section
variable {x y : Opd} {a b k : Nat}
theorem m_shr16 (hx : s.ev x = .u a) (hy : s.ev y = .i (k : Nat)) (hk : k < 16) (kk : K (s.put d (.u (a >>> k)))) : aop1 P own ⟨d,.bin .shr x y,none⟩ s K := by
  refine ⟨_,_,_,hx,hy,?_,kk⟩
  have h1 : ¬ ((k : Nat) : Int) < 0 := by omega
  have h2 : min ((k : Nat) : Int).toNat IntKind.u16.bits = k := by show min _ 16 = k; omega
  show (if ((k : Nat) : Int) < 0 then none else some (Value.int .u16 ((a : Int).fdiv (2 ^ (min ((k : Nat) : Int).toNat IntKind.u16.bits))))) = _
  rw [if_neg h1,h2,Nat.shiftRight_eq_div_pow]
  congr 2
  rw [Int.fdiv_eq_ediv_of_nonneg _ (by exact Int.le_of_lt (Int.pow_pos (by decide)))]
  push_cast
  rfl
theorem m_shl16 (hx : s.ev x = .u 1) (hy : s.ev y = .i (k : Nat)) (hk : k < 16) (kk : K (s.put d (.u (1 <<< k)))) : aop1 P own ⟨d,.bin .shl x y,none⟩ s K := by
  refine ⟨_,_,_,hx,hy,?_,kk⟩
  have h1 : ¬ ((k : Nat) : Int) < 0 := by omega
  have h2 : min ((k : Nat) : Int).toNat IntKind.u16.bits = k := by show min _ 16 = k; omega
  show (if ((k : Nat) : Int) < 0 then none else some (Value.int .u16 (IntKind.u16.wrap ((1 : Int) * 2 ^ (min ((k : Nat) : Int).toNat IntKind.u16.bits))))) = _
  rw [if_neg h1,h2]
  congr 2
  have : ((1 : Int) * (2 : Int) ^ k) = ((1 <<< k : Nat) : Int) := by rw [Nat.one_shiftLeft,Int.one_mul]; push_cast; rfl
  exact (congrArg _ this).trans (wrap16 (shl16_lt hk))
theorem m_and16 (hx : s.ev x = .u a) (hy : s.ev y = .u b) (ha : a < 65536) (hb : b < 65536) (kk : K (s.put d (.u (a &&& b)))) : aop1 P own ⟨d,.bin .and x y,none⟩ s K := by
  refine ⟨_,_,_,hx,hy,?_,kk⟩
  show some (Value.int .u16 (IntKind.u16.wrap ((BitVec.ofInt IntKind.u16.bits (a : Int) &&& BitVec.ofInt IntKind.u16.bits (b : Int)).toNat : Int))) = _
  rw [BitVec.toNat_and,ofInt16 ha,ofInt16 hb,wrap16 (and16_lt ha)]
theorem m_or16 (hx : s.ev x = .u a) (hy : s.ev y = .u b) (ha : a < 65536) (hb : b < 65536) (kk : K (s.put d (.u (a ||| b)))) : aop1 P own ⟨d,.bin .or x y,none⟩ s K := by
  refine ⟨_,_,_,hx,hy,?_,kk⟩
  show some (Value.int .u16 (IntKind.u16.wrap ((BitVec.ofInt IntKind.u16.bits (a : Int) ||| BitVec.ofInt IntKind.u16.bits (b : Int)).toNat : Int))) = _
  rw [BitVec.toNat_or,ofInt16 ha,ofInt16 hb,wrap16 (or16_lt ha hb)]
theorem m_eql16 (hx : s.ev x = .u a) (hy : s.ev y = .u b) (kk : K (s.put d (.b (decide (a = b))))) : aop1 P own ⟨d,.bin .eql x y,none⟩ s K := by
  refine ⟨_,_,_,hx,hy,rfl,?_⟩
  rw [show (((a : Nat) : Int) == ((b : Nat) : Int)) = decide (a = b) from by rw [Bool.eq_iff_iff]; simp; omega]
  exact kk
theorem m_and16_1 (hx : s.ev x = .u a) (hy : s.ev y = .u 1) (ha : a < 65536) (kk : K (s.put d (.u (a &&& 1)))) : aop1 P own ⟨d,.bin .and x y,none⟩ s K := m_and16 hx hy ha (by decide) kk
theorem m_eql16_1 (hx : s.ev x = .u a) (hy : s.ev y = .u 1) (kk : K (s.put d (.b (decide (a = 1))))) : aop1 P own ⟨d,.bin .eql x y,none⟩ s K := m_eql16 hx hy kk
end
theorem bit_and (a k : Nat) : decide ((a >>> k) &&& 1 = 1) = a.testBit k := by
  rw [Nat.testBit,Nat.and_comm]
  have := Nat.one_and_eq_mod_two (a >>> k)
  rcases Nat.mod_two_eq_zero_or_one (a >>> k) with h|h <;> simp [this,h]
theorem bit_or (a k i : Nat) : (a ||| 1 <<< k).testBit i = (a.testBit i || decide (i = k)) := by
  rw [Nat.testBit_or,Nat.one_shiftLeft,Nat.testBit_two_pow]
  by_cases h : k = i
  · subst h; simp
  · simp [h,Ne.symm h]
end Go.Am
namespace Go.Am
variable [Go.Am.CodeBlk]
mutual
def readV : AV → Bool
  | .v _ => true
  | .ro fr _ cs _ => !fr && readL cs
  | .rp cs => readL cs
  | .any => false
  | .sl _ _ _ _ => false
  | .pt _ _ => false
  | .agg _ => false
  | .tup _ => false
  | .mp _ => false
  | .itr _ => false
  | .ob _ => false
  | .fn _ _ _ => false
  | .rmp _ _ _ => false
  | .fu _ _ _ => false
  | .mit _ _ _ _ _ => false
def readL : List AV → Bool
  | [] => true
  | a :: l => readV a && readL l
end
mutual
theorem SimV.read : ∀ (x : AV) (C D : Ctx) (y : Value),readV x = true → D.heap = C.heap → (∀ b,C.ro b → D.ro b) → SimV x C y → SimV x D y
  | .v _,_,_,_,_,_,_,h => by simpa only [SimV] using h
  | .ro fr z cs n,C,D,y,hr,hh,hro,h => by
    simp only [readV,Bool.and_eq_true,Bool.not_eq_true'] at hr
    simp only [SimV] at h ⊢
    rcases h with h|⟨b,o,cap,cur,e,fz,h1,h2,h3,h4,h5,h6,h7⟩
    · exact .inl h
    · exact .inr ⟨b,o,cap,cur,e,fz,h1,by rw [hh]; exact h2,hro b h3,h4,h5,(fun e => by rw [hr.1] at e; cases e),SimL.read cs C.out D.out _ hr.2 hh hro h7⟩
  | .rp cs,C,D,y,hr,hh,hro,h => by
    simp only [readV] at hr
    simp only [SimV] at h ⊢
    obtain ⟨b,o,cur,e,fz,h1,h2,h3,h4⟩ := h
    exact ⟨b,o,cur,e,fz,h1,by rw [hh]; exact h2,hro b h3,SimL.read cs C.out D.out _ hr hh hro h4⟩
  | .any,_,_,_,hr,_,_,_ => by simp [readV] at hr
  | .sl _ _ _ _,_,_,_,hr,_,_,_ => by simp [readV] at hr
  | .pt _ _,_,_,_,hr,_,_,_ => by simp [readV] at hr
  | .agg _,_,_,_,hr,_,_,_ => by simp [readV] at hr
  | .tup _,_,_,_,hr,_,_,_ => by simp [readV] at hr
  | .mp _,_,_,_,hr,_,_,_ => by simp [readV] at hr
  | .itr _,_,_,_,hr,_,_,_ => by simp [readV] at hr
  | .ob _,_,_,_,hr,_,_,_ => by simp [readV] at hr
  | .fn _ _ _,_,_,_,hr,_,_,_ => by simp [readV] at hr
  | .rmp _ _ _,_,_,_,hr,_,_,_ => by simp [readV] at hr
  | .fu _ _ _,_,_,_,hr,_,_,_ => by simp [readV] at hr
  | .mit _ _ _ _ _,_,_,_,hr,_,_,_ => by simp [readV] at hr
theorem SimL.read : ∀ (l : List AV) (C D : Ctx) (ys : List Value),readL l = true → D.heap = C.heap → (∀ b,C.ro b → D.ro b) → SimL l C ys → SimL l D ys
  | [],_,_,_,_,_,_,_ => by simp [SimL]
  | _ :: _,_,_,[],_,_,_,h => by simp [SimL] at h
  | a :: l,C,D,y :: ys,hr,hh,hro,h => by
    simp only [readL,Bool.and_eq_true] at hr
    simp only [SimL] at h ⊢
    exact ⟨SimV.read a C D y hr.1 hh hro h.1,SimL.read l C D ys hr.2 hh hro h.2⟩
end
end Go.Am
namespace Go.Am
variable [Go.Am.CodeBlk]
variable {P : Program} {own : Bool} {N : Nat} {s : AS} {K : AS → Prop} {d : Option Nat}
def LendH1 (hp : Hp) (g : Nat → Nat) (hin : Hp) (x y : AV) : Prop := ∀ w0 mu N tm w phi ro v,Sim w0 mu N ⟨fun _ => .any,hp⟩ tm w phi ro → SimV x (ctx w0 w ro phi ⟨fun _ => .any,hp⟩) v → SimV y (ctxE w (fun r => phi (g r)) hin) v
theorem qx4 {hp : Hp} {g : Nat → Nat} {hin : Hp} : LendsH hp g hin [] [] := fun _ _ _ _ _ _ _ vs _ _ hl => ⟨by simp [SimL],hl⟩
theorem qya {hp : Hp} {g : Nat → Nat} {hin : Hp} {x y : AV} {xs ys : List AV} (h : LendH1 hp g hin x y) (hs : LendsH hp g hin xs ys) : LendsH hp g hin (x :: xs) (y :: ys) := by
  intro w0 mu N tm w phi ro vs hS hv hl
  cases vs with
  | nil => simp at hl
  | cons v vs =>
    simp only [SimL] at hv
    obtain ⟨h1,h2⟩ := hs w0 mu N tm w phi ro vs hS hv.2 (by simpa using hl)
    exact ⟨⟨h w0 mu N tm w phi ro v hS hv.1,h1⟩,by simpa using h2⟩
theorem qwc {hp : Hp} {g : Nat → Nat} {hin : Hp} {c : Value} : LendH1 hp g hin (.v c) (.v c) := fun _ _ _ _ _ _ _ _ _ h => by simpa [SimV] using h
theorem not_lent {hp : Hp} {g : Nat → Nat} {hin : Hp} (hin1 : ∀ r c,hin r = some c → (hp (g r)).isSome = true) {w0 : World} {mu : Nat → Option Nat} {N : Nat} {tm : Array Value} {w : World} {phi : Nat → Option Nat} {ro : Nat → Prop} (hS : Sim w0 mu N ⟨fun _ => .any,hp⟩ tm w phi ro) {b : Nat} (hb : ro b) :
    b < w.heap.size ∧ ∀ r,(hin r).isSome = true → phi (g r) ≠ some b := by
  refine ⟨hS.rob b hb,fun r hr hp' => ?_⟩
  obtain ⟨c,hc⟩ := Option.isSome_iff_exists.1 hr
  obtain ⟨c',hc'⟩ := Option.isSome_iff_exists.1 (hin1 r c hc)
  rcases hS.liv _ _ hc' with ⟨h1,_⟩|⟨b',_,_,h1,_,h2,_⟩|⟨b',_,_,h1,_,_,h2,_⟩
  · rw [h1] at hp'; cases hp'
  · rw [h1] at hp'; cases hp'
    exact h2 hb
  · rw [h1] at hp'; cases hp'
    exact h2 hb
theorem lendH_ren {hp : Hp} {g : Nat → Nat} {hin : Hp} {x : AV} (hin1 : ∀ r c,hin r = some c → (hp (g r)).isSome = true) (ho : ownV true x = true) (hr : refsV (fun r => (hin r).isSome) x = true) : LendH1 hp g hin (renV g x) x := by
  intro w0 mu N tm w phi ro v hS hv
  exact simV_in true g (ctxE w (fun r => phi (g r)) hin) (ctx w0 w ro phi ⟨fun _ => .any,hp⟩) rfl (fun _ b hb => not_lent hin1 hS hb) (fun _ => rfl) (fun _ r _ => rfl) x v ho hr hv
end Go.Am
namespace Go.Am
variable [Go.Am.CodeBlk]
abbrev oneM (es : Array MapEntry) (ck : Nat) : List (Nat × (Bool × List AV)) := [(nbase,(true,[.ob (.map es ck)]))]
theorem spH_clone {P : Program} {f : FuncId} (h : ∀ (b : Nat) (es : Array MapEntry) (clock : Nat) (w : World),w.heap[b]? = some (.map es clock) → Calls P f #[.map (some b)] w fun e w' => e = .returned (.map (some w.heap.size)) ∧ w' = w.alloc (.map es clock))
    (es : Array MapEntry) (ck : Nat) : SpH P f [.rmp false es ck] (fun _ => none) (.mp nbase) (look (oneM es ck)) := by
  intro w vs phi _ _ _ _ hs hl
  obtain ⟨l⟩ := vs
  match l with
  | [] => simp at hl
  | _ :: _ :: _ => simp at hl
  | [a] =>
    simp only [SimL,SimV,and_true] at hs
    obtain ⟨b,rfl,hb,_,_⟩ := hs
    refine (h b es ck w hb).mono fun e w' hp => ?_
    obtain ⟨rfl,rfl⟩ := hp
    refine ⟨_,fun r => if r = nbase then some w.heap.size else none,rfl,rfl,rfl,rfl,by simp,fun r hr => by simp at hr,fun b hb _ => heap_alloc_old w _ hb,fun b cur e fz hb => ⟨cur,(heap_alloc_old w _ (qyc hb)).trans hb,rfl⟩,?_,?_,?_,?_⟩
    · intro r r' b h1 h2 e1 e2
      have k1 := look_isSome.1 h1
      have k2 := look_isSome.1 h2
      simp at k1 k2
      rw [k1,k2]
    · intro r b h1 _ e1
      have e1 : (if r = nbase then some w.heap.size else none) = some b := e1
      split at e1
      · cases e1; exact Nat.le_refl _
      · cases e1
    · intro r c hc
      have hm := qxh hc
      simp at hm
      obtain ⟨rfl,rfl⟩ := hm
      exact .inr (.inr ⟨w.heap.size,.map es ck,rfl,(if_pos rfl : (if nbase = nbase then some w.heap.size else none) = some w.heap.size),heap_alloc_new w _,rfl⟩)
    · simp only [SimV]
      exact ⟨rfl,rfl,w.heap.size,(if_pos rfl : (if nbase = nbase then some w.heap.size else none) = some w.heap.size),rfl⟩
theorem m_clone {P : Program} {s : AS} {K : AS → Prop} {d : Option Nat} {f : FuncId} {x : Opd} {es : Array MapEntry} {ck : Nat} (q : Nat) (hs : SpH P f [.rmp false es ck] (fun _ => none) (.mp nbase) (look (oneM es ck))) (hx : MapAt s (s.ev x) es ck)
    (hq : s.hp q = none) (hqp : q < pbase) (k : K ((s.mem q (true,[.ob (.map es ck)])).put d (.mp q))) : aop1 P true ⟨d,.call f [x],none⟩ s K := by
  have hl : Lends s.hp [s.ev x] [.rmp false es ck] := by
    rcases hx with ⟨r,h1,h2⟩|⟨fr,h1⟩
    · rw [h1]; exact qz2 (lend_map h2) qz4
    · rw [h1]; exact qz2 lend_rmp qz4
  have hg : ∀ r,((look (oneM es ck)) r).isSome = true → r = nbase := fun r hr => by have := look_isSome.1 hr; simpa using this
  refine m_callh (hp' := (s.mem q (true,[.ob (.map es ck)])).hp) (fun _ => q) hs (lendsH_none hl) ⟨fun r c h => by simp at h,fun r r' h1 h2 _ => by rw [hg r h1,hg r' h2],fun r h => by simp at h,fun r _ _ => ⟨hq,hqp⟩,fun r c hc => ?_,fun p hp => ?_,fun r c h => by simp at h,fun r c hc => ?_,rfl⟩ k
  · have hm := qxh hc
    simp at hm
    obtain ⟨rfl,rfl⟩ := hm
    simp [AS.mem]; rfl
  · have : p ≠ q := fun e => hp nbase rfl e.symm
    simp [AS.mem,this]
  · have hm := qxh hc
    simp at hm
    obtain ⟨rfl,rfl⟩ := hm
    rfl
end Go.Am
namespace Go.Proofs.YtngfogpbljconaaGreatDoor
variable [Go.Am.CodeBlk]
open Go.Am
def cloneRenP : Go.Shelf.Ren := ⟨fun|5 => 76|7 => 98|n => n,fun|4 => 4|20 => 20|23 => 48|25 => 58|3 => 4|n => n,fun n => n⟩
theorem cloneLayP : SlLaysW.n5 Tryz.prog cloneRenP := {
  mixed := by kernel_rfl
  f5 := ⟨Tryz.f76.name,by kernel_rfl,Tryz.func76.trans (congrArg some (by kernel_rfl))⟩
  f7 := Tryz.func98.trans (congrArg some (by kernel_rfl))
  t4 := Tryz.underlying4
  a4 := Tryz.isAgg4
  z4 := Tryz.sizeOf4
  v4 := Tryz.zeroValue4
  t20 := Tryz.underlying20
  a20 := Tryz.isAgg20
  z20 := Tryz.sizeOf20
  v20 := Tryz.zeroValue20
  t23 := Tryz.underlying48
  a23 := Tryz.isAgg48
  z23 := Tryz.sizeOf48
  v23 := Tryz.zeroValue48 }
theorem clonePlaces_spec (es : Array MapEntry) (ck : Nat) : SpH Tryz.prog 76 [.rmp false es ck] (fun _ => none) (.mp nbase) (Am.look (oneM es ck)) :=
  spH_clone (fun b es clock w hb => AnyW.maps_Clone cloneLayP b es clock w hb) es ck
def cloneRenW : Go.Shelf.Ren := ⟨fun|5 => 77|7 => 98|n => n,fun|4 => 4|20 => 20|23 => 85|25 => 66|3 => 3|n => n,fun n => n⟩
theorem cloneLayW : SlLaysW.n5 Tryz.prog cloneRenW := {
  mixed := by kernel_rfl
  f5 := ⟨Tryz.f77.name,by kernel_rfl,Tryz.func77.trans (congrArg some (by kernel_rfl))⟩
  f7 := Tryz.func98.trans (congrArg some (by kernel_rfl))
  t4 := Tryz.underlying4
  a4 := Tryz.isAgg4
  z4 := Tryz.sizeOf4
  v4 := Tryz.zeroValue4
  t20 := Tryz.underlying20
  a20 := Tryz.isAgg20
  z20 := Tryz.sizeOf20
  v20 := Tryz.zeroValue20
  t23 := Tryz.underlying85
  a23 := Tryz.isAgg85
  z23 := Tryz.sizeOf85
  v23 := Tryz.zeroValue85 }
theorem cloneWays_spec (es : Array MapEntry) (ck : Nat) : SpH Tryz.prog 77 [.rmp false es ck] (fun _ => none) (.mp nbase) (Am.look (oneM es ck)) :=
  spH_clone (fun b es clock w hb => AnyW.maps_Clone cloneLayW b es clock w hb) es ck
end Go.Proofs.YtngfogpbljconaaGreatDoor
namespace Go.Proofs.YtngfogpbljconaaGreatDoor
variable [Go.Am.CodeBlk]
open Go.Am
attribute [local irreducible] AW Outs Weak Lends Lend Sp aops atree aop1 Then Round InBlock Done
theorem indexByte_spec (B : List UInt8) : Sp Tryz.prog 116 [str B,.v (.int .u8 47)] (.i (Lib.indexByte B 47)) := by
  refine qy7 Tryz.func116 rfl cc116 rfl ?_
  unfold ac116
  repeat (first|(refine qz0 ?_;(refine m_mov (by conv => lhs; whnf) ?_))|refine qz1 ?_|refine qz3 ?_)
  refine qz0 ?_
  refine m_xcall (vs := [.string ⟨B.toArray⟩,.int .u8 47]) (e := Extern.BytealgIndexByte.indexByte) Tryz.func120 (by kernel_rfl) (by kernel_rfl) (by kernel_rfl) (by kernel_rfl) rfl (fun w => Lib.run_indexByteString _ _ _) ?_
  repeat (first|(refine qz0 ?_;(refine m_mov (by conv => lhs; whnf) ?_))|refine qz1 ?_|refine qzj ?_|refine qzc ?_)
  exact qxa rfl
theorem index_spec (B : List UInt8) (hB : B.length ≤ 1048576) : Sp Tryz.prog 114 [str B,str [47]] (.i (Lib.indexByte B 47)) := by
  refine qy7 Tryz.func114 rfl cc114 rfl ?_
  unfold ac114
  by_cases h : ([47] : List UInt8) = B
  · subst h
    repeat (first|(refine qz0 ?_;((try (refine g_yes rfl ?_ ?_;(· rfl)));(first|(refine m_mov (by conv => lhs; whnf) ?_)|(refine m_eql rfl rfl ?_)|(refine m_eqs rfl rfl ?_)|(refine qvi rfl ?_)|(refine qy3 rfl ?_ (by conv => lhs; whnf) ?_;(· rfl)))))|refine qz1 ?_|refine qz3 ?_|(refine qzf rfl ?_ ?_;(· rfl))|refine qz6 ?_|refine qzj ?_|refine qzc ?_|refine qy8 ?_|refine qz8 ?_|refine qx7 ?_)
    exact qxa rfl
  · repeat (first|(refine qz0 ?_;((try (refine g_yes rfl ?_ ?_;(· rfl)));(first|(refine m_mov (by conv => lhs; whnf) ?_)|(refine m_eql rfl rfl ?_)|(refine m_eqs rfl rfl ?_)|(refine qvi rfl ?_)|(refine qy3 rfl ?_ (by conv => lhs; whnf) ?_;(· rfl)))))|refine qz1 ?_|refine qz3 ?_|(refine qzf rfl ?_ ?_;(· rfl))|(refine qzi rfl ?_ ?_;(· (refine decide_eq_false ?_; assumption)))|refine qz6 ?_|refine qz8 ?_)
    refine qz0 ?_
    refine m_six' (j := 0) rfl rfl (by decide) ?_
    refine qz0 ?_
    refine qza (indexByte_spec B) ?_ ?_
    · exact qz2 qzd (qz2 qzd qz4)
    repeat (first|(refine qz0 ?_;(refine m_mov (by conv => lhs; whnf) ?_))|refine qz1 ?_|refine qzj ?_|refine qzc ?_|refine qy8 ?_|refine qx7 ?_)
    exact qxa rfl
theorem stringsIndex_spec (B : List UInt8) (hB : B.length ≤ 1048576) : Sp Tryz.prog 108 [str B,str [47]] (.i (Lib.indexByte B 47)) := by
  refine qy7 Tryz.func108 rfl cc108 rfl ?_
  unfold ac108
  repeat (first|(refine qz0 ?_;(refine m_mov (by conv => lhs; whnf) ?_))|refine qz1 ?_|refine qz3 ?_)
  (refine qz0 ?_);(apply qza (index_spec B hB));(· repeat (first|exact qz4|(refine qz2 ?_ ?_;(· exact qzd))))
  repeat (first|(refine qz0 ?_;(refine m_mov (by conv => lhs; whnf) ?_))|refine qz1 ?_|refine qzj ?_|refine qzc ?_)
  exact qxa rfl
def strs (l : List (List UInt8)) : List AV := l.map fun r => str r
theorem qub (l : List (List UInt8)) : (strs l).length = l.length := by simp [strs]
theorem strs_plain (l : List (List UInt8)) : (strs l).all plainV = true := by simp [strs,plainV]
def cutC (done : List (List UInt8)) (m : Nat) : List AV := strs done ++ List.replicate (m - done.length) (str [])
theorem cutC_len (done : List (List UInt8)) (m : Nat) (h : done.length ≤ m) : (cutC done m).length = m := by
  simp [cutC,qub]; omega
theorem cutC_set (done : List (List UInt8)) (p : List UInt8) (m : Nat) (h : done.length < m) : (cutC done m).set done.length (str p) = cutC (done ++ [p]) m := by
  obtain ⟨j,hj⟩ : ∃ j,m - done.length = j + 1 := ⟨m - done.length - 1,by omega⟩
  have hj2 : m - (done ++ [p]).length = j := by simp; omega
  unfold cutC
  rw [hj,hj2,List.set_append_right _ _ (by simp [qub]),qub,Nat.sub_self,List.replicate_succ,List.set_cons_zero]
  simp [strs]
theorem flat_ones {α : Type} (x : α) : ∀ n,(List.replicate n [x]).flatten = List.replicate n x
  | 0 => rfl
  | n + 1 => by rw [List.replicate_succ,List.flatten_cons,flat_ones x n]; rfl
theorem cutC_take (done : List (List UInt8)) (m : Nat) : (cutC done m).take done.length = strs done := by
  unfold cutC
  rw [List.take_append_of_le_length (by simp [qub]),List.take_of_length_le (by simp [qub])]
theorem splitNB_min (B : List UInt8) : splitNB (min 8 B.length) B = splitNB 8 B := by
  rcases Nat.le_total 8 B.length with h|h
  · rw [Nat.min_eq_left h]
  · have hc : B.count 47 ≤ B.length := List.count_le_length
    rw [Nat.min_eq_right h,splitNB_all _ _ hc,splitNB_all _ _ (by omega)]
theorem genSplit_spec (B : List UInt8) (hB : B.length ≤ 1048576) : Sp Tryz.prog 93 [str B,str [47],.i 0,.i 9] (.ro true 1 (strs (splitNB 8 B)) (splitNB 8 B).length) := by
  obtain ⟨m,hm⟩ : ∃ m,m = min 8 B.length := ⟨_,rfl⟩
  have hmi : (if ((B.length : Int)) + 1 < 9 then ((B.length : Int)) + 1 else 9) = ((m + 1 : Nat) : Int) := by split <;> omega
  have hr0 : splitNB m B = splitNB 8 B := by rw [hm]; exact splitNB_min B
  rw [← hr0]
  refine qy7 Tryz.func93 rfl cc93 rfl ?_
  unfold ac93
  repeat (first|(refine qz0 ?_;(first|(refine m_mov (by conv => lhs; whnf) ?_)|(refine m_lss rfl rfl ?_)|(refine m_eql rfl rfl ?_)|(refine m_eqs rfl rfl ?_)|(refine m_add rfl rfl ?_ ?_ ?_;(· omega);(· omega))|(refine qvi rfl ?_)|(refine qx2 ?_)|(refine m_min rfl rfl ?_)))|refine qz1 ?_|refine qz3 ?_|(refine qzi rfl ?_ ?_;(· rfl))|refine qz5 ?_|refine qz6 ?_)
  rw [hmi]
  refine qz0 ?_
  refine m_mk (n := m + 1) rfl rfl (by omega) (by omega) ?_
  repeat (first|(refine qz0 ?_;(first|(refine m_mov (by conv => lhs; whnf) ?_)|(refine m_sub rfl rfl ?_ ?_ ?_;(· omega);(· omega))))|refine qz1 ?_|refine qz3 ?_|refine qz6 ?_|refine qz8 ?_)
  rw [show ((m + 1 : Nat) : Int) - 1 = (m : Int) by omega]
  skip
  refine qyf (α := List (List UInt8) × List UInt8) (fun a => a.1.length ≤ m ∧ a.2.length + a.1.length ≤ B.length ∧ a.1 ++ splitNB (m - a.1.length) a.2 = splitNB m B)
    (fun a => st [(0,str a.2),(1,str [47]),(2,.i 0),(3,.i m),(9,.sl 31 1 0 (m + 1)),(10,.i a.1.length)] [(31,(true,cutC a.1 (m + 1)))]) (fun a => m - a.1.length) ([],B) ⟨Nat.zero_le _,by simp,by simp⟩ (qz9 ?_ ?_ rfl rfl) ?_
  · (repeat' first|exact trivial|refine And.intro ?_ ?_)<;>first|rfl|skip
  · refine ⟨?_,trivial⟩
    show some (true,(List.replicate (m + 1) [str []]).flatten) = some (true,cutC [] (m + 1))
    rw [flat_ones]; rfl
  rintro ⟨done,rest⟩ ⟨hd,hrl,hres⟩
  dsimp only at hd hrl hres ⊢
  have hcl := cutC_len done (m + 1) (by omega)
  have h47l : ([47] : List UInt8).length = 1 := rfl
  have hcp : (cutC done (m + 1)).all plainV = true := by simp [cutC,strs,plainV]
  have hrl1 : (done ++ [rest]).length = done.length + 1 := by simp
  have hout : ∀ {s : AS},s.hp 31 = some (true,(cutC done (m + 1)).set done.length (str rest)) → Outs s (.sl 31 1 0 (done.length + 1)) (.ro true 1 (strs (done ++ [rest])) (done ++ [rest]).length) := by
    intro s hs
    rw [cutC_set done rest (m + 1) (by omega)] at hs
    have h := outs_sl_take (z := 1) (n := done.length + 1) hs (by rw [cutC_len _ _ (by omega)]; omega) (by simp [cutC,strs,plainV])
    rw [Nat.mul_one,← hrl1,cutC_take] at h
    rw [hrl1] at h ⊢
    exact h
  by_cases hc : done.length < m
  · by_cases h47 : (47 : UInt8) ∈ rest
    · obtain ⟨p,q,hp,rfl⟩ := cut_at h47
      have hix := indexByte_cut (q := q) hp
      have hpl : (p ++ 47 :: q).length = p.length + (q.length + 1) := by simp
      repeat (first|(refine qz0 ?_;(first|(refine m_mov (by conv => lhs; whnf) ?_)|(refine m_lss rfl rfl ?_)))|refine qz1 ?_|refine qz3 ?_|(refine qzf rfl ?_ ?_;(· (refine decide_eq_true ?_; omega)))|refine qz5 ?_|refine qz6 ?_|refine qz8 ?_)
      (refine qz0 ?_);(apply qza (stringsIndex_spec (p ++ 47 :: q) (by omega)));(· repeat (first|exact qz4|(refine qz2 ?_ ?_;(· exact qzd))))
      rw [hix]
      repeat (first|(refine qz0 ?_;(first|(refine m_mov (by conv => lhs; whnf) ?_)|(refine m_lss rfl rfl ?_)|(refine m_add rfl rfl ?_ ?_ ?_;(· omega);(· omega))))|refine qz1 ?_|refine qz3 ?_|(refine qzi rfl ?_ ?_;(· rfl))|refine qz5 ?_|refine qz6 ?_)
      rw [show ((p.length : Int) + 0) = (p.length : Int) from Int.add_zero _]
      repeat (first|(refine qz0 ?_;(first|(refine m_mov (by conv => lhs; whnf) ?_)|(refine m_add rfl rfl ?_ ?_ ?_;(· omega);(· omega))|(refine m_scutl rfl rfl ?_ ?_;(· first|omega|(simp; omega)))|(refine m_scuth rfl rfl ?_ ?_;(· first|omega|(simp; omega)))|(refine qvi rfl ?_)|(refine qxf rfl rfl ?_ ?_;(· omega))|(apply m_st;(· rfl);(· rfl);(· rfl);(· first|omega|(simp; done)|(simp; omega));(· rfl))))|refine qz1 ?_|refine qz3 ?_|refine qy5 ?_|refine qze ?_)
      rw [show ((p.length : Int) + (([47] : List UInt8).length : Int)) = ((p.length + 1 : Nat) : Int) by omega]
      skip
      have e1 : (p ++ 47 :: q).take p.length = p := by simp
      have e2 : (p ++ 47 :: q).drop (p.length + ([47] : List UInt8).length) = q := by rw [h47l,List.drop_append]; simp
      refine qzb (done ++ [p],q) ⟨by simp; omega,by simp; omega,?_⟩ (qz9 ?_ ?_ rfl rfl) ?_
      · rw [← hres,show m - done.length = (m - (done ++ [p]).length) + 1 by simp; omega,splitNB_cut hp,List.append_assoc]
        rfl
      · rw [show (done ++ [p]).length = done.length + 1 by simp]
        rw [e1,e2]
        (repeat' first|exact trivial|refine And.intro ?_ ?_)<;>first|rfl|skip
      · refine ⟨?_,trivial⟩
        rw [← cutC_set done p (m + 1) (by omega),e1]
        rfl
      · simp; omega
    · have hix := indexByte_none h47
      have hfin : splitNB m B = done ++ [rest] := by rw [← hres,splitNB_one h47]
      repeat (first|(refine qz0 ?_;(first|(refine m_mov (by conv => lhs; whnf) ?_)|(refine m_lss rfl rfl ?_)))|refine qz1 ?_|refine qz3 ?_|(refine qzf rfl ?_ ?_;(· (refine decide_eq_true ?_; omega)))|refine qz5 ?_|refine qz6 ?_|refine qz8 ?_)
      (refine qz0 ?_);(apply qza (stringsIndex_spec rest (by omega)));(· repeat (first|exact qz4|(refine qz2 ?_ ?_;(· exact qzd))))
      rw [hix]
      repeat (first|(refine qz0 ?_;(first|(refine m_mov (by conv => lhs; whnf) ?_)|(refine m_lss rfl rfl ?_)|(refine m_add rfl rfl ?_ ?_ ?_;(· omega);(· omega))|(refine qxf rfl rfl ?_ ?_;(· omega))|(apply m_st;(· rfl);(· rfl);(· rfl);(· first|omega|(simp; done)|(simp; omega));(· rfl))))|refine qz1 ?_|refine qz3 ?_|(refine qzf rfl ?_ ?_;(· rfl))|refine qz6 ?_|refine qz7 ?_|refine qy1 ?_|refine qy0 ?_|refine qy9 ?_|refine qzg ?_|(refine exit_other ?_ ?_;(· decide)))
      rw [show ((done.length : Int) + 1) = ((done.length + 1 : Nat) : Int) by omega]
      skip
      refine qz0 ?_
      refine m_cut_sl (l := 0) (h := done.length + 1) rfl rfl ⟨_,rfl⟩ (Nat.zero_le _) (by omega) ?_
      repeat (first|(refine qz0 ?_;(refine m_mov (by conv => lhs; whnf) ?_))|refine qz1 ?_|refine qzj ?_|refine qzc ?_)
      rw [hfin]
      exact hout rfl
  · have hfin : splitNB m B = done ++ [rest] := by rw [← hres,show m - done.length = 0 by omega]; rfl
    repeat (first|(refine qz0 ?_;(first|(refine m_mov (by conv => lhs; whnf) ?_)|(refine m_lss rfl rfl ?_)|(refine m_add rfl rfl ?_ ?_ ?_;(· omega);(· omega))|(refine qxf rfl rfl ?_ ?_;(· omega))|(apply m_st;(· rfl);(· rfl);(· rfl);(· first|omega|(simp; done)|(simp; omega));(· rfl))))|refine qz1 ?_|refine qz3 ?_|(refine qzi rfl ?_ ?_;(· (refine decide_eq_false ?_; omega)))|refine qz6 ?_|refine qz7 ?_|refine qy1 ?_|refine qy0 ?_|refine qy9 ?_|refine qzg ?_)
    rw [show ((done.length : Int) + 1) = ((done.length + 1 : Nat) : Int) by omega]
    skip
    refine qz0 ?_
    refine m_cut_sl (l := 0) (h := done.length + 1) rfl rfl ⟨_,rfl⟩ (Nat.zero_le _) (by omega) ?_
    repeat (first|(refine qz0 ?_;(refine m_mov (by conv => lhs; whnf) ?_))|refine qz1 ?_|refine qzj ?_|refine qzc ?_)
    rw [hfin]
    exact hout rfl
theorem splitN_spec (B : List UInt8) (hB : B.length ≤ 1048576) : Sp Tryz.prog 67 [str B,str [47],.i 9] (.ro true 1 (strs (splitNB 8 B)) (splitNB 8 B).length) := by
  refine qy7 Tryz.func67 rfl cc67 rfl ?_
  unfold ac67
  repeat (first|(refine qz0 ?_;(first|(refine m_mov (by conv => lhs; whnf) ?_)|(refine qx2 ?_)))|refine qz1 ?_|refine qz3 ?_)
  refine qz0 ?_
  refine qwh (genSplit_spec B hB) ?_ (strs_plain _) ?_
  · exact qz2 qzd (qz2 qzd (qz2 qzd (qz2 qzd qz4)))
  repeat (first|(refine qz0 ?_;(refine m_mov (by conv => lhs; whnf) ?_))|refine qz1 ?_|refine qzj ?_|refine qzc ?_)
  exact outs_sl rfl (by rw [qub,Nat.mul_one]) (strs_plain _)
end Go.Proofs.YtngfogpbljconaaGreatDoor
namespace Go.Proofs.YtngfogpbljconaaGreatDoor
variable [Go.Am.CodeBlk]
open Go.Am
attribute [local irreducible] AW Outs Weak Lends Lend Sp aops atree aop1 Then Round InBlock Done
theorem setHas_spec (a g : Nat) (ha : a < 65536) (hg : g < 16) : Sp Tryz.prog 78 [.u a,.i g] (.b (a.testBit g)) := by
  refine qy7 Tryz.func78 rfl cc78 rfl ?_
  unfold ac78
  repeat (first|(refine qz0 ?_;(refine m_mov (by conv => lhs; whnf) ?_))|refine qz1 ?_|refine qz3 ?_)
  refine qz0 ?_
  refine m_shr16 (a := a) (k := g) rfl rfl hg ?_
  refine qz0 ?_
  refine m_and16_1 (a := a >>> g) rfl rfl (Nat.lt_of_le_of_lt (Nat.shiftRight_le a g) ha) ?_
  refine qz0 ?_
  refine m_eql16_1 (a := (a >>> g) &&& 1) rfl rfl ?_
  rw [bit_and]
  repeat (first|(refine qz0 ?_;(refine m_mov (by conv => lhs; whnf) ?_))|refine qz1 ?_|refine qzj ?_|refine qzc ?_)
  exact qyb rfl
theorem outs_u {s : AS} {a b : Nat} (h : a = b) : Outs s (.u a) (.u b) := by
  subst h; exact outs_v
theorem setWith_spec (a g : Nat) (ha : a < 65536) (hg : g < 16) : Sp Tryz.prog 79 [.u a,.i g] (.u (a ||| 1 <<< g)) := by
  refine qy7 Tryz.func79 rfl cc79 rfl ?_
  unfold ac79
  repeat (first|(refine qz0 ?_;(refine m_mov (by conv => lhs; whnf) ?_))|refine qz1 ?_|refine qz3 ?_)
  refine qz0 ?_
  refine m_shl16 (k := g) rfl rfl hg ?_
  refine qz0 ?_
  refine m_or16 (a := a) (b := 1 <<< g) rfl rfl ha (shl16_lt hg) ?_
  repeat (first|(refine qz0 ?_;(refine m_mov (by conv => lhs; whnf) ?_))|refine qz1 ?_|refine qzj ?_|refine qzc ?_)
  exact outs_u rfl
theorem notNodup {L : List Int} {k : Nat} (hk : k < L.length) (h : L.getD k 0 ∈ L.take k) : ¬ L.Nodup := by
  intro hn
  rw [← List.take_append_drop k L,List.nodup_append] at hn
  refine hn.2.2 _ h _ ?_ rfl
  have : L.drop k = L.getD k 0 :: L.drop (k + 1) := by rw [List.drop_eq_getElem_cons hk]; simp [hk]
  rw [this]
  exact List.mem_cons_self ..
theorem nodupSnoc {L : List Int} {k : Nat} (hk : k < L.length) (hn : (L.take k).Nodup) (h : L.getD k 0 ∉ L.take k) : (L.take (k + 1)).Nodup := by
  rw [qw2 L k 0 hk,List.nodup_append]
  refine ⟨hn,by simp,?_⟩
  intro a ha b hb hab
  rw [List.mem_singleton] at hb
  subst hb
  exact h (hab ▸ ha)
theorem areDifferent_spec (L : List Int) (n : Nat) (_hL : L.length ≤ 1048576) (hn16 : n ≤ 16) : Sp Tryz.prog 89 [ints L,.i n] (.b (decide ((∀ x ∈ L,0 ≤ x ∧ x < (n : Int)) ∧ L.Nodup))) := by
  refine qy7 Tryz.func89 rfl cc89 rfl ?_
  unfold ac89
  repeat (first|(refine qz0 ?_;(first|(refine m_mov (by conv => lhs; whnf) ?_)|(refine qy4 rfl ?_)))|refine qz1 ?_|refine qz3 ?_|refine qz6 ?_|refine qz8 ?_)
  refine qyf (α := Nat × Nat) (fun p => p.1 ≤ L.length ∧ p.2 < 65536 ∧ (∀ x ∈ L.take p.1,0 ≤ x ∧ x < (n : Int)) ∧ (L.take p.1).Nodup ∧ ∀ i < 16,p.2.testBit i = decide ((i : Int) ∈ L.take p.1))
    (fun p => st [(0,ints L),(1,.i n),(5,.u p.2),(8,ints L),(9,.i L.length),(10,.i p.1)] []) (fun p => L.length - p.1) (0,0) ⟨Nat.zero_le _,by decide,by simp,by simp,fun i _ => by simp⟩ (qz9 ?_ ?_ rfl rfl) ?_
  · (repeat' first|exact trivial|refine And.intro ?_ ?_)<;>first|rfl|skip
  · trivial
  rintro ⟨k,a⟩ ⟨hk,ha,hr,hn,hb⟩
  dsimp only at hk ha hr hn hb ⊢
  by_cases h : k < L.length
  · by_cases hx : 0 ≤ L.getD k 0 ∧ L.getD k 0 < (n : Int)
    · obtain ⟨i,hi⟩ := Int.eq_ofNat_of_zero_le hx.1
      have hi16 : i < 16 := by omega
      have hbi := hb i hi16
      by_cases hm : (i : Int) ∈ L.take k
      · have hbt : a.testBit i = true := by rw [hbi]; exact decide_eq_true hm
        repeat (first|(refine qz0 ?_;(first|(refine m_mov (by conv => lhs; whnf) ?_)|(refine m_lss rfl rfl ?_)|(refine qy6 rfl rfl ?_ ?_;(· omega))|(refine qyg rfl ?_ ?_;(· omega))))|refine qz1 ?_|refine qz3 ?_|(refine qzf rfl ?_ ?_;(· (refine decide_eq_true ?_; omega)))|refine qz5 ?_|refine qz6 ?_|refine qz8 ?_)
        (refine qz0 ?_);(apply qza (isGuest_spec _ _));(· repeat (first|exact qz4|(refine qz2 ?_ ?_;(· exact qzd))))
        repeat (refine qz0 ?_;((try (refine g_yes rfl ?_ ?_;(· (refine nf ?_; assumption))));(first|(refine m_mov (by conv => lhs; whnf) ?_)|(refine m_not rfl ?_))))
        rw [hi]
        skip
        (refine qz0 ?_);(refine g_yes rfl ?_ ?_;(· first|((simp [*]; done))|(fail));(apply qza (setHas_spec a i ha (by omega))));(· repeat (first|exact qz4|(refine qz2 ?_ ?_;(· exact qzd))))
        repeat (first|(refine qz0 ?_;(first|(refine m_mov (by conv => lhs; whnf) ?_)|(refine qy3 rfl ?_ (by conv => lhs; whnf) ?_;(· (refine nf ?_; omega)))))|refine qz1 ?_|refine qz3 ?_|(refine qzf rfl ?_ ?_;(· assumption))|refine qzj ?_|refine qzc ?_|refine qy8 ?_|refine qx7 ?_|refine qxd ?_)
        refine qyb ?_
        symm
        exact decide_eq_false fun he => notNodup h (hi ▸ hm) he.2
      · have hbt : a.testBit i = false := by rw [hbi]; exact decide_eq_false hm
        repeat (first|(refine qz0 ?_;(first|(refine m_mov (by conv => lhs; whnf) ?_)|(refine m_lss rfl rfl ?_)|(refine qy6 rfl rfl ?_ ?_;(· omega))|(refine qyg rfl ?_ ?_;(· omega))))|refine qz1 ?_|refine qz3 ?_|(refine qzf rfl ?_ ?_;(· (refine decide_eq_true ?_; omega)))|refine qz5 ?_|refine qz6 ?_|refine qz8 ?_)
        (refine qz0 ?_);(apply qza (isGuest_spec _ _));(· repeat (first|exact qz4|(refine qz2 ?_ ?_;(· exact qzd))))
        repeat (refine qz0 ?_;((try (refine g_yes rfl ?_ ?_;(· (refine nf ?_; assumption))));(first|(refine m_mov (by conv => lhs; whnf) ?_)|(refine m_not rfl ?_))))
        rw [hi]
        skip
        (refine qz0 ?_);(refine g_yes rfl ?_ ?_;(· first|(fail)|((refine nf ?_; omega)));(apply qza (setHas_spec a i ha (by omega))));(· repeat (first|exact qz4|(refine qz2 ?_ ?_;(· exact qzd))))
        repeat (first|(refine qz0 ?_;(first|(refine m_mov (by conv => lhs; whnf) ?_)|(refine qy3 rfl ?_ (by conv => lhs; whnf) ?_;(· (refine nf ?_; omega)))))|refine qz1 ?_|refine qy5 ?_|(refine qzi rfl ?_ ?_;(· assumption))|refine qz5 ?_)
        (refine qz0 ?_);(apply qza (setWith_spec a i ha (by omega)));(· repeat (first|exact qz4|(refine qz2 ?_ ?_;(· exact qzd))))
        repeat (first|(refine qz0 ?_;(first|(refine m_mov (by conv => lhs; whnf) ?_)|(refine m_add rfl rfl ?_ ?_ ?_;(· omega);(· omega))))|refine qz1 ?_|refine qy5 ?_|refine qz7 ?_|refine qze ?_)
        refine qzb (k + 1,a ||| 1 <<< i) ⟨by omega,or16_lt ha (shl16_lt (by omega)),?_,nodupSnoc h hn (hi ▸ hm),fun j hj => ?_⟩ (qz9 ?_ ?_ rfl rfl) ?_
        · rw [qw2 L k 0 h]
          intro x hxm
          rw [List.mem_append,List.mem_singleton] at hxm
          rcases hxm with h1|rfl
          · exact hr x h1
          · exact hx
        · rw [bit_or,hb j hj,qw2 L k 0 h,Bool.eq_iff_iff]
          have hji : ((j : Int) = (i : Int)) ↔ j = i := by omega
          simp only [Bool.or_eq_true,decide_eq_true_eq,List.mem_append,List.mem_singleton,hi,hji]
        · (repeat' first|exact trivial|refine And.intro ?_ ?_)<;>first|rfl|skip
        · trivial
        · show L.length - (k + 1) < L.length - k
          omega
    · repeat (first|(refine qz0 ?_;(first|(refine m_mov (by conv => lhs; whnf) ?_)|(refine m_lss rfl rfl ?_)|(refine qy6 rfl rfl ?_ ?_;(· omega))|(refine qyg rfl ?_ ?_;(· omega))))|refine qz1 ?_|refine qz3 ?_|(refine qzf rfl ?_ ?_;(· (refine decide_eq_true ?_; omega)))|refine qz5 ?_|refine qz6 ?_|refine qz8 ?_)
      (refine qz0 ?_);(apply qza (isGuest_spec _ _));(· repeat (first|exact qz4|(refine qz2 ?_ ?_;(· exact qzd))))
      repeat (first|(refine qz0 ?_;(first|(first|(refine m_mov (by conv => lhs; whnf) ?_)|(refine m_not rfl ?_)|(refine qye rfl ?_ (by conv => lhs; whnf) ?_;(· (refine nt ?_; assumption))))|(refine g_noF rfl ?_ ?_;(· (refine nt ?_; assumption)))))|refine qz1 ?_|refine qz3 ?_|(refine qzf rfl ?_ ?_;(· rfl))|refine qzj ?_|refine qzc ?_|refine qy8 ?_|refine qx7 ?_|refine qxd ?_)
      refine qyb ?_
      symm
      exact decide_eq_false fun he => hx (he.1 _ (qud h))
  · repeat (first|(refine qz0 ?_;(first|(refine m_mov (by conv => lhs; whnf) ?_)|(refine m_lss rfl rfl ?_)))|refine qz1 ?_|refine qz3 ?_|(refine qzi rfl ?_ ?_;(· (refine decide_eq_false ?_; omega)))|refine qz6 ?_|refine qzj ?_|refine qzc ?_|refine qz7 ?_|refine qy1 ?_|refine qy0 ?_|refine qy9 ?_|refine qzg ?_)
    refine qyb ?_
    symm
    rw [List.take_of_length_le (by omega)] at hr hn
    exact decide_eq_true ⟨hr,hn⟩
end Go.Proofs.YtngfogpbljconaaGreatDoor
