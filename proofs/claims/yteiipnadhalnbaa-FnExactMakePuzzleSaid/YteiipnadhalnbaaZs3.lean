/- The abstract machine, contracts: part 3 of what this claim needs. -/
import Derived.Test.YteiipnadhalnbaaZs2
namespace Go.Am
variable {P : Program} {s : AS} {K : AS → Prop} {d : Option Nat}
theorem pl_ren (f : Nat → Nat) : ∀ {cs : List AV}, cs.all plainV = true → renL f cs = cs
  | [], _ => rfl
  | x :: l, h => by
    rw [List.all_cons, Bool.and_eq_true] at h
    have hl := pl_ren f h.2
    cases x <;> first | (simp [plainV] at h; done) | (simp only [renL, renV, hl])
theorem pl_own (q : Bool) : ∀ {cs : List AV}, cs.all plainV = true → ownL q cs = true
  | [], _ => rfl
  | x :: l, h => by
    rw [List.all_cons, Bool.and_eq_true] at h
    have hl := pl_own q h.2
    cases x <;> first | (simp [plainV] at h; done) | (simp only [ownL, ownV, hl, Bool.and_self])
theorem pl_read : ∀ {cs : List AV}, cs.all plainV = true → readL cs = true
  | [], _ => rfl
  | x :: l, h => by
    rw [List.all_cons, Bool.and_eq_true] at h
    have hl := pl_read h.2
    cases x <;> first | (simp [plainV] at h; done) | (simp only [readL, readV, hl, Bool.and_self])
theorem own_roZ {w w' : World} {z : Nat} {cs : List AV} {n : Nat} {v : Value} (hpl : cs.all plainV = true) (h : SimV (.ro true z cs n) (fresh w w') v) :
    ∃ bo : Option Nat, (∀ b, bo = some b → w.heap.size ≤ b) ∧ SimV (.sl nbase z 0 n) (ctxX w w' (fun r => if r = nbase then bo else none) (look (oneH cs))) v ∧ Regs (ctxX w w' (fun r => if r = nbase then bo else none) (look (oneH cs))) (look (oneH cs)) := by
  have hl : ∀ r c, look (oneH cs) r = some c → r = nbase ∧ c = (true, cs) := by
    intro r c hc
    have := look_mem hc
    rw [List.mem_singleton] at this
    exact ⟨congrArg Prod.fst this, congrArg Prod.snd this⟩
  simp only [SimV] at h
  rcases h with ⟨rfl, rfl, a, c, rfl, h⟩ | ⟨b, o, cap, cur, e, fz, rfl, h1, h2, h3, h4, h5, h6⟩
  · obtain ⟨rfl, rfl⟩ := h trivial
    refine ⟨none, by simp, ?_, ?_⟩
    · simp only [SimV]
      exact ⟨rfl, by simp [ctxX, look], .inl ⟨by simp [ctxX], by simp⟩⟩
    · intro r c hc
      obtain ⟨rfl, rfl⟩ := hl r c hc
      exact .inl ⟨by simp [ctxX], rfl⟩
  · obtain ⟨k1, rfl, rfl, k4, k5⟩ := h5 trivial
    refine ⟨some b, fun b' hb => by cases hb; exact k1, ?_, ?_⟩
    · simp only [SimV]
      refine ⟨rfl, by simp [ctxX, look], .inr ⟨b, 0, cap, cur, e, by simp [ctxX], rfl, h1, .inl rfl, h4, k4, by omega⟩⟩
    · intro r c hc
      obtain ⟨rfl, rfl⟩ := hl r c hc
      refine .inr (.inl ⟨b, cur, e, by simp [ctxX], h1, ?_⟩)
      simp only [SimR, if_true]
      rw [List.drop_zero] at h6
      exact simL_allv hpl h6
theorem sp_ownTZ {f : FuncId} {asx : List AV} {x y : Value} {z : Nat} {cs : List AV} {n : Nat} (hs : Sp P f asx (.tup [.agg [.v x, .ro true z cs n], .v y])) (hr : asx.all flatA = true) (hpl : cs.all plainV = true) :
    SpH P f asx (look []) (.tup [.agg [.v x, .sl nbase z 0 n], .v y]) (look (oneH cs)) := by
  intro w vs phi hg _ _ _ hsim hsz
  have hent : Entry w asx vs.toList := ⟨simL_flat (C := ctxE w phi (look [])) hr rfl (fun b hb => hb.1) hsim, by simpa using hsz⟩
  refine (hs w vs hg hent).mono fun e w' ⟨v, h1, hm, hv⟩ => ?_
  simp only [SimV] at hv
  obtain ⟨t, rfl, hsz1, htl⟩ := hv
  obtain ⟨tl⟩ := t
  match tl with
  | [] => simp at hsz1
  | [_] => simp at hsz1
  | _ :: _ :: _ :: _ => simp at hsz1
  | [v1, v2] =>
    simp only [SimL, SimV, and_true] at htl
    obtain ⟨⟨a, rfl, hsz2, hsl⟩, rfl⟩ := htl
    obtain ⟨al⟩ := a
    match al with
    | [] => simp at hsz2
    | [_] => simp at hsz2
    | _ :: _ :: _ :: _ => simp at hsz2
    | [p, q] =>
      simp only [SimL, and_true] at hsl
      obtain ⟨hp, hq⟩ := hsl
      obtain ⟨bo, k1, k2, k3⟩ := own_roZ hpl hq
      refine ⟨_, fun r => if r = nbase then bo else none, h1, hm.os, hm.tape, hm.output, hm.size, fun r hr => by simp [look] at hr, fun b hb _ => hm.block b hb, fun b cur e f hb => ⟨cur, (hm.block b (lt_of_get hb)).trans hb, rfl⟩, inj_one, ?_, k3, ?_⟩
      · intro r b _ _ hb
        dsimp only at hb
        split at hb
        · exact k1 b hb
        · cases hb
      · simp only [SimV]
        refine ⟨#[.agg #[p, q], v2], rfl, rfl, ?_⟩
        simp only [SimL, SimV, and_true]
        exact ⟨#[p, q], rfl, rfl, by simpa only [SimV] using hp, by simp only [SimL, and_true]; exact k2⟩
theorem m_newPzT {f : FuncId} {args : List Opd} {asx : List AV} {g : Int} {C : List Clu} {z : Value} (q : Nat) (hs : Sp P f asx (.tup [newPz g C, .v z])) (hr : asx.all flatA = true) (hl : Lends s.hp (args.map s.ev) asx) (hq : s.hp q = none) (hqp : q < pbase)
    (k : K ((s.mem q (true, cls C)).put d (.tup [.agg [.i g, .sl q 3 0 C.length], .v z]))) : aop1 P true ⟨d, .call f args, none⟩ s K :=
  m_new1 q (sp_ownTZ hs hr (cls_plain C)) hl hq hqp (fun g => pl_ren g (cls_plain C)) (pl_own _ (cls_plain C)) rfl k
/-- A call that writes the clues of a struct. -/
theorem m_markPz {f : FuncId} {args : List Opd} {g : Int} {n : Nat} {x y : Value} {C M : List Clu} (q : Nat) (hs : SpH P f [.agg [.i g, .sl pbase 3 0 n], .v x] (look (lenH (cls C))) (.v y) (look (lenH (cls M)))) (ha : args.map s.ev = [.agg [.i g, .sl q 3 0 n], .v x])
    (hq : s.hp q = some (true, cls C)) (k : K ((s.mem q (true, cls M)).put d (.v y))) : aop1 P true ⟨d, .call f args, none⟩ s K := by
  have hin : look (lenH (cls C)) pbase = some (true, cls C) := by simp [look]
  have hout : look (lenH (cls M)) pbase = some (true, cls M) := by simp [look]
  refine m_callh (hp' := (s.mem q (true, cls M)).hp) (fun r => if r = pbase then q else r) hs ?_ ⟨fun r c hc => ?_, fun r r' h1 h2 _ => ?_, fun r hr => ?_, fun r hr hn => ?_, fun r c hc => ?_, fun q' hq' => ?_, fun r c hc => ?_, fun r c hc => ?_, rfl⟩ k
  · rw [ha]
    have e : [AV.agg [.i g, .sl q 3 0 n], AV.v x] = renL (fun r => if r = pbase then q else r) [.agg [.i g, .sl pbase 3 0 n], .v x] := by simp [renL, renV]
    rw [e]
    refine lendsH_ren (fun r c hc => ?_) rfl ?_
    · obtain ⟨rfl, rfl⟩ := look_len hc
      rw [if_pos rfl, hq]
      rfl
    · simp [refsL, refsV, look]
  · obtain ⟨rfl, rfl⟩ := look_len hc
    rw [if_pos rfl, hq]
    show _ = some (true, renL _ (cls C))
    rw [pl_ren _ (cls_plain C)]
  · rw [look_len_is h1, look_len_is h2]
  · rw [look_len_is hr, hout]
    rfl
  · rw [look_len_is hr, hin] at hn
    cases hn
  · obtain ⟨rfl, rfl⟩ := look_len hc
    rw [if_pos rfl]
    show (if q = q then some (true, cls M) else s.hp q) = some (true, renL _ (cls M))
    rw [if_pos rfl, pl_ren _ (cls_plain M)]
  · have hne : q' ≠ q := fun e => by
      refine hq' pbase (by rw [hout]; rfl) ?_
      rw [if_pos rfl]
      exact e.symm
    exact hp_mem_ne hne
  · obtain ⟨rfl, rfl⟩ := look_len hc
    exact ⟨pl_own _ (cls_plain C), refsL_plain (cls_plain C)⟩
  · obtain ⟨rfl, rfl⟩ := look_len hc
    exact pl_own _ (cls_plain M)
theorem outs_clus {s : AS} {r n : Nat} {cs : List AV} {C : List Clu} (hr : s.hp r = some (true, cs)) (e : cs = cls C) (hl : n = C.length) : Outs s (.sl r 3 0 n) (.ro true 3 (cls C) C.length) := by
  subst e; subst hl
  exact outs_sl hr (by rw [cls_len]) (cls_plain _)
/-- A region of clues of the call's own is read asx clues. -/
theorem lend_clus {hp : Hp} {r n : Nat} {C : List Clu} (hr : hp r = some (true, cls C)) (hn : n = C.length) : Lend hp (.sl r 3 0 n) (.ro false 3 (cls C) C.length) := by
  subst hn
  have h := lend_sl (z := 3) (off := 0) (n := C.length) hr (by rw [cls_len]; omega) (cls_plain C)
  have e : ((cls C).drop 0).take (C.length * 3) = cls C := by rw [List.drop_zero]; exact List.take_of_length_le (by rw [cls_len]; omega)
  rw [e] at h
  exact h
theorem lend_pzs {hp : Hp} {g : Int} {r n : Nat} {C : List Clu} (hr : hp r = some (true, cls C)) (hn : n = C.length) : Lend hp (.agg [.i g, .sl r 3 0 n]) (pzl g C) :=
  lend_aggs (lends_cons lend_v (lends_cons (lend_clus hr hn) lends_nil))
theorem cls_put {C : List Clu} {k : Nat} (c : Clu) (h : k < C.length) : (cls C).take (k * 3) ++ cC c ++ (cls C).drop (k * 3 + 3) = cls (C.set k c) := by
  rw [cls_take, show k * 3 + 3 = (k + 1) * 3 by omega, cls_drop, List.set_eq_take_append_cons_drop, if_pos h, cls_app]
  show cls (C.take k) ++ cC c ++ cls (C.drop (k + 1)) = cls (C.take k) ++ (cC c ++ cls (C.drop (k + 1)))
  rw [List.append_assoc]
theorem cls_get {C : List Clu} {k : Nat} {c1 c2 c3 : Int} (h : k < C.length) (e : C.getD k (0, 0, 0) = (c1, c2, c3)) : (cls C)[k * 3]? = some (.i c1) ∧ (cls C)[k * 3 + 1]? = some (.i c2) ∧ (cls C)[k * 3 + 2]? = some (.i c3) := by
  have h1 := cls_at h
  rw [e] at h1
  have key : ∀ j, j < 3 → (cls C)[k * 3 + j]? = (cC (c1, c2, c3))[j]? := by
    intro j hj
    rw [← h1, List.getElem?_take, if_pos hj, List.getElem?_drop]
  exact ⟨key 0 (by omega), key 1 (by omega), key 2 (by omega)⟩
end Go.Am
namespace Go.Proofs.Yteiipnadhalnbaa
open Go.Am
def ac5 : ACode := (.seq (.ops [⟨(some 6), (.mov (.c (.bool false))), none⟩]) (.seq (.seq (.ops [⟨(some 17), (.mov (.t 0)), none⟩, ⟨(some 18), (.len (.t 17)), none⟩, ⟨(some 19), (.bin .gtr (.t 18) (.c (.int .i64 1048576))), none⟩]) (.cond (.t 19) (.seq (.ops [⟨(some 6), (.mov (.c (.bool true))), none⟩]) .ret) .skip)) (.seq (.ops [⟨(some 21), (.mov (.t 0)), none⟩, ⟨(some 22), (.call 17 [(.t 21)]), none⟩, ⟨(some 23), (.mov (.t 1)), none⟩, ⟨(some 24), (.mov (.t 2)), none⟩, ⟨(some 25), (.call 16 [(.t 22), (.t 23), (.t 24)]), none⟩, ⟨(some 20), (.mov (.t 25)), none⟩, ⟨(some 26), (.ext (.t 20) 0), none⟩, ⟨(some 27), (.ext (.t 20) 1), none⟩, ⟨(some 7), (.alloc [(.int .i64 0), (.slice none 0 0)]), none⟩, ⟨none, (.st 2 (.t 7) (.t 26)), none⟩, ⟨(some 8), (.mov (.t 27)), none⟩]) (.seq (.ops [⟨(some 28), (.mov (.t 0)), none⟩, ⟨(some 29), (.call 17 [(.t 28)]), none⟩, ⟨(some 9), (.mov (.t 29)), none⟩]) (.seq (.ops [⟨(some 31), (.mov (.t 9)), none⟩, ⟨(some 32), (.mov (.t 1)), none⟩, ⟨(some 33), (.mov (.t 2)), none⟩, ⟨(some 34), (.call 18 [(.t 31), (.t 32), (.t 33)]), none⟩, ⟨(some 30), (.mov (.t 34)), none⟩, ⟨(some 35), (.ext (.t 30) 0), none⟩, ⟨(some 36), (.ext (.t 30) 1), none⟩, ⟨(some 10), (.alloc [(.int .i64 0), (.slice none 0 0)]), none⟩, ⟨none, (.st 2 (.t 10) (.t 35)), none⟩, ⟨(some 11), (.mov (.t 36)), none⟩]) (.seq (.seq (.ops [⟨(some 37), (.ld (some 2) (.t 10)), none⟩, ⟨(some 38), (.ld (some 2) (.t 7)), none⟩, ⟨(some 39), (.call 11 [(.t 37), (.t 38)]), none⟩, ⟨(some 40), (.not (.t 39)), none⟩, ⟨(some 41), (.mov (.t 40)), none⟩, ⟨(some 42), (.mov (.t 11)), (some (41, false))⟩, ⟨(some 43), (.mov (.t 8)), (some (41, false))⟩, ⟨(some 44), (.beq true (.t 42) (.t 43)), (some (41, false))⟩, ⟨(some 45), (.pick (.t 41) (.c (.bool true)) (.t 44)), none⟩]) (.cond (.t 45) (.seq (.ops [⟨(some 6), (.mov (.c (.bool false))), none⟩]) .ret) .skip)) (.seq (.seq (.ops [⟨(some 46), (.mov (.t 9)), none⟩, ⟨(some 47), (.mov (.t 0)), none⟩, ⟨(some 48), (.call 17 [(.t 47)]), none⟩, ⟨(some 49), (.call 19 [(.t 46), (.t 48)]), none⟩, ⟨(some 50), (.not (.t 49)), none⟩]) (.cond (.t 50) (.seq (.ops [⟨(some 6), (.mov (.c (.bool false))), none⟩]) .ret) .skip)) (.seq (.ops [⟨(some 12), (.mov (.c (.int .i64 1))), none⟩]) (.seq (.ops [⟨(some 51), (.mov (.t 9)), none⟩, ⟨(some 52), (.mov (.t 12)), none⟩, ⟨(some 53), (.call 20 [(.t 51), (.t 52)]), none⟩, ⟨(some 12), (.mov (.t 53)), none⟩]) (.seq (.seq (.ops [⟨(some 54), (.mov (.t 12)), none⟩, ⟨(some 55), (.bin .lss (.t 54) (.c (.int .i64 0))), none⟩, ⟨(some 56), (.mov (.t 55)), none⟩, ⟨(some 57), (.ld (some 2) (.t 10)), (some (56, false))⟩, ⟨(some 58), (.ld (some 2) (.t 7)), (some (56, false))⟩, ⟨(some 59), (.call 11 [(.t 57), (.t 58)]), (some (56, false))⟩, ⟨(some 60), (.not (.t 59)), (some (56, false))⟩, ⟨(some 61), (.pick (.t 56) (.c (.bool true)) (.t 60)), none⟩, ⟨(some 62), (.mov (.t 61)), none⟩, ⟨(some 63), (.mov (.t 11)), (some (62, false))⟩, ⟨(some 64), (.mov (.t 8)), (some (62, false))⟩, ⟨(some 65), (.beq true (.t 63) (.t 64)), (some (62, false))⟩, ⟨(some 66), (.pick (.t 62) (.c (.bool true)) (.t 65)), none⟩]) (.cond (.t 66) (.seq (.ops [⟨(some 6), (.mov (.c (.bool false))), none⟩]) .ret) .skip)) (.seq (.ops [⟨(some 13), (.mov (.c (.int .i64 1))), none⟩]) (.seq (.ops [⟨(some 67), (.ld (some 2) (.t 10)), none⟩, ⟨(some 68), (.mov (.t 13)), none⟩, ⟨(some 69), (.call 12 [(.t 67), (.t 68)]), none⟩, ⟨(some 13), (.mov (.t 69)), none⟩]) (.seq (.ops [⟨(some 14), (.mov (.c (.int .i64 1))), none⟩]) (.seq (.ops [⟨(some 70), (.ld (some 2) (.t 10)), none⟩, ⟨(some 71), (.mov (.t 14)), none⟩, ⟨(some 72), (.call 13 [(.t 70), (.t 71)]), none⟩, ⟨(some 14), (.mov (.t 72)), none⟩]) (.seq (.seq (.ops [⟨(some 73), (.mov (.t 14)), none⟩, ⟨(some 74), (.bin .lss (.t 73) (.c (.int .i64 0))), none⟩]) (.cond (.t 74) (.seq (.ops [⟨(some 6), (.mov (.c (.bool false))), none⟩]) .ret) .skip)) (.seq (.seq (.ops [⟨(some 75), (.mov (.t 14)), none⟩, ⟨(some 76), (.mov (.t 13)), none⟩, ⟨(some 77), (.bin .neq (.t 75) (.t 76)), none⟩]) (.cond (.t 77) (.seq (.ops [⟨(some 6), (.mov (.c (.bool false))), none⟩]) .ret) .skip)) (.seq (.ops [⟨(some 79), (.mov (.t 0)), none⟩, ⟨(some 80), (.call 17 [(.t 79)]), none⟩, ⟨(some 81), (.mov (.t 1)), none⟩, ⟨(some 82), (.mov (.t 2)), none⟩, ⟨(some 83), (.call 18 [(.t 80), (.t 81), (.t 82)]), none⟩, ⟨(some 78), (.mov (.t 83)), none⟩, ⟨(some 84), (.ext (.t 78) 0), none⟩, ⟨(some 85), (.ext (.t 78) 1), none⟩, ⟨(some 15), (.alloc [(.int .i64 0), (.slice none 0 0)]), none⟩, ⟨none, (.st 2 (.t 15) (.t 84)), none⟩, ⟨(some 16), (.mov (.t 85)), none⟩]) (.seq (.seq (.ops [⟨(some 86), (.ld (some 2) (.t 15)), none⟩, ⟨(some 87), (.ld (some 2) (.t 7)), none⟩, ⟨(some 88), (.call 11 [(.t 86), (.t 87)]), none⟩, ⟨(some 89), (.not (.t 88)), none⟩, ⟨(some 90), (.mov (.t 89)), none⟩, ⟨(some 91), (.mov (.t 16)), (some (90, false))⟩, ⟨(some 92), (.mov (.t 8)), (some (90, false))⟩, ⟨(some 93), (.beq true (.t 91) (.t 92)), (some (90, false))⟩, ⟨(some 94), (.pick (.t 90) (.c (.bool true)) (.t 93)), none⟩]) (.cond (.t 94) (.seq (.ops [⟨(some 6), (.mov (.c (.bool false))), none⟩]) .ret) .skip)) (.seq (.ops [⟨(some 14), (.mov (.c (.int .i64 1))), none⟩]) (.seq (.ops [⟨(some 95), (.ld (some 2) (.t 10)), none⟩, ⟨(some 96), (.mov (.t 14)), none⟩, ⟨(some 97), (.call 13 [(.t 95), (.t 96)]), none⟩, ⟨(some 14), (.mov (.t 97)), none⟩]) (.seq (.seq (.ops [⟨(some 98), (.mov (.t 14)), none⟩, ⟨(some 99), (.bin .lss (.t 98) (.c (.int .i64 0))), none⟩]) (.cond (.t 99) (.seq (.ops [⟨(some 6), (.mov (.c (.bool false))), none⟩]) .ret) .skip)) (.seq (.seq (.ops [⟨(some 100), (.mov (.t 14)), none⟩, ⟨(some 101), (.mov (.t 13)), none⟩, ⟨(some 102), (.bin .neq (.t 100) (.t 101)), none⟩]) (.cond (.t 102) (.seq (.ops [⟨(some 6), (.mov (.c (.bool false))), none⟩]) .ret) .skip)) (.seq (.ops [⟨(some 6), (.mov (.c (.bool true))), none⟩]) .ret)))))))))))))))))))))))
theorem cc5 : ccode Try.prog (min Try.f5.ntmps pbase) (Try.f5.body.getD .skip) = some ac5 := by kernel_rfl
def ac11 : ACode := (.seq (.ops [⟨(some 2), (.box 2 (.t 0)), none⟩, ⟨(some 3), (.box 2 (.t 1)), none⟩, ⟨(some 4), (.mov (.c (.bool false))), none⟩]) (.seq (.seq (.ops [⟨(some 5), (.fa 0 (.t 2)), none⟩, ⟨(some 6), (.ld none (.t 5)), none⟩, ⟨(some 7), (.fa 0 (.t 3)), none⟩, ⟨(some 8), (.ld none (.t 7)), none⟩, ⟨(some 9), (.bin .neq (.t 6) (.t 8)), none⟩]) (.cond (.t 9) (.seq (.ops [⟨(some 4), (.mov (.c (.bool false))), none⟩]) .ret) .skip)) (.seq (.seq (.ops [⟨(some 10), (.fa 1 (.t 2)), none⟩, ⟨(some 11), (.ld none (.t 10)), none⟩, ⟨(some 12), (.fa 1 (.t 3)), none⟩, ⟨(some 13), (.ld none (.t 12)), none⟩, ⟨(some 14), (.call 27 [(.t 11), (.t 13)]), none⟩, ⟨(some 15), (.not (.t 14)), none⟩]) (.cond (.t 15) (.seq (.ops [⟨(some 4), (.mov (.c (.bool false))), none⟩]) .ret) .skip)) (.seq (.ops [⟨(some 4), (.mov (.c (.bool true))), none⟩]) .ret))))
theorem cc11 : ccode Try.prog (min Try.f11.ntmps pbase) (Try.f11.body.getD .skip) = some ac11 := by kernel_rfl
def ac12 : ACode := (.seq (.ops [⟨(some 2), (.box 2 (.t 0)), none⟩, ⟨(some 4), (.mov (.c (.int .i64 0))), none⟩]) (.seq (.ops [⟨(some 5), (.fa 1 (.t 2)), none⟩, ⟨(some 6), (.ld none (.t 5)), none⟩, ⟨(some 7), (.mov (.t 1)), none⟩, ⟨(some 8), (.call 28 [(.t 6), (.t 7)]), none⟩, ⟨(some 1), (.mov (.t 8)), none⟩]) (.seq (.ops [⟨(some 9), (.mov (.t 1)), none⟩, ⟨(some 4), (.mov (.t 9)), none⟩]) .ret)))
theorem cc12 : ccode Try.prog (min Try.f12.ntmps pbase) (Try.f12.body.getD .skip) = some ac12 := by kernel_rfl
def ac13 : ACode := (.seq (.ops [⟨(some 2), (.box 2 (.t 0)), none⟩, ⟨(some 4), (.mov (.c (.int .i64 0))), none⟩]) (.seq (.ops [⟨(some 5), (.fa 1 (.t 2)), none⟩, ⟨(some 6), (.ld none (.t 5)), none⟩, ⟨(some 7), (.mov (.t 1)), none⟩, ⟨(some 8), (.call 29 [(.t 6), (.t 7)]), none⟩, ⟨(some 1), (.mov (.t 8)), none⟩]) (.seq (.seq (.ops [⟨(some 9), (.mov (.t 1)), none⟩, ⟨(some 10), (.bin .lss (.t 9) (.c (.int .i64 0))), none⟩]) (.cond (.t 10) (.seq (.ops [⟨(some 4), (.mov (.c (.int .i64 (-1)))), none⟩]) .ret) .skip)) (.seq (.ops [⟨(some 11), (.mov (.t 1)), none⟩, ⟨(some 4), (.mov (.t 11)), none⟩]) .ret))))
theorem cc13 : ccode Try.prog (min Try.f13.ntmps pbase) (Try.f13.body.getD .skip) = some ac13 := by kernel_rfl
def ac16 : ACode := (.seq (.ops [⟨(some 6), (.alloc [(.int .i64 0), (.slice none 0 0)]), none⟩, ⟨(some 7), (.mov (.c (.bool false))), none⟩]) (.seq (.seq (.ops [⟨(some 11), (.mov (.t 0)), none⟩, ⟨(some 12), (.call 35 [(.t 11)]), none⟩, ⟨(some 13), (.not (.t 12)), none⟩, ⟨(some 14), (.mov (.t 13)), none⟩, ⟨(some 15), (.mov (.t 1)), (some (14, false))⟩, ⟨(some 16), (.call 36 [(.t 15), (.c (.int .i64 0)), (.c (.int .i64 6))]), (some (14, false))⟩, ⟨(some 17), (.not (.t 16)), (some (14, false))⟩, ⟨(some 18), (.pick (.t 14) (.c (.bool true)) (.t 17)), none⟩, ⟨(some 19), (.mov (.t 18)), none⟩, ⟨(some 20), (.mov (.t 2)), (some (19, false))⟩, ⟨(some 21), (.call 36 [(.t 20), (.c (.int .i64 0)), (.c (.int .i64 9999))]), (some (19, false))⟩, ⟨(some 22), (.not (.t 21)), (some (19, false))⟩, ⟨(some 23), (.pick (.t 19) (.c (.bool true)) (.t 22)), none⟩]) (.cond (.t 23) (.seq (.ops [⟨(some 24), (.pu (.bld [(.int .i64 0), (.slice none 0 0)] []) []), none⟩, ⟨none, (.st 2 (.t 6) (.t 24)), none⟩, ⟨(some 7), (.mov (.c (.bool false))), none⟩]) .ret) .skip)) (.seq (.ops [⟨(some 25), (.mov (.t 0)), none⟩, ⟨(some 26), (.len (.t 25)), none⟩, ⟨(some 27), (.pu (.bld [(.int .i64 0), (.slice none 0 0)] [(0, 1)]) [(.t 26)]), none⟩, ⟨(some 8), (.alloc [(.int .i64 0), (.slice none 0 0)]), none⟩, ⟨none, (.st 2 (.t 8) (.t 27)), none⟩]) (.seq (.ops [⟨(some 28), (.mov (.t 2)), none⟩, ⟨(some 9), (.mov (.t 28)), none⟩]) (.seq (.block 0 (.loop (.seq (.seq (.ops [⟨(some 29), (.mov (.t 1)), none⟩, ⟨(some 30), (.bin .gtr (.t 29) (.c (.int .i64 0))), none⟩]) (.cond (.t 30) .skip (.exit 0))) (.seq (.block 1 (.seq (.ops [⟨(some 33), (.mov (.t 9)), none⟩, ⟨(some 34), (.call 37 [(.t 33)]), none⟩, ⟨(some 9), (.mov (.t 34)), none⟩]) (.seq (.ops [⟨(some 35), (.mov (.t 9)), none⟩, ⟨(some 36), (.bin .rem (.t 35) (.c (.int .i64 6))), none⟩, ⟨(some 10), (.mov (.t 36)), none⟩]) (.seq (.ops [⟨(some 37), (.mov (.t 9)), none⟩, ⟨(some 38), (.call 37 [(.t 37)]), none⟩, ⟨(some 9), (.mov (.t 38)), none⟩]) (.tree (.take ⟨(some 41), (.mov (.t 10)), none⟩ (.take ⟨(some 42), (.mov (.t 9)), none⟩ (.two ⟨(some 39), (.fa 1 (.t 8)), none⟩ (.two ⟨(some 40), (.ld none (.t 39)), none⟩ (.take ⟨(some 43), (.mov (.t 0)), none⟩ (.take ⟨(some 44), (.call 38 [(.t 41), (.t 42), (.t 43)]), none⟩ (.take ⟨(some 45), (.bsl 3 1 [(.int .i64 0), (.int .i64 0), (.int .i64 0)] [(0, (.t 44))]), none⟩ (.take ⟨(some 46), (.app 3 24 (.t 40) (.t 45)), none⟩ (.take ⟨(some 47), (.fa 1 (.t 8)), none⟩ (.take ⟨none, (.st 1 (.t 47) (.t 46)), none⟩ .done)))))) ⟨(some 43), (.mov (.t 0)), none⟩ (.take ⟨(some 44), (.call 38 [(.t 41), (.t 42), (.t 43)]), none⟩ (.two ⟨(some 40), (.ld none (.t 39)), none⟩ (.take ⟨(some 45), (.bsl 3 1 [(.int .i64 0), (.int .i64 0), (.int .i64 0)] [(0, (.t 44))]), none⟩ (.take ⟨(some 46), (.app 3 24 (.t 40) (.t 45)), none⟩ (.take ⟨(some 47), (.fa 1 (.t 8)), none⟩ (.take ⟨none, (.st 1 (.t 47) (.t 46)), none⟩ .done)))) ⟨(some 45), (.bsl 3 1 [(.int .i64 0), (.int .i64 0), (.int .i64 0)] [(0, (.t 44))]), none⟩ (.take ⟨(some 40), (.ld none (.t 39)), none⟩ (.take ⟨(some 46), (.app 3 24 (.t 40) (.t 45)), none⟩ (.take ⟨(some 47), (.fa 1 (.t 8)), none⟩ (.take ⟨none, (.st 1 (.t 47) (.t 46)), none⟩ .done))))))) ⟨(some 43), (.mov (.t 0)), none⟩ (.take ⟨(some 44), (.call 38 [(.t 41), (.t 42), (.t 43)]), none⟩ (.two ⟨(some 39), (.fa 1 (.t 8)), none⟩ (.two ⟨(some 40), (.ld none (.t 39)), none⟩ (.take ⟨(some 45), (.bsl 3 1 [(.int .i64 0), (.int .i64 0), (.int .i64 0)] [(0, (.t 44))]), none⟩ (.take ⟨(some 46), (.app 3 24 (.t 40) (.t 45)), none⟩ (.take ⟨(some 47), (.fa 1 (.t 8)), none⟩ (.take ⟨none, (.st 1 (.t 47) (.t 46)), none⟩ .done)))) ⟨(some 45), (.bsl 3 1 [(.int .i64 0), (.int .i64 0), (.int .i64 0)] [(0, (.t 44))]), none⟩ (.take ⟨(some 40), (.ld none (.t 39)), none⟩ (.take ⟨(some 46), (.app 3 24 (.t 40) (.t 45)), none⟩ (.take ⟨(some 47), (.fa 1 (.t 8)), none⟩ (.take ⟨none, (.st 1 (.t 47) (.t 46)), none⟩ .done))))) ⟨(some 45), (.bsl 3 1 [(.int .i64 0), (.int .i64 0), (.int .i64 0)] [(0, (.t 44))]), none⟩ (.take ⟨(some 39), (.fa 1 (.t 8)), none⟩ (.take ⟨(some 40), (.ld none (.t 39)), none⟩ (.take ⟨(some 46), (.app 3 24 (.t 40) (.t 45)), none⟩ (.take ⟨(some 47), (.fa 1 (.t 8)), none⟩ (.take ⟨none, (.st 1 (.t 47) (.t 46)), none⟩ .done))))))))))))))) (.ops [⟨(some 31), (.mov (.t 1)), none⟩, ⟨(some 32), (.bin .sub (.t 31) (.c (.int .i64 1))), none⟩, ⟨(some 1), (.mov (.t 32)), none⟩]))))) (.seq (.ops [⟨(some 48), (.ld (some 2) (.t 8)), none⟩, ⟨none, (.st 2 (.t 6) (.t 48)), none⟩, ⟨(some 7), (.mov (.c (.bool true))), none⟩]) .ret))))))
theorem cc16 : ccode Try.prog (min Try.f16.ntmps pbase) (Try.f16.body.getD .skip) = some ac16 := by kernel_rfl
def ac17 : ACode := (.seq (.ops [⟨(some 2), (.nils 1), none⟩]) (.seq (.ops [⟨(some 5), (.mov (.t 0)), none⟩, ⟨(some 6), (.len (.t 5)), none⟩, ⟨(some 7), (.mk 1 8 [(.int .i64 0)] (.t 6) (.t 6)), none⟩, ⟨(some 3), (.mov (.t 7)), none⟩]) (.seq (.seq (.ops [⟨(some 4), (.mov (.c (.int .i64 0))), none⟩]) (.block 0 (.loop (.seq (.seq (.ops [⟨(some 8), (.mov (.t 4)), none⟩, ⟨(some 9), (.mov (.t 0)), none⟩, ⟨(some 10), (.len (.t 9)), none⟩, ⟨(some 11), (.bin .lss (.t 8) (.t 10)), none⟩]) (.cond (.t 11) .skip (.exit 0))) (.seq (.block 1 (.ops [⟨(some 14), (.mov (.t 3)), none⟩, ⟨(some 15), (.mov (.t 4)), none⟩, ⟨(some 16), (.mov (.t 0)), none⟩, ⟨(some 17), (.mov (.t 4)), none⟩, ⟨(some 18), (.idx 1 (.t 16) (.t 17)), none⟩, ⟨(some 19), (.ld none (.t 18)), none⟩, ⟨(some 20), (.idx 1 (.t 14) (.t 15)), none⟩, ⟨none, (.st 1 (.t 20) (.t 19)), none⟩])) (.ops [⟨(some 12), (.mov (.t 4)), none⟩, ⟨(some 13), (.bin .add (.t 12) (.c (.int .i64 1))), none⟩, ⟨(some 4), (.mov (.t 13)), none⟩])))))) (.seq (.ops [⟨(some 21), (.mov (.t 3)), none⟩, ⟨(some 2), (.mov (.t 21)), none⟩]) .ret))))
theorem cc17 : ccode Try.prog (min Try.f17.ntmps pbase) (Try.f17.body.getD .skip) = some ac17 := by kernel_rfl
def ac18 : ACode := (.seq (.ops [⟨(some 6), (.alloc [(.int .i64 0), (.slice none 0 0)]), none⟩, ⟨(some 7), (.mov (.c (.bool false))), none⟩]) (.seq (.seq (.ops [⟨(some 11), (.mov (.t 0)), none⟩, ⟨(some 12), (.call 39 [(.t 11)]), none⟩, ⟨(some 13), (.not (.t 12)), none⟩, ⟨(some 14), (.mov (.t 13)), none⟩, ⟨(some 15), (.mov (.t 1)), (some (14, false))⟩, ⟨(some 16), (.bin .lss (.t 15) (.c (.int .i64 0))), (some (14, false))⟩, ⟨(some 17), (.pick (.t 14) (.c (.bool true)) (.t 16)), none⟩, ⟨(some 18), (.mov (.t 17)), none⟩, ⟨(some 19), (.mov (.t 1)), (some (18, false))⟩, ⟨(some 20), (.bin .gtr (.t 19) (.c (.int .i64 6))), (some (18, false))⟩, ⟨(some 21), (.pick (.t 18) (.c (.bool true)) (.t 20)), none⟩, ⟨(some 22), (.mov (.t 21)), none⟩, ⟨(some 23), (.mov (.t 2)), (some (22, false))⟩, ⟨(some 24), (.bin .lss (.t 23) (.c (.int .i64 0))), (some (22, false))⟩, ⟨(some 25), (.pick (.t 22) (.c (.bool true)) (.t 24)), none⟩, ⟨(some 26), (.mov (.t 25)), none⟩, ⟨(some 27), (.mov (.t 2)), (some (26, false))⟩, ⟨(some 28), (.bin .gtr (.t 27) (.c (.int .i64 9999))), (some (26, false))⟩, ⟨(some 29), (.pick (.t 26) (.c (.bool true)) (.t 28)), none⟩]) (.cond (.t 29) (.seq (.ops [⟨(some 30), (.pu (.bld [(.int .i64 0), (.slice none 0 0)] []) []), none⟩, ⟨none, (.st 2 (.t 6) (.t 30)), none⟩, ⟨(some 7), (.mov (.c (.bool false))), none⟩]) .ret) .skip)) (.seq (.ops [⟨(some 31), (.mov (.t 0)), none⟩, ⟨(some 32), (.len (.t 31)), none⟩, ⟨(some 33), (.pu (.bld [(.int .i64 0), (.slice none 0 0)] [(0, 1)]) [(.t 32)]), none⟩, ⟨(some 8), (.alloc [(.int .i64 0), (.slice none 0 0)]), none⟩, ⟨none, (.st 2 (.t 8) (.t 33)), none⟩]) (.seq (.ops [⟨(some 34), (.mov (.t 2)), none⟩, ⟨(some 9), (.mov (.t 34)), none⟩]) (.seq (.seq (.ops [⟨(some 35), (.mov (.t 1)), none⟩, ⟨(some 36), (.mov (.c (.int .i64 0))), none⟩]) (.block 0 (.loop (.seq (.ops [⟨(some 37), (.bin .lss (.t 36) (.t 35)), none⟩]) (.seq (.cond (.t 37) .skip (.exit 0)) (.seq (.block 1 (.seq (.ops [⟨(some 38), (.mov (.t 9)), none⟩, ⟨(some 39), (.call 40 [(.t 38)]), none⟩, ⟨(some 10), (.mov (.t 39)), none⟩]) (.seq (.ops [⟨(some 40), (.mov (.t 10)), none⟩, ⟨(some 41), (.call 40 [(.t 40)]), none⟩, ⟨(some 9), (.mov (.t 41)), none⟩]) (.tree (.take ⟨(some 44), (.mov (.t 0)), none⟩ (.take ⟨(some 45), (.mov (.t 10)), none⟩ (.take ⟨(some 46), (.bin .rem (.t 45) (.c (.int .i64 6))), none⟩ (.take ⟨(some 47), (.mov (.t 9)), none⟩ (.two ⟨(some 42), (.fa 1 (.t 8)), none⟩ (.two ⟨(some 43), (.ld none (.t 42)), none⟩ (.take ⟨(some 48), (.mov (.t 0)), none⟩ (.take ⟨(some 49), (.len (.t 48)), none⟩ (.take ⟨(some 50), (.bin .rem (.t 47) (.t 49)), none⟩ (.take ⟨(some 51), (.call 41 [(.t 44), (.t 46), (.t 50)]), none⟩ (.take ⟨(some 52), (.bsl 3 1 [(.int .i64 0), (.int .i64 0), (.int .i64 0)] [(0, (.t 51))]), none⟩ (.take ⟨(some 53), (.app 3 24 (.t 43) (.t 52)), none⟩ (.take ⟨(some 54), (.fa 1 (.t 8)), none⟩ (.take ⟨none, (.st 1 (.t 54) (.t 53)), none⟩ .done)))))))) ⟨(some 48), (.mov (.t 0)), none⟩ (.two ⟨(some 43), (.ld none (.t 42)), none⟩ (.take ⟨(some 49), (.len (.t 48)), none⟩ (.take ⟨(some 50), (.bin .rem (.t 47) (.t 49)), none⟩ (.take ⟨(some 51), (.call 41 [(.t 44), (.t 46), (.t 50)]), none⟩ (.take ⟨(some 52), (.bsl 3 1 [(.int .i64 0), (.int .i64 0), (.int .i64 0)] [(0, (.t 51))]), none⟩ (.take ⟨(some 53), (.app 3 24 (.t 43) (.t 52)), none⟩ (.take ⟨(some 54), (.fa 1 (.t 8)), none⟩ (.take ⟨none, (.st 1 (.t 54) (.t 53)), none⟩ .done))))))) ⟨(some 49), (.len (.t 48)), none⟩ (.two ⟨(some 43), (.ld none (.t 42)), none⟩ (.take ⟨(some 50), (.bin .rem (.t 47) (.t 49)), none⟩ (.take ⟨(some 51), (.call 41 [(.t 44), (.t 46), (.t 50)]), none⟩ (.take ⟨(some 52), (.bsl 3 1 [(.int .i64 0), (.int .i64 0), (.int .i64 0)] [(0, (.t 51))]), none⟩ (.take ⟨(some 53), (.app 3 24 (.t 43) (.t 52)), none⟩ (.take ⟨(some 54), (.fa 1 (.t 8)), none⟩ (.take ⟨none, (.st 1 (.t 54) (.t 53)), none⟩ .done)))))) ⟨(some 50), (.bin .rem (.t 47) (.t 49)), none⟩ (.take ⟨(some 51), (.call 41 [(.t 44), (.t 46), (.t 50)]), none⟩ (.two ⟨(some 43), (.ld none (.t 42)), none⟩ (.take ⟨(some 52), (.bsl 3 1 [(.int .i64 0), (.int .i64 0), (.int .i64 0)] [(0, (.t 51))]), none⟩ (.take ⟨(some 53), (.app 3 24 (.t 43) (.t 52)), none⟩ (.take ⟨(some 54), (.fa 1 (.t 8)), none⟩ (.take ⟨none, (.st 1 (.t 54) (.t 53)), none⟩ .done)))) ⟨(some 52), (.bsl 3 1 [(.int .i64 0), (.int .i64 0), (.int .i64 0)] [(0, (.t 51))]), none⟩ (.take ⟨(some 43), (.ld none (.t 42)), none⟩ (.take ⟨(some 53), (.app 3 24 (.t 43) (.t 52)), none⟩ (.take ⟨(some 54), (.fa 1 (.t 8)), none⟩ (.take ⟨none, (.st 1 (.t 54) (.t 53)), none⟩ .done))))))))) ⟨(some 48), (.mov (.t 0)), none⟩ (.two ⟨(some 42), (.fa 1 (.t 8)), none⟩ (.two ⟨(some 43), (.ld none (.t 42)), none⟩ (.take ⟨(some 49), (.len (.t 48)), none⟩ (.take ⟨(some 50), (.bin .rem (.t 47) (.t 49)), none⟩ (.take ⟨(some 51), (.call 41 [(.t 44), (.t 46), (.t 50)]), none⟩ (.take ⟨(some 52), (.bsl 3 1 [(.int .i64 0), (.int .i64 0), (.int .i64 0)] [(0, (.t 51))]), none⟩ (.take ⟨(some 53), (.app 3 24 (.t 43) (.t 52)), none⟩ (.take ⟨(some 54), (.fa 1 (.t 8)), none⟩ (.take ⟨none, (.st 1 (.t 54) (.t 53)), none⟩ .done))))))) ⟨(some 49), (.len (.t 48)), none⟩ (.two ⟨(some 43), (.ld none (.t 42)), none⟩ (.take ⟨(some 50), (.bin .rem (.t 47) (.t 49)), none⟩ (.take ⟨(some 51), (.call 41 [(.t 44), (.t 46), (.t 50)]), none⟩ (.take ⟨(some 52), (.bsl 3 1 [(.int .i64 0), (.int .i64 0), (.int .i64 0)] [(0, (.t 51))]), none⟩ (.take ⟨(some 53), (.app 3 24 (.t 43) (.t 52)), none⟩ (.take ⟨(some 54), (.fa 1 (.t 8)), none⟩ (.take ⟨none, (.st 1 (.t 54) (.t 53)), none⟩ .done)))))) ⟨(some 50), (.bin .rem (.t 47) (.t 49)), none⟩ (.take ⟨(some 51), (.call 41 [(.t 44), (.t 46), (.t 50)]), none⟩ (.two ⟨(some 43), (.ld none (.t 42)), none⟩ (.take ⟨(some 52), (.bsl 3 1 [(.int .i64 0), (.int .i64 0), (.int .i64 0)] [(0, (.t 51))]), none⟩ (.take ⟨(some 53), (.app 3 24 (.t 43) (.t 52)), none⟩ (.take ⟨(some 54), (.fa 1 (.t 8)), none⟩ (.take ⟨none, (.st 1 (.t 54) (.t 53)), none⟩ .done)))) ⟨(some 52), (.bsl 3 1 [(.int .i64 0), (.int .i64 0), (.int .i64 0)] [(0, (.t 51))]), none⟩ (.take ⟨(some 43), (.ld none (.t 42)), none⟩ (.take ⟨(some 53), (.app 3 24 (.t 43) (.t 52)), none⟩ (.take ⟨(some 54), (.fa 1 (.t 8)), none⟩ (.take ⟨none, (.st 1 (.t 54) (.t 53)), none⟩ .done)))))))) ⟨(some 49), (.len (.t 48)), none⟩ (.two ⟨(some 42), (.fa 1 (.t 8)), none⟩ (.two ⟨(some 43), (.ld none (.t 42)), none⟩ (.take ⟨(some 50), (.bin .rem (.t 47) (.t 49)), none⟩ (.take ⟨(some 51), (.call 41 [(.t 44), (.t 46), (.t 50)]), none⟩ (.take ⟨(some 52), (.bsl 3 1 [(.int .i64 0), (.int .i64 0), (.int .i64 0)] [(0, (.t 51))]), none⟩ (.take ⟨(some 53), (.app 3 24 (.t 43) (.t 52)), none⟩ (.take ⟨(some 54), (.fa 1 (.t 8)), none⟩ (.take ⟨none, (.st 1 (.t 54) (.t 53)), none⟩ .done)))))) ⟨(some 50), (.bin .rem (.t 47) (.t 49)), none⟩ (.take ⟨(some 51), (.call 41 [(.t 44), (.t 46), (.t 50)]), none⟩ (.two ⟨(some 43), (.ld none (.t 42)), none⟩ (.take ⟨(some 52), (.bsl 3 1 [(.int .i64 0), (.int .i64 0), (.int .i64 0)] [(0, (.t 51))]), none⟩ (.take ⟨(some 53), (.app 3 24 (.t 43) (.t 52)), none⟩ (.take ⟨(some 54), (.fa 1 (.t 8)), none⟩ (.take ⟨none, (.st 1 (.t 54) (.t 53)), none⟩ .done)))) ⟨(some 52), (.bsl 3 1 [(.int .i64 0), (.int .i64 0), (.int .i64 0)] [(0, (.t 51))]), none⟩ (.take ⟨(some 43), (.ld none (.t 42)), none⟩ (.take ⟨(some 53), (.app 3 24 (.t 43) (.t 52)), none⟩ (.take ⟨(some 54), (.fa 1 (.t 8)), none⟩ (.take ⟨none, (.st 1 (.t 54) (.t 53)), none⟩ .done))))))) ⟨(some 50), (.bin .rem (.t 47) (.t 49)), none⟩ (.take ⟨(some 51), (.call 41 [(.t 44), (.t 46), (.t 50)]), none⟩ (.two ⟨(some 42), (.fa 1 (.t 8)), none⟩ (.two ⟨(some 43), (.ld none (.t 42)), none⟩ (.take ⟨(some 52), (.bsl 3 1 [(.int .i64 0), (.int .i64 0), (.int .i64 0)] [(0, (.t 51))]), none⟩ (.take ⟨(some 53), (.app 3 24 (.t 43) (.t 52)), none⟩ (.take ⟨(some 54), (.fa 1 (.t 8)), none⟩ (.take ⟨none, (.st 1 (.t 54) (.t 53)), none⟩ .done)))) ⟨(some 52), (.bsl 3 1 [(.int .i64 0), (.int .i64 0), (.int .i64 0)] [(0, (.t 51))]), none⟩ (.take ⟨(some 43), (.ld none (.t 42)), none⟩ (.take ⟨(some 53), (.app 3 24 (.t 43) (.t 52)), none⟩ (.take ⟨(some 54), (.fa 1 (.t 8)), none⟩ (.take ⟨none, (.st 1 (.t 54) (.t 53)), none⟩ .done))))) ⟨(some 52), (.bsl 3 1 [(.int .i64 0), (.int .i64 0), (.int .i64 0)] [(0, (.t 51))]), none⟩ (.take ⟨(some 42), (.fa 1 (.t 8)), none⟩ (.take ⟨(some 43), (.ld none (.t 42)), none⟩ (.take ⟨(some 53), (.app 3 24 (.t 43) (.t 52)), none⟩ (.take ⟨(some 54), (.fa 1 (.t 8)), none⟩ (.take ⟨none, (.st 1 (.t 54) (.t 53)), none⟩ .done)))))))))))))))))) (.ops [⟨(some 55), (.bin .add (.t 36) (.c (.int .i64 1))), none⟩, ⟨(some 36), (.mov (.t 55)), none⟩]))))))) (.seq (.ops [⟨(some 56), (.ld (some 2) (.t 8)), none⟩, ⟨none, (.st 2 (.t 6) (.t 56)), none⟩, ⟨(some 7), (.mov (.c (.bool true))), none⟩]) .ret))))))
theorem cc18 : ccode Try.prog (min Try.f18.ntmps pbase) (Try.f18.body.getD .skip) = some ac18 := by kernel_rfl
def ac19 : ACode := (.seq (.ops [⟨(some 4), (.mov (.c (.bool false))), none⟩]) (.seq (.seq (.ops [⟨(some 6), (.mov (.t 0)), none⟩, ⟨(some 7), (.len (.t 6)), none⟩, ⟨(some 8), (.mov (.t 1)), none⟩, ⟨(some 9), (.len (.t 8)), none⟩, ⟨(some 10), (.bin .neq (.t 7) (.t 9)), none⟩]) (.cond (.t 10) (.seq (.ops [⟨(some 4), (.mov (.c (.bool false))), none⟩]) .ret) .skip)) (.seq (.seq (.ops [⟨(some 5), (.mov (.c (.int .i64 0))), none⟩]) (.block 0 (.loop (.seq (.seq (.ops [⟨(some 11), (.mov (.t 5)), none⟩, ⟨(some 12), (.mov (.t 0)), none⟩, ⟨(some 13), (.len (.t 12)), none⟩, ⟨(some 14), (.bin .lss (.t 11) (.t 13)), none⟩]) (.cond (.t 14) .skip (.exit 0))) (.seq (.block 1 (.seq (.tree (.take ⟨(some 17), (.mov (.t 0)), none⟩ (.take ⟨(some 18), (.mov (.t 5)), none⟩ (.take ⟨(some 19), (.idx 1 (.t 17) (.t 18)), none⟩ (.take ⟨(some 20), (.ld none (.t 19)), none⟩ (.take ⟨(some 21), (.mov (.t 1)), none⟩ (.take ⟨(some 22), (.mov (.t 5)), none⟩ (.take ⟨(some 23), (.idx 1 (.t 21) (.t 22)), none⟩ (.take ⟨(some 24), (.ld none (.t 23)), none⟩ (.take ⟨(some 25), (.bin .neq (.t 20) (.t 24)), none⟩ .done)))))))))) (.cond (.t 25) (.seq (.ops [⟨(some 4), (.mov (.c (.bool false))), none⟩]) .ret) .skip))) (.ops [⟨(some 15), (.mov (.t 5)), none⟩, ⟨(some 16), (.bin .add (.t 15) (.c (.int .i64 1))), none⟩, ⟨(some 5), (.mov (.t 16)), none⟩])))))) (.seq (.ops [⟨(some 4), (.mov (.c (.bool true))), none⟩]) .ret))))
theorem cc19 : ccode Try.prog (min Try.f19.ntmps pbase) (Try.f19.body.getD .skip) = some ac19 := by kernel_rfl
def ac20 : ACode := (.seq (.ops [⟨(some 4), (.mov (.c (.int .i64 0))), none⟩]) (.seq (.seq (.ops [⟨(some 5), (.mov (.c (.int .i64 0))), none⟩]) (.block 0 (.loop (.seq (.seq (.ops [⟨(some 6), (.mov (.t 5)), none⟩, ⟨(some 7), (.mov (.t 0)), none⟩, ⟨(some 8), (.len (.t 7)), none⟩, ⟨(some 9), (.bin .lss (.t 6) (.t 8)), none⟩]) (.cond (.t 9) .skip (.exit 0))) (.seq (.block 1 (.seq (.ops [⟨(some 12), (.mov (.t 0)), none⟩, ⟨(some 13), (.mov (.t 5)), none⟩, ⟨(some 14), (.mov (.t 1)), none⟩, ⟨(some 15), (.idx 1 (.t 12) (.t 13)), none⟩, ⟨none, (.st 1 (.t 15) (.t 14)), none⟩]) (.ops [⟨(some 16), (.mov (.t 1)), none⟩, ⟨(some 17), (.bin .add (.t 16) (.c (.int .i64 1))), none⟩, ⟨(some 1), (.mov (.t 17)), none⟩]))) (.ops [⟨(some 10), (.mov (.t 5)), none⟩, ⟨(some 11), (.bin .add (.t 10) (.c (.int .i64 1))), none⟩, ⟨(some 5), (.mov (.t 11)), none⟩])))))) (.seq (.ops [⟨(some 18), (.mov (.t 1)), none⟩, ⟨(some 4), (.mov (.t 18)), none⟩]) .ret)))
theorem cc20 : ccode Try.prog (min Try.f20.ntmps pbase) (Try.f20.body.getD .skip) = some ac20 := by kernel_rfl
def ac27 : ACode := (.seq (.ops [⟨(some 4), (.mov (.c (.bool false))), none⟩]) (.seq (.seq (.ops [⟨(some 6), (.mov (.t 0)), none⟩, ⟨(some 7), (.len (.t 6)), none⟩, ⟨(some 8), (.mov (.t 1)), none⟩, ⟨(some 9), (.len (.t 8)), none⟩, ⟨(some 10), (.bin .neq (.t 7) (.t 9)), none⟩]) (.cond (.t 10) (.seq (.ops [⟨(some 4), (.mov (.c (.bool false))), none⟩]) .ret) .skip)) (.seq (.seq (.ops [⟨(some 5), (.mov (.c (.int .i64 0))), none⟩]) (.block 0 (.loop (.seq (.seq (.ops [⟨(some 11), (.mov (.t 5)), none⟩, ⟨(some 12), (.mov (.t 0)), none⟩, ⟨(some 13), (.len (.t 12)), none⟩, ⟨(some 14), (.bin .lss (.t 11) (.t 13)), none⟩]) (.cond (.t 14) .skip (.exit 0))) (.seq (.block 1 (.seq (.tree (.take ⟨(some 17), (.mov (.t 0)), none⟩ (.take ⟨(some 18), (.mov (.t 5)), none⟩ (.take ⟨(some 19), (.idx 3 (.t 17) (.t 18)), none⟩ (.take ⟨(some 20), (.ld (some 3) (.t 19)), none⟩ (.take ⟨(some 21), (.mov (.t 1)), none⟩ (.take ⟨(some 22), (.mov (.t 5)), none⟩ (.take ⟨(some 23), (.idx 3 (.t 21) (.t 22)), none⟩ (.take ⟨(some 24), (.ld (some 3) (.t 23)), none⟩ (.take ⟨(some 25), (.call 44 [(.t 20), (.t 24)]), none⟩ (.take ⟨(some 26), (.not (.t 25)), none⟩ .done))))))))))) (.cond (.t 26) (.seq (.ops [⟨(some 4), (.mov (.c (.bool false))), none⟩]) .ret) .skip))) (.ops [⟨(some 15), (.mov (.t 5)), none⟩, ⟨(some 16), (.bin .add (.t 15) (.c (.int .i64 1))), none⟩, ⟨(some 5), (.mov (.t 16)), none⟩])))))) (.seq (.ops [⟨(some 4), (.mov (.c (.bool true))), none⟩]) .ret))))
theorem cc27 : ccode Try.prog (min Try.f27.ntmps pbase) (Try.f27.body.getD .skip) = some ac27 := by kernel_rfl
def ac28 : ACode := (.seq (.ops [⟨(some 4), (.mov (.c (.int .i64 0))), none⟩]) (.seq (.seq (.ops [⟨(some 5), (.mov (.c (.int .i64 0))), none⟩]) (.block 0 (.loop (.seq (.seq (.ops [⟨(some 6), (.mov (.t 5)), none⟩, ⟨(some 7), (.mov (.t 0)), none⟩, ⟨(some 8), (.len (.t 7)), none⟩, ⟨(some 9), (.bin .lss (.t 6) (.t 8)), none⟩]) (.cond (.t 9) .skip (.exit 0))) (.seq (.block 1 (.seq (.ops [⟨(some 12), (.mov (.t 0)), none⟩, ⟨(some 13), (.mov (.t 5)), none⟩, ⟨(some 14), (.mov (.t 1)), none⟩, ⟨(some 15), (.idx 3 (.t 12) (.t 13)), none⟩, ⟨(some 16), (.fa 0 (.t 15)), none⟩, ⟨none, (.st 1 (.t 16) (.t 14)), none⟩]) (.seq (.ops [⟨(some 17), (.mov (.t 1)), none⟩, ⟨(some 18), (.bin .add (.t 17) (.c (.int .i64 1))), none⟩, ⟨(some 1), (.mov (.t 18)), none⟩]) (.seq (.ops [⟨(some 19), (.mov (.t 0)), none⟩, ⟨(some 20), (.mov (.t 5)), none⟩, ⟨(some 21), (.mov (.t 1)), none⟩, ⟨(some 22), (.idx 3 (.t 19) (.t 20)), none⟩, ⟨(some 23), (.fa 1 (.t 22)), none⟩, ⟨none, (.st 1 (.t 23) (.t 21)), none⟩]) (.seq (.ops [⟨(some 24), (.mov (.t 1)), none⟩, ⟨(some 25), (.bin .add (.t 24) (.c (.int .i64 1))), none⟩, ⟨(some 1), (.mov (.t 25)), none⟩]) (.seq (.ops [⟨(some 26), (.mov (.t 0)), none⟩, ⟨(some 27), (.mov (.t 5)), none⟩, ⟨(some 28), (.mov (.t 1)), none⟩, ⟨(some 29), (.idx 3 (.t 26) (.t 27)), none⟩, ⟨(some 30), (.fa 2 (.t 29)), none⟩, ⟨none, (.st 1 (.t 30) (.t 28)), none⟩]) (.ops [⟨(some 31), (.mov (.t 1)), none⟩, ⟨(some 32), (.bin .add (.t 31) (.c (.int .i64 1))), none⟩, ⟨(some 1), (.mov (.t 32)), none⟩]))))))) (.ops [⟨(some 10), (.mov (.t 5)), none⟩, ⟨(some 11), (.bin .add (.t 10) (.c (.int .i64 1))), none⟩, ⟨(some 5), (.mov (.t 11)), none⟩])))))) (.seq (.ops [⟨(some 33), (.mov (.t 1)), none⟩, ⟨(some 4), (.mov (.t 33)), none⟩]) .ret)))
theorem cc28 : ccode Try.prog (min Try.f28.ntmps pbase) (Try.f28.body.getD .skip) = some ac28 := by kernel_rfl
def ac29 : ACode := (.seq (.ops [⟨(some 4), (.mov (.c (.int .i64 0))), none⟩]) (.seq (.seq (.ops [⟨(some 5), (.mov (.c (.int .i64 0))), none⟩]) (.block 0 (.loop (.seq (.seq (.ops [⟨(some 6), (.mov (.t 5)), none⟩, ⟨(some 7), (.mov (.t 0)), none⟩, ⟨(some 8), (.len (.t 7)), none⟩, ⟨(some 9), (.bin .lss (.t 6) (.t 8)), none⟩]) (.cond (.t 9) .skip (.exit 0))) (.seq (.block 1 (.seq (.seq (.ops [⟨(some 12), (.mov (.t 0)), none⟩, ⟨(some 13), (.mov (.t 5)), none⟩, ⟨(some 14), (.idx 3 (.t 12) (.t 13)), none⟩, ⟨(some 15), (.fa 0 (.t 14)), none⟩, ⟨(some 16), (.ld none (.t 15)), none⟩, ⟨(some 17), (.mov (.t 1)), none⟩, ⟨(some 18), (.bin .neq (.t 16) (.t 17)), none⟩]) (.cond (.t 18) (.seq (.ops [⟨(some 4), (.mov (.c (.int .i64 (-1)))), none⟩]) .ret) .skip)) (.seq (.ops [⟨(some 19), (.mov (.t 1)), none⟩, ⟨(some 20), (.bin .add (.t 19) (.c (.int .i64 1))), none⟩, ⟨(some 1), (.mov (.t 20)), none⟩]) (.seq (.seq (.ops [⟨(some 21), (.mov (.t 0)), none⟩, ⟨(some 22), (.mov (.t 5)), none⟩, ⟨(some 23), (.idx 3 (.t 21) (.t 22)), none⟩, ⟨(some 24), (.fa 1 (.t 23)), none⟩, ⟨(some 25), (.ld none (.t 24)), none⟩, ⟨(some 26), (.mov (.t 1)), none⟩, ⟨(some 27), (.bin .neq (.t 25) (.t 26)), none⟩]) (.cond (.t 27) (.seq (.ops [⟨(some 4), (.mov (.c (.int .i64 (-1)))), none⟩]) .ret) .skip)) (.seq (.ops [⟨(some 28), (.mov (.t 1)), none⟩, ⟨(some 29), (.bin .add (.t 28) (.c (.int .i64 1))), none⟩, ⟨(some 1), (.mov (.t 29)), none⟩]) (.seq (.seq (.ops [⟨(some 30), (.mov (.t 0)), none⟩, ⟨(some 31), (.mov (.t 5)), none⟩, ⟨(some 32), (.idx 3 (.t 30) (.t 31)), none⟩, ⟨(some 33), (.fa 2 (.t 32)), none⟩, ⟨(some 34), (.ld none (.t 33)), none⟩, ⟨(some 35), (.mov (.t 1)), none⟩, ⟨(some 36), (.bin .neq (.t 34) (.t 35)), none⟩]) (.cond (.t 36) (.seq (.ops [⟨(some 4), (.mov (.c (.int .i64 (-1)))), none⟩]) .ret) .skip)) (.ops [⟨(some 37), (.mov (.t 1)), none⟩, ⟨(some 38), (.bin .add (.t 37) (.c (.int .i64 1))), none⟩, ⟨(some 1), (.mov (.t 38)), none⟩]))))))) (.ops [⟨(some 10), (.mov (.t 5)), none⟩, ⟨(some 11), (.bin .add (.t 10) (.c (.int .i64 1))), none⟩, ⟨(some 5), (.mov (.t 11)), none⟩])))))) (.seq (.ops [⟨(some 39), (.mov (.t 1)), none⟩, ⟨(some 4), (.mov (.t 39)), none⟩]) .ret)))
theorem cc29 : ccode Try.prog (min Try.f29.ntmps pbase) (Try.f29.body.getD .skip) = some ac29 := by kernel_rfl
def ac35 : ACode := (.seq (.ops [⟨(some 2), (.mov (.c (.bool false))), none⟩]) (.seq (.ops [⟨(some 3), (.mov (.t 0)), none⟩, ⟨(some 4), (.call 47 [(.t 3)]), none⟩, ⟨(some 5), (.mov (.t 4)), none⟩, ⟨(some 6), (.mov (.t 0)), (some (5, true))⟩, ⟨(some 7), (.len (.t 6)), (some (5, true))⟩, ⟨(some 8), (.call 42 [(.t 7)]), (some (5, true))⟩, ⟨(some 9), (.pick (.t 5) (.t 8) (.c (.bool false))), none⟩, ⟨(some 2), (.mov (.t 9)), none⟩]) .ret))
theorem cc35 : ccode Try.prog (min Try.f35.ntmps pbase) (Try.f35.body.getD .skip) = some ac35 := by kernel_rfl
def ac36 : ACode := (.seq (.ops [⟨(some 6), (.mov (.c (.bool false))), none⟩]) (.seq (.ops [⟨(some 7), (.mov (.t 0)), none⟩, ⟨(some 8), (.mov (.t 1)), none⟩, ⟨(some 9), (.bin .geq (.t 7) (.t 8)), none⟩, ⟨(some 10), (.mov (.t 9)), none⟩, ⟨(some 11), (.mov (.t 0)), (some (10, true))⟩, ⟨(some 12), (.mov (.t 2)), (some (10, true))⟩, ⟨(some 13), (.bin .leq (.t 11) (.t 12)), (some (10, true))⟩, ⟨(some 14), (.pick (.t 10) (.t 13) (.c (.bool false))), none⟩, ⟨(some 6), (.mov (.t 14)), none⟩]) .ret))
theorem cc36 : ccode Try.prog (min Try.f36.ntmps pbase) (Try.f36.body.getD .skip) = some ac36 := by kernel_rfl
def ac37 : ACode := (.seq (.ops [⟨(some 2), (.mov (.c (.int .i64 0))), none⟩]) (.seq (.ops [⟨(some 3), (.mov (.t 0)), none⟩, ⟨(some 4), (.bin .mul (.c (.int .i64 191)) (.t 3)), none⟩, ⟨(some 5), (.bin .add (.t 4) (.c (.int .i64 2719))), none⟩, ⟨(some 6), (.bin .rem (.t 5) (.c (.int .i64 10007))), none⟩, ⟨(some 2), (.mov (.t 6)), none⟩]) .ret))
theorem cc37 : ccode Try.prog (min Try.f37.ntmps pbase) (Try.f37.body.getD .skip) = some ac37 := by kernel_rfl
def ac38 : ACode := (.seq (.ops [⟨(some 6), (.alloc [(.int .i64 0), (.int .i64 0), (.int .i64 0)]), none⟩]) (.seq (.ops [⟨(some 10), (.mov (.t 2)), none⟩, ⟨(some 11), (.len (.t 10)), none⟩, ⟨(some 7), (.mov (.t 11)), none⟩]) (.seq (.seq (.ops [⟨(some 12), (.mov (.t 0)), none⟩]) (.block 0 (.seq (.ops [⟨(some 14), (.bin .eql (.t 12) (.c (.int .i64 0))), none⟩, ⟨(some 13), (.mov (.t 14)), none⟩]) (.cond (.t 13) (.seq (.tree (.take ⟨(some 15), (.mov (.t 1)), none⟩ (.take ⟨(some 16), (.mov (.t 7)), none⟩ (.take ⟨(some 17), (.bin .rem (.t 15) (.t 16)), none⟩ (.take ⟨(some 18), (.mov (.t 2)), none⟩ (.take ⟨(some 19), (.mov (.t 1)), none⟩ (.take ⟨(some 20), (.mov (.t 7)), none⟩ (.take ⟨(some 21), (.bin .rem (.t 19) (.t 20)), none⟩ (.take ⟨(some 22), (.idx 1 (.t 18) (.t 21)), none⟩ (.take ⟨(some 23), (.ld none (.t 22)), none⟩ (.take ⟨(some 24), (.pu (.bld [(.int .i64 0), (.int .i64 0), (.int .i64 0)] [(1, 1), (2, 1)]) [(.t 17), (.t 23)]), none⟩ (.take ⟨none, (.st 3 (.t 6) (.t 24)), none⟩ .done)))))))))))) .ret) (.seq (.ops [⟨(some 26), (.bin .eql (.t 12) (.c (.int .i64 1))), none⟩, ⟨(some 25), (.mov (.t 26)), none⟩]) (.cond (.t 25) (.seq (.seq (.ops [⟨(some 27), (.mov (.t 7)), none⟩, ⟨(some 28), (.bin .eql (.t 27) (.c (.int .i64 1))), none⟩]) (.cond (.t 28) (.seq (.ops [⟨(some 29), (.pu (.bld [(.int .i64 0), (.int .i64 0), (.int .i64 0)] []) []), none⟩, ⟨none, (.st 3 (.t 6) (.t 29)), none⟩]) .ret) .skip)) (.seq (.tree (.take ⟨(some 30), (.mov (.t 1)), none⟩ (.take ⟨(some 31), (.mov (.t 7)), none⟩ (.take ⟨(some 32), (.bin .rem (.t 30) (.t 31)), none⟩ (.take ⟨(some 33), (.mov (.t 2)), none⟩ (.take ⟨(some 34), (.mov (.t 1)), none⟩ (.take ⟨(some 35), (.mov (.t 7)), none⟩ (.take ⟨(some 36), (.bin .rem (.t 34) (.t 35)), none⟩ (.take ⟨(some 37), (.idx 1 (.t 33) (.t 36)), none⟩ (.take ⟨(some 38), (.ld none (.t 37)), none⟩ (.take ⟨(some 39), (.bin .add (.t 38) (.c (.int .i64 1))), none⟩ (.take ⟨(some 40), (.mov (.t 7)), none⟩ (.take ⟨(some 41), (.bin .rem (.t 39) (.t 40)), none⟩ (.take ⟨(some 42), (.pu (.bld [(.int .i64 0), (.int .i64 0), (.int .i64 0)] [(0, 1), (1, 1), (2, 1)]) [(.c (.int .i64 1)), (.t 32), (.t 41)]), none⟩ (.take ⟨none, (.st 3 (.t 6) (.t 42)), none⟩ .done))))))))))))))) .ret)) (.seq (.ops [⟨(some 44), (.bin .eql (.t 12) (.c (.int .i64 2))), none⟩, ⟨(some 43), (.mov (.t 44)), none⟩]) (.cond (.t 43) (.seq (.ops [⟨(some 45), (.mov (.t 2)), none⟩, ⟨(some 46), (.call 48 [(.t 45)]), none⟩, ⟨(some 47), (.len (.t 46)), none⟩, ⟨(some 48), (.pu (.bld [(.int .i64 0), (.int .i64 0), (.int .i64 0)] [(0, 1), (1, 1)]) [(.c (.int .i64 2)), (.t 47)]), none⟩, ⟨none, (.st 3 (.t 6) (.t 48)), none⟩]) .ret) (.seq (.ops [⟨(some 50), (.bin .eql (.t 12) (.c (.int .i64 3))), none⟩, ⟨(some 49), (.mov (.t 50)), none⟩]) (.cond (.t 49) (.seq (.ops [⟨(some 51), (.mov (.t 2)), none⟩, ⟨(some 52), (.call 49 [(.t 51)]), none⟩, ⟨(some 53), (.len (.t 52)), none⟩, ⟨(some 54), (.pu (.bld [(.int .i64 0), (.int .i64 0), (.int .i64 0)] [(0, 1), (1, 1)]) [(.c (.int .i64 3)), (.t 53)]), none⟩, ⟨none, (.st 3 (.t 6) (.t 54)), none⟩]) .ret) (.seq (.ops [⟨(some 56), (.bin .eql (.t 12) (.c (.int .i64 4))), none⟩, ⟨(some 55), (.mov (.t 56)), none⟩]) (.cond (.t 55) (.seq (.seq (.tree (.take ⟨(some 57), (.mov (.t 2)), none⟩ (.take ⟨(some 58), (.mov (.t 1)), none⟩ (.take ⟨(some 59), (.mov (.t 7)), none⟩ (.take ⟨(some 60), (.bin .rem (.t 58) (.t 59)), none⟩ (.take ⟨(some 61), (.idx 1 (.t 57) (.t 60)), none⟩ (.take ⟨(some 62), (.ld none (.t 61)), none⟩ (.take ⟨(some 63), (.mov (.t 1)), none⟩ (.take ⟨(some 64), (.mov (.t 7)), none⟩ (.take ⟨(some 65), (.bin .rem (.t 63) (.t 64)), none⟩ (.take ⟨(some 66), (.bin .gtr (.t 62) (.t 65)), none⟩ .done))))))))))) (.cond (.t 66) (.seq (.ops [⟨(some 67), (.mov (.t 1)), none⟩, ⟨(some 68), (.mov (.t 7)), none⟩, ⟨(some 69), (.bin .rem (.t 67) (.t 68)), none⟩, ⟨(some 70), (.pu (.bld [(.int .i64 0), (.int .i64 0), (.int .i64 0)] [(0, 1), (1, 1), (2, 1)]) [(.c (.int .i64 4)), (.t 69), (.c (.int .i64 1))]), none⟩, ⟨none, (.st 3 (.t 6) (.t 70)), none⟩]) .ret) .skip)) (.seq (.ops [⟨(some 71), (.mov (.t 1)), none⟩, ⟨(some 72), (.mov (.t 7)), none⟩, ⟨(some 73), (.bin .rem (.t 71) (.t 72)), none⟩, ⟨(some 74), (.pu (.bld [(.int .i64 0), (.int .i64 0), (.int .i64 0)] [(0, 1), (1, 1)]) [(.c (.int .i64 4)), (.t 73)]), none⟩, ⟨none, (.st 3 (.t 6) (.t 74)), none⟩]) .ret)) .skip)))))))))))) (.seq (.ops [⟨(some 76), (.mov (.t 2)), none⟩, ⟨(some 77), (.call 50 [(.t 76)]), none⟩, ⟨(some 75), (.mov (.t 77)), none⟩, ⟨(some 78), (.ext (.t 75) 0), none⟩, ⟨(some 79), (.ext (.t 75) 1), none⟩, ⟨(some 8), (.mov (.t 78)), none⟩, ⟨(some 9), (.mov (.t 79)), none⟩]) (.seq (.ops [⟨(some 80), (.mov (.t 8)), none⟩, ⟨(some 81), (.pu (.bld [(.int .i64 0), (.int .i64 0), (.int .i64 0)] [(0, 1), (1, 1)]) [(.c (.int .i64 5)), (.t 80)]), none⟩, ⟨none, (.st 3 (.t 6) (.t 81)), none⟩]) .ret)))))
theorem cc38 : ccode Try.prog (min Try.f38.ntmps pbase) (Try.f38.body.getD .skip) = some ac38 := by kernel_rfl
def ac39 : ACode := (.seq (.ops [⟨(some 2), (.mov (.c (.bool false))), none⟩]) (.seq (.ops [⟨(some 3), (.mov (.t 0)), none⟩, ⟨(some 4), (.call 51 [(.t 3)]), none⟩, ⟨(some 5), (.mov (.t 4)), none⟩, ⟨(some 6), (.mov (.t 0)), (some (5, true))⟩, ⟨(some 7), (.len (.t 6)), (some (5, true))⟩, ⟨(some 8), (.bin .leq (.t 7) (.c (.int .i64 5))), (some (5, true))⟩, ⟨(some 9), (.pick (.t 5) (.t 8) (.c (.bool false))), none⟩, ⟨(some 2), (.mov (.t 9)), none⟩]) .ret))
theorem cc39 : ccode Try.prog (min Try.f39.ntmps pbase) (Try.f39.body.getD .skip) = some ac39 := by kernel_rfl
def ac40 : ACode := (.seq (.ops [⟨(some 2), (.mov (.c (.int .i64 0))), none⟩]) (.seq (.ops [⟨(some 3), (.mov (.t 0)), none⟩, ⟨(some 4), (.bin .mul (.t 3) (.c (.int .i64 191))), none⟩, ⟨(some 5), (.bin .add (.t 4) (.c (.int .i64 2719))), none⟩, ⟨(some 6), (.bin .rem (.t 5) (.c (.int .i64 10007))), none⟩, ⟨(some 2), (.mov (.t 6)), none⟩]) .ret))
theorem cc40 : ccode Try.prog (min Try.f40.ntmps pbase) (Try.f40.body.getD .skip) = some ac40 := by kernel_rfl
def ac41 : ACode := (.seq (.ops [⟨(some 6), (.alloc [(.int .i64 0), (.int .i64 0), (.int .i64 0)]), none⟩]) (.seq (.ops [⟨(some 8), (.mov (.t 0)), none⟩, ⟨(some 9), (.mov (.t 1)), none⟩, ⟨(some 10), (.mov (.t 2)), none⟩, ⟨(some 11), (.call 52 [(.t 8), (.t 9), (.t 10)]), none⟩, ⟨(some 7), (.mov (.t 11)), none⟩]) (.seq (.ops [⟨(some 12), (.mov (.t 1)), none⟩]) (.block 0 (.seq (.seq (.ops [⟨(some 17), (.bin .eql (.t 12) (.c (.int .i64 0))), none⟩, ⟨(some 16), (.mov (.t 17)), none⟩]) (.cond (.t 16) .skip (.ops [⟨(some 18), (.bin .eql (.t 12) (.c (.int .i64 4))), none⟩, ⟨(some 16), (.mov (.t 18)), none⟩]))) (.cond (.t 16) (.seq (.ops [⟨(some 19), (.mov (.t 1)), none⟩, ⟨(some 20), (.mov (.t 2)), none⟩, ⟨(some 21), (.mov (.t 7)), none⟩, ⟨(some 22), (.pu (.bld [(.int .i64 0), (.int .i64 0), (.int .i64 0)] [(0, 1), (1, 1), (2, 1)]) [(.t 19), (.t 20), (.t 21)]), none⟩, ⟨none, (.st 3 (.t 6) (.t 22)), none⟩]) .ret) (.seq (.ops [⟨(some 24), (.bin .eql (.t 12) (.c (.int .i64 1))), none⟩, ⟨(some 23), (.mov (.t 24)), none⟩]) (.cond (.t 23) (.seq (.seq (.ops [⟨(some 25), (.mov (.t 0)), none⟩, ⟨(some 26), (.len (.t 25)), none⟩, ⟨(some 27), (.bin .eql (.t 26) (.c (.int .i64 1))), none⟩]) (.cond (.t 27) (.seq (.ops [⟨(some 28), (.mov (.t 2)), none⟩, ⟨(some 29), (.mov (.t 7)), none⟩, ⟨(some 30), (.pu (.bld [(.int .i64 0), (.int .i64 0), (.int .i64 0)] [(0, 1), (1, 1), (2, 1)]) [(.c (.int .i64 0)), (.t 28), (.t 29)]), none⟩, ⟨none, (.st 3 (.t 6) (.t 30)), none⟩]) .ret) .skip)) (.seq (.ops [⟨(some 31), (.mov (.t 1)), none⟩, ⟨(some 32), (.mov (.t 2)), none⟩, ⟨(some 33), (.mov (.t 7)), none⟩, ⟨(some 34), (.bin .add (.t 33) (.c (.int .i64 1))), none⟩, ⟨(some 35), (.mov (.t 0)), none⟩, ⟨(some 36), (.len (.t 35)), none⟩, ⟨(some 37), (.bin .rem (.t 34) (.t 36)), none⟩, ⟨(some 38), (.pu (.bld [(.int .i64 0), (.int .i64 0), (.int .i64 0)] [(0, 1), (1, 1), (2, 1)]) [(.t 31), (.t 32), (.t 37)]), none⟩, ⟨none, (.st 3 (.t 6) (.t 38)), none⟩]) .ret)) (.seq (.ops [⟨(some 13), (.mov (.t 1)), none⟩, ⟨(some 14), (.mov (.t 7)), none⟩, ⟨(some 15), (.pu (.bld [(.int .i64 0), (.int .i64 0), (.int .i64 0)] [(0, 1), (1, 1)]) [(.t 13), (.t 14)]), none⟩, ⟨none, (.st 3 (.t 6) (.t 15)), none⟩]) .ret)))))))))
theorem cc41 : ccode Try.prog (min Try.f41.ntmps pbase) (Try.f41.body.getD .skip) = some ac41 := by kernel_rfl
def ac42 : ACode := (.seq (.ops [⟨(some 2), (.mov (.c (.bool false))), none⟩]) (.seq (.ops [⟨(some 3), (.mov (.t 0)), none⟩, ⟨(some 4), (.call 36 [(.t 3), (.c (.int .i64 1)), (.c (.int .i64 5))]), none⟩, ⟨(some 2), (.mov (.t 4)), none⟩]) .ret))
theorem cc42 : ccode Try.prog (min Try.f42.ntmps pbase) (Try.f42.body.getD .skip) = some ac42 := by kernel_rfl
def ac44 : ACode := (.seq (.ops [⟨(some 2), (.box 3 (.t 0)), none⟩, ⟨(some 3), (.box 3 (.t 1)), none⟩, ⟨(some 4), (.mov (.c (.bool false))), none⟩]) (.seq (.seq (.ops [⟨(some 5), (.fa 0 (.t 2)), none⟩, ⟨(some 6), (.ld none (.t 5)), none⟩, ⟨(some 7), (.fa 0 (.t 3)), none⟩, ⟨(some 8), (.ld none (.t 7)), none⟩, ⟨(some 9), (.bin .neq (.t 6) (.t 8)), none⟩]) (.cond (.t 9) (.seq (.ops [⟨(some 4), (.mov (.c (.bool false))), none⟩]) .ret) .skip)) (.seq (.seq (.ops [⟨(some 10), (.fa 1 (.t 2)), none⟩, ⟨(some 11), (.ld none (.t 10)), none⟩, ⟨(some 12), (.fa 1 (.t 3)), none⟩, ⟨(some 13), (.ld none (.t 12)), none⟩, ⟨(some 14), (.bin .neq (.t 11) (.t 13)), none⟩]) (.cond (.t 14) (.seq (.ops [⟨(some 4), (.mov (.c (.bool false))), none⟩]) .ret) .skip)) (.seq (.seq (.ops [⟨(some 15), (.fa 2 (.t 2)), none⟩, ⟨(some 16), (.ld none (.t 15)), none⟩, ⟨(some 17), (.fa 2 (.t 3)), none⟩, ⟨(some 18), (.ld none (.t 17)), none⟩, ⟨(some 19), (.bin .neq (.t 16) (.t 18)), none⟩]) (.cond (.t 19) (.seq (.ops [⟨(some 4), (.mov (.c (.bool false))), none⟩]) .ret) .skip)) (.seq (.ops [⟨(some 4), (.mov (.c (.bool true))), none⟩]) .ret)))))
theorem cc44 : ccode Try.prog (min Try.f44.ntmps pbase) (Try.f44.body.getD .skip) = some ac44 := by kernel_rfl
def ac47 : ACode := (.seq (.ops [⟨(some 2), (.mov (.c (.bool false))), none⟩]) (.seq (.seq (.ops [⟨(some 5), (.mov (.t 0)), none⟩, ⟨(some 6), (.len (.t 5)), none⟩, ⟨(some 7), (.call 36 [(.t 6), (.c (.int .i64 1)), (.c (.int .i64 12))]), none⟩, ⟨(some 8), (.not (.t 7)), none⟩, ⟨(some 9), (.mov (.t 8)), none⟩, ⟨(some 10), (.mov (.t 0)), (some (9, false))⟩, ⟨(some 11), (.mov (.t 0)), (some (9, false))⟩, ⟨(some 12), (.len (.t 11)), (some (9, false))⟩, ⟨(some 13), (.bin .sub (.t 12) (.c (.int .i64 1))), (some (9, false))⟩, ⟨(some 14), (.call 61 [(.t 10), (.c (.int .i64 0)), (.t 13)]), (some (9, false))⟩, ⟨(some 15), (.not (.t 14)), (some (9, false))⟩, ⟨(some 16), (.pick (.t 9) (.c (.bool true)) (.t 15)), none⟩]) (.cond (.t 16) (.seq (.ops [⟨(some 2), (.mov (.c (.bool false))), none⟩]) .ret) .skip)) (.seq (.seq (.ops [⟨(some 17), (.mov (.t 0)), none⟩, ⟨(some 18), (.len (.t 17)), none⟩, ⟨(some 19), (.mov (.c (.int .i64 0))), none⟩]) (.block 0 (.loop (.seq (.ops [⟨(some 20), (.bin .lss (.t 19) (.t 18)), none⟩]) (.seq (.cond (.t 20) .skip (.exit 0)) (.seq (.block 1 (.seq (.ops [⟨(some 21), (.mov (.t 19)), none⟩, ⟨(some 22), (.idx 1 (.t 17) (.t 19)), none⟩, ⟨(some 23), (.ld none (.t 22)), none⟩, ⟨(some 3), (.mov (.t 21)), none⟩, ⟨(some 4), (.mov (.t 23)), none⟩]) (.seq (.ops [⟨(some 24), (.mov (.t 0)), none⟩, ⟨(some 25), (.mov (.t 3)), none⟩, ⟨(some 26), (.cut 1 (.t 24) none (some (.t 25))), none⟩, ⟨(some 27), (.mov (.t 4)), none⟩, ⟨(some 28), (.call 62 [(.t 26), (.t 27)]), none⟩]) (.cond (.t 28) (.seq (.ops [⟨(some 2), (.mov (.c (.bool false))), none⟩]) .ret) .skip)))) (.ops [⟨(some 29), (.bin .add (.t 19) (.c (.int .i64 1))), none⟩, ⟨(some 19), (.mov (.t 29)), none⟩]))))))) (.seq (.ops [⟨(some 2), (.mov (.c (.bool true))), none⟩]) .ret))))
theorem cc47 : ccode Try.prog (min Try.f47.ntmps pbase) (Try.f47.body.getD .skip) = some ac47 := by kernel_rfl
def ac48 : ACode := (.seq (.ops [⟨(some 2), (.nils 1), none⟩]) (.seq (.ops [⟨(some 3), (.nils 1), none⟩]) (.seq (.seq (.ops [⟨(some 6), (.mov (.t 0)), none⟩, ⟨(some 7), (.len (.t 6)), none⟩, ⟨(some 8), (.mov (.c (.int .i64 0))), none⟩]) (.block 0 (.loop (.seq (.ops [⟨(some 9), (.bin .lss (.t 8) (.t 7)), none⟩]) (.seq (.cond (.t 9) .skip (.exit 0)) (.seq (.block 1 (.seq (.ops [⟨(some 10), (.mov (.t 8)), none⟩, ⟨(some 11), (.idx 1 (.t 6) (.t 8)), none⟩, ⟨(some 12), (.ld none (.t 11)), none⟩, ⟨(some 4), (.mov (.t 10)), none⟩, ⟨(some 5), (.mov (.t 12)), none⟩]) (.seq (.ops [⟨(some 13), (.mov (.t 4)), none⟩, ⟨(some 14), (.mov (.t 5)), none⟩, ⟨(some 15), (.bin .eql (.t 13) (.t 14)), none⟩]) (.cond (.t 15) (.ops [⟨(some 16), (.mov (.t 3)), none⟩, ⟨(some 17), (.mov (.t 4)), none⟩, ⟨(some 18), (.bsl 1 1 [(.int .i64 0)] [(0, (.t 17))]), none⟩, ⟨(some 19), (.app 1 8 (.t 16) (.t 18)), none⟩, ⟨(some 3), (.mov (.t 19)), none⟩]) .skip)))) (.ops [⟨(some 20), (.bin .add (.t 8) (.c (.int .i64 1))), none⟩, ⟨(some 8), (.mov (.t 20)), none⟩]))))))) (.seq (.ops [⟨(some 21), (.mov (.t 3)), none⟩, ⟨(some 2), (.mov (.t 21)), none⟩]) .ret))))
theorem cc48 : ccode Try.prog (min Try.f48.ntmps pbase) (Try.f48.body.getD .skip) = some ac48 := by kernel_rfl
def ac49 : ACode := (.seq (.ops [⟨(some 2), (.nils 1), none⟩]) (.seq (.ops [⟨(some 8), (.mov (.t 0)), none⟩, ⟨(some 9), (.len (.t 8)), none⟩, ⟨(some 10), (.mk 1 1 [(.bool false)] (.t 9) (.t 9)), none⟩, ⟨(some 3), (.mov (.t 10)), none⟩]) (.seq (.ops [⟨(some 4), (.nils 1), none⟩]) (.seq (.seq (.ops [⟨(some 11), (.mov (.t 0)), none⟩, ⟨(some 12), (.len (.t 11)), none⟩, ⟨(some 13), (.mov (.c (.int .i64 0))), none⟩]) (.block 0 (.loop (.seq (.ops [⟨(some 14), (.bin .lss (.t 13) (.t 12)), none⟩]) (.seq (.cond (.t 14) .skip (.exit 0)) (.seq (.block 1 (.seq (.ops [⟨(some 15), (.mov (.t 13)), none⟩, ⟨(some 5), (.mov (.t 15)), none⟩]) (.seq (.seq (.ops [⟨(some 16), (.mov (.t 3)), none⟩, ⟨(some 17), (.mov (.t 5)), none⟩, ⟨(some 18), (.idx 1 (.t 16) (.t 17)), none⟩, ⟨(some 19), (.ld none (.t 18)), none⟩]) (.cond (.t 19) (.exit 1) .skip)) (.seq (.ops [⟨(some 6), (.nils 1), none⟩]) (.seq (.seq (.ops [⟨(some 20), (.mov (.t 5)), none⟩, ⟨(some 7), (.mov (.t 20)), none⟩]) (.block 2 (.loop (.seq (.seq (.ops [⟨(some 21), (.mov (.t 3)), none⟩, ⟨(some 22), (.mov (.t 7)), none⟩, ⟨(some 23), (.idx 1 (.t 21) (.t 22)), none⟩, ⟨(some 24), (.ld none (.t 23)), none⟩, ⟨(some 25), (.not (.t 24)), none⟩]) (.cond (.t 25) .skip (.exit 2))) (.seq (.block 3 (.seq (.ops [⟨(some 30), (.mov (.t 3)), none⟩, ⟨(some 31), (.mov (.t 7)), none⟩, ⟨(some 32), (.idx 1 (.t 30) (.t 31)), none⟩, ⟨none, (.st 1 (.t 32) (.c (.bool true))), none⟩]) (.ops [⟨(some 33), (.mov (.t 6)), none⟩, ⟨(some 34), (.mov (.t 7)), none⟩, ⟨(some 35), (.bsl 1 1 [(.int .i64 0)] [(0, (.t 34))]), none⟩, ⟨(some 36), (.app 1 8 (.t 33) (.t 35)), none⟩, ⟨(some 6), (.mov (.t 36)), none⟩]))) (.ops [⟨(some 26), (.mov (.t 0)), none⟩, ⟨(some 27), (.mov (.t 7)), none⟩, ⟨(some 28), (.idx 1 (.t 26) (.t 27)), none⟩, ⟨(some 29), (.ld none (.t 28)), none⟩, ⟨(some 7), (.mov (.t 29)), none⟩])))))) (.ops [⟨(some 37), (.mov (.t 4)), none⟩, ⟨(some 38), (.mov (.t 6)), none⟩, ⟨(some 39), (.bsl 1 1 [(.slice none 0 0)] [(0, (.t 38))]), none⟩, ⟨(some 40), (.app 1 24 (.t 37) (.t 39)), none⟩, ⟨(some 4), (.mov (.t 40)), none⟩])))))) (.ops [⟨(some 41), (.bin .add (.t 13) (.c (.int .i64 1))), none⟩, ⟨(some 13), (.mov (.t 41)), none⟩]))))))) (.seq (.ops [⟨(some 42), (.mov (.t 4)), none⟩, ⟨(some 2), (.mov (.t 42)), none⟩]) .ret)))))
theorem cc49 : ccode Try.prog (min Try.f49.ntmps pbase) (Try.f49.body.getD .skip) = some ac49 := by kernel_rfl
def ac50 : ACode := (.seq (.ops [⟨(some 2), (.mov (.c (.int .i64 0))), none⟩, ⟨(some 3), (.mov (.c (.bool false))), none⟩]) (.seq (.seq (.ops [⟨(some 9), (.mov (.t 0)), none⟩, ⟨(some 10), (.call 47 [(.t 9)]), none⟩, ⟨(some 11), (.not (.t 10)), none⟩]) (.cond (.t 11) (.seq (.ops [⟨(some 2), (.mov (.c (.int .i64 0))), none⟩, ⟨(some 3), (.mov (.c (.bool false))), none⟩]) .ret) .skip)) (.seq (.ops [⟨(some 4), (.mov (.c (.int .i64 1))), none⟩]) (.seq (.seq (.ops [⟨(some 12), (.mov (.t 0)), none⟩, ⟨(some 13), (.call 49 [(.t 12)]), none⟩, ⟨(some 14), (.len (.t 13)), none⟩, ⟨(some 15), (.mov (.c (.int .i64 0))), none⟩]) (.block 0 (.loop (.seq (.ops [⟨(some 16), (.bin .lss (.t 15) (.t 14)), none⟩]) (.seq (.cond (.t 16) .skip (.exit 0)) (.seq (.block 1 (.seq (.ops [⟨(some 17), (.idx 1 (.t 13) (.t 15)), none⟩, ⟨(some 18), (.ld none (.t 17)), none⟩, ⟨(some 6), (.mov (.t 18)), none⟩]) (.seq (.ops [⟨(some 19), (.mov (.t 4)), none⟩, ⟨(some 20), (.mov (.t 6)), none⟩, ⟨(some 21), (.len (.t 20)), none⟩, ⟨(some 7), (.mov (.t 19)), none⟩, ⟨(some 8), (.mov (.t 21)), none⟩]) (.seq (.block 2 (.loop (.seq (.seq (.ops [⟨(some 22), (.mov (.t 8)), none⟩, ⟨(some 23), (.bin .gtr (.t 22) (.c (.int .i64 0))), none⟩]) (.cond (.t 23) .skip (.exit 2))) (.block 3 (.tree (.take ⟨(some 24), (.mov (.t 8)), none⟩ (.take ⟨(some 25), (.mov (.t 7)), none⟩ (.take ⟨(some 26), (.mov (.t 8)), none⟩ (.take ⟨(some 27), (.bin .rem (.t 25) (.t 26)), none⟩ (.take ⟨(some 7), (.mov (.t 24)), none⟩ (.take ⟨(some 8), (.mov (.t 27)), none⟩ .done))))))))))) (.ops [⟨(some 28), (.mov (.t 4)), none⟩, ⟨(some 29), (.mov (.t 7)), none⟩, ⟨(some 30), (.bin .quo (.t 28) (.t 29)), none⟩, ⟨(some 31), (.mov (.t 6)), none⟩, ⟨(some 32), (.len (.t 31)), none⟩, ⟨(some 33), (.bin .mul (.t 30) (.t 32)), none⟩, ⟨(some 4), (.mov (.t 33)), none⟩]))))) (.ops [⟨(some 34), (.bin .add (.t 15) (.c (.int .i64 1))), none⟩, ⟨(some 15), (.mov (.t 34)), none⟩]))))))) (.seq (.ops [⟨(some 35), (.mov (.t 4)), none⟩, ⟨(some 2), (.mov (.t 35)), none⟩, ⟨(some 3), (.mov (.c (.bool true))), none⟩]) .ret)))))
theorem cc50 : ccode Try.prog (min Try.f50.ntmps pbase) (Try.f50.body.getD .skip) = some ac50 := by kernel_rfl
def ac51 : ACode := (.seq (.ops [⟨(some 2), (.mov (.c (.bool false))), none⟩]) (.seq (.ops [⟨(some 3), (.mov (.t 0)), none⟩, ⟨(some 4), (.len (.t 3)), none⟩, ⟨(some 5), (.call 63 [(.t 4)]), none⟩, ⟨(some 6), (.mov (.t 5)), none⟩, ⟨(some 7), (.mov (.t 0)), (some (6, true))⟩, ⟨(some 8), (.mov (.t 0)), (some (6, true))⟩, ⟨(some 9), (.len (.t 8)), (some (6, true))⟩, ⟨(some 10), (.call 64 [(.t 7), (.t 9)]), (some (6, true))⟩, ⟨(some 11), (.pick (.t 6) (.t 10) (.c (.bool false))), none⟩, ⟨(some 2), (.mov (.t 11)), none⟩]) .ret))
theorem cc51 : ccode Try.prog (min Try.f51.ntmps pbase) (Try.f51.body.getD .skip) = some ac51 := by kernel_rfl
def ac52 : ACode := (.seq (.ops [⟨(some 6), (.mov (.c (.int .i64 0))), none⟩]) (.seq (.ops [⟨(some 7), (.mov (.t 1)), none⟩]) (.block 0 (.seq (.seq (.ops [⟨(some 12), (.bin .eql (.t 7) (.c (.int .i64 0))), none⟩, ⟨(some 11), (.mov (.t 12)), none⟩]) (.cond (.t 11) .skip (.ops [⟨(some 13), (.bin .eql (.t 7) (.c (.int .i64 1))), none⟩, ⟨(some 11), (.mov (.t 13)), none⟩]))) (.cond (.t 11) (.seq (.ops [⟨(some 14), (.mov (.t 0)), none⟩, ⟨(some 15), (.mov (.t 2)), none⟩, ⟨(some 16), (.idx 1 (.t 14) (.t 15)), none⟩, ⟨(some 17), (.ld none (.t 16)), none⟩, ⟨(some 6), (.mov (.t 17)), none⟩]) .ret) (.seq (.ops [⟨(some 19), (.bin .eql (.t 7) (.c (.int .i64 2))), none⟩, ⟨(some 18), (.mov (.t 19)), none⟩]) (.cond (.t 18) (.seq (.ops [⟨(some 20), (.mov (.t 0)), none⟩, ⟨(some 21), (.len (.t 20)), none⟩, ⟨(some 22), (.mov (.t 0)), none⟩, ⟨(some 23), (.call 65 [(.t 22)]), none⟩, ⟨(some 24), (.len (.t 23)), none⟩, ⟨(some 25), (.bin .sub (.t 21) (.t 24)), none⟩, ⟨(some 6), (.mov (.t 25)), none⟩]) .ret) (.seq (.ops [⟨(some 27), (.bin .eql (.t 7) (.c (.int .i64 3))), none⟩, ⟨(some 26), (.mov (.t 27)), none⟩]) (.cond (.t 26) (.seq (.ops [⟨(some 28), (.mov (.t 0)), none⟩, ⟨(some 29), (.call 66 [(.t 28)]), none⟩, ⟨(some 30), (.len (.t 29)), none⟩, ⟨(some 6), (.mov (.t 30)), none⟩]) .ret) (.seq (.ops [⟨(some 32), (.bin .eql (.t 7) (.c (.int .i64 4))), none⟩, ⟨(some 31), (.mov (.t 32)), none⟩]) (.cond (.t 31) (.seq (.seq (.ops [⟨(some 33), (.mov (.t 0)), none⟩, ⟨(some 34), (.mov (.t 2)), none⟩, ⟨(some 35), (.idx 1 (.t 33) (.t 34)), none⟩, ⟨(some 36), (.ld none (.t 35)), none⟩, ⟨(some 37), (.mov (.t 2)), none⟩, ⟨(some 38), (.bin .gtr (.t 36) (.t 37)), none⟩]) (.cond (.t 38) (.seq (.ops [⟨(some 6), (.mov (.c (.int .i64 1))), none⟩]) .ret) .skip)) (.seq (.ops [⟨(some 6), (.mov (.c (.int .i64 0))), none⟩]) .ret)) (.seq (.ops [⟨(some 8), (.mov (.t 0)), none⟩, ⟨(some 9), (.call 68 [(.t 8), (.c (.func (.func 69) #[] #[]))]), none⟩, ⟨(some 10), (.call 67 [(.t 9)]), none⟩, ⟨(some 6), (.mov (.t 10)), none⟩]) .ret))))))))))))
theorem cc52 : ccode Try.prog (min Try.f52.ntmps pbase) (Try.f52.body.getD .skip) = some ac52 := by kernel_rfl
def ac61 : ACode := (.seq (.ops [⟨(some 6), (.mov (.c (.bool false))), none⟩]) (.seq (.seq (.ops [⟨(some 9), (.mov (.t 0)), none⟩, ⟨(some 10), (.len (.t 9)), none⟩, ⟨(some 11), (.mov (.c (.int .i64 0))), none⟩]) (.block 0 (.loop (.seq (.ops [⟨(some 12), (.bin .lss (.t 11) (.t 10)), none⟩]) (.seq (.cond (.t 12) .skip (.exit 0)) (.seq (.block 1 (.seq (.ops [⟨(some 13), (.idx 1 (.t 9) (.t 11)), none⟩, ⟨(some 14), (.ld none (.t 13)), none⟩, ⟨(some 8), (.mov (.t 14)), none⟩]) (.seq (.ops [⟨(some 15), (.mov (.t 8)), none⟩, ⟨(some 16), (.mov (.t 1)), none⟩, ⟨(some 17), (.mov (.t 2)), none⟩, ⟨(some 18), (.call 36 [(.t 15), (.t 16), (.t 17)]), none⟩, ⟨(some 19), (.not (.t 18)), none⟩]) (.cond (.t 19) (.seq (.ops [⟨(some 6), (.mov (.c (.bool false))), none⟩]) .ret) .skip)))) (.ops [⟨(some 20), (.bin .add (.t 11) (.c (.int .i64 1))), none⟩, ⟨(some 11), (.mov (.t 20)), none⟩]))))))) (.seq (.ops [⟨(some 6), (.mov (.c (.bool true))), none⟩]) .ret)))
theorem cc61 : ccode Try.prog (min Try.f61.ntmps pbase) (Try.f61.body.getD .skip) = some ac61 := by kernel_rfl
def ac62 : ACode := (.seq (.ops [⟨(some 4), (.mov (.c (.bool false))), none⟩]) (.seq (.seq (.ops [⟨(some 7), (.mov (.t 0)), none⟩, ⟨(some 8), (.len (.t 7)), none⟩, ⟨(some 9), (.mov (.c (.int .i64 0))), none⟩]) (.block 0 (.loop (.seq (.ops [⟨(some 10), (.bin .lss (.t 9) (.t 8)), none⟩]) (.seq (.cond (.t 10) .skip (.exit 0)) (.seq (.block 1 (.seq (.ops [⟨(some 11), (.idx 1 (.t 7) (.t 9)), none⟩, ⟨(some 12), (.ld none (.t 11)), none⟩, ⟨(some 6), (.mov (.t 12)), none⟩]) (.seq (.ops [⟨(some 13), (.mov (.t 6)), none⟩, ⟨(some 14), (.mov (.t 1)), none⟩, ⟨(some 15), (.bin .eql (.t 13) (.t 14)), none⟩]) (.cond (.t 15) (.seq (.ops [⟨(some 4), (.mov (.c (.bool true))), none⟩]) .ret) .skip)))) (.ops [⟨(some 16), (.bin .add (.t 9) (.c (.int .i64 1))), none⟩, ⟨(some 9), (.mov (.t 16)), none⟩]))))))) (.seq (.ops [⟨(some 4), (.mov (.c (.bool false))), none⟩]) .ret)))
theorem cc62 : ccode Try.prog (min Try.f62.ntmps pbase) (Try.f62.body.getD .skip) = some ac62 := by kernel_rfl
def ac63 : ACode := (.seq (.ops [⟨(some 2), (.mov (.c (.bool false))), none⟩]) (.seq (.ops [⟨(some 3), (.mov (.t 0)), none⟩, ⟨(some 4), (.bin .geq (.t 3) (.c (.int .i64 1))), none⟩, ⟨(some 5), (.mov (.t 4)), none⟩, ⟨(some 6), (.mov (.t 0)), (some (5, true))⟩, ⟨(some 7), (.bin .leq (.t 6) (.c (.int .i64 12))), (some (5, true))⟩, ⟨(some 8), (.pick (.t 5) (.t 7) (.c (.bool false))), none⟩, ⟨(some 2), (.mov (.t 8)), none⟩]) .ret))
theorem cc63 : ccode Try.prog (min Try.f63.ntmps pbase) (Try.f63.body.getD .skip) = some ac63 := by kernel_rfl
def ac64 : ACode := (.seq (.ops [⟨(some 4), (.mov (.c (.bool false))), none⟩]) (.seq (.ops [⟨(some 5), (.mov (.c (.int .u16 0))), none⟩]) (.seq (.seq (.ops [⟨(some 8), (.mov (.t 0)), none⟩, ⟨(some 9), (.len (.t 8)), none⟩, ⟨(some 10), (.mov (.c (.int .i64 0))), none⟩]) (.block 0 (.loop (.seq (.ops [⟨(some 11), (.bin .lss (.t 10) (.t 9)), none⟩]) (.seq (.cond (.t 11) .skip (.exit 0)) (.seq (.block 1 (.seq (.ops [⟨(some 12), (.idx 1 (.t 8) (.t 10)), none⟩, ⟨(some 13), (.ld none (.t 12)), none⟩, ⟨(some 7), (.mov (.t 13)), none⟩]) (.seq (.seq (.ops [⟨(some 14), (.mov (.t 7)), none⟩, ⟨(some 15), (.mov (.t 1)), none⟩, ⟨(some 16), (.call 76 [(.t 14), (.t 15)]), none⟩, ⟨(some 17), (.not (.t 16)), none⟩, ⟨(some 18), (.mov (.t 17)), none⟩, ⟨(some 19), (.mov (.t 5)), (some (18, false))⟩, ⟨(some 20), (.mov (.t 7)), (some (18, false))⟩, ⟨(some 21), (.call 77 [(.t 19), (.t 20)]), (some (18, false))⟩, ⟨(some 22), (.pick (.t 18) (.c (.bool true)) (.t 21)), none⟩]) (.cond (.t 22) (.seq (.ops [⟨(some 4), (.mov (.c (.bool false))), none⟩]) .ret) .skip)) (.ops [⟨(some 23), (.mov (.t 5)), none⟩, ⟨(some 24), (.mov (.t 7)), none⟩, ⟨(some 25), (.call 78 [(.t 23), (.t 24)]), none⟩, ⟨(some 5), (.mov (.t 25)), none⟩])))) (.ops [⟨(some 26), (.bin .add (.t 10) (.c (.int .i64 1))), none⟩, ⟨(some 10), (.mov (.t 26)), none⟩]))))))) (.seq (.ops [⟨(some 4), (.mov (.c (.bool true))), none⟩]) .ret))))
theorem cc64 : ccode Try.prog (min Try.f64.ntmps pbase) (Try.f64.body.getD .skip) = some ac64 := by kernel_rfl
def ac65 : ACode := (.seq (.ops [⟨(some 2), (.nils 1), none⟩]) (.seq (.ops [⟨(some 3), (.nils 1), none⟩]) (.seq (.seq (.ops [⟨(some 6), (.mov (.t 0)), none⟩, ⟨(some 7), (.len (.t 6)), none⟩, ⟨(some 8), (.mov (.c (.int .i64 0))), none⟩]) (.block 0 (.loop (.seq (.ops [⟨(some 9), (.bin .lss (.t 8) (.t 7)), none⟩]) (.seq (.cond (.t 9) .skip (.exit 0)) (.seq (.block 1 (.seq (.ops [⟨(some 10), (.mov (.t 8)), none⟩, ⟨(some 11), (.idx 1 (.t 6) (.t 8)), none⟩, ⟨(some 12), (.ld none (.t 11)), none⟩, ⟨(some 4), (.mov (.t 10)), none⟩, ⟨(some 5), (.mov (.t 12)), none⟩]) (.seq (.ops [⟨(some 13), (.mov (.t 5)), none⟩, ⟨(some 14), (.mov (.t 4)), none⟩, ⟨(some 15), (.bin .neq (.t 13) (.t 14)), none⟩]) (.cond (.t 15) (.ops [⟨(some 16), (.mov (.t 3)), none⟩, ⟨(some 17), (.mov (.t 4)), none⟩, ⟨(some 18), (.bsl 1 1 [(.int .i64 0)] [(0, (.t 17))]), none⟩, ⟨(some 19), (.app 1 8 (.t 16) (.t 18)), none⟩, ⟨(some 3), (.mov (.t 19)), none⟩]) .skip)))) (.ops [⟨(some 20), (.bin .add (.t 8) (.c (.int .i64 1))), none⟩, ⟨(some 8), (.mov (.t 20)), none⟩]))))))) (.seq (.ops [⟨(some 21), (.mov (.t 3)), none⟩, ⟨(some 2), (.mov (.t 21)), none⟩]) .ret))))
theorem cc65 : ccode Try.prog (min Try.f65.ntmps pbase) (Try.f65.body.getD .skip) = some ac65 := by kernel_rfl
def ac66 : ACode := (.seq (.ops [⟨(some 2), (.nils 3), none⟩]) (.seq (.ops [⟨(some 3), (.alloc [(.bool false), (.bool false), (.bool false), (.bool false), (.bool false), (.bool false), (.bool false), (.bool false), (.bool false), (.bool false), (.bool false), (.bool false)]), none⟩]) (.seq (.ops [⟨(some 4), (.nils 3), none⟩]) (.seq (.seq (.ops [⟨(some 9), (.mov (.t 0)), none⟩, ⟨(some 10), (.len (.t 9)), none⟩, ⟨(some 11), (.mov (.c (.int .i64 0))), none⟩]) (.block 0 (.loop (.seq (.ops [⟨(some 12), (.bin .lss (.t 11) (.t 10)), none⟩]) (.seq (.cond (.t 12) .skip (.exit 0)) (.seq (.block 1 (.seq (.ops [⟨(some 13), (.mov (.t 11)), none⟩, ⟨(some 5), (.mov (.t 13)), none⟩]) (.seq (.seq (.ops [⟨(some 14), (.mov (.t 5)), none⟩, ⟨(some 15), (.arr 1 12 (.t 3) (.t 14)), none⟩, ⟨(some 16), (.ld none (.t 15)), none⟩]) (.cond (.t 16) (.exit 1) .skip)) (.seq (.ops [⟨(some 17), (.mov (.t 0)), none⟩, ⟨(some 18), (.mov (.t 5)), none⟩, ⟨(some 19), (.call 79 [(.t 17), (.t 18)]), none⟩, ⟨(some 6), (.alloc [(.int .i64 0), (.int .i64 0), (.slice none 0 0)]), none⟩, ⟨none, (.st 3 (.t 6) (.t 19)), none⟩]) (.seq (.seq (.ops [⟨(some 20), (.ld (some 3) (.t 6)), none⟩, ⟨(some 21), (.call 80 [(.t 20)]), none⟩, ⟨(some 22), (.len (.t 21)), none⟩, ⟨(some 23), (.mov (.c (.int .i64 0))), none⟩]) (.block 2 (.loop (.seq (.ops [⟨(some 24), (.bin .lss (.t 23) (.t 22)), none⟩]) (.seq (.cond (.t 24) .skip (.exit 2)) (.seq (.block 3 (.seq (.ops [⟨(some 25), (.idx 1 (.t 21) (.t 23)), none⟩, ⟨(some 26), (.ld none (.t 25)), none⟩, ⟨(some 8), (.mov (.t 26)), none⟩]) (.ops [⟨(some 27), (.mov (.t 8)), none⟩, ⟨(some 28), (.arr 1 12 (.t 3) (.t 27)), none⟩, ⟨none, (.st 1 (.t 28) (.c (.bool true))), none⟩]))) (.ops [⟨(some 29), (.bin .add (.t 23) (.c (.int .i64 1))), none⟩, ⟨(some 23), (.mov (.t 29)), none⟩]))))))) (.ops [⟨(some 30), (.mov (.t 4)), none⟩, ⟨(some 31), (.ld (some 3) (.t 6)), none⟩, ⟨(some 32), (.bsl 3 1 [(.int .i64 0), (.int .i64 0), (.slice none 0 0)] [(0, (.t 31))]), none⟩, ⟨(some 33), (.app 3 40 (.t 30) (.t 32)), none⟩, ⟨(some 4), (.mov (.t 33)), none⟩])))))) (.ops [⟨(some 34), (.bin .add (.t 11) (.c (.int .i64 1))), none⟩, ⟨(some 11), (.mov (.t 34)), none⟩]))))))) (.seq (.ops [⟨(some 35), (.mov (.t 4)), none⟩, ⟨(some 2), (.mov (.t 35)), none⟩]) .ret)))))
theorem cc66 : ccode Try.prog (min Try.f66.ntmps pbase) (Try.f66.body.getD .skip) = some ac66 := by kernel_rfl
def ac67 : ACode := (.seq (.ops [⟨(some 2), (.mov (.c (.int .i64 0))), none⟩]) (.seq (.ops [⟨(some 3), (.mov (.c (.int .i64 1))), none⟩]) (.seq (.seq (.ops [⟨(some 6), (.mov (.t 0)), none⟩, ⟨(some 7), (.len (.t 6)), none⟩, ⟨(some 8), (.mov (.c (.int .i64 0))), none⟩]) (.block 0 (.loop (.seq (.ops [⟨(some 9), (.bin .lss (.t 8) (.t 7)), none⟩]) (.seq (.cond (.t 9) .skip (.exit 0)) (.seq (.block 1 (.seq (.ops [⟨(some 10), (.idx 1 (.t 6) (.t 8)), none⟩, ⟨(some 11), (.ld none (.t 10)), none⟩, ⟨(some 5), (.mov (.t 11)), none⟩]) (.ops [⟨(some 12), (.mov (.t 3)), none⟩, ⟨(some 13), (.mov (.t 3)), none⟩, ⟨(some 14), (.mov (.t 5)), none⟩, ⟨(some 15), (.call 81 [(.t 13), (.t 14)]), none⟩, ⟨(some 16), (.bin .quo (.t 12) (.t 15)), none⟩, ⟨(some 17), (.mov (.t 5)), none⟩, ⟨(some 18), (.bin .mul (.t 16) (.t 17)), none⟩, ⟨(some 3), (.mov (.t 18)), none⟩]))) (.ops [⟨(some 19), (.bin .add (.t 8) (.c (.int .i64 1))), none⟩, ⟨(some 8), (.mov (.t 19)), none⟩]))))))) (.seq (.ops [⟨(some 20), (.mov (.t 3)), none⟩, ⟨(some 2), (.mov (.t 20)), none⟩]) .ret))))
theorem cc67 : ccode Try.prog (min Try.f67.ntmps pbase) (Try.f67.body.getD .skip) = some ac67 := by kernel_rfl
def ac68 : ACode := (.seq (.ops [⟨(some 4), (.nils 1), none⟩]) (.seq (.ops [⟨(some 5), (.nils 1), none⟩]) (.seq (.seq (.ops [⟨(some 8), (.mov (.t 0)), none⟩, ⟨(some 9), (.call 66 [(.t 8)]), none⟩, ⟨(some 10), (.len (.t 9)), none⟩, ⟨(some 11), (.mov (.c (.int .i64 0))), none⟩]) (.block 0 (.loop (.seq (.ops [⟨(some 12), (.bin .lss (.t 11) (.t 10)), none⟩]) (.seq (.cond (.t 12) .skip (.exit 0)) (.seq (.block 1 (.seq (.ops [⟨(some 13), (.idx 3 (.t 9) (.t 11)), none⟩, ⟨(some 14), (.ld (some 3) (.t 13)), none⟩, ⟨(some 7), (.alloc [(.int .i64 0), (.int .i64 0), (.slice none 0 0)]), none⟩, ⟨none, (.st 3 (.t 7) (.t 14)), none⟩]) (.ops [⟨(some 15), (.mov (.t 5)), none⟩, ⟨(some 16), (.mov (.t 1)), none⟩, ⟨(some 17), (.ld (some 3) (.t 7)), none⟩, ⟨(some 18), (.callv (.t 16) [(.t 17)]), none⟩, ⟨(some 19), (.bsl 1 1 [(.int .i64 0)] [(0, (.t 18))]), none⟩, ⟨(some 20), (.app 1 8 (.t 15) (.t 19)), none⟩, ⟨(some 5), (.mov (.t 20)), none⟩]))) (.ops [⟨(some 21), (.bin .add (.t 11) (.c (.int .i64 1))), none⟩, ⟨(some 11), (.mov (.t 21)), none⟩]))))))) (.seq (.ops [⟨(some 22), (.mov (.t 5)), none⟩, ⟨(some 4), (.mov (.t 22)), none⟩]) .ret))))
theorem cc68 : ccode Try.prog (min Try.f68.ntmps pbase) (Try.f68.body.getD .skip) = some ac68 := by kernel_rfl
def ac69 : ACode := (.seq (.ops [⟨(some 1), (.box 3 (.t 0)), none⟩, ⟨(some 2), (.mov (.c (.int .i64 0))), none⟩]) (.seq (.ops [⟨(some 3), (.fa 2 (.t 1)), none⟩, ⟨(some 4), (.ld none (.t 3)), none⟩, ⟨(some 5), (.len (.t 4)), none⟩, ⟨(some 6), (.bin .add (.c (.int .i64 1)) (.t 5)), none⟩, ⟨(some 2), (.mov (.t 6)), none⟩]) .ret))
theorem cc69 : ccode Try.prog (min Try.f69.ntmps pbase) (Try.f69.body.getD .skip) = some ac69 := by kernel_rfl
def ac76 : ACode := (.seq (.ops [⟨(some 4), (.mov (.c (.bool false))), none⟩]) (.seq (.ops [⟨(some 5), (.mov (.t 0)), none⟩, ⟨(some 6), (.bin .geq (.t 5) (.c (.int .i64 0))), none⟩, ⟨(some 7), (.mov (.t 6)), none⟩, ⟨(some 8), (.mov (.t 0)), (some (7, true))⟩, ⟨(some 9), (.mov (.t 1)), (some (7, true))⟩, ⟨(some 10), (.bin .lss (.t 8) (.t 9)), (some (7, true))⟩, ⟨(some 11), (.pick (.t 7) (.t 10) (.c (.bool false))), none⟩, ⟨(some 4), (.mov (.t 11)), none⟩]) .ret))
theorem cc76 : ccode Try.prog (min Try.f76.ntmps pbase) (Try.f76.body.getD .skip) = some ac76 := by kernel_rfl
def ac77 : ACode := (.seq (.ops [⟨(some 4), (.mov (.c (.bool false))), none⟩]) (.seq (.ops [⟨(some 5), (.mov (.t 0)), none⟩, ⟨(some 6), (.mov (.t 1)), none⟩, ⟨(some 7), (.bin .shr (.t 5) (.t 6)), none⟩, ⟨(some 8), (.bin .and (.t 7) (.c (.int .u16 1))), none⟩, ⟨(some 9), (.bin .eql (.t 8) (.c (.int .u16 1))), none⟩, ⟨(some 4), (.mov (.t 9)), none⟩]) .ret))
theorem cc77 : ccode Try.prog (min Try.f77.ntmps pbase) (Try.f77.body.getD .skip) = some ac77 := by kernel_rfl
def ac78 : ACode := (.seq (.ops [⟨(some 4), (.mov (.c (.int .u16 0))), none⟩]) (.seq (.ops [⟨(some 5), (.mov (.t 0)), none⟩, ⟨(some 6), (.mov (.t 1)), none⟩, ⟨(some 7), (.bin .shl (.c (.int .u16 1)) (.t 6)), none⟩, ⟨(some 8), (.bin .or (.t 5) (.t 7)), none⟩, ⟨(some 4), (.mov (.t 8)), none⟩]) .ret))
theorem cc78 : ccode Try.prog (min Try.f78.ntmps pbase) (Try.f78.body.getD .skip) = some ac78 := by kernel_rfl
def ac79 : ACode := (.seq (.ops [⟨(some 4), (.alloc [(.int .i64 0), (.int .i64 0), (.slice none 0 0)]), none⟩]) (.seq (.ops [⟨(some 7), (.mov (.t 0)), none⟩, ⟨(some 8), (.mov (.t 1)), none⟩, ⟨(some 9), (.call 84 [(.t 7), (.t 8)]), none⟩, ⟨(some 10), (.pu (.bld [(.int .i64 0), (.int .i64 0), (.slice none 0 0)] [(0, 2)]) [(.t 9)]), none⟩, ⟨(some 5), (.alloc [(.int .i64 0), (.int .i64 0), (.slice none 0 0)]), none⟩, ⟨none, (.st 3 (.t 5) (.t 10)), none⟩]) (.seq (.seq (.ops [⟨(some 11), (.mov (.t 0)), none⟩, ⟨(some 12), (.fa 0 (.t 5)), none⟩, ⟨(some 13), (.fa 1 (.t 12)), none⟩, ⟨(some 14), (.ld none (.t 13)), none⟩, ⟨(some 15), (.call 84 [(.t 11), (.t 14)]), none⟩, ⟨(some 6), (.alloc [(.int .i64 0), (.int .i64 0)]), none⟩, ⟨none, (.st 2 (.t 6) (.t 15)), none⟩]) (.block 0 (.loop (.seq (.seq (.ops [⟨(some 16), (.ld (some 2) (.t 6)), none⟩, ⟨(some 17), (.fa 0 (.t 5)), none⟩, ⟨(some 18), (.ld (some 2) (.t 17)), none⟩, ⟨(some 19), (.pu (.aeq true [0, 1]) [(.t 16), (.t 18)]), none⟩]) (.cond (.t 19) .skip (.exit 0))) (.seq (.block 1 (.ops [⟨(some 24), (.fa 2 (.t 5)), none⟩, ⟨(some 25), (.ld none (.t 24)), none⟩, ⟨(some 26), (.ld (some 2) (.t 6)), none⟩, ⟨(some 27), (.bsl 2 1 [(.int .i64 0), (.int .i64 0)] [(0, (.t 26))]), none⟩, ⟨(some 28), (.app 2 16 (.t 25) (.t 27)), none⟩, ⟨(some 29), (.fa 2 (.t 5)), none⟩, ⟨none, (.st 1 (.t 29) (.t 28)), none⟩])) (.seq (.seq (.ops [⟨(some 30), (.ld (some 2) (.t 6)), none⟩]) (.ops [⟨(some 6), (.alloc [(.int .i64 0), (.int .i64 0)]), none⟩, ⟨none, (.st 2 (.t 6) (.t 30)), none⟩])) (.ops [⟨(some 20), (.mov (.t 0)), none⟩, ⟨(some 21), (.fa 1 (.t 6)), none⟩, ⟨(some 22), (.ld none (.t 21)), none⟩, ⟨(some 23), (.call 84 [(.t 20), (.t 22)]), none⟩, ⟨none, (.st 2 (.t 6) (.t 23)), none⟩]))))))) (.seq (.ops [⟨(some 31), (.ld (some 3) (.t 5)), none⟩, ⟨none, (.st 3 (.t 4) (.t 31)), none⟩]) .ret))))
theorem cc79 : ccode Try.prog (min Try.f79.ntmps pbase) (Try.f79.body.getD .skip) = some ac79 := by kernel_rfl
def ac80 : ACode := (.seq (.ops [⟨(some 1), (.box 3 (.t 0)), none⟩, ⟨(some 2), (.nils 1), none⟩]) (.seq (.ops [⟨(some 6), (.fa 0 (.t 1)), none⟩, ⟨(some 7), (.fa 0 (.t 6)), none⟩, ⟨(some 8), (.ld none (.t 7)), none⟩, ⟨(some 9), (.bsl 1 1 [(.int .i64 0)] [(0, (.t 8))]), none⟩, ⟨(some 3), (.mov (.t 9)), none⟩]) (.seq (.seq (.ops [⟨(some 10), (.fa 2 (.t 1)), none⟩, ⟨(some 11), (.ld none (.t 10)), none⟩, ⟨(some 12), (.len (.t 11)), none⟩, ⟨(some 13), (.mov (.c (.int .i64 0))), none⟩]) (.block 0 (.loop (.seq (.ops [⟨(some 14), (.bin .lss (.t 13) (.t 12)), none⟩]) (.seq (.cond (.t 14) .skip (.exit 0)) (.seq (.block 1 (.seq (.ops [⟨(some 15), (.idx 2 (.t 11) (.t 13)), none⟩, ⟨(some 16), (.ld (some 2) (.t 15)), none⟩, ⟨(some 5), (.alloc [(.int .i64 0), (.int .i64 0)]), none⟩, ⟨none, (.st 2 (.t 5) (.t 16)), none⟩]) (.ops [⟨(some 17), (.mov (.t 3)), none⟩, ⟨(some 18), (.fa 0 (.t 5)), none⟩, ⟨(some 19), (.ld none (.t 18)), none⟩, ⟨(some 20), (.bsl 1 1 [(.int .i64 0)] [(0, (.t 19))]), none⟩, ⟨(some 21), (.app 1 8 (.t 17) (.t 20)), none⟩, ⟨(some 3), (.mov (.t 21)), none⟩]))) (.ops [⟨(some 22), (.bin .add (.t 13) (.c (.int .i64 1))), none⟩, ⟨(some 13), (.mov (.t 22)), none⟩]))))))) (.seq (.ops [⟨(some 23), (.mov (.t 3)), none⟩, ⟨(some 2), (.mov (.t 23)), none⟩]) .ret))))
theorem cc80 : ccode Try.prog (min Try.f80.ntmps pbase) (Try.f80.body.getD .skip) = some ac80 := by kernel_rfl
def ac81 : ACode := (.seq (.ops [⟨(some 4), (.mov (.c (.int .i64 0))), none⟩]) (.seq (.block 0 (.loop (.seq (.seq (.ops [⟨(some 5), (.mov (.t 1)), none⟩, ⟨(some 6), (.bin .neq (.t 5) (.c (.int .i64 0))), none⟩]) (.cond (.t 6) .skip (.exit 0))) (.block 1 (.tree (.take ⟨(some 7), (.mov (.t 1)), none⟩ (.take ⟨(some 8), (.mov (.t 0)), none⟩ (.take ⟨(some 9), (.mov (.t 1)), none⟩ (.take ⟨(some 10), (.bin .rem (.t 8) (.t 9)), none⟩ (.take ⟨(some 0), (.mov (.t 7)), none⟩ (.take ⟨(some 1), (.mov (.t 10)), none⟩ .done))))))))))) (.seq (.ops [⟨(some 11), (.mov (.t 0)), none⟩, ⟨(some 4), (.mov (.t 11)), none⟩]) .ret)))
theorem cc81 : ccode Try.prog (min Try.f81.ntmps pbase) (Try.f81.body.getD .skip) = some ac81 := by kernel_rfl
def ac84 : ACode := (.seq (.ops [⟨(some 4), (.alloc [(.int .i64 0), (.int .i64 0)]), none⟩]) (.seq (.ops [⟨(some 5), (.mov (.t 1)), none⟩, ⟨(some 6), (.mov (.t 0)), none⟩, ⟨(some 7), (.mov (.t 1)), none⟩, ⟨(some 8), (.idx 1 (.t 6) (.t 7)), none⟩, ⟨(some 9), (.ld none (.t 8)), none⟩, ⟨(some 10), (.pu (.bld [(.int .i64 0), (.int .i64 0)] [(0, 1), (1, 1)]) [(.t 5), (.t 9)]), none⟩, ⟨none, (.st 2 (.t 4) (.t 10)), none⟩]) .ret))
theorem cc84 : ccode Try.prog (min Try.f84.ntmps pbase) (Try.f84.body.getD .skip) = some ac84 := by kernel_rfl
end Go.Proofs.Yteiipnadhalnbaa
namespace Go.Proofs.Yteiipnadhalnbaa
open Go.Am
attribute [local irreducible] AW Outs Weak Lends Lend Sp aops atree aop1 Then Round InBlock Done
/-- What toIntS has written after k rounds. -/
def copied (L : List Int) (k : Nat) : List Int := L.take k ++ List.replicate (L.length - k) 0
theorem copied_len (L : List Int) (k : Nat) (h : k ≤ L.length) : (copied L k).length = L.length := by simp [copied]; omega
theorem copied_set (L : List Int) (k : Nat) (h : k < L.length) : (copied L k).set k (L.getD k 0) = copied L (k + 1) := by
  unfold copied
  have e : L.length - k = (L.length - (k + 1)) + 1 := by omega
  have e2 : k - (L.take k).length = 0 := by simp; omega
  rw [take_snoc L k 0 h, e, List.replicate_succ, List.set_append_right _ _ (by simp; omega), e2]
  simp
theorem toIntS_spec (L : List Int) (hL : L.length ≤ 1048576) : Sp Try.prog 17 [ints L] (newInts L) := by
  refine spec_of Try.func17 rfl cc17 rfl ?_
  unfold ac17
  repeat (first | (refine step_ops ?_; (first | (refine m_mov (by conv => lhs; whnf) ?_) | (refine m_len_ro rfl ?_) | (refine m_nils ?_))) | refine end_ops ?_ | refine seq_ops ?_)
  refine step_ops ?_
  refine m_mk rfl rfl ?_ ?_ ?_
  · omega
  · omega
  repeat (first | (refine step_ops ?_; (refine m_mov (by conv => lhs; whnf) ?_)) | refine end_ops ?_ | refine seq_ops ?_ | refine AW_seq ?_ | refine AW_block ?_)
  refine AW_loop (α := Nat) (fun k => k ≤ L.length) (fun k => st [(0, ints L), (3, .sl 7 1 0 L.length), (4, .i k)] [(7, (true, (copied L k).map AV.i))]) (fun k => L.length - k) 0 (by omega) (weak_st ?_ ?_ rfl rfl) ?_
  · (repeat' (first | exact trivial | refine And.intro ?_ ?_)) <;> (first | rfl | skip)
  · refine ⟨?_, trivial⟩
    show some (true, (List.replicate L.length (List.map AV.v [Value.int IntKind.i64 0])).flatten) = _
    simp [copied]
  intro k hk
  by_cases h : k < L.length
  · repeat (first | (refine step_ops ?_; (first | (refine m_mov (by conv => lhs; whnf) ?_) | (refine m_lss rfl rfl ?_) | (refine m_len_ro rfl ?_) | (refine m_idx1_ro rfl rfl ?_ ?_; (· omega)) | (refine m_idx1_sl rfl rfl ?_ ?_; (· omega)) | (refine m_ld_rpi rfl ?_ ?_; (· omega)))) | refine end_ops ?_ | refine seq_ops ?_ | refine AW_ops ?_ | (refine cond_t rfl ?_ ?_; (· first | rfl | assumption | (refine decide_eq_true ?_; first | assumption | omega) | (refine nt ?_; first | assumption | omega) | (simp [*]; done))) | refine skip_then ?_ | refine AW_seq ?_ | refine AW_block ?_)
    refine step_ops ?_
    refine m_st (by rfl) (by rfl) (by rfl) ?_ ?_ ?_
    · simp [copied_len, hk, h]
    · rfl
    repeat (first | (refine step_ops ?_; (first | (refine m_mov (by conv => lhs; whnf) ?_) | (refine m_add rfl rfl ?_ ?_ ?_; (· omega); (· omega)))) | refine end_ops ?_ | refine AW_ops ?_ | refine norm_then ?_ | refine norm_block ?_)
    refine next_round (k + 1) ?_ (weak_st ?_ ?_ rfl rfl) ?_
    · omega
    · (repeat' (first | exact trivial | refine And.intro ?_ ?_)) <;> (first | rfl | skip)
    · refine ⟨?_, trivial⟩
      show some (true, ((copied L k).map AV.i).set k (AV.i (L.getD k 0))) = _
      rw [← copied_set L k h, List.map_set]
    · omega
  · repeat (first | (refine step_ops ?_; (first | (refine m_mov (by conv => lhs; whnf) ?_) | (refine m_lss rfl rfl ?_) | (refine m_len_ro rfl ?_))) | refine end_ops ?_ | refine seq_ops ?_ | (refine cond_f rfl ?_ ?_; (· first | rfl | assumption | (refine decide_eq_false ?_; first | assumption | omega) | (refine nf ?_; first | assumption | omega) | (simp [*]; done))) | refine AW_seq ?_ | refine AW_ret ?_ | refine ret_done ?_ | refine norm_then ?_ | refine exit_then ?_ | refine exit_round ?_ | refine AW_exit ?_ | refine exit_block ?_)
    obtain rfl : k = L.length := by omega
    refine outs_ints rfl ?_ rfl
    simp [copied]
theorem isGuest_spec (a b : Int) : Sp Try.prog 76 [.i a, .i b] (.b (decide (0 ≤ a ∧ a < b))) := by
  refine spec_of Try.func76 rfl cc76 rfl ?_
  unfold ac76
  by_cases h : 0 ≤ a
  all_goals
    repeat (first | (refine step_ops ?_; (first | ((try (refine g_yes rfl ?_ ?_; (· first | rfl | assumption | (refine decide_eq_true ?_; first | assumption | omega) | (refine nt ?_; first | assumption | omega) | (simp [*]; done) | (refine decide_eq_false ?_; first | assumption | omega) | (refine nf ?_; first | assumption | omega)))); (first | (refine m_mov (by conv => lhs; whnf) ?_) | (refine m_lss rfl rfl ?_) | (refine m_geq rfl rfl ?_) | (refine m_pick_t rfl ?_ (by conv => lhs; whnf) ?_; (· first | rfl | assumption | (refine decide_eq_true ?_; first | assumption | omega) | (refine nt ?_; first | assumption | omega) | (simp [*]; done))) | (refine m_pick_f rfl ?_ (by conv => lhs; whnf) ?_; (· first | rfl | assumption | (refine decide_eq_false ?_; first | assumption | omega) | (refine nf ?_; first | assumption | omega) | (simp [*]; done))))) | (refine g_noT rfl ?_ ?_; (· first | rfl | assumption | (refine decide_eq_false ?_; first | assumption | omega) | (refine nf ?_; first | assumption | omega) | (simp [*]; done))))) | refine end_ops ?_ | refine seq_ops ?_ | refine AW_ret ?_ | refine ret_done ?_)
    refine outs_b ?_
    simp [*]
theorem isGuestCount_spec (a : Int) : Sp Try.prog 63 [.i a] (.b (decide (1 ≤ a ∧ a ≤ 12))) := by
  refine spec_of Try.func63 rfl cc63 rfl ?_
  unfold ac63
  by_cases h : 1 ≤ a
  all_goals
    repeat (first | (refine step_ops ?_; (first | ((try (refine g_yes rfl ?_ ?_; (· first | rfl | assumption | (refine decide_eq_true ?_; first | assumption | omega) | (refine nt ?_; first | assumption | omega) | (simp [*]; done) | (refine decide_eq_false ?_; first | assumption | omega) | (refine nf ?_; first | assumption | omega)))); (first | (refine m_mov (by conv => lhs; whnf) ?_) | (refine m_leq rfl rfl ?_) | (refine m_geq rfl rfl ?_) | (refine m_pick_t rfl ?_ (by conv => lhs; whnf) ?_; (· first | rfl | assumption | (refine decide_eq_true ?_; first | assumption | omega) | (refine nt ?_; first | assumption | omega) | (simp [*]; done))) | (refine m_pick_f rfl ?_ (by conv => lhs; whnf) ?_; (· first | rfl | assumption | (refine decide_eq_false ?_; first | assumption | omega) | (refine nf ?_; first | assumption | omega) | (simp [*]; done))))) | (refine g_noT rfl ?_ ?_; (· first | rfl | assumption | (refine decide_eq_false ?_; first | assumption | omega) | (refine nf ?_; first | assumption | omega) | (simp [*]; done))))) | refine end_ops ?_ | refine seq_ops ?_ | refine AW_ret ?_ | refine ret_done ?_)
    refine outs_b ?_
    simp [*]
theorem l1In_spec (a b c : Int) : Sp Try.prog 36 [.i a, .i b, .i c] (.b (decide (b ≤ a ∧ a ≤ c))) := by
  refine spec_of Try.func36 rfl cc36 rfl ?_
  unfold ac36
  by_cases h : b ≤ a
  all_goals
    repeat (first | (refine step_ops ?_; (first | ((try (refine g_yes rfl ?_ ?_; (· first | rfl | assumption | (refine decide_eq_true ?_; first | assumption | omega) | (refine nt ?_; first | assumption | omega) | (simp [*]; done) | (refine decide_eq_false ?_; first | assumption | omega) | (refine nf ?_; first | assumption | omega)))); (first | (refine m_mov (by conv => lhs; whnf) ?_) | (refine m_leq rfl rfl ?_) | (refine m_geq rfl rfl ?_) | (refine m_pick_t rfl ?_ (by conv => lhs; whnf) ?_; (· first | rfl | assumption | (refine decide_eq_true ?_; first | assumption | omega) | (refine nt ?_; first | assumption | omega) | (simp [*]; done))) | (refine m_pick_f rfl ?_ (by conv => lhs; whnf) ?_; (· first | rfl | assumption | (refine decide_eq_false ?_; first | assumption | omega) | (refine nf ?_; first | assumption | omega) | (simp [*]; done))))) | (refine g_noT rfl ?_ ?_; (· first | rfl | assumption | (refine decide_eq_false ?_; first | assumption | omega) | (refine nf ?_; first | assumption | omega) | (simp [*]; done))))) | refine end_ops ?_ | refine seq_ops ?_ | refine AW_ret ?_ | refine ret_done ?_)
    refine outs_b ?_
    simp [*]
theorem eqIntS_spec (L M : List Int) (hL : L.length ≤ 1048576) : Sp Try.prog 19 [ints L, ints M] (.b (decide (L = M))) := by
  refine spec_of Try.func19 rfl cc19 rfl ?_
  unfold ac19
  by_cases hlen : L.length = M.length
  · have hlen' : (decide ((L.length : Int) ≠ M.length)) = false := by simp [hlen]
    repeat (first | (refine step_ops ?_; (first | (refine m_mov (by conv => lhs; whnf) ?_) | (refine m_neq rfl rfl ?_) | (refine m_len_ro rfl ?_))) | refine end_ops ?_ | refine seq_ops ?_ | (refine cond_f rfl ?_ ?_; (· first | rfl | assumption | (refine decide_eq_false ?_; first | assumption | omega) | (refine nf ?_; first | assumption | omega) | (simp [*]; done))) | refine skip_then ?_ | refine AW_seq ?_ | refine AW_block ?_)
    refine AW_loop (α := Nat) (fun k => k ≤ L.length ∧ L.take k = M.take k) (fun k => st [(0, ints L), (1, ints M), (5, .i k)] []) (fun k => L.length - k) 0 (by simp) (weak_st ?_ ?_ rfl rfl) ?_
    · (repeat' (first | exact trivial | refine And.intro ?_ ?_)) <;> (first | rfl | skip)
    · trivial
    rintro k ⟨hk, he⟩
    by_cases h : k < L.length
    · have h' : k < M.length := by omega
      by_cases hx : L.getD k 0 = M.getD k 0
      · repeat (first | ((first | refine step_ops ?_ | refine step_tree ?_); (first | (refine m_mov (by conv => lhs; whnf) ?_) | (refine m_lss rfl rfl ?_) | (refine m_neq rfl rfl ?_) | (refine m_add rfl rfl ?_ ?_ ?_; (· omega); (· omega)) | (refine m_len_ro rfl ?_) | (refine m_idx1_ro rfl rfl ?_ ?_; (· omega)) | (refine m_ld_rpi rfl ?_ ?_; (· omega)))) | refine end_ops ?_ | refine seq_ops ?_ | refine AW_ops ?_ | refine end_tree ?_ | refine seq_tree ?_ | (refine cond_t rfl ?_ ?_; (· first | rfl | assumption | (refine decide_eq_true ?_; first | assumption | omega) | (refine nt ?_; first | assumption | omega) | (simp [*]; done))) | (refine cond_f rfl ?_ ?_; (· first | rfl | assumption | (refine decide_eq_false ?_; first | assumption | omega) | (refine nf ?_; first | assumption | omega) | (simp [*]; done))) | refine skip_then ?_ | refine AW_seq ?_ | refine norm_then ?_ | refine AW_block ?_ | refine norm_block ?_ | refine AW_skip ?_)
        refine next_round (k + 1) ⟨by omega, ?_⟩ (weak_st ?_ ?_ rfl rfl) ?_
        · rw [take_snoc L k 0 h, take_snoc M k 0 h', he, hx]
        · (repeat' (first | exact trivial | refine And.intro ?_ ?_)) <;> (first | rfl | skip)
        · trivial
        · omega
      · repeat (first | ((first | refine step_ops ?_ | refine step_tree ?_); (first | (refine m_mov (by conv => lhs; whnf) ?_) | (refine m_lss rfl rfl ?_) | (refine m_neq rfl rfl ?_) | (refine m_len_ro rfl ?_) | (refine m_idx1_ro rfl rfl ?_ ?_; (· omega)) | (refine m_ld_rpi rfl ?_ ?_; (· omega)))) | refine end_ops ?_ | refine seq_ops ?_ | refine end_tree ?_ | refine seq_tree ?_ | (refine cond_t rfl ?_ ?_; (· first | rfl | assumption | (refine decide_eq_true ?_; first | assumption | omega) | (refine nt ?_; first | assumption | omega) | (simp [*]; done))) | refine skip_then ?_ | refine AW_seq ?_ | refine AW_ret ?_ | refine ret_done ?_ | refine ret_then ?_ | refine AW_block ?_ | refine ret_block ?_ | refine ret_round ?_)
        refine outs_b ?_
        symm
        refine decide_eq_false fun e => hx (by rw [e])
    · repeat (first | (refine step_ops ?_; (first | (refine m_mov (by conv => lhs; whnf) ?_) | (refine m_lss rfl rfl ?_) | (refine m_len_ro rfl ?_))) | refine end_ops ?_ | refine seq_ops ?_ | (refine cond_f rfl ?_ ?_; (· first | rfl | assumption | (refine decide_eq_false ?_; first | assumption | omega) | (refine nf ?_; first | assumption | omega) | (simp [*]; done))) | refine AW_seq ?_ | refine AW_ret ?_ | refine ret_done ?_ | refine norm_then ?_ | refine exit_then ?_ | refine exit_round ?_ | refine AW_exit ?_ | refine exit_block ?_)
      refine outs_b ?_
      symm
      refine decide_eq_true ?_
      rw [List.take_of_length_le (by omega), List.take_of_length_le (by omega)] at he
      exact he
  · have hlen' : (decide ((L.length : Int) ≠ M.length)) = true := by simp; omega
    repeat (first | (refine step_ops ?_; (first | (refine m_mov (by conv => lhs; whnf) ?_) | (refine m_neq rfl rfl ?_) | (refine m_len_ro rfl ?_))) | refine end_ops ?_ | refine seq_ops ?_ | (refine cond_t rfl ?_ ?_; (· first | rfl | assumption | (refine decide_eq_true ?_; first | assumption | omega) | (refine nt ?_; first | assumption | omega) | (simp [*]; done))) | refine AW_seq ?_ | refine AW_ret ?_ | refine ret_done ?_ | refine ret_then ?_)
    refine outs_b ?_
    symm
    refine decide_eq_false fun e => hlen (by rw [e])
theorem getD_mem {L : List Int} {k : Nat} (h : k < L.length) : L.getD k 0 ∈ L := by simp [h]
end Go.Proofs.Yteiipnadhalnbaa
namespace Go.Proofs.Yteiipnadhalnbaa
open Go.Am
attribute [local irreducible] AW Outs Weak Lends Lend Sp aops atree aop1 Then Round InBlock Done
theorem setHas_spec (a g : Nat) (ha : a < 65536) (hg : g < 16) : Sp Try.prog 77 [.u a, .i g] (.b (a.testBit g)) := by
  refine spec_of Try.func77 rfl cc77 rfl ?_
  unfold ac77
  repeat (first | (refine step_ops ?_; (refine m_mov (by conv => lhs; whnf) ?_)) | refine end_ops ?_ | refine seq_ops ?_)
  refine step_ops ?_
  refine m_shr16 (a := a) (k := g) rfl rfl hg ?_
  refine step_ops ?_
  refine m_and16_1 (a := a >>> g) rfl rfl (Nat.lt_of_le_of_lt (Nat.shiftRight_le a g) ha) ?_
  refine step_ops ?_
  refine m_eql16_1 (a := (a >>> g) &&& 1) rfl rfl ?_
  rw [bit_and]
  repeat (first | (refine step_ops ?_; (refine m_mov (by conv => lhs; whnf) ?_)) | refine end_ops ?_ | refine AW_ret ?_ | refine ret_done ?_)
  exact outs_b rfl
theorem outs_u {s : AS} {a b : Nat} (h : a = b) : Outs s (.u a) (.u b) := by
  subst h; exact outs_v
theorem setWith_spec (a g : Nat) (ha : a < 65536) (hg : g < 16) : Sp Try.prog 78 [.u a, .i g] (.u (a ||| 1 <<< g)) := by
  refine spec_of Try.func78 rfl cc78 rfl ?_
  unfold ac78
  repeat (first | (refine step_ops ?_; (refine m_mov (by conv => lhs; whnf) ?_)) | refine end_ops ?_ | refine seq_ops ?_)
  refine step_ops ?_
  refine m_shl16 (k := g) rfl rfl hg ?_
  refine step_ops ?_
  refine m_or16 (a := a) (b := 1 <<< g) rfl rfl ha (shl16_lt hg) ?_
  repeat (first | (refine step_ops ?_; (refine m_mov (by conv => lhs; whnf) ?_)) | refine end_ops ?_ | refine AW_ret ?_ | refine ret_done ?_)
  exact outs_u rfl
theorem notNodup {L : List Int} {k : Nat} (hk : k < L.length) (h : L.getD k 0 ∈ L.take k) : ¬ L.Nodup := by
  intro hn
  rw [← List.take_append_drop k L, List.nodup_append] at hn
  refine hn.2.2 _ h _ ?_ rfl
  have : L.drop k = L.getD k 0 :: L.drop (k + 1) := by rw [List.drop_eq_getElem_cons hk]; simp [hk]
  rw [this]
  exact List.mem_cons_self ..
theorem nodupSnoc {L : List Int} {k : Nat} (hk : k < L.length) (hn : (L.take k).Nodup) (h : L.getD k 0 ∉ L.take k) : (L.take (k + 1)).Nodup := by
  rw [take_snoc L k 0 hk, List.nodup_append]
  refine ⟨hn, by simp, ?_⟩
  intro a ha b hb hab
  rw [List.mem_singleton] at hb
  subst hb
  exact h (hab ▸ ha)
theorem areDifferent_spec (L : List Int) (n : Nat) (_hL : L.length ≤ 1048576) (hn16 : n ≤ 16) : Sp Try.prog 64 [ints L, .i n] (.b (decide ((∀ x ∈ L, 0 ≤ x ∧ x < (n : Int)) ∧ L.Nodup))) := by
  refine spec_of Try.func64 rfl cc64 rfl ?_
  unfold ac64
  repeat (first | (refine step_ops ?_; (first | (refine m_mov (by conv => lhs; whnf) ?_) | (refine m_len_ro rfl ?_))) | refine end_ops ?_ | refine seq_ops ?_ | refine AW_seq ?_ | refine AW_block ?_)
  refine AW_loop (α := Nat × Nat) (fun p => p.1 ≤ L.length ∧ p.2 < 65536 ∧ (∀ x ∈ L.take p.1, 0 ≤ x ∧ x < (n : Int)) ∧ (L.take p.1).Nodup ∧ ∀ i < 16, p.2.testBit i = decide ((i : Int) ∈ L.take p.1))
    (fun p => st [(0, ints L), (1, .i n), (5, .u p.2), (8, ints L), (9, .i L.length), (10, .i p.1)] []) (fun p => L.length - p.1) (0, 0) ⟨Nat.zero_le _, by decide, by simp, by simp, fun i _ => by simp⟩ (weak_st ?_ ?_ rfl rfl) ?_
  · (repeat' (first | exact trivial | refine And.intro ?_ ?_)) <;> (first | rfl | skip)
  · trivial
  rintro ⟨k, a⟩ ⟨hk, ha, hr, hn, hb⟩
  dsimp only at hk ha hr hn hb ⊢
  by_cases h : k < L.length
  · by_cases hx : 0 ≤ L.getD k 0 ∧ L.getD k 0 < (n : Int)
    · obtain ⟨i, hi⟩ := Int.eq_ofNat_of_zero_le hx.1
      have hi16 : i < 16 := by omega
      have hbi := hb i hi16
      by_cases hm : (i : Int) ∈ L.take k
      · have hbt : a.testBit i = true := by rw [hbi]; exact decide_eq_true hm
        repeat (first | (refine step_ops ?_; (first | (refine m_mov (by conv => lhs; whnf) ?_) | (refine m_lss rfl rfl ?_) | (refine m_idx1_ro rfl rfl ?_ ?_; (· omega)) | (refine m_ld_rpi rfl ?_ ?_; (· omega)))) | refine end_ops ?_ | refine seq_ops ?_ | (refine cond_t rfl ?_ ?_; (· first | rfl | assumption | (refine decide_eq_true ?_; first | assumption | omega) | (refine nt ?_; first | assumption | omega) | (simp [*]; done))) | refine skip_then ?_ | refine AW_seq ?_ | refine AW_block ?_)
        (refine step_ops ?_); (apply m_call (isGuest_spec _ _)); (· repeat (first | exact lends_nil | (refine lends_cons ?_ ?_; (· exact lend_v))))
        repeat (refine step_ops ?_; ((try (refine g_yes rfl ?_ ?_; (· first | rfl | assumption | (refine decide_eq_true ?_; first | assumption | omega) | (refine nt ?_; first | assumption | omega) | (simp [*]; done) | (refine decide_eq_false ?_; first | assumption | omega) | (refine nf ?_; first | assumption | omega)))); (first | (refine m_mov (by conv => lhs; whnf) ?_) | (refine m_not rfl ?_))))
        rw [hi]
        skip
        (refine step_ops ?_); (refine g_yes rfl ?_ ?_; (· first | (first | rfl | assumption | (refine decide_eq_true ?_; first | assumption | omega) | (refine nt ?_; first | assumption | omega) | (simp [*]; done)) | (first | rfl | assumption | (refine decide_eq_false ?_; first | assumption | omega) | (refine nf ?_; first | assumption | omega) | (simp [*]; done))); (apply m_call (setHas_spec a i ha (by omega)))); (· repeat (first | exact lends_nil | (refine lends_cons ?_ ?_; (· exact lend_v))))
        repeat (first | (refine step_ops ?_; (first | (refine m_mov (by conv => lhs; whnf) ?_) | (refine m_pick_f rfl ?_ (by conv => lhs; whnf) ?_; (· first | rfl | assumption | (refine decide_eq_false ?_; first | assumption | omega) | (refine nf ?_; first | assumption | omega) | (simp [*]; done))))) | refine end_ops ?_ | refine seq_ops ?_ | (refine cond_t rfl ?_ ?_; (· first | rfl | assumption | (refine decide_eq_true ?_; first | assumption | omega) | (refine nt ?_; first | assumption | omega) | (simp [*]; done))) | refine AW_ret ?_ | refine ret_done ?_ | refine ret_then ?_ | refine ret_block ?_ | refine ret_round ?_)
        refine outs_b ?_
        symm
        exact decide_eq_false fun he => notNodup h (hi ▸ hm) he.2
      · have hbt : a.testBit i = false := by rw [hbi]; exact decide_eq_false hm
        repeat (first | (refine step_ops ?_; (first | (refine m_mov (by conv => lhs; whnf) ?_) | (refine m_lss rfl rfl ?_) | (refine m_idx1_ro rfl rfl ?_ ?_; (· omega)) | (refine m_ld_rpi rfl ?_ ?_; (· omega)))) | refine end_ops ?_ | refine seq_ops ?_ | (refine cond_t rfl ?_ ?_; (· first | rfl | assumption | (refine decide_eq_true ?_; first | assumption | omega) | (refine nt ?_; first | assumption | omega) | (simp [*]; done))) | refine skip_then ?_ | refine AW_seq ?_ | refine AW_block ?_)
        (refine step_ops ?_); (apply m_call (isGuest_spec _ _)); (· repeat (first | exact lends_nil | (refine lends_cons ?_ ?_; (· exact lend_v))))
        repeat (refine step_ops ?_; ((try (refine g_yes rfl ?_ ?_; (· first | rfl | assumption | (refine decide_eq_true ?_; first | assumption | omega) | (refine nt ?_; first | assumption | omega) | (simp [*]; done) | (refine decide_eq_false ?_; first | assumption | omega) | (refine nf ?_; first | assumption | omega)))); (first | (refine m_mov (by conv => lhs; whnf) ?_) | (refine m_not rfl ?_))))
        rw [hi]
        skip
        (refine step_ops ?_); (refine g_yes rfl ?_ ?_; (· first | (first | rfl | assumption | (refine decide_eq_true ?_; first | assumption | omega) | (refine nt ?_; first | assumption | omega) | (simp [*]; done)) | (first | rfl | assumption | (refine decide_eq_false ?_; first | assumption | omega) | (refine nf ?_; first | assumption | omega) | (simp [*]; done))); (apply m_call (setHas_spec a i ha (by omega)))); (· repeat (first | exact lends_nil | (refine lends_cons ?_ ?_; (· exact lend_v))))
        repeat (first | (refine step_ops ?_; (first | (refine m_mov (by conv => lhs; whnf) ?_) | (refine m_pick_f rfl ?_ (by conv => lhs; whnf) ?_; (· first | rfl | assumption | (refine decide_eq_false ?_; first | assumption | omega) | (refine nf ?_; first | assumption | omega) | (simp [*]; done))))) | refine end_ops ?_ | refine AW_ops ?_ | (refine cond_f rfl ?_ ?_; (· first | rfl | assumption | (refine decide_eq_false ?_; first | assumption | omega) | (refine nf ?_; first | assumption | omega) | (simp [*]; done))) | refine skip_then ?_)
        (refine step_ops ?_); (apply m_call (setWith_spec a i ha (by omega))); (· repeat (first | exact lends_nil | (refine lends_cons ?_ ?_; (· exact lend_v))))
        repeat (first | (refine step_ops ?_; (first | (refine m_mov (by conv => lhs; whnf) ?_) | (refine m_add rfl rfl ?_ ?_ ?_; (· omega); (· omega)))) | refine end_ops ?_ | refine AW_ops ?_ | refine norm_then ?_ | refine norm_block ?_)
        refine next_round (k + 1, a ||| 1 <<< i) ⟨by omega, or16_lt ha (shl16_lt (by omega)), ?_, nodupSnoc h hn (hi ▸ hm), fun j hj => ?_⟩ (weak_st ?_ ?_ rfl rfl) ?_
        · rw [take_snoc L k 0 h]
          intro x hxm
          rw [List.mem_append, List.mem_singleton] at hxm
          rcases hxm with h1 | rfl
          · exact hr x h1
          · exact hx
        · rw [bit_or, hb j hj, take_snoc L k 0 h, Bool.eq_iff_iff]
          have hji : ((j : Int) = (i : Int)) ↔ j = i := by omega
          simp only [Bool.or_eq_true, decide_eq_true_eq, List.mem_append, List.mem_singleton, hi, hji]
        · (repeat' (first | exact trivial | refine And.intro ?_ ?_)) <;> (first | rfl | skip)
        · trivial
        · show L.length - (k + 1) < L.length - k
          omega
    · repeat (first | (refine step_ops ?_; (first | (refine m_mov (by conv => lhs; whnf) ?_) | (refine m_lss rfl rfl ?_) | (refine m_idx1_ro rfl rfl ?_ ?_; (· omega)) | (refine m_ld_rpi rfl ?_ ?_; (· omega)))) | refine end_ops ?_ | refine seq_ops ?_ | (refine cond_t rfl ?_ ?_; (· first | rfl | assumption | (refine decide_eq_true ?_; first | assumption | omega) | (refine nt ?_; first | assumption | omega) | (simp [*]; done))) | refine skip_then ?_ | refine AW_seq ?_ | refine AW_block ?_)
      (refine step_ops ?_); (apply m_call (isGuest_spec _ _)); (· repeat (first | exact lends_nil | (refine lends_cons ?_ ?_; (· exact lend_v))))
      repeat (first | (refine step_ops ?_; (first | (first | (refine m_mov (by conv => lhs; whnf) ?_) | (refine m_not rfl ?_) | (refine m_pick_t rfl ?_ (by conv => lhs; whnf) ?_; (· first | rfl | assumption | (refine decide_eq_true ?_; first | assumption | omega) | (refine nt ?_; first | assumption | omega) | (simp [*]; done)))) | (refine g_noF rfl ?_ ?_; (· first | rfl | assumption | (refine decide_eq_true ?_; first | assumption | omega) | (refine nt ?_; first | assumption | omega) | (simp [*]; done))))) | refine end_ops ?_ | refine seq_ops ?_ | (refine cond_t rfl ?_ ?_; (· first | rfl | assumption | (refine decide_eq_true ?_; first | assumption | omega) | (refine nt ?_; first | assumption | omega) | (simp [*]; done))) | refine AW_ret ?_ | refine ret_done ?_ | refine ret_then ?_ | refine ret_block ?_ | refine ret_round ?_)
      refine outs_b ?_
      symm
      exact decide_eq_false fun he => hx (he.1 _ (getD_mem h))
  · repeat (first | (refine step_ops ?_; (first | (refine m_mov (by conv => lhs; whnf) ?_) | (refine m_lss rfl rfl ?_))) | refine end_ops ?_ | refine seq_ops ?_ | (refine cond_f rfl ?_ ?_; (· first | rfl | assumption | (refine decide_eq_false ?_; first | assumption | omega) | (refine nf ?_; first | assumption | omega) | (simp [*]; done))) | refine AW_seq ?_ | refine AW_ret ?_ | refine ret_done ?_ | refine norm_then ?_ | refine exit_then ?_ | refine exit_round ?_ | refine AW_exit ?_ | refine exit_block ?_)
    refine outs_b ?_
    symm
    rw [List.take_of_length_le (by omega)] at hr hn
    exact decide_eq_true ⟨hr, hn⟩
end Go.Proofs.Yteiipnadhalnbaa
namespace Go.Proofs.Yteiipnadhalnbaa
open Go.Am
attribute [local irreducible] AW Outs Weak Lends Lend Sp aops atree aop1 Then Round InBlock Done
/-- What an exchange is. -/
def IsEx (L : List Int) : Prop := 1 ≤ L.length ∧ L.length ≤ 12 ∧ (∀ x ∈ L, 0 ≤ x ∧ x < L.length) ∧ L.Nodup
instance (L : List Int) : Decidable (IsEx L) := inferInstanceAs (Decidable (_ ∧ _ ∧ _ ∧ _))
theorem l1Has_spec (L : List Int) (n : Int) (hL : L.length ≤ 1048576) : Sp Try.prog 62 [ints L, .i n] (.b (decide (n ∈ L))) := by
  refine spec_of Try.func62 rfl cc62 rfl ?_
  unfold ac62
  repeat (first | (refine step_ops ?_; (first | (refine m_mov (by conv => lhs; whnf) ?_) | (refine m_len_ro rfl ?_))) | refine end_ops ?_ | refine seq_ops ?_ | refine AW_seq ?_ | refine AW_block ?_)
  refine AW_loop (α := Nat) (fun k => k ≤ L.length ∧ n ∉ L.take k) (fun k => st [(7, ints L), (1, .i n), (8, .i L.length), (9, .i k)] []) (fun k => L.length - k) 0 (by simp) (weak_st ?_ ?_ rfl rfl) ?_
  · (repeat' (first | exact trivial | refine And.intro ?_ ?_)) <;> (first | rfl | skip)
  · trivial
  rintro k ⟨hk, he⟩
  by_cases h : k < L.length
  · by_cases hx : L.getD k 0 = n
    · repeat (first | (refine step_ops ?_; (first | (refine m_mov (by conv => lhs; whnf) ?_) | (refine m_lss rfl rfl ?_) | (refine m_eql rfl rfl ?_) | (refine m_idx1_ro rfl rfl ?_ ?_; (· omega)) | (refine m_ld_rpi rfl ?_ ?_; (· omega)))) | refine end_ops ?_ | refine seq_ops ?_ | (refine cond_t rfl ?_ ?_; (· first | rfl | assumption | (refine decide_eq_true ?_; first | assumption | omega) | (refine nt ?_; first | assumption | omega) | (simp [*]; done))) | refine skip_then ?_ | refine AW_seq ?_ | refine AW_ret ?_ | refine ret_done ?_ | refine ret_then ?_ | refine AW_block ?_ | refine ret_block ?_ | refine ret_round ?_)
      refine outs_b ?_
      symm
      exact decide_eq_true (hx ▸ getD_mem h)
    · repeat (first | (refine step_ops ?_; (first | (refine m_mov (by conv => lhs; whnf) ?_) | (refine m_lss rfl rfl ?_) | (refine m_eql rfl rfl ?_) | (refine m_add rfl rfl ?_ ?_ ?_; (· omega); (· omega)) | (refine m_idx1_ro rfl rfl ?_ ?_; (· omega)) | (refine m_ld_rpi rfl ?_ ?_; (· omega)))) | refine end_ops ?_ | refine seq_ops ?_ | refine AW_ops ?_ | (refine cond_t rfl ?_ ?_; (· first | rfl | assumption | (refine decide_eq_true ?_; first | assumption | omega) | (refine nt ?_; first | assumption | omega) | (simp [*]; done))) | (refine cond_f rfl ?_ ?_; (· first | rfl | assumption | (refine decide_eq_false ?_; first | assumption | omega) | (refine nf ?_; first | assumption | omega) | (simp [*]; done))) | refine skip_then ?_ | refine AW_seq ?_ | refine norm_then ?_ | refine AW_block ?_ | refine norm_block ?_ | refine AW_skip ?_)
      refine next_round (k + 1) ⟨by omega, ?_⟩ (weak_st ?_ ?_ rfl rfl) ?_
      · rw [take_snoc L k 0 h, List.mem_append, List.mem_singleton]
        rintro (h1 | h1)
        · exact he h1
        · exact hx h1.symm
      · (repeat' (first | exact trivial | refine And.intro ?_ ?_)) <;> (first | rfl | skip)
      · trivial
      · omega
  · repeat (first | (refine step_ops ?_; (first | (refine m_mov (by conv => lhs; whnf) ?_) | (refine m_lss rfl rfl ?_))) | refine end_ops ?_ | refine seq_ops ?_ | (refine cond_f rfl ?_ ?_; (· first | rfl | assumption | (refine decide_eq_false ?_; first | assumption | omega) | (refine nf ?_; first | assumption | omega) | (simp [*]; done))) | refine AW_seq ?_ | refine AW_ret ?_ | refine ret_done ?_ | refine norm_then ?_ | refine exit_then ?_ | refine exit_round ?_ | refine AW_exit ?_ | refine exit_block ?_)
    refine outs_b ?_
    symm
    rw [List.take_of_length_le (by omega)] at he
    exact decide_eq_false he
theorem l1All_spec (L : List Int) (lo hi : Int) (hL : L.length ≤ 1048576) : Sp Try.prog 61 [ints L, .i lo, .i hi] (.b (decide (∀ x ∈ L, lo ≤ x ∧ x ≤ hi))) := by
  refine spec_of Try.func61 rfl cc61 rfl ?_
  unfold ac61
  repeat (first | (refine step_ops ?_; (first | (refine m_mov (by conv => lhs; whnf) ?_) | (refine m_len_ro rfl ?_))) | refine end_ops ?_ | refine seq_ops ?_ | refine AW_seq ?_ | refine AW_block ?_)
  refine AW_loop (α := Nat) (fun k => k ≤ L.length ∧ ∀ x ∈ L.take k, lo ≤ x ∧ x ≤ hi) (fun k => st [(9, ints L), (1, .i lo), (2, .i hi), (10, .i L.length), (11, .i k)] []) (fun k => L.length - k) 0 (by simp) (weak_st ?_ ?_ rfl rfl) ?_
  · (repeat' (first | exact trivial | refine And.intro ?_ ?_)) <;> (first | rfl | skip)
  · trivial
  rintro k ⟨hk, he⟩
  by_cases h : k < L.length
  · by_cases hx : lo ≤ L.getD k 0 ∧ L.getD k 0 ≤ hi
    · repeat (first | (refine step_ops ?_; (first | (refine m_mov (by conv => lhs; whnf) ?_) | (refine m_lss rfl rfl ?_) | (refine m_idx1_ro rfl rfl ?_ ?_; (· omega)) | (refine m_ld_rpi rfl ?_ ?_; (· omega)))) | refine end_ops ?_ | refine seq_ops ?_ | (refine cond_t rfl ?_ ?_; (· first | rfl | assumption | (refine decide_eq_true ?_; first | assumption | omega) | (refine nt ?_; first | assumption | omega) | (simp [*]; done))) | refine skip_then ?_ | refine AW_seq ?_ | refine AW_block ?_)
      (refine step_ops ?_); (apply m_call (l1In_spec _ _ _)); (· repeat (first | exact lends_nil | (refine lends_cons ?_ ?_; (· exact lend_v))))
      repeat (first | (refine step_ops ?_; (first | (refine m_mov (by conv => lhs; whnf) ?_) | (refine m_add rfl rfl ?_ ?_ ?_; (· omega); (· omega)) | (refine m_not rfl ?_))) | refine end_ops ?_ | refine AW_ops ?_ | (refine cond_f rfl ?_ ?_; (· first | rfl | assumption | (refine decide_eq_false ?_; first | assumption | omega) | (refine nf ?_; first | assumption | omega) | (simp [*]; done))) | refine norm_then ?_ | refine norm_block ?_ | refine AW_skip ?_)
      refine next_round (k + 1) ⟨by omega, ?_⟩ (weak_st ?_ ?_ rfl rfl) ?_
      · rw [take_snoc L k 0 h]
        intro x hxm
        rw [List.mem_append, List.mem_singleton] at hxm
        rcases hxm with h1 | rfl
        · exact he x h1
        · exact hx
      · (repeat' (first | exact trivial | refine And.intro ?_ ?_)) <;> (first | rfl | skip)
      · trivial
      · omega
    · repeat (first | (refine step_ops ?_; (first | (refine m_mov (by conv => lhs; whnf) ?_) | (refine m_lss rfl rfl ?_) | (refine m_idx1_ro rfl rfl ?_ ?_; (· omega)) | (refine m_ld_rpi rfl ?_ ?_; (· omega)))) | refine end_ops ?_ | refine seq_ops ?_ | (refine cond_t rfl ?_ ?_; (· first | rfl | assumption | (refine decide_eq_true ?_; first | assumption | omega) | (refine nt ?_; first | assumption | omega) | (simp [*]; done))) | refine skip_then ?_ | refine AW_seq ?_ | refine AW_block ?_)
      (refine step_ops ?_); (apply m_call (l1In_spec _ _ _)); (· repeat (first | exact lends_nil | (refine lends_cons ?_ ?_; (· exact lend_v))))
      repeat (first | (refine step_ops ?_; (first | (refine m_mov (by conv => lhs; whnf) ?_) | (refine m_not rfl ?_))) | refine end_ops ?_ | refine seq_ops ?_ | (refine cond_t rfl ?_ ?_; (· first | rfl | assumption | (refine decide_eq_true ?_; first | assumption | omega) | (refine nt ?_; first | assumption | omega) | (simp [*]; done))) | refine AW_ret ?_ | refine ret_done ?_ | refine ret_then ?_ | refine ret_block ?_ | refine ret_round ?_)
      refine outs_b ?_
      symm
      exact decide_eq_false fun hall => hx (hall _ (getD_mem h))
  · repeat (first | (refine step_ops ?_; (first | (refine m_mov (by conv => lhs; whnf) ?_) | (refine m_lss rfl rfl ?_))) | refine end_ops ?_ | refine seq_ops ?_ | (refine cond_f rfl ?_ ?_; (· first | rfl | assumption | (refine decide_eq_false ?_; first | assumption | omega) | (refine nf ?_; first | assumption | omega) | (simp [*]; done))) | refine AW_seq ?_ | refine AW_ret ?_ | refine ret_done ?_ | refine norm_then ?_ | refine exit_then ?_ | refine exit_round ?_ | refine AW_exit ?_ | refine exit_block ?_)
    refine outs_b ?_
    symm
    rw [List.take_of_length_le (by omega)] at he
    exact decide_eq_true he
theorem not_nodup {L : List Int} {k : Nat} (hk : k < L.length) (h : L.getD k 0 ∈ L.take k) : ¬ L.Nodup := by
  intro hn
  rw [← List.take_append_drop k L, List.nodup_append] at hn
  refine hn.2.2 _ h _ ?_ rfl
  have : L.drop k = L.getD k 0 :: L.drop (k + 1) := by rw [List.drop_eq_getElem_cons hk]; simp [hk]
  rw [this]
  exact List.mem_cons_self ..
theorem nodup_snoc {L : List Int} {k : Nat} (hk : k < L.length) (hn : (L.take k).Nodup) (h : L.getD k 0 ∉ L.take k) : (L.take (k + 1)).Nodup := by
  rw [take_snoc L k 0 hk, List.nodup_append]
  refine ⟨hn, by simp, ?_⟩
  intro a ha b hb hab
  rw [List.mem_singleton] at hb
  subst hb
  exact h (hab ▸ ha)
theorem implIsExchange_spec (L : List Int) (hL : L.length ≤ 1048576) : Sp Try.prog 51 [ints L] (.b (decide (IsEx L))) := by
  refine spec_of Try.func51 rfl cc51 rfl ?_
  unfold ac51
  by_cases hc : 1 ≤ (L.length : Int) ∧ (L.length : Int) ≤ 12
  · have hd := areDifferent_spec L L.length hL (by omega)
    have e : decide (IsEx L) = decide ((∀ x ∈ L, 0 ≤ x ∧ x < (L.length : Int)) ∧ L.Nodup) := decide_eq_decide.2 ⟨fun he => he.2.2, fun he => ⟨by omega, by omega, he⟩⟩
    rw [e]
    repeat (first | (refine step_ops ?_; (first | (refine m_mov (by conv => lhs; whnf) ?_) | (refine m_len_ro rfl ?_))) | refine end_ops ?_ | refine seq_ops ?_)
    (refine step_ops ?_); (apply m_call (isGuestCount_spec _)); (· repeat (first | exact lends_nil | (refine lends_cons ?_ ?_; (· exact lend_v))))
    repeat (refine step_ops ?_; ((try (refine g_yes rfl ?_ ?_; (· first | rfl | assumption | (refine decide_eq_true ?_; first | assumption | omega) | (refine nt ?_; first | assumption | omega) | (simp [*]; done) | (refine decide_eq_false ?_; first | assumption | omega) | (refine nf ?_; first | assumption | omega)))); (first | (refine m_mov (by conv => lhs; whnf) ?_) | (refine m_len_ro rfl ?_))))
    (refine step_ops ?_); (refine g_yes rfl ?_ ?_; (· first | (first | rfl | assumption | (refine decide_eq_true ?_; first | assumption | omega) | (refine nt ?_; first | assumption | omega) | (simp [*]; done)) | (first | rfl | assumption | (refine decide_eq_false ?_; first | assumption | omega) | (refine nf ?_; first | assumption | omega) | (simp [*]; done))); (apply m_call (hd))); (· repeat (first | exact lends_nil | (refine lends_cons ?_ ?_; (· (first | exact lend_v | (refine lend_ints ?_; first | rfl | omega))))))
    repeat (first | (refine step_ops ?_; (first | (refine m_mov (by conv => lhs; whnf) ?_) | (refine m_pick_t rfl ?_ (by conv => lhs; whnf) ?_; (· first | rfl | assumption | (refine decide_eq_true ?_; first | assumption | omega) | (refine nt ?_; first | assumption | omega) | (simp [*]; done))))) | refine end_ops ?_ | refine AW_ret ?_ | refine ret_done ?_)
    exact outs_b rfl
  · repeat (first | (refine step_ops ?_; (first | (refine m_mov (by conv => lhs; whnf) ?_) | (refine m_len_ro rfl ?_))) | refine end_ops ?_ | refine seq_ops ?_)
    (refine step_ops ?_); (apply m_call (isGuestCount_spec _)); (· repeat (first | exact lends_nil | (refine lends_cons ?_ ?_; (· exact lend_v))))
    repeat (first | (refine step_ops ?_; (first | (first | (refine m_mov (by conv => lhs; whnf) ?_) | (refine m_pick_f rfl ?_ (by conv => lhs; whnf) ?_; (· first | rfl | assumption | (refine decide_eq_false ?_; first | assumption | omega) | (refine nf ?_; first | assumption | omega) | (simp [*]; done)))) | (refine g_noT rfl ?_ ?_; (· first | rfl | assumption | (refine decide_eq_false ?_; first | assumption | omega) | (refine nf ?_; first | assumption | omega) | (simp [*]; done))))) | refine end_ops ?_ | refine AW_ret ?_ | refine ret_done ?_)
    refine outs_b ?_
    symm
    exact decide_eq_false fun he => hc ⟨by have := he.1; omega, by have := he.2.1; omega⟩
theorem exGood_spec (L : List Int) (hL : L.length ≤ 1048576) : Sp Try.prog 47 [ints L] (.b (decide (IsEx L))) := by
  refine spec_of Try.func47 rfl cc47 rfl ?_
  unfold ac47
  by_cases hc : 1 ≤ (L.length : Int) ∧ (L.length : Int) ≤ 12
  · by_cases hall : ∀ x ∈ L, 0 ≤ x ∧ x ≤ (L.length : Int) - 1
    · repeat (first | (refine step_ops ?_; (first | (refine m_mov (by conv => lhs; whnf) ?_) | (refine m_len_ro rfl ?_))) | refine end_ops ?_ | refine seq_ops ?_ | refine AW_seq ?_)
      (refine step_ops ?_); (apply m_call (l1In_spec _ _ _)); (· repeat (first | exact lends_nil | (refine lends_cons ?_ ?_; (· exact lend_v))))
      repeat (refine step_ops ?_; ((try (refine g_yes rfl ?_ ?_; (· first | rfl | assumption | (refine decide_eq_true ?_; first | assumption | omega) | (refine nt ?_; first | assumption | omega) | (simp [*]; done) | (refine decide_eq_false ?_; first | assumption | omega) | (refine nf ?_; first | assumption | omega)))); (first | (refine m_mov (by conv => lhs; whnf) ?_) | (refine m_sub rfl rfl ?_ ?_ ?_; (· omega); (· omega)) | (refine m_not rfl ?_) | (refine m_len_ro rfl ?_))))
      (refine step_ops ?_); (refine g_yes rfl ?_ ?_; (· first | (first | rfl | assumption | (refine decide_eq_true ?_; first | assumption | omega) | (refine nt ?_; first | assumption | omega) | (simp [*]; done)) | (first | rfl | assumption | (refine decide_eq_false ?_; first | assumption | omega) | (refine nf ?_; first | assumption | omega) | (simp [*]; done))); (apply m_call (l1All_spec _ _ _ hL))); (· repeat (first | exact lends_nil | (refine lends_cons ?_ ?_; (· (first | exact lend_v | (refine lend_ints ?_; first | rfl | omega))))))
      repeat (first | (refine step_ops ?_; ((try (refine g_yes rfl ?_ ?_; (· first | rfl | assumption | (refine decide_eq_true ?_; first | assumption | omega) | (refine nt ?_; first | assumption | omega) | (simp [*]; done) | (refine decide_eq_false ?_; first | assumption | omega) | (refine nf ?_; first | assumption | omega)))); (first | (refine m_mov (by conv => lhs; whnf) ?_) | (refine m_not rfl ?_) | (refine m_len_ro rfl ?_) | (refine m_pick_f rfl ?_ (by conv => lhs; whnf) ?_; (· first | rfl | assumption | (refine decide_eq_false ?_; first | assumption | omega) | (refine nf ?_; first | assumption | omega) | (simp [*]; done)))))) | refine end_ops ?_ | refine seq_ops ?_ | (refine cond_f rfl ?_ ?_; (· first | rfl | assumption | (refine decide_eq_false ?_; first | assumption | omega) | (refine nf ?_; first | assumption | omega) | (simp [*]; done))) | refine skip_then ?_ | refine AW_seq ?_ | refine AW_block ?_)
      refine AW_loop (α := Nat) (fun k => k ≤ L.length ∧ (L.take k).Nodup) (fun k => st [(0, ints L), (17, ints L), (18, .i L.length), (19, .i k)] []) (fun k => L.length - k) 0 (by simp) (weak_st ?_ ?_ rfl rfl) ?_
      · (repeat' (first | exact trivial | refine And.intro ?_ ?_)) <;> (first | rfl | skip)
      · trivial
      rintro k ⟨hk, hn⟩
      by_cases h : k < L.length
      · have hlt : (L.take k).length ≤ 1048576 := by simp; omega
        by_cases hm : L.getD k 0 ∈ L.take k
        · repeat (first | (refine step_ops ?_; (first | (refine m_mov (by conv => lhs; whnf) ?_) | (refine m_lss rfl rfl ?_) | (refine m_idx1_ro rfl rfl ?_ ?_; (· omega)) | (refine m_ld_rpi rfl ?_ ?_; (· omega)) | (refine m_cut_hi rfl rfl ?_ ?_ ?_; (· first | rfl | omega | simp); (· first | omega | (simp; omega))))) | refine end_ops ?_ | refine seq_ops ?_ | (refine cond_t rfl ?_ ?_; (· first | rfl | assumption | (refine decide_eq_true ?_; first | assumption | omega) | (refine nt ?_; first | assumption | omega) | (simp [*]; done))) | refine skip_then ?_ | refine AW_seq ?_ | refine AW_block ?_)
          (refine step_ops ?_); (apply m_call (l1Has_spec _ _ hlt)); (· repeat (first | exact lends_nil | (refine lends_cons ?_ ?_; (· (first | exact lend_v | (refine lend_ints ?_; first | rfl | omega))))))
          repeat (first | (refine step_ops ?_; (refine m_mov (by conv => lhs; whnf) ?_)) | refine end_ops ?_ | refine seq_ops ?_ | (refine cond_t rfl ?_ ?_; (· first | rfl | assumption | (refine decide_eq_true ?_; first | assumption | omega) | (refine nt ?_; first | assumption | omega) | (simp [*]; done))) | refine AW_ret ?_ | refine ret_done ?_ | refine ret_then ?_ | refine ret_block ?_ | refine ret_round ?_)
          refine outs_b ?_
          symm
          exact decide_eq_false fun he => not_nodup h hm he.2.2.2
        · repeat (first | (refine step_ops ?_; (first | (refine m_mov (by conv => lhs; whnf) ?_) | (refine m_lss rfl rfl ?_) | (refine m_idx1_ro rfl rfl ?_ ?_; (· omega)) | (refine m_ld_rpi rfl ?_ ?_; (· omega)) | (refine m_cut_hi rfl rfl ?_ ?_ ?_; (· first | rfl | omega | simp); (· first | omega | (simp; omega))))) | refine end_ops ?_ | refine seq_ops ?_ | (refine cond_t rfl ?_ ?_; (· first | rfl | assumption | (refine decide_eq_true ?_; first | assumption | omega) | (refine nt ?_; first | assumption | omega) | (simp [*]; done))) | refine skip_then ?_ | refine AW_seq ?_ | refine AW_block ?_)
          (refine step_ops ?_); (apply m_call (l1Has_spec _ _ hlt)); (· repeat (first | exact lends_nil | (refine lends_cons ?_ ?_; (· (first | exact lend_v | (refine lend_ints ?_; first | rfl | omega))))))
          repeat (first | (refine step_ops ?_; (first | (refine m_mov (by conv => lhs; whnf) ?_) | (refine m_add rfl rfl ?_ ?_ ?_; (· omega); (· omega)))) | refine end_ops ?_ | refine AW_ops ?_ | (refine cond_f rfl ?_ ?_; (· first | rfl | assumption | (refine decide_eq_false ?_; first | assumption | omega) | (refine nf ?_; first | assumption | omega) | (simp [*]; done))) | refine norm_then ?_ | refine norm_block ?_ | refine AW_skip ?_)
          refine next_round (k + 1) ⟨by omega, nodup_snoc h hn hm⟩ (weak_st ?_ ?_ rfl rfl) ?_
          · (repeat' (first | exact trivial | refine And.intro ?_ ?_)) <;> (first | rfl | skip)
          · trivial
          · omega
      · repeat (first | (refine step_ops ?_; (first | (refine m_mov (by conv => lhs; whnf) ?_) | (refine m_lss rfl rfl ?_))) | refine end_ops ?_ | refine seq_ops ?_ | (refine cond_f rfl ?_ ?_; (· first | rfl | assumption | (refine decide_eq_false ?_; first | assumption | omega) | (refine nf ?_; first | assumption | omega) | (simp [*]; done))) | refine AW_seq ?_ | refine AW_ret ?_ | refine ret_done ?_ | refine norm_then ?_ | refine exit_then ?_ | refine exit_round ?_ | refine AW_exit ?_ | refine exit_block ?_)
        refine outs_b ?_
        symm
        rw [List.take_of_length_le (by omega)] at hn
        exact decide_eq_true ⟨by omega, by omega, fun x hx => ⟨(hall x hx).1, by have := (hall x hx).2; omega⟩, hn⟩
    · repeat (first | (refine step_ops ?_; (first | (refine m_mov (by conv => lhs; whnf) ?_) | (refine m_len_ro rfl ?_))) | refine end_ops ?_ | refine seq_ops ?_ | refine AW_seq ?_)
      (refine step_ops ?_); (apply m_call (l1In_spec _ _ _)); (· repeat (first | exact lends_nil | (refine lends_cons ?_ ?_; (· exact lend_v))))
      repeat (refine step_ops ?_; ((try (refine g_yes rfl ?_ ?_; (· first | rfl | assumption | (refine decide_eq_true ?_; first | assumption | omega) | (refine nt ?_; first | assumption | omega) | (simp [*]; done) | (refine decide_eq_false ?_; first | assumption | omega) | (refine nf ?_; first | assumption | omega)))); (first | (refine m_mov (by conv => lhs; whnf) ?_) | (refine m_sub rfl rfl ?_ ?_ ?_; (· omega); (· omega)) | (refine m_not rfl ?_) | (refine m_len_ro rfl ?_))))
      (refine step_ops ?_); (refine g_yes rfl ?_ ?_; (· first | (first | rfl | assumption | (refine decide_eq_true ?_; first | assumption | omega) | (refine nt ?_; first | assumption | omega) | (simp [*]; done)) | (first | rfl | assumption | (refine decide_eq_false ?_; first | assumption | omega) | (refine nf ?_; first | assumption | omega) | (simp [*]; done))); (apply m_call (l1All_spec _ _ _ hL))); (· repeat (first | exact lends_nil | (refine lends_cons ?_ ?_; (· (first | exact lend_v | (refine lend_ints ?_; first | rfl | omega))))))
      repeat (first | (refine step_ops ?_; ((try (refine g_yes rfl ?_ ?_; (· first | rfl | assumption | (refine decide_eq_true ?_; first | assumption | omega) | (refine nt ?_; first | assumption | omega) | (simp [*]; done) | (refine decide_eq_false ?_; first | assumption | omega) | (refine nf ?_; first | assumption | omega)))); (first | (refine m_mov (by conv => lhs; whnf) ?_) | (refine m_not rfl ?_) | (refine m_pick_f rfl ?_ (by conv => lhs; whnf) ?_; (· first | rfl | assumption | (refine decide_eq_false ?_; first | assumption | omega) | (refine nf ?_; first | assumption | omega) | (simp [*]; done)))))) | refine end_ops ?_ | refine seq_ops ?_ | (refine cond_t rfl ?_ ?_; (· first | rfl | assumption | (refine decide_eq_true ?_; first | assumption | omega) | (refine nt ?_; first | assumption | omega) | (simp [*]; done))) | refine AW_ret ?_ | refine ret_done ?_ | refine ret_then ?_)
      refine outs_b ?_
      symm
      exact decide_eq_false fun he => hall fun x hx => ⟨(he.2.2.1 x hx).1, by have := (he.2.2.1 x hx).2; omega⟩
  · repeat (first | (refine step_ops ?_; (first | (refine m_mov (by conv => lhs; whnf) ?_) | (refine m_len_ro rfl ?_))) | refine end_ops ?_ | refine seq_ops ?_ | refine AW_seq ?_)
    (refine step_ops ?_); (apply m_call (l1In_spec _ _ _)); (· repeat (first | exact lends_nil | (refine lends_cons ?_ ?_; (· exact lend_v))))
    repeat (first | (refine step_ops ?_; (first | (first | (refine m_mov (by conv => lhs; whnf) ?_) | (refine m_not rfl ?_) | (refine m_pick_t rfl ?_ (by conv => lhs; whnf) ?_; (· first | rfl | assumption | (refine decide_eq_true ?_; first | assumption | omega) | (refine nt ?_; first | assumption | omega) | (simp [*]; done)))) | (refine g_noF rfl ?_ ?_; (· first | rfl | assumption | (refine decide_eq_true ?_; first | assumption | omega) | (refine nt ?_; first | assumption | omega) | (simp [*]; done))))) | refine end_ops ?_ | refine seq_ops ?_ | (refine cond_t rfl ?_ ?_; (· first | rfl | assumption | (refine decide_eq_true ?_; first | assumption | omega) | (refine nt ?_; first | assumption | omega) | (simp [*]; done))) | refine AW_ret ?_ | refine ret_done ?_ | refine ret_then ?_)
    refine outs_b ?_
    symm
    exact decide_eq_false fun he => hc ⟨by have := he.1; omega, by have := he.2.1; omega⟩
end Go.Proofs.Yteiipnadhalnbaa
namespace Go.Proofs.Yteiipnadhalnbaa
open Go.Am
attribute [local irreducible] AW Outs Weak Lends Lend Sp aops atree aop1 Then Round InBlock Done
theorem pzGuests_spec (g : Int) : Sp Try.prog 42 [.i g] (.b (decide (PzN g))) := by
  refine spec_of Try.func42 rfl cc42 rfl ?_
  unfold ac42
  repeat (first | (refine step_ops ?_; (refine m_mov (by conv => lhs; whnf) ?_)) | refine end_ops ?_ | refine seq_ops ?_)
  (refine step_ops ?_); (apply m_call (l1In_spec _ _ _)); (· repeat (first | exact lends_nil | (refine lends_cons ?_ ?_; (· exact lend_v))))
  repeat (first | (refine step_ops ?_; (refine m_mov (by conv => lhs; whnf) ?_)) | refine end_ops ?_ | refine AW_ret ?_ | refine ret_done ?_)
  exact outs_b rfl
theorem m_ldClu {P : Program} {own : Bool} {s : AS} {K : AS → Prop} {d : Option Nat} {x : Opd} {C : List Clu} {k : Nat} {c1 c2 c3 : Int} (h : k < C.length) (e : C.getD k (0, 0, 0) = (c1, c2, c3)) (hx : s.ev x = .rp ((cls C).drop (((k : Nat) : Int).toNat * 3))) (kk : K (s.put d (.agg [.i c1, .i c2, .i c3]))) : aop1 P own ⟨d, .ld (some 3) x, none⟩ s K := by
  rw [Int.toNat_natCast] at hx
  refine m_ldk_rp hx ?_ ?_
  · rw [List.length_drop, cls_len]; omega
  · rw [cls_at h, e]; exact kk
end Go.Proofs.Yteiipnadhalnbaa
namespace Go.Am
def cap : Nat → Int
  | 0 => 479001600
  | s + 1 => 2 * cap s
end Go.Am
namespace Go.Am
/-- How many numbers below n are told. -/
def cnt (p : Nat → Bool) : Nat → Nat
  | 0 => 0
  | n + 1 => cnt p n + if p n then 1 else 0
theorem cnt_congr {p q : Nat → Bool} {n : Nat} (h : ∀ k < n, p k = q k) : cnt p n = cnt q n := by
  induction n with
  | zero => rfl
  | succ n ih => simp only [cnt]; rw [ih fun k hk => h k (by omega), h n (by omega)]
theorem cnt_drop {p q : Nat → Bool} {n c : Nat} (hc : c < n) (hp : p c = true) (hq : q c = false) (h : ∀ k < n, k ≠ c → p k = q k) : cnt q n + 1 = cnt p n := by
  induction n with
  | zero => omega
  | succ n ih =>
    simp only [cnt]
    by_cases e : c = n
    · subst e
      rw [hp, hq, cnt_congr (p := q) (q := p) fun k hk => (h k (by omega) (by omega)).symm]
      simp
    · have := ih (by omega) fun k hk hkc => h k (by omega) hkc
      rw [h n (by omega) (by omega)]
      omega
/-- How many of the numbers a, a + 1, .., k of them, are not in a list. -/
def freeTo (M : List Int) (a k : Nat) : Nat := cnt (fun n => decide (((a + n : Nat) : Int) ∉ M)) k
theorem freeTo_in (M : List Int) (a k x : Nat) (h : a ≤ x) (h2 : x < a + k) (hx : (x : Int) ∉ M) : freeTo (M ++ [(x : Int)]) a k + 1 = freeTo M a k := by
  refine cnt_drop (c := x - a) (by omega) ?_ ?_ fun n hn hne => ?_
  · have e : a + (x - a) = x := by omega
    rw [e]; exact decide_eq_true hx
  · have e : a + (x - a) = x := by omega
    rw [e]; refine decide_eq_false ?_; simp
  · have : ¬ ((a + n : Nat) : Int) = (x : Int) := by omega
    simp only [List.mem_append, List.mem_singleton, this, or_false]
/-- Numbers below g, each once. -/
def Part (M : List Int) (g : Nat) : Prop := (∀ x ∈ M, 0 ≤ x ∧ x < g) ∧ M.Nodup
theorem freeTo_part (M : List Int) (g : Nat) (h : Part M g) : freeTo M 0 g + M.length = g := by
  suffices hh : ∀ (n : Nat) (M : List Int), M.length = n → Part M g → freeTo M 0 g + M.length = g from hh _ M rfl h
  intro n
  induction n with
  | zero =>
    intro M hM _
    have : M = [] := List.eq_nil_of_length_eq_zero hM
    subst this
    have : freeTo [] 0 g = g := by
      unfold freeTo
      clear h
      induction g with
      | zero => rfl
      | succ g ih => simp only [cnt]; rw [ih ⟨by simp, by simp⟩]; simp
    simp [this]
  | succ n ih =>
    intro M hM hp
    have hne : M ≠ [] := fun e => by rw [e] at hM; simp at hM
    have e := List.dropLast_concat_getLast hne
    have hg := hp.1 _ (List.getLast_mem hne)
    obtain ⟨x, hx⟩ := Int.eq_ofNat_of_zero_le hg.1
    rw [hx] at e hg
    have hl : M.dropLast.length = n := by simp [hM]
    have hnd : (M.dropLast ++ [(x : Int)]).Nodup := by rw [e]; exact hp.2
    have hxn : (x : Int) ∉ M.dropLast := by
      rw [List.nodup_append] at hnd
      exact fun hm => hnd.2.2 _ hm _ (List.mem_singleton.2 rfl) rfl
    have hp' : Part M.dropLast g := ⟨fun y hy => hp.1 y (List.dropLast_subset _ hy), (List.nodup_append.1 hnd).1⟩
    have h1 := ih M.dropLast hl hp'
    have h2 := freeTo_in M.dropLast 0 g x (by omega) (by omega) hxn
    rw [e] at h2
    omega
/-- May the guest i behind those of M take x? -/
def MayTake (M : List Int) (i x : Nat) : Prop := x ≠ i ∧ (x : Int) ∉ M
instance (M : List Int) (i x : Nat) : Decidable (MayTake M i x) := inferInstanceAs (Decidable (_ ∧ _))
end Go.Am
namespace Go.Am
/-- A list with each number below its length once. -/
def IsPm (L : List Int) : Prop := (∀ x ∈ L, 0 ≤ x ∧ x < L.length) ∧ L.Nodup
/-- The next one, and the one behind k steps. -/
def nx (L : List Int) (j : Nat) : Nat := (L.getD j 0).toNat
def it (L : List Int) : Nat → Nat → Nat
  | 0, i => i
  | k + 1, i => nx L (it L k i)
theorem nx_lt {L : List Int} (h : IsPm L) {j : Nat} (hj : j < L.length) : nx L j < L.length ∧ L.getD j 0 = (nx L j : Int) := by
  have h1 : L.getD j 0 ∈ L := by simp [hj]
  have := h.1 _ h1
  unfold nx
  omega
theorem nx_inj {L : List Int} (h : IsPm L) {i j : Nat} (hi : i < L.length) (hj : j < L.length) (e : nx L i = nx L j) : i = j := by
  have h1 := (nx_lt h hi).2
  have h2 := (nx_lt h hj).2
  rw [e, ← h2] at h1
  have e1 : L[i]? = L[j]? := by
    rw [List.getElem?_eq_getElem hi, List.getElem?_eq_getElem hj]
    simpa [hi, hj] using h1
  exact (List.getElem?_inj hi h.2).1 e1
theorem it_lt {L : List Int} (h : IsPm L) {i : Nat} (hi : i < L.length) (k : Nat) : it L k i < L.length := by
  induction k with
  | zero => exact hi
  | succ k ih => exact (nx_lt h ih).1
theorem it_add (L : List Int) (a b i : Nat) : it L (a + b) i = it L a (it L b i) := by
  induction a with
  | zero => rw [Nat.zero_add]; rfl
  | succ a ih => rw [Nat.succ_add]; simp only [it]; rw [ih]
theorem it_inj {L : List Int} (h : IsPm L) (a : Nat) {i j : Nat} (hi : i < L.length) (hj : j < L.length) (e : it L a i = it L a j) : i = j := by
  induction a with
  | zero => exact e
  | succ a ih => exact ih (nx_inj h (it_lt h hi a) (it_lt h hj a) e)
/-- The length of the chain. -/
def perA (L : List Int) (i : Nat) : Nat → Nat → Nat
  | 0, k => k
  | f + 1, k => if it L k i = i then k else perA L i f (k + 1)
def per (L : List Int) (i : Nat) : Nat := perA L i L.length 1
theorem perA_spec {L : List Int} {i : Nat} {f k m : Nat} (hm : m = k + f) (hex : ∃ q, k ≤ q ∧ q < m ∧ it L q i = i) : (∀ q, k ≤ q → q < perA L i f k → it L q i ≠ i) ∧ it L (perA L i f k) i = i ∧ k ≤ perA L i f k ∧ perA L i f k < m := by
  induction f generalizing k with
  | zero => obtain ⟨q, h1, h2, _⟩ := hex; omega
  | succ f ih =>
    simp only [perA]
    by_cases e : it L k i = i
    · rw [if_pos e]
      exact ⟨fun q h1 h2 => by omega, e, Nat.le_refl _, by omega⟩
    · rw [if_neg e]
      obtain ⟨q, h1, h2, h3⟩ := hex
      have hq : k + 1 ≤ q := by
        rcases Nat.lt_or_ge k q with h4 | h4
        · exact h4
        · have : q = k := by omega
          rw [this] at h3; exact absurd h3 e
      obtain ⟨h4, h5, h6, h7⟩ := ih (k := k + 1) (by omega) ⟨q, hq, h2, h3⟩
      refine ⟨fun q h8 h9 => ?_, h5, by omega, h7⟩
      rcases Nat.lt_or_ge k q with h10 | h10
      · exact h4 q (by omega) h9
      · have : q = k := by omega
        rw [this]; exact e
theorem per_ex {L : List Int} (h : IsPm L) {i : Nat} (hi : i < L.length) : ∃ q, 1 ≤ q ∧ q < 1 + L.length ∧ it L q i = i := by
  refine Classical.byContradiction fun hno => ?_
  have hne : ∀ q, 1 ≤ q → q < 1 + L.length → it L q i ≠ i := fun q h1 h2 h3 => hno ⟨q, h1, h2, h3⟩
  have hdist : ∀ a b, a < b → b ≤ L.length → it L a i ≠ it L b i := by
    intro a b hab hb e
    have e2 : b = a + (b - a) := by omega
    rw [e2, it_add] at e
    exact hne (b - a) (by omega) (by omega) (it_inj h a hi (it_lt h hi _) e).symm
  have hpart : Part ((List.range (L.length + 1)).map fun k => ((it L k i : Nat) : Int)) L.length := by
    refine ⟨fun x hx => ?_, ?_⟩
    · rw [List.mem_map] at hx
      obtain ⟨k, _, rfl⟩ := hx
      have := it_lt h hi k
      omega
    · rw [List.Nodup, List.pairwise_map]
      refine List.Pairwise.imp_of_mem ?_ (List.pairwise_lt_range (n := L.length + 1))
      intro a b ha hb hab e
      rw [List.mem_range] at hb
      exact hdist a b hab (by omega) (by omega)
  have := freeTo_part _ _ hpart
  simp at this
  omega
theorem per_spec {L : List Int} (h : IsPm L) {i : Nat} (hi : i < L.length) : 1 ≤ per L i ∧ per L i ≤ L.length ∧ it L (per L i) i = i ∧ ∀ q, 1 ≤ q → q < per L i → it L q i ≠ i := by
  obtain ⟨h1, h2, h3, h4⟩ := perA_spec (f := L.length) (k := 1) rfl (per_ex h hi)
  exact ⟨h3, by unfold per; omega, h2, h1⟩
theorem per_dist {L : List Int} (h : IsPm L) {i : Nat} (hi : i < L.length) {a b : Nat} (hab : a < b) (hb : b < per L i) : it L a i ≠ it L b i := by
  intro e
  have e2 : b = a + (b - a) := by omega
  rw [e2, it_add] at e
  exact (per_spec h hi).2.2.2 (b - a) (by omega) (by omega) (it_inj h a hi (it_lt h hi _) e).symm
theorem it_mul {L : List Int} (h : IsPm L) {i : Nat} (hi : i < L.length) (c : Nat) : it L (per L i * c) i = i := by
  induction c with
  | zero => rfl
  | succ c ih => rw [Nat.mul_succ, it_add, (per_spec h hi).2.2.1, ih]
theorem it_mod {L : List Int} (h : IsPm L) {i : Nat} (hi : i < L.length) (k : Nat) : it L k i = it L (k % per L i) i := by
  have := it_mul h hi (k / per L i)
  conv => lhs; rw [← Nat.mod_add_div k (per L i), it_add, this]
/-- Is j on the chain of m? -/
def onC (L : List Int) (m j : Nat) : Prop := ∃ k, it L k m = j
theorem onC_lt {L : List Int} (h : IsPm L) {m j : Nat} (hm : m < L.length) : onC L m j ↔ ∃ k, k < per L m ∧ it L k m = j := by
  constructor
  · rintro ⟨k, hk⟩
    exact ⟨k % per L m, Nat.mod_lt _ (per_spec h hm).1, by rw [← it_mod h hm]; exact hk⟩
  · rintro ⟨k, _, hk⟩
    exact ⟨k, hk⟩
theorem onC_symm {L : List Int} (h : IsPm L) {m j : Nat} (hm : m < L.length) (ho : onC L m j) : onC L j m := by
  obtain ⟨k, rfl⟩ := ho
  refine ⟨per L m * k - k, ?_⟩
  rw [← it_add]
  have : k ≤ per L m * k := Nat.le_mul_of_pos_left k (per_spec h hm).1
  rw [Nat.sub_add_cancel this, it_mul h hm]
theorem onC_trans {L : List Int} {a b c : Nat} (h1 : onC L a b) (h2 : onC L b c) : onC L a c := by
  obtain ⟨k, rfl⟩ := h1
  obtain ⟨l, rfl⟩ := h2
  exact ⟨l + k, it_add L l k a⟩
/-- Is j on a chain of one of the first i? -/
def seenB (L : List Int) (i j : Nat) : Bool := (List.range i).any fun m => (List.range L.length).any fun k => it L k m == j
theorem seenB_iff {L : List Int} (h : IsPm L) {i j : Nat} (hi : i ≤ L.length) : seenB L i j = true ↔ ∃ m, m < i ∧ onC L m j := by
  unfold seenB
  simp only [List.any_eq_true, List.mem_range, beq_iff_eq]
  constructor
  · rintro ⟨m, hm, k, _, hk⟩
    exact ⟨m, hm, k, hk⟩
  · rintro ⟨m, hm, ho⟩
    obtain ⟨k, hk, he⟩ := (onC_lt h (by omega)).1 ho
    exact ⟨m, hm, k, by have := (per_spec h (show m < L.length by omega)).2.1; omega, he⟩
/-- The first k of a chain, asx numbers. -/
def chT (L : List Int) (i k : Nat) : List Int := (List.range k).map fun a => ((it L a i : Nat) : Int)
theorem chT_len (L : List Int) (i k : Nat) : (chT L i k).length = k := by simp [chT]
theorem chT_succ (L : List Int) (i k : Nat) : chT L i (k + 1) = chT L i k ++ [((it L k i : Nat) : Int)] := by simp [chT, List.range_succ]
/-- The whole chain. -/
def chn (L : List Int) (i : Nat) : List Int := chT L i (per L i)
/-- The chains that begin with one of the first i. -/
def chsTo (L : List Int) : Nat → List (List Int)
  | 0 => []
  | i + 1 => if seenB L i i then chsTo L i else chsTo L i ++ [chn L i]
theorem chsTo_len (L : List Int) (i : Nat) : (chsTo L i).length ≤ i := by
  induction i with
  | zero => simp [chsTo]
  | succ i ih =>
    simp only [chsTo]
    split
    · omega
    · rw [List.length_append, List.length_singleton]; omega
def chs (L : List Int) : List (List Int) := chsTo L L.length
/-- Marked: all on chains of the first i, and the first k on the chain of i. -/
def seenK (L : List Int) (i k n : Nat) : List Bool := (List.range n).map fun j => seenB L i j || (List.range k).any fun a => it L a i == j
theorem seenK_len (L : List Int) (i k n : Nat) : (seenK L i k n).length = n := by simp [seenK]
theorem seenK_get (L : List Int) (i k n : Nat) {j : Nat} (hj : j < n) : (seenK L i k n)[j]? = some (seenB L i j || (List.range k).any fun a => it L a i == j) := by simp [seenK, hj]
theorem seenK_set (L : List Int) (i k n : Nat) (h : it L k i < n) : (seenK L i k n).set (it L k i) true = seenK L i (k + 1) n := by
  apply List.ext_getElem?
  intro j
  rw [List.getElem?_set]
  by_cases hj : j < n
  · rw [seenK_get _ _ _ _ hj, seenK_get _ _ _ _ hj, seenK_len, List.range_succ, List.any_append]
    by_cases e : it L k i = j
    · subst e; simp [h]
    · have e' : (it L k i == j) = false := by simpa using e
      simp [e, e']
  · by_cases e : it L k i = j
    · omega
    · simp [seenK, hj, e]
theorem seenK_zero (L : List Int) (i n : Nat) : seenK L i 0 n = (List.range n).map fun j => seenB L i j := by simp [seenK]
theorem seenK_all {L : List Int} (h : IsPm L) {i n : Nat} (hi : i < L.length) : seenK L i (per L i) n = seenK L (i + 1) 0 n := by
  rw [seenK_zero]
  unfold seenK
  refine List.map_congr_left fun j _ => ?_
  rw [Bool.eq_iff_iff, Bool.or_eq_true, seenB_iff h (by omega), seenB_iff h (by omega)]
  simp only [List.any_eq_true, List.mem_range, beq_iff_eq]
  rw [← onC_lt h hi]
  constructor
  · rintro (⟨m, h1, h2⟩ | h1)
    · exact ⟨m, by omega, h2⟩
    · exact ⟨i, by omega, h1⟩
  · rintro ⟨m, h1, h2⟩
    by_cases e : m = i
    · exact .inr (e ▸ h2)
    · exact .inl ⟨m, by omega, h2⟩
theorem seenK_skip {L : List Int} (h : IsPm L) {i n : Nat} (hi : i < L.length) (hs : seenB L i i = true) : seenK L i 0 n = seenK L (i + 1) 0 n := by
  rw [seenK_zero, seenK_zero]
  refine List.map_congr_left fun j _ => ?_
  rw [Bool.eq_iff_iff, seenB_iff h (by omega), seenB_iff h (by omega)]
  obtain ⟨m, h1, h2⟩ := (seenB_iff h (by omega)).1 hs
  constructor
  · rintro ⟨m, h1, h2⟩
    exact ⟨m, by omega, h2⟩
  · rintro ⟨q, h3, h4⟩
    by_cases e : q = i
    · exact ⟨m, h1, onC_trans h2 (e ▸ h4)⟩
    · exact ⟨q, by omega, h4⟩
/-- On the way along a chain that is new nothing is marked, up to its end. -/
theorem seenK_not {L : List Int} (h : IsPm L) {i n k : Nat} (hi : i < L.length) (hs : seenB L i i = false) (hk : k < per L i) (hn : L.length ≤ n) : (seenK L i k n)[it L k i]? = some false := by
  have hlt := it_lt h hi k
  rw [seenK_get _ _ _ _ (by omega)]
  congr 1
  rw [Bool.or_eq_false_iff]
  constructor
  · rw [Bool.eq_false_iff]
    intro hh
    obtain ⟨m, h1, h2⟩ := (seenB_iff h (by omega)).1 hh
    have : seenB L i i = true := (seenB_iff h (by omega)).2 ⟨m, h1, onC_trans h2 (onC_symm h hi ⟨k, rfl⟩)⟩
    rw [hs] at this; cases this
  · rw [Bool.eq_false_iff]
    intro hh
    simp only [List.any_eq_true, List.mem_range, beq_iff_eq] at hh
    obtain ⟨a, h1, h2⟩ := hh
    exact per_dist h hi h1 hk h2
theorem seenK_end {L : List Int} (h : IsPm L) {i n : Nat} (hi : i < L.length) (hn : L.length ≤ n) : (seenK L i (per L i) n)[it L (per L i) i]? = some true := by
  have hp := per_spec h hi
  have hlt := it_lt h hi (per L i)
  rw [seenK_get _ _ _ _ (by omega)]
  congr 1
  rw [Bool.or_eq_true]
  right
  simp only [List.any_eq_true, List.mem_range, beq_iff_eq]
  exact ⟨0, hp.1, by rw [hp.2.2.1]; rfl⟩
end Go.Am
namespace Go.Proofs.Yteiipnadhalnbaa
open Go.Am
attribute [local irreducible] AW Outs Weak Lends Lend Sp aops atree aop1 Then Round InBlock Done
attribute [local irreducible] SpH DoneH
theorem ex_pm {L : List Int} (h : IsEx L) : IsPm L := ⟨h.2.2.1, h.2.2.2⟩
theorem exChains_spec (L : List Int) (h : IsEx L) : SpH Try.prog 49 [ints L] (fun _ => none) (.sl nbase 1 0 (chs L).length) (matO (chs L)) := by
  have hp := ex_pm h
  have h12 := h.2.1
  have hpb : pbase = 4000000 := rfl
  refine specH_of Try.func49 rfl cc49 rfl (by first | exact static_mat1 _ | exact static_mat2 _ _ | assumption) ?_
  unfold ac49
  repeat (first | (refine step_ops ?_; (first | (refine m_mov (by conv => lhs; whnf) ?_) | (refine m_len_ro rfl ?_) | (refine m_nils ?_))) | refine end_ops ?_ | refine seq_ops ?_)
  refine step_ops ?_
  refine m_mk rfl rfl (by omega) (by omega) ?_
  repeat (first | (refine step_ops ?_; (first | (refine m_mov (by conv => lhs; whnf) ?_) | (refine m_len_ro rfl ?_) | (refine m_nils ?_))) | refine end_ops ?_ | refine seq_ops ?_ | refine AW_seq ?_ | refine AW_block ?_)
  refine AW_loop (α := Nat) (fun i => i ≤ L.length) (fun i => stM [(0, ints L), (3, .sl 10 1 0 L.length), (4, .sl 4 1 0 (chsTo L i).length), (11, ints L), (12, .i L.length), (13, .i i)] [(10, (true, (seenK L i 0 L.length).map AV.b))] 4 1000 (chsTo L i)) (fun i => L.length - i) 0 (by omega)
    (weak_keep id ?_ ?_ rfl rfl rfl (.inl (by simp [chsTo, pbase])) rfl rfl rfl (.inr ⟨rfl, rfl⟩) (fun j hj => by simp [chsTo] at hj)) ?_
  · (repeat' (first | exact trivial | refine And.intro ?_ ?_)) <;> (first | rfl | skip)
  · refine ⟨?_, trivial⟩
    show some (true, (List.replicate L.length (List.map AV.v [Value.bool false])).flatten) = some (true, (seenK L 0 0 L.length).map AV.b)
    have : seenK L 0 0 L.length = List.replicate L.length false := by
      rw [seenK_zero]
      apply List.ext_getElem?
      intro j
      by_cases hj : j < L.length
      · simp [hj, seenB]
      · simp [hj]
    rw [this]
    simp
  intro i hi
  have hcl := chsTo_len L i
  have hrl := rowsC_len 1000 (chsTo L i)
  by_cases hc : i < L.length
  · have hget : (seenK L i 0 L.length)[i]? = some (seenB L i i) := by rw [seenK_get _ _ _ _ hc]; simp
    by_cases hs : seenB L i i = true
    · have e : chsTo L (i + 1) = chsTo L i := by simp only [chsTo, hs, if_true]
      rw [hs] at hget
      repeat (first | (refine step_ops ?_; (first | (refine m_mov (by conv => lhs; whnf) ?_) | (refine m_lss rfl rfl ?_) | (refine m_add rfl rfl ?_ ?_ ?_; (· omega); (· omega)) | (refine m_idx1_sl rfl rfl ?_ ?_; (· omega)) | (apply m_ld_ptb; (· rfl); (· rfl); (· assumption)))) | refine end_ops ?_ | refine seq_ops ?_ | refine AW_ops ?_ | (refine cond_t rfl ?_ ?_; (· first | rfl | assumption | (refine decide_eq_true ?_; first | assumption | omega) | (refine nt ?_; first | assumption | omega) | (simp [*]; done))) | refine skip_then ?_ | refine AW_seq ?_ | refine norm_then ?_ | refine exit_then ?_ | refine AW_block ?_ | refine AW_exit ?_ | refine exit_block ?_)
      refine next_round (i + 1) (by omega) (weak_keep id ?_ ?_ rfl rfl rfl (.inl (by rw [e]; omega)) rfl rfl rfl (.inl ⟨rfl, by rw [e]⟩) ?_) ?_
      · rw [e]
        (repeat' (first | exact trivial | refine And.intro ?_ ?_)) <;> (first | rfl | skip)
      · rw [← seenK_skip hp hc hs]
        (repeat' (first | exact trivial | refine And.intro ?_ ?_)) <;> (first | rfl | skip)
      · rw [e]
        (intro j hj; simp (disch := first | omega | assumption) only [hp_put]; first | exact stM_row rfl hj | (rw [stM_row rfl hj]; rfl))
      · omega
    · have hs' : seenB L i i = false := by simpa using hs
      have e : chsTo L (i + 1) = chsTo L i ++ [chn L i] := by simp only [chsTo, hs', Bool.false_eq_true, if_false]
      have hper := per_spec hp hc
      rw [hs'] at hget
      repeat (first | (refine step_ops ?_; (first | (refine m_mov (by conv => lhs; whnf) ?_) | (refine m_lss rfl rfl ?_) | (refine m_idx1_sl rfl rfl ?_ ?_; (· omega)) | (apply m_ld_ptb; (· rfl); (· rfl); (· assumption)) | (refine m_nils ?_))) | refine end_ops ?_ | refine seq_ops ?_ | (refine cond_t rfl ?_ ?_; (· first | rfl | assumption | (refine decide_eq_true ?_; first | assumption | omega) | (refine nt ?_; first | assumption | omega) | (simp [*]; done))) | (refine cond_f rfl ?_ ?_; (· first | rfl | assumption | (refine decide_eq_false ?_; first | assumption | omega) | (refine nf ?_; first | assumption | omega) | (simp [*]; done))) | refine skip_then ?_ | refine AW_seq ?_ | refine AW_block ?_)
      refine AW_loop (α := Nat) (fun k => k ≤ per L i) (fun k => stM [(0, ints L), (3, .sl 10 1 0 L.length), (4, .sl 4 1 0 (chsTo L i).length), (6, .sl 6 1 0 (chT L i k).length), (7, .i (it L k i)), (11, ints L), (12, .i L.length), (13, .i i)] [(10, (true, (seenK L i k L.length).map AV.b)), (6, (true, (chT L i k).map AV.i))] 4 1000 (chsTo L i)) (fun k => per L i - k) 0 (by omega)
        (weak_keep id ?_ ?_ rfl rfl rfl (.inl (by omega)) rfl rfl rfl (.inl ⟨rfl, ?_⟩) ?_) ?_
      · (repeat' (first | exact trivial | refine And.intro ?_ ?_)) <;> (first | rfl | skip)
      · (repeat' (first | exact trivial | refine And.intro ?_ ?_)) <;> (first | rfl | skip)
      · simp [rowsC_kill]
      · (intro j hj; simp (disch := first | omega | assumption) only [hp_put, hp_mem_ne, hp_kill_ne]; first | exact stM_row rfl hj | (rw [stM_row rfl hj]; rfl))
      intro k hk
      have hcT := chT_len L i k
      have hlt := it_lt hp hc k
      have hnx := nx_lt hp hlt
      by_cases hck : k < per L i
      · have hget := seenK_not hp hc hs' hck (Nat.le_refl L.length)
        have hsl := seenK_len L i k L.length
        repeat (first | (refine step_ops ?_; (first | (refine m_mov (by conv => lhs; whnf) ?_) | (refine m_not rfl ?_) | (refine m_idx1_ro rfl rfl ?_ ?_; (· omega)) | (refine m_idx1_sl rfl rfl ?_ ?_; (· omega)) | (refine m_ld_rpi rfl ?_ ?_; (· omega)) | (apply m_ld_ptb; (· rfl); (· rfl); (· assumption)) | (apply m_st; (· rfl); (· rfl); (· rfl); (· first | omega | (simp; done) | (simp; omega)); (· rfl)) | (refine m_bsl1 rfl rfl ?_) | (refine m_app1i rfl (by decide) (by rfl) (by first | rfl | omega | (simp; done)) rfl rfl ?_ (by decide) ?_; (· first | omega | (simp; omega))))) | refine end_ops ?_ | refine seq_ops ?_ | refine AW_ops ?_ | (refine cond_t rfl ?_ ?_; (· first | rfl | assumption | (refine decide_eq_true ?_; first | assumption | omega) | (refine nt ?_; first | assumption | omega) | (simp [*]; done))) | refine skip_then ?_ | refine AW_seq ?_ | refine norm_then ?_ | refine AW_block ?_ | refine norm_block ?_)
        refine next_round (k + 1) (by omega) (weak_keep (fun r => if r = 6 then 36 else r) ?_ ?_ rfl rfl rfl (.inl (by omega)) rfl rfl rfl (.inl ⟨rfl, ?_⟩) ?_) ?_
        · rw [chT_succ]
          (repeat' (first | exact trivial | refine And.intro ?_ ?_)) <;> (first | rfl | skip)
          show AV.i (L.getD (it L k i) 0) = AV.i ((it L (k + 1) i : Nat) : Int)
          rw [hnx.2]; rfl
        · rw [chT_succ, ← seenK_set L i k L.length hlt]
          refine ⟨?_, rfl, trivial⟩
          show some (true, ((seenK L i k L.length).map AV.b).set (it L k i) (AV.b true)) = _
          rw [List.map_set]
        · simp [rowsC_kill]
        · (intro j hj; simp (disch := first | omega | assumption) only [hp_put, hp_mem_ne, hp_kill_ne]; first | exact stM_row rfl hj | (rw [stM_row rfl hj]; rfl))
        · omega
      · obtain rfl : k = per L i := by omega
        have hget := seenK_end hp hc (Nat.le_refl L.length)
        repeat (first | (refine step_ops ?_; (first | (refine m_mov (by conv => lhs; whnf) ?_) | (refine m_not rfl ?_) | (refine m_idx1_sl rfl rfl ?_ ?_; (· omega)) | (apply m_ld_ptb; (· rfl); (· rfl); (· assumption)))) | refine end_ops ?_ | refine seq_ops ?_ | refine AW_ops ?_ | (refine cond_f rfl ?_ ?_; (· first | rfl | assumption | (refine decide_eq_false ?_; first | assumption | omega) | (refine nf ?_; first | assumption | omega) | (simp [*]; done))) | refine AW_seq ?_ | refine norm_then ?_ | refine exit_then ?_ | refine exit_round ?_ | refine AW_exit ?_ | refine exit_block ?_)
        refine step_ops ?_
        refine m_bsl1d rfl rfl ?_
        refine step_ops ?_
        refine m_app1d rfl (by decide) rfl ?_ rfl rfl rfl ?_ (by decide) ?_
        · simp [rowsC_kill, rowsC_len]
        · omega
        repeat (first | (refine step_ops ?_; (first | (refine m_mov (by conv => lhs; whnf) ?_) | (refine m_add rfl rfl ?_ ?_ ?_; (· omega); (· omega)))) | refine end_ops ?_ | refine AW_ops ?_ | refine norm_then ?_ | refine norm_block ?_)
        refine next_round (i + 1) (by omega) ?_ ?_
        · rw [e, List.length_append]
          refine weak_push (fun r => if r = 4 then 40 else r) 6 ?_ ?_ rfl rfl rfl (by omega) rfl rfl (by decide) rfl rfl ?_ ?_ ?_
          · (repeat' (first | exact trivial | refine And.intro ?_ ?_)) <;> (first | rfl | skip)
          · rw [← seenK_all hp hc]
            (repeat' (first | exact trivial | refine And.intro ?_ ?_)) <;> (first | rfl | skip)
          · simp [rowsC_kill, killL_append, killL, chn]
            rfl
          · rfl
          · (intro j hj; simp (disch := first | omega | assumption) only [hp_put, hp_mem_ne, hp_kill_ne]; first | exact stM_row rfl hj | (rw [stM_row rfl hj]; rfl))
        · omega
  · repeat (first | (refine step_ops ?_; (first | (refine m_mov (by conv => lhs; whnf) ?_) | (refine m_lss rfl rfl ?_))) | refine end_ops ?_ | refine seq_ops ?_ | (refine cond_f rfl ?_ ?_; (· first | rfl | assumption | (refine decide_eq_false ?_; first | assumption | omega) | (refine nf ?_; first | assumption | omega) | (simp [*]; done))) | refine AW_seq ?_ | refine AW_ret ?_ | refine norm_then ?_ | refine exit_then ?_ | refine exit_round ?_ | refine AW_exit ?_ | refine exit_block ?_)
    obtain rfl : i = L.length := by omega
    refine ret_mat (r0 := 4) (b := 1000) (by omega) (by omega) (by show 1000 + (chsTo L L.length).length ≤ pbase; omega) rfl rfl ?_
    (intro j hj; simp (disch := first | omega | assumption) only [hp_put]; first | exact stM_row rfl hj | (rw [stM_row rfl hj]; rfl))
end Go.Proofs.Yteiipnadhalnbaa
namespace Go.Proofs.Yteiipnadhalnbaa
open Go.Am
attribute [local irreducible] AW Outs Weak Lends Lend Sp aops atree aop1 Then Round InBlock Done
attribute [local irreducible] SpM DoneM
/-- k, k+1, .. -/
def marks (k : Int) (n : Nat) : List Int := (List.range n).map fun (i : Nat) => k + i
theorem marks_len (k : Int) (n : Nat) : (marks k n).length = n := by simp [marks]
theorem marks_succ (k : Int) (n : Nat) : marks k (n + 1) = marks k n ++ [k + n] := by simp [marks, List.range_succ]
/-- A list whose first j numbers are marked. -/
def marked (L : List Int) (k : Int) (j : Nat) : List Int := marks k j ++ L.drop j
theorem marked_len (L : List Int) (k : Int) (j : Nat) (h : j ≤ L.length) : (marked L k j).length = L.length := by simp [marked, marks_len]; omega
theorem marked_zero (L : List Int) (k : Int) : marked L k 0 = L := by simp [marked, marks]
theorem marked_all (L : List Int) (k : Int) : marked L k L.length = marks k L.length := by simp [marked]
theorem marked_set (L : List Int) (k : Int) (j : Nat) (h : j < L.length) : (marked L k j).set j (k + j) = marked L k (j + 1) := by
  unfold marked
  rw [List.set_append_right _ _ (by rw [marks_len]; omega), marks_len, Nat.sub_self, List.drop_eq_getElem_cons h, List.set_cons_zero, marks_succ]
  simp
theorem markIntS_spec (L : List Int) (k : Int) (hL : L.length ≤ 1048576) (h0 : 0 ≤ k) (h1 : k ≤ 1099511627776) :
    SpM Try.prog 20 1 L.length (L.map AV.i) [.i k] (.i (k + L.length)) ((marks k L.length).map AV.i) := by
  refine specM_of Try.func20 rfl cc20 rfl (by first | exact allv_ints _ | exact txs_plain _ | exact cls_plain _) (by first | exact allv_ints _ | exact txs_plain _ | exact cls_plain _) rfl ?_
  unfold ac20
  repeat (first | (refine step_ops ?_; (first | (refine m_mov (by conv => lhs; whnf) ?_) | (refine m_lss rfl rfl ?_) | (refine m_add rfl rfl ?_ ?_ ?_; (· omega); (· omega)) | (refine m_adds rfl rfl ?_ ?_; (· first | omega | (simp; omega))) | (refine m_len_ro rfl ?_) | (refine m_len_sl rfl ?_) | (refine m_len_nil rfl ?_) | (refine m_idx1_ro rfl rfl ?_ ?_; (· omega)) | (refine m_idx1_sl rfl rfl ?_ ?_; (· omega)) | (apply m_idx1_slj; (· rfl); (· rfl); (· assumption); (· omega)) | (apply m_idx1_roj; (· rfl); (· rfl); (· assumption); (· omega)) | (refine m_idx_ro rfl rfl ?_ ?_ ?_; (· omega); (· omega)) | (refine m_idx_sl rfl rfl ?_ ?_ ?_; (· omega); (· omega)) | (apply m_st; (· rfl); (· rfl); (· rfl); (· first | omega | (simp; done) | (simp; omega)); (· rfl)) | (refine m_stall rfl rfl rfl ?_ ?_ ?_ ?_; (· first | rfl | (simp [*]; done)); (· first | rfl | (simp [*]; done)); (· first | rfl | (simp [cellOk, Value.oneCell']; done))))) | refine end_ops ?_ | refine seq_ops ?_ | refine AW_ops ?_ | (refine cond_t rfl ?_ ?_; (· first | rfl | assumption | (refine decide_eq_true ?_; first | assumption | omega) | (refine nt ?_; first | assumption | omega) | (simp [*]; done))) | (refine cond_f rfl ?_ ?_; (· first | rfl | assumption | (refine decide_eq_false ?_; first | assumption | omega) | (refine nf ?_; first | assumption | omega) | (simp [*]; done))) | refine skip_then ?_ | refine AW_seq ?_ | refine AW_ret ?_ | refine ret_done ?_ | refine norm_then ?_ | refine ret_then ?_ | refine exit_then ?_ | refine AW_block ?_ | refine norm_block ?_ | refine ret_block ?_ | refine ret_round ?_ | refine exit_round ?_ | refine AW_exit ?_ | refine exit_block ?_ | (refine exit_other ?_ ?_; (· decide)) | refine AW_skip ?_)
  refine AW_loop (α := Nat) (fun j => j ≤ L.length) (fun j => st [(0, .sl pbase 1 0 L.length), (1, .i (k + j)), (5, .i j)] [(pbase, (true, (marked L k j).map AV.i))]) (fun j => L.length - j) 0 (by omega) (weak_st ?_ ?_ rfl rfl) ?_
  · refine ⟨rfl, ?_, rfl, trivial⟩
    show AV.i k = AV.i (k + (0 : Nat))
    simp
  · refine ⟨?_, trivial⟩
    show some (true, L.map AV.i) = _
    rw [marked_zero]
  intro j hj
  by_cases h : j < L.length
  · repeat (first | (refine step_ops ?_; (first | (refine m_mov (by conv => lhs; whnf) ?_) | (refine m_lss rfl rfl ?_) | (refine m_add rfl rfl ?_ ?_ ?_; (· omega); (· omega)) | (refine m_adds rfl rfl ?_ ?_; (· first | omega | (simp; omega))) | (refine m_len_ro rfl ?_) | (refine m_len_sl rfl ?_) | (refine m_len_nil rfl ?_) | (refine m_idx1_ro rfl rfl ?_ ?_; (· omega)) | (refine m_idx1_sl rfl rfl ?_ ?_; (· omega)) | (apply m_idx1_slj; (· rfl); (· rfl); (· assumption); (· omega)) | (apply m_idx1_roj; (· rfl); (· rfl); (· assumption); (· omega)) | (refine m_idx_ro rfl rfl ?_ ?_ ?_; (· omega); (· omega)) | (refine m_idx_sl rfl rfl ?_ ?_ ?_; (· omega); (· omega)) | (apply m_st; (· rfl); (· rfl); (· rfl); (· first | omega | (simp; done) | (simp; omega)); (· rfl)) | (refine m_stall rfl rfl rfl ?_ ?_ ?_ ?_; (· first | rfl | (simp [*]; done)); (· first | rfl | (simp [*]; done)); (· first | rfl | (simp [cellOk, Value.oneCell']; done))))) | refine end_ops ?_ | refine seq_ops ?_ | refine AW_ops ?_ | (refine cond_t rfl ?_ ?_; (· first | rfl | assumption | (refine decide_eq_true ?_; first | assumption | omega) | (refine nt ?_; first | assumption | omega) | (simp [*]; done))) | (refine cond_f rfl ?_ ?_; (· first | rfl | assumption | (refine decide_eq_false ?_; first | assumption | omega) | (refine nf ?_; first | assumption | omega) | (simp [*]; done))) | refine skip_then ?_ | refine AW_seq ?_ | refine AW_ret ?_ | refine ret_done ?_ | refine norm_then ?_ | refine ret_then ?_ | refine exit_then ?_ | refine AW_block ?_ | refine norm_block ?_ | refine ret_block ?_ | refine ret_round ?_ | refine exit_round ?_ | refine AW_exit ?_ | refine exit_block ?_ | (refine exit_other ?_ ?_; (· decide)) | refine AW_skip ?_)
    refine step_ops ?_
    refine m_st (by rfl) (by rfl) (by rfl) ?_ ?_ ?_
    · simp [marked_len, hj, h]
    · rfl
    repeat (first | (refine step_ops ?_; (first | (refine m_mov (by conv => lhs; whnf) ?_) | (refine m_lss rfl rfl ?_) | (refine m_add rfl rfl ?_ ?_ ?_; (· omega); (· omega)) | (refine m_adds rfl rfl ?_ ?_; (· first | omega | (simp; omega))) | (refine m_len_ro rfl ?_) | (refine m_len_sl rfl ?_) | (refine m_len_nil rfl ?_) | (refine m_idx1_ro rfl rfl ?_ ?_; (· omega)) | (refine m_idx1_sl rfl rfl ?_ ?_; (· omega)) | (apply m_idx1_slj; (· rfl); (· rfl); (· assumption); (· omega)) | (apply m_idx1_roj; (· rfl); (· rfl); (· assumption); (· omega)) | (refine m_idx_ro rfl rfl ?_ ?_ ?_; (· omega); (· omega)) | (refine m_idx_sl rfl rfl ?_ ?_ ?_; (· omega); (· omega)) | (apply m_st; (· rfl); (· rfl); (· rfl); (· first | omega | (simp; done) | (simp; omega)); (· rfl)) | (refine m_stall rfl rfl rfl ?_ ?_ ?_ ?_; (· first | rfl | (simp [*]; done)); (· first | rfl | (simp [*]; done)); (· first | rfl | (simp [cellOk, Value.oneCell']; done))))) | refine end_ops ?_ | refine seq_ops ?_ | refine AW_ops ?_ | (refine cond_t rfl ?_ ?_; (· first | rfl | assumption | (refine decide_eq_true ?_; first | assumption | omega) | (refine nt ?_; first | assumption | omega) | (simp [*]; done))) | (refine cond_f rfl ?_ ?_; (· first | rfl | assumption | (refine decide_eq_false ?_; first | assumption | omega) | (refine nf ?_; first | assumption | omega) | (simp [*]; done))) | refine skip_then ?_ | refine AW_seq ?_ | refine AW_ret ?_ | refine ret_done ?_ | refine norm_then ?_ | refine ret_then ?_ | refine exit_then ?_ | refine AW_block ?_ | refine norm_block ?_ | refine ret_block ?_ | refine ret_round ?_ | refine exit_round ?_ | refine AW_exit ?_ | refine exit_block ?_ | (refine exit_other ?_ ?_; (· decide)) | refine AW_skip ?_)
    refine next_round (j + 1) ?_ (weak_st ?_ ?_ rfl rfl) ?_
    · omega
    · refine ⟨rfl, ?_, rfl, trivial⟩
      show AV.i (k + (j : Int) + 1) = AV.i (k + ((j + 1 : Nat) : Int))
      rw [Int.add_assoc]; rfl
    · refine ⟨?_, trivial⟩
      show some (true, ((marked L k j).map AV.i).set j (AV.i (k + j))) = _
      rw [← marked_set L k j h, List.map_set]
    · omega
  · repeat (first | (refine step_ops ?_; (first | (refine m_mov (by conv => lhs; whnf) ?_) | (refine m_lss rfl rfl ?_) | (refine m_add rfl rfl ?_ ?_ ?_; (· omega); (· omega)) | (refine m_adds rfl rfl ?_ ?_; (· first | omega | (simp; omega))) | (refine m_len_ro rfl ?_) | (refine m_len_sl rfl ?_) | (refine m_len_nil rfl ?_) | (refine m_idx1_ro rfl rfl ?_ ?_; (· omega)) | (refine m_idx1_sl rfl rfl ?_ ?_; (· omega)) | (apply m_idx1_slj; (· rfl); (· rfl); (· assumption); (· omega)) | (apply m_idx1_roj; (· rfl); (· rfl); (· assumption); (· omega)) | (refine m_idx_ro rfl rfl ?_ ?_ ?_; (· omega); (· omega)) | (refine m_idx_sl rfl rfl ?_ ?_ ?_; (· omega); (· omega)) | (apply m_st; (· rfl); (· rfl); (· rfl); (· first | omega | (simp; done) | (simp; omega)); (· rfl)) | (refine m_stall rfl rfl rfl ?_ ?_ ?_ ?_; (· first | rfl | (simp [*]; done)); (· first | rfl | (simp [*]; done)); (· first | rfl | (simp [cellOk, Value.oneCell']; done))))) | refine end_ops ?_ | refine seq_ops ?_ | refine AW_ops ?_ | (refine cond_t rfl ?_ ?_; (· first | rfl | assumption | (refine decide_eq_true ?_; first | assumption | omega) | (refine nt ?_; first | assumption | omega) | (simp [*]; done))) | (refine cond_f rfl ?_ ?_; (· first | rfl | assumption | (refine decide_eq_false ?_; first | assumption | omega) | (refine nf ?_; first | assumption | omega) | (simp [*]; done))) | refine skip_then ?_ | refine AW_seq ?_ | refine AW_ret ?_ | refine ret_done ?_ | refine norm_then ?_ | refine ret_then ?_ | refine exit_then ?_ | refine AW_block ?_ | refine norm_block ?_ | refine ret_block ?_ | refine ret_round ?_ | refine exit_round ?_ | refine AW_exit ?_ | refine exit_block ?_ | (refine exit_other ?_ ?_; (· decide)) | refine AW_skip ?_)
    obtain rfl : j = L.length := by omega
    refine ret_donem ?_ ?_
    · rfl
    · show some (true, (marked L k L.length).map AV.i) = _
      rw [marked_all]
end Go.Proofs.Yteiipnadhalnbaa
namespace Go.Proofs.Yteiipnadhalnbaa
open Go.Am
attribute [local irreducible] AW Outs Weak Lends Lend Sp aops atree aop1 Then Round InBlock Done
/-- Those of the first k guests who have their own coats. -/
def ownList (L : List Int) (k : Nat) : List Int := ((List.range k).filter fun (i : Nat) => decide (L.getD i 0 = i)).map fun (i : Nat) => (i : Int)
theorem ownList_yes {L : List Int} {k : Nat} (h : L.getD k 0 = k) : ownList L (k + 1) = ownList L k ++ [(k : Int)] := by
  unfold ownList; rw [List.range_succ, List.filter_append, List.map_append, List.filter_cons_of_pos (p := fun (i : Nat) => decide (L.getD i 0 = (i : Int))) (a := k) (decide_eq_true h)]; rfl
theorem ownList_no {L : List Int} {k : Nat} (h : ¬ L.getD k 0 = k) : ownList L (k + 1) = ownList L k := by
  unfold ownList; rw [List.range_succ, List.filter_append, List.map_append, List.filter_cons_of_neg (p := fun (i : Nat) => decide (L.getD i 0 = (i : Int))) (a := k) (fun e => h (of_decide_eq_true e))]; simp
theorem ownList_le (L : List Int) (k : Nat) : (ownList L k).length ≤ k := by
  unfold ownList; rw [List.length_map]; exact Nat.le_trans (List.length_filter_le ..) (by simp)
theorem exOwn_spec (L : List Int) (hL : L.length ≤ 1048576) : Sp Try.prog 48 [ints L] (newInts (ownList L L.length)) := by
  refine spec_of Try.func48 rfl cc48 rfl ?_
  unfold ac48
  repeat (first | (refine step_ops ?_; (first | (refine m_mov (by conv => lhs; whnf) ?_) | (refine m_lss rfl rfl ?_) | (refine m_eql rfl rfl ?_) | (refine m_eqk rfl rfl ?_) | (refine m_eqs rfl rfl ?_) | (refine m_add rfl rfl ?_ ?_ ?_; (· omega); (· omega)) | (refine m_adds rfl rfl ?_ ?_; (· first | omega | (simp; omega))) | (refine m_len_ro rfl ?_) | (refine m_len_sl rfl ?_) | (refine m_len_nil rfl ?_) | (refine m_idx1_ro rfl rfl ?_ ?_; (· omega)) | (refine m_idx1_sl rfl rfl ?_ ?_; (· omega)) | (apply m_idx1_slj; (· rfl); (· rfl); (· assumption); (· omega)) | (apply m_idx1_roj; (· rfl); (· rfl); (· assumption); (· omega)) | (refine m_idx_ro rfl rfl ?_ ?_ ?_; (· omega); (· omega)) | (refine m_idx_sl rfl rfl ?_ ?_ ?_; (· omega); (· omega)) | (refine m_ld_rpi rfl ?_ ?_; (· omega)) | (refine m_ld_pti rfl (by rfl) ?_ ?_; (· first | omega | (simp; omega))) | (apply m_ld_ptb; (· rfl); (· rfl); (· assumption)) | (apply m_ld_rp; (· rfl); (· rfl)) | (apply m_ld_pt; (· rfl); (· rfl); (· rfl)) | (refine m_nils ?_) | (refine m_bsl1 rfl rfl ?_) | (refine m_app1i rfl (by decide) (by rfl) (by first | rfl | omega | (simp; done)) rfl rfl ?_ (by decide) ?_; (· first | omega | (simp; omega))) | (refine m_app1 rfl (by decide) rfl (by first | (simp; done) | (simp [*]; done) | (simp; omega)) rfl rfl rfl ?_ (by decide) ?_; (· first | omega | (simp; omega))) | (refine m_appro rfl (by decide) rfl (by first | rfl | (simp; done) | (simp [*]; done) | (simp; omega)) rfl (oks_ints _) ?_ (by decide) ?_; (· first | omega | (simp; omega))))) | refine end_ops ?_ | refine seq_ops ?_ | refine AW_ops ?_ | (refine cond_t rfl ?_ ?_; (· first | rfl | assumption | (refine decide_eq_true ?_; first | assumption | omega) | (refine nt ?_; first | assumption | omega) | (simp [*]; done))) | (refine cond_f rfl ?_ ?_; (· first | rfl | assumption | (refine decide_eq_false ?_; first | assumption | omega) | (refine nf ?_; first | assumption | omega) | (simp [*]; done))) | refine skip_then ?_ | refine AW_seq ?_ | refine AW_ret ?_ | refine ret_done ?_ | refine norm_then ?_ | refine ret_then ?_ | refine exit_then ?_ | refine AW_block ?_ | refine norm_block ?_ | refine ret_block ?_ | refine ret_round ?_ | refine exit_round ?_ | refine AW_exit ?_ | refine exit_block ?_ | (refine exit_other ?_ ?_; (· decide)) | refine AW_skip ?_)
  refine AW_loop (α := Nat × Nat) (fun a => a.1 ≤ L.length ∧ (a.2 = 3 ∨ a.2 = 19)) (fun a => st [(6, ints L), (7, .i L.length), (8, .i a.1), (3, .sl a.2 1 0 (ownList L a.1).length)] [(a.2, (true, (ownList L a.1).map AV.i))]) (fun a => L.length - a.1) (0, 3) (by simp) (weak_st ?_ ?_ rfl rfl) ?_
  · (repeat' (first | exact trivial | refine And.intro ?_ ?_)) <;> (first | rfl | skip)
  · exact ⟨rfl, trivial⟩
  rintro ⟨k, r⟩ ⟨hk, hr⟩
  have hn := ownList_le L k
  simp only at hk hr
  rcases hr with rfl | rfl
  all_goals
    dsimp only
    by_cases h : k < L.length
    · by_cases hx : L.getD k 0 = k
      · repeat (first | (refine step_ops ?_; (first | (refine m_mov (by conv => lhs; whnf) ?_) | (refine m_lss rfl rfl ?_) | (refine m_eql rfl rfl ?_) | (refine m_eqk rfl rfl ?_) | (refine m_eqs rfl rfl ?_) | (refine m_add rfl rfl ?_ ?_ ?_; (· omega); (· omega)) | (refine m_adds rfl rfl ?_ ?_; (· first | omega | (simp; omega))) | (refine m_len_ro rfl ?_) | (refine m_len_sl rfl ?_) | (refine m_len_nil rfl ?_) | (refine m_idx1_ro rfl rfl ?_ ?_; (· omega)) | (refine m_idx1_sl rfl rfl ?_ ?_; (· omega)) | (apply m_idx1_slj; (· rfl); (· rfl); (· assumption); (· omega)) | (apply m_idx1_roj; (· rfl); (· rfl); (· assumption); (· omega)) | (refine m_idx_ro rfl rfl ?_ ?_ ?_; (· omega); (· omega)) | (refine m_idx_sl rfl rfl ?_ ?_ ?_; (· omega); (· omega)) | (refine m_ld_rpi rfl ?_ ?_; (· omega)) | (refine m_ld_pti rfl (by rfl) ?_ ?_; (· first | omega | (simp; omega))) | (apply m_ld_ptb; (· rfl); (· rfl); (· assumption)) | (apply m_ld_rp; (· rfl); (· rfl)) | (apply m_ld_pt; (· rfl); (· rfl); (· rfl)) | (refine m_nils ?_) | (refine m_bsl1 rfl rfl ?_) | (refine m_app1i rfl (by decide) (by rfl) (by first | rfl | omega | (simp; done)) rfl rfl ?_ (by decide) ?_; (· first | omega | (simp; omega))) | (refine m_app1 rfl (by decide) rfl (by first | (simp; done) | (simp [*]; done) | (simp; omega)) rfl rfl rfl ?_ (by decide) ?_; (· first | omega | (simp; omega))) | (refine m_appro rfl (by decide) rfl (by first | rfl | (simp; done) | (simp [*]; done) | (simp; omega)) rfl (oks_ints _) ?_ (by decide) ?_; (· first | omega | (simp; omega))))) | refine end_ops ?_ | refine seq_ops ?_ | refine AW_ops ?_ | (refine cond_t rfl ?_ ?_; (· first | rfl | assumption | (refine decide_eq_true ?_; first | assumption | omega) | (refine nt ?_; first | assumption | omega) | (simp [*]; done))) | (refine cond_f rfl ?_ ?_; (· first | rfl | assumption | (refine decide_eq_false ?_; first | assumption | omega) | (refine nf ?_; first | assumption | omega) | (simp [*]; done))) | refine skip_then ?_ | refine AW_seq ?_ | refine AW_ret ?_ | refine ret_done ?_ | refine norm_then ?_ | refine ret_then ?_ | refine exit_then ?_ | refine AW_block ?_ | refine norm_block ?_ | refine ret_block ?_ | refine ret_round ?_ | refine exit_round ?_ | refine AW_exit ?_ | refine exit_block ?_ | (refine exit_other ?_ ?_; (· decide)) | refine AW_skip ?_)
        refine next_round (k + 1, 19) ⟨by omega, .inr rfl⟩ (weak_st ?_ ?_ rfl rfl) ?_
        · refine ⟨rfl, rfl, rfl, ?_, trivial⟩
          show AV.sl 19 1 0 (ownList L k ++ [(k : Int)]).length = AV.sl 19 1 0 (ownList L (k + 1)).length
          rw [ownList_yes hx]
        · refine ⟨?_, trivial⟩
          show some (true, (ownList L k ++ [(k : Int)]).map AV.i) = some (true, (ownList L (k + 1)).map AV.i)
          rw [ownList_yes hx]
        · omega
      · repeat (first | (refine step_ops ?_; (first | (refine m_mov (by conv => lhs; whnf) ?_) | (refine m_lss rfl rfl ?_) | (refine m_eql rfl rfl ?_) | (refine m_eqk rfl rfl ?_) | (refine m_eqs rfl rfl ?_) | (refine m_add rfl rfl ?_ ?_ ?_; (· omega); (· omega)) | (refine m_adds rfl rfl ?_ ?_; (· first | omega | (simp; omega))) | (refine m_len_ro rfl ?_) | (refine m_len_sl rfl ?_) | (refine m_len_nil rfl ?_) | (refine m_idx1_ro rfl rfl ?_ ?_; (· omega)) | (refine m_idx1_sl rfl rfl ?_ ?_; (· omega)) | (apply m_idx1_slj; (· rfl); (· rfl); (· assumption); (· omega)) | (apply m_idx1_roj; (· rfl); (· rfl); (· assumption); (· omega)) | (refine m_idx_ro rfl rfl ?_ ?_ ?_; (· omega); (· omega)) | (refine m_idx_sl rfl rfl ?_ ?_ ?_; (· omega); (· omega)) | (refine m_ld_rpi rfl ?_ ?_; (· omega)) | (refine m_ld_pti rfl (by rfl) ?_ ?_; (· first | omega | (simp; omega))) | (apply m_ld_ptb; (· rfl); (· rfl); (· assumption)) | (apply m_ld_rp; (· rfl); (· rfl)) | (apply m_ld_pt; (· rfl); (· rfl); (· rfl)) | (refine m_nils ?_) | (refine m_bsl1 rfl rfl ?_) | (refine m_app1i rfl (by decide) (by rfl) (by first | rfl | omega | (simp; done)) rfl rfl ?_ (by decide) ?_; (· first | omega | (simp; omega))) | (refine m_app1 rfl (by decide) rfl (by first | (simp; done) | (simp [*]; done) | (simp; omega)) rfl rfl rfl ?_ (by decide) ?_; (· first | omega | (simp; omega))) | (refine m_appro rfl (by decide) rfl (by first | rfl | (simp; done) | (simp [*]; done) | (simp; omega)) rfl (oks_ints _) ?_ (by decide) ?_; (· first | omega | (simp; omega))))) | refine end_ops ?_ | refine seq_ops ?_ | refine AW_ops ?_ | (refine cond_t rfl ?_ ?_; (· first | rfl | assumption | (refine decide_eq_true ?_; first | assumption | omega) | (refine nt ?_; first | assumption | omega) | (simp [*]; done))) | (refine cond_f rfl ?_ ?_; (· first | rfl | assumption | (refine decide_eq_false ?_; first | assumption | omega) | (refine nf ?_; first | assumption | omega) | (simp [*]; done))) | refine skip_then ?_ | refine AW_seq ?_ | refine AW_ret ?_ | refine ret_done ?_ | refine norm_then ?_ | refine ret_then ?_ | refine exit_then ?_ | refine AW_block ?_ | refine norm_block ?_ | refine ret_block ?_ | refine ret_round ?_ | refine exit_round ?_ | refine AW_exit ?_ | refine exit_block ?_ | (refine exit_other ?_ ?_; (· decide)) | refine AW_skip ?_)
        first
        | (refine next_round (k + 1, 3) ⟨by omega, .inl rfl⟩ (weak_st ?_ ?_ rfl rfl) ?_
           · exact ⟨rfl, rfl, rfl, by show _ = AV.sl 3 1 0 (ownList L (k + 1)).length; rw [ownList_no hx]; rfl, trivial⟩
           · exact ⟨by show _ = some (true, (ownList L (k + 1)).map AV.i); rw [ownList_no hx]; rfl, trivial⟩
           · omega)
        | (refine next_round (k + 1, 19) ⟨by omega, .inr rfl⟩ (weak_st ?_ ?_ rfl rfl) ?_
           · exact ⟨rfl, rfl, rfl, by show _ = AV.sl 19 1 0 (ownList L (k + 1)).length; rw [ownList_no hx]; rfl, trivial⟩
           · exact ⟨by show _ = some (true, (ownList L (k + 1)).map AV.i); rw [ownList_no hx]; rfl, trivial⟩
           · omega)
    · repeat (first | (refine step_ops ?_; (first | (refine m_mov (by conv => lhs; whnf) ?_) | (refine m_lss rfl rfl ?_) | (refine m_eql rfl rfl ?_) | (refine m_eqk rfl rfl ?_) | (refine m_eqs rfl rfl ?_) | (refine m_add rfl rfl ?_ ?_ ?_; (· omega); (· omega)) | (refine m_adds rfl rfl ?_ ?_; (· first | omega | (simp; omega))) | (refine m_len_ro rfl ?_) | (refine m_len_sl rfl ?_) | (refine m_len_nil rfl ?_) | (refine m_idx1_ro rfl rfl ?_ ?_; (· omega)) | (refine m_idx1_sl rfl rfl ?_ ?_; (· omega)) | (apply m_idx1_slj; (· rfl); (· rfl); (· assumption); (· omega)) | (apply m_idx1_roj; (· rfl); (· rfl); (· assumption); (· omega)) | (refine m_idx_ro rfl rfl ?_ ?_ ?_; (· omega); (· omega)) | (refine m_idx_sl rfl rfl ?_ ?_ ?_; (· omega); (· omega)) | (refine m_ld_rpi rfl ?_ ?_; (· omega)) | (refine m_ld_pti rfl (by rfl) ?_ ?_; (· first | omega | (simp; omega))) | (apply m_ld_ptb; (· rfl); (· rfl); (· assumption)) | (apply m_ld_rp; (· rfl); (· rfl)) | (apply m_ld_pt; (· rfl); (· rfl); (· rfl)) | (refine m_nils ?_) | (refine m_bsl1 rfl rfl ?_) | (refine m_app1i rfl (by decide) (by rfl) (by first | rfl | omega | (simp; done)) rfl rfl ?_ (by decide) ?_; (· first | omega | (simp; omega))) | (refine m_app1 rfl (by decide) rfl (by first | (simp; done) | (simp [*]; done) | (simp; omega)) rfl rfl rfl ?_ (by decide) ?_; (· first | omega | (simp; omega))) | (refine m_appro rfl (by decide) rfl (by first | rfl | (simp; done) | (simp [*]; done) | (simp; omega)) rfl (oks_ints _) ?_ (by decide) ?_; (· first | omega | (simp; omega))))) | refine end_ops ?_ | refine seq_ops ?_ | refine AW_ops ?_ | (refine cond_t rfl ?_ ?_; (· first | rfl | assumption | (refine decide_eq_true ?_; first | assumption | omega) | (refine nt ?_; first | assumption | omega) | (simp [*]; done))) | (refine cond_f rfl ?_ ?_; (· first | rfl | assumption | (refine decide_eq_false ?_; first | assumption | omega) | (refine nf ?_; first | assumption | omega) | (simp [*]; done))) | refine skip_then ?_ | refine AW_seq ?_ | refine AW_ret ?_ | refine ret_done ?_ | refine norm_then ?_ | refine ret_then ?_ | refine exit_then ?_ | refine AW_block ?_ | refine norm_block ?_ | refine ret_block ?_ | refine ret_round ?_ | refine exit_round ?_ | refine AW_exit ?_ | refine exit_block ?_ | (refine exit_other ?_ ?_; (· decide)) | refine AW_skip ?_)
      obtain rfl : k = L.length := by omega
      exact outs_ints rfl rfl rfl
end Go.Proofs.Yteiipnadhalnbaa
namespace Go.Proofs.Yteiipnadhalnbaa
open Go.Am
attribute [local irreducible] AW Outs Weak Lends Lend Sp aops atree aop1 Then Round InBlock Done
/-- Those behind the first one, each with the coat. -/
def othR (L : List Int) (i k : Nat) : List (List Int) := (List.range k).map fun a => [((it L (a + 1) i : Nat) : Int), ((it L (a + 2) i : Nat) : Int)]
def oth (L : List Int) (i k : Nat) : List Int := (othR L i k).flatten
theorem othR_row (L : List Int) (i k : Nat) : ∀ r ∈ othR L i k, r.length = 2 := by
  intro r hr
  simp only [othR, List.mem_map] at hr
  obtain ⟨a, _, rfl⟩ := hr
  rfl
theorem oth_len (L : List Int) (i k : Nat) : (oth L i k).length = k * 2 := by
  rw [oth, flat_len _ 2 (othR_row L i k)]; simp [othR]
theorem oth_succ (L : List Int) (i k : Nat) : oth L i (k + 1) = oth L i k ++ [((it L (k + 1) i : Nat) : Int), ((it L (k + 2) i : Nat) : Int)] := by
  simp [oth, othR, List.range_succ]
theorem oth_at (L : List Int) (i k j : Nat) (h : j < k) : (((oth L i k).map AV.i).drop (j * 2)).take 2 = [.i ((it L (j + 1) i : Nat) : Int), .i ((it L (j + 2) i : Nat) : Int)] := by
  rw [← List.map_drop, ← List.map_take, oth, drop_flat _ 2 j (othR_row L i k) (by simpa [othR] using h)]
  simp [othR, h]
set_option maxRecDepth 8000 in
theorem guestOf_spec (L : List Int) (j : Nat) (hp : IsPm L) (hj : j < L.length) : Sp Try.prog 84 [ints L, .i j] (.agg [.i j, .i (nx L j : Nat)]) := by
  have hnx := (nx_lt hp hj).2
  refine specC_of Try.func84 rfl cc84 (by rfl) ?_
  unfold ac84
  repeat (first | (refine step_ops ?_; (first | (refine m_mov (by conv => lhs; whnf) ?_) | (refine m_idx1_ro rfl rfl ?_ ?_; (· omega)) | (refine m_ld_rpi rfl ?_ ?_; (· omega)) | (refine m_alloc ?_) | (refine m_bld_2 (by conv => lhs; whnf) (by conv => lhs; whnf) (by decide)  (by decide) (by rfl) (by rfl) ?_) | (refine m_stall rfl rfl rfl ?_ ?_ ?_ ?_; (· first | rfl | (simp [*]; done)); (· first | rfl | (simp [*]; done)); (· first | rfl | (simp [cellOk, Value.oneCell']; done))))) | refine end_ops ?_ | refine seq_ops ?_ | refine AW_ret ?_)
  rw [hnx]
  skip
  refine ret_donec rfl rfl rfl (outs_agg rfl)
/-- A chain asx a struct. -/
def chnV (fr : Bool) (L : List Int) (i : Nat) : List AV := [.i i, .i (nx L i : Nat), .ro fr 2 ((oth L i (per L i - 1)).map AV.i) (per L i - 1)]
set_option maxRecDepth 8000 in
theorem chainFrom_spec (L : List Int) (i : Nat) (h : IsEx L) (hi : i < L.length) : Sp Try.prog 79 [ints L, .i i] (.agg (chnV true L i)) := by
  have hp := ex_pm h
  have h12 := h.2.1
  have hper := per_spec hp hi
  have hlt := it_lt hp hi
  refine specC_of Try.func79 rfl cc79 (by rfl) ?_
  unfold ac79
  repeat (first | (refine step_ops ?_; (first | (refine m_mov (by conv => lhs; whnf) ?_) | (refine m_alloc ?_))) | refine end_ops ?_ | refine seq_ops ?_)
  (refine step_ops ?_); (apply m_call (guestOf_spec L i hp hi)); (· repeat (first | exact lends_nil | (refine lends_cons ?_ ?_; (· (first | exact lend_v | (refine lend_ints ?_; first | rfl | omega))))))
  skip
  refine step_ops ?_
  refine m_bld (out := [.i i, .i (nx L i : Nat), .v (.slice none 0 0)]) ?_ ?_
  · exact .inr ⟨[.i i, .i (nx L i : Nat)], rfl, rfl, by decide, rfl⟩
  repeat (first | (refine step_ops ?_; (first | (refine m_mov (by conv => lhs; whnf) ?_) | (apply m_ld_pt; (· rfl); (· rfl); (· rfl)) | (refine m_alloc ?_) | (refine m_fa rfl ?_) | (refine m_stall rfl rfl rfl ?_ ?_ ?_ ?_; (· first | rfl | (simp [*]; done)); (· first | rfl | (simp [*]; done)); (· first | rfl | (simp [cellOk, Value.oneCell']; done))))) | refine end_ops ?_ | refine seq_ops ?_ | refine AW_seq ?_)
  (refine step_ops ?_); (apply m_call (guestOf_spec L (nx L i) hp (hlt 1))); (· repeat (first | exact lends_nil | (refine lends_cons ?_ ?_; (· (first | exact lend_v | (refine lend_ints ?_; first | rfl | omega))))))
  repeat (first | (refine step_ops ?_; (first | (refine m_alloc ?_) | (refine m_stall rfl rfl rfl ?_ ?_ ?_ ?_; (· first | rfl | (simp [*]; done)); (· first | rfl | (simp [*]; done)); (· first | rfl | (simp [cellOk, Value.oneCell']; done))))) | refine end_ops ?_ | refine AW_block ?_)
  refine AW_weak (Weak.trans (weak_deep (r := 4) rfl (by simp) rfl) (weak_nilcell 5 28 2 2 rfl rfl (by decide) rfl rfl)) ?_
  refine AW_loop (α := Nat) (fun k => k + 1 ≤ per L i) (fun k => st [(0, ints L), (4, .pt 4 0), (5, .pt 5 0), (6, .pt 6 0)] [(4, (false, [.i 0, .i 0, .v (.slice none 0 0)])), (5, (false, [.i i, .i (nx L i : Nat), .sl 28 2 0 k])), (6, (true, [.i (it L (k + 1) i : Nat), .i (it L (k + 2) i : Nat)])), (28, (true, (oth L i k).map AV.i))]) (fun k => per L i - k) 0 (by omega) (weak_st ?_ ?_ rfl rfl) ?_
  · (repeat' (first | exact trivial | refine And.intro ?_ ?_)) <;> (first | rfl | skip)
  · (repeat' (first | exact trivial | refine And.intro ?_ ?_)) <;> (first | rfl | skip)
  intro k hk
  have hol := oth_len L i k
  have hle := hper.2.1
  by_cases hc : it L (k + 1) i = i
  · have hkp : k + 1 = per L i := by
      rcases Nat.lt_or_ge (k + 1) (per L i) with h1 | h1
      · exact absurd hc (hper.2.2.2 (k + 1) (by omega) h1)
      · omega
    have hc2 : it L (k + 2) i = nx L i := by show nx L (it L (k + 1) i) = _; rw [hc]
    have hE : (true ^^ (decide (((it L (k + 1) i : Nat) : Int) = ((i : Nat) : Int)) && (decide (((it L (k + 2) i : Nat) : Int) = ((nx L i : Nat) : Int)) && true))) = false := by simp [hc, hc2]
    repeat (first | (refine step_ops ?_; (first | (refine m_fa rfl ?_) | (refine m_ldall rfl rfl ?_ ?_; (· first | rfl | (simp; done) | (simp [*]; done))))) | refine seq_ops ?_ | refine AW_seq ?_)
    refine step_ops ?_
    refine m_ldk (off := 0) rfl rfl (Nat.le_of_ble_eq_true rfl) ?_
    repeat (first | (refine step_ops ?_; (first | (refine m_aeq rfl rfl rfl ?_) | (refine m_ldall rfl rfl ?_ ?_; (· first | rfl | (simp; done) | (simp [*]; done))) | (refine m_stall rfl rfl rfl ?_ ?_ ?_ ?_; (· first | rfl | (simp [*]; done)); (· first | rfl | (simp [*]; done)); (· first | rfl | (simp [cellOk, Value.oneCell']; done))))) | refine end_ops ?_ | refine seq_ops ?_ | (refine cond_f rfl ?_ ?_; (· first | rfl | assumption | (refine decide_eq_false ?_; first | assumption | omega) | (refine nf ?_; first | assumption | omega) | (simp [*]; done))) | refine AW_ret ?_ | refine norm_then ?_ | refine exit_then ?_ | refine exit_round ?_ | refine AW_exit ?_ | refine exit_block ?_)
    refine ret_donec rfl rfl rfl ?_
    have ek : per L i - 1 = k := by omega
    unfold chnV
    rw [ek]
    exact outs_agg3 (outs_i rfl) (outs_i rfl) (outs_sl rfl (by rw [List.length_map, hol]) (allv_ints _))
  · have hkp : k + 1 < per L i := by
      rcases Nat.lt_or_ge (k + 1) (per L i) with h1 | h1
      · exact h1
      · have : k + 1 = per L i := by omega
        rw [this] at hc; exact absurd hper.2.2.1 hc
    have hE : (true ^^ (decide (((it L (k + 1) i : Nat) : Int) = ((i : Nat) : Int)) && (decide (((it L (k + 2) i : Nat) : Int) = ((nx L i : Nat) : Int)) && true))) = true := by
      have : ¬ ((it L (k + 1) i : Nat) : Int) = ((i : Nat) : Int) := by omega
      simp [this]
    repeat (first | (refine step_ops ?_; (first | (refine m_fa rfl ?_) | (refine m_ldall rfl rfl ?_ ?_; (· first | rfl | (simp; done) | (simp [*]; done))))) | refine seq_ops ?_ | refine AW_seq ?_)
    refine step_ops ?_
    refine m_ldk (off := 0) rfl rfl (Nat.le_of_ble_eq_true rfl) ?_
    repeat (first | (refine step_ops ?_; (first | (apply m_ld_pt; (· rfl); (· rfl); (· rfl)) | (refine m_fa rfl ?_) | (refine m_aeq rfl rfl rfl ?_) | (refine m_ldall rfl rfl ?_ ?_; (· first | rfl | (simp; done) | (simp [*]; done))))) | refine end_ops ?_ | refine AW_ops ?_ | (refine cond_t rfl ?_ ?_; (· first | rfl | assumption | (refine decide_eq_true ?_; first | assumption | omega) | (refine nt ?_; first | assumption | omega) | (simp [*]; done))) | refine skip_then ?_ | refine AW_seq ?_ | refine AW_block ?_)
    refine step_ops ?_
    refine m_bslz rfl rfl rfl rfl ?_
    refine step_ops ?_
    refine m_appz rfl (by decide) rfl (by rw [List.length_map, hol]) rfl rfl rfl rfl (by omega) (by decide) ?_
    repeat (refine step_ops ?_; (refine m_fa rfl ?_))
    refine step_ops ?_
    refine m_st (v := .sl 28 2 0 (k + 1)) (by rfl) (by rfl) (by rfl) (Nat.le_of_ble_eq_true rfl) rfl ?_
    repeat (first | (refine step_ops ?_; (first | (refine m_mov (by conv => lhs; whnf) ?_) | (apply m_ld_pt; (· rfl); (· rfl); (· rfl)) | (refine m_alloc ?_) | (refine m_fa rfl ?_) | (refine m_ldall rfl rfl ?_ ?_; (· first | rfl | (simp; done) | (simp [*]; done))) | (refine m_stall rfl rfl rfl ?_ ?_ ?_ ?_; (· first | rfl | (simp [*]; done)); (· first | rfl | (simp [*]; done)); (· first | rfl | (simp [cellOk, Value.oneCell']; done))))) | refine end_ops ?_ | refine seq_ops ?_ | refine AW_ops ?_ | refine AW_seq ?_ | refine norm_then ?_ | refine norm_block ?_)
    (refine step_ops ?_); (apply m_call (guestOf_spec L (it L (k + 2) i) hp (hlt _))); (· repeat (first | exact lends_nil | (refine lends_cons ?_ ?_; (· (first | exact lend_v | (refine lend_ints ?_; first | rfl | omega))))))
    repeat (first | (refine step_ops ?_; (refine m_stall rfl rfl rfl ?_ ?_ ?_ ?_; (· first | rfl | (simp [*]; done)); (· first | rfl | (simp [*]; done)); (· first | rfl | (simp [cellOk, Value.oneCell']; done)))) | refine end_ops ?_)
    refine next_round (k + 1) (by omega) (weak_st ?_ ?_ rfl rfl) ?_
    · (repeat' (first | exact trivial | refine And.intro ?_ ?_)) <;> (first | rfl | skip)
    · refine ⟨rfl, rfl, rfl, ?_, trivial⟩
      show some (true, (oth L i k).map AV.i ++ [AV.i ((it L (k + 1) i : Nat) : Int), AV.i ((it L (k + 2) i : Nat) : Int)]) = some (true, (oth L i (k + 1)).map AV.i)
      rw [oth_succ, List.map_append]; rfl
    · omega
theorem length_spec (L : List Int) (i : Nat) (h : IsEx L) (hi : i < L.length) : Sp Try.prog 69 [.agg (chnV false L i)] (.i (per L i : Nat)) := by
  have hper := per_spec (ex_pm h) hi
  have h12 := h.2.1
  unfold chnV
  refine spec_of Try.func69 rfl cc69 rfl ?_
  unfold ac69
  repeat (first | (refine step_ops ?_; (first | (refine m_mov (by conv => lhs; whnf) ?_) | (refine m_add rfl rfl ?_ ?_ ?_; (· omega); (· omega)) | (refine m_len_ro rfl ?_) | (apply m_ld_pt; (· rfl); (· rfl); (· rfl)) | (refine m_fa rfl ?_) | (refine m_box rfl ?_ ?_; (· first | rfl | (simp [cellOk, Value.oneCell']; done))))) | refine end_ops ?_ | refine seq_ops ?_ | refine AW_ret ?_ | refine ret_done ?_)
  refine outs_i ?_
  omega
theorem numbers_spec (L : List Int) (i : Nat) (h : IsEx L) (hi : i < L.length) : Sp Try.prog 80 [.agg (chnV false L i)] (newInts (chn L i)) := by
  have hper := per_spec (ex_pm h) hi
  have h12 := h.2.1
  obtain ⟨p, hpp⟩ : ∃ p, per L i = p + 1 := ⟨per L i - 1, by omega⟩
  unfold chnV chn
  rw [hpp, Nat.add_sub_cancel]
  refine spec_of Try.func80 rfl cc80 rfl ?_
  unfold ac80
  repeat (first | (refine step_ops ?_; (first | (refine m_mov (by conv => lhs; whnf) ?_) | (refine m_len_ro rfl ?_) | (apply m_ld_pt; (· rfl); (· rfl); (· rfl)) | (refine m_nils ?_) | (refine m_fa rfl ?_) | (refine m_bsl1 rfl rfl ?_) | (refine m_box rfl ?_ ?_; (· first | rfl | (simp [cellOk, Value.oneCell']; done))))) | refine end_ops ?_ | refine seq_ops ?_ | refine AW_seq ?_ | refine AW_block ?_)
  refine AW_loop (α := Nat) (fun j => j ≤ p) (fun j => st [(3, .sl 9 1 0 (chT L i (j + 1)).length), (11, .ro false 2 ((oth L i p).map AV.i) p), (12, .i p), (13, .i j)] [(9, (true, (chT L i (j + 1)).map AV.i))]) (fun j => p - j) 0 (by omega) (weak_st ?_ ?_ rfl rfl) ?_
  · (repeat' (first | exact trivial | refine And.intro ?_ ?_)) <;> (first | rfl | skip)
  · exact ⟨rfl, trivial⟩
  intro j hj
  have hcl := chT_len L i (j + 1)
  by_cases hc : j < p
  · have hat := oth_at L i p j hc
    have hol := oth_len L i p
    repeat (first | (refine step_ops ?_; (first | (refine m_lss rfl rfl ?_) | (refine m_idx_ro rfl rfl ?_ ?_ ?_; (· omega); (· omega)))) | refine end_ops ?_ | refine seq_ops ?_ | (refine cond_t rfl ?_ ?_; (· first | rfl | assumption | (refine decide_eq_true ?_; first | assumption | omega) | (refine nt ?_; first | assumption | omega) | (simp [*]; done))) | refine skip_then ?_ | refine AW_seq ?_ | refine AW_block ?_)
    refine step_ops ?_
    refine m_ldk_rp rfl (by simp [hol]; omega) ?_
    rw [Int.toNat_natCast, hat]
    repeat (first | (refine step_ops ?_; (first | (refine m_mov (by conv => lhs; whnf) ?_) | (refine m_add rfl rfl ?_ ?_ ?_; (· omega); (· omega)) | (apply m_ld_pt; (· rfl); (· rfl); (· rfl)) | (refine m_alloc ?_) | (refine m_fa rfl ?_) | (refine m_bsl1 rfl rfl ?_) | (refine m_app1i rfl (by decide) (by rfl) (by first | rfl | omega | (simp; done)) rfl rfl ?_ (by decide) ?_; (· first | omega | (simp; omega))) | (refine m_stall rfl rfl rfl ?_ ?_ ?_ ?_; (· first | rfl | (simp [*]; done)); (· first | rfl | (simp [*]; done)); (· first | rfl | (simp [cellOk, Value.oneCell']; done))))) | refine end_ops ?_ | refine AW_ops ?_ | refine norm_then ?_ | refine norm_block ?_)
    refine next_round (j + 1) (by omega) (Weak.trans (weak_move (r := 21) (q := 9) rfl (by decide) (by decide)) (weak_st ?_ ?_ rfl rfl)) ?_
    · rw [chT_succ L i (j + 1)]
      (repeat' (first | exact trivial | refine And.intro ?_ ?_)) <;> (first | rfl | skip)
    · rw [chT_succ L i (j + 1)]
      exact ⟨rfl, trivial⟩
    · omega
  · repeat (first | (refine step_ops ?_; (first | (refine m_mov (by conv => lhs; whnf) ?_) | (refine m_lss rfl rfl ?_))) | refine end_ops ?_ | refine seq_ops ?_ | (refine cond_f rfl ?_ ?_; (· first | rfl | assumption | (refine decide_eq_false ?_; first | assumption | omega) | (refine nf ?_; first | assumption | omega) | (simp [*]; done))) | refine AW_seq ?_ | refine AW_ret ?_ | refine ret_done ?_ | refine norm_then ?_ | refine exit_then ?_ | refine exit_round ?_ | refine AW_exit ?_ | refine exit_block ?_)
    obtain rfl : j = p := by omega
    exact outs_ints rfl rfl rfl
/-- The guests with whom chains begin. -/
def sts (L : List Int) : Nat → List Nat
  | 0 => []
  | i + 1 => if seenB L i i then sts L i else sts L i ++ [i]
theorem sts_lt (L : List Int) (i : Nat) : ∀ j ∈ sts L i, j < i := by
  induction i with
  | zero => intro j hj; simp [sts] at hj
  | succ i ih =>
    intro j hj
    simp only [sts] at hj
    split at hj
    · have := ih j hj; omega
    · rw [List.mem_append, List.mem_singleton] at hj
      rcases hj with hj | rfl
      · have := ih j hj; omega
      · omega
theorem sts_len (L : List Int) (i : Nat) : (sts L i).length ≤ i := by
  induction i with
  | zero => simp [sts]
  | succ i ih =>
    simp only [sts]
    split
    · omega
    · rw [List.length_append, List.length_singleton]; omega
theorem chs_sts (L : List Int) (i : Nat) : chsTo L i = (sts L i).map (chn L) := by
  induction i with
  | zero => rfl
  | succ i ih =>
    simp only [chsTo, sts]
    split
    · exact ih
    · rw [ih, List.map_append]; rfl
def chVs (L : List Int) (S : List Nat) : List (List AV) := S.map (chnV true L)
theorem chVs_row (L : List Int) (S : List Nat) : ∀ r ∈ chVs L S, r.length = 3 := by
  intro r hr
  simp only [chVs, List.mem_map] at hr
  obtain ⟨a, _, rfl⟩ := hr
  rfl
theorem chVs_len (L : List Int) (S : List Nat) : (chVs L S).flatten.length = S.length * 3 := by
  rw [flat_len _ 3 (chVs_row L S)]; simp [chVs]
theorem chVs_new (L : List Int) (S : List Nat) : (chVs L S).flatten.all newV = true := by
  rw [List.all_eq_true]
  intro x hx
  rw [List.mem_flatten] at hx
  obtain ⟨r, hr, hx⟩ := hx
  simp only [chVs, List.mem_map] at hr
  obtain ⟨a, _, rfl⟩ := hr
  simp only [chnV, List.mem_cons, List.not_mem_nil, or_false] at hx
  rcases hx with rfl | rfl | rfl
  · rfl
  · rfl
  · exact allv_ints _
theorem chVs_snoc (L : List Int) (S : List Nat) (i : Nat) : (chVs L (S ++ [i])).flatten = (chVs L S).flatten ++ chnV true L i := by simp [chVs]
theorem chT_get (L : List Int) (i k j : Nat) (h : j < k) : (chT L i k).getD j 0 = ((it L j i : Nat) : Int) := by simp [chT, h]
theorem chainsIn_spec (L : List Int) (h : IsEx L) : Sp Try.prog 66 [ints L] (.ro true 3 (chVs L (sts L L.length)).flatten (sts L L.length).length) := by
  have hp := ex_pm h
  have h12 := h.2.1
  refine spec_of Try.func66 rfl cc66 rfl ?_
  unfold ac66
  repeat (first | (refine step_ops ?_; (first | (refine m_mov (by conv => lhs; whnf) ?_) | (refine m_len_ro rfl ?_) | (refine m_nils ?_) | (refine m_alloc ?_))) | refine end_ops ?_ | refine seq_ops ?_ | refine AW_seq ?_ | refine AW_block ?_)
  refine AW_loop (α := Nat) (fun i => i ≤ L.length) (fun i => st [(0, ints L), (3, .pt 3 0), (4, .sl 4 3 0 (sts L i).length), (9, ints L), (10, .i L.length), (11, .i i)] [(3, (true, (seenK L i 0 12).map AV.b)), (4, (true, (chVs L (sts L i)).flatten))]) (fun i => L.length - i) 0 (by omega) (weak_st ?_ ?_ rfl rfl) ?_
  · (repeat' (first | exact trivial | refine And.intro ?_ ?_)) <;> (first | rfl | skip)
  · refine ⟨?_, rfl, trivial⟩
    show _ = some (true, (seenK L 0 0 12).map AV.b)
    have : seenK L 0 0 12 = List.replicate 12 false := by simp [seenK, seenB, List.range_succ]
    rw [this]; rfl
  intro i hi
  have hsl := sts_len L i
  have hvl := chVs_len L (sts L i)
  by_cases hc : i < L.length
  · have hget : (seenK L i 0 12)[i]? = some (seenB L i i) := by rw [seenK_get _ _ _ _ (by omega)]; simp
    by_cases hs : seenB L i i = true
    · have e : sts L (i + 1) = sts L i := by simp only [sts, hs, if_true]
      rw [hs] at hget
      repeat (first | (refine step_ops ?_; (first | (refine m_mov (by conv => lhs; whnf) ?_) | (refine m_lss rfl rfl ?_) | (refine m_add rfl rfl ?_ ?_ ?_; (· omega); (· omega)) | (refine m_arr1 rfl rfl ?_ ?_; (· omega)) | (apply m_ld_ptb; (· rfl); (· rfl); (· assumption)))) | refine end_ops ?_ | refine seq_ops ?_ | refine AW_ops ?_ | (refine cond_t rfl ?_ ?_; (· first | rfl | assumption | (refine decide_eq_true ?_; first | assumption | omega) | (refine nt ?_; first | assumption | omega) | (simp [*]; done))) | refine skip_then ?_ | refine AW_seq ?_ | refine norm_then ?_ | refine exit_then ?_ | refine AW_block ?_ | refine AW_exit ?_ | refine exit_block ?_)
      refine next_round (i + 1) (by omega) (weak_st ?_ ?_ rfl rfl) ?_
      · rw [e]
        (repeat' (first | exact trivial | refine And.intro ?_ ?_)) <;> (first | rfl | skip)
      · rw [e, ← seenK_skip hp hc hs]
        (repeat' (first | exact trivial | refine And.intro ?_ ?_)) <;> (first | rfl | skip)
      · omega
    · have hs' : seenB L i i = false := by simpa using hs
      have e : sts L (i + 1) = sts L i ++ [i] := by simp only [sts, hs', Bool.false_eq_true, if_false]
      have hper := per_spec hp hc
      rw [hs'] at hget
      repeat (first | (refine step_ops ?_; (first | (refine m_mov (by conv => lhs; whnf) ?_) | (refine m_lss rfl rfl ?_) | (refine m_arr1 rfl rfl ?_ ?_; (· omega)) | (apply m_ld_ptb; (· rfl); (· rfl); (· assumption)))) | refine end_ops ?_ | refine seq_ops ?_ | (refine cond_t rfl ?_ ?_; (· first | rfl | assumption | (refine decide_eq_true ?_; first | assumption | omega) | (refine nt ?_; first | assumption | omega) | (simp [*]; done))) | (refine cond_f rfl ?_ ?_; (· first | rfl | assumption | (refine decide_eq_false ?_; first | assumption | omega) | (refine nf ?_; first | assumption | omega) | (simp [*]; done))) | refine skip_then ?_ | refine AW_seq ?_ | refine AW_block ?_)
      refine step_ops ?_
      refine m_call (chainFrom_spec L i h hc) ?_ ?_
      · exact lends_cons (lend_ints rfl) (lends_cons lend_v lends_nil)
      repeat (first | (refine step_ops ?_; (first | (refine m_alloc ?_) | (refine m_ldall rfl rfl ?_ ?_; (· first | rfl | (simp; done) | (simp [*]; done))) | (refine m_stall rfl rfl rfl ?_ ?_ ?_ ?_; (· first | rfl | (simp [*]; done)); (· first | rfl | (simp [*]; done)); (· first | rfl | (simp [cellOk, Value.oneCell']; done))))) | refine end_ops ?_ | refine seq_ops ?_ | refine AW_seq ?_)
      refine step_ops ?_
      refine m_call (numbers_spec L i h hc) ?_ ?_
      · exact lends_cons (lend_aggs (lends_cons lend_v (lends_cons lend_v (lends_cons (lend_ro (allv_ints _)) lends_nil)))) lends_nil
      repeat (first | (refine step_ops ?_; (first | (refine m_mov (by conv => lhs; whnf) ?_) | (refine m_len_ro rfl ?_))) | refine end_ops ?_ | refine AW_block ?_)
      refine AW_loop (α := Nat) (fun k => k ≤ per L i) (fun k => st [(0, ints L), (3, .pt 3 0), (4, .sl 4 3 0 (sts L i).length), (6, .pt 6 0), (9, ints L), (10, .i L.length), (11, .i i), (21, newInts (chn L i)), (22, .i (chn L i).length), (23, .i k)] [(3, (true, (seenK L i k 12).map AV.b)), (4, (true, (chVs L (sts L i)).flatten)), (6, (true, chnV true L i))]) (fun k => per L i - k) 0 (by omega) (weak_st ?_ ?_ rfl rfl) ?_
      · (repeat' (first | exact trivial | refine And.intro ?_ ?_)) <;> (first | rfl | skip)
      · (repeat' (first | exact trivial | refine And.intro ?_ ?_)) <;> (first | rfl | skip)
      intro k hk
      have hcl : (chn L i).length = per L i := chT_len L i _
      have hlt := it_lt hp hc k
      by_cases hck : k < per L i
      · have hcg : (chn L i).getD k 0 = ((it L k i : Nat) : Int) := chT_get L i _ k hck
        have hsk := seenK_len L i k 12
        repeat (first | (refine step_ops ?_; (first | (refine m_mov (by conv => lhs; whnf) ?_) | (refine m_lss rfl rfl ?_) | (refine m_add rfl rfl ?_ ?_ ?_; (· omega); (· omega)) | (refine m_idx1_ro rfl rfl ?_ ?_; (· omega)) | (apply m_arr1j; (· rfl); (· rfl); (· assumption); (· omega)) | (refine m_ld_rpi rfl ?_ ?_; (· omega)) | (apply m_st; (· rfl); (· rfl); (· rfl); (· first | omega | (simp; done) | (simp; omega)); (· rfl)))) | refine end_ops ?_ | refine seq_ops ?_ | refine AW_ops ?_ | (refine cond_t rfl ?_ ?_; (· first | rfl | assumption | (refine decide_eq_true ?_; first | assumption | omega) | (refine nt ?_; first | assumption | omega) | (simp [*]; done))) | refine skip_then ?_ | refine AW_seq ?_ | refine norm_then ?_ | refine AW_block ?_ | refine norm_block ?_)
        refine next_round (k + 1) (by omega) (weak_st ?_ ?_ rfl rfl) ?_
        · (repeat' (first | exact trivial | refine And.intro ?_ ?_)) <;> (first | rfl | skip)
        · refine ⟨?_, rfl, rfl, trivial⟩
          show some (true, ((seenK L i k 12).map AV.b).set (it L k i) (AV.b true)) = some (true, (seenK L i (k + 1) 12).map AV.b)
          rw [← seenK_set L i k 12 (by omega), List.map_set]
        · omega
      · obtain rfl : k = per L i := by omega
        repeat (first | (refine step_ops ?_; (first | (refine m_mov (by conv => lhs; whnf) ?_) | (refine m_lss rfl rfl ?_) | (refine m_ldall rfl rfl ?_ ?_; (· first | rfl | (simp; done) | (simp [*]; done))))) | refine end_ops ?_ | refine seq_ops ?_ | refine AW_ops ?_ | (refine cond_f rfl ?_ ?_; (· first | rfl | assumption | (refine decide_eq_false ?_; first | assumption | omega) | (refine nf ?_; first | assumption | omega) | (simp [*]; done))) | refine AW_seq ?_ | refine norm_then ?_ | refine exit_then ?_ | refine exit_round ?_ | refine AW_exit ?_ | refine exit_block ?_)
        refine step_ops ?_
        refine m_bslz (l := chnV true L i) rfl rfl rfl rfl ?_
        refine step_ops ?_
        refine m_appz rfl (by decide) rfl hvl rfl rfl rfl rfl (by omega) (by decide) ?_
        repeat (first | (refine step_ops ?_; (first | (refine m_mov (by conv => lhs; whnf) ?_) | (refine m_add rfl rfl ?_ ?_ ?_; (· omega); (· omega)))) | refine end_ops ?_ | refine AW_ops ?_ | refine norm_then ?_ | refine norm_block ?_)
        refine next_round (i + 1) (by omega) (Weak.trans (weak_move (r := 33) (q := 4) rfl (by decide) (by decide)) (weak_st ?_ ?_ rfl rfl)) ?_
        · rw [e, List.length_append]
          (repeat' (first | exact trivial | refine And.intro ?_ ?_)) <;> (first | rfl | skip)
        · rw [e, ← seenK_all hp hc, chVs_snoc]
          (repeat' (first | exact trivial | refine And.intro ?_ ?_)) <;> (first | rfl | skip)
        · omega
  · repeat (first | (refine step_ops ?_; (first | (refine m_mov (by conv => lhs; whnf) ?_) | (refine m_lss rfl rfl ?_))) | refine end_ops ?_ | refine seq_ops ?_ | (refine cond_f rfl ?_ ?_; (· first | rfl | assumption | (refine decide_eq_false ?_; first | assumption | omega) | (refine nf ?_; first | assumption | omega) | (simp [*]; done))) | refine AW_seq ?_ | refine AW_ret ?_ | refine ret_done ?_ | refine norm_then ?_ | refine exit_then ?_ | refine exit_round ?_ | refine AW_exit ?_ | refine exit_block ?_)
    obtain rfl : i = L.length := by omega
    exact outs_sln rfl hvl (chVs_new _ _)
end Go.Proofs.Yteiipnadhalnbaa
namespace Go.Proofs.Yteiipnadhalnbaa
open Go.Am
attribute [local irreducible] AW Outs Weak Lends Lend Sp aops atree aop1 Then Round InBlock Done
attribute [local irreducible] SpH DoneH
/-- The least common multiple, number after number. -/
def lcF : List Nat → Nat → Nat
  | [], a => a
  | b :: l, a => lcF l (a / Nat.gcd a b * b)
theorem lcF_snoc (l : List Nat) (b a : Nat) : lcF (l ++ [b]) a = lcF l a / Nat.gcd (lcF l a) b * b := by
  induction l generalizing a with
  | nil => rfl
  | cons x l ih => simp only [List.cons_append, lcF, ih]
theorem lcF_le (l : List Nat) (h : ∀ b ∈ l, 1 ≤ b ∧ b ≤ 12) (k : Nat) (hk : l.length ≤ k) : ∀ a, 1 ≤ a → 1 ≤ lcF l a ∧ lcF l a ≤ a * 12 ^ k := by
  induction l generalizing k with
  | nil => intro a ha; exact ⟨ha, Nat.le_mul_of_pos_right _ (Nat.pow_pos (by omega))⟩
  | cons b l ih =>
    intro a ha
    obtain ⟨n, rfl⟩ : ∃ n, k = n + 1 := ⟨k - 1, by simp at hk; omega⟩
    obtain ⟨h1, h2⟩ := h b (List.mem_cons_self ..)
    have hg : 0 < Nat.gcd a b := Nat.gcd_pos_of_pos_left _ ha
    have hge : 1 ≤ a / Nat.gcd a b := Nat.div_pos (Nat.le_of_dvd ha (Nat.gcd_dvd_left a b)) hg
    have hle : a / Nat.gcd a b ≤ a := Nat.div_le_self _ _
    have h3 : 1 ≤ a / Nat.gcd a b * b := Nat.mul_pos hge h1
    have h4 : a / Nat.gcd a b * b ≤ a * 12 := Nat.mul_le_mul hle h2
    obtain ⟨h5, h6⟩ := ih (fun x hx => h x (List.mem_cons_of_mem _ hx)) n (by simpa using hk) _ h3
    refine ⟨h5, Nat.le_trans h6 ?_⟩
    rw [Nat.pow_succ', ← Nat.mul_assoc]
    exact Nat.mul_le_mul_right _ h4
def pers (L : List Int) : List Nat := (sts L L.length).map (per L)
def timesF (L : List Int) : Nat := lcF (pers L) 1
theorem pers_ok {L : List Int} (h : IsEx L) : (pers L).length ≤ 12 ∧ ∀ b ∈ pers L, 1 ≤ b ∧ b ≤ 12 := by
  have hp := ex_pm h
  have h12 := h.2.1
  have := sts_len L L.length
  refine ⟨by unfold pers; rw [List.length_map]; omega, fun b hb => ?_⟩
  unfold pers at hb
  rw [List.mem_map] at hb
  obtain ⟨i, hi, rfl⟩ := hb
  have := per_spec hp (sts_lt L _ i hi)
  omega
theorem lcF_take {L : List Int} (h : IsEx L) (j : Nat) : 1 ≤ lcF ((pers L).take j) 1 ∧ lcF ((pers L).take j) 1 ≤ 8916100448256 := by
  obtain ⟨h1, h2⟩ := pers_ok h
  have := lcF_le ((pers L).take j) (fun b hb => h2 b (List.mem_of_mem_take hb)) 12 (by rw [List.length_take]; omega) 1 (by omega)
  exact ⟨this.1, by have := this.2; omega⟩
theorem eachChainI_spec (L : List Int) (h : IsEx L) : Sp Try.prog 68 [ints L, .v (.func (.func 69) #[] #[])] (newInts ((pers L).map fun (p : Nat) => (p : Int))) := by
  have hp := ex_pm h
  have h12 := h.2.1
  have hsl := sts_len L L.length
  unfold pers
  generalize hS : sts L L.length = S at *
  have hlt : ∀ j ∈ S, j < L.length := fun j hj => sts_lt L L.length j (hS ▸ hj)
  rw [List.map_map]
  refine spec_of Try.func68 rfl cc68 rfl ?_
  unfold ac68
  repeat (first | (refine step_ops ?_; (first | (refine m_mov (by conv => lhs; whnf) ?_) | (refine m_nils ?_))) | refine end_ops ?_ | refine seq_ops ?_ | refine AW_seq ?_)
  (refine step_ops ?_); (apply m_call (chainsIn_spec L h)); (· repeat (first | exact lends_nil | (refine lends_cons ?_ ?_; (· (refine lend_ints ?_; first | rfl | omega)))))
  rw [hS]
  repeat (first | (refine step_ops ?_; (first | (refine m_mov (by conv => lhs; whnf) ?_) | (refine m_len_ro rfl ?_))) | refine end_ops ?_ | refine AW_block ?_)
  refine AW_loop (α := Nat) (fun j => j ≤ S.length) (fun j => st [(1, .v (.func (.func 69) #[] #[])), (5, .sl 5 1 0 ((S.take j).map fun a => ((per L a : Nat) : Int)).length), (9, .ro true 3 (chVs L S).flatten S.length), (10, .i S.length), (11, .i j)] [(5, (true, ((S.take j).map fun a => ((per L a : Nat) : Int)).map AV.i))]) (fun j => S.length - j) 0 (by omega)
    (weak_st ?_ ?_ rfl rfl) ?_
  · (repeat' (first | exact trivial | refine And.intro ?_ ?_)) <;> (first | rfl | skip)
  · (repeat' (first | exact trivial | refine And.intro ?_ ?_)) <;> (first | rfl | skip)
  intro j hj
  have htl : ((S.take j).map fun a => ((per L a : Nat) : Int)).length = j := by simp; omega
  have hcl := chVs_len L S
  by_cases hc : j < S.length
  · have hgm : S.getD j 0 ∈ S := by simp [hc]
    have hgl := hlt _ hgm
    have hat : (((chVs L S).flatten.drop (j * 3)).take 3) = chnV true L (S.getD j 0) := by
      rw [drop_flat _ 3 j (chVs_row L S) (by simpa [chVs] using hc)]
      simp [chVs, hc]
    have es : (S.take (j + 1)).map (fun a => ((per L a : Nat) : Int)) = (S.take j).map (fun a => ((per L a : Nat) : Int)) ++ [((per L (S.getD j 0) : Nat) : Int)] := by rw [take_snoc S j 0 hc, List.map_append]; rfl
    repeat (first | (refine step_ops ?_; (first | (refine m_lss rfl rfl ?_) | (refine m_idx_ro rfl rfl ?_ ?_ ?_; (· omega); (· omega)))) | refine end_ops ?_ | refine seq_ops ?_ | (refine cond_t rfl ?_ ?_; (· first | rfl | assumption | (refine decide_eq_true ?_; first | assumption | omega) | (refine nt ?_; first | assumption | omega) | (simp [*]; done))) | refine skip_then ?_ | refine AW_seq ?_ | refine AW_block ?_)
    refine step_ops ?_
    refine m_ldk_rp rfl (by simp only [List.length_drop, Int.toNat_natCast]; omega) ?_
    rw [Int.toNat_natCast, hat]
    repeat (first | (refine step_ops ?_; (first | (refine m_mov (by conv => lhs; whnf) ?_) | (refine m_alloc ?_) | (refine m_ldall rfl rfl ?_ ?_; (· first | rfl | (simp; done) | (simp [*]; done))) | (refine m_stall rfl rfl rfl ?_ ?_ ?_ ?_; (· first | rfl | (simp [*]; done)); (· first | rfl | (simp [*]; done)); (· first | rfl | (simp [cellOk, Value.oneCell']; done))))) | refine end_ops ?_ | refine AW_ops ?_)
    refine step_ops ?_
    refine m_callv rfl ⟨_, Try.func69, by rfl, by rfl⟩ (length_spec L (S.getD j 0) h hgl) ?_ ?_
    · exact lends_cons (lend_aggs (lends_cons lend_v (lends_cons lend_v (lends_cons (lend_ro (allv_ints _)) lends_nil)))) lends_nil
    repeat (first | (refine step_ops ?_; (first | (refine m_mov (by conv => lhs; whnf) ?_) | (refine m_add rfl rfl ?_ ?_ ?_; (· omega); (· omega)) | (refine m_bsl1 rfl rfl ?_) | (refine m_app1i rfl (by decide) (by rfl) (by first | rfl | omega | (simp; done)) rfl rfl ?_ (by decide) ?_; (· first | omega | (simp; omega))))) | refine end_ops ?_ | refine AW_ops ?_ | refine norm_then ?_ | refine norm_block ?_)
    refine next_round (j + 1) (by omega) (Weak.trans (weak_move (r := 20) (q := 5) rfl (by decide) (by decide)) (weak_st ?_ ?_ rfl rfl)) ?_
    · rw [es]
      (repeat' (first | exact trivial | refine And.intro ?_ ?_)) <;> (first | rfl | skip)
    · rw [es]
      exact ⟨rfl, trivial⟩
    · omega
  · repeat (first | (refine step_ops ?_; (first | (refine m_mov (by conv => lhs; whnf) ?_) | (refine m_lss rfl rfl ?_))) | refine end_ops ?_ | refine seq_ops ?_ | (refine cond_f rfl ?_ ?_; (· first | rfl | assumption | (refine decide_eq_false ?_; first | assumption | omega) | (refine nf ?_; first | assumption | omega) | (simp [*]; done))) | refine AW_seq ?_ | refine AW_ret ?_ | refine ret_done ?_ | refine norm_then ?_ | refine exit_then ?_ | refine exit_round ?_ | refine AW_exit ?_ | refine exit_block ?_)
    obtain rfl : j = S.length := by omega
    rw [List.take_length]
    exact outs_ints rfl rfl (by simp)
end Go.Proofs.Yteiipnadhalnbaa
namespace Go.Proofs.Yteiipnadhalnbaa
open Go.Am
attribute [local irreducible] AW Outs Weak Lends Lend Sp aops atree aop1 Then Round InBlock Done
theorem commonDivisor_spec (a b : Nat) : Sp Try.prog 81 [.i a, .i b] (.i (Nat.gcd a b)) := by
  refine spec_of Try.func81 rfl cc81 rfl ?_
  unfold ac81
  repeat (first | ((first | refine step_ops ?_ | refine step_tree ?_); (first | (refine m_mov (by conv => lhs; whnf) ?_) | (refine m_neq rfl rfl ?_) | (refine m_neqk rfl rfl ?_) | (refine m_neqs_self rfl rfl ?_) | (refine m_neqs rfl rfl ?_) | (refine m_rem rfl rfl ?_ ?_ ?_; (· omega); (· omega)))) | refine end_ops ?_ | refine seq_ops ?_ | refine AW_ops ?_ | refine end_tree ?_ | refine seq_tree ?_ | refine AW_tree ?_ | (refine cond_t rfl ?_ ?_; (· first | rfl | assumption | (refine decide_eq_true ?_; first | assumption | omega) | (refine nt ?_; first | assumption | omega) | (simp [*]; done))) | (refine cond_f rfl ?_ ?_; (· first | rfl | assumption | (refine decide_eq_false ?_; first | assumption | omega) | (refine nf ?_; first | assumption | omega) | (simp [*]; done))) | refine skip_then ?_ | refine AW_seq ?_ | refine AW_ret ?_ | refine ret_done ?_ | refine norm_then ?_ | refine ret_then ?_ | refine exit_then ?_ | refine AW_block ?_ | refine norm_block ?_ | refine ret_block ?_ | refine ret_round ?_ | refine exit_round ?_ | refine AW_exit ?_ | refine exit_block ?_ | (refine exit_other ?_ ?_; (· decide)) | refine AW_skip ?_)
  refine AW_loop (α := Nat × Nat) (fun q => Nat.gcd q.1 q.2 = Nat.gcd a b) (fun q => st [(0, .i q.1), (1, .i q.2)] []) (fun q => q.2) (a, b) rfl (weak_st ?_ ?_ rfl rfl) ?_
  · (repeat' (first | exact trivial | refine And.intro ?_ ?_)) <;> (first | rfl | skip)
  · trivial
  rintro ⟨u, v⟩ hq
  dsimp only at hq ⊢
  by_cases hc : v = 0
  · subst hc
    have hc' : ((0 : Nat) : Int) = 0 := rfl
    repeat (first | ((first | refine step_ops ?_ | refine step_tree ?_); (first | (refine m_mov (by conv => lhs; whnf) ?_) | (refine m_neq rfl rfl ?_) | (refine m_neqk rfl rfl ?_) | (refine m_neqs_self rfl rfl ?_) | (refine m_neqs rfl rfl ?_) | (refine m_rem rfl rfl ?_ ?_ ?_; (· omega); (· omega)))) | refine end_ops ?_ | refine seq_ops ?_ | refine AW_ops ?_ | refine end_tree ?_ | refine seq_tree ?_ | refine AW_tree ?_ | (refine cond_t rfl ?_ ?_; (· first | rfl | assumption | (refine decide_eq_true ?_; first | assumption | omega) | (refine nt ?_; first | assumption | omega) | (simp [*]; done))) | (refine cond_f rfl ?_ ?_; (· first | rfl | assumption | (refine decide_eq_false ?_; first | assumption | omega) | (refine nf ?_; first | assumption | omega) | (simp [*]; done))) | refine skip_then ?_ | refine AW_seq ?_ | refine AW_ret ?_ | refine ret_done ?_ | refine norm_then ?_ | refine ret_then ?_ | refine exit_then ?_ | refine AW_block ?_ | refine norm_block ?_ | refine ret_block ?_ | refine ret_round ?_ | refine exit_round ?_ | refine AW_exit ?_ | refine exit_block ?_ | (refine exit_other ?_ ?_; (· decide)) | refine AW_skip ?_)
    refine outs_i ?_
    rw [← hq, Nat.gcd_zero_right]
  · have hc' : ¬ (v : Int) = 0 := by omega
    repeat (first | ((first | refine step_ops ?_ | refine step_tree ?_); (first | (refine m_mov (by conv => lhs; whnf) ?_) | (refine m_neq rfl rfl ?_) | (refine m_neqk rfl rfl ?_) | (refine m_neqs_self rfl rfl ?_) | (refine m_neqs rfl rfl ?_) | (refine m_rem rfl rfl ?_ ?_ ?_; (· omega); (· omega)))) | refine end_ops ?_ | refine seq_ops ?_ | refine AW_ops ?_ | refine end_tree ?_ | refine seq_tree ?_ | refine AW_tree ?_ | (refine cond_t rfl ?_ ?_; (· first | rfl | assumption | (refine decide_eq_true ?_; first | assumption | omega) | (refine nt ?_; first | assumption | omega) | (simp [*]; done))) | (refine cond_f rfl ?_ ?_; (· first | rfl | assumption | (refine decide_eq_false ?_; first | assumption | omega) | (refine nf ?_; first | assumption | omega) | (simp [*]; done))) | refine skip_then ?_ | refine AW_seq ?_ | refine AW_ret ?_ | refine ret_done ?_ | refine norm_then ?_ | refine ret_then ?_ | refine exit_then ?_ | refine AW_block ?_ | refine norm_block ?_ | refine ret_block ?_ | refine ret_round ?_ | refine exit_round ?_ | refine AW_exit ?_ | refine exit_block ?_ | (refine exit_other ?_ ?_; (· decide)) | refine AW_skip ?_)
    refine next_round (v, u % v) ?_ (weak_st ?_ ?_ rfl rfl) ?_
    · dsimp only
      rw [← hq, Nat.gcd_comm u v, Nat.gcd_rec v u, Nat.gcd_comm]
    · (repeat' (first | exact trivial | refine And.intro ?_ ?_)) <;> (first | rfl | skip)
    · trivial
    · exact Nat.mod_lt _ (by omega)
end Go.Proofs.Yteiipnadhalnbaa
namespace Go.Proofs.Yteiipnadhalnbaa
open Go.Am
attribute [local irreducible] AW Outs Weak Lends Lend Sp aops atree aop1 Then Round InBlock Done
attribute [local irreducible] SpH DoneH
/-- What TimesToRight tells. -/
def timesR (L : List Int) : AV := .tup [.i (if IsEx L then (timesF L : Int) else 0), .b (decide (IsEx L))]
theorem specTimesToRight_spec (L : List Int) (hL : L.length ≤ 1048576) : Sp Try.prog 50 [ints L] (timesR L) := by
  unfold timesR
  refine spec_of Try.func50 rfl cc50 rfl ?_
  unfold ac50
  by_cases h : IsEx L
  · have hp := ex_pm h
    have h12 := h.2.1
    have ech : chs L = (sts L L.length).map (chn L) := chs_sts L L.length
    have hpl : (pers L).length = (chs L).length := by rw [ech]; simp [pers]
    have hcl : (chs L).length ≤ L.length := chsTo_len L L.length
    repeat (first | (refine step_ops ?_; (refine m_mov (by conv => lhs; whnf) ?_)) | refine end_ops ?_ | refine seq_ops ?_ | refine AW_seq ?_)
    refine step_ops ?_; (apply m_call (exGood_spec L hL)); (· repeat (first | exact lends_nil | (refine lends_cons ?_ ?_; (· (refine lend_ints ?_; first | rfl | omega)))))
    repeat (first | (refine step_ops ?_; (first | (refine m_mov (by conv => lhs; whnf) ?_) | (refine m_not rfl ?_))) | refine end_ops ?_ | refine seq_ops ?_ | (refine cond_f rfl ?_ ?_; (· first | rfl | assumption | (refine decide_eq_false ?_; first | assumption | omega) | (refine nf ?_; first | assumption | omega) | (simp [*]; done))) | refine skip_then ?_ | refine AW_seq ?_)
    refine step_ops ?_; (apply m_call (sp_mat1 (exChains_spec L h))); (· repeat (first | exact lends_nil | (refine lends_cons ?_ ?_; (· (refine lend_ints ?_; first | rfl | omega)))))
    repeat (first | (refine step_ops ?_; (first | (refine m_mov (by conv => lhs; whnf) ?_) | (refine m_len_ro rfl ?_))) | refine end_ops ?_ | refine AW_block ?_)
    refine AW_loop (α := Nat) (fun j => j ≤ (chs L).length) (fun j => st [(4, .i (lcF ((pers L).take j) 1 : Nat)), (13, roF (chs L)), (14, .i (chs L).length), (15, .i j)] []) (fun j => (chs L).length - j) 0 (by omega) (weak_st ?_ ?_ rfl rfl) ?_
    · (repeat' (first | exact trivial | refine And.intro ?_ ?_)) <;> (first | rfl | skip)
    · trivial
    intro j hj
    by_cases hc : j < (chs L).length
    · have hb := lcF_take h j
      have hb1 := lcF_take h (j + 1)
      have hpj : ((chs L).getD j []).length = (pers L).getD j 0 := by
        rw [ech]
        have hjs : j < (sts L L.length).length := by rw [ech] at hc; simpa using hc
        simp [pers, hjs, chn, chT_len]
      have hpo := (pers_ok h).2 ((pers L).getD j 0) (by have : j < (pers L).length := by omega
                                                        simp [this])
      rw [take_snoc (pers L) j 0 (by omega), lcF_snoc] at hb1
      have hat : (((chs L).map newInts).drop j)[0]? = some (newInts ((chs L).getD j [])) := by simp [hc]
      generalize hA : lcF ((pers L).take j) 1 = A at *
      generalize hB : (pers L).getD j 0 = B at *
      repeat (first | (refine step_ops ?_; (first | (refine m_lss rfl rfl ?_) | (refine m_idx1_ro rfl rfl ?_ ?_; (· omega)))) | refine end_ops ?_ | refine seq_ops ?_ | (refine cond_t rfl ?_ ?_; (· first | rfl | assumption | (refine decide_eq_true ?_; first | assumption | omega) | (refine nt ?_; first | assumption | omega) | (simp [*]; done))) | refine skip_then ?_ | refine AW_seq ?_ | refine AW_block ?_)
      refine step_ops ?_
      refine m_ld_rp rfl hat ?_
      repeat (first | (refine step_ops ?_; (first | (refine m_mov (by conv => lhs; whnf) ?_) | (refine m_len_ro rfl ?_))) | refine end_ops ?_ | refine seq_ops ?_ | refine AW_seq ?_ | refine AW_block ?_)
      rw [hpj]
      refine AW_loop (α := Nat × Nat) (fun q => Nat.gcd q.1 q.2 = Nat.gcd A B ∧ q.1 ≤ 8916100448256 ∧ q.2 ≤ 8916100448256) (fun q => st [(4, .i A), (6, .ro true 1 (((chs L).getD j []).map AV.i) B), (7, .i q.1), (8, .i q.2), (13, roF (chs L)), (14, .i (chs L).length), (15, .i j)] []) (fun q => q.2) (A, B) ⟨rfl, by dsimp only; omega, by dsimp only; omega⟩ (weak_st ?_ ?_ rfl rfl) ?_
      · (repeat' (first | exact trivial | refine And.intro ?_ ?_)) <;> (first | rfl | skip)
      · trivial
      rintro ⟨u, v⟩ ⟨hq, hu, hv⟩
      dsimp only at hq hu hv ⊢
      by_cases hcv : v = 0
      · subst hcv
        rw [Nat.gcd_zero_right] at hq
        have hu0 : 0 < u := by rw [hq]; exact Nat.gcd_pos_of_pos_left _ (by omega)
        have hdiv : (A : Int) / (u : Int) = ((A / u : Nat) : Int) := rfl
        have hmul : ((A / u : Nat) : Int) * (B : Int) = ((A / u * B : Nat) : Int) := by rw [Int.natCast_mul]
        rw [← hq] at hb1
        repeat (first | (refine step_ops ?_; (first | (refine m_mov (by conv => lhs; whnf) ?_) | (refine m_gtr rfl rfl ?_) | (refine m_len_ro rfl ?_) | (refine m_quo rfl rfl ?_ ?_ ?_ ?_; (· omega); (· omega); (· omega)))) | refine end_ops ?_ | refine seq_ops ?_ | refine AW_ops ?_ | (refine cond_f rfl ?_ ?_; (· first | rfl | assumption | (refine decide_eq_false ?_; first | assumption | omega) | (refine nf ?_; first | assumption | omega) | (simp [*]; done))) | refine AW_seq ?_ | refine norm_then ?_ | refine exit_then ?_ | refine exit_round ?_ | refine AW_exit ?_ | refine exit_block ?_)
        rw [hdiv]
        refine step_ops ?_
        refine m_mul rfl rfl (by rw [hmul]; omega) (by rw [hmul]; omega) ?_
        rw [hmul]
        repeat (first | (refine step_ops ?_; (first | (refine m_mov (by conv => lhs; whnf) ?_) | (refine m_add rfl rfl ?_ ?_ ?_; (· omega); (· omega)))) | refine end_ops ?_ | refine AW_ops ?_ | refine norm_then ?_ | refine norm_block ?_)
        refine next_round (j + 1) (by omega) (weak_st ?_ ?_ rfl rfl) ?_
        · rw [take_snoc (pers L) j 0 (by omega), lcF_snoc, hA, hB, ← hq]
          (repeat' (first | exact trivial | refine And.intro ?_ ?_)) <;> (first | rfl | skip)
        · trivial
        · omega
      · have hc' : 0 < (v : Int) := by omega
        have hm := Nat.mod_lt u (show v > 0 by omega)
        repeat (first | ((first | refine step_ops ?_ | refine step_tree ?_); (first | (refine m_mov (by conv => lhs; whnf) ?_) | (refine m_gtr rfl rfl ?_) | (refine m_rem rfl rfl ?_ ?_ ?_; (· omega); (· omega)))) | refine end_ops ?_ | refine seq_ops ?_ | refine end_tree ?_ | refine AW_tree ?_ | (refine cond_t rfl ?_ ?_; (· first | rfl | assumption | (refine decide_eq_true ?_; first | assumption | omega) | (refine nt ?_; first | assumption | omega) | (simp [*]; done))) | refine skip_then ?_ | refine AW_seq ?_ | refine AW_block ?_ | refine norm_block ?_)
        refine next_round (v, u % v) ⟨?_, hv, by dsimp only; omega⟩ (weak_st ?_ ?_ rfl rfl) ?_
        · dsimp only
          rw [← hq, Nat.gcd_comm u v, Nat.gcd_rec v u, Nat.gcd_comm]
        · (repeat' (first | exact trivial | refine And.intro ?_ ?_)) <;> (first | rfl | skip)
        · trivial
        · exact hm
    · repeat (first | (refine step_ops ?_; (first | (refine m_mov (by conv => lhs; whnf) ?_) | (refine m_lss rfl rfl ?_))) | refine end_ops ?_ | refine seq_ops ?_ | (refine cond_f rfl ?_ ?_; (· first | rfl | assumption | (refine decide_eq_false ?_; first | assumption | omega) | (refine nf ?_; first | assumption | omega) | (simp [*]; done))) | refine AW_seq ?_ | refine AW_ret ?_ | refine ret_done ?_ | refine norm_then ?_ | refine exit_then ?_ | refine exit_round ?_ | refine AW_exit ?_ | refine exit_block ?_)
      obtain rfl : j = (chs L).length := by omega
      rw [← hpl, List.take_length]
      refine outs_tup2 (outs_i ?_) (outs_b ?_) <;> simp [h, timesF]
  · repeat (first | (refine step_ops ?_; (refine m_mov (by conv => lhs; whnf) ?_)) | refine end_ops ?_ | refine seq_ops ?_ | refine AW_seq ?_)
    refine step_ops ?_; (apply m_call (exGood_spec L hL)); (· repeat (first | exact lends_nil | (refine lends_cons ?_ ?_; (· (refine lend_ints ?_; first | rfl | omega)))))
    repeat (first | (refine step_ops ?_; (first | (refine m_mov (by conv => lhs; whnf) ?_) | (refine m_not rfl ?_))) | refine end_ops ?_ | refine seq_ops ?_ | (refine cond_t rfl ?_ ?_; (· first | rfl | assumption | (refine decide_eq_true ?_; first | assumption | omega) | (refine nt ?_; first | assumption | omega) | (simp [*]; done))) | refine AW_ret ?_ | refine ret_done ?_ | refine ret_then ?_)
    refine outs_tup2 (outs_i ?_) (outs_b ?_) <;> simp [h]
end Go.Proofs.Yteiipnadhalnbaa
namespace Go.Am
variable {P : Program} {own : Bool} {N : Nat} {s : AS} {K : AS → Prop} {d : Option Nat}
/-- The end of a function that is given regions. -/
def DoneT (ts : List Nat) (res : AV) (hin hout : Hp) : Exit → AS → Prop
  | .normal, s | .ret, s => ∃ g : Nat → Nat, resAV s ts = renV g res ∧ (∀ r c, hout r = some c → ∃ c0, s.hp (g r) = some c0 ∧ (c0 = renR g c ∨ (c.2 = [] ∧ c0.2 = []))) ∧ (∀ r, (hin r).isSome = true → r < gvb → g r = r ∧ (hout r).isSome = true) ∧
      (∀ r, (hout r).isSome = true → hin r = none → g r < pbase) ∧ (∀ r r', (hout r).isSome = true → (hout r').isSome = true → g r = g r' → r = r') ∧ ∀ r, (hout r).isSome = true → r < gvb
  | _, _ => False
end Go.Am
namespace Go.Am
theorem lend_pzl {hp : Hp} {g : Int} {C : List Clu} {fr : Bool} : Lend hp (.agg [.i g, .ro fr 3 (cls C) C.length]) (pzl g C) := lend_aggs (lends_cons lend_v (lends_cons (lend_ro (cls_plain C)) lends_nil))
theorem lend_cls {hp : Hp} {C : List Clu} {fr : Bool} : Lend hp (.ro fr 3 (cls C) C.length) (.ro false 3 (cls C) C.length) := lend_ro (cls_plain C)
end Go.Am
namespace Go.Proofs.Yteiipnadhalnbaa
open Go.Am
attribute [local irreducible] AW Outs Weak Lends Lend Sp aops atree aop1 Then Round InBlock Done
attribute [local irreducible] SpM DoneM
theorem eqClue_spec (k a b l c d : Int) : Sp Try.prog 44 [.agg [.i k, .i a, .i b], .agg [.i l, .i c, .i d]] (.b (decide (((k, a, b) : Clu) = (l, c, d)))) := by
  have e : decide (((k, a, b) : Clu) = (l, c, d)) = decide (k = l ∧ a = c ∧ b = d) := by simp
  rw [e]
  refine spec_of Try.func44 rfl cc44 rfl ?_
  unfold ac44
  refine seq_ops ?_
  refine step_ops ?_
  refine m_box (l := [.i k, .i a, .i b]) rfl rfl ?_
  refine step_ops ?_
  refine m_box (l := [.i l, .i c, .i d]) rfl rfl ?_
  by_cases h1 : k = l
  · by_cases h2 : a = c
    · by_cases h3 : b = d
      · repeat (first | (refine step_ops ?_; (first | (refine m_mov (by conv => lhs; whnf) ?_) | (refine m_neq rfl rfl ?_) | (apply m_ld_pt; (· rfl); (· rfl); (· rfl)) | (refine m_fa rfl ?_))) | refine end_ops ?_ | refine seq_ops ?_ | (refine cond_f rfl ?_ ?_; (· first | rfl | assumption | (refine decide_eq_false ?_; first | assumption | omega) | (refine nf ?_; first | assumption | omega) | (simp [*]; done))) | refine skip_then ?_ | refine AW_seq ?_ | refine AW_ret ?_ | refine ret_done ?_)
        exact outs_b (by simp [h1, h2, h3])
      · repeat (first | (refine step_ops ?_; (first | (refine m_mov (by conv => lhs; whnf) ?_) | (refine m_neq rfl rfl ?_) | (apply m_ld_pt; (· rfl); (· rfl); (· rfl)) | (refine m_fa rfl ?_))) | refine end_ops ?_ | refine seq_ops ?_ | (refine cond_t rfl ?_ ?_; (· first | rfl | assumption | (refine decide_eq_true ?_; first | assumption | omega) | (refine nt ?_; first | assumption | omega) | (simp [*]; done))) | (refine cond_f rfl ?_ ?_; (· first | rfl | assumption | (refine decide_eq_false ?_; first | assumption | omega) | (refine nf ?_; first | assumption | omega) | (simp [*]; done))) | refine skip_then ?_ | refine AW_seq ?_ | refine AW_ret ?_ | refine ret_done ?_ | refine ret_then ?_)
        exact outs_b (by simp [h3])
    · repeat (first | (refine step_ops ?_; (first | (refine m_mov (by conv => lhs; whnf) ?_) | (refine m_neq rfl rfl ?_) | (apply m_ld_pt; (· rfl); (· rfl); (· rfl)) | (refine m_fa rfl ?_))) | refine end_ops ?_ | refine seq_ops ?_ | (refine cond_t rfl ?_ ?_; (· first | rfl | assumption | (refine decide_eq_true ?_; first | assumption | omega) | (refine nt ?_; first | assumption | omega) | (simp [*]; done))) | (refine cond_f rfl ?_ ?_; (· first | rfl | assumption | (refine decide_eq_false ?_; first | assumption | omega) | (refine nf ?_; first | assumption | omega) | (simp [*]; done))) | refine skip_then ?_ | refine AW_seq ?_ | refine AW_ret ?_ | refine ret_done ?_ | refine ret_then ?_)
      exact outs_b (by simp [h2])
  · repeat (first | (refine step_ops ?_; (first | (refine m_mov (by conv => lhs; whnf) ?_) | (refine m_neq rfl rfl ?_) | (apply m_ld_pt; (· rfl); (· rfl); (· rfl)) | (refine m_fa rfl ?_))) | refine end_ops ?_ | refine seq_ops ?_ | (refine cond_t rfl ?_ ?_; (· first | rfl | assumption | (refine decide_eq_true ?_; first | assumption | omega) | (refine nt ?_; first | assumption | omega) | (simp [*]; done))) | refine AW_seq ?_ | refine AW_ret ?_ | refine ret_done ?_ | refine ret_then ?_)
    exact outs_b (by simp [h1])
theorem eqClueS_spec (C D : List Clu) (hC : C.length ≤ 1048576) : Sp Try.prog 27 [.ro false 3 (cls C) C.length, .ro false 3 (cls D) D.length] (.b (decide (C = D))) := by
  refine spec_of Try.func27 rfl cc27 rfl ?_
  unfold ac27
  by_cases hlen : C.length = D.length
  · have hlen' : (decide ((C.length : Int) ≠ D.length)) = false := by simp [hlen]
    repeat (first | (refine step_ops ?_; (first | (refine m_mov (by conv => lhs; whnf) ?_) | (refine m_neq rfl rfl ?_) | (refine m_len_ro rfl ?_))) | refine end_ops ?_ | refine seq_ops ?_ | (refine cond_f rfl ?_ ?_; (· first | rfl | assumption | (refine decide_eq_false ?_; first | assumption | omega) | (refine nf ?_; first | assumption | omega) | (simp [*]; done))) | refine skip_then ?_ | refine AW_seq ?_ | refine AW_block ?_)
    refine AW_loop (α := Nat) (fun k => k ≤ C.length ∧ C.take k = D.take k) (fun k => st [(0, .ro false 3 (cls C) C.length), (1, .ro false 3 (cls D) D.length), (5, .i k)] []) (fun k => C.length - k) 0 (by simp) (weak_st ?_ ?_ rfl rfl) ?_
    · (repeat' (first | exact trivial | refine And.intro ?_ ?_)) <;> (first | rfl | skip)
    · trivial
    rintro k ⟨hk, he⟩
    by_cases h : k < C.length
    · have h' : k < D.length := by omega
      have hsn := take_snoc C k (0, 0, 0) h
      have hsn' := take_snoc D k (0, 0, 0) h'
      have hne : C.getD k (0, 0, 0) ≠ D.getD k (0, 0, 0) → ¬ C = D := fun hx e => hx (by rw [e])
      rcases hce : C.getD k (0, 0, 0) with ⟨c1, c2, c3⟩
      rcases hcd : D.getD k (0, 0, 0) with ⟨d1, d2, d3⟩
      rw [hce] at hsn
      rw [hcd] at hsn'
      rw [hce, hcd] at hne
      have heq := eqClue_spec c1 c2 c3 d1 d2 d3
      by_cases hx : ((c1, c2, c3) : Clu) = (d1, d2, d3)
      · rw [decide_eq_true hx] at heq
        repeat (first | ((first | refine step_ops ?_ | refine step_tree ?_); (first | (refine m_mov (by conv => lhs; whnf) ?_) | (refine m_lss rfl rfl ?_) | (refine m_len_ro rfl ?_) | (refine m_idx_ro rfl rfl ?_ ?_ ?_; (· omega); (· omega)))) | refine end_ops ?_ | refine seq_ops ?_ | refine seq_tree ?_ | (refine cond_t rfl ?_ ?_; (· first | rfl | assumption | (refine decide_eq_true ?_; first | assumption | omega) | (refine nt ?_; first | assumption | omega) | (simp [*]; done))) | refine skip_then ?_ | refine AW_seq ?_ | refine AW_block ?_)
        refine step_tree ?_
        refine m_ldClu h hce rfl ?_
        repeat (refine step_tree ?_; (first | (refine m_mov (by conv => lhs; whnf) ?_) | (refine m_idx_ro rfl rfl ?_ ?_ ?_; (· omega); (· omega))))
        refine step_tree ?_
        refine m_ldClu h' hcd rfl ?_
        skip
        refine step_tree ?_; (apply m_call (heq)); (· repeat (first | exact lends_nil | (refine lends_cons ?_ ?_; (· (refine lend_agg ?_; first | rfl | assumption | (simp [plainV]; done))))))
        repeat (first | ((first | refine step_ops ?_ | refine step_tree ?_); (first | (refine m_mov (by conv => lhs; whnf) ?_) | (refine m_add rfl rfl ?_ ?_ ?_; (· omega); (· omega)) | (refine m_not rfl ?_))) | refine end_ops ?_ | refine AW_ops ?_ | refine end_tree ?_ | (refine cond_f rfl ?_ ?_; (· first | rfl | assumption | (refine decide_eq_false ?_; first | assumption | omega) | (refine nf ?_; first | assumption | omega) | (simp [*]; done))) | refine norm_then ?_ | refine norm_block ?_ | refine AW_skip ?_)
        refine next_round (k + 1) ⟨h, ?_⟩ (weak_st ?_ ?_ rfl rfl) ?_
        · rw [hsn, hsn', he, hx]
        · (repeat' (first | exact trivial | refine And.intro ?_ ?_)) <;> (first | rfl | skip)
        · trivial
        · omega
      · rw [decide_eq_false hx] at heq
        repeat (first | ((first | refine step_ops ?_ | refine step_tree ?_); (first | (refine m_mov (by conv => lhs; whnf) ?_) | (refine m_lss rfl rfl ?_) | (refine m_len_ro rfl ?_) | (refine m_idx_ro rfl rfl ?_ ?_ ?_; (· omega); (· omega)))) | refine end_ops ?_ | refine seq_ops ?_ | refine seq_tree ?_ | (refine cond_t rfl ?_ ?_; (· first | rfl | assumption | (refine decide_eq_true ?_; first | assumption | omega) | (refine nt ?_; first | assumption | omega) | (simp [*]; done))) | refine skip_then ?_ | refine AW_seq ?_ | refine AW_block ?_)
        refine step_tree ?_
        refine m_ldClu h hce rfl ?_
        repeat (refine step_tree ?_; (first | (refine m_mov (by conv => lhs; whnf) ?_) | (refine m_idx_ro rfl rfl ?_ ?_ ?_; (· omega); (· omega))))
        refine step_tree ?_
        refine m_ldClu h' hcd rfl ?_
        skip
        refine step_tree ?_; (apply m_call (heq)); (· repeat (first | exact lends_nil | (refine lends_cons ?_ ?_; (· (refine lend_agg ?_; first | rfl | assumption | (simp [plainV]; done))))))
        repeat (first | ((first | refine step_ops ?_ | refine step_tree ?_); (first | (refine m_mov (by conv => lhs; whnf) ?_) | (refine m_not rfl ?_))) | refine end_ops ?_ | refine seq_ops ?_ | refine end_tree ?_ | (refine cond_t rfl ?_ ?_; (· first | rfl | assumption | (refine decide_eq_true ?_; first | assumption | omega) | (refine nt ?_; first | assumption | omega) | (simp [*]; done))) | refine AW_ret ?_ | refine ret_done ?_ | refine ret_then ?_ | refine ret_block ?_ | refine ret_round ?_)
        exact outs_b (decide_eq_false (hne hx)).symm
    · obtain rfl : k = C.length := by omega
      rw [List.take_length, List.take_of_length_le (by omega)] at he
      repeat (first | (refine step_ops ?_; (first | (refine m_mov (by conv => lhs; whnf) ?_) | (refine m_lss rfl rfl ?_) | (refine m_len_ro rfl ?_))) | refine end_ops ?_ | refine seq_ops ?_ | (refine cond_f rfl ?_ ?_; (· first | rfl | assumption | (refine decide_eq_false ?_; first | assumption | omega) | (refine nf ?_; first | assumption | omega) | (simp [*]; done))) | refine AW_seq ?_ | refine AW_ret ?_ | refine ret_done ?_ | refine norm_then ?_ | refine exit_then ?_ | refine exit_round ?_ | refine AW_exit ?_ | refine exit_block ?_)
      exact outs_b (decide_eq_true he).symm
  · have hlen' : (decide ((C.length : Int) ≠ D.length)) = true := by simp; omega
    repeat (first | (refine step_ops ?_; (first | (refine m_mov (by conv => lhs; whnf) ?_) | (refine m_neq rfl rfl ?_) | (refine m_len_ro rfl ?_))) | refine end_ops ?_ | refine seq_ops ?_ | (refine cond_t rfl ?_ ?_; (· first | rfl | assumption | (refine decide_eq_true ?_; first | assumption | omega) | (refine nt ?_; first | assumption | omega) | (simp [*]; done))) | refine AW_seq ?_ | refine AW_ret ?_ | refine ret_done ?_ | refine ret_then ?_)
    exact outs_b (decide_eq_false fun e => hlen (by rw [e])).symm
theorem eqPuzzle_spec (g h : Int) (C D : List Clu) (hC : C.length ≤ 1048576) : Sp Try.prog 11 [pzl g C, pzl h D] (.b (decide (g = h ∧ C = D))) := by
  have hs := eqClueS_spec C D hC
  refine spec_of Try.func11 rfl cc11 rfl ?_
  unfold ac11
  by_cases hc : g = h
  · by_cases hx : C = D
    · rw [decide_eq_true hx] at hs
      repeat (first | (refine step_ops ?_; (first | (refine m_mov (by conv => lhs; whnf) ?_) | (refine m_neq rfl rfl ?_) | (apply m_ld_pt; (· rfl); (· rfl); (· rfl)) | (refine m_fa rfl ?_) | (refine m_box rfl ?_ ?_; (· first | rfl | (simp [cellOk, Value.oneCell']; done))))) | refine end_ops ?_ | refine seq_ops ?_ | (refine cond_f rfl ?_ ?_; (· first | rfl | assumption | (refine decide_eq_false ?_; first | assumption | omega) | (refine nf ?_; first | assumption | omega) | (simp [*]; done))) | refine skip_then ?_ | refine AW_seq ?_)
      (refine step_ops ?_); (apply m_call (hs)); (· repeat (first | exact lends_nil | (refine lends_cons ?_ ?_; (· exact lend_cls))))
      repeat (first | (refine step_ops ?_; (first | (refine m_mov (by conv => lhs; whnf) ?_) | (refine m_not rfl ?_))) | refine end_ops ?_ | refine seq_ops ?_ | (refine cond_f rfl ?_ ?_; (· first | rfl | assumption | (refine decide_eq_false ?_; first | assumption | omega) | (refine nf ?_; first | assumption | omega) | (simp [*]; done))) | refine skip_then ?_ | refine AW_ret ?_ | refine ret_done ?_)
      exact outs_b (by simp [hc, hx])
    · rw [decide_eq_false hx] at hs
      repeat (first | (refine step_ops ?_; (first | (refine m_mov (by conv => lhs; whnf) ?_) | (refine m_neq rfl rfl ?_) | (apply m_ld_pt; (· rfl); (· rfl); (· rfl)) | (refine m_fa rfl ?_) | (refine m_box rfl ?_ ?_; (· first | rfl | (simp [cellOk, Value.oneCell']; done))))) | refine end_ops ?_ | refine seq_ops ?_ | (refine cond_f rfl ?_ ?_; (· first | rfl | assumption | (refine decide_eq_false ?_; first | assumption | omega) | (refine nf ?_; first | assumption | omega) | (simp [*]; done))) | refine skip_then ?_ | refine AW_seq ?_)
      (refine step_ops ?_); (apply m_call (hs)); (· repeat (first | exact lends_nil | (refine lends_cons ?_ ?_; (· exact lend_cls))))
      repeat (first | (refine step_ops ?_; (first | (refine m_mov (by conv => lhs; whnf) ?_) | (refine m_not rfl ?_))) | refine end_ops ?_ | refine seq_ops ?_ | (refine cond_t rfl ?_ ?_; (· first | rfl | assumption | (refine decide_eq_true ?_; first | assumption | omega) | (refine nt ?_; first | assumption | omega) | (simp [*]; done))) | refine AW_ret ?_ | refine ret_done ?_ | refine ret_then ?_)
      exact outs_b (by simp [hx])
  · repeat (first | (refine step_ops ?_; (first | (refine m_mov (by conv => lhs; whnf) ?_) | (refine m_neq rfl rfl ?_) | (apply m_ld_pt; (· rfl); (· rfl); (· rfl)) | (refine m_fa rfl ?_) | (refine m_box rfl ?_ ?_; (· first | rfl | (simp [cellOk, Value.oneCell']; done))))) | refine end_ops ?_ | refine seq_ops ?_ | (refine cond_t rfl ?_ ?_; (· first | rfl | assumption | (refine decide_eq_true ?_; first | assumption | omega) | (refine nt ?_; first | assumption | omega) | (simp [*]; done))) | refine AW_seq ?_ | refine AW_ret ?_ | refine ret_done ?_ | refine ret_then ?_)
    exact outs_b (by simp [hc])
end Go.Proofs.Yteiipnadhalnbaa
namespace Go.Am
/-- k, k + 1, .. in clues. -/
def mkC (k : Int) (n : Nat) : List Clu := (List.range n).map fun (i : Nat) => (k + 3 * i, k + 3 * i + 1, k + 3 * i + 2)
theorem mkC_len (k : Int) (n : Nat) : (mkC k n).length = n := by simp [mkC]
theorem mkC_succ (k : Int) (n : Nat) : mkC k (n + 1) = mkC k n ++ [(k + 3 * n, k + 3 * n + 1, k + 3 * n + 2)] := by simp [mkC, List.range_succ]
theorem mkC_get (k : Int) (n i : Nat) (h : i < n) : (mkC k n).getD i (0, 0, 0) = (k + 3 * i, k + 3 * i + 1, k + 3 * i + 2) := by simp [mkC, h]
def mkdC (C : List Clu) (k : Int) (j : Nat) : List Clu := mkC k j ++ C.drop j
theorem mkdC_len (C : List Clu) (k : Int) (j : Nat) (h : j ≤ C.length) : (mkdC C k j).length = C.length := by simp [mkdC, mkC_len]; omega
theorem mkdC_zero (C : List Clu) (k : Int) : mkdC C k 0 = C := by simp [mkdC, mkC]
theorem mkdC_all (C : List Clu) (k : Int) : mkdC C k C.length = mkC k C.length := by simp [mkdC]
theorem mkdC_set (C : List Clu) (k : Int) (j : Nat) (h : j < C.length) : (mkdC C k j).set j (k + 3 * j, k + 3 * j + 1, k + 3 * j + 2) = mkdC C k (j + 1) := by
  unfold mkdC
  rw [mkC_succ, List.set_append_right _ _ (by rw [mkC_len]; omega), mkC_len, Nat.sub_self, List.drop_eq_getElem_cons h, List.set_cons_zero]
  simp
theorem cls_set3 {C : List Clu} {k : Nat} {a b c : Int} (h : k < C.length) : (((cls C).set (k * 3) (.i a)).set (k * 3 + 1) (.i b)).set (k * 3 + 2) (.i c) = cls (C.set k (a, b, c)) := by
  have hl := cls_len C
  rw [← cls_put (a, b, c) h]
  apply List.ext_getElem?
  intro i
  have e : ((cls C).take (k * 3)).length = k * 3 := by rw [List.length_take, hl]; omega
  by_cases h1 : i < k * 3
  · rw [List.append_assoc, List.getElem?_append_left (by omega), List.getElem?_take, if_pos h1, List.getElem?_set_ne (by omega), List.getElem?_set_ne (by omega), List.getElem?_set_ne (by omega)]
  · rw [List.append_assoc, List.getElem?_append_right (by omega), e]
    rcases (show i = k * 3 ∨ i = k * 3 + 1 ∨ i = k * 3 + 2 ∨ k * 3 + 3 ≤ i by omega) with rfl | rfl | rfl | h2
    · rw [List.getElem?_set_ne (by omega), List.getElem?_set_ne (by omega), List.getElem?_set_self (by omega), Nat.sub_self]
      rfl
    · rw [List.getElem?_set_ne (by omega), List.getElem?_set_self (by rw [List.length_set]; omega), Nat.add_sub_cancel_left]
      rfl
    · rw [List.getElem?_set_self (by rw [List.length_set, List.length_set]; omega), Nat.add_sub_cancel_left]
      rfl
    · rw [List.getElem?_set_ne (by omega), List.getElem?_set_ne (by omega), List.getElem?_set_ne (by omega), List.getElem?_append_right (by simp [cC]; omega), List.getElem?_drop]
      congr 1
      simp [cC]
      omega
end Go.Am
namespace Go.Proofs.Yteiipnadhalnbaa
open Go.Am
attribute [local irreducible] AW Outs Weak Lends Lend Sp aops atree aop1 Then Round InBlock Done
attribute [local irreducible] SpM DoneM SpH DoneH
theorem markClueS_spec (C : List Clu) (k : Int) (hC : C.length ≤ 1048576) (h0 : 0 ≤ k) (h1 : k ≤ 1099511627776) :
    SpM Try.prog 28 3 C.length (cls C) [.i k] (.i (k + 3 * C.length)) (cls (mkC k C.length)) := by
  refine specM_of Try.func28 rfl cc28 rfl (by first | exact allv_ints _ | exact txs_plain _ | exact cls_plain _) (by first | exact allv_ints _ | exact txs_plain _ | exact cls_plain _) rfl ?_
  unfold ac28
  repeat (first | (refine step_ops ?_; (refine m_mov (by conv => lhs; whnf) ?_)) | refine end_ops ?_ | refine seq_ops ?_ | refine AW_seq ?_ | refine AW_block ?_)
  refine AW_loop (α := Nat) (fun j => j ≤ C.length) (fun j => st [(0, .sl pbase 3 0 C.length), (1, .i (k + 3 * j)), (5, .i j)] [(pbase, (true, cls (mkdC C k j)))]) (fun j => C.length - j) 0 (by omega) (weak_st ?_ ?_ rfl rfl) ?_
  · refine ⟨rfl, ?_, rfl, trivial⟩
    show AV.i k = AV.i (k + 3 * (0 : Nat))
    simp
  · refine ⟨?_, trivial⟩
    rw [mkdC_zero]
    rfl
  intro j hj
  have hml := mkdC_len C k j hj
  have hcl := cls_len (mkdC C k j)
  by_cases h : j < C.length
  · have hs3 := cls_set3 (C := mkdC C k j) (k := j) (a := k + 3 * j) (b := k + 3 * j + 1) (c := k + 3 * j + 2) (by omega)
    rw [mkdC_set C k j h] at hs3
    repeat (first | (refine step_ops ?_; (first | (refine m_mov (by conv => lhs; whnf) ?_) | (refine m_lss rfl rfl ?_) | (refine m_add rfl rfl ?_ ?_ ?_; (· omega); (· omega)) | (refine m_len_sl rfl ?_) | (refine m_idx_sl rfl rfl ?_ ?_ ?_; (· omega); (· omega)) | (apply m_st; (· rfl); (· rfl); (· rfl); (· first | omega | (simp; done) | (simp; omega)); (· rfl)) | (refine m_fa rfl ?_))) | refine end_ops ?_ | refine seq_ops ?_ | refine AW_ops ?_ | (refine cond_t rfl ?_ ?_; (· first | rfl | assumption | (refine decide_eq_true ?_; first | assumption | omega) | (refine nt ?_; first | assumption | omega) | (simp [*]; done))) | refine skip_then ?_ | refine AW_seq ?_ | refine norm_then ?_ | refine AW_block ?_ | refine norm_block ?_)
    refine next_round (j + 1) h (weak_st ?_ ?_ rfl rfl) ?_
    · refine ⟨rfl, ?_, rfl, trivial⟩
      show AV.i (k + 3 * (j : Int) + 1 + 1 + 1) = AV.i (k + 3 * ((j + 1 : Nat) : Int))
      rw [show k + 3 * (j : Int) + 1 + 1 + 1 = k + 3 * ((j + 1 : Nat) : Int) by omega]
    · refine ⟨?_, trivial⟩
      show some (true, (((cls (mkdC C k j)).set (0 + ((j : Nat) : Int).toNat * 3 + 0) (AV.i (k + 3 * j))).set (0 + ((j : Nat) : Int).toNat * 3 + 1) (AV.i (k + 3 * j + 1))).set (0 + ((j : Nat) : Int).toNat * 3 + 2) (AV.i (k + 3 * j + 1 + 1))) = _
      rw [Int.toNat_natCast, Nat.zero_add, Nat.add_zero, ← hs3, show k + 3 * (j : Int) + 1 + 1 = k + 3 * j + 2 by omega]
    · omega
  · obtain rfl : j = C.length := by omega
    repeat (first | (refine step_ops ?_; (first | (refine m_mov (by conv => lhs; whnf) ?_) | (refine m_lss rfl rfl ?_) | (refine m_len_sl rfl ?_))) | refine end_ops ?_ | refine seq_ops ?_ | (refine cond_f rfl ?_ ?_; (· first | rfl | assumption | (refine decide_eq_false ?_; first | assumption | omega) | (refine nf ?_; first | assumption | omega) | (simp [*]; done))) | refine AW_seq ?_ | refine AW_ret ?_ | refine norm_then ?_ | refine exit_then ?_ | refine exit_round ?_ | refine AW_exit ?_ | refine exit_block ?_)
    refine ret_donem rfl ?_
    rw [← mkdC_all]
    rfl
theorem heldClueS_spec (k : Int) (n : Nat) (hn : n ≤ 1048576) (h0 : 0 ≤ k) (h1 : k ≤ 1099511627776) :
    Sp Try.prog 29 [.ro false 3 (cls (mkC k n)) (mkC k n).length, .i k] (.i (k + 3 * n)) := by
  have hml := mkC_len k n
  refine spec_of Try.func29 rfl cc29 rfl ?_
  unfold ac29
  repeat (first | (refine step_ops ?_; (refine m_mov (by conv => lhs; whnf) ?_)) | refine end_ops ?_ | refine seq_ops ?_ | refine AW_seq ?_ | refine AW_block ?_)
  refine AW_loop (α := Nat) (fun j => j ≤ n) (fun j => st [(0, .ro false 3 (cls (mkC k n)) (mkC k n).length), (1, .i (k + 3 * j)), (5, .i j)] []) (fun j => n - j) 0 (by omega) (weak_st ?_ ?_ rfl rfl) ?_
  · refine ⟨rfl, ?_, rfl, trivial⟩
    show AV.i k = AV.i (k + 3 * (0 : Nat))
    simp
  · trivial
  intro j hj
  by_cases h : j < n
  · have hg := cls_get (C := mkC k n) (k := j) (by omega) (mkC_get k n j h)
    obtain ⟨g0, g1, g2⟩ := hg
    have r0 : ((cls (mkC k n)).drop (((j : Nat) : Int).toNat * 3) |>.drop 0)[0]? = some (.i (k + 3 * j)) := by rw [Int.toNat_natCast, List.drop_drop, List.getElem?_drop]; exact g0
    have r1 : ((cls (mkC k n)).drop (((j : Nat) : Int).toNat * 3) |>.drop 1)[0]? = some (.i (k + 3 * j + 1)) := by rw [Int.toNat_natCast, List.drop_drop, List.getElem?_drop]; exact g1
    have r2 : ((cls (mkC k n)).drop (((j : Nat) : Int).toNat * 3) |>.drop 2)[0]? = some (.i (k + 3 * j + 2)) := by rw [Int.toNat_natCast, List.drop_drop, List.getElem?_drop]; exact g2
    repeat (first | (refine step_ops ?_; (first | (refine m_mov (by conv => lhs; whnf) ?_) | (refine m_lss rfl rfl ?_) | (refine m_len_ro rfl ?_) | (refine m_idx_ro rfl rfl ?_ ?_ ?_; (· omega); (· omega)) | (refine m_fa_rp rfl ?_))) | refine end_ops ?_ | refine seq_ops ?_ | (refine cond_t rfl ?_ ?_; (· first | rfl | assumption | (refine decide_eq_true ?_; first | assumption | omega) | (refine nt ?_; first | assumption | omega) | (simp [*]; done))) | refine skip_then ?_ | refine AW_seq ?_ | refine AW_block ?_)
    refine step_ops ?_
    refine m_ld_rp rfl r0 ?_
    repeat (first | (refine step_ops ?_; (first | (refine m_mov (by conv => lhs; whnf) ?_) | (refine m_neq rfl rfl ?_) | (refine m_add rfl rfl ?_ ?_ ?_; (· omega); (· omega)) | (refine m_idx_ro rfl rfl ?_ ?_ ?_; (· omega); (· omega)) | (refine m_fa_rp rfl ?_))) | refine end_ops ?_ | refine seq_ops ?_ | (refine cond_f rfl ?_ ?_; (· first | rfl | assumption | (refine decide_eq_false ?_; first | assumption | omega) | (refine nf ?_; first | assumption | omega) | (simp [*]; done))) | refine skip_then ?_ | refine AW_seq ?_)
    refine step_ops ?_
    refine m_ld_rp rfl r1 ?_
    repeat (first | (refine step_ops ?_; (first | (refine m_mov (by conv => lhs; whnf) ?_) | (refine m_neq rfl rfl ?_) | (refine m_add rfl rfl ?_ ?_ ?_; (· omega); (· omega)) | (refine m_idx_ro rfl rfl ?_ ?_ ?_; (· omega); (· omega)) | (refine m_fa_rp rfl ?_))) | refine end_ops ?_ | refine seq_ops ?_ | (refine cond_f rfl ?_ ?_; (· first | rfl | assumption | (refine decide_eq_false ?_; first | assumption | omega) | (refine nf ?_; first | assumption | omega) | (simp [*]; done))) | refine skip_then ?_ | refine AW_seq ?_)
    refine step_ops ?_
    refine m_ld_rp rfl r2 ?_
    repeat (first | (refine step_ops ?_; (first | (refine m_mov (by conv => lhs; whnf) ?_) | (refine m_neq rfl rfl ?_) | (refine m_add rfl rfl ?_ ?_ ?_; (· omega); (· omega)))) | refine end_ops ?_ | refine AW_ops ?_ | (refine cond_f rfl ?_ ?_; (· first | rfl | assumption | (refine decide_eq_false ?_; first | assumption | omega) | (refine nf ?_; first | assumption | omega) | (simp [*]; done))) | refine skip_then ?_ | refine norm_then ?_ | refine norm_block ?_)
    refine next_round (j + 1) h (weak_st ?_ ?_ rfl rfl) ?_
    · refine ⟨rfl, ?_, rfl, trivial⟩
      show AV.i (k + 3 * (j : Int) + 1 + 1 + 1) = AV.i (k + 3 * ((j + 1 : Nat) : Int))
      rw [show k + 3 * (j : Int) + 1 + 1 + 1 = k + 3 * ((j + 1 : Nat) : Int) by omega]
    · trivial
    · omega
  · obtain rfl : j = n := by omega
    repeat (first | (refine step_ops ?_; (first | (refine m_mov (by conv => lhs; whnf) ?_) | (refine m_lss rfl rfl ?_) | (refine m_len_ro rfl ?_))) | refine end_ops ?_ | refine seq_ops ?_ | (refine cond_f rfl ?_ ?_; (· first | rfl | assumption | (refine decide_eq_false ?_; first | assumption | omega) | (refine nf ?_; first | assumption | omega) | (simp [*]; done))) | refine AW_seq ?_ | refine AW_ret ?_ | refine ret_done ?_ | refine norm_then ?_ | refine exit_then ?_ | refine exit_round ?_ | refine AW_exit ?_ | refine exit_block ?_)
    exact outs_i rfl
theorem static_lenC (C M : List Clu) (x : Value) : Static (Am.look (lenH (cls C))) (.v x) (Am.look (lenH (cls M))) :=
  static_R (by simp) (fun p hp => by rw [List.mem_singleton] at hp; subst hp; exact ⟨pl_own _ (cls_plain M), refsL_plain (cls_plain M)⟩) ⟨rfl, rfl⟩
theorem markPuzzle_spec (g : Int) (C : List Clu) (k : Int) (hC : C.length ≤ 1048576) (h0 : 0 ≤ k) (h1 : k ≤ 1099511627776) :
    SpH Try.prog 12 [.agg [.i g, .sl pbase 3 0 C.length], .i k] (Am.look (lenH (cls C))) (.i (k + 3 * C.length)) (Am.look (lenH (cls (mkC k C.length)))) := by
  have hst := static_lenC C (mkC k C.length) (.int .i64 (k + 3 * C.length))
  refine specH_of Try.func12 rfl cc12 rfl (by first | exact static_mat1 _ | exact static_mat2 _ _ | assumption) ?_
  unfold ac12
  refine seq_ops ?_
  refine step_ops ?_
  refine m_boxd (l := [.i g, .sl pbase 3 0 C.length]) rfl rfl rfl ?_
  repeat (first | (refine step_ops ?_; (first | (refine m_mov (by conv => lhs; whnf) ?_) | (apply m_ld_pt; (· rfl); (· rfl); (· rfl)) | (refine m_fa rfl ?_))) | refine end_ops ?_ | refine seq_ops ?_)
  refine step_ops ?_
  refine m_callm (markClueS_spec C k hC h0 h1) rfl rfl rfl (cls_plain _) (cls_plain _) rfl ?_
  repeat (first | (refine step_ops ?_; (refine m_mov (by conv => lhs; whnf) ?_)) | refine end_ops ?_ | refine seq_ops ?_ | refine AW_ret ?_)
  refine ret_R id (by rfl) ?_ (by simp) (by simp) (by simp)
  refine ⟨⟨_, rfl, .inl ?_⟩, trivial⟩
  exact congrArg (Prod.mk true) (pl_ren _ (cls_plain _)).symm
theorem heldPuzzle_spec (g k : Int) (n : Nat) (hn : n ≤ 1048576) (h0 : 0 ≤ k) (h1 : k ≤ 1099511627776) :
    Sp Try.prog 13 [pzl g (mkC k n), .i k] (.i (k + 3 * n)) := by
  have hs := heldClueS_spec k n hn h0 h1
  refine spec_of Try.func13 rfl cc13 rfl ?_
  unfold ac13
  repeat (first | (refine step_ops ?_; (first | (refine m_mov (by conv => lhs; whnf) ?_) | (apply m_ld_pt; (· rfl); (· rfl); (· rfl)) | (refine m_fa rfl ?_) | (refine m_box rfl ?_ ?_; (· first | rfl | (simp [cellOk, Value.oneCell']; done))))) | refine end_ops ?_ | refine seq_ops ?_)
  refine step_ops ?_
  refine m_call hs (lends_cons lend_cls (lends_cons lend_v lends_nil)) ?_
  repeat (first | (refine step_ops ?_; (first | (refine m_mov (by conv => lhs; whnf) ?_) | (refine m_lss rfl rfl ?_))) | refine end_ops ?_ | refine seq_ops ?_ | (refine cond_f rfl ?_ ?_; (· first | rfl | assumption | (refine decide_eq_false ?_; first | assumption | omega) | (refine nf ?_; first | assumption | omega) | (simp [*]; done))) | refine skip_then ?_ | refine AW_seq ?_ | refine AW_ret ?_ | refine ret_done ?_)
  exact outs_i rfl
end Go.Proofs.Yteiipnadhalnbaa
namespace Go.Am
/-- The least number that the first k lengths divide. -/
def lcT (K : List Int) : Nat → Nat
  | 0 => 1
  | k + 1 => lcT K k / Nat.gcd (lcT K k) (K.getD k 0).toNat * (K.getD k 0).toNat
theorem lcT_bd {K : List Int} (h : ∀ x ∈ K, 1 ≤ x ∧ x ≤ 12) : ∀ k, k ≤ K.length → 1 ≤ lcT K k ∧ lcT K k ≤ 12 ^ k
  | 0, _ => by simp [lcT]
  | k + 1, hk => by
    obtain ⟨h1, h2⟩ := lcT_bd h k (by omega)
    have hx := h (K.getD k 0) (by rw [List.getD_eq_getElem?_getD, List.getElem?_eq_getElem (show k < K.length by omega)]; exact List.getElem_mem _)
    obtain ⟨n, hn⟩ := Int.eq_ofNat_of_zero_le (show 0 ≤ K.getD k 0 by omega)
    rw [lcT, hn, Int.toNat_natCast]
    have hd : 0 < lcT K k / Nat.gcd (lcT K k) n := Nat.div_pos (Nat.le_of_dvd (by omega) (Nat.gcd_dvd_left ..)) (Nat.gcd_pos_of_pos_left _ (by omega))
    refine ⟨Nat.mul_pos hd (by omega), ?_⟩
    rw [Nat.pow_succ]
    exact Nat.mul_le_mul (Nat.le_trans (Nat.div_le_self ..) h2) (by omega)
end Go.Am
namespace Go.Proofs.Yteiipnadhalnbaa
open Go.Am
attribute [local irreducible] AW Outs Weak Lends Lend Sp aops atree aop1 Then Round InBlock Done
theorem timesOf_spec (K : List Int) (h12 : K.length ≤ 12) (h : ∀ x ∈ K, 1 ≤ x ∧ x ≤ 12) : Sp Try.prog 67 [ints K] (.i (lcT K K.length : Nat)) := by
  refine spec_of Try.func67 rfl cc67 rfl ?_
  unfold ac67
  repeat (first | (refine step_ops ?_; (first | (refine m_mov (by conv => lhs; whnf) ?_) | (refine m_lss rfl rfl ?_) | (refine m_add rfl rfl ?_ ?_ ?_; (· omega); (· omega)) | (refine m_adds rfl rfl ?_ ?_; (· first | omega | (simp; omega))) | (refine m_mul rfl rfl ?_ ?_ ?_; (· first | omega | (simp; done)); (· first | omega | (simp; done))) | (refine m_len_ro rfl ?_) | (refine m_len_sl rfl ?_) | (refine m_len_nil rfl ?_) | (refine m_idx1_ro rfl rfl ?_ ?_; (· omega)) | (refine m_idx1_sl rfl rfl ?_ ?_; (· omega)) | (apply m_idx1_slj; (· rfl); (· rfl); (· assumption); (· omega)) | (apply m_idx1_roj; (· rfl); (· rfl); (· assumption); (· omega)) | (refine m_idx_ro rfl rfl ?_ ?_ ?_; (· omega); (· omega)) | (refine m_idx_sl rfl rfl ?_ ?_ ?_; (· omega); (· omega)) | (refine m_ld_rpi rfl ?_ ?_; (· omega)) | (refine m_ld_pti rfl (by rfl) ?_ ?_; (· first | omega | (simp; omega))) | (apply m_ld_ptb; (· rfl); (· rfl); (· assumption)) | (apply m_ld_rp; (· rfl); (· rfl)) | (apply m_ld_pt; (· rfl); (· rfl); (· rfl)) | (refine m_quo rfl rfl ?_ ?_ ?_ ?_; (· omega); (· omega); (· omega)))) | refine end_ops ?_ | refine seq_ops ?_ | refine AW_ops ?_ | (refine cond_t rfl ?_ ?_; (· first | rfl | assumption | (refine decide_eq_true ?_; first | assumption | omega) | (refine nt ?_; first | assumption | omega) | (simp [*]; done))) | (refine cond_f rfl ?_ ?_; (· first | rfl | assumption | (refine decide_eq_false ?_; first | assumption | omega) | (refine nf ?_; first | assumption | omega) | (simp [*]; done))) | refine skip_then ?_ | refine AW_seq ?_ | refine AW_ret ?_ | refine ret_done ?_ | refine norm_then ?_ | refine ret_then ?_ | refine exit_then ?_ | refine AW_block ?_ | refine norm_block ?_ | refine ret_block ?_ | refine ret_round ?_ | refine exit_round ?_ | refine AW_exit ?_ | refine exit_block ?_ | (refine exit_other ?_ ?_; (· decide)) | refine AW_skip ?_)
  refine AW_loop (α := Nat) (fun k => k ≤ K.length) (fun k => st [(3, .i (lcT K k : Nat)), (6, ints K), (7, .i K.length), (8, .i k)] []) (fun k => K.length - k) 0 (by omega) (weak_st ?_ ?_ rfl rfl) ?_
  · (repeat' (first | exact trivial | refine And.intro ?_ ?_)) <;> (first | rfl | skip)
  · trivial
  intro k hk
  have hp : ∀ j, j ≤ 12 → 12 ^ j ≤ 8916100448256 := fun j hj => Nat.le_trans (Nat.pow_le_pow_right (by decide) hj) (by decide)
  have hb := lcT_bd h k hk
  have hb0 := hp k (by omega)
  by_cases hc : k < K.length
  · have hx := h _ (getD_mem hc)
    have hb1 := lcT_bd h (k + 1) hc
    have hb2 := hp (k + 1) (by omega)
    obtain ⟨B, hB⟩ := Int.eq_ofNat_of_zero_le (show 0 ≤ K.getD k 0 by omega)
    have hs : lcT K (k + 1) = lcT K k / Nat.gcd (lcT K k) (K.getD k 0).toNat * (K.getD k 0).toNat := rfl
    rw [hB, Int.toNat_natCast] at hs
    rw [hB] at hx
    rw [hs] at hb1
    generalize lcT K k = A at *
    have hg0 : 0 < Nat.gcd A B := Nat.gcd_pos_of_pos_left _ (by omega)
    have hdiv : (A : Int) / ((Nat.gcd A B : Nat) : Int) = ((A / Nat.gcd A B : Nat) : Int) := rfl
    have hmul : ((A / Nat.gcd A B : Nat) : Int) * (B : Int) = ((A / Nat.gcd A B * B : Nat) : Int) := by rw [Int.natCast_mul]
    repeat (first | (refine step_ops ?_; (first | (refine m_mov (by conv => lhs; whnf) ?_) | (refine m_lss rfl rfl ?_) | (refine m_add rfl rfl ?_ ?_ ?_; (· omega); (· omega)) | (refine m_adds rfl rfl ?_ ?_; (· first | omega | (simp; omega))) | (refine m_mul rfl rfl ?_ ?_ ?_; (· first | omega | (simp; done)); (· first | omega | (simp; done))) | (refine m_len_ro rfl ?_) | (refine m_len_sl rfl ?_) | (refine m_len_nil rfl ?_) | (refine m_idx1_ro rfl rfl ?_ ?_; (· omega)) | (refine m_idx1_sl rfl rfl ?_ ?_; (· omega)) | (apply m_idx1_slj; (· rfl); (· rfl); (· assumption); (· omega)) | (apply m_idx1_roj; (· rfl); (· rfl); (· assumption); (· omega)) | (refine m_idx_ro rfl rfl ?_ ?_ ?_; (· omega); (· omega)) | (refine m_idx_sl rfl rfl ?_ ?_ ?_; (· omega); (· omega)) | (refine m_ld_rpi rfl ?_ ?_; (· omega)) | (refine m_ld_pti rfl (by rfl) ?_ ?_; (· first | omega | (simp; omega))) | (apply m_ld_ptb; (· rfl); (· rfl); (· assumption)) | (apply m_ld_rp; (· rfl); (· rfl)) | (apply m_ld_pt; (· rfl); (· rfl); (· rfl)) | (refine m_quo rfl rfl ?_ ?_ ?_ ?_; (· omega); (· omega); (· omega)))) | refine end_ops ?_ | refine seq_ops ?_ | refine AW_ops ?_ | (refine cond_t rfl ?_ ?_; (· first | rfl | assumption | (refine decide_eq_true ?_; first | assumption | omega) | (refine nt ?_; first | assumption | omega) | (simp [*]; done))) | (refine cond_f rfl ?_ ?_; (· first | rfl | assumption | (refine decide_eq_false ?_; first | assumption | omega) | (refine nf ?_; first | assumption | omega) | (simp [*]; done))) | refine skip_then ?_ | refine AW_seq ?_ | refine AW_ret ?_ | refine ret_done ?_ | refine norm_then ?_ | refine ret_then ?_ | refine exit_then ?_ | refine AW_block ?_ | refine norm_block ?_ | refine ret_block ?_ | refine ret_round ?_ | refine exit_round ?_ | refine AW_exit ?_ | refine exit_block ?_ | (refine exit_other ?_ ?_; (· decide)) | refine AW_skip ?_)
    rw [hB]
    repeat (first | (refine step_ops ?_; (first | (refine m_mov (by conv => lhs; whnf) ?_) | (refine m_lss rfl rfl ?_) | (refine m_add rfl rfl ?_ ?_ ?_; (· omega); (· omega)) | (refine m_adds rfl rfl ?_ ?_; (· first | omega | (simp; omega))) | (refine m_mul rfl rfl ?_ ?_ ?_; (· first | omega | (simp; done)); (· first | omega | (simp; done))) | (refine m_len_ro rfl ?_) | (refine m_len_sl rfl ?_) | (refine m_len_nil rfl ?_) | (refine m_idx1_ro rfl rfl ?_ ?_; (· omega)) | (refine m_idx1_sl rfl rfl ?_ ?_; (· omega)) | (apply m_idx1_slj; (· rfl); (· rfl); (· assumption); (· omega)) | (apply m_idx1_roj; (· rfl); (· rfl); (· assumption); (· omega)) | (refine m_idx_ro rfl rfl ?_ ?_ ?_; (· omega); (· omega)) | (refine m_idx_sl rfl rfl ?_ ?_ ?_; (· omega); (· omega)) | (refine m_ld_rpi rfl ?_ ?_; (· omega)) | (refine m_ld_pti rfl (by rfl) ?_ ?_; (· first | omega | (simp; omega))) | (apply m_ld_ptb; (· rfl); (· rfl); (· assumption)) | (apply m_ld_rp; (· rfl); (· rfl)) | (apply m_ld_pt; (· rfl); (· rfl); (· rfl)) | (refine m_quo rfl rfl ?_ ?_ ?_ ?_; (· omega); (· omega); (· omega)))) | refine end_ops ?_ | refine seq_ops ?_ | refine AW_ops ?_ | (refine cond_t rfl ?_ ?_; (· first | rfl | assumption | (refine decide_eq_true ?_; first | assumption | omega) | (refine nt ?_; first | assumption | omega) | (simp [*]; done))) | (refine cond_f rfl ?_ ?_; (· first | rfl | assumption | (refine decide_eq_false ?_; first | assumption | omega) | (refine nf ?_; first | assumption | omega) | (simp [*]; done))) | refine skip_then ?_ | refine AW_seq ?_ | refine AW_ret ?_ | refine ret_done ?_ | refine norm_then ?_ | refine ret_then ?_ | refine exit_then ?_ | refine AW_block ?_ | refine norm_block ?_ | refine ret_block ?_ | refine ret_round ?_ | refine exit_round ?_ | refine AW_exit ?_ | refine exit_block ?_ | (refine exit_other ?_ ?_; (· decide)) | refine AW_skip ?_)
    (refine step_ops ?_); (apply m_call (commonDivisor_spec A B)); (· repeat (first | exact lends_nil | (refine lends_cons ?_ ?_; (· (first | exact lend_v | (refine lend_roM rfl; done) | (refine lend_mat rfl ?_; intro j hj; simp (disch := first | omega | assumption) only [hp_put, hp_mem_ne, hp_kill_ne]; first | exact stM_row rfl hj | (rw [stM_row rfl hj]; rfl)) | (refine lend_ints ?_; first | rfl | omega) | (refine lend_sli (by rfl) ?_; first | rfl | omega | (simp; done)) | (refine lend_pln rfl; done) | (refine lend_plns rfl rfl; done) | (refine lend_txr rfl; done) | (refine lend_txs rfl rfl; done) | exact lend_any | (refine lend_agg ?_; first | rfl | assumption | (simp [plainV]; done)))))))
    repeat (first | (refine step_ops ?_; (first | (refine m_mov (by conv => lhs; whnf) ?_) | (refine m_lss rfl rfl ?_) | (refine m_add rfl rfl ?_ ?_ ?_; (· omega); (· omega)) | (refine m_adds rfl rfl ?_ ?_; (· first | omega | (simp; omega))) | (refine m_mul rfl rfl ?_ ?_ ?_; (· first | omega | (simp; done)); (· first | omega | (simp; done))) | (refine m_len_ro rfl ?_) | (refine m_len_sl rfl ?_) | (refine m_len_nil rfl ?_) | (refine m_idx1_ro rfl rfl ?_ ?_; (· omega)) | (refine m_idx1_sl rfl rfl ?_ ?_; (· omega)) | (apply m_idx1_slj; (· rfl); (· rfl); (· assumption); (· omega)) | (apply m_idx1_roj; (· rfl); (· rfl); (· assumption); (· omega)) | (refine m_idx_ro rfl rfl ?_ ?_ ?_; (· omega); (· omega)) | (refine m_idx_sl rfl rfl ?_ ?_ ?_; (· omega); (· omega)) | (refine m_ld_rpi rfl ?_ ?_; (· omega)) | (refine m_ld_pti rfl (by rfl) ?_ ?_; (· first | omega | (simp; omega))) | (apply m_ld_ptb; (· rfl); (· rfl); (· assumption)) | (apply m_ld_rp; (· rfl); (· rfl)) | (apply m_ld_pt; (· rfl); (· rfl); (· rfl)) | (refine m_quo rfl rfl ?_ ?_ ?_ ?_; (· omega); (· omega); (· omega)))) | refine end_ops ?_ | refine seq_ops ?_ | refine AW_ops ?_ | (refine cond_t rfl ?_ ?_; (· first | rfl | assumption | (refine decide_eq_true ?_; first | assumption | omega) | (refine nt ?_; first | assumption | omega) | (simp [*]; done))) | (refine cond_f rfl ?_ ?_; (· first | rfl | assumption | (refine decide_eq_false ?_; first | assumption | omega) | (refine nf ?_; first | assumption | omega) | (simp [*]; done))) | refine skip_then ?_ | refine AW_seq ?_ | refine AW_ret ?_ | refine ret_done ?_ | refine norm_then ?_ | refine ret_then ?_ | refine exit_then ?_ | refine AW_block ?_ | refine norm_block ?_ | refine ret_block ?_ | refine ret_round ?_ | refine exit_round ?_ | refine AW_exit ?_ | refine exit_block ?_ | (refine exit_other ?_ ?_; (· decide)) | refine AW_skip ?_)
    rw [hdiv]
    refine step_ops ?_
    refine m_mul rfl rfl (by rw [hmul]; omega) (by rw [hmul]; omega) ?_
    rw [hmul]
    repeat (first | (refine step_ops ?_; (first | (refine m_mov (by conv => lhs; whnf) ?_) | (refine m_lss rfl rfl ?_) | (refine m_add rfl rfl ?_ ?_ ?_; (· omega); (· omega)) | (refine m_adds rfl rfl ?_ ?_; (· first | omega | (simp; omega))) | (refine m_mul rfl rfl ?_ ?_ ?_; (· first | omega | (simp; done)); (· first | omega | (simp; done))) | (refine m_len_ro rfl ?_) | (refine m_len_sl rfl ?_) | (refine m_len_nil rfl ?_) | (refine m_idx1_ro rfl rfl ?_ ?_; (· omega)) | (refine m_idx1_sl rfl rfl ?_ ?_; (· omega)) | (apply m_idx1_slj; (· rfl); (· rfl); (· assumption); (· omega)) | (apply m_idx1_roj; (· rfl); (· rfl); (· assumption); (· omega)) | (refine m_idx_ro rfl rfl ?_ ?_ ?_; (· omega); (· omega)) | (refine m_idx_sl rfl rfl ?_ ?_ ?_; (· omega); (· omega)) | (refine m_ld_rpi rfl ?_ ?_; (· omega)) | (refine m_ld_pti rfl (by rfl) ?_ ?_; (· first | omega | (simp; omega))) | (apply m_ld_ptb; (· rfl); (· rfl); (· assumption)) | (apply m_ld_rp; (· rfl); (· rfl)) | (apply m_ld_pt; (· rfl); (· rfl); (· rfl)) | (refine m_quo rfl rfl ?_ ?_ ?_ ?_; (· omega); (· omega); (· omega)))) | refine end_ops ?_ | refine seq_ops ?_ | refine AW_ops ?_ | (refine cond_t rfl ?_ ?_; (· first | rfl | assumption | (refine decide_eq_true ?_; first | assumption | omega) | (refine nt ?_; first | assumption | omega) | (simp [*]; done))) | (refine cond_f rfl ?_ ?_; (· first | rfl | assumption | (refine decide_eq_false ?_; first | assumption | omega) | (refine nf ?_; first | assumption | omega) | (simp [*]; done))) | refine skip_then ?_ | refine AW_seq ?_ | refine AW_ret ?_ | refine ret_done ?_ | refine norm_then ?_ | refine ret_then ?_ | refine exit_then ?_ | refine AW_block ?_ | refine norm_block ?_ | refine ret_block ?_ | refine ret_round ?_ | refine exit_round ?_ | refine AW_exit ?_ | refine exit_block ?_ | (refine exit_other ?_ ?_; (· decide)) | refine AW_skip ?_)
    refine next_round (k + 1) (by omega) (weak_st ?_ ?_ rfl rfl) ?_
    · rw [hs]
      (repeat' (first | exact trivial | refine And.intro ?_ ?_)) <;> (first | rfl | skip)
    · trivial
    · omega
  · obtain rfl : k = K.length := by omega
    repeat (first | (refine step_ops ?_; (first | (refine m_mov (by conv => lhs; whnf) ?_) | (refine m_lss rfl rfl ?_) | (refine m_add rfl rfl ?_ ?_ ?_; (· omega); (· omega)) | (refine m_adds rfl rfl ?_ ?_; (· first | omega | (simp; omega))) | (refine m_mul rfl rfl ?_ ?_ ?_; (· first | omega | (simp; done)); (· first | omega | (simp; done))) | (refine m_len_ro rfl ?_) | (refine m_len_sl rfl ?_) | (refine m_len_nil rfl ?_) | (refine m_idx1_ro rfl rfl ?_ ?_; (· omega)) | (refine m_idx1_sl rfl rfl ?_ ?_; (· omega)) | (apply m_idx1_slj; (· rfl); (· rfl); (· assumption); (· omega)) | (apply m_idx1_roj; (· rfl); (· rfl); (· assumption); (· omega)) | (refine m_idx_ro rfl rfl ?_ ?_ ?_; (· omega); (· omega)) | (refine m_idx_sl rfl rfl ?_ ?_ ?_; (· omega); (· omega)) | (refine m_ld_rpi rfl ?_ ?_; (· omega)) | (refine m_ld_pti rfl (by rfl) ?_ ?_; (· first | omega | (simp; omega))) | (apply m_ld_ptb; (· rfl); (· rfl); (· assumption)) | (apply m_ld_rp; (· rfl); (· rfl)) | (apply m_ld_pt; (· rfl); (· rfl); (· rfl)) | (refine m_quo rfl rfl ?_ ?_ ?_ ?_; (· omega); (· omega); (· omega)))) | refine end_ops ?_ | refine seq_ops ?_ | refine AW_ops ?_ | (refine cond_t rfl ?_ ?_; (· first | rfl | assumption | (refine decide_eq_true ?_; first | assumption | omega) | (refine nt ?_; first | assumption | omega) | (simp [*]; done))) | (refine cond_f rfl ?_ ?_; (· first | rfl | assumption | (refine decide_eq_false ?_; first | assumption | omega) | (refine nf ?_; first | assumption | omega) | (simp [*]; done))) | refine skip_then ?_ | refine AW_seq ?_ | refine AW_ret ?_ | refine ret_done ?_ | refine norm_then ?_ | refine ret_then ?_ | refine exit_then ?_ | refine AW_block ?_ | refine norm_block ?_ | refine ret_block ?_ | refine ret_round ?_ | refine exit_round ?_ | refine AW_exit ?_ | refine exit_block ?_ | (refine exit_other ?_ ?_; (· decide)) | refine AW_skip ?_)
    exact outs_i rfl
end Go.Proofs.Yteiipnadhalnbaa
namespace Go.Proofs.Yteiipnadhalnbaa
open Go.Am
attribute [local irreducible] AW Outs Weak Lends Lend Sp aops atree aop1 Then Round InBlock Done
attribute [local irreducible] SpM DoneM SpH DoneH
theorem lcT_pers (B : List Nat) : ∀ k, k ≤ B.length → lcT (B.map fun (p : Nat) => (p : Int)) k = lcF (B.take k) 1
  | 0, _ => rfl
  | k + 1, hk => by
    have e : (B.map fun (p : Nat) => (p : Int)).getD k 0 = ((B[k] : Nat) : Int) := by rw [List.getD_eq_getElem?_getD, List.getElem?_map, List.getElem?_eq_getElem (by omega)]; rfl
    rw [lcT, lcT_pers B k (by omega), List.take_add_one, List.getElem?_eq_getElem (by omega), e, Int.toNat_natCast]
    exact (lcF_snoc _ _ _).symm
end Go.Proofs.Yteiipnadhalnbaa
namespace Go.Am
/-- Does the guest behind those of a list choose a seat? -/
def chsE (l : Int) (M : List Int) : Bool := decide ((M.length : Int) < l) || decide ((M.length : Int) ∈ M)
/-- Can the first k guests of a seating come so? -/
def comeK (l : Int) (L : List Int) (k : Nat) : Prop := ∀ j < k, chsE l (L.take j) = true ∨ L.getD j 0 = (j : Int)
instance (l : Int) (L : List Int) (k : Nat) : Decidable (comeK l L k) := inferInstanceAs (Decidable (∀ j < k, _))
/-- The displaced ones of the first k guests. -/
def disp (L : List Int) (k : Nat) : List Int := ((List.range k).filter fun (i : Nat) => decide (L.getD i 0 ≠ i)).map fun (i : Nat) => (i : Int)
theorem disp_yes {L : List Int} {k : Nat} (h : L.getD k 0 ≠ k) : disp L (k + 1) = disp L k ++ [(k : Int)] := by
  unfold disp; rw [List.range_succ, List.filter_append, List.map_append, List.filter_cons_of_pos (p := fun (i : Nat) => decide (L.getD i 0 ≠ (i : Int))) (a := k) (decide_eq_true h)]; rfl
theorem disp_no {L : List Int} {k : Nat} (h : L.getD k 0 = k) : disp L (k + 1) = disp L k := by
  unfold disp; rw [List.range_succ, List.filter_append, List.map_append, List.filter_cons_of_neg (p := fun (i : Nat) => decide (L.getD i 0 ≠ (i : Int))) (a := k) (fun e => (of_decide_eq_true e) h)]; simp
theorem disp_le (L : List Int) (k : Nat) : (disp L k).length ≤ k := by
  unfold disp; rw [List.length_map]; exact Nat.le_trans (List.length_filter_le ..) (by simp)
end Go.Am
namespace Go.Proofs.Yteiipnadhalnbaa
open Go.Am
attribute [local irreducible] AW Outs Weak Lends Lend Sp aops atree aop1 Then Round InBlock Done
theorem displacedIn_spec (L : List Int) (hL : L.length ≤ 1048576) : Sp Try.prog 65 [ints L] (newInts (disp L L.length)) := by
  refine spec_of Try.func65 rfl cc65 rfl ?_
  unfold ac65
  repeat (first | (refine step_ops ?_; (first | (refine m_mov (by conv => lhs; whnf) ?_) | (refine m_lss rfl rfl ?_) | (refine m_neq rfl rfl ?_) | (refine m_neqk rfl rfl ?_) | (refine m_neqs_self rfl rfl ?_) | (refine m_neqs rfl rfl ?_) | (refine m_add rfl rfl ?_ ?_ ?_; (· omega); (· omega)) | (refine m_adds rfl rfl ?_ ?_; (· first | omega | (simp; omega))) | (refine m_len_ro rfl ?_) | (refine m_len_sl rfl ?_) | (refine m_len_nil rfl ?_) | (refine m_idx1_ro rfl rfl ?_ ?_; (· omega)) | (refine m_idx1_sl rfl rfl ?_ ?_; (· omega)) | (apply m_idx1_slj; (· rfl); (· rfl); (· assumption); (· omega)) | (apply m_idx1_roj; (· rfl); (· rfl); (· assumption); (· omega)) | (refine m_idx_ro rfl rfl ?_ ?_ ?_; (· omega); (· omega)) | (refine m_idx_sl rfl rfl ?_ ?_ ?_; (· omega); (· omega)) | (refine m_ld_rpi rfl ?_ ?_; (· omega)) | (refine m_ld_pti rfl (by rfl) ?_ ?_; (· first | omega | (simp; omega))) | (apply m_ld_ptb; (· rfl); (· rfl); (· assumption)) | (apply m_ld_rp; (· rfl); (· rfl)) | (apply m_ld_pt; (· rfl); (· rfl); (· rfl)) | (refine m_nils ?_) | (refine m_bsl1 rfl rfl ?_) | (refine m_app1i rfl (by decide) (by rfl) (by first | rfl | omega | (simp; done)) rfl rfl ?_ (by decide) ?_; (· first | omega | (simp; omega))) | (refine m_app1 rfl (by decide) rfl (by first | (simp; done) | (simp [*]; done) | (simp; omega)) rfl rfl rfl ?_ (by decide) ?_; (· first | omega | (simp; omega))) | (refine m_appro rfl (by decide) rfl (by first | rfl | (simp; done) | (simp [*]; done) | (simp; omega)) rfl (oks_ints _) ?_ (by decide) ?_; (· first | omega | (simp; omega))))) | refine end_ops ?_ | refine seq_ops ?_ | refine AW_ops ?_ | (refine cond_t rfl ?_ ?_; (· first | rfl | assumption | (refine decide_eq_true ?_; first | assumption | omega) | (refine nt ?_; first | assumption | omega) | (simp [*]; done))) | (refine cond_f rfl ?_ ?_; (· first | rfl | assumption | (refine decide_eq_false ?_; first | assumption | omega) | (refine nf ?_; first | assumption | omega) | (simp [*]; done))) | refine skip_then ?_ | refine AW_seq ?_ | refine AW_ret ?_ | refine ret_done ?_ | refine norm_then ?_ | refine ret_then ?_ | refine exit_then ?_ | refine AW_block ?_ | refine norm_block ?_ | refine ret_block ?_ | refine ret_round ?_ | refine exit_round ?_ | refine AW_exit ?_ | refine exit_block ?_ | (refine exit_other ?_ ?_; (· decide)) | refine AW_skip ?_)
  refine AW_loop (α := Nat × Nat) (fun a => a.1 ≤ L.length ∧ (a.2 = 3 ∨ a.2 = 19)) (fun a => st [(6, ints L), (7, .i L.length), (8, .i a.1), (3, .sl a.2 1 0 (disp L a.1).length)] [(a.2, (true, (disp L a.1).map AV.i))]) (fun a => L.length - a.1) (0, 3) (by simp) (weak_st ?_ ?_ rfl rfl) ?_
  · (repeat' (first | exact trivial | refine And.intro ?_ ?_)) <;> (first | rfl | skip)
  · exact ⟨rfl, trivial⟩
  rintro ⟨k, r⟩ ⟨hk, hr⟩
  have hn := disp_le L k
  simp only at hk hr
  rcases hr with rfl | rfl
  all_goals
    dsimp only
    by_cases h : k < L.length
    · by_cases hx : L.getD k 0 = k
      · repeat (first | (refine step_ops ?_; (first | (refine m_mov (by conv => lhs; whnf) ?_) | (refine m_lss rfl rfl ?_) | (refine m_neq rfl rfl ?_) | (refine m_neqk rfl rfl ?_) | (refine m_neqs_self rfl rfl ?_) | (refine m_neqs rfl rfl ?_) | (refine m_add rfl rfl ?_ ?_ ?_; (· omega); (· omega)) | (refine m_adds rfl rfl ?_ ?_; (· first | omega | (simp; omega))) | (refine m_len_ro rfl ?_) | (refine m_len_sl rfl ?_) | (refine m_len_nil rfl ?_) | (refine m_idx1_ro rfl rfl ?_ ?_; (· omega)) | (refine m_idx1_sl rfl rfl ?_ ?_; (· omega)) | (apply m_idx1_slj; (· rfl); (· rfl); (· assumption); (· omega)) | (apply m_idx1_roj; (· rfl); (· rfl); (· assumption); (· omega)) | (refine m_idx_ro rfl rfl ?_ ?_ ?_; (· omega); (· omega)) | (refine m_idx_sl rfl rfl ?_ ?_ ?_; (· omega); (· omega)) | (refine m_ld_rpi rfl ?_ ?_; (· omega)) | (refine m_ld_pti rfl (by rfl) ?_ ?_; (· first | omega | (simp; omega))) | (apply m_ld_ptb; (· rfl); (· rfl); (· assumption)) | (apply m_ld_rp; (· rfl); (· rfl)) | (apply m_ld_pt; (· rfl); (· rfl); (· rfl)) | (refine m_nils ?_) | (refine m_bsl1 rfl rfl ?_) | (refine m_app1i rfl (by decide) (by rfl) (by first | rfl | omega | (simp; done)) rfl rfl ?_ (by decide) ?_; (· first | omega | (simp; omega))) | (refine m_app1 rfl (by decide) rfl (by first | (simp; done) | (simp [*]; done) | (simp; omega)) rfl rfl rfl ?_ (by decide) ?_; (· first | omega | (simp; omega))) | (refine m_appro rfl (by decide) rfl (by first | rfl | (simp; done) | (simp [*]; done) | (simp; omega)) rfl (oks_ints _) ?_ (by decide) ?_; (· first | omega | (simp; omega))))) | refine end_ops ?_ | refine seq_ops ?_ | refine AW_ops ?_ | (refine cond_t rfl ?_ ?_; (· first | rfl | assumption | (refine decide_eq_true ?_; first | assumption | omega) | (refine nt ?_; first | assumption | omega) | (simp [*]; done))) | (refine cond_f rfl ?_ ?_; (· first | rfl | assumption | (refine decide_eq_false ?_; first | assumption | omega) | (refine nf ?_; first | assumption | omega) | (simp [*]; done))) | refine skip_then ?_ | refine AW_seq ?_ | refine AW_ret ?_ | refine ret_done ?_ | refine norm_then ?_ | refine ret_then ?_ | refine exit_then ?_ | refine AW_block ?_ | refine norm_block ?_ | refine ret_block ?_ | refine ret_round ?_ | refine exit_round ?_ | refine AW_exit ?_ | refine exit_block ?_ | (refine exit_other ?_ ?_; (· decide)) | refine AW_skip ?_)
        first
        | (refine next_round (k + 1, 3) ⟨by omega, .inl rfl⟩ (weak_st ?_ ?_ rfl rfl) ?_
           · exact ⟨rfl, rfl, rfl, by show _ = AV.sl 3 1 0 (disp L (k + 1)).length; rw [disp_no hx]; rfl, trivial⟩
           · exact ⟨by show _ = some (true, (disp L (k + 1)).map AV.i); rw [disp_no hx]; rfl, trivial⟩
           · omega)
        | (refine next_round (k + 1, 19) ⟨by omega, .inr rfl⟩ (weak_st ?_ ?_ rfl rfl) ?_
           · exact ⟨rfl, rfl, rfl, by show _ = AV.sl 19 1 0 (disp L (k + 1)).length; rw [disp_no hx]; rfl, trivial⟩
           · exact ⟨by show _ = some (true, (disp L (k + 1)).map AV.i); rw [disp_no hx]; rfl, trivial⟩
           · omega)
      · repeat (first | (refine step_ops ?_; (first | (refine m_mov (by conv => lhs; whnf) ?_) | (refine m_lss rfl rfl ?_) | (refine m_neq rfl rfl ?_) | (refine m_neqk rfl rfl ?_) | (refine m_neqs_self rfl rfl ?_) | (refine m_neqs rfl rfl ?_) | (refine m_add rfl rfl ?_ ?_ ?_; (· omega); (· omega)) | (refine m_adds rfl rfl ?_ ?_; (· first | omega | (simp; omega))) | (refine m_len_ro rfl ?_) | (refine m_len_sl rfl ?_) | (refine m_len_nil rfl ?_) | (refine m_idx1_ro rfl rfl ?_ ?_; (· omega)) | (refine m_idx1_sl rfl rfl ?_ ?_; (· omega)) | (apply m_idx1_slj; (· rfl); (· rfl); (· assumption); (· omega)) | (apply m_idx1_roj; (· rfl); (· rfl); (· assumption); (· omega)) | (refine m_idx_ro rfl rfl ?_ ?_ ?_; (· omega); (· omega)) | (refine m_idx_sl rfl rfl ?_ ?_ ?_; (· omega); (· omega)) | (refine m_ld_rpi rfl ?_ ?_; (· omega)) | (refine m_ld_pti rfl (by rfl) ?_ ?_; (· first | omega | (simp; omega))) | (apply m_ld_ptb; (· rfl); (· rfl); (· assumption)) | (apply m_ld_rp; (· rfl); (· rfl)) | (apply m_ld_pt; (· rfl); (· rfl); (· rfl)) | (refine m_nils ?_) | (refine m_bsl1 rfl rfl ?_) | (refine m_app1i rfl (by decide) (by rfl) (by first | rfl | omega | (simp; done)) rfl rfl ?_ (by decide) ?_; (· first | omega | (simp; omega))) | (refine m_app1 rfl (by decide) rfl (by first | (simp; done) | (simp [*]; done) | (simp; omega)) rfl rfl rfl ?_ (by decide) ?_; (· first | omega | (simp; omega))) | (refine m_appro rfl (by decide) rfl (by first | rfl | (simp; done) | (simp [*]; done) | (simp; omega)) rfl (oks_ints _) ?_ (by decide) ?_; (· first | omega | (simp; omega))))) | refine end_ops ?_ | refine seq_ops ?_ | refine AW_ops ?_ | (refine cond_t rfl ?_ ?_; (· first | rfl | assumption | (refine decide_eq_true ?_; first | assumption | omega) | (refine nt ?_; first | assumption | omega) | (simp [*]; done))) | (refine cond_f rfl ?_ ?_; (· first | rfl | assumption | (refine decide_eq_false ?_; first | assumption | omega) | (refine nf ?_; first | assumption | omega) | (simp [*]; done))) | refine skip_then ?_ | refine AW_seq ?_ | refine AW_ret ?_ | refine ret_done ?_ | refine norm_then ?_ | refine ret_then ?_ | refine exit_then ?_ | refine AW_block ?_ | refine norm_block ?_ | refine ret_block ?_ | refine ret_round ?_ | refine exit_round ?_ | refine AW_exit ?_ | refine exit_block ?_ | (refine exit_other ?_ ?_; (· decide)) | refine AW_skip ?_)
        refine next_round (k + 1, 19) ⟨by omega, .inr rfl⟩ (weak_st ?_ ?_ rfl rfl) ?_
        · refine ⟨rfl, rfl, rfl, ?_, trivial⟩
          show AV.sl 19 1 0 (disp L k ++ [(k : Int)]).length = AV.sl 19 1 0 (disp L (k + 1)).length
          rw [disp_yes hx]
        · refine ⟨?_, trivial⟩
          show some (true, (disp L k ++ [(k : Int)]).map AV.i) = some (true, (disp L (k + 1)).map AV.i)
          rw [disp_yes hx]
        · omega
    · repeat (first | (refine step_ops ?_; (first | (refine m_mov (by conv => lhs; whnf) ?_) | (refine m_lss rfl rfl ?_) | (refine m_neq rfl rfl ?_) | (refine m_neqk rfl rfl ?_) | (refine m_neqs_self rfl rfl ?_) | (refine m_neqs rfl rfl ?_) | (refine m_add rfl rfl ?_ ?_ ?_; (· omega); (· omega)) | (refine m_adds rfl rfl ?_ ?_; (· first | omega | (simp; omega))) | (refine m_len_ro rfl ?_) | (refine m_len_sl rfl ?_) | (refine m_len_nil rfl ?_) | (refine m_idx1_ro rfl rfl ?_ ?_; (· omega)) | (refine m_idx1_sl rfl rfl ?_ ?_; (· omega)) | (apply m_idx1_slj; (· rfl); (· rfl); (· assumption); (· omega)) | (apply m_idx1_roj; (· rfl); (· rfl); (· assumption); (· omega)) | (refine m_idx_ro rfl rfl ?_ ?_ ?_; (· omega); (· omega)) | (refine m_idx_sl rfl rfl ?_ ?_ ?_; (· omega); (· omega)) | (refine m_ld_rpi rfl ?_ ?_; (· omega)) | (refine m_ld_pti rfl (by rfl) ?_ ?_; (· first | omega | (simp; omega))) | (apply m_ld_ptb; (· rfl); (· rfl); (· assumption)) | (apply m_ld_rp; (· rfl); (· rfl)) | (apply m_ld_pt; (· rfl); (· rfl); (· rfl)) | (refine m_nils ?_) | (refine m_bsl1 rfl rfl ?_) | (refine m_app1i rfl (by decide) (by rfl) (by first | rfl | omega | (simp; done)) rfl rfl ?_ (by decide) ?_; (· first | omega | (simp; omega))) | (refine m_app1 rfl (by decide) rfl (by first | (simp; done) | (simp [*]; done) | (simp; omega)) rfl rfl rfl ?_ (by decide) ?_; (· first | omega | (simp; omega))) | (refine m_appro rfl (by decide) rfl (by first | rfl | (simp; done) | (simp [*]; done) | (simp; omega)) rfl (oks_ints _) ?_ (by decide) ?_; (· first | omega | (simp; omega))))) | refine end_ops ?_ | refine seq_ops ?_ | refine AW_ops ?_ | (refine cond_t rfl ?_ ?_; (· first | rfl | assumption | (refine decide_eq_true ?_; first | assumption | omega) | (refine nt ?_; first | assumption | omega) | (simp [*]; done))) | (refine cond_f rfl ?_ ?_; (· first | rfl | assumption | (refine decide_eq_false ?_; first | assumption | omega) | (refine nf ?_; first | assumption | omega) | (simp [*]; done))) | refine skip_then ?_ | refine AW_seq ?_ | refine AW_ret ?_ | refine ret_done ?_ | refine norm_then ?_ | refine ret_then ?_ | refine exit_then ?_ | refine AW_block ?_ | refine norm_block ?_ | refine ret_block ?_ | refine ret_round ?_ | refine exit_round ?_ | refine AW_exit ?_ | refine exit_block ?_ | (refine exit_other ?_ ?_; (· decide)) | refine AW_skip ?_)
      obtain rfl : k = L.length := by omega
      exact outs_ints rfl rfl rfl
end Go.Proofs.Yteiipnadhalnbaa
namespace Go.Am
variable {P : Program} {N : Nat} {s : AS} {Q : Exit → AS → Prop} {w0 : World} {mu : Nat → Option Nat}
/-- THE CONTRACT OF A FUNCTION THAT PANICS: with a value of which 'ok' tells; nothing that was there has changed. -/
def SpP (P : Program) (f : FuncId) (asx : List AV) (ok : Value → Prop) : Prop :=
  ∀ w vs, GoodW w → Entry w asx vs.toList → Calls P f vs w fun e w' => ∃ v, e = .panicked [{ v, recovered := false }] ∧ ok v ∧ More w w'
end Go.Am
