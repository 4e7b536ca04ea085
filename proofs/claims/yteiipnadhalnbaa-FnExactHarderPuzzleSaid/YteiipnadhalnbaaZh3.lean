/- The abstract machine, contracts: part 3 of what this claim needs. -/
import Derived.Test.YteiipnadhalnbaaZh2
namespace Go.Am
/-- May a function value, of which the first k that it bears stand before the arguments and the others behind, be asked whether a guest fits behind a list? -/
structure AsksK (P : Program) (f : FuncId) (fl : List AV) (k : Nat) (n : Nat) (fits : List Int → Nat → Bool) : Prop where
  call : Callable P f
  bears : Bears fl
  norefs : ∀ keep, refsL keep fl = true
  nokill : ∀ r, killL r fl = fl
  spec : ∀ (M : List Int) (y : Nat), M.length < n → (∀ x ∈ M, 0 ≤ x ∧ x < n) → y < n → Sp P f (fl.take k ++ [ints M, .i y] ++ fl.drop k) (.b (fits M y))
theorem bears_sub {l m : List AV} (h : Bears m) (hs : ∀ x ∈ l, x ∈ m) : Bears l := fun hp x hx => h hp x (hs x hx)
theorem lends_app {hp : Hp} : ∀ {xs asx : List AV} {ys bs : List AV}, Lends hp xs asx → xs.length = asx.length → Lends hp ys bs → Lends hp (xs ++ ys) (asx ++ bs) := by
  intro xs asx ys bs h1 hl h2 w0 mu N tm w phi ro vs hS hs hlen
  have hsp : vs = vs.take xs.length ++ vs.drop xs.length := (List.take_append_drop _ _).symm
  have key : ∀ (xs ys : List AV) (C : Ctx) (us ws : List Value), us.length = xs.length → SimL (xs ++ ys) C (us ++ ws) → SimL xs C us ∧ SimL ys C ws := by
    intro xs
    induction xs with
    | nil => intro ys C us ws hl h; have : us = [] := List.eq_nil_of_length_eq_zero (by simpa using hl); subst this; exact ⟨by simp [SimL], h⟩
    | cons a l ih =>
      intro ys C us ws hl h
      match us with
      | [] => simp at hl
      | u :: us =>
        simp only [List.cons_append, SimL] at h ⊢
        obtain ⟨h3, h4⟩ := ih ys C us ws (by simpa using hl) h.2
        exact ⟨⟨h.1, h3⟩, h4⟩
  have key2 : ∀ (asx bs : List AV) (C : Ctx) (us ws : List Value), us.length = asx.length → SimL asx C us → SimL bs C ws → SimL (asx ++ bs) C (us ++ ws) := by
    intro asx
    induction asx with
    | nil => intro bs C us ws hl _ h; have : us = [] := List.eq_nil_of_length_eq_zero (by simpa using hl); subst this; exact h
    | cons a l ih =>
      intro bs C us ws hl h h2
      match us with
      | [] => simp at hl
      | u :: us =>
        simp only [List.cons_append, SimL] at h ⊢
        exact ⟨h.1, ih bs C us ws (by simpa using hl) h.2 h2⟩
  have hl1 : (vs.take xs.length).length = xs.length := by rw [List.length_take, hlen, List.length_append]; omega
  have hl2 : (vs.drop xs.length).length = ys.length := by rw [List.length_drop, hlen, List.length_append]; omega
  rw [hsp] at hs
  obtain ⟨h3, h4⟩ := key xs ys _ _ _ hl1 hs
  obtain ⟨h5, h6⟩ := h1 w0 mu N tm w phi ro _ hS h3 hl1
  obtain ⟨h7, h8⟩ := h2 w0 mu N tm w phi ro _ hS h4 hl2
  refine ⟨?_, by rw [List.length_append, ← h6, ← h8, ← List.length_append, ← hsp]⟩
  rw [hsp]
  exact key2 asx bs _ _ _ (by rw [hl1, hl]) h5 h7
theorem asksK_lend {s : AS} {fl : List AV} {k : Nat} {args : List Opd} {xs ys : List AV} (h : Bears fl) (he : args.map s.ev = xs) (hl : xs.length = ys.length) (kk : Lends s.hp xs ys) : Lends s.hp (fl.take k ++ args.map s.ev ++ fl.drop k) (fl.take k ++ ys ++ fl.drop k) := by
  rw [he]
  have h1 := bears_sub (l := fl.take k) h fun x hx => List.mem_of_mem_take hx
  have h2 := bears_sub (l := fl.drop k) h fun x hx => List.mem_of_mem_drop hx
  refine lends_app (lends_bears h1 _ kk) (by simp [hl]) (lends_self h2 _)
end Go.Am
namespace Go.Am
mutual
/-- Exact values, and slices and pointers that are read, all through. -/
def readV : AV → Bool
  | .v _ => true
  | .ro fr _ cs _ => !fr && readL cs
  | .rp cs => readL cs
  | .any => false
  | .sl _ _ _ _ => false
  | .pt _ _ => false
  | .agg _ => false
  | .tup _ => false
  | .mp _ => false
  | .itr _ => false
  | .ob _ => false
  | .fn _ _ _ => false
  | .rmp _ _ _ => false
  | .fu _ _ _ => false
def readL : List AV → Bool
  | [] => true
  | a :: l => readV a && readL l
end
mutual
theorem SimV.read : ∀ (x : AV) (C D : Ctx) (y : Value), readV x = true → D.heap = C.heap → (∀ b, C.ro b → D.ro b) → SimV x C y → SimV x D y
  | .v _, _, _, _, _, _, _, h => by simpa only [SimV] using h
  | .ro fr z cs n, C, D, y, hr, hh, hro, h => by
    simp only [readV, Bool.and_eq_true, Bool.not_eq_true'] at hr
    simp only [SimV] at h ⊢
    rcases h with h | ⟨b, o, cap, cur, e, fz, h1, h2, h3, h4, h5, h6, h7⟩
    · exact .inl h
    · exact .inr ⟨b, o, cap, cur, e, fz, h1, by rw [hh]; exact h2, hro b h3, h4, h5, (fun e => by rw [hr.1] at e; cases e), SimL.read cs C.out D.out _ hr.2 hh hro h7⟩
  | .rp cs, C, D, y, hr, hh, hro, h => by
    simp only [readV] at hr
    simp only [SimV] at h ⊢
    obtain ⟨b, o, cur, e, fz, h1, h2, h3, h4⟩ := h
    exact ⟨b, o, cur, e, fz, h1, by rw [hh]; exact h2, hro b h3, SimL.read cs C.out D.out _ hr hh hro h4⟩
  | .any, _, _, _, hr, _, _, _ => by simp [readV] at hr
  | .sl _ _ _ _, _, _, _, hr, _, _, _ => by simp [readV] at hr
  | .pt _ _, _, _, _, hr, _, _, _ => by simp [readV] at hr
  | .agg _, _, _, _, hr, _, _, _ => by simp [readV] at hr
  | .tup _, _, _, _, hr, _, _, _ => by simp [readV] at hr
  | .mp _, _, _, _, hr, _, _, _ => by simp [readV] at hr
  | .itr _, _, _, _, hr, _, _, _ => by simp [readV] at hr
  | .ob _, _, _, _, hr, _, _, _ => by simp [readV] at hr
  | .fn _ _ _, _, _, _, hr, _, _, _ => by simp [readV] at hr
  | .rmp _ _ _, _, _, _, hr, _, _, _ => by simp [readV] at hr
  | .fu _ _ _, _, _, _, hr, _, _, _ => by simp [readV] at hr
theorem SimL.read : ∀ (l : List AV) (C D : Ctx) (ys : List Value), readL l = true → D.heap = C.heap → (∀ b, C.ro b → D.ro b) → SimL l C ys → SimL l D ys
  | [], _, _, _, _, _, _, _ => by simp [SimL]
  | _ :: _, _, _, [], _, _, _, h => by simp [SimL] at h
  | a :: l, C, D, y :: ys, hr, hh, hro, h => by
    simp only [readL, Bool.and_eq_true] at hr
    simp only [SimL] at h ⊢
    exact ⟨SimV.read a C D y hr.1 hh hro h.1, SimL.read l C D ys hr.2 hh hro h.2⟩
end
theorem lend_read {hp : Hp} {x : AV} (hr : readV x = true) : Lend hp x x := by
  intro w0 mu N tm w phi ro v hS hv
  exact SimV.read x (ctx w0 w ro phi ⟨fun _ => .any, hp⟩) _ v hr rfl (fun b hb => hS.rob b hb) hv
theorem bears_read {l : List AV} (h : readL l = true) : Bears l := by
  intro hp x hx
  refine lend_read ?_
  induction l with
  | nil => cases hx
  | cons a l ih =>
    simp only [readL, Bool.and_eq_true] at h
    rcases List.mem_cons.1 hx with rfl | hx
    · exact h.1
    · exact ih h.2 hx
end Go.Am
namespace Go.Am
variable {P : Program}
/-- Values that are read, in structs too. -/
def flatA : AV → Bool
  | .agg l => readL l
  | x => readV x
theorem simV_flat {x : AV} {C D : Ctx} {y : Value} (hr : flatA x = true) (hh : D.heap = C.heap) (hro : ∀ b, C.ro b → D.ro b) (h : SimV x C y) : SimV x D y := by
  cases x with
  | agg l =>
    simp only [flatA] at hr
    simp only [SimV] at h ⊢
    obtain ⟨a, h1, h2, h3⟩ := h
    exact ⟨a, h1, h2, SimL.read l C D _ hr hh hro h3⟩
  | _ => exact SimV.read _ C D y hr hh hro h
theorem simL_flat : ∀ {l : List AV} {C D : Ctx} {ys : List Value}, l.all flatA = true → D.heap = C.heap → (∀ b, C.ro b → D.ro b) → SimL l C ys → SimL l D ys
  | [], _, _, _, _, _, _, _ => by simp [SimL]
  | _ :: _, _, _, [], _, _, _, h => by simp [SimL] at h
  | a :: l, C, D, y :: ys, hr, hh, hro, h => by
    rw [List.all_cons, Bool.and_eq_true] at hr
    simp only [SimL] at h ⊢
    exact ⟨simV_flat hr.1 hh hro h.1, simL_flat hr.2 hh hro h.2⟩
/-- The region that a new slice becomes. -/
abbrev oneH (cs : List AV) : List (Nat × (Bool × List AV)) := [(nbase, (true, cs))]
theorem inj_one {cs : List AV} {bo : Option Nat} : Inj (look (oneH cs)) (fun r => if r = nbase then bo else none) := by
  intro r r' b h1 h2 _ _
  have k : ∀ r, (look (oneH cs) r).isSome = true → r = nbase := fun r h => by
    have := look_isSome.1 h
    simpa using this
  rw [k r h1, k r' h2]
theorem m_boxd {own : Bool} {s : AS} {K : AS → Prop} {x : Opd} {r n : Nat} {l : List AV} (hx : s.ev x = .agg l) (hok : l.all (cellOk false) = true) (hk : killR r (false, l) = (false, l)) (k : K (((s.kill r).mem r (false, l)).put (some r) (.pt r 0))) : aop1 P own ⟨some r, .box n x, none⟩ s K :=
  ⟨r, false, rfl, .inr ⟨l, hx, hok, by rw [hk]; exact k⟩⟩
/-- Texts in a slice. -/
def txs (G : List (List UInt8)) : List AV := G.map fun r => str r
theorem txs_len (G : List (List UInt8)) : (txs G).length = G.length := by simp [txs]
theorem txs_plain (G : List (List UInt8)) : (txs G).all plainV = true := by simp [txs, plainV]
/-- A struct of a number and texts, read; a new one. -/
abbrev pln (c : Int) (G : List (List UInt8)) : AV := .agg [.i c, .ro false 1 (txs G) G.length]
theorem lend_txr {hp : Hp} {fr : Bool} {G : List (List UInt8)} {n : Nat} (hn : n = G.length) : Lend hp (.ro fr 1 (txs G) n) (.ro false 1 (txs G) G.length) := by
  subst hn
  exact lend_ro (txs_plain G)
theorem lend_txs {hp : Hp} {r n : Nat} {G : List (List UInt8)} (hr : hp r = some (true, txs G)) (hn : n = G.length) : Lend hp (.sl r 1 0 n) (.ro false 1 (txs G) G.length) := by
  subst hn
  have h := lend_sl (z := 1) (off := 0) (n := G.length) hr (by rw [txs_len]; omega) (txs_plain G)
  have e : ((txs G).drop 0).take (G.length * 1) = txs G := by rw [List.drop_zero, Nat.mul_one]; exact List.take_of_length_le (by rw [txs_len]; omega)
  rw [e] at h
  exact h
theorem lend_pln {hp : Hp} {fr : Bool} {c : Int} {G : List (List UInt8)} {n : Nat} (hn : n = G.length) : Lend hp (.agg [.i c, .ro fr 1 (txs G) n]) (pln c G) :=
  lend_aggs (lends_cons lend_v (lends_cons (lend_txr hn) lends_nil))
theorem lend_plns {hp : Hp} {r : Nat} {c : Int} {G : List (List UInt8)} {n : Nat} (hr : hp r = some (true, txs G)) (hn : n = G.length) : Lend hp (.agg [.i c, .sl r 1 0 n]) (pln c G) :=
  lend_aggs (lends_cons lend_v (lends_cons (lend_txs hr hn) lends_nil))
end Go.Am
namespace Go.Am
variable {P : Program} {s : AS} {K : AS → Prop} {d : Option Nat}
theorem look_one {cs : List AV} {r : Nat} {c : Bool × List AV} (h : look (oneH cs) r = some c) : r = nbase ∧ c = (true, cs) := by
  have := look_mem h
  rw [List.mem_singleton] at this
  exact ⟨congrArg Prod.fst this, congrArg Prod.snd this⟩
theorem look_one_is {cs : List AV} {r : Nat} (h : (look (oneH cs) r).isSome = true) : r = nbase := by
  obtain ⟨c, hc⟩ := Option.isSome_iff_exists.1 h
  exact (look_one hc).1
/-- A call that hands out one new region. -/
theorem m_new1 {f : FuncId} {args : List Opd} {asx : List AV} {cs : List AV} {res : AV} (q : Nat) (hs : SpH P f asx (look []) res (look (oneH cs))) (hl : Lends s.hp (args.map s.ev) asx) (hq : s.hp q = none) (hqp : q < pbase)
    (hren : ∀ g, renL g cs = cs) (hown : ownL false cs = true) (hor : ownV false res = true) (k : K ((s.mem q (true, cs)).put d (renV (fun r => if r = nbase then q else r) res))) : aop1 P true ⟨d, .call f args, none⟩ s K := by
  refine m_callh (hp' := (s.mem q (true, cs)).hp) (fun r => if r = nbase then q else r) hs (lendsH_none hl) ⟨fun r c hc => by simp [look] at hc, fun r r' h1 h2 _ => ?_, fun r hr => by simp [look] at hr, fun r hr _ => ?_, fun r c hc => ?_, fun q' hq' => ?_, fun r c hc => by simp [look] at hc, fun r c hc => ?_, hor⟩ k
  · rw [look_one_is h1, look_one_is h2]
  · rw [look_one_is hr, if_pos rfl]
    exact ⟨hq, hqp⟩
  · obtain ⟨rfl, rfl⟩ := look_one hc
    rw [if_pos rfl]
    show (if q = q then some (true, cs) else s.hp q) = some (true, renL _ cs)
    rw [if_pos rfl, hren]
  · have hne : q' ≠ q := fun e => by
      refine hq' nbase (by simp [look]) ?_
      rw [if_pos rfl]
      exact e.symm
    exact hp_mem_ne hne
  · obtain ⟨rfl, rfl⟩ := look_one hc
    exact hown
/-- The one region that such a call is lent. -/
abbrev lenH (cs : List AV) : List (Nat × (Bool × List AV)) := [(pbase, (true, cs))]
theorem look_len {cs : List AV} {r : Nat} {c : Bool × List AV} (h : look (lenH cs) r = some c) : r = pbase ∧ c = (true, cs) := by
  have := look_mem h
  rw [List.mem_singleton] at this
  exact ⟨congrArg Prod.fst this, congrArg Prod.snd this⟩
theorem look_len_is {cs : List AV} {r : Nat} (h : (look (lenH cs) r).isSome = true) : r = pbase := by
  obtain ⟨c, hc⟩ := Option.isSome_iff_exists.1 h
  exact (look_len hc).1
theorem outs_nilro {z : Nat} : Outs s (.v (.slice none 0 0)) (.ro true z [] 0) := by
  intro w0 N tm w phi ro y hS hy
  simp only [SimV] at hy ⊢
  exact .inl ⟨trivial, trivial, none, 0, hy, by simp⟩
theorem outs_ron {z n : Nat} {cs : List AV} (hall : cs.all plainV = true) : Outs s (.ro true z cs n) (.ro true z cs n) := by
  intro w0 N tm w phi ro y hS h
  simp only [SimV] at h ⊢
  rcases h with h | ⟨b, o, cap, cur, e, fz, h1, h2, h3, h4, h5, h6, h7⟩
  · exact .inl h
  · obtain ⟨k1, k2⟩ := h6 trivial
    exact .inr ⟨b, o, cap, cur, e, fz, h1, h2, ⟨k1, lt_of_get h2⟩, h4, h5, fun _ => ⟨k1, k2⟩, simL_allv hall h7⟩
end Go.Am
namespace Go.Am
abbrev Clu := Int × Int × Int
/-- A clue's cells; those of several. -/
def cC (c : Clu) : List AV := [.i c.1, .i c.2.1, .i c.2.2]
def cls (C : List Clu) : List AV := C.flatMap cC
theorem cls_len (C : List Clu) : (cls C).length = C.length * 3 := by
  induction C with
  | nil => rfl
  | cons a l ih =>
    show (cC a ++ cls l).length = _
    rw [List.length_append, ih, List.length_cons, Nat.add_mul]
    show 3 + _ = _
    omega
theorem cls_plain (C : List Clu) : (cls C).all plainV = true := by
  induction C with
  | nil => rfl
  | cons a l ih =>
    show (cC a ++ cls l).all plainV = true
    rw [List.all_append, ih]
    rfl
theorem cls_app (C D : List Clu) : cls (C ++ D) = cls C ++ cls D := by simp [cls]
theorem cls_drop (C : List Clu) (k : Nat) : (cls C).drop (k * 3) = cls (C.drop k) := by
  induction k generalizing C with
  | zero => simp
  | succ k ih =>
    cases C with
    | nil => simp [cls]
    | cons a l =>
      show (cC a ++ cls l).drop ((k + 1) * 3) = cls (l.drop k)
      rw [Nat.add_mul, Nat.one_mul, Nat.add_comm, ← List.drop_drop, ← ih l]
      rfl
theorem cls_take (C : List Clu) (k : Nat) : (cls C).take (k * 3) = cls (C.take k) := by
  induction k generalizing C with
  | zero => simp [cls]
  | succ k ih =>
    cases C with
    | nil => simp [cls]
    | cons a l =>
      show (cC a ++ cls l).take ((k + 1) * 3) = cC a ++ cls (l.take k)
      rw [Nat.add_mul, Nat.one_mul, ← ih l, List.take_append, show (cC a).length = 3 from rfl, Nat.add_sub_cancel]
      rw [List.take_of_length_le (show (cC a).length ≤ k * 3 + 3 by show 3 ≤ _; omega)]
theorem cls_at {C : List Clu} {k : Nat} (h : k < C.length) : ((cls C).drop (k * 3)).take 3 = cC (C.getD k (0, 0, 0)) := by
  rw [cls_drop, List.drop_eq_getElem_cons h]
  show (cC C[k] ++ cls (C.drop (k + 1))).take 3 = _
  rw [List.take_append]
  simp [cC, h]
abbrev pzl (g : Int) (C : List Clu) : AV := .agg [.i g, .ro false 3 (cls C) C.length]
abbrev newPz (g : Int) (C : List Clu) : AV := .agg [.i g, .ro true 3 (cls C) C.length]
/-- What a clue is; what a puzzle is. -/
def IsClu (g : Int) (c : Clu) : Prop :=
  if c.1 = 0 ∨ c.1 = 1 then (0 ≤ c.2.1 ∧ c.2.1 ≤ g - 1) ∧ 0 ≤ c.2.2 ∧ c.2.2 ≤ g - 1
  else if c.1 = 2 then (0 ≤ c.2.1 ∧ c.2.1 ≤ g) ∧ c.2.2 = 0
  else if c.1 = 3 then (1 ≤ c.2.1 ∧ c.2.1 ≤ g) ∧ c.2.2 = 0
  else if c.1 = 4 then (0 ≤ c.2.1 ∧ c.2.1 ≤ g - 1) ∧ 0 ≤ c.2.2 ∧ c.2.2 ≤ 1
  else c.1 = 5 ∧ (1 ≤ c.2.1 ∧ c.2.1 ≤ 6) ∧ c.2.2 = 0
instance (g : Int) (c : Clu) : Decidable (IsClu g c) := by unfold IsClu; infer_instance
def PzN (g : Int) : Prop := 1 ≤ g ∧ g ≤ 5
instance (g : Int) : Decidable (PzN g) := inferInstanceAs (Decidable (_ ∧ _))
def IsPz (g : Int) (C : List Clu) : Prop := PzN g ∧ C.length ≤ 6 ∧ ∀ c ∈ C, IsClu g c
instance (g : Int) (C : List Clu) : Decidable (IsPz g C) := inferInstanceAs (Decidable (_ ∧ _ ∧ _))
end Go.Am
namespace Go.Am
variable {P : Program} {s : AS} {K : AS → Prop} {d : Option Nat}
theorem pl_ren (f : Nat → Nat) : ∀ {cs : List AV}, cs.all plainV = true → renL f cs = cs
  | [], _ => rfl
  | x :: l, h => by
    rw [List.all_cons, Bool.and_eq_true] at h
    have hl := pl_ren f h.2
    cases x <;> first | (simp [plainV] at h; done) | (simp only [renL, renV, hl])
theorem pl_own (q : Bool) : ∀ {cs : List AV}, cs.all plainV = true → ownL q cs = true
  | [], _ => rfl
  | x :: l, h => by
    rw [List.all_cons, Bool.and_eq_true] at h
    have hl := pl_own q h.2
    cases x <;> first | (simp [plainV] at h; done) | (simp only [ownL, ownV, hl, Bool.and_self])
theorem pl_read : ∀ {cs : List AV}, cs.all plainV = true → readL cs = true
  | [], _ => rfl
  | x :: l, h => by
    rw [List.all_cons, Bool.and_eq_true] at h
    have hl := pl_read h.2
    cases x <;> first | (simp [plainV] at h; done) | (simp only [readL, readV, hl, Bool.and_self])
theorem own_roZ {w w' : World} {z : Nat} {cs : List AV} {n : Nat} {v : Value} (hpl : cs.all plainV = true) (h : SimV (.ro true z cs n) (fresh w w') v) :
    ∃ bo : Option Nat, (∀ b, bo = some b → w.heap.size ≤ b) ∧ SimV (.sl nbase z 0 n) (ctxX w w' (fun r => if r = nbase then bo else none) (look (oneH cs))) v ∧ Regs (ctxX w w' (fun r => if r = nbase then bo else none) (look (oneH cs))) (look (oneH cs)) := by
  have hl : ∀ r c, look (oneH cs) r = some c → r = nbase ∧ c = (true, cs) := by
    intro r c hc
    have := look_mem hc
    rw [List.mem_singleton] at this
    exact ⟨congrArg Prod.fst this, congrArg Prod.snd this⟩
  simp only [SimV] at h
  rcases h with ⟨rfl, rfl, a, c, rfl, h⟩ | ⟨b, o, cap, cur, e, fz, rfl, h1, h2, h3, h4, h5, h6⟩
  · obtain ⟨rfl, rfl⟩ := h trivial
    refine ⟨none, by simp, ?_, ?_⟩
    · simp only [SimV]
      exact ⟨rfl, by simp [ctxX, look], .inl ⟨by simp [ctxX], by simp⟩⟩
    · intro r c hc
      obtain ⟨rfl, rfl⟩ := hl r c hc
      exact .inl ⟨by simp [ctxX], rfl⟩
  · obtain ⟨k1, rfl, rfl, k4, k5⟩ := h5 trivial
    refine ⟨some b, fun b' hb => by cases hb; exact k1, ?_, ?_⟩
    · simp only [SimV]
      refine ⟨rfl, by simp [ctxX, look], .inr ⟨b, 0, cap, cur, e, by simp [ctxX], rfl, h1, .inl rfl, h4, k4, by omega⟩⟩
    · intro r c hc
      obtain ⟨rfl, rfl⟩ := hl r c hc
      refine .inr (.inl ⟨b, cur, e, by simp [ctxX], h1, ?_⟩)
      simp only [SimR, if_true]
      rw [List.drop_zero] at h6
      exact simL_allv hpl h6
theorem sp_ownAZ {f : FuncId} {asx : List AV} {x : Value} {z : Nat} {cs : List AV} {n : Nat} (hs : Sp P f asx (.agg [.v x, .ro true z cs n])) (hr : asx.all flatA = true) (hpl : cs.all plainV = true) :
    SpH P f asx (look []) (.agg [.v x, .sl nbase z 0 n]) (look (oneH cs)) := by
  intro w vs phi hg _ _ _ hsim hsz
  have hent : Entry w asx vs.toList := ⟨simL_flat (C := ctxE w phi (look [])) hr rfl (fun b hb => hb.1) hsim, by simpa using hsz⟩
  refine (hs w vs hg hent).mono fun e w' ⟨v, h1, hm, hv⟩ => ?_
  simp only [SimV] at hv
  obtain ⟨a, rfl, hsz2, hsl⟩ := hv
  obtain ⟨al⟩ := a
  match al with
  | [] => simp at hsz2
  | [_] => simp at hsz2
  | _ :: _ :: _ :: _ => simp at hsz2
  | [p, q] =>
    simp only [SimL, and_true] at hsl
    obtain ⟨hp, hq⟩ := hsl
    obtain ⟨bo, k1, k2, k3⟩ := own_roZ hpl hq
    refine ⟨_, fun r => if r = nbase then bo else none, h1, hm.os, hm.tape, hm.output, hm.size, fun r hr => by simp [look] at hr, fun b hb _ => hm.block b hb, fun b cur e f hb => ⟨cur, (hm.block b (lt_of_get hb)).trans hb, rfl⟩, inj_one, ?_, k3, ?_⟩
    · intro r b _ _ hb
      dsimp only at hb
      split at hb
      · exact k1 b hb
      · cases hb
    · simp only [SimV]
      refine ⟨#[p, q], rfl, rfl, ?_⟩
      simp only [SimL, and_true]
      exact ⟨by simpa only [SimV] using hp, k2⟩
theorem sp_ownTZ {f : FuncId} {asx : List AV} {x y : Value} {z : Nat} {cs : List AV} {n : Nat} (hs : Sp P f asx (.tup [.agg [.v x, .ro true z cs n], .v y])) (hr : asx.all flatA = true) (hpl : cs.all plainV = true) :
    SpH P f asx (look []) (.tup [.agg [.v x, .sl nbase z 0 n], .v y]) (look (oneH cs)) := by
  intro w vs phi hg _ _ _ hsim hsz
  have hent : Entry w asx vs.toList := ⟨simL_flat (C := ctxE w phi (look [])) hr rfl (fun b hb => hb.1) hsim, by simpa using hsz⟩
  refine (hs w vs hg hent).mono fun e w' ⟨v, h1, hm, hv⟩ => ?_
  simp only [SimV] at hv
  obtain ⟨t, rfl, hsz1, htl⟩ := hv
  obtain ⟨tl⟩ := t
  match tl with
  | [] => simp at hsz1
  | [_] => simp at hsz1
  | _ :: _ :: _ :: _ => simp at hsz1
  | [v1, v2] =>
    simp only [SimL, SimV, and_true] at htl
    obtain ⟨⟨a, rfl, hsz2, hsl⟩, rfl⟩ := htl
    obtain ⟨al⟩ := a
    match al with
    | [] => simp at hsz2
    | [_] => simp at hsz2
    | _ :: _ :: _ :: _ => simp at hsz2
    | [p, q] =>
      simp only [SimL, and_true] at hsl
      obtain ⟨hp, hq⟩ := hsl
      obtain ⟨bo, k1, k2, k3⟩ := own_roZ hpl hq
      refine ⟨_, fun r => if r = nbase then bo else none, h1, hm.os, hm.tape, hm.output, hm.size, fun r hr => by simp [look] at hr, fun b hb _ => hm.block b hb, fun b cur e f hb => ⟨cur, (hm.block b (lt_of_get hb)).trans hb, rfl⟩, inj_one, ?_, k3, ?_⟩
      · intro r b _ _ hb
        dsimp only at hb
        split at hb
        · exact k1 b hb
        · cases hb
      · simp only [SimV]
        refine ⟨#[.agg #[p, q], v2], rfl, rfl, ?_⟩
        simp only [SimL, SimV, and_true]
        exact ⟨#[p, q], rfl, rfl, by simpa only [SimV] using hp, by simp only [SimL, and_true]; exact k2⟩
theorem m_newPz {f : FuncId} {args : List Opd} {asx : List AV} {g : Int} {C : List Clu} (q : Nat) (hs : Sp P f asx (newPz g C)) (hr : asx.all flatA = true) (hl : Lends s.hp (args.map s.ev) asx) (hq : s.hp q = none) (hqp : q < pbase)
    (k : K ((s.mem q (true, cls C)).put d (.agg [.i g, .sl q 3 0 C.length]))) : aop1 P true ⟨d, .call f args, none⟩ s K :=
  m_new1 q (sp_ownAZ hs hr (cls_plain C)) hl hq hqp (fun g => pl_ren g (cls_plain C)) (pl_own _ (cls_plain C)) rfl k
theorem m_newPzT {f : FuncId} {args : List Opd} {asx : List AV} {g : Int} {C : List Clu} {z : Value} (q : Nat) (hs : Sp P f asx (.tup [newPz g C, .v z])) (hr : asx.all flatA = true) (hl : Lends s.hp (args.map s.ev) asx) (hq : s.hp q = none) (hqp : q < pbase)
    (k : K ((s.mem q (true, cls C)).put d (.tup [.agg [.i g, .sl q 3 0 C.length], .v z]))) : aop1 P true ⟨d, .call f args, none⟩ s K :=
  m_new1 q (sp_ownTZ hs hr (cls_plain C)) hl hq hqp (fun g => pl_ren g (cls_plain C)) (pl_own _ (cls_plain C)) rfl k
/-- A call that writes the clues of a struct. -/
theorem m_markPz {f : FuncId} {args : List Opd} {g : Int} {n : Nat} {x y : Value} {C M : List Clu} (q : Nat) (hs : SpH P f [.agg [.i g, .sl pbase 3 0 n], .v x] (look (lenH (cls C))) (.v y) (look (lenH (cls M)))) (ha : args.map s.ev = [.agg [.i g, .sl q 3 0 n], .v x])
    (hq : s.hp q = some (true, cls C)) (k : K ((s.mem q (true, cls M)).put d (.v y))) : aop1 P true ⟨d, .call f args, none⟩ s K := by
  have hin : look (lenH (cls C)) pbase = some (true, cls C) := by simp [look]
  have hout : look (lenH (cls M)) pbase = some (true, cls M) := by simp [look]
  refine m_callh (hp' := (s.mem q (true, cls M)).hp) (fun r => if r = pbase then q else r) hs ?_ ⟨fun r c hc => ?_, fun r r' h1 h2 _ => ?_, fun r hr => ?_, fun r hr hn => ?_, fun r c hc => ?_, fun q' hq' => ?_, fun r c hc => ?_, fun r c hc => ?_, rfl⟩ k
  · rw [ha]
    have e : [AV.agg [.i g, .sl q 3 0 n], AV.v x] = renL (fun r => if r = pbase then q else r) [.agg [.i g, .sl pbase 3 0 n], .v x] := by simp [renL, renV]
    rw [e]
    refine lendsH_ren (fun r c hc => ?_) rfl ?_
    · obtain ⟨rfl, rfl⟩ := look_len hc
      rw [if_pos rfl, hq]
      rfl
    · simp [refsL, refsV, look]
  · obtain ⟨rfl, rfl⟩ := look_len hc
    rw [if_pos rfl, hq]
    show _ = some (true, renL _ (cls C))
    rw [pl_ren _ (cls_plain C)]
  · rw [look_len_is h1, look_len_is h2]
  · rw [look_len_is hr, hout]
    rfl
  · rw [look_len_is hr, hin] at hn
    cases hn
  · obtain ⟨rfl, rfl⟩ := look_len hc
    rw [if_pos rfl]
    show (if q = q then some (true, cls M) else s.hp q) = some (true, renL _ (cls M))
    rw [if_pos rfl, pl_ren _ (cls_plain M)]
  · have hne : q' ≠ q := fun e => by
      refine hq' pbase (by rw [hout]; rfl) ?_
      rw [if_pos rfl]
      exact e.symm
    exact hp_mem_ne hne
  · obtain ⟨rfl, rfl⟩ := look_len hc
    exact ⟨pl_own _ (cls_plain C), refsL_plain (cls_plain C)⟩
  · obtain ⟨rfl, rfl⟩ := look_len hc
    exact pl_own _ (cls_plain M)
theorem outs_clus {s : AS} {r n : Nat} {cs : List AV} {C : List Clu} (hr : s.hp r = some (true, cs)) (e : cs = cls C) (hl : n = C.length) : Outs s (.sl r 3 0 n) (.ro true 3 (cls C) C.length) := by
  subst e; subst hl
  exact outs_sl hr (by rw [cls_len]) (cls_plain _)
theorem pzl_flat (g : Int) (C : List Clu) : flatA (pzl g C) = true := by
  show (readV (AV.i g) && (readV (.ro false 3 (cls C) C.length) && true)) = true
  simp [readV, pl_read (cls_plain C)]
/-- A region of clues of the call's own is read asx clues. -/
theorem lend_clus {hp : Hp} {r n : Nat} {C : List Clu} (hr : hp r = some (true, cls C)) (hn : n = C.length) : Lend hp (.sl r 3 0 n) (.ro false 3 (cls C) C.length) := by
  subst hn
  have h := lend_sl (z := 3) (off := 0) (n := C.length) hr (by rw [cls_len]; omega) (cls_plain C)
  have e : ((cls C).drop 0).take (C.length * 3) = cls C := by rw [List.drop_zero]; exact List.take_of_length_le (by rw [cls_len]; omega)
  rw [e] at h
  exact h
theorem lend_pzs {hp : Hp} {g : Int} {r n : Nat} {C : List Clu} (hr : hp r = some (true, cls C)) (hn : n = C.length) : Lend hp (.agg [.i g, .sl r 3 0 n]) (pzl g C) :=
  lend_aggs (lends_cons lend_v (lends_cons (lend_clus hr hn) lends_nil))
theorem cls_put {C : List Clu} {k : Nat} (c : Clu) (h : k < C.length) : (cls C).take (k * 3) ++ cC c ++ (cls C).drop (k * 3 + 3) = cls (C.set k c) := by
  rw [cls_take, show k * 3 + 3 = (k + 1) * 3 by omega, cls_drop, List.set_eq_take_append_cons_drop, if_pos h, cls_app]
  show cls (C.take k) ++ cC c ++ cls (C.drop (k + 1)) = cls (C.take k) ++ (cC c ++ cls (C.drop (k + 1)))
  rw [List.append_assoc]
theorem cls_rep (n : Nat) : (List.replicate n ([.int .i64 0, .int .i64 0, .int .i64 0].map AV.v)).flatten = cls (List.replicate n (0, 0, 0)) := by
  induction n with
  | zero => rfl
  | succ n ih =>
    rw [List.replicate_succ, List.flatten_cons, ih, List.replicate_succ]
    rfl
theorem cls_get {C : List Clu} {k : Nat} {c1 c2 c3 : Int} (h : k < C.length) (e : C.getD k (0, 0, 0) = (c1, c2, c3)) : (cls C)[k * 3]? = some (.i c1) ∧ (cls C)[k * 3 + 1]? = some (.i c2) ∧ (cls C)[k * 3 + 2]? = some (.i c3) := by
  have h1 := cls_at h
  rw [e] at h1
  have key : ∀ j, j < 3 → (cls C)[k * 3 + j]? = (cC (c1, c2, c3))[j]? := by
    intro j hj
    rw [← h1, List.getElem?_take, if_pos hj, List.getElem?_drop]
  exact ⟨key 0 (by omega), key 1 (by omega), key 2 (by omega)⟩
theorem m_stClu {own : Bool} {x y : Opd} {r k : Nat} {M M' : List Clu} {c1 c2 c3 : Int} (hx : s.ev x = .pt r (0 + ((k : Nat) : Int).toNat * 3)) (hr : s.hp r = some (true, cls M)) (hy : s.ev y = .agg [.i c1, .i c2, .i c3]) (h : k < M.length) (e : M.set k (c1, c2, c3) = M') (kk : K (s.mem r (true, cls M'))) :
    aop1 P own ⟨d, .st 3 x y, none⟩ s K := by
  rw [Int.toNat_natCast, Nat.zero_add] at hx
  refine ⟨r, k * 3, true, cls M, hx, hr, .inr ⟨_, hy, rfl, by rw [cls_len]; omega, rfl, ?_⟩⟩
  have := cls_put (C := M) (k := k) (c1, c2, c3) h
  have e2 : (cls M).take (k * 3) ++ [AV.i c1, .i c2, .i c3] ++ (cls M).drop (k * 3 + 3) = cls M' := by rw [← e]; exact this
  rw [e2]
  exact kk
end Go.Am
namespace Go.Proofs.Yteiipnadhalnbaa
open Go.Am
def ac4 : ACode := (.seq (.ops [⟨(some 1), (.box 2 (.t 0)), none⟩, ⟨(some 2), (.mov (.c (.bool false))), none⟩]) (.seq (.ops [⟨(some 3), (.mov (.c (.int .i64 1048576))), none⟩]) (.seq (.ops [⟨(some 14), (.ld (some 2) (.t 1)), none⟩, ⟨(some 15), (.mov (.t 3)), none⟩, ⟨(some 16), (.call 6 [(.t 14), (.t 15)]), none⟩, ⟨(some 3), (.mov (.t 16)), none⟩]) (.seq (.seq (.ops [⟨(some 17), (.mov (.t 3)), none⟩, ⟨(some 18), (.bin .lss (.t 17) (.c (.int .i64 0))), none⟩]) (.cond (.t 18) (.seq (.ops [⟨(some 2), (.mov (.c (.bool true))), none⟩]) .ret) .skip)) (.seq (.ops [⟨(some 20), (.ld (some 2) (.t 1)), none⟩, ⟨(some 21), (.call 8 [(.t 20)]), none⟩, ⟨(some 22), (.call 14 [(.t 21)]), none⟩, ⟨(some 19), (.mov (.t 22)), none⟩, ⟨(some 23), (.ext (.t 19) 0), none⟩, ⟨(some 24), (.ext (.t 19) 1), none⟩, ⟨(some 4), (.alloc [(.int .i64 0), (.slice none 0 0)]), none⟩, ⟨none, (.st 2 (.t 4) (.t 23)), none⟩, ⟨(some 5), (.mov (.t 24)), none⟩]) (.seq (.ops [⟨(some 25), (.ld (some 2) (.t 1)), none⟩, ⟨(some 26), (.call 8 [(.t 25)]), none⟩, ⟨(some 6), (.alloc [(.int .i64 0), (.slice none 0 0)]), none⟩, ⟨none, (.st 2 (.t 6) (.t 26)), none⟩]) (.seq (.ops [⟨(some 28), (.ld (some 2) (.t 6)), none⟩, ⟨(some 29), (.call 15 [(.t 28)]), none⟩, ⟨(some 27), (.mov (.t 29)), none⟩, ⟨(some 30), (.ext (.t 27) 0), none⟩, ⟨(some 31), (.ext (.t 27) 1), none⟩, ⟨(some 7), (.alloc [(.int .i64 0), (.slice none 0 0)]), none⟩, ⟨none, (.st 2 (.t 7) (.t 30)), none⟩, ⟨(some 8), (.mov (.t 31)), none⟩]) (.seq (.seq (.ops [⟨(some 32), (.ld (some 2) (.t 7)), none⟩, ⟨(some 33), (.ld (some 2) (.t 4)), none⟩, ⟨(some 34), (.call 11 [(.t 32), (.t 33)]), none⟩, ⟨(some 35), (.not (.t 34)), none⟩, ⟨(some 36), (.mov (.t 35)), none⟩, ⟨(some 37), (.mov (.t 8)), (some (36, false))⟩, ⟨(some 38), (.mov (.t 5)), (some (36, false))⟩, ⟨(some 39), (.beq true (.t 37) (.t 38)), (some (36, false))⟩, ⟨(some 40), (.pick (.t 36) (.c (.bool true)) (.t 39)), none⟩]) (.cond (.t 40) (.seq (.ops [⟨(some 2), (.mov (.c (.bool false))), none⟩]) .ret) .skip)) (.seq (.seq (.tree (.take ⟨(some 41), (.ld (some 2) (.t 6)), none⟩ (.take ⟨(some 42), (.ld (some 2) (.t 1)), none⟩ (.take ⟨(some 43), (.call 8 [(.t 42)]), none⟩ (.take ⟨(some 44), (.call 11 [(.t 41), (.t 43)]), none⟩ (.take ⟨(some 45), (.not (.t 44)), none⟩ .done)))))) (.cond (.t 45) (.seq (.ops [⟨(some 2), (.mov (.c (.bool false))), none⟩]) .ret) .skip)) (.seq (.ops [⟨(some 9), (.mov (.c (.int .i64 1))), none⟩]) (.seq (.ops [⟨(some 46), (.ld (some 2) (.t 6)), none⟩, ⟨(some 47), (.mov (.t 9)), none⟩, ⟨(some 48), (.call 12 [(.t 46), (.t 47)]), none⟩, ⟨(some 9), (.mov (.t 48)), none⟩]) (.seq (.seq (.ops [⟨(some 49), (.mov (.t 9)), none⟩, ⟨(some 50), (.bin .lss (.t 49) (.c (.int .i64 0))), none⟩, ⟨(some 51), (.mov (.t 50)), none⟩, ⟨(some 52), (.ld (some 2) (.t 7)), (some (51, false))⟩, ⟨(some 53), (.ld (some 2) (.t 4)), (some (51, false))⟩, ⟨(some 54), (.call 11 [(.t 52), (.t 53)]), (some (51, false))⟩, ⟨(some 55), (.not (.t 54)), (some (51, false))⟩, ⟨(some 56), (.pick (.t 51) (.c (.bool true)) (.t 55)), none⟩, ⟨(some 57), (.mov (.t 56)), none⟩, ⟨(some 58), (.mov (.t 8)), (some (57, false))⟩, ⟨(some 59), (.mov (.t 5)), (some (57, false))⟩, ⟨(some 60), (.beq true (.t 58) (.t 59)), (some (57, false))⟩, ⟨(some 61), (.pick (.t 57) (.c (.bool true)) (.t 60)), none⟩]) (.cond (.t 61) (.seq (.ops [⟨(some 2), (.mov (.c (.bool false))), none⟩]) .ret) .skip)) (.seq (.ops [⟨(some 10), (.mov (.c (.int .i64 1))), none⟩]) (.seq (.ops [⟨(some 62), (.ld (some 2) (.t 7)), none⟩, ⟨(some 63), (.mov (.t 10)), none⟩, ⟨(some 64), (.call 12 [(.t 62), (.t 63)]), none⟩, ⟨(some 10), (.mov (.t 64)), none⟩]) (.seq (.ops [⟨(some 11), (.mov (.c (.int .i64 1))), none⟩]) (.seq (.ops [⟨(some 65), (.ld (some 2) (.t 7)), none⟩, ⟨(some 66), (.mov (.t 11)), none⟩, ⟨(some 67), (.call 13 [(.t 65), (.t 66)]), none⟩, ⟨(some 11), (.mov (.t 67)), none⟩]) (.seq (.seq (.ops [⟨(some 68), (.mov (.t 11)), none⟩, ⟨(some 69), (.bin .lss (.t 68) (.c (.int .i64 0))), none⟩]) (.cond (.t 69) (.seq (.ops [⟨(some 2), (.mov (.c (.bool false))), none⟩]) .ret) .skip)) (.seq (.seq (.ops [⟨(some 70), (.mov (.t 11)), none⟩, ⟨(some 71), (.mov (.t 10)), none⟩, ⟨(some 72), (.bin .neq (.t 70) (.t 71)), none⟩]) (.cond (.t 72) (.seq (.ops [⟨(some 2), (.mov (.c (.bool false))), none⟩]) .ret) .skip)) (.seq (.ops [⟨(some 74), (.ld (some 2) (.t 1)), none⟩, ⟨(some 75), (.call 8 [(.t 74)]), none⟩, ⟨(some 76), (.call 15 [(.t 75)]), none⟩, ⟨(some 73), (.mov (.t 76)), none⟩, ⟨(some 77), (.ext (.t 73) 0), none⟩, ⟨(some 78), (.ext (.t 73) 1), none⟩, ⟨(some 12), (.alloc [(.int .i64 0), (.slice none 0 0)]), none⟩, ⟨none, (.st 2 (.t 12) (.t 77)), none⟩, ⟨(some 13), (.mov (.t 78)), none⟩]) (.seq (.seq (.ops [⟨(some 79), (.ld (some 2) (.t 12)), none⟩, ⟨(some 80), (.ld (some 2) (.t 4)), none⟩, ⟨(some 81), (.call 11 [(.t 79), (.t 80)]), none⟩, ⟨(some 82), (.not (.t 81)), none⟩, ⟨(some 83), (.mov (.t 82)), none⟩, ⟨(some 84), (.mov (.t 13)), (some (83, false))⟩, ⟨(some 85), (.mov (.t 5)), (some (83, false))⟩, ⟨(some 86), (.beq true (.t 84) (.t 85)), (some (83, false))⟩, ⟨(some 87), (.pick (.t 83) (.c (.bool true)) (.t 86)), none⟩]) (.cond (.t 87) (.seq (.ops [⟨(some 2), (.mov (.c (.bool false))), none⟩]) .ret) .skip)) (.seq (.ops [⟨(some 11), (.mov (.c (.int .i64 1))), none⟩]) (.seq (.ops [⟨(some 88), (.ld (some 2) (.t 7)), none⟩, ⟨(some 89), (.mov (.t 11)), none⟩, ⟨(some 90), (.call 13 [(.t 88), (.t 89)]), none⟩, ⟨(some 11), (.mov (.t 90)), none⟩]) (.seq (.seq (.ops [⟨(some 91), (.mov (.t 11)), none⟩, ⟨(some 92), (.bin .lss (.t 91) (.c (.int .i64 0))), none⟩]) (.cond (.t 92) (.seq (.ops [⟨(some 2), (.mov (.c (.bool false))), none⟩]) .ret) .skip)) (.seq (.seq (.ops [⟨(some 93), (.mov (.t 11)), none⟩, ⟨(some 94), (.mov (.t 10)), none⟩, ⟨(some 95), (.bin .neq (.t 93) (.t 94)), none⟩]) (.cond (.t 95) (.seq (.ops [⟨(some 2), (.mov (.c (.bool false))), none⟩]) .ret) .skip)) (.seq (.ops [⟨(some 2), (.mov (.c (.bool true))), none⟩]) .ret)))))))))))))))))))))))))
theorem cc4 : ccode Try.prog (min Try.f4.ntmps pbase) (Try.f4.body.getD .skip) = some ac4 := by kernel_rfl
def ac6 : ACode := (.seq (.ops [⟨(some 2), (.box 2 (.t 0)), none⟩, ⟨(some 4), (.mov (.c (.int .i64 0))), none⟩]) (.seq (.ops [⟨(some 5), (.fa 1 (.t 2)), none⟩, ⟨(some 6), (.ld none (.t 5)), none⟩, ⟨(some 7), (.mov (.t 1)), none⟩, ⟨(some 8), (.call 21 [(.t 6), (.t 7)]), none⟩, ⟨(some 1), (.mov (.t 8)), none⟩]) (.seq (.seq (.ops [⟨(some 9), (.mov (.t 1)), none⟩, ⟨(some 10), (.bin .lss (.t 9) (.c (.int .i64 0))), none⟩]) (.cond (.t 10) (.seq (.ops [⟨(some 4), (.mov (.c (.int .i64 (-1)))), none⟩]) .ret) .skip)) (.seq (.ops [⟨(some 11), (.mov (.t 1)), none⟩, ⟨(some 4), (.mov (.t 11)), none⟩]) .ret))))
theorem cc6 : ccode Try.prog (min Try.f6.ntmps pbase) (Try.f6.body.getD .skip) = some ac6 := by kernel_rfl
def ac8 : ACode := (.seq (.ops [⟨(some 1), (.box 2 (.t 0)), none⟩, ⟨(some 2), (.alloc [(.int .i64 0), (.slice none 0 0)]), none⟩]) (.seq (.ops [⟨(some 3), (.alloc [(.int .i64 0), (.slice none 0 0)]), none⟩]) (.seq (.ops [⟨(some 4), (.fa 0 (.t 1)), none⟩, ⟨(some 5), (.ld none (.t 4)), none⟩, ⟨(some 6), (.fa 0 (.t 3)), none⟩, ⟨none, (.st 1 (.t 6) (.t 5)), none⟩]) (.seq (.ops [⟨(some 7), (.fa 1 (.t 1)), none⟩, ⟨(some 8), (.ld none (.t 7)), none⟩, ⟨(some 9), (.call 24 [(.t 8)]), none⟩, ⟨(some 10), (.fa 1 (.t 3)), none⟩, ⟨none, (.st 1 (.t 10) (.t 9)), none⟩]) (.seq (.ops [⟨(some 11), (.ld (some 2) (.t 3)), none⟩, ⟨none, (.st 2 (.t 2) (.t 11)), none⟩]) .ret)))))
theorem cc8 : ccode Try.prog (min Try.f8.ntmps pbase) (Try.f8.body.getD .skip) = some ac8 := by kernel_rfl
def ac9 : ACode := (.seq (.ops [⟨(some 1), (.box 3 (.t 0)), none⟩, ⟨(some 2), (.alloc [(.int .i64 0), (.int .i64 0), (.int .i64 0)]), none⟩]) (.seq (.ops [⟨(some 3), (.alloc [(.int .i64 0), (.int .i64 0), (.int .i64 0)]), none⟩]) (.seq (.ops [⟨(some 4), (.fa 0 (.t 1)), none⟩, ⟨(some 5), (.ld none (.t 4)), none⟩, ⟨(some 6), (.fa 0 (.t 3)), none⟩, ⟨none, (.st 1 (.t 6) (.t 5)), none⟩]) (.seq (.ops [⟨(some 7), (.fa 1 (.t 1)), none⟩, ⟨(some 8), (.ld none (.t 7)), none⟩, ⟨(some 9), (.fa 1 (.t 3)), none⟩, ⟨none, (.st 1 (.t 9) (.t 8)), none⟩]) (.seq (.ops [⟨(some 10), (.fa 2 (.t 1)), none⟩, ⟨(some 11), (.ld none (.t 10)), none⟩, ⟨(some 12), (.fa 2 (.t 3)), none⟩, ⟨none, (.st 1 (.t 12) (.t 11)), none⟩]) (.seq (.ops [⟨(some 13), (.ld (some 3) (.t 3)), none⟩, ⟨none, (.st 3 (.t 2) (.t 13)), none⟩]) .ret))))))
theorem cc9 : ccode Try.prog (min Try.f9.ntmps pbase) (Try.f9.body.getD .skip) = some ac9 := by kernel_rfl
def ac11 : ACode := (.seq (.ops [⟨(some 2), (.box 2 (.t 0)), none⟩, ⟨(some 3), (.box 2 (.t 1)), none⟩, ⟨(some 4), (.mov (.c (.bool false))), none⟩]) (.seq (.seq (.ops [⟨(some 5), (.fa 0 (.t 2)), none⟩, ⟨(some 6), (.ld none (.t 5)), none⟩, ⟨(some 7), (.fa 0 (.t 3)), none⟩, ⟨(some 8), (.ld none (.t 7)), none⟩, ⟨(some 9), (.bin .neq (.t 6) (.t 8)), none⟩]) (.cond (.t 9) (.seq (.ops [⟨(some 4), (.mov (.c (.bool false))), none⟩]) .ret) .skip)) (.seq (.seq (.ops [⟨(some 10), (.fa 1 (.t 2)), none⟩, ⟨(some 11), (.ld none (.t 10)), none⟩, ⟨(some 12), (.fa 1 (.t 3)), none⟩, ⟨(some 13), (.ld none (.t 12)), none⟩, ⟨(some 14), (.call 27 [(.t 11), (.t 13)]), none⟩, ⟨(some 15), (.not (.t 14)), none⟩]) (.cond (.t 15) (.seq (.ops [⟨(some 4), (.mov (.c (.bool false))), none⟩]) .ret) .skip)) (.seq (.ops [⟨(some 4), (.mov (.c (.bool true))), none⟩]) .ret))))
theorem cc11 : ccode Try.prog (min Try.f11.ntmps pbase) (Try.f11.body.getD .skip) = some ac11 := by kernel_rfl
def ac12 : ACode := (.seq (.ops [⟨(some 2), (.box 2 (.t 0)), none⟩, ⟨(some 4), (.mov (.c (.int .i64 0))), none⟩]) (.seq (.ops [⟨(some 5), (.fa 1 (.t 2)), none⟩, ⟨(some 6), (.ld none (.t 5)), none⟩, ⟨(some 7), (.mov (.t 1)), none⟩, ⟨(some 8), (.call 28 [(.t 6), (.t 7)]), none⟩, ⟨(some 1), (.mov (.t 8)), none⟩]) (.seq (.ops [⟨(some 9), (.mov (.t 1)), none⟩, ⟨(some 4), (.mov (.t 9)), none⟩]) .ret)))
theorem cc12 : ccode Try.prog (min Try.f12.ntmps pbase) (Try.f12.body.getD .skip) = some ac12 := by kernel_rfl
def ac13 : ACode := (.seq (.ops [⟨(some 2), (.box 2 (.t 0)), none⟩, ⟨(some 4), (.mov (.c (.int .i64 0))), none⟩]) (.seq (.ops [⟨(some 5), (.fa 1 (.t 2)), none⟩, ⟨(some 6), (.ld none (.t 5)), none⟩, ⟨(some 7), (.mov (.t 1)), none⟩, ⟨(some 8), (.call 29 [(.t 6), (.t 7)]), none⟩, ⟨(some 1), (.mov (.t 8)), none⟩]) (.seq (.seq (.ops [⟨(some 9), (.mov (.t 1)), none⟩, ⟨(some 10), (.bin .lss (.t 9) (.c (.int .i64 0))), none⟩]) (.cond (.t 10) (.seq (.ops [⟨(some 4), (.mov (.c (.int .i64 (-1)))), none⟩]) .ret) .skip)) (.seq (.ops [⟨(some 11), (.mov (.t 1)), none⟩, ⟨(some 4), (.mov (.t 11)), none⟩]) .ret))))
theorem cc13 : ccode Try.prog (min Try.f13.ntmps pbase) (Try.f13.body.getD .skip) = some ac13 := by kernel_rfl
def ac14 : ACode := (.seq (.ops [⟨(some 1), (.box 2 (.t 0)), none⟩, ⟨(some 2), (.alloc [(.int .i64 0), (.slice none 0 0)]), none⟩, ⟨(some 3), (.mov (.c (.bool false))), none⟩]) (.seq (.seq (.ops [⟨(some 7), (.ld (some 2) (.t 1)), none⟩, ⟨(some 8), (.call 22 [(.t 7)]), none⟩, ⟨(some 9), (.not (.t 8)), none⟩, ⟨(some 10), (.mov (.t 9)), none⟩, ⟨(some 11), (.fa 0 (.t 1)), (some (10, false))⟩, ⟨(some 12), (.ld none (.t 11)), (some (10, false))⟩, ⟨(some 13), (.fa 1 (.t 1)), (some (10, false))⟩, ⟨(some 14), (.ld none (.t 13)), (some (10, false))⟩, ⟨(some 15), (.call 30 [(.t 12), (.t 14)]), (some (10, false))⟩, ⟨(some 16), (.not (.t 15)), (some (10, false))⟩, ⟨(some 17), (.pick (.t 10) (.c (.bool true)) (.t 16)), none⟩]) (.cond (.t 17) (.seq (.ops [⟨(some 18), (.pu (.bld [(.int .i64 0), (.slice none 0 0)] []) []), none⟩, ⟨none, (.st 2 (.t 2) (.t 18)), none⟩, ⟨(some 3), (.mov (.c (.bool false))), none⟩]) .ret) .skip)) (.seq (.ops [⟨(some 19), (.bsl 3 0 [(.int .i64 0), (.int .i64 0), (.int .i64 0)] []), none⟩, ⟨(some 20), (.fa 1 (.t 1)), none⟩, ⟨(some 21), (.ld none (.t 20)), none⟩, ⟨(some 22), (.app 3 24 (.t 19) (.t 21)), none⟩, ⟨(some 4), (.mov (.t 22)), none⟩]) (.seq (.seq (.ops [⟨(some 5), (.mov (.c (.int .i64 0))), none⟩]) (.block 0 (.loop (.seq (.seq (.ops [⟨(some 23), (.mov (.t 5)), none⟩, ⟨(some 24), (.mov (.t 4)), none⟩, ⟨(some 25), (.len (.t 24)), none⟩, ⟨(some 26), (.bin .lss (.t 23) (.t 25)), none⟩]) (.cond (.t 26) .skip (.exit 0))) (.block 1 (.seq (.ops [⟨(some 27), (.mov (.t 4)), none⟩, ⟨(some 28), (.mov (.t 5)), none⟩, ⟨(some 29), (.call 31 [(.t 27), (.t 28)]), none⟩, ⟨(some 6), (.mov (.t 29)), none⟩]) (.seq (.ops [⟨(some 30), (.fa 0 (.t 1)), none⟩, ⟨(some 31), (.ld none (.t 30)), none⟩, ⟨(some 32), (.mov (.t 6)), none⟩, ⟨(some 33), (.call 30 [(.t 31), (.t 32)]), none⟩]) (.cond (.t 33) (.ops [⟨(some 34), (.mov (.t 6)), none⟩, ⟨(some 4), (.mov (.t 34)), none⟩]) (.ops [⟨(some 35), (.mov (.t 5)), none⟩, ⟨(some 36), (.bin .add (.t 35) (.c (.int .i64 1))), none⟩, ⟨(some 5), (.mov (.t 36)), none⟩]))))))))) (.seq (.ops [⟨(some 37), (.fa 0 (.t 1)), none⟩, ⟨(some 38), (.ld none (.t 37)), none⟩, ⟨(some 39), (.mov (.t 4)), none⟩, ⟨(some 40), (.pu (.bld [(.int .i64 0), (.slice none 0 0)] [(0, 1), (1, 1)]) [(.t 38), (.t 39)]), none⟩, ⟨none, (.st 2 (.t 2) (.t 40)), none⟩, ⟨(some 3), (.mov (.c (.bool true))), none⟩]) .ret)))))
theorem cc14 : ccode Try.prog (min Try.f14.ntmps pbase) (Try.f14.body.getD .skip) = some ac14 := by kernel_rfl
def ac15 : ACode := (.seq (.ops [⟨(some 1), (.box 2 (.t 0)), none⟩, ⟨(some 2), (.alloc [(.int .i64 0), (.slice none 0 0)]), none⟩, ⟨(some 3), (.mov (.c (.bool false))), none⟩]) (.seq (.ops [⟨(some 12), (.ld (some 2) (.t 1)), none⟩, ⟨(some 13), (.call 32 [(.t 12)]), none⟩, ⟨(some 11), (.mov (.t 13)), none⟩, ⟨(some 14), (.ext (.t 11) 0), none⟩, ⟨(some 15), (.ext (.t 11) 1), none⟩, ⟨(some 4), (.mov (.t 14)), none⟩, ⟨(some 5), (.mov (.t 15)), none⟩]) (.seq (.seq (.ops [⟨(some 16), (.mov (.t 4)), none⟩, ⟨(some 17), (.not (.t 16)), none⟩]) (.cond (.t 17) (.seq (.ops [⟨(some 18), (.pu (.bld [(.int .i64 0), (.slice none 0 0)] []) []), none⟩, ⟨none, (.st 2 (.t 2) (.t 18)), none⟩, ⟨(some 3), (.mov (.c (.bool false))), none⟩]) .ret) .skip)) (.seq (.tree (.alt (.take ⟨(some 19), (.fa 0 (.t 1)), none⟩ (.alt (.take ⟨(some 20), (.ld none (.t 19)), none⟩ (.two ⟨(some 21), (.fa 1 (.t 1)), none⟩ (.two ⟨(some 22), (.ld none (.t 21)), none⟩ (.two ⟨(some 23), (.call 33 [(.t 22)]), none⟩ (.two ⟨(some 24), (.pu (.bld [(.int .i64 0), (.slice none 0 0)] [(0, 1), (1, 1)]) [(.t 20), (.t 23)]), none⟩ (.take ⟨(some 6), (.alloc [(.int .i64 0), (.slice none 0 0)]), none⟩ (.take ⟨none, (.st 2 (.t 6) (.t 24)), none⟩ .done)) ⟨(some 6), (.alloc [(.int .i64 0), (.slice none 0 0)]), none⟩ (.take ⟨(some 24), (.pu (.bld [(.int .i64 0), (.slice none 0 0)] [(0, 1), (1, 1)]) [(.t 20), (.t 23)]), none⟩ (.take ⟨none, (.st 2 (.t 6) (.t 24)), none⟩ .done))) ⟨(some 6), (.alloc [(.int .i64 0), (.slice none 0 0)]), none⟩ (.take ⟨(some 23), (.call 33 [(.t 22)]), none⟩ (.take ⟨(some 24), (.pu (.bld [(.int .i64 0), (.slice none 0 0)] [(0, 1), (1, 1)]) [(.t 20), (.t 23)]), none⟩ (.take ⟨none, (.st 2 (.t 6) (.t 24)), none⟩ .done)))) ⟨(some 6), (.alloc [(.int .i64 0), (.slice none 0 0)]), none⟩ (.take ⟨(some 22), (.ld none (.t 21)), none⟩ (.take ⟨(some 23), (.call 33 [(.t 22)]), none⟩ (.take ⟨(some 24), (.pu (.bld [(.int .i64 0), (.slice none 0 0)] [(0, 1), (1, 1)]) [(.t 20), (.t 23)]), none⟩ (.take ⟨none, (.st 2 (.t 6) (.t 24)), none⟩ .done))))) ⟨(some 6), (.alloc [(.int .i64 0), (.slice none 0 0)]), none⟩ (.take ⟨(some 21), (.fa 1 (.t 1)), none⟩ (.take ⟨(some 22), (.ld none (.t 21)), none⟩ (.take ⟨(some 23), (.call 33 [(.t 22)]), none⟩ (.take ⟨(some 24), (.pu (.bld [(.int .i64 0), (.slice none 0 0)] [(0, 1), (1, 1)]) [(.t 20), (.t 23)]), none⟩ (.take ⟨none, (.st 2 (.t 6) (.t 24)), none⟩ .done))))))) (.alt (.take ⟨(some 21), (.fa 1 (.t 1)), none⟩ (.alt (.take ⟨(some 20), (.ld none (.t 19)), none⟩ (.two ⟨(some 22), (.ld none (.t 21)), none⟩ (.two ⟨(some 23), (.call 33 [(.t 22)]), none⟩ (.two ⟨(some 24), (.pu (.bld [(.int .i64 0), (.slice none 0 0)] [(0, 1), (1, 1)]) [(.t 20), (.t 23)]), none⟩ (.take ⟨(some 6), (.alloc [(.int .i64 0), (.slice none 0 0)]), none⟩ (.take ⟨none, (.st 2 (.t 6) (.t 24)), none⟩ .done)) ⟨(some 6), (.alloc [(.int .i64 0), (.slice none 0 0)]), none⟩ (.take ⟨(some 24), (.pu (.bld [(.int .i64 0), (.slice none 0 0)] [(0, 1), (1, 1)]) [(.t 20), (.t 23)]), none⟩ (.take ⟨none, (.st 2 (.t 6) (.t 24)), none⟩ .done))) ⟨(some 6), (.alloc [(.int .i64 0), (.slice none 0 0)]), none⟩ (.take ⟨(some 23), (.call 33 [(.t 22)]), none⟩ (.take ⟨(some 24), (.pu (.bld [(.int .i64 0), (.slice none 0 0)] [(0, 1), (1, 1)]) [(.t 20), (.t 23)]), none⟩ (.take ⟨none, (.st 2 (.t 6) (.t 24)), none⟩ .done)))) ⟨(some 6), (.alloc [(.int .i64 0), (.slice none 0 0)]), none⟩ (.take ⟨(some 22), (.ld none (.t 21)), none⟩ (.take ⟨(some 23), (.call 33 [(.t 22)]), none⟩ (.take ⟨(some 24), (.pu (.bld [(.int .i64 0), (.slice none 0 0)] [(0, 1), (1, 1)]) [(.t 20), (.t 23)]), none⟩ (.take ⟨none, (.st 2 (.t 6) (.t 24)), none⟩ .done)))))) (.alt (.take ⟨(some 22), (.ld none (.t 21)), none⟩ (.alt (.take ⟨(some 20), (.ld none (.t 19)), none⟩ (.two ⟨(some 23), (.call 33 [(.t 22)]), none⟩ (.two ⟨(some 24), (.pu (.bld [(.int .i64 0), (.slice none 0 0)] [(0, 1), (1, 1)]) [(.t 20), (.t 23)]), none⟩ (.take ⟨(some 6), (.alloc [(.int .i64 0), (.slice none 0 0)]), none⟩ (.take ⟨none, (.st 2 (.t 6) (.t 24)), none⟩ .done)) ⟨(some 6), (.alloc [(.int .i64 0), (.slice none 0 0)]), none⟩ (.take ⟨(some 24), (.pu (.bld [(.int .i64 0), (.slice none 0 0)] [(0, 1), (1, 1)]) [(.t 20), (.t 23)]), none⟩ (.take ⟨none, (.st 2 (.t 6) (.t 24)), none⟩ .done))) ⟨(some 6), (.alloc [(.int .i64 0), (.slice none 0 0)]), none⟩ (.take ⟨(some 23), (.call 33 [(.t 22)]), none⟩ (.take ⟨(some 24), (.pu (.bld [(.int .i64 0), (.slice none 0 0)] [(0, 1), (1, 1)]) [(.t 20), (.t 23)]), none⟩ (.take ⟨none, (.st 2 (.t 6) (.t 24)), none⟩ .done))))) (.alt (.take ⟨(some 23), (.call 33 [(.t 22)]), none⟩ (.two ⟨(some 20), (.ld none (.t 19)), none⟩ (.two ⟨(some 24), (.pu (.bld [(.int .i64 0), (.slice none 0 0)] [(0, 1), (1, 1)]) [(.t 20), (.t 23)]), none⟩ (.take ⟨(some 6), (.alloc [(.int .i64 0), (.slice none 0 0)]), none⟩ (.take ⟨none, (.st 2 (.t 6) (.t 24)), none⟩ .done)) ⟨(some 6), (.alloc [(.int .i64 0), (.slice none 0 0)]), none⟩ (.take ⟨(some 24), (.pu (.bld [(.int .i64 0), (.slice none 0 0)] [(0, 1), (1, 1)]) [(.t 20), (.t 23)]), none⟩ (.take ⟨none, (.st 2 (.t 6) (.t 24)), none⟩ .done))) ⟨(some 6), (.alloc [(.int .i64 0), (.slice none 0 0)]), none⟩ (.take ⟨(some 20), (.ld none (.t 19)), none⟩ (.take ⟨(some 24), (.pu (.bld [(.int .i64 0), (.slice none 0 0)] [(0, 1), (1, 1)]) [(.t 20), (.t 23)]), none⟩ (.take ⟨none, (.st 2 (.t 6) (.t 24)), none⟩ .done))))) (.alt (.take ⟨(some 6), (.alloc [(.int .i64 0), (.slice none 0 0)]), none⟩ (.take ⟨(some 20), (.ld none (.t 19)), none⟩ (.take ⟨(some 23), (.call 33 [(.t 22)]), none⟩ (.take ⟨(some 24), (.pu (.bld [(.int .i64 0), (.slice none 0 0)] [(0, 1), (1, 1)]) [(.t 20), (.t 23)]), none⟩ (.take ⟨none, (.st 2 (.t 6) (.t 24)), none⟩ .done))))) .top)))) (.alt (.take ⟨(some 6), (.alloc [(.int .i64 0), (.slice none 0 0)]), none⟩ (.take ⟨(some 20), (.ld none (.t 19)), none⟩ (.take ⟨(some 22), (.ld none (.t 21)), none⟩ (.take ⟨(some 23), (.call 33 [(.t 22)]), none⟩ (.take ⟨(some 24), (.pu (.bld [(.int .i64 0), (.slice none 0 0)] [(0, 1), (1, 1)]) [(.t 20), (.t 23)]), none⟩ (.take ⟨none, (.st 2 (.t 6) (.t 24)), none⟩ .done)))))) .top)))) (.alt (.take ⟨(some 6), (.alloc [(.int .i64 0), (.slice none 0 0)]), none⟩ (.take ⟨(some 20), (.ld none (.t 19)), none⟩ (.take ⟨(some 21), (.fa 1 (.t 1)), none⟩ (.take ⟨(some 22), (.ld none (.t 21)), none⟩ (.take ⟨(some 23), (.call 33 [(.t 22)]), none⟩ (.take ⟨(some 24), (.pu (.bld [(.int .i64 0), (.slice none 0 0)] [(0, 1), (1, 1)]) [(.t 20), (.t 23)]), none⟩ (.take ⟨none, (.st 2 (.t 6) (.t 24)), none⟩ .done))))))) .top)))) (.alt (.take ⟨(some 21), (.fa 1 (.t 1)), none⟩ (.alt (.take ⟨(some 19), (.fa 0 (.t 1)), none⟩ (.alt (.take ⟨(some 20), (.ld none (.t 19)), none⟩ (.two ⟨(some 22), (.ld none (.t 21)), none⟩ (.two ⟨(some 23), (.call 33 [(.t 22)]), none⟩ (.two ⟨(some 24), (.pu (.bld [(.int .i64 0), (.slice none 0 0)] [(0, 1), (1, 1)]) [(.t 20), (.t 23)]), none⟩ (.take ⟨(some 6), (.alloc [(.int .i64 0), (.slice none 0 0)]), none⟩ (.take ⟨none, (.st 2 (.t 6) (.t 24)), none⟩ .done)) ⟨(some 6), (.alloc [(.int .i64 0), (.slice none 0 0)]), none⟩ (.take ⟨(some 24), (.pu (.bld [(.int .i64 0), (.slice none 0 0)] [(0, 1), (1, 1)]) [(.t 20), (.t 23)]), none⟩ (.take ⟨none, (.st 2 (.t 6) (.t 24)), none⟩ .done))) ⟨(some 6), (.alloc [(.int .i64 0), (.slice none 0 0)]), none⟩ (.take ⟨(some 23), (.call 33 [(.t 22)]), none⟩ (.take ⟨(some 24), (.pu (.bld [(.int .i64 0), (.slice none 0 0)] [(0, 1), (1, 1)]) [(.t 20), (.t 23)]), none⟩ (.take ⟨none, (.st 2 (.t 6) (.t 24)), none⟩ .done)))) ⟨(some 6), (.alloc [(.int .i64 0), (.slice none 0 0)]), none⟩ (.take ⟨(some 22), (.ld none (.t 21)), none⟩ (.take ⟨(some 23), (.call 33 [(.t 22)]), none⟩ (.take ⟨(some 24), (.pu (.bld [(.int .i64 0), (.slice none 0 0)] [(0, 1), (1, 1)]) [(.t 20), (.t 23)]), none⟩ (.take ⟨none, (.st 2 (.t 6) (.t 24)), none⟩ .done)))))) (.alt (.take ⟨(some 22), (.ld none (.t 21)), none⟩ (.alt (.take ⟨(some 20), (.ld none (.t 19)), none⟩ (.two ⟨(some 23), (.call 33 [(.t 22)]), none⟩ (.two ⟨(some 24), (.pu (.bld [(.int .i64 0), (.slice none 0 0)] [(0, 1), (1, 1)]) [(.t 20), (.t 23)]), none⟩ (.take ⟨(some 6), (.alloc [(.int .i64 0), (.slice none 0 0)]), none⟩ (.take ⟨none, (.st 2 (.t 6) (.t 24)), none⟩ .done)) ⟨(some 6), (.alloc [(.int .i64 0), (.slice none 0 0)]), none⟩ (.take ⟨(some 24), (.pu (.bld [(.int .i64 0), (.slice none 0 0)] [(0, 1), (1, 1)]) [(.t 20), (.t 23)]), none⟩ (.take ⟨none, (.st 2 (.t 6) (.t 24)), none⟩ .done))) ⟨(some 6), (.alloc [(.int .i64 0), (.slice none 0 0)]), none⟩ (.take ⟨(some 23), (.call 33 [(.t 22)]), none⟩ (.take ⟨(some 24), (.pu (.bld [(.int .i64 0), (.slice none 0 0)] [(0, 1), (1, 1)]) [(.t 20), (.t 23)]), none⟩ (.take ⟨none, (.st 2 (.t 6) (.t 24)), none⟩ .done))))) (.alt (.take ⟨(some 23), (.call 33 [(.t 22)]), none⟩ (.two ⟨(some 20), (.ld none (.t 19)), none⟩ (.two ⟨(some 24), (.pu (.bld [(.int .i64 0), (.slice none 0 0)] [(0, 1), (1, 1)]) [(.t 20), (.t 23)]), none⟩ (.take ⟨(some 6), (.alloc [(.int .i64 0), (.slice none 0 0)]), none⟩ (.take ⟨none, (.st 2 (.t 6) (.t 24)), none⟩ .done)) ⟨(some 6), (.alloc [(.int .i64 0), (.slice none 0 0)]), none⟩ (.take ⟨(some 24), (.pu (.bld [(.int .i64 0), (.slice none 0 0)] [(0, 1), (1, 1)]) [(.t 20), (.t 23)]), none⟩ (.take ⟨none, (.st 2 (.t 6) (.t 24)), none⟩ .done))) ⟨(some 6), (.alloc [(.int .i64 0), (.slice none 0 0)]), none⟩ (.take ⟨(some 20), (.ld none (.t 19)), none⟩ (.take ⟨(some 24), (.pu (.bld [(.int .i64 0), (.slice none 0 0)] [(0, 1), (1, 1)]) [(.t 20), (.t 23)]), none⟩ (.take ⟨none, (.st 2 (.t 6) (.t 24)), none⟩ .done))))) (.alt (.take ⟨(some 6), (.alloc [(.int .i64 0), (.slice none 0 0)]), none⟩ (.take ⟨(some 20), (.ld none (.t 19)), none⟩ (.take ⟨(some 23), (.call 33 [(.t 22)]), none⟩ (.take ⟨(some 24), (.pu (.bld [(.int .i64 0), (.slice none 0 0)] [(0, 1), (1, 1)]) [(.t 20), (.t 23)]), none⟩ (.take ⟨none, (.st 2 (.t 6) (.t 24)), none⟩ .done))))) .top)))) (.alt (.take ⟨(some 6), (.alloc [(.int .i64 0), (.slice none 0 0)]), none⟩ (.take ⟨(some 20), (.ld none (.t 19)), none⟩ (.take ⟨(some 22), (.ld none (.t 21)), none⟩ (.take ⟨(some 23), (.call 33 [(.t 22)]), none⟩ (.take ⟨(some 24), (.pu (.bld [(.int .i64 0), (.slice none 0 0)] [(0, 1), (1, 1)]) [(.t 20), (.t 23)]), none⟩ (.take ⟨none, (.st 2 (.t 6) (.t 24)), none⟩ .done)))))) .top)))) (.alt (.take ⟨(some 22), (.ld none (.t 21)), none⟩ (.alt (.take ⟨(some 19), (.fa 0 (.t 1)), none⟩ (.alt (.take ⟨(some 20), (.ld none (.t 19)), none⟩ (.two ⟨(some 23), (.call 33 [(.t 22)]), none⟩ (.two ⟨(some 24), (.pu (.bld [(.int .i64 0), (.slice none 0 0)] [(0, 1), (1, 1)]) [(.t 20), (.t 23)]), none⟩ (.take ⟨(some 6), (.alloc [(.int .i64 0), (.slice none 0 0)]), none⟩ (.take ⟨none, (.st 2 (.t 6) (.t 24)), none⟩ .done)) ⟨(some 6), (.alloc [(.int .i64 0), (.slice none 0 0)]), none⟩ (.take ⟨(some 24), (.pu (.bld [(.int .i64 0), (.slice none 0 0)] [(0, 1), (1, 1)]) [(.t 20), (.t 23)]), none⟩ (.take ⟨none, (.st 2 (.t 6) (.t 24)), none⟩ .done))) ⟨(some 6), (.alloc [(.int .i64 0), (.slice none 0 0)]), none⟩ (.take ⟨(some 23), (.call 33 [(.t 22)]), none⟩ (.take ⟨(some 24), (.pu (.bld [(.int .i64 0), (.slice none 0 0)] [(0, 1), (1, 1)]) [(.t 20), (.t 23)]), none⟩ (.take ⟨none, (.st 2 (.t 6) (.t 24)), none⟩ .done))))) (.alt (.take ⟨(some 23), (.call 33 [(.t 22)]), none⟩ (.two ⟨(some 20), (.ld none (.t 19)), none⟩ (.two ⟨(some 24), (.pu (.bld [(.int .i64 0), (.slice none 0 0)] [(0, 1), (1, 1)]) [(.t 20), (.t 23)]), none⟩ (.take ⟨(some 6), (.alloc [(.int .i64 0), (.slice none 0 0)]), none⟩ (.take ⟨none, (.st 2 (.t 6) (.t 24)), none⟩ .done)) ⟨(some 6), (.alloc [(.int .i64 0), (.slice none 0 0)]), none⟩ (.take ⟨(some 24), (.pu (.bld [(.int .i64 0), (.slice none 0 0)] [(0, 1), (1, 1)]) [(.t 20), (.t 23)]), none⟩ (.take ⟨none, (.st 2 (.t 6) (.t 24)), none⟩ .done))) ⟨(some 6), (.alloc [(.int .i64 0), (.slice none 0 0)]), none⟩ (.take ⟨(some 20), (.ld none (.t 19)), none⟩ (.take ⟨(some 24), (.pu (.bld [(.int .i64 0), (.slice none 0 0)] [(0, 1), (1, 1)]) [(.t 20), (.t 23)]), none⟩ (.take ⟨none, (.st 2 (.t 6) (.t 24)), none⟩ .done))))) (.alt (.take ⟨(some 6), (.alloc [(.int .i64 0), (.slice none 0 0)]), none⟩ (.take ⟨(some 20), (.ld none (.t 19)), none⟩ (.take ⟨(some 23), (.call 33 [(.t 22)]), none⟩ (.take ⟨(some 24), (.pu (.bld [(.int .i64 0), (.slice none 0 0)] [(0, 1), (1, 1)]) [(.t 20), (.t 23)]), none⟩ (.take ⟨none, (.st 2 (.t 6) (.t 24)), none⟩ .done))))) .top)))) (.alt (.take ⟨(some 23), (.call 33 [(.t 22)]), none⟩ (.two ⟨(some 19), (.fa 0 (.t 1)), none⟩ (.two ⟨(some 20), (.ld none (.t 19)), none⟩ (.two ⟨(some 24), (.pu (.bld [(.int .i64 0), (.slice none 0 0)] [(0, 1), (1, 1)]) [(.t 20), (.t 23)]), none⟩ (.take ⟨(some 6), (.alloc [(.int .i64 0), (.slice none 0 0)]), none⟩ (.take ⟨none, (.st 2 (.t 6) (.t 24)), none⟩ .done)) ⟨(some 6), (.alloc [(.int .i64 0), (.slice none 0 0)]), none⟩ (.take ⟨(some 24), (.pu (.bld [(.int .i64 0), (.slice none 0 0)] [(0, 1), (1, 1)]) [(.t 20), (.t 23)]), none⟩ (.take ⟨none, (.st 2 (.t 6) (.t 24)), none⟩ .done))) ⟨(some 6), (.alloc [(.int .i64 0), (.slice none 0 0)]), none⟩ (.take ⟨(some 20), (.ld none (.t 19)), none⟩ (.take ⟨(some 24), (.pu (.bld [(.int .i64 0), (.slice none 0 0)] [(0, 1), (1, 1)]) [(.t 20), (.t 23)]), none⟩ (.take ⟨none, (.st 2 (.t 6) (.t 24)), none⟩ .done)))) ⟨(some 6), (.alloc [(.int .i64 0), (.slice none 0 0)]), none⟩ (.take ⟨(some 19), (.fa 0 (.t 1)), none⟩ (.take ⟨(some 20), (.ld none (.t 19)), none⟩ (.take ⟨(some 24), (.pu (.bld [(.int .i64 0), (.slice none 0 0)] [(0, 1), (1, 1)]) [(.t 20), (.t 23)]), none⟩ (.take ⟨none, (.st 2 (.t 6) (.t 24)), none⟩ .done)))))) (.alt (.take ⟨(some 6), (.alloc [(.int .i64 0), (.slice none 0 0)]), none⟩ (.take ⟨(some 19), (.fa 0 (.t 1)), none⟩ (.take ⟨(some 20), (.ld none (.t 19)), none⟩ (.take ⟨(some 23), (.call 33 [(.t 22)]), none⟩ (.take ⟨(some 24), (.pu (.bld [(.int .i64 0), (.slice none 0 0)] [(0, 1), (1, 1)]) [(.t 20), (.t 23)]), none⟩ (.take ⟨none, (.st 2 (.t 6) (.t 24)), none⟩ .done)))))) .top)))) (.alt (.take ⟨(some 6), (.alloc [(.int .i64 0), (.slice none 0 0)]), none⟩ (.take ⟨(some 19), (.fa 0 (.t 1)), none⟩ (.take ⟨(some 20), (.ld none (.t 19)), none⟩ (.take ⟨(some 22), (.ld none (.t 21)), none⟩ (.take ⟨(some 23), (.call 33 [(.t 22)]), none⟩ (.take ⟨(some 24), (.pu (.bld [(.int .i64 0), (.slice none 0 0)] [(0, 1), (1, 1)]) [(.t 20), (.t 23)]), none⟩ (.take ⟨none, (.st 2 (.t 6) (.t 24)), none⟩ .done))))))) .top)))) (.alt (.take ⟨(some 6), (.alloc [(.int .i64 0), (.slice none 0 0)]), none⟩ (.take ⟨(some 19), (.fa 0 (.t 1)), none⟩ (.take ⟨(some 20), (.ld none (.t 19)), none⟩ (.take ⟨(some 21), (.fa 1 (.t 1)), none⟩ (.take ⟨(some 22), (.ld none (.t 21)), none⟩ (.take ⟨(some 23), (.call 33 [(.t 22)]), none⟩ (.take ⟨(some 24), (.pu (.bld [(.int .i64 0), (.slice none 0 0)] [(0, 1), (1, 1)]) [(.t 20), (.t 23)]), none⟩ (.take ⟨none, (.st 2 (.t 6) (.t 24)), none⟩ .done)))))))) .top)))) (.seq (.seq (.ops [⟨(some 7), (.mov (.c (.int .i64 0))), none⟩]) (.block 0 (.loop (.seq (.seq (.ops [⟨(some 25), (.mov (.t 7)), none⟩, ⟨(some 26), (.fa 1 (.t 6)), none⟩, ⟨(some 27), (.ld none (.t 26)), none⟩, ⟨(some 28), (.len (.t 27)), none⟩, ⟨(some 29), (.bin .lss (.t 25) (.t 28)), none⟩]) (.cond (.t 29) .skip (.exit 0))) (.block 1 (.seq (.ops [⟨(some 30), (.ld (some 2) (.t 6)), none⟩, ⟨(some 31), (.mov (.t 7)), none⟩, ⟨(some 32), (.call 34 [(.t 30), (.t 31)]), none⟩, ⟨(some 8), (.alloc [(.int .i64 0), (.slice none 0 0)]), none⟩, ⟨none, (.st 2 (.t 8) (.t 32)), none⟩]) (.seq (.ops [⟨(some 34), (.ld (some 2) (.t 8)), none⟩, ⟨(some 35), (.call 32 [(.t 34)]), none⟩, ⟨(some 33), (.mov (.t 35)), none⟩, ⟨(some 36), (.ext (.t 33) 0), none⟩, ⟨(some 37), (.ext (.t 33) 1), none⟩, ⟨(some 9), (.mov (.t 36)), none⟩, ⟨(some 10), (.mov (.t 37)), none⟩]) (.seq (.ops [⟨(some 38), (.mov (.t 9)), none⟩]) (.cond (.t 38) (.ops [⟨(some 39), (.ld (some 2) (.t 8)), none⟩, ⟨none, (.st 2 (.t 6) (.t 39)), none⟩]) (.ops [⟨(some 40), (.mov (.t 7)), none⟩, ⟨(some 41), (.bin .add (.t 40) (.c (.int .i64 1))), none⟩, ⟨(some 7), (.mov (.t 41)), none⟩])))))))))) (.seq (.ops [⟨(some 42), (.ld (some 2) (.t 6)), none⟩, ⟨none, (.st 2 (.t 2) (.t 42)), none⟩, ⟨(some 3), (.mov (.c (.bool true))), none⟩]) .ret))))))
theorem cc15 : ccode Try.prog (min Try.f15.ntmps pbase) (Try.f15.body.getD .skip) = some ac15 := by kernel_rfl
def ac21 : ACode := (.seq (.ops [⟨(some 4), (.mov (.c (.int .i64 0))), none⟩]) (.seq (.ops [⟨(some 5), (.mov (.t 1)), none⟩, ⟨(some 6), (.mov (.t 0)), none⟩, ⟨(some 7), (.len (.t 6)), none⟩, ⟨(some 8), (.bin .sub (.t 5) (.t 7)), none⟩, ⟨(some 1), (.mov (.t 8)), none⟩]) (.seq (.seq (.ops [⟨(some 9), (.mov (.t 1)), none⟩, ⟨(some 10), (.bin .lss (.t 9) (.c (.int .i64 0))), none⟩]) (.cond (.t 10) (.seq (.ops [⟨(some 4), (.mov (.c (.int .i64 (-1)))), none⟩]) .ret) .skip)) (.seq (.ops [⟨(some 11), (.mov (.t 1)), none⟩, ⟨(some 4), (.mov (.t 11)), none⟩]) .ret))))
theorem cc21 : ccode Try.prog (min Try.f21.ntmps pbase) (Try.f21.body.getD .skip) = some ac21 := by kernel_rfl
def ac22 : ACode := (.seq (.ops [⟨(some 1), (.box 2 (.t 0)), none⟩, ⟨(some 2), (.mov (.c (.bool false))), none⟩]) (.seq (.seq (.ops [⟨(some 5), (.fa 0 (.t 1)), none⟩, ⟨(some 6), (.ld none (.t 5)), none⟩, ⟨(some 7), (.call 42 [(.t 6)]), none⟩, ⟨(some 8), (.not (.t 7)), none⟩, ⟨(some 9), (.mov (.t 8)), none⟩, ⟨(some 10), (.fa 1 (.t 1)), (some (9, false))⟩, ⟨(some 11), (.ld none (.t 10)), (some (9, false))⟩, ⟨(some 12), (.len (.t 11)), (some (9, false))⟩, ⟨(some 13), (.bin .gtr (.t 12) (.c (.int .i64 6))), (some (9, false))⟩, ⟨(some 14), (.pick (.t 9) (.c (.bool true)) (.t 13)), none⟩]) (.cond (.t 14) (.seq (.ops [⟨(some 2), (.mov (.c (.bool false))), none⟩]) .ret) .skip)) (.seq (.seq (.ops [⟨(some 15), (.fa 1 (.t 1)), none⟩, ⟨(some 16), (.ld none (.t 15)), none⟩, ⟨(some 17), (.len (.t 16)), none⟩, ⟨(some 18), (.mov (.c (.int .i64 0))), none⟩]) (.block 0 (.loop (.seq (.ops [⟨(some 19), (.bin .lss (.t 18) (.t 17)), none⟩]) (.seq (.cond (.t 19) .skip (.exit 0)) (.seq (.block 1 (.seq (.ops [⟨(some 20), (.idx 3 (.t 16) (.t 18)), none⟩, ⟨(some 21), (.ld (some 3) (.t 20)), none⟩, ⟨(some 4), (.alloc [(.int .i64 0), (.int .i64 0), (.int .i64 0)]), none⟩, ⟨none, (.st 3 (.t 4) (.t 21)), none⟩]) (.seq (.ops [⟨(some 22), (.fa 0 (.t 1)), none⟩, ⟨(some 23), (.ld none (.t 22)), none⟩, ⟨(some 24), (.ld (some 3) (.t 4)), none⟩, ⟨(some 25), (.call 23 [(.t 23), (.t 24)]), none⟩, ⟨(some 26), (.not (.t 25)), none⟩]) (.cond (.t 26) (.seq (.ops [⟨(some 2), (.mov (.c (.bool false))), none⟩]) .ret) .skip)))) (.ops [⟨(some 27), (.bin .add (.t 18) (.c (.int .i64 1))), none⟩, ⟨(some 18), (.mov (.t 27)), none⟩]))))))) (.seq (.ops [⟨(some 2), (.mov (.c (.bool true))), none⟩]) .ret))))
theorem cc22 : ccode Try.prog (min Try.f22.ntmps pbase) (Try.f22.body.getD .skip) = some ac22 := by kernel_rfl
def ac23 : ACode := (.seq (.ops [⟨(some 3), (.box 3 (.t 1)), none⟩, ⟨(some 4), (.mov (.c (.bool false))), none⟩]) (.seq (.seq (.ops [⟨(some 5), (.fa 0 (.t 3)), none⟩, ⟨(some 6), (.ld none (.t 5)), none⟩]) (.block 0 (.seq (.seq (.ops [⟨(some 8), (.bin .eql (.t 6) (.c (.int .i64 0))), none⟩, ⟨(some 7), (.mov (.t 8)), none⟩]) (.cond (.t 7) .skip (.ops [⟨(some 9), (.bin .eql (.t 6) (.c (.int .i64 1))), none⟩, ⟨(some 7), (.mov (.t 9)), none⟩]))) (.cond (.t 7) (.seq (.ops [⟨(some 10), (.fa 1 (.t 3)), none⟩, ⟨(some 11), (.ld none (.t 10)), none⟩, ⟨(some 12), (.mov (.t 0)), none⟩, ⟨(some 13), (.bin .sub (.t 12) (.c (.int .i64 1))), none⟩, ⟨(some 14), (.call 36 [(.t 11), (.c (.int .i64 0)), (.t 13)]), none⟩, ⟨(some 15), (.mov (.t 14)), none⟩, ⟨(some 16), (.fa 2 (.t 3)), (some (15, true))⟩, ⟨(some 17), (.ld none (.t 16)), (some (15, true))⟩, ⟨(some 18), (.mov (.t 0)), (some (15, true))⟩, ⟨(some 19), (.bin .sub (.t 18) (.c (.int .i64 1))), (some (15, true))⟩, ⟨(some 20), (.call 36 [(.t 17), (.c (.int .i64 0)), (.t 19)]), (some (15, true))⟩, ⟨(some 21), (.pick (.t 15) (.t 20) (.c (.bool false))), none⟩, ⟨(some 4), (.mov (.t 21)), none⟩]) .ret) (.seq (.ops [⟨(some 23), (.bin .eql (.t 6) (.c (.int .i64 2))), none⟩, ⟨(some 22), (.mov (.t 23)), none⟩]) (.cond (.t 22) (.seq (.ops [⟨(some 24), (.fa 1 (.t 3)), none⟩, ⟨(some 25), (.ld none (.t 24)), none⟩, ⟨(some 26), (.mov (.t 0)), none⟩, ⟨(some 27), (.call 36 [(.t 25), (.c (.int .i64 0)), (.t 26)]), none⟩, ⟨(some 28), (.mov (.t 27)), none⟩, ⟨(some 29), (.fa 2 (.t 3)), (some (28, true))⟩, ⟨(some 30), (.ld none (.t 29)), (some (28, true))⟩, ⟨(some 31), (.bin .eql (.t 30) (.c (.int .i64 0))), (some (28, true))⟩, ⟨(some 32), (.pick (.t 28) (.t 31) (.c (.bool false))), none⟩, ⟨(some 4), (.mov (.t 32)), none⟩]) .ret) (.seq (.ops [⟨(some 34), (.bin .eql (.t 6) (.c (.int .i64 3))), none⟩, ⟨(some 33), (.mov (.t 34)), none⟩]) (.cond (.t 33) (.seq (.ops [⟨(some 35), (.fa 1 (.t 3)), none⟩, ⟨(some 36), (.ld none (.t 35)), none⟩, ⟨(some 37), (.mov (.t 0)), none⟩, ⟨(some 38), (.call 36 [(.t 36), (.c (.int .i64 1)), (.t 37)]), none⟩, ⟨(some 39), (.mov (.t 38)), none⟩, ⟨(some 40), (.fa 2 (.t 3)), (some (39, true))⟩, ⟨(some 41), (.ld none (.t 40)), (some (39, true))⟩, ⟨(some 42), (.bin .eql (.t 41) (.c (.int .i64 0))), (some (39, true))⟩, ⟨(some 43), (.pick (.t 39) (.t 42) (.c (.bool false))), none⟩, ⟨(some 4), (.mov (.t 43)), none⟩]) .ret) (.seq (.ops [⟨(some 45), (.bin .eql (.t 6) (.c (.int .i64 4))), none⟩, ⟨(some 44), (.mov (.t 45)), none⟩]) (.cond (.t 44) (.seq (.ops [⟨(some 46), (.fa 1 (.t 3)), none⟩, ⟨(some 47), (.ld none (.t 46)), none⟩, ⟨(some 48), (.mov (.t 0)), none⟩, ⟨(some 49), (.bin .sub (.t 48) (.c (.int .i64 1))), none⟩, ⟨(some 50), (.call 36 [(.t 47), (.c (.int .i64 0)), (.t 49)]), none⟩, ⟨(some 51), (.mov (.t 50)), none⟩, ⟨(some 52), (.fa 2 (.t 3)), (some (51, true))⟩, ⟨(some 53), (.ld none (.t 52)), (some (51, true))⟩, ⟨(some 54), (.call 36 [(.t 53), (.c (.int .i64 0)), (.c (.int .i64 1))]), (some (51, true))⟩, ⟨(some 55), (.pick (.t 51) (.t 54) (.c (.bool false))), none⟩, ⟨(some 4), (.mov (.t 55)), none⟩]) .ret) (.seq (.ops [⟨(some 57), (.bin .eql (.t 6) (.c (.int .i64 5))), none⟩, ⟨(some 56), (.mov (.t 57)), none⟩]) (.cond (.t 56) (.seq (.ops [⟨(some 58), (.fa 1 (.t 3)), none⟩, ⟨(some 59), (.ld none (.t 58)), none⟩, ⟨(some 60), (.call 36 [(.t 59), (.c (.int .i64 1)), (.c (.int .i64 6))]), none⟩, ⟨(some 61), (.mov (.t 60)), none⟩, ⟨(some 62), (.fa 2 (.t 3)), (some (61, true))⟩, ⟨(some 63), (.ld none (.t 62)), (some (61, true))⟩, ⟨(some 64), (.bin .eql (.t 63) (.c (.int .i64 0))), (some (61, true))⟩, ⟨(some 65), (.pick (.t 61) (.t 64) (.c (.bool false))), none⟩, ⟨(some 4), (.mov (.t 65)), none⟩]) .ret) .skip)))))))))))) (.seq (.ops [⟨(some 4), (.mov (.c (.bool false))), none⟩]) .ret)))
theorem cc23 : ccode Try.prog (min Try.f23.ntmps pbase) (Try.f23.body.getD .skip) = some ac23 := by kernel_rfl
def ac24 : ACode := (.seq (.ops [⟨(some 2), (.nils 3), none⟩]) (.seq (.ops [⟨(some 5), (.mov (.t 0)), none⟩, ⟨(some 6), (.len (.t 5)), none⟩, ⟨(some 7), (.mk 3 24 [(.int .i64 0), (.int .i64 0), (.int .i64 0)] (.t 6) (.t 6)), none⟩, ⟨(some 3), (.mov (.t 7)), none⟩]) (.seq (.seq (.ops [⟨(some 4), (.mov (.c (.int .i64 0))), none⟩]) (.block 0 (.loop (.seq (.seq (.ops [⟨(some 8), (.mov (.t 4)), none⟩, ⟨(some 9), (.mov (.t 0)), none⟩, ⟨(some 10), (.len (.t 9)), none⟩, ⟨(some 11), (.bin .lss (.t 8) (.t 10)), none⟩]) (.cond (.t 11) .skip (.exit 0))) (.seq (.block 1 (.ops [⟨(some 14), (.mov (.t 3)), none⟩, ⟨(some 15), (.mov (.t 4)), none⟩, ⟨(some 16), (.mov (.t 0)), none⟩, ⟨(some 17), (.mov (.t 4)), none⟩, ⟨(some 18), (.idx 3 (.t 16) (.t 17)), none⟩, ⟨(some 19), (.ld (some 3) (.t 18)), none⟩, ⟨(some 20), (.call 9 [(.t 19)]), none⟩, ⟨(some 21), (.idx 3 (.t 14) (.t 15)), none⟩, ⟨none, (.st 3 (.t 21) (.t 20)), none⟩])) (.ops [⟨(some 12), (.mov (.t 4)), none⟩, ⟨(some 13), (.bin .add (.t 12) (.c (.int .i64 1))), none⟩, ⟨(some 4), (.mov (.t 13)), none⟩])))))) (.seq (.ops [⟨(some 22), (.mov (.t 3)), none⟩, ⟨(some 2), (.mov (.t 22)), none⟩]) .ret))))
theorem cc24 : ccode Try.prog (min Try.f24.ntmps pbase) (Try.f24.body.getD .skip) = some ac24 := by kernel_rfl
def ac25 : ACode := (.seq (.ops [⟨(some 3), (.box 2 (.t 0)), none⟩, ⟨(some 6), (.alloc [(.int .i64 0), (.slice none 0 0)]), none⟩]) (.seq (.tree (.take ⟨(some 7), (.fa 0 (.t 3)), none⟩ (.take ⟨(some 8), (.ld none (.t 7)), none⟩ (.take ⟨(some 9), (.fa 1 (.t 3)), none⟩ (.take ⟨(some 10), (.ld none (.t 9)), none⟩ (.take ⟨(some 11), (.mov (.t 1)), none⟩ (.take ⟨(some 12), (.mov (.t 2)), none⟩ (.take ⟨(some 13), (.mov (.t 2)), none⟩ (.take ⟨(some 14), (.pu (.cut4 3) [(.t 10), (.t 11), (.t 12), (.t 13)]), none⟩ (.take ⟨(some 15), (.pu (.bld [(.int .i64 0), (.slice none 0 0)] [(0, 1), (1, 1)]) [(.t 8), (.t 14)]), none⟩ (.take ⟨none, (.st 2 (.t 6) (.t 15)), none⟩ .done))))))))))) .ret))
theorem cc25 : ccode Try.prog (min Try.f25.ntmps pbase) (Try.f25.body.getD .skip) = some ac25 := by kernel_rfl
def ac27 : ACode := (.seq (.ops [⟨(some 4), (.mov (.c (.bool false))), none⟩]) (.seq (.seq (.ops [⟨(some 6), (.mov (.t 0)), none⟩, ⟨(some 7), (.len (.t 6)), none⟩, ⟨(some 8), (.mov (.t 1)), none⟩, ⟨(some 9), (.len (.t 8)), none⟩, ⟨(some 10), (.bin .neq (.t 7) (.t 9)), none⟩]) (.cond (.t 10) (.seq (.ops [⟨(some 4), (.mov (.c (.bool false))), none⟩]) .ret) .skip)) (.seq (.seq (.ops [⟨(some 5), (.mov (.c (.int .i64 0))), none⟩]) (.block 0 (.loop (.seq (.seq (.ops [⟨(some 11), (.mov (.t 5)), none⟩, ⟨(some 12), (.mov (.t 0)), none⟩, ⟨(some 13), (.len (.t 12)), none⟩, ⟨(some 14), (.bin .lss (.t 11) (.t 13)), none⟩]) (.cond (.t 14) .skip (.exit 0))) (.seq (.block 1 (.seq (.tree (.take ⟨(some 17), (.mov (.t 0)), none⟩ (.take ⟨(some 18), (.mov (.t 5)), none⟩ (.take ⟨(some 19), (.idx 3 (.t 17) (.t 18)), none⟩ (.take ⟨(some 20), (.ld (some 3) (.t 19)), none⟩ (.take ⟨(some 21), (.mov (.t 1)), none⟩ (.take ⟨(some 22), (.mov (.t 5)), none⟩ (.take ⟨(some 23), (.idx 3 (.t 21) (.t 22)), none⟩ (.take ⟨(some 24), (.ld (some 3) (.t 23)), none⟩ (.take ⟨(some 25), (.call 44 [(.t 20), (.t 24)]), none⟩ (.take ⟨(some 26), (.not (.t 25)), none⟩ .done))))))))))) (.cond (.t 26) (.seq (.ops [⟨(some 4), (.mov (.c (.bool false))), none⟩]) .ret) .skip))) (.ops [⟨(some 15), (.mov (.t 5)), none⟩, ⟨(some 16), (.bin .add (.t 15) (.c (.int .i64 1))), none⟩, ⟨(some 5), (.mov (.t 16)), none⟩])))))) (.seq (.ops [⟨(some 4), (.mov (.c (.bool true))), none⟩]) .ret))))
theorem cc27 : ccode Try.prog (min Try.f27.ntmps pbase) (Try.f27.body.getD .skip) = some ac27 := by kernel_rfl
def ac28 : ACode := (.seq (.ops [⟨(some 4), (.mov (.c (.int .i64 0))), none⟩]) (.seq (.seq (.ops [⟨(some 5), (.mov (.c (.int .i64 0))), none⟩]) (.block 0 (.loop (.seq (.seq (.ops [⟨(some 6), (.mov (.t 5)), none⟩, ⟨(some 7), (.mov (.t 0)), none⟩, ⟨(some 8), (.len (.t 7)), none⟩, ⟨(some 9), (.bin .lss (.t 6) (.t 8)), none⟩]) (.cond (.t 9) .skip (.exit 0))) (.seq (.block 1 (.seq (.ops [⟨(some 12), (.mov (.t 0)), none⟩, ⟨(some 13), (.mov (.t 5)), none⟩, ⟨(some 14), (.mov (.t 1)), none⟩, ⟨(some 15), (.idx 3 (.t 12) (.t 13)), none⟩, ⟨(some 16), (.fa 0 (.t 15)), none⟩, ⟨none, (.st 1 (.t 16) (.t 14)), none⟩]) (.seq (.ops [⟨(some 17), (.mov (.t 1)), none⟩, ⟨(some 18), (.bin .add (.t 17) (.c (.int .i64 1))), none⟩, ⟨(some 1), (.mov (.t 18)), none⟩]) (.seq (.ops [⟨(some 19), (.mov (.t 0)), none⟩, ⟨(some 20), (.mov (.t 5)), none⟩, ⟨(some 21), (.mov (.t 1)), none⟩, ⟨(some 22), (.idx 3 (.t 19) (.t 20)), none⟩, ⟨(some 23), (.fa 1 (.t 22)), none⟩, ⟨none, (.st 1 (.t 23) (.t 21)), none⟩]) (.seq (.ops [⟨(some 24), (.mov (.t 1)), none⟩, ⟨(some 25), (.bin .add (.t 24) (.c (.int .i64 1))), none⟩, ⟨(some 1), (.mov (.t 25)), none⟩]) (.seq (.ops [⟨(some 26), (.mov (.t 0)), none⟩, ⟨(some 27), (.mov (.t 5)), none⟩, ⟨(some 28), (.mov (.t 1)), none⟩, ⟨(some 29), (.idx 3 (.t 26) (.t 27)), none⟩, ⟨(some 30), (.fa 2 (.t 29)), none⟩, ⟨none, (.st 1 (.t 30) (.t 28)), none⟩]) (.ops [⟨(some 31), (.mov (.t 1)), none⟩, ⟨(some 32), (.bin .add (.t 31) (.c (.int .i64 1))), none⟩, ⟨(some 1), (.mov (.t 32)), none⟩]))))))) (.ops [⟨(some 10), (.mov (.t 5)), none⟩, ⟨(some 11), (.bin .add (.t 10) (.c (.int .i64 1))), none⟩, ⟨(some 5), (.mov (.t 11)), none⟩])))))) (.seq (.ops [⟨(some 33), (.mov (.t 1)), none⟩, ⟨(some 4), (.mov (.t 33)), none⟩]) .ret)))
theorem cc28 : ccode Try.prog (min Try.f28.ntmps pbase) (Try.f28.body.getD .skip) = some ac28 := by kernel_rfl
def ac29 : ACode := (.seq (.ops [⟨(some 4), (.mov (.c (.int .i64 0))), none⟩]) (.seq (.seq (.ops [⟨(some 5), (.mov (.c (.int .i64 0))), none⟩]) (.block 0 (.loop (.seq (.seq (.ops [⟨(some 6), (.mov (.t 5)), none⟩, ⟨(some 7), (.mov (.t 0)), none⟩, ⟨(some 8), (.len (.t 7)), none⟩, ⟨(some 9), (.bin .lss (.t 6) (.t 8)), none⟩]) (.cond (.t 9) .skip (.exit 0))) (.seq (.block 1 (.seq (.seq (.ops [⟨(some 12), (.mov (.t 0)), none⟩, ⟨(some 13), (.mov (.t 5)), none⟩, ⟨(some 14), (.idx 3 (.t 12) (.t 13)), none⟩, ⟨(some 15), (.fa 0 (.t 14)), none⟩, ⟨(some 16), (.ld none (.t 15)), none⟩, ⟨(some 17), (.mov (.t 1)), none⟩, ⟨(some 18), (.bin .neq (.t 16) (.t 17)), none⟩]) (.cond (.t 18) (.seq (.ops [⟨(some 4), (.mov (.c (.int .i64 (-1)))), none⟩]) .ret) .skip)) (.seq (.ops [⟨(some 19), (.mov (.t 1)), none⟩, ⟨(some 20), (.bin .add (.t 19) (.c (.int .i64 1))), none⟩, ⟨(some 1), (.mov (.t 20)), none⟩]) (.seq (.seq (.ops [⟨(some 21), (.mov (.t 0)), none⟩, ⟨(some 22), (.mov (.t 5)), none⟩, ⟨(some 23), (.idx 3 (.t 21) (.t 22)), none⟩, ⟨(some 24), (.fa 1 (.t 23)), none⟩, ⟨(some 25), (.ld none (.t 24)), none⟩, ⟨(some 26), (.mov (.t 1)), none⟩, ⟨(some 27), (.bin .neq (.t 25) (.t 26)), none⟩]) (.cond (.t 27) (.seq (.ops [⟨(some 4), (.mov (.c (.int .i64 (-1)))), none⟩]) .ret) .skip)) (.seq (.ops [⟨(some 28), (.mov (.t 1)), none⟩, ⟨(some 29), (.bin .add (.t 28) (.c (.int .i64 1))), none⟩, ⟨(some 1), (.mov (.t 29)), none⟩]) (.seq (.seq (.ops [⟨(some 30), (.mov (.t 0)), none⟩, ⟨(some 31), (.mov (.t 5)), none⟩, ⟨(some 32), (.idx 3 (.t 30) (.t 31)), none⟩, ⟨(some 33), (.fa 2 (.t 32)), none⟩, ⟨(some 34), (.ld none (.t 33)), none⟩, ⟨(some 35), (.mov (.t 1)), none⟩, ⟨(some 36), (.bin .neq (.t 34) (.t 35)), none⟩]) (.cond (.t 36) (.seq (.ops [⟨(some 4), (.mov (.c (.int .i64 (-1)))), none⟩]) .ret) .skip)) (.ops [⟨(some 37), (.mov (.t 1)), none⟩, ⟨(some 38), (.bin .add (.t 37) (.c (.int .i64 1))), none⟩, ⟨(some 1), (.mov (.t 38)), none⟩]))))))) (.ops [⟨(some 10), (.mov (.t 5)), none⟩, ⟨(some 11), (.bin .add (.t 10) (.c (.int .i64 1))), none⟩, ⟨(some 5), (.mov (.t 11)), none⟩])))))) (.seq (.ops [⟨(some 39), (.mov (.t 1)), none⟩, ⟨(some 4), (.mov (.t 39)), none⟩]) .ret)))
theorem cc29 : ccode Try.prog (min Try.f29.ntmps pbase) (Try.f29.body.getD .skip) = some ac29 := by kernel_rfl
def ac30 : ACode := (.seq (.ops [⟨(some 4), (.mov (.c (.bool false))), none⟩]) (.seq (.ops [⟨(some 5), (.mov (.t 0)), none⟩, ⟨(some 6), (.mov (.t 1)), none⟩, ⟨(some 7), (.call 45 [(.t 5), (.t 6)]), none⟩, ⟨(some 8), (.len (.t 7)), none⟩, ⟨(some 9), (.bin .eql (.t 8) (.c (.int .i64 1))), none⟩, ⟨(some 4), (.mov (.t 9)), none⟩]) .ret))
theorem cc30 : ccode Try.prog (min Try.f30.ntmps pbase) (Try.f30.body.getD .skip) = some ac30 := by kernel_rfl
def ac31 : ACode := (.seq (.ops [⟨(some 4), (.nils 3), none⟩]) (.seq (.tree (.pre ⟨(some 6), (.mov (.t 0)), none⟩ [5] (.pre ⟨(some 7), (.mov (.t 1)), none⟩ [5] (.pre ⟨(some 8), (.cut 3 (.t 6) none (some (.t 7))), none⟩ [5] (.alt (.take ⟨(some 5), (.bsl 3 0 [(.int .i64 0), (.int .i64 0), (.int .i64 0)] []), none⟩ (.alt (.take ⟨(some 9), (.app 3 24 (.t 5) (.t 8)), none⟩ (.two ⟨(some 10), (.mov (.t 0)), none⟩ (.take ⟨(some 11), (.mov (.t 1)), none⟩ (.take ⟨(some 12), (.bin .add (.t 11) (.c (.int .i64 1))), none⟩ (.take ⟨(some 13), (.cut 3 (.t 10) (some (.t 12)) none), none⟩ (.take ⟨(some 14), (.app 3 24 (.t 9) (.t 13)), none⟩ (.take ⟨(some 4), (.mov (.t 14)), none⟩ .done))))) ⟨(some 11), (.mov (.t 1)), none⟩ (.two ⟨(some 10), (.mov (.t 0)), none⟩ (.take ⟨(some 12), (.bin .add (.t 11) (.c (.int .i64 1))), none⟩ (.take ⟨(some 13), (.cut 3 (.t 10) (some (.t 12)) none), none⟩ (.take ⟨(some 14), (.app 3 24 (.t 9) (.t 13)), none⟩ (.take ⟨(some 4), (.mov (.t 14)), none⟩ .done)))) ⟨(some 12), (.bin .add (.t 11) (.c (.int .i64 1))), none⟩ (.take ⟨(some 10), (.mov (.t 0)), none⟩ (.take ⟨(some 13), (.cut 3 (.t 10) (some (.t 12)) none), none⟩ (.take ⟨(some 14), (.app 3 24 (.t 9) (.t 13)), none⟩ (.take ⟨(some 4), (.mov (.t 14)), none⟩ .done))))))) (.alt (.take ⟨(some 10), (.mov (.t 0)), none⟩ (.two ⟨(some 9), (.app 3 24 (.t 5) (.t 8)), none⟩ (.take ⟨(some 11), (.mov (.t 1)), none⟩ (.take ⟨(some 12), (.bin .add (.t 11) (.c (.int .i64 1))), none⟩ (.take ⟨(some 13), (.cut 3 (.t 10) (some (.t 12)) none), none⟩ (.take ⟨(some 14), (.app 3 24 (.t 9) (.t 13)), none⟩ (.take ⟨(some 4), (.mov (.t 14)), none⟩ .done))))) ⟨(some 11), (.mov (.t 1)), none⟩ (.two ⟨(some 9), (.app 3 24 (.t 5) (.t 8)), none⟩ (.take ⟨(some 12), (.bin .add (.t 11) (.c (.int .i64 1))), none⟩ (.take ⟨(some 13), (.cut 3 (.t 10) (some (.t 12)) none), none⟩ (.take ⟨(some 14), (.app 3 24 (.t 9) (.t 13)), none⟩ (.take ⟨(some 4), (.mov (.t 14)), none⟩ .done)))) ⟨(some 12), (.bin .add (.t 11) (.c (.int .i64 1))), none⟩ (.two ⟨(some 9), (.app 3 24 (.t 5) (.t 8)), none⟩ (.take ⟨(some 13), (.cut 3 (.t 10) (some (.t 12)) none), none⟩ (.take ⟨(some 14), (.app 3 24 (.t 9) (.t 13)), none⟩ (.take ⟨(some 4), (.mov (.t 14)), none⟩ .done))) ⟨(some 13), (.cut 3 (.t 10) (some (.t 12)) none), none⟩ (.take ⟨(some 9), (.app 3 24 (.t 5) (.t 8)), none⟩ (.take ⟨(some 14), (.app 3 24 (.t 9) (.t 13)), none⟩ (.take ⟨(some 4), (.mov (.t 14)), none⟩ .done))))))) (.alt (.take ⟨(some 11), (.mov (.t 1)), none⟩ (.alt (.take ⟨(some 9), (.app 3 24 (.t 5) (.t 8)), none⟩ (.two ⟨(some 10), (.mov (.t 0)), none⟩ (.take ⟨(some 12), (.bin .add (.t 11) (.c (.int .i64 1))), none⟩ (.take ⟨(some 13), (.cut 3 (.t 10) (some (.t 12)) none), none⟩ (.take ⟨(some 14), (.app 3 24 (.t 9) (.t 13)), none⟩ (.take ⟨(some 4), (.mov (.t 14)), none⟩ .done)))) ⟨(some 12), (.bin .add (.t 11) (.c (.int .i64 1))), none⟩ (.take ⟨(some 10), (.mov (.t 0)), none⟩ (.take ⟨(some 13), (.cut 3 (.t 10) (some (.t 12)) none), none⟩ (.take ⟨(some 14), (.app 3 24 (.t 9) (.t 13)), none⟩ (.take ⟨(some 4), (.mov (.t 14)), none⟩ .done)))))) (.alt (.take ⟨(some 10), (.mov (.t 0)), none⟩ (.two ⟨(some 9), (.app 3 24 (.t 5) (.t 8)), none⟩ (.take ⟨(some 12), (.bin .add (.t 11) (.c (.int .i64 1))), none⟩ (.take ⟨(some 13), (.cut 3 (.t 10) (some (.t 12)) none), none⟩ (.take ⟨(some 14), (.app 3 24 (.t 9) (.t 13)), none⟩ (.take ⟨(some 4), (.mov (.t 14)), none⟩ .done)))) ⟨(some 12), (.bin .add (.t 11) (.c (.int .i64 1))), none⟩ (.two ⟨(some 9), (.app 3 24 (.t 5) (.t 8)), none⟩ (.take ⟨(some 13), (.cut 3 (.t 10) (some (.t 12)) none), none⟩ (.take ⟨(some 14), (.app 3 24 (.t 9) (.t 13)), none⟩ (.take ⟨(some 4), (.mov (.t 14)), none⟩ .done))) ⟨(some 13), (.cut 3 (.t 10) (some (.t 12)) none), none⟩ (.take ⟨(some 9), (.app 3 24 (.t 5) (.t 8)), none⟩ (.take ⟨(some 14), (.app 3 24 (.t 9) (.t 13)), none⟩ (.take ⟨(some 4), (.mov (.t 14)), none⟩ .done)))))) (.alt (.take ⟨(some 12), (.bin .add (.t 11) (.c (.int .i64 1))), none⟩ (.two ⟨(some 9), (.app 3 24 (.t 5) (.t 8)), none⟩ (.take ⟨(some 10), (.mov (.t 0)), none⟩ (.take ⟨(some 13), (.cut 3 (.t 10) (some (.t 12)) none), none⟩ (.take ⟨(some 14), (.app 3 24 (.t 9) (.t 13)), none⟩ (.take ⟨(some 4), (.mov (.t 14)), none⟩ .done)))) ⟨(some 10), (.mov (.t 0)), none⟩ (.two ⟨(some 9), (.app 3 24 (.t 5) (.t 8)), none⟩ (.take ⟨(some 13), (.cut 3 (.t 10) (some (.t 12)) none), none⟩ (.take ⟨(some 14), (.app 3 24 (.t 9) (.t 13)), none⟩ (.take ⟨(some 4), (.mov (.t 14)), none⟩ .done))) ⟨(some 13), (.cut 3 (.t 10) (some (.t 12)) none), none⟩ (.take ⟨(some 9), (.app 3 24 (.t 5) (.t 8)), none⟩ (.take ⟨(some 14), (.app 3 24 (.t 9) (.t 13)), none⟩ (.take ⟨(some 4), (.mov (.t 14)), none⟩ .done)))))) .top)))) .top)))) (.alt (.take ⟨(some 10), (.mov (.t 0)), none⟩ (.two ⟨(some 5), (.bsl 3 0 [(.int .i64 0), (.int .i64 0), (.int .i64 0)] []), none⟩ (.two ⟨(some 9), (.app 3 24 (.t 5) (.t 8)), none⟩ (.take ⟨(some 11), (.mov (.t 1)), none⟩ (.take ⟨(some 12), (.bin .add (.t 11) (.c (.int .i64 1))), none⟩ (.take ⟨(some 13), (.cut 3 (.t 10) (some (.t 12)) none), none⟩ (.take ⟨(some 14), (.app 3 24 (.t 9) (.t 13)), none⟩ (.take ⟨(some 4), (.mov (.t 14)), none⟩ .done))))) ⟨(some 11), (.mov (.t 1)), none⟩ (.two ⟨(some 9), (.app 3 24 (.t 5) (.t 8)), none⟩ (.take ⟨(some 12), (.bin .add (.t 11) (.c (.int .i64 1))), none⟩ (.take ⟨(some 13), (.cut 3 (.t 10) (some (.t 12)) none), none⟩ (.take ⟨(some 14), (.app 3 24 (.t 9) (.t 13)), none⟩ (.take ⟨(some 4), (.mov (.t 14)), none⟩ .done)))) ⟨(some 12), (.bin .add (.t 11) (.c (.int .i64 1))), none⟩ (.two ⟨(some 9), (.app 3 24 (.t 5) (.t 8)), none⟩ (.take ⟨(some 13), (.cut 3 (.t 10) (some (.t 12)) none), none⟩ (.take ⟨(some 14), (.app 3 24 (.t 9) (.t 13)), none⟩ (.take ⟨(some 4), (.mov (.t 14)), none⟩ .done))) ⟨(some 13), (.cut 3 (.t 10) (some (.t 12)) none), none⟩ (.take ⟨(some 9), (.app 3 24 (.t 5) (.t 8)), none⟩ (.take ⟨(some 14), (.app 3 24 (.t 9) (.t 13)), none⟩ (.take ⟨(some 4), (.mov (.t 14)), none⟩ .done)))))) ⟨(some 11), (.mov (.t 1)), none⟩ (.two ⟨(some 5), (.bsl 3 0 [(.int .i64 0), (.int .i64 0), (.int .i64 0)] []), none⟩ (.two ⟨(some 9), (.app 3 24 (.t 5) (.t 8)), none⟩ (.take ⟨(some 12), (.bin .add (.t 11) (.c (.int .i64 1))), none⟩ (.take ⟨(some 13), (.cut 3 (.t 10) (some (.t 12)) none), none⟩ (.take ⟨(some 14), (.app 3 24 (.t 9) (.t 13)), none⟩ (.take ⟨(some 4), (.mov (.t 14)), none⟩ .done)))) ⟨(some 12), (.bin .add (.t 11) (.c (.int .i64 1))), none⟩ (.two ⟨(some 9), (.app 3 24 (.t 5) (.t 8)), none⟩ (.take ⟨(some 13), (.cut 3 (.t 10) (some (.t 12)) none), none⟩ (.take ⟨(some 14), (.app 3 24 (.t 9) (.t 13)), none⟩ (.take ⟨(some 4), (.mov (.t 14)), none⟩ .done))) ⟨(some 13), (.cut 3 (.t 10) (some (.t 12)) none), none⟩ (.take ⟨(some 9), (.app 3 24 (.t 5) (.t 8)), none⟩ (.take ⟨(some 14), (.app 3 24 (.t 9) (.t 13)), none⟩ (.take ⟨(some 4), (.mov (.t 14)), none⟩ .done))))) ⟨(some 12), (.bin .add (.t 11) (.c (.int .i64 1))), none⟩ (.two ⟨(some 5), (.bsl 3 0 [(.int .i64 0), (.int .i64 0), (.int .i64 0)] []), none⟩ (.two ⟨(some 9), (.app 3 24 (.t 5) (.t 8)), none⟩ (.take ⟨(some 13), (.cut 3 (.t 10) (some (.t 12)) none), none⟩ (.take ⟨(some 14), (.app 3 24 (.t 9) (.t 13)), none⟩ (.take ⟨(some 4), (.mov (.t 14)), none⟩ .done))) ⟨(some 13), (.cut 3 (.t 10) (some (.t 12)) none), none⟩ (.take ⟨(some 9), (.app 3 24 (.t 5) (.t 8)), none⟩ (.take ⟨(some 14), (.app 3 24 (.t 9) (.t 13)), none⟩ (.take ⟨(some 4), (.mov (.t 14)), none⟩ .done)))) ⟨(some 13), (.cut 3 (.t 10) (some (.t 12)) none), none⟩ (.take ⟨(some 5), (.bsl 3 0 [(.int .i64 0), (.int .i64 0), (.int .i64 0)] []), none⟩ (.take ⟨(some 9), (.app 3 24 (.t 5) (.t 8)), none⟩ (.take ⟨(some 14), (.app 3 24 (.t 9) (.t 13)), none⟩ (.take ⟨(some 4), (.mov (.t 14)), none⟩ .done)))))))) (.alt (.take ⟨(some 11), (.mov (.t 1)), none⟩ (.alt (.take ⟨(some 5), (.bsl 3 0 [(.int .i64 0), (.int .i64 0), (.int .i64 0)] []), none⟩ (.alt (.take ⟨(some 9), (.app 3 24 (.t 5) (.t 8)), none⟩ (.two ⟨(some 10), (.mov (.t 0)), none⟩ (.take ⟨(some 12), (.bin .add (.t 11) (.c (.int .i64 1))), none⟩ (.take ⟨(some 13), (.cut 3 (.t 10) (some (.t 12)) none), none⟩ (.take ⟨(some 14), (.app 3 24 (.t 9) (.t 13)), none⟩ (.take ⟨(some 4), (.mov (.t 14)), none⟩ .done)))) ⟨(some 12), (.bin .add (.t 11) (.c (.int .i64 1))), none⟩ (.take ⟨(some 10), (.mov (.t 0)), none⟩ (.take ⟨(some 13), (.cut 3 (.t 10) (some (.t 12)) none), none⟩ (.take ⟨(some 14), (.app 3 24 (.t 9) (.t 13)), none⟩ (.take ⟨(some 4), (.mov (.t 14)), none⟩ .done)))))) (.alt (.take ⟨(some 10), (.mov (.t 0)), none⟩ (.two ⟨(some 9), (.app 3 24 (.t 5) (.t 8)), none⟩ (.take ⟨(some 12), (.bin .add (.t 11) (.c (.int .i64 1))), none⟩ (.take ⟨(some 13), (.cut 3 (.t 10) (some (.t 12)) none), none⟩ (.take ⟨(some 14), (.app 3 24 (.t 9) (.t 13)), none⟩ (.take ⟨(some 4), (.mov (.t 14)), none⟩ .done)))) ⟨(some 12), (.bin .add (.t 11) (.c (.int .i64 1))), none⟩ (.two ⟨(some 9), (.app 3 24 (.t 5) (.t 8)), none⟩ (.take ⟨(some 13), (.cut 3 (.t 10) (some (.t 12)) none), none⟩ (.take ⟨(some 14), (.app 3 24 (.t 9) (.t 13)), none⟩ (.take ⟨(some 4), (.mov (.t 14)), none⟩ .done))) ⟨(some 13), (.cut 3 (.t 10) (some (.t 12)) none), none⟩ (.take ⟨(some 9), (.app 3 24 (.t 5) (.t 8)), none⟩ (.take ⟨(some 14), (.app 3 24 (.t 9) (.t 13)), none⟩ (.take ⟨(some 4), (.mov (.t 14)), none⟩ .done)))))) (.alt (.take ⟨(some 12), (.bin .add (.t 11) (.c (.int .i64 1))), none⟩ (.two ⟨(some 9), (.app 3 24 (.t 5) (.t 8)), none⟩ (.take ⟨(some 10), (.mov (.t 0)), none⟩ (.take ⟨(some 13), (.cut 3 (.t 10) (some (.t 12)) none), none⟩ (.take ⟨(some 14), (.app 3 24 (.t 9) (.t 13)), none⟩ (.take ⟨(some 4), (.mov (.t 14)), none⟩ .done)))) ⟨(some 10), (.mov (.t 0)), none⟩ (.two ⟨(some 9), (.app 3 24 (.t 5) (.t 8)), none⟩ (.take ⟨(some 13), (.cut 3 (.t 10) (some (.t 12)) none), none⟩ (.take ⟨(some 14), (.app 3 24 (.t 9) (.t 13)), none⟩ (.take ⟨(some 4), (.mov (.t 14)), none⟩ .done))) ⟨(some 13), (.cut 3 (.t 10) (some (.t 12)) none), none⟩ (.take ⟨(some 9), (.app 3 24 (.t 5) (.t 8)), none⟩ (.take ⟨(some 14), (.app 3 24 (.t 9) (.t 13)), none⟩ (.take ⟨(some 4), (.mov (.t 14)), none⟩ .done)))))) .top)))) (.alt (.take ⟨(some 10), (.mov (.t 0)), none⟩ (.two ⟨(some 5), (.bsl 3 0 [(.int .i64 0), (.int .i64 0), (.int .i64 0)] []), none⟩ (.two ⟨(some 9), (.app 3 24 (.t 5) (.t 8)), none⟩ (.take ⟨(some 12), (.bin .add (.t 11) (.c (.int .i64 1))), none⟩ (.take ⟨(some 13), (.cut 3 (.t 10) (some (.t 12)) none), none⟩ (.take ⟨(some 14), (.app 3 24 (.t 9) (.t 13)), none⟩ (.take ⟨(some 4), (.mov (.t 14)), none⟩ .done)))) ⟨(some 12), (.bin .add (.t 11) (.c (.int .i64 1))), none⟩ (.two ⟨(some 9), (.app 3 24 (.t 5) (.t 8)), none⟩ (.take ⟨(some 13), (.cut 3 (.t 10) (some (.t 12)) none), none⟩ (.take ⟨(some 14), (.app 3 24 (.t 9) (.t 13)), none⟩ (.take ⟨(some 4), (.mov (.t 14)), none⟩ .done))) ⟨(some 13), (.cut 3 (.t 10) (some (.t 12)) none), none⟩ (.take ⟨(some 9), (.app 3 24 (.t 5) (.t 8)), none⟩ (.take ⟨(some 14), (.app 3 24 (.t 9) (.t 13)), none⟩ (.take ⟨(some 4), (.mov (.t 14)), none⟩ .done))))) ⟨(some 12), (.bin .add (.t 11) (.c (.int .i64 1))), none⟩ (.two ⟨(some 5), (.bsl 3 0 [(.int .i64 0), (.int .i64 0), (.int .i64 0)] []), none⟩ (.two ⟨(some 9), (.app 3 24 (.t 5) (.t 8)), none⟩ (.take ⟨(some 13), (.cut 3 (.t 10) (some (.t 12)) none), none⟩ (.take ⟨(some 14), (.app 3 24 (.t 9) (.t 13)), none⟩ (.take ⟨(some 4), (.mov (.t 14)), none⟩ .done))) ⟨(some 13), (.cut 3 (.t 10) (some (.t 12)) none), none⟩ (.take ⟨(some 9), (.app 3 24 (.t 5) (.t 8)), none⟩ (.take ⟨(some 14), (.app 3 24 (.t 9) (.t 13)), none⟩ (.take ⟨(some 4), (.mov (.t 14)), none⟩ .done)))) ⟨(some 13), (.cut 3 (.t 10) (some (.t 12)) none), none⟩ (.take ⟨(some 5), (.bsl 3 0 [(.int .i64 0), (.int .i64 0), (.int .i64 0)] []), none⟩ (.take ⟨(some 9), (.app 3 24 (.t 5) (.t 8)), none⟩ (.take ⟨(some 14), (.app 3 24 (.t 9) (.t 13)), none⟩ (.take ⟨(some 4), (.mov (.t 14)), none⟩ .done))))))) (.alt (.take ⟨(some 12), (.bin .add (.t 11) (.c (.int .i64 1))), none⟩ (.two ⟨(some 5), (.bsl 3 0 [(.int .i64 0), (.int .i64 0), (.int .i64 0)] []), none⟩ (.two ⟨(some 9), (.app 3 24 (.t 5) (.t 8)), none⟩ (.take ⟨(some 10), (.mov (.t 0)), none⟩ (.take ⟨(some 13), (.cut 3 (.t 10) (some (.t 12)) none), none⟩ (.take ⟨(some 14), (.app 3 24 (.t 9) (.t 13)), none⟩ (.take ⟨(some 4), (.mov (.t 14)), none⟩ .done)))) ⟨(some 10), (.mov (.t 0)), none⟩ (.two ⟨(some 9), (.app 3 24 (.t 5) (.t 8)), none⟩ (.take ⟨(some 13), (.cut 3 (.t 10) (some (.t 12)) none), none⟩ (.take ⟨(some 14), (.app 3 24 (.t 9) (.t 13)), none⟩ (.take ⟨(some 4), (.mov (.t 14)), none⟩ .done))) ⟨(some 13), (.cut 3 (.t 10) (some (.t 12)) none), none⟩ (.take ⟨(some 9), (.app 3 24 (.t 5) (.t 8)), none⟩ (.take ⟨(some 14), (.app 3 24 (.t 9) (.t 13)), none⟩ (.take ⟨(some 4), (.mov (.t 14)), none⟩ .done))))) ⟨(some 10), (.mov (.t 0)), none⟩ (.two ⟨(some 5), (.bsl 3 0 [(.int .i64 0), (.int .i64 0), (.int .i64 0)] []), none⟩ (.two ⟨(some 9), (.app 3 24 (.t 5) (.t 8)), none⟩ (.take ⟨(some 13), (.cut 3 (.t 10) (some (.t 12)) none), none⟩ (.take ⟨(some 14), (.app 3 24 (.t 9) (.t 13)), none⟩ (.take ⟨(some 4), (.mov (.t 14)), none⟩ .done))) ⟨(some 13), (.cut 3 (.t 10) (some (.t 12)) none), none⟩ (.take ⟨(some 9), (.app 3 24 (.t 5) (.t 8)), none⟩ (.take ⟨(some 14), (.app 3 24 (.t 9) (.t 13)), none⟩ (.take ⟨(some 4), (.mov (.t 14)), none⟩ .done)))) ⟨(some 13), (.cut 3 (.t 10) (some (.t 12)) none), none⟩ (.take ⟨(some 5), (.bsl 3 0 [(.int .i64 0), (.int .i64 0), (.int .i64 0)] []), none⟩ (.take ⟨(some 9), (.app 3 24 (.t 5) (.t 8)), none⟩ (.take ⟨(some 14), (.app 3 24 (.t 9) (.t 13)), none⟩ (.take ⟨(some 4), (.mov (.t 14)), none⟩ .done))))))) .top)))) .top))))))) .ret))
theorem cc31 : ccode Try.prog (min Try.f31.ntmps pbase) (Try.f31.body.getD .skip) = some ac31 := by kernel_rfl
def ac32 : ACode := (.seq (.ops [⟨(some 1), (.box 2 (.t 0)), none⟩, ⟨(some 2), (.mov (.c (.bool false))), none⟩, ⟨(some 3), (.mov (.c (.bool false))), none⟩]) (.seq (.ops [⟨(some 7), (.ld (some 2) (.t 1)), none⟩, ⟨(some 8), (.call 43 [(.t 7)]), none⟩, ⟨(some 6), (.mov (.t 8)), none⟩, ⟨(some 9), (.ext (.t 6) 0), none⟩, ⟨(some 10), (.ext (.t 6) 1), none⟩, ⟨(some 4), (.mov (.t 9)), none⟩, ⟨(some 5), (.mov (.t 10)), none⟩]) (.seq (.ops [⟨(some 11), (.mov (.t 4)), none⟩, ⟨(some 12), (.len (.t 11)), none⟩, ⟨(some 13), (.bin .eql (.t 12) (.c (.int .i64 1))), none⟩, ⟨(some 14), (.mov (.t 5)), none⟩, ⟨(some 2), (.mov (.t 13)), none⟩, ⟨(some 3), (.mov (.t 14)), none⟩]) .ret)))
theorem cc32 : ccode Try.prog (min Try.f32.ntmps pbase) (Try.f32.body.getD .skip) = some ac32 := by kernel_rfl
def ac33 : ACode := (.seq (.ops [⟨(some 2), (.nils 3), none⟩]) (.seq (.seq (.ops [⟨(some 3), (.mov (.t 0)), none⟩, ⟨(some 4), (.isnil false (.t 3)), none⟩]) (.cond (.t 4) (.seq (.ops [⟨(some 2), (.nils 3), none⟩]) .ret) .skip)) (.seq (.ops [⟨(some 5), (.bsl 3 0 [(.int .i64 0), (.int .i64 0), (.int .i64 0)] []), none⟩, ⟨(some 6), (.mov (.t 0)), none⟩, ⟨(some 7), (.app 3 24 (.t 5) (.t 6)), none⟩, ⟨(some 2), (.mov (.t 7)), none⟩]) .ret)))
theorem cc33 : ccode Try.prog (min Try.f33.ntmps pbase) (Try.f33.body.getD .skip) = some ac33 := by kernel_rfl
def ac36 : ACode := (.seq (.ops [⟨(some 6), (.mov (.c (.bool false))), none⟩]) (.seq (.ops [⟨(some 7), (.mov (.t 0)), none⟩, ⟨(some 8), (.mov (.t 1)), none⟩, ⟨(some 9), (.bin .geq (.t 7) (.t 8)), none⟩, ⟨(some 10), (.mov (.t 9)), none⟩, ⟨(some 11), (.mov (.t 0)), (some (10, true))⟩, ⟨(some 12), (.mov (.t 2)), (some (10, true))⟩, ⟨(some 13), (.bin .leq (.t 11) (.t 12)), (some (10, true))⟩, ⟨(some 14), (.pick (.t 10) (.t 13) (.c (.bool false))), none⟩, ⟨(some 6), (.mov (.t 14)), none⟩]) .ret))
theorem cc36 : ccode Try.prog (min Try.f36.ntmps pbase) (Try.f36.body.getD .skip) = some ac36 := by kernel_rfl
def ac42 : ACode := (.seq (.ops [⟨(some 2), (.mov (.c (.bool false))), none⟩]) (.seq (.ops [⟨(some 3), (.mov (.t 0)), none⟩, ⟨(some 4), (.call 36 [(.t 3), (.c (.int .i64 1)), (.c (.int .i64 5))]), none⟩, ⟨(some 2), (.mov (.t 4)), none⟩]) .ret))
theorem cc42 : ccode Try.prog (min Try.f42.ntmps pbase) (Try.f42.body.getD .skip) = some ac42 := by kernel_rfl
def ac43 : ACode := (.seq (.ops [⟨(some 1), (.box 2 (.t 0)), none⟩, ⟨(some 2), (.alloc [(.slice none 0 0)]), none⟩, ⟨(some 3), (.alloc [(.bool false)]), none⟩]) (.seq (.seq (.ops [⟨(some 6), (.fa 0 (.t 1)), none⟩, ⟨(some 7), (.ld none (.t 6)), none⟩, ⟨(some 8), (.bin .lss (.t 7) (.c (.int .i64 1))), none⟩, ⟨(some 9), (.mov (.t 8)), none⟩, ⟨(some 10), (.fa 0 (.t 1)), (some (9, false))⟩, ⟨(some 11), (.ld none (.t 10)), (some (9, false))⟩, ⟨(some 12), (.bin .gtr (.t 11) (.c (.int .i64 5))), (some (9, false))⟩, ⟨(some 13), (.pick (.t 9) (.c (.bool true)) (.t 12)), none⟩, ⟨(some 14), (.mov (.t 13)), none⟩, ⟨(some 15), (.fa 1 (.t 1)), (some (14, false))⟩, ⟨(some 16), (.ld none (.t 15)), (some (14, false))⟩, ⟨(some 17), (.len (.t 16)), (some (14, false))⟩, ⟨(some 18), (.bin .gtr (.t 17) (.c (.int .i64 6))), (some (14, false))⟩, ⟨(some 19), (.pick (.t 14) (.c (.bool true)) (.t 18)), none⟩]) (.cond (.t 19) (.seq (.ops [⟨none, (.st 1 (.t 2) (.c (.slice none 0 0))), none⟩, ⟨none, (.st 1 (.t 3) (.c (.bool false))), none⟩]) .ret) .skip)) (.seq (.ops [⟨(some 20), (.mkf 53 0 [(.t 2), (.t 3)]), none⟩, ⟨none, .dead, none⟩]) (.seq (.ops [⟨(some 4), (.mov (.c (.func (.func 54) #[] #[]))), none⟩]) (.seq (.ops [⟨(some 21), (.mkf 56 0 [(.t 1)]), none⟩, ⟨(some 5), (.mov (.t 21)), none⟩]) (.seq (.ops [⟨(some 22), (.fa 0 (.t 1)), none⟩, ⟨(some 23), (.ld none (.t 22)), none⟩, ⟨(some 24), (.mov (.t 4)), none⟩, ⟨(some 25), (.mov (.t 5)), none⟩, ⟨(some 26), (.call 58 [(.t 23), (.t 24), (.t 25)]), none⟩, ⟨none, (.st 1 (.t 2) (.t 26)), none⟩, ⟨none, (.st 1 (.t 3) (.c (.bool true))), none⟩]) .ret))))))
def ac44 : ACode := (.seq (.ops [⟨(some 2), (.box 3 (.t 0)), none⟩, ⟨(some 3), (.box 3 (.t 1)), none⟩, ⟨(some 4), (.mov (.c (.bool false))), none⟩]) (.seq (.seq (.ops [⟨(some 5), (.fa 0 (.t 2)), none⟩, ⟨(some 6), (.ld none (.t 5)), none⟩, ⟨(some 7), (.fa 0 (.t 3)), none⟩, ⟨(some 8), (.ld none (.t 7)), none⟩, ⟨(some 9), (.bin .neq (.t 6) (.t 8)), none⟩]) (.cond (.t 9) (.seq (.ops [⟨(some 4), (.mov (.c (.bool false))), none⟩]) .ret) .skip)) (.seq (.seq (.ops [⟨(some 10), (.fa 1 (.t 2)), none⟩, ⟨(some 11), (.ld none (.t 10)), none⟩, ⟨(some 12), (.fa 1 (.t 3)), none⟩, ⟨(some 13), (.ld none (.t 12)), none⟩, ⟨(some 14), (.bin .neq (.t 11) (.t 13)), none⟩]) (.cond (.t 14) (.seq (.ops [⟨(some 4), (.mov (.c (.bool false))), none⟩]) .ret) .skip)) (.seq (.seq (.ops [⟨(some 15), (.fa 2 (.t 2)), none⟩, ⟨(some 16), (.ld none (.t 15)), none⟩, ⟨(some 17), (.fa 2 (.t 3)), none⟩, ⟨(some 18), (.ld none (.t 17)), none⟩, ⟨(some 19), (.bin .neq (.t 16) (.t 18)), none⟩]) (.cond (.t 19) (.seq (.ops [⟨(some 4), (.mov (.c (.bool false))), none⟩]) .ret) .skip)) (.seq (.ops [⟨(some 4), (.mov (.c (.bool true))), none⟩]) .ret)))))
theorem cc44 : ccode Try.prog (min Try.f44.ntmps pbase) (Try.f44.body.getD .skip) = some ac44 := by kernel_rfl
def ac45 : ACode := (.seq (.ops [⟨(some 4), (.nils 1), none⟩]) (.seq (.ops [⟨(some 5), (.alloc [(.slice none 0 0)]), none⟩]) (.seq (.ops [⟨(some 6), (.mov (.t 0)), none⟩, ⟨(some 7), (.mov (.t 1)), none⟩, ⟨(some 8), (.call 59 [(.t 6), (.t 7), (.c (.slice none 0 0)), (.t 5)]), none⟩]) (.seq (.ops [⟨(some 9), (.ld none (.t 5)), none⟩, ⟨(some 4), (.mov (.t 9)), none⟩]) .ret))))
theorem cc45 : ccode Try.prog (min Try.f45.ntmps pbase) (Try.f45.body.getD .skip) = some ac45 := by kernel_rfl
def ac46 : ACode := (.seq (.ops [⟨(some 2), (.nils 3), none⟩]) (.seq (.ops [⟨(some 3), (.mov (.c (.int .i64 0))), none⟩]) (.seq (.seq (.ops [⟨(some 9), (.mov (.t 0)), none⟩, ⟨(some 10), (.len (.t 9)), none⟩, ⟨(some 11), (.mov (.c (.int .i64 0))), none⟩]) (.block 0 (.loop (.seq (.ops [⟨(some 12), (.bin .lss (.t 11) (.t 10)), none⟩]) (.seq (.cond (.t 12) .skip (.exit 0)) (.seq (.block 1 (.seq (.ops [⟨(some 13), (.idx 1 (.t 9) (.t 11)), none⟩, ⟨(some 14), (.ld none (.t 13)), none⟩, ⟨(some 5), (.mov (.t 14)), none⟩]) (.seq (.ops [⟨(some 15), (.mov (.t 3)), none⟩, ⟨(some 16), (.mov (.t 5)), none⟩, ⟨(some 17), (.len (.t 16)), none⟩, ⟨(some 18), (.bin .add (.t 15) (.t 17)), none⟩, ⟨(some 3), (.mov (.t 18)), none⟩]) (.seq (.ops [⟨(some 19), (.mov (.t 3)), none⟩, ⟨(some 20), (.bin .lss (.t 19) (.c (.int .i64 0))), none⟩]) (.cond (.t 20) (.ops [⟨(some 21), .dead, none⟩, ⟨none, .dead, none⟩]) .skip))))) (.ops [⟨(some 22), (.bin .add (.t 11) (.c (.int .i64 1))), none⟩, ⟨(some 11), (.mov (.t 22)), none⟩]))))))) (.seq (.ops [⟨(some 23), (.mov (.t 3)), none⟩, ⟨(some 24), (.call 60 [(.c (.slice none 0 0)), (.t 23)]), none⟩, ⟨(some 6), (.mov (.t 24)), none⟩]) (.seq (.seq (.ops [⟨(some 25), (.mov (.t 0)), none⟩, ⟨(some 26), (.len (.t 25)), none⟩, ⟨(some 27), (.mov (.c (.int .i64 0))), none⟩]) (.block 2 (.loop (.seq (.ops [⟨(some 28), (.bin .lss (.t 27) (.t 26)), none⟩]) (.seq (.cond (.t 28) .skip (.exit 2)) (.seq (.block 3 (.seq (.ops [⟨(some 29), (.idx 1 (.t 25) (.t 27)), none⟩, ⟨(some 30), (.ld none (.t 29)), none⟩, ⟨(some 8), (.mov (.t 30)), none⟩]) (.ops [⟨(some 31), (.mov (.t 6)), none⟩, ⟨(some 32), (.mov (.t 8)), none⟩, ⟨(some 33), (.app 3 24 (.t 31) (.t 32)), none⟩, ⟨(some 6), (.mov (.t 33)), none⟩]))) (.ops [⟨(some 34), (.bin .add (.t 27) (.c (.int .i64 1))), none⟩, ⟨(some 27), (.mov (.t 34)), none⟩]))))))) (.seq (.ops [⟨(some 35), (.mov (.t 6)), none⟩, ⟨(some 2), (.mov (.t 35)), none⟩]) .ret))))))
theorem cc46 : ccode Try.prog (min Try.f46.ntmps pbase) (Try.f46.body.getD .skip) = some ac46 := by kernel_rfl
def ac47 : ACode := (.seq (.ops [⟨(some 2), (.mov (.c (.bool false))), none⟩]) (.seq (.seq (.ops [⟨(some 5), (.mov (.t 0)), none⟩, ⟨(some 6), (.len (.t 5)), none⟩, ⟨(some 7), (.call 36 [(.t 6), (.c (.int .i64 1)), (.c (.int .i64 12))]), none⟩, ⟨(some 8), (.not (.t 7)), none⟩, ⟨(some 9), (.mov (.t 8)), none⟩, ⟨(some 10), (.mov (.t 0)), (some (9, false))⟩, ⟨(some 11), (.mov (.t 0)), (some (9, false))⟩, ⟨(some 12), (.len (.t 11)), (some (9, false))⟩, ⟨(some 13), (.bin .sub (.t 12) (.c (.int .i64 1))), (some (9, false))⟩, ⟨(some 14), (.call 61 [(.t 10), (.c (.int .i64 0)), (.t 13)]), (some (9, false))⟩, ⟨(some 15), (.not (.t 14)), (some (9, false))⟩, ⟨(some 16), (.pick (.t 9) (.c (.bool true)) (.t 15)), none⟩]) (.cond (.t 16) (.seq (.ops [⟨(some 2), (.mov (.c (.bool false))), none⟩]) .ret) .skip)) (.seq (.seq (.ops [⟨(some 17), (.mov (.t 0)), none⟩, ⟨(some 18), (.len (.t 17)), none⟩, ⟨(some 19), (.mov (.c (.int .i64 0))), none⟩]) (.block 0 (.loop (.seq (.ops [⟨(some 20), (.bin .lss (.t 19) (.t 18)), none⟩]) (.seq (.cond (.t 20) .skip (.exit 0)) (.seq (.block 1 (.seq (.ops [⟨(some 21), (.mov (.t 19)), none⟩, ⟨(some 22), (.idx 1 (.t 17) (.t 19)), none⟩, ⟨(some 23), (.ld none (.t 22)), none⟩, ⟨(some 3), (.mov (.t 21)), none⟩, ⟨(some 4), (.mov (.t 23)), none⟩]) (.seq (.ops [⟨(some 24), (.mov (.t 0)), none⟩, ⟨(some 25), (.mov (.t 3)), none⟩, ⟨(some 26), (.cut 1 (.t 24) none (some (.t 25))), none⟩, ⟨(some 27), (.mov (.t 4)), none⟩, ⟨(some 28), (.call 62 [(.t 26), (.t 27)]), none⟩]) (.cond (.t 28) (.seq (.ops [⟨(some 2), (.mov (.c (.bool false))), none⟩]) .ret) .skip)))) (.ops [⟨(some 29), (.bin .add (.t 19) (.c (.int .i64 1))), none⟩, ⟨(some 19), (.mov (.t 29)), none⟩]))))))) (.seq (.ops [⟨(some 2), (.mov (.c (.bool true))), none⟩]) .ret))))
theorem cc47 : ccode Try.prog (min Try.f47.ntmps pbase) (Try.f47.body.getD .skip) = some ac47 := by kernel_rfl
def ac48 : ACode := (.seq (.ops [⟨(some 2), (.nils 1), none⟩]) (.seq (.ops [⟨(some 3), (.nils 1), none⟩]) (.seq (.seq (.ops [⟨(some 6), (.mov (.t 0)), none⟩, ⟨(some 7), (.len (.t 6)), none⟩, ⟨(some 8), (.mov (.c (.int .i64 0))), none⟩]) (.block 0 (.loop (.seq (.ops [⟨(some 9), (.bin .lss (.t 8) (.t 7)), none⟩]) (.seq (.cond (.t 9) .skip (.exit 0)) (.seq (.block 1 (.seq (.ops [⟨(some 10), (.mov (.t 8)), none⟩, ⟨(some 11), (.idx 1 (.t 6) (.t 8)), none⟩, ⟨(some 12), (.ld none (.t 11)), none⟩, ⟨(some 4), (.mov (.t 10)), none⟩, ⟨(some 5), (.mov (.t 12)), none⟩]) (.seq (.ops [⟨(some 13), (.mov (.t 4)), none⟩, ⟨(some 14), (.mov (.t 5)), none⟩, ⟨(some 15), (.bin .eql (.t 13) (.t 14)), none⟩]) (.cond (.t 15) (.ops [⟨(some 16), (.mov (.t 3)), none⟩, ⟨(some 17), (.mov (.t 4)), none⟩, ⟨(some 18), (.bsl 1 1 [(.int .i64 0)] [(0, (.t 17))]), none⟩, ⟨(some 19), (.app 1 8 (.t 16) (.t 18)), none⟩, ⟨(some 3), (.mov (.t 19)), none⟩]) .skip)))) (.ops [⟨(some 20), (.bin .add (.t 8) (.c (.int .i64 1))), none⟩, ⟨(some 8), (.mov (.t 20)), none⟩]))))))) (.seq (.ops [⟨(some 21), (.mov (.t 3)), none⟩, ⟨(some 2), (.mov (.t 21)), none⟩]) .ret))))
theorem cc48 : ccode Try.prog (min Try.f48.ntmps pbase) (Try.f48.body.getD .skip) = some ac48 := by kernel_rfl
def ac49 : ACode := (.seq (.ops [⟨(some 2), (.nils 1), none⟩]) (.seq (.ops [⟨(some 8), (.mov (.t 0)), none⟩, ⟨(some 9), (.len (.t 8)), none⟩, ⟨(some 10), (.mk 1 1 [(.bool false)] (.t 9) (.t 9)), none⟩, ⟨(some 3), (.mov (.t 10)), none⟩]) (.seq (.ops [⟨(some 4), (.nils 1), none⟩]) (.seq (.seq (.ops [⟨(some 11), (.mov (.t 0)), none⟩, ⟨(some 12), (.len (.t 11)), none⟩, ⟨(some 13), (.mov (.c (.int .i64 0))), none⟩]) (.block 0 (.loop (.seq (.ops [⟨(some 14), (.bin .lss (.t 13) (.t 12)), none⟩]) (.seq (.cond (.t 14) .skip (.exit 0)) (.seq (.block 1 (.seq (.ops [⟨(some 15), (.mov (.t 13)), none⟩, ⟨(some 5), (.mov (.t 15)), none⟩]) (.seq (.seq (.ops [⟨(some 16), (.mov (.t 3)), none⟩, ⟨(some 17), (.mov (.t 5)), none⟩, ⟨(some 18), (.idx 1 (.t 16) (.t 17)), none⟩, ⟨(some 19), (.ld none (.t 18)), none⟩]) (.cond (.t 19) (.exit 1) .skip)) (.seq (.ops [⟨(some 6), (.nils 1), none⟩]) (.seq (.seq (.ops [⟨(some 20), (.mov (.t 5)), none⟩, ⟨(some 7), (.mov (.t 20)), none⟩]) (.block 2 (.loop (.seq (.seq (.ops [⟨(some 21), (.mov (.t 3)), none⟩, ⟨(some 22), (.mov (.t 7)), none⟩, ⟨(some 23), (.idx 1 (.t 21) (.t 22)), none⟩, ⟨(some 24), (.ld none (.t 23)), none⟩, ⟨(some 25), (.not (.t 24)), none⟩]) (.cond (.t 25) .skip (.exit 2))) (.seq (.block 3 (.seq (.ops [⟨(some 30), (.mov (.t 3)), none⟩, ⟨(some 31), (.mov (.t 7)), none⟩, ⟨(some 32), (.idx 1 (.t 30) (.t 31)), none⟩, ⟨none, (.st 1 (.t 32) (.c (.bool true))), none⟩]) (.ops [⟨(some 33), (.mov (.t 6)), none⟩, ⟨(some 34), (.mov (.t 7)), none⟩, ⟨(some 35), (.bsl 1 1 [(.int .i64 0)] [(0, (.t 34))]), none⟩, ⟨(some 36), (.app 1 8 (.t 33) (.t 35)), none⟩, ⟨(some 6), (.mov (.t 36)), none⟩]))) (.ops [⟨(some 26), (.mov (.t 0)), none⟩, ⟨(some 27), (.mov (.t 7)), none⟩, ⟨(some 28), (.idx 1 (.t 26) (.t 27)), none⟩, ⟨(some 29), (.ld none (.t 28)), none⟩, ⟨(some 7), (.mov (.t 29)), none⟩])))))) (.ops [⟨(some 37), (.mov (.t 4)), none⟩, ⟨(some 38), (.mov (.t 6)), none⟩, ⟨(some 39), (.bsl 1 1 [(.slice none 0 0)] [(0, (.t 38))]), none⟩, ⟨(some 40), (.app 1 24 (.t 37) (.t 39)), none⟩, ⟨(some 4), (.mov (.t 40)), none⟩])))))) (.ops [⟨(some 41), (.bin .add (.t 13) (.c (.int .i64 1))), none⟩, ⟨(some 13), (.mov (.t 41)), none⟩]))))))) (.seq (.ops [⟨(some 42), (.mov (.t 4)), none⟩, ⟨(some 2), (.mov (.t 42)), none⟩]) .ret)))))
theorem cc49 : ccode Try.prog (min Try.f49.ntmps pbase) (Try.f49.body.getD .skip) = some ac49 := by kernel_rfl
def ac50 : ACode := (.seq (.ops [⟨(some 2), (.mov (.c (.int .i64 0))), none⟩, ⟨(some 3), (.mov (.c (.bool false))), none⟩]) (.seq (.seq (.ops [⟨(some 9), (.mov (.t 0)), none⟩, ⟨(some 10), (.call 47 [(.t 9)]), none⟩, ⟨(some 11), (.not (.t 10)), none⟩]) (.cond (.t 11) (.seq (.ops [⟨(some 2), (.mov (.c (.int .i64 0))), none⟩, ⟨(some 3), (.mov (.c (.bool false))), none⟩]) .ret) .skip)) (.seq (.ops [⟨(some 4), (.mov (.c (.int .i64 1))), none⟩]) (.seq (.seq (.ops [⟨(some 12), (.mov (.t 0)), none⟩, ⟨(some 13), (.call 49 [(.t 12)]), none⟩, ⟨(some 14), (.len (.t 13)), none⟩, ⟨(some 15), (.mov (.c (.int .i64 0))), none⟩]) (.block 0 (.loop (.seq (.ops [⟨(some 16), (.bin .lss (.t 15) (.t 14)), none⟩]) (.seq (.cond (.t 16) .skip (.exit 0)) (.seq (.block 1 (.seq (.ops [⟨(some 17), (.idx 1 (.t 13) (.t 15)), none⟩, ⟨(some 18), (.ld none (.t 17)), none⟩, ⟨(some 6), (.mov (.t 18)), none⟩]) (.seq (.ops [⟨(some 19), (.mov (.t 4)), none⟩, ⟨(some 20), (.mov (.t 6)), none⟩, ⟨(some 21), (.len (.t 20)), none⟩, ⟨(some 7), (.mov (.t 19)), none⟩, ⟨(some 8), (.mov (.t 21)), none⟩]) (.seq (.block 2 (.loop (.seq (.seq (.ops [⟨(some 22), (.mov (.t 8)), none⟩, ⟨(some 23), (.bin .gtr (.t 22) (.c (.int .i64 0))), none⟩]) (.cond (.t 23) .skip (.exit 2))) (.block 3 (.tree (.take ⟨(some 24), (.mov (.t 8)), none⟩ (.take ⟨(some 25), (.mov (.t 7)), none⟩ (.take ⟨(some 26), (.mov (.t 8)), none⟩ (.take ⟨(some 27), (.bin .rem (.t 25) (.t 26)), none⟩ (.take ⟨(some 7), (.mov (.t 24)), none⟩ (.take ⟨(some 8), (.mov (.t 27)), none⟩ .done))))))))))) (.ops [⟨(some 28), (.mov (.t 4)), none⟩, ⟨(some 29), (.mov (.t 7)), none⟩, ⟨(some 30), (.bin .quo (.t 28) (.t 29)), none⟩, ⟨(some 31), (.mov (.t 6)), none⟩, ⟨(some 32), (.len (.t 31)), none⟩, ⟨(some 33), (.bin .mul (.t 30) (.t 32)), none⟩, ⟨(some 4), (.mov (.t 33)), none⟩]))))) (.ops [⟨(some 34), (.bin .add (.t 15) (.c (.int .i64 1))), none⟩, ⟨(some 15), (.mov (.t 34)), none⟩]))))))) (.seq (.ops [⟨(some 35), (.mov (.t 4)), none⟩, ⟨(some 2), (.mov (.t 35)), none⟩, ⟨(some 3), (.mov (.c (.bool true))), none⟩]) .ret)))))
theorem cc50 : ccode Try.prog (min Try.f50.ntmps pbase) (Try.f50.body.getD .skip) = some ac50 := by kernel_rfl
def ac52 : ACode := (.seq (.ops [⟨(some 6), (.mov (.c (.int .i64 0))), none⟩]) (.seq (.ops [⟨(some 7), (.mov (.t 1)), none⟩]) (.block 0 (.seq (.seq (.ops [⟨(some 12), (.bin .eql (.t 7) (.c (.int .i64 0))), none⟩, ⟨(some 11), (.mov (.t 12)), none⟩]) (.cond (.t 11) .skip (.ops [⟨(some 13), (.bin .eql (.t 7) (.c (.int .i64 1))), none⟩, ⟨(some 11), (.mov (.t 13)), none⟩]))) (.cond (.t 11) (.seq (.ops [⟨(some 14), (.mov (.t 0)), none⟩, ⟨(some 15), (.mov (.t 2)), none⟩, ⟨(some 16), (.idx 1 (.t 14) (.t 15)), none⟩, ⟨(some 17), (.ld none (.t 16)), none⟩, ⟨(some 6), (.mov (.t 17)), none⟩]) .ret) (.seq (.ops [⟨(some 19), (.bin .eql (.t 7) (.c (.int .i64 2))), none⟩, ⟨(some 18), (.mov (.t 19)), none⟩]) (.cond (.t 18) (.seq (.ops [⟨(some 20), (.mov (.t 0)), none⟩, ⟨(some 21), (.len (.t 20)), none⟩, ⟨(some 22), (.mov (.t 0)), none⟩, ⟨(some 23), (.call 65 [(.t 22)]), none⟩, ⟨(some 24), (.len (.t 23)), none⟩, ⟨(some 25), (.bin .sub (.t 21) (.t 24)), none⟩, ⟨(some 6), (.mov (.t 25)), none⟩]) .ret) (.seq (.ops [⟨(some 27), (.bin .eql (.t 7) (.c (.int .i64 3))), none⟩, ⟨(some 26), (.mov (.t 27)), none⟩]) (.cond (.t 26) (.seq (.ops [⟨(some 28), (.mov (.t 0)), none⟩, ⟨(some 29), (.call 66 [(.t 28)]), none⟩, ⟨(some 30), (.len (.t 29)), none⟩, ⟨(some 6), (.mov (.t 30)), none⟩]) .ret) (.seq (.ops [⟨(some 32), (.bin .eql (.t 7) (.c (.int .i64 4))), none⟩, ⟨(some 31), (.mov (.t 32)), none⟩]) (.cond (.t 31) (.seq (.seq (.ops [⟨(some 33), (.mov (.t 0)), none⟩, ⟨(some 34), (.mov (.t 2)), none⟩, ⟨(some 35), (.idx 1 (.t 33) (.t 34)), none⟩, ⟨(some 36), (.ld none (.t 35)), none⟩, ⟨(some 37), (.mov (.t 2)), none⟩, ⟨(some 38), (.bin .gtr (.t 36) (.t 37)), none⟩]) (.cond (.t 38) (.seq (.ops [⟨(some 6), (.mov (.c (.int .i64 1))), none⟩]) .ret) .skip)) (.seq (.ops [⟨(some 6), (.mov (.c (.int .i64 0))), none⟩]) .ret)) (.seq (.ops [⟨(some 8), (.mov (.t 0)), none⟩, ⟨(some 9), (.call 68 [(.t 8), (.c (.func (.func 69) #[] #[]))]), none⟩, ⟨(some 10), (.call 67 [(.t 9)]), none⟩, ⟨(some 6), (.mov (.t 10)), none⟩]) .ret))))))))))))
theorem cc52 : ccode Try.prog (min Try.f52.ntmps pbase) (Try.f52.body.getD .skip) = some ac52 := by kernel_rfl
def ac54 : ACode := (.seq (.ops [⟨(some 4), (.mov (.c (.bool false))), none⟩]) (.seq (.ops [⟨(some 5), (.mov (.t 0)), none⟩, ⟨(some 6), (.mov (.t 1)), none⟩, ⟨(some 7), (.call 55 [(.t 5), (.t 6)]), none⟩, ⟨(some 8), (.not (.t 7)), none⟩, ⟨(some 4), (.mov (.t 8)), none⟩]) .ret))
theorem cc54 : ccode Try.prog (min Try.f54.ntmps pbase) (Try.f54.body.getD .skip) = some ac54 := by kernel_rfl
def ac55 : ACode := (.seq (.ops [⟨(some 4), (.mov (.c (.bool false))), none⟩]) (.seq (.ops [⟨(some 5), (.mov (.t 0)), none⟩, ⟨(some 6), (.mov (.t 1)), none⟩, ⟨(some 7), (.call 70 [(.t 5), (.t 6)]), none⟩, ⟨(some 8), (.bin .geq (.t 7) (.c (.int .i64 0))), none⟩, ⟨(some 4), (.mov (.t 8)), none⟩]) .ret))
theorem cc55 : ccode Try.prog (min Try.f55.ntmps pbase) (Try.f55.body.getD .skip) = some ac55 := by kernel_rfl
def ac56 : ACode := (.seq (.ops [⟨(some 3), (.mov (.c (.bool false))), none⟩]) (.seq (.ops [⟨(some 4), (.fa 1 (.t 1)), none⟩, ⟨(some 5), (.ld none (.t 4)), none⟩, ⟨(some 6), (.mov (.t 0)), none⟩, ⟨(some 7), (.call 57 [(.t 5), (.t 6)]), none⟩, ⟨(some 3), (.mov (.t 7)), none⟩]) .ret))
theorem cc56 : ccode Try.prog (min Try.f56.ntmps pbase) (Try.f56.body.getD .skip) = some ac56 := by kernel_rfl
def ac57 : ACode := (.seq (.ops [⟨(some 4), (.mov (.c (.bool false))), none⟩]) (.seq (.ops [⟨(some 5), (.mov (.c (.bool true))), none⟩]) (.seq (.seq (.ops [⟨(some 8), (.mov (.t 0)), none⟩, ⟨(some 9), (.len (.t 8)), none⟩, ⟨(some 10), (.mov (.c (.int .i64 0))), none⟩]) (.block 0 (.loop (.seq (.ops [⟨(some 11), (.bin .lss (.t 10) (.t 9)), none⟩]) (.seq (.cond (.t 11) .skip (.exit 0)) (.seq (.block 1 (.seq (.ops [⟨(some 12), (.idx 3 (.t 8) (.t 10)), none⟩, ⟨(some 13), (.ld (some 3) (.t 12)), none⟩, ⟨(some 7), (.alloc [(.int .i64 0), (.int .i64 0), (.int .i64 0)]), none⟩, ⟨none, (.st 3 (.t 7) (.t 13)), none⟩]) (.ops [⟨(some 14), (.ld (some 3) (.t 7)), none⟩, ⟨(some 15), (.mov (.t 1)), none⟩, ⟨(some 16), (.call 71 [(.t 14), (.t 15)]), none⟩, ⟨(some 17), (.mov (.t 16)), none⟩, ⟨(some 18), (.mov (.t 5)), (some (17, true))⟩, ⟨(some 19), (.pick (.t 17) (.t 18) (.c (.bool false))), none⟩, ⟨(some 5), (.mov (.t 19)), none⟩]))) (.ops [⟨(some 20), (.bin .add (.t 10) (.c (.int .i64 1))), none⟩, ⟨(some 10), (.mov (.t 20)), none⟩]))))))) (.seq (.ops [⟨(some 21), (.mov (.t 5)), none⟩, ⟨(some 4), (.mov (.t 21)), none⟩]) .ret))))
theorem cc57 : ccode Try.prog (min Try.f57.ntmps pbase) (Try.f57.body.getD .skip) = some ac57 := by kernel_rfl
def ac58 : ACode := (.seq (.ops [⟨(some 6), (.nils 1), none⟩]) (.seq (.ops [⟨(some 7), (.nils 1), none⟩]) (.seq (.seq (.ops [⟨(some 11), (.mov (.t 0)), none⟩, ⟨(some 12), (.mov (.t 1)), none⟩, ⟨(some 13), (.call 72 [(.t 11), (.t 12)]), none⟩, ⟨(some 10), (.mov (.t 13)), none⟩, ⟨(some 14), (.ext (.t 10) 0), none⟩, ⟨(some 15), (.ext (.t 10) 1), none⟩, ⟨(some 8), (.mov (.t 14)), none⟩, ⟨(some 9), (.mov (.t 15)), none⟩]) (.block 0 (.loop (.seq (.seq (.ops [⟨(some 16), (.mov (.t 9)), none⟩]) (.cond (.t 16) .skip (.exit 0))) (.seq (.block 1 (.seq (.ops [⟨(some 23), (.mov (.t 2)), none⟩, ⟨(some 24), (.mov (.t 8)), none⟩, ⟨(some 25), (.callv (.t 23) [(.t 24)]), none⟩]) (.cond (.t 25) (.ops [⟨(some 26), (.mov (.t 7)), none⟩, ⟨(some 27), (.mov (.t 8)), none⟩, ⟨(some 28), (.bsl 1 1 [(.slice none 0 0)] [(0, (.t 27))]), none⟩, ⟨(some 29), (.app 1 24 (.t 26) (.t 28)), none⟩, ⟨(some 7), (.mov (.t 29)), none⟩]) .skip))) (.ops [⟨(some 18), (.mov (.t 8)), none⟩, ⟨(some 19), (.mov (.t 1)), none⟩, ⟨(some 20), (.call 73 [(.t 18), (.t 19)]), none⟩, ⟨(some 17), (.mov (.t 20)), none⟩, ⟨(some 21), (.ext (.t 17) 0), none⟩, ⟨(some 22), (.ext (.t 17) 1), none⟩, ⟨(some 8), (.mov (.t 21)), none⟩, ⟨(some 9), (.mov (.t 22)), none⟩])))))) (.seq (.ops [⟨(some 30), (.mov (.t 7)), none⟩, ⟨(some 6), (.mov (.t 30)), none⟩]) .ret))))
theorem cc58 : ccode Try.prog (min Try.f58.ntmps pbase) (Try.f58.body.getD .skip) = some ac58 := by kernel_rfl
def ac59 : ACode := (.seq (.seq (.ops [⟨(some 11), (.mov (.t 2)), none⟩, ⟨(some 12), (.len (.t 11)), none⟩, ⟨(some 13), (.mov (.t 0)), none⟩, ⟨(some 14), (.bin .lss (.t 12) (.t 13)), none⟩]) (.cond (.t 14) (.seq (.seq (.ops [⟨(some 8), (.mov (.c (.int .i64 0))), none⟩]) (.block 0 (.loop (.seq (.seq (.ops [⟨(some 15), (.mov (.t 8)), none⟩, ⟨(some 16), (.mov (.t 0)), none⟩, ⟨(some 17), (.bin .lss (.t 15) (.t 16)), none⟩]) (.cond (.t 17) .skip (.exit 0))) (.seq (.block 1 (.seq (.ops [⟨(some 20), (.mov (.t 2)), none⟩, ⟨(some 21), (.mov (.t 8)), none⟩, ⟨(some 22), (.call 62 [(.t 20), (.t 21)]), none⟩, ⟨(some 23), (.not (.t 22)), none⟩]) (.cond (.t 23) (.ops [⟨(some 24), (.mov (.t 0)), none⟩, ⟨(some 25), (.mov (.t 1)), none⟩, ⟨(some 26), (.mov (.t 2)), none⟩, ⟨(some 27), (.call 74 [(.t 26)]), none⟩, ⟨(some 28), (.mov (.t 8)), none⟩, ⟨(some 29), (.bsl 1 1 [(.int .i64 0)] [(0, (.t 28))]), none⟩, ⟨(some 30), (.app 1 8 (.t 27) (.t 29)), none⟩, ⟨(some 31), (.mov (.t 3)), none⟩, ⟨(some 32), (.call 59 [(.t 24), (.t 25), (.t 30), (.t 31)]), none⟩]) .skip))) (.ops [⟨(some 18), (.mov (.t 8)), none⟩, ⟨(some 19), (.bin .add (.t 18) (.c (.int .i64 1))), none⟩, ⟨(some 8), (.mov (.t 19)), none⟩])))))) .ret) .skip)) (.seq (.seq (.ops [⟨(some 33), (.mov (.t 1)), none⟩, ⟨(some 34), (.len (.t 33)), none⟩, ⟨(some 35), (.mov (.c (.int .i64 0))), none⟩]) (.block 2 (.loop (.seq (.ops [⟨(some 36), (.bin .lss (.t 35) (.t 34)), none⟩]) (.seq (.cond (.t 36) .skip (.exit 2)) (.seq (.block 3 (.seq (.ops [⟨(some 37), (.idx 3 (.t 33) (.t 35)), none⟩, ⟨(some 38), (.ld (some 3) (.t 37)), none⟩, ⟨(some 10), (.alloc [(.int .i64 0), (.int .i64 0), (.int .i64 0)]), none⟩, ⟨none, (.st 3 (.t 10) (.t 38)), none⟩]) (.seq (.ops [⟨(some 39), (.ld (some 3) (.t 10)), none⟩, ⟨(some 40), (.mov (.t 2)), none⟩, ⟨(some 41), (.call 75 [(.t 39), (.t 40)]), none⟩, ⟨(some 42), (.not (.t 41)), none⟩]) (.cond (.t 42) .ret .skip)))) (.ops [⟨(some 43), (.bin .add (.t 35) (.c (.int .i64 1))), none⟩, ⟨(some 35), (.mov (.t 43)), none⟩]))))))) (.ops [⟨(some 44), (.mov (.t 3)), none⟩, ⟨(some 45), (.mov (.t 3)), none⟩, ⟨(some 46), (.nchk (.t 45)), none⟩, ⟨(some 47), (.ld none (.t 46)), none⟩, ⟨(some 48), (.mov (.t 2)), none⟩, ⟨(some 49), (.bsl 1 1 [(.slice none 0 0)] [(0, (.t 48))]), none⟩, ⟨(some 50), (.app 1 24 (.t 47) (.t 49)), none⟩, ⟨(some 51), (.nchk (.t 44)), none⟩, ⟨none, (.st 1 (.t 51) (.t 50)), none⟩])))
theorem cc59 : ccode Try.prog (min Try.f59.ntmps pbase) (Try.f59.body.getD .skip) = some ac59 := by kernel_rfl
def ac60 : ACode := (.seq (.ops [⟨(some 4), (.nils 3), none⟩]) (.seq (.seq (.ops [⟨(some 5), (.mov (.t 1)), none⟩, ⟨(some 6), (.bin .lss (.t 5) (.c (.int .i64 0))), none⟩]) (.cond (.t 6) (.ops [⟨(some 7), .dead, none⟩, ⟨none, .dead, none⟩]) .skip)) (.seq (.seq (.ops [⟨(some 8), (.mov (.t 1)), none⟩, ⟨(some 9), (.mov (.t 0)), none⟩, ⟨(some 10), (.capn (.t 9)), none⟩, ⟨(some 11), (.mov (.t 0)), none⟩, ⟨(some 12), (.len (.t 11)), none⟩, ⟨(some 13), (.bin .sub (.t 10) (.t 12)), none⟩, ⟨(some 14), (.bin .sub (.t 8) (.t 13)), none⟩, ⟨(some 1), (.mov (.t 14)), none⟩]) (.seq (.ops [⟨(some 15), (.mov (.t 1)), none⟩, ⟨(some 16), (.bin .gtr (.t 15) (.c (.int .i64 0))), none⟩]) (.cond (.t 16) (.ops [⟨(some 17), (.mov (.t 0)), none⟩, ⟨(some 18), (.mov (.t 0)), none⟩, ⟨(some 19), (.capn (.t 18)), none⟩, ⟨(some 20), (.cut 3 (.t 17) none (some (.t 19))), none⟩, ⟨(some 21), (.mov (.t 1)), none⟩, ⟨(some 22), (.appz 3 24 [(.int .i64 0), (.int .i64 0), (.int .i64 0)] (.t 20) (.t 21)), none⟩, ⟨(some 23), (.mov (.t 0)), none⟩, ⟨(some 24), (.len (.t 23)), none⟩, ⟨(some 25), (.cut 3 (.t 22) none (some (.t 24))), none⟩, ⟨(some 0), (.mov (.t 25)), none⟩]) .skip))) (.seq (.ops [⟨(some 26), (.mov (.t 0)), none⟩, ⟨(some 4), (.mov (.t 26)), none⟩]) .ret))))
theorem cc60 : ccode Try.prog (min Try.f60.ntmps pbase) (Try.f60.body.getD .skip) = some ac60 := by kernel_rfl
def ac61 : ACode := (.seq (.ops [⟨(some 6), (.mov (.c (.bool false))), none⟩]) (.seq (.seq (.ops [⟨(some 9), (.mov (.t 0)), none⟩, ⟨(some 10), (.len (.t 9)), none⟩, ⟨(some 11), (.mov (.c (.int .i64 0))), none⟩]) (.block 0 (.loop (.seq (.ops [⟨(some 12), (.bin .lss (.t 11) (.t 10)), none⟩]) (.seq (.cond (.t 12) .skip (.exit 0)) (.seq (.block 1 (.seq (.ops [⟨(some 13), (.idx 1 (.t 9) (.t 11)), none⟩, ⟨(some 14), (.ld none (.t 13)), none⟩, ⟨(some 8), (.mov (.t 14)), none⟩]) (.seq (.ops [⟨(some 15), (.mov (.t 8)), none⟩, ⟨(some 16), (.mov (.t 1)), none⟩, ⟨(some 17), (.mov (.t 2)), none⟩, ⟨(some 18), (.call 36 [(.t 15), (.t 16), (.t 17)]), none⟩, ⟨(some 19), (.not (.t 18)), none⟩]) (.cond (.t 19) (.seq (.ops [⟨(some 6), (.mov (.c (.bool false))), none⟩]) .ret) .skip)))) (.ops [⟨(some 20), (.bin .add (.t 11) (.c (.int .i64 1))), none⟩, ⟨(some 11), (.mov (.t 20)), none⟩]))))))) (.seq (.ops [⟨(some 6), (.mov (.c (.bool true))), none⟩]) .ret)))
theorem cc61 : ccode Try.prog (min Try.f61.ntmps pbase) (Try.f61.body.getD .skip) = some ac61 := by kernel_rfl
def ac62 : ACode := (.seq (.ops [⟨(some 4), (.mov (.c (.bool false))), none⟩]) (.seq (.seq (.ops [⟨(some 7), (.mov (.t 0)), none⟩, ⟨(some 8), (.len (.t 7)), none⟩, ⟨(some 9), (.mov (.c (.int .i64 0))), none⟩]) (.block 0 (.loop (.seq (.ops [⟨(some 10), (.bin .lss (.t 9) (.t 8)), none⟩]) (.seq (.cond (.t 10) .skip (.exit 0)) (.seq (.block 1 (.seq (.ops [⟨(some 11), (.idx 1 (.t 7) (.t 9)), none⟩, ⟨(some 12), (.ld none (.t 11)), none⟩, ⟨(some 6), (.mov (.t 12)), none⟩]) (.seq (.ops [⟨(some 13), (.mov (.t 6)), none⟩, ⟨(some 14), (.mov (.t 1)), none⟩, ⟨(some 15), (.bin .eql (.t 13) (.t 14)), none⟩]) (.cond (.t 15) (.seq (.ops [⟨(some 4), (.mov (.c (.bool true))), none⟩]) .ret) .skip)))) (.ops [⟨(some 16), (.bin .add (.t 9) (.c (.int .i64 1))), none⟩, ⟨(some 9), (.mov (.t 16)), none⟩]))))))) (.seq (.ops [⟨(some 4), (.mov (.c (.bool false))), none⟩]) .ret)))
theorem cc62 : ccode Try.prog (min Try.f62.ntmps pbase) (Try.f62.body.getD .skip) = some ac62 := by kernel_rfl
def ac65 : ACode := (.seq (.ops [⟨(some 2), (.nils 1), none⟩]) (.seq (.ops [⟨(some 3), (.nils 1), none⟩]) (.seq (.seq (.ops [⟨(some 6), (.mov (.t 0)), none⟩, ⟨(some 7), (.len (.t 6)), none⟩, ⟨(some 8), (.mov (.c (.int .i64 0))), none⟩]) (.block 0 (.loop (.seq (.ops [⟨(some 9), (.bin .lss (.t 8) (.t 7)), none⟩]) (.seq (.cond (.t 9) .skip (.exit 0)) (.seq (.block 1 (.seq (.ops [⟨(some 10), (.mov (.t 8)), none⟩, ⟨(some 11), (.idx 1 (.t 6) (.t 8)), none⟩, ⟨(some 12), (.ld none (.t 11)), none⟩, ⟨(some 4), (.mov (.t 10)), none⟩, ⟨(some 5), (.mov (.t 12)), none⟩]) (.seq (.ops [⟨(some 13), (.mov (.t 5)), none⟩, ⟨(some 14), (.mov (.t 4)), none⟩, ⟨(some 15), (.bin .neq (.t 13) (.t 14)), none⟩]) (.cond (.t 15) (.ops [⟨(some 16), (.mov (.t 3)), none⟩, ⟨(some 17), (.mov (.t 4)), none⟩, ⟨(some 18), (.bsl 1 1 [(.int .i64 0)] [(0, (.t 17))]), none⟩, ⟨(some 19), (.app 1 8 (.t 16) (.t 18)), none⟩, ⟨(some 3), (.mov (.t 19)), none⟩]) .skip)))) (.ops [⟨(some 20), (.bin .add (.t 8) (.c (.int .i64 1))), none⟩, ⟨(some 8), (.mov (.t 20)), none⟩]))))))) (.seq (.ops [⟨(some 21), (.mov (.t 3)), none⟩, ⟨(some 2), (.mov (.t 21)), none⟩]) .ret))))
theorem cc65 : ccode Try.prog (min Try.f65.ntmps pbase) (Try.f65.body.getD .skip) = some ac65 := by kernel_rfl
def ac66 : ACode := (.seq (.ops [⟨(some 2), (.nils 3), none⟩]) (.seq (.ops [⟨(some 3), (.alloc [(.bool false), (.bool false), (.bool false), (.bool false), (.bool false), (.bool false), (.bool false), (.bool false), (.bool false), (.bool false), (.bool false), (.bool false)]), none⟩]) (.seq (.ops [⟨(some 4), (.nils 3), none⟩]) (.seq (.seq (.ops [⟨(some 9), (.mov (.t 0)), none⟩, ⟨(some 10), (.len (.t 9)), none⟩, ⟨(some 11), (.mov (.c (.int .i64 0))), none⟩]) (.block 0 (.loop (.seq (.ops [⟨(some 12), (.bin .lss (.t 11) (.t 10)), none⟩]) (.seq (.cond (.t 12) .skip (.exit 0)) (.seq (.block 1 (.seq (.ops [⟨(some 13), (.mov (.t 11)), none⟩, ⟨(some 5), (.mov (.t 13)), none⟩]) (.seq (.seq (.ops [⟨(some 14), (.mov (.t 5)), none⟩, ⟨(some 15), (.arr 1 12 (.t 3) (.t 14)), none⟩, ⟨(some 16), (.ld none (.t 15)), none⟩]) (.cond (.t 16) (.exit 1) .skip)) (.seq (.ops [⟨(some 17), (.mov (.t 0)), none⟩, ⟨(some 18), (.mov (.t 5)), none⟩, ⟨(some 19), (.call 79 [(.t 17), (.t 18)]), none⟩, ⟨(some 6), (.alloc [(.int .i64 0), (.int .i64 0), (.slice none 0 0)]), none⟩, ⟨none, (.st 3 (.t 6) (.t 19)), none⟩]) (.seq (.seq (.ops [⟨(some 20), (.ld (some 3) (.t 6)), none⟩, ⟨(some 21), (.call 80 [(.t 20)]), none⟩, ⟨(some 22), (.len (.t 21)), none⟩, ⟨(some 23), (.mov (.c (.int .i64 0))), none⟩]) (.block 2 (.loop (.seq (.ops [⟨(some 24), (.bin .lss (.t 23) (.t 22)), none⟩]) (.seq (.cond (.t 24) .skip (.exit 2)) (.seq (.block 3 (.seq (.ops [⟨(some 25), (.idx 1 (.t 21) (.t 23)), none⟩, ⟨(some 26), (.ld none (.t 25)), none⟩, ⟨(some 8), (.mov (.t 26)), none⟩]) (.ops [⟨(some 27), (.mov (.t 8)), none⟩, ⟨(some 28), (.arr 1 12 (.t 3) (.t 27)), none⟩, ⟨none, (.st 1 (.t 28) (.c (.bool true))), none⟩]))) (.ops [⟨(some 29), (.bin .add (.t 23) (.c (.int .i64 1))), none⟩, ⟨(some 23), (.mov (.t 29)), none⟩]))))))) (.ops [⟨(some 30), (.mov (.t 4)), none⟩, ⟨(some 31), (.ld (some 3) (.t 6)), none⟩, ⟨(some 32), (.bsl 3 1 [(.int .i64 0), (.int .i64 0), (.slice none 0 0)] [(0, (.t 31))]), none⟩, ⟨(some 33), (.app 3 40 (.t 30) (.t 32)), none⟩, ⟨(some 4), (.mov (.t 33)), none⟩])))))) (.ops [⟨(some 34), (.bin .add (.t 11) (.c (.int .i64 1))), none⟩, ⟨(some 11), (.mov (.t 34)), none⟩]))))))) (.seq (.ops [⟨(some 35), (.mov (.t 4)), none⟩, ⟨(some 2), (.mov (.t 35)), none⟩]) .ret)))))
theorem cc66 : ccode Try.prog (min Try.f66.ntmps pbase) (Try.f66.body.getD .skip) = some ac66 := by kernel_rfl
def ac67 : ACode := (.seq (.ops [⟨(some 2), (.mov (.c (.int .i64 0))), none⟩]) (.seq (.ops [⟨(some 3), (.mov (.c (.int .i64 1))), none⟩]) (.seq (.seq (.ops [⟨(some 6), (.mov (.t 0)), none⟩, ⟨(some 7), (.len (.t 6)), none⟩, ⟨(some 8), (.mov (.c (.int .i64 0))), none⟩]) (.block 0 (.loop (.seq (.ops [⟨(some 9), (.bin .lss (.t 8) (.t 7)), none⟩]) (.seq (.cond (.t 9) .skip (.exit 0)) (.seq (.block 1 (.seq (.ops [⟨(some 10), (.idx 1 (.t 6) (.t 8)), none⟩, ⟨(some 11), (.ld none (.t 10)), none⟩, ⟨(some 5), (.mov (.t 11)), none⟩]) (.ops [⟨(some 12), (.mov (.t 3)), none⟩, ⟨(some 13), (.mov (.t 3)), none⟩, ⟨(some 14), (.mov (.t 5)), none⟩, ⟨(some 15), (.call 81 [(.t 13), (.t 14)]), none⟩, ⟨(some 16), (.bin .quo (.t 12) (.t 15)), none⟩, ⟨(some 17), (.mov (.t 5)), none⟩, ⟨(some 18), (.bin .mul (.t 16) (.t 17)), none⟩, ⟨(some 3), (.mov (.t 18)), none⟩]))) (.ops [⟨(some 19), (.bin .add (.t 8) (.c (.int .i64 1))), none⟩, ⟨(some 8), (.mov (.t 19)), none⟩]))))))) (.seq (.ops [⟨(some 20), (.mov (.t 3)), none⟩, ⟨(some 2), (.mov (.t 20)), none⟩]) .ret))))
theorem cc67 : ccode Try.prog (min Try.f67.ntmps pbase) (Try.f67.body.getD .skip) = some ac67 := by kernel_rfl
def ac68 : ACode := (.seq (.ops [⟨(some 4), (.nils 1), none⟩]) (.seq (.ops [⟨(some 5), (.nils 1), none⟩]) (.seq (.seq (.ops [⟨(some 8), (.mov (.t 0)), none⟩, ⟨(some 9), (.call 66 [(.t 8)]), none⟩, ⟨(some 10), (.len (.t 9)), none⟩, ⟨(some 11), (.mov (.c (.int .i64 0))), none⟩]) (.block 0 (.loop (.seq (.ops [⟨(some 12), (.bin .lss (.t 11) (.t 10)), none⟩]) (.seq (.cond (.t 12) .skip (.exit 0)) (.seq (.block 1 (.seq (.ops [⟨(some 13), (.idx 3 (.t 9) (.t 11)), none⟩, ⟨(some 14), (.ld (some 3) (.t 13)), none⟩, ⟨(some 7), (.alloc [(.int .i64 0), (.int .i64 0), (.slice none 0 0)]), none⟩, ⟨none, (.st 3 (.t 7) (.t 14)), none⟩]) (.ops [⟨(some 15), (.mov (.t 5)), none⟩, ⟨(some 16), (.mov (.t 1)), none⟩, ⟨(some 17), (.ld (some 3) (.t 7)), none⟩, ⟨(some 18), (.callv (.t 16) [(.t 17)]), none⟩, ⟨(some 19), (.bsl 1 1 [(.int .i64 0)] [(0, (.t 18))]), none⟩, ⟨(some 20), (.app 1 8 (.t 15) (.t 19)), none⟩, ⟨(some 5), (.mov (.t 20)), none⟩]))) (.ops [⟨(some 21), (.bin .add (.t 11) (.c (.int .i64 1))), none⟩, ⟨(some 11), (.mov (.t 21)), none⟩]))))))) (.seq (.ops [⟨(some 22), (.mov (.t 5)), none⟩, ⟨(some 4), (.mov (.t 22)), none⟩]) .ret))))
theorem cc68 : ccode Try.prog (min Try.f68.ntmps pbase) (Try.f68.body.getD .skip) = some ac68 := by kernel_rfl
def ac69 : ACode := (.seq (.ops [⟨(some 1), (.box 3 (.t 0)), none⟩, ⟨(some 2), (.mov (.c (.int .i64 0))), none⟩]) (.seq (.ops [⟨(some 3), (.fa 2 (.t 1)), none⟩, ⟨(some 4), (.ld none (.t 3)), none⟩, ⟨(some 5), (.len (.t 4)), none⟩, ⟨(some 6), (.bin .add (.c (.int .i64 1)) (.t 5)), none⟩, ⟨(some 2), (.mov (.t 6)), none⟩]) .ret))
theorem cc69 : ccode Try.prog (min Try.f69.ntmps pbase) (Try.f69.body.getD .skip) = some ac69 := by kernel_rfl
def ac70 : ACode := (.seq (.ops [⟨(some 4), (.mov (.c (.int .i64 0))), none⟩]) (.seq (.seq (.ops [⟨(some 6), (.mov (.t 0)), none⟩, ⟨(some 7), (.len (.t 6)), none⟩, ⟨(some 8), (.mov (.c (.int .i64 0))), none⟩]) (.block 0 (.loop (.seq (.ops [⟨(some 9), (.bin .lss (.t 8) (.t 7)), none⟩]) (.seq (.cond (.t 9) .skip (.exit 0)) (.seq (.block 1 (.seq (.ops [⟨(some 10), (.mov (.t 8)), none⟩, ⟨(some 5), (.mov (.t 10)), none⟩]) (.seq (.ops [⟨(some 11), (.mov (.t 1)), none⟩, ⟨(some 12), (.mov (.t 0)), none⟩, ⟨(some 13), (.mov (.t 5)), none⟩, ⟨(some 14), (.idx 1 (.t 12) (.t 13)), none⟩, ⟨(some 15), (.ld none (.t 14)), none⟩, ⟨(some 16), (.bin .eql (.t 11) (.t 15)), none⟩]) (.cond (.t 16) (.seq (.ops [⟨(some 17), (.mov (.t 5)), none⟩, ⟨(some 4), (.mov (.t 17)), none⟩]) .ret) .skip)))) (.ops [⟨(some 18), (.bin .add (.t 8) (.c (.int .i64 1))), none⟩, ⟨(some 8), (.mov (.t 18)), none⟩]))))))) (.seq (.ops [⟨(some 4), (.mov (.c (.int .i64 (-1)))), none⟩]) .ret)))
theorem cc70 : ccode Try.prog (min Try.f70.ntmps pbase) (Try.f70.body.getD .skip) = some ac70 := by kernel_rfl
def ac71 : ACode := (.seq (.ops [⟨(some 2), (.box 3 (.t 0)), none⟩, ⟨(some 4), (.mov (.c (.bool false))), none⟩]) (.seq (.seq (.ops [⟨(some 6), (.ld (some 3) (.t 2)), none⟩, ⟨(some 7), (.mov (.t 1)), none⟩, ⟨(some 8), (.len (.t 7)), none⟩, ⟨(some 9), (.call 82 [(.t 6), (.t 8)]), none⟩, ⟨(some 10), (.not (.t 9)), none⟩]) (.cond (.t 10) (.ops [⟨(some 11), (.ld (some 3) (.t 2)), none⟩, ⟨(some 12), .dead, none⟩, ⟨none, .dead, none⟩]) .skip)) (.seq (.ops [⟨(some 13), (.mov (.t 1)), none⟩, ⟨(some 14), (.fa 0 (.t 2)), none⟩, ⟨(some 15), (.ld none (.t 14)), none⟩, ⟨(some 16), (.fa 1 (.t 2)), none⟩, ⟨(some 17), (.ld none (.t 16)), none⟩, ⟨(some 18), (.call 52 [(.t 13), (.t 15), (.t 17)]), none⟩, ⟨(some 5), (.mov (.t 18)), none⟩]) (.seq (.ops [⟨(some 19), (.fa 0 (.t 2)), none⟩, ⟨(some 20), (.ld none (.t 19)), none⟩]) (.block 0 (.seq (.seq (.ops [⟨(some 26), (.bin .eql (.t 20) (.c (.int .i64 0))), none⟩, ⟨(some 25), (.mov (.t 26)), none⟩]) (.cond (.t 25) .skip (.ops [⟨(some 27), (.bin .eql (.t 20) (.c (.int .i64 4))), none⟩, ⟨(some 25), (.mov (.t 27)), none⟩]))) (.cond (.t 25) (.seq (.ops [⟨(some 28), (.fa 2 (.t 2)), none⟩, ⟨(some 29), (.ld none (.t 28)), none⟩, ⟨(some 30), (.mov (.t 5)), none⟩, ⟨(some 31), (.bin .eql (.t 29) (.t 30)), none⟩, ⟨(some 4), (.mov (.t 31)), none⟩]) .ret) (.seq (.ops [⟨(some 33), (.bin .eql (.t 20) (.c (.int .i64 1))), none⟩, ⟨(some 32), (.mov (.t 33)), none⟩]) (.cond (.t 32) (.seq (.ops [⟨(some 34), (.fa 2 (.t 2)), none⟩, ⟨(some 35), (.ld none (.t 34)), none⟩, ⟨(some 36), (.mov (.t 5)), none⟩, ⟨(some 37), (.bin .neq (.t 35) (.t 36)), none⟩, ⟨(some 4), (.mov (.t 37)), none⟩]) .ret) (.seq (.ops [⟨(some 21), (.fa 1 (.t 2)), none⟩, ⟨(some 22), (.ld none (.t 21)), none⟩, ⟨(some 23), (.mov (.t 5)), none⟩, ⟨(some 24), (.bin .eql (.t 22) (.t 23)), none⟩, ⟨(some 4), (.mov (.t 24)), none⟩]) .ret))))))))))
theorem cc71 : ccode Try.prog (min Try.f71.ntmps pbase) (Try.f71.body.getD .skip) = some ac71 := by kernel_rfl
def ac72 : ACode := (.seq (.ops [⟨(some 4), (.nils 1), none⟩, ⟨(some 5), (.mov (.c (.bool false))), none⟩]) (.seq (.ops [⟨(some 6), (.mov (.t 0)), none⟩, ⟨(some 7), (.mov (.t 1)), none⟩, ⟨(some 8), (.call 83 [(.t 6), (.c (.slice none 0 0)), (.c (.int .i64 0)), (.t 7)]), none⟩, ⟨(some 9), (.ext (.t 8) 0), none⟩, ⟨(some 10), (.ext (.t 8) 1), none⟩, ⟨(some 4), (.mov (.t 9)), none⟩, ⟨(some 5), (.mov (.t 10)), none⟩]) .ret))
theorem cc72 : ccode Try.prog (min Try.f72.ntmps pbase) (Try.f72.body.getD .skip) = some ac72 := by kernel_rfl
def ac73 : ACode := (.seq (.ops [⟨(some 4), (.nils 1), none⟩, ⟨(some 5), (.mov (.c (.bool false))), none⟩]) (.seq (.ops [⟨(some 6), (.mov (.c (.int .i64 0))), none⟩]) (.seq (.block 0 (.loop (.seq (.seq (.tree (.take ⟨(some 7), (.mov (.t 6)), none⟩ (.take ⟨(some 8), (.mov (.t 0)), none⟩ (.take ⟨(some 9), (.len (.t 8)), none⟩ (.take ⟨(some 10), (.bin .sub (.t 9) (.c (.int .i64 1))), none⟩ (.take ⟨(some 11), (.bin .lss (.t 7) (.t 10)), none⟩ (.take ⟨(some 12), (.mov (.t 11)), none⟩ (.take ⟨(some 13), (.mov (.t 1)), (some (12, true))⟩ (.take ⟨(some 14), (.mov (.t 0)), (some (12, true))⟩ (.take ⟨(some 15), (.mov (.t 6)), (some (12, true))⟩ (.take ⟨(some 16), (.cut 1 (.t 14) none (some (.t 15))), (some (12, true))⟩ (.take ⟨(some 17), (.mov (.t 0)), (some (12, true))⟩ (.take ⟨(some 18), (.mov (.t 6)), (some (12, true))⟩ (.take ⟨(some 19), (.idx 1 (.t 17) (.t 18)), (some (12, true))⟩ (.take ⟨(some 20), (.ld none (.t 19)), (some (12, true))⟩ (.take ⟨(some 21), (.callv (.t 13) [(.t 16), (.t 20)]), (some (12, true))⟩ (.take ⟨(some 22), (.pick (.t 12) (.t 21) (.c (.bool false))), none⟩ .done))))))))))))))))) (.cond (.t 22) .skip (.exit 0))) (.block 1 (.ops [⟨(some 23), (.mov (.t 6)), none⟩, ⟨(some 24), (.bin .add (.t 23) (.c (.int .i64 1))), none⟩, ⟨(some 6), (.mov (.t 24)), none⟩]))))) (.seq (.tree (.take ⟨(some 25), (.mov (.t 0)), none⟩ (.take ⟨(some 26), (.len (.t 25)), none⟩ (.take ⟨(some 27), (.mov (.t 0)), none⟩ (.take ⟨(some 28), (.mov (.t 6)), none⟩ (.take ⟨(some 29), (.cut 1 (.t 27) none (some (.t 28))), none⟩ (.take ⟨(some 30), (.mov (.t 0)), none⟩ (.take ⟨(some 31), (.mov (.t 6)), none⟩ (.take ⟨(some 32), (.idx 1 (.t 30) (.t 31)), none⟩ (.take ⟨(some 33), (.ld none (.t 32)), none⟩ (.take ⟨(some 34), (.bin .add (.t 33) (.c (.int .i64 1))), none⟩ (.take ⟨(some 35), (.mov (.t 1)), none⟩ (.take ⟨(some 36), (.call 83 [(.t 26), (.t 29), (.t 34), (.t 35)]), none⟩ (.take ⟨(some 37), (.ext (.t 36) 0), none⟩ (.take ⟨(some 38), (.ext (.t 36) 1), none⟩ (.take ⟨(some 4), (.mov (.t 37)), none⟩ (.take ⟨(some 5), (.mov (.t 38)), none⟩ .done))))))))))))))))) .ret))))
theorem cc73 : ccode Try.prog (min Try.f73.ntmps pbase) (Try.f73.body.getD .skip) = some ac73 := by kernel_rfl
def ac74 : ACode := (.seq (.ops [⟨(some 2), (.nils 1), none⟩]) (.seq (.ops [⟨(some 3), (.bsl 1 0 [(.int .i64 0)] []), none⟩, ⟨(some 4), (.mov (.t 0)), none⟩, ⟨(some 5), (.app 1 8 (.t 3) (.t 4)), none⟩, ⟨(some 2), (.mov (.t 5)), none⟩]) .ret))
theorem cc74 : ccode Try.prog (min Try.f74.ntmps pbase) (Try.f74.body.getD .skip) = some ac74 := by kernel_rfl
def ac75 : ACode := (.seq (.ops [⟨(some 2), (.box 3 (.t 0)), none⟩, ⟨(some 4), (.mov (.c (.bool false))), none⟩]) (.seq (.seq (.ops [⟨(some 7), (.fa 0 (.t 2)), none⟩, ⟨(some 8), (.ld none (.t 7)), none⟩]) (.block 0 (.seq (.ops [⟨(some 10), (.bin .eql (.t 8) (.c (.int .i64 0))), none⟩, ⟨(some 9), (.mov (.t 10)), none⟩]) (.cond (.t 9) (.seq (.tree (.take ⟨(some 11), (.mov (.t 1)), none⟩ (.take ⟨(some 12), (.fa 1 (.t 2)), none⟩ (.take ⟨(some 13), (.ld none (.t 12)), none⟩ (.take ⟨(some 14), (.idx 1 (.t 11) (.t 13)), none⟩ (.take ⟨(some 15), (.ld none (.t 14)), none⟩ (.take ⟨(some 16), (.fa 2 (.t 2)), none⟩ (.take ⟨(some 17), (.ld none (.t 16)), none⟩ (.take ⟨(some 18), (.bin .eql (.t 15) (.t 17)), none⟩ (.take ⟨(some 4), (.mov (.t 18)), none⟩ .done)))))))))) .ret) (.seq (.ops [⟨(some 20), (.bin .eql (.t 8) (.c (.int .i64 1))), none⟩, ⟨(some 19), (.mov (.t 20)), none⟩]) (.cond (.t 19) (.seq (.tree (.take ⟨(some 21), (.mov (.t 1)), none⟩ (.take ⟨(some 22), (.fa 1 (.t 2)), none⟩ (.take ⟨(some 23), (.ld none (.t 22)), none⟩ (.take ⟨(some 24), (.idx 1 (.t 21) (.t 23)), none⟩ (.take ⟨(some 25), (.ld none (.t 24)), none⟩ (.take ⟨(some 26), (.fa 2 (.t 2)), none⟩ (.take ⟨(some 27), (.ld none (.t 26)), none⟩ (.take ⟨(some 28), (.bin .neq (.t 25) (.t 27)), none⟩ (.take ⟨(some 4), (.mov (.t 28)), none⟩ .done)))))))))) .ret) (.seq (.ops [⟨(some 30), (.bin .eql (.t 8) (.c (.int .i64 2))), none⟩, ⟨(some 29), (.mov (.t 30)), none⟩]) (.cond (.t 29) (.seq (.tree (.take ⟨(some 31), (.mov (.t 1)), none⟩ (.take ⟨(some 32), (.call 48 [(.t 31)]), none⟩ (.take ⟨(some 33), (.len (.t 32)), none⟩ (.take ⟨(some 34), (.fa 1 (.t 2)), none⟩ (.take ⟨(some 35), (.ld none (.t 34)), none⟩ (.take ⟨(some 36), (.bin .eql (.t 33) (.t 35)), none⟩ (.take ⟨(some 4), (.mov (.t 36)), none⟩ .done)))))))) .ret) (.seq (.ops [⟨(some 38), (.bin .eql (.t 8) (.c (.int .i64 3))), none⟩, ⟨(some 37), (.mov (.t 38)), none⟩]) (.cond (.t 37) (.seq (.tree (.take ⟨(some 39), (.mov (.t 1)), none⟩ (.take ⟨(some 40), (.call 49 [(.t 39)]), none⟩ (.take ⟨(some 41), (.len (.t 40)), none⟩ (.take ⟨(some 42), (.fa 1 (.t 2)), none⟩ (.take ⟨(some 43), (.ld none (.t 42)), none⟩ (.take ⟨(some 44), (.bin .eql (.t 41) (.t 43)), none⟩ (.take ⟨(some 4), (.mov (.t 44)), none⟩ .done)))))))) .ret) (.seq (.ops [⟨(some 46), (.bin .eql (.t 8) (.c (.int .i64 4))), none⟩, ⟨(some 45), (.mov (.t 46)), none⟩]) (.cond (.t 45) (.seq (.tree (.take ⟨(some 47), (.mov (.t 1)), none⟩ (.take ⟨(some 48), (.fa 1 (.t 2)), none⟩ (.take ⟨(some 49), (.ld none (.t 48)), none⟩ (.take ⟨(some 50), (.idx 1 (.t 47) (.t 49)), none⟩ (.take ⟨(some 51), (.ld none (.t 50)), none⟩ (.take ⟨(some 52), (.fa 1 (.t 2)), none⟩ (.take ⟨(some 53), (.ld none (.t 52)), none⟩ (.take ⟨(some 54), (.bin .gtr (.t 51) (.t 53)), none⟩ (.take ⟨(some 55), (.fa 2 (.t 2)), none⟩ (.take ⟨(some 56), (.ld none (.t 55)), none⟩ (.take ⟨(some 57), (.bin .eql (.t 56) (.c (.int .i64 1))), none⟩ (.take ⟨(some 58), (.beq false (.t 54) (.t 57)), none⟩ (.take ⟨(some 4), (.mov (.t 58)), none⟩ .done)))))))))))))) .ret) .skip)))))))))))) (.seq (.ops [⟨(some 60), (.mov (.t 1)), none⟩, ⟨(some 61), (.call 50 [(.t 60)]), none⟩, ⟨(some 59), (.mov (.t 61)), none⟩, ⟨(some 62), (.ext (.t 59) 0), none⟩, ⟨(some 63), (.ext (.t 59) 1), none⟩, ⟨(some 5), (.mov (.t 62)), none⟩, ⟨(some 6), (.mov (.t 63)), none⟩]) (.seq (.ops [⟨(some 64), (.mov (.t 5)), none⟩, ⟨(some 65), (.fa 1 (.t 2)), none⟩, ⟨(some 66), (.ld none (.t 65)), none⟩, ⟨(some 67), (.bin .eql (.t 64) (.t 66)), none⟩, ⟨(some 4), (.mov (.t 67)), none⟩]) .ret))))
theorem cc75 : ccode Try.prog (min Try.f75.ntmps pbase) (Try.f75.body.getD .skip) = some ac75 := by kernel_rfl
def ac76 : ACode := (.seq (.ops [⟨(some 4), (.mov (.c (.bool false))), none⟩]) (.seq (.ops [⟨(some 5), (.mov (.t 0)), none⟩, ⟨(some 6), (.bin .geq (.t 5) (.c (.int .i64 0))), none⟩, ⟨(some 7), (.mov (.t 6)), none⟩, ⟨(some 8), (.mov (.t 0)), (some (7, true))⟩, ⟨(some 9), (.mov (.t 1)), (some (7, true))⟩, ⟨(some 10), (.bin .lss (.t 8) (.t 9)), (some (7, true))⟩, ⟨(some 11), (.pick (.t 7) (.t 10) (.c (.bool false))), none⟩, ⟨(some 4), (.mov (.t 11)), none⟩]) .ret))
theorem cc76 : ccode Try.prog (min Try.f76.ntmps pbase) (Try.f76.body.getD .skip) = some ac76 := by kernel_rfl
def ac79 : ACode := (.seq (.ops [⟨(some 4), (.alloc [(.int .i64 0), (.int .i64 0), (.slice none 0 0)]), none⟩]) (.seq (.ops [⟨(some 7), (.mov (.t 0)), none⟩, ⟨(some 8), (.mov (.t 1)), none⟩, ⟨(some 9), (.call 84 [(.t 7), (.t 8)]), none⟩, ⟨(some 10), (.pu (.bld [(.int .i64 0), (.int .i64 0), (.slice none 0 0)] [(0, 2)]) [(.t 9)]), none⟩, ⟨(some 5), (.alloc [(.int .i64 0), (.int .i64 0), (.slice none 0 0)]), none⟩, ⟨none, (.st 3 (.t 5) (.t 10)), none⟩]) (.seq (.seq (.ops [⟨(some 11), (.mov (.t 0)), none⟩, ⟨(some 12), (.fa 0 (.t 5)), none⟩, ⟨(some 13), (.fa 1 (.t 12)), none⟩, ⟨(some 14), (.ld none (.t 13)), none⟩, ⟨(some 15), (.call 84 [(.t 11), (.t 14)]), none⟩, ⟨(some 6), (.alloc [(.int .i64 0), (.int .i64 0)]), none⟩, ⟨none, (.st 2 (.t 6) (.t 15)), none⟩]) (.block 0 (.loop (.seq (.seq (.ops [⟨(some 16), (.ld (some 2) (.t 6)), none⟩, ⟨(some 17), (.fa 0 (.t 5)), none⟩, ⟨(some 18), (.ld (some 2) (.t 17)), none⟩, ⟨(some 19), (.pu (.aeq true [0, 1]) [(.t 16), (.t 18)]), none⟩]) (.cond (.t 19) .skip (.exit 0))) (.seq (.block 1 (.ops [⟨(some 24), (.fa 2 (.t 5)), none⟩, ⟨(some 25), (.ld none (.t 24)), none⟩, ⟨(some 26), (.ld (some 2) (.t 6)), none⟩, ⟨(some 27), (.bsl 2 1 [(.int .i64 0), (.int .i64 0)] [(0, (.t 26))]), none⟩, ⟨(some 28), (.app 2 16 (.t 25) (.t 27)), none⟩, ⟨(some 29), (.fa 2 (.t 5)), none⟩, ⟨none, (.st 1 (.t 29) (.t 28)), none⟩])) (.seq (.seq (.ops [⟨(some 30), (.ld (some 2) (.t 6)), none⟩]) (.ops [⟨(some 6), (.alloc [(.int .i64 0), (.int .i64 0)]), none⟩, ⟨none, (.st 2 (.t 6) (.t 30)), none⟩])) (.ops [⟨(some 20), (.mov (.t 0)), none⟩, ⟨(some 21), (.fa 1 (.t 6)), none⟩, ⟨(some 22), (.ld none (.t 21)), none⟩, ⟨(some 23), (.call 84 [(.t 20), (.t 22)]), none⟩, ⟨none, (.st 2 (.t 6) (.t 23)), none⟩]))))))) (.seq (.ops [⟨(some 31), (.ld (some 3) (.t 5)), none⟩, ⟨none, (.st 3 (.t 4) (.t 31)), none⟩]) .ret))))
theorem cc79 : ccode Try.prog (min Try.f79.ntmps pbase) (Try.f79.body.getD .skip) = some ac79 := by kernel_rfl
def ac80 : ACode := (.seq (.ops [⟨(some 1), (.box 3 (.t 0)), none⟩, ⟨(some 2), (.nils 1), none⟩]) (.seq (.ops [⟨(some 6), (.fa 0 (.t 1)), none⟩, ⟨(some 7), (.fa 0 (.t 6)), none⟩, ⟨(some 8), (.ld none (.t 7)), none⟩, ⟨(some 9), (.bsl 1 1 [(.int .i64 0)] [(0, (.t 8))]), none⟩, ⟨(some 3), (.mov (.t 9)), none⟩]) (.seq (.seq (.ops [⟨(some 10), (.fa 2 (.t 1)), none⟩, ⟨(some 11), (.ld none (.t 10)), none⟩, ⟨(some 12), (.len (.t 11)), none⟩, ⟨(some 13), (.mov (.c (.int .i64 0))), none⟩]) (.block 0 (.loop (.seq (.ops [⟨(some 14), (.bin .lss (.t 13) (.t 12)), none⟩]) (.seq (.cond (.t 14) .skip (.exit 0)) (.seq (.block 1 (.seq (.ops [⟨(some 15), (.idx 2 (.t 11) (.t 13)), none⟩, ⟨(some 16), (.ld (some 2) (.t 15)), none⟩, ⟨(some 5), (.alloc [(.int .i64 0), (.int .i64 0)]), none⟩, ⟨none, (.st 2 (.t 5) (.t 16)), none⟩]) (.ops [⟨(some 17), (.mov (.t 3)), none⟩, ⟨(some 18), (.fa 0 (.t 5)), none⟩, ⟨(some 19), (.ld none (.t 18)), none⟩, ⟨(some 20), (.bsl 1 1 [(.int .i64 0)] [(0, (.t 19))]), none⟩, ⟨(some 21), (.app 1 8 (.t 17) (.t 20)), none⟩, ⟨(some 3), (.mov (.t 21)), none⟩]))) (.ops [⟨(some 22), (.bin .add (.t 13) (.c (.int .i64 1))), none⟩, ⟨(some 13), (.mov (.t 22)), none⟩]))))))) (.seq (.ops [⟨(some 23), (.mov (.t 3)), none⟩, ⟨(some 2), (.mov (.t 23)), none⟩]) .ret))))
theorem cc80 : ccode Try.prog (min Try.f80.ntmps pbase) (Try.f80.body.getD .skip) = some ac80 := by kernel_rfl
def ac81 : ACode := (.seq (.ops [⟨(some 4), (.mov (.c (.int .i64 0))), none⟩]) (.seq (.block 0 (.loop (.seq (.seq (.ops [⟨(some 5), (.mov (.t 1)), none⟩, ⟨(some 6), (.bin .neq (.t 5) (.c (.int .i64 0))), none⟩]) (.cond (.t 6) .skip (.exit 0))) (.block 1 (.tree (.take ⟨(some 7), (.mov (.t 1)), none⟩ (.take ⟨(some 8), (.mov (.t 0)), none⟩ (.take ⟨(some 9), (.mov (.t 1)), none⟩ (.take ⟨(some 10), (.bin .rem (.t 8) (.t 9)), none⟩ (.take ⟨(some 0), (.mov (.t 7)), none⟩ (.take ⟨(some 1), (.mov (.t 10)), none⟩ .done))))))))))) (.seq (.ops [⟨(some 11), (.mov (.t 0)), none⟩, ⟨(some 4), (.mov (.t 11)), none⟩]) .ret)))
theorem cc81 : ccode Try.prog (min Try.f81.ntmps pbase) (Try.f81.body.getD .skip) = some ac81 := by kernel_rfl
def ac82 : ACode := (.seq (.ops [⟨(some 2), (.box 3 (.t 0)), none⟩, ⟨(some 4), (.mov (.c (.bool false))), none⟩]) (.seq (.ops [⟨(some 5), (.fa 0 (.t 2)), none⟩, ⟨(some 6), (.ld none (.t 5)), none⟩]) (.block 0 (.seq (.seq (.ops [⟨(some 8), (.bin .eql (.t 6) (.c (.int .i64 0))), none⟩, ⟨(some 7), (.mov (.t 8)), none⟩]) (.cond (.t 7) .skip (.ops [⟨(some 9), (.bin .eql (.t 6) (.c (.int .i64 1))), none⟩, ⟨(some 7), (.mov (.t 9)), none⟩]))) (.cond (.t 7) (.seq (.ops [⟨(some 10), (.fa 1 (.t 2)), none⟩, ⟨(some 11), (.ld none (.t 10)), none⟩, ⟨(some 12), (.mov (.t 1)), none⟩, ⟨(some 13), (.call 76 [(.t 11), (.t 12)]), none⟩, ⟨(some 14), (.mov (.t 13)), none⟩, ⟨(some 15), (.fa 2 (.t 2)), (some (14, true))⟩, ⟨(some 16), (.ld none (.t 15)), (some (14, true))⟩, ⟨(some 17), (.mov (.t 1)), (some (14, true))⟩, ⟨(some 18), (.call 76 [(.t 16), (.t 17)]), (some (14, true))⟩, ⟨(some 19), (.pick (.t 14) (.t 18) (.c (.bool false))), none⟩, ⟨(some 4), (.mov (.t 19)), none⟩]) .ret) (.seq (.ops [⟨(some 21), (.bin .eql (.t 6) (.c (.int .i64 2))), none⟩, ⟨(some 20), (.mov (.t 21)), none⟩]) (.cond (.t 20) (.seq (.ops [⟨(some 22), (.fa 1 (.t 2)), none⟩, ⟨(some 23), (.ld none (.t 22)), none⟩, ⟨(some 24), (.bin .geq (.t 23) (.c (.int .i64 0))), none⟩, ⟨(some 25), (.mov (.t 24)), none⟩, ⟨(some 26), (.fa 1 (.t 2)), (some (25, true))⟩, ⟨(some 27), (.ld none (.t 26)), (some (25, true))⟩, ⟨(some 28), (.mov (.t 1)), (some (25, true))⟩, ⟨(some 29), (.bin .leq (.t 27) (.t 28)), (some (25, true))⟩, ⟨(some 30), (.pick (.t 25) (.t 29) (.c (.bool false))), none⟩, ⟨(some 31), (.mov (.t 30)), none⟩, ⟨(some 32), (.fa 2 (.t 2)), (some (31, true))⟩, ⟨(some 33), (.ld none (.t 32)), (some (31, true))⟩, ⟨(some 34), (.bin .eql (.t 33) (.c (.int .i64 0))), (some (31, true))⟩, ⟨(some 35), (.pick (.t 31) (.t 34) (.c (.bool false))), none⟩, ⟨(some 4), (.mov (.t 35)), none⟩]) .ret) (.seq (.ops [⟨(some 37), (.bin .eql (.t 6) (.c (.int .i64 3))), none⟩, ⟨(some 36), (.mov (.t 37)), none⟩]) (.cond (.t 36) (.seq (.ops [⟨(some 38), (.fa 1 (.t 2)), none⟩, ⟨(some 39), (.ld none (.t 38)), none⟩, ⟨(some 40), (.bin .geq (.t 39) (.c (.int .i64 1))), none⟩, ⟨(some 41), (.mov (.t 40)), none⟩, ⟨(some 42), (.fa 1 (.t 2)), (some (41, true))⟩, ⟨(some 43), (.ld none (.t 42)), (some (41, true))⟩, ⟨(some 44), (.mov (.t 1)), (some (41, true))⟩, ⟨(some 45), (.bin .leq (.t 43) (.t 44)), (some (41, true))⟩, ⟨(some 46), (.pick (.t 41) (.t 45) (.c (.bool false))), none⟩, ⟨(some 47), (.mov (.t 46)), none⟩, ⟨(some 48), (.fa 2 (.t 2)), (some (47, true))⟩, ⟨(some 49), (.ld none (.t 48)), (some (47, true))⟩, ⟨(some 50), (.bin .eql (.t 49) (.c (.int .i64 0))), (some (47, true))⟩, ⟨(some 51), (.pick (.t 47) (.t 50) (.c (.bool false))), none⟩, ⟨(some 4), (.mov (.t 51)), none⟩]) .ret) (.seq (.ops [⟨(some 53), (.bin .eql (.t 6) (.c (.int .i64 4))), none⟩, ⟨(some 52), (.mov (.t 53)), none⟩]) (.cond (.t 52) (.seq (.ops [⟨(some 54), (.fa 1 (.t 2)), none⟩, ⟨(some 55), (.ld none (.t 54)), none⟩, ⟨(some 56), (.mov (.t 1)), none⟩, ⟨(some 57), (.call 76 [(.t 55), (.t 56)]), none⟩, ⟨(some 58), (.mov (.t 57)), none⟩, ⟨(some 59), (.fa 2 (.t 2)), (some (58, true))⟩, ⟨(some 60), (.ld none (.t 59)), (some (58, true))⟩, ⟨(some 61), (.bin .eql (.t 60) (.c (.int .i64 0))), (some (58, true))⟩, ⟨(some 62), (.mov (.t 61)), (some (58, true))⟩, ⟨(some 63), (.fa 2 (.t 2)), (some (62, false))⟩, ⟨(some 64), (.ld none (.t 63)), (some (62, false))⟩, ⟨(some 65), (.bin .eql (.t 64) (.c (.int .i64 1))), (some (62, false))⟩, ⟨(some 66), (.pick (.t 62) (.c (.bool true)) (.t 65)), (some (58, true))⟩, ⟨(some 67), (.pick (.t 58) (.t 66) (.c (.bool false))), none⟩, ⟨(some 4), (.mov (.t 67)), none⟩]) .ret) (.seq (.ops [⟨(some 69), (.bin .eql (.t 6) (.c (.int .i64 5))), none⟩, ⟨(some 68), (.mov (.t 69)), none⟩]) (.cond (.t 68) (.seq (.ops [⟨(some 70), (.fa 1 (.t 2)), none⟩, ⟨(some 71), (.ld none (.t 70)), none⟩, ⟨(some 72), (.bin .geq (.t 71) (.c (.int .i64 1))), none⟩, ⟨(some 73), (.mov (.t 72)), none⟩, ⟨(some 74), (.fa 1 (.t 2)), (some (73, true))⟩, ⟨(some 75), (.ld none (.t 74)), (some (73, true))⟩, ⟨(some 76), (.bin .leq (.t 75) (.c (.int .i64 6))), (some (73, true))⟩, ⟨(some 77), (.pick (.t 73) (.t 76) (.c (.bool false))), none⟩, ⟨(some 78), (.mov (.t 77)), none⟩, ⟨(some 79), (.fa 2 (.t 2)), (some (78, true))⟩, ⟨(some 80), (.ld none (.t 79)), (some (78, true))⟩, ⟨(some 81), (.bin .eql (.t 80) (.c (.int .i64 0))), (some (78, true))⟩, ⟨(some 82), (.pick (.t 78) (.t 81) (.c (.bool false))), none⟩, ⟨(some 4), (.mov (.t 82)), none⟩]) .ret) (.seq (.ops [⟨(some 4), (.mov (.c (.bool false))), none⟩]) .ret))))))))))))))
theorem cc82 : ccode Try.prog (min Try.f82.ntmps pbase) (Try.f82.body.getD .skip) = some ac82 := by kernel_rfl
def ac83 : ACode := (.seq (.ops [⟨(some 8), (.nils 1), none⟩, ⟨(some 9), (.mov (.c (.bool false))), none⟩]) (.scope (.seq (.ops [⟨(some 13), (.mov (.t 1)), none⟩, ⟨(some 14), (.call 85 [(.t 13)]), none⟩, ⟨(some 10), (.mov (.t 14)), none⟩]) (.seq (.ops [⟨(some 15), (.mov (.t 2)), none⟩, ⟨(some 11), (.mov (.t 15)), none⟩]) (.seq (.label 0) (.seq (.block 0 (.loop (.block 1 (.block 2 (.seq (.ops [⟨(some 28), (.mov (.t 10)), none⟩, ⟨(some 29), (.len (.t 28)), none⟩, ⟨(some 30), (.mov (.t 0)), none⟩, ⟨(some 31), (.bin .eql (.t 29) (.t 30)), none⟩, ⟨(some 27), (.mov (.t 31)), none⟩]) (.cond (.t 27) (.exit 0) (.seq (.ops [⟨(some 33), (.mov (.t 11)), none⟩, ⟨(some 34), (.mov (.t 0)), none⟩, ⟨(some 35), (.bin .lss (.t 33) (.t 34)), none⟩, ⟨(some 36), (.mov (.t 35)), none⟩, ⟨(some 37), (.mov (.t 3)), (some (36, true))⟩, ⟨(some 38), (.mov (.t 10)), (some (36, true))⟩, ⟨(some 39), (.mov (.t 11)), (some (36, true))⟩, ⟨(some 40), (.callv (.t 37) [(.t 38), (.t 39)]), (some (36, true))⟩, ⟨(some 41), (.pick (.t 36) (.t 40) (.c (.bool false))), none⟩, ⟨(some 32), (.mov (.t 41)), none⟩]) (.cond (.t 32) (.seq (.ops [⟨(some 42), (.mov (.t 10)), none⟩, ⟨(some 43), (.mov (.t 11)), none⟩, ⟨(some 44), (.bsl 1 1 [(.int .i64 0)] [(0, (.t 43))]), none⟩, ⟨(some 45), (.app 1 8 (.t 42) (.t 44)), none⟩, ⟨(some 10), (.mov (.t 45)), none⟩]) (.ops [⟨(some 11), (.mov (.c (.int .i64 0))), none⟩])) (.seq (.ops [⟨(some 47), (.mov (.t 11)), none⟩, ⟨(some 48), (.mov (.t 0)), none⟩, ⟨(some 49), (.bin .lss (.t 47) (.t 48)), none⟩, ⟨(some 46), (.mov (.t 49)), none⟩]) (.cond (.t 46) (.ops [⟨(some 50), (.mov (.t 11)), none⟩, ⟨(some 51), (.bin .add (.t 50) (.c (.int .i64 1))), none⟩, ⟨(some 11), (.mov (.t 51)), none⟩]) (.seq (.ops [⟨(some 53), (.mov (.t 10)), none⟩, ⟨(some 54), (.len (.t 53)), none⟩, ⟨(some 55), (.bin .eql (.t 54) (.c (.int .i64 0))), none⟩, ⟨(some 52), (.mov (.t 55)), none⟩]) (.cond (.t 52) (.seq (.ops [⟨(some 8), (.nils 1), none⟩, ⟨(some 9), (.mov (.c (.bool false))), none⟩]) .ret) (.seq (.ops [⟨(some 16), (.mov (.t 10)), none⟩, ⟨(some 17), (.len (.t 16)), none⟩, ⟨(some 18), (.bin .sub (.t 17) (.c (.int .i64 1))), none⟩, ⟨(some 12), (.mov (.t 18)), none⟩]) (.seq (.ops [⟨(some 19), (.mov (.t 10)), none⟩, ⟨(some 20), (.mov (.t 12)), none⟩, ⟨(some 21), (.idx 1 (.t 19) (.t 20)), none⟩, ⟨(some 22), (.ld none (.t 21)), none⟩, ⟨(some 23), (.bin .add (.t 22) (.c (.int .i64 1))), none⟩, ⟨(some 11), (.mov (.t 23)), none⟩]) (.ops [⟨(some 24), (.mov (.t 10)), none⟩, ⟨(some 25), (.mov (.t 12)), none⟩, ⟨(some 26), (.cut 1 (.t 24) none (some (.t 25))), none⟩, ⟨(some 10), (.mov (.t 26)), none⟩]))))))))))))))) (.seq (.ops [⟨(some 56), (.mov (.t 10)), none⟩, ⟨(some 8), (.mov (.t 56)), none⟩, ⟨(some 9), (.mov (.c (.bool true))), none⟩]) .ret)))))))
theorem cc83 : ccode Try.prog (min Try.f83.ntmps pbase) (Try.f83.body.getD .skip) = some ac83 := by kernel_rfl
def ac84 : ACode := (.seq (.ops [⟨(some 4), (.alloc [(.int .i64 0), (.int .i64 0)]), none⟩]) (.seq (.ops [⟨(some 5), (.mov (.t 1)), none⟩, ⟨(some 6), (.mov (.t 0)), none⟩, ⟨(some 7), (.mov (.t 1)), none⟩, ⟨(some 8), (.idx 1 (.t 6) (.t 7)), none⟩, ⟨(some 9), (.ld none (.t 8)), none⟩, ⟨(some 10), (.pu (.bld [(.int .i64 0), (.int .i64 0)] [(0, 1), (1, 1)]) [(.t 5), (.t 9)]), none⟩, ⟨none, (.st 2 (.t 4) (.t 10)), none⟩]) .ret))
theorem cc84 : ccode Try.prog (min Try.f84.ntmps pbase) (Try.f84.body.getD .skip) = some ac84 := by kernel_rfl
def ac85 : ACode := (.seq (.ops [⟨(some 2), (.nils 1), none⟩]) (.seq (.seq (.ops [⟨(some 3), (.mov (.t 0)), none⟩, ⟨(some 4), (.isnil false (.t 3)), none⟩]) (.cond (.t 4) (.seq (.ops [⟨(some 2), (.nils 1), none⟩]) .ret) .skip)) (.seq (.ops [⟨(some 5), (.bsl 1 0 [(.int .i64 0)] []), none⟩, ⟨(some 6), (.mov (.t 0)), none⟩, ⟨(some 7), (.app 1 8 (.t 5) (.t 6)), none⟩, ⟨(some 2), (.mov (.t 7)), none⟩]) .ret)))
theorem cc85 : ccode Try.prog (min Try.f85.ntmps pbase) (Try.f85.body.getD .skip) = some ac85 := by kernel_rfl
end Go.Proofs.Yteiipnadhalnbaa
namespace Go.Proofs.Yteiipnadhalnbaa
open Go.Am
attribute [local irreducible] AW Outs Weak Lends Lend Sp aops atree aop1 Then Round InBlock Done
theorem isGuest_spec (a b : Int) : Sp Try.prog 76 [.i a, .i b] (.b (decide (0 ≤ a ∧ a < b))) := by
  refine spec_of Try.func76 rfl cc76 rfl ?_
  unfold ac76
  by_cases h : 0 ≤ a
  all_goals
    repeat (first | (refine step_ops ?_; (first | ((try (refine g_yes rfl ?_ ?_; (· first | rfl | assumption | (refine decide_eq_true ?_; first | assumption | omega) | (refine nt ?_; first | assumption | omega) | (simp [*]; done) | (refine decide_eq_false ?_; first | assumption | omega) | (refine nf ?_; first | assumption | omega)))); (first | (refine m_mov (by conv => lhs; whnf) ?_) | (refine m_lss rfl rfl ?_) | (refine m_geq rfl rfl ?_) | (refine m_pick_t rfl ?_ (by conv => lhs; whnf) ?_; (· first | rfl | assumption | (refine decide_eq_true ?_; first | assumption | omega) | (refine nt ?_; first | assumption | omega) | (simp [*]; done))) | (refine m_pick_f rfl ?_ (by conv => lhs; whnf) ?_; (· first | rfl | assumption | (refine decide_eq_false ?_; first | assumption | omega) | (refine nf ?_; first | assumption | omega) | (simp [*]; done))))) | (refine g_noT rfl ?_ ?_; (· first | rfl | assumption | (refine decide_eq_false ?_; first | assumption | omega) | (refine nf ?_; first | assumption | omega) | (simp [*]; done))))) | refine end_ops ?_ | refine seq_ops ?_ | refine AW_ret ?_ | refine ret_done ?_)
    refine outs_b ?_
    simp [*]
theorem l1In_spec (a b c : Int) : Sp Try.prog 36 [.i a, .i b, .i c] (.b (decide (b ≤ a ∧ a ≤ c))) := by
  refine spec_of Try.func36 rfl cc36 rfl ?_
  unfold ac36
  by_cases h : b ≤ a
  all_goals
    repeat (first | (refine step_ops ?_; (first | ((try (refine g_yes rfl ?_ ?_; (· first | rfl | assumption | (refine decide_eq_true ?_; first | assumption | omega) | (refine nt ?_; first | assumption | omega) | (simp [*]; done) | (refine decide_eq_false ?_; first | assumption | omega) | (refine nf ?_; first | assumption | omega)))); (first | (refine m_mov (by conv => lhs; whnf) ?_) | (refine m_leq rfl rfl ?_) | (refine m_geq rfl rfl ?_) | (refine m_pick_t rfl ?_ (by conv => lhs; whnf) ?_; (· first | rfl | assumption | (refine decide_eq_true ?_; first | assumption | omega) | (refine nt ?_; first | assumption | omega) | (simp [*]; done))) | (refine m_pick_f rfl ?_ (by conv => lhs; whnf) ?_; (· first | rfl | assumption | (refine decide_eq_false ?_; first | assumption | omega) | (refine nf ?_; first | assumption | omega) | (simp [*]; done))))) | (refine g_noT rfl ?_ ?_; (· first | rfl | assumption | (refine decide_eq_false ?_; first | assumption | omega) | (refine nf ?_; first | assumption | omega) | (simp [*]; done))))) | refine end_ops ?_ | refine seq_ops ?_ | refine AW_ret ?_ | refine ret_done ?_)
    refine outs_b ?_
    simp [*]
theorem getD_mem {L : List Int} {k : Nat} (h : k < L.length) : L.getD k 0 ∈ L := by simp [h]
end Go.Proofs.Yteiipnadhalnbaa
namespace Go.Proofs.Yteiipnadhalnbaa
open Go.Am
attribute [local irreducible] AW Outs Weak Lends Lend Sp aops atree aop1 Then Round InBlock Done
/-- What an exchange is. -/
def IsEx (L : List Int) : Prop := 1 ≤ L.length ∧ L.length ≤ 12 ∧ (∀ x ∈ L, 0 ≤ x ∧ x < L.length) ∧ L.Nodup
instance (L : List Int) : Decidable (IsEx L) := inferInstanceAs (Decidable (_ ∧ _ ∧ _ ∧ _))
theorem l1Has_spec (L : List Int) (n : Int) (hL : L.length ≤ 1048576) : Sp Try.prog 62 [ints L, .i n] (.b (decide (n ∈ L))) := by
  refine spec_of Try.func62 rfl cc62 rfl ?_
  unfold ac62
  repeat (first | (refine step_ops ?_; (first | (refine m_mov (by conv => lhs; whnf) ?_) | (refine m_len_ro rfl ?_))) | refine end_ops ?_ | refine seq_ops ?_ | refine AW_seq ?_ | refine AW_block ?_)
  refine AW_loop (α := Nat) (fun k => k ≤ L.length ∧ n ∉ L.take k) (fun k => st [(7, ints L), (1, .i n), (8, .i L.length), (9, .i k)] []) (fun k => L.length - k) 0 (by simp) (weak_st ?_ ?_ rfl rfl) ?_
  · (repeat' (first | exact trivial | refine And.intro ?_ ?_)) <;> (first | rfl | skip)
  · trivial
  rintro k ⟨hk, he⟩
  by_cases h : k < L.length
  · by_cases hx : L.getD k 0 = n
    · repeat (first | (refine step_ops ?_; (first | (refine m_mov (by conv => lhs; whnf) ?_) | (refine m_lss rfl rfl ?_) | (refine m_eql rfl rfl ?_) | (refine m_idx1_ro rfl rfl ?_ ?_; (· omega)) | (refine m_ld_rpi rfl ?_ ?_; (· omega)))) | refine end_ops ?_ | refine seq_ops ?_ | (refine cond_t rfl ?_ ?_; (· first | rfl | assumption | (refine decide_eq_true ?_; first | assumption | omega) | (refine nt ?_; first | assumption | omega) | (simp [*]; done))) | refine skip_then ?_ | refine AW_seq ?_ | refine AW_ret ?_ | refine ret_done ?_ | refine ret_then ?_ | refine AW_block ?_ | refine ret_block ?_ | refine ret_round ?_)
      refine outs_b ?_
      symm
      exact decide_eq_true (hx ▸ getD_mem h)
    · repeat (first | (refine step_ops ?_; (first | (refine m_mov (by conv => lhs; whnf) ?_) | (refine m_lss rfl rfl ?_) | (refine m_eql rfl rfl ?_) | (refine m_add rfl rfl ?_ ?_ ?_; (· omega); (· omega)) | (refine m_idx1_ro rfl rfl ?_ ?_; (· omega)) | (refine m_ld_rpi rfl ?_ ?_; (· omega)))) | refine end_ops ?_ | refine seq_ops ?_ | refine AW_ops ?_ | (refine cond_t rfl ?_ ?_; (· first | rfl | assumption | (refine decide_eq_true ?_; first | assumption | omega) | (refine nt ?_; first | assumption | omega) | (simp [*]; done))) | (refine cond_f rfl ?_ ?_; (· first | rfl | assumption | (refine decide_eq_false ?_; first | assumption | omega) | (refine nf ?_; first | assumption | omega) | (simp [*]; done))) | refine skip_then ?_ | refine AW_seq ?_ | refine norm_then ?_ | refine AW_block ?_ | refine norm_block ?_ | refine AW_skip ?_)
      refine next_round (k + 1) ⟨by omega, ?_⟩ (weak_st ?_ ?_ rfl rfl) ?_
      · rw [take_snoc L k 0 h, List.mem_append, List.mem_singleton]
        rintro (h1 | h1)
        · exact he h1
        · exact hx h1.symm
      · (repeat' (first | exact trivial | refine And.intro ?_ ?_)) <;> (first | rfl | skip)
      · trivial
      · omega
  · repeat (first | (refine step_ops ?_; (first | (refine m_mov (by conv => lhs; whnf) ?_) | (refine m_lss rfl rfl ?_))) | refine end_ops ?_ | refine seq_ops ?_ | (refine cond_f rfl ?_ ?_; (· first | rfl | assumption | (refine decide_eq_false ?_; first | assumption | omega) | (refine nf ?_; first | assumption | omega) | (simp [*]; done))) | refine AW_seq ?_ | refine AW_ret ?_ | refine ret_done ?_ | refine norm_then ?_ | refine exit_then ?_ | refine exit_round ?_ | refine AW_exit ?_ | refine exit_block ?_)
    refine outs_b ?_
    symm
    rw [List.take_of_length_le (by omega)] at he
    exact decide_eq_false he
theorem l1All_spec (L : List Int) (lo hi : Int) (hL : L.length ≤ 1048576) : Sp Try.prog 61 [ints L, .i lo, .i hi] (.b (decide (∀ x ∈ L, lo ≤ x ∧ x ≤ hi))) := by
  refine spec_of Try.func61 rfl cc61 rfl ?_
  unfold ac61
  repeat (first | (refine step_ops ?_; (first | (refine m_mov (by conv => lhs; whnf) ?_) | (refine m_len_ro rfl ?_))) | refine end_ops ?_ | refine seq_ops ?_ | refine AW_seq ?_ | refine AW_block ?_)
  refine AW_loop (α := Nat) (fun k => k ≤ L.length ∧ ∀ x ∈ L.take k, lo ≤ x ∧ x ≤ hi) (fun k => st [(9, ints L), (1, .i lo), (2, .i hi), (10, .i L.length), (11, .i k)] []) (fun k => L.length - k) 0 (by simp) (weak_st ?_ ?_ rfl rfl) ?_
  · (repeat' (first | exact trivial | refine And.intro ?_ ?_)) <;> (first | rfl | skip)
  · trivial
  rintro k ⟨hk, he⟩
  by_cases h : k < L.length
  · by_cases hx : lo ≤ L.getD k 0 ∧ L.getD k 0 ≤ hi
    · repeat (first | (refine step_ops ?_; (first | (refine m_mov (by conv => lhs; whnf) ?_) | (refine m_lss rfl rfl ?_) | (refine m_idx1_ro rfl rfl ?_ ?_; (· omega)) | (refine m_ld_rpi rfl ?_ ?_; (· omega)))) | refine end_ops ?_ | refine seq_ops ?_ | (refine cond_t rfl ?_ ?_; (· first | rfl | assumption | (refine decide_eq_true ?_; first | assumption | omega) | (refine nt ?_; first | assumption | omega) | (simp [*]; done))) | refine skip_then ?_ | refine AW_seq ?_ | refine AW_block ?_)
      (refine step_ops ?_); (apply m_call (l1In_spec _ _ _)); (· repeat (first | exact lends_nil | (refine lends_cons ?_ ?_; (· exact lend_v))))
      repeat (first | (refine step_ops ?_; (first | (refine m_mov (by conv => lhs; whnf) ?_) | (refine m_add rfl rfl ?_ ?_ ?_; (· omega); (· omega)) | (refine m_not rfl ?_))) | refine end_ops ?_ | refine AW_ops ?_ | (refine cond_f rfl ?_ ?_; (· first | rfl | assumption | (refine decide_eq_false ?_; first | assumption | omega) | (refine nf ?_; first | assumption | omega) | (simp [*]; done))) | refine norm_then ?_ | refine norm_block ?_ | refine AW_skip ?_)
      refine next_round (k + 1) ⟨by omega, ?_⟩ (weak_st ?_ ?_ rfl rfl) ?_
      · rw [take_snoc L k 0 h]
        intro x hxm
        rw [List.mem_append, List.mem_singleton] at hxm
        rcases hxm with h1 | rfl
        · exact he x h1
        · exact hx
      · (repeat' (first | exact trivial | refine And.intro ?_ ?_)) <;> (first | rfl | skip)
      · trivial
      · omega
    · repeat (first | (refine step_ops ?_; (first | (refine m_mov (by conv => lhs; whnf) ?_) | (refine m_lss rfl rfl ?_) | (refine m_idx1_ro rfl rfl ?_ ?_; (· omega)) | (refine m_ld_rpi rfl ?_ ?_; (· omega)))) | refine end_ops ?_ | refine seq_ops ?_ | (refine cond_t rfl ?_ ?_; (· first | rfl | assumption | (refine decide_eq_true ?_; first | assumption | omega) | (refine nt ?_; first | assumption | omega) | (simp [*]; done))) | refine skip_then ?_ | refine AW_seq ?_ | refine AW_block ?_)
      (refine step_ops ?_); (apply m_call (l1In_spec _ _ _)); (· repeat (first | exact lends_nil | (refine lends_cons ?_ ?_; (· exact lend_v))))
      repeat (first | (refine step_ops ?_; (first | (refine m_mov (by conv => lhs; whnf) ?_) | (refine m_not rfl ?_))) | refine end_ops ?_ | refine seq_ops ?_ | (refine cond_t rfl ?_ ?_; (· first | rfl | assumption | (refine decide_eq_true ?_; first | assumption | omega) | (refine nt ?_; first | assumption | omega) | (simp [*]; done))) | refine AW_ret ?_ | refine ret_done ?_ | refine ret_then ?_ | refine ret_block ?_ | refine ret_round ?_)
      refine outs_b ?_
      symm
      exact decide_eq_false fun hall => hx (hall _ (getD_mem h))
  · repeat (first | (refine step_ops ?_; (first | (refine m_mov (by conv => lhs; whnf) ?_) | (refine m_lss rfl rfl ?_))) | refine end_ops ?_ | refine seq_ops ?_ | (refine cond_f rfl ?_ ?_; (· first | rfl | assumption | (refine decide_eq_false ?_; first | assumption | omega) | (refine nf ?_; first | assumption | omega) | (simp [*]; done))) | refine AW_seq ?_ | refine AW_ret ?_ | refine ret_done ?_ | refine norm_then ?_ | refine exit_then ?_ | refine exit_round ?_ | refine AW_exit ?_ | refine exit_block ?_)
    refine outs_b ?_
    symm
    rw [List.take_of_length_le (by omega)] at he
    exact decide_eq_true he
theorem not_nodup {L : List Int} {k : Nat} (hk : k < L.length) (h : L.getD k 0 ∈ L.take k) : ¬ L.Nodup := by
  intro hn
  rw [← List.take_append_drop k L, List.nodup_append] at hn
  refine hn.2.2 _ h _ ?_ rfl
  have : L.drop k = L.getD k 0 :: L.drop (k + 1) := by rw [List.drop_eq_getElem_cons hk]; simp [hk]
  rw [this]
  exact List.mem_cons_self ..
theorem nodup_snoc {L : List Int} {k : Nat} (hk : k < L.length) (hn : (L.take k).Nodup) (h : L.getD k 0 ∉ L.take k) : (L.take (k + 1)).Nodup := by
  rw [take_snoc L k 0 hk, List.nodup_append]
  refine ⟨hn, by simp, ?_⟩
  intro a ha b hb hab
  rw [List.mem_singleton] at hb
  subst hb
  exact h (hab ▸ ha)
theorem exGood_spec (L : List Int) (hL : L.length ≤ 1048576) : Sp Try.prog 47 [ints L] (.b (decide (IsEx L))) := by
  refine spec_of Try.func47 rfl cc47 rfl ?_
  unfold ac47
  by_cases hc : 1 ≤ (L.length : Int) ∧ (L.length : Int) ≤ 12
  · by_cases hall : ∀ x ∈ L, 0 ≤ x ∧ x ≤ (L.length : Int) - 1
    · repeat (first | (refine step_ops ?_; (first | (refine m_mov (by conv => lhs; whnf) ?_) | (refine m_len_ro rfl ?_))) | refine end_ops ?_ | refine seq_ops ?_ | refine AW_seq ?_)
      (refine step_ops ?_); (apply m_call (l1In_spec _ _ _)); (· repeat (first | exact lends_nil | (refine lends_cons ?_ ?_; (· exact lend_v))))
      repeat (refine step_ops ?_; ((try (refine g_yes rfl ?_ ?_; (· first | rfl | assumption | (refine decide_eq_true ?_; first | assumption | omega) | (refine nt ?_; first | assumption | omega) | (simp [*]; done) | (refine decide_eq_false ?_; first | assumption | omega) | (refine nf ?_; first | assumption | omega)))); (first | (refine m_mov (by conv => lhs; whnf) ?_) | (refine m_sub rfl rfl ?_ ?_ ?_; (· omega); (· omega)) | (refine m_not rfl ?_) | (refine m_len_ro rfl ?_))))
      (refine step_ops ?_); (refine g_yes rfl ?_ ?_; (· first | (first | rfl | assumption | (refine decide_eq_true ?_; first | assumption | omega) | (refine nt ?_; first | assumption | omega) | (simp [*]; done)) | (first | rfl | assumption | (refine decide_eq_false ?_; first | assumption | omega) | (refine nf ?_; first | assumption | omega) | (simp [*]; done))); (apply m_call (l1All_spec _ _ _ hL))); (· repeat (first | exact lends_nil | (refine lends_cons ?_ ?_; (· (first | exact lend_v | (refine lend_ints ?_; first | rfl | omega))))))
      repeat (first | (refine step_ops ?_; ((try (refine g_yes rfl ?_ ?_; (· first | rfl | assumption | (refine decide_eq_true ?_; first | assumption | omega) | (refine nt ?_; first | assumption | omega) | (simp [*]; done) | (refine decide_eq_false ?_; first | assumption | omega) | (refine nf ?_; first | assumption | omega)))); (first | (refine m_mov (by conv => lhs; whnf) ?_) | (refine m_not rfl ?_) | (refine m_len_ro rfl ?_) | (refine m_pick_f rfl ?_ (by conv => lhs; whnf) ?_; (· first | rfl | assumption | (refine decide_eq_false ?_; first | assumption | omega) | (refine nf ?_; first | assumption | omega) | (simp [*]; done)))))) | refine end_ops ?_ | refine seq_ops ?_ | (refine cond_f rfl ?_ ?_; (· first | rfl | assumption | (refine decide_eq_false ?_; first | assumption | omega) | (refine nf ?_; first | assumption | omega) | (simp [*]; done))) | refine skip_then ?_ | refine AW_seq ?_ | refine AW_block ?_)
      refine AW_loop (α := Nat) (fun k => k ≤ L.length ∧ (L.take k).Nodup) (fun k => st [(0, ints L), (17, ints L), (18, .i L.length), (19, .i k)] []) (fun k => L.length - k) 0 (by simp) (weak_st ?_ ?_ rfl rfl) ?_
      · (repeat' (first | exact trivial | refine And.intro ?_ ?_)) <;> (first | rfl | skip)
      · trivial
      rintro k ⟨hk, hn⟩
      by_cases h : k < L.length
      · have hlt : (L.take k).length ≤ 1048576 := by simp; omega
        by_cases hm : L.getD k 0 ∈ L.take k
        · repeat (first | (refine step_ops ?_; (first | (refine m_mov (by conv => lhs; whnf) ?_) | (refine m_lss rfl rfl ?_) | (refine m_idx1_ro rfl rfl ?_ ?_; (· omega)) | (refine m_ld_rpi rfl ?_ ?_; (· omega)) | (refine m_cut_hi rfl rfl ?_ ?_ ?_; (· first | rfl | omega | simp); (· first | omega | (simp; omega))))) | refine end_ops ?_ | refine seq_ops ?_ | (refine cond_t rfl ?_ ?_; (· first | rfl | assumption | (refine decide_eq_true ?_; first | assumption | omega) | (refine nt ?_; first | assumption | omega) | (simp [*]; done))) | refine skip_then ?_ | refine AW_seq ?_ | refine AW_block ?_)
          (refine step_ops ?_); (apply m_call (l1Has_spec _ _ hlt)); (· repeat (first | exact lends_nil | (refine lends_cons ?_ ?_; (· (first | exact lend_v | (refine lend_ints ?_; first | rfl | omega))))))
          repeat (first | (refine step_ops ?_; (refine m_mov (by conv => lhs; whnf) ?_)) | refine end_ops ?_ | refine seq_ops ?_ | (refine cond_t rfl ?_ ?_; (· first | rfl | assumption | (refine decide_eq_true ?_; first | assumption | omega) | (refine nt ?_; first | assumption | omega) | (simp [*]; done))) | refine AW_ret ?_ | refine ret_done ?_ | refine ret_then ?_ | refine ret_block ?_ | refine ret_round ?_)
          refine outs_b ?_
          symm
          exact decide_eq_false fun he => not_nodup h hm he.2.2.2
        · repeat (first | (refine step_ops ?_; (first | (refine m_mov (by conv => lhs; whnf) ?_) | (refine m_lss rfl rfl ?_) | (refine m_idx1_ro rfl rfl ?_ ?_; (· omega)) | (refine m_ld_rpi rfl ?_ ?_; (· omega)) | (refine m_cut_hi rfl rfl ?_ ?_ ?_; (· first | rfl | omega | simp); (· first | omega | (simp; omega))))) | refine end_ops ?_ | refine seq_ops ?_ | (refine cond_t rfl ?_ ?_; (· first | rfl | assumption | (refine decide_eq_true ?_; first | assumption | omega) | (refine nt ?_; first | assumption | omega) | (simp [*]; done))) | refine skip_then ?_ | refine AW_seq ?_ | refine AW_block ?_)
          (refine step_ops ?_); (apply m_call (l1Has_spec _ _ hlt)); (· repeat (first | exact lends_nil | (refine lends_cons ?_ ?_; (· (first | exact lend_v | (refine lend_ints ?_; first | rfl | omega))))))
          repeat (first | (refine step_ops ?_; (first | (refine m_mov (by conv => lhs; whnf) ?_) | (refine m_add rfl rfl ?_ ?_ ?_; (· omega); (· omega)))) | refine end_ops ?_ | refine AW_ops ?_ | (refine cond_f rfl ?_ ?_; (· first | rfl | assumption | (refine decide_eq_false ?_; first | assumption | omega) | (refine nf ?_; first | assumption | omega) | (simp [*]; done))) | refine norm_then ?_ | refine norm_block ?_ | refine AW_skip ?_)
          refine next_round (k + 1) ⟨by omega, nodup_snoc h hn hm⟩ (weak_st ?_ ?_ rfl rfl) ?_
          · (repeat' (first | exact trivial | refine And.intro ?_ ?_)) <;> (first | rfl | skip)
          · trivial
          · omega
      · repeat (first | (refine step_ops ?_; (first | (refine m_mov (by conv => lhs; whnf) ?_) | (refine m_lss rfl rfl ?_))) | refine end_ops ?_ | refine seq_ops ?_ | (refine cond_f rfl ?_ ?_; (· first | rfl | assumption | (refine decide_eq_false ?_; first | assumption | omega) | (refine nf ?_; first | assumption | omega) | (simp [*]; done))) | refine AW_seq ?_ | refine AW_ret ?_ | refine ret_done ?_ | refine norm_then ?_ | refine exit_then ?_ | refine exit_round ?_ | refine AW_exit ?_ | refine exit_block ?_)
        refine outs_b ?_
        symm
        rw [List.take_of_length_le (by omega)] at hn
        exact decide_eq_true ⟨by omega, by omega, fun x hx => ⟨(hall x hx).1, by have := (hall x hx).2; omega⟩, hn⟩
    · repeat (first | (refine step_ops ?_; (first | (refine m_mov (by conv => lhs; whnf) ?_) | (refine m_len_ro rfl ?_))) | refine end_ops ?_ | refine seq_ops ?_ | refine AW_seq ?_)
      (refine step_ops ?_); (apply m_call (l1In_spec _ _ _)); (· repeat (first | exact lends_nil | (refine lends_cons ?_ ?_; (· exact lend_v))))
      repeat (refine step_ops ?_; ((try (refine g_yes rfl ?_ ?_; (· first | rfl | assumption | (refine decide_eq_true ?_; first | assumption | omega) | (refine nt ?_; first | assumption | omega) | (simp [*]; done) | (refine decide_eq_false ?_; first | assumption | omega) | (refine nf ?_; first | assumption | omega)))); (first | (refine m_mov (by conv => lhs; whnf) ?_) | (refine m_sub rfl rfl ?_ ?_ ?_; (· omega); (· omega)) | (refine m_not rfl ?_) | (refine m_len_ro rfl ?_))))
      (refine step_ops ?_); (refine g_yes rfl ?_ ?_; (· first | (first | rfl | assumption | (refine decide_eq_true ?_; first | assumption | omega) | (refine nt ?_; first | assumption | omega) | (simp [*]; done)) | (first | rfl | assumption | (refine decide_eq_false ?_; first | assumption | omega) | (refine nf ?_; first | assumption | omega) | (simp [*]; done))); (apply m_call (l1All_spec _ _ _ hL))); (· repeat (first | exact lends_nil | (refine lends_cons ?_ ?_; (· (first | exact lend_v | (refine lend_ints ?_; first | rfl | omega))))))
      repeat (first | (refine step_ops ?_; ((try (refine g_yes rfl ?_ ?_; (· first | rfl | assumption | (refine decide_eq_true ?_; first | assumption | omega) | (refine nt ?_; first | assumption | omega) | (simp [*]; done) | (refine decide_eq_false ?_; first | assumption | omega) | (refine nf ?_; first | assumption | omega)))); (first | (refine m_mov (by conv => lhs; whnf) ?_) | (refine m_not rfl ?_) | (refine m_pick_f rfl ?_ (by conv => lhs; whnf) ?_; (· first | rfl | assumption | (refine decide_eq_false ?_; first | assumption | omega) | (refine nf ?_; first | assumption | omega) | (simp [*]; done)))))) | refine end_ops ?_ | refine seq_ops ?_ | (refine cond_t rfl ?_ ?_; (· first | rfl | assumption | (refine decide_eq_true ?_; first | assumption | omega) | (refine nt ?_; first | assumption | omega) | (simp [*]; done))) | refine AW_ret ?_ | refine ret_done ?_ | refine ret_then ?_)
      refine outs_b ?_
      symm
      exact decide_eq_false fun he => hall fun x hx => ⟨(he.2.2.1 x hx).1, by have := (he.2.2.1 x hx).2; omega⟩
  · repeat (first | (refine step_ops ?_; (first | (refine m_mov (by conv => lhs; whnf) ?_) | (refine m_len_ro rfl ?_))) | refine end_ops ?_ | refine seq_ops ?_ | refine AW_seq ?_)
    (refine step_ops ?_); (apply m_call (l1In_spec _ _ _)); (· repeat (first | exact lends_nil | (refine lends_cons ?_ ?_; (· exact lend_v))))
    repeat (first | (refine step_ops ?_; (first | (first | (refine m_mov (by conv => lhs; whnf) ?_) | (refine m_not rfl ?_) | (refine m_pick_t rfl ?_ (by conv => lhs; whnf) ?_; (· first | rfl | assumption | (refine decide_eq_true ?_; first | assumption | omega) | (refine nt ?_; first | assumption | omega) | (simp [*]; done)))) | (refine g_noF rfl ?_ ?_; (· first | rfl | assumption | (refine decide_eq_true ?_; first | assumption | omega) | (refine nt ?_; first | assumption | omega) | (simp [*]; done))))) | refine end_ops ?_ | refine seq_ops ?_ | (refine cond_t rfl ?_ ?_; (· first | rfl | assumption | (refine decide_eq_true ?_; first | assumption | omega) | (refine nt ?_; first | assumption | omega) | (simp [*]; done))) | refine AW_ret ?_ | refine ret_done ?_ | refine ret_then ?_)
    refine outs_b ?_
    symm
    exact decide_eq_false fun he => hc ⟨by have := he.1; omega, by have := he.2.1; omega⟩
end Go.Proofs.Yteiipnadhalnbaa
namespace Go.Proofs.Yteiipnadhalnbaa
open Go.Am
attribute [local irreducible] AW Outs Weak Lends Lend Sp aops atree aop1 Then Round InBlock Done
theorem pzGuests_spec (g : Int) : Sp Try.prog 42 [.i g] (.b (decide (PzN g))) := by
  refine spec_of Try.func42 rfl cc42 rfl ?_
  unfold ac42
  repeat (first | (refine step_ops ?_; (refine m_mov (by conv => lhs; whnf) ?_)) | refine end_ops ?_ | refine seq_ops ?_)
  (refine step_ops ?_); (apply m_call (l1In_spec _ _ _)); (· repeat (first | exact lends_nil | (refine lends_cons ?_ ?_; (· exact lend_v))))
  repeat (first | (refine step_ops ?_; (refine m_mov (by conv => lhs; whnf) ?_)) | refine end_ops ?_ | refine AW_ret ?_ | refine ret_done ?_)
  exact outs_b rfl
theorem isClu_01 {g k a b : Int} (h : k = 0 ∨ k = 1) : IsClu g (k, a, b) ↔ (0 ≤ a ∧ a ≤ g - 1) ∧ 0 ≤ b ∧ b ≤ g - 1 := by unfold IsClu; simp only [if_pos h]
theorem isClu_2 {g a b : Int} : IsClu g (2, a, b) ↔ (0 ≤ a ∧ a ≤ g) ∧ b = 0 := by unfold IsClu; simp
theorem isClu_3 {g a b : Int} : IsClu g (3, a, b) ↔ (1 ≤ a ∧ a ≤ g) ∧ b = 0 := by unfold IsClu; simp
theorem isClu_4 {g a b : Int} : IsClu g (4, a, b) ↔ (0 ≤ a ∧ a ≤ g - 1) ∧ 0 ≤ b ∧ b ≤ 1 := by unfold IsClu; simp
theorem isClu_5 {g a b : Int} : IsClu g (5, a, b) ↔ (1 ≤ a ∧ a ≤ 6) ∧ b = 0 := by unfold IsClu; simp
theorem isClu_no {g k a b : Int} (h : ¬ (0 ≤ k ∧ k ≤ 5)) : ¬ IsClu g (k, a, b) := by
  unfold IsClu
  dsimp only
  rw [if_neg (by omega), if_neg (by omega), if_neg (by omega), if_neg (by omega)]
  rintro ⟨h1, _⟩
  omega
theorem pzClue_spec (g k a b : Int) (h : PzN g) : Sp Try.prog 23 [.i g, .agg [.i k, .i a, .i b]] (.b (decide (IsClu g (k, a, b)))) := by
  obtain ⟨hg1, hg5⟩ := h
  refine spec_of Try.func23 rfl cc23 rfl ?_
  unfold ac23
  refine seq_ops ?_
  refine step_ops ?_
  refine m_box (l := [.i k, .i a, .i b]) rfl rfl ?_
  by_cases h0 : k = 0
  · have hi : IsClu g (k, a, b) ↔ (0 ≤ a ∧ a ≤ g - 1) ∧ (0 ≤ b ∧ b ≤ g - 1) := by
      exact isClu_01 (.inl h0)
    rw [decide_eq_decide.2 hi]
    by_cases ha : (0 ≤ a ∧ a ≤ g - 1)
    · have hd : decide ((0 ≤ a ∧ a ≤ g - 1) ∧ (0 ≤ b ∧ b ≤ g - 1)) = decide ((0 ≤ b ∧ b ≤ g - 1)) := by simp [ha]
      rw [hd]
      have hc := l1In_spec a 0 (g - 1)
      rw [decide_eq_true ha] at hc
      repeat (first | (refine step_ops ?_; (first | (refine m_mov (by conv => lhs; whnf) ?_) | (refine m_eql rfl rfl ?_) | (refine m_sub rfl rfl ?_ ?_ ?_; (· omega); (· omega)) | (apply m_ld_pt; (· rfl); (· rfl); (· rfl)) | (refine m_fa rfl ?_))) | refine end_ops ?_ | refine seq_ops ?_ | (refine cond_t rfl ?_ ?_; (· first | rfl | assumption | (refine decide_eq_true ?_; first | assumption | omega) | (refine nt ?_; first | assumption | omega) | (simp [*]; done))) | refine skip_then ?_ | refine AW_seq ?_ | refine AW_block ?_)
      (refine step_ops ?_); (apply m_call (hc)); (· repeat (first | exact lends_nil | (refine lends_cons ?_ ?_; (· exact lend_v))))
      repeat (refine step_ops ?_; ((try (refine g_yes rfl ?_ ?_; (· first | rfl | assumption | (refine decide_eq_true ?_; first | assumption | omega) | (refine nt ?_; first | assumption | omega) | (simp [*]; done) | (refine decide_eq_false ?_; first | assumption | omega) | (refine nf ?_; first | assumption | omega)))); (first | (refine m_mov (by conv => lhs; whnf) ?_) | (refine m_sub rfl rfl ?_ ?_ ?_; (· omega); (· omega)) | (apply m_ld_pt; (· rfl); (· rfl); (· rfl)) | (refine m_fa rfl ?_))))
      (refine step_ops ?_); (refine g_yes rfl ?_ ?_; (· first | (first | rfl | assumption | (refine decide_eq_true ?_; first | assumption | omega) | (refine nt ?_; first | assumption | omega) | (simp [*]; done)) | (first | rfl | assumption | (refine decide_eq_false ?_; first | assumption | omega) | (refine nf ?_; first | assumption | omega) | (simp [*]; done))); (apply m_call (l1In_spec b 0 (g - 1)))); (· repeat (first | exact lends_nil | (refine lends_cons ?_ ?_; (· exact lend_v))))
      repeat (first | (refine step_ops ?_; (first | (refine m_mov (by conv => lhs; whnf) ?_) | (refine m_pick_t rfl ?_ (by conv => lhs; whnf) ?_; (· first | rfl | assumption | (refine decide_eq_true ?_; first | assumption | omega) | (refine nt ?_; first | assumption | omega) | (simp [*]; done))))) | refine end_ops ?_ | refine AW_ret ?_ | refine ret_done ?_ | refine ret_then ?_ | refine ret_block ?_)
      exact outs_b rfl
    · have hd : decide ((0 ≤ a ∧ a ≤ g - 1) ∧ (0 ≤ b ∧ b ≤ g - 1)) = false := by simp [ha]
      rw [hd]
      have hc := l1In_spec a 0 (g - 1)
      rw [decide_eq_false ha] at hc
      repeat (first | (refine step_ops ?_; (first | (refine m_mov (by conv => lhs; whnf) ?_) | (refine m_eql rfl rfl ?_) | (refine m_sub rfl rfl ?_ ?_ ?_; (· omega); (· omega)) | (apply m_ld_pt; (· rfl); (· rfl); (· rfl)) | (refine m_fa rfl ?_))) | refine end_ops ?_ | refine seq_ops ?_ | (refine cond_t rfl ?_ ?_; (· first | rfl | assumption | (refine decide_eq_true ?_; first | assumption | omega) | (refine nt ?_; first | assumption | omega) | (simp [*]; done))) | refine skip_then ?_ | refine AW_seq ?_ | refine AW_block ?_)
      (refine step_ops ?_); (apply m_call (hc)); (· repeat (first | exact lends_nil | (refine lends_cons ?_ ?_; (· exact lend_v))))
      repeat (first | (refine step_ops ?_; (first | (first | (refine m_mov (by conv => lhs; whnf) ?_) | (refine m_pick_f rfl ?_ (by conv => lhs; whnf) ?_; (· first | rfl | assumption | (refine decide_eq_false ?_; first | assumption | omega) | (refine nf ?_; first | assumption | omega) | (simp [*]; done)))) | (refine g_noT rfl ?_ ?_; (· first | rfl | assumption | (refine decide_eq_false ?_; first | assumption | omega) | (refine nf ?_; first | assumption | omega) | (simp [*]; done))))) | refine end_ops ?_ | refine AW_ret ?_ | refine ret_done ?_ | refine ret_then ?_ | refine ret_block ?_)
      exact outs_b rfl
  by_cases h1 : k = 1
  · have hi : IsClu g (k, a, b) ↔ (0 ≤ a ∧ a ≤ g - 1) ∧ (0 ≤ b ∧ b ≤ g - 1) := by
      exact isClu_01 (.inr h1)
    rw [decide_eq_decide.2 hi]
    by_cases ha : (0 ≤ a ∧ a ≤ g - 1)
    · have hd : decide ((0 ≤ a ∧ a ≤ g - 1) ∧ (0 ≤ b ∧ b ≤ g - 1)) = decide ((0 ≤ b ∧ b ≤ g - 1)) := by simp [ha]
      rw [hd]
      have hc := l1In_spec a 0 (g - 1)
      rw [decide_eq_true ha] at hc
      repeat (first | (refine step_ops ?_; (first | (refine m_mov (by conv => lhs; whnf) ?_) | (refine m_eql rfl rfl ?_) | (refine m_sub rfl rfl ?_ ?_ ?_; (· omega); (· omega)) | (apply m_ld_pt; (· rfl); (· rfl); (· rfl)) | (refine m_fa rfl ?_))) | refine end_ops ?_ | refine seq_ops ?_ | refine AW_ops ?_ | (refine cond_t rfl ?_ ?_; (· first | rfl | assumption | (refine decide_eq_true ?_; first | assumption | omega) | (refine nt ?_; first | assumption | omega) | (simp [*]; done))) | (refine cond_f rfl ?_ ?_; (· first | rfl | assumption | (refine decide_eq_false ?_; first | assumption | omega) | (refine nf ?_; first | assumption | omega) | (simp [*]; done))) | refine AW_seq ?_ | refine norm_then ?_ | refine AW_block ?_)
      (refine step_ops ?_); (apply m_call (hc)); (· repeat (first | exact lends_nil | (refine lends_cons ?_ ?_; (· exact lend_v))))
      repeat (refine step_ops ?_; ((try (refine g_yes rfl ?_ ?_; (· first | rfl | assumption | (refine decide_eq_true ?_; first | assumption | omega) | (refine nt ?_; first | assumption | omega) | (simp [*]; done) | (refine decide_eq_false ?_; first | assumption | omega) | (refine nf ?_; first | assumption | omega)))); (first | (refine m_mov (by conv => lhs; whnf) ?_) | (refine m_sub rfl rfl ?_ ?_ ?_; (· omega); (· omega)) | (apply m_ld_pt; (· rfl); (· rfl); (· rfl)) | (refine m_fa rfl ?_))))
      (refine step_ops ?_); (refine g_yes rfl ?_ ?_; (· first | (first | rfl | assumption | (refine decide_eq_true ?_; first | assumption | omega) | (refine nt ?_; first | assumption | omega) | (simp [*]; done)) | (first | rfl | assumption | (refine decide_eq_false ?_; first | assumption | omega) | (refine nf ?_; first | assumption | omega) | (simp [*]; done))); (apply m_call (l1In_spec b 0 (g - 1)))); (· repeat (first | exact lends_nil | (refine lends_cons ?_ ?_; (· exact lend_v))))
      repeat (first | (refine step_ops ?_; (first | (refine m_mov (by conv => lhs; whnf) ?_) | (refine m_pick_t rfl ?_ (by conv => lhs; whnf) ?_; (· first | rfl | assumption | (refine decide_eq_true ?_; first | assumption | omega) | (refine nt ?_; first | assumption | omega) | (simp [*]; done))))) | refine end_ops ?_ | refine AW_ret ?_ | refine ret_done ?_ | refine ret_then ?_ | refine ret_block ?_)
      exact outs_b rfl
    · have hd : decide ((0 ≤ a ∧ a ≤ g - 1) ∧ (0 ≤ b ∧ b ≤ g - 1)) = false := by simp [ha]
      rw [hd]
      have hc := l1In_spec a 0 (g - 1)
      rw [decide_eq_false ha] at hc
      repeat (first | (refine step_ops ?_; (first | (refine m_mov (by conv => lhs; whnf) ?_) | (refine m_eql rfl rfl ?_) | (refine m_sub rfl rfl ?_ ?_ ?_; (· omega); (· omega)) | (apply m_ld_pt; (· rfl); (· rfl); (· rfl)) | (refine m_fa rfl ?_))) | refine end_ops ?_ | refine seq_ops ?_ | refine AW_ops ?_ | (refine cond_t rfl ?_ ?_; (· first | rfl | assumption | (refine decide_eq_true ?_; first | assumption | omega) | (refine nt ?_; first | assumption | omega) | (simp [*]; done))) | (refine cond_f rfl ?_ ?_; (· first | rfl | assumption | (refine decide_eq_false ?_; first | assumption | omega) | (refine nf ?_; first | assumption | omega) | (simp [*]; done))) | refine AW_seq ?_ | refine norm_then ?_ | refine AW_block ?_)
      (refine step_ops ?_); (apply m_call (hc)); (· repeat (first | exact lends_nil | (refine lends_cons ?_ ?_; (· exact lend_v))))
      repeat (first | (refine step_ops ?_; (first | (first | (refine m_mov (by conv => lhs; whnf) ?_) | (refine m_pick_f rfl ?_ (by conv => lhs; whnf) ?_; (· first | rfl | assumption | (refine decide_eq_false ?_; first | assumption | omega) | (refine nf ?_; first | assumption | omega) | (simp [*]; done)))) | (refine g_noT rfl ?_ ?_; (· first | rfl | assumption | (refine decide_eq_false ?_; first | assumption | omega) | (refine nf ?_; first | assumption | omega) | (simp [*]; done))))) | refine end_ops ?_ | refine AW_ret ?_ | refine ret_done ?_ | refine ret_then ?_ | refine ret_block ?_)
      exact outs_b rfl
  by_cases h2 : k = 2
  · have hi : IsClu g (k, a, b) ↔ (0 ≤ a ∧ a ≤ g) ∧ b = 0 := by
      subst h2; exact isClu_2
    rw [decide_eq_decide.2 hi]
    by_cases ha : (0 ≤ a ∧ a ≤ g)
    · have hd : decide ((0 ≤ a ∧ a ≤ g) ∧ b = 0) = decide (b = 0) := by simp [ha]
      rw [hd]
      have hc := l1In_spec a 0 g
      rw [decide_eq_true ha] at hc
      repeat (first | (refine step_ops ?_; (first | (refine m_mov (by conv => lhs; whnf) ?_) | (refine m_eql rfl rfl ?_) | (apply m_ld_pt; (· rfl); (· rfl); (· rfl)) | (refine m_fa rfl ?_))) | refine end_ops ?_ | refine seq_ops ?_ | refine AW_ops ?_ | (refine cond_t rfl ?_ ?_; (· first | rfl | assumption | (refine decide_eq_true ?_; first | assumption | omega) | (refine nt ?_; first | assumption | omega) | (simp [*]; done))) | (refine cond_f rfl ?_ ?_; (· first | rfl | assumption | (refine decide_eq_false ?_; first | assumption | omega) | (refine nf ?_; first | assumption | omega) | (simp [*]; done))) | refine AW_seq ?_ | refine norm_then ?_ | refine AW_block ?_)
      (refine step_ops ?_); (apply m_call (hc)); (· repeat (first | exact lends_nil | (refine lends_cons ?_ ?_; (· exact lend_v))))
      repeat (first | (refine step_ops ?_; ((try (refine g_yes rfl ?_ ?_; (· first | rfl | assumption | (refine decide_eq_true ?_; first | assumption | omega) | (refine nt ?_; first | assumption | omega) | (simp [*]; done) | (refine decide_eq_false ?_; first | assumption | omega) | (refine nf ?_; first | assumption | omega)))); (first | (refine m_mov (by conv => lhs; whnf) ?_) | (refine m_eql rfl rfl ?_) | (apply m_ld_pt; (· rfl); (· rfl); (· rfl)) | (refine m_pick_t rfl ?_ (by conv => lhs; whnf) ?_; (· first | rfl | assumption | (refine decide_eq_true ?_; first | assumption | omega) | (refine nt ?_; first | assumption | omega) | (simp [*]; done))) | (refine m_fa rfl ?_)))) | refine end_ops ?_ | refine AW_ret ?_ | refine ret_done ?_ | refine ret_then ?_ | refine ret_block ?_)
      exact outs_b rfl
    · have hd : decide ((0 ≤ a ∧ a ≤ g) ∧ b = 0) = false := by simp [ha]
      rw [hd]
      have hc := l1In_spec a 0 g
      rw [decide_eq_false ha] at hc
      repeat (first | (refine step_ops ?_; (first | (refine m_mov (by conv => lhs; whnf) ?_) | (refine m_eql rfl rfl ?_) | (apply m_ld_pt; (· rfl); (· rfl); (· rfl)) | (refine m_fa rfl ?_))) | refine end_ops ?_ | refine seq_ops ?_ | refine AW_ops ?_ | (refine cond_t rfl ?_ ?_; (· first | rfl | assumption | (refine decide_eq_true ?_; first | assumption | omega) | (refine nt ?_; first | assumption | omega) | (simp [*]; done))) | (refine cond_f rfl ?_ ?_; (· first | rfl | assumption | (refine decide_eq_false ?_; first | assumption | omega) | (refine nf ?_; first | assumption | omega) | (simp [*]; done))) | refine AW_seq ?_ | refine norm_then ?_ | refine AW_block ?_)
      (refine step_ops ?_); (apply m_call (hc)); (· repeat (first | exact lends_nil | (refine lends_cons ?_ ?_; (· exact lend_v))))
      repeat (first | (refine step_ops ?_; (first | (first | (refine m_mov (by conv => lhs; whnf) ?_) | (refine m_pick_f rfl ?_ (by conv => lhs; whnf) ?_; (· first | rfl | assumption | (refine decide_eq_false ?_; first | assumption | omega) | (refine nf ?_; first | assumption | omega) | (simp [*]; done)))) | (refine g_noT rfl ?_ ?_; (· first | rfl | assumption | (refine decide_eq_false ?_; first | assumption | omega) | (refine nf ?_; first | assumption | omega) | (simp [*]; done))))) | refine end_ops ?_ | refine AW_ret ?_ | refine ret_done ?_ | refine ret_then ?_ | refine ret_block ?_)
      exact outs_b rfl
  by_cases h3 : k = 3
  · have hi : IsClu g (k, a, b) ↔ (1 ≤ a ∧ a ≤ g) ∧ b = 0 := by
      subst h3; exact isClu_3
    rw [decide_eq_decide.2 hi]
    by_cases ha : (1 ≤ a ∧ a ≤ g)
    · have hd : decide ((1 ≤ a ∧ a ≤ g) ∧ b = 0) = decide (b = 0) := by simp [ha]
      rw [hd]
      have hc := l1In_spec a 1 g
      rw [decide_eq_true ha] at hc
      repeat (first | (refine step_ops ?_; (first | (refine m_mov (by conv => lhs; whnf) ?_) | (refine m_eql rfl rfl ?_) | (apply m_ld_pt; (· rfl); (· rfl); (· rfl)) | (refine m_fa rfl ?_))) | refine end_ops ?_ | refine seq_ops ?_ | refine AW_ops ?_ | (refine cond_t rfl ?_ ?_; (· first | rfl | assumption | (refine decide_eq_true ?_; first | assumption | omega) | (refine nt ?_; first | assumption | omega) | (simp [*]; done))) | (refine cond_f rfl ?_ ?_; (· first | rfl | assumption | (refine decide_eq_false ?_; first | assumption | omega) | (refine nf ?_; first | assumption | omega) | (simp [*]; done))) | refine AW_seq ?_ | refine norm_then ?_ | refine AW_block ?_)
      (refine step_ops ?_); (apply m_call (hc)); (· repeat (first | exact lends_nil | (refine lends_cons ?_ ?_; (· exact lend_v))))
      repeat (first | (refine step_ops ?_; ((try (refine g_yes rfl ?_ ?_; (· first | rfl | assumption | (refine decide_eq_true ?_; first | assumption | omega) | (refine nt ?_; first | assumption | omega) | (simp [*]; done) | (refine decide_eq_false ?_; first | assumption | omega) | (refine nf ?_; first | assumption | omega)))); (first | (refine m_mov (by conv => lhs; whnf) ?_) | (refine m_eql rfl rfl ?_) | (apply m_ld_pt; (· rfl); (· rfl); (· rfl)) | (refine m_pick_t rfl ?_ (by conv => lhs; whnf) ?_; (· first | rfl | assumption | (refine decide_eq_true ?_; first | assumption | omega) | (refine nt ?_; first | assumption | omega) | (simp [*]; done))) | (refine m_fa rfl ?_)))) | refine end_ops ?_ | refine AW_ret ?_ | refine ret_done ?_ | refine ret_then ?_ | refine ret_block ?_)
      exact outs_b rfl
    · have hd : decide ((1 ≤ a ∧ a ≤ g) ∧ b = 0) = false := by simp [ha]
      rw [hd]
      have hc := l1In_spec a 1 g
      rw [decide_eq_false ha] at hc
      repeat (first | (refine step_ops ?_; (first | (refine m_mov (by conv => lhs; whnf) ?_) | (refine m_eql rfl rfl ?_) | (apply m_ld_pt; (· rfl); (· rfl); (· rfl)) | (refine m_fa rfl ?_))) | refine end_ops ?_ | refine seq_ops ?_ | refine AW_ops ?_ | (refine cond_t rfl ?_ ?_; (· first | rfl | assumption | (refine decide_eq_true ?_; first | assumption | omega) | (refine nt ?_; first | assumption | omega) | (simp [*]; done))) | (refine cond_f rfl ?_ ?_; (· first | rfl | assumption | (refine decide_eq_false ?_; first | assumption | omega) | (refine nf ?_; first | assumption | omega) | (simp [*]; done))) | refine AW_seq ?_ | refine norm_then ?_ | refine AW_block ?_)
      (refine step_ops ?_); (apply m_call (hc)); (· repeat (first | exact lends_nil | (refine lends_cons ?_ ?_; (· exact lend_v))))
      repeat (first | (refine step_ops ?_; (first | (first | (refine m_mov (by conv => lhs; whnf) ?_) | (refine m_pick_f rfl ?_ (by conv => lhs; whnf) ?_; (· first | rfl | assumption | (refine decide_eq_false ?_; first | assumption | omega) | (refine nf ?_; first | assumption | omega) | (simp [*]; done)))) | (refine g_noT rfl ?_ ?_; (· first | rfl | assumption | (refine decide_eq_false ?_; first | assumption | omega) | (refine nf ?_; first | assumption | omega) | (simp [*]; done))))) | refine end_ops ?_ | refine AW_ret ?_ | refine ret_done ?_ | refine ret_then ?_ | refine ret_block ?_)
      exact outs_b rfl
  by_cases h4 : k = 4
  · have hi : IsClu g (k, a, b) ↔ (0 ≤ a ∧ a ≤ g - 1) ∧ (0 ≤ b ∧ b ≤ 1) := by
      subst h4; exact isClu_4
    rw [decide_eq_decide.2 hi]
    by_cases ha : (0 ≤ a ∧ a ≤ g - 1)
    · have hd : decide ((0 ≤ a ∧ a ≤ g - 1) ∧ (0 ≤ b ∧ b ≤ 1)) = decide ((0 ≤ b ∧ b ≤ 1)) := by simp [ha]
      rw [hd]
      have hc := l1In_spec a 0 (g - 1)
      rw [decide_eq_true ha] at hc
      repeat (first | (refine step_ops ?_; (first | (refine m_mov (by conv => lhs; whnf) ?_) | (refine m_eql rfl rfl ?_) | (refine m_sub rfl rfl ?_ ?_ ?_; (· omega); (· omega)) | (apply m_ld_pt; (· rfl); (· rfl); (· rfl)) | (refine m_fa rfl ?_))) | refine end_ops ?_ | refine seq_ops ?_ | refine AW_ops ?_ | (refine cond_t rfl ?_ ?_; (· first | rfl | assumption | (refine decide_eq_true ?_; first | assumption | omega) | (refine nt ?_; first | assumption | omega) | (simp [*]; done))) | (refine cond_f rfl ?_ ?_; (· first | rfl | assumption | (refine decide_eq_false ?_; first | assumption | omega) | (refine nf ?_; first | assumption | omega) | (simp [*]; done))) | refine AW_seq ?_ | refine norm_then ?_ | refine AW_block ?_)
      (refine step_ops ?_); (apply m_call (hc)); (· repeat (first | exact lends_nil | (refine lends_cons ?_ ?_; (· exact lend_v))))
      repeat (refine step_ops ?_; ((try (refine g_yes rfl ?_ ?_; (· first | rfl | assumption | (refine decide_eq_true ?_; first | assumption | omega) | (refine nt ?_; first | assumption | omega) | (simp [*]; done) | (refine decide_eq_false ?_; first | assumption | omega) | (refine nf ?_; first | assumption | omega)))); (first | (refine m_mov (by conv => lhs; whnf) ?_) | (apply m_ld_pt; (· rfl); (· rfl); (· rfl)) | (refine m_fa rfl ?_))))
      (refine step_ops ?_); (refine g_yes rfl ?_ ?_; (· first | (first | rfl | assumption | (refine decide_eq_true ?_; first | assumption | omega) | (refine nt ?_; first | assumption | omega) | (simp [*]; done)) | (first | rfl | assumption | (refine decide_eq_false ?_; first | assumption | omega) | (refine nf ?_; first | assumption | omega) | (simp [*]; done))); (apply m_call (l1In_spec b 0 1))); (· repeat (first | exact lends_nil | (refine lends_cons ?_ ?_; (· exact lend_v))))
      repeat (first | (refine step_ops ?_; (first | (refine m_mov (by conv => lhs; whnf) ?_) | (refine m_pick_t rfl ?_ (by conv => lhs; whnf) ?_; (· first | rfl | assumption | (refine decide_eq_true ?_; first | assumption | omega) | (refine nt ?_; first | assumption | omega) | (simp [*]; done))))) | refine end_ops ?_ | refine AW_ret ?_ | refine ret_done ?_ | refine ret_then ?_ | refine ret_block ?_)
      exact outs_b rfl
    · have hd : decide ((0 ≤ a ∧ a ≤ g - 1) ∧ (0 ≤ b ∧ b ≤ 1)) = false := by simp [ha]
      rw [hd]
      have hc := l1In_spec a 0 (g - 1)
      rw [decide_eq_false ha] at hc
      repeat (first | (refine step_ops ?_; (first | (refine m_mov (by conv => lhs; whnf) ?_) | (refine m_eql rfl rfl ?_) | (refine m_sub rfl rfl ?_ ?_ ?_; (· omega); (· omega)) | (apply m_ld_pt; (· rfl); (· rfl); (· rfl)) | (refine m_fa rfl ?_))) | refine end_ops ?_ | refine seq_ops ?_ | refine AW_ops ?_ | (refine cond_t rfl ?_ ?_; (· first | rfl | assumption | (refine decide_eq_true ?_; first | assumption | omega) | (refine nt ?_; first | assumption | omega) | (simp [*]; done))) | (refine cond_f rfl ?_ ?_; (· first | rfl | assumption | (refine decide_eq_false ?_; first | assumption | omega) | (refine nf ?_; first | assumption | omega) | (simp [*]; done))) | refine AW_seq ?_ | refine norm_then ?_ | refine AW_block ?_)
      (refine step_ops ?_); (apply m_call (hc)); (· repeat (first | exact lends_nil | (refine lends_cons ?_ ?_; (· exact lend_v))))
      repeat (first | (refine step_ops ?_; (first | (first | (refine m_mov (by conv => lhs; whnf) ?_) | (refine m_pick_f rfl ?_ (by conv => lhs; whnf) ?_; (· first | rfl | assumption | (refine decide_eq_false ?_; first | assumption | omega) | (refine nf ?_; first | assumption | omega) | (simp [*]; done)))) | (refine g_noT rfl ?_ ?_; (· first | rfl | assumption | (refine decide_eq_false ?_; first | assumption | omega) | (refine nf ?_; first | assumption | omega) | (simp [*]; done))))) | refine end_ops ?_ | refine AW_ret ?_ | refine ret_done ?_ | refine ret_then ?_ | refine ret_block ?_)
      exact outs_b rfl
  by_cases h5 : k = 5
  · have hi : IsClu g (k, a, b) ↔ (1 ≤ a ∧ a ≤ 6) ∧ b = 0 := by
      subst h5; exact isClu_5
    rw [decide_eq_decide.2 hi]
    by_cases ha : (1 ≤ a ∧ a ≤ 6)
    · have hd : decide ((1 ≤ a ∧ a ≤ 6) ∧ b = 0) = decide (b = 0) := by simp [ha]
      rw [hd]
      have hc := l1In_spec a 1 6
      rw [decide_eq_true ha] at hc
      repeat (first | (refine step_ops ?_; (first | (refine m_mov (by conv => lhs; whnf) ?_) | (refine m_eql rfl rfl ?_) | (apply m_ld_pt; (· rfl); (· rfl); (· rfl)) | (refine m_fa rfl ?_))) | refine end_ops ?_ | refine seq_ops ?_ | refine AW_ops ?_ | (refine cond_t rfl ?_ ?_; (· first | rfl | assumption | (refine decide_eq_true ?_; first | assumption | omega) | (refine nt ?_; first | assumption | omega) | (simp [*]; done))) | (refine cond_f rfl ?_ ?_; (· first | rfl | assumption | (refine decide_eq_false ?_; first | assumption | omega) | (refine nf ?_; first | assumption | omega) | (simp [*]; done))) | refine AW_seq ?_ | refine norm_then ?_ | refine AW_block ?_)
      (refine step_ops ?_); (apply m_call (hc)); (· repeat (first | exact lends_nil | (refine lends_cons ?_ ?_; (· exact lend_v))))
      repeat (first | (refine step_ops ?_; ((try (refine g_yes rfl ?_ ?_; (· first | rfl | assumption | (refine decide_eq_true ?_; first | assumption | omega) | (refine nt ?_; first | assumption | omega) | (simp [*]; done) | (refine decide_eq_false ?_; first | assumption | omega) | (refine nf ?_; first | assumption | omega)))); (first | (refine m_mov (by conv => lhs; whnf) ?_) | (refine m_eql rfl rfl ?_) | (apply m_ld_pt; (· rfl); (· rfl); (· rfl)) | (refine m_pick_t rfl ?_ (by conv => lhs; whnf) ?_; (· first | rfl | assumption | (refine decide_eq_true ?_; first | assumption | omega) | (refine nt ?_; first | assumption | omega) | (simp [*]; done))) | (refine m_fa rfl ?_)))) | refine end_ops ?_ | refine AW_ret ?_ | refine ret_done ?_ | refine ret_then ?_ | refine ret_block ?_)
      exact outs_b rfl
    · have hd : decide ((1 ≤ a ∧ a ≤ 6) ∧ b = 0) = false := by simp [ha]
      rw [hd]
      have hc := l1In_spec a 1 6
      rw [decide_eq_false ha] at hc
      repeat (first | (refine step_ops ?_; (first | (refine m_mov (by conv => lhs; whnf) ?_) | (refine m_eql rfl rfl ?_) | (apply m_ld_pt; (· rfl); (· rfl); (· rfl)) | (refine m_fa rfl ?_))) | refine end_ops ?_ | refine seq_ops ?_ | refine AW_ops ?_ | (refine cond_t rfl ?_ ?_; (· first | rfl | assumption | (refine decide_eq_true ?_; first | assumption | omega) | (refine nt ?_; first | assumption | omega) | (simp [*]; done))) | (refine cond_f rfl ?_ ?_; (· first | rfl | assumption | (refine decide_eq_false ?_; first | assumption | omega) | (refine nf ?_; first | assumption | omega) | (simp [*]; done))) | refine AW_seq ?_ | refine norm_then ?_ | refine AW_block ?_)
      (refine step_ops ?_); (apply m_call (hc)); (· repeat (first | exact lends_nil | (refine lends_cons ?_ ?_; (· exact lend_v))))
      repeat (first | (refine step_ops ?_; (first | (first | (refine m_mov (by conv => lhs; whnf) ?_) | (refine m_pick_f rfl ?_ (by conv => lhs; whnf) ?_; (· first | rfl | assumption | (refine decide_eq_false ?_; first | assumption | omega) | (refine nf ?_; first | assumption | omega) | (simp [*]; done)))) | (refine g_noT rfl ?_ ?_; (· first | rfl | assumption | (refine decide_eq_false ?_; first | assumption | omega) | (refine nf ?_; first | assumption | omega) | (simp [*]; done))))) | refine end_ops ?_ | refine AW_ret ?_ | refine ret_done ?_ | refine ret_then ?_ | refine ret_block ?_)
      exact outs_b rfl
  rw [decide_eq_false (isClu_no (g := g) (a := a) (b := b) (show ¬ (0 ≤ k ∧ k ≤ 5) by omega))]
  repeat (first | (refine step_ops ?_; (first | (refine m_mov (by conv => lhs; whnf) ?_) | (refine m_eql rfl rfl ?_) | (apply m_ld_pt; (· rfl); (· rfl); (· rfl)) | (refine m_fa rfl ?_))) | refine end_ops ?_ | refine seq_ops ?_ | refine AW_ops ?_ | (refine cond_f rfl ?_ ?_; (· first | rfl | assumption | (refine decide_eq_false ?_; first | assumption | omega) | (refine nf ?_; first | assumption | omega) | (simp [*]; done))) | refine AW_seq ?_ | refine AW_ret ?_ | refine ret_done ?_ | refine norm_then ?_ | refine AW_block ?_ | refine norm_block ?_ | refine AW_skip ?_)
  exact outs_b rfl
theorem m_ldClu {P : Program} {own : Bool} {s : AS} {K : AS → Prop} {d : Option Nat} {x : Opd} {C : List Clu} {k : Nat} {c1 c2 c3 : Int} (h : k < C.length) (e : C.getD k (0, 0, 0) = (c1, c2, c3)) (hx : s.ev x = .rp ((cls C).drop (((k : Nat) : Int).toNat * 3))) (kk : K (s.put d (.agg [.i c1, .i c2, .i c3]))) : aop1 P own ⟨d, .ld (some 3) x, none⟩ s K := by
  rw [Int.toNat_natCast] at hx
  refine m_ldk_rp hx ?_ ?_
  · rw [List.length_drop, cls_len]; omega
  · rw [cls_at h, e]; exact kk
theorem pzGood_spec (g : Int) (C : List Clu) : Sp Try.prog 22 [pzl g C] (.b (decide (IsPz g C))) := by
  refine spec_of Try.func22 rfl cc22 rfl ?_
  unfold ac22
  by_cases hg : PzN g
  · have hgu := pzGuests_spec g
    rw [decide_eq_true hg] at hgu
    by_cases h6 : C.length ≤ 6
    · repeat (first | (refine step_ops ?_; (first | (refine m_mov (by conv => lhs; whnf) ?_) | (apply m_ld_pt; (· rfl); (· rfl); (· rfl)) | (refine m_fa rfl ?_) | (refine m_box rfl ?_ ?_; (· first | rfl | (simp [cellOk, Value.oneCell']; done))))) | refine end_ops ?_ | refine seq_ops ?_ | refine AW_seq ?_)
      (refine step_ops ?_); (apply m_call (hgu)); (· repeat (first | exact lends_nil | (refine lends_cons ?_ ?_; (· exact lend_v))))
      repeat (first | (refine step_ops ?_; ((try (refine g_yes rfl ?_ ?_; (· first | rfl | assumption | (refine decide_eq_true ?_; first | assumption | omega) | (refine nt ?_; first | assumption | omega) | (simp [*]; done) | (refine decide_eq_false ?_; first | assumption | omega) | (refine nf ?_; first | assumption | omega)))); (first | (refine m_mov (by conv => lhs; whnf) ?_) | (refine m_gtr rfl rfl ?_) | (refine m_not rfl ?_) | (refine m_len_ro rfl ?_) | (apply m_ld_pt; (· rfl); (· rfl); (· rfl)) | (refine m_pick_f rfl ?_ (by conv => lhs; whnf) ?_; (· first | rfl | assumption | (refine decide_eq_false ?_; first | assumption | omega) | (refine nf ?_; first | assumption | omega) | (simp [*]; done))) | (refine m_fa rfl ?_)))) | refine end_ops ?_ | refine seq_ops ?_ | (refine cond_f rfl ?_ ?_; (· first | rfl | assumption | (refine decide_eq_false ?_; first | assumption | omega) | (refine nf ?_; first | assumption | omega) | (simp [*]; done))) | refine skip_then ?_ | refine AW_seq ?_ | refine AW_block ?_)
      refine AW_loop (α := Nat) (fun k => k ≤ C.length ∧ ∀ c ∈ C.take k, IsClu g c) (fun k => st [(1, .pt 1 0), (16, .ro false 3 (cls C) C.length), (17, .i C.length), (18, .i k)] [(1, (true, [.i g, .ro false 3 (cls C) C.length]))]) (fun k => C.length - k) 0 ⟨Nat.zero_le _, by simp⟩ (weak_st ?_ ?_ rfl rfl) ?_
      · (repeat' (first | exact trivial | refine And.intro ?_ ?_)) <;> (first | rfl | skip)
      · (repeat' (first | exact trivial | refine And.intro ?_ ?_)) <;> (first | rfl | skip)
      rintro k ⟨hk, hI⟩
      by_cases h : k < C.length
      · have hsn := take_snoc C k (0, 0, 0) h
        have hmem := getD_memL (d := ((0, 0, 0) : Clu)) h
        rcases hce : C.getD k (0, 0, 0) with ⟨c1, c2, c3⟩
        rw [hce] at hsn hmem
        have hcl := pzClue_spec g c1 c2 c3 hg
        by_cases hc : IsClu g (c1, c2, c3)
        · rw [decide_eq_true hc] at hcl
          repeat (first | (refine step_ops ?_; (first | (refine m_lss rfl rfl ?_) | (refine m_idx_ro rfl rfl ?_ ?_ ?_; (· omega); (· omega)))) | refine end_ops ?_ | refine seq_ops ?_ | (refine cond_t rfl ?_ ?_; (· first | rfl | assumption | (refine decide_eq_true ?_; first | assumption | omega) | (refine nt ?_; first | assumption | omega) | (simp [*]; done))) | refine skip_then ?_ | refine AW_seq ?_ | refine AW_block ?_)
          refine step_ops ?_
          refine m_ldClu h hce rfl ?_
          repeat (first | (refine step_ops ?_; (first | (apply m_ld_pt; (· rfl); (· rfl); (· rfl)) | (refine m_alloc ?_) | (refine m_fa rfl ?_) | (refine m_ldall rfl rfl ?_ ?_; (· first | rfl | (simp; done) | (simp [*]; done))) | (refine m_stall rfl rfl rfl ?_ ?_ ?_ ?_; (· first | rfl | (simp [*]; done)); (· first | rfl | (simp [*]; done)); (· first | rfl | (simp [cellOk, Value.oneCell']; done))))) | refine end_ops ?_ | refine seq_ops ?_)
          (refine step_ops ?_); (apply m_call (hcl)); (· repeat (first | exact lends_nil | (refine lends_cons ?_ ?_; (· (first | exact lend_v | (refine lend_agg ?_; first | rfl | assumption | (simp [plainV]; done)))))))
          repeat (first | (refine step_ops ?_; (first | (refine m_mov (by conv => lhs; whnf) ?_) | (refine m_add rfl rfl ?_ ?_ ?_; (· omega); (· omega)) | (refine m_not rfl ?_))) | refine end_ops ?_ | refine AW_ops ?_ | (refine cond_f rfl ?_ ?_; (· first | rfl | assumption | (refine decide_eq_false ?_; first | assumption | omega) | (refine nf ?_; first | assumption | omega) | (simp [*]; done))) | refine norm_then ?_ | refine norm_block ?_ | refine AW_skip ?_)
          refine next_round (k + 1) ⟨h, fun c hcm => ?_⟩ (weak_st ?_ ?_ rfl rfl) ?_
          · rw [hsn] at hcm
            rcases List.mem_append.1 hcm with hcm | hcm
            · exact hI c hcm
            · rw [List.mem_singleton.1 hcm]; exact hc
          · (repeat' (first | exact trivial | refine And.intro ?_ ?_)) <;> (first | rfl | skip)
          · (repeat' (first | exact trivial | refine And.intro ?_ ?_)) <;> (first | rfl | skip)
          · omega
        · rw [decide_eq_false hc] at hcl
          rw [decide_eq_false (show ¬ IsPz g C from fun hp => hc (hp.2.2 _ hmem))]
          repeat (first | (refine step_ops ?_; (first | (refine m_lss rfl rfl ?_) | (refine m_idx_ro rfl rfl ?_ ?_ ?_; (· omega); (· omega)))) | refine end_ops ?_ | refine seq_ops ?_ | (refine cond_t rfl ?_ ?_; (· first | rfl | assumption | (refine decide_eq_true ?_; first | assumption | omega) | (refine nt ?_; first | assumption | omega) | (simp [*]; done))) | refine skip_then ?_ | refine AW_seq ?_ | refine AW_block ?_)
          refine step_ops ?_
          refine m_ldClu h hce rfl ?_
          repeat (first | (refine step_ops ?_; (first | (apply m_ld_pt; (· rfl); (· rfl); (· rfl)) | (refine m_alloc ?_) | (refine m_fa rfl ?_) | (refine m_ldall rfl rfl ?_ ?_; (· first | rfl | (simp; done) | (simp [*]; done))) | (refine m_stall rfl rfl rfl ?_ ?_ ?_ ?_; (· first | rfl | (simp [*]; done)); (· first | rfl | (simp [*]; done)); (· first | rfl | (simp [cellOk, Value.oneCell']; done))))) | refine end_ops ?_ | refine seq_ops ?_)
          (refine step_ops ?_); (apply m_call (hcl)); (· repeat (first | exact lends_nil | (refine lends_cons ?_ ?_; (· (first | exact lend_v | (refine lend_agg ?_; first | rfl | assumption | (simp [plainV]; done)))))))
          repeat (first | (refine step_ops ?_; (first | (refine m_mov (by conv => lhs; whnf) ?_) | (refine m_not rfl ?_))) | refine end_ops ?_ | refine seq_ops ?_ | (refine cond_t rfl ?_ ?_; (· first | rfl | assumption | (refine decide_eq_true ?_; first | assumption | omega) | (refine nt ?_; first | assumption | omega) | (simp [*]; done))) | refine AW_ret ?_ | refine ret_done ?_ | refine ret_then ?_ | refine ret_block ?_ | refine ret_round ?_)
          exact outs_b rfl
      · obtain rfl : k = C.length := by omega
        rw [List.take_length] at hI
        rw [decide_eq_true (show IsPz g C from ⟨hg, h6, hI⟩)]
        repeat (first | (refine step_ops ?_; (first | (refine m_mov (by conv => lhs; whnf) ?_) | (refine m_lss rfl rfl ?_))) | refine end_ops ?_ | refine seq_ops ?_ | (refine cond_f rfl ?_ ?_; (· first | rfl | assumption | (refine decide_eq_false ?_; first | assumption | omega) | (refine nf ?_; first | assumption | omega) | (simp [*]; done))) | refine AW_seq ?_ | refine AW_ret ?_ | refine ret_done ?_ | refine norm_then ?_ | refine exit_then ?_ | refine exit_round ?_ | refine AW_exit ?_ | refine exit_block ?_)
        exact outs_b rfl
    · rw [decide_eq_false (show ¬ IsPz g C from fun h => h6 h.2.1)]
      repeat (first | (refine step_ops ?_; (first | (refine m_mov (by conv => lhs; whnf) ?_) | (apply m_ld_pt; (· rfl); (· rfl); (· rfl)) | (refine m_fa rfl ?_) | (refine m_box rfl ?_ ?_; (· first | rfl | (simp [cellOk, Value.oneCell']; done))))) | refine end_ops ?_ | refine seq_ops ?_ | refine AW_seq ?_)
      (refine step_ops ?_); (apply m_call (hgu)); (· repeat (first | exact lends_nil | (refine lends_cons ?_ ?_; (· exact lend_v))))
      repeat (first | (refine step_ops ?_; ((try (refine g_yes rfl ?_ ?_; (· first | rfl | assumption | (refine decide_eq_true ?_; first | assumption | omega) | (refine nt ?_; first | assumption | omega) | (simp [*]; done) | (refine decide_eq_false ?_; first | assumption | omega) | (refine nf ?_; first | assumption | omega)))); (first | (refine m_mov (by conv => lhs; whnf) ?_) | (refine m_gtr rfl rfl ?_) | (refine m_not rfl ?_) | (refine m_len_ro rfl ?_) | (apply m_ld_pt; (· rfl); (· rfl); (· rfl)) | (refine m_pick_f rfl ?_ (by conv => lhs; whnf) ?_; (· first | rfl | assumption | (refine decide_eq_false ?_; first | assumption | omega) | (refine nf ?_; first | assumption | omega) | (simp [*]; done))) | (refine m_fa rfl ?_)))) | refine end_ops ?_ | refine seq_ops ?_ | (refine cond_t rfl ?_ ?_; (· first | rfl | assumption | (refine decide_eq_true ?_; first | assumption | omega) | (refine nt ?_; first | assumption | omega) | (simp [*]; done))) | refine AW_ret ?_ | refine ret_done ?_ | refine ret_then ?_)
      exact outs_b rfl
  · have hgu := pzGuests_spec g
    rw [decide_eq_false hg] at hgu
    rw [decide_eq_false (show ¬ IsPz g C from fun h => hg h.1)]
    repeat (first | (refine step_ops ?_; (first | (refine m_mov (by conv => lhs; whnf) ?_) | (apply m_ld_pt; (· rfl); (· rfl); (· rfl)) | (refine m_fa rfl ?_) | (refine m_box rfl ?_ ?_; (· first | rfl | (simp [cellOk, Value.oneCell']; done))))) | refine end_ops ?_ | refine seq_ops ?_ | refine AW_seq ?_)
    (refine step_ops ?_); (apply m_call (hgu)); (· repeat (first | exact lends_nil | (refine lends_cons ?_ ?_; (· exact lend_v))))
    repeat (first | (refine step_ops ?_; (first | (first | (refine m_mov (by conv => lhs; whnf) ?_) | (refine m_not rfl ?_) | (refine m_pick_t rfl ?_ (by conv => lhs; whnf) ?_; (· first | rfl | assumption | (refine decide_eq_true ?_; first | assumption | omega) | (refine nt ?_; first | assumption | omega) | (simp [*]; done)))) | (refine g_noF rfl ?_ ?_; (· first | rfl | assumption | (refine decide_eq_true ?_; first | assumption | omega) | (refine nt ?_; first | assumption | omega) | (simp [*]; done))))) | refine end_ops ?_ | refine seq_ops ?_ | (refine cond_t rfl ?_ ?_; (· first | rfl | assumption | (refine decide_eq_true ?_; first | assumption | omega) | (refine nt ?_; first | assumption | omega) | (simp [*]; done))) | refine AW_ret ?_ | refine ret_done ?_ | refine ret_then ?_)
    exact outs_b rfl
end Go.Proofs.Yteiipnadhalnbaa
namespace Go.Am
def cap : Nat → Int
  | 0 => 479001600
  | s + 1 => 2 * cap s
end Go.Am
namespace Go.Am
/-- How many numbers below n are told. -/
def cnt (p : Nat → Bool) : Nat → Nat
  | 0 => 0
  | n + 1 => cnt p n + if p n then 1 else 0
theorem cnt_congr {p q : Nat → Bool} {n : Nat} (h : ∀ k < n, p k = q k) : cnt p n = cnt q n := by
  induction n with
  | zero => rfl
  | succ n ih => simp only [cnt]; rw [ih fun k hk => h k (by omega), h n (by omega)]
theorem cnt_drop {p q : Nat → Bool} {n c : Nat} (hc : c < n) (hp : p c = true) (hq : q c = false) (h : ∀ k < n, k ≠ c → p k = q k) : cnt q n + 1 = cnt p n := by
  induction n with
  | zero => omega
  | succ n ih =>
    simp only [cnt]
    by_cases e : c = n
    · subst e
      rw [hp, hq, cnt_congr (p := q) (q := p) fun k hk => (h k (by omega) (by omega)).symm]
      simp
    · have := ih (by omega) fun k hk hkc => h k (by omega) hkc
      rw [h n (by omega) (by omega)]
      omega
/-- How many of the numbers a, a + 1, .., k of them, are not in a list. -/
def freeTo (M : List Int) (a k : Nat) : Nat := cnt (fun n => decide (((a + n : Nat) : Int) ∉ M)) k
theorem freeTo_in (M : List Int) (a k x : Nat) (h : a ≤ x) (h2 : x < a + k) (hx : (x : Int) ∉ M) : freeTo (M ++ [(x : Int)]) a k + 1 = freeTo M a k := by
  refine cnt_drop (c := x - a) (by omega) ?_ ?_ fun n hn hne => ?_
  · have e : a + (x - a) = x := by omega
    rw [e]; exact decide_eq_true hx
  · have e : a + (x - a) = x := by omega
    rw [e]; refine decide_eq_false ?_; simp
  · have : ¬ ((a + n : Nat) : Int) = (x : Int) := by omega
    simp only [List.mem_append, List.mem_singleton, this, or_false]
/-- Numbers below g, each once. -/
def Part (M : List Int) (g : Nat) : Prop := (∀ x ∈ M, 0 ≤ x ∧ x < g) ∧ M.Nodup
theorem freeTo_part (M : List Int) (g : Nat) (h : Part M g) : freeTo M 0 g + M.length = g := by
  suffices hh : ∀ (n : Nat) (M : List Int), M.length = n → Part M g → freeTo M 0 g + M.length = g from hh _ M rfl h
  intro n
  induction n with
  | zero =>
    intro M hM _
    have : M = [] := List.eq_nil_of_length_eq_zero hM
    subst this
    have : freeTo [] 0 g = g := by
      unfold freeTo
      clear h
      induction g with
      | zero => rfl
      | succ g ih => simp only [cnt]; rw [ih ⟨by simp, by simp⟩]; simp
    simp [this]
  | succ n ih =>
    intro M hM hp
    have hne : M ≠ [] := fun e => by rw [e] at hM; simp at hM
    have e := List.dropLast_concat_getLast hne
    have hg := hp.1 _ (List.getLast_mem hne)
    obtain ⟨x, hx⟩ := Int.eq_ofNat_of_zero_le hg.1
    rw [hx] at e hg
    have hl : M.dropLast.length = n := by simp [hM]
    have hnd : (M.dropLast ++ [(x : Int)]).Nodup := by rw [e]; exact hp.2
    have hxn : (x : Int) ∉ M.dropLast := by
      rw [List.nodup_append] at hnd
      exact fun hm => hnd.2.2 _ hm _ (List.mem_singleton.2 rfl) rfl
    have hp' : Part M.dropLast g := ⟨fun y hy => hp.1 y (List.dropLast_subset _ hy), (List.nodup_append.1 hnd).1⟩
    have h1 := ih M.dropLast hl hp'
    have h2 := freeTo_in M.dropLast 0 g x (by omega) (by omega) hxn
    rw [e] at h2
    omega
/-- May the guest i behind those of M take x? -/
def MayTake (M : List Int) (i x : Nat) : Prop := x ≠ i ∧ (x : Int) ∉ M
instance (M : List Int) (i x : Nat) : Decidable (MayTake M i x) := inferInstanceAs (Decidable (_ ∧ _))
end Go.Am
namespace Go.Am
/-- A list with each number below its length once. -/
def IsPm (L : List Int) : Prop := (∀ x ∈ L, 0 ≤ x ∧ x < L.length) ∧ L.Nodup
/-- The next one, and the one behind k steps. -/
def nx (L : List Int) (j : Nat) : Nat := (L.getD j 0).toNat
def it (L : List Int) : Nat → Nat → Nat
  | 0, i => i
  | k + 1, i => nx L (it L k i)
theorem nx_lt {L : List Int} (h : IsPm L) {j : Nat} (hj : j < L.length) : nx L j < L.length ∧ L.getD j 0 = (nx L j : Int) := by
  have h1 : L.getD j 0 ∈ L := by simp [hj]
  have := h.1 _ h1
  unfold nx
  omega
theorem nx_inj {L : List Int} (h : IsPm L) {i j : Nat} (hi : i < L.length) (hj : j < L.length) (e : nx L i = nx L j) : i = j := by
  have h1 := (nx_lt h hi).2
  have h2 := (nx_lt h hj).2
  rw [e, ← h2] at h1
  have e1 : L[i]? = L[j]? := by
    rw [List.getElem?_eq_getElem hi, List.getElem?_eq_getElem hj]
    simpa [hi, hj] using h1
  exact (List.getElem?_inj hi h.2).1 e1
theorem it_lt {L : List Int} (h : IsPm L) {i : Nat} (hi : i < L.length) (k : Nat) : it L k i < L.length := by
  induction k with
  | zero => exact hi
  | succ k ih => exact (nx_lt h ih).1
theorem it_add (L : List Int) (a b i : Nat) : it L (a + b) i = it L a (it L b i) := by
  induction a with
  | zero => rw [Nat.zero_add]; rfl
  | succ a ih => rw [Nat.succ_add]; simp only [it]; rw [ih]
theorem it_inj {L : List Int} (h : IsPm L) (a : Nat) {i j : Nat} (hi : i < L.length) (hj : j < L.length) (e : it L a i = it L a j) : i = j := by
  induction a with
  | zero => exact e
  | succ a ih => exact ih (nx_inj h (it_lt h hi a) (it_lt h hj a) e)
/-- The length of the chain. -/
def perA (L : List Int) (i : Nat) : Nat → Nat → Nat
  | 0, k => k
  | f + 1, k => if it L k i = i then k else perA L i f (k + 1)
def per (L : List Int) (i : Nat) : Nat := perA L i L.length 1
theorem perA_spec {L : List Int} {i : Nat} {f k m : Nat} (hm : m = k + f) (hex : ∃ q, k ≤ q ∧ q < m ∧ it L q i = i) : (∀ q, k ≤ q → q < perA L i f k → it L q i ≠ i) ∧ it L (perA L i f k) i = i ∧ k ≤ perA L i f k ∧ perA L i f k < m := by
  induction f generalizing k with
  | zero => obtain ⟨q, h1, h2, _⟩ := hex; omega
  | succ f ih =>
    simp only [perA]
    by_cases e : it L k i = i
    · rw [if_pos e]
      exact ⟨fun q h1 h2 => by omega, e, Nat.le_refl _, by omega⟩
    · rw [if_neg e]
      obtain ⟨q, h1, h2, h3⟩ := hex
      have hq : k + 1 ≤ q := by
        rcases Nat.lt_or_ge k q with h4 | h4
        · exact h4
        · have : q = k := by omega
          rw [this] at h3; exact absurd h3 e
      obtain ⟨h4, h5, h6, h7⟩ := ih (k := k + 1) (by omega) ⟨q, hq, h2, h3⟩
      refine ⟨fun q h8 h9 => ?_, h5, by omega, h7⟩
      rcases Nat.lt_or_ge k q with h10 | h10
      · exact h4 q (by omega) h9
      · have : q = k := by omega
        rw [this]; exact e
theorem per_ex {L : List Int} (h : IsPm L) {i : Nat} (hi : i < L.length) : ∃ q, 1 ≤ q ∧ q < 1 + L.length ∧ it L q i = i := by
  refine Classical.byContradiction fun hno => ?_
  have hne : ∀ q, 1 ≤ q → q < 1 + L.length → it L q i ≠ i := fun q h1 h2 h3 => hno ⟨q, h1, h2, h3⟩
  have hdist : ∀ a b, a < b → b ≤ L.length → it L a i ≠ it L b i := by
    intro a b hab hb e
    have e2 : b = a + (b - a) := by omega
    rw [e2, it_add] at e
    exact hne (b - a) (by omega) (by omega) (it_inj h a hi (it_lt h hi _) e).symm
  have hpart : Part ((List.range (L.length + 1)).map fun k => ((it L k i : Nat) : Int)) L.length := by
    refine ⟨fun x hx => ?_, ?_⟩
    · rw [List.mem_map] at hx
      obtain ⟨k, _, rfl⟩ := hx
      have := it_lt h hi k
      omega
    · rw [List.Nodup, List.pairwise_map]
      refine List.Pairwise.imp_of_mem ?_ (List.pairwise_lt_range (n := L.length + 1))
      intro a b ha hb hab e
      rw [List.mem_range] at hb
      exact hdist a b hab (by omega) (by omega)
  have := freeTo_part _ _ hpart
  simp at this
  omega
theorem per_spec {L : List Int} (h : IsPm L) {i : Nat} (hi : i < L.length) : 1 ≤ per L i ∧ per L i ≤ L.length ∧ it L (per L i) i = i ∧ ∀ q, 1 ≤ q → q < per L i → it L q i ≠ i := by
  obtain ⟨h1, h2, h3, h4⟩ := perA_spec (f := L.length) (k := 1) rfl (per_ex h hi)
  exact ⟨h3, by unfold per; omega, h2, h1⟩
theorem per_dist {L : List Int} (h : IsPm L) {i : Nat} (hi : i < L.length) {a b : Nat} (hab : a < b) (hb : b < per L i) : it L a i ≠ it L b i := by
  intro e
  have e2 : b = a + (b - a) := by omega
  rw [e2, it_add] at e
  exact (per_spec h hi).2.2.2 (b - a) (by omega) (by omega) (it_inj h a hi (it_lt h hi _) e).symm
theorem it_mul {L : List Int} (h : IsPm L) {i : Nat} (hi : i < L.length) (c : Nat) : it L (per L i * c) i = i := by
  induction c with
  | zero => rfl
  | succ c ih => rw [Nat.mul_succ, it_add, (per_spec h hi).2.2.1, ih]
theorem it_mod {L : List Int} (h : IsPm L) {i : Nat} (hi : i < L.length) (k : Nat) : it L k i = it L (k % per L i) i := by
  have := it_mul h hi (k / per L i)
  conv => lhs; rw [← Nat.mod_add_div k (per L i), it_add, this]
/-- Is j on the chain of m? -/
def onC (L : List Int) (m j : Nat) : Prop := ∃ k, it L k m = j
theorem onC_lt {L : List Int} (h : IsPm L) {m j : Nat} (hm : m < L.length) : onC L m j ↔ ∃ k, k < per L m ∧ it L k m = j := by
  constructor
  · rintro ⟨k, hk⟩
    exact ⟨k % per L m, Nat.mod_lt _ (per_spec h hm).1, by rw [← it_mod h hm]; exact hk⟩
  · rintro ⟨k, _, hk⟩
    exact ⟨k, hk⟩
theorem onC_symm {L : List Int} (h : IsPm L) {m j : Nat} (hm : m < L.length) (ho : onC L m j) : onC L j m := by
  obtain ⟨k, rfl⟩ := ho
  refine ⟨per L m * k - k, ?_⟩
  rw [← it_add]
  have : k ≤ per L m * k := Nat.le_mul_of_pos_left k (per_spec h hm).1
  rw [Nat.sub_add_cancel this, it_mul h hm]
theorem onC_trans {L : List Int} {a b c : Nat} (h1 : onC L a b) (h2 : onC L b c) : onC L a c := by
  obtain ⟨k, rfl⟩ := h1
  obtain ⟨l, rfl⟩ := h2
  exact ⟨l + k, it_add L l k a⟩
/-- Is j on a chain of one of the first i? -/
def seenB (L : List Int) (i j : Nat) : Bool := (List.range i).any fun m => (List.range L.length).any fun k => it L k m == j
theorem seenB_iff {L : List Int} (h : IsPm L) {i j : Nat} (hi : i ≤ L.length) : seenB L i j = true ↔ ∃ m, m < i ∧ onC L m j := by
  unfold seenB
  simp only [List.any_eq_true, List.mem_range, beq_iff_eq]
  constructor
  · rintro ⟨m, hm, k, _, hk⟩
    exact ⟨m, hm, k, hk⟩
  · rintro ⟨m, hm, ho⟩
    obtain ⟨k, hk, he⟩ := (onC_lt h (by omega)).1 ho
    exact ⟨m, hm, k, by have := (per_spec h (show m < L.length by omega)).2.1; omega, he⟩
/-- The first k of a chain, asx numbers. -/
def chT (L : List Int) (i k : Nat) : List Int := (List.range k).map fun a => ((it L a i : Nat) : Int)
theorem chT_len (L : List Int) (i k : Nat) : (chT L i k).length = k := by simp [chT]
theorem chT_succ (L : List Int) (i k : Nat) : chT L i (k + 1) = chT L i k ++ [((it L k i : Nat) : Int)] := by simp [chT, List.range_succ]
/-- The whole chain. -/
def chn (L : List Int) (i : Nat) : List Int := chT L i (per L i)
/-- The chains that begin with one of the first i. -/
def chsTo (L : List Int) : Nat → List (List Int)
  | 0 => []
  | i + 1 => if seenB L i i then chsTo L i else chsTo L i ++ [chn L i]
theorem chsTo_len (L : List Int) (i : Nat) : (chsTo L i).length ≤ i := by
  induction i with
  | zero => simp [chsTo]
  | succ i ih =>
    simp only [chsTo]
    split
    · omega
    · rw [List.length_append, List.length_singleton]; omega
def chs (L : List Int) : List (List Int) := chsTo L L.length
/-- Marked: all on chains of the first i, and the first k on the chain of i. -/
def seenK (L : List Int) (i k n : Nat) : List Bool := (List.range n).map fun j => seenB L i j || (List.range k).any fun a => it L a i == j
theorem seenK_len (L : List Int) (i k n : Nat) : (seenK L i k n).length = n := by simp [seenK]
theorem seenK_get (L : List Int) (i k n : Nat) {j : Nat} (hj : j < n) : (seenK L i k n)[j]? = some (seenB L i j || (List.range k).any fun a => it L a i == j) := by simp [seenK, hj]
theorem seenK_set (L : List Int) (i k n : Nat) (h : it L k i < n) : (seenK L i k n).set (it L k i) true = seenK L i (k + 1) n := by
  apply List.ext_getElem?
  intro j
  rw [List.getElem?_set]
  by_cases hj : j < n
  · rw [seenK_get _ _ _ _ hj, seenK_get _ _ _ _ hj, seenK_len, List.range_succ, List.any_append]
    by_cases e : it L k i = j
    · subst e; simp [h]
    · have e' : (it L k i == j) = false := by simpa using e
      simp [e, e']
  · by_cases e : it L k i = j
    · omega
    · simp [seenK, hj, e]
theorem seenK_zero (L : List Int) (i n : Nat) : seenK L i 0 n = (List.range n).map fun j => seenB L i j := by simp [seenK]
theorem seenK_all {L : List Int} (h : IsPm L) {i n : Nat} (hi : i < L.length) : seenK L i (per L i) n = seenK L (i + 1) 0 n := by
  rw [seenK_zero]
  unfold seenK
  refine List.map_congr_left fun j _ => ?_
  rw [Bool.eq_iff_iff, Bool.or_eq_true, seenB_iff h (by omega), seenB_iff h (by omega)]
  simp only [List.any_eq_true, List.mem_range, beq_iff_eq]
  rw [← onC_lt h hi]
  constructor
  · rintro (⟨m, h1, h2⟩ | h1)
    · exact ⟨m, by omega, h2⟩
    · exact ⟨i, by omega, h1⟩
  · rintro ⟨m, h1, h2⟩
    by_cases e : m = i
    · exact .inr (e ▸ h2)
    · exact .inl ⟨m, by omega, h2⟩
theorem seenK_skip {L : List Int} (h : IsPm L) {i n : Nat} (hi : i < L.length) (hs : seenB L i i = true) : seenK L i 0 n = seenK L (i + 1) 0 n := by
  rw [seenK_zero, seenK_zero]
  refine List.map_congr_left fun j _ => ?_
  rw [Bool.eq_iff_iff, seenB_iff h (by omega), seenB_iff h (by omega)]
  obtain ⟨m, h1, h2⟩ := (seenB_iff h (by omega)).1 hs
  constructor
  · rintro ⟨m, h1, h2⟩
    exact ⟨m, by omega, h2⟩
  · rintro ⟨q, h3, h4⟩
    by_cases e : q = i
    · exact ⟨m, h1, onC_trans h2 (e ▸ h4)⟩
    · exact ⟨q, by omega, h4⟩
/-- On the way along a chain that is new nothing is marked, up to its end. -/
theorem seenK_not {L : List Int} (h : IsPm L) {i n k : Nat} (hi : i < L.length) (hs : seenB L i i = false) (hk : k < per L i) (hn : L.length ≤ n) : (seenK L i k n)[it L k i]? = some false := by
  have hlt := it_lt h hi k
  rw [seenK_get _ _ _ _ (by omega)]
  congr 1
  rw [Bool.or_eq_false_iff]
  constructor
  · rw [Bool.eq_false_iff]
    intro hh
    obtain ⟨m, h1, h2⟩ := (seenB_iff h (by omega)).1 hh
    have : seenB L i i = true := (seenB_iff h (by omega)).2 ⟨m, h1, onC_trans h2 (onC_symm h hi ⟨k, rfl⟩)⟩
    rw [hs] at this; cases this
  · rw [Bool.eq_false_iff]
    intro hh
    simp only [List.any_eq_true, List.mem_range, beq_iff_eq] at hh
    obtain ⟨a, h1, h2⟩ := hh
    exact per_dist h hi h1 hk h2
theorem seenK_end {L : List Int} (h : IsPm L) {i n : Nat} (hi : i < L.length) (hn : L.length ≤ n) : (seenK L i (per L i) n)[it L (per L i) i]? = some true := by
  have hp := per_spec h hi
  have hlt := it_lt h hi (per L i)
  rw [seenK_get _ _ _ _ (by omega)]
  congr 1
  rw [Bool.or_eq_true]
  right
  simp only [List.any_eq_true, List.mem_range, beq_iff_eq]
  exact ⟨0, hp.1, by rw [hp.2.2.1]; rfl⟩
end Go.Am
namespace Go.Proofs.Yteiipnadhalnbaa
open Go.Am
attribute [local irreducible] AW Outs Weak Lends Lend Sp aops atree aop1 Then Round InBlock Done
attribute [local irreducible] SpH DoneH
theorem ex_pm {L : List Int} (h : IsEx L) : IsPm L := ⟨h.2.2.1, h.2.2.2⟩
theorem exChains_spec (L : List Int) (h : IsEx L) : SpH Try.prog 49 [ints L] (fun _ => none) (.sl nbase 1 0 (chs L).length) (matO (chs L)) := by
  have hp := ex_pm h
  have h12 := h.2.1
  have hpb : pbase = 4000000 := rfl
  refine specH_of Try.func49 rfl cc49 rfl (by first | exact static_mat1 _ | exact static_mat2 _ _ | assumption) ?_
  unfold ac49
  repeat (first | (refine step_ops ?_; (first | (refine m_mov (by conv => lhs; whnf) ?_) | (refine m_len_ro rfl ?_) | (refine m_nils ?_))) | refine end_ops ?_ | refine seq_ops ?_)
  refine step_ops ?_
  refine m_mk rfl rfl (by omega) (by omega) ?_
  repeat (first | (refine step_ops ?_; (first | (refine m_mov (by conv => lhs; whnf) ?_) | (refine m_len_ro rfl ?_) | (refine m_nils ?_))) | refine end_ops ?_ | refine seq_ops ?_ | refine AW_seq ?_ | refine AW_block ?_)
  refine AW_loop (α := Nat) (fun i => i ≤ L.length) (fun i => stM [(0, ints L), (3, .sl 10 1 0 L.length), (4, .sl 4 1 0 (chsTo L i).length), (11, ints L), (12, .i L.length), (13, .i i)] [(10, (true, (seenK L i 0 L.length).map AV.b))] 4 1000 (chsTo L i)) (fun i => L.length - i) 0 (by omega)
    (weak_keep id ?_ ?_ rfl rfl rfl (.inl (by simp [chsTo, pbase])) rfl rfl rfl (.inr ⟨rfl, rfl⟩) (fun j hj => by simp [chsTo] at hj)) ?_
  · (repeat' (first | exact trivial | refine And.intro ?_ ?_)) <;> (first | rfl | skip)
  · refine ⟨?_, trivial⟩
    show some (true, (List.replicate L.length (List.map AV.v [Value.bool false])).flatten) = some (true, (seenK L 0 0 L.length).map AV.b)
    have : seenK L 0 0 L.length = List.replicate L.length false := by
      rw [seenK_zero]
      apply List.ext_getElem?
      intro j
      by_cases hj : j < L.length
      · simp [hj, seenB]
      · simp [hj]
    rw [this]
    simp
  intro i hi
  have hcl := chsTo_len L i
  have hrl := rowsC_len 1000 (chsTo L i)
  by_cases hc : i < L.length
  · have hget : (seenK L i 0 L.length)[i]? = some (seenB L i i) := by rw [seenK_get _ _ _ _ hc]; simp
    by_cases hs : seenB L i i = true
    · have e : chsTo L (i + 1) = chsTo L i := by simp only [chsTo, hs, if_true]
      rw [hs] at hget
      repeat (first | (refine step_ops ?_; (first | (refine m_mov (by conv => lhs; whnf) ?_) | (refine m_lss rfl rfl ?_) | (refine m_add rfl rfl ?_ ?_ ?_; (· omega); (· omega)) | (refine m_idx1_sl rfl rfl ?_ ?_; (· omega)) | (apply m_ld_ptb; (· rfl); (· rfl); (· assumption)))) | refine end_ops ?_ | refine seq_ops ?_ | refine AW_ops ?_ | (refine cond_t rfl ?_ ?_; (· first | rfl | assumption | (refine decide_eq_true ?_; first | assumption | omega) | (refine nt ?_; first | assumption | omega) | (simp [*]; done))) | refine skip_then ?_ | refine AW_seq ?_ | refine norm_then ?_ | refine exit_then ?_ | refine AW_block ?_ | refine AW_exit ?_ | refine exit_block ?_)
      refine next_round (i + 1) (by omega) (weak_keep id ?_ ?_ rfl rfl rfl (.inl (by rw [e]; omega)) rfl rfl rfl (.inl ⟨rfl, by rw [e]⟩) ?_) ?_
      · rw [e]
        (repeat' (first | exact trivial | refine And.intro ?_ ?_)) <;> (first | rfl | skip)
      · rw [← seenK_skip hp hc hs]
        (repeat' (first | exact trivial | refine And.intro ?_ ?_)) <;> (first | rfl | skip)
      · rw [e]
        (intro j hj; simp (disch := first | omega | assumption) only [hp_put, hp_mem_ne, hp_kill_ne]; first | exact stM_row rfl hj | (rw [stM_row rfl hj]; rfl))
      · omega
    · have hs' : seenB L i i = false := by simpa using hs
      have e : chsTo L (i + 1) = chsTo L i ++ [chn L i] := by simp only [chsTo, hs', Bool.false_eq_true, if_false]
      have hper := per_spec hp hc
      rw [hs'] at hget
      repeat (first | (refine step_ops ?_; (first | (refine m_mov (by conv => lhs; whnf) ?_) | (refine m_lss rfl rfl ?_) | (refine m_idx1_sl rfl rfl ?_ ?_; (· omega)) | (apply m_ld_ptb; (· rfl); (· rfl); (· assumption)) | (refine m_nils ?_))) | refine end_ops ?_ | refine seq_ops ?_ | (refine cond_t rfl ?_ ?_; (· first | rfl | assumption | (refine decide_eq_true ?_; first | assumption | omega) | (refine nt ?_; first | assumption | omega) | (simp [*]; done))) | (refine cond_f rfl ?_ ?_; (· first | rfl | assumption | (refine decide_eq_false ?_; first | assumption | omega) | (refine nf ?_; first | assumption | omega) | (simp [*]; done))) | refine skip_then ?_ | refine AW_seq ?_ | refine AW_block ?_)
      refine AW_loop (α := Nat) (fun k => k ≤ per L i) (fun k => stM [(0, ints L), (3, .sl 10 1 0 L.length), (4, .sl 4 1 0 (chsTo L i).length), (6, .sl 6 1 0 (chT L i k).length), (7, .i (it L k i)), (11, ints L), (12, .i L.length), (13, .i i)] [(10, (true, (seenK L i k L.length).map AV.b)), (6, (true, (chT L i k).map AV.i))] 4 1000 (chsTo L i)) (fun k => per L i - k) 0 (by omega)
        (weak_keep id ?_ ?_ rfl rfl rfl (.inl (by omega)) rfl rfl rfl (.inl ⟨rfl, ?_⟩) ?_) ?_
      · (repeat' (first | exact trivial | refine And.intro ?_ ?_)) <;> (first | rfl | skip)
      · (repeat' (first | exact trivial | refine And.intro ?_ ?_)) <;> (first | rfl | skip)
      · simp [rowsC_kill]
      · (intro j hj; simp (disch := first | omega | assumption) only [hp_put, hp_mem_ne, hp_kill_ne]; first | exact stM_row rfl hj | (rw [stM_row rfl hj]; rfl))
      intro k hk
      have hcT := chT_len L i k
      have hlt := it_lt hp hc k
      have hnx := nx_lt hp hlt
      by_cases hck : k < per L i
      · have hget := seenK_not hp hc hs' hck (Nat.le_refl L.length)
        have hsl := seenK_len L i k L.length
        repeat (first | (refine step_ops ?_; (first | (refine m_mov (by conv => lhs; whnf) ?_) | (refine m_not rfl ?_) | (refine m_idx1_ro rfl rfl ?_ ?_; (· omega)) | (refine m_idx1_sl rfl rfl ?_ ?_; (· omega)) | (refine m_ld_rpi rfl ?_ ?_; (· omega)) | (apply m_ld_ptb; (· rfl); (· rfl); (· assumption)) | (apply m_st; (· rfl); (· rfl); (· rfl); (· first | omega | (simp; done) | (simp; omega)); (· rfl)) | (refine m_bsl1 rfl rfl ?_) | (refine m_app1i rfl (by decide) (by rfl) (by first | rfl | omega | (simp; done)) rfl rfl ?_ (by decide) ?_; (· first | omega | (simp; omega))))) | refine end_ops ?_ | refine seq_ops ?_ | refine AW_ops ?_ | (refine cond_t rfl ?_ ?_; (· first | rfl | assumption | (refine decide_eq_true ?_; first | assumption | omega) | (refine nt ?_; first | assumption | omega) | (simp [*]; done))) | refine skip_then ?_ | refine AW_seq ?_ | refine norm_then ?_ | refine AW_block ?_ | refine norm_block ?_)
        refine next_round (k + 1) (by omega) (weak_keep (fun r => if r = 6 then 36 else r) ?_ ?_ rfl rfl rfl (.inl (by omega)) rfl rfl rfl (.inl ⟨rfl, ?_⟩) ?_) ?_
        · rw [chT_succ]
          (repeat' (first | exact trivial | refine And.intro ?_ ?_)) <;> (first | rfl | skip)
          show AV.i (L.getD (it L k i) 0) = AV.i ((it L (k + 1) i : Nat) : Int)
          rw [hnx.2]; rfl
        · rw [chT_succ, ← seenK_set L i k L.length hlt]
          refine ⟨?_, rfl, trivial⟩
          show some (true, ((seenK L i k L.length).map AV.b).set (it L k i) (AV.b true)) = _
          rw [List.map_set]
        · simp [rowsC_kill]
        · (intro j hj; simp (disch := first | omega | assumption) only [hp_put, hp_mem_ne, hp_kill_ne]; first | exact stM_row rfl hj | (rw [stM_row rfl hj]; rfl))
        · omega
      · obtain rfl : k = per L i := by omega
        have hget := seenK_end hp hc (Nat.le_refl L.length)
        repeat (first | (refine step_ops ?_; (first | (refine m_mov (by conv => lhs; whnf) ?_) | (refine m_not rfl ?_) | (refine m_idx1_sl rfl rfl ?_ ?_; (· omega)) | (apply m_ld_ptb; (· rfl); (· rfl); (· assumption)))) | refine end_ops ?_ | refine seq_ops ?_ | refine AW_ops ?_ | (refine cond_f rfl ?_ ?_; (· first | rfl | assumption | (refine decide_eq_false ?_; first | assumption | omega) | (refine nf ?_; first | assumption | omega) | (simp [*]; done))) | refine AW_seq ?_ | refine norm_then ?_ | refine exit_then ?_ | refine exit_round ?_ | refine AW_exit ?_ | refine exit_block ?_)
        refine step_ops ?_
        refine m_bsl1d rfl rfl ?_
        refine step_ops ?_
        refine m_app1d rfl (by decide) rfl ?_ rfl rfl rfl ?_ (by decide) ?_
        · simp [rowsC_kill, rowsC_len]
        · omega
        repeat (first | (refine step_ops ?_; (first | (refine m_mov (by conv => lhs; whnf) ?_) | (refine m_add rfl rfl ?_ ?_ ?_; (· omega); (· omega)))) | refine end_ops ?_ | refine AW_ops ?_ | refine norm_then ?_ | refine norm_block ?_)
        refine next_round (i + 1) (by omega) ?_ ?_
        · rw [e, List.length_append]
          refine weak_push (fun r => if r = 4 then 40 else r) 6 ?_ ?_ rfl rfl rfl (by omega) rfl rfl (by decide) rfl rfl ?_ ?_ ?_
          · (repeat' (first | exact trivial | refine And.intro ?_ ?_)) <;> (first | rfl | skip)
          · rw [← seenK_all hp hc]
            (repeat' (first | exact trivial | refine And.intro ?_ ?_)) <;> (first | rfl | skip)
          · simp [rowsC_kill, killL_append, killL, chn]
            rfl
          · rfl
          · (intro j hj; simp (disch := first | omega | assumption) only [hp_put, hp_mem_ne, hp_kill_ne]; first | exact stM_row rfl hj | (rw [stM_row rfl hj]; rfl))
        · omega
  · repeat (first | (refine step_ops ?_; (first | (refine m_mov (by conv => lhs; whnf) ?_) | (refine m_lss rfl rfl ?_))) | refine end_ops ?_ | refine seq_ops ?_ | (refine cond_f rfl ?_ ?_; (· first | rfl | assumption | (refine decide_eq_false ?_; first | assumption | omega) | (refine nf ?_; first | assumption | omega) | (simp [*]; done))) | refine AW_seq ?_ | refine AW_ret ?_ | refine norm_then ?_ | refine exit_then ?_ | refine exit_round ?_ | refine AW_exit ?_ | refine exit_block ?_)
    obtain rfl : i = L.length := by omega
    refine ret_mat (r0 := 4) (b := 1000) (by omega) (by omega) (by show 1000 + (chsTo L L.length).length ≤ pbase; omega) rfl rfl ?_
    (intro j hj; simp (disch := first | omega | assumption) only [hp_put, hp_mem_ne, hp_kill_ne]; first | exact stM_row rfl hj | (rw [stM_row rfl hj]; rfl))
end Go.Proofs.Yteiipnadhalnbaa
namespace Go.Proofs.Yteiipnadhalnbaa
open Go.Am
attribute [local irreducible] AW Outs Weak Lends Lend Sp aops atree aop1 Then Round InBlock Done
attribute [local irreducible] SpM DoneM
/-- k, k+1, .. -/
def marks (k : Int) (n : Nat) : List Int := (List.range n).map fun (i : Nat) => k + i
/-- A list whose first j numbers are marked. -/
def marked (L : List Int) (k : Int) (j : Nat) : List Int := marks k j ++ L.drop j
end Go.Proofs.Yteiipnadhalnbaa
namespace Go.Proofs.Yteiipnadhalnbaa
open Go.Am
attribute [local irreducible] AW Outs Weak Lends Lend Sp aops atree aop1 Then Round InBlock Done
/-- Those of the first k guests who have their own coats. -/
def ownList (L : List Int) (k : Nat) : List Int := ((List.range k).filter fun (i : Nat) => decide (L.getD i 0 = i)).map fun (i : Nat) => (i : Int)
theorem ownList_yes {L : List Int} {k : Nat} (h : L.getD k 0 = k) : ownList L (k + 1) = ownList L k ++ [(k : Int)] := by
  unfold ownList; rw [List.range_succ, List.filter_append, List.map_append, List.filter_cons_of_pos (p := fun (i : Nat) => decide (L.getD i 0 = (i : Int))) (a := k) (decide_eq_true h)]; rfl
theorem ownList_no {L : List Int} {k : Nat} (h : ¬ L.getD k 0 = k) : ownList L (k + 1) = ownList L k := by
  unfold ownList; rw [List.range_succ, List.filter_append, List.map_append, List.filter_cons_of_neg (p := fun (i : Nat) => decide (L.getD i 0 = (i : Int))) (a := k) (fun e => h (of_decide_eq_true e))]; simp
theorem ownList_le (L : List Int) (k : Nat) : (ownList L k).length ≤ k := by
  unfold ownList; rw [List.length_map]; exact Nat.le_trans (List.length_filter_le ..) (by simp)
theorem exOwn_spec (L : List Int) (hL : L.length ≤ 1048576) : Sp Try.prog 48 [ints L] (newInts (ownList L L.length)) := by
  refine spec_of Try.func48 rfl cc48 rfl ?_
  unfold ac48
  repeat (first | (refine step_ops ?_; (first | (refine m_mov (by conv => lhs; whnf) ?_) | (refine m_lss rfl rfl ?_) | (refine m_eql rfl rfl ?_) | (refine m_eqk rfl rfl ?_) | (refine m_eqs rfl rfl ?_) | (refine m_add rfl rfl ?_ ?_ ?_; (· omega); (· omega)) | (refine m_adds rfl rfl ?_ ?_; (· first | omega | (simp; omega))) | (refine m_len_ro rfl ?_) | (refine m_len_sl rfl ?_) | (refine m_len_nil rfl ?_) | (refine m_idx1_ro rfl rfl ?_ ?_; (· omega)) | (refine m_idx1_sl rfl rfl ?_ ?_; (· omega)) | (apply m_idx1_slj; (· rfl); (· rfl); (· assumption); (· omega)) | (apply m_idx1_roj; (· rfl); (· rfl); (· assumption); (· omega)) | (refine m_idx_ro rfl rfl ?_ ?_ ?_; (· omega); (· omega)) | (refine m_idx_sl rfl rfl ?_ ?_ ?_; (· omega); (· omega)) | (refine m_ld_rpi rfl ?_ ?_; (· omega)) | (refine m_ld_pti rfl (by rfl) ?_ ?_; (· first | omega | (simp; omega))) | (apply m_ld_ptb; (· rfl); (· rfl); (· assumption)) | (apply m_ld_rp; (· rfl); (· rfl)) | (apply m_ld_pt; (· rfl); (· rfl); (· rfl)) | (refine m_nils ?_) | (refine m_bsl1 rfl rfl ?_) | (refine m_app1i rfl (by decide) (by rfl) (by first | rfl | omega | (simp; done)) rfl rfl ?_ (by decide) ?_; (· first | omega | (simp; omega))) | (refine m_app1 rfl (by decide) rfl (by first | (simp; done) | (simp [*]; done) | (simp; omega)) rfl rfl rfl ?_ (by decide) ?_; (· first | omega | (simp; omega))) | (refine m_appro rfl (by decide) rfl (by first | rfl | (simp; done) | (simp [*]; done) | (simp; omega)) rfl (oks_ints _) ?_ (by decide) ?_; (· first | omega | (simp; omega))))) | refine end_ops ?_ | refine seq_ops ?_ | refine AW_ops ?_ | (refine cond_t rfl ?_ ?_; (· first | rfl | assumption | (refine decide_eq_true ?_; first | assumption | omega) | (refine nt ?_; first | assumption | omega) | (simp [*]; done))) | (refine cond_f rfl ?_ ?_; (· first | rfl | assumption | (refine decide_eq_false ?_; first | assumption | omega) | (refine nf ?_; first | assumption | omega) | (simp [*]; done))) | refine skip_then ?_ | refine AW_seq ?_ | refine AW_ret ?_ | refine ret_done ?_ | refine norm_then ?_ | refine ret_then ?_ | refine exit_then ?_ | refine AW_block ?_ | refine norm_block ?_ | refine ret_block ?_ | refine ret_round ?_ | refine exit_round ?_ | refine AW_exit ?_ | refine exit_block ?_ | (refine exit_other ?_ ?_; (· decide)) | refine AW_skip ?_)
  refine AW_loop (α := Nat × Nat) (fun a => a.1 ≤ L.length ∧ (a.2 = 3 ∨ a.2 = 19)) (fun a => st [(6, ints L), (7, .i L.length), (8, .i a.1), (3, .sl a.2 1 0 (ownList L a.1).length)] [(a.2, (true, (ownList L a.1).map AV.i))]) (fun a => L.length - a.1) (0, 3) (by simp) (weak_st ?_ ?_ rfl rfl) ?_
  · (repeat' (first | exact trivial | refine And.intro ?_ ?_)) <;> (first | rfl | skip)
  · exact ⟨rfl, trivial⟩
  rintro ⟨k, r⟩ ⟨hk, hr⟩
  have hn := ownList_le L k
  simp only at hk hr
  rcases hr with rfl | rfl
  all_goals
    dsimp only
    by_cases h : k < L.length
    · by_cases hx : L.getD k 0 = k
      · repeat (first | (refine step_ops ?_; (first | (refine m_mov (by conv => lhs; whnf) ?_) | (refine m_lss rfl rfl ?_) | (refine m_eql rfl rfl ?_) | (refine m_eqk rfl rfl ?_) | (refine m_eqs rfl rfl ?_) | (refine m_add rfl rfl ?_ ?_ ?_; (· omega); (· omega)) | (refine m_adds rfl rfl ?_ ?_; (· first | omega | (simp; omega))) | (refine m_len_ro rfl ?_) | (refine m_len_sl rfl ?_) | (refine m_len_nil rfl ?_) | (refine m_idx1_ro rfl rfl ?_ ?_; (· omega)) | (refine m_idx1_sl rfl rfl ?_ ?_; (· omega)) | (apply m_idx1_slj; (· rfl); (· rfl); (· assumption); (· omega)) | (apply m_idx1_roj; (· rfl); (· rfl); (· assumption); (· omega)) | (refine m_idx_ro rfl rfl ?_ ?_ ?_; (· omega); (· omega)) | (refine m_idx_sl rfl rfl ?_ ?_ ?_; (· omega); (· omega)) | (refine m_ld_rpi rfl ?_ ?_; (· omega)) | (refine m_ld_pti rfl (by rfl) ?_ ?_; (· first | omega | (simp; omega))) | (apply m_ld_ptb; (· rfl); (· rfl); (· assumption)) | (apply m_ld_rp; (· rfl); (· rfl)) | (apply m_ld_pt; (· rfl); (· rfl); (· rfl)) | (refine m_nils ?_) | (refine m_bsl1 rfl rfl ?_) | (refine m_app1i rfl (by decide) (by rfl) (by first | rfl | omega | (simp; done)) rfl rfl ?_ (by decide) ?_; (· first | omega | (simp; omega))) | (refine m_app1 rfl (by decide) rfl (by first | (simp; done) | (simp [*]; done) | (simp; omega)) rfl rfl rfl ?_ (by decide) ?_; (· first | omega | (simp; omega))) | (refine m_appro rfl (by decide) rfl (by first | rfl | (simp; done) | (simp [*]; done) | (simp; omega)) rfl (oks_ints _) ?_ (by decide) ?_; (· first | omega | (simp; omega))))) | refine end_ops ?_ | refine seq_ops ?_ | refine AW_ops ?_ | (refine cond_t rfl ?_ ?_; (· first | rfl | assumption | (refine decide_eq_true ?_; first | assumption | omega) | (refine nt ?_; first | assumption | omega) | (simp [*]; done))) | (refine cond_f rfl ?_ ?_; (· first | rfl | assumption | (refine decide_eq_false ?_; first | assumption | omega) | (refine nf ?_; first | assumption | omega) | (simp [*]; done))) | refine skip_then ?_ | refine AW_seq ?_ | refine AW_ret ?_ | refine ret_done ?_ | refine norm_then ?_ | refine ret_then ?_ | refine exit_then ?_ | refine AW_block ?_ | refine norm_block ?_ | refine ret_block ?_ | refine ret_round ?_ | refine exit_round ?_ | refine AW_exit ?_ | refine exit_block ?_ | (refine exit_other ?_ ?_; (· decide)) | refine AW_skip ?_)
        refine next_round (k + 1, 19) ⟨by omega, .inr rfl⟩ (weak_st ?_ ?_ rfl rfl) ?_
        · refine ⟨rfl, rfl, rfl, ?_, trivial⟩
          show AV.sl 19 1 0 (ownList L k ++ [(k : Int)]).length = AV.sl 19 1 0 (ownList L (k + 1)).length
          rw [ownList_yes hx]
        · refine ⟨?_, trivial⟩
          show some (true, (ownList L k ++ [(k : Int)]).map AV.i) = some (true, (ownList L (k + 1)).map AV.i)
          rw [ownList_yes hx]
        · omega
      · repeat (first | (refine step_ops ?_; (first | (refine m_mov (by conv => lhs; whnf) ?_) | (refine m_lss rfl rfl ?_) | (refine m_eql rfl rfl ?_) | (refine m_eqk rfl rfl ?_) | (refine m_eqs rfl rfl ?_) | (refine m_add rfl rfl ?_ ?_ ?_; (· omega); (· omega)) | (refine m_adds rfl rfl ?_ ?_; (· first | omega | (simp; omega))) | (refine m_len_ro rfl ?_) | (refine m_len_sl rfl ?_) | (refine m_len_nil rfl ?_) | (refine m_idx1_ro rfl rfl ?_ ?_; (· omega)) | (refine m_idx1_sl rfl rfl ?_ ?_; (· omega)) | (apply m_idx1_slj; (· rfl); (· rfl); (· assumption); (· omega)) | (apply m_idx1_roj; (· rfl); (· rfl); (· assumption); (· omega)) | (refine m_idx_ro rfl rfl ?_ ?_ ?_; (· omega); (· omega)) | (refine m_idx_sl rfl rfl ?_ ?_ ?_; (· omega); (· omega)) | (refine m_ld_rpi rfl ?_ ?_; (· omega)) | (refine m_ld_pti rfl (by rfl) ?_ ?_; (· first | omega | (simp; omega))) | (apply m_ld_ptb; (· rfl); (· rfl); (· assumption)) | (apply m_ld_rp; (· rfl); (· rfl)) | (apply m_ld_pt; (· rfl); (· rfl); (· rfl)) | (refine m_nils ?_) | (refine m_bsl1 rfl rfl ?_) | (refine m_app1i rfl (by decide) (by rfl) (by first | rfl | omega | (simp; done)) rfl rfl ?_ (by decide) ?_; (· first | omega | (simp; omega))) | (refine m_app1 rfl (by decide) rfl (by first | (simp; done) | (simp [*]; done) | (simp; omega)) rfl rfl rfl ?_ (by decide) ?_; (· first | omega | (simp; omega))) | (refine m_appro rfl (by decide) rfl (by first | rfl | (simp; done) | (simp [*]; done) | (simp; omega)) rfl (oks_ints _) ?_ (by decide) ?_; (· first | omega | (simp; omega))))) | refine end_ops ?_ | refine seq_ops ?_ | refine AW_ops ?_ | (refine cond_t rfl ?_ ?_; (· first | rfl | assumption | (refine decide_eq_true ?_; first | assumption | omega) | (refine nt ?_; first | assumption | omega) | (simp [*]; done))) | (refine cond_f rfl ?_ ?_; (· first | rfl | assumption | (refine decide_eq_false ?_; first | assumption | omega) | (refine nf ?_; first | assumption | omega) | (simp [*]; done))) | refine skip_then ?_ | refine AW_seq ?_ | refine AW_ret ?_ | refine ret_done ?_ | refine norm_then ?_ | refine ret_then ?_ | refine exit_then ?_ | refine AW_block ?_ | refine norm_block ?_ | refine ret_block ?_ | refine ret_round ?_ | refine exit_round ?_ | refine AW_exit ?_ | refine exit_block ?_ | (refine exit_other ?_ ?_; (· decide)) | refine AW_skip ?_)
        first
        | (refine next_round (k + 1, 3) ⟨by omega, .inl rfl⟩ (weak_st ?_ ?_ rfl rfl) ?_
           · exact ⟨rfl, rfl, rfl, by show _ = AV.sl 3 1 0 (ownList L (k + 1)).length; rw [ownList_no hx]; rfl, trivial⟩
           · exact ⟨by show _ = some (true, (ownList L (k + 1)).map AV.i); rw [ownList_no hx]; rfl, trivial⟩
           · omega)
        | (refine next_round (k + 1, 19) ⟨by omega, .inr rfl⟩ (weak_st ?_ ?_ rfl rfl) ?_
           · exact ⟨rfl, rfl, rfl, by show _ = AV.sl 19 1 0 (ownList L (k + 1)).length; rw [ownList_no hx]; rfl, trivial⟩
           · exact ⟨by show _ = some (true, (ownList L (k + 1)).map AV.i); rw [ownList_no hx]; rfl, trivial⟩
           · omega)
    · repeat (first | (refine step_ops ?_; (first | (refine m_mov (by conv => lhs; whnf) ?_) | (refine m_lss rfl rfl ?_) | (refine m_eql rfl rfl ?_) | (refine m_eqk rfl rfl ?_) | (refine m_eqs rfl rfl ?_) | (refine m_add rfl rfl ?_ ?_ ?_; (· omega); (· omega)) | (refine m_adds rfl rfl ?_ ?_; (· first | omega | (simp; omega))) | (refine m_len_ro rfl ?_) | (refine m_len_sl rfl ?_) | (refine m_len_nil rfl ?_) | (refine m_idx1_ro rfl rfl ?_ ?_; (· omega)) | (refine m_idx1_sl rfl rfl ?_ ?_; (· omega)) | (apply m_idx1_slj; (· rfl); (· rfl); (· assumption); (· omega)) | (apply m_idx1_roj; (· rfl); (· rfl); (· assumption); (· omega)) | (refine m_idx_ro rfl rfl ?_ ?_ ?_; (· omega); (· omega)) | (refine m_idx_sl rfl rfl ?_ ?_ ?_; (· omega); (· omega)) | (refine m_ld_rpi rfl ?_ ?_; (· omega)) | (refine m_ld_pti rfl (by rfl) ?_ ?_; (· first | omega | (simp; omega))) | (apply m_ld_ptb; (· rfl); (· rfl); (· assumption)) | (apply m_ld_rp; (· rfl); (· rfl)) | (apply m_ld_pt; (· rfl); (· rfl); (· rfl)) | (refine m_nils ?_) | (refine m_bsl1 rfl rfl ?_) | (refine m_app1i rfl (by decide) (by rfl) (by first | rfl | omega | (simp; done)) rfl rfl ?_ (by decide) ?_; (· first | omega | (simp; omega))) | (refine m_app1 rfl (by decide) rfl (by first | (simp; done) | (simp [*]; done) | (simp; omega)) rfl rfl rfl ?_ (by decide) ?_; (· first | omega | (simp; omega))) | (refine m_appro rfl (by decide) rfl (by first | rfl | (simp; done) | (simp [*]; done) | (simp; omega)) rfl (oks_ints _) ?_ (by decide) ?_; (· first | omega | (simp; omega))))) | refine end_ops ?_ | refine seq_ops ?_ | refine AW_ops ?_ | (refine cond_t rfl ?_ ?_; (· first | rfl | assumption | (refine decide_eq_true ?_; first | assumption | omega) | (refine nt ?_; first | assumption | omega) | (simp [*]; done))) | (refine cond_f rfl ?_ ?_; (· first | rfl | assumption | (refine decide_eq_false ?_; first | assumption | omega) | (refine nf ?_; first | assumption | omega) | (simp [*]; done))) | refine skip_then ?_ | refine AW_seq ?_ | refine AW_ret ?_ | refine ret_done ?_ | refine norm_then ?_ | refine ret_then ?_ | refine exit_then ?_ | refine AW_block ?_ | refine norm_block ?_ | refine ret_block ?_ | refine ret_round ?_ | refine exit_round ?_ | refine AW_exit ?_ | refine exit_block ?_ | (refine exit_other ?_ ?_; (· decide)) | refine AW_skip ?_)
      obtain rfl : k = L.length := by omega
      exact outs_ints rfl rfl rfl
end Go.Proofs.Yteiipnadhalnbaa
namespace Go.Proofs.Yteiipnadhalnbaa
open Go.Am
attribute [local irreducible] AW Outs Weak Lends Lend Sp aops atree aop1 Then Round InBlock Done
/-- Those behind the first one, each with the coat. -/
def othR (L : List Int) (i k : Nat) : List (List Int) := (List.range k).map fun a => [((it L (a + 1) i : Nat) : Int), ((it L (a + 2) i : Nat) : Int)]
def oth (L : List Int) (i k : Nat) : List Int := (othR L i k).flatten
theorem othR_row (L : List Int) (i k : Nat) : ∀ r ∈ othR L i k, r.length = 2 := by
  intro r hr
  simp only [othR, List.mem_map] at hr
  obtain ⟨a, _, rfl⟩ := hr
  rfl
theorem oth_len (L : List Int) (i k : Nat) : (oth L i k).length = k * 2 := by
  rw [oth, flat_len _ 2 (othR_row L i k)]; simp [othR]
theorem oth_succ (L : List Int) (i k : Nat) : oth L i (k + 1) = oth L i k ++ [((it L (k + 1) i : Nat) : Int), ((it L (k + 2) i : Nat) : Int)] := by
  simp [oth, othR, List.range_succ]
theorem oth_at (L : List Int) (i k j : Nat) (h : j < k) : (((oth L i k).map AV.i).drop (j * 2)).take 2 = [.i ((it L (j + 1) i : Nat) : Int), .i ((it L (j + 2) i : Nat) : Int)] := by
  rw [← List.map_drop, ← List.map_take, oth, drop_flat _ 2 j (othR_row L i k) (by simpa [othR] using h)]
  simp [othR, h]
set_option maxRecDepth 8000 in
theorem guestOf_spec (L : List Int) (j : Nat) (hp : IsPm L) (hj : j < L.length) : Sp Try.prog 84 [ints L, .i j] (.agg [.i j, .i (nx L j : Nat)]) := by
  have hnx := (nx_lt hp hj).2
  refine specC_of Try.func84 rfl cc84 (by rfl) ?_
  unfold ac84
  repeat (first | (refine step_ops ?_; (first | (refine m_mov (by conv => lhs; whnf) ?_) | (refine m_idx1_ro rfl rfl ?_ ?_; (· omega)) | (refine m_ld_rpi rfl ?_ ?_; (· omega)) | (refine m_alloc ?_) | (refine m_bld_2 (by conv => lhs; whnf) (by conv => lhs; whnf) (by decide)  (by decide) (by rfl) (by rfl) ?_) | (refine m_stall rfl rfl rfl ?_ ?_ ?_ ?_; (· first | rfl | (simp [*]; done)); (· first | rfl | (simp [*]; done)); (· first | rfl | (simp [cellOk, Value.oneCell']; done))))) | refine end_ops ?_ | refine seq_ops ?_ | refine AW_ret ?_)
  rw [hnx]
  skip
  refine ret_donec rfl rfl rfl (outs_agg rfl)
/-- A chain asx a struct. -/
def chnV (fr : Bool) (L : List Int) (i : Nat) : List AV := [.i i, .i (nx L i : Nat), .ro fr 2 ((oth L i (per L i - 1)).map AV.i) (per L i - 1)]
set_option maxRecDepth 8000 in
theorem chainFrom_spec (L : List Int) (i : Nat) (h : IsEx L) (hi : i < L.length) : Sp Try.prog 79 [ints L, .i i] (.agg (chnV true L i)) := by
  have hp := ex_pm h
  have h12 := h.2.1
  have hper := per_spec hp hi
  have hlt := it_lt hp hi
  refine specC_of Try.func79 rfl cc79 (by rfl) ?_
  unfold ac79
  repeat (first | (refine step_ops ?_; (first | (refine m_mov (by conv => lhs; whnf) ?_) | (refine m_alloc ?_))) | refine end_ops ?_ | refine seq_ops ?_)
  (refine step_ops ?_); (apply m_call (guestOf_spec L i hp hi)); (· repeat (first | exact lends_nil | (refine lends_cons ?_ ?_; (· (first | exact lend_v | (refine lend_ints ?_; first | rfl | omega))))))
  skip
  refine step_ops ?_
  refine m_bld (out := [.i i, .i (nx L i : Nat), .v (.slice none 0 0)]) ?_ ?_
  · exact .inr ⟨[.i i, .i (nx L i : Nat)], rfl, rfl, by decide, rfl⟩
  repeat (first | (refine step_ops ?_; (first | (refine m_mov (by conv => lhs; whnf) ?_) | (apply m_ld_pt; (· rfl); (· rfl); (· rfl)) | (refine m_alloc ?_) | (refine m_fa rfl ?_) | (refine m_stall rfl rfl rfl ?_ ?_ ?_ ?_; (· first | rfl | (simp [*]; done)); (· first | rfl | (simp [*]; done)); (· first | rfl | (simp [cellOk, Value.oneCell']; done))))) | refine end_ops ?_ | refine seq_ops ?_ | refine AW_seq ?_)
  (refine step_ops ?_); (apply m_call (guestOf_spec L (nx L i) hp (hlt 1))); (· repeat (first | exact lends_nil | (refine lends_cons ?_ ?_; (· (first | exact lend_v | (refine lend_ints ?_; first | rfl | omega))))))
  repeat (first | (refine step_ops ?_; (first | (refine m_alloc ?_) | (refine m_stall rfl rfl rfl ?_ ?_ ?_ ?_; (· first | rfl | (simp [*]; done)); (· first | rfl | (simp [*]; done)); (· first | rfl | (simp [cellOk, Value.oneCell']; done))))) | refine end_ops ?_ | refine AW_block ?_)
  refine AW_weak (Weak.trans (weak_deep (r := 4) rfl (by simp) rfl) (weak_nilcell 5 28 2 2 rfl rfl (by decide) rfl rfl)) ?_
  refine AW_loop (α := Nat) (fun k => k + 1 ≤ per L i) (fun k => st [(0, ints L), (4, .pt 4 0), (5, .pt 5 0), (6, .pt 6 0)] [(4, (false, [.i 0, .i 0, .v (.slice none 0 0)])), (5, (false, [.i i, .i (nx L i : Nat), .sl 28 2 0 k])), (6, (true, [.i (it L (k + 1) i : Nat), .i (it L (k + 2) i : Nat)])), (28, (true, (oth L i k).map AV.i))]) (fun k => per L i - k) 0 (by omega) (weak_st ?_ ?_ rfl rfl) ?_
  · (repeat' (first | exact trivial | refine And.intro ?_ ?_)) <;> (first | rfl | skip)
  · (repeat' (first | exact trivial | refine And.intro ?_ ?_)) <;> (first | rfl | skip)
  intro k hk
  have hol := oth_len L i k
  have hle := hper.2.1
  by_cases hc : it L (k + 1) i = i
  · have hkp : k + 1 = per L i := by
      rcases Nat.lt_or_ge (k + 1) (per L i) with h1 | h1
      · exact absurd hc (hper.2.2.2 (k + 1) (by omega) h1)
      · omega
    have hc2 : it L (k + 2) i = nx L i := by show nx L (it L (k + 1) i) = _; rw [hc]
    have hE : (true ^^ (decide (((it L (k + 1) i : Nat) : Int) = ((i : Nat) : Int)) && (decide (((it L (k + 2) i : Nat) : Int) = ((nx L i : Nat) : Int)) && true))) = false := by simp [hc, hc2]
    repeat (first | (refine step_ops ?_; (first | (refine m_fa rfl ?_) | (refine m_ldall rfl rfl ?_ ?_; (· first | rfl | (simp; done) | (simp [*]; done))))) | refine seq_ops ?_ | refine AW_seq ?_)
    refine step_ops ?_
    refine m_ldk (off := 0) rfl rfl (Nat.le_of_ble_eq_true rfl) ?_
    repeat (first | (refine step_ops ?_; (first | (refine m_aeq rfl rfl rfl ?_) | (refine m_ldall rfl rfl ?_ ?_; (· first | rfl | (simp; done) | (simp [*]; done))) | (refine m_stall rfl rfl rfl ?_ ?_ ?_ ?_; (· first | rfl | (simp [*]; done)); (· first | rfl | (simp [*]; done)); (· first | rfl | (simp [cellOk, Value.oneCell']; done))))) | refine end_ops ?_ | refine seq_ops ?_ | (refine cond_f rfl ?_ ?_; (· first | rfl | assumption | (refine decide_eq_false ?_; first | assumption | omega) | (refine nf ?_; first | assumption | omega) | (simp [*]; done))) | refine AW_ret ?_ | refine norm_then ?_ | refine exit_then ?_ | refine exit_round ?_ | refine AW_exit ?_ | refine exit_block ?_)
    refine ret_donec rfl rfl rfl ?_
    have ek : per L i - 1 = k := by omega
    unfold chnV
    rw [ek]
    exact outs_agg3 (outs_i rfl) (outs_i rfl) (outs_sl rfl (by rw [List.length_map, hol]) (allv_ints _))
  · have hkp : k + 1 < per L i := by
      rcases Nat.lt_or_ge (k + 1) (per L i) with h1 | h1
      · exact h1
      · have : k + 1 = per L i := by omega
        rw [this] at hc; exact absurd hper.2.2.1 hc
    have hE : (true ^^ (decide (((it L (k + 1) i : Nat) : Int) = ((i : Nat) : Int)) && (decide (((it L (k + 2) i : Nat) : Int) = ((nx L i : Nat) : Int)) && true))) = true := by
      have : ¬ ((it L (k + 1) i : Nat) : Int) = ((i : Nat) : Int) := by omega
      simp [this]
    repeat (first | (refine step_ops ?_; (first | (refine m_fa rfl ?_) | (refine m_ldall rfl rfl ?_ ?_; (· first | rfl | (simp; done) | (simp [*]; done))))) | refine seq_ops ?_ | refine AW_seq ?_)
    refine step_ops ?_
    refine m_ldk (off := 0) rfl rfl (Nat.le_of_ble_eq_true rfl) ?_
    repeat (first | (refine step_ops ?_; (first | (apply m_ld_pt; (· rfl); (· rfl); (· rfl)) | (refine m_fa rfl ?_) | (refine m_aeq rfl rfl rfl ?_) | (refine m_ldall rfl rfl ?_ ?_; (· first | rfl | (simp; done) | (simp [*]; done))))) | refine end_ops ?_ | refine AW_ops ?_ | (refine cond_t rfl ?_ ?_; (· first | rfl | assumption | (refine decide_eq_true ?_; first | assumption | omega) | (refine nt ?_; first | assumption | omega) | (simp [*]; done))) | refine skip_then ?_ | refine AW_seq ?_ | refine AW_block ?_)
    refine step_ops ?_
    refine m_bslz rfl rfl rfl rfl ?_
    refine step_ops ?_
    refine m_appz rfl (by decide) rfl (by rw [List.length_map, hol]) rfl rfl rfl rfl (by omega) (by decide) ?_
    repeat (refine step_ops ?_; (refine m_fa rfl ?_))
    refine step_ops ?_
    refine m_st (v := .sl 28 2 0 (k + 1)) (by rfl) (by rfl) (by rfl) (Nat.le_of_ble_eq_true rfl) rfl ?_
    repeat (first | (refine step_ops ?_; (first | (refine m_mov (by conv => lhs; whnf) ?_) | (apply m_ld_pt; (· rfl); (· rfl); (· rfl)) | (refine m_alloc ?_) | (refine m_fa rfl ?_) | (refine m_ldall rfl rfl ?_ ?_; (· first | rfl | (simp; done) | (simp [*]; done))) | (refine m_stall rfl rfl rfl ?_ ?_ ?_ ?_; (· first | rfl | (simp [*]; done)); (· first | rfl | (simp [*]; done)); (· first | rfl | (simp [cellOk, Value.oneCell']; done))))) | refine end_ops ?_ | refine seq_ops ?_ | refine AW_ops ?_ | refine AW_seq ?_ | refine norm_then ?_ | refine norm_block ?_)
    (refine step_ops ?_); (apply m_call (guestOf_spec L (it L (k + 2) i) hp (hlt _))); (· repeat (first | exact lends_nil | (refine lends_cons ?_ ?_; (· (first | exact lend_v | (refine lend_ints ?_; first | rfl | omega))))))
    repeat (first | (refine step_ops ?_; (refine m_stall rfl rfl rfl ?_ ?_ ?_ ?_; (· first | rfl | (simp [*]; done)); (· first | rfl | (simp [*]; done)); (· first | rfl | (simp [cellOk, Value.oneCell']; done)))) | refine end_ops ?_)
    refine next_round (k + 1) (by omega) (weak_st ?_ ?_ rfl rfl) ?_
    · (repeat' (first | exact trivial | refine And.intro ?_ ?_)) <;> (first | rfl | skip)
    · refine ⟨rfl, rfl, rfl, ?_, trivial⟩
      show some (true, (oth L i k).map AV.i ++ [AV.i ((it L (k + 1) i : Nat) : Int), AV.i ((it L (k + 2) i : Nat) : Int)]) = some (true, (oth L i (k + 1)).map AV.i)
      rw [oth_succ, List.map_append]; rfl
    · omega
theorem length_spec (L : List Int) (i : Nat) (h : IsEx L) (hi : i < L.length) : Sp Try.prog 69 [.agg (chnV false L i)] (.i (per L i : Nat)) := by
  have hper := per_spec (ex_pm h) hi
  have h12 := h.2.1
  unfold chnV
  refine spec_of Try.func69 rfl cc69 rfl ?_
  unfold ac69
  repeat (first | (refine step_ops ?_; (first | (refine m_mov (by conv => lhs; whnf) ?_) | (refine m_add rfl rfl ?_ ?_ ?_; (· omega); (· omega)) | (refine m_len_ro rfl ?_) | (apply m_ld_pt; (· rfl); (· rfl); (· rfl)) | (refine m_fa rfl ?_) | (refine m_box rfl ?_ ?_; (· first | rfl | (simp [cellOk, Value.oneCell']; done))))) | refine end_ops ?_ | refine seq_ops ?_ | refine AW_ret ?_ | refine ret_done ?_)
  refine outs_i ?_
  omega
theorem numbers_spec (L : List Int) (i : Nat) (h : IsEx L) (hi : i < L.length) : Sp Try.prog 80 [.agg (chnV false L i)] (newInts (chn L i)) := by
  have hper := per_spec (ex_pm h) hi
  have h12 := h.2.1
  obtain ⟨p, hpp⟩ : ∃ p, per L i = p + 1 := ⟨per L i - 1, by omega⟩
  unfold chnV chn
  rw [hpp, Nat.add_sub_cancel]
  refine spec_of Try.func80 rfl cc80 rfl ?_
  unfold ac80
  repeat (first | (refine step_ops ?_; (first | (refine m_mov (by conv => lhs; whnf) ?_) | (refine m_len_ro rfl ?_) | (apply m_ld_pt; (· rfl); (· rfl); (· rfl)) | (refine m_nils ?_) | (refine m_fa rfl ?_) | (refine m_bsl1 rfl rfl ?_) | (refine m_box rfl ?_ ?_; (· first | rfl | (simp [cellOk, Value.oneCell']; done))))) | refine end_ops ?_ | refine seq_ops ?_ | refine AW_seq ?_ | refine AW_block ?_)
  refine AW_loop (α := Nat) (fun j => j ≤ p) (fun j => st [(3, .sl 9 1 0 (chT L i (j + 1)).length), (11, .ro false 2 ((oth L i p).map AV.i) p), (12, .i p), (13, .i j)] [(9, (true, (chT L i (j + 1)).map AV.i))]) (fun j => p - j) 0 (by omega) (weak_st ?_ ?_ rfl rfl) ?_
  · (repeat' (first | exact trivial | refine And.intro ?_ ?_)) <;> (first | rfl | skip)
  · exact ⟨rfl, trivial⟩
  intro j hj
  have hcl := chT_len L i (j + 1)
  by_cases hc : j < p
  · have hat := oth_at L i p j hc
    have hol := oth_len L i p
    repeat (first | (refine step_ops ?_; (first | (refine m_lss rfl rfl ?_) | (refine m_idx_ro rfl rfl ?_ ?_ ?_; (· omega); (· omega)))) | refine end_ops ?_ | refine seq_ops ?_ | (refine cond_t rfl ?_ ?_; (· first | rfl | assumption | (refine decide_eq_true ?_; first | assumption | omega) | (refine nt ?_; first | assumption | omega) | (simp [*]; done))) | refine skip_then ?_ | refine AW_seq ?_ | refine AW_block ?_)
    refine step_ops ?_
    refine m_ldk_rp rfl (by simp [hol]; omega) ?_
    rw [Int.toNat_natCast, hat]
    repeat (first | (refine step_ops ?_; (first | (refine m_mov (by conv => lhs; whnf) ?_) | (refine m_add rfl rfl ?_ ?_ ?_; (· omega); (· omega)) | (apply m_ld_pt; (· rfl); (· rfl); (· rfl)) | (refine m_alloc ?_) | (refine m_fa rfl ?_) | (refine m_bsl1 rfl rfl ?_) | (refine m_app1i rfl (by decide) (by rfl) (by first | rfl | omega | (simp; done)) rfl rfl ?_ (by decide) ?_; (· first | omega | (simp; omega))) | (refine m_stall rfl rfl rfl ?_ ?_ ?_ ?_; (· first | rfl | (simp [*]; done)); (· first | rfl | (simp [*]; done)); (· first | rfl | (simp [cellOk, Value.oneCell']; done))))) | refine end_ops ?_ | refine AW_ops ?_ | refine norm_then ?_ | refine norm_block ?_)
    refine next_round (j + 1) (by omega) (Weak.trans (weak_move (r := 21) (q := 9) rfl (by decide) (by decide)) (weak_st ?_ ?_ rfl rfl)) ?_
    · rw [chT_succ L i (j + 1)]
      (repeat' (first | exact trivial | refine And.intro ?_ ?_)) <;> (first | rfl | skip)
    · rw [chT_succ L i (j + 1)]
      exact ⟨rfl, trivial⟩
    · omega
  · repeat (first | (refine step_ops ?_; (first | (refine m_mov (by conv => lhs; whnf) ?_) | (refine m_lss rfl rfl ?_))) | refine end_ops ?_ | refine seq_ops ?_ | (refine cond_f rfl ?_ ?_; (· first | rfl | assumption | (refine decide_eq_false ?_; first | assumption | omega) | (refine nf ?_; first | assumption | omega) | (simp [*]; done))) | refine AW_seq ?_ | refine AW_ret ?_ | refine ret_done ?_ | refine norm_then ?_ | refine exit_then ?_ | refine exit_round ?_ | refine AW_exit ?_ | refine exit_block ?_)
    obtain rfl : j = p := by omega
    exact outs_ints rfl rfl rfl
/-- The guests with whom chains begin. -/
def sts (L : List Int) : Nat → List Nat
  | 0 => []
  | i + 1 => if seenB L i i then sts L i else sts L i ++ [i]
theorem sts_lt (L : List Int) (i : Nat) : ∀ j ∈ sts L i, j < i := by
  induction i with
  | zero => intro j hj; simp [sts] at hj
  | succ i ih =>
    intro j hj
    simp only [sts] at hj
    split at hj
    · have := ih j hj; omega
    · rw [List.mem_append, List.mem_singleton] at hj
      rcases hj with hj | rfl
      · have := ih j hj; omega
      · omega
theorem sts_len (L : List Int) (i : Nat) : (sts L i).length ≤ i := by
  induction i with
  | zero => simp [sts]
  | succ i ih =>
    simp only [sts]
    split
    · omega
    · rw [List.length_append, List.length_singleton]; omega
theorem chs_sts (L : List Int) (i : Nat) : chsTo L i = (sts L i).map (chn L) := by
  induction i with
  | zero => rfl
  | succ i ih =>
    simp only [chsTo, sts]
    split
    · exact ih
    · rw [ih, List.map_append]; rfl
def chVs (L : List Int) (S : List Nat) : List (List AV) := S.map (chnV true L)
theorem chVs_row (L : List Int) (S : List Nat) : ∀ r ∈ chVs L S, r.length = 3 := by
  intro r hr
  simp only [chVs, List.mem_map] at hr
  obtain ⟨a, _, rfl⟩ := hr
  rfl
theorem chVs_len (L : List Int) (S : List Nat) : (chVs L S).flatten.length = S.length * 3 := by
  rw [flat_len _ 3 (chVs_row L S)]; simp [chVs]
theorem chVs_new (L : List Int) (S : List Nat) : (chVs L S).flatten.all newV = true := by
  rw [List.all_eq_true]
  intro x hx
  rw [List.mem_flatten] at hx
  obtain ⟨r, hr, hx⟩ := hx
  simp only [chVs, List.mem_map] at hr
  obtain ⟨a, _, rfl⟩ := hr
  simp only [chnV, List.mem_cons, List.not_mem_nil, or_false] at hx
  rcases hx with rfl | rfl | rfl
  · rfl
  · rfl
  · exact allv_ints _
theorem chVs_snoc (L : List Int) (S : List Nat) (i : Nat) : (chVs L (S ++ [i])).flatten = (chVs L S).flatten ++ chnV true L i := by simp [chVs]
theorem chT_get (L : List Int) (i k j : Nat) (h : j < k) : (chT L i k).getD j 0 = ((it L j i : Nat) : Int) := by simp [chT, h]
theorem chainsIn_spec (L : List Int) (h : IsEx L) : Sp Try.prog 66 [ints L] (.ro true 3 (chVs L (sts L L.length)).flatten (sts L L.length).length) := by
  have hp := ex_pm h
  have h12 := h.2.1
  refine spec_of Try.func66 rfl cc66 rfl ?_
  unfold ac66
  repeat (first | (refine step_ops ?_; (first | (refine m_mov (by conv => lhs; whnf) ?_) | (refine m_len_ro rfl ?_) | (refine m_nils ?_) | (refine m_alloc ?_))) | refine end_ops ?_ | refine seq_ops ?_ | refine AW_seq ?_ | refine AW_block ?_)
  refine AW_loop (α := Nat) (fun i => i ≤ L.length) (fun i => st [(0, ints L), (3, .pt 3 0), (4, .sl 4 3 0 (sts L i).length), (9, ints L), (10, .i L.length), (11, .i i)] [(3, (true, (seenK L i 0 12).map AV.b)), (4, (true, (chVs L (sts L i)).flatten))]) (fun i => L.length - i) 0 (by omega) (weak_st ?_ ?_ rfl rfl) ?_
  · (repeat' (first | exact trivial | refine And.intro ?_ ?_)) <;> (first | rfl | skip)
  · refine ⟨?_, rfl, trivial⟩
    show _ = some (true, (seenK L 0 0 12).map AV.b)
    have : seenK L 0 0 12 = List.replicate 12 false := by simp [seenK, seenB, List.range_succ]
    rw [this]; rfl
  intro i hi
  have hsl := sts_len L i
  have hvl := chVs_len L (sts L i)
  by_cases hc : i < L.length
  · have hget : (seenK L i 0 12)[i]? = some (seenB L i i) := by rw [seenK_get _ _ _ _ (by omega)]; simp
    by_cases hs : seenB L i i = true
    · have e : sts L (i + 1) = sts L i := by simp only [sts, hs, if_true]
      rw [hs] at hget
      repeat (first | (refine step_ops ?_; (first | (refine m_mov (by conv => lhs; whnf) ?_) | (refine m_lss rfl rfl ?_) | (refine m_add rfl rfl ?_ ?_ ?_; (· omega); (· omega)) | (refine m_arr1 rfl rfl ?_ ?_; (· omega)) | (apply m_ld_ptb; (· rfl); (· rfl); (· assumption)))) | refine end_ops ?_ | refine seq_ops ?_ | refine AW_ops ?_ | (refine cond_t rfl ?_ ?_; (· first | rfl | assumption | (refine decide_eq_true ?_; first | assumption | omega) | (refine nt ?_; first | assumption | omega) | (simp [*]; done))) | refine skip_then ?_ | refine AW_seq ?_ | refine norm_then ?_ | refine exit_then ?_ | refine AW_block ?_ | refine AW_exit ?_ | refine exit_block ?_)
      refine next_round (i + 1) (by omega) (weak_st ?_ ?_ rfl rfl) ?_
      · rw [e]
        (repeat' (first | exact trivial | refine And.intro ?_ ?_)) <;> (first | rfl | skip)
      · rw [e, ← seenK_skip hp hc hs]
        (repeat' (first | exact trivial | refine And.intro ?_ ?_)) <;> (first | rfl | skip)
      · omega
    · have hs' : seenB L i i = false := by simpa using hs
      have e : sts L (i + 1) = sts L i ++ [i] := by simp only [sts, hs', Bool.false_eq_true, if_false]
      have hper := per_spec hp hc
      rw [hs'] at hget
      repeat (first | (refine step_ops ?_; (first | (refine m_mov (by conv => lhs; whnf) ?_) | (refine m_lss rfl rfl ?_) | (refine m_arr1 rfl rfl ?_ ?_; (· omega)) | (apply m_ld_ptb; (· rfl); (· rfl); (· assumption)))) | refine end_ops ?_ | refine seq_ops ?_ | (refine cond_t rfl ?_ ?_; (· first | rfl | assumption | (refine decide_eq_true ?_; first | assumption | omega) | (refine nt ?_; first | assumption | omega) | (simp [*]; done))) | (refine cond_f rfl ?_ ?_; (· first | rfl | assumption | (refine decide_eq_false ?_; first | assumption | omega) | (refine nf ?_; first | assumption | omega) | (simp [*]; done))) | refine skip_then ?_ | refine AW_seq ?_ | refine AW_block ?_)
      refine step_ops ?_
      refine m_call (chainFrom_spec L i h hc) ?_ ?_
      · exact lends_cons (lend_ints rfl) (lends_cons lend_v lends_nil)
      repeat (first | (refine step_ops ?_; (first | (refine m_alloc ?_) | (refine m_ldall rfl rfl ?_ ?_; (· first | rfl | (simp; done) | (simp [*]; done))) | (refine m_stall rfl rfl rfl ?_ ?_ ?_ ?_; (· first | rfl | (simp [*]; done)); (· first | rfl | (simp [*]; done)); (· first | rfl | (simp [cellOk, Value.oneCell']; done))))) | refine end_ops ?_ | refine seq_ops ?_ | refine AW_seq ?_)
      refine step_ops ?_
      refine m_call (numbers_spec L i h hc) ?_ ?_
      · exact lends_cons (lend_aggs (lends_cons lend_v (lends_cons lend_v (lends_cons (lend_ro (allv_ints _)) lends_nil)))) lends_nil
      repeat (first | (refine step_ops ?_; (first | (refine m_mov (by conv => lhs; whnf) ?_) | (refine m_len_ro rfl ?_))) | refine end_ops ?_ | refine AW_block ?_)
      refine AW_loop (α := Nat) (fun k => k ≤ per L i) (fun k => st [(0, ints L), (3, .pt 3 0), (4, .sl 4 3 0 (sts L i).length), (6, .pt 6 0), (9, ints L), (10, .i L.length), (11, .i i), (21, newInts (chn L i)), (22, .i (chn L i).length), (23, .i k)] [(3, (true, (seenK L i k 12).map AV.b)), (4, (true, (chVs L (sts L i)).flatten)), (6, (true, chnV true L i))]) (fun k => per L i - k) 0 (by omega) (weak_st ?_ ?_ rfl rfl) ?_
      · (repeat' (first | exact trivial | refine And.intro ?_ ?_)) <;> (first | rfl | skip)
      · (repeat' (first | exact trivial | refine And.intro ?_ ?_)) <;> (first | rfl | skip)
      intro k hk
      have hcl : (chn L i).length = per L i := chT_len L i _
      have hlt := it_lt hp hc k
      by_cases hck : k < per L i
      · have hcg : (chn L i).getD k 0 = ((it L k i : Nat) : Int) := chT_get L i _ k hck
        have hsk := seenK_len L i k 12
        repeat (first | (refine step_ops ?_; (first | (refine m_mov (by conv => lhs; whnf) ?_) | (refine m_lss rfl rfl ?_) | (refine m_add rfl rfl ?_ ?_ ?_; (· omega); (· omega)) | (refine m_idx1_ro rfl rfl ?_ ?_; (· omega)) | (apply m_arr1j; (· rfl); (· rfl); (· assumption); (· omega)) | (refine m_ld_rpi rfl ?_ ?_; (· omega)) | (apply m_st; (· rfl); (· rfl); (· rfl); (· first | omega | (simp; done) | (simp; omega)); (· rfl)))) | refine end_ops ?_ | refine seq_ops ?_ | refine AW_ops ?_ | (refine cond_t rfl ?_ ?_; (· first | rfl | assumption | (refine decide_eq_true ?_; first | assumption | omega) | (refine nt ?_; first | assumption | omega) | (simp [*]; done))) | refine skip_then ?_ | refine AW_seq ?_ | refine norm_then ?_ | refine AW_block ?_ | refine norm_block ?_)
        refine next_round (k + 1) (by omega) (weak_st ?_ ?_ rfl rfl) ?_
        · (repeat' (first | exact trivial | refine And.intro ?_ ?_)) <;> (first | rfl | skip)
        · refine ⟨?_, rfl, rfl, trivial⟩
          show some (true, ((seenK L i k 12).map AV.b).set (it L k i) (AV.b true)) = some (true, (seenK L i (k + 1) 12).map AV.b)
          rw [← seenK_set L i k 12 (by omega), List.map_set]
        · omega
      · obtain rfl : k = per L i := by omega
        repeat (first | (refine step_ops ?_; (first | (refine m_mov (by conv => lhs; whnf) ?_) | (refine m_lss rfl rfl ?_) | (refine m_ldall rfl rfl ?_ ?_; (· first | rfl | (simp; done) | (simp [*]; done))))) | refine end_ops ?_ | refine seq_ops ?_ | refine AW_ops ?_ | (refine cond_f rfl ?_ ?_; (· first | rfl | assumption | (refine decide_eq_false ?_; first | assumption | omega) | (refine nf ?_; first | assumption | omega) | (simp [*]; done))) | refine AW_seq ?_ | refine norm_then ?_ | refine exit_then ?_ | refine exit_round ?_ | refine AW_exit ?_ | refine exit_block ?_)
        refine step_ops ?_
        refine m_bslz (l := chnV true L i) rfl rfl rfl rfl ?_
        refine step_ops ?_
        refine m_appz rfl (by decide) rfl hvl rfl rfl rfl rfl (by omega) (by decide) ?_
        repeat (first | (refine step_ops ?_; (first | (refine m_mov (by conv => lhs; whnf) ?_) | (refine m_add rfl rfl ?_ ?_ ?_; (· omega); (· omega)))) | refine end_ops ?_ | refine AW_ops ?_ | refine norm_then ?_ | refine norm_block ?_)
        refine next_round (i + 1) (by omega) (Weak.trans (weak_move (r := 33) (q := 4) rfl (by decide) (by decide)) (weak_st ?_ ?_ rfl rfl)) ?_
        · rw [e, List.length_append]
          (repeat' (first | exact trivial | refine And.intro ?_ ?_)) <;> (first | rfl | skip)
        · rw [e, ← seenK_all hp hc, chVs_snoc]
          (repeat' (first | exact trivial | refine And.intro ?_ ?_)) <;> (first | rfl | skip)
        · omega
  · repeat (first | (refine step_ops ?_; (first | (refine m_mov (by conv => lhs; whnf) ?_) | (refine m_lss rfl rfl ?_))) | refine end_ops ?_ | refine seq_ops ?_ | (refine cond_f rfl ?_ ?_; (· first | rfl | assumption | (refine decide_eq_false ?_; first | assumption | omega) | (refine nf ?_; first | assumption | omega) | (simp [*]; done))) | refine AW_seq ?_ | refine AW_ret ?_ | refine ret_done ?_ | refine norm_then ?_ | refine exit_then ?_ | refine exit_round ?_ | refine AW_exit ?_ | refine exit_block ?_)
    obtain rfl : i = L.length := by omega
    exact outs_sln rfl hvl (chVs_new _ _)
end Go.Proofs.Yteiipnadhalnbaa
namespace Go.Proofs.Yteiipnadhalnbaa
open Go.Am
attribute [local irreducible] AW Outs Weak Lends Lend Sp aops atree aop1 Then Round InBlock Done
attribute [local irreducible] SpH DoneH
/-- The least common multiple, number after number. -/
def lcF : List Nat → Nat → Nat
  | [], a => a
  | b :: l, a => lcF l (a / Nat.gcd a b * b)
theorem lcF_snoc (l : List Nat) (b a : Nat) : lcF (l ++ [b]) a = lcF l a / Nat.gcd (lcF l a) b * b := by
  induction l generalizing a with
  | nil => rfl
  | cons x l ih => simp only [List.cons_append, lcF, ih]
theorem lcF_le (l : List Nat) (h : ∀ b ∈ l, 1 ≤ b ∧ b ≤ 12) (k : Nat) (hk : l.length ≤ k) : ∀ a, 1 ≤ a → 1 ≤ lcF l a ∧ lcF l a ≤ a * 12 ^ k := by
  induction l generalizing k with
  | nil => intro a ha; exact ⟨ha, Nat.le_mul_of_pos_right _ (Nat.pow_pos (by omega))⟩
  | cons b l ih =>
    intro a ha
    obtain ⟨n, rfl⟩ : ∃ n, k = n + 1 := ⟨k - 1, by simp at hk; omega⟩
    obtain ⟨h1, h2⟩ := h b (List.mem_cons_self ..)
    have hg : 0 < Nat.gcd a b := Nat.gcd_pos_of_pos_left _ ha
    have hge : 1 ≤ a / Nat.gcd a b := Nat.div_pos (Nat.le_of_dvd ha (Nat.gcd_dvd_left a b)) hg
    have hle : a / Nat.gcd a b ≤ a := Nat.div_le_self _ _
    have h3 : 1 ≤ a / Nat.gcd a b * b := Nat.mul_pos hge h1
    have h4 : a / Nat.gcd a b * b ≤ a * 12 := Nat.mul_le_mul hle h2
    obtain ⟨h5, h6⟩ := ih (fun x hx => h x (List.mem_cons_of_mem _ hx)) n (by simpa using hk) _ h3
    refine ⟨h5, Nat.le_trans h6 ?_⟩
    rw [Nat.pow_succ', ← Nat.mul_assoc]
    exact Nat.mul_le_mul_right _ h4
def pers (L : List Int) : List Nat := (sts L L.length).map (per L)
def timesF (L : List Int) : Nat := lcF (pers L) 1
theorem pers_ok {L : List Int} (h : IsEx L) : (pers L).length ≤ 12 ∧ ∀ b ∈ pers L, 1 ≤ b ∧ b ≤ 12 := by
  have hp := ex_pm h
  have h12 := h.2.1
  have := sts_len L L.length
  refine ⟨by unfold pers; rw [List.length_map]; omega, fun b hb => ?_⟩
  unfold pers at hb
  rw [List.mem_map] at hb
  obtain ⟨i, hi, rfl⟩ := hb
  have := per_spec hp (sts_lt L _ i hi)
  omega
theorem lcF_take {L : List Int} (h : IsEx L) (j : Nat) : 1 ≤ lcF ((pers L).take j) 1 ∧ lcF ((pers L).take j) 1 ≤ 8916100448256 := by
  obtain ⟨h1, h2⟩ := pers_ok h
  have := lcF_le ((pers L).take j) (fun b hb => h2 b (List.mem_of_mem_take hb)) 12 (by rw [List.length_take]; omega) 1 (by omega)
  exact ⟨this.1, by have := this.2; omega⟩
theorem eachChainI_spec (L : List Int) (h : IsEx L) : Sp Try.prog 68 [ints L, .v (.func (.func 69) #[] #[])] (newInts ((pers L).map fun (p : Nat) => (p : Int))) := by
  have hp := ex_pm h
  have h12 := h.2.1
  have hsl := sts_len L L.length
  unfold pers
  generalize hS : sts L L.length = S at *
  have hlt : ∀ j ∈ S, j < L.length := fun j hj => sts_lt L L.length j (hS ▸ hj)
  rw [List.map_map]
  refine spec_of Try.func68 rfl cc68 rfl ?_
  unfold ac68
  repeat (first | (refine step_ops ?_; (first | (refine m_mov (by conv => lhs; whnf) ?_) | (refine m_nils ?_))) | refine end_ops ?_ | refine seq_ops ?_ | refine AW_seq ?_)
  (refine step_ops ?_); (apply m_call (chainsIn_spec L h)); (· repeat (first | exact lends_nil | (refine lends_cons ?_ ?_; (· (refine lend_ints ?_; first | rfl | omega)))))
  rw [hS]
  repeat (first | (refine step_ops ?_; (first | (refine m_mov (by conv => lhs; whnf) ?_) | (refine m_len_ro rfl ?_))) | refine end_ops ?_ | refine AW_block ?_)
  refine AW_loop (α := Nat) (fun j => j ≤ S.length) (fun j => st [(1, .v (.func (.func 69) #[] #[])), (5, .sl 5 1 0 ((S.take j).map fun a => ((per L a : Nat) : Int)).length), (9, .ro true 3 (chVs L S).flatten S.length), (10, .i S.length), (11, .i j)] [(5, (true, ((S.take j).map fun a => ((per L a : Nat) : Int)).map AV.i))]) (fun j => S.length - j) 0 (by omega)
    (weak_st ?_ ?_ rfl rfl) ?_
  · (repeat' (first | exact trivial | refine And.intro ?_ ?_)) <;> (first | rfl | skip)
  · (repeat' (first | exact trivial | refine And.intro ?_ ?_)) <;> (first | rfl | skip)
  intro j hj
  have htl : ((S.take j).map fun a => ((per L a : Nat) : Int)).length = j := by simp; omega
  have hcl := chVs_len L S
  by_cases hc : j < S.length
  · have hgm : S.getD j 0 ∈ S := by simp [hc]
    have hgl := hlt _ hgm
    have hat : (((chVs L S).flatten.drop (j * 3)).take 3) = chnV true L (S.getD j 0) := by
      rw [drop_flat _ 3 j (chVs_row L S) (by simpa [chVs] using hc)]
      simp [chVs, hc]
    have es : (S.take (j + 1)).map (fun a => ((per L a : Nat) : Int)) = (S.take j).map (fun a => ((per L a : Nat) : Int)) ++ [((per L (S.getD j 0) : Nat) : Int)] := by rw [take_snoc S j 0 hc, List.map_append]; rfl
    repeat (first | (refine step_ops ?_; (first | (refine m_lss rfl rfl ?_) | (refine m_idx_ro rfl rfl ?_ ?_ ?_; (· omega); (· omega)))) | refine end_ops ?_ | refine seq_ops ?_ | (refine cond_t rfl ?_ ?_; (· first | rfl | assumption | (refine decide_eq_true ?_; first | assumption | omega) | (refine nt ?_; first | assumption | omega) | (simp [*]; done))) | refine skip_then ?_ | refine AW_seq ?_ | refine AW_block ?_)
    refine step_ops ?_
    refine m_ldk_rp rfl (by simp only [List.length_drop, Int.toNat_natCast]; omega) ?_
    rw [Int.toNat_natCast, hat]
    repeat (first | (refine step_ops ?_; (first | (refine m_mov (by conv => lhs; whnf) ?_) | (refine m_alloc ?_) | (refine m_ldall rfl rfl ?_ ?_; (· first | rfl | (simp; done) | (simp [*]; done))) | (refine m_stall rfl rfl rfl ?_ ?_ ?_ ?_; (· first | rfl | (simp [*]; done)); (· first | rfl | (simp [*]; done)); (· first | rfl | (simp [cellOk, Value.oneCell']; done))))) | refine end_ops ?_ | refine AW_ops ?_)
    refine step_ops ?_
    refine m_callv rfl ⟨_, Try.func69, by rfl, by rfl⟩ (length_spec L (S.getD j 0) h hgl) ?_ ?_
    · exact lends_cons (lend_aggs (lends_cons lend_v (lends_cons lend_v (lends_cons (lend_ro (allv_ints _)) lends_nil)))) lends_nil
    repeat (first | (refine step_ops ?_; (first | (refine m_mov (by conv => lhs; whnf) ?_) | (refine m_add rfl rfl ?_ ?_ ?_; (· omega); (· omega)) | (refine m_bsl1 rfl rfl ?_) | (refine m_app1i rfl (by decide) (by rfl) (by first | rfl | omega | (simp; done)) rfl rfl ?_ (by decide) ?_; (· first | omega | (simp; omega))))) | refine end_ops ?_ | refine AW_ops ?_ | refine norm_then ?_ | refine norm_block ?_)
    refine next_round (j + 1) (by omega) (Weak.trans (weak_move (r := 20) (q := 5) rfl (by decide) (by decide)) (weak_st ?_ ?_ rfl rfl)) ?_
    · rw [es]
      (repeat' (first | exact trivial | refine And.intro ?_ ?_)) <;> (first | rfl | skip)
    · rw [es]
      exact ⟨rfl, trivial⟩
    · omega
  · repeat (first | (refine step_ops ?_; (first | (refine m_mov (by conv => lhs; whnf) ?_) | (refine m_lss rfl rfl ?_))) | refine end_ops ?_ | refine seq_ops ?_ | (refine cond_f rfl ?_ ?_; (· first | rfl | assumption | (refine decide_eq_false ?_; first | assumption | omega) | (refine nf ?_; first | assumption | omega) | (simp [*]; done))) | refine AW_seq ?_ | refine AW_ret ?_ | refine ret_done ?_ | refine norm_then ?_ | refine exit_then ?_ | refine exit_round ?_ | refine AW_exit ?_ | refine exit_block ?_)
    obtain rfl : j = S.length := by omega
    rw [List.take_length]
    exact outs_ints rfl rfl (by simp)
end Go.Proofs.Yteiipnadhalnbaa
namespace Go.Proofs.Yteiipnadhalnbaa
open Go.Am
attribute [local irreducible] AW Outs Weak Lends Lend Sp aops atree aop1 Then Round InBlock Done
theorem commonDivisor_spec (a b : Nat) : Sp Try.prog 81 [.i a, .i b] (.i (Nat.gcd a b)) := by
  refine spec_of Try.func81 rfl cc81 rfl ?_
  unfold ac81
  repeat (first | ((first | refine step_ops ?_ | refine step_tree ?_); (first | (refine m_mov (by conv => lhs; whnf) ?_) | (refine m_neq rfl rfl ?_) | (refine m_neqk rfl rfl ?_) | (refine m_neqs_self rfl rfl ?_) | (refine m_neqs rfl rfl ?_) | (refine m_rem rfl rfl ?_ ?_ ?_; (· omega); (· omega)))) | refine end_ops ?_ | refine seq_ops ?_ | refine AW_ops ?_ | refine end_tree ?_ | refine seq_tree ?_ | refine AW_tree ?_ | (refine cond_t rfl ?_ ?_; (· first | rfl | assumption | (refine decide_eq_true ?_; first | assumption | omega) | (refine nt ?_; first | assumption | omega) | (simp [*]; done))) | (refine cond_f rfl ?_ ?_; (· first | rfl | assumption | (refine decide_eq_false ?_; first | assumption | omega) | (refine nf ?_; first | assumption | omega) | (simp [*]; done))) | refine skip_then ?_ | refine AW_seq ?_ | refine AW_ret ?_ | refine ret_done ?_ | refine norm_then ?_ | refine ret_then ?_ | refine exit_then ?_ | refine AW_block ?_ | refine norm_block ?_ | refine ret_block ?_ | refine ret_round ?_ | refine exit_round ?_ | refine AW_exit ?_ | refine exit_block ?_ | (refine exit_other ?_ ?_; (· decide)) | refine AW_skip ?_)
  refine AW_loop (α := Nat × Nat) (fun q => Nat.gcd q.1 q.2 = Nat.gcd a b) (fun q => st [(0, .i q.1), (1, .i q.2)] []) (fun q => q.2) (a, b) rfl (weak_st ?_ ?_ rfl rfl) ?_
  · (repeat' (first | exact trivial | refine And.intro ?_ ?_)) <;> (first | rfl | skip)
  · trivial
  rintro ⟨u, v⟩ hq
  dsimp only at hq ⊢
  by_cases hc : v = 0
  · subst hc
    have hc' : ((0 : Nat) : Int) = 0 := rfl
    repeat (first | ((first | refine step_ops ?_ | refine step_tree ?_); (first | (refine m_mov (by conv => lhs; whnf) ?_) | (refine m_neq rfl rfl ?_) | (refine m_neqk rfl rfl ?_) | (refine m_neqs_self rfl rfl ?_) | (refine m_neqs rfl rfl ?_) | (refine m_rem rfl rfl ?_ ?_ ?_; (· omega); (· omega)))) | refine end_ops ?_ | refine seq_ops ?_ | refine AW_ops ?_ | refine end_tree ?_ | refine seq_tree ?_ | refine AW_tree ?_ | (refine cond_t rfl ?_ ?_; (· first | rfl | assumption | (refine decide_eq_true ?_; first | assumption | omega) | (refine nt ?_; first | assumption | omega) | (simp [*]; done))) | (refine cond_f rfl ?_ ?_; (· first | rfl | assumption | (refine decide_eq_false ?_; first | assumption | omega) | (refine nf ?_; first | assumption | omega) | (simp [*]; done))) | refine skip_then ?_ | refine AW_seq ?_ | refine AW_ret ?_ | refine ret_done ?_ | refine norm_then ?_ | refine ret_then ?_ | refine exit_then ?_ | refine AW_block ?_ | refine norm_block ?_ | refine ret_block ?_ | refine ret_round ?_ | refine exit_round ?_ | refine AW_exit ?_ | refine exit_block ?_ | (refine exit_other ?_ ?_; (· decide)) | refine AW_skip ?_)
    refine outs_i ?_
    rw [← hq, Nat.gcd_zero_right]
  · have hc' : ¬ (v : Int) = 0 := by omega
    repeat (first | ((first | refine step_ops ?_ | refine step_tree ?_); (first | (refine m_mov (by conv => lhs; whnf) ?_) | (refine m_neq rfl rfl ?_) | (refine m_neqk rfl rfl ?_) | (refine m_neqs_self rfl rfl ?_) | (refine m_neqs rfl rfl ?_) | (refine m_rem rfl rfl ?_ ?_ ?_; (· omega); (· omega)))) | refine end_ops ?_ | refine seq_ops ?_ | refine AW_ops ?_ | refine end_tree ?_ | refine seq_tree ?_ | refine AW_tree ?_ | (refine cond_t rfl ?_ ?_; (· first | rfl | assumption | (refine decide_eq_true ?_; first | assumption | omega) | (refine nt ?_; first | assumption | omega) | (simp [*]; done))) | (refine cond_f rfl ?_ ?_; (· first | rfl | assumption | (refine decide_eq_false ?_; first | assumption | omega) | (refine nf ?_; first | assumption | omega) | (simp [*]; done))) | refine skip_then ?_ | refine AW_seq ?_ | refine AW_ret ?_ | refine ret_done ?_ | refine norm_then ?_ | refine ret_then ?_ | refine exit_then ?_ | refine AW_block ?_ | refine norm_block ?_ | refine ret_block ?_ | refine ret_round ?_ | refine exit_round ?_ | refine AW_exit ?_ | refine exit_block ?_ | (refine exit_other ?_ ?_; (· decide)) | refine AW_skip ?_)
    refine next_round (v, u % v) ?_ (weak_st ?_ ?_ rfl rfl) ?_
    · dsimp only
      rw [← hq, Nat.gcd_comm u v, Nat.gcd_rec v u, Nat.gcd_comm]
    · (repeat' (first | exact trivial | refine And.intro ?_ ?_)) <;> (first | rfl | skip)
    · trivial
    · exact Nat.mod_lt _ (by omega)
end Go.Proofs.Yteiipnadhalnbaa
