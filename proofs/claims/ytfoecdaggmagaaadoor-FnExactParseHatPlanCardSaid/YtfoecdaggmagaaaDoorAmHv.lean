/- The abstract machine: structs that hold a slice: a new one becomes the caller's own region; texts in a slice. The abstract machine: calls that make a struct with texts of the caller's own, and calls that write such texts. Calls of the library's, told to the machine: texts in a slice and one text more. -/
import Derived.Test.YtfoecdaggmagaaaDoorAmW
import Derived.Test.YtfoecdaggmagaaaDoorAmZ
import Derived.RowKit
namespace Go.Am
variable {P : Program}

/-- Values that are read, in structs too. -/
def flatA : AV → Bool
  | .agg l => readL l
  | x => readV x
theorem simV_flat {x : AV} {C D : Ctx} {y : Value} (hr : flatA x = true) (hh : D.heap = C.heap) (hro : ∀ b, C.ro b → D.ro b) (h : SimV x C y) : SimV x D y := by
  cases x with
  | agg l =>
    simp only [flatA] at hr
    simp only [SimV] at h ⊢
    obtain ⟨a, h1, h2, h3⟩ := h
    exact ⟨a, h1, h2, SimL.read l C D _ hr hh hro h3⟩
  | _ => exact SimV.read _ C D y hr hh hro h
theorem simL_flat : ∀ {l : List AV} {C D : Ctx} {ys : List Value}, l.all flatA = true → D.heap = C.heap → (∀ b, C.ro b → D.ro b) → SimL l C ys → SimL l D ys
  | [], _, _, _, _, _, _, _ => by simp [SimL]
  | _ :: _, _, _, [], _, _, _, h => by simp [SimL] at h
  | a :: l, C, D, y :: ys, hr, hh, hro, h => by
    rw [List.all_cons, Bool.and_eq_true] at hr
    simp only [SimL] at h ⊢
    exact ⟨simV_flat hr.1 hh hro h.1, simL_flat hr.2 hh hro h.2⟩
/-- The region that a new slice becomes. -/
abbrev oneH (cs : List AV) : List (Nat × (Bool × List AV)) := [(nbase, (true, cs))]
theorem own_ro {w w' : World} {cs : List AV} {n : Nat} {v : Value} (hpl : cs.all plainV = true) (h : SimV (.ro true 1 cs n) (fresh w w') v) :
    ∃ bo : Option Nat, (∀ b, bo = some b → w.heap.size ≤ b) ∧ SimV (.sl nbase 1 0 n) (ctxX w w' (fun r => if r = nbase then bo else none) (look (oneH cs))) v ∧ Regs (ctxX w w' (fun r => if r = nbase then bo else none) (look (oneH cs))) (look (oneH cs)) := by
  have hl : ∀ r c, look (oneH cs) r = some c → r = nbase ∧ c = (true, cs) := by
    intro r c hc
    have := look_mem hc
    rw [List.mem_singleton] at this
    exact ⟨congrArg Prod.fst this, congrArg Prod.snd this⟩
  simp only [SimV] at h
  rcases h with ⟨rfl, rfl, a, c, rfl, h⟩ | ⟨b, o, cap, cur, e, fz, rfl, h1, h2, h3, h4, h5, h6⟩
  · obtain ⟨rfl, rfl⟩ := h trivial
    refine ⟨none, by simp, ?_, ?_⟩
    · simp only [SimV]
      exact ⟨rfl, by simp [ctxX, look], .inl ⟨by simp [ctxX], by simp⟩⟩
    · intro r c hc
      obtain ⟨rfl, rfl⟩ := hl r c hc
      exact .inl ⟨by simp [ctxX], rfl⟩
  · obtain ⟨k1, rfl, rfl, k4, k5⟩ := h5 trivial
    refine ⟨some b, fun b' hb => by cases hb; exact k1, ?_, ?_⟩
    · simp only [SimV]
      refine ⟨rfl, by simp [ctxX, look], .inr ⟨b, 0, cap, cur, e, by simp [ctxX], rfl, h1, .inl rfl, h4, k4, by omega⟩⟩
    · intro r c hc
      obtain ⟨rfl, rfl⟩ := hl r c hc
      refine .inr (.inl ⟨b, cur, e, by simp [ctxX], h1, ?_⟩)
      simp only [SimR, if_true]
      rw [List.drop_zero] at h6
      exact simL_allv hpl h6
theorem inj_one {cs : List AV} {bo : Option Nat} : Inj (look (oneH cs)) (fun r => if r = nbase then bo else none) := by
  intro r r' b h1 h2 _ _
  have k : ∀ r, (look (oneH cs) r).isSome = true → r = nbase := fun r h => by
    have := look_isSome.1 h
    simpa using this
  rw [k r h1, k r' h2]

/-- A call that makes a struct with a new slice. -/
theorem sp_ownA {f : FuncId} {as : List AV} {x : Value} {cs : List AV} {n : Nat} (hs : Sp P f as (.agg [.v x, .ro true 1 cs n])) (hr : as.all flatA = true) (hpl : cs.all plainV = true) :
    SpH P f as (look []) (.agg [.v x, .sl nbase 1 0 n]) (look (oneH cs)) := by
  intro w vs phi hg _ _ _ hsim hsz
  have hent : Entry w as vs.toList := ⟨simL_flat (C := ctxE w phi (look [])) hr rfl (fun b hb => hb.1) hsim, by simpa using hsz⟩
  refine (hs w vs hg hent).mono fun e w' ⟨v, h1, hm, hv⟩ => ?_
  simp only [SimV] at hv
  obtain ⟨a, rfl, hsz2, hsl⟩ := hv
  obtain ⟨al⟩ := a
  match al with
  | [] => simp at hsz2
  | [_] => simp at hsz2
  | _ :: _ :: _ :: _ => simp at hsz2
  | [p, q] =>
    simp only [SimL, and_true] at hsl
    obtain ⟨hp, hq⟩ := hsl
    obtain ⟨bo, k1, k2, k3⟩ := own_ro hpl hq
    refine ⟨_, fun r => if r = nbase then bo else none, h1, hm.os, hm.tape, hm.output, hm.size, fun r hr => by simp [look] at hr, fun b hb _ => hm.block b hb, fun b cur e f hb => ⟨cur, (hm.block b (lt_of_get hb)).trans hb, rfl⟩, inj_one, ?_, k3, ?_⟩
    · intro r b _ _ hb
      dsimp only at hb
      split at hb
      · exact k1 b hb
      · cases hb
    · simp only [SimV]
      refine ⟨#[p, q], rfl, rfl, ?_⟩
      simp only [SimL, and_true]
      exact ⟨by simpa only [SimV] using hp, k2⟩
/-- The same with a flag beside it. -/
theorem sp_ownT {f : FuncId} {as : List AV} {x z : Value} {cs : List AV} {n : Nat} (hs : Sp P f as (.tup [.agg [.v x, .ro true 1 cs n], .v z])) (hr : as.all flatA = true) (hpl : cs.all plainV = true) :
    SpH P f as (look []) (.tup [.agg [.v x, .sl nbase 1 0 n], .v z]) (look (oneH cs)) := by
  intro w vs phi hg _ _ _ hsim hsz
  have hent : Entry w as vs.toList := ⟨simL_flat (C := ctxE w phi (look [])) hr rfl (fun b hb => hb.1) hsim, by simpa using hsz⟩
  refine (hs w vs hg hent).mono fun e w' ⟨v, h1, hm, hv⟩ => ?_
  simp only [SimV] at hv
  obtain ⟨t, rfl, hsz1, htl⟩ := hv
  obtain ⟨tl⟩ := t
  match tl with
  | [] => simp at hsz1
  | [_] => simp at hsz1
  | _ :: _ :: _ :: _ => simp at hsz1
  | [v1, v2] =>
    simp only [SimL, SimV, and_true] at htl
    obtain ⟨⟨a, rfl, hsz2, hsl⟩, rfl⟩ := htl
    obtain ⟨al⟩ := a
    match al with
    | [] => simp at hsz2
    | [_] => simp at hsz2
    | _ :: _ :: _ :: _ => simp at hsz2
    | [p, q] =>
      simp only [SimL, and_true] at hsl
      obtain ⟨hp, hq⟩ := hsl
      obtain ⟨bo, k1, k2, k3⟩ := own_ro hpl hq
      refine ⟨_, fun r => if r = nbase then bo else none, h1, hm.os, hm.tape, hm.output, hm.size, fun r hr => by simp [look] at hr, fun b hb _ => hm.block b hb, fun b cur e f hb => ⟨cur, (hm.block b (lt_of_get hb)).trans hb, rfl⟩, inj_one, ?_, k3, ?_⟩
      · intro r b _ _ hb
        dsimp only at hb
        split at hb
        · exact k1 b hb
        · cases hb
      · simp only [SimV]
        refine ⟨#[.agg #[p, q], v2], rfl, rfl, ?_⟩
        simp only [SimL, SimV, and_true]
        exact ⟨#[p, q], rfl, rfl, by simpa only [SimV] using hp, by simp only [SimL, and_true]; exact k2⟩

theorem m_boxd {own : Bool} {s : AS} {K : AS → Prop} {x : Opd} {r n : Nat} {l : List AV} (hx : s.ev x = .agg l) (hok : l.all (cellOk false) = true) (hk : killR r (false, l) = (false, l)) (k : K (((s.kill r).mem r (false, l)).put (some r) (.pt r 0))) : aop1 P own ⟨some r, .box n x, none⟩ s K :=
  ⟨r, false, rfl, .inr ⟨l, hx, hok, by rw [hk]; exact k⟩⟩
/-- Texts in a slice. -/
def txs (G : List (List UInt8)) : List AV := G.map fun r => str r
theorem txs_len (G : List (List UInt8)) : (txs G).length = G.length := by simp [txs]
theorem txs_plain (G : List (List UInt8)) : (txs G).all plainV = true := by simp [txs, plainV]
theorem txs_ok (G : List (List UInt8)) : (txs G).all (cellOk true) = true := by
  simp only [txs, List.all_map, List.all_eq_true]
  intro x _
  rfl
theorem txs_at {G : List (List UInt8)} {k : Nat} (h : k < G.length) : ((txs G).drop k)[0]? = some (str (G.getD k [])) := by simp [txs, h]
theorem txs_get {G : List (List UInt8)} {k : Nat} (h : k < G.length) : (txs G)[k]? = some (str (G.getD k [])) := by simp [txs, h]
theorem txs_append (G H : List (List UInt8)) : txs (G ++ H) = txs G ++ txs H := by simp [txs]
theorem txs_own (q : Bool) (G : List (List UInt8)) : ownL q (txs G) = true := by
  induction G with
  | nil => rfl
  | cons a l ih => show (ownV q (str a) && ownL q (txs l)) = true; rw [ih]; rfl
theorem txs_refs (keep : Nat → Bool) (G : List (List UInt8)) : refsL keep (txs G) = true := by
  induction G with
  | nil => rfl
  | cons a l ih => show (refsV keep (str a) && refsL keep (txs l)) = true; rw [ih]; rfl
theorem txs_ren (f : Nat → Nat) (G : List (List UInt8)) : renL f (txs G) = txs G := by
  induction G with
  | nil => rfl
  | cons a l ih => show renV f (str a) :: renL f (txs l) = _; rw [ih]; rfl
theorem txs_read (G : List (List UInt8)) : readL (txs G) = true := by
  induction G with
  | nil => rfl
  | cons a l ih => show (readV (str a) && readL (txs l)) = true; rw [ih]; rfl
/-- A struct of a number and texts, read; a new one. -/
abbrev pln (c : Int) (G : List (List UInt8)) : AV := .agg [.i c, .ro false 1 (txs G) G.length]
abbrev newPln (c : Int) (G : List (List UInt8)) : AV := .agg [.i c, .ro true 1 (txs G) G.length]
theorem pln_flat (c : Int) (G : List (List UInt8)) : flatA (pln c G) = true := by
  show (readV (AV.i c) && (readV (.ro false 1 (txs G) G.length) && true)) = true
  simp [readV, txs_read]
theorem pln_own (c : Int) (G : List (List UInt8)) : ownV true (pln c G) = true := by
  show (ownV true (AV.i c) && (ownV true (.ro false 1 (txs G) G.length) && true)) = true
  simp [ownV, txs_plain]
theorem pln_refs (keep : Nat → Bool) (c : Int) (G : List (List UInt8)) : refsV keep (pln c G) = true := by
  show (refsV keep (AV.i c) && (refsV keep (.ro false 1 (txs G) G.length) && true)) = true
  simp [refsV]
theorem lend_txr {hp : Hp} {fr : Bool} {G : List (List UInt8)} {n : Nat} (hn : n = G.length) : Lend hp (.ro fr 1 (txs G) n) (.ro false 1 (txs G) G.length) := by
  subst hn
  exact lend_ro (txs_plain G)
theorem lend_txs {hp : Hp} {r n : Nat} {G : List (List UInt8)} (hr : hp r = some (true, txs G)) (hn : n = G.length) : Lend hp (.sl r 1 0 n) (.ro false 1 (txs G) G.length) := by
  subst hn
  have h := lend_sl (z := 1) (off := 0) (n := G.length) hr (by rw [txs_len]; omega) (txs_plain G)
  have e : ((txs G).drop 0).take (G.length * 1) = txs G := by rw [List.drop_zero, Nat.mul_one]; exact List.take_of_length_le (by rw [txs_len]; omega)
  rw [e] at h
  exact h
theorem lend_pln {hp : Hp} {fr : Bool} {c : Int} {G : List (List UInt8)} {n : Nat} (hn : n = G.length) : Lend hp (.agg [.i c, .ro fr 1 (txs G) n]) (pln c G) :=
  lend_aggs (lends_cons lend_v (lends_cons (lend_txr hn) lends_nil))
theorem lend_plns {hp : Hp} {r : Nat} {c : Int} {G : List (List UInt8)} {n : Nat} (hr : hp r = some (true, txs G)) (hn : n = G.length) : Lend hp (.agg [.i c, .sl r 1 0 n]) (pln c G) :=
  lend_aggs (lends_cons lend_v (lends_cons (lend_txs hr hn) lends_nil))
theorem outs_txs {s : AS} {r n : Nat} {cs : List AV} {G : List (List UInt8)} (hr : s.hp r = some (true, cs)) (e : cs = txs G) (hl : n = G.length) : Outs s (.sl r 1 0 n) (.ro true 1 (txs G) G.length) := by
  subst e; subst hl
  exact outs_sl hr (by rw [txs_len, Nat.mul_one]) (txs_plain _)
end Go.Am

namespace Go.Am
variable {P : Program} {s : AS} {K : AS → Prop} {d : Option Nat}
theorem look_one {cs : List AV} {r : Nat} {c : Bool × List AV} (h : look (oneH cs) r = some c) : r = nbase ∧ c = (true, cs) := by
  have := look_mem h
  rw [List.mem_singleton] at this
  exact ⟨congrArg Prod.fst this, congrArg Prod.snd this⟩
theorem look_one_is {cs : List AV} {r : Nat} (h : (look (oneH cs) r).isSome = true) : r = nbase := by
  obtain ⟨c, hc⟩ := Option.isSome_iff_exists.1 h
  exact (look_one hc).1
/-- A call that hands out one new region. -/
theorem m_new1 {f : FuncId} {args : List Opd} {as : List AV} {cs : List AV} {res : AV} (q : Nat) (hs : SpH P f as (look []) res (look (oneH cs))) (hl : Lends s.hp (args.map s.ev) as) (hq : s.hp q = none) (hqp : q < pbase)
    (hren : ∀ g, renL g cs = cs) (hown : ownL false cs = true) (hor : ownV false res = true) (k : K ((s.mem q (true, cs)).put d (renV (fun r => if r = nbase then q else r) res))) : aop1 P true ⟨d, .call f args, none⟩ s K := by
  refine m_callh (hp' := (s.mem q (true, cs)).hp) (fun r => if r = nbase then q else r) hs (lendsH_none hl) ⟨fun r c hc => by simp [look] at hc, fun r r' h1 h2 _ => ?_, fun r hr => by simp [look] at hr, fun r hr _ => ?_, fun r c hc => ?_, fun q' hq' => ?_, fun r c hc => by simp [look] at hc, fun r c hc => ?_, hor⟩ k
  · rw [look_one_is h1, look_one_is h2]
  · rw [look_one_is hr, if_pos rfl]
    exact ⟨hq, hqp⟩
  · obtain ⟨rfl, rfl⟩ := look_one hc
    rw [if_pos rfl]
    show (if q = q then some (true, cs) else s.hp q) = some (true, renL _ cs)
    rw [if_pos rfl, hren]
  · have hne : q' ≠ q := fun e => by
      refine hq' nbase (by simp [look]) ?_
      rw [if_pos rfl]
      exact e.symm
    exact hp_mem_ne hne
  · obtain ⟨rfl, rfl⟩ := look_one hc
    exact hown
theorem m_newA {f : FuncId} {args : List Opd} {as : List AV} {c : Int} {G : List (List UInt8)} (q : Nat) (hs : Sp P f as (newPln c G)) (hr : as.all flatA = true) (hl : Lends s.hp (args.map s.ev) as) (hq : s.hp q = none) (hqp : q < pbase)
    (k : K ((s.mem q (true, txs G)).put d (.agg [.i c, .sl q 1 0 G.length]))) : aop1 P true ⟨d, .call f args, none⟩ s K :=
  m_new1 q (sp_ownA hs hr (txs_plain G)) hl hq hqp (fun g => txs_ren g G) (txs_own _ G) rfl k
theorem m_newT {f : FuncId} {args : List Opd} {as : List AV} {c : Int} {G : List (List UInt8)} {z : Value} (q : Nat) (hs : Sp P f as (.tup [newPln c G, .v z])) (hr : as.all flatA = true) (hl : Lends s.hp (args.map s.ev) as) (hq : s.hp q = none) (hqp : q < pbase)
    (k : K ((s.mem q (true, txs G)).put d (.tup [.agg [.i c, .sl q 1 0 G.length], .v z]))) : aop1 P true ⟨d, .call f args, none⟩ s K :=
  m_new1 q (sp_ownT hs hr (txs_plain G)) hl hq hqp (fun g => txs_ren g G) (txs_own _ G) rfl k
/-- The one region that such a call is lent. -/
abbrev lenH (cs : List AV) : List (Nat × (Bool × List AV)) := [(pbase, (true, cs))]
theorem look_len {cs : List AV} {r : Nat} {c : Bool × List AV} (h : look (lenH cs) r = some c) : r = pbase ∧ c = (true, cs) := by
  have := look_mem h
  rw [List.mem_singleton] at this
  exact ⟨congrArg Prod.fst this, congrArg Prod.snd this⟩
theorem look_len_is {cs : List AV} {r : Nat} (h : (look (lenH cs) r).isSome = true) : r = pbase := by
  obtain ⟨c, hc⟩ := Option.isSome_iff_exists.1 h
  exact (look_len hc).1
/-- A call that writes the texts of a struct. -/
theorem m_markP {f : FuncId} {args : List Opd} {c : Int} {n : Nat} {x y : Value} {G M : List (List UInt8)} (q : Nat) (hs : SpH P f [.agg [.i c, .sl pbase 1 0 n], .v x] (look (lenH (txs G))) (.v y) (look (lenH (txs M)))) (ha : args.map s.ev = [.agg [.i c, .sl q 1 0 n], .v x])
    (hq : s.hp q = some (true, txs G)) (k : K ((s.mem q (true, txs M)).put d (.v y))) : aop1 P true ⟨d, .call f args, none⟩ s K := by
  have hin : look (lenH (txs G)) pbase = some (true, txs G) := by simp [look]
  have hout : look (lenH (txs M)) pbase = some (true, txs M) := by simp [look]
  refine m_callh (hp' := (s.mem q (true, txs M)).hp) (fun r => if r = pbase then q else r) hs ?_ ⟨fun r c hc => ?_, fun r r' h1 h2 _ => ?_, fun r hr => ?_, fun r hr hn => ?_, fun r c hc => ?_, fun q' hq' => ?_, fun r c hc => ?_, fun r c hc => ?_, rfl⟩ k
  · rw [ha]
    have e : [AV.agg [.i c, .sl q 1 0 n], AV.v x] = renL (fun r => if r = pbase then q else r) [.agg [.i c, .sl pbase 1 0 n], .v x] := by simp [renL, renV]
    rw [e]
    refine lendsH_ren (fun r c hc => ?_) rfl ?_
    · obtain ⟨rfl, rfl⟩ := look_len hc
      rw [if_pos rfl, hq]
      rfl
    · simp [refsL, refsV, look]
  · obtain ⟨rfl, rfl⟩ := look_len hc
    rw [if_pos rfl, hq]
    show _ = some (true, renL _ (txs G))
    rw [txs_ren]
  · rw [look_len_is h1, look_len_is h2]
  · rw [look_len_is hr, hout]
    rfl
  · rw [look_len_is hr, hin] at hn
    cases hn
  · obtain ⟨rfl, rfl⟩ := look_len hc
    rw [if_pos rfl]
    show (if q = q then some (true, txs M) else s.hp q) = some (true, renL _ (txs M))
    rw [if_pos rfl, txs_ren]
  · have hne : q' ≠ q := fun e => by
      refine hq' pbase (by rw [hout]; rfl) ?_
      rw [if_pos rfl]
      exact e.symm
    exact hp_mem_ne hne
  · obtain ⟨rfl, rfl⟩ := look_len hc
    exact ⟨txs_own _ _, txs_refs _ _⟩
  · obtain ⟨rfl, rfl⟩ := look_len hc
    exact txs_own _ _
theorem outs_nilro {z : Nat} : Outs s (.v (.slice none 0 0)) (.ro true z [] 0) := by
  intro w0 N tm w phi ro y hS hy
  simp only [SimV] at hy ⊢
  exact .inl ⟨trivial, trivial, none, 0, hy, by simp⟩
theorem outs_ron {z n : Nat} {cs : List AV} (hall : cs.all plainV = true) : Outs s (.ro true z cs n) (.ro true z cs n) := by
  intro w0 N tm w phi ro y hS h
  simp only [SimV] at h ⊢
  rcases h with h | ⟨b, o, cap, cur, e, fz, h1, h2, h3, h4, h5, h6, h7⟩
  · exact .inl h
  · obtain ⟨k1, k2⟩ := h6 trivial
    exact .inr ⟨b, o, cap, cur, e, fz, h1, h2, ⟨k1, lt_of_get h2⟩, h4, h5, fun _ => ⟨k1, k2⟩, simL_allv hall h7⟩
end Go.Am

namespace Go.Am
/-- A call with a slice of texts and one text more. -/
theorem sp_joinT {P : Program} {f : FuncId} {ls : List (List UInt8)} {sep : List UInt8} {y : Value}
    (h0 : ls = [] → ∀ a c w, Calls P f #[.slice a 0 c, .string ⟨sep.toArray⟩] w fun e w' => e = .returned y ∧ w' = w)
    (h : ∀ (bk o c : Nat) (w : World), (∀ (j : Nat) x, (ls.map fun r => (⟨r.toArray⟩ : ByteArray))[j]? = some x → w.cell? ⟨bk, o + j, none⟩ = some (.string x)) → bk < w.heap.size → ls.length ≤ c →
      Calls P f #[.slice (some ⟨bk, o, none⟩) ls.length c, .string ⟨sep.toArray⟩] w fun e w' => e = .returned y ∧ RowKit.Below w.heap.size w w') :
    Sp P f [.ro false 1 (txs ls) ls.length, str sep] (.v y) := by
  intro w vs _ hent
  obtain ⟨hs, hl⟩ := hent
  obtain ⟨l⟩ := vs
  match l with
  | [] => simp at hl
  | [_] => simp at hl
  | _ :: _ :: _ :: _ => simp at hl
  | [a, b] =>
    simp only [SimL, and_true] at hs
    obtain ⟨ha, hb⟩ := hs
    simp only [SimV] at ha hb
    subst hb
    rcases ha with ⟨hn, _, ad, c, rfl, _⟩ | ⟨bk, o, cap, cur, e, fz, rfl, hc, _, hlen, hcap, _, hsim⟩
    · have : ls = [] := List.eq_nil_of_length_eq_zero hn
      refine (h0 this ad c w).mono fun e w' hp => ?_
      obtain ⟨rfl, rfl⟩ := hp
      exact ⟨y, rfl, More.refl _, by simp [SimV]⟩
    · refine (h bk o cap w (fun j x hx => ?_) (lt_of_get hc) hcap).mono fun e w' hp => ?_
      · have hj : (txs ls)[j]? = some (.v (.string x)) := by
          unfold txs
          rw [List.getElem?_map] at hx ⊢
          cases hh : ls[j]? with
          | none => rw [hh] at hx; cases hx
          | some r => rw [hh] at hx; cases hx; rfl
        obtain ⟨z, hz, hzz⟩ := hsim.get hj
        simp only [SimV] at hzz
        subst hzz
        rw [List.getElem?_drop] at hz
        show w.cell? ⟨bk, o + j, none⟩ = _
        unfold World.cell?
        simp only [hc]
        simpa using hz
      · obtain ⟨rfl, hw⟩ := hp
        exact ⟨y, rfl, ⟨hw.os, hw.tape, hw.output, hw.size, hw.block⟩, by simp [SimV]⟩
end Go.Am
