/- The abstract machine: structs that hold a slice: a new one becomes the caller's own region; texts in a slice. -/
import Derived.Test.YtojpcpdbnmnknaaAmW
import Derived.Test.YtojpcpdbnmnknaaAmZ
namespace Go.Am
variable {P : Program}

/-- Values that are read, in structs too. -/
def flatA : AV → Bool
  | .agg l => readL l
  | x => readV x
theorem simV_flat {x : AV} {C D : Ctx} {y : Value} (hr : flatA x = true) (hh : D.heap = C.heap) (hro : ∀ b, C.ro b → D.ro b) (h : SimV x C y) : SimV x D y := by
  cases x with
  | agg l =>
    simp only [flatA] at hr
    simp only [SimV] at h ⊢
    obtain ⟨a, h1, h2, h3⟩ := h
    exact ⟨a, h1, h2, SimL.read l C D _ hr hh hro h3⟩
  | _ => exact SimV.read _ C D y hr hh hro h
theorem simL_flat : ∀ {l : List AV} {C D : Ctx} {ys : List Value}, l.all flatA = true → D.heap = C.heap → (∀ b, C.ro b → D.ro b) → SimL l C ys → SimL l D ys
  | [], _, _, _, _, _, _, _ => by simp [SimL]
  | _ :: _, _, _, [], _, _, _, h => by simp [SimL] at h
  | a :: l, C, D, y :: ys, hr, hh, hro, h => by
    rw [List.all_cons, Bool.and_eq_true] at hr
    simp only [SimL] at h ⊢
    exact ⟨simV_flat hr.1 hh hro h.1, simL_flat hr.2 hh hro h.2⟩
/-- The region that a new slice becomes. -/
abbrev oneH (cs : List AV) : List (Nat × (Bool × List AV)) := [(nbase, (true, cs))]
theorem own_ro {w w' : World} {cs : List AV} {n : Nat} {v : Value} (hpl : cs.all plainV = true) (h : SimV (.ro true 1 cs n) (fresh w w') v) :
    ∃ bo : Option Nat, (∀ b, bo = some b → w.heap.size ≤ b) ∧ SimV (.sl nbase 1 0 n) (ctxX w w' (fun r => if r = nbase then bo else none) (look (oneH cs))) v ∧ Regs (ctxX w w' (fun r => if r = nbase then bo else none) (look (oneH cs))) (look (oneH cs)) := by
  have hl : ∀ r c, look (oneH cs) r = some c → r = nbase ∧ c = (true, cs) := by
    intro r c hc
    have := look_mem hc
    rw [List.mem_singleton] at this
    exact ⟨congrArg Prod.fst this, congrArg Prod.snd this⟩
  simp only [SimV] at h
  rcases h with ⟨rfl, rfl, a, c, rfl, h⟩ | ⟨b, o, cap, cur, e, fz, rfl, h1, h2, h3, h4, h5, h6⟩
  · obtain ⟨rfl, rfl⟩ := h trivial
    refine ⟨none, by simp, ?_, ?_⟩
    · simp only [SimV]
      exact ⟨rfl, by simp [ctxX, look], .inl ⟨by simp [ctxX], by simp⟩⟩
    · intro r c hc
      obtain ⟨rfl, rfl⟩ := hl r c hc
      exact .inl ⟨by simp [ctxX], rfl⟩
  · obtain ⟨k1, rfl, rfl, k4, k5⟩ := h5 trivial
    refine ⟨some b, fun b' hb => by cases hb; exact k1, ?_, ?_⟩
    · simp only [SimV]
      refine ⟨rfl, by simp [ctxX, look], .inr ⟨b, 0, cap, cur, e, by simp [ctxX], rfl, h1, .inl rfl, h4, k4, by omega⟩⟩
    · intro r c hc
      obtain ⟨rfl, rfl⟩ := hl r c hc
      refine .inr (.inl ⟨b, cur, e, by simp [ctxX], h1, ?_⟩)
      simp only [SimR, if_true]
      rw [List.drop_zero] at h6
      exact simL_allv hpl h6
theorem inj_one {cs : List AV} {bo : Option Nat} : Inj (look (oneH cs)) (fun r => if r = nbase then bo else none) := by
  intro r r' b h1 h2 _ _
  have k : ∀ r, (look (oneH cs) r).isSome = true → r = nbase := fun r h => by
    have := look_isSome.1 h
    simpa using this
  rw [k r h1, k r' h2]

/-- A call that makes a struct with a new slice. -/
theorem sp_ownA {f : FuncId} {as : List AV} {x : Value} {cs : List AV} {n : Nat} (hs : Sp P f as (.agg [.v x, .ro true 1 cs n])) (hr : as.all flatA = true) (hpl : cs.all plainV = true) :
    SpH P f as (look []) (.agg [.v x, .sl nbase 1 0 n]) (look (oneH cs)) := by
  intro w vs phi hg _ _ _ hsim hsz
  have hent : Entry w as vs.toList := ⟨simL_flat (C := ctxE w phi (look [])) hr rfl (fun b hb => hb.1) hsim, by simpa using hsz⟩
  refine (hs w vs hg hent).mono fun e w' ⟨v, h1, hm, hv⟩ => ?_
  simp only [SimV] at hv
  obtain ⟨a, rfl, hsz2, hsl⟩ := hv
  obtain ⟨al⟩ := a
  match al with
  | [] => simp at hsz2
  | [_] => simp at hsz2
  | _ :: _ :: _ :: _ => simp at hsz2
  | [p, q] =>
    simp only [SimL, and_true] at hsl
    obtain ⟨hp, hq⟩ := hsl
    obtain ⟨bo, k1, k2, k3⟩ := own_ro hpl hq
    refine ⟨_, fun r => if r = nbase then bo else none, h1, hm.os, hm.tape, hm.output, hm.size, fun r hr => by simp [look] at hr, fun b hb _ => hm.block b hb, fun b cur e f hb => ⟨cur, (hm.block b (lt_of_get hb)).trans hb, rfl⟩, inj_one, ?_, k3, ?_⟩
    · intro r b _ _ hb
      dsimp only at hb
      split at hb
      · exact k1 b hb
      · cases hb
    · simp only [SimV]
      refine ⟨#[p, q], rfl, rfl, ?_⟩
      simp only [SimL, and_true]
      exact ⟨by simpa only [SimV] using hp, k2⟩
/-- The same with a flag beside it. -/
theorem sp_ownT {f : FuncId} {as : List AV} {x z : Value} {cs : List AV} {n : Nat} (hs : Sp P f as (.tup [.agg [.v x, .ro true 1 cs n], .v z])) (hr : as.all flatA = true) (hpl : cs.all plainV = true) :
    SpH P f as (look []) (.tup [.agg [.v x, .sl nbase 1 0 n], .v z]) (look (oneH cs)) := by
  intro w vs phi hg _ _ _ hsim hsz
  have hent : Entry w as vs.toList := ⟨simL_flat (C := ctxE w phi (look [])) hr rfl (fun b hb => hb.1) hsim, by simpa using hsz⟩
  refine (hs w vs hg hent).mono fun e w' ⟨v, h1, hm, hv⟩ => ?_
  simp only [SimV] at hv
  obtain ⟨t, rfl, hsz1, htl⟩ := hv
  obtain ⟨tl⟩ := t
  match tl with
  | [] => simp at hsz1
  | [_] => simp at hsz1
  | _ :: _ :: _ :: _ => simp at hsz1
  | [v1, v2] =>
    simp only [SimL, SimV, and_true] at htl
    obtain ⟨⟨a, rfl, hsz2, hsl⟩, rfl⟩ := htl
    obtain ⟨al⟩ := a
    match al with
    | [] => simp at hsz2
    | [_] => simp at hsz2
    | _ :: _ :: _ :: _ => simp at hsz2
    | [p, q] =>
      simp only [SimL, and_true] at hsl
      obtain ⟨hp, hq⟩ := hsl
      obtain ⟨bo, k1, k2, k3⟩ := own_ro hpl hq
      refine ⟨_, fun r => if r = nbase then bo else none, h1, hm.os, hm.tape, hm.output, hm.size, fun r hr => by simp [look] at hr, fun b hb _ => hm.block b hb, fun b cur e f hb => ⟨cur, (hm.block b (lt_of_get hb)).trans hb, rfl⟩, inj_one, ?_, k3, ?_⟩
      · intro r b _ _ hb
        dsimp only at hb
        split at hb
        · exact k1 b hb
        · cases hb
      · simp only [SimV]
        refine ⟨#[.agg #[p, q], v2], rfl, rfl, ?_⟩
        simp only [SimL, SimV, and_true]
        exact ⟨#[p, q], rfl, rfl, by simpa only [SimV] using hp, by simp only [SimL, and_true]; exact k2⟩

theorem m_boxd {own : Bool} {s : AS} {K : AS → Prop} {x : Opd} {r n : Nat} {l : List AV} (hx : s.ev x = .agg l) (hok : l.all (cellOk false) = true) (hk : killR r (false, l) = (false, l)) (k : K (((s.kill r).mem r (false, l)).put (some r) (.pt r 0))) : aop1 P own ⟨some r, .box n x, none⟩ s K :=
  ⟨r, false, rfl, .inr ⟨l, hx, hok, by rw [hk]; exact k⟩⟩
/-- Texts in a slice. -/
def txs (G : List (List UInt8)) : List AV := G.map fun r => str r
theorem txs_len (G : List (List UInt8)) : (txs G).length = G.length := by simp [txs]
theorem txs_plain (G : List (List UInt8)) : (txs G).all plainV = true := by simp [txs, plainV]
theorem txs_ok (G : List (List UInt8)) : (txs G).all (cellOk true) = true := by
  simp only [txs, List.all_map, List.all_eq_true]
  intro x _
  rfl
theorem txs_at {G : List (List UInt8)} {k : Nat} (h : k < G.length) : ((txs G).drop k)[0]? = some (str (G.getD k [])) := by simp [txs, h]
theorem txs_get {G : List (List UInt8)} {k : Nat} (h : k < G.length) : (txs G)[k]? = some (str (G.getD k [])) := by simp [txs, h]
theorem txs_append (G H : List (List UInt8)) : txs (G ++ H) = txs G ++ txs H := by simp [txs]
theorem txs_own (q : Bool) (G : List (List UInt8)) : ownL q (txs G) = true := by
  induction G with
  | nil => rfl
  | cons a l ih => show (ownV q (str a) && ownL q (txs l)) = true; rw [ih]; rfl
theorem txs_refs (keep : Nat → Bool) (G : List (List UInt8)) : refsL keep (txs G) = true := by
  induction G with
  | nil => rfl
  | cons a l ih => show (refsV keep (str a) && refsL keep (txs l)) = true; rw [ih]; rfl
theorem txs_ren (f : Nat → Nat) (G : List (List UInt8)) : renL f (txs G) = txs G := by
  induction G with
  | nil => rfl
  | cons a l ih => show renV f (str a) :: renL f (txs l) = _; rw [ih]; rfl
theorem txs_read (G : List (List UInt8)) : readL (txs G) = true := by
  induction G with
  | nil => rfl
  | cons a l ih => show (readV (str a) && readL (txs l)) = true; rw [ih]; rfl
/-- A struct of a number and texts, read; a new one. -/
abbrev pln (c : Int) (G : List (List UInt8)) : AV := .agg [.i c, .ro false 1 (txs G) G.length]
abbrev newPln (c : Int) (G : List (List UInt8)) : AV := .agg [.i c, .ro true 1 (txs G) G.length]
theorem pln_flat (c : Int) (G : List (List UInt8)) : flatA (pln c G) = true := by
  show (readV (AV.i c) && (readV (.ro false 1 (txs G) G.length) && true)) = true
  simp [readV, txs_read]
theorem pln_own (c : Int) (G : List (List UInt8)) : ownV true (pln c G) = true := by
  show (ownV true (AV.i c) && (ownV true (.ro false 1 (txs G) G.length) && true)) = true
  simp [ownV, txs_plain]
theorem pln_refs (keep : Nat → Bool) (c : Int) (G : List (List UInt8)) : refsV keep (pln c G) = true := by
  show (refsV keep (AV.i c) && (refsV keep (.ro false 1 (txs G) G.length) && true)) = true
  simp [refsV]
theorem lend_txr {hp : Hp} {fr : Bool} {G : List (List UInt8)} {n : Nat} (hn : n = G.length) : Lend hp (.ro fr 1 (txs G) n) (.ro false 1 (txs G) G.length) := by
  subst hn
  exact lend_ro (txs_plain G)
theorem lend_txs {hp : Hp} {r n : Nat} {G : List (List UInt8)} (hr : hp r = some (true, txs G)) (hn : n = G.length) : Lend hp (.sl r 1 0 n) (.ro false 1 (txs G) G.length) := by
  subst hn
  have h := lend_sl (z := 1) (off := 0) (n := G.length) hr (by rw [txs_len]; omega) (txs_plain G)
  have e : ((txs G).drop 0).take (G.length * 1) = txs G := by rw [List.drop_zero, Nat.mul_one]; exact List.take_of_length_le (by rw [txs_len]; omega)
  rw [e] at h
  exact h
theorem lend_pln {hp : Hp} {fr : Bool} {c : Int} {G : List (List UInt8)} {n : Nat} (hn : n = G.length) : Lend hp (.agg [.i c, .ro fr 1 (txs G) n]) (pln c G) :=
  lend_aggs (lends_cons lend_v (lends_cons (lend_txr hn) lends_nil))
theorem lend_plns {hp : Hp} {r : Nat} {c : Int} {G : List (List UInt8)} {n : Nat} (hr : hp r = some (true, txs G)) (hn : n = G.length) : Lend hp (.agg [.i c, .sl r 1 0 n]) (pln c G) :=
  lend_aggs (lends_cons lend_v (lends_cons (lend_txs hr hn) lends_nil))
theorem outs_txs {s : AS} {r n : Nat} {cs : List AV} {G : List (List UInt8)} (hr : s.hp r = some (true, cs)) (e : cs = txs G) (hl : n = G.length) : Outs s (.sl r 1 0 n) (.ro true 1 (txs G) G.length) := by
  subst e; subst hl
  exact outs_sl hr (by rw [txs_len, Nat.mul_one]) (txs_plain _)
end Go.Am
