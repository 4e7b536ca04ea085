/- The abstract machine: structs of a slice of integers and a text: a new one becomes the caller's own region. -/
import Derived.Test.YtojpcpdbnmnknaaAmHu
namespace Go.Am
variable {P : Program} {s : AS} {K : AS → Prop} {d : Option Nat}
/-- A desk that is read; a new one; one whose list is a region of the caller's. -/
abbrev dsk (L : List Int) (b : List UInt8) : AV := .agg [ints L, str b]
abbrev newDsk (L : List Int) (b : List UInt8) : AV := .agg [newInts L, str b]
theorem ints_read (L : List Int) : readL (L.map AV.i) = true := by
  induction L with
  | nil => rfl
  | cons a l ih => show (readV (AV.i a) && readL (l.map AV.i)) = true; rw [ih]; rfl
theorem dsk_flat (L : List Int) (b : List UInt8) : flatA (dsk L b) = true := by
  show (readV (ints L) && (readV (str b) && true)) = true
  simp [ints, readV, ints_read]
theorem dsk_own (L : List Int) (b : List UInt8) : ownV true (dsk L b) = true := by
  show (ownV true (ints L) && (ownV true (str b) && true)) = true
  have h : (L.map AV.i).all plainV = true := allv_ints L
  simp only [ints, ownV, h]
  rfl
theorem dsk_refs (keep : Nat → Bool) (L : List Int) (b : List UInt8) : refsV keep (dsk L b) = true := by
  show (refsV keep (ints L) && (refsV keep (str b) && true)) = true
  simp [ints, refsV]
theorem ints_own (q : Bool) (L : List Int) : ownL q (L.map AV.i) = true := by
  induction L with
  | nil => rfl
  | cons a l ih => show (ownV q (AV.i a) && ownL q (l.map AV.i)) = true; rw [ih]; rfl
theorem ints_refs (keep : Nat → Bool) (L : List Int) : refsL keep (L.map AV.i) = true := by
  induction L with
  | nil => rfl
  | cons a l ih => show (refsV keep (AV.i a) && refsL keep (l.map AV.i)) = true; rw [ih]; rfl
theorem lend_intr {hp : Hp} {fr : Bool} {L : List Int} {n : Nat} (hn : n = L.length) : Lend hp (.ro fr 1 (L.map AV.i) n) (ints L) := by
  subst hn
  exact lend_ro (allv_ints L)
theorem lend_dsk {hp : Hp} {fr : Bool} {L : List Int} {b : List UInt8} {n : Nat} (hn : n = L.length) : Lend hp (.agg [.ro fr 1 (L.map AV.i) n, str b]) (dsk L b) :=
  lend_aggs (lends_cons (lend_intr hn) (lends_cons lend_v lends_nil))
theorem lend_dsks {hp : Hp} {r : Nat} {L : List Int} {b : List UInt8} {n : Nat} (hr : hp r = some (true, L.map AV.i)) (hn : n = L.length) : Lend hp (.agg [.sl r 1 0 n, str b]) (dsk L b) :=
  lend_aggs (lends_cons (lend_sli hr hn) (lends_cons lend_v lends_nil))
/-- A call that makes a struct with a new slice first. -/
theorem sp_ownD {f : FuncId} {as : List AV} {x : Value} {cs : List AV} {n : Nat} (hs : Sp P f as (.agg [.ro true 1 cs n, .v x])) (hr : as.all flatA = true) (hpl : cs.all plainV = true) :
    SpH P f as (look []) (.agg [.sl nbase 1 0 n, .v x]) (look (oneH cs)) := by
  intro w vs phi hg _ _ _ hsim hsz
  have hent : Entry w as vs.toList := ⟨simL_flat (C := ctxE w phi (look [])) hr rfl (fun b hb => hb.1) hsim, by simpa using hsz⟩
  refine (hs w vs hg hent).mono fun e w' ⟨v, h1, hm, hv⟩ => ?_
  simp only [SimV] at hv
  obtain ⟨a, rfl, hsz2, hsl⟩ := hv
  obtain ⟨al⟩ := a
  match al with
  | [] => simp at hsz2
  | [_] => simp at hsz2
  | _ :: _ :: _ :: _ => simp at hsz2
  | [p, q] =>
    simp only [SimL, and_true] at hsl
    obtain ⟨hp, hq⟩ := hsl
    obtain ⟨bo, k1, k2, k3⟩ := own_ro hpl hp
    refine ⟨_, fun r => if r = nbase then bo else none, h1, hm.os, hm.tape, hm.output, hm.size, fun r hr => by simp [look] at hr, fun b hb _ => hm.block b hb, fun b cur e f hb => ⟨cur, (hm.block b (lt_of_get hb)).trans hb, rfl⟩, inj_one, ?_, k3, ?_⟩
    · intro r b _ _ hb
      dsimp only at hb
      split at hb
      · exact k1 b hb
      · cases hb
    · simp only [SimV]
      refine ⟨#[p, q], rfl, rfl, ?_⟩
      simp only [SimL, and_true]
      exact ⟨k2, by simpa only [SimV] using hq⟩
/-- The same with plain values beside it. -/
theorem sp_ownE {f : FuncId} {as : List AV} {x : Value} {cs rest : List AV} {n : Nat} (hs : Sp P f as (.tup (.agg [.ro true 1 cs n, .v x] :: rest))) (hr : as.all flatA = true) (hpl : cs.all plainV = true) (hrest : rest.all plainV = true) :
    SpH P f as (look []) (.tup (.agg [.sl nbase 1 0 n, .v x] :: rest)) (look (oneH cs)) := by
  intro w vs phi hg _ _ _ hsim hsz
  have hent : Entry w as vs.toList := ⟨simL_flat (C := ctxE w phi (look [])) hr rfl (fun b hb => hb.1) hsim, by simpa using hsz⟩
  refine (hs w vs hg hent).mono fun e w' ⟨v, h1, hm, hv⟩ => ?_
  simp only [SimV] at hv
  obtain ⟨t, rfl, hsz1, htl⟩ := hv
  obtain ⟨tl⟩ := t
  match tl with
  | [] => simp [SimL] at htl
  | v1 :: vr =>
    simp only [SimL] at htl
    obtain ⟨hv1, hvr⟩ := htl
    simp only [SimV] at hv1
    obtain ⟨a, rfl, hsz2, hsl⟩ := hv1
    obtain ⟨al⟩ := a
    match al with
    | [] => simp at hsz2
    | [_] => simp at hsz2
    | _ :: _ :: _ :: _ => simp at hsz2
    | [p, q] =>
      simp only [SimL, and_true] at hsl
      obtain ⟨hp, hq⟩ := hsl
      obtain ⟨bo, k1, k2, k3⟩ := own_ro hpl hp
      refine ⟨_, fun r => if r = nbase then bo else none, h1, hm.os, hm.tape, hm.output, hm.size, fun r hr => by simp [look] at hr, fun b hb _ => hm.block b hb, fun b cur e f hb => ⟨cur, (hm.block b (lt_of_get hb)).trans hb, rfl⟩, inj_one, ?_, k3, ?_⟩
      · intro r b _ _ hb
        dsimp only at hb
        split at hb
        · exact k1 b hb
        · cases hb
      · simp only [SimV]
        refine ⟨(.agg #[p, q] :: vr).toArray, rfl, by simpa using hsz1, ?_⟩
        show SimL (.agg [.sl nbase 1 0 n, .v x] :: rest) _ (.agg #[p, q] :: vr)
        simp only [SimL]
        refine ⟨?_, simL_allv hrest hvr⟩
        simp only [SimV]
        exact ⟨#[p, q], rfl, rfl, by simp only [SimL, and_true]; exact ⟨k2, by simpa only [SimV] using hq⟩⟩
theorem ints_ren (g : Nat → Nat) (L : List Int) : renL g (L.map AV.i) = L.map AV.i := renL_ints g L
theorem m_newD {f : FuncId} {args : List Opd} {as : List AV} {L : List Int} {b : List UInt8} (q : Nat) (hs : Sp P f as (newDsk L b)) (hr : as.all flatA = true) (hl : Lends s.hp (args.map s.ev) as) (hq : s.hp q = none) (hqp : q < pbase)
    (k : K ((s.mem q (true, L.map AV.i)).put d (.agg [.sl q 1 0 L.length, str b]))) : aop1 P true ⟨d, .call f args, none⟩ s K :=
  m_new1 q (sp_ownD hs hr (allv_ints L)) hl hq hqp (fun g => ints_ren g L) (ints_own _ L) rfl k
theorem renL_plain (g : Nat → Nat) : ∀ {l : List AV}, l.all plainV = true → renL g l = l
  | [], _ => rfl
  | a :: l, h => by
    simp only [List.all_cons, Bool.and_eq_true] at h
    rw [renL, renL_plain g h.2]
    cases a <;> simp [plainV] at h
    rfl
theorem ownL_plain (q : Bool) : ∀ {l : List AV}, l.all plainV = true → ownL q l = true
  | [], _ => rfl
  | a :: l, h => by
    simp only [List.all_cons, Bool.and_eq_true] at h
    rw [ownL, ownL_plain q h.2]
    cases a <;> simp [plainV] at h
    rfl
theorem m_newE {f : FuncId} {args : List Opd} {as rest : List AV} {L : List Int} {b : List UInt8} (q : Nat) (hs : Sp P f as (.tup (newDsk L b :: rest))) (hr : as.all flatA = true) (hrest : rest.all plainV = true) (hl : Lends s.hp (args.map s.ev) as) (hq : s.hp q = none) (hqp : q < pbase)
    (k : K ((s.mem q (true, L.map AV.i)).put d (.tup (.agg [.sl q 1 0 L.length, str b] :: rest)))) : aop1 P true ⟨d, .call f args, none⟩ s K := by
  refine m_new1 q (sp_ownE hs hr (allv_ints L) hrest) hl hq hqp (fun g => ints_ren g L) (ints_own _ L) ?_ ?_
  · show (ownV false (.agg [.sl nbase 1 0 L.length, str b]) && ownL false rest) = true
    rw [ownL_plain false hrest]; rfl
  · show K (AS.put _ d (.tup (renV _ (.agg [.sl nbase 1 0 L.length, str b]) :: renL _ rest)))
    rw [renL_plain _ hrest]
    exact k
/-- A call that writes the list of a struct. -/
theorem m_markD {f : FuncId} {args : List Opd} {b : List UInt8} {x y : Value} {L M : List Int} (q : Nat) (hs : SpH P f [.agg [.sl pbase 1 0 L.length, str b], .v x] (look (lenH (L.map AV.i))) (.v y) (look (lenH (M.map AV.i)))) (ha : args.map s.ev = [.agg [.sl q 1 0 L.length, str b], .v x])
    (hq : s.hp q = some (true, L.map AV.i)) (k : K ((s.mem q (true, M.map AV.i)).put d (.v y))) : aop1 P true ⟨d, .call f args, none⟩ s K := by
  have hin : look (lenH (L.map AV.i)) pbase = some (true, L.map AV.i) := by simp [look]
  have hout : look (lenH (M.map AV.i)) pbase = some (true, M.map AV.i) := by simp [look]
  refine m_callh (hp' := (s.mem q (true, M.map AV.i)).hp) (fun r => if r = pbase then q else r) hs ?_ ⟨fun r c hc => ?_, fun r r' h1 h2 _ => ?_, fun r hr => ?_, fun r hr hn => ?_, fun r c hc => ?_, fun q' hq' => ?_, fun r c hc => ?_, fun r c hc => ?_, rfl⟩ k
  · rw [ha]
    have e : [AV.agg [.sl q 1 0 L.length, str b], AV.v x] = renL (fun r => if r = pbase then q else r) [.agg [.sl pbase 1 0 L.length, str b], .v x] := by simp [renL, renV]
    rw [e]
    refine lendsH_ren (fun r c hc => ?_) rfl ?_
    · obtain ⟨rfl, rfl⟩ := look_len hc
      rw [if_pos rfl, hq]
      rfl
    · simp [refsL, refsV, look]
  · obtain ⟨rfl, rfl⟩ := look_len hc
    rw [if_pos rfl, hq]
    show _ = some (true, renL _ (L.map AV.i))
    rw [ints_ren]
  · rw [look_len_is h1, look_len_is h2]
  · rw [look_len_is hr, hout]
    rfl
  · rw [look_len_is hr, hin] at hn
    cases hn
  · obtain ⟨rfl, rfl⟩ := look_len hc
    rw [if_pos rfl]
    show (if q = q then some (true, M.map AV.i) else s.hp q) = some (true, renL _ (M.map AV.i))
    rw [if_pos rfl, ints_ren]
  · have hne : q' ≠ q := fun e => by
      refine hq' pbase (by rw [hout]; rfl) ?_
      rw [if_pos rfl]
      exact e.symm
    exact hp_mem_ne hne
  · obtain ⟨rfl, rfl⟩ := look_len hc
    exact ⟨ints_own _ _, ints_refs _ _⟩
  · obtain ⟨rfl, rfl⟩ := look_len hc
    exact ints_own _ _
end Go.Am
