/- The abstract machine: calls that make a struct with texts of the caller's own, and calls that write such texts. -/
import Derived.Test.YtojpcpdbnmnknaaAmHt
namespace Go.Am
variable {P : Program} {s : AS} {K : AS → Prop} {d : Option Nat}
theorem look_one {cs : List AV} {r : Nat} {c : Bool × List AV} (h : look (oneH cs) r = some c) : r = nbase ∧ c = (true, cs) := by
  have := look_mem h
  rw [List.mem_singleton] at this
  exact ⟨congrArg Prod.fst this, congrArg Prod.snd this⟩
theorem look_one_is {cs : List AV} {r : Nat} (h : (look (oneH cs) r).isSome = true) : r = nbase := by
  obtain ⟨c, hc⟩ := Option.isSome_iff_exists.1 h
  exact (look_one hc).1
/-- A call that hands out one new region. -/
theorem m_new1 {f : FuncId} {args : List Opd} {as : List AV} {cs : List AV} {res : AV} (q : Nat) (hs : SpH P f as (look []) res (look (oneH cs))) (hl : Lends s.hp (args.map s.ev) as) (hq : s.hp q = none) (hqp : q < pbase)
    (hren : ∀ g, renL g cs = cs) (hown : ownL false cs = true) (hor : ownV false res = true) (k : K ((s.mem q (true, cs)).put d (renV (fun r => if r = nbase then q else r) res))) : aop1 P true ⟨d, .call f args, none⟩ s K := by
  refine m_callh (hp' := (s.mem q (true, cs)).hp) (fun r => if r = nbase then q else r) hs (lendsH_none hl) ⟨fun r c hc => by simp [look] at hc, fun r r' h1 h2 _ => ?_, fun r hr => by simp [look] at hr, fun r hr _ => ?_, fun r c hc => ?_, fun q' hq' => ?_, fun r c hc => by simp [look] at hc, fun r c hc => ?_, hor⟩ k
  · rw [look_one_is h1, look_one_is h2]
  · rw [look_one_is hr, if_pos rfl]
    exact ⟨hq, hqp⟩
  · obtain ⟨rfl, rfl⟩ := look_one hc
    rw [if_pos rfl]
    show (if q = q then some (true, cs) else s.hp q) = some (true, renL _ cs)
    rw [if_pos rfl, hren]
  · have hne : q' ≠ q := fun e => by
      refine hq' nbase (by simp [look]) ?_
      rw [if_pos rfl]
      exact e.symm
    exact hp_mem_ne hne
  · obtain ⟨rfl, rfl⟩ := look_one hc
    exact hown
theorem m_newA {f : FuncId} {args : List Opd} {as : List AV} {c : Int} {G : List (List UInt8)} (q : Nat) (hs : Sp P f as (newPln c G)) (hr : as.all flatA = true) (hl : Lends s.hp (args.map s.ev) as) (hq : s.hp q = none) (hqp : q < pbase)
    (k : K ((s.mem q (true, txs G)).put d (.agg [.i c, .sl q 1 0 G.length]))) : aop1 P true ⟨d, .call f args, none⟩ s K :=
  m_new1 q (sp_ownA hs hr (txs_plain G)) hl hq hqp (fun g => txs_ren g G) (txs_own _ G) rfl k
theorem m_newT {f : FuncId} {args : List Opd} {as : List AV} {c : Int} {G : List (List UInt8)} {z : Value} (q : Nat) (hs : Sp P f as (.tup [newPln c G, .v z])) (hr : as.all flatA = true) (hl : Lends s.hp (args.map s.ev) as) (hq : s.hp q = none) (hqp : q < pbase)
    (k : K ((s.mem q (true, txs G)).put d (.tup [.agg [.i c, .sl q 1 0 G.length], .v z]))) : aop1 P true ⟨d, .call f args, none⟩ s K :=
  m_new1 q (sp_ownT hs hr (txs_plain G)) hl hq hqp (fun g => txs_ren g G) (txs_own _ G) rfl k
/-- The one region that such a call is lent. -/
abbrev lenH (cs : List AV) : List (Nat × (Bool × List AV)) := [(pbase, (true, cs))]
theorem look_len {cs : List AV} {r : Nat} {c : Bool × List AV} (h : look (lenH cs) r = some c) : r = pbase ∧ c = (true, cs) := by
  have := look_mem h
  rw [List.mem_singleton] at this
  exact ⟨congrArg Prod.fst this, congrArg Prod.snd this⟩
theorem look_len_is {cs : List AV} {r : Nat} (h : (look (lenH cs) r).isSome = true) : r = pbase := by
  obtain ⟨c, hc⟩ := Option.isSome_iff_exists.1 h
  exact (look_len hc).1
/-- A call that writes the texts of a struct. -/
theorem m_markP {f : FuncId} {args : List Opd} {c : Int} {n : Nat} {x y : Value} {G M : List (List UInt8)} (q : Nat) (hs : SpH P f [.agg [.i c, .sl pbase 1 0 n], .v x] (look (lenH (txs G))) (.v y) (look (lenH (txs M)))) (ha : args.map s.ev = [.agg [.i c, .sl q 1 0 n], .v x])
    (hq : s.hp q = some (true, txs G)) (k : K ((s.mem q (true, txs M)).put d (.v y))) : aop1 P true ⟨d, .call f args, none⟩ s K := by
  have hin : look (lenH (txs G)) pbase = some (true, txs G) := by simp [look]
  have hout : look (lenH (txs M)) pbase = some (true, txs M) := by simp [look]
  refine m_callh (hp' := (s.mem q (true, txs M)).hp) (fun r => if r = pbase then q else r) hs ?_ ⟨fun r c hc => ?_, fun r r' h1 h2 _ => ?_, fun r hr => ?_, fun r hr hn => ?_, fun r c hc => ?_, fun q' hq' => ?_, fun r c hc => ?_, fun r c hc => ?_, rfl⟩ k
  · rw [ha]
    have e : [AV.agg [.i c, .sl q 1 0 n], AV.v x] = renL (fun r => if r = pbase then q else r) [.agg [.i c, .sl pbase 1 0 n], .v x] := by simp [renL, renV]
    rw [e]
    refine lendsH_ren (fun r c hc => ?_) rfl ?_
    · obtain ⟨rfl, rfl⟩ := look_len hc
      rw [if_pos rfl, hq]
      rfl
    · simp [refsL, refsV, look]
  · obtain ⟨rfl, rfl⟩ := look_len hc
    rw [if_pos rfl, hq]
    show _ = some (true, renL _ (txs G))
    rw [txs_ren]
  · rw [look_len_is h1, look_len_is h2]
  · rw [look_len_is hr, hout]
    rfl
  · rw [look_len_is hr, hin] at hn
    cases hn
  · obtain ⟨rfl, rfl⟩ := look_len hc
    rw [if_pos rfl]
    show (if q = q then some (true, txs M) else s.hp q) = some (true, renL _ (txs M))
    rw [if_pos rfl, txs_ren]
  · have hne : q' ≠ q := fun e => by
      refine hq' pbase (by rw [hout]; rfl) ?_
      rw [if_pos rfl]
      exact e.symm
    exact hp_mem_ne hne
  · obtain ⟨rfl, rfl⟩ := look_len hc
    exact ⟨txs_own _ _, txs_refs _ _⟩
  · obtain ⟨rfl, rfl⟩ := look_len hc
    exact txs_own _ _
theorem outs_nilro {z : Nat} : Outs s (.v (.slice none 0 0)) (.ro true z [] 0) := by
  intro w0 N tm w phi ro y hS hy
  simp only [SimV] at hy ⊢
  exact .inl ⟨trivial, trivial, none, 0, hy, by simp⟩
theorem outs_ron {z n : Nat} {cs : List AV} (hall : cs.all plainV = true) : Outs s (.ro true z cs n) (.ro true z cs n) := by
  intro w0 N tm w phi ro y hS h
  simp only [SimV] at h ⊢
  rcases h with h | ⟨b, o, cap, cur, e, fz, h1, h2, h3, h4, h5, h6, h7⟩
  · exact .inl h
  · obtain ⟨k1, k2⟩ := h6 trivial
    exact .inr ⟨b, o, cap, cur, e, fz, h1, h2, ⟨k1, lt_of_get h2⟩, h4, h5, fun _ => ⟨k1, k2⟩, simL_allv hall h7⟩
end Go.Am
