/- Contracts: maps.Clone, by the shelf's contract. -/
import Derived.Test.YtojpcpdbnmnknaaDoorSpA
import Derived.Test.YtojpcpdbnmnknaaDoorAmGv
import Derived.Shelf.SlMaps.Clone
namespace Go.Am
/-- One new map. -/
abbrev oneM (es : Array MapEntry) (ck : Nat) : List (Nat × (Bool × List AV)) := [(nbase, (true, [.ob (.map es ck)]))]
theorem spH_clone {P : Program} {f : FuncId} (h : ∀ (b : Nat) (es : Array MapEntry) (clock : Nat) (w : World), w.heap[b]? = some (.map es clock) → Calls P f #[.map (some b)] w fun e w' => e = .returned (.map (some w.heap.size)) ∧ w' = w.alloc (.map es clock))
    (es : Array MapEntry) (ck : Nat) : SpH P f [.rmp false es ck] (fun _ => none) (.mp nbase) (look (oneM es ck)) := by
  intro w vs phi _ _ _ _ hs hl
  obtain ⟨l⟩ := vs
  match l with
  | [] => simp at hl
  | _ :: _ :: _ => simp at hl
  | [a] =>
    simp only [SimL, SimV, and_true] at hs
    obtain ⟨b, rfl, hb, _, _⟩ := hs
    refine (h b es ck w hb).mono fun e w' hp => ?_
    obtain ⟨rfl, rfl⟩ := hp
    refine ⟨_, fun r => if r = nbase then some w.heap.size else none, rfl, rfl, rfl, rfl, by simp, fun r hr => by simp at hr, fun b hb _ => heap_alloc_old w _ hb, fun b cur e fz hb => ⟨cur, (heap_alloc_old w _ (lt_of_get hb)).trans hb, rfl⟩, ?_, ?_, ?_, ?_⟩
    · intro r r' b h1 h2 e1 e2
      have k1 := look_isSome.1 h1
      have k2 := look_isSome.1 h2
      simp at k1 k2
      rw [k1, k2]
    · intro r b h1 _ e1
      have e1 : (if r = nbase then some w.heap.size else none) = some b := e1
      split at e1
      · cases e1; exact Nat.le_refl _
      · cases e1
    · intro r c hc
      have hm := look_mem hc
      simp at hm
      obtain ⟨rfl, rfl⟩ := hm
      exact .inr (.inr ⟨w.heap.size, .map es ck, rfl, (if_pos rfl : (if nbase = nbase then some w.heap.size else none) = some w.heap.size), heap_alloc_new w _, rfl⟩)
    · simp only [SimV]
      exact ⟨rfl, rfl, w.heap.size, (if_pos rfl : (if nbase = nbase then some w.heap.size else none) = some w.heap.size), rfl⟩
/-- A map is cloned, into a region q. -/
theorem m_clone {P : Program} {s : AS} {K : AS → Prop} {d : Option Nat} {f : FuncId} {x : Opd} {es : Array MapEntry} {ck : Nat} (q : Nat) (hs : SpH P f [.rmp false es ck] (fun _ => none) (.mp nbase) (look (oneM es ck))) (hx : MapAt s (s.ev x) es ck)
    (hq : s.hp q = none) (hqp : q < pbase) (k : K ((s.mem q (true, [.ob (.map es ck)])).put d (.mp q))) : aop1 P true ⟨d, .call f [x], none⟩ s K := by
  have hl : Lends s.hp [s.ev x] [.rmp false es ck] := by
    rcases hx with ⟨r, h1, h2⟩ | ⟨fr, h1⟩
    · rw [h1]; exact lends_cons (lend_map h2) lends_nil
    · rw [h1]; exact lends_cons lend_rmp lends_nil
  have hg : ∀ r, ((look (oneM es ck)) r).isSome = true → r = nbase := fun r hr => by have := look_isSome.1 hr; simpa using this
  refine m_callh (hp' := (s.mem q (true, [.ob (.map es ck)])).hp) (fun _ => q) hs (lendsH_none hl) ⟨fun r c h => by simp at h, fun r r' h1 h2 _ => by rw [hg r h1, hg r' h2], fun r h => by simp at h, fun r _ _ => ⟨hq, hqp⟩, fun r c hc => ?_, fun p hp => ?_, fun r c h => by simp at h, fun r c hc => ?_, rfl⟩ k
  · have hm := look_mem hc
    simp at hm
    obtain ⟨rfl, rfl⟩ := hm
    simp [AS.mem]; rfl
  · have : p ≠ q := fun e => hp nbase rfl e.symm
    simp [AS.mem, this]
  · have hm := look_mem hc
    simp at hm
    obtain ⟨rfl, rfl⟩ := hm
    rfl
end Go.Am
namespace Go.Proofs.YtojpcpdbnmnknaaDoor
open Go.Am
def cloneRenP : Go.Shelf.Ren := ⟨fun | 5 => 50 | 7 => 67 | n => n, fun | 4 => 4 | 20 => 20 | 23 => 41 | 25 => 63 | 3 => 4 | n => n, fun n => n⟩
theorem cloneLayP : SlLaysW.n5 Tryd.prog cloneRenP := {
  mixed := by kernel_rfl
  f5 := ⟨Tryd.f50.name, by kernel_rfl, Tryd.func50.trans (congrArg some (by kernel_rfl))⟩
  f7 := Tryd.func67.trans (congrArg some (by kernel_rfl))
  t4 := Tryd.underlying4
  a4 := Tryd.isAgg4
  z4 := Tryd.sizeOf4
  v4 := Tryd.zeroValue4
  t20 := Tryd.underlying20
  a20 := Tryd.isAgg20
  z20 := Tryd.sizeOf20
  v20 := Tryd.zeroValue20
  t23 := Tryd.underlying41
  a23 := Tryd.isAgg41
  z23 := Tryd.sizeOf41
  v23 := Tryd.zeroValue41 }
theorem clonePlaces_spec (es : Array MapEntry) (ck : Nat) : SpH Tryd.prog 50 [.rmp false es ck] (fun _ => none) (.mp nbase) (Am.look (oneM es ck)) :=
  spH_clone (fun b es clock w hb => AnyW.maps_Clone cloneLayP b es clock w hb) es ck
def cloneRenW : Go.Shelf.Ren := ⟨fun | 5 => 51 | 7 => 67 | n => n, fun | 4 => 4 | 20 => 20 | 23 => 64 | 25 => 52 | 3 => 3 | n => n, fun n => n⟩
theorem cloneLayW : SlLaysW.n5 Tryd.prog cloneRenW := {
  mixed := by kernel_rfl
  f5 := ⟨Tryd.f51.name, by kernel_rfl, Tryd.func51.trans (congrArg some (by kernel_rfl))⟩
  f7 := Tryd.func67.trans (congrArg some (by kernel_rfl))
  t4 := Tryd.underlying4
  a4 := Tryd.isAgg4
  z4 := Tryd.sizeOf4
  v4 := Tryd.zeroValue4
  t20 := Tryd.underlying20
  a20 := Tryd.isAgg20
  z20 := Tryd.sizeOf20
  v20 := Tryd.zeroValue20
  t23 := Tryd.underlying64
  a23 := Tryd.isAgg64
  z23 := Tryd.sizeOf64
  v23 := Tryd.zeroValue64 }
theorem cloneWays_spec (es : Array MapEntry) (ck : Nat) : SpH Tryd.prog 51 [.rmp false es ck] (fun _ => none) (.mp nbase) (Am.look (oneM es ck)) :=
  spH_clone (fun b es clock w hb => AnyW.maps_Clone cloneLayW b es clock w hb) es ck
end Go.Proofs.YtojpcpdbnmnknaaDoor
