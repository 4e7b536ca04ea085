/- Contracts of the library's, told to the machine: Atoi, with its errors. -/
import Derived.Test.YtinalepjmlilpaaDoorSqL
import Derived.Test.YtinalepjmlilpaaDoorSpCl
import Derived.Test.YtinalepjmlilpaaDoorMaPx
import Derived.Lib.AtoiErrMem
namespace Go.Am
theorem more_of {w w' : World} (h : RowKit.Below w.heap.size w w') : More w w' := ⟨h.os, h.tape, h.output, h.size, h.block⟩
/-- A call with one told value that gives one told value and leaves what was there. -/
theorem sp_more {P : Program} {f : FuncId} {x : Value} {res : AV} {y : Value} (hr : ∀ C, SimV res C y) (h : ∀ w, Calls P f #[x] w fun e w' => e = .returned y ∧ More w w') : Sp P f [.v x] res := by
  intro w vs _ hent
  obtain ⟨hs, hl⟩ := hent
  obtain ⟨l⟩ := vs
  match l with
  | [] => simp at hl
  | _ :: _ :: _ => simp at hl
  | [a] =>
    simp only [SimL, SimV, and_true] at hs
    subst hs
    refine (h w).mono fun e w' hp => ?_
    obtain ⟨rfl, hm⟩ := hp
    exact ⟨y, rfl, hm, hr _⟩
/-- One that gives one of many. -/
theorem spx_more {P : Program} {f : FuncId} {x : Value} {ι : Type} {res : ι → AV} {y : ι → Value} (hr : ∀ i C, SimV (res i) C (y i)) (h : ∀ w, GoodW w → Calls P f #[x] w fun e w' => ∃ i, e = .returned (y i) ∧ More w w') :
    SpX P f [.v x] (fun _ => none) (fun _ => True) res (fun _ _ => none) := by
  intro w vs phi hg _ _ _ hs hl
  obtain ⟨l⟩ := vs
  match l with
  | [] => simp at hl
  | _ :: _ :: _ => simp at hl
  | [a] =>
    simp only [SimL, SimV, and_true] at hs
    subst hs
    refine (h w hg).mono fun e w' hp => ?_
    obtain ⟨i, rfl, hm⟩ := hp
    refine ⟨i, trivial, y i, phi, rfl, hm.os, hm.tape, hm.output, hm.size, fun r h => by simp at h, fun b hb _ => hm.block b hb, fun b cur e f hb => ⟨cur, (hm.block b (lt_of_get hb)).trans hb, rfl⟩, fun r r' b h => by simp at h, fun r b h => by simp at h, fun r c h => by simp at h, hr i _⟩
/-- A call whose result is told by an i. -/
theorem m_callxe {P : Program} {s : AS} {K : AS → Prop} {d : Option Nat} {f : FuncId} {args : List Opd} {ags : List AV} {ι : Type} {res : ι → AV} (hs : SpX P f ags (fun _ => none) (fun _ => True) res (fun _ _ => none)) (hl : Lends s.hp (args.map s.ev) ags) (i0 : ι)
    (hor : ∀ i, ownV false (res i) = true) (hren : ∀ i, renV id (res i) = res i) (k : ∀ i, K (s.put d (res i))) : aop1 P true ⟨d, .call f args, none⟩ s K := by
  refine m_callx (hp' := fun _ => s.hp) id hs (lendsH_none hl) ⟨i0, trivial⟩ fun i _ => ⟨⟨fun r c h => by simp at h, fun r r' h => by simp at h, fun r h => by simp at h, fun r h => by simp at h, fun r c h => by simp at h, fun q _ => rfl, fun r c h => by simp at h, fun r c h => by simp at h, hor i⟩, ?_⟩
  rw [hren i]
  exact k i
end Go.Am
namespace Go.Proofs.YtinalepjmlilpaaDoor
open Go.Am
theorem atoi_ok (w : List UInt8) (v : Int) (h : Lib.atoiAll w = .ok v) (hl : w.length ≤ 1048576) : Sp Tryd.prog 20 [str w] (.tup [.i v, .v .nilIface]) := by
  refine sp_more (y := .tuple #[.int .i64 v, .nilIface]) (fun C => by simp [SimV, SimL]) fun wd => ?_
  refine (Tryd.strconv_Atoi_ok ⟨w.toArray⟩ (by show w.toArray.size ≤ _; simp; omega) v h wd).mono fun e w' hp => ?_
  obtain ⟨rfl, rfl | ⟨t, rfl⟩⟩ := hp
  · exact ⟨rfl, More.refl _⟩
  · exact ⟨rfl, more_of (Lib.bytesWorld_below _ _ _)⟩
/-- An error that is told by the block in which it lies. -/
def errV (i : Int × Nat) : AV := .tup [.i i.1, .v (.iface 66 (.pointer (some ⟨i.2, 0, none⟩)))]
theorem good_cell {w : World} (hg : GoodW w) (b : Nat) (hb : b ∈ goodB) : ∃ te pe, w.cell? ⟨b, 0, none⟩ = some (.iface te pe) := by
  obtain ⟨cur, e, fz, h1, te, pe, rfl⟩ := hg b hb
  refine ⟨te, pe, ?_⟩
  unfold World.cell?
  simp only [h1]
  rfl
theorem atoi_err (w : List UInt8) (h : ∀ v, Lib.atoiAll w ≠ .ok v) (hl : w.length ≤ 1048576) : SpX Tryd.prog 20 [str w] (fun _ => none) (fun _ => True) errV (fun _ _ => none) := by
  refine spx_more (y := fun (i : Int × Nat) => .tuple #[.int .i64 i.1, .iface 66 (.pointer (some ⟨i.2, 0, none⟩))]) (fun i C => by simp [errV, SimV, SimL]) fun wd hg => ?_
  have hsz : (⟨w.toArray⟩ : ByteArray).size ≤ 281474976710656 := by show w.toArray.size ≤ _; simp; omega
  have hd : (⟨w.toArray⟩ : ByteArray).data.toList = w := by simp
  by_cases ha : Lib.atoiAll w = .range
  · obtain ⟨te, pe, hc⟩ := good_cell hg 1 (by simp [goodB])
    refine (Tryd.strconv_Atoi_range ⟨w.toArray⟩ hsz (by rw [hd]; exact ha) _ wd hc (.inr ⟨te, pe, rfl⟩)).mono fun e w' hp => ?_
    obtain ⟨N, rfl, _, _, hb⟩ := hp
    exact ⟨(_, N), rfl, more_of hb⟩
  · obtain ⟨te, pe, hc⟩ := good_cell hg 0 (by simp [goodB])
    refine (Tryd.atoi_bad ⟨w.toArray⟩ hsz (by rw [hd]; exact h) (by rw [hd]; exact ha) _ wd hc (.inr ⟨te, pe, rfl⟩)).mono fun e w' hp => ?_
    obtain ⟨N, rfl, _, _, hb⟩ := hp
    exact ⟨(0, N), rfl, more_of hb⟩
end Go.Proofs.YtinalepjmlilpaaDoor
