/- Contracts: the trailing zeros of a set of sixteen bits. -/
import Derived.Test.YtgekggljdcnmeaaDoorAmX
import Derived.Test.YtgekggljdcnmeaaDoorProg
import Derived.Shelf.Spec.TrailingZeros
import Derived.WalkKit
import Derived.Laws.Bits64b
namespace Go.Am
/-- A call with one told value, of a world with the told variables, that gives one told value and changes nothing. -/
theorem sp_good {P : Program} {f : FuncId} {x y : Value} (h : ∀ w, GoodW w → Calls P f #[x] w fun e w' => e = .returned y ∧ w' = w) : Sp P f [.v x] (.v y) := by
  intro w vs hg hent
  obtain ⟨hs, hl⟩ := hent
  obtain ⟨l⟩ := vs
  match l with
  | [] => simp at hl
  | [a] =>
    simp only [SimL, SimV, and_true] at hs
    subst hs
    refine (h w hg).mono fun e w' hp => ?_
    obtain ⟨rfl, rfl⟩ := hp
    exact ⟨y, rfl, More.refl _, by simp [SimV]⟩
  | _ :: _ :: _ => simp at hl
end Go.Am
namespace Go.Proofs.YtgekggljdcnmeaaDoor
open Go.RowKit Go.Am

set_option maxHeartbeats 1000000 in
theorem tz16_core (x k idx : Nat) (w : World) (hx0 : ((x : Int) == 0) = false)
    (key : bits BinOp.and IntKind.u16 (x : Int) (IntKind.u16.wrap (-(x : Int))) % 4294967296 * 125613361 % 4294967296 / 134217728 = (idx : Int))
    (hi : idx < 32) (hk : k < 32) (hcell : w.cell? ⟨0, idx, none⟩ = some (.int .u8 k)) :
    Calls Tryd.prog 16 #[.int .u16 x] w fun e w' => e = .returned (.int .i64 k) ∧ w' = w := by
  go_enter Tryd.func16, Tryd.ntmps16
  go_wp2_with (simp only [key])
  go_ret
  exact ⟨rfl, rfl⟩
theorem tz16_zero (w : World) : Calls Tryd.prog 16 #[.int .u16 0] w fun e w' => e = .returned (.int .i64 16) ∧ w' = w := by
  go_enter Tryd.func16, Tryd.ntmps16
  go_wp2
  go_ret
  exact ⟨rfl, rfl⟩
theorem bits_and16 (a b : Nat) (ha : a < 65536) (hb : b < 65536) : bits .and .u16 (a : Int) (b : Int) = ((a &&& b : Nat) : Int) := by
  show IntKind.u16.wrap ((BitVec.ofInt IntKind.u16.bits (a : Int) &&& BitVec.ofInt IntKind.u16.bits (b : Int)).toNat : Int) = _
  rw [BitVec.toNat_and, ofInt16 ha, ofInt16 hb, wrap16 (and16_lt ha)]
theorem tz16_key (x a : Nat) (hx : x < 65536) (hx0 : x ≠ 0) (hlow : x &&& (65536 - x) = a) :
    bits BinOp.and IntKind.u16 (x : Int) (IntKind.u16.wrap (-(x : Int))) % 4294967296 * 125613361 % 4294967296 / 134217728 = ((a * 125613361 % 4294967296 / 134217728 : Nat) : Int) := by
  have e0 : ∀ n : Int, IntKind.u16.wrap n = n % 65536 := fun n => by simp [IntKind.wrap, IntKind.bits, IntKind.signed]
  have e1 : IntKind.u16.wrap (-(x : Int)) = ((65536 - x : Nat) : Int) := by rw [e0]; omega
  have ha : a < 65536 := by rw [← hlow]; exact and16_lt hx
  rw [e1, bits_and16 x _ hx (by omega), hlow]
  omega
theorem tz16_calls (x : Nat) (hx : x < 65536) (w : World) (hg : GoodW w) : Calls Tryd.prog 16 #[.int .u16 x] w fun e w' => e = .returned (.int .i64 (Lib.ctz 16 x)) ∧ w' = w := by
  by_cases hx0 : x = 0
  · subst hx0
    exact tz16_zero w
  · obtain ⟨hlow, hk⟩ := Lib.lowest_bit 16 x hx0 hx
    obtain ⟨hi, htab⟩ := Lib.deBruijn32_at _ (show Lib.ctz 16 x < 32 by omega)
    obtain ⟨cur, e, fz, h1, h2⟩ := hg 0 (by simp [goodB])
    have hcell : w.cell? ⟨0, 2 ^ Lib.ctz 16 x * 125613361 % 4294967296 / 134217728, none⟩ = some (.int .u8 (Lib.ctz 16 x)) := by
      unfold World.cell?
      simp only [h1]
      rw [h2 _ hi, htab]
      rfl
    exact tz16_core x _ _ w (by simp; omega) (tz16_key x _ hx hx0 hlow) hi (by omega) hcell
theorem tz16_spec (x : Nat) (hx : x < 65536) : Sp Tryd.prog 16 [.u x] (.i (Lib.ctz 16 x)) := sp_good fun w hg => tz16_calls x hx w hg
end Go.Proofs.YtgekggljdcnmeaaDoor
