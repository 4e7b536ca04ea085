/- Contracts: the specification counts pairs. -/
import Derived.Test.YtaflppdffkcfeaaSpA
import Derived.Test.YtaflppdffkcfeaaMaMu
namespace Go.Am
theorem g_un {P : Program} {own : Bool} {s : AS} {K : AS → Prop} {d : Option Nat} {op : AOp} {t : Nat} {w : Bool} (h : s.tm t = .v undef) (k : K (s.put d (.v undef))) : aop1 P own ⟨d, op, some (t, w)⟩ s K := .inr ⟨h, k⟩
end Go.Am
namespace Go.Proofs.Ytaflppdffkcfeaa
open Go.Am
attribute [local irreducible] AW Outs Weak Lends Lend Sp aops atree aop1 Then Round InBlock Done

theorem m_shlz {P : Program} {own : Bool} {s : AS} {K : AS → Prop} {d : Option Nat} {x y : Opd} {k z : Nat} (hx : s.ev x = .i 1) (hy : s.ev y = .i (k : Nat)) (hk : k < 62) (hz : 2 ^ k = z) (kk : K (s.put d (.i (z : Nat)))) : aop1 P own ⟨d, .bin .shl x y, none⟩ s K := m_shli hx hy hk (by rw [hz]; exact kk)
theorem take_sum {f : Nat → Nat} {n k : Nat} (h : k < n) : (((List.range n).take (k + 1)).map f).sum = (((List.range n).take k).map f).sum + f k := by
  rw [List.take_range, List.take_range, Nat.min_eq_left (by omega), Nat.min_eq_left (by omega), List.range_succ]
  simp
theorem bit_zero {a k : Nat} (h : a.testBit k = false) : (a >>> k) &&& 1 = 0 := by
  have := bit_and a k
  have h1 : (a >>> k) &&& 1 ≤ 1 := Nat.and_le_right
  rw [h] at this
  have := of_decide_eq_false this
  omega
theorem bit_one {a k : Nat} (h : a.testBit k = true) : (a >>> k) &&& 1 = 1 := by
  have := bit_and a k
  rw [h] at this
  exact of_decide_eq_true this
theorem sum_le {f : Nat → Nat} {b : Nat} : ∀ {l : List Nat}, (∀ j ∈ l, f j ≤ b) → (l.map f).sum ≤ l.length * b
  | [], _ => by simp
  | a :: l, h => by
    have := h a (by simp)
    have := sum_le (l := l) fun j hj => h j (List.mem_cons_of_mem _ hj)
    simp only [List.map_cons, List.sum_cons, List.length_cons, Nat.add_mul, Nat.one_mul]
    omega
theorem out_le (n S : Nat) : outN n S ≤ n := by
  unfold outN
  have := List.length_filter_le (fun i => !S.testBit i) (List.range n)
  rwa [List.length_range] at this
theorem mutN_le {F : List Int} (h9 : F.length ≤ 9) (S : Nat) : mutN F S ≤ 387420489 := by
  unfold mutN
  refine Nat.le_trans (mutW_le F _ S) (Nat.le_trans (Nat.pow_le_pow_left h9 _) (Nat.le_trans (Nat.pow_le_pow_right (by decide) (Nat.le_trans (out_le F.length S) h9)) (by decide)))
theorem mutT_le {F : List Int} (h9 : F.length ≤ 9) (S k j : Nat) : mutT F (mutN F) S k j ≤ 387420489 := by
  unfold mutT
  split
  · exact mutN_le h9 _
  · omega
theorem set_lt {n S k : Nat} (hS : S < 2 ^ n) (hk : k < n) (h : S.testBit k = false) : S + 2 ^ k < 2 ^ n := by
  rw [bit_add h]
  exact Nat.or_lt_two_pow hS (by rw [Nat.one_shiftLeft]; exact Nat.pow_lt_pow_right (by decide) hk)

end Go.Proofs.Ytaflppdffkcfeaa
