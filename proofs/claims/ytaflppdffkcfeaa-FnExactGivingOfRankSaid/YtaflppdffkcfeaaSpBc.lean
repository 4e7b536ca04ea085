/- Contracts: how many guests a set has; givings behind a set, remembered. -/
import Derived.Test.YtaflppdffkcfeaaSpMv
import Derived.Test.YtaflppdffkcfeaaMaBh
namespace Go.Am
/-- The bits of a byte, counted. -/
def popB : ByteArray := ⟨#[0, 1, 1, 2, 1, 2, 2, 3, 1, 2, 2, 3, 2, 3, 3, 4, 1, 2, 2, 3, 2, 3, 3, 4, 2, 3, 3, 4, 3, 4, 4, 5, 1, 2, 2, 3, 2, 3, 3, 4, 2, 3, 3, 4, 3, 4, 4, 5, 2, 3, 3, 4, 3, 4, 4, 5, 3, 4, 4, 5, 4, 5, 5, 6, 1, 2, 2, 3, 2, 3, 3, 4, 2, 3, 3, 4, 3, 4, 4, 5, 2, 3, 3, 4, 3, 4, 4, 5, 3, 4, 4, 5, 4, 5, 5, 6, 2, 3, 3, 4, 3, 4, 4, 5, 3, 4, 4, 5, 4, 5, 5, 6, 3, 4, 4, 5, 4, 5, 5, 6, 4, 5, 5, 6, 5, 6, 6, 7, 1, 2, 2, 3, 2, 3, 3, 4, 2, 3, 3, 4, 3, 4, 4, 5, 2, 3, 3, 4, 3, 4, 4, 5, 3, 4, 4, 5, 4, 5, 5, 6, 2, 3, 3, 4, 3, 4, 4, 5, 3, 4, 4, 5, 4, 5, 5, 6, 3, 4, 4, 5, 4, 5, 5, 6, 4, 5, 5, 6, 5, 6, 6, 7, 2, 3, 3, 4, 3, 4, 4, 5, 3, 4, 4, 5, 4, 5, 5, 6, 3, 4, 4, 5, 4, 5, 5, 6, 4, 5, 5, 6, 5, 6, 6, 7, 3, 4, 4, 5, 4, 5, 5, 6, 4, 5, 5, 6, 5, 6, 6, 7, 4, 5, 5, 6, 5, 6, 6, 7, 5, 6, 6, 7, 6, 7, 7, 8]⟩
theorem popB_get : ∀ n < 10, ∀ S < 2 ^ n, (popB.data.toList.getD (S >>> 8) 0).toNat + (popB.data.toList.getD (S &&& 255) 0).toNat = n - outN n S := by decide +kernel
theorem popB_at {j : Nat} (h : j < popB.size) : (popB[j]'h).toNat = (popB.data.toList.getD j 0).toNat := by
  have h2 : j < popB.data.toList.length := h
  rw [List.getD_eq_getElem?_getD, List.getElem?_eq_getElem h2]
  rfl
theorem popB_size : popB.size = 256 := by decide +kernel
theorem popB_le : ∀ j < 256, (popB.data.toList.getD j 0).toNat ≤ 8 := by decide +kernel
section
variable {P : Program} {own : Bool} {s : AS} {K : AS → Prop} {d : Option Nat} {x y : Opd}
theorem m_sixu {b : ByteArray} {j : Nat} {q : IntKind} (hx : s.ev x = .v (.string b)) (hj : s.ev y = .v (.int q (j : Nat))) (h : j < b.size) (k : K (s.put d (.v (.int .u8 (b[j]'h).toNat)))) : aop1 P own ⟨d, .pu .six [x, y], none⟩ s K :=
  ⟨_, ⟨b, q, j, by simp [hx, hj], by omega, by simpa using h, by simp⟩, k⟩
theorem m_addk {q : IntKind} {a b c : Int} (hx : s.ev x = .v (.int q a)) (hy : s.ev y = .v (.int q b)) (hc : q.wrap (a + b) = c) (k : K (s.put d (.v (.int q c)))) : aop1 P own ⟨d, .bin .add x y, none⟩ s K := ⟨_, _, .int q c, hx, hy, by simp [pbin, hc], k⟩
theorem m_shr8 {a : Nat} (hx : s.ev x = .u a) (hy : s.ev y = .v (.int .u64 8)) (kk : K (s.put d (.u (a >>> 8)))) : aop1 P own ⟨d, .bin .shr x y, none⟩ s K := by
  refine ⟨_, _, _, hx, hy, ?_, kk⟩
  show (if (8 : Int) < 0 then none else some (Value.int .u16 ((a : Int).fdiv (2 ^ (min (8 : Int).toNat IntKind.u16.bits))))) = _
  rw [if_neg (by decide), show min (8 : Int).toNat IntKind.u16.bits = 8 from rfl, Nat.shiftRight_eq_div_pow]
  congr 2
  rw [Int.fdiv_eq_ediv_of_nonneg _ (by decide), show (2 : Int) ^ 8 = 256 from rfl, show (2 : Nat) ^ 8 = 256 from rfl]
  omega
theorem m_cvtk {q k : IntKind} {n c : Int} (hx : s.ev x = .v (.int q n)) (hc : k.wrap n = c) (kk : K (s.put d (.v (.int k c)))) : aop1 P own ⟨d, .pu (.cvt k) [x], none⟩ s K := ⟨_, ⟨q, n, by simp [hx], by rw [hc]⟩, kk⟩
end
end Go.Am
namespace Go.Proofs.Ytaflppdffkcfeaa
open Go.Am
attribute [local irreducible] AW Outs Weak Lends Lend Sp aops atree aop1 Then Round InBlock Done
attribute [local irreducible] SpH SpX DoneH DoneX DoneHG

theorem ones_spec (n S : Nat) (hn : n ≤ 9) (hS : S < 2 ^ n) : Sp Try.prog 36 [.u S] (.i (n - outN n S : Nat)) := by
  have hS2 : S < 512 := Nat.lt_of_lt_of_le hS (Nat.pow_le_pow_right (by decide) hn)
  have h1 : S >>> 8 < popB.size := by rw [popB_size, Nat.shiftRight_eq_div_pow]; omega
  have h2 : S &&& 255 < popB.size := by rw [popB_size]; exact Nat.lt_of_le_of_lt Nat.and_le_right (by decide)
  have hg := popB_get n (by omega) S hS
  have e1 := popB_at h1
  have e2 := popB_at h2
  rw [popB_size] at h1 h2
  have l1 := popB_le _ h1
  have l2 := popB_le _ h2
  rw [← popB_size] at h1 h2
  rw [← e1, ← e2] at hg
  rw [← e1] at l1
  rw [← e2] at l2
  rw [← hg]
  refine spec_of Try.func36 rfl cc36 rfl ?_
  unfold ac36
  repeat (first | ((first | refine step_ops ?_ | refine step_tree ?_); (first | (refine m_mov (by conv => lhs; whnf) ?_) | (refine m_add rfl rfl ?_ ?_ ?_; (· omega); (· omega)) | (refine m_adds rfl rfl ?_ ?_; (· first | omega | (simp; omega))) | (refine m_six' rfl rfl ?_ ?_; (· first | omega | (simp; omega))) | (refine m_cvt rfl ?_))) | refine end_ops ?_ | refine seq_ops ?_ | refine AW_ops ?_ | refine end_tree ?_ | refine seq_tree ?_ | refine AW_tree ?_ | refine AW_seq ?_ | refine AW_ret ?_ | refine ret_done ?_ | refine norm_then ?_ | refine ret_then ?_ | refine exit_then ?_)
  refine step_tree ?_
  refine m_shr8 (a := S) rfl rfl ?_
  refine step_tree ?_
  refine m_sixu (b := popB) (j := S >>> 8) (q := .u16) rfl rfl h1 ?_
  repeat (first | ((first | refine step_ops ?_ | refine step_tree ?_); (first | (refine m_mov (by conv => lhs; whnf) ?_) | (refine m_add rfl rfl ?_ ?_ ?_; (· omega); (· omega)) | (refine m_adds rfl rfl ?_ ?_; (· first | omega | (simp; omega))) | (refine m_six' rfl rfl ?_ ?_; (· first | omega | (simp; omega))) | (refine m_cvt rfl ?_))) | refine end_ops ?_ | refine seq_ops ?_ | refine AW_ops ?_ | refine end_tree ?_ | refine seq_tree ?_ | refine AW_tree ?_ | refine AW_seq ?_ | refine AW_ret ?_ | refine ret_done ?_ | refine norm_then ?_ | refine ret_then ?_ | refine exit_then ?_)
  refine step_tree ?_
  refine m_and16 (a := S) (b := 255) rfl rfl (by omega) (by decide) ?_
  refine step_tree ?_
  refine m_sixu (b := popB) (j := S &&& 255) (q := .u16) rfl rfl h2 ?_
  generalize ((popB[S >>> 8]'h1).toNat) = p at *
  generalize ((popB[S &&& 255]'h2).toNat) = q at *
  have w1 : IntKind.u8.wrap ((p : Int) + (q : Int)) = ((p + q : Nat) : Int) := by
    have : IntKind.u8.wrap ((p : Int) + (q : Int)) = ((p : Int) + (q : Int)) % 256 := by simp [IntKind.wrap, IntKind.bits, IntKind.signed]
    omega
  have w2 : IntKind.i64.wrap ((p + q : Nat) : Int) = ((p + q : Nat) : Int) := by rw [IntKind.wrap_i64]; omega
  refine step_tree ?_
  refine m_addk rfl rfl w1 ?_
  refine step_tree ?_
  refine m_cvtk rfl w2 ?_
  repeat (first | ((first | refine step_ops ?_ | refine step_tree ?_); (first | (refine m_mov (by conv => lhs; whnf) ?_) | (refine m_add rfl rfl ?_ ?_ ?_; (· omega); (· omega)) | (refine m_adds rfl rfl ?_ ?_; (· first | omega | (simp; omega))) | (refine m_six' rfl rfl ?_ ?_; (· first | omega | (simp; omega))) | (refine m_cvt rfl ?_))) | refine end_ops ?_ | refine seq_ops ?_ | refine AW_ops ?_ | refine end_tree ?_ | refine seq_tree ?_ | refine AW_tree ?_ | refine AW_seq ?_ | refine AW_ret ?_ | refine ret_done ?_ | refine norm_then ?_ | refine ret_then ?_ | refine exit_then ?_)
  exact outs_i rfl

theorem size_spec (n S : Nat) (hn : n ≤ 9) (hS : S < 2 ^ n) : Sp Try.prog 32 [.u S] (.i (n - outN n S : Nat)) := by
  refine spec_of Try.func32 rfl cc32 rfl ?_
  unfold ac32
  repeat (first | (refine step_ops ?_; (first | (refine m_mov (by conv => lhs; whnf) ?_))) | refine end_ops ?_ | refine seq_ops ?_ | refine AW_ops ?_ | refine AW_seq ?_ | refine AW_ret ?_ | refine ret_done ?_ | refine norm_then ?_ | refine ret_then ?_ | refine exit_then ?_)
  (refine step_ops ?_); (apply m_call (ones_spec n S hn hS)); (· repeat (first | exact lends_nil | (refine lends_cons ?_ ?_; (· first | exact lend_v | (refine lend_roM rfl; done) | (refine lend_mat rfl ?_; intro j hj; simp (disch := first | omega | assumption) only [hp_put, hp_mem_ne, hp_kill_ne]; first | exact stM_row rfl hj | (rw [stM_row rfl hj]; rfl)) | (refine lend_ints ?_; first | rfl | omega) | (refine lend_sli (by rfl) ?_; first | rfl | omega | (simp; done)) | exact lend_any | (refine lend_agg ?_; first | rfl | assumption | (simp [plainV]; done))))))
  repeat (first | (refine step_ops ?_; (first | (refine m_mov (by conv => lhs; whnf) ?_))) | refine end_ops ?_ | refine seq_ops ?_ | refine AW_ops ?_ | refine AW_seq ?_ | refine AW_ret ?_ | refine ret_done ?_ | refine norm_then ?_ | refine ret_then ?_ | refine exit_then ?_)
  exact outs_i rfl
end Go.Proofs.Ytaflppdffkcfeaa
