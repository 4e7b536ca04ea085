/- What the law FnSeatsChancedOfAll asks of all numbers of displaced guests, in numbers alone. -/
import Derived.Test.YtamgcjdmcmbffaaZs6
import Derived.Test.YtamgcjdmcmbffaaMaSg
set_option linter.unusedSectionVars false
namespace Go.Proofs.Ytamgcjdmcmbffaa
variable [Go.Am.CodeBlk]
open Go.Am
attribute [local irreducible] AW Outs Weak Lends Lend Sp aops atree aop1 Then Round InBlock Done
theorem sumTo_mono {f g : Nat → Nat} (h : ∀ k, f k ≤ g k) : ∀ n, sumTo f n ≤ sumTo g n
  | 0 => Nat.le_refl _
  | n + 1 => by have := sumTo_mono h n; have := h n; simp only [sumTo]; omega
theorem sumTo_mul (c : Nat) (f : Nat → Nat) : ∀ n, sumTo (fun k => c * f k) n = c * sumTo f n
  | 0 => rfl
  | n + 1 => by simp only [sumTo, sumTo_mul c f n, Nat.mul_add]
structure SgE (G K : Nat) (n W : Nat → Nat) (f : Nat → Nat × Nat) (M : Nat × Nat) (w : Nat) : Prop where
  g1 : 1 ≤ G
  g7 : G ≤ 7
  k7 : K ≤ G
  pos : ∀ k, n k = 0 ↔ W k = 0
  one : n 1 = 0
  val : ∀ k, w * (f k).1 = W k * (f k).2
  bd : ∀ k, (f k).1 ≤ 1000000000 ∧ (f k).2 ≤ 1000000000 ∧ 1 ≤ (f k).2
  w1 : 1 ≤ w ∧ w ≤ 5040
  wf : fac G = ((w : Nat) : Int)
  sn : sumTo n (G + 1) ≤ 5040
  sW : sumTo W (G + 1) = w
  sM : sumTo (fun k => (G - k) * W k) (G + 1) * M.2 = M.1 * w
  mb : M.1 ≤ 1000000000 ∧ M.2 ≤ 1000000000
  c7 : ∀ k, k ≤ G → disTup ((G : Nat) : Int) ((K : Nat) : Int) ((k : Nat) : Int) = .tup [.i ((n k : Nat) : Int), .b true]
  c5 : ∀ k, k ≤ G → disFTup ((G : Nat) : Int) ((K : Nat) : Int) ((k : Nat) : Int) = .tup [.i (((f k).1 : Nat) : Int), .i (((f k).2 : Nat) : Int), .b true]
  cn : cntTup ((G : Nat) : Int) ((K : Nat) : Int) = .tup [.i ((sumTo n (G + 1) : Nat) : Int), .b true]
  mn : meanTup ((G : Nat) : Int) ((K : Nat) : Int) = .tup [.i ((M.1 : Nat) : Int), .i ((M.2 : Nat) : Int), .b true]
theorem sumL_pos {f : List Int → Nat} : ∀ {R : List (List Int)}, (∀ M ∈ R, 1 ≤ f M) → (R.length = 0 ↔ sumL f R = 0)
  | [], _ => by simp [sumL]
  | M :: R, h => by
    have := h M (List.mem_cons_self ..)
    simp only [sumL, List.length_cons]; omega
theorem fc_le : ∀ g < 8, 1 ≤ fcN g ∧ fcN g ≤ 5040 ∧ fac g = ((fcN g : Nat) : Int) := by decide +kernel
def sgS (G K : Nat) : List (List Int) := allS ((K : Nat) : Int) G
theorem sgE (G K : Nat) (h1 : 1 ≤ G) (h7 : G ≤ 7) (hK : K ≤ G) : SgE G K (sgN ((K : Nat) : Int) (sgS G K)) (sgW G K (sgS G K)) (fun k => sumC ((K : Nat) : Int) ((sgS G K).filter (keepD ((k : Nat) : Int)))) (meanOf G K G) (fcN G) := by
  have F : SgF G K (sgS G K) := sgFacts (by omega) h1 (by omega)
  have hf := fc_le G (by omega)
  have hlen : (sgS G K).length ≤ 5040 := allS_len _ _ (by omega)
  have hok : SeOk 7 ((G : Nat) : Int) ((K : Nat) : Int) := ⟨⟨by omega, by omega⟩, by omega, by omega⟩
  have hok12 : SeOk 12 ((G : Nat) : Int) ((K : Nat) : Int) := ⟨⟨by omega, by omega⟩, by omega, by omega⟩
  have hdis : ∀ k, k ≤ G → DisOk ((G : Nat) : Int) ((K : Nat) : Int) ((k : Nat) : Int) := fun k hk => ⟨hok, by omega, by omega⟩
  exact {
    g1 := h1
    g7 := h7
    k7 := hK
    pos := fun k => by
      refine sumL_pos fun M hM => ?_
      have hr := F.row M (List.mem_filter.1 hM).1
      unfold wS
      exact Nat.div_pos (Nat.le_of_dvd (by omega) (Nat.dvd_of_mod_eq_zero hr.1)) hr.2.1
    one := sg_none F
    val := fun k => (sg_val F k).1
    bd := fun k => by
      refine sumC_ok _ G h7 _ (fun M hM => (allS_mem (List.mem_filter.1 hM).1).2) ?_
      exact Nat.le_trans (List.length_filter_le ..) hlen
    w1 := ⟨hf.1, hf.2.1⟩
    wf := hf.2.2
    sn := by rw [sgN_sum F]; exact hlen
    sW := sgW_sum F
    sM := sgM_sum F
    mb := by
      have := meanOf_le G (by omega) K (by omega) G (by omega)
      exact ⟨this.1, this.2.1⟩
    c7 := fun k hk => by
      unfold disTup disN
      rw [if_pos (hdis k hk), decide_eq_true (hdis k hk), Int.toNat_natCast]
      rfl
    c5 := fun k hk => by
      unfold disFTup disF
      rw [if_pos (hdis k hk), decide_eq_true (hdis k hk), Int.toNat_natCast]
      rfl
    cn := by
      unfold cntTup cntR
      rw [if_pos hok12, decide_eq_true hok12, Int.toNat_natCast, Int.toNat_natCast, ← F.cnt, sgN_sum F]
    mn := by
      unfold meanTup meanR
      rw [if_pos hok12, decide_eq_true hok12, Int.toNat_natCast, Int.toNat_natCast] }
end Go.Proofs.Ytamgcjdmcmbffaa
