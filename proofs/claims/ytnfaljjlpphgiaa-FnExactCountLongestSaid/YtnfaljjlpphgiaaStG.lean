/- Every type is one of the list of all types: what is true of these is true of all. -/
import Derived.Test.YtnfaljjlpphgiaaSv0
namespace Go.Am
theorem ty_mem : ∀ (K : List Int) (s m : Nat), (∀ x ∈ K, 1 ≤ x) → K.sum = s → (∀ i, i < K.length - 1 → K.getD (i + 1) 0 ≤ K.getD i 0) → K.getD 0 0 ≤ m → K ∈ tyAll s m
  | [], s, m, _, hs, _, _ => by
    obtain rfl : s = 0 := by simp at hs; omega
    rw [tyAll_zero]
    exact List.mem_singleton.2 rfl
  | n :: K, s, m, h1, hs, ha, hm => by
    have hn := h1 n (List.mem_cons_self ..)
    have hK : ∀ x ∈ K, 1 ≤ x := fun x hx => h1 x (List.mem_cons_of_mem _ hx)
    have hks : 0 ≤ K.sum := by
      have : ∀ l : List Int, (∀ x ∈ l, 1 ≤ x) → 0 ≤ l.sum := by
        intro l
        induction l with
        | nil => intro _; simp
        | cons a l ih =>
          intro h
          have := h a (List.mem_cons_self ..)
          have := ih fun x hx => h x (List.mem_cons_of_mem _ hx)
          rw [List.sum_cons]; omega
      exact this K hK
    rw [List.sum_cons] at hs
    have hm' : n ≤ m := hm
    obtain ⟨N, rfl⟩ := Int.eq_ofNat_of_zero_le (show 0 ≤ n by omega)
    have hih := ty_mem K (s - N) N hK (by omega) (fun i hi => ha (i + 1) (by rw [List.length_cons]; omega)) (by
      cases K with
      | nil => simp
      | cons b K => exact ha 0 (by simp))
    rw [tyAll_part (by omega)]
    unfold tyPart
    rw [List.mem_flatMap]
    have hN : min s m - (min s m - N) = N := by omega
    refine ⟨min s m - N, List.mem_range.2 (by omega), ?_⟩
    rw [hN]
    exact List.mem_map.2 ⟨K, hih, rfl⟩
end Go.Am
namespace Go.Proofs.Ytnfaljjlpphgiaa
open Go.Am
attribute [local irreducible] AW Outs Weak Lends Lend Sp aops atree aop1 Then Round InBlock Done
theorem ty_all {p : List Int → Bool} (h : ∀ s < 13, (tyAll s 12).all p = true) {K : List Int} (hK : TyOk K) : p K = true := by
  obtain ⟨h1, h12, hx, hs, ha⟩ := hK
  have hb := sum_bd hx
  obtain ⟨s, hse⟩ := Int.eq_ofNat_of_zero_le (show 0 ≤ K.sum by omega)
  have hm := ty_mem K s 12 (fun x hx' => (hx x hx').1) hse ha (hx _ (getD_mem h1)).2
  exact List.all_eq_true.1 (h s (by omega)) K hm
/-- Two counts are the same for all types if they are for those of the list. -/
theorem ty_eq {f g : List Int → Int} (h : ∀ s < 13, (tyAll s 12).all (fun K => decide (f K = g K)) = true) {K : List Int} (hK : TyOk K) : f K = g K := of_decide_eq_true (ty_all h hK)
example : ∀ s < 13, (tyAll s 12).all (fun K => decide (tyCnt K = tyCnt K)) = true := by decide +kernel
end Go.Proofs.Ytnfaljjlpphgiaa
