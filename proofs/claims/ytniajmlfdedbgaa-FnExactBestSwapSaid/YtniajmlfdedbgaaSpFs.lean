/- Contracts: the first swaps. -/
import Derived.Test.YtniajmlfdedbgaaSpQ
import Derived.Test.YtniajmlfdedbgaaSpD
import Derived.Test.YtniajmlfdedbgaaSpOwn
import Derived.Test.YtniajmlfdedbgaaMaChain
namespace Go.Proofs.Ytniajmlfdedbgaa
open Go.Am
attribute [local irreducible] AW Outs Weak Lends Lend Sp aops atree aop1 Then Round InBlock Done
attribute [local irreducible] SpM DoneM SpH DoneH

/-- A list with two numbers swapped. -/
def swpW (L : List Int) (i j : Nat) : List Int := (L.set i (L.getD j 0)).set j (L.getD i 0)
theorem swpW_len (L : List Int) (i j : Nat) : (swpW L i j).length = L.length := by simp [swpW]
theorem swp_get (L : List Int) (i j : Nat) (hi : i < L.length) (hj : j < L.length) (a : Nat) : (swpW L i j).getD a 0 = L.getD (if a = j then i else if a = i then j else a) 0 := by
  unfold swpW
  rw [getD_set _ _ _ _ (by simpa using hj), getD_set _ _ _ _ hi]
  split
  · rfl
  · split <;> rfl
theorem swp_pm {L : List Int} (h : IsPm L) {i j : Nat} (hi : i < L.length) (hj : j < L.length) : IsPm (swpW L i j) := by
  have hl := swpW_len L i j
  constructor
  · intro x hx
    obtain ⟨a, ha, rfl⟩ := List.getElem_of_mem hx
    have e : (swpW L i j)[a] = (swpW L i j).getD a 0 := by simp [ha]
    rw [e, swp_get L i j hi hj, hl]
    refine h.1 _ (getD_mem ?_)
    split
    · omega
    · split <;> omega
  · unfold List.Nodup
    rw [List.pairwise_iff_getElem]
    intro a b ha hb hab e
    have e1 : (swpW L i j)[a] = (swpW L i j).getD a 0 := by simp [ha]
    have e2 : (swpW L i j)[b] = (swpW L i j).getD b 0 := by simp [hb]
    rw [e1, e2, swp_get L i j hi hj, swp_get L i j hi hj] at e
    have key : ∀ c d, c < L.length → d < L.length → L.getD c 0 = L.getD d 0 → c = d := fun c d hc hd hcd => nx_inj h hc hd (by unfold nx; rw [hcd])
    have := key _ _ (by split; omega; split <;> omega) (by split; omega; split <;> omega) e
    split at this <;> split at this <;> (try split at this) <;> (try split at this) <;> omega
theorem cnt_none {p : Nat → Bool} {n : Nat} (h : cnt p n = 0) : ∀ k < n, p k = false := by
  induction n with
  | zero => intro k hk; omega
  | succ n ih =>
    simp only [cnt] at h
    intro k hk
    by_cases e : k = n
    · subst e
      cases hp : p k with
      | false => rfl
      | true => rw [hp] at h; simp at h
    · exact ih (by omega) k (by omega)
theorem pm_mem {L : List Int} (h : IsPm L) {i : Nat} (hi : i < L.length) : (i : Int) ∈ L := by
  have h1 := freeTo_part L L.length h
  have h2 := cnt_none (show cnt (fun n => decide (((0 + n : Nat) : Int) ∉ L)) L.length = 0 by
    have : freeTo L 0 L.length = 0 := by omega
    exact this) i hi
  simpa using h2
theorem who_pm {L : List Int} (h : IsPm L) {i : Nat} (hi : i < L.length) : ∃ j : Nat, whoIs L i = j ∧ j < L.length := by
  have hm := pm_mem h hi
  exact ⟨L.idxOf (i : Int), by unfold whoIs; rw [if_pos hm], List.idxOf_lt_length_of_mem hm⟩

theorem exSwp_spec (L : List Int) (i j : Nat) (hL : L.length ≤ 1048576) (hi : i < L.length) (hj : j < L.length) : Sp Try.prog 41 [ints L, .i i, .i j] (newInts (swpW L i j)) := by
  refine spec_of Try.func41 rfl cc41 rfl ?_
  unfold ac41
  repeat (first | (refine step_ops ?_; (first | (refine m_mov (by conv => lhs; whnf) ?_) | (refine m_idx1_ro rfl rfl ?_ ?_; (· omega)) | (refine m_idx1_sl rfl rfl ?_ ?_; (· omega)) | (apply m_idx1_slj; (· rfl); (· rfl); (· assumption); (· omega)) | (apply m_idx1_roj; (· rfl); (· rfl); (· assumption); (· omega)) | (refine m_idx_ro rfl rfl ?_ ?_ ?_; (· omega); (· omega)) | (refine m_idx_sl rfl rfl ?_ ?_ ?_; (· omega); (· omega)) | (refine m_ld_rpi rfl ?_ ?_; (· omega)) | (refine m_ld_pti rfl (by rfl) ?_ ?_; (· first | omega | (simp; omega))) | (apply m_ld_ptb; (· rfl); (· rfl); (· assumption)) | (apply m_ld_rp; (· rfl); (· rfl)) | (apply m_ld_pt; (· rfl); (· rfl); (· rfl)) | (apply m_st; (· rfl); (· rfl); (· rfl); (· first | omega | (simp; done) | (simp; omega)); (· rfl)) | (refine m_nils ?_) | (refine m_stall rfl rfl rfl ?_ ?_ ?_ ?_; (· first | rfl | (simp [*]; done)); (· first | rfl | (simp [*]; done)); (· first | rfl | (simp [cellOk, Value.oneCell']; done))))) | refine end_ops ?_ | refine seq_ops ?_ | refine AW_ops ?_ | refine AW_seq ?_ | refine AW_ret ?_ | refine ret_done ?_ | refine norm_then ?_ | refine ret_then ?_ | refine exit_then ?_)
  (refine step_ops ?_); (apply m_callo (l1Own_spec _ hL)); (· repeat (first | exact lends_nil | (refine lends_cons ?_ ?_; (· first | exact lend_v | (refine lend_roM rfl; done) | (refine lend_mat rfl ?_; intro j hj; simp (disch := first | omega | assumption) only [hp_put, hp_mem_ne, hp_kill_ne]; first | exact stM_row rfl hj | (rw [stM_row rfl hj]; rfl)) | (refine lend_ints ?_; first | rfl | omega) | (refine lend_sli (by rfl) ?_; first | rfl | omega | (simp; done)) | exact lend_any | (refine lend_agg ?_; first | rfl | assumption | (simp [plainV]; done)))))); (· first | exact allv_ints _ | rfl | (simp; done))
  repeat (first | (refine step_ops ?_; (first | (refine m_mov (by conv => lhs; whnf) ?_) | (refine m_idx1_ro rfl rfl ?_ ?_; (· omega)) | (refine m_idx1_sl rfl rfl ?_ ?_; (· omega)) | (apply m_idx1_slj; (· rfl); (· rfl); (· assumption); (· omega)) | (apply m_idx1_roj; (· rfl); (· rfl); (· assumption); (· omega)) | (refine m_idx_ro rfl rfl ?_ ?_ ?_; (· omega); (· omega)) | (refine m_idx_sl rfl rfl ?_ ?_ ?_; (· omega); (· omega)) | (refine m_ld_rpi rfl ?_ ?_; (· omega)) | (refine m_ld_pti rfl (by rfl) ?_ ?_; (· first | omega | (simp; omega))) | (apply m_ld_ptb; (· rfl); (· rfl); (· assumption)) | (apply m_ld_rp; (· rfl); (· rfl)) | (apply m_ld_pt; (· rfl); (· rfl); (· rfl)) | (apply m_st; (· rfl); (· rfl); (· rfl); (· first | omega | (simp; done) | (simp; omega)); (· rfl)) | (refine m_nils ?_) | (refine m_stall rfl rfl rfl ?_ ?_ ?_ ?_; (· first | rfl | (simp [*]; done)); (· first | rfl | (simp [*]; done)); (· first | rfl | (simp [cellOk, Value.oneCell']; done))))) | refine end_ops ?_ | refine seq_ops ?_ | refine AW_ops ?_ | refine AW_seq ?_ | refine AW_ret ?_ | refine ret_done ?_ | refine norm_then ?_ | refine ret_then ?_ | refine exit_then ?_)
  exact outs_ints rfl (by rw [swpW, List.map_set, List.map_set]; rfl) (by rw [swpW_len])

/-- The list and the swaps behind the first i guests. -/
def fsF (L : List Int) : Nat → List Int × List (List Int)
  | 0 => (L, [])
  | i + 1 => if (fsF L i).1.getD i 0 = i then fsF L i else (swpW (fsF L i).1 i (whoIs (fsF L i).1 i).toNat, (fsF L i).2 ++ [[(i : Int), whoIs (fsF L i).1 i]])
theorem fsF_pm {L : List Int} (h : IsPm L) (i : Nat) (hi : i ≤ L.length) : IsPm (fsF L i).1 ∧ (fsF L i).1.length = L.length ∧ (fsF L i).2.length ≤ i := by
  induction i with
  | zero => exact ⟨h, rfl, Nat.le_refl _⟩
  | succ i ih =>
    obtain ⟨h1, h2, h3⟩ := ih (by omega)
    simp only [fsF]
    split
    · exact ⟨h1, h2, by omega⟩
    · obtain ⟨j, hj, hjl⟩ := who_pm h1 (i := i) (by omega)
      rw [hj, Int.toNat_natCast]
      exact ⟨swp_pm h1 (by omega) hjl, by rw [swpW_len]; exact h2, by simp; exact h3⟩
theorem fsF_rows {L : List Int} (i : Nat) : ∀ r ∈ (fsF L i).2, r.length = 2 := by
  induction i with
  | zero => intro r hr; simp [fsF] at hr
  | succ i ih =>
    intro r hr
    simp only [fsF] at hr
    split at hr
    · exact ih r hr
    · rw [List.mem_append, List.mem_singleton] at hr
      rcases hr with hr | rfl
      · exact ih r hr
      · rfl
/-- What FirstSwaps tells. -/
def fsRes (L : List Int) : List (List Int) := if IsEx L then (fsF L L.length).2 else []

theorem fsRes_ok (L : List Int) : (fsRes L).length ≤ 12 ∧ ∀ r ∈ fsRes L, r.length ≤ 12 := by
  unfold fsRes
  split
  · rename_i h
    have := fsF_pm (L := L) ⟨h.2.2.1, h.2.2.2⟩ L.length (Nat.le_refl _)
    have h12 := h.2.1
    exact ⟨by omega, fun r hr => by rw [fsF_rows _ r hr]; decide⟩
  · simp
end Go.Proofs.Ytniajmlfdedbgaa
