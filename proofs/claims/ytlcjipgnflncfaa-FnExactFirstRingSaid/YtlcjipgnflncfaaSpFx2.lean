/- Contracts: the sizes of families; whether there is a giving. Contracts: whether there is a giving; whether an exchange is one. -/
import Derived.Test.YtlcjipgnflncfaaSpFa
import Derived.Test.YtlcjipgnflncfaaSpE
import Derived.Test.YtlcjipgnflncfaaSpB2
namespace Go.Proofs.Ytlcjipgnflncfaa
open Go.Am
attribute [local irreducible] AW Outs Weak Lends Lend Sp aops atree aop1 Then Round InBlock Done

/-- What FamilySizes tells. -/
def sizesRes (L : List Int) : List Int := if IsFam L then sizesOf L (famN L).toNat else []
theorem sizesRes_le (L : List Int) : (sizesRes L).length ≤ 9 := by
  unfold sizesRes
  split
  · rename_i h
    have := famN_le h
    have := h.2.1
    rw [sizesOf_len]; omega
  · simp

end Go.Proofs.Ytlcjipgnflncfaa

namespace Go.Proofs.Ytlcjipgnflncfaa
open Go.Am
attribute [local irreducible] AW Outs Weak Lends Lend Sp aops atree aop1 Then Round InBlock Done

/-- Whether no family has more than half. -/
def halfOk (L : List Int) : Prop := ∀ s ∈ sizesOf L (famN L).toNat, 2 * s ≤ L.length
instance (L : List Int) : Decidable (halfOk L) := inferInstanceAs (Decidable (∀ s ∈ _, _))
def canGiveR (L : List Int) : AV := .tup [.b (decide (IsFam L ∧ halfOk L)), .b (decide (IsFam L))]
theorem sizes_mem {L : List Int} {m : Nat} {s : Int} (h : s ∈ sizesOf L m) : 0 ≤ s ∧ s ≤ L.length := by
  simp only [sizesOf, List.mem_map] at h
  obtain ⟨f, _, rfl⟩ := h
  exact cntI_le L f

/-- Whether guests get no gift of their own family. -/
def apart (F L : List Int) : Prop := ∀ k, k < L.length → F.getD k 0 ≠ F.getD (L.getD k 0).toNat 0
instance (F L : List Int) : Decidable (apart F L) := inferInstanceAs (Decidable (∀ k, k < L.length → _))
def Givers (F L : List Int) : Prop := IsFam F ∧ IsEx L ∧ F.length = L.length
instance (F L : List Int) : Decidable (Givers F L) := inferInstanceAs (Decidable (_ ∧ _ ∧ _))
def isGivingR (F L : List Int) : AV := .tup [.b (decide (Givers F L ∧ apart F L)), .b (decide (Givers F L))]

/-- The families as they lie in an array of nine. -/
def kinCells (F : List Int) : List Int := F ++ List.replicate (9 - F.length) 0
def kinV (F : List Int) : List AV := AV.i F.length :: (kinCells F).map AV.i
theorem kinCells_len {F : List Int} (h : F.length ≤ 9) : (kinCells F).length = 9 := by simp [kinCells]; omega
theorem kinV_len {F : List Int} (h : F.length ≤ 9) : (kinV F).length = 10 := by simp [kinV, kinCells_len h]
theorem kinCells_get {F : List Int} {k : Nat} (h : k < F.length) : (kinCells F).getD k 0 = F.getD k 0 := by
  simp [kinCells, List.getElem?_append, h]
theorem kinV_ok (F : List Int) (fl : Bool) : (kinV F).all (cellOk fl) = true := by simp [kinV, cellOk, Value.oneCell']
theorem kinV_plain (F : List Int) : (kinV F).all plainV = true := by simp [kinV, plainV]

theorem kinOf_spec (F : List Int) (h : IsFam F) : Sp Try.prog 18 [ints F] (.agg (kinV F)) := by
  have h9 := h.2.1
  have hl := kinV_len h9
  refine specC_of Try.func18 rfl cc18 (by rfl) ?_
  unfold ac18
  repeat (first | (refine step_ops ?_; (first | (refine m_mov (by conv => lhs; whnf) ?_) | (refine m_len_ro rfl ?_) | (refine m_len_sl rfl ?_) | (refine m_len_nil rfl ?_) | (apply m_st; (· rfl); (· rfl); (· rfl); (· first | omega | (simp; done) | (simp; omega)); (· rfl)) | (refine m_alloc ?_) | (refine m_fa rfl ?_) | (refine m_fa_rp rfl ?_) | (refine m_bld rfl ?_) | (refine m_bld_1 (by conv => lhs; whnf) (by decide)  (by rfl) ?_) | (refine m_bld_2 (by conv => lhs; whnf) (by conv => lhs; whnf) (by decide)  (by decide) (by rfl) (by rfl) ?_) | (refine m_bld_3 (by conv => lhs; whnf) (by conv => lhs; whnf) (by conv => lhs; whnf) (by decide)  (by decide) (by decide) (by rfl) (by rfl) (by rfl) ?_) | (refine m_ldall rfl rfl ?_ ?_; (· first | rfl | (simp; done) | (simp [*]; done))) | (refine m_ldall_rp rfl rfl ?_) | (refine m_stall rfl rfl rfl ?_ ?_ ?_ ?_; (· first | rfl | (simp [*]; done)); (· first | rfl | (simp [*]; done)); (· first | rfl | (simp [cellOk, Value.oneCell']; done))))) | refine end_ops ?_ | refine seq_ops ?_ | refine AW_ops ?_ | refine AW_seq ?_ | refine AW_ret ?_ | refine ret_done ?_ | refine norm_then ?_ | refine ret_then ?_ | refine exit_then ?_)
  refine step_ops ?_
  refine m_acut_off rfl rfl (by decide) (Nat.le_of_ble_eq_true rfl) ?_
  repeat (first | (refine step_ops ?_; (first | (refine m_mov (by conv => lhs; whnf) ?_) | (refine m_len_ro rfl ?_) | (refine m_len_sl rfl ?_) | (refine m_len_nil rfl ?_) | (apply m_st; (· rfl); (· rfl); (· rfl); (· first | omega | (simp; done) | (simp; omega)); (· rfl)) | (refine m_alloc ?_) | (refine m_fa rfl ?_) | (refine m_fa_rp rfl ?_) | (refine m_bld rfl ?_) | (refine m_bld_1 (by conv => lhs; whnf) (by decide)  (by rfl) ?_) | (refine m_bld_2 (by conv => lhs; whnf) (by conv => lhs; whnf) (by decide)  (by decide) (by rfl) (by rfl) ?_) | (refine m_bld_3 (by conv => lhs; whnf) (by conv => lhs; whnf) (by conv => lhs; whnf) (by decide)  (by decide) (by decide) (by rfl) (by rfl) (by rfl) ?_) | (refine m_ldall rfl rfl ?_ ?_; (· first | rfl | (simp; done) | (simp [*]; done))) | (refine m_ldall_rp rfl rfl ?_) | (refine m_stall rfl rfl rfl ?_ ?_ ?_ ?_; (· first | rfl | (simp [*]; done)); (· first | rfl | (simp [*]; done)); (· first | rfl | (simp [cellOk, Value.oneCell']; done))))) | refine end_ops ?_ | refine seq_ops ?_ | refine AW_ops ?_ | refine AW_seq ?_ | refine AW_ret ?_ | refine ret_done ?_ | refine norm_then ?_ | refine ret_then ?_ | refine exit_then ?_)
  refine step_ops ?_
  refine m_cpy (ys := F.map AV.i) (m := F.length) rfl rfl (Nat.le_of_ble_eq_true rfl) (Elems.ro false _ _) (by simp) (by simp [cellOk, Value.oneCell']) h9 ?_
  refine end_ops ?_
  have hc : (([AV.i F.length, .i 0, .i 0, .i 0, .i 0, .i 0, .i 0, .i 0, .i 0, .i 0] : List AV).take (0 + 1) ++ F.map AV.i ++ ([AV.i F.length, .i 0, .i 0, .i 0, .i 0, .i 0, .i 0, .i 0, .i 0, .i 0] : List AV).drop (0 + 1 + F.length)) = kinV F := by
    have e : ([AV.i F.length, .i 0, .i 0, .i 0, .i 0, .i 0, .i 0, .i 0, .i 0, .i 0] : List AV) = AV.i F.length :: List.replicate 9 (AV.i 0) := rfl
    rw [e, Nat.add_comm (0 + 1)]
    unfold kinV kinCells
    rw [List.map_append, List.map_replicate]
    show AV.i _ :: (F.map AV.i ++ (List.replicate 9 (AV.i 0)).drop F.length) = _
    rw [List.drop_replicate]
  refine AW_weak (s' := st [(2, .pt 2 0), (3, .pt 3 0)] [(2, (true, [.i 0, .i 0, .i 0, .i 0, .i 0, .i 0, .i 0, .i 0, .i 0, .i 0])), (3, (true, kinV F))]) (weak_st ?_ ?_ rfl rfl) ?_
  · (repeat' (first | exact trivial | refine And.intro ?_ ?_)) <;> (first | rfl | skip)
  · refine ⟨rfl, ?_, trivial⟩
    rw [← hc]; rfl
  repeat (first | (refine step_ops ?_; (first | (refine m_mov (by conv => lhs; whnf) ?_) | (refine m_len_ro rfl ?_) | (refine m_len_sl rfl ?_) | (refine m_len_nil rfl ?_) | (apply m_st; (· rfl); (· rfl); (· rfl); (· first | omega | (simp; done) | (simp; omega)); (· rfl)) | (refine m_alloc ?_) | (refine m_fa rfl ?_) | (refine m_fa_rp rfl ?_) | (refine m_bld rfl ?_) | (refine m_bld_1 (by conv => lhs; whnf) (by decide)  (by rfl) ?_) | (refine m_bld_2 (by conv => lhs; whnf) (by conv => lhs; whnf) (by decide)  (by decide) (by rfl) (by rfl) ?_) | (refine m_bld_3 (by conv => lhs; whnf) (by conv => lhs; whnf) (by conv => lhs; whnf) (by decide)  (by decide) (by decide) (by rfl) (by rfl) (by rfl) ?_) | (refine m_ldall rfl rfl ?_ ?_; (· first | rfl | (simp; done) | (simp [*]; done))) | (refine m_ldall_rp rfl rfl ?_) | (refine m_stall rfl rfl rfl ?_ ?_ ?_ ?_; (· first | rfl | (simp [*]; done)); (· first | rfl | (simp [*]; done)); (· first | rfl | (simp [cellOk, Value.oneCell']; done))))) | refine end_ops ?_ | refine seq_ops ?_ | refine AW_ops ?_ | refine AW_seq ?_ | refine AW_ret ?_ | refine ret_done ?_ | refine norm_then ?_ | refine ret_then ?_ | refine exit_then ?_)
  refine step_ops ?_
  refine m_stall rfl rfl rfl hl rfl (kinV_ok F true) ?_
  repeat (first | (refine step_ops ?_; (first | (refine m_mov (by conv => lhs; whnf) ?_) | (refine m_len_ro rfl ?_) | (refine m_len_sl rfl ?_) | (refine m_len_nil rfl ?_) | (apply m_st; (· rfl); (· rfl); (· rfl); (· first | omega | (simp; done) | (simp; omega)); (· rfl)) | (refine m_alloc ?_) | (refine m_fa rfl ?_) | (refine m_fa_rp rfl ?_) | (refine m_bld rfl ?_) | (refine m_bld_1 (by conv => lhs; whnf) (by decide)  (by rfl) ?_) | (refine m_bld_2 (by conv => lhs; whnf) (by conv => lhs; whnf) (by decide)  (by decide) (by rfl) (by rfl) ?_) | (refine m_bld_3 (by conv => lhs; whnf) (by conv => lhs; whnf) (by conv => lhs; whnf) (by decide)  (by decide) (by decide) (by rfl) (by rfl) (by rfl) ?_) | (refine m_ldall rfl rfl ?_ ?_; (· first | rfl | (simp; done) | (simp [*]; done))) | (refine m_ldall_rp rfl rfl ?_) | (refine m_stall rfl rfl rfl ?_ ?_ ?_ ?_; (· first | rfl | (simp [*]; done)); (· first | rfl | (simp [*]; done)); (· first | rfl | (simp [cellOk, Value.oneCell']; done))))) | refine end_ops ?_ | refine seq_ops ?_ | refine AW_ops ?_ | refine AW_seq ?_ | refine AW_ret ?_ | refine ret_done ?_ | refine norm_then ?_ | refine ret_then ?_ | refine exit_then ?_)
  refine ret_donec rfl rfl hl (outs_agg (kinV_plain F))

theorem areApart_spec (F : List Int) (a b : Nat) (h9 : F.length ≤ 9) (ha : a < F.length) (hb : b < F.length) : Sp Try.prog 29 [.agg (kinV F), .i a, .i b] (.b (decide (F.getD a 0 ≠ F.getD b 0))) := by
  have hl := kinCells_len h9
  have e1 : (kinV F)[0 + 1 + a]? = some (AV.i (F.getD a 0)) := by
    unfold kinV; rw [show 0 + 1 + a = a + 1 by omega, List.getElem?_cons_succ, List.getElem?_map, List.getElem?_eq_getElem (by omega : a < (kinCells F).length)]
    have := kinCells_get ha
    simp only [List.getD_eq_getElem?_getD, List.getElem?_eq_getElem (by omega : a < (kinCells F).length), Option.getD_some] at this
    rw [Option.map_some, this, List.getD_eq_getElem?_getD]
  have e2 : (kinV F)[0 + 1 + b]? = some (AV.i (F.getD b 0)) := by
    unfold kinV; rw [show 0 + 1 + b = b + 1 by omega, List.getElem?_cons_succ, List.getElem?_map, List.getElem?_eq_getElem (by omega : b < (kinCells F).length)]
    have := kinCells_get hb
    simp only [List.getD_eq_getElem?_getD, List.getElem?_eq_getElem (by omega : b < (kinCells F).length), Option.getD_some] at this
    rw [Option.map_some, this, List.getD_eq_getElem?_getD]
  refine spec_of Try.func29 rfl cc29 rfl ?_
  unfold ac29
  repeat (first | ((first | refine step_ops ?_ | refine step_tree ?_); (first | (refine m_mov (by conv => lhs; whnf) ?_) | (refine m_neq rfl rfl ?_) | (refine m_neqk rfl rfl ?_) | (refine m_neqs_self rfl rfl ?_) | (refine m_neqs rfl rfl ?_) | (refine m_arr1 rfl rfl ?_ ?_; (· omega)) | (apply m_arr1j; (· rfl); (· rfl); (· assumption); (· omega)) | (refine m_arro rfl rfl ?_ ?_; (· omega)) | (refine m_arr rfl rfl ?_ ?_ ?_; (· omega); (· omega)) | (refine m_ld_rpi rfl ?_ ?_; (· omega)) | (refine m_ld_pti rfl (by rfl) ?_ ?_; (· first | omega | (simp; omega))) | (apply m_ld_ptb; (· rfl); (· rfl); (· assumption)) | (apply m_ld_rp; (· rfl); (· rfl)) | (apply m_ld_pt; (· rfl); (· rfl); (· rfl)) | (refine m_fa rfl ?_) | (refine m_fa_rp rfl ?_) | (refine m_box rfl ?_ ?_; (· first | rfl | (simp [cellOk, Value.oneCell']; done))) | (refine m_box1 rfl rfl ?_))) | refine end_ops ?_ | refine seq_ops ?_ | refine AW_ops ?_ | refine end_tree ?_ | refine seq_tree ?_ | refine AW_tree ?_ | refine AW_seq ?_ | refine AW_ret ?_ | refine ret_done ?_ | refine norm_then ?_ | refine ret_then ?_ | refine exit_then ?_)
  refine step_ops ?_
  refine m_box rfl (kinV_ok F true) ?_
  repeat (first | ((first | refine step_ops ?_ | refine step_tree ?_); (first | (refine m_mov (by conv => lhs; whnf) ?_) | (refine m_neq rfl rfl ?_) | (refine m_neqk rfl rfl ?_) | (refine m_neqs_self rfl rfl ?_) | (refine m_neqs rfl rfl ?_) | (refine m_arr1 rfl rfl ?_ ?_; (· omega)) | (apply m_arr1j; (· rfl); (· rfl); (· assumption); (· omega)) | (refine m_arro rfl rfl ?_ ?_; (· omega)) | (refine m_arr rfl rfl ?_ ?_ ?_; (· omega); (· omega)) | (refine m_ld_rpi rfl ?_ ?_; (· omega)) | (refine m_ld_pti rfl (by rfl) ?_ ?_; (· first | omega | (simp; omega))) | (apply m_ld_ptb; (· rfl); (· rfl); (· assumption)) | (apply m_ld_rp; (· rfl); (· rfl)) | (apply m_ld_pt; (· rfl); (· rfl); (· rfl)) | (refine m_fa rfl ?_) | (refine m_fa_rp rfl ?_) | (refine m_box rfl ?_ ?_; (· first | rfl | (simp [cellOk, Value.oneCell']; done))) | (refine m_box1 rfl rfl ?_))) | refine end_ops ?_ | refine seq_ops ?_ | refine AW_ops ?_ | refine end_tree ?_ | refine seq_tree ?_ | refine AW_tree ?_ | refine AW_seq ?_ | refine AW_ret ?_ | refine ret_done ?_ | refine norm_then ?_ | refine ret_then ?_ | refine exit_then ?_)
  refine step_tree ?_
  refine m_ld_pt rfl rfl e1 ?_
  repeat (first | ((first | refine step_ops ?_ | refine step_tree ?_); (first | (refine m_mov (by conv => lhs; whnf) ?_) | (refine m_neq rfl rfl ?_) | (refine m_neqk rfl rfl ?_) | (refine m_neqs_self rfl rfl ?_) | (refine m_neqs rfl rfl ?_) | (refine m_arr1 rfl rfl ?_ ?_; (· omega)) | (apply m_arr1j; (· rfl); (· rfl); (· assumption); (· omega)) | (refine m_arro rfl rfl ?_ ?_; (· omega)) | (refine m_arr rfl rfl ?_ ?_ ?_; (· omega); (· omega)) | (refine m_ld_rpi rfl ?_ ?_; (· omega)) | (refine m_ld_pti rfl (by rfl) ?_ ?_; (· first | omega | (simp; omega))) | (apply m_ld_ptb; (· rfl); (· rfl); (· assumption)) | (apply m_ld_rp; (· rfl); (· rfl)) | (apply m_ld_pt; (· rfl); (· rfl); (· rfl)) | (refine m_fa rfl ?_) | (refine m_fa_rp rfl ?_) | (refine m_box rfl ?_ ?_; (· first | rfl | (simp [cellOk, Value.oneCell']; done))) | (refine m_box1 rfl rfl ?_))) | refine end_ops ?_ | refine seq_ops ?_ | refine AW_ops ?_ | refine end_tree ?_ | refine seq_tree ?_ | refine AW_tree ?_ | refine AW_seq ?_ | refine AW_ret ?_ | refine ret_done ?_ | refine norm_then ?_ | refine ret_then ?_ | refine exit_then ?_)
  refine step_tree ?_
  refine m_ld_pt rfl rfl e2 ?_
  repeat (first | ((first | refine step_ops ?_ | refine step_tree ?_); (first | (refine m_mov (by conv => lhs; whnf) ?_) | (refine m_neq rfl rfl ?_) | (refine m_neqk rfl rfl ?_) | (refine m_neqs_self rfl rfl ?_) | (refine m_neqs rfl rfl ?_) | (refine m_arr1 rfl rfl ?_ ?_; (· omega)) | (apply m_arr1j; (· rfl); (· rfl); (· assumption); (· omega)) | (refine m_arro rfl rfl ?_ ?_; (· omega)) | (refine m_arr rfl rfl ?_ ?_ ?_; (· omega); (· omega)) | (refine m_ld_rpi rfl ?_ ?_; (· omega)) | (refine m_ld_pti rfl (by rfl) ?_ ?_; (· first | omega | (simp; omega))) | (apply m_ld_ptb; (· rfl); (· rfl); (· assumption)) | (apply m_ld_rp; (· rfl); (· rfl)) | (apply m_ld_pt; (· rfl); (· rfl); (· rfl)) | (refine m_fa rfl ?_) | (refine m_fa_rp rfl ?_) | (refine m_box rfl ?_ ?_; (· first | rfl | (simp [cellOk, Value.oneCell']; done))) | (refine m_box1 rfl rfl ?_))) | refine end_ops ?_ | refine seq_ops ?_ | refine AW_ops ?_ | refine end_tree ?_ | refine seq_tree ?_ | refine AW_tree ?_ | refine AW_seq ?_ | refine AW_ret ?_ | refine ret_done ?_ | refine norm_then ?_ | refine ret_then ?_ | refine exit_then ?_)
  exact outs_b rfl

end Go.Proofs.Ytlcjipgnflncfaa
