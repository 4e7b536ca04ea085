/- Contracts: all seatings that are to be kept. -/
import Derived.Test.YtpefdmmnimmpiaaSpFu
import Derived.Test.YtpefdmmnimmpiaaSqC
import Derived.Test.YtpefdmmnimmpiaaMaSt
namespace Go.Am
/-- May a function value be asked of a whole seating? -/
structure Keeps (P : Program) (f : FuncId) (fl : List AV) (k : Nat) (n : Nat) (keep : List Int → Bool) : Prop where
  call : Callable P f
  bears : Bears fl
  norefs : ∀ keep, refsL keep fl = true
  nokill : ∀ r, killL r fl = fl
  spec : ∀ (M : List Int), M.length = n → Sp P f (fl.take k ++ [ints M] ++ fl.drop k) (.b (keep M))
mutual
theorem renV_none (f : Nat → Nat) : ∀ x : AV, refsV (fun _ => false) x = true → renV f x = x
  | .any, _ => rfl
  | .v _, _ => rfl
  | .ro _ _ _ _, _ => rfl
  | .rp _, _ => rfl
  | .sl _ _ _ _, h => by simp [refsV] at h
  | .pt _ _, h => by simp [refsV] at h
  | .mp _, h => by simp [refsV] at h
  | .itr _, h => by simp [refsV] at h
  | .ob _, _ => rfl
  | .fn _ l _, h => by simp only [refsV] at h; simp only [renV, renL_none f l h]
  | .rmp _ _ _, _ => rfl
  | .agg l, h => by simp only [refsV] at h; simp only [renV, renL_none f l h]
  | .tup l, h => by simp only [refsV] at h; simp only [renV, renL_none f l h]
theorem renL_none (f : Nat → Nat) : ∀ l : List AV, refsL (fun _ => false) l = true → renL f l = l
  | [], _ => rfl
  | a :: l, h => by
    simp only [refsL, Bool.and_eq_true] at h
    simp only [renL, renV_none f a h.1, renL_none f l h.2]
end
theorem ren_fn {f : Nat → Nat} {g : FuncId} {fl : List AV} {k : Nat} (h : ∀ keep, refsL keep fl = true) : renV f (.fn g fl k) = .fn g fl k := by simp only [renV, renL_none f fl (h _)]
theorem tm_stM {l : List (Nat × AV)} {h : List (Nat × (Bool × List AV))} {r0 b t : Nat} {rows : List (List Int)} : (stM l h r0 b rows).tm t = (look l t).getD .any := rfl
theorem tm_eh2 {a b c : AV} {l : List AV} {hp : Hp} : (enterH (a :: b :: c :: l) hp).tm 2 = c := rfl
theorem srchA (A : List (List Int)) (j : Nat) : (AV.tup [newInts ((A[j]?).getD []), .b (A[j]?).isSome]) = .tup [newInts (A.getD j []), .b (decide (j < A.length))] := by
  have e : (A[j]?).isSome = decide (j < A.length) := by
    by_cases h : j < A.length
    · simp [h]
    · simp [h]
  rw [e, List.getD_eq_getElem?_getD]
end Go.Am
namespace Go.Proofs.Ytpefdmmnimmpiaa
open Go.Am
attribute [local irreducible] AW Outs Weak Lends Lend Sp aops atree aop1 Then Round InBlock Done
attribute [local irreducible] SpH DoneH

theorem canSitAsks (l : Int) (n : Nat) (hn : n ≤ 1000) : AsksK Try.prog 65 [.rp [.i l]] 0 n (fitsN l) where
  call := ⟨_, Try.func65, by rfl, by rfl⟩
  bears := bears_rp rfl
  norefs := fun _ => rfl
  nokill := fun _ => rfl
  spec := fun M y h1 _ _ => canSitAsk_spec l M (y : Int) (by omega)

/-- All seatings of n guests. -/
def allS (l : Int) (n : Nat) : List (List Int) := goOn (fitsN l) n n []
theorem allS_len (l : Int) (n : Nat) (hn : n ≤ 7) : (allS l n).length ≤ 5040 :=
  Nat.le_trans (goOn_count l n n [] (beg_nil n) (by simp)) (fct_le n (by omega))
theorem allS_mem {l : Int} {n : Nat} {x : List Int} (h : x ∈ allS l n) : IsBeg n x ∧ x.length = n := by
  have := goOn_beg l n n [] (beg_nil n) x h
  simpa using this

theorem seatingsWhere_spec {f : FuncId} {fl : List AV} {kk n : Nat} {keep : List Int → Bool} (l : Int) (F : Keeps Try.prog f fl kk n keep) (hn : n ≤ 7) (h1 : 1 ≤ n) :
    SpH Try.prog 24 [.i n, .i l, .fn f fl kk] (fun _ => none) (.sl nbase 1 0 ((allS l n).filter keep).length) (matO ((allS l n).filter keep)) := by
  have hpb : pbase = 100000 := rfl
  have hAs := canSitAsks l n (by omega)
  have hf := firstFitting_spec hAs (by omega) h1
  have hal := allS_len l n hn
  have hmem : ∀ x ∈ allS l n, IsBeg n x ∧ x.length = n := fun x hx => allS_mem hx
  have hsort : (allS l n).Pairwise fun a b => comesB a b = true := goOn_sorted _ _ _ _
  have hnx : ∀ j, j < (allS l n).length → Sp Try.prog 54 [ints ((allS l n).getD j []), .fn 65 [.rp [.i l]] 0] (.tup [newInts ((allS l n).getD (j + 1) []), .b (decide (j + 1 < (allS l n).length))]) := by
    intro j hj
    have hm := hmem _ (show (allS l n).getD j [] ∈ allS l n by simp [hj])
    have := nextFitting_spec hAs (by omega) h1 _ hm.2 hm.1.2
    rw [show goOn (fitsN l) n n [] = allS l n from rfl, find_sorted hsort hj] at this
    unfold srchR at this
    rw [srchA] at this
    exact this
  rw [show goOn (fitsN l) n n [] = allS l n from rfl, List.head?_eq_getElem?] at hf
  unfold srchR at hf
  rw [srchA] at hf
  have hstat : Static (fun _ => none) (.sl nbase 1 0 ((allS l n).filter keep).length) (matO ((allS l n).filter keep)) := static_mat1 _
  generalize allS l n = A at *
  clear hsort
  refine specH_of Try.func24 rfl cc24 rfl (by first | exact static_mat1 _ | exact static_mat2 _ _ | assumption) ?_
  unfold ac24
  repeat (first | (refine step_ops ?_; (first | (refine m_mov (by conv => lhs; whnf) ?_) | (refine m_nils ?_) | (refine m_ext rfl rfl ?_) | (refine m_bsl1 rfl rfl ?_) | (refine m_app1i rfl (by decide) (by rfl) (by first | rfl | omega | (simp; done)) rfl rfl ?_ (by decide) ?_; (· first | omega | (simp; omega))) | (refine m_app1 rfl (by decide) rfl (by first | (simp; done) | (simp [*]; done) | (simp; omega)) rfl rfl rfl ?_ (by decide) ?_; (· first | omega | (simp; omega))) | (refine m_appro rfl (by decide) rfl (by first | rfl | (simp; done) | (simp [*]; done) | (simp; omega)) rfl (oks_ints _) ?_ (by decide) ?_; (· first | omega | (simp; omega))))) | refine end_ops ?_ | refine seq_ops ?_ | refine AW_ops ?_ | (refine cond_t rfl ?_ ?_; (· first | rfl | assumption | (refine decide_eq_true ?_; first | assumption | omega) | (refine nt ?_; first | assumption | omega) | (simp [*]; done))) | (refine cond_f rfl ?_ ?_; (· first | rfl | assumption | (refine decide_eq_false ?_; first | assumption | omega) | (refine nf ?_; first | assumption | omega) | (simp [*]; done))) | refine skip_then ?_ | refine AW_seq ?_ | refine AW_ret ?_ | refine ret_done ?_ | refine norm_then ?_ | refine ret_then ?_ | refine exit_then ?_ | refine AW_block ?_ | refine norm_block ?_ | refine ret_block ?_ | refine ret_round ?_ | refine exit_round ?_ | refine AW_exit ?_ | refine exit_block ?_ | (refine exit_other ?_ ?_; (· decide)) | refine AW_skip ?_)
  (refine step_ops ?_); (apply m_call (canSit_spec l)); (· repeat (first | exact lends_nil | (refine lends_cons ?_ ?_; (· first | exact lend_v | (refine lend_roM rfl; done) | (refine lend_mat rfl ?_; intro j hj; simp (disch := first | omega | assumption) only [hp_put, hp_mem_ne, hp_kill_ne]; first | exact stM_row rfl hj | (rw [stM_row rfl hj]; rfl)) | (refine lend_ints ?_; first | rfl | omega) | (refine lend_sli (by rfl) ?_; first | rfl | omega | (simp; done)) | exact lend_any | (refine lend_agg ?_; first | rfl | assumption | (simp [plainV]; done))))))
  repeat (first | (refine step_ops ?_; (first | (refine m_mov (by conv => lhs; whnf) ?_) | (refine m_nils ?_) | (refine m_ext rfl rfl ?_) | (refine m_bsl1 rfl rfl ?_) | (refine m_app1i rfl (by decide) (by rfl) (by first | rfl | omega | (simp; done)) rfl rfl ?_ (by decide) ?_; (· first | omega | (simp; omega))) | (refine m_app1 rfl (by decide) rfl (by first | (simp; done) | (simp [*]; done) | (simp; omega)) rfl rfl rfl ?_ (by decide) ?_; (· first | omega | (simp; omega))) | (refine m_appro rfl (by decide) rfl (by first | rfl | (simp; done) | (simp [*]; done) | (simp; omega)) rfl (oks_ints _) ?_ (by decide) ?_; (· first | omega | (simp; omega))))) | refine end_ops ?_ | refine seq_ops ?_ | refine AW_ops ?_ | (refine cond_t rfl ?_ ?_; (· first | rfl | assumption | (refine decide_eq_true ?_; first | assumption | omega) | (refine nt ?_; first | assumption | omega) | (simp [*]; done))) | (refine cond_f rfl ?_ ?_; (· first | rfl | assumption | (refine decide_eq_false ?_; first | assumption | omega) | (refine nf ?_; first | assumption | omega) | (simp [*]; done))) | refine skip_then ?_ | refine AW_seq ?_ | refine AW_ret ?_ | refine ret_done ?_ | refine norm_then ?_ | refine ret_then ?_ | refine exit_then ?_ | refine AW_block ?_ | refine norm_block ?_ | refine ret_block ?_ | refine ret_round ?_ | refine exit_round ?_ | refine AW_exit ?_ | refine exit_block ?_ | (refine exit_other ?_ ?_; (· decide)) | refine AW_skip ?_)
  refine step_ops ?_
  refine m_callt hf ?_ (allv_ints _) rfl ?_
  · exact lends_cons lend_v (lends_cons (lend_bears (bears_rp rfl)) lends_nil)
  repeat (first | (refine step_ops ?_; (first | (refine m_mov (by conv => lhs; whnf) ?_) | (refine m_nils ?_) | (refine m_ext rfl rfl ?_) | (refine m_bsl1 rfl rfl ?_) | (refine m_app1i rfl (by decide) (by rfl) (by first | rfl | omega | (simp; done)) rfl rfl ?_ (by decide) ?_; (· first | omega | (simp; omega))) | (refine m_app1 rfl (by decide) rfl (by first | (simp; done) | (simp [*]; done) | (simp; omega)) rfl rfl rfl ?_ (by decide) ?_; (· first | omega | (simp; omega))) | (refine m_appro rfl (by decide) rfl (by first | rfl | (simp; done) | (simp [*]; done) | (simp; omega)) rfl (oks_ints _) ?_ (by decide) ?_; (· first | omega | (simp; omega))))) | refine end_ops ?_ | refine seq_ops ?_ | refine AW_ops ?_ | (refine cond_t rfl ?_ ?_; (· first | rfl | assumption | (refine decide_eq_true ?_; first | assumption | omega) | (refine nt ?_; first | assumption | omega) | (simp [*]; done))) | (refine cond_f rfl ?_ ?_; (· first | rfl | assumption | (refine decide_eq_false ?_; first | assumption | omega) | (refine nf ?_; first | assumption | omega) | (simp [*]; done))) | refine skip_then ?_ | refine AW_seq ?_ | refine AW_ret ?_ | refine ret_done ?_ | refine norm_then ?_ | refine ret_then ?_ | refine exit_then ?_ | refine AW_block ?_ | refine norm_block ?_ | refine ret_block ?_ | refine ret_round ?_ | refine exit_round ?_ | refine AW_exit ?_ | refine exit_block ?_ | (refine exit_other ?_ ?_; (· decide)) | refine AW_skip ?_)
  refine AW_loop (α := Nat) (fun j => j ≤ A.length) (fun j => stM [(0, .i n), (2, .fn f fl kk), (7, .sl 7 1 0 ((A.take j).filter keep).length), (8, .fn 65 [.rp [.i l]] 0), (9, .sl 16 1 0 (A.getD j []).length), (10, .b (decide (j < A.length)))] [(16, (true, (A.getD j []).map AV.i))] 7 1000 ((A.take j).filter keep)) (fun j => A.length - j) 0 (by omega)
    (weak_keep id ?_ ?_ rfl rfl rfl (.inl (by simp [pbase])) ?_ rfl rfl (.inr ⟨rfl, rfl⟩) (fun j hj => by simp at hj)) ?_
  · (repeat' (first | exact trivial | refine And.intro ?_ ?_)) <;> (first | rfl | skip)
    all_goals simp (disch := decide) [tm_put_ne', tm_put_none, tm_mem, tm_kill, tm_stM, tm_eh2, Am.look, kill_fn F.nokill, ren_fn F.norefs]
  · (repeat' (first | exact trivial | refine And.intro ?_ ?_)) <;> (first | rfl | skip)
  · simp [refsT, refsV, refsL, F.norefs, Am.look]
  intro j hj
  have hrl := rowsC_len 1000 ((A.take j).filter keep)
  have hle : ((A.take j).filter keep).length ≤ j := Nat.le_trans (List.length_filter_le ..) (List.length_take_le _ _)
  by_cases hc : j < A.length
  · have hm := hmem _ (show A.getD j [] ∈ A by simp [hc])
    have hnj := hnx j hc
    have hks := F.spec (A.getD j []) hm.2
    have hml : (A.getD j []).length ≤ 1048576 := by omega
    by_cases hk : keep (A.getD j []) = true
    · have es : (A.take (j + 1)).filter keep = (A.take j).filter keep ++ [A.getD j []] := by
        rw [take_snoc A j [] hc, List.filter_append, List.filter_cons_of_pos hk]; rfl
      rw [hk] at hks
      repeat (first | (refine step_ops ?_; (first | (refine m_mov (by conv => lhs; whnf) ?_) | (refine m_nils ?_) | (refine m_ext rfl rfl ?_) | (refine m_bsl1 rfl rfl ?_) | (refine m_app1i rfl (by decide) (by rfl) (by first | rfl | omega | (simp; done)) rfl rfl ?_ (by decide) ?_; (· first | omega | (simp; omega))) | (refine m_app1 rfl (by decide) rfl (by first | (simp; done) | (simp [*]; done) | (simp; omega)) rfl rfl rfl ?_ (by decide) ?_; (· first | omega | (simp; omega))) | (refine m_appro rfl (by decide) rfl (by first | rfl | (simp; done) | (simp [*]; done) | (simp; omega)) rfl (oks_ints _) ?_ (by decide) ?_; (· first | omega | (simp; omega))))) | refine end_ops ?_ | refine seq_ops ?_ | refine AW_ops ?_ | (refine cond_t rfl ?_ ?_; (· first | rfl | assumption | (refine decide_eq_true ?_; first | assumption | omega) | (refine nt ?_; first | assumption | omega) | (simp [*]; done))) | (refine cond_f rfl ?_ ?_; (· first | rfl | assumption | (refine decide_eq_false ?_; first | assumption | omega) | (refine nf ?_; first | assumption | omega) | (simp [*]; done))) | refine skip_then ?_ | refine AW_seq ?_ | refine AW_ret ?_ | refine ret_done ?_ | refine norm_then ?_ | refine ret_then ?_ | refine exit_then ?_ | refine AW_block ?_ | refine norm_block ?_ | refine ret_block ?_ | refine ret_round ?_ | refine exit_round ?_ | refine AW_exit ?_ | refine exit_block ?_ | (refine exit_other ?_ ?_; (· decide)) | refine AW_skip ?_)
      refine step_ops ?_
      refine m_callf rfl F.call hks ?_ ?_
      · exact asksK_lend F.bears rfl rfl (lends_cons (lend_sli (by rfl) rfl) lends_nil)
      repeat (first | (refine step_ops ?_; (first | (refine m_mov (by conv => lhs; whnf) ?_) | (refine m_nils ?_) | (refine m_ext rfl rfl ?_) | (refine m_bsl1 rfl rfl ?_) | (refine m_app1i rfl (by decide) (by rfl) (by first | rfl | omega | (simp; done)) rfl rfl ?_ (by decide) ?_; (· first | omega | (simp; omega))) | (refine m_app1 rfl (by decide) rfl (by first | (simp; done) | (simp [*]; done) | (simp; omega)) rfl rfl rfl ?_ (by decide) ?_; (· first | omega | (simp; omega))) | (refine m_appro rfl (by decide) rfl (by first | rfl | (simp; done) | (simp [*]; done) | (simp; omega)) rfl (oks_ints _) ?_ (by decide) ?_; (· first | omega | (simp; omega))))) | refine end_ops ?_ | refine seq_ops ?_ | refine AW_ops ?_ | (refine cond_t rfl ?_ ?_; (· first | rfl | assumption | (refine decide_eq_true ?_; first | assumption | omega) | (refine nt ?_; first | assumption | omega) | (simp [*]; done))) | (refine cond_f rfl ?_ ?_; (· first | rfl | assumption | (refine decide_eq_false ?_; first | assumption | omega) | (refine nf ?_; first | assumption | omega) | (simp [*]; done))) | refine skip_then ?_ | refine AW_seq ?_ | refine AW_ret ?_ | refine ret_done ?_ | refine norm_then ?_ | refine ret_then ?_ | refine exit_then ?_ | refine AW_block ?_ | refine norm_block ?_ | refine ret_block ?_ | refine ret_round ?_ | refine exit_round ?_ | refine AW_exit ?_ | refine exit_block ?_ | (refine exit_other ?_ ?_; (· decide)) | refine AW_skip ?_)
      refine step_ops ?_
      refine m_bsl1d rfl rfl ?_
      refine step_ops ?_
      refine m_app1d rfl (by decide) rfl ?_ rfl rfl rfl ?_ (by decide) ?_
      · simp [rowsC_kill, rowsC_len]
      · omega
      repeat (first | (refine step_ops ?_; (first | (refine m_mov (by conv => lhs; whnf) ?_) | (refine m_nils ?_) | (refine m_ext rfl rfl ?_) | (refine m_bsl1 rfl rfl ?_) | (refine m_app1i rfl (by decide) (by rfl) (by first | rfl | omega | (simp; done)) rfl rfl ?_ (by decide) ?_; (· first | omega | (simp; omega))) | (refine m_app1 rfl (by decide) rfl (by first | (simp; done) | (simp [*]; done) | (simp; omega)) rfl rfl rfl ?_ (by decide) ?_; (· first | omega | (simp; omega))) | (refine m_appro rfl (by decide) rfl (by first | rfl | (simp; done) | (simp [*]; done) | (simp; omega)) rfl (oks_ints _) ?_ (by decide) ?_; (· first | omega | (simp; omega))))) | refine end_ops ?_ | refine seq_ops ?_ | refine AW_ops ?_ | (refine cond_t rfl ?_ ?_; (· first | rfl | assumption | (refine decide_eq_true ?_; first | assumption | omega) | (refine nt ?_; first | assumption | omega) | (simp [*]; done))) | (refine cond_f rfl ?_ ?_; (· first | rfl | assumption | (refine decide_eq_false ?_; first | assumption | omega) | (refine nf ?_; first | assumption | omega) | (simp [*]; done))) | refine skip_then ?_ | refine AW_seq ?_ | refine AW_ret ?_ | refine ret_done ?_ | refine norm_then ?_ | refine ret_then ?_ | refine exit_then ?_ | refine AW_block ?_ | refine norm_block ?_ | refine ret_block ?_ | refine ret_round ?_ | refine exit_round ?_ | refine AW_exit ?_ | refine exit_block ?_ | (refine exit_other ?_ ?_; (· decide)) | refine AW_skip ?_)
      refine step_ops ?_
      refine m_callt hnj ?_ (allv_ints _) rfl ?_
      · exact lends_cons (lend_sli (by rfl) rfl) (lends_cons (lend_bears (bears_rp rfl)) lends_nil)
      repeat (first | (refine step_ops ?_; (first | (refine m_mov (by conv => lhs; whnf) ?_) | (refine m_nils ?_) | (refine m_ext rfl rfl ?_) | (refine m_bsl1 rfl rfl ?_) | (refine m_app1i rfl (by decide) (by rfl) (by first | rfl | omega | (simp; done)) rfl rfl ?_ (by decide) ?_; (· first | omega | (simp; omega))) | (refine m_app1 rfl (by decide) rfl (by first | (simp; done) | (simp [*]; done) | (simp; omega)) rfl rfl rfl ?_ (by decide) ?_; (· first | omega | (simp; omega))) | (refine m_appro rfl (by decide) rfl (by first | rfl | (simp; done) | (simp [*]; done) | (simp; omega)) rfl (oks_ints _) ?_ (by decide) ?_; (· first | omega | (simp; omega))))) | refine end_ops ?_ | refine seq_ops ?_ | refine AW_ops ?_ | (refine cond_t rfl ?_ ?_; (· first | rfl | assumption | (refine decide_eq_true ?_; first | assumption | omega) | (refine nt ?_; first | assumption | omega) | (simp [*]; done))) | (refine cond_f rfl ?_ ?_; (· first | rfl | assumption | (refine decide_eq_false ?_; first | assumption | omega) | (refine nf ?_; first | assumption | omega) | (simp [*]; done))) | refine skip_then ?_ | refine AW_seq ?_ | refine AW_ret ?_ | refine ret_done ?_ | refine norm_then ?_ | refine ret_then ?_ | refine exit_then ?_ | refine AW_block ?_ | refine norm_block ?_ | refine ret_block ?_ | refine ret_round ?_ | refine exit_round ?_ | refine AW_exit ?_ | refine exit_block ?_ | (refine exit_other ?_ ?_; (· decide)) | refine AW_skip ?_)
      refine next_round (j + 1) (by omega) ?_ ?_
      · rw [es, List.length_append]
        refine weak_push (row := A.getD j []) (fun r => if r = 7 then 32 else if r = 16 then 23 else r) 16 ?_ ?_ rfl rfl rfl (by omega) ?_ rfl (by decide) rfl rfl ?_ ?_ ?_
        · (repeat' (first | exact trivial | refine And.intro ?_ ?_)) <;> (first | rfl | skip)
          all_goals simp (disch := decide) [tm_put_ne', tm_put_none, tm_mem, tm_kill, tm_stM, tm_eh2, Am.look, kill_fn F.nokill, ren_fn F.norefs]
        · (repeat' (first | exact trivial | refine And.intro ?_ ?_)) <;> (first | rfl | skip)
        · simp [refsT, refsV, refsL, F.norefs, Am.look]
        · simp [rowsC_kill, killL_append, killL]
          rfl
        · rfl
        · (intro j hj; simp (disch := first | omega | assumption) only [hp_put, hp_mem_ne, hp_kill_ne]; first | exact stM_row rfl hj | (rw [stM_row rfl hj]; rfl))
      · omega
    · have hkf : keep (A.getD j []) = false := by simpa using hk
      have es : (A.take (j + 1)).filter keep = (A.take j).filter keep := by
        rw [take_snoc A j [] hc, List.filter_append, List.filter_cons_of_neg hk]; simp
      rw [hkf] at hks
      repeat (first | (refine step_ops ?_; (first | (refine m_mov (by conv => lhs; whnf) ?_) | (refine m_nils ?_) | (refine m_ext rfl rfl ?_) | (refine m_bsl1 rfl rfl ?_) | (refine m_app1i rfl (by decide) (by rfl) (by first | rfl | omega | (simp; done)) rfl rfl ?_ (by decide) ?_; (· first | omega | (simp; omega))) | (refine m_app1 rfl (by decide) rfl (by first | (simp; done) | (simp [*]; done) | (simp; omega)) rfl rfl rfl ?_ (by decide) ?_; (· first | omega | (simp; omega))) | (refine m_appro rfl (by decide) rfl (by first | rfl | (simp; done) | (simp [*]; done) | (simp; omega)) rfl (oks_ints _) ?_ (by decide) ?_; (· first | omega | (simp; omega))))) | refine end_ops ?_ | refine seq_ops ?_ | refine AW_ops ?_ | (refine cond_t rfl ?_ ?_; (· first | rfl | assumption | (refine decide_eq_true ?_; first | assumption | omega) | (refine nt ?_; first | assumption | omega) | (simp [*]; done))) | (refine cond_f rfl ?_ ?_; (· first | rfl | assumption | (refine decide_eq_false ?_; first | assumption | omega) | (refine nf ?_; first | assumption | omega) | (simp [*]; done))) | refine skip_then ?_ | refine AW_seq ?_ | refine AW_ret ?_ | refine ret_done ?_ | refine norm_then ?_ | refine ret_then ?_ | refine exit_then ?_ | refine AW_block ?_ | refine norm_block ?_ | refine ret_block ?_ | refine ret_round ?_ | refine exit_round ?_ | refine AW_exit ?_ | refine exit_block ?_ | (refine exit_other ?_ ?_; (· decide)) | refine AW_skip ?_)
      refine step_ops ?_
      refine m_callf rfl F.call hks ?_ ?_
      · exact asksK_lend F.bears rfl rfl (lends_cons (lend_sli (by rfl) rfl) lends_nil)
      repeat (first | (refine step_ops ?_; (first | (refine m_mov (by conv => lhs; whnf) ?_) | (refine m_nils ?_) | (refine m_ext rfl rfl ?_) | (refine m_bsl1 rfl rfl ?_) | (refine m_app1i rfl (by decide) (by rfl) (by first | rfl | omega | (simp; done)) rfl rfl ?_ (by decide) ?_; (· first | omega | (simp; omega))) | (refine m_app1 rfl (by decide) rfl (by first | (simp; done) | (simp [*]; done) | (simp; omega)) rfl rfl rfl ?_ (by decide) ?_; (· first | omega | (simp; omega))) | (refine m_appro rfl (by decide) rfl (by first | rfl | (simp; done) | (simp [*]; done) | (simp; omega)) rfl (oks_ints _) ?_ (by decide) ?_; (· first | omega | (simp; omega))))) | refine end_ops ?_ | refine seq_ops ?_ | refine AW_ops ?_ | (refine cond_t rfl ?_ ?_; (· first | rfl | assumption | (refine decide_eq_true ?_; first | assumption | omega) | (refine nt ?_; first | assumption | omega) | (simp [*]; done))) | (refine cond_f rfl ?_ ?_; (· first | rfl | assumption | (refine decide_eq_false ?_; first | assumption | omega) | (refine nf ?_; first | assumption | omega) | (simp [*]; done))) | refine skip_then ?_ | refine AW_seq ?_ | refine AW_ret ?_ | refine ret_done ?_ | refine norm_then ?_ | refine ret_then ?_ | refine exit_then ?_ | refine AW_block ?_ | refine norm_block ?_ | refine ret_block ?_ | refine ret_round ?_ | refine exit_round ?_ | refine AW_exit ?_ | refine exit_block ?_ | (refine exit_other ?_ ?_; (· decide)) | refine AW_skip ?_)
      refine step_ops ?_
      refine m_callt hnj ?_ (allv_ints _) rfl ?_
      · exact lends_cons (lend_sli (by rfl) rfl) (lends_cons (lend_bears (bears_rp rfl)) lends_nil)
      repeat (first | (refine step_ops ?_; (first | (refine m_mov (by conv => lhs; whnf) ?_) | (refine m_nils ?_) | (refine m_ext rfl rfl ?_) | (refine m_bsl1 rfl rfl ?_) | (refine m_app1i rfl (by decide) (by rfl) (by first | rfl | omega | (simp; done)) rfl rfl ?_ (by decide) ?_; (· first | omega | (simp; omega))) | (refine m_app1 rfl (by decide) rfl (by first | (simp; done) | (simp [*]; done) | (simp; omega)) rfl rfl rfl ?_ (by decide) ?_; (· first | omega | (simp; omega))) | (refine m_appro rfl (by decide) rfl (by first | rfl | (simp; done) | (simp [*]; done) | (simp; omega)) rfl (oks_ints _) ?_ (by decide) ?_; (· first | omega | (simp; omega))))) | refine end_ops ?_ | refine seq_ops ?_ | refine AW_ops ?_ | (refine cond_t rfl ?_ ?_; (· first | rfl | assumption | (refine decide_eq_true ?_; first | assumption | omega) | (refine nt ?_; first | assumption | omega) | (simp [*]; done))) | (refine cond_f rfl ?_ ?_; (· first | rfl | assumption | (refine decide_eq_false ?_; first | assumption | omega) | (refine nf ?_; first | assumption | omega) | (simp [*]; done))) | refine skip_then ?_ | refine AW_seq ?_ | refine AW_ret ?_ | refine ret_done ?_ | refine norm_then ?_ | refine ret_then ?_ | refine exit_then ?_ | refine AW_block ?_ | refine norm_block ?_ | refine ret_block ?_ | refine ret_round ?_ | refine exit_round ?_ | refine AW_exit ?_ | refine exit_block ?_ | (refine exit_other ?_ ?_; (· decide)) | refine AW_skip ?_)
      refine next_round (j + 1) (by omega) ?_ ?_
      · rw [es]
        refine weak_keep (fun r => if r = 16 then 23 else r) ?_ ?_ rfl rfl rfl (.inl (by omega)) ?_ rfl rfl ?_ ?_
        · (repeat' (first | exact trivial | refine And.intro ?_ ?_)) <;> (first | rfl | skip)
          all_goals simp (disch := decide) [tm_put_ne', tm_put_none, tm_mem, tm_kill, tm_stM, tm_eh2, Am.look, kill_fn F.nokill, ren_fn F.norefs]
        · (repeat' (first | exact trivial | refine And.intro ?_ ?_)) <;> (first | rfl | skip)
        · simp [refsT, refsV, refsL, F.norefs, Am.look]
        · refine .inl ⟨rfl, ?_⟩
          simp [rowsC_kill]
        · (intro j hj; simp (disch := first | omega | assumption) only [hp_put, hp_mem_ne, hp_kill_ne]; first | exact stM_row rfl hj | (rw [stM_row rfl hj]; rfl))
      · omega
  · obtain rfl : j = A.length := by omega
    rw [List.take_length]
    rw [List.take_length] at hle hrl
    repeat (first | (refine step_ops ?_; (first | (refine m_mov (by conv => lhs; whnf) ?_) | (refine m_nils ?_) | (refine m_ext rfl rfl ?_) | (refine m_bsl1 rfl rfl ?_) | (refine m_app1i rfl (by decide) (by rfl) (by first | rfl | omega | (simp; done)) rfl rfl ?_ (by decide) ?_; (· first | omega | (simp; omega))) | (refine m_app1 rfl (by decide) rfl (by first | (simp; done) | (simp [*]; done) | (simp; omega)) rfl rfl rfl ?_ (by decide) ?_; (· first | omega | (simp; omega))) | (refine m_appro rfl (by decide) rfl (by first | rfl | (simp; done) | (simp [*]; done) | (simp; omega)) rfl (oks_ints _) ?_ (by decide) ?_; (· first | omega | (simp; omega))))) | refine end_ops ?_ | refine seq_ops ?_ | refine AW_ops ?_ | (refine cond_t rfl ?_ ?_; (· first | rfl | assumption | (refine decide_eq_true ?_; first | assumption | omega) | (refine nt ?_; first | assumption | omega) | (simp [*]; done))) | (refine cond_f rfl ?_ ?_; (· first | rfl | assumption | (refine decide_eq_false ?_; first | assumption | omega) | (refine nf ?_; first | assumption | omega) | (simp [*]; done))) | refine skip_then ?_ | refine AW_seq ?_ | refine AW_ret ?_ | refine ret_done ?_ | refine norm_then ?_ | refine ret_then ?_ | refine exit_then ?_ | refine AW_block ?_ | refine norm_block ?_ | refine ret_block ?_ | refine ret_round ?_ | refine exit_round ?_ | refine AW_exit ?_ | refine exit_block ?_ | (refine exit_other ?_ ?_; (· decide)) | refine AW_skip ?_)
    refine ret_mat (r0 := 7) (b := 1000) (by omega) (by omega) (by omega) rfl rfl ?_
    (intro j hj; simp (disch := first | omega | assumption) only [hp_put, hp_mem_ne, hp_kill_ne]; first | exact stM_row rfl hj | (rw [stM_row rfl hj]; rfl))
end Go.Proofs.Ytpefdmmnimmpiaa
