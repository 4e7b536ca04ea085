/- Contracts: the first exchange that a board allows, and the first one behind another, as the specification looks for them. -/
import Derived.Test.YtdejhocekhbanaaDoorSpHa
import Derived.Test.YtdejhocekhbanaaDoorSpFt
namespace Go.Am
/-- A member of what goes on is found. -/
theorem goOn_len {fits : List Int → Nat → Bool} {n k : Nat} {l m : List Int} (h : m ∈ goOn fits n k l) : m.length = l.length + k := by
  obtain ⟨r, rfl, hr⟩ := goOn_shape fits n _ _ _ h
  rw [List.length_append, hr]
/-- The first that goes on from l, behind a list if that is not empty. -/
def fstB (fits : List Int → Nat → Bool) (n k : Nat) (l bh : List Int) : Option (List Int) := if bh = [] then (goOn fits n k l).head? else (goOn fits n k l).find? (fun m => comesB bh m)
theorem fstB_len {fits : List Int → Nat → Bool} {n k : Nat} {l bh m : List Int} (h : fstB fits n k l bh = some m) : m.length = l.length + k := by
  unfold fstB at h
  split at h
  · exact goOn_len (List.mem_of_mem_head? (by rw [h]; rfl))
  · exact goOn_len (List.mem_of_find?_eq_some h)
/-- Where the search stands that is to try j next. -/
def atB (fits : List Int → Nat → Bool) (n : Nat) (l bh : List Int) (T : Option (List Int)) (j : Nat) : Prop := (bh ≠ [] ∧ bh.getD l.length 0 = (j : Nat)) ∨ T = (goFrom fits n l j).head?
variable {fits : List Int → Nat → Bool} {n k : Nat} {l bh : List Int}
theorem goFrom_next {j : Nat} (hj : j < n) (hk : n - l.length - 1 = k) : (goFrom fits n l j).head? = (if fits l j then (goOn fits n k (l ++ [(j : Int)])).head? else none).or (goFrom fits n l (j + 1)).head? := by
  rw [goFrom_step fits n hj, List.head?_append, hk]
  split <;> rfl
/-- A beginning of a list, gone on. -/
theorem take_more (h : bh.take l.length = l) (hl : l.length < bh.length) {j : Nat} (hj : bh.getD l.length 0 = (j : Nat)) : bh.take (l ++ [(j : Int)]).length = l ++ [(j : Int)] := by
  rw [List.length_append, List.length_singleton, take_snoc bh l.length 0 hl, h, hj]
theorem take_cons (h : bh.take l.length = l) (hl : l.length < bh.length) {j : Nat} (hj : bh.getD l.length 0 = (j : Nat)) : l ++ (j : Int) :: bh.drop (l.length + 1) = bh := by
  have h1 := List.take_append_drop (l.length + 1) bh
  rw [take_snoc bh l.length 0 hl, h, hj, List.append_assoc] at h1
  exact h1
/-- The one that the list itself goes on with. -/
theorem fstB_own (h : bh.take l.length = l) (hb : bh.length = n) (hl : l.length < n) (hk : n - l.length = k + 1) {j : Nat} (hj : bh.getD l.length 0 = (j : Nat)) (hjn : j < n) :
    fstB fits n (k + 1) l bh = (if fits l j then (goOn fits n k (l ++ [(j : Int)])).find? (fun m => comesB bh m) else none).or (goFrom fits n l (j + 1)).head? := by
  have hne : bh ≠ [] := by rintro rfl; simp at hb; omega
  have h1 := find_next fits n (k := k) (g := j) (l := l) (t := bh.drop (l.length + 1)) hjn hk
  rw [take_cons h (by omega) hj] at h1
  unfold fstB
  rw [if_neg hne]
  exact h1
theorem fstB_self (h : bh.take l.length = l) (hb : bh.length = n) (hl : l.length + 1 = n) {j : Nat} (hj : bh.getD l.length 0 = (j : Nat)) : (goOn fits n 0 (l ++ [(j : Int)])).find? (fun m => comesB bh m) = none := by
  have h1 := take_cons h (by omega) hj
  rw [List.drop_of_length_le (by omega)] at h1
  rw [goOn, h1]
  simp [comesB_self]
/-- No way with j: on to the next. -/
theorem atB_skip (h : bh = [] ∨ (bh.take l.length = l ∧ bh.length = n)) (hl : l.length < n) (hk : n - l.length = k + 1) {j : Nat} (hjn : j < n) (ha : atB fits n l bh (fstB fits n (k + 1) l bh) j)
    (hf : fits l j = false ∨ (bh ≠ [] ∧ bh.getD l.length 0 = (j : Nat) ∧ (goOn fits n k (l ++ [(j : Int)])).find? (fun m => comesB bh m) = none) ∨ (goOn fits n k (l ++ [(j : Int)])).head? = none ) : atB fits n l bh (fstB fits n (k + 1) l bh) (j + 1) := by
  right
  by_cases hown : bh ≠ [] ∧ bh.getD l.length 0 = (j : Nat)
  · rcases h with h | ⟨h1, h2⟩
    · exact absurd h hown.1
    rw [fstB_own h1 h2 hl hk hown.2 hjn]
    rcases hf with hf | hf | hf
    · rw [hf]; rfl
    · rw [hf.2.2]; split <;> rfl
    · have : (goOn fits n k (l ++ [(j : Int)])) = [] := List.head?_eq_none_iff.1 hf
      rw [this]; split <;> rfl
  · rcases ha with ha | ha
    · exact absurd ha hown
    rw [ha, goFrom_next hjn (by omega : n - l.length - 1 = k)]
    rcases hf with hf | hf | hf
    · rw [hf]; rfl
    · exact absurd ⟨hf.1, hf.2.1⟩ hown
    · rw [hf]; split <;> rfl
/-- What is found with j is what is asked for. -/
theorem atB_found (h : bh = [] ∨ (bh.take l.length = l ∧ bh.length = n)) (hl : l.length < n) (hk : n - l.length = k + 1) {j : Nat} (hjn : j < n) (ha : atB fits n l bh (fstB fits n (k + 1) l bh) j) (hf : fits l j = true) {m : List Int}
    (hm : if bh ≠ [] ∧ bh.getD l.length 0 = (j : Nat) then (goOn fits n k (l ++ [(j : Int)])).find? (fun m => comesB bh m) = some m else (goOn fits n k (l ++ [(j : Int)])).head? = some m) : fstB fits n (k + 1) l bh = some m := by
  by_cases hown : bh ≠ [] ∧ bh.getD l.length 0 = (j : Nat)
  · rw [if_pos hown] at hm
    rcases h with h | ⟨h1, h2⟩
    · exact absurd h hown.1
    rw [fstB_own h1 h2 hl hk hown.2 hjn, if_pos hf, hm]
    rfl
  · rw [if_neg hown] at hm
    rcases ha with ha | ha
    · exact absurd ha hown
    rw [ha, goFrom_next hjn (by omega : n - l.length - 1 = k), if_pos hf, hm]
    rfl
end Go.Am
namespace Go.Proofs.YtdejhocekhbanaaDoor
open Go.Am
attribute [local irreducible] AW Outs Weak Lends Lend Sp aops atree aop1 Then Round InBlock Done

/-- May the guest behind those of l take coat x? -/
def fitsA (B : List UInt8) (l : List Int) (x : Nat) : Bool := !fbB B l.length x && !decide ((x : Int) ∈ l)
/-- The first exchange that a board allows, and the first one behind another, if there is one. -/
def frstA (B : List UInt8) : Option (List Int) := if GoodBd B then (goOn (fitsA B) (sdB B) (sdB B) []).head? else none
def nextA (B : List UInt8) (L : List Int) : Option (List Int) := if Asked B L then (goOn (fitsA B) (sdB B) (sdB B) []).find? (fun m => comesB L m) else none
theorem frstA_len {B : List UInt8} {m : List Int} (h : frstA B = some m) : 1 ≤ m.length ∧ m.length ≤ 8 := by
  unfold frstA at h
  split at h
  · rename_i hg
    have hsd := good_sd hg
    have := goOn_len (List.mem_of_mem_head? (by rw [h]; rfl))
    simp at this
    omega
  · cases h
theorem nextA_len {B : List UInt8} {L m : List Int} (h : nextA B L = some m) : 1 ≤ m.length ∧ m.length ≤ 8 := by
  unfold nextA at h
  split at h
  · rename_i hg
    have hsd := good_sd hg.1
    have := goOn_len (List.mem_of_find?_eq_some h)
    simp at this
    omega
  · cases h
theorem frstA_le (B : List UInt8) : ((frstA B).getD []).length ≤ 8 := by
  cases h : frstA B with
  | none => simp
  | some m => exact (frstA_len h).2
theorem nextA_le (B : List UInt8) (L : List Int) : ((nextA B L).getD []).length ≤ 8 := by
  cases h : nextA B L with
  | none => simp
  | some m => exact (nextA_len h).2

/-- bdFirst, with so many guests more. -/
theorem bdFirst_zero (B : List UInt8) (h : GoodBd B) (hB : B.length ≤ 1048576) : ∀ l bh : List Int, l.length + 0 = sdB B → (bh = [] ∨ (bh.take l.length = l ∧ bh.length = sdB B ∧ l.length < sdB B)) → (∀ x ∈ bh, 0 ≤ x ∧ x < sdB B) →
    Sp Tryd.prog 20 [str B, ints l, ints bh] (newInts ((fstB (fitsA B) (sdB B) 0 l bh).getD [])) := by
  have hsd := good_sd h
  intro l bh hl hbh hb
  have e : bh = [] := by rcases hbh with h1 | h1; exact h1; omega
  subst e
  have hT : fstB (fitsA B) (sdB B) 0 l [] = some l := rfl
  rw [hT]
  refine spec_of Tryd.func20 rfl cc20 rfl ?_
  unfold ac20
  repeat (first | (refine step_ops ?_; (first | (refine m_mov (by conv => lhs; whnf) ?_) | (refine m_len_ro rfl ?_) | (refine m_nils ?_))) | refine end_ops ?_ | refine seq_ops ?_ | refine AW_seq ?_)
  (refine step_ops ?_); (apply m_call (bdSide_spec B hB)); (· repeat (first | exact lends_nil | (refine lends_cons ?_ ?_; (· exact lend_v))))
  repeat (first | (refine step_ops ?_; (first | (refine m_mov (by conv => lhs; whnf) ?_) | (refine m_eql rfl rfl ?_))) | refine end_ops ?_ | refine seq_ops ?_ | (refine cond_t rfl ?_ ?_; (· first | rfl | assumption | (refine decide_eq_true ?_; first | assumption | omega) | (refine nt ?_; first | assumption | omega) | (simp [*]; done))))
  (refine step_ops ?_); (apply m_call (l1Own_spec l (by omega))); (· repeat (first | exact lends_nil | (refine lends_cons ?_ ?_; (· (refine lend_ints ?_; first | rfl | omega)))))
  repeat (first | (refine step_ops ?_; (refine m_mov (by conv => lhs; whnf) ?_)) | refine end_ops ?_ | refine AW_ret ?_ | refine ret_done ?_ | refine ret_then ?_)
  exact outs_ro (allv_ints _)

theorem bdFirst_none (B : List UInt8) (h : GoodBd B) (hB : B.length ≤ 1048576) (k : Nat) (ih : ∀ l bh : List Int, l.length + k = sdB B → (bh = [] ∨ (bh.take l.length = l ∧ bh.length = sdB B ∧ l.length < sdB B)) → (∀ x ∈ bh, 0 ≤ x ∧ x < sdB B) →
    Sp Tryd.prog 20 [str B, ints l, ints bh] (newInts ((fstB (fitsA B) (sdB B) k l bh).getD []))) :
    ∀ l bh : List Int, l.length + (k + 1) = sdB B → bh = [] → (∀ x ∈ bh, 0 ≤ x ∧ x < sdB B) →
    Sp Tryd.prog 20 [str B, ints l, ints bh] (newInts ((fstB (fitsA B) (sdB B) (k + 1) l bh).getD [])) := by
  have hsd := good_sd h
  intro l bh hl he hb
  have hbh : bh = [] ∨ (bh.take l.length = l ∧ bh.length = sdB B ∧ l.length < sdB B) := .inl he
  have hlt : l.length < sdB B := by omega
  have hk : sdB B - l.length = k + 1 := by omega
  have hbs : bh = [] ∨ (bh.take l.length = l ∧ bh.length = sdB B) := by
    rcases hbh with h1 | h1
    · exact .inl h1
    · exact .inr ⟨h1.1, h1.2.1⟩
  have hskip := fun j hj => atB_skip (fits := fitsA B) (n := sdB B) (k := k) (l := l) (bh := bh) (j := j) hbs hlt hk hj
  have hfound := fun j hj => atB_found (fits := fitsA B) (n := sdB B) (k := k) (l := l) (bh := bh) (j := j) hbs hlt hk hj
  obtain ⟨f0, hz, hf0, hat⟩ : ∃ f0 : Nat, f0 = 0 ∧ f0 ≤ sdB B ∧ atB (fitsA B) (sdB B) l bh (fstB (fitsA B) (sdB B) (k + 1) l bh) f0 := by
    subst he
    refine ⟨0, rfl, Nat.zero_le _, .inr ?_⟩
    show (goOn (fitsA B) (sdB B) (k + 1) l).head? = _
    rw [← hk, goOn_from _ _ hlt]
  generalize fstB (fitsA B) (sdB B) (k + 1) l bh = T at *
  refine spec_of Tryd.func20 rfl cc20 rfl ?_
  unfold ac20
  have hbl : bh.length = 0 := by rw [he]; rfl
  repeat (first | (refine step_ops ?_; (first | (refine m_mov (by conv => lhs; whnf) ?_) | (refine m_len_ro rfl ?_) | (refine m_nils ?_))) | refine end_ops ?_ | refine seq_ops ?_ | refine AW_seq ?_)
  (refine step_ops ?_); (apply m_call (bdSide_spec B hB)); (· repeat (first | exact lends_nil | (refine lends_cons ?_ ?_; (· exact lend_v))))
  repeat (first | (refine step_ops ?_; (first | (refine m_mov (by conv => lhs; whnf) ?_) | (refine m_gtr rfl rfl ?_) | (refine m_eql rfl rfl ?_) | (refine m_len_ro rfl ?_))) | refine end_ops ?_ | refine seq_ops ?_ | (refine cond_f rfl ?_ ?_; (· first | rfl | assumption | (refine decide_eq_false ?_; first | assumption | omega) | (refine nf ?_; first | assumption | omega) | (simp [*]; done))) | refine skip_then ?_ | refine AW_seq ?_ | refine AW_block ?_)
  refine AW_weak (weak_st (l := [(0, str B), (1, ints l), (2, ints bh), (7, .i l.length), (9, .i (f0 : Nat))]) (h := []) ?_ ?_ rfl rfl) ?_
  · rw [hz]
    (repeat' (first | exact trivial | refine And.intro ?_ ?_)) <;> (first | rfl | skip)
  · trivial
  refine AW_loop (α := Nat) (fun j => j ≤ sdB B ∧ atB (fitsA B) (sdB B) l bh T j ∧ f0 ≤ j) (fun j => st [(0, str B), (1, ints l), (2, ints bh), (7, .i l.length), (9, .i j)] []) (fun j => sdB B - j) f0 ⟨hf0, hat, Nat.le_refl _⟩ (weak_st ?_ ?_ rfl rfl) ?_
  · (repeat' (first | exact trivial | refine And.intro ?_ ?_)) <;> (first | rfl | skip)
  · trivial
  rintro j ⟨hj, ha, hfj⟩
  by_cases hc : j < sdB B
  · repeat (first | (refine step_ops ?_; (refine m_mov (by conv => lhs; whnf) ?_)) | refine seq_ops ?_ | refine AW_seq ?_)
    (refine step_ops ?_); (apply m_call (bdSide_spec B hB)); (· repeat (first | exact lends_nil | (refine lends_cons ?_ ?_; (· exact lend_v))))
    repeat (first | (refine step_ops ?_; (first | (refine m_mov (by conv => lhs; whnf) ?_) | (refine m_lss rfl rfl ?_))) | refine end_ops ?_ | refine seq_ops ?_ | (refine cond_t rfl ?_ ?_; (· first | rfl | assumption | (refine decide_eq_true ?_; first | assumption | omega) | (refine nt ?_; first | assumption | omega) | (simp [*]; done))) | refine skip_then ?_ | refine AW_seq ?_ | refine AW_block ?_)
    (refine step_ops ?_); (apply m_call (bdAt_spec B h l.length j hlt hc)); (· repeat (first | exact lends_nil | (refine lends_cons ?_ ?_; (· exact lend_v))))
    by_cases hf1 : fbB B l.length j = true
    · have hfit : fitsA B l j = false := by simp [fitsA, hf1]
      repeat (first | (refine step_ops ?_; (first | (first | (refine m_mov (by conv => lhs; whnf) ?_) | (refine m_add rfl rfl ?_ ?_ ?_; (· omega); (· omega)) | (refine m_pick_t rfl ?_ (by conv => lhs; whnf) ?_; (· first | rfl | assumption | (refine decide_eq_true ?_; first | assumption | omega) | (refine nt ?_; first | assumption | omega) | (simp [*]; done)))) | (refine g_noF rfl ?_ ?_; (· first | rfl | assumption | (refine decide_eq_true ?_; first | assumption | omega) | (refine nt ?_; first | assumption | omega) | (simp [*]; done))))) | refine end_ops ?_ | refine AW_ops ?_ | (refine cond_t rfl ?_ ?_; (· first | rfl | assumption | (refine decide_eq_true ?_; first | assumption | omega) | (refine nt ?_; first | assumption | omega) | (simp [*]; done))) | refine norm_then ?_ | refine exit_then ?_ | refine AW_exit ?_ | refine exit_block ?_)
      refine next_round (j + 1) ⟨hc, hskip j hc ha (.inl hfit), by omega⟩ (weak_st ?_ ?_ rfl rfl) ?_
      · (repeat' (first | exact trivial | refine And.intro ?_ ?_)) <;> (first | rfl | skip)
      · trivial
      · omega
    have hf1 : fbB B l.length j = false := by simpa using hf1
    repeat (refine step_ops ?_; ((try (refine g_yes rfl ?_ ?_; (· first | rfl | assumption | (refine decide_eq_true ?_; first | assumption | omega) | (refine nt ?_; first | assumption | omega) | (simp [*]; done) | (refine decide_eq_false ?_; first | assumption | omega) | (refine nf ?_; first | assumption | omega)))); (refine m_mov (by conv => lhs; whnf) ?_)))
    (refine step_ops ?_); (refine g_yes rfl ?_ ?_; (· first | (first | rfl | assumption | (refine decide_eq_true ?_; first | assumption | omega) | (refine nt ?_; first | assumption | omega) | (simp [*]; done)) | (first | rfl | assumption | (refine decide_eq_false ?_; first | assumption | omega) | (refine nf ?_; first | assumption | omega) | (simp [*]; done))); (apply m_call (l1Has_spec l j (by omega)))); (· repeat (first | exact lends_nil | (refine lends_cons ?_ ?_; (· (first | exact lend_v | (refine lend_ints ?_; first | rfl | omega))))))
    by_cases hf2 : (j : Int) ∈ l
    · have hfit : fitsA B l j = false := by simp [fitsA, hf2]
      repeat (first | (refine step_ops ?_; (first | (refine m_mov (by conv => lhs; whnf) ?_) | (refine m_add rfl rfl ?_ ?_ ?_; (· omega); (· omega)) | (refine m_pick_f rfl ?_ (by conv => lhs; whnf) ?_; (· first | rfl | assumption | (refine decide_eq_false ?_; first | assumption | omega) | (refine nf ?_; first | assumption | omega) | (simp [*]; done))))) | refine end_ops ?_ | refine AW_ops ?_ | (refine cond_t rfl ?_ ?_; (· first | rfl | assumption | (refine decide_eq_true ?_; first | assumption | omega) | (refine nt ?_; first | assumption | omega) | (simp [*]; done))) | refine norm_then ?_ | refine exit_then ?_ | refine AW_exit ?_ | refine exit_block ?_)
      refine next_round (j + 1) ⟨hc, hskip j hc ha (.inl hfit), by omega⟩ (weak_st ?_ ?_ rfl rfl) ?_
      · (repeat' (first | exact trivial | refine And.intro ?_ ?_)) <;> (first | rfl | skip)
      · trivial
      · omega
    have hfit : fitsA B l j = true := by simp [fitsA, hf1, hf2]
    have hs := ih (l ++ [(j : Int)]) bh (by simp; omega) (.inl he) hb
    have hv : fstB (fitsA B) (sdB B) k (l ++ [(j : Int)]) bh = (goOn (fitsA B) (sdB B) k (l ++ [(j : Int)])).head? := if_pos he
    have hlen : ∀ m, fstB (fitsA B) (sdB B) k (l ++ [(j : Int)]) bh = some m → m.length = sdB B := fun m hm => by rw [fstB_len hm]; simp; omega
    have hyes : ∀ m, fstB (fitsA B) (sdB B) k (l ++ [(j : Int)]) bh = some m → T = some m := fun m hm => hfound j hc ha hfit (by rw [if_neg (fun hh => hh.1 he), ← hv]; exact hm)
    have hnone : fstB (fitsA B) (sdB B) k (l ++ [(j : Int)]) bh = none → atB (fitsA B) (sdB B) l bh T (j + 1) := fun hm => hskip j hc ha (.inr (.inr (by rw [← hv]; exact hm)))
    clear hv
    generalize fstB (fitsA B) (sdB B) k (l ++ [(j : Int)]) bh = o at *
    repeat (first | (refine step_ops ?_; (first | (first | (refine m_mov (by conv => lhs; whnf) ?_) | (refine m_gtr rfl rfl ?_) | (refine m_len_ro rfl ?_) | (refine m_pick_f rfl ?_ (by conv => lhs; whnf) ?_; (· first | rfl | assumption | (refine decide_eq_false ?_; first | assumption | omega) | (refine nf ?_; first | assumption | omega) | (simp [*]; done)))) | (refine g_noT rfl ?_ ?_; (· first | rfl | assumption | (refine decide_eq_false ?_; first | assumption | omega) | (refine nf ?_; first | assumption | omega) | (simp [*]; done))))) | refine end_ops ?_ | refine seq_ops ?_ | (refine cond_f rfl ?_ ?_; (· first | rfl | assumption | (refine decide_eq_false ?_; first | assumption | omega) | (refine nf ?_; first | assumption | omega) | (simp [*]; done))) | refine skip_then ?_ | refine AW_seq ?_)
    (refine step_ops ?_); (apply m_callo (l1Own_spec l (by omega))); (· repeat (first | exact lends_nil | (refine lends_cons ?_ ?_; (· (refine lend_ints ?_; first | rfl | omega))))); (· first | exact allv_ints _ | rfl | (simp; done))
    repeat (refine step_ops ?_; (first | (refine m_mov (by conv => lhs; whnf) ?_) | (refine m_bsl1 rfl rfl ?_) | (refine m_app1i rfl (by decide) (by rfl) (by first | rfl | omega | (simp; done)) rfl rfl ?_ (by decide) ?_; (· first | omega | (simp; omega)))))
    (refine step_ops ?_); (apply m_call (hs)); (· repeat (first | exact lends_nil | (refine lends_cons ?_ ?_; (· (first | exact lend_v | (refine lend_ints ?_; first | rfl | omega) | (refine lend_sli (by rfl) ?_; first | rfl | omega | (simp; done)))))))
    repeat (first | (refine step_ops ?_; (first | (refine m_mov (by conv => lhs; whnf) ?_) | (refine m_gtr rfl rfl ?_) | (refine m_len_ro rfl ?_))) | refine end_ops ?_ | refine seq_ops ?_)
    by_cases hR : 1 ≤ (o.getD []).length
    · obtain ⟨m, rfl⟩ : ∃ m, o = some m := by
        cases o with
        | none => simp at hR
        | some m => exact ⟨m, rfl⟩
      rw [hyes m rfl]
      have hR' : 1 ≤ m.length := hR
      repeat (first | (refine step_ops ?_; (refine m_mov (by conv => lhs; whnf) ?_)) | refine end_ops ?_ | refine seq_ops ?_ | (refine cond_t rfl ?_ ?_; (· first | rfl | assumption | (refine decide_eq_true ?_; first | assumption | omega) | (refine nt ?_; first | assumption | omega) | (simp [*]; done))) | refine AW_ret ?_ | refine ret_done ?_ | refine ret_then ?_ | refine ret_block ?_ | refine ret_round ?_)
      exact outs_ro (allv_ints _)
    · have hno : o = none := by
        cases o with
        | none => rfl
        | some m => exact absurd (show 1 ≤ m.length by rw [hlen m rfl]; omega) hR
      have hR' : (o.getD []).length = 0 := by rw [hno]; rfl
      repeat (first | (refine step_ops ?_; (first | (refine m_mov (by conv => lhs; whnf) ?_) | (refine m_add rfl rfl ?_ ?_ ?_; (· omega); (· omega)))) | refine end_ops ?_ | refine AW_ops ?_ | (refine cond_f rfl ?_ ?_; (· first | rfl | assumption | (refine decide_eq_false ?_; first | assumption | omega) | (refine nf ?_; first | assumption | omega) | (simp [*]; done))) | refine norm_then ?_ | refine norm_block ?_ | refine AW_skip ?_)
      refine next_round (j + 1) ⟨hc, hnone hno, by omega⟩ (weak_st ?_ ?_ rfl rfl) ?_
      · (repeat' (first | exact trivial | refine And.intro ?_ ?_)) <;> (first | rfl | skip)
      · trivial
      · omega
  · obtain rfl : j = sdB B := by omega
    have hT : T = none := by
      rcases ha with ha | ha
      · exact absurd he ha.1
      · rw [ha, goFrom_end _ _ (Nat.le_refl _)]
        rfl
    rw [hT]
    repeat (first | (refine step_ops ?_; (refine m_mov (by conv => lhs; whnf) ?_)) | refine seq_ops ?_ | refine AW_seq ?_)
    (refine step_ops ?_); (apply m_call (bdSide_spec B hB)); (· repeat (first | exact lends_nil | (refine lends_cons ?_ ?_; (· exact lend_v))))
    repeat (first | (refine step_ops ?_; (first | (refine m_lss rfl rfl ?_) | (refine m_nils ?_))) | refine end_ops ?_ | refine seq_ops ?_ | (refine cond_f rfl ?_ ?_; (· first | rfl | assumption | (refine decide_eq_false ?_; first | assumption | omega) | (refine nf ?_; first | assumption | omega) | (simp [*]; done))) | refine AW_ret ?_ | refine ret_done ?_ | refine norm_then ?_ | refine exit_then ?_ | refine exit_round ?_ | refine AW_exit ?_ | refine exit_block ?_)
    exact outs_ints rfl rfl rfl

theorem bdFirst_some (B : List UInt8) (h : GoodBd B) (hB : B.length ≤ 1048576) (k : Nat) (ih : ∀ l bh : List Int, l.length + k = sdB B → (bh = [] ∨ (bh.take l.length = l ∧ bh.length = sdB B ∧ l.length < sdB B)) → (∀ x ∈ bh, 0 ≤ x ∧ x < sdB B) →
    Sp Tryd.prog 20 [str B, ints l, ints bh] (newInts ((fstB (fitsA B) (sdB B) k l bh).getD []))) :
    ∀ l bh : List Int, l.length + (k + 1) = sdB B → bh ≠ [] → (bh.take l.length = l ∧ bh.length = sdB B ∧ l.length < sdB B) → (∀ x ∈ bh, 0 ≤ x ∧ x < sdB B) →
    Sp Tryd.prog 20 [str B, ints l, ints bh] (newInts ((fstB (fitsA B) (sdB B) (k + 1) l bh).getD [])) := by
  have hsd := good_sd h
  intro l bh hl hne hbh' hb
  have hbh : bh = [] ∨ (bh.take l.length = l ∧ bh.length = sdB B ∧ l.length < sdB B) := .inr hbh'
  have hlt : l.length < sdB B := by omega
  have hk : sdB B - l.length = k + 1 := by omega
  have hbs : bh = [] ∨ (bh.take l.length = l ∧ bh.length = sdB B) := by
    rcases hbh with h1 | h1
    · exact .inl h1
    · exact .inr ⟨h1.1, h1.2.1⟩
  have hskip := fun j hj => atB_skip (fits := fitsA B) (n := sdB B) (k := k) (l := l) (bh := bh) (j := j) hbs hlt hk hj
  have hfound := fun j hj => atB_found (fits := fitsA B) (n := sdB B) (k := k) (l := l) (bh := bh) (j := j) hbs hlt hk hj
  have htk : bh.take l.length = l := hbh'.1
  have hbl : bh.length = sdB B := hbh'.2.1
  obtain ⟨f0, hf0, hg⟩ : ∃ f0 : Nat, f0 < sdB B ∧ bh.getD l.length 0 = (f0 : Nat) := by
    have hr := hb _ (getD_mem (show l.length < bh.length by omega))
    obtain ⟨q, hq⟩ := Int.eq_ofNat_of_zero_le hr.1
    exact ⟨q, by omega, hq⟩
  have hat : atB (fitsA B) (sdB B) l bh (fstB (fitsA B) (sdB B) (k + 1) l bh) f0 := .inl ⟨hne, hg⟩
  generalize fstB (fitsA B) (sdB B) (k + 1) l bh = T at *
  refine spec_of Tryd.func20 rfl cc20 rfl ?_
  unfold ac20
  repeat (first | (refine step_ops ?_; (first | (refine m_mov (by conv => lhs; whnf) ?_) | (refine m_len_ro rfl ?_) | (refine m_nils ?_))) | refine end_ops ?_ | refine seq_ops ?_ | refine AW_seq ?_)
  (refine step_ops ?_); (apply m_call (bdSide_spec B hB)); (· repeat (first | exact lends_nil | (refine lends_cons ?_ ?_; (· exact lend_v))))
  repeat (first | (refine step_ops ?_; (first | (refine m_mov (by conv => lhs; whnf) ?_) | (refine m_gtr rfl rfl ?_) | (refine m_eql rfl rfl ?_) | (refine m_len_ro rfl ?_) | (refine m_idx1_ro rfl rfl ?_ ?_; (· omega)) | (refine m_ld_rpi rfl ?_ ?_; (· omega)))) | refine end_ops ?_ | refine seq_ops ?_ | refine AW_ops ?_ | (refine cond_t rfl ?_ ?_; (· first | rfl | assumption | (refine decide_eq_true ?_; first | assumption | omega) | (refine nt ?_; first | assumption | omega) | (simp [*]; done))) | (refine cond_f rfl ?_ ?_; (· first | rfl | assumption | (refine decide_eq_false ?_; first | assumption | omega) | (refine nf ?_; first | assumption | omega) | (simp [*]; done))) | refine skip_then ?_ | refine AW_seq ?_ | refine norm_then ?_ | refine AW_block ?_)
  refine AW_weak (weak_st (l := [(0, str B), (1, ints l), (2, ints bh), (7, .i l.length), (9, .i (f0 : Nat))]) (h := []) ?_ ?_ rfl rfl) ?_
  · rw [← hg]
    (repeat' (first | exact trivial | refine And.intro ?_ ?_)) <;> (first | rfl | skip)
  · trivial
  refine AW_loop (α := Nat) (fun j => j ≤ sdB B ∧ atB (fitsA B) (sdB B) l bh T j ∧ f0 ≤ j) (fun j => st [(0, str B), (1, ints l), (2, ints bh), (7, .i l.length), (9, .i j)] []) (fun j => sdB B - j) f0 ⟨Nat.le_of_lt hf0, hat, Nat.le_refl _⟩ (weak_st ?_ ?_ rfl rfl) ?_
  · (repeat' (first | exact trivial | refine And.intro ?_ ?_)) <;> (first | rfl | skip)
  · trivial
  rintro j ⟨hj, ha, hfj⟩
  by_cases hc : j < sdB B
  · repeat (first | (refine step_ops ?_; (refine m_mov (by conv => lhs; whnf) ?_)) | refine seq_ops ?_ | refine AW_seq ?_)
    (refine step_ops ?_); (apply m_call (bdSide_spec B hB)); (· repeat (first | exact lends_nil | (refine lends_cons ?_ ?_; (· exact lend_v))))
    repeat (first | (refine step_ops ?_; (first | (refine m_mov (by conv => lhs; whnf) ?_) | (refine m_lss rfl rfl ?_))) | refine end_ops ?_ | refine seq_ops ?_ | (refine cond_t rfl ?_ ?_; (· first | rfl | assumption | (refine decide_eq_true ?_; first | assumption | omega) | (refine nt ?_; first | assumption | omega) | (simp [*]; done))) | refine skip_then ?_ | refine AW_seq ?_ | refine AW_block ?_)
    (refine step_ops ?_); (apply m_call (bdAt_spec B h l.length j hlt hc)); (· repeat (first | exact lends_nil | (refine lends_cons ?_ ?_; (· exact lend_v))))
    by_cases hf1 : fbB B l.length j = true
    · have hfit : fitsA B l j = false := by simp [fitsA, hf1]
      repeat (first | (refine step_ops ?_; (first | (first | (refine m_mov (by conv => lhs; whnf) ?_) | (refine m_add rfl rfl ?_ ?_ ?_; (· omega); (· omega)) | (refine m_pick_t rfl ?_ (by conv => lhs; whnf) ?_; (· first | rfl | assumption | (refine decide_eq_true ?_; first | assumption | omega) | (refine nt ?_; first | assumption | omega) | (simp [*]; done)))) | (refine g_noF rfl ?_ ?_; (· first | rfl | assumption | (refine decide_eq_true ?_; first | assumption | omega) | (refine nt ?_; first | assumption | omega) | (simp [*]; done))))) | refine end_ops ?_ | refine AW_ops ?_ | (refine cond_t rfl ?_ ?_; (· first | rfl | assumption | (refine decide_eq_true ?_; first | assumption | omega) | (refine nt ?_; first | assumption | omega) | (simp [*]; done))) | refine norm_then ?_ | refine exit_then ?_ | refine AW_exit ?_ | refine exit_block ?_)
      refine next_round (j + 1) ⟨hc, hskip j hc ha (.inl hfit), by omega⟩ (weak_st ?_ ?_ rfl rfl) ?_
      · (repeat' (first | exact trivial | refine And.intro ?_ ?_)) <;> (first | rfl | skip)
      · trivial
      · omega
    have hf1 : fbB B l.length j = false := by simpa using hf1
    repeat (refine step_ops ?_; ((try (refine g_yes rfl ?_ ?_; (· first | rfl | assumption | (refine decide_eq_true ?_; first | assumption | omega) | (refine nt ?_; first | assumption | omega) | (simp [*]; done) | (refine decide_eq_false ?_; first | assumption | omega) | (refine nf ?_; first | assumption | omega)))); (refine m_mov (by conv => lhs; whnf) ?_)))
    (refine step_ops ?_); (refine g_yes rfl ?_ ?_; (· first | (first | rfl | assumption | (refine decide_eq_true ?_; first | assumption | omega) | (refine nt ?_; first | assumption | omega) | (simp [*]; done)) | (first | rfl | assumption | (refine decide_eq_false ?_; first | assumption | omega) | (refine nf ?_; first | assumption | omega) | (simp [*]; done))); (apply m_call (l1Has_spec l j (by omega)))); (· repeat (first | exact lends_nil | (refine lends_cons ?_ ?_; (· (first | exact lend_v | (refine lend_ints ?_; first | rfl | omega))))))
    by_cases hf2 : (j : Int) ∈ l
    · have hfit : fitsA B l j = false := by simp [fitsA, hf2]
      repeat (first | (refine step_ops ?_; (first | (refine m_mov (by conv => lhs; whnf) ?_) | (refine m_add rfl rfl ?_ ?_ ?_; (· omega); (· omega)) | (refine m_pick_f rfl ?_ (by conv => lhs; whnf) ?_; (· first | rfl | assumption | (refine decide_eq_false ?_; first | assumption | omega) | (refine nf ?_; first | assumption | omega) | (simp [*]; done))))) | refine end_ops ?_ | refine AW_ops ?_ | (refine cond_t rfl ?_ ?_; (· first | rfl | assumption | (refine decide_eq_true ?_; first | assumption | omega) | (refine nt ?_; first | assumption | omega) | (simp [*]; done))) | refine norm_then ?_ | refine exit_then ?_ | refine AW_exit ?_ | refine exit_block ?_)
      refine next_round (j + 1) ⟨hc, hskip j hc ha (.inl hfit), by omega⟩ (weak_st ?_ ?_ rfl rfl) ?_
      · (repeat' (first | exact trivial | refine And.intro ?_ ?_)) <;> (first | rfl | skip)
      · trivial
      · omega
    have hfit : fitsA B l j = true := by simp [fitsA, hf1, hf2]
    by_cases hjf : j = f0
    · have hgj : bh.getD l.length 0 = (j : Nat) := by rw [hjf]; exact hg
      by_cases hk0 : k = 0
      · have hlast : l.length + 1 = sdB B := by omega
        have hnx : atB (fitsA B) (sdB B) l bh T (j + 1) := hskip j hc ha (.inr (.inl ⟨hne, hgj, by rw [hk0]; exact fstB_self htk hbl hlast hgj⟩))
        repeat (first | (refine step_ops ?_; ((try (refine g_yes rfl ?_ ?_; (· first | rfl | assumption | (refine decide_eq_true ?_; first | assumption | omega) | (refine nt ?_; first | assumption | omega) | (simp [*]; done) | (refine decide_eq_false ?_; first | assumption | omega) | (refine nf ?_; first | assumption | omega)))); (first | (refine m_mov (by conv => lhs; whnf) ?_) | (refine m_gtr rfl rfl ?_) | (refine m_eql rfl rfl ?_) | (refine m_add rfl rfl ?_ ?_ ?_; (· omega); (· omega)) | (refine m_sub rfl rfl ?_ ?_ ?_; (· omega); (· omega)) | (refine m_len_ro rfl ?_) | (refine m_idx1_ro rfl rfl ?_ ?_; (· omega)) | (refine m_ld_rpi rfl ?_ ?_; (· omega)) | (refine m_pick_t rfl ?_ (by conv => lhs; whnf) ?_; (· first | rfl | assumption | (refine decide_eq_true ?_; first | assumption | omega) | (refine nt ?_; first | assumption | omega) | (simp [*]; done))) | (refine m_pick_f rfl ?_ (by conv => lhs; whnf) ?_; (· first | rfl | assumption | (refine decide_eq_false ?_; first | assumption | omega) | (refine nf ?_; first | assumption | omega) | (simp [*]; done)))))) | refine end_ops ?_ | refine seq_ops ?_ | refine AW_ops ?_ | (refine cond_t rfl ?_ ?_; (· first | rfl | assumption | (refine decide_eq_true ?_; first | assumption | omega) | (refine nt ?_; first | assumption | omega) | (simp [*]; done))) | (refine cond_f rfl ?_ ?_; (· first | rfl | assumption | (refine decide_eq_false ?_; first | assumption | omega) | (refine nf ?_; first | assumption | omega) | (simp [*]; done))) | refine skip_then ?_ | refine AW_seq ?_ | refine norm_then ?_ | refine exit_then ?_ | refine AW_exit ?_ | refine exit_block ?_)
        refine next_round (j + 1) ⟨hc, hnx, by omega⟩ (weak_st ?_ ?_ rfl rfl) ?_
        · (repeat' (first | exact trivial | refine And.intro ?_ ?_)) <;> (first | rfl | skip)
        · trivial
        · omega
      have hs := ih (l ++ [(j : Int)]) bh (by simp; omega) (.inr ⟨take_more htk (by omega) hgj, hbl, by simp; omega⟩) hb
      have hv : fstB (fitsA B) (sdB B) k (l ++ [(j : Int)]) bh = (goOn (fitsA B) (sdB B) k (l ++ [(j : Int)])).find? (fun m => comesB bh m) := if_neg hne
      have hlen : ∀ m, fstB (fitsA B) (sdB B) k (l ++ [(j : Int)]) bh = some m → m.length = sdB B := fun m hm => by rw [fstB_len hm]; simp; omega
      have hyes : ∀ m, fstB (fitsA B) (sdB B) k (l ++ [(j : Int)]) bh = some m → T = some m := fun m hm => hfound j hc ha hfit (by rw [if_pos ⟨hne, hgj⟩, ← hv]; exact hm)
      have hnone : fstB (fitsA B) (sdB B) k (l ++ [(j : Int)]) bh = none → atB (fitsA B) (sdB B) l bh T (j + 1) := fun hm => hskip j hc ha (.inr (.inl ⟨hne, hgj, by rw [← hv]; exact hm⟩))
      clear hv
      generalize fstB (fitsA B) (sdB B) k (l ++ [(j : Int)]) bh = o at *
      repeat (first | (refine step_ops ?_; ((try (refine g_yes rfl ?_ ?_; (· first | rfl | assumption | (refine decide_eq_true ?_; first | assumption | omega) | (refine nt ?_; first | assumption | omega) | (simp [*]; done) | (refine decide_eq_false ?_; first | assumption | omega) | (refine nf ?_; first | assumption | omega)))); (first | (refine m_mov (by conv => lhs; whnf) ?_) | (refine m_gtr rfl rfl ?_) | (refine m_eql rfl rfl ?_) | (refine m_sub rfl rfl ?_ ?_ ?_; (· omega); (· omega)) | (refine m_len_ro rfl ?_) | (refine m_idx1_ro rfl rfl ?_ ?_; (· omega)) | (refine m_ld_rpi rfl ?_ ?_; (· omega)) | (refine m_pick_t rfl ?_ (by conv => lhs; whnf) ?_; (· first | rfl | assumption | (refine decide_eq_true ?_; first | assumption | omega) | (refine nt ?_; first | assumption | omega) | (simp [*]; done))) | (refine m_pick_f rfl ?_ (by conv => lhs; whnf) ?_; (· first | rfl | assumption | (refine decide_eq_false ?_; first | assumption | omega) | (refine nf ?_; first | assumption | omega) | (simp [*]; done)))))) | refine end_ops ?_ | refine seq_ops ?_ | (refine cond_f rfl ?_ ?_; (· first | rfl | assumption | (refine decide_eq_false ?_; first | assumption | omega) | (refine nf ?_; first | assumption | omega) | (simp [*]; done))) | refine skip_then ?_ | refine AW_seq ?_)
      (refine step_ops ?_); (apply m_callo (l1Own_spec l (by omega))); (· repeat (first | exact lends_nil | (refine lends_cons ?_ ?_; (· (refine lend_ints ?_; first | rfl | omega))))); (· first | exact allv_ints _ | rfl | (simp; done))
      repeat (refine step_ops ?_; (first | (refine m_mov (by conv => lhs; whnf) ?_) | (refine m_bsl1 rfl rfl ?_) | (refine m_app1i rfl (by decide) (by rfl) (by first | rfl | omega | (simp; done)) rfl rfl ?_ (by decide) ?_; (· first | omega | (simp; omega)))))
      (refine step_ops ?_); (apply m_call (hs)); (· repeat (first | exact lends_nil | (refine lends_cons ?_ ?_; (· (first | exact lend_v | (refine lend_ints ?_; first | rfl | omega) | (refine lend_sli (by rfl) ?_; first | rfl | omega | (simp; done)))))))
      repeat (first | (refine step_ops ?_; (first | (refine m_mov (by conv => lhs; whnf) ?_) | (refine m_gtr rfl rfl ?_) | (refine m_len_ro rfl ?_))) | refine end_ops ?_ | refine seq_ops ?_)
      by_cases hR : 1 ≤ (o.getD []).length
      · obtain ⟨m, rfl⟩ : ∃ m, o = some m := by
          cases o with
          | none => simp at hR
          | some m => exact ⟨m, rfl⟩
        rw [hyes m rfl]
        have hR' : 1 ≤ m.length := hR
        repeat (first | (refine step_ops ?_; (refine m_mov (by conv => lhs; whnf) ?_)) | refine end_ops ?_ | refine seq_ops ?_ | (refine cond_t rfl ?_ ?_; (· first | rfl | assumption | (refine decide_eq_true ?_; first | assumption | omega) | (refine nt ?_; first | assumption | omega) | (simp [*]; done))) | refine AW_ret ?_ | refine ret_done ?_ | refine ret_then ?_ | refine ret_block ?_ | refine ret_round ?_)
        exact outs_ro (allv_ints _)
      · have hno : o = none := by
          cases o with
          | none => rfl
          | some m => exact absurd (show 1 ≤ m.length by rw [hlen m rfl]; omega) hR
        have hR' : (o.getD []).length = 0 := by rw [hno]; rfl
        repeat (first | (refine step_ops ?_; (first | (refine m_mov (by conv => lhs; whnf) ?_) | (refine m_add rfl rfl ?_ ?_ ?_; (· omega); (· omega)))) | refine end_ops ?_ | refine AW_ops ?_ | (refine cond_f rfl ?_ ?_; (· first | rfl | assumption | (refine decide_eq_false ?_; first | assumption | omega) | (refine nf ?_; first | assumption | omega) | (simp [*]; done))) | refine norm_then ?_ | refine norm_block ?_ | refine AW_skip ?_)
        refine next_round (j + 1) ⟨hc, hnone hno, by omega⟩ (weak_st ?_ ?_ rfl rfl) ?_
        · (repeat' (first | exact trivial | refine And.intro ?_ ?_)) <;> (first | rfl | skip)
        · trivial
        · omega
    · have hgj : ¬ bh.getD l.length 0 = (j : Nat) := by rw [hg]; omega
      have hs := ih (l ++ [(j : Int)]) [] (by simp; omega) (.inl rfl) (fun x hx => by simp at hx)
      have hv : fstB (fitsA B) (sdB B) k (l ++ [(j : Int)]) [] = (goOn (fitsA B) (sdB B) k (l ++ [(j : Int)])).head? := rfl
      have hlen : ∀ m, fstB (fitsA B) (sdB B) k (l ++ [(j : Int)]) [] = some m → m.length = sdB B := fun m hm => by rw [fstB_len hm]; simp; omega
      have hyes : ∀ m, fstB (fitsA B) (sdB B) k (l ++ [(j : Int)]) [] = some m → T = some m := fun m hm => hfound j hc ha hfit (by rw [if_neg (fun hh => hgj hh.2), ← hv]; exact hm)
      have hnone : fstB (fitsA B) (sdB B) k (l ++ [(j : Int)]) [] = none → atB (fitsA B) (sdB B) l bh T (j + 1) := fun hm => hskip j hc ha (.inr (.inr (by rw [← hv]; exact hm)))
      clear hv
      generalize fstB (fitsA B) (sdB B) k (l ++ [(j : Int)]) [] = o at *
      repeat (first | (refine step_ops ?_; (first | ((try (refine g_yes rfl ?_ ?_; (· first | rfl | assumption | (refine decide_eq_true ?_; first | assumption | omega) | (refine nt ?_; first | assumption | omega) | (simp [*]; done) | (refine decide_eq_false ?_; first | assumption | omega) | (refine nf ?_; first | assumption | omega)))); (first | (refine m_mov (by conv => lhs; whnf) ?_) | (refine m_gtr rfl rfl ?_) | (refine m_len_ro rfl ?_) | (refine m_len_sl rfl ?_) | (refine m_idx1_ro rfl rfl ?_ ?_; (· omega)) | (refine m_ld_rpi rfl ?_ ?_; (· omega)) | (refine m_pick_t rfl ?_ (by conv => lhs; whnf) ?_; (· first | rfl | assumption | (refine decide_eq_true ?_; first | assumption | omega) | (refine nt ?_; first | assumption | omega) | (simp [*]; done))) | (refine m_pick_f rfl ?_ (by conv => lhs; whnf) ?_; (· first | rfl | assumption | (refine decide_eq_false ?_; first | assumption | omega) | (refine nf ?_; first | assumption | omega) | (simp [*]; done))) | (refine m_nils ?_))) | (refine g_noT rfl ?_ ?_; (· first | rfl | assumption | (refine decide_eq_false ?_; first | assumption | omega) | (refine nf ?_; first | assumption | omega) | (simp [*]; done))))) | refine end_ops ?_ | refine seq_ops ?_ | refine AW_ops ?_ | (refine cond_t rfl ?_ ?_; (· first | rfl | assumption | (refine decide_eq_true ?_; first | assumption | omega) | (refine nt ?_; first | assumption | omega) | (simp [*]; done))) | (refine cond_f rfl ?_ ?_; (· first | rfl | assumption | (refine decide_eq_false ?_; first | assumption | omega) | (refine nf ?_; first | assumption | omega) | (simp [*]; done))) | refine skip_then ?_ | refine AW_seq ?_ | refine norm_then ?_)
      rw [hg]
      skip
      (refine step_ops ?_); (apply m_callo (l1Own_spec l (by omega))); (· repeat (first | exact lends_nil | (refine lends_cons ?_ ?_; (· (refine lend_ints ?_; first | rfl | omega))))); (· first | exact allv_ints _ | rfl | (simp; done))
      repeat (refine step_ops ?_; (first | (refine m_mov (by conv => lhs; whnf) ?_) | (refine m_bsl1 rfl rfl ?_) | (refine m_app1i rfl (by decide) (by rfl) (by first | rfl | omega | (simp; done)) rfl rfl ?_ (by decide) ?_; (· first | omega | (simp; omega)))))
      (refine step_ops ?_); (apply m_call (hs)); (· repeat (first | exact lends_nil | (refine lends_cons ?_ ?_; (· (first | exact lend_v | (refine lend_sli (by rfl) ?_; first | rfl | omega | (simp; done)))))))
      repeat (first | (refine step_ops ?_; (first | (refine m_mov (by conv => lhs; whnf) ?_) | (refine m_gtr rfl rfl ?_) | (refine m_len_ro rfl ?_))) | refine end_ops ?_ | refine seq_ops ?_)
      by_cases hR : 1 ≤ (o.getD []).length
      · obtain ⟨m, rfl⟩ : ∃ m, o = some m := by
          cases o with
          | none => simp at hR
          | some m => exact ⟨m, rfl⟩
        rw [hyes m rfl]
        have hR' : 1 ≤ m.length := hR
        repeat (first | (refine step_ops ?_; (refine m_mov (by conv => lhs; whnf) ?_)) | refine end_ops ?_ | refine seq_ops ?_ | (refine cond_t rfl ?_ ?_; (· first | rfl | assumption | (refine decide_eq_true ?_; first | assumption | omega) | (refine nt ?_; first | assumption | omega) | (simp [*]; done))) | refine AW_ret ?_ | refine ret_done ?_ | refine ret_then ?_ | refine ret_block ?_ | refine ret_round ?_)
        exact outs_ro (allv_ints _)
      · have hno : o = none := by
          cases o with
          | none => rfl
          | some m => exact absurd (show 1 ≤ m.length by rw [hlen m rfl]; omega) hR
        have hR' : (o.getD []).length = 0 := by rw [hno]; rfl
        repeat (first | (refine step_ops ?_; (first | (refine m_mov (by conv => lhs; whnf) ?_) | (refine m_add rfl rfl ?_ ?_ ?_; (· omega); (· omega)))) | refine end_ops ?_ | refine AW_ops ?_ | (refine cond_f rfl ?_ ?_; (· first | rfl | assumption | (refine decide_eq_false ?_; first | assumption | omega) | (refine nf ?_; first | assumption | omega) | (simp [*]; done))) | refine norm_then ?_ | refine norm_block ?_ | refine AW_skip ?_)
        refine next_round (j + 1) ⟨hc, hnone hno, by omega⟩ (weak_st ?_ ?_ rfl rfl) ?_
        · (repeat' (first | exact trivial | refine And.intro ?_ ?_)) <;> (first | rfl | skip)
        · trivial
        · omega
  · obtain rfl : j = sdB B := by omega
    have hT : T = none := by
      rcases ha with ha | ha
      · have h1 := ha.2
        omega
      · rw [ha, goFrom_end _ _ (Nat.le_refl _)]
        rfl
    rw [hT]
    repeat (first | (refine step_ops ?_; (refine m_mov (by conv => lhs; whnf) ?_)) | refine seq_ops ?_ | refine AW_seq ?_)
    (refine step_ops ?_); (apply m_call (bdSide_spec B hB)); (· repeat (first | exact lends_nil | (refine lends_cons ?_ ?_; (· exact lend_v))))
    repeat (first | (refine step_ops ?_; (first | (refine m_lss rfl rfl ?_) | (refine m_nils ?_))) | refine end_ops ?_ | refine seq_ops ?_ | (refine cond_f rfl ?_ ?_; (· first | rfl | assumption | (refine decide_eq_false ?_; first | assumption | omega) | (refine nf ?_; first | assumption | omega) | (simp [*]; done))) | refine AW_ret ?_ | refine ret_done ?_ | refine norm_then ?_ | refine exit_then ?_ | refine exit_round ?_ | refine AW_exit ?_ | refine exit_block ?_)
    exact outs_ints rfl rfl rfl

theorem bdFirst_spec (B : List UInt8) (h : GoodBd B) (hB : B.length ≤ 1048576) : ∀ k : Nat, ∀ l bh : List Int, l.length + k = sdB B → (bh = [] ∨ (bh.take l.length = l ∧ bh.length = sdB B ∧ l.length < sdB B)) → (∀ x ∈ bh, 0 ≤ x ∧ x < sdB B) →
    Sp Tryd.prog 20 [str B, ints l, ints bh] (newInts ((fstB (fitsA B) (sdB B) k l bh).getD []))
  | 0 => bdFirst_zero B h hB
  | k + 1 => fun l bh hl hbh hb => by
    by_cases he : bh = []
    · exact bdFirst_none B h hB k (bdFirst_spec B h hB k) l bh hl he hb
    · exact bdFirst_some B h hB k (bdFirst_spec B h hB k) l bh hl he (hbh.resolve_left he) hb
end Go.Proofs.YtdejhocekhbanaaDoor
