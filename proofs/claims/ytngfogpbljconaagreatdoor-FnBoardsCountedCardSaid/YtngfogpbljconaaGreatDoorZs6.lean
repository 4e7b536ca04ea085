/- The abstract machine, contracts: part 6 of what this claim needs. -/
import Derived.Test.YtngfogpbljconaaGreatDoorZs5
set_option linter.unusedSectionVars false
namespace Go.Am
variable [Go.Am.CodeBlk]
theorem goOn_len {fits : List Int → Nat → Bool} {n k : Nat} {l m : List Int} (h : m ∈ goOn fits n k l) : m.length = l.length + k := by
  obtain ⟨r,rfl,hr⟩ := goOn_shape fits n _ _ _ h
  rw [List.length_append,hr]
def fstB (fits : List Int → Nat → Bool) (n k : Nat) (l bh : List Int) : Option (List Int) := if bh = [] then (goOn fits n k l).head? else (goOn fits n k l).find? (fun m => comesB bh m)
theorem fstB_len {fits : List Int → Nat → Bool} {n k : Nat} {l bh m : List Int} (h : fstB fits n k l bh = some m) : m.length = l.length + k := by
  unfold fstB at h
  split at h
  · exact goOn_len (List.mem_of_mem_head? (by rw [h]; rfl))
  · exact goOn_len (List.mem_of_find?_eq_some h)
def atB (fits : List Int → Nat → Bool) (n : Nat) (l bh : List Int) (T : Option (List Int)) (j : Nat) : Prop := (bh ≠ [] ∧ bh.getD l.length 0 = (j : Nat)) ∨ T = (goFrom fits n l j).head?
variable {fits : List Int → Nat → Bool} {n k : Nat} {l bh : List Int}
theorem goFrom_next {j : Nat} (hj : j < n) (hk : n - l.length - 1 = k) : (goFrom fits n l j).head? = (if fits l j then (goOn fits n k (l ++ [(j : Int)])).head? else none).or (goFrom fits n l (j + 1)).head? := by
  rw [goFrom_step fits n hj,List.head?_append,hk]
  split <;> rfl
theorem take_more (h : bh.take l.length = l) (hl : l.length < bh.length) {j : Nat} (hj : bh.getD l.length 0 = (j : Nat)) : bh.take (l ++ [(j : Int)]).length = l ++ [(j : Int)] := by
  rw [List.length_append,List.length_singleton,qw2 bh l.length 0 hl,h,hj]
theorem take_cons (h : bh.take l.length = l) (hl : l.length < bh.length) {j : Nat} (hj : bh.getD l.length 0 = (j : Nat)) : l ++ (j : Int) :: bh.drop (l.length + 1) = bh := by
  have h1 := List.take_append_drop (l.length + 1) bh
  rw [qw2 bh l.length 0 hl,h,hj,List.append_assoc] at h1
  exact h1
theorem fstB_own (h : bh.take l.length = l) (hb : bh.length = n) (hl : l.length < n) (hk : n - l.length = k + 1) {j : Nat} (hj : bh.getD l.length 0 = (j : Nat)) (hjn : j < n) :
    fstB fits n (k + 1) l bh = (if fits l j then (goOn fits n k (l ++ [(j : Int)])).find? (fun m => comesB bh m) else none).or (goFrom fits n l (j + 1)).head? := by
  have hne : bh ≠ [] := by rintro rfl; simp at hb; omega
  have h1 := find_next fits n (k := k) (g := j) (l := l) (t := bh.drop (l.length + 1)) hjn hk
  rw [take_cons h (by omega) hj] at h1
  unfold fstB
  rw [if_neg hne]
  exact h1
theorem fstB_self (h : bh.take l.length = l) (hb : bh.length = n) (hl : l.length + 1 = n) {j : Nat} (hj : bh.getD l.length 0 = (j : Nat)) : (goOn fits n 0 (l ++ [(j : Int)])).find? (fun m => comesB bh m) = none := by
  have h1 := take_cons h (by omega) hj
  rw [List.drop_of_length_le (by omega)] at h1
  rw [goOn,h1]
  simp [comesB_self]
theorem atB_skip (h : bh = [] ∨ (bh.take l.length = l ∧ bh.length = n)) (hl : l.length < n) (hk : n - l.length = k + 1) {j : Nat} (hjn : j < n) (ha : atB fits n l bh (fstB fits n (k + 1) l bh) j)
    (hf : fits l j = false ∨ (bh ≠ [] ∧ bh.getD l.length 0 = (j : Nat) ∧ (goOn fits n k (l ++ [(j : Int)])).find? (fun m => comesB bh m) = none) ∨ (goOn fits n k (l ++ [(j : Int)])).head? = none ) : atB fits n l bh (fstB fits n (k + 1) l bh) (j + 1) := by
  right
  by_cases hown : bh ≠ [] ∧ bh.getD l.length 0 = (j : Nat)
  · rcases h with h|⟨h1,h2⟩
    · exact absurd h hown.1
    rw [fstB_own h1 h2 hl hk hown.2 hjn]
    rcases hf with hf|hf|hf
    · rw [hf]; rfl
    · rw [hf.2.2]; split <;> rfl
    · have : (goOn fits n k (l ++ [(j : Int)])) = [] := List.head?_eq_none_iff.1 hf
      rw [this]; split <;> rfl
  · rcases ha with ha|ha
    · exact absurd ha hown
    rw [ha,goFrom_next hjn (by omega : n - l.length - 1 = k)]
    rcases hf with hf|hf|hf
    · rw [hf]; rfl
    · exact absurd ⟨hf.1,hf.2.1⟩ hown
    · rw [hf]; split <;> rfl
theorem atB_found (h : bh = [] ∨ (bh.take l.length = l ∧ bh.length = n)) (hl : l.length < n) (hk : n - l.length = k + 1) {j : Nat} (hjn : j < n) (ha : atB fits n l bh (fstB fits n (k + 1) l bh) j) (hf : fits l j = true) {m : List Int}
    (hm : if bh ≠ [] ∧ bh.getD l.length 0 = (j : Nat) then (goOn fits n k (l ++ [(j : Int)])).find? (fun m => comesB bh m) = some m else (goOn fits n k (l ++ [(j : Int)])).head? = some m) : fstB fits n (k + 1) l bh = some m := by
  by_cases hown : bh ≠ [] ∧ bh.getD l.length 0 = (j : Nat)
  · rw [if_pos hown] at hm
    rcases h with h|⟨h1,h2⟩
    · exact absurd h hown.1
    rw [fstB_own h1 h2 hl hk hown.2 hjn,if_pos hf,hm]
    rfl
  · rw [if_neg hown] at hm
    rcases ha with ha|ha
    · exact absurd ha hown
    rw [ha,goFrom_next hjn (by omega : n - l.length - 1 = k),if_pos hf,hm]
    rfl
end Go.Am
namespace Go.Proofs.YtngfogpbljconaaGreatDoor
variable [Go.Am.CodeBlk]
open Go.Am
attribute [local irreducible] AW Outs Weak Lends Lend Sp aops atree aop1 Then Round InBlock Done
def fitsA (B : List UInt8) (l : List Int) (x : Nat) : Bool := !fbB B l.length x && !decide ((x : Int) ∈ l)
def frstA (B : List UInt8) : Option (List Int) := if GoodBd B then (goOn (fitsA B) (sdB B) (sdB B) []).head? else none
def nextA (B : List UInt8) (L : List Int) : Option (List Int) := if Asked B L then (goOn (fitsA B) (sdB B) (sdB B) []).find? (fun m => comesB L m) else none
theorem frstA_len {B : List UInt8} {m : List Int} (h : frstA B = some m) : 1 ≤ m.length ∧ m.length ≤ 8 := by
  unfold frstA at h
  split at h
  · rename_i hg
    have hsd := qx5 hg
    have := goOn_len (List.mem_of_mem_head? (by rw [h]; rfl))
    simp at this
    omega
  · cases h
theorem nextA_len {B : List UInt8} {L m : List Int} (h : nextA B L = some m) : 1 ≤ m.length ∧ m.length ≤ 8 := by
  unfold nextA at h
  split at h
  · rename_i hg
    have hsd := qx5 hg.1
    have := goOn_len (List.mem_of_find?_eq_some h)
    simp at this
    omega
  · cases h
theorem bdFirst_zero (B : List UInt8) (h : GoodBd B) (hB : B.length ≤ 1048576) : ∀ l bh : List Int,l.length + 0 = sdB B → (bh = [] ∨ (bh.take l.length = l ∧ bh.length = sdB B ∧ l.length < sdB B)) → (∀ x ∈ bh,0 ≤ x ∧ x < sdB B) →
    Sp Tryz.prog 42 [str B,ints l,ints bh] (newInts ((fstB (fitsA B) (sdB B) 0 l bh).getD [])) := by
  have hsd := qx5 h
  intro l bh hl hbh hb
  have e : bh = [] := by rcases hbh with h1|h1; exact h1; omega
  subst e
  have hT : fstB (fitsA B) (sdB B) 0 l [] = some l := rfl
  rw [hT]
  refine qy7 Tryz.func42 rfl cc42 rfl ?_
  unfold ac42
  repeat (first|(refine qz0 ?_;(first|(refine m_mov (by conv => lhs; whnf) ?_)|(refine qy4 rfl ?_)|(refine qx2 ?_)))|refine qz1 ?_|refine qz3 ?_|refine qz6 ?_)
  (refine qz0 ?_);(apply qza (qyj B hB));(· repeat (first|exact qz4|(refine qz2 ?_ ?_;(· exact qzd))))
  repeat (first|(refine qz0 ?_;(first|(refine m_mov (by conv => lhs; whnf) ?_)|(refine m_eql rfl rfl ?_)))|refine qz1 ?_|refine qz3 ?_|(refine qzf rfl ?_ ?_;(· (refine decide_eq_true ?_; omega))))
  (refine qz0 ?_);(apply qza (qvb l (by omega)));(· repeat (first|exact qz4|(refine qz2 ?_ ?_;(· (refine qy2 ?_; first|rfl|omega)))))
  repeat (first|(refine qz0 ?_;(refine m_mov (by conv => lhs; whnf) ?_))|refine qz1 ?_|refine qzj ?_|refine qzc ?_|refine qy8 ?_)
  exact que (qx0 _)
theorem bdFirst_none (B : List UInt8) (h : GoodBd B) (hB : B.length ≤ 1048576) (k : Nat) (ih : ∀ l bh : List Int,l.length + k = sdB B → (bh = [] ∨ (bh.take l.length = l ∧ bh.length = sdB B ∧ l.length < sdB B)) → (∀ x ∈ bh,0 ≤ x ∧ x < sdB B) →
    Sp Tryz.prog 42 [str B,ints l,ints bh] (newInts ((fstB (fitsA B) (sdB B) k l bh).getD []))) :
    ∀ l bh : List Int,l.length + (k + 1) = sdB B → bh = [] → (∀ x ∈ bh,0 ≤ x ∧ x < sdB B) →
    Sp Tryz.prog 42 [str B,ints l,ints bh] (newInts ((fstB (fitsA B) (sdB B) (k + 1) l bh).getD [])) := by
  have hsd := qx5 h
  intro l bh hl he hb
  have hbh : bh = [] ∨ (bh.take l.length = l ∧ bh.length = sdB B ∧ l.length < sdB B) := .inl he
  have hlt : l.length < sdB B := by omega
  have hk : sdB B - l.length = k + 1 := by omega
  have hbs : bh = [] ∨ (bh.take l.length = l ∧ bh.length = sdB B) := by
    rcases hbh with h1|h1
    · exact .inl h1
    · exact .inr ⟨h1.1,h1.2.1⟩
  have hskip := fun j hj => atB_skip (fits := fitsA B) (n := sdB B) (k := k) (l := l) (bh := bh) (j := j) hbs hlt hk hj
  have hfound := fun j hj => atB_found (fits := fitsA B) (n := sdB B) (k := k) (l := l) (bh := bh) (j := j) hbs hlt hk hj
  obtain ⟨f0,hz,hf0,hat⟩ : ∃ f0 : Nat,f0 = 0 ∧ f0 ≤ sdB B ∧ atB (fitsA B) (sdB B) l bh (fstB (fitsA B) (sdB B) (k + 1) l bh) f0 := by
    subst he
    refine ⟨0,rfl,Nat.zero_le _,.inr ?_⟩
    show (goOn (fitsA B) (sdB B) (k + 1) l).head? = _
    rw [← hk,goOn_from _ _ hlt]
  generalize fstB (fitsA B) (sdB B) (k + 1) l bh = T at *
  refine qy7 Tryz.func42 rfl cc42 rfl ?_
  unfold ac42
  have hbl : bh.length = 0 := by rw [he]; rfl
  repeat (first|(refine qz0 ?_;(first|(refine m_mov (by conv => lhs; whnf) ?_)|(refine qy4 rfl ?_)|(refine qx2 ?_)))|refine qz1 ?_|refine qz3 ?_|refine qz6 ?_)
  (refine qz0 ?_);(apply qza (qyj B hB));(· repeat (first|exact qz4|(refine qz2 ?_ ?_;(· exact qzd))))
  repeat (first|(refine qz0 ?_;(first|(refine m_mov (by conv => lhs; whnf) ?_)|(refine m_gtr rfl rfl ?_)|(refine m_eql rfl rfl ?_)|(refine qy4 rfl ?_)))|refine qz1 ?_|refine qz3 ?_|(refine qzi rfl ?_ ?_;(· (refine decide_eq_false ?_; omega)))|refine qz5 ?_|refine qz6 ?_|refine qz8 ?_)
  refine qxe (qz9 (l := [(0,str B),(1,ints l),(2,ints bh),(7,.i l.length),(9,.i (f0 : Nat))]) (h := []) ?_ ?_ rfl rfl) ?_
  · rw [hz]
    (repeat' first|exact trivial|refine And.intro ?_ ?_)<;>first|rfl|skip
  · trivial
  refine qyf (α := Nat) (fun j => j ≤ sdB B ∧ atB (fitsA B) (sdB B) l bh T j ∧ f0 ≤ j) (fun j => st [(0,str B),(1,ints l),(2,ints bh),(7,.i l.length),(9,.i j)] []) (fun j => sdB B - j) f0 ⟨hf0,hat,Nat.le_refl _⟩ (qz9 ?_ ?_ rfl rfl) ?_
  · (repeat' first|exact trivial|refine And.intro ?_ ?_)<;>first|rfl|skip
  · trivial
  rintro j ⟨hj,ha,hfj⟩
  by_cases hc : j < sdB B
  · repeat (first|(refine qz0 ?_;(refine m_mov (by conv => lhs; whnf) ?_))|refine qz3 ?_|refine qz6 ?_)
    (refine qz0 ?_);(apply qza (qyj B hB));(· repeat (first|exact qz4|(refine qz2 ?_ ?_;(· exact qzd))))
    repeat (first|(refine qz0 ?_;(first|(refine m_mov (by conv => lhs; whnf) ?_)|(refine m_lss rfl rfl ?_)))|refine qz1 ?_|refine qz3 ?_|(refine qzf rfl ?_ ?_;(· (refine decide_eq_true ?_; omega)))|refine qz5 ?_|refine qz6 ?_|refine qz8 ?_)
    (refine qz0 ?_);(apply qza (qu6 B h l.length j hlt hc));(· repeat (first|exact qz4|(refine qz2 ?_ ?_;(· exact qzd))))
    by_cases hf1 : fbB B l.length j = true
    · have hfit : fitsA B l j = false := by simp [fitsA,hf1]
      repeat (first|(refine qz0 ?_;(first|(first|(refine m_mov (by conv => lhs; whnf) ?_)|(refine m_add rfl rfl ?_ ?_ ?_;(· omega);(· omega))|(refine qye rfl ?_ (by conv => lhs; whnf) ?_;(· assumption)))|(refine g_noF rfl ?_ ?_;(· assumption))))|refine qz1 ?_|refine qy5 ?_|(refine qzf rfl ?_ ?_;(· rfl))|refine qz7 ?_|refine qy1 ?_|refine qy9 ?_|refine qzg ?_)
      refine qzb (j + 1) ⟨hc,hskip j hc ha (.inl hfit),by omega⟩ (qz9 ?_ ?_ rfl rfl) ?_
      · (repeat' first|exact trivial|refine And.intro ?_ ?_)<;>first|rfl|skip
      · trivial
      · omega
    have hf1 : fbB B l.length j = false := by simpa using hf1
    repeat (refine qz0 ?_;((try (refine g_yes rfl ?_ ?_;(· assumption)));(refine m_mov (by conv => lhs; whnf) ?_)))
    (refine qz0 ?_);(refine g_yes rfl ?_ ?_;(· first|(assumption)|(fail));(apply qza (qv2 l j (by omega))));(· repeat (first|exact qz4|(refine qz2 ?_ ?_;(· (first|exact qzd|(refine qy2 ?_; first|rfl|omega))))))
    by_cases hf2 : (j : Int) ∈ l
    · have hfit : fitsA B l j = false := by simp [fitsA,hf2]
      repeat (first|(refine qz0 ?_;(first|(refine m_mov (by conv => lhs; whnf) ?_)|(refine m_add rfl rfl ?_ ?_ ?_;(· omega);(· omega))|(refine qy3 rfl ?_ (by conv => lhs; whnf) ?_;(· assumption))))|refine qz1 ?_|refine qy5 ?_|(refine qzf rfl ?_ ?_;(· (refine decide_eq_true ?_; assumption)))|refine qz7 ?_|refine qy1 ?_|refine qy9 ?_|refine qzg ?_)
      refine qzb (j + 1) ⟨hc,hskip j hc ha (.inl hfit),by omega⟩ (qz9 ?_ ?_ rfl rfl) ?_
      · (repeat' first|exact trivial|refine And.intro ?_ ?_)<;>first|rfl|skip
      · trivial
      · omega
    have hfit : fitsA B l j = true := by simp [fitsA,hf1,hf2]
    have hs := ih (l ++ [(j : Int)]) bh (by simp; omega) (.inl he) hb
    have hv : fstB (fitsA B) (sdB B) k (l ++ [(j : Int)]) bh = (goOn (fitsA B) (sdB B) k (l ++ [(j : Int)])).head? := if_pos he
    have hlen : ∀ m,fstB (fitsA B) (sdB B) k (l ++ [(j : Int)]) bh = some m → m.length = sdB B := fun m hm => by rw [fstB_len hm]; simp; omega
    have hyes : ∀ m,fstB (fitsA B) (sdB B) k (l ++ [(j : Int)]) bh = some m → T = some m := fun m hm => hfound j hc ha hfit (by rw [if_neg (fun hh => hh.1 he),← hv]; exact hm)
    have hnone : fstB (fitsA B) (sdB B) k (l ++ [(j : Int)]) bh = none → atB (fitsA B) (sdB B) l bh T (j + 1) := fun hm => hskip j hc ha (.inr (.inr (by rw [← hv]; exact hm)))
    clear hv
    generalize fstB (fitsA B) (sdB B) k (l ++ [(j : Int)]) bh = o at *
    repeat (first|(refine qz0 ?_;(first|(first|(refine m_mov (by conv => lhs; whnf) ?_)|(refine m_gtr rfl rfl ?_)|(refine qy4 rfl ?_)|(refine qy3 rfl ?_ (by conv => lhs; whnf) ?_;(· first|assumption|(refine decide_eq_false ?_; omega))))|(refine g_noT rfl ?_ ?_;(· (refine decide_eq_false ?_; omega)))))|refine qz1 ?_|refine qz3 ?_|(refine qzi rfl ?_ ?_;(· first|rfl|(refine decide_eq_false ?_; assumption)))|refine qz5 ?_|refine qz6 ?_)
    (refine qz0 ?_);(apply qwh (qvb l (by omega)));(· repeat (first|exact qz4|(refine qz2 ?_ ?_;(· (refine qy2 ?_; first|rfl|omega)))));(· first|exact qx0 _|rfl|(simp; done))
    repeat (refine qz0 ?_;(first|(refine m_mov (by conv => lhs; whnf) ?_)|(refine qu8 rfl rfl ?_)|(refine qu9 rfl (by decide) (by rfl) (by first|rfl|omega|(simp; done)) rfl rfl ?_ (by decide) ?_;(· first|omega|(simp; omega)))))
    (refine qz0 ?_);(apply qza (hs));(· repeat (first|exact qz4|(refine qz2 ?_ ?_;(· (first|exact qzd|(refine qy2 ?_; first|rfl|omega)|(refine qw9 (by rfl) ?_; first|rfl|omega|(simp; done)))))))
    repeat (first|(refine qz0 ?_;(first|(refine m_mov (by conv => lhs; whnf) ?_)|(refine m_gtr rfl rfl ?_)|(refine qy4 rfl ?_)))|refine qz1 ?_|refine qz3 ?_)
    by_cases hR : 1 ≤ (o.getD []).length
    · obtain ⟨m,rfl⟩ : ∃ m,o = some m := by
        cases o with
        | none => simp at hR
        | some m => exact ⟨m,rfl⟩
      rw [hyes m rfl]
      have hR' : 1 ≤ m.length := hR
      repeat (first|(refine qz0 ?_;(refine m_mov (by conv => lhs; whnf) ?_))|refine qz1 ?_|refine qz3 ?_|(refine qzf rfl ?_ ?_;(· (refine decide_eq_true ?_; omega)))|refine qzj ?_|refine qzc ?_|refine qy8 ?_|refine qx7 ?_|refine qxd ?_)
      exact que (qx0 _)
    · have hno : o = none := by
        cases o with
        | none => rfl
        | some m => exact absurd (show 1 ≤ m.length by rw [hlen m rfl]; omega) hR
      have hR' : (o.getD []).length = 0 := by rw [hno]; rfl
      repeat (first|(refine qz0 ?_;(first|(refine m_mov (by conv => lhs; whnf) ?_)|(refine m_add rfl rfl ?_ ?_ ?_;(· omega);(· omega))))|refine qz1 ?_|refine qy5 ?_|(refine qzi rfl ?_ ?_;(· (refine decide_eq_false ?_; omega)))|refine qz7 ?_|refine qze ?_|refine qx6 ?_)
      refine qzb (j + 1) ⟨hc,hnone hno,by omega⟩ (qz9 ?_ ?_ rfl rfl) ?_
      · (repeat' first|exact trivial|refine And.intro ?_ ?_)<;>first|rfl|skip
      · trivial
      · omega
  · obtain rfl : j = sdB B := by omega
    have hT : T = none := by
      rcases ha with ha|ha
      · exact absurd he ha.1
      · rw [ha,goFrom_end _ _ (Nat.le_refl _)]
        rfl
    rw [hT]
    repeat (first|(refine qz0 ?_;(refine m_mov (by conv => lhs; whnf) ?_))|refine qz3 ?_|refine qz6 ?_)
    (refine qz0 ?_);(apply qza (qyj B hB));(· repeat (first|exact qz4|(refine qz2 ?_ ?_;(· exact qzd))))
    repeat (first|(refine qz0 ?_;(first|(refine m_lss rfl rfl ?_)|(refine qx2 ?_)))|refine qz1 ?_|refine qz3 ?_|(refine qzi rfl ?_ ?_;(· (refine decide_eq_false ?_; omega)))|refine qzj ?_|refine qzc ?_|refine qz7 ?_|refine qy1 ?_|refine qy0 ?_|refine qy9 ?_|refine qzg ?_)
    exact qx3 rfl rfl rfl
theorem bdFirst_some (B : List UInt8) (h : GoodBd B) (hB : B.length ≤ 1048576) (k : Nat) (ih : ∀ l bh : List Int,l.length + k = sdB B → (bh = [] ∨ (bh.take l.length = l ∧ bh.length = sdB B ∧ l.length < sdB B)) → (∀ x ∈ bh,0 ≤ x ∧ x < sdB B) →
    Sp Tryz.prog 42 [str B,ints l,ints bh] (newInts ((fstB (fitsA B) (sdB B) k l bh).getD []))) :
    ∀ l bh : List Int,l.length + (k + 1) = sdB B → bh ≠ [] → (bh.take l.length = l ∧ bh.length = sdB B ∧ l.length < sdB B) → (∀ x ∈ bh,0 ≤ x ∧ x < sdB B) →
    Sp Tryz.prog 42 [str B,ints l,ints bh] (newInts ((fstB (fitsA B) (sdB B) (k + 1) l bh).getD [])) := by
  have hsd := qx5 h
  intro l bh hl hne hbh' hb
  have hbh : bh = [] ∨ (bh.take l.length = l ∧ bh.length = sdB B ∧ l.length < sdB B) := .inr hbh'
  have hlt : l.length < sdB B := by omega
  have hk : sdB B - l.length = k + 1 := by omega
  have hbs : bh = [] ∨ (bh.take l.length = l ∧ bh.length = sdB B) := by
    rcases hbh with h1|h1
    · exact .inl h1
    · exact .inr ⟨h1.1,h1.2.1⟩
  have hskip := fun j hj => atB_skip (fits := fitsA B) (n := sdB B) (k := k) (l := l) (bh := bh) (j := j) hbs hlt hk hj
  have hfound := fun j hj => atB_found (fits := fitsA B) (n := sdB B) (k := k) (l := l) (bh := bh) (j := j) hbs hlt hk hj
  have htk : bh.take l.length = l := hbh'.1
  have hbl : bh.length = sdB B := hbh'.2.1
  obtain ⟨f0,hf0,hg⟩ : ∃ f0 : Nat,f0 < sdB B ∧ bh.getD l.length 0 = (f0 : Nat) := by
    have hr := hb _ (qud (show l.length < bh.length by omega))
    obtain ⟨q,hq⟩ := Int.eq_ofNat_of_zero_le hr.1
    exact ⟨q,by omega,hq⟩
  have hat : atB (fitsA B) (sdB B) l bh (fstB (fitsA B) (sdB B) (k + 1) l bh) f0 := .inl ⟨hne,hg⟩
  generalize fstB (fitsA B) (sdB B) (k + 1) l bh = T at *
  refine qy7 Tryz.func42 rfl cc42 rfl ?_
  unfold ac42
  repeat (first|(refine qz0 ?_;(first|(refine m_mov (by conv => lhs; whnf) ?_)|(refine qy4 rfl ?_)|(refine qx2 ?_)))|refine qz1 ?_|refine qz3 ?_|refine qz6 ?_)
  (refine qz0 ?_);(apply qza (qyj B hB));(· repeat (first|exact qz4|(refine qz2 ?_ ?_;(· exact qzd))))
  repeat (first|(refine qz0 ?_;(first|(refine m_mov (by conv => lhs; whnf) ?_)|(refine m_gtr rfl rfl ?_)|(refine m_eql rfl rfl ?_)|(refine qy4 rfl ?_)|(refine qy6 rfl rfl ?_ ?_;(· omega))|(refine qyg rfl ?_ ?_;(· omega))))|refine qz1 ?_|refine qz3 ?_|refine qy5 ?_|(refine qzf rfl ?_ ?_;(· (refine decide_eq_true ?_; omega)))|(refine qzi rfl ?_ ?_;(· (refine decide_eq_false ?_; omega)))|refine qz5 ?_|refine qz6 ?_|refine qz7 ?_|refine qz8 ?_)
  refine qxe (qz9 (l := [(0,str B),(1,ints l),(2,ints bh),(7,.i l.length),(9,.i (f0 : Nat))]) (h := []) ?_ ?_ rfl rfl) ?_
  · rw [← hg]
    (repeat' first|exact trivial|refine And.intro ?_ ?_)<;>first|rfl|skip
  · trivial
  refine qyf (α := Nat) (fun j => j ≤ sdB B ∧ atB (fitsA B) (sdB B) l bh T j ∧ f0 ≤ j) (fun j => st [(0,str B),(1,ints l),(2,ints bh),(7,.i l.length),(9,.i j)] []) (fun j => sdB B - j) f0 ⟨Nat.le_of_lt hf0,hat,Nat.le_refl _⟩ (qz9 ?_ ?_ rfl rfl) ?_
  · (repeat' first|exact trivial|refine And.intro ?_ ?_)<;>first|rfl|skip
  · trivial
  rintro j ⟨hj,ha,hfj⟩
  by_cases hc : j < sdB B
  · repeat (first|(refine qz0 ?_;(refine m_mov (by conv => lhs; whnf) ?_))|refine qz3 ?_|refine qz6 ?_)
    (refine qz0 ?_);(apply qza (qyj B hB));(· repeat (first|exact qz4|(refine qz2 ?_ ?_;(· exact qzd))))
    repeat (first|(refine qz0 ?_;(first|(refine m_mov (by conv => lhs; whnf) ?_)|(refine m_lss rfl rfl ?_)))|refine qz1 ?_|refine qz3 ?_|(refine qzf rfl ?_ ?_;(· (refine decide_eq_true ?_; omega)))|refine qz5 ?_|refine qz6 ?_|refine qz8 ?_)
    (refine qz0 ?_);(apply qza (qu6 B h l.length j hlt hc));(· repeat (first|exact qz4|(refine qz2 ?_ ?_;(· exact qzd))))
    by_cases hf1 : fbB B l.length j = true
    · have hfit : fitsA B l j = false := by simp [fitsA,hf1]
      repeat (first|(refine qz0 ?_;(first|(first|(refine m_mov (by conv => lhs; whnf) ?_)|(refine m_add rfl rfl ?_ ?_ ?_;(· omega);(· omega))|(refine qye rfl ?_ (by conv => lhs; whnf) ?_;(· assumption)))|(refine g_noF rfl ?_ ?_;(· assumption))))|refine qz1 ?_|refine qy5 ?_|(refine qzf rfl ?_ ?_;(· rfl))|refine qz7 ?_|refine qy1 ?_|refine qy9 ?_|refine qzg ?_)
      refine qzb (j + 1) ⟨hc,hskip j hc ha (.inl hfit),by omega⟩ (qz9 ?_ ?_ rfl rfl) ?_
      · (repeat' first|exact trivial|refine And.intro ?_ ?_)<;>first|rfl|skip
      · trivial
      · omega
    have hf1 : fbB B l.length j = false := by simpa using hf1
    repeat (refine qz0 ?_;((try (refine g_yes rfl ?_ ?_;(· assumption)));(refine m_mov (by conv => lhs; whnf) ?_)))
    (refine qz0 ?_);(refine g_yes rfl ?_ ?_;(· first|(assumption)|(fail));(apply qza (qv2 l j (by omega))));(· repeat (first|exact qz4|(refine qz2 ?_ ?_;(· (first|exact qzd|(refine qy2 ?_; first|rfl|omega))))))
    by_cases hf2 : (j : Int) ∈ l
    · have hfit : fitsA B l j = false := by simp [fitsA,hf2]
      repeat (first|(refine qz0 ?_;(first|(refine m_mov (by conv => lhs; whnf) ?_)|(refine m_add rfl rfl ?_ ?_ ?_;(· omega);(· omega))|(refine qy3 rfl ?_ (by conv => lhs; whnf) ?_;(· assumption))))|refine qz1 ?_|refine qy5 ?_|(refine qzf rfl ?_ ?_;(· (refine decide_eq_true ?_; assumption)))|refine qz7 ?_|refine qy1 ?_|refine qy9 ?_|refine qzg ?_)
      refine qzb (j + 1) ⟨hc,hskip j hc ha (.inl hfit),by omega⟩ (qz9 ?_ ?_ rfl rfl) ?_
      · (repeat' first|exact trivial|refine And.intro ?_ ?_)<;>first|rfl|skip
      · trivial
      · omega
    have hfit : fitsA B l j = true := by simp [fitsA,hf1,hf2]
    by_cases hjf : j = f0
    · have hgj : bh.getD l.length 0 = (j : Nat) := by rw [hjf]; exact hg
      by_cases hk0 : k = 0
      · have hlast : l.length + 1 = sdB B := by omega
        have hnx : atB (fitsA B) (sdB B) l bh T (j + 1) := hskip j hc ha (.inr (.inl ⟨hne,hgj,by rw [hk0]; exact fstB_self htk hbl hlast hgj⟩))
        repeat (first|(refine qz0 ?_;((try (refine g_yes rfl ?_ ?_;(· (refine decide_eq_true ?_; omega))));(first|(refine m_mov (by conv => lhs; whnf) ?_)|(refine m_gtr rfl rfl ?_)|(refine m_eql rfl rfl ?_)|(refine m_add rfl rfl ?_ ?_ ?_;(· omega);(· omega))|(refine m_sub rfl rfl ?_ ?_ ?_;(· omega);(· omega))|(refine qy4 rfl ?_)|(refine qy6 rfl rfl ?_ ?_;(· omega))|(refine qyg rfl ?_ ?_;(· omega))|(refine qye rfl ?_ (by conv => lhs; whnf) ?_;(· (refine decide_eq_true ?_; omega)))|(refine qy3 rfl ?_ (by conv => lhs; whnf) ?_;(· assumption)))))|refine qz1 ?_|refine qz3 ?_|refine qy5 ?_|(refine qzf rfl ?_ ?_;(· (refine decide_eq_true ?_; omega)))|(refine qzi rfl ?_ ?_;(· first|(refine decide_eq_false ?_; assumption)|(refine decide_eq_false ?_; omega)))|refine qz5 ?_|refine qz6 ?_|refine qz7 ?_|refine qy1 ?_|refine qy9 ?_|refine qzg ?_)
        refine qzb (j + 1) ⟨hc,hnx,by omega⟩ (qz9 ?_ ?_ rfl rfl) ?_
        · (repeat' first|exact trivial|refine And.intro ?_ ?_)<;>first|rfl|skip
        · trivial
        · omega
      have hs := ih (l ++ [(j : Int)]) bh (by simp; omega) (.inr ⟨take_more htk (by omega) hgj,hbl,by simp; omega⟩) hb
      have hv : fstB (fitsA B) (sdB B) k (l ++ [(j : Int)]) bh = (goOn (fitsA B) (sdB B) k (l ++ [(j : Int)])).find? (fun m => comesB bh m) := if_neg hne
      have hlen : ∀ m,fstB (fitsA B) (sdB B) k (l ++ [(j : Int)]) bh = some m → m.length = sdB B := fun m hm => by rw [fstB_len hm]; simp; omega
      have hyes : ∀ m,fstB (fitsA B) (sdB B) k (l ++ [(j : Int)]) bh = some m → T = some m := fun m hm => hfound j hc ha hfit (by rw [if_pos ⟨hne,hgj⟩,← hv]; exact hm)
      have hnone : fstB (fitsA B) (sdB B) k (l ++ [(j : Int)]) bh = none → atB (fitsA B) (sdB B) l bh T (j + 1) := fun hm => hskip j hc ha (.inr (.inl ⟨hne,hgj,by rw [← hv]; exact hm⟩))
      clear hv
      generalize fstB (fitsA B) (sdB B) k (l ++ [(j : Int)]) bh = o at *
      repeat (first|(refine qz0 ?_;((try (refine g_yes rfl ?_ ?_;(· (refine decide_eq_true ?_; omega))));(first|(refine m_mov (by conv => lhs; whnf) ?_)|(refine m_gtr rfl rfl ?_)|(refine m_eql rfl rfl ?_)|(refine m_sub rfl rfl ?_ ?_ ?_;(· omega);(· omega))|(refine qy4 rfl ?_)|(refine qy6 rfl rfl ?_ ?_;(· omega))|(refine qyg rfl ?_ ?_;(· omega))|(refine qye rfl ?_ (by conv => lhs; whnf) ?_;(· (refine decide_eq_true ?_; omega)))|(refine qy3 rfl ?_ (by conv => lhs; whnf) ?_;(· assumption)))))|refine qz1 ?_|refine qz3 ?_|(refine qzi rfl ?_ ?_;(· first|(refine decide_eq_false ?_; assumption)|(refine decide_eq_false ?_; omega)))|refine qz5 ?_|refine qz6 ?_)
      (refine qz0 ?_);(apply qwh (qvb l (by omega)));(· repeat (first|exact qz4|(refine qz2 ?_ ?_;(· (refine qy2 ?_; first|rfl|omega)))));(· first|exact qx0 _|rfl|(simp; done))
      repeat (refine qz0 ?_;(first|(refine m_mov (by conv => lhs; whnf) ?_)|(refine qu8 rfl rfl ?_)|(refine qu9 rfl (by decide) (by rfl) (by first|rfl|omega|(simp; done)) rfl rfl ?_ (by decide) ?_;(· first|omega|(simp; omega)))))
      (refine qz0 ?_);(apply qza (hs));(· repeat (first|exact qz4|(refine qz2 ?_ ?_;(· (first|exact qzd|(refine qy2 ?_; first|rfl|omega)|(refine qw9 (by rfl) ?_; first|rfl|omega|(simp; done)))))))
      repeat (first|(refine qz0 ?_;(first|(refine m_mov (by conv => lhs; whnf) ?_)|(refine m_gtr rfl rfl ?_)|(refine qy4 rfl ?_)))|refine qz1 ?_|refine qz3 ?_)
      by_cases hR : 1 ≤ (o.getD []).length
      · obtain ⟨m,rfl⟩ : ∃ m,o = some m := by
          cases o with
          | none => simp at hR
          | some m => exact ⟨m,rfl⟩
        rw [hyes m rfl]
        have hR' : 1 ≤ m.length := hR
        repeat (first|(refine qz0 ?_;(refine m_mov (by conv => lhs; whnf) ?_))|refine qz1 ?_|refine qz3 ?_|(refine qzf rfl ?_ ?_;(· (refine decide_eq_true ?_; omega)))|refine qzj ?_|refine qzc ?_|refine qy8 ?_|refine qx7 ?_|refine qxd ?_)
        exact que (qx0 _)
      · have hno : o = none := by
          cases o with
          | none => rfl
          | some m => exact absurd (show 1 ≤ m.length by rw [hlen m rfl]; omega) hR
        have hR' : (o.getD []).length = 0 := by rw [hno]; rfl
        repeat (first|(refine qz0 ?_;(first|(refine m_mov (by conv => lhs; whnf) ?_)|(refine m_add rfl rfl ?_ ?_ ?_;(· omega);(· omega))))|refine qz1 ?_|refine qy5 ?_|(refine qzi rfl ?_ ?_;(· (refine decide_eq_false ?_; omega)))|refine qz7 ?_|refine qze ?_|refine qx6 ?_)
        refine qzb (j + 1) ⟨hc,hnone hno,by omega⟩ (qz9 ?_ ?_ rfl rfl) ?_
        · (repeat' first|exact trivial|refine And.intro ?_ ?_)<;>first|rfl|skip
        · trivial
        · omega
    · have hgj : ¬ bh.getD l.length 0 = (j : Nat) := by rw [hg]; omega
      have hs := ih (l ++ [(j : Int)]) [] (by simp; omega) (.inl rfl) (fun x hx => by simp at hx)
      have hv : fstB (fitsA B) (sdB B) k (l ++ [(j : Int)]) [] = (goOn (fitsA B) (sdB B) k (l ++ [(j : Int)])).head? := rfl
      have hlen : ∀ m,fstB (fitsA B) (sdB B) k (l ++ [(j : Int)]) [] = some m → m.length = sdB B := fun m hm => by rw [fstB_len hm]; simp; omega
      have hyes : ∀ m,fstB (fitsA B) (sdB B) k (l ++ [(j : Int)]) [] = some m → T = some m := fun m hm => hfound j hc ha hfit (by rw [if_neg (fun hh => hgj hh.2),← hv]; exact hm)
      have hnone : fstB (fitsA B) (sdB B) k (l ++ [(j : Int)]) [] = none → atB (fitsA B) (sdB B) l bh T (j + 1) := fun hm => hskip j hc ha (.inr (.inr (by rw [← hv]; exact hm)))
      clear hv
      generalize fstB (fitsA B) (sdB B) k (l ++ [(j : Int)]) [] = o at *
      repeat (first|(refine qz0 ?_;(first|((try (refine g_yes rfl ?_ ?_;(· (refine decide_eq_true ?_; omega))));(first|(refine m_mov (by conv => lhs; whnf) ?_)|(refine m_gtr rfl rfl ?_)|(refine qy4 rfl ?_)|(refine qwd rfl ?_)|(refine qy6 rfl rfl ?_ ?_;(· omega))|(refine qyg rfl ?_ ?_;(· omega))|(refine qye rfl ?_ (by conv => lhs; whnf) ?_;(· (refine decide_eq_true ?_; omega)))|(refine qy3 rfl ?_ (by conv => lhs; whnf) ?_;(· first|rfl|assumption))|(refine qx2 ?_)))|(refine g_noT rfl ?_ ?_;(· rfl))))|refine qz1 ?_|refine qz3 ?_|refine qy5 ?_|(refine qzf rfl ?_ ?_;(· (refine decide_eq_true ?_; omega)))|(refine qzi rfl ?_ ?_;(· first|rfl|(refine decide_eq_false ?_; assumption)))|refine qz5 ?_|refine qz6 ?_|refine qz7 ?_)
      rw [hg]
      skip
      (refine qz0 ?_);(apply qwh (qvb l (by omega)));(· repeat (first|exact qz4|(refine qz2 ?_ ?_;(· (refine qy2 ?_; first|rfl|omega)))));(· first|exact qx0 _|rfl|(simp; done))
      repeat (refine qz0 ?_;(first|(refine m_mov (by conv => lhs; whnf) ?_)|(refine qu8 rfl rfl ?_)|(refine qu9 rfl (by decide) (by rfl) (by first|rfl|omega|(simp; done)) rfl rfl ?_ (by decide) ?_;(· first|omega|(simp; omega)))))
      (refine qz0 ?_);(apply qza (hs));(· repeat (first|exact qz4|(refine qz2 ?_ ?_;(· (first|exact qzd|(refine qw9 (by rfl) ?_; first|rfl|omega|(simp; done)))))))
      repeat (first|(refine qz0 ?_;(first|(refine m_mov (by conv => lhs; whnf) ?_)|(refine m_gtr rfl rfl ?_)|(refine qy4 rfl ?_)))|refine qz1 ?_|refine qz3 ?_)
      by_cases hR : 1 ≤ (o.getD []).length
      · obtain ⟨m,rfl⟩ : ∃ m,o = some m := by
          cases o with
          | none => simp at hR
          | some m => exact ⟨m,rfl⟩
        rw [hyes m rfl]
        have hR' : 1 ≤ m.length := hR
        repeat (first|(refine qz0 ?_;(refine m_mov (by conv => lhs; whnf) ?_))|refine qz1 ?_|refine qz3 ?_|(refine qzf rfl ?_ ?_;(· (refine decide_eq_true ?_; omega)))|refine qzj ?_|refine qzc ?_|refine qy8 ?_|refine qx7 ?_|refine qxd ?_)
        exact que (qx0 _)
      · have hno : o = none := by
          cases o with
          | none => rfl
          | some m => exact absurd (show 1 ≤ m.length by rw [hlen m rfl]; omega) hR
        have hR' : (o.getD []).length = 0 := by rw [hno]; rfl
        repeat (first|(refine qz0 ?_;(first|(refine m_mov (by conv => lhs; whnf) ?_)|(refine m_add rfl rfl ?_ ?_ ?_;(· omega);(· omega))))|refine qz1 ?_|refine qy5 ?_|(refine qzi rfl ?_ ?_;(· (refine decide_eq_false ?_; omega)))|refine qz7 ?_|refine qze ?_|refine qx6 ?_)
        refine qzb (j + 1) ⟨hc,hnone hno,by omega⟩ (qz9 ?_ ?_ rfl rfl) ?_
        · (repeat' first|exact trivial|refine And.intro ?_ ?_)<;>first|rfl|skip
        · trivial
        · omega
  · obtain rfl : j = sdB B := by omega
    have hT : T = none := by
      rcases ha with ha|ha
      · have h1 := ha.2
        omega
      · rw [ha,goFrom_end _ _ (Nat.le_refl _)]
        rfl
    rw [hT]
    repeat (first|(refine qz0 ?_;(refine m_mov (by conv => lhs; whnf) ?_))|refine qz3 ?_|refine qz6 ?_)
    (refine qz0 ?_);(apply qza (qyj B hB));(· repeat (first|exact qz4|(refine qz2 ?_ ?_;(· exact qzd))))
    repeat (first|(refine qz0 ?_;(first|(refine m_lss rfl rfl ?_)|(refine qx2 ?_)))|refine qz1 ?_|refine qz3 ?_|(refine qzi rfl ?_ ?_;(· (refine decide_eq_false ?_; omega)))|refine qzj ?_|refine qzc ?_|refine qz7 ?_|refine qy1 ?_|refine qy0 ?_|refine qy9 ?_|refine qzg ?_)
    exact qx3 rfl rfl rfl
theorem bdFirst_spec (B : List UInt8) (h : GoodBd B) (hB : B.length ≤ 1048576) : ∀ k : Nat,∀ l bh : List Int,l.length + k = sdB B → (bh = [] ∨ (bh.take l.length = l ∧ bh.length = sdB B ∧ l.length < sdB B)) → (∀ x ∈ bh,0 ≤ x ∧ x < sdB B) →
    Sp Tryz.prog 42 [str B,ints l,ints bh] (newInts ((fstB (fitsA B) (sdB B) k l bh).getD []))
  | 0 => bdFirst_zero B h hB
  | k + 1 => fun l bh hl hbh hb => by
    by_cases he : bh = []
    · exact bdFirst_none B h hB k (bdFirst_spec B h hB k) l bh hl he hb
    · exact bdFirst_some B h hB k (bdFirst_spec B h hB k) l bh hl he (hbh.resolve_left he) hb
end Go.Proofs.YtngfogpbljconaaGreatDoor
namespace Go.Proofs.YtngfogpbljconaaGreatDoor
variable [Go.Am.CodeBlk]
open Go.Am
attribute [local irreducible] AW Outs Weak Lends Lend Sp aops atree aop1 Then Round InBlock Done
def sideR (B : List UInt8) : AV := .tup [.i (if GoodBd B then (sdB B : Nat) else (0 : Int)),.b (decide (GoodBd B))]
theorem implSideOf_spec (B : List UInt8) (hB : B.length ≤ 1048576) : Sp Tryz.prog 32 [str B] (sideR B) := by
  have hr := qxj B hB
  unfold bdR bdV at hr
  unfold sideR
  refine qy7 Tryz.func32 rfl cc32 rfl ?_
  unfold ac32
  by_cases h : GoodBd B
  · rw [if_pos h] at hr ⊢
    repeat (first|(refine qz0 ?_;(refine m_mov (by conv => lhs; whnf) ?_))|refine qz1 ?_|refine qz3 ?_)
    (refine qz0 ?_);(apply qza (hr));(· repeat (first|exact qz4|(refine qz2 ?_ ?_;(· exact qzd))))
    repeat (first|(refine qz0 ?_;(first|(refine m_mov (by conv => lhs; whnf) ?_)|(apply qx8;(· rfl);(· rfl);(· rfl))|(refine m_ext rfl rfl ?_)|(refine qxb ?_)|(refine m_fa rfl ?_)|(refine qx9 rfl rfl rfl ?_ ?_ ?_ ?_;(· first|rfl|(simp [*]; done));(· first|rfl|(simp [*]; done));(· first|rfl|(simp [cellOk,Value.oneCell']; done)))))|refine qz1 ?_|refine qz3 ?_|refine qzj ?_|refine qzc ?_)
    exact qyh (qxa rfl) (qyb rfl)
  · rw [if_neg h] at hr ⊢
    repeat (first|(refine qz0 ?_;(refine m_mov (by conv => lhs; whnf) ?_))|refine qz1 ?_|refine qz3 ?_)
    (refine qz0 ?_);(apply qza (hr));(· repeat (first|exact qz4|(refine qz2 ?_ ?_;(· exact qzd))))
    repeat (first|(refine qz0 ?_;(first|(refine m_mov (by conv => lhs; whnf) ?_)|(apply qx8;(· rfl);(· rfl);(· rfl))|(refine m_ext rfl rfl ?_)|(refine qxb ?_)|(refine m_fa rfl ?_)|(refine qx9 rfl rfl rfl ?_ ?_ ?_ ?_;(· first|rfl|(simp [*]; done));(· first|rfl|(simp [*]; done));(· first|rfl|(simp [cellOk,Value.oneCell']; done)))))|refine qz1 ?_|refine qz3 ?_|refine qzj ?_|refine qzc ?_)
    exact qyh (qxa rfl) (qyb rfl)
theorem plB_lt {B : List UInt8} (h : GoodBd B) : ∀ p ∈ plB B,p.1 < 1000 ∧ p.2 < 1000 := by
  intro p hp
  have := mem_posP.1 hp
  have := qx5 h
  omega
theorem hasP_at (B : List UInt8) {i j : Nat} (hi : i < sdB B) (hj : j < sdB B) : hasP (plB B) (i : Nat) (j : Nat) = fbB B i j := by
  unfold plB
  rw [hasP_pos,decide_eq_true (by omega)]
  simp
end Go.Proofs.YtngfogpbljconaaGreatDoor
namespace Go.Proofs.YtngfogpbljconaaGreatDoor
variable [Go.Am.CodeBlk]
open Go.Am
attribute [local irreducible] AW Outs Weak Lends Lend Sp aops atree aop1 Then Round InBlock Done
def hitN (B : List UInt8) (L : List Int) : Nat → Int
  | 0 => 0
  | k + 1 => hitN B L k + if fbB B k (L.getD k 0).toNat then 1 else 0
theorem hitN_le (B : List UInt8) (L : List Int) (k : Nat) : 0 ≤ hitN B L k ∧ hitN B L k ≤ k := by
  induction k with
  | zero => simp [hitN]
  | succ k ih => simp only [hitN]; split <;> omega
theorem bdHits_spec (B : List UInt8) (L : List Int) (h : Asked B L) (_hB : B.length ≤ 1048576) : Sp Tryz.prog 43 [str B,ints L] (.i (hitN B L L.length)) := by
  have hsd := qx5 h.1
  have hl := h.2.2
  refine qy7 Tryz.func43 rfl cc43 rfl ?_
  unfold ac43
  repeat (first|(refine qz0 ?_;(first|(refine m_mov (by conv => lhs; whnf) ?_)|(refine qy4 rfl ?_)))|refine qz1 ?_|refine qz3 ?_|refine qz6 ?_|refine qz8 ?_)
  refine qyf (α := Nat) (fun k => k ≤ L.length) (fun k => st [(0,str B),(5,.i (hitN B L k)),(8,ints L),(9,.i L.length),(10,.i k)] []) (fun k => L.length - k) 0 (Nat.zero_le _) (qz9 ?_ ?_ rfl rfl) ?_
  · (repeat' first|exact trivial|refine And.intro ?_ ?_)<;>first|rfl|skip
  · trivial
  intro k hk
  have hle := hitN_le B L k
  by_cases hc : k < L.length
  · obtain ⟨j,hj,hjn⟩ := asked_at h hc
    have hst : hitN B L (k + 1) = hitN B L k + if fbB B k j then 1 else 0 := by simp only [hitN,hj,Int.toNat_natCast]
    by_cases hf : fbB B k j = true
    · rw [hf,if_pos rfl] at hst
      repeat (first|(refine qz0 ?_;(first|(refine m_mov (by conv => lhs; whnf) ?_)|(refine m_lss rfl rfl ?_)|(refine qy6 rfl rfl ?_ ?_;(· omega))|(refine qyg rfl ?_ ?_;(· omega))))|refine qz1 ?_|refine qz3 ?_|(refine qzf rfl ?_ ?_;(· (refine decide_eq_true ?_; omega)))|refine qz5 ?_|refine qz6 ?_|refine qz8 ?_)
      rw [hj]
      skip
      (refine qz0 ?_);(apply qza (qu6 B h.1 k j (by omega) hjn));(· repeat (first|exact qz4|(refine qz2 ?_ ?_;(· exact qzd))))
      repeat (first|(refine qz0 ?_;(first|(refine m_mov (by conv => lhs; whnf) ?_)|(refine m_add rfl rfl ?_ ?_ ?_;(· omega);(· omega))))|refine qz1 ?_|refine qy5 ?_|(refine qzf rfl ?_ ?_;(· assumption))|refine qz7 ?_|refine qze ?_)
      refine qzb (k + 1) hc (qz9 ?_ ?_ rfl rfl) ?_
      · rw [hst]
        (repeat' first|exact trivial|refine And.intro ?_ ?_)<;>first|rfl|skip
      · trivial
      · omega
    · have hf : fbB B k j = false := by simpa using hf
      rw [hf,if_neg (by simp),Int.add_zero] at hst
      repeat (first|(refine qz0 ?_;(first|(refine m_mov (by conv => lhs; whnf) ?_)|(refine m_lss rfl rfl ?_)|(refine qy6 rfl rfl ?_ ?_;(· omega))|(refine qyg rfl ?_ ?_;(· omega))))|refine qz1 ?_|refine qz3 ?_|(refine qzf rfl ?_ ?_;(· (refine decide_eq_true ?_; omega)))|refine qz5 ?_|refine qz6 ?_|refine qz8 ?_)
      rw [hj]
      skip
      (refine qz0 ?_);(apply qza (qu6 B h.1 k j (by omega) hjn));(· repeat (first|exact qz4|(refine qz2 ?_ ?_;(· exact qzd))))
      repeat (first|(refine qz0 ?_;(first|(refine m_mov (by conv => lhs; whnf) ?_)|(refine m_add rfl rfl ?_ ?_ ?_;(· omega);(· omega))))|refine qz1 ?_|refine qy5 ?_|(refine qzi rfl ?_ ?_;(· assumption))|refine qz7 ?_|refine qze ?_|refine qx6 ?_)
      refine qzb (k + 1) hc (qz9 ?_ ?_ rfl rfl) ?_
      · rw [hst]
        (repeat' first|exact trivial|refine And.intro ?_ ?_)<;>first|rfl|skip
      · trivial
      · omega
  · obtain rfl : k = L.length := by omega
    repeat (first|(refine qz0 ?_;(first|(refine m_mov (by conv => lhs; whnf) ?_)|(refine m_lss rfl rfl ?_)))|refine qz1 ?_|refine qz3 ?_|(refine qzi rfl ?_ ?_;(· (refine decide_eq_false ?_; omega)))|refine qz6 ?_|refine qzj ?_|refine qzc ?_|refine qz7 ?_|refine qy1 ?_|refine qy0 ?_|refine qy9 ?_|refine qzg ?_)
    exact qxa rfl
def hitsR (B : List UInt8) (L : List Int) : AV := .tup [.i (if Asked B L then hitN B L L.length else 0),.b (decide (Asked B L))]
theorem specHitsOf_spec (B : List UInt8) (L : List Int) (hB : B.length ≤ 1048576) (hL : L.length ≤ 1048576) : Sp Tryz.prog 11 [str B,ints L] (hitsR B L) := by
  unfold hitsR
  refine qy7 Tryz.func11 rfl cc11 rfl ?_
  unfold ac11
  by_cases h : Asked B L
  · rw [if_pos h]
    repeat (first|(refine qz0 ?_;(refine m_mov (by conv => lhs; whnf) ?_))|refine qz1 ?_|refine qz3 ?_|refine qz6 ?_)
    (refine qz0 ?_);(apply qza (bdAsked_spec B L hB hL));(· repeat (first|exact qz4|(refine qz2 ?_ ?_;(· (first|exact qzd|(refine qy2 ?_; first|rfl|omega))))))
    repeat (first|(refine qz0 ?_;(first|(refine m_mov (by conv => lhs; whnf) ?_)|(refine m_not rfl ?_)))|refine qz1 ?_|refine qz3 ?_|(refine qzi rfl ?_ ?_;(· (refine nf ?_; assumption)))|refine qz5 ?_)
    (refine qz0 ?_);(apply qza (bdHits_spec B L h hB));(· repeat (first|exact qz4|(refine qz2 ?_ ?_;(· (first|exact qzd|(refine qy2 ?_; first|rfl|omega))))))
    repeat (first|(refine qz0 ?_;(refine m_mov (by conv => lhs; whnf) ?_))|refine qz1 ?_|refine qzj ?_|refine qzc ?_)
    exact qyh (qxa rfl) (qyb (decide_eq_true h).symm)
  · rw [if_neg h]
    repeat (first|(refine qz0 ?_;(refine m_mov (by conv => lhs; whnf) ?_))|refine qz1 ?_|refine qz3 ?_|refine qz6 ?_)
    (refine qz0 ?_);(apply qza (bdAsked_spec B L hB hL));(· repeat (first|exact qz4|(refine qz2 ?_ ?_;(· (first|exact qzd|(refine qy2 ?_; first|rfl|omega))))))
    repeat (first|(refine qz0 ?_;(first|(refine m_mov (by conv => lhs; whnf) ?_)|(refine m_not rfl ?_)))|refine qz1 ?_|refine qz3 ?_|(refine qzf rfl ?_ ?_;(· (refine nt ?_; assumption)))|refine qzj ?_|refine qzc ?_|refine qy8 ?_)
    exact qyh (qxa rfl) (qyb (decide_eq_false h).symm)
theorem implHitsOf_spec (B : List UInt8) (L : List Int) (hB : B.length ≤ 1048576) (hL : L.length ≤ 1048576) : Sp Tryz.prog 10 [str B,ints L] (hitsR B L) := by
  have hr := readBoardFor_spec B L hB hL
  unfold bdF at hr
  unfold hitsR
  refine qy7 Tryz.func10 rfl cc10 rfl ?_
  unfold ac10
  by_cases h : Asked B L
  · rw [if_pos h] at hr ⊢
    have hsd := qx5 h.1
    have hl := h.2.2
    have hlt := plB_lt h.1
    repeat (first|(refine qz0 ?_;(refine m_mov (by conv => lhs; whnf) ?_))|refine qz1 ?_|refine qz3 ?_)
    (refine qz0 ?_);(apply qza (hr));(· repeat (first|exact qz4|(refine qz2 ?_ ?_;(· (first|exact qzd|(refine qy2 ?_; first|rfl|omega))))))
    repeat (first|(refine qz0 ?_;(first|(refine m_mov (by conv => lhs; whnf) ?_)|(refine m_not rfl ?_)|(refine qy4 rfl ?_)|(refine m_ext rfl rfl ?_)|(refine qxb ?_)|(refine qx9 rfl rfl rfl ?_ ?_ ?_ ?_;(· first|rfl|(simp [*]; done));(· first|rfl|(simp [*]; done));(· first|rfl|(simp [cellOk,Value.oneCell']; done)))))|refine qz1 ?_|refine qz3 ?_|(refine qzi rfl ?_ ?_;(· (refine nf ?_; assumption)))|refine qz5 ?_|refine qz6 ?_|refine qz8 ?_)
    refine qyf (α := Nat) (fun k => k ≤ L.length) (fun k => st [(6,.pt 6 0),(8,.i (hitN B L k)),(19,ints L),(20,.i L.length),(21,.i k)] [(6,(true,[.i (sdB B : Nat),.rmp true (mkEs (plB B)) (plB B).length]))]) (fun k => L.length - k) 0 (Nat.zero_le _) (qz9 ?_ ?_ rfl rfl) ?_
    · (repeat' first|exact trivial|refine And.intro ?_ ?_)<;>first|rfl|skip
    · (repeat' first|exact trivial|refine And.intro ?_ ?_)<;>first|rfl|skip
    intro k hk
    have hle := hitN_le B L k
    by_cases hc : k < L.length
    · obtain ⟨j,hj,hjn⟩ := asked_at h hc
      have hst : hitN B L (k + 1) = hitN B L k + if fbB B k j then 1 else 0 := by simp only [hitN,hj,Int.toNat_natCast]
      have hat := hasP_at B (i := k) (j := j) (by omega) hjn
      by_cases hf : fbB B k j = true
      · rw [hf,if_pos rfl] at hst
        repeat (first|(refine qz0 ?_;(first|(refine m_mov (by conv => lhs; whnf) ?_)|(refine m_lss rfl rfl ?_)|(refine qy6 rfl rfl ?_ ?_;(· omega))|(refine qyg rfl ?_ ?_;(· omega))|(apply qx8;(· rfl);(· rfl);(· rfl))|(refine m_fa rfl ?_)|(refine m_bld_2 (by conv => lhs; whnf) (by conv => lhs; whnf) (by decide)  (by decide) (by rfl) (by rfl) ?_)))|refine qz1 ?_|refine qz3 ?_|(refine qzf rfl ?_ ?_;(· (refine decide_eq_true ?_; omega)))|refine qz5 ?_|refine qz6 ?_|refine qz8 ?_)
        rw [hj]
        skip
        refine qz0 ?_
        refine m_place (a := (k : Nat)) (b := (j : Nat)) hlt (.inr ⟨true,rfl⟩) rfl (by omega) (by omega) ?_
        rw [hat]
        repeat (first|(refine qz0 ?_;(first|(refine m_mov (by conv => lhs; whnf) ?_)|(refine m_add rfl rfl ?_ ?_ ?_;(· omega);(· omega))))|refine qz1 ?_|refine qy5 ?_|(refine qzf rfl ?_ ?_;(· assumption))|refine qz7 ?_|refine qze ?_)
        refine qzb (k + 1) hc (qz9 ?_ ?_ rfl rfl) ?_
        · rw [hst]
          (repeat' first|exact trivial|refine And.intro ?_ ?_)<;>first|rfl|skip
        · (repeat' first|exact trivial|refine And.intro ?_ ?_)<;>first|rfl|skip
        · omega
      · have hf : fbB B k j = false := by simpa using hf
        rw [hf,if_neg (by simp),Int.add_zero] at hst
        repeat (first|(refine qz0 ?_;(first|(refine m_mov (by conv => lhs; whnf) ?_)|(refine m_lss rfl rfl ?_)|(refine qy6 rfl rfl ?_ ?_;(· omega))|(refine qyg rfl ?_ ?_;(· omega))|(apply qx8;(· rfl);(· rfl);(· rfl))|(refine m_fa rfl ?_)|(refine m_bld_2 (by conv => lhs; whnf) (by conv => lhs; whnf) (by decide)  (by decide) (by rfl) (by rfl) ?_)))|refine qz1 ?_|refine qz3 ?_|(refine qzf rfl ?_ ?_;(· (refine decide_eq_true ?_; omega)))|refine qz5 ?_|refine qz6 ?_|refine qz8 ?_)
        rw [hj]
        skip
        refine qz0 ?_
        refine m_place (a := (k : Nat)) (b := (j : Nat)) hlt (.inr ⟨true,rfl⟩) rfl (by omega) (by omega) ?_
        rw [hat]
        repeat (first|(refine qz0 ?_;(first|(refine m_mov (by conv => lhs; whnf) ?_)|(refine m_add rfl rfl ?_ ?_ ?_;(· omega);(· omega))))|refine qz1 ?_|refine qy5 ?_|(refine qzi rfl ?_ ?_;(· assumption))|refine qz7 ?_|refine qze ?_|refine qx6 ?_)
        refine qzb (k + 1) hc (qz9 ?_ ?_ rfl rfl) ?_
        · rw [hst]
          (repeat' first|exact trivial|refine And.intro ?_ ?_)<;>first|rfl|skip
        · (repeat' first|exact trivial|refine And.intro ?_ ?_)<;>first|rfl|skip
        · omega
    · obtain rfl : k = L.length := by omega
      repeat (first|(refine qz0 ?_;(first|(refine m_mov (by conv => lhs; whnf) ?_)|(refine m_lss rfl rfl ?_)))|refine qz1 ?_|refine qz3 ?_|(refine qzi rfl ?_ ?_;(· (refine decide_eq_false ?_; omega)))|refine qz6 ?_|refine qzj ?_|refine qzc ?_|refine qz7 ?_|refine qy1 ?_|refine qy0 ?_|refine qy9 ?_|refine qzg ?_)
      exact qyh (qxa rfl) (qyb (decide_eq_true h).symm)
  · rw [if_neg h] at hr ⊢
    repeat (first|(refine qz0 ?_;(refine m_mov (by conv => lhs; whnf) ?_))|refine qz1 ?_|refine qz3 ?_)
    (refine qz0 ?_);(apply qza (hr));(· repeat (first|exact qz4|(refine qz2 ?_ ?_;(· (first|exact qzd|(refine qy2 ?_; first|rfl|omega))))))
    repeat (first|(refine qz0 ?_;(first|(refine m_mov (by conv => lhs; whnf) ?_)|(refine m_not rfl ?_)|(refine m_ext rfl rfl ?_)|(refine qxb ?_)|(refine qx9 rfl rfl rfl ?_ ?_ ?_ ?_;(· first|rfl|(simp [*]; done));(· first|rfl|(simp [*]; done));(· first|rfl|(simp [cellOk,Value.oneCell']; done)))))|refine qz1 ?_|refine qz3 ?_|(refine qzf rfl ?_ ?_;(· (refine nt ?_; assumption)))|refine qz6 ?_|refine qzj ?_|refine qzc ?_|refine qy8 ?_)
    exact qyh (qxa rfl) (qyb (decide_eq_false h).symm)
def allowR (B : List UInt8) (L : List Int) : AV := .tup [.b (if Asked B L then decide (hitN B L L.length = 0) else false),.b (decide (Asked B L))]
theorem specIsAllowed_spec (B : List UInt8) (L : List Int) (hB : B.length ≤ 1048576) (hL : L.length ≤ 1048576) : Sp Tryz.prog 9 [str B,ints L] (allowR B L) := by
  unfold allowR
  refine qy7 Tryz.func9 rfl cc9 rfl ?_
  unfold ac9
  by_cases h : Asked B L
  · rw [if_pos h]
    repeat (first|(refine qz0 ?_;(refine m_mov (by conv => lhs; whnf) ?_))|refine qz1 ?_|refine qz3 ?_|refine qz6 ?_)
    (refine qz0 ?_);(apply qza (bdAsked_spec B L hB hL));(· repeat (first|exact qz4|(refine qz2 ?_ ?_;(· (first|exact qzd|(refine qy2 ?_; first|rfl|omega))))))
    repeat (first|(refine qz0 ?_;(first|(refine m_mov (by conv => lhs; whnf) ?_)|(refine m_not rfl ?_)))|refine qz1 ?_|refine qz3 ?_|(refine qzi rfl ?_ ?_;(· (refine nf ?_; assumption)))|refine qz5 ?_)
    (refine qz0 ?_);(apply qza (bdHits_spec B L h hB));(· repeat (first|exact qz4|(refine qz2 ?_ ?_;(· (first|exact qzd|(refine qy2 ?_; first|rfl|omega))))))
    repeat (first|(refine qz0 ?_;(first|(refine m_mov (by conv => lhs; whnf) ?_)|(refine m_eql rfl rfl ?_)))|refine qz1 ?_|refine qzj ?_|refine qzc ?_)
    exact qyh (qyb rfl) (qyb (decide_eq_true h).symm)
  · rw [if_neg h]
    repeat (first|(refine qz0 ?_;(refine m_mov (by conv => lhs; whnf) ?_))|refine qz1 ?_|refine qz3 ?_|refine qz6 ?_)
    (refine qz0 ?_);(apply qza (bdAsked_spec B L hB hL));(· repeat (first|exact qz4|(refine qz2 ?_ ?_;(· (first|exact qzd|(refine qy2 ?_; first|rfl|omega))))))
    repeat (first|(refine qz0 ?_;(first|(refine m_mov (by conv => lhs; whnf) ?_)|(refine m_not rfl ?_)))|refine qz1 ?_|refine qz3 ?_|(refine qzf rfl ?_ ?_;(· (refine nt ?_; assumption)))|refine qzj ?_|refine qzc ?_|refine qy8 ?_)
    exact qyh (qyb rfl) (qyb (decide_eq_false h).symm)
theorem implIsAllowed_spec (B : List UInt8) (L : List Int) (hB : B.length ≤ 1048576) (hL : L.length ≤ 1048576) : Sp Tryz.prog 8 [str B,ints L] (allowR B L) := by
  have hr := implHitsOf_spec B L hB hL
  unfold hitsR at hr
  unfold allowR
  refine qy7 Tryz.func8 rfl cc8 rfl ?_
  unfold ac8
  by_cases h : Asked B L
  · rw [if_pos h] at hr ⊢
    repeat (first|(refine qz0 ?_;(refine m_mov (by conv => lhs; whnf) ?_))|refine qz1 ?_|refine qz3 ?_)
    (refine qz0 ?_);(apply qza (hr));(· repeat (first|exact qz4|(refine qz2 ?_ ?_;(· (first|exact qzd|(refine qy2 ?_; first|rfl|omega))))))
    repeat (first|(refine qz0 ?_;((try (refine g_yes rfl ?_ ?_;(· (refine decide_eq_true ?_; assumption))));(first|(refine m_mov (by conv => lhs; whnf) ?_)|(refine m_eql rfl rfl ?_)|(refine qye rfl ?_ (by conv => lhs; whnf) ?_;(· (refine decide_eq_true ?_; assumption)))|(refine m_ext rfl rfl ?_))))|refine qz1 ?_|refine qz3 ?_|refine qzj ?_|refine qzc ?_)
    exact qyh (qyb rfl) (qyb rfl)
  · rw [if_neg h] at hr ⊢
    repeat (first|(refine qz0 ?_;(refine m_mov (by conv => lhs; whnf) ?_))|refine qz1 ?_|refine qz3 ?_)
    (refine qz0 ?_);(apply qza (hr));(· repeat (first|exact qz4|(refine qz2 ?_ ?_;(· (first|exact qzd|(refine qy2 ?_; first|rfl|omega))))))
    repeat (first|(refine qz0 ?_;(first|(first|(refine m_mov (by conv => lhs; whnf) ?_)|(refine qy3 rfl ?_ (by conv => lhs; whnf) ?_;(· (refine decide_eq_false ?_; assumption)))|(refine m_ext rfl rfl ?_))|(refine g_noT rfl ?_ ?_;(· (refine decide_eq_false ?_; assumption)))))|refine qz1 ?_|refine qz3 ?_|refine qzj ?_|refine qzc ?_)
    exact qyh (qyb rfl) (qyb rfl)
end Go.Proofs.YtngfogpbljconaaGreatDoor
namespace Go.Am
variable [Go.Am.CodeBlk]
theorem comesB_asymm : ∀ a b : List Int,comesB a b = true → comesB b a = false
  | [],_,h => by simp [comesB] at h
  | _ :: _,[],h => by simp [comesB] at h
  | a :: l,b :: m,h => by
    simp only [comesB] at h ⊢
    by_cases e : a = b
    · subst e
      simp only [if_true] at h ⊢
      exact comesB_asymm l m h
    · rw [if_neg e] at h
      rw [if_neg fun hh => e hh.symm]
      have := of_decide_eq_true h
      exact decide_eq_false (by omega)
theorem goOn_sorted (fits : List Int → Nat → Bool) (n : Nat) : ∀ (k : Nat) (l : List Int),(goOn fits n k l).Pairwise fun a b => comesB a b = true
  | 0,l => by simp [goOn]
  | k + 1,l => by
    rw [goOn,List.pairwise_flatMap]
    refine ⟨fun x _ => goOn_sorted fits n k _,?_⟩
    refine List.Pairwise.filter _ (List.Pairwise.imp ?_ List.pairwise_lt_range)
    intro a b hab x hx y hy
    obtain ⟨r,rfl,_⟩ := goOn_shape fits n _ _ _ hx
    obtain ⟨t,rfl,_⟩ := goOn_shape fits n _ _ _ hy
    rw [List.append_assoc,List.append_assoc,comesB_append]
    have h1 : ¬ (a : Int) = (b : Int) := by omega
    simp only [List.singleton_append,comesB,if_neg h1]
    exact decide_eq_true (by omega)
theorem find_sorted {A : List (List Int)} (h : A.Pairwise fun a b => comesB a b = true) {j : Nat} (hj : j < A.length) : A.find? (fun m => comesB (A.getD j []) m) = A[j + 1]? := by
  have hs : A = A.take (j + 1) ++ A.drop (j + 1) := (List.take_append_drop _ _).symm
  have hg : A.getD j [] = A[j] := by simp [hj]
  have hpw := List.pairwise_iff_getElem.1 h
  have h1 : (A.take (j + 1)).find? (fun m => comesB (A.getD j []) m) = none := by
    rw [List.find?_eq_none]
    intro m hm
    obtain ⟨i,hi,rfl⟩ := List.mem_iff_getElem.1 hm
    rw [List.length_take] at hi
    rw [List.getElem_take,hg]
    by_cases e : i = j
    · subst e; rw [comesB_self]; simp
    · rw [comesB_asymm _ _ (hpw i j (by omega) hj (by omega))]; simp
  have h2 : (A.drop (j + 1)).find? (fun m => comesB (A.getD j []) m) = A[j + 1]? := by
    by_cases e : j + 1 < A.length
    · rw [List.drop_eq_getElem_cons e,List.find?_cons_of_pos (by rw [hg]; exact hpw j (j + 1) hj e (by omega))]
      simp [e]
    · rw [List.drop_eq_nil_of_le (by omega),List.getElem?_eq_none (by omega)]; rfl
  generalize A.getD j [] = B at h1 h2 ⊢
  have h3 : (A.take (j + 1) ++ A.drop (j + 1)).find? (fun m => comesB B m) = A[j + 1]? := by rw [List.find?_append,h1,Option.none_or,h2]
  rw [← hs] at h3
  exact h3
def setI (l : List Int) : Nat := l.foldl (fun T x => insC T x.toNat) 0
theorem setI_snoc (l : List Int) (x : Nat) : setI (l ++ [(x : Int)]) = insC (setI l) x := by
  unfold setI
  rw [List.foldl_append]
  rfl
theorem foldI_bit (i : Nat) : ∀ (l : List Int) (T : Nat),(∀ x ∈ l,0 ≤ x) → (l.foldl (fun T x => insC T x.toNat) T).testBit i = (T.testBit i || decide ((i : Int) ∈ l))
  | [],T,_ => by simp
  | x :: l,T,h => by
    have hx := h x (by simp)
    obtain ⟨y,rfl⟩ := Int.eq_ofNat_of_zero_le hx
    rw [List.foldl_cons,foldI_bit i l _ fun z hz => h z (by simp [hz]),qu1,Int.toNat_natCast]
    have e : decide ((i : Int) ∈ ((y : Int) :: l)) = (decide (y = i) || decide ((i : Int) ∈ l)) := by
      rw [Bool.eq_iff_iff]
      simp only [decide_eq_true_eq,List.mem_cons,Bool.or_eq_true]
      have : ((i : Int) = (y : Int)) ↔ y = i := by omega
      rw [this]
    rw [e,Bool.or_assoc]
theorem setI_bit (i : Nat) {l : List Int} (h : ∀ x ∈ l,0 ≤ x) : (setI l).testBit i = decide ((i : Int) ∈ l) := by
  unfold setI
  rw [foldI_bit i l 0 h]
  simp
theorem goA_len {fb : Nat → Nat → Bool} {fits : List Int → Nat → Bool} {n : Nat} (hf : ∀ l x,fits l x = (!fb l.length x && !decide ((x : Int) ∈ l))) : ∀ (u : Nat) (l : List Int),(∀ x ∈ l,0 ≤ x) → l.length + u = n → (goOn fits n u l).length = hitW fb n u (setI l) 0
  | 0,l,_,_ => rfl
  | u + 1,l,h,hl => by
    have key : ∀ x,x ≤ n → (((List.range x).filter fun x => fits l x).flatMap fun (x : Nat) => goOn fits n u (l ++ [(x : Int)])).length = sumN x fun j => if (setI l).testBit j then 0 else if fb (n - (u + 1)) j then 0 else hitW fb n u (insC (setI l) j) 0 := by
      intro x
      induction x with
      | zero => intro _; rfl
      | succ x ih =>
        intro hx
        rw [List.range_succ,List.filter_append,List.flatMap_append,List.length_append,ih (by omega),sumN]
        congr 1
        rw [show n - (u + 1) = l.length by omega,setI_bit x h]
        have hfx := hf l x
        cases h1 : fb l.length x
        · by_cases h2 : (x : Int) ∈ l
          · rw [h1,decide_eq_true h2] at hfx
            rw [List.filter_cons_of_neg (by rw [hfx]; decide)]
            simp [h2]
          · rw [h1,decide_eq_false h2] at hfx
            rw [List.filter_cons_of_pos (by rw [hfx]; decide)]
            simp only [List.filter_nil,List.flatMap_cons,List.flatMap_nil,List.append_nil,h2,decide_false,Bool.false_eq_true,if_false]
            rw [goA_len hf u (l ++ [(x : Int)]) (fun y hy => ?_) (by simp; omega),setI_snoc]
            rw [List.mem_append,List.mem_singleton] at hy
            rcases hy with hy|rfl
            · exact h y hy
            · omega
        · rw [h1] at hfx
          rw [List.filter_cons_of_neg (by rw [hfx]; simp)]
          simp
    rw [goOn,key n (Nat.le_refl _)]
    rfl
theorem goOn_fits (fits : List Int → Nat → Bool) (n : Nat) : ∀ k l x,x ∈ goOn fits n k l → ∀ i,i < k → ∃ y : Nat,y < n ∧ x.getD (l.length + i) 0 = y ∧ fits (x.take (l.length + i)) y = true
  | 0,_,_,_,i,hi => by omega
  | k + 1,l,x,h,i,hi => by
    simp only [goOn,List.mem_flatMap] at h
    obtain ⟨y,hy,hx⟩ := h
    rw [List.mem_filter,List.mem_range] at hy
    have hlen : (l ++ [(y : Int)]).length = l.length + 1 := by simp
    cases i with
    | zero =>
      obtain ⟨m,rfl,hm⟩ := goOn_shape fits n k _ _ hx
      refine ⟨y,hy.1,?_,?_⟩
      · simp [List.getD_eq_getElem?_getD]
      · rw [Nat.add_zero,List.append_assoc,List.take_left]
        exact hy.2
    | succ i =>
      obtain ⟨z,h1,h2,h3⟩ := goOn_fits fits n k (l ++ [(y : Int)]) x hx i (by omega)
      rw [hlen,show l.length + 1 + i = l.length + (i + 1) by omega] at h2 h3
      exact ⟨z,h1,h2,h3⟩
theorem nodup_take {x : List Int} (h : ∀ i,i < x.length → x.getD i 0 ∉ x.take i) : x.Nodup := by
  have key : ∀ k,k ≤ x.length → (x.take k).Nodup := by
    intro k
    induction k with
    | zero => intro _; simp
    | succ k ih =>
      intro hk
      have e : x.take (k + 1) = x.take k ++ [x.getD k 0] := by
        rw [List.take_succ_eq_append_getElem (show k < x.length by omega)]
        simp [show k < x.length by omega]
      rw [e,List.nodup_append]
      refine ⟨ih (by omega),by simp,fun a ha b hb hab => ?_⟩
      rw [List.mem_singleton] at hb
      subst hb; subst hab
      exact h k (by omega) ha
  have := key x.length (Nat.le_refl _)
  rwa [List.take_length] at this
end Go.Am
namespace Go.Proofs.YtngfogpbljconaaGreatDoor
variable [Go.Am.CodeBlk]
open Go.Am
def allB (B : List UInt8) : List (List Int) := goOn (fitsA B) (sdB B) (sdB B) []
theorem allB_len (B : List UInt8) : (allB B).length = hitX (fbB B) (sdB B) 0 := goA_len (fun _ _ => rfl) (sdB B) [] (by simp) (by simp)
theorem hitN_zero (B : List UInt8) (L : List Int) : ∀ k,hitN B L k = 0 ↔ ∀ i,i < k → fbB B i (L.getD i 0).toNat = false
  | 0 => by simp [hitN]
  | k + 1 => by
    have hb := hitN_le B L k
    have ih := hitN_zero B L k
    simp only [hitN]
    cases hf : fbB B k (L.getD k 0).toNat
    · simp only [Bool.false_eq_true,if_false,Int.add_zero]
      rw [ih]
      exact ⟨fun h i hi => by rcases Nat.lt_or_ge i k with c|c; exact h i c; rw [show i = k by omega]; exact hf,fun h i hi => h i (by omega)⟩
    · simp only [if_true]
      exact ⟨fun h => by omega,fun h => by rw [h k (by omega)] at hf; cases hf⟩
theorem allB_mem {B : List UInt8} (hg : GoodBd B) {m : List Int} (h : m ∈ allB B) : Asked B m ∧ hitN B m m.length = 0 := by
  have hsd := qx5 hg
  have hl := goOn_len h
  simp only [List.length_nil,Nat.zero_add] at hl
  have hi : ∀ i,i < sdB B → ∃ y : Nat,y < sdB B ∧ m.getD i 0 = y ∧ fbB B i y = false ∧ (y : Int) ∉ m.take i := fun i hi => by
    obtain ⟨y,h1,h2,h3⟩ := goOn_fits _ _ _ _ _ h i hi
    simp only [List.length_nil,Nat.zero_add] at h2 h3
    unfold fitsA at h3
    simp only [Bool.and_eq_true,Bool.not_eq_true',decide_eq_false_iff_not] at h3
    have ht : (m.take i).length = i := by rw [List.length_take]; omega
    rw [ht] at h3
    exact ⟨y,h1,h2,h3.1,h3.2⟩
  refine ⟨⟨hg,⟨by omega,by omega,fun x hx => ?_,nodup_take fun i hi2 => ?_⟩,hl⟩,(hitN_zero B m m.length).2 fun i hi2 => ?_⟩
  · obtain ⟨i,hi2,rfl⟩ := List.mem_iff_getElem.1 hx
    obtain ⟨y,h1,h2,_,_⟩ := hi i (by omega)
    have : m.getD i 0 = m[i] := by simp [hi2]
    omega
  · obtain ⟨y,h1,h2,_,h4⟩ := hi i (by omega)
    rw [h2]; exact h4
  · obtain ⟨y,h1,h2,h3,_⟩ := hi i (by omega)
    rw [h2,Int.toNat_natCast]; exact h3
theorem allB_in {B : List UInt8} {L : List Int} (h : Asked B L) (h0 : hitN B L L.length = 0) : L ∈ allB B := by
  have hz := (hitN_zero B L L.length).1 h0
  have hl := h.2.2
  have key : ∀ u k,k + u = sdB B → L ∈ goOn (fitsA B) (sdB B) u (L.take k) := by
    intro u
    induction u with
    | zero =>
      intro k hk
      rw [List.take_of_length_le (by omega)]
      simp [goOn]
    | succ u ih =>
      intro k hk
      obtain ⟨j,hj,hjs⟩ := asked_at h (show k < L.length by omega)
      rw [goOn,List.mem_flatMap]
      have e : L.take (k + 1) = L.take k ++ [(j : Int)] := by
        rw [List.take_succ_eq_append_getElem (show k < L.length by omega),← hj]
        simp [show k < L.length by omega]
      refine ⟨j,List.mem_filter.2 ⟨List.mem_range.2 hjs,?_⟩,by rw [← e]; exact ih (k + 1) (by omega)⟩
      unfold fitsA
      have ht : (L.take k).length = k := by rw [List.length_take]; omega
      have hzk := hz k (by omega)
      rw [hj,Int.toNat_natCast] at hzk
      rw [ht,hzk]
      simp only [Bool.not_false,Bool.true_and,Bool.not_eq_true',decide_eq_false_iff_not]
      intro hm
      have hnd := h.2.1.2.2.2
      have : (L.take (k + 1)).Nodup := hnd.sublist (List.take_sublist _ _)
      rw [e,List.nodup_append] at this
      exact this.2.2 _ hm _ (by simp) rfl
  exact key (sdB B) 0 (by omega)
theorem allB_next {B : List UInt8} (hg : GoodBd B) {k : Nat} (hk : k < (allB B).length) : nextA B ((allB B).getD k []) = (allB B)[k + 1]? := by
  have hm : (allB B).getD k [] ∈ allB B := by simp [hk]
  have ha := (allB_mem hg hm).1
  unfold nextA
  rw [if_pos ha]
  exact find_sorted (goOn_sorted _ _ _ _) hk
theorem allB_first {B : List UInt8} (hg : GoodBd B) : frstA B = (allB B)[0]? := by
  unfold frstA
  rw [if_pos hg]
  show (allB B).head? = _
  rw [List.head?_eq_getElem?]
theorem allB_least {B : List UInt8} {m : List Int} (h : m ∈ allB B) : comesB m ((allB B).getD 0 []) = false := by
  have hs : (allB B).Pairwise fun a b => comesB a b = true := goOn_sorted _ _ _ _
  obtain ⟨i,hi,rfl⟩ := List.mem_iff_getElem.1 h
  have e : (allB B).getD 0 [] = (allB B)[0] := by simp [show 0 < (allB B).length by omega]
  rw [e]
  rcases Nat.eq_zero_or_pos i with rfl|hp
  · exact comesB_self _
  · exact comesB_asymm _ _ ((List.pairwise_iff_getElem.1 hs) 0 i (by omega) hi hp)
end Go.Proofs.YtngfogpbljconaaGreatDoor
namespace Go.Am
variable [Go.Am.CodeBlk]
def cntB (p : Nat → Bool) : Nat → Nat
  | 0 => 0
  | n + 1 => cntB p n + if p n then 1 else 0
theorem qwj {p q : Nat → Bool} : ∀ {n},(∀ i,i < n → p i = q i) → cntB p n = cntB q n
  | 0,_ => rfl
  | n + 1,h => by simp only [cntB]; rw [qwj fun i hi => h i (by omega),h n (by omega)]
theorem qv0 {p q : Nat → Bool} : ∀ {n},(∀ i,i < n → p i = true → q i = true) → cntB p n ≤ cntB q n
  | 0,_ => Nat.le_refl _
  | n + 1,h => by
    have ih := qv0 (n := n) fun i hi => h i (by omega)
    have hn := h n (by omega)
    simp only [cntB]
    cases e : p n
    · simp; omega
    · rw [hn e]; simp; omega
theorem cntB_both (p q : Nat → Bool) : ∀ n,cntB (fun i => p i || q i) n + cntB (fun i => p i && q i) n = cntB p n + cntB q n
  | 0 => rfl
  | n + 1 => by
    have := cntB_both p q n
    simp only [cntB]
    by_cases hp : p n = true <;> by_cases hq : q n = true <;> simp [hp,hq] <;> omega
theorem cntB_zero : ∀ n,cntB (fun _ => false) n = 0
  | 0 => rfl
  | n + 1 => by simp only [cntB,cntB_zero n]; rfl
theorem cntB_le (p : Nat → Bool) : ∀ n,cntB p n ≤ n
  | 0 => Nat.le_refl _
  | n + 1 => by have := cntB_le p n; simp only [cntB]; split <;> omega
def withB (p : Nat → Bool) (j : Nat) : Nat → Bool := fun i => p i || decide (i = j)
theorem cntB_with {p : Nat → Bool} {j : Nat} (hp : p j = false) : ∀ {n},j < n → cntB (withB p j) n = cntB p n + 1
  | 0,h => by omega
  | n + 1,h => by
    simp only [cntB]
    by_cases e : j = n
    · subst e
      rw [qwj (q := p) fun i hi => by simp [withB,show ¬ i = j by omega]]
      simp [withB,hp]
    · rw [cntB_with hp (show j < n by omega)]
      simp only [withB,show ¬ n = j from fun h => e h.symm,decide_false,Bool.or_false]
      omega
theorem cntB_more {p q : Nat → Bool} : ∀ {n},cntB p n < cntB q n → ∃ i,i < n ∧ q i = true ∧ p i = false
  | 0,h => by simp [cntB] at h
  | n + 1,h => by
    by_cases e : q n = true ∧ p n = false
    · exact ⟨n,by omega,e⟩
    · have : cntB p n < cntB q n := by
        simp only [cntB] at h
        cases hq : q n <;> cases hp : p n <;> simp [hq,hp] at h e <;> omega
      obtain ⟨i,h1,h2⟩ := cntB_more this
      exact ⟨i,by omega,h2⟩
theorem cntB_all {p q : Nat → Bool} {n : Nat} (h : ∀ i,i < n → p i = true → q i = true) (hc : cntB q n ≤ cntB p n) : ∀ i,i < n → q i = true → p i = true := by
  intro i hi hq
  cases hp : p i with
  | true => rfl
  | false =>
    have h1 := cntB_with hp hi
    have h2 := qv0 (p := withB p i) (q := q) (n := n) fun k hk hw => by
      simp only [withB,Bool.or_eq_true,decide_eq_true_eq] at hw
      rcases hw with hw|hw
      · exact h k hk hw
      · subst hw; exact hq
    omega
def nbB (fb : Nat → Nat → Bool) (n S : Nat) (T : Nat → Bool) : Nat → Bool := fun j => (List.range n).any (fun i => T i && fb i j) && !S.testBit j
theorem nbB_iff {fb : Nat → Nat → Bool} {n S : Nat} {T : Nat → Bool} {j : Nat} : nbB fb n S T j = true ↔ (∃ i,i < n ∧ T i = true ∧ fb i j = true) ∧ S.testBit j = false := by
  simp only [nbB,Bool.and_eq_true,List.any_eq_true,List.mem_range,Bool.not_eq_true']
def hallB (fb : Nat → Nat → Bool) (n m S k : Nat) : Prop := ∀ T : Nat → Bool,(∀ i,T i = true → n - m ≤ i ∧ i < n) → k + cntB T n ≤ m + cntB (nbB fb n S T) n
theorem sumN_pos {f : Nat → Nat} : ∀ {n},0 < sumN n f ↔ ∃ j,j < n ∧ 0 < f j
  | 0 => by simp [sumN]
  | n + 1 => by
    have ih := sumN_pos (f := f) (n := n)
    simp only [sumN]
    constructor
    · intro h
      by_cases e : 0 < f n
      · exact ⟨n,by omega,e⟩
      · obtain ⟨j,h1,h2⟩ := ih.1 (by omega)
        exact ⟨j,by omega,h2⟩
    · rintro ⟨j,h1,h2⟩
      by_cases e : j = n
      · subst e; omega
      · have := ih.2 ⟨j,by omega,h2⟩
        omega
theorem exists_most {P : Nat → Prop} (b : Nat) : (∃ x,P x ∧ x ≤ b) → ∃ x,(P x ∧ x ≤ b) ∧ ∀ y,P y → y ≤ b → y ≤ x := by
  induction b with
  | zero => rintro ⟨x,hx,h⟩; exact ⟨x,⟨hx,h⟩,fun y _ hy => by omega⟩
  | succ b ih =>
    rintro ⟨x,hx,h⟩
    by_cases e : P (b + 1)
    · exact ⟨b + 1,⟨e,Nat.le_refl _⟩,fun y _ hy => hy⟩
    · have hxb : x ≤ b := by
        rcases Nat.lt_or_ge b x with h2|h2
        · exact absurd (show P (b + 1) by rw [← show x = b + 1 by omega]; exact hx) e
        · exact h2
      obtain ⟨z,⟨h1,h2⟩,h3⟩ := ih ⟨x,hx,hxb⟩
      refine ⟨z,⟨h1,by omega⟩,fun y hy hyb => ?_⟩
      rcases Nat.lt_or_ge b y with h4|h4
      · exact absurd (show P (b + 1) by rw [← show y = b + 1 by omega]; exact hy) e
      · exact h3 y hy h4
theorem hall_zero (fb : Nat → Nat → Bool) (n S k : Nat) : 0 < rkG fb n 0 S k ↔ hallB fb n 0 S k := by
  simp only [rkG]
  constructor
  · intro h T hT
    have : k = 0 := by
      by_cases e : k = 0
      · exact e
      · rw [if_neg e] at h; omega
    have h0 : cntB T n = 0 := by
      rw [← cntB_zero n]
      refine qwj fun i hi => ?_
      cases e : T i
      · rfl
      · have := hT i e; omega
    omega
  · intro h
    have := h (fun _ => false) (fun i hi => by cases hi)
    have h2 : cntB (nbB fb n S fun _ => false) n = 0 := by
      rw [← cntB_zero n]
      refine qwj fun i _ => ?_
      simp [nbB]
    rw [if_pos (by omega)]; omega
theorem cntB_from (a : Nat) : ∀ n,cntB (fun i => decide (a ≤ i)) n = n - a
  | 0 => by simp [cntB]
  | n + 1 => by
    simp only [cntB,cntB_from a n]
    by_cases h : a ≤ n
    · rw [if_pos (by simp [h])]; omega
    · rw [if_neg (by simp [h])]; omega
theorem cntB_last {T : Nat → Bool} {n m : Nat} (hm : m ≤ n) (hT : ∀ i,T i = true → n - m ≤ i ∧ i < n) : cntB T n ≤ m := by
  have h1 := qv0 (p := T) (q := fun i => decide (n - m ≤ i)) (n := n) fun i _ h => decide_eq_true (hT i h).1
  rw [cntB_from] at h1
  omega
theorem nbB_mono {fb : Nat → Nat → Bool} {n S : Nat} {T U : Nat → Bool} (h : ∀ i,i < n → T i = true → U i = true) : ∀ j,j < n → nbB fb n S T j = true → nbB fb n S U j = true := by
  intro j _ hj
  rw [nbB_iff] at hj ⊢
  obtain ⟨⟨i,h1,h2,h3⟩,h4⟩ := hj
  exact ⟨⟨i,h1,h i h1 h2,h3⟩,h4⟩
theorem nbB_ins {fb : Nat → Nat → Bool} {n S j : Nat} {T : Nat → Bool} {c : Nat} : nbB fb n (insC S j) T c = true ↔ nbB fb n S T c = true ∧ c ≠ j := by
  rw [nbB_iff,nbB_iff,qu1,Bool.or_eq_false_iff,decide_eq_false_iff_not]
  constructor
  · rintro ⟨h1,h2,h3⟩; exact ⟨⟨h1,h2⟩,fun h => h3 h.symm⟩
  · rintro ⟨⟨h1,h2⟩,h3⟩; exact ⟨h1,h2,fun h => h3 h.symm⟩
theorem rkG_step (fb : Nat → Nat → Bool) (n m S k : Nat) : 0 < rkG fb n (m + 1) S k ↔ 0 < rkG fb n m S k ∨ ∃ j q,j < n ∧ fb (n - (m + 1)) j = true ∧ S.testBit j = false ∧ k = q + 1 ∧ 0 < rkG fb n m (insC S j) q := by
  have e : rkG fb n (m + 1) S k = rkG fb n m S k + sumN n fun j => if fb (n - (m + 1)) j && !S.testBit j then (match k with|0 => 0|q + 1 => rkG fb n m (insC S j) q) else 0 := rfl
  rw [e]
  constructor
  · intro h
    by_cases h0 : 0 < rkG fb n m S k
    · exact .inl h0
    · rw [Nat.eq_zero_of_not_pos h0,Nat.zero_add] at h
      obtain ⟨j,h1,h2⟩ := sumN_pos.1 h
      by_cases hc : (fb (n - (m + 1)) j && !S.testBit j) = true
      · rw [if_pos hc] at h2
        rw [Bool.and_eq_true,Bool.not_eq_true'] at hc
        cases k with
        | zero => simp at h2
        | succ q => exact .inr ⟨j,q,h1,hc.1,hc.2,rfl,h2⟩
      · rw [if_neg hc] at h2; omega
  · rintro (h|⟨j,q,h1,h2,h3,rfl,h4⟩)
    · omega
    · have : 0 < sumN n fun j => if fb (n - (m + 1)) j && !S.testBit j then (match q + 1 with|0 => 0|q + 1 => rkG fb n m (insC S j) q) else 0 := by
        refine sumN_pos.2 ⟨j,h1,?_⟩
        rw [if_pos (by rw [h2,h3]; rfl)]
        exact h4
      omega
theorem rook_hall (fb : Nat → Nat → Bool) (n : Nat) : ∀ m,m ≤ n → ∀ S k,0 < rkG fb n m S k ↔ hallB fb n m S k
  | 0,_ => fun S k => hall_zero fb n S k
  | m + 1,hm => fun S k => by
    have ih := rook_hall fb n m (by omega)
    have hr : n - (m + 1) < n := by omega
    obtain ⟨r,hre⟩ : ∃ r,r = n - (m + 1) := ⟨_,rfl⟩
    rw [rkG_step,← hre]
    constructor
    · intro h T hT
      -- the rows but the new one
      obtain ⟨T',hT'⟩ : ∃ T' : Nat → Bool,T' = fun i => T i && !decide (i = r) := ⟨_,rfl⟩
      have hsub : ∀ i,i < n → T' i = true → T i = true := fun i _ h => by
        rw [hT',Bool.and_eq_true] at h; exact h.1
      have hlast : ∀ i,T' i = true → n - m ≤ i ∧ i < n := fun i h => by
        rw [hT',Bool.and_eq_true,Bool.not_eq_true',decide_eq_false_iff_not] at h
        have := hT i h.1
        omega
      have hr' : T' r = false := by rw [hT']; simp
      have hcnt : cntB T n ≤ cntB T' n + 1 ∧ (T r = false → cntB T n ≤ cntB T' n) := by
        have h1 := cntB_with hr' (show r < n by omega)
        have h2 := qv0 (p := T) (q := withB T' r) (n := n) fun i _ h => by
          simp only [withB,hT',Bool.or_eq_true,Bool.and_eq_true,Bool.not_eq_true',decide_eq_false_iff_not,decide_eq_true_eq]
          by_cases e : i = r
          · exact .inr e
          · exact .inl ⟨h,e⟩
        refine ⟨by omega,fun h => qv0 fun i _ hi => ?_⟩
        rw [hT',Bool.and_eq_true,Bool.not_eq_true',decide_eq_false_iff_not]
        exact ⟨hi,fun e => by subst e; rw [h] at hi; cases hi⟩
      rcases h with h|⟨j,q,h1,h2,h3,rfl,h4⟩
      · have h5 := (ih S k).1 h T' hlast
        have h6 := qv0 (nbB_mono (fb := fb) (S := S) hsub)
        omega
      · have h5 := (ih (insC S j) q).1 h4 T' hlast
        have h6 : cntB (nbB fb n (insC S j) T') n ≤ cntB (nbB fb n S T) n := qv0 fun c hc hcb => nbB_mono hsub c hc (nbB_ins.1 hcb).1
        cases hTr : T r with
        | false =>
          have := hcnt.2 hTr
          omega
        | true =>
          have hj0 : nbB fb n (insC S j) T' j = false := by
            cases e : nbB fb n (insC S j) T' j with
            | false => rfl
            | true => exact absurd rfl (nbB_ins.1 e).2
          have h7 := cntB_with hj0 h1
          have h8 := qv0 (p := withB (nbB fb n (insC S j) T') j) (q := nbB fb n S T) (n := n) fun c hc hcb => by
            simp only [withB,Bool.or_eq_true,decide_eq_true_eq] at hcb
            rcases hcb with hcb|hcb
            · exact nbB_mono hsub c hc (nbB_ins.1 hcb).1
            · subst hcb
              exact nbB_iff.2 ⟨⟨r,by omega,hTr,h2⟩,h3⟩
          have := hcnt.1
          omega
    · intro H
      by_cases h0 : hallB fb n m S k
      · exact .inl ((ih S k).2 h0)
      · refine .inr ?_
        -- rows that are too many without the new one
        obtain ⟨P,hP⟩ : ∃ P : Nat → Prop,P = fun x => ∃ T : Nat → Bool,(∀ i,T i = true → n - m ≤ i ∧ i < n) ∧ k + cntB T n = m + 1 + cntB (nbB fb n S T) n ∧ cntB T n = x := ⟨_,rfl⟩
        have hH : ∀ T : Nat → Bool,(∀ i,T i = true → n - m ≤ i ∧ i < n) → k + cntB T n ≤ m + 1 + cntB (nbB fb n S T) n := fun T hT => H T fun i hi => by have := hT i hi; omega
        have hex : ∃ x,P x ∧ x ≤ n := by
          have : ∃ T : Nat → Bool,(∀ i,T i = true → n - m ≤ i ∧ i < n) ∧ ¬ k + cntB T n ≤ m + cntB (nbB fb n S T) n := by
            refine Classical.byContradiction fun hno => h0 fun T hT => ?_
            exact Classical.byContradiction fun hn => hno ⟨T,hT,hn⟩
          obtain ⟨T,hT,hn⟩ := this
          refine ⟨cntB T n,?_,cntB_le T n⟩
          rw [hP]
          exact ⟨T,hT,by have := hH T hT; omega,rfl⟩
        obtain ⟨x,⟨hx,_⟩,hmax⟩ := exists_most n hex
        rw [hP] at hx
        obtain ⟨U,hU,htight,hUx⟩ := hx
        have hUm := cntB_last (show m ≤ n by omega) hU
        have hUr : U r = false := by
          cases e : U r with
          | false => rfl
          | true => have := hU r e; omega
        have h1 := H (withB U r) fun i hi => by
          simp only [withB,Bool.or_eq_true,decide_eq_true_eq] at hi
          rcases hi with hi|hi
          · have := hU i hi; omega
          · omega
        rw [cntB_with hUr (by omega)] at h1
        obtain ⟨j,hj,hjy,hjn⟩ := cntB_more (show cntB (nbB fb n S U) n < cntB (nbB fb n S (withB U r)) n by omega)
        rw [nbB_iff] at hjy
        obtain ⟨⟨i,hi,hiT,hif⟩,hjS⟩ := hjy
        have hir : i = r := by
          simp only [withB,Bool.or_eq_true,decide_eq_true_eq] at hiT
          rcases hiT with h|h
          · exact absurd (nbB_iff.2 ⟨⟨i,hi,h,hif⟩,hjS⟩) (by rw [hjn]; decide)
          · exact h
        subst hir
        refine ⟨j,k - 1,hj,hif,hjS,by omega,(ih _ _).2 fun T hT => ?_⟩
        have hTH := hH T hT
        have hsub : ∀ c,c < n → nbB fb n (insC S j) T c = true → nbB fb n S T c = true := fun c _ h => (nbB_ins.1 h).1
        cases hjT : nbB fb n S T j with
        | false =>
          have : cntB (nbB fb n S T) n ≤ cntB (nbB fb n (insC S j) T) n := qv0 fun c _ h => nbB_ins.2 ⟨h,fun e => by subst e; rw [hjT] at h; cases h⟩
          omega
        | true =>
          have hj0 : nbB fb n (insC S j) T j = false := by
            cases e : nbB fb n (insC S j) T j with
            | false => rfl
            | true => exact absurd rfl (nbB_ins.1 e).2
          have h2 := cntB_with hj0 hj
          have h3 := qv0 (p := nbB fb n S T) (q := withB (nbB fb n (insC S j) T) j) (n := n) fun c _ h => by
            simp only [withB,Bool.or_eq_true,decide_eq_true_eq]
            by_cases e : c = j
            · exact .inr e
            · exact .inl (nbB_ins.2 ⟨h,e⟩)
          by_cases ht : k + cntB T n = m + 1 + cntB (nbB fb n S T) n
          · exfalso
            have hb := cntB_both T U n
            have ho := hH (fun i => T i || U i) fun i hi => by
              rw [Bool.or_eq_true] at hi
              rcases hi with hi|hi
              · exact hT i hi
              · exact hU i hi
            have ha := hH (fun i => T i && U i) fun i hi => by
              rw [Bool.and_eq_true] at hi
              exact hT i hi.1
            have hnb := cntB_both (nbB fb n S T) (nbB fb n S U) n
            have hn1 : cntB (nbB fb n S fun i => T i || U i) n ≤ cntB (fun c => nbB fb n S T c || nbB fb n S U c) n := qv0 fun c _ h => by
              rw [nbB_iff] at h
              obtain ⟨⟨i,k1,k2,k3⟩,k4⟩ := h
              rw [Bool.or_eq_true] at k2 ⊢
              rcases k2 with k2|k2
              · exact .inl (nbB_iff.2 ⟨⟨i,k1,k2,k3⟩,k4⟩)
              · exact .inr (nbB_iff.2 ⟨⟨i,k1,k2,k3⟩,k4⟩)
            have hn2 : cntB (nbB fb n S fun i => T i && U i) n ≤ cntB (fun c => nbB fb n S T c && nbB fb n S U c) n := qv0 fun c _ h => by
              rw [nbB_iff] at h
              obtain ⟨⟨i,k1,k2,k3⟩,k4⟩ := h
              rw [Bool.and_eq_true] at k2
              rw [Bool.and_eq_true]
              exact ⟨nbB_iff.2 ⟨⟨i,k1,k2.1,k3⟩,k4⟩,nbB_iff.2 ⟨⟨i,k1,k2.2,k3⟩,k4⟩⟩
            have hPu : P (cntB (fun i => T i || U i) n) := by
              rw [hP]
              refine ⟨fun i => T i || U i,fun i hi => ?_,by omega,rfl⟩
              rw [Bool.or_eq_true] at hi
              rcases hi with hi|hi
              · exact hT i hi
              · exact hU i hi
            have hle := hmax _ hPu (cntB_le _ n)
            have hTU := cntB_all (p := U) (q := fun i => T i || U i) (n := n) (fun i _ h => by rw [h,Bool.or_true]) (by omega)
            have := nbB_mono (fb := fb) (S := S) (T := T) (U := U) (fun i hi h => hTU i hi (by rw [h,Bool.true_or])) j hj hjT
            rw [hjn] at this
            cases this
          · omega
end Go.Am
namespace Go.Am
variable [Go.Am.CodeBlk]
def linesB (fb : Nat → Nat → Bool) (n : Nat) (A : Nat → Bool) : Nat := cntB A n + cntB (nbB fb n 0 fun i => !A i) n
theorem cntB_not (p : Nat → Bool) : ∀ n,cntB (fun i => !p i) n + cntB p n = n
  | 0 => rfl
  | n + 1 => by
    have := cntB_not p n
    simp only [cntB]
    by_cases h : p n = true <;> simp [h] <;> omega
theorem nbB_congr {fb : Nat → Nat → Bool} {n S : Nat} {T U : Nat → Bool} (h : ∀ i,i < n → T i = U i) : ∀ j,j < n → nbB fb n S T j = nbB fb n S U j := by
  intro j hj
  have h1 := nbB_mono (fb := fb) (S := S) (T := T) (U := U) (fun i hi e => by rw [← h i hi]; exact e) j hj
  have h2 := nbB_mono (fb := fb) (S := S) (T := U) (U := T) (fun i hi e => by rw [h i hi]; exact e) j hj
  cases e1 : nbB fb n S T j <;> cases e2 : nbB fb n S U j <;> simp_all
theorem rk_lines (fb : Nat → Nat → Bool) (n k : Nat) : 0 < rkN fb n k ↔ ∀ A : Nat → Bool,k ≤ linesB fb n A := by
  unfold rkN
  rw [rook_hall fb n n (Nat.le_refl _)]
  constructor
  · intro h A
    have h1 := h (fun i => !A i && decide (i < n)) fun i hi => by
      rw [Bool.and_eq_true,decide_eq_true_eq] at hi
      omega
    rw [qwj (q := fun i => !A i) (n := n) fun i hi => by simp [hi],
      qwj (q := nbB fb n 0 fun i => !A i) (n := n) fun j hj => nbB_congr (fun i hi => by simp [hi]) j hj] at h1
    have h2 := cntB_not A n
    unfold linesB
    omega
  · intro h T hT
    have h1 := h fun i => !T i
    unfold linesB at h1
    rw [qwj (p := nbB fb n 0 fun i => !!T i) (q := nbB fb n 0 T) (n := n) fun j hj => nbB_congr (fun i _ => by simp) j hj] at h1
    have h2 := cntB_not T n
    omega
theorem most_lines {fb : Nat → Nat → Bool} {n M : Nat} (h1 : 0 < rkN fb n M) (h2 : ∀ k,M < k → k ≤ n → ¬ 0 < rkN fb n k) : (∀ A : Nat → Bool,M ≤ linesB fb n A) ∧ ∃ A : Nat → Bool,linesB fb n A = M := by
  have hM := (rk_lines fb n M).1 h1
  refine ⟨hM,Classical.byContradiction fun hno => ?_⟩
  have hall : ∀ A : Nat → Bool,M + 1 ≤ linesB fb n A := fun A => by
    have := hM A
    rcases Nat.lt_or_ge M (linesB fb n A) with h|h
    · exact h
    · exact absurd ⟨A,by omega⟩ hno
  have hp := (rk_lines fb n (M + 1)).2 hall
  have hn : M + 1 ≤ n := by
    have := hall fun _ => true
    unfold linesB at this
    have h3 := cntB_le (fun _ => true) n
    have h4 : cntB (nbB fb n 0 fun i => !(fun _ : Nat => true) i) n = 0 := by
      rw [← cntB_zero n]
      exact qwj fun j _ => by simp [nbB]
    omega
  exact h2 (M + 1) (by omega) hn hp
end Go.Am
namespace Go.Proofs.YtngfogpbljconaaGreatDoor
variable [Go.Am.CodeBlk]
open Go.Am
attribute [local irreducible] AW Outs Weak Lends Lend Sp aops atree aop1 Then Round InBlock Done
attribute [local irreducible] SpH SpX DoneH DoneX
def ordC : List Int → List Int → Int
  | [],[] => 0
  | [],_ :: _ => -1
  | _ :: _,[] => 1
  | x :: a,y :: b => if x < y then -1 else if y < x then 1 else ordC a b
theorem ordC_step {a b : List Int} {i : Nat} (h1 : i < a.length) (h2 : i < b.length) : ordC (a.drop i) (b.drop i) = if a.getD i 0 < b.getD i 0 then -1 else if b.getD i 0 < a.getD i 0 then 1 else ordC (a.drop (i + 1)) (b.drop (i + 1)) := by
  rw [List.drop_eq_getElem_cons h1,List.drop_eq_getElem_cons h2]
  simp [ordC,h1,h2]
theorem ordC_right {a b : List Int} {i : Nat} (h1 : i < a.length) (h2 : b.length ≤ i) : ordC (a.drop i) (b.drop i) = 1 := by
  rw [List.drop_eq_getElem_cons h1,List.drop_of_length_le h2]
  rfl
theorem ordC_end {a b : List Int} {i : Nat} (h1 : a.length ≤ i) : ordC (a.drop i) (b.drop i) = if i < b.length then -1 else 0 := by
  rw [List.drop_of_length_le h1]
  by_cases h : i < b.length
  · rw [List.drop_eq_getElem_cons h,if_pos h]; rfl
  · rw [List.drop_of_length_le (by omega),if_neg h]; rfl
theorem isNaN_spec (a : Int) : Sp Tryz.prog 100 [.i a] (.b false) := by
  refine qy7 Tryz.func100 rfl cc100 rfl ?_
  unfold ac100
  repeat (first|(refine qz0 ?_;(first|(refine m_mov (by conv => lhs; whnf) ?_)|(refine m_neq rfl rfl ?_)))|refine qz1 ?_|refine qz3 ?_|refine qzj ?_|refine qzc ?_)
  exact qyb (by simp)
theorem cmpCompare_spec (a b : Int) : Sp Tryz.prog 82 [.i a,.i b] (.i (if a < b then -1 else if b < a then 1 else 0)) := by
  refine qy7 Tryz.func82 rfl cc82 rfl ?_
  unfold ac82
  by_cases h1 : a < b
  · repeat (first|(refine qz0 ?_;(refine m_mov (by conv => lhs; whnf) ?_))|refine qz1 ?_|refine qz3 ?_)
    (refine qz0 ?_);(apply qza (isNaN_spec a));(· repeat (first|exact qz4|(refine qz2 ?_ ?_;(· exact qzd))))
    repeat (first|(refine qz0 ?_;(refine m_mov (by conv => lhs; whnf) ?_))|refine qz1 ?_|refine qz3 ?_)
    (refine qz0 ?_);(apply qza (isNaN_spec b));(· repeat (first|exact qz4|(refine qz2 ?_ ?_;(· exact qzd))))
    repeat (first|(refine qz0 ?_;(first|(refine m_mov (by conv => lhs; whnf) ?_)|(refine m_lss rfl rfl ?_)))|refine qz1 ?_|refine qz3 ?_|(refine qzf rfl ?_ ?_;(· (refine decide_eq_true ?_; assumption)))|(refine qzi rfl ?_ ?_;(· rfl))|refine qz5 ?_|refine qz6 ?_|refine qzj ?_|refine qzc ?_|refine qy8 ?_)
    exact qxa (by rw [if_pos h1])
  · by_cases h2 : b < a
    · have h3 : a > b := h2
      repeat (first|(refine qz0 ?_;(refine m_mov (by conv => lhs; whnf) ?_))|refine qz1 ?_|refine qz3 ?_)
      (refine qz0 ?_);(apply qza (isNaN_spec a));(· repeat (first|exact qz4|(refine qz2 ?_ ?_;(· exact qzd))))
      repeat (first|(refine qz0 ?_;(refine m_mov (by conv => lhs; whnf) ?_))|refine qz1 ?_|refine qz3 ?_)
      (refine qz0 ?_);(apply qza (isNaN_spec b));(· repeat (first|exact qz4|(refine qz2 ?_ ?_;(· exact qzd))))
      repeat (first|(refine qz0 ?_;(first|(refine m_mov (by conv => lhs; whnf) ?_)|(refine m_lss rfl rfl ?_)|(refine m_gtr rfl rfl ?_)))|refine qz1 ?_|refine qz3 ?_|(refine qzf rfl ?_ ?_;(· (refine decide_eq_true ?_; assumption)))|(refine qzi rfl ?_ ?_;(· first|rfl|(refine decide_eq_false ?_; assumption)))|refine qz5 ?_|refine qz6 ?_|refine qzj ?_|refine qzc ?_|refine qy8 ?_)
      exact qxa (by rw [if_neg h1,if_pos h2])
    · have h3 : ¬ a > b := h2
      repeat (first|(refine qz0 ?_;(refine m_mov (by conv => lhs; whnf) ?_))|refine qz1 ?_|refine qz3 ?_)
      (refine qz0 ?_);(apply qza (isNaN_spec a));(· repeat (first|exact qz4|(refine qz2 ?_ ?_;(· exact qzd))))
      repeat (first|(refine qz0 ?_;(refine m_mov (by conv => lhs; whnf) ?_))|refine qz1 ?_|refine qz3 ?_)
      (refine qz0 ?_);(apply qza (isNaN_spec b));(· repeat (first|exact qz4|(refine qz2 ?_ ?_;(· exact qzd))))
      repeat (first|(refine qz0 ?_;(first|(refine m_mov (by conv => lhs; whnf) ?_)|(refine m_lss rfl rfl ?_)|(refine m_gtr rfl rfl ?_)))|refine qz1 ?_|refine qz3 ?_|(refine qzi rfl ?_ ?_;(· first|rfl|(refine decide_eq_false ?_; assumption)))|refine qz5 ?_|refine qz6 ?_|refine qzj ?_|refine qzc ?_)
      exact qxa (by rw [if_neg h1,if_neg h2])
theorem slicesCompare_spec (a b : List Int) (ha : a.length ≤ 1048576) (_hb : b.length ≤ 1048576) : Sp Tryz.prog 84 [ints a,ints b] (.i (ordC a b)) := by
  have h0 : ordC (a.drop 0) (b.drop 0) = ordC a b := rfl
  generalize ordC a b = T at h0 ⊢
  refine qy7 Tryz.func84 rfl cc84 rfl ?_
  unfold ac84
  repeat (first|(refine qz0 ?_;(first|(refine m_mov (by conv => lhs; whnf) ?_)|(refine qy4 rfl ?_)))|refine qz1 ?_|refine qz3 ?_|refine qz6 ?_|refine qz8 ?_)
  refine qyf (α := Nat) (fun k => k ≤ a.length ∧ (k ≤ b.length) ∧ ordC (a.drop k) (b.drop k) = T) (fun k => st [(0,ints a),(1,ints b),(9,ints a),(10,.i a.length),(11,.i k)] []) (fun k => a.length - k) 0 ⟨Nat.zero_le _,Nat.zero_le _,h0⟩ (qz9 ?_ ?_ rfl rfl) ?_
  · (repeat' first|exact trivial|refine And.intro ?_ ?_)<;>first|rfl|skip
  · trivial
  rintro k ⟨hk,hkb,he⟩
  by_cases hc : k < a.length
  · by_cases hc2 : k < b.length
    · rw [ordC_step hc hc2] at he
      by_cases hx : a.getD k 0 = b.getD k 0
      · rw [if_neg (by omega),if_neg (by omega)] at he
        repeat (first|(refine qz0 ?_;(first|(refine m_mov (by conv => lhs; whnf) ?_)|(refine m_lss rfl rfl ?_)|(refine m_geq rfl rfl ?_)|(refine qy4 rfl ?_)|(refine qy6 rfl rfl ?_ ?_;(· omega))|(refine qyg rfl ?_ ?_;(· omega))))|refine qz1 ?_|refine qz3 ?_|(refine qzf rfl ?_ ?_;(· (refine decide_eq_true ?_; omega)))|(refine qzi rfl ?_ ?_;(· (refine decide_eq_false ?_; omega)))|refine qz5 ?_|refine qz6 ?_|refine qz8 ?_)
        (refine qz0 ?_);(apply qza (cmpCompare_spec (a.getD k 0) (b.getD k 0)));(· repeat (first|exact qz4|(refine qz2 ?_ ?_;(· exact qzd))))
        rw [if_neg (show ¬ a.getD k 0 < b.getD k 0 by omega),if_neg (show ¬ b.getD k 0 < a.getD k 0 by omega)]
        repeat (first|(refine qz0 ?_;(first|(refine m_mov (by conv => lhs; whnf) ?_)|(refine m_neq rfl rfl ?_)|(refine m_add rfl rfl ?_ ?_ ?_;(· omega);(· omega))))|refine qz1 ?_|refine qz3 ?_|refine qy5 ?_|(refine qzi rfl ?_ ?_;(· rfl))|refine qz7 ?_|refine qze ?_|refine qx6 ?_)
        refine qzb (k + 1) ⟨hc,hc2,he⟩ (qz9 ?_ ?_ rfl rfl) ?_
        · (repeat' first|exact trivial|refine And.intro ?_ ?_)<;>first|rfl|skip
        · trivial
        · omega
      · by_cases hlt : a.getD k 0 < b.getD k 0
        · rw [if_pos hlt] at he
          subst he
          repeat (first|(refine qz0 ?_;(first|(refine m_mov (by conv => lhs; whnf) ?_)|(refine m_lss rfl rfl ?_)|(refine m_geq rfl rfl ?_)|(refine qy4 rfl ?_)|(refine qy6 rfl rfl ?_ ?_;(· omega))|(refine qyg rfl ?_ ?_;(· omega))))|refine qz1 ?_|refine qz3 ?_|(refine qzf rfl ?_ ?_;(· (refine decide_eq_true ?_; omega)))|(refine qzi rfl ?_ ?_;(· (refine decide_eq_false ?_; omega)))|refine qz5 ?_|refine qz6 ?_|refine qz8 ?_)
          (refine qz0 ?_);(apply qza (cmpCompare_spec (a.getD k 0) (b.getD k 0)));(· repeat (first|exact qz4|(refine qz2 ?_ ?_;(· exact qzd))))
          rw [if_pos hlt]
          repeat (first|(refine qz0 ?_;(first|(refine m_mov (by conv => lhs; whnf) ?_)|(refine m_neq rfl rfl ?_)))|refine qz1 ?_|refine qz3 ?_|(refine qzf rfl ?_ ?_;(· rfl))|refine qzj ?_|refine qzc ?_|refine qy8 ?_|refine qx7 ?_|refine qxd ?_)
          exact qxa rfl
        · rw [if_neg hlt,if_pos (by omega)] at he
          subst he
          repeat (first|(refine qz0 ?_;(first|(refine m_mov (by conv => lhs; whnf) ?_)|(refine m_lss rfl rfl ?_)|(refine m_geq rfl rfl ?_)|(refine qy4 rfl ?_)|(refine qy6 rfl rfl ?_ ?_;(· omega))|(refine qyg rfl ?_ ?_;(· omega))))|refine qz1 ?_|refine qz3 ?_|(refine qzf rfl ?_ ?_;(· (refine decide_eq_true ?_; omega)))|(refine qzi rfl ?_ ?_;(· (refine decide_eq_false ?_; omega)))|refine qz5 ?_|refine qz6 ?_|refine qz8 ?_)
          (refine qz0 ?_);(apply qza (cmpCompare_spec (a.getD k 0) (b.getD k 0)));(· repeat (first|exact qz4|(refine qz2 ?_ ?_;(· exact qzd))))
          rw [if_neg hlt,if_pos (show b.getD k 0 < a.getD k 0 by omega)]
          repeat (first|(refine qz0 ?_;(first|(refine m_mov (by conv => lhs; whnf) ?_)|(refine m_neq rfl rfl ?_)))|refine qz1 ?_|refine qz3 ?_|(refine qzf rfl ?_ ?_;(· rfl))|refine qzj ?_|refine qzc ?_|refine qy8 ?_|refine qx7 ?_|refine qxd ?_)
          exact qxa rfl
    · rw [ordC_right hc (by omega)] at he
      subst he
      repeat (first|(refine qz0 ?_;(first|(refine m_mov (by conv => lhs; whnf) ?_)|(refine m_lss rfl rfl ?_)|(refine m_geq rfl rfl ?_)|(refine qy4 rfl ?_)|(refine qy6 rfl rfl ?_ ?_;(· omega))|(refine qyg rfl ?_ ?_;(· omega))))|refine qz1 ?_|refine qz3 ?_|(refine qzf rfl ?_ ?_;(· (refine decide_eq_true ?_; omega)))|refine qz5 ?_|refine qz6 ?_|refine qzj ?_|refine qzc ?_|refine qy8 ?_|refine qz8 ?_|refine qx7 ?_|refine qxd ?_)
      exact qxa rfl
  · rw [ordC_end (by omega)] at he
    by_cases hl : k < b.length
    · rw [if_pos hl] at he
      subst he
      have : a.length < b.length := by omega
      repeat (first|(refine qz0 ?_;(first|(refine m_mov (by conv => lhs; whnf) ?_)|(refine m_lss rfl rfl ?_)|(refine qy4 rfl ?_)))|refine qz1 ?_|refine qz3 ?_|(refine qzf rfl ?_ ?_;(· (refine decide_eq_true ?_; omega)))|(refine qzi rfl ?_ ?_;(· (refine decide_eq_false ?_; omega)))|refine qz6 ?_|refine qzj ?_|refine qzc ?_|refine qz7 ?_|refine qy8 ?_|refine qy1 ?_|refine qy0 ?_|refine qy9 ?_|refine qzg ?_)
      exact qxa rfl
    · rw [if_neg hl] at he
      subst he
      have : ¬ a.length < b.length := by omega
      repeat (first|(refine qz0 ?_;(first|(refine m_mov (by conv => lhs; whnf) ?_)|(refine m_lss rfl rfl ?_)|(refine qy4 rfl ?_)))|refine qz1 ?_|refine qz3 ?_|(refine qzi rfl ?_ ?_;(· (refine decide_eq_false ?_; omega)))|refine qz5 ?_|refine qz6 ?_|refine qzj ?_|refine qzc ?_|refine qz7 ?_|refine qy1 ?_|refine qy0 ?_|refine qy9 ?_|refine qzg ?_)
      exact qxa rfl
theorem cmpOr_spec (x y : Int) : Sp Tryz.prog 81 [ints [x,y]] (.i (if x ≠ 0 then x else y)) := by
  refine qy7 Tryz.func81 rfl cc81 rfl ?_
  unfold ac81
  repeat (first|(refine qz0 ?_;(first|(refine m_mov (by conv => lhs; whnf) ?_)|(refine qy4 rfl ?_)))|refine qz1 ?_|refine qz3 ?_|refine qz6 ?_|refine qz8 ?_)
  refine qyf (α := Nat) (fun k => k ≤ 2 ∧ (1 ≤ k → x = 0) ∧ (2 ≤ k → y = 0)) (fun k => st [(3,.i 0),(6,ints [x,y]),(7,.i 2),(8,.i k)] []) (fun k => 2 - k) 0 ⟨by omega,fun h => by omega,fun h => by omega⟩ (qz9 ?_ ?_ rfl rfl) ?_
  · (repeat' first|exact trivial|refine And.intro ?_ ?_)<;>first|rfl|skip
  · trivial
  rintro k ⟨hk,hx,hy⟩
  have hlen : ([x,y] : List Int).length = 2 := rfl
  by_cases h0 : k = 0
  · subst h0
    by_cases hx0 : x = 0
    · subst hx0
      repeat (first|(refine qz0 ?_;(first|(refine m_mov (by conv => lhs; whnf) ?_)|(refine m_lss rfl rfl ?_)|(refine m_neq rfl rfl ?_)|(refine m_add rfl rfl ?_ ?_ ?_;(· omega);(· omega))|(refine qy6 rfl rfl ?_ ?_;(· omega))|(refine qyg rfl ?_ ?_;(· omega))))|refine qz1 ?_|refine qz3 ?_|refine qy5 ?_|(refine qzf rfl ?_ ?_;(· rfl))|(refine qzi rfl ?_ ?_;(· rfl))|refine qz5 ?_|refine qz6 ?_|refine qz7 ?_|refine qz8 ?_|refine qze ?_|refine qx6 ?_)
      refine qzb 1 ⟨by omega,fun _ => rfl,fun h => by omega⟩ (qz9 ?_ ?_ rfl rfl) ?_
      · (repeat' first|exact trivial|refine And.intro ?_ ?_)<;>first|rfl|skip
      · trivial
      · omega
    · repeat (first|(refine qz0 ?_;(first|(refine m_mov (by conv => lhs; whnf) ?_)|(refine m_lss rfl rfl ?_)|(refine m_neq rfl rfl ?_)|(refine qy6 rfl rfl ?_ ?_;(· omega))|(refine qyg rfl ?_ ?_;(· omega))))|refine qz1 ?_|refine qz3 ?_|(refine qzf rfl ?_ ?_;(· first|rfl|(refine decide_eq_true ?_; assumption)))|refine qz5 ?_|refine qz6 ?_|refine qzj ?_|refine qzc ?_|refine qy8 ?_|refine qz8 ?_|refine qx7 ?_|refine qxd ?_)
      exact qxa (by rw [if_pos hx0]; rfl)
  · by_cases h1 : k = 1
    · subst h1
      have hx0 := hx (by omega)
      subst hx0
      by_cases hy0 : y = 0
      · subst hy0
        repeat (first|(refine qz0 ?_;(first|(refine m_mov (by conv => lhs; whnf) ?_)|(refine m_lss rfl rfl ?_)|(refine m_neq rfl rfl ?_)|(refine m_add rfl rfl ?_ ?_ ?_;(· omega);(· omega))|(refine qy6 rfl rfl ?_ ?_;(· omega))|(refine qyg rfl ?_ ?_;(· omega))))|refine qz1 ?_|refine qz3 ?_|refine qy5 ?_|(refine qzf rfl ?_ ?_;(· rfl))|(refine qzi rfl ?_ ?_;(· rfl))|refine qz5 ?_|refine qz6 ?_|refine qz7 ?_|refine qz8 ?_|refine qze ?_|refine qx6 ?_)
        refine qzb 2 ⟨by omega,fun _ => rfl,fun _ => rfl⟩ (qz9 ?_ ?_ rfl rfl) ?_
        · (repeat' first|exact trivial|refine And.intro ?_ ?_)<;>first|rfl|skip
        · trivial
        · omega
      · repeat (first|(refine qz0 ?_;(first|(refine m_mov (by conv => lhs; whnf) ?_)|(refine m_lss rfl rfl ?_)|(refine m_neq rfl rfl ?_)|(refine qy6 rfl rfl ?_ ?_;(· omega))|(refine qyg rfl ?_ ?_;(· omega))))|refine qz1 ?_|refine qz3 ?_|(refine qzf rfl ?_ ?_;(· first|rfl|(refine decide_eq_true ?_; assumption)))|refine qz5 ?_|refine qz6 ?_|refine qzj ?_|refine qzc ?_|refine qy8 ?_|refine qz8 ?_|refine qx7 ?_|refine qxd ?_)
        exact qxa (by simp)
    · obtain rfl : k = 2 := by omega
      have hx0 := hx (by omega)
      have hy0 := hy (by omega)
      subst hx0 hy0
      repeat (first|(refine qz0 ?_;(first|(refine m_mov (by conv => lhs; whnf) ?_)|(refine m_lss rfl rfl ?_)))|refine qz1 ?_|refine qz3 ?_|(refine qzi rfl ?_ ?_;(· rfl))|refine qz6 ?_|refine qzj ?_|refine qzc ?_|refine qz7 ?_|refine qy1 ?_|refine qy0 ?_|refine qy9 ?_|refine qzg ?_)
      exact qxa (by simp)
def memL (S k : Nat) : List Int := ((List.range k).filter fun i => S.testBit i).map fun i => ((i : Nat) : Int)
theorem memL_succ (S k : Nat) : memL S (k + 1) = if S.testBit k = true then memL S k ++ [((k : Nat) : Int)] else memL S k := by
  unfold memL
  rw [List.range_succ,List.filter_append,List.map_append]
  by_cases h : S.testBit k = true
  · rw [if_pos h,List.filter_cons_of_pos (by simpa using h)]; rfl
  · rw [if_neg h,List.filter_cons_of_neg (by simpa using h)]; simp
theorem qw5 (S k : Nat) : (memL S k).length ≤ k := by
  unfold memL
  rw [List.length_map]
  exact Nat.le_trans (List.length_filter_le ..) (by simp)
theorem setNumbers_spec (S : Nat) (hS : S < 65536) : Sp Tryz.prog 54 [.u S] (newInts (memL S 12)) := by
  refine qy7 Tryz.func54 rfl cc54 rfl ?_
  unfold ac54
  repeat (first|(refine qz0 ?_;(first|(refine m_mov (by conv => lhs; whnf) ?_)|(refine qx2 ?_)))|refine qz1 ?_|refine qz3 ?_|refine qz6 ?_|refine qz8 ?_)
  refine qyf (α := Nat) (fun k => k ≤ 12) (fun k => st [(0,.u S),(5,.i k),(3,.sl 3 1 0 (memL S k).length)] [(3,(true,(memL S k).map AV.i))]) (fun k => 12 - k) 0 (by omega) (qz9 ?_ ?_ rfl rfl) ?_
  · (repeat' first|exact trivial|refine And.intro ?_ ?_)<;>first|rfl|skip
  · exact ⟨rfl,trivial⟩
  intro k hk
  have hlen := qw5 S k
  have hsn := memL_succ S k
  by_cases hc : k < 12
  · have hh := setHas_spec S k hS (by omega)
    cases e : S.testBit k with
    | true =>
      rw [if_pos e] at hsn
      rw [e] at hh
      repeat (first|(refine qz0 ?_;(first|(refine m_mov (by conv => lhs; whnf) ?_)|(refine m_lss rfl rfl ?_)))|refine qz1 ?_|refine qz3 ?_|(refine qzf rfl ?_ ?_;(· (refine decide_eq_true ?_; omega)))|refine qz5 ?_|refine qz6 ?_|refine qz8 ?_)
      (refine qz0 ?_);(apply qza (hh));(· repeat (first|exact qz4|(refine qz2 ?_ ?_;(· exact qzd))))
      repeat (first|(refine qz0 ?_;(first|(refine m_mov (by conv => lhs; whnf) ?_)|(refine m_add rfl rfl ?_ ?_ ?_;(· omega);(· omega))|(refine qu8 rfl rfl ?_)|(refine qu9 rfl (by decide) (by rfl) (by first|rfl|omega|(simp; done)) rfl rfl ?_ (by decide) ?_;(· first|omega|(simp; omega)))))|refine qz1 ?_|refine qy5 ?_|(refine qzf rfl ?_ ?_;(· rfl))|refine qz7 ?_|refine qze ?_)
      refine qzb (k + 1) (by omega) (Weak.trans (qwf (r := 14) (q := 3) rfl (by decide) (by decide)) (qz9 ?_ ?_ rfl rfl)) ?_
      · rw [hsn]
        (repeat' first|exact trivial|refine And.intro ?_ ?_)<;>first|rfl|skip
      · rw [hsn]
        exact ⟨rfl,trivial⟩
      · omega
    | false =>
      rw [if_neg (by rw [e]; decide)] at hsn
      rw [e] at hh
      repeat (first|(refine qz0 ?_;(first|(refine m_mov (by conv => lhs; whnf) ?_)|(refine m_lss rfl rfl ?_)))|refine qz1 ?_|refine qz3 ?_|(refine qzf rfl ?_ ?_;(· (refine decide_eq_true ?_; omega)))|refine qz5 ?_|refine qz6 ?_|refine qz8 ?_)
      (refine qz0 ?_);(apply qza (hh));(· repeat (first|exact qz4|(refine qz2 ?_ ?_;(· exact qzd))))
      repeat (first|(refine qz0 ?_;(first|(refine m_mov (by conv => lhs; whnf) ?_)|(refine m_add rfl rfl ?_ ?_ ?_;(· omega);(· omega))))|refine qz1 ?_|refine qy5 ?_|(refine qzi rfl ?_ ?_;(· rfl))|refine qz7 ?_|refine qze ?_|refine qx6 ?_)
      refine qzb (k + 1) (by omega) (qz9 ?_ ?_ rfl rfl) ?_
      · rw [hsn]
        (repeat' first|exact trivial|refine And.intro ?_ ?_)<;>first|rfl|skip
      · rw [hsn]
        exact ⟨rfl,trivial⟩
      · omega
  · obtain rfl : k = 12 := by omega
    repeat (first|(refine qz0 ?_;(first|(refine m_mov (by conv => lhs; whnf) ?_)|(refine m_lss rfl rfl ?_)))|refine qz1 ?_|refine qz3 ?_|(refine qzi rfl ?_ ?_;(· rfl))|refine qz6 ?_|refine qzj ?_|refine qzc ?_|refine qz7 ?_|refine qy1 ?_|refine qy0 ?_|refine qy9 ?_|refine qzg ?_)
    exact qx3 rfl rfl rfl
end Go.Proofs.YtngfogpbljconaaGreatDoor
namespace Go.Am
variable [Go.Am.CodeBlk]
def maskB (p : Nat → Bool) : Nat → Nat
  | 0 => 0
  | k + 1 => if p k then insC (maskB p k) k else maskB p k
theorem qv9 (p : Nat → Bool) : ∀ k j,(maskB p k).testBit j = (decide (j < k) && p j)
  | 0,j => by simp [maskB]
  | k + 1,j => by
    simp only [maskB]
    by_cases h : p k = true
    · rw [if_pos h,qu1,qv9 p k j]
      by_cases e : k = j
      · subst e; simp [h]
      · simp [e,show (j < k + 1) = (j < k) from propext ⟨fun _ => by omega,fun _ => by omega⟩]
    · rw [if_neg h,qv9 p k j]
      by_cases e : k = j
      · subst e; simp [h]
      · simp [show (j < k + 1) = (j < k) from propext ⟨fun _ => by omega,fun _ => by omega⟩]
def leftL (seen : Array Nat) : List ((Nat × Nat) × Nat) → Nat
  | [] => 0
  | q :: l => (if seen.contains q.2 = true then 0 else 1) + leftL seen l
theorem push_has (seen : Array Nat) (b x : Nat) : (seen.push b).contains x = (seen.contains x || x == b) := by
  rw [Array.contains_push,Bool.or_comm]
theorem leftL_le (seen : Array Nat) (b : Nat) : ∀ l,leftL (seen.push b) l ≤ leftL seen l
  | [] => Nat.le_refl _
  | q :: l => by
    have ih := leftL_le seen b l
    simp only [leftL,push_has]
    by_cases h : seen.contains q.2 = true
    · rw [if_pos h,h,Bool.true_or,if_pos rfl]; omega
    · rw [if_neg h]; split <;> omega
theorem leftL_lt {seen : Array Nat} {q : (Nat × Nat) × Nat} (hs : seen.contains q.2 = false) : ∀ {l},q ∈ l → leftL (seen.push q.2) l < leftL seen l
  | [],h => by cases h
  | x :: l,h => by
    have hle := leftL_le seen q.2 l
    simp only [leftL,push_has]
    by_cases e : x = q
    · subst e
      rw [hs,if_pos (by simp),if_neg (by decide)]; omega
    · have ih := leftL_lt hs ((List.mem_cons.1 h).resolve_left fun h2 => e h2.symm)
      by_cases h1 : seen.contains x.2 = true
      · rw [if_pos h1,h1,Bool.true_or,if_pos rfl]; omega
      · rw [if_neg h1]; split <;> omega
end Go.Am
namespace Go.Proofs.YtngfogpbljconaaGreatDoor
variable [Go.Am.CodeBlk]
open Go.Am
attribute [local irreducible] AW Outs Weak Lends Lend Sp aops atree aop1 Then Round InBlock Done
attribute [local irreducible] SpH SpX DoneH DoneX
theorem posP_lfA (fb : Nat → Nat → Bool) (n : Nat) : mkEs (posP fb n n) = plArr (lfA fb n fun _ => true) := by
  rw [mkEs_pl]
  unfold lfA
  rw [List.filter_eq_self.2 (fun _ _ => rfl)]
theorem lfA_one {fb : Nat → Nat → Bool} {n : Nat} {D : Nat × Nat → Bool} {p q : (Nat × Nat) × Nat} (hp : p ∈ lfA fb n D) (hq : q ∈ lfA fb n D) (h : q.2 = p.2) : p = q := by
  have h1 := List.mem_zipIdx (List.mem_filter.1 hp).1
  have h2 := List.mem_zipIdx (List.mem_filter.1 hq).1
  obtain ⟨⟨a,b⟩,c⟩ := p
  obtain ⟨⟨a2,b2⟩,c2⟩ := q
  dsimp only at h h1 h2
  subst h
  rw [h1.2.2,h2.2.2]
def colsM (fb : Nat → Nat → Bool) (n S : Nat) : Nat := maskB (nbB fb n 0 fun i => !S.testBit i) n
theorem columnsBeside_spec (fb : Nat → Nat → Bool) (n S : Nat) (h8 : n ≤ 8) (hS : S < 65536) : Sp Tryz.prog 55 [.agg (bdN fb n),.u S] (.u (colsM fb n S)) := by
  unfold bdN
  rw [posP_lfA]
  refine qy7 Tryz.func55 rfl cc55 rfl ?_
  unfold ac55
  repeat (first|(refine qz0 ?_;(first|(refine m_mov (by conv => lhs; whnf) ?_)|(apply qx8;(· rfl);(· rfl);(· rfl))|(refine m_fa rfl ?_)|(refine m_box rfl ?_ ?_;(· first|rfl|(simp [cellOk,Value.oneCell']; done)))))|refine qz1 ?_|refine qz3 ?_|refine qz6 ?_)
  refine qz0 ?_
  refine m_mrgr rfl fun bm => ?_
  repeat (first|refine qz1 ?_|refine qz8 ?_)
  refine qyf (α := Array Nat × Nat) (fun x => x.2 < 2 ^ 8 ∧ ∀ j,x.2.testBit j = true ↔ ∃ q ∈ lfA fb n fun _ => true,x.1.contains q.2 = true ∧ S.testBit q.1.1 = false ∧ q.1.2 = j)
    (fun x => st [(1,.u S),(5,.u x.2),(9,.mit 9 none bm (plArr (lfA fb n fun _ => true)) (posP fb n n).length)] [(9,(true,[.ob (.mapIter (some bm) (posP fb n n).length x.1 (posP fb n n).length)]))])
    (fun x => leftL x.1 (lfA fb n fun _ => true)) (#[],0) ⟨by decide,fun j => by simp⟩ (qz9 ?_ ?_ rfl rfl) ?_
  · (repeat' first|exact trivial|refine And.intro ?_ ?_)<;>first|rfl|skip
  · (repeat' first|exact trivial|refine And.intro ?_ ?_)<;>first|rfl|skip
  rintro ⟨seen,C⟩ ⟨hC,hbit⟩
  dsimp only at hC hbit ⊢
  refine qz6 ?_
  refine qy5 ?_
  refine qz0 ?_
  refine m_mnxr rfl rfl plArr_old (Nat.le_refl _) (fun hall => ?_) (fun e he hs => ?_)
  · have hfin : C = colsM fb n S := by
      refine Nat.eq_of_testBit_eq fun j => ?_
      rw [Bool.eq_iff_iff,hbit]
      unfold colsM
      rw [qv9,Bool.and_eq_true,decide_eq_true_eq,nbB_iff]
      constructor
      · rintro ⟨q,hq,_,h2,h3⟩
        obtain ⟨⟨hr,hc,hf⟩,_,_⟩ := lfA_mem hq
        subst h3
        exact ⟨hc,⟨q.1.1,hr,by rw [h2]; rfl,hf⟩,Nat.zero_testBit _⟩
      · rintro ⟨hj,⟨i,hi,h2,h3⟩,_⟩
        obtain ⟨q,hq,e⟩ := lfA_has (fb := fb) (n := n) (D := fun _ => true) (p := (i,j)) ⟨hi,hj,h3⟩ rfl
        refine ⟨q,hq,hall (plE q) (plArr_mem.2 ⟨q,hq,rfl⟩),?_,by rw [e]⟩
        rw [e]
        simpa using h2
    rw [← hfin]
    repeat (first|(refine qz0 ?_;(first|(refine m_mov (by conv => lhs; whnf) ?_)|(refine m_ext rfl rfl ?_)))|refine qz1 ?_|refine qz3 ?_|(refine qzi rfl ?_ ?_;(· rfl))|refine qz6 ?_|refine qzj ?_|refine qzc ?_|refine qz7 ?_|refine qy1 ?_|refine qy0 ?_|refine qy9 ?_|refine qzg ?_)
    exact outs_v
  · obtain ⟨q,hq,rfl⟩ := plArr_mem.1 he
    obtain ⟨⟨hr,hc,hf⟩,hD,_⟩ := lfA_mem hq
    obtain ⟨⟨row,col⟩,stamp⟩ := q
    dsimp only at hr hc hf
    have hh := setHas_spec S row hS (by omega)
    repeat (first|(refine qz0 ?_;(refine m_ext rfl rfl ?_))|refine qz1 ?_|refine qz3 ?_|(refine qzf rfl ?_ ?_;(· rfl))|refine qz5 ?_|refine qz6 ?_|refine qz7 ?_|refine qz8 ?_)
    refine qz0 ?_
    refine m_mentr (e := plE ((row,col),stamp)) (ka := .agg [.i (row : Nat),.i (col : Nat)]) (va := .b true) rfl rfl he (lfA_born fb n _) rfl rfl ?_
    repeat (first|(refine qz0 ?_;(first|(refine m_mov (by conv => lhs; whnf) ?_)|(apply qx8;(· rfl);(· rfl);(· rfl))|(refine m_ext rfl rfl ?_)|(refine qxb ?_)|(refine m_fa rfl ?_)|(refine qx9 rfl rfl rfl ?_ ?_ ?_ ?_;(· first|rfl|(simp [*]; done));(· first|rfl|(simp [*]; done));(· first|rfl|(simp [cellOk,Value.oneCell']; done)))))|refine qz1 ?_|refine qz3 ?_)
    have hlt := leftL_lt (q := ((row,col),stamp)) hs hq
    cases e : S.testBit row with
    | true =>
      rw [e] at hh
      (refine qz0 ?_);(apply qza (hh));(· repeat (first|exact qz4|(refine qz2 ?_ ?_;(· exact qzd))))
      repeat (first|(refine qz0 ?_;(refine m_not rfl ?_))|refine qz1 ?_|(refine qzi rfl ?_ ?_;(· rfl))|refine qze ?_|refine qx6 ?_)
      refine qzb (seen.push stamp,C) ⟨hC,fun j => ?_⟩ (qz9 ?_ ?_ rfl rfl) hlt
      · rw [hbit]
        constructor
        · rintro ⟨q,h1,h2,h3⟩
          exact ⟨q,h1,by rw [push_has,h2]; rfl,h3⟩
        · rintro ⟨q,h1,h2,h3,h4⟩
          rw [push_has,Bool.or_eq_true] at h2
          rcases h2 with h2|h2
          · exact ⟨q,h1,h2,h3,h4⟩
          · have hqq := lfA_one hq h1 (by simpa using h2)
            subst hqq
            rw [e] at h3; cases h3
      · (repeat' first|exact trivial|refine And.intro ?_ ?_)<;>first|rfl|skip
      · (repeat' first|exact trivial|refine And.intro ?_ ?_)<;>first|rfl|skip
    | false =>
      rw [e] at hh
      have hw := setWith_spec C col (by omega) (by omega)
      (refine qz0 ?_);(apply qza (hh));(· repeat (first|exact qz4|(refine qz2 ?_ ?_;(· exact qzd))))
      repeat (first|(refine qz0 ?_;(first|(refine m_mov (by conv => lhs; whnf) ?_)|(refine m_not rfl ?_)|(apply qx8;(· rfl);(· rfl);(· rfl))|(refine m_fa rfl ?_)))|refine qz1 ?_|refine qy5 ?_|(refine qzf rfl ?_ ?_;(· rfl)))
      (refine qz0 ?_);(apply qza (hw));(· repeat (first|exact qz4|(refine qz2 ?_ ?_;(· exact qzd))))
      repeat (first|(refine qz0 ?_;(refine m_mov (by conv => lhs; whnf) ?_))|refine qz1 ?_|refine qze ?_)
      refine qzb (seen.push stamp,insC C col) ⟨insC_lt hC (by omega),fun j => ?_⟩ (qz9 ?_ ?_ rfl rfl) hlt
      · rw [qu1,Bool.or_eq_true,decide_eq_true_eq,hbit]
        constructor
        · rintro (⟨q,h1,h2,h3⟩|h)
          · exact ⟨q,h1,by rw [push_has,h2]; rfl,h3⟩
          · exact ⟨((row,col),stamp),hq,by rw [push_has]; simp,e,h⟩
        · rintro ⟨q,h1,h2,h3,h4⟩
          rw [push_has,Bool.or_eq_true] at h2
          rcases h2 with h2|h2
          · exact .inl ⟨q,h1,h2,h3,h4⟩
          · have hqq := lfA_one hq h1 (by simpa using h2)
            subst hqq
            exact .inr h4
      · (repeat' first|exact trivial|refine And.intro ?_ ?_)<;>first|rfl|skip
      · (repeat' first|exact trivial|refine And.intro ?_ ?_)<;>first|rfl|skip
theorem pop16_le9 : ∀ S < 512,pop16 S ≤ 16 := by decide +kernel
theorem colsM_lt (fb : Nat → Nat → Bool) {n : Nat} (_h8 : n ≤ 8) (S : Nat) : colsM fb n S < 2 ^ n := by
  refine Nat.lt_pow_two_of_testBit _ fun j hj => ?_
  unfold colsM
  rw [qv9,decide_eq_false (by omega)]
  rfl
def linS (fb : Nat → Nat → Bool) (n S : Nat) : Nat := pop16 S + pop16 (colsM fb n S)
theorem countLines_spec (fb : Nat → Nat → Bool) (n S : Nat) (h8 : n ≤ 8) (hS : S < 512) : Sp Tryz.prog 83 [.agg (bdN fb n),.u S] (.i (linS fb n S : Nat)) := by
  have hl := colsM_lt fb h8 S
  have h9 : 2 ^ n ≤ 2 ^ 8 := Nat.pow_le_pow_right (by decide) h8
  have h1 := sizeP_spec S hS
  have h2 := columnsBeside_spec fb n S h8 (by omega)
  have h3 := sizeP_spec (colsM fb n S) (by omega)
  unfold linS
  generalize colsM fb n S = C at *
  have hp1 := pop16_le9 S hS
  have hp2 := pop16_le9 C (by omega)
  refine qy7 Tryz.func83 rfl cc83 rfl ?_
  unfold ac83
  repeat (first|((first|refine qz0 ?_|refine qzh ?_);(first|(refine m_mov (by conv => lhs; whnf) ?_)|(refine m_box rfl ?_ ?_;(· first|rfl|(simp [cellOk,Value.oneCell']; done)))))|refine qz1 ?_|refine qz3 ?_|refine qw3 ?_)
  refine qzh ?_;(apply qza (h1));(· repeat (first|exact qz4|(refine qz2 ?_ ?_;(· exact qzd))))
  repeat (refine qzh ?_;(first|(refine m_mov (by conv => lhs; whnf) ?_)|(refine qv7 rfl rfl ?_ ?_;(· first|rfl|(simp; done)|(simp [*]; done)))))
  refine qzh ?_
  refine qza h2 (qz2 (qwi rfl) (qz2 qzd qz4)) ?_
  skip
  refine qzh ?_;(apply qza (h3));(· repeat (first|exact qz4|(refine qz2 ?_ ?_;(· exact qzd))))
  repeat (first|(refine qzh ?_;(first|(refine m_mov (by conv => lhs; whnf) ?_)|(refine m_add rfl rfl ?_ ?_ ?_;(· omega);(· omega))))|refine qxc ?_|refine qzj ?_|refine qzc ?_)
  exact qxa rfl
end Go.Proofs.YtngfogpbljconaaGreatDoor
namespace Go.Am
variable [Go.Am.CodeBlk]
section
variable {P : Program} {own : Bool} {s : AS} {K : AS → Prop} {d : Option Nat} {x y : Opd} {a b : Nat}
theorem m_lss16 (hx : s.ev x = .u a) (hy : s.ev y = .u b) (kk : K (s.put d (.b (decide (a < b))))) : aop1 P own ⟨d,.bin .lss x y,none⟩ s K := by
  refine ⟨_,_,_,hx,hy,?_,kk⟩
  show some (Value.bool (decide ((a : Int) < (b : Int)))) = some (Value.bool (decide (a < b)))
  congr 2
  exact decide_eq_decide.2 Int.ofNat_lt
theorem m_add16 (hx : s.ev x = .u a) (hy : s.ev y = .u b) (h : a + b < 65536) (kk : K (s.put d (.u (a + b)))) : aop1 P own ⟨d,.bin .add x y,none⟩ s K := by
  refine ⟨_,_,_,hx,hy,?_,kk⟩
  exact (congrArg (fun z : Int => some (Value.int .u16 (IntKind.u16.wrap z))) (Int.natCast_add a b).symm).trans (congrArg (fun z : Int => some (Value.int .u16 z)) (wrap16 h))
end
end Go.Am
namespace Go.Proofs.YtngfogpbljconaaGreatDoor
variable [Go.Am.CodeBlk]
open Go.Am
attribute [local irreducible] AW Outs Weak Lends Lend Sp aops atree aop1 Then Round InBlock Done
attribute [local irreducible] SpH SpX DoneH DoneX
def ordS (fb : Nat → Nat → Bool) (n a b : Nat) : Int := if (if ((linS fb n a : Nat) : Int) < ((linS fb n b : Nat) : Int) then (-1 : Int) else if ((linS fb n b : Nat) : Int) < ((linS fb n a : Nat) : Int) then 1 else 0) ≠ 0 then (if ((linS fb n a : Nat) : Int) < ((linS fb n b : Nat) : Int) then (-1 : Int) else if ((linS fb n b : Nat) : Int) < ((linS fb n a : Nat) : Int) then 1 else 0) else ordC (memL a 12) (memL b 12)
def bestS (fb : Nat → Nat → Bool) (n : Nat) : Nat → Nat
  | 0 => 0
  | k + 1 => if ordS fb n k (bestS fb n k) < 0 then k else bestS fb n k
theorem bestS_lt (fb : Nat → Nat → Bool) (n : Nat) : ∀ k,bestS fb n k ≤ k
  | 0 => Nat.le_refl _
  | k + 1 => by have := bestS_lt fb n k; simp only [bestS]; split <;> omega
theorem fewestLines_spec (fb : Nat → Nat → Bool) (n : Nat) (h1 : 1 ≤ n) (h8 : n ≤ 8) : Sp Tryz.prog 53 [.agg (bdN fb n)] (.u (bestS fb n (2 ^ n))) := by
  have h9 : 2 ^ n ≤ 2 ^ 8 := Nat.pow_le_pow_right (by decide) h8
  refine qy7 Tryz.func53 rfl cc53 rfl ?_
  unfold ac53
  repeat (first|(refine qz0 ?_;(first|(refine m_mov (by conv => lhs; whnf) ?_)|(apply qx8;(· rfl);(· rfl);(· rfl))|(refine m_fa rfl ?_)|(refine m_box rfl ?_ ?_;(· first|rfl|(simp [cellOk,Value.oneCell']; done)))))|refine qz1 ?_|refine qz3 ?_|refine qz6 ?_)
  refine qz0 ?_
  refine m_shl16 (k := n) rfl rfl (by omega) ?_
  repeat (first|(refine qz0 ?_;(refine m_mov (by conv => lhs; whnf) ?_))|refine qz1 ?_|refine qz8 ?_)
  refine qyf (α := Nat) (fun k => k ≤ 2 ^ n) (fun k => st [(1,.pt 1 0),(3,.u (bestS fb n k)),(8,.u (1 <<< n)),(9,.u k)] [(1,(true,bdN fb n))]) (fun k => 2 ^ n - k) 0 (Nat.zero_le _) (qz9 ?_ ?_ rfl rfl) ?_
  · (repeat' first|exact trivial|refine And.intro ?_ ?_)<;>first|rfl|skip
  · (repeat' first|exact trivial|refine And.intro ?_ ?_)<;>first|rfl|skip
  intro k hk
  have hbl := bestS_lt fb n k
  have hsh : 1 <<< n = 2 ^ n := by rw [Nat.shiftLeft_eq,Nat.one_mul]
  rw [hsh]
  by_cases hc : k < 2 ^ n
  · have a1 := countLines_spec fb n k h8 (by omega)
    have a2 := countLines_spec fb n (bestS fb n k) h8 (by omega)
    have a3 := cmpCompare_spec ((linS fb n k : Nat) : Int) ((linS fb n (bestS fb n k) : Nat) : Int)
    have a4 := setNumbers_spec k (by omega)
    have a5 := setNumbers_spec (bestS fb n k) (by omega)
    have a6 := slicesCompare_spec (memL k 12) (memL (bestS fb n k) 12) (by have := qw5 k 12; omega) (by have := qw5 (bestS fb n k) 12; omega)
    refine qz6 ?_
    refine qy5 ?_
    refine qz0 ?_
    refine m_lss16 rfl rfl ?_
    repeat (first|((first|refine qz0 ?_|refine qzh ?_);(first|(refine m_mov (by conv => lhs; whnf) ?_)|(refine qv7 rfl rfl ?_ ?_;(· first|rfl|(simp; done)|(simp [*]; done)))))|refine qz1 ?_|refine qz3 ?_|refine qw3 ?_|(refine qzf rfl ?_ ?_;(· (refine decide_eq_true ?_; assumption)))|refine qz5 ?_|refine qz6 ?_|refine qz7 ?_|refine qz8 ?_)
    refine qzh ?_
    refine qza a1 (qz2 (qwi rfl) (qz2 qzd qz4)) ?_
    repeat (refine qzh ?_;(first|(refine m_mov (by conv => lhs; whnf) ?_)|(refine qv7 rfl rfl ?_ ?_;(· first|rfl|(simp; done)|(simp [*]; done)))))
    refine qzh ?_
    refine qza a2 (qz2 (qwi rfl) (qz2 qzd qz4)) ?_
    skip
    refine qzh ?_;(apply qza (a3));(· repeat (first|exact qz4|(refine qz2 ?_ ?_;(· exact qzd))))
    generalize hV : (if ((linS fb n k : Nat) : Int) < ((linS fb n (bestS fb n k) : Nat) : Int) then (-1 : Int) else if ((linS fb n (bestS fb n k) : Nat) : Int) < ((linS fb n k : Nat) : Int) then 1 else 0) = V
    have a7 := cmpOr_spec V (ordC (memL k 12) (memL (bestS fb n k) 12))
    have hO : ordS fb n k (bestS fb n k) = if V ≠ 0 then V else ordC (memL k 12) (memL (bestS fb n k) 12) := by
      unfold ordS
      rw [hV]
    rw [← hO] at a7
    repeat' (first
      | ((first|((first|refine qz0 ?_|refine qzh ?_);(first|(refine m_mov (by conv => lhs; whnf) ?_)|(refine m_lss rfl rfl ?_)))|refine qz1 ?_|refine qz3 ?_|refine qxc ?_))
      | (refine step_two ?_ ?_)
      | (refine qzh ?_; refine qza a4 (qz2 qzd qz4) ?_)
      | (refine qzh ?_; refine qza a5 (qz2 qzd qz4) ?_)
      | (refine qzh ?_; refine qza a6 (qz2 (qy2 rfl) (qz2 (qy2 rfl) qz4)) ?_)
      | (refine qzh ?_; refine m_bsl2i rfl rfl ?_)
      | (refine qzh ?_; refine qza a7 (qz2 (qw9 (by rfl) rfl) qz4) ?_))
    all_goals
      by_cases hlt : ordS fb n k (bestS fb n k) < 0
    all_goals
      repeat (first|(refine qz0 ?_;(refine m_mov (by conv => lhs; whnf) ?_))|refine qz1 ?_|refine qy5 ?_|(refine qzf rfl ?_ ?_;(· (refine decide_eq_true ?_; assumption)))|(refine qzi rfl ?_ ?_;(· (refine decide_eq_false ?_; assumption)))|refine qz7 ?_|refine qze ?_|refine qx6 ?_)
      refine qz0 ?_
      refine m_add16 (a := k) (b := 1) rfl rfl (by omega) ?_
      repeat (first|(refine qz0 ?_;(refine m_mov (by conv => lhs; whnf) ?_))|refine qz1 ?_)
      refine qzb (k + 1) (by omega) (qz9 ?_ ?_ rfl rfl) ?_
    all_goals (try omega)
    all_goals (first|(rw [show bestS fb n (k + 1) = k from if_pos hlt];(repeat' first|exact trivial|refine And.intro ?_ ?_)<;>first|rfl|skip; done)|(rw [show bestS fb n (k + 1) = bestS fb n k from if_neg hlt];(repeat' first|exact trivial|refine And.intro ?_ ?_)<;>first|rfl|skip; done)|(repeat' first|exact trivial|refine And.intro ?_ ?_)<;>first|rfl|skip)
  · obtain rfl : k = 2 ^ n := by omega
    refine qz6 ?_
    refine qy5 ?_
    refine qz0 ?_
    refine m_lss16 rfl rfl ?_
    repeat (first|(refine qz0 ?_;(refine m_mov (by conv => lhs; whnf) ?_))|refine qz1 ?_|refine qz3 ?_|(refine qzi rfl ?_ ?_;(· (refine decide_eq_false ?_; assumption)))|refine qz6 ?_|refine qzj ?_|refine qzc ?_|refine qz7 ?_|refine qy1 ?_|refine qy0 ?_|refine qy9 ?_|refine qzg ?_)
    exact outs_v
end Go.Proofs.YtngfogpbljconaaGreatDoor
namespace Go.Proofs.YtngfogpbljconaaGreatDoor
variable [Go.Am.CodeBlk]
open Go.Am
theorem ordC_irr : ∀ a : List Int,ordC a a = 0
  | [] => rfl
  | x :: a => by simp [ordC,ordC_irr a]
theorem ordC_trans : ∀ {a b c : List Int},ordC a b < 0 → ordC b c < 0 → ordC a c < 0
  | [],[],_,h,_ => by simp [ordC] at h
  | [],_ :: _,[],_,h => by simp [ordC] at h
  | [],_ :: _,_ :: _,_,_ => by simp [ordC]
  | _ :: _,[],_,h,_ => by simp [ordC] at h
  | _ :: _,_ :: _,[],_,h => by simp [ordC] at h
  | x :: a,y :: b,z :: c,h1,h2 => by
    simp only [ordC] at h1 h2 ⊢
    by_cases e1 : x < y
    · by_cases e2 : y < z
      · rw [if_pos (by omega)]; decide
      · by_cases e3 : z < y
        · rw [if_neg e2,if_pos e3] at h2; omega
        · rw [if_pos (by omega)]; decide
    · by_cases e4 : y < x
      · rw [if_neg e1,if_pos e4] at h1; omega
      · obtain rfl : x = y := by omega
        by_cases e2 : x < z
        · rw [if_pos e2]; decide
        · by_cases e3 : z < x
          · rw [if_neg e2,if_pos e3] at h2; omega
          · rw [if_neg e2,if_neg e3]
            rw [if_neg (by omega),if_neg (by omega)] at h1
            rw [if_neg e2,if_neg e3] at h2
            exact ordC_trans h1 h2
theorem ordC_total : ∀ {a b : List Int},¬ ordC a b < 0 → ¬ ordC b a < 0 → a = b
  | [],[],_,_ => rfl
  | [],_ :: _,h,_ => by simp [ordC] at h
  | _ :: _,[],_,h => by simp [ordC] at h
  | x :: a,y :: b,h1,h2 => by
    simp only [ordC] at h1 h2
    by_cases e1 : x < y
    · rw [if_pos e1] at h1; exact absurd (by decide) h1
    · by_cases e2 : y < x
      · rw [if_pos e2] at h2; exact absurd (by decide) h2
      · obtain rfl : x = y := by omega
        rw [if_neg e1,if_neg e1] at h1 h2
        rw [ordC_total h1 h2]
theorem memL_mem {S k : Nat} {i : Nat} : ((i : Nat) : Int) ∈ memL S k ↔ i < k ∧ S.testBit i = true := by
  unfold memL
  rw [List.mem_map]
  constructor
  · rintro ⟨j,hj,e⟩
    obtain rfl : j = i := by omega
    rw [List.mem_filter,List.mem_range] at hj
    exact hj
  · intro h
    exact ⟨i,by rw [List.mem_filter,List.mem_range]; exact h,rfl⟩
theorem bit_big {S n i : Nat} (hS : S < 2 ^ n) (hi : n ≤ i) : S.testBit i = false :=
  Nat.testBit_lt_two_pow (Nat.lt_of_lt_of_le hS (Nat.pow_le_pow_right (by decide) hi))
theorem memL_inj {S T n : Nat} (hS : S < 2 ^ n) (hT : T < 2 ^ n) (h : memL S n = memL T n) : S = T := by
  refine Nat.eq_of_testBit_eq fun i => ?_
  by_cases hi : i < n
  · have h1 := memL_mem (S := S) (k := n) (i := i)
    have h2 := memL_mem (S := T) (k := n) (i := i)
    rw [h] at h1
    rw [Bool.eq_iff_iff]
    exact ⟨fun e => (h2.1 (h1.2 ⟨hi,e⟩)).2,fun e => (h1.1 (h2.2 ⟨hi,e⟩)).2⟩
  · rw [bit_big hS (by omega),bit_big hT (by omega)]
theorem memL_more {S n : Nat} (hS : S < 2 ^ n) : ∀ d,memL S (n + d) = memL S n
  | 0 => rfl
  | d + 1 => by
    rw [← Nat.add_assoc,memL_succ,if_neg (by rw [bit_big hS (by omega)]; decide),memL_more hS d]
theorem memL_12 {S n : Nat} (hS : S < 2 ^ n) (hn : n ≤ 12) : memL S 12 = memL S n := by
  have := memL_more hS (12 - n)
  rwa [show n + (12 - n) = 12 by omega] at this
theorem memL_cnt (S : Nat) : ∀ k,(memL S k).length = cntB (fun i => S.testBit i) k
  | 0 => rfl
  | k + 1 => by
    rw [memL_succ,cntB]
    split
    · rw [List.length_append,memL_cnt S k]; rfl
    · rw [memL_cnt S k]; rfl
theorem cnt_sumN (p : Nat → Bool) : ∀ k,sumN k (fun i => if p i then 1 else 0) = cntB p k
  | 0 => rfl
  | k + 1 => by rw [sumN,cntB,cnt_sumN p k]
theorem cntB_more' {p : Nat → Bool} {n : Nat} (h : ∀ i,n ≤ i → p i = false) : ∀ d,cntB p (n + d) = cntB p n
  | 0 => rfl
  | d + 1 => by rw [← Nat.add_assoc,cntB,h _ (by omega),cntB_more' h d]; rfl
theorem pop16_mem {S n : Nat} (hS : S < 2 ^ n) (hn : n ≤ 16) : pop16 S = (memL S n).length := by
  rw [memL_cnt]
  unfold pop16
  rw [cnt_sumN (fun i => S.testBit i)]
  have := cntB_more' (p := fun i => S.testBit i) (n := n) (fun i hi => bit_big hS hi) (16 - n)
  rwa [show n + (16 - n) = 16 by omega] at this
theorem maskB_lt (p : Nat → Bool) (n : Nat) : maskB p n < 2 ^ n := by
  refine Nat.lt_pow_two_of_testBit _ fun i hi => ?_
  rw [qv9]
  simp; omega
theorem linS_mem {fb : Nat → Nat → Bool} {n S : Nat} (hS : S < 2 ^ n) (hn : n ≤ 16) : linS fb n S = (memL S n).length + (memL (colsM fb n S) n).length := by
  unfold linS
  rw [pop16_mem hS hn,pop16_mem (S := colsM fb n S) (maskB_lt _ n) hn]
theorem linS_lines {fb : Nat → Nat → Bool} {n S : Nat} (hS : S < 2 ^ n) (hn : n ≤ 16) : linS fb n S = linesB fb n fun i => S.testBit i := by
  rw [linS_mem hS hn,memL_cnt,memL_cnt]
  unfold linesB colsM
  congr 1
  exact qwj fun j hj => by rw [qv9]; simp [hj]
theorem lines_mask (fb : Nat → Nat → Bool) (n : Nat) (A : Nat → Bool) : linesB fb n (fun i => (maskB A n).testBit i) = linesB fb n A := by
  unfold linesB
  rw [qwj (p := fun i => (maskB A n).testBit i) (q := A) (n := n) fun i hi => by rw [qv9]; simp [hi],
    qwj (p := nbB fb n 0 fun i => !(maskB A n).testBit i) (q := nbB fb n 0 fun i => !A i) (n := n) fun j hj => nbB_congr (fun i hi => by rw [qv9]; simp [hi]) j hj]
theorem ordS_lt {fb : Nat → Nat → Bool} {n a b : Nat} : ordS fb n a b < 0 ↔ linS fb n a < linS fb n b ∨ linS fb n a = linS fb n b ∧ ordC (memL a 12) (memL b 12) < 0 := by
  unfold ordS
  by_cases h1 : linS fb n a < linS fb n b
  · have : ((linS fb n a : Nat) : Int) < ((linS fb n b : Nat) : Int) := by omega
    simp only [if_pos this]
    exact ⟨fun _ => Or.inl h1,fun _ => by rw [if_pos (by decide)]; decide⟩
  · have h2 : ¬ ((linS fb n a : Nat) : Int) < ((linS fb n b : Nat) : Int) := by omega
    by_cases h3 : linS fb n b < linS fb n a
    · have h4 : ((linS fb n b : Nat) : Int) < ((linS fb n a : Nat) : Int) := by omega
      simp only [if_neg h2,if_pos h4]
      exact ⟨fun h => absurd h (by rw [if_pos (by decide)]; decide),fun h => by omega⟩
    · have h4 : ¬ ((linS fb n b : Nat) : Int) < ((linS fb n a : Nat) : Int) := by omega
      simp only [if_neg h2,if_neg h4]
      rw [if_neg (by decide)]
      exact ⟨fun h => Or.inr ⟨by omega,h⟩,fun h => by rcases h with h|h; exact absurd h h1; exact h.2⟩
theorem ordS_trans {fb : Nat → Nat → Bool} {n a b c : Nat} (h1 : ordS fb n a b < 0) (h2 : ordS fb n b c < 0) : ordS fb n a c < 0 := by
  rw [ordS_lt] at h1 h2 ⊢
  rcases h1 with h1|⟨h1,h3⟩ <;> rcases h2 with h2|⟨h2,h4⟩
  · left; omega
  · left; omega
  · left; omega
  · exact Or.inr ⟨by omega,ordC_trans h3 h4⟩
theorem ordS_irr {fb : Nat → Nat → Bool} {n a : Nat} : ¬ ordS fb n a a < 0 := by
  rw [ordS_lt,ordC_irr]
  rintro (h|⟨_,h⟩)
  · omega
  · exact absurd h (by decide)
theorem bestS_best (fb : Nat → Nat → Bool) (n : Nat) : ∀ k,0 < k → bestS fb n k < k ∧ ∀ j,j < k → ¬ ordS fb n j (bestS fb n k) < 0
  | 0,h => by omega
  | 1,_ => by
    have : bestS fb n 1 = 0 := by
      show (if ordS fb n 0 0 < 0 then 0 else 0) = 0
      split <;> rfl
    rw [this]
    exact ⟨by decide, fun j hj => by obtain rfl : j = 0 := by omega
                                     exact ordS_irr⟩
  | k + 2,_ => by
    obtain ⟨h1,h2⟩ := bestS_best fb n (k + 1) (by omega)
    rw [bestS]
    split
    · rename_i h
      refine ⟨by omega,fun j hj hlt => ?_⟩
      by_cases e : j < k + 1
      · exact h2 j e (ordS_trans hlt h)
      · obtain rfl : j = k + 1 := by omega
        exact ordS_irr hlt
    · rename_i h
      refine ⟨by omega,fun j hj hlt => ?_⟩
      by_cases e : j < k + 1
      · exact h2 j e hlt
      · obtain rfl : j = k + 1 := by omega
        exact h hlt
def pickS (fb : Nat → Nat → Bool) (n M : Nat) : Nat → Option Nat
  | 0 => none
  | k + 1 => match pickS fb n M k with
    | none => if linS fb n k = M then some k else none
    | some b => if linS fb n k = M ∧ ordC (memL k n) (memL b n) < 0 then some k else some b
theorem pickS_is (fb : Nat → Nat → Bool) (n M : Nat) : ∀ k,(pickS fb n M k = none → ∀ j,j < k → linS fb n j ≠ M) ∧ ∀ b,pickS fb n M k = some b → b < k ∧ linS fb n b = M ∧ ∀ j,j < k → linS fb n j = M → ¬ ordC (memL j n) (memL b n) < 0
  | 0 => ⟨fun _ j hj => by omega,fun b h => by cases h⟩
  | k + 1 => by
    obtain ⟨h1,h2⟩ := pickS_is fb n M k
    rw [pickS]
    cases e : pickS fb n M k with
    | none =>
      have h3 := h1 e
      dsimp only
      by_cases hk : linS fb n k = M
      · rw [if_pos hk]
        refine ⟨(fun h => by cases h),fun b hb => ?_⟩
        cases hb
        refine ⟨by omega,hk,fun j hj hm => ?_⟩
        by_cases ej : j < k
        · exact absurd hm (h3 j ej)
        · obtain rfl : j = k := by omega
          rw [ordC_irr]; decide
      · rw [if_neg hk]
        refine ⟨fun _ j hj => ?_,(fun b hb => by cases hb)⟩
        by_cases ej : j < k
        · exact h3 j ej
        · obtain rfl : j = k := by omega
          exact hk
    | some b =>
      obtain ⟨hb1,hb2,hb3⟩ := h2 b e
      dsimp only
      by_cases hk : linS fb n k = M ∧ ordC (memL k n) (memL b n) < 0
      · rw [if_pos hk]
        refine ⟨(fun h => by cases h),fun c hc => ?_⟩
        cases hc
        refine ⟨by omega,hk.1,fun j hj hm hlt => ?_⟩
        by_cases ej : j < k
        · exact hb3 j ej hm (ordC_trans hlt hk.2)
        · obtain rfl : j = k := by omega
          rw [ordC_irr] at hlt; exact absurd hlt (by decide)
      · rw [if_neg hk]
        refine ⟨(fun h => by cases h),fun c hc => ?_⟩
        cases hc
        refine ⟨by omega,hb2,fun j hj hm hlt => ?_⟩
        by_cases ej : j < k
        · exact hb3 j ej hm hlt
        · obtain rfl : j = k := by omega
          exact hk ⟨hm,hlt⟩
theorem mostN_pos {f : Nat → Nat} (h0 : 0 < f 0) : ∀ n,0 < f (mostN f n) ∧ ∀ k,mostN f n < k → k ≤ n → ¬ 0 < f k
  | 0 => ⟨h0,fun k h1 h2 => by omega⟩
  | n + 1 => by
    obtain ⟨h1,h2⟩ := mostN_pos h0 n
    rw [mostN]
    split
    · rename_i h
      exact ⟨h,fun k h3 h4 => by omega⟩
    · rename_i h
      refine ⟨h1,fun k h3 h4 => ?_⟩
      by_cases e : k ≤ n
      · exact h2 k h3 e
      · obtain rfl : k = n + 1 := by omega
        exact h
theorem pick_best {fb : Nat → Nat → Bool} {n : Nat} (h8 : n ≤ 8) : pickS fb n (mostN (rkN fb n) n) (2 ^ n) = some (bestS fb n (2 ^ n)) := by
  have h0 : rkN fb n 0 = 1 := rk0 fb n n 0
  obtain ⟨hp1,hp2⟩ := mostN_pos (f := rkN fb n) (by rw [h0]; decide) n
  obtain ⟨hm1,A,hA⟩ := most_lines hp1 hp2
  generalize mostN (rkN fb n) n = M at *
  have hpow : 0 < 2 ^ n := Nat.pow_pos (by decide)
  obtain ⟨hr1,hr2⟩ := bestS_best fb n (2 ^ n) hpow
  generalize bestS fb n (2 ^ n) = r at *
  have hall : ∀ j,j < 2 ^ n → M ≤ linS fb n j := fun j hj => by rw [linS_lines hj (by omega)]; exact hm1 _
  have hj0 := maskB_lt A n
  have hl0 : linS fb n (maskB A n) = M := by rw [linS_lines hj0 (by omega),lines_mask,hA]
  have hlr : linS fb n r = M := by
    have h1 := hr2 _ hj0
    rw [ordS_lt] at h1
    have h2 := hall r hr1
    have h3 : ¬ linS fb n (maskB A n) < linS fb n r := fun h => h1 (Or.inl h)
    omega
  obtain ⟨hq1,hq2⟩ := pickS_is fb n M (2 ^ n)
  cases e : pickS fb n M (2 ^ n) with
  | none => exact absurd hl0 (hq1 e _ hj0)
  | some b =>
    obtain ⟨hb1,hb2,hb3⟩ := hq2 b e
    have h1 := hb3 r hr1 hlr
    have h2 : ¬ ordC (memL b n) (memL r n) < 0 := fun h => hr2 b hb1 (ordS_lt.2 (Or.inr ⟨by omega,by rw [memL_12 hb1 (by omega),memL_12 hr1 (by omega)]; exact h⟩))
    rw [memL_inj hb1 hr1 (ordC_total h2 h1)]
end Go.Proofs.YtngfogpbljconaaGreatDoor
namespace Go.Proofs.YtngfogpbljconaaGreatDoor
variable [Go.Am.CodeBlk]
open Go.Am
attribute [local irreducible] AW Outs Weak Lends Lend Sp aops atree aop1 Then Round InBlock Done
attribute [local irreducible] SpH SpX DoneH DoneX
theorem bdLess_spec (a b : List Int) (ha : a.length ≤ 1048576) (_hb : b.length ≤ 1048576) : Sp Tryz.prog 59 [ints a,ints b] (.b (decide (ordC a b < 0))) := by
  have h0 : ordC (a.drop 0) (b.drop 0) = ordC a b := rfl
  generalize ordC a b = T at h0 ⊢
  refine qy7 Tryz.func59 rfl cc59 rfl ?_
  unfold ac59
  repeat (first|(refine qz0 ?_;(refine m_mov (by conv => lhs; whnf) ?_))|refine qz1 ?_|refine qz3 ?_|refine qz6 ?_|refine qz8 ?_)
  refine qyf (α := Nat) (fun k => k ≤ a.length ∧ (k ≤ b.length) ∧ ordC (a.drop k) (b.drop k) = T) (fun k => st [(0,ints a),(1,ints b),(5,.i (k : Nat))] []) (fun k => a.length - k) 0 ⟨Nat.zero_le _,Nat.zero_le _,h0⟩ (qz9 ?_ ?_ rfl rfl) ?_
  · (repeat' first|exact trivial|refine And.intro ?_ ?_)<;>first|rfl|skip
  · trivial
  rintro k ⟨hk,hkb,he⟩
  by_cases hc : k < a.length
  · by_cases hc2 : k < b.length
    · rw [ordC_step hc hc2] at he
      by_cases hx : a.getD k 0 = b.getD k 0
      · rw [if_neg (by omega),if_neg (by omega)] at he
        repeat (first|((first|refine qz0 ?_|refine qzh ?_);((try (refine g_yes rfl ?_ ?_;(· (refine decide_eq_true ?_; omega))));(first|(refine m_mov (by conv => lhs; whnf) ?_)|(refine m_lss rfl rfl ?_)|(refine m_neq rfl rfl ?_)|(refine m_add rfl rfl ?_ ?_ ?_;(· omega);(· omega))|(refine qy4 rfl ?_)|(refine qy6 rfl rfl ?_ ?_;(· omega))|(refine qyg rfl ?_ ?_;(· omega))|(refine qye rfl ?_ (by conv => lhs; whnf) ?_;(· (refine decide_eq_true ?_; omega))))))|refine qz1 ?_|refine qz3 ?_|refine qy5 ?_|refine qxc ?_|refine qw3 ?_|(refine qzf rfl ?_ ?_;(· (refine decide_eq_true ?_; omega)))|(refine qzi rfl ?_ ?_;(· (refine decide_eq_false ?_; omega)))|refine qz5 ?_|refine qz6 ?_|refine qz7 ?_|refine qz8 ?_|refine qze ?_|refine qx6 ?_)
        refine qzb (k + 1) ⟨hc,hc2,he⟩ (qz9 ?_ ?_ rfl rfl) ?_
        · (repeat' first|exact trivial|refine And.intro ?_ ?_)<;>first|rfl|skip
        · trivial
        · omega
      · by_cases hlt : a.getD k 0 < b.getD k 0
        · rw [if_pos hlt] at he
          subst he
          repeat (first|((first|refine qz0 ?_|refine qzh ?_);((try (refine g_yes rfl ?_ ?_;(· (refine decide_eq_true ?_; omega))));(first|(refine m_mov (by conv => lhs; whnf) ?_)|(refine m_lss rfl rfl ?_)|(refine m_neq rfl rfl ?_)|(refine qy4 rfl ?_)|(refine qy6 rfl rfl ?_ ?_;(· omega))|(refine qyg rfl ?_ ?_;(· omega))|(refine qye rfl ?_ (by conv => lhs; whnf) ?_;(· (refine decide_eq_true ?_; omega))))))|refine qz1 ?_|refine qz3 ?_|refine qxc ?_|refine qw3 ?_|(refine qzf rfl ?_ ?_;(· first|(refine decide_eq_true ?_; assumption)|(refine decide_eq_true ?_; omega)))|refine qz5 ?_|refine qz6 ?_|refine qzj ?_|refine qzc ?_|refine qy8 ?_|refine qz8 ?_|refine qx7 ?_|refine qxd ?_)
          exact qyb (decide_eq_decide.2 ⟨fun _ => by omega,fun _ => by omega⟩)
        · rw [if_neg hlt,if_pos (by omega)] at he
          subst he
          repeat (first|((first|refine qz0 ?_|refine qzh ?_);((try (refine g_yes rfl ?_ ?_;(· (refine decide_eq_true ?_; omega))));(first|(refine m_mov (by conv => lhs; whnf) ?_)|(refine m_lss rfl rfl ?_)|(refine m_neq rfl rfl ?_)|(refine qy4 rfl ?_)|(refine qy6 rfl rfl ?_ ?_;(· omega))|(refine qyg rfl ?_ ?_;(· omega))|(refine qye rfl ?_ (by conv => lhs; whnf) ?_;(· (refine decide_eq_true ?_; omega))))))|refine qz1 ?_|refine qz3 ?_|refine qxc ?_|refine qw3 ?_|(refine qzf rfl ?_ ?_;(· first|(refine decide_eq_true ?_; assumption)|(refine decide_eq_true ?_; omega)))|refine qz5 ?_|refine qz6 ?_|refine qzj ?_|refine qzc ?_|refine qy8 ?_|refine qz8 ?_|refine qx7 ?_|refine qxd ?_)
          exact qyb (decide_eq_decide.2 ⟨fun _ => by omega,fun _ => by omega⟩)
    · rw [ordC_right hc (by omega)] at he
      subst he
      have : ¬ a.length < b.length := by omega
      repeat (first|(refine qz0 ?_;((try (refine g_yes rfl ?_ ?_;(· (refine decide_eq_true ?_; omega))));(first|(refine m_mov (by conv => lhs; whnf) ?_)|(refine m_lss rfl rfl ?_)|(refine qy4 rfl ?_)|(refine qye rfl ?_ (by conv => lhs; whnf) ?_;(· (refine decide_eq_true ?_; omega))))))|refine qz1 ?_|refine qz3 ?_|(refine qzi rfl ?_ ?_;(· (refine decide_eq_false ?_; omega)))|refine qz6 ?_|refine qzj ?_|refine qzc ?_|refine qz7 ?_|refine qy1 ?_|refine qy0 ?_|refine qy9 ?_|refine qzg ?_)
      exact qyb (decide_eq_decide.2 ⟨fun _ => by omega,fun _ => by omega⟩)
  · rw [ordC_end (by omega)] at he
    by_cases hl : k < b.length
    · rw [if_pos hl] at he
      subst he
      have : a.length < b.length := by omega
      repeat (first|(refine qz0 ?_;(first|(first|(refine m_mov (by conv => lhs; whnf) ?_)|(refine m_lss rfl rfl ?_)|(refine qy4 rfl ?_)|(refine qy3 rfl ?_ (by conv => lhs; whnf) ?_;(· (refine decide_eq_false ?_; omega))))|(refine g_noT rfl ?_ ?_;(· (refine decide_eq_false ?_; omega)))))|refine qz1 ?_|refine qz3 ?_|(refine qzi rfl ?_ ?_;(· rfl))|refine qz6 ?_|refine qzj ?_|refine qzc ?_|refine qz7 ?_|refine qy1 ?_|refine qy0 ?_|refine qy9 ?_|refine qzg ?_)
      exact qyb (decide_eq_decide.2 ⟨fun _ => by omega,fun _ => by omega⟩)
    · rw [if_neg hl] at he
      subst he
      have : ¬ a.length < b.length := by omega
      repeat (first|(refine qz0 ?_;(first|(first|(refine m_mov (by conv => lhs; whnf) ?_)|(refine m_lss rfl rfl ?_)|(refine qy4 rfl ?_)|(refine qy3 rfl ?_ (by conv => lhs; whnf) ?_;(· (refine decide_eq_false ?_; omega))))|(refine g_noT rfl ?_ ?_;(· (refine decide_eq_false ?_; omega)))))|refine qz1 ?_|refine qz3 ?_|(refine qzi rfl ?_ ?_;(· rfl))|refine qz6 ?_|refine qzj ?_|refine qzc ?_|refine qz7 ?_|refine qy1 ?_|refine qy0 ?_|refine qy9 ?_|refine qzg ?_)
      exact qyb (decide_eq_decide.2 ⟨fun _ => by omega,fun _ => by omega⟩)
def flS (B : List UInt8) : Nat := bestS (fbB B) (sdB B) (2 ^ sdB B)
def flRow (B : List UInt8) : List Int := if GoodBd B then memL (flS B) (sdB B) else []
def flCol (B : List UInt8) : List Int := if GoodBd B then memL (colsM (fbB B) (sdB B) (flS B)) (sdB B) else []
theorem flRow_len (B : List UInt8) : (flRow B).length ≤ 1048576 := by
  unfold flRow
  split
  · rename_i h
    have := qx5 h
    have := qw5 (flS B) (sdB B); omega
  · simp
theorem flCol_len (B : List UInt8) : (flCol B).length ≤ 1048576 := by
  unfold flCol
  split
  · rename_i h
    have := qx5 h
    have := qw5 (colsM (fbB B) (sdB B) (flS B)) (sdB B); omega
  · simp
def flR (B : List UInt8) : AV := .tup [.sl nbase 1 0 (flRow B).length,.sl (nbase + 1) 1 0 (flCol B).length,.b (decide (GoodBd B))]
abbrev twoH (a b : List Int) : List (Nat × (Bool × List AV)) := [(nbase,(true,a.map AV.i)),(nbase + 1,(true,b.map AV.i))]
def twoG (x y : Nat) : Nat → Nat := fun r => if r = nbase then x else y
theorem fl_own (q : Bool) (L : List Int) : ownL q (L.map AV.i) = true := by
  induction L with
  | nil => rfl
  | cons a l ih => show (ownV q (AV.i a) && ownL q (l.map AV.i)) = true; rw [ih]; rfl
theorem fl_refs (keep : Nat → Bool) (L : List Int) : refsL keep (L.map AV.i) = true := by
  induction L with
  | nil => rfl
  | cons a l ih => show (refsV keep (AV.i a) && refsL keep (l.map AV.i)) = true; rw [ih]; rfl
theorem static_two (a b : List Int) (n m : Nat) (x : Bool) : Static (Am.look []) (.tup [.sl nbase 1 0 n,.sl (nbase + 1) 1 0 m,.b x]) (Am.look (twoH a b)) :=
  quc (by simp) (fun p hp => by
    rcases List.mem_cons.1 hp with rfl|hp
    · exact ⟨fl_own _ _,fl_refs _ _⟩
    · rw [List.mem_singleton] at hp; subst hp; exact ⟨fl_own _ _,fl_refs _ _⟩) ⟨rfl,by simp [refsV,refsL,Am.look]⟩
theorem ret_two {s : AS} {ts : List Nat} {a b : List Int} {n m x y : Nat} {q : Bool} (h1 : resAV s ts = .tup [.sl x 1 0 n,.sl y 1 0 m,.b q]) (h2 : s.hp x = some (true,a.map AV.i)) (h3 : s.hp y = some (true,b.map AV.i)) (hne : x ≠ y) (hx : x < pbase) (hy : y < pbase) :
    DoneH ts (.tup [.sl nbase 1 0 n,.sl (nbase + 1) 1 0 m,.b q]) (Am.look []) (Am.look (twoH a b)) .ret s := by
  refine ret_R (hl := []) (twoG x y) ?_ ⟨⟨_,h2,.inl ?_⟩,⟨_,h3,.inl ?_⟩,trivial⟩ (by simp) ?_ ?_
  · rw [h1]; rfl
  · exact congrArg (Prod.mk true) (qwg _ _).symm
  · exact congrArg (Prod.mk true) (qwg _ _).symm
  · intro p hp
    refine .inr ?_
    rcases List.mem_cons.1 hp with rfl|hp
    · exact hx
    · rw [List.mem_singleton] at hp; subst hp; exact hy
  · show [x,y].Nodup
    simp [hne]
theorem implFewestLines_spec (B : List UInt8) (hB : B.length ≤ 1048576) : SpH Tryz.prog 27 [str B] (Am.look []) (flR B) (Am.look (twoH (flRow B) (flCol B))) := by
  have hr := qxj B hB
  unfold bdR bdV at hr
  have hst := static_two (flRow B) (flCol B) (flRow B).length (flCol B).length (decide (GoodBd B))
  unfold flR
  refine specH_of Tryz.func27 rfl cc27 rfl (by first|exact static_mat1 _|exact static_mat2 _ _|assumption) ?_
  unfold ac27
  by_cases h : GoodBd B
  · rw [if_pos h] at hr
    have hsd := qx5 h
    have hk := fewestLines_spec (fbB B) (sdB B) hsd.1 hsd.2
    have hlt : flS B < 2 ^ sdB B := (bestS_best (fbB B) (sdB B) (2 ^ sdB B) (Nat.pow_pos (by decide))).1
    have h9 : 2 ^ sdB B ≤ 2 ^ 8 := Nat.pow_le_pow_right (by decide) hsd.2
    have hcl := maskB_lt (nbB (fbB B) (sdB B) 0 fun i => !(flS B).testBit i) (sdB B)
    have hc := columnsBeside_spec (fbB B) (sdB B) (flS B) hsd.2 (by omega)
    have a1 := setNumbers_spec (flS B) (by omega)
    have a2 := setNumbers_spec (colsM (fbB B) (sdB B) (flS B)) (by show maskB _ _ < _; omega)
    rw [memL_12 hlt (by omega),show memL (flS B) (sdB B) = flRow B from (if_pos h).symm] at a1
    rw [memL_12 (show colsM (fbB B) (sdB B) (flS B) < 2 ^ sdB B from hcl) (by omega),show memL (colsM (fbB B) (sdB B) (flS B)) (sdB B) = flCol B from (if_pos h).symm] at a2
    rw [show bestS (fbB B) (sdB B) (2 ^ sdB B) = flS B from rfl] at hk
    unfold bdN at hk hc
    clear hst
    repeat (first|(refine qz0 ?_;(first|(refine m_mov (by conv => lhs; whnf) ?_)|(refine qx2 ?_)))|refine qz1 ?_|refine qz3 ?_)
    refine qz0 ?_;(apply qza (hr));(· repeat (first|exact qz4|(refine qz2 ?_ ?_;(· exact qzd))))
    repeat (first|(refine qz0 ?_;(first|(refine m_mov (by conv => lhs; whnf) ?_)|(refine m_not rfl ?_)|(refine m_ext rfl rfl ?_)|(refine qxb ?_)|(refine qv7 rfl rfl ?_ ?_;(· first|rfl|(simp; done)|(simp [*]; done)))|(refine qx9 rfl rfl rfl ?_ ?_ ?_ ?_;(· first|rfl|(simp [*]; done));(· first|rfl|(simp [*]; done));(· first|rfl|(simp [cellOk,Value.oneCell']; done)))))|refine qz1 ?_|refine qz3 ?_|(refine qzi rfl ?_ ?_;(· (refine nf ?_; assumption)))|refine qz5 ?_|refine qz6 ?_)
    refine qz0 ?_
    refine qza hk (qz2 (qwi rfl) qz4) ?_
    repeat (first|((first|refine qz0 ?_|refine qzh ?_);(refine m_mov (by conv => lhs; whnf) ?_))|refine qz1 ?_|refine qw3 ?_)
    repeat' (first
      | ((first|(refine qzh ?_;(first|(refine m_mov (by conv => lhs; whnf) ?_)|(refine qv7 rfl rfl ?_ ?_;(· first|rfl|(simp; done)|(simp [*]; done)))))|refine qxc ?_|refine qzj ?_))
      | (refine step_two ?_ ?_)
      | (refine step_alt ?_ ?_)
      | (exact step_top)
      | (refine step_own ?_; refine m_owno a1 (qz2 qzd qz4) (qx0 _) ?_)
      | (refine step_own ?_; refine m_owno a2 (qz2 qzd qz4) (qx0 _) ?_)
      | (refine step_one ?_; refine qwh a1 (qz2 qzd qz4) (qx0 _) ?_)
      | (refine qzh ?_; refine qza hc (qz2 (qwi rfl) (qz2 qzd qz4)) ?_))
    all_goals
      skip
      refine ret_two (x := 18) (y := 22) ?_ rfl rfl (by decide) (by decide) (by decide)
      rw [decide_eq_true h]
      rfl
  · rw [if_neg h] at hr
    have e1 : flRow B = [] := if_neg h
    have e2 : flCol B = [] := if_neg h
    rw [e1,e2]
    repeat (first|(refine qz0 ?_;(first|(refine m_mov (by conv => lhs; whnf) ?_)|(refine qx2 ?_)))|refine qz1 ?_|refine qz3 ?_)
    refine qz0 ?_;(apply qza (hr));(· repeat (first|exact qz4|(refine qz2 ?_ ?_;(· exact qzd))))
    repeat (first|(refine qz0 ?_;(first|(refine m_mov (by conv => lhs; whnf) ?_)|(refine m_not rfl ?_)|(refine qx2 ?_)|(refine m_ext rfl rfl ?_)|(refine qxb ?_)|(refine qx9 rfl rfl rfl ?_ ?_ ?_ ?_;(· first|rfl|(simp [*]; done));(· first|rfl|(simp [*]; done));(· first|rfl|(simp [cellOk,Value.oneCell']; done)))))|refine qz1 ?_|refine qz3 ?_|(refine qzf rfl ?_ ?_;(· (refine nt ?_; assumption)))|refine qz6 ?_|refine qzj ?_|refine qy8 ?_)
    refine ret_two (x := 2) (y := 3) (a := []) (b := []) ?_ rfl rfl (by decide) (by decide) (by decide)
    rw [decide_eq_false h]
    rfl
end Go.Proofs.YtngfogpbljconaaGreatDoor
namespace Go.Am
variable [Go.Am.CodeBlk]
def rowsP (l : List (Nat × Nat)) : List (List Int) := l.map fun p => [(p.1 : Int),(p.2 : Int)]
theorem rowsP_app (a b : List (Nat × Nat)) : rowsP (a ++ b) = rowsP a ++ rowsP b := List.map_append ..
theorem rowsP_row (l : List (Nat × Nat)) : ∀ r ∈ rowsP l,r.length = 2 := by
  intro r hr
  simp only [rowsP,List.mem_map] at hr
  obtain ⟨p,_,rfl⟩ := hr
  rfl
theorem rowP_len (fb : Nat → Nat → Bool) (i k : Nat) : (rowP fb i k).length ≤ k := by
  simp only [rowP,List.length_map]
  exact Nat.le_trans (List.length_filter_le _ _) (by simp)
theorem posP_len (fb : Nat → Nat → Bool) (n k : Nat) : (posP fb n k).length ≤ k * n := by
  induction k with
  | zero => simp [posP]
  | succ k ih =>
    have := rowP_len fb k n
    simp only [posP,List.length_append,Nat.succ_mul]
    omega
def posM (fb : Nat → Nat → Bool) (n k j : Nat) : List (List Int) := rowsP (posP fb n k ++ rowP fb k j)
theorem posM_zero (fb : Nat → Nat → Bool) (n : Nat) : posM fb n 0 0 = [] := rfl
theorem posM_end (fb : Nat → Nat → Bool) (n k : Nat) : posM fb n (k + 1) 0 = posM fb n k n := by
  show rowsP ((posP fb n k ++ rowP fb k n) ++ rowP fb (k + 1) 0) = _
  rw [show rowP fb (k + 1) 0 = [] from rfl,List.append_nil]
  rfl
theorem posM_snoc (fb : Nat → Nat → Bool) (n k j : Nat) : posM fb n k (j + 1) = posM fb n k j ++ if fb k j then [[(k : Int),(j : Int)]] else [] := by
  simp only [posM,rowP_snoc,← List.append_assoc]
  rw [rowsP_app]
  split <;> simp [rowsP]
theorem posM_len {fb : Nat → Nat → Bool} {n k j : Nat} (hn : n ≤ 8) (hk : k ≤ n) (hj : j ≤ n) : (posM fb n k j).length ≤ 72 := by
  have h1 := posP_len fb n k
  have h2 := rowP_len fb k j
  have h3 : k * n ≤ 8 * 8 := Nat.mul_le_mul (by omega) hn
  simp only [posM,rowsP,List.length_map,List.length_append]
  omega
theorem posM_row (fb : Nat → Nat → Bool) (n k j : Nat) : ∀ r ∈ posM fb n k j,r.length = 2 := rowsP_row _
end Go.Am
namespace Go.Proofs.YtngfogpbljconaaGreatDoor
variable [Go.Am.CodeBlk]
open Go.Am
attribute [local irreducible] AW Outs Weak Lends Lend Sp aops atree aop1 Then Round InBlock Done
attribute [local irreducible] SpM DoneM SpH DoneH
theorem plF_lt {B : List UInt8} (h : GoodBd B) : ∀ p ∈ plB B,p.1 < 1000 ∧ p.2 < 1000 := by
  intro p hp
  have := mem_posP.1 hp
  have := qx5 h
  omega
theorem hasF_at (B : List UInt8) {i j : Nat} (hi : i < sdB B) (hj : j < sdB B) : hasP (plB B) (i : Nat) (j : Nat) = fbB B i j := by
  unfold plB
  rw [hasP_pos,decide_eq_true (by omega)]
  simp
def plM (B : List UInt8) : List (List Int) := posM (fbB B) (sdB B) (sdB B) 0
def fobR (B : List UInt8) : List (List Int) := if GoodBd B then plM B else []
theorem fobR_ok (B : List UInt8) : (fobR B).length ≤ 72 ∧ ∀ r ∈ fobR B,r.length ≤ 2 := by
  unfold fobR
  split
  · rename_i h
    have hsd := qx5 h
    exact ⟨posM_len (by omega) (by omega) (by omega),fun r hr => Nat.le_of_eq (posM_row _ _ _ _ r hr)⟩
  · simp
theorem bdPlaces_spec (B : List UInt8) (h : GoodBd B) (hB : B.length ≤ 1048576) : SpH Tryz.prog 60 [str B] (fun _ => none) (.sl nbase 1 0 (plM B).length) (matO (plM B)) := by
  have hpb : pbase = 4000000 := rfl
  have hsd := qx5 h
  refine specH_of Tryz.func60 rfl cc60 rfl (by first|exact static_mat1 _|exact static_mat2 _ _|assumption) ?_
  unfold ac60
  repeat (first|(refine qz0 ?_;(first|(refine m_mov (by conv => lhs; whnf) ?_)|(refine qx2 ?_)))|refine qz1 ?_|refine qz3 ?_|refine qz6 ?_|refine qz8 ?_)
  refine qyf (α := Nat) (fun k => k ≤ sdB B) (fun k => stM [(0,str B),(3,.sl 3 1 0 (posM (fbB B) (sdB B) k 0).length),(4,.i k)] [] 3 1000 (posM (fbB B) (sdB B) k 0)) (fun k => sdB B - k) 0 (Nat.zero_le _)
    (qvc id ?_ ?_ rfl rfl rfl (.inl (by simp [posM_zero,pbase])) rfl rfl rfl (.inr ⟨rfl,rfl⟩) (fun j hj => by simp [posM_zero] at hj)) ?_
  · (repeat' first|exact trivial|refine And.intro ?_ ?_)<;>first|rfl|skip
  · trivial
  intro k hk
  have hrl := qu2 1000 (posM (fbB B) (sdB B) k 0)
  have hpl := posM_len (fb := fbB B) (n := sdB B) (k := k) (j := 0) (by omega) hk (by omega)
  by_cases hc : k < sdB B
  · repeat (first|(refine qz0 ?_;(refine m_mov (by conv => lhs; whnf) ?_))|refine qz3 ?_|refine qz6 ?_)
    (refine qz0 ?_);(apply qza (qyj B hB));(· repeat (first|exact qz4|(refine qz2 ?_ ?_;(· exact qzd))))
    repeat (first|(refine qz0 ?_;(first|(refine m_mov (by conv => lhs; whnf) ?_)|(refine m_lss rfl rfl ?_)))|refine qz1 ?_|refine qz3 ?_|(refine qzf rfl ?_ ?_;(· (refine decide_eq_true ?_; omega)))|refine qz5 ?_|refine qz6 ?_|refine qz8 ?_)
    refine qyf (α := Nat) (fun j => j ≤ sdB B) (fun j => stM [(0,str B),(3,.sl 3 1 0 (posM (fbB B) (sdB B) k j).length),(4,.i k),(5,.i j)] [] 3 1000 (posM (fbB B) (sdB B) k j)) (fun j => sdB B - j) 0 (Nat.zero_le _)
      (qvc id ?_ ?_ rfl rfl rfl (.inl (by omega)) rfl rfl rfl (.inl ⟨rfl,rfl⟩) ?_) ?_
    · (repeat' first|exact trivial|refine And.intro ?_ ?_)<;>first|rfl|skip
    · trivial
    · (intro j hj; simp (disch := first|omega|assumption) only [qua]; first|exact qw7 rfl hj|(rw [qw7 rfl hj]; rfl))
    intro j hj
    have hrl := qu2 1000 (posM (fbB B) (sdB B) k j)
    have hpl := posM_len (fb := fbB B) (n := sdB B) (k := k) (j := j) (by omega) hk hj
    have hsn := posM_snoc (fbB B) (sdB B) k j
    have hen := posM_end (fbB B) (sdB B) k
    by_cases hcj : j < sdB B
    · by_cases hf : fbB B k j = true
      · rw [hf,if_pos rfl] at hsn
        generalize posM (fbB B) (sdB B) k j = R at *
        repeat (first|(refine qz0 ?_;(refine m_mov (by conv => lhs; whnf) ?_))|refine qz3 ?_|refine qz6 ?_)
        (refine qz0 ?_);(apply qza (qyj B hB));(· repeat (first|exact qz4|(refine qz2 ?_ ?_;(· exact qzd))))
        repeat (first|(refine qz0 ?_;(first|(refine m_mov (by conv => lhs; whnf) ?_)|(refine m_lss rfl rfl ?_)))|refine qz1 ?_|refine qz3 ?_|(refine qzf rfl ?_ ?_;(· (refine decide_eq_true ?_; omega)))|refine qz5 ?_|refine qz6 ?_|refine qz8 ?_)
        (refine qz0 ?_);(apply qza (qu6 B h k j hc hcj));(· repeat (first|exact qz4|(refine qz2 ?_ ?_;(· exact qzd))))
        repeat (first|(refine qz0 ?_;(refine m_mov (by conv => lhs; whnf) ?_))|refine qz1 ?_|refine qy5 ?_|(refine qzf rfl ?_ ?_;(· assumption)))
        refine qz0 ?_
        refine m_bsl2i rfl rfl ?_
        refine qz0 ?_
        refine m_bsl1d rfl rfl ?_
        refine qz0 ?_
        refine m_app1d rfl (by decide) rfl ?_ rfl rfl rfl ?_ (by decide) ?_
        · simp [rowsC_kill,qu2]
        · omega
        repeat (first|(refine qz0 ?_;(first|(refine m_mov (by conv => lhs; whnf) ?_)|(refine m_add rfl rfl ?_ ?_ ?_;(· omega);(· omega))))|refine qz1 ?_|refine qy5 ?_|refine qz7 ?_|refine qze ?_)
        refine qzb (j + 1) hcj ?_ ?_
        · rw [hsn,List.length_append]
          refine weak_push (fun r => if r = 3 then 27 else r) 25 ?_ ?_ rfl rfl rfl (by omega) rfl rfl (by decide) rfl rfl ?_ ?_ ?_
          · (repeat' first|exact trivial|refine And.intro ?_ ?_)<;>first|rfl|skip
          · trivial
          · simp [rowsC_kill,killL_append,killL]
            rfl
          · rfl
          · (intro j hj; simp (disch := first|omega|assumption) only [qua,qwe,qw6]; first|exact qw7 rfl hj|(rw [qw7 rfl hj]; rfl))
        · omega
      · have hf : fbB B k j = false := by simpa using hf
        rw [hf,if_neg (by simp),List.append_nil] at hsn
        generalize posM (fbB B) (sdB B) k j = R at *
        repeat (first|(refine qz0 ?_;(refine m_mov (by conv => lhs; whnf) ?_))|refine qz3 ?_|refine qz6 ?_)
        (refine qz0 ?_);(apply qza (qyj B hB));(· repeat (first|exact qz4|(refine qz2 ?_ ?_;(· exact qzd))))
        repeat (first|(refine qz0 ?_;(first|(refine m_mov (by conv => lhs; whnf) ?_)|(refine m_lss rfl rfl ?_)))|refine qz1 ?_|refine qz3 ?_|(refine qzf rfl ?_ ?_;(· (refine decide_eq_true ?_; omega)))|refine qz5 ?_|refine qz6 ?_|refine qz8 ?_)
        (refine qz0 ?_);(apply qza (qu6 B h k j hc hcj));(· repeat (first|exact qz4|(refine qz2 ?_ ?_;(· exact qzd))))
        repeat (first|(refine qz0 ?_;(first|(refine m_mov (by conv => lhs; whnf) ?_)|(refine m_add rfl rfl ?_ ?_ ?_;(· omega);(· omega))))|refine qz1 ?_|refine qy5 ?_|(refine qzi rfl ?_ ?_;(· assumption))|refine qz7 ?_|refine qze ?_|refine qx6 ?_)
        refine qzb (j + 1) hcj ?_ ?_
        · rw [hsn]
          refine qvc id ?_ ?_ rfl rfl rfl (.inl (by omega)) rfl rfl rfl (.inl ⟨rfl,rfl⟩) ?_
          · (repeat' first|exact trivial|refine And.intro ?_ ?_)<;>first|rfl|skip
          · trivial
          · (intro j hj; simp (disch := first|omega|assumption) only [qua]; first|exact qw7 rfl hj|(rw [qw7 rfl hj]; rfl))
        · omega
    · obtain rfl : j = sdB B := by omega
      repeat (first|(refine qz0 ?_;(refine m_mov (by conv => lhs; whnf) ?_))|refine qz3 ?_|refine qz6 ?_)
      (refine qz0 ?_);(apply qza (qyj B hB));(· repeat (first|exact qz4|(refine qz2 ?_ ?_;(· exact qzd))))
      repeat (first|(refine qz0 ?_;(first|(refine m_mov (by conv => lhs; whnf) ?_)|(refine m_lss rfl rfl ?_)|(refine m_add rfl rfl ?_ ?_ ?_;(· omega);(· omega))))|refine qz1 ?_|refine qy5 ?_|(refine qzi rfl ?_ ?_;(· (refine decide_eq_false ?_; omega)))|refine qz7 ?_|refine qy1 ?_|refine qze ?_|refine qy0 ?_|refine qy9 ?_|refine qzg ?_)
      refine qzb (k + 1) hc ?_ ?_
      · rw [hen]
        refine qvc id ?_ ?_ rfl rfl rfl (.inl (by omega)) rfl rfl rfl (.inl ⟨rfl,rfl⟩) ?_
        · (repeat' first|exact trivial|refine And.intro ?_ ?_)<;>first|rfl|skip
        · trivial
        · (intro j hj; simp (disch := first|omega|assumption) only [qua]; first|exact qw7 rfl hj|(rw [qw7 rfl hj]; rfl))
      · omega
  · obtain rfl : k = sdB B := by omega
    repeat (first|(refine qz0 ?_;(refine m_mov (by conv => lhs; whnf) ?_))|refine qz3 ?_|refine qz6 ?_)
    (refine qz0 ?_);(apply qza (qyj B hB));(· repeat (first|exact qz4|(refine qz2 ?_ ?_;(· exact qzd))))
    repeat (first|(refine qz0 ?_;(first|(refine m_mov (by conv => lhs; whnf) ?_)|(refine m_lss rfl rfl ?_)))|refine qz1 ?_|refine qz3 ?_|(refine qzi rfl ?_ ?_;(· (refine decide_eq_false ?_; omega)))|refine qzj ?_|refine qz7 ?_|refine qy1 ?_|refine qy0 ?_|refine qy9 ?_|refine qzg ?_)
    refine ret_mat (r0 := 3) (b := 1000) (by omega) (by omega) (by show 1000 + (posM (fbB B) (sdB B) (sdB B) 0).length ≤ pbase; omega) rfl rfl ?_
    unfold plM
    (intro j hj; simp (disch := first|omega|assumption) only [qua]; first|exact qw7 rfl hj|(rw [qw7 rfl hj]; rfl))
end Go.Proofs.YtngfogpbljconaaGreatDoor
namespace Go.Proofs.YtngfogpbljconaaGreatDoor
variable [Go.Am.CodeBlk]
open Go.Am
attribute [local irreducible] AW Outs Weak Lends Lend Sp aops atree aop1 Then Round InBlock Done
attribute [local irreducible] SpH DoneH
theorem oSame_self (L : List Int) (hL : L.length ≤ 1048576) : Sp Tryz.prog 16 [ints L,ints L] (.b true) := by
  refine qy7 Tryz.func16 rfl cc16 rfl ?_
  unfold ac16
  repeat (first|(refine qz0 ?_;(first|(refine m_mov (by conv => lhs; whnf) ?_)|(refine m_neq rfl rfl ?_)|(refine qy4 rfl ?_)))|refine qz1 ?_|refine qz3 ?_|(refine qzi rfl ?_ ?_;(· (refine decide_eq_false ?_; omega)))|refine qz5 ?_|refine qz6 ?_|refine qz8 ?_)
  refine qyf (α := Nat) (fun k => k ≤ L.length) (fun k => st [(0,ints L),(1,ints L),(12,.i L.length),(13,.i k)] []) (fun k => L.length - k) 0 (by omega) (qz9 ?_ ?_ rfl rfl) ?_
  · (repeat' first|exact trivial|refine And.intro ?_ ?_)<;>first|rfl|skip
  · trivial
  intro k hk
  by_cases hc : k < L.length
  · repeat (first|((first|refine qz0 ?_|refine qzh ?_);(first|(refine m_mov (by conv => lhs; whnf) ?_)|(refine m_lss rfl rfl ?_)|(refine m_neq rfl rfl ?_)|(refine m_add rfl rfl ?_ ?_ ?_;(· omega);(· omega))|(refine qy6 rfl rfl ?_ ?_;(· omega))|(refine qyg rfl ?_ ?_;(· omega))))|refine qz1 ?_|refine qz3 ?_|refine qy5 ?_|refine qxc ?_|refine qw3 ?_|(refine qzf rfl ?_ ?_;(· (refine decide_eq_true ?_; omega)))|(refine qzi rfl ?_ ?_;(· (refine decide_eq_false ?_; omega)))|refine qz5 ?_|refine qz6 ?_|refine qz7 ?_|refine qz8 ?_|refine qze ?_|refine qx6 ?_)
    refine qzb (k + 1) (by omega) (qz9 ?_ ?_ rfl rfl) ?_
    · (repeat' first|exact trivial|refine And.intro ?_ ?_)<;>first|rfl|skip
    · trivial
    · omega
  · repeat (first|(refine qz0 ?_;(first|(refine m_mov (by conv => lhs; whnf) ?_)|(refine m_lss rfl rfl ?_)))|refine qz1 ?_|refine qz3 ?_|(refine qzi rfl ?_ ?_;(· (refine decide_eq_false ?_; omega)))|refine qz6 ?_|refine qzj ?_|refine qzc ?_|refine qz7 ?_|refine qy1 ?_|refine qy0 ?_|refine qy9 ?_|refine qzg ?_)
    exact qyb rfl
theorem oRows_self (R : List (List Int)) (hR : R.length ≤ 1048576) (hr : ∀ r ∈ R,r.length ≤ 1048576) : Sp Tryz.prog 31 [roM R,roM R] (.b true) := by
  refine qy7 Tryz.func31 rfl cc31 rfl ?_
  unfold ac31
  repeat (first|(refine qz0 ?_;(first|(refine m_mov (by conv => lhs; whnf) ?_)|(refine m_neq rfl rfl ?_)|(refine qy4 rfl ?_)))|refine qz1 ?_|refine qz3 ?_|(refine qzi rfl ?_ ?_;(· (refine decide_eq_false ?_; omega)))|refine qz5 ?_|refine qz6 ?_|refine qz8 ?_)
  refine qyf (α := Nat) (fun k => k ≤ R.length) (fun k => st [(0,roM R),(1,roM R),(12,.i R.length),(13,.i k)] []) (fun k => R.length - k) 0 (by omega) (qz9 ?_ ?_ rfl rfl) ?_
  · (repeat' first|exact trivial|refine And.intro ?_ ?_)<;>first|rfl|skip
  · trivial
  intro k hk
  by_cases hc : k < R.length
  · have hl := hr (R.getD k []) (by simp [hc])
    have hs := oSame_self (R.getD k []) hl
    repeat (first|((first|refine qz0 ?_|refine qzh ?_);(first|(refine m_mov (by conv => lhs; whnf) ?_)|(refine m_lss rfl rfl ?_)|(refine qy6 rfl rfl ?_ ?_;(· omega))))|refine qz1 ?_|refine qz3 ?_|refine qw3 ?_|(refine qzf rfl ?_ ?_;(· (refine decide_eq_true ?_; omega)))|refine qz5 ?_|refine qz6 ?_|refine qz8 ?_)
    refine qzh ?_
    refine qvf rfl (roM_at hc) ?_
    repeat (refine qzh ?_;(first|(refine m_mov (by conv => lhs; whnf) ?_)|(refine qy6 rfl rfl ?_ ?_;(· omega))))
    refine qzh ?_
    refine qvf rfl (roM_at hc) ?_
    skip
    refine qzh ?_;(apply qza (hs));(· repeat (first|exact qz4|(refine qz2 ?_ ?_;(· (refine qy2 ?_; first|rfl|omega)))))
    repeat (first|((first|refine qz0 ?_|refine qzh ?_);(first|(refine m_mov (by conv => lhs; whnf) ?_)|(refine m_add rfl rfl ?_ ?_ ?_;(· omega);(· omega))|(refine m_not rfl ?_)))|refine qz1 ?_|refine qy5 ?_|refine qxc ?_|(refine qzi rfl ?_ ?_;(· rfl))|refine qz7 ?_|refine qze ?_|refine qx6 ?_)
    refine qzb (k + 1) (by omega) (qz9 ?_ ?_ rfl rfl) ?_
    · (repeat' first|exact trivial|refine And.intro ?_ ?_)<;>first|rfl|skip
    · trivial
    · omega
  · repeat (first|(refine qz0 ?_;(first|(refine m_mov (by conv => lhs; whnf) ?_)|(refine m_lss rfl rfl ?_)))|refine qz1 ?_|refine qz3 ?_|(refine qzi rfl ?_ ?_;(· (refine decide_eq_false ?_; omega)))|refine qz6 ?_|refine qzj ?_|refine qzc ?_|refine qz7 ?_|refine qy1 ?_|refine qy0 ?_|refine qy9 ?_|refine qzg ?_)
    exact qyb rfl
theorem cbB_step {a b : List Int} {k : Nat} (h1 : k < a.length) (h2 : k < b.length) : comesB (a.drop k) (b.drop k) = if a.getD k 0 = b.getD k 0 then comesB (a.drop (k + 1)) (b.drop (k + 1)) else decide (a.getD k 0 < b.getD k 0) := by
  rw [List.drop_eq_getElem_cons h1,List.drop_eq_getElem_cons h2]
  simp [comesB,h1,h2]
theorem oLessC_spec (a b : List Int) (ha : a.length ≤ 1048576) (hl : b.length = a.length) : Sp Tryz.prog 19 [ints a,ints b] (.b (comesB a b)) := by
  have h0 : comesB (a.drop 0) (b.drop 0) = comesB a b := rfl
  generalize comesB a b = T at h0 ⊢
  refine qy7 Tryz.func19 rfl cc19 rfl ?_
  unfold ac19
  repeat (first|(refine qz0 ?_;(refine m_mov (by conv => lhs; whnf) ?_))|refine qz1 ?_|refine qz3 ?_|refine qz6 ?_|refine qz8 ?_)
  refine qyf (α := Nat) (fun k => k ≤ a.length ∧ comesB (a.drop k) (b.drop k) = T) (fun k => st [(0,ints a),(1,ints b),(5,.i (k : Nat))] []) (fun k => a.length - k) 0 ⟨Nat.zero_le _,h0⟩ (qz9 ?_ ?_ rfl rfl) ?_
  · (repeat' first|exact trivial|refine And.intro ?_ ?_)<;>first|rfl|skip
  · trivial
  rintro k ⟨hk,he⟩
  by_cases hc : k < a.length
  · rw [cbB_step hc (by omega)] at he
    by_cases hx : a.getD k 0 = b.getD k 0
    · rw [if_pos hx] at he
      repeat (first|((first|refine qz0 ?_|refine qzh ?_);((try (refine g_yes rfl ?_ ?_;(· (refine decide_eq_true ?_; omega))));(first|(refine m_mov (by conv => lhs; whnf) ?_)|(refine m_lss rfl rfl ?_)|(refine m_neq rfl rfl ?_)|(refine m_add rfl rfl ?_ ?_ ?_;(· omega);(· omega))|(refine qy4 rfl ?_)|(refine qy6 rfl rfl ?_ ?_;(· omega))|(refine qyg rfl ?_ ?_;(· omega))|(refine qye rfl ?_ (by conv => lhs; whnf) ?_;(· (refine decide_eq_true ?_; omega))))))|refine qz1 ?_|refine qz3 ?_|refine qy5 ?_|refine qxc ?_|refine qw3 ?_|(refine qzf rfl ?_ ?_;(· (refine decide_eq_true ?_; omega)))|(refine qzi rfl ?_ ?_;(· (refine decide_eq_false ?_; omega)))|refine qz5 ?_|refine qz6 ?_|refine qz7 ?_|refine qz8 ?_|refine qze ?_|refine qx6 ?_)
      refine qzb (k + 1) ⟨hc,he⟩ (qz9 ?_ ?_ rfl rfl) ?_
      · (repeat' first|exact trivial|refine And.intro ?_ ?_)<;>first|rfl|skip
      · trivial
      · omega
    · rw [if_neg hx] at he
      repeat (first|((first|refine qz0 ?_|refine qzh ?_);((try (refine g_yes rfl ?_ ?_;(· (refine decide_eq_true ?_; omega))));(first|(refine m_mov (by conv => lhs; whnf) ?_)|(refine m_lss rfl rfl ?_)|(refine m_neq rfl rfl ?_)|(refine qy4 rfl ?_)|(refine qy6 rfl rfl ?_ ?_;(· omega))|(refine qyg rfl ?_ ?_;(· omega))|(refine qye rfl ?_ (by conv => lhs; whnf) ?_;(· (refine decide_eq_true ?_; omega))))))|refine qz1 ?_|refine qz3 ?_|refine qxc ?_|refine qw3 ?_|(refine qzf rfl ?_ ?_;(· first|(refine decide_eq_true ?_; assumption)|(refine decide_eq_true ?_; omega)))|refine qz5 ?_|refine qz6 ?_|refine qzj ?_|refine qzc ?_|refine qy8 ?_|refine qz8 ?_|refine qx7 ?_|refine qxd ?_)
      exact qyb he
  · rw [List.drop_of_length_le (by omega)] at he
    subst he
    have hn : ¬ (a.length < b.length) := by omega
    repeat (first|(refine qz0 ?_;(first|(first|(refine m_mov (by conv => lhs; whnf) ?_)|(refine m_lss rfl rfl ?_)|(refine qy4 rfl ?_)|(refine qy3 rfl ?_ (by conv => lhs; whnf) ?_;(· (refine decide_eq_false ?_; omega))))|(refine g_noT rfl ?_ ?_;(· (refine decide_eq_false ?_; omega)))))|refine qz1 ?_|refine qz3 ?_|(refine qzi rfl ?_ ?_;(· rfl))|refine qz6 ?_|refine qzj ?_|refine qzc ?_|refine qz7 ?_|refine qy1 ?_|refine qy0 ?_|refine qy9 ?_|refine qzg ?_)
    exact qyb (by simp [comesB]; omega)
theorem oTimes_spec (n : Nat) (h : n ≤ 12) : Sp Tryz.prog 34 [.i n] (.i (fac n)) := by
  refine qy7 Tryz.func34 rfl cc34 rfl ?_
  unfold ac34
  repeat (first|(refine qz0 ?_;(refine m_mov (by conv => lhs; whnf) ?_))|refine qz1 ?_|refine qz3 ?_|refine qz6 ?_|refine qz8 ?_)
  refine qyf (α := Nat) (fun j => j + 1 ≤ n ∨ j = 0) (fun j => st [(0,.i n),(3,.i (fac (j + 1))),(4,.i ((j : Int) + 2))] []) (fun j => n - j) 0 (.inr rfl) (qz9 ?_ ?_ rfl rfl) ?_
  · (repeat' first|exact trivial|refine And.intro ?_ ?_)<;>first|rfl|skip
  · trivial
  intro j hj
  by_cases hc : (j : Int) + 2 ≤ n
  · have hb := fac_le (j + 2) (by omega)
    have e : fac (j + 2) = fac (j + 1) * ((j : Int) + 2) := rfl
    rw [e] at hb
    repeat (first|(refine qz0 ?_;(first|(refine m_mov (by conv => lhs; whnf) ?_)|(refine m_leq rfl rfl ?_)|(refine m_add rfl rfl ?_ ?_ ?_;(· omega);(· omega))|(refine m_mul rfl rfl ?_ ?_ ?_;(· first|omega|(simp; done));(· first|omega|(simp; done)))))|refine qz1 ?_|refine qz3 ?_|refine qy5 ?_|(refine qzf rfl ?_ ?_;(· (refine decide_eq_true ?_; assumption)))|refine qz5 ?_|refine qz6 ?_|refine qz7 ?_|refine qz8 ?_|refine qze ?_)
    refine qzb (j + 1) (by omega) (qz9 ?_ ?_ rfl rfl) ?_
    · (repeat' first|exact trivial|refine And.intro ?_ ?_)<;>first|rfl|skip
    · trivial
    · omega
  · repeat (first|(refine qz0 ?_;(first|(refine m_mov (by conv => lhs; whnf) ?_)|(refine m_leq rfl rfl ?_)))|refine qz1 ?_|refine qz3 ?_|(refine qzi rfl ?_ ?_;(· (refine decide_eq_false ?_; assumption)))|refine qz6 ?_|refine qzj ?_|refine qzc ?_|refine qz7 ?_|refine qy1 ?_|refine qy0 ?_|refine qy9 ?_|refine qzg ?_)
    refine qxa ?_
    rcases hj with hj|rfl
    · have : j + 1 = n := by omega
      rw [this]
    · have : n = 0 ∨ n = 1 := by omega
      rcases this with rfl|rfl <;> rfl
theorem oRises_spec (L : List Int) (hL : L.length ≤ 1048576) (hr : ∀ i,i + 1 < L.length → L.getD i 0 < L.getD (i + 1) 0) : Sp Tryz.prog 35 [ints L] (.b true) := by
  refine qy7 Tryz.func35 rfl cc35 rfl ?_
  unfold ac35
  repeat (first|(refine qz0 ?_;(refine m_mov (by conv => lhs; whnf) ?_))|refine qz1 ?_|refine qz3 ?_|refine qz6 ?_|refine qz8 ?_)
  refine qyf (α := Nat) (fun k => k ≤ L.length) (fun k => st [(0,ints L),(3,.i ((k + 1 : Nat) : Int))] []) (fun k => L.length - k) 0 (by omega) (qz9 ?_ ?_ rfl rfl) ?_
  · (repeat' first|exact trivial|refine And.intro ?_ ?_)<;>first|rfl|skip
  · trivial
  intro k hk
  by_cases hc : k + 1 < L.length
  · have h1 := hr k hc
    have e : (((k + 1 : Nat) : Int) - 1) = ((k : Nat) : Int) := by omega
    have hlt : k < L.length := by omega
    repeat (first|((first|refine qz0 ?_|refine qzh ?_);(first|(refine m_mov (by conv => lhs; whnf) ?_)|(refine m_lss rfl rfl ?_)|(refine m_geq rfl rfl ?_)|(refine m_add rfl rfl ?_ ?_ ?_;(· omega);(· omega))|(refine m_sub rfl rfl ?_ ?_ ?_;(· omega);(· omega))|(refine qy4 rfl ?_)|(refine qy6 rfl rfl ?_ ?_;(· omega))|(apply m_idx1_roj;(· rfl);(· rfl);(· assumption);(· omega))|(refine qyg rfl ?_ ?_;(· omega))))|refine qz1 ?_|refine qz3 ?_|refine qy5 ?_|refine qxc ?_|refine qw3 ?_|(refine qzf rfl ?_ ?_;(· (refine decide_eq_true ?_; omega)))|(refine qzi rfl ?_ ?_;(· (refine decide_eq_false ?_; omega)))|refine qz5 ?_|refine qz6 ?_|refine qz7 ?_|refine qz8 ?_|refine qze ?_|refine qx6 ?_)
    rw [e]
    skip
    refine qzb (k + 1) (by omega) (qz9 ?_ ?_ rfl rfl) ?_
    · (repeat' first|exact trivial|refine And.intro ?_ ?_)<;>first|rfl|skip
    · trivial
    · omega
  · repeat (first|(refine qz0 ?_;(first|(refine m_mov (by conv => lhs; whnf) ?_)|(refine m_lss rfl rfl ?_)|(refine qy4 rfl ?_)))|refine qz1 ?_|refine qz3 ?_|(refine qzi rfl ?_ ?_;(· (refine decide_eq_false ?_; omega)))|refine qz6 ?_|refine qzj ?_|refine qzc ?_|refine qz7 ?_|refine qy1 ?_|refine qy0 ?_|refine qy9 ?_|refine qzg ?_)
    exact qyb rfl
theorem oHas_spec (L : List Int) (n : Int) (hL : L.length ≤ 1048576) : Sp Tryz.prog 36 [ints L,.i n] (.b (decide (n ∈ L))) := by
  have key : ∀ k,k < L.length → (n ∈ L.drop k ↔ L.getD k 0 = n ∨ n ∈ L.drop (k + 1)) := fun k hk => by
    rw [List.drop_eq_getElem_cons hk,List.mem_cons]
    have : L.getD k 0 = L[k] := by simp [hk]
    rw [this]
    exact ⟨fun h => h.imp Eq.symm id,fun h => h.imp Eq.symm id⟩
  refine qy7 Tryz.func36 rfl cc36 rfl ?_
  unfold ac36
  repeat (first|(refine qz0 ?_;(first|(refine m_mov (by conv => lhs; whnf) ?_)|(refine qy4 rfl ?_)))|refine qz1 ?_|refine qz3 ?_|refine qz6 ?_|refine qz8 ?_)
  refine qyf (α := Nat) (fun k => k ≤ L.length ∧ (n ∈ L.drop k ↔ n ∈ L)) (fun k => st [(1,.i n),(7,ints L),(8,.i L.length),(9,.i k)] []) (fun k => L.length - k) 0 ⟨by omega,by simp⟩ (qz9 ?_ ?_ rfl rfl) ?_
  · (repeat' first|exact trivial|refine And.intro ?_ ?_)<;>first|rfl|skip
  · trivial
  rintro k ⟨hk,he⟩
  by_cases hc : k < L.length
  · have hk2 := key k hc
    by_cases hx : L.getD k 0 = n
    · repeat (first|(refine qz0 ?_;(first|(refine m_mov (by conv => lhs; whnf) ?_)|(refine m_lss rfl rfl ?_)|(refine m_eql rfl rfl ?_)|(refine qy6 rfl rfl ?_ ?_;(· omega))|(refine qyg rfl ?_ ?_;(· omega))))|refine qz1 ?_|refine qz3 ?_|(refine qzf rfl ?_ ?_;(· first|(refine decide_eq_true ?_; assumption)|(refine decide_eq_true ?_; omega)))|refine qz5 ?_|refine qz6 ?_|refine qzj ?_|refine qzc ?_|refine qy8 ?_|refine qz8 ?_|refine qx7 ?_|refine qxd ?_)
      exact qyb (decide_eq_true (he.1 (hk2.2 (.inl hx)))).symm
    · repeat (first|(refine qz0 ?_;(first|(refine m_mov (by conv => lhs; whnf) ?_)|(refine m_lss rfl rfl ?_)|(refine m_eql rfl rfl ?_)|(refine m_add rfl rfl ?_ ?_ ?_;(· omega);(· omega))|(refine qy6 rfl rfl ?_ ?_;(· omega))|(refine qyg rfl ?_ ?_;(· omega))))|refine qz1 ?_|refine qz3 ?_|refine qy5 ?_|(refine qzf rfl ?_ ?_;(· (refine decide_eq_true ?_; omega)))|(refine qzi rfl ?_ ?_;(· (refine decide_eq_false ?_; assumption)))|refine qz5 ?_|refine qz6 ?_|refine qz7 ?_|refine qz8 ?_|refine qze ?_|refine qx6 ?_)
      refine qzb (k + 1) ⟨hc,?_⟩ (qz9 ?_ ?_ rfl rfl) (by omega)
      · rw [← he,hk2]
        exact ⟨.inr,fun h => h.resolve_left hx⟩
      · (repeat' first|exact trivial|refine And.intro ?_ ?_)<;>first|rfl|skip
      · trivial
  · repeat (first|(refine qz0 ?_;(first|(refine m_mov (by conv => lhs; whnf) ?_)|(refine m_lss rfl rfl ?_)))|refine qz1 ?_|refine qz3 ?_|(refine qzi rfl ?_ ?_;(· (refine decide_eq_false ?_; omega)))|refine qz6 ?_|refine qzj ?_|refine qzc ?_|refine qz7 ?_|refine qy1 ?_|refine qy0 ?_|refine qy9 ?_|refine qzg ?_)
    refine qyb (decide_eq_false ?_).symm
    rw [← he,List.drop_of_length_le (by omega)]
    simp
theorem oSumH_spec (f : Nat → Nat) (n : Nat) (hf : ∀ k,k ≤ n + 1 → sumN k f ≤ 1000000) (hf1 : ∀ k,k < n + 1 → f k ≤ 1000000) (hn : n ≤ 8) : Sp Tryz.prog 33 [ints ((List.range (n + 1)).map fun k => ((f k : Nat) : Int))] (.i (sumN (n + 1) f : Nat)) := by
  have hl : ((List.range (n + 1)).map fun k => ((f k : Nat) : Int)).length = n + 1 := by simp
  have hg : ∀ k,k < n + 1 → ((List.range (n + 1)).map fun k => ((f k : Nat) : Int)).getD k 0 = (f k : Nat) := fun k hk => by simp [hk]
  generalize ((List.range (n + 1)).map fun k => ((f k : Nat) : Int)) = K at *
  refine qy7 Tryz.func33 rfl cc33 rfl ?_
  unfold ac33
  repeat (first|(refine qz0 ?_;(first|(refine m_mov (by conv => lhs; whnf) ?_)|(refine qy4 rfl ?_)))|refine qz1 ?_|refine qz3 ?_|refine qz6 ?_|refine qz8 ?_)
  refine qyf (α := Nat) (fun k => k ≤ n + 1) (fun k => st [(3,.i (sumN k f : Nat)),(6,ints K),(7,.i K.length),(8,.i k)] []) (fun k => n + 1 - k) 0 (by omega) (qz9 ?_ ?_ rfl rfl) ?_
  · (repeat' first|exact trivial|refine And.intro ?_ ?_)<;>first|rfl|skip
  · trivial
  intro k hk
  have hb := hf k hk
  by_cases hc : k < n + 1
  · have hx := hg k hc
    have h1 := hf1 k hc
    have hs : sumN (k + 1) f = sumN k f + f k := rfl
    repeat (first|(refine qz0 ?_;(first|(refine m_mov (by conv => lhs; whnf) ?_)|(refine m_lss rfl rfl ?_)|(refine m_add rfl rfl ?_ ?_ ?_;(· omega);(· omega))|(refine qy6 rfl rfl ?_ ?_;(· omega))|(refine qyg rfl ?_ ?_;(· omega))))|refine qz1 ?_|refine qz3 ?_|refine qy5 ?_|(refine qzf rfl ?_ ?_;(· (refine decide_eq_true ?_; omega)))|refine qz5 ?_|refine qz6 ?_|refine qz7 ?_|refine qz8 ?_|refine qze ?_)
    refine qzb (k + 1) (by omega) (qz9 ?_ ?_ rfl rfl) (by omega)
    · rw [hs,Int.natCast_add,← hx]
      (repeat' first|exact trivial|refine And.intro ?_ ?_)<;>first|rfl|skip
    · trivial
  · obtain rfl : k = n + 1 := by omega
    repeat (first|(refine qz0 ?_;(first|(refine m_mov (by conv => lhs; whnf) ?_)|(refine m_lss rfl rfl ?_)))|refine qz1 ?_|refine qz3 ?_|(refine qzi rfl ?_ ?_;(· (refine decide_eq_false ?_; omega)))|refine qz6 ?_|refine qzj ?_|refine qzc ?_|refine qz7 ?_|refine qy1 ?_|refine qy0 ?_|refine qy9 ?_|refine qzg ?_)
    exact qxa rfl
end Go.Proofs.YtngfogpbljconaaGreatDoor
namespace Go.Proofs.YtngfogpbljconaaGreatDoor
variable [Go.Am.CodeBlk]
open Go.Am
attribute [local irreducible] AW Outs Weak Lends Lend Sp aops atree aop1 Then Round InBlock Done
attribute [local irreducible] SpH SpX DoneH DoneX
def hitL (B : List UInt8) : List Int := hL (chC (rkN (fbB B) (sdB B)) (sdB B)) (sdB B) (sdB B + 1)
theorem hitL_len (B : List UInt8) : (hitL B).length = sdB B + 1 := hL_len _ _ _
def hitB (B : List UInt8) : List Int := if GoodBd B then hitL B else []
def hitR (B : List UInt8) : AV := .tup [newInts (hitB B),.b (decide (GoodBd B))]
theorem hitB_len (B : List UInt8) : (hitB B).length ≤ 1048576 := by
  unfold hitB
  split
  · rename_i h
    have := qx5 h
    rw [hitL_len]; omega
  · simp
theorem specHitNumbers_spec (B : List UInt8) (hB : B.length ≤ 1048576) : Sp Tryz.prog 22 [str B] (hitR B) := by
  unfold hitR hitB
  refine qy7 Tryz.func22 rfl cc22 rfl ?_
  unfold ac22
  repeat (first|(refine qz0 ?_;(first|(refine m_mov (by conv => lhs; whnf) ?_)|(refine qx2 ?_)))|refine qz1 ?_|refine qz3 ?_|refine qz6 ?_)
  (refine qz0 ?_);(apply qza (qw0 B hB));(· repeat (first|exact qz4|(refine qz2 ?_ ?_;(· exact qzd))))
  by_cases h : GoodBd B
  · have hs := bdHit_spec B h hB
    change Sp _ _ _ (newInts (hitL B)) at hs
    rw [if_pos h]
    repeat (first|(refine qz0 ?_;(first|(refine m_mov (by conv => lhs; whnf) ?_)|(refine m_not rfl ?_)))|refine qz1 ?_|refine qz3 ?_|(refine qzi rfl ?_ ?_;(· (refine nf ?_; assumption)))|refine qz5 ?_)
    (refine qz0 ?_);(apply qwh (hs));(· repeat (first|exact qz4|(refine qz2 ?_ ?_;(· exact qzd))));(· first|exact qx0 _|rfl|(simp; done))
    repeat (first|(refine qz0 ?_;(refine m_mov (by conv => lhs; whnf) ?_))|refine qz1 ?_|refine qzj ?_|refine qzc ?_)
    exact qyh (qx3 rfl rfl rfl) (qyb (by simp [h]))
  · rw [if_neg h]
    repeat (first|(refine qz0 ?_;(first|(refine m_mov (by conv => lhs; whnf) ?_)|(refine m_not rfl ?_)|(refine qx2 ?_)))|refine qz1 ?_|refine qz3 ?_|(refine qzf rfl ?_ ?_;(· (refine nt ?_; assumption)))|refine qzj ?_|refine qzc ?_|refine qy8 ?_)
    exact qyh (qx3 rfl rfl rfl) (qyb (by simp [h]))
theorem implHitNumbers_spec (B : List UInt8) (hB : B.length ≤ 1048576) : Sp Tryz.prog 21 [str B] (hitR B) := by
  have hr := qxj B hB
  unfold bdR bdV at hr
  unfold hitR hitB
  refine qy7 Tryz.func21 rfl cc21 rfl ?_
  unfold ac21
  by_cases h : GoodBd B
  · rw [if_pos h] at hr
    have hk := hitNumbers_spec B h
    change Sp _ _ _ (newInts (hitL B)) at hk
    rw [if_pos h]
    repeat (first|(refine qz0 ?_;(first|(refine m_mov (by conv => lhs; whnf) ?_)|(refine qx2 ?_)))|refine qz1 ?_|refine qz3 ?_)
    (refine qz0 ?_);(apply qza (hr));(· repeat (first|exact qz4|(refine qz2 ?_ ?_;(· exact qzd))))
    repeat (first|(refine qz0 ?_;(first|(refine m_mov (by conv => lhs; whnf) ?_)|(refine m_not rfl ?_)|(refine m_ext rfl rfl ?_)|(refine qxb ?_)|(refine qv7 rfl rfl ?_ ?_;(· first|rfl|(simp; done)|(simp [*]; done)))|(refine qx9 rfl rfl rfl ?_ ?_ ?_ ?_;(· first|rfl|(simp [*]; done));(· first|rfl|(simp [*]; done));(· first|rfl|(simp [cellOk,Value.oneCell']; done)))))|refine qz1 ?_|refine qz3 ?_|(refine qzi rfl ?_ ?_;(· (refine nf ?_; assumption)))|refine qz5 ?_|refine qz6 ?_)
    refine qz0 ?_
    refine qwh hk (qz2 (qwi rfl) qz4) (qx0 _) ?_
    repeat (first|(refine qz0 ?_;(refine m_mov (by conv => lhs; whnf) ?_))|refine qz1 ?_|refine qzj ?_|refine qzc ?_)
    exact qyh (qx3 rfl rfl rfl) (qyb (by simp [h]))
  · rw [if_neg h] at hr
    rw [if_neg h]
    repeat (first|(refine qz0 ?_;(first|(refine m_mov (by conv => lhs; whnf) ?_)|(refine qx2 ?_)))|refine qz1 ?_|refine qz3 ?_)
    (refine qz0 ?_);(apply qza (hr));(· repeat (first|exact qz4|(refine qz2 ?_ ?_;(· exact qzd))))
    repeat (first|(refine qz0 ?_;(first|(refine m_mov (by conv => lhs; whnf) ?_)|(refine m_not rfl ?_)|(refine qx2 ?_)|(refine m_ext rfl rfl ?_)|(refine qxb ?_)|(refine qx9 rfl rfl rfl ?_ ?_ ?_ ?_;(· first|rfl|(simp [*]; done));(· first|rfl|(simp [*]; done));(· first|rfl|(simp [cellOk,Value.oneCell']; done)))))|refine qz1 ?_|refine qz3 ?_|(refine qzf rfl ?_ ?_;(· (refine nt ?_; assumption)))|refine qz6 ?_|refine qzj ?_|refine qzc ?_|refine qy8 ?_)
    exact qyh (qx3 rfl rfl rfl) (qyb (by simp [h]))
def allwR (B : List UInt8) : AV := .tup [.i (if GoodBd B then (hitL B).getD 0 0 else 0),.b (decide (GoodBd B))]
theorem specCountAllowed_spec (B : List UInt8) (hB : B.length ≤ 1048576) : Sp Tryz.prog 15 [str B] (allwR B) := by
  unfold allwR
  refine qy7 Tryz.func15 rfl cc15 rfl ?_
  unfold ac15
  repeat (first|(refine qz0 ?_;(refine m_mov (by conv => lhs; whnf) ?_))|refine qz1 ?_|refine qz3 ?_|refine qz6 ?_)
  (refine qz0 ?_);(apply qza (qw0 B hB));(· repeat (first|exact qz4|(refine qz2 ?_ ?_;(· exact qzd))))
  by_cases h : GoodBd B
  · have hs := bdHit_spec B h hB
    change Sp _ _ _ (newInts (hitL B)) at hs
    have hl := hitL_len B
    rw [if_pos h]
    repeat (first|(refine qz0 ?_;(first|(refine m_mov (by conv => lhs; whnf) ?_)|(refine m_not rfl ?_)))|refine qz1 ?_|refine qz3 ?_|(refine qzi rfl ?_ ?_;(· (refine nf ?_; assumption)))|refine qz5 ?_)
    (refine qz0 ?_);(apply qza (hs));(· repeat (first|exact qz4|(refine qz2 ?_ ?_;(· exact qzd))))
    repeat (first|(refine qz0 ?_;(first|(refine m_mov (by conv => lhs; whnf) ?_)|(refine qvg rfl rfl ?_ ?_ ?_;(· omega);(· omega))|(refine qyg rfl ?_ ?_;(· omega))))|refine qz1 ?_|refine qzj ?_|refine qzc ?_)
    exact qyh (qxa rfl) (qyb (by simp [h]))
  · rw [if_neg h]
    repeat (first|(refine qz0 ?_;(first|(refine m_mov (by conv => lhs; whnf) ?_)|(refine m_not rfl ?_)))|refine qz1 ?_|refine qz3 ?_|(refine qzf rfl ?_ ?_;(· (refine nt ?_; assumption)))|refine qzj ?_|refine qzc ?_|refine qy8 ?_)
    exact qyh (qxa rfl) (qyb (by simp [h]))
theorem implCountAllowed_spec (B : List UInt8) (hB : B.length ≤ 1048576) : Sp Tryz.prog 14 [str B] (allwR B) := by
  have hr := qxj B hB
  unfold bdR bdV at hr
  unfold allwR
  refine qy7 Tryz.func14 rfl cc14 rfl ?_
  unfold ac14
  by_cases h : GoodBd B
  · rw [if_pos h] at hr
    have hk := hitNumbers_spec B h
    change Sp _ _ _ (newInts (hitL B)) at hk
    have hl := hitL_len B
    rw [if_pos h]
    repeat (first|(refine qz0 ?_;(refine m_mov (by conv => lhs; whnf) ?_))|refine qz1 ?_|refine qz3 ?_)
    (refine qz0 ?_);(apply qza (hr));(· repeat (first|exact qz4|(refine qz2 ?_ ?_;(· exact qzd))))
    repeat (first|(refine qz0 ?_;(first|(refine m_mov (by conv => lhs; whnf) ?_)|(refine m_not rfl ?_)|(refine m_ext rfl rfl ?_)|(refine qxb ?_)|(refine qv7 rfl rfl ?_ ?_;(· first|rfl|(simp; done)|(simp [*]; done)))|(refine qx9 rfl rfl rfl ?_ ?_ ?_ ?_;(· first|rfl|(simp [*]; done));(· first|rfl|(simp [*]; done));(· first|rfl|(simp [cellOk,Value.oneCell']; done)))))|refine qz1 ?_|refine qz3 ?_|(refine qzi rfl ?_ ?_;(· (refine nf ?_; assumption)))|refine qz5 ?_|refine qz6 ?_)
    refine qz0 ?_
    refine qza hk (qz2 (qwi rfl) qz4) ?_
    repeat (first|(refine qz0 ?_;(first|(refine m_mov (by conv => lhs; whnf) ?_)|(refine qvg rfl rfl ?_ ?_ ?_;(· omega);(· omega))|(refine qyg rfl ?_ ?_;(· omega))))|refine qz1 ?_|refine qzj ?_|refine qzc ?_)
    exact qyh (qxa rfl) (qyb (by simp [h]))
  · rw [if_neg h] at hr
    rw [if_neg h]
    repeat (first|(refine qz0 ?_;(refine m_mov (by conv => lhs; whnf) ?_))|refine qz1 ?_|refine qz3 ?_)
    (refine qz0 ?_);(apply qza (hr));(· repeat (first|exact qz4|(refine qz2 ?_ ?_;(· exact qzd))))
    repeat (first|(refine qz0 ?_;(first|(refine m_mov (by conv => lhs; whnf) ?_)|(refine m_not rfl ?_)|(refine m_ext rfl rfl ?_)|(refine qxb ?_)|(refine qx9 rfl rfl rfl ?_ ?_ ?_ ?_;(· first|rfl|(simp [*]; done));(· first|rfl|(simp [*]; done));(· first|rfl|(simp [cellOk,Value.oneCell']; done)))))|refine qz1 ?_|refine qz3 ?_|(refine qzf rfl ?_ ?_;(· (refine nt ?_; assumption)))|refine qz6 ?_|refine qzj ?_|refine qzc ?_|refine qy8 ?_)
    exact qyh (qxa rfl) (qyb (by simp [h]))
end Go.Proofs.YtngfogpbljconaaGreatDoor
namespace Go.Proofs.YtngfogpbljconaaGreatDoor
variable [Go.Am.CodeBlk]
open Go.Am
theorem rowP_count (fb : Nat → Nat → Bool) (i : Nat) : ∀ k,(rowP fb i k).length = sumN k fun j => if fb i j then 1 else 0
  | 0 => rfl
  | k + 1 => by
    rw [rowP_snoc,List.length_append,rowP_count fb i k,sumN]
    cases fb i k <;> rfl
theorem posP_count (fb : Nat → Nat → Bool) (n : Nat) : ∀ k,(posP fb n k).length = sumN k fun i => sumN n fun j => if fb i j then 1 else 0
  | 0 => rfl
  | k + 1 => by rw [posP,List.length_append,posP_count fb n k,rowP_count,sumN]
theorem rk_one (fb : Nat → Nat → Bool) (n : Nat) : ∀ m,m ≤ n → rkG fb n m 0 1 = sumN m fun i => sumN n fun j => if fb (n - m + i) j then 1 else 0
  | 0,_ => rfl
  | m + 1,h => by
    rw [rkG,rk_one fb n m (by omega),sumN_succ']
    have e1 : sumN n (fun j => if fb (n - (m + 1)) j && !(0 : Nat).testBit j then (match 1 with|0 => 0|q + 1 => rkG fb n m (insC 0 j) q) else 0) = sumN n fun j => if fb (n - (m + 1) + 0) j then 1 else 0 := by
      refine qx1 fun j _ => ?_
      rw [Nat.zero_testBit,Nat.add_zero]
      cases fb (n - (m + 1)) j
      · rfl
      · exact rkG_zero fb n m _
    have e2 : sumN m (fun i => sumN n fun j => if fb (n - m + i) j then 1 else 0) = sumN m fun i => sumN n fun j => if fb (n - (m + 1) + (i + 1)) j then 1 else 0 := qx1 fun i _ => by rw [show n - m + i = n - (m + 1) + (i + 1) by omega]
    rw [e1,e2]
    omega
theorem plM_count (B : List UInt8) : (plM B).length = rkN (fbB B) (sdB B) 1 := by
  unfold plM posM rowsP rkN
  rw [List.length_map,List.length_append,posP_count,rk_one _ _ _ (Nat.le_refl _),rowP_count,Nat.sub_self,show sumN 0 (fun j => if fbB B (sdB B) j then 1 else 0) = 0 from rfl,Nat.add_zero]
  exact qx1 fun i _ => by rw [Nat.zero_add]
theorem plM_at {B : List UInt8} {k : Nat} (h : k < (plM B).length) : ∃ i j : Nat,(plM B).getD k [] = [(i : Int),(j : Int)] ∧ i < sdB B ∧ j < sdB B ∧ fbB B i j = true := by
  have hm : (plM B).getD k [] ∈ plM B := by simp [h]
  generalize (plM B).getD k [] = r at *
  unfold plM posM rowsP at hm
  rw [List.mem_map] at hm
  obtain ⟨p,hp,rfl⟩ := hm
  rw [List.mem_append] at hp
  rcases hp with hp|hp
  · obtain ⟨h1,h2,h3⟩ := mem_posP.1 hp
    exact ⟨p.1,p.2,rfl,h1,h2,h3⟩
  · obtain ⟨_,h2,_⟩ := mem_rowP.1 hp
    omega
theorem memL_rises (S n : Nat) : ∀ i,i + 1 < (memL S n).length → (memL S n).getD i 0 < (memL S n).getD (i + 1) 0 := by
  have hp : (memL S n).Pairwise (· < ·) := by
    unfold memL
    refine List.Pairwise.map _ (fun a b (hab : a < b) => ?_) (List.Pairwise.filter _ List.pairwise_lt_range)
    omega
  intro i hi
  have := List.pairwise_iff_getElem.1 hp i (i + 1) (by omega) hi (by omega)
  have e1 : (memL S n).getD i 0 = (memL S n)[i] := by simp [show i < (memL S n).length by omega]
  have e2 : (memL S n).getD (i + 1) 0 = (memL S n)[i + 1] := by simp [hi]
  rw [e1,e2]
  exact this
theorem fl_most {B : List UInt8} (h : GoodBd B) : (memL (flS B) (sdB B)).length + (memL (colsM (fbB B) (sdB B) (flS B)) (sdB B)).length = mostN (rkN (fbB B) (sdB B)) (sdB B) := by
  have hsd := qx5 h
  have hp := pick_best (fb := fbB B) hsd.2
  obtain ⟨h1,h2,_⟩ := (pickS_is (fbB B) (sdB B) (mostN (rkN (fbB B) (sdB B)) (sdB B)) (2 ^ sdB B)).2 _ hp
  unfold flS
  rw [← linS_mem h1 (by omega)]
  exact h2
theorem fl_cover {B : List UInt8} {i j : Nat} (hi : i < sdB B) (hj : j < sdB B) (hf : fbB B i j = true) : (i : Int) ∈ memL (flS B) (sdB B) ∨ (j : Int) ∈ memL (colsM (fbB B) (sdB B) (flS B)) (sdB B) := by
  cases hb : (flS B).testBit i
  · refine .inr (memL_mem.2 ⟨hj,?_⟩)
    unfold colsM
    rw [qv9]
    simp only [hj,decide_true,Bool.true_and]
    unfold nbB
    rw [Nat.zero_testBit,Bool.not_false,Bool.and_true,List.any_eq_true]
    exact ⟨i,List.mem_range.2 hi,by simp [hb,hf]⟩
  · exact .inl (memL_mem.2 ⟨hi,hb⟩)
theorem hitL_is {B : List UInt8} (h : GoodBd B) : hitL B = (List.range (sdB B + 1)).map fun k => ((hitX (fbB B) (sdB B) k : Nat) : Int) := by
  have hsd := qx5 h
  unfold hitL
  rw [hL_hits _ hsd.2 _ (Nat.le_refl _)]
  unfold hitLs
  exact List.map_congr_left fun i _ => by rw [show sdB B + 1 - (sdB B + 1) + i = i by omega]
theorem hit_part (fb : Nat → Nat → Bool) {n k : Nat} (h8 : n ≤ 8) (hk : k ≤ n + 1) : sumN k (fun k => hitX fb n k) ≤ 40320 := by
  have h := hit_all fb n
  rw [show n + 1 = k + (n + 1 - k) by omega,sumN_part] at h
  have := fcN_le8 n (by omega)
  omega
theorem hit_wpart (fb : Nat → Nat → Bool) {n : Nat} (h8 : n ≤ 8) : ∀ k,k ≤ n + 1 → sumN k (fun k => k * hitX fb n k) ≤ k * 322560
  | 0,_ => by simp [sumN]
  | k + 1,h => by
    have ih := hit_wpart fb h8 k (by omega)
    have h1 := hit_le fb (k := k) h8 (by omega)
    have h2 : k * hitX fb n k ≤ 8 * 40320 := Nat.mul_le_mul (by omega) h1
    rw [sumN]
    omega
theorem allw_is {B : List UInt8} (h : GoodBd B) : (hitL B).getD 0 0 = ((allB B).length : Nat) := by
  rw [hitL_is h,allB_len]
  simp
end Go.Proofs.YtngfogpbljconaaGreatDoor
namespace Go.Proofs.YtngfogpbljconaaGreatDoor
variable [Go.Am.CodeBlk]
open Go.Am
attribute [local irreducible] AW Outs Weak Lends Lend Sp aops atree aop1 Then Round InBlock Done
attribute [local irreducible] SpM DoneM SpH DoneH
theorem specForbiddenOf_spec (B : List UInt8) (hB : B.length ≤ 1048576) : SpH Tryz.prog 30 [str B] (fun _ => none) (.tup [.sl nbase 1 0 (fobR B).length,.v (.bool (decide (GoodBd B)))]) (matO (fobR B)) := by
  have hpb : pbase = 4000000 := rfl
  refine specH_of Tryz.func30 rfl cc30 rfl (by first|exact static_mat1 _|exact static_mat2 _ _|assumption) ?_
  unfold ac30
  by_cases h : GoodBd B
  · have e0 : fobR B = plM B := if_pos h
    have hok := fobR_ok B
    have hsp := bdPlaces_spec B h hB
    rw [← e0] at hsp
    generalize fobR B = R at *
    repeat (first|(refine qz0 ?_;(first|(refine m_mov (by conv => lhs; whnf) ?_)|(refine qx2 ?_)))|refine qz1 ?_|refine qz3 ?_|refine qz6 ?_)
    (refine qz0 ?_);(apply qza (qw0 B hB));(· repeat (first|exact qz4|(refine qz2 ?_ ?_;(· exact qzd))))
    repeat (first|(refine qz0 ?_;(first|(refine m_mov (by conv => lhs; whnf) ?_)|(refine m_not rfl ?_)))|refine qz1 ?_|refine qz3 ?_|(refine qzi rfl ?_ ?_;(· (refine nf ?_; assumption)))|refine qz5 ?_)
    refine qz0 ?_
    refine m_callM 8 1000 hsp ?_ rfl (by omega) (by omega) (by omega) rfl ?_ ?_
    · exact qz2 qzd qz4
    · intro j hj
      simp (disch := omega) only [qua,qwe,qw6]
      rfl
    repeat (first|(refine qz0 ?_;(refine m_mov (by conv => lhs; whnf) ?_))|refine qz1 ?_|refine qzj ?_)
    simp only [h,decide_true]
    refine ret_mat (r0 := 8) (b := 1000) (by omega) (by omega) (by omega) rfl rfl ?_
    intro j hj
    simp only [qua]
    refine addM_row (by omega) ?_ hj
    simp (disch := omega) only [qua,qwe,qw6]
    rfl
  · have e0 : fobR B = [] := if_neg h
    rw [e0]
    repeat (first|(refine qz0 ?_;(first|(refine m_mov (by conv => lhs; whnf) ?_)|(refine qx2 ?_)))|refine qz1 ?_|refine qz3 ?_|refine qz6 ?_)
    (refine qz0 ?_);(apply qza (qw0 B hB));(· repeat (first|exact qz4|(refine qz2 ?_ ?_;(· exact qzd))))
    repeat (first|(refine qz0 ?_;(first|(refine m_mov (by conv => lhs; whnf) ?_)|(refine m_not rfl ?_)|(refine qx2 ?_)))|refine qz1 ?_|refine qz3 ?_|(refine qzf rfl ?_ ?_;(· (refine nt ?_; assumption)))|refine qzj ?_|refine qy8 ?_)
    simp only [h,decide_false]
    exact ret_mat0 (r0 := 2) (fl := true) (by omega) rfl rfl
theorem implForbiddenOf_spec (B : List UInt8) (hB : B.length ≤ 1048576) : SpH Tryz.prog 29 [str B] (fun _ => none) (.tup [.sl nbase 1 0 (fobR B).length,.v (.bool (decide (GoodBd B)))]) (matO (fobR B)) := by
  have hpb : pbase = 4000000 := rfl
  have hr := qxj B hB
  unfold bdR bdV at hr
  refine specH_of Tryz.func29 rfl cc29 rfl (by first|exact static_mat1 _|exact static_mat2 _ _|assumption) ?_
  unfold ac29
  by_cases h : GoodBd B
  · have e0 : fobR B = plM B := if_pos h
    rw [e0]
    rw [if_pos h] at hr
    have hsd := qx5 h
    have hlt := plF_lt h
    repeat (first|(refine qz0 ?_;(first|(refine m_mov (by conv => lhs; whnf) ?_)|(refine qx2 ?_)))|refine qz1 ?_|refine qz3 ?_)
    (refine qz0 ?_);(apply qza (hr));(· repeat (first|exact qz4|(refine qz2 ?_ ?_;(· exact qzd))))
    repeat (first|(refine qz0 ?_;(first|(refine m_mov (by conv => lhs; whnf) ?_)|(refine m_not rfl ?_)|(apply qx8;(· rfl);(· rfl);(· rfl))|(refine qx2 ?_)|(refine m_ext rfl rfl ?_)|(refine qxb ?_)|(refine m_fa rfl ?_)|(refine qx9 rfl rfl rfl ?_ ?_ ?_ ?_;(· first|rfl|(simp [*]; done));(· first|rfl|(simp [*]; done));(· first|rfl|(simp [cellOk,Value.oneCell']; done)))))|refine qz1 ?_|refine qz3 ?_|(refine qzi rfl ?_ ?_;(· (refine nf ?_; assumption)))|refine qz5 ?_|refine qz6 ?_|refine qz8 ?_)
    refine qyf (α := Nat) (fun k => k ≤ sdB B) (fun k => stM [(4,.pt 4 0),(6,.sl 6 1 0 (posM (fbB B) (sdB B) k 0).length),(17,.i (sdB B : Nat)),(18,.i k)] [(4,(true,[.i (sdB B : Nat),.rmp true (mkEs (plB B)) (plB B).length]))] 6 1000 (posM (fbB B) (sdB B) k 0)) (fun k => sdB B - k) 0 (Nat.zero_le _)
      (qvc id ?_ ?_ rfl rfl rfl (.inl (by simp [posM_zero,pbase])) rfl rfl rfl (.inr ⟨rfl,rfl⟩) (fun j hj => by simp [posM_zero] at hj)) ?_
    · (repeat' first|exact trivial|refine And.intro ?_ ?_)<;>first|rfl|skip
    · (repeat' first|exact trivial|refine And.intro ?_ ?_)<;>first|rfl|skip
    intro k hk
    have hrl := qu2 1000 (posM (fbB B) (sdB B) k 0)
    have hpl := posM_len (fb := fbB B) (n := sdB B) (k := k) (j := 0) (by omega) hk (by omega)
    by_cases hc : k < sdB B
    · repeat (first|(refine qz0 ?_;(first|(refine m_mov (by conv => lhs; whnf) ?_)|(refine m_lss rfl rfl ?_)|(apply qx8;(· rfl);(· rfl);(· rfl))|(refine m_fa rfl ?_)))|refine qz1 ?_|refine qz3 ?_|(refine qzf rfl ?_ ?_;(· (refine decide_eq_true ?_; omega)))|refine qz5 ?_|refine qz6 ?_|refine qz8 ?_)
      refine qyf (α := Nat) (fun j => j ≤ sdB B) (fun j => stM [(4,.pt 4 0),(6,.sl 6 1 0 (posM (fbB B) (sdB B) k j).length),(7,.i k),(17,.i (sdB B : Nat)),(18,.i k),(22,.i (sdB B : Nat)),(23,.i j)] [(4,(true,[.i (sdB B : Nat),.rmp true (mkEs (plB B)) (plB B).length]))] 6 1000 (posM (fbB B) (sdB B) k j)) (fun j => sdB B - j) 0 (Nat.zero_le _)
        (qvc id ?_ ?_ rfl rfl rfl (.inl (by omega)) rfl rfl rfl (.inl ⟨rfl,rfl⟩) ?_) ?_
      · (repeat' first|exact trivial|refine And.intro ?_ ?_)<;>first|rfl|skip
      · (repeat' first|exact trivial|refine And.intro ?_ ?_)<;>first|rfl|skip
      · (intro j hj; simp (disch := first|omega|assumption) only [qua]; first|exact qw7 rfl hj|(rw [qw7 rfl hj]; rfl))
      intro j hj
      have hrl := qu2 1000 (posM (fbB B) (sdB B) k j)
      have hpl := posM_len (fb := fbB B) (n := sdB B) (k := k) (j := j) (by omega) hk hj
      have hsn := posM_snoc (fbB B) (sdB B) k j
      have hen := posM_end (fbB B) (sdB B) k
      by_cases hcj : j < sdB B
      · have hat := hasF_at B hc hcj
        by_cases hf : fbB B k j = true
        · rw [hf,if_pos rfl] at hsn
          generalize posM (fbB B) (sdB B) k j = R at *
          repeat (first|(refine qz0 ?_;(first|(refine m_mov (by conv => lhs; whnf) ?_)|(refine m_lss rfl rfl ?_)|(apply qx8;(· rfl);(· rfl);(· rfl))|(refine m_fa rfl ?_)|(refine m_bld_2 (by conv => lhs; whnf) (by conv => lhs; whnf) (by decide)  (by decide) (by rfl) (by rfl) ?_)))|refine qz1 ?_|refine qz3 ?_|(refine qzf rfl ?_ ?_;(· (refine decide_eq_true ?_; omega)))|refine qz5 ?_|refine qz6 ?_|refine qz8 ?_)
          refine qz0 ?_
          refine m_place (a := (k : Nat)) (b := (j : Nat)) hlt (.inr ⟨true,rfl⟩) rfl (by omega) (by omega) ?_
          rw [hat]
          repeat (first|(refine qz0 ?_;(refine m_mov (by conv => lhs; whnf) ?_))|refine qz1 ?_|refine qy5 ?_|(refine qzf rfl ?_ ?_;(· assumption)))
          refine qz0 ?_
          refine m_bsl2i rfl rfl ?_
          refine qz0 ?_
          refine m_bsl1d rfl rfl ?_
          refine qz0 ?_
          refine m_app1d rfl (by decide) rfl ?_ rfl rfl rfl ?_ (by decide) ?_
          · simp [rowsC_kill,qu2]
          · omega
          repeat (first|(refine qz0 ?_;(first|(refine m_mov (by conv => lhs; whnf) ?_)|(refine m_add rfl rfl ?_ ?_ ?_;(· omega);(· omega))))|refine qz1 ?_|refine qy5 ?_|refine qz7 ?_|refine qze ?_)
          refine qzb (j + 1) hcj ?_ ?_
          · rw [hsn,List.length_append]
            refine weak_push (fun r => if r = 6 then 37 else r) 35 ?_ ?_ rfl rfl rfl (by omega) rfl rfl (by decide) rfl rfl ?_ ?_ ?_
            · (repeat' first|exact trivial|refine And.intro ?_ ?_)<;>first|rfl|skip
            · (repeat' first|exact trivial|refine And.intro ?_ ?_)<;>first|rfl|skip
            · simp [rowsC_kill,killL_append,killL]
              rfl
            · rfl
            · (intro j hj; simp (disch := first|omega|assumption) only [qua,qwe,qw6]; first|exact qw7 rfl hj|(rw [qw7 rfl hj]; rfl))
          · omega
        · have hf : fbB B k j = false := by simpa using hf
          rw [hf,if_neg (by simp),List.append_nil] at hsn
          generalize posM (fbB B) (sdB B) k j = R at *
          repeat (first|(refine qz0 ?_;(first|(refine m_mov (by conv => lhs; whnf) ?_)|(refine m_lss rfl rfl ?_)|(apply qx8;(· rfl);(· rfl);(· rfl))|(refine m_fa rfl ?_)|(refine m_bld_2 (by conv => lhs; whnf) (by conv => lhs; whnf) (by decide)  (by decide) (by rfl) (by rfl) ?_)))|refine qz1 ?_|refine qz3 ?_|(refine qzf rfl ?_ ?_;(· (refine decide_eq_true ?_; omega)))|refine qz5 ?_|refine qz6 ?_|refine qz8 ?_)
          refine qz0 ?_
          refine m_place (a := (k : Nat)) (b := (j : Nat)) hlt (.inr ⟨true,rfl⟩) rfl (by omega) (by omega) ?_
          rw [hat]
          repeat (first|(refine qz0 ?_;(first|(refine m_mov (by conv => lhs; whnf) ?_)|(refine m_add rfl rfl ?_ ?_ ?_;(· omega);(· omega))))|refine qz1 ?_|refine qy5 ?_|(refine qzi rfl ?_ ?_;(· assumption))|refine qz7 ?_|refine qze ?_|refine qx6 ?_)
          refine qzb (j + 1) hcj ?_ ?_
          · rw [hsn]
            refine qvc id ?_ ?_ rfl rfl rfl (.inl (by omega)) rfl rfl rfl (.inl ⟨rfl,rfl⟩) ?_
            · (repeat' first|exact trivial|refine And.intro ?_ ?_)<;>first|rfl|skip
            · (repeat' first|exact trivial|refine And.intro ?_ ?_)<;>first|rfl|skip
            · (intro j hj; simp (disch := first|omega|assumption) only [qua]; first|exact qw7 rfl hj|(rw [qw7 rfl hj]; rfl))
          · omega
      · obtain rfl : j = sdB B := by omega
        repeat (first|(refine qz0 ?_;(first|(refine m_mov (by conv => lhs; whnf) ?_)|(refine m_lss rfl rfl ?_)|(refine m_add rfl rfl ?_ ?_ ?_;(· omega);(· omega))))|refine qz1 ?_|refine qz3 ?_|refine qy5 ?_|(refine qzi rfl ?_ ?_;(· (refine decide_eq_false ?_; omega)))|refine qz6 ?_|refine qz7 ?_|refine qy1 ?_|refine qze ?_|refine qy0 ?_|refine qy9 ?_|refine qzg ?_)
        refine qzb (k + 1) hc ?_ ?_
        · rw [hen]
          refine qvc id ?_ ?_ rfl rfl rfl (.inl (by omega)) rfl rfl rfl (.inl ⟨rfl,rfl⟩) ?_
          · (repeat' first|exact trivial|refine And.intro ?_ ?_)<;>first|rfl|skip
          · (repeat' first|exact trivial|refine And.intro ?_ ?_)<;>first|rfl|skip
          · (intro j hj; simp (disch := first|omega|assumption) only [qua]; first|exact qw7 rfl hj|(rw [qw7 rfl hj]; rfl))
        · omega
    · obtain rfl : k = sdB B := by omega
      repeat (first|(refine qz0 ?_;(first|(refine m_mov (by conv => lhs; whnf) ?_)|(refine m_lss rfl rfl ?_)))|refine qz1 ?_|refine qz3 ?_|(refine qzi rfl ?_ ?_;(· (refine decide_eq_false ?_; omega)))|refine qz6 ?_|refine qzj ?_|refine qz7 ?_|refine qy1 ?_|refine qy0 ?_|refine qy9 ?_|refine qzg ?_)
      simp only [h,decide_true]
      refine ret_mat (r0 := 6) (b := 1000) (by omega) (by omega) (by show 1000 + (posM (fbB B) (sdB B) (sdB B) 0).length ≤ pbase; omega) rfl rfl ?_
      unfold plM
      (intro j hj; simp (disch := first|omega|assumption) only [qua]; first|exact qw7 rfl hj|(rw [qw7 rfl hj]; rfl))
  · have e0 : fobR B = [] := if_neg h
    rw [e0]
    rw [if_neg h] at hr
    repeat (first|(refine qz0 ?_;(first|(refine m_mov (by conv => lhs; whnf) ?_)|(refine qx2 ?_)))|refine qz1 ?_|refine qz3 ?_)
    (refine qz0 ?_);(apply qza (hr));(· repeat (first|exact qz4|(refine qz2 ?_ ?_;(· exact qzd))))
    repeat (first|(refine qz0 ?_;(first|(refine m_mov (by conv => lhs; whnf) ?_)|(refine m_not rfl ?_)|(refine qx2 ?_)|(refine m_ext rfl rfl ?_)|(refine qxb ?_)|(refine qx9 rfl rfl rfl ?_ ?_ ?_ ?_;(· first|rfl|(simp [*]; done));(· first|rfl|(simp [*]; done));(· first|rfl|(simp [cellOk,Value.oneCell']; done)))))|refine qz1 ?_|refine qz3 ?_|(refine qzf rfl ?_ ?_;(· (refine nt ?_; assumption)))|refine qz6 ?_|refine qzj ?_|refine qy8 ?_)
    simp only [h,decide_false]
    exact ret_mat0 (r0 := 2) (fl := true) (by omega) rfl rfl
end Go.Proofs.YtngfogpbljconaaGreatDoor
namespace Go.Am
variable [Go.Am.CodeBlk]
theorem g_un {P : Program} {own : Bool} {s : AS} {K : AS → Prop} {d : Option Nat} {op : AOp} {t : Nat} {w : Bool} (h : s.tm t = .v undef) (k : K (s.put d (.v undef))) : aop1 P own ⟨d,op,some (t,w)⟩ s K := .inr ⟨h,k⟩
end Go.Am
namespace Go.Proofs.YtngfogpbljconaaGreatDoor
variable [Go.Am.CodeBlk]
open Go.Am
attribute [local irreducible] AW Outs Weak Lends Lend Sp aops atree aop1 Then Round InBlock Done
attribute [local irreducible] SpM DoneM SpH DoneH
def sndC : ACode → ACode
  | .seq _ y => y
  | c => c
def fstC : ACode → ACode
  | .seq x _ => x
  | c => c
def thnC : ACode → ACode
  | .cond _ x _ => x
  | c => c
def sndN : Nat → ACode → ACode
  | 0,c => c
  | n + 1,c => sndN n (sndC c)
theorem xor_self (b : Bool) : (true ^^ (b == b)) = false := by cases b <;> rfl
theorem roF_at {rows : List (List Int)} {k : Nat} (h : k < rows.length) : ((rows.map newInts).drop k)[0]? = some (newInts (rows.getD k [])) := by simp [h]
def bcE : ACode := sndN 30 ac3
def bcI : ACode := thnC (sndC (fstC (sndN 29 ac3)))
def bcP : ACode := sndN 4 bcI
theorem bc5 {C : List UInt8} (h : GoodBd C) :
    AW Tryz.prog (min Tryz.f3.ntmps pbase) bcP (st [(49,ints (memL (flS C) (sdB C))),(50,ints (memL (colsM (fbB C) (sdB C) (flS C)) (sdB C))),(55,roF (plM C))] []) (Then (fun s => AW Tryz.prog (min Tryz.f3.ntmps pbase) bcE s (Done [4].reverse (.b true))) (Done [4].reverse (.b true))) := by
  have hsd := qx5 h
  have hl1 := qw5 (flS C) (sdB C)
  have hl2 := qw5 (colsM (fbB C) (sdB C) (flS C)) (sdB C)
  have hcov := fun (i j : Nat) (hi : i < sdB C) (hj : j < sdB C) (hf : fbB C i j = true) => fl_cover (B := C) hi hj hf
  have hpl : (plM C).length ≤ 1000 := by
    rw [plM_count]
    have h1 := rk_one (fbB C) (sdB C) (sdB C) (Nat.le_refl _)
    unfold rkN
    rw [h1]
    have : sumN (sdB C) (fun i => sumN (sdB C) fun j => if fbB C (sdB C - sdB C + i) j then 1 else 0) ≤ sumN (sdB C) fun _ => 8 := quf fun c _ => by
      have := quf (n := sdB C) (f := fun j => if fbB C (sdB C - sdB C + c) j then 1 else 0) (g := fun _ => 1) fun j _ => by split <;> omega
      rw [qv1] at this
      omega
    rw [qv1] at this
    omega
  have hat := fun k (hk : k < (plM C).length) => plM_at hk
  generalize memL (flS C) (sdB C) = R at *
  generalize memL (colsM (fbB C) (sdB C) (flS C)) (sdB C) = K at *
  generalize plM C = G at *
  unfold bcP bcI
  unfold bcE
  unfold ac3
  simp only [sndN,sndC,fstC,thnC]
  repeat (first|(refine qz0 ?_;(first|(refine m_mov (by conv => lhs; whnf) ?_)|(refine qy4 rfl ?_)))|refine qz1 ?_|refine qz3 ?_|refine qz8 ?_)
  refine qyf (α := Nat) (fun k => k ≤ G.length) (fun k => st [(49,ints R),(50,ints K),(561,roF G),(562,.i G.length),(563,.i (k : Nat))] []) (fun k => G.length - k) 0 (Nat.zero_le _) (qz9 ?_ ?_ rfl rfl) ?_
  · (repeat' first|exact trivial|refine And.intro ?_ ?_)<;>first|rfl|skip
  · trivial
  intro k hk
  by_cases hc : k < G.length
  · obtain ⟨i,j,hg,hi,hj,hf⟩ := hat k hc
    have ho1 := oHas_spec R i (by omega)
    have ho2 := oHas_spec K j (by omega)
    have hcv := hcov i j hi hj hf
    have g0 : ([(i : Int),(j : Int)] : List Int).getD 0 0 = (i : Int) := rfl
    have g1 : ([(i : Int),(j : Int)] : List Int).getD 1 0 = (j : Int) := rfl
    have g2 : ([(i : Int),(j : Int)] : List Int).length = 2 := rfl
    generalize ([(i : Int),(j : Int)] : List Int) = r at *
    rw [← g0] at ho1
    rw [← g1] at ho2
    by_cases h1 : (i : Int) ∈ R
    · rw [g0,decide_eq_true h1,← g0] at ho1
      repeat (first|(refine qz0 ?_;(first|(refine m_lss rfl rfl ?_)|(refine qy6 rfl rfl ?_ ?_;(· omega))))|refine qz1 ?_|refine qz3 ?_|(refine qzf rfl ?_ ?_;(· (refine decide_eq_true ?_; omega)))|refine qz5 ?_|refine qz6 ?_|refine qz8 ?_)
      refine qz0 ?_
      refine qvf rfl (roF_at hc) ?_
      rw [hg]
      repeat (first|(refine qz0 ?_;(first|(refine m_mov (by conv => lhs; whnf) ?_)|(refine qvg rfl rfl ?_ ?_ ?_;(· omega);(· omega))|(refine qyg rfl ?_ ?_;(· omega))))|refine qz1 ?_|refine qz3 ?_)
      refine qz0 ?_;(apply qza (ho1));(· repeat (first|exact qz4|(refine qz2 ?_ ?_;(· (first|exact qzd|(refine qy2 ?_; first|rfl|omega))))))
      repeat (first|(refine qz0 ?_;(first|(first|(refine m_mov (by conv => lhs; whnf) ?_)|(refine m_add rfl rfl ?_ ?_ ?_;(· omega);(· omega))|(refine m_not rfl ?_)|(refine qy3 rfl ?_ (by conv => lhs; whnf) ?_;(· rfl)))|(refine g_noT rfl ?_ ?_;(· rfl))))|refine qz1 ?_|refine qy5 ?_|(refine qzi rfl ?_ ?_;(· rfl))|refine qz7 ?_|refine qze ?_|refine qx6 ?_)
      refine qzb (k + 1) (by omega) (qz9 ?_ ?_ rfl rfl) (by omega)
      · (repeat' first|exact trivial|refine And.intro ?_ ?_)<;>first|rfl|skip
      · trivial
    · rw [g0,decide_eq_false h1,← g0] at ho1
      rw [g1,decide_eq_true (hcv.resolve_left h1),← g1] at ho2
      repeat (first|(refine qz0 ?_;(first|(refine m_lss rfl rfl ?_)|(refine qy6 rfl rfl ?_ ?_;(· omega))))|refine qz1 ?_|refine qz3 ?_|(refine qzf rfl ?_ ?_;(· (refine decide_eq_true ?_; omega)))|refine qz5 ?_|refine qz6 ?_|refine qz8 ?_)
      refine qz0 ?_
      refine qvf rfl (roF_at hc) ?_
      rw [hg]
      repeat (first|(refine qz0 ?_;(first|(refine m_mov (by conv => lhs; whnf) ?_)|(refine qvg rfl rfl ?_ ?_ ?_;(· omega);(· omega))|(refine qyg rfl ?_ ?_;(· omega))))|refine qz1 ?_|refine qz3 ?_)
      refine qz0 ?_;(apply qza (ho1));(· repeat (first|exact qz4|(refine qz2 ?_ ?_;(· (first|exact qzd|(refine qy2 ?_; first|rfl|omega))))))
      repeat (refine qz0 ?_;((try (refine g_yes rfl ?_ ?_;(· rfl)));(first|(refine m_mov (by conv => lhs; whnf) ?_)|(refine m_not rfl ?_)|(refine qvg rfl rfl ?_ ?_ ?_;(· omega);(· omega))|(refine qyg rfl ?_ ?_;(· omega)))))
      refine qz0 ?_;(refine g_yes rfl ?_ ?_;(· first|(rfl)|(fail));(apply qza (ho2)));(· repeat (first|exact qz4|(refine qz2 ?_ ?_;(· (first|exact qzd|(refine qy2 ?_; first|rfl|omega))))))
      repeat (first|(refine qz0 ?_;((try (refine g_yes rfl ?_ ?_;(· rfl)));(first|(refine m_mov (by conv => lhs; whnf) ?_)|(refine m_add rfl rfl ?_ ?_ ?_;(· omega);(· omega))|(refine m_not rfl ?_)|(refine qye rfl ?_ (by conv => lhs; whnf) ?_;(· rfl)))))|refine qz1 ?_|refine qy5 ?_|(refine qzi rfl ?_ ?_;(· rfl))|refine qz7 ?_|refine qze ?_|refine qx6 ?_)
      refine qzb (k + 1) (by omega) (qz9 ?_ ?_ rfl rfl) (by omega)
      · (repeat' first|exact trivial|refine And.intro ?_ ?_)<;>first|rfl|skip
      · trivial
  · repeat (first|(refine qz0 ?_;(first|(refine m_mov (by conv => lhs; whnf) ?_)|(refine m_lss rfl rfl ?_)))|refine qz1 ?_|refine qz3 ?_|(refine qzi rfl ?_ ?_;(· (refine decide_eq_false ?_; omega)))|refine qz6 ?_|refine qzj ?_|refine qzc ?_|refine qz7 ?_|refine qy1 ?_|refine qy0 ?_|refine qy9 ?_|refine qzg ?_)
    exact qyb rfl
def bcN : ACode := sndN 3 bcI
set_option maxHeartbeats 2000000 in
theorem bc4 {C : List UInt8} (h : GoodBd C) :
    AW Tryz.prog (min Tryz.f3.ntmps pbase) bcN (st [(37,newInts (hitL C)),(41,newInts (rgL (sdB C) (rkN (fbB C) (sdB C)))),(45,.i (mostN (rkN (fbB C) (sdB C)) (sdB C) : Nat)),(49,ints (memL (flS C) (sdB C))),(50,ints (memL (colsM (fbB C) (sdB C) (flS C)) (sdB C))),(55,roF (plM C)),(59,.i (sdB C : Nat)),(60,.b true),(61,.i (sumN (sdB C + 1) (fun k => k * hitX (fbB C) (sdB C) k) : Nat))] []) (Then (fun s => AW Tryz.prog (min Tryz.f3.ntmps pbase) bcE s (Done [4].reverse (.b true))) (Done [4].reverse (.b true))) := by
  have h5 := bc5 h
  have hp : bcN = .seq (fstC bcN) bcP := rfl
  rw [hp]
  clear hp
  generalize bcP = c5 at *
  have hsd := qx5 h
  have f1 := oSumH_spec (hitX (fbB C) (sdB C)) (sdB C) (fun k hk => Nat.le_trans (hit_part (fbB C) hsd.2 hk) (by decide)) (fun k hk => by have := hit_le (fbB C) (k := k) hsd.2 (by omega); omega) hsd.2
  have f2 := oTimes_spec (sdB C) (by omega)
  have f3 := oTimes_spec (sdB C - 1) (by omega)
  rw [show (((sdB C - 1 : Nat) : Nat) : Int) = (sdB C : Nat) - 1 by omega] at f3
  have f4 := oRises_spec (memL (flS C) (sdB C)) (by have := qw5 (flS C) (sdB C); omega) (memL_rises _ _)
  have f5 := oRises_spec (memL (colsM (fbB C) (sdB C) (flS C)) (sdB C)) (by have := qw5 (colsM (fbB C) (sdB C) (flS C)) (sdB C); omega) (memL_rises _ _)
  have e1 := fc_fac (sdB C) (by omega)
  have e2 := fc_fac (sdB C - 1) (by omega)
  have l2 := fcN_le8 (sdB C - 1) (by omega)
  rw [← hitL_is h,hit_all,e1] at f1
  rw [← e2] at f3
  have hw := hit_weighed (fbB C) (sdB C)
  have hpl := plM_count C
  have hlast := hit_last (fbB C) (sdB C)
  have hlen : (hitL C).length = sdB C + 1 := hitL_len C
  have hrl := qvj (sdB C) (rkN (fbB C) (sdB C))
  have hg1 : (hitL C).getD (sdB C) 0 = (rkN (fbB C) (sdB C) (sdB C) : Nat) := by rw [hitL_is h,← hlast]; simp
  have hg2 := qva (rkN (fbB C) (sdB C)) (show 0 < sdB C + 1 by omega)
  have hg3 := qva (rkN (fbB C) (sdB C)) (show 1 < sdB C + 1 by omega)
  have hg4 := qva (rkN (fbB C) (sdB C)) (show sdB C < sdB C + 1 by omega)
  have hm := mostN_le (rkN (fbB C) (sdB C)) (sdB C)
  have hg5 := qva (rkN (fbB C) (sdB C)) (show mostN (rkN (fbB C) (sdB C)) (sdB C) < sdB C + 1 by omega)
  have h0 : rkN (fbB C) (sdB C) 0 = 1 := rk0 _ _ _ _
  obtain ⟨m1,m2⟩ := mostN_pos (f := rkN (fbB C) (sdB C)) (by rw [h0]; decide) (sdB C)
  have hfl := fl_most h
  have hlen1 := qw5 (flS C) (sdB C)
  have hlen2 := qw5 (colsM (fbB C) (sdB C) (flS C)) (sdB C)
  have hpc : (plM C).length ≤ 1000 := by
    rw [hpl]
    have : rkN (fbB C) (sdB C) 1 ≤ 1000 := by
      have h1 := rk_one (fbB C) (sdB C) (sdB C) (Nat.le_refl _)
      unfold rkN
      rw [h1]
      have : sumN (sdB C) (fun i => sumN (sdB C) fun j => if fbB C (sdB C - sdB C + i) j then 1 else 0) ≤ sumN (sdB C) fun _ => 8 := quf fun c _ => by
        have := quf (n := sdB C) (f := fun j => if fbB C (sdB C - sdB C + c) j then 1 else 0) (g := fun _ => 1) fun j _ => by split <;> omega
        rw [qv1] at this
        omega
      rw [qv1] at this
      omega
    exact this
  have hprod0 : (plM C).length * fcN (sdB C - 1) ≤ 1000 * 40320 := Nat.mul_le_mul hpc l2
  rw [← hpl] at hw
  rw [hw]
  rw [h0] at hg2
  rw [← hpl] at hg3
  have hcast : (((plM C).length * fcN (sdB C - 1) : Nat) : Int) = ((plM C).length : Int) * ((fcN (sdB C - 1) : Nat) : Int) := Int.natCast_mul _ _
  have hprod : ((plM C).length : Int) * ((fcN (sdB C - 1) : Nat) : Int) ≤ 1000 * 40320 := by omega
  have hprod2 : 0 ≤ ((plM C).length : Int) * ((fcN (sdB C - 1) : Nat) : Int) := by omega
  rw [hcast]
  have hfn := fac_le (sdB C) (by omega)
  have hlt : ∀ hh : mostN (rkN (fbB C) (sdB C)) (sdB C) < sdB C,(rgL (sdB C) (rkN (fbB C) (sdB C))).getD (mostN (rkN (fbB C) (sdB C)) (sdB C) + 1) 0 = 0 := fun hh => by
    rw [qva _ (by omega)]
    have := m2 (mostN (rkN (fbB C) (sdB C)) (sdB C) + 1) (by omega) (by omega)
    omega
  generalize rgL (sdB C) (rkN (fbB C) (sdB C)) = RK at *
  generalize mostN (rkN (fbB C) (sdB C)) (sdB C) = M at *
  generalize memL (flS C) (sdB C) = R at *
  generalize memL (colsM (fbB C) (sdB C) (flS C)) (sdB C) = K at *
  generalize hitL C = H at *
  generalize rkN (fbB C) (sdB C) (sdB C) = rn at *
  generalize rkN (fbB C) (sdB C) M = rm at *
  generalize plM C = G at *
  generalize fcN (sdB C - 1) = fc at *
  generalize fac (sdB C) = fa at *
  generalize sdB C = n at *
  have d1 : ¬ (RK.getD 0 0 ≠ 1) := by omega
  have d2 : ¬ (RK.getD 1 0 ≠ (G.length : Nat)) := by omega
  have d3 : ¬ (H.getD n 0 ≠ RK.getD n 0) := by omega
  have d4 : ¬ (RK.getD M 0 < 1) := by omega
  clear m2 hlast h0 hpl hw e1 e2
  unfold bcN bcI
  unfold ac3
  simp only [sndN,sndC,fstC,thnC]
  by_cases hmn : M < n
  · have hnext := hlt hmn
    have d5 : ¬ (RK.getD (M + 1) 0 ≠ 0) := fun hh => hh hnext
    have d6 : ¬ (RK.getD (((M : Int) + 1).toNat * 1) 0 ≠ 0) := by rw [show ((M : Int) + 1).toNat * 1 = M + 1 by omega]; exact d5
    repeat (first|(refine qzh ?_;((try (refine g_yes rfl ?_ ?_;(· first|rfl|(simp [*]; done))));(first|(refine m_mov (by conv => lhs; whnf) ?_)|(refine m_neq rfl rfl ?_)|(refine m_add rfl rfl ?_ ?_ ?_;(· omega);(· omega))|(refine m_not rfl ?_)|(refine qy4 rfl ?_)|(refine qy3 rfl ?_ (by conv => lhs; whnf) ?_;(· first|rfl|(refine decide_eq_false ?_; omega))))))|refine qw3 ?_|refine qz6 ?_)
    refine qzh ?_;(refine g_yes rfl ?_ ?_;(· first|((simp [*]; done))|(fail));(apply qza (f1)));(· repeat (first|exact qz4|(refine qz2 ?_ ?_;(· (refine qy2 ?_; first|rfl|omega)))))
    repeat (refine qzh ?_;((try (refine g_yes rfl ?_ ?_;(· (simp [*]; done))));(refine m_mov (by conv => lhs; whnf) ?_)))
    refine qzh ?_;(refine g_yes rfl ?_ ?_;(· first|((simp [*]; done))|(fail));(apply qza (f2)));(· repeat (first|exact qz4|(refine qz2 ?_ ?_;(· exact qzd))))
    repeat (refine qzh ?_;((try (refine g_yes rfl ?_ ?_;(· (simp [*]; done))));(first|(refine m_mov (by conv => lhs; whnf) ?_)|(refine m_neq rfl rfl ?_)|(refine m_sub rfl rfl ?_ ?_ ?_;(· omega);(· omega))|(refine qy4 rfl ?_)|(refine qy3 rfl ?_ (by conv => lhs; whnf) ?_;(· (refine decide_eq_false ?_; omega))))))
    refine qzh ?_;(refine g_yes rfl ?_ ?_;(· first|((simp [*]; done))|(fail));(apply qza (f3)));(· repeat (first|exact qz4|(refine qz2 ?_ ?_;(· exact qzd))))
    repeat (refine qzh ?_;((try (refine g_yes rfl ?_ ?_;(· first|(refine decide_eq_true ?_; omega)|(simp [*]; done)|(refine decide_eq_false ?_; assumption)|(refine decide_eq_false ?_; omega))));(first|(refine m_mov (by conv => lhs; whnf) ?_)|(refine m_lss rfl rfl ?_)|(refine m_neq rfl rfl ?_)|(refine m_add rfl rfl ?_ ?_ ?_;(· omega);(· omega))|(refine m_mul rfl rfl ?_ ?_ ?_;(· first|omega|(simp; done));(· first|omega|(simp; done)))|(refine qy4 rfl ?_)|(refine qy6 rfl rfl ?_ ?_;(· omega))|(refine qvg rfl rfl ?_ ?_ ?_;(· omega);(· omega))|(refine qyg rfl ?_ ?_;(· omega))|(refine qye rfl ?_ (by conv => lhs; whnf) ?_;(· (refine decide_eq_true ?_; omega)))|(refine qy3 rfl ?_ (by conv => lhs; whnf) ?_;(· first|(refine decide_eq_false ?_; assumption)|(refine decide_eq_false ?_; omega))))))
    refine qzh ?_;(refine g_yes rfl ?_ ?_;(· first|(fail)|((refine decide_eq_false ?_; omega)));(apply qza (f4)));(· repeat (first|exact qz4|(refine qz2 ?_ ?_;(· (refine qy2 ?_; first|rfl|omega)))))
    repeat (refine qzh ?_;((try (refine g_yes rfl ?_ ?_;(· first|rfl|(refine decide_eq_false ?_; omega))));(first|(refine m_mov (by conv => lhs; whnf) ?_)|(refine m_not rfl ?_)|(refine qy3 rfl ?_ (by conv => lhs; whnf) ?_;(· (refine decide_eq_false ?_; omega))))))
    refine qzh ?_;(refine g_yes rfl ?_ ?_;(· first|(rfl)|(fail));(apply qza (f5)));(· repeat (first|exact qz4|(refine qz2 ?_ ?_;(· (refine qy2 ?_; first|rfl|omega)))))
    repeat (first|(refine qzh ?_;((try (refine g_yes rfl ?_ ?_;(· rfl)));(first|(refine m_not rfl ?_)|(refine qy3 rfl ?_ (by conv => lhs; whnf) ?_;(· rfl)))))|refine qxc ?_|(refine qzi rfl ?_ ?_;(· rfl))|refine qz5 ?_)
    refine qxe (qz9 ?_ ?_ rfl rfl) h5
    · (repeat' first|exact trivial|refine And.intro ?_ ?_)<;>first|rfl|skip
    · trivial
  · repeat (first|(refine qzh ?_;((try (refine g_yes rfl ?_ ?_;(· first|rfl|(simp [*]; done))));(first|(refine m_mov (by conv => lhs; whnf) ?_)|(refine m_neq rfl rfl ?_)|(refine m_add rfl rfl ?_ ?_ ?_;(· omega);(· omega))|(refine m_not rfl ?_)|(refine qy4 rfl ?_)|(refine qy3 rfl ?_ (by conv => lhs; whnf) ?_;(· first|rfl|(refine decide_eq_false ?_; omega))))))|refine qw3 ?_|refine qz6 ?_)
    refine qzh ?_;(refine g_yes rfl ?_ ?_;(· first|((simp [*]; done))|(fail));(apply qza (f1)));(· repeat (first|exact qz4|(refine qz2 ?_ ?_;(· (refine qy2 ?_; first|rfl|omega)))))
    repeat (refine qzh ?_;((try (refine g_yes rfl ?_ ?_;(· (simp [*]; done))));(refine m_mov (by conv => lhs; whnf) ?_)))
    refine qzh ?_;(refine g_yes rfl ?_ ?_;(· first|((simp [*]; done))|(fail));(apply qza (f2)));(· repeat (first|exact qz4|(refine qz2 ?_ ?_;(· exact qzd))))
    repeat (refine qzh ?_;((try (refine g_yes rfl ?_ ?_;(· (simp [*]; done))));(first|(refine m_mov (by conv => lhs; whnf) ?_)|(refine m_neq rfl rfl ?_)|(refine m_sub rfl rfl ?_ ?_ ?_;(· omega);(· omega))|(refine qy4 rfl ?_)|(refine qy3 rfl ?_ (by conv => lhs; whnf) ?_;(· (refine decide_eq_false ?_; omega))))))
    refine qzh ?_;(refine g_yes rfl ?_ ?_;(· first|((simp [*]; done))|(fail));(apply qza (f3)));(· repeat (first|exact qz4|(refine qz2 ?_ ?_;(· exact qzd))))
    repeat (refine qzh ?_;(first|((try (refine g_yes rfl ?_ ?_;(· first|rfl|(simp [*]; done)|(refine decide_eq_false ?_; assumption)|(refine decide_eq_false ?_; omega))));(first|(refine m_mov (by conv => lhs; whnf) ?_)|(refine m_lss rfl rfl ?_)|(refine m_neq rfl rfl ?_)|(refine m_add rfl rfl ?_ ?_ ?_;(· omega);(· omega))|(refine m_mul rfl rfl ?_ ?_ ?_;(· first|omega|(simp; done));(· first|omega|(simp; done)))|(refine qy4 rfl ?_)|(refine qy6 rfl rfl ?_ ?_;(· omega))|(refine qvg rfl rfl ?_ ?_ ?_;(· omega);(· omega))|(refine qyg rfl ?_ ?_;(· omega))|(refine qy3 rfl ?_ (by conv => lhs; whnf) ?_;(· first|rfl|(refine decide_eq_false ?_; assumption)|(refine decide_eq_false ?_; omega)))))|(refine g_noT rfl ?_ ?_;(· (refine decide_eq_false ?_; omega)))))
    refine qzh ?_;(refine g_yes rfl ?_ ?_;(· first|(fail)|((refine decide_eq_false ?_; omega)));(apply qza (f4)));(· repeat (first|exact qz4|(refine qz2 ?_ ?_;(· (refine qy2 ?_; first|rfl|omega)))))
    repeat (refine qzh ?_;((try (refine g_yes rfl ?_ ?_;(· first|rfl|(refine decide_eq_false ?_; omega))));(first|(refine m_mov (by conv => lhs; whnf) ?_)|(refine m_not rfl ?_)|(refine qy3 rfl ?_ (by conv => lhs; whnf) ?_;(· (refine decide_eq_false ?_; omega))))))
    refine qzh ?_;(refine g_yes rfl ?_ ?_;(· first|(rfl)|(fail));(apply qza (f5)));(· repeat (first|exact qz4|(refine qz2 ?_ ?_;(· (refine qy2 ?_; first|rfl|omega)))))
    repeat (first|(refine qzh ?_;((try (refine g_yes rfl ?_ ?_;(· rfl)));(first|(refine m_not rfl ?_)|(refine qy3 rfl ?_ (by conv => lhs; whnf) ?_;(· rfl)))))|refine qxc ?_|(refine qzi rfl ?_ ?_;(· rfl))|refine qz5 ?_)
    refine qxe (qz9 ?_ ?_ rfl rfl) h5
    · (repeat' first|exact trivial|refine And.intro ?_ ?_)<;>first|rfl|skip
    · trivial
end Go.Proofs.YtngfogpbljconaaGreatDoor
namespace Go.Am
variable [Go.Am.CodeBlk]
theorem g_unl {P : Program} {own : Bool} {s : AS} {K : AS → Prop} {d : Option Nat} {op : AOp} {t : Nat} {w : Bool} (h : s.tm t = .v undef) (k : K (s.put d (.v undef))) : aop1 P own ⟨d,op,some (t,w)⟩ s K := .inr ⟨h,k⟩
end Go.Am
namespace Go.Proofs.YtngfogpbljconaaGreatDoor
variable [Go.Am.CodeBlk]
open Go.Am
attribute [local irreducible] AW Outs Weak Lends Lend Sp aops atree aop1 Then Round InBlock Done
attribute [local irreducible] SpH SpX DoneH DoneX
def needB (fb : Nat → Nat → Bool) (S j q : Nat) : Bool := (List.range q).any fun i => !S.testBit i && fb i j
theorem needB_succ (fb : Nat → Nat → Bool) (S j q : Nat) : needB fb S j (q + 1) = (needB fb S j q || (!S.testBit q && fb q j)) := by
  unfold needB
  rw [List.range_succ,List.any_append]
  simp
theorem needB_cols {fb : Nat → Nat → Bool} {n S j : Nat} (hj : j < n) : (colsM fb n S).testBit j = needB fb S j n := by
  unfold colsM
  rw [qv9,decide_eq_true hj,Bool.true_and]
  unfold nbB needB
  simp
theorem l1HasM_spec (S n q : Nat) (hq : q < n) (hn : n ≤ 12) : Sp Tryz.prog 58 [ints (memL S n),.i (q : Nat)] (.b (S.testBit q)) := by
  have h := qv2 (memL S n) (q : Nat) (by have := qw5 S n; omega)
  have e : decide (((q : Nat) : Int) ∈ memL S n) = S.testBit q := by
    cases hb : S.testBit q with
    | true => exact decide_eq_true (memL_mem.2 ⟨hq,hb⟩)
    | false => exact decide_eq_false fun hm => by rw [(memL_mem.1 hm).2] at hb; cases hb
  rw [e] at h
  exact h
def oRow (n : Nat) : Option Nat → List Int
  | none => []
  | some b => memL b n
def oCol (fb : Nat → Nat → Bool) (n : Nat) : Option Nat → List Int
  | none => []
  | some b => memL (colsM fb n b) n
theorem oRow_len (n : Nat) (o : Option Nat) : (oRow n o).length ≤ n := by
  cases o with
  | none => exact Nat.zero_le _
  | some b => exact qw5 b n
theorem oCol_len (fb : Nat → Nat → Bool) (n : Nat) (o : Option Nat) : (oCol fb n o).length ≤ n := by
  cases o with
  | none => exact Nat.zero_le _
  | some b => exact qw5 _ n
theorem pick_no {fb : Nat → Nat → Bool} {n M k : Nat} {o : Option Nat} (ho : pickS fb n M k = o) (h : linS fb n k ≠ M) : pickS fb n M (k + 1) = o := by
  rw [pickS,ho]
  cases o with
  | none => dsimp only; rw [if_neg h]
  | some b => dsimp only; rw [if_neg fun h2 => h h2.1]
theorem pick_first {fb : Nat → Nat → Bool} {n M k : Nat} (ho : pickS fb n M k = none) (h : linS fb n k = M) : pickS fb n M (k + 1) = some k := by
  rw [pickS,ho]; dsimp only; rw [if_pos h]
theorem pick_less {fb : Nat → Nat → Bool} {n M k b : Nat} (ho : pickS fb n M k = some b) (h : linS fb n k = M) (hl : ordC (memL k n) (memL b n) < 0) : pickS fb n M (k + 1) = some k := by
  rw [pickS,ho]; dsimp only; rw [if_pos ⟨h,hl⟩]
theorem pick_keep {fb : Nat → Nat → Bool} {n M k b : Nat} (ho : pickS fb n M k = some b) (hl : ¬ ordC (memL k n) (memL b n) < 0) : pickS fb n M (k + 1) = some b := by
  rw [pickS,ho]; dsimp only; rw [if_neg fun h2 => hl h2.2]
def needC : ACode := (.seq (.seq (.ops [⟨(some 49),(.mov (.t 15)),none⟩,⟨(some 50),(.mov (.t 0)),none⟩,⟨(some 51),(.call 56 [(.t 50)]),none⟩,⟨(some 52),(.bin .lss (.t 49) (.t 51)),none⟩]) (.cond (.t 52) .skip (.exit 6))) (.seq (.block 7 (.ops [⟨(some 55),(.mov (.t 14)),none⟩,⟨(some 56),(.mov (.t 55)),none⟩,⟨(some 57),(.mov (.t 0)),(some (56,false))⟩,⟨(some 58),(.mov (.t 15)),(some (56,false))⟩,⟨(some 59),(.mov (.t 13)),(some (56,false))⟩,⟨(some 60),(.call 57 [(.t 57),(.t 58),(.t 59)]),(some (56,false))⟩,⟨(some 61),(.mov (.t 60)),(some (56,false))⟩,⟨(some 62),(.mov (.t 10)),(some (61,true))⟩,⟨(some 63),(.mov (.t 15)),(some (61,true))⟩,⟨(some 64),(.call 58 [(.t 62),(.t 63)]),(some (61,true))⟩,⟨(some 65),(.not (.t 64)),(some (61,true))⟩,⟨(some 66),(.pick (.t 61) (.t 65) (.c (.bool false))),(some (56,false))⟩,⟨(some 67),(.pick (.t 56) (.c (.bool true)) (.t 66)),none⟩,⟨(some 14),(.mov (.t 67)),none⟩])) (.ops [⟨(some 53),(.mov (.t 15)),none⟩,⟨(some 54),(.bin .add (.t 53) (.c (.int .i64 1))),none⟩,⟨(some 15),(.mov (.t 54)),none⟩])))
theorem fl_need (B : List UInt8) (h : GoodBd B) (hB : B.length ≤ 1048576) (M k j : Nat) (L6 L7 LC : List Int) (o : Bool) (hj1 : j < sdB B) (Q : Exit → AS → Prop) :
    AW Tryz.prog (min Tryz.f28.ntmps pbase) (.loop needC) (st [(0,str B),(5,.i (M : Nat)),(6,.sl 6 1 0 L6.length),(7,.sl 7 1 0 L7.length),(8,.b o),(9,.i (k : Nat)),(10,.sl 10 1 0 (memL k (sdB B)).length),(11,.sl 11 1 0 LC.length),(13,.i (j : Nat)),(14,.b (needB (fbB B) k j 0)),(15,.i (0 : Nat))]
      [(6,(true,L6.map AV.i)),(7,(true,L7.map AV.i)),(10,(true,(memL k (sdB B)).map AV.i)),(11,(true,LC.map AV.i))])
      (InBlock 6 (CutQ (st [(0,str B),(5,.i (M : Nat)),(6,.sl 6 1 0 L6.length),(7,.sl 7 1 0 L7.length),(8,.b o),(9,.i (k : Nat)),(10,.sl 10 1 0 (memL k (sdB B)).length),(11,.sl 11 1 0 LC.length),(13,.i (j : Nat)),(14,.b (needB (fbB B) k j (sdB B))),(15,.i (sdB B : Nat))]
      [(6,(true,L6.map AV.i)),(7,(true,L7.map AV.i)),(10,(true,(memL k (sdB B)).map AV.i)),(11,(true,LC.map AV.i))]) Q)) := by
  have hsd := qx5 h
  have hsp : sdB B ≤ 12 := by omega
  have l1 := qw5 k (sdB B)
  unfold needC
  refine qyf (α := Nat) (fun q => q ≤ sdB B) (fun q => st [(0,str B),(5,.i (M : Nat)),(6,.sl 6 1 0 L6.length),(7,.sl 7 1 0 L7.length),(8,.b o),(9,.i (k : Nat)),(10,.sl 10 1 0 (memL k (sdB B)).length),(11,.sl 11 1 0 LC.length),(13,.i (j : Nat)),(14,.b (needB (fbB B) k j q)),(15,.i (q : Nat))]
      [(6,(true,L6.map AV.i)),(7,(true,L7.map AV.i)),(10,(true,(memL k (sdB B)).map AV.i)),(11,(true,LC.map AV.i))]) (fun q => sdB B - q) 0 (Nat.zero_le _) (qz9 ?_ ?_ rfl rfl) ?_
  · (repeat' first|exact trivial|refine And.intro ?_ ?_)<;>first|rfl|skip
  · (repeat' first|exact trivial|refine And.intro ?_ ?_)<;>first|rfl|skip
  rintro q hq
  by_cases hq1 : q < sdB B
  · have hns := needB_succ (fbB B) k j q
    have hat := qu6 B h q j hq1 hj1
    have hl1 := l1HasM_spec k (sdB B) q hq1 hsp
    cases hn : needB (fbB B) k j q with
    | true =>
      rw [hn,Bool.true_or] at hns
      repeat (first|(refine qz0 ?_;(refine m_mov (by conv => lhs; whnf) ?_))|refine qz3 ?_|refine qz6 ?_)
      refine qz0 ?_;(apply qza (qyj B hB));(· repeat (first|exact qz4|(refine qz2 ?_ ?_;(· exact qzd))))
      repeat (first|((first|(refine qz0 ?_;(first|(first|(refine m_mov (by conv => lhs; whnf) ?_)|(refine m_lss rfl rfl ?_)|(refine m_add rfl rfl ?_ ?_ ?_;(· omega);(· omega))|(refine qye rfl ?_ (by conv => lhs; whnf) ?_;(· rfl)))|(refine g_noF rfl ?_ ?_;(· rfl))))|refine qz1 ?_|refine qy5 ?_|(refine qzf rfl ?_ ?_;(· (refine decide_eq_true ?_; omega)))|refine qz5 ?_|refine qz6 ?_|refine qz7 ?_|refine qz8 ?_|refine qze ?_))|(refine qz0 ?_; refine g_unl rfl ?_))
      refine qzb (q + 1) (by omega) (qz9 ?_ ?_ rfl rfl) (by omega)
      · rw [hns];(repeat' first|exact trivial|refine And.intro ?_ ?_)<;>first|rfl|skip
      · (repeat' first|exact trivial|refine And.intro ?_ ?_)<;>first|rfl|skip
    | false =>
      rw [hn,Bool.false_or] at hns
      cases hf : fbB B q j with
      | false =>
        rw [hf,Bool.and_false] at hns
        rw [hf] at hat
        repeat (first|(refine qz0 ?_;(refine m_mov (by conv => lhs; whnf) ?_))|refine qz3 ?_|refine qz6 ?_)
        refine qz0 ?_;(apply qza (qyj B hB));(· repeat (first|exact qz4|(refine qz2 ?_ ?_;(· exact qzd))))
        repeat (first|(refine qz0 ?_;((try (refine g_yes rfl ?_ ?_;(· rfl)));(first|(refine m_mov (by conv => lhs; whnf) ?_)|(refine m_lss rfl rfl ?_))))|refine qz1 ?_|refine qy5 ?_|(refine qzf rfl ?_ ?_;(· (refine decide_eq_true ?_; omega)))|refine qz5 ?_|refine qz6 ?_|refine qz8 ?_)
        refine qz0 ?_;(refine g_yes rfl ?_ ?_;(· first|(rfl)|(fail));(apply qza (hat)));(· repeat (first|exact qz4|(refine qz2 ?_ ?_;(· exact qzd))))
        repeat (first|(refine qz0 ?_;(first|((try (refine g_yes rfl ?_ ?_;(· rfl)));(first|(refine m_mov (by conv => lhs; whnf) ?_)|(refine m_add rfl rfl ?_ ?_ ?_;(· omega);(· omega))|(refine qy3 rfl ?_ (by conv => lhs; whnf) ?_;(· rfl))))|(refine g_noT rfl ?_ ?_;(· rfl))))|refine qz1 ?_|refine qy5 ?_|refine qz7 ?_|refine qze ?_)
        refine qzb (q + 1) (by omega) (qz9 ?_ ?_ rfl rfl) (by omega)
        · rw [hns];(repeat' first|exact trivial|refine And.intro ?_ ?_)<;>first|rfl|skip
        · (repeat' first|exact trivial|refine And.intro ?_ ?_)<;>first|rfl|skip
      | true =>
        rw [hf,Bool.and_true] at hns
        rw [hf] at hat
        cases hbt : k.testBit q with
        | true =>
          rw [hbt] at hns hl1
          repeat (first|(refine qz0 ?_;(refine m_mov (by conv => lhs; whnf) ?_))|refine qz3 ?_|refine qz6 ?_)
          refine qz0 ?_;(apply qza (qyj B hB));(· repeat (first|exact qz4|(refine qz2 ?_ ?_;(· exact qzd))))
          repeat (first|(refine qz0 ?_;((try (refine g_yes rfl ?_ ?_;(· rfl)));(first|(refine m_mov (by conv => lhs; whnf) ?_)|(refine m_lss rfl rfl ?_))))|refine qz1 ?_|refine qy5 ?_|(refine qzf rfl ?_ ?_;(· (refine decide_eq_true ?_; omega)))|refine qz5 ?_|refine qz6 ?_|refine qz8 ?_)
          refine qz0 ?_;(refine g_yes rfl ?_ ?_;(· first|(rfl)|(fail));(apply qza (hat)));(· repeat (first|exact qz4|(refine qz2 ?_ ?_;(· exact qzd))))
          repeat (refine qz0 ?_;((try (refine g_yes rfl ?_ ?_;(· rfl)));(refine m_mov (by conv => lhs; whnf) ?_)))
          refine qz0 ?_;(refine g_yes rfl ?_ ?_;(· first|(rfl)|(fail));(apply qza (hl1)));(· repeat (first|exact qz4|(refine qz2 ?_ ?_;(· (first|exact qzd|(refine qw9 (by rfl) ?_; first|rfl|omega|(simp; done)))))))
          repeat (first|(refine qz0 ?_;((try (refine g_yes rfl ?_ ?_;(· rfl)));(first|(refine m_mov (by conv => lhs; whnf) ?_)|(refine m_add rfl rfl ?_ ?_ ?_;(· omega);(· omega))|(refine m_not rfl ?_)|(refine qye rfl ?_ (by conv => lhs; whnf) ?_;(· rfl))|(refine qy3 rfl ?_ (by conv => lhs; whnf) ?_;(· rfl)))))|refine qz1 ?_|refine qy5 ?_|refine qz7 ?_|refine qze ?_)
          refine qzb (q + 1) (by omega) (qz9 ?_ ?_ rfl rfl) (by omega)
          · rw [hns];(repeat' first|exact trivial|refine And.intro ?_ ?_)<;>first|rfl|skip
          · (repeat' first|exact trivial|refine And.intro ?_ ?_)<;>first|rfl|skip
        | false =>
          rw [hbt] at hns hl1
          repeat (first|(refine qz0 ?_;(refine m_mov (by conv => lhs; whnf) ?_))|refine qz3 ?_|refine qz6 ?_)
          refine qz0 ?_;(apply qza (qyj B hB));(· repeat (first|exact qz4|(refine qz2 ?_ ?_;(· exact qzd))))
          repeat (first|(refine qz0 ?_;((try (refine g_yes rfl ?_ ?_;(· rfl)));(first|(refine m_mov (by conv => lhs; whnf) ?_)|(refine m_lss rfl rfl ?_))))|refine qz1 ?_|refine qy5 ?_|(refine qzf rfl ?_ ?_;(· (refine decide_eq_true ?_; omega)))|refine qz5 ?_|refine qz6 ?_|refine qz8 ?_)
          refine qz0 ?_;(refine g_yes rfl ?_ ?_;(· first|(rfl)|(fail));(apply qza (hat)));(· repeat (first|exact qz4|(refine qz2 ?_ ?_;(· exact qzd))))
          repeat (refine qz0 ?_;((try (refine g_yes rfl ?_ ?_;(· rfl)));(refine m_mov (by conv => lhs; whnf) ?_)))
          refine qz0 ?_;(refine g_yes rfl ?_ ?_;(· first|(rfl)|(fail));(apply qza (hl1)));(· repeat (first|exact qz4|(refine qz2 ?_ ?_;(· (first|exact qzd|(refine qw9 (by rfl) ?_; first|rfl|omega|(simp; done)))))))
          repeat (first|(refine qz0 ?_;((try (refine g_yes rfl ?_ ?_;(· rfl)));(first|(refine m_mov (by conv => lhs; whnf) ?_)|(refine m_add rfl rfl ?_ ?_ ?_;(· omega);(· omega))|(refine m_not rfl ?_)|(refine qye rfl ?_ (by conv => lhs; whnf) ?_;(· rfl))|(refine qy3 rfl ?_ (by conv => lhs; whnf) ?_;(· rfl)))))|refine qz1 ?_|refine qy5 ?_|refine qz7 ?_|refine qze ?_)
          refine qzb (q + 1) (by omega) (qz9 ?_ ?_ rfl rfl) (by omega)
          · rw [hns];(repeat' first|exact trivial|refine And.intro ?_ ?_)<;>first|rfl|skip
          · (repeat' first|exact trivial|refine And.intro ?_ ?_)<;>first|rfl|skip
  · obtain rfl : q = sdB B := by omega
    repeat (first|(refine qz0 ?_;(refine m_mov (by conv => lhs; whnf) ?_))|refine qz3 ?_|refine qz6 ?_)
    refine qz0 ?_;(apply qza (qyj B hB));(· repeat (first|exact qz4|(refine qz2 ?_ ?_;(· exact qzd))))
    repeat (first|(refine qz0 ?_;(refine m_lss rfl rfl ?_))|refine qz1 ?_|(refine qzi rfl ?_ ?_;(· (refine decide_eq_false ?_; omega)))|refine qy1 ?_|refine qy0 ?_|refine qy9 ?_|refine qzg ?_)
    refine qz9 ?_ ?_ rfl rfl
    · (repeat' first|exact trivial|refine And.intro ?_ ?_)<;>first|rfl|skip
    · (repeat' first|exact trivial|refine And.intro ?_ ?_)<;>first|rfl|skip
theorem specFl_yes (B : List UInt8) (h : GoodBd B) (hB : B.length ≤ 1048576) : Sp Tryz.prog 28 [str B] (.tup [newInts (memL (flS B) (sdB B)),newInts (memL (colsM (fbB B) (sdB B) (flS B)) (sdB B)),.b true]) := by
  have hsd := qx5 h
  have hend : pickS (fbB B) (sdB B) (mostN (rkN (fbB B) (sdB B)) (sdB B)) (2 ^ sdB B) = some (flS B) := pick_best hsd.2
  have hmost := bdMost_spec B h hB
  have hgood := qw0 B hB
  rw [decide_eq_true h] at hgood
  have hsp : sdB B ≤ 12 := by omega
  generalize mostN (rkN (fbB B) (sdB B)) (sdB B) = M at *
  have h9 : 2 ^ sdB B ≤ 2 ^ 8 := Nat.pow_le_pow_right (by decide) hsd.2
  refine qy7 Tryz.func28 rfl cc28 rfl ?_
  unfold ac28
  repeat (first|(refine qz0 ?_;(first|(refine m_mov (by conv => lhs; whnf) ?_)|(refine qx2 ?_)))|refine qz1 ?_|refine qz3 ?_|refine qz6 ?_)
  (refine qz0 ?_);(apply qza (hgood));(· repeat (first|exact qz4|(refine qz2 ?_ ?_;(· exact qzd))))
  repeat (first|(refine qz0 ?_;(first|(refine m_mov (by conv => lhs; whnf) ?_)|(refine m_not rfl ?_)))|refine qz1 ?_|refine qz3 ?_|(refine qzi rfl ?_ ?_;(· rfl))|refine qz5 ?_)
  (refine qz0 ?_);(apply qza (hmost));(· repeat (first|exact qz4|(refine qz2 ?_ ?_;(· exact qzd))))
  repeat (first|(refine qz0 ?_;(first|(refine m_mov (by conv => lhs; whnf) ?_)|(refine qx2 ?_)))|refine qz1 ?_|refine qz3 ?_|refine qz6 ?_|refine qz8 ?_)
  refine qyf (α := Nat) (fun k => k ≤ 2 ^ sdB B) (fun k => st [(0,str B),(5,.i (M : Nat)),(6,.sl 6 1 0 (oRow (sdB B) (pickS (fbB B) (sdB B) M k)).length),(7,.sl 7 1 0 (oCol (fbB B) (sdB B) (pickS (fbB B) (sdB B) M k)).length),(8,.b (pickS (fbB B) (sdB B) M k).isSome),(9,.i (k : Nat))]
    [(6,(true,(oRow (sdB B) (pickS (fbB B) (sdB B) M k)).map AV.i)),(7,(true,(oCol (fbB B) (sdB B) (pickS (fbB B) (sdB B) M k)).map AV.i))]) (fun k => 2 ^ sdB B - k) 0 (Nat.zero_le _) (qz9 ?_ ?_ rfl rfl) ?_
  · (repeat' first|exact trivial|refine And.intro ?_ ?_)<;>first|rfl|skip
  · (repeat' first|exact trivial|refine And.intro ?_ ?_)<;>first|rfl|skip
  rintro k hk
  generalize ho : pickS (fbB B) (sdB B) M k = o
  have hr1 := oRow_len (sdB B) o
  have hr2 := oCol_len (fbB B) (sdB B) o
  have l1 := qw5 k (sdB B)
  by_cases hc : k < 2 ^ sdB B
  · repeat (first|(refine qz0 ?_;(refine m_mov (by conv => lhs; whnf) ?_))|refine qz3 ?_|refine qz6 ?_)
    (refine qz0 ?_);(apply qza (qyj B hB));(· repeat (first|exact qz4|(refine qz2 ?_ ?_;(· exact qzd))))
    skip
    refine qz0 ?_
    refine m_shlz (k := sdB B) (z := 2 ^ sdB B) rfl rfl (by omega) rfl ?_
    repeat (first|(refine qz0 ?_;(first|(refine m_mov (by conv => lhs; whnf) ?_)|(refine m_lss rfl rfl ?_)|(refine qx2 ?_)))|refine qz1 ?_|refine qz3 ?_|(refine qzf rfl ?_ ?_;(· (refine decide_eq_true ?_; omega)))|refine qz5 ?_|refine qz6 ?_|refine qz8 ?_)
    refine qyf (α := Nat) (fun i => i ≤ sdB B) (fun i => st [(0,str B),(5,.i (M : Nat)),(6,.sl 6 1 0 (oRow (sdB B) o).length),(7,.sl 7 1 0 (oCol (fbB B) (sdB B) o).length),(8,.b o.isSome),(9,.i (k : Nat)),(10,.sl 10 1 0 (memL k i).length),(11,.sl 11 1 0 0),(12,.i (i : Nat))]
      [(6,(true,(oRow (sdB B) o).map AV.i)),(7,(true,(oCol (fbB B) (sdB B) o).map AV.i)),(10,(true,(memL k i).map AV.i)),(11,(true,[]))]) (fun i => sdB B - i) 0 (Nat.zero_le _) (qz9 ?_ ?_ rfl rfl) ?_
    · (repeat' first|exact trivial|refine And.intro ?_ ?_)<;>first|rfl|skip
    · (repeat' first|exact trivial|refine And.intro ?_ ?_)<;>first|rfl|skip
    · rintro i hi
      have hlen := qw5 k i
      have hsn := memL_succ k i
      by_cases hi1 : i < sdB B
      · by_cases hbit : k.testBit i = true
        · have hz := bit1 hbit
          rw [if_pos hbit] at hsn
          repeat (first|(refine qz0 ?_;(refine m_mov (by conv => lhs; whnf) ?_))|refine qz3 ?_|refine qz6 ?_)
          (refine qz0 ?_);(apply qza (qyj B hB));(· repeat (first|exact qz4|(refine qz2 ?_ ?_;(· exact qzd))))
          repeat (first|(refine qz0 ?_;(first|(refine m_mov (by conv => lhs; whnf) ?_)|(refine m_lss rfl rfl ?_)))|refine qz1 ?_|refine qz3 ?_|(refine qzf rfl ?_ ?_;(· (refine decide_eq_true ?_; omega)))|refine qz5 ?_|refine qz6 ?_|refine qz8 ?_)
          refine qz0 ?_
          refine m_shri (a := k) (k := i) rfl rfl (by omega) ?_
          refine qz0 ?_
          refine m_andz (a := k >>> i) (z := 1) rfl rfl (Nat.lt_of_le_of_lt (Nat.shiftRight_le k i) (by omega)) hz ?_
          repeat (first|(refine qz0 ?_;(first|(refine m_mov (by conv => lhs; whnf) ?_)|(refine m_eql rfl rfl ?_)|(refine m_add rfl rfl ?_ ?_ ?_;(· omega);(· omega))|(refine qu8 rfl rfl ?_)|(refine qu9 rfl (by decide) (by rfl) (by first|rfl|omega|(simp; done)) rfl rfl ?_ (by decide) ?_;(· first|omega|(simp; omega)))))|refine qz1 ?_|refine qy5 ?_|(refine qzf rfl ?_ ?_;(· rfl))|refine qz7 ?_|refine qze ?_)
          refine qzb (i + 1) (by omega) (Weak.trans (qwf (r := 42) (q := 10) rfl (by decide) (by decide)) (qz9 ?_ ?_ rfl rfl)) (by omega)
          · rw [hsn];(repeat' first|exact trivial|refine And.intro ?_ ?_)<;>first|rfl|skip
          · rw [hsn];(repeat' first|exact trivial|refine And.intro ?_ ?_)<;>first|rfl|skip
        · have hbit : k.testBit i = false := by simpa using hbit
          have hz := bitz hbit
          rw [if_neg (by rw [hbit]; decide)] at hsn
          repeat (first|(refine qz0 ?_;(refine m_mov (by conv => lhs; whnf) ?_))|refine qz3 ?_|refine qz6 ?_)
          (refine qz0 ?_);(apply qza (qyj B hB));(· repeat (first|exact qz4|(refine qz2 ?_ ?_;(· exact qzd))))
          repeat (first|(refine qz0 ?_;(first|(refine m_mov (by conv => lhs; whnf) ?_)|(refine m_lss rfl rfl ?_)))|refine qz1 ?_|refine qz3 ?_|(refine qzf rfl ?_ ?_;(· (refine decide_eq_true ?_; omega)))|refine qz5 ?_|refine qz6 ?_|refine qz8 ?_)
          refine qz0 ?_
          refine m_shri (a := k) (k := i) rfl rfl (by omega) ?_
          refine qz0 ?_
          refine m_andz (a := k >>> i) (z := 0) rfl rfl (Nat.lt_of_le_of_lt (Nat.shiftRight_le k i) (by omega)) hz ?_
          repeat (first|(refine qz0 ?_;(first|(refine m_mov (by conv => lhs; whnf) ?_)|(refine m_eql rfl rfl ?_)|(refine m_add rfl rfl ?_ ?_ ?_;(· omega);(· omega))))|refine qz1 ?_|refine qy5 ?_|(refine qzi rfl ?_ ?_;(· rfl))|refine qz7 ?_|refine qze ?_|refine qx6 ?_)
          refine qzb (i + 1) (by omega) (qz9 ?_ ?_ rfl rfl) (by omega)
          · rw [hsn];(repeat' first|exact trivial|refine And.intro ?_ ?_)<;>first|rfl|skip
          · rw [hsn];(repeat' first|exact trivial|refine And.intro ?_ ?_)<;>first|rfl|skip
      · obtain rfl : i = sdB B := by omega
        repeat (first|(refine qz0 ?_;(refine m_mov (by conv => lhs; whnf) ?_))|refine qz3 ?_|refine qz6 ?_)
        (refine qz0 ?_);(apply qza (qyj B hB));(· repeat (first|exact qz4|(refine qz2 ?_ ?_;(· exact qzd))))
        repeat (first|(refine qz0 ?_;(first|(refine m_mov (by conv => lhs; whnf) ?_)|(refine m_lss rfl rfl ?_)))|refine qz1 ?_|refine qz3 ?_|(refine qzi rfl ?_ ?_;(· (refine decide_eq_false ?_; omega)))|refine qz6 ?_|refine qz7 ?_|refine qy1 ?_|refine qz8 ?_|refine qy0 ?_|refine qy9 ?_|refine qzg ?_)
        have hcl := fun (j : Nat) (hj : j < sdB B) => needB_cols (fb := fbB B) (n := sdB B) (S := k) hj
        have hln := linS_mem (fb := fbB B) (n := sdB B) (S := k) hc (by omega)
        generalize hC : colsM (fbB B) (sdB B) k = C at *
        have l2 := qw5 C (sdB B)
        refine qyf (α := Nat) (fun j => j ≤ sdB B) (fun j => st [(0,str B),(5,.i (M : Nat)),(6,.sl 6 1 0 (oRow (sdB B) o).length),(7,.sl 7 1 0 (oCol (fbB B) (sdB B) o).length),(8,.b o.isSome),(9,.i (k : Nat)),(10,.sl 10 1 0 (memL k (sdB B)).length),(11,.sl 11 1 0 (memL C j).length),(13,.i (j : Nat))]
          [(6,(true,(oRow (sdB B) o).map AV.i)),(7,(true,(oCol (fbB B) (sdB B) o).map AV.i)),(10,(true,(memL k (sdB B)).map AV.i)),(11,(true,(memL C j).map AV.i))]) (fun j => sdB B - j) 0 (Nat.zero_le _) (qz9 ?_ ?_ rfl rfl) ?_
        · (repeat' first|exact trivial|refine And.intro ?_ ?_)<;>first|rfl|skip
        · (repeat' first|exact trivial|refine And.intro ?_ ?_)<;>first|rfl|skip
        · rintro j hj
          have hlen := qw5 C j
          have hsn := memL_succ C j
          by_cases hj1 : j < sdB B
          · rw [hcl j hj1] at hsn
            repeat (first|(refine qz0 ?_;(refine m_mov (by conv => lhs; whnf) ?_))|refine qz3 ?_|refine qz6 ?_)
            (refine qz0 ?_);(apply qza (qyj B hB));(· repeat (first|exact qz4|(refine qz2 ?_ ?_;(· exact qzd))))
            repeat (first|(refine qz0 ?_;(first|(refine m_mov (by conv => lhs; whnf) ?_)|(refine m_lss rfl rfl ?_)))|refine qz1 ?_|refine qz3 ?_|(refine qzf rfl ?_ ?_;(· (refine decide_eq_true ?_; omega)))|refine qz5 ?_|refine qz6 ?_|refine qz8 ?_)
            refine AW_cutloop (st [(0,str B),(5,.i (M : Nat)),(6,.sl 6 1 0 (oRow (sdB B) o).length),(7,.sl 7 1 0 (oCol (fbB B) (sdB B) o).length),(8,.b o.isSome),(9,.i (k : Nat)),(10,.sl 10 1 0 (memL k (sdB B)).length),(11,.sl 11 1 0 (memL C j).length),(13,.i (j : Nat)),(14,.b (needB (fbB B) k j (sdB B))),(15,.i (sdB B : Nat))]
      [(6, (true, (oRow (sdB B) o).map AV.i)), (7, (true, (oCol (fbB B) (sdB B) o).map AV.i)), (10, (true, (memL k (sdB B)).map AV.i)), (11, (true, (memL C j).map AV.i))]) ?_ (qxe (qz9 ?_ ?_ rfl rfl) (fl_need B h hB M k j (oRow (sdB B) o) (oCol (fbB B) (sdB B) o) (memL C j) o.isSome hj1 _))
            · cases hn : needB (fbB B) k j (sdB B) with
              | true =>
                rw [if_pos hn] at hsn
                repeat (first|(refine qz0 ?_;(first|(refine m_mov (by conv => lhs; whnf) ?_)|(refine m_add rfl rfl ?_ ?_ ?_;(· omega);(· omega))|(refine qu8 rfl rfl ?_)|(refine qu9 rfl (by decide) (by rfl) (by first|rfl|omega|(simp; done)) rfl rfl ?_ (by decide) ?_;(· first|omega|(simp; omega)))))|refine qz1 ?_|refine qz3 ?_|refine qy5 ?_|(refine qzf rfl ?_ ?_;(· rfl))|refine qz7 ?_|refine qze ?_)
                refine qzb (j + 1) (by omega) (Weak.trans (qwf (r := 72) (q := 11) rfl (by decide) (by decide)) (qz9 ?_ ?_ rfl rfl)) (by omega)
                · rw [hsn];(repeat' first|exact trivial|refine And.intro ?_ ?_)<;>first|rfl|skip
                · rw [hsn];(repeat' first|exact trivial|refine And.intro ?_ ?_)<;>first|rfl|skip
              | false =>
                rw [if_neg (by rw [hn]; decide)] at hsn
                repeat (first|(refine qz0 ?_;(first|(refine m_mov (by conv => lhs; whnf) ?_)|(refine m_add rfl rfl ?_ ?_ ?_;(· omega);(· omega))))|refine qz1 ?_|refine qz3 ?_|refine qy5 ?_|(refine qzi rfl ?_ ?_;(· rfl))|refine qz7 ?_|refine qze ?_|refine qx6 ?_)
                refine qzb (j + 1) (by omega) (qz9 ?_ ?_ rfl rfl) (by omega)
                · rw [hsn];(repeat' first|exact trivial|refine And.intro ?_ ?_)<;>first|rfl|skip
                · rw [hsn];(repeat' first|exact trivial|refine And.intro ?_ ?_)<;>first|rfl|skip
            · (repeat' first|exact trivial|refine And.intro ?_ ?_)<;>first|rfl|skip
            · (repeat' first|exact trivial|refine And.intro ?_ ?_)<;>first|rfl|skip
          · obtain rfl : j = sdB B := by omega
            by_cases hls : linS (fbB B) (sdB B) k = M
            · have hsum : ((memL k (sdB B)).length : Int) + ((memL C (sdB B)).length : Int) = (M : Nat) := by omega
              cases o with
              | none =>
                have hp := pick_first ho hls
                repeat (first|(refine qz0 ?_;(refine m_mov (by conv => lhs; whnf) ?_))|refine qz3 ?_|refine qz6 ?_)
                (refine qz0 ?_);(apply qza (qyj B hB));(· repeat (first|exact qz4|(refine qz2 ?_ ?_;(· exact qzd))))
                repeat (first|(refine qz0 ?_;(first|((try (refine g_yes rfl ?_ ?_;(· (refine decide_eq_true ?_; assumption))));(first|(refine m_mov (by conv => lhs; whnf) ?_)|(refine m_lss rfl rfl ?_)|(refine m_eql rfl rfl ?_)|(refine m_add rfl rfl ?_ ?_ ?_;(· omega);(· omega))|(refine m_not rfl ?_)|(refine qwd rfl ?_)|(refine qye rfl ?_ (by conv => lhs; whnf) ?_;(· first|rfl|(refine decide_eq_true ?_; assumption)))))|(refine g_noF rfl ?_ ?_;(· rfl))))|refine qz1 ?_|refine qz3 ?_|refine qy5 ?_|(refine qzf rfl ?_ ?_;(· rfl))|(refine qzi rfl ?_ ?_;(· (refine decide_eq_false ?_; omega)))|refine qz7 ?_|refine qy1 ?_|refine qze ?_|refine qy0 ?_|refine qy9 ?_|refine qzg ?_)
                refine qzb (k + 1) (by omega) (Weak.trans (qwf (r := 10) (q := 6) rfl (by decide) (by decide)) (Weak.trans (qwf (r := 11) (q := 7) rfl (by decide) (by decide)) (qz9 ?_ ?_ rfl rfl))) (by omega)
                · rw [hp]; unfold oRow oCol; dsimp only; rw [hC];(repeat' first|exact trivial|refine And.intro ?_ ?_)<;>first|rfl|skip
                · rw [hp]; unfold oRow oCol; dsimp only; rw [hC];(repeat' first|exact trivial|refine And.intro ?_ ?_)<;>first|rfl|skip
              | some b =>
                have hb := qw5 b (sdB B)
                have hle := bdLess_spec (memL k (sdB B)) (memL b (sdB B)) (by omega) (by omega)
                by_cases hlt : ordC (memL k (sdB B)) (memL b (sdB B)) < 0
                · have hp := pick_less ho hls hlt
                  rw [decide_eq_true hlt] at hle
                  unfold oRow at *
                  repeat (first|(refine qz0 ?_;(refine m_mov (by conv => lhs; whnf) ?_))|refine qz3 ?_|refine qz6 ?_)
                  (refine qz0 ?_);(apply qza (qyj B hB));(· repeat (first|exact qz4|(refine qz2 ?_ ?_;(· exact qzd))))
                  repeat (first|(refine qz0 ?_;((try (refine g_yes rfl ?_ ?_;(· first|rfl|(refine decide_eq_true ?_; assumption))));(first|(refine m_mov (by conv => lhs; whnf) ?_)|(refine m_lss rfl rfl ?_)|(refine m_eql rfl rfl ?_)|(refine m_add rfl rfl ?_ ?_ ?_;(· omega);(· omega))|(refine m_not rfl ?_)|(refine qwd rfl ?_))))|refine qz1 ?_|refine qz3 ?_|(refine qzi rfl ?_ ?_;(· (refine decide_eq_false ?_; omega)))|refine qz7 ?_|refine qy1 ?_|refine qy0 ?_|refine qy9 ?_|refine qzg ?_)
                  (refine qz0 ?_);(refine g_yes rfl ?_ ?_;(· first|(rfl)|(fail));(apply qza (hle)));(· repeat (first|exact qz4|(refine qz2 ?_ ?_;(· (refine qw9 (by rfl) ?_; first|rfl|omega|(simp; done))))))
                  repeat (first|(refine qz0 ?_;((try (refine g_yes rfl ?_ ?_;(· (refine decide_eq_true ?_; assumption))));(first|(refine m_mov (by conv => lhs; whnf) ?_)|(refine m_add rfl rfl ?_ ?_ ?_;(· omega);(· omega))|(refine qye rfl ?_ (by conv => lhs; whnf) ?_;(· (refine decide_eq_true ?_; assumption)))|(refine qy3 rfl ?_ (by conv => lhs; whnf) ?_;(· rfl)))))|refine qz1 ?_|refine qz3 ?_|refine qy5 ?_|(refine qzf rfl ?_ ?_;(· rfl))|refine qz7 ?_|refine qze ?_)
                  refine qzb (k + 1) (by omega) (Weak.trans (qwf (r := 10) (q := 6) rfl (by decide) (by decide)) (Weak.trans (qwf (r := 11) (q := 7) rfl (by decide) (by decide)) (qz9 ?_ ?_ rfl rfl))) (by omega)
                  · rw [hp]; unfold oCol; dsimp only; rw [hC];(repeat' first|exact trivial|refine And.intro ?_ ?_)<;>first|rfl|skip
                  · rw [hp]; unfold oCol; dsimp only; rw [hC];(repeat' first|exact trivial|refine And.intro ?_ ?_)<;>first|rfl|skip
                · have hp := pick_keep (M := M) ho hlt
                  rw [decide_eq_false hlt] at hle
                  unfold oRow at *
                  repeat (first|(refine qz0 ?_;(refine m_mov (by conv => lhs; whnf) ?_))|refine qz3 ?_|refine qz6 ?_)
                  (refine qz0 ?_);(apply qza (qyj B hB));(· repeat (first|exact qz4|(refine qz2 ?_ ?_;(· exact qzd))))
                  repeat (first|(refine qz0 ?_;((try (refine g_yes rfl ?_ ?_;(· first|rfl|(refine decide_eq_true ?_; assumption))));(first|(refine m_mov (by conv => lhs; whnf) ?_)|(refine m_lss rfl rfl ?_)|(refine m_eql rfl rfl ?_)|(refine m_add rfl rfl ?_ ?_ ?_;(· omega);(· omega))|(refine m_not rfl ?_)|(refine qwd rfl ?_))))|refine qz1 ?_|refine qz3 ?_|(refine qzi rfl ?_ ?_;(· (refine decide_eq_false ?_; omega)))|refine qz7 ?_|refine qy1 ?_|refine qy0 ?_|refine qy9 ?_|refine qzg ?_)
                  (refine qz0 ?_);(refine g_yes rfl ?_ ?_;(· first|(rfl)|(fail));(apply qza (hle)));(· repeat (first|exact qz4|(refine qz2 ?_ ?_;(· (refine qw9 (by rfl) ?_; first|rfl|omega|(simp; done))))))
                  repeat (first|(refine qz0 ?_;((try (refine g_yes rfl ?_ ?_;(· (refine decide_eq_true ?_; assumption))));(first|(refine m_mov (by conv => lhs; whnf) ?_)|(refine m_add rfl rfl ?_ ?_ ?_;(· omega);(· omega))|(refine qye rfl ?_ (by conv => lhs; whnf) ?_;(· (refine decide_eq_true ?_; assumption)))|(refine qy3 rfl ?_ (by conv => lhs; whnf) ?_;(· rfl)))))|refine qz1 ?_|refine qy5 ?_|(refine qzi rfl ?_ ?_;(· rfl))|refine qz7 ?_|refine qze ?_|refine qx6 ?_)
                  refine qzb (k + 1) (by omega) (qz9 ?_ ?_ rfl rfl) (by omega)
                  · rw [hp];(repeat' first|exact trivial|refine And.intro ?_ ?_)<;>first|rfl|skip
                  · rw [hp];(repeat' first|exact trivial|refine And.intro ?_ ?_)<;>first|rfl|skip
            · have hsum : ¬ ((memL k (sdB B)).length : Int) + ((memL C (sdB B)).length : Int) = (M : Nat) := by omega
              have hp := pick_no ho hls
              repeat (first|(refine qz0 ?_;(refine m_mov (by conv => lhs; whnf) ?_))|refine qz3 ?_|refine qz6 ?_)
              (refine qz0 ?_);(apply qza (qyj B hB));(· repeat (first|exact qz4|(refine qz2 ?_ ?_;(· exact qzd))))
              repeat (first|(refine qz0 ?_;(first|(first|(refine m_mov (by conv => lhs; whnf) ?_)|(refine m_lss rfl rfl ?_)|(refine m_eql rfl rfl ?_)|(refine m_add rfl rfl ?_ ?_ ?_;(· omega);(· omega))|(refine qwd rfl ?_))|(refine g_noT rfl ?_ ?_;(· (refine decide_eq_false ?_; assumption)))))|refine qz1 ?_|refine qz3 ?_|(refine qzi rfl ?_ ?_;(· (refine decide_eq_false ?_; omega)))|refine qz7 ?_|refine qy1 ?_|refine qy0 ?_|refine qy9 ?_|refine qzg ?_)
              repeat (first|((first|(refine qz0 ?_;(first|(first|(refine m_mov (by conv => lhs; whnf) ?_)|(refine m_add rfl rfl ?_ ?_ ?_;(· omega);(· omega))|(refine qy3 rfl ?_ (by conv => lhs; whnf) ?_;(· (refine decide_eq_false ?_; assumption))))|(refine g_noT rfl ?_ ?_;(· (refine decide_eq_false ?_; assumption)))))|refine qz1 ?_|refine qy5 ?_|(refine qzi rfl ?_ ?_;(· rfl))|refine qz7 ?_|refine qze ?_|refine qx6 ?_))|(refine qz0 ?_; refine g_unl rfl ?_))
              refine qzb (k + 1) (by omega) (qz9 ?_ ?_ rfl rfl) (by omega)
              · rw [hp];(repeat' first|exact trivial|refine And.intro ?_ ?_)<;>first|rfl|skip
              · rw [hp];(repeat' first|exact trivial|refine And.intro ?_ ?_)<;>first|rfl|skip
  · obtain rfl : k = 2 ^ sdB B := by omega
    rw [hend] at ho
    subst ho
    repeat (first|(refine qz0 ?_;(refine m_mov (by conv => lhs; whnf) ?_))|refine qz3 ?_|refine qz6 ?_)
    (refine qz0 ?_);(apply qza (qyj B hB));(· repeat (first|exact qz4|(refine qz2 ?_ ?_;(· exact qzd))))
    skip
    refine qz0 ?_
    refine m_shlz (k := sdB B) (z := 2 ^ sdB B) rfl rfl (by omega) rfl ?_
    repeat (first|(refine qz0 ?_;(first|(refine m_mov (by conv => lhs; whnf) ?_)|(refine m_lss rfl rfl ?_)))|refine qz1 ?_|refine qz3 ?_|(refine qzi rfl ?_ ?_;(· (refine decide_eq_false ?_; omega)))|refine qzj ?_|refine qzc ?_|refine qz7 ?_|refine qy1 ?_|refine qy0 ?_|refine qy9 ?_|refine qzg ?_)
    exact outs_tup3 (qx3 rfl rfl rfl) (qx3 rfl rfl rfl) (qyb rfl)
theorem specFewestLines_spec (B : List UInt8) (hB : B.length ≤ 1048576) : Sp Tryz.prog 28 [str B] (.tup [newInts (flRow B),newInts (flCol B),.b (decide (GoodBd B))]) := by
  unfold flRow flCol
  by_cases h : GoodBd B
  · rw [if_pos h,if_pos h,decide_eq_true h]
    exact specFl_yes B h hB
  · rw [if_neg h,if_neg h,decide_eq_false h]
    have hgood := qw0 B hB
    rw [decide_eq_false h] at hgood
    refine qy7 Tryz.func28 rfl cc28 rfl ?_
    unfold ac28
    repeat (first|(refine qz0 ?_;(first|(refine m_mov (by conv => lhs; whnf) ?_)|(refine qx2 ?_)))|refine qz1 ?_|refine qz3 ?_|refine qz6 ?_)
    (refine qz0 ?_);(apply qza (hgood));(· repeat (first|exact qz4|(refine qz2 ?_ ?_;(· exact qzd))))
    repeat (first|(refine qz0 ?_;(first|(refine m_mov (by conv => lhs; whnf) ?_)|(refine m_not rfl ?_)|(refine qx2 ?_)))|refine qz1 ?_|refine qz3 ?_|(refine qzf rfl ?_ ?_;(· rfl))|refine qzj ?_|refine qzc ?_|refine qy8 ?_)
    exact outs_tup3 (qx3 rfl rfl rfl) (qx3 rfl rfl rfl) (qyb rfl)
end Go.Proofs.YtngfogpbljconaaGreatDoor
namespace Go.Am
variable [Go.Am.CodeBlk]
section
variable {P : Program} {s : AS} {K : AS → Prop} {d : Option Nat}
theorem m_callRX {f : FuncId} {args : List Opd} {asx : List AV} {hl : List (Nat × (Bool × List AV))} {ι : Type} {ok : ι → Prop} {res : ι → AV} {ho : ι → List (Nat × (Bool × List AV))} (g : Nat → Nat) (hs : SpX P f asx (look hl) ok res (fun i => look (ho i)))
    (ha : args.map s.ev = renL g asx) (hha : ownL true asx = true) (hra : refsL (fun r => (look hl r).isSome) asx = true) (hne : ∃ i,ok i)
    (hI : HasI s g hl) (hoI : ∀ p ∈ hl,ownL true p.2.2 = true ∧ refsL (fun r => (look hl r).isSome) p.2.2 = true)
    (k : ∀ i,ok i → (((ho i).map fun p => g p.1).Nodup ∧ (∀ p ∈ hl,p.1 ∈ (ho i).map (·.1)) ∧ (∀ p ∈ ho i,p.1 ∈ hl.map (·.1) ∨ (s.hp (g p.1) = none ∧ g p.1 < pbase)) ∧ (∀ p ∈ ho i,ownL false p.2.2 = true) ∧ ownV false (res i) = true) ∧ K (AS.put ⟨s.tm,outR s g (ho i)⟩ d (renV g (res i)))) : aop1 P true ⟨d,.call f args,none⟩ s K := by
  have has := hI.all
  refine m_callx (hp' := fun i => outR s g (ho i)) g hs ?_ hne fun i hi => ?_
  · rw [ha]
    exact lendsH_ren (fun r c hc => by rw [has _ (qxh hc)]; rfl) hha hra
  obtain ⟨⟨hnd,hst,hfr,hoO,hoR⟩,hk⟩ := k i hi
  refine ⟨⟨fun r c hc => has _ (qxh hc),fun r r' h1 h2 e => look_inj hnd (look_isSome.1 h1) (look_isSome.1 h2) e,fun r hr => ?_,fun r hr hn => ?_,fun r c hc => ?_,fun q hq => ?_,fun r c hc => hoI _ (qxh hc),fun r c hc => hoO _ (qxh hc),hoR⟩,hk⟩
  · obtain ⟨p,hp,rfl⟩ := List.mem_map.1 (look_isSome.1 hr)
    exact look_isSome.2 (hst p hp)
  · obtain ⟨p,hp,rfl⟩ := List.mem_map.1 (look_isSome.1 hr)
    rcases hfr p hp with h1|h1
    · have := look_isSome.2 h1
      rw [hn] at this
      cases this
    · exact h1
  · show (look _ (g r)).or _ = _
    rw [look_map hnd hc]
    rfl
  · show (look ((ho i).map fun p => (g p.1,renR g p.2)) q).or _ = _
    have : look ((ho i).map fun p => (g p.1,renR g p.2)) q = none := by
      cases h : look ((ho i).map fun p => (g p.1,renR g p.2)) q with
      | none => rfl
      | some c =>
        obtain ⟨p,hp,e⟩ := List.mem_map.1 (qxh h)
        cases e
        exact absurd rfl (hq p.1 (look_isSome.2 (List.mem_map.2 ⟨p,hp,rfl⟩)))
    rw [this]
    rfl
end
theorem ret_RX {s : AS} {ts : List Nat} {ι : Type} {ok : ι → Prop} {res : ι → AV} {hl : List (Nat × (Bool × List AV))} {ho : ι → List (Nat × (Bool × List AV))} (i : ι) (hi : ok i) (h : DoneH ts (res i) (look hl) (look (ho i)) .ret s) : DoneX ts ok res (look hl) (fun i => look (ho i)) .ret s := ⟨i,hi,h⟩
theorem weak_frz {s : AS} (t r : Nat) {n : Nat} {cs : List AV} (ht : s.tm t = .sl r 1 0 n) (hr : s.hp r = some (true,cs)) (hl : cs.length = n) (hpl : cs.all plainV = true) : Weak s ((s.kill r).put (some t) (.ro false 1 cs n)) := by
  intro w0 mu N a w hS
  obtain ⟨hf,phi,ro,hS⟩ := hS
  have hv := hS.tms t
  rw [ht] at hv
  simp only [SimV] at hv
  obtain ⟨_,_,hv⟩ := hv
  have hk := hS.kill r
  have put1 : ∀ (ro' : Nat → Prop),Sim w0 mu N (s.kill r) a.tmps w phi ro' → SimV (.ro false 1 cs n) (ctx w0 w ro' phi (s.kill r)) (a.tmps.getD t undef) → Sim w0 mu N ((s.kill r).put (some t) (.ro false 1 cs n)) a.tmps w phi ro' := by
    intro ro' h1 h2
    refine { h1 with tms := fun t' => ?_ }
    by_cases e : t' = t
    · subst e
      show SimV (if t' = t' then .ro false 1 cs n else _) _ _
      rw [if_pos rfl]
      exact h2
    · show SimV (if t' = t then _ else (s.kill r).tm t') _ _
      rw [if_neg e]
      exact h1.tms t'
  rcases hS.liv r _ hr with ⟨h1,h2,_⟩|⟨b,cur,e,h1,h2,h3,h4,h5⟩|⟨b,o,h1,_⟩
  · have h2' : cs = [] := h2
    subst h2'
    have hn : n = 0 := by simpa using hl.symm
    subst hn
    rcases hv with ⟨_,_,_,hv⟩|⟨b,_,_,_,_,hp,_⟩
    · refine ⟨hf,phi,ro,put1 ro hk ?_⟩
      simp only [SimV]
      exact .inl ⟨trivial,trivial,none,0,hv,by simp⟩
    · replace hp : phi r = some b := hp
      rw [h1] at hp; cases hp
  · rcases hv with ⟨hp,_⟩|⟨b',o,cap,cur',e',hp,hv,h6,h7,h8,h9,h10⟩
    · replace hp : phi r = none := hp
      rw [h1] at hp; cases hp
    · replace hp : phi r = some b' := hp
      rw [h1] at hp
      cases hp
      have h6' : w.heap[b]? = some (.cells cur' e' (0,0)) := h6
      rw [h2] at h6'
      cases h6'
      have h11 := ro_more hk (qyc h2) (fun q c hq hb => by
        have hqr : q ≠ r := fun he => by subst he; simp [AS.kill] at hq
        have hqs : (s.hp q).isSome = true := by
          have : ((s.kill r).hp q).isSome = true := by rw [hq]; rfl
          simpa [AS.kill,hqr] using this
        exact hqr (hS.inj q r b hqs (by rw [hr]; rfl) hb h1))
      refine ⟨hf,phi,_,put1 _ h11 ?_⟩
      simp only [SimV]
      by_cases hn : n = 0
      · subst hn
        have hcs : cs = [] := List.eq_nil_of_length_eq_zero hl
        subst hcs
        exact .inl ⟨rfl,rfl,_,cap,hv,by simp⟩
      · have ho : o = 0 := by
          rcases h7 with h7|h7
          · exact h7
          · omega
        subst ho
        refine .inr ⟨b,0,cap,cur,e,(0,0),hv,h2,.inr rfl,by omega,h8,by simp,?_⟩
        simp only [SimR,if_true] at h5
        have h12 : SimL cs (ctx w0 w (fun q => ro q ∨ q = b) phi (s.kill r)).out cur.toList := by
          refine qxg (C := (ctx w0 w ro phi s).out) hpl ?_
          exact h5
        simpa using h12
  · cases h1
    simp [plainV] at hpl
end Go.Am
