/- The abstract machine, contracts: part 5 of what this claim needs. -/
import Derived.Test.YtngfogpbljconaaGreatDoorZs4
set_option linter.unusedSectionVars false
namespace Go.Proofs.YtngfogpbljconaaGreatDoor
variable [Go.Am.CodeBlk]
open Go.Am
attribute [local irreducible] AW Outs Weak Lends Lend Sp aops atree aop1 Then Round InBlock Done
def IsEx (L : List Int) : Prop := 1 ≤ L.length ∧ L.length ≤ 12 ∧ (∀ x ∈ L,0 ≤ x ∧ x < L.length) ∧ L.Nodup
instance (L : List Int) : Decidable (IsEx L) := inferInstanceAs (Decidable (_ ∧ _ ∧ _ ∧ _))
theorem qv2 (L : List Int) (n : Int) (hL : L.length ≤ 1048576) : Sp Tryz.prog 58 [ints L,.i n] (.b (decide (n ∈ L))) := by
  refine qy7 Tryz.func58 rfl cc58 rfl ?_
  unfold ac58
  repeat (first|(refine qz0 ?_;(first|(refine m_mov (by conv => lhs; whnf) ?_)|(refine qy4 rfl ?_)))|refine qz1 ?_|refine qz3 ?_|refine qz6 ?_|refine qz8 ?_)
  refine qyf (α := Nat) (fun k => k ≤ L.length ∧ n ∉ L.take k) (fun k => st [(7,ints L),(1,.i n),(8,.i L.length),(9,.i k)] []) (fun k => L.length - k) 0 (by simp) (qz9 ?_ ?_ rfl rfl) ?_
  · (repeat' first|exact trivial|refine And.intro ?_ ?_)<;>first|rfl|skip
  · trivial
  rintro k ⟨hk,he⟩
  by_cases h : k < L.length
  · by_cases hx : L.getD k 0 = n
    · repeat (first|(refine qz0 ?_;(first|(refine m_mov (by conv => lhs; whnf) ?_)|(refine m_lss rfl rfl ?_)|(refine m_eql rfl rfl ?_)|(refine qy6 rfl rfl ?_ ?_;(· omega))|(refine qyg rfl ?_ ?_;(· omega))))|refine qz1 ?_|refine qz3 ?_|(refine qzf rfl ?_ ?_;(· first|(refine decide_eq_true ?_; assumption)|(refine decide_eq_true ?_; omega)))|refine qz5 ?_|refine qz6 ?_|refine qzj ?_|refine qzc ?_|refine qy8 ?_|refine qz8 ?_|refine qx7 ?_|refine qxd ?_)
      refine qyb ?_
      symm
      exact decide_eq_true (hx ▸ qud h)
    · repeat (first|(refine qz0 ?_;(first|(refine m_mov (by conv => lhs; whnf) ?_)|(refine m_lss rfl rfl ?_)|(refine m_eql rfl rfl ?_)|(refine m_add rfl rfl ?_ ?_ ?_;(· omega);(· omega))|(refine qy6 rfl rfl ?_ ?_;(· omega))|(refine qyg rfl ?_ ?_;(· omega))))|refine qz1 ?_|refine qz3 ?_|refine qy5 ?_|(refine qzf rfl ?_ ?_;(· (refine decide_eq_true ?_; omega)))|(refine qzi rfl ?_ ?_;(· (refine decide_eq_false ?_; assumption)))|refine qz5 ?_|refine qz6 ?_|refine qz7 ?_|refine qz8 ?_|refine qze ?_|refine qx6 ?_)
      refine qzb (k + 1) ⟨by omega,?_⟩ (qz9 ?_ ?_ rfl rfl) ?_
      · rw [qw2 L k 0 h,List.mem_append,List.mem_singleton]
        rintro (h1|h1)
        · exact he h1
        · exact hx h1.symm
      · (repeat' first|exact trivial|refine And.intro ?_ ?_)<;>first|rfl|skip
      · trivial
      · omega
  · repeat (first|(refine qz0 ?_;(first|(refine m_mov (by conv => lhs; whnf) ?_)|(refine m_lss rfl rfl ?_)))|refine qz1 ?_|refine qz3 ?_|(refine qzi rfl ?_ ?_;(· (refine decide_eq_false ?_; omega)))|refine qz6 ?_|refine qzj ?_|refine qzc ?_|refine qz7 ?_|refine qy1 ?_|refine qy0 ?_|refine qy9 ?_|refine qzg ?_)
    refine qyb ?_
    symm
    rw [List.take_of_length_le (by omega)] at he
    exact decide_eq_false he
theorem l1All_spec (L : List Int) (lo hi : Int) (hL : L.length ≤ 1048576) : Sp Tryz.prog 92 [ints L,.i lo,.i hi] (.b (decide (∀ x ∈ L,lo ≤ x ∧ x ≤ hi))) := by
  refine qy7 Tryz.func92 rfl cc92 rfl ?_
  unfold ac92
  repeat (first|(refine qz0 ?_;(first|(refine m_mov (by conv => lhs; whnf) ?_)|(refine qy4 rfl ?_)))|refine qz1 ?_|refine qz3 ?_|refine qz6 ?_|refine qz8 ?_)
  refine qyf (α := Nat) (fun k => k ≤ L.length ∧ ∀ x ∈ L.take k,lo ≤ x ∧ x ≤ hi) (fun k => st [(9,ints L),(1,.i lo),(2,.i hi),(10,.i L.length),(11,.i k)] []) (fun k => L.length - k) 0 (by simp) (qz9 ?_ ?_ rfl rfl) ?_
  · (repeat' first|exact trivial|refine And.intro ?_ ?_)<;>first|rfl|skip
  · trivial
  rintro k ⟨hk,he⟩
  by_cases h : k < L.length
  · by_cases hx : lo ≤ L.getD k 0 ∧ L.getD k 0 ≤ hi
    · repeat (first|(refine qz0 ?_;(first|(refine m_mov (by conv => lhs; whnf) ?_)|(refine m_lss rfl rfl ?_)|(refine qy6 rfl rfl ?_ ?_;(· omega))|(refine qyg rfl ?_ ?_;(· omega))))|refine qz1 ?_|refine qz3 ?_|(refine qzf rfl ?_ ?_;(· (refine decide_eq_true ?_; omega)))|refine qz5 ?_|refine qz6 ?_|refine qz8 ?_)
      (refine qz0 ?_);(apply qza (qvh _ _ _));(· repeat (first|exact qz4|(refine qz2 ?_ ?_;(· exact qzd))))
      repeat (first|(refine qz0 ?_;(first|(refine m_mov (by conv => lhs; whnf) ?_)|(refine m_add rfl rfl ?_ ?_ ?_;(· omega);(· omega))|(refine m_not rfl ?_)))|refine qz1 ?_|refine qy5 ?_|(refine qzi rfl ?_ ?_;(· (refine nf ?_; assumption)))|refine qz7 ?_|refine qze ?_|refine qx6 ?_)
      refine qzb (k + 1) ⟨by omega,?_⟩ (qz9 ?_ ?_ rfl rfl) ?_
      · rw [qw2 L k 0 h]
        intro x hxm
        rw [List.mem_append,List.mem_singleton] at hxm
        rcases hxm with h1|rfl
        · exact he x h1
        · exact hx
      · (repeat' first|exact trivial|refine And.intro ?_ ?_)<;>first|rfl|skip
      · trivial
      · omega
    · repeat (first|(refine qz0 ?_;(first|(refine m_mov (by conv => lhs; whnf) ?_)|(refine m_lss rfl rfl ?_)|(refine qy6 rfl rfl ?_ ?_;(· omega))|(refine qyg rfl ?_ ?_;(· omega))))|refine qz1 ?_|refine qz3 ?_|(refine qzf rfl ?_ ?_;(· (refine decide_eq_true ?_; omega)))|refine qz5 ?_|refine qz6 ?_|refine qz8 ?_)
      (refine qz0 ?_);(apply qza (qvh _ _ _));(· repeat (first|exact qz4|(refine qz2 ?_ ?_;(· exact qzd))))
      repeat (first|(refine qz0 ?_;(first|(refine m_mov (by conv => lhs; whnf) ?_)|(refine m_not rfl ?_)))|refine qz1 ?_|refine qz3 ?_|(refine qzf rfl ?_ ?_;(· (refine nt ?_; assumption)))|refine qzj ?_|refine qzc ?_|refine qy8 ?_|refine qx7 ?_|refine qxd ?_)
      refine qyb ?_
      symm
      exact decide_eq_false fun hall => hx (hall _ (qud h))
  · repeat (first|(refine qz0 ?_;(first|(refine m_mov (by conv => lhs; whnf) ?_)|(refine m_lss rfl rfl ?_)))|refine qz1 ?_|refine qz3 ?_|(refine qzi rfl ?_ ?_;(· (refine decide_eq_false ?_; omega)))|refine qz6 ?_|refine qzj ?_|refine qzc ?_|refine qz7 ?_|refine qy1 ?_|refine qy0 ?_|refine qy9 ?_|refine qzg ?_)
    refine qyb ?_
    symm
    rw [List.take_of_length_le (by omega)] at he
    exact decide_eq_true he
theorem not_nodup {L : List Int} {k : Nat} (hk : k < L.length) (h : L.getD k 0 ∈ L.take k) : ¬ L.Nodup := by
  intro hn
  rw [← List.take_append_drop k L,List.nodup_append] at hn
  refine hn.2.2 _ h _ ?_ rfl
  have : L.drop k = L.getD k 0 :: L.drop (k + 1) := by rw [List.drop_eq_getElem_cons hk]; simp [hk]
  rw [this]
  exact List.mem_cons_self ..
theorem nodup_snoc {L : List Int} {k : Nat} (hk : k < L.length) (hn : (L.take k).Nodup) (h : L.getD k 0 ∉ L.take k) : (L.take (k + 1)).Nodup := by
  rw [qw2 L k 0 hk,List.nodup_append]
  refine ⟨hn,by simp,?_⟩
  intro a ha b hb hab
  rw [List.mem_singleton] at hb
  subst hb
  exact h (hab ▸ ha)
theorem implIsExchange_spec (L : List Int) (hL : L.length ≤ 1048576) : Sp Tryz.prog 62 [ints L] (.b (decide (IsEx L))) := by
  refine qy7 Tryz.func62 rfl cc62 rfl ?_
  unfold ac62
  by_cases hc : 1 ≤ (L.length : Int) ∧ (L.length : Int) ≤ 12
  · have hd := areDifferent_spec L L.length hL (by omega)
    have e : decide (IsEx L) = decide ((∀ x ∈ L,0 ≤ x ∧ x < (L.length : Int)) ∧ L.Nodup) := decide_eq_decide.2 ⟨fun he => he.2.2,fun he => ⟨by omega,by omega,he⟩⟩
    rw [e]
    repeat (first|(refine qz0 ?_;(first|(refine m_mov (by conv => lhs; whnf) ?_)|(refine qy4 rfl ?_)))|refine qz1 ?_|refine qz3 ?_)
    (refine qz0 ?_);(apply qza (isGuestCount_spec _));(· repeat (first|exact qz4|(refine qz2 ?_ ?_;(· exact qzd))))
    repeat (refine qz0 ?_;((try (refine g_yes rfl ?_ ?_;(· (refine decide_eq_true ?_; assumption))));(first|(refine m_mov (by conv => lhs; whnf) ?_)|(refine qy4 rfl ?_))))
    (refine qz0 ?_);(refine g_yes rfl ?_ ?_;(· first|((refine decide_eq_true ?_; assumption))|(fail));(apply qza (hd)));(· repeat (first|exact qz4|(refine qz2 ?_ ?_;(· (first|exact qzd|(refine qy2 ?_; first|rfl|omega))))))
    repeat (first|(refine qz0 ?_;(first|(refine m_mov (by conv => lhs; whnf) ?_)|(refine qye rfl ?_ (by conv => lhs; whnf) ?_;(· (refine decide_eq_true ?_; assumption)))))|refine qz1 ?_|refine qzj ?_|refine qzc ?_)
    exact qyb rfl
  · repeat (first|(refine qz0 ?_;(first|(refine m_mov (by conv => lhs; whnf) ?_)|(refine qy4 rfl ?_)))|refine qz1 ?_|refine qz3 ?_)
    (refine qz0 ?_);(apply qza (isGuestCount_spec _));(· repeat (first|exact qz4|(refine qz2 ?_ ?_;(· exact qzd))))
    repeat (first|(refine qz0 ?_;(first|(first|(refine m_mov (by conv => lhs; whnf) ?_)|(refine qy3 rfl ?_ (by conv => lhs; whnf) ?_;(· (refine decide_eq_false ?_; assumption))))|(refine g_noT rfl ?_ ?_;(· (refine decide_eq_false ?_; assumption)))))|refine qz1 ?_|refine qzj ?_|refine qzc ?_)
    refine qyb ?_
    symm
    exact decide_eq_false fun he => hc ⟨by have := he.1; omega,by have := he.2.1; omega⟩
theorem exGood_spec (L : List Int) (hL : L.length ≤ 1048576) : Sp Tryz.prog 65 [ints L] (.b (decide (IsEx L))) := by
  refine qy7 Tryz.func65 rfl cc65 rfl ?_
  unfold ac65
  by_cases hc : 1 ≤ (L.length : Int) ∧ (L.length : Int) ≤ 12
  · by_cases hall : ∀ x ∈ L,0 ≤ x ∧ x ≤ (L.length : Int) - 1
    · repeat (first|(refine qz0 ?_;(first|(refine m_mov (by conv => lhs; whnf) ?_)|(refine qy4 rfl ?_)))|refine qz1 ?_|refine qz3 ?_|refine qz6 ?_)
      (refine qz0 ?_);(apply qza (qvh _ _ _));(· repeat (first|exact qz4|(refine qz2 ?_ ?_;(· exact qzd))))
      repeat (refine qz0 ?_;((try (refine g_yes rfl ?_ ?_;(· (simp [*]; done))));(first|(refine m_mov (by conv => lhs; whnf) ?_)|(refine m_sub rfl rfl ?_ ?_ ?_;(· omega);(· omega))|(refine m_not rfl ?_)|(refine qy4 rfl ?_))))
      (refine qz0 ?_);(refine g_yes rfl ?_ ?_;(· first|((simp [*]; done))|(fail));(apply qza (l1All_spec _ _ _ hL)));(· repeat (first|exact qz4|(refine qz2 ?_ ?_;(· (first|exact qzd|(refine qy2 ?_; first|rfl|omega))))))
      repeat (first|(refine qz0 ?_;((try (refine g_yes rfl ?_ ?_;(· (simp [*]; done))));(first|(refine m_mov (by conv => lhs; whnf) ?_)|(refine m_not rfl ?_)|(refine qy4 rfl ?_)|(refine qy3 rfl ?_ (by conv => lhs; whnf) ?_;(· (refine nf ?_; assumption))))))|refine qz1 ?_|refine qz3 ?_|(refine qzi rfl ?_ ?_;(· (refine nf ?_; assumption)))|refine qz5 ?_|refine qz6 ?_|refine qz8 ?_)
      refine qyf (α := Nat) (fun k => k ≤ L.length ∧ (L.take k).Nodup) (fun k => st [(0,ints L),(17,ints L),(18,.i L.length),(19,.i k)] []) (fun k => L.length - k) 0 (by simp) (qz9 ?_ ?_ rfl rfl) ?_
      · (repeat' first|exact trivial|refine And.intro ?_ ?_)<;>first|rfl|skip
      · trivial
      rintro k ⟨hk,hn⟩
      by_cases h : k < L.length
      · have hlt : (L.take k).length ≤ 1048576 := by simp; omega
        by_cases hm : L.getD k 0 ∈ L.take k
        · repeat (first|(refine qz0 ?_;(first|(refine m_mov (by conv => lhs; whnf) ?_)|(refine m_lss rfl rfl ?_)|(refine qy6 rfl rfl ?_ ?_;(· omega))|(refine qyg rfl ?_ ?_;(· omega))|(refine m_cut_hi rfl rfl ?_ ?_ ?_;(· first|rfl|omega|simp);(· first|omega|(simp; omega)))))|refine qz1 ?_|refine qz3 ?_|(refine qzf rfl ?_ ?_;(· (refine decide_eq_true ?_; omega)))|refine qz5 ?_|refine qz6 ?_|refine qz8 ?_)
          (refine qz0 ?_);(apply qza (qv2 _ _ hlt));(· repeat (first|exact qz4|(refine qz2 ?_ ?_;(· (first|exact qzd|(refine qy2 ?_; first|rfl|omega))))))
          repeat (first|(refine qz0 ?_;(refine m_mov (by conv => lhs; whnf) ?_))|refine qz1 ?_|refine qz3 ?_|(refine qzf rfl ?_ ?_;(· (refine decide_eq_true ?_; assumption)))|refine qzj ?_|refine qzc ?_|refine qy8 ?_|refine qx7 ?_|refine qxd ?_)
          refine qyb ?_
          symm
          exact decide_eq_false fun he => not_nodup h hm he.2.2.2
        · repeat (first|(refine qz0 ?_;(first|(refine m_mov (by conv => lhs; whnf) ?_)|(refine m_lss rfl rfl ?_)|(refine qy6 rfl rfl ?_ ?_;(· omega))|(refine qyg rfl ?_ ?_;(· omega))|(refine m_cut_hi rfl rfl ?_ ?_ ?_;(· first|rfl|omega|simp);(· first|omega|(simp; omega)))))|refine qz1 ?_|refine qz3 ?_|(refine qzf rfl ?_ ?_;(· (refine decide_eq_true ?_; omega)))|refine qz5 ?_|refine qz6 ?_|refine qz8 ?_)
          (refine qz0 ?_);(apply qza (qv2 _ _ hlt));(· repeat (first|exact qz4|(refine qz2 ?_ ?_;(· (first|exact qzd|(refine qy2 ?_; first|rfl|omega))))))
          repeat (first|(refine qz0 ?_;(first|(refine m_mov (by conv => lhs; whnf) ?_)|(refine m_add rfl rfl ?_ ?_ ?_;(· omega);(· omega))))|refine qz1 ?_|refine qy5 ?_|(refine qzi rfl ?_ ?_;(· (refine decide_eq_false ?_; assumption)))|refine qz7 ?_|refine qze ?_|refine qx6 ?_)
          refine qzb (k + 1) ⟨by omega,nodup_snoc h hn hm⟩ (qz9 ?_ ?_ rfl rfl) ?_
          · (repeat' first|exact trivial|refine And.intro ?_ ?_)<;>first|rfl|skip
          · trivial
          · omega
      · repeat (first|(refine qz0 ?_;(first|(refine m_mov (by conv => lhs; whnf) ?_)|(refine m_lss rfl rfl ?_)))|refine qz1 ?_|refine qz3 ?_|(refine qzi rfl ?_ ?_;(· (refine decide_eq_false ?_; omega)))|refine qz6 ?_|refine qzj ?_|refine qzc ?_|refine qz7 ?_|refine qy1 ?_|refine qy0 ?_|refine qy9 ?_|refine qzg ?_)
        refine qyb ?_
        symm
        rw [List.take_of_length_le (by omega)] at hn
        exact decide_eq_true ⟨by omega,by omega,fun x hx => ⟨(hall x hx).1,by have := (hall x hx).2; omega⟩,hn⟩
    · repeat (first|(refine qz0 ?_;(first|(refine m_mov (by conv => lhs; whnf) ?_)|(refine qy4 rfl ?_)))|refine qz1 ?_|refine qz3 ?_|refine qz6 ?_)
      (refine qz0 ?_);(apply qza (qvh _ _ _));(· repeat (first|exact qz4|(refine qz2 ?_ ?_;(· exact qzd))))
      repeat (refine qz0 ?_;((try (refine g_yes rfl ?_ ?_;(· (simp [*]; done))));(first|(refine m_mov (by conv => lhs; whnf) ?_)|(refine m_sub rfl rfl ?_ ?_ ?_;(· omega);(· omega))|(refine m_not rfl ?_)|(refine qy4 rfl ?_))))
      (refine qz0 ?_);(refine g_yes rfl ?_ ?_;(· first|((simp [*]; done))|(fail));(apply qza (l1All_spec _ _ _ hL)));(· repeat (first|exact qz4|(refine qz2 ?_ ?_;(· (first|exact qzd|(refine qy2 ?_; first|rfl|omega))))))
      repeat (first|(refine qz0 ?_;((try (refine g_yes rfl ?_ ?_;(· (simp [*]; done))));(first|(refine m_mov (by conv => lhs; whnf) ?_)|(refine m_not rfl ?_)|(refine qy3 rfl ?_ (by conv => lhs; whnf) ?_;(· (refine nf ?_; assumption))))))|refine qz1 ?_|refine qz3 ?_|(refine qzf rfl ?_ ?_;(· (refine nt ?_; assumption)))|refine qzj ?_|refine qzc ?_|refine qy8 ?_)
      refine qyb ?_
      symm
      exact decide_eq_false fun he => hall fun x hx => ⟨(he.2.2.1 x hx).1,by have := (he.2.2.1 x hx).2; omega⟩
  · repeat (first|(refine qz0 ?_;(first|(refine m_mov (by conv => lhs; whnf) ?_)|(refine qy4 rfl ?_)))|refine qz1 ?_|refine qz3 ?_|refine qz6 ?_)
    (refine qz0 ?_);(apply qza (qvh _ _ _));(· repeat (first|exact qz4|(refine qz2 ?_ ?_;(· exact qzd))))
    repeat (first|(refine qz0 ?_;(first|(first|(refine m_mov (by conv => lhs; whnf) ?_)|(refine m_not rfl ?_)|(refine qye rfl ?_ (by conv => lhs; whnf) ?_;(· (refine nt ?_; assumption))))|(refine g_noF rfl ?_ ?_;(· (refine nt ?_; assumption)))))|refine qz1 ?_|refine qz3 ?_|(refine qzf rfl ?_ ?_;(· rfl))|refine qzj ?_|refine qzc ?_|refine qy8 ?_)
    refine qyb ?_
    symm
    exact decide_eq_false fun he => hc ⟨by have := he.1; omega,by have := he.2.1; omega⟩
end Go.Proofs.YtngfogpbljconaaGreatDoor
namespace Go.Proofs.YtngfogpbljconaaGreatDoor
variable [Go.Am.CodeBlk]
open Go.Am
attribute [local irreducible] AW Outs Weak Lends Lend Sp aops atree aop1 Then Round InBlock Done
theorem drop_cut {B : List UInt8} {a i : Nat} (h1 : a ≤ i) (h2 : i < B.length) : B.drop a = (B.drop a).take (i - a) ++ B.getD i 0 :: B.drop (i + 1) := by
  have h3 := List.take_append_drop (i - a) (B.drop a)
  rw [List.drop_drop,show a + (i - a) = i by omega] at h3
  rw [← h3]
  congr 1
  · rw [h3]
  · rw [getD_get h2]
    exact List.drop_eq_getElem_cons h2
theorem u8_eq {c : UInt8} {n : Nat} (h : c.toNat = n) (k : UInt8) (hk : k.toNat = n) : c = k := UInt8.toNat_inj.1 (h.trans hk.symm)
theorem l1Split_spec (B : List UInt8) (hB : B.length ≤ 1048576) : Sp Tryz.prog 69 [str B,.v (.int .u8 47)] (.ro true 1 (strs (splitB B)) (splitB B).length) := by
  have hcnt : B.count 47 ≤ B.length := List.count_le_length
  refine qy7 Tryz.func69 rfl cc69 rfl ?_
  unfold ac69
  repeat (first|(refine qz0 ?_;(first|(refine m_mov (by conv => lhs; whnf) ?_)|(refine qx2 ?_)))|refine qz1 ?_|refine qz3 ?_|refine qz6 ?_|refine qz8 ?_)
  refine qyf (α := List (List UInt8) × Nat × Nat) (fun a => a.2.1 ≤ a.2.2 ∧ a.2.2 ≤ B.length ∧ (47 : UInt8) ∉ (B.drop a.2.1).take (a.2.2 - a.2.1) ∧ a.1 ++ splitB (B.drop a.2.1) = splitB B)
    (fun a => st [(0,str B),(1,.v (.int .u8 47)),(5,.sl 5 1 0 a.1.length),(6,.i a.2.1),(7,.i a.2.2)] [(5,(true,strs a.1))]) (fun a => B.length - a.2.2) ([],0,0) ⟨Nat.le_refl _,Nat.zero_le _,by simp,by simp⟩ (qz9 ?_ ?_ rfl rfl) ?_
  · (repeat' first|exact trivial|refine And.intro ?_ ?_)<;>first|rfl|skip
  · (repeat' first|exact trivial|refine And.intro ?_ ?_)<;>first|rfl|skip
  rintro ⟨done,a,i⟩ ⟨h1,h2,h3,h4⟩
  dsimp only at h1 h2 h3 h4 ⊢
  have hdl : done.length + 1 ≤ B.length + 1 := by
    have h5 := congrArg List.length h4
    rw [List.length_append,qv4,qv4] at h5
    omega
  have hsl := qub done
  have hd1 : ∀ p,(done ++ [p]).length = done.length + 1 := fun p => by simp
  have hd2 : ∀ p,strs (done ++ [p]) = strs done ++ [str p] := fun p => by simp [strs]
  by_cases hc : i < B.length
  · have hdc := drop_cut h1 hc
    by_cases h47 : B.getD i 0 = 47
    · have h47' : ((B.getD i 0).toNat : Int) = 47 := by rw [h47]; rfl
      rw [h47] at hdc
      repeat (first|(refine qz0 ?_;(first|(refine m_mov (by conv => lhs; whnf) ?_)|(refine m_lss rfl rfl ?_)|(refine m_eqk rfl rfl ?_)|(refine m_add rfl rfl ?_ ?_ ?_;(· omega);(· omega))|(refine m_scutb rfl rfl rfl ?_ ?_ ?_;(· omega);(· first|omega|(simp; omega)))|(refine qvi rfl ?_)|(refine m_six' rfl rfl ?_ ?_;(· first|omega|(simp; omega)))|(refine qu8 rfl rfl ?_)|(refine m_app1 rfl (by decide) rfl (by first|(simp; done)|(simp [*]; done)|(simp; omega)) rfl rfl rfl ?_ (by decide) ?_;(· first|omega|(simp; omega)))))|refine qz1 ?_|refine qz3 ?_|refine qy5 ?_|(refine qzf rfl ?_ ?_;(· first|(refine decide_eq_true ?_; assumption)|(refine decide_eq_true ?_; omega)))|refine qz5 ?_|refine qz6 ?_|refine qz7 ?_|refine qz8 ?_|refine qze ?_)
      refine qzb (done ++ [(B.drop a).take (i - a)],i + 1,i + 1) ⟨Nat.le_refl _,hc,by simp,?_⟩ (Weak.trans (qwf (r := 25) (q := 5) rfl (by decide) (by decide)) (qz9 ?_ ?_ rfl rfl)) ?_
      · have h5 : splitB (B.drop a) = (B.drop a).take (i - a) :: splitB (B.drop (i + 1)) := by
          conv => lhs; rw [hdc]
          exact splitB_cut h3
        show (done ++ [(B.drop a).take (i - a)]) ++ splitB (B.drop (i + 1)) = splitB B
        rw [← h4,h5,List.append_assoc]
        rfl
      · rw [hd1]
        (repeat' first|exact trivial|refine And.intro ?_ ?_)<;>first|rfl|skip
      · rw [hd2]
        (repeat' first|exact trivial|refine And.intro ?_ ?_)<;>first|rfl|skip
      · show B.length - (i + 1) < B.length - i; omega
    · have h47' : ¬ ((B.getD i 0).toNat : Int) = 47 := fun e => h47 (u8_eq (n := 47) (by omega) 47 rfl)
      repeat (first|(refine qz0 ?_;(first|(refine m_mov (by conv => lhs; whnf) ?_)|(refine m_lss rfl rfl ?_)|(refine m_eqk rfl rfl ?_)|(refine m_add rfl rfl ?_ ?_ ?_;(· omega);(· omega))|(refine qvi rfl ?_)|(refine m_six' rfl rfl ?_ ?_;(· first|omega|(simp; omega)))))|refine qz1 ?_|refine qz3 ?_|refine qy5 ?_|(refine qzf rfl ?_ ?_;(· (refine decide_eq_true ?_; omega)))|(refine qzi rfl ?_ ?_;(· (refine decide_eq_false ?_; assumption)))|refine qz5 ?_|refine qz6 ?_|refine qz7 ?_|refine qz8 ?_|refine qze ?_|refine qx6 ?_)
      refine qzb (done,a,i + 1) ⟨by show a ≤ i + 1; omega,hc,?_,h4⟩ (qz9 ?_ ?_ rfl rfl) ?_
      · show (47 : UInt8) ∉ (B.drop a).take (i + 1 - a)
        have h6 : (B.drop a).getD (i - a) 0 = B.getD i 0 := by
          rw [getD_get (by simp; omega),getD_get hc]
          simp [show a + (i - a) = i by omega]
        rw [show i + 1 - a = (i - a) + 1 by omega,qw2 _ _ 0 (by simp; omega),h6]
        simp only [List.mem_append,List.mem_singleton,not_or]
        exact ⟨h3,fun e => h47 e.symm⟩
      · (repeat' first|exact trivial|refine And.intro ?_ ?_)<;>first|rfl|skip
      · (repeat' first|exact trivial|refine And.intro ?_ ?_)<;>first|rfl|skip
      · show B.length - (i + 1) < B.length - i; omega
  · obtain rfl : i = B.length := by omega
    have hn : (47 : UInt8) ∉ B.drop a := by rwa [List.take_of_length_le (by simp)] at h3
    have hfin : splitB B = done ++ [B.drop a] := by rw [← h4,splitB_one hn]
    repeat (first|(refine qz0 ?_;(first|(refine m_mov (by conv => lhs; whnf) ?_)|(refine m_lss rfl rfl ?_)|(refine m_scutl rfl rfl ?_ ?_;(· first|omega|(simp; omega)))|(refine qvi rfl ?_)|(refine qu8 rfl rfl ?_)|(refine m_app1 rfl (by decide) rfl (by first|(simp; done)|(simp [*]; done)|(simp; omega)) rfl rfl rfl ?_ (by decide) ?_;(· first|omega|(simp; omega)))))|refine qz1 ?_|refine qz3 ?_|(refine qzi rfl ?_ ?_;(· (refine decide_eq_false ?_; omega)))|refine qz6 ?_|refine qzj ?_|refine qzc ?_|refine qz7 ?_|refine qy1 ?_|refine qy0 ?_|refine qy9 ?_|refine qzg ?_)
    rw [hfin,hd1,hd2]
    exact outs_sl rfl (by simp [qub]) (by simp [strs,plainV])
theorem qyj (B : List UInt8) (hB : B.length ≤ 1048576) : Sp Tryz.prog 56 [str B] (.i (sdB B : Nat)) := by
  refine qy7 Tryz.func56 rfl cc56 rfl ?_
  unfold ac56
  repeat (first|(refine qz0 ?_;(refine m_mov (by conv => lhs; whnf) ?_))|refine qz1 ?_|refine qz3 ?_)
  refine qz0 ?_
  refine qwh (l1Split_spec B hB) ?_ (strs_plain _) ?_
  · exact qz2 qzd (qz2 qzd qz4)
  repeat (first|(refine qz0 ?_;(first|(refine m_mov (by conv => lhs; whnf) ?_)|(refine qwd rfl ?_)))|refine qz1 ?_|refine qzj ?_|refine qzc ?_)
  exact qxa (by rw [qv4]; rfl)
end Go.Proofs.YtngfogpbljconaaGreatDoor
namespace Go.Proofs.YtngfogpbljconaaGreatDoor
variable [Go.Am.CodeBlk]
open Go.Am
attribute [local irreducible] AW Outs Weak Lends Lend Sp aops atree aop1 Then Round InBlock Done
theorem strs_at {l : List (List UInt8)} {k : Nat} (h : k < l.length) : ((strs l).drop k)[0]? = some (str (l.getD k [])) := by
  simp [strs,h]
def OkRow (n : Nat) (r : List UInt8) : Prop := r.length = n ∧ ∀ c ∈ r,c = 46 ∨ c = 35
theorem good_iff {B : List UInt8} (h : B.count 47 ≤ 7) : GoodBd B ↔ ∀ i < sdB B,OkRow (sdB B) ((splitB B).getD i []) := by
  have hl := qv4 B
  constructor
  · intro hg i hi
    exact hg.2 _ (getD_memL (by rw [hl]; exact hi))
  · intro hg
    refine ⟨h,fun r hr => ?_⟩
    obtain ⟨i,hi,rfl⟩ := List.getElem_of_mem hr
    have := hg i (by rw [hl] at hi; exact hi)
    rw [getD_get hi] at this
    exact this
theorem all_snoc {n : Nat} {rows : List (List UInt8)} {k : Nat} (h : ∀ i < k,OkRow n (rows.getD i [])) (hk : OkRow n (rows.getD k [])) : ∀ i < k + 1,OkRow n (rows.getD i []) := by
  intro i hi
  by_cases e : i = k
  · subst e; exact hk
  · exact h i (by omega)
theorem qw0 (B : List UInt8) (hB : B.length ≤ 1048576) : Sp Tryz.prog 46 [str B] (.b (decide (GoodBd B))) := by
  have hl := qv4 B
  refine qy7 Tryz.func46 rfl cc46 rfl ?_
  unfold ac46
  by_cases h72 : B.length ≤ 72
  · by_cases hc7 : B.count 47 ≤ 7
    · repeat (first|(refine qz0 ?_;(first|(refine m_mov (by conv => lhs; whnf) ?_)|(refine m_gtr rfl rfl ?_)|(refine qvi rfl ?_)))|refine qz1 ?_|refine qz3 ?_|(refine qzi rfl ?_ ?_;(· (refine decide_eq_false ?_; omega)))|refine qz5 ?_|refine qz6 ?_)
      (refine qz0 ?_);(apply qza (l1Split_spec B hB));(· repeat (first|exact qz4|(refine qz2 ?_ ?_;(· exact qzd))))
      repeat (first|(refine qz0 ?_;(first|(refine m_mov (by conv => lhs; whnf) ?_)|(refine qy4 rfl ?_)))|refine qz1 ?_|refine qz3 ?_|refine qz6 ?_)
      (refine qz0 ?_);(apply qza (qvh _ _ _));(· repeat (first|exact qz4|(refine qz2 ?_ ?_;(· exact qzd))))
      repeat (first|(refine qz0 ?_;(first|(refine m_mov (by conv => lhs; whnf) ?_)|(refine m_not rfl ?_)|(refine qy4 rfl ?_)))|refine qz1 ?_|refine qz3 ?_|(refine qzi rfl ?_ ?_;(· (refine nf ?_; omega)))|refine qz5 ?_|refine qz6 ?_|refine qz8 ?_)
      refine qyf (α := Nat) (fun k => k ≤ sdB B ∧ ∀ i < k,OkRow (sdB B) ((splitB B).getD i [])) (fun k => st [(3,.ro true 1 (strs (splitB B)) (splitB B).length),(16,.ro true 1 (strs (splitB B)) (splitB B).length),(17,.i (splitB B).length),(18,.i k)] []) (fun k => sdB B - k) 0 ⟨Nat.zero_le _,fun i hi => by omega⟩ (qz9 ?_ ?_ rfl rfl) ?_
      · (repeat' first|exact trivial|refine And.intro ?_ ?_)<;>first|rfl|skip
      · trivial
      rintro k ⟨hk,hok⟩
      have hsd : sdB B = (splitB B).length := hl.symm
      by_cases hc : k < (splitB B).length
      · have hat := strs_at hc
        obtain ⟨row,hrow⟩ : ∃ row,row = (splitB B).getD k [] := ⟨_,rfl⟩
        rw [← hrow] at hat
        have hsn : OkRow (sdB B) row → ∀ i < k + 1,OkRow (sdB B) ((splitB B).getD i []) := fun h => all_snoc hok (by rw [← hrow]; exact h)
        have hbad : ¬ OkRow (sdB B) row → ¬ GoodBd B := fun h hg => h (by rw [hrow]; exact (good_iff hc7).1 hg k (by omega))
        by_cases hlen : row.length = (splitB B).length
        · repeat (first|(refine qz0 ?_;(first|(refine m_lss rfl rfl ?_)|(refine qy6 rfl rfl ?_ ?_;(· omega))))|refine qz1 ?_|refine qz3 ?_|(refine qzf rfl ?_ ?_;(· (refine decide_eq_true ?_; omega)))|refine qz5 ?_|refine qz6 ?_|refine qz8 ?_)
          refine qz0 ?_
          refine qvf rfl hat ?_
          repeat (first|(refine qz0 ?_;(first|(refine m_mov (by conv => lhs; whnf) ?_)|(refine m_neq rfl rfl ?_)|(refine qvi rfl ?_)|(refine qy4 rfl ?_)))|refine qz1 ?_|refine qz3 ?_|(refine qzi rfl ?_ ?_;(· (refine decide_eq_false ?_; omega)))|refine qz5 ?_|refine qz6 ?_|refine qz8 ?_)
          refine qyf (α := Nat) (fun j => j ≤ row.length ∧ ∀ c ∈ row.take j,c = 46 ∨ c = 35) (fun j => st [(3,.ro true 1 (strs (splitB B)) (splitB B).length),(5,str row),(6,.i j),(16,.ro true 1 (strs (splitB B)) (splitB B).length),(17,.i (splitB B).length),(18,.i k)] []) (fun j => row.length - j) 0 ⟨Nat.zero_le _,fun c hc => by simp at hc⟩ (qz9 ?_ ?_ rfl rfl) ?_
          · (repeat' first|exact trivial|refine And.intro ?_ ?_)<;>first|rfl|skip
          · trivial
          rintro j ⟨hj,hjok⟩
          by_cases hcj : j < row.length
          · have hts := qw2 row j 0 hcj
            by_cases h46 : row.getD j 0 = 46
            · have h46' : ((row.getD j 0).toNat : Int) = 46 := by rw [h46]; rfl
              repeat (first|(refine qz0 ?_;(first|(first|(refine m_mov (by conv => lhs; whnf) ?_)|(refine m_lss rfl rfl ?_)|(refine m_neqk rfl rfl ?_)|(refine m_add rfl rfl ?_ ?_ ?_;(· omega);(· omega))|(refine qvi rfl ?_)|(refine m_six' rfl rfl ?_ ?_;(· first|omega|(simp; omega)))|(refine qy3 rfl ?_ (by conv => lhs; whnf) ?_;(· (refine decide_eq_false ?_; omega))))|(refine g_noT rfl ?_ ?_;(· (refine decide_eq_false ?_; omega)))))|refine qz1 ?_|refine qz3 ?_|refine qy5 ?_|(refine qzf rfl ?_ ?_;(· (refine decide_eq_true ?_; omega)))|(refine qzi rfl ?_ ?_;(· rfl))|refine qz5 ?_|refine qz6 ?_|refine qz7 ?_|refine qz8 ?_|refine qze ?_|refine qx6 ?_)
              refine qzb (j + 1) ⟨hcj,fun c hc => ?_⟩ (qz9 ?_ ?_ rfl rfl) ?_
              · rw [hts] at hc
                rcases List.mem_append.1 hc with hc|hc
                · exact hjok c hc
                · rw [List.mem_singleton.1 hc]; exact .inl h46
              · (repeat' first|exact trivial|refine And.intro ?_ ?_)<;>first|rfl|skip
              · trivial
              · omega
            · have h46' : ¬ ((row.getD j 0).toNat : Int) = 46 := fun e => h46 (u8_eq (n := 46) (by omega) 46 rfl)
              by_cases h35 : row.getD j 0 = 35
              · have h35' : ((row.getD j 0).toNat : Int) = 35 := by rw [h35]; rfl
                repeat (first|(refine qz0 ?_;((try (refine g_yes rfl ?_ ?_;(· (refine decide_eq_true ?_; assumption))));(first|(refine m_mov (by conv => lhs; whnf) ?_)|(refine m_lss rfl rfl ?_)|(refine m_neqk rfl rfl ?_)|(refine m_add rfl rfl ?_ ?_ ?_;(· omega);(· omega))|(refine qvi rfl ?_)|(refine m_six' rfl rfl ?_ ?_;(· first|omega|(simp; omega)))|(refine qye rfl ?_ (by conv => lhs; whnf) ?_;(· (refine decide_eq_true ?_; assumption))))))|refine qz1 ?_|refine qz3 ?_|refine qy5 ?_|(refine qzf rfl ?_ ?_;(· (refine decide_eq_true ?_; omega)))|(refine qzi rfl ?_ ?_;(· (refine decide_eq_false ?_; omega)))|refine qz5 ?_|refine qz6 ?_|refine qz7 ?_|refine qz8 ?_|refine qze ?_|refine qx6 ?_)
                refine qzb (j + 1) ⟨hcj,fun c hc => ?_⟩ (qz9 ?_ ?_ rfl rfl) ?_
                · rw [hts] at hc
                  rcases List.mem_append.1 hc with hc|hc
                  · exact hjok c hc
                  · rw [List.mem_singleton.1 hc]; exact .inr h35
                · (repeat' first|exact trivial|refine And.intro ?_ ?_)<;>first|rfl|skip
                · trivial
                · omega
              · have h35' : ¬ ((row.getD j 0).toNat : Int) = 35 := fun e => h35 (u8_eq (n := 35) (by omega) 35 rfl)
                repeat (first|(refine qz0 ?_;((try (refine g_yes rfl ?_ ?_;(· (refine decide_eq_true ?_; assumption))));(first|(refine m_mov (by conv => lhs; whnf) ?_)|(refine m_lss rfl rfl ?_)|(refine m_neqk rfl rfl ?_)|(refine qvi rfl ?_)|(refine m_six' rfl rfl ?_ ?_;(· first|omega|(simp; omega)))|(refine qye rfl ?_ (by conv => lhs; whnf) ?_;(· (refine decide_eq_true ?_; assumption))))))|refine qz1 ?_|refine qz3 ?_|(refine qzf rfl ?_ ?_;(· first|(refine decide_eq_true ?_; assumption)|(refine decide_eq_true ?_; omega)))|refine qz5 ?_|refine qz6 ?_|refine qzj ?_|refine qzc ?_|refine qy8 ?_|refine qz8 ?_|refine qx7 ?_|refine qxd ?_)
                exact qyb (decide_eq_false (hbad fun h => (h.2 _ (getD_memL hcj)).elim h46 h35)).symm
          · obtain rfl : j = row.length := by omega
            rw [List.take_length] at hjok
            repeat (first|(refine qz0 ?_;(first|(refine m_mov (by conv => lhs; whnf) ?_)|(refine m_lss rfl rfl ?_)|(refine m_add rfl rfl ?_ ?_ ?_;(· omega);(· omega))|(refine qvi rfl ?_)))|refine qz1 ?_|refine qz3 ?_|refine qy5 ?_|(refine qzi rfl ?_ ?_;(· (refine decide_eq_false ?_; omega)))|refine qz6 ?_|refine qz7 ?_|refine qy1 ?_|refine qze ?_|refine qy0 ?_|refine qy9 ?_|refine qzg ?_)
            refine qzb (k + 1) ⟨by omega,hsn ⟨by omega,hjok⟩⟩ (qz9 ?_ ?_ rfl rfl) ?_
            · (repeat' first|exact trivial|refine And.intro ?_ ?_)<;>first|rfl|skip
            · trivial
            · omega
        · repeat (first|(refine qz0 ?_;(first|(refine m_lss rfl rfl ?_)|(refine qy6 rfl rfl ?_ ?_;(· omega))))|refine qz1 ?_|refine qz3 ?_|(refine qzf rfl ?_ ?_;(· (refine decide_eq_true ?_; omega)))|refine qz5 ?_|refine qz6 ?_|refine qz8 ?_)
          refine qz0 ?_
          refine qvf rfl hat ?_
          repeat (first|(refine qz0 ?_;(first|(refine m_mov (by conv => lhs; whnf) ?_)|(refine m_neq rfl rfl ?_)|(refine qvi rfl ?_)|(refine qy4 rfl ?_)))|refine qz1 ?_|refine qz3 ?_|(refine qzf rfl ?_ ?_;(· (refine decide_eq_true ?_; omega)))|refine qz6 ?_|refine qzj ?_|refine qzc ?_|refine qy8 ?_|refine qx7 ?_|refine qxd ?_)
          exact qyb (decide_eq_false (hbad fun h => hlen (by rw [h.1]; exact hsd))).symm
      · have hg : GoodBd B := (good_iff hc7).2 fun i hi => hok i (by omega)
        repeat (first|(refine qz0 ?_;(first|(refine m_mov (by conv => lhs; whnf) ?_)|(refine m_lss rfl rfl ?_)))|refine qz1 ?_|refine qz3 ?_|(refine qzi rfl ?_ ?_;(· (refine decide_eq_false ?_; omega)))|refine qz6 ?_|refine qzj ?_|refine qzc ?_|refine qz7 ?_|refine qy1 ?_|refine qy0 ?_|refine qy9 ?_|refine qzg ?_)
        exact qyb (decide_eq_true hg).symm
    · have hng : ¬ GoodBd B := fun h => hc7 h.1
      repeat (first|(refine qz0 ?_;(first|(refine m_mov (by conv => lhs; whnf) ?_)|(refine m_gtr rfl rfl ?_)|(refine qvi rfl ?_)))|refine qz1 ?_|refine qz3 ?_|(refine qzi rfl ?_ ?_;(· (refine decide_eq_false ?_; omega)))|refine qz5 ?_|refine qz6 ?_)
      (refine qz0 ?_);(apply qza (l1Split_spec B hB));(· repeat (first|exact qz4|(refine qz2 ?_ ?_;(· exact qzd))))
      repeat (first|(refine qz0 ?_;(first|(refine m_mov (by conv => lhs; whnf) ?_)|(refine qy4 rfl ?_)))|refine qz1 ?_|refine qz3 ?_|refine qz6 ?_)
      (refine qz0 ?_);(apply qza (qvh _ _ _));(· repeat (first|exact qz4|(refine qz2 ?_ ?_;(· exact qzd))))
      repeat (first|(refine qz0 ?_;(first|(refine m_mov (by conv => lhs; whnf) ?_)|(refine m_not rfl ?_)))|refine qz1 ?_|refine qz3 ?_|(refine qzf rfl ?_ ?_;(· (refine nt ?_; omega)))|refine qzj ?_|refine qzc ?_|refine qy8 ?_)
      exact qyb (decide_eq_false hng).symm
  · have hng : ¬ GoodBd B := fun h => h72 (by have := good_len72 h; omega)
    repeat (first|(refine qz0 ?_;(first|(refine m_mov (by conv => lhs; whnf) ?_)|(refine m_gtr rfl rfl ?_)|(refine qvi rfl ?_)))|refine qz1 ?_|refine qz3 ?_|(refine qzf rfl ?_ ?_;(· (refine decide_eq_true ?_; omega)))|refine qz6 ?_|refine qzj ?_|refine qzc ?_|refine qy8 ?_)
    exact qyb (decide_eq_false hng).symm
theorem qu6 (B : List UInt8) (h : GoodBd B) (i j : Nat) (hi : i < sdB B) (hj : j < sdB B) : Sp Tryz.prog 57 [str B,.i i,.i j] (.b (fbB B i j)) := by
  have h71 := good_len72 h
  have hsd := qx5 h
  have hlen := good_len h
  have hat := good_at h hi hj
  have hm1 : (i : Int) * ((sdB B : Int) + 1) = ((i * (sdB B + 1) : Nat) : Int) := by push_cast; rfl
  have hm2 : i * (sdB B + 1) ≤ 7 * 9 := Nat.mul_le_mul (by omega) (by omega)
  have hm3 : (i + 1) * (sdB B + 1) ≤ sdB B * (sdB B + 1) := Nat.mul_le_mul_right _ hi
  rw [Nat.add_mul] at hm3
  refine qy7 Tryz.func57 rfl cc57 rfl ?_
  unfold ac57
  repeat (first|(refine qz0 ?_;(refine m_mov (by conv => lhs; whnf) ?_))|refine qz1 ?_|refine qz3 ?_)
  (refine qz0 ?_);(apply qza (qyj B (by omega)));(· repeat (first|exact qz4|(refine qz2 ?_ ?_;(· exact qzd))))
  repeat (first|(refine qz0 ?_;(first|(refine m_mov (by conv => lhs; whnf) ?_)|(refine m_eqk rfl rfl ?_)|(refine m_add rfl rfl ?_ ?_ ?_;(· omega);(· omega))|(refine m_mul rfl rfl ?_ ?_ ?_;(· first|omega|(simp; done));(· first|omega|(simp; done)))|(refine m_six' rfl rfl ?_ ?_;(· first|omega|(simp; omega)))))|refine qz1 ?_|refine qzj ?_|refine qzc ?_)
  exact qyb (by rw [hat]; cases fbB B i j <;> rfl)
end Go.Proofs.YtngfogpbljconaaGreatDoor
namespace Go.Proofs.YtngfogpbljconaaGreatDoor
variable [Go.Am.CodeBlk]
open Go.Am Go.WideMaps
theorem place_law : KeyLaw Tryz.prog 58 := deep_law (m := 2) (by omega) (by kernel_rfl) (by kernel_rfl) (by kernel_rfl)
theorem place_type : Tryz.prog.keyType 58 = true := by kernel_rfl
theorem place_cells : Tryz.prog.cellsOf 58 = 2 := by kernel_rfl
theorem types_size : ∃ m,Tryz.prog.types.size = m + 1 := ⟨Tryz.prog.types.size - 1,by kernel_rfl⟩
theorem int_under : Tryz.prog.underlying 3 = some (.int .i64) := by kernel_rfl
theorem int_cells : Tryz.prog.cellsOf 3 = 1 := by kernel_rfl
theorem lits_int {a : Int} (ha : (Lit.int .i64 a).wf = true) (m : Nat) : Tryz.prog.keyLits (m + 1) 3 [.int .i64 a] = some [.int .i64 a] := by
  unfold Program.keyLits
  simp [ha]
theorem key_place {a b : Int} (ha : (Lit.int .i64 a).wf = true) (hb : (Lit.int .i64 b).wf = true) : ∃ l,keyOf Tryz.prog 58 (keyP a b) = some l := by
  obtain ⟨m,hm⟩ := types_size
  unfold keyOf keyP
  rw [Tryz.underlying58]
  simp only [place_type,Bool.true_and]
  rw [if_pos (by simp [Value.formed,Tryz.underlying58,place_cells]),hm]
  unfold Program.keyLits
  simp [Tryz.underlying58,Value.cells,place_cells,int_cells,lits_int ha,lits_int hb]
theorem quj {a : Int} (h1 : -9223372036854775808 ≤ a) (h2 : a ≤ 9223372036854775807) : (Lit.int .i64 a).wf = true := by
  simp [Lit.wf,IntKind.min,IntKind.max,IntKind.signed,IntKind.bits,h1,h2]
theorem keys_place {l : List (Nat × Nat)} (h : ∀ p ∈ l,p.1 < 1000 ∧ p.2 < 1000) : ∀ e ∈ (mkEs l).toList,∃ q,keyOf Tryz.prog 58 e.key = some q := by
  intro e he
  obtain ⟨p,hp,hk,_⟩ := mem_mkEs he
  have := h p hp
  rw [hk]
  exact key_place (quj (by omega) (by omega)) (quj (by omega) (by omega))
theorem m_place {own : Bool} {d : Option Nat} {s : AS} {K : AS → Prop} {x i : Opd} {l : List (Nat × Nat)} {a b : Int} (h : ∀ p ∈ l,p.1 < 1000 ∧ p.2 < 1000) (hm : MapAt s (s.ev x) (mkEs l) l.length) (hi : exV (s.ev i) = some (keyP a b))
    (ha : -9223372036854775808 ≤ a ∧ a ≤ 9223372036854775807) (hb : -9223372036854775808 ≤ b ∧ b ≤ 9223372036854775807) (k : K (s.put d (.b (hasP l a b)))) : aop1 Tryz.prog own ⟨d,.mgetk 58 (.bool false) false x i,none⟩ s K := by
  refine m_mgetk place_law hm hi (key_place (quj ha.1 ha.2) (quj hb.1 hb.2)) (keys_place h) ?_ ?_ k
  · intro e he hk
    obtain ⟨p,hp,h1,h2⟩ := mem_mkEs he
    rw [h1] at hk
    obtain ⟨e1,e2⟩ := keyP_inj hk
    have : hasP l a b = true := List.any_eq_true.2 ⟨p,hp,by simp [e1,e2]⟩
    rw [h2,this]
    rfl
  · intro hno
    have : hasP l a b = false := by
      rw [Bool.eq_false_iff]
      intro ht
      obtain ⟨p,hp,hpe⟩ := List.any_eq_true.1 ht
      simp only [Bool.and_eq_true,decide_eq_true_eq] at hpe
      obtain ⟨e,he,hk⟩ := has_mkEs hp
      exact hno e he (by rw [hk,hpe.1,hpe.2])
    rw [this]
    rfl
theorem m_putPlace {own : Bool} {s : AS} {K : AS → Prop} {x i y : Opd} {r : Nat} {l : List (Nat × Nat)} {a b : Nat} (h : ∀ p ∈ l,p.1 < 1000 ∧ p.2 < 1000) (hx : s.ev x = .mp r) (hr : s.hp r = some (true,[.ob (.map (mkEs l) l.length)])) (hi : exV (s.ev i) = some (keyP a b)) (hy : s.ev y = .v (.bool true))
    (ha : a < 1000) (hb : b < 1000) (hn : (a,b) ∉ l) (k : K (s.mem r (true,[.ob (.map (mkEs (l ++ [(a,b)])) (l ++ [(a,b)]).length)]))) : aop1 Tryz.prog own ⟨none,.mputk 58 x i y,none⟩ s K := by
  refine m_mputk place_law hx hr hi hy (key_place (quj (by omega) (by omega)) (quj (by omega) (by omega))) (keys_place h) ?_ ?_
  · intro e he hk
    obtain ⟨p,hp,h1,_⟩ := mem_mkEs he
    rw [h1] at hk
    obtain ⟨e1,e2⟩ := keyP_inj hk
    have : p = (a,b) := Prod.ext (by omega) (by omega)
    exact hn (this ▸ hp)
  · rw [show l.length + 1 = (l ++ [(a,b)]).length by simp]
    rw [← mkEs_push l (a,b)] at k
    exact k
end Go.Proofs.YtngfogpbljconaaGreatDoor
namespace Go.Proofs.YtngfogpbljconaaGreatDoor
variable [Go.Am.CodeBlk]
open Go.Am
attribute [local irreducible] AW Outs Weak Lends Lend Sp aops atree aop1 Then Round InBlock Done
theorem isSide_spec (n : Int) : Sp Tryz.prog 68 [.i n] (.b (decide (1 ≤ n ∧ n ≤ 8))) := by
  refine qy7 Tryz.func68 rfl cc68 rfl ?_
  unfold ac68
  by_cases h1 : 1 ≤ n
  · by_cases h2 : n ≤ 8
    · repeat (first|(refine qz0 ?_;((try (refine g_yes rfl ?_ ?_;(· (refine decide_eq_true ?_; assumption))));(first|(refine m_mov (by conv => lhs; whnf) ?_)|(refine m_leq rfl rfl ?_)|(refine m_geq rfl rfl ?_)|(refine qye rfl ?_ (by conv => lhs; whnf) ?_;(· (refine decide_eq_true ?_; assumption))))))|refine qz1 ?_|refine qz3 ?_|refine qzj ?_|refine qzc ?_)
      exact qyb (by simp [h1,h2])
    · repeat (first|(refine qz0 ?_;((try (refine g_yes rfl ?_ ?_;(· (refine decide_eq_true ?_; assumption))));(first|(refine m_mov (by conv => lhs; whnf) ?_)|(refine m_leq rfl rfl ?_)|(refine m_geq rfl rfl ?_)|(refine qye rfl ?_ (by conv => lhs; whnf) ?_;(· (refine decide_eq_true ?_; assumption))))))|refine qz1 ?_|refine qz3 ?_|refine qzj ?_|refine qzc ?_)
      exact qyb (by simp [h2])
  · repeat (first|(refine qz0 ?_;(first|(first|(refine m_mov (by conv => lhs; whnf) ?_)|(refine m_geq rfl rfl ?_)|(refine qy3 rfl ?_ (by conv => lhs; whnf) ?_;(· (refine decide_eq_false ?_; assumption))))|(refine g_noT rfl ?_ ?_;(· (refine decide_eq_false ?_; assumption)))))|refine qz1 ?_|refine qz3 ?_|refine qzj ?_|refine qzc ?_)
    exact qyb (by simp [h1])
def plB (B : List UInt8) : List (Nat × Nat) := posP (fbB B) (sdB B) (sdB B)
def bdV (fr : Bool) (B : List UInt8) : AV := if GoodBd B then .agg [.i (sdB B : Nat),.rmp fr (mkEs (plB B)) (plB B).length] else .agg [.i 0,.v (.map none)]
def bdR (fr : Bool) (B : List UInt8) : AV := .tup [bdV fr B,.b (decide (GoodBd B))]
theorem pos_lt {fb : Nat → Nat → Bool} {n k i j : Nat} (hn : n ≤ 8) (hk : k ≤ n) (hi : i < 8) (hj : j ≤ n) : ∀ p ∈ posP fb n k ++ rowP fb i j,p.1 < 1000 ∧ p.2 < 1000 := by
  intro p hp
  rcases List.mem_append.1 hp with hp|hp
  · have := mem_posP.1 hp; omega
  · have := mem_rowP.1 hp; omega
set_option maxRecDepth 20000 in
theorem qxj (B : List UInt8) (hB : B.length ≤ 1048576) : Sp Tryz.prog 44 [str B] (bdR true B) := by
  have hl := qv4 B
  have hnl := splitNB_len 8 B
  refine specG_of Tryz.func44 rfl cc44 (by set_option maxRecDepth 100000 in rfl) ?_
  unfold ac44
  by_cases hc7 : B.count 47 ≤ 7
  · have hsp : splitNB 8 B = splitB B := splitNB_all 8 B (by omega)
    have hspec := splitN_spec B hB
    rw [hsp] at hspec
    have hsd : sdB B = (splitB B).length := hl.symm
    have hsd8 : sdB B ≤ 8 := by unfold sdB; omega
    repeat (first|(refine qz0 ?_;(first|(refine m_mov (by conv => lhs; whnf) ?_)|(refine qxb ?_)))|refine qz1 ?_|refine qz3 ?_)
    (refine qz0 ?_);(apply qza (hspec));(· repeat (first|exact qz4|(refine qz2 ?_ ?_;(· exact qzd))))
    repeat (first|(refine qz0 ?_;(first|(refine m_mov (by conv => lhs; whnf) ?_)|(refine qy4 rfl ?_)))|refine qz1 ?_|refine qz3 ?_|refine qz6 ?_)
    (refine qz0 ?_);(apply qza (isSide_spec _));(· repeat (first|exact qz4|(refine qz2 ?_ ?_;(· exact qzd))))
    repeat (first|(refine qz0 ?_;(first|(refine m_mov (by conv => lhs; whnf) ?_)|(refine m_not rfl ?_)|(refine qy4 rfl ?_)|(refine m_mmk ?_)|(refine qxb ?_)|(refine m_bld_2 (by conv => lhs; whnf) (by conv => lhs; whnf) (by decide)  (by decide) (by rfl) (by rfl) ?_)))|refine qz1 ?_|refine qz3 ?_|(refine qzi rfl ?_ ?_;(· (refine nf ?_; omega)))|refine qz5 ?_)
    refine step_opsW (weak_deep (r := 5) rfl (by simp) rfl) ?_
    refine qx9 (l := [.i (splitB B).length,.mp 18]) rfl rfl rfl rfl rfl rfl ?_
    repeat (first|(refine qz0 ?_;(first|(refine m_mov (by conv => lhs; whnf) ?_)|(refine qy4 rfl ?_)))|refine qz1 ?_|refine qz3 ?_|refine qz6 ?_|refine qz8 ?_)
    refine qyf (α := Nat) (fun k => k ≤ sdB B ∧ ∀ i < k,OkRow (sdB B) ((splitB B).getD i []))
      (fun k => st [(2,.pt 2 0),(5,.pt 5 0),(20,.ro true 1 (strs (splitB B)) (splitB B).length),(21,.i (splitB B).length),(22,.i k)]
        [(2,(true,[.i 0,.v (.map none)])),(5,(false,[.i (splitB B).length,.mp 18])),(18,(true,[.ob (.map (mkEs (posP (fbB B) (sdB B) k)) (posP (fbB B) (sdB B) k).length)]))]) (fun k => sdB B - k) 0 ⟨Nat.zero_le _,fun i hi => by omega⟩ (qz9 ?_ ?_ rfl rfl) ?_
    · (repeat' first|exact trivial|refine And.intro ?_ ?_)<;>first|rfl|skip
    · (repeat' first|exact trivial|refine And.intro ?_ ?_)<;>first|rfl|skip
    rintro k ⟨hk,hok⟩
    by_cases hc : k < (splitB B).length
    · have hat := strs_at hc
      obtain ⟨row,hrow⟩ : ∃ row,row = (splitB B).getD k [] := ⟨_,rfl⟩
      rw [← hrow] at hat
      have hsn : OkRow (sdB B) row → ∀ i < k + 1,OkRow (sdB B) ((splitB B).getD i []) := fun h => all_snoc hok (by rw [← hrow]; exact h)
      have hbad : ¬ OkRow (sdB B) row → ¬ GoodBd B := fun h hg => h (by rw [hrow]; exact (good_iff hc7).1 hg k (by omega))
      have hfb : ∀ j,fbB B k j = decide (row.getD j 0 = 35) := fun j => by rw [hrow]; rfl
      have hout : ∀ {s : AS},¬ GoodBd B → s.tm 2 = .pt 2 0 → s.hp 2 = some (true,[.i 0,.v (.map none)]) → s.tm 3 = .b false → DoneG [.c 2 2,.t 3] (bdR true B) .ret s := by
        intro s hng h1 h2 h3
        refine ret_doneg2 h1 h2 rfl ?_
        unfold bdR bdV
        rw [h3,if_neg hng,decide_eq_false hng]
        exact qyh (outs_agg rfl) (qyb rfl)
      by_cases hlen : row.length = (splitB B).length
      · repeat (first|(refine qz0 ?_;(first|(refine m_mov (by conv => lhs; whnf) ?_)|(refine m_lss rfl rfl ?_)|(refine qy6 rfl rfl ?_ ?_;(· omega))))|refine qz1 ?_|refine qz3 ?_|(refine qzf rfl ?_ ?_;(· (refine decide_eq_true ?_; omega)))|refine qz5 ?_|refine qz6 ?_|refine qz8 ?_)
        refine qz0 ?_
        refine qvf rfl hat ?_
        repeat (first|(refine qz0 ?_;(first|(refine m_mov (by conv => lhs; whnf) ?_)|(refine m_neq rfl rfl ?_)|(refine qvi rfl ?_)|(apply qx8;(· rfl);(· rfl);(· rfl))|(refine m_fa rfl ?_)))|refine qz1 ?_|refine qz3 ?_|(refine qzi rfl ?_ ?_;(· (refine decide_eq_false ?_; omega)))|refine qz5 ?_|refine qz6 ?_|refine qz8 ?_)
        refine qyf (α := Nat) (fun j => j ≤ row.length ∧ ∀ c ∈ row.take j,c = 46 ∨ c = 35)
          (fun j => st [(2,.pt 2 0),(5,.pt 5 0),(6,.i k),(7,str row),(20,.ro true 1 (strs (splitB B)) (splitB B).length),(21,.i (splitB B).length),(22,.i k),(34,.i row.length),(35,.i j)]
            [(2,(true,[.i 0,.v (.map none)])),(5,(false,[.i (splitB B).length,.mp 18])),(18,(true,[.ob (.map (mkEs (posP (fbB B) (sdB B) k ++ rowP (fbB B) k j)) (posP (fbB B) (sdB B) k ++ rowP (fbB B) k j).length)]))]) (fun j => row.length - j) 0 ⟨Nat.zero_le _,fun c hc => by simp at hc⟩ (qz9 ?_ ?_ rfl rfl) ?_
        · (repeat' first|exact trivial|refine And.intro ?_ ?_)<;>first|rfl|skip
        · rw [show posP (fbB B) (sdB B) k ++ rowP (fbB B) k 0 = posP (fbB B) (sdB B) k by simp [rowP]]
          (repeat' first|exact trivial|refine And.intro ?_ ?_)<;>first|rfl|skip
        rintro j ⟨hj,hjok⟩
        by_cases hcj : j < row.length
        · have hts := qw2 row j 0 hcj
          have hrs := rowP_snoc (fbB B) k j
          have hlt := pos_lt (fb := fbB B) (n := sdB B) (k := k) (i := k) (j := j) hsd8 (by omega) (by omega) (by omega)
          by_cases h46 : row.getD j 0 = 46
          · have h46' : ((row.getD j 0).toNat : Int) = 46 := by rw [h46]; rfl
            have hfj : fbB B k j = false := by rw [hfb,h46]; rfl
            rw [hfj] at hrs
            repeat (first|(refine qz0 ?_;(first|(refine m_mov (by conv => lhs; whnf) ?_)|(refine m_lss rfl rfl ?_)|(refine m_eqk rfl rfl ?_)|(refine m_add rfl rfl ?_ ?_ ?_;(· omega);(· omega))|(refine m_six' rfl rfl ?_ ?_;(· first|omega|(simp; omega)))))|refine qz1 ?_|refine qz3 ?_|refine qy5 ?_|(refine qzf rfl ?_ ?_;(· first|(refine decide_eq_true ?_; assumption)|(refine decide_eq_true ?_; omega)))|refine qz5 ?_|refine qz6 ?_|refine qz7 ?_|refine qz8 ?_|refine qze ?_|refine qx6 ?_)
            refine qzb (j + 1) ⟨hcj,fun c hc => ?_⟩ (qz9 ?_ ?_ rfl rfl) ?_
            · rw [hts] at hc
              rcases List.mem_append.1 hc with hc|hc
              · exact hjok c hc
              · rw [List.mem_singleton.1 hc]; exact .inl h46
            · (repeat' first|exact trivial|refine And.intro ?_ ?_)<;>first|rfl|skip
            · rw [hrs]
              simp only [Bool.false_eq_true,if_false,List.append_nil]
              (repeat' first|exact trivial|refine And.intro ?_ ?_)<;>first|rfl|skip
            · omega
          · have h46' : ¬ ((row.getD j 0).toNat : Int) = 46 := fun e => h46 (u8_eq (n := 46) (by omega) 46 rfl)
            by_cases h35 : row.getD j 0 = 35
            · have h35' : ((row.getD j 0).toNat : Int) = 35 := by rw [h35]; rfl
              have hfj : fbB B k j = true := by rw [hfb,h35]; rfl
              rw [hfj,if_pos rfl] at hrs
              repeat (first|(refine qz0 ?_;(first|(refine m_mov (by conv => lhs; whnf) ?_)|(refine m_lss rfl rfl ?_)|(refine m_eqk rfl rfl ?_)|(refine m_six' rfl rfl ?_ ?_;(· first|omega|(simp; omega)))|(apply qx8;(· rfl);(· rfl);(· rfl))|(refine m_fa rfl ?_)|(refine m_bld_2 (by conv => lhs; whnf) (by conv => lhs; whnf) (by decide)  (by decide) (by rfl) (by rfl) ?_)))|refine qz1 ?_|refine qz3 ?_|refine qy5 ?_|(refine qzf rfl ?_ ?_;(· first|(refine decide_eq_true ?_; assumption)|(refine decide_eq_true ?_; omega)))|(refine qzi rfl ?_ ?_;(· (refine decide_eq_false ?_; assumption)))|refine qz5 ?_|refine qz6 ?_|refine qz8 ?_)
              refine qz0 ?_
              refine m_putPlace (l := posP (fbB B) (sdB B) k ++ rowP (fbB B) k j) (a := k) (b := j) hlt rfl rfl rfl rfl (by omega) (by omega) ?_ ?_
              · intro hm
                rcases List.mem_append.1 hm with hm|hm
                · have := mem_posP.1 hm; simp at this
                · have := mem_rowP.1 hm; simp at this
              repeat (first|(refine qz0 ?_;(first|(refine m_mov (by conv => lhs; whnf) ?_)|(refine m_add rfl rfl ?_ ?_ ?_;(· omega);(· omega))))|refine qz1 ?_|refine qy5 ?_|refine qz7 ?_|refine qze ?_)
              refine qzb (j + 1) ⟨hcj,fun c hc => ?_⟩ (qz9 ?_ ?_ rfl rfl) ?_
              · rw [hts] at hc
                rcases List.mem_append.1 hc with hc|hc
                · exact hjok c hc
                · rw [List.mem_singleton.1 hc]; exact .inr h35
              · (repeat' first|exact trivial|refine And.intro ?_ ?_)<;>first|rfl|skip
              · rw [hrs,← List.append_assoc]
                (repeat' first|exact trivial|refine And.intro ?_ ?_)<;>first|rfl|skip
              · omega
            · have h35' : ¬ ((row.getD j 0).toNat : Int) = 35 := fun e => h35 (u8_eq (n := 35) (by omega) 35 rfl)
              repeat (first|(refine qz0 ?_;(first|(refine m_mov (by conv => lhs; whnf) ?_)|(refine m_lss rfl rfl ?_)|(refine m_eqk rfl rfl ?_)|(refine m_six' rfl rfl ?_ ?_;(· first|omega|(simp; omega)))|(refine m_bld rfl ?_)|(refine qx9 rfl rfl rfl ?_ ?_ ?_ ?_;(· first|rfl|(simp [*]; done));(· first|rfl|(simp [*]; done));(· first|rfl|(simp [cellOk,Value.oneCell']; done)))))|refine qz1 ?_|refine qz3 ?_|(refine qzf rfl ?_ ?_;(· (refine decide_eq_true ?_; omega)))|(refine qzi rfl ?_ ?_;(· (refine decide_eq_false ?_; assumption)))|refine qz5 ?_|refine qz6 ?_|refine qzj ?_|refine qy8 ?_|refine qz8 ?_|refine qx7 ?_|refine qxd ?_)
              exact hout (hbad fun h => (h.2 _ (getD_memL hcj)).elim h46 h35) rfl rfl rfl
        · obtain rfl : j = row.length := by omega
          rw [List.take_length] at hjok
          repeat (first|(refine qz0 ?_;(first|(refine m_mov (by conv => lhs; whnf) ?_)|(refine m_lss rfl rfl ?_)|(refine m_add rfl rfl ?_ ?_ ?_;(· omega);(· omega))))|refine qz1 ?_|refine qz3 ?_|refine qy5 ?_|(refine qzi rfl ?_ ?_;(· (refine decide_eq_false ?_; omega)))|refine qz6 ?_|refine qz7 ?_|refine qy1 ?_|refine qze ?_|refine qy0 ?_|refine qy9 ?_|refine qzg ?_)
          refine qzb (k + 1) ⟨by omega,hsn ⟨by omega,hjok⟩⟩ (qz9 ?_ ?_ rfl rfl) ?_
          · (repeat' first|exact trivial|refine And.intro ?_ ?_)<;>first|rfl|skip
          · rw [show posP (fbB B) (sdB B) (k + 1) = posP (fbB B) (sdB B) k ++ rowP (fbB B) k row.length by rw [hlen,← hsd]; rfl]
            (repeat' first|exact trivial|refine And.intro ?_ ?_)<;>first|rfl|skip
          · omega
      · repeat (first|(refine qz0 ?_;(first|(refine m_mov (by conv => lhs; whnf) ?_)|(refine m_lss rfl rfl ?_)|(refine qy6 rfl rfl ?_ ?_;(· omega))))|refine qz1 ?_|refine qz3 ?_|(refine qzf rfl ?_ ?_;(· (refine decide_eq_true ?_; omega)))|refine qz5 ?_|refine qz6 ?_|refine qz8 ?_)
        refine qz0 ?_
        refine qvf rfl hat ?_
        repeat (first|(refine qz0 ?_;(first|(refine m_mov (by conv => lhs; whnf) ?_)|(refine m_neq rfl rfl ?_)|(refine qvi rfl ?_)|(apply qx8;(· rfl);(· rfl);(· rfl))|(refine m_fa rfl ?_)|(refine m_bld rfl ?_)|(refine qx9 rfl rfl rfl ?_ ?_ ?_ ?_;(· first|rfl|(simp [*]; done));(· first|rfl|(simp [*]; done));(· first|rfl|(simp [cellOk,Value.oneCell']; done)))))|refine qz1 ?_|refine qz3 ?_|(refine qzf rfl ?_ ?_;(· (refine decide_eq_true ?_; omega)))|refine qz6 ?_|refine qzj ?_|refine qy8 ?_|refine qx7 ?_|refine qxd ?_)
        exact hout (hbad fun h => hlen (by rw [h.1]; exact hsd)) rfl rfl rfl
    · have hg : GoodBd B := (good_iff hc7).2 fun i hi => hok i (by omega)
      obtain rfl : k = sdB B := by omega
      repeat (first|(refine qz0 ?_;(first|(refine m_lss rfl rfl ?_)|(refine qv7 rfl rfl ?_ ?_;(· first|rfl|(simp; done)|(simp [*]; done)))))|refine qz1 ?_|refine qz3 ?_|(refine qzi rfl ?_ ?_;(· (refine decide_eq_false ?_; omega)))|refine qz6 ?_|refine qz7 ?_|refine qy1 ?_|refine qy0 ?_|refine qy9 ?_|refine qzg ?_)
      refine step_opsW (weak_deep (r := 2) rfl (by simp) rfl) ?_
      refine qx9 (l := [.i (splitB B).length,.mp 18]) rfl rfl rfl rfl rfl rfl ?_
      repeat (first|(refine qz0 ?_;(refine m_mov (by conv => lhs; whnf) ?_))|refine qz1 ?_|refine qzj ?_)
      refine ret_doneg2 rfl rfl rfl ?_
      unfold bdR bdV
      rw [if_pos hg,decide_eq_true hg]
      exact qyh (outs_agg2 (qxa (by rw [hsd])) (outs_mp (by decide) rfl)) (qyb rfl)
  · have hng : ¬ GoodBd B := fun h => hc7 h.1
    repeat (first|(refine qz0 ?_;(first|(refine m_mov (by conv => lhs; whnf) ?_)|(refine qxb ?_)))|refine qz1 ?_|refine qz3 ?_)
    (refine qz0 ?_);(apply qza (splitN_spec B hB));(· repeat (first|exact qz4|(refine qz2 ?_ ?_;(· exact qzd))))
    repeat (first|(refine qz0 ?_;(first|(refine m_mov (by conv => lhs; whnf) ?_)|(refine qy4 rfl ?_)))|refine qz1 ?_|refine qz3 ?_|refine qz6 ?_)
    (refine qz0 ?_);(apply qza (isSide_spec _));(· repeat (first|exact qz4|(refine qz2 ?_ ?_;(· exact qzd))))
    repeat (first|(refine qz0 ?_;(first|(refine m_mov (by conv => lhs; whnf) ?_)|(refine m_not rfl ?_)|(refine m_bld rfl ?_)|(refine qx9 rfl rfl rfl ?_ ?_ ?_ ?_;(· first|rfl|(simp [*]; done));(· first|rfl|(simp [*]; done));(· first|rfl|(simp [cellOk,Value.oneCell']; done)))))|refine qz1 ?_|refine qz3 ?_|(refine qzf rfl ?_ ?_;(· (refine nt ?_; omega)))|refine qzj ?_|refine qy8 ?_)
    refine ret_doneg2 rfl rfl rfl ?_
    unfold bdR bdV
    rw [if_neg hng,decide_eq_false hng]
    exact qyh (outs_agg rfl) (qyb rfl)
theorem implIsBoard_spec (B : List UInt8) (hB : B.length ≤ 1048576) : Sp Tryz.prog 17 [str B] (.b (decide (GoodBd B))) := by
  have hr := qxj B hB
  unfold bdR bdV at hr
  refine qy7 Tryz.func17 rfl cc17 rfl ?_
  unfold ac17
  by_cases h : GoodBd B
  · rw [if_pos h] at hr
    repeat (first|(refine qz0 ?_;(refine m_mov (by conv => lhs; whnf) ?_))|refine qz1 ?_|refine qz3 ?_)
    (refine qz0 ?_);(apply qza (hr));(· repeat (first|exact qz4|(refine qz2 ?_ ?_;(· exact qzd))))
    repeat (first|(refine qz0 ?_;(first|(refine m_mov (by conv => lhs; whnf) ?_)|(refine m_ext rfl rfl ?_)|(refine qxb ?_)|(refine qx9 rfl rfl rfl ?_ ?_ ?_ ?_;(· first|rfl|(simp [*]; done));(· first|rfl|(simp [*]; done));(· first|rfl|(simp [cellOk,Value.oneCell']; done)))))|refine qz1 ?_|refine qz3 ?_|refine qzj ?_|refine qzc ?_)
    exact qyb rfl
  · rw [if_neg h] at hr
    repeat (first|(refine qz0 ?_;(refine m_mov (by conv => lhs; whnf) ?_))|refine qz1 ?_|refine qz3 ?_)
    (refine qz0 ?_);(apply qza (hr));(· repeat (first|exact qz4|(refine qz2 ?_ ?_;(· exact qzd))))
    repeat (first|(refine qz0 ?_;(first|(refine m_mov (by conv => lhs; whnf) ?_)|(refine m_ext rfl rfl ?_)|(refine qxb ?_)|(refine qx9 rfl rfl rfl ?_ ?_ ?_ ?_;(· first|rfl|(simp [*]; done));(· first|rfl|(simp [*]; done));(· first|rfl|(simp [cellOk,Value.oneCell']; done)))))|refine qz1 ?_|refine qz3 ?_|refine qzj ?_|refine qzc ?_)
    exact qyb rfl
theorem specIsBoard_spec (B : List UInt8) (hB : B.length ≤ 1048576) : Sp Tryz.prog 18 [str B] (.b (decide (GoodBd B))) := by
  refine qy7 Tryz.func18 rfl cc18 rfl ?_
  unfold ac18
  repeat (first|(refine qz0 ?_;(refine m_mov (by conv => lhs; whnf) ?_))|refine qz1 ?_|refine qz3 ?_)
  (refine qz0 ?_);(apply qza (qw0 B hB));(· repeat (first|exact qz4|(refine qz2 ?_ ?_;(· exact qzd))))
  repeat (first|(refine qz0 ?_;(refine m_mov (by conv => lhs; whnf) ?_))|refine qz1 ?_|refine qzj ?_|refine qzc ?_)
  exact qyb rfl
end Go.Proofs.YtngfogpbljconaaGreatDoor
namespace Go.Am
variable [Go.Am.CodeBlk]
variable {P : Program} {own : Bool} {s : AS} {K : AS → Prop} {d : Option Nat} {x i y : Opd}
def wA (w : List RWay) : Array MapEntry := (w.map RWay.ent).toArray
abbrev wObj (w : List RWay) (ck : Nat) : Bool × List AV := (true,[.ob (.map (wA w) ck)])
theorem wA_mem {w : List RWay} {e : MapEntry} : e ∈ (wA w).toList ↔ ∃ p ∈ w,p.ent = e := by simp [wA]
theorem wA_get {w : List RWay} {n : Nat} {e : MapEntry} (h : (wA w).toList[n]? = some e) : ∃ p,w[n]? = some p ∧ p.ent = e := by
  simp only [wA,List.getElem?_map,Option.map_eq_some_iff] at h
  exact h
theorem wA_keys (w : List RWay) : ∀ e ∈ (wA w).toList,∃ q,e.key = .int .u16 q := fun e he => by
  obtain ⟨p,_,rfl⟩ := wA_mem.1 he
  exact ⟨p.t,rfl⟩
theorem ent_key {p : RWay} {T : Nat} (h : p.ent.key = .int .u16 (T : Nat)) : p.t = T := by
  simp only [RWay.ent,Value.int.injEq,true_and] at h
  exact_mod_cast h
theorem wA_born {w : List RWay} (h : (w.map (·.b)).Nodup) : ((wA w).toList.map (·.born)).Nodup := by
  have : (wA w).toList.map (·.born) = w.map (·.b) := by simp [wA,Function.comp_def,RWay.ent]
  rw [this]; exact h
def wv (w : List RWay) (T : Nat) : Nat := ((w.find? fun p => p.t == T).map (·.v)).getD 0
theorem wv_mem {w : List RWay} (hk : (w.map (·.t)).Nodup) {p : RWay} (hp : p ∈ w) : wv w p.t = p.v := by
  unfold wv
  induction w with
  | nil => simp at hp
  | cons q w ih =>
    simp only [List.map_cons,List.nodup_cons] at hk
    by_cases e : q.t = p.t
    · have : q = p := by
        rcases List.mem_cons.1 hp with rfl|hp
        · rfl
        · exact absurd (List.mem_map.2 ⟨p,hp,e.symm⟩) hk.1
      simp [this]
    · rcases List.mem_cons.1 hp with rfl|hp
      · exact absurd rfl e
      · rw [List.find?_cons,show (q.t == p.t) = false by simpa using e]
        exact ih hk.2 hp
theorem wv_none {w : List RWay} {T : Nat} (h : ∀ p ∈ w,p.t ≠ T) : wv w T = 0 := by
  unfold wv
  rw [List.find?_eq_none.2 fun p hp => by simpa using h p hp]
  rfl
theorem m_wget {r n ck T : Nat} {w : List RWay} (hw : WaysOk n ck w) (hx : s.ev x = .mp r) (hr : s.hp r = some (wObj w ck)) (hi : s.ev i = .u T) (k : K (s.put d (.i (wv w T : Nat)))) : aop1 P own ⟨d,.mget .u16 (.int .i64 0) false x i,none⟩ s K := by
  refine m_mget hx hr hi (wA_keys w) (fun e he hk => ?_) fun hno => ?_
  · obtain ⟨p,hp,rfl⟩ := wA_mem.1 he
    have := ent_key hk
    rw [← this,wv_mem hw.keys hp] at k
    exact k
  · rw [wv_none fun p hp e => hno p.ent (wA_mem.2 ⟨p,hp,rfl⟩) (by rw [← e]; rfl)] at k
    exact k
theorem m_wput {r n ck T m : Nat} {w : List RWay} (hw : WaysOk n ck w) (hT : T < 2 ^ n) (hx : s.ev x = .mp r) (hr : s.hp r = some (wObj w ck)) (hi : s.ev i = .u T) (hy : s.ev y = .i (wv w T + m : Nat))
    (k : ∀ w' ck',WaysOk n ck' w' → (∀ g,wE w' g = wE w g + m * g T) → K (s.mem r (wObj w' ck'))) : aop1 P own ⟨none,.mput .u16 x i y,none⟩ s K := by
  refine m_mput hx hr hi hy (wA_keys w) (fun j e he hk => ?_) fun hno => ?_
  · obtain ⟨p,hp,rfl⟩ := wA_get he
    have ht := ent_key hk
    obtain ⟨h1,h2⟩ := ways_set hw hp m
    have h3 := k _ _ h1 (fun g => by rw [h2 g,ht])
    have h4 : (wA w).modify j (fun e => { e with key := .int .u16 (T : Nat),val := .int .i64 ((wv w T + m : Nat) : Int) }) = wA (w.set j { p with v := p.v + m }) := by
      apply Array.ext'
      simp only [wA,List.map_set]
      rw [Array.toList_modify]
      apply List.ext_getElem?
      intro q
      rw [List.getElem?_modify,List.getElem?_set]
      by_cases e : j = q
      · subst e
        have hlt : j < w.length := (List.getElem?_eq_some_iff.1 hp).1
        simp only [if_true,List.getElem?_map,hp,Option.map_some,List.length_map,hlt]
        rw [← ht,wv_mem hw.keys (List.mem_of_getElem? hp)]
        rfl
      · simp [e]
    rw [h4]
    exact h3
  · have hno' : ∀ p ∈ w,p.t ≠ T := fun p hp e => hno p.ent (wA_mem.2 ⟨p,hp,rfl⟩) (by rw [← e]; rfl)
    obtain ⟨h1,h2⟩ := ways_push hw hT hno' m
    have h3 := k _ _ h1 h2
    have h4 : (wA w).push { key := .int .u16 (T : Nat),val := .int .i64 ((wv w T + m : Nat) : Int),born := ck } = wA (w ++ [⟨T,m,ck⟩]) := by
      rw [wv_none hno',Nat.zero_add]
      simp [wA,RWay.ent]
    rw [h4]
    exact h3
theorem ways_one (n : Nat) : WaysOk n 1 [⟨0,1,0⟩] := ⟨by simp,by simp,by simp,by intro p hp; simp at hp; subst hp; exact Nat.pos_of_ne_zero (by simp)⟩
/- Places that are left, with their stamps. -/
def plE (p : (Nat × Nat) × Nat) : MapEntry := entP p.1 p.2
def plArr (l : List ((Nat × Nat) × Nat)) : Array MapEntry := (l.map plE).toArray
theorem mkEsL_zip : ∀ (l : List (Nat × Nat)) (c : Nat),mkEsL c l = (l.zipIdx c).map plE
  | [],_ => rfl
  | p :: l,c => by rw [mkEsL,mkEsL_zip l (c + 1)]; rfl
theorem mkEs_pl (l : List (Nat × Nat)) : mkEs l = plArr l.zipIdx := by unfold mkEs plArr; rw [mkEsL_zip]
theorem plArr_mem {l : List ((Nat × Nat) × Nat)} {e : MapEntry} : e ∈ (plArr l).toList ↔ ∃ p ∈ l,plE p = e := by simp [plArr]
end Go.Am
namespace Go.Am
variable [Go.Am.CodeBlk]
def popB : ByteArray := ⟨#[0,1,1,2,1,2,2,3,1,2,2,3,2,3,3,4,1,2,2,3,2,3,3,4,2,3,3,4,3,4,4,5,1,2,2,3,2,3,3,4,2,3,3,4,3,4,4,5,2,3,3,4,3,4,4,5,3,4,4,5,4,5,5,6,1,2,2,3,2,3,3,4,2,3,3,4,3,4,4,5,2,3,3,4,3,4,4,5,3,4,4,5,4,5,5,6,2,3,3,4,3,4,4,5,3,4,4,5,4,5,5,6,3,4,4,5,4,5,5,6,4,5,5,6,5,6,6,7,1,2,2,3,2,3,3,4,2,3,3,4,3,4,4,5,2,3,3,4,3,4,4,5,3,4,4,5,4,5,5,6,2,3,3,4,3,4,4,5,3,4,4,5,4,5,5,6,3,4,4,5,4,5,5,6,4,5,5,6,5,6,6,7,2,3,3,4,3,4,4,5,3,4,4,5,4,5,5,6,3,4,4,5,4,5,5,6,4,5,5,6,5,6,6,7,3,4,4,5,4,5,5,6,4,5,5,6,5,6,6,7,4,5,5,6,5,6,6,7,5,6,6,7,6,7,7,8]⟩
theorem popP_get : ∀ S < 512,(popB.data.toList.getD (S >>> 8) 0).toNat + (popB.data.toList.getD (S &&& 255) 0).toNat = pop16 S := by decide +kernel
theorem popB_at {j : Nat} (h : j < popB.size) : (popB[j]'h).toNat = (popB.data.toList.getD j 0).toNat := by
  have h2 : j < popB.data.toList.length := h
  rw [List.getD_eq_getElem?_getD,List.getElem?_eq_getElem h2]
  rfl
theorem popB_size : popB.size = 256 := by decide +kernel
theorem popB_le : ∀ j < 256,(popB.data.toList.getD j 0).toNat ≤ 8 := by decide +kernel
section
variable {P : Program} {own : Bool} {s : AS} {K : AS → Prop} {d : Option Nat} {x y : Opd}
theorem m_sixu {b : ByteArray} {j : Nat} {q : IntKind} (hx : s.ev x = .v (.string b)) (hj : s.ev y = .v (.int q (j : Nat))) (h : j < b.size) (k : K (s.put d (.v (.int .u8 (b[j]'h).toNat)))) : aop1 P own ⟨d,.pu .six [x,y],none⟩ s K :=
  ⟨_,⟨b,q,j,by simp [hx,hj],by omega,by simpa using h,by simp⟩,k⟩
theorem m_addk {q : IntKind} {a b c : Int} (hx : s.ev x = .v (.int q a)) (hy : s.ev y = .v (.int q b)) (hc : q.wrap (a + b) = c) (k : K (s.put d (.v (.int q c)))) : aop1 P own ⟨d,.bin .add x y,none⟩ s K := ⟨_,_,.int q c,hx,hy,by simp [pbin,hc],k⟩
theorem m_shr8 {a : Nat} (hx : s.ev x = .u a) (hy : s.ev y = .v (.int .u64 8)) (kk : K (s.put d (.u (a >>> 8)))) : aop1 P own ⟨d,.bin .shr x y,none⟩ s K := by
  refine ⟨_,_,_,hx,hy,?_,kk⟩
  show (if (8 : Int) < 0 then none else some (Value.int .u16 ((a : Int).fdiv (2 ^ (min (8 : Int).toNat IntKind.u16.bits))))) = _
  rw [if_neg (by decide),show min (8 : Int).toNat IntKind.u16.bits = 8 from rfl,Nat.shiftRight_eq_div_pow]
  congr 2
  rw [Int.fdiv_eq_ediv_of_nonneg _ (by decide),show (2 : Int) ^ 8 = 256 from rfl,show (2 : Nat) ^ 8 = 256 from rfl]
  omega
theorem m_cvtk {q k : IntKind} {n c : Int} (hx : s.ev x = .v (.int q n)) (hc : k.wrap n = c) (kk : K (s.put d (.v (.int k c)))) : aop1 P own ⟨d,.pu (.cvt k) [x],none⟩ s K := ⟨_,⟨q,n,by simp [hx],by rw [hc]⟩,kk⟩
end
/- The places that are left. -/
def lfA (fb : Nat → Nat → Bool) (n : Nat) (D : Nat × Nat → Bool) : List ((Nat × Nat) × Nat) := (posP fb n n).zipIdx.filter fun q => D q.1
abbrev lfObj (fb : Nat → Nat → Bool) (n : Nat) (D : Nat × Nat → Bool) : Bool × List AV := (true,[.ob (.map (plArr (lfA fb n D)) (posP fb n n).length)])
theorem lfA_mem {fb : Nat → Nat → Bool} {n : Nat} {D : Nat × Nat → Bool} {q : (Nat × Nat) × Nat} (h : q ∈ lfA fb n D) : (q.1.1 < n ∧ q.1.2 < n ∧ fb q.1.1 q.1.2 = true) ∧ D q.1 = true ∧ q.2 < (posP fb n n).length := by
  obtain ⟨h1,h2⟩ := List.mem_filter.1 h
  have h3 := List.mem_zipIdx h1
  refine ⟨mem_posP.1 ?_,h2,by omega⟩
  rw [h3.2.2]
  exact List.getElem_mem _
theorem lfA_has {fb : Nat → Nat → Bool} {n : Nat} {D : Nat × Nat → Bool} {p : Nat × Nat} (h : p.1 < n ∧ p.2 < n ∧ fb p.1 p.2 = true) (hD : D p = true) : ∃ q ∈ lfA fb n D,q.1 = p := by
  obtain ⟨k,hk,e⟩ := List.mem_iff_getElem.1 (mem_posP.2 h : p ∈ posP fb n n)
  exact ⟨(p,k),List.mem_filter.2 ⟨by rw [List.mem_zipIdx_iff_getElem?]; simp [hk,e],hD⟩,rfl⟩
theorem lfA_all (fb : Nat → Nat → Bool) (n : Nat) : plArr (lfA fb n fun _ => true) = mkEs (posP fb n n) := by
  rw [mkEs_pl,lfA,List.filter_eq_self.2 fun _ _ => rfl]
theorem lfA_congr {fb : Nat → Nat → Bool} {n : Nat} {D E : Nat × Nat → Bool} (h : ∀ p : Nat × Nat,p.1 < n → p.2 < n → fb p.1 p.2 = true → D p = E p) : lfA fb n D = lfA fb n E := by
  refine List.filter_congr fun q hq => ?_
  have h3 := List.mem_zipIdx hq
  have : q.1 ∈ posP fb n n := by rw [h3.2.2]; exact List.getElem_mem _
  obtain ⟨h4,h5,h6⟩ := mem_posP.1 this
  exact h _ h4 h5 h6
theorem posP_nodup (fb : Nat → Nat → Bool) (n : Nat) : ∀ k,(posP fb n k).Nodup
  | 0 => by simp [posP]
  | k + 1 => by
    rw [posP,List.nodup_append]
    refine ⟨posP_nodup fb n k,?_,fun a ha b hb e => ?_⟩
    · unfold rowP
      refine List.pairwise_map.2 (List.Pairwise.imp ?_ (List.nodup_range.filter fun j => fb k j))
      intro a b h e
      exact h (by simpa using e)
    · have h1 := mem_posP.1 ha
      have h2 := mem_rowP.1 hb
      rw [e] at h1
      omega
theorem lfA_nodup (fb : Nat → Nat → Bool) (n : Nat) (D : Nat × Nat → Bool) : ((lfA fb n D).map (·.1)).Nodup := by
  refine List.Nodup.sublist (List.filter_sublist.map _) (l₂ := (posP fb n n).zipIdx.map (·.1)) ?_
  rw [List.zipIdx_map_fst]
  exact posP_nodup fb n n
theorem lfA_born (fb : Nat → Nat → Bool) (n : Nat) (D : Nat × Nat → Bool) : ((plArr (lfA fb n D)).toList.map (·.born)).Nodup := by
  have e : (plArr (lfA fb n D)).toList.map (·.born) = (lfA fb n D).map (·.2) := by simp [plArr,Function.comp_def,plE,entP]
  rw [e]
  refine List.Nodup.sublist (List.filter_sublist.map _) (l₂ := (posP fb n n).zipIdx.map (·.2)) ?_
  rw [List.zipIdx_map_snd]
  exact List.nodup_range'
theorem erase_filter {L : List ((Nat × Nat) × Nat)} (h : (L.map (·.1)).Nodup) {j : Nat} {q : (Nat × Nat) × Nat} (hj : L[j]? = some q) : L.eraseIdx j = L.filter fun r => !decide (r.1 = q.1) := by
  induction L generalizing j with
  | nil => simp at hj
  | cons a L ih =>
    simp only [List.map_cons,List.nodup_cons] at h
    cases j with
    | zero =>
      simp at hj
      subst hj
      rw [List.eraseIdx_zero,List.tail_cons,List.filter_cons,if_neg (by simp),List.filter_eq_self.2]
      intro r hr
      have : r.1 ≠ a.1 := fun e => h.1 (List.mem_map.2 ⟨r,hr,e⟩)
      simpa using this
    | succ j =>
      have hq : L[j]? = some q := by simpa using hj
      have : a.1 ≠ q.1 := fun e => h.1 (List.mem_map.2 ⟨q,List.mem_of_getElem? hq,e.symm⟩)
      rw [List.eraseIdx_cons_succ,ih h.2 hq,List.filter_cons,if_pos (by simpa using this)]
theorem lfA_erase {fb : Nat → Nat → Bool} {n : Nat} {D : Nat × Nat → Bool} {j : Nat} {q : (Nat × Nat) × Nat} (hj : (lfA fb n D)[j]? = some q) :
    (plArr (lfA fb n D)).eraseIdxIfInBounds j = plArr (lfA fb n fun p => D p && !decide (p = q.1)) := by
  have hlt : j < (plArr (lfA fb n D)).size := by simpa [plArr] using (List.getElem?_eq_some_iff.1 hj).1
  rw [Array.eraseIdxIfInBounds,dif_pos hlt]
  apply Array.ext'
  rw [Array.toList_eraseIdx]
  simp only [plArr]
  rw [show (List.map plE (lfA fb n D)).eraseIdx j = ((lfA fb n D).eraseIdx j).map plE from by simp [List.eraseIdx_eq_take_drop_succ],erase_filter (lfA_nodup fb n D) hj,lfA,List.filter_filter]
  congr 1
  unfold lfA
  refine List.filter_congr fun r _ => ?_
  rw [Bool.and_comm]
theorem plArr_get {l : List ((Nat × Nat) × Nat)} {n : Nat} {e : MapEntry} (h : (plArr l).toList[n]? = some e) : ∃ p,l[n]? = some p ∧ plE p = e := by
  simp only [plArr,List.getElem?_map,Option.map_eq_some_iff] at h
  exact h
theorem plE_key {q : (Nat × Nat) × Nat} {a b : Nat} (h : (plE q).key = keyP a b) : q.1 = (a,b) := by
  obtain ⟨h1,h2⟩ := keyP_inj (h : keyP q.1.1 q.1.2 = keyP a b)
  exact Prod.ext (Int.ofNat_inj.1 h1) (Int.ofNat_inj.1 h2)
end Go.Am
namespace Go.Proofs.YtngfogpbljconaaGreatDoor
variable [Go.Am.CodeBlk]
open Go.Am
attribute [local irreducible] AW Outs Weak Lends Lend Sp aops atree aop1 Then Round InBlock Done
attribute [local irreducible] SpH SpX DoneH DoneX
theorem onesP_spec (S : Nat) (hS2 : S < 512) : Sp Tryz.prog 99 [.u S] (.i (pop16 S : Nat)) := by
  have h1 : S >>> 8 < popB.size := by rw [popB_size,Nat.shiftRight_eq_div_pow]; omega
  have h2 : S &&& 255 < popB.size := by rw [popB_size]; exact Nat.lt_of_le_of_lt Nat.and_le_right (by decide)
  have hg := popP_get S hS2
  have e1 := popB_at h1
  have e2 := popB_at h2
  rw [popB_size] at h1 h2
  have l1 := popB_le _ h1
  have l2 := popB_le _ h2
  rw [← popB_size] at h1 h2
  rw [← e1,← e2] at hg
  rw [← e1] at l1
  rw [← e2] at l2
  rw [← hg]
  refine qy7 Tryz.func99 rfl cc99 rfl ?_
  unfold ac99
  repeat (first|((first|refine qz0 ?_|refine qzh ?_);(refine m_mov (by conv => lhs; whnf) ?_))|refine qz1 ?_|refine qz3 ?_|refine qw3 ?_)
  refine qzh ?_
  refine m_shr8 (a := S) rfl rfl ?_
  refine qzh ?_
  refine m_sixu (b := popB) (j := S >>> 8) (q := .u16) rfl rfl h1 ?_
  repeat (refine qzh ?_;(refine m_mov (by conv => lhs; whnf) ?_))
  refine qzh ?_
  refine m_and16 (a := S) (b := 255) rfl rfl (by omega) (by decide) ?_
  refine qzh ?_
  refine m_sixu (b := popB) (j := S &&& 255) (q := .u16) rfl rfl h2 ?_
  generalize ((popB[S >>> 8]'h1).toNat) = p at *
  generalize ((popB[S &&& 255]'h2).toNat) = q at *
  have w1 : IntKind.u8.wrap ((p : Int) + (q : Int)) = ((p + q : Nat) : Int) := by
    have : IntKind.u8.wrap ((p : Int) + (q : Int)) = ((p : Int) + (q : Int)) % 256 := by simp [IntKind.wrap,IntKind.bits,IntKind.signed]
    omega
  have w2 : IntKind.i64.wrap ((p + q : Nat) : Int) = ((p + q : Nat) : Int) := by rw [IntKind.wrap_i64]; omega
  refine qzh ?_
  refine m_addk rfl rfl w1 ?_
  refine qzh ?_
  refine m_cvtk rfl w2 ?_
  repeat (first|(refine qzh ?_;(refine m_mov (by conv => lhs; whnf) ?_))|refine qxc ?_|refine qzj ?_|refine qzc ?_)
  exact qxa rfl
theorem sizeP_spec (S : Nat) (hS2 : S < 512) : Sp Tryz.prog 80 [.u S] (.i (pop16 S : Nat)) := by
  refine qy7 Tryz.func80 rfl cc80 rfl ?_
  unfold ac80
  repeat (first|(refine qz0 ?_;(refine m_mov (by conv => lhs; whnf) ?_))|refine qz1 ?_|refine qz3 ?_)
  (refine qz0 ?_);(apply qza (onesP_spec S hS2));(· repeat (first|exact qz4|(refine qz2 ?_ ?_;(· exact qzd))))
  repeat (first|(refine qz0 ?_;(refine m_mov (by conv => lhs; whnf) ?_))|refine qz1 ?_|refine qzj ?_|refine qzc ?_)
  exact qxa rfl
end Go.Proofs.YtngfogpbljconaaGreatDoor
namespace Go.Am
variable [Go.Am.CodeBlk]
section
variable {P : Program} {N : Nat} {s : AS} {Q : Exit → AS → Prop}
theorem AW_scopeL {c rest : ACode} {α : Type} (l : Nat) (Inv : α → Prop) (I : α → AS) (m : α → Nat) (hfind : afind c l = some (.seq .skip rest)) (pass : ∀ x,Inv x → AW P N rest (I x) (Jump l Inv I m (some (m x)) Q))
    (first : (∀ x,Inv x → AW P N rest (I x) (Jump l Inv I m none Q)) → AW P N c s (Jump l Inv I m none Q)) : AW P N (.scope c) s Q :=
  AW_scope l Inv I m hfind (first fun x hx => AW_mono (pass x hx) fun e s h => by
    cases e with
    | goto l' =>
      obtain ⟨h1,x',h2,h3,_⟩ := h
      exact ⟨h1,x',h2,h3,fun n hn => by cases hn⟩
    | _ => exact h) fun x hx => qz6 (qx6 (qz7 (pass x hx)))
theorem goto_block {id l : Nat} (h : Q (.goto l) s) : InBlock id Q (.goto l) s := h
theorem goto_then {l : Nat} {K : AS → Prop} (h : Q (.goto l) s) : Then K Q (.goto l) s := h
theorem goto_round {α : Type} {Inv : α → Prop} {I : α → AS} {m : α → Nat} {x : α} {l : Nat} (h : Q (.goto l) s) : Round Inv I m x Q (.goto l) s := h
theorem goto_jump {α : Type} {l : Nat} {Inv : α → Prop} {I : α → AS} {m : α → Nat} {bd : Option Nat} (x : α) (h1 : Inv x) (h2 : Weak s (I x)) (h3 : ∀ n,bd = some n → m x < n) : Jump l Inv I m bd Q (.goto l) s := ⟨rfl,x,h1,h2,h3⟩
theorem weak_stN {l : List (Nat × AV)} {h : List (Nat × (Bool × List AV))} (f : Nat → Nat) (ks : List Nat) (hk : h.map (·.1) = ks) (hd : (ks.map f).Nodup) (hb : (ks.all fun k => decide (k < 4000000) && decide (f k < 4000000)) = true) (hl : HasF s f l) (hh : HasJ s f h)
    (hr : refsT (fun r => (look h r).isSome) l = true) (hrh : refsH (fun r => (look h r).isSome) h = true) : Weak s (st l h) := by
  refine weak_stR f hl hh ?_ (fun p hp => ?_) hr hrh
  · rw [← hk,List.map_map] at hd
    exact hd
  · have h1 := List.all_eq_true.1 hb p.1 (by rw [← hk]; exact List.mem_map.2 ⟨p,hp,rfl⟩)
    simp only [Bool.and_eq_true,decide_eq_true_eq] at h1
    exact .inl h1
end
def fNm (a b : Nat) (q : Nat) : Nat := if q = a then b else q
theorem nodup_len {n : Nat} {l : List Nat} (h : l.Nodup) (hl : ∀ r ∈ l,r < n) : l.length ≤ n := by
  have hp : l.Perm ((List.range n).filter fun r => decide (r ∈ l)) := by
    refine (List.perm_ext_iff_of_nodup h (List.nodup_range.filter _)).2 fun a => ?_
    simp only [List.mem_filter,List.mem_range,decide_eq_true_eq]
    exact ⟨fun h => ⟨hl a h,h⟩,fun h => h.2⟩
  have h1 := hp.length_eq
  have h2 := List.length_filter_le (fun r => decide (r ∈ l)) (List.range n)
  rw [List.length_range] at h2
  omega
end Go.Am
namespace Go.Proofs.YtngfogpbljconaaGreatDoor
variable [Go.Am.CodeBlk]
open Go.Am
attribute [local irreducible] AW Outs Weak Lends Lend Sp aops atree aop1 Then Round InBlock Done
attribute [local irreducible] SpH SpX DoneH DoneX
def bdN (fb : Nat → Nat → Bool) (n : Nat) : List AV := [.i (n : Nat),.rmp false (mkEs (posP fb n n)) (posP fb n n).length]
def notIn (l : List Nat) (p : Nat × Nat) : Bool := !l.contains p.1
def notIn2 (l : List Nat) (row c : Nat) (p : Nat × Nat) : Bool := !l.contains p.1 && !(decide (p.1 = row) && decide (p.2 < c))
def rkS (W : List RWay) (n : Nat) (seen : Array Nat) : List Int := (List.range (n + 1)).map fun k => ((sumW W fun q => if seen.contains q.b then q.v * popIs k q.t else 0 : Nat) : Int)
theorem rkS_none (W : List RWay) (n : Nat) : rkS W n #[] = List.replicate (n + 1) 0 := by
  unfold rkS
  rw [List.eq_replicate_iff]
  refine ⟨by simp,fun b hb => ?_⟩
  obtain ⟨k,_,rfl⟩ := List.mem_map.1 hb
  rw [sumW_none]
  rfl
theorem rkS_get (W : List RWay) (seen : Array Nat) {n k : Nat} (h : k < n + 1) : (rkS W n seen).getD k 0 = ((sumW W fun q => if seen.contains q.b then q.v * popIs k q.t else 0 : Nat) : Int) := by
  unfold rkS
  simp [h]
theorem rkS_set {W : List RWay} {n : Nat} {seen : Array Nat} {p : RWay} (hn : (W.map (·.b)).Nodup) (hp : p ∈ W) (hs : seen.contains p.b = false) (hk : pop16 p.t < n + 1) :
    (rkS W n seen).set (pop16 p.t) ((rkS W n seen).getD (pop16 p.t) 0 + (p.v : Nat)) = rkS W n (seen.push p.b) := by
  apply List.ext_getElem?
  intro j
  rw [List.getElem?_set,rkS_get W seen hk]
  have hl : (rkS W n seen).length = n + 1 := by simp [rkS]
  by_cases e : pop16 p.t = j
  · subst e
    rw [if_pos rfl,if_pos (by omega)]
    simp only [rkS,List.getElem?_map,List.getElem?_range hk,Option.map_some]
    rw [sumW_seen hn hp hs (fun q => q.v * popIs (pop16 p.t) q.t)]
    have : popIs (pop16 p.t) p.t = 1 := if_pos rfl
    rw [this]
    simp
  · rw [if_neg e]
    by_cases hj : j < n + 1
    · simp only [rkS,List.getElem?_map,List.getElem?_range hj,Option.map_some]
      rw [sumW_seen hn hp hs (fun q => q.v * popIs j q.t)]
      have : popIs j p.t = 0 := if_neg e
      rw [this]
      simp
    · simp [rkS,hj]
theorem pop_le {T n : Nat} (hn : n ≤ 16) (hT : T < 2 ^ n) : pop16 T ≤ n := by
  have key : ∀ m,sumN m (fun k => if T.testBit k then 1 else 0) ≤ min m n := by
    intro m
    induction m with
    | zero => simp [sumN]
    | succ m ih =>
      simp only [sumN]
      by_cases hm : m < n
      · split <;> omega
      · have : T.testBit m = false := Nat.testBit_lt_two_pow (Nat.lt_of_lt_of_le hT (Nat.pow_le_pow_right (by decide) (by omega)))
        rw [this]
        simp
        omega
  have := key 16
  unfold pop16
  omega
theorem addC_one (row : Nat → Bool) (T c : Nat) : addC row (fun _ => 1) T c ≤ 1 := by
  unfold addC
  split
  · exact Nat.le_refl _
  · omega
theorem sumW_mul (w : List RWay) (g : RWay → Nat) (k : Nat) : sumW w (fun q => g q * k) = sumW w g * k := by
  induction w with
  | nil => simp [sumW]
  | cons q w ih => rw [qv8,qv8,ih,Nat.add_mul]
theorem wv_le (w : List RWay) (T : Nat) : wv w T ≤ wE w (fun _ => 1) := by
  unfold wv
  cases h : w.find? fun p => p.t == T with
  | none => exact Nat.zero_le _
  | some p =>
    have h3 : p.v * 1 ≤ wE w fun _ => 1 := sumW_le (g := fun q => q.v * 1) (List.mem_of_find?_eq_some h)
    show p.v ≤ _
    omega
theorem zeros_flat (k : Nat) : (List.replicate k (List.map AV.v [Value.int .i64 0])).flatten = (List.replicate k (0 : Int)).map AV.i := by
  induction k with
  | zero => rfl
  | succ k ih => rw [List.replicate_succ,List.flatten_cons,ih]; rfl
structure RkInv (fb : Nat → Nat → Bool) (n : Nat) (l : List Nat) (W : List RWay) (ck : Nat) : Prop where
  nd : l.Nodup
  lt : ∀ r ∈ l,r < n
  ok : WaysOk n ck W
  sum : ∀ g,wE W g = rowsR fb n l g 0
abbrev brd (fb : Nat → Nat → Bool) (n : Nat) : Nat × (Bool × List AV) := (1,(true,bdN fb n))
def rkR (fb : Nat → Nat → Bool) (n : Nat) : AV := .ro true 1 (((List.range (n + 1)).map fun k => ((rkN fb n k : Nat) : Int)).map AV.i) (n + 1)
theorem plArr_old {fb : Nat → Nat → Bool} {n : Nat} {D : Nat × Nat → Bool} : ∀ e ∈ (plArr (lfA fb n D)).toList,e.born < (posP fb n n).length := by
  intro e he
  obtain ⟨q,hq,rfl⟩ := plArr_mem.1 he
  exact (lfA_mem hq).2.2
theorem plArr_keys {fb : Nat → Nat → Bool} {n : Nat} {D : Nat × Nat → Bool} (h8 : n ≤ 8) : ∀ e ∈ (plArr (lfA fb n D)).toList,∃ q,keyOf Tryz.prog 58 e.key = some q := by
  intro e he
  obtain ⟨q,hq,rfl⟩ := plArr_mem.1 he
  have := (lfA_mem hq).1
  exact key_place (quj (by omega) (by omega)) (quj (by omega) (by omega))
theorem m_lfget {own : Bool} {d : Option Nat} {s : AS} {K : AS → Prop} {x i : Opd} {r a b n : Nat} {fb : Nat → Nat → Bool} {D : Nat × Nat → Bool} (h8 : n ≤ 8) (ha : a < n) (hb : b < n) (hx : s.ev x = .mp r) (hr : s.hp r = some (lfObj fb n D)) (hi : exV (s.ev i) = some (keyP a b))
    (k : K (s.put d (.b (fb a b && D (a,b))))) : aop1 Tryz.prog own ⟨d,.mgetk 58 (.bool false) false x i,none⟩ s K := by
  refine m_mgetk place_law (.inl ⟨r,hx,hr⟩) hi (key_place (quj (by omega) (by omega)) (quj (by omega) (by omega))) (plArr_keys h8) ?_ ?_ k
  · intro e he hk
    obtain ⟨q,hq,rfl⟩ := plArr_mem.1 he
    have h1 := plE_key hk
    have h2 := lfA_mem hq
    rw [h1] at h2
    have : (fb a b && D (a,b)) = true := by rw [h2.1.2.2,h2.2.1]; rfl
    rw [this]
    rfl
  · intro hno
    have : (fb a b && D (a,b)) = false := by
      rw [Bool.eq_false_iff]
      intro ht
      simp only [Bool.and_eq_true] at ht
      obtain ⟨q,hq,e⟩ := lfA_has (fb := fb) (n := n) (p := (a,b)) ⟨ha,hb,ht.1⟩ ht.2
      exact hno (plE q) (plArr_mem.2 ⟨q,hq,rfl⟩) (by unfold plE entP; rw [e])
    rw [this]
    rfl
theorem m_lfdel {own : Bool} {d : Option Nat} {s : AS} {K : AS → Prop} {x i : Opd} {r a b n : Nat} {fb : Nat → Nat → Bool} {D : Nat × Nat → Bool} (h8 : n ≤ 8) (ha : a < n) (hb : b < n) (hx : s.ev x = .mp r) (hr : s.hp r = some (lfObj fb n D)) (hi : exV (s.ev i) = some (keyP a b))
    (k : K ((s.mem r (lfObj fb n fun p => D p && !decide (p = (a,b)))).put d (.tup []))) : aop1 Tryz.prog own ⟨d,.mdel 58 x i,none⟩ s K := by
  refine m_mdel place_law hx hr hi (key_place (quj (by omega) (by omega)) (quj (by omega) (by omega))) (plArr_keys h8) (fun j e he hk => ?_) fun hno => ?_
  · obtain ⟨q,hq,rfl⟩ := plArr_get he
    have h1 := plE_key hk
    rw [lfA_erase hq,h1]
    exact k
  · have e : lfA fb n D = lfA fb n fun p => D p && !decide (p = (a,b)) := by
      unfold lfA
      refine List.filter_congr fun q hq => ?_
      by_cases h : D q.1 = true
      · have : q.1 ≠ (a,b) := fun e => hno (plE q) (plArr_mem.2 ⟨q,List.mem_filter.2 ⟨hq,h⟩,rfl⟩) (by unfold plE entP; rw [e])
        simp [this]
      · simp at h; simp [h]
    rw [e]
    exact k
theorem rookNumbers_spec (fb : Nat → Nat → Bool) (n : Nat) (h1 : 1 ≤ n) (h8 : n ≤ 8) : Sp Tryz.prog 50 [.agg (bdN fb n)] (rkR fb n) := by
  refine qy7 Tryz.func50 rfl cc50 rfl ?_
  unfold ac50
  repeat (first|(refine qz0 ?_;(first|(refine qx2 ?_)|(refine m_box rfl ?_ ?_;(· first|rfl|(simp [cellOk,Value.oneCell']; done)))))|refine qz1 ?_|refine qz3 ?_)
  refine AW_scopeL (α := List Nat × List RWay × Nat) 0 (fun x => RkInv fb n x.1 x.2.1 x.2.2)
    (fun x => st [(1,.pt 1 0),(3,.mp 100),(4,.mp 101)] [brd fb n,(100,wObj x.2.1 x.2.2),(101,lfObj fb n (notIn x.1))]) (fun x => n - x.1.length) rfl ?_ ?_
  · rintro ⟨l,W,ck⟩ ⟨hnd,hlt,hok,hsum⟩
    dsimp only at hnd hlt hok hsum ⊢
    repeat (first|(refine qz0 ?_;(refine m_mov (by conv => lhs; whnf) ?_))|refine qz3 ?_|refine qz6 ?_)
    refine qz0 ?_
    refine m_mrg rfl (by decide) rfl fun bm => ?_
    repeat (first|refine qz1 ?_|refine qz8 ?_)
    refine qyf (α := Unit) (fun _ => True) (fun _ => st [(1,.pt 1 0),(3,.mp 100),(4,.mp 101),(20,.mit 20 (some 101) bm #[] 0)] [brd fb n,(100,wObj W ck),(101,lfObj fb n (notIn l)),(20,(true,[.ob (.mapIter (some bm) (posP fb n n).length #[] (posP fb n n).length)]))])
      (fun _ => 0) () trivial (qz9 ?_ ?_ rfl rfl) ?_
    · (repeat' first|exact trivial|refine And.intro ?_ ?_)<;>first|rfl|skip
    · (repeat' first|exact trivial|refine And.intro ?_ ?_)<;>first|rfl|skip
    rintro ⟨⟩ _
    refine qz6 ?_
    refine qy5 ?_
    refine qz0 ?_
    refine m_mnx rfl rfl (by decide) rfl plArr_old (Nat.le_refl _) (fun hall => ?_) (fun e he hs => ?_)
    · have hnone : ∀ r,r < n → r ∉ l → ∀ c,c < n → fb r c = false := by
        intro r hr hrl c hc
        rw [Bool.eq_false_iff]
        intro hf
        obtain ⟨q,hq,e⟩ := lfA_has (fb := fb) (n := n) (D := notIn l) (p := (r,c)) ⟨hr,hc,hf⟩ (by simp [notIn,hrl])
        have := hall (plE q) (plArr_mem.2 ⟨q,hq,rfl⟩)
        simp at this
      have hk : ∀ k,wE W (popIs k) = rkN fb n k := fun k => by rw [hsum,rkN_any (by omega) hnd hlt hnone]
      have hW1 : wE W (fun _ => 1) ≤ 43046721 := by
        have hlen := nodup_len hnd hlt
        rw [hsum]
        refine Nat.le_trans (rowsR_le (b := 1) (fun _ => Nat.le_refl _) l 0) ?_
        rw [Nat.mul_one]
        exact Nat.le_trans (Nat.pow_le_pow_left (by omega : n + 1 ≤ 9) _) (Nat.le_trans (Nat.pow_le_pow_right (by omega) (by omega : l.length ≤ 8)) (by decide))
      have hle : ∀ k,rkN fb n k ≤ 43046721 := fun k => by
        rw [← hk]
        refine Nat.le_trans (sumW_mono fun p _ => Nat.mul_le_mul_left p.v (h := ?_)) hW1
        show popIs k p.t ≤ 1
        unfold popIs; split <;> omega
      repeat (first|(refine qz0 ?_;(first|(refine m_add rfl rfl ?_ ?_ ?_;(· omega);(· omega))|(apply qx8;(· rfl);(· rfl);(· rfl))|(refine m_ext rfl rfl ?_)|(refine m_fa rfl ?_)))|refine qz1 ?_|refine qz3 ?_|(refine qzi rfl ?_ ?_;(· rfl))|refine qz6 ?_|refine qz7 ?_|refine qy1 ?_|refine qy0 ?_|refine qy9 ?_|refine qzg ?_)
      refine qz0 ?_
      refine m_mk (n := n + 1) rfl rfl (by omega) (by omega) ?_
      repeat (first|(refine qz0 ?_;(refine m_mov (by conv => lhs; whnf) ?_))|refine qz1 ?_|refine qz3 ?_|refine qz6 ?_)
      refine qz0 ?_
      refine m_mrg (q := 100) rfl (by decide) rfl fun bm2 => ?_
      repeat (first|refine qz1 ?_|refine qz8 ?_)
      refine qyf (α := Array Nat) (fun _ => True)
        (fun seen => st [(1,.pt 1 0),(11,.sl 65 1 0 (n + 1)),(67,.mit 67 (some 100) bm2 #[] 0)]
          [brd fb n,(65,(true,(rkS W n seen).map AV.i)),(100,wObj W ck),(67,(true,[.ob (.mapIter (some bm2) ck seen ck)]))])
        (fun seen => leftW W seen) #[] trivial (qz9 ?_ ?_ rfl rfl) ?_
      · (repeat' first|exact trivial|refine And.intro ?_ ?_)<;>first|rfl|skip
      · (repeat' first|exact trivial|refine And.intro ?_ ?_)<;>first|rfl|skip
        rw [rkS_none]
        show some (true,(List.replicate (n + 1) (List.map AV.v [Value.int .i64 0])).flatten) = _
        rw [zeros_flat]
      rintro seen _
      refine qz6 ?_
      refine qy5 ?_
      refine qz0 ?_
      refine m_mnx (q := 100) (r := 67) (c0 := ck) rfl rfl (by decide) rfl (fun e he => ?_) (Nat.le_refl _) (fun hall2 => ?_) (fun e he hs => ?_)
      · obtain ⟨p,hp,rfl⟩ := wA_mem.1 he
        exact hok.old p hp
      · have hfin : rkS W n seen = (List.range (n + 1)).map fun k => ((rkN fb n k : Nat) : Int) := by
          refine List.map_congr_left fun k _ => ?_
          rw [← hk]
          congr 1
          refine sumW_congr fun q hq => ?_
          have h3 : seen.contains q.b = true := hall2 q.ent (wA_mem.2 ⟨q,hq,rfl⟩)
          rw [if_pos h3]
        rw [hfin]
        repeat (first|(refine qz0 ?_;(first|(refine m_mov (by conv => lhs; whnf) ?_)|(refine m_ext rfl rfl ?_)))|refine qz1 ?_|refine qz3 ?_|(refine qzi rfl ?_ ?_;(· rfl))|refine qz6 ?_|refine qzj ?_|refine qzc ?_|refine qz7 ?_|refine qy1 ?_|refine qy0 ?_|refine qy9 ?_|refine qzg ?_)
        exact outs_sl rfl (by simp) (qx0 _)
      · obtain ⟨p,hp,rfl⟩ := wA_mem.1 he
        have hpt := hok.lt p hp
        have hpt512 : p.t < 512 := Nat.lt_of_lt_of_le hpt (Nat.pow_le_pow_right (by decide) (by omega : n ≤ 9))
        have hpop : pop16 p.t ≤ n := pop_le (by omega) hpt
        repeat (first|(refine qz0 ?_;(refine m_ext rfl rfl ?_))|refine qz1 ?_|refine qz3 ?_|(refine qzf rfl ?_ ?_;(· rfl))|refine qz5 ?_|refine qz6 ?_|refine qz7 ?_|refine qz8 ?_)
        refine qz0 ?_
        refine m_ment (q := 100) (r := 67) (e := p.ent) (ka := .u p.t) (va := .i (p.v : Nat)) rfl rfl (by decide) rfl he (wA_born hok.born) rfl rfl ?_
        repeat (first|(refine qz0 ?_;(first|(refine m_mov (by conv => lhs; whnf) ?_)|(refine m_ext rfl rfl ?_)))|refine qz1 ?_|refine qy5 ?_)
        (refine qz0 ?_);(apply qza (sizeP_spec p.t hpt512));(· repeat (first|exact qz4|(refine qz2 ?_ ?_;(· exact qzd))))
        have hgd : (rkS W n seen).getD (pop16 p.t) 0 = ((sumW W fun q => if seen.contains q.b then q.v * popIs (pop16 p.t) q.t else 0 : Nat) : Int) := rkS_get W seen (by omega)
        have hb1 : (sumW W fun q => if seen.contains q.b then q.v * popIs (pop16 p.t) q.t else 0) ≤ 43046721 := by
          refine Nat.le_trans (sumW_mono fun q _ => ?_) hW1
          show _ ≤ q.v * 1
          split
          · exact Nat.mul_le_mul_left _ (by unfold popIs; split <;> omega)
          · omega
        have hb2 : p.v ≤ 43046721 := by
          have h3 : p.v * 1 ≤ wE W fun _ => 1 := sumW_le (g := fun q => q.v * 1) hp
          omega
        have hbs := leftW_lt hp hs
        have hrl : (rkS W n seen).length = n + 1 := by simp [rkS]
        have hb3 : 0 ≤ (rkS W n seen).getD (pop16 p.t) 0 ∧ (rkS W n seen).getD (pop16 p.t) 0 ≤ 43046721 := by rw [hgd]; omega
        repeat (first|(refine qz0 ?_;(first|(refine m_mov (by conv => lhs; whnf) ?_)|(refine m_add rfl rfl ?_ ?_ ?_;(· omega);(· omega))|(refine qxf rfl rfl ?_ ?_;(· omega))|(refine qu0 rfl (by rfl) ?_ ?_;(· first|omega|(simp; omega)))|(apply m_st;(· rfl);(· rfl);(· rfl);(· first|omega|(simp; done)|(simp; omega));(· rfl))))|refine qz1 ?_|refine qze ?_)
        refine qzb (seen.push p.b) trivial (qz9 ?_ ?_ rfl rfl) hbs
        · (repeat' first|exact trivial|refine And.intro ?_ ?_)<;>first|rfl|skip
        · (repeat' first|exact trivial|refine And.intro ?_ ?_)<;>first|rfl|skip
          rw [← rkS_set hok.born hp hs (by omega),List.map_set]
          rfl
    · obtain ⟨q,hq,rfl⟩ := plArr_mem.1 he
      obtain ⟨⟨hr,hc,hf⟩,hD,_⟩ := lfA_mem hq
      obtain ⟨⟨row,col⟩,stamp⟩ := q
      dsimp only at hr hc hf
      repeat (first|(refine qz0 ?_;(refine m_ext rfl rfl ?_))|refine qz1 ?_|refine qz3 ?_|(refine qzf rfl ?_ ?_;(· rfl))|refine qz5 ?_|refine qz6 ?_|refine qz7 ?_|refine qz8 ?_)
      refine qz0 ?_
      refine m_ment (e := plE ((row,col),stamp)) (ka := .agg [.i (row : Nat),.i (col : Nat)]) (va := .b true) rfl rfl (by decide) rfl he (lfA_born fb n _) rfl rfl ?_
      repeat (first|(refine qz0 ?_;(first|(refine m_mov (by conv => lhs; whnf) ?_)|(refine m_ext rfl rfl ?_)|(refine qxb ?_)|(refine qx9 rfl rfl rfl ?_ ?_ ?_ ?_;(· first|rfl|(simp [*]; done));(· first|rfl|(simp [*]; done));(· first|rfl|(simp [cellOk,Value.oneCell']; done)))))|refine qz1 ?_|refine qz3 ?_)
      refine qz0 ?_
      refine m_clone 102 (cloneWays_spec (wA W) ck) (.inl ⟨100,rfl,rfl⟩) rfl (by decide) ?_
      repeat (first|(refine qz0 ?_;(first|(refine m_mov (by conv => lhs; whnf) ?_)|(apply qx8;(· rfl);(· rfl);(· rfl))|(refine m_fa rfl ?_)))|refine qz1 ?_|refine qz3 ?_|refine qz6 ?_|refine qz8 ?_)
      have hrl' : row ∉ l := by
        have : (l.contains row) = false := by simpa [notIn] using hD
        simpa using this
      have hlen := nodup_len hnd hlt
      have hW1 : wE W (fun _ => 1) ≤ 43046721 := by
        rw [hsum]
        refine Nat.le_trans (rowsR_le (b := 1) (fun _ => Nat.le_refl _) l 0) ?_
        rw [Nat.mul_one]
        exact Nat.le_trans (Nat.pow_le_pow_left (by omega : n + 1 ≤ 9) _) (Nat.le_trans (Nat.pow_le_pow_right (by omega) (by omega : l.length ≤ 8)) (by decide))
      refine qyf (α := Nat × List RWay × Nat) (fun x => x.1 ≤ n ∧ WaysOk n x.2.2 x.2.1 ∧ ∀ g,wE x.2.1 g = sumW W fun q => q.v * (g q.t + sumN x.1 (addC (fb row) g q.t)))
        (fun x => st [(1,.pt 1 0),(3,.mp 100),(4,.mp 101),(5,.pt 5 0),(6,.mp 102),(28,.i (n : Nat)),(29,.i (x.1 : Nat))]
          [brd fb n,(5,(true,[.i (row : Nat),.i (col : Nat)])),(100,wObj W ck),(101,lfObj fb n (notIn2 l row x.1)),(102,wObj x.2.1 x.2.2)])
        (fun x => n - x.1) (0,W,ck) ⟨Nat.zero_le _,hok,fun g => rfl⟩ (qz9 ?_ ?_ rfl rfl) ?_
      · (repeat' first|exact trivial|refine And.intro ?_ ?_)<;>first|rfl|skip
      · (repeat' first|exact trivial|refine And.intro ?_ ?_)<;>first|rfl|skip
        show some (lfObj fb n (notIn l)) = some (lfObj fb n (notIn2 l row 0))
        congr 4
        funext p
        simp [notIn,notIn2]
      rintro ⟨c,L,ck2⟩ ⟨hcn,hokL,hsumL⟩
      dsimp only at hcn hokL hsumL ⊢
      by_cases hc8 : c < n
      · repeat (first|(refine qz0 ?_;(first|(refine m_mov (by conv => lhs; whnf) ?_)|(refine m_lss rfl rfl ?_)|(apply qx8;(· rfl);(· rfl);(· rfl))|(refine qxb ?_)|(refine m_fa rfl ?_)|(refine m_bld_2 (by conv => lhs; whnf) (by conv => lhs; whnf) (by decide)  (by decide) (by rfl) (by rfl) ?_)|(refine qv7 rfl rfl ?_ ?_;(· first|rfl|(simp; done)|(simp [*]; done)))|(refine qx9 rfl rfl rfl ?_ ?_ ?_ ?_;(· first|rfl|(simp [*]; done));(· first|rfl|(simp [*]; done));(· first|rfl|(simp [cellOk,Value.oneCell']; done)))))|refine qz1 ?_|refine qz3 ?_|(refine qzf rfl ?_ ?_;(· (refine decide_eq_true ?_; omega)))|refine qz5 ?_|refine qz6 ?_|refine qz8 ?_)
        refine qz0 ?_
        refine m_lfget (a := row) (b := c) h8 hr hc8 rfl rfl rfl ?_
        have hD2 : notIn2 l row c (row,c) = true := by simp [notIn2,hrl']
        rw [hD2,Bool.and_true]
        have hlf : lfA fb n (fun p => notIn2 l row c p && !decide (p = (row,c))) = lfA fb n (notIn2 l row (c + 1)) := by
          congr 1
          funext p
          obtain ⟨i,j⟩ := p
          simp only [notIn2,Prod.mk.injEq]
          by_cases e1 : i = row
          · by_cases e2 : j = c
            · simp [e1,e2]
            · have : decide (j < c + 1) = decide (j < c) := decide_eq_decide.2 (by omega)
              simp [e1,e2,this]
          · simp [e1]
        by_cases hf2 : fb row c = true
        · repeat (first|(refine qz0 ?_;(first|(refine m_mov (by conv => lhs; whnf) ?_)|(refine m_not rfl ?_)|(refine qv7 rfl rfl ?_ ?_;(· first|rfl|(simp; done)|(simp [*]; done)))))|refine qz1 ?_|refine qz3 ?_|(refine qzi rfl ?_ ?_;(· (simp [*]; done)))|refine qz5 ?_)
          refine qz0 ?_
          refine m_lfdel (a := row) (b := c) h8 hr hc8 rfl rfl rfl ?_
          repeat (first|(refine qz0 ?_;(refine m_mov (by conv => lhs; whnf) ?_))|refine qz1 ?_|refine qz3 ?_)
          refine qz0 ?_
          refine m_mrg (q := 100) rfl (by decide) rfl fun bm3 => ?_
          repeat (first|refine qz1 ?_|refine qz8 ?_)
          refine qyf (α := List RWay × Nat × Array Nat) (fun x => WaysOk n x.2.1 x.1 ∧ ∀ g,wE x.1 g = wE L g + sumW W fun q => if x.2.2.contains q.b then q.v * addC (fb row) g q.t c else 0)
            (fun x => st [(1,.pt 1 0),(3,.mp 100),(4,.mp 101),(5,.pt 5 0),(6,.mp 102),(7,.i (c : Nat)),(28,.i (n : Nat)),(29,.i (c : Nat)),(43,.mit 43 (some 100) bm3 #[] 0)]
              [brd fb n,(5,(true,[.i (row : Nat),.i (col : Nat)])),(43,(true,[.ob (.mapIter (some bm3) ck x.2.2 ck)])),(100,wObj W ck),(101,lfObj fb n (notIn2 l row (c + 1))),(102,wObj x.1 x.2.1)])
            (fun x => leftW W x.2.2) (L,ck2,#[]) ⟨hokL,fun g => by rw [sumW_none]; rfl⟩ (qz9 ?_ ?_ rfl rfl) ?_
          · (repeat' first|exact trivial|refine And.intro ?_ ?_)<;>first|rfl|skip
          · (repeat' first|exact trivial|refine And.intro ?_ ?_)<;>first|rfl|skip
            show some (true,[AV.ob (.map (plArr _) _)]) = _
            rw [hlf]
          rintro ⟨M,ck3,seen⟩ ⟨hokM,hsumM⟩
          dsimp only at hokM hsumM ⊢
          refine qz6 ?_
          refine qy5 ?_
          refine qz0 ?_
          refine m_mnx (q := 100) (r := 43) (c0 := ck) rfl rfl (by decide) rfl (fun e he => ?_) (Nat.le_refl _) (fun hall2 => ?_) (fun e he hs => ?_)
          · obtain ⟨p,hp,rfl⟩ := wA_mem.1 he
            exact hok.old p hp
          · repeat (first|(refine qz0 ?_;(first|(refine m_mov (by conv => lhs; whnf) ?_)|(refine m_add rfl rfl ?_ ?_ ?_;(· omega);(· omega))|(refine m_ext rfl rfl ?_)))|refine qz1 ?_|refine qy5 ?_|(refine qzi rfl ?_ ?_;(· rfl))|refine qz6 ?_|refine qz7 ?_|refine qy1 ?_|refine qze ?_|refine qy0 ?_|refine qy9 ?_|refine qzg ?_)
            refine qzb (c + 1,M,ck3) ⟨by omega,hokM,fun g => ?_⟩ (qz9 ?_ ?_ rfl rfl) (by show n - (c + 1) < n - c; omega)
            · rw [hsumM,hsumL,← sumW_add]
              refine sumW_congr fun q hq => ?_
              have h3 : seen.contains q.b = true := hall2 q.ent (wA_mem.2 ⟨q,hq,rfl⟩)
              rw [if_pos h3,← Nat.mul_add,sumN,Nat.add_assoc]
            · (repeat' first|exact trivial|refine And.intro ?_ ?_)<;>first|rfl|skip
            · (repeat' first|exact trivial|refine And.intro ?_ ?_)<;>first|rfl|skip
          · obtain ⟨p,hp,rfl⟩ := wA_mem.1 he
            have hpt := hok.lt p hp
            have hpt16 : p.t < 65536 := Nat.lt_of_lt_of_le hpt (Nat.pow_le_pow_right (by decide) (by omega : n ≤ 16))
            have hb2 : p.v ≤ 43046721 := by
              have h3 : p.v * 1 ≤ wE W fun _ => 1 := sumW_le (g := fun q => q.v * 1) hp
              omega
            repeat (first|(refine qz0 ?_;(refine m_ext rfl rfl ?_))|refine qz1 ?_|refine qz3 ?_|(refine qzf rfl ?_ ?_;(· rfl))|refine qz5 ?_|refine qz6 ?_|refine qz7 ?_|refine qz8 ?_)
            refine qz0 ?_
            refine m_ment (q := 100) (r := 43) (e := p.ent) (ka := .u p.t) (va := .i (p.v : Nat)) rfl rfl (by decide) rfl he (wA_born hok.born) rfl rfl ?_
            repeat (first|(refine qz0 ?_;(first|(refine m_mov (by conv => lhs; whnf) ?_)|(refine m_ext rfl rfl ?_)))|refine qz1 ?_|refine qz3 ?_)
            (refine qz0 ?_);(apply qza (setHas_spec p.t c hpt16 (by omega)));(· repeat (first|exact qz4|(refine qz2 ?_ ?_;(· exact qzd))))
            by_cases hbit : p.t.testBit c = true
            · repeat (first|(refine qz0 ?_;(refine m_not rfl ?_))|refine qz1 ?_|(refine qzi rfl ?_ ?_;(· (simp [*]; done)))|refine qze ?_|refine qx6 ?_)
              refine qzb (M,ck3,seen.push p.b) ⟨hokM,fun g => ?_⟩ (qz9 ?_ ?_ rfl rfl) (leftW_lt hp hs)
              · rw [hsumM,sumW_seen hok.born hp hs (fun q => q.v * addC (fb row) g q.t c)]
                have : addC (fb row) g p.t c = 0 := by simp [addC,hbit]
                rw [this]
                omega
              · (repeat' first|exact trivial|refine And.intro ?_ ?_)<;>first|rfl|skip
              · (repeat' first|exact trivial|refine And.intro ?_ ?_)<;>first|rfl|skip
            · have hbit : p.t.testBit c = false := by simpa using hbit
              have hT := insC_lt hpt hc8
              have hb4 : wv M (insC p.t c) ≤ 1000000000 := by
                have hM1 : wE M (fun _ => 1) ≤ 1000000000 := by
                  rw [hsumM,hsumL,← sumW_add]
                  refine Nat.le_trans (sumW_mono (h := fun q => q.v * 1 * 20) fun q _ => ?_) ?_
                  · have h5 : sumN c (addC (fb row) (fun _ => 1) q.t) ≤ c * 1 := by
                      rw [← qv1]
                      exact quf fun k _ => addC_one _ _ _
                    have h6 : addC (fb row) (fun _ => 1) q.t c ≤ 1 := addC_one _ _ _
                    have h7 : q.v * (1 + sumN c (addC (fb row) (fun _ => 1) q.t)) ≤ q.v * 9 := Nat.mul_le_mul_left _ (by omega)
                    have h8 : (if seen.contains q.b then q.v * addC (fb row) (fun _ => 1) q.t c else 0) ≤ q.v * 1 := by
                      split
                      · exact Nat.mul_le_mul_left _ h6
                      · omega
                    omega
                  · rw [sumW_mul W (fun q => q.v * 1) 20]
                    show wE W (fun _ => 1) * 20 ≤ _
                    omega
                exact Nat.le_trans (wv_le M _) hM1
              repeat (first|(refine qz0 ?_;(first|(refine m_mov (by conv => lhs; whnf) ?_)|(refine m_not rfl ?_)))|refine qz1 ?_|refine qy5 ?_|(refine qzf rfl ?_ ?_;(· (simp [*]; done))))
              (refine qz0 ?_);(apply qza (setWith_spec p.t c hpt16 (by omega)));(· repeat (first|exact qz4|(refine qz2 ?_ ?_;(· exact qzd))))
              refine qz0 ?_
              refine m_wget (T := insC p.t c) hokM rfl rfl rfl ?_
              repeat (refine qz0 ?_;(first|(refine m_mov (by conv => lhs; whnf) ?_)|(refine m_add rfl rfl ?_ ?_ ?_;(· omega);(· omega))))
              refine qz0 ?_
              refine m_wput (r := 102) (T := insC p.t c) (m := p.v) hokM hT rfl rfl rfl ?_ fun M' ck4 hokM' hsumM' => ?_
              · show AV.i _ = AV.i _
                push_cast
                rfl
              repeat (first|refine qz1 ?_|refine qze ?_)
              refine qzb (M',ck4,seen.push p.b) ⟨hokM',fun g => ?_⟩ (qz9 ?_ ?_ rfl rfl) (leftW_lt hp hs)
              · rw [hsumM',hsumM,sumW_seen hok.born hp hs (fun q => q.v * addC (fb row) g q.t c)]
                have : addC (fb row) g p.t c = g (insC p.t c) := by simp [addC,hbit,hf2]
                rw [this]
                omega
              · (repeat' first|exact trivial|refine And.intro ?_ ?_)<;>first|rfl|skip
              · (repeat' first|exact trivial|refine And.intro ?_ ?_)<;>first|rfl|skip
        · have hf2 : fb row c = false := by simpa using hf2
          repeat (first|(refine qz0 ?_;(first|(refine m_mov (by conv => lhs; whnf) ?_)|(refine m_add rfl rfl ?_ ?_ ?_;(· omega);(· omega))|(refine m_not rfl ?_)))|refine qz1 ?_|refine qy5 ?_|(refine qzf rfl ?_ ?_;(· (simp [*]; done)))|refine qz7 ?_|refine qy1 ?_|refine qy9 ?_|refine qzg ?_)
          refine qzb (c + 1,L,ck2) ⟨by omega,hokL,fun g => ?_⟩ (qz9 ?_ ?_ rfl rfl) (by show n - (c + 1) < n - c; omega)
          · rw [hsumL]
            refine sumW_congr fun q _ => ?_
            have : addC (fb row) g q.t c = 0 := by simp [addC,hf2]
            rw [sumN,this]
            rfl
          · (repeat' first|exact trivial|refine And.intro ?_ ?_)<;>first|rfl|skip
          · (repeat' first|exact trivial|refine And.intro ?_ ?_)<;>first|rfl|skip
            show some (lfObj fb n (notIn2 l row c)) = some (lfObj fb n (notIn2 l row (c + 1)))
            unfold lfObj
            rw [lfA_congr (E := notIn2 l row (c + 1))]
            rintro ⟨i,j⟩ _ _ hff
            simp only [notIn2]
            by_cases e1 : i = row
            · by_cases e2 : j = c
              · subst e1 e2
                rw [hf2] at hff
                cases hff
              · have : decide (j < c + 1) = decide (j < c) := decide_eq_decide.2 (by omega)
                simp [e1,this]
            · simp [e1]
      · have hce : c = n := by omega
        subst hce
        repeat (first|(refine qz0 ?_;(first|(refine m_mov (by conv => lhs; whnf) ?_)|(refine m_lss rfl rfl ?_)))|refine qz1 ?_|refine qz3 ?_|(refine qzi rfl ?_ ?_;(· (refine decide_eq_false ?_; omega)))|refine qz6 ?_|refine qz7 ?_|refine qy1 ?_|refine qy0 ?_|refine qy9 ?_|refine qzg ?_)
        refine AW_goto ?_
        have hnd' : (l ++ [row]).Nodup := by
          rw [List.nodup_append]
          exact ⟨hnd,by simp,fun a ha b hb e => hrl' (by simp at hb; rw [← hb,← e]; exact ha)⟩
        have hlt' : ∀ r ∈ l ++ [row],r < c := fun r hr' => by
          rcases List.mem_append.1 hr' with h|h
          · exact hlt r h
          · simp at h; omega
        have hlen' := nodup_len hnd' hlt'
        have hinv : RkInv fb c (l ++ [row]) L ck2 := ⟨hnd',hlt',hokL,fun g => by
          rw [rowsR_snoc,← hsum,hsumL]
          rfl⟩
        refine goto_block (goto_round (goto_block (goto_then ?_)))
        refine goto_jump (l ++ [row],L,ck2) hinv (weak_stN (fNm 100 102) [1,100,101] rfl (by decide) (by decide) ?_ ?_ rfl rfl) ?_
        · (repeat' first|exact trivial|refine And.intro ?_ ?_)<;>first|rfl|skip
        · (repeat' first|exact trivial|refine And.intro ?_ ?_)<;>first|rfl|skip
          show some (lfObj fb c (notIn2 l row c)) = some (lfObj fb c (notIn (l ++ [row])))
          unfold lfObj
          rw [lfA_congr (E := notIn (l ++ [row]))]
          rintro ⟨i,j⟩ _ hj _
          dsimp only at hj
          simp only [notIn2,notIn,List.contains_append,Bool.not_or]
          congr 1
          by_cases e1 : i = row
          · simp [e1,hj]
          · simp [e1]
        · intro m hm
          cases hm
          show c - (l ++ [row]).length < c - l.length
          rw [List.length_append,List.length_singleton] at hlen' ⊢
          omega
  · intro pass
    repeat (first|(refine qz0 ?_;(refine m_mmk ?_))|refine qz3 ?_)
    refine qz0 ?_
    refine m_mput rfl rfl rfl rfl (by simp) (by simp) fun _ => ?_
    repeat (first|(refine qz0 ?_;(first|(refine m_mov (by conv => lhs; whnf) ?_)|(apply qx8;(· rfl);(· rfl);(· rfl))|(refine m_fa rfl ?_)))|refine qz1 ?_|refine qz3 ?_)
    refine qz0 ?_
    refine m_clone 101 (clonePlaces_spec (mkEs (posP fb n n)) (posP fb n n).length) (.inr ⟨false,rfl⟩) rfl (by decide) ?_
    repeat (first|(refine qz0 ?_;(refine m_mov (by conv => lhs; whnf) ?_))|refine qz1 ?_|refine qz6 ?_)
    refine AW_label ?_
    refine qz7 ?_
    refine qxe (weak_stN (fNm 100 14) [1,100,101] rfl (by decide) (by decide) ?_ ?_ rfl rfl) (pass ([],[⟨0,1,0⟩],1) ⟨by simp,by simp,ways_one n,fun g => by simp [wE,sumW,rowsR]⟩)
    · (repeat' first|exact trivial|refine And.intro ?_ ?_)<;>first|rfl|skip
    · (repeat' first|exact trivial|refine And.intro ?_ ?_)<;>first|rfl|skip
      show some (true,[AV.ob (.map (mkEs (posP fb n n)) _)]) = some (lfObj fb n (notIn []))
      rw [← lfA_all]
      rfl
end Go.Proofs.YtngfogpbljconaaGreatDoor
namespace Go.Am
variable [Go.Am.CodeBlk]
variable {P : Program} {own : Bool} {s : AS} {K : AS → Prop} {d : Option Nat} {x y : Opd} {a k : Nat}
theorem m_shri (hx : s.ev x = .i (a : Nat)) (hy : s.ev y = .i (k : Nat)) (hk : k < 64) (kk : K (s.put d (.i (a >>> k : Nat)))) : aop1 P own ⟨d,.bin .shr x y,none⟩ s K := by
  refine ⟨_,_,_,hx,hy,?_,kk⟩
  have h1 : ¬ ((k : Nat) : Int) < 0 := by omega
  have h2 : min ((k : Nat) : Int).toNat IntKind.i64.bits = k := by show min _ 64 = k; omega
  show (if ((k : Nat) : Int) < 0 then none else some (Value.int .i64 ((a : Int).fdiv (2 ^ (min ((k : Nat) : Int).toNat IntKind.i64.bits))))) = _
  rw [if_neg h1,h2,Nat.shiftRight_eq_div_pow]
  congr 2
  rw [Int.fdiv_eq_ediv_of_nonneg _ (by exact Int.le_of_lt (Int.pow_pos (by decide)))]
  push_cast
  rfl
theorem m_shli (hx : s.ev x = .i 1) (hy : s.ev y = .i (k : Nat)) (hk : k < 62) (kk : K (s.put d (.i (2 ^ k : Nat)))) : aop1 P own ⟨d,.bin .shl x y,none⟩ s K := by
  refine ⟨_,_,_,hx,hy,?_,kk⟩
  have h1 : ¬ ((k : Nat) : Int) < 0 := by omega
  have h2 : min ((k : Nat) : Int).toNat IntKind.i64.bits = k := by show min _ 64 = k; omega
  show (if ((k : Nat) : Int) < 0 then none else some (Value.int .i64 (IntKind.i64.wrap ((1 : Int) * 2 ^ (min ((k : Nat) : Int).toNat IntKind.i64.bits))))) = _
  rw [if_neg h1,h2]
  congr 2
  have h3 : 2 ^ k < 2 ^ 62 := Nat.pow_lt_pow_right (by decide) hk
  have h62 : (2 : Nat) ^ 62 = 4611686018427387904 := by decide
  have h4 : ((1 : Int) * (2 : Int) ^ k) = ((2 ^ k : Nat) : Int) := by rw [Int.one_mul]; push_cast; rfl
  rw [h4,IntKind.wrap_i64]
  generalize 2 ^ k = z at *
  omega
theorem m_andi1 (hx : s.ev x = .i (a : Nat)) (hy : s.ev y = .i 1) (ha : a < 4611686018427387904) (kk : K (s.put d (.i (a &&& 1 : Nat)))) : aop1 P own ⟨d,.bin .and x y,none⟩ s K := by
  refine ⟨_,_,_,hx,hy,?_,kk⟩
  show some (Value.int .i64 (IntKind.i64.wrap ((BitVec.ofInt IntKind.i64.bits (a : Int) &&& BitVec.ofInt IntKind.i64.bits 1).toNat : Int))) = _
  have h1 : (BitVec.ofInt IntKind.i64.bits (a : Int)).toNat = a := by
    show (BitVec.ofInt 64 (a : Int)).toNat = a
    rw [BitVec.ofInt_natCast,BitVec.toNat_ofNat]
    omega
  have h2 : (BitVec.ofInt IntKind.i64.bits 1).toNat = 1 := by decide
  have h3 : a &&& 1 ≤ 1 := Nat.and_le_right
  have h5 : IntKind.i64.wrap ((a &&& 1 : Nat) : Int) = ((a &&& 1 : Nat) : Int) := by
    rw [IntKind.wrap_i64]
    generalize a &&& 1 = z at *
    omega
  rw [BitVec.toNat_and,h1,h2,h5]
end Go.Am
namespace Go.Am
variable [Go.Am.CodeBlk]
theorem m_ori {P : Program} {own : Bool} {s : AS} {K : AS → Prop} {d : Option Nat} {x y : Opd} {a b z : Nat} (hx : s.ev x = .i (a : Nat)) (hy : s.ev y = .i (b : Nat)) (ha : a < 65536) (hb : b < 65536) (hz : a ||| b = z) (kk : K (s.put d (.i (z : Nat)))) : aop1 P own ⟨d,.bin .or x y,none⟩ s K := by
  subst hz
  refine ⟨_,_,_,hx,hy,?_,kk⟩
  show some (Value.int .i64 (IntKind.i64.wrap ((BitVec.ofInt IntKind.i64.bits (a : Int) ||| BitVec.ofInt IntKind.i64.bits (b : Int)).toNat : Int))) = _
  have h1 : ∀ {c : Nat},c < 65536 → (BitVec.ofInt IntKind.i64.bits (c : Int)).toNat = c := by
    intro c hc
    show (BitVec.ofInt 64 (c : Int)).toNat = c
    rw [BitVec.ofInt_natCast,BitVec.toNat_ofNat]
    omega
  have h3 := or16_lt ha hb
  have h5 : IntKind.i64.wrap ((a ||| b : Nat) : Int) = ((a ||| b : Nat) : Int) := by
    rw [IntKind.wrap_i64]
    generalize a ||| b = z at *
    omega
  rw [BitVec.toNat_or,h1 ha,h1 hb,h5]
theorem m_andz {P : Program} {own : Bool} {s : AS} {K : AS → Prop} {d : Option Nat} {x y : Opd} {a z : Nat} (hx : s.ev x = .i (a : Nat)) (hy : s.ev y = .i 1) (ha : a < 4611686018427387904) (hz : a &&& 1 = z) (kk : K (s.put d (.i (z : Nat)))) : aop1 P own ⟨d,.bin .and x y,none⟩ s K := by
  subst hz
  exact m_andi1 hx hy ha kk
theorem m_shlz {P : Program} {own : Bool} {s : AS} {K : AS → Prop} {d : Option Nat} {x y : Opd} {k z : Nat} (hx : s.ev x = .i 1) (hy : s.ev y = .i (k : Nat)) (hk : k < 62) (hz : 2 ^ k = z) (kk : K (s.put d (.i (z : Nat)))) : aop1 P own ⟨d,.bin .shl x y,none⟩ s K := by
  subst hz
  exact m_shli hx hy hk kk
theorem bitz {a k : Nat} (h : a.testBit k = false) : (a >>> k) &&& 1 = 0 := by
  have := bit_and a k
  have h1 : (a >>> k) &&& 1 ≤ 1 := Nat.and_le_right
  rw [h] at this
  have := of_decide_eq_false this
  omega
theorem bit1 {a k : Nat} (h : a.testBit k = true) : (a >>> k) &&& 1 = 1 := by
  have := bit_and a k
  rw [h] at this
  exact of_decide_eq_true this
def rgL (n : Nat) (f : Nat → Nat) : List Int := (List.range (n + 1)).map fun k => ((f k : Nat) : Int)
theorem qvj (n : Nat) (f : Nat → Nat) : (rgL n f).length = n + 1 := by simp [rgL]
theorem qva {n k : Nat} (f : Nat → Nat) (h : k < n + 1) : (rgL n f).getD k 0 = (f k : Int) := by simp [rgL,h]
theorem qu3 {n : Nat} {f g : Nat → Nat} (h : ∀ k,k < n + 1 → f k = g k) : rgL n f = rgL n g := by
  refine List.map_congr_left fun k hk => ?_
  rw [h k (List.mem_range.1 hk)]
theorem rgL_set {n k : Nat} {f : Nat → Nat} (m : Nat) (h : k < n + 1) : (rgL n f).set k ((rgL n f).getD k 0 + (m : Nat)) = rgL n fun j => f j + if j = k then m else 0 := by
  apply List.ext_getElem?
  intro j
  rw [List.getElem?_set,qva f h,qvj]
  by_cases e : k = j
  · subst e
    simp [rgL,h]
  · rw [if_neg e]
    by_cases hj : j < n + 1
    · have : ¬ j = k := fun e2 => e e2.symm
      simp [rgL,hj,this]
    · simp [rgL,hj]
theorem rgL_zero (n : Nat) : List.replicate (n + 1) 0 = rgL n fun _ => 0 := by
  unfold rgL
  symm
  rw [List.eq_replicate_iff]
  refine ⟨by simp,fun b hb => ?_⟩
  obtain ⟨k,_,rfl⟩ := List.mem_map.1 hb
  rfl
theorem zerosL (n : Nat) : (List.replicate (n + 1) (List.map AV.v [Value.int .i64 0])).flatten = (rgL n fun _ => 0).map AV.i := by
  rw [← rgL_zero]
  generalize n + 1 = k
  induction k with
  | zero => rfl
  | succ k ih => rw [List.replicate_succ,List.flatten_cons,ih]; rfl
theorem m_mk0 {P : Program} {own : Bool} {s : AS} {K : AS → Prop} {x y : Opd} {r bs n : Nat} (hx : s.ev x = .i ((n + 1 : Nat) : Int)) (hy : s.ev y = .i ((n + 1 : Nat) : Int)) (h1 : (bs : Int) * ((n + 1 : Nat) : Int) ≤ 281474976710656) (h2 : ((n + 1 : Nat) : Int) ≤ 9223372036854775807)
    (k : K (((s.kill r).mem r (true,(rgL n fun _ => 0).map AV.i)).put (some r) (.sl r 1 0 (n + 1)))) : aop1 P own ⟨some r,.mk 1 bs [.int .i64 0] x y,none⟩ s K := by
  refine m_mk hx hy h1 h2 ?_
  rw [zerosL]
  exact k
theorem sumN_le' {f : Nat → Nat} {b n : Nat} (h : ∀ c,c < n → f c ≤ b) : sumN n f ≤ n * b := by
  rw [← qv1]
  exact quf h
end Go.Am
namespace Go.Proofs.YtngfogpbljconaaGreatDoor
variable [Go.Am.CodeBlk]
open Go.Am
attribute [local irreducible] AW Outs Weak Lends Lend Sp aops atree aop1 Then Round InBlock Done
attribute [local irreducible] SpH SpX DoneH DoneX
def rgR (n : Nat) (f : Nat → Nat) : AV := .ro true 1 ((rgL n f).map AV.i) (n + 1)
def rkT (B : List UInt8) (m S k j : Nat) : Nat := if fbB B (sdB B - (m + 1)) j && !S.testBit j then (match k with|0 => 0|q + 1 => rkG (fbB B) (sdB B) m (insC S j) q) else 0
theorem qug {B : List UInt8} (h : GoodBd B) {m : Nat} (hm : m ≤ 8) (S k : Nat) : rkG (fbB B) (sdB B) m S k ≤ 43046721 := by
  have hsd := qx5 h
  exact Nat.le_trans (rkG_le m S k) (Nat.le_trans (Nat.pow_le_pow_left (by omega : sdB B + 1 ≤ 9) _) (Nat.le_trans (Nat.pow_le_pow_right (by omega) hm) (by decide)))
theorem rkT_le9 {B : List UInt8} (h : GoodBd B) {m : Nat} (hm : m ≤ 8) (S k j : Nat) : rkT B m S k j ≤ 43046721 := by
  unfold rkT
  split
  · cases k with
    | zero => exact Nat.zero_le _
    | succ q => exact qug h hm _ q
  · omega
def rkQ (B : List UInt8) (m S j q k : Nat) : Nat := rkG (fbB B) (sdB B) m S k + sumN j (rkT B m S k) + if 1 ≤ k ∧ k ≤ q then rkG (fbB B) (sdB B) m (insC S j) (k - 1) else 0
theorem rkQ_0 (B : List UInt8) (m S j : Nat) : rgL (sdB B) (rkQ B m S j 0) = rgL (sdB B) fun k => rkG (fbB B) (sdB B) m S k + sumN j (rkT B m S k) :=
  qu3 fun k _ => by rw [rkQ,if_neg (by omega),Nat.add_zero]
theorem rkQ_skip {B : List UInt8} {m S j q : Nat} (h : rkG (fbB B) (sdB B) m (insC S j) q = 0) : rgL (sdB B) (rkQ B m S j q) = rgL (sdB B) (rkQ B m S j (q + 1)) :=
  qu3 fun k _ => by
    unfold rkQ
    by_cases e : k = q + 1
    · subst e
      rw [if_neg (by omega),if_pos (by omega),Nat.add_sub_cancel,h]
    · by_cases h1 : 1 ≤ k ∧ k ≤ q
      · rw [if_pos h1,if_pos (by omega)]
      · rw [if_neg h1,if_neg (by omega)]
theorem rkQ_step (B : List UInt8) (m S j q k : Nat) : rkQ B m S j q k + (if k = q + 1 then rkG (fbB B) (sdB B) m (insC S j) q else 0) = rkQ B m S j (q + 1) k := by
  unfold rkQ
  by_cases e : k = q + 1
  · subst e
    rw [if_neg (by omega),if_pos rfl,if_pos (by omega),Nat.add_sub_cancel]
    omega
  · rw [if_neg e]
    by_cases h1 : 1 ≤ k ∧ k ≤ q
    · rw [if_pos h1,if_pos (by omega)]; rfl
    · rw [if_neg h1,if_neg (by omega)]
theorem rkQ_end {B : List UInt8} {m S j row : Nat} (hr : sdB B - (m + 1) = row) (hf : fbB B row j = true) (hb : S.testBit j = false) : rgL (sdB B) (rkQ B m S j (sdB B + 1)) = rgL (sdB B) fun k => rkG (fbB B) (sdB B) m S k + sumN (j + 1) (rkT B m S k) :=
  qu3 fun k hk => by
    unfold rkQ
    rw [sumN,← Nat.add_assoc]
    congr 1
    have : (fbB B (sdB B - (m + 1)) j && !S.testBit j) = true := by rw [hr,hf,hb]; rfl
    unfold rkT
    rw [if_pos this]
    cases k with
    | zero => rw [if_neg (by omega)]
    | succ k => rw [if_pos (by omega)]; rfl
theorem rkQ_le {B : List UInt8} (h : GoodBd B) {m S j q k : Nat} (hm : m ≤ 8) (hj : j ≤ 8) : rkQ B m S j q k ≤ 1000000000 := by
  have h1 := qug h hm S k
  have h2 := sumN_le' (f := rkT B m S k) (b := 43046721) (n := j) fun c _ => rkT_le9 h hm S k c
  have h3 : j * 43046721 ≤ 8 * 43046721 := Nat.mul_le_mul_right _ hj
  have h4 := qug h hm (insC S j) (k - 1)
  unfold rkQ
  split <;> omega
theorem bdRooks_spec (B : List UInt8) (h : GoodBd B) (hB : B.length ≤ 1048576) : ∀ m row S,row + m = sdB B → S < 2 ^ sdB B → Sp Tryz.prog 51 [str B,.i (row : Nat),.i (S : Nat)] (rgR (sdB B) (rkG (fbB B) (sdB B) m S)) := by
  have hsd := qx5 h
  intro m
  induction m with
  | zero =>
    intro row S hrow hS
    unfold rgR
    have hrow' : row = sdB B := by omega
    have l0 := qvj (sdB B) (fun _ => 0)
    refine qy7 Tryz.func51 rfl cc51 rfl ?_
    unfold ac51
    repeat (first|(refine qz0 ?_;(first|(refine m_mov (by conv => lhs; whnf) ?_)|(refine qx2 ?_)))|refine qz1 ?_|refine qz3 ?_)
    (refine qz0 ?_);(apply qza (qyj B hB));(· repeat (first|exact qz4|(refine qz2 ?_ ?_;(· exact qzd))))
    repeat (first|(refine qz0 ?_;(first|(refine m_mov (by conv => lhs; whnf) ?_)|(refine m_add rfl rfl ?_ ?_ ?_;(· omega);(· omega))))|refine qz1 ?_|refine qz3 ?_)
    refine qz0 ?_
    refine m_mk0 (n := sdB B) rfl rfl (by omega) (by omega) ?_
    repeat (first|(refine qz0 ?_;(first|(refine m_mov (by conv => lhs; whnf) ?_)|(refine m_eql rfl rfl ?_)|(refine m_idx_sl rfl rfl ?_ ?_ ?_;(· omega);(· omega))|(apply m_st;(· rfl);(· rfl);(· rfl);(· first|omega|(simp; done)|(simp; omega));(· rfl))))|refine qz1 ?_|refine qz3 ?_|(refine qzf rfl ?_ ?_;(· (refine decide_eq_true ?_; omega)))|refine qz6 ?_|refine qzj ?_|refine qzc ?_|refine qy8 ?_)
    refine outs_sl (z := 1) (n := sdB B + 1) (cs := (rgL (sdB B) (rkG (fbB B) (sdB B) 0 S)).map AV.i) ?_ (by simp [rgL]) (qx0 _)
    show some (true,List.set (List.map AV.i (rgL (sdB B) fun _ => 0)) 0 (AV.i 1)) = _
    rw [← List.map_set]
    congr 3
    have e := rgL_set (n := sdB B) (k := 0) (f := fun _ => 0) 1 (by omega)
    rw [qva _ (by omega)] at e
    refine e.trans (qu3 fun k _ => ?_)
    rw [rkG]
    omega
  | succ m ih =>
    intro row S hrow hS
    have hm8 : m ≤ 8 := by omega
    have hS512 : S < 512 := Nat.lt_of_lt_of_le hS (Nat.pow_le_pow_right (by decide) (by omega : sdB B ≤ 9))
    have hrowm : sdB B - (m + 1) = row := by omega
    unfold rgR
    refine qy7 Tryz.func51 rfl cc51 rfl ?_
    unfold ac51
    repeat (first|(refine qz0 ?_;(first|(refine m_mov (by conv => lhs; whnf) ?_)|(refine qx2 ?_)))|refine qz1 ?_|refine qz3 ?_)
    (refine qz0 ?_);(apply qza (qyj B hB));(· repeat (first|exact qz4|(refine qz2 ?_ ?_;(· exact qzd))))
    repeat (first|(refine qz0 ?_;(first|(refine m_mov (by conv => lhs; whnf) ?_)|(refine m_add rfl rfl ?_ ?_ ?_;(· omega);(· omega))))|refine qz1 ?_|refine qz3 ?_)
    refine qz0 ?_
    refine m_mk0 (n := sdB B) rfl rfl (by omega) (by omega) ?_
    repeat (first|(refine qz0 ?_;(first|(refine m_mov (by conv => lhs; whnf) ?_)|(refine m_eql rfl rfl ?_)|(refine m_add rfl rfl ?_ ?_ ?_;(· omega);(· omega))))|refine qz1 ?_|refine qz3 ?_|(refine qzi rfl ?_ ?_;(· (refine decide_eq_false ?_; omega)))|refine qz5 ?_|refine qz6 ?_)
    have e1 := ih (row + 1) S (by omega) hS
    unfold rgR at e1
    (refine qz0 ?_);(apply qza (e1));(· repeat (first|exact qz4|(refine qz2 ?_ ?_;(· exact qzd))))
    repeat (first|(refine qz0 ?_;(first|(refine m_mov (by conv => lhs; whnf) ?_)|(refine qy4 rfl ?_)))|refine qz1 ?_|refine qz8 ?_)
    refine qyf (α := Nat) (fun k => k ≤ sdB B + 1) (fun k => st [(0,str B),(1,.i (row : Nat)),(2,.i (S : Nat)),(7,.i (sdB B : Nat)),(8,.sl 18 1 0 (sdB B + 1)),(29,.ro true 1 ((rgL (sdB B) (rkG (fbB B) (sdB B) m S)).map AV.i) (sdB B + 1)),(30,.i (sdB B + 1 : Nat)),(31,.i (k : Nat))]
        [(18,(true,(rgL (sdB B) fun j => if j < k then rkG (fbB B) (sdB B) m S j else 0).map AV.i))]) (fun k => sdB B + 1 - k) 0 (by omega) (qz9 ?_ ?_ rfl rfl) ?_
    · (repeat' first|exact trivial|refine And.intro ?_ ?_)<;>first|rfl|skip
    · (repeat' first|exact trivial|refine And.intro ?_ ?_)<;>first|rfl|skip
    rintro k hk
    by_cases hk1 : k < sdB B + 1
    · have g1 := qva (rkG (fbB B) (sdB B) m S) hk1
      have g2 := qva (fun j => if j < k then rkG (fbB B) (sdB B) m S j else 0) hk1
      rw [if_neg (by omega)] at g2
      have l1 := qvj (sdB B) (rkG (fbB B) (sdB B) m S)
      have l2 := qvj (sdB B) (fun j => if j < k then rkG (fbB B) (sdB B) m S j else 0)
      have b1 := qug h hm8 S k
      have b2 : 0 ≤ (rgL (sdB B) (rkG (fbB B) (sdB B) m S)).getD k 0 ∧ (rgL (sdB B) (rkG (fbB B) (sdB B) m S)).getD k 0 ≤ 43046721 := by rw [g1]; omega
      have b3 : (rgL (sdB B) (fun j => if j < k then rkG (fbB B) (sdB B) m S j else 0)).getD k 0 = 0 := by rw [g2]; rfl
      repeat (first|(refine qz0 ?_;(first|(refine m_mov (by conv => lhs; whnf) ?_)|(refine m_lss rfl rfl ?_)|(refine m_add rfl rfl ?_ ?_ ?_;(· omega);(· omega))|(refine qy6 rfl rfl ?_ ?_;(· omega))|(refine qxf rfl rfl ?_ ?_;(· omega))|(refine qyg rfl ?_ ?_;(· omega))|(refine qu0 rfl (by rfl) ?_ ?_;(· first|omega|(simp; omega)))|(apply m_st;(· rfl);(· rfl);(· rfl);(· first|omega|(simp; done)|(simp; omega));(· rfl))))|refine qz1 ?_|refine qz3 ?_|refine qy5 ?_|(refine qzf rfl ?_ ?_;(· (refine decide_eq_true ?_; omega)))|refine qz5 ?_|refine qz6 ?_|refine qz7 ?_|refine qz8 ?_|refine qze ?_)
      refine qzb (k + 1) (by omega) (qz9 ?_ ?_ rfl rfl) (by omega)
      · (repeat' first|exact trivial|refine And.intro ?_ ?_)<;>first|rfl|skip
      · (repeat' first|exact trivial|refine And.intro ?_ ?_)<;>first|rfl|skip
        show some (true,List.set (List.map AV.i _) k (AV.i _)) = _
        rw [← List.map_set,g1,rgL_set _ hk1]
        congr 3
        refine qu3 fun j _ => ?_
        by_cases ej : j = k
        · subst ej; simp
        · by_cases hj : j < k
          · simp [ej,hj,show j < k + 1 by omega]
          · simp [ej,hj,show ¬ j < k + 1 by omega]
    · have hke : k = sdB B + 1 := by omega
      subst hke
      rw [show (rgL (sdB B) fun j => if j < sdB B + 1 then rkG (fbB B) (sdB B) m S j else 0) = rgL (sdB B) (rkG (fbB B) (sdB B) m S) from qu3 fun j hj => if_pos hj]
      repeat (first|(refine qz0 ?_;(first|(refine m_mov (by conv => lhs; whnf) ?_)|(refine m_lss rfl rfl ?_)))|refine qz1 ?_|refine qz3 ?_|(refine qzi rfl ?_ ?_;(· (refine decide_eq_false ?_; omega)))|refine qz6 ?_|refine qz7 ?_|refine qy1 ?_|refine qz8 ?_|refine qy0 ?_|refine qy9 ?_|refine qzg ?_)
      refine qyf (α := Nat) (fun j => j ≤ sdB B) (fun j => st [(0,str B),(1,.i (row : Nat)),(2,.i (S : Nat)),(7,.i (sdB B : Nat)),(8,.sl 18 1 0 (sdB B + 1)),(11,.i (j : Nat))]
        [(18,(true,(rgL (sdB B) fun k => rkG (fbB B) (sdB B) m S k + sumN j (rkT B m S k)).map AV.i))]) (fun j => sdB B - j) 0 (by omega) (qz9 ?_ ?_ rfl rfl) ?_
      · (repeat' first|exact trivial|refine And.intro ?_ ?_)<;>first|rfl|skip
      · (repeat' first|exact trivial|refine And.intro ?_ ?_)<;>first|rfl|skip
      rintro j hj
      by_cases hj1 : j < sdB B
      · have hsh : S >>> j < 512 := Nat.lt_of_le_of_lt (Nat.shiftRight_le S j) hS512
        have skipT : (∀ k,rkT B m S k j = 0) → (rgL (sdB B) fun k => rkG (fbB B) (sdB B) m S k + sumN j (rkT B m S k)) = rgL (sdB B) fun k => rkG (fbB B) (sdB B) m S k + sumN (j + 1) (rkT B m S k) := fun h0 =>
          qu3 fun k _ => by rw [sumN,h0 k,Nat.add_zero]
        by_cases hbit : S.testBit j = true
        · have hz := bit1 hbit
          repeat (first|(refine qz0 ?_;(first|(refine m_mov (by conv => lhs; whnf) ?_)|(refine m_lss rfl rfl ?_)))|refine qz1 ?_|refine qz3 ?_|(refine qzf rfl ?_ ?_;(· (refine decide_eq_true ?_; omega)))|refine qz5 ?_|refine qz6 ?_|refine qz8 ?_)
          refine qz0 ?_
          refine m_shri (a := S) (k := j) rfl rfl (by omega) ?_
          refine qz0 ?_
          refine m_andz (a := S >>> j) (z := 1) rfl rfl (by omega) hz ?_
          repeat (first|(refine qz0 ?_;(first|(first|(refine m_mov (by conv => lhs; whnf) ?_)|(refine m_eql rfl rfl ?_)|(refine m_add rfl rfl ?_ ?_ ?_;(· omega);(· omega))|(refine qy3 rfl ?_ (by conv => lhs; whnf) ?_;(· rfl)))|(refine g_noT rfl ?_ ?_;(· rfl))))|refine qz1 ?_|refine qy5 ?_|(refine qzi rfl ?_ ?_;(· rfl))|refine qz7 ?_|refine qze ?_|refine qx6 ?_)
          refine qzb (j + 1) (by omega) (qz9 ?_ ?_ rfl rfl) (by omega)
          · (repeat' first|exact trivial|refine And.intro ?_ ?_)<;>first|rfl|skip
          · (repeat' first|exact trivial|refine And.intro ?_ ?_)<;>first|rfl|skip
            show some (true,List.map AV.i _) = some (true,List.map AV.i _)
            rw [skipT fun k => by simp [rkT,hbit]]
        · have hbit : S.testBit j = false := by simpa using hbit
          have hz := bitz hbit
          repeat (first|(refine qz0 ?_;(first|(refine m_mov (by conv => lhs; whnf) ?_)|(refine m_lss rfl rfl ?_)))|refine qz1 ?_|refine qz3 ?_|(refine qzf rfl ?_ ?_;(· (refine decide_eq_true ?_; omega)))|refine qz5 ?_|refine qz6 ?_|refine qz8 ?_)
          refine qz0 ?_
          refine m_shri (a := S) (k := j) rfl rfl (by omega) ?_
          refine qz0 ?_
          refine m_andz (a := S >>> j) (z := 0) rfl rfl (by omega) hz ?_
          repeat (refine qz0 ?_;((try (refine g_yes rfl ?_ ?_;(· rfl)));(first|(refine m_mov (by conv => lhs; whnf) ?_)|(refine m_eql rfl rfl ?_))))
          (refine qz0 ?_);(refine g_yes rfl ?_ ?_;(· first|(rfl)|(fail));(apply qza (qu6 B h row j (by omega) hj1)));(· repeat (first|exact qz4|(refine qz2 ?_ ?_;(· exact qzd))))
          by_cases hf : fbB B row j = true
          · repeat (first|(refine qz0 ?_;(first|(refine m_mov (by conv => lhs; whnf) ?_)|(refine m_add rfl rfl ?_ ?_ ?_;(· omega);(· omega))|(refine qye rfl ?_ (by conv => lhs; whnf) ?_;(· rfl))))|refine qz1 ?_|refine qz3 ?_|(refine qzf rfl ?_ ?_;(· assumption)))
            have hT := insC_lt hS hj1
            have hT512 : insC S j < 512 := Nat.lt_of_lt_of_le hT (Nat.pow_le_pow_right (by decide) (by omega : sdB B ≤ 9))
            have h2j : 2 ^ j < 512 := Nat.lt_of_lt_of_le (Nat.pow_lt_pow_right (by decide) (by omega : j < 9)) (by decide)
            refine qz0 ?_
            refine m_shlz (k := j) (z := 2 ^ j) rfl rfl (by omega) rfl ?_
            refine qz0 ?_
            refine m_ori (a := S) (b := 2 ^ j) (z := insC S j) rfl rfl (by omega) (by omega) (by unfold insC; rw [Nat.one_shiftLeft]) ?_
            have e2 := ih (row + 1) (insC S j) (by omega) hT
            unfold rgR at e2
            (refine qz0 ?_);(apply qza (e2));(· repeat (first|exact qz4|(refine qz2 ?_ ?_;(· exact qzd))))
            repeat (first|(refine qz0 ?_;(first|(refine m_mov (by conv => lhs; whnf) ?_)|(refine qy4 rfl ?_)))|refine qz1 ?_|refine qz8 ?_)
            refine qyf (α := Nat) (fun q => q ≤ sdB B + 1) (fun q => st [(0,str B),(1,.i (row : Nat)),(2,.i (S : Nat)),(7,.i (sdB B : Nat)),(8,.sl 18 1 0 (sdB B + 1)),(11,.i (j : Nat)),
                (67,.ro true 1 ((rgL (sdB B) (rkG (fbB B) (sdB B) m (insC S j))).map AV.i) (sdB B + 1)),(68,.i (sdB B + 1 : Nat)),(69,.i (q : Nat))]
              [(18,(true,(rgL (sdB B) (rkQ B m S j q)).map AV.i))]) (fun q => sdB B + 1 - q) 0 (by omega) (qz9 ?_ ?_ rfl rfl) ?_
            · (repeat' first|exact trivial|refine And.intro ?_ ?_)<;>first|rfl|skip
            · (repeat' first|exact trivial|refine And.intro ?_ ?_)<;>first|rfl|skip
              show some (true,List.map AV.i _) = some (true,List.map AV.i _)
              rw [rkQ_0]
            rintro q hq
            by_cases hq1 : q < sdB B + 1
            · have g1 := qva (rkG (fbB B) (sdB B) m (insC S j)) hq1
              have l1 := qvj (sdB B) (rkG (fbB B) (sdB B) m (insC S j))
              have l2 := qvj (sdB B) (rkQ B m S j q)
              have b1 := qug h hm8 (insC S j) q
              by_cases hv : 0 < rkG (fbB B) (sdB B) m (insC S j) q
              · have hqn : q < sdB B := by
                  rcases Nat.lt_or_ge q (sdB B) with h3|h3
                  · exact h3
                  · have := rkG_big (fb := fbB B) (n := sdB B) m (insC S j) q (by omega)
                    omega
                have g2 := qva (n := sdB B) (k := q + 1) (rkQ B m S j q) (by omega)
                have b2 := rkQ_le h hm8 (S := S) (j := j) (q := q) (k := q + 1) (by omega)
                have b3 : 0 ≤ (rgL (sdB B) (rkQ B m S j q)).getD (q + 1) 0 ∧ (rgL (sdB B) (rkQ B m S j q)).getD (q + 1) 0 ≤ 1000000000 := by rw [g2]; omega
                have b4 : 0 < (rgL (sdB B) (rkG (fbB B) (sdB B) m (insC S j))).getD q 0 ∧ (rgL (sdB B) (rkG (fbB B) (sdB B) m (insC S j))).getD q 0 ≤ 43046721 := by rw [g1]; omega
                have hq' : 0 + ((q : Int) + 1).toNat * 1 = q + 1 := by omega
                have b5 : 0 ≤ (rgL (sdB B) (rkQ B m S j q)).getD (0 + ((q : Int) + 1).toNat * 1) 0 ∧ (rgL (sdB B) (rkQ B m S j q)).getD (0 + ((q : Int) + 1).toNat * 1) 0 ≤ 1000000000 := by rw [hq']; exact b3
                repeat (first|(refine qz0 ?_;(first|(refine m_mov (by conv => lhs; whnf) ?_)|(refine m_lss rfl rfl ?_)|(refine m_gtr rfl rfl ?_)|(refine m_add rfl rfl ?_ ?_ ?_;(· omega);(· omega))|(refine qy6 rfl rfl ?_ ?_;(· omega))|(refine m_idx_sl rfl rfl ?_ ?_ ?_;(· omega);(· omega))|(refine qyg rfl ?_ ?_;(· omega))|(refine qu0 rfl (by rfl) ?_ ?_;(· first|omega|(simp; omega)))|(apply m_st;(· rfl);(· rfl);(· rfl);(· first|omega|(simp; done)|(simp; omega));(· rfl))))|refine qz1 ?_|refine qz3 ?_|refine qy5 ?_|(refine qzf rfl ?_ ?_;(· (refine decide_eq_true ?_; omega)))|refine qz5 ?_|refine qz6 ?_|refine qz7 ?_|refine qz8 ?_|refine qze ?_)
                refine qzb (q + 1) (by omega) (qz9 ?_ ?_ rfl rfl) (by omega)
                · (repeat' first|exact trivial|refine And.intro ?_ ?_)<;>first|rfl|skip
                · (repeat' first|exact trivial|refine And.intro ?_ ?_)<;>first|rfl|skip
                  show some (true,List.set (List.map AV.i _) _ (AV.i _)) = some (true,List.map AV.i _)
                  rw [← List.map_set,hq',g1,rgL_set _ (by omega)]
                  congr 3
                  refine qu3 fun k _ => rkQ_step B m S j q k
              · have b4 : (rgL (sdB B) (rkG (fbB B) (sdB B) m (insC S j))).getD q 0 = 0 := by rw [g1]; omega
                repeat (first|(refine qz0 ?_;(first|(refine m_mov (by conv => lhs; whnf) ?_)|(refine m_lss rfl rfl ?_)|(refine m_gtr rfl rfl ?_)|(refine m_add rfl rfl ?_ ?_ ?_;(· omega);(· omega))|(refine qy6 rfl rfl ?_ ?_;(· omega))|(refine qyg rfl ?_ ?_;(· omega))))|refine qz1 ?_|refine qz3 ?_|refine qy5 ?_|(refine qzf rfl ?_ ?_;(· (refine decide_eq_true ?_; omega)))|(refine qzi rfl ?_ ?_;(· (refine decide_eq_false ?_; omega)))|refine qz5 ?_|refine qz6 ?_|refine qz7 ?_|refine qz8 ?_|refine qze ?_|refine qx6 ?_)
                refine qzb (q + 1) (by omega) (qz9 ?_ ?_ rfl rfl) (by omega)
                · (repeat' first|exact trivial|refine And.intro ?_ ?_)<;>first|rfl|skip
                · (repeat' first|exact trivial|refine And.intro ?_ ?_)<;>first|rfl|skip
                  show some (true,List.map AV.i _) = some (true,List.map AV.i _)
                  rw [rkQ_skip (by omega)]
            · have hqe : q = sdB B + 1 := by omega
              subst hqe
              rw [rkQ_end hrowm hf hbit]
              repeat (first|(refine qz0 ?_;(first|(refine m_mov (by conv => lhs; whnf) ?_)|(refine m_lss rfl rfl ?_)|(refine m_add rfl rfl ?_ ?_ ?_;(· omega);(· omega))))|refine qz1 ?_|refine qz3 ?_|refine qy5 ?_|(refine qzi rfl ?_ ?_;(· (refine decide_eq_false ?_; omega)))|refine qz6 ?_|refine qz7 ?_|refine qy1 ?_|refine qze ?_|refine qy0 ?_|refine qy9 ?_|refine qzg ?_)
              refine qzb (j + 1) (by omega) (qz9 ?_ ?_ rfl rfl) (by omega)
              · (repeat' first|exact trivial|refine And.intro ?_ ?_)<;>first|rfl|skip
              · (repeat' first|exact trivial|refine And.intro ?_ ?_)<;>first|rfl|skip
          · have hf : fbB B row j = false := by simpa using hf
            repeat (first|(refine qz0 ?_;(first|(refine m_mov (by conv => lhs; whnf) ?_)|(refine m_add rfl rfl ?_ ?_ ?_;(· omega);(· omega))|(refine qye rfl ?_ (by conv => lhs; whnf) ?_;(· rfl))))|refine qz1 ?_|refine qy5 ?_|(refine qzi rfl ?_ ?_;(· assumption))|refine qz7 ?_|refine qze ?_|refine qx6 ?_)
            refine qzb (j + 1) (by omega) (qz9 ?_ ?_ rfl rfl) (by omega)
            · (repeat' first|exact trivial|refine And.intro ?_ ?_)<;>first|rfl|skip
            · (repeat' first|exact trivial|refine And.intro ?_ ?_)<;>first|rfl|skip
              show some (true,List.map AV.i _) = some (true,List.map AV.i _)
              rw [skipT fun k => by simp [rkT,hrowm,hf]]
      · have hje : j = sdB B := by omega
        subst hje
        repeat (first|(refine qz0 ?_;(first|(refine m_mov (by conv => lhs; whnf) ?_)|(refine m_lss rfl rfl ?_)))|refine qz1 ?_|refine qz3 ?_|(refine qzi rfl ?_ ?_;(· (refine decide_eq_false ?_; omega)))|refine qz6 ?_|refine qzj ?_|refine qzc ?_|refine qz7 ?_|refine qy1 ?_|refine qy0 ?_|refine qy9 ?_|refine qzg ?_)
        exact outs_sl rfl (by simp [rgL]) (qx0 _)
end Go.Proofs.YtngfogpbljconaaGreatDoor
namespace Go.Proofs.YtngfogpbljconaaGreatDoor
variable [Go.Am.CodeBlk]
open Go.Am
attribute [local irreducible] AW Outs Weak Lends Lend Sp aops atree aop1 Then Round InBlock Done
attribute [local irreducible] SpH SpX DoneH DoneX
theorem rgR_new (n : Nat) (f : Nat → Nat) : rgR n f = newInts (rgL n f) := by
  unfold rgR newInts
  rw [qvj]
def rksB (B : List UInt8) : List Int := if GoodBd B then rgL (sdB B) (rkN (fbB B) (sdB B)) else []
def rksR (B : List UInt8) : AV := .tup [newInts (rksB B),.b (decide (GoodBd B))]
theorem rksB_len (B : List UInt8) : (rksB B).length ≤ 1048576 := by
  unfold rksB
  split
  · rename_i h
    have := qx5 h
    rw [qvj]; omega
  · simp
theorem rooks0_spec (B : List UInt8) (h : GoodBd B) (hB : B.length ≤ 1048576) : Sp Tryz.prog 51 [str B,.i 0,.i 0] (newInts (rgL (sdB B) (rkN (fbB B) (sdB B)))) := by
  rw [← rgR_new]
  exact bdRooks_spec B h hB (sdB B) 0 0 (by omega) (Nat.pow_pos (by decide))
theorem rookNew_spec (B : List UInt8) (h : GoodBd B) : Sp Tryz.prog 50 [.agg [.i (sdB B : Nat),.rmp false (mkEs (plB B)) (plB B).length]] (newInts (rgL (sdB B) (rkN (fbB B) (sdB B)))) := by
  rw [← rgR_new]
  exact rookNumbers_spec (fbB B) (sdB B) (qx5 h).1 (qx5 h).2
theorem specRookNumbers_spec (B : List UInt8) (hB : B.length ≤ 1048576) : Sp Tryz.prog 24 [str B] (rksR B) := by
  unfold rksR rksB
  refine qy7 Tryz.func24 rfl cc24 rfl ?_
  unfold ac24
  repeat (first|(refine qz0 ?_;(first|(refine m_mov (by conv => lhs; whnf) ?_)|(refine qx2 ?_)))|refine qz1 ?_|refine qz3 ?_|refine qz6 ?_)
  (refine qz0 ?_);(apply qza (qw0 B hB));(· repeat (first|exact qz4|(refine qz2 ?_ ?_;(· exact qzd))))
  by_cases h : GoodBd B
  · rw [if_pos h]
    repeat (first|(refine qz0 ?_;(first|(refine m_mov (by conv => lhs; whnf) ?_)|(refine m_not rfl ?_)))|refine qz1 ?_|refine qz3 ?_|(refine qzi rfl ?_ ?_;(· (refine nf ?_; assumption)))|refine qz5 ?_)
    (refine qz0 ?_);(apply qwh (rooks0_spec B h hB));(· repeat (first|exact qz4|(refine qz2 ?_ ?_;(· exact qzd))));(· first|exact qx0 _|rfl|(simp; done))
    repeat (first|(refine qz0 ?_;(refine m_mov (by conv => lhs; whnf) ?_))|refine qz1 ?_|refine qzj ?_|refine qzc ?_)
    exact qyh (qx3 rfl rfl rfl) (qyb (by simp [h]))
  · rw [if_neg h]
    repeat (first|(refine qz0 ?_;(first|(refine m_mov (by conv => lhs; whnf) ?_)|(refine m_not rfl ?_)|(refine qx2 ?_)))|refine qz1 ?_|refine qz3 ?_|(refine qzf rfl ?_ ?_;(· (refine nt ?_; assumption)))|refine qzj ?_|refine qzc ?_|refine qy8 ?_)
    exact qyh (qx3 rfl rfl rfl) (qyb (by simp [h]))
theorem implRookNumbers_spec (B : List UInt8) (hB : B.length ≤ 1048576) : Sp Tryz.prog 23 [str B] (rksR B) := by
  have hr := qxj B hB
  unfold bdR bdV at hr
  unfold rksR rksB
  refine qy7 Tryz.func23 rfl cc23 rfl ?_
  unfold ac23
  by_cases h : GoodBd B
  · rw [if_pos h] at hr
    have hk := rookNew_spec B h
    rw [if_pos h]
    repeat (first|(refine qz0 ?_;(first|(refine m_mov (by conv => lhs; whnf) ?_)|(refine qx2 ?_)))|refine qz1 ?_|refine qz3 ?_)
    (refine qz0 ?_);(apply qza (hr));(· repeat (first|exact qz4|(refine qz2 ?_ ?_;(· exact qzd))))
    repeat (first|(refine qz0 ?_;(first|(refine m_mov (by conv => lhs; whnf) ?_)|(refine m_not rfl ?_)|(refine m_ext rfl rfl ?_)|(refine qxb ?_)|(refine qv7 rfl rfl ?_ ?_;(· first|rfl|(simp; done)|(simp [*]; done)))|(refine qx9 rfl rfl rfl ?_ ?_ ?_ ?_;(· first|rfl|(simp [*]; done));(· first|rfl|(simp [*]; done));(· first|rfl|(simp [cellOk,Value.oneCell']; done)))))|refine qz1 ?_|refine qz3 ?_|(refine qzi rfl ?_ ?_;(· (refine nf ?_; assumption)))|refine qz5 ?_|refine qz6 ?_)
    refine qz0 ?_
    refine qwh hk (qz2 (qwi rfl) qz4) (qx0 _) ?_
    repeat (first|(refine qz0 ?_;(refine m_mov (by conv => lhs; whnf) ?_))|refine qz1 ?_|refine qzj ?_|refine qzc ?_)
    exact qyh (qx3 rfl rfl rfl) (qyb (by simp [h]))
  · rw [if_neg h] at hr
    rw [if_neg h]
    repeat (first|(refine qz0 ?_;(first|(refine m_mov (by conv => lhs; whnf) ?_)|(refine qx2 ?_)))|refine qz1 ?_|refine qz3 ?_)
    (refine qz0 ?_);(apply qza (hr));(· repeat (first|exact qz4|(refine qz2 ?_ ?_;(· exact qzd))))
    repeat (first|(refine qz0 ?_;(first|(refine m_mov (by conv => lhs; whnf) ?_)|(refine m_not rfl ?_)|(refine qx2 ?_)|(refine m_ext rfl rfl ?_)|(refine qxb ?_)|(refine qx9 rfl rfl rfl ?_ ?_ ?_ ?_;(· first|rfl|(simp [*]; done));(· first|rfl|(simp [*]; done));(· first|rfl|(simp [cellOk,Value.oneCell']; done)))))|refine qz1 ?_|refine qz3 ?_|(refine qzf rfl ?_ ?_;(· (refine nt ?_; assumption)))|refine qz6 ?_|refine qzj ?_|refine qzc ?_|refine qy8 ?_)
    exact qyh (qx3 rfl rfl rfl) (qyb (by simp [h]))
def mostN (f : Nat → Nat) : Nat → Nat
  | 0 => 0
  | k + 1 => if 0 < f (k + 1) then k + 1 else mostN f k
theorem mostN_le (f : Nat → Nat) : ∀ k,mostN f k ≤ k
  | 0 => Nat.le_refl _
  | k + 1 => by
    rw [mostN]
    split
    · exact Nat.le_refl _
    · have := mostN_le f k; omega
def mostR (B : List UInt8) : AV := .tup [.i (if GoodBd B then ((mostN (rkN (fbB B) (sdB B)) (sdB B) : Nat) : Int) else 0),.b (decide (GoodBd B))]
theorem rk0 (fb : Nat → Nat → Bool) (n : Nat) : ∀ m S,rkG fb n m S 0 = 1
  | 0,_ => rfl
  | m + 1,S => by
    rw [rkG,rk0 fb n m S,qx1 (g := fun _ => 0) fun j _ => by simp,qv3]
theorem bdMost_spec (B : List UInt8) (h : GoodBd B) (hB : B.length ≤ 1048576) : Sp Tryz.prog 52 [str B] (.i (mostN (rkN (fbB B) (sdB B)) (sdB B) : Nat)) := by
  have hsd := qx5 h
  have hk := rooks0_spec B h hB
  have hle : ∀ k,rkN (fbB B) (sdB B) k ≤ 43046721 := fun k => qug h (by omega) 0 k
  have h0 : rkN (fbB B) (sdB B) 0 = 1 := rk0 _ _ _ _
  generalize rkN (fbB B) (sdB B) = f at *
  have hl := qvj (sdB B) f
  refine qy7 Tryz.func52 rfl cc52 rfl ?_
  unfold ac52
  repeat (first|(refine qz0 ?_;(refine m_mov (by conv => lhs; whnf) ?_))|refine qz1 ?_|refine qz3 ?_|refine qz6 ?_)
  (refine qz0 ?_);(apply qza (hk));(· repeat (first|exact qz4|(refine qz2 ?_ ?_;(· exact qzd))))
  repeat (first|(refine qz0 ?_;(first|(refine m_mov (by conv => lhs; whnf) ?_)|(refine qy4 rfl ?_)))|refine qz1 ?_|refine qz8 ?_)
  refine qyf (α := Nat) (fun k => k ≤ sdB B + 1) (fun k => st [(0,str B),(3,.i (mostN f (k - 1) : Nat)),(7,newInts (rgL (sdB B) f)),(8,.i (rgL (sdB B) f).length),(9,.i (k : Nat))] []) (fun k => sdB B + 1 - k) 0 (by omega) (qz9 ?_ ?_ rfl rfl) ?_
  · (repeat' first|exact trivial|refine And.intro ?_ ?_)<;>first|rfl|skip
  · trivial
  rintro k hk2
  unfold newInts
  by_cases hk1 : k < sdB B + 1
  · have g1 := qva f hk1
    have b1 := hle k
    by_cases hv : 0 < f k
    · have b4 : 0 < (rgL (sdB B) f).getD k 0 := by rw [g1]; omega
      repeat (first|(refine qz0 ?_;(first|(refine m_mov (by conv => lhs; whnf) ?_)|(refine m_lss rfl rfl ?_)|(refine m_gtr rfl rfl ?_)|(refine m_add rfl rfl ?_ ?_ ?_;(· omega);(· omega))|(refine qy6 rfl rfl ?_ ?_;(· omega))|(refine qyg rfl ?_ ?_;(· omega))))|refine qz1 ?_|refine qz3 ?_|refine qy5 ?_|(refine qzf rfl ?_ ?_;(· first|(refine decide_eq_true ?_; assumption)|(refine decide_eq_true ?_; omega)))|refine qz5 ?_|refine qz6 ?_|refine qz7 ?_|refine qz8 ?_|refine qze ?_)
      refine qzb (k + 1) (by omega) (qz9 ?_ ?_ rfl rfl) (by omega)
      · (repeat' first|exact trivial|refine And.intro ?_ ?_)<;>first|rfl|skip
        show AV.i (k : Nat) = AV.i (mostN f k : Nat)
        cases k with
        | zero => rfl
        | succ k => rw [mostN,if_pos hv]
      · trivial
    · have b4 : (rgL (sdB B) f).getD k 0 = 0 := by rw [g1]; omega
      repeat (first|(refine qz0 ?_;(first|(refine m_mov (by conv => lhs; whnf) ?_)|(refine m_lss rfl rfl ?_)|(refine m_gtr rfl rfl ?_)|(refine m_add rfl rfl ?_ ?_ ?_;(· omega);(· omega))|(refine qy6 rfl rfl ?_ ?_;(· omega))|(refine qyg rfl ?_ ?_;(· omega))))|refine qz1 ?_|refine qz3 ?_|refine qy5 ?_|(refine qzf rfl ?_ ?_;(· (refine decide_eq_true ?_; omega)))|(refine qzi rfl ?_ ?_;(· (refine decide_eq_false ?_; omega)))|refine qz5 ?_|refine qz6 ?_|refine qz7 ?_|refine qz8 ?_|refine qze ?_|refine qx6 ?_)
      refine qzb (k + 1) (by omega) (qz9 ?_ ?_ rfl rfl) (by omega)
      · (repeat' first|exact trivial|refine And.intro ?_ ?_)<;>first|rfl|skip
        show AV.i (mostN f (k - 1) : Nat) = AV.i (mostN f k : Nat)
        cases k with
        | zero => omega
        | succ k => rw [mostN,if_neg hv]; rfl
      · trivial
  · have hke : k = sdB B + 1 := by omega
    subst hke
    repeat (first|(refine qz0 ?_;(first|(refine m_mov (by conv => lhs; whnf) ?_)|(refine m_lss rfl rfl ?_)))|refine qz1 ?_|refine qz3 ?_|(refine qzi rfl ?_ ?_;(· (refine decide_eq_false ?_; omega)))|refine qz6 ?_|refine qzj ?_|refine qzc ?_|refine qz7 ?_|refine qy1 ?_|refine qy0 ?_|refine qy9 ?_|refine qzg ?_)
    exact qxa rfl
theorem specMostRooks_spec (B : List UInt8) (hB : B.length ≤ 1048576) : Sp Tryz.prog 26 [str B] (mostR B) := by
  unfold mostR
  refine qy7 Tryz.func26 rfl cc26 rfl ?_
  unfold ac26
  repeat (first|(refine qz0 ?_;(refine m_mov (by conv => lhs; whnf) ?_))|refine qz1 ?_|refine qz3 ?_|refine qz6 ?_)
  (refine qz0 ?_);(apply qza (qw0 B hB));(· repeat (first|exact qz4|(refine qz2 ?_ ?_;(· exact qzd))))
  by_cases h : GoodBd B
  · rw [if_pos h]
    repeat (first|(refine qz0 ?_;(first|(refine m_mov (by conv => lhs; whnf) ?_)|(refine m_not rfl ?_)))|refine qz1 ?_|refine qz3 ?_|(refine qzi rfl ?_ ?_;(· (refine nf ?_; assumption)))|refine qz5 ?_)
    (refine qz0 ?_);(apply qza (bdMost_spec B h hB));(· repeat (first|exact qz4|(refine qz2 ?_ ?_;(· exact qzd))))
    repeat (first|(refine qz0 ?_;(refine m_mov (by conv => lhs; whnf) ?_))|refine qz1 ?_|refine qzj ?_|refine qzc ?_)
    exact qyh (qxa rfl) (qyb (by simp [h]))
  · rw [if_neg h]
    repeat (first|(refine qz0 ?_;(first|(refine m_mov (by conv => lhs; whnf) ?_)|(refine m_not rfl ?_)))|refine qz1 ?_|refine qz3 ?_|(refine qzf rfl ?_ ?_;(· (refine nt ?_; assumption)))|refine qzj ?_|refine qzc ?_|refine qy8 ?_)
    exact qyh (qxa rfl) (qyb (by simp [h]))
theorem implMostRooks_spec (B : List UInt8) (hB : B.length ≤ 1048576) : Sp Tryz.prog 25 [str B] (mostR B) := by
  have hr := qxj B hB
  unfold bdR bdV at hr
  unfold mostR
  refine qy7 Tryz.func25 rfl cc25 rfl ?_
  unfold ac25
  by_cases h : GoodBd B
  · rw [if_pos h] at hr
    have hk := rookNew_spec B h
    rw [if_pos h]
    have hsd := qx5 h
    have hle : ∀ k,rkN (fbB B) (sdB B) k ≤ 43046721 := fun k => qug h (by omega) 0 k
    have h0 : rkN (fbB B) (sdB B) 0 = 1 := rk0 _ _ _ _
    generalize rkN (fbB B) (sdB B) = f at *
    have hl := qvj (sdB B) f
    repeat (first|(refine qz0 ?_;(refine m_mov (by conv => lhs; whnf) ?_))|refine qz1 ?_|refine qz3 ?_)
    (refine qz0 ?_);(apply qza (hr));(· repeat (first|exact qz4|(refine qz2 ?_ ?_;(· exact qzd))))
    repeat (first|(refine qz0 ?_;(first|(refine m_mov (by conv => lhs; whnf) ?_)|(refine m_not rfl ?_)|(refine m_ext rfl rfl ?_)|(refine qxb ?_)|(refine qv7 rfl rfl ?_ ?_;(· first|rfl|(simp; done)|(simp [*]; done)))|(refine qx9 rfl rfl rfl ?_ ?_ ?_ ?_;(· first|rfl|(simp [*]; done));(· first|rfl|(simp [*]; done));(· first|rfl|(simp [cellOk,Value.oneCell']; done)))))|refine qz1 ?_|refine qz3 ?_|(refine qzi rfl ?_ ?_;(· (refine nf ?_; assumption)))|refine qz5 ?_|refine qz6 ?_)
    refine qz0 ?_
    refine qwh hk (qz2 (qwi rfl) qz4) (qx0 _) ?_
    repeat (first|(refine qz0 ?_;(first|(refine m_mov (by conv => lhs; whnf) ?_)|(apply qx8;(· rfl);(· rfl);(· rfl))|(refine m_fa rfl ?_)))|refine qz1 ?_|refine qz3 ?_|refine qz6 ?_|refine qz8 ?_)
    refine qyf (α := Nat) (fun k => k ≤ sdB B ∧ mostN f k = mostN f (sdB B)) (fun k => st [(6,.sl 16 1 0 (rgL (sdB B) f).length),(7,.i (k : Nat))] [(16,(true,(rgL (sdB B) f).map AV.i))]) (fun k => k) (sdB B) ⟨Nat.le_refl _,rfl⟩ (qz9 ?_ ?_ rfl rfl) ?_
    · (repeat' first|exact trivial|refine And.intro ?_ ?_)<;>first|rfl|skip
    · (repeat' first|exact trivial|refine And.intro ?_ ?_)<;>first|rfl|skip
    rintro k ⟨hk1,hk2⟩
    have g1 := qva (n := sdB B) (k := k) f (by omega)
    by_cases hv : 0 < f k
    · have b4 : ¬ (rgL (sdB B) f).getD k 0 = 0 := by rw [g1]; omega
      repeat (first|(refine qz0 ?_;(first|(refine m_mov (by conv => lhs; whnf) ?_)|(refine m_eql rfl rfl ?_)|(refine qxf rfl rfl ?_ ?_;(· omega))|(refine qu0 rfl (by rfl) ?_ ?_;(· first|omega|(simp; omega)))))|refine qz1 ?_|refine qz3 ?_|(refine qzi rfl ?_ ?_;(· (refine decide_eq_false ?_; assumption)))|refine qz6 ?_|refine qzj ?_|refine qzc ?_|refine qz7 ?_|refine qy1 ?_|refine qy0 ?_|refine qy9 ?_|refine qzg ?_)
      refine qyh (qxa ?_) (qyb (by simp [h]))
      rw [← hk2]
      cases k with
      | zero => rfl
      | succ k => rw [mostN,if_pos hv]
    · have b4 : (rgL (sdB B) f).getD k 0 = 0 := by rw [g1]; omega
      have hkp : 0 < k := by
        rcases Nat.eq_zero_or_pos k with h3|h3
        · subst h3; omega
        · exact h3
      repeat (first|(refine qz0 ?_;(first|(refine m_mov (by conv => lhs; whnf) ?_)|(refine m_eql rfl rfl ?_)|(refine m_sub rfl rfl ?_ ?_ ?_;(· omega);(· omega))|(refine qxf rfl rfl ?_ ?_;(· omega))|(refine qu0 rfl (by rfl) ?_ ?_;(· first|omega|(simp; omega)))))|refine qz1 ?_|refine qz3 ?_|refine qy5 ?_|(refine qzf rfl ?_ ?_;(· (refine decide_eq_true ?_; assumption)))|refine qz5 ?_|refine qz6 ?_|refine qz8 ?_|refine qze ?_)
      refine qzb (k - 1) ⟨by omega,?_⟩ (qz9 ?_ ?_ rfl rfl) (by omega)
      · rw [← hk2]
        obtain ⟨j,rfl⟩ : ∃ j,k = j + 1 := ⟨k - 1,by omega⟩
        rw [mostN,if_neg hv]
        rfl
      · (repeat' first|exact trivial|refine And.intro ?_ ?_)<;>first|rfl|skip
        show AV.i ((k : Int) - 1) = AV.i ((k - 1 : Nat) : Int)
        exact congrArg AV.i (by omega)
      · (repeat' first|exact trivial|refine And.intro ?_ ?_)<;>first|rfl|skip
  · rw [if_neg h] at hr
    rw [if_neg h]
    repeat (first|(refine qz0 ?_;(refine m_mov (by conv => lhs; whnf) ?_))|refine qz1 ?_|refine qz3 ?_)
    (refine qz0 ?_);(apply qza (hr));(· repeat (first|exact qz4|(refine qz2 ?_ ?_;(· exact qzd))))
    repeat (first|(refine qz0 ?_;(first|(refine m_mov (by conv => lhs; whnf) ?_)|(refine m_not rfl ?_)|(refine m_ext rfl rfl ?_)|(refine qxb ?_)|(refine qx9 rfl rfl rfl ?_ ?_ ?_ ?_;(· first|rfl|(simp [*]; done));(· first|rfl|(simp [*]; done));(· first|rfl|(simp [cellOk,Value.oneCell']; done)))))|refine qz1 ?_|refine qz3 ?_|(refine qzf rfl ?_ ?_;(· (refine nt ?_; assumption)))|refine qz6 ?_|refine qzj ?_|refine qzc ?_|refine qy8 ?_)
    exact qyh (qxa rfl) (qyb (by simp [h]))
end Go.Proofs.YtngfogpbljconaaGreatDoor
namespace Go.Am
variable [Go.Am.CodeBlk]
def fac : Nat → Int
  | 0 => 1
  | n + 1 => fac n * (n + 1)
theorem fac_le : ∀ n < 13,1 ≤ fac n ∧ fac n ≤ 479001600 := by decide +kernel
def nn : Nat → Int × Int
  | 0 => (1,0)
  | j + 1 => ((nn j).2,((j : Int) + 2 - 1) * ((nn j).1 + (nn j).2))
theorem nn_le : ∀ n < 13,(0 ≤ (nn n).1 ∧ (nn n).1 ≤ 10000000000) ∧ 0 ≤ (nn n).2 ∧ (nn n).2 ≤ 10000000000 := by decide +kernel
def noneN (n : Nat) : Int := if n = 0 then 1 else (nn (n - 1)).2
def facs (g : Nat) : List Int := (List.range (g + 1)).map fac
def apIn (w : List Int) (g : Nat) : Nat → List Int
  | 0 => w
  | j + 1 => (apIn w g j).set (g - j) ((apIn w g j).getD (g - j) 0 - (apIn w g j).getD (g - j - 1) 0)
def apOut (g : Nat) : Nat → List Int
  | 0 => facs g
  | s + 1 => apIn (apOut g s) g g
def cap : Nat → Int
  | 0 => 479001600
  | s + 1 => 2 * cap s
end Go.Am
namespace Go.Proofs.YtngfogpbljconaaGreatDoor
variable [Go.Am.CodeBlk]
open Go.Am
attribute [local irreducible] AW Outs Weak Lends Lend Sp aops atree aop1 Then Round InBlock Done
theorem factorial_spec (n : Nat) (h : n ≤ 12) : Sp Tryz.prog 71 [.i n] (.i (fac n)) := by
  refine qy7 Tryz.func71 rfl cc71 rfl ?_
  unfold ac71
  repeat (first|(refine qz0 ?_;(refine m_mov (by conv => lhs; whnf) ?_))|refine qz1 ?_|refine qz3 ?_|refine qz6 ?_|refine qz8 ?_)
  refine qyf (α := Nat) (fun j => j + 1 ≤ n ∨ j = 0) (fun j => st [(0,.i n),(3,.i (fac (j + 1))),(4,.i ((j : Int) + 2))] []) (fun j => n - j) 0 (.inr rfl) (qz9 ?_ ?_ rfl rfl) ?_
  · (repeat' first|exact trivial|refine And.intro ?_ ?_)<;>first|rfl|skip
  · trivial
  intro j hj
  by_cases hc : (j : Int) + 2 ≤ n
  · have hb := fac_le (j + 2) (by omega)
    have e : fac (j + 2) = fac (j + 1) * ((j : Int) + 2) := rfl
    rw [e] at hb
    repeat (first|(refine qz0 ?_;(first|(refine m_mov (by conv => lhs; whnf) ?_)|(refine m_leq rfl rfl ?_)|(refine m_add rfl rfl ?_ ?_ ?_;(· omega);(· omega))|(refine m_mul rfl rfl ?_ ?_ ?_;(· first|omega|(simp; done));(· first|omega|(simp; done)))))|refine qz1 ?_|refine qz3 ?_|refine qy5 ?_|(refine qzf rfl ?_ ?_;(· (refine decide_eq_true ?_; assumption)))|refine qz5 ?_|refine qz6 ?_|refine qz7 ?_|refine qz8 ?_|refine qze ?_)
    refine qzb (j + 1) (by omega) (qz9 ?_ ?_ rfl rfl) ?_
    · (repeat' first|exact trivial|refine And.intro ?_ ?_)<;>first|rfl|skip
    · trivial
    · omega
  · repeat (first|(refine qz0 ?_;(first|(refine m_mov (by conv => lhs; whnf) ?_)|(refine m_leq rfl rfl ?_)))|refine qz1 ?_|refine qz3 ?_|(refine qzi rfl ?_ ?_;(· (refine decide_eq_false ?_; assumption)))|refine qz6 ?_|refine qzj ?_|refine qzc ?_|refine qz7 ?_|refine qy1 ?_|refine qy0 ?_|refine qy9 ?_|refine qzg ?_)
    refine qxa ?_
    rcases hj with hj|rfl
    · have : j + 1 = n := by omega
      rw [this]
    · have : n = 0 ∨ n = 1 := by omega
      rcases this with rfl|rfl <;> rfl
theorem exNone_spec (n : Nat) (h : n ≤ 12) : Sp Tryz.prog 102 [.i n] (.i (noneN n)) := by
  refine qy7 Tryz.func102 rfl cc102 rfl ?_
  unfold ac102
  repeat (first|(refine qz0 ?_;(refine m_mov (by conv => lhs; whnf) ?_))|refine qz1 ?_|refine qz3 ?_|refine qz6 ?_|refine qz8 ?_)
  refine qyf (α := Nat) (fun j => j + 1 ≤ n ∨ j = 0) (fun j => st [(0,.i n),(3,.i (nn j).1),(4,.i (nn j).2),(5,.i ((j : Int) + 2))] []) (fun j => n - j) 0 (.inr rfl) (qz9 ?_ ?_ rfl rfl) ?_
  · (repeat' first|exact trivial|refine And.intro ?_ ?_)<;>first|rfl|skip
  · trivial
  intro j hj
  by_cases hc : (j : Int) + 2 ≤ n
  · have hb := nn_le (j + 1) (by omega)
    have hb0 := nn_le j (by omega)
    have e : nn (j + 1) = ((nn j).2,((j : Int) + 2 - 1) * ((nn j).1 + (nn j).2)) := rfl
    rw [e] at hb
    dsimp only at hb
    repeat (first|(refine qz0 ?_;(first|(refine m_mov (by conv => lhs; whnf) ?_)|(refine m_leq rfl rfl ?_)|(refine m_add rfl rfl ?_ ?_ ?_;(· omega);(· omega))|(refine m_sub rfl rfl ?_ ?_ ?_;(· omega);(· omega))|(refine m_mul rfl rfl ?_ ?_ ?_;(· first|omega|(simp; done));(· first|omega|(simp; done)))))|refine qz1 ?_|refine qz3 ?_|refine qy5 ?_|(refine qzf rfl ?_ ?_;(· (refine decide_eq_true ?_; assumption)))|refine qz5 ?_|refine qz6 ?_|refine qz7 ?_|refine qz8 ?_|refine qze ?_)
    refine qzb (j + 1) (by omega) (qz9 ?_ ?_ rfl rfl) ?_
    · (repeat' first|exact trivial|refine And.intro ?_ ?_)<;>first|rfl|skip
    · trivial
    · omega
  · by_cases h0 : n = 0
    · subst h0
      repeat (first|(refine qz0 ?_;(first|(refine m_mov (by conv => lhs; whnf) ?_)|(refine m_leq rfl rfl ?_)|(refine m_eql rfl rfl ?_)))|refine qz1 ?_|refine qz3 ?_|(refine qzf rfl ?_ ?_;(· rfl))|(refine qzi rfl ?_ ?_;(· rfl))|refine qz6 ?_|refine qzj ?_|refine qzc ?_|refine qz7 ?_|refine qy8 ?_|refine qy1 ?_|refine qy0 ?_|refine qy9 ?_|refine qzg ?_)
      exact qxa rfl
    · have hn0 : ¬ (n : Int) = 0 := by omega
      repeat (first|(refine qz0 ?_;(first|(refine m_mov (by conv => lhs; whnf) ?_)|(refine m_leq rfl rfl ?_)|(refine m_eql rfl rfl ?_)))|refine qz1 ?_|refine qz3 ?_|(refine qzi rfl ?_ ?_;(· (refine decide_eq_false ?_; assumption)))|refine qz5 ?_|refine qz6 ?_|refine qzj ?_|refine qzc ?_|refine qz7 ?_|refine qy1 ?_|refine qy0 ?_|refine qy9 ?_|refine qzg ?_)
      refine qxa ?_
      rw [noneN,if_neg h0]
      have : j = n - 1 := by omega
      rw [this]
end Go.Proofs.YtngfogpbljconaaGreatDoor
namespace Go.Proofs.YtngfogpbljconaaGreatDoor
variable [Go.Am.CodeBlk]
open Go.Am
attribute [local irreducible] AW Outs Weak Lends Lend Sp aops atree aop1 Then Round InBlock Done
theorem exTimes_spec (n : Nat) (h : n ≤ 12) : Sp Tryz.prog 73 [.i n] (.i (fac n)) := by
  refine qy7 Tryz.func73 rfl cc73 rfl ?_
  unfold ac73
  repeat (first|(refine qz0 ?_;(refine m_mov (by conv => lhs; whnf) ?_))|refine qz1 ?_|refine qz3 ?_|refine qz6 ?_|refine qz8 ?_)
  refine qyf (α := Nat) (fun j => j + 1 ≤ n ∨ j = 0) (fun j => st [(0,.i n),(3,.i (fac (j + 1))),(4,.i ((j : Int) + 2))] []) (fun j => n - j) 0 (.inr rfl) (qz9 ?_ ?_ rfl rfl) ?_
  · (repeat' first|exact trivial|refine And.intro ?_ ?_)<;>first|rfl|skip
  · trivial
  intro j hj
  by_cases hc : (j : Int) + 2 ≤ n
  · have hb := fac_le (j + 2) (by omega)
    have e : fac (j + 2) = fac (j + 1) * ((j : Int) + 2) := rfl
    rw [e] at hb
    repeat (first|(refine qz0 ?_;(first|(refine m_mov (by conv => lhs; whnf) ?_)|(refine m_leq rfl rfl ?_)|(refine m_add rfl rfl ?_ ?_ ?_;(· omega);(· omega))|(refine m_mul rfl rfl ?_ ?_ ?_;(· first|omega|(simp; done));(· first|omega|(simp; done)))))|refine qz1 ?_|refine qz3 ?_|refine qy5 ?_|(refine qzf rfl ?_ ?_;(· (refine decide_eq_true ?_; assumption)))|refine qz5 ?_|refine qz6 ?_|refine qz7 ?_|refine qz8 ?_|refine qze ?_)
    refine qzb (j + 1) (by omega) (qz9 ?_ ?_ rfl rfl) ?_
    · (repeat' first|exact trivial|refine And.intro ?_ ?_)<;>first|rfl|skip
    · trivial
    · omega
  · repeat (first|(refine qz0 ?_;(first|(refine m_mov (by conv => lhs; whnf) ?_)|(refine m_leq rfl rfl ?_)))|refine qz1 ?_|refine qz3 ?_|(refine qzi rfl ?_ ?_;(· (refine decide_eq_false ?_; assumption)))|refine qz6 ?_|refine qzj ?_|refine qzc ?_|refine qz7 ?_|refine qy1 ?_|refine qy0 ?_|refine qy9 ?_|refine qzg ?_)
    refine qxa ?_
    rcases hj with hj|rfl
    · have : j + 1 = n := by omega
      rw [this]
    · have : n = 0 ∨ n = 1 := by omega
      rcases this with rfl|rfl <;> rfl
end Go.Proofs.YtngfogpbljconaaGreatDoor
namespace Go.Proofs.YtngfogpbljconaaGreatDoor
variable [Go.Am.CodeBlk]
open Go.Am
attribute [local irreducible] AW Outs Weak Lends Lend Sp aops atree aop1 Then Round InBlock Done
theorem qvb (L : List Int) (hL : L.length ≤ 1048576) : Sp Tryz.prog 66 [ints L] (newInts L) := by
  refine qy7 Tryz.func66 rfl cc66 rfl ?_
  unfold ac66
  repeat (first|(refine qz0 ?_;(first|(refine m_mov (by conv => lhs; whnf) ?_)|(refine qx2 ?_)|(refine m_bsl0 ?_)|(refine m_appro rfl (by decide) rfl (by first|rfl|(simp; done)|(simp [*]; done)|(simp; omega)) rfl (oks_ints _) ?_ (by decide) ?_;(· first|omega|(simp; omega)))))|refine qz1 ?_|refine qz3 ?_|refine qzj ?_|refine qzc ?_)
  exact qx3 rfl rfl (Nat.zero_add _)
theorem slicesClone_spec (L : List Int) (hL : L.length ≤ 1048576) (h1 : 1 ≤ L.length) : Sp Tryz.prog 90 [ints L] (newInts L) := by
  refine qy7 Tryz.func90 rfl cc90 rfl ?_
  unfold ac90
  repeat (first|(refine qz0 ?_;(first|(refine m_mov (by conv => lhs; whnf) ?_)|(refine m_isnil_ro rfl ?_ ?_;(· omega))|(refine qx2 ?_)|(refine m_bsl0 ?_)|(refine m_appro rfl (by decide) rfl (by first|rfl|(simp; done)|(simp [*]; done)|(simp; omega)) rfl (oks_ints _) ?_ (by decide) ?_;(· first|omega|(simp; omega)))))|refine qz1 ?_|refine qz3 ?_|(refine qzi rfl ?_ ?_;(· rfl))|refine qz5 ?_|refine qz6 ?_|refine qzj ?_|refine qzc ?_)
  exact qx3 rfl rfl (Nat.zero_add _)
end Go.Proofs.YtngfogpbljconaaGreatDoor
namespace Go.Am
variable [Go.Am.CodeBlk]
def w64 (x : Int) : Int := IntKind.i64.wrap x
section
variable {P : Program} {own : Bool} {s : AS} {K : AS → Prop} {d : Option Nat} {x y : Opd} {a b : Int}
theorem m_subw (hx : s.ev x = .i a) (hy : s.ev y = .i b) (k : K (s.put d (.i (w64 (a - b))))) : aop1 P own ⟨d,.bin .sub x y,none⟩ s K := ⟨_,_,_,hx,hy,rfl,k⟩
theorem m_mulw (hx : s.ev x = .i a) (hy : s.ev y = .i b) (k : K (s.put d (.i (w64 (a * b))))) : aop1 P own ⟨d,.bin .mul x y,none⟩ s K := ⟨_,_,_,hx,hy,rfl,k⟩
end
def chy (n k : Nat) : Nat → Int
  | 0 => 1
  | j + 1 => chy n k j * ((n : Int) - k + ((j : Int) + 1)) / ((j : Int) + 1)
theorem chy_le : ∀ n < 9,∀ k < n + 1,∀ j < k + 1,(0 ≤ chy n k j ∧ chy n k j ≤ 1000) ∧ 0 ≤ chy n k j * ((n : Int) - k + ((j : Int) + 1)) ∧ chy n k j * ((n : Int) - k + ((j : Int) + 1)) ≤ 100000 := by decide +kernel
theorem chy_bin : ∀ n < 9,∀ k < n + 1,chy n k k = fac n / (fac k * fac (n - k)) ∧ (1 ≤ fac k * fac (n - k) ∧ fac k * fac (n - k) ≤ 40320) ∧ 1 ≤ fac n ∧ fac n ≤ 40320 := by decide +kernel
def hF (c : Int) (k : Nat) (rest : List Int) : Nat → Int
  | 0 => c
  | j + 1 => w64 (hF c k rest j - w64 (chy (k + 1 + j) k k * rest.getD j 0))
def hL (C : Nat → Int) (n : Nat) : Nat → List Int
  | 0 => []
  | d + 1 => hF (C (n - d)) (n - d) (hL C n d) d :: hL C n d
theorem hL_len (C : Nat → Int) (n : Nat) : ∀ d,(hL C n d).length = d
  | 0 => rfl
  | d + 1 => by rw [hL,List.length_cons,hL_len C n d]
def chC (f : Nat → Nat) (n k : Nat) : Int := (f k : Int) * fac (n - k)
def chL (f : Nat → Nat) (n k : Nat) : List Int := (List.range k).map fun i => chC f n i
theorem chL_len (f : Nat → Nat) (n k : Nat) : (chL f n k).length = k := by simp [chL]
theorem chC_le {f : Nat → Nat} {n k : Nat} (hf : f k ≤ 43046721) (hn : n ≤ 8) : 0 ≤ chC f n k ∧ chC f n k ≤ 43046721 * 479001600 := by
  have h1 := fac_le (n - k) (by omega)
  unfold chC
  exact ⟨Int.mul_nonneg (by omega) (by omega),Int.mul_le_mul (by omega) h1.2 (by omega) (by omega)⟩
end Go.Am
namespace Go.Proofs.YtngfogpbljconaaGreatDoor
variable [Go.Am.CodeBlk]
open Go.Am
attribute [local irreducible] AW Outs Weak Lends Lend Sp aops atree aop1 Then Round InBlock Done
attribute [local irreducible] SpH SpX DoneH DoneX
theorem exChooseY_spec (n k : Nat) (hn : n ≤ 8) (hk : k ≤ n) : Sp Tryz.prog 74 [.i n,.i k] (.i (chy n k k)) := by
  refine qy7 Tryz.func74 rfl cc74 rfl ?_
  unfold ac74
  repeat (first|(refine qz0 ?_;(refine m_mov (by conv => lhs; whnf) ?_))|refine qz1 ?_|refine qz3 ?_|refine qz6 ?_|refine qz8 ?_)
  refine qyf (α := Nat) (fun j => j ≤ k) (fun j => st [(0,.i n),(1,.i k),(5,.i (chy n k j)),(6,.i ((j : Int) + 1))] []) (fun j => k - j) 0 (by omega) (qz9 ?_ ?_ rfl rfl) ?_
  · (repeat' first|exact trivial|refine And.intro ?_ ?_)<;>first|rfl|skip
  · trivial
  intro j hj
  have hb := chy_le n (by omega) k (by omega) j (by omega)
  by_cases hc : (j : Int) + 1 ≤ k
  · repeat (first|(refine qz0 ?_;(first|(refine m_mov (by conv => lhs; whnf) ?_)|(refine m_leq rfl rfl ?_)|(refine m_add rfl rfl ?_ ?_ ?_;(· omega);(· omega))|(refine m_sub rfl rfl ?_ ?_ ?_;(· omega);(· omega))|(refine m_mul rfl rfl ?_ ?_ ?_;(· first|omega|(simp; done));(· first|omega|(simp; done)))|(refine m_quo rfl rfl ?_ ?_ ?_ ?_;(· omega);(· omega);(· omega))))|refine qz1 ?_|refine qz3 ?_|refine qy5 ?_|(refine qzf rfl ?_ ?_;(· (refine decide_eq_true ?_; assumption)))|refine qz5 ?_|refine qz6 ?_|refine qz7 ?_|refine qz8 ?_|refine qze ?_)
    refine qzb (j + 1) (by omega) (qz9 ?_ ?_ rfl rfl) ?_
    · (repeat' first|exact trivial|refine And.intro ?_ ?_)<;>first|rfl|skip
    · trivial
    · omega
  · repeat (first|(refine qz0 ?_;(first|(refine m_mov (by conv => lhs; whnf) ?_)|(refine m_leq rfl rfl ?_)))|refine qz1 ?_|refine qz3 ?_|(refine qzi rfl ?_ ?_;(· (refine decide_eq_false ?_; assumption)))|refine qz6 ?_|refine qzj ?_|refine qzc ?_|refine qz7 ?_|refine qy1 ?_|refine qy0 ?_|refine qy9 ?_|refine qzg ?_)
    obtain rfl : j = k := by omega
    exact qxa rfl
theorem countChoicesY_spec (n k : Nat) (hn : n ≤ 8) (hk : k ≤ n) : Sp Tryz.prog 94 [.i n,.i k] (.i (chy n k k)) := by
  have hb := chy_bin n (by omega) k (by omega)
  rw [hb.1]
  refine qy7 Tryz.func94 rfl cc94 rfl ?_
  unfold ac94
  repeat (first|(refine qz0 ?_;(refine m_mov (by conv => lhs; whnf) ?_))|refine qz1 ?_|refine qz3 ?_)
  (refine qz0 ?_);(apply qza (factorial_spec n (by omega)));(· repeat (first|exact qz4|(refine qz2 ?_ ?_;(· exact qzd))))
  repeat (refine qz0 ?_;(refine m_mov (by conv => lhs; whnf) ?_))
  (refine qz0 ?_);(apply qza (factorial_spec k (by omega)));(· repeat (first|exact qz4|(refine qz2 ?_ ?_;(· exact qzd))))
  repeat (refine qz0 ?_;(first|(refine m_mov (by conv => lhs; whnf) ?_)|(refine m_sub rfl rfl ?_ ?_ ?_;(· omega);(· omega))))
  rw [show (n : Int) - (k : Int) = ((n - k : Nat) : Int) by omega]
  (refine qz0 ?_);(apply qza (factorial_spec (n - k) (by omega)));(· repeat (first|exact qz4|(refine qz2 ?_ ?_;(· exact qzd))))
  repeat (first|(refine qz0 ?_;(first|(refine m_mov (by conv => lhs; whnf) ?_)|(refine m_mul rfl rfl ?_ ?_ ?_;(· first|omega|(simp; done));(· first|omega|(simp; done)))|(refine m_quo rfl rfl ?_ ?_ ?_ ?_;(· omega);(· omega);(· omega))))|refine qz1 ?_|refine qzj ?_|refine qzc ?_)
  exact qxa rfl
theorem justSoManyY_spec (f : Nat → Nat) (n : Nat) (h1 : 1 ≤ n) (h8 : n ≤ 8) : Sp Tryz.prog 72 [ints (chL f n (n + 1))] (newInts (hL (chC f n) n (n + 1))) := by
  have hcl := chL_len f n (n + 1)
  refine qy7 Tryz.func72 rfl cc72 rfl ?_
  unfold ac72
  repeat (first|(refine qz0 ?_;(first|(refine m_mov (by conv => lhs; whnf) ?_)|(refine qx2 ?_)))|refine qz1 ?_|refine qz3 ?_)
  refine qz0 ?_;(apply qwh (slicesClone_spec (chL f n (n + 1)) (by omega) (by omega)));(· repeat (first|exact qz4|(refine qz2 ?_ ?_;(· (refine qy2 ?_; first|rfl|omega)))));(· first|exact qx0 _|rfl|(simp; done))
  repeat (first|(refine qz0 ?_;(first|(refine m_mov (by conv => lhs; whnf) ?_)|(refine m_sub rfl rfl ?_ ?_ ?_;(· omega);(· omega))|(refine qwd rfl ?_)))|refine qz1 ?_|refine qz3 ?_|refine qz6 ?_|refine qz8 ?_)
  refine qyf (α := Nat) (fun d => d ≤ n + 1) (fun d => st [(3,.sl 7 1 0 (n + 1)),(4,.i (((n + 1 - d : Nat) : Int) - 1))] [(7,(true,(chL f n (n + 1 - d) ++ hL (chC f n) n d).map AV.i))]) (fun d => n + 1 - d) 0 (by omega) (qz9 ?_ ?_ rfl rfl) ?_
  · (repeat' first|exact trivial|refine And.intro ?_ ?_)<;>first|rfl|skip
    · show AV.sl 7 1 0 (chL f n (n + 1)).length = _
      rw [hcl]
    · show AV.i (((chL f n (n + 1)).length : Nat) - 1 : Int) = _
      rw [hcl]
      rfl
  · (repeat' first|exact trivial|refine And.intro ?_ ?_)<;>first|rfl|skip
    show some (true,List.map AV.i (chL f n (n + 1))) = some (true,List.map AV.i (chL f n (n + 1) ++ []))
    rw [List.append_nil]
  intro d hd
  have hll := hL_len (chC f n) n d
  by_cases hc : d < n + 1
  · obtain ⟨k,hk⟩ : ∃ k,n - d = k := ⟨_,rfl⟩
    have hkd : n + 1 - d = k + 1 := by omega
    have hcs : chL f n (k + 1) = chL f n k ++ [chC f n k] := by simp [chL,List.range_succ]
    rw [hkd,show ((k + 1 : Nat) : Int) - 1 = (k : Int) by omega,hcs,List.append_assoc,List.singleton_append]
    have hlk := chL_len f n k
    repeat (first|(refine qz0 ?_;(first|(refine m_mov (by conv => lhs; whnf) ?_)|(refine m_geq rfl rfl ?_)|(refine m_add rfl rfl ?_ ?_ ?_;(· omega);(· omega))))|refine qz1 ?_|refine qz3 ?_|(refine qzf rfl ?_ ?_;(· rfl))|refine qz5 ?_|refine qz6 ?_|refine qz8 ?_)
    refine qyf (α := Nat) (fun j => j ≤ d) (fun j => st [(3,.sl 7 1 0 (n + 1)),(4,.i k),(5,.i ((k + 1 + j : Nat) : Int))] [(7,(true,(chL f n k ++ hF (chC f n k) k (hL (chC f n) n d) j :: hL (chC f n) n d).map AV.i))]) (fun j => d - j) 0 (by omega) (qz9 ?_ ?_ rfl rfl) ?_
    · (repeat' first|exact trivial|refine And.intro ?_ ?_)<;>first|rfl|skip
    · (repeat' first|exact trivial|refine And.intro ?_ ?_)<;>first|rfl|skip
    intro j hj
    have hM : (chL f n k ++ hF (chC f n k) k (hL (chC f n) n d) j :: hL (chC f n) n d).length = n + 1 := by
      rw [List.length_append,List.length_cons,hll,hlk]; omega
    by_cases hc2 : j < d
    · have g1 : (chL f n k ++ hF (chC f n k) k (hL (chC f n) n d) j :: hL (chC f n) n d).getD k 0 = hF (chC f n k) k (hL (chC f n) n d) j := by
        rw [List.getD_eq_getElem?_getD,List.getElem?_append_right (by omega),hlk,Nat.sub_self]; rfl
      have g2 : (chL f n k ++ hF (chC f n k) k (hL (chC f n) n d) j :: hL (chC f n) n d).getD (k + 1 + j) 0 = (hL (chC f n) n d).getD j 0 := by
        rw [List.getD_eq_getElem?_getD,List.getElem?_append_right (by omega),hlk,show k + 1 + j - k = j + 1 by omega]; rfl
      repeat (first|((first|refine qz0 ?_|refine qzh ?_);(first|(refine m_mov (by conv => lhs; whnf) ?_)|(refine m_lss rfl rfl ?_)|(refine qwd rfl ?_)|(refine qxf rfl rfl ?_ ?_;(· omega))|(refine qu0 rfl (by rfl) ?_ ?_;(· first|omega|(simp; omega)))))|refine qz1 ?_|refine qz3 ?_|refine AW_tree ?_|(refine qzf rfl ?_ ?_;(· (refine decide_eq_true ?_; omega)))|refine qz5 ?_|refine qz6 ?_|refine qz8 ?_)
      refine qzh ?_;(apply qza (countChoicesY_spec (k + 1 + j) k (by omega) (by omega)));(· repeat (first|exact qz4|(refine qz2 ?_ ?_;(· exact qzd))))
      repeat (refine qzh ?_;(first|(refine m_mov (by conv => lhs; whnf) ?_)|(refine qxf rfl rfl ?_ ?_;(· omega))|(refine qu0 rfl (by rfl) ?_ ?_;(· first|omega|(simp; omega)))))
      refine qzh ?_
      refine m_mulw rfl rfl ?_
      refine qzh ?_
      refine m_subw rfl rfl ?_
      repeat (first|((first|refine qz0 ?_|refine qzh ?_);(first|(refine m_mov (by conv => lhs; whnf) ?_)|(refine m_add rfl rfl ?_ ?_ ?_;(· omega);(· omega))|(refine qxf rfl rfl ?_ ?_;(· omega))|(apply m_st;(· rfl);(· rfl);(· rfl);(· first|omega|(simp; done)|(simp; omega));(· rfl))))|refine qz1 ?_|refine qy5 ?_|refine qxc ?_|refine qz7 ?_|refine qze ?_)
      refine qzb (j + 1) (by omega) (qz9 ?_ ?_ rfl rfl) (by omega)
      · (repeat' first|exact trivial|refine And.intro ?_ ?_)<;>first|rfl|skip
      · (repeat' first|exact trivial|refine And.intro ?_ ?_)<;>first|rfl|skip
        show some (true,List.set (List.map AV.i _) _ (AV.i _)) = some (true,List.map AV.i _)
        rw [g1,g2,← List.map_set,List.set_append_right _ _ (by omega),hlk,Nat.sub_self,List.set_cons_zero]
        rfl
    · obtain rfl : j = d := by omega
      repeat (first|(refine qz0 ?_;(first|(refine m_mov (by conv => lhs; whnf) ?_)|(refine m_lss rfl rfl ?_)|(refine m_sub rfl rfl ?_ ?_ ?_;(· omega);(· omega))|(refine qwd rfl ?_)))|refine qz1 ?_|refine qz3 ?_|refine qy5 ?_|(refine qzi rfl ?_ ?_;(· (refine decide_eq_false ?_; omega)))|refine qz6 ?_|refine qz7 ?_|refine qy1 ?_|refine qze ?_|refine qy0 ?_|refine qy9 ?_|refine qzg ?_)
      refine qzb (j + 1) (by omega) (qz9 ?_ ?_ rfl rfl) (by omega)
      · (repeat' first|exact trivial|refine And.intro ?_ ?_)<;>first|rfl|skip
        show AV.i ((k : Int) - 1) = AV.i (((n + 1 - (j + 1) : Nat) : Int) - 1)
        exact congrArg AV.i (by omega)
      · (repeat' first|exact trivial|refine And.intro ?_ ?_)<;>first|rfl|skip
        show some (true,List.map AV.i _) = some (true,List.map AV.i (chL f n (n + 1 - (j + 1)) ++ hL (chC f n) n (j + 1)))
        rw [hL,hk,show n + 1 - (j + 1) = k by omega]
  · obtain rfl : d = n + 1 := by omega
    rw [Nat.sub_self]
    repeat (first|(refine qz0 ?_;(first|(refine m_mov (by conv => lhs; whnf) ?_)|(refine m_geq rfl rfl ?_)))|refine qz1 ?_|refine qz3 ?_|(refine qzi rfl ?_ ?_;(· rfl))|refine qz6 ?_|refine qzj ?_|refine qzc ?_|refine qz7 ?_|refine qy1 ?_|refine qy0 ?_|refine qy9 ?_|refine qzg ?_)
    exact qx3 rfl (by simp [chL]) hll.symm
theorem hitNumbers_spec (B : List UInt8) (h : GoodBd B) : Sp Tryz.prog 47 [.agg [.i (sdB B : Nat),.rmp false (mkEs (plB B)) (plB B).length]] (newInts (hL (chC (rkN (fbB B) (sdB B)) (sdB B)) (sdB B) (sdB B + 1))) := by
  have hsd := qx5 h
  have hk := rookNew_spec B h
  have hle : ∀ k,rkN (fbB B) (sdB B) k ≤ 43046721 := fun k => qug h (by omega) 0 k
  generalize rkN (fbB B) (sdB B) = f at *
  have hlr := qvj (sdB B) f
  refine qy7 Tryz.func47 rfl cc47 rfl ?_
  unfold ac47
  repeat (first|(refine qz0 ?_;(first|(refine qx2 ?_)|(refine m_box rfl ?_ ?_;(· first|rfl|(simp [cellOk,Value.oneCell']; done)))|(refine qv7 rfl rfl ?_ ?_;(· first|rfl|(simp; done)|(simp [*]; done)))))|refine qz1 ?_|refine qz3 ?_)
  refine qz0 ?_
  refine qwh hk (qz2 (qwi rfl) qz4) (qx0 _) ?_
  repeat (first|(refine qz0 ?_;(first|(refine m_mov (by conv => lhs; whnf) ?_)|(refine qwd rfl ?_)))|refine qz1 ?_|refine qz3 ?_|refine qz6 ?_|refine qz8 ?_)
  refine qyf (α := Nat) (fun k => k ≤ sdB B + 1) (fun k => st [(1,.pt 1 0),(3,.sl 6 1 0 (sdB B + 1)),(8,.i (sdB B + 1 : Nat)),(9,.i (k : Nat))]
    [(1,(true,[.i (sdB B : Nat),.rmp false (mkEs (plB B)) (plB B).length])),(6,(true,(chL f (sdB B) k ++ (rgL (sdB B) f).drop k).map AV.i))]) (fun k => sdB B + 1 - k) 0 (by omega) (qz9 ?_ ?_ rfl rfl) ?_
  · (repeat' first|exact trivial|refine And.intro ?_ ?_)<;>first|rfl|skip
    · show AV.sl 6 1 0 (rgL (sdB B) f).length = _
      rw [hlr]
    · show AV.i ((rgL (sdB B) f).length : Nat) = _
      rw [hlr]
  · (repeat' first|exact trivial|refine And.intro ?_ ?_)<;>first|rfl|skip
  rintro k hk2
  have hlk := chL_len f (sdB B) k
  by_cases hk1 : k < sdB B + 1
  · have hM : (chL f (sdB B) k ++ (rgL (sdB B) f).drop k).length = sdB B + 1 := by
      rw [List.length_append,List.length_drop,hlr,hlk]; omega
    have g1 : (chL f (sdB B) k ++ (rgL (sdB B) f).drop k).getD k 0 = (f k : Int) := by
      rw [List.getD_eq_getElem?_getD,List.getElem?_append_right (by omega),hlk,Nat.sub_self,List.getElem?_drop,Nat.add_zero,← List.getD_eq_getElem?_getD]
      exact qva f hk1
    have hb := chC_le (f := f) (n := sdB B) (k := k) (hle k) hsd.2
    unfold chC at hb
    rw [← g1] at hb
    repeat (first|((first|refine qz0 ?_|refine qzh ?_);(first|(refine m_mov (by conv => lhs; whnf) ?_)|(refine m_lss rfl rfl ?_)|(refine m_sub rfl rfl ?_ ?_ ?_;(· omega);(· omega))|(refine qxf rfl rfl ?_ ?_;(· omega))|(refine qu0 rfl (by rfl) ?_ ?_;(· first|omega|(simp; omega)))|(apply qx8;(· rfl);(· rfl);(· rfl))|(refine m_fa rfl ?_)))|refine qz1 ?_|refine qz3 ?_|refine AW_tree ?_|(refine qzf rfl ?_ ?_;(· (refine decide_eq_true ?_; omega)))|refine qz5 ?_|refine qz6 ?_|refine qz8 ?_)
    rw [show ((sdB B : Nat) : Int) - (k : Int) = ((sdB B - k : Nat) : Int) by omega]
    refine qzh ?_;(apply qza (factorial_spec (sdB B - k) (by omega)));(· repeat (first|exact qz4|(refine qz2 ?_ ?_;(· exact qzd))))
    repeat (first|((first|refine qz0 ?_|refine qzh ?_);(first|(refine m_mov (by conv => lhs; whnf) ?_)|(refine m_add rfl rfl ?_ ?_ ?_;(· omega);(· omega))|(refine m_mul rfl rfl ?_ ?_ ?_;(· first|omega|(simp; done));(· first|omega|(simp; done)))|(refine qxf rfl rfl ?_ ?_;(· omega))|(apply m_st;(· rfl);(· rfl);(· rfl);(· first|omega|(simp; done)|(simp; omega));(· rfl))))|refine qz1 ?_|refine qy5 ?_|refine qxc ?_|refine qz7 ?_|refine qze ?_)
    refine qzb (k + 1) (by omega) (qz9 ?_ ?_ rfl rfl) (by omega)
    · (repeat' first|exact trivial|refine And.intro ?_ ?_)<;>first|rfl|skip
    · (repeat' first|exact trivial|refine And.intro ?_ ?_)<;>first|rfl|skip
      show some (true,List.set (List.map AV.i _) _ (AV.i _)) = some (true,List.map AV.i _)
      rw [← List.map_set,g1,List.set_append_right _ _ (by omega),hlk,Nat.sub_self]
      have e : (rgL (sdB B) f).drop k = (rgL (sdB B) f).getD k 0 :: (rgL (sdB B) f).drop (k + 1) := by
        rw [List.drop_eq_getElem_cons (by omega)]; simp [hlr,hk1]
      rw [e,List.set_cons_zero,show chL f (sdB B) (k + 1) = chL f (sdB B) k ++ [chC f (sdB B) k] by simp [chL,List.range_succ],List.append_assoc]
      rfl
  · have hke : k = sdB B + 1 := by omega
    subst hke
    rw [List.drop_eq_nil_of_le (by omega),List.append_nil]
    have hj := justSoManyY_spec f (sdB B) hsd.1 hsd.2
    have hl2 := hL_len (chC f (sdB B)) (sdB B) (sdB B + 1)
    repeat (first|(refine qz0 ?_;(first|(refine m_mov (by conv => lhs; whnf) ?_)|(refine m_lss rfl rfl ?_)))|refine qz1 ?_|refine qz3 ?_|(refine qzi rfl ?_ ?_;(· (refine decide_eq_false ?_; omega)))|refine qz6 ?_|refine qz7 ?_|refine qy1 ?_|refine qy0 ?_|refine qy9 ?_|refine qzg ?_)
    refine qz0 ?_
    refine qwh hj (qz2 (qw9 (L := chL f (sdB B) (sdB B + 1)) rfl hlk.symm) qz4) (qx0 _) ?_
    repeat (first|(refine qz0 ?_;(refine m_mov (by conv => lhs; whnf) ?_))|refine qz1 ?_|refine qzj ?_|refine qzc ?_)
    exact qx3 rfl rfl rfl
theorem bdHit_spec (B : List UInt8) (h : GoodBd B) (hB : B.length ≤ 1048576) : Sp Tryz.prog 48 [str B] (newInts (hL (chC (rkN (fbB B) (sdB B)) (sdB B)) (sdB B) (sdB B + 1))) := by
  have hsd := qx5 h
  have hk := rooks0_spec B h hB
  have hle : ∀ k,rkN (fbB B) (sdB B) k ≤ 43046721 := fun k => qug h (by omega) 0 k
  generalize rkN (fbB B) (sdB B) = f at *
  have hlr := qvj (sdB B) f
  have hl2 := hL_len (chC f (sdB B)) (sdB B) (sdB B + 1)
  refine qy7 Tryz.func48 rfl cc48 rfl ?_
  unfold ac48
  repeat (first|(refine qz0 ?_;(first|(refine m_mov (by conv => lhs; whnf) ?_)|(refine qx2 ?_)))|refine qz1 ?_|refine qz3 ?_)
  refine qz0 ?_;(apply qza (qyj B hB));(· repeat (first|exact qz4|(refine qz2 ?_ ?_;(· exact qzd))))
  repeat (first|(refine qz0 ?_;(refine m_mov (by conv => lhs; whnf) ?_))|refine qz1 ?_|refine qz3 ?_)
  refine qz0 ?_;(apply qza (hk));(· repeat (first|exact qz4|(refine qz2 ?_ ?_;(· exact qzd))))
  repeat (first|(refine qz0 ?_;(first|(refine m_mov (by conv => lhs; whnf) ?_)|(refine m_add rfl rfl ?_ ?_ ?_;(· omega);(· omega))))|refine qz1 ?_|refine qz3 ?_)
  refine qz0 ?_
  refine m_mk0 (n := sdB B) rfl rfl (by omega) (by omega) ?_
  repeat (first|(refine qz0 ?_;(refine m_mov (by conv => lhs; whnf) ?_))|refine qz1 ?_|refine qz3 ?_|refine qz6 ?_|refine qz8 ?_)
  refine qyf (α := Nat) (fun d => d ≤ sdB B + 1) (fun d => st [(0,str B),(3,.i (sdB B : Nat)),(4,newInts (rgL (sdB B) f)),(5,.sl 15 1 0 (sdB B + 1)),(6,.i (((sdB B + 1 - d : Nat) : Int) - 1))] [(15,(true,(List.replicate (sdB B + 1 - d) 0 ++ hL (chC f (sdB B)) (sdB B) d).map AV.i))]) (fun d => sdB B + 1 - d) 0 (by omega) (qz9 ?_ ?_ rfl rfl) ?_
  · (repeat' first|exact trivial|refine And.intro ?_ ?_)<;>first|rfl|skip
    show AV.i (sdB B : Nat) = AV.i (((sdB B + 1 - 0 : Nat) : Int) - 1)
    exact congrArg AV.i (by omega)
  · (repeat' first|exact trivial|refine And.intro ?_ ?_)<;>first|rfl|skip
    show some (true,List.map AV.i (rgL (sdB B) fun _ => 0)) = some (true,List.map AV.i (List.replicate (sdB B + 1) 0 ++ []))
    rw [List.append_nil,rgL_zero]
  intro d hd
  unfold newInts
  have hll := hL_len (chC f (sdB B)) (sdB B) d
  by_cases hc : d < sdB B + 1
  · obtain ⟨k,hk⟩ : ∃ k,sdB B - d = k := ⟨_,rfl⟩
    have hkd : sdB B + 1 - d = k + 1 := by omega
    have g0 := qva (n := sdB B) (k := k) f (by omega)
    have hb := chC_le (f := f) (n := sdB B) (k := k) (hle k) hsd.2
    unfold chC at hb
    rw [← g0] at hb
    rw [hkd,show ((k + 1 : Nat) : Int) - 1 = (k : Int) by omega]
    repeat (first|((first|refine qz0 ?_|refine qzh ?_);(first|(refine m_mov (by conv => lhs; whnf) ?_)|(refine m_geq rfl rfl ?_)|(refine m_sub rfl rfl ?_ ?_ ?_;(· omega);(· omega))|(refine qy6 rfl rfl ?_ ?_;(· omega))|(refine qyg rfl ?_ ?_;(· omega))))|refine qz1 ?_|refine qz3 ?_|refine qw3 ?_|(refine qzf rfl ?_ ?_;(· rfl))|refine qz5 ?_|refine qz6 ?_|refine qz8 ?_)
    rw [show ((sdB B : Nat) : Int) - (k : Int) = ((sdB B - k : Nat) : Int) by omega]
    refine qzh ?_;(apply qza (exTimes_spec (sdB B - k) (by omega)));(· repeat (first|exact qz4|(refine qz2 ?_ ?_;(· exact qzd))))
    repeat (first|((first|refine qz0 ?_|refine qzh ?_);(first|(refine m_mov (by conv => lhs; whnf) ?_)|(refine m_add rfl rfl ?_ ?_ ?_;(· omega);(· omega))|(refine m_mul rfl rfl ?_ ?_ ?_;(· first|omega|(simp; done));(· first|omega|(simp; done)))))|refine qz1 ?_|refine qz3 ?_|refine qxc ?_|refine qz6 ?_|refine qz8 ?_)
    refine qyf (α := Nat) (fun j => j ≤ d) (fun j => st [(0,str B),(3,.i (sdB B : Nat)),(4,.ro true 1 ((rgL (sdB B) f).map AV.i) (rgL (sdB B) f).length),(5,.sl 15 1 0 (sdB B + 1)),(6,.i k),(7,.i (hF (chC f (sdB B) k) k (hL (chC f (sdB B)) (sdB B) d) j)),(8,.i ((k + 1 + j : Nat) : Int))]
      [(15,(true,(List.replicate (k + 1) 0 ++ hL (chC f (sdB B)) (sdB B) d).map AV.i))]) (fun j => d - j) 0 (by omega) (qz9 ?_ ?_ rfl rfl) ?_
    · (repeat' first|exact trivial|refine And.intro ?_ ?_)<;>first|rfl|skip
      show AV.i ((rgL (sdB B) f).getD k 0 * fac (sdB B - k)) = AV.i (chC f (sdB B) k)
      rw [g0]
      rfl
    · (repeat' first|exact trivial|refine And.intro ?_ ?_)<;>first|rfl|skip
    intro j hj
    have hM : (List.replicate (k + 1) 0 ++ hL (chC f (sdB B)) (sdB B) d).length = sdB B + 1 := by
      rw [List.length_append,List.length_replicate,hll]; omega
    by_cases hc2 : j < d
    · have g2 : (List.replicate (k + 1) 0 ++ hL (chC f (sdB B)) (sdB B) d).getD (k + 1 + j) 0 = (hL (chC f (sdB B)) (sdB B) d).getD j 0 := by
        rw [List.getD_eq_getElem?_getD,List.getElem?_append_right (by simp),List.length_replicate,show k + 1 + j - (k + 1) = j by omega]; rfl
      repeat (first|((first|refine qz0 ?_|refine qzh ?_);(first|(refine m_mov (by conv => lhs; whnf) ?_)|(refine m_leq rfl rfl ?_)))|refine qz1 ?_|refine qz3 ?_|refine AW_tree ?_|(refine qzf rfl ?_ ?_;(· (refine decide_eq_true ?_; omega)))|refine qz5 ?_|refine qz6 ?_|refine qz8 ?_)
      refine qzh ?_;(apply qza (exChooseY_spec (k + 1 + j) k (by omega) (by omega)));(· repeat (first|exact qz4|(refine qz2 ?_ ?_;(· exact qzd))))
      repeat (refine qzh ?_;(first|(refine m_mov (by conv => lhs; whnf) ?_)|(refine qxf rfl rfl ?_ ?_;(· omega))|(refine qu0 rfl (by rfl) ?_ ?_;(· first|omega|(simp; omega)))))
      refine qzh ?_
      refine m_mulw rfl rfl ?_
      refine qzh ?_
      refine m_subw rfl rfl ?_
      repeat (first|((first|refine qz0 ?_|refine qzh ?_);(first|(refine m_mov (by conv => lhs; whnf) ?_)|(refine m_add rfl rfl ?_ ?_ ?_;(· omega);(· omega))))|refine qz1 ?_|refine qy5 ?_|refine qxc ?_|refine qz7 ?_|refine qze ?_)
      refine qzb (j + 1) (by omega) (qz9 ?_ ?_ rfl rfl) (by omega)
      · (repeat' first|exact trivial|refine And.intro ?_ ?_)<;>first|rfl|skip
        rw [show hF (chC f (sdB B) k) k (hL (chC f (sdB B)) (sdB B) d) (j + 1) = w64 (hF (chC f (sdB B) k) k (hL (chC f (sdB B)) (sdB B) d) j - w64 (chy (k + 1 + j) k k * (List.replicate (k + 1) 0 ++ hL (chC f (sdB B)) (sdB B) d).getD (k + 1 + j) 0)) from by rw [g2]; rfl]
        rfl
      · (repeat' first|exact trivial|refine And.intro ?_ ?_)<;>first|rfl|skip
    · obtain rfl : j = d := by omega
      repeat (first|(refine qz0 ?_;(first|(refine m_mov (by conv => lhs; whnf) ?_)|(refine m_leq rfl rfl ?_)|(refine m_sub rfl rfl ?_ ?_ ?_;(· omega);(· omega))|(refine qxf rfl rfl ?_ ?_;(· omega))|(apply m_st;(· rfl);(· rfl);(· rfl);(· first|omega|(simp; done)|(simp; omega));(· rfl))))|refine qz1 ?_|refine qz3 ?_|refine qy5 ?_|(refine qzi rfl ?_ ?_;(· (refine decide_eq_false ?_; omega)))|refine qz6 ?_|refine qz7 ?_|refine qy1 ?_|refine qze ?_|refine qy0 ?_|refine qy9 ?_|refine qzg ?_)
      refine qzb (j + 1) (by omega) (qz9 ?_ ?_ rfl rfl) (by omega)
      · (repeat' first|exact trivial|refine And.intro ?_ ?_)<;>first|rfl|skip
        show AV.i ((k : Int) - 1) = AV.i (((sdB B + 1 - (j + 1) : Nat) : Int) - 1)
        exact congrArg AV.i (by omega)
      · (repeat' first|exact trivial|refine And.intro ?_ ?_)<;>first|rfl|skip
        show some (true,List.set (List.map AV.i _) _ (AV.i _)) = some (true,List.map AV.i _)
        rw [← List.map_set,hL,hk,show sdB B + 1 - (j + 1) = k by omega,List.set_append_left _ _ (by simp),List.replicate_succ',List.set_append_right _ _ (by simp),List.length_replicate,Nat.sub_self,List.set_cons_zero,List.append_assoc]
        rfl
  · obtain rfl : d = sdB B + 1 := by omega
    rw [Nat.sub_self]
    repeat (first|(refine qz0 ?_;(first|(refine m_mov (by conv => lhs; whnf) ?_)|(refine m_geq rfl rfl ?_)))|refine qz1 ?_|refine qz3 ?_|(refine qzi rfl ?_ ?_;(· rfl))|refine qz6 ?_|refine qzj ?_|refine qzc ?_|refine qz7 ?_|refine qy1 ?_|refine qy0 ?_|refine qy9 ?_|refine qzg ?_)
    exact qx3 rfl (by simp) hl2.symm
end Go.Proofs.YtngfogpbljconaaGreatDoor
namespace Go.Am
variable [Go.Am.CodeBlk]
theorem fc_fac : ∀ n < 13,((fcN n : Nat) : Int) = fac n := by decide +kernel
theorem chy_bi : ∀ n < 9,∀ k < n + 1,chy n k k = ((bi n k : Nat) : Int) := by decide +kernel
theorem fcN_le8 : ∀ n < 9,fcN n ≤ 40320 := by decide +kernel
def hitX (fb : Nat → Nat → Bool) (n k : Nat) : Nat := hitW fb n n 0 k
theorem hit_eq (fb : Nat → Nat → Bool) (n j : Nat) : sumN (n + 1) (fun k => bi k j * hitX fb n k) = rkN fb n j * fcN (n - j) := hits_rooks fb n n 0 j (free_all n)
theorem hit_all (fb : Nat → Nat → Bool) (n : Nat) : sumN (n + 1) (fun k => hitX fb n k) = fcN n := by
  have h := hit_eq fb n 0
  rw [show rkN fb n 0 = 1 from rkG_zero fb n n 0,Nat.one_mul] at h
  rw [← show fcN (n - 0) = fcN n from rfl,← h]
  exact qx1 fun k _ => by cases k <;> simp [bi]
theorem bi_one : ∀ k,bi k 1 = k
  | 0 => rfl
  | k + 1 => by rw [bi,bi_one k]; cases k <;> simp [bi] <;> omega
theorem hit_weighed (fb : Nat → Nat → Bool) (n : Nat) : sumN (n + 1) (fun k => k * hitX fb n k) = rkN fb n 1 * fcN (n - 1) := by
  rw [← hit_eq fb n 1]
  exact qx1 fun k _ => by rw [bi_one]
theorem hit_last (fb : Nat → Nat → Bool) (n : Nat) : hitX fb n n = rkN fb n n := by
  have h := hit_eq fb n n
  rw [Nat.sub_self,show fcN 0 = 1 from rfl,Nat.mul_one,sumN,qx1 (g := fun _ => 0) fun k hk => by rw [bi_big k n hk,Nat.zero_mul],qv3,bi_self] at h
  omega
theorem sumN_part (f : Nat → Nat) (k : Nat) : ∀ d,sumN (k + d) f = sumN k f + sumN d fun j => f (k + j)
  | 0 => by simp [sumN]
  | d + 1 => by rw [← Nat.add_assoc,sumN,sumN_part f k d,sumN]; omega
theorem sumN_at {f : Nat → Nat} : ∀ {n k : Nat},k < n → f k ≤ sumN n f
  | n + 1,k,h => by
    rw [sumN]
    by_cases hk : k = n
    · subst hk; omega
    · have := sumN_at (f := f) (show k < n by omega)
      omega
theorem hit_le (fb : Nat → Nat → Bool) {n k : Nat} (h8 : n ≤ 8) (hk : k ≤ n) : hitX fb n k ≤ 40320 := by
  have h := sumN_at (f := fun k => hitX fb n k) (show k < n + 1 by omega)
  rw [hit_all] at h
  have := fcN_le8 n (by omega)
  omega
theorem hit_left (fb : Nat → Nat → Bool) {n k : Nat} (hk : k ≤ n) : hitX fb n k + sumN (n - k) (fun j => bi (k + 1 + j) k * hitX fb n (k + 1 + j)) = rkN fb n k * fcN (n - k) := by
  have h := hit_eq fb n k
  rw [show n + 1 = k + ((n - k) + 1) by omega,sumN_part,qx1 (g := fun _ => 0) fun j hj => by rw [bi_big j k hj,Nat.zero_mul],qv3,sumN_succ'] at h
  rw [← h,show k + 0 = k from rfl,bi_self]
  have : sumN (n - k) (fun j => bi (k + (j + 1)) k * hitX fb n (k + (j + 1))) = sumN (n - k) (fun j => bi (k + 1 + j) k * hitX fb n (k + 1 + j)) := qx1 fun j _ => by rw [show k + (j + 1) = k + 1 + j by omega]
  omega
theorem w64_in {x : Int} (h0 : -9223372036854775808 ≤ x) (h1 : x ≤ 9223372036854775807) : w64 x = x := by
  unfold w64
  rw [IntKind.wrap_i64]
  omega
def hitLs (fb : Nat → Nat → Bool) (n d : Nat) : List Int := (List.range d).map fun i => ((hitX fb n (n + 1 - d + i) : Nat) : Int)
theorem hitLs_get (fb : Nat → Nat → Bool) {n d j : Nat} (h : j < d) : (hitLs fb n d).getD j 0 = ((hitX fb n (n + 1 - d + j) : Nat) : Int) := by simp [hitLs,h]
theorem hitLs_succ (fb : Nat → Nat → Bool) {n d : Nat} (h : d ≤ n) : hitLs fb n (d + 1) = ((hitX fb n (n - d) : Nat) : Int) :: hitLs fb n d := by
  unfold hitLs
  rw [List.range_succ_eq_map,List.map_cons,List.map_map,show n + 1 - (d + 1) + 0 = n - d by omega]
  congr 1
  refine List.map_congr_left fun i _ => ?_
  show ((hitX fb n (n + 1 - (d + 1) + (i + 1)) : Nat) : Int) = _
  rw [show n + 1 - (d + 1) + (i + 1) = n + 1 - d + i by omega]
theorem bi_le8 : ∀ n < 9,∀ k < n + 1,bi n k ≤ 70 := by decide +kernel
theorem hF_part (fb : Nat → Nat → Bool) {n k : Nat} (h8 : n ≤ 8) (hk : k ≤ n) : ∀ j,j ≤ n - k →
    hF (chC (rkN fb n) n k) k (hitLs fb n (n - k)) j = ((rkN fb n k * fcN (n - k) : Nat) : Int) - ((sumN j (fun j => bi (k + 1 + j) k * hitX fb n (k + 1 + j)) : Nat) : Int)
  | 0,_ => by
    rw [hF,chC,← fc_fac (n - k) (by omega)]
    simp [sumN]
  | j + 1,h => by
    have hl := hit_left fb hk
    have hsum : sumN (n - k) (fun j => bi (k + 1 + j) k * hitX fb n (k + 1 + j)) = sumN (j + 1) (fun j => bi (k + 1 + j) k * hitX fb n (k + 1 + j)) + sumN (n - k - (j + 1)) (fun i => bi (k + 1 + (j + 1 + i)) k * hitX fb n (k + 1 + (j + 1 + i))) := by
      rw [← sumN_part (fun j => bi (k + 1 + j) k * hitX fb n (k + 1 + j)),show j + 1 + (n - k - (j + 1)) = n - k by omega]
    have htot : rkN fb n k * fcN (n - k) ≤ 43046721 * 40320 := by
      have h1 : rkN fb n k ≤ (n + 1) ^ n := rkG_le n 0 k
      have h2 : (n + 1) ^ n ≤ (8 + 1) ^ 8 := Nat.le_trans (Nat.pow_le_pow_left (show n + 1 ≤ 8 + 1 by omega) n) (Nat.pow_le_pow_right (by omega) h8)
      exact Nat.mul_le_mul (by omega) (fcN_le8 _ (by omega))
    have hb := bi_le8 (k + 1 + j) (by omega) k (by omega)
    have hh := hit_le fb (k := k + 1 + j) h8 (by omega)
    have hp : bi (k + 1 + j) k * hitX fb n (k + 1 + j) ≤ 70 * 40320 := Nat.mul_le_mul hb hh
    rw [hF,hF_part fb h8 hk j (by omega),hitLs_get fb (show j < n - k by omega),show n + 1 - (n - k) + j = k + 1 + j by omega,chy_bi (k + 1 + j) (by omega) k (by omega)]
    have e1 : ((bi (k + 1 + j) k : Nat) : Int) * ((hitX fb n (k + 1 + j) : Nat) : Int) = ((bi (k + 1 + j) k * hitX fb n (k + 1 + j) : Nat) : Int) := (Int.natCast_mul _ _).symm
    rw [e1]
    have es : sumN (j + 1) (fun j => bi (k + 1 + j) k * hitX fb n (k + 1 + j)) = sumN j (fun j => bi (k + 1 + j) k * hitX fb n (k + 1 + j)) + bi (k + 1 + j) k * hitX fb n (k + 1 + j) := rfl
    rw [es] at hsum ⊢
    generalize bi (k + 1 + j) k * hitX fb n (k + 1 + j) = p at *
    generalize sumN j (fun j => bi (k + 1 + j) k * hitX fb n (k + 1 + j)) = q at *
    generalize rkN fb n k * fcN (n - k) = T at *
    rw [w64_in (x := ((p : Nat) : Int)) (by omega) (by omega),w64_in (by omega) (by omega)]
    omega
theorem hL_hits (fb : Nat → Nat → Bool) {n : Nat} (h8 : n ≤ 8) : ∀ d,d ≤ n + 1 → hL (chC (rkN fb n) n) n d = hitLs fb n d
  | 0,_ => rfl
  | d + 1,h => by
    rw [hL,hL_hits fb h8 d (by omega),hitLs_succ fb (show d ≤ n by omega)]
    congr 1
    obtain ⟨k,hk⟩ : ∃ k,n - d = k := ⟨_,rfl⟩
    have hd : d = n - k := by omega
    have hp := hF_part fb h8 (show k ≤ n by omega) (n - k) (Nat.le_refl _)
    have hl := hit_left fb (show k ≤ n by omega)
    rw [hk,hd,hp]
    omega
end Go.Am
namespace Go.Proofs.YtngfogpbljconaaGreatDoor
variable [Go.Am.CodeBlk]
open Go.Am
attribute [local irreducible] AW Outs Weak Lends Lend Sp aops atree aop1 Then Round InBlock Done
def Asked (B : List UInt8) (L : List Int) : Prop := GoodBd B ∧ IsEx L ∧ L.length = sdB B
instance (B : List UInt8) (L : List Int) : Decidable (Asked B L) := inferInstanceAs (Decidable (_ ∧ _))
theorem asked_at {B : List UInt8} {L : List Int} (h : Asked B L) {k : Nat} (hk : k < L.length) : ∃ j : Nat,L.getD k 0 = j ∧ j < sdB B := by
  have hr := h.2.1.2.2.1 _ (qud hk)
  obtain ⟨q,hq⟩ := Int.eq_ofNat_of_zero_le hr.1
  exact ⟨q,hq,by have := h.2.2; omega⟩
theorem bdAsked_spec (B : List UInt8) (L : List Int) (hB : B.length ≤ 1048576) (hL : L.length ≤ 1048576) : Sp Tryz.prog 41 [str B,ints L] (.b (decide (Asked B L))) := by
  refine qy7 Tryz.func41 rfl cc41 rfl ?_
  unfold ac41
  by_cases h1 : GoodBd B
  · by_cases h2 : IsEx L
    · repeat (first|(refine qz0 ?_;(refine m_mov (by conv => lhs; whnf) ?_))|refine qz1 ?_|refine qz3 ?_)
      (refine qz0 ?_);(apply qza (qw0 B hB));(· repeat (first|exact qz4|(refine qz2 ?_ ?_;(· exact qzd))))
      repeat (refine qz0 ?_;((try (refine g_yes rfl ?_ ?_;(· (refine decide_eq_true ?_; assumption))));(refine m_mov (by conv => lhs; whnf) ?_)))
      (refine qz0 ?_);(refine g_yes rfl ?_ ?_;(· first|((refine decide_eq_true ?_; assumption))|(fail));(apply qza (exGood_spec L hL)));(· repeat (first|exact qz4|(refine qz2 ?_ ?_;(· (refine qy2 ?_; first|rfl|omega)))))
      repeat (refine qz0 ?_;((try (refine g_yes rfl ?_ ?_;(· (refine decide_eq_true ?_; assumption))));(first|(refine m_mov (by conv => lhs; whnf) ?_)|(refine qy4 rfl ?_)|(refine qye rfl ?_ (by conv => lhs; whnf) ?_;(· (refine decide_eq_true ?_; assumption))))))
      (refine qz0 ?_);(refine g_yes rfl ?_ ?_;(· first|((refine decide_eq_true ?_; assumption))|(fail));(apply qza (qyj B hB)));(· repeat (first|exact qz4|(refine qz2 ?_ ?_;(· exact qzd))))
      repeat (first|(refine qz0 ?_;((try (refine g_yes rfl ?_ ?_;(· (refine decide_eq_true ?_; assumption))));(first|(refine m_mov (by conv => lhs; whnf) ?_)|(refine m_eql rfl rfl ?_)|(refine qye rfl ?_ (by conv => lhs; whnf) ?_;(· (refine decide_eq_true ?_; assumption))))))|refine qz1 ?_|refine qzj ?_|refine qzc ?_)
      exact qyb (by simp [Asked,h1,h2]; omega)
    · repeat (first|(refine qz0 ?_;(refine m_mov (by conv => lhs; whnf) ?_))|refine qz1 ?_|refine qz3 ?_)
      (refine qz0 ?_);(apply qza (qw0 B hB));(· repeat (first|exact qz4|(refine qz2 ?_ ?_;(· exact qzd))))
      repeat (refine qz0 ?_;((try (refine g_yes rfl ?_ ?_;(· (refine decide_eq_true ?_; assumption))));(refine m_mov (by conv => lhs; whnf) ?_)))
      (refine qz0 ?_);(refine g_yes rfl ?_ ?_;(· first|((refine decide_eq_true ?_; assumption))|(fail));(apply qza (exGood_spec L hL)));(· repeat (first|exact qz4|(refine qz2 ?_ ?_;(· (refine qy2 ?_; first|rfl|omega)))))
      repeat (first|(refine qz0 ?_;(first|(first|(refine m_mov (by conv => lhs; whnf) ?_)|(refine qye rfl ?_ (by conv => lhs; whnf) ?_;(· (refine decide_eq_true ?_; assumption)))|(refine qy3 rfl ?_ (by conv => lhs; whnf) ?_;(· (refine decide_eq_false ?_; assumption))))|(refine g_noT rfl ?_ ?_;(· (refine decide_eq_false ?_; assumption)))))|refine qz1 ?_|refine qzj ?_|refine qzc ?_)
      exact qyb (by simp [Asked,h2])
  · repeat (first|(refine qz0 ?_;(refine m_mov (by conv => lhs; whnf) ?_))|refine qz1 ?_|refine qz3 ?_)
    (refine qz0 ?_);(apply qza (qw0 B hB));(· repeat (first|exact qz4|(refine qz2 ?_ ?_;(· exact qzd))))
    repeat (first|(refine qz0 ?_;(first|(first|(refine m_mov (by conv => lhs; whnf) ?_)|(refine qy3 rfl ?_ (by conv => lhs; whnf) ?_;(· first|rfl|(refine decide_eq_false ?_; assumption))))|(refine g_noT rfl ?_ ?_;(· first|rfl|(refine decide_eq_false ?_; assumption)))))|refine qz1 ?_|refine qzj ?_|refine qzc ?_)
    exact qyb (by simp [Asked,h1])
def bdF (B : List UInt8) (L : List Int) : AV := .tup [if Asked B L then .agg [.i (sdB B : Nat),.rmp true (mkEs (plB B)) (plB B).length] else .agg [.i 0,.v (.map none)],.b (decide (Asked B L))]
set_option maxRecDepth 100000 in
theorem readBoardFor_spec (B : List UInt8) (L : List Int) (hB : B.length ≤ 1048576) (hL : L.length ≤ 1048576) : Sp Tryz.prog 38 [str B,ints L] (bdF B L) := by
  have hr := qxj B hB
  unfold bdR bdV at hr
  unfold bdF
  refine specG_of Tryz.func38 rfl cc38 (by set_option maxRecDepth 100000 in rfl) ?_
  unfold ac38
  by_cases h1 : GoodBd B
  · rw [if_pos h1] at hr
    by_cases h2 : IsEx L
    · by_cases h3 : L.length = sdB B
      · have h : Asked B L := ⟨h1,h2,h3⟩
        rw [if_pos h,decide_eq_true h]
        repeat (first|(refine qz0 ?_;(first|(refine m_mov (by conv => lhs; whnf) ?_)|(refine qxb ?_)))|refine qz1 ?_|refine qz3 ?_)
        (refine qz0 ?_);(apply qza (hr));(· repeat (first|exact qz4|(refine qz2 ?_ ?_;(· exact qzd))))
        repeat (first|(refine qz0 ?_;((try (refine g_yes rfl ?_ ?_;(· (simp [*]; done))));(first|(refine m_mov (by conv => lhs; whnf) ?_)|(refine m_not rfl ?_)|(refine m_ext rfl rfl ?_)|(refine qxb ?_)|(refine qx9 rfl rfl rfl ?_ ?_ ?_ ?_;(· first|rfl|(simp [*]; done));(· first|rfl|(simp [*]; done));(· first|rfl|(simp [cellOk,Value.oneCell']; done))))))|refine qz1 ?_|refine qz3 ?_|refine qz6 ?_)
        (refine qz0 ?_);(refine g_yes rfl ?_ ?_;(· first|((simp [*]; done))|(fail));(apply qza (implIsExchange_spec L hL)));(· repeat (first|exact qz4|(refine qz2 ?_ ?_;(· (refine qy2 ?_; first|rfl|omega)))))
        repeat (first|(refine qz0 ?_;((try (refine g_yes rfl ?_ ?_;(· (simp [*]; done))));(first|(refine m_mov (by conv => lhs; whnf) ?_)|(refine m_neq rfl rfl ?_)|(refine m_not rfl ?_)|(refine qy4 rfl ?_)|(apply qx8;(· rfl);(· rfl);(· rfl))|(refine qy3 rfl ?_ (by conv => lhs; whnf) ?_;(· (refine nf ?_; assumption)))|(refine m_fa rfl ?_)|(refine qv7 rfl rfl ?_ ?_;(· first|rfl|(simp; done)|(simp [*]; done)))|(refine qx9 rfl rfl rfl ?_ ?_ ?_ ?_;(· first|rfl|(simp [*]; done));(· first|rfl|(simp [*]; done));(· first|rfl|(simp [cellOk,Value.oneCell']; done))))))|refine qz1 ?_|refine qz3 ?_|(refine qzi rfl ?_ ?_;(· (refine decide_eq_false ?_; omega)))|refine qz5 ?_|refine qzj ?_)
        refine ret_doneg2 rfl rfl rfl ?_
        exact qyh (outs_agg2 (qxa rfl) outs_rmp) (qyb rfl)
      · have h : ¬ Asked B L := fun h => h3 h.2.2
        rw [if_neg h,decide_eq_false h]
        repeat (first|(refine qz0 ?_;(first|(refine m_mov (by conv => lhs; whnf) ?_)|(refine qxb ?_)))|refine qz1 ?_|refine qz3 ?_)
        (refine qz0 ?_);(apply qza (hr));(· repeat (first|exact qz4|(refine qz2 ?_ ?_;(· exact qzd))))
        repeat (first|(refine qz0 ?_;((try (refine g_yes rfl ?_ ?_;(· (simp [*]; done))));(first|(refine m_mov (by conv => lhs; whnf) ?_)|(refine m_not rfl ?_)|(refine m_ext rfl rfl ?_)|(refine qxb ?_)|(refine qx9 rfl rfl rfl ?_ ?_ ?_ ?_;(· first|rfl|(simp [*]; done));(· first|rfl|(simp [*]; done));(· first|rfl|(simp [cellOk,Value.oneCell']; done))))))|refine qz1 ?_|refine qz3 ?_|refine qz6 ?_)
        (refine qz0 ?_);(refine g_yes rfl ?_ ?_;(· first|((simp [*]; done))|(fail));(apply qza (implIsExchange_spec L hL)));(· repeat (first|exact qz4|(refine qz2 ?_ ?_;(· (refine qy2 ?_; first|rfl|omega)))))
        repeat (first|(refine qz0 ?_;((try (refine g_yes rfl ?_ ?_;(· (simp [*]; done))));(first|(refine m_mov (by conv => lhs; whnf) ?_)|(refine m_neq rfl rfl ?_)|(refine m_not rfl ?_)|(refine qy4 rfl ?_)|(apply qx8;(· rfl);(· rfl);(· rfl))|(refine qy3 rfl ?_ (by conv => lhs; whnf) ?_;(· (refine nf ?_; assumption)))|(refine m_fa rfl ?_)|(refine m_bld rfl ?_)|(refine qx9 rfl rfl rfl ?_ ?_ ?_ ?_;(· first|rfl|(simp [*]; done));(· first|rfl|(simp [*]; done));(· first|rfl|(simp [cellOk,Value.oneCell']; done))))))|refine qz1 ?_|refine qz3 ?_|(refine qzf rfl ?_ ?_;(· (refine decide_eq_true ?_; omega)))|refine qzj ?_|refine qy8 ?_)
        refine ret_doneg2 rfl rfl rfl ?_
        exact qyh (outs_agg rfl) (qyb rfl)
    · have h : ¬ Asked B L := fun h => h2 h.2.1
      rw [if_neg h,decide_eq_false h]
      repeat (first|(refine qz0 ?_;(first|(refine m_mov (by conv => lhs; whnf) ?_)|(refine qxb ?_)))|refine qz1 ?_|refine qz3 ?_)
      (refine qz0 ?_);(apply qza (hr));(· repeat (first|exact qz4|(refine qz2 ?_ ?_;(· exact qzd))))
      repeat (first|(refine qz0 ?_;((try (refine g_yes rfl ?_ ?_;(· (simp [*]; done))));(first|(refine m_mov (by conv => lhs; whnf) ?_)|(refine m_not rfl ?_)|(refine m_ext rfl rfl ?_)|(refine qxb ?_)|(refine qx9 rfl rfl rfl ?_ ?_ ?_ ?_;(· first|rfl|(simp [*]; done));(· first|rfl|(simp [*]; done));(· first|rfl|(simp [cellOk,Value.oneCell']; done))))))|refine qz1 ?_|refine qz3 ?_|refine qz6 ?_)
      (refine qz0 ?_);(refine g_yes rfl ?_ ?_;(· first|((simp [*]; done))|(fail));(apply qza (implIsExchange_spec L hL)));(· repeat (first|exact qz4|(refine qz2 ?_ ?_;(· (refine qy2 ?_; first|rfl|omega)))))
      repeat (first|(refine qz0 ?_;(first|((try (refine g_yes rfl ?_ ?_;(· (simp [*]; done))));(first|(refine m_mov (by conv => lhs; whnf) ?_)|(refine m_not rfl ?_)|(refine qye rfl ?_ (by conv => lhs; whnf) ?_;(· (refine nt ?_; assumption)))|(refine qy3 rfl ?_ (by conv => lhs; whnf) ?_;(· (refine nf ?_; assumption)))|(refine m_bld rfl ?_)|(refine qx9 rfl rfl rfl ?_ ?_ ?_ ?_;(· first|rfl|(simp [*]; done));(· first|rfl|(simp [*]; done));(· first|rfl|(simp [cellOk,Value.oneCell']; done)))))|(refine g_noF rfl ?_ ?_;(· (refine nt ?_; assumption)))))|refine qz1 ?_|refine qz3 ?_|(refine qzf rfl ?_ ?_;(· rfl))|refine qzj ?_|refine qy8 ?_)
      refine ret_doneg2 rfl rfl rfl ?_
      exact qyh (outs_agg rfl) (qyb rfl)
  · rw [if_neg h1] at hr
    have h : ¬ Asked B L := fun h => h1 h.1
    rw [if_neg h,decide_eq_false h]
    repeat (first|(refine qz0 ?_;(first|(refine m_mov (by conv => lhs; whnf) ?_)|(refine qxb ?_)))|refine qz1 ?_|refine qz3 ?_)
    (refine qz0 ?_);(apply qza (hr));(· repeat (first|exact qz4|(refine qz2 ?_ ?_;(· exact qzd))))
    repeat (first|(refine qz0 ?_;(first|(first|(refine m_mov (by conv => lhs; whnf) ?_)|(refine m_not rfl ?_)|(refine qye rfl ?_ (by conv => lhs; whnf) ?_;(· first|rfl|(refine nt ?_; assumption)))|(refine m_ext rfl rfl ?_)|(refine qxb ?_)|(refine m_bld rfl ?_)|(refine qx9 rfl rfl rfl ?_ ?_ ?_ ?_;(· first|rfl|(simp [*]; done));(· first|rfl|(simp [*]; done));(· first|rfl|(simp [cellOk,Value.oneCell']; done))))|(refine g_noF rfl ?_ ?_;(· first|rfl|(refine nt ?_; assumption)))))|refine qz1 ?_|refine qz3 ?_|(refine qzf rfl ?_ ?_;(· rfl))|refine qz6 ?_|refine qzj ?_|refine qy8 ?_)
    refine ret_doneg2 rfl rfl rfl ?_
    exact qyh (outs_agg rfl) (qyb rfl)
end Go.Proofs.YtngfogpbljconaaGreatDoor
namespace Go.Proofs.YtngfogpbljconaaGreatDoor
variable [Go.Am.CodeBlk]
open Go.Am
attribute [local irreducible] AW Outs Weak Lends Lend Sp aops atree aop1 Then Round InBlock Done
def whoIs (L : List Int) (c : Int) : Int := if c ∈ L then (L.idxOf c : Int) else -1
theorem whoIs_at {L : List Int} {c : Int} {k : Nat} (h : k < L.length) (he : c ∉ L.take k) (hx : L.getD k 0 = c) : whoIs L c = k := by
  have hm : c ∈ L := hx ▸ qud h
  have h1 : L.idxOf c = k := by
    conv => lhs; rw [← List.take_append_drop k L]
    rw [List.idxOf_append,if_neg he,List.drop_eq_getElem_cons h]
    have : L[k] = c := by simpa [h] using hx
    rw [this,List.idxOf_cons_self,List.length_take]
    omega
  rw [whoIs,if_pos hm,h1]
theorem slicesIndex_spec (L : List Int) (c : Int) (hL : L.length ≤ 1048576) : Sp Tryz.prog 91 [ints L,.i c] (.i (whoIs L c)) := by
  refine qy7 Tryz.func91 rfl cc91 rfl ?_
  unfold ac91
  repeat (first|(refine qz0 ?_;(first|(refine m_mov (by conv => lhs; whnf) ?_)|(refine qy4 rfl ?_)))|refine qz1 ?_|refine qz3 ?_|refine qz6 ?_|refine qz8 ?_)
  refine qyf (α := Nat) (fun k => k ≤ L.length ∧ c ∉ L.take k) (fun k => st [(0,ints L),(1,.i c),(7,.i L.length),(8,.i k)] []) (fun k => L.length - k) 0 (by simp) (qz9 ?_ ?_ rfl rfl) ?_
  · (repeat' first|exact trivial|refine And.intro ?_ ?_)<;>first|rfl|skip
  · trivial
  rintro k ⟨hk,he⟩
  by_cases h : k < L.length
  · by_cases hx : c = L.getD k 0
    · repeat (first|(refine qz0 ?_;(first|(refine m_mov (by conv => lhs; whnf) ?_)|(refine m_lss rfl rfl ?_)|(refine m_eql rfl rfl ?_)|(refine qy6 rfl rfl ?_ ?_;(· omega))|(refine qyg rfl ?_ ?_;(· omega))))|refine qz1 ?_|refine qz3 ?_|(refine qzf rfl ?_ ?_;(· first|(refine decide_eq_true ?_; assumption)|(refine decide_eq_true ?_; omega)))|refine qz5 ?_|refine qz6 ?_|refine qzj ?_|refine qzc ?_|refine qy8 ?_|refine qz8 ?_|refine qx7 ?_|refine qxd ?_)
      exact qxa (whoIs_at h he hx.symm).symm
    · repeat (first|(refine qz0 ?_;(first|(refine m_mov (by conv => lhs; whnf) ?_)|(refine m_lss rfl rfl ?_)|(refine m_eql rfl rfl ?_)|(refine m_add rfl rfl ?_ ?_ ?_;(· omega);(· omega))|(refine qy6 rfl rfl ?_ ?_;(· omega))|(refine qyg rfl ?_ ?_;(· omega))))|refine qz1 ?_|refine qz3 ?_|refine qy5 ?_|(refine qzf rfl ?_ ?_;(· (refine decide_eq_true ?_; omega)))|(refine qzi rfl ?_ ?_;(· (refine decide_eq_false ?_; assumption)))|refine qz5 ?_|refine qz6 ?_|refine qz7 ?_|refine qz8 ?_|refine qze ?_|refine qx6 ?_)
      refine qzb (k + 1) ⟨by omega,?_⟩ (qz9 ?_ ?_ rfl rfl) ?_
      · rw [qw2 L k 0 h,List.mem_append,List.mem_singleton]
        rintro (h1|h1)
        · exact he h1
        · exact hx h1
      · (repeat' first|exact trivial|refine And.intro ?_ ?_)<;>first|rfl|skip
      · trivial
      · omega
  · repeat (first|(refine qz0 ?_;(first|(refine m_mov (by conv => lhs; whnf) ?_)|(refine m_lss rfl rfl ?_)))|refine qz1 ?_|refine qz3 ?_|(refine qzi rfl ?_ ?_;(· (refine decide_eq_false ?_; omega)))|refine qz6 ?_|refine qzj ?_|refine qzc ?_|refine qz7 ?_|refine qy1 ?_|refine qy0 ?_|refine qy9 ?_|refine qzg ?_)
    refine qxa ?_
    rw [List.take_of_length_le (by omega)] at he
    rw [whoIs,if_neg he]
end Go.Proofs.YtngfogpbljconaaGreatDoor
namespace Go.Am
variable [Go.Am.CodeBlk]
section
variable (fits : List Int → Nat → Bool) (n : Nat)
def goOn : Nat → List Int → List (List Int)
  | 0,l => [l]
  | k + 1,l => ((List.range n).filter fun x => fits l x).flatMap fun (x : Nat) => goOn k (l ++ [(x : Int)])
def goFrom (l : List Int) (g : Nat) : List (List Int) := ((List.range n).filter fun x => decide (g ≤ x) && fits l x).flatMap fun (x : Nat) => goOn fits n (n - l.length - 1) (l ++ [(x : Int)])
def goBack : List Int → List (List Int)
  | [] => []
  | x :: r => goFrom fits n r.reverse (x.toNat + 1) ++ goBack r
def goAt (l : List Int) (g : Nat) : List (List Int) := (if l.length = n then [l] else goFrom fits n l g) ++ goBack fits n l.reverse
theorem range_split (p : Nat → Bool) (g : Nat) : ∀ n,g < n → (List.range n).filter (fun x => decide (g ≤ x) && p x) = (if p g then [g] else []) ++ (List.range n).filter (fun x => decide (g + 1 ≤ x) && p x)
  | 0,h => by omega
  | n + 1,h => by
    rw [List.range_succ,List.filter_append,List.filter_append]
    by_cases hg : g < n
    · rw [range_split p g n hg,List.append_assoc]
      congr 2
      have h1 : decide (g ≤ n) = true := decide_eq_true (by omega)
      have h2 : decide (g + 1 ≤ n) = true := decide_eq_true (by omega)
      simp only [List.filter_cons,List.filter_nil,h1,h2]
    · obtain rfl : g = n := by omega
      have e1 : (List.range g).filter (fun x => decide (g ≤ x) && p x) = [] := List.filter_eq_nil_iff.2 fun x hx => by have := List.mem_range.1 hx; simp; omega
      have e2 : (List.range g).filter (fun x => decide (g + 1 ≤ x) && p x) = [] := List.filter_eq_nil_iff.2 fun x hx => by have := List.mem_range.1 hx; simp; omega
      rw [e1,e2]
      have h2 : decide (g + 1 ≤ g) = false := decide_eq_false (by omega)
      have h1 : decide (g ≤ g) = true := decide_eq_true (by omega)
      simp only [List.filter_cons,List.filter_nil,List.nil_append,h1,h2]
      simp
theorem goFrom_step {l : List Int} {g : Nat} (hg : g < n) : goFrom fits n l g = (if fits l g then goOn fits n (n - l.length - 1) (l ++ [(g : Int)]) else []) ++ goFrom fits n l (g + 1) := by
  unfold goFrom
  rw [range_split (fits l) g n hg,List.flatMap_append]
  split <;> simp
theorem goFrom_end {l : List Int} {g : Nat} (hg : n ≤ g) : goFrom fits n l g = [] := by
  unfold goFrom
  rw [List.filter_eq_nil_iff.2 fun x hx => by have := List.mem_range.1 hx; simp; omega]
  rfl
theorem goOn_from {l : List Int} (h : l.length < n) : goOn fits n (n - l.length) l = goFrom fits n l 0 := by
  obtain ⟨k,hk⟩ : ∃ k,n - l.length = k + 1 := ⟨n - l.length - 1,by omega⟩
  unfold goFrom
  rw [hk]
  simp [goOn]
theorem goAt_full {l : List Int} {g : Nat} (h : l.length = n) : (goAt fits n l g).head? = some l := by
  simp [goAt,h]
theorem goAt_take {l : List Int} {g : Nat} (h : l.length < n) (hg : g < n) (hf : fits l g = true) : goAt fits n (l ++ [(g : Int)]) 0 = goAt fits n l g := by
  have hne : ¬ l.length = n := by omega
  unfold goAt
  rw [if_neg hne,goFrom_step fits n hg,if_pos hf,List.reverse_append,List.reverse_singleton,List.singleton_append,goBack,List.reverse_reverse,Int.toNat_natCast,List.append_assoc]
  congr 1
  by_cases h1 : l.length + 1 = n
  · have e : n - l.length - 1 = 0 := by omega
    rw [if_pos (by simpa using h1),e]
    rfl
  · have e : n - l.length - 1 = n - (l ++ [(g : Int)]).length := by simp; omega
    rw [if_neg (by simpa using h1),e,goOn_from fits n (by simp; omega)]
theorem goAt_skip {l : List Int} {g : Nat} (h : l.length < n) (hg : g < n) (hf : fits l g = false) : goAt fits n l (g + 1) = goAt fits n l g := by
  have hne : ¬ l.length = n := by omega
  unfold goAt
  rw [if_neg hne,if_neg hne,goFrom_step fits n hg,hf]
  simp
theorem goAt_none {g : Nat} (h : 0 < n) (hg : n ≤ g) : goAt fits n [] g = [] := by
  unfold goAt
  rw [if_neg (by simp; omega),goFrom_end fits n hg]
  rfl
theorem goAt_back {l : List Int} {x : Int} {g : Nat} (h : l.length + 1 < n) (hg : n ≤ g) : goAt fits n (l ++ [x]) g = goAt fits n l (x.toNat + 1) := by
  unfold goAt
  rw [if_neg (by simp; omega),if_neg (by omega),goFrom_end fits n hg,List.reverse_append,List.reverse_singleton,List.singleton_append,goBack,List.reverse_reverse]
  rfl
theorem goAt_start (h : 0 < n) : goAt fits n [] 0 = goOn fits n n [] := by
  have := goOn_from fits n (l := []) (by simpa using h)
  simp only [List.length_nil,Nat.sub_zero] at this
  unfold goAt
  rw [if_neg (by simp; omega),this]
  simp [goBack]
end
def goW (n : Nat) : Nat → Nat
  | 0 => 0
  | j + 1 => n * goW n j + 2
def goM (n : Nat) : List Int → Nat
  | [] => 0
  | x :: r => (n - (x.toNat + 1)) * goW n (n - r.length) + 1 + goM n r
def goMeas (n : Nat) (l : List Int) (g : Nat) : Nat := (n - g) * goW n (n - l.length) + goM n l.reverse
theorem goMeas_take {n : Nat} {l : List Int} {g : Nat} (h : l.length < n) (hg : g < n) : goMeas n (l ++ [(g : Int)]) 0 < goMeas n l g := by
  obtain ⟨k,hk⟩ : ∃ k,n - l.length = k + 1 := ⟨n - l.length - 1,by omega⟩
  have hk2 : n - (l ++ [(g : Int)]).length = k := by simp; omega
  obtain ⟨q,hq⟩ : ∃ q,n - g = q + 1 := ⟨n - g - 1,by omega⟩
  have hq2 : n - (g + 1) = q := by omega
  unfold goMeas
  rw [List.reverse_append,List.reverse_singleton,List.singleton_append,goM,List.length_reverse,Int.toNat_natCast,hk2,hk,hq,hq2,Nat.sub_zero,Nat.add_mul,Nat.one_mul]
  have : goW n (k + 1) = n * goW n k + 2 := rfl
  omega
theorem goMeas_skip {n : Nat} {l : List Int} {g : Nat} (h : l.length < n) (hg : g < n) : goMeas n l (g + 1) < goMeas n l g := by
  obtain ⟨k,hk⟩ : ∃ k,n - l.length = k + 1 := ⟨n - l.length - 1,by omega⟩
  obtain ⟨q,hq⟩ : ∃ q,n - g = q + 1 := ⟨n - g - 1,by omega⟩
  have hq2 : n - (g + 1) = q := by omega
  unfold goMeas
  rw [hk,hq,hq2,Nat.add_mul,Nat.one_mul]
  have : goW n (k + 1) = n * goW n k + 2 := rfl
  omega
theorem goMeas_back {n : Nat} {l : List Int} {x : Int} {g : Nat} (hg : n ≤ g) : goMeas n l (x.toNat + 1) < goMeas n (l ++ [x]) g := by
  have h0 : n - g = 0 := by omega
  unfold goMeas
  rw [List.reverse_append,List.reverse_singleton,List.singleton_append,goM,List.length_reverse,h0,Nat.zero_mul]
  omega
def comesB : List Int → List Int → Bool
  | [],_ => false
  | _ :: _,[] => false
  | a :: l,b :: m => if a = b then comesB l m else decide (a < b)
theorem comesB_append (p : List Int) (l m : List Int) : comesB (p ++ l) (p ++ m) = comesB l m := by
  induction p with
  | nil => rfl
  | cons a p ih => simp [comesB,ih]
theorem comesB_self (l : List Int) : comesB l l = false := by
  induction l with
  | nil => rfl
  | cons a l ih => simp [comesB,ih]
section
variable (fits : List Int → Nat → Bool) (n : Nat)
theorem goOn_shape : ∀ (k : Nat) (l x : List Int),x ∈ goOn fits n k l → ∃ m,x = l ++ m ∧ m.length = k
  | 0,l,x,h => ⟨[],by simpa [goOn] using h,rfl⟩
  | k + 1,l,x,h => by
    simp only [goOn,List.mem_flatMap] at h
    obtain ⟨y,_,hx⟩ := h
    obtain ⟨m,rfl,hm⟩ := goOn_shape k _ _ hx
    exact ⟨(y : Int) :: m,by simp,by simp [hm]⟩
theorem find_less {k : Nat} {l : List Int} {x : Nat} {b : Int} {t : List Int} (h : (x : Int) < b) : (goOn fits n k (l ++ [(x : Int)])).find? (fun m => comesB (l ++ b :: t) m) = none := by
  rw [List.find?_eq_none]
  intro m hm
  obtain ⟨r,rfl,_⟩ := goOn_shape fits n _ _ _ hm
  rw [List.append_assoc,comesB_append]
  have h1 : ¬ b = (x : Int) := by omega
  have h2 : ¬ b < (x : Int) := by omega
  simp [comesB,h1,h2]
theorem find_more {k : Nat} {l : List Int} {x : Nat} {b : Int} {t : List Int} (h : b < (x : Int)) : (goOn fits n k (l ++ [(x : Int)])).find? (fun m => comesB (l ++ b :: t) m) = (goOn fits n k (l ++ [(x : Int)])).head? := by
  have hall : ∀ m ∈ goOn fits n k (l ++ [(x : Int)]),comesB (l ++ b :: t) m = true := by
    intro m hm
    obtain ⟨r,rfl,_⟩ := goOn_shape fits n _ _ _ hm
    rw [List.append_assoc,comesB_append]
    have h1 : ¬ b = (x : Int) := by omega
    simp [comesB,h1,h]
  cases hg : goOn fits n k (l ++ [(x : Int)]) with
  | nil => rfl
  | cons m ms => simp [hall m (by rw [hg]; simp)]
end
theorem range_three (p : Nat → Bool) (g : Nat) : ∀ n,g < n → (List.range n).filter p = (List.range g).filter p ++ ((if p g then [g] else []) ++ (List.range n).filter (fun x => decide (g + 1 ≤ x) && p x))
  | 0,h => by omega
  | n + 1,h => by
    rw [List.range_succ,List.filter_append,List.filter_append]
    by_cases hg : g < n
    · rw [range_three p g n hg,List.append_assoc,List.append_assoc]
      congr 3
      have h2 : decide (g + 1 ≤ n) = true := decide_eq_true (by omega)
      simp only [List.filter_cons,List.filter_nil,h2,Bool.true_and]
    · obtain rfl : g = n := by omega
      have e2 : (List.range g).filter (fun x => decide (g + 1 ≤ x) && p x) = [] := List.filter_eq_nil_iff.2 fun x hx => by have := List.mem_range.1 hx; simp; omega
      have h2 : decide (g + 1 ≤ g) = false := decide_eq_false (by omega)
      rw [e2]
      simp only [List.filter_cons,List.filter_nil,List.nil_append,h2]
      simp
theorem findSome_congr {α β : Type} {f g : α → Option β} : ∀ {l : List α},(∀ x ∈ l,f x = g x) → l.findSome? f = l.findSome? g
  | [],_ => rfl
  | a :: l,h => by
    simp only [List.findSome?_cons]
    rw [h a (by simp),findSome_congr fun x hx => h x (by simp [hx])]
section
variable (fits : List Int → Nat → Bool) (n : Nat)
theorem goFrom_head (l : List Int) (g : Nat) : (goFrom fits n l g).head? = ((List.range n).filter fun x => decide (g ≤ x) && fits l x).findSome? fun (x : Nat) => (goOn fits n (n - l.length - 1) (l ++ [(x : Int)])).head? := by
  unfold goFrom
  rw [List.head?_flatMap]
theorem find_next {k g : Nat} {l t : List Int} (hg : g < n) (hk : n - l.length = k + 1) : (goOn fits n (k + 1) l).find? (fun m => comesB (l ++ (g : Int) :: t) m) =
    (if fits l g then (goOn fits n k (l ++ [(g : Int)])).find? (fun m => comesB (l ++ (g : Int) :: t) m) else none).or (goFrom fits n l (g + 1)).head? := by
  have hk2 : n - l.length - 1 = k := by omega
  rw [goFrom_head,goOn,List.find?_flatMap,range_three _ g n hg,List.findSome?_append,List.findSome?_append,hk2]
  have e1 : ((List.range g).filter fun x => fits l x).findSome? (fun (x : Nat) => (goOn fits n k (l ++ [(x : Int)])).find? fun m => comesB (l ++ (g : Int) :: t) m) = none := by
    rw [List.findSome?_eq_none_iff]
    intro x hx
    have := List.mem_range.1 (List.mem_filter.1 hx).1
    exact find_less fits n (by omega)
  rw [e1,Option.none_or]
  congr 1
  · split <;> simp
  · refine findSome_congr fun x hx => ?_
    have := (List.mem_filter.1 hx).2
    simp only [Bool.and_eq_true,decide_eq_true_eq] at this
    exact find_more fits n (by omega)
theorem find_behind {L : List Int} (hL : L.length = n) (hb : ∀ i < n,∃ g : Nat,L.getD i 0 = g ∧ g < n) {kept : Nat} (hk : kept < n) (hf : ∀ i < kept,fits (L.take i) (L.getD i 0).toNat = true)
    (he : fits (L.take kept) (L.getD kept 0).toNat = false ∨ kept + 1 = n) : (goOn fits n n []).find? (fun m => comesB L m) = (goAt fits n (L.take kept) ((L.getD kept 0).toNat + 1)).head? := by
  have step : ∀ i,i < n → (goOn fits n (n - i) (L.take i)).find? (fun m => comesB L m) =
      (if fits (L.take i) (L.getD i 0).toNat then (goOn fits n (n - (i + 1)) (L.take (i + 1))).find? (fun m => comesB L m) else none).or (goFrom fits n (L.take i) ((L.getD i 0).toNat + 1)).head? := by
    intro i hi
    obtain ⟨g,hg,hgn⟩ := hb i hi
    have hlen : (L.take i).length = i := List.length_take_of_le (by omega)
    have hsp : L = L.take i ++ (g : Int) :: L.drop (i + 1) := by
      have h1 := qw2 L i 0 (by omega)
      have h2 := List.take_append_drop (i + 1) L
      rw [h1,hg,List.append_assoc] at h2
      exact h2.symm
    have h1 := find_next fits n (k := n - (i + 1)) (g := g) (l := L.take i) (t := L.drop (i + 1)) hgn (by omega)
    rw [← hsp] at h1
    have e : n - (i + 1) + 1 = n - i := by omega
    rw [e] at h1
    rw [qw2 L i 0 (by omega),hg,Int.toNat_natCast]
    exact h1
  have key : ∀ i,i ≤ kept → (goOn fits n n []).find? (fun m => comesB L m) = ((goOn fits n (n - i) (L.take i)).find? (fun m => comesB L m)).or (goBack fits n (L.take i).reverse).head? := by
    intro i
    induction i with
    | zero => intro _; simp [goBack]
    | succ i ih =>
      intro hi
      have h1 := hf i (by omega)
      rw [ih (by omega),step i (by omega),if_pos h1,Option.or_assoc]
      congr 1
      rw [qw2 L i 0 (by omega),List.reverse_append,List.reverse_singleton,List.singleton_append,goBack,List.reverse_reverse,List.head?_append]
  have hlen : (L.take kept).length = kept := List.length_take_of_le (by omega)
  have hnone : (if fits (L.take kept) (L.getD kept 0).toNat then (goOn fits n (n - (kept + 1)) (L.take (kept + 1))).find? (fun m => comesB L m) else none) = none := by
    split
    · rename_i hh
      rcases he with he|he
      · rw [he] at hh; cases hh
      · have e : n - (kept + 1) = 0 := by omega
        rw [e,List.take_of_length_le (by omega)]
        simp [goOn,comesB_self]
    · rfl
  have hne : ¬ (L.take kept).length = n := by omega
  rw [key kept (Nat.le_refl _),step kept hk,hnone,Option.none_or,goAt,if_neg hne,List.head?_append]
end
end Go.Am
namespace Go.Am
variable [Go.Am.CodeBlk]
theorem lend_nil {hp : Hp} : Lend hp (.v (.slice none 0 0)) (ints []) := by
  intro w0 mu N tm w phi ro v hS hv
  simp only [SimV] at hv ⊢
  exact .inl ⟨rfl,rfl,none,0,hv,by simp⟩
theorem que {s : AS} {z n : Nat} {cs : List AV} (hall : cs.all plainV = true) : Outs s (.ro true z cs n) (.ro true z cs n) := by
  intro w0 N tm w phi ro y hS h
  simp only [SimV] at h ⊢
  rcases h with h|⟨b,o,cap,cur,e,fz,h1,h2,h3,h4,h5,h6,h7⟩
  · exact .inl h
  · obtain ⟨k1,k2⟩ := h6 trivial
    exact .inr ⟨b,o,cap,cur,e,fz,h1,h2,⟨k1,qyc h2⟩,h4,h5,fun _ => ⟨k1,k2⟩,qxg hall h7⟩
end Go.Am
namespace Go.Proofs.YtngfogpbljconaaGreatDoor
variable [Go.Am.CodeBlk]
open Go.Am
attribute [local irreducible] AW Outs Weak Lends Lend Sp aops atree aop1 Then Round InBlock Done
theorem slicesContains_spec (L : List Int) (c : Int) (hL : L.length ≤ 1048576) : Sp Tryz.prog 64 [ints L,.i c] (.b (decide (c ∈ L))) := by
  refine qy7 Tryz.func64 rfl cc64 rfl ?_
  unfold ac64
  repeat (first|(refine qz0 ?_;(refine m_mov (by conv => lhs; whnf) ?_))|refine qz1 ?_|refine qz3 ?_)
  (refine qz0 ?_);(apply qza (slicesIndex_spec _ _ hL));(· repeat (first|exact qz4|(refine qz2 ?_ ?_;(· (first|exact qzd|(refine qy2 ?_; first|rfl|omega))))))
  repeat (first|(refine qz0 ?_;(first|(refine m_mov (by conv => lhs; whnf) ?_)|(refine m_geq rfl rfl ?_)))|refine qz1 ?_|refine qzj ?_|refine qzc ?_)
  refine qyb ?_
  refine decide_eq_decide.2 ?_
  unfold whoIs
  by_cases h : c ∈ L
  · simp [h]
  · simp [h]
theorem slicesClone_nil_spec : Sp Tryz.prog 90 [ints []] (newInts []) := by
  refine qy7 Tryz.func90 rfl cc90 rfl ?_
  unfold ac90
  repeat (first|(refine qz0 ?_;(first|(refine m_mov (by conv => lhs; whnf) ?_)|(refine qx2 ?_)))|refine qz1 ?_|refine qz3 ?_|refine qz6 ?_)
  refine qz0 ?_
  refine m_isnil_ro0 rfl fun b => ?_
  cases b
  · repeat (first|(refine qz0 ?_;(first|(refine m_mov (by conv => lhs; whnf) ?_)|(refine m_bsl0 ?_)))|refine qz1 ?_|refine qz3 ?_|(refine qzi rfl ?_ ?_;(· rfl))|refine qz5 ?_)
    refine qz0 ?_
    refine m_appro (ys := []) (cs := []) (m := 0) (n := 0) rfl (by decide) rfl rfl rfl rfl (by decide) (by decide) ?_
    repeat (first|(refine qz0 ?_;(refine m_mov (by conv => lhs; whnf) ?_))|refine qz1 ?_|refine qzj ?_|refine qzc ?_)
    exact qx3 (cs := []) rfl rfl rfl
  · repeat (first|(refine qz0 ?_;(refine qx2 ?_))|refine qz1 ?_|refine qz3 ?_|(refine qzf rfl ?_ ?_;(· rfl))|refine qzj ?_|refine qzc ?_|refine qy8 ?_)
    exact qx3 (cs := []) rfl rfl rfl
theorem slicesClone0_spec (L : List Int) (hL : L.length ≤ 1048576) : Sp Tryz.prog 90 [ints L] (newInts L) := by
  by_cases h1 : 1 ≤ L.length
  · exact slicesClone_spec L hL h1
  · obtain rfl : L = [] := by
      cases L with
      | nil => rfl
      | cons a l => simp at h1
    exact slicesClone_nil_spec
def srchR (o : Option (List Int)) : AV := .tup [newInts (o.getD []),.b o.isSome]
theorem fittingFrom_spec {f : FuncId} {fl : List AV} {n : Nat} {fits : List Int → Nat → Bool} (A : Asks Tryz.prog f fl n fits) (l : List Int) (g : Nat) (hn : n ≤ 1000) (hl : l.length < n) (hb : ∀ x ∈ l,0 ≤ x ∧ x < n) (hg : g ≤ n) :
    Sp Tryz.prog 63 [.i n,ints l,.i g,.fn f fl fl.length] (srchR (goAt fits n l g).head?) := by
  unfold srchR
  refine qy7 Tryz.func63 rfl cc63 rfl ?_
  unfold ac63
  repeat (first|(refine qz0 ?_;(first|(refine m_mov (by conv => lhs; whnf) ?_)|(refine qx2 ?_)))|refine qz1 ?_|refine qz3 ?_)
  refine AW_scope (α := Unit) 0 (fun _ => False) (fun _ => st [] []) (fun _ => 0) rfl ?_ (fun _ hf => hf.elim)
  repeat (first|(refine qz0 ?_;(refine m_mov (by conv => lhs; whnf) ?_))|refine qz3 ?_)
  (refine qz0 ?_);(apply qwh (slicesClone0_spec l (by omega)));(· repeat (first|exact qz4|(refine qz2 ?_ ?_;(· (refine qy2 ?_; first|rfl|omega)))));(· first|exact qx0 _|rfl|(simp; done))
  repeat (first|(refine qz0 ?_;(refine m_mov (by conv => lhs; whnf) ?_))|refine qz1 ?_|refine qz3 ?_|refine qz6 ?_)
  refine AW_label ?_
  refine qz7 ?_
  repeat (first|refine qz6 ?_|refine qz8 ?_)
  refine qyf (α := List Int × Nat) (fun a => a.1.length ≤ n ∧ (∀ x ∈ a.1,0 ≤ x ∧ x < n) ∧ a.2 ≤ n ∧ (goAt fits n a.1 a.2).head? = (goAt fits n l g).head?)
    (fun a => st [(0,.i n),(3,.fn f fl fl.length),(10,.sl 10 1 0 a.1.length),(11,.i a.2)] [(10,(true,a.1.map AV.i))]) (fun a => goMeas n a.1 a.2) (l,g) ⟨by show l.length ≤ n; omega,hb,hg,rfl⟩
    (Weak.trans (qwf (r := 14) (q := 10) rfl (by decide) (by decide)) (qz9 ?_ ?_ ?_ rfl)) ?_
  · (repeat' first|exact trivial|refine And.intro ?_ ?_)<;>first|rfl|skip
    all_goals (simp (disch := decide) [tm_put_ne',tm_mem,tm_kill,tm_mv,tm_en3,kill_fn A.nokill,mv_fn A.nokill])
  · exact ⟨rfl,trivial⟩
  · simp [refsT,refsV,A.norefs,Am.look]
  rintro ⟨M,y⟩ ⟨hM,hMb,hy,hres⟩
  dsimp only at hM hMb hy hres ⊢
  by_cases hfull : M.length = n
  · have hr1 : (goAt fits n l g).head? = some M := by rw [← hres]; exact goAt_full _ _ hfull
    repeat (first|(refine qz0 ?_;(first|(refine m_mov (by conv => lhs; whnf) ?_)|(refine m_eql rfl rfl ?_)|(refine qwd rfl ?_)))|refine qz1 ?_|refine qz3 ?_|(refine qzf rfl ?_ ?_;(· (refine decide_eq_true ?_; omega)))|refine qzj ?_|refine qzc ?_|refine qz7 ?_|refine qz8 ?_|refine qy0 ?_|refine qy9 ?_|refine qzg ?_|(refine exit_other ?_ ?_;(· decide)))
    rw [hr1]
    exact qyh (qx3 rfl rfl rfl) (qyb rfl)
  · have hMl : M.length < n := by omega
    by_cases hy2 : y < n
    · by_cases hf : fits M y = true
      · repeat (first|(refine qz0 ?_;((try (refine g_yes rfl ?_ ?_;(· (refine decide_eq_true ?_; omega))));(first|(refine m_mov (by conv => lhs; whnf) ?_)|(refine m_lss rfl rfl ?_)|(refine m_eql rfl rfl ?_)|(refine qwd rfl ?_))))|refine qz1 ?_|refine qz3 ?_|(refine qzi rfl ?_ ?_;(· (refine decide_eq_false ?_; omega)))|refine qz8 ?_)
        refine qz0 ?_
        refine g_yes rfl ?_ ?_
        · first|rfl|assumption|(refine decide_eq_true ?_; first|assumption|omega)|(refine nt ?_; first|assumption|omega)|(simp [*]; done)
        refine m_callf rfl A.call (A.spec M y (by omega) hMb hy2) ?_ ?_
        · exact asks_lend A.bears rfl (qz2 (qw9 (by rfl) rfl) (qz2 qzd qz4))
        repeat (first|(refine qz0 ?_;(first|(refine m_mov (by conv => lhs; whnf) ?_)|(refine qye rfl ?_ (by conv => lhs; whnf) ?_;(· (refine decide_eq_true ?_; omega)))|(refine qu8 rfl rfl ?_)|(refine qu9 rfl (by decide) (by rfl) (by first|rfl|omega|(simp; done)) rfl rfl ?_ (by decide) ?_;(· first|omega|(simp; omega)))))|refine qz1 ?_|refine qz3 ?_|refine qy5 ?_|(refine qzf rfl ?_ ?_;(· assumption))|refine qze ?_)
        refine qzb (M ++ [(y : Int)],0) ⟨by simp; omega,fun x hx => ?_,Nat.zero_le _,by rw [← hres]; exact congrArg _ (goAt_take _ _ hMl hy2 hf)⟩ (Weak.trans (qwf (r := 45) (q := 10) rfl (by decide) (by decide)) (qz9 ?_ ?_ ?_ rfl)) ?_
        · rcases List.mem_append.1 hx with hx|hx
          · exact hMb x hx
          · rw [List.mem_singleton.1 hx]; omega
        · (repeat' first|exact trivial|refine And.intro ?_ ?_)<;>first|rfl|skip
          all_goals (simp (disch := decide) [tm_put_ne',tm_mem,tm_kill,tm_mv,tm_st,Am.look,kill_fn A.nokill,mv_fn A.nokill])
        · exact ⟨rfl,trivial⟩
        · simp [refsT,refsV,A.norefs,Am.look]
        · exact goMeas_take hMl hy2
      · have hf : fits M y = false := by simpa using hf
        repeat (first|(refine qz0 ?_;((try (refine g_yes rfl ?_ ?_;(· (refine decide_eq_true ?_; omega))));(first|(refine m_mov (by conv => lhs; whnf) ?_)|(refine m_lss rfl rfl ?_)|(refine m_eql rfl rfl ?_)|(refine qwd rfl ?_))))|refine qz1 ?_|refine qz3 ?_|(refine qzi rfl ?_ ?_;(· (refine decide_eq_false ?_; omega)))|refine qz8 ?_)
        refine qz0 ?_
        refine g_yes rfl ?_ ?_
        · first|rfl|assumption|(refine decide_eq_true ?_; first|assumption|omega)|(refine nt ?_; first|assumption|omega)|(simp [*]; done)
        refine m_callf rfl A.call (A.spec M y (by omega) hMb hy2) ?_ ?_
        · exact asks_lend A.bears rfl (qz2 (qw9 (by rfl) rfl) (qz2 qzd qz4))
        repeat (first|(refine qz0 ?_;(first|(refine m_mov (by conv => lhs; whnf) ?_)|(refine m_lss rfl rfl ?_)|(refine m_add rfl rfl ?_ ?_ ?_;(· omega);(· omega))|(refine qye rfl ?_ (by conv => lhs; whnf) ?_;(· (refine decide_eq_true ?_; omega)))))|refine qz1 ?_|refine qz3 ?_|refine qy5 ?_|(refine qzf rfl ?_ ?_;(· (refine decide_eq_true ?_; omega)))|(refine qzi rfl ?_ ?_;(· assumption))|refine qze ?_)
        refine qzb (M,y + 1) ⟨hM,hMb,hy2,by rw [← hres]; exact congrArg _ (goAt_skip _ _ hMl hy2 hf)⟩ (qz9 ?_ ?_ ?_ rfl) ?_
        · (repeat' first|exact trivial|refine And.intro ?_ ?_)<;>first|rfl|skip
          all_goals (simp (disch := decide) [tm_put_ne',tm_put_none,tm_mem,tm_kill,tm_mv,tm_st,tm_en0,tm_en1,tm_en2,tm_en3,tm_en4,Am.look,kill_fn A.nokill,mv_fn A.nokill])
        · exact ⟨rfl,trivial⟩
        · simp [refsT,refsV,A.norefs,Am.look]
        · exact goMeas_skip hMl hy2
    · by_cases hM0 : M.length = 0
      · have hr1 : (goAt fits n l g).head? = none := by
          rw [← hres,List.length_eq_zero_iff.1 hM0,goAt_none _ _ (by omega) (by omega)]; rfl
        repeat (first|(refine qz0 ?_;(first|(first|(refine m_mov (by conv => lhs; whnf) ?_)|(refine m_lss rfl rfl ?_)|(refine m_eql rfl rfl ?_)|(refine qwd rfl ?_)|(refine qy3 rfl ?_ (by conv => lhs; whnf) ?_;(· (refine decide_eq_false ?_; omega)))|(refine qx2 ?_))|(refine g_noT rfl ?_ ?_;(· (refine decide_eq_false ?_; omega)))))|refine qz1 ?_|refine qz3 ?_|(refine qzf rfl ?_ ?_;(· (refine decide_eq_true ?_; omega)))|(refine qzi rfl ?_ ?_;(· first|rfl|(refine decide_eq_false ?_; omega)))|refine qzj ?_|refine qzc ?_|refine qy8 ?_|refine qz8 ?_|refine qx7 ?_|refine qxd ?_)
        rw [hr1]
        exact qyh (qx3 rfl rfl rfl) (qyb rfl)
      · obtain ⟨q,hq⟩ : ∃ q,M.length = q + 1 := ⟨M.length - 1,by omega⟩
        have hx := hMb _ (qud (show q < M.length by omega))
        obtain ⟨k,hk⟩ := Int.eq_ofNat_of_zero_le hx.1
        have hlen : (M.take q).length = q := List.length_take_of_le (by omega)
        have hsp : M = M.take q ++ [(k : Int)] := by
          have h1 := qw2 M q 0 (by omega)
          rw [List.take_of_length_le (by omega),hk] at h1
          exact h1
        have hgo : goAt fits n M y = goAt fits n (M.take q) (k + 1) := by
          conv => lhs; rw [hsp]
          rw [goAt_back _ _ (by omega) (by omega),Int.toNat_natCast]
        have hms : goMeas n (M.take q) (k + 1) < goMeas n M y := by
          have := goMeas_back (n := n) (l := M.take q) (x := (k : Int)) (g := y) (by omega)
          rw [← hsp,Int.toNat_natCast] at this
          exact this
        clear hsp
        repeat (first|(refine qz0 ?_;(first|(first|(refine m_mov (by conv => lhs; whnf) ?_)|(refine m_lss rfl rfl ?_)|(refine m_eql rfl rfl ?_)|(refine m_sub rfl rfl ?_ ?_ ?_;(· omega);(· omega))|(refine qwd rfl ?_)|(refine m_idx_sl rfl rfl ?_ ?_ ?_;(· omega);(· omega))|(refine qu0 rfl (by rfl) ?_ ?_;(· first|omega|(simp; omega)))|(refine qy3 rfl ?_ (by conv => lhs; whnf) ?_;(· (refine decide_eq_false ?_; omega))))|(refine g_noT rfl ?_ ?_;(· (refine decide_eq_false ?_; omega)))))|refine qz1 ?_|refine qz3 ?_|(refine qzi rfl ?_ ?_;(· first|rfl|(refine decide_eq_false ?_; omega)))|refine qz8 ?_)
        rw [show (M.length : Int) - 1 = (q : Int) by omega]
        skip
        rw [show M.getD (0 + (q : Int).toNat * 1) 0 = (k : Int) by rw [Int.toNat_natCast,Nat.zero_add,Nat.mul_one]; exact hk]
        repeat (first|(refine qz0 ?_;(first|(refine m_mov (by conv => lhs; whnf) ?_)|(refine m_add rfl rfl ?_ ?_ ?_;(· omega);(· omega))))|refine qz1 ?_|refine qy5 ?_)
        refine qz0 ?_
        refine m_cut_sl (l := 0) (h := q) rfl rfl ⟨_,rfl⟩ (Nat.zero_le _) (by omega) ?_
        repeat (first|(refine qz0 ?_;(refine m_mov (by conv => lhs; whnf) ?_))|refine qz1 ?_|refine qze ?_)
        refine qzb (M.take q,k + 1) ⟨by show (M.take q).length ≤ _; omega,fun x hx => hMb x (List.mem_of_mem_take hx),by show k + 1 ≤ n; omega,by rw [← hres]; exact congrArg _ hgo.symm⟩ (Weak.trans (weak_shrink 10 q rfl (qx0 _)) (qz9 ?_ ?_ ?_ rfl)) hms
        · rw [hlen]
          (repeat' first|exact trivial|refine And.intro ?_ ?_)<;>first|rfl|skip
          all_goals (simp (disch := decide) [tm_put_ne',tm_put_none,tm_mem,tm_kill,tm_mv,tm_st,tm_en0,tm_en1,tm_en2,tm_en3,tm_en4,Am.look,kill_fn A.nokill,mv_fn A.nokill])
        · rw [List.map_take]
          exact ⟨rfl,trivial⟩
        · simp [refsT,refsV,A.norefs,Am.look]
theorem firstFitting_spec {f : FuncId} {fl : List AV} {n : Nat} {fits : List Int → Nat → Bool} (A : Asks Tryz.prog f fl n fits) (hn : n ≤ 1000) (h1 : 1 ≤ n) :
    Sp Tryz.prog 45 [.i n,.fn f fl fl.length] (srchR (goOn fits n n []).head?) := by
  have hs := fittingFrom_spec A [] 0 hn h1 (fun x hx => by simp at hx) (Nat.zero_le _)
  rw [goAt_start _ _ h1] at hs
  unfold srchR at hs ⊢
  generalize hsr : (goOn fits n n []).head? = sr at hs ⊢
  refine qy7 Tryz.func45 rfl cc45 rfl ?_
  unfold ac45
  repeat (first|(refine qz0 ?_;(first|(refine m_mov (by conv => lhs; whnf) ?_)|(refine qx2 ?_)))|refine qz1 ?_|refine qz3 ?_)
  refine qz0 ?_
  refine m_callt hs ?_ (qx0 _) rfl ?_
  · refine qz2 qzd (qz2 lend_nil (qz2 qzd (qz2 ?_ qz4)))
    rw [show AS.ev _ (.t 7) = AV.fn f fl fl.length by (show killV 4 (AV.fn f fl fl.length) = _; exact kill_fn A.nokill)]
    exact lend_bears A.bears
  repeat (first|(refine qz0 ?_;(first|(refine m_mov (by conv => lhs; whnf) ?_)|(refine m_ext rfl rfl ?_)))|refine qz1 ?_|refine qzj ?_|refine qzc ?_)
  exact qyh (qx3 rfl rfl rfl) (qyb rfl)
theorem nextFitting_spec {f : FuncId} {fl : List AV} {n : Nat} {fits : List Int → Nat → Bool} (A : Asks Tryz.prog f fl n fits) (hn : n ≤ 1000) (h1 : 1 ≤ n) (L : List Int) (hL : L.length = n) (hb : ∀ x ∈ L,0 ≤ x ∧ x < n) :
    Sp Tryz.prog 39 [ints L,.fn f fl fl.length] (srchR ((goOn fits n n []).find? (fun m => comesB L m))) := by
  have hbb : ∀ i < n,∃ g : Nat,L.getD i 0 = g ∧ g < n := fun i hi => by
    have hr := hb _ (qud (show i < L.length by omega))
    obtain ⟨q,hq⟩ := Int.eq_ofNat_of_zero_le hr.1
    exact ⟨q,hq,by omega⟩
  unfold srchR
  refine qy7 Tryz.func39 rfl cc39 rfl ?_
  unfold ac39
  repeat (first|(refine qz0 ?_;(first|(refine m_mov (by conv => lhs; whnf) ?_)|(refine qx2 ?_)))|refine qz1 ?_|refine qz3 ?_|refine qz6 ?_|refine qz8 ?_)
  refine qyf (α := Nat) (fun k => k < n ∧ ∀ i < k,fits (L.take i) (L.getD i 0).toNat = true) (fun k => st [(0,ints L),(1,.fn f fl fl.length),(6,.i k)] []) (fun k => n - k) 0 ⟨by omega,fun i hi => by omega⟩ (qz9 ?_ ?_ ?_ rfl) ?_
  · (repeat' first|exact trivial|refine And.intro ?_ ?_)<;>first|rfl|skip
    all_goals (simp (disch := decide) [tm_put_ne',tm_mem,tm_kill,tm_en1,kill_fn A.nokill])
  · exact trivial
  · simp [refsT,refsV,A.norefs,Am.look]
  rintro k ⟨hk,ha⟩
  obtain ⟨j,hj,hjn⟩ := hbb k hk
  have hlt : (L.take k).length = k := List.length_take_of_le (by omega)
  have hend : fits (L.take k) (L.getD k 0).toNat = false ∨ k + 1 = n → Sp Tryz.prog 63 [.i n,ints (L.take k),.i (j + 1),.fn f fl fl.length] (srchR ((goOn fits n n []).find? (fun m => comesB L m))) := by
    intro he
    rw [find_behind fits n hL hbb hk ha he,hj,Int.toNat_natCast]
    exact fittingFrom_spec A (L.take k) (j + 1) hn (by omega) (fun x hx => hb x (List.mem_of_mem_take hx)) (by omega)
  unfold srchR at hend
  generalize hsr : (goOn fits n n []).find? (fun m => comesB L m) = sr at hend ⊢
  by_cases hc : (k : Int) < L.length - 1
  · have hsp := A.spec (L.take k) j (by omega) (fun x hx => hb x (List.mem_of_mem_take hx)) hjn
    by_cases hf : fits (L.take k) j = true
    · repeat (first|(refine qzh ?_;((try (refine g_yes rfl ?_ ?_;(· (refine decide_eq_true ?_; assumption))));(first|(refine m_mov (by conv => lhs; whnf) ?_)|(refine m_lss rfl rfl ?_)|(refine m_sub rfl rfl ?_ ?_ ?_;(· omega);(· omega))|(refine qy4 rfl ?_)|(refine qy6 rfl rfl ?_ ?_;(· omega))|(refine qyg rfl ?_ ?_;(· omega))|(refine m_cut_hi rfl rfl ?_ ?_ ?_;(· first|rfl|omega|simp);(· first|omega|(simp; omega))))))|refine qw3 ?_|refine qz6 ?_)
      rw [hj]
      skip
      refine qzh ?_
      refine g_yes rfl ?_ ?_
      · first|rfl|assumption|(refine decide_eq_true ?_; first|assumption|omega)|(refine nt ?_; first|assumption|omega)|(simp [*]; done)
      refine m_callf rfl A.call hsp ?_ ?_
      · exact asks_lend A.bears rfl (qz2 (qy2 rfl) (qz2 qzd qz4))
      repeat (first|((first|refine qz0 ?_|refine qzh ?_);(first|(refine m_mov (by conv => lhs; whnf) ?_)|(refine m_add rfl rfl ?_ ?_ ?_;(· omega);(· omega))|(refine qye rfl ?_ (by conv => lhs; whnf) ?_;(· (refine decide_eq_true ?_; assumption)))))|refine qz1 ?_|refine qy5 ?_|refine qxc ?_|(refine qzf rfl ?_ ?_;(· assumption))|refine qz5 ?_|refine qz8 ?_|refine qze ?_)
      refine qzb (k + 1) ⟨by omega,fun i hi => ?_⟩ (qz9 ?_ ?_ ?_ rfl) ?_
      · by_cases hik : i = k
        · subst hik; rw [hj,Int.toNat_natCast]; exact hf
        · exact ha i (by omega)
      · (repeat' first|exact trivial|refine And.intro ?_ ?_)<;>first|rfl|skip
        all_goals (simp (disch := decide) [tm_put_ne',tm_put_none,tm_mem,tm_kill,tm_mv,tm_st,tm_en0,tm_en1,tm_en2,tm_en3,tm_en4,Am.look,kill_fn A.nokill,mv_fn A.nokill])
      · exact trivial
      · simp [refsT,refsV,A.norefs,Am.look]
      · omega
    · have hf : fits (L.take k) j = false := by simpa using hf
      have hs := hend (.inl (by rw [hj,Int.toNat_natCast]; exact hf))
      repeat (first|(refine qzh ?_;((try (refine g_yes rfl ?_ ?_;(· (refine decide_eq_true ?_; assumption))));(first|(refine m_mov (by conv => lhs; whnf) ?_)|(refine m_lss rfl rfl ?_)|(refine m_sub rfl rfl ?_ ?_ ?_;(· omega);(· omega))|(refine qy4 rfl ?_)|(refine qy6 rfl rfl ?_ ?_;(· omega))|(refine qyg rfl ?_ ?_;(· omega))|(refine m_cut_hi rfl rfl ?_ ?_ ?_;(· first|rfl|omega|simp);(· first|omega|(simp; omega))))))|refine qw3 ?_|refine qz6 ?_)
      rw [hj]
      skip
      refine qzh ?_
      refine g_yes rfl ?_ ?_
      · first|rfl|assumption|(refine decide_eq_true ?_; first|assumption|omega)|(refine nt ?_; first|assumption|omega)|(simp [*]; done)
      refine m_callf rfl A.call hsp ?_ ?_
      · exact asks_lend A.bears rfl (qz2 (qy2 rfl) (qz2 qzd qz4))
      repeat (first|(refine qzh ?_;(first|(refine m_mov (by conv => lhs; whnf) ?_)|(refine m_add rfl rfl ?_ ?_ ?_;(· omega);(· omega))|(refine qy4 rfl ?_)|(refine qy6 rfl rfl ?_ ?_;(· omega))|(refine qyg rfl ?_ ?_;(· omega))|(refine qye rfl ?_ (by conv => lhs; whnf) ?_;(· (refine decide_eq_true ?_; assumption)))|(refine m_cut_hi rfl rfl ?_ ?_ ?_;(· first|rfl|omega|simp);(· first|omega|(simp; omega)))))|refine qxc ?_|refine qw3 ?_|(refine qzi rfl ?_ ?_;(· assumption))|refine qz7 ?_|refine qy1 ?_|refine qy0 ?_|refine qy9 ?_|refine qzg ?_)
      rw [hj]
      skip
      refine qzh ?_
      refine qza hs ?_ ?_
      · rw [← hL]
        exact qz2 qzd (qz2 (qy2 rfl) (qz2 qzd (qz2 (lend_bears A.bears) qz4)))
      repeat (first|(refine qzh ?_;(first|(refine m_mov (by conv => lhs; whnf) ?_)|(refine m_ext rfl rfl ?_)))|refine qxc ?_|refine qzj ?_|refine qzc ?_)
      exact qyh (que (qx0 _)) (qyb rfl)
  · have hs := hend (.inr (by omega))
    repeat (first|(refine qzh ?_;(first|(first|(refine m_mov (by conv => lhs; whnf) ?_)|(refine m_lss rfl rfl ?_)|(refine m_add rfl rfl ?_ ?_ ?_;(· omega);(· omega))|(refine m_sub rfl rfl ?_ ?_ ?_;(· omega);(· omega))|(refine qy4 rfl ?_)|(refine qy6 rfl rfl ?_ ?_;(· omega))|(refine qyg rfl ?_ ?_;(· omega))|(refine qy3 rfl ?_ (by conv => lhs; whnf) ?_;(· (refine decide_eq_false ?_; assumption)))|(refine m_cut_hi rfl rfl ?_ ?_ ?_;(· first|rfl|omega|simp);(· first|omega|(simp; omega))))|(refine g_noT rfl ?_ ?_;(· (refine decide_eq_false ?_; assumption)))))|refine qxc ?_|refine qw3 ?_|(refine qzi rfl ?_ ?_;(· rfl))|refine qz6 ?_|refine qz7 ?_|refine qy1 ?_|refine qy0 ?_|refine qy9 ?_|refine qzg ?_)
    rw [hj]
    skip
    refine qzh ?_
    refine qza hs ?_ ?_
    · rw [← hL]
      exact qz2 qzd (qz2 (qy2 rfl) (qz2 qzd (qz2 (lend_bears A.bears) qz4)))
    repeat (first|(refine qzh ?_;(first|(refine m_mov (by conv => lhs; whnf) ?_)|(refine m_ext rfl rfl ?_)))|refine qxc ?_|refine qzj ?_|refine qzc ?_)
    exact qyh (que (qx0 _)) (qyb rfl)
end Go.Proofs.YtngfogpbljconaaGreatDoor
