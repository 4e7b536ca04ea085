/- Contracts: all types of a sum, made by a function value that calls itself. -/
import Derived.Test.YtnfaljjlpphgiaaSpA
import Derived.Test.YtnfaljjlpphgiaaAmGv
import Derived.Test.YtnfaljjlpphgiaaSvC
namespace Go.Am
theorem ret_doneT {s : AS} {ts : List Nat} {res : AV} {hin hout : Hp} (g : Nat → Nat) (h1 : resAV s ts = renV g res) (h2 : ∀ r c, hout r = some c → ∃ c0, s.hp (g r) = some c0 ∧ (c0 = renR g c ∨ (c.2 = [] ∧ c0.2 = []))) (h3 : ∀ r, (hin r).isSome = true → r < gvb → g r = r ∧ (hout r).isSome = true)
    (h4 : ∀ r, (hout r).isSome = true → hin r = none → g r < pbase) (h5 : ∀ r r', (hout r).isSome = true → (hout r').isSome = true → g r = g r' → r = r') (h6 : ∀ r, (hout r).isSome = true → r < gvb) : DoneT ts res hin hout .ret s := ⟨g, h1, h2, h3, h4, h5, h6⟩
theorem normal_doneT {s : AS} {ts : List Nat} {res : AV} {hin hout : Hp} (h : DoneT ts res hin hout .ret s) : DoneT ts res hin hout .normal s := h
end Go.Am
namespace Go.Proofs.Ytnfaljjlpphgiaa
open Go.Am
attribute [local irreducible] AW Outs Weak Lends Lend Sp aops atree aop1 Then Round InBlock Done
attribute [local irreducible] SpH DoneH SpG DoneT

theorem longerBy_spec (L : List Int) (n : Int) (hL : L.length ≤ 1048576) : Sp Try.prog 61 [ints L, .i n] (newInts (L ++ [n])) := by
  refine spec_of Try.func61 rfl cc61 rfl ?_
  unfold ac61
  repeat (first | (refine step_ops ?_; (first | (refine m_mov (by conv => lhs; whnf) ?_) | (refine m_len_ro rfl ?_) | (refine m_len_sl rfl ?_) | (refine m_len_nil rfl ?_) | (refine m_cut_hi rfl rfl ?_ ?_ ?_; (· first | rfl | omega | simp); (· first | omega | (simp; omega))) | (refine m_cut_lo rfl rfl ?_ ?_ ?_; (· first | rfl | omega | simp); (· first | omega | (simp; omega))) | (refine m_nils ?_) | (refine m_bsl1 rfl rfl ?_) | (refine m_app1i rfl (by decide) (by rfl) (by first | rfl | omega | (simp; done)) rfl rfl ?_ (by decide) ?_; (· first | omega | (simp; omega))) | (refine m_app1 rfl (by decide) rfl (by first | (simp; done) | (simp [*]; done) | (simp; omega)) rfl rfl rfl ?_ (by decide) ?_; (· first | omega | (simp; omega))) | (refine m_appro rfl (by decide) rfl (by first | rfl | (simp; done) | (simp [*]; done) | (simp; omega)) rfl (oks_ints _) ?_ (by decide) ?_; (· first | omega | (simp; omega))))) | refine end_ops ?_ | refine seq_ops ?_ | refine AW_ops ?_ | refine AW_seq ?_ | refine AW_ret ?_ | refine ret_done ?_ | refine norm_then ?_ | refine ret_then ?_ | refine exit_then ?_)
  refine step_ops ?_
  refine m_cut3 rfl rfl rfl ?_
  repeat (first | (refine step_ops ?_; (first | (refine m_mov (by conv => lhs; whnf) ?_) | (refine m_len_ro rfl ?_) | (refine m_len_sl rfl ?_) | (refine m_len_nil rfl ?_) | (refine m_cut_hi rfl rfl ?_ ?_ ?_; (· first | rfl | omega | simp); (· first | omega | (simp; omega))) | (refine m_cut_lo rfl rfl ?_ ?_ ?_; (· first | rfl | omega | simp); (· first | omega | (simp; omega))) | (refine m_nils ?_) | (refine m_bsl1 rfl rfl ?_) | (refine m_app1i rfl (by decide) (by rfl) (by first | rfl | omega | (simp; done)) rfl rfl ?_ (by decide) ?_; (· first | omega | (simp; omega))) | (refine m_app1 rfl (by decide) rfl (by first | (simp; done) | (simp [*]; done) | (simp; omega)) rfl rfl rfl ?_ (by decide) ?_; (· first | omega | (simp; omega))) | (refine m_appro rfl (by decide) rfl (by first | rfl | (simp; done) | (simp [*]; done) | (simp; omega)) rfl (oks_ints _) ?_ (by decide) ?_; (· first | omega | (simp; omega))))) | refine end_ops ?_ | refine seq_ops ?_ | refine AW_ops ?_ | refine AW_seq ?_ | refine AW_ret ?_ | refine ret_done ?_ | refine norm_then ?_ | refine ret_then ?_ | refine exit_then ?_)
  refine step_ops ?_
  refine m_appf (cs := L.map AV.i) (ys := [AV.i n]) (m := 1) rfl (Elems.sl 12 0 1 true [AV.i n] rfl (by simp)) (by decide) rfl ?_ ?_ ?_
  · show L.length + 1 ≤ 9223372036854775807; omega
  · omega
  repeat (first | (refine step_ops ?_; (first | (refine m_mov (by conv => lhs; whnf) ?_) | (refine m_len_ro rfl ?_) | (refine m_len_sl rfl ?_) | (refine m_len_nil rfl ?_) | (refine m_cut_hi rfl rfl ?_ ?_ ?_; (· first | rfl | omega | simp); (· first | omega | (simp; omega))) | (refine m_cut_lo rfl rfl ?_ ?_ ?_; (· first | rfl | omega | simp); (· first | omega | (simp; omega))) | (refine m_nils ?_) | (refine m_bsl1 rfl rfl ?_) | (refine m_app1i rfl (by decide) (by rfl) (by first | rfl | omega | (simp; done)) rfl rfl ?_ (by decide) ?_; (· first | omega | (simp; omega))) | (refine m_app1 rfl (by decide) rfl (by first | (simp; done) | (simp [*]; done) | (simp; omega)) rfl rfl rfl ?_ (by decide) ?_; (· first | omega | (simp; omega))) | (refine m_appro rfl (by decide) rfl (by first | rfl | (simp; done) | (simp [*]; done) | (simp; omega)) rfl (oks_ints _) ?_ (by decide) ?_; (· first | omega | (simp; omega))))) | refine end_ops ?_ | refine seq_ops ?_ | refine AW_ops ?_ | refine AW_seq ?_ | refine AW_ret ?_ | refine ret_done ?_ | refine norm_then ?_ | refine ret_then ?_ | refine exit_then ?_)
  refine outs_ints (cs := (L ++ [n]).map AV.i) ?_ rfl (by rw [List.length_append]; rfl)
  rw [List.map_append]
  rfl

/-- The variable that holds the function value; where the types lie. -/
abbrev goV : AV := .fn 60 [.pt (pbase + 1) 0, .pt pbase 0] 0
abbrev goC : Bool × List AV := (false, [goV])
abbrev tyC (r n : Nat) : Bool × List AV := (false, [.sl r 1 0 n])
def hinG (P R : List (List Int)) : Hp := famH (Am.look [(pbase, goC), (pbase + 1, tyC gvb P.length), (gvb, (false, rowsC (gvb + 1) P))]) (gvb + 1) R
def houtG (P : List (List Int)) : Hp := famH (Am.look [(pbase, goC), (pbase + 1, tyC nbase P.length), (nbase, (false, rowsC (nbase + 1) P))]) (nbase + 1) P
def goS (l : List (Nat × AV)) (P R : List (List Int)) : AS := stG l [(pbase, goC), (pbase + 1, tyC 900 P.length), (900, (false, rowsC 1000 P))] 1000 R

theorem look3 {β : Type} {a b c r : Nat} {x y z v : β} (h : Am.look [(a, x), (b, y), (c, z)] r = some v) : (r = a ∧ v = x) ∨ (r = b ∧ v = y) ∨ (r = c ∧ v = z) := by
  simp only [Am.look] at h
  split at h
  · exact .inl ⟨by assumption, (Option.some.inj h).symm⟩
  · split at h
    · exact .inr (.inl ⟨by assumption, (Option.some.inj h).symm⟩)
    · split at h
      · exact .inr (.inr ⟨by assumption, (Option.some.inj h).symm⟩)
      · cases h
theorem hinG_some {P R : List (List Int)} {r : Nat} {c : Bool × List AV} (h : hinG P R r = some c) : (r = pbase ∧ c = goC) ∨ (r = pbase + 1 ∧ c = tyC gvb P.length) ∨ (r = gvb ∧ c = (false, rowsC (gvb + 1) P)) ∨ ∃ j, j < R.length ∧ r = gvb + 1 + j ∧ c = (true, (R.getD j []).map AV.i) := by
  rcases famH_some h with h1 | ⟨_, j, h2, h3, h4⟩
  · rcases look3 h1 with h | h | h
    · exact .inl h
    · exact .inr (.inl h)
    · exact .inr (.inr (.inl h))
  · exact .inr (.inr (.inr ⟨j, h2, h3, h4⟩))
theorem houtG_some {P : List (List Int)} {r : Nat} {c : Bool × List AV} (h : houtG P r = some c) : (r = pbase ∧ c = goC) ∨ (r = pbase + 1 ∧ c = tyC nbase P.length) ∨ (r = nbase ∧ c = (false, rowsC (nbase + 1) P)) ∨ ∃ j, j < P.length ∧ r = nbase + 1 + j ∧ c = (true, (P.getD j []).map AV.i) := by
  rcases famH_some h with h1 | ⟨_, j, h2, h3, h4⟩
  · rcases look3 h1 with h | h | h
    · exact .inl h
    · exact .inr (.inl h)
    · exact .inr (.inr (.inl h))
  · exact .inr (.inr (.inr ⟨j, h2, h3, h4⟩))
theorem look3_none {β : Type} {a b c r : Nat} {x y z : β} (h1 : r ≠ a) (h2 : r ≠ b) (h3 : r ≠ c) : Am.look [(a, x), (b, y), (c, z)] r = none := by
  simp only [Am.look, if_neg h1, if_neg h2, if_neg h3]
theorem hinG_row {P R : List (List Int)} {j : Nat} (hj : j < R.length) : hinG P R (gvb + 1 + j) = some (true, (R.getD j []).map AV.i) := by
  have hp : pbase = 4000000 := rfl
  have hg : gvb = 16000000 := rfl
  exact famH_row (look3_none (by omega) (by omega) (by omega)) hj
theorem houtG_row {P : List (List Int)} {j : Nat} (hj : j < P.length) : houtG P (nbase + 1 + j) = some (true, (P.getD j []).map AV.i) := by
  have hp : pbase = 4000000 := rfl
  have hg : nbase = 8000000 := rfl
  exact famH_row (look3_none (by omega) (by omega) (by omega)) hj
theorem goS_row {l : List (Nat × AV)} {P R : List (List Int)} {j : Nat} (hj : j < R.length) (h2 : R.length ≤ 2000) : (goS l P R).hp (1000 + j) = some (true, (R.getD j []).map AV.i) := by
  have hp : pbase = 4000000 := rfl
  exact famH_row (look3_none (by omega) (by omega) (by omega)) hj

theorem go_static (P R P' : List (List Int)) : Static (hinG P R) (.tup []) (houtG P') := by
  have hp : pbase = 4000000 := rfl
  have hn : nbase = 8000000 := rfl
  have hg : gvb = 16000000 := rfl
  refine ⟨fun r hr => ?_, fun r c hc => ?_, by simp [ownV, ownL, refsV, refsL]⟩
  · obtain ⟨c, hc⟩ := Option.isSome_iff_exists.1 hr
    rcases hinG_some hc with ⟨rfl, _⟩ | ⟨rfl, _⟩ | ⟨rfl, _⟩ | ⟨j, _, rfl, _⟩ <;> omega
  · rcases houtG_some hc with ⟨_, rfl⟩ | ⟨_, rfl⟩ | ⟨_, rfl⟩ | ⟨j, _, _, rfl⟩
    · exact ⟨rfl, rfl⟩
    · exact ⟨rfl, rfl⟩
    · refine ⟨rowsC_own _ _ _, rowsC_refs _ _ _ fun j hj => ?_⟩
      rw [houtG_row hj]; rfl
    · exact ⟨ownL_ints _ _, refsL_ints _ _⟩

/-- The call's own names for what it is given. -/
def goF : Nat → Nat := fun r => if r = 900 then gvb else if 1000 ≤ r ∧ r < pbase then gvb + 1 + (r - 1000) else r
theorem goF_row {j : Nat} (h : j < 3000) : goF (1000 + j) = gvb + 1 + j := by
  have hp : pbase = 4000000 := rfl
  unfold goF
  rw [if_neg (by omega), if_pos (by omega), Nat.add_sub_cancel_left]
theorem go_enter {av : List AV} {l : List (Nat × AV)} {P R : List (List Int)} (hR : R.length ≤ 2000) (hPR : P.length ≤ R.length) (hl : HasF (enterH av (hinG P R)) goF l) (hr : refsT (fun r => (famH (Am.look [(pbase, goC), (pbase + 1, tyC 900 P.length), (900, (false, rowsC 1000 P))]) 1000 R r).isSome) l = true) : Weak (enterH av (hinG P R)) (goS l P R) := by
  have hp : pbase = 4000000 := rfl
  have hg : gvb = 16000000 := rfl
  refine weak_G goF hl ⟨rfl, rfl, ?_, trivial⟩ (fun j hj => ?_) (show [goF pbase, goF (pbase + 1), goF 900].Nodup by decide) (fun j j' h1 h2 e => ?_) (fun p hm j hj => ?_) (fun p hm => ?_) (fun j hj => ?_) hr (fun p hm hf => ?_)
  · show hinG P R (goF 900) = some (false, renL goF (rowsC 1000 P))
    rw [rowsC_ren goF 1000 (gvb + 1) P fun j hj => goF_row (by omega)]
    rfl
  · rw [goF_row (by omega)]
    exact hinG_row hj
  · rw [goF_row (by omega), goF_row (by omega)] at e
    omega
  · rw [goF_row (by omega)]
    simp only [List.mem_cons, List.not_mem_nil, or_false] at hm
    rcases hm with rfl | rfl | rfl
    · show goF pbase ≠ _
      have : goF pbase = pbase := by decide
      omega
    · show goF (pbase + 1) ≠ _
      have : goF (pbase + 1) = pbase + 1 := by decide
      omega
    · show goF 900 ≠ _
      have : goF 900 = gvb := by decide
      omega
  · simp only [List.mem_cons, List.not_mem_nil, or_false] at hm
    rcases hm with rfl | rfl | rfl
    · exact .inr (.inl ⟨by show pbase ≤ pbase; omega, show goF pbase = pbase by decide⟩)
    · exact .inr (.inl ⟨by show pbase ≤ pbase + 1; omega, show goF (pbase + 1) = pbase + 1 by decide⟩)
    · exact .inr (.inr ⟨by show 900 < pbase; omega, show gvb ≤ goF 900 by decide⟩)
  · rw [goF_row (by omega)]
    exact .inr (.inr ⟨by omega, by omega⟩)
  · simp only [List.mem_cons, List.not_mem_nil, or_false] at hm
    rcases hm with rfl | rfl | rfl
    · rfl
    · rfl
    · refine rowsC_refs _ _ _ fun j hj => ?_
      show (famH _ 1000 R (1000 + j)).isSome = true
      rw [famH_row (look3_none (by omega) (by omega) (by omega)) (by omega)]
      rfl

/-- The end: the types lie in the region q. -/
theorem go_done {s : AS} {P R P' : List (List Int)} {q : Nat} (hq : q < 1000) (hP : P'.length ≤ 2000) (h0 : s.hp pbase = some goC) (h1 : s.hp (pbase + 1) = some (tyC q P'.length)) (h2 : s.hp q = some (false, rowsC 1000 P')) (h3 : ∀ j, j < P'.length → s.hp (1000 + j) = some (true, (P'.getD j []).map AV.i)) : DoneT [] (.tup []) (hinG P R) (houtG P') .ret s := by
  have hp : pbase = 4000000 := rfl
  have hn : nbase = 8000000 := rfl
  have hg : gvb = 16000000 := rfl
  have g0 : ∀ r, r < nbase → (if r = nbase then q else if nbase + 1 ≤ r then 1000 + (r - (nbase + 1)) else r) = r := fun r hr => by rw [if_neg (by omega), if_neg (by omega)]
  have g1 : ∀ j, (if nbase + 1 + j = nbase then q else if nbase + 1 ≤ nbase + 1 + j then 1000 + (nbase + 1 + j - (nbase + 1)) else nbase + 1 + j) = 1000 + j := fun j => by rw [if_neg (by omega), if_pos (by omega), Nat.add_sub_cancel_left]
  refine ret_doneT (fun r => if r = nbase then q else if nbase + 1 ≤ r then 1000 + (r - (nbase + 1)) else r) (by rfl) (fun r c hc => ?_) (fun r hr hlt => ?_) (fun r hr hno => ?_) (fun r r' hr hr' e => ?_) (fun r hr => ?_)
  · rcases houtG_some hc with ⟨rfl, rfl⟩ | ⟨rfl, rfl⟩ | ⟨rfl, rfl⟩ | ⟨j, hj, rfl, rfl⟩
    · refine ⟨_, by rw [g0 _ (by omega)]; exact h0, .inl ?_⟩
      simp only [renR, renL, renV]
      rw [g0 _ (by omega), g0 _ (by omega)]
    · refine ⟨_, by rw [g0 _ (by omega)]; exact h1, .inl ?_⟩
      simp only [renR, renL, renV, if_true]
    · refine ⟨_, by rw [if_pos rfl]; exact h2, .inl ?_⟩
      simp only [renR]
      rw [rowsC_ren _ (nbase + 1) 1000 P' fun j hj => g1 j]
    · refine ⟨_, by rw [g1]; exact h3 j hj, .inl ?_⟩
      simp only [renR]
      rw [renL_ints]
  · obtain ⟨c, hc⟩ := Option.isSome_iff_exists.1 hr
    rcases hinG_some hc with ⟨rfl, _⟩ | ⟨rfl, _⟩ | ⟨rfl, _⟩ | ⟨j, _, rfl, _⟩
    · exact ⟨g0 _ (by omega), rfl⟩
    · exact ⟨g0 _ (by omega), rfl⟩
    · omega
    · omega
  · obtain ⟨c, hc⟩ := Option.isSome_iff_exists.1 hr
    rcases houtG_some hc with ⟨rfl, _⟩ | ⟨rfl, _⟩ | ⟨rfl, _⟩ | ⟨j, hj, rfl, _⟩
    · have e : hinG P R pbase = some goC := rfl
      rw [e] at hno; cases hno
    · have e : hinG P R (pbase + 1) = some (tyC gvb P.length) := rfl
      rw [e] at hno; cases hno
    · show (if nbase = nbase then q else _) < _
      rw [if_pos rfl]; omega
    · show (if nbase + 1 + j = nbase then q else _) < _
      rw [g1]; omega
  · obtain ⟨c, hc⟩ := Option.isSome_iff_exists.1 hr
    obtain ⟨c', hc'⟩ := Option.isSome_iff_exists.1 hr'
    rcases houtG_some hc with ⟨rfl, _⟩ | ⟨rfl, _⟩ | ⟨rfl, _⟩ | ⟨j, hj, rfl, _⟩ <;> rcases houtG_some hc' with ⟨rfl, _⟩ | ⟨rfl, _⟩ | ⟨rfl, _⟩ | ⟨j', hj', rfl, _⟩ <;> (repeat' split at e) <;> omega
  · obtain ⟨c, hc⟩ := Option.isSome_iff_exists.1 hr
    rcases houtG_some hc with ⟨rfl, _⟩ | ⟨rfl, _⟩ | ⟨rfl, _⟩ | ⟨j, hj, rfl, _⟩ <;> omega
end Go.Proofs.Ytnfaljjlpphgiaa
