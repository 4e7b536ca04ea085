/- A matrix whose rows are appended to another one's. -/
import Derived.Test.YteoogkiaacdmiaaAmR
import Derived.Test.YteoogkiaacdmiaaAmU
namespace Go.Proofs.Yteoogkiaacdmiaa
open Go.Am
attribute [local irreducible] AW Outs Weak Lends Lend Sp aops atree aop1 Then Round InBlock Done

def gjoin (b m b2 : Nat) : Nat → Nat := fun j => if j < m then b + j else b2 + (j - m)
theorem rowsC_app (b : Nat) (rows rows2 : List (List Int)) : rowsC b (rows ++ rows2) = rowsC b rows ++ rowsC (b + rows.length) rows2 := by
  induction rows generalizing b with
  | nil => rfl
  | cons r rs ih =>
    simp only [List.cons_append, rowsC, ih, List.length_cons]
    rw [show b + 1 + rs.length = b + (rs.length + 1) by omega]

/-- Forgetting, the rows of another matrix having been appended. -/
theorem weak_join {s : AS} {l : List (Nat × AV)} {h : List (Nat × (Bool × List AV))} {r0 b b2 : Nat} {rows rows2 : List (List Int)} (f0 : Nat → Nat)
    (hl : HasF s (nmF b f0 (gjoin b rows.length b2)) l) (hh : HasRF s (nmF b f0 (gjoin b rows.length b2)) h) (hflat : (h.all fun p => p.2.1) = true) (hk : (r0 :: h.map (·.1)).all (fun r => decide (r < b ∧ f0 r < b)) = true)
    (hpk : (r0 :: h.map (·.1)).all (fun r => decide ((r < pbase ∧ f0 r < pbase) ∨ (pbase ≤ r ∧ f0 r = r))) = true) (hb : b + rows.length + rows2.length ≤ b2) (hb2 : b2 + rows2.length ≤ pbase) (hr : refsT (fun r => (r0 :: h.map (·.1)).contains r) l = true) (hndB : nodupB ((r0 :: h.map (·.1)).map f0) = true)
    {cs : List AV} (h0 : s.hp (f0 r0) = some (false, cs)) (hcs : cs = rowsC b rows ++ rowsC b2 rows2)
    (hrow : ∀ j, j < rows.length → s.hp (b + j) = some (true, (rows.getD j []).map AV.i)) (hrow2 : ∀ j, j < rows2.length → s.hp (b2 + j) = some (true, (rows2.getD j []).map AV.i)) : Weak s (stM l h r0 b (rows ++ rows2)) := by
  have hlen : (rows ++ rows2).length = rows.length + rows2.length := by simp
  refine weak_mat f0 (gjoin b rows.length b2) hl hh hflat hk hpk (fun j hj => .inl ⟨by omega, by unfold gjoin; split <;> omega⟩) hr ⟨false, cs, h0, .inl ⟨rfl, ?_⟩⟩ (fun j hj => ?_) hndB (fun j hj r hr => ?_) (fun j j' h1 h2 e => ?_)
  · rw [hcs, rowsC_app, renL_append, rowsC_ren _ b b, rowsC_ren _ (b + rows.length) b2]
    · intro j hj
      unfold nmF gjoin
      rw [if_neg (by omega), if_neg (by omega)]; omega
    · intro j hj
      unfold nmF gjoin
      rw [if_neg (by omega), Nat.add_sub_cancel_left, if_pos hj]
  · unfold gjoin
    by_cases hj' : j < rows.length
    · rw [if_pos hj', hrow j hj']
      simp [List.getElem?_append, hj']
    · rw [if_neg hj', hrow2 (j - rows.length) (by omega)]
      simp [List.getElem?_append, hj']
  · have := of_decide_eq_true (List.all_eq_true.1 hk r hr)
    unfold gjoin
    split <;> omega
  · unfold gjoin at e
    split at e <;> split at e <;> omega

theorem addM_ne {s : AS} {q b r : Nat} {rows : List (List Int)} (h1 : r ≠ q) (h2 : r < b) : (s.addM q b rows).hp r = s.hp r := by
  unfold AS.addM famH
  simp only [h1, if_false]
  cases s.hp r with
  | some c => rfl
  | none => simp only; rw [if_neg (by omega)]

theorem stM_none {l : List (Nat × AV)} {h : List (Nat × (Bool × List AV))} {r0 b r : Nat} {rows : List (List Int)} (hk : ((r0, (false, rowsC b rows)) :: h).all (fun p => decide (p.1 < b)) = true) (hr : b + rows.length ≤ r) : (stM l h r0 b rows).hp r = none := by
  show famH _ b rows r = none
  unfold famH
  rw [look_none fun p hp => by have := List.all_eq_true.1 hk p hp; have := of_decide_eq_true this; omega]
  simp only
  rw [if_neg (by omega)]

end Go.Proofs.Yteoogkiaacdmiaa
