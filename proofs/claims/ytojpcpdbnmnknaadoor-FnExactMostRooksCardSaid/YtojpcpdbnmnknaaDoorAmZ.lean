/- The abstract machine: memory that is read, rows within rows: it is lent on behind a pointer. -/
import Derived.Test.YtojpcpdbnmnknaaDoorAmY
namespace Go.Am
mutual
/-- Exact values, and slices and pointers that are read, all through. -/
def readV : AV → Bool
  | .v _ => true
  | .ro fr _ cs _ => !fr && readL cs
  | .rp cs => readL cs
  | .any => false
  | .sl _ _ _ _ => false
  | .pt _ _ => false
  | .agg _ => false
  | .tup _ => false
  | .mp _ => false
  | .itr _ => false
  | .ob _ => false
  | .fn _ _ _ => false
  | .rmp _ _ _ => false
  | .fu _ _ _ => false
  | .mit _ _ _ _ _ => false
def readL : List AV → Bool
  | [] => true
  | a :: l => readV a && readL l
end
mutual
theorem SimV.read : ∀ (x : AV) (C D : Ctx) (y : Value), readV x = true → D.heap = C.heap → (∀ b, C.ro b → D.ro b) → SimV x C y → SimV x D y
  | .v _, _, _, _, _, _, _, h => by simpa only [SimV] using h
  | .ro fr z cs n, C, D, y, hr, hh, hro, h => by
    simp only [readV, Bool.and_eq_true, Bool.not_eq_true'] at hr
    simp only [SimV] at h ⊢
    rcases h with h | ⟨b, o, cap, cur, e, fz, h1, h2, h3, h4, h5, h6, h7⟩
    · exact .inl h
    · exact .inr ⟨b, o, cap, cur, e, fz, h1, by rw [hh]; exact h2, hro b h3, h4, h5, (fun e => by rw [hr.1] at e; cases e), SimL.read cs C.out D.out _ hr.2 hh hro h7⟩
  | .rp cs, C, D, y, hr, hh, hro, h => by
    simp only [readV] at hr
    simp only [SimV] at h ⊢
    obtain ⟨b, o, cur, e, fz, h1, h2, h3, h4⟩ := h
    exact ⟨b, o, cur, e, fz, h1, by rw [hh]; exact h2, hro b h3, SimL.read cs C.out D.out _ hr hh hro h4⟩
  | .any, _, _, _, hr, _, _, _ => by simp [readV] at hr
  | .sl _ _ _ _, _, _, _, hr, _, _, _ => by simp [readV] at hr
  | .pt _ _, _, _, _, hr, _, _, _ => by simp [readV] at hr
  | .agg _, _, _, _, hr, _, _, _ => by simp [readV] at hr
  | .tup _, _, _, _, hr, _, _, _ => by simp [readV] at hr
  | .mp _, _, _, _, hr, _, _, _ => by simp [readV] at hr
  | .itr _, _, _, _, hr, _, _, _ => by simp [readV] at hr
  | .ob _, _, _, _, hr, _, _, _ => by simp [readV] at hr
  | .fn _ _ _, _, _, _, hr, _, _, _ => by simp [readV] at hr
  | .rmp _ _ _, _, _, _, hr, _, _, _ => by simp [readV] at hr
  | .fu _ _ _, _, _, _, hr, _, _, _ => by simp [readV] at hr
  | .mit _ _ _ _ _, _, _, _, hr, _, _, _ => by simp [readV] at hr
theorem SimL.read : ∀ (l : List AV) (C D : Ctx) (ys : List Value), readL l = true → D.heap = C.heap → (∀ b, C.ro b → D.ro b) → SimL l C ys → SimL l D ys
  | [], _, _, _, _, _, _, _ => by simp [SimL]
  | _ :: _, _, _, [], _, _, _, h => by simp [SimL] at h
  | a :: l, C, D, y :: ys, hr, hh, hro, h => by
    simp only [readL, Bool.and_eq_true] at hr
    simp only [SimL] at h ⊢
    exact ⟨SimV.read a C D y hr.1 hh hro h.1, SimL.read l C D ys hr.2 hh hro h.2⟩
end
theorem lend_read {hp : Hp} {x : AV} (hr : readV x = true) : Lend hp x x := by
  intro w0 mu N tm w phi ro v hS hv
  exact SimV.read x (ctx w0 w ro phi ⟨fun _ => .any, hp⟩) _ v hr rfl (fun b hb => hS.rob b hb) hv
theorem bears_read {l : List AV} (h : readL l = true) : Bears l := by
  intro hp x hx
  refine lend_read ?_
  induction l with
  | nil => cases hx
  | cons a l ih =>
    simp only [readL, Bool.and_eq_true] at h
    rcases List.mem_cons.1 hx with rfl | hx
    · exact h.1
    · exact ih h.2 hx
/-- A pointer to a region of my own whose cells lead to what is read. -/
theorem lend_ptR {hp : Hp} {r : Nat} {cs : List AV} (hr : hp r = some (true, cs)) (hall : readL cs = true) : Lend hp (.pt r 0) (.rp cs) := by
  intro w0 mu N tm w phi ro v hS hv
  simp only [SimV] at hv ⊢
  obtain ⟨_, _, b, h1, h2, cur, e, h3⟩ := hv
  refine ⟨b, 0, cur, e, (0, 0), h2, h3, lt_of_get h3, ?_⟩
  rw [List.drop_zero]
  rcases hS.liv r _ hr with ⟨k1, _⟩ | ⟨b', cur', e', k1, k2, k3, k4, k5⟩ | ⟨b', o, k0, _⟩
  · have h1' : phi r = some b := h1
    rw [k1] at h1'; cases h1'
  · have h1' : phi r = some b := h1
    rw [k1] at h1'; cases h1'
    have h3' : w.heap[b]? = some (.cells cur e (0, 0)) := h3
    rw [k2] at h3'; cases h3'
    simp only [SimR, if_true] at k5
    exact SimL.read cs (ctx w0 w ro phi ⟨fun _ => .any, hp⟩).out _ _ hall rfl (fun b hb => hS.rob b hb) k5
  · cases k0; simp [readL, readV] at hall
theorem readL_ints (L : List Int) : readL (L.map AV.i) = true := by
  induction L with
  | nil => rfl
  | cons a l ih => simp only [List.map_cons, readL, readV, ih, Bool.and_self]
theorem readV_ints (L : List Int) : readV (ints L) = true := by simp [readV, readL_ints]
theorem readL_rows (M : List (List Int)) : readL (M.map ints) = true := by
  induction M with
  | nil => rfl
  | cons a l ih =>
    rw [List.map_cons, readL, readV_ints, ih]; rfl
theorem readV_rows (M : List (List Int)) : readV (.ro false 1 (M.map ints) M.length) = true := by simp only [readV, readL_rows]; rfl
end Go.Am
