/- The abstract machine: function values that bear what they captured; they are handed out. -/
import Derived.Test.YtojpcpdbnmnknaaAmW
import Derived.Test.YtojpcpdbnmnknaaAmX
namespace Go.Am
/-- May a function value, of which the first k that it bears stand before the arguments and the others behind, be asked whether a guest fits behind a list? -/
structure AsksK (P : Program) (f : FuncId) (fl : List AV) (k : Nat) (n : Nat) (fits : List Int → Nat → Bool) : Prop where
  call : Callable P f
  bears : Bears fl
  norefs : ∀ keep, refsL keep fl = true
  nokill : ∀ r, killL r fl = fl
  spec : ∀ (M : List Int) (y : Nat), M.length < n → (∀ x ∈ M, 0 ≤ x ∧ x < n) → y < n → Sp P f (fl.take k ++ [ints M, .i y] ++ fl.drop k) (.b (fits M y))
theorem bears_sub {l m : List AV} (h : Bears m) (hs : ∀ x ∈ l, x ∈ m) : Bears l := fun hp x hx => h hp x (hs x hx)
theorem lends_app {hp : Hp} : ∀ {xs as : List AV} {ys bs : List AV}, Lends hp xs as → xs.length = as.length → Lends hp ys bs → Lends hp (xs ++ ys) (as ++ bs) := by
  intro xs as ys bs h1 hl h2 w0 mu N tm w phi ro vs hS hs hlen
  have hsp : vs = vs.take xs.length ++ vs.drop xs.length := (List.take_append_drop _ _).symm
  have key : ∀ (xs ys : List AV) (C : Ctx) (us ws : List Value), us.length = xs.length → SimL (xs ++ ys) C (us ++ ws) → SimL xs C us ∧ SimL ys C ws := by
    intro xs
    induction xs with
    | nil => intro ys C us ws hl h; have : us = [] := List.eq_nil_of_length_eq_zero (by simpa using hl); subst this; exact ⟨by simp [SimL], h⟩
    | cons a l ih =>
      intro ys C us ws hl h
      match us with
      | [] => simp at hl
      | u :: us =>
        simp only [List.cons_append, SimL] at h ⊢
        obtain ⟨h3, h4⟩ := ih ys C us ws (by simpa using hl) h.2
        exact ⟨⟨h.1, h3⟩, h4⟩
  have key2 : ∀ (as bs : List AV) (C : Ctx) (us ws : List Value), us.length = as.length → SimL as C us → SimL bs C ws → SimL (as ++ bs) C (us ++ ws) := by
    intro as
    induction as with
    | nil => intro bs C us ws hl _ h; have : us = [] := List.eq_nil_of_length_eq_zero (by simpa using hl); subst this; exact h
    | cons a l ih =>
      intro bs C us ws hl h h2
      match us with
      | [] => simp at hl
      | u :: us =>
        simp only [List.cons_append, SimL] at h ⊢
        exact ⟨h.1, ih bs C us ws (by simpa using hl) h.2 h2⟩
  have hl1 : (vs.take xs.length).length = xs.length := by rw [List.length_take, hlen, List.length_append]; omega
  have hl2 : (vs.drop xs.length).length = ys.length := by rw [List.length_drop, hlen, List.length_append]; omega
  rw [hsp] at hs
  obtain ⟨h3, h4⟩ := key xs ys _ _ _ hl1 hs
  obtain ⟨h5, h6⟩ := h1 w0 mu N tm w phi ro _ hS h3 hl1
  obtain ⟨h7, h8⟩ := h2 w0 mu N tm w phi ro _ hS h4 hl2
  refine ⟨?_, by rw [List.length_append, ← h6, ← h8, ← List.length_append, ← hsp]⟩
  rw [hsp]
  exact key2 as bs _ _ _ (by rw [hl1, hl]) h5 h7
theorem asksK_lend {s : AS} {fl : List AV} {k : Nat} {args : List Opd} {xs ys : List AV} (h : Bears fl) (he : args.map s.ev = xs) (hl : xs.length = ys.length) (kk : Lends s.hp xs ys) : Lends s.hp (fl.take k ++ args.map s.ev ++ fl.drop k) (fl.take k ++ ys ++ fl.drop k) := by
  rw [he]
  have h1 := bears_sub (l := fl.take k) h fun x hx => List.mem_of_mem_take hx
  have h2 := bears_sub (l := fl.drop k) h fun x hx => List.mem_of_mem_drop hx
  refine lends_app (lends_bears h1 _ kk) (by simp [hl]) (lends_self h2 _)
/-- A function value that captured one plain value is handed out. -/
theorem outs_fnp {s : AS} {f : FuncId} {r : Nat} {v : AV} (hr : s.hp r = some (true, [v])) (hv : plainV v = true) : Outs s (.fn f [.pt r 0] 0) (.fn f [.rp [v]] 0) := by
  intro w0 N tm w phi ro y hS hy
  simp only [SimV] at hy ⊢
  obtain ⟨a, b, h1, h2, h3, h4⟩ := hy
  refine ⟨a, b, h1, h2, h3, ?_⟩
  generalize a.toList ++ b.toList = l at h4
  match l with
  | [] => simp [SimL] at h4
  | x :: xs =>
    simp only [SimL, and_true, SimV] at h4 ⊢
    obtain ⟨_, _, b', k1, k2, cur, e, k3⟩ := h4
    refine ⟨b', 0, cur, e, (0, 0), k2, k3, ?_, ?_⟩
    · rcases hS.liv r _ hr with ⟨h8, _⟩ | ⟨b2, cur2, e2, h8, h9, h10, h11, h12⟩ | ⟨b2, o', h0, _⟩
      · have h8' : phi r = some b' := k1
        rw [h8] at h8'; cases h8'
      · have h8' : phi r = some b' := k1
        rw [h8] at h8'; cases h8'
        exact ⟨(h11.resolve_right fun h => by cases h.2).2.resolve_right (fun h => by obtain ⟨_, _, h⟩ := h; cases h), lt_of_get k3⟩
      · cases h0; simp [plainV] at hv
    · rcases hS.liv r _ hr with ⟨h8, _⟩ | ⟨b2, cur2, e2, h8, h9, h10, h11, h12⟩ | ⟨b2, o', h0, _⟩
      · have h8' : phi r = some b' := k1
        rw [h8] at h8'; cases h8'
      · have h8' : phi r = some b' := k1
        rw [h8] at h8'; cases h8'
        have k3' : w.heap[b']? = some (.cells cur e (0, 0)) := k3
        rw [h9] at k3'
        cases k3'
        simp only [SimR, if_true] at h12
        rw [List.drop_zero]
        exact simL_allv (by simp [hv]) h12
      · cases h0; simp [plainV] at hv
end Go.Am
