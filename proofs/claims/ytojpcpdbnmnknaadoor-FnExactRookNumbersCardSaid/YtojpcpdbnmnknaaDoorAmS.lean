/- The abstract machine, part nineteen: structs that hold slices. -/
import Derived.Test.YtojpcpdbnmnknaaDoorAmR
namespace Go.Am
variable {P : Program} {own : Bool} {N : Nat} {s : AS} {K : AS → Prop} {d : Option Nat}

/-- A region told otherwise, its block being what it was. -/
theorem weak_recell {s : AS} {r : Nat} {c c' : Bool × List AV} (hr : s.hp r = some c) (hne : c.2 ≠ []) (hno : ∀ o, c ≠ (true, [.ob o]))
    (h : ∀ (w0 : World) (mu : Nat → Option Nat) (N : Nat) (tm : Array Value) (w : World) (phi : Nat → Option Nat) (ro : Nat → Prop) (cur : Array Value), Sim w0 mu N s tm w phi ro → SimR c (ctx w0 w ro phi s) cur.toList → SimR c' (ctx w0 w ro phi s) cur.toList) : Weak s (s.mem r c') := by
  intro w0 mu N a w hS
  obtain ⟨hf, phi, ro, hS⟩ := hS
  rcases hS.liv r c hr with ⟨_, h2, _⟩ | ⟨b, cur, e, h1, h2, h3, h4, h5⟩ | ⟨b, o, h0, _⟩
  · exact absurd h2 hne
  case inr.inr => exact absurd h0 (hno o)
  · exact ⟨hf, phi, ro, hS.write hr h1 h2 h2 rfl (fun _ _ _ => rfl) rfl rfl rfl (Nat.le_refl _) (h w0 mu N a.tmps w phi ro cur hS h5)⟩
/-- Plain cells may be told as cells that may lead to regions. -/
theorem weak_deep {r : Nat} {cs : List AV} (hr : s.hp r = some (true, cs)) (hne : cs ≠ []) (hpl : cs.all plainV = true) : Weak s (s.mem r (false, cs)) := by
  refine weak_recell hr hne (fun o h => by cases h; simp [plainV] at hpl) fun w0 mu N tm w phi ro cur _ h => ?_
  simp only [SimR, if_true, Bool.false_eq_true, if_false] at h ⊢
  exact simL_allv hpl h
/-- A new region that has no block. -/
theorem weak_none {q : Nat} (hq : s.hp q = none) (hp : q < pbase) : Weak s (s.mem q (true, [])) := by
  intro w0 mu N a w hS
  obtain ⟨hf, phi, ro, hS⟩ := hS
  exact ⟨hf, _, ro, hS.born hq hp (true, []) none rfl⟩
/-- A nil slice in a cell is a slice of an empty region. -/
theorem weak_nilcell (r q z j : Nat) {cs : List AV} (hr : s.hp r = some (true, cs)) (hq : s.hp q = none) (hqp : q < pbase) (hc : cs[j]? = some (.v (.slice none 0 0))) (hpl : cs.all plainV = true) :
    Weak s ((s.mem q (true, [])).mem r (false, cs.set j (.sl q z 0 0))) := by
  have hrq : r ≠ q := fun e => by rw [e] at hr; rw [hr] at hq; cases hq
  have hr' : (s.mem q (true, [])).hp r = some (true, cs) := by rw [hp_mem_ne hrq]; exact hr
  intro w0 mu N a w hS
  obtain ⟨hf, phi, ro, hS⟩ := hS
  have hS1 := hS.born hq hqp (true, []) none rfl
  rcases hS1.liv r _ hr' with ⟨_, h2, _⟩ | ⟨b, cur, e, h1, h2, h3, h4, h5⟩ | ⟨b, o, h0, _⟩
  case inr.inr => cases h0; simp [plainV] at hpl
  · simp only at h2; rw [h2] at hc; simp at hc
  · refine ⟨hf, _, ro, hS1.write hr' h1 h2 h2 rfl (fun _ _ _ => rfl) rfl rfl rfl (Nat.le_refl _) ?_⟩
    simp only [SimR, if_true, Bool.false_eq_true, if_false] at h5 ⊢
    have h6 := simL_allv (D := ctx w0 w ro (fun p => if p = q then none else phi p) (s.mem q (true, []))) hpl h5
    obtain ⟨y, k1, k2⟩ := h6.get hc
    simp only [SimV] at k2
    subst k2
    have hlt : j < cs.length := (List.getElem?_eq_some_iff.1 hc).1
    have h7 := h6.set (i := j) (a := .sl q z 0 0) (y := .slice none 0 0) (by simp only [SimV]; exact ⟨rfl, by simp [ctx, AS.mem], .inl (by simp [ctx])⟩) hlt
    have e2 : cur.toList.set j (.slice none 0 0) = cur.toList := by
      apply List.ext_getElem?
      intro i
      rw [List.getElem?_set]
      by_cases e : j = i
      · subst e
        have := (List.getElem?_eq_some_iff.1 k1).1
        simp only [if_true, this, k1]
      · simp [e]
    rw [e2] at h7
    exact h7
section
variable {x y : Opd}
theorem m_bslz {r z : Nat} {zero : List Value} {l : List AV} (hx : s.ev x = .agg l) (hl : l.length = z) (hz : zero.length = z) (hok : l.all (cellOk true) = true) (k : K (((s.kill r).mem r (true, l)).put (some r) (.sl r z 0 1))) : aop1 P own ⟨some r, .bsl z 1 zero [(0, x)], none⟩ s K := by
  refine m_bsl (fl := true) (out := l) (.inr ⟨l, hx, hl, by simp; omega, hok, ?_⟩) k
  show l = _
  simp
  omega
theorem m_appz {q r q' z n bs : Nat} {cs l : List AV} (hx : s.ev x = .sl r z 0 n) (hp : r < pbase) (hr : s.hp r = some (true, cs)) (hl : cs.length = n * z) (hy : s.ev y = .sl q' z 0 1) (hq : s.hp q' = some (true, l)) (hll : l.length = z) (hok : l.all (cellOk true) = true)
    (h1 : n ≤ 4194304) (h2 : bs ≤ 64) (k : K ((((s.kill r).kill q).mem q (true, cs ++ l)).put (some q) (.sl q z 0 (n + 1)))) : aop1 P own ⟨some q, .app z bs x y, none⟩ s K := by
  refine m_app (fl := true) (ys := l) (m := 1) hx hp hr hl ?_ hok (by show n + 1 ≤ 9223372036854775807; omega) ?_ ?_
  · rw [hy]
    have h := Elems.sl (hp := s.hp) (z := z) q' 0 1 true l hq (by omega)
    rw [List.drop_zero, Nat.one_mul, List.take_of_length_le (by omega)] at h
    exact h
  · have := Nat.mul_le_mul (show n + 1 ≤ 4194305 by omega) h2
    omega
  · exact k
end
/-- A call of a function value whose result becomes a region. -/
theorem m_callvo {x : Opd} {f : FuncId} {args : List Opd} {as : List AV} {r c n : Nat} {cs : List AV} (hf : s.ev x = .v (.func (.func f) #[] #[])) (hcb : Callable P f) (hs : Sp P f as (.ro true c cs n)) (hl : Lends s.hp (args.map s.ev) as) (hall : cs.all plainV = true)
    (k : K (((s.kill r).mem r (true, cs)).put (some r) (.sl r c 0 n))) : aop1 P true ⟨some r, .callv x args, none⟩ s K := .inl ⟨f, hf, hcb, .inl ⟨as, _, hs, hl, .inr ⟨rfl, r, c, cs, n, rfl, hall, .inl ⟨rfl, k⟩⟩⟩⟩
theorem lend_aggs {hp : Hp} {xs as : List AV} (h : Lends hp xs as) : Lend hp (.agg xs) (.agg as) := by
  intro w0 mu N tm w phi ro v hS hv
  simp only [SimV] at hv ⊢
  obtain ⟨a, h1, h2, h3⟩ := hv
  obtain ⟨h4, h5⟩ := h w0 mu N tm w phi ro a.toList hS h3 (by simpa using h2)
  exact ⟨a, h1, by simpa using h5, h4⟩
theorem outs_agg3 {a b c a' b' c' : AV} (h1 : Outs s a a') (h2 : Outs s b b') (h3 : Outs s c c') : Outs s (.agg [a, b, c]) (.agg [a', b', c']) := by
  intro w0 N tm w phi ro y hS hy
  simp only [SimV] at hy ⊢
  obtain ⟨ar, hy, hsz, hs⟩ := hy
  refine ⟨ar, hy, hsz, ?_⟩
  match hl : ar.toList with
  | [] => rw [hl] at hs; simp [SimL] at hs
  | [_] => rw [hl] at hs; simp [SimL] at hs
  | [_, _] => rw [hl] at hs; simp [SimL] at hs
  | u :: v :: t :: rest =>
    rw [hl] at hs
    simp only [SimL, and_true] at hs ⊢
    exact ⟨h1 w0 N tm w phi ro u hS hs.1, h2 w0 N tm w phi ro v hS hs.2.1, h3 w0 N tm w phi ro t hS hs.2.2⟩
/-- What a region may hold that is handed out: plain cells, and slices of new memory. -/
def newV : AV → Bool
  | .v _ => true
  | .ro true _ cs _ => cs.all plainV
  | _ => false
theorem simL_new {w0 w : World} {mu : Nat → Option Nat} {N : Nat} {tm : Array Value} {phi : Nat → Option Nat} {ro : Nat → Prop} (hS : Sim w0 mu N s tm w phi ro) : ∀ {cs : List AV} {ys : List Value}, cs.all newV = true → SimL cs (ctx w0 w ro phi s).out ys → SimL cs (fresh w0 w).out ys
  | [], _, _, _ => by simp [SimL]
  | _ :: _, [], _, h => by simp [SimL] at h
  | c :: cs, y :: ys, h, hs => by
    simp only [List.all_cons, Bool.and_eq_true, SimL] at h hs ⊢
    refine ⟨?_, simL_new hS h.2 hs.2⟩
    cases c with
    | v x => simpa [SimV] using hs.1
    | ro fr z cs n =>
      cases fr with
      | false => simp [newV] at h
      | true =>
        have h1 := hs.1
        simp only [SimV] at h1 ⊢
        rcases h1 with h1 | ⟨b, o, cap, cur, e, fz, k1, k2, k3, k4, k5, k6, k7⟩
        · exact .inl h1
        · exact .inr ⟨b, o, cap, cur, e, fz, k1, k2, ⟨(k6 trivial).1, hS.rob b k3⟩, k4, k5, k6, simL_allv h.1 k7⟩
    | _ => simp [newV] at h
theorem outs_sln {r z n : Nat} {cs : List AV} (hr : s.hp r = some (true, cs)) (hl : cs.length = n * z) (hall : cs.all newV = true) : Outs s (.sl r z 0 n) (.ro true z cs n) := by
  intro w0 N tm w phi ro y hS hy
  simp only [SimV] at hy ⊢
  rcases hy.2.2 with ⟨h1, _, rfl, rfl⟩ | ⟨b, o, cap, cur, e, h1, rfl, h3, h4, h5, h6, h7⟩
  · left
    exact ⟨rfl, List.eq_nil_of_length_eq_zero (by omega), none, 0, rfl, fun _ => ⟨rfl, rfl⟩⟩
  · right
    have ho : o = 0 := by
      rcases h4 with h4 | h4
      · exact h4
      · exact absurd h4.2 (Nat.lt_irrefl _)
    subst ho
    rcases hS.liv r _ hr with ⟨h8, _⟩ | ⟨b', cur', e', h8, h9, h10, h11, h12⟩ | ⟨b', o', _, h8, h9, h10, _⟩
    · have : phi r = some b := h1
      rw [h8] at this; cases this
    case inr.inr => exact ob_not_cells h8 h9 h10 h1 h3
    · have h1' : phi r = some b := h1
      rw [h8] at h1'
      cases h1'
      have h3' : w.heap[b]? = some (.cells cur e (0, 0)) := h3
      rw [h9] at h3'
      cases h3'
      have hb : w0.heap.size ≤ b := (h11.resolve_right fun h => by cases h.2).2.resolve_right fun h => by obtain ⟨_, _, h⟩ := h; cases h
      refine ⟨b, 0, cap, cur, e, (0, 0), rfl, h9, ⟨hb, lt_of_get h9⟩, hl, h5, fun _ => ⟨hb, rfl, rfl, h6, by omega⟩, ?_⟩
      simp only [SimR, if_true] at h12
      rw [List.drop_zero]
      exact simL_new hS hall h12
theorem drop_flat {α : Type} (l : List (List α)) (z j : Nat) (h : ∀ r ∈ l, r.length = z) (hj : j < l.length) : (l.flatten.drop (j * z)).take z = l.getD j [] := by
  induction l generalizing j with
  | nil => simp at hj
  | cons r l ih =>
    have hr := h r (List.mem_cons_self ..)
    cases j with
    | zero => simp [← hr]
    | succ j =>
      have := ih j (fun x hx => h x (List.mem_cons_of_mem _ hx)) (by simpa using hj)
      rw [List.flatten_cons, Nat.succ_mul, List.drop_append, List.drop_of_length_le (by omega), List.nil_append, hr]
      rw [show j * z + z - z = j * z by omega, this]
      simp
theorem flat_len {α : Type} (l : List (List α)) (z : Nat) (h : ∀ r ∈ l, r.length = z) : l.flatten.length = l.length * z := by
  induction l with
  | nil => simp
  | cons r l ih => rw [List.flatten_cons, List.length_append, h r (List.mem_cons_self ..), ih fun x hx => h x (List.mem_cons_of_mem _ hx), List.length_cons, Nat.succ_mul]; omega
end Go.Am
