/- Rings: where a walk along a list ends; lists that close no chain too early. No program. Rings: a list has one chain alone just if no chain is closed before the last guest comes. No program. -/
import Derived.Test.YtlcjipgnflncfaaMaN2
import Derived.Test.YtlcjipgnflncfaaMaL2
namespace Go.Am
/-- Where a walk from x along M ends: at a number that M does not tell. -/
def endR (M : List Int) : Nat → Nat → Nat
  | 0, x => x
  | f + 1, x => if x < M.length then endR M f (nx M x) else x
theorem it_front (M : List Int) (t x : Nat) : it M (t + 1) x = it M t (nx M x) := it_add M t 1 x
theorem endR_eq (M : List Int) : ∀ (t f x : Nat), t ≤ f → (∀ s, s < t → it M s x < M.length) → M.length ≤ it M t x → endR M f x = it M t x
  | 0, f, x, _, _, h => by
    have h : M.length ≤ x := h
    cases f with
    | zero => rfl
    | succ f => exact if_neg (by omega)
  | t + 1, f, x, hf, hs, h => by
    cases f with
    | zero => omega
    | succ f =>
      have h0 : x < M.length := hs 0 (by omega)
      rw [it_front] at h ⊢
      show (if x < M.length then endR M f (nx M x) else x) = _
      rw [if_pos h0]
      exact endR_eq M t f (nx M x) (by omega) (fun s hs' => by rw [← it_front]; exact hs (s + 1) (by omega)) h
theorem nx_mem {M : List Int} (hb : ∀ y ∈ M, 0 ≤ y) {j : Nat} (hj : j < M.length) : ((nx M j : Nat) : Int) ∈ M ∧ M.getD j 0 = (nx M j : Nat) := by
  have h1 : M.getD j 0 ∈ M := by simp [hj]
  have h2 := hb _ h1
  have h3 : M.getD j 0 = (nx M j : Nat) := by unfold nx; omega
  exact ⟨h3 ▸ h1, h3⟩
theorem nx_injM {M : List Int} (hb : ∀ y ∈ M, 0 ≤ y) (hn : M.Nodup) {i j : Nat} (hi : i < M.length) (hj : j < M.length) (e : nx M i = nx M j) : i = j := by
  have h1 := (nx_mem hb hi).2
  have h2 := (nx_mem hb hj).2
  rw [e, ← h2] at h1
  have e1 : M[i]? = M[j]? := by
    rw [List.getElem?_eq_getElem hi, List.getElem?_eq_getElem hj]
    simpa [hi, hj] using h1
  exact (List.getElem?_inj hi hn).1 e1
/-- A walk from a number that M does not tell comes to no number twice. -/
theorem walk_ne {M : List Int} (hb : ∀ y ∈ M, 0 ≤ y) (hn : M.Nodup) {x : Nat} (hx : (x : Int) ∉ M) : ∀ (a b : Nat), a < b → (∀ s, s < b → it M s x < M.length) → it M a x ≠ it M b x
  | 0, b + 1, _, hs, e => by
    have := (nx_mem hb (hs b (by omega))).1
    have e : x = nx M (it M b x) := e
    rw [← e] at this
    exact hx this
  | a + 1, b + 1, h, hs, e => walk_ne hb hn hx a b (by omega) (fun s h => hs s (by omega)) (nx_injM hb hn (hs a (by omega)) (hs b (by omega)) e)
theorem walk_len {M : List Int} (hb : ∀ y ∈ M, 0 ≤ y) (hn : M.Nodup) {x t : Nat} (hx : (x : Int) ∉ M) (hs : ∀ s, s < t → it M s x < M.length) : t ≤ M.length := by
  have h := pig_le1 ((List.range t).map fun s => ((it M s x : Nat) : Int)) ((List.range M.length).map fun (k : Nat) => (k : Int)) ?_ ?_
  · simpa using h
  · refine List.Pairwise.map _ (fun a b (h : a < b ∧ b < t) e => ?_) (R := fun a b => a < b ∧ b < t) ?_
    · exact walk_ne hb hn hx a b h.1 (fun s h' => hs s (by omega)) (by omega)
    · rw [List.pairwise_iff_getElem]
      intro i j hi hj hij
      simp at hi hj ⊢
      omega
  · intro y hy
    obtain ⟨s, h1, rfl⟩ := List.mem_map.1 hy
    exact List.mem_map.2 ⟨it M s x, List.mem_range.2 (hs s (List.mem_range.1 h1)), rfl⟩
/-- May x be the next one, if a ring is to be made? -/
def okR (n : Nat) (M : List Int) (x : Nat) : Bool := decide (endR M (M.length + 1) x ≠ M.length) || decide (M.length = n - 1)
end Go.Am
namespace Go.Am
/-- What is asked of a list at each of its places. -/
def allOk (g : List Int → Nat → Bool) (a : Nat) (m : List Int) : Bool := (List.range m.length).all fun i => decide (i < a) || g (m.take i) (m.getD i 0).toNat
theorem flat_filter {α β : Type} (p q : α → Bool) (f : α → List β) : ∀ l : List α, (l.filter fun x => p x && q x).flatMap f = (l.filter p).flatMap fun x => if q x then f x else []
  | [] => rfl
  | a :: l => by
    simp only [List.filter_cons]
    cases hp : p a <;> cases hq : q a <;> simp [hq, flat_filter p q f l]
theorem filter_flat {α β : Type} (p : β → Bool) (f : α → List β) : ∀ l : List α, (l.flatMap f).filter p = l.flatMap fun x => (f x).filter p
  | [] => rfl
  | a :: l => by
    rw [List.flatMap_cons, List.filter_append, List.flatMap_cons, filter_flat p f l]
theorem allOk_step {g : List Int → Nat → Bool} {l t : List Int} {x : Nat} : allOk g l.length (l ++ (x : Int) :: t) = (g l x && allOk g (l.length + 1) (l ++ (x : Int) :: t)) := by
  unfold allOk
  rw [Bool.eq_iff_iff]
  simp only [Bool.and_eq_true, List.all_eq_true, List.mem_range, Bool.or_eq_true, decide_eq_true_eq]
  have e1 : (l ++ (x : Int) :: t).take l.length = l := by simp
  have e2 : ((l ++ (x : Int) :: t).getD l.length 0).toNat = x := by simp
  constructor
  · intro h
    have h0 := h l.length (by simp)
    rw [e1, e2] at h0
    exact ⟨h0.resolve_left (by omega), fun i hi => (h i hi).elim (fun k => .inl (by omega)) .inr⟩
  · rintro ⟨h0, h⟩ i hi
    by_cases e : i = l.length
    · subst e
      rw [e1, e2]
      exact .inr h0
    · exact (h i hi).elim (fun k => .inl (by omega)) .inr
/-- Lists of which two things are asked at each step: those of which one is asked, at which the other is so everywhere. -/
theorem goOn_both (f g : List Int → Nat → Bool) (n : Nat) : ∀ (k : Nat) (l : List Int), goOn (fun M x => f M x && g M x) n k l = (goOn f n k l).filter (allOk g l.length)
  | 0, l => by
    have : allOk g l.length l = true := by
      unfold allOk
      simp only [List.all_eq_true, List.mem_range, Bool.or_eq_true, decide_eq_true_eq]
      exact fun i hi => .inl hi
    simp [goOn, this]
  | k + 1, l => by
    show ((List.range n).filter fun x => f l x && g l x).flatMap (fun (x : Nat) => goOn (fun M x => f M x && g M x) n k (l ++ [(x : Int)])) = (((List.range n).filter fun x => f l x).flatMap fun (x : Nat) => goOn f n k (l ++ [(x : Int)])).filter (allOk g l.length)
    rw [flat_filter, filter_flat]
    congr 1
    funext x
    rw [goOn_both f g n k (l ++ [(x : Int)])]
    have hstep : ∀ m ∈ goOn f n k (l ++ [(x : Int)]), allOk g l.length m = (g l x && allOk g (l.length + 1) m) := fun m hm => by
      obtain ⟨t, rfl, _⟩ := goOn_shape f n k _ _ hm
      rw [List.append_assoc]
      exact allOk_step
    rw [List.filter_congr hstep, List.length_append, List.length_singleton]
    cases g l x <;> simp
end Go.Am

namespace Go.Am
theorem first_not (p : Nat → Prop) : ∀ b, ¬ (∀ s, s < b → p s) → ∃ t, t < b ∧ (∀ s, s < t → p s) ∧ ¬ p t
  | 0, h => absurd (fun s hs => absurd hs (by omega)) h
  | b + 1, h => by
    by_cases hb : ∀ s, s < b → p s
    · refine ⟨b, by omega, hb, fun hp => h fun s hs => ?_⟩
      by_cases e : s = b
      · rw [e]; exact hp
      · exact hb s (by omega)
    · obtain ⟨t, h1, h2⟩ := first_not p b hb
      exact ⟨t, by omega, h2⟩
theorem last_is (p : Nat → Prop) : ∀ b, (∃ j, j < b ∧ p j) → ∃ i, i < b ∧ p i ∧ ∀ j, j < b → p j → j ≤ i
  | 0, ⟨j, h, _⟩ => by omega
  | b + 1, h => by
    by_cases hb : p b
    · exact ⟨b, by omega, hb, fun j hj _ => by omega⟩
    · obtain ⟨j, hj, hp⟩ := h
      have hne : j ≠ b := fun e => hb (e ▸ hp)
      obtain ⟨i, h1, h2, h3⟩ := last_is p b ⟨j, by omega, hp⟩
      refine ⟨i, by omega, h2, fun q hq hpq => ?_⟩
      have : q ≠ b := fun e => hb (e ▸ hpq)
      exact h3 q (by omega) hpq
theorem chsTo_succ (L : List Int) (i : Nat) : chsTo L (i + 1) = if seenB L i i then chsTo L i else chsTo L i ++ [chn L i] := rfl
theorem chsTo_one {L : List Int} (h : IsPm L) : ∀ k, 1 ≤ k → k ≤ L.length → 1 ≤ (chsTo L k).length ∧ ((chsTo L k).length = 1 ↔ ∀ i, i < k → onC L 0 i)
  | 0, h1, _ => by omega
  | 1, _, h2 => by
    have hs : seenB L 0 0 = false := rfl
    rw [chsTo_succ, hs]
    refine ⟨by simp, fun _ i hi => ?_, fun _ => rfl⟩
    obtain rfl : i = 0 := by omega
    exact ⟨0, rfl⟩
  | k + 2, _, h2 => by
    obtain ⟨g1, g2⟩ := chsTo_one h (k + 1) (by omega) (by omega)
    rw [chsTo_succ]
    by_cases hs : seenB L (k + 1) (k + 1) = true
    · rw [if_pos hs]
      refine ⟨g1, fun e i hi => ?_, fun e => g2.2 fun i hi => e i (by omega)⟩
      have g3 := g2.1 e
      by_cases hik : i = k + 1
      · subst hik
        obtain ⟨m, hm, ho⟩ := (seenB_iff h (by omega)).1 hs
        exact onC_trans (g3 m hm) ho
      · exact g3 i (by omega)
    · rw [if_neg hs]
      refine ⟨by simp, fun e => ?_, fun e => ?_⟩
      · rw [List.length_append, List.length_singleton] at e
        omega
      · exact absurd ((seenB_iff h (by omega)).2 ⟨0, by omega, e (k + 1) (by omega)⟩) hs
/-- The walk along what comes before i is the chain of i. -/
theorem nx_take {L : List Int} {i y : Nat} (hy : y < i) : nx (L.take i) y = nx L y := by
  unfold nx
  rw [List.getD_eq_getElem?_getD, List.getD_eq_getElem?_getD, List.getElem?_take_of_lt hy]
theorem it_take {L : List Int} {i : Nat} : ∀ s, (∀ r, r < s → it L (r + 1) i < i) → it (L.take i) s (nx L i) = it L (s + 1) i
  | 0, _ => rfl
  | s + 1, h => by
    show nx (L.take i) (it (L.take i) s (nx L i)) = nx L (it L (s + 1) i)
    rw [it_take s fun r hr => h r (by omega)]
    exact nx_take (h s (by omega))
theorem it_take' {L : List Int} {i : Nat} : ∀ s, (∀ r, r < s → it (L.take i) r (nx L i) < i) → it (L.take i) s (nx L i) = it L (s + 1) i := fun s => by
  induction s with
  | zero => exact fun _ => rfl
  | succ s ih =>
    intro h
    have e := ih fun r hr => h r (by omega)
    show nx (L.take i) (it (L.take i) s (nx L i)) = nx L (it L (s + 1) i)
    rw [← e]
    exact nx_take (h s (by omega))
theorem okR_iff {L : List Int} (h : IsPm L) (h1 : 1 ≤ L.length) : (∀ i, i < L.length → okR L.length (L.take i) (nx L i) = true) ↔ ∀ i, i < L.length → onC L 0 i := by
  have hb0 : ∀ i, ∀ y ∈ L.take i, 0 ≤ y := fun i y hy => (h.1 y (List.mem_of_mem_take hy)).1
  have hnd : ∀ i, (L.take i).Nodup := fun i => h.2.sublist (List.take_sublist i L)
  have hlen : ∀ i, i < L.length → (L.take i).length = i := fun i hi => List.length_take_of_le (by omega)
  have hnew : ∀ i, i < L.length → ((nx L i : Nat) : Int) ∉ L.take i := fun i hi hm => by
    obtain ⟨j, hj, e⟩ := List.mem_iff_getElem.1 hm
    rw [hlen i hi] at hj
    rw [List.getElem_take] at e
    have e2 := (nx_lt h hi).2
    have e3 := (nx_lt h (show j < L.length by omega)).2
    have e4 : L.getD j 0 = L[j]'(by omega) := by simp [show j < L.length by omega]
    have := nx_inj h (i := j) (j := i) (by omega) hi (by omega)
    omega
  constructor
  · intro hok
    refine Classical.byContradiction fun hno => ?_
    obtain ⟨m, hm, hmn⟩ : ∃ m, m < L.length ∧ ¬ onC L m (L.length - 1) := by
      refine Classical.byContradiction fun hall => hno fun i hi => ?_
      have hall : ∀ m, m < L.length → onC L m (L.length - 1) := fun m hm => Classical.byContradiction fun hx => hall ⟨m, hm, hx⟩
      exact onC_trans (hall 0 (by omega)) (onC_symm h hi (hall i hi))
    obtain ⟨i, hi, hmi, hmax⟩ := last_is (fun j => onC L m j) L.length ⟨m, hm, ⟨0, rfl⟩⟩
    have hin : i ≠ L.length - 1 := fun e => hmn (e ▸ hmi)
    obtain ⟨p1, p2, p3, p4⟩ := per_spec h hi
    have hlt : ∀ s, s < per L i - 1 → it L (s + 1) i < i := fun s hs => by
      have h1 := p4 (s + 1) (by omega) (by omega)
      have h2 := hmax (it L (s + 1) i) (it_lt h hi _) (onC_trans hmi ⟨s + 1, rfl⟩)
      omega
    have hM := hlen i hi
    have hit : ∀ s, s ≤ per L i - 1 → it (L.take i) s (nx L i) = it L (s + 1) i := fun s hs => it_take s fun r hr => hlt r (by omega)
    have hend : it (L.take i) (per L i - 1) (nx L i) = i := by
      rw [hit _ (Nat.le_refl _), show per L i - 1 + 1 = per L i by omega, p3]
    have hw : ∀ s, s < per L i - 1 → it (L.take i) s (nx L i) < (L.take i).length := fun s hs => by rw [hit s (by omega), hM]; exact hlt s hs
    have hle := walk_len (hb0 i) (hnd i) (hnew i hi) hw
    have he := endR_eq (L.take i) (per L i - 1) ((L.take i).length + 1) (nx L i) (by omega) hw (by rw [hend, hM]; exact Nat.le_refl _)
    have := hok i hi
    unfold okR at this
    rw [he, hend, hM] at this
    simp at this
    exact hin this
  · intro hring i hi
    refine Classical.byContradiction fun hno => ?_
    have hM := hlen i hi
    unfold okR at hno
    simp only [hM, Bool.or_eq_true, decide_eq_true_eq, not_or, Classical.not_not, ne_eq] at hno
    obtain ⟨he, hin⟩ := hno
    obtain ⟨t, ht, hs, hnt⟩ := first_not (fun s => it (L.take i) s (nx L i) < (L.take i).length) ((L.take i).length + 1) fun hall => by
      have := walk_len (hb0 i) (hnd i) (hnew i hi) hall
      omega
    have he2 := endR_eq (L.take i) t ((L.take i).length + 1) (nx L i) (by omega) hs (by omega)
    rw [hM] at hs ht hnt he2
    rw [he] at he2
    have hit := fun s (hs' : s ≤ t) => it_take' (L := L) (i := i) s fun r hr => hs r (by omega)
    have hback : it L (t + 1) i = i := by rw [← hit t (Nat.le_refl _)]; exact he2.symm
    obtain ⟨p1, p2, p3, p4⟩ := per_spec h hi
    have hper : per L i ≤ t + 1 := by
      refine Classical.byContradiction fun hgt => ?_
      exact p4 (t + 1) (by omega) (by omega) hback
    obtain ⟨k, hk⟩ := onC_trans (onC_symm h (by omega) (hring i hi)) (hring (L.length - 1) (by omega))
    rw [it_mod h hi k] at hk
    have hkm := Nat.mod_lt k (show 0 < per L i by omega)
    generalize k % per L i = q at *
    cases q with
    | zero =>
      have hk : i = L.length - 1 := hk
      exact hin hk
    | succ q =>
      have h2 := hs q (by omega)
      rw [hit q (by omega), hk] at h2
      omega
theorem ring_all {L : List Int} (h : IsPm L) (h1 : 1 ≤ L.length) : allOk (okR L.length) 0 L = decide ((chs L).length = 1) := by
  rw [Bool.eq_iff_iff, decide_eq_true_eq]
  have e := (chsTo_one h L.length h1 (Nat.le_refl _)).2
  rw [show (chs L).length = (chsTo L L.length).length from rfl, e, ← okR_iff h h1]
  unfold allOk
  simp only [List.all_eq_true, List.mem_range, Bool.or_eq_true, decide_eq_true_eq]
  constructor
  · exact fun hh i hi => (hh i hi).resolve_left (by omega)
  · exact fun hh i hi => .inr (hh i hi)
end Go.Am
