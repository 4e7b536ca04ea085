/- The lists that go on from a beginning, in order: what a search that steps forward and back finds. No program. The first list that goes on from another, behind a list if that is not empty. No program. How many lists go on from a beginning, if none has a number twice. No program. -/
import Derived.Test.YtlcjipgnflncfaaAmMb
namespace Go.Am
section
variable (fits : List Int → Nat → Bool) (n : Nat)

/-- All that go on from l by k more, in order. -/
def goOn : Nat → List Int → List (List Int)
  | 0, l => [l]
  | k + 1, l => ((List.range n).filter fun x => fits l x).flatMap fun (x : Nat) => goOn k (l ++ [(x : Int)])
/-- Those whose next is at least g. -/
def goFrom (l : List Int) (g : Nat) : List (List Int) := ((List.range n).filter fun x => decide (g ≤ x) && fits l x).flatMap fun (x : Nat) => goOn fits n (n - l.length - 1) (l ++ [(x : Int)])
/-- What comes behind all that go on from a list (which is told from its end). -/
def goBack : List Int → List (List Int)
  | [] => []
  | x :: r => goFrom fits n r.reverse (x.toNat + 1) ++ goBack r
/-- What a search finds that stands at a list and is to try g next. -/
def goAt (l : List Int) (g : Nat) : List (List Int) := (if l.length = n then [l] else goFrom fits n l g) ++ goBack fits n l.reverse

theorem range_split (p : Nat → Bool) (g : Nat) : ∀ n, g < n → (List.range n).filter (fun x => decide (g ≤ x) && p x) = (if p g then [g] else []) ++ (List.range n).filter (fun x => decide (g + 1 ≤ x) && p x)
  | 0, h => by omega
  | n + 1, h => by
    rw [List.range_succ, List.filter_append, List.filter_append]
    by_cases hg : g < n
    · rw [range_split p g n hg, List.append_assoc]
      congr 2
      have h1 : decide (g ≤ n) = true := decide_eq_true (by omega)
      have h2 : decide (g + 1 ≤ n) = true := decide_eq_true (by omega)
      simp only [List.filter_cons, List.filter_nil, h1, h2]
    · obtain rfl : g = n := by omega
      have e1 : (List.range g).filter (fun x => decide (g ≤ x) && p x) = [] := List.filter_eq_nil_iff.2 fun x hx => by have := List.mem_range.1 hx; simp; omega
      have e2 : (List.range g).filter (fun x => decide (g + 1 ≤ x) && p x) = [] := List.filter_eq_nil_iff.2 fun x hx => by have := List.mem_range.1 hx; simp; omega
      rw [e1, e2]
      have h2 : decide (g + 1 ≤ g) = false := decide_eq_false (by omega)
      have h1 : decide (g ≤ g) = true := decide_eq_true (by omega)
      simp only [List.filter_cons, List.filter_nil, List.nil_append, h1, h2]
      simp

theorem goFrom_step {l : List Int} {g : Nat} (hg : g < n) : goFrom fits n l g = (if fits l g then goOn fits n (n - l.length - 1) (l ++ [(g : Int)]) else []) ++ goFrom fits n l (g + 1) := by
  unfold goFrom
  rw [range_split (fits l) g n hg, List.flatMap_append]
  split <;> simp

theorem goFrom_end {l : List Int} {g : Nat} (hg : n ≤ g) : goFrom fits n l g = [] := by
  unfold goFrom
  rw [List.filter_eq_nil_iff.2 fun x hx => by have := List.mem_range.1 hx; simp; omega]
  rfl

theorem goOn_from {l : List Int} (h : l.length < n) : goOn fits n (n - l.length) l = goFrom fits n l 0 := by
  obtain ⟨k, hk⟩ : ∃ k, n - l.length = k + 1 := ⟨n - l.length - 1, by omega⟩
  unfold goFrom
  rw [hk]
  simp [goOn]

theorem goAt_full {l : List Int} {g : Nat} (h : l.length = n) : (goAt fits n l g).head? = some l := by
  simp [goAt, h]

theorem goAt_take {l : List Int} {g : Nat} (h : l.length < n) (hg : g < n) (hf : fits l g = true) : goAt fits n (l ++ [(g : Int)]) 0 = goAt fits n l g := by
  have hne : ¬ l.length = n := by omega
  unfold goAt
  rw [if_neg hne, goFrom_step fits n hg, if_pos hf, List.reverse_append, List.reverse_singleton, List.singleton_append, goBack, List.reverse_reverse, Int.toNat_natCast, List.append_assoc]
  congr 1
  by_cases h1 : l.length + 1 = n
  · have e : n - l.length - 1 = 0 := by omega
    rw [if_pos (by simpa using h1), e]
    rfl
  · have e : n - l.length - 1 = n - (l ++ [(g : Int)]).length := by simp; omega
    rw [if_neg (by simpa using h1), e, goOn_from fits n (by simp; omega)]

theorem goAt_skip {l : List Int} {g : Nat} (h : l.length < n) (hg : g < n) (hf : fits l g = false) : goAt fits n l (g + 1) = goAt fits n l g := by
  have hne : ¬ l.length = n := by omega
  unfold goAt
  rw [if_neg hne, if_neg hne, goFrom_step fits n hg, hf]
  simp

theorem goAt_none {g : Nat} (h : 0 < n) (hg : n ≤ g) : goAt fits n [] g = [] := by
  unfold goAt
  rw [if_neg (by simp; omega), goFrom_end fits n hg]
  rfl

theorem goAt_back {l : List Int} {x : Int} {g : Nat} (h : l.length + 1 < n) (hg : n ≤ g) : goAt fits n (l ++ [x]) g = goAt fits n l (x.toNat + 1) := by
  unfold goAt
  rw [if_neg (by simp; omega), if_neg (by omega), goFrom_end fits n hg, List.reverse_append, List.reverse_singleton, List.singleton_append, goBack, List.reverse_reverse]
  rfl

theorem goAt_start (h : 0 < n) : goAt fits n [] 0 = goOn fits n n [] := by
  have := goOn_from fits n (l := []) (by simpa using h)
  simp only [List.length_nil, Nat.sub_zero] at this
  unfold goAt
  rw [if_neg (by simp; omega), this]
  simp [goBack]
end
/-- How long a search may go on. -/
def goW (n : Nat) : Nat → Nat
  | 0 => 0
  | j + 1 => n * goW n j + 2
def goM (n : Nat) : List Int → Nat
  | [] => 0
  | x :: r => (n - (x.toNat + 1)) * goW n (n - r.length) + 1 + goM n r
def goMeas (n : Nat) (l : List Int) (g : Nat) : Nat := (n - g) * goW n (n - l.length) + goM n l.reverse
theorem goMeas_take {n : Nat} {l : List Int} {g : Nat} (h : l.length < n) (hg : g < n) : goMeas n (l ++ [(g : Int)]) 0 < goMeas n l g := by
  obtain ⟨k, hk⟩ : ∃ k, n - l.length = k + 1 := ⟨n - l.length - 1, by omega⟩
  have hk2 : n - (l ++ [(g : Int)]).length = k := by simp; omega
  obtain ⟨q, hq⟩ : ∃ q, n - g = q + 1 := ⟨n - g - 1, by omega⟩
  have hq2 : n - (g + 1) = q := by omega
  unfold goMeas
  rw [List.reverse_append, List.reverse_singleton, List.singleton_append, goM, List.length_reverse, Int.toNat_natCast, hk2, hk, hq, hq2, Nat.sub_zero, Nat.add_mul, Nat.one_mul]
  have : goW n (k + 1) = n * goW n k + 2 := rfl
  omega
theorem goMeas_skip {n : Nat} {l : List Int} {g : Nat} (h : l.length < n) (hg : g < n) : goMeas n l (g + 1) < goMeas n l g := by
  obtain ⟨k, hk⟩ : ∃ k, n - l.length = k + 1 := ⟨n - l.length - 1, by omega⟩
  obtain ⟨q, hq⟩ : ∃ q, n - g = q + 1 := ⟨n - g - 1, by omega⟩
  have hq2 : n - (g + 1) = q := by omega
  unfold goMeas
  rw [hk, hq, hq2, Nat.add_mul, Nat.one_mul]
  have : goW n (k + 1) = n * goW n k + 2 := rfl
  omega
theorem goMeas_back {n : Nat} {l : List Int} {x : Int} {g : Nat} (hg : n ≤ g) : goMeas n l (x.toNat + 1) < goMeas n (l ++ [x]) g := by
  have h0 : n - g = 0 := by omega
  unfold goMeas
  rw [List.reverse_append, List.reverse_singleton, List.singleton_append, goM, List.length_reverse, h0, Nat.zero_mul]
  omega

/-- Does a list come before another? -/
def comesB : List Int → List Int → Bool
  | [], _ => false
  | _ :: _, [] => false
  | a :: l, b :: m => if a = b then comesB l m else decide (a < b)
theorem comesB_append (p : List Int) (l m : List Int) : comesB (p ++ l) (p ++ m) = comesB l m := by
  induction p with
  | nil => rfl
  | cons a p ih => simp [comesB, ih]
theorem comesB_self (l : List Int) : comesB l l = false := by
  induction l with
  | nil => rfl
  | cons a l ih => simp [comesB, ih]
section
variable (fits : List Int → Nat → Bool) (n : Nat)
theorem goOn_shape : ∀ (k : Nat) (l x : List Int), x ∈ goOn fits n k l → ∃ m, x = l ++ m ∧ m.length = k
  | 0, l, x, h => ⟨[], by simpa [goOn] using h, rfl⟩
  | k + 1, l, x, h => by
    simp only [goOn, List.mem_flatMap] at h
    obtain ⟨y, _, hx⟩ := h
    obtain ⟨m, rfl, hm⟩ := goOn_shape k _ _ hx
    exact ⟨(y : Int) :: m, by simp, by simp [hm]⟩
/-- All that go on behind a lesser next come before; behind a greater one, behind. -/
theorem find_less {k : Nat} {l : List Int} {x : Nat} {b : Int} {t : List Int} (h : (x : Int) < b) : (goOn fits n k (l ++ [(x : Int)])).find? (fun m => comesB (l ++ b :: t) m) = none := by
  rw [List.find?_eq_none]
  intro m hm
  obtain ⟨r, rfl, _⟩ := goOn_shape fits n _ _ _ hm
  rw [List.append_assoc, comesB_append]
  have h1 : ¬ b = (x : Int) := by omega
  have h2 : ¬ b < (x : Int) := by omega
  simp [comesB, h1, h2]
theorem find_more {k : Nat} {l : List Int} {x : Nat} {b : Int} {t : List Int} (h : b < (x : Int)) : (goOn fits n k (l ++ [(x : Int)])).find? (fun m => comesB (l ++ b :: t) m) = (goOn fits n k (l ++ [(x : Int)])).head? := by
  have hall : ∀ m ∈ goOn fits n k (l ++ [(x : Int)]), comesB (l ++ b :: t) m = true := by
    intro m hm
    obtain ⟨r, rfl, _⟩ := goOn_shape fits n _ _ _ hm
    rw [List.append_assoc, comesB_append]
    have h1 : ¬ b = (x : Int) := by omega
    simp [comesB, h1, h]
  cases hg : goOn fits n k (l ++ [(x : Int)]) with
  | nil => rfl
  | cons m ms => simp [hall m (by rw [hg]; simp)]
end
theorem range_three (p : Nat → Bool) (g : Nat) : ∀ n, g < n → (List.range n).filter p = (List.range g).filter p ++ ((if p g then [g] else []) ++ (List.range n).filter (fun x => decide (g + 1 ≤ x) && p x))
  | 0, h => by omega
  | n + 1, h => by
    rw [List.range_succ, List.filter_append, List.filter_append]
    by_cases hg : g < n
    · rw [range_three p g n hg, List.append_assoc, List.append_assoc]
      congr 3
      have h2 : decide (g + 1 ≤ n) = true := decide_eq_true (by omega)
      simp only [List.filter_cons, List.filter_nil, h2, Bool.true_and]
    · obtain rfl : g = n := by omega
      have e2 : (List.range g).filter (fun x => decide (g + 1 ≤ x) && p x) = [] := List.filter_eq_nil_iff.2 fun x hx => by have := List.mem_range.1 hx; simp; omega
      have h2 : decide (g + 1 ≤ g) = false := decide_eq_false (by omega)
      rw [e2]
      simp only [List.filter_cons, List.filter_nil, List.nil_append, h2]
      simp
theorem findSome_congr {α β : Type} {f g : α → Option β} : ∀ {l : List α}, (∀ x ∈ l, f x = g x) → l.findSome? f = l.findSome? g
  | [], _ => rfl
  | a :: l, h => by
    simp only [List.findSome?_cons]
    rw [h a (by simp), findSome_congr fun x hx => h x (by simp [hx])]
section
variable (fits : List Int → Nat → Bool) (n : Nat)
theorem goFrom_head (l : List Int) (g : Nat) : (goFrom fits n l g).head? = ((List.range n).filter fun x => decide (g ≤ x) && fits l x).findSome? fun (x : Nat) => (goOn fits n (n - l.length - 1) (l ++ [(x : Int)])).head? := by
  unfold goFrom
  rw [List.head?_flatMap]
theorem find_next {k g : Nat} {l t : List Int} (hg : g < n) (hk : n - l.length = k + 1) : (goOn fits n (k + 1) l).find? (fun m => comesB (l ++ (g : Int) :: t) m) =
    (if fits l g then (goOn fits n k (l ++ [(g : Int)])).find? (fun m => comesB (l ++ (g : Int) :: t) m) else none).or (goFrom fits n l (g + 1)).head? := by
  have hk2 : n - l.length - 1 = k := by omega
  rw [goFrom_head, goOn, List.find?_flatMap, range_three _ g n hg, List.findSome?_append, List.findSome?_append, hk2]
  have e1 : ((List.range g).filter fun x => fits l x).findSome? (fun (x : Nat) => (goOn fits n k (l ++ [(x : Int)])).find? fun m => comesB (l ++ (g : Int) :: t) m) = none := by
    rw [List.findSome?_eq_none_iff]
    intro x hx
    have := List.mem_range.1 (List.mem_filter.1 hx).1
    exact find_less fits n (by omega)
  rw [e1, Option.none_or]
  congr 1
  · split <;> simp
  · refine findSome_congr fun x hx => ?_
    have := (List.mem_filter.1 hx).2
    simp only [Bool.and_eq_true, decide_eq_true_eq] at this
    exact find_more fits n (by omega)
/-- The first that comes behind a list: where its own beginning goes no further, a search that begins there finds it. -/
theorem find_behind {L : List Int} (hL : L.length = n) (hb : ∀ i < n, ∃ g : Nat, L.getD i 0 = g ∧ g < n) {kept : Nat} (hk : kept < n) (hf : ∀ i < kept, fits (L.take i) (L.getD i 0).toNat = true)
    (he : fits (L.take kept) (L.getD kept 0).toNat = false ∨ kept + 1 = n) : (goOn fits n n []).find? (fun m => comesB L m) = (goAt fits n (L.take kept) ((L.getD kept 0).toNat + 1)).head? := by
  have step : ∀ i, i < n → (goOn fits n (n - i) (L.take i)).find? (fun m => comesB L m) =
      (if fits (L.take i) (L.getD i 0).toNat then (goOn fits n (n - (i + 1)) (L.take (i + 1))).find? (fun m => comesB L m) else none).or (goFrom fits n (L.take i) ((L.getD i 0).toNat + 1)).head? := by
    intro i hi
    obtain ⟨g, hg, hgn⟩ := hb i hi
    have hlen : (L.take i).length = i := List.length_take_of_le (by omega)
    have hsp : L = L.take i ++ (g : Int) :: L.drop (i + 1) := by
      have h1 := take_snoc L i 0 (by omega)
      have h2 := List.take_append_drop (i + 1) L
      rw [h1, hg, List.append_assoc] at h2
      exact h2.symm
    have h1 := find_next fits n (k := n - (i + 1)) (g := g) (l := L.take i) (t := L.drop (i + 1)) hgn (by omega)
    rw [← hsp] at h1
    have e : n - (i + 1) + 1 = n - i := by omega
    rw [e] at h1
    rw [take_snoc L i 0 (by omega), hg, Int.toNat_natCast]
    exact h1
  have key : ∀ i, i ≤ kept → (goOn fits n n []).find? (fun m => comesB L m) = ((goOn fits n (n - i) (L.take i)).find? (fun m => comesB L m)).or (goBack fits n (L.take i).reverse).head? := by
    intro i
    induction i with
    | zero => intro _; simp [goBack]
    | succ i ih =>
      intro hi
      have h1 := hf i (by omega)
      rw [ih (by omega), step i (by omega), if_pos h1, Option.or_assoc]
      congr 1
      rw [take_snoc L i 0 (by omega), List.reverse_append, List.reverse_singleton, List.singleton_append, goBack, List.reverse_reverse, List.head?_append]
  have hlen : (L.take kept).length = kept := List.length_take_of_le (by omega)
  have hnone : (if fits (L.take kept) (L.getD kept 0).toNat then (goOn fits n (n - (kept + 1)) (L.take (kept + 1))).find? (fun m => comesB L m) else none) = none := by
    split
    · rename_i hh
      rcases he with he | he
      · rw [he] at hh; cases hh
      · have e : n - (kept + 1) = 0 := by omega
        rw [e, List.take_of_length_le (by omega)]
        simp [goOn, comesB_self]
    · rfl
  have hne : ¬ (L.take kept).length = n := by omega
  rw [key kept (Nat.le_refl _), step kept hk, hnone, Option.none_or, goAt, if_neg hne, List.head?_append]
end
/-- Where a beginning differs from a list for the first time by less, none that goes on from it comes behind. -/
theorem find_prune (fits : List Int → Nat → Bool) (n : Nat) {k i : Nat} {l b : List Int} (hl : i < l.length) (hb : i < b.length) (he : l.take i = b.take i) (hlt : l.getD i 0 < b.getD i 0) : (goOn fits n k l).find? (fun m => comesB b m) = none := by
  rw [List.find?_eq_none]
  intro m hm
  obtain ⟨r, rfl, _⟩ := goOn_shape fits n _ _ _ hm
  have h1 : l = l.take i ++ l.getD i 0 :: l.drop (i + 1) := by
    have h2 := List.take_append_drop (i + 1) l
    rw [take_snoc l i 0 hl, List.append_assoc] at h2
    exact h2.symm
  have h2 : b = l.take i ++ b.getD i 0 :: b.drop (i + 1) := by
    have h2 := List.take_append_drop (i + 1) b
    rw [take_snoc b i 0 hb, List.append_assoc, ← he] at h2
    exact h2.symm
  rw [h1, h2, List.append_assoc, comesB_append]
  have h3 : ¬ b.getD i 0 = l.getD i 0 := by omega
  have h4 : ¬ b.getD i 0 < l.getD i 0 := by omega
  simp only [List.cons_append, comesB, if_neg h3]
  exact fun hh => h4 (of_decide_eq_true hh)
/-- Where a beginning differs by more, all that go on from it come behind: then the first of them is asked. -/
theorem find_all (fits : List Int → Nat → Bool) (n : Nat) {k i : Nat} {l b : List Int} (hl : i < l.length) (hb : i < b.length) (he : l.take i = b.take i) (hlt : b.getD i 0 < l.getD i 0) : (goOn fits n k l).find? (fun m => comesB b m) = (goOn fits n k l).head? := by
  have hall : ∀ m ∈ goOn fits n k l, comesB b m = true := by
    intro m hm
    obtain ⟨r, rfl, _⟩ := goOn_shape fits n _ _ _ hm
    have h1 : l = l.take i ++ l.getD i 0 :: l.drop (i + 1) := by
      have h2 := List.take_append_drop (i + 1) l
      rw [take_snoc l i 0 hl, List.append_assoc] at h2
      exact h2.symm
    have h2 : b = l.take i ++ b.getD i 0 :: b.drop (i + 1) := by
      have h2 := List.take_append_drop (i + 1) b
      rw [take_snoc b i 0 hb, List.append_assoc, ← he] at h2
      exact h2.symm
    rw [h1, h2, List.append_assoc, comesB_append]
    have h3 : ¬ b.getD i 0 = l.getD i 0 := by omega
    simp only [List.cons_append, comesB, if_neg h3]
    simpa using hlt
  cases hg : goOn fits n k l with
  | nil => rfl
  | cons m ms => simp [hall m (by rw [hg]; simp)]
end Go.Am

namespace Go.Am
/-- A member of what goes on is found. -/
theorem goOn_len {fits : List Int → Nat → Bool} {n k : Nat} {l m : List Int} (h : m ∈ goOn fits n k l) : m.length = l.length + k := by
  obtain ⟨r, rfl, hr⟩ := goOn_shape fits n _ _ _ h
  rw [List.length_append, hr]
/-- The first that goes on from l, behind a list if that is not empty. -/
def fstB (fits : List Int → Nat → Bool) (n k : Nat) (l bh : List Int) : Option (List Int) := if bh = [] then (goOn fits n k l).head? else (goOn fits n k l).find? (fun m => comesB bh m)
theorem fstB_len {fits : List Int → Nat → Bool} {n k : Nat} {l bh m : List Int} (h : fstB fits n k l bh = some m) : m.length = l.length + k := by
  unfold fstB at h
  split at h
  · exact goOn_len (List.mem_of_mem_head? (by rw [h]; rfl))
  · exact goOn_len (List.mem_of_find?_eq_some h)
theorem fstB_leaf {fits : List Int → Nat → Bool} {n : Nat} {l bh m : List Int} (h : fstB fits n 0 l bh = some m) : m = l := by
  unfold fstB at h
  split at h
  · cases h; rfl
  · have := List.mem_of_find?_eq_some h
    simpa [goOn] using this
/-- What is found among the first nexts. -/
def partB (fits : List Int → Nat → Bool) (n k : Nat) (l bh : List Int) (x : Nat) : Option (List Int) := (List.range x).findSome? fun x => if fits l x then fstB fits n k (l ++ [(x : Int)]) bh else none
theorem partB_zero (fits : List Int → Nat → Bool) (n k : Nat) (l bh : List Int) : partB fits n k l bh 0 = none := rfl
theorem partB_succ (fits : List Int → Nat → Bool) (n k : Nat) (l bh : List Int) (x : Nat) : partB fits n k l bh (x + 1) = (partB fits n k l bh x).or (if fits l x then fstB fits n k (l ++ [(x : Int)]) bh else none) := by
  unfold partB
  rw [List.range_succ, List.findSome?_append]
  simp
theorem findSome_filter {α β : Type} (p : α → Bool) (f : α → Option β) : ∀ l : List α, (l.filter p).findSome? f = l.findSome? fun x => if p x then f x else none
  | [] => rfl
  | a :: l => by
    simp only [List.filter_cons, List.findSome?_cons]
    cases p a
    · simp only [Bool.false_eq_true, if_false]
      exact findSome_filter p f l
    · simp only [if_true, List.findSome?_cons, findSome_filter p f l]
theorem partB_all (fits : List Int → Nat → Bool) (n k : Nat) (l bh : List Int) : partB fits n k l bh n = fstB fits n (k + 1) l bh := by
  unfold partB fstB
  by_cases h : bh = []
  · simp only [if_pos h]
    rw [goOn, List.head?_flatMap, findSome_filter]
  · simp only [if_neg h]
    rw [goOn, List.find?_flatMap, findSome_filter]
end Go.Am

namespace Go.Am
theorem pig_le1 : ∀ (l m : List Int), l.Nodup → (∀ x ∈ l, x ∈ m) → l.length ≤ m.length
  | [], _, _, _ => Nat.zero_le _
  | a :: l, m, hn, hs => by
    have ha := hs a (List.mem_cons_self ..)
    have hn' := List.nodup_cons.1 hn
    have h := pig_le1 l (m.erase a) hn'.2 fun x hx => (List.mem_erase_of_ne fun e => hn'.1 (by rw [← e]; exact hx)).2 (hs x (List.mem_cons_of_mem _ hx))
    have hl := List.length_erase_of_mem ha
    have hp := List.length_pos_of_mem ha
    simp only [List.length_cons]
    omega
def facR : Nat → Nat
  | 0 => 1
  | k + 1 => (k + 1) * facR k
theorem sum_leR {α : Type} (f : α → Nat) (b : Nat) : ∀ l : List α, (∀ x ∈ l, f x ≤ b) → (l.map f).sum ≤ l.length * b
  | [], _ => by simp
  | a :: l, h => by
    have h1 := h a (List.mem_cons_self ..)
    have h2 := sum_leR f b l fun x hx => h x (List.mem_cons_of_mem _ hx)
    rw [List.map_cons, List.sum_cons, List.length_cons, Nat.add_mul]
    omega
theorem goOn_fac {fits : List Int → Nat → Bool} {n : Nat} (hf : ∀ l x, fits l x = true → (x : Int) ∉ l) : ∀ (k : Nat) (l : List Int), l.length + k = n → l.Nodup → (∀ y ∈ l, 0 ≤ y ∧ y < (n : Int)) → (goOn fits n k l).length ≤ facR k
  | 0, _, _, _, _ => Nat.le_refl _
  | k + 1, l, hl, hn, hb => by
    have hL : ((List.range n).filter fun x => fits l x).length ≤ k + 1 := by
      have h := pig_le1 (l ++ ((List.range n).filter fun x => fits l x).map fun (x : Nat) => (x : Int)) ((List.range n).map fun (x : Nat) => (x : Int)) ?_ ?_
      · simp only [List.length_append, List.length_map, List.length_range] at h
        omega
      · rw [List.nodup_append]
        refine ⟨hn, ?_, ?_⟩
        · exact List.Pairwise.map _ (fun a b h e => h (by omega)) (List.Pairwise.filter _ List.nodup_range)
        · rintro a ha b hb' rfl
          obtain ⟨x, hx, rfl⟩ := List.mem_map.1 hb'
          exact hf l x (List.mem_filter.1 hx).2 ha
      · intro y hy
        rcases List.mem_append.1 hy with hy | hy
        · have := hb y hy
          exact List.mem_map.2 ⟨y.toNat, List.mem_range.2 (by omega), by omega⟩
        · obtain ⟨x, hx, rfl⟩ := List.mem_map.1 hy
          exact List.mem_map.2 ⟨x, (List.mem_filter.1 hx).1, rfl⟩
    show (((List.range n).filter fun x => fits l x).flatMap fun (x : Nat) => goOn fits n k (l ++ [(x : Int)])).length ≤ (k + 1) * facR k
    rw [List.length_flatMap]
    refine Nat.le_trans (sum_leR _ (facR k) _ fun x hx => ?_) (Nat.mul_le_mul_right _ hL)
    have hx' := List.mem_filter.1 hx
    refine goOn_fac hf k (l ++ [(x : Int)]) (by simp; omega) ?_ ?_
    · rw [List.nodup_append]
      refine ⟨hn, by simp, ?_⟩
      rintro a ha b hb' rfl
      rw [List.mem_singleton] at hb'
      subst hb'
      exact hf l x hx'.2 ha
    · intro y hy
      rcases List.mem_append.1 hy with hy | hy
      · exact hb y hy
      · rw [List.mem_singleton.1 hy]
        have := List.mem_range.1 hx'.1
        omega
/-- What the first nexts give. -/
def partA (fits : List Int → Nat → Bool) (n k : Nat) (l : List Int) (x : Nat) : List (List Int) := ((List.range x).filter fun x => fits l x).flatMap fun (x : Nat) => goOn fits n k (l ++ [(x : Int)])
theorem partA_zero (fits : List Int → Nat → Bool) (n k : Nat) (l : List Int) : partA fits n k l 0 = [] := rfl
theorem partA_succ (fits : List Int → Nat → Bool) (n k : Nat) (l : List Int) (x : Nat) : partA fits n k l (x + 1) = partA fits n k l x ++ (if fits l x then goOn fits n k (l ++ [(x : Int)]) else []) := by
  unfold partA
  rw [List.range_succ, List.filter_append, List.flatMap_append]
  congr 1
  cases h : fits l x <;> simp [h]
theorem partA_all (fits : List Int → Nat → Bool) (n k : Nat) (l : List Int) : partA fits n k l n = goOn fits n (k + 1) l := rfl
theorem partA_mono (fits : List Int → Nat → Bool) (n k : Nat) (l : List Int) {x y : Nat} (h : x ≤ y) : (partA fits n k l x).length ≤ (partA fits n k l y).length := by
  induction y with
  | zero => obtain rfl : x = 0 := by omega
            exact Nat.le_refl _
  | succ y ih =>
    by_cases e : x = y + 1
    · subst e; exact Nat.le_refl _
    · rw [partA_succ, List.length_append]
      have := ih (by omega)
      omega
end Go.Am
namespace Go.Am
/-- What goes on has no number twice. -/
theorem goOn_pm {fits : List Int → Nat → Bool} {n : Nat} (hf : ∀ l x, fits l x = true → (x : Int) ∉ l) : ∀ (k : Nat) (l : List Int), l.Nodup → (∀ y ∈ l, 0 ≤ y ∧ y < (n : Int)) → ∀ m ∈ goOn fits n k l, m.Nodup ∧ (∀ y ∈ m, 0 ≤ y ∧ y < (n : Int)) ∧ m.length = l.length + k
  | 0, l, hn, hb, m, hm => by
    have : m = l := by simpa [goOn] using hm
    subst this
    exact ⟨hn, hb, rfl⟩
  | k + 1, l, hn, hb, m, hm => by
    obtain ⟨x, hx, hm⟩ := List.mem_flatMap.1 hm
    have hx' := List.mem_filter.1 hx
    obtain ⟨h1, h2, h3⟩ := goOn_pm hf k (l ++ [(x : Int)]) (by
      rw [List.nodup_append]
      refine ⟨hn, by simp, ?_⟩
      rintro a ha b hb' rfl
      rw [List.mem_singleton] at hb'
      subst hb'
      exact hf l x hx'.2 ha) (fun y hy => by
      rcases List.mem_append.1 hy with hy | hy
      · exact hb y hy
      · rw [List.mem_singleton.1 hy]
        have := List.mem_range.1 hx'.1
        omega) m hm
    refine ⟨h1, h2, ?_⟩
    rw [h3]
    simp
    omega
end Go.Am
