/- Lists told anew: each number by the place at which it first came. -/
import Derived.Test.YtlcjipgnflncfaaMaFam
namespace Go.Am

/-- Where a number is in a list, or -1. -/
def posOf (L : List Int) (c : Int) : Int := if c ∈ L then (L.idxOf c : Int) else -1
theorem posOf_le (L : List Int) (c : Int) : -1 ≤ posOf L c ∧ posOf L c ≤ L.length := by
  unfold posOf
  split
  · have := List.idxOf_le_length (a := c) (l := L)
    omega
  · omega
theorem posOf_in {L : List Int} {c : Int} (h : c ∈ L) : 0 ≤ posOf L c := by unfold posOf; rw [if_pos h]; omega

def anewStep (s : List Int × List Int) (x : Int) : List Int × List Int := (if x ∈ s.1 then s.1 else s.1 ++ [x], s.2 ++ [posOf (if x ∈ s.1 then s.1 else s.1 ++ [x]) x])
def anewSt (M : List Int) : List Int × List Int := M.foldl anewStep ([], [])
theorem anewSt_snoc (M : List Int) (x : Int) : anewSt (M ++ [x]) = anewStep (anewSt M) x := by simp [anewSt, List.foldl_append]
def anew (M : List Int) : List Int := (anewSt M).2
theorem foldl_lens (M : List Int) : ∀ s : List Int × List Int, (M.foldl anewStep s).2.length = s.2.length + M.length ∧ (M.foldl anewStep s).1.length ≤ s.1.length + M.length := by
  induction M with
  | nil => intro s; simp
  | cons x M ih =>
    intro s
    obtain ⟨h1, h2⟩ := ih (anewStep s x)
    simp only [List.foldl_cons, List.length_cons]
    have e1 : (anewStep s x).2.length = s.2.length + 1 := by simp [anewStep]
    have e2 : (anewStep s x).1.length ≤ s.1.length + 1 := by
      simp only [anewStep]; split
      · omega
      · simp
    omega
theorem anew_len (M : List Int) : (anew M).length = M.length := by
  have := (foldl_lens M ([], [])).1
  simpa [anew, anewSt] using this
theorem came_len (M : List Int) : (anewSt M).1.length ≤ M.length := by
  have := (foldl_lens M ([], [])).2
  simpa [anewSt] using this

theorem posOf_map {σ : Int → Int} {x : Int} : ∀ {c : List Int}, (∀ u ∈ c, σ u = σ x → u = x) → posOf (c.map σ) (σ x) = posOf c x := by
  intro c h
  have hm : σ x ∈ c.map σ ↔ x ∈ c := by
    rw [List.mem_map]
    exact ⟨fun ⟨u, hu, e⟩ => h u hu e ▸ hu, fun hx => ⟨x, hx, rfl⟩⟩
  have hi : (c.map σ).idxOf (σ x) = c.idxOf x := by
    clear hm
    induction c with
    | nil => rfl
    | cons u c ih =>
      rw [List.map_cons, List.idxOf_cons, List.idxOf_cons, ih fun v hv => h v (List.mem_cons_of_mem _ hv)]
      by_cases e : u = x
      · subst e; simp
      · have : ¬ σ u = σ x := fun e2 => e (h u (List.mem_cons_self ..) e2)
        have e1 : (σ u == σ x) = false := by simpa using this
        have e2 : (u == x) = false := by simpa using e
        rw [e1, e2]
  unfold posOf
  rw [hi]
  by_cases hx : x ∈ c
  · rw [if_pos hx, if_pos (hm.2 hx)]
  · rw [if_neg hx, if_neg fun h2 => hx (hm.1 h2)]

theorem foldl_map {σ : Int → Int} : ∀ (M : List Int) (c o : List Int), (∀ u ∈ c ++ M, ∀ v ∈ c ++ M, σ u = σ v → u = v) →
    (M.map σ).foldl anewStep (c.map σ, o) = ((M.foldl anewStep (c, o)).1.map σ, (M.foldl anewStep (c, o)).2)
  | [], c, o, _ => rfl
  | x :: M, c, o, h => by
    have hx : x ∈ c ++ x :: M := by simp
    have hm : σ x ∈ c.map σ ↔ x ∈ c := by
      rw [List.mem_map]
      exact ⟨fun ⟨u, hu, e⟩ => h u (List.mem_append_left _ hu) x hx e ▸ hu, fun hx => ⟨x, hx, rfl⟩⟩
    have hc : (if σ x ∈ c.map σ then c.map σ else c.map σ ++ [σ x]) = (if x ∈ c then c else c ++ [x]).map σ := by
      by_cases hxc : x ∈ c
      · rw [if_pos hxc, if_pos (hm.2 hxc)]
      · rw [if_neg hxc, if_neg fun h2 => hxc (hm.1 h2), List.map_append]; rfl
    have hsub : ∀ u ∈ (if x ∈ c then c else c ++ [x]), u ∈ c ++ x :: M := by
      intro u hu
      split at hu
      · exact List.mem_append_left _ hu
      · rcases List.mem_append.1 hu with hu | hu
        · exact List.mem_append_left _ hu
        · rw [List.mem_singleton] at hu; rw [hu]; exact hx
    have hp : posOf ((if x ∈ c then c else c ++ [x]).map σ) (σ x) = posOf (if x ∈ c then c else c ++ [x]) x := posOf_map fun u hu e => h u (hsub u hu) x hx e
    rw [List.map_cons, List.foldl_cons, List.foldl_cons]
    have e1 : anewStep (c.map σ, o) (σ x) = ((if x ∈ c then c else c ++ [x]).map σ, o ++ [posOf (if x ∈ c then c else c ++ [x]) x]) := by
      simp only [anewStep]; rw [hc, hp]
    rw [e1]
    refine foldl_map M _ _ fun u hu v hv => h u ?_ v ?_
    · rcases List.mem_append.1 hu with hu | hu
      · exact hsub u hu
      · simp [hu]
    · rcases List.mem_append.1 hv with hv | hv
      · exact hsub v hv
      · simp [hv]

theorem anew_map {σ : Int → Int} (M : List Int) (h : ∀ u ∈ M, ∀ v ∈ M, σ u = σ v → u = v) : anew (M.map σ) = anew M := by
  have := foldl_map (σ := σ) M [] [] (by simpa using h)
  unfold anew anewSt
  rw [List.map_nil] at this
  rw [this]

/-- A number that stands nowhere else may be another such number. -/
theorem anew_set {L : List Int} {g : Nat} {x y : Int} (hx : x ∉ L) (hy : y ∉ L) : anew (L.set g x) = anew (L.set g y) := by
  have e : (L.set g x).map (fun v => if v = x then y else v) = L.set g y := by
    rw [List.map_set, if_pos rfl]
    congr 1
    conv => rhs; rw [← List.map_id L]
    refine List.map_congr_left fun v hv => ?_
    have : ¬ v = x := fun e => hx (e ▸ hv)
    rw [if_neg this]; rfl
  rw [← e]
  refine (anew_map _ fun u hu v hv huv => ?_).symm
  have hmem : ∀ w ∈ L.set g x, w = x ∨ w ∈ L := fun w hw => by
    rcases List.mem_or_eq_of_mem_set hw with h | h
    · exact .inr h
    · exact .inl h
  by_cases h1 : u = x
  · by_cases h2 : v = x
    · rw [h1, h2]
    · rw [if_pos h1, if_neg h2] at huv
      rcases hmem v hv with h | h
      · exact absurd h h2
      · exact absurd (huv ▸ h) hy
  · by_cases h2 : v = x
    · rw [if_neg h1, if_pos h2] at huv
      rcases hmem u hu with h | h
      · exact absurd h h1
      · exact absurd (huv ▸ h) hy
    · rwa [if_neg h1, if_neg h2] at huv

/-- The first k told anew, the rest not yet. -/
def toldK (M : List Int) (k : Nat) : List Int := anew (M.take k) ++ List.replicate (M.length - k) 0
theorem toldK_len {M : List Int} {k : Nat} (h : k ≤ M.length) : (toldK M k).length = M.length := by simp [toldK, anew_len]; omega
theorem toldK_set {M : List Int} {k : Nat} (h : k < M.length) : (toldK M k).set k (posOf (anewSt (M.take (k + 1))).1 (M.getD k 0)) = toldK M (k + 1) := by
  unfold toldK
  have e : M.length - k = (M.length - (k + 1)) + 1 := by omega
  have hk : (anew (M.take k)).length = k := by rw [anew_len]; exact List.length_take_of_le (by omega)
  rw [e, List.replicate_succ, List.set_append_right _ _ (by omega), hk, Nat.sub_self, List.set_cons_zero]
  have e2 : anew (M.take (k + 1)) = anew (M.take k) ++ [posOf (anewSt (M.take (k + 1))).1 (M.getD k 0)] := by
    rw [take_snoc M k 0 h]
    unfold anew
    rw [anewSt_snoc]; rfl
  rw [e2, List.append_assoc]; rfl

/-- Two families made one, so far. -/
def joinK (L : List Int) (a b : Int) (k : Nat) : List Int := (L.take k).map (fun f => if f = b then a else f) ++ L.drop k
theorem joinK_len (L : List Int) (a b : Int) (k : Nat) : (joinK L a b k).length = L.length := by simp [joinK]; omega
theorem joinK_get (L : List Int) (a b : Int) {k : Nat} (h : k < L.length) : (joinK L a b k).getD k 0 = L.getD k 0 := by
  have : ((L.take k).map (fun f => if f = b then a else f)).length = k := by simp; omega
  unfold joinK
  rw [List.getD_eq_getElem?_getD, List.getElem?_append_right (by omega), this, Nat.sub_self, List.getElem?_drop]
  simp
theorem joinK_yes (L : List Int) (a b : Int) {k : Nat} (h : k < L.length) (he : L.getD k 0 = b) : (joinK L a b k).set k a = joinK L a b (k + 1) := by
  have : ((L.take k).map (fun f => if f = b then a else f)).length = k := by simp; omega
  unfold joinK
  rw [List.set_append_right _ _ (by omega), this, Nat.sub_self, List.drop_eq_getElem_cons h, List.set_cons_zero, take_snoc L k 0 h, he, List.map_append, List.append_assoc]
  simp
theorem joinK_no (L : List Int) (a b : Int) {k : Nat} (h : k < L.length) (he : L.getD k 0 ≠ b) : joinK L a b k = joinK L a b (k + 1) := by
  unfold joinK
  rw [take_snoc L k 0 h, List.map_append, List.append_assoc, List.drop_eq_getElem_cons h]
  have : L[k] = L.getD k 0 := by simp [h]
  simp only [List.map_cons, List.map_nil, List.singleton_append, if_neg he, this]
end Go.Am
