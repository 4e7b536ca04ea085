/- Ranks of exchanges without own coats, as integers and lists alone. -/
import Derived.Test.YtgjlaajkakecpaaMaI
namespace Go.Am

/-- In how many ways n coats can be taken if h guests must not take their own. -/
def apD (n h : Nat) : Int := (apOut n h).getD n 0
/-- Products of n - k + 1 up to n, divided step by step. -/
def chz (n k : Nat) : Nat → Int
  | 0 => 1
  | j + 1 => chz n k j * ((n : Int) - k + ((j : Int) + 1)) / ((j : Int) + 1)
/-- In- and exclusion. -/
def inx (b l : Nat) : Nat → Int
  | 0 => 0
  | k + 1 => if k % 2 = 0 then inx b l k + chz b k k * fac (l - k) else inx b l k - chz b k k * fac (l - k)
theorem inx_table : ∀ l < 13, ∀ b < l + 1, inx b l (b + 1) = apD l b ∧ 0 ≤ apD l b ∧ apD l b ≤ 479001600 := by decide +kernel
theorem inx_le : ∀ l < 13, ∀ b < l + 1, ∀ k < b + 1, (-1000000000000 ≤ inx b l k ∧ inx b l k ≤ 1000000000000) ∧ 0 ≤ chz b k k * fac (l - k) ∧ chz b k k * fac (l - k) ≤ 1000000000000 := by decide +kernel
theorem apD_rec : ∀ n < 12, ∀ f < n + 1, (apD (n + 1) f = ((n : Int) + 1 - f) * apD n f + f * apD n (f - 1)) ∧ apD (n + 1) (f + 1) = ((n : Int) - f) * apD n f + f * apD n (f - 1) := by decide +kernel

/-- How many numbers below n are told. -/
def cnt (p : Nat → Bool) : Nat → Nat
  | 0 => 0
  | n + 1 => cnt p n + if p n then 1 else 0
theorem cnt_le (p : Nat → Bool) (n : Nat) : cnt p n ≤ n := by
  induction n with
  | zero => simp [cnt]
  | succ n ih => simp only [cnt]; split <;> omega
theorem cnt_congr {p q : Nat → Bool} {n : Nat} (h : ∀ k < n, p k = q k) : cnt p n = cnt q n := by
  induction n with
  | zero => rfl
  | succ n ih => simp only [cnt]; rw [ih fun k hk => h k (by omega), h n (by omega)]
theorem cnt_drop {p q : Nat → Bool} {n c : Nat} (hc : c < n) (hp : p c = true) (hq : q c = false) (h : ∀ k < n, k ≠ c → p k = q k) : cnt q n + 1 = cnt p n := by
  induction n with
  | zero => omega
  | succ n ih =>
    simp only [cnt]
    by_cases e : c = n
    · subst e
      rw [hp, hq, cnt_congr (p := q) (q := p) fun k hk => (h k (by omega) (by omega)).symm]
      simp
    · have := ih (by omega) fun k hk hkc => h k (by omega) hkc
      rw [h n (by omega) (by omega)]
      omega
theorem cnt_add (p : Nat → Bool) (a b : Nat) : cnt p (a + b) = cnt p a + cnt (fun k => p (a + k)) b := by
  induction b with
  | zero => simp [cnt]
  | succ b ih => rw [← Nat.add_assoc]; simp only [cnt]; rw [ih]; omega

/-- How many of the numbers a, a + 1, .., k of them, are not in a list. -/
def freeTo (M : List Int) (a k : Nat) : Nat := cnt (fun n => decide (((a + n : Nat) : Int) ∉ M)) k
theorem freeTo_succ (M : List Int) (a k : Nat) : freeTo M a (k + 1) = freeTo M a k + if ((a + k : Nat) : Int) ∉ M then 1 else 0 := by
  simp only [freeTo, cnt]; congr 1; simp
theorem freeTo_le (M : List Int) (a k : Nat) : freeTo M a k ≤ k := cnt_le _ _
theorem freeTo_add (M : List Int) (a b c : Nat) : freeTo M a (b + c) = freeTo M a b + freeTo M (a + b) c := by
  unfold freeTo
  rw [cnt_add]
  congr 1
  refine cnt_congr fun k _ => ?_
  rw [Nat.add_assoc]
theorem freeTo_out (M : List Int) (a k x : Nat) (h : x < a) : freeTo (M ++ [(x : Int)]) a k = freeTo M a k := by
  refine cnt_congr fun n _ => ?_
  have : ¬ ((a + n : Nat) : Int) = (x : Int) := by omega
  simp only [List.mem_append, List.mem_singleton, this, or_false]
theorem freeTo_in (M : List Int) (a k x : Nat) (h : a ≤ x) (h2 : x < a + k) (hx : (x : Int) ∉ M) : freeTo (M ++ [(x : Int)]) a k + 1 = freeTo M a k := by
  refine cnt_drop (c := x - a) (by omega) ?_ ?_ fun n hn hne => ?_
  · have e : a + (x - a) = x := by omega
    rw [e]; exact decide_eq_true hx
  · have e : a + (x - a) = x := by omega
    rw [e]; refine decide_eq_false ?_; simp
  · have : ¬ ((a + n : Nat) : Int) = (x : Int) := by omega
    simp only [List.mem_append, List.mem_singleton, this, or_false]
/-- Numbers below g, each once. -/
def Part (M : List Int) (g : Nat) : Prop := (∀ x ∈ M, 0 ≤ x ∧ x < g) ∧ M.Nodup
theorem freeTo_part (M : List Int) (g : Nat) (h : Part M g) : freeTo M 0 g + M.length = g := by
  suffices hh : ∀ (n : Nat) (M : List Int), M.length = n → Part M g → freeTo M 0 g + M.length = g from hh _ M rfl h
  intro n
  induction n with
  | zero =>
    intro M hM _
    have : M = [] := List.eq_nil_of_length_eq_zero hM
    subst this
    have : freeTo [] 0 g = g := by
      unfold freeTo
      clear h
      induction g with
      | zero => rfl
      | succ g ih => simp only [cnt]; rw [ih ⟨by simp, by simp⟩]; simp
    simp [this]
  | succ n ih =>
    intro M hM hp
    have hne : M ≠ [] := fun e => by rw [e] at hM; simp at hM
    have e := List.dropLast_concat_getLast hne
    have hg := hp.1 _ (List.getLast_mem hne)
    obtain ⟨x, hx⟩ := Int.eq_ofNat_of_zero_le hg.1
    rw [hx] at e hg
    have hl : M.dropLast.length = n := by simp [hM]
    have hnd : (M.dropLast ++ [(x : Int)]).Nodup := by rw [e]; exact hp.2
    have hxn : (x : Int) ∉ M.dropLast := by
      rw [List.nodup_append] at hnd
      exact fun hm => hnd.2.2 _ hm _ (List.mem_singleton.2 rfl) rfl
    have hp' : Part M.dropLast g := ⟨fun y hy => hp.1 y (List.dropLast_subset _ hy), (List.nodup_append.1 hnd).1⟩
    have h1 := ih M.dropLast hl hp'
    have h2 := freeTo_in M.dropLast 0 g x (by omega) (by omega) hxn
    rw [e] at h2
    omega
theorem Part.snoc {M : List Int} {g x : Nat} (h : Part M g) (hx : x < g) (hm : (x : Int) ∉ M) : Part (M ++ [(x : Int)]) g := by
  refine ⟨fun y hy => ?_, ?_⟩
  · rw [List.mem_append, List.mem_singleton] at hy
    rcases hy with hy | rfl
    · exact h.1 y hy
    · omega
  · rw [List.nodup_append]
    refine ⟨h.2, by simp, fun a ha b hb hab => ?_⟩
    rw [List.mem_singleton] at hb
    subst hb; subst hab
    exact hm ha

/-- In how many ways a beginning of an exchange of g guests goes on without own coats. -/
def lft (M : List Int) (g : Nat) : Int := apD (g - M.length) (freeTo M M.length (g - M.length))
theorem lft_le (M : List Int) (g : Nat) (hg : g ≤ 12) : 0 ≤ lft M g ∧ lft M g ≤ 479001600 := by
  have := inx_table (g - M.length) (by omega) (freeTo M M.length (g - M.length)) (by have := freeTo_le M M.length (g - M.length); omega)
  exact this.2

/-- May the guest i behind those of M take x? -/
def MayTake (M : List Int) (i x : Nat) : Prop := x ≠ i ∧ (x : Int) ∉ M
instance (M : List Int) (i x : Nat) : Decidable (MayTake M i x) := inferInstanceAs (Decidable (_ ∧ _))
/-- How many come before those that go on with x. -/
def smTo (M : List Int) (g i : Nat) : Nat → Int
  | 0 => 0
  | x + 1 => if MayTake M i x then smTo M g i x + lft (M ++ [(x : Int)]) g else smTo M g i x
theorem smTo_le (M : List Int) (g i x : Nat) (hg : g ≤ 12) : 0 ≤ smTo M g i x ∧ smTo M g i x ≤ 479001600 * x := by
  induction x with
  | zero => simp [smTo]
  | succ x ih =>
    have := lft_le (M ++ [(x : Int)]) g hg
    simp only [smTo]
    split <;> omega

theorem lft_lo {M : List Int} {g x : Nat} (h : x < M.length) : lft (M ++ [(x : Int)]) g = apD (g - M.length - 1) (freeTo M (M.length + 1) (g - M.length - 1)) := by
  unfold lft
  rw [List.length_append, List.length_singleton, freeTo_out _ _ _ _ (by omega)]
  rfl
theorem lft_hi {M : List Int} {g x : Nat} (h : M.length < x) (hg : x < g) (hx : (x : Int) ∉ M) : lft (M ++ [(x : Int)]) g = apD (g - M.length - 1) (freeTo M (M.length + 1) (g - M.length - 1) - 1) := by
  have := freeTo_in M (M.length + 1) (g - M.length - 1) x (by omega) (by omega) hx
  unfold lft
  rw [List.length_append, List.length_singleton]
  have e : g - (M.length + 1) = g - M.length - 1 := by omega
  rw [e]
  congr 1
  omega

theorem smTo_lo (M : List Int) (g x : Nat) (h : x ≤ M.length) : smTo M g M.length x = (freeTo M 0 x : Nat) * apD (g - M.length - 1) (freeTo M (M.length + 1) (g - M.length - 1)) := by
  induction x with
  | zero => simp [smTo, freeTo, cnt]
  | succ x ih =>
    simp only [smTo]
    rw [freeTo_succ, Nat.zero_add, ih (by omega)]
    by_cases hx : (x : Int) ∈ M
    · have : ¬ MayTake M M.length x := fun hh => hh.2 hx
      rw [if_neg this]; simp [hx]
    · have : MayTake M M.length x := ⟨by omega, hx⟩
      rw [if_pos this, lft_lo (by omega)]; simp [hx, Int.add_mul]

theorem smTo_hi (M : List Int) (g k : Nat) (h : M.length + 1 + k ≤ g) : smTo M g M.length (M.length + 1 + k) = smTo M g M.length M.length + (freeTo M (M.length + 1) k : Nat) * apD (g - M.length - 1) (freeTo M (M.length + 1) (g - M.length - 1) - 1) := by
  induction k with
  | zero =>
    have : ¬ MayTake M M.length M.length := fun hh => hh.1 rfl
    simp only [smTo]
    rw [if_neg this]; simp [freeTo, cnt]
  | succ k ih =>
    rw [← Nat.add_assoc]
    simp only [smTo]
    rw [freeTo_succ, ih (by omega)]
    by_cases hx : ((M.length + 1 + k : Nat) : Int) ∈ M
    · have : ¬ MayTake M M.length (M.length + 1 + k) := fun hh => hh.2 hx
      rw [if_neg this, if_neg (fun hh => hh hx)]; rfl
    · have : MayTake M M.length (M.length + 1 + k) := ⟨by omega, hx⟩
      rw [if_pos this, lft_hi (by omega) (by omega) hx]
      rw [if_pos hx, Int.natCast_add, Int.add_mul, Int.natCast_one, Int.one_mul]
      omega

/-- All that go on are those that go on with some coat. -/
theorem smTo_all {M : List Int} {g : Nat} (hp : Part M g) (hi : M.length < g) (hg : g ≤ 12) : smTo M g M.length g = lft M g := by
  obtain ⟨n, hn⟩ : ∃ n, g = M.length + 1 + n := ⟨g - M.length - 1, by omega⟩
  have e1 := smTo_hi M g n (by omega)
  rw [← hn] at e1
  rw [e1, smTo_lo _ _ _ (Nat.le_refl _)]
  have hall := freeTo_part M g hp
  have e2 : freeTo M 0 g = freeTo M 0 M.length + freeTo M M.length (g - M.length) := by
    have := freeTo_add M 0 M.length (g - M.length)
    rw [Nat.zero_add, Nat.add_sub_cancel' (by omega)] at this
    exact this
  have e3 : freeTo M M.length (g - M.length) = freeTo M M.length 1 + freeTo M (M.length + 1) n := by
    have := freeTo_add M M.length 1 n
    rw [← this]; congr 1; omega
  have e4 : g - M.length - 1 = n := by omega
  have e5 : g - M.length = n + 1 := by omega
  unfold lft
  rw [e4, e3, e5]
  have hF := freeTo_le M (M.length + 1) n
  generalize hf : freeTo M (M.length + 1) n = f at *
  have hrec := apD_rec n (by omega) f (by omega)
  have e6 : freeTo M M.length 1 = if ((M.length : Nat) : Int) ∉ M then 1 else 0 := by
    have := freeTo_succ M M.length 0
    simp only [Nat.add_zero, Nat.zero_add] at this
    rw [this]; simp [freeTo, cnt]
  by_cases hm : ((M.length : Nat) : Int) ∈ M
  · have e7 : freeTo M M.length 1 = 0 := by rw [e6]; simp [hm]
    have e8 : (freeTo M 0 M.length : Int) = (n : Int) + 1 - f := by omega
    rw [e7, Nat.zero_add, hrec.1, e8]
  · have e7 : freeTo M M.length 1 = 1 := by rw [e6]; simp [hm]
    have e8 : (freeTo M 0 M.length : Int) = (n : Int) - f := by omega
    rw [e7, Nat.add_comm 1 f, hrec.2, e8]
theorem lft_none (g : Nat) (hg : g ≤ 12) : lft [] g = noneN g := by
  have : freeTo [] 0 g = g := by have := freeTo_part [] g ⟨by simp, by simp⟩; simpa using this
  show apD (g - 0) (freeTo [] 0 (g - 0)) = _
  rw [Nat.sub_zero, this]
  revert g
  decide +kernel

/-- The first coat x from which on a rank falls into those that go on with it, and what is left of the rank. -/
def pickF (M : List Int) (g i : Nat) : Nat → Nat → Int → Option (Nat × Int)
  | 0, _, _ => none
  | n + 1, x, r => if MayTake M i x then (if r < lft (M ++ [(x : Int)]) g then some (x, r) else pickF M g i n (x + 1) (r - lft (M ++ [(x : Int)]) g)) else pickF M g i n (x + 1) r
theorem pickF_some (M : List Int) (g : Nat) (hp : Part M g) (hi : M.length < g) (hg : g ≤ 12) (r0 : Int) (h0 : r0 < lft M g) : ∀ (n x : Nat) (r : Int), x + n = g → 0 ≤ r → r + smTo M g M.length x = r0 →
    ∃ y s, pickF M g M.length n x r = some (y, s) ∧ y < g ∧ MayTake M M.length y ∧ 0 ≤ s ∧ s < lft (M ++ [(y : Int)]) g
  | 0, x, r, hx, hr, he => by
    have := smTo_all hp hi hg
    have e : x = g := by omega
    rw [e, this] at he
    omega
  | n + 1, x, r, hx, hr, he => by
    simp only [pickF]
    by_cases hc : MayTake M M.length x
    · rw [if_pos hc]
      by_cases hl : r < lft (M ++ [(x : Int)]) g
      · rw [if_pos hl]
        exact ⟨x, r, rfl, by omega, hc, hr, hl⟩
      · rw [if_neg hl]
        refine pickF_some M g hp hi hg r0 h0 n (x + 1) _ (by omega) (by omega) ?_
        simp only [smTo]
        rw [if_pos hc]; omega
    · rw [if_neg hc]
      refine pickF_some M g hp hi hg r0 h0 n (x + 1) _ (by omega) hr ?_
      simp only [smTo]
      rw [if_neg hc]; exact he
/-- The exchange without own coats with a rank, behind a beginning. -/
def unrF (g : Nat) : Nat → List Int → Int → List Int
  | 0, M, _ => M
  | n + 1, M, r => match pickF M g M.length g 0 r with
    | some (x, s) => unrF g n (M ++ [(x : Int)]) s
    | none => M
/-- How many come before a list, from its place k on. -/
def befF (L : List Int) (g : Nat) : Nat → Nat → Int → Int
  | 0, _, a => a
  | n + 1, k, a => if L.getD k 0 = k then a + smTo (L.take k) g k (L.getD k 0).toNat else befF L g n (k + 1) (a + smTo (L.take k) g k (L.getD k 0).toNat)
def befR (L : List Int) : Int := befF L L.length L.length 0 0
end Go.Am
