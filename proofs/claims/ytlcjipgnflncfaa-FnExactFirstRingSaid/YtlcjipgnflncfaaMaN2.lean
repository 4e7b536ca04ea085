/- Counts of exchanges without own coats, as integers alone. Ranks of exchanges without own coats, as integers and lists alone. Chains of exchanges, as lists alone. -/
import Derived.Test.YtlcjipgnflncfaaAmMb
namespace Go.Am
def fac : Nat → Int
  | 0 => 1
  | n + 1 => fac n * (n + 1)
theorem fac_le : ∀ n < 13, 1 ≤ fac n ∧ fac n ≤ 479001600 := by decide +kernel
/-- The two last numbers of exchanges without own coats. -/
def nn : Nat → Int × Int
  | 0 => (1, 0)
  | j + 1 => ((nn j).2, ((j : Int) + 2 - 1) * ((nn j).1 + (nn j).2))
theorem nn_le : ∀ n < 13, (0 ≤ (nn n).1 ∧ (nn n).1 ≤ 10000000000) ∧ 0 ≤ (nn n).2 ∧ (nn n).2 ≤ 10000000000 := by decide +kernel
def noneN (n : Nat) : Int := if n = 0 then 1 else (nn (n - 1)).2

def facs (g : Nat) : List Int := (List.range (g + 1)).map fac
/-- A row behind j steps from above. -/
def apIn (w : List Int) (g : Nat) : Nat → List Int
  | 0 => w
  | j + 1 => (apIn w g j).set (g - j) ((apIn w g j).getD (g - j) 0 - (apIn w g j).getD (g - j - 1) 0)
def apOut (g : Nat) : Nat → List Int
  | 0 => facs g
  | s + 1 => apIn (apOut g s) g g
theorem apIn_len (w : List Int) (g j : Nat) : (apIn w g j).length = w.length := by
  induction j with
  | zero => rfl
  | succ j ih => rw [apIn, List.length_set, ih]
theorem apOut_len (g s : Nat) : (apOut g s).length = g + 1 := by
  induction s with
  | zero => simp [apOut, facs]
  | succ s ih => rw [apOut, apIn_len, ih]
theorem getD_set (l : List Int) (n i : Nat) (a : Int) (h : n < l.length) : (l.set n a).getD i 0 = if i = n then a else l.getD i 0 := by
  rw [List.getD_eq_getElem?_getD, List.getD_eq_getElem?_getD, List.getElem?_set]
  by_cases e : n = i
  · subst e; simp [h]
  · have e' : ¬ i = n := fun h => e h.symm
    simp [e, e']
theorem apIn_get (w : List Int) (g j : Nat) (hj : j ≤ g) (hl : w.length = g + 1) (i : Nat) : (apIn w g j).getD i 0 = if g - j < i ∧ i ≤ g then w.getD i 0 - w.getD (i - 1) 0 else w.getD i 0 := by
  induction j generalizing i with
  | zero => rw [apIn, if_neg (by omega)]
  | succ j ih =>
    rw [apIn, getD_set _ _ _ _ (by rw [apIn_len]; omega), ih (by omega), ih (by omega), ih (by omega)]
    by_cases e : i = g - j
    · subst e
      rw [if_pos rfl, if_neg (by omega), if_neg (by omega), if_pos (by omega)]
    · rw [if_neg e]
      by_cases c : g - j < i ∧ i ≤ g
      · rw [if_pos c, if_pos (by omega)]
      · rw [if_neg c, if_neg (by omega)]
def Bound (w : List Int) (B : Int) : Prop := ∀ i, -B ≤ w.getD i 0 ∧ w.getD i 0 ≤ B
theorem apIn_bound {w : List Int} {g j : Nat} {B : Int} (_hB : 0 ≤ B) (hj : j ≤ g) (hl : w.length = g + 1) (h : Bound w B) : Bound (apIn w g j) (2 * B) := by
  intro i
  rw [apIn_get w g j hj hl]
  have h1 := h i
  have h2 := h (i - 1)
  split <;> omega
theorem facs_bound (g : Nat) (hg : g ≤ 12) : Bound (facs g) 479001600 := by
  intro i
  by_cases h : i < g + 1
  · have := fac_le i (by omega)
    have e : (facs g).getD i 0 = fac i := by simp [facs, h]
    rw [e]; omega
  · have e : (facs g).getD i 0 = 0 := by simp [facs, h]
    rw [e]; omega
def cap : Nat → Int
  | 0 => 479001600
  | s + 1 => 2 * cap s
theorem cap_le : ∀ s < 14, 0 ≤ cap s ∧ cap s ≤ 10000000000000 := by decide +kernel
theorem apOut_bound (g s : Nat) (hg : g ≤ 12) (hs : s ≤ 13) : Bound (apOut g s) (cap s) := by
  induction s with
  | zero => exact facs_bound g hg
  | succ s ih => exact apIn_bound (cap_le s (by omega)).1 (Nat.le_refl _) (apOut_len g s) (ih (by omega))

/-- The row as it is filled. -/
def facW (g k : Nat) : List Int := (List.range k).map fac ++ List.replicate (g + 1 - k) 0
theorem facW_len (g k : Nat) (h : k ≤ g + 1) : (facW g k).length = g + 1 := by simp [facW]; omega
theorem facW_set (g k : Nat) (h : k < g + 1) : (facW g k).set k (fac k) = facW g (k + 1) := by
  unfold facW
  have e : g + 1 - k = (g + 1 - (k + 1)) + 1 := by omega
  rw [List.range_succ, List.map_append, e, List.replicate_succ, List.set_append_right _ _ (by simp)]
  simp

end Go.Am

namespace Go.Am

/-- In how many ways n coats can be taken if h guests must not take their own. -/
def apD (n h : Nat) : Int := (apOut n h).getD n 0
/-- Products of n - k + 1 up to n, divided step by step. -/
def chz (n k : Nat) : Nat → Int
  | 0 => 1
  | j + 1 => chz n k j * ((n : Int) - k + ((j : Int) + 1)) / ((j : Int) + 1)
/-- In- and exclusion. -/
def inx (b l : Nat) : Nat → Int
  | 0 => 0
  | k + 1 => if k % 2 = 0 then inx b l k + chz b k k * fac (l - k) else inx b l k - chz b k k * fac (l - k)
theorem inx_table : ∀ l < 13, ∀ b < l + 1, inx b l (b + 1) = apD l b ∧ 0 ≤ apD l b ∧ apD l b ≤ 479001600 := by decide +kernel
theorem inx_le : ∀ l < 13, ∀ b < l + 1, ∀ k < b + 1, (-1000000000000 ≤ inx b l k ∧ inx b l k ≤ 1000000000000) ∧ 0 ≤ chz b k k * fac (l - k) ∧ chz b k k * fac (l - k) ≤ 1000000000000 := by decide +kernel
theorem apD_rec : ∀ n < 12, ∀ f < n + 1, (apD (n + 1) f = ((n : Int) + 1 - f) * apD n f + f * apD n (f - 1)) ∧ apD (n + 1) (f + 1) = ((n : Int) - f) * apD n f + f * apD n (f - 1) := by decide +kernel

/-- How many numbers below n are told. -/
def cnt (p : Nat → Bool) : Nat → Nat
  | 0 => 0
  | n + 1 => cnt p n + if p n then 1 else 0
theorem cnt_le (p : Nat → Bool) (n : Nat) : cnt p n ≤ n := by
  induction n with
  | zero => simp [cnt]
  | succ n ih => simp only [cnt]; split <;> omega
theorem cnt_congr {p q : Nat → Bool} {n : Nat} (h : ∀ k < n, p k = q k) : cnt p n = cnt q n := by
  induction n with
  | zero => rfl
  | succ n ih => simp only [cnt]; rw [ih fun k hk => h k (by omega), h n (by omega)]
theorem cnt_drop {p q : Nat → Bool} {n c : Nat} (hc : c < n) (hp : p c = true) (hq : q c = false) (h : ∀ k < n, k ≠ c → p k = q k) : cnt q n + 1 = cnt p n := by
  induction n with
  | zero => omega
  | succ n ih =>
    simp only [cnt]
    by_cases e : c = n
    · subst e
      rw [hp, hq, cnt_congr (p := q) (q := p) fun k hk => (h k (by omega) (by omega)).symm]
      simp
    · have := ih (by omega) fun k hk hkc => h k (by omega) hkc
      rw [h n (by omega) (by omega)]
      omega
theorem cnt_add (p : Nat → Bool) (a b : Nat) : cnt p (a + b) = cnt p a + cnt (fun k => p (a + k)) b := by
  induction b with
  | zero => simp [cnt]
  | succ b ih => rw [← Nat.add_assoc]; simp only [cnt]; rw [ih]; omega

/-- How many of the numbers a, a + 1, .., k of them, are not in a list. -/
def freeTo (M : List Int) (a k : Nat) : Nat := cnt (fun n => decide (((a + n : Nat) : Int) ∉ M)) k
theorem freeTo_succ (M : List Int) (a k : Nat) : freeTo M a (k + 1) = freeTo M a k + if ((a + k : Nat) : Int) ∉ M then 1 else 0 := by
  simp only [freeTo, cnt]; congr 1; simp
theorem freeTo_le (M : List Int) (a k : Nat) : freeTo M a k ≤ k := cnt_le _ _
theorem freeTo_add (M : List Int) (a b c : Nat) : freeTo M a (b + c) = freeTo M a b + freeTo M (a + b) c := by
  unfold freeTo
  rw [cnt_add]
  congr 1
  refine cnt_congr fun k _ => ?_
  rw [Nat.add_assoc]
theorem freeTo_out (M : List Int) (a k x : Nat) (h : x < a) : freeTo (M ++ [(x : Int)]) a k = freeTo M a k := by
  refine cnt_congr fun n _ => ?_
  have : ¬ ((a + n : Nat) : Int) = (x : Int) := by omega
  simp only [List.mem_append, List.mem_singleton, this, or_false]
theorem freeTo_in (M : List Int) (a k x : Nat) (h : a ≤ x) (h2 : x < a + k) (hx : (x : Int) ∉ M) : freeTo (M ++ [(x : Int)]) a k + 1 = freeTo M a k := by
  refine cnt_drop (c := x - a) (by omega) ?_ ?_ fun n hn hne => ?_
  · have e : a + (x - a) = x := by omega
    rw [e]; exact decide_eq_true hx
  · have e : a + (x - a) = x := by omega
    rw [e]; refine decide_eq_false ?_; simp
  · have : ¬ ((a + n : Nat) : Int) = (x : Int) := by omega
    simp only [List.mem_append, List.mem_singleton, this, or_false]
/-- Numbers below g, each once. -/
def Part (M : List Int) (g : Nat) : Prop := (∀ x ∈ M, 0 ≤ x ∧ x < g) ∧ M.Nodup
theorem freeTo_part (M : List Int) (g : Nat) (h : Part M g) : freeTo M 0 g + M.length = g := by
  suffices hh : ∀ (n : Nat) (M : List Int), M.length = n → Part M g → freeTo M 0 g + M.length = g from hh _ M rfl h
  intro n
  induction n with
  | zero =>
    intro M hM _
    have : M = [] := List.eq_nil_of_length_eq_zero hM
    subst this
    have : freeTo [] 0 g = g := by
      unfold freeTo
      clear h
      induction g with
      | zero => rfl
      | succ g ih => simp only [cnt]; rw [ih ⟨by simp, by simp⟩]; simp
    simp [this]
  | succ n ih =>
    intro M hM hp
    have hne : M ≠ [] := fun e => by rw [e] at hM; simp at hM
    have e := List.dropLast_concat_getLast hne
    have hg := hp.1 _ (List.getLast_mem hne)
    obtain ⟨x, hx⟩ := Int.eq_ofNat_of_zero_le hg.1
    rw [hx] at e hg
    have hl : M.dropLast.length = n := by simp [hM]
    have hnd : (M.dropLast ++ [(x : Int)]).Nodup := by rw [e]; exact hp.2
    have hxn : (x : Int) ∉ M.dropLast := by
      rw [List.nodup_append] at hnd
      exact fun hm => hnd.2.2 _ hm _ (List.mem_singleton.2 rfl) rfl
    have hp' : Part M.dropLast g := ⟨fun y hy => hp.1 y (List.dropLast_subset _ hy), (List.nodup_append.1 hnd).1⟩
    have h1 := ih M.dropLast hl hp'
    have h2 := freeTo_in M.dropLast 0 g x (by omega) (by omega) hxn
    rw [e] at h2
    omega
theorem Part.snoc {M : List Int} {g x : Nat} (h : Part M g) (hx : x < g) (hm : (x : Int) ∉ M) : Part (M ++ [(x : Int)]) g := by
  refine ⟨fun y hy => ?_, ?_⟩
  · rw [List.mem_append, List.mem_singleton] at hy
    rcases hy with hy | rfl
    · exact h.1 y hy
    · omega
  · rw [List.nodup_append]
    refine ⟨h.2, by simp, fun a ha b hb hab => ?_⟩
    rw [List.mem_singleton] at hb
    subst hb; subst hab
    exact hm ha

/-- In how many ways a beginning of an exchange of g guests goes on without own coats. -/
def lft (M : List Int) (g : Nat) : Int := apD (g - M.length) (freeTo M M.length (g - M.length))
theorem lft_le (M : List Int) (g : Nat) (hg : g ≤ 12) : 0 ≤ lft M g ∧ lft M g ≤ 479001600 := by
  have := inx_table (g - M.length) (by omega) (freeTo M M.length (g - M.length)) (by have := freeTo_le M M.length (g - M.length); omega)
  exact this.2

/-- May the guest i behind those of M take x? -/
def MayTake (M : List Int) (i x : Nat) : Prop := x ≠ i ∧ (x : Int) ∉ M
instance (M : List Int) (i x : Nat) : Decidable (MayTake M i x) := inferInstanceAs (Decidable (_ ∧ _))
/-- How many come before those that go on with x. -/
def smTo (M : List Int) (g i : Nat) : Nat → Int
  | 0 => 0
  | x + 1 => if MayTake M i x then smTo M g i x + lft (M ++ [(x : Int)]) g else smTo M g i x
theorem smTo_le (M : List Int) (g i x : Nat) (hg : g ≤ 12) : 0 ≤ smTo M g i x ∧ smTo M g i x ≤ 479001600 * x := by
  induction x with
  | zero => simp [smTo]
  | succ x ih =>
    have := lft_le (M ++ [(x : Int)]) g hg
    simp only [smTo]
    split <;> omega

theorem lft_lo {M : List Int} {g x : Nat} (h : x < M.length) : lft (M ++ [(x : Int)]) g = apD (g - M.length - 1) (freeTo M (M.length + 1) (g - M.length - 1)) := by
  unfold lft
  rw [List.length_append, List.length_singleton, freeTo_out _ _ _ _ (by omega)]
  rfl
theorem lft_hi {M : List Int} {g x : Nat} (h : M.length < x) (hg : x < g) (hx : (x : Int) ∉ M) : lft (M ++ [(x : Int)]) g = apD (g - M.length - 1) (freeTo M (M.length + 1) (g - M.length - 1) - 1) := by
  have := freeTo_in M (M.length + 1) (g - M.length - 1) x (by omega) (by omega) hx
  unfold lft
  rw [List.length_append, List.length_singleton]
  have e : g - (M.length + 1) = g - M.length - 1 := by omega
  rw [e]
  congr 1
  omega

theorem smTo_lo (M : List Int) (g x : Nat) (h : x ≤ M.length) : smTo M g M.length x = (freeTo M 0 x : Nat) * apD (g - M.length - 1) (freeTo M (M.length + 1) (g - M.length - 1)) := by
  induction x with
  | zero => simp [smTo, freeTo, cnt]
  | succ x ih =>
    simp only [smTo]
    rw [freeTo_succ, Nat.zero_add, ih (by omega)]
    by_cases hx : (x : Int) ∈ M
    · have : ¬ MayTake M M.length x := fun hh => hh.2 hx
      rw [if_neg this]; simp [hx]
    · have : MayTake M M.length x := ⟨by omega, hx⟩
      rw [if_pos this, lft_lo (by omega)]; simp [hx, Int.add_mul]

theorem smTo_hi (M : List Int) (g k : Nat) (h : M.length + 1 + k ≤ g) : smTo M g M.length (M.length + 1 + k) = smTo M g M.length M.length + (freeTo M (M.length + 1) k : Nat) * apD (g - M.length - 1) (freeTo M (M.length + 1) (g - M.length - 1) - 1) := by
  induction k with
  | zero =>
    have : ¬ MayTake M M.length M.length := fun hh => hh.1 rfl
    simp only [smTo]
    rw [if_neg this]; simp [freeTo, cnt]
  | succ k ih =>
    rw [← Nat.add_assoc]
    simp only [smTo]
    rw [freeTo_succ, ih (by omega)]
    by_cases hx : ((M.length + 1 + k : Nat) : Int) ∈ M
    · have : ¬ MayTake M M.length (M.length + 1 + k) := fun hh => hh.2 hx
      rw [if_neg this, if_neg (fun hh => hh hx)]; rfl
    · have : MayTake M M.length (M.length + 1 + k) := ⟨by omega, hx⟩
      rw [if_pos this, lft_hi (by omega) (by omega) hx]
      rw [if_pos hx, Int.natCast_add, Int.add_mul, Int.natCast_one, Int.one_mul]
      omega

/-- All that go on are those that go on with some coat. -/
theorem smTo_all {M : List Int} {g : Nat} (hp : Part M g) (hi : M.length < g) (hg : g ≤ 12) : smTo M g M.length g = lft M g := by
  obtain ⟨n, hn⟩ : ∃ n, g = M.length + 1 + n := ⟨g - M.length - 1, by omega⟩
  have e1 := smTo_hi M g n (by omega)
  rw [← hn] at e1
  rw [e1, smTo_lo _ _ _ (Nat.le_refl _)]
  have hall := freeTo_part M g hp
  have e2 : freeTo M 0 g = freeTo M 0 M.length + freeTo M M.length (g - M.length) := by
    have := freeTo_add M 0 M.length (g - M.length)
    rw [Nat.zero_add, Nat.add_sub_cancel' (by omega)] at this
    exact this
  have e3 : freeTo M M.length (g - M.length) = freeTo M M.length 1 + freeTo M (M.length + 1) n := by
    have := freeTo_add M M.length 1 n
    rw [← this]; congr 1; omega
  have e4 : g - M.length - 1 = n := by omega
  have e5 : g - M.length = n + 1 := by omega
  unfold lft
  rw [e4, e3, e5]
  have hF := freeTo_le M (M.length + 1) n
  generalize hf : freeTo M (M.length + 1) n = f at *
  have hrec := apD_rec n (by omega) f (by omega)
  have e6 : freeTo M M.length 1 = if ((M.length : Nat) : Int) ∉ M then 1 else 0 := by
    have := freeTo_succ M M.length 0
    simp only [Nat.add_zero, Nat.zero_add] at this
    rw [this]; simp [freeTo, cnt]
  by_cases hm : ((M.length : Nat) : Int) ∈ M
  · have e7 : freeTo M M.length 1 = 0 := by rw [e6]; simp [hm]
    have e8 : (freeTo M 0 M.length : Int) = (n : Int) + 1 - f := by omega
    rw [e7, Nat.zero_add, hrec.1, e8]
  · have e7 : freeTo M M.length 1 = 1 := by rw [e6]; simp [hm]
    have e8 : (freeTo M 0 M.length : Int) = (n : Int) - f := by omega
    rw [e7, Nat.add_comm 1 f, hrec.2, e8]
theorem lft_none (g : Nat) (hg : g ≤ 12) : lft [] g = noneN g := by
  have : freeTo [] 0 g = g := by have := freeTo_part [] g ⟨by simp, by simp⟩; simpa using this
  show apD (g - 0) (freeTo [] 0 (g - 0)) = _
  rw [Nat.sub_zero, this]
  revert g
  decide +kernel

/-- The first coat x from which on a rank falls into those that go on with it, and what is left of the rank. -/
def pickF (M : List Int) (g i : Nat) : Nat → Nat → Int → Option (Nat × Int)
  | 0, _, _ => none
  | n + 1, x, r => if MayTake M i x then (if r < lft (M ++ [(x : Int)]) g then some (x, r) else pickF M g i n (x + 1) (r - lft (M ++ [(x : Int)]) g)) else pickF M g i n (x + 1) r
theorem pickF_some (M : List Int) (g : Nat) (hp : Part M g) (hi : M.length < g) (hg : g ≤ 12) (r0 : Int) (h0 : r0 < lft M g) : ∀ (n x : Nat) (r : Int), x + n = g → 0 ≤ r → r + smTo M g M.length x = r0 →
    ∃ y s, pickF M g M.length n x r = some (y, s) ∧ y < g ∧ MayTake M M.length y ∧ 0 ≤ s ∧ s < lft (M ++ [(y : Int)]) g
  | 0, x, r, hx, hr, he => by
    have := smTo_all hp hi hg
    have e : x = g := by omega
    rw [e, this] at he
    omega
  | n + 1, x, r, hx, hr, he => by
    simp only [pickF]
    by_cases hc : MayTake M M.length x
    · rw [if_pos hc]
      by_cases hl : r < lft (M ++ [(x : Int)]) g
      · rw [if_pos hl]
        exact ⟨x, r, rfl, by omega, hc, hr, hl⟩
      · rw [if_neg hl]
        refine pickF_some M g hp hi hg r0 h0 n (x + 1) _ (by omega) (by omega) ?_
        simp only [smTo]
        rw [if_pos hc]; omega
    · rw [if_neg hc]
      refine pickF_some M g hp hi hg r0 h0 n (x + 1) _ (by omega) hr ?_
      simp only [smTo]
      rw [if_neg hc]; exact he
/-- The exchange without own coats with a rank, behind a beginning. -/
def unrF (g : Nat) : Nat → List Int → Int → List Int
  | 0, M, _ => M
  | n + 1, M, r => match pickF M g M.length g 0 r with
    | some (x, s) => unrF g n (M ++ [(x : Int)]) s
    | none => M
/-- How many come before a list, from its place k on. -/
def befF (L : List Int) (g : Nat) : Nat → Nat → Int → Int
  | 0, _, a => a
  | n + 1, k, a => if L.getD k 0 = k then a + smTo (L.take k) g k (L.getD k 0).toNat else befF L g n (k + 1) (a + smTo (L.take k) g k (L.getD k 0).toNat)
def befR (L : List Int) : Int := befF L L.length L.length 0 0
end Go.Am

namespace Go.Am

/-- A list with each number below its length once. -/
def IsPm (L : List Int) : Prop := (∀ x ∈ L, 0 ≤ x ∧ x < L.length) ∧ L.Nodup
/-- The next one, and the one behind k steps. -/
def nx (L : List Int) (j : Nat) : Nat := (L.getD j 0).toNat
def it (L : List Int) : Nat → Nat → Nat
  | 0, i => i
  | k + 1, i => nx L (it L k i)
theorem nx_lt {L : List Int} (h : IsPm L) {j : Nat} (hj : j < L.length) : nx L j < L.length ∧ L.getD j 0 = (nx L j : Int) := by
  have h1 : L.getD j 0 ∈ L := by simp [hj]
  have := h.1 _ h1
  unfold nx
  omega
theorem nx_inj {L : List Int} (h : IsPm L) {i j : Nat} (hi : i < L.length) (hj : j < L.length) (e : nx L i = nx L j) : i = j := by
  have h1 := (nx_lt h hi).2
  have h2 := (nx_lt h hj).2
  rw [e, ← h2] at h1
  have e1 : L[i]? = L[j]? := by
    rw [List.getElem?_eq_getElem hi, List.getElem?_eq_getElem hj]
    simpa [hi, hj] using h1
  exact (List.getElem?_inj hi h.2).1 e1
theorem it_lt {L : List Int} (h : IsPm L) {i : Nat} (hi : i < L.length) (k : Nat) : it L k i < L.length := by
  induction k with
  | zero => exact hi
  | succ k ih => exact (nx_lt h ih).1
theorem it_add (L : List Int) (a b i : Nat) : it L (a + b) i = it L a (it L b i) := by
  induction a with
  | zero => rw [Nat.zero_add]; rfl
  | succ a ih => rw [Nat.succ_add]; simp only [it]; rw [ih]
theorem it_inj {L : List Int} (h : IsPm L) (a : Nat) {i j : Nat} (hi : i < L.length) (hj : j < L.length) (e : it L a i = it L a j) : i = j := by
  induction a with
  | zero => exact e
  | succ a ih => exact ih (nx_inj h (it_lt h hi a) (it_lt h hj a) e)
/-- The length of the chain. -/
def perA (L : List Int) (i : Nat) : Nat → Nat → Nat
  | 0, k => k
  | f + 1, k => if it L k i = i then k else perA L i f (k + 1)
def per (L : List Int) (i : Nat) : Nat := perA L i L.length 1
theorem perA_spec {L : List Int} {i : Nat} {f k m : Nat} (hm : m = k + f) (hex : ∃ q, k ≤ q ∧ q < m ∧ it L q i = i) : (∀ q, k ≤ q → q < perA L i f k → it L q i ≠ i) ∧ it L (perA L i f k) i = i ∧ k ≤ perA L i f k ∧ perA L i f k < m := by
  induction f generalizing k with
  | zero => obtain ⟨q, h1, h2, _⟩ := hex; omega
  | succ f ih =>
    simp only [perA]
    by_cases e : it L k i = i
    · rw [if_pos e]
      exact ⟨fun q h1 h2 => by omega, e, Nat.le_refl _, by omega⟩
    · rw [if_neg e]
      obtain ⟨q, h1, h2, h3⟩ := hex
      have hq : k + 1 ≤ q := by
        rcases Nat.lt_or_ge k q with h4 | h4
        · exact h4
        · have : q = k := by omega
          rw [this] at h3; exact absurd h3 e
      obtain ⟨h4, h5, h6, h7⟩ := ih (k := k + 1) (by omega) ⟨q, hq, h2, h3⟩
      refine ⟨fun q h8 h9 => ?_, h5, by omega, h7⟩
      rcases Nat.lt_or_ge k q with h10 | h10
      · exact h4 q (by omega) h9
      · have : q = k := by omega
        rw [this]; exact e
theorem per_ex {L : List Int} (h : IsPm L) {i : Nat} (hi : i < L.length) : ∃ q, 1 ≤ q ∧ q < 1 + L.length ∧ it L q i = i := by
  refine Classical.byContradiction fun hno => ?_
  have hne : ∀ q, 1 ≤ q → q < 1 + L.length → it L q i ≠ i := fun q h1 h2 h3 => hno ⟨q, h1, h2, h3⟩
  have hdist : ∀ a b, a < b → b ≤ L.length → it L a i ≠ it L b i := by
    intro a b hab hb e
    have e2 : b = a + (b - a) := by omega
    rw [e2, it_add] at e
    exact hne (b - a) (by omega) (by omega) (it_inj h a hi (it_lt h hi _) e).symm
  have hpart : Part ((List.range (L.length + 1)).map fun k => ((it L k i : Nat) : Int)) L.length := by
    refine ⟨fun x hx => ?_, ?_⟩
    · rw [List.mem_map] at hx
      obtain ⟨k, _, rfl⟩ := hx
      have := it_lt h hi k
      omega
    · rw [List.Nodup, List.pairwise_map]
      refine List.Pairwise.imp_of_mem ?_ (List.pairwise_lt_range (n := L.length + 1))
      intro a b ha hb hab e
      rw [List.mem_range] at hb
      exact hdist a b hab (by omega) (by omega)
  have := freeTo_part _ _ hpart
  simp at this
  omega
theorem per_spec {L : List Int} (h : IsPm L) {i : Nat} (hi : i < L.length) : 1 ≤ per L i ∧ per L i ≤ L.length ∧ it L (per L i) i = i ∧ ∀ q, 1 ≤ q → q < per L i → it L q i ≠ i := by
  obtain ⟨h1, h2, h3, h4⟩ := perA_spec (f := L.length) (k := 1) rfl (per_ex h hi)
  exact ⟨h3, by unfold per; omega, h2, h1⟩
theorem per_dist {L : List Int} (h : IsPm L) {i : Nat} (hi : i < L.length) {a b : Nat} (hab : a < b) (hb : b < per L i) : it L a i ≠ it L b i := by
  intro e
  have e2 : b = a + (b - a) := by omega
  rw [e2, it_add] at e
  exact (per_spec h hi).2.2.2 (b - a) (by omega) (by omega) (it_inj h a hi (it_lt h hi _) e).symm
theorem it_mul {L : List Int} (h : IsPm L) {i : Nat} (hi : i < L.length) (c : Nat) : it L (per L i * c) i = i := by
  induction c with
  | zero => rfl
  | succ c ih => rw [Nat.mul_succ, it_add, (per_spec h hi).2.2.1, ih]
theorem it_mod {L : List Int} (h : IsPm L) {i : Nat} (hi : i < L.length) (k : Nat) : it L k i = it L (k % per L i) i := by
  have := it_mul h hi (k / per L i)
  conv => lhs; rw [← Nat.mod_add_div k (per L i), it_add, this]
/-- Is j on the chain of m? -/
def onC (L : List Int) (m j : Nat) : Prop := ∃ k, it L k m = j
theorem onC_lt {L : List Int} (h : IsPm L) {m j : Nat} (hm : m < L.length) : onC L m j ↔ ∃ k, k < per L m ∧ it L k m = j := by
  constructor
  · rintro ⟨k, hk⟩
    exact ⟨k % per L m, Nat.mod_lt _ (per_spec h hm).1, by rw [← it_mod h hm]; exact hk⟩
  · rintro ⟨k, _, hk⟩
    exact ⟨k, hk⟩
theorem onC_symm {L : List Int} (h : IsPm L) {m j : Nat} (hm : m < L.length) (ho : onC L m j) : onC L j m := by
  obtain ⟨k, rfl⟩ := ho
  refine ⟨per L m * k - k, ?_⟩
  rw [← it_add]
  have : k ≤ per L m * k := Nat.le_mul_of_pos_left k (per_spec h hm).1
  rw [Nat.sub_add_cancel this, it_mul h hm]
theorem onC_trans {L : List Int} {a b c : Nat} (h1 : onC L a b) (h2 : onC L b c) : onC L a c := by
  obtain ⟨k, rfl⟩ := h1
  obtain ⟨l, rfl⟩ := h2
  exact ⟨l + k, it_add L l k a⟩
theorem onC_step {L : List Int} {a b : Nat} (k : Nat) (h : onC L a (it L k b)) (hb : onC L (it L k b) b) : onC L a b := onC_trans h hb

/-- Is j on a chain of one of the first i? -/
def seenB (L : List Int) (i j : Nat) : Bool := (List.range i).any fun m => (List.range L.length).any fun k => it L k m == j
theorem seenB_iff {L : List Int} (h : IsPm L) {i j : Nat} (hi : i ≤ L.length) : seenB L i j = true ↔ ∃ m, m < i ∧ onC L m j := by
  unfold seenB
  simp only [List.any_eq_true, List.mem_range, beq_iff_eq]
  constructor
  · rintro ⟨m, hm, k, _, hk⟩
    exact ⟨m, hm, k, hk⟩
  · rintro ⟨m, hm, ho⟩
    obtain ⟨k, hk, he⟩ := (onC_lt h (by omega)).1 ho
    exact ⟨m, hm, k, by have := (per_spec h (show m < L.length by omega)).2.1; omega, he⟩
/-- The first k of a chain, as numbers. -/
def chT (L : List Int) (i k : Nat) : List Int := (List.range k).map fun a => ((it L a i : Nat) : Int)
theorem chT_len (L : List Int) (i k : Nat) : (chT L i k).length = k := by simp [chT]
theorem chT_succ (L : List Int) (i k : Nat) : chT L i (k + 1) = chT L i k ++ [((it L k i : Nat) : Int)] := by simp [chT, List.range_succ]
/-- The whole chain. -/
def chn (L : List Int) (i : Nat) : List Int := chT L i (per L i)
/-- The chains that begin with one of the first i. -/
def chsTo (L : List Int) : Nat → List (List Int)
  | 0 => []
  | i + 1 => if seenB L i i then chsTo L i else chsTo L i ++ [chn L i]
theorem chsTo_len (L : List Int) (i : Nat) : (chsTo L i).length ≤ i := by
  induction i with
  | zero => simp [chsTo]
  | succ i ih =>
    simp only [chsTo]
    split
    · omega
    · rw [List.length_append, List.length_singleton]; omega
def chs (L : List Int) : List (List Int) := chsTo L L.length
/-- Marked: all on chains of the first i, and the first k on the chain of i. -/
def seenK (L : List Int) (i k n : Nat) : List Bool := (List.range n).map fun j => seenB L i j || (List.range k).any fun a => it L a i == j
theorem seenK_len (L : List Int) (i k n : Nat) : (seenK L i k n).length = n := by simp [seenK]
theorem seenK_get (L : List Int) (i k n : Nat) {j : Nat} (hj : j < n) : (seenK L i k n)[j]? = some (seenB L i j || (List.range k).any fun a => it L a i == j) := by simp [seenK, hj]
theorem seenK_set (L : List Int) (i k n : Nat) (h : it L k i < n) : (seenK L i k n).set (it L k i) true = seenK L i (k + 1) n := by
  apply List.ext_getElem?
  intro j
  rw [List.getElem?_set]
  by_cases hj : j < n
  · rw [seenK_get _ _ _ _ hj, seenK_get _ _ _ _ hj, seenK_len, List.range_succ, List.any_append]
    by_cases e : it L k i = j
    · subst e; simp [h]
    · have e' : (it L k i == j) = false := by simpa using e
      simp [e, e']
  · by_cases e : it L k i = j
    · omega
    · simp [seenK, hj, e]
theorem seenK_zero (L : List Int) (i n : Nat) : seenK L i 0 n = (List.range n).map fun j => seenB L i j := by simp [seenK]
theorem seenK_all {L : List Int} (h : IsPm L) {i n : Nat} (hi : i < L.length) : seenK L i (per L i) n = seenK L (i + 1) 0 n := by
  rw [seenK_zero]
  unfold seenK
  refine List.map_congr_left fun j _ => ?_
  rw [Bool.eq_iff_iff, Bool.or_eq_true, seenB_iff h (by omega), seenB_iff h (by omega)]
  simp only [List.any_eq_true, List.mem_range, beq_iff_eq]
  rw [← onC_lt h hi]
  constructor
  · rintro (⟨m, h1, h2⟩ | h1)
    · exact ⟨m, by omega, h2⟩
    · exact ⟨i, by omega, h1⟩
  · rintro ⟨m, h1, h2⟩
    by_cases e : m = i
    · exact .inr (e ▸ h2)
    · exact .inl ⟨m, by omega, h2⟩
theorem seenK_skip {L : List Int} (h : IsPm L) {i n : Nat} (hi : i < L.length) (hs : seenB L i i = true) : seenK L i 0 n = seenK L (i + 1) 0 n := by
  rw [seenK_zero, seenK_zero]
  refine List.map_congr_left fun j _ => ?_
  rw [Bool.eq_iff_iff, seenB_iff h (by omega), seenB_iff h (by omega)]
  obtain ⟨m, h1, h2⟩ := (seenB_iff h (by omega)).1 hs
  constructor
  · rintro ⟨m, h1, h2⟩
    exact ⟨m, by omega, h2⟩
  · rintro ⟨q, h3, h4⟩
    by_cases e : q = i
    · exact ⟨m, h1, onC_trans h2 (e ▸ h4)⟩
    · exact ⟨q, by omega, h4⟩
/-- On the way along a chain that is new nothing is marked, up to its end. -/
theorem seenK_not {L : List Int} (h : IsPm L) {i n k : Nat} (hi : i < L.length) (hs : seenB L i i = false) (hk : k < per L i) (hn : L.length ≤ n) : (seenK L i k n)[it L k i]? = some false := by
  have hlt := it_lt h hi k
  rw [seenK_get _ _ _ _ (by omega)]
  congr 1
  rw [Bool.or_eq_false_iff]
  constructor
  · rw [Bool.eq_false_iff]
    intro hh
    obtain ⟨m, h1, h2⟩ := (seenB_iff h (by omega)).1 hh
    have : seenB L i i = true := (seenB_iff h (by omega)).2 ⟨m, h1, onC_trans h2 (onC_symm h hi ⟨k, rfl⟩)⟩
    rw [hs] at this; cases this
  · rw [Bool.eq_false_iff]
    intro hh
    simp only [List.any_eq_true, List.mem_range, beq_iff_eq] at hh
    obtain ⟨a, h1, h2⟩ := hh
    exact per_dist h hi h1 hk h2
theorem seenK_end {L : List Int} (h : IsPm L) {i n : Nat} (hi : i < L.length) (hn : L.length ≤ n) : (seenK L i (per L i) n)[it L (per L i) i]? = some true := by
  have hp := per_spec h hi
  have hlt := it_lt h hi (per L i)
  rw [seenK_get _ _ _ _ (by omega)]
  congr 1
  rw [Bool.or_eq_true]
  right
  simp only [List.any_eq_true, List.mem_range, beq_iff_eq]
  exact ⟨0, hp.1, by rw [hp.2.2.1]; rfl⟩
end Go.Am
