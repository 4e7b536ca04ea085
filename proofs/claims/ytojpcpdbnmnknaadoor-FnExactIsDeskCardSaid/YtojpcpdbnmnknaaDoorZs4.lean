/- The abstract machine, contracts: part 4 of what this claim needs. -/
import Derived.Test.YtojpcpdbnmnknaaDoorZs3
namespace Go.Am
/-- The sum of a function over the first numbers. -/
def sumN : Nat → (Nat → Nat) → Nat
  | 0, _ => 0
  | k + 1, f => sumN k f + f k
theorem sumN_congr {f g : Nat → Nat} : ∀ {n : Nat}, (∀ c, c < n → f c = g c) → sumN n f = sumN n g
  | 0, _ => rfl
  | n + 1, h => by rw [sumN, sumN, sumN_congr fun c hc => h c (by omega), h n (by omega)]
theorem sumN_add (f g : Nat → Nat) : ∀ n : Nat, sumN n (fun c => f c + g c) = sumN n f + sumN n g
  | 0 => rfl
  | n + 1 => by simp only [sumN]; rw [sumN_add f g n]; omega
theorem sumN_zero : ∀ n : Nat, sumN n (fun _ => 0) = 0
  | 0 => rfl
  | n + 1 => by simp only [sumN]; rw [sumN_zero n]
theorem sumN_comm (h : Nat → Nat → Nat) (m : Nat) : ∀ n : Nat, sumN n (fun a => sumN m (fun b => h a b)) = sumN m (fun b => sumN n (fun a => h a b))
  | 0 => by simp only [sumN]; rw [sumN_zero]
  | n + 1 => by simp only [sumN]; rw [sumN_comm h m n, ← sumN_add]
theorem sumN_le {f g : Nat → Nat} : ∀ {n : Nat}, (∀ c, c < n → f c ≤ g c) → sumN n f ≤ sumN n g
  | 0, _ => Nat.le_refl _
  | n + 1, h => Nat.add_le_add (sumN_le fun c hc => h c (by omega)) (h n (by omega))
theorem sumN_const (c : Nat) : ∀ n : Nat, sumN n (fun _ => c) = n * c
  | 0 => by simp [sumN]
  | n + 1 => by simp only [sumN]; rw [sumN_const c n, Nat.succ_mul]
/-- A column more. -/
def insC (T c : Nat) : Nat := T ||| 1 <<< c
theorem insC_bit (T c k : Nat) : (insC T c).testBit k = (T.testBit k || decide (c = k)) := by
  unfold insC
  rw [Nat.testBit_or, Nat.one_shiftLeft, Nat.testBit_two_pow]
theorem insC_comm (T c d : Nat) : insC (insC T c) d = insC (insC T d) c := by
  apply Nat.eq_of_testBit_eq
  intro k
  simp only [insC_bit, Bool.or_assoc]
  congr 1
  rw [Bool.or_comm]
theorem insC_lt {T c n : Nat} (hT : T < 2 ^ n) (hc : c < n) : insC T c < 2 ^ n := by
  unfold insC
  refine Nat.or_lt_two_pow hT ?_
  rw [Nat.one_shiftLeft]
  exact Nat.pow_lt_pow_right (by omega) hc
/-- What a row's term for one column adds. -/
def addC (row : Nat → Bool) (g : Nat → Nat) (T c : Nat) : Nat := if row c && !T.testBit c then g (insC T c) else 0
/-- What a row makes of a test of sets, by its first columns: no rook, or a rook in one of them. -/
def stepR (n : Nat) (row : Nat → Bool) (g : Nat → Nat) (T : Nat) : Nat := g T + sumN n (addC row g T)
theorem stepR_comm (n : Nat) (r s : Nat → Bool) (g : Nat → Nat) (T : Nat) : stepR n r (stepR n s g) T = stepR n s (stepR n r g) T := by
  have key : ∀ r s : Nat → Bool, stepR n r (stepR n s g) T = g T + sumN n (addC s g T) + sumN n (addC r g T) + sumN n (fun c => sumN n (fun d => if (r c && !T.testBit c) && (s d && !(insC T c).testBit d) then g (insC (insC T c) d) else 0)) := by
    intro r s
    have : ∀ c, addC r (stepR n s g) T c = addC r g T c + sumN n (fun d => if (r c && !T.testBit c) && (s d && !(insC T c).testBit d) then g (insC (insC T c) d) else 0) := by
      intro c
      unfold addC stepR
      cases hb : (r c && !T.testBit c)
      · simp [sumN_zero]
      · simp only [if_true, Bool.true_and]
        rfl
    rw [stepR, sumN_congr fun c _ => this c, sumN_add, stepR]
    omega
  rw [key r s, key s r, sumN_comm]
  have : ∀ b, b < n → ∀ a, a < n → (if (r a && !T.testBit a) && (s b && !(insC T a).testBit b) then g (insC (insC T a) b) else 0) = (if (s b && !T.testBit b) && (r a && !(insC T b).testBit a) then g (insC (insC T b) a) else 0) := by
    intro b _ a _
    rw [insC_comm T a b, insC_bit, insC_bit]
    by_cases hab : a = b
    · subst hab; simp
    · have hba : ¬ b = a := fun e => hab e.symm
      simp only [hab, hba, decide_false, Bool.or_false]
      congr 2
      cases r a <;> cases s b <;> cases T.testBit a <;> cases T.testBit b <;> rfl
  have h2 : sumN n (fun b => sumN n (fun a => if (r a && !T.testBit a) && (s b && !(insC T a).testBit b) then g (insC (insC T a) b) else 0)) = sumN n (fun c => sumN n (fun d => if (s c && !T.testBit c) && (r d && !(insC T c).testBit d) then g (insC (insC T c) d) else 0)) :=
    sumN_congr fun b hb => sumN_congr fun a ha => this b hb a ha
  rw [h2]
  omega
theorem stepR_none {n : Nat} {row : Nat → Bool} (h : ∀ c, c < n → row c = false) (g : Nat → Nat) (T : Nat) : stepR n row g T = g T := by
  rw [stepR, sumN_congr (g := fun _ => 0) fun c hc => by simp [addC, h c hc], sumN_zero]
  rfl
/-- Rows, the first one outermost. -/
def rowsR (fb : Nat → Nat → Bool) (n : Nat) : List Nat → (Nat → Nat) → Nat → Nat
  | [], g => g
  | r :: l, g => stepR n (fb r) (rowsR fb n l g)
theorem rowsR_snoc (fb : Nat → Nat → Bool) (n r : Nat) (g : Nat → Nat) : ∀ l : List Nat, rowsR fb n (l ++ [r]) g = rowsR fb n l (stepR n (fb r) g)
  | [] => rfl
  | a :: l => by simp only [List.cons_append, rowsR]; rw [rowsR_snoc fb n r g l]
theorem rowsR_perm {fb : Nat → Nat → Bool} {n : Nat} {l m : List Nat} (h : l.Perm m) (g : Nat → Nat) : rowsR fb n l g = rowsR fb n m g := by
  induction h with
  | nil => rfl
  | cons a _ ih => simp only [rowsR, ih]
  | swap a b l => funext T; exact stepR_comm n (fb b) (fb a) _ T
  | trans _ _ ih1 ih2 => rw [ih1, ih2]
/-- Rows on which nothing is forbidden don't matter. -/
theorem rowsR_filter {fb : Nat → Nat → Bool} {n : Nat} (p : Nat → Bool) : ∀ (l : List Nat), (∀ r ∈ l, p r = false → ∀ c, c < n → fb r c = false) → ∀ g : Nat → Nat, rowsR fb n (l.filter p) g = rowsR fb n l g
  | [], _, _ => rfl
  | r :: l, h, g => by
    have ih := rowsR_filter p l (fun r hr => h r (by simp [hr])) g
    rw [List.filter_cons]
    cases hp : p r
    · simp only [Bool.false_eq_true, if_false, rowsR]
      rw [ih]
      funext T
      exact (stepR_none (h r (by simp) hp) _ T).symm
    · simp only [if_true, rowsR, ih]
/-- All rows that count were taken, each once, in whatever order. -/
theorem rowsR_any {fb : Nat → Nat → Bool} {n : Nat} {l : List Nat} (hn : l.Nodup) (hl : ∀ r ∈ l, r < n) (hall : ∀ r, r < n → r ∉ l → ∀ c, c < n → fb r c = false) (g : Nat → Nat) : rowsR fb n l g = rowsR fb n (List.range n) g := by
  have hp : l.Perm ((List.range n).filter fun r => decide (r ∈ l)) := by
    refine (List.perm_ext_iff_of_nodup hn (List.nodup_range.filter _)).2 fun a => ?_
    simp only [List.mem_filter, List.mem_range, decide_eq_true_eq]
    exact ⟨fun h => ⟨hl a h, h⟩, fun h => h.2⟩
  rw [rowsR_perm hp]
  exact rowsR_filter _ _ (fun r hr hp c hc => hall r (List.mem_range.1 hr) (by simpa using hp) c hc) g
theorem stepR_le {n : Nat} {row : Nat → Bool} {g : Nat → Nat} {b : Nat} (h : ∀ T, g T ≤ b) (T : Nat) : stepR n row g T ≤ (n + 1) * b := by
  have h1 : sumN n (addC row g T) ≤ n * b := by
    rw [← sumN_const]
    refine sumN_le fun c _ => ?_
    unfold addC
    split
    · exact h _
    · omega
  have := h T
  rw [stepR, Nat.succ_mul]
  omega
theorem rowsR_le {fb : Nat → Nat → Bool} {n : Nat} {g : Nat → Nat} {b : Nat} (h : ∀ T, g T ≤ b) : ∀ (l : List Nat) (T : Nat), rowsR fb n l g T ≤ (n + 1) ^ l.length * b
  | [], T => by simpa [rowsR] using h T
  | r :: l, T => by
    have := stepR_le (n := n) (row := fb r) (rowsR_le (fb := fb) (n := n) h l) T
    rw [List.length_cons, Nat.pow_succ, Nat.mul_comm _ (n + 1), Nat.mul_assoc]
    exact this
/-- How many columns a set has. -/
def pop16 (T : Nat) : Nat := sumN 16 fun k => if T.testBit k then 1 else 0
theorem pop_ins {T c : Nat} (hc : c < 16) (h : T.testBit c = false) : pop16 (insC T c) = pop16 T + 1 := by
  have key : ∀ m, sumN m (fun k => if (insC T c).testBit k then 1 else 0) = sumN m (fun k => if T.testBit k then 1 else 0) + (if c < m then 1 else 0) := by
    intro m
    induction m with
    | zero => simp [sumN]
    | succ m ih =>
      simp only [sumN]
      rw [ih, insC_bit]
      by_cases hm : c = m
      · subst hm; simp [h]
      · by_cases h1 : c < m
        · simp [hm, h1, show c < m + 1 by omega]; omega
        · simp [hm, h1, show ¬ c < m + 1 by omega]
  have := key 16
  unfold pop16
  rw [this, if_pos hc]
/-- In how many ways so many rooks can be put in the last rows, with columns taken. -/
def rkG (fb : Nat → Nat → Bool) (n : Nat) : Nat → Nat → Nat → Nat
  | 0, _, k => if k = 0 then 1 else 0
  | m + 1, S, k => rkG fb n m S k + sumN n fun j => if fb (n - (m + 1)) j && !S.testBit j then (match k with | 0 => 0 | q + 1 => rkG fb n m (insC S j) q) else 0
/-- The last rows. -/
def lastR (n : Nat) : Nat → List Nat
  | 0 => []
  | m + 1 => (n - (m + 1)) :: lastR n m
theorem lastR_range (n : Nat) : ∀ m, m ≤ n → lastR n m = List.range' (n - m) m
  | 0, _ => rfl
  | m + 1, h => by rw [lastR, lastR_range n m (by omega), List.range'_succ, show n - (m + 1) + 1 = n - m by omega]
theorem lastR_all (n : Nat) : lastR n n = List.range n := by rw [lastR_range n n (Nat.le_refl _), Nat.sub_self, List.range_eq_range']
def popIs (q T : Nat) : Nat := if pop16 T = q then 1 else 0
theorem rowsR_small {fb : Nat → Nat → Bool} {n q : Nat} (hn : n ≤ 16) : ∀ (l : List Nat) (S : Nat), q < pop16 S → rowsR fb n l (popIs q) S = 0
  | [], S, h => by simp [rowsR, popIs, show pop16 S ≠ q by omega]
  | r :: l, S, h => by
    rw [rowsR, stepR, rowsR_small hn l S h, sumN_congr (g := fun _ => 0) fun c hc => ?_, sumN_zero]
    unfold addC
    split
    · rename_i hb
      simp only [Bool.and_eq_true, Bool.not_eq_true'] at hb
      exact rowsR_small hn l _ (by rw [pop_ins (by omega) hb.2]; omega)
    · rfl
theorem rkG_rows {fb : Nat → Nat → Bool} {n : Nat} (hn : n ≤ 16) : ∀ (m S k : Nat), rkG fb n m S k = rowsR fb n (lastR n m) (popIs (k + pop16 S)) S
  | 0, S, k => by
    simp only [rkG, lastR, rowsR, popIs]
    by_cases h : k = 0
    · simp [h]
    · rw [if_neg h, if_neg (by omega)]
  | m + 1, S, k => by
    rw [rkG, lastR, rowsR, stepR, ← rkG_rows hn m S k]
    congr 1
    refine sumN_congr fun j hj => ?_
    unfold addC
    split
    · rename_i hb
      simp only [Bool.and_eq_true, Bool.not_eq_true'] at hb
      have hp := pop_ins (show j < 16 by omega) hb.2
      cases k with
      | zero => exact (rowsR_small hn _ _ (by rw [hp]; omega)).symm
      | succ q =>
        show rkG fb n m (insC S j) q = _
        rw [rkG_rows hn m (insC S j) q, hp, show q + (pop16 S + 1) = q + 1 + pop16 S by omega]
    · rfl
theorem rkG_big {fb : Nat → Nat → Bool} {n : Nat} : ∀ (m S k : Nat), m < k → rkG fb n m S k = 0
  | 0, S, k, h => by rw [rkG, if_neg (by omega)]
  | m + 1, S, k, h => by
    rw [rkG, rkG_big m S k (by omega), sumN_congr (g := fun _ => 0) fun j _ => ?_, sumN_zero]
    split
    · cases k with
      | zero => rfl
      | succ q => exact rkG_big m _ q (by omega)
    · rfl
theorem rkG_le {fb : Nat → Nat → Bool} {n : Nat} : ∀ (m S k : Nat), rkG fb n m S k ≤ (n + 1) ^ m
  | 0, S, k => by rw [rkG]; split <;> simp
  | m + 1, S, k => by
    have h1 : sumN n (fun j => if fb (n - (m + 1)) j && !S.testBit j then (match k with | 0 => 0 | q + 1 => rkG fb n m (insC S j) q) else 0) ≤ n * (n + 1) ^ m := by
      rw [← sumN_const]
      refine sumN_le fun j _ => ?_
      split
      · cases k with
        | zero => exact Nat.zero_le _
        | succ q => exact rkG_le m _ q
      · omega
    have := rkG_le (fb := fb) (n := n) m S k
    rw [rkG, Nat.pow_succ, Nat.mul_succ, Nat.mul_comm _ n]
    omega
/-- The numbers of rooks of a board. -/
def rkN (fb : Nat → Nat → Bool) (n k : Nat) : Nat := rkG fb n n 0 k
theorem rkN_any {fb : Nat → Nat → Bool} {n : Nat} (h16 : n ≤ 16) {l : List Nat} (hn : l.Nodup) (hl : ∀ r ∈ l, r < n) (hall : ∀ r, r < n → r ∉ l → ∀ c, c < n → fb r c = false) (k : Nat) :
    rowsR fb n l (popIs k) 0 = rkN fb n k := by
  rw [rowsR_any hn hl hall, rkN, rkG_rows h16, lastR_all, show pop16 0 = 0 from by decide]
  rfl

/- Ways asx a map's entries: set, number, stamp. -/
structure RWay where
  t : Nat
  v : Nat
  b : Nat
def RWay.ent (p : RWay) : MapEntry := { key := .int .u16 (p.t : Nat), val := .int .i64 (p.v : Nat), born := p.b }
def sumW (w : List RWay) (g : RWay → Nat) : Nat := (w.map g).sum
theorem sumW_cons (p : RWay) (w : List RWay) (g : RWay → Nat) : sumW (p :: w) g = g p + sumW w g := by simp [sumW]
theorem sumW_snoc (p : RWay) (w : List RWay) (g : RWay → Nat) : sumW (w ++ [p]) g = sumW w g + g p := by simp [sumW]
theorem sumW_congr {w : List RWay} {g h : RWay → Nat} (he : ∀ p ∈ w, g p = h p) : sumW w g = sumW w h := by
  unfold sumW
  rw [List.map_congr_left he]
theorem sumW_add (w : List RWay) (g h : RWay → Nat) : sumW w (fun p => g p + h p) = sumW w g + sumW w h := by
  induction w with
  | nil => rfl
  | cons p w ih => simp only [sumW_cons]; rw [ih]; omega
theorem sumW_le {w : List RWay} {g : RWay → Nat} {p : RWay} (h : p ∈ w) : g p ≤ sumW w g := by
  induction w with
  | nil => simp at h
  | cons q w ih =>
    rw [sumW_cons]
    rcases List.mem_cons.1 h with rfl | h
    · omega
    · have := ih h; omega
theorem sumW_mono {w : List RWay} {g h : RWay → Nat} (he : ∀ p ∈ w, g p ≤ h p) : sumW w g ≤ sumW w h := by
  induction w with
  | nil => exact Nat.le_refl _
  | cons q w ih => rw [sumW_cons, sumW_cons]; exact Nat.add_le_add (he q (by simp)) (ih fun p hp => he p (by simp [hp]))
/-- Ways asx a map can hold them. -/
structure WaysOk (n ck : Nat) (w : List RWay) : Prop where
  keys : (w.map (·.t)).Nodup
  born : (w.map (·.b)).Nodup
  old : ∀ p ∈ w, p.b < ck
  lt : ∀ p ∈ w, p.t < 2 ^ n
/-- The weighed sum of a test of sets. -/
def wE (w : List RWay) (g : Nat → Nat) : Nat := sumW w fun p => p.v * g p.t
/-- A number more at a set. -/
theorem ways_set {n ck : Nat} {w : List RWay} (h : WaysOk n ck w) {k : Nat} {p : RWay} (hk : w[k]? = some p) (m : Nat) :
    WaysOk n ck (w.set k { p with v := p.v + m }) ∧ ∀ g, wE (w.set k { p with v := p.v + m }) g = wE w g + m * g p.t := by
  have hmap : ∀ (f : RWay → Nat), f { p with v := p.v + m } = f p → (w.set k { p with v := p.v + m }).map f = w.map f := by
    intro f hf
    rw [List.map_set, hf]
    apply List.ext_getElem?
    intro j
    rw [List.getElem?_set]
    split
    · rename_i e
      subst e
      rw [List.length_map]
      have hlt : k < w.length := (List.getElem?_eq_some_iff.1 hk).1
      rw [if_pos hlt, List.getElem?_map, hk]
      rfl
    · rfl
  refine ⟨⟨by rw [hmap _ rfl]; exact h.keys, by rw [hmap _ rfl]; exact h.born, fun q hq => ?_, fun q hq => ?_⟩, fun g => ?_⟩
  · rcases List.mem_or_eq_of_mem_set hq with hq | rfl
    · exact h.old q hq
    · exact h.old p (List.mem_of_getElem? hk)
  · rcases List.mem_or_eq_of_mem_set hq with hq | rfl
    · exact h.lt q hq
    · exact h.lt p (List.mem_of_getElem? hk)
  · have key : ∀ (w : List RWay) (k : Nat), w[k]? = some p → wE (w.set k { p with v := p.v + m }) g = wE w g + m * g p.t := by
      intro w
      induction w with
      | nil => intro k hk; simp at hk
      | cons q w ih =>
        intro k hk
        cases k with
        | zero =>
          simp at hk
          subst hk
          simp only [List.set_cons_zero, wE, sumW_cons]
          rw [Nat.add_mul]; omega
        | succ k =>
          have := ih k (by simpa using hk)
          simp only [List.set_cons_succ, wE, sumW_cons] at this ⊢
          omega
    exact key w k hk
theorem ways_push {n ck : Nat} {w : List RWay} (h : WaysOk n ck w) {T : Nat} (hT : T < 2 ^ n) (hno : ∀ p ∈ w, p.t ≠ T) (m : Nat) :
    WaysOk n (ck + 1) (w ++ [⟨T, m, ck⟩]) ∧ ∀ g, wE (w ++ [⟨T, m, ck⟩]) g = wE w g + m * g T := by
  refine ⟨⟨?_, ?_, fun q hq => ?_, fun q hq => ?_⟩, fun g => by simp only [wE, sumW_snoc]⟩
  · rw [List.map_append, List.nodup_append]
    refine ⟨h.keys, by simp, fun a ha b hb => ?_⟩
    obtain ⟨p, hp, rfl⟩ := List.mem_map.1 ha
    simp at hb
    rw [hb]
    exact hno p hp
  · rw [List.map_append, List.nodup_append]
    refine ⟨h.born, by simp, fun a ha b hb => ?_⟩
    obtain ⟨p, hp, rfl⟩ := List.mem_map.1 ha
    simp at hb
    have := h.old p hp
    omega
  · rcases List.mem_append.1 hq with hq | hq
    · have := h.old q hq; omega
    · simp at hq; subst hq; show ck < ck + 1; omega
  · rcases List.mem_append.1 hq with hq | hq
    · exact h.lt q hq
    · simp at hq; subst hq; exact hT
/-- One entry more is seen. -/
theorem sumW_seen {w : List RWay} (hn : (w.map (·.b)).Nodup) {seen : Array Nat} {p : RWay} (hp : p ∈ w) (hs : seen.contains p.b = false) (g : RWay → Nat) :
    sumW w (fun q => if (seen.push p.b).contains q.b then g q else 0) = sumW w (fun q => if seen.contains q.b then g q else 0) + g p := by
  have hpush : ∀ b, (seen.push p.b).contains b = (seen.contains b || decide (b = p.b)) := by
    intro b
    by_cases e : b = p.b
    · subst e; simp
    · simp [e]
  induction w with
  | nil => simp at hp
  | cons q w ih =>
    simp only [List.map_cons, List.nodup_cons] at hn
    simp only [sumW_cons]
    rcases List.mem_cons.1 hp with rfl | hp
    · have h1 : sumW w (fun r => if (seen.push p.b).contains r.b then g r else 0) = sumW w (fun r => if seen.contains r.b then g r else 0) := by
        refine sumW_congr fun r hr => ?_
        have : r.b ≠ p.b := fun e => hn.1 (List.mem_map.2 ⟨r, hr, e⟩)
        rw [hpush]
        simp [this]
      rw [h1, hpush, hs]
      simp
      omega
    · have hne : q.b ≠ p.b := fun e => hn.1 (List.mem_map.2 ⟨p, hp, e.symm⟩)
      rw [ih hn.2 hp, hpush]
      simp only [hne, decide_false, Bool.or_false]
      omega
theorem sumW_none (w : List RWay) (g : RWay → Nat) : sumW w (fun q => if (#[] : Array Nat).contains q.b then g q else 0) = 0 := by
  induction w with
  | nil => rfl
  | cons q w ih => rw [sumW_cons, ih]; simp
/-- How many entries are still to come. -/
def leftW (w : List RWay) (seen : Array Nat) : Nat := (w.filter fun q => !seen.contains q.b).length
theorem leftW_lt {w : List RWay} {seen : Array Nat} {p : RWay} (hp : p ∈ w) (hs : seen.contains p.b = false) : leftW w (seen.push p.b) < leftW w seen := by
  have hpush : ∀ b, (seen.push p.b).contains b = (seen.contains b || decide (b = p.b)) := by
    intro b
    by_cases e : b = p.b
    · subst e; simp
    · simp [e]
  unfold leftW
  have hsub : ∀ w : List RWay, (w.filter fun q => !(seen.push p.b).contains q.b) = (w.filter fun q => !seen.contains q.b).filter fun q => !decide (q.b = p.b) := by
    intro w
    rw [List.filter_filter]
    refine List.filter_congr fun q _ => ?_
    rw [hpush, Bool.not_or, Bool.and_comm]
  rw [hsub]
  have hm : p ∈ w.filter fun q => !seen.contains q.b := List.mem_filter.2 ⟨hp, by rw [hs]; rfl⟩
  refine List.length_filter_lt_length_iff_exists.2 ⟨p, hm, by simp⟩
end Go.Am
namespace Go.Am
variable {P : Program} {own : Bool} {s : AS} {K : AS → Prop} {d : Option Nat} {x i y : Opd}
/-- The entries of ways. -/
def wA (w : List RWay) : Array MapEntry := (w.map RWay.ent).toArray
abbrev wObj (w : List RWay) (ck : Nat) : Bool × List AV := (true, [.ob (.map (wA w) ck)])
theorem wA_mem {w : List RWay} {e : MapEntry} : e ∈ (wA w).toList ↔ ∃ p ∈ w, p.ent = e := by simp [wA]
theorem wA_get {w : List RWay} {n : Nat} {e : MapEntry} (h : (wA w).toList[n]? = some e) : ∃ p, w[n]? = some p ∧ p.ent = e := by
  simp only [wA, List.getElem?_map, Option.map_eq_some_iff] at h
  exact h
theorem wA_keys (w : List RWay) : ∀ e ∈ (wA w).toList, ∃ q, e.key = .int .u16 q := fun e he => by
  obtain ⟨p, _, rfl⟩ := wA_mem.1 he
  exact ⟨p.t, rfl⟩
theorem ent_key {p : RWay} {T : Nat} (h : p.ent.key = .int .u16 (T : Nat)) : p.t = T := by
  simp only [RWay.ent, Value.int.injEq, true_and] at h
  exact_mod_cast h
theorem wA_born {w : List RWay} (h : (w.map (·.b)).Nodup) : ((wA w).toList.map (·.born)).Nodup := by
  have : (wA w).toList.map (·.born) = w.map (·.b) := by simp [wA, Function.comp_def, RWay.ent]
  rw [this]; exact h
/-- What a map of ways has at a set. -/
def wv (w : List RWay) (T : Nat) : Nat := ((w.find? fun p => p.t == T).map (·.v)).getD 0
theorem wv_mem {w : List RWay} (hk : (w.map (·.t)).Nodup) {p : RWay} (hp : p ∈ w) : wv w p.t = p.v := by
  unfold wv
  induction w with
  | nil => simp at hp
  | cons q w ih =>
    simp only [List.map_cons, List.nodup_cons] at hk
    by_cases e : q.t = p.t
    · have : q = p := by
        rcases List.mem_cons.1 hp with rfl | hp
        · rfl
        · exact absurd (List.mem_map.2 ⟨p, hp, e.symm⟩) hk.1
      simp [this]
    · rcases List.mem_cons.1 hp with rfl | hp
      · exact absurd rfl e
      · rw [List.find?_cons, show (q.t == p.t) = false by simpa using e]
        exact ih hk.2 hp
theorem wv_none {w : List RWay} {T : Nat} (h : ∀ p ∈ w, p.t ≠ T) : wv w T = 0 := by
  unfold wv
  rw [List.find?_eq_none.2 fun p hp => by simpa using h p hp]
  rfl
/-- A map of ways is asked. -/
theorem m_wget {r n ck T : Nat} {w : List RWay} (hw : WaysOk n ck w) (hx : s.ev x = .mp r) (hr : s.hp r = some (wObj w ck)) (hi : s.ev i = .u T) (k : K (s.put d (.i (wv w T : Nat)))) : aop1 P own ⟨d, .mget .u16 (.int .i64 0) false x i, none⟩ s K := by
  refine m_mget hx hr hi (wA_keys w) (fun e he hk => ?_) fun hno => ?_
  · obtain ⟨p, hp, rfl⟩ := wA_mem.1 he
    have := ent_key hk
    rw [← this, wv_mem hw.keys hp] at k
    exact k
  · rw [wv_none fun p hp e => hno p.ent (wA_mem.2 ⟨p, hp, rfl⟩) (by rw [← e]; rfl)] at k
    exact k
/-- A number more at a set. -/
theorem m_wput {r n ck T m : Nat} {w : List RWay} (hw : WaysOk n ck w) (hT : T < 2 ^ n) (hx : s.ev x = .mp r) (hr : s.hp r = some (wObj w ck)) (hi : s.ev i = .u T) (hy : s.ev y = .i (wv w T + m : Nat))
    (k : ∀ w' ck', WaysOk n ck' w' → (∀ g, wE w' g = wE w g + m * g T) → K (s.mem r (wObj w' ck'))) : aop1 P own ⟨none, .mput .u16 x i y, none⟩ s K := by
  refine m_mput hx hr hi hy (wA_keys w) (fun j e he hk => ?_) fun hno => ?_
  · obtain ⟨p, hp, rfl⟩ := wA_get he
    have ht := ent_key hk
    obtain ⟨h1, h2⟩ := ways_set hw hp m
    have h3 := k _ _ h1 (fun g => by rw [h2 g, ht])
    have h4 : (wA w).modify j (fun e => { e with key := .int .u16 (T : Nat), val := .int .i64 ((wv w T + m : Nat) : Int) }) = wA (w.set j { p with v := p.v + m }) := by
      apply Array.ext'
      simp only [wA, List.map_set]
      rw [Array.toList_modify]
      apply List.ext_getElem?
      intro q
      rw [List.getElem?_modify, List.getElem?_set]
      by_cases e : j = q
      · subst e
        have hlt : j < w.length := (List.getElem?_eq_some_iff.1 hp).1
        simp only [if_true, List.getElem?_map, hp, Option.map_some, List.length_map, hlt]
        rw [← ht, wv_mem hw.keys (List.mem_of_getElem? hp)]
        rfl
      · simp [e]
    rw [h4]
    exact h3
  · have hno' : ∀ p ∈ w, p.t ≠ T := fun p hp e => hno p.ent (wA_mem.2 ⟨p, hp, rfl⟩) (by rw [← e]; rfl)
    obtain ⟨h1, h2⟩ := ways_push hw hT hno' m
    have h3 := k _ _ h1 h2
    have h4 : (wA w).push { key := .int .u16 (T : Nat), val := .int .i64 ((wv w T + m : Nat) : Int), born := ck } = wA (w ++ [⟨T, m, ck⟩]) := by
      rw [wv_none hno', Nat.zero_add]
      simp [wA, RWay.ent]
    rw [h4]
    exact h3
/-- The first entry. -/
theorem ways_one (n : Nat) : WaysOk n 1 [⟨0, 1, 0⟩] := ⟨by simp, by simp, by simp, by intro p hp; simp at hp; subst hp; exact Nat.pos_of_ne_zero (by simp)⟩

/- Places that are left, with their stamps. -/
def plE (p : (Nat × Nat) × Nat) : MapEntry := entP p.1 p.2
def plArr (l : List ((Nat × Nat) × Nat)) : Array MapEntry := (l.map plE).toArray
theorem mkEsL_zip : ∀ (l : List (Nat × Nat)) (c : Nat), mkEsL c l = (l.zipIdx c).map plE
  | [], _ => rfl
  | p :: l, c => by rw [mkEsL, mkEsL_zip l (c + 1)]; rfl
theorem mkEs_pl (l : List (Nat × Nat)) : mkEs l = plArr l.zipIdx := by unfold mkEs plArr; rw [mkEsL_zip]
theorem plArr_mem {l : List ((Nat × Nat) × Nat)} {e : MapEntry} : e ∈ (plArr l).toList ↔ ∃ p ∈ l, plE p = e := by simp [plArr]
end Go.Am
namespace Go.Am
/-- The bits of a byte, counted. -/
def popB : ByteArray := ⟨#[0, 1, 1, 2, 1, 2, 2, 3, 1, 2, 2, 3, 2, 3, 3, 4, 1, 2, 2, 3, 2, 3, 3, 4, 2, 3, 3, 4, 3, 4, 4, 5, 1, 2, 2, 3, 2, 3, 3, 4, 2, 3, 3, 4, 3, 4, 4, 5, 2, 3, 3, 4, 3, 4, 4, 5, 3, 4, 4, 5, 4, 5, 5, 6, 1, 2, 2, 3, 2, 3, 3, 4, 2, 3, 3, 4, 3, 4, 4, 5, 2, 3, 3, 4, 3, 4, 4, 5, 3, 4, 4, 5, 4, 5, 5, 6, 2, 3, 3, 4, 3, 4, 4, 5, 3, 4, 4, 5, 4, 5, 5, 6, 3, 4, 4, 5, 4, 5, 5, 6, 4, 5, 5, 6, 5, 6, 6, 7, 1, 2, 2, 3, 2, 3, 3, 4, 2, 3, 3, 4, 3, 4, 4, 5, 2, 3, 3, 4, 3, 4, 4, 5, 3, 4, 4, 5, 4, 5, 5, 6, 2, 3, 3, 4, 3, 4, 4, 5, 3, 4, 4, 5, 4, 5, 5, 6, 3, 4, 4, 5, 4, 5, 5, 6, 4, 5, 5, 6, 5, 6, 6, 7, 2, 3, 3, 4, 3, 4, 4, 5, 3, 4, 4, 5, 4, 5, 5, 6, 3, 4, 4, 5, 4, 5, 5, 6, 4, 5, 5, 6, 5, 6, 6, 7, 3, 4, 4, 5, 4, 5, 5, 6, 4, 5, 5, 6, 5, 6, 6, 7, 4, 5, 5, 6, 5, 6, 6, 7, 5, 6, 6, 7, 6, 7, 7, 8]⟩
theorem popP_get : ∀ S < 512, (popB.data.toList.getD (S >>> 8) 0).toNat + (popB.data.toList.getD (S &&& 255) 0).toNat = pop16 S := by decide +kernel
theorem popB_at {j : Nat} (h : j < popB.size) : (popB[j]'h).toNat = (popB.data.toList.getD j 0).toNat := by
  have h2 : j < popB.data.toList.length := h
  rw [List.getD_eq_getElem?_getD, List.getElem?_eq_getElem h2]
  rfl
theorem popB_size : popB.size = 256 := by decide +kernel
theorem popB_le : ∀ j < 256, (popB.data.toList.getD j 0).toNat ≤ 8 := by decide +kernel
section
variable {P : Program} {own : Bool} {s : AS} {K : AS → Prop} {d : Option Nat} {x y : Opd}
theorem m_sixu {b : ByteArray} {j : Nat} {q : IntKind} (hx : s.ev x = .v (.string b)) (hj : s.ev y = .v (.int q (j : Nat))) (h : j < b.size) (k : K (s.put d (.v (.int .u8 (b[j]'h).toNat)))) : aop1 P own ⟨d, .pu .six [x, y], none⟩ s K :=
  ⟨_, ⟨b, q, j, by simp [hx, hj], by omega, by simpa using h, by simp⟩, k⟩
theorem m_addk {q : IntKind} {a b c : Int} (hx : s.ev x = .v (.int q a)) (hy : s.ev y = .v (.int q b)) (hc : q.wrap (a + b) = c) (k : K (s.put d (.v (.int q c)))) : aop1 P own ⟨d, .bin .add x y, none⟩ s K := ⟨_, _, .int q c, hx, hy, by simp [pbin, hc], k⟩
theorem m_shr8 {a : Nat} (hx : s.ev x = .u a) (hy : s.ev y = .v (.int .u64 8)) (kk : K (s.put d (.u (a >>> 8)))) : aop1 P own ⟨d, .bin .shr x y, none⟩ s K := by
  refine ⟨_, _, _, hx, hy, ?_, kk⟩
  show (if (8 : Int) < 0 then none else some (Value.int .u16 ((a : Int).fdiv (2 ^ (min (8 : Int).toNat IntKind.u16.bits))))) = _
  rw [if_neg (by decide), show min (8 : Int).toNat IntKind.u16.bits = 8 from rfl, Nat.shiftRight_eq_div_pow]
  congr 2
  rw [Int.fdiv_eq_ediv_of_nonneg _ (by decide), show (2 : Int) ^ 8 = 256 from rfl, show (2 : Nat) ^ 8 = 256 from rfl]
  omega
theorem m_cvtk {q k : IntKind} {n c : Int} (hx : s.ev x = .v (.int q n)) (hc : k.wrap n = c) (kk : K (s.put d (.v (.int k c)))) : aop1 P own ⟨d, .pu (.cvt k) [x], none⟩ s K := ⟨_, ⟨q, n, by simp [hx], by rw [hc]⟩, kk⟩
end
/- The places that are left. -/
/-- Those of all that D tells. -/
def lfA (fb : Nat → Nat → Bool) (n : Nat) (D : Nat × Nat → Bool) : List ((Nat × Nat) × Nat) := (posP fb n n).zipIdx.filter fun q => D q.1
abbrev lfObj (fb : Nat → Nat → Bool) (n : Nat) (D : Nat × Nat → Bool) : Bool × List AV := (true, [.ob (.map (plArr (lfA fb n D)) (posP fb n n).length)])
theorem lfA_mem {fb : Nat → Nat → Bool} {n : Nat} {D : Nat × Nat → Bool} {q : (Nat × Nat) × Nat} (h : q ∈ lfA fb n D) : (q.1.1 < n ∧ q.1.2 < n ∧ fb q.1.1 q.1.2 = true) ∧ D q.1 = true ∧ q.2 < (posP fb n n).length := by
  obtain ⟨h1, h2⟩ := List.mem_filter.1 h
  have h3 := List.mem_zipIdx h1
  refine ⟨mem_posP.1 ?_, h2, by omega⟩
  rw [h3.2.2]
  exact List.getElem_mem _
theorem lfA_has {fb : Nat → Nat → Bool} {n : Nat} {D : Nat × Nat → Bool} {p : Nat × Nat} (h : p.1 < n ∧ p.2 < n ∧ fb p.1 p.2 = true) (hD : D p = true) : ∃ q ∈ lfA fb n D, q.1 = p := by
  obtain ⟨k, hk, e⟩ := List.mem_iff_getElem.1 (mem_posP.2 h : p ∈ posP fb n n)
  exact ⟨(p, k), List.mem_filter.2 ⟨by rw [List.mem_zipIdx_iff_getElem?]; simp [hk, e], hD⟩, rfl⟩
theorem lfA_all (fb : Nat → Nat → Bool) (n : Nat) : plArr (lfA fb n fun _ => true) = mkEs (posP fb n n) := by
  rw [mkEs_pl, lfA, List.filter_eq_self.2 fun _ _ => rfl]
theorem lfA_congr {fb : Nat → Nat → Bool} {n : Nat} {D E : Nat × Nat → Bool} (h : ∀ p : Nat × Nat, p.1 < n → p.2 < n → fb p.1 p.2 = true → D p = E p) : lfA fb n D = lfA fb n E := by
  refine List.filter_congr fun q hq => ?_
  have h3 := List.mem_zipIdx hq
  have : q.1 ∈ posP fb n n := by rw [h3.2.2]; exact List.getElem_mem _
  obtain ⟨h4, h5, h6⟩ := mem_posP.1 this
  exact h _ h4 h5 h6
theorem posP_nodup (fb : Nat → Nat → Bool) (n : Nat) : ∀ k, (posP fb n k).Nodup
  | 0 => by simp [posP]
  | k + 1 => by
    rw [posP, List.nodup_append]
    refine ⟨posP_nodup fb n k, ?_, fun a ha b hb e => ?_⟩
    · unfold rowP
      refine List.pairwise_map.2 (List.Pairwise.imp ?_ (List.nodup_range.filter fun j => fb k j))
      intro a b h e
      exact h (by simpa using e)
    · have h1 := mem_posP.1 ha
      have h2 := mem_rowP.1 hb
      rw [e] at h1
      omega
theorem lfA_nodup (fb : Nat → Nat → Bool) (n : Nat) (D : Nat × Nat → Bool) : ((lfA fb n D).map (·.1)).Nodup := by
  refine List.Nodup.sublist (List.filter_sublist.map _) (l₂ := (posP fb n n).zipIdx.map (·.1)) ?_
  rw [List.zipIdx_map_fst]
  exact posP_nodup fb n n
theorem lfA_born (fb : Nat → Nat → Bool) (n : Nat) (D : Nat × Nat → Bool) : ((plArr (lfA fb n D)).toList.map (·.born)).Nodup := by
  have e : (plArr (lfA fb n D)).toList.map (·.born) = (lfA fb n D).map (·.2) := by simp [plArr, Function.comp_def, plE, entP]
  rw [e]
  refine List.Nodup.sublist (List.filter_sublist.map _) (l₂ := (posP fb n n).zipIdx.map (·.2)) ?_
  rw [List.zipIdx_map_snd]
  exact List.nodup_range'
theorem erase_filter {L : List ((Nat × Nat) × Nat)} (h : (L.map (·.1)).Nodup) {j : Nat} {q : (Nat × Nat) × Nat} (hj : L[j]? = some q) : L.eraseIdx j = L.filter fun r => !decide (r.1 = q.1) := by
  induction L generalizing j with
  | nil => simp at hj
  | cons a L ih =>
    simp only [List.map_cons, List.nodup_cons] at h
    cases j with
    | zero =>
      simp at hj
      subst hj
      rw [List.eraseIdx_zero, List.tail_cons, List.filter_cons, if_neg (by simp), List.filter_eq_self.2]
      intro r hr
      have : r.1 ≠ a.1 := fun e => h.1 (List.mem_map.2 ⟨r, hr, e⟩)
      simpa using this
    | succ j =>
      have hq : L[j]? = some q := by simpa using hj
      have : a.1 ≠ q.1 := fun e => h.1 (List.mem_map.2 ⟨q, List.mem_of_getElem? hq, e.symm⟩)
      rw [List.eraseIdx_cons_succ, ih h.2 hq, List.filter_cons, if_pos (by simpa using this)]
theorem lfA_erase {fb : Nat → Nat → Bool} {n : Nat} {D : Nat × Nat → Bool} {j : Nat} {q : (Nat × Nat) × Nat} (hj : (lfA fb n D)[j]? = some q) :
    (plArr (lfA fb n D)).eraseIdxIfInBounds j = plArr (lfA fb n fun p => D p && !decide (p = q.1)) := by
  have hlt : j < (plArr (lfA fb n D)).size := by simpa [plArr] using (List.getElem?_eq_some_iff.1 hj).1
  rw [Array.eraseIdxIfInBounds, dif_pos hlt]
  apply Array.ext'
  rw [Array.toList_eraseIdx]
  simp only [plArr]
  rw [show (List.map plE (lfA fb n D)).eraseIdx j = ((lfA fb n D).eraseIdx j).map plE from by simp [List.eraseIdx_eq_take_drop_succ], erase_filter (lfA_nodup fb n D) hj, lfA, List.filter_filter]
  congr 1
  unfold lfA
  refine List.filter_congr fun r _ => ?_
  rw [Bool.and_comm]
theorem plArr_get {l : List ((Nat × Nat) × Nat)} {n : Nat} {e : MapEntry} (h : (plArr l).toList[n]? = some e) : ∃ p, l[n]? = some p ∧ plE p = e := by
  simp only [plArr, List.getElem?_map, Option.map_eq_some_iff] at h
  exact h
theorem plE_key {q : (Nat × Nat) × Nat} {a b : Nat} (h : (plE q).key = keyP a b) : q.1 = (a, b) := by
  obtain ⟨h1, h2⟩ := keyP_inj (h : keyP q.1.1 q.1.2 = keyP a b)
  exact Prod.ext (Int.ofNat_inj.1 h1) (Int.ofNat_inj.1 h2)
end Go.Am
namespace Go.Proofs.YtojpcpdbnmnknaaDoor
open Go.Am
attribute [local irreducible] AW Outs Weak Lends Lend Sp aops atree aop1 Then Round InBlock Done
attribute [local irreducible] SpH SpX DoneH DoneX
theorem onesP_spec (S : Nat) (hS2 : S < 512) : Sp Tryd.prog 68 [.u S] (.i (pop16 S : Nat)) := by
  have h1 : S >>> 8 < popB.size := by rw [popB_size, Nat.shiftRight_eq_div_pow]; omega
  have h2 : S &&& 255 < popB.size := by rw [popB_size]; exact Nat.lt_of_le_of_lt Nat.and_le_right (by decide)
  have hg := popP_get S hS2
  have e1 := popB_at h1
  have e2 := popB_at h2
  rw [popB_size] at h1 h2
  have l1 := popB_le _ h1
  have l2 := popB_le _ h2
  rw [← popB_size] at h1 h2
  rw [← e1, ← e2] at hg
  rw [← e1] at l1
  rw [← e2] at l2
  rw [← hg]
  refine spec_of Tryd.func68 rfl cc68 rfl ?_
  unfold ac68
  repeat (first | ((first | refine step_ops ?_ | refine step_tree ?_); (first | (refine m_mov (by conv => lhs; whnf) ?_) | (refine m_add rfl rfl ?_ ?_ ?_; (· omega); (· omega)) | (refine m_adds rfl rfl ?_ ?_; (· first | omega | (simp; omega))) | (refine m_six' rfl rfl ?_ ?_; (· first | omega | (simp; omega))) | (refine m_cvt rfl ?_))) | refine end_ops ?_ | refine seq_ops ?_ | refine AW_ops ?_ | refine end_tree ?_ | refine seq_tree ?_ | refine AW_tree ?_ | refine AW_seq ?_ | refine AW_ret ?_ | refine ret_done ?_ | refine norm_then ?_ | refine ret_then ?_ | refine exit_then ?_)
  refine step_tree ?_
  refine m_shr8 (a := S) rfl rfl ?_
  refine step_tree ?_
  refine m_sixu (b := popB) (j := S >>> 8) (q := .u16) rfl rfl h1 ?_
  repeat (first | ((first | refine step_ops ?_ | refine step_tree ?_); (first | (refine m_mov (by conv => lhs; whnf) ?_) | (refine m_add rfl rfl ?_ ?_ ?_; (· omega); (· omega)) | (refine m_adds rfl rfl ?_ ?_; (· first | omega | (simp; omega))) | (refine m_six' rfl rfl ?_ ?_; (· first | omega | (simp; omega))) | (refine m_cvt rfl ?_))) | refine end_ops ?_ | refine seq_ops ?_ | refine AW_ops ?_ | refine end_tree ?_ | refine seq_tree ?_ | refine AW_tree ?_ | refine AW_seq ?_ | refine AW_ret ?_ | refine ret_done ?_ | refine norm_then ?_ | refine ret_then ?_ | refine exit_then ?_)
  refine step_tree ?_
  refine m_and16 (a := S) (b := 255) rfl rfl (by omega) (by decide) ?_
  refine step_tree ?_
  refine m_sixu (b := popB) (j := S &&& 255) (q := .u16) rfl rfl h2 ?_
  generalize ((popB[S >>> 8]'h1).toNat) = p at *
  generalize ((popB[S &&& 255]'h2).toNat) = q at *
  have w1 : IntKind.u8.wrap ((p : Int) + (q : Int)) = ((p + q : Nat) : Int) := by
    have : IntKind.u8.wrap ((p : Int) + (q : Int)) = ((p : Int) + (q : Int)) % 256 := by simp [IntKind.wrap, IntKind.bits, IntKind.signed]
    omega
  have w2 : IntKind.i64.wrap ((p + q : Nat) : Int) = ((p + q : Nat) : Int) := by rw [IntKind.wrap_i64]; omega
  refine step_tree ?_
  refine m_addk rfl rfl w1 ?_
  refine step_tree ?_
  refine m_cvtk rfl w2 ?_
  repeat (first | ((first | refine step_ops ?_ | refine step_tree ?_); (first | (refine m_mov (by conv => lhs; whnf) ?_) | (refine m_add rfl rfl ?_ ?_ ?_; (· omega); (· omega)) | (refine m_adds rfl rfl ?_ ?_; (· first | omega | (simp; omega))) | (refine m_six' rfl rfl ?_ ?_; (· first | omega | (simp; omega))) | (refine m_cvt rfl ?_))) | refine end_ops ?_ | refine seq_ops ?_ | refine AW_ops ?_ | refine end_tree ?_ | refine seq_tree ?_ | refine AW_tree ?_ | refine AW_seq ?_ | refine AW_ret ?_ | refine ret_done ?_ | refine norm_then ?_ | refine ret_then ?_ | refine exit_then ?_)
  exact outs_i rfl
theorem sizeP_spec (S : Nat) (hS2 : S < 512) : Sp Tryd.prog 54 [.u S] (.i (pop16 S : Nat)) := by
  refine spec_of Tryd.func54 rfl cc54 rfl ?_
  unfold ac54
  repeat (first | (refine step_ops ?_; (refine m_mov (by conv => lhs; whnf) ?_)) | refine end_ops ?_ | refine seq_ops ?_ | refine AW_ops ?_ | refine AW_seq ?_ | refine AW_ret ?_ | refine ret_done ?_ | refine norm_then ?_ | refine ret_then ?_ | refine exit_then ?_)
  (refine step_ops ?_); (apply m_call (onesP_spec S hS2)); (· repeat (first | exact lends_nil | (refine lends_cons ?_ ?_; (· (first | exact lend_v | (refine lend_roM rfl; done) | (refine lend_mat rfl ?_; intro j hj; simp (disch := first | omega | assumption) only [hp_put, hp_mem_ne, hp_kill_ne]; first | exact stM_row rfl hj | (rw [stM_row rfl hj]; rfl)) | (refine lend_ints ?_; first | rfl | omega) | (refine lend_sli (by rfl) ?_; first | rfl | omega | (simp; done)) | (refine lend_pln rfl; done) | (refine lend_plns rfl rfl; done) | (refine lend_txr rfl; done) | (refine lend_txs rfl rfl; done) | exact lend_any | (refine lend_agg ?_; first | rfl | assumption | (simp [plainV]; done)))))))
  repeat (first | (refine step_ops ?_; (refine m_mov (by conv => lhs; whnf) ?_)) | refine end_ops ?_ | refine seq_ops ?_ | refine AW_ops ?_ | refine AW_seq ?_ | refine AW_ret ?_ | refine ret_done ?_ | refine norm_then ?_ | refine ret_then ?_ | refine exit_then ?_)
  exact outs_i rfl
end Go.Proofs.YtojpcpdbnmnknaaDoor
namespace Go.Am
section
variable {P : Program} {N : Nat} {s : AS} {Q : Exit → AS → Prop}
/-- A scope whose rest is shown once, for the first pass too. -/
theorem AW_scopeL {c rest : ACode} {α : Type} (l : Nat) (Inv : α → Prop) (I : α → AS) (m : α → Nat) (hfind : afind c l = some (.seq .skip rest)) (pass : ∀ x, Inv x → AW P N rest (I x) (Jump l Inv I m (some (m x)) Q))
    (first : (∀ x, Inv x → AW P N rest (I x) (Jump l Inv I m none Q)) → AW P N c s (Jump l Inv I m none Q)) : AW P N (.scope c) s Q :=
  AW_scope l Inv I m hfind (first fun x hx => AW_mono (pass x hx) fun e s h => by
    cases e with
    | goto l' =>
      obtain ⟨h1, x', h2, h3, _⟩ := h
      exact ⟨h1, x', h2, h3, fun n hn => by cases hn⟩
    | _ => exact h) fun x hx => AW_seq (AW_skip (norm_then (pass x hx)))
theorem goto_block {id l : Nat} (h : Q (.goto l) s) : InBlock id Q (.goto l) s := h
theorem goto_then {l : Nat} {K : AS → Prop} (h : Q (.goto l) s) : Then K Q (.goto l) s := h
theorem goto_round {α : Type} {Inv : α → Prop} {I : α → AS} {m : α → Nat} {x : α} {l : Nat} (h : Q (.goto l) s) : Round Inv I m x Q (.goto l) s := h
theorem goto_jump {α : Type} {l : Nat} {Inv : α → Prop} {I : α → AS} {m : α → Nat} {bd : Option Nat} (x : α) (h1 : Inv x) (h2 : Weak s (I x)) (h3 : ∀ n, bd = some n → m x < n) : Jump l Inv I m bd Q (.goto l) s := ⟨rfl, x, h1, h2, h3⟩
/-- Forgetting, with other names for a few regions. -/
theorem weak_stN {l : List (Nat × AV)} {h : List (Nat × (Bool × List AV))} (f : Nat → Nat) (ks : List Nat) (hk : h.map (·.1) = ks) (hd : (ks.map f).Nodup) (hb : (ks.all fun k => decide (k < 4000000) && decide (f k < 4000000)) = true) (hl : HasF s f l) (hh : HasJ s f h)
    (hr : refsT (fun r => (look h r).isSome) l = true) (hrh : refsH (fun r => (look h r).isSome) h = true) : Weak s (st l h) := by
  refine weak_stR f hl hh ?_ (fun p hp => ?_) hr hrh
  · rw [← hk, List.map_map] at hd
    exact hd
  · have h1 := List.all_eq_true.1 hb p.1 (by rw [← hk]; exact List.mem_map.2 ⟨p, hp, rfl⟩)
    simp only [Bool.and_eq_true, decide_eq_true_eq] at h1
    exact .inl h1
end
/-- One name more is told for another. -/
def fNm (a b : Nat) (q : Nat) : Nat := if q = a then b else q
theorem nodup_len {n : Nat} {l : List Nat} (h : l.Nodup) (hl : ∀ r ∈ l, r < n) : l.length ≤ n := by
  have hp : l.Perm ((List.range n).filter fun r => decide (r ∈ l)) := by
    refine (List.perm_ext_iff_of_nodup h (List.nodup_range.filter _)).2 fun a => ?_
    simp only [List.mem_filter, List.mem_range, decide_eq_true_eq]
    exact ⟨fun h => ⟨hl a h, h⟩, fun h => h.2⟩
  have h1 := hp.length_eq
  have h2 := List.length_filter_le (fun r => decide (r ∈ l)) (List.range n)
  rw [List.length_range] at h2
  omega
end Go.Am
namespace Go.Proofs.YtojpcpdbnmnknaaDoor
open Go.Am
attribute [local irreducible] AW Outs Weak Lends Lend Sp aops atree aop1 Then Round InBlock Done
attribute [local irreducible] SpH SpX DoneH DoneX
def bdN (fb : Nat → Nat → Bool) (n : Nat) : List AV := [.i (n : Nat), .rmp false (mkEs (posP fb n n)) (posP fb n n).length]
/-- The places whose rows were not taken yet. -/
def notIn (l : List Nat) (p : Nat × Nat) : Bool := !l.contains p.1
/-- .., and that are not in the beginning of a row. -/
def notIn2 (l : List Nat) (row c : Nat) (p : Nat × Nat) : Bool := !l.contains p.1 && !(decide (p.1 = row) && decide (p.2 < c))
/-- The numbers of rooks, by the entries that were seen. -/
def rkS (W : List RWay) (n : Nat) (seen : Array Nat) : List Int := (List.range (n + 1)).map fun k => ((sumW W fun q => if seen.contains q.b then q.v * popIs k q.t else 0 : Nat) : Int)
theorem rkS_none (W : List RWay) (n : Nat) : rkS W n #[] = List.replicate (n + 1) 0 := by
  unfold rkS
  rw [List.eq_replicate_iff]
  refine ⟨by simp, fun b hb => ?_⟩
  obtain ⟨k, _, rfl⟩ := List.mem_map.1 hb
  rw [sumW_none]
  rfl
theorem rkS_get (W : List RWay) (seen : Array Nat) {n k : Nat} (h : k < n + 1) : (rkS W n seen).getD k 0 = ((sumW W fun q => if seen.contains q.b then q.v * popIs k q.t else 0 : Nat) : Int) := by
  unfold rkS
  simp [h]
theorem rkS_set {W : List RWay} {n : Nat} {seen : Array Nat} {p : RWay} (hn : (W.map (·.b)).Nodup) (hp : p ∈ W) (hs : seen.contains p.b = false) (hk : pop16 p.t < n + 1) :
    (rkS W n seen).set (pop16 p.t) ((rkS W n seen).getD (pop16 p.t) 0 + (p.v : Nat)) = rkS W n (seen.push p.b) := by
  apply List.ext_getElem?
  intro j
  rw [List.getElem?_set, rkS_get W seen hk]
  have hl : (rkS W n seen).length = n + 1 := by simp [rkS]
  by_cases e : pop16 p.t = j
  · subst e
    rw [if_pos rfl, if_pos (by omega)]
    simp only [rkS, List.getElem?_map, List.getElem?_range hk, Option.map_some]
    rw [sumW_seen hn hp hs (fun q => q.v * popIs (pop16 p.t) q.t)]
    have : popIs (pop16 p.t) p.t = 1 := if_pos rfl
    rw [this]
    simp
  · rw [if_neg e]
    by_cases hj : j < n + 1
    · simp only [rkS, List.getElem?_map, List.getElem?_range hj, Option.map_some]
      rw [sumW_seen hn hp hs (fun q => q.v * popIs j q.t)]
      have : popIs j p.t = 0 := if_neg e
      rw [this]
      simp
    · simp [rkS, hj]
theorem pop_le {T n : Nat} (hn : n ≤ 16) (hT : T < 2 ^ n) : pop16 T ≤ n := by
  have key : ∀ m, sumN m (fun k => if T.testBit k then 1 else 0) ≤ min m n := by
    intro m
    induction m with
    | zero => simp [sumN]
    | succ m ih =>
      simp only [sumN]
      by_cases hm : m < n
      · split <;> omega
      · have : T.testBit m = false := Nat.testBit_lt_two_pow (Nat.lt_of_lt_of_le hT (Nat.pow_le_pow_right (by decide) (by omega)))
        rw [this]
        simp
        omega
  have := key 16
  unfold pop16
  omega
theorem addC_one (row : Nat → Bool) (T c : Nat) : addC row (fun _ => 1) T c ≤ 1 := by
  unfold addC
  split
  · exact Nat.le_refl _
  · omega
theorem sumW_mul (w : List RWay) (g : RWay → Nat) (k : Nat) : sumW w (fun q => g q * k) = sumW w g * k := by
  induction w with
  | nil => simp [sumW]
  | cons q w ih => rw [sumW_cons, sumW_cons, ih, Nat.add_mul]
theorem wv_le (w : List RWay) (T : Nat) : wv w T ≤ wE w (fun _ => 1) := by
  unfold wv
  cases h : w.find? fun p => p.t == T with
  | none => exact Nat.zero_le _
  | some p =>
    have h3 : p.v * 1 ≤ wE w fun _ => 1 := sumW_le (g := fun q => q.v * 1) (List.mem_of_find?_eq_some h)
    show p.v ≤ _
    omega
theorem zeros_flat (k : Nat) : (List.replicate k (List.map AV.v [Value.int .i64 0])).flatten = (List.replicate k (0 : Int)).map AV.i := by
  induction k with
  | zero => rfl
  | succ k ih => rw [List.replicate_succ, List.flatten_cons, ih]; rfl
structure RkInv (fb : Nat → Nat → Bool) (n : Nat) (l : List Nat) (W : List RWay) (ck : Nat) : Prop where
  nd : l.Nodup
  lt : ∀ r ∈ l, r < n
  ok : WaysOk n ck W
  sum : ∀ g, wE W g = rowsR fb n l g 0
abbrev brd (fb : Nat → Nat → Bool) (n : Nat) : Nat × (Bool × List AV) := (1, (true, bdN fb n))
def rkR (fb : Nat → Nat → Bool) (n : Nat) : AV := .ro true 1 (((List.range (n + 1)).map fun k => ((rkN fb n k : Nat) : Int)).map AV.i) (n + 1)
theorem plArr_old {fb : Nat → Nat → Bool} {n : Nat} {D : Nat × Nat → Bool} : ∀ e ∈ (plArr (lfA fb n D)).toList, e.born < (posP fb n n).length := by
  intro e he
  obtain ⟨q, hq, rfl⟩ := plArr_mem.1 he
  exact (lfA_mem hq).2.2
theorem plArr_keys {fb : Nat → Nat → Bool} {n : Nat} {D : Nat × Nat → Bool} (h8 : n ≤ 8) : ∀ e ∈ (plArr (lfA fb n D)).toList, ∃ q, keyOf Tryd.prog 63 e.key = some q := by
  intro e he
  obtain ⟨q, hq, rfl⟩ := plArr_mem.1 he
  have := (lfA_mem hq).1
  exact key_place (wf_int (by omega) (by omega)) (wf_int (by omega) (by omega))
/-- A place is asked for among those that are left. -/
theorem m_lfget {own : Bool} {d : Option Nat} {s : AS} {K : AS → Prop} {x i : Opd} {r a b n : Nat} {fb : Nat → Nat → Bool} {D : Nat × Nat → Bool} (h8 : n ≤ 8) (ha : a < n) (hb : b < n) (hx : s.ev x = .mp r) (hr : s.hp r = some (lfObj fb n D)) (hi : exV (s.ev i) = some (keyP a b))
    (k : K (s.put d (.b (fb a b && D (a, b))))) : aop1 Tryd.prog own ⟨d, .mgetk 63 (.bool false) false x i, none⟩ s K := by
  refine m_mgetk place_law (.inl ⟨r, hx, hr⟩) hi (key_place (wf_int (by omega) (by omega)) (wf_int (by omega) (by omega))) (plArr_keys h8) ?_ ?_ k
  · intro e he hk
    obtain ⟨q, hq, rfl⟩ := plArr_mem.1 he
    have h1 := plE_key hk
    have h2 := lfA_mem hq
    rw [h1] at h2
    have : (fb a b && D (a, b)) = true := by rw [h2.1.2.2, h2.2.1]; rfl
    rw [this]
    rfl
  · intro hno
    have : (fb a b && D (a, b)) = false := by
      rw [Bool.eq_false_iff]
      intro ht
      simp only [Bool.and_eq_true] at ht
      obtain ⟨q, hq, e⟩ := lfA_has (fb := fb) (n := n) (p := (a, b)) ⟨ha, hb, ht.1⟩ ht.2
      exact hno (plE q) (plArr_mem.2 ⟨q, hq, rfl⟩) (by unfold plE entP; rw [e])
    rw [this]
    rfl
/-- A place that is left is deleted. -/
theorem m_lfdel {own : Bool} {d : Option Nat} {s : AS} {K : AS → Prop} {x i : Opd} {r a b n : Nat} {fb : Nat → Nat → Bool} {D : Nat × Nat → Bool} (h8 : n ≤ 8) (ha : a < n) (hb : b < n) (hx : s.ev x = .mp r) (hr : s.hp r = some (lfObj fb n D)) (hi : exV (s.ev i) = some (keyP a b))
    (k : K ((s.mem r (lfObj fb n fun p => D p && !decide (p = (a, b)))).put d (.tup []))) : aop1 Tryd.prog own ⟨d, .mdel 63 x i, none⟩ s K := by
  refine m_mdel place_law hx hr hi (key_place (wf_int (by omega) (by omega)) (wf_int (by omega) (by omega))) (plArr_keys h8) (fun j e he hk => ?_) fun hno => ?_
  · obtain ⟨q, hq, rfl⟩ := plArr_get he
    have h1 := plE_key hk
    rw [lfA_erase hq, h1]
    exact k
  · have e : lfA fb n D = lfA fb n fun p => D p && !decide (p = (a, b)) := by
      unfold lfA
      refine List.filter_congr fun q hq => ?_
      by_cases h : D q.1 = true
      · have : q.1 ≠ (a, b) := fun e => hno (plE q) (plArr_mem.2 ⟨q, List.mem_filter.2 ⟨hq, h⟩, rfl⟩) (by unfold plE entP; rw [e])
        simp [this]
      · simp at h; simp [h]
    rw [e]
    exact k
theorem rookNumbers_spec (fb : Nat → Nat → Bool) (n : Nat) (h1 : 1 ≤ n) (h8 : n ≤ 8) : Sp Tryd.prog 30 [.agg (bdN fb n)] (rkR fb n) := by
  refine spec_of Tryd.func30 rfl cc30 rfl ?_
  unfold ac30
  repeat (first | (refine step_ops ?_; (first | (refine m_nils ?_) | (refine m_box rfl ?_ ?_; (· first | rfl | (simp [cellOk, Value.oneCell']; done))))) | refine end_ops ?_ | refine seq_ops ?_)
  refine AW_scopeL (α := List Nat × List RWay × Nat) 0 (fun x => RkInv fb n x.1 x.2.1 x.2.2)
    (fun x => st [(1, .pt 1 0), (3, .mp 100), (4, .mp 101)] [brd fb n, (100, wObj x.2.1 x.2.2), (101, lfObj fb n (notIn x.1))]) (fun x => n - x.1.length) rfl ?_ ?_
  · rintro ⟨l, W, ck⟩ ⟨hnd, hlt, hok, hsum⟩
    dsimp only at hnd hlt hok hsum ⊢
    repeat (first | (refine step_ops ?_; (refine m_mov (by conv => lhs; whnf) ?_)) | refine seq_ops ?_ | refine AW_seq ?_)
    refine step_ops ?_
    refine m_mrg rfl (by decide) rfl fun bm => ?_
    repeat (first | refine end_ops ?_ | refine AW_block ?_)
    refine AW_loop (α := Unit) (fun _ => True) (fun _ => st [(1, .pt 1 0), (3, .mp 100), (4, .mp 101), (20, .mit 20 (some 101) bm #[] 0)] [brd fb n, (100, wObj W ck), (101, lfObj fb n (notIn l)), (20, (true, [.ob (.mapIter (some bm) (posP fb n n).length #[] (posP fb n n).length)]))])
      (fun _ => 0) () trivial (weak_st ?_ ?_ rfl rfl) ?_
    · (repeat' (first | exact trivial | refine And.intro ?_ ?_)) <;> (first | rfl | skip)
    · (repeat' (first | exact trivial | refine And.intro ?_ ?_)) <;> (first | rfl | skip)
    rintro ⟨⟩ _
    refine AW_seq ?_
    refine AW_ops ?_
    refine step_ops ?_
    refine m_mnx rfl rfl (by decide) rfl plArr_old (Nat.le_refl _) (fun hall => ?_) (fun e he hs => ?_)
    · have hnone : ∀ r, r < n → r ∉ l → ∀ c, c < n → fb r c = false := by
        intro r hr hrl c hc
        rw [Bool.eq_false_iff]
        intro hf
        obtain ⟨q, hq, e⟩ := lfA_has (fb := fb) (n := n) (D := notIn l) (p := (r, c)) ⟨hr, hc, hf⟩ (by simp [notIn, hrl])
        have := hall (plE q) (plArr_mem.2 ⟨q, hq, rfl⟩)
        simp at this
      have hk : ∀ k, wE W (popIs k) = rkN fb n k := fun k => by rw [hsum, rkN_any (by omega) hnd hlt hnone]
      have hW1 : wE W (fun _ => 1) ≤ 43046721 := by
        have hlen := nodup_len hnd hlt
        rw [hsum]
        refine Nat.le_trans (rowsR_le (b := 1) (fun _ => Nat.le_refl _) l 0) ?_
        rw [Nat.mul_one]
        exact Nat.le_trans (Nat.pow_le_pow_left (by omega : n + 1 ≤ 9) _) (Nat.le_trans (Nat.pow_le_pow_right (by omega) (by omega : l.length ≤ 8)) (by decide))
      have hle : ∀ k, rkN fb n k ≤ 43046721 := fun k => by
        rw [← hk]
        refine Nat.le_trans (sumW_mono fun p _ => Nat.mul_le_mul_left p.v (h := ?_)) hW1
        show popIs k p.t ≤ 1
        unfold popIs; split <;> omega
      repeat (first | (refine step_ops ?_; (first | (refine m_add rfl rfl ?_ ?_ ?_; (· omega); (· omega)) | (apply m_ld_pt; (· rfl); (· rfl); (· rfl)) | (refine m_ext rfl rfl ?_) | (refine m_fa rfl ?_))) | refine end_ops ?_ | refine seq_ops ?_ | (refine cond_f rfl ?_ ?_; (· first | rfl | assumption | (refine decide_eq_false ?_; first | assumption | omega) | (refine nf ?_; first | assumption | omega) | (simp [*]; done))) | refine AW_seq ?_ | refine norm_then ?_ | refine exit_then ?_ | refine exit_round ?_ | refine AW_exit ?_ | refine exit_block ?_)
      refine step_ops ?_
      refine m_mk (n := n + 1) rfl rfl (by omega) (by omega) ?_
      repeat (first | (refine step_ops ?_; (refine m_mov (by conv => lhs; whnf) ?_)) | refine end_ops ?_ | refine seq_ops ?_ | refine AW_seq ?_)
      refine step_ops ?_
      refine m_mrg (q := 100) rfl (by decide) rfl fun bm2 => ?_
      repeat (first | refine end_ops ?_ | refine AW_block ?_)
      refine AW_loop (α := Array Nat) (fun _ => True)
        (fun seen => st [(1, .pt 1 0), (11, .sl 65 1 0 (n + 1)), (67, .mit 67 (some 100) bm2 #[] 0)]
          [brd fb n, (65, (true, (rkS W n seen).map AV.i)), (100, wObj W ck), (67, (true, [.ob (.mapIter (some bm2) ck seen ck)]))])
        (fun seen => leftW W seen) #[] trivial (weak_st ?_ ?_ rfl rfl) ?_
      · (repeat' (first | exact trivial | refine And.intro ?_ ?_)) <;> (first | rfl | skip)
      · (repeat' (first | exact trivial | refine And.intro ?_ ?_)) <;> (first | rfl | skip)
        rw [rkS_none]
        show some (true, (List.replicate (n + 1) (List.map AV.v [Value.int .i64 0])).flatten) = _
        rw [zeros_flat]
      rintro seen _
      refine AW_seq ?_
      refine AW_ops ?_
      refine step_ops ?_
      refine m_mnx (q := 100) (r := 67) (c0 := ck) rfl rfl (by decide) rfl (fun e he => ?_) (Nat.le_refl _) (fun hall2 => ?_) (fun e he hs => ?_)
      · obtain ⟨p, hp, rfl⟩ := wA_mem.1 he
        exact hok.old p hp
      · have hfin : rkS W n seen = (List.range (n + 1)).map fun k => ((rkN fb n k : Nat) : Int) := by
          refine List.map_congr_left fun k _ => ?_
          rw [← hk]
          congr 1
          refine sumW_congr fun q hq => ?_
          have h3 : seen.contains q.b = true := hall2 q.ent (wA_mem.2 ⟨q, hq, rfl⟩)
          rw [if_pos h3]
        rw [hfin]
        repeat (first | (refine step_ops ?_; (first | (refine m_mov (by conv => lhs; whnf) ?_) | (refine m_ext rfl rfl ?_))) | refine end_ops ?_ | refine seq_ops ?_ | (refine cond_f rfl ?_ ?_; (· first | rfl | assumption | (refine decide_eq_false ?_; first | assumption | omega) | (refine nf ?_; first | assumption | omega) | (simp [*]; done))) | refine AW_seq ?_ | refine AW_ret ?_ | refine ret_done ?_ | refine norm_then ?_ | refine exit_then ?_ | refine exit_round ?_ | refine AW_exit ?_ | refine exit_block ?_)
        exact outs_sl rfl (by simp) (allv_ints _)
      · obtain ⟨p, hp, rfl⟩ := wA_mem.1 he
        have hpt := hok.lt p hp
        have hpt512 : p.t < 512 := Nat.lt_of_lt_of_le hpt (Nat.pow_le_pow_right (by decide) (by omega : n ≤ 9))
        have hpop : pop16 p.t ≤ n := pop_le (by omega) hpt
        repeat (first | (refine step_ops ?_; (refine m_ext rfl rfl ?_)) | refine end_ops ?_ | refine seq_ops ?_ | (refine cond_t rfl ?_ ?_; (· first | rfl | assumption | (refine decide_eq_true ?_; first | assumption | omega) | (refine nt ?_; first | assumption | omega) | (simp [*]; done))) | refine skip_then ?_ | refine AW_seq ?_ | refine norm_then ?_ | refine AW_block ?_)
        refine step_ops ?_
        refine m_ment (q := 100) (r := 67) (e := p.ent) (ka := .u p.t) (va := .i (p.v : Nat)) rfl rfl (by decide) rfl he (wA_born hok.born) rfl rfl ?_
        repeat (first | (refine step_ops ?_; (first | (refine m_mov (by conv => lhs; whnf) ?_) | (refine m_ext rfl rfl ?_))) | refine end_ops ?_ | refine AW_ops ?_)
        (refine step_ops ?_); (apply m_call (sizeP_spec p.t hpt512)); (· repeat (first | exact lends_nil | (refine lends_cons ?_ ?_; (· exact lend_v))))
        have hgd : (rkS W n seen).getD (pop16 p.t) 0 = ((sumW W fun q => if seen.contains q.b then q.v * popIs (pop16 p.t) q.t else 0 : Nat) : Int) := rkS_get W seen (by omega)
        have hb1 : (sumW W fun q => if seen.contains q.b then q.v * popIs (pop16 p.t) q.t else 0) ≤ 43046721 := by
          refine Nat.le_trans (sumW_mono fun q _ => ?_) hW1
          show _ ≤ q.v * 1
          split
          · exact Nat.mul_le_mul_left _ (by unfold popIs; split <;> omega)
          · omega
        have hb2 : p.v ≤ 43046721 := by
          have h3 : p.v * 1 ≤ wE W fun _ => 1 := sumW_le (g := fun q => q.v * 1) hp
          omega
        have hbs := leftW_lt hp hs
        have hrl : (rkS W n seen).length = n + 1 := by simp [rkS]
        have hb3 : 0 ≤ (rkS W n seen).getD (pop16 p.t) 0 ∧ (rkS W n seen).getD (pop16 p.t) 0 ≤ 43046721 := by rw [hgd]; omega
        repeat (first | (refine step_ops ?_; (first | (refine m_mov (by conv => lhs; whnf) ?_) | (refine m_add rfl rfl ?_ ?_ ?_; (· omega); (· omega)) | (refine m_idx1_sl rfl rfl ?_ ?_; (· omega)) | (refine m_ld_pti rfl (by rfl) ?_ ?_; (· first | omega | (simp; omega))) | (apply m_st; (· rfl); (· rfl); (· rfl); (· first | omega | (simp; done) | (simp; omega)); (· rfl)))) | refine end_ops ?_ | refine norm_block ?_)
        refine next_round (seen.push p.b) trivial (weak_st ?_ ?_ rfl rfl) hbs
        · (repeat' (first | exact trivial | refine And.intro ?_ ?_)) <;> (first | rfl | skip)
        · (repeat' (first | exact trivial | refine And.intro ?_ ?_)) <;> (first | rfl | skip)
          rw [← rkS_set hok.born hp hs (by omega), List.map_set]
          rfl
    · obtain ⟨q, hq, rfl⟩ := plArr_mem.1 he
      obtain ⟨⟨hr, hc, hf⟩, hD, _⟩ := lfA_mem hq
      obtain ⟨⟨row, col⟩, stamp⟩ := q
      dsimp only at hr hc hf
      repeat (first | (refine step_ops ?_; (refine m_ext rfl rfl ?_)) | refine end_ops ?_ | refine seq_ops ?_ | (refine cond_t rfl ?_ ?_; (· first | rfl | assumption | (refine decide_eq_true ?_; first | assumption | omega) | (refine nt ?_; first | assumption | omega) | (simp [*]; done))) | refine skip_then ?_ | refine AW_seq ?_ | refine norm_then ?_ | refine AW_block ?_)
      refine step_ops ?_
      refine m_ment (e := plE ((row, col), stamp)) (ka := .agg [.i (row : Nat), .i (col : Nat)]) (va := .b true) rfl rfl (by decide) rfl he (lfA_born fb n _) rfl rfl ?_
      repeat (first | (refine step_ops ?_; (first | (refine m_mov (by conv => lhs; whnf) ?_) | (refine m_ext rfl rfl ?_) | (refine m_alloc ?_) | (refine m_stall rfl rfl rfl ?_ ?_ ?_ ?_; (· first | rfl | (simp [*]; done)); (· first | rfl | (simp [*]; done)); (· first | rfl | (simp [cellOk, Value.oneCell']; done))))) | refine end_ops ?_ | refine seq_ops ?_)
      refine step_ops ?_
      refine m_clone 102 (cloneWays_spec (wA W) ck) (.inl ⟨100, rfl, rfl⟩) rfl (by decide) ?_
      repeat (first | (refine step_ops ?_; (first | (refine m_mov (by conv => lhs; whnf) ?_) | (apply m_ld_pt; (· rfl); (· rfl); (· rfl)) | (refine m_fa rfl ?_))) | refine end_ops ?_ | refine seq_ops ?_ | refine AW_seq ?_ | refine AW_block ?_)
      have hrl' : row ∉ l := by
        have : (l.contains row) = false := by simpa [notIn] using hD
        simpa using this
      have hlen := nodup_len hnd hlt
      have hW1 : wE W (fun _ => 1) ≤ 43046721 := by
        rw [hsum]
        refine Nat.le_trans (rowsR_le (b := 1) (fun _ => Nat.le_refl _) l 0) ?_
        rw [Nat.mul_one]
        exact Nat.le_trans (Nat.pow_le_pow_left (by omega : n + 1 ≤ 9) _) (Nat.le_trans (Nat.pow_le_pow_right (by omega) (by omega : l.length ≤ 8)) (by decide))
      refine AW_loop (α := Nat × List RWay × Nat) (fun x => x.1 ≤ n ∧ WaysOk n x.2.2 x.2.1 ∧ ∀ g, wE x.2.1 g = sumW W fun q => q.v * (g q.t + sumN x.1 (addC (fb row) g q.t)))
        (fun x => st [(1, .pt 1 0), (3, .mp 100), (4, .mp 101), (5, .pt 5 0), (6, .mp 102), (28, .i (n : Nat)), (29, .i (x.1 : Nat))]
          [brd fb n, (5, (true, [.i (row : Nat), .i (col : Nat)])), (100, wObj W ck), (101, lfObj fb n (notIn2 l row x.1)), (102, wObj x.2.1 x.2.2)])
        (fun x => n - x.1) (0, W, ck) ⟨Nat.zero_le _, hok, fun g => rfl⟩ (weak_st ?_ ?_ rfl rfl) ?_
      · (repeat' (first | exact trivial | refine And.intro ?_ ?_)) <;> (first | rfl | skip)
      · (repeat' (first | exact trivial | refine And.intro ?_ ?_)) <;> (first | rfl | skip)
        show some (lfObj fb n (notIn l)) = some (lfObj fb n (notIn2 l row 0))
        congr 4
        funext p
        simp [notIn, notIn2]
      rintro ⟨c, L, ck2⟩ ⟨hcn, hokL, hsumL⟩
      dsimp only at hcn hokL hsumL ⊢
      by_cases hc8 : c < n
      · repeat (first | (refine step_ops ?_; (first | (refine m_mov (by conv => lhs; whnf) ?_) | (refine m_lss rfl rfl ?_) | (apply m_ld_pt; (· rfl); (· rfl); (· rfl)) | (refine m_alloc ?_) | (refine m_fa rfl ?_) | (refine m_bld_2 (by conv => lhs; whnf) (by conv => lhs; whnf) (by decide)  (by decide) (by rfl) (by rfl) ?_) | (refine m_ldall rfl rfl ?_ ?_; (· first | rfl | (simp; done) | (simp [*]; done))) | (refine m_stall rfl rfl rfl ?_ ?_ ?_ ?_; (· first | rfl | (simp [*]; done)); (· first | rfl | (simp [*]; done)); (· first | rfl | (simp [cellOk, Value.oneCell']; done))))) | refine end_ops ?_ | refine seq_ops ?_ | (refine cond_t rfl ?_ ?_; (· first | rfl | assumption | (refine decide_eq_true ?_; first | assumption | omega) | (refine nt ?_; first | assumption | omega) | (simp [*]; done))) | refine skip_then ?_ | refine AW_seq ?_ | refine AW_block ?_)
        refine step_ops ?_
        refine m_lfget (a := row) (b := c) h8 hr hc8 rfl rfl rfl ?_
        have hD2 : notIn2 l row c (row, c) = true := by simp [notIn2, hrl']
        rw [hD2, Bool.and_true]
        have hlf : lfA fb n (fun p => notIn2 l row c p && !decide (p = (row, c))) = lfA fb n (notIn2 l row (c + 1)) := by
          congr 1
          funext p
          obtain ⟨i, j⟩ := p
          simp only [notIn2, Prod.mk.injEq]
          by_cases e1 : i = row
          · by_cases e2 : j = c
            · simp [e1, e2]
            · have : decide (j < c + 1) = decide (j < c) := decide_eq_decide.2 (by omega)
              simp [e1, e2, this]
          · simp [e1]
        by_cases hf2 : fb row c = true
        · repeat (first | (refine step_ops ?_; (first | (refine m_mov (by conv => lhs; whnf) ?_) | (refine m_not rfl ?_) | (refine m_ldall rfl rfl ?_ ?_; (· first | rfl | (simp; done) | (simp [*]; done))))) | refine end_ops ?_ | refine seq_ops ?_ | (refine cond_f rfl ?_ ?_; (· first | rfl | assumption | (refine decide_eq_false ?_; first | assumption | omega) | (refine nf ?_; first | assumption | omega) | (simp [*]; done))) | refine skip_then ?_)
          refine step_ops ?_
          refine m_lfdel (a := row) (b := c) h8 hr hc8 rfl rfl rfl ?_
          repeat (first | (refine step_ops ?_; (refine m_mov (by conv => lhs; whnf) ?_)) | refine end_ops ?_ | refine seq_ops ?_)
          refine step_ops ?_
          refine m_mrg (q := 100) rfl (by decide) rfl fun bm3 => ?_
          repeat (first | refine end_ops ?_ | refine AW_block ?_)
          refine AW_loop (α := List RWay × Nat × Array Nat) (fun x => WaysOk n x.2.1 x.1 ∧ ∀ g, wE x.1 g = wE L g + sumW W fun q => if x.2.2.contains q.b then q.v * addC (fb row) g q.t c else 0)
            (fun x => st [(1, .pt 1 0), (3, .mp 100), (4, .mp 101), (5, .pt 5 0), (6, .mp 102), (7, .i (c : Nat)), (28, .i (n : Nat)), (29, .i (c : Nat)), (43, .mit 43 (some 100) bm3 #[] 0)]
              [brd fb n, (5, (true, [.i (row : Nat), .i (col : Nat)])), (43, (true, [.ob (.mapIter (some bm3) ck x.2.2 ck)])), (100, wObj W ck), (101, lfObj fb n (notIn2 l row (c + 1))), (102, wObj x.1 x.2.1)])
            (fun x => leftW W x.2.2) (L, ck2, #[]) ⟨hokL, fun g => by rw [sumW_none]; rfl⟩ (weak_st ?_ ?_ rfl rfl) ?_
          · (repeat' (first | exact trivial | refine And.intro ?_ ?_)) <;> (first | rfl | skip)
          · (repeat' (first | exact trivial | refine And.intro ?_ ?_)) <;> (first | rfl | skip)
            show some (true, [AV.ob (.map (plArr _) _)]) = _
            rw [hlf]
          rintro ⟨M, ck3, seen⟩ ⟨hokM, hsumM⟩
          dsimp only at hokM hsumM ⊢
          refine AW_seq ?_
          refine AW_ops ?_
          refine step_ops ?_
          refine m_mnx (q := 100) (r := 43) (c0 := ck) rfl rfl (by decide) rfl (fun e he => ?_) (Nat.le_refl _) (fun hall2 => ?_) (fun e he hs => ?_)
          · obtain ⟨p, hp, rfl⟩ := wA_mem.1 he
            exact hok.old p hp
          · repeat (first | (refine step_ops ?_; (first | (refine m_mov (by conv => lhs; whnf) ?_) | (refine m_add rfl rfl ?_ ?_ ?_; (· omega); (· omega)) | (refine m_ext rfl rfl ?_))) | refine end_ops ?_ | refine AW_ops ?_ | (refine cond_f rfl ?_ ?_; (· first | rfl | assumption | (refine decide_eq_false ?_; first | assumption | omega) | (refine nf ?_; first | assumption | omega) | (simp [*]; done))) | refine AW_seq ?_ | refine norm_then ?_ | refine exit_then ?_ | refine norm_block ?_ | refine exit_round ?_ | refine AW_exit ?_ | refine exit_block ?_)
            refine next_round (c + 1, M, ck3) ⟨by omega, hokM, fun g => ?_⟩ (weak_st ?_ ?_ rfl rfl) (by show n - (c + 1) < n - c; omega)
            · rw [hsumM, hsumL, ← sumW_add]
              refine sumW_congr fun q hq => ?_
              have h3 : seen.contains q.b = true := hall2 q.ent (wA_mem.2 ⟨q, hq, rfl⟩)
              rw [if_pos h3, ← Nat.mul_add, sumN, Nat.add_assoc]
            · (repeat' (first | exact trivial | refine And.intro ?_ ?_)) <;> (first | rfl | skip)
            · (repeat' (first | exact trivial | refine And.intro ?_ ?_)) <;> (first | rfl | skip)
          · obtain ⟨p, hp, rfl⟩ := wA_mem.1 he
            have hpt := hok.lt p hp
            have hpt16 : p.t < 65536 := Nat.lt_of_lt_of_le hpt (Nat.pow_le_pow_right (by decide) (by omega : n ≤ 16))
            have hb2 : p.v ≤ 43046721 := by
              have h3 : p.v * 1 ≤ wE W fun _ => 1 := sumW_le (g := fun q => q.v * 1) hp
              omega
            repeat (first | (refine step_ops ?_; (refine m_ext rfl rfl ?_)) | refine end_ops ?_ | refine seq_ops ?_ | (refine cond_t rfl ?_ ?_; (· first | rfl | assumption | (refine decide_eq_true ?_; first | assumption | omega) | (refine nt ?_; first | assumption | omega) | (simp [*]; done))) | refine skip_then ?_ | refine AW_seq ?_ | refine norm_then ?_ | refine AW_block ?_)
            refine step_ops ?_
            refine m_ment (q := 100) (r := 43) (e := p.ent) (ka := .u p.t) (va := .i (p.v : Nat)) rfl rfl (by decide) rfl he (wA_born hok.born) rfl rfl ?_
            repeat (first | (refine step_ops ?_; (first | (refine m_mov (by conv => lhs; whnf) ?_) | (refine m_ext rfl rfl ?_))) | refine end_ops ?_ | refine seq_ops ?_)
            (refine step_ops ?_); (apply m_call (setHas_spec p.t c hpt16 (by omega))); (· repeat (first | exact lends_nil | (refine lends_cons ?_ ?_; (· exact lend_v))))
            by_cases hbit : p.t.testBit c = true
            · repeat (first | (refine step_ops ?_; (refine m_not rfl ?_)) | refine end_ops ?_ | (refine cond_f rfl ?_ ?_; (· first | rfl | assumption | (refine decide_eq_false ?_; first | assumption | omega) | (refine nf ?_; first | assumption | omega) | (simp [*]; done))) | refine norm_block ?_ | refine AW_skip ?_)
              refine next_round (M, ck3, seen.push p.b) ⟨hokM, fun g => ?_⟩ (weak_st ?_ ?_ rfl rfl) (leftW_lt hp hs)
              · rw [hsumM, sumW_seen hok.born hp hs (fun q => q.v * addC (fb row) g q.t c)]
                have : addC (fb row) g p.t c = 0 := by simp [addC, hbit]
                rw [this]
                omega
              · (repeat' (first | exact trivial | refine And.intro ?_ ?_)) <;> (first | rfl | skip)
              · (repeat' (first | exact trivial | refine And.intro ?_ ?_)) <;> (first | rfl | skip)
            · have hbit : p.t.testBit c = false := by simpa using hbit
              have hT := insC_lt hpt hc8
              have hb4 : wv M (insC p.t c) ≤ 1000000000 := by
                have hM1 : wE M (fun _ => 1) ≤ 1000000000 := by
                  rw [hsumM, hsumL, ← sumW_add]
                  refine Nat.le_trans (sumW_mono (h := fun q => q.v * 1 * 20) fun q _ => ?_) ?_
                  · have h5 : sumN c (addC (fb row) (fun _ => 1) q.t) ≤ c * 1 := by
                      rw [← sumN_const]
                      exact sumN_le fun k _ => addC_one _ _ _
                    have h6 : addC (fb row) (fun _ => 1) q.t c ≤ 1 := addC_one _ _ _
                    have h7 : q.v * (1 + sumN c (addC (fb row) (fun _ => 1) q.t)) ≤ q.v * 9 := Nat.mul_le_mul_left _ (by omega)
                    have h8 : (if seen.contains q.b then q.v * addC (fb row) (fun _ => 1) q.t c else 0) ≤ q.v * 1 := by
                      split
                      · exact Nat.mul_le_mul_left _ h6
                      · omega
                    omega
                  · rw [sumW_mul W (fun q => q.v * 1) 20]
                    show wE W (fun _ => 1) * 20 ≤ _
                    omega
                exact Nat.le_trans (wv_le M _) hM1
              repeat (first | (refine step_ops ?_; (first | (refine m_mov (by conv => lhs; whnf) ?_) | (refine m_not rfl ?_))) | refine end_ops ?_ | refine AW_ops ?_ | (refine cond_t rfl ?_ ?_; (· first | rfl | assumption | (refine decide_eq_true ?_; first | assumption | omega) | (refine nt ?_; first | assumption | omega) | (simp [*]; done))))
              (refine step_ops ?_); (apply m_call (setWith_spec p.t c hpt16 (by omega))); (· repeat (first | exact lends_nil | (refine lends_cons ?_ ?_; (· exact lend_v))))
              refine step_ops ?_
              refine m_wget (T := insC p.t c) hokM rfl rfl rfl ?_
              repeat (refine step_ops ?_; (first | (refine m_mov (by conv => lhs; whnf) ?_) | (refine m_add rfl rfl ?_ ?_ ?_; (· omega); (· omega))))
              refine step_ops ?_
              refine m_wput (r := 102) (T := insC p.t c) (m := p.v) hokM hT rfl rfl rfl ?_ fun M' ck4 hokM' hsumM' => ?_
              · show AV.i _ = AV.i _
                push_cast
                rfl
              repeat (first | refine end_ops ?_ | refine norm_block ?_)
              refine next_round (M', ck4, seen.push p.b) ⟨hokM', fun g => ?_⟩ (weak_st ?_ ?_ rfl rfl) (leftW_lt hp hs)
              · rw [hsumM', hsumM, sumW_seen hok.born hp hs (fun q => q.v * addC (fb row) g q.t c)]
                have : addC (fb row) g p.t c = g (insC p.t c) := by simp [addC, hbit, hf2]
                rw [this]
                omega
              · (repeat' (first | exact trivial | refine And.intro ?_ ?_)) <;> (first | rfl | skip)
              · (repeat' (first | exact trivial | refine And.intro ?_ ?_)) <;> (first | rfl | skip)
        · have hf2 : fb row c = false := by simpa using hf2
          repeat (first | (refine step_ops ?_; (first | (refine m_mov (by conv => lhs; whnf) ?_) | (refine m_add rfl rfl ?_ ?_ ?_; (· omega); (· omega)) | (refine m_not rfl ?_))) | refine end_ops ?_ | refine AW_ops ?_ | (refine cond_t rfl ?_ ?_; (· first | rfl | assumption | (refine decide_eq_true ?_; first | assumption | omega) | (refine nt ?_; first | assumption | omega) | (simp [*]; done))) | refine norm_then ?_ | refine exit_then ?_ | refine AW_exit ?_ | refine exit_block ?_)
          refine next_round (c + 1, L, ck2) ⟨by omega, hokL, fun g => ?_⟩ (weak_st ?_ ?_ rfl rfl) (by show n - (c + 1) < n - c; omega)
          · rw [hsumL]
            refine sumW_congr fun q _ => ?_
            have : addC (fb row) g q.t c = 0 := by simp [addC, hf2]
            rw [sumN, this]
            rfl
          · (repeat' (first | exact trivial | refine And.intro ?_ ?_)) <;> (first | rfl | skip)
          · (repeat' (first | exact trivial | refine And.intro ?_ ?_)) <;> (first | rfl | skip)
            show some (lfObj fb n (notIn2 l row c)) = some (lfObj fb n (notIn2 l row (c + 1)))
            unfold lfObj
            rw [lfA_congr (E := notIn2 l row (c + 1))]
            rintro ⟨i, j⟩ _ _ hff
            simp only [notIn2]
            by_cases e1 : i = row
            · by_cases e2 : j = c
              · subst e1 e2
                rw [hf2] at hff
                cases hff
              · have : decide (j < c + 1) = decide (j < c) := decide_eq_decide.2 (by omega)
                simp [e1, this]
            · simp [e1]
      · have hce : c = n := by omega
        subst hce
        repeat (first | (refine step_ops ?_; (first | (refine m_mov (by conv => lhs; whnf) ?_) | (refine m_lss rfl rfl ?_))) | refine end_ops ?_ | refine seq_ops ?_ | (refine cond_f rfl ?_ ?_; (· first | rfl | assumption | (refine decide_eq_false ?_; first | assumption | omega) | (refine nf ?_; first | assumption | omega) | (simp [*]; done))) | refine AW_seq ?_ | refine norm_then ?_ | refine exit_then ?_ | refine exit_round ?_ | refine AW_exit ?_ | refine exit_block ?_)
        refine AW_goto ?_
        have hnd' : (l ++ [row]).Nodup := by
          rw [List.nodup_append]
          exact ⟨hnd, by simp, fun a ha b hb e => hrl' (by simp at hb; rw [← hb, ← e]; exact ha)⟩
        have hlt' : ∀ r ∈ l ++ [row], r < c := fun r hr' => by
          rcases List.mem_append.1 hr' with h | h
          · exact hlt r h
          · simp at h; omega
        have hlen' := nodup_len hnd' hlt'
        have hinv : RkInv fb c (l ++ [row]) L ck2 := ⟨hnd', hlt', hokL, fun g => by
          rw [rowsR_snoc, ← hsum, hsumL]
          rfl⟩
        refine goto_block (goto_round (goto_block (goto_then ?_)))
        refine goto_jump (l ++ [row], L, ck2) hinv (weak_stN (fNm 100 102) [1, 100, 101] rfl (by decide) (by decide) ?_ ?_ rfl rfl) ?_
        · (repeat' (first | exact trivial | refine And.intro ?_ ?_)) <;> (first | rfl | skip)
        · (repeat' (first | exact trivial | refine And.intro ?_ ?_)) <;> (first | rfl | skip)
          show some (lfObj fb c (notIn2 l row c)) = some (lfObj fb c (notIn (l ++ [row])))
          unfold lfObj
          rw [lfA_congr (E := notIn (l ++ [row]))]
          rintro ⟨i, j⟩ _ hj _
          dsimp only at hj
          simp only [notIn2, notIn, List.contains_append, Bool.not_or]
          congr 1
          by_cases e1 : i = row
          · simp [e1, hj]
          · simp [e1]
        · intro m hm
          cases hm
          show c - (l ++ [row]).length < c - l.length
          rw [List.length_append, List.length_singleton] at hlen' ⊢
          omega
  · intro pass
    repeat (first | (refine step_ops ?_; (refine m_mmk ?_)) | refine seq_ops ?_)
    refine step_ops ?_
    refine m_mput rfl rfl rfl rfl (by simp) (by simp) fun _ => ?_
    repeat (first | (refine step_ops ?_; (first | (refine m_mov (by conv => lhs; whnf) ?_) | (apply m_ld_pt; (· rfl); (· rfl); (· rfl)) | (refine m_fa rfl ?_))) | refine end_ops ?_ | refine seq_ops ?_)
    refine step_ops ?_
    refine m_clone 101 (clonePlaces_spec (mkEs (posP fb n n)) (posP fb n n).length) (.inr ⟨false, rfl⟩) rfl (by decide) ?_
    repeat (first | (refine step_ops ?_; (refine m_mov (by conv => lhs; whnf) ?_)) | refine end_ops ?_ | refine AW_seq ?_)
    refine AW_label ?_
    refine norm_then ?_
    refine AW_weak (weak_stN (fNm 100 14) [1, 100, 101] rfl (by decide) (by decide) ?_ ?_ rfl rfl) (pass ([], [⟨0, 1, 0⟩], 1) ⟨by simp, by simp, ways_one n, fun g => by simp [wE, sumW, rowsR]⟩)
    · (repeat' (first | exact trivial | refine And.intro ?_ ?_)) <;> (first | rfl | skip)
    · (repeat' (first | exact trivial | refine And.intro ?_ ?_)) <;> (first | rfl | skip)
      show some (true, [AV.ob (.map (mkEs (posP fb n n)) _)]) = some (lfObj fb n (notIn []))
      rw [← lfA_all]
      rfl
end Go.Proofs.YtojpcpdbnmnknaaDoor
namespace Go.Am
variable {P : Program} {own : Bool} {s : AS} {K : AS → Prop} {d : Option Nat} {x y : Opd} {a k : Nat}
theorem m_shri (hx : s.ev x = .i (a : Nat)) (hy : s.ev y = .i (k : Nat)) (hk : k < 64) (kk : K (s.put d (.i (a >>> k : Nat)))) : aop1 P own ⟨d, .bin .shr x y, none⟩ s K := by
  refine ⟨_, _, _, hx, hy, ?_, kk⟩
  have h1 : ¬ ((k : Nat) : Int) < 0 := by omega
  have h2 : min ((k : Nat) : Int).toNat IntKind.i64.bits = k := by show min _ 64 = k; omega
  show (if ((k : Nat) : Int) < 0 then none else some (Value.int .i64 ((a : Int).fdiv (2 ^ (min ((k : Nat) : Int).toNat IntKind.i64.bits))))) = _
  rw [if_neg h1, h2, Nat.shiftRight_eq_div_pow]
  congr 2
  rw [Int.fdiv_eq_ediv_of_nonneg _ (by exact Int.le_of_lt (Int.pow_pos (by decide)))]
  push_cast
  rfl
theorem m_shli (hx : s.ev x = .i 1) (hy : s.ev y = .i (k : Nat)) (hk : k < 62) (kk : K (s.put d (.i (2 ^ k : Nat)))) : aop1 P own ⟨d, .bin .shl x y, none⟩ s K := by
  refine ⟨_, _, _, hx, hy, ?_, kk⟩
  have h1 : ¬ ((k : Nat) : Int) < 0 := by omega
  have h2 : min ((k : Nat) : Int).toNat IntKind.i64.bits = k := by show min _ 64 = k; omega
  show (if ((k : Nat) : Int) < 0 then none else some (Value.int .i64 (IntKind.i64.wrap ((1 : Int) * 2 ^ (min ((k : Nat) : Int).toNat IntKind.i64.bits))))) = _
  rw [if_neg h1, h2]
  congr 2
  have h3 : 2 ^ k < 2 ^ 62 := Nat.pow_lt_pow_right (by decide) hk
  have h62 : (2 : Nat) ^ 62 = 4611686018427387904 := by decide
  have h4 : ((1 : Int) * (2 : Int) ^ k) = ((2 ^ k : Nat) : Int) := by rw [Int.one_mul]; push_cast; rfl
  rw [h4, IntKind.wrap_i64]
  generalize 2 ^ k = z at *
  omega
theorem m_andi1 (hx : s.ev x = .i (a : Nat)) (hy : s.ev y = .i 1) (ha : a < 4611686018427387904) (kk : K (s.put d (.i (a &&& 1 : Nat)))) : aop1 P own ⟨d, .bin .and x y, none⟩ s K := by
  refine ⟨_, _, _, hx, hy, ?_, kk⟩
  show some (Value.int .i64 (IntKind.i64.wrap ((BitVec.ofInt IntKind.i64.bits (a : Int) &&& BitVec.ofInt IntKind.i64.bits 1).toNat : Int))) = _
  have h1 : (BitVec.ofInt IntKind.i64.bits (a : Int)).toNat = a := by
    show (BitVec.ofInt 64 (a : Int)).toNat = a
    rw [BitVec.ofInt_natCast, BitVec.toNat_ofNat]
    omega
  have h2 : (BitVec.ofInt IntKind.i64.bits 1).toNat = 1 := by decide
  have h3 : a &&& 1 ≤ 1 := Nat.and_le_right
  have h5 : IntKind.i64.wrap ((a &&& 1 : Nat) : Int) = ((a &&& 1 : Nat) : Int) := by
    rw [IntKind.wrap_i64]
    generalize a &&& 1 = z at *
    omega
  rw [BitVec.toNat_and, h1, h2, h5]
end Go.Am
namespace Go.Proofs.YtojpcpdbnmnknaaDoor
open Go.Am
attribute [local irreducible] AW Outs Weak Lends Lend Sp aops atree aop1 Then Round InBlock Done
attribute [local irreducible] SpM DoneM
/-- k, k+1, .. -/
def marks (k : Int) (n : Nat) : List Int := (List.range n).map fun (i : Nat) => k + i
theorem marks_len (k : Int) (n : Nat) : (marks k n).length = n := by simp [marks]
theorem marks_succ (k : Int) (n : Nat) : marks k (n + 1) = marks k n ++ [k + n] := by simp [marks, List.range_succ]
/-- A list whose first j numbers are marked. -/
def marked (L : List Int) (k : Int) (j : Nat) : List Int := marks k j ++ L.drop j
theorem marked_len (L : List Int) (k : Int) (j : Nat) (h : j ≤ L.length) : (marked L k j).length = L.length := by simp [marked, marks_len]; omega
theorem marked_zero (L : List Int) (k : Int) : marked L k 0 = L := by simp [marked, marks]
theorem marked_all (L : List Int) (k : Int) : marked L k L.length = marks k L.length := by simp [marked]
theorem marked_set (L : List Int) (k : Int) (j : Nat) (h : j < L.length) : (marked L k j).set j (k + j) = marked L k (j + 1) := by
  unfold marked
  rw [List.set_append_right _ _ (by rw [marks_len]; omega), marks_len, Nat.sub_self, List.drop_eq_getElem_cons h, List.set_cons_zero, marks_succ]
  simp
theorem markIntS_spec (L : List Int) (k : Int) (hL : L.length ≤ 1048576) (h0 : 0 ≤ k) (h1 : k ≤ 1099511627776) :
    SpM Tryd.prog 12 1 L.length (L.map AV.i) [.i k] (.i (k + L.length)) ((marks k L.length).map AV.i) := by
  refine specM_of Tryd.func12 rfl cc12 rfl (by first | exact allv_ints _ | exact txs_plain _ | exact cls_plain _) (by first | exact allv_ints _ | exact txs_plain _ | exact cls_plain _) rfl ?_
  unfold ac12
  repeat (first | (refine step_ops ?_; (first | (refine m_mov (by conv => lhs; whnf) ?_) | (refine m_lss rfl rfl ?_) | (refine m_add rfl rfl ?_ ?_ ?_; (· omega); (· omega)) | (refine m_adds rfl rfl ?_ ?_; (· first | omega | (simp; omega))) | (refine m_len_ro rfl ?_) | (refine m_len_sl rfl ?_) | (refine m_len_nil rfl ?_) | (refine m_idx1_ro rfl rfl ?_ ?_; (· omega)) | (refine m_idx1_sl rfl rfl ?_ ?_; (· omega)) | (apply m_idx1_slj; (· rfl); (· rfl); (· assumption); (· omega)) | (apply m_idx1_roj; (· rfl); (· rfl); (· assumption); (· omega)) | (refine m_idx_ro rfl rfl ?_ ?_ ?_; (· omega); (· omega)) | (refine m_idx_sl rfl rfl ?_ ?_ ?_; (· omega); (· omega)) | (apply m_st; (· rfl); (· rfl); (· rfl); (· first | omega | (simp; done) | (simp; omega)); (· rfl)) | (refine m_stall rfl rfl rfl ?_ ?_ ?_ ?_; (· first | rfl | (simp [*]; done)); (· first | rfl | (simp [*]; done)); (· first | rfl | (simp [cellOk, Value.oneCell']; done))))) | refine end_ops ?_ | refine seq_ops ?_ | refine AW_ops ?_ | (refine cond_t rfl ?_ ?_; (· first | rfl | assumption | (refine decide_eq_true ?_; first | assumption | omega) | (refine nt ?_; first | assumption | omega) | (simp [*]; done))) | (refine cond_f rfl ?_ ?_; (· first | rfl | assumption | (refine decide_eq_false ?_; first | assumption | omega) | (refine nf ?_; first | assumption | omega) | (simp [*]; done))) | refine skip_then ?_ | refine AW_seq ?_ | refine AW_ret ?_ | refine ret_done ?_ | refine norm_then ?_ | refine ret_then ?_ | refine exit_then ?_ | refine AW_block ?_ | refine norm_block ?_ | refine ret_block ?_ | refine ret_round ?_ | refine exit_round ?_ | refine AW_exit ?_ | refine exit_block ?_ | (refine exit_other ?_ ?_; (· decide)) | refine AW_skip ?_)
  refine AW_loop (α := Nat) (fun j => j ≤ L.length) (fun j => st [(0, .sl pbase 1 0 L.length), (1, .i (k + j)), (5, .i j)] [(pbase, (true, (marked L k j).map AV.i))]) (fun j => L.length - j) 0 (by omega) (weak_st ?_ ?_ rfl rfl) ?_
  · refine ⟨rfl, ?_, rfl, trivial⟩
    show AV.i k = AV.i (k + (0 : Nat))
    simp
  · refine ⟨?_, trivial⟩
    show some (true, L.map AV.i) = _
    rw [marked_zero]
  intro j hj
  by_cases h : j < L.length
  · repeat (first | (refine step_ops ?_; (first | (refine m_mov (by conv => lhs; whnf) ?_) | (refine m_lss rfl rfl ?_) | (refine m_add rfl rfl ?_ ?_ ?_; (· omega); (· omega)) | (refine m_adds rfl rfl ?_ ?_; (· first | omega | (simp; omega))) | (refine m_len_ro rfl ?_) | (refine m_len_sl rfl ?_) | (refine m_len_nil rfl ?_) | (refine m_idx1_ro rfl rfl ?_ ?_; (· omega)) | (refine m_idx1_sl rfl rfl ?_ ?_; (· omega)) | (apply m_idx1_slj; (· rfl); (· rfl); (· assumption); (· omega)) | (apply m_idx1_roj; (· rfl); (· rfl); (· assumption); (· omega)) | (refine m_idx_ro rfl rfl ?_ ?_ ?_; (· omega); (· omega)) | (refine m_idx_sl rfl rfl ?_ ?_ ?_; (· omega); (· omega)) | (apply m_st; (· rfl); (· rfl); (· rfl); (· first | omega | (simp; done) | (simp; omega)); (· rfl)) | (refine m_stall rfl rfl rfl ?_ ?_ ?_ ?_; (· first | rfl | (simp [*]; done)); (· first | rfl | (simp [*]; done)); (· first | rfl | (simp [cellOk, Value.oneCell']; done))))) | refine end_ops ?_ | refine seq_ops ?_ | refine AW_ops ?_ | (refine cond_t rfl ?_ ?_; (· first | rfl | assumption | (refine decide_eq_true ?_; first | assumption | omega) | (refine nt ?_; first | assumption | omega) | (simp [*]; done))) | (refine cond_f rfl ?_ ?_; (· first | rfl | assumption | (refine decide_eq_false ?_; first | assumption | omega) | (refine nf ?_; first | assumption | omega) | (simp [*]; done))) | refine skip_then ?_ | refine AW_seq ?_ | refine AW_ret ?_ | refine ret_done ?_ | refine norm_then ?_ | refine ret_then ?_ | refine exit_then ?_ | refine AW_block ?_ | refine norm_block ?_ | refine ret_block ?_ | refine ret_round ?_ | refine exit_round ?_ | refine AW_exit ?_ | refine exit_block ?_ | (refine exit_other ?_ ?_; (· decide)) | refine AW_skip ?_)
    refine step_ops ?_
    refine m_st (by rfl) (by rfl) (by rfl) ?_ ?_ ?_
    · simp [marked_len, hj, h]
    · rfl
    repeat (first | (refine step_ops ?_; (first | (refine m_mov (by conv => lhs; whnf) ?_) | (refine m_lss rfl rfl ?_) | (refine m_add rfl rfl ?_ ?_ ?_; (· omega); (· omega)) | (refine m_adds rfl rfl ?_ ?_; (· first | omega | (simp; omega))) | (refine m_len_ro rfl ?_) | (refine m_len_sl rfl ?_) | (refine m_len_nil rfl ?_) | (refine m_idx1_ro rfl rfl ?_ ?_; (· omega)) | (refine m_idx1_sl rfl rfl ?_ ?_; (· omega)) | (apply m_idx1_slj; (· rfl); (· rfl); (· assumption); (· omega)) | (apply m_idx1_roj; (· rfl); (· rfl); (· assumption); (· omega)) | (refine m_idx_ro rfl rfl ?_ ?_ ?_; (· omega); (· omega)) | (refine m_idx_sl rfl rfl ?_ ?_ ?_; (· omega); (· omega)) | (apply m_st; (· rfl); (· rfl); (· rfl); (· first | omega | (simp; done) | (simp; omega)); (· rfl)) | (refine m_stall rfl rfl rfl ?_ ?_ ?_ ?_; (· first | rfl | (simp [*]; done)); (· first | rfl | (simp [*]; done)); (· first | rfl | (simp [cellOk, Value.oneCell']; done))))) | refine end_ops ?_ | refine seq_ops ?_ | refine AW_ops ?_ | (refine cond_t rfl ?_ ?_; (· first | rfl | assumption | (refine decide_eq_true ?_; first | assumption | omega) | (refine nt ?_; first | assumption | omega) | (simp [*]; done))) | (refine cond_f rfl ?_ ?_; (· first | rfl | assumption | (refine decide_eq_false ?_; first | assumption | omega) | (refine nf ?_; first | assumption | omega) | (simp [*]; done))) | refine skip_then ?_ | refine AW_seq ?_ | refine AW_ret ?_ | refine ret_done ?_ | refine norm_then ?_ | refine ret_then ?_ | refine exit_then ?_ | refine AW_block ?_ | refine norm_block ?_ | refine ret_block ?_ | refine ret_round ?_ | refine exit_round ?_ | refine AW_exit ?_ | refine exit_block ?_ | (refine exit_other ?_ ?_; (· decide)) | refine AW_skip ?_)
    refine next_round (j + 1) ?_ (weak_st ?_ ?_ rfl rfl) ?_
    · omega
    · refine ⟨rfl, ?_, rfl, trivial⟩
      show AV.i (k + (j : Int) + 1) = AV.i (k + ((j + 1 : Nat) : Int))
      rw [Int.add_assoc]; rfl
    · refine ⟨?_, trivial⟩
      show some (true, ((marked L k j).map AV.i).set j (AV.i (k + j))) = _
      rw [← marked_set L k j h, List.map_set]
    · omega
  · repeat (first | (refine step_ops ?_; (first | (refine m_mov (by conv => lhs; whnf) ?_) | (refine m_lss rfl rfl ?_) | (refine m_add rfl rfl ?_ ?_ ?_; (· omega); (· omega)) | (refine m_adds rfl rfl ?_ ?_; (· first | omega | (simp; omega))) | (refine m_len_ro rfl ?_) | (refine m_len_sl rfl ?_) | (refine m_len_nil rfl ?_) | (refine m_idx1_ro rfl rfl ?_ ?_; (· omega)) | (refine m_idx1_sl rfl rfl ?_ ?_; (· omega)) | (apply m_idx1_slj; (· rfl); (· rfl); (· assumption); (· omega)) | (apply m_idx1_roj; (· rfl); (· rfl); (· assumption); (· omega)) | (refine m_idx_ro rfl rfl ?_ ?_ ?_; (· omega); (· omega)) | (refine m_idx_sl rfl rfl ?_ ?_ ?_; (· omega); (· omega)) | (apply m_st; (· rfl); (· rfl); (· rfl); (· first | omega | (simp; done) | (simp; omega)); (· rfl)) | (refine m_stall rfl rfl rfl ?_ ?_ ?_ ?_; (· first | rfl | (simp [*]; done)); (· first | rfl | (simp [*]; done)); (· first | rfl | (simp [cellOk, Value.oneCell']; done))))) | refine end_ops ?_ | refine seq_ops ?_ | refine AW_ops ?_ | (refine cond_t rfl ?_ ?_; (· first | rfl | assumption | (refine decide_eq_true ?_; first | assumption | omega) | (refine nt ?_; first | assumption | omega) | (simp [*]; done))) | (refine cond_f rfl ?_ ?_; (· first | rfl | assumption | (refine decide_eq_false ?_; first | assumption | omega) | (refine nf ?_; first | assumption | omega) | (simp [*]; done))) | refine skip_then ?_ | refine AW_seq ?_ | refine AW_ret ?_ | refine ret_done ?_ | refine norm_then ?_ | refine ret_then ?_ | refine exit_then ?_ | refine AW_block ?_ | refine norm_block ?_ | refine ret_block ?_ | refine ret_round ?_ | refine exit_round ?_ | refine AW_exit ?_ | refine exit_block ?_ | (refine exit_other ?_ ?_; (· decide)) | refine AW_skip ?_)
    obtain rfl : j = L.length := by omega
    refine ret_donem ?_ ?_
    · rfl
    · show some (true, (marked L k L.length).map AV.i) = _
      rw [marked_all]
theorem heldIntS_spec (L : List Int) (k : Int) (hL : L.length ≤ 1048576) (h0 : 0 ≤ k) (h1 : k ≤ 1099511627776) :
    Sp Tryd.prog 13 [ints L, .i k] (.i (if L = marks k L.length then k + L.length else -1)) := by
  refine spec_of Tryd.func13 rfl cc13 rfl ?_
  unfold ac13
  repeat (first | (refine step_ops ?_; (first | (refine m_mov (by conv => lhs; whnf) ?_) | (refine m_lss rfl rfl ?_) | (refine m_neq rfl rfl ?_) | (refine m_neqk rfl rfl ?_) | (refine m_neqs_self rfl rfl ?_) | (refine m_neqs rfl rfl ?_) | (refine m_add rfl rfl ?_ ?_ ?_; (· omega); (· omega)) | (refine m_adds rfl rfl ?_ ?_; (· first | omega | (simp; omega))) | (refine m_len_ro rfl ?_) | (refine m_len_sl rfl ?_) | (refine m_len_nil rfl ?_) | (refine m_idx1_ro rfl rfl ?_ ?_; (· omega)) | (refine m_idx1_sl rfl rfl ?_ ?_; (· omega)) | (apply m_idx1_slj; (· rfl); (· rfl); (· assumption); (· omega)) | (apply m_idx1_roj; (· rfl); (· rfl); (· assumption); (· omega)) | (refine m_idx_ro rfl rfl ?_ ?_ ?_; (· omega); (· omega)) | (refine m_idx_sl rfl rfl ?_ ?_ ?_; (· omega); (· omega)) | (refine m_ld_rpi rfl ?_ ?_; (· omega)) | (refine m_ld_pti rfl (by rfl) ?_ ?_; (· first | omega | (simp; omega))) | (apply m_ld_ptb; (· rfl); (· rfl); (· assumption)) | (apply m_ld_rp; (· rfl); (· rfl)) | (apply m_ld_pt; (· rfl); (· rfl); (· rfl)))) | refine end_ops ?_ | refine seq_ops ?_ | refine AW_ops ?_ | (refine cond_t rfl ?_ ?_; (· first | rfl | assumption | (refine decide_eq_true ?_; first | assumption | omega) | (refine nt ?_; first | assumption | omega) | (simp [*]; done))) | (refine cond_f rfl ?_ ?_; (· first | rfl | assumption | (refine decide_eq_false ?_; first | assumption | omega) | (refine nf ?_; first | assumption | omega) | (simp [*]; done))) | refine skip_then ?_ | refine AW_seq ?_ | refine AW_ret ?_ | refine ret_done ?_ | refine norm_then ?_ | refine ret_then ?_ | refine exit_then ?_ | refine AW_block ?_ | refine norm_block ?_ | refine ret_block ?_ | refine ret_round ?_ | refine exit_round ?_ | refine AW_exit ?_ | refine exit_block ?_ | (refine exit_other ?_ ?_; (· decide)) | refine AW_skip ?_)
  refine AW_loop (α := Nat) (fun j => j ≤ L.length ∧ L.take j = marks k j) (fun j => st [(0, ints L), (1, .i (k + j)), (5, .i j)] []) (fun j => L.length - j) 0 (by simp [marks]) (weak_st ?_ ?_ rfl rfl) ?_
  · refine ⟨rfl, ?_, rfl, trivial⟩
    show AV.i k = AV.i (k + (0 : Nat))
    simp
  · trivial
  rintro j ⟨hj, he⟩
  by_cases h : j < L.length
  · by_cases hx : L.getD j 0 = k + j
    · repeat (first | (refine step_ops ?_; (first | (refine m_mov (by conv => lhs; whnf) ?_) | (refine m_lss rfl rfl ?_) | (refine m_neq rfl rfl ?_) | (refine m_neqk rfl rfl ?_) | (refine m_neqs_self rfl rfl ?_) | (refine m_neqs rfl rfl ?_) | (refine m_add rfl rfl ?_ ?_ ?_; (· omega); (· omega)) | (refine m_adds rfl rfl ?_ ?_; (· first | omega | (simp; omega))) | (refine m_len_ro rfl ?_) | (refine m_len_sl rfl ?_) | (refine m_len_nil rfl ?_) | (refine m_idx1_ro rfl rfl ?_ ?_; (· omega)) | (refine m_idx1_sl rfl rfl ?_ ?_; (· omega)) | (apply m_idx1_slj; (· rfl); (· rfl); (· assumption); (· omega)) | (apply m_idx1_roj; (· rfl); (· rfl); (· assumption); (· omega)) | (refine m_idx_ro rfl rfl ?_ ?_ ?_; (· omega); (· omega)) | (refine m_idx_sl rfl rfl ?_ ?_ ?_; (· omega); (· omega)) | (refine m_ld_rpi rfl ?_ ?_; (· omega)) | (refine m_ld_pti rfl (by rfl) ?_ ?_; (· first | omega | (simp; omega))) | (apply m_ld_ptb; (· rfl); (· rfl); (· assumption)) | (apply m_ld_rp; (· rfl); (· rfl)) | (apply m_ld_pt; (· rfl); (· rfl); (· rfl)))) | refine end_ops ?_ | refine seq_ops ?_ | refine AW_ops ?_ | (refine cond_t rfl ?_ ?_; (· first | rfl | assumption | (refine decide_eq_true ?_; first | assumption | omega) | (refine nt ?_; first | assumption | omega) | (simp [*]; done))) | (refine cond_f rfl ?_ ?_; (· first | rfl | assumption | (refine decide_eq_false ?_; first | assumption | omega) | (refine nf ?_; first | assumption | omega) | (simp [*]; done))) | refine skip_then ?_ | refine AW_seq ?_ | refine AW_ret ?_ | refine ret_done ?_ | refine norm_then ?_ | refine ret_then ?_ | refine exit_then ?_ | refine AW_block ?_ | refine norm_block ?_ | refine ret_block ?_ | refine ret_round ?_ | refine exit_round ?_ | refine AW_exit ?_ | refine exit_block ?_ | (refine exit_other ?_ ?_; (· decide)) | refine AW_skip ?_)
      refine next_round (j + 1) ⟨by omega, ?_⟩ (weak_st ?_ ?_ rfl rfl) ?_
      · rw [take_snoc L j 0 h, marks_succ, he, hx]
      · refine ⟨rfl, ?_, rfl, trivial⟩
        show AV.i (k + (j : Int) + 1) = AV.i (k + ((j + 1 : Nat) : Int))
        rw [Int.add_assoc]; rfl
      · trivial
      · omega
    · repeat (first | (refine step_ops ?_; (first | (refine m_mov (by conv => lhs; whnf) ?_) | (refine m_lss rfl rfl ?_) | (refine m_neq rfl rfl ?_) | (refine m_neqk rfl rfl ?_) | (refine m_neqs_self rfl rfl ?_) | (refine m_neqs rfl rfl ?_) | (refine m_add rfl rfl ?_ ?_ ?_; (· omega); (· omega)) | (refine m_adds rfl rfl ?_ ?_; (· first | omega | (simp; omega))) | (refine m_len_ro rfl ?_) | (refine m_len_sl rfl ?_) | (refine m_len_nil rfl ?_) | (refine m_idx1_ro rfl rfl ?_ ?_; (· omega)) | (refine m_idx1_sl rfl rfl ?_ ?_; (· omega)) | (apply m_idx1_slj; (· rfl); (· rfl); (· assumption); (· omega)) | (apply m_idx1_roj; (· rfl); (· rfl); (· assumption); (· omega)) | (refine m_idx_ro rfl rfl ?_ ?_ ?_; (· omega); (· omega)) | (refine m_idx_sl rfl rfl ?_ ?_ ?_; (· omega); (· omega)) | (refine m_ld_rpi rfl ?_ ?_; (· omega)) | (refine m_ld_pti rfl (by rfl) ?_ ?_; (· first | omega | (simp; omega))) | (apply m_ld_ptb; (· rfl); (· rfl); (· assumption)) | (apply m_ld_rp; (· rfl); (· rfl)) | (apply m_ld_pt; (· rfl); (· rfl); (· rfl)))) | refine end_ops ?_ | refine seq_ops ?_ | refine AW_ops ?_ | (refine cond_t rfl ?_ ?_; (· first | rfl | assumption | (refine decide_eq_true ?_; first | assumption | omega) | (refine nt ?_; first | assumption | omega) | (simp [*]; done))) | (refine cond_f rfl ?_ ?_; (· first | rfl | assumption | (refine decide_eq_false ?_; first | assumption | omega) | (refine nf ?_; first | assumption | omega) | (simp [*]; done))) | refine skip_then ?_ | refine AW_seq ?_ | refine AW_ret ?_ | refine ret_done ?_ | refine norm_then ?_ | refine ret_then ?_ | refine exit_then ?_ | refine AW_block ?_ | refine norm_block ?_ | refine ret_block ?_ | refine ret_round ?_ | refine exit_round ?_ | refine AW_exit ?_ | refine exit_block ?_ | (refine exit_other ?_ ?_; (· decide)) | refine AW_skip ?_)
      refine outs_i ?_
      rw [if_neg]
      intro e
      apply hx
      rw [e]
      simp [marks, h]
  · repeat (first | (refine step_ops ?_; (first | (refine m_mov (by conv => lhs; whnf) ?_) | (refine m_lss rfl rfl ?_) | (refine m_neq rfl rfl ?_) | (refine m_neqk rfl rfl ?_) | (refine m_neqs_self rfl rfl ?_) | (refine m_neqs rfl rfl ?_) | (refine m_add rfl rfl ?_ ?_ ?_; (· omega); (· omega)) | (refine m_adds rfl rfl ?_ ?_; (· first | omega | (simp; omega))) | (refine m_len_ro rfl ?_) | (refine m_len_sl rfl ?_) | (refine m_len_nil rfl ?_) | (refine m_idx1_ro rfl rfl ?_ ?_; (· omega)) | (refine m_idx1_sl rfl rfl ?_ ?_; (· omega)) | (apply m_idx1_slj; (· rfl); (· rfl); (· assumption); (· omega)) | (apply m_idx1_roj; (· rfl); (· rfl); (· assumption); (· omega)) | (refine m_idx_ro rfl rfl ?_ ?_ ?_; (· omega); (· omega)) | (refine m_idx_sl rfl rfl ?_ ?_ ?_; (· omega); (· omega)) | (refine m_ld_rpi rfl ?_ ?_; (· omega)) | (refine m_ld_pti rfl (by rfl) ?_ ?_; (· first | omega | (simp; omega))) | (apply m_ld_ptb; (· rfl); (· rfl); (· assumption)) | (apply m_ld_rp; (· rfl); (· rfl)) | (apply m_ld_pt; (· rfl); (· rfl); (· rfl)))) | refine end_ops ?_ | refine seq_ops ?_ | refine AW_ops ?_ | (refine cond_t rfl ?_ ?_; (· first | rfl | assumption | (refine decide_eq_true ?_; first | assumption | omega) | (refine nt ?_; first | assumption | omega) | (simp [*]; done))) | (refine cond_f rfl ?_ ?_; (· first | rfl | assumption | (refine decide_eq_false ?_; first | assumption | omega) | (refine nf ?_; first | assumption | omega) | (simp [*]; done))) | refine skip_then ?_ | refine AW_seq ?_ | refine AW_ret ?_ | refine ret_done ?_ | refine norm_then ?_ | refine ret_then ?_ | refine exit_then ?_ | refine AW_block ?_ | refine norm_block ?_ | refine ret_block ?_ | refine ret_round ?_ | refine exit_round ?_ | refine AW_exit ?_ | refine exit_block ?_ | (refine exit_other ?_ ?_; (· decide)) | refine AW_skip ?_)
    obtain rfl : j = L.length := by omega
    refine outs_i ?_
    rw [if_pos]
    rw [← he, List.take_length]
theorem heldMarks_spec (k : Int) (n : Nat) (hL : n ≤ 1048576) (h0 : 0 ≤ k) (h1 : k ≤ 1099511627776) :
    Sp Tryd.prog 13 [ints (marks k n), .i k] (.i (k + n)) := by
  have h := heldIntS_spec (marks k n) k (by rw [marks_len]; exact hL) h0 h1
  rwa [marks_len, if_pos rfl] at h
end Go.Proofs.YtojpcpdbnmnknaaDoor
namespace Go.Am
theorem m_ori {P : Program} {own : Bool} {s : AS} {K : AS → Prop} {d : Option Nat} {x y : Opd} {a b z : Nat} (hx : s.ev x = .i (a : Nat)) (hy : s.ev y = .i (b : Nat)) (ha : a < 65536) (hb : b < 65536) (hz : a ||| b = z) (kk : K (s.put d (.i (z : Nat)))) : aop1 P own ⟨d, .bin .or x y, none⟩ s K := by
  subst hz
  refine ⟨_, _, _, hx, hy, ?_, kk⟩
  show some (Value.int .i64 (IntKind.i64.wrap ((BitVec.ofInt IntKind.i64.bits (a : Int) ||| BitVec.ofInt IntKind.i64.bits (b : Int)).toNat : Int))) = _
  have h1 : ∀ {c : Nat}, c < 65536 → (BitVec.ofInt IntKind.i64.bits (c : Int)).toNat = c := by
    intro c hc
    show (BitVec.ofInt 64 (c : Int)).toNat = c
    rw [BitVec.ofInt_natCast, BitVec.toNat_ofNat]
    omega
  have h3 := or16_lt ha hb
  have h5 : IntKind.i64.wrap ((a ||| b : Nat) : Int) = ((a ||| b : Nat) : Int) := by
    rw [IntKind.wrap_i64]
    generalize a ||| b = z at *
    omega
  rw [BitVec.toNat_or, h1 ha, h1 hb, h5]
theorem m_andz {P : Program} {own : Bool} {s : AS} {K : AS → Prop} {d : Option Nat} {x y : Opd} {a z : Nat} (hx : s.ev x = .i (a : Nat)) (hy : s.ev y = .i 1) (ha : a < 4611686018427387904) (hz : a &&& 1 = z) (kk : K (s.put d (.i (z : Nat)))) : aop1 P own ⟨d, .bin .and x y, none⟩ s K := by
  subst hz
  exact m_andi1 hx hy ha kk
theorem m_shlz {P : Program} {own : Bool} {s : AS} {K : AS → Prop} {d : Option Nat} {x y : Opd} {k z : Nat} (hx : s.ev x = .i 1) (hy : s.ev y = .i (k : Nat)) (hk : k < 62) (hz : 2 ^ k = z) (kk : K (s.put d (.i (z : Nat)))) : aop1 P own ⟨d, .bin .shl x y, none⟩ s K := by
  subst hz
  exact m_shli hx hy hk kk
theorem bitz {a k : Nat} (h : a.testBit k = false) : (a >>> k) &&& 1 = 0 := by
  have := bit_and a k
  have h1 : (a >>> k) &&& 1 ≤ 1 := Nat.and_le_right
  rw [h] at this
  have := of_decide_eq_false this
  omega
theorem bit1 {a k : Nat} (h : a.testBit k = true) : (a >>> k) &&& 1 = 1 := by
  have := bit_and a k
  rw [h] at this
  exact of_decide_eq_true this
/-- A list by its numbers. -/
def rgL (n : Nat) (f : Nat → Nat) : List Int := (List.range (n + 1)).map fun k => ((f k : Nat) : Int)
theorem rgL_len (n : Nat) (f : Nat → Nat) : (rgL n f).length = n + 1 := by simp [rgL]
theorem rgL_get {n k : Nat} (f : Nat → Nat) (h : k < n + 1) : (rgL n f).getD k 0 = (f k : Int) := by simp [rgL, h]
theorem rgL_congr {n : Nat} {f g : Nat → Nat} (h : ∀ k, k < n + 1 → f k = g k) : rgL n f = rgL n g := by
  refine List.map_congr_left fun k hk => ?_
  rw [h k (List.mem_range.1 hk)]
theorem rgL_set {n k : Nat} {f : Nat → Nat} (m : Nat) (h : k < n + 1) : (rgL n f).set k ((rgL n f).getD k 0 + (m : Nat)) = rgL n fun j => f j + if j = k then m else 0 := by
  apply List.ext_getElem?
  intro j
  rw [List.getElem?_set, rgL_get f h, rgL_len]
  by_cases e : k = j
  · subst e
    simp [rgL, h]
  · rw [if_neg e]
    by_cases hj : j < n + 1
    · have : ¬ j = k := fun e2 => e e2.symm
      simp [rgL, hj, this]
    · simp [rgL, hj]
theorem rgL_zero (n : Nat) : List.replicate (n + 1) 0 = rgL n fun _ => 0 := by
  unfold rgL
  symm
  rw [List.eq_replicate_iff]
  refine ⟨by simp, fun b hb => ?_⟩
  obtain ⟨k, _, rfl⟩ := List.mem_map.1 hb
  rfl
theorem zerosL (n : Nat) : (List.replicate (n + 1) (List.map AV.v [Value.int .i64 0])).flatten = (rgL n fun _ => 0).map AV.i := by
  rw [← rgL_zero]
  generalize n + 1 = k
  induction k with
  | zero => rfl
  | succ k ih => rw [List.replicate_succ, List.flatten_cons, ih]; rfl
theorem m_mk0 {P : Program} {own : Bool} {s : AS} {K : AS → Prop} {x y : Opd} {r bs n : Nat} (hx : s.ev x = .i ((n + 1 : Nat) : Int)) (hy : s.ev y = .i ((n + 1 : Nat) : Int)) (h1 : (bs : Int) * ((n + 1 : Nat) : Int) ≤ 281474976710656) (h2 : ((n + 1 : Nat) : Int) ≤ 9223372036854775807)
    (k : K (((s.kill r).mem r (true, (rgL n fun _ => 0).map AV.i)).put (some r) (.sl r 1 0 (n + 1)))) : aop1 P own ⟨some r, .mk 1 bs [.int .i64 0] x y, none⟩ s K := by
  refine m_mk hx hy h1 h2 ?_
  rw [zerosL]
  exact k
theorem sumN_le' {f : Nat → Nat} {b n : Nat} (h : ∀ c, c < n → f c ≤ b) : sumN n f ≤ n * b := by
  rw [← sumN_const]
  exact sumN_le h
end Go.Am
namespace Go.Proofs.YtojpcpdbnmnknaaDoor
open Go.Am
attribute [local irreducible] AW Outs Weak Lends Lend Sp aops atree aop1 Then Round InBlock Done
attribute [local irreducible] SpH SpX DoneH DoneX
def rgR (n : Nat) (f : Nat → Nat) : AV := .ro true 1 ((rgL n f).map AV.i) (n + 1)
/-- What a column adds to a number of rooks. -/
def rkT (B : List UInt8) (m S k j : Nat) : Nat := if fbB B (sdB B - (m + 1)) j && !S.testBit j then (match k with | 0 => 0 | q + 1 => rkG (fbB B) (sdB B) m (insC S j) q) else 0
theorem rkG_le9 {B : List UInt8} (h : GoodBd B) {m : Nat} (hm : m ≤ 8) (S k : Nat) : rkG (fbB B) (sdB B) m S k ≤ 43046721 := by
  have hsd := good_sd h
  exact Nat.le_trans (rkG_le m S k) (Nat.le_trans (Nat.pow_le_pow_left (by omega : sdB B + 1 ≤ 9) _) (Nat.le_trans (Nat.pow_le_pow_right (by omega) hm) (by decide)))
theorem rkT_le9 {B : List UInt8} (h : GoodBd B) {m : Nat} (hm : m ≤ 8) (S k j : Nat) : rkT B m S k j ≤ 43046721 := by
  unfold rkT
  split
  · cases k with
    | zero => exact Nat.zero_le _
    | succ q => exact rkG_le9 h hm _ q
  · omega
/-- Numbers of rooks while a column is added. -/
def rkQ (B : List UInt8) (m S j q k : Nat) : Nat := rkG (fbB B) (sdB B) m S k + sumN j (rkT B m S k) + if 1 ≤ k ∧ k ≤ q then rkG (fbB B) (sdB B) m (insC S j) (k - 1) else 0
theorem rkQ_0 (B : List UInt8) (m S j : Nat) : rgL (sdB B) (rkQ B m S j 0) = rgL (sdB B) fun k => rkG (fbB B) (sdB B) m S k + sumN j (rkT B m S k) :=
  rgL_congr fun k _ => by rw [rkQ, if_neg (by omega), Nat.add_zero]
theorem rkQ_skip {B : List UInt8} {m S j q : Nat} (h : rkG (fbB B) (sdB B) m (insC S j) q = 0) : rgL (sdB B) (rkQ B m S j q) = rgL (sdB B) (rkQ B m S j (q + 1)) :=
  rgL_congr fun k _ => by
    unfold rkQ
    by_cases e : k = q + 1
    · subst e
      rw [if_neg (by omega), if_pos (by omega), Nat.add_sub_cancel, h]
    · by_cases h1 : 1 ≤ k ∧ k ≤ q
      · rw [if_pos h1, if_pos (by omega)]
      · rw [if_neg h1, if_neg (by omega)]
theorem rkQ_step (B : List UInt8) (m S j q k : Nat) : rkQ B m S j q k + (if k = q + 1 then rkG (fbB B) (sdB B) m (insC S j) q else 0) = rkQ B m S j (q + 1) k := by
  unfold rkQ
  by_cases e : k = q + 1
  · subst e
    rw [if_neg (by omega), if_pos rfl, if_pos (by omega), Nat.add_sub_cancel]
    omega
  · rw [if_neg e]
    by_cases h1 : 1 ≤ k ∧ k ≤ q
    · rw [if_pos h1, if_pos (by omega)]; rfl
    · rw [if_neg h1, if_neg (by omega)]
theorem rkQ_end {B : List UInt8} {m S j row : Nat} (hr : sdB B - (m + 1) = row) (hf : fbB B row j = true) (hb : S.testBit j = false) : rgL (sdB B) (rkQ B m S j (sdB B + 1)) = rgL (sdB B) fun k => rkG (fbB B) (sdB B) m S k + sumN (j + 1) (rkT B m S k) :=
  rgL_congr fun k hk => by
    unfold rkQ
    rw [sumN, ← Nat.add_assoc]
    congr 1
    have : (fbB B (sdB B - (m + 1)) j && !S.testBit j) = true := by rw [hr, hf, hb]; rfl
    unfold rkT
    rw [if_pos this]
    cases k with
    | zero => rw [if_neg (by omega)]
    | succ k => rw [if_pos (by omega)]; rfl
theorem rkQ_le {B : List UInt8} (h : GoodBd B) {m S j q k : Nat} (hm : m ≤ 8) (hj : j ≤ 8) : rkQ B m S j q k ≤ 1000000000 := by
  have h1 := rkG_le9 h hm S k
  have h2 := sumN_le' (f := rkT B m S k) (b := 43046721) (n := j) fun c _ => rkT_le9 h hm S k c
  have h3 : j * 43046721 ≤ 8 * 43046721 := Nat.mul_le_mul_right _ hj
  have h4 := rkG_le9 h hm (insC S j) (k - 1)
  unfold rkQ
  split <;> omega
theorem bdRooks_spec (B : List UInt8) (h : GoodBd B) (hB : B.length ≤ 1048576) : ∀ m row S, row + m = sdB B → S < 2 ^ sdB B → Sp Tryd.prog 28 [str B, .i (row : Nat), .i (S : Nat)] (rgR (sdB B) (rkG (fbB B) (sdB B) m S)) := by
  have hsd := good_sd h
  intro m
  induction m with
  | zero =>
    intro row S hrow hS
    unfold rgR
    have hrow' : row = sdB B := by omega
    have l0 := rgL_len (sdB B) (fun _ => 0)
    refine spec_of Tryd.func28 rfl cc28 rfl ?_
    unfold ac28
    repeat (first | (refine step_ops ?_; (first | (refine m_mov (by conv => lhs; whnf) ?_) | (refine m_nils ?_))) | refine end_ops ?_ | refine seq_ops ?_)
    (refine step_ops ?_); (apply m_call (bdSide_spec B hB)); (· repeat (first | exact lends_nil | (refine lends_cons ?_ ?_; (· exact lend_v))))
    repeat (first | (refine step_ops ?_; (first | (refine m_mov (by conv => lhs; whnf) ?_) | (refine m_add rfl rfl ?_ ?_ ?_; (· omega); (· omega)))) | refine end_ops ?_ | refine seq_ops ?_)
    refine step_ops ?_
    refine m_mk0 (n := sdB B) rfl rfl (by omega) (by omega) ?_
    repeat (first | (refine step_ops ?_; (first | (refine m_mov (by conv => lhs; whnf) ?_) | (refine m_eql rfl rfl ?_) | (refine m_idx_sl rfl rfl ?_ ?_ ?_; (· omega); (· omega)) | (apply m_st; (· rfl); (· rfl); (· rfl); (· first | omega | (simp; done) | (simp; omega)); (· rfl)))) | refine end_ops ?_ | refine seq_ops ?_ | (refine cond_t rfl ?_ ?_; (· first | rfl | assumption | (refine decide_eq_true ?_; first | assumption | omega) | (refine nt ?_; first | assumption | omega) | (simp [*]; done))) | refine AW_seq ?_ | refine AW_ret ?_ | refine ret_done ?_ | refine ret_then ?_)
    refine outs_sl (z := 1) (n := sdB B + 1) (cs := (rgL (sdB B) (rkG (fbB B) (sdB B) 0 S)).map AV.i) ?_ (by simp [rgL]) (allv_ints _)
    show some (true, List.set (List.map AV.i (rgL (sdB B) fun _ => 0)) 0 (AV.i 1)) = _
    rw [← List.map_set]
    congr 3
    have e := rgL_set (n := sdB B) (k := 0) (f := fun _ => 0) 1 (by omega)
    rw [rgL_get _ (by omega)] at e
    refine e.trans (rgL_congr fun k _ => ?_)
    rw [rkG]
    omega
  | succ m ih =>
    intro row S hrow hS
    have hm8 : m ≤ 8 := by omega
    have hS512 : S < 512 := Nat.lt_of_lt_of_le hS (Nat.pow_le_pow_right (by decide) (by omega : sdB B ≤ 9))
    have hrowm : sdB B - (m + 1) = row := by omega
    unfold rgR
    refine spec_of Tryd.func28 rfl cc28 rfl ?_
    unfold ac28
    repeat (first | (refine step_ops ?_; (first | (refine m_mov (by conv => lhs; whnf) ?_) | (refine m_nils ?_))) | refine end_ops ?_ | refine seq_ops ?_)
    (refine step_ops ?_); (apply m_call (bdSide_spec B hB)); (· repeat (first | exact lends_nil | (refine lends_cons ?_ ?_; (· exact lend_v))))
    repeat (first | (refine step_ops ?_; (first | (refine m_mov (by conv => lhs; whnf) ?_) | (refine m_add rfl rfl ?_ ?_ ?_; (· omega); (· omega)))) | refine end_ops ?_ | refine seq_ops ?_)
    refine step_ops ?_
    refine m_mk0 (n := sdB B) rfl rfl (by omega) (by omega) ?_
    repeat (first | (refine step_ops ?_; (first | (refine m_mov (by conv => lhs; whnf) ?_) | (refine m_eql rfl rfl ?_) | (refine m_add rfl rfl ?_ ?_ ?_; (· omega); (· omega)))) | refine end_ops ?_ | refine seq_ops ?_ | (refine cond_f rfl ?_ ?_; (· first | rfl | assumption | (refine decide_eq_false ?_; first | assumption | omega) | (refine nf ?_; first | assumption | omega) | (simp [*]; done))) | refine skip_then ?_ | refine AW_seq ?_)
    have e1 := ih (row + 1) S (by omega) hS
    unfold rgR at e1
    (refine step_ops ?_); (apply m_call (e1)); (· repeat (first | exact lends_nil | (refine lends_cons ?_ ?_; (· exact lend_v))))
    repeat (first | (refine step_ops ?_; (first | (refine m_mov (by conv => lhs; whnf) ?_) | (refine m_len_ro rfl ?_))) | refine end_ops ?_ | refine AW_block ?_)
    refine AW_loop (α := Nat) (fun k => k ≤ sdB B + 1) (fun k => st [(0, str B), (1, .i (row : Nat)), (2, .i (S : Nat)), (7, .i (sdB B : Nat)), (8, .sl 18 1 0 (sdB B + 1)), (29, .ro true 1 ((rgL (sdB B) (rkG (fbB B) (sdB B) m S)).map AV.i) (sdB B + 1)), (30, .i (sdB B + 1 : Nat)), (31, .i (k : Nat))]
        [(18, (true, (rgL (sdB B) fun j => if j < k then rkG (fbB B) (sdB B) m S j else 0).map AV.i))]) (fun k => sdB B + 1 - k) 0 (by omega) (weak_st ?_ ?_ rfl rfl) ?_
    · (repeat' (first | exact trivial | refine And.intro ?_ ?_)) <;> (first | rfl | skip)
    · (repeat' (first | exact trivial | refine And.intro ?_ ?_)) <;> (first | rfl | skip)
    rintro k hk
    by_cases hk1 : k < sdB B + 1
    · have g1 := rgL_get (rkG (fbB B) (sdB B) m S) hk1
      have g2 := rgL_get (fun j => if j < k then rkG (fbB B) (sdB B) m S j else 0) hk1
      rw [if_neg (by omega)] at g2
      have l1 := rgL_len (sdB B) (rkG (fbB B) (sdB B) m S)
      have l2 := rgL_len (sdB B) (fun j => if j < k then rkG (fbB B) (sdB B) m S j else 0)
      have b1 := rkG_le9 h hm8 S k
      have b2 : 0 ≤ (rgL (sdB B) (rkG (fbB B) (sdB B) m S)).getD k 0 ∧ (rgL (sdB B) (rkG (fbB B) (sdB B) m S)).getD k 0 ≤ 43046721 := by rw [g1]; omega
      have b3 : (rgL (sdB B) (fun j => if j < k then rkG (fbB B) (sdB B) m S j else 0)).getD k 0 = 0 := by rw [g2]; rfl
      repeat (first | (refine step_ops ?_; (first | (refine m_mov (by conv => lhs; whnf) ?_) | (refine m_lss rfl rfl ?_) | (refine m_add rfl rfl ?_ ?_ ?_; (· omega); (· omega)) | (refine m_idx1_ro rfl rfl ?_ ?_; (· omega)) | (refine m_idx1_sl rfl rfl ?_ ?_; (· omega)) | (refine m_ld_rpi rfl ?_ ?_; (· omega)) | (refine m_ld_pti rfl (by rfl) ?_ ?_; (· first | omega | (simp; omega))) | (apply m_st; (· rfl); (· rfl); (· rfl); (· first | omega | (simp; done) | (simp; omega)); (· rfl)))) | refine end_ops ?_ | refine seq_ops ?_ | refine AW_ops ?_ | (refine cond_t rfl ?_ ?_; (· first | rfl | assumption | (refine decide_eq_true ?_; first | assumption | omega) | (refine nt ?_; first | assumption | omega) | (simp [*]; done))) | refine skip_then ?_ | refine AW_seq ?_ | refine norm_then ?_ | refine AW_block ?_ | refine norm_block ?_)
      refine next_round (k + 1) (by omega) (weak_st ?_ ?_ rfl rfl) (by omega)
      · (repeat' (first | exact trivial | refine And.intro ?_ ?_)) <;> (first | rfl | skip)
      · (repeat' (first | exact trivial | refine And.intro ?_ ?_)) <;> (first | rfl | skip)
        show some (true, List.set (List.map AV.i _) k (AV.i _)) = _
        rw [← List.map_set, g1, rgL_set _ hk1]
        congr 3
        refine rgL_congr fun j _ => ?_
        by_cases ej : j = k
        · subst ej; simp
        · by_cases hj : j < k
          · simp [ej, hj, show j < k + 1 by omega]
          · simp [ej, hj, show ¬ j < k + 1 by omega]
    · have hke : k = sdB B + 1 := by omega
      subst hke
      rw [show (rgL (sdB B) fun j => if j < sdB B + 1 then rkG (fbB B) (sdB B) m S j else 0) = rgL (sdB B) (rkG (fbB B) (sdB B) m S) from rgL_congr fun j hj => if_pos hj]
      repeat (first | (refine step_ops ?_; (first | (refine m_mov (by conv => lhs; whnf) ?_) | (refine m_lss rfl rfl ?_))) | refine end_ops ?_ | refine seq_ops ?_ | (refine cond_f rfl ?_ ?_; (· first | rfl | assumption | (refine decide_eq_false ?_; first | assumption | omega) | (refine nf ?_; first | assumption | omega) | (simp [*]; done))) | refine AW_seq ?_ | refine norm_then ?_ | refine exit_then ?_ | refine AW_block ?_ | refine exit_round ?_ | refine AW_exit ?_ | refine exit_block ?_)
      refine AW_loop (α := Nat) (fun j => j ≤ sdB B) (fun j => st [(0, str B), (1, .i (row : Nat)), (2, .i (S : Nat)), (7, .i (sdB B : Nat)), (8, .sl 18 1 0 (sdB B + 1)), (11, .i (j : Nat))]
        [(18, (true, (rgL (sdB B) fun k => rkG (fbB B) (sdB B) m S k + sumN j (rkT B m S k)).map AV.i))]) (fun j => sdB B - j) 0 (by omega) (weak_st ?_ ?_ rfl rfl) ?_
      · (repeat' (first | exact trivial | refine And.intro ?_ ?_)) <;> (first | rfl | skip)
      · (repeat' (first | exact trivial | refine And.intro ?_ ?_)) <;> (first | rfl | skip)
      rintro j hj
      by_cases hj1 : j < sdB B
      · have hsh : S >>> j < 512 := Nat.lt_of_le_of_lt (Nat.shiftRight_le S j) hS512
        have skipT : (∀ k, rkT B m S k j = 0) → (rgL (sdB B) fun k => rkG (fbB B) (sdB B) m S k + sumN j (rkT B m S k)) = rgL (sdB B) fun k => rkG (fbB B) (sdB B) m S k + sumN (j + 1) (rkT B m S k) := fun h0 =>
          rgL_congr fun k _ => by rw [sumN, h0 k, Nat.add_zero]
        by_cases hbit : S.testBit j = true
        · have hz := bit1 hbit
          repeat (first | (refine step_ops ?_; (first | (refine m_mov (by conv => lhs; whnf) ?_) | (refine m_lss rfl rfl ?_))) | refine end_ops ?_ | refine seq_ops ?_ | (refine cond_t rfl ?_ ?_; (· first | rfl | assumption | (refine decide_eq_true ?_; first | assumption | omega) | (refine nt ?_; first | assumption | omega) | (simp [*]; done))) | refine skip_then ?_ | refine AW_seq ?_ | refine AW_block ?_)
          refine step_ops ?_
          refine m_shri (a := S) (k := j) rfl rfl (by omega) ?_
          refine step_ops ?_
          refine m_andz (a := S >>> j) (z := 1) rfl rfl (by omega) hz ?_
          repeat (first | (refine step_ops ?_; (first | (first | (refine m_mov (by conv => lhs; whnf) ?_) | (refine m_eql rfl rfl ?_) | (refine m_add rfl rfl ?_ ?_ ?_; (· omega); (· omega)) | (refine m_pick_f rfl ?_ (by conv => lhs; whnf) ?_; (· first | rfl | assumption | (refine decide_eq_false ?_; first | assumption | omega) | (refine nf ?_; first | assumption | omega) | (simp [*]; done)))) | (refine g_noT rfl ?_ ?_; (· first | rfl | assumption | (refine decide_eq_false ?_; first | assumption | omega) | (refine nf ?_; first | assumption | omega) | (simp [*]; done))))) | refine end_ops ?_ | refine AW_ops ?_ | (refine cond_f rfl ?_ ?_; (· first | rfl | assumption | (refine decide_eq_false ?_; first | assumption | omega) | (refine nf ?_; first | assumption | omega) | (simp [*]; done))) | refine norm_then ?_ | refine norm_block ?_ | refine AW_skip ?_)
          refine next_round (j + 1) (by omega) (weak_st ?_ ?_ rfl rfl) (by omega)
          · (repeat' (first | exact trivial | refine And.intro ?_ ?_)) <;> (first | rfl | skip)
          · (repeat' (first | exact trivial | refine And.intro ?_ ?_)) <;> (first | rfl | skip)
            show some (true, List.map AV.i _) = some (true, List.map AV.i _)
            rw [skipT fun k => by simp [rkT, hbit]]
        · have hbit : S.testBit j = false := by simpa using hbit
          have hz := bitz hbit
          repeat (first | (refine step_ops ?_; (first | (refine m_mov (by conv => lhs; whnf) ?_) | (refine m_lss rfl rfl ?_))) | refine end_ops ?_ | refine seq_ops ?_ | (refine cond_t rfl ?_ ?_; (· first | rfl | assumption | (refine decide_eq_true ?_; first | assumption | omega) | (refine nt ?_; first | assumption | omega) | (simp [*]; done))) | refine skip_then ?_ | refine AW_seq ?_ | refine AW_block ?_)
          refine step_ops ?_
          refine m_shri (a := S) (k := j) rfl rfl (by omega) ?_
          refine step_ops ?_
          refine m_andz (a := S >>> j) (z := 0) rfl rfl (by omega) hz ?_
          repeat (refine step_ops ?_; ((try (refine g_yes rfl ?_ ?_; (· first | rfl | assumption | (refine decide_eq_true ?_; first | assumption | omega) | (refine nt ?_; first | assumption | omega) | (simp [*]; done) | (refine decide_eq_false ?_; first | assumption | omega) | (refine nf ?_; first | assumption | omega)))); (first | (refine m_mov (by conv => lhs; whnf) ?_) | (refine m_eql rfl rfl ?_))))
          (refine step_ops ?_); (refine g_yes rfl ?_ ?_; (· first | (first | rfl | assumption | (refine decide_eq_true ?_; first | assumption | omega) | (refine nt ?_; first | assumption | omega) | (simp [*]; done)) | (first | rfl | assumption | (refine decide_eq_false ?_; first | assumption | omega) | (refine nf ?_; first | assumption | omega) | (simp [*]; done))); (apply m_call (bdAt_spec B h row j (by omega) hj1))); (· repeat (first | exact lends_nil | (refine lends_cons ?_ ?_; (· exact lend_v))))
          by_cases hf : fbB B row j = true
          · repeat (first | (refine step_ops ?_; (first | (refine m_mov (by conv => lhs; whnf) ?_) | (refine m_add rfl rfl ?_ ?_ ?_; (· omega); (· omega)) | (refine m_pick_t rfl ?_ (by conv => lhs; whnf) ?_; (· first | rfl | assumption | (refine decide_eq_true ?_; first | assumption | omega) | (refine nt ?_; first | assumption | omega) | (simp [*]; done))))) | refine end_ops ?_ | refine seq_ops ?_ | (refine cond_t rfl ?_ ?_; (· first | rfl | assumption | (refine decide_eq_true ?_; first | assumption | omega) | (refine nt ?_; first | assumption | omega) | (simp [*]; done))))
            have hT := insC_lt hS hj1
            have hT512 : insC S j < 512 := Nat.lt_of_lt_of_le hT (Nat.pow_le_pow_right (by decide) (by omega : sdB B ≤ 9))
            have h2j : 2 ^ j < 512 := Nat.lt_of_lt_of_le (Nat.pow_lt_pow_right (by decide) (by omega : j < 9)) (by decide)
            refine step_ops ?_
            refine m_shlz (k := j) (z := 2 ^ j) rfl rfl (by omega) rfl ?_
            refine step_ops ?_
            refine m_ori (a := S) (b := 2 ^ j) (z := insC S j) rfl rfl (by omega) (by omega) (by unfold insC; rw [Nat.one_shiftLeft]) ?_
            have e2 := ih (row + 1) (insC S j) (by omega) hT
            unfold rgR at e2
            (refine step_ops ?_); (apply m_call (e2)); (· repeat (first | exact lends_nil | (refine lends_cons ?_ ?_; (· exact lend_v))))
            repeat (first | (refine step_ops ?_; (first | (refine m_mov (by conv => lhs; whnf) ?_) | (refine m_len_ro rfl ?_))) | refine end_ops ?_ | refine AW_block ?_)
            refine AW_loop (α := Nat) (fun q => q ≤ sdB B + 1) (fun q => st [(0, str B), (1, .i (row : Nat)), (2, .i (S : Nat)), (7, .i (sdB B : Nat)), (8, .sl 18 1 0 (sdB B + 1)), (11, .i (j : Nat)),
                (67, .ro true 1 ((rgL (sdB B) (rkG (fbB B) (sdB B) m (insC S j))).map AV.i) (sdB B + 1)), (68, .i (sdB B + 1 : Nat)), (69, .i (q : Nat))]
              [(18, (true, (rgL (sdB B) (rkQ B m S j q)).map AV.i))]) (fun q => sdB B + 1 - q) 0 (by omega) (weak_st ?_ ?_ rfl rfl) ?_
            · (repeat' (first | exact trivial | refine And.intro ?_ ?_)) <;> (first | rfl | skip)
            · (repeat' (first | exact trivial | refine And.intro ?_ ?_)) <;> (first | rfl | skip)
              show some (true, List.map AV.i _) = some (true, List.map AV.i _)
              rw [rkQ_0]
            rintro q hq
            by_cases hq1 : q < sdB B + 1
            · have g1 := rgL_get (rkG (fbB B) (sdB B) m (insC S j)) hq1
              have l1 := rgL_len (sdB B) (rkG (fbB B) (sdB B) m (insC S j))
              have l2 := rgL_len (sdB B) (rkQ B m S j q)
              have b1 := rkG_le9 h hm8 (insC S j) q
              by_cases hv : 0 < rkG (fbB B) (sdB B) m (insC S j) q
              · have hqn : q < sdB B := by
                  rcases Nat.lt_or_ge q (sdB B) with h3 | h3
                  · exact h3
                  · have := rkG_big (fb := fbB B) (n := sdB B) m (insC S j) q (by omega)
                    omega
                have g2 := rgL_get (n := sdB B) (k := q + 1) (rkQ B m S j q) (by omega)
                have b2 := rkQ_le h hm8 (S := S) (j := j) (q := q) (k := q + 1) (by omega)
                have b3 : 0 ≤ (rgL (sdB B) (rkQ B m S j q)).getD (q + 1) 0 ∧ (rgL (sdB B) (rkQ B m S j q)).getD (q + 1) 0 ≤ 1000000000 := by rw [g2]; omega
                have b4 : 0 < (rgL (sdB B) (rkG (fbB B) (sdB B) m (insC S j))).getD q 0 ∧ (rgL (sdB B) (rkG (fbB B) (sdB B) m (insC S j))).getD q 0 ≤ 43046721 := by rw [g1]; omega
                have hq' : 0 + ((q : Int) + 1).toNat * 1 = q + 1 := by omega
                have b5 : 0 ≤ (rgL (sdB B) (rkQ B m S j q)).getD (0 + ((q : Int) + 1).toNat * 1) 0 ∧ (rgL (sdB B) (rkQ B m S j q)).getD (0 + ((q : Int) + 1).toNat * 1) 0 ≤ 1000000000 := by rw [hq']; exact b3
                repeat (first | (refine step_ops ?_; (first | (refine m_mov (by conv => lhs; whnf) ?_) | (refine m_lss rfl rfl ?_) | (refine m_gtr rfl rfl ?_) | (refine m_add rfl rfl ?_ ?_ ?_; (· omega); (· omega)) | (refine m_idx1_ro rfl rfl ?_ ?_; (· omega)) | (refine m_idx_sl rfl rfl ?_ ?_ ?_; (· omega); (· omega)) | (refine m_ld_rpi rfl ?_ ?_; (· omega)) | (refine m_ld_pti rfl (by rfl) ?_ ?_; (· first | omega | (simp; omega))) | (apply m_st; (· rfl); (· rfl); (· rfl); (· first | omega | (simp; done) | (simp; omega)); (· rfl)))) | refine end_ops ?_ | refine seq_ops ?_ | refine AW_ops ?_ | (refine cond_t rfl ?_ ?_; (· first | rfl | assumption | (refine decide_eq_true ?_; first | assumption | omega) | (refine nt ?_; first | assumption | omega) | (simp [*]; done))) | refine skip_then ?_ | refine AW_seq ?_ | refine norm_then ?_ | refine AW_block ?_ | refine norm_block ?_)
                refine next_round (q + 1) (by omega) (weak_st ?_ ?_ rfl rfl) (by omega)
                · (repeat' (first | exact trivial | refine And.intro ?_ ?_)) <;> (first | rfl | skip)
                · (repeat' (first | exact trivial | refine And.intro ?_ ?_)) <;> (first | rfl | skip)
                  show some (true, List.set (List.map AV.i _) _ (AV.i _)) = some (true, List.map AV.i _)
                  rw [← List.map_set, hq', g1, rgL_set _ (by omega)]
                  congr 3
                  refine rgL_congr fun k _ => rkQ_step B m S j q k
              · have b4 : (rgL (sdB B) (rkG (fbB B) (sdB B) m (insC S j))).getD q 0 = 0 := by rw [g1]; omega
                repeat (first | (refine step_ops ?_; (first | (refine m_mov (by conv => lhs; whnf) ?_) | (refine m_lss rfl rfl ?_) | (refine m_gtr rfl rfl ?_) | (refine m_add rfl rfl ?_ ?_ ?_; (· omega); (· omega)) | (refine m_idx1_ro rfl rfl ?_ ?_; (· omega)) | (refine m_ld_rpi rfl ?_ ?_; (· omega)))) | refine end_ops ?_ | refine seq_ops ?_ | refine AW_ops ?_ | (refine cond_t rfl ?_ ?_; (· first | rfl | assumption | (refine decide_eq_true ?_; first | assumption | omega) | (refine nt ?_; first | assumption | omega) | (simp [*]; done))) | (refine cond_f rfl ?_ ?_; (· first | rfl | assumption | (refine decide_eq_false ?_; first | assumption | omega) | (refine nf ?_; first | assumption | omega) | (simp [*]; done))) | refine skip_then ?_ | refine AW_seq ?_ | refine norm_then ?_ | refine AW_block ?_ | refine norm_block ?_ | refine AW_skip ?_)
                refine next_round (q + 1) (by omega) (weak_st ?_ ?_ rfl rfl) (by omega)
                · (repeat' (first | exact trivial | refine And.intro ?_ ?_)) <;> (first | rfl | skip)
                · (repeat' (first | exact trivial | refine And.intro ?_ ?_)) <;> (first | rfl | skip)
                  show some (true, List.map AV.i _) = some (true, List.map AV.i _)
                  rw [rkQ_skip (by omega)]
            · have hqe : q = sdB B + 1 := by omega
              subst hqe
              rw [rkQ_end hrowm hf hbit]
              repeat (first | (refine step_ops ?_; (first | (refine m_mov (by conv => lhs; whnf) ?_) | (refine m_lss rfl rfl ?_) | (refine m_add rfl rfl ?_ ?_ ?_; (· omega); (· omega)))) | refine end_ops ?_ | refine seq_ops ?_ | refine AW_ops ?_ | (refine cond_f rfl ?_ ?_; (· first | rfl | assumption | (refine decide_eq_false ?_; first | assumption | omega) | (refine nf ?_; first | assumption | omega) | (simp [*]; done))) | refine AW_seq ?_ | refine norm_then ?_ | refine exit_then ?_ | refine norm_block ?_ | refine exit_round ?_ | refine AW_exit ?_ | refine exit_block ?_)
              refine next_round (j + 1) (by omega) (weak_st ?_ ?_ rfl rfl) (by omega)
              · (repeat' (first | exact trivial | refine And.intro ?_ ?_)) <;> (first | rfl | skip)
              · (repeat' (first | exact trivial | refine And.intro ?_ ?_)) <;> (first | rfl | skip)
          · have hf : fbB B row j = false := by simpa using hf
            repeat (first | (refine step_ops ?_; (first | (refine m_mov (by conv => lhs; whnf) ?_) | (refine m_add rfl rfl ?_ ?_ ?_; (· omega); (· omega)) | (refine m_pick_t rfl ?_ (by conv => lhs; whnf) ?_; (· first | rfl | assumption | (refine decide_eq_true ?_; first | assumption | omega) | (refine nt ?_; first | assumption | omega) | (simp [*]; done))))) | refine end_ops ?_ | refine AW_ops ?_ | (refine cond_f rfl ?_ ?_; (· first | rfl | assumption | (refine decide_eq_false ?_; first | assumption | omega) | (refine nf ?_; first | assumption | omega) | (simp [*]; done))) | refine norm_then ?_ | refine norm_block ?_ | refine AW_skip ?_)
            refine next_round (j + 1) (by omega) (weak_st ?_ ?_ rfl rfl) (by omega)
            · (repeat' (first | exact trivial | refine And.intro ?_ ?_)) <;> (first | rfl | skip)
            · (repeat' (first | exact trivial | refine And.intro ?_ ?_)) <;> (first | rfl | skip)
              show some (true, List.map AV.i _) = some (true, List.map AV.i _)
              rw [skipT fun k => by simp [rkT, hrowm, hf]]
      · have hje : j = sdB B := by omega
        subst hje
        repeat (first | (refine step_ops ?_; (first | (refine m_mov (by conv => lhs; whnf) ?_) | (refine m_lss rfl rfl ?_))) | refine end_ops ?_ | refine seq_ops ?_ | (refine cond_f rfl ?_ ?_; (· first | rfl | assumption | (refine decide_eq_false ?_; first | assumption | omega) | (refine nf ?_; first | assumption | omega) | (simp [*]; done))) | refine AW_seq ?_ | refine AW_ret ?_ | refine ret_done ?_ | refine norm_then ?_ | refine exit_then ?_ | refine exit_round ?_ | refine AW_exit ?_ | refine exit_block ?_)
        exact outs_sl rfl (by simp [rgL]) (allv_ints _)
end Go.Proofs.YtojpcpdbnmnknaaDoor
namespace Go.Proofs.YtojpcpdbnmnknaaDoor
open Go.Am
attribute [local irreducible] AW Outs Weak Lends Lend Sp aops atree aop1 Then Round InBlock Done
attribute [local irreducible] SpH SpX DoneH DoneX
theorem rgR_new (n : Nat) (f : Nat → Nat) : rgR n f = newInts (rgL n f) := by
  unfold rgR newInts
  rw [rgL_len]
theorem rooks0_spec (B : List UInt8) (h : GoodBd B) (hB : B.length ≤ 1048576) : Sp Tryd.prog 28 [str B, .i 0, .i 0] (newInts (rgL (sdB B) (rkN (fbB B) (sdB B)))) := by
  rw [← rgR_new]
  exact bdRooks_spec B h hB (sdB B) 0 0 (by omega) (Nat.pow_pos (by decide))
theorem rookNew_spec (B : List UInt8) (h : GoodBd B) : Sp Tryd.prog 30 [.agg [.i (sdB B : Nat), .rmp false (mkEs (plB B)) (plB B).length]] (newInts (rgL (sdB B) (rkN (fbB B) (sdB B)))) := by
  rw [← rgR_new]
  exact rookNumbers_spec (fbB B) (sdB B) (good_sd h).1 (good_sd h).2
end Go.Proofs.YtojpcpdbnmnknaaDoor
namespace Go.Am
def fac : Nat → Int
  | 0 => 1
  | n + 1 => fac n * (n + 1)
theorem fac_le : ∀ n < 13, 1 ≤ fac n ∧ fac n ≤ 479001600 := by decide +kernel
def cap : Nat → Int
  | 0 => 479001600
  | s + 1 => 2 * cap s
end Go.Am
namespace Go.Proofs.YtojpcpdbnmnknaaDoor
open Go.Am
attribute [local irreducible] AW Outs Weak Lends Lend Sp aops atree aop1 Then Round InBlock Done
theorem factorial_spec (n : Nat) (h : n ≤ 12) : Sp Tryd.prog 57 [.i n] (.i (fac n)) := by
  refine spec_of Tryd.func57 rfl cc57 rfl ?_
  unfold ac57
  repeat (first | (refine step_ops ?_; (first | (refine m_mov (by conv => lhs; whnf) ?_) | (refine m_leq rfl rfl ?_) | (refine m_add rfl rfl ?_ ?_ ?_; (· omega); (· omega)) | (refine m_adds rfl rfl ?_ ?_; (· first | omega | (simp; omega))) | (refine m_mul rfl rfl ?_ ?_ ?_; (· first | omega | (simp; done)); (· first | omega | (simp; done))))) | refine end_ops ?_ | refine seq_ops ?_ | refine AW_ops ?_ | (refine cond_t rfl ?_ ?_; (· first | rfl | assumption | (refine decide_eq_true ?_; first | assumption | omega) | (refine nt ?_; first | assumption | omega) | (simp [*]; done))) | (refine cond_f rfl ?_ ?_; (· first | rfl | assumption | (refine decide_eq_false ?_; first | assumption | omega) | (refine nf ?_; first | assumption | omega) | (simp [*]; done))) | refine skip_then ?_ | refine AW_seq ?_ | refine AW_ret ?_ | refine ret_done ?_ | refine norm_then ?_ | refine ret_then ?_ | refine exit_then ?_ | refine AW_block ?_ | refine norm_block ?_ | refine ret_block ?_ | refine ret_round ?_ | refine exit_round ?_ | refine AW_exit ?_ | refine exit_block ?_ | (refine exit_other ?_ ?_; (· decide)) | refine AW_skip ?_)
  refine AW_loop (α := Nat) (fun j => j + 1 ≤ n ∨ j = 0) (fun j => st [(0, .i n), (3, .i (fac (j + 1))), (4, .i ((j : Int) + 2))] []) (fun j => n - j) 0 (.inr rfl) (weak_st ?_ ?_ rfl rfl) ?_
  · (repeat' (first | exact trivial | refine And.intro ?_ ?_)) <;> (first | rfl | skip)
  · trivial
  intro j hj
  by_cases hc : (j : Int) + 2 ≤ n
  · have hb := fac_le (j + 2) (by omega)
    have e : fac (j + 2) = fac (j + 1) * ((j : Int) + 2) := rfl
    rw [e] at hb
    repeat (first | (refine step_ops ?_; (first | (refine m_mov (by conv => lhs; whnf) ?_) | (refine m_leq rfl rfl ?_) | (refine m_add rfl rfl ?_ ?_ ?_; (· omega); (· omega)) | (refine m_adds rfl rfl ?_ ?_; (· first | omega | (simp; omega))) | (refine m_mul rfl rfl ?_ ?_ ?_; (· first | omega | (simp; done)); (· first | omega | (simp; done))))) | refine end_ops ?_ | refine seq_ops ?_ | refine AW_ops ?_ | (refine cond_t rfl ?_ ?_; (· first | rfl | assumption | (refine decide_eq_true ?_; first | assumption | omega) | (refine nt ?_; first | assumption | omega) | (simp [*]; done))) | (refine cond_f rfl ?_ ?_; (· first | rfl | assumption | (refine decide_eq_false ?_; first | assumption | omega) | (refine nf ?_; first | assumption | omega) | (simp [*]; done))) | refine skip_then ?_ | refine AW_seq ?_ | refine AW_ret ?_ | refine ret_done ?_ | refine norm_then ?_ | refine ret_then ?_ | refine exit_then ?_ | refine AW_block ?_ | refine norm_block ?_ | refine ret_block ?_ | refine ret_round ?_ | refine exit_round ?_ | refine AW_exit ?_ | refine exit_block ?_ | (refine exit_other ?_ ?_; (· decide)) | refine AW_skip ?_)
    refine next_round (j + 1) (by omega) (weak_st ?_ ?_ rfl rfl) ?_
    · (repeat' (first | exact trivial | refine And.intro ?_ ?_)) <;> (first | rfl | skip)
    · trivial
    · omega
  · repeat (first | (refine step_ops ?_; (first | (refine m_mov (by conv => lhs; whnf) ?_) | (refine m_leq rfl rfl ?_) | (refine m_add rfl rfl ?_ ?_ ?_; (· omega); (· omega)) | (refine m_adds rfl rfl ?_ ?_; (· first | omega | (simp; omega))) | (refine m_mul rfl rfl ?_ ?_ ?_; (· first | omega | (simp; done)); (· first | omega | (simp; done))))) | refine end_ops ?_ | refine seq_ops ?_ | refine AW_ops ?_ | (refine cond_t rfl ?_ ?_; (· first | rfl | assumption | (refine decide_eq_true ?_; first | assumption | omega) | (refine nt ?_; first | assumption | omega) | (simp [*]; done))) | (refine cond_f rfl ?_ ?_; (· first | rfl | assumption | (refine decide_eq_false ?_; first | assumption | omega) | (refine nf ?_; first | assumption | omega) | (simp [*]; done))) | refine skip_then ?_ | refine AW_seq ?_ | refine AW_ret ?_ | refine ret_done ?_ | refine norm_then ?_ | refine ret_then ?_ | refine exit_then ?_ | refine AW_block ?_ | refine norm_block ?_ | refine ret_block ?_ | refine ret_round ?_ | refine exit_round ?_ | refine AW_exit ?_ | refine exit_block ?_ | (refine exit_other ?_ ?_; (· decide)) | refine AW_skip ?_)
    refine outs_i ?_
    rcases hj with hj | rfl
    · have : j + 1 = n := by omega
      rw [this]
    · have : n = 0 ∨ n = 1 := by omega
      rcases this with rfl | rfl <;> rfl
end Go.Proofs.YtojpcpdbnmnknaaDoor
namespace Go.Proofs.YtojpcpdbnmnknaaDoor
open Go.Am
attribute [local irreducible] AW Outs Weak Lends Lend Sp aops atree aop1 Then Round InBlock Done
theorem exTimes_spec (n : Nat) (h : n ≤ 12) : Sp Tryd.prog 55 [.i n] (.i (fac n)) := by
  refine spec_of Tryd.func55 rfl cc55 rfl ?_
  unfold ac55
  repeat (first | (refine step_ops ?_; (first | (refine m_mov (by conv => lhs; whnf) ?_) | (refine m_leq rfl rfl ?_) | (refine m_add rfl rfl ?_ ?_ ?_; (· omega); (· omega)) | (refine m_adds rfl rfl ?_ ?_; (· first | omega | (simp; omega))) | (refine m_mul rfl rfl ?_ ?_ ?_; (· first | omega | (simp; done)); (· first | omega | (simp; done))))) | refine end_ops ?_ | refine seq_ops ?_ | refine AW_ops ?_ | (refine cond_t rfl ?_ ?_; (· first | rfl | assumption | (refine decide_eq_true ?_; first | assumption | omega) | (refine nt ?_; first | assumption | omega) | (simp [*]; done))) | (refine cond_f rfl ?_ ?_; (· first | rfl | assumption | (refine decide_eq_false ?_; first | assumption | omega) | (refine nf ?_; first | assumption | omega) | (simp [*]; done))) | refine skip_then ?_ | refine AW_seq ?_ | refine AW_ret ?_ | refine ret_done ?_ | refine norm_then ?_ | refine ret_then ?_ | refine exit_then ?_ | refine AW_block ?_ | refine norm_block ?_ | refine ret_block ?_ | refine ret_round ?_ | refine exit_round ?_ | refine AW_exit ?_ | refine exit_block ?_ | (refine exit_other ?_ ?_; (· decide)) | refine AW_skip ?_)
  refine AW_loop (α := Nat) (fun j => j + 1 ≤ n ∨ j = 0) (fun j => st [(0, .i n), (3, .i (fac (j + 1))), (4, .i ((j : Int) + 2))] []) (fun j => n - j) 0 (.inr rfl) (weak_st ?_ ?_ rfl rfl) ?_
  · (repeat' (first | exact trivial | refine And.intro ?_ ?_)) <;> (first | rfl | skip)
  · trivial
  intro j hj
  by_cases hc : (j : Int) + 2 ≤ n
  · have hb := fac_le (j + 2) (by omega)
    have e : fac (j + 2) = fac (j + 1) * ((j : Int) + 2) := rfl
    rw [e] at hb
    repeat (first | (refine step_ops ?_; (first | (refine m_mov (by conv => lhs; whnf) ?_) | (refine m_leq rfl rfl ?_) | (refine m_add rfl rfl ?_ ?_ ?_; (· omega); (· omega)) | (refine m_adds rfl rfl ?_ ?_; (· first | omega | (simp; omega))) | (refine m_mul rfl rfl ?_ ?_ ?_; (· first | omega | (simp; done)); (· first | omega | (simp; done))))) | refine end_ops ?_ | refine seq_ops ?_ | refine AW_ops ?_ | (refine cond_t rfl ?_ ?_; (· first | rfl | assumption | (refine decide_eq_true ?_; first | assumption | omega) | (refine nt ?_; first | assumption | omega) | (simp [*]; done))) | (refine cond_f rfl ?_ ?_; (· first | rfl | assumption | (refine decide_eq_false ?_; first | assumption | omega) | (refine nf ?_; first | assumption | omega) | (simp [*]; done))) | refine skip_then ?_ | refine AW_seq ?_ | refine AW_ret ?_ | refine ret_done ?_ | refine norm_then ?_ | refine ret_then ?_ | refine exit_then ?_ | refine AW_block ?_ | refine norm_block ?_ | refine ret_block ?_ | refine ret_round ?_ | refine exit_round ?_ | refine AW_exit ?_ | refine exit_block ?_ | (refine exit_other ?_ ?_; (· decide)) | refine AW_skip ?_)
    refine next_round (j + 1) (by omega) (weak_st ?_ ?_ rfl rfl) ?_
    · (repeat' (first | exact trivial | refine And.intro ?_ ?_)) <;> (first | rfl | skip)
    · trivial
    · omega
  · repeat (first | (refine step_ops ?_; (first | (refine m_mov (by conv => lhs; whnf) ?_) | (refine m_leq rfl rfl ?_) | (refine m_add rfl rfl ?_ ?_ ?_; (· omega); (· omega)) | (refine m_adds rfl rfl ?_ ?_; (· first | omega | (simp; omega))) | (refine m_mul rfl rfl ?_ ?_ ?_; (· first | omega | (simp; done)); (· first | omega | (simp; done))))) | refine end_ops ?_ | refine seq_ops ?_ | refine AW_ops ?_ | (refine cond_t rfl ?_ ?_; (· first | rfl | assumption | (refine decide_eq_true ?_; first | assumption | omega) | (refine nt ?_; first | assumption | omega) | (simp [*]; done))) | (refine cond_f rfl ?_ ?_; (· first | rfl | assumption | (refine decide_eq_false ?_; first | assumption | omega) | (refine nf ?_; first | assumption | omega) | (simp [*]; done))) | refine skip_then ?_ | refine AW_seq ?_ | refine AW_ret ?_ | refine ret_done ?_ | refine norm_then ?_ | refine ret_then ?_ | refine exit_then ?_ | refine AW_block ?_ | refine norm_block ?_ | refine ret_block ?_ | refine ret_round ?_ | refine exit_round ?_ | refine AW_exit ?_ | refine exit_block ?_ | (refine exit_other ?_ ?_; (· decide)) | refine AW_skip ?_)
    refine outs_i ?_
    rcases hj with hj | rfl
    · have : j + 1 = n := by omega
      rw [this]
    · have : n = 0 ∨ n = 1 := by omega
      rcases this with rfl | rfl <;> rfl
end Go.Proofs.YtojpcpdbnmnknaaDoor
namespace Go.Proofs.YtojpcpdbnmnknaaDoor
open Go.Am
attribute [local irreducible] AW Outs Weak Lends Lend Sp aops atree aop1 Then Round InBlock Done
theorem slicesClone_spec (L : List Int) (hL : L.length ≤ 1048576) (h1 : 1 ≤ L.length) : Sp Tryd.prog 69 [ints L] (newInts L) := by
  refine spec_of Tryd.func69 rfl cc69 rfl ?_
  unfold ac69
  repeat (first | (refine step_ops ?_; (first | (refine m_mov (by conv => lhs; whnf) ?_) | (refine m_isnil_x rfl ?_) | (refine m_isnil_ro rfl ?_ ?_; (· omega)) | (refine m_isnil_sl rfl ?_ ?_; (· omega)) | (refine m_nils ?_) | (refine m_bsl0 ?_) | (refine m_app1i rfl (by decide) (by rfl) (by first | rfl | omega | (simp; done)) rfl rfl ?_ (by decide) ?_; (· first | omega | (simp; omega))) | (refine m_app1 rfl (by decide) rfl (by first | (simp; done) | (simp [*]; done) | (simp; omega)) rfl rfl rfl ?_ (by decide) ?_; (· first | omega | (simp; omega))) | (refine m_appro rfl (by decide) rfl (by first | rfl | (simp; done) | (simp [*]; done) | (simp; omega)) rfl (oks_ints _) ?_ (by decide) ?_; (· first | omega | (simp; omega))))) | refine end_ops ?_ | refine seq_ops ?_ | refine AW_ops ?_ | (refine cond_t rfl ?_ ?_; (· first | rfl | assumption | (refine decide_eq_true ?_; first | assumption | omega) | (refine nt ?_; first | assumption | omega) | (simp [*]; done))) | (refine cond_f rfl ?_ ?_; (· first | rfl | assumption | (refine decide_eq_false ?_; first | assumption | omega) | (refine nf ?_; first | assumption | omega) | (simp [*]; done))) | refine skip_then ?_ | refine AW_seq ?_ | refine AW_ret ?_ | refine ret_done ?_ | refine norm_then ?_ | refine ret_then ?_ | refine exit_then ?_ | refine AW_skip ?_)
  exact outs_ints rfl rfl (Nat.zero_add _)
end Go.Proofs.YtojpcpdbnmnknaaDoor
namespace Go.Am
/-- What the machine makes of a number that is too large. -/
def w64 (x : Int) : Int := IntKind.i64.wrap x
section
variable {P : Program} {own : Bool} {s : AS} {K : AS → Prop} {d : Option Nat} {x y : Opd} {a b : Int}
theorem m_subw (hx : s.ev x = .i a) (hy : s.ev y = .i b) (k : K (s.put d (.i (w64 (a - b))))) : aop1 P own ⟨d, .bin .sub x y, none⟩ s K := ⟨_, _, _, hx, hy, rfl, k⟩
theorem m_mulw (hx : s.ev x = .i a) (hy : s.ev y = .i b) (k : K (s.put d (.i (w64 (a * b))))) : aop1 P own ⟨d, .bin .mul x y, none⟩ s K := ⟨_, _, _, hx, hy, rfl, k⟩
end
/-- Choices of k of n; behind j steps. -/
def chy (n k : Nat) : Nat → Int
  | 0 => 1
  | j + 1 => chy n k j * ((n : Int) - k + ((j : Int) + 1)) / ((j : Int) + 1)
theorem chy_le : ∀ n < 9, ∀ k < n + 1, ∀ j < k + 1, (0 ≤ chy n k j ∧ chy n k j ≤ 1000) ∧ 0 ≤ chy n k j * ((n : Int) - k + ((j : Int) + 1)) ∧ chy n k j * ((n : Int) - k + ((j : Int) + 1)) ≤ 100000 := by decide +kernel
theorem chy_bin : ∀ n < 9, ∀ k < n + 1, chy n k k = fac n / (fac k * fac (n - k)) ∧ (1 ≤ fac k * fac (n - k) ∧ fac k * fac (n - k) ≤ 40320) ∧ 1 ≤ fac n ∧ fac n ≤ 40320 := by decide +kernel
/-- What is left of those chosen behind j steps: of k, with the numbers of those that have more. -/
def hF (c : Int) (k : Nat) (rest : List Int) : Nat → Int
  | 0 => c
  | j + 1 => w64 (hF c k rest j - w64 (chy (k + 1 + j) k k * rest.getD j 0))
/-- The last numbers of hits. -/
def hL (C : Nat → Int) (n : Nat) : Nat → List Int
  | 0 => []
  | d + 1 => hF (C (n - d)) (n - d) (hL C n d) d :: hL C n d
theorem hL_len (C : Nat → Int) (n : Nat) : ∀ d, (hL C n d).length = d
  | 0 => rfl
  | d + 1 => by rw [hL, List.length_cons, hL_len C n d]
/-- What is chosen. -/
def chC (f : Nat → Nat) (n k : Nat) : Int := (f k : Int) * fac (n - k)
def chL (f : Nat → Nat) (n k : Nat) : List Int := (List.range k).map fun i => chC f n i
theorem chL_len (f : Nat → Nat) (n k : Nat) : (chL f n k).length = k := by simp [chL]
theorem chC_le {f : Nat → Nat} {n k : Nat} (hf : f k ≤ 43046721) (hn : n ≤ 8) : 0 ≤ chC f n k ∧ chC f n k ≤ 43046721 * 479001600 := by
  have h1 := fac_le (n - k) (by omega)
  unfold chC
  exact ⟨Int.mul_nonneg (by omega) (by omega), Int.mul_le_mul (by omega) h1.2 (by omega) (by omega)⟩
end Go.Am
namespace Go.Proofs.YtojpcpdbnmnknaaDoor
open Go.Am
attribute [local irreducible] AW Outs Weak Lends Lend Sp aops atree aop1 Then Round InBlock Done
attribute [local irreducible] SpH SpX DoneH DoneX
theorem exChooseY_spec (n k : Nat) (hn : n ≤ 8) (hk : k ≤ n) : Sp Tryd.prog 56 [.i n, .i k] (.i (chy n k k)) := by
  refine spec_of Tryd.func56 rfl cc56 rfl ?_
  unfold ac56
  repeat (first | (refine step_ops ?_; (refine m_mov (by conv => lhs; whnf) ?_)) | refine end_ops ?_ | refine seq_ops ?_ | refine AW_seq ?_ | refine AW_block ?_)
  refine AW_loop (α := Nat) (fun j => j ≤ k) (fun j => st [(0, .i n), (1, .i k), (5, .i (chy n k j)), (6, .i ((j : Int) + 1))] []) (fun j => k - j) 0 (by omega) (weak_st ?_ ?_ rfl rfl) ?_
  · (repeat' (first | exact trivial | refine And.intro ?_ ?_)) <;> (first | rfl | skip)
  · trivial
  intro j hj
  have hb := chy_le n (by omega) k (by omega) j (by omega)
  by_cases hc : (j : Int) + 1 ≤ k
  · repeat (first | (refine step_ops ?_; (first | (refine m_mov (by conv => lhs; whnf) ?_) | (refine m_leq rfl rfl ?_) | (refine m_add rfl rfl ?_ ?_ ?_; (· omega); (· omega)) | (refine m_sub rfl rfl ?_ ?_ ?_; (· omega); (· omega)) | (refine m_mul rfl rfl ?_ ?_ ?_; (· first | omega | (simp; done)); (· first | omega | (simp; done))) | (refine m_quo rfl rfl ?_ ?_ ?_ ?_; (· omega); (· omega); (· omega)))) | refine end_ops ?_ | refine seq_ops ?_ | refine AW_ops ?_ | (refine cond_t rfl ?_ ?_; (· first | rfl | assumption | (refine decide_eq_true ?_; first | assumption | omega) | (refine nt ?_; first | assumption | omega) | (simp [*]; done))) | refine skip_then ?_ | refine AW_seq ?_ | refine norm_then ?_ | refine AW_block ?_ | refine norm_block ?_)
    refine next_round (j + 1) (by omega) (weak_st ?_ ?_ rfl rfl) ?_
    · (repeat' (first | exact trivial | refine And.intro ?_ ?_)) <;> (first | rfl | skip)
    · trivial
    · omega
  · repeat (first | (refine step_ops ?_; (first | (refine m_mov (by conv => lhs; whnf) ?_) | (refine m_leq rfl rfl ?_))) | refine end_ops ?_ | refine seq_ops ?_ | (refine cond_f rfl ?_ ?_; (· first | rfl | assumption | (refine decide_eq_false ?_; first | assumption | omega) | (refine nf ?_; first | assumption | omega) | (simp [*]; done))) | refine AW_seq ?_ | refine AW_ret ?_ | refine ret_done ?_ | refine norm_then ?_ | refine exit_then ?_ | refine exit_round ?_ | refine AW_exit ?_ | refine exit_block ?_)
    obtain rfl : j = k := by omega
    exact outs_i rfl
theorem countChoicesY_spec (n k : Nat) (hn : n ≤ 8) (hk : k ≤ n) : Sp Tryd.prog 70 [.i n, .i k] (.i (chy n k k)) := by
  have hb := chy_bin n (by omega) k (by omega)
  rw [hb.1]
  refine spec_of Tryd.func70 rfl cc70 rfl ?_
  unfold ac70
  repeat (first | (refine step_ops ?_; (refine m_mov (by conv => lhs; whnf) ?_)) | refine end_ops ?_ | refine seq_ops ?_)
  (refine step_ops ?_); (apply m_call (factorial_spec n (by omega))); (· repeat (first | exact lends_nil | (refine lends_cons ?_ ?_; (· exact lend_v))))
  repeat (refine step_ops ?_; (refine m_mov (by conv => lhs; whnf) ?_))
  (refine step_ops ?_); (apply m_call (factorial_spec k (by omega))); (· repeat (first | exact lends_nil | (refine lends_cons ?_ ?_; (· exact lend_v))))
  repeat (refine step_ops ?_; (first | (refine m_mov (by conv => lhs; whnf) ?_) | (refine m_sub rfl rfl ?_ ?_ ?_; (· omega); (· omega))))
  rw [show (n : Int) - (k : Int) = ((n - k : Nat) : Int) by omega]
  (refine step_ops ?_); (apply m_call (factorial_spec (n - k) (by omega))); (· repeat (first | exact lends_nil | (refine lends_cons ?_ ?_; (· exact lend_v))))
  repeat (first | (refine step_ops ?_; (first | (refine m_mov (by conv => lhs; whnf) ?_) | (refine m_mul rfl rfl ?_ ?_ ?_; (· first | omega | (simp; done)); (· first | omega | (simp; done))) | (refine m_quo rfl rfl ?_ ?_ ?_ ?_; (· omega); (· omega); (· omega)))) | refine end_ops ?_ | refine AW_ret ?_ | refine ret_done ?_)
  exact outs_i rfl
theorem justSoManyY_spec (f : Nat → Nat) (n : Nat) (h1 : 1 ≤ n) (h8 : n ≤ 8) : Sp Tryd.prog 58 [ints (chL f n (n + 1))] (newInts (hL (chC f n) n (n + 1))) := by
  have hcl := chL_len f n (n + 1)
  refine spec_of Tryd.func58 rfl cc58 rfl ?_
  unfold ac58
  repeat (first | (refine step_ops ?_; (first | (refine m_mov (by conv => lhs; whnf) ?_) | (refine m_nils ?_))) | refine end_ops ?_ | refine seq_ops ?_)
  refine step_ops ?_; (apply m_callo (slicesClone_spec (chL f n (n + 1)) (by omega) (by omega))); (· repeat (first | exact lends_nil | (refine lends_cons ?_ ?_; (· (refine lend_ints ?_; first | rfl | omega))))); (· first | exact allv_ints _ | rfl | (simp; done))
  repeat (first | (refine step_ops ?_; (first | (refine m_mov (by conv => lhs; whnf) ?_) | (refine m_sub rfl rfl ?_ ?_ ?_; (· omega); (· omega)) | (refine m_len_sl rfl ?_))) | refine end_ops ?_ | refine seq_ops ?_ | refine AW_seq ?_ | refine AW_block ?_)
  refine AW_loop (α := Nat) (fun d => d ≤ n + 1) (fun d => st [(3, .sl 7 1 0 (n + 1)), (4, .i (((n + 1 - d : Nat) : Int) - 1))] [(7, (true, (chL f n (n + 1 - d) ++ hL (chC f n) n d).map AV.i))]) (fun d => n + 1 - d) 0 (by omega) (weak_st ?_ ?_ rfl rfl) ?_
  · (repeat' (first | exact trivial | refine And.intro ?_ ?_)) <;> (first | rfl | skip)
    · show AV.sl 7 1 0 (chL f n (n + 1)).length = _
      rw [hcl]
    · show AV.i (((chL f n (n + 1)).length : Nat) - 1 : Int) = _
      rw [hcl]
      rfl
  · (repeat' (first | exact trivial | refine And.intro ?_ ?_)) <;> (first | rfl | skip)
    show some (true, List.map AV.i (chL f n (n + 1))) = some (true, List.map AV.i (chL f n (n + 1) ++ []))
    rw [List.append_nil]
  intro d hd
  have hll := hL_len (chC f n) n d
  by_cases hc : d < n + 1
  · obtain ⟨k, hk⟩ : ∃ k, n - d = k := ⟨_, rfl⟩
    have hkd : n + 1 - d = k + 1 := by omega
    have hcs : chL f n (k + 1) = chL f n k ++ [chC f n k] := by simp [chL, List.range_succ]
    rw [hkd, show ((k + 1 : Nat) : Int) - 1 = (k : Int) by omega, hcs, List.append_assoc, List.singleton_append]
    have hlk := chL_len f n k
    repeat (first | (refine step_ops ?_; (first | (refine m_mov (by conv => lhs; whnf) ?_) | (refine m_geq rfl rfl ?_) | (refine m_add rfl rfl ?_ ?_ ?_; (· omega); (· omega)))) | refine end_ops ?_ | refine seq_ops ?_ | (refine cond_t rfl ?_ ?_; (· first | rfl | assumption | (refine decide_eq_true ?_; first | assumption | omega) | (refine nt ?_; first | assumption | omega) | (simp [*]; done))) | refine skip_then ?_ | refine AW_seq ?_ | refine AW_block ?_)
    refine AW_loop (α := Nat) (fun j => j ≤ d) (fun j => st [(3, .sl 7 1 0 (n + 1)), (4, .i k), (5, .i ((k + 1 + j : Nat) : Int))] [(7, (true, (chL f n k ++ hF (chC f n k) k (hL (chC f n) n d) j :: hL (chC f n) n d).map AV.i))]) (fun j => d - j) 0 (by omega) (weak_st ?_ ?_ rfl rfl) ?_
    · (repeat' (first | exact trivial | refine And.intro ?_ ?_)) <;> (first | rfl | skip)
    · (repeat' (first | exact trivial | refine And.intro ?_ ?_)) <;> (first | rfl | skip)
    intro j hj
    have hM : (chL f n k ++ hF (chC f n k) k (hL (chC f n) n d) j :: hL (chC f n) n d).length = n + 1 := by
      rw [List.length_append, List.length_cons, hll, hlk]; omega
    by_cases hc2 : j < d
    · have g1 : (chL f n k ++ hF (chC f n k) k (hL (chC f n) n d) j :: hL (chC f n) n d).getD k 0 = hF (chC f n k) k (hL (chC f n) n d) j := by
        rw [List.getD_eq_getElem?_getD, List.getElem?_append_right (by omega), hlk, Nat.sub_self]; rfl
      have g2 : (chL f n k ++ hF (chC f n k) k (hL (chC f n) n d) j :: hL (chC f n) n d).getD (k + 1 + j) 0 = (hL (chC f n) n d).getD j 0 := by
        rw [List.getD_eq_getElem?_getD, List.getElem?_append_right (by omega), hlk, show k + 1 + j - k = j + 1 by omega]; rfl
      repeat (first | ((first | refine step_ops ?_ | refine step_tree ?_); (first | (refine m_mov (by conv => lhs; whnf) ?_) | (refine m_lss rfl rfl ?_) | (refine m_len_sl rfl ?_) | (refine m_idx1_sl rfl rfl ?_ ?_; (· omega)) | (refine m_ld_pti rfl (by rfl) ?_ ?_; (· first | omega | (simp; omega))))) | refine end_ops ?_ | refine seq_ops ?_ | refine AW_tree ?_ | (refine cond_t rfl ?_ ?_; (· first | rfl | assumption | (refine decide_eq_true ?_; first | assumption | omega) | (refine nt ?_; first | assumption | omega) | (simp [*]; done))) | refine skip_then ?_ | refine AW_seq ?_ | refine AW_block ?_)
      refine step_tree ?_; (apply m_call (countChoicesY_spec (k + 1 + j) k (by omega) (by omega))); (· repeat (first | exact lends_nil | (refine lends_cons ?_ ?_; (· exact lend_v))))
      repeat (refine step_tree ?_; (first | (refine m_mov (by conv => lhs; whnf) ?_) | (refine m_idx1_sl rfl rfl ?_ ?_; (· omega)) | (refine m_ld_pti rfl (by rfl) ?_ ?_; (· first | omega | (simp; omega)))))
      refine step_tree ?_
      refine m_mulw rfl rfl ?_
      refine step_tree ?_
      refine m_subw rfl rfl ?_
      repeat (first | ((first | refine step_ops ?_ | refine step_tree ?_); (first | (refine m_mov (by conv => lhs; whnf) ?_) | (refine m_add rfl rfl ?_ ?_ ?_; (· omega); (· omega)) | (refine m_idx1_sl rfl rfl ?_ ?_; (· omega)) | (apply m_st; (· rfl); (· rfl); (· rfl); (· first | omega | (simp; done) | (simp; omega)); (· rfl)))) | refine end_ops ?_ | refine AW_ops ?_ | refine end_tree ?_ | refine norm_then ?_ | refine norm_block ?_)
      refine next_round (j + 1) (by omega) (weak_st ?_ ?_ rfl rfl) (by omega)
      · (repeat' (first | exact trivial | refine And.intro ?_ ?_)) <;> (first | rfl | skip)
      · (repeat' (first | exact trivial | refine And.intro ?_ ?_)) <;> (first | rfl | skip)
        show some (true, List.set (List.map AV.i _) _ (AV.i _)) = some (true, List.map AV.i _)
        rw [g1, g2, ← List.map_set, List.set_append_right _ _ (by omega), hlk, Nat.sub_self, List.set_cons_zero]
        rfl
    · obtain rfl : j = d := by omega
      repeat (first | (refine step_ops ?_; (first | (refine m_mov (by conv => lhs; whnf) ?_) | (refine m_lss rfl rfl ?_) | (refine m_sub rfl rfl ?_ ?_ ?_; (· omega); (· omega)) | (refine m_len_sl rfl ?_))) | refine end_ops ?_ | refine seq_ops ?_ | refine AW_ops ?_ | (refine cond_f rfl ?_ ?_; (· first | rfl | assumption | (refine decide_eq_false ?_; first | assumption | omega) | (refine nf ?_; first | assumption | omega) | (simp [*]; done))) | refine AW_seq ?_ | refine norm_then ?_ | refine exit_then ?_ | refine norm_block ?_ | refine exit_round ?_ | refine AW_exit ?_ | refine exit_block ?_)
      refine next_round (j + 1) (by omega) (weak_st ?_ ?_ rfl rfl) (by omega)
      · (repeat' (first | exact trivial | refine And.intro ?_ ?_)) <;> (first | rfl | skip)
        show AV.i ((k : Int) - 1) = AV.i (((n + 1 - (j + 1) : Nat) : Int) - 1)
        exact congrArg AV.i (by omega)
      · (repeat' (first | exact trivial | refine And.intro ?_ ?_)) <;> (first | rfl | skip)
        show some (true, List.map AV.i _) = some (true, List.map AV.i (chL f n (n + 1 - (j + 1)) ++ hL (chC f n) n (j + 1)))
        rw [hL, hk, show n + 1 - (j + 1) = k by omega]
  · obtain rfl : d = n + 1 := by omega
    rw [Nat.sub_self]
    repeat (first | (refine step_ops ?_; (first | (refine m_mov (by conv => lhs; whnf) ?_) | (refine m_geq rfl rfl ?_))) | refine end_ops ?_ | refine seq_ops ?_ | (refine cond_f rfl ?_ ?_; (· first | rfl | assumption | (refine decide_eq_false ?_; first | assumption | omega) | (refine nf ?_; first | assumption | omega) | (simp [*]; done))) | refine AW_seq ?_ | refine AW_ret ?_ | refine ret_done ?_ | refine norm_then ?_ | refine exit_then ?_ | refine exit_round ?_ | refine AW_exit ?_ | refine exit_block ?_)
    exact outs_ints rfl (by simp [chL]) hll.symm
theorem hitNumbers_spec (B : List UInt8) (h : GoodBd B) : Sp Tryd.prog 32 [.agg [.i (sdB B : Nat), .rmp false (mkEs (plB B)) (plB B).length]] (newInts (hL (chC (rkN (fbB B) (sdB B)) (sdB B)) (sdB B) (sdB B + 1))) := by
  have hsd := good_sd h
  have hk := rookNew_spec B h
  have hle : ∀ k, rkN (fbB B) (sdB B) k ≤ 43046721 := fun k => rkG_le9 h (by omega) 0 k
  generalize rkN (fbB B) (sdB B) = f at *
  have hlr := rgL_len (sdB B) f
  refine spec_of Tryd.func32 rfl cc32 rfl ?_
  unfold ac32
  repeat (first | (refine step_ops ?_; (first | (refine m_nils ?_) | (refine m_box rfl ?_ ?_; (· first | rfl | (simp [cellOk, Value.oneCell']; done))) | (refine m_ldall rfl rfl ?_ ?_; (· first | rfl | (simp; done) | (simp [*]; done))))) | refine end_ops ?_ | refine seq_ops ?_)
  refine step_ops ?_
  refine m_callo hk (lends_cons (lend_aggM rfl) lends_nil) (allv_ints _) ?_
  repeat (first | (refine step_ops ?_; (first | (refine m_mov (by conv => lhs; whnf) ?_) | (refine m_len_sl rfl ?_))) | refine end_ops ?_ | refine seq_ops ?_ | refine AW_seq ?_ | refine AW_block ?_)
  refine AW_loop (α := Nat) (fun k => k ≤ sdB B + 1) (fun k => st [(1, .pt 1 0), (3, .sl 6 1 0 (sdB B + 1)), (8, .i (sdB B + 1 : Nat)), (9, .i (k : Nat))]
    [(1, (true, [.i (sdB B : Nat), .rmp false (mkEs (plB B)) (plB B).length])), (6, (true, (chL f (sdB B) k ++ (rgL (sdB B) f).drop k).map AV.i))]) (fun k => sdB B + 1 - k) 0 (by omega) (weak_st ?_ ?_ rfl rfl) ?_
  · (repeat' (first | exact trivial | refine And.intro ?_ ?_)) <;> (first | rfl | skip)
    · show AV.sl 6 1 0 (rgL (sdB B) f).length = _
      rw [hlr]
    · show AV.i ((rgL (sdB B) f).length : Nat) = _
      rw [hlr]
  · (repeat' (first | exact trivial | refine And.intro ?_ ?_)) <;> (first | rfl | skip)
  rintro k hk2
  have hlk := chL_len f (sdB B) k
  by_cases hk1 : k < sdB B + 1
  · have hM : (chL f (sdB B) k ++ (rgL (sdB B) f).drop k).length = sdB B + 1 := by
      rw [List.length_append, List.length_drop, hlr, hlk]; omega
    have g1 : (chL f (sdB B) k ++ (rgL (sdB B) f).drop k).getD k 0 = (f k : Int) := by
      rw [List.getD_eq_getElem?_getD, List.getElem?_append_right (by omega), hlk, Nat.sub_self, List.getElem?_drop, Nat.add_zero, ← List.getD_eq_getElem?_getD]
      exact rgL_get f hk1
    have hb := chC_le (f := f) (n := sdB B) (k := k) (hle k) hsd.2
    unfold chC at hb
    rw [← g1] at hb
    repeat (first | ((first | refine step_ops ?_ | refine step_tree ?_); (first | (refine m_mov (by conv => lhs; whnf) ?_) | (refine m_lss rfl rfl ?_) | (refine m_sub rfl rfl ?_ ?_ ?_; (· omega); (· omega)) | (refine m_idx1_sl rfl rfl ?_ ?_; (· omega)) | (refine m_ld_pti rfl (by rfl) ?_ ?_; (· first | omega | (simp; omega))) | (apply m_ld_pt; (· rfl); (· rfl); (· rfl)) | (refine m_fa rfl ?_))) | refine end_ops ?_ | refine seq_ops ?_ | refine AW_tree ?_ | (refine cond_t rfl ?_ ?_; (· first | rfl | assumption | (refine decide_eq_true ?_; first | assumption | omega) | (refine nt ?_; first | assumption | omega) | (simp [*]; done))) | refine skip_then ?_ | refine AW_seq ?_ | refine AW_block ?_)
    rw [show ((sdB B : Nat) : Int) - (k : Int) = ((sdB B - k : Nat) : Int) by omega]
    refine step_tree ?_; (apply m_call (factorial_spec (sdB B - k) (by omega))); (· repeat (first | exact lends_nil | (refine lends_cons ?_ ?_; (· exact lend_v))))
    repeat (first | ((first | refine step_ops ?_ | refine step_tree ?_); (first | (refine m_mov (by conv => lhs; whnf) ?_) | (refine m_add rfl rfl ?_ ?_ ?_; (· omega); (· omega)) | (refine m_mul rfl rfl ?_ ?_ ?_; (· first | omega | (simp; done)); (· first | omega | (simp; done))) | (refine m_idx1_sl rfl rfl ?_ ?_; (· omega)) | (apply m_st; (· rfl); (· rfl); (· rfl); (· first | omega | (simp; done) | (simp; omega)); (· rfl)))) | refine end_ops ?_ | refine AW_ops ?_ | refine end_tree ?_ | refine norm_then ?_ | refine norm_block ?_)
    refine next_round (k + 1) (by omega) (weak_st ?_ ?_ rfl rfl) (by omega)
    · (repeat' (first | exact trivial | refine And.intro ?_ ?_)) <;> (first | rfl | skip)
    · (repeat' (first | exact trivial | refine And.intro ?_ ?_)) <;> (first | rfl | skip)
      show some (true, List.set (List.map AV.i _) _ (AV.i _)) = some (true, List.map AV.i _)
      rw [← List.map_set, g1, List.set_append_right _ _ (by omega), hlk, Nat.sub_self]
      have e : (rgL (sdB B) f).drop k = (rgL (sdB B) f).getD k 0 :: (rgL (sdB B) f).drop (k + 1) := by
        rw [List.drop_eq_getElem_cons (by omega)]; simp [hlr, hk1]
      rw [e, List.set_cons_zero, show chL f (sdB B) (k + 1) = chL f (sdB B) k ++ [chC f (sdB B) k] by simp [chL, List.range_succ], List.append_assoc]
      rfl
  · have hke : k = sdB B + 1 := by omega
    subst hke
    rw [List.drop_eq_nil_of_le (by omega), List.append_nil]
    have hj := justSoManyY_spec f (sdB B) hsd.1 hsd.2
    have hl2 := hL_len (chC f (sdB B)) (sdB B) (sdB B + 1)
    repeat (first | (refine step_ops ?_; (first | (refine m_mov (by conv => lhs; whnf) ?_) | (refine m_lss rfl rfl ?_))) | refine end_ops ?_ | refine seq_ops ?_ | (refine cond_f rfl ?_ ?_; (· first | rfl | assumption | (refine decide_eq_false ?_; first | assumption | omega) | (refine nf ?_; first | assumption | omega) | (simp [*]; done))) | refine AW_seq ?_ | refine norm_then ?_ | refine exit_then ?_ | refine exit_round ?_ | refine AW_exit ?_ | refine exit_block ?_)
    refine step_ops ?_
    refine m_callo hj (lends_cons (lend_sli (L := chL f (sdB B) (sdB B + 1)) rfl hlk.symm) lends_nil) (allv_ints _) ?_
    repeat (first | (refine step_ops ?_; (refine m_mov (by conv => lhs; whnf) ?_)) | refine end_ops ?_ | refine AW_ret ?_ | refine ret_done ?_)
    exact outs_ints rfl rfl rfl
theorem bdHit_spec (B : List UInt8) (h : GoodBd B) (hB : B.length ≤ 1048576) : Sp Tryd.prog 31 [str B] (newInts (hL (chC (rkN (fbB B) (sdB B)) (sdB B)) (sdB B) (sdB B + 1))) := by
  have hsd := good_sd h
  have hk := rooks0_spec B h hB
  have hle : ∀ k, rkN (fbB B) (sdB B) k ≤ 43046721 := fun k => rkG_le9 h (by omega) 0 k
  generalize rkN (fbB B) (sdB B) = f at *
  have hlr := rgL_len (sdB B) f
  have hl2 := hL_len (chC f (sdB B)) (sdB B) (sdB B + 1)
  refine spec_of Tryd.func31 rfl cc31 rfl ?_
  unfold ac31
  repeat (first | (refine step_ops ?_; (first | (refine m_mov (by conv => lhs; whnf) ?_) | (refine m_nils ?_))) | refine end_ops ?_ | refine seq_ops ?_)
  refine step_ops ?_; (apply m_call (bdSide_spec B hB)); (· repeat (first | exact lends_nil | (refine lends_cons ?_ ?_; (· exact lend_v))))
  repeat (first | (refine step_ops ?_; (refine m_mov (by conv => lhs; whnf) ?_)) | refine end_ops ?_ | refine seq_ops ?_)
  refine step_ops ?_; (apply m_call (hk)); (· repeat (first | exact lends_nil | (refine lends_cons ?_ ?_; (· exact lend_v))))
  repeat (first | (refine step_ops ?_; (first | (refine m_mov (by conv => lhs; whnf) ?_) | (refine m_add rfl rfl ?_ ?_ ?_; (· omega); (· omega)))) | refine end_ops ?_ | refine seq_ops ?_)
  refine step_ops ?_
  refine m_mk0 (n := sdB B) rfl rfl (by omega) (by omega) ?_
  repeat (first | (refine step_ops ?_; (refine m_mov (by conv => lhs; whnf) ?_)) | refine end_ops ?_ | refine seq_ops ?_ | refine AW_seq ?_ | refine AW_block ?_)
  refine AW_loop (α := Nat) (fun d => d ≤ sdB B + 1) (fun d => st [(0, str B), (3, .i (sdB B : Nat)), (4, newInts (rgL (sdB B) f)), (5, .sl 15 1 0 (sdB B + 1)), (6, .i (((sdB B + 1 - d : Nat) : Int) - 1))] [(15, (true, (List.replicate (sdB B + 1 - d) 0 ++ hL (chC f (sdB B)) (sdB B) d).map AV.i))]) (fun d => sdB B + 1 - d) 0 (by omega) (weak_st ?_ ?_ rfl rfl) ?_
  · (repeat' (first | exact trivial | refine And.intro ?_ ?_)) <;> (first | rfl | skip)
    show AV.i (sdB B : Nat) = AV.i (((sdB B + 1 - 0 : Nat) : Int) - 1)
    exact congrArg AV.i (by omega)
  · (repeat' (first | exact trivial | refine And.intro ?_ ?_)) <;> (first | rfl | skip)
    show some (true, List.map AV.i (rgL (sdB B) fun _ => 0)) = some (true, List.map AV.i (List.replicate (sdB B + 1) 0 ++ []))
    rw [List.append_nil, rgL_zero]
  intro d hd
  unfold newInts
  have hll := hL_len (chC f (sdB B)) (sdB B) d
  by_cases hc : d < sdB B + 1
  · obtain ⟨k, hk⟩ : ∃ k, sdB B - d = k := ⟨_, rfl⟩
    have hkd : sdB B + 1 - d = k + 1 := by omega
    have g0 := rgL_get (n := sdB B) (k := k) f (by omega)
    have hb := chC_le (f := f) (n := sdB B) (k := k) (hle k) hsd.2
    unfold chC at hb
    rw [← g0] at hb
    rw [hkd, show ((k + 1 : Nat) : Int) - 1 = (k : Int) by omega]
    repeat (first | ((first | refine step_ops ?_ | refine step_tree ?_); (first | (refine m_mov (by conv => lhs; whnf) ?_) | (refine m_geq rfl rfl ?_) | (refine m_sub rfl rfl ?_ ?_ ?_; (· omega); (· omega)) | (refine m_idx1_ro rfl rfl ?_ ?_; (· omega)) | (refine m_ld_rpi rfl ?_ ?_; (· omega)))) | refine end_ops ?_ | refine seq_ops ?_ | refine seq_tree ?_ | (refine cond_t rfl ?_ ?_; (· first | rfl | assumption | (refine decide_eq_true ?_; first | assumption | omega) | (refine nt ?_; first | assumption | omega) | (simp [*]; done))) | refine skip_then ?_ | refine AW_seq ?_ | refine AW_block ?_)
    rw [show ((sdB B : Nat) : Int) - (k : Int) = ((sdB B - k : Nat) : Int) by omega]
    refine step_tree ?_; (apply m_call (exTimes_spec (sdB B - k) (by omega))); (· repeat (first | exact lends_nil | (refine lends_cons ?_ ?_; (· exact lend_v))))
    repeat (first | ((first | refine step_ops ?_ | refine step_tree ?_); (first | (refine m_mov (by conv => lhs; whnf) ?_) | (refine m_add rfl rfl ?_ ?_ ?_; (· omega); (· omega)) | (refine m_mul rfl rfl ?_ ?_ ?_; (· first | omega | (simp; done)); (· first | omega | (simp; done))))) | refine end_ops ?_ | refine seq_ops ?_ | refine end_tree ?_ | refine AW_seq ?_ | refine AW_block ?_)
    refine AW_loop (α := Nat) (fun j => j ≤ d) (fun j => st [(0, str B), (3, .i (sdB B : Nat)), (4, .ro true 1 ((rgL (sdB B) f).map AV.i) (rgL (sdB B) f).length), (5, .sl 15 1 0 (sdB B + 1)), (6, .i k), (7, .i (hF (chC f (sdB B) k) k (hL (chC f (sdB B)) (sdB B) d) j)), (8, .i ((k + 1 + j : Nat) : Int))]
      [(15, (true, (List.replicate (k + 1) 0 ++ hL (chC f (sdB B)) (sdB B) d).map AV.i))]) (fun j => d - j) 0 (by omega) (weak_st ?_ ?_ rfl rfl) ?_
    · (repeat' (first | exact trivial | refine And.intro ?_ ?_)) <;> (first | rfl | skip)
      show AV.i ((rgL (sdB B) f).getD k 0 * fac (sdB B - k)) = AV.i (chC f (sdB B) k)
      rw [g0]
      rfl
    · (repeat' (first | exact trivial | refine And.intro ?_ ?_)) <;> (first | rfl | skip)
    intro j hj
    have hM : (List.replicate (k + 1) 0 ++ hL (chC f (sdB B)) (sdB B) d).length = sdB B + 1 := by
      rw [List.length_append, List.length_replicate, hll]; omega
    by_cases hc2 : j < d
    · have g2 : (List.replicate (k + 1) 0 ++ hL (chC f (sdB B)) (sdB B) d).getD (k + 1 + j) 0 = (hL (chC f (sdB B)) (sdB B) d).getD j 0 := by
        rw [List.getD_eq_getElem?_getD, List.getElem?_append_right (by simp), List.length_replicate, show k + 1 + j - (k + 1) = j by omega]; rfl
      repeat (first | ((first | refine step_ops ?_ | refine step_tree ?_); (first | (refine m_mov (by conv => lhs; whnf) ?_) | (refine m_leq rfl rfl ?_))) | refine end_ops ?_ | refine seq_ops ?_ | refine AW_tree ?_ | (refine cond_t rfl ?_ ?_; (· first | rfl | assumption | (refine decide_eq_true ?_; first | assumption | omega) | (refine nt ?_; first | assumption | omega) | (simp [*]; done))) | refine skip_then ?_ | refine AW_seq ?_ | refine AW_block ?_)
      refine step_tree ?_; (apply m_call (exChooseY_spec (k + 1 + j) k (by omega) (by omega))); (· repeat (first | exact lends_nil | (refine lends_cons ?_ ?_; (· exact lend_v))))
      repeat (refine step_tree ?_; (first | (refine m_mov (by conv => lhs; whnf) ?_) | (refine m_idx1_sl rfl rfl ?_ ?_; (· omega)) | (refine m_ld_pti rfl (by rfl) ?_ ?_; (· first | omega | (simp; omega)))))
      refine step_tree ?_
      refine m_mulw rfl rfl ?_
      refine step_tree ?_
      refine m_subw rfl rfl ?_
      repeat (first | ((first | refine step_ops ?_ | refine step_tree ?_); (first | (refine m_mov (by conv => lhs; whnf) ?_) | (refine m_add rfl rfl ?_ ?_ ?_; (· omega); (· omega)))) | refine end_ops ?_ | refine AW_ops ?_ | refine end_tree ?_ | refine norm_then ?_ | refine norm_block ?_)
      refine next_round (j + 1) (by omega) (weak_st ?_ ?_ rfl rfl) (by omega)
      · (repeat' (first | exact trivial | refine And.intro ?_ ?_)) <;> (first | rfl | skip)
        rw [show hF (chC f (sdB B) k) k (hL (chC f (sdB B)) (sdB B) d) (j + 1) = w64 (hF (chC f (sdB B) k) k (hL (chC f (sdB B)) (sdB B) d) j - w64 (chy (k + 1 + j) k k * (List.replicate (k + 1) 0 ++ hL (chC f (sdB B)) (sdB B) d).getD (k + 1 + j) 0)) from by rw [g2]; rfl]
        rfl
      · (repeat' (first | exact trivial | refine And.intro ?_ ?_)) <;> (first | rfl | skip)
    · obtain rfl : j = d := by omega
      repeat (first | (refine step_ops ?_; (first | (refine m_mov (by conv => lhs; whnf) ?_) | (refine m_leq rfl rfl ?_) | (refine m_sub rfl rfl ?_ ?_ ?_; (· omega); (· omega)) | (refine m_idx1_sl rfl rfl ?_ ?_; (· omega)) | (apply m_st; (· rfl); (· rfl); (· rfl); (· first | omega | (simp; done) | (simp; omega)); (· rfl)))) | refine end_ops ?_ | refine seq_ops ?_ | refine AW_ops ?_ | (refine cond_f rfl ?_ ?_; (· first | rfl | assumption | (refine decide_eq_false ?_; first | assumption | omega) | (refine nf ?_; first | assumption | omega) | (simp [*]; done))) | refine AW_seq ?_ | refine norm_then ?_ | refine exit_then ?_ | refine norm_block ?_ | refine exit_round ?_ | refine AW_exit ?_ | refine exit_block ?_)
      refine next_round (j + 1) (by omega) (weak_st ?_ ?_ rfl rfl) (by omega)
      · (repeat' (first | exact trivial | refine And.intro ?_ ?_)) <;> (first | rfl | skip)
        show AV.i ((k : Int) - 1) = AV.i (((sdB B + 1 - (j + 1) : Nat) : Int) - 1)
        exact congrArg AV.i (by omega)
      · (repeat' (first | exact trivial | refine And.intro ?_ ?_)) <;> (first | rfl | skip)
        show some (true, List.set (List.map AV.i _) _ (AV.i _)) = some (true, List.map AV.i _)
        rw [← List.map_set, hL, hk, show sdB B + 1 - (j + 1) = k by omega, List.set_append_left _ _ (by simp), List.replicate_succ', List.set_append_right _ _ (by simp), List.length_replicate, Nat.sub_self, List.set_cons_zero, List.append_assoc]
        rfl
  · obtain rfl : d = sdB B + 1 := by omega
    rw [Nat.sub_self]
    repeat (first | (refine step_ops ?_; (first | (refine m_mov (by conv => lhs; whnf) ?_) | (refine m_geq rfl rfl ?_))) | refine end_ops ?_ | refine seq_ops ?_ | (refine cond_f rfl ?_ ?_; (· first | rfl | assumption | (refine decide_eq_false ?_; first | assumption | omega) | (refine nf ?_; first | assumption | omega) | (simp [*]; done))) | refine AW_seq ?_ | refine AW_ret ?_ | refine ret_done ?_ | refine norm_then ?_ | refine exit_then ?_ | refine exit_round ?_ | refine AW_exit ?_ | refine exit_block ?_)
    exact outs_ints rfl (by simp) hl2.symm
end Go.Proofs.YtojpcpdbnmnknaaDoor
namespace Go.Proofs.YtojpcpdbnmnknaaDoor
open Go.Am
attribute [local irreducible] AW Outs Weak Lends Lend Sp aops atree aop1 Then Round InBlock Done
attribute [local irreducible] SpH SpX DoneH DoneX
/-- The numbers of hits of a text. -/
def hitL (B : List UInt8) : List Int := hL (chC (rkN (fbB B) (sdB B)) (sdB B)) (sdB B) (sdB B + 1)
theorem hitL_len (B : List UInt8) : (hitL B).length = sdB B + 1 := hL_len _ _ _
def hitB (B : List UInt8) : List Int := if GoodBd B then hitL B else []
def hitR (B : List UInt8) : AV := .tup [newInts (hitB B), .b (decide (GoodBd B))]
theorem hitB_len (B : List UInt8) : (hitB B).length ≤ 1048576 := by
  unfold hitB
  split
  · rename_i h
    have := good_sd h
    rw [hitL_len]; omega
  · simp
theorem specHitNumbers_spec (B : List UInt8) (hB : B.length ≤ 1048576) : Sp Tryd.prog 14 [str B] (hitR B) := by
  unfold hitR hitB
  refine spec_of Tryd.func14 rfl cc14 rfl ?_
  unfold ac14
  repeat (first | (refine step_ops ?_; (first | (refine m_mov (by conv => lhs; whnf) ?_) | (refine m_nils ?_))) | refine end_ops ?_ | refine seq_ops ?_ | refine AW_seq ?_)
  (refine step_ops ?_); (apply m_call (bdGood_spec B hB)); (· repeat (first | exact lends_nil | (refine lends_cons ?_ ?_; (· exact lend_v))))
  by_cases h : GoodBd B
  · have hs := bdHit_spec B h hB
    change Sp _ _ _ (newInts (hitL B)) at hs
    rw [if_pos h]
    repeat (first | (refine step_ops ?_; (first | (refine m_mov (by conv => lhs; whnf) ?_) | (refine m_not rfl ?_))) | refine end_ops ?_ | refine seq_ops ?_ | (refine cond_f rfl ?_ ?_; (· first | rfl | assumption | (refine decide_eq_false ?_; first | assumption | omega) | (refine nf ?_; first | assumption | omega) | (simp [*]; done))) | refine skip_then ?_)
    (refine step_ops ?_); (apply m_callo (hs)); (· repeat (first | exact lends_nil | (refine lends_cons ?_ ?_; (· exact lend_v)))); (· first | exact allv_ints _ | rfl | (simp; done))
    repeat (first | (refine step_ops ?_; (refine m_mov (by conv => lhs; whnf) ?_)) | refine end_ops ?_ | refine AW_ret ?_ | refine ret_done ?_)
    exact outs_tup2 (outs_ints rfl rfl rfl) (outs_b (by simp [h]))
  · rw [if_neg h]
    repeat (first | (refine step_ops ?_; (first | (refine m_mov (by conv => lhs; whnf) ?_) | (refine m_not rfl ?_) | (refine m_nils ?_))) | refine end_ops ?_ | refine seq_ops ?_ | (refine cond_t rfl ?_ ?_; (· first | rfl | assumption | (refine decide_eq_true ?_; first | assumption | omega) | (refine nt ?_; first | assumption | omega) | (simp [*]; done))) | refine AW_ret ?_ | refine ret_done ?_ | refine ret_then ?_)
    exact outs_tup2 (outs_ints rfl rfl rfl) (outs_b (by simp [h]))
theorem implHitNumbers_spec (B : List UInt8) (hB : B.length ≤ 1048576) : Sp Tryd.prog 15 [str B] (hitR B) := by
  have hr := readBoard_spec B hB
  unfold bdR bdV at hr
  unfold hitR hitB
  refine spec_of Tryd.func15 rfl cc15 rfl ?_
  unfold ac15
  by_cases h : GoodBd B
  · rw [if_pos h] at hr
    have hk := hitNumbers_spec B h
    change Sp _ _ _ (newInts (hitL B)) at hk
    rw [if_pos h]
    repeat (first | (refine step_ops ?_; (first | (refine m_mov (by conv => lhs; whnf) ?_) | (refine m_nils ?_))) | refine end_ops ?_ | refine seq_ops ?_)
    (refine step_ops ?_); (apply m_call (hr)); (· repeat (first | exact lends_nil | (refine lends_cons ?_ ?_; (· exact lend_v))))
    repeat (first | (refine step_ops ?_; (first | (refine m_mov (by conv => lhs; whnf) ?_) | (refine m_not rfl ?_) | (refine m_ext rfl rfl ?_) | (refine m_alloc ?_) | (refine m_ldall rfl rfl ?_ ?_; (· first | rfl | (simp; done) | (simp [*]; done))) | (refine m_stall rfl rfl rfl ?_ ?_ ?_ ?_; (· first | rfl | (simp [*]; done)); (· first | rfl | (simp [*]; done)); (· first | rfl | (simp [cellOk, Value.oneCell']; done))))) | refine end_ops ?_ | refine seq_ops ?_ | (refine cond_f rfl ?_ ?_; (· first | rfl | assumption | (refine decide_eq_false ?_; first | assumption | omega) | (refine nf ?_; first | assumption | omega) | (simp [*]; done))) | refine skip_then ?_ | refine AW_seq ?_)
    refine step_ops ?_
    refine m_callo hk (lends_cons (lend_aggM rfl) lends_nil) (allv_ints _) ?_
    repeat (first | (refine step_ops ?_; (refine m_mov (by conv => lhs; whnf) ?_)) | refine end_ops ?_ | refine AW_ret ?_ | refine ret_done ?_)
    exact outs_tup2 (outs_ints rfl rfl rfl) (outs_b (by simp [h]))
  · rw [if_neg h] at hr
    rw [if_neg h]
    repeat (first | (refine step_ops ?_; (first | (refine m_mov (by conv => lhs; whnf) ?_) | (refine m_nils ?_))) | refine end_ops ?_ | refine seq_ops ?_)
    (refine step_ops ?_); (apply m_call (hr)); (· repeat (first | exact lends_nil | (refine lends_cons ?_ ?_; (· exact lend_v))))
    repeat (first | (refine step_ops ?_; (first | (refine m_mov (by conv => lhs; whnf) ?_) | (refine m_not rfl ?_) | (refine m_nils ?_) | (refine m_ext rfl rfl ?_) | (refine m_alloc ?_) | (refine m_stall rfl rfl rfl ?_ ?_ ?_ ?_; (· first | rfl | (simp [*]; done)); (· first | rfl | (simp [*]; done)); (· first | rfl | (simp [cellOk, Value.oneCell']; done))))) | refine end_ops ?_ | refine seq_ops ?_ | (refine cond_t rfl ?_ ?_; (· first | rfl | assumption | (refine decide_eq_true ?_; first | assumption | omega) | (refine nt ?_; first | assumption | omega) | (simp [*]; done))) | refine AW_seq ?_ | refine AW_ret ?_ | refine ret_done ?_ | refine ret_then ?_)
    exact outs_tup2 (outs_ints rfl rfl rfl) (outs_b (by simp [h]))
def allwR (B : List UInt8) : AV := .tup [.i (if GoodBd B then (hitL B).getD 0 0 else 0), .b (decide (GoodBd B))]
theorem specCountAllowed_spec (B : List UInt8) (hB : B.length ≤ 1048576) : Sp Tryd.prog 16 [str B] (allwR B) := by
  unfold allwR
  refine spec_of Tryd.func16 rfl cc16 rfl ?_
  unfold ac16
  repeat (first | (refine step_ops ?_; (refine m_mov (by conv => lhs; whnf) ?_)) | refine end_ops ?_ | refine seq_ops ?_ | refine AW_seq ?_)
  (refine step_ops ?_); (apply m_call (bdGood_spec B hB)); (· repeat (first | exact lends_nil | (refine lends_cons ?_ ?_; (· exact lend_v))))
  by_cases h : GoodBd B
  · have hs := bdHit_spec B h hB
    change Sp _ _ _ (newInts (hitL B)) at hs
    have hl := hitL_len B
    rw [if_pos h]
    repeat (first | (refine step_ops ?_; (first | (refine m_mov (by conv => lhs; whnf) ?_) | (refine m_not rfl ?_))) | refine end_ops ?_ | refine seq_ops ?_ | (refine cond_f rfl ?_ ?_; (· first | rfl | assumption | (refine decide_eq_false ?_; first | assumption | omega) | (refine nf ?_; first | assumption | omega) | (simp [*]; done))) | refine skip_then ?_)
    (refine step_ops ?_); (apply m_call (hs)); (· repeat (first | exact lends_nil | (refine lends_cons ?_ ?_; (· exact lend_v))))
    repeat (first | (refine step_ops ?_; (first | (refine m_mov (by conv => lhs; whnf) ?_) | (refine m_idx_ro rfl rfl ?_ ?_ ?_; (· omega); (· omega)) | (refine m_ld_rpi rfl ?_ ?_; (· omega)))) | refine end_ops ?_ | refine AW_ret ?_ | refine ret_done ?_)
    exact outs_tup2 (outs_i rfl) (outs_b (by simp [h]))
  · rw [if_neg h]
    repeat (first | (refine step_ops ?_; (first | (refine m_mov (by conv => lhs; whnf) ?_) | (refine m_not rfl ?_))) | refine end_ops ?_ | refine seq_ops ?_ | (refine cond_t rfl ?_ ?_; (· first | rfl | assumption | (refine decide_eq_true ?_; first | assumption | omega) | (refine nt ?_; first | assumption | omega) | (simp [*]; done))) | refine AW_ret ?_ | refine ret_done ?_ | refine ret_then ?_)
    exact outs_tup2 (outs_i rfl) (outs_b (by simp [h]))
theorem implCountAllowed_spec (B : List UInt8) (hB : B.length ≤ 1048576) : Sp Tryd.prog 17 [str B] (allwR B) := by
  have hr := readBoard_spec B hB
  unfold bdR bdV at hr
  unfold allwR
  refine spec_of Tryd.func17 rfl cc17 rfl ?_
  unfold ac17
  by_cases h : GoodBd B
  · rw [if_pos h] at hr
    have hk := hitNumbers_spec B h
    change Sp _ _ _ (newInts (hitL B)) at hk
    have hl := hitL_len B
    rw [if_pos h]
    repeat (first | (refine step_ops ?_; (refine m_mov (by conv => lhs; whnf) ?_)) | refine end_ops ?_ | refine seq_ops ?_)
    (refine step_ops ?_); (apply m_call (hr)); (· repeat (first | exact lends_nil | (refine lends_cons ?_ ?_; (· exact lend_v))))
    repeat (first | (refine step_ops ?_; (first | (refine m_mov (by conv => lhs; whnf) ?_) | (refine m_not rfl ?_) | (refine m_ext rfl rfl ?_) | (refine m_alloc ?_) | (refine m_ldall rfl rfl ?_ ?_; (· first | rfl | (simp; done) | (simp [*]; done))) | (refine m_stall rfl rfl rfl ?_ ?_ ?_ ?_; (· first | rfl | (simp [*]; done)); (· first | rfl | (simp [*]; done)); (· first | rfl | (simp [cellOk, Value.oneCell']; done))))) | refine end_ops ?_ | refine seq_ops ?_ | (refine cond_f rfl ?_ ?_; (· first | rfl | assumption | (refine decide_eq_false ?_; first | assumption | omega) | (refine nf ?_; first | assumption | omega) | (simp [*]; done))) | refine skip_then ?_ | refine AW_seq ?_)
    refine step_ops ?_
    refine m_call hk (lends_cons (lend_aggM rfl) lends_nil) ?_
    repeat (first | (refine step_ops ?_; (first | (refine m_mov (by conv => lhs; whnf) ?_) | (refine m_idx_ro rfl rfl ?_ ?_ ?_; (· omega); (· omega)) | (refine m_ld_rpi rfl ?_ ?_; (· omega)))) | refine end_ops ?_ | refine AW_ret ?_ | refine ret_done ?_)
    exact outs_tup2 (outs_i rfl) (outs_b (by simp [h]))
  · rw [if_neg h] at hr
    rw [if_neg h]
    repeat (first | (refine step_ops ?_; (refine m_mov (by conv => lhs; whnf) ?_)) | refine end_ops ?_ | refine seq_ops ?_)
    (refine step_ops ?_); (apply m_call (hr)); (· repeat (first | exact lends_nil | (refine lends_cons ?_ ?_; (· exact lend_v))))
    repeat (first | (refine step_ops ?_; (first | (refine m_mov (by conv => lhs; whnf) ?_) | (refine m_not rfl ?_) | (refine m_ext rfl rfl ?_) | (refine m_alloc ?_) | (refine m_stall rfl rfl rfl ?_ ?_ ?_ ?_; (· first | rfl | (simp [*]; done)); (· first | rfl | (simp [*]; done)); (· first | rfl | (simp [cellOk, Value.oneCell']; done))))) | refine end_ops ?_ | refine seq_ops ?_ | (refine cond_t rfl ?_ ?_; (· first | rfl | assumption | (refine decide_eq_true ?_; first | assumption | omega) | (refine nt ?_; first | assumption | omega) | (simp [*]; done))) | refine AW_seq ?_ | refine AW_ret ?_ | refine ret_done ?_ | refine ret_then ?_)
    exact outs_tup2 (outs_i rfl) (outs_b (by simp [h]))
end Go.Proofs.YtojpcpdbnmnknaaDoor
namespace Go.Am
open Go.ChangeShapes Go.WideShapes Go.ChangeAt Go.RowKit Go.ChangeMaps
variable {P : Program} {H : Type} {enc : TypeId × Value → H}
theorem and_mk {a b : Bool} (h : a = true) (k : b = true) : (a && b) = true := by rw [h, k]; rfl
theorem More.below {w w' : World} (h : More w w') : Below w.heap.size w w' := ⟨h.os, h.tape, h.output, h.size, h.block⟩
theorem trodAll_stays (hl : laidOutB P = true) {W W' : World} (hb : Below W.heap.size W W') (sp : Nat → Bool) : ∀ {ts : List TypeId} {vs : List Value} {ds : List (DataW H)} {ps : List MemPlace},
    (∀ t ∈ ts, P.readableRec t = true ∧ t < P.types.size) → DataW.TrodAll enc P W 0 (fun _ => true) true ts vs ds ps → (∀ p ∈ ps, p.block < W.heap.size) → (∀ p ∈ ps, sp p.block = true) →
    DataW.TrodAll enc P W' 0 sp true ts vs ds ps
  | [], vs, ds, ps, _, h, _, _ => by
    obtain ⟨rfl, rfl, rfl⟩ := trodAll_nil h
    exact trodAll_mk0
  | t :: ts, vs, ds, ps, hr, h, hlt, hsp => by
    obtain ⟨v, vs', d, ds', p, q, rfl, rfl, rfl, h1, h2⟩ := trodAll_cons h
    refine ⟨p, q, ?_, trodAll_stays hl hb sp (fun t ht => hr t (List.mem_cons_of_mem _ ht)) h2 (fun x hx => hlt x (List.mem_append_right _ hx)) (fun x hx => hsp x (List.mem_append_right _ hx)), rfl⟩
    obtain ⟨h3, h4⟩ := hr t (List.mem_cons_self ..)
    exact WideElems.Trod_stays hl h3 h4 h1 (fun x hx => hb.same (hlt x (List.mem_append_left _ hx))) (fun x hx => hsp x (List.mem_append_left _ hx))
/-- What the row's last words ask of a law that says true. -/
theorem law_post (hl : laidOutB P = true) {f : Func} {s : ChangeSpec} {fresh handsOn again : Bool} {W W' : World} {args : Array Value} {ds gs : List (DataW H)} {before : List MemPlace} {bt : TypeId}
    (hW : DataW.Whole enc P f.params.toList s.vars false W args.toList ds gs before) (hvars : s.vars = []) (hfn : s.fn H (ds ++ gs) = { results := [.lit (.bool true)], args := ds })
    (hres : f.resultTypes = #[bt]) (hbt : P.underlying bt = some .bool) (hread : ∀ t ∈ f.params.toList, P.readableRec t = true ∧ t < P.types.size) (hm : More W W') :
    s.post enc P f false fresh handsOn again W args (.bool true) W' := by
  have hb := hm.below
  have hlt : ∀ p ∈ before, p.block < W.heap.size := fun p hp => hW.lt p hp
  obtain ⟨p, q, hA, hV, hpq, hz, hn⟩ := hW
  rw [hvars] at hV
  obtain ⟨rfl, rfl⟩ := trodVars_none hV
  rw [List.append_nil] at hpq
  subst hpq
  have hargs : ∀ sp : Nat → Bool, (∀ x ∈ before, sp x.block = true) → DataW.TrodAll enc P W' 0 sp true f.params.toList args.toList ds before := fun sp hsp => trodAll_stays hl hb sp hread hA hlt hsp
  have hresT : ∀ (b : Nat) (sp : Nat → Bool) (hd : Bool), DataW.TrodAll enc P W' b sp hd f.resultTypes.toList ((Value.bool true).resultList f.resultTypes.size) [.lit (.bool true)] [] := by
    intro b sp hd
    rw [hres]
    exact trodAll_mk1 (shut_bool hbt true)
  have hvarsT : ∀ sp : Nat → Bool, DataW.TrodVars enc P W' sp s.vars (s.fn H (ds ++ [])).vars [] := by
    intro sp
    rw [hvars, hfn]
    rfl
  have hfull : DataW.Whole enc P f.params.toList s.vars false W args.toList ds [] before := ⟨before, [], hA, by rw [hvars]; rfl, by simp, hz, by simp⟩
  refine ⟨ds, [], before, [], before, [], hfull, by rw [hfn]; exact hresT _ _ _, by rw [hfn]; exact hargs _ (fun x hx => by simpa using hlt x hx), hvarsT _, World.keptBut_mono (fun x hx => ⟨hx, .inr (.inl hx)⟩) (hb.frame (· ∈ before)), fun _ => ?_⟩
  refine ⟨ok_one hres rfl (okWide_bool_mk hbt true), _, _, ([] ++ before) ++ [], ⟨[] ++ before, [], trodAll_append (hargs _ (fun _ _ => rfl)) (hresT _ _ _), hvarsT _, rfl, ?_, by simp⟩, ?_⟩
  · intro b off hp
    have hin : MemPlace.cell b off ∈ before := by simpa using hp
    rw [hb.frozen (hlt _ hin)]
    exact hz b off hin
  · intro x hx _
    simpa using hx
abbrev Outer (w : World) : Ctx := { heap := w.heap, ro := fun b => b < w.heap.size, base := w.heap.size, phi := fun _ => none, live := fun _ => false, loc := false }
/-- A string that came in. -/
theorem arg_string {W : World} {t : TypeId} {v : Value} {d : DataW H} {ps : List MemPlace} (ht : P.underlying t = some .string)
    (hval : Value.okWide P W .any 0 t v) (h : DataW.Trod enc P W 0 (fun _ => true) true t v d ps) : ∃ b : ByteArray, SimV (.v (.string b)) (Outer W) v ∧ b.size ≤ maxLen := by
  obtain ⟨b, rfl, _, _, hw⟩ := open_string ht hval h
  exact ⟨b, by simp [SimV], hw⟩
/-- A law says true. -/
theorem law_calls {f : FuncId} {asx : List AV} {W : World} {args : Array Value} (hs : Sp P f asx (.b true)) (he : SimL asx (Outer W) args.toList) (hlen : args.size = asx.length) (hg : GoodW W := by exact goodW_none rfl) :
    Calls P f args W fun e W' => e = .returned (.bool true) ∧ More W W' := by
  refine (hs W args hg ⟨he, by simpa using hlen⟩).mono fun e W' ⟨v, h1, h2, h3⟩ => ?_
  simp only [SimV] at h3
  subst h3
  exact ⟨h1, h2⟩
end Go.Am
namespace Go.Proofs.YtojpcpdbnmnknaaDoor
open Go.ChangeShapes Go.WideShapes Go.ChangeAt Go.RowKit
theorem factMayEnter : Tryd.checked.prog.mayEnter = true := by kernel_rfl
end Go.Proofs.YtojpcpdbnmnknaaDoor
namespace Go.Proofs.YtojpcpdbnmnknaaDoor
open Go.ChangeShapes Go.WideShapes Go.ChangeAt Go.RowKit
theorem factLifts : Tryd.checked.prog.liftsFinal = false := by kernel_rfl
end Go.Proofs.YtojpcpdbnmnknaaDoor
namespace Go.Proofs.YtojpcpdbnmnknaaDoor
open Go.ChangeShapes Go.WideShapes Go.ChangeAt Go.RowKit
theorem factMake : Tryd.checked.prog.make = some (OpenClaim.make { program := "", sum := "", func := "", spec := "" }) := by kernel_rfl
end Go.Proofs.YtojpcpdbnmnknaaDoor
namespace Go.Proofs.YtojpcpdbnmnknaaDoor
open Go.ChangeShapes Go.WideShapes Go.ChangeAt Go.RowKit
theorem door_met (os : Os) (args : Array Value) : laidMetH Tryd.prog Rows.fnExactRookNumbersRow.laid ((World.laidAll Tryd.prog os Rows.fnExactRookNumbersRow.laid).forCall (fun _ _ => 0) ⟨#[], args, []⟩).memory := by
  rw [MakeChecks.laidMetH_plain _ _ _ (by kernel_rfl)]
  exact laidMet_laidAll _ (by kernel_rfl) (by kernel_rfl)
theorem door_shaped (os : Os) (args : Array Value) : World.Shaped Tryd.prog ((World.laidAll Tryd.prog os Rows.fnExactRookNumbersRow.laid).forCall (fun _ _ => 0) ⟨#[], args, []⟩) := World.shaped_of_ZipB (by kernel_rfl) (by kernel_rfl)
end Go.Proofs.YtojpcpdbnmnknaaDoor
namespace Go.Am
variable {P : Program}
/-- Texts in a slice. -/
def txs (G : List (List UInt8)) : List AV := G.map fun r => str r
theorem txs_len (G : List (List UInt8)) : (txs G).length = G.length := by simp [txs]
theorem txs_plain (G : List (List UInt8)) : (txs G).all plainV = true := by simp [txs, plainV]
/-- A struct of a number and texts, read; a new one. -/
abbrev pln (c : Int) (G : List (List UInt8)) : AV := .agg [.i c, .ro false 1 (txs G) G.length]
theorem lend_txr {hp : Hp} {fr : Bool} {G : List (List UInt8)} {n : Nat} (hn : n = G.length) : Lend hp (.ro fr 1 (txs G) n) (.ro false 1 (txs G) G.length) := by
  subst hn
  exact lend_ro (txs_plain G)
theorem lend_txs {hp : Hp} {r n : Nat} {G : List (List UInt8)} (hr : hp r = some (true, txs G)) (hn : n = G.length) : Lend hp (.sl r 1 0 n) (.ro false 1 (txs G) G.length) := by
  subst hn
  have h := lend_sl (z := 1) (off := 0) (n := G.length) hr (by rw [txs_len]; omega) (txs_plain G)
  have e : ((txs G).drop 0).take (G.length * 1) = txs G := by rw [List.drop_zero, Nat.mul_one]; exact List.take_of_length_le (by rw [txs_len]; omega)
  rw [e] at h
  exact h
theorem lend_pln {hp : Hp} {fr : Bool} {c : Int} {G : List (List UInt8)} {n : Nat} (hn : n = G.length) : Lend hp (.agg [.i c, .ro fr 1 (txs G) n]) (pln c G) :=
  lend_aggs (lends_cons lend_v (lends_cons (lend_txr hn) lends_nil))
theorem lend_plns {hp : Hp} {r : Nat} {c : Int} {G : List (List UInt8)} {n : Nat} (hr : hp r = some (true, txs G)) (hn : n = G.length) : Lend hp (.agg [.i c, .sl r 1 0 n]) (pln c G) :=
  lend_aggs (lends_cons lend_v (lends_cons (lend_txs hr hn) lends_nil))
end Go.Am
namespace Go.Am
variable {P : Program} {s : AS} {K : AS → Prop} {d : Option Nat}
/-- A desk that is read; a new one; one whose list is a region of the caller's. -/
abbrev dsk (L : List Int) (b : List UInt8) : AV := .agg [ints L, str b]
abbrev newDsk (L : List Int) (b : List UInt8) : AV := .agg [newInts L, str b]
theorem lend_intr {hp : Hp} {fr : Bool} {L : List Int} {n : Nat} (hn : n = L.length) : Lend hp (.ro fr 1 (L.map AV.i) n) (ints L) := by
  subst hn
  exact lend_ro (allv_ints L)
theorem lend_dsk {hp : Hp} {fr : Bool} {L : List Int} {b : List UInt8} {n : Nat} (hn : n = L.length) : Lend hp (.agg [.ro fr 1 (L.map AV.i) n, str b]) (dsk L b) :=
  lend_aggs (lends_cons (lend_intr hn) (lends_cons lend_v lends_nil))
end Go.Am
namespace Go.Proofs.YtojpcpdbnmnknaaDoor
open Go.Am
attribute [local irreducible] AW Outs Weak Lends Lend Sp aops atree aop1 Then Round InBlock Done
attribute [local irreducible] SpH SpX DoneH DoneX
set_option maxRecDepth 20000 in
theorem toDesk_spec (L : List Int) (b : List UInt8) (hL : L.length ≤ 1048576) : Sp Tryd.prog 24 [dsk L b] (newDsk L b) := by
  refine specC_of Tryd.func24 rfl cc24 (by rfl) ?_
  unfold ac24
  repeat (first | (refine step_ops ?_; (first | (refine m_ld_rpi rfl ?_ ?_; (· omega)) | (refine m_ld_pti rfl (by rfl) ?_ ?_; (· first | omega | (simp; omega))) | (apply m_ld_ptb; (· rfl); (· rfl); (· assumption)) | (apply m_ld_rp; (· rfl); (· rfl)) | (apply m_ld_pt; (· rfl); (· rfl); (· rfl)) | (apply m_st; (· rfl); (· rfl); (· rfl); (· first | omega | (simp; done) | (simp; omega)); (· rfl)) | (refine m_alloc ?_) | (refine m_fa rfl ?_) | (refine m_fa_rp rfl ?_) | (refine m_box rfl ?_ ?_; (· first | rfl | (simp [cellOk, Value.oneCell']; done))) | (refine m_box1 rfl rfl ?_) | (refine m_ldall rfl rfl ?_ ?_; (· first | rfl | (simp; done) | (simp [*]; done))) | (refine m_ldall_rp rfl rfl ?_) | (refine m_stall rfl rfl rfl ?_ ?_ ?_ ?_; (· first | rfl | (simp [*]; done)); (· first | rfl | (simp [*]; done)); (· first | rfl | (simp [cellOk, Value.oneCell']; done))))) | refine end_ops ?_ | refine seq_ops ?_ | refine AW_ops ?_ | refine AW_seq ?_ | refine AW_ret ?_ | refine ret_done ?_ | refine norm_then ?_ | refine ret_then ?_ | refine exit_then ?_)
  refine step_ops ?_
  refine m_callo (toIntS_spec L hL) ?_ (allv_ints L) ?_
  · exact lends_cons (lend_intr rfl) lends_nil
  repeat (first | (refine step_ops ?_; (first | (refine m_ld_rpi rfl ?_ ?_; (· omega)) | (refine m_ld_pti rfl (by rfl) ?_ ?_; (· first | omega | (simp; omega))) | (apply m_ld_ptb; (· rfl); (· rfl); (· assumption)) | (apply m_ld_rp; (· rfl); (· rfl)) | (apply m_ld_pt; (· rfl); (· rfl); (· rfl)) | (apply m_st; (· rfl); (· rfl); (· rfl); (· first | omega | (simp; done) | (simp; omega)); (· rfl)) | (refine m_alloc ?_) | (refine m_fa rfl ?_) | (refine m_fa_rp rfl ?_) | (refine m_box rfl ?_ ?_; (· first | rfl | (simp [cellOk, Value.oneCell']; done))) | (refine m_box1 rfl rfl ?_) | (refine m_ldall rfl rfl ?_ ?_; (· first | rfl | (simp; done) | (simp [*]; done))) | (refine m_ldall_rp rfl rfl ?_) | (refine m_stall rfl rfl rfl ?_ ?_ ?_ ?_; (· first | rfl | (simp [*]; done)); (· first | rfl | (simp [*]; done)); (· first | rfl | (simp [cellOk, Value.oneCell']; done))))) | refine end_ops ?_ | refine seq_ops ?_ | refine AW_ops ?_ | refine AW_seq ?_ | refine AW_ret ?_ | refine ret_done ?_ | refine norm_then ?_ | refine ret_then ?_ | refine exit_then ?_)
  refine step_opsW (weak_deep (r := 3) rfl (by simp) rfl) ?_
  refine m_st (v := .sl 6 1 0 L.length) rfl rfl rfl (by simp) rfl ?_
  repeat (first | (refine step_ops ?_; (first | (refine m_ld_rpi rfl ?_ ?_; (· omega)) | (refine m_ld_pti rfl (by rfl) ?_ ?_; (· first | omega | (simp; omega))) | (apply m_ld_ptb; (· rfl); (· rfl); (· assumption)) | (apply m_ld_rp; (· rfl); (· rfl)) | (apply m_ld_pt; (· rfl); (· rfl); (· rfl)) | (apply m_st; (· rfl); (· rfl); (· rfl); (· first | omega | (simp; done) | (simp; omega)); (· rfl)) | (refine m_alloc ?_) | (refine m_fa rfl ?_) | (refine m_fa_rp rfl ?_) | (refine m_box rfl ?_ ?_; (· first | rfl | (simp [cellOk, Value.oneCell']; done))) | (refine m_box1 rfl rfl ?_) | (refine m_ldall rfl rfl ?_ ?_; (· first | rfl | (simp; done) | (simp [*]; done))) | (refine m_ldall_rp rfl rfl ?_) | (refine m_stall rfl rfl rfl ?_ ?_ ?_ ?_; (· first | rfl | (simp [*]; done)); (· first | rfl | (simp [*]; done)); (· first | rfl | (simp [cellOk, Value.oneCell']; done))))) | refine end_ops ?_ | refine seq_ops ?_ | refine AW_ops ?_ | refine AW_seq ?_ | refine AW_ret ?_ | refine ret_done ?_ | refine norm_then ?_ | refine ret_then ?_ | refine exit_then ?_)
  refine step_opsW (weak_deep (r := 2) rfl (by simp) rfl) ?_
  refine m_stall (l := [.sl 6 1 0 L.length, str b]) rfl rfl rfl rfl rfl rfl ?_
  repeat (first | (refine step_ops ?_; (first | (refine m_ld_rpi rfl ?_ ?_; (· omega)) | (refine m_ld_pti rfl (by rfl) ?_ ?_; (· first | omega | (simp; omega))) | (apply m_ld_ptb; (· rfl); (· rfl); (· assumption)) | (apply m_ld_rp; (· rfl); (· rfl)) | (apply m_ld_pt; (· rfl); (· rfl); (· rfl)) | (apply m_st; (· rfl); (· rfl); (· rfl); (· first | omega | (simp; done) | (simp; omega)); (· rfl)) | (refine m_alloc ?_) | (refine m_fa rfl ?_) | (refine m_fa_rp rfl ?_) | (refine m_box rfl ?_ ?_; (· first | rfl | (simp [cellOk, Value.oneCell']; done))) | (refine m_box1 rfl rfl ?_) | (refine m_ldall rfl rfl ?_ ?_; (· first | rfl | (simp; done) | (simp [*]; done))) | (refine m_ldall_rp rfl rfl ?_) | (refine m_stall rfl rfl rfl ?_ ?_ ?_ ?_; (· first | rfl | (simp [*]; done)); (· first | rfl | (simp [*]; done)); (· first | rfl | (simp [cellOk, Value.oneCell']; done))))) | refine end_ops ?_ | refine seq_ops ?_ | refine AW_ops ?_ | refine AW_seq ?_ | refine AW_ret ?_ | refine ret_done ?_ | refine norm_then ?_ | refine ret_then ?_ | refine exit_then ?_)
  refine ret_donec rfl rfl rfl ?_
  exact outs_agg2 (outs_ints rfl rfl rfl) outs_v
theorem eqDesk_spec (L M : List Int) (b c : List UInt8) (hL : L.length ≤ 1048576) : Sp Tryd.prog 26 [dsk L b, dsk M c] (.b (decide (L = M ∧ b = c))) := by
  refine spec_of Tryd.func26 rfl cc26 rfl ?_
  unfold ac26
  by_cases h1 : L = M
  · subst h1
    repeat (first | (refine step_ops ?_; (first | (refine m_mov (by conv => lhs; whnf) ?_) | (refine m_neq rfl rfl ?_) | (refine m_neqk rfl rfl ?_) | (refine m_neqs_self rfl rfl ?_) | (refine m_neqs rfl rfl ?_) | (refine m_not rfl ?_) | (refine m_ld_rpi rfl ?_ ?_; (· omega)) | (refine m_ld_pti rfl (by rfl) ?_ ?_; (· first | omega | (simp; omega))) | (apply m_ld_ptb; (· rfl); (· rfl); (· assumption)) | (apply m_ld_rp; (· rfl); (· rfl)) | (apply m_ld_pt; (· rfl); (· rfl); (· rfl)) | (refine m_fa rfl ?_) | (refine m_fa_rp rfl ?_) | (refine m_box rfl ?_ ?_; (· first | rfl | (simp [cellOk, Value.oneCell']; done))) | (refine m_box1 rfl rfl ?_))) | refine end_ops ?_ | refine seq_ops ?_ | refine AW_ops ?_ | (refine cond_t rfl ?_ ?_; (· first | rfl | assumption | (refine decide_eq_true ?_; first | assumption | omega) | (refine nt ?_; first | assumption | omega) | (simp [*]; done))) | (refine cond_f rfl ?_ ?_; (· first | rfl | assumption | (refine decide_eq_false ?_; first | assumption | omega) | (refine nf ?_; first | assumption | omega) | (simp [*]; done))) | refine skip_then ?_ | refine AW_seq ?_ | refine AW_ret ?_ | refine ret_done ?_ | refine norm_then ?_ | refine ret_then ?_ | refine exit_then ?_ | refine AW_skip ?_)
    by_cases h2 : b = c
    · subst h2
      (refine step_ops ?_); (apply m_call (eqIntS_spec L L hL)); (· repeat (first | exact lends_nil | (refine lends_cons ?_ ?_; (· (first | exact lend_v | (refine lend_roM rfl; done) | (refine lend_mat rfl ?_; intro j hj; simp (disch := first | omega | assumption) only [hp_put, hp_mem_ne, hp_kill_ne]; first | exact stM_row rfl hj | (rw [stM_row rfl hj]; rfl)) | (refine lend_ints ?_; first | rfl | omega) | (refine lend_sli (by rfl) ?_; first | rfl | omega | (simp; done)) | (refine lend_pln rfl; done) | (refine lend_plns rfl rfl; done) | (refine lend_txr rfl; done) | (refine lend_txs rfl rfl; done) | exact lend_any | (refine lend_agg ?_; first | rfl | assumption | (simp [plainV]; done)))))))
      repeat (first | (refine step_ops ?_; (first | (refine m_mov (by conv => lhs; whnf) ?_) | (refine m_neq rfl rfl ?_) | (refine m_neqk rfl rfl ?_) | (refine m_neqs_self rfl rfl ?_) | (refine m_neqs rfl rfl ?_) | (refine m_not rfl ?_) | (refine m_ld_rpi rfl ?_ ?_; (· omega)) | (refine m_ld_pti rfl (by rfl) ?_ ?_; (· first | omega | (simp; omega))) | (apply m_ld_ptb; (· rfl); (· rfl); (· assumption)) | (apply m_ld_rp; (· rfl); (· rfl)) | (apply m_ld_pt; (· rfl); (· rfl); (· rfl)) | (refine m_fa rfl ?_) | (refine m_fa_rp rfl ?_) | (refine m_box rfl ?_ ?_; (· first | rfl | (simp [cellOk, Value.oneCell']; done))) | (refine m_box1 rfl rfl ?_))) | refine end_ops ?_ | refine seq_ops ?_ | refine AW_ops ?_ | (refine cond_t rfl ?_ ?_; (· first | rfl | assumption | (refine decide_eq_true ?_; first | assumption | omega) | (refine nt ?_; first | assumption | omega) | (simp [*]; done))) | (refine cond_f rfl ?_ ?_; (· first | rfl | assumption | (refine decide_eq_false ?_; first | assumption | omega) | (refine nf ?_; first | assumption | omega) | (simp [*]; done))) | refine skip_then ?_ | refine AW_seq ?_ | refine AW_ret ?_ | refine ret_done ?_ | refine norm_then ?_ | refine ret_then ?_ | refine exit_then ?_ | refine AW_skip ?_)
      exact outs_b (by simp)
    · have h3 : (b == c) = false := by simpa using h2
      (refine step_ops ?_); (apply m_call (eqIntS_spec L L hL)); (· repeat (first | exact lends_nil | (refine lends_cons ?_ ?_; (· (first | exact lend_v | (refine lend_roM rfl; done) | (refine lend_mat rfl ?_; intro j hj; simp (disch := first | omega | assumption) only [hp_put, hp_mem_ne, hp_kill_ne]; first | exact stM_row rfl hj | (rw [stM_row rfl hj]; rfl)) | (refine lend_ints ?_; first | rfl | omega) | (refine lend_sli (by rfl) ?_; first | rfl | omega | (simp; done)) | (refine lend_pln rfl; done) | (refine lend_plns rfl rfl; done) | (refine lend_txr rfl; done) | (refine lend_txs rfl rfl; done) | exact lend_any | (refine lend_agg ?_; first | rfl | assumption | (simp [plainV]; done)))))))
      repeat (first | (refine step_ops ?_; (first | (refine m_mov (by conv => lhs; whnf) ?_) | (refine m_neq rfl rfl ?_) | (refine m_neqk rfl rfl ?_) | (refine m_neqs_self rfl rfl ?_) | (refine m_neqs rfl rfl ?_) | (refine m_not rfl ?_) | (refine m_ld_rpi rfl ?_ ?_; (· omega)) | (refine m_ld_pti rfl (by rfl) ?_ ?_; (· first | omega | (simp; omega))) | (apply m_ld_ptb; (· rfl); (· rfl); (· assumption)) | (apply m_ld_rp; (· rfl); (· rfl)) | (apply m_ld_pt; (· rfl); (· rfl); (· rfl)) | (refine m_fa rfl ?_) | (refine m_fa_rp rfl ?_) | (refine m_box rfl ?_ ?_; (· first | rfl | (simp [cellOk, Value.oneCell']; done))) | (refine m_box1 rfl rfl ?_))) | refine end_ops ?_ | refine seq_ops ?_ | refine AW_ops ?_ | (refine cond_t rfl ?_ ?_; (· first | rfl | assumption | (refine decide_eq_true ?_; first | assumption | omega) | (refine nt ?_; first | assumption | omega) | (simp [*]; done))) | (refine cond_f rfl ?_ ?_; (· first | rfl | assumption | (refine decide_eq_false ?_; first | assumption | omega) | (refine nf ?_; first | assumption | omega) | (simp [*]; done))) | refine skip_then ?_ | refine AW_seq ?_ | refine AW_ret ?_ | refine ret_done ?_ | refine norm_then ?_ | refine ret_then ?_ | refine exit_then ?_ | refine AW_skip ?_)
      exact outs_b (by simp [h2])
  · repeat (first | (refine step_ops ?_; (first | (refine m_mov (by conv => lhs; whnf) ?_) | (refine m_neq rfl rfl ?_) | (refine m_neqk rfl rfl ?_) | (refine m_neqs_self rfl rfl ?_) | (refine m_neqs rfl rfl ?_) | (refine m_not rfl ?_) | (refine m_ld_rpi rfl ?_ ?_; (· omega)) | (refine m_ld_pti rfl (by rfl) ?_ ?_; (· first | omega | (simp; omega))) | (apply m_ld_ptb; (· rfl); (· rfl); (· assumption)) | (apply m_ld_rp; (· rfl); (· rfl)) | (apply m_ld_pt; (· rfl); (· rfl); (· rfl)) | (refine m_fa rfl ?_) | (refine m_fa_rp rfl ?_) | (refine m_box rfl ?_ ?_; (· first | rfl | (simp [cellOk, Value.oneCell']; done))) | (refine m_box1 rfl rfl ?_))) | refine end_ops ?_ | refine seq_ops ?_ | refine AW_ops ?_ | (refine cond_t rfl ?_ ?_; (· first | rfl | assumption | (refine decide_eq_true ?_; first | assumption | omega) | (refine nt ?_; first | assumption | omega) | (simp [*]; done))) | (refine cond_f rfl ?_ ?_; (· first | rfl | assumption | (refine decide_eq_false ?_; first | assumption | omega) | (refine nf ?_; first | assumption | omega) | (simp [*]; done))) | refine skip_then ?_ | refine AW_seq ?_ | refine AW_ret ?_ | refine ret_done ?_ | refine norm_then ?_ | refine ret_then ?_ | refine exit_then ?_ | refine AW_skip ?_)
    (refine step_ops ?_); (apply m_call (eqIntS_spec L M hL)); (· repeat (first | exact lends_nil | (refine lends_cons ?_ ?_; (· (first | exact lend_v | (refine lend_roM rfl; done) | (refine lend_mat rfl ?_; intro j hj; simp (disch := first | omega | assumption) only [hp_put, hp_mem_ne, hp_kill_ne]; first | exact stM_row rfl hj | (rw [stM_row rfl hj]; rfl)) | (refine lend_ints ?_; first | rfl | omega) | (refine lend_sli (by rfl) ?_; first | rfl | omega | (simp; done)) | (refine lend_pln rfl; done) | (refine lend_plns rfl rfl; done) | (refine lend_txr rfl; done) | (refine lend_txs rfl rfl; done) | exact lend_any | (refine lend_agg ?_; first | rfl | assumption | (simp [plainV]; done)))))))
    repeat (first | (refine step_ops ?_; (first | (refine m_mov (by conv => lhs; whnf) ?_) | (refine m_neq rfl rfl ?_) | (refine m_neqk rfl rfl ?_) | (refine m_neqs_self rfl rfl ?_) | (refine m_neqs rfl rfl ?_) | (refine m_not rfl ?_) | (refine m_ld_rpi rfl ?_ ?_; (· omega)) | (refine m_ld_pti rfl (by rfl) ?_ ?_; (· first | omega | (simp; omega))) | (apply m_ld_ptb; (· rfl); (· rfl); (· assumption)) | (apply m_ld_rp; (· rfl); (· rfl)) | (apply m_ld_pt; (· rfl); (· rfl); (· rfl)) | (refine m_fa rfl ?_) | (refine m_fa_rp rfl ?_) | (refine m_box rfl ?_ ?_; (· first | rfl | (simp [cellOk, Value.oneCell']; done))) | (refine m_box1 rfl rfl ?_))) | refine end_ops ?_ | refine seq_ops ?_ | refine AW_ops ?_ | (refine cond_t rfl ?_ ?_; (· first | rfl | assumption | (refine decide_eq_true ?_; first | assumption | omega) | (refine nt ?_; first | assumption | omega) | (simp [*]; done))) | (refine cond_f rfl ?_ ?_; (· first | rfl | assumption | (refine decide_eq_false ?_; first | assumption | omega) | (refine nf ?_; first | assumption | omega) | (simp [*]; done))) | refine skip_then ?_ | refine AW_seq ?_ | refine AW_ret ?_ | refine ret_done ?_ | refine norm_then ?_ | refine ret_then ?_ | refine exit_then ?_ | refine AW_skip ?_)
    exact outs_b (by simp [h1])
end Go.Proofs.YtojpcpdbnmnknaaDoor
namespace Go.Proofs.YtojpcpdbnmnknaaDoor
open Go.Am
attribute [local irreducible] AW Outs Weak Lends Lend Sp aops atree aop1 Then Round InBlock Done
attribute [local irreducible] SpH SpX DoneH DoneX
def DeskOk (L : List Int) (b : List UInt8) : Prop := IsEx L ∧ GoodBd b
instance (L : List Int) (b : List UInt8) : Decidable (DeskOk L b) := inferInstanceAs (Decidable (_ ∧ _))
theorem coGood_spec (L : List Int) (b : List UInt8) (hL : L.length ≤ 1048576) (hb : b.length ≤ 1048576) : Sp Tryd.prog 42 [dsk L b] (.b (decide (DeskOk L b))) := by
  refine spec_of Tryd.func42 rfl cc42 rfl ?_
  unfold ac42
  by_cases h1 : IsEx L
  · repeat (first | (refine step_ops ?_; (first | (refine m_mov (by conv => lhs; whnf) ?_) | (apply m_ld_pt; (· rfl); (· rfl); (· rfl)) | (refine m_fa rfl ?_) | (refine m_box rfl ?_ ?_; (· first | rfl | (simp [cellOk, Value.oneCell']; done))))) | refine end_ops ?_ | refine seq_ops ?_)
    (refine step_ops ?_); (apply m_call (exGood_spec L hL)); (· repeat (first | exact lends_nil | (refine lends_cons ?_ ?_; (· (refine lend_ints ?_; first | rfl | omega)))))
    repeat (refine step_ops ?_; ((try (refine g_yes rfl ?_ ?_; (· first | rfl | assumption | (refine decide_eq_true ?_; first | assumption | omega) | (refine nt ?_; first | assumption | omega) | (simp [*]; done) | (refine decide_eq_false ?_; first | assumption | omega) | (refine nf ?_; first | assumption | omega)))); (first | (refine m_mov (by conv => lhs; whnf) ?_) | (apply m_ld_pt; (· rfl); (· rfl); (· rfl)) | (refine m_fa rfl ?_))))
    (refine step_ops ?_); (refine g_yes rfl ?_ ?_; (· first | (first | rfl | assumption | (refine decide_eq_true ?_; first | assumption | omega) | (refine nt ?_; first | assumption | omega) | (simp [*]; done)) | (first | rfl | assumption | (refine decide_eq_false ?_; first | assumption | omega) | (refine nf ?_; first | assumption | omega) | (simp [*]; done))); (apply m_call (bdGood_spec b hb))); (· repeat (first | exact lends_nil | (refine lends_cons ?_ ?_; (· exact lend_v))))
    repeat (first | (refine step_ops ?_; (first | (refine m_mov (by conv => lhs; whnf) ?_) | (refine m_pick_t rfl ?_ (by conv => lhs; whnf) ?_; (· first | rfl | assumption | (refine decide_eq_true ?_; first | assumption | omega) | (refine nt ?_; first | assumption | omega) | (simp [*]; done))))) | refine end_ops ?_ | refine AW_ret ?_ | refine ret_done ?_)
    exact outs_b (by simp [DeskOk, h1])
  · repeat (first | (refine step_ops ?_; (first | (refine m_mov (by conv => lhs; whnf) ?_) | (apply m_ld_pt; (· rfl); (· rfl); (· rfl)) | (refine m_fa rfl ?_) | (refine m_box rfl ?_ ?_; (· first | rfl | (simp [cellOk, Value.oneCell']; done))))) | refine end_ops ?_ | refine seq_ops ?_)
    (refine step_ops ?_); (apply m_call (exGood_spec L hL)); (· repeat (first | exact lends_nil | (refine lends_cons ?_ ?_; (· (refine lend_ints ?_; first | rfl | omega)))))
    repeat (first | (refine step_ops ?_; (first | (first | (refine m_mov (by conv => lhs; whnf) ?_) | (refine m_pick_f rfl ?_ (by conv => lhs; whnf) ?_; (· first | rfl | assumption | (refine decide_eq_false ?_; first | assumption | omega) | (refine nf ?_; first | assumption | omega) | (simp [*]; done)))) | (refine g_noT rfl ?_ ?_; (· first | rfl | assumption | (refine decide_eq_false ?_; first | assumption | omega) | (refine nf ?_; first | assumption | omega) | (simp [*]; done))))) | refine end_ops ?_ | refine AW_ret ?_ | refine ret_done ?_)
    exact outs_b (by simp [DeskOk, h1])
theorem specIsDesk_spec (L : List Int) (b : List UInt8) (hL : L.length ≤ 1048576) (hb : b.length ≤ 1048576) : Sp Tryd.prog 23 [dsk L b] (.b (decide (DeskOk L b))) := by
  refine spec_of Tryd.func23 rfl cc23 rfl ?_
  unfold ac23
  repeat (first | (refine step_ops ?_; (first | (refine m_mov (by conv => lhs; whnf) ?_) | (refine m_box rfl ?_ ?_; (· first | rfl | (simp [cellOk, Value.oneCell']; done))) | (refine m_ldall rfl rfl ?_ ?_; (· first | rfl | (simp; done) | (simp [*]; done))))) | refine end_ops ?_ | refine seq_ops ?_)
  refine step_ops ?_
  refine m_call (coGood_spec L b hL hb) (lends_cons (lend_dsk rfl) lends_nil) ?_
  repeat (first | (refine step_ops ?_; (refine m_mov (by conv => lhs; whnf) ?_)) | refine end_ops ?_ | refine AW_ret ?_ | refine ret_done ?_)
  exact outs_b rfl
theorem implIsDesk_spec (L : List Int) (b : List UInt8) (hL : L.length ≤ 1048576) (hb : b.length ≤ 1048576) : Sp Tryd.prog 25 [dsk L b] (.b (decide (DeskOk L b))) := by
  refine spec_of Tryd.func25 rfl cc25 rfl ?_
  unfold ac25
  by_cases h1 : IsEx L
  · repeat (first | (refine step_ops ?_; (first | (refine m_mov (by conv => lhs; whnf) ?_) | (apply m_ld_pt; (· rfl); (· rfl); (· rfl)) | (refine m_fa rfl ?_) | (refine m_box rfl ?_ ?_; (· first | rfl | (simp [cellOk, Value.oneCell']; done))))) | refine end_ops ?_ | refine seq_ops ?_)
    (refine step_ops ?_); (apply m_call (implIsExchange_spec L hL)); (· repeat (first | exact lends_nil | (refine lends_cons ?_ ?_; (· (refine lend_ints ?_; first | rfl | omega)))))
    repeat (refine step_ops ?_; ((try (refine g_yes rfl ?_ ?_; (· first | rfl | assumption | (refine decide_eq_true ?_; first | assumption | omega) | (refine nt ?_; first | assumption | omega) | (simp [*]; done) | (refine decide_eq_false ?_; first | assumption | omega) | (refine nf ?_; first | assumption | omega)))); (first | (refine m_mov (by conv => lhs; whnf) ?_) | (apply m_ld_pt; (· rfl); (· rfl); (· rfl)) | (refine m_fa rfl ?_))))
    (refine step_ops ?_); (refine g_yes rfl ?_ ?_; (· first | (first | rfl | assumption | (refine decide_eq_true ?_; first | assumption | omega) | (refine nt ?_; first | assumption | omega) | (simp [*]; done)) | (first | rfl | assumption | (refine decide_eq_false ?_; first | assumption | omega) | (refine nf ?_; first | assumption | omega) | (simp [*]; done))); (apply m_call (implIsBoard_spec b hb))); (· repeat (first | exact lends_nil | (refine lends_cons ?_ ?_; (· exact lend_v))))
    repeat (first | (refine step_ops ?_; (first | (refine m_mov (by conv => lhs; whnf) ?_) | (refine m_pick_t rfl ?_ (by conv => lhs; whnf) ?_; (· first | rfl | assumption | (refine decide_eq_true ?_; first | assumption | omega) | (refine nt ?_; first | assumption | omega) | (simp [*]; done))))) | refine end_ops ?_ | refine AW_ret ?_ | refine ret_done ?_)
    exact outs_b (by simp [DeskOk, h1])
  · repeat (first | (refine step_ops ?_; (first | (refine m_mov (by conv => lhs; whnf) ?_) | (apply m_ld_pt; (· rfl); (· rfl); (· rfl)) | (refine m_fa rfl ?_) | (refine m_box rfl ?_ ?_; (· first | rfl | (simp [cellOk, Value.oneCell']; done))))) | refine end_ops ?_ | refine seq_ops ?_)
    (refine step_ops ?_); (apply m_call (implIsExchange_spec L hL)); (· repeat (first | exact lends_nil | (refine lends_cons ?_ ?_; (· (refine lend_ints ?_; first | rfl | omega)))))
    repeat (first | (refine step_ops ?_; (first | (first | (refine m_mov (by conv => lhs; whnf) ?_) | (refine m_pick_f rfl ?_ (by conv => lhs; whnf) ?_; (· first | rfl | assumption | (refine decide_eq_false ?_; first | assumption | omega) | (refine nf ?_; first | assumption | omega) | (simp [*]; done)))) | (refine g_noT rfl ?_ ?_; (· first | rfl | assumption | (refine decide_eq_false ?_; first | assumption | omega) | (refine nf ?_; first | assumption | omega) | (simp [*]; done))))) | refine end_ops ?_ | refine AW_ret ?_ | refine ret_done ?_)
    exact outs_b (by simp [DeskOk, h1])
theorem szIntS_spec (L : List Int) (k : Int) (hk : 0 ≤ k) (hk2 : k ≤ 1048576) (hL : L.length ≤ maxLen) : Sp Tryd.prog 41 [ints L, .i k] (.i (if (L.length : Int) ≤ k then k - L.length else -1)) := by
  have hm : maxLen ≤ 9223372036854775807 := by decide
  refine spec_of Tryd.func41 rfl cc41 rfl ?_
  unfold ac41
  by_cases h : (L.length : Int) ≤ k
  · rw [if_pos h]
    repeat (first | (refine step_ops ?_; (first | (refine m_mov (by conv => lhs; whnf) ?_) | (refine m_lss rfl rfl ?_) | (refine m_sub rfl rfl ?_ ?_ ?_; (· omega); (· omega)) | (refine m_len_ro rfl ?_))) | refine end_ops ?_ | refine seq_ops ?_ | (refine cond_f rfl ?_ ?_; (· first | rfl | assumption | (refine decide_eq_false ?_; first | assumption | omega) | (refine nf ?_; first | assumption | omega) | (simp [*]; done))) | refine skip_then ?_ | refine AW_seq ?_ | refine AW_ret ?_ | refine ret_done ?_)
    exact outs_i rfl
  · rw [if_neg h]
    repeat (first | (refine step_ops ?_; (first | (refine m_mov (by conv => lhs; whnf) ?_) | (refine m_lss rfl rfl ?_) | (refine m_sub rfl rfl ?_ ?_ ?_; (· omega); (· omega)) | (refine m_len_ro rfl ?_))) | refine end_ops ?_ | refine seq_ops ?_ | (refine cond_t rfl ?_ ?_; (· first | rfl | assumption | (refine decide_eq_true ?_; first | assumption | omega) | (refine nt ?_; first | assumption | omega) | (simp [*]; done))) | refine AW_seq ?_ | refine AW_ret ?_ | refine ret_done ?_ | refine ret_then ?_)
    exact outs_i rfl
end Go.Proofs.YtojpcpdbnmnknaaDoor
namespace Go.Am
open Go.ChangeShapes Go.WideShapes Go.ChangeAt Go.RowKit Go.ChangeMaps
variable {P : Program} {H : Type} {enc : TypeId × Value → H}
/-- A cell of a list of rows of one length. -/
theorem flat_get {α : Type} (z : Nat) (hz : 0 < z) : ∀ (rs : List (List α)) (_ : ∀ r ∈ rs, r.length = z) (p : Nat), rs.flatten[p]? = (rs[p / z]?).bind (·[p % z]?)
  | [], _, p => by simp
  | r :: rs, h, p => by
    have hr := h r (List.mem_cons_self ..)
    rw [List.flatten_cons]
    by_cases hp : p < z
    · rw [List.getElem?_append_left (by omega), Nat.div_eq_of_lt hp, Nat.mod_eq_of_lt hp]; rfl
    · have h1 : p / z = (p - z) / z + 1 := by rw [Nat.div_eq_sub_div hz (by omega)]
      have h2 : p % z = (p - z) % z := Nat.mod_eq_sub_mod (by omega)
      rw [List.getElem?_append_right (by omega), hr, flat_get z hz rs (fun x hx => h x (List.mem_cons_of_mem _ hx)), h1, h2]; rfl
/-- A slice whose elements are read asx Q says. -/
theorem read_slice {W : World} {t e : TypeId} {z : Nat} (ht : P.underlying t = some (.slice e)) (hc : P.cellsOf e = z) (hz : 0 < z) (Q : List AV → Prop)
    (hQ : ∀ fuel cs (x : DataW H × List MemPlace), DataW.trod enc P W 0 (fun _ => true) true fuel e cs = some x → ∃ l, Q l ∧ l.length = z ∧ SimL l (Outer W) cs)
    {fuel : Nat} {cs : List Value} {x : DataW H × List MemPlace} (h : DataW.trod enc P W 0 (fun _ => true) true fuel t cs = some x) :
    ∃ ls : List (List AV), (∀ l ∈ ls, Q l ∧ l.length = z) ∧ ls.length ≤ maxLen ∧ SimL [.ro false z ls.flatten ls.length] (Outer W) cs := by
  rcases Go.Deep.open_slice ht h with ⟨rfl, _⟩ | ⟨a, len, cap, m, n, D, Pl, rfl, hb, hl, hm, hmm, rfl, hx⟩
  · refine ⟨[], by simp, by simp, ?_⟩
    simp only [SimL, SimV, and_true]
    exact .inl ⟨rfl, rfl, none, 0, rfl, by simp⟩
  · rw [hc] at hx
    simp only [if_true] at hmm
    have each : ∀ i, i < len → ∃ l : List AV, Q l ∧ l.length = z ∧ ∃ cs', W.cells? 0 (a.add (i * z)) z = some cs' ∧ SimL l (Outer W) cs' := fun i hi => by
      obtain ⟨cs', h1, h2⟩ := hx i (by omega)
      obtain ⟨l, h3, h4, h5⟩ := hQ n cs' _ h2
      exact ⟨l, h3, h4, cs', h1, h5⟩
    obtain ⟨f, hf⟩ := Go.Deep.choose_lt each
    have hll : ((List.range len).map f).length = len := by simp
    have hrow : ∀ l ∈ (List.range len).map f, Q l ∧ l.length = z := fun l hl' => by
      simp only [List.mem_map, List.mem_range] at hl'
      obtain ⟨i, hi, rfl⟩ := hl'
      exact ⟨(hf i hi).1, (hf i hi).2.1⟩
    refine ⟨(List.range len).map f, hrow, by rw [hll]; omega, ?_⟩
    simp only [SimL, SimV, and_true]
    rw [hll]
    by_cases h0 : len = 0
    · subst h0
      exact .inl ⟨rfl, rfl, _, cap, rfl, by simp⟩
    · obtain ⟨cs0, hcs0, _⟩ := (hf 0 (by omega)).2.2
      rw [Nat.zero_mul] at hcs0
      obtain ⟨_, hlen0, hcell0⟩ := World.cells?_some hcs0
      have hc0 := hcell0 0 hz
      rw [show (a.add 0).add 0 = a from rfl, List.getElem?_eq_getElem (by omega)] at hc0
      have hspot : a.spot = none ∧ ∃ cur e f, W.heap[a.block]? = some (.cells cur e f) := by
        unfold World.cell? at hc0
        split at hc0
        · rename_i c e' f hb
          split at hc0
          · cases hc0
          · rename_i hs
            exact ⟨by simpa using hs, c, e', f, hb⟩
        · cases hc0
      obtain ⟨hs, cur, e', fz, hbk⟩ := hspot
      obtain ⟨b, o, sp⟩ := a
      simp only at hs hbk
      subst hs
      have hflen : ((List.range len).map f).flatten.length = len * z := by
        rw [List.length_flatten]
        have : ((List.range len).map f).map List.length = List.replicate len z := by
          apply List.ext_getElem?
          intro i
          by_cases hi : i < len
          · simp [hi, (hf i hi).2.1]
          · simp [hi]
        rw [this, List.sum_replicate_nat]
      refine .inr ⟨b, o, cap, cur, e', fz, rfl, hbk, lt_of_get hbk, by rw [hflen], hl, by simp, ?_⟩
      refine SimL.of_get fun p x hp => ?_
      have hp1 := (List.getElem?_eq_some_iff.1 hp).1
      rw [hflen] at hp1
      rw [flat_get z hz _ fun l hl' => (hrow l hl').2] at hp
      have hi : p / z < len := Nat.div_lt_of_lt_mul (by rw [Nat.mul_comm]; exact hp1)
      have hj : p % z < z := Nat.mod_lt _ hz
      rw [List.getElem?_map, List.getElem?_range hi] at hp
      obtain ⟨_, _, cs', h1, h2⟩ := hf (p / z) hi
      obtain ⟨y, h3, h4⟩ := SimL.get h2 hp
      obtain ⟨_, hlen', hcell'⟩ := World.cells?_some h1
      have h5 := hcell' (p % z) hj
      rw [h3, Go.Deep.add_add, show p / z * z + p % z = p by rw [Nat.mul_comm]; exact Nat.div_add_mod p z] at h5
      refine ⟨y, ?_, h4⟩
      rw [addr_add, cell_of_row W b (o + p) cur e' fz hbk] at h5
      rw [List.getElem?_drop, Array.getElem?_toList]
      exact h5
/-- An integer's cell. -/
theorem read_int {W : World} {t : TypeId} (ht : P.underlying t = some (.int .i64)) {fuel : Nat} {cs : List Value} {x : DataW H × List MemPlace} (h : DataW.trod enc P W 0 (fun _ => true) true fuel t cs = some x) :
    ∃ n : Int, (-9223372036854775808 ≤ n ∧ n ≤ 9223372036854775807) ∧ SimL [AV.i n] (Outer W) cs := by
  obtain ⟨n, rfl, _, hw⟩ := DataW.trod_int ht h
  simp [Lit.wf, IntKind.min, IntKind.max, IntKind.signed, IntKind.bits] at hw
  exact ⟨n, by omega, by simp [SimL, SimV]⟩
/-- A string's cell. -/
theorem read_str {W : World} {t : TypeId} (ht : P.underlying t = some .string) {fuel : Nat} {cs : List Value} {x : DataW H × List MemPlace} (h : DataW.trod enc P W 0 (fun _ => true) true fuel t cs = some x) :
    ∃ b : ByteArray, b.size ≤ maxLen ∧ SimL [AV.v (.string b)] (Outer W) cs := by
  obtain ⟨b, rfl, _, hw⟩ := DataW.trod_string ht h
  exact ⟨b, hw, by simp [SimL, SimV]⟩
/-- Out of one-cell rows their cells. -/
theorem rows_one {α : Type} {g : α → AV} {R : α → Prop} : ∀ {ls : List (List AV)}, (∀ l ∈ ls, ∃ a, l = [g a] ∧ R a) → ∃ L : List α, ls.flatten = L.map g ∧ ls.length = L.length ∧ ∀ a ∈ L, R a
  | [], _ => ⟨[], rfl, rfl, by simp⟩
  | l :: ls, h => by
    obtain ⟨a, rfl, ha⟩ := h l (List.mem_cons_self ..)
    obtain ⟨L, h1, h2, h3⟩ := rows_one (ls := ls) fun x hx => h x (List.mem_cons_of_mem _ hx)
    refine ⟨a :: L, by rw [List.flatten_cons, h1]; rfl, by simp [h2], fun x hx => ?_⟩
    rcases List.mem_cons.1 hx with rfl | hx
    · exact ha
    · exact h3 x hx
/-- A slice of integers. -/
theorem read_ints {W : World} {t e : TypeId} (ht : P.underlying t = some (.slice e)) (he : P.underlying e = some (.int .i64)) (hc : P.cellsOf e = 1) {fuel : Nat} {cs : List Value} {x : DataW H × List MemPlace}
    (h : DataW.trod enc P W 0 (fun _ => true) true fuel t cs = some x) : ∃ L : List Int, (L.length ≤ maxLen ∧ ∀ x ∈ L, -9223372036854775808 ≤ x ∧ x ≤ 9223372036854775807) ∧ SimL [ints L] (Outer W) cs := by
  obtain ⟨ls, h1, h2, h3⟩ := read_slice ht hc (by decide) (fun l => ∃ n : Int, l = [AV.i n] ∧ (-9223372036854775808 ≤ n ∧ n ≤ 9223372036854775807)) (fun fuel cs x hx => by
    obtain ⟨n, h4, h5⟩ := read_int he hx
    exact ⟨_, ⟨n, rfl, h4⟩, rfl, h5⟩) h
  obtain ⟨L, h4, h5, h6⟩ := rows_one fun l hl => (h1 l hl).1
  rw [h4, h5] at h3
  exact ⟨L, ⟨by omega, h6⟩, h3⟩
end Go.Am
namespace Go.Am
open Go.ChangeShapes Go.WideShapes Go.ChangeAt Go.RowKit Go.ChangeMaps
variable {P : Program} {H : Type} {enc : TypeId × Value → H}
theorem arg_dsk {W : World} {t e : TypeId} {f0 f1 : Field} {v : Value} {d : DataW H} {ps : List MemPlace} (ht : P.underlying t = some (.struct #[f0, f1])) (h0 : P.underlying f0.type = some (.slice e)) (he : P.underlying e = some (.int .i64)) (h1 : P.underlying f1.type = some .string)
    (hc : P.cellsOf e = 1) (hsz : P.cellsOf t = 2) (ho : f0.offset = 0 ∧ P.cellsOf f0.type = 1 ∧ f1.offset = 1 ∧ P.cellsOf f1.type = 1) (hval : Value.okWide P W .any 0 t v) (h : DataW.Trod enc P W 0 (fun _ => true) true t v d ps) :
    ∃ x : List Int × List UInt8, SimV (dsk x.1 x.2) (Outer W) v ∧ x.1.length ≤ 9223372036854775807 ∧ x.2.length ≤ 9223372036854775807 := by
  obtain ⟨cs, rfl, hcs⟩ := okWide_struct ht hval
  obtain ⟨fuel, hf⟩ := h
  obtain ⟨y0, y1, n, _, hl, hd0, hd1⟩ := trod_struct2 ht hf
  obtain ⟨e1, e2, e3, e4⟩ := ho
  rw [e1, e2] at hd0
  rw [e3, e4] at hd1
  obtain ⟨L, hL, s0⟩ := read_ints h0 he hc hd0
  obtain ⟨b, hb, s1⟩ := read_str h1 hd1
  rw [hsz] at hcs
  have e : str b.data.toList = AV.v (.string b) := by show AV.v (.string ⟨b.data.toList.toArray⟩) = _; simp
  refine ⟨(L, b.data.toList), ?_, Nat.le_trans hL.1 (by decide), ?_⟩
  · simp only [SimV]
    refine ⟨cs, rfl, hcs, ?_⟩
    obtain ⟨l⟩ := cs
    match l with
    | [] => simp at hcs
    | [_] => simp at hcs
    | _ :: _ :: _ :: _ => simp at hcs
    | [p, q] =>
      simp only [Value.cells, List.drop_zero, List.take_succ_cons, List.take_zero, List.drop_succ_cons, SimL, and_true] at s0 s1 ⊢
      rw [e]
      exact ⟨s0, s1⟩
  · have e2 : b.data.toList.length = b.size := Array.length_toList
    show b.data.toList.length ≤ _
    rw [e2]
    exact Nat.le_trans hb (by decide)
end Go.Am
