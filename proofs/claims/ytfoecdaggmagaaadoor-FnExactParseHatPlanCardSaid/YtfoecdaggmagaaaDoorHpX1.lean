/- Texts cut at colons, and joined. No program. Numbers read out of texts, and exchanges. No program. Plans read out of texts. No program. -/
import Derived.Test.YtfoecdaggmagaaaDoorAmU
import Derived.Lib.Bytealg
import Derived.Lib.ItoaNum
import Derived.Lib.Join
import Derived.Lib.AtoiAll
import Derived.Test.YtfoecdaggmagaaaDoorMaHt
namespace Go.Am

/-- A text cut at colons, at most k times. -/
def splitNB : Nat → List UInt8 → List (List UInt8)
  | 0, B => [B]
  | k + 1, B => if (58 : UInt8) ∈ B then B.takeWhile (· != 58) :: splitNB k (B.drop ((B.takeWhile (· != 58)).length + 1)) else [B]
/-- A text cut at all colons. -/
def splitB (B : List UInt8) : List (List UInt8) := splitNB (B.count 58) B
def joinB : List (List UInt8) → List UInt8
  | [] => []
  | r :: rs => r ++ rs.flatMap fun x => 58 :: x

theorem takeWhile_cut {p q : List UInt8} (h : (58 : UInt8) ∉ p) : (p ++ 58 :: q).takeWhile (· != 58) = p := by
  induction p with
  | nil => simp
  | cons a p ih =>
    have h1 : a ≠ 58 := fun e => h (by simp [e])
    simp [h1, ih (fun hh => h (by simp [hh]))]
theorem splitNB_cut {p q : List UInt8} (h : (58 : UInt8) ∉ p) (k : Nat) : splitNB (k + 1) (p ++ 58 :: q) = p :: splitNB k q := by
  rw [splitNB, if_pos (by simp), takeWhile_cut h]
  congr 2
  rw [List.drop_append, List.drop_of_length_le (by omega)]
  simp
theorem splitNB_one {B : List UInt8} (h : (58 : UInt8) ∉ B) (k : Nat) : splitNB k B = [B] := by
  cases k with
  | zero => rfl
  | succ k => rw [splitNB, if_neg h]
theorem cut_at {B : List UInt8} (h : (58 : UInt8) ∈ B) : ∃ p q, (58 : UInt8) ∉ p ∧ B = p ++ 58 :: q := by
  induction B with
  | nil => simp at h
  | cons a B ih =>
    by_cases ha : a = 58
    · exact ⟨[], B, by simp, by simp [ha]⟩
    · have hm : (58 : UInt8) ∈ B := by
        rcases List.mem_cons.1 h with e | e
        · exact absurd e.symm ha
        · exact e
      obtain ⟨p, q, h1, h2⟩ := ih hm
      exact ⟨a :: p, q, by simp [h1]; exact fun e => ha e.symm, by simp [h2]⟩
theorem count_cut {p q : List UInt8} (h : (58 : UInt8) ∉ p) : (p ++ 58 :: q).count 58 = q.count 58 + 1 := by
  rw [List.count_append, List.count_eq_zero.2 h, List.count_cons_self]
  omega
theorem splitB_cut {p q : List UInt8} (h : (58 : UInt8) ∉ p) : splitB (p ++ 58 :: q) = p :: splitB q := by
  unfold splitB
  rw [count_cut h, splitNB_cut h]
theorem splitB_one {B : List UInt8} (h : (58 : UInt8) ∉ B) : splitB B = [B] := splitNB_one h _
theorem splitNB_len : ∀ (k : Nat) (B : List UInt8), (splitNB k B).length = min k (B.count 58) + 1
  | 0, B => by simp [splitNB]
  | k + 1, B => by
    by_cases h : (58 : UInt8) ∈ B
    · obtain ⟨p, q, h1, rfl⟩ := cut_at h
      rw [splitNB_cut h1, List.length_cons, splitNB_len k q, count_cut h1]
      omega
    · rw [splitNB_one h, List.count_eq_zero.2 h]
      simp
theorem splitNB_all : ∀ (k : Nat) (B : List UInt8), B.count 58 ≤ k → splitNB k B = splitB B
  | k, B, hk => by
    by_cases h : (58 : UInt8) ∈ B
    · obtain ⟨p, q, h1, rfl⟩ := cut_at h
      rw [count_cut h1] at hk
      cases k with
      | zero => omega
      | succ k => rw [splitNB_cut h1, splitB_cut h1, splitNB_all k q (by omega)]
    · rw [splitNB_one h, splitB_one h]
theorem splitB_len (B : List UInt8) : (splitB B).length = B.count 58 + 1 := by
  unfold splitB
  rw [splitNB_len]
  omega
theorem splitNB_ne (k : Nat) (B : List UInt8) : splitNB k B ≠ [] := fun h => by
  have := splitNB_len k B
  rw [h] at this
  simp at this
theorem joinB_cons {r : List UInt8} {rs : List (List UInt8)} (h : rs ≠ []) : joinB (r :: rs) = r ++ 58 :: joinB rs := by
  cases rs with
  | nil => exact absurd rfl h
  | cons a l => simp [joinB]
theorem joinB_split : ∀ (k : Nat) (B : List UInt8), joinB (splitNB k B) = B
  | 0, B => by simp [splitNB, joinB]
  | k + 1, B => by
    by_cases h : (58 : UInt8) ∈ B
    · obtain ⟨p, q, h1, rfl⟩ := cut_at h
      rw [splitNB_cut h1, joinB_cons (splitNB_ne k q), joinB_split k q]
    · rw [splitNB_one h]
      simp [joinB]
theorem joinB_snoc (l : List (List UInt8)) (x : List UInt8) : joinB (l ++ [x]) = joinB l ++ (if 0 < l.length then [58] else []) ++ x := by
  cases l with
  | nil => simp [joinB]
  | cons r rs => simp [joinB]
theorem getD_get {α : Type} {l : List α} {d : α} {j : Nat} (h : j < l.length) : l.getD j d = l[j] := by simp [h]
theorem indexByte_cut {p q : List UInt8} (h : (58 : UInt8) ∉ p) : Lib.indexByte (p ++ 58 :: q) 58 = p.length := by
  induction p with
  | nil => simp [Lib.indexByte]
  | cons a p ih =>
    have h1 : (a == 58) = false := by
      rw [beq_eq_false_iff_ne]
      exact fun e => h (by simp [e])
    have h2 := ih (fun hh => h (by simp [hh]))
    rw [List.cons_append, Lib.indexByte, h1, h2]
    have : ((p.length : Int) == -1) = false := by
      rw [beq_eq_false_iff_ne]; omega
    simp [this]
theorem indexByte_none {B : List UInt8} (h : (58 : UInt8) ∉ B) : Lib.indexByte B 58 = -1 := by
  induction B with
  | nil => rfl
  | cons a p ih =>
    have h1 : (a == 58) = false := by
      rw [beq_eq_false_iff_ne]
      exact fun e => h (by simp [e])
    rw [Lib.indexByte, h1, ih (fun hh => h (by simp [hh]))]
    rfl

end Go.Am

namespace Go.Am
/-- What a row of digits spells behind a number; none: some byte is no digit. -/
def rdF : Int → List UInt8 → Option Int
  | a, [] => some a
  | a, c :: l => if 48 ≤ c.toNat ∧ c.toNat ≤ 57 then rdF (10 * a + ((c.toNat : Int) - 48)) l else none
/-- A number below a million as it is written, or -1. -/
def rd (w : List UInt8) : Int := if 1 ≤ w.length ∧ w.length ≤ 6 ∧ ¬ (w.getD 0 0 = 48 ∧ 1 < w.length) then (rdF 0 w).getD (-1) else -1
theorem rdF_ge : ∀ (l : List UInt8) (a v : Int), 0 ≤ a → rdF a l = some v → a * 10 ^ l.length ≤ v
  | [], a, v, _, h => by simp only [rdF] at h; cases h; simp
  | c :: l, a, v, ha, h => by
    simp only [rdF] at h
    split at h
    · rename_i hc
      have h1 := rdF_ge l _ v (by omega) h
      rw [List.length_cons, Int.pow_succ]
      have h2 : (0 : Int) ≤ 10 ^ l.length := Int.le_of_lt (Int.pow_pos (by decide))
      have h3 : 10 * a ≤ 10 * a + ((c.toNat : Int) - 48) := by omega
      have h4 : 10 * a * 10 ^ l.length ≤ (10 * a + ((c.toNat : Int) - 48)) * 10 ^ l.length := Int.mul_le_mul_of_nonneg_right h3 h2
      have h5 : a * (10 ^ l.length * 10) = 10 * a * 10 ^ l.length := by rw [Int.mul_comm (10 ^ l.length) 10, ← Int.mul_assoc, Int.mul_comm a 10]
      omega
    · cases h
theorem u8_of {c : UInt8} {n : Nat} (h : c.toNat = n) : c = UInt8.ofNat n := by rw [← h]; simp
theorem dec_of_lt (n : Nat) (h : n < 10) : Lib.decDigits n = [UInt8.ofNat (48 + n)] := by rw [Lib.decDigits, dif_pos h]
theorem dec_of_two (n : Nat) (h : 10 ≤ n) (h2 : n < 100) : Lib.decDigits n = [UInt8.ofNat (48 + n / 10), UInt8.ofNat (48 + n % 10)] := by
  rw [Lib.decDigits, dif_neg (by omega), dec_of_lt _ (by omega)]; rfl
/-- What is read as a number below 100 is written so. -/
theorem rd_dec {w : List UInt8} {x : Nat} (h : rd w = x) (hx : x < 100) : w = Lib.decDigits x := by
  unfold rd at h
  split at h
  · rename_i hc
    obtain ⟨h1, h2, h3⟩ := hc
    match w, h1, h2, h3, h with
    | [c], _, _, _, h =>
      simp only [rdF] at h
      split at h
      · rename_i hd
        simp only [Option.getD_some] at h
        have hx' : x = c.toNat - 48 := by omega
        rw [dec_of_lt x (by omega)]
        congr 1
        exact u8_of (by omega)
      · simp at h <;> omega
    | [c, d], _, _, h3, h =>
      simp only [rdF] at h
      split at h
      · split at h
        · rename_i hd he
          simp only [Option.getD_some] at h
          have hc0 : c.toNat ≠ 48 := fun e => h3 ⟨by simpa using u8_of e, by simp⟩
          have e1 : x / 10 = c.toNat - 48 := by omega
          have e2 : x % 10 = d.toNat - 48 := by omega
          rw [dec_of_two x (by omega) hx, e1, e2]
          rw [show 48 + (c.toNat - 48) = c.toNat by omega, show 48 + (d.toNat - 48) = d.toNat by omega]
          simp
        · simp at h <;> omega
      · simp at h <;> omega
    | c :: d :: e :: l, _, _, h3, h =>
      exfalso
      have hc0 : c.toNat ≠ 48 := fun e => h3 ⟨by simpa using u8_of e, by simp⟩
      cases hr : rdF 0 (c :: d :: e :: l) with
      | none => rw [hr] at h; simp at h <;> omega
      | some v =>
        rw [hr] at h
        simp only [Option.getD_some] at h
        rw [rdF] at hr
        split at hr
        · rename_i hd
          have hg := rdF_ge _ _ v (by omega) hr
          have h10 : (100 : Int) ≤ 10 ^ (d :: e :: l).length := by
            simp only [List.length_cons]
            have : (1 : Int) ≤ 10 ^ l.length := Int.pow_pos (by decide)
            rw [Int.pow_succ, Int.pow_succ]
            omega
          have h6 : 1 * (10 : Int) ^ (d :: e :: l).length ≤ (10 * 0 + ((c.toNat : Int) - 48)) * 10 ^ (d :: e :: l).length := Int.mul_le_mul_of_nonneg_right (by omega) (by omega)
          omega
        · cases hr
  · omega
theorem dec_rd : ∀ x < 12, rd (Lib.decDigits x) = (x : Nat) := by
  intro x hx
  by_cases h : x < 10
  · rw [dec_of_lt x h]; revert x; decide +kernel
  · rw [dec_of_two x (by omega) (by omega)]; revert x; decide +kernel
theorem dec_atoi : ∀ x < 12, Lib.atoiAll (Lib.decDigits x) = .ok (x : Nat) := by
  intro x hx
  by_cases h : x < 10
  · rw [dec_of_lt x h]; revert x; decide +kernel
  · rw [dec_of_two x (by omega) (by omega)]; revert x; decide +kernel
theorem dec_nocomma : ∀ x < 12, (58 : UInt8) ∉ Lib.decDigits x := by
  intro x hx
  by_cases h : x < 10
  · rw [dec_of_lt x h]; revert x; decide +kernel
  · rw [dec_of_two x (by omega) (by omega)]; revert x; decide +kernel
theorem join_joinB : ∀ l : List (List UInt8), Lib.join l [58] = joinB l
  | [] => rfl
  | x :: l => by rw [Lib.join_cons, joinB, Lib.joinTail, List.flatMap_def]; rfl
/-- Words without colons come back. -/
theorem split_join : ∀ l : List (List UInt8), l ≠ [] → (∀ w ∈ l, (58 : UInt8) ∉ w) → splitB (joinB l) = l
  | [], h, _ => absurd rfl h
  | [w], _, h => by
    have : joinB [w] = w := by simp [joinB]
    rw [this, splitB_one (h w (by simp))]
  | w :: v :: l, _, h => by
    rw [joinB_cons (by simp), splitB_cut (h w (by simp)), split_join (v :: l) (by simp) fun u hu => h u (List.mem_cons_of_mem _ hu)]
end Go.Am

namespace Go.Am
/-- What a plan's text is. -/
def tailT (G : List (List UInt8)) : List UInt8 := G.flatMap fun t => 58 :: t
def shT (c : Nat) (G : List (List UInt8)) : List UInt8 := hg c :: tailT G
theorem tail_snoc (G : List (List UInt8)) (t : List UInt8) : tailT (G ++ [t]) = tailT G ++ (58 :: t) := by simp [tailT]
theorem tail_len {G : List (List UInt8)} {b : Nat} (h : ∀ t ∈ G, t.length ≤ b) : (tailT G).length ≤ G.length * (b + 1) := by
  induction G with
  | nil => simp [tailT]
  | cons a l ih =>
    have h1 := h a (List.mem_cons_self ..)
    have h2 := ih fun t ht => h t (List.mem_cons_of_mem _ ht)
    show (58 :: a ++ tailT l).length ≤ _
    rw [List.length_append, List.length_cons, List.length_cons, Nat.add_mul]
    omega
theorem pln_lens {c : Nat} {G : List (List UInt8)} (h : IsPln c G) : ∀ t ∈ G, t.length ≤ 81 := fun t ht => by
  rw [(h.2.2 t ht).1, Int.toNat_natCast]
  exact pow_le c (by have := h.2.1; omega) _ (by have := h.1; omega)
theorem shT_len {c : Nat} {G : List (List UInt8)} (h : IsPln c G) : (shT c G).length ≤ 113 := by
  have hc := h.2.1
  have h4 := h.1
  have hl : ∀ t ∈ G, t.length ≤ 27 := fun t ht => by
    rw [(h.2.2 t ht).1, Int.toNat_natCast]
    have key : ∀ c < 4, ∀ m < 4, c ^ m ≤ 27 := by decide +kernel
    exact key c (by omega) _ (by omega)
  have := tail_len hl
  have : G.length * 28 ≤ 4 * 28 := Nat.mul_le_mul_right _ h4.2
  show (tailT G).length + 1 ≤ 113
  omega
theorem col_no58 {c : Nat} {t : List UInt8} (hc : c ≤ 3) (h : IsCol c t) : (58 : UInt8) ∉ t := fun hm => by
  have := h 58 hm
  have e : (58 : UInt8).toNat = 58 := rfl
  omega
theorem split_tail : ∀ (w : List UInt8) (G : List (List UInt8)), (58 : UInt8) ∉ w → (∀ t ∈ G, (58 : UInt8) ∉ t) → splitB (w ++ tailT G) = w :: G
  | w, [], h, _ => by
    show splitB (w ++ []) = [w]
    rw [List.append_nil, splitB_one h]
  | w, t :: G, h, hG => by
    show splitB (w ++ (58 :: t ++ tailT G)) = w :: t :: G
    rw [List.cons_append, splitB_cut h, split_tail t G (hG t (List.mem_cons_self ..)) fun u hu => hG u (List.mem_cons_of_mem _ hu)]
theorem hg_no58 : ∀ c < 4, (58 : UInt8) ∉ [hg c] := by decide +kernel
theorem sh_split {c : Nat} {G : List (List UInt8)} (h : IsPln c G) : splitB (shT c G) = [hg c] :: G := by
  have hc := h.2.1
  exact split_tail [hg c] G (hg_no58 c (by omega)) fun t ht => col_no58 (c := c) (by omega) (by have := (h.2.2 t ht).2; rwa [Int.toNat_natCast] at this)

/-- The colours and guesses that a text would tell. -/
def paC (B : List UInt8) : Nat := hv (B.getD 0 0)
def paG (B : List UInt8) : List (List UInt8) := (splitB B).drop 1
def PaOk (B : List UInt8) : Prop := IsPln (paC B) (paG B) ∧ shT (paC B) (paG B) = B
instance (B : List UInt8) : Decidable (PaOk B) := inferInstanceAs (Decidable (_ ∧ _))
theorem pa_of {c : Nat} {G : List (List UInt8)} {B : List UInt8} (h : IsPln c G) (ht : shT c G = B) : PaOk B ∧ paC B = c ∧ paG B = G := by
  have hc := h.2.1
  have e1 : paC B = c := by
    rw [← ht]
    show hv (hg c) = c
    exact hv_hg c (by omega)
  have e2 : paG B = G := by
    unfold paG
    rw [← ht, sh_split h]
    rfl
  exact ⟨⟨by rw [e1, e2]; exact h, by rw [e1, e2]; exact ht⟩, e1, e2⟩
theorem rd_hg : ∀ c < 10, rd [hg c] = (c : Nat) := by decide +kernel
theorem atoi_hg : ∀ c < 10, Lib.atoiAll [hg c] = .ok (c : Nat) := by decide +kernel
/-- The words of a good text. -/
theorem pa_words {B : List UInt8} (h : PaOk B) : splitB B = [hg (paC B)] :: paG B ∧ splitNB 5 B = [hg (paC B)] :: paG B := by
  have e : splitB B = [hg (paC B)] :: paG B := by
    conv => lhs; rw [← h.2]
    exact sh_split h.1
  refine ⟨e, ?_⟩
  rw [← e]
  refine splitNB_all 5 B ?_
  have h1 := splitB_len B
  rw [e, List.length_cons] at h1
  have := h.1.1
  omega
end Go.Am
