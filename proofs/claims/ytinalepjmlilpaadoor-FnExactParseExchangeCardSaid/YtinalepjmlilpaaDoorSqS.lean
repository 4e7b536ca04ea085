/- Contracts: when a text tells an exchange, and how the specification reads one. -/
import Derived.Test.YtinalepjmlilpaaDoorSpCl
import Derived.Test.YtinalepjmlilpaaDoorSqM
import Derived.Test.YtinalepjmlilpaaDoorMaPx
namespace Go.Proofs.YtinalepjmlilpaaDoor
open Go.Am
attribute [local irreducible] AW Outs Weak Lends Lend Sp aops atree aop1 Then Round InBlock Done

theorem strs_at {l : List (List UInt8)} {k : Nat} (h : k < l.length) : ((strs l).drop k)[0]? = some (str (l.getD k [])) := by
  rw [List.getElem?_drop, Nat.add_zero, strs, List.getElem?_map, List.getElem?_eq_getElem h, getD_get h]
  rfl
/-- The numbers that a text's words are read as. -/
def pxL (B : List UInt8) : List Int := (splitB B).map rd
def ParOk (B : List UInt8) : Prop := B.length ≤ 60 ∧ IsEx (pxL B)
instance (B : List UInt8) : Decidable (ParOk B) := inferInstanceAs (Decidable (_ ∧ _))
def parL (B : List UInt8) : List Int := if ParOk B then pxL B else []
def parR (B : List UInt8) : AV := .tup [newInts (parL B), .b (decide (ParOk B))]
theorem pxL_len (B : List UInt8) : (pxL B).length = (splitB B).length := by simp [pxL]
theorem parL_le (B : List UInt8) : (parL B).length ≤ 12 := by
  unfold parL
  split
  · rename_i h; exact h.2.2.1
  · simp
theorem ex_small {L : List Int} (h : IsEx L) : ∀ x ∈ L, 0 ≤ x ∧ x < 12 := fun x hx => by have := h.2.2.1 x hx; have := h.2.1; omega
/-- The words of a good text are the numbers' texts. -/
theorem par_wrds {B : List UInt8} (h : IsEx (pxL B)) : splitB B = wrds (pxL B) := by
  unfold wrds pxL
  rw [List.map_map]
  refine (List.map_id (splitB B)).symm.trans (List.map_congr_left fun w hw => ?_)
  have hx := ex_small h (rd w) (List.mem_map_of_mem hw)
  show w = Lib.decDigits (rd w).toNat
  exact rd_dec (x := (rd w).toNat) (by omega) (by omega)
theorem par_txt {B : List UInt8} (h : IsEx (pxL B)) : txtE (pxL B) = B := by
  unfold txtE
  rw [← par_wrds h, join_joinB]
  exact joinB_split _ B
theorem wrds_ok {L : List Int} (h : IsEx L) : ∀ w ∈ wrds L, ∃ x : Nat, x < 12 ∧ w = Lib.decDigits x := by
  intro w hw
  obtain ⟨x, hx, rfl⟩ := List.mem_map.1 hw
  have := ex_small h x hx
  exact ⟨x.toNat, by omega, rfl⟩
theorem par_back {L : List Int} (h : IsEx L) : splitB (txtE L) = wrds L := by
  unfold txtE
  rw [join_joinB]
  refine split_join _ (fun e => ?_) fun w hw => ?_
  · have e1 : (wrds L).length = L.length := by simp [wrds]
    have h1 := h.1
    rw [e, List.length_nil] at e1
    omega
  · obtain ⟨x, hx, rfl⟩ := wrds_ok h w hw
    exact dec_nocomma x hx
theorem wrds_rd {L : List Int} (h : IsEx L) : (wrds L).map rd = L := by
  unfold wrds
  rw [List.map_map]
  refine (List.map_congr_left fun x hx => ?_).trans (List.map_id L)
  have := ex_small h x hx
  show rd (Lib.decDigits x.toNat) = x
  rw [dec_rd _ (by omega)]
  omega
theorem par_of {B : List UInt8} {L : List Int} (h : IsEx L) (ht : txtE L = B) : ParOk B ∧ pxL B = L := by
  subst ht
  have e : pxL (txtE L) = L := by unfold pxL; rw [par_back h]; exact wrds_rd h
  refine ⟨⟨?_, by rw [e]; exact h⟩, e⟩
  have := txtE_len L (fun x hx => by have := ex_small h x hx; omega) L.length
  rw [List.take_length] at this
  have := h.2.1
  omega
/-- What the library reads a word as. -/
def atN (w : List UInt8) : Int := match Lib.atoiAll w with | .ok v => v | _ => 0
theorem par_at {L : List Int} (h : IsEx L) : (wrds L).map atN = L := by
  unfold wrds
  rw [List.map_map]
  refine (List.map_congr_left fun x hx => ?_).trans (List.map_id L)
  have := ex_small h x hx
  show atN (Lib.decDigits x.toNat) = x
  unfold atN
  rw [dec_atoi _ (by omega)]
  show ((x.toNat : Nat) : Int) = x
  omega
theorem par_split {B : List UInt8} (h : ParOk B) : splitNB 12 B = wrds (pxL B) := by
  rw [← par_wrds h.2]
  refine splitNB_all 12 B ?_
  have := splitB_len B
  have := h.2.2.1
  rw [pxL_len] at this
  omega
/-- A good text, told by what the library reads. -/
theorem par_iff (B : List UInt8) : ParOk B ↔ IsEx ((splitNB 12 B).map atN) ∧ txtE ((splitNB 12 B).map atN) = B := by
  constructor
  · intro h
    rw [par_split h, par_at h.2]
    exact ⟨h.2, par_txt h.2⟩
  · rintro ⟨h1, h2⟩
    exact (par_of h1 h2).1
theorem par_eq {B : List UInt8} (h : ParOk B) : pxL B = (splitNB 12 B).map atN := by rw [par_split h, par_at h.2]
theorem par_word {B : List UInt8} (h : ParOk B) : ∀ w ∈ splitNB 12 B, ∃ v, Lib.atoiAll w = .ok v := by
  intro w hw
  rw [par_split h] at hw
  obtain ⟨x, hx, rfl⟩ := wrds_ok h.2 w hw
  exact ⟨_, dec_atoi x hx⟩

theorem rdF_snoc : ∀ (l : List UInt8) (a : Int) (c : UInt8), rdF a (l ++ [c]) = (rdF a l).bind fun v => if 48 ≤ c.toNat ∧ c.toNat ≤ 57 then some (10 * v + ((c.toNat : Int) - 48)) else none
  | [], a, c => by simp [rdF]
  | d :: l, a, c => by
    rw [List.cons_append, rdF, rdF]
    split
    · exact rdF_snoc l _ c
    · rfl
theorem rdF_none : ∀ (l m : List UInt8) (a : Int), rdF a l = none → rdF a (l ++ m) = none
  | [], m, a, h => by simp [rdF] at h
  | d :: l, m, a, h => by
    rw [List.cons_append]
    rw [rdF] at h ⊢
    split
    · rename_i hc
      rw [if_pos hc] at h
      exact rdF_none l m _ h
    · rfl
theorem rdF_lt : ∀ (l : List UInt8) (a v : Int), 0 ≤ a → rdF a l = some v → 0 ≤ v ∧ v < (a + 1) * 10 ^ l.length
  | [], a, v, ha, h => by simp only [rdF] at h; cases h; simp; omega
  | c :: l, a, v, ha, h => by
    simp only [rdF] at h
    split at h
    · rename_i hc
      obtain ⟨h0, h1⟩ := rdF_lt l _ v (by omega) h
      refine ⟨h0, ?_⟩
      rw [List.length_cons, Int.pow_succ]
      have h2 : (0 : Int) ≤ 10 ^ l.length := Int.le_of_lt (Int.pow_pos (by decide))
      have h3 : 10 * a + ((c.toNat : Int) - 48) + 1 ≤ (a + 1) * 10 := by omega
      have h4 := Int.mul_le_mul_of_nonneg_right h3 h2
      have h5 : (a + 1) * 10 * 10 ^ l.length = (a + 1) * (10 ^ l.length * 10) := by rw [Int.mul_assoc, Int.mul_comm 10]
      omega
    · cases h
theorem rdF_small {l : List UInt8} {v : Int} (h : rdF 0 l = some v) (hl : l.length ≤ 6) : 0 ≤ v ∧ v < 1000000 := by
  obtain ⟨h0, h1⟩ := rdF_lt l 0 v (by omega) h
  refine ⟨h0, ?_⟩
  have h2 : (10 : Int) ^ l.length ≤ 10 ^ 6 := by
    have := Nat.pow_le_pow_right (n := 10) (by decide) hl
    exact_mod_cast this
  have h3 : (10 : Int) ^ 6 = 1000000 := by decide
  omega
theorem wr8 (c : UInt8) (h : 48 ≤ c.toNat) : IntKind.u8.wrap ((c.toNat : Int) - 48) = (c.toNat : Int) - 48 := by
  have := c.toNat_lt
  have e : ∀ n : Int, IntKind.u8.wrap n = n % 256 := fun n => by simp [IntKind.wrap, IntKind.bits, IntKind.signed]
  rw [e]
  omega
theorem wr64 (x : Int) (h0 : 0 ≤ x) (h1 : x < 1000000) : IntKind.i64.wrap x = x := by
  rw [IntKind.wrap_i64]
  omega
end Go.Proofs.YtinalepjmlilpaaDoor
