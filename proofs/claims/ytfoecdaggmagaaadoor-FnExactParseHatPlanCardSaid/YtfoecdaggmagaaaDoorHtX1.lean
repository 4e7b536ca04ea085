/- Contracts: texts of colours, their sums, how many guests and colours there may be. Contracts: the greatest number of right guests at least; what a guest in a row guesses. Contracts: digits, guests in a row, who is right. Contracts: who is right; the functions on rows. -/
import Derived.Test.YtfoecdaggmagaaaDoorSpA
import Derived.Test.YtfoecdaggmagaaaDoorMaHt
import Derived.Test.YtfoecdaggmagaaaDoorAmV
namespace Go.Proofs.YtfoecdaggmagaaaDoor
open Go.Am
section
variable {P : Program} {own : Bool} {s : AS} {K : AS → Prop} {d : Option Nat} {x y : Opd}
/-- A text's letters in turn: where the reading stands. -/
abbrev itS (bs : List UInt8) (p : Nat) : Bool × List AV := (true, [.ob (.stringIter ⟨bs.toArray⟩ p)])
/-- The letter at a place, and its length in bytes. -/
def rn (bs : List UInt8) (p : Nat) : Nat × Nat := Utf8.decode ⟨bs.toArray⟩ p
theorem m_rng {r : Nat} {bs : List UInt8} (hx : s.ev x = str bs) (k : K (((s.kill r).mem r (itS bs 0)).put (some r) (.itr r))) : aop1 P own ⟨some r, .rng x, none⟩ s K := ⟨r, _, rfl, hx, k⟩
theorem m_nxs_end {r p : Nat} {bs : List UInt8} (hx : s.ev x = .itr r) (hr : s.hp r = some (itS bs p)) (h : bs.length ≤ p) (k : K (s.put d (.tup [.b false]))) : aop1 P own ⟨d, .nxs x, none⟩ s K :=
  ⟨r, _, p, hx, hr, fun _ => k, fun e => by
    have e' : p < bs.toArray.size := e
    simp at e'
    omega⟩
theorem m_nxs {r p : Nat} {bs : List UInt8} (hx : s.ev x = .itr r) (hr : s.hp r = some (itS bs p)) (h : p < bs.length) (k : K ((s.mem r (itS bs (p + (rn bs p).2))).put d (.tup [.b true, .i p, .v (.int .i32 ((rn bs p).1 : Nat))]))) : aop1 P own ⟨d, .nxs x, none⟩ s K :=
  ⟨r, _, p, hx, hr, fun e => by
    have e' : bs.toArray.size ≤ p := e
    simp at e'
    omega, fun _ => k⟩
theorem rn_ascii (bs : List UInt8) (p : Nat) (hp : p < bs.length) (h : (bs.getD p 0).toNat < 128) : rn bs p = ((bs.getD p 0).toNat, 1) := by
  have e : ((⟨bs.toArray⟩ : ByteArray).get! (p + 0)) = bs.getD p 0 := by
    show bs.toArray[p + 0]! = _
    simp [hp]
  unfold rn Utf8.decode
  dsimp only
  rw [if_pos (by rw [e]; exact h), e]
theorem rn_high (bs : List UInt8) (p : Nat) (hp : p < bs.length) (h : 128 ≤ (bs.getD p 0).toNat) : 128 ≤ (rn bs p).1 ∧ (rn bs p).1 ≤ 1114111 := by
  have e : ((⟨bs.toArray⟩ : ByteArray).get! (p + 0)) = bs.getD p 0 := by
    show bs.toArray[p + 0]! = _
    simp [hp]
  unfold rn Utf8.decode
  dsimp only
  rw [if_neg (by rw [e]; omega)]
  repeat' split
  all_goals simp only [Utf8.runeError, Utf8.valid, Bool.and_eq_true, Bool.or_eq_true, decide_eq_true_eq, ge_iff_le, beq_iff_eq] at *
  all_goals omega
/-- A letter of one byte. -/
theorem m_nxa {r p : Nat} {bs : List UInt8} (hx : s.ev x = .itr r) (hr : s.hp r = some (itS bs p)) (h : p < bs.length) (ha : (bs.getD p 0).toNat < 128) (k : K ((s.mem r (itS bs (p + 1))).put d (.tup [.b true, .i p, .v (.int .i32 ((bs.getD p 0).toNat : Nat))]))) : aop1 P own ⟨d, .nxs x, none⟩ s K := by
  refine m_nxs hx hr h ?_
  rw [rn_ascii bs p h ha]
  exact k
theorem m_subk {q : IntKind} {a b c : Int} (hx : s.ev x = .v (.int q a)) (hy : s.ev y = .v (.int q b)) (hc : q.wrap (a - b) = c) (k : K (s.put d (.v (.int q c)))) : aop1 P own ⟨d, .bin .sub x y, none⟩ s K := ⟨_, _, .int q c, hx, hy, by simp [pbin, hc], k⟩
theorem m_remt {a b c : Int} (hx : s.ev x = .i a) (hy : s.ev y = .i b) (h1 : 0 < b) (hc : Int.tmod a b = c) (k : K (s.put d (.i c))) : aop1 P own ⟨d, .bin .rem x y, none⟩ s K := by
  have hb : b ≠ 0 := by omega
  refine ⟨_, _, _, hx, hy, by simp only [pbin, if_true, hb, if_false]; rfl, ?_⟩
  rw [hc]
  exact k
end
theorem wr64 (n : Int) (h1 : -9223372036854775808 ≤ n) (h2 : n ≤ 9223372036854775807) : IntKind.i64.wrap n = n := by
  rw [IntKind.wrap_i64]
  omega
theorem wr32 (n : Int) (h1 : -2147483648 ≤ n) (h2 : n ≤ 2147483647) : IntKind.i32.wrap n = n := by
  simp only [IntKind.wrap, IntKind.bits, IntKind.signed]
  simp
  split <;> omega
theorem u8_sub {b : UInt8} (h : 48 ≤ b.toNat) : IntKind.u8.wrap ((b.toNat : Int) - 48) = (hv b : Nat) := by
  have := b.toNat_lt
  unfold hv
  simp [IntKind.wrap, IntKind.bits, IntKind.signed]
  omega
attribute [local irreducible] AW Outs Weak Lends Lend Sp aops atree aop1 Then Round InBlock Done
theorem isColour_spec (a b : Int) : Sp Tryd.prog 67 [.i a, .i b] (.b (decide (0 ≤ a ∧ a < b))) := by
  refine spec_of Tryd.func67 rfl cc67 rfl ?_
  unfold ac67
  by_cases h : 0 ≤ a
  all_goals
    repeat (first | (refine step_ops ?_; (first | ((try (refine g_yes rfl ?_ ?_; (· first | rfl | assumption | (refine decide_eq_true ?_; first | assumption | omega) | (refine nt ?_; first | assumption | omega) | (simp [*]; done) | (refine decide_eq_false ?_; first | assumption | omega) | (refine nf ?_; first | assumption | omega)))); (first | (refine m_mov (by conv => lhs; whnf) ?_) | (refine m_lss rfl rfl ?_) | (refine m_geq rfl rfl ?_) | (refine m_pick_t rfl ?_ (by conv => lhs; whnf) ?_; (· first | rfl | assumption | (refine decide_eq_true ?_; first | assumption | omega) | (refine nt ?_; first | assumption | omega) | (simp [*]; done))) | (refine m_pick_f rfl ?_ (by conv => lhs; whnf) ?_; (· first | rfl | assumption | (refine decide_eq_false ?_; first | assumption | omega) | (refine nf ?_; first | assumption | omega) | (simp [*]; done))))) | (refine g_noT rfl ?_ ?_; (· first | rfl | assumption | (refine decide_eq_false ?_; first | assumption | omega) | (refine nf ?_; first | assumption | omega) | (simp [*]; done))))) | refine end_ops ?_ | refine seq_ops ?_ | refine AW_ret ?_ | refine ret_done ?_)
    refine outs_b ?_
    simp [*]

theorem isColourCount_spec (a : Int) : Sp Tryd.prog 66 [.i a] (.b (decide (2 ≤ a ∧ a ≤ 3))) := by
  refine spec_of Tryd.func66 rfl cc66 rfl ?_
  unfold ac66
  by_cases h : 2 ≤ a
  all_goals
    repeat (first | (refine step_ops ?_; (first | ((try (refine g_yes rfl ?_ ?_; (· first | rfl | assumption | (refine decide_eq_true ?_; first | assumption | omega) | (refine nt ?_; first | assumption | omega) | (simp [*]; done) | (refine decide_eq_false ?_; first | assumption | omega) | (refine nf ?_; first | assumption | omega)))); (first | (refine m_mov (by conv => lhs; whnf) ?_) | (refine m_leq rfl rfl ?_) | (refine m_geq rfl rfl ?_) | (refine m_pick_t rfl ?_ (by conv => lhs; whnf) ?_; (· first | rfl | assumption | (refine decide_eq_true ?_; first | assumption | omega) | (refine nt ?_; first | assumption | omega) | (simp [*]; done))) | (refine m_pick_f rfl ?_ (by conv => lhs; whnf) ?_; (· first | rfl | assumption | (refine decide_eq_false ?_; first | assumption | omega) | (refine nf ?_; first | assumption | omega) | (simp [*]; done))))) | (refine g_noT rfl ?_ ?_; (· first | rfl | assumption | (refine decide_eq_false ?_; first | assumption | omega) | (refine nf ?_; first | assumption | omega) | (simp [*]; done))))) | refine end_ops ?_ | refine seq_ops ?_ | refine AW_ret ?_ | refine ret_done ?_)
    refine outs_b ?_
    simp [*]

theorem haSize_spec (g c : Int) : Sp Tryd.prog 28 [.i g, .i c] (.b (decide ((2 ≤ g ∧ g ≤ 4) ∧ 2 ≤ c ∧ c ≤ 3))) := by
  refine spec_of Tryd.func28 rfl cc28 rfl ?_
  unfold ac28
  by_cases h : 2 ≤ g ∧ g ≤ 4
  · repeat (first | (refine step_ops ?_; (refine m_mov (by conv => lhs; whnf) ?_)) | refine end_ops ?_ | refine seq_ops ?_)
    (refine step_ops ?_); (apply m_call (l1In_spec _ _ _)); (· repeat (first | exact lends_nil | (refine lends_cons ?_ ?_; (· exact lend_v))))
    repeat (refine step_ops ?_; ((try (refine g_yes rfl ?_ ?_; (· first | rfl | assumption | (refine decide_eq_true ?_; first | assumption | omega) | (refine nt ?_; first | assumption | omega) | (simp [*]; done) | (refine decide_eq_false ?_; first | assumption | omega) | (refine nf ?_; first | assumption | omega)))); (refine m_mov (by conv => lhs; whnf) ?_)))
    (refine step_ops ?_); (refine g_yes rfl ?_ ?_; (· first | (first | rfl | assumption | (refine decide_eq_true ?_; first | assumption | omega) | (refine nt ?_; first | assumption | omega) | (simp [*]; done)) | (first | rfl | assumption | (refine decide_eq_false ?_; first | assumption | omega) | (refine nf ?_; first | assumption | omega) | (simp [*]; done))); (apply m_call (l1In_spec _ _ _))); (· repeat (first | exact lends_nil | (refine lends_cons ?_ ?_; (· exact lend_v))))
    repeat (first | (refine step_ops ?_; (first | (refine m_mov (by conv => lhs; whnf) ?_) | (refine m_pick_t rfl ?_ (by conv => lhs; whnf) ?_; (· first | rfl | assumption | (refine decide_eq_true ?_; first | assumption | omega) | (refine nt ?_; first | assumption | omega) | (simp [*]; done))))) | refine end_ops ?_ | refine AW_ret ?_ | refine ret_done ?_)
    exact outs_b (by simp [h])
  · repeat (first | (refine step_ops ?_; (refine m_mov (by conv => lhs; whnf) ?_)) | refine end_ops ?_ | refine seq_ops ?_)
    (refine step_ops ?_); (apply m_call (l1In_spec _ _ _)); (· repeat (first | exact lends_nil | (refine lends_cons ?_ ?_; (· exact lend_v))))
    repeat (first | (refine step_ops ?_; (first | (first | (refine m_mov (by conv => lhs; whnf) ?_) | (refine m_pick_f rfl ?_ (by conv => lhs; whnf) ?_; (· first | rfl | assumption | (refine decide_eq_false ?_; first | assumption | omega) | (refine nf ?_; first | assumption | omega) | (simp [*]; done)))) | (refine g_noT rfl ?_ ?_; (· first | rfl | assumption | (refine decide_eq_false ?_; first | assumption | omega) | (refine nf ?_; first | assumption | omega) | (simp [*]; done))))) | refine end_ops ?_ | refine AW_ret ?_ | refine ret_done ?_)
    exact outs_b (by simp [h])

theorem canPlay_spec (g c : Int) : Sp Tryd.prog 52 [.i g, .i c] (.b (decide ((2 ≤ g ∧ g ≤ 4) ∧ 2 ≤ c ∧ c ≤ 3))) := by
  refine spec_of Tryd.func52 rfl cc52 rfl ?_
  unfold ac52
  by_cases h : 2 ≤ g
  · by_cases h4 : g ≤ 4
    · repeat (first | (refine step_ops ?_; ((try (refine g_yes rfl ?_ ?_; (· first | rfl | assumption | (refine decide_eq_true ?_; first | assumption | omega) | (refine nt ?_; first | assumption | omega) | (simp [*]; done) | (refine decide_eq_false ?_; first | assumption | omega) | (refine nf ?_; first | assumption | omega)))); (first | (refine m_mov (by conv => lhs; whnf) ?_) | (refine m_leq rfl rfl ?_) | (refine m_geq rfl rfl ?_) | (refine m_pick_t rfl ?_ (by conv => lhs; whnf) ?_; (· first | rfl | assumption | (refine decide_eq_true ?_; first | assumption | omega) | (refine nt ?_; first | assumption | omega) | (simp [*]; done)))))) | refine end_ops ?_ | refine seq_ops ?_)
      (refine step_ops ?_); (refine g_yes rfl ?_ ?_; (· first | (first | rfl | assumption | (refine decide_eq_true ?_; first | assumption | omega) | (refine nt ?_; first | assumption | omega) | (simp [*]; done)) | (first | rfl | assumption | (refine decide_eq_false ?_; first | assumption | omega) | (refine nf ?_; first | assumption | omega) | (simp [*]; done))); (apply m_call (isColourCount_spec _))); (· repeat (first | exact lends_nil | (refine lends_cons ?_ ?_; (· exact lend_v))))
      repeat (first | (refine step_ops ?_; (first | (refine m_mov (by conv => lhs; whnf) ?_) | (refine m_pick_t rfl ?_ (by conv => lhs; whnf) ?_; (· first | rfl | assumption | (refine decide_eq_true ?_; first | assumption | omega) | (refine nt ?_; first | assumption | omega) | (simp [*]; done))))) | refine end_ops ?_ | refine AW_ret ?_ | refine ret_done ?_)
      exact outs_b (by simp [h, h4])
    · repeat (first | (refine step_ops ?_; (first | ((try (refine g_yes rfl ?_ ?_; (· first | rfl | assumption | (refine decide_eq_true ?_; first | assumption | omega) | (refine nt ?_; first | assumption | omega) | (simp [*]; done) | (refine decide_eq_false ?_; first | assumption | omega) | (refine nf ?_; first | assumption | omega)))); (first | (refine m_mov (by conv => lhs; whnf) ?_) | (refine m_leq rfl rfl ?_) | (refine m_geq rfl rfl ?_) | (refine m_pick_t rfl ?_ (by conv => lhs; whnf) ?_; (· first | rfl | assumption | (refine decide_eq_true ?_; first | assumption | omega) | (refine nt ?_; first | assumption | omega) | (simp [*]; done))) | (refine m_pick_f rfl ?_ (by conv => lhs; whnf) ?_; (· first | rfl | assumption | (refine decide_eq_false ?_; first | assumption | omega) | (refine nf ?_; first | assumption | omega) | (simp [*]; done))))) | (refine g_noT rfl ?_ ?_; (· first | rfl | assumption | (refine decide_eq_false ?_; first | assumption | omega) | (refine nf ?_; first | assumption | omega) | (simp [*]; done))))) | refine end_ops ?_ | refine seq_ops ?_ | refine AW_ret ?_ | refine ret_done ?_)
      exact outs_b (by simp [h4])
  · repeat (first | (refine step_ops ?_; (first | (first | (refine m_mov (by conv => lhs; whnf) ?_) | (refine m_geq rfl rfl ?_) | (refine m_pick_f rfl ?_ (by conv => lhs; whnf) ?_; (· first | rfl | assumption | (refine decide_eq_false ?_; first | assumption | omega) | (refine nf ?_; first | assumption | omega) | (simp [*]; done)))) | (refine g_noT rfl ?_ ?_; (· first | rfl | assumption | (refine decide_eq_false ?_; first | assumption | omega) | (refine nf ?_; first | assumption | omega) | (simp [*]; done))))) | refine end_ops ?_ | refine seq_ops ?_ | refine AW_ret ?_ | refine ret_done ?_)
    exact outs_b (by simp [h])

theorem colourOf_byte (b : UInt8) (h : 48 ≤ b.toNat) : Sp Tryd.prog 55 [.v (.int .i32 (b.toNat : Nat))] (.i (hv b : Nat)) := by
  have hb := b.toNat_lt
  refine spec_of Tryd.func55 rfl cc55 rfl ?_
  unfold ac55
  repeat (first | (refine step_ops ?_; (refine m_mov (by conv => lhs; whnf) ?_)) | refine end_ops ?_ | refine seq_ops ?_)
  refine step_ops ?_
  refine m_subk (c := ((hv b : Nat) : Int)) rfl rfl ?_ ?_
  · rw [wr32 _ (by omega) (by omega)]
    unfold hv
    omega
  repeat (first | (refine step_ops ?_; (first | (refine m_mov (by conv => lhs; whnf) ?_) | (refine m_cvt rfl ?_))) | refine end_ops ?_ | refine AW_ret ?_ | refine ret_done ?_)
  rw [wr64 _ (by unfold hv; omega) (by unfold hv; omega)]
  skip
  exact outs_i rfl
theorem colourOf_rune (n : Nat) (h : n ≤ 1114111) : Sp Tryd.prog 55 [.v (.int .i32 (n : Nat))] (.i ((n : Int) - 48)) := by
  refine spec_of Tryd.func55 rfl cc55 rfl ?_
  unfold ac55
  repeat (first | (refine step_ops ?_; (refine m_mov (by conv => lhs; whnf) ?_)) | refine end_ops ?_ | refine seq_ops ?_)
  refine step_ops ?_
  refine m_subk (c := (n : Int) - 48) rfl rfl (wr32 _ (by omega) (by omega)) ?_
  repeat (first | (refine step_ops ?_; (first | (refine m_mov (by conv => lhs; whnf) ?_) | (refine m_cvt rfl ?_))) | refine end_ops ?_ | refine AW_ret ?_ | refine ret_done ?_)
  rw [wr64 _ (by omega) (by omega)]
  skip
  exact outs_i rfl

theorem col_snoc {c : Nat} {t : List UInt8} {p : Nat} (hp : p < t.length) (h : IsCol c (t.take p)) (hb : 48 ≤ (t.getD p 0).toNat ∧ (t.getD p 0).toNat < 48 + c) : IsCol c (t.take (p + 1)) := by
  rw [take_snoc t p 0 hp]
  intro b hm
  rcases List.mem_append.1 hm with hm | hm
  · exact h b hm
  · rw [List.mem_singleton.1 hm]; exact hb

theorem haText_spec (t : List UInt8) (c : Nat) (hc : c ≤ 3) : Sp Tryd.prog 30 [str t, .i c] (.b (decide (IsCol c t))) := by
  refine spec_of Tryd.func30 rfl cc30 rfl ?_
  unfold ac30
  repeat (first | (refine step_ops ?_; (refine m_mov (by conv => lhs; whnf) ?_)) | refine end_ops ?_ | refine seq_ops ?_ | refine AW_seq ?_)
  refine step_ops ?_
  refine m_rng rfl ?_
  repeat (first | refine end_ops ?_ | refine AW_block ?_)
  refine AW_loop (α := Nat) (fun p => p ≤ t.length ∧ IsCol c (t.take p)) (fun p => st [(0, str t), (1, .i c), (7, .itr 7)] [(7, itS t p)]) (fun p => t.length - p) 0 ⟨Nat.zero_le _, fun b hb => by simp at hb⟩ (weak_st ?_ ?_ rfl rfl) ?_
  · (repeat' (first | exact trivial | refine And.intro ?_ ?_)) <;> (first | rfl | skip)
  · (repeat' (first | exact trivial | refine And.intro ?_ ?_)) <;> (first | rfl | skip)
  rintro p ⟨hp, hI⟩
  by_cases hlt : p < t.length
  · have hb := (t.getD p 0).toNat_lt
    by_cases hok : 48 ≤ (t.getD p 0).toNat ∧ (t.getD p 0).toNat < 48 + c
    · have hd : decide ((0 : Int) ≤ ((t.getD p 0).toNat : Int) - 48 ∧ ((t.getD p 0).toNat : Int) - 48 ≤ (c : Int) - 1) = true := decide_eq_true (by omega)
      repeat refine seq_ops ?_
      refine step_ops ?_
      refine m_nxa rfl rfl hlt (by omega) ?_
      repeat (first | (refine step_ops ?_; (first | (refine m_mov (by conv => lhs; whnf) ?_) | (refine m_six' rfl rfl ?_ ?_; (· first | omega | (simp; omega))) | (refine m_ext rfl rfl ?_) | (refine m_cvt rfl ?_))) | refine end_ops ?_ | refine seq_ops ?_ | (refine cond_t rfl ?_ ?_; (· first | rfl | assumption | (refine decide_eq_true ?_; first | assumption | omega) | (refine nt ?_; first | assumption | omega) | (simp [*]; done))) | refine skip_then ?_ | refine AW_seq ?_ | refine AW_block ?_)
      rw [wr64 _ (by omega) (by omega)]
      repeat (refine step_ops ?_; (first | (refine m_mov (by conv => lhs; whnf) ?_) | (refine m_sub rfl rfl ?_ ?_ ?_; (· omega); (· omega))))
      (refine step_ops ?_); (apply m_call (l1In_spec _ _ _)); (· repeat (first | exact lends_nil | (refine lends_cons ?_ ?_; (· exact lend_v))))
      repeat (first | (refine step_ops ?_; (refine m_not rfl ?_)) | refine end_ops ?_ | (refine cond_f rfl ?_ ?_; (· first | rfl | assumption | (refine decide_eq_false ?_; first | assumption | omega) | (refine nf ?_; first | assumption | omega) | (simp [*]; done))) | refine norm_block ?_ | refine AW_skip ?_)
      refine next_round (p + 1) ⟨hlt, col_snoc hlt hI hok⟩ (weak_st ?_ ?_ rfl rfl) ?_
      · (repeat' (first | exact trivial | refine And.intro ?_ ?_)) <;> (first | rfl | skip)
      · (repeat' (first | exact trivial | refine And.intro ?_ ?_)) <;> (first | rfl | skip)
      · show t.length - (p + 1) < t.length - p
        omega
    · have hd : decide ((0 : Int) ≤ ((t.getD p 0).toNat : Int) - 48 ∧ ((t.getD p 0).toNat : Int) - 48 ≤ (c : Int) - 1) = false := decide_eq_false (by omega)
      have hno : ¬ IsCol c t := fun h => hok (col_at h hlt)
      repeat refine seq_ops ?_
      refine step_ops ?_
      refine m_nxs rfl rfl hlt ?_
      repeat (first | (refine step_ops ?_; (first | (refine m_mov (by conv => lhs; whnf) ?_) | (refine m_six' rfl rfl ?_ ?_; (· first | omega | (simp; omega))) | (refine m_ext rfl rfl ?_) | (refine m_cvt rfl ?_))) | refine end_ops ?_ | refine seq_ops ?_ | (refine cond_t rfl ?_ ?_; (· first | rfl | assumption | (refine decide_eq_true ?_; first | assumption | omega) | (refine nt ?_; first | assumption | omega) | (simp [*]; done))) | refine skip_then ?_ | refine AW_seq ?_ | refine AW_block ?_)
      rw [wr64 _ (by omega) (by omega)]
      repeat (refine step_ops ?_; (first | (refine m_mov (by conv => lhs; whnf) ?_) | (refine m_sub rfl rfl ?_ ?_ ?_; (· omega); (· omega))))
      (refine step_ops ?_); (apply m_call (l1In_spec _ _ _)); (· repeat (first | exact lends_nil | (refine lends_cons ?_ ?_; (· exact lend_v))))
      repeat (first | (refine step_ops ?_; (first | (refine m_mov (by conv => lhs; whnf) ?_) | (refine m_not rfl ?_))) | refine end_ops ?_ | refine seq_ops ?_ | (refine cond_t rfl ?_ ?_; (· first | rfl | assumption | (refine decide_eq_true ?_; first | assumption | omega) | (refine nt ?_; first | assumption | omega) | (simp [*]; done))) | refine AW_ret ?_ | refine ret_done ?_ | refine ret_then ?_ | refine ret_block ?_ | refine ret_round ?_)
      exact outs_b (decide_eq_false hno).symm
  · rw [List.take_of_length_le (by omega)] at hI
    repeat refine seq_ops ?_
    refine step_ops ?_
    refine m_nxs_end rfl rfl (by omega) ?_
    repeat (first | (refine step_ops ?_; (first | (refine m_mov (by conv => lhs; whnf) ?_) | (refine m_ext rfl rfl ?_))) | refine end_ops ?_ | refine seq_ops ?_ | (refine cond_f rfl ?_ ?_; (· first | rfl | assumption | (refine decide_eq_false ?_; first | assumption | omega) | (refine nf ?_; first | assumption | omega) | (simp [*]; done))) | refine AW_seq ?_ | refine AW_ret ?_ | refine ret_done ?_ | refine norm_then ?_ | refine exit_then ?_ | refine exit_round ?_ | refine AW_exit ?_ | refine exit_block ?_)
    exact outs_b (decide_eq_true hI).symm

theorem areColours_spec (t : List UInt8) (l m : Nat) (c : Nat) (hc : c ≤ 3) (hm : m ≤ 100) (hl : l ≤ 100) : Sp Tryd.prog 54 [str t, .i l, .i m, .i c] (.b (decide ((l ≤ t.length ∧ t.length ≤ m) ∧ IsCol c t))) := by
  refine spec_of Tryd.func54 rfl cc54 rfl ?_
  unfold ac54
  by_cases h1 : l ≤ t.length
  · by_cases h2 : t.length ≤ m
    · repeat (first | (refine step_ops ?_; ((try (refine g_yes rfl ?_ ?_; (· first | rfl | assumption | (refine decide_eq_true ?_; first | assumption | omega) | (refine nt ?_; first | assumption | omega) | (simp [*]; done) | (refine decide_eq_false ?_; first | assumption | omega) | (refine nf ?_; first | assumption | omega)))); (first | (refine m_mov (by conv => lhs; whnf) ?_) | (refine m_lss rfl rfl ?_) | (refine m_gtr rfl rfl ?_) | (refine m_slen rfl ?_) | (refine m_pick_f rfl ?_ (by conv => lhs; whnf) ?_; (· first | rfl | assumption | (refine decide_eq_false ?_; first | assumption | omega) | (refine nf ?_; first | assumption | omega) | (simp [*]; done)))))) | refine end_ops ?_ | refine seq_ops ?_ | (refine cond_f rfl ?_ ?_; (· first | rfl | assumption | (refine decide_eq_false ?_; first | assumption | omega) | (refine nf ?_; first | assumption | omega) | (simp [*]; done))) | refine skip_then ?_ | refine AW_seq ?_)
      refine step_ops ?_
      refine m_rng rfl ?_
      repeat (first | refine end_ops ?_ | refine AW_block ?_)
      refine AW_loop (α := Nat) (fun p => p ≤ t.length ∧ IsCol c (t.take p)) (fun p => st [(0, str t), (3, .i c), (22, .itr 22)] [(22, itS t p)]) (fun p => t.length - p) 0 ⟨Nat.zero_le _, fun b hb => by simp at hb⟩ (weak_st ?_ ?_ rfl rfl) ?_
      · (repeat' (first | exact trivial | refine And.intro ?_ ?_)) <;> (first | rfl | skip)
      · (repeat' (first | exact trivial | refine And.intro ?_ ?_)) <;> (first | rfl | skip)
      rintro p ⟨hp, hI⟩
      by_cases hlt : p < t.length
      · have hb := (t.getD p 0).toNat_lt
        by_cases hok : 48 ≤ (t.getD p 0).toNat ∧ (t.getD p 0).toNat < 48 + c
        · have hd : decide ((0 : Int) ≤ (hv (t.getD p 0) : Nat) ∧ ((hv (t.getD p 0) : Nat) : Int) < (c : Int)) = true := decide_eq_true (by unfold hv; omega)
          have hd' : (!decide ((0 : Int) ≤ (hv (t.getD p 0) : Nat) ∧ ((hv (t.getD p 0) : Nat) : Int) < (c : Int))) = false := by rw [hd]; rfl
          repeat refine seq_ops ?_
          refine step_ops ?_
          refine m_nxa rfl rfl hlt (by omega) ?_
          repeat (first | (refine step_ops ?_; (first | (refine m_mov (by conv => lhs; whnf) ?_) | (refine m_ext rfl rfl ?_))) | refine end_ops ?_ | refine seq_ops ?_ | (refine cond_t rfl ?_ ?_; (· first | rfl | assumption | (refine decide_eq_true ?_; first | assumption | omega) | (refine nt ?_; first | assumption | omega) | (simp [*]; done))) | refine skip_then ?_ | refine AW_seq ?_ | refine AW_block ?_)
          (refine step_ops ?_); (apply m_call (colourOf_byte _ hok.1)); (· repeat (first | exact lends_nil | (refine lends_cons ?_ ?_; (· exact lend_v))))
          repeat (refine step_ops ?_; (refine m_mov (by conv => lhs; whnf) ?_))
          (refine step_ops ?_); (apply m_call (isColour_spec _ _)); (· repeat (first | exact lends_nil | (refine lends_cons ?_ ?_; (· exact lend_v))))
          repeat (first | (refine step_ops ?_; (refine m_not rfl ?_)) | refine end_ops ?_ | (refine cond_f rfl ?_ ?_; (· first | rfl | assumption | (refine decide_eq_false ?_; first | assumption | omega) | (refine nf ?_; first | assumption | omega) | (simp [*]; done))) | refine norm_block ?_ | refine AW_skip ?_)
          refine next_round (p + 1) ⟨hlt, col_snoc hlt hI hok⟩ (weak_st ?_ ?_ rfl rfl) ?_
          · (repeat' (first | exact trivial | refine And.intro ?_ ?_)) <;> (first | rfl | skip)
          · (repeat' (first | exact trivial | refine And.intro ?_ ?_)) <;> (first | rfl | skip)
          · show t.length - (p + 1) < t.length - p
            omega
        · have hno : ¬ IsCol c t := fun h => hok (col_at h hlt)
          obtain ⟨n, hn, hn1, hn2⟩ : ∃ n, n = (rn t p).1 ∧ n ≤ 1114111 ∧ ¬ (48 ≤ n ∧ n < 48 + c) := by
            refine ⟨_, rfl, ?_⟩
            by_cases ha : (t.getD p 0).toNat < 128
            · rw [rn_ascii t p hlt ha]; exact ⟨by omega, hok⟩
            · have := rn_high t p hlt (by omega); exact ⟨this.2, by omega⟩
          have hd : decide ((0 : Int) ≤ (n : Int) - 48 ∧ (n : Int) - 48 < (c : Int)) = false := decide_eq_false (by omega)
          repeat refine seq_ops ?_
          refine step_ops ?_
          refine m_nxs rfl rfl hlt ?_
          rw [← hn]
          repeat (first | (refine step_ops ?_; (first | (refine m_mov (by conv => lhs; whnf) ?_) | (refine m_ext rfl rfl ?_))) | refine end_ops ?_ | refine seq_ops ?_ | (refine cond_t rfl ?_ ?_; (· first | rfl | assumption | (refine decide_eq_true ?_; first | assumption | omega) | (refine nt ?_; first | assumption | omega) | (simp [*]; done))) | refine skip_then ?_ | refine AW_seq ?_ | refine AW_block ?_)
          (refine step_ops ?_); (apply m_call (colourOf_rune n hn1)); (· repeat (first | exact lends_nil | (refine lends_cons ?_ ?_; (· exact lend_v))))
          repeat (refine step_ops ?_; (refine m_mov (by conv => lhs; whnf) ?_))
          (refine step_ops ?_); (apply m_call (isColour_spec _ _)); (· repeat (first | exact lends_nil | (refine lends_cons ?_ ?_; (· exact lend_v))))
          repeat (first | (refine step_ops ?_; (first | (refine m_mov (by conv => lhs; whnf) ?_) | (refine m_not rfl ?_))) | refine end_ops ?_ | refine seq_ops ?_ | (refine cond_t rfl ?_ ?_; (· first | rfl | assumption | (refine decide_eq_true ?_; first | assumption | omega) | (refine nt ?_; first | assumption | omega) | (simp [*]; done))) | refine AW_ret ?_ | refine ret_done ?_ | refine ret_then ?_ | refine ret_block ?_ | refine ret_round ?_)
          exact outs_b (decide_eq_false fun h => hno h.2).symm
      · rw [List.take_of_length_le (by omega)] at hI
        repeat refine seq_ops ?_
        refine step_ops ?_
        refine m_nxs_end rfl rfl (by omega) ?_
        repeat (first | (refine step_ops ?_; (first | (refine m_mov (by conv => lhs; whnf) ?_) | (refine m_ext rfl rfl ?_))) | refine end_ops ?_ | refine seq_ops ?_ | (refine cond_f rfl ?_ ?_; (· first | rfl | assumption | (refine decide_eq_false ?_; first | assumption | omega) | (refine nf ?_; first | assumption | omega) | (simp [*]; done))) | refine AW_seq ?_ | refine AW_ret ?_ | refine ret_done ?_ | refine norm_then ?_ | refine exit_then ?_ | refine exit_round ?_ | refine AW_exit ?_ | refine exit_block ?_)
        exact outs_b (decide_eq_true (And.intro (And.intro h1 h2) hI)).symm
    · repeat (first | (refine step_ops ?_; ((try (refine g_yes rfl ?_ ?_; (· first | rfl | assumption | (refine decide_eq_true ?_; first | assumption | omega) | (refine nt ?_; first | assumption | omega) | (simp [*]; done) | (refine decide_eq_false ?_; first | assumption | omega) | (refine nf ?_; first | assumption | omega)))); (first | (refine m_mov (by conv => lhs; whnf) ?_) | (refine m_lss rfl rfl ?_) | (refine m_gtr rfl rfl ?_) | (refine m_slen rfl ?_) | (refine m_pick_f rfl ?_ (by conv => lhs; whnf) ?_; (· first | rfl | assumption | (refine decide_eq_false ?_; first | assumption | omega) | (refine nf ?_; first | assumption | omega) | (simp [*]; done)))))) | refine end_ops ?_ | refine seq_ops ?_ | (refine cond_t rfl ?_ ?_; (· first | rfl | assumption | (refine decide_eq_true ?_; first | assumption | omega) | (refine nt ?_; first | assumption | omega) | (simp [*]; done))) | refine AW_seq ?_ | refine AW_ret ?_ | refine ret_done ?_ | refine ret_then ?_)
      exact outs_b (decide_eq_false fun h => h2 h.1.2).symm
  · repeat (first | (refine step_ops ?_; (first | (first | (refine m_mov (by conv => lhs; whnf) ?_) | (refine m_lss rfl rfl ?_) | (refine m_slen rfl ?_) | (refine m_pick_t rfl ?_ (by conv => lhs; whnf) ?_; (· first | rfl | assumption | (refine decide_eq_true ?_; first | assumption | omega) | (refine nt ?_; first | assumption | omega) | (simp [*]; done)))) | (refine g_noF rfl ?_ ?_; (· first | rfl | assumption | (refine decide_eq_true ?_; first | assumption | omega) | (refine nt ?_; first | assumption | omega) | (simp [*]; done))))) | refine end_ops ?_ | refine seq_ops ?_ | (refine cond_t rfl ?_ ?_; (· first | rfl | assumption | (refine decide_eq_true ?_; first | assumption | omega) | (refine nt ?_; first | assumption | omega) | (simp [*]; done))) | refine AW_seq ?_ | refine AW_ret ?_ | refine ret_done ?_ | refine ret_then ?_)
    exact outs_b (decide_eq_false fun h => h1 h.1.1).symm

end Go.Proofs.YtfoecdaggmagaaaDoor

namespace Go.Proofs.YtfoecdaggmagaaaDoor
open Go.Am
attribute [local irreducible] AW Outs Weak Lends Lend Sp aops atree aop1 Then Round InBlock Done

/-- What HeardInRow asks for, and what it tells. -/
def HdOk (c s : Int) (A B : List UInt8) : Prop := (2 ≤ c ∧ c ≤ 3) ∧ (0 ≤ s ∧ s < c) ∧ (A.length ≤ 30 ∧ IsCol c.toNat A) ∧ B.length ≤ 30 ∧ IsCol c.toNat B
instance (c s : Int) (A B : List UInt8) : Decidable (HdOk c s A B) := inferInstanceAs (Decidable (_ ∧ _ ∧ _ ∧ _ ∧ _))
def hdN (c s : Int) (A B : List UInt8) : Int := if HdOk c s A B then (s - hsum A - hsum B) % c else 0
def hdR (c s : Int) (A B : List UInt8) : AV := .tup [.i (hdN c s A B), .b (decide (HdOk c s A B))]
theorem outs_hdno {s' : AS} {c s : Int} {A B : List UInt8} (h : ¬ HdOk c s A B) : Outs s' (.tup [.i 0, .b false]) (hdR c s A B) := by
  unfold hdR hdN
  rw [if_neg h, decide_eq_false h]
  exact outs_tup2 (outs_i rfl) (outs_b rfl)

end Go.Proofs.YtfoecdaggmagaaaDoor

namespace Go.Proofs.YtfoecdaggmagaaaDoor
open Go.Am
attribute [local irreducible] AW Outs Weak Lends Lend Sp aops atree aop1 Then Round InBlock Done

theorem l1Num_hg (n : Nat) (h : n < 10) : Sp Tryd.prog 31 [.i n] (str [hg n]) := by
  have hw := hg_wrap n h
  refine spec_of Tryd.func31 rfl cc31 rfl ?_
  unfold ac31
  repeat (first | (refine step_ops ?_; (first | (refine m_mov (by conv => lhs; whnf) ?_) | (refine m_lss rfl rfl ?_) | (refine m_add rfl rfl ?_ ?_ ?_; (· omega); (· omega)) | (refine m_bsl1 rfl rfl ?_) | (refine m_cvt rfl ?_))) | refine end_ops ?_ | refine seq_ops ?_ | (refine cond_t rfl ?_ ?_; (· first | rfl | assumption | (refine decide_eq_true ?_; first | assumption | omega) | (refine nt ?_; first | assumption | omega) | (simp [*]; done))) | refine AW_seq ?_)
  rw [hw]
  skip
  refine step_ops ?_
  refine m_bts_sl (bs := [hg n]) rfl rfl rfl ?_
  repeat (first | (refine step_ops ?_; (refine m_mov (by conv => lhs; whnf) ?_)) | refine end_ops ?_ | refine AW_ret ?_ | refine ret_done ?_ | refine ret_then ?_)
  exact outs_v

def digs36 : List UInt8 := [48, 49, 50, 51, 52, 53, 54, 55, 56, 57, 97, 98, 99, 100, 101, 102, 103, 104, 105, 106, 107, 108, 109, 110, 111, 112, 113, 114, 115, 116, 117, 118, 119, 120, 121, 122]
theorem digs_at : ∀ n < 10, (digs36.drop n).take (n + 1 - n) = [hg n] := by decide +kernel
theorem small_hg (n : Nat) (h : n < 10) : Sp Tryd.prog 68 [.i n] (str [hg n]) := by
  have e := digs_at n h
  refine spec_of Tryd.func68 rfl cc68 rfl ?_
  unfold ac68
  repeat (first | (refine step_ops ?_; (first | (refine m_mov (by conv => lhs; whnf) ?_) | (refine m_lss rfl rfl ?_) | (refine m_add rfl rfl ?_ ?_ ?_; (· omega); (· omega)) | (refine m_scutb rfl rfl rfl ?_ ?_ ?_; (· omega); (· first | omega | (simp; omega))))) | refine end_ops ?_ | refine seq_ops ?_ | (refine cond_t rfl ?_ ?_; (· first | rfl | assumption | (refine decide_eq_true ?_; first | assumption | omega) | (refine nt ?_; first | assumption | omega) | (simp [*]; done))) | refine AW_seq ?_ | refine AW_ret ?_ | refine ret_done ?_ | refine ret_then ?_)
  show Outs _ (str ((digs36.drop n).take (n + 1 - n))) _
  rw [e]
  exact outs_v
theorem format_hg (n : Nat) (h : n < 10) : Sp Tryd.prog 56 [.i n, .i 10] (str [hg n]) := by
  refine spec_of Tryd.func56 rfl cc56 rfl ?_
  unfold ac56
  repeat (first | (refine step_ops ?_; ((try (refine g_yes rfl ?_ ?_; (· first | rfl | assumption | (refine decide_eq_true ?_; first | assumption | omega) | (refine nt ?_; first | assumption | omega) | (simp [*]; done) | (refine decide_eq_false ?_; first | assumption | omega) | (refine nf ?_; first | assumption | omega)))); (first | (refine m_mov (by conv => lhs; whnf) ?_) | (refine m_lss rfl rfl ?_) | (refine m_leq rfl rfl ?_) | (refine m_eql rfl rfl ?_) | (refine m_pick_t rfl ?_ (by conv => lhs; whnf) ?_; (· first | rfl | assumption | (refine decide_eq_true ?_; first | assumption | omega) | (refine nt ?_; first | assumption | omega) | (simp [*]; done)))))) | refine end_ops ?_ | refine seq_ops ?_ | (refine cond_t rfl ?_ ?_; (· first | rfl | assumption | (refine decide_eq_true ?_; first | assumption | omega) | (refine nt ?_; first | assumption | omega) | (simp [*]; done))) | refine AW_seq ?_)
  (refine step_ops ?_); (apply m_call (small_hg n h)); (· repeat (first | exact lends_nil | (refine lends_cons ?_ ?_; (· exact lend_v))))
  repeat (first | (refine step_ops ?_; (refine m_mov (by conv => lhs; whnf) ?_)) | refine end_ops ?_ | refine AW_ret ?_ | refine ret_done ?_ | refine ret_then ?_)
  exact outs_v
theorem itoa2_hg (n : Nat) (h : n < 10) : Sp Tryd.prog 41 [.i n] (str [hg n]) := by
  refine spec_of Tryd.func41 rfl cc41 rfl ?_
  unfold ac41
  repeat (first | (refine step_ops ?_; (refine m_mov (by conv => lhs; whnf) ?_)) | refine end_ops ?_ | refine seq_ops ?_)
  (refine step_ops ?_); (apply m_call (format_hg n h)); (· repeat (first | exact lends_nil | (refine lends_cons ?_ ?_; (· exact lend_v))))
  repeat (first | (refine step_ops ?_; (refine m_mov (by conv => lhs; whnf) ?_)) | refine end_ops ?_ | refine AW_ret ?_ | refine ret_done ?_)
  exact outs_v
theorem itoa_hg (n : Nat) (h : n < 10) : Sp Tryd.prog 24 [.i n] (str [hg n]) := by
  refine spec_of Tryd.func24 rfl cc24 rfl ?_
  unfold ac24
  repeat (first | (refine step_ops ?_; (refine m_mov (by conv => lhs; whnf) ?_)) | refine end_ops ?_ | refine seq_ops ?_)
  (refine step_ops ?_); (apply m_call (itoa2_hg n h)); (· repeat (first | exact lends_nil | (refine lends_cons ?_ ?_; (· exact lend_v))))
  repeat (first | (refine step_ops ?_; (refine m_mov (by conv => lhs; whnf) ?_)) | refine end_ops ?_ | refine AW_ret ?_ | refine ret_done ?_)
  exact outs_v

/-- What a row is, and what it guesses. -/
def RowOk (c : Int) (t : List UInt8) : Prop := (2 ≤ c ∧ c ≤ 3) ∧ (1 ≤ t.length ∧ t.length ≤ 30) ∧ IsCol c.toNat t
instance (c : Int) (t : List UInt8) : Decidable (RowOk c t) := inferInstanceAs (Decidable (_ ∧ _ ∧ _))
def rowG (c : Nat) (t : List UInt8) : List UInt8 := hg (hsum (t.drop 1) % c) :: t.drop 1
theorem rowG_len {c : Nat} {t : List UInt8} (h : 1 ≤ t.length) : (rowG c t).length = t.length := by
  unfold rowG
  rw [List.length_cons, List.length_drop]
  omega
theorem rowG_col {c : Nat} {t : List UInt8} (h2 : 2 ≤ c) (h3 : c ≤ 3) (h : IsCol c t) : IsCol c (rowG c t) :=
  col_append (t := [hg _]) (col_one (Nat.mod_lt _ (by omega)) h3) (col_drop h 1)

/-- The colour that follows is that of the own hat. -/
theorem row_next {c S a v b : Nat} (h2 : 2 ≤ c) (h3 : c ≤ 3) (hv : v < c) (hS : S = (a + v + b) % c) : ((S : Int) - (b : Nat) - (a : Nat)) % (c : Nat) = (v : Nat) := by
  rcases (show c = 2 ∨ c = 3 by omega) with rfl | rfl <;> omega
theorem hsum_append (A B : List UInt8) : hsum (A ++ B) = hsum A + hsum B := by simp [hsum]
theorem hsum_cons (b : UInt8) (t : List UInt8) : hsum (b :: t) = hv b + hsum t := by simp [hsum]

end Go.Proofs.YtfoecdaggmagaaaDoor

namespace Go.Proofs.YtfoecdaggmagaaaDoor
open Go.Am
attribute [local irreducible] AW Outs Weak Lends Lend Sp aops atree aop1 Then Round InBlock Done

theorem byte_eq {a b : UInt8} : ((a.toNat : Int) = (b.toNat : Int)) ↔ a = b := by
  constructor
  · intro h; exact UInt8.toNat_inj.1 (by omega)
  · intro h; rw [h]

def rwT (c : Int) (t : List UInt8) : List UInt8 := if RowOk c t then rowG c.toNat t else []
def rwR (c : Int) (t : List UInt8) : AV := .tup [str (rwT c t), .b (decide (RowOk c t))]
theorem row_nat {c : Int} {t : List UInt8} (h : RowOk c t) : ∃ n : Nat, c = n := Int.eq_ofNat_of_zero_le (by have := h.1; omega)

end Go.Proofs.YtfoecdaggmagaaaDoor
