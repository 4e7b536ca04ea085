/- The abstract machine, contracts: part 4 of what this claim needs. -/
import Derived.Test.YtkphjdomdmpinaaDoorZs3
namespace Go.Am
theorem m_ori {P : Program} {own : Bool} {s : AS} {K : AS → Prop} {d : Option Nat} {x y : Opd} {a b z : Nat} (hx : s.ev x = .i (a : Nat)) (hy : s.ev y = .i (b : Nat)) (ha : a < 65536) (hb : b < 65536) (hz : a ||| b = z) (kk : K (s.put d (.i (z : Nat)))) : aop1 P own ⟨d, .bin .or x y, none⟩ s K := by
  subst hz
  refine ⟨_, _, _, hx, hy, ?_, kk⟩
  show some (Value.int .i64 (IntKind.i64.wrap ((BitVec.ofInt IntKind.i64.bits (a : Int) ||| BitVec.ofInt IntKind.i64.bits (b : Int)).toNat : Int))) = _
  have h1 : ∀ {c : Nat}, c < 65536 → (BitVec.ofInt IntKind.i64.bits (c : Int)).toNat = c := by
    intro c hc
    show (BitVec.ofInt 64 (c : Int)).toNat = c
    rw [BitVec.ofInt_natCast, BitVec.toNat_ofNat]
    omega
  have h3 := or16_lt ha hb
  have h5 : IntKind.i64.wrap ((a ||| b : Nat) : Int) = ((a ||| b : Nat) : Int) := by
    rw [IntKind.wrap_i64]
    generalize a ||| b = z at *
    omega
  rw [BitVec.toNat_or, h1 ha, h1 hb, h5]
theorem m_andz {P : Program} {own : Bool} {s : AS} {K : AS → Prop} {d : Option Nat} {x y : Opd} {a z : Nat} (hx : s.ev x = .i (a : Nat)) (hy : s.ev y = .i 1) (ha : a < 4611686018427387904) (hz : a &&& 1 = z) (kk : K (s.put d (.i (z : Nat)))) : aop1 P own ⟨d, .bin .and x y, none⟩ s K := by
  subst hz
  exact m_andi1 hx hy ha kk
theorem m_shlz {P : Program} {own : Bool} {s : AS} {K : AS → Prop} {d : Option Nat} {x y : Opd} {k z : Nat} (hx : s.ev x = .i 1) (hy : s.ev y = .i (k : Nat)) (hk : k < 62) (hz : 2 ^ k = z) (kk : K (s.put d (.i (z : Nat)))) : aop1 P own ⟨d, .bin .shl x y, none⟩ s K := by
  subst hz
  exact m_shli hx hy hk kk
theorem bitz {a k : Nat} (h : a.testBit k = false) : (a >>> k) &&& 1 = 0 := by
  have := bit_and a k
  have h1 : (a >>> k) &&& 1 ≤ 1 := Nat.and_le_right
  rw [h] at this
  have := of_decide_eq_false this
  omega
theorem bit1 {a k : Nat} (h : a.testBit k = true) : (a >>> k) &&& 1 = 1 := by
  have := bit_and a k
  rw [h] at this
  exact of_decide_eq_true this
/-- A list by its numbers. -/
def rgL (n : Nat) (f : Nat → Nat) : List Int := (List.range (n + 1)).map fun k => ((f k : Nat) : Int)
theorem rgL_len (n : Nat) (f : Nat → Nat) : (rgL n f).length = n + 1 := by simp [rgL]
theorem rgL_get {n k : Nat} (f : Nat → Nat) (h : k < n + 1) : (rgL n f).getD k 0 = (f k : Int) := by simp [rgL, h]
theorem rgL_congr {n : Nat} {f g : Nat → Nat} (h : ∀ k, k < n + 1 → f k = g k) : rgL n f = rgL n g := by
  refine List.map_congr_left fun k hk => ?_
  rw [h k (List.mem_range.1 hk)]
theorem rgL_set {n k : Nat} {f : Nat → Nat} (m : Nat) (h : k < n + 1) : (rgL n f).set k ((rgL n f).getD k 0 + (m : Nat)) = rgL n fun j => f j + if j = k then m else 0 := by
  apply List.ext_getElem?
  intro j
  rw [List.getElem?_set, rgL_get f h, rgL_len]
  by_cases e : k = j
  · subst e
    simp [rgL, h]
  · rw [if_neg e]
    by_cases hj : j < n + 1
    · have : ¬ j = k := fun e2 => e e2.symm
      simp [rgL, hj, this]
    · simp [rgL, hj]
theorem rgL_zero (n : Nat) : List.replicate (n + 1) 0 = rgL n fun _ => 0 := by
  unfold rgL
  symm
  rw [List.eq_replicate_iff]
  refine ⟨by simp, fun b hb => ?_⟩
  obtain ⟨k, _, rfl⟩ := List.mem_map.1 hb
  rfl
theorem zerosL (n : Nat) : (List.replicate (n + 1) (List.map AV.v [Value.int .i64 0])).flatten = (rgL n fun _ => 0).map AV.i := by
  rw [← rgL_zero]
  generalize n + 1 = k
  induction k with
  | zero => rfl
  | succ k ih => rw [List.replicate_succ, List.flatten_cons, ih]; rfl
theorem m_mk0 {P : Program} {own : Bool} {s : AS} {K : AS → Prop} {x y : Opd} {r bs n : Nat} (hx : s.ev x = .i ((n + 1 : Nat) : Int)) (hy : s.ev y = .i ((n + 1 : Nat) : Int)) (h1 : (bs : Int) * ((n + 1 : Nat) : Int) ≤ 281474976710656) (h2 : ((n + 1 : Nat) : Int) ≤ 9223372036854775807)
    (k : K (((s.kill r).mem r (true, (rgL n fun _ => 0).map AV.i)).put (some r) (.sl r 1 0 (n + 1)))) : aop1 P own ⟨some r, .mk 1 bs [.int .i64 0] x y, none⟩ s K := by
  refine m_mk hx hy h1 h2 ?_
  rw [zerosL]
  exact k
theorem sumN_le' {f : Nat → Nat} {b n : Nat} (h : ∀ c, c < n → f c ≤ b) : sumN n f ≤ n * b := by
  rw [← sumN_const]
  exact sumN_le h
end Go.Am
namespace Go.Proofs.YtkphjdomdmpinaaDoor
open Go.Am
attribute [local irreducible] AW Outs Weak Lends Lend Sp aops atree aop1 Then Round InBlock Done
attribute [local irreducible] SpH SpX DoneH DoneX
def rgR (n : Nat) (f : Nat → Nat) : AV := .ro true 1 ((rgL n f).map AV.i) (n + 1)
/-- What a column adds to a number of rooks. -/
def rkT (B : List UInt8) (m S k j : Nat) : Nat := if fbB B (sdB B - (m + 1)) j && !S.testBit j then (match k with | 0 => 0 | q + 1 => rkG (fbB B) (sdB B) m (insC S j) q) else 0
theorem rkG_le9 {B : List UInt8} (h : GoodBd B) {m : Nat} (hm : m ≤ 8) (S k : Nat) : rkG (fbB B) (sdB B) m S k ≤ 43046721 := by
  have hsd := good_sd h
  exact Nat.le_trans (rkG_le m S k) (Nat.le_trans (Nat.pow_le_pow_left (by omega : sdB B + 1 ≤ 9) _) (Nat.le_trans (Nat.pow_le_pow_right (by omega) hm) (by decide)))
theorem rkT_le9 {B : List UInt8} (h : GoodBd B) {m : Nat} (hm : m ≤ 8) (S k j : Nat) : rkT B m S k j ≤ 43046721 := by
  unfold rkT
  split
  · cases k with
    | zero => exact Nat.zero_le _
    | succ q => exact rkG_le9 h hm _ q
  · omega
/-- Numbers of rooks while a column is added. -/
def rkQ (B : List UInt8) (m S j q k : Nat) : Nat := rkG (fbB B) (sdB B) m S k + sumN j (rkT B m S k) + if 1 ≤ k ∧ k ≤ q then rkG (fbB B) (sdB B) m (insC S j) (k - 1) else 0
theorem rkQ_0 (B : List UInt8) (m S j : Nat) : rgL (sdB B) (rkQ B m S j 0) = rgL (sdB B) fun k => rkG (fbB B) (sdB B) m S k + sumN j (rkT B m S k) :=
  rgL_congr fun k _ => by rw [rkQ, if_neg (by omega), Nat.add_zero]
theorem rkQ_skip {B : List UInt8} {m S j q : Nat} (h : rkG (fbB B) (sdB B) m (insC S j) q = 0) : rgL (sdB B) (rkQ B m S j q) = rgL (sdB B) (rkQ B m S j (q + 1)) :=
  rgL_congr fun k _ => by
    unfold rkQ
    by_cases e : k = q + 1
    · subst e
      rw [if_neg (by omega), if_pos (by omega), Nat.add_sub_cancel, h]
    · by_cases h1 : 1 ≤ k ∧ k ≤ q
      · rw [if_pos h1, if_pos (by omega)]
      · rw [if_neg h1, if_neg (by omega)]
theorem rkQ_step (B : List UInt8) (m S j q k : Nat) : rkQ B m S j q k + (if k = q + 1 then rkG (fbB B) (sdB B) m (insC S j) q else 0) = rkQ B m S j (q + 1) k := by
  unfold rkQ
  by_cases e : k = q + 1
  · subst e
    rw [if_neg (by omega), if_pos rfl, if_pos (by omega), Nat.add_sub_cancel]
    omega
  · rw [if_neg e]
    by_cases h1 : 1 ≤ k ∧ k ≤ q
    · rw [if_pos h1, if_pos (by omega)]; rfl
    · rw [if_neg h1, if_neg (by omega)]
theorem rkQ_end {B : List UInt8} {m S j row : Nat} (hr : sdB B - (m + 1) = row) (hf : fbB B row j = true) (hb : S.testBit j = false) : rgL (sdB B) (rkQ B m S j (sdB B + 1)) = rgL (sdB B) fun k => rkG (fbB B) (sdB B) m S k + sumN (j + 1) (rkT B m S k) :=
  rgL_congr fun k hk => by
    unfold rkQ
    rw [sumN, ← Nat.add_assoc]
    congr 1
    have : (fbB B (sdB B - (m + 1)) j && !S.testBit j) = true := by rw [hr, hf, hb]; rfl
    unfold rkT
    rw [if_pos this]
    cases k with
    | zero => rw [if_neg (by omega)]
    | succ k => rw [if_pos (by omega)]; rfl
theorem rkQ_le {B : List UInt8} (h : GoodBd B) {m S j q k : Nat} (hm : m ≤ 8) (hj : j ≤ 8) : rkQ B m S j q k ≤ 1000000000 := by
  have h1 := rkG_le9 h hm S k
  have h2 := sumN_le' (f := rkT B m S k) (b := 43046721) (n := j) fun c _ => rkT_le9 h hm S k c
  have h3 : j * 43046721 ≤ 8 * 43046721 := Nat.mul_le_mul_right _ hj
  have h4 := rkG_le9 h hm (insC S j) (k - 1)
  unfold rkQ
  split <;> omega
theorem bdRooks_spec (B : List UInt8) (h : GoodBd B) (hB : B.length ≤ 1048576) : ∀ m row S, row + m = sdB B → S < 2 ^ sdB B → Sp Tryd.prog 33 [str B, .i (row : Nat), .i (S : Nat)] (rgR (sdB B) (rkG (fbB B) (sdB B) m S)) := by
  have hsd := good_sd h
  intro m
  induction m with
  | zero =>
    intro row S hrow hS
    unfold rgR
    have hrow' : row = sdB B := by omega
    have l0 := rgL_len (sdB B) (fun _ => 0)
    refine spec_of Tryd.func33 rfl cc33 rfl ?_
    unfold ac33
    repeat (first | (refine step_ops ?_; (first | (refine m_mov (by conv => lhs; whnf) ?_) | (refine m_nils ?_))) | refine end_ops ?_ | refine seq_ops ?_)
    (refine step_ops ?_); (apply m_call (bdSide_spec B hB)); (· repeat (first | exact lends_nil | (refine lends_cons ?_ ?_; (· exact lend_v))))
    repeat (first | (refine step_ops ?_; (first | (refine m_mov (by conv => lhs; whnf) ?_) | (refine m_add rfl rfl ?_ ?_ ?_; (· omega); (· omega)))) | refine end_ops ?_ | refine seq_ops ?_)
    refine step_ops ?_
    refine m_mk0 (n := sdB B) rfl rfl (by omega) (by omega) ?_
    repeat (first | (refine step_ops ?_; (first | (refine m_mov (by conv => lhs; whnf) ?_) | (refine m_eql rfl rfl ?_) | (refine m_idx_sl rfl rfl ?_ ?_ ?_; (· omega); (· omega)) | (apply m_st; (· rfl); (· rfl); (· rfl); (· first | omega | (simp; done) | (simp; omega)); (· rfl)))) | refine end_ops ?_ | refine seq_ops ?_ | (refine cond_t rfl ?_ ?_; (· first | rfl | assumption | (refine decide_eq_true ?_; first | assumption | omega) | (refine nt ?_; first | assumption | omega) | (simp [*]; done))) | refine AW_seq ?_ | refine AW_ret ?_ | refine ret_done ?_ | refine ret_then ?_)
    refine outs_sl (z := 1) (n := sdB B + 1) (cs := (rgL (sdB B) (rkG (fbB B) (sdB B) 0 S)).map AV.i) ?_ (by simp [rgL]) (allv_ints _)
    show some (true, List.set (List.map AV.i (rgL (sdB B) fun _ => 0)) 0 (AV.i 1)) = _
    rw [← List.map_set]
    congr 3
    have e := rgL_set (n := sdB B) (k := 0) (f := fun _ => 0) 1 (by omega)
    rw [rgL_get _ (by omega)] at e
    refine e.trans (rgL_congr fun k _ => ?_)
    rw [rkG]
    omega
  | succ m ih =>
    intro row S hrow hS
    have hm8 : m ≤ 8 := by omega
    have hS512 : S < 512 := Nat.lt_of_lt_of_le hS (Nat.pow_le_pow_right (by decide) (by omega : sdB B ≤ 9))
    have hrowm : sdB B - (m + 1) = row := by omega
    unfold rgR
    refine spec_of Tryd.func33 rfl cc33 rfl ?_
    unfold ac33
    repeat (first | (refine step_ops ?_; (first | (refine m_mov (by conv => lhs; whnf) ?_) | (refine m_nils ?_))) | refine end_ops ?_ | refine seq_ops ?_)
    (refine step_ops ?_); (apply m_call (bdSide_spec B hB)); (· repeat (first | exact lends_nil | (refine lends_cons ?_ ?_; (· exact lend_v))))
    repeat (first | (refine step_ops ?_; (first | (refine m_mov (by conv => lhs; whnf) ?_) | (refine m_add rfl rfl ?_ ?_ ?_; (· omega); (· omega)))) | refine end_ops ?_ | refine seq_ops ?_)
    refine step_ops ?_
    refine m_mk0 (n := sdB B) rfl rfl (by omega) (by omega) ?_
    repeat (first | (refine step_ops ?_; (first | (refine m_mov (by conv => lhs; whnf) ?_) | (refine m_eql rfl rfl ?_) | (refine m_add rfl rfl ?_ ?_ ?_; (· omega); (· omega)))) | refine end_ops ?_ | refine seq_ops ?_ | (refine cond_f rfl ?_ ?_; (· first | rfl | assumption | (refine decide_eq_false ?_; first | assumption | omega) | (refine nf ?_; first | assumption | omega) | (simp [*]; done))) | refine skip_then ?_ | refine AW_seq ?_)
    have e1 := ih (row + 1) S (by omega) hS
    unfold rgR at e1
    (refine step_ops ?_); (apply m_call (e1)); (· repeat (first | exact lends_nil | (refine lends_cons ?_ ?_; (· exact lend_v))))
    repeat (first | (refine step_ops ?_; (first | (refine m_mov (by conv => lhs; whnf) ?_) | (refine m_len_ro rfl ?_))) | refine end_ops ?_ | refine AW_block ?_)
    refine AW_loop (α := Nat) (fun k => k ≤ sdB B + 1) (fun k => st [(0, str B), (1, .i (row : Nat)), (2, .i (S : Nat)), (7, .i (sdB B : Nat)), (8, .sl 18 1 0 (sdB B + 1)), (29, .ro true 1 ((rgL (sdB B) (rkG (fbB B) (sdB B) m S)).map AV.i) (sdB B + 1)), (30, .i (sdB B + 1 : Nat)), (31, .i (k : Nat))]
        [(18, (true, (rgL (sdB B) fun j => if j < k then rkG (fbB B) (sdB B) m S j else 0).map AV.i))]) (fun k => sdB B + 1 - k) 0 (by omega) (weak_st ?_ ?_ rfl rfl) ?_
    · (repeat' (first | exact trivial | refine And.intro ?_ ?_)) <;> (first | rfl | skip)
    · (repeat' (first | exact trivial | refine And.intro ?_ ?_)) <;> (first | rfl | skip)
    rintro k hk
    by_cases hk1 : k < sdB B + 1
    · have g1 := rgL_get (rkG (fbB B) (sdB B) m S) hk1
      have g2 := rgL_get (fun j => if j < k then rkG (fbB B) (sdB B) m S j else 0) hk1
      rw [if_neg (by omega)] at g2
      have l1 := rgL_len (sdB B) (rkG (fbB B) (sdB B) m S)
      have l2 := rgL_len (sdB B) (fun j => if j < k then rkG (fbB B) (sdB B) m S j else 0)
      have b1 := rkG_le9 h hm8 S k
      have b2 : 0 ≤ (rgL (sdB B) (rkG (fbB B) (sdB B) m S)).getD k 0 ∧ (rgL (sdB B) (rkG (fbB B) (sdB B) m S)).getD k 0 ≤ 43046721 := by rw [g1]; omega
      have b3 : (rgL (sdB B) (fun j => if j < k then rkG (fbB B) (sdB B) m S j else 0)).getD k 0 = 0 := by rw [g2]; rfl
      repeat (first | (refine step_ops ?_; (first | (refine m_mov (by conv => lhs; whnf) ?_) | (refine m_lss rfl rfl ?_) | (refine m_add rfl rfl ?_ ?_ ?_; (· omega); (· omega)) | (refine m_idx1_ro rfl rfl ?_ ?_; (· omega)) | (refine m_idx1_sl rfl rfl ?_ ?_; (· omega)) | (refine m_ld_rpi rfl ?_ ?_; (· omega)) | (refine m_ld_pti rfl (by rfl) ?_ ?_; (· first | omega | (simp; omega))) | (apply m_st; (· rfl); (· rfl); (· rfl); (· first | omega | (simp; done) | (simp; omega)); (· rfl)))) | refine end_ops ?_ | refine seq_ops ?_ | refine AW_ops ?_ | (refine cond_t rfl ?_ ?_; (· first | rfl | assumption | (refine decide_eq_true ?_; first | assumption | omega) | (refine nt ?_; first | assumption | omega) | (simp [*]; done))) | refine skip_then ?_ | refine AW_seq ?_ | refine norm_then ?_ | refine AW_block ?_ | refine norm_block ?_)
      refine next_round (k + 1) (by omega) (weak_st ?_ ?_ rfl rfl) (by omega)
      · (repeat' (first | exact trivial | refine And.intro ?_ ?_)) <;> (first | rfl | skip)
      · (repeat' (first | exact trivial | refine And.intro ?_ ?_)) <;> (first | rfl | skip)
        show some (true, List.set (List.map AV.i _) k (AV.i _)) = _
        rw [← List.map_set, g1, rgL_set _ hk1]
        congr 3
        refine rgL_congr fun j _ => ?_
        by_cases ej : j = k
        · subst ej; simp
        · by_cases hj : j < k
          · simp [ej, hj, show j < k + 1 by omega]
          · simp [ej, hj, show ¬ j < k + 1 by omega]
    · have hke : k = sdB B + 1 := by omega
      subst hke
      rw [show (rgL (sdB B) fun j => if j < sdB B + 1 then rkG (fbB B) (sdB B) m S j else 0) = rgL (sdB B) (rkG (fbB B) (sdB B) m S) from rgL_congr fun j hj => if_pos hj]
      repeat (first | (refine step_ops ?_; (first | (refine m_mov (by conv => lhs; whnf) ?_) | (refine m_lss rfl rfl ?_))) | refine end_ops ?_ | refine seq_ops ?_ | (refine cond_f rfl ?_ ?_; (· first | rfl | assumption | (refine decide_eq_false ?_; first | assumption | omega) | (refine nf ?_; first | assumption | omega) | (simp [*]; done))) | refine AW_seq ?_ | refine norm_then ?_ | refine exit_then ?_ | refine AW_block ?_ | refine exit_round ?_ | refine AW_exit ?_ | refine exit_block ?_)
      refine AW_loop (α := Nat) (fun j => j ≤ sdB B) (fun j => st [(0, str B), (1, .i (row : Nat)), (2, .i (S : Nat)), (7, .i (sdB B : Nat)), (8, .sl 18 1 0 (sdB B + 1)), (11, .i (j : Nat))]
        [(18, (true, (rgL (sdB B) fun k => rkG (fbB B) (sdB B) m S k + sumN j (rkT B m S k)).map AV.i))]) (fun j => sdB B - j) 0 (by omega) (weak_st ?_ ?_ rfl rfl) ?_
      · (repeat' (first | exact trivial | refine And.intro ?_ ?_)) <;> (first | rfl | skip)
      · (repeat' (first | exact trivial | refine And.intro ?_ ?_)) <;> (first | rfl | skip)
      rintro j hj
      by_cases hj1 : j < sdB B
      · have hsh : S >>> j < 512 := Nat.lt_of_le_of_lt (Nat.shiftRight_le S j) hS512
        have skipT : (∀ k, rkT B m S k j = 0) → (rgL (sdB B) fun k => rkG (fbB B) (sdB B) m S k + sumN j (rkT B m S k)) = rgL (sdB B) fun k => rkG (fbB B) (sdB B) m S k + sumN (j + 1) (rkT B m S k) := fun h0 =>
          rgL_congr fun k _ => by rw [sumN, h0 k, Nat.add_zero]
        by_cases hbit : S.testBit j = true
        · have hz := bit1 hbit
          repeat (first | (refine step_ops ?_; (first | (refine m_mov (by conv => lhs; whnf) ?_) | (refine m_lss rfl rfl ?_))) | refine end_ops ?_ | refine seq_ops ?_ | (refine cond_t rfl ?_ ?_; (· first | rfl | assumption | (refine decide_eq_true ?_; first | assumption | omega) | (refine nt ?_; first | assumption | omega) | (simp [*]; done))) | refine skip_then ?_ | refine AW_seq ?_ | refine AW_block ?_)
          refine step_ops ?_
          refine m_shri (a := S) (k := j) rfl rfl (by omega) ?_
          refine step_ops ?_
          refine m_andz (a := S >>> j) (z := 1) rfl rfl (by omega) hz ?_
          repeat (first | (refine step_ops ?_; (first | (first | (refine m_mov (by conv => lhs; whnf) ?_) | (refine m_eql rfl rfl ?_) | (refine m_add rfl rfl ?_ ?_ ?_; (· omega); (· omega)) | (refine m_pick_f rfl ?_ (by conv => lhs; whnf) ?_; (· first | rfl | assumption | (refine decide_eq_false ?_; first | assumption | omega) | (refine nf ?_; first | assumption | omega) | (simp [*]; done)))) | (refine g_noT rfl ?_ ?_; (· first | rfl | assumption | (refine decide_eq_false ?_; first | assumption | omega) | (refine nf ?_; first | assumption | omega) | (simp [*]; done))))) | refine end_ops ?_ | refine AW_ops ?_ | (refine cond_f rfl ?_ ?_; (· first | rfl | assumption | (refine decide_eq_false ?_; first | assumption | omega) | (refine nf ?_; first | assumption | omega) | (simp [*]; done))) | refine norm_then ?_ | refine norm_block ?_ | refine AW_skip ?_)
          refine next_round (j + 1) (by omega) (weak_st ?_ ?_ rfl rfl) (by omega)
          · (repeat' (first | exact trivial | refine And.intro ?_ ?_)) <;> (first | rfl | skip)
          · (repeat' (first | exact trivial | refine And.intro ?_ ?_)) <;> (first | rfl | skip)
            show some (true, List.map AV.i _) = some (true, List.map AV.i _)
            rw [skipT fun k => by simp [rkT, hbit]]
        · have hbit : S.testBit j = false := by simpa using hbit
          have hz := bitz hbit
          repeat (first | (refine step_ops ?_; (first | (refine m_mov (by conv => lhs; whnf) ?_) | (refine m_lss rfl rfl ?_))) | refine end_ops ?_ | refine seq_ops ?_ | (refine cond_t rfl ?_ ?_; (· first | rfl | assumption | (refine decide_eq_true ?_; first | assumption | omega) | (refine nt ?_; first | assumption | omega) | (simp [*]; done))) | refine skip_then ?_ | refine AW_seq ?_ | refine AW_block ?_)
          refine step_ops ?_
          refine m_shri (a := S) (k := j) rfl rfl (by omega) ?_
          refine step_ops ?_
          refine m_andz (a := S >>> j) (z := 0) rfl rfl (by omega) hz ?_
          repeat (refine step_ops ?_; ((try (refine g_yes rfl ?_ ?_; (· first | rfl | assumption | (refine decide_eq_true ?_; first | assumption | omega) | (refine nt ?_; first | assumption | omega) | (simp [*]; done) | (refine decide_eq_false ?_; first | assumption | omega) | (refine nf ?_; first | assumption | omega)))); (first | (refine m_mov (by conv => lhs; whnf) ?_) | (refine m_eql rfl rfl ?_))))
          (refine step_ops ?_); (refine g_yes rfl ?_ ?_; (· first | (first | rfl | assumption | (refine decide_eq_true ?_; first | assumption | omega) | (refine nt ?_; first | assumption | omega) | (simp [*]; done)) | (first | rfl | assumption | (refine decide_eq_false ?_; first | assumption | omega) | (refine nf ?_; first | assumption | omega) | (simp [*]; done))); (apply m_call (bdAt_spec B h row j (by omega) hj1))); (· repeat (first | exact lends_nil | (refine lends_cons ?_ ?_; (· exact lend_v))))
          by_cases hf : fbB B row j = true
          · repeat (first | (refine step_ops ?_; (first | (refine m_mov (by conv => lhs; whnf) ?_) | (refine m_add rfl rfl ?_ ?_ ?_; (· omega); (· omega)) | (refine m_pick_t rfl ?_ (by conv => lhs; whnf) ?_; (· first | rfl | assumption | (refine decide_eq_true ?_; first | assumption | omega) | (refine nt ?_; first | assumption | omega) | (simp [*]; done))))) | refine end_ops ?_ | refine seq_ops ?_ | (refine cond_t rfl ?_ ?_; (· first | rfl | assumption | (refine decide_eq_true ?_; first | assumption | omega) | (refine nt ?_; first | assumption | omega) | (simp [*]; done))))
            have hT := insC_lt hS hj1
            have hT512 : insC S j < 512 := Nat.lt_of_lt_of_le hT (Nat.pow_le_pow_right (by decide) (by omega : sdB B ≤ 9))
            have h2j : 2 ^ j < 512 := Nat.lt_of_lt_of_le (Nat.pow_lt_pow_right (by decide) (by omega : j < 9)) (by decide)
            refine step_ops ?_
            refine m_shlz (k := j) (z := 2 ^ j) rfl rfl (by omega) rfl ?_
            refine step_ops ?_
            refine m_ori (a := S) (b := 2 ^ j) (z := insC S j) rfl rfl (by omega) (by omega) (by unfold insC; rw [Nat.one_shiftLeft]) ?_
            have e2 := ih (row + 1) (insC S j) (by omega) hT
            unfold rgR at e2
            (refine step_ops ?_); (apply m_call (e2)); (· repeat (first | exact lends_nil | (refine lends_cons ?_ ?_; (· exact lend_v))))
            repeat (first | (refine step_ops ?_; (first | (refine m_mov (by conv => lhs; whnf) ?_) | (refine m_len_ro rfl ?_))) | refine end_ops ?_ | refine AW_block ?_)
            refine AW_loop (α := Nat) (fun q => q ≤ sdB B + 1) (fun q => st [(0, str B), (1, .i (row : Nat)), (2, .i (S : Nat)), (7, .i (sdB B : Nat)), (8, .sl 18 1 0 (sdB B + 1)), (11, .i (j : Nat)),
                (67, .ro true 1 ((rgL (sdB B) (rkG (fbB B) (sdB B) m (insC S j))).map AV.i) (sdB B + 1)), (68, .i (sdB B + 1 : Nat)), (69, .i (q : Nat))]
              [(18, (true, (rgL (sdB B) (rkQ B m S j q)).map AV.i))]) (fun q => sdB B + 1 - q) 0 (by omega) (weak_st ?_ ?_ rfl rfl) ?_
            · (repeat' (first | exact trivial | refine And.intro ?_ ?_)) <;> (first | rfl | skip)
            · (repeat' (first | exact trivial | refine And.intro ?_ ?_)) <;> (first | rfl | skip)
              show some (true, List.map AV.i _) = some (true, List.map AV.i _)
              rw [rkQ_0]
            rintro q hq
            by_cases hq1 : q < sdB B + 1
            · have g1 := rgL_get (rkG (fbB B) (sdB B) m (insC S j)) hq1
              have l1 := rgL_len (sdB B) (rkG (fbB B) (sdB B) m (insC S j))
              have l2 := rgL_len (sdB B) (rkQ B m S j q)
              have b1 := rkG_le9 h hm8 (insC S j) q
              by_cases hv : 0 < rkG (fbB B) (sdB B) m (insC S j) q
              · have hqn : q < sdB B := by
                  rcases Nat.lt_or_ge q (sdB B) with h3 | h3
                  · exact h3
                  · have := rkG_big (fb := fbB B) (n := sdB B) m (insC S j) q (by omega)
                    omega
                have g2 := rgL_get (n := sdB B) (k := q + 1) (rkQ B m S j q) (by omega)
                have b2 := rkQ_le h hm8 (S := S) (j := j) (q := q) (k := q + 1) (by omega)
                have b3 : 0 ≤ (rgL (sdB B) (rkQ B m S j q)).getD (q + 1) 0 ∧ (rgL (sdB B) (rkQ B m S j q)).getD (q + 1) 0 ≤ 1000000000 := by rw [g2]; omega
                have b4 : 0 < (rgL (sdB B) (rkG (fbB B) (sdB B) m (insC S j))).getD q 0 ∧ (rgL (sdB B) (rkG (fbB B) (sdB B) m (insC S j))).getD q 0 ≤ 43046721 := by rw [g1]; omega
                have hq' : 0 + ((q : Int) + 1).toNat * 1 = q + 1 := by omega
                have b5 : 0 ≤ (rgL (sdB B) (rkQ B m S j q)).getD (0 + ((q : Int) + 1).toNat * 1) 0 ∧ (rgL (sdB B) (rkQ B m S j q)).getD (0 + ((q : Int) + 1).toNat * 1) 0 ≤ 1000000000 := by rw [hq']; exact b3
                repeat (first | (refine step_ops ?_; (first | (refine m_mov (by conv => lhs; whnf) ?_) | (refine m_lss rfl rfl ?_) | (refine m_gtr rfl rfl ?_) | (refine m_add rfl rfl ?_ ?_ ?_; (· omega); (· omega)) | (refine m_idx1_ro rfl rfl ?_ ?_; (· omega)) | (refine m_idx_sl rfl rfl ?_ ?_ ?_; (· omega); (· omega)) | (refine m_ld_rpi rfl ?_ ?_; (· omega)) | (refine m_ld_pti rfl (by rfl) ?_ ?_; (· first | omega | (simp; omega))) | (apply m_st; (· rfl); (· rfl); (· rfl); (· first | omega | (simp; done) | (simp; omega)); (· rfl)))) | refine end_ops ?_ | refine seq_ops ?_ | refine AW_ops ?_ | (refine cond_t rfl ?_ ?_; (· first | rfl | assumption | (refine decide_eq_true ?_; first | assumption | omega) | (refine nt ?_; first | assumption | omega) | (simp [*]; done))) | refine skip_then ?_ | refine AW_seq ?_ | refine norm_then ?_ | refine AW_block ?_ | refine norm_block ?_)
                refine next_round (q + 1) (by omega) (weak_st ?_ ?_ rfl rfl) (by omega)
                · (repeat' (first | exact trivial | refine And.intro ?_ ?_)) <;> (first | rfl | skip)
                · (repeat' (first | exact trivial | refine And.intro ?_ ?_)) <;> (first | rfl | skip)
                  show some (true, List.set (List.map AV.i _) _ (AV.i _)) = some (true, List.map AV.i _)
                  rw [← List.map_set, hq', g1, rgL_set _ (by omega)]
                  congr 3
                  refine rgL_congr fun k _ => rkQ_step B m S j q k
              · have b4 : (rgL (sdB B) (rkG (fbB B) (sdB B) m (insC S j))).getD q 0 = 0 := by rw [g1]; omega
                repeat (first | (refine step_ops ?_; (first | (refine m_mov (by conv => lhs; whnf) ?_) | (refine m_lss rfl rfl ?_) | (refine m_gtr rfl rfl ?_) | (refine m_add rfl rfl ?_ ?_ ?_; (· omega); (· omega)) | (refine m_idx1_ro rfl rfl ?_ ?_; (· omega)) | (refine m_ld_rpi rfl ?_ ?_; (· omega)))) | refine end_ops ?_ | refine seq_ops ?_ | refine AW_ops ?_ | (refine cond_t rfl ?_ ?_; (· first | rfl | assumption | (refine decide_eq_true ?_; first | assumption | omega) | (refine nt ?_; first | assumption | omega) | (simp [*]; done))) | (refine cond_f rfl ?_ ?_; (· first | rfl | assumption | (refine decide_eq_false ?_; first | assumption | omega) | (refine nf ?_; first | assumption | omega) | (simp [*]; done))) | refine skip_then ?_ | refine AW_seq ?_ | refine norm_then ?_ | refine AW_block ?_ | refine norm_block ?_ | refine AW_skip ?_)
                refine next_round (q + 1) (by omega) (weak_st ?_ ?_ rfl rfl) (by omega)
                · (repeat' (first | exact trivial | refine And.intro ?_ ?_)) <;> (first | rfl | skip)
                · (repeat' (first | exact trivial | refine And.intro ?_ ?_)) <;> (first | rfl | skip)
                  show some (true, List.map AV.i _) = some (true, List.map AV.i _)
                  rw [rkQ_skip (by omega)]
            · have hqe : q = sdB B + 1 := by omega
              subst hqe
              rw [rkQ_end hrowm hf hbit]
              repeat (first | (refine step_ops ?_; (first | (refine m_mov (by conv => lhs; whnf) ?_) | (refine m_lss rfl rfl ?_) | (refine m_add rfl rfl ?_ ?_ ?_; (· omega); (· omega)))) | refine end_ops ?_ | refine seq_ops ?_ | refine AW_ops ?_ | (refine cond_f rfl ?_ ?_; (· first | rfl | assumption | (refine decide_eq_false ?_; first | assumption | omega) | (refine nf ?_; first | assumption | omega) | (simp [*]; done))) | refine AW_seq ?_ | refine norm_then ?_ | refine exit_then ?_ | refine norm_block ?_ | refine exit_round ?_ | refine AW_exit ?_ | refine exit_block ?_)
              refine next_round (j + 1) (by omega) (weak_st ?_ ?_ rfl rfl) (by omega)
              · (repeat' (first | exact trivial | refine And.intro ?_ ?_)) <;> (first | rfl | skip)
              · (repeat' (first | exact trivial | refine And.intro ?_ ?_)) <;> (first | rfl | skip)
          · have hf : fbB B row j = false := by simpa using hf
            repeat (first | (refine step_ops ?_; (first | (refine m_mov (by conv => lhs; whnf) ?_) | (refine m_add rfl rfl ?_ ?_ ?_; (· omega); (· omega)) | (refine m_pick_t rfl ?_ (by conv => lhs; whnf) ?_; (· first | rfl | assumption | (refine decide_eq_true ?_; first | assumption | omega) | (refine nt ?_; first | assumption | omega) | (simp [*]; done))))) | refine end_ops ?_ | refine AW_ops ?_ | (refine cond_f rfl ?_ ?_; (· first | rfl | assumption | (refine decide_eq_false ?_; first | assumption | omega) | (refine nf ?_; first | assumption | omega) | (simp [*]; done))) | refine norm_then ?_ | refine norm_block ?_ | refine AW_skip ?_)
            refine next_round (j + 1) (by omega) (weak_st ?_ ?_ rfl rfl) (by omega)
            · (repeat' (first | exact trivial | refine And.intro ?_ ?_)) <;> (first | rfl | skip)
            · (repeat' (first | exact trivial | refine And.intro ?_ ?_)) <;> (first | rfl | skip)
              show some (true, List.map AV.i _) = some (true, List.map AV.i _)
              rw [skipT fun k => by simp [rkT, hrowm, hf]]
      · have hje : j = sdB B := by omega
        subst hje
        repeat (first | (refine step_ops ?_; (first | (refine m_mov (by conv => lhs; whnf) ?_) | (refine m_lss rfl rfl ?_))) | refine end_ops ?_ | refine seq_ops ?_ | (refine cond_f rfl ?_ ?_; (· first | rfl | assumption | (refine decide_eq_false ?_; first | assumption | omega) | (refine nf ?_; first | assumption | omega) | (simp [*]; done))) | refine AW_seq ?_ | refine AW_ret ?_ | refine ret_done ?_ | refine norm_then ?_ | refine exit_then ?_ | refine exit_round ?_ | refine AW_exit ?_ | refine exit_block ?_)
        exact outs_sl rfl (by simp [rgL]) (allv_ints _)
end Go.Proofs.YtkphjdomdmpinaaDoor
namespace Go.Proofs.YtkphjdomdmpinaaDoor
open Go.Am
attribute [local irreducible] AW Outs Weak Lends Lend Sp aops atree aop1 Then Round InBlock Done
attribute [local irreducible] SpH SpX DoneH DoneX
theorem rgR_new (n : Nat) (f : Nat → Nat) : rgR n f = newInts (rgL n f) := by
  unfold rgR newInts
  rw [rgL_len]
theorem rooks0_spec (B : List UInt8) (h : GoodBd B) (hB : B.length ≤ 1048576) : Sp Tryd.prog 33 [str B, .i 0, .i 0] (newInts (rgL (sdB B) (rkN (fbB B) (sdB B)))) := by
  rw [← rgR_new]
  exact bdRooks_spec B h hB (sdB B) 0 0 (by omega) (Nat.pow_pos (by decide))
/-- The greatest number of rooks. -/
def mostN (f : Nat → Nat) : Nat → Nat
  | 0 => 0
  | k + 1 => if 0 < f (k + 1) then k + 1 else mostN f k
theorem rk0 (fb : Nat → Nat → Bool) (n : Nat) : ∀ m S, rkG fb n m S 0 = 1
  | 0, _ => rfl
  | m + 1, S => by
    rw [rkG, rk0 fb n m S, sumN_congr (g := fun _ => 0) fun j _ => by simp, sumN_zero]
theorem bdMost_spec (B : List UInt8) (h : GoodBd B) (hB : B.length ≤ 1048576) : Sp Tryd.prog 38 [str B] (.i (mostN (rkN (fbB B) (sdB B)) (sdB B) : Nat)) := by
  have hsd := good_sd h
  have hk := rooks0_spec B h hB
  have hle : ∀ k, rkN (fbB B) (sdB B) k ≤ 43046721 := fun k => rkG_le9 h (by omega) 0 k
  have h0 : rkN (fbB B) (sdB B) 0 = 1 := rk0 _ _ _ _
  generalize rkN (fbB B) (sdB B) = f at *
  have hl := rgL_len (sdB B) f
  refine spec_of Tryd.func38 rfl cc38 rfl ?_
  unfold ac38
  repeat (first | (refine step_ops ?_; (refine m_mov (by conv => lhs; whnf) ?_)) | refine end_ops ?_ | refine seq_ops ?_ | refine AW_seq ?_)
  (refine step_ops ?_); (apply m_call (hk)); (· repeat (first | exact lends_nil | (refine lends_cons ?_ ?_; (· exact lend_v))))
  repeat (first | (refine step_ops ?_; (first | (refine m_mov (by conv => lhs; whnf) ?_) | (refine m_len_ro rfl ?_))) | refine end_ops ?_ | refine AW_block ?_)
  refine AW_loop (α := Nat) (fun k => k ≤ sdB B + 1) (fun k => st [(0, str B), (3, .i (mostN f (k - 1) : Nat)), (7, newInts (rgL (sdB B) f)), (8, .i (rgL (sdB B) f).length), (9, .i (k : Nat))] []) (fun k => sdB B + 1 - k) 0 (by omega) (weak_st ?_ ?_ rfl rfl) ?_
  · (repeat' (first | exact trivial | refine And.intro ?_ ?_)) <;> (first | rfl | skip)
  · trivial
  rintro k hk2
  unfold newInts
  by_cases hk1 : k < sdB B + 1
  · have g1 := rgL_get f hk1
    have b1 := hle k
    by_cases hv : 0 < f k
    · have b4 : 0 < (rgL (sdB B) f).getD k 0 := by rw [g1]; omega
      repeat (first | (refine step_ops ?_; (first | (refine m_mov (by conv => lhs; whnf) ?_) | (refine m_lss rfl rfl ?_) | (refine m_gtr rfl rfl ?_) | (refine m_add rfl rfl ?_ ?_ ?_; (· omega); (· omega)) | (refine m_idx1_ro rfl rfl ?_ ?_; (· omega)) | (refine m_ld_rpi rfl ?_ ?_; (· omega)))) | refine end_ops ?_ | refine seq_ops ?_ | refine AW_ops ?_ | (refine cond_t rfl ?_ ?_; (· first | rfl | assumption | (refine decide_eq_true ?_; first | assumption | omega) | (refine nt ?_; first | assumption | omega) | (simp [*]; done))) | refine skip_then ?_ | refine AW_seq ?_ | refine norm_then ?_ | refine AW_block ?_ | refine norm_block ?_)
      refine next_round (k + 1) (by omega) (weak_st ?_ ?_ rfl rfl) (by omega)
      · (repeat' (first | exact trivial | refine And.intro ?_ ?_)) <;> (first | rfl | skip)
        show AV.i (k : Nat) = AV.i (mostN f k : Nat)
        cases k with
        | zero => rfl
        | succ k => rw [mostN, if_pos hv]
      · trivial
    · have b4 : (rgL (sdB B) f).getD k 0 = 0 := by rw [g1]; omega
      repeat (first | (refine step_ops ?_; (first | (refine m_mov (by conv => lhs; whnf) ?_) | (refine m_lss rfl rfl ?_) | (refine m_gtr rfl rfl ?_) | (refine m_add rfl rfl ?_ ?_ ?_; (· omega); (· omega)) | (refine m_idx1_ro rfl rfl ?_ ?_; (· omega)) | (refine m_ld_rpi rfl ?_ ?_; (· omega)))) | refine end_ops ?_ | refine seq_ops ?_ | refine AW_ops ?_ | (refine cond_t rfl ?_ ?_; (· first | rfl | assumption | (refine decide_eq_true ?_; first | assumption | omega) | (refine nt ?_; first | assumption | omega) | (simp [*]; done))) | (refine cond_f rfl ?_ ?_; (· first | rfl | assumption | (refine decide_eq_false ?_; first | assumption | omega) | (refine nf ?_; first | assumption | omega) | (simp [*]; done))) | refine skip_then ?_ | refine AW_seq ?_ | refine norm_then ?_ | refine AW_block ?_ | refine norm_block ?_ | refine AW_skip ?_)
      refine next_round (k + 1) (by omega) (weak_st ?_ ?_ rfl rfl) (by omega)
      · (repeat' (first | exact trivial | refine And.intro ?_ ?_)) <;> (first | rfl | skip)
        show AV.i (mostN f (k - 1) : Nat) = AV.i (mostN f k : Nat)
        cases k with
        | zero => omega
        | succ k => rw [mostN, if_neg hv]; rfl
      · trivial
  · have hke : k = sdB B + 1 := by omega
    subst hke
    repeat (first | (refine step_ops ?_; (first | (refine m_mov (by conv => lhs; whnf) ?_) | (refine m_lss rfl rfl ?_))) | refine end_ops ?_ | refine seq_ops ?_ | (refine cond_f rfl ?_ ?_; (· first | rfl | assumption | (refine decide_eq_false ?_; first | assumption | omega) | (refine nf ?_; first | assumption | omega) | (simp [*]; done))) | refine AW_seq ?_ | refine AW_ret ?_ | refine ret_done ?_ | refine norm_then ?_ | refine exit_then ?_ | refine exit_round ?_ | refine AW_exit ?_ | refine exit_block ?_)
    exact outs_i rfl
end Go.Proofs.YtkphjdomdmpinaaDoor
namespace Go.Am
/-- How many of the first n numbers are so. -/
def cntB (p : Nat → Bool) : Nat → Nat
  | 0 => 0
  | n + 1 => cntB p n + if p n then 1 else 0
theorem cntB_congr {p q : Nat → Bool} : ∀ {n}, (∀ i, i < n → p i = q i) → cntB p n = cntB q n
  | 0, _ => rfl
  | n + 1, h => by simp only [cntB]; rw [cntB_congr fun i hi => h i (by omega), h n (by omega)]
theorem cntB_mono {p q : Nat → Bool} : ∀ {n}, (∀ i, i < n → p i = true → q i = true) → cntB p n ≤ cntB q n
  | 0, _ => Nat.le_refl _
  | n + 1, h => by
    have ih := cntB_mono (n := n) fun i hi => h i (by omega)
    have hn := h n (by omega)
    simp only [cntB]
    cases e : p n
    · simp; omega
    · rw [hn e]; simp; omega
theorem cntB_both (p q : Nat → Bool) : ∀ n, cntB (fun i => p i || q i) n + cntB (fun i => p i && q i) n = cntB p n + cntB q n
  | 0 => rfl
  | n + 1 => by
    have := cntB_both p q n
    simp only [cntB]
    by_cases hp : p n = true <;> by_cases hq : q n = true <;> simp [hp, hq] <;> omega
theorem cntB_zero : ∀ n, cntB (fun _ => false) n = 0
  | 0 => rfl
  | n + 1 => by simp only [cntB, cntB_zero n]; rfl
theorem cntB_le (p : Nat → Bool) : ∀ n, cntB p n ≤ n
  | 0 => Nat.le_refl _
  | n + 1 => by have := cntB_le p n; simp only [cntB]; split <;> omega
/-- One more. -/
def withB (p : Nat → Bool) (j : Nat) : Nat → Bool := fun i => p i || decide (i = j)
theorem cntB_with {p : Nat → Bool} {j : Nat} (hp : p j = false) : ∀ {n}, j < n → cntB (withB p j) n = cntB p n + 1
  | 0, h => by omega
  | n + 1, h => by
    simp only [cntB]
    by_cases e : j = n
    · subst e
      rw [cntB_congr (q := p) fun i hi => by simp [withB, show ¬ i = j by omega]]
      simp [withB, hp]
    · rw [cntB_with hp (show j < n by omega)]
      simp only [withB, show ¬ n = j from fun h => e h.symm, decide_false, Bool.or_false]
      omega
theorem cntB_more {p q : Nat → Bool} : ∀ {n}, cntB p n < cntB q n → ∃ i, i < n ∧ q i = true ∧ p i = false
  | 0, h => by simp [cntB] at h
  | n + 1, h => by
    by_cases e : q n = true ∧ p n = false
    · exact ⟨n, by omega, e⟩
    · have : cntB p n < cntB q n := by
        simp only [cntB] at h
        cases hq : q n <;> cases hp : p n <;> simp [hq, hp] at h e <;> omega
      obtain ⟨i, h1, h2⟩ := cntB_more this
      exact ⟨i, by omega, h2⟩
theorem cntB_all {p q : Nat → Bool} {n : Nat} (h : ∀ i, i < n → p i = true → q i = true) (hc : cntB q n ≤ cntB p n) : ∀ i, i < n → q i = true → p i = true := by
  intro i hi hq
  cases hp : p i with
  | true => rfl
  | false =>
    have h1 := cntB_with hp hi
    have h2 := cntB_mono (p := withB p i) (q := q) (n := n) fun k hk hw => by
      simp only [withB, Bool.or_eq_true, decide_eq_true_eq] at hw
      rcases hw with hw | hw
      · exact h k hk hw
      · subst hw; exact hq
    omega
/-- The columns that some rows need, but those that are taken. -/
def nbB (fb : Nat → Nat → Bool) (n S : Nat) (T : Nat → Bool) : Nat → Bool := fun j => (List.range n).any (fun i => T i && fb i j) && !S.testBit j
theorem nbB_iff {fb : Nat → Nat → Bool} {n S : Nat} {T : Nat → Bool} {j : Nat} : nbB fb n S T j = true ↔ (∃ i, i < n ∧ T i = true ∧ fb i j = true) ∧ S.testBit j = false := by
  simp only [nbB, Bool.and_eq_true, List.any_eq_true, List.mem_range, Bool.not_eq_true']
/-- Of the last m rows no rows are too many for their columns, if k rooks are wanted. -/
def hallB (fb : Nat → Nat → Bool) (n m S k : Nat) : Prop := ∀ T : Nat → Bool, (∀ i, T i = true → n - m ≤ i ∧ i < n) → k + cntB T n ≤ m + cntB (nbB fb n S T) n
theorem sumN_pos {f : Nat → Nat} : ∀ {n}, 0 < sumN n f ↔ ∃ j, j < n ∧ 0 < f j
  | 0 => by simp [sumN]
  | n + 1 => by
    have ih := sumN_pos (f := f) (n := n)
    simp only [sumN]
    constructor
    · intro h
      by_cases e : 0 < f n
      · exact ⟨n, by omega, e⟩
      · obtain ⟨j, h1, h2⟩ := ih.1 (by omega)
        exact ⟨j, by omega, h2⟩
    · rintro ⟨j, h1, h2⟩
      by_cases e : j = n
      · subst e; omega
      · have := ih.2 ⟨j, by omega, h2⟩
        omega
/-- A bounded number with a property has a greatest one. -/
theorem exists_most {P : Nat → Prop} (b : Nat) : (∃ x, P x ∧ x ≤ b) → ∃ x, (P x ∧ x ≤ b) ∧ ∀ y, P y → y ≤ b → y ≤ x := by
  induction b with
  | zero => rintro ⟨x, hx, h⟩; exact ⟨x, ⟨hx, h⟩, fun y _ hy => by omega⟩
  | succ b ih =>
    rintro ⟨x, hx, h⟩
    by_cases e : P (b + 1)
    · exact ⟨b + 1, ⟨e, Nat.le_refl _⟩, fun y _ hy => hy⟩
    · have hxb : x ≤ b := by
        rcases Nat.lt_or_ge b x with h2 | h2
        · exact absurd (show P (b + 1) by rw [← show x = b + 1 by omega]; exact hx) e
        · exact h2
      obtain ⟨z, ⟨h1, h2⟩, h3⟩ := ih ⟨x, hx, hxb⟩
      refine ⟨z, ⟨h1, by omega⟩, fun y hy hyb => ?_⟩
      rcases Nat.lt_or_ge b y with h4 | h4
      · exact absurd (show P (b + 1) by rw [← show y = b + 1 by omega]; exact hy) e
      · exact h3 y hy h4
theorem hall_zero (fb : Nat → Nat → Bool) (n S k : Nat) : 0 < rkG fb n 0 S k ↔ hallB fb n 0 S k := by
  simp only [rkG]
  constructor
  · intro h T hT
    have : k = 0 := by
      by_cases e : k = 0
      · exact e
      · rw [if_neg e] at h; omega
    have h0 : cntB T n = 0 := by
      rw [← cntB_zero n]
      refine cntB_congr fun i hi => ?_
      cases e : T i
      · rfl
      · have := hT i e; omega
    omega
  · intro h
    have := h (fun _ => false) (fun i hi => by cases hi)
    have h2 : cntB (nbB fb n S fun _ => false) n = 0 := by
      rw [← cntB_zero n]
      refine cntB_congr fun i _ => ?_
      simp [nbB]
    rw [if_pos (by omega)]; omega
theorem cntB_from (a : Nat) : ∀ n, cntB (fun i => decide (a ≤ i)) n = n - a
  | 0 => by simp [cntB]
  | n + 1 => by
    simp only [cntB, cntB_from a n]
    by_cases h : a ≤ n
    · rw [if_pos (by simp [h])]; omega
    · rw [if_neg (by simp [h])]; omega
theorem cntB_last {T : Nat → Bool} {n m : Nat} (hm : m ≤ n) (hT : ∀ i, T i = true → n - m ≤ i ∧ i < n) : cntB T n ≤ m := by
  have h1 := cntB_mono (p := T) (q := fun i => decide (n - m ≤ i)) (n := n) fun i _ h => decide_eq_true (hT i h).1
  rw [cntB_from] at h1
  omega
theorem nbB_mono {fb : Nat → Nat → Bool} {n S : Nat} {T U : Nat → Bool} (h : ∀ i, i < n → T i = true → U i = true) : ∀ j, j < n → nbB fb n S T j = true → nbB fb n S U j = true := by
  intro j _ hj
  rw [nbB_iff] at hj ⊢
  obtain ⟨⟨i, h1, h2, h3⟩, h4⟩ := hj
  exact ⟨⟨i, h1, h i h1 h2, h3⟩, h4⟩
theorem nbB_ins {fb : Nat → Nat → Bool} {n S j : Nat} {T : Nat → Bool} {c : Nat} : nbB fb n (insC S j) T c = true ↔ nbB fb n S T c = true ∧ c ≠ j := by
  rw [nbB_iff, nbB_iff, insC_bit, Bool.or_eq_false_iff, decide_eq_false_iff_not]
  constructor
  · rintro ⟨h1, h2, h3⟩; exact ⟨⟨h1, h2⟩, fun h => h3 h.symm⟩
  · rintro ⟨⟨h1, h2⟩, h3⟩; exact ⟨h1, h2, fun h => h3 h.symm⟩
theorem rkG_step (fb : Nat → Nat → Bool) (n m S k : Nat) : 0 < rkG fb n (m + 1) S k ↔ 0 < rkG fb n m S k ∨ ∃ j q, j < n ∧ fb (n - (m + 1)) j = true ∧ S.testBit j = false ∧ k = q + 1 ∧ 0 < rkG fb n m (insC S j) q := by
  have e : rkG fb n (m + 1) S k = rkG fb n m S k + sumN n fun j => if fb (n - (m + 1)) j && !S.testBit j then (match k with | 0 => 0 | q + 1 => rkG fb n m (insC S j) q) else 0 := rfl
  rw [e]
  constructor
  · intro h
    by_cases h0 : 0 < rkG fb n m S k
    · exact .inl h0
    · rw [Nat.eq_zero_of_not_pos h0, Nat.zero_add] at h
      obtain ⟨j, h1, h2⟩ := sumN_pos.1 h
      by_cases hc : (fb (n - (m + 1)) j && !S.testBit j) = true
      · rw [if_pos hc] at h2
        rw [Bool.and_eq_true, Bool.not_eq_true'] at hc
        cases k with
        | zero => simp at h2
        | succ q => exact .inr ⟨j, q, h1, hc.1, hc.2, rfl, h2⟩
      · rw [if_neg hc] at h2; omega
  · rintro (h | ⟨j, q, h1, h2, h3, rfl, h4⟩)
    · omega
    · have : 0 < sumN n fun j => if fb (n - (m + 1)) j && !S.testBit j then (match q + 1 with | 0 => 0 | q + 1 => rkG fb n m (insC S j) q) else 0 := by
        refine sumN_pos.2 ⟨j, h1, ?_⟩
        rw [if_pos (by rw [h2, h3]; rfl)]
        exact h4
      omega
/-- So many rooks can be put into the last rows just if no rows are too many for their columns. -/
theorem rook_hall (fb : Nat → Nat → Bool) (n : Nat) : ∀ m, m ≤ n → ∀ S k, 0 < rkG fb n m S k ↔ hallB fb n m S k
  | 0, _ => fun S k => hall_zero fb n S k
  | m + 1, hm => fun S k => by
    have ih := rook_hall fb n m (by omega)
    have hr : n - (m + 1) < n := by omega
    obtain ⟨r, hre⟩ : ∃ r, r = n - (m + 1) := ⟨_, rfl⟩
    rw [rkG_step, ← hre]
    constructor
    · intro h T hT
      -- the rows but the new one
      obtain ⟨T', hT'⟩ : ∃ T' : Nat → Bool, T' = fun i => T i && !decide (i = r) := ⟨_, rfl⟩
      have hsub : ∀ i, i < n → T' i = true → T i = true := fun i _ h => by
        rw [hT', Bool.and_eq_true] at h; exact h.1
      have hlast : ∀ i, T' i = true → n - m ≤ i ∧ i < n := fun i h => by
        rw [hT', Bool.and_eq_true, Bool.not_eq_true', decide_eq_false_iff_not] at h
        have := hT i h.1
        omega
      have hr' : T' r = false := by rw [hT']; simp
      have hcnt : cntB T n ≤ cntB T' n + 1 ∧ (T r = false → cntB T n ≤ cntB T' n) := by
        have h1 := cntB_with hr' (show r < n by omega)
        have h2 := cntB_mono (p := T) (q := withB T' r) (n := n) fun i _ h => by
          simp only [withB, hT', Bool.or_eq_true, Bool.and_eq_true, Bool.not_eq_true', decide_eq_false_iff_not, decide_eq_true_eq]
          by_cases e : i = r
          · exact .inr e
          · exact .inl ⟨h, e⟩
        refine ⟨by omega, fun h => cntB_mono fun i _ hi => ?_⟩
        rw [hT', Bool.and_eq_true, Bool.not_eq_true', decide_eq_false_iff_not]
        exact ⟨hi, fun e => by subst e; rw [h] at hi; cases hi⟩
      rcases h with h | ⟨j, q, h1, h2, h3, rfl, h4⟩
      · have h5 := (ih S k).1 h T' hlast
        have h6 := cntB_mono (nbB_mono (fb := fb) (S := S) hsub)
        omega
      · have h5 := (ih (insC S j) q).1 h4 T' hlast
        have h6 : cntB (nbB fb n (insC S j) T') n ≤ cntB (nbB fb n S T) n := cntB_mono fun c hc hcb => nbB_mono hsub c hc (nbB_ins.1 hcb).1
        cases hTr : T r with
        | false =>
          have := hcnt.2 hTr
          omega
        | true =>
          have hj0 : nbB fb n (insC S j) T' j = false := by
            cases e : nbB fb n (insC S j) T' j with
            | false => rfl
            | true => exact absurd rfl (nbB_ins.1 e).2
          have h7 := cntB_with hj0 h1
          have h8 := cntB_mono (p := withB (nbB fb n (insC S j) T') j) (q := nbB fb n S T) (n := n) fun c hc hcb => by
            simp only [withB, Bool.or_eq_true, decide_eq_true_eq] at hcb
            rcases hcb with hcb | hcb
            · exact nbB_mono hsub c hc (nbB_ins.1 hcb).1
            · subst hcb
              exact nbB_iff.2 ⟨⟨r, by omega, hTr, h2⟩, h3⟩
          have := hcnt.1
          omega
    · intro H
      by_cases h0 : hallB fb n m S k
      · exact .inl ((ih S k).2 h0)
      · refine .inr ?_
        -- rows that are too many without the new one
        obtain ⟨P, hP⟩ : ∃ P : Nat → Prop, P = fun x => ∃ T : Nat → Bool, (∀ i, T i = true → n - m ≤ i ∧ i < n) ∧ k + cntB T n = m + 1 + cntB (nbB fb n S T) n ∧ cntB T n = x := ⟨_, rfl⟩
        have hH : ∀ T : Nat → Bool, (∀ i, T i = true → n - m ≤ i ∧ i < n) → k + cntB T n ≤ m + 1 + cntB (nbB fb n S T) n := fun T hT => H T fun i hi => by have := hT i hi; omega
        have hex : ∃ x, P x ∧ x ≤ n := by
          have : ∃ T : Nat → Bool, (∀ i, T i = true → n - m ≤ i ∧ i < n) ∧ ¬ k + cntB T n ≤ m + cntB (nbB fb n S T) n := by
            refine Classical.byContradiction fun hno => h0 fun T hT => ?_
            exact Classical.byContradiction fun hn => hno ⟨T, hT, hn⟩
          obtain ⟨T, hT, hn⟩ := this
          refine ⟨cntB T n, ?_, cntB_le T n⟩
          rw [hP]
          exact ⟨T, hT, by have := hH T hT; omega, rfl⟩
        obtain ⟨x, ⟨hx, _⟩, hmax⟩ := exists_most n hex
        rw [hP] at hx
        obtain ⟨U, hU, htight, hUx⟩ := hx
        have hUm := cntB_last (show m ≤ n by omega) hU
        have hUr : U r = false := by
          cases e : U r with
          | false => rfl
          | true => have := hU r e; omega
        have h1 := H (withB U r) fun i hi => by
          simp only [withB, Bool.or_eq_true, decide_eq_true_eq] at hi
          rcases hi with hi | hi
          · have := hU i hi; omega
          · omega
        rw [cntB_with hUr (by omega)] at h1
        obtain ⟨j, hj, hjy, hjn⟩ := cntB_more (show cntB (nbB fb n S U) n < cntB (nbB fb n S (withB U r)) n by omega)
        rw [nbB_iff] at hjy
        obtain ⟨⟨i, hi, hiT, hif⟩, hjS⟩ := hjy
        have hir : i = r := by
          simp only [withB, Bool.or_eq_true, decide_eq_true_eq] at hiT
          rcases hiT with h | h
          · exact absurd (nbB_iff.2 ⟨⟨i, hi, h, hif⟩, hjS⟩) (by rw [hjn]; decide)
          · exact h
        subst hir
        refine ⟨j, k - 1, hj, hif, hjS, by omega, (ih _ _).2 fun T hT => ?_⟩
        have hTH := hH T hT
        have hsub : ∀ c, c < n → nbB fb n (insC S j) T c = true → nbB fb n S T c = true := fun c _ h => (nbB_ins.1 h).1
        cases hjT : nbB fb n S T j with
        | false =>
          have : cntB (nbB fb n S T) n ≤ cntB (nbB fb n (insC S j) T) n := cntB_mono fun c _ h => nbB_ins.2 ⟨h, fun e => by subst e; rw [hjT] at h; cases h⟩
          omega
        | true =>
          have hj0 : nbB fb n (insC S j) T j = false := by
            cases e : nbB fb n (insC S j) T j with
            | false => rfl
            | true => exact absurd rfl (nbB_ins.1 e).2
          have h2 := cntB_with hj0 hj
          have h3 := cntB_mono (p := nbB fb n S T) (q := withB (nbB fb n (insC S j) T) j) (n := n) fun c _ h => by
            simp only [withB, Bool.or_eq_true, decide_eq_true_eq]
            by_cases e : c = j
            · exact .inr e
            · exact .inl (nbB_ins.2 ⟨h, e⟩)
          by_cases ht : k + cntB T n = m + 1 + cntB (nbB fb n S T) n
          · exfalso
            have hb := cntB_both T U n
            have ho := hH (fun i => T i || U i) fun i hi => by
              rw [Bool.or_eq_true] at hi
              rcases hi with hi | hi
              · exact hT i hi
              · exact hU i hi
            have ha := hH (fun i => T i && U i) fun i hi => by
              rw [Bool.and_eq_true] at hi
              exact hT i hi.1
            have hnb := cntB_both (nbB fb n S T) (nbB fb n S U) n
            have hn1 : cntB (nbB fb n S fun i => T i || U i) n ≤ cntB (fun c => nbB fb n S T c || nbB fb n S U c) n := cntB_mono fun c _ h => by
              rw [nbB_iff] at h
              obtain ⟨⟨i, k1, k2, k3⟩, k4⟩ := h
              rw [Bool.or_eq_true] at k2 ⊢
              rcases k2 with k2 | k2
              · exact .inl (nbB_iff.2 ⟨⟨i, k1, k2, k3⟩, k4⟩)
              · exact .inr (nbB_iff.2 ⟨⟨i, k1, k2, k3⟩, k4⟩)
            have hn2 : cntB (nbB fb n S fun i => T i && U i) n ≤ cntB (fun c => nbB fb n S T c && nbB fb n S U c) n := cntB_mono fun c _ h => by
              rw [nbB_iff] at h
              obtain ⟨⟨i, k1, k2, k3⟩, k4⟩ := h
              rw [Bool.and_eq_true] at k2
              rw [Bool.and_eq_true]
              exact ⟨nbB_iff.2 ⟨⟨i, k1, k2.1, k3⟩, k4⟩, nbB_iff.2 ⟨⟨i, k1, k2.2, k3⟩, k4⟩⟩
            have hPu : P (cntB (fun i => T i || U i) n) := by
              rw [hP]
              refine ⟨fun i => T i || U i, fun i hi => ?_, by omega, rfl⟩
              rw [Bool.or_eq_true] at hi
              rcases hi with hi | hi
              · exact hT i hi
              · exact hU i hi
            have hle := hmax _ hPu (cntB_le _ n)
            have hTU := cntB_all (p := U) (q := fun i => T i || U i) (n := n) (fun i _ h => by rw [h, Bool.or_true]) (by omega)
            have := nbB_mono (fb := fb) (S := S) (T := T) (U := U) (fun i hi h => hTU i hi (by rw [h, Bool.true_or])) j hj hjT
            rw [hjn] at this
            cases this
          · omega
end Go.Am
namespace Go.Am
/-- How many lines there are with some rows and the columns that the others need. -/
def linesB (fb : Nat → Nat → Bool) (n : Nat) (A : Nat → Bool) : Nat := cntB A n + cntB (nbB fb n 0 fun i => !A i) n
theorem cntB_not (p : Nat → Bool) : ∀ n, cntB (fun i => !p i) n + cntB p n = n
  | 0 => rfl
  | n + 1 => by
    have := cntB_not p n
    simp only [cntB]
    by_cases h : p n = true <;> simp [h] <;> omega
theorem nbB_congr {fb : Nat → Nat → Bool} {n S : Nat} {T U : Nat → Bool} (h : ∀ i, i < n → T i = U i) : ∀ j, j < n → nbB fb n S T j = nbB fb n S U j := by
  intro j hj
  have h1 := nbB_mono (fb := fb) (S := S) (T := T) (U := U) (fun i hi e => by rw [← h i hi]; exact e) j hj
  have h2 := nbB_mono (fb := fb) (S := S) (T := U) (U := T) (fun i hi e => by rw [h i hi]; exact e) j hj
  cases e1 : nbB fb n S T j <;> cases e2 : nbB fb n S U j <;> simp_all
theorem rk_lines (fb : Nat → Nat → Bool) (n k : Nat) : 0 < rkN fb n k ↔ ∀ A : Nat → Bool, k ≤ linesB fb n A := by
  unfold rkN
  rw [rook_hall fb n n (Nat.le_refl _)]
  constructor
  · intro h A
    have h1 := h (fun i => !A i && decide (i < n)) fun i hi => by
      rw [Bool.and_eq_true, decide_eq_true_eq] at hi
      omega
    rw [cntB_congr (q := fun i => !A i) (n := n) fun i hi => by simp [hi],
      cntB_congr (q := nbB fb n 0 fun i => !A i) (n := n) fun j hj => nbB_congr (fun i hi => by simp [hi]) j hj] at h1
    have h2 := cntB_not A n
    unfold linesB
    omega
  · intro h T hT
    have h1 := h fun i => !T i
    unfold linesB at h1
    rw [cntB_congr (p := nbB fb n 0 fun i => !!T i) (q := nbB fb n 0 T) (n := n) fun j hj => nbB_congr (fun i _ => by simp) j hj] at h1
    have h2 := cntB_not T n
    omega
/-- The greatest number of rooks, among the numbers to n. -/
theorem most_lines {fb : Nat → Nat → Bool} {n M : Nat} (h1 : 0 < rkN fb n M) (h2 : ∀ k, M < k → k ≤ n → ¬ 0 < rkN fb n k) : (∀ A : Nat → Bool, M ≤ linesB fb n A) ∧ ∃ A : Nat → Bool, linesB fb n A = M := by
  have hM := (rk_lines fb n M).1 h1
  refine ⟨hM, Classical.byContradiction fun hno => ?_⟩
  have hall : ∀ A : Nat → Bool, M + 1 ≤ linesB fb n A := fun A => by
    have := hM A
    rcases Nat.lt_or_ge M (linesB fb n A) with h | h
    · exact h
    · exact absurd ⟨A, by omega⟩ hno
  have hp := (rk_lines fb n (M + 1)).2 hall
  have hn : M + 1 ≤ n := by
    have := hall fun _ => true
    unfold linesB at this
    have h3 := cntB_le (fun _ => true) n
    have h4 : cntB (nbB fb n 0 fun i => !(fun _ : Nat => true) i) n = 0 := by
      rw [← cntB_zero n]
      exact cntB_congr fun j _ => by simp [nbB]
    omega
  exact h2 (M + 1) (by omega) hn hp
end Go.Am
namespace Go.Proofs.YtkphjdomdmpinaaDoor
open Go.Am
attribute [local irreducible] AW Outs Weak Lends Lend Sp aops atree aop1 Then Round InBlock Done
attribute [local irreducible] SpH SpX DoneH DoneX
/-- The order of two lists: -1, 0, 1. -/
def ordC : List Int → List Int → Int
  | [], [] => 0
  | [], _ :: _ => -1
  | _ :: _, [] => 1
  | x :: a, y :: b => if x < y then -1 else if y < x then 1 else ordC a b
theorem ordC_step {a b : List Int} {i : Nat} (h1 : i < a.length) (h2 : i < b.length) : ordC (a.drop i) (b.drop i) = if a.getD i 0 < b.getD i 0 then -1 else if b.getD i 0 < a.getD i 0 then 1 else ordC (a.drop (i + 1)) (b.drop (i + 1)) := by
  rw [List.drop_eq_getElem_cons h1, List.drop_eq_getElem_cons h2]
  simp [ordC, h1, h2]
theorem ordC_right {a b : List Int} {i : Nat} (h1 : i < a.length) (h2 : b.length ≤ i) : ordC (a.drop i) (b.drop i) = 1 := by
  rw [List.drop_eq_getElem_cons h1, List.drop_of_length_le h2]
  rfl
theorem ordC_end {a b : List Int} {i : Nat} (h1 : a.length ≤ i) : ordC (a.drop i) (b.drop i) = if i < b.length then -1 else 0 := by
  rw [List.drop_of_length_le h1]
  by_cases h : i < b.length
  · rw [List.drop_eq_getElem_cons h, if_pos h]; rfl
  · rw [List.drop_of_length_le (by omega), if_neg h]; rfl
theorem isNaN_spec (a : Int) : Sp Tryd.prog 73 [.i a] (.b false) := by
  refine spec_of Tryd.func73 rfl cc73 rfl ?_
  unfold ac73
  repeat (first | (refine step_ops ?_; (first | (refine m_mov (by conv => lhs; whnf) ?_) | (refine m_neq rfl rfl ?_))) | refine end_ops ?_ | refine seq_ops ?_ | refine AW_ret ?_ | refine ret_done ?_)
  exact outs_b (by simp)
theorem cmpCompare_spec (a b : Int) : Sp Tryd.prog 63 [.i a, .i b] (.i (if a < b then -1 else if b < a then 1 else 0)) := by
  refine spec_of Tryd.func63 rfl cc63 rfl ?_
  unfold ac63
  by_cases h1 : a < b
  · repeat (first | (refine step_ops ?_; (refine m_mov (by conv => lhs; whnf) ?_)) | refine end_ops ?_ | refine seq_ops ?_)
    (refine step_ops ?_); (apply m_call (isNaN_spec a)); (· repeat (first | exact lends_nil | (refine lends_cons ?_ ?_; (· exact lend_v))))
    repeat (first | (refine step_ops ?_; (refine m_mov (by conv => lhs; whnf) ?_)) | refine end_ops ?_ | refine seq_ops ?_)
    (refine step_ops ?_); (apply m_call (isNaN_spec b)); (· repeat (first | exact lends_nil | (refine lends_cons ?_ ?_; (· exact lend_v))))
    repeat (first | (refine step_ops ?_; (first | (refine m_mov (by conv => lhs; whnf) ?_) | (refine m_lss rfl rfl ?_))) | refine end_ops ?_ | refine seq_ops ?_ | (refine cond_t rfl ?_ ?_; (· first | rfl | assumption | (refine decide_eq_true ?_; first | assumption | omega) | (refine nt ?_; first | assumption | omega) | (simp [*]; done))) | (refine cond_f rfl ?_ ?_; (· first | rfl | assumption | (refine decide_eq_false ?_; first | assumption | omega) | (refine nf ?_; first | assumption | omega) | (simp [*]; done))) | refine skip_then ?_ | refine AW_seq ?_ | refine AW_ret ?_ | refine ret_done ?_ | refine ret_then ?_)
    exact outs_i (by rw [if_pos h1])
  · by_cases h2 : b < a
    · have h3 : a > b := h2
      repeat (first | (refine step_ops ?_; (refine m_mov (by conv => lhs; whnf) ?_)) | refine end_ops ?_ | refine seq_ops ?_)
      (refine step_ops ?_); (apply m_call (isNaN_spec a)); (· repeat (first | exact lends_nil | (refine lends_cons ?_ ?_; (· exact lend_v))))
      repeat (first | (refine step_ops ?_; (refine m_mov (by conv => lhs; whnf) ?_)) | refine end_ops ?_ | refine seq_ops ?_)
      (refine step_ops ?_); (apply m_call (isNaN_spec b)); (· repeat (first | exact lends_nil | (refine lends_cons ?_ ?_; (· exact lend_v))))
      repeat (first | (refine step_ops ?_; (first | (refine m_mov (by conv => lhs; whnf) ?_) | (refine m_lss rfl rfl ?_) | (refine m_gtr rfl rfl ?_))) | refine end_ops ?_ | refine seq_ops ?_ | (refine cond_t rfl ?_ ?_; (· first | rfl | assumption | (refine decide_eq_true ?_; first | assumption | omega) | (refine nt ?_; first | assumption | omega) | (simp [*]; done))) | (refine cond_f rfl ?_ ?_; (· first | rfl | assumption | (refine decide_eq_false ?_; first | assumption | omega) | (refine nf ?_; first | assumption | omega) | (simp [*]; done))) | refine skip_then ?_ | refine AW_seq ?_ | refine AW_ret ?_ | refine ret_done ?_ | refine ret_then ?_)
      exact outs_i (by rw [if_neg h1, if_pos h2])
    · have h3 : ¬ a > b := h2
      repeat (first | (refine step_ops ?_; (refine m_mov (by conv => lhs; whnf) ?_)) | refine end_ops ?_ | refine seq_ops ?_)
      (refine step_ops ?_); (apply m_call (isNaN_spec a)); (· repeat (first | exact lends_nil | (refine lends_cons ?_ ?_; (· exact lend_v))))
      repeat (first | (refine step_ops ?_; (refine m_mov (by conv => lhs; whnf) ?_)) | refine end_ops ?_ | refine seq_ops ?_)
      (refine step_ops ?_); (apply m_call (isNaN_spec b)); (· repeat (first | exact lends_nil | (refine lends_cons ?_ ?_; (· exact lend_v))))
      repeat (first | (refine step_ops ?_; (first | (refine m_mov (by conv => lhs; whnf) ?_) | (refine m_lss rfl rfl ?_) | (refine m_gtr rfl rfl ?_))) | refine end_ops ?_ | refine seq_ops ?_ | (refine cond_f rfl ?_ ?_; (· first | rfl | assumption | (refine decide_eq_false ?_; first | assumption | omega) | (refine nf ?_; first | assumption | omega) | (simp [*]; done))) | refine skip_then ?_ | refine AW_seq ?_ | refine AW_ret ?_ | refine ret_done ?_)
      exact outs_i (by rw [if_neg h1, if_neg h2])
theorem slicesCompare_spec (a b : List Int) (ha : a.length ≤ 1048576) (_hb : b.length ≤ 1048576) : Sp Tryd.prog 65 [ints a, ints b] (.i (ordC a b)) := by
  have h0 : ordC (a.drop 0) (b.drop 0) = ordC a b := rfl
  generalize ordC a b = T at h0 ⊢
  refine spec_of Tryd.func65 rfl cc65 rfl ?_
  unfold ac65
  repeat (first | (refine step_ops ?_; (first | (refine m_mov (by conv => lhs; whnf) ?_) | (refine m_len_ro rfl ?_))) | refine end_ops ?_ | refine seq_ops ?_ | refine AW_seq ?_ | refine AW_block ?_)
  refine AW_loop (α := Nat) (fun k => k ≤ a.length ∧ (k ≤ b.length) ∧ ordC (a.drop k) (b.drop k) = T) (fun k => st [(0, ints a), (1, ints b), (9, ints a), (10, .i a.length), (11, .i k)] []) (fun k => a.length - k) 0 ⟨Nat.zero_le _, Nat.zero_le _, h0⟩ (weak_st ?_ ?_ rfl rfl) ?_
  · (repeat' (first | exact trivial | refine And.intro ?_ ?_)) <;> (first | rfl | skip)
  · trivial
  rintro k ⟨hk, hkb, he⟩
  by_cases hc : k < a.length
  · by_cases hc2 : k < b.length
    · rw [ordC_step hc hc2] at he
      by_cases hx : a.getD k 0 = b.getD k 0
      · rw [if_neg (by omega), if_neg (by omega)] at he
        repeat (first | (refine step_ops ?_; (first | (refine m_mov (by conv => lhs; whnf) ?_) | (refine m_lss rfl rfl ?_) | (refine m_geq rfl rfl ?_) | (refine m_len_ro rfl ?_) | (refine m_idx1_ro rfl rfl ?_ ?_; (· omega)) | (refine m_ld_rpi rfl ?_ ?_; (· omega)))) | refine end_ops ?_ | refine seq_ops ?_ | (refine cond_t rfl ?_ ?_; (· first | rfl | assumption | (refine decide_eq_true ?_; first | assumption | omega) | (refine nt ?_; first | assumption | omega) | (simp [*]; done))) | (refine cond_f rfl ?_ ?_; (· first | rfl | assumption | (refine decide_eq_false ?_; first | assumption | omega) | (refine nf ?_; first | assumption | omega) | (simp [*]; done))) | refine skip_then ?_ | refine AW_seq ?_ | refine AW_block ?_)
        (refine step_ops ?_); (apply m_call (cmpCompare_spec (a.getD k 0) (b.getD k 0))); (· repeat (first | exact lends_nil | (refine lends_cons ?_ ?_; (· exact lend_v))))
        rw [if_neg (show ¬ a.getD k 0 < b.getD k 0 by omega), if_neg (show ¬ b.getD k 0 < a.getD k 0 by omega)]
        repeat (first | (refine step_ops ?_; (first | (refine m_mov (by conv => lhs; whnf) ?_) | (refine m_neq rfl rfl ?_) | (refine m_add rfl rfl ?_ ?_ ?_; (· omega); (· omega)))) | refine end_ops ?_ | refine seq_ops ?_ | refine AW_ops ?_ | (refine cond_f rfl ?_ ?_; (· first | rfl | assumption | (refine decide_eq_false ?_; first | assumption | omega) | (refine nf ?_; first | assumption | omega) | (simp [*]; done))) | refine norm_then ?_ | refine norm_block ?_ | refine AW_skip ?_)
        refine next_round (k + 1) ⟨hc, hc2, he⟩ (weak_st ?_ ?_ rfl rfl) ?_
        · (repeat' (first | exact trivial | refine And.intro ?_ ?_)) <;> (first | rfl | skip)
        · trivial
        · omega
      · by_cases hlt : a.getD k 0 < b.getD k 0
        · rw [if_pos hlt] at he
          subst he
          repeat (first | (refine step_ops ?_; (first | (refine m_mov (by conv => lhs; whnf) ?_) | (refine m_lss rfl rfl ?_) | (refine m_geq rfl rfl ?_) | (refine m_len_ro rfl ?_) | (refine m_idx1_ro rfl rfl ?_ ?_; (· omega)) | (refine m_ld_rpi rfl ?_ ?_; (· omega)))) | refine end_ops ?_ | refine seq_ops ?_ | (refine cond_t rfl ?_ ?_; (· first | rfl | assumption | (refine decide_eq_true ?_; first | assumption | omega) | (refine nt ?_; first | assumption | omega) | (simp [*]; done))) | (refine cond_f rfl ?_ ?_; (· first | rfl | assumption | (refine decide_eq_false ?_; first | assumption | omega) | (refine nf ?_; first | assumption | omega) | (simp [*]; done))) | refine skip_then ?_ | refine AW_seq ?_ | refine AW_block ?_)
          (refine step_ops ?_); (apply m_call (cmpCompare_spec (a.getD k 0) (b.getD k 0))); (· repeat (first | exact lends_nil | (refine lends_cons ?_ ?_; (· exact lend_v))))
          rw [if_pos hlt]
          repeat (first | (refine step_ops ?_; (first | (refine m_mov (by conv => lhs; whnf) ?_) | (refine m_neq rfl rfl ?_))) | refine end_ops ?_ | refine seq_ops ?_ | (refine cond_t rfl ?_ ?_; (· first | rfl | assumption | (refine decide_eq_true ?_; first | assumption | omega) | (refine nt ?_; first | assumption | omega) | (simp [*]; done))) | refine AW_ret ?_ | refine ret_done ?_ | refine ret_then ?_ | refine ret_block ?_ | refine ret_round ?_)
          exact outs_i rfl
        · rw [if_neg hlt, if_pos (by omega)] at he
          subst he
          repeat (first | (refine step_ops ?_; (first | (refine m_mov (by conv => lhs; whnf) ?_) | (refine m_lss rfl rfl ?_) | (refine m_geq rfl rfl ?_) | (refine m_len_ro rfl ?_) | (refine m_idx1_ro rfl rfl ?_ ?_; (· omega)) | (refine m_ld_rpi rfl ?_ ?_; (· omega)))) | refine end_ops ?_ | refine seq_ops ?_ | (refine cond_t rfl ?_ ?_; (· first | rfl | assumption | (refine decide_eq_true ?_; first | assumption | omega) | (refine nt ?_; first | assumption | omega) | (simp [*]; done))) | (refine cond_f rfl ?_ ?_; (· first | rfl | assumption | (refine decide_eq_false ?_; first | assumption | omega) | (refine nf ?_; first | assumption | omega) | (simp [*]; done))) | refine skip_then ?_ | refine AW_seq ?_ | refine AW_block ?_)
          (refine step_ops ?_); (apply m_call (cmpCompare_spec (a.getD k 0) (b.getD k 0))); (· repeat (first | exact lends_nil | (refine lends_cons ?_ ?_; (· exact lend_v))))
          rw [if_neg hlt, if_pos (show b.getD k 0 < a.getD k 0 by omega)]
          repeat (first | (refine step_ops ?_; (first | (refine m_mov (by conv => lhs; whnf) ?_) | (refine m_neq rfl rfl ?_))) | refine end_ops ?_ | refine seq_ops ?_ | (refine cond_t rfl ?_ ?_; (· first | rfl | assumption | (refine decide_eq_true ?_; first | assumption | omega) | (refine nt ?_; first | assumption | omega) | (simp [*]; done))) | refine AW_ret ?_ | refine ret_done ?_ | refine ret_then ?_ | refine ret_block ?_ | refine ret_round ?_)
          exact outs_i rfl
    · rw [ordC_right hc (by omega)] at he
      subst he
      repeat (first | (refine step_ops ?_; (first | (refine m_mov (by conv => lhs; whnf) ?_) | (refine m_lss rfl rfl ?_) | (refine m_geq rfl rfl ?_) | (refine m_len_ro rfl ?_) | (refine m_idx1_ro rfl rfl ?_ ?_; (· omega)) | (refine m_ld_rpi rfl ?_ ?_; (· omega)))) | refine end_ops ?_ | refine seq_ops ?_ | (refine cond_t rfl ?_ ?_; (· first | rfl | assumption | (refine decide_eq_true ?_; first | assumption | omega) | (refine nt ?_; first | assumption | omega) | (simp [*]; done))) | refine skip_then ?_ | refine AW_seq ?_ | refine AW_ret ?_ | refine ret_done ?_ | refine ret_then ?_ | refine AW_block ?_ | refine ret_block ?_ | refine ret_round ?_)
      exact outs_i rfl
  · rw [ordC_end (by omega)] at he
    by_cases hl : k < b.length
    · rw [if_pos hl] at he
      subst he
      have : a.length < b.length := by omega
      repeat (first | (refine step_ops ?_; (first | (refine m_mov (by conv => lhs; whnf) ?_) | (refine m_lss rfl rfl ?_) | (refine m_len_ro rfl ?_))) | refine end_ops ?_ | refine seq_ops ?_ | (refine cond_t rfl ?_ ?_; (· first | rfl | assumption | (refine decide_eq_true ?_; first | assumption | omega) | (refine nt ?_; first | assumption | omega) | (simp [*]; done))) | (refine cond_f rfl ?_ ?_; (· first | rfl | assumption | (refine decide_eq_false ?_; first | assumption | omega) | (refine nf ?_; first | assumption | omega) | (simp [*]; done))) | refine AW_seq ?_ | refine AW_ret ?_ | refine ret_done ?_ | refine norm_then ?_ | refine ret_then ?_ | refine exit_then ?_ | refine exit_round ?_ | refine AW_exit ?_ | refine exit_block ?_)
      exact outs_i rfl
    · rw [if_neg hl] at he
      subst he
      have : ¬ a.length < b.length := by omega
      repeat (first | (refine step_ops ?_; (first | (refine m_mov (by conv => lhs; whnf) ?_) | (refine m_lss rfl rfl ?_) | (refine m_len_ro rfl ?_))) | refine end_ops ?_ | refine seq_ops ?_ | (refine cond_f rfl ?_ ?_; (· first | rfl | assumption | (refine decide_eq_false ?_; first | assumption | omega) | (refine nf ?_; first | assumption | omega) | (simp [*]; done))) | refine skip_then ?_ | refine AW_seq ?_ | refine AW_ret ?_ | refine ret_done ?_ | refine norm_then ?_ | refine exit_then ?_ | refine exit_round ?_ | refine AW_exit ?_ | refine exit_block ?_)
      exact outs_i rfl
theorem cmpOr_spec (x y : Int) : Sp Tryd.prog 62 [ints [x, y]] (.i (if x ≠ 0 then x else y)) := by
  refine spec_of Tryd.func62 rfl cc62 rfl ?_
  unfold ac62
  repeat (first | (refine step_ops ?_; (first | (refine m_mov (by conv => lhs; whnf) ?_) | (refine m_len_ro rfl ?_))) | refine end_ops ?_ | refine seq_ops ?_ | refine AW_seq ?_ | refine AW_block ?_)
  refine AW_loop (α := Nat) (fun k => k ≤ 2 ∧ (1 ≤ k → x = 0) ∧ (2 ≤ k → y = 0)) (fun k => st [(3, .i 0), (6, ints [x, y]), (7, .i 2), (8, .i k)] []) (fun k => 2 - k) 0 ⟨by omega, fun h => by omega, fun h => by omega⟩ (weak_st ?_ ?_ rfl rfl) ?_
  · (repeat' (first | exact trivial | refine And.intro ?_ ?_)) <;> (first | rfl | skip)
  · trivial
  rintro k ⟨hk, hx, hy⟩
  have hlen : ([x, y] : List Int).length = 2 := rfl
  by_cases h0 : k = 0
  · subst h0
    by_cases hx0 : x = 0
    · subst hx0
      repeat (first | (refine step_ops ?_; (first | (refine m_mov (by conv => lhs; whnf) ?_) | (refine m_lss rfl rfl ?_) | (refine m_neq rfl rfl ?_) | (refine m_add rfl rfl ?_ ?_ ?_; (· omega); (· omega)) | (refine m_idx1_ro rfl rfl ?_ ?_; (· omega)) | (refine m_ld_rpi rfl ?_ ?_; (· omega)))) | refine end_ops ?_ | refine seq_ops ?_ | refine AW_ops ?_ | (refine cond_t rfl ?_ ?_; (· first | rfl | assumption | (refine decide_eq_true ?_; first | assumption | omega) | (refine nt ?_; first | assumption | omega) | (simp [*]; done))) | (refine cond_f rfl ?_ ?_; (· first | rfl | assumption | (refine decide_eq_false ?_; first | assumption | omega) | (refine nf ?_; first | assumption | omega) | (simp [*]; done))) | refine skip_then ?_ | refine AW_seq ?_ | refine norm_then ?_ | refine AW_block ?_ | refine norm_block ?_ | refine AW_skip ?_)
      refine next_round 1 ⟨by omega, fun _ => rfl, fun h => by omega⟩ (weak_st ?_ ?_ rfl rfl) ?_
      · (repeat' (first | exact trivial | refine And.intro ?_ ?_)) <;> (first | rfl | skip)
      · trivial
      · omega
    · repeat (first | (refine step_ops ?_; (first | (refine m_mov (by conv => lhs; whnf) ?_) | (refine m_lss rfl rfl ?_) | (refine m_neq rfl rfl ?_) | (refine m_idx1_ro rfl rfl ?_ ?_; (· omega)) | (refine m_ld_rpi rfl ?_ ?_; (· omega)))) | refine end_ops ?_ | refine seq_ops ?_ | (refine cond_t rfl ?_ ?_; (· first | rfl | assumption | (refine decide_eq_true ?_; first | assumption | omega) | (refine nt ?_; first | assumption | omega) | (simp [*]; done))) | refine skip_then ?_ | refine AW_seq ?_ | refine AW_ret ?_ | refine ret_done ?_ | refine ret_then ?_ | refine AW_block ?_ | refine ret_block ?_ | refine ret_round ?_)
      exact outs_i (by rw [if_pos hx0]; rfl)
  · by_cases h1 : k = 1
    · subst h1
      have hx0 := hx (by omega)
      subst hx0
      by_cases hy0 : y = 0
      · subst hy0
        repeat (first | (refine step_ops ?_; (first | (refine m_mov (by conv => lhs; whnf) ?_) | (refine m_lss rfl rfl ?_) | (refine m_neq rfl rfl ?_) | (refine m_add rfl rfl ?_ ?_ ?_; (· omega); (· omega)) | (refine m_idx1_ro rfl rfl ?_ ?_; (· omega)) | (refine m_ld_rpi rfl ?_ ?_; (· omega)))) | refine end_ops ?_ | refine seq_ops ?_ | refine AW_ops ?_ | (refine cond_t rfl ?_ ?_; (· first | rfl | assumption | (refine decide_eq_true ?_; first | assumption | omega) | (refine nt ?_; first | assumption | omega) | (simp [*]; done))) | (refine cond_f rfl ?_ ?_; (· first | rfl | assumption | (refine decide_eq_false ?_; first | assumption | omega) | (refine nf ?_; first | assumption | omega) | (simp [*]; done))) | refine skip_then ?_ | refine AW_seq ?_ | refine norm_then ?_ | refine AW_block ?_ | refine norm_block ?_ | refine AW_skip ?_)
        refine next_round 2 ⟨by omega, fun _ => rfl, fun _ => rfl⟩ (weak_st ?_ ?_ rfl rfl) ?_
        · (repeat' (first | exact trivial | refine And.intro ?_ ?_)) <;> (first | rfl | skip)
        · trivial
        · omega
      · repeat (first | (refine step_ops ?_; (first | (refine m_mov (by conv => lhs; whnf) ?_) | (refine m_lss rfl rfl ?_) | (refine m_neq rfl rfl ?_) | (refine m_idx1_ro rfl rfl ?_ ?_; (· omega)) | (refine m_ld_rpi rfl ?_ ?_; (· omega)))) | refine end_ops ?_ | refine seq_ops ?_ | (refine cond_t rfl ?_ ?_; (· first | rfl | assumption | (refine decide_eq_true ?_; first | assumption | omega) | (refine nt ?_; first | assumption | omega) | (simp [*]; done))) | refine skip_then ?_ | refine AW_seq ?_ | refine AW_ret ?_ | refine ret_done ?_ | refine ret_then ?_ | refine AW_block ?_ | refine ret_block ?_ | refine ret_round ?_)
        exact outs_i (by simp)
    · obtain rfl : k = 2 := by omega
      have hx0 := hx (by omega)
      have hy0 := hy (by omega)
      subst hx0 hy0
      repeat (first | (refine step_ops ?_; (first | (refine m_mov (by conv => lhs; whnf) ?_) | (refine m_lss rfl rfl ?_))) | refine end_ops ?_ | refine seq_ops ?_ | (refine cond_f rfl ?_ ?_; (· first | rfl | assumption | (refine decide_eq_false ?_; first | assumption | omega) | (refine nf ?_; first | assumption | omega) | (simp [*]; done))) | refine AW_seq ?_ | refine AW_ret ?_ | refine ret_done ?_ | refine norm_then ?_ | refine exit_then ?_ | refine exit_round ?_ | refine AW_exit ?_ | refine exit_block ?_)
      exact outs_i (by simp)
/-- The members of a set below k, in order. -/
def memL (S k : Nat) : List Int := ((List.range k).filter fun i => S.testBit i).map fun i => ((i : Nat) : Int)
theorem memL_succ (S k : Nat) : memL S (k + 1) = if S.testBit k = true then memL S k ++ [((k : Nat) : Int)] else memL S k := by
  unfold memL
  rw [List.range_succ, List.filter_append, List.map_append]
  by_cases h : S.testBit k = true
  · rw [if_pos h, List.filter_cons_of_pos (by simpa using h)]; rfl
  · rw [if_neg h, List.filter_cons_of_neg (by simpa using h)]; simp
theorem memL_len (S k : Nat) : (memL S k).length ≤ k := by
  unfold memL
  rw [List.length_map]
  exact Nat.le_trans (List.length_filter_le ..) (by simp)
theorem setNumbers_spec (S : Nat) (hS : S < 65536) : Sp Tryd.prog 44 [.u S] (newInts (memL S 12)) := by
  refine spec_of Tryd.func44 rfl cc44 rfl ?_
  unfold ac44
  repeat (first | (refine step_ops ?_; (first | (refine m_mov (by conv => lhs; whnf) ?_) | (refine m_nils ?_))) | refine end_ops ?_ | refine seq_ops ?_ | refine AW_seq ?_ | refine AW_block ?_)
  refine AW_loop (α := Nat) (fun k => k ≤ 12) (fun k => st [(0, .u S), (5, .i k), (3, .sl 3 1 0 (memL S k).length)] [(3, (true, (memL S k).map AV.i))]) (fun k => 12 - k) 0 (by omega) (weak_st ?_ ?_ rfl rfl) ?_
  · (repeat' (first | exact trivial | refine And.intro ?_ ?_)) <;> (first | rfl | skip)
  · exact ⟨rfl, trivial⟩
  intro k hk
  have hlen := memL_len S k
  have hsn := memL_succ S k
  by_cases hc : k < 12
  · have hh := setHas_spec S k hS (by omega)
    cases e : S.testBit k with
    | true =>
      rw [if_pos e] at hsn
      rw [e] at hh
      repeat (first | (refine step_ops ?_; (first | (refine m_mov (by conv => lhs; whnf) ?_) | (refine m_lss rfl rfl ?_))) | refine end_ops ?_ | refine seq_ops ?_ | (refine cond_t rfl ?_ ?_; (· first | rfl | assumption | (refine decide_eq_true ?_; first | assumption | omega) | (refine nt ?_; first | assumption | omega) | (simp [*]; done))) | refine skip_then ?_ | refine AW_seq ?_ | refine AW_block ?_)
      (refine step_ops ?_); (apply m_call (hh)); (· repeat (first | exact lends_nil | (refine lends_cons ?_ ?_; (· exact lend_v))))
      repeat (first | (refine step_ops ?_; (first | (refine m_mov (by conv => lhs; whnf) ?_) | (refine m_add rfl rfl ?_ ?_ ?_; (· omega); (· omega)) | (refine m_bsl1 rfl rfl ?_) | (refine m_app1i rfl (by decide) (by rfl) (by first | rfl | omega | (simp; done)) rfl rfl ?_ (by decide) ?_; (· first | omega | (simp; omega))))) | refine end_ops ?_ | refine AW_ops ?_ | (refine cond_t rfl ?_ ?_; (· first | rfl | assumption | (refine decide_eq_true ?_; first | assumption | omega) | (refine nt ?_; first | assumption | omega) | (simp [*]; done))) | refine norm_then ?_ | refine norm_block ?_)
      refine next_round (k + 1) (by omega) (Weak.trans (weak_move (r := 14) (q := 3) rfl (by decide) (by decide)) (weak_st ?_ ?_ rfl rfl)) ?_
      · rw [hsn]
        (repeat' (first | exact trivial | refine And.intro ?_ ?_)) <;> (first | rfl | skip)
      · rw [hsn]
        exact ⟨rfl, trivial⟩
      · omega
    | false =>
      rw [if_neg (by rw [e]; decide)] at hsn
      rw [e] at hh
      repeat (first | (refine step_ops ?_; (first | (refine m_mov (by conv => lhs; whnf) ?_) | (refine m_lss rfl rfl ?_))) | refine end_ops ?_ | refine seq_ops ?_ | (refine cond_t rfl ?_ ?_; (· first | rfl | assumption | (refine decide_eq_true ?_; first | assumption | omega) | (refine nt ?_; first | assumption | omega) | (simp [*]; done))) | refine skip_then ?_ | refine AW_seq ?_ | refine AW_block ?_)
      (refine step_ops ?_); (apply m_call (hh)); (· repeat (first | exact lends_nil | (refine lends_cons ?_ ?_; (· exact lend_v))))
      repeat (first | (refine step_ops ?_; (first | (refine m_mov (by conv => lhs; whnf) ?_) | (refine m_add rfl rfl ?_ ?_ ?_; (· omega); (· omega)))) | refine end_ops ?_ | refine AW_ops ?_ | (refine cond_f rfl ?_ ?_; (· first | rfl | assumption | (refine decide_eq_false ?_; first | assumption | omega) | (refine nf ?_; first | assumption | omega) | (simp [*]; done))) | refine norm_then ?_ | refine norm_block ?_ | refine AW_skip ?_)
      refine next_round (k + 1) (by omega) (weak_st ?_ ?_ rfl rfl) ?_
      · rw [hsn]
        (repeat' (first | exact trivial | refine And.intro ?_ ?_)) <;> (first | rfl | skip)
      · rw [hsn]
        exact ⟨rfl, trivial⟩
      · omega
  · obtain rfl : k = 12 := by omega
    repeat (first | (refine step_ops ?_; (first | (refine m_mov (by conv => lhs; whnf) ?_) | (refine m_lss rfl rfl ?_))) | refine end_ops ?_ | refine seq_ops ?_ | (refine cond_f rfl ?_ ?_; (· first | rfl | assumption | (refine decide_eq_false ?_; first | assumption | omega) | (refine nf ?_; first | assumption | omega) | (simp [*]; done))) | refine AW_seq ?_ | refine AW_ret ?_ | refine ret_done ?_ | refine norm_then ?_ | refine exit_then ?_ | refine exit_round ?_ | refine AW_exit ?_ | refine exit_block ?_)
    exact outs_ints rfl rfl rfl
end Go.Proofs.YtkphjdomdmpinaaDoor
namespace Go.Am
/-- A set of numbers below k. -/
def maskB (p : Nat → Bool) : Nat → Nat
  | 0 => 0
  | k + 1 => if p k then insC (maskB p k) k else maskB p k
theorem maskB_bit (p : Nat → Bool) : ∀ k j, (maskB p k).testBit j = (decide (j < k) && p j)
  | 0, j => by simp [maskB]
  | k + 1, j => by
    simp only [maskB]
    by_cases h : p k = true
    · rw [if_pos h, insC_bit, maskB_bit p k j]
      by_cases e : k = j
      · subst e; simp [h]
      · simp [e, show (j < k + 1) = (j < k) from propext ⟨fun _ => by omega, fun _ => by omega⟩]
    · rw [if_neg h, maskB_bit p k j]
      by_cases e : k = j
      · subst e; simp [h]
      · simp [show (j < k + 1) = (j < k) from propext ⟨fun _ => by omega, fun _ => by omega⟩]
/-- How many entries were not seen yet. -/
def leftL (seen : Array Nat) : List ((Nat × Nat) × Nat) → Nat
  | [] => 0
  | q :: l => (if seen.contains q.2 = true then 0 else 1) + leftL seen l
theorem push_has (seen : Array Nat) (b x : Nat) : (seen.push b).contains x = (seen.contains x || x == b) := by
  rw [Array.contains_push, Bool.or_comm]
theorem leftL_le (seen : Array Nat) (b : Nat) : ∀ l, leftL (seen.push b) l ≤ leftL seen l
  | [] => Nat.le_refl _
  | q :: l => by
    have ih := leftL_le seen b l
    simp only [leftL, push_has]
    by_cases h : seen.contains q.2 = true
    · rw [if_pos h, h, Bool.true_or, if_pos rfl]; omega
    · rw [if_neg h]; split <;> omega
theorem leftL_lt {seen : Array Nat} {q : (Nat × Nat) × Nat} (hs : seen.contains q.2 = false) : ∀ {l}, q ∈ l → leftL (seen.push q.2) l < leftL seen l
  | [], h => by cases h
  | x :: l, h => by
    have hle := leftL_le seen q.2 l
    simp only [leftL, push_has]
    by_cases e : x = q
    · subst e
      rw [hs, if_pos (by simp), if_neg (by decide)]; omega
    · have ih := leftL_lt hs ((List.mem_cons.1 h).resolve_left fun h2 => e h2.symm)
      by_cases h1 : seen.contains x.2 = true
      · rw [if_pos h1, h1, Bool.true_or, if_pos rfl]; omega
      · rw [if_neg h1]; split <;> omega
end Go.Am
namespace Go.Proofs.YtkphjdomdmpinaaDoor
open Go.Am
attribute [local irreducible] AW Outs Weak Lends Lend Sp aops atree aop1 Then Round InBlock Done
attribute [local irreducible] SpH SpX DoneH DoneX
theorem posP_lfA (fb : Nat → Nat → Bool) (n : Nat) : mkEs (posP fb n n) = plArr (lfA fb n fun _ => true) := by
  rw [mkEs_pl]
  unfold lfA
  rw [List.filter_eq_self.2 (fun _ _ => rfl)]
theorem lfA_one {fb : Nat → Nat → Bool} {n : Nat} {D : Nat × Nat → Bool} {p q : (Nat × Nat) × Nat} (hp : p ∈ lfA fb n D) (hq : q ∈ lfA fb n D) (h : q.2 = p.2) : p = q := by
  have h1 := List.mem_zipIdx (List.mem_filter.1 hp).1
  have h2 := List.mem_zipIdx (List.mem_filter.1 hq).1
  obtain ⟨⟨a, b⟩, c⟩ := p
  obtain ⟨⟨a2, b2⟩, c2⟩ := q
  dsimp only at h h1 h2
  subst h
  rw [h1.2.2, h2.2.2]
/-- The columns that the rows beside some need. -/
def colsM (fb : Nat → Nat → Bool) (n S : Nat) : Nat := maskB (nbB fb n 0 fun i => !S.testBit i) n
theorem columnsBeside_spec (fb : Nat → Nat → Bool) (n S : Nat) (h8 : n ≤ 8) (hS : S < 65536) : Sp Tryd.prog 45 [.agg (bdN fb n), .u S] (.u (colsM fb n S)) := by
  unfold bdN
  rw [posP_lfA]
  refine spec_of Tryd.func45 rfl cc45 rfl ?_
  unfold ac45
  repeat (first | (refine step_ops ?_; (first | (refine m_mov (by conv => lhs; whnf) ?_) | (apply m_ld_pt; (· rfl); (· rfl); (· rfl)) | (refine m_fa rfl ?_) | (refine m_box rfl ?_ ?_; (· first | rfl | (simp [cellOk, Value.oneCell']; done))))) | refine end_ops ?_ | refine seq_ops ?_ | refine AW_seq ?_)
  refine step_ops ?_
  refine m_mrgr rfl fun bm => ?_
  repeat (first | refine end_ops ?_ | refine AW_block ?_)
  refine AW_loop (α := Array Nat × Nat) (fun x => x.2 < 2 ^ 8 ∧ ∀ j, x.2.testBit j = true ↔ ∃ q ∈ lfA fb n fun _ => true, x.1.contains q.2 = true ∧ S.testBit q.1.1 = false ∧ q.1.2 = j)
    (fun x => st [(1, .u S), (5, .u x.2), (9, .mit 9 none bm (plArr (lfA fb n fun _ => true)) (posP fb n n).length)] [(9, (true, [.ob (.mapIter (some bm) (posP fb n n).length x.1 (posP fb n n).length)]))])
    (fun x => leftL x.1 (lfA fb n fun _ => true)) (#[], 0) ⟨by decide, fun j => by simp⟩ (weak_st ?_ ?_ rfl rfl) ?_
  · (repeat' (first | exact trivial | refine And.intro ?_ ?_)) <;> (first | rfl | skip)
  · (repeat' (first | exact trivial | refine And.intro ?_ ?_)) <;> (first | rfl | skip)
  rintro ⟨seen, C⟩ ⟨hC, hbit⟩
  dsimp only at hC hbit ⊢
  refine AW_seq ?_
  refine AW_ops ?_
  refine step_ops ?_
  refine m_mnxr rfl rfl plArr_old (Nat.le_refl _) (fun hall => ?_) (fun e he hs => ?_)
  · have hfin : C = colsM fb n S := by
      refine Nat.eq_of_testBit_eq fun j => ?_
      rw [Bool.eq_iff_iff, hbit]
      unfold colsM
      rw [maskB_bit, Bool.and_eq_true, decide_eq_true_eq, nbB_iff]
      constructor
      · rintro ⟨q, hq, _, h2, h3⟩
        obtain ⟨⟨hr, hc, hf⟩, _, _⟩ := lfA_mem hq
        subst h3
        exact ⟨hc, ⟨q.1.1, hr, by rw [h2]; rfl, hf⟩, Nat.zero_testBit _⟩
      · rintro ⟨hj, ⟨i, hi, h2, h3⟩, _⟩
        obtain ⟨q, hq, e⟩ := lfA_has (fb := fb) (n := n) (D := fun _ => true) (p := (i, j)) ⟨hi, hj, h3⟩ rfl
        refine ⟨q, hq, hall (plE q) (plArr_mem.2 ⟨q, hq, rfl⟩), ?_, by rw [e]⟩
        rw [e]
        simpa using h2
    rw [← hfin]
    repeat (first | (refine step_ops ?_; (first | (refine m_mov (by conv => lhs; whnf) ?_) | (refine m_ext rfl rfl ?_))) | refine end_ops ?_ | refine seq_ops ?_ | (refine cond_f rfl ?_ ?_; (· first | rfl | assumption | (refine decide_eq_false ?_; first | assumption | omega) | (refine nf ?_; first | assumption | omega) | (simp [*]; done))) | refine AW_seq ?_ | refine AW_ret ?_ | refine ret_done ?_ | refine norm_then ?_ | refine exit_then ?_ | refine exit_round ?_ | refine AW_exit ?_ | refine exit_block ?_)
    exact outs_v
  · obtain ⟨q, hq, rfl⟩ := plArr_mem.1 he
    obtain ⟨⟨hr, hc, hf⟩, hD, _⟩ := lfA_mem hq
    obtain ⟨⟨row, col⟩, stamp⟩ := q
    dsimp only at hr hc hf
    have hh := setHas_spec S row hS (by omega)
    repeat (first | (refine step_ops ?_; (refine m_ext rfl rfl ?_)) | refine end_ops ?_ | refine seq_ops ?_ | (refine cond_t rfl ?_ ?_; (· first | rfl | assumption | (refine decide_eq_true ?_; first | assumption | omega) | (refine nt ?_; first | assumption | omega) | (simp [*]; done))) | refine skip_then ?_ | refine AW_seq ?_ | refine norm_then ?_ | refine AW_block ?_)
    refine step_ops ?_
    refine m_mentr (e := plE ((row, col), stamp)) (ka := .agg [.i (row : Nat), .i (col : Nat)]) (va := .b true) rfl rfl he (lfA_born fb n _) rfl rfl ?_
    repeat (first | (refine step_ops ?_; (first | (refine m_mov (by conv => lhs; whnf) ?_) | (apply m_ld_pt; (· rfl); (· rfl); (· rfl)) | (refine m_ext rfl rfl ?_) | (refine m_alloc ?_) | (refine m_fa rfl ?_) | (refine m_stall rfl rfl rfl ?_ ?_ ?_ ?_; (· first | rfl | (simp [*]; done)); (· first | rfl | (simp [*]; done)); (· first | rfl | (simp [cellOk, Value.oneCell']; done))))) | refine end_ops ?_ | refine seq_ops ?_)
    have hlt := leftL_lt (q := ((row, col), stamp)) hs hq
    cases e : S.testBit row with
    | true =>
      rw [e] at hh
      (refine step_ops ?_); (apply m_call (hh)); (· repeat (first | exact lends_nil | (refine lends_cons ?_ ?_; (· exact lend_v))))
      repeat (first | (refine step_ops ?_; (refine m_not rfl ?_)) | refine end_ops ?_ | (refine cond_f rfl ?_ ?_; (· first | rfl | assumption | (refine decide_eq_false ?_; first | assumption | omega) | (refine nf ?_; first | assumption | omega) | (simp [*]; done))) | refine norm_block ?_ | refine AW_skip ?_)
      refine next_round (seen.push stamp, C) ⟨hC, fun j => ?_⟩ (weak_st ?_ ?_ rfl rfl) hlt
      · rw [hbit]
        constructor
        · rintro ⟨q, h1, h2, h3⟩
          exact ⟨q, h1, by rw [push_has, h2]; rfl, h3⟩
        · rintro ⟨q, h1, h2, h3, h4⟩
          rw [push_has, Bool.or_eq_true] at h2
          rcases h2 with h2 | h2
          · exact ⟨q, h1, h2, h3, h4⟩
          · have hqq := lfA_one hq h1 (by simpa using h2)
            subst hqq
            rw [e] at h3; cases h3
      · (repeat' (first | exact trivial | refine And.intro ?_ ?_)) <;> (first | rfl | skip)
      · (repeat' (first | exact trivial | refine And.intro ?_ ?_)) <;> (first | rfl | skip)
    | false =>
      rw [e] at hh
      have hw := setWith_spec C col (by omega) (by omega)
      (refine step_ops ?_); (apply m_call (hh)); (· repeat (first | exact lends_nil | (refine lends_cons ?_ ?_; (· exact lend_v))))
      repeat (first | (refine step_ops ?_; (first | (refine m_mov (by conv => lhs; whnf) ?_) | (refine m_not rfl ?_) | (apply m_ld_pt; (· rfl); (· rfl); (· rfl)) | (refine m_fa rfl ?_))) | refine end_ops ?_ | refine AW_ops ?_ | (refine cond_t rfl ?_ ?_; (· first | rfl | assumption | (refine decide_eq_true ?_; first | assumption | omega) | (refine nt ?_; first | assumption | omega) | (simp [*]; done))))
      (refine step_ops ?_); (apply m_call (hw)); (· repeat (first | exact lends_nil | (refine lends_cons ?_ ?_; (· exact lend_v))))
      repeat (first | (refine step_ops ?_; (refine m_mov (by conv => lhs; whnf) ?_)) | refine end_ops ?_ | refine norm_block ?_)
      refine next_round (seen.push stamp, insC C col) ⟨insC_lt hC (by omega), fun j => ?_⟩ (weak_st ?_ ?_ rfl rfl) hlt
      · rw [insC_bit, Bool.or_eq_true, decide_eq_true_eq, hbit]
        constructor
        · rintro (⟨q, h1, h2, h3⟩ | h)
          · exact ⟨q, h1, by rw [push_has, h2]; rfl, h3⟩
          · exact ⟨((row, col), stamp), hq, by rw [push_has]; simp, e, h⟩
        · rintro ⟨q, h1, h2, h3, h4⟩
          rw [push_has, Bool.or_eq_true] at h2
          rcases h2 with h2 | h2
          · exact .inl ⟨q, h1, h2, h3, h4⟩
          · have hqq := lfA_one hq h1 (by simpa using h2)
            subst hqq
            exact .inr h4
      · (repeat' (first | exact trivial | refine And.intro ?_ ?_)) <;> (first | rfl | skip)
      · (repeat' (first | exact trivial | refine And.intro ?_ ?_)) <;> (first | rfl | skip)
theorem pop16_le9 : ∀ S < 512, pop16 S ≤ 16 := by decide +kernel
theorem colsM_lt (fb : Nat → Nat → Bool) {n : Nat} (_h8 : n ≤ 8) (S : Nat) : colsM fb n S < 2 ^ n := by
  refine Nat.lt_pow_two_of_testBit _ fun j hj => ?_
  unfold colsM
  rw [maskB_bit, decide_eq_false (by omega)]
  rfl
/-- How many lines: rows and the columns beside. -/
def linS (fb : Nat → Nat → Bool) (n S : Nat) : Nat := pop16 S + pop16 (colsM fb n S)
theorem countLines_spec (fb : Nat → Nat → Bool) (n S : Nat) (h8 : n ≤ 8) (hS : S < 512) : Sp Tryd.prog 64 [.agg (bdN fb n), .u S] (.i (linS fb n S : Nat)) := by
  have hl := colsM_lt fb h8 S
  have h9 : 2 ^ n ≤ 2 ^ 8 := Nat.pow_le_pow_right (by decide) h8
  have h1 := sizeP_spec S hS
  have h2 := columnsBeside_spec fb n S h8 (by omega)
  have h3 := sizeP_spec (colsM fb n S) (by omega)
  unfold linS
  generalize colsM fb n S = C at *
  have hp1 := pop16_le9 S hS
  have hp2 := pop16_le9 C (by omega)
  refine spec_of Tryd.func64 rfl cc64 rfl ?_
  unfold ac64
  repeat (first | ((first | refine step_ops ?_ | refine step_tree ?_); (first | (refine m_mov (by conv => lhs; whnf) ?_) | (refine m_box rfl ?_ ?_; (· first | rfl | (simp [cellOk, Value.oneCell']; done))))) | refine end_ops ?_ | refine seq_ops ?_ | refine seq_tree ?_)
  refine step_tree ?_; (apply m_call (h1)); (· repeat (first | exact lends_nil | (refine lends_cons ?_ ?_; (· exact lend_v))))
  repeat (refine step_tree ?_; (first | (refine m_mov (by conv => lhs; whnf) ?_) | (refine m_ldall rfl rfl ?_ ?_; (· first | rfl | (simp; done) | (simp [*]; done)))))
  refine step_tree ?_
  refine m_call h2 (lends_cons (lend_aggM rfl) (lends_cons lend_v lends_nil)) ?_
  skip
  refine step_tree ?_; (apply m_call (h3)); (· repeat (first | exact lends_nil | (refine lends_cons ?_ ?_; (· exact lend_v))))
  repeat (first | (refine step_tree ?_; (first | (refine m_mov (by conv => lhs; whnf) ?_) | (refine m_add rfl rfl ?_ ?_ ?_; (· omega); (· omega)))) | refine end_tree ?_ | refine AW_ret ?_ | refine ret_done ?_)
  exact outs_i rfl
end Go.Proofs.YtkphjdomdmpinaaDoor
namespace Go.Am
section
variable {P : Program} {own : Bool} {s : AS} {K : AS → Prop} {d : Option Nat} {x y : Opd} {a b : Nat}
theorem m_lss16 (hx : s.ev x = .u a) (hy : s.ev y = .u b) (kk : K (s.put d (.b (decide (a < b))))) : aop1 P own ⟨d, .bin .lss x y, none⟩ s K := by
  refine ⟨_, _, _, hx, hy, ?_, kk⟩
  show some (Value.bool (decide ((a : Int) < (b : Int)))) = some (Value.bool (decide (a < b)))
  congr 2
  exact decide_eq_decide.2 Int.ofNat_lt
theorem m_add16 (hx : s.ev x = .u a) (hy : s.ev y = .u b) (h : a + b < 65536) (kk : K (s.put d (.u (a + b)))) : aop1 P own ⟨d, .bin .add x y, none⟩ s K := by
  refine ⟨_, _, _, hx, hy, ?_, kk⟩
  exact (congrArg (fun z : Int => some (Value.int .u16 (IntKind.u16.wrap z))) (Int.natCast_add a b).symm).trans (congrArg (fun z : Int => some (Value.int .u16 z)) (wrap16 h))
end
end Go.Am
namespace Go.Proofs.YtkphjdomdmpinaaDoor
open Go.Am
attribute [local irreducible] AW Outs Weak Lends Lend Sp aops atree aop1 Then Round InBlock Done
attribute [local irreducible] SpH SpX DoneH DoneX
/-- How two sets of rows are ordered: by lines, then asx lists. -/
def ordS (fb : Nat → Nat → Bool) (n a b : Nat) : Int := if (if ((linS fb n a : Nat) : Int) < ((linS fb n b : Nat) : Int) then (-1 : Int) else if ((linS fb n b : Nat) : Int) < ((linS fb n a : Nat) : Int) then 1 else 0) ≠ 0 then (if ((linS fb n a : Nat) : Int) < ((linS fb n b : Nat) : Int) then (-1 : Int) else if ((linS fb n b : Nat) : Int) < ((linS fb n a : Nat) : Int) then 1 else 0) else ordC (memL a 12) (memL b 12)
/-- The best of the first k sets. -/
def bestS (fb : Nat → Nat → Bool) (n : Nat) : Nat → Nat
  | 0 => 0
  | k + 1 => if ordS fb n k (bestS fb n k) < 0 then k else bestS fb n k
theorem bestS_lt (fb : Nat → Nat → Bool) (n : Nat) : ∀ k, bestS fb n k ≤ k
  | 0 => Nat.le_refl _
  | k + 1 => by have := bestS_lt fb n k; simp only [bestS]; split <;> omega
theorem fewestLines_spec (fb : Nat → Nat → Bool) (n : Nat) (h1 : 1 ≤ n) (h8 : n ≤ 8) : Sp Tryd.prog 43 [.agg (bdN fb n)] (.u (bestS fb n (2 ^ n))) := by
  have h9 : 2 ^ n ≤ 2 ^ 8 := Nat.pow_le_pow_right (by decide) h8
  refine spec_of Tryd.func43 rfl cc43 rfl ?_
  unfold ac43
  repeat (first | ((first | refine step_ops ?_ | refine step_tree ?_); (first | (refine m_mov (by conv => lhs; whnf) ?_) | (refine m_lss rfl rfl ?_) | (refine m_add rfl rfl ?_ ?_ ?_; (· omega); (· omega)) | (refine m_adds rfl rfl ?_ ?_; (· first | omega | (simp; omega))) | (refine m_ld_rpi rfl ?_ ?_; (· omega)) | (refine m_ld_pti rfl (by rfl) ?_ ?_; (· first | omega | (simp; omega))) | (apply m_ld_ptb; (· rfl); (· rfl); (· assumption)) | (apply m_ld_rp; (· rfl); (· rfl)) | (apply m_ld_pt; (· rfl); (· rfl); (· rfl)) | (refine m_fa rfl ?_) | (refine m_fa_rp rfl ?_) | (refine m_box rfl ?_ ?_; (· first | rfl | (simp [cellOk, Value.oneCell']; done))) | (refine m_box1 rfl rfl ?_) | (refine m_ldall rfl rfl ?_ ?_; (· first | rfl | (simp; done) | (simp [*]; done))) | (refine m_ldall_rp rfl rfl ?_))) | refine end_ops ?_ | refine seq_ops ?_ | refine AW_ops ?_ | refine end_tree ?_ | refine seq_tree ?_ | refine AW_tree ?_ | (refine cond_t rfl ?_ ?_; (· first | rfl | assumption | (refine decide_eq_true ?_; first | assumption | omega) | (refine nt ?_; first | assumption | omega) | (simp [*]; done))) | (refine cond_f rfl ?_ ?_; (· first | rfl | assumption | (refine decide_eq_false ?_; first | assumption | omega) | (refine nf ?_; first | assumption | omega) | (simp [*]; done))) | refine skip_then ?_ | refine AW_seq ?_ | refine AW_ret ?_ | refine ret_done ?_ | refine norm_then ?_ | refine ret_then ?_ | refine exit_then ?_ | refine AW_block ?_ | refine norm_block ?_ | refine ret_block ?_ | refine ret_round ?_ | refine exit_round ?_ | refine AW_exit ?_ | refine exit_block ?_ | (refine exit_other ?_ ?_; (· decide)) | refine AW_skip ?_)
  refine step_ops ?_
  refine m_shl16 (k := n) rfl rfl (by omega) ?_
  repeat (first | ((first | refine step_ops ?_ | refine step_tree ?_); (first | (refine m_mov (by conv => lhs; whnf) ?_) | (refine m_lss rfl rfl ?_) | (refine m_add rfl rfl ?_ ?_ ?_; (· omega); (· omega)) | (refine m_adds rfl rfl ?_ ?_; (· first | omega | (simp; omega))) | (refine m_ld_rpi rfl ?_ ?_; (· omega)) | (refine m_ld_pti rfl (by rfl) ?_ ?_; (· first | omega | (simp; omega))) | (apply m_ld_ptb; (· rfl); (· rfl); (· assumption)) | (apply m_ld_rp; (· rfl); (· rfl)) | (apply m_ld_pt; (· rfl); (· rfl); (· rfl)) | (refine m_fa rfl ?_) | (refine m_fa_rp rfl ?_) | (refine m_box rfl ?_ ?_; (· first | rfl | (simp [cellOk, Value.oneCell']; done))) | (refine m_box1 rfl rfl ?_) | (refine m_ldall rfl rfl ?_ ?_; (· first | rfl | (simp; done) | (simp [*]; done))) | (refine m_ldall_rp rfl rfl ?_))) | refine end_ops ?_ | refine seq_ops ?_ | refine AW_ops ?_ | refine end_tree ?_ | refine seq_tree ?_ | refine AW_tree ?_ | (refine cond_t rfl ?_ ?_; (· first | rfl | assumption | (refine decide_eq_true ?_; first | assumption | omega) | (refine nt ?_; first | assumption | omega) | (simp [*]; done))) | (refine cond_f rfl ?_ ?_; (· first | rfl | assumption | (refine decide_eq_false ?_; first | assumption | omega) | (refine nf ?_; first | assumption | omega) | (simp [*]; done))) | refine skip_then ?_ | refine AW_seq ?_ | refine AW_ret ?_ | refine ret_done ?_ | refine norm_then ?_ | refine ret_then ?_ | refine exit_then ?_ | refine AW_block ?_ | refine norm_block ?_ | refine ret_block ?_ | refine ret_round ?_ | refine exit_round ?_ | refine AW_exit ?_ | refine exit_block ?_ | (refine exit_other ?_ ?_; (· decide)) | refine AW_skip ?_)
  refine AW_loop (α := Nat) (fun k => k ≤ 2 ^ n) (fun k => st [(1, .pt 1 0), (3, .u (bestS fb n k)), (8, .u (1 <<< n)), (9, .u k)] [(1, (true, bdN fb n))]) (fun k => 2 ^ n - k) 0 (Nat.zero_le _) (weak_st ?_ ?_ rfl rfl) ?_
  · (repeat' (first | exact trivial | refine And.intro ?_ ?_)) <;> (first | rfl | skip)
  · (repeat' (first | exact trivial | refine And.intro ?_ ?_)) <;> (first | rfl | skip)
  intro k hk
  have hbl := bestS_lt fb n k
  have hsh : 1 <<< n = 2 ^ n := by rw [Nat.shiftLeft_eq, Nat.one_mul]
  rw [hsh]
  by_cases hc : k < 2 ^ n
  · have a1 := countLines_spec fb n k h8 (by omega)
    have a2 := countLines_spec fb n (bestS fb n k) h8 (by omega)
    have a3 := cmpCompare_spec ((linS fb n k : Nat) : Int) ((linS fb n (bestS fb n k) : Nat) : Int)
    have a4 := setNumbers_spec k (by omega)
    have a5 := setNumbers_spec (bestS fb n k) (by omega)
    have a6 := slicesCompare_spec (memL k 12) (memL (bestS fb n k) 12) (by have := memL_len k 12; omega) (by have := memL_len (bestS fb n k) 12; omega)
    refine AW_seq ?_
    refine AW_ops ?_
    refine step_ops ?_
    refine m_lss16 rfl rfl ?_
    repeat (first | ((first | refine step_ops ?_ | refine step_tree ?_); (first | (refine m_mov (by conv => lhs; whnf) ?_) | (refine m_lss rfl rfl ?_) | (refine m_add rfl rfl ?_ ?_ ?_; (· omega); (· omega)) | (refine m_adds rfl rfl ?_ ?_; (· first | omega | (simp; omega))) | (refine m_ld_rpi rfl ?_ ?_; (· omega)) | (refine m_ld_pti rfl (by rfl) ?_ ?_; (· first | omega | (simp; omega))) | (apply m_ld_ptb; (· rfl); (· rfl); (· assumption)) | (apply m_ld_rp; (· rfl); (· rfl)) | (apply m_ld_pt; (· rfl); (· rfl); (· rfl)) | (refine m_fa rfl ?_) | (refine m_fa_rp rfl ?_) | (refine m_box rfl ?_ ?_; (· first | rfl | (simp [cellOk, Value.oneCell']; done))) | (refine m_box1 rfl rfl ?_) | (refine m_ldall rfl rfl ?_ ?_; (· first | rfl | (simp; done) | (simp [*]; done))) | (refine m_ldall_rp rfl rfl ?_))) | refine end_ops ?_ | refine seq_ops ?_ | refine AW_ops ?_ | refine end_tree ?_ | refine seq_tree ?_ | refine AW_tree ?_ | (refine cond_t rfl ?_ ?_; (· first | rfl | assumption | (refine decide_eq_true ?_; first | assumption | omega) | (refine nt ?_; first | assumption | omega) | (simp [*]; done))) | (refine cond_f rfl ?_ ?_; (· first | rfl | assumption | (refine decide_eq_false ?_; first | assumption | omega) | (refine nf ?_; first | assumption | omega) | (simp [*]; done))) | refine skip_then ?_ | refine AW_seq ?_ | refine AW_ret ?_ | refine ret_done ?_ | refine norm_then ?_ | refine ret_then ?_ | refine exit_then ?_ | refine AW_block ?_ | refine norm_block ?_ | refine ret_block ?_ | refine ret_round ?_ | refine exit_round ?_ | refine AW_exit ?_ | refine exit_block ?_ | (refine exit_other ?_ ?_; (· decide)) | refine AW_skip ?_)
    refine step_tree ?_
    refine m_call a1 (lends_cons (lend_aggM rfl) (lends_cons lend_v lends_nil)) ?_
    repeat (first | ((first | refine step_ops ?_ | refine step_tree ?_); (first | (refine m_mov (by conv => lhs; whnf) ?_) | (refine m_lss rfl rfl ?_) | (refine m_add rfl rfl ?_ ?_ ?_; (· omega); (· omega)) | (refine m_adds rfl rfl ?_ ?_; (· first | omega | (simp; omega))) | (refine m_ld_rpi rfl ?_ ?_; (· omega)) | (refine m_ld_pti rfl (by rfl) ?_ ?_; (· first | omega | (simp; omega))) | (apply m_ld_ptb; (· rfl); (· rfl); (· assumption)) | (apply m_ld_rp; (· rfl); (· rfl)) | (apply m_ld_pt; (· rfl); (· rfl); (· rfl)) | (refine m_fa rfl ?_) | (refine m_fa_rp rfl ?_) | (refine m_box rfl ?_ ?_; (· first | rfl | (simp [cellOk, Value.oneCell']; done))) | (refine m_box1 rfl rfl ?_) | (refine m_ldall rfl rfl ?_ ?_; (· first | rfl | (simp; done) | (simp [*]; done))) | (refine m_ldall_rp rfl rfl ?_))) | refine end_ops ?_ | refine seq_ops ?_ | refine AW_ops ?_ | refine end_tree ?_ | refine seq_tree ?_ | refine AW_tree ?_ | (refine cond_t rfl ?_ ?_; (· first | rfl | assumption | (refine decide_eq_true ?_; first | assumption | omega) | (refine nt ?_; first | assumption | omega) | (simp [*]; done))) | (refine cond_f rfl ?_ ?_; (· first | rfl | assumption | (refine decide_eq_false ?_; first | assumption | omega) | (refine nf ?_; first | assumption | omega) | (simp [*]; done))) | refine skip_then ?_ | refine AW_seq ?_ | refine AW_ret ?_ | refine ret_done ?_ | refine norm_then ?_ | refine ret_then ?_ | refine exit_then ?_ | refine AW_block ?_ | refine norm_block ?_ | refine ret_block ?_ | refine ret_round ?_ | refine exit_round ?_ | refine AW_exit ?_ | refine exit_block ?_ | (refine exit_other ?_ ?_; (· decide)) | refine AW_skip ?_)
    refine step_tree ?_
    refine m_call a2 (lends_cons (lend_aggM rfl) (lends_cons lend_v lends_nil)) ?_
    repeat (first | ((first | refine step_ops ?_ | refine step_tree ?_); (first | (refine m_mov (by conv => lhs; whnf) ?_) | (refine m_lss rfl rfl ?_) | (refine m_add rfl rfl ?_ ?_ ?_; (· omega); (· omega)) | (refine m_adds rfl rfl ?_ ?_; (· first | omega | (simp; omega))) | (refine m_ld_rpi rfl ?_ ?_; (· omega)) | (refine m_ld_pti rfl (by rfl) ?_ ?_; (· first | omega | (simp; omega))) | (apply m_ld_ptb; (· rfl); (· rfl); (· assumption)) | (apply m_ld_rp; (· rfl); (· rfl)) | (apply m_ld_pt; (· rfl); (· rfl); (· rfl)) | (refine m_fa rfl ?_) | (refine m_fa_rp rfl ?_) | (refine m_box rfl ?_ ?_; (· first | rfl | (simp [cellOk, Value.oneCell']; done))) | (refine m_box1 rfl rfl ?_) | (refine m_ldall rfl rfl ?_ ?_; (· first | rfl | (simp; done) | (simp [*]; done))) | (refine m_ldall_rp rfl rfl ?_))) | refine end_ops ?_ | refine seq_ops ?_ | refine AW_ops ?_ | refine end_tree ?_ | refine seq_tree ?_ | refine AW_tree ?_ | (refine cond_t rfl ?_ ?_; (· first | rfl | assumption | (refine decide_eq_true ?_; first | assumption | omega) | (refine nt ?_; first | assumption | omega) | (simp [*]; done))) | (refine cond_f rfl ?_ ?_; (· first | rfl | assumption | (refine decide_eq_false ?_; first | assumption | omega) | (refine nf ?_; first | assumption | omega) | (simp [*]; done))) | refine skip_then ?_ | refine AW_seq ?_ | refine AW_ret ?_ | refine ret_done ?_ | refine norm_then ?_ | refine ret_then ?_ | refine exit_then ?_ | refine AW_block ?_ | refine norm_block ?_ | refine ret_block ?_ | refine ret_round ?_ | refine exit_round ?_ | refine AW_exit ?_ | refine exit_block ?_ | (refine exit_other ?_ ?_; (· decide)) | refine AW_skip ?_)
    (first | refine step_ops ?_ | refine step_tree ?_); (apply m_call (a3)); (· repeat (first | exact lends_nil | (refine lends_cons ?_ ?_; (· (first | exact lend_v | (refine lend_roM rfl; done) | (refine lend_mat rfl ?_; intro j hj; simp (disch := first | omega | assumption) only [hp_put, hp_mem_ne, hp_kill_ne]; first | exact stM_row rfl hj | (rw [stM_row rfl hj]; rfl)) | (refine lend_ints ?_; first | rfl | omega) | (refine lend_sli (by rfl) ?_; first | rfl | omega | (simp; done)) | (refine lend_pln rfl; done) | (refine lend_plns rfl rfl; done) | (refine lend_txr rfl; done) | (refine lend_txs rfl rfl; done) | exact lend_any | (refine lend_agg ?_; first | rfl | assumption | (simp [plainV]; done)))))))
    generalize hV : (if ((linS fb n k : Nat) : Int) < ((linS fb n (bestS fb n k) : Nat) : Int) then (-1 : Int) else if ((linS fb n (bestS fb n k) : Nat) : Int) < ((linS fb n k : Nat) : Int) then 1 else 0) = V
    have a7 := cmpOr_spec V (ordC (memL k 12) (memL (bestS fb n k) 12))
    have hO : ordS fb n k (bestS fb n k) = if V ≠ 0 then V else ordC (memL k 12) (memL (bestS fb n k) 12) := by
      unfold ordS
      rw [hV]
    rw [← hO] at a7
    repeat' (first
      | ((first | ((first | refine step_ops ?_ | refine step_tree ?_); (first | (refine m_mov (by conv => lhs; whnf) ?_) | (refine m_lss rfl rfl ?_) | (refine m_add rfl rfl ?_ ?_ ?_; (· omega); (· omega)) | (refine m_adds rfl rfl ?_ ?_; (· first | omega | (simp; omega))) | (refine m_ld_rpi rfl ?_ ?_; (· omega)) | (refine m_ld_pti rfl (by rfl) ?_ ?_; (· first | omega | (simp; omega))) | (apply m_ld_ptb; (· rfl); (· rfl); (· assumption)) | (apply m_ld_rp; (· rfl); (· rfl)) | (apply m_ld_pt; (· rfl); (· rfl); (· rfl)) | (refine m_fa rfl ?_) | (refine m_fa_rp rfl ?_) | (refine m_box rfl ?_ ?_; (· first | rfl | (simp [cellOk, Value.oneCell']; done))) | (refine m_box1 rfl rfl ?_) | (refine m_ldall rfl rfl ?_ ?_; (· first | rfl | (simp; done) | (simp [*]; done))) | (refine m_ldall_rp rfl rfl ?_))) | refine end_ops ?_ | refine seq_ops ?_ | refine AW_ops ?_ | refine end_tree ?_ | refine seq_tree ?_ | refine AW_tree ?_ | (refine cond_t rfl ?_ ?_; (· first | rfl | assumption | (refine decide_eq_true ?_; first | assumption | omega) | (refine nt ?_; first | assumption | omega) | (simp [*]; done))) | (refine cond_f rfl ?_ ?_; (· first | rfl | assumption | (refine decide_eq_false ?_; first | assumption | omega) | (refine nf ?_; first | assumption | omega) | (simp [*]; done))) | refine skip_then ?_ | refine AW_seq ?_ | refine AW_ret ?_ | refine ret_done ?_ | refine norm_then ?_ | refine ret_then ?_ | refine exit_then ?_ | refine AW_block ?_ | refine norm_block ?_ | refine ret_block ?_ | refine ret_round ?_ | refine exit_round ?_ | refine AW_exit ?_ | refine exit_block ?_ | (refine exit_other ?_ ?_; (· decide)) | refine AW_skip ?_))
      | (refine step_two ?_ ?_)
      | (refine step_tree ?_; refine m_call a4 (lends_cons lend_v lends_nil) ?_)
      | (refine step_tree ?_; refine m_call a5 (lends_cons lend_v lends_nil) ?_)
      | (refine step_tree ?_; refine m_call a6 (lends_cons (lend_ints rfl) (lends_cons (lend_ints rfl) lends_nil)) ?_)
      | (refine step_tree ?_; refine m_bsl2i rfl rfl ?_)
      | (refine step_tree ?_; refine m_call a7 (lends_cons (lend_sli (by rfl) rfl) lends_nil) ?_))
    all_goals
      by_cases hlt : ordS fb n k (bestS fb n k) < 0
    all_goals
      repeat (first | ((first | refine step_ops ?_ | refine step_tree ?_); (first | (refine m_mov (by conv => lhs; whnf) ?_) | (refine m_lss rfl rfl ?_) | (refine m_add rfl rfl ?_ ?_ ?_; (· omega); (· omega)) | (refine m_adds rfl rfl ?_ ?_; (· first | omega | (simp; omega))) | (refine m_ld_rpi rfl ?_ ?_; (· omega)) | (refine m_ld_pti rfl (by rfl) ?_ ?_; (· first | omega | (simp; omega))) | (apply m_ld_ptb; (· rfl); (· rfl); (· assumption)) | (apply m_ld_rp; (· rfl); (· rfl)) | (apply m_ld_pt; (· rfl); (· rfl); (· rfl)) | (refine m_fa rfl ?_) | (refine m_fa_rp rfl ?_) | (refine m_box rfl ?_ ?_; (· first | rfl | (simp [cellOk, Value.oneCell']; done))) | (refine m_box1 rfl rfl ?_) | (refine m_ldall rfl rfl ?_ ?_; (· first | rfl | (simp; done) | (simp [*]; done))) | (refine m_ldall_rp rfl rfl ?_))) | refine end_ops ?_ | refine seq_ops ?_ | refine AW_ops ?_ | refine end_tree ?_ | refine seq_tree ?_ | refine AW_tree ?_ | (refine cond_t rfl ?_ ?_; (· first | rfl | assumption | (refine decide_eq_true ?_; first | assumption | omega) | (refine nt ?_; first | assumption | omega) | (simp [*]; done))) | (refine cond_f rfl ?_ ?_; (· first | rfl | assumption | (refine decide_eq_false ?_; first | assumption | omega) | (refine nf ?_; first | assumption | omega) | (simp [*]; done))) | refine skip_then ?_ | refine AW_seq ?_ | refine AW_ret ?_ | refine ret_done ?_ | refine norm_then ?_ | refine ret_then ?_ | refine exit_then ?_ | refine AW_block ?_ | refine norm_block ?_ | refine ret_block ?_ | refine ret_round ?_ | refine exit_round ?_ | refine AW_exit ?_ | refine exit_block ?_ | (refine exit_other ?_ ?_; (· decide)) | refine AW_skip ?_)
      refine step_ops ?_
      refine m_add16 (a := k) (b := 1) rfl rfl (by omega) ?_
      repeat (first | ((first | refine step_ops ?_ | refine step_tree ?_); (first | (refine m_mov (by conv => lhs; whnf) ?_) | (refine m_lss rfl rfl ?_) | (refine m_add rfl rfl ?_ ?_ ?_; (· omega); (· omega)) | (refine m_adds rfl rfl ?_ ?_; (· first | omega | (simp; omega))) | (refine m_ld_rpi rfl ?_ ?_; (· omega)) | (refine m_ld_pti rfl (by rfl) ?_ ?_; (· first | omega | (simp; omega))) | (apply m_ld_ptb; (· rfl); (· rfl); (· assumption)) | (apply m_ld_rp; (· rfl); (· rfl)) | (apply m_ld_pt; (· rfl); (· rfl); (· rfl)) | (refine m_fa rfl ?_) | (refine m_fa_rp rfl ?_) | (refine m_box rfl ?_ ?_; (· first | rfl | (simp [cellOk, Value.oneCell']; done))) | (refine m_box1 rfl rfl ?_) | (refine m_ldall rfl rfl ?_ ?_; (· first | rfl | (simp; done) | (simp [*]; done))) | (refine m_ldall_rp rfl rfl ?_))) | refine end_ops ?_ | refine seq_ops ?_ | refine AW_ops ?_ | refine end_tree ?_ | refine seq_tree ?_ | refine AW_tree ?_ | (refine cond_t rfl ?_ ?_; (· first | rfl | assumption | (refine decide_eq_true ?_; first | assumption | omega) | (refine nt ?_; first | assumption | omega) | (simp [*]; done))) | (refine cond_f rfl ?_ ?_; (· first | rfl | assumption | (refine decide_eq_false ?_; first | assumption | omega) | (refine nf ?_; first | assumption | omega) | (simp [*]; done))) | refine skip_then ?_ | refine AW_seq ?_ | refine AW_ret ?_ | refine ret_done ?_ | refine norm_then ?_ | refine ret_then ?_ | refine exit_then ?_ | refine AW_block ?_ | refine norm_block ?_ | refine ret_block ?_ | refine ret_round ?_ | refine exit_round ?_ | refine AW_exit ?_ | refine exit_block ?_ | (refine exit_other ?_ ?_; (· decide)) | refine AW_skip ?_)
      refine next_round (k + 1) (by omega) (weak_st ?_ ?_ rfl rfl) ?_
    all_goals (try omega)
    all_goals (first | (rw [show bestS fb n (k + 1) = k from if_pos hlt]; (repeat' (first | exact trivial | refine And.intro ?_ ?_)) <;> (first | rfl | skip); done) | (rw [show bestS fb n (k + 1) = bestS fb n k from if_neg hlt]; (repeat' (first | exact trivial | refine And.intro ?_ ?_)) <;> (first | rfl | skip); done) | (repeat' (first | exact trivial | refine And.intro ?_ ?_)) <;> (first | rfl | skip))
  · obtain rfl : k = 2 ^ n := by omega
    refine AW_seq ?_
    refine AW_ops ?_
    refine step_ops ?_
    refine m_lss16 rfl rfl ?_
    repeat (first | ((first | refine step_ops ?_ | refine step_tree ?_); (first | (refine m_mov (by conv => lhs; whnf) ?_) | (refine m_lss rfl rfl ?_) | (refine m_add rfl rfl ?_ ?_ ?_; (· omega); (· omega)) | (refine m_adds rfl rfl ?_ ?_; (· first | omega | (simp; omega))) | (refine m_ld_rpi rfl ?_ ?_; (· omega)) | (refine m_ld_pti rfl (by rfl) ?_ ?_; (· first | omega | (simp; omega))) | (apply m_ld_ptb; (· rfl); (· rfl); (· assumption)) | (apply m_ld_rp; (· rfl); (· rfl)) | (apply m_ld_pt; (· rfl); (· rfl); (· rfl)) | (refine m_fa rfl ?_) | (refine m_fa_rp rfl ?_) | (refine m_box rfl ?_ ?_; (· first | rfl | (simp [cellOk, Value.oneCell']; done))) | (refine m_box1 rfl rfl ?_) | (refine m_ldall rfl rfl ?_ ?_; (· first | rfl | (simp; done) | (simp [*]; done))) | (refine m_ldall_rp rfl rfl ?_))) | refine end_ops ?_ | refine seq_ops ?_ | refine AW_ops ?_ | refine end_tree ?_ | refine seq_tree ?_ | refine AW_tree ?_ | (refine cond_t rfl ?_ ?_; (· first | rfl | assumption | (refine decide_eq_true ?_; first | assumption | omega) | (refine nt ?_; first | assumption | omega) | (simp [*]; done))) | (refine cond_f rfl ?_ ?_; (· first | rfl | assumption | (refine decide_eq_false ?_; first | assumption | omega) | (refine nf ?_; first | assumption | omega) | (simp [*]; done))) | refine skip_then ?_ | refine AW_seq ?_ | refine AW_ret ?_ | refine ret_done ?_ | refine norm_then ?_ | refine ret_then ?_ | refine exit_then ?_ | refine AW_block ?_ | refine norm_block ?_ | refine ret_block ?_ | refine ret_round ?_ | refine exit_round ?_ | refine AW_exit ?_ | refine exit_block ?_ | (refine exit_other ?_ ?_; (· decide)) | refine AW_skip ?_)
    exact outs_v
end Go.Proofs.YtkphjdomdmpinaaDoor
namespace Go.Proofs.YtkphjdomdmpinaaDoor
open Go.Am
theorem ordC_irr : ∀ a : List Int, ordC a a = 0
  | [] => rfl
  | x :: a => by simp [ordC, ordC_irr a]
theorem ordC_trans : ∀ {a b c : List Int}, ordC a b < 0 → ordC b c < 0 → ordC a c < 0
  | [], [], _, h, _ => by simp [ordC] at h
  | [], _ :: _, [], _, h => by simp [ordC] at h
  | [], _ :: _, _ :: _, _, _ => by simp [ordC]
  | _ :: _, [], _, h, _ => by simp [ordC] at h
  | _ :: _, _ :: _, [], _, h => by simp [ordC] at h
  | x :: a, y :: b, z :: c, h1, h2 => by
    simp only [ordC] at h1 h2 ⊢
    by_cases e1 : x < y
    · by_cases e2 : y < z
      · rw [if_pos (by omega)]; decide
      · by_cases e3 : z < y
        · rw [if_neg e2, if_pos e3] at h2; omega
        · rw [if_pos (by omega)]; decide
    · by_cases e4 : y < x
      · rw [if_neg e1, if_pos e4] at h1; omega
      · obtain rfl : x = y := by omega
        by_cases e2 : x < z
        · rw [if_pos e2]; decide
        · by_cases e3 : z < x
          · rw [if_neg e2, if_pos e3] at h2; omega
          · rw [if_neg e2, if_neg e3]
            rw [if_neg (by omega), if_neg (by omega)] at h1
            rw [if_neg e2, if_neg e3] at h2
            exact ordC_trans h1 h2
theorem ordC_total : ∀ {a b : List Int}, ¬ ordC a b < 0 → ¬ ordC b a < 0 → a = b
  | [], [], _, _ => rfl
  | [], _ :: _, h, _ => by simp [ordC] at h
  | _ :: _, [], _, h => by simp [ordC] at h
  | x :: a, y :: b, h1, h2 => by
    simp only [ordC] at h1 h2
    by_cases e1 : x < y
    · rw [if_pos e1] at h1; exact absurd (by decide) h1
    · by_cases e2 : y < x
      · rw [if_pos e2] at h2; exact absurd (by decide) h2
      · obtain rfl : x = y := by omega
        rw [if_neg e1, if_neg e1] at h1 h2
        rw [ordC_total h1 h2]
theorem memL_mem {S k : Nat} {i : Nat} : ((i : Nat) : Int) ∈ memL S k ↔ i < k ∧ S.testBit i = true := by
  unfold memL
  rw [List.mem_map]
  constructor
  · rintro ⟨j, hj, e⟩
    obtain rfl : j = i := by omega
    rw [List.mem_filter, List.mem_range] at hj
    exact hj
  · intro h
    exact ⟨i, by rw [List.mem_filter, List.mem_range]; exact h, rfl⟩
theorem bit_big {S n i : Nat} (hS : S < 2 ^ n) (hi : n ≤ i) : S.testBit i = false :=
  Nat.testBit_lt_two_pow (Nat.lt_of_lt_of_le hS (Nat.pow_le_pow_right (by decide) hi))
theorem memL_inj {S T n : Nat} (hS : S < 2 ^ n) (hT : T < 2 ^ n) (h : memL S n = memL T n) : S = T := by
  refine Nat.eq_of_testBit_eq fun i => ?_
  by_cases hi : i < n
  · have h1 := memL_mem (S := S) (k := n) (i := i)
    have h2 := memL_mem (S := T) (k := n) (i := i)
    rw [h] at h1
    rw [Bool.eq_iff_iff]
    exact ⟨fun e => (h2.1 (h1.2 ⟨hi, e⟩)).2, fun e => (h1.1 (h2.2 ⟨hi, e⟩)).2⟩
  · rw [bit_big hS (by omega), bit_big hT (by omega)]
theorem memL_more {S n : Nat} (hS : S < 2 ^ n) : ∀ d, memL S (n + d) = memL S n
  | 0 => rfl
  | d + 1 => by
    rw [← Nat.add_assoc, memL_succ, if_neg (by rw [bit_big hS (by omega)]; decide), memL_more hS d]
theorem memL_12 {S n : Nat} (hS : S < 2 ^ n) (hn : n ≤ 12) : memL S 12 = memL S n := by
  have := memL_more hS (12 - n)
  rwa [show n + (12 - n) = 12 by omega] at this
theorem memL_cnt (S : Nat) : ∀ k, (memL S k).length = cntB (fun i => S.testBit i) k
  | 0 => rfl
  | k + 1 => by
    rw [memL_succ, cntB]
    split
    · rw [List.length_append, memL_cnt S k]; rfl
    · rw [memL_cnt S k]; rfl
theorem cnt_sumN (p : Nat → Bool) : ∀ k, sumN k (fun i => if p i then 1 else 0) = cntB p k
  | 0 => rfl
  | k + 1 => by rw [sumN, cntB, cnt_sumN p k]
theorem cntB_more' {p : Nat → Bool} {n : Nat} (h : ∀ i, n ≤ i → p i = false) : ∀ d, cntB p (n + d) = cntB p n
  | 0 => rfl
  | d + 1 => by rw [← Nat.add_assoc, cntB, h _ (by omega), cntB_more' h d]; rfl
theorem pop16_mem {S n : Nat} (hS : S < 2 ^ n) (hn : n ≤ 16) : pop16 S = (memL S n).length := by
  rw [memL_cnt]
  unfold pop16
  rw [cnt_sumN (fun i => S.testBit i)]
  have := cntB_more' (p := fun i => S.testBit i) (n := n) (fun i hi => bit_big hS hi) (16 - n)
  rwa [show n + (16 - n) = 16 by omega] at this
theorem maskB_lt (p : Nat → Bool) (n : Nat) : maskB p n < 2 ^ n := by
  refine Nat.lt_pow_two_of_testBit _ fun i hi => ?_
  rw [maskB_bit]
  simp; omega
theorem linS_mem {fb : Nat → Nat → Bool} {n S : Nat} (hS : S < 2 ^ n) (hn : n ≤ 16) : linS fb n S = (memL S n).length + (memL (colsM fb n S) n).length := by
  unfold linS
  rw [pop16_mem hS hn, pop16_mem (S := colsM fb n S) (maskB_lt _ n) hn]
theorem linS_lines {fb : Nat → Nat → Bool} {n S : Nat} (hS : S < 2 ^ n) (hn : n ≤ 16) : linS fb n S = linesB fb n fun i => S.testBit i := by
  rw [linS_mem hS hn, memL_cnt, memL_cnt]
  unfold linesB colsM
  congr 1
  exact cntB_congr fun j hj => by rw [maskB_bit]; simp [hj]
theorem lines_mask (fb : Nat → Nat → Bool) (n : Nat) (A : Nat → Bool) : linesB fb n (fun i => (maskB A n).testBit i) = linesB fb n A := by
  unfold linesB
  rw [cntB_congr (p := fun i => (maskB A n).testBit i) (q := A) (n := n) fun i hi => by rw [maskB_bit]; simp [hi],
    cntB_congr (p := nbB fb n 0 fun i => !(maskB A n).testBit i) (q := nbB fb n 0 fun i => !A i) (n := n) fun j hj => nbB_congr (fun i hi => by rw [maskB_bit]; simp [hi]) j hj]
/-- The order of two sets: by lines, then asx lists. -/
theorem ordS_lt {fb : Nat → Nat → Bool} {n a b : Nat} : ordS fb n a b < 0 ↔ linS fb n a < linS fb n b ∨ linS fb n a = linS fb n b ∧ ordC (memL a 12) (memL b 12) < 0 := by
  unfold ordS
  by_cases h1 : linS fb n a < linS fb n b
  · have : ((linS fb n a : Nat) : Int) < ((linS fb n b : Nat) : Int) := by omega
    simp only [if_pos this]
    exact ⟨fun _ => Or.inl h1, fun _ => by rw [if_pos (by decide)]; decide⟩
  · have h2 : ¬ ((linS fb n a : Nat) : Int) < ((linS fb n b : Nat) : Int) := by omega
    by_cases h3 : linS fb n b < linS fb n a
    · have h4 : ((linS fb n b : Nat) : Int) < ((linS fb n a : Nat) : Int) := by omega
      simp only [if_neg h2, if_pos h4]
      exact ⟨fun h => absurd h (by rw [if_pos (by decide)]; decide), fun h => by omega⟩
    · have h4 : ¬ ((linS fb n b : Nat) : Int) < ((linS fb n a : Nat) : Int) := by omega
      simp only [if_neg h2, if_neg h4]
      rw [if_neg (by decide)]
      exact ⟨fun h => Or.inr ⟨by omega, h⟩, fun h => by rcases h with h | h; exact absurd h h1; exact h.2⟩
theorem ordS_trans {fb : Nat → Nat → Bool} {n a b c : Nat} (h1 : ordS fb n a b < 0) (h2 : ordS fb n b c < 0) : ordS fb n a c < 0 := by
  rw [ordS_lt] at h1 h2 ⊢
  rcases h1 with h1 | ⟨h1, h3⟩ <;> rcases h2 with h2 | ⟨h2, h4⟩
  · left; omega
  · left; omega
  · left; omega
  · exact Or.inr ⟨by omega, ordC_trans h3 h4⟩
theorem ordS_irr {fb : Nat → Nat → Bool} {n a : Nat} : ¬ ordS fb n a a < 0 := by
  rw [ordS_lt, ordC_irr]
  rintro (h | ⟨_, h⟩)
  · omega
  · exact absurd h (by decide)
theorem bestS_best (fb : Nat → Nat → Bool) (n : Nat) : ∀ k, 0 < k → bestS fb n k < k ∧ ∀ j, j < k → ¬ ordS fb n j (bestS fb n k) < 0
  | 0, h => by omega
  | 1, _ => by
    have : bestS fb n 1 = 0 := by
      show (if ordS fb n 0 0 < 0 then 0 else 0) = 0
      split <;> rfl
    rw [this]
    exact ⟨by decide, fun j hj => by obtain rfl : j = 0 := by omega
                                     exact ordS_irr⟩
  | k + 2, _ => by
    obtain ⟨h1, h2⟩ := bestS_best fb n (k + 1) (by omega)
    rw [bestS]
    split
    · rename_i h
      refine ⟨by omega, fun j hj hlt => ?_⟩
      by_cases e : j < k + 1
      · exact h2 j e (ordS_trans hlt h)
      · obtain rfl : j = k + 1 := by omega
        exact ordS_irr hlt
    · rename_i h
      refine ⟨by omega, fun j hj hlt => ?_⟩
      by_cases e : j < k + 1
      · exact h2 j e hlt
      · obtain rfl : j = k + 1 := by omega
        exact h hlt
/-- The best of the first k sets that have just M lines, if there is one. -/
def pickS (fb : Nat → Nat → Bool) (n M : Nat) : Nat → Option Nat
  | 0 => none
  | k + 1 => match pickS fb n M k with
    | none => if linS fb n k = M then some k else none
    | some b => if linS fb n k = M ∧ ordC (memL k n) (memL b n) < 0 then some k else some b
theorem pickS_is (fb : Nat → Nat → Bool) (n M : Nat) : ∀ k, (pickS fb n M k = none → ∀ j, j < k → linS fb n j ≠ M) ∧ ∀ b, pickS fb n M k = some b → b < k ∧ linS fb n b = M ∧ ∀ j, j < k → linS fb n j = M → ¬ ordC (memL j n) (memL b n) < 0
  | 0 => ⟨fun _ j hj => by omega, fun b h => by cases h⟩
  | k + 1 => by
    obtain ⟨h1, h2⟩ := pickS_is fb n M k
    rw [pickS]
    cases e : pickS fb n M k with
    | none =>
      have h3 := h1 e
      dsimp only
      by_cases hk : linS fb n k = M
      · rw [if_pos hk]
        refine ⟨(fun h => by cases h), fun b hb => ?_⟩
        cases hb
        refine ⟨by omega, hk, fun j hj hm => ?_⟩
        by_cases ej : j < k
        · exact absurd hm (h3 j ej)
        · obtain rfl : j = k := by omega
          rw [ordC_irr]; decide
      · rw [if_neg hk]
        refine ⟨fun _ j hj => ?_, (fun b hb => by cases hb)⟩
        by_cases ej : j < k
        · exact h3 j ej
        · obtain rfl : j = k := by omega
          exact hk
    | some b =>
      obtain ⟨hb1, hb2, hb3⟩ := h2 b e
      dsimp only
      by_cases hk : linS fb n k = M ∧ ordC (memL k n) (memL b n) < 0
      · rw [if_pos hk]
        refine ⟨(fun h => by cases h), fun c hc => ?_⟩
        cases hc
        refine ⟨by omega, hk.1, fun j hj hm hlt => ?_⟩
        by_cases ej : j < k
        · exact hb3 j ej hm (ordC_trans hlt hk.2)
        · obtain rfl : j = k := by omega
          rw [ordC_irr] at hlt; exact absurd hlt (by decide)
      · rw [if_neg hk]
        refine ⟨(fun h => by cases h), fun c hc => ?_⟩
        cases hc
        refine ⟨by omega, hb2, fun j hj hm hlt => ?_⟩
        by_cases ej : j < k
        · exact hb3 j ej hm hlt
        · obtain rfl : j = k := by omega
          exact hk ⟨hm, hlt⟩
theorem mostN_pos {f : Nat → Nat} (h0 : 0 < f 0) : ∀ n, 0 < f (mostN f n) ∧ ∀ k, mostN f n < k → k ≤ n → ¬ 0 < f k
  | 0 => ⟨h0, fun k h1 h2 => by omega⟩
  | n + 1 => by
    obtain ⟨h1, h2⟩ := mostN_pos h0 n
    rw [mostN]
    split
    · rename_i h
      exact ⟨h, fun k h3 h4 => by omega⟩
    · rename_i h
      refine ⟨h1, fun k h3 h4 => ?_⟩
      by_cases e : k ≤ n
      · exact h2 k h3 e
      · obtain rfl : k = n + 1 := by omega
        exact h
/-- Both ways of looking find the same set. -/
theorem pick_best {fb : Nat → Nat → Bool} {n : Nat} (h8 : n ≤ 8) : pickS fb n (mostN (rkN fb n) n) (2 ^ n) = some (bestS fb n (2 ^ n)) := by
  have h0 : rkN fb n 0 = 1 := rk0 fb n n 0
  obtain ⟨hp1, hp2⟩ := mostN_pos (f := rkN fb n) (by rw [h0]; decide) n
  obtain ⟨hm1, A, hA⟩ := most_lines hp1 hp2
  generalize mostN (rkN fb n) n = M at *
  have hpow : 0 < 2 ^ n := Nat.pow_pos (by decide)
  obtain ⟨hr1, hr2⟩ := bestS_best fb n (2 ^ n) hpow
  generalize bestS fb n (2 ^ n) = r at *
  have hall : ∀ j, j < 2 ^ n → M ≤ linS fb n j := fun j hj => by rw [linS_lines hj (by omega)]; exact hm1 _
  have hj0 := maskB_lt A n
  have hl0 : linS fb n (maskB A n) = M := by rw [linS_lines hj0 (by omega), lines_mask, hA]
  have hlr : linS fb n r = M := by
    have h1 := hr2 _ hj0
    rw [ordS_lt] at h1
    have h2 := hall r hr1
    have h3 : ¬ linS fb n (maskB A n) < linS fb n r := fun h => h1 (Or.inl h)
    omega
  obtain ⟨hq1, hq2⟩ := pickS_is fb n M (2 ^ n)
  cases e : pickS fb n M (2 ^ n) with
  | none => exact absurd hl0 (hq1 e _ hj0)
  | some b =>
    obtain ⟨hb1, hb2, hb3⟩ := hq2 b e
    have h1 := hb3 r hr1 hlr
    have h2 : ¬ ordC (memL b n) (memL r n) < 0 := fun h => hr2 b hb1 (ordS_lt.2 (Or.inr ⟨by omega, by rw [memL_12 hb1 (by omega), memL_12 hr1 (by omega)]; exact h⟩))
    rw [memL_inj hb1 hr1 (ordC_total h2 h1)]
end Go.Proofs.YtkphjdomdmpinaaDoor
namespace Go.Proofs.YtkphjdomdmpinaaDoor
open Go.Am
attribute [local irreducible] AW Outs Weak Lends Lend Sp aops atree aop1 Then Round InBlock Done
attribute [local irreducible] SpH SpX DoneH DoneX
theorem bdLess_spec (a b : List Int) (ha : a.length ≤ 1048576) (_hb : b.length ≤ 1048576) : Sp Tryd.prog 42 [ints a, ints b] (.b (decide (ordC a b < 0))) := by
  have h0 : ordC (a.drop 0) (b.drop 0) = ordC a b := rfl
  generalize ordC a b = T at h0 ⊢
  refine spec_of Tryd.func42 rfl cc42 rfl ?_
  unfold ac42
  repeat (first | (refine step_ops ?_; (refine m_mov (by conv => lhs; whnf) ?_)) | refine end_ops ?_ | refine seq_ops ?_ | refine AW_seq ?_ | refine AW_block ?_)
  refine AW_loop (α := Nat) (fun k => k ≤ a.length ∧ (k ≤ b.length) ∧ ordC (a.drop k) (b.drop k) = T) (fun k => st [(0, ints a), (1, ints b), (5, .i (k : Nat))] []) (fun k => a.length - k) 0 ⟨Nat.zero_le _, Nat.zero_le _, h0⟩ (weak_st ?_ ?_ rfl rfl) ?_
  · (repeat' (first | exact trivial | refine And.intro ?_ ?_)) <;> (first | rfl | skip)
  · trivial
  rintro k ⟨hk, hkb, he⟩
  by_cases hc : k < a.length
  · by_cases hc2 : k < b.length
    · rw [ordC_step hc hc2] at he
      by_cases hx : a.getD k 0 = b.getD k 0
      · rw [if_neg (by omega), if_neg (by omega)] at he
        repeat (first | ((first | refine step_ops ?_ | refine step_tree ?_); ((try (refine g_yes rfl ?_ ?_; (· first | rfl | assumption | (refine decide_eq_true ?_; first | assumption | omega) | (refine nt ?_; first | assumption | omega) | (simp [*]; done) | (refine decide_eq_false ?_; first | assumption | omega) | (refine nf ?_; first | assumption | omega)))); (first | (refine m_mov (by conv => lhs; whnf) ?_) | (refine m_lss rfl rfl ?_) | (refine m_neq rfl rfl ?_) | (refine m_add rfl rfl ?_ ?_ ?_; (· omega); (· omega)) | (refine m_len_ro rfl ?_) | (refine m_idx1_ro rfl rfl ?_ ?_; (· omega)) | (refine m_ld_rpi rfl ?_ ?_; (· omega)) | (refine m_pick_t rfl ?_ (by conv => lhs; whnf) ?_; (· first | rfl | assumption | (refine decide_eq_true ?_; first | assumption | omega) | (refine nt ?_; first | assumption | omega) | (simp [*]; done)))))) | refine end_ops ?_ | refine seq_ops ?_ | refine AW_ops ?_ | refine end_tree ?_ | refine seq_tree ?_ | (refine cond_t rfl ?_ ?_; (· first | rfl | assumption | (refine decide_eq_true ?_; first | assumption | omega) | (refine nt ?_; first | assumption | omega) | (simp [*]; done))) | (refine cond_f rfl ?_ ?_; (· first | rfl | assumption | (refine decide_eq_false ?_; first | assumption | omega) | (refine nf ?_; first | assumption | omega) | (simp [*]; done))) | refine skip_then ?_ | refine AW_seq ?_ | refine norm_then ?_ | refine AW_block ?_ | refine norm_block ?_ | refine AW_skip ?_)
        refine next_round (k + 1) ⟨hc, hc2, he⟩ (weak_st ?_ ?_ rfl rfl) ?_
        · (repeat' (first | exact trivial | refine And.intro ?_ ?_)) <;> (first | rfl | skip)
        · trivial
        · omega
      · by_cases hlt : a.getD k 0 < b.getD k 0
        · rw [if_pos hlt] at he
          subst he
          repeat (first | ((first | refine step_ops ?_ | refine step_tree ?_); ((try (refine g_yes rfl ?_ ?_; (· first | rfl | assumption | (refine decide_eq_true ?_; first | assumption | omega) | (refine nt ?_; first | assumption | omega) | (simp [*]; done) | (refine decide_eq_false ?_; first | assumption | omega) | (refine nf ?_; first | assumption | omega)))); (first | (refine m_mov (by conv => lhs; whnf) ?_) | (refine m_lss rfl rfl ?_) | (refine m_neq rfl rfl ?_) | (refine m_len_ro rfl ?_) | (refine m_idx1_ro rfl rfl ?_ ?_; (· omega)) | (refine m_ld_rpi rfl ?_ ?_; (· omega)) | (refine m_pick_t rfl ?_ (by conv => lhs; whnf) ?_; (· first | rfl | assumption | (refine decide_eq_true ?_; first | assumption | omega) | (refine nt ?_; first | assumption | omega) | (simp [*]; done)))))) | refine end_ops ?_ | refine seq_ops ?_ | refine end_tree ?_ | refine seq_tree ?_ | (refine cond_t rfl ?_ ?_; (· first | rfl | assumption | (refine decide_eq_true ?_; first | assumption | omega) | (refine nt ?_; first | assumption | omega) | (simp [*]; done))) | refine skip_then ?_ | refine AW_seq ?_ | refine AW_ret ?_ | refine ret_done ?_ | refine ret_then ?_ | refine AW_block ?_ | refine ret_block ?_ | refine ret_round ?_)
          exact outs_b (decide_eq_decide.2 ⟨fun _ => by omega, fun _ => by omega⟩)
        · rw [if_neg hlt, if_pos (by omega)] at he
          subst he
          repeat (first | ((first | refine step_ops ?_ | refine step_tree ?_); ((try (refine g_yes rfl ?_ ?_; (· first | rfl | assumption | (refine decide_eq_true ?_; first | assumption | omega) | (refine nt ?_; first | assumption | omega) | (simp [*]; done) | (refine decide_eq_false ?_; first | assumption | omega) | (refine nf ?_; first | assumption | omega)))); (first | (refine m_mov (by conv => lhs; whnf) ?_) | (refine m_lss rfl rfl ?_) | (refine m_neq rfl rfl ?_) | (refine m_len_ro rfl ?_) | (refine m_idx1_ro rfl rfl ?_ ?_; (· omega)) | (refine m_ld_rpi rfl ?_ ?_; (· omega)) | (refine m_pick_t rfl ?_ (by conv => lhs; whnf) ?_; (· first | rfl | assumption | (refine decide_eq_true ?_; first | assumption | omega) | (refine nt ?_; first | assumption | omega) | (simp [*]; done)))))) | refine end_ops ?_ | refine seq_ops ?_ | refine end_tree ?_ | refine seq_tree ?_ | (refine cond_t rfl ?_ ?_; (· first | rfl | assumption | (refine decide_eq_true ?_; first | assumption | omega) | (refine nt ?_; first | assumption | omega) | (simp [*]; done))) | refine skip_then ?_ | refine AW_seq ?_ | refine AW_ret ?_ | refine ret_done ?_ | refine ret_then ?_ | refine AW_block ?_ | refine ret_block ?_ | refine ret_round ?_)
          exact outs_b (decide_eq_decide.2 ⟨fun _ => by omega, fun _ => by omega⟩)
    · rw [ordC_right hc (by omega)] at he
      subst he
      have : ¬ a.length < b.length := by omega
      repeat (first | (refine step_ops ?_; ((try (refine g_yes rfl ?_ ?_; (· first | rfl | assumption | (refine decide_eq_true ?_; first | assumption | omega) | (refine nt ?_; first | assumption | omega) | (simp [*]; done) | (refine decide_eq_false ?_; first | assumption | omega) | (refine nf ?_; first | assumption | omega)))); (first | (refine m_mov (by conv => lhs; whnf) ?_) | (refine m_lss rfl rfl ?_) | (refine m_len_ro rfl ?_) | (refine m_pick_t rfl ?_ (by conv => lhs; whnf) ?_; (· first | rfl | assumption | (refine decide_eq_true ?_; first | assumption | omega) | (refine nt ?_; first | assumption | omega) | (simp [*]; done)))))) | refine end_ops ?_ | refine seq_ops ?_ | (refine cond_f rfl ?_ ?_; (· first | rfl | assumption | (refine decide_eq_false ?_; first | assumption | omega) | (refine nf ?_; first | assumption | omega) | (simp [*]; done))) | refine AW_seq ?_ | refine AW_ret ?_ | refine ret_done ?_ | refine norm_then ?_ | refine exit_then ?_ | refine exit_round ?_ | refine AW_exit ?_ | refine exit_block ?_)
      exact outs_b (decide_eq_decide.2 ⟨fun _ => by omega, fun _ => by omega⟩)
  · rw [ordC_end (by omega)] at he
    by_cases hl : k < b.length
    · rw [if_pos hl] at he
      subst he
      have : a.length < b.length := by omega
      repeat (first | (refine step_ops ?_; (first | (first | (refine m_mov (by conv => lhs; whnf) ?_) | (refine m_lss rfl rfl ?_) | (refine m_len_ro rfl ?_) | (refine m_pick_f rfl ?_ (by conv => lhs; whnf) ?_; (· first | rfl | assumption | (refine decide_eq_false ?_; first | assumption | omega) | (refine nf ?_; first | assumption | omega) | (simp [*]; done)))) | (refine g_noT rfl ?_ ?_; (· first | rfl | assumption | (refine decide_eq_false ?_; first | assumption | omega) | (refine nf ?_; first | assumption | omega) | (simp [*]; done))))) | refine end_ops ?_ | refine seq_ops ?_ | (refine cond_f rfl ?_ ?_; (· first | rfl | assumption | (refine decide_eq_false ?_; first | assumption | omega) | (refine nf ?_; first | assumption | omega) | (simp [*]; done))) | refine AW_seq ?_ | refine AW_ret ?_ | refine ret_done ?_ | refine norm_then ?_ | refine exit_then ?_ | refine exit_round ?_ | refine AW_exit ?_ | refine exit_block ?_)
      exact outs_b (decide_eq_decide.2 ⟨fun _ => by omega, fun _ => by omega⟩)
    · rw [if_neg hl] at he
      subst he
      have : ¬ a.length < b.length := by omega
      repeat (first | (refine step_ops ?_; (first | (first | (refine m_mov (by conv => lhs; whnf) ?_) | (refine m_lss rfl rfl ?_) | (refine m_len_ro rfl ?_) | (refine m_pick_f rfl ?_ (by conv => lhs; whnf) ?_; (· first | rfl | assumption | (refine decide_eq_false ?_; first | assumption | omega) | (refine nf ?_; first | assumption | omega) | (simp [*]; done)))) | (refine g_noT rfl ?_ ?_; (· first | rfl | assumption | (refine decide_eq_false ?_; first | assumption | omega) | (refine nf ?_; first | assumption | omega) | (simp [*]; done))))) | refine end_ops ?_ | refine seq_ops ?_ | (refine cond_f rfl ?_ ?_; (· first | rfl | assumption | (refine decide_eq_false ?_; first | assumption | omega) | (refine nf ?_; first | assumption | omega) | (simp [*]; done))) | refine AW_seq ?_ | refine AW_ret ?_ | refine ret_done ?_ | refine norm_then ?_ | refine exit_then ?_ | refine exit_round ?_ | refine AW_exit ?_ | refine exit_block ?_)
      exact outs_b (decide_eq_decide.2 ⟨fun _ => by omega, fun _ => by omega⟩)
/-- The rows of the fewest lines, and the columns. -/
def flS (B : List UInt8) : Nat := bestS (fbB B) (sdB B) (2 ^ sdB B)
def flRow (B : List UInt8) : List Int := if GoodBd B then memL (flS B) (sdB B) else []
def flCol (B : List UInt8) : List Int := if GoodBd B then memL (colsM (fbB B) (sdB B) (flS B)) (sdB B) else []
theorem flRow_len (B : List UInt8) : (flRow B).length ≤ 1048576 := by
  unfold flRow
  split
  · rename_i h
    have := good_sd h
    have := memL_len (flS B) (sdB B); omega
  · simp
theorem flCol_len (B : List UInt8) : (flCol B).length ≤ 1048576 := by
  unfold flCol
  split
  · rename_i h
    have := good_sd h
    have := memL_len (colsM (fbB B) (sdB B) (flS B)) (sdB B); omega
  · simp
def flR (B : List UInt8) : AV := .tup [.sl nbase 1 0 (flRow B).length, .sl (nbase + 1) 1 0 (flCol B).length, .b (decide (GoodBd B))]
/-- Two new lists. -/
abbrev twoH (a b : List Int) : List (Nat × (Bool × List AV)) := [(nbase, (true, a.map AV.i)), (nbase + 1, (true, b.map AV.i))]
def twoG (x y : Nat) : Nat → Nat := fun r => if r = nbase then x else y
theorem fl_own (q : Bool) (L : List Int) : ownL q (L.map AV.i) = true := by
  induction L with
  | nil => rfl
  | cons a l ih => show (ownV q (AV.i a) && ownL q (l.map AV.i)) = true; rw [ih]; rfl
theorem fl_refs (keep : Nat → Bool) (L : List Int) : refsL keep (L.map AV.i) = true := by
  induction L with
  | nil => rfl
  | cons a l ih => show (refsV keep (AV.i a) && refsL keep (l.map AV.i)) = true; rw [ih]; rfl
theorem static_two (a b : List Int) (n m : Nat) (x : Bool) : Static (Am.look []) (.tup [.sl nbase 1 0 n, .sl (nbase + 1) 1 0 m, .b x]) (Am.look (twoH a b)) :=
  static_R (by simp) (fun p hp => by
    rcases List.mem_cons.1 hp with rfl | hp
    · exact ⟨fl_own _ _, fl_refs _ _⟩
    · rw [List.mem_singleton] at hp; subst hp; exact ⟨fl_own _ _, fl_refs _ _⟩) ⟨rfl, by simp [refsV, refsL, Am.look]⟩
theorem ret_two {s : AS} {ts : List Nat} {a b : List Int} {n m x y : Nat} {q : Bool} (h1 : resAV s ts = .tup [.sl x 1 0 n, .sl y 1 0 m, .b q]) (h2 : s.hp x = some (true, a.map AV.i)) (h3 : s.hp y = some (true, b.map AV.i)) (hne : x ≠ y) (hx : x < pbase) (hy : y < pbase) :
    DoneH ts (.tup [.sl nbase 1 0 n, .sl (nbase + 1) 1 0 m, .b q]) (Am.look []) (Am.look (twoH a b)) .ret s := by
  refine ret_R (hl := []) (twoG x y) ?_ ⟨⟨_, h2, .inl ?_⟩, ⟨_, h3, .inl ?_⟩, trivial⟩ (by simp) ?_ ?_
  · rw [h1]; rfl
  · exact congrArg (Prod.mk true) (renL_ints _ _).symm
  · exact congrArg (Prod.mk true) (renL_ints _ _).symm
  · intro p hp
    refine .inr ?_
    rcases List.mem_cons.1 hp with rfl | hp
    · exact hx
    · rw [List.mem_singleton] at hp; subst hp; exact hy
  · show [x, y].Nodup
    simp [hne]
theorem implFewestLines_spec (B : List UInt8) (hB : B.length ≤ 1048576) : SpH Tryd.prog 26 [str B] (Am.look []) (flR B) (Am.look (twoH (flRow B) (flCol B))) := by
  have hr := readBoard_spec B hB
  unfold bdR bdV at hr
  have hst := static_two (flRow B) (flCol B) (flRow B).length (flCol B).length (decide (GoodBd B))
  unfold flR
  refine specH_of Tryd.func26 rfl cc26 rfl (by first | exact static_mat1 _ | exact static_mat2 _ _ | assumption) ?_
  unfold ac26
  by_cases h : GoodBd B
  · rw [if_pos h] at hr
    have hsd := good_sd h
    have hk := fewestLines_spec (fbB B) (sdB B) hsd.1 hsd.2
    have hlt : flS B < 2 ^ sdB B := (bestS_best (fbB B) (sdB B) (2 ^ sdB B) (Nat.pow_pos (by decide))).1
    have h9 : 2 ^ sdB B ≤ 2 ^ 8 := Nat.pow_le_pow_right (by decide) hsd.2
    have hcl := maskB_lt (nbB (fbB B) (sdB B) 0 fun i => !(flS B).testBit i) (sdB B)
    have hc := columnsBeside_spec (fbB B) (sdB B) (flS B) hsd.2 (by omega)
    have a1 := setNumbers_spec (flS B) (by omega)
    have a2 := setNumbers_spec (colsM (fbB B) (sdB B) (flS B)) (by show maskB _ _ < _; omega)
    rw [memL_12 hlt (by omega), show memL (flS B) (sdB B) = flRow B from (if_pos h).symm] at a1
    rw [memL_12 (show colsM (fbB B) (sdB B) (flS B) < 2 ^ sdB B from hcl) (by omega), show memL (colsM (fbB B) (sdB B) (flS B)) (sdB B) = flCol B from (if_pos h).symm] at a2
    rw [show bestS (fbB B) (sdB B) (2 ^ sdB B) = flS B from rfl] at hk
    unfold bdN at hk hc
    clear hst
    repeat (first | (refine step_ops ?_; (first | (refine m_mov (by conv => lhs; whnf) ?_) | (refine m_nils ?_))) | refine end_ops ?_ | refine seq_ops ?_)
    refine step_ops ?_; (apply m_call (hr)); (· repeat (first | exact lends_nil | (refine lends_cons ?_ ?_; (· exact lend_v))))
    repeat (first | (refine step_ops ?_; (first | (refine m_mov (by conv => lhs; whnf) ?_) | (refine m_not rfl ?_) | (refine m_ext rfl rfl ?_) | (refine m_alloc ?_) | (refine m_ldall rfl rfl ?_ ?_; (· first | rfl | (simp; done) | (simp [*]; done))) | (refine m_stall rfl rfl rfl ?_ ?_ ?_ ?_; (· first | rfl | (simp [*]; done)); (· first | rfl | (simp [*]; done)); (· first | rfl | (simp [cellOk, Value.oneCell']; done))))) | refine end_ops ?_ | refine seq_ops ?_ | (refine cond_f rfl ?_ ?_; (· first | rfl | assumption | (refine decide_eq_false ?_; first | assumption | omega) | (refine nf ?_; first | assumption | omega) | (simp [*]; done))) | refine skip_then ?_ | refine AW_seq ?_)
    refine step_ops ?_
    refine m_call hk (lends_cons (lend_aggM rfl) lends_nil) ?_
    repeat (first | ((first | refine step_ops ?_ | refine step_tree ?_); (refine m_mov (by conv => lhs; whnf) ?_)) | refine end_ops ?_ | refine seq_tree ?_)
    repeat' (first
      | ((first | (refine step_tree ?_; (first | (refine m_mov (by conv => lhs; whnf) ?_) | (refine m_ldall rfl rfl ?_ ?_; (· first | rfl | (simp; done) | (simp [*]; done))))) | refine end_tree ?_ | refine AW_ret ?_))
      | (refine step_two ?_ ?_)
      | (refine step_alt ?_ ?_)
      | (exact step_top)
      | (refine step_own ?_; refine m_owno a1 (lends_cons lend_v lends_nil) (allv_ints _) ?_)
      | (refine step_own ?_; refine m_owno a2 (lends_cons lend_v lends_nil) (allv_ints _) ?_)
      | (refine step_one ?_; refine m_callo a1 (lends_cons lend_v lends_nil) (allv_ints _) ?_)
      | (refine step_tree ?_; refine m_call hc (lends_cons (lend_aggM rfl) (lends_cons lend_v lends_nil)) ?_))
    all_goals
      skip
      refine ret_two (x := 18) (y := 22) ?_ rfl rfl (by decide) (by decide) (by decide)
      rw [decide_eq_true h]
      rfl
  · rw [if_neg h] at hr
    have e1 : flRow B = [] := if_neg h
    have e2 : flCol B = [] := if_neg h
    rw [e1, e2]
    repeat (first | (refine step_ops ?_; (first | (refine m_mov (by conv => lhs; whnf) ?_) | (refine m_nils ?_))) | refine end_ops ?_ | refine seq_ops ?_)
    refine step_ops ?_; (apply m_call (hr)); (· repeat (first | exact lends_nil | (refine lends_cons ?_ ?_; (· exact lend_v))))
    repeat (first | (refine step_ops ?_; (first | (refine m_mov (by conv => lhs; whnf) ?_) | (refine m_not rfl ?_) | (refine m_nils ?_) | (refine m_ext rfl rfl ?_) | (refine m_alloc ?_) | (refine m_stall rfl rfl rfl ?_ ?_ ?_ ?_; (· first | rfl | (simp [*]; done)); (· first | rfl | (simp [*]; done)); (· first | rfl | (simp [cellOk, Value.oneCell']; done))))) | refine end_ops ?_ | refine seq_ops ?_ | (refine cond_t rfl ?_ ?_; (· first | rfl | assumption | (refine decide_eq_true ?_; first | assumption | omega) | (refine nt ?_; first | assumption | omega) | (simp [*]; done))) | refine AW_seq ?_ | refine AW_ret ?_ | refine ret_then ?_)
    refine ret_two (x := 2) (y := 3) (a := []) (b := []) ?_ rfl rfl (by decide) (by decide) (by decide)
    rw [decide_eq_false h]
    rfl
end Go.Proofs.YtkphjdomdmpinaaDoor
namespace Go.Am
theorem g_unl {P : Program} {own : Bool} {s : AS} {K : AS → Prop} {d : Option Nat} {op : AOp} {t : Nat} {w : Bool} (h : s.tm t = .v undef) (k : K (s.put d (.v undef))) : aop1 P own ⟨d, op, some (t, w)⟩ s K := .inr ⟨h, k⟩
end Go.Am
namespace Go.Proofs.YtkphjdomdmpinaaDoor
open Go.Am
attribute [local irreducible] AW Outs Weak Lends Lend Sp aops atree aop1 Then Round InBlock Done
attribute [local irreducible] SpH SpX DoneH DoneX
/-- Do the first q rows, those of a set beside, need a column? -/
def needB (fb : Nat → Nat → Bool) (S j q : Nat) : Bool := (List.range q).any fun i => !S.testBit i && fb i j
theorem needB_succ (fb : Nat → Nat → Bool) (S j q : Nat) : needB fb S j (q + 1) = (needB fb S j q || (!S.testBit q && fb q j)) := by
  unfold needB
  rw [List.range_succ, List.any_append]
  simp
theorem needB_cols {fb : Nat → Nat → Bool} {n S j : Nat} (hj : j < n) : (colsM fb n S).testBit j = needB fb S j n := by
  unfold colsM
  rw [maskB_bit, decide_eq_true hj, Bool.true_and]
  unfold nbB needB
  simp
theorem l1HasM_spec (S n q : Nat) (hq : q < n) (hn : n ≤ 12) : Sp Tryd.prog 41 [ints (memL S n), .i (q : Nat)] (.b (S.testBit q)) := by
  have h := l1Has_spec (memL S n) (q : Nat) (by have := memL_len S n; omega)
  have e : decide (((q : Nat) : Int) ∈ memL S n) = S.testBit q := by
    cases hb : S.testBit q with
    | true => exact decide_eq_true (memL_mem.2 ⟨hq, hb⟩)
    | false => exact decide_eq_false fun hm => by rw [(memL_mem.1 hm).2] at hb; cases hb
  rw [e] at h
  exact h
def oRow (n : Nat) : Option Nat → List Int
  | none => []
  | some b => memL b n
def oCol (fb : Nat → Nat → Bool) (n : Nat) : Option Nat → List Int
  | none => []
  | some b => memL (colsM fb n b) n
theorem oRow_len (n : Nat) (o : Option Nat) : (oRow n o).length ≤ n := by
  cases o with
  | none => exact Nat.zero_le _
  | some b => exact memL_len b n
theorem oCol_len (fb : Nat → Nat → Bool) (n : Nat) (o : Option Nat) : (oCol fb n o).length ≤ n := by
  cases o with
  | none => exact Nat.zero_le _
  | some b => exact memL_len _ n
theorem pick_no {fb : Nat → Nat → Bool} {n M k : Nat} {o : Option Nat} (ho : pickS fb n M k = o) (h : linS fb n k ≠ M) : pickS fb n M (k + 1) = o := by
  rw [pickS, ho]
  cases o with
  | none => dsimp only; rw [if_neg h]
  | some b => dsimp only; rw [if_neg fun h2 => h h2.1]
theorem pick_first {fb : Nat → Nat → Bool} {n M k : Nat} (ho : pickS fb n M k = none) (h : linS fb n k = M) : pickS fb n M (k + 1) = some k := by
  rw [pickS, ho]; dsimp only; rw [if_pos h]
theorem pick_less {fb : Nat → Nat → Bool} {n M k b : Nat} (ho : pickS fb n M k = some b) (h : linS fb n k = M) (hl : ordC (memL k n) (memL b n) < 0) : pickS fb n M (k + 1) = some k := by
  rw [pickS, ho]; dsimp only; rw [if_pos ⟨h, hl⟩]
theorem pick_keep {fb : Nat → Nat → Bool} {n M k b : Nat} (ho : pickS fb n M k = some b) (hl : ¬ ordC (memL k n) (memL b n) < 0) : pickS fb n M (k + 1) = some b := by
  rw [pickS, ho]; dsimp only; rw [if_neg fun h2 => hl h2.2]
/-- The loop that asks the rows of a column. -/
def needC : ACode := (.seq (.seq (.ops [⟨(some 49), (.mov (.t 15)), none⟩, ⟨(some 50), (.mov (.t 0)), none⟩, ⟨(some 51), (.call 39 [(.t 50)]), none⟩, ⟨(some 52), (.bin .lss (.t 49) (.t 51)), none⟩]) (.cond (.t 52) .skip (.exit 6))) (.seq (.block 7 (.ops [⟨(some 55), (.mov (.t 14)), none⟩, ⟨(some 56), (.mov (.t 55)), none⟩, ⟨(some 57), (.mov (.t 0)), (some (56, false))⟩, ⟨(some 58), (.mov (.t 15)), (some (56, false))⟩, ⟨(some 59), (.mov (.t 13)), (some (56, false))⟩, ⟨(some 60), (.call 40 [(.t 57), (.t 58), (.t 59)]), (some (56, false))⟩, ⟨(some 61), (.mov (.t 60)), (some (56, false))⟩, ⟨(some 62), (.mov (.t 10)), (some (61, true))⟩, ⟨(some 63), (.mov (.t 15)), (some (61, true))⟩, ⟨(some 64), (.call 41 [(.t 62), (.t 63)]), (some (61, true))⟩, ⟨(some 65), (.not (.t 64)), (some (61, true))⟩, ⟨(some 66), (.pick (.t 61) (.t 65) (.c (.bool false))), (some (56, false))⟩, ⟨(some 67), (.pick (.t 56) (.c (.bool true)) (.t 66)), none⟩, ⟨(some 14), (.mov (.t 67)), none⟩])) (.ops [⟨(some 53), (.mov (.t 15)), none⟩, ⟨(some 54), (.bin .add (.t 53) (.c (.int .i64 1))), none⟩, ⟨(some 15), (.mov (.t 54)), none⟩])))
theorem fl_need (B : List UInt8) (h : GoodBd B) (hB : B.length ≤ 1048576) (M k j : Nat) (L6 L7 LC : List Int) (o : Bool) (hj1 : j < sdB B) (Q : Exit → AS → Prop) :
    AW Tryd.prog (min Tryd.f25.ntmps pbase) (.loop needC) (st [(0, str B), (5, .i (M : Nat)), (6, .sl 6 1 0 L6.length), (7, .sl 7 1 0 L7.length), (8, .b o), (9, .i (k : Nat)), (10, .sl 10 1 0 (memL k (sdB B)).length), (11, .sl 11 1 0 LC.length), (13, .i (j : Nat)), (14, .b (needB (fbB B) k j 0)), (15, .i (0 : Nat))]
      [(6, (true, L6.map AV.i)), (7, (true, L7.map AV.i)), (10, (true, (memL k (sdB B)).map AV.i)), (11, (true, LC.map AV.i))])
      (InBlock 6 (CutQ (st [(0, str B), (5, .i (M : Nat)), (6, .sl 6 1 0 L6.length), (7, .sl 7 1 0 L7.length), (8, .b o), (9, .i (k : Nat)), (10, .sl 10 1 0 (memL k (sdB B)).length), (11, .sl 11 1 0 LC.length), (13, .i (j : Nat)), (14, .b (needB (fbB B) k j (sdB B))), (15, .i (sdB B : Nat))]
      [(6, (true, L6.map AV.i)), (7, (true, L7.map AV.i)), (10, (true, (memL k (sdB B)).map AV.i)), (11, (true, LC.map AV.i))]) Q)) := by
  have hsd := good_sd h
  have hsp : sdB B ≤ 12 := by omega
  have l1 := memL_len k (sdB B)
  unfold needC
  refine AW_loop (α := Nat) (fun q => q ≤ sdB B) (fun q => st [(0, str B), (5, .i (M : Nat)), (6, .sl 6 1 0 L6.length), (7, .sl 7 1 0 L7.length), (8, .b o), (9, .i (k : Nat)), (10, .sl 10 1 0 (memL k (sdB B)).length), (11, .sl 11 1 0 LC.length), (13, .i (j : Nat)), (14, .b (needB (fbB B) k j q)), (15, .i (q : Nat))]
      [(6, (true, L6.map AV.i)), (7, (true, L7.map AV.i)), (10, (true, (memL k (sdB B)).map AV.i)), (11, (true, LC.map AV.i))]) (fun q => sdB B - q) 0 (Nat.zero_le _) (weak_st ?_ ?_ rfl rfl) ?_
  · (repeat' (first | exact trivial | refine And.intro ?_ ?_)) <;> (first | rfl | skip)
  · (repeat' (first | exact trivial | refine And.intro ?_ ?_)) <;> (first | rfl | skip)
  rintro q hq
  by_cases hq1 : q < sdB B
  · have hns := needB_succ (fbB B) k j q
    have hat := bdAt_spec B h q j hq1 hj1
    have hl1 := l1HasM_spec k (sdB B) q hq1 hsp
    cases hn : needB (fbB B) k j q with
    | true =>
      rw [hn, Bool.true_or] at hns
      repeat (first | (refine step_ops ?_; (refine m_mov (by conv => lhs; whnf) ?_)) | refine seq_ops ?_ | refine AW_seq ?_)
      refine step_ops ?_; (apply m_call (bdSide_spec B hB)); (· repeat (first | exact lends_nil | (refine lends_cons ?_ ?_; (· exact lend_v))))
      repeat (first | ((first | (refine step_ops ?_; (first | (first | (refine m_mov (by conv => lhs; whnf) ?_) | (refine m_lss rfl rfl ?_) | (refine m_add rfl rfl ?_ ?_ ?_; (· omega); (· omega)) | (refine m_pick_t rfl ?_ (by conv => lhs; whnf) ?_; (· first | rfl | assumption | (refine decide_eq_true ?_; first | assumption | omega) | (refine nt ?_; first | assumption | omega) | (simp [*]; done)))) | (refine g_noF rfl ?_ ?_; (· first | rfl | assumption | (refine decide_eq_true ?_; first | assumption | omega) | (refine nt ?_; first | assumption | omega) | (simp [*]; done))))) | refine end_ops ?_ | refine AW_ops ?_ | (refine cond_t rfl ?_ ?_; (· first | rfl | assumption | (refine decide_eq_true ?_; first | assumption | omega) | (refine nt ?_; first | assumption | omega) | (simp [*]; done))) | refine skip_then ?_ | refine AW_seq ?_ | refine norm_then ?_ | refine AW_block ?_ | refine norm_block ?_)) | (refine step_ops ?_; refine g_unl rfl ?_))
      refine next_round (q + 1) (by omega) (weak_st ?_ ?_ rfl rfl) (by omega)
      · rw [hns]; (repeat' (first | exact trivial | refine And.intro ?_ ?_)) <;> (first | rfl | skip)
      · (repeat' (first | exact trivial | refine And.intro ?_ ?_)) <;> (first | rfl | skip)
    | false =>
      rw [hn, Bool.false_or] at hns
      cases hf : fbB B q j with
      | false =>
        rw [hf, Bool.and_false] at hns
        rw [hf] at hat
        repeat (first | (refine step_ops ?_; (refine m_mov (by conv => lhs; whnf) ?_)) | refine seq_ops ?_ | refine AW_seq ?_)
        refine step_ops ?_; (apply m_call (bdSide_spec B hB)); (· repeat (first | exact lends_nil | (refine lends_cons ?_ ?_; (· exact lend_v))))
        repeat (first | (refine step_ops ?_; ((try (refine g_yes rfl ?_ ?_; (· first | rfl | assumption | (refine decide_eq_true ?_; first | assumption | omega) | (refine nt ?_; first | assumption | omega) | (simp [*]; done) | (refine decide_eq_false ?_; first | assumption | omega) | (refine nf ?_; first | assumption | omega)))); (first | (refine m_mov (by conv => lhs; whnf) ?_) | (refine m_lss rfl rfl ?_)))) | refine end_ops ?_ | refine AW_ops ?_ | (refine cond_t rfl ?_ ?_; (· first | rfl | assumption | (refine decide_eq_true ?_; first | assumption | omega) | (refine nt ?_; first | assumption | omega) | (simp [*]; done))) | refine skip_then ?_ | refine AW_seq ?_ | refine AW_block ?_)
        refine step_ops ?_; (refine g_yes rfl ?_ ?_; (· first | (first | rfl | assumption | (refine decide_eq_true ?_; first | assumption | omega) | (refine nt ?_; first | assumption | omega) | (simp [*]; done)) | (first | rfl | assumption | (refine decide_eq_false ?_; first | assumption | omega) | (refine nf ?_; first | assumption | omega) | (simp [*]; done))); (apply m_call (hat))); (· repeat (first | exact lends_nil | (refine lends_cons ?_ ?_; (· exact lend_v))))
        repeat (first | (refine step_ops ?_; (first | ((try (refine g_yes rfl ?_ ?_; (· first | rfl | assumption | (refine decide_eq_true ?_; first | assumption | omega) | (refine nt ?_; first | assumption | omega) | (simp [*]; done) | (refine decide_eq_false ?_; first | assumption | omega) | (refine nf ?_; first | assumption | omega)))); (first | (refine m_mov (by conv => lhs; whnf) ?_) | (refine m_add rfl rfl ?_ ?_ ?_; (· omega); (· omega)) | (refine m_pick_f rfl ?_ (by conv => lhs; whnf) ?_; (· first | rfl | assumption | (refine decide_eq_false ?_; first | assumption | omega) | (refine nf ?_; first | assumption | omega) | (simp [*]; done))))) | (refine g_noT rfl ?_ ?_; (· first | rfl | assumption | (refine decide_eq_false ?_; first | assumption | omega) | (refine nf ?_; first | assumption | omega) | (simp [*]; done))))) | refine end_ops ?_ | refine AW_ops ?_ | refine norm_then ?_ | refine norm_block ?_)
        refine next_round (q + 1) (by omega) (weak_st ?_ ?_ rfl rfl) (by omega)
        · rw [hns]; (repeat' (first | exact trivial | refine And.intro ?_ ?_)) <;> (first | rfl | skip)
        · (repeat' (first | exact trivial | refine And.intro ?_ ?_)) <;> (first | rfl | skip)
      | true =>
        rw [hf, Bool.and_true] at hns
        rw [hf] at hat
        cases hbt : k.testBit q with
        | true =>
          rw [hbt] at hns hl1
          repeat (first | (refine step_ops ?_; (refine m_mov (by conv => lhs; whnf) ?_)) | refine seq_ops ?_ | refine AW_seq ?_)
          refine step_ops ?_; (apply m_call (bdSide_spec B hB)); (· repeat (first | exact lends_nil | (refine lends_cons ?_ ?_; (· exact lend_v))))
          repeat (first | (refine step_ops ?_; ((try (refine g_yes rfl ?_ ?_; (· first | rfl | assumption | (refine decide_eq_true ?_; first | assumption | omega) | (refine nt ?_; first | assumption | omega) | (simp [*]; done) | (refine decide_eq_false ?_; first | assumption | omega) | (refine nf ?_; first | assumption | omega)))); (first | (refine m_mov (by conv => lhs; whnf) ?_) | (refine m_lss rfl rfl ?_)))) | refine end_ops ?_ | refine AW_ops ?_ | (refine cond_t rfl ?_ ?_; (· first | rfl | assumption | (refine decide_eq_true ?_; first | assumption | omega) | (refine nt ?_; first | assumption | omega) | (simp [*]; done))) | refine skip_then ?_ | refine AW_seq ?_ | refine AW_block ?_)
          refine step_ops ?_; (refine g_yes rfl ?_ ?_; (· first | (first | rfl | assumption | (refine decide_eq_true ?_; first | assumption | omega) | (refine nt ?_; first | assumption | omega) | (simp [*]; done)) | (first | rfl | assumption | (refine decide_eq_false ?_; first | assumption | omega) | (refine nf ?_; first | assumption | omega) | (simp [*]; done))); (apply m_call (hat))); (· repeat (first | exact lends_nil | (refine lends_cons ?_ ?_; (· exact lend_v))))
          repeat (refine step_ops ?_; ((try (refine g_yes rfl ?_ ?_; (· first | rfl | assumption | (refine decide_eq_true ?_; first | assumption | omega) | (refine nt ?_; first | assumption | omega) | (simp [*]; done) | (refine decide_eq_false ?_; first | assumption | omega) | (refine nf ?_; first | assumption | omega)))); (refine m_mov (by conv => lhs; whnf) ?_)))
          refine step_ops ?_; (refine g_yes rfl ?_ ?_; (· first | (first | rfl | assumption | (refine decide_eq_true ?_; first | assumption | omega) | (refine nt ?_; first | assumption | omega) | (simp [*]; done)) | (first | rfl | assumption | (refine decide_eq_false ?_; first | assumption | omega) | (refine nf ?_; first | assumption | omega) | (simp [*]; done))); (apply m_call (hl1))); (· repeat (first | exact lends_nil | (refine lends_cons ?_ ?_; (· (first | exact lend_v | (refine lend_sli (by rfl) ?_; first | rfl | omega | (simp; done)))))))
          repeat (first | (refine step_ops ?_; ((try (refine g_yes rfl ?_ ?_; (· first | rfl | assumption | (refine decide_eq_true ?_; first | assumption | omega) | (refine nt ?_; first | assumption | omega) | (simp [*]; done) | (refine decide_eq_false ?_; first | assumption | omega) | (refine nf ?_; first | assumption | omega)))); (first | (refine m_mov (by conv => lhs; whnf) ?_) | (refine m_add rfl rfl ?_ ?_ ?_; (· omega); (· omega)) | (refine m_not rfl ?_) | (refine m_pick_t rfl ?_ (by conv => lhs; whnf) ?_; (· first | rfl | assumption | (refine decide_eq_true ?_; first | assumption | omega) | (refine nt ?_; first | assumption | omega) | (simp [*]; done))) | (refine m_pick_f rfl ?_ (by conv => lhs; whnf) ?_; (· first | rfl | assumption | (refine decide_eq_false ?_; first | assumption | omega) | (refine nf ?_; first | assumption | omega) | (simp [*]; done)))))) | refine end_ops ?_ | refine AW_ops ?_ | refine norm_then ?_ | refine norm_block ?_)
          refine next_round (q + 1) (by omega) (weak_st ?_ ?_ rfl rfl) (by omega)
          · rw [hns]; (repeat' (first | exact trivial | refine And.intro ?_ ?_)) <;> (first | rfl | skip)
          · (repeat' (first | exact trivial | refine And.intro ?_ ?_)) <;> (first | rfl | skip)
        | false =>
          rw [hbt] at hns hl1
          repeat (first | (refine step_ops ?_; (refine m_mov (by conv => lhs; whnf) ?_)) | refine seq_ops ?_ | refine AW_seq ?_)
          refine step_ops ?_; (apply m_call (bdSide_spec B hB)); (· repeat (first | exact lends_nil | (refine lends_cons ?_ ?_; (· exact lend_v))))
          repeat (first | (refine step_ops ?_; ((try (refine g_yes rfl ?_ ?_; (· first | rfl | assumption | (refine decide_eq_true ?_; first | assumption | omega) | (refine nt ?_; first | assumption | omega) | (simp [*]; done) | (refine decide_eq_false ?_; first | assumption | omega) | (refine nf ?_; first | assumption | omega)))); (first | (refine m_mov (by conv => lhs; whnf) ?_) | (refine m_lss rfl rfl ?_)))) | refine end_ops ?_ | refine AW_ops ?_ | (refine cond_t rfl ?_ ?_; (· first | rfl | assumption | (refine decide_eq_true ?_; first | assumption | omega) | (refine nt ?_; first | assumption | omega) | (simp [*]; done))) | refine skip_then ?_ | refine AW_seq ?_ | refine AW_block ?_)
          refine step_ops ?_; (refine g_yes rfl ?_ ?_; (· first | (first | rfl | assumption | (refine decide_eq_true ?_; first | assumption | omega) | (refine nt ?_; first | assumption | omega) | (simp [*]; done)) | (first | rfl | assumption | (refine decide_eq_false ?_; first | assumption | omega) | (refine nf ?_; first | assumption | omega) | (simp [*]; done))); (apply m_call (hat))); (· repeat (first | exact lends_nil | (refine lends_cons ?_ ?_; (· exact lend_v))))
          repeat (refine step_ops ?_; ((try (refine g_yes rfl ?_ ?_; (· first | rfl | assumption | (refine decide_eq_true ?_; first | assumption | omega) | (refine nt ?_; first | assumption | omega) | (simp [*]; done) | (refine decide_eq_false ?_; first | assumption | omega) | (refine nf ?_; first | assumption | omega)))); (refine m_mov (by conv => lhs; whnf) ?_)))
          refine step_ops ?_; (refine g_yes rfl ?_ ?_; (· first | (first | rfl | assumption | (refine decide_eq_true ?_; first | assumption | omega) | (refine nt ?_; first | assumption | omega) | (simp [*]; done)) | (first | rfl | assumption | (refine decide_eq_false ?_; first | assumption | omega) | (refine nf ?_; first | assumption | omega) | (simp [*]; done))); (apply m_call (hl1))); (· repeat (first | exact lends_nil | (refine lends_cons ?_ ?_; (· (first | exact lend_v | (refine lend_sli (by rfl) ?_; first | rfl | omega | (simp; done)))))))
          repeat (first | (refine step_ops ?_; ((try (refine g_yes rfl ?_ ?_; (· first | rfl | assumption | (refine decide_eq_true ?_; first | assumption | omega) | (refine nt ?_; first | assumption | omega) | (simp [*]; done) | (refine decide_eq_false ?_; first | assumption | omega) | (refine nf ?_; first | assumption | omega)))); (first | (refine m_mov (by conv => lhs; whnf) ?_) | (refine m_add rfl rfl ?_ ?_ ?_; (· omega); (· omega)) | (refine m_not rfl ?_) | (refine m_pick_t rfl ?_ (by conv => lhs; whnf) ?_; (· first | rfl | assumption | (refine decide_eq_true ?_; first | assumption | omega) | (refine nt ?_; first | assumption | omega) | (simp [*]; done))) | (refine m_pick_f rfl ?_ (by conv => lhs; whnf) ?_; (· first | rfl | assumption | (refine decide_eq_false ?_; first | assumption | omega) | (refine nf ?_; first | assumption | omega) | (simp [*]; done)))))) | refine end_ops ?_ | refine AW_ops ?_ | refine norm_then ?_ | refine norm_block ?_)
          refine next_round (q + 1) (by omega) (weak_st ?_ ?_ rfl rfl) (by omega)
          · rw [hns]; (repeat' (first | exact trivial | refine And.intro ?_ ?_)) <;> (first | rfl | skip)
          · (repeat' (first | exact trivial | refine And.intro ?_ ?_)) <;> (first | rfl | skip)
  · obtain rfl : q = sdB B := by omega
    repeat (first | (refine step_ops ?_; (refine m_mov (by conv => lhs; whnf) ?_)) | refine seq_ops ?_ | refine AW_seq ?_)
    refine step_ops ?_; (apply m_call (bdSide_spec B hB)); (· repeat (first | exact lends_nil | (refine lends_cons ?_ ?_; (· exact lend_v))))
    repeat (first | (refine step_ops ?_; (refine m_lss rfl rfl ?_)) | refine end_ops ?_ | (refine cond_f rfl ?_ ?_; (· first | rfl | assumption | (refine decide_eq_false ?_; first | assumption | omega) | (refine nf ?_; first | assumption | omega) | (simp [*]; done))) | refine exit_then ?_ | refine exit_round ?_ | refine AW_exit ?_ | refine exit_block ?_)
    refine weak_st ?_ ?_ rfl rfl
    · (repeat' (first | exact trivial | refine And.intro ?_ ?_)) <;> (first | rfl | skip)
    · (repeat' (first | exact trivial | refine And.intro ?_ ?_)) <;> (first | rfl | skip)
theorem specFl_yes (B : List UInt8) (h : GoodBd B) (hB : B.length ≤ 1048576) : Sp Tryd.prog 25 [str B] (.tup [newInts (memL (flS B) (sdB B)), newInts (memL (colsM (fbB B) (sdB B) (flS B)) (sdB B)), .b true]) := by
  have hsd := good_sd h
  have hend : pickS (fbB B) (sdB B) (mostN (rkN (fbB B) (sdB B)) (sdB B)) (2 ^ sdB B) = some (flS B) := pick_best hsd.2
  have hmost := bdMost_spec B h hB
  have hgood := bdGood_spec B hB
  rw [decide_eq_true h] at hgood
  have hsp : sdB B ≤ 12 := by omega
  generalize mostN (rkN (fbB B) (sdB B)) (sdB B) = M at *
  have h9 : 2 ^ sdB B ≤ 2 ^ 8 := Nat.pow_le_pow_right (by decide) hsd.2
  refine spec_of Tryd.func25 rfl cc25 rfl ?_
  unfold ac25
  repeat (first | (refine step_ops ?_; (first | (refine m_mov (by conv => lhs; whnf) ?_) | (refine m_nils ?_))) | refine end_ops ?_ | refine seq_ops ?_ | refine AW_seq ?_)
  (refine step_ops ?_); (apply m_call (hgood)); (· repeat (first | exact lends_nil | (refine lends_cons ?_ ?_; (· exact lend_v))))
  repeat (first | (refine step_ops ?_; (first | (refine m_mov (by conv => lhs; whnf) ?_) | (refine m_not rfl ?_))) | refine end_ops ?_ | refine seq_ops ?_ | (refine cond_f rfl ?_ ?_; (· first | rfl | assumption | (refine decide_eq_false ?_; first | assumption | omega) | (refine nf ?_; first | assumption | omega) | (simp [*]; done))) | refine skip_then ?_)
  (refine step_ops ?_); (apply m_call (hmost)); (· repeat (first | exact lends_nil | (refine lends_cons ?_ ?_; (· exact lend_v))))
  repeat (first | (refine step_ops ?_; (first | (refine m_mov (by conv => lhs; whnf) ?_) | (refine m_nils ?_))) | refine end_ops ?_ | refine seq_ops ?_ | refine AW_seq ?_ | refine AW_block ?_)
  refine AW_loop (α := Nat) (fun k => k ≤ 2 ^ sdB B) (fun k => st [(0, str B), (5, .i (M : Nat)), (6, .sl 6 1 0 (oRow (sdB B) (pickS (fbB B) (sdB B) M k)).length), (7, .sl 7 1 0 (oCol (fbB B) (sdB B) (pickS (fbB B) (sdB B) M k)).length), (8, .b (pickS (fbB B) (sdB B) M k).isSome), (9, .i (k : Nat))]
    [(6, (true, (oRow (sdB B) (pickS (fbB B) (sdB B) M k)).map AV.i)), (7, (true, (oCol (fbB B) (sdB B) (pickS (fbB B) (sdB B) M k)).map AV.i))]) (fun k => 2 ^ sdB B - k) 0 (Nat.zero_le _) (weak_st ?_ ?_ rfl rfl) ?_
  · (repeat' (first | exact trivial | refine And.intro ?_ ?_)) <;> (first | rfl | skip)
  · (repeat' (first | exact trivial | refine And.intro ?_ ?_)) <;> (first | rfl | skip)
  rintro k hk
  generalize ho : pickS (fbB B) (sdB B) M k = o
  have hr1 := oRow_len (sdB B) o
  have hr2 := oCol_len (fbB B) (sdB B) o
  have l1 := memL_len k (sdB B)
  by_cases hc : k < 2 ^ sdB B
  · repeat (first | (refine step_ops ?_; (refine m_mov (by conv => lhs; whnf) ?_)) | refine seq_ops ?_ | refine AW_seq ?_)
    (refine step_ops ?_); (apply m_call (bdSide_spec B hB)); (· repeat (first | exact lends_nil | (refine lends_cons ?_ ?_; (· exact lend_v))))
    skip
    refine step_ops ?_
    refine m_shlz (k := sdB B) (z := 2 ^ sdB B) rfl rfl (by omega) rfl ?_
    repeat (first | (refine step_ops ?_; (first | (refine m_mov (by conv => lhs; whnf) ?_) | (refine m_lss rfl rfl ?_) | (refine m_nils ?_))) | refine end_ops ?_ | refine seq_ops ?_ | (refine cond_t rfl ?_ ?_; (· first | rfl | assumption | (refine decide_eq_true ?_; first | assumption | omega) | (refine nt ?_; first | assumption | omega) | (simp [*]; done))) | refine skip_then ?_ | refine AW_seq ?_ | refine AW_block ?_)
    refine AW_loop (α := Nat) (fun i => i ≤ sdB B) (fun i => st [(0, str B), (5, .i (M : Nat)), (6, .sl 6 1 0 (oRow (sdB B) o).length), (7, .sl 7 1 0 (oCol (fbB B) (sdB B) o).length), (8, .b o.isSome), (9, .i (k : Nat)), (10, .sl 10 1 0 (memL k i).length), (11, .sl 11 1 0 0), (12, .i (i : Nat))]
      [(6, (true, (oRow (sdB B) o).map AV.i)), (7, (true, (oCol (fbB B) (sdB B) o).map AV.i)), (10, (true, (memL k i).map AV.i)), (11, (true, []))]) (fun i => sdB B - i) 0 (Nat.zero_le _) (weak_st ?_ ?_ rfl rfl) ?_
    · (repeat' (first | exact trivial | refine And.intro ?_ ?_)) <;> (first | rfl | skip)
    · (repeat' (first | exact trivial | refine And.intro ?_ ?_)) <;> (first | rfl | skip)
    · rintro i hi
      have hlen := memL_len k i
      have hsn := memL_succ k i
      by_cases hi1 : i < sdB B
      · by_cases hbit : k.testBit i = true
        · have hz := bit1 hbit
          rw [if_pos hbit] at hsn
          repeat (first | (refine step_ops ?_; (refine m_mov (by conv => lhs; whnf) ?_)) | refine seq_ops ?_ | refine AW_seq ?_)
          (refine step_ops ?_); (apply m_call (bdSide_spec B hB)); (· repeat (first | exact lends_nil | (refine lends_cons ?_ ?_; (· exact lend_v))))
          repeat (first | (refine step_ops ?_; (first | (refine m_mov (by conv => lhs; whnf) ?_) | (refine m_lss rfl rfl ?_))) | refine end_ops ?_ | refine seq_ops ?_ | (refine cond_t rfl ?_ ?_; (· first | rfl | assumption | (refine decide_eq_true ?_; first | assumption | omega) | (refine nt ?_; first | assumption | omega) | (simp [*]; done))) | refine skip_then ?_ | refine AW_seq ?_ | refine AW_block ?_)
          refine step_ops ?_
          refine m_shri (a := k) (k := i) rfl rfl (by omega) ?_
          refine step_ops ?_
          refine m_andz (a := k >>> i) (z := 1) rfl rfl (Nat.lt_of_le_of_lt (Nat.shiftRight_le k i) (by omega)) hz ?_
          repeat (first | (refine step_ops ?_; (first | (refine m_mov (by conv => lhs; whnf) ?_) | (refine m_eql rfl rfl ?_) | (refine m_add rfl rfl ?_ ?_ ?_; (· omega); (· omega)) | (refine m_bsl1 rfl rfl ?_) | (refine m_app1i rfl (by decide) (by rfl) (by first | rfl | omega | (simp; done)) rfl rfl ?_ (by decide) ?_; (· first | omega | (simp; omega))))) | refine end_ops ?_ | refine AW_ops ?_ | (refine cond_t rfl ?_ ?_; (· first | rfl | assumption | (refine decide_eq_true ?_; first | assumption | omega) | (refine nt ?_; first | assumption | omega) | (simp [*]; done))) | refine norm_then ?_ | refine norm_block ?_)
          refine next_round (i + 1) (by omega) (Weak.trans (weak_move (r := 42) (q := 10) rfl (by decide) (by decide)) (weak_st ?_ ?_ rfl rfl)) (by omega)
          · rw [hsn]; (repeat' (first | exact trivial | refine And.intro ?_ ?_)) <;> (first | rfl | skip)
          · rw [hsn]; (repeat' (first | exact trivial | refine And.intro ?_ ?_)) <;> (first | rfl | skip)
        · have hbit : k.testBit i = false := by simpa using hbit
          have hz := bitz hbit
          rw [if_neg (by rw [hbit]; decide)] at hsn
          repeat (first | (refine step_ops ?_; (refine m_mov (by conv => lhs; whnf) ?_)) | refine seq_ops ?_ | refine AW_seq ?_)
          (refine step_ops ?_); (apply m_call (bdSide_spec B hB)); (· repeat (first | exact lends_nil | (refine lends_cons ?_ ?_; (· exact lend_v))))
          repeat (first | (refine step_ops ?_; (first | (refine m_mov (by conv => lhs; whnf) ?_) | (refine m_lss rfl rfl ?_))) | refine end_ops ?_ | refine seq_ops ?_ | (refine cond_t rfl ?_ ?_; (· first | rfl | assumption | (refine decide_eq_true ?_; first | assumption | omega) | (refine nt ?_; first | assumption | omega) | (simp [*]; done))) | refine skip_then ?_ | refine AW_seq ?_ | refine AW_block ?_)
          refine step_ops ?_
          refine m_shri (a := k) (k := i) rfl rfl (by omega) ?_
          refine step_ops ?_
          refine m_andz (a := k >>> i) (z := 0) rfl rfl (Nat.lt_of_le_of_lt (Nat.shiftRight_le k i) (by omega)) hz ?_
          repeat (first | (refine step_ops ?_; (first | (refine m_mov (by conv => lhs; whnf) ?_) | (refine m_eql rfl rfl ?_) | (refine m_add rfl rfl ?_ ?_ ?_; (· omega); (· omega)))) | refine end_ops ?_ | refine AW_ops ?_ | (refine cond_f rfl ?_ ?_; (· first | rfl | assumption | (refine decide_eq_false ?_; first | assumption | omega) | (refine nf ?_; first | assumption | omega) | (simp [*]; done))) | refine norm_then ?_ | refine norm_block ?_ | refine AW_skip ?_)
          refine next_round (i + 1) (by omega) (weak_st ?_ ?_ rfl rfl) (by omega)
          · rw [hsn]; (repeat' (first | exact trivial | refine And.intro ?_ ?_)) <;> (first | rfl | skip)
          · rw [hsn]; (repeat' (first | exact trivial | refine And.intro ?_ ?_)) <;> (first | rfl | skip)
      · obtain rfl : i = sdB B := by omega
        repeat (first | (refine step_ops ?_; (refine m_mov (by conv => lhs; whnf) ?_)) | refine seq_ops ?_ | refine AW_seq ?_)
        (refine step_ops ?_); (apply m_call (bdSide_spec B hB)); (· repeat (first | exact lends_nil | (refine lends_cons ?_ ?_; (· exact lend_v))))
        repeat (first | (refine step_ops ?_; (first | (refine m_mov (by conv => lhs; whnf) ?_) | (refine m_lss rfl rfl ?_))) | refine end_ops ?_ | refine seq_ops ?_ | (refine cond_f rfl ?_ ?_; (· first | rfl | assumption | (refine decide_eq_false ?_; first | assumption | omega) | (refine nf ?_; first | assumption | omega) | (simp [*]; done))) | refine AW_seq ?_ | refine norm_then ?_ | refine exit_then ?_ | refine AW_block ?_ | refine exit_round ?_ | refine AW_exit ?_ | refine exit_block ?_)
        have hcl := fun (j : Nat) (hj : j < sdB B) => needB_cols (fb := fbB B) (n := sdB B) (S := k) hj
        have hln := linS_mem (fb := fbB B) (n := sdB B) (S := k) hc (by omega)
        generalize hC : colsM (fbB B) (sdB B) k = C at *
        have l2 := memL_len C (sdB B)
        refine AW_loop (α := Nat) (fun j => j ≤ sdB B) (fun j => st [(0, str B), (5, .i (M : Nat)), (6, .sl 6 1 0 (oRow (sdB B) o).length), (7, .sl 7 1 0 (oCol (fbB B) (sdB B) o).length), (8, .b o.isSome), (9, .i (k : Nat)), (10, .sl 10 1 0 (memL k (sdB B)).length), (11, .sl 11 1 0 (memL C j).length), (13, .i (j : Nat))]
          [(6, (true, (oRow (sdB B) o).map AV.i)), (7, (true, (oCol (fbB B) (sdB B) o).map AV.i)), (10, (true, (memL k (sdB B)).map AV.i)), (11, (true, (memL C j).map AV.i))]) (fun j => sdB B - j) 0 (Nat.zero_le _) (weak_st ?_ ?_ rfl rfl) ?_
        · (repeat' (first | exact trivial | refine And.intro ?_ ?_)) <;> (first | rfl | skip)
        · (repeat' (first | exact trivial | refine And.intro ?_ ?_)) <;> (first | rfl | skip)
        · rintro j hj
          have hlen := memL_len C j
          have hsn := memL_succ C j
          by_cases hj1 : j < sdB B
          · rw [hcl j hj1] at hsn
            repeat (first | (refine step_ops ?_; (refine m_mov (by conv => lhs; whnf) ?_)) | refine seq_ops ?_ | refine AW_seq ?_)
            (refine step_ops ?_); (apply m_call (bdSide_spec B hB)); (· repeat (first | exact lends_nil | (refine lends_cons ?_ ?_; (· exact lend_v))))
            repeat (first | (refine step_ops ?_; (first | (refine m_mov (by conv => lhs; whnf) ?_) | (refine m_lss rfl rfl ?_))) | refine end_ops ?_ | refine seq_ops ?_ | (refine cond_t rfl ?_ ?_; (· first | rfl | assumption | (refine decide_eq_true ?_; first | assumption | omega) | (refine nt ?_; first | assumption | omega) | (simp [*]; done))) | refine skip_then ?_ | refine AW_seq ?_ | refine AW_block ?_)
            refine AW_cutloop (st [(0, str B), (5, .i (M : Nat)), (6, .sl 6 1 0 (oRow (sdB B) o).length), (7, .sl 7 1 0 (oCol (fbB B) (sdB B) o).length), (8, .b o.isSome), (9, .i (k : Nat)), (10, .sl 10 1 0 (memL k (sdB B)).length), (11, .sl 11 1 0 (memL C j).length), (13, .i (j : Nat)), (14, .b (needB (fbB B) k j (sdB B))), (15, .i (sdB B : Nat))]
      [(6, (true, (oRow (sdB B) o).map AV.i)), (7, (true, (oCol (fbB B) (sdB B) o).map AV.i)), (10, (true, (memL k (sdB B)).map AV.i)), (11, (true, (memL C j).map AV.i))]) ?_ (AW_weak (weak_st ?_ ?_ rfl rfl) (fl_need B h hB M k j (oRow (sdB B) o) (oCol (fbB B) (sdB B) o) (memL C j) o.isSome hj1 _))
            · cases hn : needB (fbB B) k j (sdB B) with
              | true =>
                rw [if_pos hn] at hsn
                repeat (first | (refine step_ops ?_; (first | (refine m_mov (by conv => lhs; whnf) ?_) | (refine m_add rfl rfl ?_ ?_ ?_; (· omega); (· omega)) | (refine m_bsl1 rfl rfl ?_) | (refine m_app1i rfl (by decide) (by rfl) (by first | rfl | omega | (simp; done)) rfl rfl ?_ (by decide) ?_; (· first | omega | (simp; omega))))) | refine end_ops ?_ | refine seq_ops ?_ | refine AW_ops ?_ | (refine cond_t rfl ?_ ?_; (· first | rfl | assumption | (refine decide_eq_true ?_; first | assumption | omega) | (refine nt ?_; first | assumption | omega) | (simp [*]; done))) | refine norm_then ?_ | refine norm_block ?_)
                refine next_round (j + 1) (by omega) (Weak.trans (weak_move (r := 72) (q := 11) rfl (by decide) (by decide)) (weak_st ?_ ?_ rfl rfl)) (by omega)
                · rw [hsn]; (repeat' (first | exact trivial | refine And.intro ?_ ?_)) <;> (first | rfl | skip)
                · rw [hsn]; (repeat' (first | exact trivial | refine And.intro ?_ ?_)) <;> (first | rfl | skip)
              | false =>
                rw [if_neg (by rw [hn]; decide)] at hsn
                repeat (first | (refine step_ops ?_; (first | (refine m_mov (by conv => lhs; whnf) ?_) | (refine m_add rfl rfl ?_ ?_ ?_; (· omega); (· omega)))) | refine end_ops ?_ | refine seq_ops ?_ | refine AW_ops ?_ | (refine cond_f rfl ?_ ?_; (· first | rfl | assumption | (refine decide_eq_false ?_; first | assumption | omega) | (refine nf ?_; first | assumption | omega) | (simp [*]; done))) | refine norm_then ?_ | refine norm_block ?_ | refine AW_skip ?_)
                refine next_round (j + 1) (by omega) (weak_st ?_ ?_ rfl rfl) (by omega)
                · rw [hsn]; (repeat' (first | exact trivial | refine And.intro ?_ ?_)) <;> (first | rfl | skip)
                · rw [hsn]; (repeat' (first | exact trivial | refine And.intro ?_ ?_)) <;> (first | rfl | skip)
            · (repeat' (first | exact trivial | refine And.intro ?_ ?_)) <;> (first | rfl | skip)
            · (repeat' (first | exact trivial | refine And.intro ?_ ?_)) <;> (first | rfl | skip)
          · obtain rfl : j = sdB B := by omega
            by_cases hls : linS (fbB B) (sdB B) k = M
            · have hsum : ((memL k (sdB B)).length : Int) + ((memL C (sdB B)).length : Int) = (M : Nat) := by omega
              cases o with
              | none =>
                have hp := pick_first ho hls
                repeat (first | (refine step_ops ?_; (refine m_mov (by conv => lhs; whnf) ?_)) | refine seq_ops ?_ | refine AW_seq ?_)
                (refine step_ops ?_); (apply m_call (bdSide_spec B hB)); (· repeat (first | exact lends_nil | (refine lends_cons ?_ ?_; (· exact lend_v))))
                repeat (first | (refine step_ops ?_; (first | ((try (refine g_yes rfl ?_ ?_; (· first | rfl | assumption | (refine decide_eq_true ?_; first | assumption | omega) | (refine nt ?_; first | assumption | omega) | (simp [*]; done) | (refine decide_eq_false ?_; first | assumption | omega) | (refine nf ?_; first | assumption | omega)))); (first | (refine m_mov (by conv => lhs; whnf) ?_) | (refine m_lss rfl rfl ?_) | (refine m_eql rfl rfl ?_) | (refine m_add rfl rfl ?_ ?_ ?_; (· omega); (· omega)) | (refine m_not rfl ?_) | (refine m_len_sl rfl ?_) | (refine m_pick_t rfl ?_ (by conv => lhs; whnf) ?_; (· first | rfl | assumption | (refine decide_eq_true ?_; first | assumption | omega) | (refine nt ?_; first | assumption | omega) | (simp [*]; done))))) | (refine g_noF rfl ?_ ?_; (· first | rfl | assumption | (refine decide_eq_true ?_; first | assumption | omega) | (refine nt ?_; first | assumption | omega) | (simp [*]; done))))) | refine end_ops ?_ | refine seq_ops ?_ | refine AW_ops ?_ | (refine cond_t rfl ?_ ?_; (· first | rfl | assumption | (refine decide_eq_true ?_; first | assumption | omega) | (refine nt ?_; first | assumption | omega) | (simp [*]; done))) | (refine cond_f rfl ?_ ?_; (· first | rfl | assumption | (refine decide_eq_false ?_; first | assumption | omega) | (refine nf ?_; first | assumption | omega) | (simp [*]; done))) | refine norm_then ?_ | refine exit_then ?_ | refine norm_block ?_ | refine exit_round ?_ | refine AW_exit ?_ | refine exit_block ?_)
                refine next_round (k + 1) (by omega) (Weak.trans (weak_move (r := 10) (q := 6) rfl (by decide) (by decide)) (Weak.trans (weak_move (r := 11) (q := 7) rfl (by decide) (by decide)) (weak_st ?_ ?_ rfl rfl))) (by omega)
                · rw [hp]; unfold oRow oCol; dsimp only; rw [hC]; (repeat' (first | exact trivial | refine And.intro ?_ ?_)) <;> (first | rfl | skip)
                · rw [hp]; unfold oRow oCol; dsimp only; rw [hC]; (repeat' (first | exact trivial | refine And.intro ?_ ?_)) <;> (first | rfl | skip)
              | some b =>
                have hb := memL_len b (sdB B)
                have hle := bdLess_spec (memL k (sdB B)) (memL b (sdB B)) (by omega) (by omega)
                by_cases hlt : ordC (memL k (sdB B)) (memL b (sdB B)) < 0
                · have hp := pick_less ho hls hlt
                  rw [decide_eq_true hlt] at hle
                  unfold oRow at *
                  repeat (first | (refine step_ops ?_; (refine m_mov (by conv => lhs; whnf) ?_)) | refine seq_ops ?_ | refine AW_seq ?_)
                  (refine step_ops ?_); (apply m_call (bdSide_spec B hB)); (· repeat (first | exact lends_nil | (refine lends_cons ?_ ?_; (· exact lend_v))))
                  repeat (first | (refine step_ops ?_; ((try (refine g_yes rfl ?_ ?_; (· first | rfl | assumption | (refine decide_eq_true ?_; first | assumption | omega) | (refine nt ?_; first | assumption | omega) | (simp [*]; done) | (refine decide_eq_false ?_; first | assumption | omega) | (refine nf ?_; first | assumption | omega)))); (first | (refine m_mov (by conv => lhs; whnf) ?_) | (refine m_lss rfl rfl ?_) | (refine m_eql rfl rfl ?_) | (refine m_add rfl rfl ?_ ?_ ?_; (· omega); (· omega)) | (refine m_not rfl ?_) | (refine m_len_sl rfl ?_)))) | refine end_ops ?_ | refine seq_ops ?_ | (refine cond_f rfl ?_ ?_; (· first | rfl | assumption | (refine decide_eq_false ?_; first | assumption | omega) | (refine nf ?_; first | assumption | omega) | (simp [*]; done))) | refine norm_then ?_ | refine exit_then ?_ | refine exit_round ?_ | refine AW_exit ?_ | refine exit_block ?_)
                  (refine step_ops ?_); (refine g_yes rfl ?_ ?_; (· first | (first | rfl | assumption | (refine decide_eq_true ?_; first | assumption | omega) | (refine nt ?_; first | assumption | omega) | (simp [*]; done)) | (first | rfl | assumption | (refine decide_eq_false ?_; first | assumption | omega) | (refine nf ?_; first | assumption | omega) | (simp [*]; done))); (apply m_call (hle))); (· repeat (first | exact lends_nil | (refine lends_cons ?_ ?_; (· (refine lend_sli (by rfl) ?_; first | rfl | omega | (simp; done))))))
                  repeat (first | (refine step_ops ?_; ((try (refine g_yes rfl ?_ ?_; (· first | rfl | assumption | (refine decide_eq_true ?_; first | assumption | omega) | (refine nt ?_; first | assumption | omega) | (simp [*]; done) | (refine decide_eq_false ?_; first | assumption | omega) | (refine nf ?_; first | assumption | omega)))); (first | (refine m_mov (by conv => lhs; whnf) ?_) | (refine m_add rfl rfl ?_ ?_ ?_; (· omega); (· omega)) | (refine m_pick_t rfl ?_ (by conv => lhs; whnf) ?_; (· first | rfl | assumption | (refine decide_eq_true ?_; first | assumption | omega) | (refine nt ?_; first | assumption | omega) | (simp [*]; done))) | (refine m_pick_f rfl ?_ (by conv => lhs; whnf) ?_; (· first | rfl | assumption | (refine decide_eq_false ?_; first | assumption | omega) | (refine nf ?_; first | assumption | omega) | (simp [*]; done)))))) | refine end_ops ?_ | refine seq_ops ?_ | refine AW_ops ?_ | (refine cond_t rfl ?_ ?_; (· first | rfl | assumption | (refine decide_eq_true ?_; first | assumption | omega) | (refine nt ?_; first | assumption | omega) | (simp [*]; done))) | refine norm_then ?_ | refine norm_block ?_)
                  refine next_round (k + 1) (by omega) (Weak.trans (weak_move (r := 10) (q := 6) rfl (by decide) (by decide)) (Weak.trans (weak_move (r := 11) (q := 7) rfl (by decide) (by decide)) (weak_st ?_ ?_ rfl rfl))) (by omega)
                  · rw [hp]; unfold oCol; dsimp only; rw [hC]; (repeat' (first | exact trivial | refine And.intro ?_ ?_)) <;> (first | rfl | skip)
                  · rw [hp]; unfold oCol; dsimp only; rw [hC]; (repeat' (first | exact trivial | refine And.intro ?_ ?_)) <;> (first | rfl | skip)
                · have hp := pick_keep (M := M) ho hlt
                  rw [decide_eq_false hlt] at hle
                  unfold oRow at *
                  repeat (first | (refine step_ops ?_; (refine m_mov (by conv => lhs; whnf) ?_)) | refine seq_ops ?_ | refine AW_seq ?_)
                  (refine step_ops ?_); (apply m_call (bdSide_spec B hB)); (· repeat (first | exact lends_nil | (refine lends_cons ?_ ?_; (· exact lend_v))))
                  repeat (first | (refine step_ops ?_; ((try (refine g_yes rfl ?_ ?_; (· first | rfl | assumption | (refine decide_eq_true ?_; first | assumption | omega) | (refine nt ?_; first | assumption | omega) | (simp [*]; done) | (refine decide_eq_false ?_; first | assumption | omega) | (refine nf ?_; first | assumption | omega)))); (first | (refine m_mov (by conv => lhs; whnf) ?_) | (refine m_lss rfl rfl ?_) | (refine m_eql rfl rfl ?_) | (refine m_add rfl rfl ?_ ?_ ?_; (· omega); (· omega)) | (refine m_not rfl ?_) | (refine m_len_sl rfl ?_)))) | refine end_ops ?_ | refine seq_ops ?_ | (refine cond_f rfl ?_ ?_; (· first | rfl | assumption | (refine decide_eq_false ?_; first | assumption | omega) | (refine nf ?_; first | assumption | omega) | (simp [*]; done))) | refine norm_then ?_ | refine exit_then ?_ | refine exit_round ?_ | refine AW_exit ?_ | refine exit_block ?_)
                  (refine step_ops ?_); (refine g_yes rfl ?_ ?_; (· first | (first | rfl | assumption | (refine decide_eq_true ?_; first | assumption | omega) | (refine nt ?_; first | assumption | omega) | (simp [*]; done)) | (first | rfl | assumption | (refine decide_eq_false ?_; first | assumption | omega) | (refine nf ?_; first | assumption | omega) | (simp [*]; done))); (apply m_call (hle))); (· repeat (first | exact lends_nil | (refine lends_cons ?_ ?_; (· (refine lend_sli (by rfl) ?_; first | rfl | omega | (simp; done))))))
                  repeat (first | (refine step_ops ?_; ((try (refine g_yes rfl ?_ ?_; (· first | rfl | assumption | (refine decide_eq_true ?_; first | assumption | omega) | (refine nt ?_; first | assumption | omega) | (simp [*]; done) | (refine decide_eq_false ?_; first | assumption | omega) | (refine nf ?_; first | assumption | omega)))); (first | (refine m_mov (by conv => lhs; whnf) ?_) | (refine m_add rfl rfl ?_ ?_ ?_; (· omega); (· omega)) | (refine m_pick_t rfl ?_ (by conv => lhs; whnf) ?_; (· first | rfl | assumption | (refine decide_eq_true ?_; first | assumption | omega) | (refine nt ?_; first | assumption | omega) | (simp [*]; done))) | (refine m_pick_f rfl ?_ (by conv => lhs; whnf) ?_; (· first | rfl | assumption | (refine decide_eq_false ?_; first | assumption | omega) | (refine nf ?_; first | assumption | omega) | (simp [*]; done)))))) | refine end_ops ?_ | refine AW_ops ?_ | (refine cond_f rfl ?_ ?_; (· first | rfl | assumption | (refine decide_eq_false ?_; first | assumption | omega) | (refine nf ?_; first | assumption | omega) | (simp [*]; done))) | refine norm_then ?_ | refine norm_block ?_ | refine AW_skip ?_)
                  refine next_round (k + 1) (by omega) (weak_st ?_ ?_ rfl rfl) (by omega)
                  · rw [hp]; (repeat' (first | exact trivial | refine And.intro ?_ ?_)) <;> (first | rfl | skip)
                  · rw [hp]; (repeat' (first | exact trivial | refine And.intro ?_ ?_)) <;> (first | rfl | skip)
            · have hsum : ¬ ((memL k (sdB B)).length : Int) + ((memL C (sdB B)).length : Int) = (M : Nat) := by omega
              have hp := pick_no ho hls
              repeat (first | (refine step_ops ?_; (refine m_mov (by conv => lhs; whnf) ?_)) | refine seq_ops ?_ | refine AW_seq ?_)
              (refine step_ops ?_); (apply m_call (bdSide_spec B hB)); (· repeat (first | exact lends_nil | (refine lends_cons ?_ ?_; (· exact lend_v))))
              repeat (first | (refine step_ops ?_; (first | (first | (refine m_mov (by conv => lhs; whnf) ?_) | (refine m_lss rfl rfl ?_) | (refine m_eql rfl rfl ?_) | (refine m_add rfl rfl ?_ ?_ ?_; (· omega); (· omega)) | (refine m_len_sl rfl ?_)) | (refine g_noT rfl ?_ ?_; (· first | rfl | assumption | (refine decide_eq_false ?_; first | assumption | omega) | (refine nf ?_; first | assumption | omega) | (simp [*]; done))))) | refine end_ops ?_ | refine seq_ops ?_ | (refine cond_f rfl ?_ ?_; (· first | rfl | assumption | (refine decide_eq_false ?_; first | assumption | omega) | (refine nf ?_; first | assumption | omega) | (simp [*]; done))) | refine norm_then ?_ | refine exit_then ?_ | refine exit_round ?_ | refine AW_exit ?_ | refine exit_block ?_)
              repeat (first | ((first | (refine step_ops ?_; (first | (first | (refine m_mov (by conv => lhs; whnf) ?_) | (refine m_add rfl rfl ?_ ?_ ?_; (· omega); (· omega)) | (refine m_pick_f rfl ?_ (by conv => lhs; whnf) ?_; (· first | rfl | assumption | (refine decide_eq_false ?_; first | assumption | omega) | (refine nf ?_; first | assumption | omega) | (simp [*]; done)))) | (refine g_noT rfl ?_ ?_; (· first | rfl | assumption | (refine decide_eq_false ?_; first | assumption | omega) | (refine nf ?_; first | assumption | omega) | (simp [*]; done))))) | refine end_ops ?_ | refine AW_ops ?_ | (refine cond_f rfl ?_ ?_; (· first | rfl | assumption | (refine decide_eq_false ?_; first | assumption | omega) | (refine nf ?_; first | assumption | omega) | (simp [*]; done))) | refine norm_then ?_ | refine norm_block ?_ | refine AW_skip ?_)) | (refine step_ops ?_; refine g_unl rfl ?_))
              refine next_round (k + 1) (by omega) (weak_st ?_ ?_ rfl rfl) (by omega)
              · rw [hp]; (repeat' (first | exact trivial | refine And.intro ?_ ?_)) <;> (first | rfl | skip)
              · rw [hp]; (repeat' (first | exact trivial | refine And.intro ?_ ?_)) <;> (first | rfl | skip)
  · obtain rfl : k = 2 ^ sdB B := by omega
    rw [hend] at ho
    subst ho
    repeat (first | (refine step_ops ?_; (refine m_mov (by conv => lhs; whnf) ?_)) | refine seq_ops ?_ | refine AW_seq ?_)
    (refine step_ops ?_); (apply m_call (bdSide_spec B hB)); (· repeat (first | exact lends_nil | (refine lends_cons ?_ ?_; (· exact lend_v))))
    skip
    refine step_ops ?_
    refine m_shlz (k := sdB B) (z := 2 ^ sdB B) rfl rfl (by omega) rfl ?_
    repeat (first | (refine step_ops ?_; (first | (refine m_mov (by conv => lhs; whnf) ?_) | (refine m_lss rfl rfl ?_))) | refine end_ops ?_ | refine seq_ops ?_ | (refine cond_f rfl ?_ ?_; (· first | rfl | assumption | (refine decide_eq_false ?_; first | assumption | omega) | (refine nf ?_; first | assumption | omega) | (simp [*]; done))) | refine AW_ret ?_ | refine ret_done ?_ | refine norm_then ?_ | refine exit_then ?_ | refine exit_round ?_ | refine AW_exit ?_ | refine exit_block ?_)
    exact outs_tup3 (outs_ints rfl rfl rfl) (outs_ints rfl rfl rfl) (outs_b rfl)
theorem specFewestLines_spec (B : List UInt8) (hB : B.length ≤ 1048576) : Sp Tryd.prog 25 [str B] (.tup [newInts (flRow B), newInts (flCol B), .b (decide (GoodBd B))]) := by
  unfold flRow flCol
  by_cases h : GoodBd B
  · rw [if_pos h, if_pos h, decide_eq_true h]
    exact specFl_yes B h hB
  · rw [if_neg h, if_neg h, decide_eq_false h]
    have hgood := bdGood_spec B hB
    rw [decide_eq_false h] at hgood
    refine spec_of Tryd.func25 rfl cc25 rfl ?_
    unfold ac25
    repeat (first | (refine step_ops ?_; (first | (refine m_mov (by conv => lhs; whnf) ?_) | (refine m_nils ?_))) | refine end_ops ?_ | refine seq_ops ?_ | refine AW_seq ?_)
    (refine step_ops ?_); (apply m_call (hgood)); (· repeat (first | exact lends_nil | (refine lends_cons ?_ ?_; (· exact lend_v))))
    repeat (first | (refine step_ops ?_; (first | (refine m_mov (by conv => lhs; whnf) ?_) | (refine m_not rfl ?_) | (refine m_nils ?_))) | refine end_ops ?_ | refine seq_ops ?_ | (refine cond_t rfl ?_ ?_; (· first | rfl | assumption | (refine decide_eq_true ?_; first | assumption | omega) | (refine nt ?_; first | assumption | omega) | (simp [*]; done))) | refine AW_ret ?_ | refine ret_done ?_ | refine ret_then ?_)
    exact outs_tup3 (outs_ints rfl rfl rfl) (outs_ints rfl rfl rfl) (outs_b rfl)
end Go.Proofs.YtkphjdomdmpinaaDoor
namespace Go.Am
open Go.ChangeShapes Go.WideShapes Go.ChangeAt Go.RowKit Go.ChangeMaps
variable {P : Program} {H : Type} {enc : TypeId × Value → H}
theorem and_mk {a b : Bool} (h : a = true) (k : b = true) : (a && b) = true := by rw [h, k]; rfl
theorem More.below {w w' : World} (h : More w w') : Below w.heap.size w w' := ⟨h.os, h.tape, h.output, h.size, h.block⟩
theorem trodAll_stays (hl : laidOutB P = true) {W W' : World} (hb : Below W.heap.size W W') (sp : Nat → Bool) : ∀ {ts : List TypeId} {vs : List Value} {ds : List (DataW H)} {ps : List MemPlace},
    (∀ t ∈ ts, P.readableRec t = true ∧ t < P.types.size) → DataW.TrodAll enc P W 0 (fun _ => true) true ts vs ds ps → (∀ p ∈ ps, p.block < W.heap.size) → (∀ p ∈ ps, sp p.block = true) →
    DataW.TrodAll enc P W' 0 sp true ts vs ds ps
  | [], vs, ds, ps, _, h, _, _ => by
    obtain ⟨rfl, rfl, rfl⟩ := trodAll_nil h
    exact trodAll_mk0
  | t :: ts, vs, ds, ps, hr, h, hlt, hsp => by
    obtain ⟨v, vs', d, ds', p, q, rfl, rfl, rfl, h1, h2⟩ := trodAll_cons h
    refine ⟨p, q, ?_, trodAll_stays hl hb sp (fun t ht => hr t (List.mem_cons_of_mem _ ht)) h2 (fun x hx => hlt x (List.mem_append_right _ hx)) (fun x hx => hsp x (List.mem_append_right _ hx)), rfl⟩
    obtain ⟨h3, h4⟩ := hr t (List.mem_cons_self ..)
    exact WideElems.Trod_stays hl h3 h4 h1 (fun x hx => hb.same (hlt x (List.mem_append_left _ hx))) (fun x hx => hsp x (List.mem_append_left _ hx))
/-- What the row's last words ask of a law that says true. -/
theorem law_post (hl : laidOutB P = true) {f : Func} {s : ChangeSpec} {fresh handsOn again : Bool} {W W' : World} {args : Array Value} {ds gs : List (DataW H)} {before : List MemPlace} {bt : TypeId}
    (hW : DataW.Whole enc P f.params.toList s.vars false W args.toList ds gs before) (hvars : s.vars = []) (hfn : s.fn H (ds ++ gs) = { results := [.lit (.bool true)], args := ds })
    (hres : f.resultTypes = #[bt]) (hbt : P.underlying bt = some .bool) (hread : ∀ t ∈ f.params.toList, P.readableRec t = true ∧ t < P.types.size) (hm : More W W') :
    s.post enc P f false fresh handsOn again W args (.bool true) W' := by
  have hb := hm.below
  have hlt : ∀ p ∈ before, p.block < W.heap.size := fun p hp => hW.lt p hp
  obtain ⟨p, q, hA, hV, hpq, hz, hn⟩ := hW
  rw [hvars] at hV
  obtain ⟨rfl, rfl⟩ := trodVars_none hV
  rw [List.append_nil] at hpq
  subst hpq
  have hargs : ∀ sp : Nat → Bool, (∀ x ∈ before, sp x.block = true) → DataW.TrodAll enc P W' 0 sp true f.params.toList args.toList ds before := fun sp hsp => trodAll_stays hl hb sp hread hA hlt hsp
  have hresT : ∀ (b : Nat) (sp : Nat → Bool) (hd : Bool), DataW.TrodAll enc P W' b sp hd f.resultTypes.toList ((Value.bool true).resultList f.resultTypes.size) [.lit (.bool true)] [] := by
    intro b sp hd
    rw [hres]
    exact trodAll_mk1 (shut_bool hbt true)
  have hvarsT : ∀ sp : Nat → Bool, DataW.TrodVars enc P W' sp s.vars (s.fn H (ds ++ [])).vars [] := by
    intro sp
    rw [hvars, hfn]
    rfl
  have hfull : DataW.Whole enc P f.params.toList s.vars false W args.toList ds [] before := ⟨before, [], hA, by rw [hvars]; rfl, by simp, hz, by simp⟩
  refine ⟨ds, [], before, [], before, [], hfull, by rw [hfn]; exact hresT _ _ _, by rw [hfn]; exact hargs _ (fun x hx => by simpa using hlt x hx), hvarsT _, World.keptBut_mono (fun x hx => ⟨hx, .inr (.inl hx)⟩) (hb.frame (· ∈ before)), fun _ => ?_⟩
  refine ⟨ok_one hres rfl (okWide_bool_mk hbt true), _, _, ([] ++ before) ++ [], ⟨[] ++ before, [], trodAll_append (hargs _ (fun _ _ => rfl)) (hresT _ _ _), hvarsT _, rfl, ?_, by simp⟩, ?_⟩
  · intro b off hp
    have hin : MemPlace.cell b off ∈ before := by simpa using hp
    rw [hb.frozen (hlt _ hin)]
    exact hz b off hin
  · intro x hx _
    simpa using hx
abbrev Outer (w : World) : Ctx := { heap := w.heap, ro := fun b => b < w.heap.size, base := w.heap.size, phi := fun _ => none, live := fun _ => false, loc := false }
/-- A string that came in. -/
theorem arg_string {W : World} {t : TypeId} {v : Value} {d : DataW H} {ps : List MemPlace} (ht : P.underlying t = some .string)
    (hval : Value.okWide P W .any 0 t v) (h : DataW.Trod enc P W 0 (fun _ => true) true t v d ps) : ∃ b : ByteArray, SimV (.v (.string b)) (Outer W) v ∧ b.size ≤ maxLen := by
  obtain ⟨b, rfl, _, _, hw⟩ := open_string ht hval h
  exact ⟨b, by simp [SimV], hw⟩
/-- A law says true. -/
theorem law_calls {f : FuncId} {asx : List AV} {W : World} {args : Array Value} (hs : Sp P f asx (.b true)) (he : SimL asx (Outer W) args.toList) (hlen : args.size = asx.length) (hg : GoodW W := by exact goodW_none rfl) :
    Calls P f args W fun e W' => e = .returned (.bool true) ∧ More W W' := by
  refine (hs W args hg ⟨he, by simpa using hlen⟩).mono fun e W' ⟨v, h1, h2, h3⟩ => ?_
  simp only [SimV] at h3
  subst h3
  exact ⟨h1, h2⟩
end Go.Am
namespace Go.Proofs.YtkphjdomdmpinaaDoor
open Go.ChangeShapes Go.WideShapes Go.ChangeAt Go.RowKit
theorem factMayEnter : Tryd.checked.prog.mayEnter = true := by kernel_rfl
end Go.Proofs.YtkphjdomdmpinaaDoor
namespace Go.Proofs.YtkphjdomdmpinaaDoor
open Go.ChangeShapes Go.WideShapes Go.ChangeAt Go.RowKit
theorem factLifts : Tryd.checked.prog.liftsFinal = false := by kernel_rfl
end Go.Proofs.YtkphjdomdmpinaaDoor
namespace Go.Proofs.YtkphjdomdmpinaaDoor
open Go.ChangeShapes Go.WideShapes Go.ChangeAt Go.RowKit
theorem factMake : Tryd.checked.prog.make = some (OpenClaim.make { program := "", sum := "", func := "", spec := "" }) := by kernel_rfl
end Go.Proofs.YtkphjdomdmpinaaDoor
namespace Go.Proofs.YtkphjdomdmpinaaDoor
open Go.ChangeShapes Go.WideShapes Go.ChangeAt Go.RowKit
theorem door_met (os : Os) (args : Array Value) : laidMetH Tryd.prog Rows.fnExactFewestLinesRow.laid ((World.laidAll Tryd.prog os Rows.fnExactFewestLinesRow.laid).forCall (fun _ _ => 0) ⟨#[], args, []⟩).memory := by
  rw [MakeChecks.laidMetH_plain _ _ _ (by kernel_rfl)]
  exact laidMet_laidAll _ (by kernel_rfl) (by kernel_rfl)
theorem door_shaped (os : Os) (args : Array Value) : World.Shaped Tryd.prog ((World.laidAll Tryd.prog os Rows.fnExactFewestLinesRow.laid).forCall (fun _ _ => 0) ⟨#[], args, []⟩) := World.shaped_of_ZipB (by kernel_rfl) (by kernel_rfl)
end Go.Proofs.YtkphjdomdmpinaaDoor
