/- Contracts: the specification counts ways to put rooks. -/
import Derived.Test.YtojpcpdbnmnknaaDoorSpRk
import Derived.Test.YtojpcpdbnmnknaaDoorMaMu
import Derived.Test.YtojpcpdbnmnknaaDoorSpE
namespace Go.Am
theorem m_ori {P : Program} {own : Bool} {s : AS} {K : AS → Prop} {d : Option Nat} {x y : Opd} {a b z : Nat} (hx : s.ev x = .i (a : Nat)) (hy : s.ev y = .i (b : Nat)) (ha : a < 65536) (hb : b < 65536) (hz : a ||| b = z) (kk : K (s.put d (.i (z : Nat)))) : aop1 P own ⟨d, .bin .or x y, none⟩ s K := by
  subst hz
  refine ⟨_, _, _, hx, hy, ?_, kk⟩
  show some (Value.int .i64 (IntKind.i64.wrap ((BitVec.ofInt IntKind.i64.bits (a : Int) ||| BitVec.ofInt IntKind.i64.bits (b : Int)).toNat : Int))) = _
  have h1 : ∀ {c : Nat}, c < 65536 → (BitVec.ofInt IntKind.i64.bits (c : Int)).toNat = c := by
    intro c hc
    show (BitVec.ofInt 64 (c : Int)).toNat = c
    rw [BitVec.ofInt_natCast, BitVec.toNat_ofNat]
    omega
  have h3 := or16_lt ha hb
  have h5 : IntKind.i64.wrap ((a ||| b : Nat) : Int) = ((a ||| b : Nat) : Int) := by
    rw [IntKind.wrap_i64]
    generalize a ||| b = z at *
    omega
  rw [BitVec.toNat_or, h1 ha, h1 hb, h5]
theorem m_andz {P : Program} {own : Bool} {s : AS} {K : AS → Prop} {d : Option Nat} {x y : Opd} {a z : Nat} (hx : s.ev x = .i (a : Nat)) (hy : s.ev y = .i 1) (ha : a < 4611686018427387904) (hz : a &&& 1 = z) (kk : K (s.put d (.i (z : Nat)))) : aop1 P own ⟨d, .bin .and x y, none⟩ s K := by
  subst hz
  exact m_andi1 hx hy ha kk
theorem m_shlz {P : Program} {own : Bool} {s : AS} {K : AS → Prop} {d : Option Nat} {x y : Opd} {k z : Nat} (hx : s.ev x = .i 1) (hy : s.ev y = .i (k : Nat)) (hk : k < 62) (hz : 2 ^ k = z) (kk : K (s.put d (.i (z : Nat)))) : aop1 P own ⟨d, .bin .shl x y, none⟩ s K := by
  subst hz
  exact m_shli hx hy hk kk
theorem bitz {a k : Nat} (h : a.testBit k = false) : (a >>> k) &&& 1 = 0 := by
  have := bit_and a k
  have h1 : (a >>> k) &&& 1 ≤ 1 := Nat.and_le_right
  rw [h] at this
  have := of_decide_eq_false this
  omega
theorem bit1 {a k : Nat} (h : a.testBit k = true) : (a >>> k) &&& 1 = 1 := by
  have := bit_and a k
  rw [h] at this
  exact of_decide_eq_true this
/-- A list by its numbers. -/
def rgL (n : Nat) (f : Nat → Nat) : List Int := (List.range (n + 1)).map fun k => ((f k : Nat) : Int)
theorem rgL_len (n : Nat) (f : Nat → Nat) : (rgL n f).length = n + 1 := by simp [rgL]
theorem rgL_get {n k : Nat} (f : Nat → Nat) (h : k < n + 1) : (rgL n f).getD k 0 = (f k : Int) := by simp [rgL, h]
theorem rgL_congr {n : Nat} {f g : Nat → Nat} (h : ∀ k, k < n + 1 → f k = g k) : rgL n f = rgL n g := by
  refine List.map_congr_left fun k hk => ?_
  rw [h k (List.mem_range.1 hk)]
theorem rgL_set {n k : Nat} {f : Nat → Nat} (m : Nat) (h : k < n + 1) : (rgL n f).set k ((rgL n f).getD k 0 + (m : Nat)) = rgL n fun j => f j + if j = k then m else 0 := by
  apply List.ext_getElem?
  intro j
  rw [List.getElem?_set, rgL_get f h, rgL_len]
  by_cases e : k = j
  · subst e
    simp [rgL, h]
  · rw [if_neg e]
    by_cases hj : j < n + 1
    · have : ¬ j = k := fun e2 => e e2.symm
      simp [rgL, hj, this]
    · simp [rgL, hj]
theorem rgL_zero (n : Nat) : List.replicate (n + 1) 0 = rgL n fun _ => 0 := by
  unfold rgL
  symm
  rw [List.eq_replicate_iff]
  refine ⟨by simp, fun b hb => ?_⟩
  obtain ⟨k, _, rfl⟩ := List.mem_map.1 hb
  rfl
theorem zerosL (n : Nat) : (List.replicate (n + 1) (List.map AV.v [Value.int .i64 0])).flatten = (rgL n fun _ => 0).map AV.i := by
  rw [← rgL_zero]
  generalize n + 1 = k
  induction k with
  | zero => rfl
  | succ k ih => rw [List.replicate_succ, List.flatten_cons, ih]; rfl
theorem m_mk0 {P : Program} {own : Bool} {s : AS} {K : AS → Prop} {x y : Opd} {r bs n : Nat} (hx : s.ev x = .i ((n + 1 : Nat) : Int)) (hy : s.ev y = .i ((n + 1 : Nat) : Int)) (h1 : (bs : Int) * ((n + 1 : Nat) : Int) ≤ 281474976710656) (h2 : ((n + 1 : Nat) : Int) ≤ 9223372036854775807)
    (k : K (((s.kill r).mem r (true, (rgL n fun _ => 0).map AV.i)).put (some r) (.sl r 1 0 (n + 1)))) : aop1 P own ⟨some r, .mk 1 bs [.int .i64 0] x y, none⟩ s K := by
  refine m_mk hx hy h1 h2 ?_
  rw [zerosL]
  exact k
theorem sumN_le' {f : Nat → Nat} {b n : Nat} (h : ∀ c, c < n → f c ≤ b) : sumN n f ≤ n * b := by
  rw [← sumN_const]
  exact sumN_le h
end Go.Am
namespace Go.Proofs.YtojpcpdbnmnknaaDoor
open Go.Am
attribute [local irreducible] AW Outs Weak Lends Lend Sp aops atree aop1 Then Round InBlock Done
attribute [local irreducible] SpH SpX DoneH DoneX

def rgR (n : Nat) (f : Nat → Nat) : AV := .ro true 1 ((rgL n f).map AV.i) (n + 1)
/-- What a column adds to a number of rooks. -/
def rkT (B : List UInt8) (m S k j : Nat) : Nat := if fbB B (sdB B - (m + 1)) j && !S.testBit j then (match k with | 0 => 0 | q + 1 => rkG (fbB B) (sdB B) m (insC S j) q) else 0
theorem rkG_le9 {B : List UInt8} (h : GoodBd B) {m : Nat} (hm : m ≤ 8) (S k : Nat) : rkG (fbB B) (sdB B) m S k ≤ 43046721 := by
  have hsd := good_sd h
  exact Nat.le_trans (rkG_le m S k) (Nat.le_trans (Nat.pow_le_pow_left (by omega : sdB B + 1 ≤ 9) _) (Nat.le_trans (Nat.pow_le_pow_right (by omega) hm) (by decide)))
theorem rkT_le9 {B : List UInt8} (h : GoodBd B) {m : Nat} (hm : m ≤ 8) (S k j : Nat) : rkT B m S k j ≤ 43046721 := by
  unfold rkT
  split
  · cases k with
    | zero => exact Nat.zero_le _
    | succ q => exact rkG_le9 h hm _ q
  · omega
/-- Numbers of rooks while a column is added. -/
def rkQ (B : List UInt8) (m S j q k : Nat) : Nat := rkG (fbB B) (sdB B) m S k + sumN j (rkT B m S k) + if 1 ≤ k ∧ k ≤ q then rkG (fbB B) (sdB B) m (insC S j) (k - 1) else 0
theorem rkQ_0 (B : List UInt8) (m S j : Nat) : rgL (sdB B) (rkQ B m S j 0) = rgL (sdB B) fun k => rkG (fbB B) (sdB B) m S k + sumN j (rkT B m S k) :=
  rgL_congr fun k _ => by rw [rkQ, if_neg (by omega), Nat.add_zero]
theorem rkQ_skip {B : List UInt8} {m S j q : Nat} (h : rkG (fbB B) (sdB B) m (insC S j) q = 0) : rgL (sdB B) (rkQ B m S j q) = rgL (sdB B) (rkQ B m S j (q + 1)) :=
  rgL_congr fun k _ => by
    unfold rkQ
    by_cases e : k = q + 1
    · subst e
      rw [if_neg (by omega), if_pos (by omega), Nat.add_sub_cancel, h]
    · by_cases h1 : 1 ≤ k ∧ k ≤ q
      · rw [if_pos h1, if_pos (by omega)]
      · rw [if_neg h1, if_neg (by omega)]
theorem rkQ_step (B : List UInt8) (m S j q k : Nat) : rkQ B m S j q k + (if k = q + 1 then rkG (fbB B) (sdB B) m (insC S j) q else 0) = rkQ B m S j (q + 1) k := by
  unfold rkQ
  by_cases e : k = q + 1
  · subst e
    rw [if_neg (by omega), if_pos rfl, if_pos (by omega), Nat.add_sub_cancel]
    omega
  · rw [if_neg e]
    by_cases h1 : 1 ≤ k ∧ k ≤ q
    · rw [if_pos h1, if_pos (by omega)]; rfl
    · rw [if_neg h1, if_neg (by omega)]
theorem rkQ_end {B : List UInt8} {m S j row : Nat} (hr : sdB B - (m + 1) = row) (hf : fbB B row j = true) (hb : S.testBit j = false) : rgL (sdB B) (rkQ B m S j (sdB B + 1)) = rgL (sdB B) fun k => rkG (fbB B) (sdB B) m S k + sumN (j + 1) (rkT B m S k) :=
  rgL_congr fun k hk => by
    unfold rkQ
    rw [sumN, ← Nat.add_assoc]
    congr 1
    have : (fbB B (sdB B - (m + 1)) j && !S.testBit j) = true := by rw [hr, hf, hb]; rfl
    unfold rkT
    rw [if_pos this]
    cases k with
    | zero => rw [if_neg (by omega)]
    | succ k => rw [if_pos (by omega)]; rfl
theorem rkQ_le {B : List UInt8} (h : GoodBd B) {m S j q k : Nat} (hm : m ≤ 8) (hj : j ≤ 8) : rkQ B m S j q k ≤ 1000000000 := by
  have h1 := rkG_le9 h hm S k
  have h2 := sumN_le' (f := rkT B m S k) (b := 43046721) (n := j) fun c _ => rkT_le9 h hm S k c
  have h3 : j * 43046721 ≤ 8 * 43046721 := Nat.mul_le_mul_right _ hj
  have h4 := rkG_le9 h hm (insC S j) (k - 1)
  unfold rkQ
  split <;> omega
theorem bdRooks_spec (B : List UInt8) (h : GoodBd B) (hB : B.length ≤ 1048576) : ∀ m row S, row + m = sdB B → S < 2 ^ sdB B → Sp Tryd.prog 28 [str B, .i (row : Nat), .i (S : Nat)] (rgR (sdB B) (rkG (fbB B) (sdB B) m S)) := by
  have hsd := good_sd h
  intro m
  induction m with
  | zero =>
    intro row S hrow hS
    unfold rgR
    have hrow' : row = sdB B := by omega
    have l0 := rgL_len (sdB B) (fun _ => 0)
    refine spec_of Tryd.func28 rfl cc28 rfl ?_
    unfold ac28
    repeat (first | (refine step_ops ?_; (first | (refine m_mov (by conv => lhs; whnf) ?_) | (refine m_nils ?_))) | refine end_ops ?_ | refine seq_ops ?_)
    (refine step_ops ?_); (apply m_call (bdSide_spec B hB)); (· repeat (first | exact lends_nil | (refine lends_cons ?_ ?_; (· exact lend_v))))
    repeat (first | (refine step_ops ?_; (first | (refine m_mov (by conv => lhs; whnf) ?_) | (refine m_add rfl rfl ?_ ?_ ?_; (· omega); (· omega)))) | refine end_ops ?_ | refine seq_ops ?_)
    refine step_ops ?_
    refine m_mk0 (n := sdB B) rfl rfl (by omega) (by omega) ?_
    repeat (first | (refine step_ops ?_; (first | (refine m_mov (by conv => lhs; whnf) ?_) | (refine m_eql rfl rfl ?_) | (refine m_idx_sl rfl rfl ?_ ?_ ?_; (· omega); (· omega)) | (apply m_st; (· rfl); (· rfl); (· rfl); (· first | omega | (simp; done) | (simp; omega)); (· rfl)))) | refine end_ops ?_ | refine seq_ops ?_ | (refine cond_t rfl ?_ ?_; (· first | rfl | assumption | (refine decide_eq_true ?_; first | assumption | omega) | (refine nt ?_; first | assumption | omega) | (simp [*]; done))) | refine AW_seq ?_ | refine AW_ret ?_ | refine ret_done ?_ | refine ret_then ?_)
    refine outs_sl (z := 1) (n := sdB B + 1) (cs := (rgL (sdB B) (rkG (fbB B) (sdB B) 0 S)).map AV.i) ?_ (by simp [rgL]) (allv_ints _)
    show some (true, List.set (List.map AV.i (rgL (sdB B) fun _ => 0)) 0 (AV.i 1)) = _
    rw [← List.map_set]
    congr 3
    have e := rgL_set (n := sdB B) (k := 0) (f := fun _ => 0) 1 (by omega)
    rw [rgL_get _ (by omega)] at e
    refine e.trans (rgL_congr fun k _ => ?_)
    rw [rkG]
    omega
  | succ m ih =>
    intro row S hrow hS
    have hm8 : m ≤ 8 := by omega
    have hS512 : S < 512 := Nat.lt_of_lt_of_le hS (Nat.pow_le_pow_right (by decide) (by omega : sdB B ≤ 9))
    have hrowm : sdB B - (m + 1) = row := by omega
    unfold rgR
    refine spec_of Tryd.func28 rfl cc28 rfl ?_
    unfold ac28
    repeat (first | (refine step_ops ?_; (first | (refine m_mov (by conv => lhs; whnf) ?_) | (refine m_nils ?_))) | refine end_ops ?_ | refine seq_ops ?_)
    (refine step_ops ?_); (apply m_call (bdSide_spec B hB)); (· repeat (first | exact lends_nil | (refine lends_cons ?_ ?_; (· exact lend_v))))
    repeat (first | (refine step_ops ?_; (first | (refine m_mov (by conv => lhs; whnf) ?_) | (refine m_add rfl rfl ?_ ?_ ?_; (· omega); (· omega)))) | refine end_ops ?_ | refine seq_ops ?_)
    refine step_ops ?_
    refine m_mk0 (n := sdB B) rfl rfl (by omega) (by omega) ?_
    repeat (first | (refine step_ops ?_; (first | (refine m_mov (by conv => lhs; whnf) ?_) | (refine m_eql rfl rfl ?_) | (refine m_add rfl rfl ?_ ?_ ?_; (· omega); (· omega)))) | refine end_ops ?_ | refine seq_ops ?_ | (refine cond_f rfl ?_ ?_; (· first | rfl | assumption | (refine decide_eq_false ?_; first | assumption | omega) | (refine nf ?_; first | assumption | omega) | (simp [*]; done))) | refine skip_then ?_ | refine AW_seq ?_)
    have e1 := ih (row + 1) S (by omega) hS
    unfold rgR at e1
    (refine step_ops ?_); (apply m_call (e1)); (· repeat (first | exact lends_nil | (refine lends_cons ?_ ?_; (· exact lend_v))))
    repeat (first | (refine step_ops ?_; (first | (refine m_mov (by conv => lhs; whnf) ?_) | (refine m_len_ro rfl ?_))) | refine end_ops ?_ | refine AW_block ?_)
    refine AW_loop (α := Nat) (fun k => k ≤ sdB B + 1) (fun k => st [(0, str B), (1, .i (row : Nat)), (2, .i (S : Nat)), (7, .i (sdB B : Nat)), (8, .sl 18 1 0 (sdB B + 1)), (29, .ro true 1 ((rgL (sdB B) (rkG (fbB B) (sdB B) m S)).map AV.i) (sdB B + 1)), (30, .i (sdB B + 1 : Nat)), (31, .i (k : Nat))]
        [(18, (true, (rgL (sdB B) fun j => if j < k then rkG (fbB B) (sdB B) m S j else 0).map AV.i))]) (fun k => sdB B + 1 - k) 0 (by omega) (weak_st ?_ ?_ rfl rfl) ?_
    · (repeat' (first | exact trivial | refine And.intro ?_ ?_)) <;> (first | rfl | skip)
    · (repeat' (first | exact trivial | refine And.intro ?_ ?_)) <;> (first | rfl | skip)
    rintro k hk
    by_cases hk1 : k < sdB B + 1
    · have g1 := rgL_get (rkG (fbB B) (sdB B) m S) hk1
      have g2 := rgL_get (fun j => if j < k then rkG (fbB B) (sdB B) m S j else 0) hk1
      rw [if_neg (by omega)] at g2
      have l1 := rgL_len (sdB B) (rkG (fbB B) (sdB B) m S)
      have l2 := rgL_len (sdB B) (fun j => if j < k then rkG (fbB B) (sdB B) m S j else 0)
      have b1 := rkG_le9 h hm8 S k
      have b2 : 0 ≤ (rgL (sdB B) (rkG (fbB B) (sdB B) m S)).getD k 0 ∧ (rgL (sdB B) (rkG (fbB B) (sdB B) m S)).getD k 0 ≤ 43046721 := by rw [g1]; omega
      have b3 : (rgL (sdB B) (fun j => if j < k then rkG (fbB B) (sdB B) m S j else 0)).getD k 0 = 0 := by rw [g2]; rfl
      repeat (first | (refine step_ops ?_; (first | (refine m_mov (by conv => lhs; whnf) ?_) | (refine m_lss rfl rfl ?_) | (refine m_add rfl rfl ?_ ?_ ?_; (· omega); (· omega)) | (refine m_idx1_ro rfl rfl ?_ ?_; (· omega)) | (refine m_idx1_sl rfl rfl ?_ ?_; (· omega)) | (refine m_ld_rpi rfl ?_ ?_; (· omega)) | (refine m_ld_pti rfl (by rfl) ?_ ?_; (· first | omega | (simp; omega))) | (apply m_st; (· rfl); (· rfl); (· rfl); (· first | omega | (simp; done) | (simp; omega)); (· rfl)))) | refine end_ops ?_ | refine seq_ops ?_ | refine AW_ops ?_ | (refine cond_t rfl ?_ ?_; (· first | rfl | assumption | (refine decide_eq_true ?_; first | assumption | omega) | (refine nt ?_; first | assumption | omega) | (simp [*]; done))) | refine skip_then ?_ | refine AW_seq ?_ | refine norm_then ?_ | refine AW_block ?_ | refine norm_block ?_)
      refine next_round (k + 1) (by omega) (weak_st ?_ ?_ rfl rfl) (by omega)
      · (repeat' (first | exact trivial | refine And.intro ?_ ?_)) <;> (first | rfl | skip)
      · (repeat' (first | exact trivial | refine And.intro ?_ ?_)) <;> (first | rfl | skip)
        show some (true, List.set (List.map AV.i _) k (AV.i _)) = _
        rw [← List.map_set, g1, rgL_set _ hk1]
        congr 3
        refine rgL_congr fun j _ => ?_
        by_cases ej : j = k
        · subst ej; simp
        · by_cases hj : j < k
          · simp [ej, hj, show j < k + 1 by omega]
          · simp [ej, hj, show ¬ j < k + 1 by omega]
    · have hke : k = sdB B + 1 := by omega
      subst hke
      rw [show (rgL (sdB B) fun j => if j < sdB B + 1 then rkG (fbB B) (sdB B) m S j else 0) = rgL (sdB B) (rkG (fbB B) (sdB B) m S) from rgL_congr fun j hj => if_pos hj]
      repeat (first | (refine step_ops ?_; (first | (refine m_mov (by conv => lhs; whnf) ?_) | (refine m_lss rfl rfl ?_))) | refine end_ops ?_ | refine seq_ops ?_ | (refine cond_f rfl ?_ ?_; (· first | rfl | assumption | (refine decide_eq_false ?_; first | assumption | omega) | (refine nf ?_; first | assumption | omega) | (simp [*]; done))) | refine AW_seq ?_ | refine norm_then ?_ | refine exit_then ?_ | refine AW_block ?_ | refine exit_round ?_ | refine AW_exit ?_ | refine exit_block ?_)
      refine AW_loop (α := Nat) (fun j => j ≤ sdB B) (fun j => st [(0, str B), (1, .i (row : Nat)), (2, .i (S : Nat)), (7, .i (sdB B : Nat)), (8, .sl 18 1 0 (sdB B + 1)), (11, .i (j : Nat))]
        [(18, (true, (rgL (sdB B) fun k => rkG (fbB B) (sdB B) m S k + sumN j (rkT B m S k)).map AV.i))]) (fun j => sdB B - j) 0 (by omega) (weak_st ?_ ?_ rfl rfl) ?_
      · (repeat' (first | exact trivial | refine And.intro ?_ ?_)) <;> (first | rfl | skip)
      · (repeat' (first | exact trivial | refine And.intro ?_ ?_)) <;> (first | rfl | skip)
      rintro j hj
      by_cases hj1 : j < sdB B
      · have hsh : S >>> j < 512 := Nat.lt_of_le_of_lt (Nat.shiftRight_le S j) hS512
        have skipT : (∀ k, rkT B m S k j = 0) → (rgL (sdB B) fun k => rkG (fbB B) (sdB B) m S k + sumN j (rkT B m S k)) = rgL (sdB B) fun k => rkG (fbB B) (sdB B) m S k + sumN (j + 1) (rkT B m S k) := fun h0 =>
          rgL_congr fun k _ => by rw [sumN, h0 k, Nat.add_zero]
        by_cases hbit : S.testBit j = true
        · have hz := bit1 hbit
          repeat (first | (refine step_ops ?_; (first | (refine m_mov (by conv => lhs; whnf) ?_) | (refine m_lss rfl rfl ?_))) | refine end_ops ?_ | refine seq_ops ?_ | (refine cond_t rfl ?_ ?_; (· first | rfl | assumption | (refine decide_eq_true ?_; first | assumption | omega) | (refine nt ?_; first | assumption | omega) | (simp [*]; done))) | refine skip_then ?_ | refine AW_seq ?_ | refine AW_block ?_)
          refine step_ops ?_
          refine m_shri (a := S) (k := j) rfl rfl (by omega) ?_
          refine step_ops ?_
          refine m_andz (a := S >>> j) (z := 1) rfl rfl (by omega) hz ?_
          repeat (first | (refine step_ops ?_; (first | (first | (refine m_mov (by conv => lhs; whnf) ?_) | (refine m_eql rfl rfl ?_) | (refine m_add rfl rfl ?_ ?_ ?_; (· omega); (· omega)) | (refine m_pick_f rfl ?_ (by conv => lhs; whnf) ?_; (· first | rfl | assumption | (refine decide_eq_false ?_; first | assumption | omega) | (refine nf ?_; first | assumption | omega) | (simp [*]; done)))) | (refine g_noT rfl ?_ ?_; (· first | rfl | assumption | (refine decide_eq_false ?_; first | assumption | omega) | (refine nf ?_; first | assumption | omega) | (simp [*]; done))))) | refine end_ops ?_ | refine AW_ops ?_ | (refine cond_f rfl ?_ ?_; (· first | rfl | assumption | (refine decide_eq_false ?_; first | assumption | omega) | (refine nf ?_; first | assumption | omega) | (simp [*]; done))) | refine norm_then ?_ | refine norm_block ?_ | refine AW_skip ?_)
          refine next_round (j + 1) (by omega) (weak_st ?_ ?_ rfl rfl) (by omega)
          · (repeat' (first | exact trivial | refine And.intro ?_ ?_)) <;> (first | rfl | skip)
          · (repeat' (first | exact trivial | refine And.intro ?_ ?_)) <;> (first | rfl | skip)
            show some (true, List.map AV.i _) = some (true, List.map AV.i _)
            rw [skipT fun k => by simp [rkT, hbit]]
        · have hbit : S.testBit j = false := by simpa using hbit
          have hz := bitz hbit
          repeat (first | (refine step_ops ?_; (first | (refine m_mov (by conv => lhs; whnf) ?_) | (refine m_lss rfl rfl ?_))) | refine end_ops ?_ | refine seq_ops ?_ | (refine cond_t rfl ?_ ?_; (· first | rfl | assumption | (refine decide_eq_true ?_; first | assumption | omega) | (refine nt ?_; first | assumption | omega) | (simp [*]; done))) | refine skip_then ?_ | refine AW_seq ?_ | refine AW_block ?_)
          refine step_ops ?_
          refine m_shri (a := S) (k := j) rfl rfl (by omega) ?_
          refine step_ops ?_
          refine m_andz (a := S >>> j) (z := 0) rfl rfl (by omega) hz ?_
          repeat (refine step_ops ?_; ((try (refine g_yes rfl ?_ ?_; (· first | rfl | assumption | (refine decide_eq_true ?_; first | assumption | omega) | (refine nt ?_; first | assumption | omega) | (simp [*]; done) | (refine decide_eq_false ?_; first | assumption | omega) | (refine nf ?_; first | assumption | omega)))); (first | (refine m_mov (by conv => lhs; whnf) ?_) | (refine m_eql rfl rfl ?_))))
          (refine step_ops ?_); (refine g_yes rfl ?_ ?_; (· first | (first | rfl | assumption | (refine decide_eq_true ?_; first | assumption | omega) | (refine nt ?_; first | assumption | omega) | (simp [*]; done)) | (first | rfl | assumption | (refine decide_eq_false ?_; first | assumption | omega) | (refine nf ?_; first | assumption | omega) | (simp [*]; done))); (apply m_call (bdAt_spec B h row j (by omega) hj1))); (· repeat (first | exact lends_nil | (refine lends_cons ?_ ?_; (· exact lend_v))))
          by_cases hf : fbB B row j = true
          · repeat (first | (refine step_ops ?_; (first | (refine m_mov (by conv => lhs; whnf) ?_) | (refine m_add rfl rfl ?_ ?_ ?_; (· omega); (· omega)) | (refine m_pick_t rfl ?_ (by conv => lhs; whnf) ?_; (· first | rfl | assumption | (refine decide_eq_true ?_; first | assumption | omega) | (refine nt ?_; first | assumption | omega) | (simp [*]; done))))) | refine end_ops ?_ | refine seq_ops ?_ | (refine cond_t rfl ?_ ?_; (· first | rfl | assumption | (refine decide_eq_true ?_; first | assumption | omega) | (refine nt ?_; first | assumption | omega) | (simp [*]; done))))
            have hT := insC_lt hS hj1
            have hT512 : insC S j < 512 := Nat.lt_of_lt_of_le hT (Nat.pow_le_pow_right (by decide) (by omega : sdB B ≤ 9))
            have h2j : 2 ^ j < 512 := Nat.lt_of_lt_of_le (Nat.pow_lt_pow_right (by decide) (by omega : j < 9)) (by decide)
            refine step_ops ?_
            refine m_shlz (k := j) (z := 2 ^ j) rfl rfl (by omega) rfl ?_
            refine step_ops ?_
            refine m_ori (a := S) (b := 2 ^ j) (z := insC S j) rfl rfl (by omega) (by omega) (by unfold insC; rw [Nat.one_shiftLeft]) ?_
            have e2 := ih (row + 1) (insC S j) (by omega) hT
            unfold rgR at e2
            (refine step_ops ?_); (apply m_call (e2)); (· repeat (first | exact lends_nil | (refine lends_cons ?_ ?_; (· exact lend_v))))
            repeat (first | (refine step_ops ?_; (first | (refine m_mov (by conv => lhs; whnf) ?_) | (refine m_len_ro rfl ?_))) | refine end_ops ?_ | refine AW_block ?_)
            refine AW_loop (α := Nat) (fun q => q ≤ sdB B + 1) (fun q => st [(0, str B), (1, .i (row : Nat)), (2, .i (S : Nat)), (7, .i (sdB B : Nat)), (8, .sl 18 1 0 (sdB B + 1)), (11, .i (j : Nat)),
                (67, .ro true 1 ((rgL (sdB B) (rkG (fbB B) (sdB B) m (insC S j))).map AV.i) (sdB B + 1)), (68, .i (sdB B + 1 : Nat)), (69, .i (q : Nat))]
              [(18, (true, (rgL (sdB B) (rkQ B m S j q)).map AV.i))]) (fun q => sdB B + 1 - q) 0 (by omega) (weak_st ?_ ?_ rfl rfl) ?_
            · (repeat' (first | exact trivial | refine And.intro ?_ ?_)) <;> (first | rfl | skip)
            · (repeat' (first | exact trivial | refine And.intro ?_ ?_)) <;> (first | rfl | skip)
              show some (true, List.map AV.i _) = some (true, List.map AV.i _)
              rw [rkQ_0]
            rintro q hq
            by_cases hq1 : q < sdB B + 1
            · have g1 := rgL_get (rkG (fbB B) (sdB B) m (insC S j)) hq1
              have l1 := rgL_len (sdB B) (rkG (fbB B) (sdB B) m (insC S j))
              have l2 := rgL_len (sdB B) (rkQ B m S j q)
              have b1 := rkG_le9 h hm8 (insC S j) q
              by_cases hv : 0 < rkG (fbB B) (sdB B) m (insC S j) q
              · have hqn : q < sdB B := by
                  rcases Nat.lt_or_ge q (sdB B) with h3 | h3
                  · exact h3
                  · have := rkG_big (fb := fbB B) (n := sdB B) m (insC S j) q (by omega)
                    omega
                have g2 := rgL_get (n := sdB B) (k := q + 1) (rkQ B m S j q) (by omega)
                have b2 := rkQ_le h hm8 (S := S) (j := j) (q := q) (k := q + 1) (by omega)
                have b3 : 0 ≤ (rgL (sdB B) (rkQ B m S j q)).getD (q + 1) 0 ∧ (rgL (sdB B) (rkQ B m S j q)).getD (q + 1) 0 ≤ 1000000000 := by rw [g2]; omega
                have b4 : 0 < (rgL (sdB B) (rkG (fbB B) (sdB B) m (insC S j))).getD q 0 ∧ (rgL (sdB B) (rkG (fbB B) (sdB B) m (insC S j))).getD q 0 ≤ 43046721 := by rw [g1]; omega
                have hq' : 0 + ((q : Int) + 1).toNat * 1 = q + 1 := by omega
                have b5 : 0 ≤ (rgL (sdB B) (rkQ B m S j q)).getD (0 + ((q : Int) + 1).toNat * 1) 0 ∧ (rgL (sdB B) (rkQ B m S j q)).getD (0 + ((q : Int) + 1).toNat * 1) 0 ≤ 1000000000 := by rw [hq']; exact b3
                repeat (first | (refine step_ops ?_; (first | (refine m_mov (by conv => lhs; whnf) ?_) | (refine m_lss rfl rfl ?_) | (refine m_gtr rfl rfl ?_) | (refine m_add rfl rfl ?_ ?_ ?_; (· omega); (· omega)) | (refine m_idx1_ro rfl rfl ?_ ?_; (· omega)) | (refine m_idx_sl rfl rfl ?_ ?_ ?_; (· omega); (· omega)) | (refine m_ld_rpi rfl ?_ ?_; (· omega)) | (refine m_ld_pti rfl (by rfl) ?_ ?_; (· first | omega | (simp; omega))) | (apply m_st; (· rfl); (· rfl); (· rfl); (· first | omega | (simp; done) | (simp; omega)); (· rfl)))) | refine end_ops ?_ | refine seq_ops ?_ | refine AW_ops ?_ | (refine cond_t rfl ?_ ?_; (· first | rfl | assumption | (refine decide_eq_true ?_; first | assumption | omega) | (refine nt ?_; first | assumption | omega) | (simp [*]; done))) | refine skip_then ?_ | refine AW_seq ?_ | refine norm_then ?_ | refine AW_block ?_ | refine norm_block ?_)
                refine next_round (q + 1) (by omega) (weak_st ?_ ?_ rfl rfl) (by omega)
                · (repeat' (first | exact trivial | refine And.intro ?_ ?_)) <;> (first | rfl | skip)
                · (repeat' (first | exact trivial | refine And.intro ?_ ?_)) <;> (first | rfl | skip)
                  show some (true, List.set (List.map AV.i _) _ (AV.i _)) = some (true, List.map AV.i _)
                  rw [← List.map_set, hq', g1, rgL_set _ (by omega)]
                  congr 3
                  refine rgL_congr fun k _ => rkQ_step B m S j q k
              · have b4 : (rgL (sdB B) (rkG (fbB B) (sdB B) m (insC S j))).getD q 0 = 0 := by rw [g1]; omega
                repeat (first | (refine step_ops ?_; (first | (refine m_mov (by conv => lhs; whnf) ?_) | (refine m_lss rfl rfl ?_) | (refine m_gtr rfl rfl ?_) | (refine m_add rfl rfl ?_ ?_ ?_; (· omega); (· omega)) | (refine m_idx1_ro rfl rfl ?_ ?_; (· omega)) | (refine m_ld_rpi rfl ?_ ?_; (· omega)))) | refine end_ops ?_ | refine seq_ops ?_ | refine AW_ops ?_ | (refine cond_t rfl ?_ ?_; (· first | rfl | assumption | (refine decide_eq_true ?_; first | assumption | omega) | (refine nt ?_; first | assumption | omega) | (simp [*]; done))) | (refine cond_f rfl ?_ ?_; (· first | rfl | assumption | (refine decide_eq_false ?_; first | assumption | omega) | (refine nf ?_; first | assumption | omega) | (simp [*]; done))) | refine skip_then ?_ | refine AW_seq ?_ | refine norm_then ?_ | refine AW_block ?_ | refine norm_block ?_ | refine AW_skip ?_)
                refine next_round (q + 1) (by omega) (weak_st ?_ ?_ rfl rfl) (by omega)
                · (repeat' (first | exact trivial | refine And.intro ?_ ?_)) <;> (first | rfl | skip)
                · (repeat' (first | exact trivial | refine And.intro ?_ ?_)) <;> (first | rfl | skip)
                  show some (true, List.map AV.i _) = some (true, List.map AV.i _)
                  rw [rkQ_skip (by omega)]
            · have hqe : q = sdB B + 1 := by omega
              subst hqe
              rw [rkQ_end hrowm hf hbit]
              repeat (first | (refine step_ops ?_; (first | (refine m_mov (by conv => lhs; whnf) ?_) | (refine m_lss rfl rfl ?_) | (refine m_add rfl rfl ?_ ?_ ?_; (· omega); (· omega)))) | refine end_ops ?_ | refine seq_ops ?_ | refine AW_ops ?_ | (refine cond_f rfl ?_ ?_; (· first | rfl | assumption | (refine decide_eq_false ?_; first | assumption | omega) | (refine nf ?_; first | assumption | omega) | (simp [*]; done))) | refine AW_seq ?_ | refine norm_then ?_ | refine exit_then ?_ | refine norm_block ?_ | refine exit_round ?_ | refine AW_exit ?_ | refine exit_block ?_)
              refine next_round (j + 1) (by omega) (weak_st ?_ ?_ rfl rfl) (by omega)
              · (repeat' (first | exact trivial | refine And.intro ?_ ?_)) <;> (first | rfl | skip)
              · (repeat' (first | exact trivial | refine And.intro ?_ ?_)) <;> (first | rfl | skip)
          · have hf : fbB B row j = false := by simpa using hf
            repeat (first | (refine step_ops ?_; (first | (refine m_mov (by conv => lhs; whnf) ?_) | (refine m_add rfl rfl ?_ ?_ ?_; (· omega); (· omega)) | (refine m_pick_t rfl ?_ (by conv => lhs; whnf) ?_; (· first | rfl | assumption | (refine decide_eq_true ?_; first | assumption | omega) | (refine nt ?_; first | assumption | omega) | (simp [*]; done))))) | refine end_ops ?_ | refine AW_ops ?_ | (refine cond_f rfl ?_ ?_; (· first | rfl | assumption | (refine decide_eq_false ?_; first | assumption | omega) | (refine nf ?_; first | assumption | omega) | (simp [*]; done))) | refine norm_then ?_ | refine norm_block ?_ | refine AW_skip ?_)
            refine next_round (j + 1) (by omega) (weak_st ?_ ?_ rfl rfl) (by omega)
            · (repeat' (first | exact trivial | refine And.intro ?_ ?_)) <;> (first | rfl | skip)
            · (repeat' (first | exact trivial | refine And.intro ?_ ?_)) <;> (first | rfl | skip)
              show some (true, List.map AV.i _) = some (true, List.map AV.i _)
              rw [skipT fun k => by simp [rkT, hrowm, hf]]
      · have hje : j = sdB B := by omega
        subst hje
        repeat (first | (refine step_ops ?_; (first | (refine m_mov (by conv => lhs; whnf) ?_) | (refine m_lss rfl rfl ?_))) | refine end_ops ?_ | refine seq_ops ?_ | (refine cond_f rfl ?_ ?_; (· first | rfl | assumption | (refine decide_eq_false ?_; first | assumption | omega) | (refine nf ?_; first | assumption | omega) | (simp [*]; done))) | refine AW_seq ?_ | refine AW_ret ?_ | refine ret_done ?_ | refine norm_then ?_ | refine exit_then ?_ | refine exit_round ?_ | refine AW_exit ?_ | refine exit_block ?_)
        exact outs_sl rfl (by simp [rgL]) (allv_ints _)
end Go.Proofs.YtojpcpdbnmnknaaDoor
