/- Contracts: the program counts ways to put rooks. -/
import Derived.Test.YtojpcpdbnmnknaaDoorSpRkB
namespace Go.Am
section
variable {P : Program} {N : Nat} {s : AS} {Q : Exit → AS → Prop}
/-- A scope whose rest is shown once, for the first pass too. -/
theorem AW_scopeL {c rest : ACode} {α : Type} (l : Nat) (Inv : α → Prop) (I : α → AS) (m : α → Nat) (hfind : afind c l = some (.seq .skip rest)) (pass : ∀ x, Inv x → AW P N rest (I x) (Jump l Inv I m (some (m x)) Q))
    (first : (∀ x, Inv x → AW P N rest (I x) (Jump l Inv I m none Q)) → AW P N c s (Jump l Inv I m none Q)) : AW P N (.scope c) s Q :=
  AW_scope l Inv I m hfind (first fun x hx => AW_mono (pass x hx) fun e s h => by
    cases e with
    | goto l' =>
      obtain ⟨h1, x', h2, h3, _⟩ := h
      exact ⟨h1, x', h2, h3, fun n hn => by cases hn⟩
    | _ => exact h) fun x hx => AW_seq (AW_skip (norm_then (pass x hx)))
theorem goto_block {id l : Nat} (h : Q (.goto l) s) : InBlock id Q (.goto l) s := h
theorem goto_then {l : Nat} {K : AS → Prop} (h : Q (.goto l) s) : Then K Q (.goto l) s := h
theorem goto_round {α : Type} {Inv : α → Prop} {I : α → AS} {m : α → Nat} {x : α} {l : Nat} (h : Q (.goto l) s) : Round Inv I m x Q (.goto l) s := h
theorem goto_jump {α : Type} {l : Nat} {Inv : α → Prop} {I : α → AS} {m : α → Nat} {bd : Option Nat} (x : α) (h1 : Inv x) (h2 : Weak s (I x)) (h3 : ∀ n, bd = some n → m x < n) : Jump l Inv I m bd Q (.goto l) s := ⟨rfl, x, h1, h2, h3⟩
/-- Forgetting, with other names for a few regions. -/
theorem weak_stN {l : List (Nat × AV)} {h : List (Nat × (Bool × List AV))} (f : Nat → Nat) (ks : List Nat) (hk : h.map (·.1) = ks) (hd : (ks.map f).Nodup) (hb : (ks.all fun k => decide (k < 4000000) && decide (f k < 4000000)) = true) (hl : HasF s f l) (hh : HasJ s f h)
    (hr : refsT (fun r => (look h r).isSome) l = true) (hrh : refsH (fun r => (look h r).isSome) h = true) : Weak s (st l h) := by
  refine weak_stR f hl hh ?_ (fun p hp => ?_) hr hrh
  · rw [← hk, List.map_map] at hd
    exact hd
  · have h1 := List.all_eq_true.1 hb p.1 (by rw [← hk]; exact List.mem_map.2 ⟨p, hp, rfl⟩)
    simp only [Bool.and_eq_true, decide_eq_true_eq] at h1
    exact .inl h1
end
/-- One name more is told for another. -/
def fNm (a b : Nat) (q : Nat) : Nat := if q = a then b else q
theorem nodup_len {n : Nat} {l : List Nat} (h : l.Nodup) (hl : ∀ r ∈ l, r < n) : l.length ≤ n := by
  have hp : l.Perm ((List.range n).filter fun r => decide (r ∈ l)) := by
    refine (List.perm_ext_iff_of_nodup h (List.nodup_range.filter _)).2 fun a => ?_
    simp only [List.mem_filter, List.mem_range, decide_eq_true_eq]
    exact ⟨fun h => ⟨hl a h, h⟩, fun h => h.2⟩
  have h1 := hp.length_eq
  have h2 := List.length_filter_le (fun r => decide (r ∈ l)) (List.range n)
  rw [List.length_range] at h2
  omega
end Go.Am
namespace Go.Proofs.YtojpcpdbnmnknaaDoor
open Go.Am
attribute [local irreducible] AW Outs Weak Lends Lend Sp aops atree aop1 Then Round InBlock Done
attribute [local irreducible] SpH SpX DoneH DoneX

def bdN (fb : Nat → Nat → Bool) (n : Nat) : List AV := [.i (n : Nat), .rmp false (mkEs (posP fb n n)) (posP fb n n).length]
/-- The places whose rows were not taken yet. -/
def notIn (l : List Nat) (p : Nat × Nat) : Bool := !l.contains p.1
/-- .., and that are not in the beginning of a row. -/
def notIn2 (l : List Nat) (row c : Nat) (p : Nat × Nat) : Bool := !l.contains p.1 && !(decide (p.1 = row) && decide (p.2 < c))
/-- The numbers of rooks, by the entries that were seen. -/
def rkS (W : List RWay) (n : Nat) (seen : Array Nat) : List Int := (List.range (n + 1)).map fun k => ((sumW W fun q => if seen.contains q.b then q.v * popIs k q.t else 0 : Nat) : Int)
theorem rkS_none (W : List RWay) (n : Nat) : rkS W n #[] = List.replicate (n + 1) 0 := by
  unfold rkS
  rw [List.eq_replicate_iff]
  refine ⟨by simp, fun b hb => ?_⟩
  obtain ⟨k, _, rfl⟩ := List.mem_map.1 hb
  rw [sumW_none]
  rfl
theorem rkS_get (W : List RWay) (seen : Array Nat) {n k : Nat} (h : k < n + 1) : (rkS W n seen).getD k 0 = ((sumW W fun q => if seen.contains q.b then q.v * popIs k q.t else 0 : Nat) : Int) := by
  unfold rkS
  simp [h]
theorem rkS_set {W : List RWay} {n : Nat} {seen : Array Nat} {p : RWay} (hn : (W.map (·.b)).Nodup) (hp : p ∈ W) (hs : seen.contains p.b = false) (hk : pop16 p.t < n + 1) :
    (rkS W n seen).set (pop16 p.t) ((rkS W n seen).getD (pop16 p.t) 0 + (p.v : Nat)) = rkS W n (seen.push p.b) := by
  apply List.ext_getElem?
  intro j
  rw [List.getElem?_set, rkS_get W seen hk]
  have hl : (rkS W n seen).length = n + 1 := by simp [rkS]
  by_cases e : pop16 p.t = j
  · subst e
    rw [if_pos rfl, if_pos (by omega)]
    simp only [rkS, List.getElem?_map, List.getElem?_range hk, Option.map_some]
    rw [sumW_seen hn hp hs (fun q => q.v * popIs (pop16 p.t) q.t)]
    have : popIs (pop16 p.t) p.t = 1 := if_pos rfl
    rw [this]
    simp
  · rw [if_neg e]
    by_cases hj : j < n + 1
    · simp only [rkS, List.getElem?_map, List.getElem?_range hj, Option.map_some]
      rw [sumW_seen hn hp hs (fun q => q.v * popIs j q.t)]
      have : popIs j p.t = 0 := if_neg e
      rw [this]
      simp
    · simp [rkS, hj]
theorem pop_le {T n : Nat} (hn : n ≤ 16) (hT : T < 2 ^ n) : pop16 T ≤ n := by
  have key : ∀ m, sumN m (fun k => if T.testBit k then 1 else 0) ≤ min m n := by
    intro m
    induction m with
    | zero => simp [sumN]
    | succ m ih =>
      simp only [sumN]
      by_cases hm : m < n
      · split <;> omega
      · have : T.testBit m = false := Nat.testBit_lt_two_pow (Nat.lt_of_lt_of_le hT (Nat.pow_le_pow_right (by decide) (by omega)))
        rw [this]
        simp
        omega
  have := key 16
  unfold pop16
  omega
theorem addC_one (row : Nat → Bool) (T c : Nat) : addC row (fun _ => 1) T c ≤ 1 := by
  unfold addC
  split
  · exact Nat.le_refl _
  · omega
theorem sumW_mul (w : List RWay) (g : RWay → Nat) (k : Nat) : sumW w (fun q => g q * k) = sumW w g * k := by
  induction w with
  | nil => simp [sumW]
  | cons q w ih => rw [sumW_cons, sumW_cons, ih, Nat.add_mul]
theorem wv_le (w : List RWay) (T : Nat) : wv w T ≤ wE w (fun _ => 1) := by
  unfold wv
  cases h : w.find? fun p => p.t == T with
  | none => exact Nat.zero_le _
  | some p =>
    have h3 : p.v * 1 ≤ wE w fun _ => 1 := sumW_le (g := fun q => q.v * 1) (List.mem_of_find?_eq_some h)
    show p.v ≤ _
    omega
theorem zeros_flat (k : Nat) : (List.replicate k (List.map AV.v [Value.int .i64 0])).flatten = (List.replicate k (0 : Int)).map AV.i := by
  induction k with
  | zero => rfl
  | succ k ih => rw [List.replicate_succ, List.flatten_cons, ih]; rfl
structure RkInv (fb : Nat → Nat → Bool) (n : Nat) (l : List Nat) (W : List RWay) (ck : Nat) : Prop where
  nd : l.Nodup
  lt : ∀ r ∈ l, r < n
  ok : WaysOk n ck W
  sum : ∀ g, wE W g = rowsR fb n l g 0
abbrev brd (fb : Nat → Nat → Bool) (n : Nat) : Nat × (Bool × List AV) := (1, (true, bdN fb n))
def rkR (fb : Nat → Nat → Bool) (n : Nat) : AV := .ro true 1 (((List.range (n + 1)).map fun k => ((rkN fb n k : Nat) : Int)).map AV.i) (n + 1)
theorem plArr_old {fb : Nat → Nat → Bool} {n : Nat} {D : Nat × Nat → Bool} : ∀ e ∈ (plArr (lfA fb n D)).toList, e.born < (posP fb n n).length := by
  intro e he
  obtain ⟨q, hq, rfl⟩ := plArr_mem.1 he
  exact (lfA_mem hq).2.2
theorem plArr_keys {fb : Nat → Nat → Bool} {n : Nat} {D : Nat × Nat → Bool} (h8 : n ≤ 8) : ∀ e ∈ (plArr (lfA fb n D)).toList, ∃ q, keyOf Tryd.prog 63 e.key = some q := by
  intro e he
  obtain ⟨q, hq, rfl⟩ := plArr_mem.1 he
  have := (lfA_mem hq).1
  exact key_place (wf_int (by omega) (by omega)) (wf_int (by omega) (by omega))
/-- A place is asked for among those that are left. -/
theorem m_lfget {own : Bool} {d : Option Nat} {s : AS} {K : AS → Prop} {x i : Opd} {r a b n : Nat} {fb : Nat → Nat → Bool} {D : Nat × Nat → Bool} (h8 : n ≤ 8) (ha : a < n) (hb : b < n) (hx : s.ev x = .mp r) (hr : s.hp r = some (lfObj fb n D)) (hi : exV (s.ev i) = some (keyP a b))
    (k : K (s.put d (.b (fb a b && D (a, b))))) : aop1 Tryd.prog own ⟨d, .mgetk 63 (.bool false) false x i, none⟩ s K := by
  refine m_mgetk place_law (.inl ⟨r, hx, hr⟩) hi (key_place (wf_int (by omega) (by omega)) (wf_int (by omega) (by omega))) (plArr_keys h8) ?_ ?_ k
  · intro e he hk
    obtain ⟨q, hq, rfl⟩ := plArr_mem.1 he
    have h1 := plE_key hk
    have h2 := lfA_mem hq
    rw [h1] at h2
    have : (fb a b && D (a, b)) = true := by rw [h2.1.2.2, h2.2.1]; rfl
    rw [this]
    rfl
  · intro hno
    have : (fb a b && D (a, b)) = false := by
      rw [Bool.eq_false_iff]
      intro ht
      simp only [Bool.and_eq_true] at ht
      obtain ⟨q, hq, e⟩ := lfA_has (fb := fb) (n := n) (p := (a, b)) ⟨ha, hb, ht.1⟩ ht.2
      exact hno (plE q) (plArr_mem.2 ⟨q, hq, rfl⟩) (by unfold plE entP; rw [e])
    rw [this]
    rfl
/-- A place that is left is deleted. -/
theorem m_lfdel {own : Bool} {d : Option Nat} {s : AS} {K : AS → Prop} {x i : Opd} {r a b n : Nat} {fb : Nat → Nat → Bool} {D : Nat × Nat → Bool} (h8 : n ≤ 8) (ha : a < n) (hb : b < n) (hx : s.ev x = .mp r) (hr : s.hp r = some (lfObj fb n D)) (hi : exV (s.ev i) = some (keyP a b))
    (k : K ((s.mem r (lfObj fb n fun p => D p && !decide (p = (a, b)))).put d (.tup []))) : aop1 Tryd.prog own ⟨d, .mdel 63 x i, none⟩ s K := by
  refine m_mdel place_law hx hr hi (key_place (wf_int (by omega) (by omega)) (wf_int (by omega) (by omega))) (plArr_keys h8) (fun j e he hk => ?_) fun hno => ?_
  · obtain ⟨q, hq, rfl⟩ := plArr_get he
    have h1 := plE_key hk
    rw [lfA_erase hq, h1]
    exact k
  · have e : lfA fb n D = lfA fb n fun p => D p && !decide (p = (a, b)) := by
      unfold lfA
      refine List.filter_congr fun q hq => ?_
      by_cases h : D q.1 = true
      · have : q.1 ≠ (a, b) := fun e => hno (plE q) (plArr_mem.2 ⟨q, List.mem_filter.2 ⟨hq, h⟩, rfl⟩) (by unfold plE entP; rw [e])
        simp [this]
      · simp at h; simp [h]
    rw [e]
    exact k

theorem rookNumbers_spec (fb : Nat → Nat → Bool) (n : Nat) (h1 : 1 ≤ n) (h8 : n ≤ 8) : Sp Tryd.prog 30 [.agg (bdN fb n)] (rkR fb n) := by
  refine spec_of Tryd.func30 rfl cc30 rfl ?_
  unfold ac30
  repeat (first | (refine step_ops ?_; (first | (refine m_nils ?_) | (refine m_box rfl ?_ ?_; (· first | rfl | (simp [cellOk, Value.oneCell']; done))))) | refine end_ops ?_ | refine seq_ops ?_)
  refine AW_scopeL (α := List Nat × List RWay × Nat) 0 (fun x => RkInv fb n x.1 x.2.1 x.2.2)
    (fun x => st [(1, .pt 1 0), (3, .mp 100), (4, .mp 101)] [brd fb n, (100, wObj x.2.1 x.2.2), (101, lfObj fb n (notIn x.1))]) (fun x => n - x.1.length) rfl ?_ ?_
  · rintro ⟨l, W, ck⟩ ⟨hnd, hlt, hok, hsum⟩
    dsimp only at hnd hlt hok hsum ⊢
    repeat (first | (refine step_ops ?_; (refine m_mov (by conv => lhs; whnf) ?_)) | refine seq_ops ?_ | refine AW_seq ?_)
    refine step_ops ?_
    refine m_mrg rfl (by decide) rfl fun bm => ?_
    repeat (first | refine end_ops ?_ | refine AW_block ?_)
    refine AW_loop (α := Unit) (fun _ => True) (fun _ => st [(1, .pt 1 0), (3, .mp 100), (4, .mp 101), (20, .mit 20 (some 101) bm #[] 0)] [brd fb n, (100, wObj W ck), (101, lfObj fb n (notIn l)), (20, (true, [.ob (.mapIter (some bm) (posP fb n n).length #[] (posP fb n n).length)]))])
      (fun _ => 0) () trivial (weak_st ?_ ?_ rfl rfl) ?_
    · (repeat' (first | exact trivial | refine And.intro ?_ ?_)) <;> (first | rfl | skip)
    · (repeat' (first | exact trivial | refine And.intro ?_ ?_)) <;> (first | rfl | skip)
    rintro ⟨⟩ _
    refine AW_seq ?_
    refine AW_ops ?_
    refine step_ops ?_
    refine m_mnx rfl rfl (by decide) rfl plArr_old (Nat.le_refl _) (fun hall => ?_) (fun e he hs => ?_)
    · have hnone : ∀ r, r < n → r ∉ l → ∀ c, c < n → fb r c = false := by
        intro r hr hrl c hc
        rw [Bool.eq_false_iff]
        intro hf
        obtain ⟨q, hq, e⟩ := lfA_has (fb := fb) (n := n) (D := notIn l) (p := (r, c)) ⟨hr, hc, hf⟩ (by simp [notIn, hrl])
        have := hall (plE q) (plArr_mem.2 ⟨q, hq, rfl⟩)
        simp at this
      have hk : ∀ k, wE W (popIs k) = rkN fb n k := fun k => by rw [hsum, rkN_any (by omega) hnd hlt hnone]
      have hW1 : wE W (fun _ => 1) ≤ 43046721 := by
        have hlen := nodup_len hnd hlt
        rw [hsum]
        refine Nat.le_trans (rowsR_le (b := 1) (fun _ => Nat.le_refl _) l 0) ?_
        rw [Nat.mul_one]
        exact Nat.le_trans (Nat.pow_le_pow_left (by omega : n + 1 ≤ 9) _) (Nat.le_trans (Nat.pow_le_pow_right (by omega) (by omega : l.length ≤ 8)) (by decide))
      have hle : ∀ k, rkN fb n k ≤ 43046721 := fun k => by
        rw [← hk]
        refine Nat.le_trans (sumW_mono fun p _ => Nat.mul_le_mul_left p.v (h := ?_)) hW1
        show popIs k p.t ≤ 1
        unfold popIs; split <;> omega
      repeat (first | (refine step_ops ?_; (first | (refine m_add rfl rfl ?_ ?_ ?_; (· omega); (· omega)) | (apply m_ld_pt; (· rfl); (· rfl); (· rfl)) | (refine m_ext rfl rfl ?_) | (refine m_fa rfl ?_))) | refine end_ops ?_ | refine seq_ops ?_ | (refine cond_f rfl ?_ ?_; (· first | rfl | assumption | (refine decide_eq_false ?_; first | assumption | omega) | (refine nf ?_; first | assumption | omega) | (simp [*]; done))) | refine AW_seq ?_ | refine norm_then ?_ | refine exit_then ?_ | refine exit_round ?_ | refine AW_exit ?_ | refine exit_block ?_)
      refine step_ops ?_
      refine m_mk (n := n + 1) rfl rfl (by omega) (by omega) ?_
      repeat (first | (refine step_ops ?_; (refine m_mov (by conv => lhs; whnf) ?_)) | refine end_ops ?_ | refine seq_ops ?_ | refine AW_seq ?_)
      refine step_ops ?_
      refine m_mrg (q := 100) rfl (by decide) rfl fun bm2 => ?_
      repeat (first | refine end_ops ?_ | refine AW_block ?_)
      refine AW_loop (α := Array Nat) (fun _ => True)
        (fun seen => st [(1, .pt 1 0), (11, .sl 65 1 0 (n + 1)), (67, .mit 67 (some 100) bm2 #[] 0)]
          [brd fb n, (65, (true, (rkS W n seen).map AV.i)), (100, wObj W ck), (67, (true, [.ob (.mapIter (some bm2) ck seen ck)]))])
        (fun seen => leftW W seen) #[] trivial (weak_st ?_ ?_ rfl rfl) ?_
      · (repeat' (first | exact trivial | refine And.intro ?_ ?_)) <;> (first | rfl | skip)
      · (repeat' (first | exact trivial | refine And.intro ?_ ?_)) <;> (first | rfl | skip)
        rw [rkS_none]
        show some (true, (List.replicate (n + 1) (List.map AV.v [Value.int .i64 0])).flatten) = _
        rw [zeros_flat]
      rintro seen _
      refine AW_seq ?_
      refine AW_ops ?_
      refine step_ops ?_
      refine m_mnx (q := 100) (r := 67) (c0 := ck) rfl rfl (by decide) rfl (fun e he => ?_) (Nat.le_refl _) (fun hall2 => ?_) (fun e he hs => ?_)
      · obtain ⟨p, hp, rfl⟩ := wA_mem.1 he
        exact hok.old p hp
      · have hfin : rkS W n seen = (List.range (n + 1)).map fun k => ((rkN fb n k : Nat) : Int) := by
          refine List.map_congr_left fun k _ => ?_
          rw [← hk]
          congr 1
          refine sumW_congr fun q hq => ?_
          have h3 : seen.contains q.b = true := hall2 q.ent (wA_mem.2 ⟨q, hq, rfl⟩)
          rw [if_pos h3]
        rw [hfin]
        repeat (first | (refine step_ops ?_; (first | (refine m_mov (by conv => lhs; whnf) ?_) | (refine m_ext rfl rfl ?_))) | refine end_ops ?_ | refine seq_ops ?_ | (refine cond_f rfl ?_ ?_; (· first | rfl | assumption | (refine decide_eq_false ?_; first | assumption | omega) | (refine nf ?_; first | assumption | omega) | (simp [*]; done))) | refine AW_seq ?_ | refine AW_ret ?_ | refine ret_done ?_ | refine norm_then ?_ | refine exit_then ?_ | refine exit_round ?_ | refine AW_exit ?_ | refine exit_block ?_)
        exact outs_sl rfl (by simp) (allv_ints _)
      · obtain ⟨p, hp, rfl⟩ := wA_mem.1 he
        have hpt := hok.lt p hp
        have hpt512 : p.t < 512 := Nat.lt_of_lt_of_le hpt (Nat.pow_le_pow_right (by decide) (by omega : n ≤ 9))
        have hpop : pop16 p.t ≤ n := pop_le (by omega) hpt
        repeat (first | (refine step_ops ?_; (refine m_ext rfl rfl ?_)) | refine end_ops ?_ | refine seq_ops ?_ | (refine cond_t rfl ?_ ?_; (· first | rfl | assumption | (refine decide_eq_true ?_; first | assumption | omega) | (refine nt ?_; first | assumption | omega) | (simp [*]; done))) | refine skip_then ?_ | refine AW_seq ?_ | refine norm_then ?_ | refine AW_block ?_)
        refine step_ops ?_
        refine m_ment (q := 100) (r := 67) (e := p.ent) (ka := .u p.t) (va := .i (p.v : Nat)) rfl rfl (by decide) rfl he (wA_born hok.born) rfl rfl ?_
        repeat (first | (refine step_ops ?_; (first | (refine m_mov (by conv => lhs; whnf) ?_) | (refine m_ext rfl rfl ?_))) | refine end_ops ?_ | refine AW_ops ?_)
        (refine step_ops ?_); (apply m_call (sizeP_spec p.t hpt512)); (· repeat (first | exact lends_nil | (refine lends_cons ?_ ?_; (· exact lend_v))))
        have hgd : (rkS W n seen).getD (pop16 p.t) 0 = ((sumW W fun q => if seen.contains q.b then q.v * popIs (pop16 p.t) q.t else 0 : Nat) : Int) := rkS_get W seen (by omega)
        have hb1 : (sumW W fun q => if seen.contains q.b then q.v * popIs (pop16 p.t) q.t else 0) ≤ 43046721 := by
          refine Nat.le_trans (sumW_mono fun q _ => ?_) hW1
          show _ ≤ q.v * 1
          split
          · exact Nat.mul_le_mul_left _ (by unfold popIs; split <;> omega)
          · omega
        have hb2 : p.v ≤ 43046721 := by
          have h3 : p.v * 1 ≤ wE W fun _ => 1 := sumW_le (g := fun q => q.v * 1) hp
          omega
        have hbs := leftW_lt hp hs
        have hrl : (rkS W n seen).length = n + 1 := by simp [rkS]
        have hb3 : 0 ≤ (rkS W n seen).getD (pop16 p.t) 0 ∧ (rkS W n seen).getD (pop16 p.t) 0 ≤ 43046721 := by rw [hgd]; omega
        repeat (first | (refine step_ops ?_; (first | (refine m_mov (by conv => lhs; whnf) ?_) | (refine m_add rfl rfl ?_ ?_ ?_; (· omega); (· omega)) | (refine m_idx1_sl rfl rfl ?_ ?_; (· omega)) | (refine m_ld_pti rfl (by rfl) ?_ ?_; (· first | omega | (simp; omega))) | (apply m_st; (· rfl); (· rfl); (· rfl); (· first | omega | (simp; done) | (simp; omega)); (· rfl)))) | refine end_ops ?_ | refine norm_block ?_)
        refine next_round (seen.push p.b) trivial (weak_st ?_ ?_ rfl rfl) hbs
        · (repeat' (first | exact trivial | refine And.intro ?_ ?_)) <;> (first | rfl | skip)
        · (repeat' (first | exact trivial | refine And.intro ?_ ?_)) <;> (first | rfl | skip)
          rw [← rkS_set hok.born hp hs (by omega), List.map_set]
          rfl
    · obtain ⟨q, hq, rfl⟩ := plArr_mem.1 he
      obtain ⟨⟨hr, hc, hf⟩, hD, _⟩ := lfA_mem hq
      obtain ⟨⟨row, col⟩, stamp⟩ := q
      dsimp only at hr hc hf
      repeat (first | (refine step_ops ?_; (refine m_ext rfl rfl ?_)) | refine end_ops ?_ | refine seq_ops ?_ | (refine cond_t rfl ?_ ?_; (· first | rfl | assumption | (refine decide_eq_true ?_; first | assumption | omega) | (refine nt ?_; first | assumption | omega) | (simp [*]; done))) | refine skip_then ?_ | refine AW_seq ?_ | refine norm_then ?_ | refine AW_block ?_)
      refine step_ops ?_
      refine m_ment (e := plE ((row, col), stamp)) (ka := .agg [.i (row : Nat), .i (col : Nat)]) (va := .b true) rfl rfl (by decide) rfl he (lfA_born fb n _) rfl rfl ?_
      repeat (first | (refine step_ops ?_; (first | (refine m_mov (by conv => lhs; whnf) ?_) | (refine m_ext rfl rfl ?_) | (refine m_alloc ?_) | (refine m_stall rfl rfl rfl ?_ ?_ ?_ ?_; (· first | rfl | (simp [*]; done)); (· first | rfl | (simp [*]; done)); (· first | rfl | (simp [cellOk, Value.oneCell']; done))))) | refine end_ops ?_ | refine seq_ops ?_)
      refine step_ops ?_
      refine m_clone 102 (cloneWays_spec (wA W) ck) (.inl ⟨100, rfl, rfl⟩) rfl (by decide) ?_
      repeat (first | (refine step_ops ?_; (first | (refine m_mov (by conv => lhs; whnf) ?_) | (apply m_ld_pt; (· rfl); (· rfl); (· rfl)) | (refine m_fa rfl ?_))) | refine end_ops ?_ | refine seq_ops ?_ | refine AW_seq ?_ | refine AW_block ?_)
      have hrl' : row ∉ l := by
        have : (l.contains row) = false := by simpa [notIn] using hD
        simpa using this
      have hlen := nodup_len hnd hlt
      have hW1 : wE W (fun _ => 1) ≤ 43046721 := by
        rw [hsum]
        refine Nat.le_trans (rowsR_le (b := 1) (fun _ => Nat.le_refl _) l 0) ?_
        rw [Nat.mul_one]
        exact Nat.le_trans (Nat.pow_le_pow_left (by omega : n + 1 ≤ 9) _) (Nat.le_trans (Nat.pow_le_pow_right (by omega) (by omega : l.length ≤ 8)) (by decide))
      refine AW_loop (α := Nat × List RWay × Nat) (fun x => x.1 ≤ n ∧ WaysOk n x.2.2 x.2.1 ∧ ∀ g, wE x.2.1 g = sumW W fun q => q.v * (g q.t + sumN x.1 (addC (fb row) g q.t)))
        (fun x => st [(1, .pt 1 0), (3, .mp 100), (4, .mp 101), (5, .pt 5 0), (6, .mp 102), (28, .i (n : Nat)), (29, .i (x.1 : Nat))]
          [brd fb n, (5, (true, [.i (row : Nat), .i (col : Nat)])), (100, wObj W ck), (101, lfObj fb n (notIn2 l row x.1)), (102, wObj x.2.1 x.2.2)])
        (fun x => n - x.1) (0, W, ck) ⟨Nat.zero_le _, hok, fun g => rfl⟩ (weak_st ?_ ?_ rfl rfl) ?_
      · (repeat' (first | exact trivial | refine And.intro ?_ ?_)) <;> (first | rfl | skip)
      · (repeat' (first | exact trivial | refine And.intro ?_ ?_)) <;> (first | rfl | skip)
        show some (lfObj fb n (notIn l)) = some (lfObj fb n (notIn2 l row 0))
        congr 4
        funext p
        simp [notIn, notIn2]
      rintro ⟨c, L, ck2⟩ ⟨hcn, hokL, hsumL⟩
      dsimp only at hcn hokL hsumL ⊢
      by_cases hc8 : c < n
      · repeat (first | (refine step_ops ?_; (first | (refine m_mov (by conv => lhs; whnf) ?_) | (refine m_lss rfl rfl ?_) | (apply m_ld_pt; (· rfl); (· rfl); (· rfl)) | (refine m_alloc ?_) | (refine m_fa rfl ?_) | (refine m_bld_2 (by conv => lhs; whnf) (by conv => lhs; whnf) (by decide)  (by decide) (by rfl) (by rfl) ?_) | (refine m_ldall rfl rfl ?_ ?_; (· first | rfl | (simp; done) | (simp [*]; done))) | (refine m_stall rfl rfl rfl ?_ ?_ ?_ ?_; (· first | rfl | (simp [*]; done)); (· first | rfl | (simp [*]; done)); (· first | rfl | (simp [cellOk, Value.oneCell']; done))))) | refine end_ops ?_ | refine seq_ops ?_ | (refine cond_t rfl ?_ ?_; (· first | rfl | assumption | (refine decide_eq_true ?_; first | assumption | omega) | (refine nt ?_; first | assumption | omega) | (simp [*]; done))) | refine skip_then ?_ | refine AW_seq ?_ | refine AW_block ?_)
        refine step_ops ?_
        refine m_lfget (a := row) (b := c) h8 hr hc8 rfl rfl rfl ?_
        have hD2 : notIn2 l row c (row, c) = true := by simp [notIn2, hrl']
        rw [hD2, Bool.and_true]
        have hlf : lfA fb n (fun p => notIn2 l row c p && !decide (p = (row, c))) = lfA fb n (notIn2 l row (c + 1)) := by
          congr 1
          funext p
          obtain ⟨i, j⟩ := p
          simp only [notIn2, Prod.mk.injEq]
          by_cases e1 : i = row
          · by_cases e2 : j = c
            · simp [e1, e2]
            · have : decide (j < c + 1) = decide (j < c) := decide_eq_decide.2 (by omega)
              simp [e1, e2, this]
          · simp [e1]
        by_cases hf2 : fb row c = true
        · repeat (first | (refine step_ops ?_; (first | (refine m_mov (by conv => lhs; whnf) ?_) | (refine m_not rfl ?_) | (refine m_ldall rfl rfl ?_ ?_; (· first | rfl | (simp; done) | (simp [*]; done))))) | refine end_ops ?_ | refine seq_ops ?_ | (refine cond_f rfl ?_ ?_; (· first | rfl | assumption | (refine decide_eq_false ?_; first | assumption | omega) | (refine nf ?_; first | assumption | omega) | (simp [*]; done))) | refine skip_then ?_)
          refine step_ops ?_
          refine m_lfdel (a := row) (b := c) h8 hr hc8 rfl rfl rfl ?_
          repeat (first | (refine step_ops ?_; (refine m_mov (by conv => lhs; whnf) ?_)) | refine end_ops ?_ | refine seq_ops ?_)
          refine step_ops ?_
          refine m_mrg (q := 100) rfl (by decide) rfl fun bm3 => ?_
          repeat (first | refine end_ops ?_ | refine AW_block ?_)
          refine AW_loop (α := List RWay × Nat × Array Nat) (fun x => WaysOk n x.2.1 x.1 ∧ ∀ g, wE x.1 g = wE L g + sumW W fun q => if x.2.2.contains q.b then q.v * addC (fb row) g q.t c else 0)
            (fun x => st [(1, .pt 1 0), (3, .mp 100), (4, .mp 101), (5, .pt 5 0), (6, .mp 102), (7, .i (c : Nat)), (28, .i (n : Nat)), (29, .i (c : Nat)), (43, .mit 43 (some 100) bm3 #[] 0)]
              [brd fb n, (5, (true, [.i (row : Nat), .i (col : Nat)])), (43, (true, [.ob (.mapIter (some bm3) ck x.2.2 ck)])), (100, wObj W ck), (101, lfObj fb n (notIn2 l row (c + 1))), (102, wObj x.1 x.2.1)])
            (fun x => leftW W x.2.2) (L, ck2, #[]) ⟨hokL, fun g => by rw [sumW_none]; rfl⟩ (weak_st ?_ ?_ rfl rfl) ?_
          · (repeat' (first | exact trivial | refine And.intro ?_ ?_)) <;> (first | rfl | skip)
          · (repeat' (first | exact trivial | refine And.intro ?_ ?_)) <;> (first | rfl | skip)
            show some (true, [AV.ob (.map (plArr _) _)]) = _
            rw [hlf]
          rintro ⟨M, ck3, seen⟩ ⟨hokM, hsumM⟩
          dsimp only at hokM hsumM ⊢
          refine AW_seq ?_
          refine AW_ops ?_
          refine step_ops ?_
          refine m_mnx (q := 100) (r := 43) (c0 := ck) rfl rfl (by decide) rfl (fun e he => ?_) (Nat.le_refl _) (fun hall2 => ?_) (fun e he hs => ?_)
          · obtain ⟨p, hp, rfl⟩ := wA_mem.1 he
            exact hok.old p hp
          · repeat (first | (refine step_ops ?_; (first | (refine m_mov (by conv => lhs; whnf) ?_) | (refine m_add rfl rfl ?_ ?_ ?_; (· omega); (· omega)) | (refine m_ext rfl rfl ?_))) | refine end_ops ?_ | refine AW_ops ?_ | (refine cond_f rfl ?_ ?_; (· first | rfl | assumption | (refine decide_eq_false ?_; first | assumption | omega) | (refine nf ?_; first | assumption | omega) | (simp [*]; done))) | refine AW_seq ?_ | refine norm_then ?_ | refine exit_then ?_ | refine norm_block ?_ | refine exit_round ?_ | refine AW_exit ?_ | refine exit_block ?_)
            refine next_round (c + 1, M, ck3) ⟨by omega, hokM, fun g => ?_⟩ (weak_st ?_ ?_ rfl rfl) (by show n - (c + 1) < n - c; omega)
            · rw [hsumM, hsumL, ← sumW_add]
              refine sumW_congr fun q hq => ?_
              have h3 : seen.contains q.b = true := hall2 q.ent (wA_mem.2 ⟨q, hq, rfl⟩)
              rw [if_pos h3, ← Nat.mul_add, sumN, Nat.add_assoc]
            · (repeat' (first | exact trivial | refine And.intro ?_ ?_)) <;> (first | rfl | skip)
            · (repeat' (first | exact trivial | refine And.intro ?_ ?_)) <;> (first | rfl | skip)
          · obtain ⟨p, hp, rfl⟩ := wA_mem.1 he
            have hpt := hok.lt p hp
            have hpt16 : p.t < 65536 := Nat.lt_of_lt_of_le hpt (Nat.pow_le_pow_right (by decide) (by omega : n ≤ 16))
            have hb2 : p.v ≤ 43046721 := by
              have h3 : p.v * 1 ≤ wE W fun _ => 1 := sumW_le (g := fun q => q.v * 1) hp
              omega
            repeat (first | (refine step_ops ?_; (refine m_ext rfl rfl ?_)) | refine end_ops ?_ | refine seq_ops ?_ | (refine cond_t rfl ?_ ?_; (· first | rfl | assumption | (refine decide_eq_true ?_; first | assumption | omega) | (refine nt ?_; first | assumption | omega) | (simp [*]; done))) | refine skip_then ?_ | refine AW_seq ?_ | refine norm_then ?_ | refine AW_block ?_)
            refine step_ops ?_
            refine m_ment (q := 100) (r := 43) (e := p.ent) (ka := .u p.t) (va := .i (p.v : Nat)) rfl rfl (by decide) rfl he (wA_born hok.born) rfl rfl ?_
            repeat (first | (refine step_ops ?_; (first | (refine m_mov (by conv => lhs; whnf) ?_) | (refine m_ext rfl rfl ?_))) | refine end_ops ?_ | refine seq_ops ?_)
            (refine step_ops ?_); (apply m_call (setHas_spec p.t c hpt16 (by omega))); (· repeat (first | exact lends_nil | (refine lends_cons ?_ ?_; (· exact lend_v))))
            by_cases hbit : p.t.testBit c = true
            · repeat (first | (refine step_ops ?_; (refine m_not rfl ?_)) | refine end_ops ?_ | (refine cond_f rfl ?_ ?_; (· first | rfl | assumption | (refine decide_eq_false ?_; first | assumption | omega) | (refine nf ?_; first | assumption | omega) | (simp [*]; done))) | refine norm_block ?_ | refine AW_skip ?_)
              refine next_round (M, ck3, seen.push p.b) ⟨hokM, fun g => ?_⟩ (weak_st ?_ ?_ rfl rfl) (leftW_lt hp hs)
              · rw [hsumM, sumW_seen hok.born hp hs (fun q => q.v * addC (fb row) g q.t c)]
                have : addC (fb row) g p.t c = 0 := by simp [addC, hbit]
                rw [this]
                omega
              · (repeat' (first | exact trivial | refine And.intro ?_ ?_)) <;> (first | rfl | skip)
              · (repeat' (first | exact trivial | refine And.intro ?_ ?_)) <;> (first | rfl | skip)
            · have hbit : p.t.testBit c = false := by simpa using hbit
              have hT := insC_lt hpt hc8
              have hb4 : wv M (insC p.t c) ≤ 1000000000 := by
                have hM1 : wE M (fun _ => 1) ≤ 1000000000 := by
                  rw [hsumM, hsumL, ← sumW_add]
                  refine Nat.le_trans (sumW_mono (h := fun q => q.v * 1 * 20) fun q _ => ?_) ?_
                  · have h5 : sumN c (addC (fb row) (fun _ => 1) q.t) ≤ c * 1 := by
                      rw [← sumN_const]
                      exact sumN_le fun k _ => addC_one _ _ _
                    have h6 : addC (fb row) (fun _ => 1) q.t c ≤ 1 := addC_one _ _ _
                    have h7 : q.v * (1 + sumN c (addC (fb row) (fun _ => 1) q.t)) ≤ q.v * 9 := Nat.mul_le_mul_left _ (by omega)
                    have h8 : (if seen.contains q.b then q.v * addC (fb row) (fun _ => 1) q.t c else 0) ≤ q.v * 1 := by
                      split
                      · exact Nat.mul_le_mul_left _ h6
                      · omega
                    omega
                  · rw [sumW_mul W (fun q => q.v * 1) 20]
                    show wE W (fun _ => 1) * 20 ≤ _
                    omega
                exact Nat.le_trans (wv_le M _) hM1
              repeat (first | (refine step_ops ?_; (first | (refine m_mov (by conv => lhs; whnf) ?_) | (refine m_not rfl ?_))) | refine end_ops ?_ | refine AW_ops ?_ | (refine cond_t rfl ?_ ?_; (· first | rfl | assumption | (refine decide_eq_true ?_; first | assumption | omega) | (refine nt ?_; first | assumption | omega) | (simp [*]; done))))
              (refine step_ops ?_); (apply m_call (setWith_spec p.t c hpt16 (by omega))); (· repeat (first | exact lends_nil | (refine lends_cons ?_ ?_; (· exact lend_v))))
              refine step_ops ?_
              refine m_wget (T := insC p.t c) hokM rfl rfl rfl ?_
              repeat (refine step_ops ?_; (first | (refine m_mov (by conv => lhs; whnf) ?_) | (refine m_add rfl rfl ?_ ?_ ?_; (· omega); (· omega))))
              refine step_ops ?_
              refine m_wput (r := 102) (T := insC p.t c) (m := p.v) hokM hT rfl rfl rfl ?_ fun M' ck4 hokM' hsumM' => ?_
              · show AV.i _ = AV.i _
                push_cast
                rfl
              repeat (first | refine end_ops ?_ | refine norm_block ?_)
              refine next_round (M', ck4, seen.push p.b) ⟨hokM', fun g => ?_⟩ (weak_st ?_ ?_ rfl rfl) (leftW_lt hp hs)
              · rw [hsumM', hsumM, sumW_seen hok.born hp hs (fun q => q.v * addC (fb row) g q.t c)]
                have : addC (fb row) g p.t c = g (insC p.t c) := by simp [addC, hbit, hf2]
                rw [this]
                omega
              · (repeat' (first | exact trivial | refine And.intro ?_ ?_)) <;> (first | rfl | skip)
              · (repeat' (first | exact trivial | refine And.intro ?_ ?_)) <;> (first | rfl | skip)
        · have hf2 : fb row c = false := by simpa using hf2
          repeat (first | (refine step_ops ?_; (first | (refine m_mov (by conv => lhs; whnf) ?_) | (refine m_add rfl rfl ?_ ?_ ?_; (· omega); (· omega)) | (refine m_not rfl ?_))) | refine end_ops ?_ | refine AW_ops ?_ | (refine cond_t rfl ?_ ?_; (· first | rfl | assumption | (refine decide_eq_true ?_; first | assumption | omega) | (refine nt ?_; first | assumption | omega) | (simp [*]; done))) | refine norm_then ?_ | refine exit_then ?_ | refine AW_exit ?_ | refine exit_block ?_)
          refine next_round (c + 1, L, ck2) ⟨by omega, hokL, fun g => ?_⟩ (weak_st ?_ ?_ rfl rfl) (by show n - (c + 1) < n - c; omega)
          · rw [hsumL]
            refine sumW_congr fun q _ => ?_
            have : addC (fb row) g q.t c = 0 := by simp [addC, hf2]
            rw [sumN, this]
            rfl
          · (repeat' (first | exact trivial | refine And.intro ?_ ?_)) <;> (first | rfl | skip)
          · (repeat' (first | exact trivial | refine And.intro ?_ ?_)) <;> (first | rfl | skip)
            show some (lfObj fb n (notIn2 l row c)) = some (lfObj fb n (notIn2 l row (c + 1)))
            unfold lfObj
            rw [lfA_congr (E := notIn2 l row (c + 1))]
            rintro ⟨i, j⟩ _ _ hff
            simp only [notIn2]
            by_cases e1 : i = row
            · by_cases e2 : j = c
              · subst e1 e2
                rw [hf2] at hff
                cases hff
              · have : decide (j < c + 1) = decide (j < c) := decide_eq_decide.2 (by omega)
                simp [e1, this]
            · simp [e1]
      · have hce : c = n := by omega
        subst hce
        repeat (first | (refine step_ops ?_; (first | (refine m_mov (by conv => lhs; whnf) ?_) | (refine m_lss rfl rfl ?_))) | refine end_ops ?_ | refine seq_ops ?_ | (refine cond_f rfl ?_ ?_; (· first | rfl | assumption | (refine decide_eq_false ?_; first | assumption | omega) | (refine nf ?_; first | assumption | omega) | (simp [*]; done))) | refine AW_seq ?_ | refine norm_then ?_ | refine exit_then ?_ | refine exit_round ?_ | refine AW_exit ?_ | refine exit_block ?_)
        refine AW_goto ?_
        have hnd' : (l ++ [row]).Nodup := by
          rw [List.nodup_append]
          exact ⟨hnd, by simp, fun a ha b hb e => hrl' (by simp at hb; rw [← hb, ← e]; exact ha)⟩
        have hlt' : ∀ r ∈ l ++ [row], r < c := fun r hr' => by
          rcases List.mem_append.1 hr' with h | h
          · exact hlt r h
          · simp at h; omega
        have hlen' := nodup_len hnd' hlt'
        have hinv : RkInv fb c (l ++ [row]) L ck2 := ⟨hnd', hlt', hokL, fun g => by
          rw [rowsR_snoc, ← hsum, hsumL]
          rfl⟩
        refine goto_block (goto_round (goto_block (goto_then ?_)))
        refine goto_jump (l ++ [row], L, ck2) hinv (weak_stN (fNm 100 102) [1, 100, 101] rfl (by decide) (by decide) ?_ ?_ rfl rfl) ?_
        · (repeat' (first | exact trivial | refine And.intro ?_ ?_)) <;> (first | rfl | skip)
        · (repeat' (first | exact trivial | refine And.intro ?_ ?_)) <;> (first | rfl | skip)
          show some (lfObj fb c (notIn2 l row c)) = some (lfObj fb c (notIn (l ++ [row])))
          unfold lfObj
          rw [lfA_congr (E := notIn (l ++ [row]))]
          rintro ⟨i, j⟩ _ hj _
          dsimp only at hj
          simp only [notIn2, notIn, List.contains_append, Bool.not_or]
          congr 1
          by_cases e1 : i = row
          · simp [e1, hj]
          · simp [e1]
        · intro m hm
          cases hm
          show c - (l ++ [row]).length < c - l.length
          rw [List.length_append, List.length_singleton] at hlen' ⊢
          omega
  · intro pass
    repeat (first | (refine step_ops ?_; (refine m_mmk ?_)) | refine seq_ops ?_)
    refine step_ops ?_
    refine m_mput rfl rfl rfl rfl (by simp) (by simp) fun _ => ?_
    repeat (first | (refine step_ops ?_; (first | (refine m_mov (by conv => lhs; whnf) ?_) | (apply m_ld_pt; (· rfl); (· rfl); (· rfl)) | (refine m_fa rfl ?_))) | refine end_ops ?_ | refine seq_ops ?_)
    refine step_ops ?_
    refine m_clone 101 (clonePlaces_spec (mkEs (posP fb n n)) (posP fb n n).length) (.inr ⟨false, rfl⟩) rfl (by decide) ?_
    repeat (first | (refine step_ops ?_; (refine m_mov (by conv => lhs; whnf) ?_)) | refine end_ops ?_ | refine AW_seq ?_)
    refine AW_label ?_
    refine norm_then ?_
    refine AW_weak (weak_stN (fNm 100 14) [1, 100, 101] rfl (by decide) (by decide) ?_ ?_ rfl rfl) (pass ([], [⟨0, 1, 0⟩], 1) ⟨by simp, by simp, ways_one n, fun g => by simp [wE, sumW, rowsR]⟩)
    · (repeat' (first | exact trivial | refine And.intro ?_ ?_)) <;> (first | rfl | skip)
    · (repeat' (first | exact trivial | refine And.intro ?_ ?_)) <;> (first | rfl | skip)
      show some (true, [AV.ob (.map (mkEs (posP fb n n)) _)]) = some (lfObj fb n (notIn []))
      rw [← lfA_all]
      rfl
end Go.Proofs.YtojpcpdbnmnknaaDoor
