/- Contracts: the program lists all hats. Contracts: views as keys of a map; the program reads a plan. Contracts: what the laws' helpers do with plans. Contracts: the specification's plans, views and guesses. Contracts: the specification's views, guesses and right guests. Contracts: the program reads a plan into a map. Contracts: what the program's guests see and guess. Contracts: what the laws' helpers write into plans and find there. -/
import Derived.Test.YtfoecdaggmagaaaDoorHtX1
import Derived.Test.YtfoecdaggmagaaaDoorAmHv
import Derived.DeepKeys3
namespace Go.Proofs.YtfoecdaggmagaaaDoor
open Go.Am
attribute [local irreducible] AW Outs Weak Lends Lend Sp aops atree aop1 Then Round InBlock Done
attribute [local simp] txs_len

/-- The first x colours behind a text. -/
def moX (h : List UInt8) (x : Nat) : List (List UInt8) := (List.range x).map fun k => h ++ [hg k]
theorem moX_succ (h : List UInt8) (x : Nat) : moX h (x + 1) = moX h x ++ [h ++ [hg x]] := by simp [moX, List.range_succ]
theorem moX_len (h : List UInt8) (x : Nat) : (moX h x).length = x := by simp [moX]
theorem flat_len' (c : Nat) (l : List (List UInt8)) : (l.flatMap (moreH c)).length = l.length * c := by
  induction l with
  | nil => simp
  | cons a l ih =>
    rw [List.flatMap_cons, List.length_append, ih, List.length_cons, Nat.add_mul]
    have : (moreH c a).length = c := by simp [moreH]
    omega
theorem flat_snoc (c : Nat) (l : List (List UInt8)) (k : Nat) (h : k < l.length) : (l.take (k + 1)).flatMap (moreH c) = (l.take k).flatMap (moreH c) ++ moX (l.getD k []) c := by
  rw [take_snoc l k [] h, List.flatMap_append]
  simp [moreH, moX]

theorem allHats_spec (g c : Nat) (h2 : 2 ≤ c) (hc : c ≤ 3) (h4 : g ≤ 4) : Sp Tryd.prog 53 [.i g, .i c] (.ro true 1 (txs (allH c g)) (allH c g).length) := by
  refine spec_of Tryd.func53 rfl cc53 rfl ?_
  unfold ac53
  repeat (first | (refine step_ops ?_; (first | (refine m_mov (by conv => lhs; whnf) ?_) | (refine m_nils ?_) | (refine m_bsl1 rfl rfl ?_))) | refine end_ops ?_ | refine seq_ops ?_ | refine AW_seq ?_ | refine AW_block ?_)
  refine AW_loop (α := Nat) (fun j => j ≤ g) (fun j => st [(1, .i c), (5, .sl 5 1 0 (allH c j).length), (11, .i g), (12, .i j)] [(5, (true, txs (allH c j)))]) (fun j => g - j) 0 (Nat.zero_le _) (Weak.trans (weak_move (r := 10) (q := 5) rfl (by decide) (by decide)) (weak_st ?_ ?_ rfl rfl)) ?_
  · (repeat' (first | exact trivial | refine And.intro ?_ ?_)) <;> (first | rfl | skip)
  · exact ⟨rfl, trivial⟩
  intro j hj
  have hal := allH_len c j
  by_cases hlt : j < g
  · have hp := pow_le c (by omega) j (by omega)
    have hmore := allH_more c (by omega) j (by omega)
    have hmem : ∀ t ∈ allH c j, t.length = j := fun t ht => (allH_mem (by omega) hc ht).1
    repeat (first | (refine step_ops ?_; (first | (refine m_mov (by conv => lhs; whnf) ?_) | (refine m_lss rfl rfl ?_) | (refine m_len_sl rfl ?_) | (refine m_nils ?_))) | refine end_ops ?_ | refine seq_ops ?_ | (refine cond_t rfl ?_ ?_; (· first | rfl | assumption | (refine decide_eq_true ?_; first | assumption | omega) | (refine nt ?_; first | assumption | omega) | (simp [*]; done))) | refine skip_then ?_ | refine AW_seq ?_ | refine AW_block ?_)
    refine AW_loop (α := Nat) (fun k => k ≤ (allH c j).length) (fun k => st [(1, .i c), (5, .sl 5 1 0 (allH c j).length), (6, .sl 6 1 0 (((allH c j).take k).flatMap (moreH c)).length), (11, .i g), (12, .i j), (14, .sl 5 1 0 (allH c j).length), (15, .i (allH c j).length), (16, .i k)]
      [(5, (true, txs (allH c j))), (6, (true, txs (((allH c j).take k).flatMap (moreH c))))]) (fun k => (allH c j).length - k) 0 (Nat.zero_le _) (weak_st ?_ ?_ rfl rfl) ?_
    · (repeat' (first | exact trivial | refine And.intro ?_ ?_)) <;> (first | rfl | skip)
    · exact ⟨rfl, rfl, trivial⟩
    intro k hk
    have hfl := flat_len' c ((allH c j).take k)
    rw [List.length_take_of_le hk] at hfl
    have hkc : k * c ≤ 81 * 3 := Nat.mul_le_mul (by omega) hc
    by_cases hltk : k < (allH c j).length
    · have hat := txs_get hltk
      have hsn := flat_snoc c (allH c j) k hltk
      have hhl := hmem _ (getD_memL (d := []) hltk)
      generalize (allH c j).getD k [] = h at *
      generalize ((allH c j).take k).flatMap (moreH c) = L at *
      repeat (first | (refine step_ops ?_; (first | (refine m_lss rfl rfl ?_) | (refine m_idx1_sl rfl rfl ?_ ?_; (· omega)))) | refine end_ops ?_ | refine seq_ops ?_ | (refine cond_t rfl ?_ ?_; (· first | rfl | assumption | (refine decide_eq_true ?_; first | assumption | omega) | (refine nt ?_; first | assumption | omega) | (simp [*]; done))) | refine skip_then ?_ | refine AW_seq ?_ | refine AW_block ?_)
      refine step_ops ?_
      refine m_ld_pt rfl rfl hat ?_
      repeat (first | (refine step_ops ?_; (refine m_mov (by conv => lhs; whnf) ?_)) | refine end_ops ?_ | refine seq_ops ?_ | refine AW_block ?_)
      refine AW_loop (α := Nat) (fun x => x ≤ c) (fun x => st [(1, .i c), (5, .sl 5 1 0 (allH c j).length), (6, .sl 6 1 0 (L ++ moX h x).length), (8, str h), (11, .i g), (12, .i j), (14, .sl 5 1 0 (allH c j).length), (15, .i (allH c j).length), (16, .i k), (20, .i c), (21, .i x)]
        [(5, (true, txs (allH c j))), (6, (true, txs (L ++ moX h x)))]) (fun x => c - x) 0 (Nat.zero_le _) (weak_st ?_ ?_ rfl rfl) ?_
      · rw [show L ++ moX h 0 = L by simp [moX]]
        (repeat' (first | exact trivial | refine And.intro ?_ ?_)) <;> (first | rfl | skip)
      · rw [show L ++ moX h 0 = L by simp [moX]]
        exact ⟨rfl, rfl, trivial⟩
      intro x hx
      have hml := moX_len h x
      have hll : (L ++ moX h x).length ≤ 1000 := by rw [List.length_append]; omega
      by_cases hltx : x < c
      · have hms : L ++ moX h (x + 1) = (L ++ moX h x) ++ [h ++ [hg x]] := by rw [moX_succ, List.append_assoc]
        generalize L ++ moX h x = M at *
        repeat (first | (refine step_ops ?_; (first | (refine m_mov (by conv => lhs; whnf) ?_) | (refine m_lss rfl rfl ?_))) | refine end_ops ?_ | refine seq_ops ?_ | refine AW_ops ?_ | (refine cond_t rfl ?_ ?_; (· first | rfl | assumption | (refine decide_eq_true ?_; first | assumption | omega) | (refine nt ?_; first | assumption | omega) | (simp [*]; done))) | refine skip_then ?_ | refine AW_seq ?_ | refine AW_block ?_)
        (refine step_ops ?_); (apply m_call (itoa_hg x (by omega))); (· repeat (first | exact lends_nil | (refine lends_cons ?_ ?_; (· exact lend_v))))
        repeat (first | (refine step_ops ?_; (first | (refine m_mov (by conv => lhs; whnf) ?_) | (refine m_add rfl rfl ?_ ?_ ?_; (· omega); (· omega)) | (refine m_adds rfl rfl ?_ ?_; (· first | omega | (simp; omega))) | (refine m_bsl1 rfl rfl ?_) | (refine m_app1 rfl (by decide) rfl (by first | (simp; done) | (simp [*]; done) | (simp; omega)) rfl rfl rfl ?_ (by decide) ?_; (· first | omega | (simp; omega))))) | refine end_ops ?_ | refine AW_ops ?_ | refine norm_then ?_ | refine norm_block ?_)
        refine next_round (x + 1) hltx (Weak.trans (weak_move (r := 30) (q := 6) rfl (by decide) (by decide)) (weak_st ?_ ?_ rfl rfl)) ?_
        · rw [hms, show (M ++ [h ++ [hg x]]).length = M.length + 1 by simp]
          (repeat' (first | exact trivial | refine And.intro ?_ ?_)) <;> (first | rfl | skip)
        · rw [hms, txs_append]
          exact ⟨rfl, rfl, trivial⟩
        · omega
      · obtain rfl : x = c := by omega
        repeat (first | (refine step_ops ?_; (first | (refine m_mov (by conv => lhs; whnf) ?_) | (refine m_lss rfl rfl ?_) | (refine m_add rfl rfl ?_ ?_ ?_; (· omega); (· omega)))) | refine end_ops ?_ | refine seq_ops ?_ | refine AW_ops ?_ | (refine cond_f rfl ?_ ?_; (· first | rfl | assumption | (refine decide_eq_false ?_; first | assumption | omega) | (refine nf ?_; first | assumption | omega) | (simp [*]; done))) | refine AW_seq ?_ | refine norm_then ?_ | refine exit_then ?_ | refine norm_block ?_ | refine exit_round ?_ | refine AW_exit ?_ | refine exit_block ?_)
        refine next_round (k + 1) hltk (weak_st ?_ ?_ rfl rfl) ?_
        · rw [hsn]
          (repeat' (first | exact trivial | refine And.intro ?_ ?_)) <;> (first | rfl | skip)
        · rw [hsn]
          exact ⟨rfl, rfl, trivial⟩
        · omega
    · obtain rfl : k = (allH c j).length := by omega
      rw [List.take_length, hmore]
      repeat (first | (refine step_ops ?_; (first | (refine m_mov (by conv => lhs; whnf) ?_) | (refine m_lss rfl rfl ?_) | (refine m_add rfl rfl ?_ ?_ ?_; (· omega); (· omega)))) | refine end_ops ?_ | refine seq_ops ?_ | refine AW_ops ?_ | (refine cond_f rfl ?_ ?_; (· first | rfl | assumption | (refine decide_eq_false ?_; first | assumption | omega) | (refine nf ?_; first | assumption | omega) | (simp [*]; done))) | refine AW_seq ?_ | refine norm_then ?_ | refine exit_then ?_ | refine norm_block ?_ | refine exit_round ?_ | refine AW_exit ?_ | refine exit_block ?_)
      refine next_round (j + 1) hlt (Weak.trans (weak_move (r := 6) (q := 5) rfl (by decide) (by decide)) (weak_st ?_ ?_ rfl rfl)) ?_
      · (repeat' (first | exact trivial | refine And.intro ?_ ?_)) <;> (first | rfl | skip)
      · exact ⟨rfl, trivial⟩
      · omega
  · obtain rfl : j = g := by omega
    repeat (first | (refine step_ops ?_; (first | (refine m_mov (by conv => lhs; whnf) ?_) | (refine m_lss rfl rfl ?_))) | refine end_ops ?_ | refine seq_ops ?_ | (refine cond_f rfl ?_ ?_; (· first | rfl | assumption | (refine decide_eq_false ?_; first | assumption | omega) | (refine nf ?_; first | assumption | omega) | (simp [*]; done))) | refine AW_seq ?_ | refine AW_ret ?_ | refine ret_done ?_ | refine norm_then ?_ | refine exit_then ?_ | refine exit_round ?_ | refine AW_exit ?_ | refine exit_block ?_)
    exact outs_txs rfl rfl rfl
end Go.Proofs.YtfoecdaggmagaaaDoor

namespace Go.Am
variable {s : AS}
theorem outs_agg4 {a b c d a' b' c' d' : AV} (h1 : Outs s a a') (h2 : Outs s b b') (h3 : Outs s c c') (h4 : Outs s d d') : Outs s (.agg [a, b, c, d]) (.agg [a', b', c', d']) := by
  intro w0 N tm w phi ro y hS hy
  simp only [SimV] at hy ⊢
  obtain ⟨ar, hy, hsz, hs⟩ := hy
  refine ⟨ar, hy, hsz, ?_⟩
  match hl : ar.toList with
  | [] => rw [hl] at hs; simp [SimL] at hs
  | [_] => rw [hl] at hs; simp [SimL] at hs
  | [_, _] => rw [hl] at hs; simp [SimL] at hs
  | [_, _, _] => rw [hl] at hs; simp [SimL] at hs
  | u :: v :: t :: q :: rest =>
    rw [hl] at hs
    simp only [SimL, and_true] at hs ⊢
    exact ⟨h1 w0 N tm w phi ro u hS hs.1, h2 w0 N tm w phi ro v hS hs.2.1, h3 w0 N tm w phi ro t hS hs.2.2.1, h4 w0 N tm w phi ro q hS hs.2.2.2⟩

/-- A guest and what it sees, as a key; a map of guesses. -/
def keyV (g : Nat) (t : List UInt8) : Value := .agg #[.int .i64 g, .string ⟨t.toArray⟩]
theorem keyV_inj {g h : Nat} {t u : List UInt8} (e : keyV g t = keyV h u) : g = h ∧ t = u := by
  simp only [keyV, Value.agg.injEq, Array.mk.injEq, List.cons.injEq, Value.int.injEq, Value.string.injEq, ByteArray.mk.injEq, true_and, and_true] at e
  exact ⟨by omega, by simpa using e.2⟩
abbrev Gue := (Nat × List UInt8) × Nat
def entV (p : Gue) (born : Nat) : MapEntry := { key := keyV p.1.1 p.1.2, val := .int .i64 p.2, born }
def esL : Nat → List Gue → List MapEntry
  | _, [] => []
  | c, p :: l => entV p c :: esL (c + 1) l
def esV (l : List Gue) : Array MapEntry := (esL 0 l).toArray
theorem esL_snoc (l : List Gue) (p : Gue) : ∀ c, esL c (l ++ [p]) = esL c l ++ [entV p (c + l.length)] := by
  induction l with
  | nil => intro c; simp [esL]
  | cons a l ih => intro c; rw [List.cons_append, esL, esL, ih, List.length_cons, show c + 1 + l.length = c + (l.length + 1) by omega]; rfl
theorem esV_push (l : List Gue) (p : Gue) : (esV l).push { key := keyV p.1.1 p.1.2, val := .int .i64 p.2, born := l.length } = esV (l ++ [p]) := by
  unfold esV
  rw [esL_snoc, Nat.zero_add]
  simp [entV]
theorem mem_esL {l : List Gue} {e : MapEntry} : ∀ {c}, e ∈ esL c l → ∃ p ∈ l, e.key = keyV p.1.1 p.1.2 ∧ e.val = .int .i64 p.2 := by
  induction l with
  | nil => intro c h; simp [esL] at h
  | cons a l ih =>
    intro c h
    simp only [esL, List.mem_cons] at h
    rcases h with rfl | h
    · exact ⟨a, List.mem_cons_self .., rfl, rfl⟩
    · obtain ⟨p, h1, h2⟩ := ih h
      exact ⟨p, List.mem_cons_of_mem _ h1, h2⟩
theorem mem_esV {l : List Gue} {e : MapEntry} (h : e ∈ (esV l).toList) : ∃ p ∈ l, e.key = keyV p.1.1 p.1.2 ∧ e.val = .int .i64 p.2 := mem_esL (c := 0) (by simpa [esV] using h)
theorem has_esL {l : List Gue} {p : Gue} (h : p ∈ l) : ∀ c, ∃ e ∈ esL c l, e.key = keyV p.1.1 p.1.2 := by
  induction l with
  | nil => cases h
  | cons a l ih =>
    intro c
    rcases List.mem_cons.1 h with rfl | h
    · exact ⟨entV p c, by simp [esL], rfl⟩
    · obtain ⟨e, h1, h2⟩ := ih h (c + 1)
      exact ⟨e, by simp [esL, h1], h2⟩
theorem has_esV {l : List Gue} {p : Gue} (h : p ∈ l) : ∃ e ∈ (esV l).toList, e.key = keyV p.1.1 p.1.2 := by
  obtain ⟨e, h1, h2⟩ := has_esL h 0
  exact ⟨e, by simpa [esV] using h1, h2⟩

/-- What one guest guesses for its first n views; all guesses of the first guests. -/
def gRow (c m g : Nat) (r : List UInt8) (n : Nat) : List Gue := (List.range n).map fun i => ((g, dgs c m i), hv (r.getD i 0))
def gAll (c : Nat) (G : List (List UInt8)) (k : Nat) : List Gue := (List.range k).flatMap fun g => gRow c (G.length - 1) g (G.getD g []) (c ^ (G.length - 1))
theorem gRow_succ (c m g : Nat) (r : List UInt8) (n : Nat) : gRow c m g r (n + 1) = gRow c m g r n ++ [((g, dgs c m n), hv (r.getD n 0))] := by simp [gRow, List.range_succ]
theorem gAll_succ (c : Nat) (G : List (List UInt8)) (k : Nat) : gAll c G (k + 1) = gAll c G k ++ gRow c (G.length - 1) k (G.getD k []) (c ^ (G.length - 1)) := by simp [gAll, List.range_succ]
theorem mem_gRow {c m g : Nat} {r : List UInt8} {n : Nat} {p : Gue} : p ∈ gRow c m g r n ↔ ∃ i, i < n ∧ p = ((g, dgs c m i), hv (r.getD i 0)) := by
  unfold gRow
  simp only [List.mem_map, List.mem_range]
  exact ⟨fun ⟨i, h, e⟩ => ⟨i, h, e.symm⟩, fun ⟨i, h, e⟩ => ⟨i, h, e.symm⟩⟩
theorem mem_gAll {c : Nat} {G : List (List UInt8)} {k : Nat} {p : Gue} : p ∈ gAll c G k ↔ ∃ g i, g < k ∧ i < c ^ (G.length - 1) ∧ p = ((g, dgs c (G.length - 1) i), hv ((G.getD g []).getD i 0)) := by
  unfold gAll
  simp only [List.mem_flatMap, List.mem_range, mem_gRow]
  exact ⟨fun ⟨g, h, i, hi, e⟩ => ⟨g, i, h, hi, e⟩, fun ⟨g, i, h, hi, e⟩ => ⟨g, h, i, hi, e⟩⟩
theorem dgs_inj {c m : Nat} (h2 : 2 ≤ c) (h3 : c ≤ 3) (hm : m ≤ 3) {i j : Nat} (hi : i < c ^ m) (hj : j < c ^ m) (e : dgs c m i = dgs c m j) : i = j := by
  have key : ([2, 3] : List Nat).all (fun c => (List.range 4).all fun m => (List.range (c ^ m)).all fun i => (List.range (c ^ m)).all fun j => decide (dgs c m i = dgs c m j → i = j)) = true := by decide +kernel
  have h4 := List.all_eq_true.1 key c (by simp; omega)
  have h5 := List.all_eq_true.1 h4 m (by simp; omega)
  have h6 := List.all_eq_true.1 (List.all_eq_true.1 h5 i (by simpa using hi)) j (by simpa using hj)
  exact of_decide_eq_true h6 e
end Go.Am
namespace Go.Proofs.YtfoecdaggmagaaaDoor
open Go.Am Go.WideMaps
attribute [local irreducible] AW Outs Weak Lends Lend Sp aops atree aop1 Then Round InBlock Done

theorem view_law : KeyLaw Tryd.prog 85 := deep_law (m := 2) (by omega) (by kernel_rfl) (by kernel_rfl) (by kernel_rfl)
theorem view_type : Tryd.prog.keyType 85 = true := by kernel_rfl
theorem view_cells : Tryd.prog.cellsOf 85 = 2 := by kernel_rfl
theorem vtypes_size : ∃ m, Tryd.prog.types.size = m + 1 := ⟨Tryd.prog.types.size - 1, by kernel_rfl⟩
theorem vint_under : Tryd.prog.underlying 3 = some (.int .i64) := by kernel_rfl
theorem vint_cells : Tryd.prog.cellsOf 3 = 1 := by kernel_rfl
theorem vstr_under : Tryd.prog.underlying 9 = some .string := by kernel_rfl
theorem vstr_cells : Tryd.prog.cellsOf 9 = 1 := by kernel_rfl
theorem vlits_int {a : Int} (ha : (Lit.int .i64 a).wf = true) (m : Nat) : Tryd.prog.keyLits (m + 1) 3 [.int .i64 a] = some [.int .i64 a] := by
  unfold Program.keyLits
  simp [vint_under, ha]
theorem vlits_str {t : List UInt8} (ha : t.length ≤ maxLen) (m : Nat) : Tryd.prog.keyLits (m + 1) 9 [.string ⟨t.toArray⟩] = some [.string t] := by
  have h : (⟨t.toArray⟩ : ByteArray).size ≤ maxLen := by show t.toArray.size ≤ _; simpa using ha
  unfold Program.keyLits
  simp [vstr_under, h]
theorem key_view {g : Nat} {t : List UInt8} (hg : g < 1000) (ht : t.length < 1000) : ∃ l, keyOf Tryd.prog 85 (keyV g t) = some l := by
  obtain ⟨m, hm⟩ := vtypes_size
  have ha : (Lit.int .i64 (g : Int)).wf = true := by simp [Lit.wf, IntKind.min, IntKind.max, IntKind.signed, IntKind.bits]; omega
  have hb : t.length ≤ maxLen := by simp [maxLen]; omega
  unfold keyOf keyV
  rw [Tryd.underlying85]
  simp only [view_type, Bool.true_and]
  rw [if_pos (by simp [Value.formed, Tryd.underlying85, view_cells]), hm]
  unfold Program.keyLits
  simp [Tryd.underlying85, Value.cells, view_cells, vint_cells, vstr_cells, vlits_int ha, vlits_str hb]
/-- Guesses of few guests. -/
def Few (l : List Gue) : Prop := ∀ p ∈ l, p.1.1 < 1000 ∧ p.1.2.length < 1000
theorem few_keys {l : List Gue} (h : Few l) : ∀ e ∈ (esV l).toList, ∃ q, keyOf Tryd.prog 85 e.key = some q := by
  intro e he
  obtain ⟨p, hp, hk, _⟩ := mem_esV he
  rw [hk]
  exact key_view (h p hp).1 (h p hp).2
/-- A view that is not in a map is put into it. -/
theorem m_putView {own : Bool} {s : AS} {K : AS → Prop} {x i y : Opd} {r : Nat} {l : List Gue} {g v : Nat} {t : List UInt8} (h : Few l) (hx : s.ev x = .mp r) (hr : s.hp r = some (true, [.ob (.map (esV l) l.length)])) (hi : exV (s.ev i) = some (keyV g t)) (hy : s.ev y = .i (v : Nat))
    (hg : g < 1000) (ht : t.length < 1000) (hn : ∀ p ∈ l, p.1 ≠ (g, t)) (k : K (s.mem r (true, [.ob (.map (esV (l ++ [((g, t), v)])) (l ++ [((g, t), v)]).length)]))) : aop1 Tryd.prog own ⟨none, .mputk 85 x i y, none⟩ s K := by
  refine m_mputk view_law hx hr hi hy (key_view hg ht) (few_keys h) ?_ ?_
  · intro e he hk
    obtain ⟨p, hp, h1, _⟩ := mem_esV he
    rw [h1] at hk
    obtain ⟨e1, e2⟩ := keyV_inj hk
    exact hn p hp (Prod.ext e1 e2)
  · rw [show l.length + 1 = (l ++ [((g, t), v)]).length by simp]
    rw [← esV_push l ((g, t), v)] at k
    exact k
/-- A view that is in a map is asked for. -/
theorem m_getView {own : Bool} {d : Option Nat} {s : AS} {K : AS → Prop} {x i : Opd} {l : List Gue} {g v : Nat} {t : List UInt8} (h : Few l) (hm : MapAt s (s.ev x) (esV l) l.length) (hi : exV (s.ev i) = some (keyV g t)) (hg : g < 1000) (ht : t.length < 1000)
    (hin : ((g, t), v) ∈ l) (huq : ∀ p ∈ l, p.1 = (g, t) → p.2 = v) (k : K (s.put d (.i (v : Nat)))) : aop1 Tryd.prog own ⟨d, .mgetk 85 (.int .i64 0) false x i, none⟩ s K := by
  refine m_mgetk view_law hm hi (key_view hg ht) (few_keys h) ?_ ?_ k
  · intro e he hk
    obtain ⟨p, hp, h1, h2⟩ := mem_esV he
    rw [h1] at hk
    obtain ⟨e1, e2⟩ := keyV_inj hk
    rw [h2, huq p hp (Prod.ext e1 e2)]
    rfl
  · intro hno
    obtain ⟨e, he, hk⟩ := has_esV hin
    exact absurd hk (hno e he)
end Go.Proofs.YtfoecdaggmagaaaDoor

namespace Go.Proofs.YtfoecdaggmagaaaDoor
open Go.Am
attribute [local irreducible] AW Outs Weak Lends Lend Sp aops atree aop1 Then Round InBlock Done
attribute [local irreducible] SpM DoneM

/-- What toStringS has written behind k rounds. -/
def copT (G : List (List UInt8)) (k : Nat) : List (List UInt8) := G.take k ++ List.replicate (G.length - k) []
theorem copT_len (G : List (List UInt8)) (k : Nat) (h : k ≤ G.length) : (copT G k).length = G.length := by simp [copT]; omega
theorem copT_set (G : List (List UInt8)) (k : Nat) (h : k < G.length) : (copT G k).set k (G.getD k []) = copT G (k + 1) := by
  unfold copT
  have e : G.length - k = (G.length - (k + 1)) + 1 := by omega
  have e2 : k - (G.take k).length = 0 := by simp; omega
  rw [take_snoc G k [] h, e, List.replicate_succ, List.set_append_right _ _ (by simp; omega), e2]
  simp
theorem txs_set (G : List (List UInt8)) (k : Nat) (t : List UInt8) : (txs G).set k (str t) = txs (G.set k t) := by simp [txs, List.map_set]

/-- What is left of a bound. -/
def szT (G : List (List UInt8)) (n : Int) (k : Nat) : Int := n - G.length - ((G.take k).map fun t => (t.length : Int)).sum
def szB (G : List (List UInt8)) (n : Int) : Bool := decide (G.length ≤ n) && (List.range G.length).all fun k => decide (0 ≤ szT G n (k + 1))
theorem szT_succ (G : List (List UInt8)) (n : Int) (k : Nat) (h : k < G.length) : szT G n (k + 1) = szT G n k - (G.getD k []).length := by
  unfold szT
  rw [take_snoc G k [] h]
  simp [List.sum_append]
  omega
theorem szT_le (G : List (List UInt8)) (n : Int) (k : Nat) : szT G n k ≤ n := by
  unfold szT
  have : 0 ≤ ((G.take k).map fun t => (t.length : Int)).sum := by
    generalize G.take k = L
    induction L with
    | nil => simp
    | cons a l ih => rw [List.map_cons, List.sum_cons]; omega
  omega

end Go.Proofs.YtfoecdaggmagaaaDoor

namespace Go.Proofs.YtfoecdaggmagaaaDoor
open Go.Am
attribute [local irreducible] AW Outs Weak Lends Lend Sp aops atree aop1 Then Round InBlock Done

theorem haCount_spec (c g : Nat) (hc : c ≤ 3) (hg : g ≤ 4) : Sp Tryd.prog 29 [.i g, .i c] (.i ((c ^ g : Nat) : Int)) := by
  refine spec_of Tryd.func29 rfl cc29 rfl ?_
  unfold ac29
  repeat (first | (refine step_ops ?_; (refine m_mov (by conv => lhs; whnf) ?_)) | refine end_ops ?_ | refine seq_ops ?_ | refine AW_seq ?_ | refine AW_block ?_)
  refine AW_loop (α := Nat) (fun j => j ≤ g) (fun j => st [(0, .i ((g - j : Nat) : Int)), (1, .i c), (5, .i ((c ^ j : Nat) : Int))] []) (fun j => g - j) 0 (Nat.zero_le _) (weak_st ?_ ?_ rfl rfl) ?_
  · (repeat' (first | exact trivial | refine And.intro ?_ ?_)) <;> (first | rfl | skip)
  · trivial
  intro j hj
  have hp := pow_le c (by omega) j (by omega)
  by_cases h : j < g
  · have hp2 := pow_le c (by omega) (j + 1) (by omega)
    have he : ((c ^ j : Nat) : Int) * (c : Int) = ((c ^ (j + 1) : Nat) : Int) := by rw [Nat.pow_succ]; push_cast; rfl
    have he2 : ((g - j : Nat) : Int) - 1 = ((g - (j + 1) : Nat) : Int) := by omega
    repeat (first | (refine step_ops ?_; (first | (refine m_mov (by conv => lhs; whnf) ?_) | (refine m_gtr rfl rfl ?_) | (refine m_sub rfl rfl ?_ ?_ ?_; (· omega); (· omega)) | (refine m_mul rfl rfl ?_ ?_ ?_; (· first | omega | (simp; done)); (· first | omega | (simp; done))))) | refine end_ops ?_ | refine seq_ops ?_ | refine AW_ops ?_ | (refine cond_t rfl ?_ ?_; (· first | rfl | assumption | (refine decide_eq_true ?_; first | assumption | omega) | (refine nt ?_; first | assumption | omega) | (simp [*]; done))) | refine skip_then ?_ | refine AW_seq ?_ | refine norm_then ?_ | refine AW_block ?_ | refine norm_block ?_)
    rw [he, he2]
    refine next_round (j + 1) h (weak_st ?_ ?_ rfl rfl) ?_
    · (repeat' (first | exact trivial | refine And.intro ?_ ?_)) <;> (first | rfl | skip)
    · trivial
    · omega
  · obtain rfl : j = g := by omega
    repeat (first | (refine step_ops ?_; (first | (refine m_mov (by conv => lhs; whnf) ?_) | (refine m_gtr rfl rfl ?_))) | refine end_ops ?_ | refine seq_ops ?_ | (refine cond_f rfl ?_ ?_; (· first | rfl | assumption | (refine decide_eq_false ?_; first | assumption | omega) | (refine nf ?_; first | assumption | omega) | (simp [*]; done))) | refine AW_seq ?_ | refine AW_ret ?_ | refine ret_done ?_ | refine norm_then ?_ | refine exit_then ?_ | refine exit_round ?_ | refine AW_exit ?_ | refine exit_block ?_)
    exact outs_i rfl

theorem haGood_spec (c : Int) (G : List (List UInt8)) (hG : G.length ≤ 1048576) : Sp Tryd.prog 18 [pln c G] (.b (decide (IsPln c G))) := by
  refine spec_of Tryd.func18 rfl cc18 rfl ?_
  unfold ac18
  by_cases hs : (2 ≤ (G.length : Int) ∧ (G.length : Int) ≤ 4) ∧ 2 ≤ c ∧ c ≤ 3
  · obtain ⟨n, rfl⟩ := Int.eq_ofNat_of_zero_le (show 0 ≤ c by omega)
    have hn : (n : Int).toNat = n := Int.toNat_natCast n
    have hl1 : (G.length : Int) - 1 = ((G.length - 1 : Nat) : Int) := by omega
    repeat (first | (refine step_ops ?_; (first | (refine m_mov (by conv => lhs; whnf) ?_) | (refine m_len_ro rfl ?_) | (apply m_ld_pt; (· rfl); (· rfl); (· rfl)) | (refine m_fa rfl ?_) | (refine m_box rfl ?_ ?_; (· first | rfl | (simp [cellOk, Value.oneCell']; done))))) | refine end_ops ?_ | refine seq_ops ?_ | refine AW_seq ?_)
    (refine step_ops ?_); (apply m_call (haSize_spec _ _)); (· repeat (first | exact lends_nil | (refine lends_cons ?_ ?_; (· exact lend_v))))
    repeat (first | (refine step_ops ?_; (first | (refine m_mov (by conv => lhs; whnf) ?_) | (refine m_not rfl ?_) | (refine m_len_ro rfl ?_) | (apply m_ld_pt; (· rfl); (· rfl); (· rfl)) | (refine m_fa rfl ?_))) | refine end_ops ?_ | refine seq_ops ?_ | (refine cond_f rfl ?_ ?_; (· first | rfl | assumption | (refine decide_eq_false ?_; first | assumption | omega) | (refine nf ?_; first | assumption | omega) | (simp [*]; done))) | refine skip_then ?_ | refine AW_seq ?_ | refine AW_block ?_)
    refine AW_loop (α := Nat) (fun k => k ≤ G.length ∧ ∀ r ∈ G.take k, r.length = n ^ (G.length - 1) ∧ IsCol n r) (fun k => st [(1, .pt 1 0), (13, .ro false 1 (txs G) G.length), (14, .i G.length), (15, .i k)] [(1, (true, [.i n, .ro false 1 (txs G) G.length]))]) (fun k => G.length - k) 0 ⟨Nat.zero_le _, by simp⟩ (weak_st ?_ ?_ rfl rfl) ?_
    · (repeat' (first | exact trivial | refine And.intro ?_ ?_)) <;> (first | rfl | skip)
    · (repeat' (first | exact trivial | refine And.intro ?_ ?_)) <;> (first | rfl | skip)
    rintro k ⟨hk, hI⟩
    by_cases h : k < G.length
    · have hat := txs_at h
      have hsn : (G.getD k []).length = n ^ (G.length - 1) ∧ IsCol n (G.getD k []) → ∀ r ∈ G.take (k + 1), r.length = n ^ (G.length - 1) ∧ IsCol n r := fun hx r hr => by
        rw [take_snoc G k [] h] at hr
        rcases List.mem_append.1 hr with hr | hr
        · exact hI r hr
        · rw [List.mem_singleton.1 hr]; exact hx
      have hbad : ¬ ((G.getD k []).length = n ^ (G.length - 1) ∧ IsCol n (G.getD k [])) → ¬ IsPln n G := fun hx hp => hx (by have := hp.2.2 _ (getD_memL (d := []) h); rwa [hn] at this)
      generalize G.getD k [] = r at *
      by_cases h1 : r.length = n ^ (G.length - 1)
      · have h1' : ¬ (r.length : Int) ≠ ((n ^ (G.length - 1) : Nat) : Int) := by rw [h1]; simp
        by_cases h2 : IsCol n r
        · repeat (first | (refine step_ops ?_; (first | (refine m_lss rfl rfl ?_) | (refine m_idx1_ro rfl rfl ?_ ?_; (· omega)))) | refine end_ops ?_ | refine seq_ops ?_ | (refine cond_t rfl ?_ ?_; (· first | rfl | assumption | (refine decide_eq_true ?_; first | assumption | omega) | (refine nt ?_; first | assumption | omega) | (simp [*]; done))) | refine skip_then ?_ | refine AW_seq ?_ | refine AW_block ?_)
          refine step_ops ?_
          refine m_ld_rp rfl hat ?_
          repeat (first | (refine step_ops ?_; (first | (refine m_mov (by conv => lhs; whnf) ?_) | (refine m_sub rfl rfl ?_ ?_ ?_; (· omega); (· omega)) | (refine m_slen rfl ?_) | (refine m_len_ro rfl ?_) | (apply m_ld_pt; (· rfl); (· rfl); (· rfl)) | (refine m_fa rfl ?_))) | refine end_ops ?_ | refine seq_ops ?_)
          rw [hl1]
          (refine step_ops ?_); (apply m_call (haCount_spec n (G.length - 1) (by omega) (by omega))); (· repeat (first | exact lends_nil | (refine lends_cons ?_ ?_; (· exact lend_v))))
          repeat (refine step_ops ?_; ((try (refine g_yes rfl ?_ ?_; (· first | rfl | assumption | (refine decide_eq_true ?_; first | assumption | omega) | (refine nt ?_; first | assumption | omega) | (simp [*]; done) | (refine decide_eq_false ?_; first | assumption | omega) | (refine nf ?_; first | assumption | omega)))); (first | (refine m_mov (by conv => lhs; whnf) ?_) | (refine m_neq rfl rfl ?_) | (apply m_ld_pt; (· rfl); (· rfl); (· rfl)) | (refine m_fa rfl ?_))))
          (refine step_ops ?_); (refine g_yes rfl ?_ ?_; (· first | (first | rfl | assumption | (refine decide_eq_true ?_; first | assumption | omega) | (refine nt ?_; first | assumption | omega) | (simp [*]; done)) | (first | rfl | assumption | (refine decide_eq_false ?_; first | assumption | omega) | (refine nf ?_; first | assumption | omega) | (simp [*]; done))); (apply m_call (haText_spec r n (by omega)))); (· repeat (first | exact lends_nil | (refine lends_cons ?_ ?_; (· exact lend_v))))
          repeat (first | (refine step_ops ?_; ((try (refine g_yes rfl ?_ ?_; (· first | rfl | assumption | (refine decide_eq_true ?_; first | assumption | omega) | (refine nt ?_; first | assumption | omega) | (simp [*]; done) | (refine decide_eq_false ?_; first | assumption | omega) | (refine nf ?_; first | assumption | omega)))); (first | (refine m_mov (by conv => lhs; whnf) ?_) | (refine m_add rfl rfl ?_ ?_ ?_; (· omega); (· omega)) | (refine m_not rfl ?_) | (refine m_pick_f rfl ?_ (by conv => lhs; whnf) ?_; (· first | rfl | assumption | (refine decide_eq_false ?_; first | assumption | omega) | (refine nf ?_; first | assumption | omega) | (simp [*]; done)))))) | refine end_ops ?_ | refine AW_ops ?_ | (refine cond_f rfl ?_ ?_; (· first | rfl | assumption | (refine decide_eq_false ?_; first | assumption | omega) | (refine nf ?_; first | assumption | omega) | (simp [*]; done))) | refine norm_then ?_ | refine norm_block ?_ | refine AW_skip ?_)
          refine next_round (k + 1) ⟨h, hsn ⟨h1, h2⟩⟩ (weak_st ?_ ?_ rfl rfl) ?_
          · (repeat' (first | exact trivial | refine And.intro ?_ ?_)) <;> (first | rfl | skip)
          · (repeat' (first | exact trivial | refine And.intro ?_ ?_)) <;> (first | rfl | skip)
          · omega
        · repeat (first | (refine step_ops ?_; (first | (refine m_lss rfl rfl ?_) | (refine m_idx1_ro rfl rfl ?_ ?_; (· omega)))) | refine end_ops ?_ | refine seq_ops ?_ | (refine cond_t rfl ?_ ?_; (· first | rfl | assumption | (refine decide_eq_true ?_; first | assumption | omega) | (refine nt ?_; first | assumption | omega) | (simp [*]; done))) | refine skip_then ?_ | refine AW_seq ?_ | refine AW_block ?_)
          refine step_ops ?_
          refine m_ld_rp rfl hat ?_
          repeat (first | (refine step_ops ?_; (first | (refine m_mov (by conv => lhs; whnf) ?_) | (refine m_sub rfl rfl ?_ ?_ ?_; (· omega); (· omega)) | (refine m_slen rfl ?_) | (refine m_len_ro rfl ?_) | (apply m_ld_pt; (· rfl); (· rfl); (· rfl)) | (refine m_fa rfl ?_))) | refine end_ops ?_ | refine seq_ops ?_)
          rw [hl1]
          (refine step_ops ?_); (apply m_call (haCount_spec n (G.length - 1) (by omega) (by omega))); (· repeat (first | exact lends_nil | (refine lends_cons ?_ ?_; (· exact lend_v))))
          repeat (refine step_ops ?_; ((try (refine g_yes rfl ?_ ?_; (· first | rfl | assumption | (refine decide_eq_true ?_; first | assumption | omega) | (refine nt ?_; first | assumption | omega) | (simp [*]; done) | (refine decide_eq_false ?_; first | assumption | omega) | (refine nf ?_; first | assumption | omega)))); (first | (refine m_mov (by conv => lhs; whnf) ?_) | (refine m_neq rfl rfl ?_) | (apply m_ld_pt; (· rfl); (· rfl); (· rfl)) | (refine m_fa rfl ?_))))
          (refine step_ops ?_); (refine g_yes rfl ?_ ?_; (· first | (first | rfl | assumption | (refine decide_eq_true ?_; first | assumption | omega) | (refine nt ?_; first | assumption | omega) | (simp [*]; done)) | (first | rfl | assumption | (refine decide_eq_false ?_; first | assumption | omega) | (refine nf ?_; first | assumption | omega) | (simp [*]; done))); (apply m_call (haText_spec r n (by omega)))); (· repeat (first | exact lends_nil | (refine lends_cons ?_ ?_; (· exact lend_v))))
          repeat (first | (refine step_ops ?_; ((try (refine g_yes rfl ?_ ?_; (· first | rfl | assumption | (refine decide_eq_true ?_; first | assumption | omega) | (refine nt ?_; first | assumption | omega) | (simp [*]; done) | (refine decide_eq_false ?_; first | assumption | omega) | (refine nf ?_; first | assumption | omega)))); (first | (refine m_mov (by conv => lhs; whnf) ?_) | (refine m_not rfl ?_) | (refine m_pick_f rfl ?_ (by conv => lhs; whnf) ?_; (· first | rfl | assumption | (refine decide_eq_false ?_; first | assumption | omega) | (refine nf ?_; first | assumption | omega) | (simp [*]; done)))))) | refine end_ops ?_ | refine seq_ops ?_ | (refine cond_t rfl ?_ ?_; (· first | rfl | assumption | (refine decide_eq_true ?_; first | assumption | omega) | (refine nt ?_; first | assumption | omega) | (simp [*]; done))) | refine AW_ret ?_ | refine ret_done ?_ | refine ret_then ?_ | refine ret_block ?_ | refine ret_round ?_)
          exact outs_b (decide_eq_false (hbad fun e => h2 e.2)).symm
      · have h1' : (r.length : Int) ≠ ((n ^ (G.length - 1) : Nat) : Int) := fun e => h1 (by omega)
        repeat (first | (refine step_ops ?_; (first | (refine m_lss rfl rfl ?_) | (refine m_idx1_ro rfl rfl ?_ ?_; (· omega)))) | refine end_ops ?_ | refine seq_ops ?_ | (refine cond_t rfl ?_ ?_; (· first | rfl | assumption | (refine decide_eq_true ?_; first | assumption | omega) | (refine nt ?_; first | assumption | omega) | (simp [*]; done))) | refine skip_then ?_ | refine AW_seq ?_ | refine AW_block ?_)
        refine step_ops ?_
        refine m_ld_rp rfl hat ?_
        repeat (first | (refine step_ops ?_; (first | (refine m_mov (by conv => lhs; whnf) ?_) | (refine m_sub rfl rfl ?_ ?_ ?_; (· omega); (· omega)) | (refine m_slen rfl ?_) | (refine m_len_ro rfl ?_) | (apply m_ld_pt; (· rfl); (· rfl); (· rfl)) | (refine m_fa rfl ?_))) | refine end_ops ?_ | refine seq_ops ?_)
        rw [hl1]
        (refine step_ops ?_); (apply m_call (haCount_spec n (G.length - 1) (by omega) (by omega))); (· repeat (first | exact lends_nil | (refine lends_cons ?_ ?_; (· exact lend_v))))
        repeat (first | (refine step_ops ?_; (first | (first | (refine m_mov (by conv => lhs; whnf) ?_) | (refine m_neq rfl rfl ?_) | (refine m_pick_t rfl ?_ (by conv => lhs; whnf) ?_; (· first | rfl | assumption | (refine decide_eq_true ?_; first | assumption | omega) | (refine nt ?_; first | assumption | omega) | (simp [*]; done)))) | (refine g_noF rfl ?_ ?_; (· first | rfl | assumption | (refine decide_eq_true ?_; first | assumption | omega) | (refine nt ?_; first | assumption | omega) | (simp [*]; done))))) | refine end_ops ?_ | refine seq_ops ?_ | (refine cond_t rfl ?_ ?_; (· first | rfl | assumption | (refine decide_eq_true ?_; first | assumption | omega) | (refine nt ?_; first | assumption | omega) | (simp [*]; done))) | refine AW_ret ?_ | refine ret_done ?_ | refine ret_then ?_ | refine ret_block ?_ | refine ret_round ?_)
        exact outs_b (decide_eq_false (hbad fun e => h1 e.1)).symm
    · obtain rfl : k = G.length := by omega
      rw [List.take_length] at hI
      repeat (first | (refine step_ops ?_; (first | (refine m_mov (by conv => lhs; whnf) ?_) | (refine m_lss rfl rfl ?_))) | refine end_ops ?_ | refine seq_ops ?_ | (refine cond_f rfl ?_ ?_; (· first | rfl | assumption | (refine decide_eq_false ?_; first | assumption | omega) | (refine nf ?_; first | assumption | omega) | (simp [*]; done))) | refine AW_seq ?_ | refine AW_ret ?_ | refine ret_done ?_ | refine norm_then ?_ | refine exit_then ?_ | refine exit_round ?_ | refine AW_exit ?_ | refine exit_block ?_)
      exact outs_b (decide_eq_true (p := IsPln n G) (And.intro (by omega) (And.intro (by omega) (by rw [hn]; exact hI)))).symm
  · repeat (first | (refine step_ops ?_; (first | (refine m_mov (by conv => lhs; whnf) ?_) | (refine m_len_ro rfl ?_) | (apply m_ld_pt; (· rfl); (· rfl); (· rfl)) | (refine m_fa rfl ?_) | (refine m_box rfl ?_ ?_; (· first | rfl | (simp [cellOk, Value.oneCell']; done))))) | refine end_ops ?_ | refine seq_ops ?_ | refine AW_seq ?_)
    (refine step_ops ?_); (apply m_call (haSize_spec _ _)); (· repeat (first | exact lends_nil | (refine lends_cons ?_ ?_; (· exact lend_v))))
    repeat (first | (refine step_ops ?_; (first | (refine m_mov (by conv => lhs; whnf) ?_) | (refine m_not rfl ?_))) | refine end_ops ?_ | refine seq_ops ?_ | (refine cond_t rfl ?_ ?_; (· first | rfl | assumption | (refine decide_eq_true ?_; first | assumption | omega) | (refine nt ?_; first | assumption | omega) | (simp [*]; done))) | refine AW_ret ?_ | refine ret_done ?_ | refine ret_then ?_)
    exact outs_b (decide_eq_false fun h => hs ⟨by have := h.1; omega, h.2.1⟩).symm
end Go.Proofs.YtfoecdaggmagaaaDoor

namespace Go.Proofs.YtfoecdaggmagaaaDoor
open Go.Am
attribute [local irreducible] AW Outs Weak Lends Lend Sp aops atree aop1 Then Round InBlock Done

/-- A plan, and hats for it. -/
def AskOk (c : Int) (G : List (List UInt8)) (t : List UInt8) : Prop := IsPln c G ∧ t.length = G.length ∧ IsCol c.toNat t
instance (c : Int) (G : List (List UInt8)) (t : List UInt8) : Decidable (AskOk c G t) := inferInstanceAs (Decidable (_ ∧ _ ∧ _))
theorem pln_nat {c : Int} {G : List (List UInt8)} (h : IsPln c G) : ∃ n : Nat, c = n ∧ 2 ≤ n ∧ n ≤ 3 := by
  obtain ⟨n, rfl⟩ := Int.eq_ofNat_of_zero_le (show 0 ≤ c by have := h.2.1; omega)
  exact ⟨n, rfl, by have := h.2.1; omega, by have := h.2.1; omega⟩

end Go.Proofs.YtfoecdaggmagaaaDoor

namespace Go.Proofs.YtfoecdaggmagaaaDoor
open Go.Am
attribute [local irreducible] AW Outs Weak Lends Lend Sp aops atree aop1 Then Round InBlock Done

/-- A plan that was read. -/
def gmV (fr : Bool) (c : Int) (G : List (List UInt8)) (mask : List UInt8) : AV := .agg [.i (G.length : Nat), .i c, .rmp fr (esV (gAll c.toNat G G.length)) (gAll c.toNat G G.length).length, str mask]
def noGm : AV := .agg [.i 0, .i 0, .v (.map none), str []]
def rdR (c : Int) (G : List (List UInt8)) : AV := .tup [if IsPln c G then gmV true c G [] else noGm, .b (decide (IsPln c G))]

theorem few_all {c : Nat} {G : List (List UInt8)} {k n : Nat} (hG : G.length ≤ 4) (hk : k ≤ G.length) (r : List UInt8) : Few (gAll c G k ++ gRow c (G.length - 1) k r n) := by
  intro p hp
  rcases List.mem_append.1 hp with hp | hp
  · obtain ⟨g, i, h1, _, rfl⟩ := mem_gAll.1 hp
    refine ⟨?_, ?_⟩
    · show g < 1000; omega
    · show (dgs c (G.length - 1) i).length < 1000
      rw [dgs_len]; omega
  · obtain ⟨i, _, rfl⟩ := mem_gRow.1 hp
    refine ⟨?_, ?_⟩
    · show k < 1000; omega
    · show (dgs c (G.length - 1) i).length < 1000
      rw [dgs_len]; omega

set_option maxRecDepth 20000 in
theorem readHatPlan_spec (c : Int) (G : List (List UInt8)) (hG : G.length ≤ 1048576) : Sp Tryd.prog 40 [pln c G] (rdR c G) := by
  unfold rdR
  refine specG_of Tryd.func40 rfl cc40 (by rfl) ?_
  unfold ac40
  by_cases hs : (2 ≤ (G.length : Int) ∧ (G.length : Int) ≤ 4) ∧ 2 ≤ c ∧ c ≤ 3
  · obtain ⟨n, rfl⟩ := Int.eq_ofNat_of_zero_le (show 0 ≤ c by omega)
    have hn : (n : Int).toNat = n := Int.toNat_natCast n
    have hl1 : (G.length : Int) - 1 = ((G.length - 1 : Nat) : Int) := by omega
    have hal := allH_len n (G.length - 1)
    have hp81 := pow_le n (by omega) (G.length - 1) (by omega)
    repeat (first | (refine step_ops ?_; (first | (refine m_mov (by conv => lhs; whnf) ?_) | (refine m_len_ro rfl ?_) | (apply m_ld_pt; (· rfl); (· rfl); (· rfl)) | (refine m_alloc ?_) | (refine m_fa rfl ?_) | (refine m_box rfl ?_ ?_; (· first | rfl | (simp [cellOk, Value.oneCell']; done))))) | refine end_ops ?_ | refine seq_ops ?_ | refine AW_seq ?_)
    refine step_ops ?_; (apply m_call (canPlay_spec _ _)); (· repeat (first | exact lends_nil | (refine lends_cons ?_ ?_; (· exact lend_v))))
    repeat (first | (refine step_ops ?_; (first | (refine m_not rfl ?_) | (refine m_len_ro rfl ?_) | (apply m_ld_pt; (· rfl); (· rfl); (· rfl)) | (refine m_mmk ?_) | (refine m_alloc ?_) | (refine m_fa rfl ?_) | (refine m_bld_3 (by conv => lhs; whnf) (by conv => lhs; whnf) (by conv => lhs; whnf) (by decide)  (by decide) (by decide) (by rfl) (by rfl) (by rfl) ?_))) | refine end_ops ?_ | refine seq_ops ?_ | (refine cond_f rfl ?_ ?_; (· first | rfl | assumption | (refine decide_eq_false ?_; first | assumption | omega) | (refine nf ?_; first | assumption | omega) | (simp [*]; done))) | refine skip_then ?_)
    refine step_opsW (weak_deep (r := 4) rfl (by simp) rfl) ?_
    refine m_stall (l := [.i G.length, .i n, .mp 23, str []]) rfl rfl rfl rfl rfl rfl ?_
    repeat (first | (refine step_ops ?_; (first | (refine m_sub rfl rfl ?_ ?_ ?_; (· omega); (· omega)) | (apply m_ld_pt; (· rfl); (· rfl); (· rfl)) | (refine m_fa rfl ?_))) | refine end_ops ?_ | refine seq_ops ?_)
    rw [hl1]
    refine step_ops ?_; (apply m_call (allHats_spec (G.length - 1) n (by omega) (by omega) (by omega))); (· repeat (first | exact lends_nil | (refine lends_cons ?_ ?_; (· exact lend_v))))
    repeat (first | (refine step_ops ?_; (first | (refine m_mov (by conv => lhs; whnf) ?_) | (refine m_len_ro rfl ?_) | (apply m_ld_pt; (· rfl); (· rfl); (· rfl)) | (refine m_fa rfl ?_))) | refine end_ops ?_ | refine seq_ops ?_ | refine AW_seq ?_ | refine AW_block ?_)
    refine AW_loop (α := Nat) (fun k => k ≤ G.length ∧ ∀ r ∈ G.take k, r.length = n ^ (G.length - 1) ∧ IsCol n r)
      (fun k => st [(2, .pt 2 0), (4, .pt 4 0), (5, .ro true 1 (txs (allH n (G.length - 1))) (allH n (G.length - 1)).length), (32, .ro false 1 (txs G) G.length), (33, .i G.length), (34, .i k)]
        [(2, (true, [.i 0, .i 0, .v (.map none), str []])), (4, (false, [.i G.length, .i n, .mp 23, str []])), (23, (true, [.ob (.map (esV (gAll n G k)) (gAll n G k).length)]))]) (fun k => G.length - k) 0 ⟨Nat.zero_le _, by simp⟩ (weak_st ?_ ?_ rfl rfl) ?_
    · (repeat' (first | exact trivial | refine And.intro ?_ ?_)) <;> (first | rfl | skip)
    · (repeat' (first | exact trivial | refine And.intro ?_ ?_)) <;> (first | rfl | skip)
    rintro k ⟨hk, hI⟩
    by_cases h : k < G.length
    · have hat := txs_at h
      have hsn : (G.getD k []).length = n ^ (G.length - 1) ∧ IsCol n (G.getD k []) → ∀ r ∈ G.take (k + 1), r.length = n ^ (G.length - 1) ∧ IsCol n r := fun hx r hr => by
        rw [take_snoc G k [] h] at hr
        rcases List.mem_append.1 hr with hr | hr
        · exact hI r hr
        · rw [List.mem_singleton.1 hr]; exact hx
      have hbad : ¬ ((G.getD k []).length = n ^ (G.length - 1) ∧ IsCol n (G.getD k [])) → ¬ IsPln n G := fun hx hp => hx (by have := hp.2.2 _ (getD_memL (d := []) h); rwa [hn] at this)
      have hgs := gAll_succ n G k
      generalize G.getD k [] = r at *
      by_cases h1 : (n ^ (G.length - 1) ≤ r.length ∧ r.length ≤ n ^ (G.length - 1)) ∧ IsCol n r
      · obtain ⟨⟨h1a, h1b⟩, h2⟩ := h1
        have h1 : r.length = n ^ (G.length - 1) := by omega
        have hd : (!decide (((allH n (G.length - 1)).length ≤ r.length ∧ r.length ≤ (allH n (G.length - 1)).length) ∧ IsCol n r)) = false := by rw [hal, decide_eq_true (And.intro (And.intro h1a h1b) h2)]; rfl
        repeat (first | (refine step_ops ?_; (first | (refine m_mov (by conv => lhs; whnf) ?_) | (refine m_lss rfl rfl ?_) | (refine m_idx1_ro rfl rfl ?_ ?_; (· omega)))) | refine end_ops ?_ | refine seq_ops ?_ | (refine cond_t rfl ?_ ?_; (· first | rfl | assumption | (refine decide_eq_true ?_; first | assumption | omega) | (refine nt ?_; first | assumption | omega) | (simp [*]; done))) | refine skip_then ?_ | refine AW_seq ?_ | refine AW_block ?_)
        refine step_ops ?_
        refine m_ld_rp rfl hat ?_
        repeat (first | (refine step_ops ?_; (first | (refine m_mov (by conv => lhs; whnf) ?_) | (refine m_len_ro rfl ?_) | (apply m_ld_pt; (· rfl); (· rfl); (· rfl)) | (refine m_fa rfl ?_))) | refine end_ops ?_ | refine seq_ops ?_ | refine AW_seq ?_)
        refine step_ops ?_; (apply m_call (areColours_spec r (allH n (G.length - 1)).length (allH n (G.length - 1)).length n (by omega) (by omega) (by omega))); (· repeat (first | exact lends_nil | (refine lends_cons ?_ ?_; (· exact lend_v))))
        repeat (first | (refine step_ops ?_; (first | (refine m_mov (by conv => lhs; whnf) ?_) | (refine m_not rfl ?_))) | refine end_ops ?_ | refine seq_ops ?_ | (refine cond_f rfl ?_ ?_; (· first | rfl | assumption | (refine decide_eq_false ?_; first | assumption | omega) | (refine nf ?_; first | assumption | omega) | (simp [*]; done))) | refine skip_then ?_)
        refine step_ops ?_
        refine m_rng rfl ?_
        repeat (first | refine end_ops ?_ | refine AW_block ?_)
        refine AW_loop (α := Nat) (fun p => p ≤ r.length)
          (fun p => st [(2, .pt 2 0), (4, .pt 4 0), (5, .ro true 1 (txs (allH n (G.length - 1))) (allH n (G.length - 1)).length), (6, .i k), (32, .ro false 1 (txs G) G.length), (33, .i G.length), (34, .i k), (50, .itr 50)]
            [(2, (true, [.i 0, .i 0, .v (.map none), str []])), (4, (false, [.i G.length, .i n, .mp 23, str []])), (23, (true, [.ob (.map (esV (gAll n G k ++ gRow n (G.length - 1) k r p)) (gAll n G k ++ gRow n (G.length - 1) k r p).length)])), (50, itS r p)]) (fun p => r.length - p) 0 (Nat.zero_le _) (weak_st ?_ ?_ rfl rfl) ?_
        · (repeat' (first | exact trivial | refine And.intro ?_ ?_)) <;> (first | rfl | skip)
        · rw [show gAll n G k ++ gRow n (G.length - 1) k r 0 = gAll n G k by simp [gRow]]
          (repeat' (first | exact trivial | refine And.intro ?_ ?_)) <;> (first | rfl | skip)
        intro p hp
        by_cases hlt : p < r.length
        · have hb := col_at h2 hlt
          have hat2 := txs_at (G := allH n (G.length - 1)) (k := p) (by omega)
          rw [allH_get (by omega)] at hat2
          have hrs := gRow_succ n (G.length - 1) k r p
          have hfew := few_all (c := n) (n := p) (by omega) hk r
          have hdl := dgs_len n (G.length - 1) p
          have hnew : ∀ q ∈ gAll n G k ++ gRow n (G.length - 1) k r p, q.1 ≠ (k, dgs n (G.length - 1) p) := by
            intro q hq e
            rcases List.mem_append.1 hq with hq | hq
            · obtain ⟨g, i, hg, _, rfl⟩ := mem_gAll.1 hq
              simp at e
              omega
            · obtain ⟨i, hi, rfl⟩ := mem_gRow.1 hq
              simp at e
              have := dgs_inj (by omega) (by omega) (by omega) (by omega) (by omega) e
              omega
          generalize hdp : dgs n (G.length - 1) p = D at *
          generalize hrp : gRow n (G.length - 1) k r p = R at *
          repeat refine seq_ops ?_
          refine step_ops ?_
          refine m_nxa rfl rfl hlt (by omega) ?_
          repeat (first | ((first | refine step_ops ?_ | refine step_tree ?_); (first | (refine m_mov (by conv => lhs; whnf) ?_) | (refine m_idx1_ro rfl rfl ?_ ?_; (· omega)) | (apply m_ld_pt; (· rfl); (· rfl); (· rfl)) | (refine m_ext rfl rfl ?_) | (refine m_fa rfl ?_))) | refine end_ops ?_ | refine seq_ops ?_ | refine AW_tree ?_ | (refine cond_t rfl ?_ ?_; (· first | rfl | assumption | (refine decide_eq_true ?_; first | assumption | omega) | (refine nt ?_; first | assumption | omega) | (simp [*]; done))) | refine skip_then ?_ | refine AW_seq ?_ | refine AW_block ?_)
          refine step_tree ?_
          refine m_ld_rp rfl hat2 ?_
          repeat (refine step_tree ?_; (first | (refine m_mov (by conv => lhs; whnf) ?_) | (refine m_bld_2 (by conv => lhs; whnf) (by conv => lhs; whnf) (by decide)  (by decide) (by rfl) (by rfl) ?_)))
          refine step_tree ?_; (apply m_call (colourOf_byte _ hb.1)); (· repeat (first | exact lends_nil | (refine lends_cons ?_ ?_; (· exact lend_v))))
          refine step_tree ?_
          refine m_putView (l := gAll n G k ++ R) (g := k) (t := D) (v := hv (r.getD p 0)) hfew rfl rfl rfl rfl (by omega) (by omega) hnew ?_
          repeat (first | refine end_tree ?_ | refine norm_block ?_)
          refine next_round (p + 1) hlt (weak_st ?_ ?_ rfl rfl) ?_
          · (repeat' (first | exact trivial | refine And.intro ?_ ?_)) <;> (first | rfl | skip)
          · rw [hrs, ← List.append_assoc]
            (repeat' (first | exact trivial | refine And.intro ?_ ?_)) <;> (first | rfl | skip)
          · show r.length - (p + 1) < r.length - p
            omega
        · obtain rfl : p = r.length := by omega
          repeat refine seq_ops ?_
          refine step_ops ?_
          refine m_nxs_end rfl rfl (by omega) ?_
          repeat (first | (refine step_ops ?_; (first | (refine m_mov (by conv => lhs; whnf) ?_) | (refine m_add rfl rfl ?_ ?_ ?_; (· omega); (· omega)) | (refine m_ext rfl rfl ?_))) | refine end_ops ?_ | refine AW_ops ?_ | (refine cond_f rfl ?_ ?_; (· first | rfl | assumption | (refine decide_eq_false ?_; first | assumption | omega) | (refine nf ?_; first | assumption | omega) | (simp [*]; done))) | refine AW_seq ?_ | refine norm_then ?_ | refine exit_then ?_ | refine norm_block ?_ | refine exit_round ?_ | refine AW_exit ?_ | refine exit_block ?_)
          refine next_round (k + 1) ⟨h, hsn ⟨h1, h2⟩⟩ (weak_st ?_ ?_ rfl rfl) ?_
          · (repeat' (first | exact trivial | refine And.intro ?_ ?_)) <;> (first | rfl | skip)
          · rw [hgs, ← h1]
            (repeat' (first | exact trivial | refine And.intro ?_ ?_)) <;> (first | rfl | skip)
          · omega
      · have hd : (!decide (((allH n (G.length - 1)).length ≤ r.length ∧ r.length ≤ (allH n (G.length - 1)).length) ∧ IsCol n r)) = true := by rw [hal, decide_eq_false h1]; rfl
        have hno : ¬ IsPln n G := hbad fun e => h1 ⟨by omega, e.2⟩
        repeat (first | (refine step_ops ?_; (first | (refine m_mov (by conv => lhs; whnf) ?_) | (refine m_lss rfl rfl ?_) | (refine m_idx1_ro rfl rfl ?_ ?_; (· omega)))) | refine end_ops ?_ | refine seq_ops ?_ | (refine cond_t rfl ?_ ?_; (· first | rfl | assumption | (refine decide_eq_true ?_; first | assumption | omega) | (refine nt ?_; first | assumption | omega) | (simp [*]; done))) | refine skip_then ?_ | refine AW_seq ?_ | refine AW_block ?_)
        refine step_ops ?_
        refine m_ld_rp rfl hat ?_
        repeat (first | (refine step_ops ?_; (first | (refine m_mov (by conv => lhs; whnf) ?_) | (refine m_len_ro rfl ?_) | (apply m_ld_pt; (· rfl); (· rfl); (· rfl)) | (refine m_fa rfl ?_))) | refine end_ops ?_ | refine seq_ops ?_ | refine AW_seq ?_)
        refine step_ops ?_; (apply m_call (areColours_spec r (allH n (G.length - 1)).length (allH n (G.length - 1)).length n (by omega) (by omega) (by omega))); (· repeat (first | exact lends_nil | (refine lends_cons ?_ ?_; (· exact lend_v))))
        repeat (first | (refine step_ops ?_; (first | (refine m_mov (by conv => lhs; whnf) ?_) | (refine m_not rfl ?_) | (refine m_bld rfl ?_) | (refine m_stall rfl rfl rfl ?_ ?_ ?_ ?_; (· first | rfl | (simp [*]; done)); (· first | rfl | (simp [*]; done)); (· first | rfl | (simp [cellOk, Value.oneCell']; done))))) | refine end_ops ?_ | refine seq_ops ?_ | (refine cond_t rfl ?_ ?_; (· first | rfl | assumption | (refine decide_eq_true ?_; first | assumption | omega) | (refine nt ?_; first | assumption | omega) | (simp [*]; done))) | refine AW_ret ?_ | refine ret_then ?_ | refine ret_block ?_ | refine ret_round ?_)
        refine ret_doneg2 rfl rfl rfl ?_
        rw [if_neg hno, decide_eq_false hno]
        exact outs_tup2 (outs_agg rfl) (outs_b rfl)
    · obtain rfl : k = G.length := by omega
      rw [List.take_length] at hI
      have hyes : IsPln n G := And.intro (by omega) (And.intro (by omega) (by rw [hn]; exact hI))
      repeat (first | (refine step_ops ?_; (first | (refine m_lss rfl rfl ?_) | (refine m_ldall rfl rfl ?_ ?_; (· first | rfl | (simp; done) | (simp [*]; done))))) | refine end_ops ?_ | refine seq_ops ?_ | (refine cond_f rfl ?_ ?_; (· first | rfl | assumption | (refine decide_eq_false ?_; first | assumption | omega) | (refine nf ?_; first | assumption | omega) | (simp [*]; done))) | refine AW_seq ?_ | refine norm_then ?_ | refine exit_then ?_ | refine exit_round ?_ | refine AW_exit ?_ | refine exit_block ?_)
      refine step_opsW (weak_deep (r := 2) rfl (by simp) rfl) ?_
      refine m_stall (l := [.i G.length, .i n, .mp 23, str []]) rfl rfl rfl rfl rfl rfl ?_
      repeat (first | (refine step_ops ?_; (refine m_mov (by conv => lhs; whnf) ?_)) | refine end_ops ?_ | refine AW_ret ?_)
      refine ret_doneg2 rfl rfl rfl ?_
      rw [if_pos hyes, decide_eq_true hyes]
      unfold gmV
      rw [hn]
      exact outs_tup2 (outs_agg4 (outs_i rfl) (outs_i rfl) (outs_mp (by decide) rfl) outs_v) (outs_b rfl)
  · have hno : ¬ IsPln c G := fun h => hs ⟨by have := h.1; omega, h.2.1⟩
    repeat (first | (refine step_ops ?_; (first | (refine m_mov (by conv => lhs; whnf) ?_) | (refine m_len_ro rfl ?_) | (apply m_ld_pt; (· rfl); (· rfl); (· rfl)) | (refine m_alloc ?_) | (refine m_fa rfl ?_) | (refine m_box rfl ?_ ?_; (· first | rfl | (simp [cellOk, Value.oneCell']; done))))) | refine end_ops ?_ | refine seq_ops ?_ | refine AW_seq ?_)
    refine step_ops ?_; (apply m_call (canPlay_spec _ _)); (· repeat (first | exact lends_nil | (refine lends_cons ?_ ?_; (· exact lend_v))))
    repeat (first | (refine step_ops ?_; (first | (refine m_mov (by conv => lhs; whnf) ?_) | (refine m_not rfl ?_) | (refine m_bld rfl ?_) | (refine m_stall rfl rfl rfl ?_ ?_ ?_ ?_; (· first | rfl | (simp [*]; done)); (· first | rfl | (simp [*]; done)); (· first | rfl | (simp [cellOk, Value.oneCell']; done))))) | refine end_ops ?_ | refine seq_ops ?_ | (refine cond_t rfl ?_ ?_; (· first | rfl | assumption | (refine decide_eq_true ?_; first | assumption | omega) | (refine nt ?_; first | assumption | omega) | (simp [*]; done))) | refine AW_ret ?_ | refine ret_then ?_)
    refine ret_doneg2 rfl rfl rfl ?_
    rw [if_neg hno, decide_eq_false hno]
    exact outs_tup2 (outs_agg rfl) (outs_b rfl)
end Go.Proofs.YtfoecdaggmagaaaDoor

namespace Go.Proofs.YtfoecdaggmagaaaDoor
open Go.Am
attribute [local irreducible] AW Outs Weak Lends Lend Sp aops atree aop1 Then Round InBlock Done

theorem implIsHatPlan_spec (c : Int) (G : List (List UInt8)) (hG : G.length ≤ 1048576) : Sp Tryd.prog 23 [pln c G] (.b (decide (IsPln c G))) := by
  have hr := readHatPlan_spec c G hG
  unfold rdR gmV noGm at hr
  refine spec_of Tryd.func23 rfl cc23 rfl ?_
  unfold ac23
  by_cases h : IsPln c G
  · rw [if_pos h] at hr
    repeat (first | (refine step_ops ?_; (first | (refine m_mov (by conv => lhs; whnf) ?_) | (refine m_box rfl ?_ ?_; (· first | rfl | (simp [cellOk, Value.oneCell']; done))) | (refine m_ldall rfl rfl ?_ ?_; (· first | rfl | (simp; done) | (simp [*]; done))))) | refine end_ops ?_ | refine seq_ops ?_)
    (refine step_ops ?_); (apply m_call (hr)); (· repeat (first | exact lends_nil | (refine lends_cons ?_ ?_; (· (refine lend_pln rfl; done)))))
    repeat (first | (refine step_ops ?_; (first | (refine m_mov (by conv => lhs; whnf) ?_) | (refine m_ext rfl rfl ?_) | (refine m_alloc ?_) | (refine m_stall rfl rfl rfl ?_ ?_ ?_ ?_; (· first | rfl | (simp [*]; done)); (· first | rfl | (simp [*]; done)); (· first | rfl | (simp [cellOk, Value.oneCell']; done))))) | refine end_ops ?_ | refine seq_ops ?_ | refine AW_ret ?_ | refine ret_done ?_)
    exact outs_b rfl
  · rw [if_neg h] at hr
    repeat (first | (refine step_ops ?_; (first | (refine m_mov (by conv => lhs; whnf) ?_) | (refine m_box rfl ?_ ?_; (· first | rfl | (simp [cellOk, Value.oneCell']; done))) | (refine m_ldall rfl rfl ?_ ?_; (· first | rfl | (simp; done) | (simp [*]; done))))) | refine end_ops ?_ | refine seq_ops ?_)
    (refine step_ops ?_); (apply m_call (hr)); (· repeat (first | exact lends_nil | (refine lends_cons ?_ ?_; (· (refine lend_pln rfl; done)))))
    repeat (first | (refine step_ops ?_; (first | (refine m_mov (by conv => lhs; whnf) ?_) | (refine m_ext rfl rfl ?_) | (refine m_alloc ?_) | (refine m_stall rfl rfl rfl ?_ ?_ ?_ ?_; (· first | rfl | (simp [*]; done)); (· first | rfl | (simp [*]; done)); (· first | rfl | (simp [cellOk, Value.oneCell']; done))))) | refine end_ops ?_ | refine seq_ops ?_ | refine AW_ret ?_ | refine ret_done ?_)
    exact outs_b rfl

theorem gAll_get {c : Nat} {G : List (List UInt8)} {t : List UInt8} (h : AskOk c G t) {i : Nat} (hi : i < G.length) :
    ((i, seenH t i), hv ((G.getD i []).getD (vw c t i) 0)) ∈ gAll c G G.length ∧ ∀ p ∈ gAll c G G.length, p.1 = (i, seenH t i) → p.2 = hv ((G.getD i []).getD (vw c t i) 0) := by
  obtain ⟨h1, hl, ht⟩ := h
  rw [Int.toNat_natCast] at ht
  have h4 := h1.1
  have hc := h1.2.1
  have hs := seen_at (c := c) (by omega) (by omega) (by omega) ht (i := i) (by omega)
  have hlt := vw_lt (c := c) (by omega) (by omega) (by omega) ht (i := i) (by omega)
  rw [hl] at hs hlt
  refine ⟨mem_gAll.2 ⟨i, vw c t i, hi, hlt, by rw [hs]⟩, fun p hp e => ?_⟩
  obtain ⟨g, j, hg, hj, rfl⟩ := mem_gAll.1 hp
  simp only [Prod.mk.injEq] at e
  obtain ⟨rfl, e⟩ := e
  rw [← hs] at e
  have := dgs_inj (by omega) (by omega) (by omega) hj hlt e
  rw [this]
theorem few_gAll {c : Nat} {G : List (List UInt8)} (hG : G.length ≤ 4) : Few (gAll c G G.length) := fun p hp => few_all (c := c) (n := 0) hG (Nat.le_refl _) [] p (List.mem_append_left _ hp)

theorem lend_gm {hp : Hp} {fr : Bool} {c : Int} {G : List (List UInt8)} {mask : List UInt8} {n : Nat} (hn : n = G.length) : Lend hp (.agg [.i (n : Nat), .i c, .rmp fr (esV (gAll c.toNat G G.length)) (gAll c.toNat G G.length).length, str mask]) (gmV false c G mask) := by
  subst hn
  exact lend_aggM rfl

/-- What GuessesOf, RightGuests and ViewOf tell. -/
def guT (c : Int) (G : List (List UInt8)) (t : List UInt8) : List UInt8 := if AskOk c G t then gsH c.toNat G t G.length else []
def guR (c : Int) (G : List (List UInt8)) (t : List UInt8) : AV := .tup [str (guT c G t), .b (decide (AskOk c G t))]
def rtL (c : Int) (G : List (List UInt8)) (t : List UInt8) : List Int := if AskOk c G t then rgt (gsH c.toNat G t G.length) t G.length else []
def rtR (c : Int) (G : List (List UInt8)) (t : List UInt8) : AV := .tup [newInts (rtL c G t), .b (decide (AskOk c G t))]
theorem rtL_le (c : Int) (G : List (List UInt8)) (t : List UInt8) : (rtL c G t).length ≤ 4 := by
  unfold rtL
  split
  · rename_i h
    exact Nat.le_trans (rgt_le ..) h.1.1.2
  · simp

end Go.Proofs.YtfoecdaggmagaaaDoor

namespace Go.Proofs.YtfoecdaggmagaaaDoor
open Go.Am
attribute [local irreducible] AW Outs Weak Lends Lend Sp aops atree aop1 Then Round InBlock Done
attribute [local irreducible] SpM DoneM SpH DoneH

theorem eqStringS_spec (G M : List (List UInt8)) (hG : G.length ≤ 1048576) : Sp Tryd.prog 13 [.ro false 1 (txs G) G.length, .ro false 1 (txs M) M.length] (.b (decide (G = M))) := by
  refine spec_of Tryd.func13 rfl cc13 rfl ?_
  unfold ac13
  by_cases hlen : G.length = M.length
  · have hlen' : (decide ((G.length : Int) ≠ M.length)) = false := by simp [hlen]
    repeat (first | (refine step_ops ?_; (first | (refine m_mov (by conv => lhs; whnf) ?_) | (refine m_neq rfl rfl ?_) | (refine m_len_ro rfl ?_))) | refine end_ops ?_ | refine seq_ops ?_ | (refine cond_f rfl ?_ ?_; (· first | rfl | assumption | (refine decide_eq_false ?_; first | assumption | omega) | (refine nf ?_; first | assumption | omega) | (simp [*]; done))) | refine skip_then ?_ | refine AW_seq ?_ | refine AW_block ?_)
    refine AW_loop (α := Nat) (fun k => k ≤ G.length ∧ G.take k = M.take k) (fun k => st [(0, .ro false 1 (txs G) G.length), (1, .ro false 1 (txs M) M.length), (5, .i k)] []) (fun k => G.length - k) 0 (by simp) (weak_st ?_ ?_ rfl rfl) ?_
    · (repeat' (first | exact trivial | refine And.intro ?_ ?_)) <;> (first | rfl | skip)
    · trivial
    rintro k ⟨hk, he⟩
    by_cases h : k < G.length
    · have h' : k < M.length := by omega
      have hat := txs_at h
      have hat' := txs_at h'
      by_cases hx : G.getD k [] = M.getD k []
      · have hx' : (!decide (G.getD k [] = M.getD k [])) = false := by rw [decide_eq_true hx]; rfl
        repeat (first | ((first | refine step_ops ?_ | refine step_tree ?_); (first | (refine m_mov (by conv => lhs; whnf) ?_) | (refine m_lss rfl rfl ?_) | (refine m_len_ro rfl ?_) | (refine m_idx1_ro rfl rfl ?_ ?_; (· omega)))) | refine end_ops ?_ | refine seq_ops ?_ | refine seq_tree ?_ | (refine cond_t rfl ?_ ?_; (· first | rfl | assumption | (refine decide_eq_true ?_; first | assumption | omega) | (refine nt ?_; first | assumption | omega) | (simp [*]; done))) | refine skip_then ?_ | refine AW_seq ?_ | refine AW_block ?_)
        refine step_tree ?_
        refine m_ld_rp rfl hat ?_
        repeat (refine step_tree ?_; (first | (refine m_mov (by conv => lhs; whnf) ?_) | (refine m_idx1_ro rfl rfl ?_ ?_; (· omega))))
        refine step_tree ?_
        refine m_ld_rp rfl hat' ?_
        repeat (first | ((first | refine step_ops ?_ | refine step_tree ?_); (first | (refine m_mov (by conv => lhs; whnf) ?_) | (refine m_neqs rfl rfl ?_) | (refine m_add rfl rfl ?_ ?_ ?_; (· omega); (· omega)))) | refine end_ops ?_ | refine AW_ops ?_ | refine end_tree ?_ | (refine cond_f rfl ?_ ?_; (· first | rfl | assumption | (refine decide_eq_false ?_; first | assumption | omega) | (refine nf ?_; first | assumption | omega) | (simp [*]; done))) | refine norm_then ?_ | refine norm_block ?_ | refine AW_skip ?_)
        refine next_round (k + 1) ⟨h, ?_⟩ (weak_st ?_ ?_ rfl rfl) ?_
        · rw [take_snoc G k [] h, take_snoc M k [] h', he, hx]
        · (repeat' (first | exact trivial | refine And.intro ?_ ?_)) <;> (first | rfl | skip)
        · trivial
        · omega
      · have hx' : (!decide (G.getD k [] = M.getD k [])) = true := by rw [decide_eq_false hx]; rfl
        repeat (first | ((first | refine step_ops ?_ | refine step_tree ?_); (first | (refine m_mov (by conv => lhs; whnf) ?_) | (refine m_lss rfl rfl ?_) | (refine m_len_ro rfl ?_) | (refine m_idx1_ro rfl rfl ?_ ?_; (· omega)))) | refine end_ops ?_ | refine seq_ops ?_ | refine seq_tree ?_ | (refine cond_t rfl ?_ ?_; (· first | rfl | assumption | (refine decide_eq_true ?_; first | assumption | omega) | (refine nt ?_; first | assumption | omega) | (simp [*]; done))) | refine skip_then ?_ | refine AW_seq ?_ | refine AW_block ?_)
        refine step_tree ?_
        refine m_ld_rp rfl hat ?_
        repeat (refine step_tree ?_; (first | (refine m_mov (by conv => lhs; whnf) ?_) | (refine m_idx1_ro rfl rfl ?_ ?_; (· omega))))
        refine step_tree ?_
        refine m_ld_rp rfl hat' ?_
        repeat (first | ((first | refine step_ops ?_ | refine step_tree ?_); (first | (refine m_mov (by conv => lhs; whnf) ?_) | (refine m_neqs rfl rfl ?_))) | refine end_ops ?_ | refine seq_ops ?_ | refine end_tree ?_ | (refine cond_t rfl ?_ ?_; (· first | rfl | assumption | (refine decide_eq_true ?_; first | assumption | omega) | (refine nt ?_; first | assumption | omega) | (simp [*]; done))) | refine AW_ret ?_ | refine ret_done ?_ | refine ret_then ?_ | refine ret_block ?_ | refine ret_round ?_)
        exact outs_b (decide_eq_false fun e => hx (by rw [e])).symm
    · obtain rfl : k = G.length := by omega
      rw [List.take_length, List.take_of_length_le (by omega)] at he
      repeat (first | (refine step_ops ?_; (first | (refine m_mov (by conv => lhs; whnf) ?_) | (refine m_lss rfl rfl ?_) | (refine m_len_ro rfl ?_))) | refine end_ops ?_ | refine seq_ops ?_ | (refine cond_f rfl ?_ ?_; (· first | rfl | assumption | (refine decide_eq_false ?_; first | assumption | omega) | (refine nf ?_; first | assumption | omega) | (simp [*]; done))) | refine AW_seq ?_ | refine AW_ret ?_ | refine ret_done ?_ | refine norm_then ?_ | refine exit_then ?_ | refine exit_round ?_ | refine AW_exit ?_ | refine exit_block ?_)
      exact outs_b (decide_eq_true he).symm
  · have hlen' : (decide ((G.length : Int) ≠ M.length)) = true := by simp; omega
    repeat (first | (refine step_ops ?_; (first | (refine m_mov (by conv => lhs; whnf) ?_) | (refine m_neq rfl rfl ?_) | (refine m_len_ro rfl ?_))) | refine end_ops ?_ | refine seq_ops ?_ | (refine cond_t rfl ?_ ?_; (· first | rfl | assumption | (refine decide_eq_true ?_; first | assumption | omega) | (refine nt ?_; first | assumption | omega) | (simp [*]; done))) | refine AW_seq ?_ | refine AW_ret ?_ | refine ret_done ?_ | refine ret_then ?_)
    exact outs_b (decide_eq_false fun e => hlen (by rw [e])).symm

theorem eqHatPlan_spec (c d : Int) (G M : List (List UInt8)) (hG : G.length ≤ 1048576) : Sp Tryd.prog 6 [pln c G, pln d M] (.b (decide (c = d ∧ G = M))) := by
  refine spec_of Tryd.func6 rfl cc6 rfl ?_
  unfold ac6
  by_cases hc : c = d
  · by_cases hx : G = M
    · repeat (first | (refine step_ops ?_; (first | (refine m_mov (by conv => lhs; whnf) ?_) | (refine m_neq rfl rfl ?_) | (apply m_ld_pt; (· rfl); (· rfl); (· rfl)) | (refine m_fa rfl ?_) | (refine m_box rfl ?_ ?_; (· first | rfl | (simp [cellOk, Value.oneCell']; done))))) | refine end_ops ?_ | refine seq_ops ?_ | (refine cond_f rfl ?_ ?_; (· first | rfl | assumption | (refine decide_eq_false ?_; first | assumption | omega) | (refine nf ?_; first | assumption | omega) | (simp [*]; done))) | refine skip_then ?_ | refine AW_seq ?_)
      refine step_ops ?_
      refine m_call (eqStringS_spec G M hG) ?_ ?_
      · exact lends_cons (lend_txr rfl) (lends_cons (lend_txr rfl) lends_nil)
      repeat (first | (refine step_ops ?_; (first | (refine m_mov (by conv => lhs; whnf) ?_) | (refine m_not rfl ?_))) | refine end_ops ?_ | refine seq_ops ?_ | (refine cond_f rfl ?_ ?_; (· first | rfl | assumption | (refine decide_eq_false ?_; first | assumption | omega) | (refine nf ?_; first | assumption | omega) | (simp [*]; done))) | refine skip_then ?_ | refine AW_ret ?_ | refine ret_done ?_)
      exact outs_b (by simp [hc, hx])
    · repeat (first | (refine step_ops ?_; (first | (refine m_mov (by conv => lhs; whnf) ?_) | (refine m_neq rfl rfl ?_) | (apply m_ld_pt; (· rfl); (· rfl); (· rfl)) | (refine m_fa rfl ?_) | (refine m_box rfl ?_ ?_; (· first | rfl | (simp [cellOk, Value.oneCell']; done))))) | refine end_ops ?_ | refine seq_ops ?_ | (refine cond_f rfl ?_ ?_; (· first | rfl | assumption | (refine decide_eq_false ?_; first | assumption | omega) | (refine nf ?_; first | assumption | omega) | (simp [*]; done))) | refine skip_then ?_ | refine AW_seq ?_)
      refine step_ops ?_
      refine m_call (eqStringS_spec G M hG) ?_ ?_
      · exact lends_cons (lend_txr rfl) (lends_cons (lend_txr rfl) lends_nil)
      repeat (first | (refine step_ops ?_; (first | (refine m_mov (by conv => lhs; whnf) ?_) | (refine m_not rfl ?_))) | refine end_ops ?_ | refine seq_ops ?_ | (refine cond_t rfl ?_ ?_; (· first | rfl | assumption | (refine decide_eq_true ?_; first | assumption | omega) | (refine nt ?_; first | assumption | omega) | (simp [*]; done))) | refine AW_ret ?_ | refine ret_done ?_ | refine ret_then ?_)
      exact outs_b (by simp [hx])
  · repeat (first | (refine step_ops ?_; (first | (refine m_mov (by conv => lhs; whnf) ?_) | (refine m_neq rfl rfl ?_) | (apply m_ld_pt; (· rfl); (· rfl); (· rfl)) | (refine m_fa rfl ?_) | (refine m_box rfl ?_ ?_; (· first | rfl | (simp [cellOk, Value.oneCell']; done))))) | refine end_ops ?_ | refine seq_ops ?_ | (refine cond_t rfl ?_ ?_; (· first | rfl | assumption | (refine decide_eq_true ?_; first | assumption | omega) | (refine nt ?_; first | assumption | omega) | (simp [*]; done))) | refine AW_seq ?_ | refine AW_ret ?_ | refine ret_done ?_ | refine ret_then ?_)
    exact outs_b (by simp [hc])

/-- The text of a number with a letter ahead. -/
def mkD (k : Nat) (out : List UInt8) : List UInt8 := if h : k = 0 then out else mkD (k / 10) (hg (k % 10) :: out)
termination_by k
decreasing_by omega
def mkT (k : Nat) : List UInt8 := 109 :: mkD k []
theorem mkD_zero (out : List UInt8) : mkD 0 out = out := by rw [mkD, dif_pos rfl]
theorem mkD_pos {k : Nat} (h : k ≠ 0) (out : List UInt8) : mkD k out = mkD (k / 10) (hg (k % 10) :: out) := by rw [mkD, dif_neg h]

theorem markText_spec (k : Nat) (h0 : 1 ≤ k) (h1 : k ≤ 4194304) : Sp Tryd.prog 26 [.i k] (str (mkT k)) := by
  refine spec_of Tryd.func26 rfl cc26 rfl ?_
  unfold ac26
  repeat (first | (refine step_ops ?_; (first | (refine m_mov (by conv => lhs; whnf) ?_) | (refine m_leq rfl rfl ?_))) | refine end_ops ?_ | refine seq_ops ?_ | (refine cond_f rfl ?_ ?_; (· first | rfl | assumption | (refine decide_eq_false ?_; first | assumption | omega) | (refine nf ?_; first | assumption | omega) | (simp [*]; done))) | refine skip_then ?_ | refine AW_seq ?_ | refine AW_block ?_)
  refine AW_loop (α := Nat × List UInt8) (fun a => mkD a.1 a.2 = mkD k [] ∧ a.1 + a.2.length ≤ k) (fun a => st [(0, .i a.1), (3, str a.2)] []) (fun a => a.1) (k, []) ⟨rfl, by simp⟩ (weak_st ?_ ?_ rfl rfl) ?_
  · (repeat' (first | exact trivial | refine And.intro ?_ ?_)) <;> (first | rfl | skip)
  · trivial
  rintro ⟨n, out⟩ ⟨hI, hl⟩
  dsimp only at hI hl ⊢
  by_cases hn : n = 0
  · subst hn
    rw [mkD_zero] at hI
    repeat (first | (refine step_ops ?_; (first | (refine m_mov (by conv => lhs; whnf) ?_) | (refine m_gtr rfl rfl ?_) | (refine m_adds rfl rfl ?_ ?_; (· first | omega | (simp; omega))))) | refine end_ops ?_ | refine seq_ops ?_ | (refine cond_f rfl ?_ ?_; (· first | rfl | assumption | (refine decide_eq_false ?_; first | assumption | omega) | (refine nf ?_; first | assumption | omega) | (simp [*]; done))) | refine AW_seq ?_ | refine AW_ret ?_ | refine ret_done ?_ | refine norm_then ?_ | refine exit_then ?_ | refine exit_round ?_ | refine AW_exit ?_ | refine exit_block ?_)
    rw [hI]
    exact outs_v
  · have hw := hg_wrap (n % 10) (by omega)
    have hr : (n : Int) % 10 = ((n % 10 : Nat) : Int) := by omega
    have hq : (n : Int) / 10 = ((n / 10 : Nat) : Int) := by omega
    rw [mkD_pos hn] at hI
    repeat (first | (refine step_ops ?_; (first | (refine m_mov (by conv => lhs; whnf) ?_) | (refine m_gtr rfl rfl ?_) | (refine m_add rfl rfl ?_ ?_ ?_; (· omega); (· omega)) | (refine m_bsl1 rfl rfl ?_) | (refine m_cvt rfl ?_) | (refine m_rem rfl rfl ?_ ?_ ?_; (· omega); (· omega)))) | refine end_ops ?_ | refine seq_ops ?_ | (refine cond_t rfl ?_ ?_; (· first | rfl | assumption | (refine decide_eq_true ?_; first | assumption | omega) | (refine nt ?_; first | assumption | omega) | (simp [*]; done))) | refine skip_then ?_ | refine AW_seq ?_ | refine AW_block ?_)
    rw [hr, hw]
    skip
    refine step_ops ?_
    refine m_bts_sl (bs := [hg (n % 10)]) rfl rfl rfl ?_
    repeat (first | (refine step_ops ?_; (first | (refine m_mov (by conv => lhs; whnf) ?_) | (refine m_adds rfl rfl ?_ ?_; (· first | omega | (simp; omega))) | (refine m_quo rfl rfl ?_ ?_ ?_ ?_; (· omega); (· omega); (· omega)))) | refine end_ops ?_ | refine AW_ops ?_ | refine norm_block ?_)
    refine next_round (n / 10, hg (n % 10) :: out) ⟨hI, by simp; omega⟩ (weak_st ?_ ?_ rfl rfl) ?_
    · rw [← hq]
      (repeat' (first | exact trivial | refine And.intro ?_ ?_)) <;> (first | rfl | skip)
    · trivial
    · show n / 10 < n
      omega

/-- k, k+1, .. as texts. -/
def marksT (k n : Nat) : List (List UInt8) := (List.range n).map fun i => mkT (k + i)
theorem marksT_len (k n : Nat) : (marksT k n).length = n := by simp [marksT]
theorem marksT_succ (k n : Nat) : marksT k (n + 1) = marksT k n ++ [mkT (k + n)] := by simp [marksT, List.range_succ]
theorem marksT_get (k n i : Nat) (h : i < n) : (marksT k n).getD i [] = mkT (k + i) := by simp [marksT, h]
def markedT (G : List (List UInt8)) (k j : Nat) : List (List UInt8) := marksT k j ++ G.drop j
theorem markedT_len (G : List (List UInt8)) (k j : Nat) (h : j ≤ G.length) : (markedT G k j).length = G.length := by simp [markedT, marksT_len]; omega
theorem markedT_zero (G : List (List UInt8)) (k : Nat) : markedT G k 0 = G := by simp [markedT, marksT]
theorem markedT_all (G : List (List UInt8)) (k : Nat) : markedT G k G.length = marksT k G.length := by simp [markedT]
theorem markedT_set (G : List (List UInt8)) (k j : Nat) (h : j < G.length) : (markedT G k j).set j (mkT (k + j)) = markedT G k (j + 1) := by
  unfold markedT
  rw [marksT_succ, List.set_append_right _ _ (by rw [marksT_len]; omega), marksT_len, Nat.sub_self, List.drop_eq_getElem_cons h, List.set_cons_zero]
  simp

theorem markStringS_spec (G : List (List UInt8)) (k : Nat) (hG : G.length ≤ 1048576) (h0 : 1 ≤ k) (h1 : k ≤ 1048577) :
    SpM Tryd.prog 14 1 G.length (txs G) [.i k] (.i ((k + G.length : Nat) : Int)) (txs (marksT k G.length)) := by
  refine specM_of Tryd.func14 rfl cc14 rfl (by first | exact allv_ints _ | exact txs_plain _) (by first | exact allv_ints _ | exact txs_plain _) rfl ?_
  unfold ac14
  repeat (first | (refine step_ops ?_; (refine m_mov (by conv => lhs; whnf) ?_)) | refine end_ops ?_ | refine seq_ops ?_ | refine AW_seq ?_ | refine AW_block ?_)
  refine AW_loop (α := Nat) (fun j => j ≤ G.length) (fun j => st [(0, .sl pbase 1 0 G.length), (1, .i ((k + j : Nat) : Int)), (5, .i j)] [(pbase, (true, txs (markedT G k j)))]) (fun j => G.length - j) 0 (by omega) (weak_st ?_ ?_ rfl rfl) ?_
  · (repeat' (first | exact trivial | refine And.intro ?_ ?_)) <;> (first | rfl | skip)
  · refine ⟨?_, trivial⟩
    rw [markedT_zero]
    rfl
  intro j hj
  have hml := markedT_len G k j hj
  have htl := txs_len (markedT G k j)
  by_cases h : j < G.length
  · repeat (first | (refine step_ops ?_; (first | (refine m_mov (by conv => lhs; whnf) ?_) | (refine m_lss rfl rfl ?_) | (refine m_len_sl rfl ?_))) | refine end_ops ?_ | refine seq_ops ?_ | (refine cond_t rfl ?_ ?_; (· first | rfl | assumption | (refine decide_eq_true ?_; first | assumption | omega) | (refine nt ?_; first | assumption | omega) | (simp [*]; done))) | refine skip_then ?_ | refine AW_seq ?_ | refine AW_block ?_)
    (refine step_ops ?_); (apply m_call (markText_spec (k + j) (by omega) (by omega))); (· repeat (first | exact lends_nil | (refine lends_cons ?_ ?_; (· exact lend_v))))
    repeat (first | (refine step_ops ?_; (first | (refine m_mov (by conv => lhs; whnf) ?_) | (refine m_add rfl rfl ?_ ?_ ?_; (· omega); (· omega)) | (refine m_idx1_sl rfl rfl ?_ ?_; (· omega)) | (apply m_st; (· rfl); (· rfl); (· rfl); (· first | omega | (simp; done) | (simp; omega)); (· rfl)))) | refine end_ops ?_ | refine AW_ops ?_ | refine norm_then ?_ | refine norm_block ?_)
    refine next_round (j + 1) h (weak_st ?_ ?_ rfl rfl) ?_
    · rw [show ((k + (j + 1) : Nat) : Int) = ((k + j : Nat) : Int) + 1 by omega]
      (repeat' (first | exact trivial | refine And.intro ?_ ?_)) <;> (first | rfl | skip)
    · refine ⟨?_, trivial⟩
      show some (true, (txs (markedT G k j)).set j (str (mkT (k + j)))) = _
      rw [txs_set, markedT_set G k j h]
    · omega
  · obtain rfl : j = G.length := by omega
    repeat (first | (refine step_ops ?_; (first | (refine m_mov (by conv => lhs; whnf) ?_) | (refine m_lss rfl rfl ?_) | (refine m_len_sl rfl ?_))) | refine end_ops ?_ | refine seq_ops ?_ | (refine cond_f rfl ?_ ?_; (· first | rfl | assumption | (refine decide_eq_false ?_; first | assumption | omega) | (refine nf ?_; first | assumption | omega) | (simp [*]; done))) | refine AW_seq ?_ | refine AW_ret ?_ | refine norm_then ?_ | refine exit_then ?_ | refine exit_round ?_ | refine AW_exit ?_ | refine exit_block ?_)
    refine ret_donem rfl ?_
    rw [← markedT_all]
    rfl

theorem heldStringS_spec (k n : Nat) (hn : n ≤ 1048576) (h0 : 1 ≤ k) (h1 : k ≤ 1048577) :
    Sp Tryd.prog 15 [.ro false 1 (txs (marksT k n)) (marksT k n).length, .i k] (.i ((k + n : Nat) : Int)) := by
  have hml := marksT_len k n
  refine spec_of Tryd.func15 rfl cc15 rfl ?_
  unfold ac15
  repeat (first | (refine step_ops ?_; (refine m_mov (by conv => lhs; whnf) ?_)) | refine end_ops ?_ | refine seq_ops ?_ | refine AW_seq ?_ | refine AW_block ?_)
  refine AW_loop (α := Nat) (fun j => j ≤ n) (fun j => st [(0, .ro false 1 (txs (marksT k n)) (marksT k n).length), (1, .i ((k + j : Nat) : Int)), (5, .i j)] []) (fun j => n - j) 0 (by omega) (weak_st ?_ ?_ rfl rfl) ?_
  · (repeat' (first | exact trivial | refine And.intro ?_ ?_)) <;> (first | rfl | skip)
  · trivial
  intro j hj
  by_cases h : j < n
  · have hat := txs_at (G := marksT k n) (k := j) (by omega)
    rw [marksT_get k n j h] at hat
    have hx' : (!decide (mkT (k + j) = mkT (k + j))) = false := by simp
    repeat (first | ((first | refine step_ops ?_ | refine step_tree ?_); (first | (refine m_mov (by conv => lhs; whnf) ?_) | (refine m_lss rfl rfl ?_) | (refine m_len_ro rfl ?_) | (refine m_idx1_ro rfl rfl ?_ ?_; (· omega)))) | refine end_ops ?_ | refine seq_ops ?_ | refine seq_tree ?_ | (refine cond_t rfl ?_ ?_; (· first | rfl | assumption | (refine decide_eq_true ?_; first | assumption | omega) | (refine nt ?_; first | assumption | omega) | (simp [*]; done))) | refine skip_then ?_ | refine AW_seq ?_ | refine AW_block ?_)
    refine step_tree ?_
    refine m_ld_rp rfl hat ?_
    repeat (refine step_tree ?_; (refine m_mov (by conv => lhs; whnf) ?_))
    refine step_tree ?_; (apply m_call (markText_spec (k + j) (by omega) (by omega))); (· repeat (first | exact lends_nil | (refine lends_cons ?_ ?_; (· exact lend_v))))
    repeat (first | ((first | refine step_ops ?_ | refine step_tree ?_); (first | (refine m_mov (by conv => lhs; whnf) ?_) | (refine m_neqs_self rfl rfl ?_) | (refine m_add rfl rfl ?_ ?_ ?_; (· omega); (· omega)))) | refine end_ops ?_ | refine AW_ops ?_ | refine end_tree ?_ | (refine cond_f rfl ?_ ?_; (· first | rfl | assumption | (refine decide_eq_false ?_; first | assumption | omega) | (refine nf ?_; first | assumption | omega) | (simp [*]; done))) | refine skip_then ?_ | refine norm_then ?_ | refine norm_block ?_)
    refine next_round (j + 1) h (weak_st ?_ ?_ rfl rfl) ?_
    · rw [show ((k + (j + 1) : Nat) : Int) = ((k + j : Nat) : Int) + 1 by omega]
      (repeat' (first | exact trivial | refine And.intro ?_ ?_)) <;> (first | rfl | skip)
    · trivial
    · omega
  · obtain rfl : j = n := by omega
    repeat (first | (refine step_ops ?_; (first | (refine m_mov (by conv => lhs; whnf) ?_) | (refine m_lss rfl rfl ?_) | (refine m_len_ro rfl ?_))) | refine end_ops ?_ | refine seq_ops ?_ | (refine cond_f rfl ?_ ?_; (· first | rfl | assumption | (refine decide_eq_false ?_; first | assumption | omega) | (refine nf ?_; first | assumption | omega) | (simp [*]; done))) | refine AW_seq ?_ | refine AW_ret ?_ | refine ret_done ?_ | refine norm_then ?_ | refine exit_then ?_ | refine exit_round ?_ | refine AW_exit ?_ | refine exit_block ?_)
    exact outs_i rfl

theorem static_len (cs cs' : List AV) (hpl : ownL false cs' = true) (hr : refsL (fun r => (Am.look (lenH cs') r).isSome) cs' = true) (x : Value) : Static (Am.look (lenH cs)) (.v x) (Am.look (lenH cs')) :=
  static_R (by simp) (fun p hp => by rw [List.mem_singleton] at hp; subst hp; exact ⟨hpl, hr⟩) ⟨rfl, rfl⟩
theorem markHatPlan_spec (c : Int) (G : List (List UInt8)) (k : Nat) (hG : G.length ≤ 1048576) (h0 : 1 ≤ k) (h1 : k ≤ 1048577) :
    SpH Tryd.prog 7 [.agg [.i c, .sl pbase 1 0 G.length], .i k] (Am.look (lenH (txs G))) (.i ((k + G.length : Nat) : Int)) (Am.look (lenH (txs (marksT k G.length)))) := by
  have hst := static_len (txs G) (txs (marksT k G.length)) (txs_own _ _) (txs_refs _ _) (.int .i64 ((k + G.length : Nat) : Int))
  refine specH_of Tryd.func7 rfl cc7 rfl (by first | exact static_mat1 _ | exact static_mat2 _ _ | assumption) ?_
  unfold ac7
  refine seq_ops ?_
  refine step_ops ?_
  refine m_boxd (l := [.i c, .sl pbase 1 0 G.length]) rfl rfl rfl ?_
  repeat (first | (refine step_ops ?_; (first | (refine m_mov (by conv => lhs; whnf) ?_) | (apply m_ld_pt; (· rfl); (· rfl); (· rfl)) | (refine m_fa rfl ?_))) | refine end_ops ?_ | refine seq_ops ?_)
  refine step_ops ?_
  refine m_callm (markStringS_spec G k hG h0 h1) rfl rfl rfl (txs_plain _) (txs_plain _) rfl ?_
  repeat (first | (refine step_ops ?_; (refine m_mov (by conv => lhs; whnf) ?_)) | refine end_ops ?_ | refine seq_ops ?_ | refine AW_ret ?_)
  refine ret_R id (by rfl) ?_ (by simp) (by simp) (by simp)
  refine ⟨⟨_, rfl, .inl ?_⟩, trivial⟩
  exact congrArg (Prod.mk true) (txs_ren _ _).symm

theorem heldHatPlan_spec (c : Int) (k n : Nat) (hn : n ≤ 1048576) (h0 : 1 ≤ k) (h1 : k ≤ 1048577) :
    Sp Tryd.prog 8 [pln c (marksT k n), .i k] (.i ((k + n : Nat) : Int)) := by
  refine spec_of Tryd.func8 rfl cc8 rfl ?_
  unfold ac8
  repeat (first | (refine step_ops ?_; (first | (refine m_mov (by conv => lhs; whnf) ?_) | (apply m_ld_pt; (· rfl); (· rfl); (· rfl)) | (refine m_fa rfl ?_) | (refine m_box rfl ?_ ?_; (· first | rfl | (simp [cellOk, Value.oneCell']; done))))) | refine end_ops ?_ | refine seq_ops ?_)
  refine step_ops ?_
  refine m_call (heldStringS_spec k n hn h0 h1) ?_ ?_
  · exact lends_cons (lend_txr rfl) (lends_cons lend_v lends_nil)
  repeat (first | (refine step_ops ?_; (first | (refine m_mov (by conv => lhs; whnf) ?_) | (refine m_lss rfl rfl ?_))) | refine end_ops ?_ | refine seq_ops ?_ | (refine cond_f rfl ?_ ?_; (· first | rfl | assumption | (refine decide_eq_false ?_; first | assumption | omega) | (refine nf ?_; first | assumption | omega) | (simp [*]; done))) | refine skip_then ?_ | refine AW_seq ?_ | refine AW_ret ?_ | refine ret_done ?_)
  exact outs_i rfl
end Go.Proofs.YtfoecdaggmagaaaDoor
