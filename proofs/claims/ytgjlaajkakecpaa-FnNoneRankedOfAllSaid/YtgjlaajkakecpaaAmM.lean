/- The abstract machine, part thirteen: the steps of a proof. -/
import Derived.Test.YtgjlaajkakecpaaAmL
namespace Go.Am
variable {P : Program} {own : Bool} {N : Nat} {s : AS} {K : AS → Prop} {d : Option Nat}

abbrev AV.i (n : Int) : AV := .v (.int .i64 n)
abbrev AV.b (b : Bool) : AV := .v (.bool b)
/-- A slice of integers that is read. -/
abbrev ints (l : List Int) : AV := .ro false 1 (l.map AV.i) l.length
/-- A slice of integers of new memory. -/
abbrev newInts (l : List Int) : AV := .ro true 1 (l.map AV.i) l.length

theorem step_ops {o : AOper} {l : List AOper} {Q : AS → Prop} (h : aop1 P own o s fun s' => aops P own l s' Q) : aops P own (o :: l) s Q := ⟨s, Weak.refl s, h⟩
theorem weak_ops {l : List AOper} {o : AOper} {s' : AS} {Q : AS → Prop} (h : Weak s s') (k : aops P own (o :: l) s' Q) : aops P own (o :: l) s Q := by
  obtain ⟨s1, h1, h2⟩ := k
  exact ⟨s1, h.trans h1, h2⟩
theorem end_ops {Q : AS → Prop} (h : Q s) : aops P own [] s Q := h
theorem step_tree {o : AOper} {t : ATree} {R : AS → Prop} (h : aop1 P false o s fun s' => atree P t s' R) : atree P (.take o t) s R := h
theorem step_one {o : AOper} {t : ATree} {R : AS → Prop} (h : aop1 P true o s fun s' => atree P t s' R) : atree P (.one o t) s R := h
theorem step_own {o : AOper} {t : ATree} {R : AS → Prop} (h : aown P o s fun s' => atree P t s' R) : atree P (.own o t) s R := h
theorem end_tree {R : AS → Prop} (h : R s) : atree P .done s R := h

section
variable {x y z : Opd}
theorem m_mov {v : AV} (h : s.ev x = v) (k : K (s.put d v)) : aop1 P own ⟨d, .mov x, none⟩ s K := by subst h; exact k
theorem m_nils {r c : Nat} (k : K (((s.kill r).mem r (true, [])).put (some r) (.sl r c 0 0))) : aop1 P own ⟨some r, .nils c, none⟩ s K := .inr ⟨r, rfl, k⟩
theorem m_nilx {c : Nat} (k : K (s.put d (.v (.slice none 0 0)))) : aop1 P own ⟨d, .nils c, none⟩ s K := .inl k
theorem m_isnil_x {c : Nat} {ne : Bool} (h : s.ev x = .v (.slice none 0 c)) (k : K (s.put d (.b (!ne)))) : aop1 P own ⟨d, .isnil ne x, none⟩ s K := .inl ⟨c, h, k⟩
theorem m_pick_t {b : Bool} {v : AV} (hc : s.ev x = .b b) (hb : b = true) (h : s.ev y = v) (k : K (s.put d v)) : aop1 P own ⟨d, .pick x y z, none⟩ s K := by
  subst h; subst hb; exact ⟨true, hc, fun _ => k, fun e => by cases e⟩
theorem m_pick_f {b : Bool} {v : AV} (hc : s.ev x = .b b) (hb : b = false) (h : s.ev z = v) (k : K (s.put d v)) : aop1 P own ⟨d, .pick x y z, none⟩ s K := by
  subst h; subst hb; exact ⟨false, hc, (fun e => by cases e), fun _ => k⟩
theorem m_not {b : Bool} (h : s.ev x = .b b) (k : K (s.put d (.b (!b)))) : aop1 P own ⟨d, .not x, none⟩ s K := ⟨b, h, k⟩
theorem m_add {a b : Int} (hx : s.ev x = .i a) (hy : s.ev y = .i b) (h1 : -9223372036854775808 ≤ a + b) (h2 : a + b ≤ 9223372036854775807) (k : K (s.put d (.i (a + b)))) : aop1 P own ⟨d, .bin .add x y, none⟩ s K := by
  refine ⟨_, _, _, hx, hy, rfl, ?_⟩
  rw [show IntKind.i64.wrap (a + b) = a + b from by rw [IntKind.wrap_i64]; omega]
  exact k
theorem m_sub {a b : Int} (hx : s.ev x = .i a) (hy : s.ev y = .i b) (h1 : -9223372036854775808 ≤ a - b) (h2 : a - b ≤ 9223372036854775807) (k : K (s.put d (.i (a - b)))) : aop1 P own ⟨d, .bin .sub x y, none⟩ s K := by
  refine ⟨_, _, _, hx, hy, rfl, ?_⟩
  rw [show IntKind.i64.wrap (a - b) = a - b from by rw [IntKind.wrap_i64]; omega]
  exact k
theorem m_mul {a b : Int} (hx : s.ev x = .i a) (hy : s.ev y = .i b) (h1 : -9223372036854775808 ≤ a * b) (h2 : a * b ≤ 9223372036854775807) (k : K (s.put d (.i (a * b)))) : aop1 P own ⟨d, .bin .mul x y, none⟩ s K := by
  refine ⟨_, _, _, hx, hy, rfl, ?_⟩
  rw [show IntKind.i64.wrap (a * b) = a * b from by rw [IntKind.wrap_i64]; omega]
  exact k
theorem m_quo {a b : Int} (hx : s.ev x = .i a) (hy : s.ev y = .i b) (h0 : 0 ≤ a) (h1 : 0 < b) (h2 : a ≤ 9223372036854775807) (k : K (s.put d (.i (a / b)))) : aop1 P own ⟨d, .bin .quo x y, none⟩ s K := by
  have hb : b ≠ 0 := by omega
  refine ⟨_, _, _, hx, hy, by simp only [pbin, if_true, hb, if_false]; rfl, ?_⟩
  have e1 : a.tdiv b = a / b := Int.tdiv_eq_ediv_of_nonneg h0
  have e2 : 0 ≤ a / b := Int.ediv_nonneg h0 (by omega)
  have e3 : a / b ≤ a := Int.ediv_le_self _ h0
  rw [e1, show IntKind.i64.wrap (a / b) = a / b from by rw [IntKind.wrap_i64]; omega]
  exact k
theorem m_rem {a b : Int} (hx : s.ev x = .i a) (hy : s.ev y = .i b) (h0 : 0 ≤ a) (h1 : 0 < b) (k : K (s.put d (.i (a % b)))) : aop1 P own ⟨d, .bin .rem x y, none⟩ s K := by
  have hb : b ≠ 0 := by omega
  refine ⟨_, _, _, hx, hy, by simp only [pbin, if_true, hb, if_false]; rfl, ?_⟩
  rw [Int.tmod_eq_emod_of_nonneg h0]
  exact k
theorem m_eql {a b : Int} (hx : s.ev x = .i a) (hy : s.ev y = .i b) (k : K (s.put d (.b (decide (a = b))))) : aop1 P own ⟨d, .bin .eql x y, none⟩ s K := by
  refine ⟨_, _, _, hx, hy, rfl, ?_⟩
  rw [show (a == b) = decide (a = b) from rfl]
  exact k
theorem m_neq {a b : Int} (hx : s.ev x = .i a) (hy : s.ev y = .i b) (k : K (s.put d (.b (decide (a ≠ b))))) : aop1 P own ⟨d, .bin .neq x y, none⟩ s K := by
  refine ⟨_, _, _, hx, hy, rfl, ?_⟩
  rw [show (a != b) = decide (a ≠ b) from by by_cases h : a = b <;> simp [h]]
  exact k
theorem m_lss {a b : Int} (hx : s.ev x = .i a) (hy : s.ev y = .i b) (k : K (s.put d (.b (decide (a < b))))) : aop1 P own ⟨d, .bin .lss x y, none⟩ s K := ⟨_, _, _, hx, hy, rfl, k⟩
theorem m_leq {a b : Int} (hx : s.ev x = .i a) (hy : s.ev y = .i b) (k : K (s.put d (.b (decide (a ≤ b))))) : aop1 P own ⟨d, .bin .leq x y, none⟩ s K := ⟨_, _, _, hx, hy, rfl, k⟩
theorem m_gtr {a b : Int} (hx : s.ev x = .i a) (hy : s.ev y = .i b) (k : K (s.put d (.b (decide (b < a))))) : aop1 P own ⟨d, .bin .gtr x y, none⟩ s K := ⟨_, _, _, hx, hy, rfl, k⟩
theorem m_geq {a b : Int} (hx : s.ev x = .i a) (hy : s.ev y = .i b) (k : K (s.put d (.b (decide (b ≤ a))))) : aop1 P own ⟨d, .bin .geq x y, none⟩ s K := ⟨_, _, _, hx, hy, rfl, k⟩
theorem m_beq {ne a b : Bool} (hx : s.ev x = .b a) (hy : s.ev y = .b b) (k : K (s.put d (.b (ne ^^ (a == b))))) : aop1 P own ⟨d, .beq ne x y, none⟩ s K := ⟨_, _, hx, hy, k⟩
theorem m_isnil_sl {r c off n : Nat} {ne : Bool} (h : s.ev x = .sl r c off n) (h0 : 0 < n) (k : K (s.put d (.b ne))) : aop1 P own ⟨d, .isnil ne x, none⟩ s K := .inr ⟨n, .inl ⟨r, c, off, h⟩, fun _ => k, fun e => by omega⟩
theorem m_isnil_ro {fr : Bool} {c n : Nat} {cs : List AV} {ne : Bool} (h : s.ev x = .ro fr c cs n) (h0 : 0 < n) (k : K (s.put d (.b ne))) : aop1 P own ⟨d, .isnil ne x, none⟩ s K := .inr ⟨n, .inr (.inl ⟨fr, c, cs, h⟩), fun _ => k, fun e => by omega⟩
/-- An empty list may be nil or not: both must do. -/
theorem m_isnil_ro0 {fr : Bool} {c : Nat} {cs : List AV} {ne : Bool} (h : s.ev x = .ro fr c cs 0) (k : ∀ b, K (s.put d (.b b))) : aop1 P own ⟨d, .isnil ne x, none⟩ s K := .inr ⟨0, .inr (.inl ⟨fr, c, cs, h⟩), fun e => by omega, fun _ => k⟩
theorem m_len_sl {r c off n : Nat} (h : s.ev x = .sl r c off n) (k : K (s.put d (.i n))) : aop1 P own ⟨d, .len x, none⟩ s K := .inl ⟨r, c, off, n, h, k⟩
theorem m_len_ro {fr : Bool} {c n : Nat} {cs : List AV} (h : s.ev x = .ro fr c cs n) (k : K (s.put d (.i n))) : aop1 P own ⟨d, .len x, none⟩ s K := .inr (.inl ⟨fr, c, cs, n, h, k⟩)
theorem m_idx_sl {r c off n : Nat} {j : Int} (hx : s.ev x = .sl r c off n) (hj : s.ev y = .i j) (h0 : 0 ≤ j) (h1 : j < n) (k : K (s.put d (.pt r (off + j.toNat * c)))) : aop1 P own ⟨d, .idx c x y, none⟩ s K :=
  ⟨_, j, hj, h0, .inl ⟨r, off, n, hx, h1, k⟩⟩
theorem m_idx_ro {fr : Bool} {c n : Nat} {cs : List AV} {j : Int} (hx : s.ev x = .ro fr c cs n) (hj : s.ev y = .i j) (h0 : 0 ≤ j) (h1 : j < n) (k : K (s.put d (.rp (cs.drop (j.toNat * c))))) : aop1 P own ⟨d, .idx c x y, none⟩ s K :=
  ⟨_, j, hj, h0, .inr ⟨fr, cs, n, hx, h1, k⟩⟩
theorem m_idx1_ro {fr : Bool} {n j : Nat} {cs : List AV} (hx : s.ev x = .ro fr 1 cs n) (hj : s.ev y = .i (j : Nat)) (h1 : j < n) (k : K (s.put d (.rp (cs.drop j)))) : aop1 P own ⟨d, .idx 1 x y, none⟩ s K :=
  m_idx_ro hx hj (by omega) (by omega) (by rw [Int.toNat_natCast, Nat.mul_one]; exact k)
theorem m_idx1_sl {r n j : Nat} (hx : s.ev x = .sl r 1 0 n) (hj : s.ev y = .i (j : Nat)) (h1 : j < n) (k : K (s.put d (.pt r j))) : aop1 P own ⟨d, .idx 1 x y, none⟩ s K :=
  m_idx_sl hx hj (by omega) (by omega) (by rw [Int.toNat_natCast, Nat.mul_one, Nat.zero_add]; exact k)
theorem m_arr1 {r n j : Nat} (hx : s.ev x = .pt r 0) (hj : s.ev y = .i (j : Nat)) (h1 : j < n) (k : K (s.put d (.pt r j))) : aop1 P own ⟨d, .arr 1 n x y, none⟩ s K :=
  ⟨_, j, hj, by omega, by omega, .inl ⟨r, 0, hx, by rw [Int.toNat_natCast, Nat.mul_one, Nat.zero_add]; exact k⟩⟩
theorem m_arr {r c n off : Nat} {j : Int} (hx : s.ev x = .pt r off) (hj : s.ev y = .i j) (h0 : 0 ≤ j) (h1 : j < n) (k : K (s.put d (.pt r (off + j.toNat * c)))) : aop1 P own ⟨d, .arr c n x y, none⟩ s K :=
  ⟨_, j, hj, h0, h1, .inl ⟨r, off, hx, k⟩⟩
theorem m_ld_pt {r off : Nat} {fl : Bool} {cs : List AV} {c : AV} (hx : s.ev x = .pt r off) (hr : s.hp r = some (fl, cs)) (hc : cs[off]? = some c) (k : K (s.put d c)) : aop1 P own ⟨d, .ld none x, none⟩ s K :=
  .inl ⟨r, off, fl, cs, c, hx, hr, hc, k⟩
theorem m_ld_rp {cs : List AV} {c : AV} (hx : s.ev x = .rp cs) (hc : cs[0]? = some c) (k : K (s.put d c)) : aop1 P own ⟨d, .ld none x, none⟩ s K := .inr ⟨cs, c, hx, hc, k⟩
theorem m_st {r off : Nat} {fl : Bool} {cs : List AV} {v : AV} (hx : s.ev x = .pt r off) (hr : s.hp r = some (fl, cs)) (hy : s.ev y = v) (hoff : off < cs.length) (hok : cellOk fl v = true) (k : K (s.mem r (fl, cs.set off v))) :
    aop1 P own ⟨d, .st 1 x y, none⟩ s K := by subst hy; exact ⟨r, off, fl, cs, hx, hr, .inl ⟨rfl, hoff, hok, k⟩⟩
theorem m_mk {r c bs : Nat} {zero : List Value} {n : Nat} (hx : s.ev x = .i n) (hy : s.ev y = .i n) (h1 : (bs : Int) * n ≤ 281474976710656) (h2 : (n : Int) ≤ 9223372036854775807)
    (k : K (((s.kill r).mem r (true, (List.replicate n (zero.map AV.v)).flatten)).put (some r) (.sl r c 0 n))) : aop1 P own ⟨some r, .mk c bs zero x y, none⟩ s K :=
  ⟨r, _, _, n, n, rfl, hx, hy, by omega, Int.le_refl _, h1, h2, by rw [Int.toNat_natCast]; exact k⟩
theorem m_call {f : FuncId} {args : List Opd} {as : List AV} {res : AV} (hs : Sp P f as res) (hl : Lends s.hp (args.map s.ev) as) (k : K (s.put d res)) : aop1 P own ⟨d, .call f args, none⟩ s K := .inl ⟨as, res, hs, hl, .inl k⟩
theorem m_callo {f : FuncId} {args : List Opd} {as : List AV} {r c n : Nat} {cs : List AV} (hs : Sp P f as (.ro true c cs n)) (hl : Lends s.hp (args.map s.ev) as) (hall : cs.all plainV = true)
    (k : K (((s.kill r).mem r (true, cs)).put (some r) (.sl r c 0 n))) : aop1 P true ⟨some r, .call f args, none⟩ s K := .inl ⟨as, _, hs, hl, .inr ⟨rfl, r, c, cs, n, rfl, hall, .inl ⟨rfl, k⟩⟩⟩
theorem m_owno {f : FuncId} {args : List Opd} {as : List AV} {r c n : Nat} {cs : List AV} (hs : Sp P f as (.ro true c cs n)) (hl : Lends s.hp (args.map s.ev) as) (hall : cs.all plainV = true)
    (k : K (((s.kill r).mem r (true, cs)).put (some r) (.sl r c 0 n))) : aown P ⟨some r, .call f args, none⟩ s K := ⟨r, f, args, as, c, cs, n, rfl, hs, hl, hall, k⟩
theorem m_callt {f : FuncId} {args : List Opd} {as rest : List AV} {r c n : Nat} {cs : List AV} (hs : Sp P f as (.tup (.ro true c cs n :: rest))) (hl : Lends s.hp (args.map s.ev) as) (hall : cs.all plainV = true) (hrest : rest.all plainV = true)
    (k : K (((s.kill r).mem r (true, cs)).put (some r) (.tup (.sl r c 0 n :: rest)))) : aop1 P true ⟨some r, .call f args, none⟩ s K := .inl ⟨as, _, hs, hl, .inr ⟨rfl, r, c, cs, n, rfl, hall, .inr ⟨rest, rfl, hrest, k⟩⟩⟩
/-- A call that writes into a region of the caller's. -/
theorem m_callm {f : FuncId} {args : List Opd} {as : List AV} {r c n : Nat} {cs cs' : List AV} {res : AV} (hs : SpM P f c n cs as res cs') (ha : args.map s.ev = .sl r c 0 n :: as) (hplain : as.all plainV = true) (hr : s.hp r = some (true, cs))
    (h1 : cs.all plainV = true) (h2 : cs'.all plainV = true) (h3 : plainV res = true) (k : K ((s.mem r (true, cs')).put d res)) : aop1 P true ⟨d, .call f args, none⟩ s K :=
  .inr (.inl ⟨rfl, r, c, n, cs, as, res, cs', ha, hplain, hr, h1, h2, h3, hs, k⟩)
theorem m_ext {l : List AV} {c : AV} {i : Nat} (hx : s.ev x = .tup l) (hc : l[i]? = some c) (k : K (s.put d c)) : aop1 P own ⟨d, .ext x i, none⟩ s K := ⟨l, c, hx, hc, k⟩
theorem m_alloc {r : Nat} {zero : List Value} (k : K (((s.kill r).mem r (true, zero.map AV.v)).put (some r) (.pt r 0))) : aop1 P own ⟨some r, .alloc zero, none⟩ s K := ⟨r, true, rfl, k⟩
/-- A new variable whose cells may hold what is mine. -/
theorem m_allocd {r : Nat} {zero : List Value} (k : K (((s.kill r).mem r (false, zero.map AV.v)).put (some r) (.pt r 0))) : aop1 P own ⟨some r, .alloc zero, none⟩ s K := ⟨r, false, rfl, k⟩
/-- An operation whose values are of none of two regions. -/
theorem step_pre1 {o : AOper} {a b t d : Nat} {tr : ATree} {R : AS → Prop} (hd : o.d = some d) (hsee : o.sees = [t]) (ha : killV a (s.tm t) = s.tm t) (hb : killV b (s.tm t) = s.tm t)
    (h : aop1 P false o s fun s' => (killV a (s'.tm d) = s'.tm d ∧ killV b (s'.tm d) = s'.tm d) ∧ atree P tr s' R) : atree P (.pre o [a, b] tr) s R := by
  have key : ∀ (Q : Nat → Prop), Q a → Q b → ∀ r ∈ [a, b], Q r := by
    intro Q h1 h2 r hr
    simp only [List.mem_cons, List.not_mem_nil, or_false] at hr
    rcases hr with rfl | rfl
    · exact h1
    · exact h2
  refine ⟨d, hd, key _ ?_ ?_, aop1_mono (fun s' h => ⟨key _ h.1.1 h.1.2, h.2⟩) h⟩
  · intro u hu; rw [hsee, List.mem_singleton] at hu; subst hu; exact ha
  · intro u hu; rw [hsee, List.mem_singleton] at hu; subst hu; exact hb
theorem step_pre2 {o : AOper} {a b t u d : Nat} {tr : ATree} {R : AS → Prop} (hd : o.d = some d) (hsee : o.sees = [t, u]) (ha : killV a (s.tm t) = s.tm t ∧ killV a (s.tm u) = s.tm u) (hb : killV b (s.tm t) = s.tm t ∧ killV b (s.tm u) = s.tm u)
    (h : aop1 P false o s fun s' => (killV a (s'.tm d) = s'.tm d ∧ killV b (s'.tm d) = s'.tm d) ∧ atree P tr s' R) : atree P (.pre o [a, b] tr) s R := by
  have key : ∀ (Q : Nat → Prop), Q a → Q b → ∀ r ∈ [a, b], Q r := by
    intro Q h1 h2 r hr
    simp only [List.mem_cons, List.not_mem_nil, or_false] at hr
    rcases hr with rfl | rfl
    · exact h1
    · exact h2
  refine ⟨d, hd, key _ ?_ ?_, aop1_mono (fun s' h => ⟨key _ h.1.1 h.1.2, h.2⟩) h⟩
  · intro x hx; rw [hsee] at hx; simp only [List.mem_cons, List.not_mem_nil, or_false] at hx; rcases hx with rfl | rfl
    · exact ha.1
    · exact ha.2
  · intro x hx; rw [hsee] at hx; simp only [List.mem_cons, List.not_mem_nil, or_false] at hx; rcases hx with rfl | rfl
    · exact hb.1
    · exact hb.2
theorem atree_mono : ∀ {t : ATree} {s : AS} {R R' : AS → Prop}, (∀ s, R s → R' s) → atree P t s R → atree P t s R'
  | .done, _, _, _, h, hK => h _ hK
  | .take _ _, _, _, _, h, hK => aop1_mono (fun _ k => atree_mono h k) hK
  | .two _ _ _ _, _, _, _, h, hK => ⟨aop1_mono (fun _ k => atree_mono h k) hK.1, aop1_mono (fun _ k => atree_mono h k) hK.2⟩
  | .own _ _, _, _, _, h, hK => aown_mono (fun _ k => atree_mono h k) hK
  | .one _ _, _, _, _, h, hK => aop1_mono (fun _ k => atree_mono h k) hK
  | .alt _ _, _, _, _, h, hK => ⟨atree_mono h hK.1, atree_mono h hK.2⟩
  | .pre _ _ _, _, _, _, h, hK => apre_mono (fun _ k => atree_mono h k) hK
  | .top, _, _, _, _, _ => trivial
theorem atree_end {s : AS} {R : AS → Prop} (h : R s) : atree P .done s R := by unfold atree; exact h
/-- All orders end in the same state. -/
theorem tree_weak {t : ATree} {R : AS → Prop} (S1 : AS) (h : atree P t s fun s' => Weak s' S1) (hR : ∀ s', Weak s' S1 → R s') : atree P t s R := atree_mono hR h
theorem m_cut_ro {fr : Bool} {c n l h : Nat} {cs : List AV} {lo hi : Option Opd} (hx : s.ev x = .ro fr c cs n) (hl : Bnd s lo l 0) (hh : Bnd s hi h n) (h1 : l ≤ h) (h2 : h ≤ n)
    (k : K (s.put d (.ro false c ((cs.drop (l * c)).take ((h - l) * c)) (h - l)))) : aop1 P own ⟨d, .cut c x lo hi, none⟩ s K := ⟨l, h, hl, .inr (.inl ⟨fr, cs, n, hx, hh, h1, h2, k⟩)⟩
theorem m_cut_sl {r c off n l h : Nat} {lo hi : Option Opd} (hx : s.ev x = .sl r c off n) (hl : Bnd s lo l 0) (hh : Bnd s hi h n) (h1 : l ≤ h) (h2 : h ≤ n)
    (k : K (s.put d (.sl r c (off + l * c) (h - l)))) : aop1 P own ⟨d, .cut c x lo hi, none⟩ s K := ⟨l, h, hl, .inl ⟨r, off, n, hx, hh, h1, h2, k⟩⟩
theorem m_app {q r n m c bs : Nat} {fl : Bool} {cs ys : List AV} (hx : s.ev x = .sl r c 0 n) (hp : r < pbase) (hr : s.hp r = some (fl, cs)) (hl : cs.length = n * c) (hy : Elems s.hp c (s.ev y) m ys) (hok : ys.all (cellOk fl) = true)
    (h1 : n + m ≤ maxLen) (h2 : (n + m) * bs ≤ 140737488355328) (k : K ((((s.kill r).kill q).mem q (killR q (killR r (fl, cs ++ ys)))).put (some q) (.sl q c 0 (n + m)))) : aop1 P own ⟨some q, .app c bs x y, none⟩ s K :=
  .inl ⟨q, r, n, m, fl, cs, ys, rfl, hx, hp, hr, hl, hy, hok, h1, h2, k⟩
/-- All of a slice that is read, with no room behind. -/
theorem m_cut3 {fr : Bool} {c n : Nat} {cs : List AV} {hi mx : Opd} (hx : s.ev x = .ro fr c cs n) (hh : s.ev hi = .i (n : Nat)) (hm : s.ev mx = .i (n : Nat)) (k : K (s.put d (.fu c cs n))) : aop1 P own ⟨d, .cut3 c x hi mx, none⟩ s K := ⟨fr, cs, n, .i64, .i64, hx, hh, hm, k⟩
/-- What is appended to such a slice makes a new one. -/
theorem m_appf {q n m c bs : Nat} {cs ys : List AV} (hx : s.ev x = .fu c cs n) (hy : Elems s.hp c (s.ev y) m ys) (h0 : 0 < m) (hok : ys.all (cellOk true) = true)
    (h1 : n + m ≤ maxLen) (h2 : (n + m) * bs ≤ 140737488355328) (k : K (((s.kill q).mem q (true, cs ++ ys)).put (some q) (.sl q c 0 (n + m)))) : aop1 P own ⟨some q, .app c bs x y, none⟩ s K :=
  .inr ⟨q, n, m, cs, ys, rfl, hx, hy, h0, hok, h1, h2, k⟩
/-- A slice literal of one cell an element, each told. -/
theorem m_bsl {r c n : Nat} {zero : List Value} {parts : List (Nat × Opd)} {fl : Bool} {out : List AV} (hf : afill s c fl ((List.replicate n (zero.map AV.v)).flatten) parts out)
    (k : K (((s.kill r).mem r (killR r (fl, out))).put (some r) (.sl r c 0 n))) : aop1 P own ⟨some r, .bsl c n zero parts, none⟩ s K := ⟨r, fl, out, rfl, hf, k⟩
theorem m_fa {r o off : Nat} (hx : s.ev x = .pt r o) (k : K (s.put d (.pt r (o + off)))) : aop1 P own ⟨d, .fa off x, none⟩ s K := .inl ⟨r, o, hx, k⟩
end

/-- A guarded operation whose guard says yes, no. -/
theorem g_yes {op : AOp} {t : Nat} {w b : Bool} (h : s.tm t = .b b) (hb : b = w) (k : aop1 P own ⟨d, op, none⟩ s K) : aop1 P own ⟨d, op, some (t, w)⟩ s K :=
  .inl ⟨b, h, fun _ => k, fun e => by subst hb; cases b <;> simp at e⟩
theorem g_no {op : AOp} {t : Nat} {w b : Bool} (h : s.tm t = .b b) (hb : b = !w) (k : K (s.put d (.v undef))) : aop1 P own ⟨d, op, some (t, w)⟩ s K :=
  .inl ⟨b, h, fun e => by subst hb; cases w <;> simp at e, fun _ => k⟩

theorem nt {p : Prop} [Decidable p] (h : ¬ p) : (!decide p) = true := by simp [h]
theorem nf {p : Prop} [Decidable p] (h : p) : (!decide p) = false := by simp [h]
theorem cond_t {N : Nat} {c : Opd} {x y : ACode} {b : Bool} {Q : Exit → AS → Prop} (hb : s.ev c = .b b) (h : b = true) (k : AW P N x s Q) : AW P N (.cond c x y) s Q :=
  AW_cond hb (fun _ => k) fun e => by rw [h] at e; cases e
theorem cond_f {N : Nat} {c : Opd} {x y : ACode} {b : Bool} {Q : Exit → AS → Prop} (hb : s.ev c = .b b) (h : b = false) (k : AW P N y s Q) : AW P N (.cond c x y) s Q :=
  AW_cond hb (fun e => by rw [h] at e; cases e) fun _ => k
theorem exit_then {id : Nat} {K : AS → Prop} {Q : Exit → AS → Prop} (h : Q (.exit id) s) : Then K Q (.exit id) s := h
theorem exit_round {α : Type} {Inv : α → Prop} {I : α → AS} {m : α → Nat} {x : α} {id : Nat} {Q : Exit → AS → Prop} (h : Q (.exit id) s) : Round Inv I m x Q (.exit id) s := h
theorem exit_block {id : Nat} {Q : Exit → AS → Prop} (h : Q .normal s) : InBlock id Q (.exit id) s := by simp only [InBlock, if_true]; exact h
theorem exit_other {id id' : Nat} {Q : Exit → AS → Prop} (h0 : id' ≠ id) (h : Q (.exit id') s) : InBlock id Q (.exit id') s := by simp only [InBlock, h0, if_false]; exact h
theorem norm_then {K : AS → Prop} {Q : Exit → AS → Prop} (h : K s) : Then K Q .normal s := h
theorem norm_block {id : Nat} {Q : Exit → AS → Prop} (h : Q .normal s) : InBlock id Q .normal s := h
theorem ret_then {K : AS → Prop} {Q : Exit → AS → Prop} (h : Q .ret s) : Then K Q .ret s := h
theorem ret_block {id : Nat} {Q : Exit → AS → Prop} (h : Q .ret s) : InBlock id Q .ret s := h
theorem ret_round {α : Type} {Inv : α → Prop} {I : α → AS} {m : α → Nat} {x : α} {Q : Exit → AS → Prop} (h : Q .ret s) : Round Inv I m x Q .ret s := h
theorem next_round {α : Type} {Inv : α → Prop} {I : α → AS} {m : α → Nat} {x : α} {Q : Exit → AS → Prop} (x' : α) (h1 : Inv x') (h2 : Weak s (I x')) (h3 : m x' < m x) : Round Inv I m x Q .normal s := ⟨x', h1, h2, h3⟩
theorem ret_donem {ts : List Nat} {res : AV} {cs' : List AV} (h : resAV s ts = res) (k : s.hp pbase = some (true, cs')) : DoneM ts res cs' .ret s := ⟨h, k⟩
theorem ret_done {ts : List Nat} {res : AV} (h : Outs s (resAV s ts) res) : Done ts res .ret s := h
theorem skip_then {N : Nat} {K : AS → Prop} {Q : Exit → AS → Prop} (h : K s) : AW P N .skip s (Then K Q) := AW_skip h
theorem g_noF {op : AOp} {t : Nat} {b : Bool} (h : s.tm t = .b b) (hb : b = true) (k : K (s.put d (.v undef))) : aop1 P own ⟨d, op, some (t, false)⟩ s K := g_no h hb k
theorem g_noT {op : AOp} {t : Nat} {b : Bool} (h : s.tm t = .b b) (hb : b = false) (k : K (s.put d (.v undef))) : aop1 P own ⟨d, op, some (t, true)⟩ s K := g_no h hb k
theorem seq_ops {N : Nat} {l : List AOper} {y : ACode} {Q : Exit → AS → Prop} (h : aops P true l s fun s' => AW P N y s' Q) : AW P N (.seq (.ops l) y) s Q := AW_seq (AW_ops h)
theorem seq_tree {N : Nat} {t : ATree} {y : ACode} {Q : Exit → AS → Prop} (h : atree P t s fun s' => AW P N y s' Q) : AW P N (.seq (.tree t) y) s Q := AW_seq (AW_tree h)
theorem seq_assoc {N : Nat} {a b c : ACode} {Q : Exit → AS → Prop} (h : AW P N a s (Then (fun s' => AW P N b s' (Then (fun s' => AW P N c s' Q) Q)) Q)) : AW P N (.seq (.seq a b) c) s Q := by
  refine AW_seq (AW_seq (AW_mono h ?_))
  intro e s hh
  cases e <;> exact hh

theorem outs_int {n : Int} {k : IntKind} : Outs s (.v (.int k n)) (.v (.int k n)) := fun _ _ _ _ _ _ _ _ h => by simpa [SimV] using h
theorem outs_b {a b : Bool} (h : a = b) : Outs s (.b a) (.b b) := fun _ _ _ _ _ _ _ _ hh => by subst h; simpa [SimV] using hh
theorem outs_i {a b : Int} (h : a = b) : Outs s (.i a) (.i b) := fun _ _ _ _ _ _ _ _ hh => by subst h; simpa [SimV] using hh
theorem outs_v {x : Value} : Outs s (.v x) (.v x) := fun _ _ _ _ _ _ _ _ h => by simpa [SimV] using h
theorem ob_not_cells {G : Prop} {w : World} {phi : Nat → Option Nat} {r b b' : Nat} {o : Obj} {cur : Array Value} {e : TypeId} {f : Nat × Nat} (h8 : phi r = some b') (h9 : w.heap[b']? = some o) (h10 : isCells o = false) (h1 : phi r = some b) (h3 : w.heap[b]? = some (.cells cur e f)) : G := by
  rw [h8] at h1
  cases h1
  rw [h9] at h3
  cases h3
  simp [isCells] at h10
/-- A region is handed out. -/
theorem outs_sl {r z n : Nat} {cs : List AV} (hr : s.hp r = some (true, cs)) (hl : cs.length = n * z) (hall : cs.all plainV = true) :
    Outs s (.sl r z 0 n) (.ro true z cs n) := by
  intro w0 N tm w phi ro y hS hy
  simp only [SimV] at hy ⊢
  rcases hy.2.2 with ⟨h1, _, rfl, rfl⟩ | ⟨b, o, cap, cur, e, h1, rfl, h3, h4, h5, h6, h7⟩
  · left
    exact ⟨rfl, List.eq_nil_of_length_eq_zero (by omega), none, 0, rfl, fun _ => ⟨rfl, rfl⟩⟩
  · right
    have ho : o = 0 := by
      rcases h4 with h4 | h4
      · exact h4
      · exact absurd h4.2 (Nat.lt_irrefl _)
    subst ho
    rcases hS.liv r _ hr with ⟨h8, _⟩ | ⟨b', cur', e', h8, h9, h10, h11, h12⟩ | ⟨b', o', _, h8, h9, h10, _⟩
    · have : phi r = some b := h1
      rw [h8] at this; cases this
    case inr.inr => exact ob_not_cells h8 h9 h10 h1 h3
    · have h1' : phi r = some b := h1
      rw [h8] at h1'
      cases h1'
      have h3' : w.heap[b]? = some (.cells cur e (0, 0)) := h3
      rw [h9] at h3'
      cases h3'
      have hb : w0.heap.size ≤ b := (h11.resolve_right fun h => by cases h.2).2.resolve_right fun h => by obtain ⟨_, _, h⟩ := h; cases h
      refine ⟨b, 0, cap, cur, e, (0, 0), rfl, h9, ⟨hb, lt_of_get h9⟩, hl, h5, fun _ => ⟨hb, rfl, rfl, h6, by omega⟩, ?_⟩
      simp only [SimR, if_true] at h12
      rw [List.drop_zero]
      exact simL_allv hall h12

theorem outs_tup2 {a b a' b' : AV} (h1 : Outs s a a') (h2 : Outs s b b') : Outs s (.tup [a, b]) (.tup [a', b']) := by
  intro w0 N tm w phi ro y hS hy
  simp only [SimV] at hy ⊢
  obtain ⟨ar, hy, hsz, hs⟩ := hy
  refine ⟨ar, hy, hsz, ?_⟩
  match hl : ar.toList with
  | [] => rw [hl] at hs; simp [SimL] at hs
  | [_] => rw [hl] at hs; simp [SimL] at hs
  | u :: v :: rest =>
    rw [hl] at hs
    simp only [SimL, and_true] at hs ⊢
    exact ⟨h1 w0 N tm w phi ro u hS hs.1, h2 w0 N tm w phi ro v hS hs.2⟩

theorem outs_tup3 {a b c a' b' c' : AV} (h1 : Outs s a a') (h2 : Outs s b b') (h3 : Outs s c c') : Outs s (.tup [a, b, c]) (.tup [a', b', c']) := by
  intro w0 N tm w phi ro y hS hy
  simp only [SimV] at hy ⊢
  obtain ⟨ar, hy, hsz, hs⟩ := hy
  refine ⟨ar, hy, hsz, ?_⟩
  match hl : ar.toList with
  | [] => rw [hl] at hs; simp [SimL] at hs
  | [_] => rw [hl] at hs; simp [SimL] at hs
  | [_, _] => rw [hl] at hs; simp [SimL] at hs
  | u :: v :: t :: rest =>
    rw [hl] at hs
    simp only [SimL, and_true] at hs ⊢
    exact ⟨h1 w0 N tm w phi ro u hS hs.1, h2 w0 N tm w phi ro v hS hs.2.1, h3 w0 N tm w phi ro t hS hs.2.2⟩

theorem allv_ints (l : List Int) : (l.map AV.i).all plainV = true := by simp [plainV]
theorem outs_ints {r n : Nat} {cs : List AV} {L : List Int} (hr : s.hp r = some (true, cs)) (e : cs = L.map AV.i) (hl : n = L.length) : Outs s (.sl r 1 0 n) (newInts L) := by
  subst e; subst hl
  exact outs_sl hr (by simp) (allv_ints _)

/-- What one value is to a callee. -/
def Lend (hp : Nat → Option (Bool × List AV)) (x a : AV) : Prop :=
  ∀ w0 mu N tm w phi ro v, Sim w0 mu N ⟨fun _ => .any, hp⟩ tm w phi ro → SimV x (ctx w0 w ro phi ⟨fun _ => .any, hp⟩) v →
    SimV a { heap := w.heap, ro := fun b => b < w.heap.size, base := w.heap.size, phi := fun _ => none, live := fun _ => false, loc := false } v

theorem lends_nil {hp : Nat → Option (Bool × List AV)} : Lends hp [] [] := fun _ _ _ _ _ _ _ vs _ _ hl => by
  have : vs = [] := List.eq_nil_of_length_eq_zero (by simpa using hl)
  subst this
  exact ⟨by simp [SimL], rfl⟩
theorem lends_cons {hp : Nat → Option (Bool × List AV)} {x a : AV} {xs as : List AV} (h : Lend hp x a) (k : Lends hp xs as) : Lends hp (x :: xs) (a :: as) := by
  intro w0 mu N tm w phi ro vs hS hs hl
  cases vs with
  | nil => simp at hl
  | cons v vs =>
    simp only [SimL] at hs
    obtain ⟨h1, h2⟩ := k w0 mu N tm w phi ro vs hS hs.2 (by simpa using hl)
    refine ⟨?_, by simpa using h2⟩
    simp only [SimL]
    exact ⟨h w0 mu N tm w phi ro v hS hs.1, h1⟩

theorem lend_v {hp : Nat → Option (Bool × List AV)} {x : Value} : Lend hp (.v x) (.v x) := fun _ _ _ _ _ _ _ _ _ h => by simpa [SimV] using h
theorem lend_any {hp : Nat → Option (Bool × List AV)} {x : AV} : Lend hp x .any := fun _ _ _ _ _ _ _ _ _ _ => by simp [SimV]
/-- A slice of plain values that nobody writes. -/
theorem lend_ro {hp : Nat → Option (Bool × List AV)} {fr : Bool} {z n : Nat} {cs : List AV} (hall : cs.all plainV = true) : Lend hp (.ro fr z cs n) (.ro false z cs n) := by
  intro w0 mu N tm w phi ro v hS h
  simp only [SimV] at h ⊢
  rcases h with ⟨h1, h2, a, c, h3, _⟩ | ⟨b, o, cap, cur, e, fz, h1, h2, h3, h4, h5, _, h6⟩
  · exact .inl ⟨h1, h2, a, c, h3, by simp⟩
  · exact .inr ⟨b, o, cap, cur, e, fz, h1, h2, hS.rob b h3, h4, h5, by simp, simL_allv hall h6⟩
/-- A region of plain values. -/
theorem lend_sl {hp : Nat → Option (Bool × List AV)} {r z off n : Nat} {cs : List AV} (hr : hp r = some (true, cs)) (hl : off + n * z ≤ cs.length) (hall : cs.all plainV = true) :
    Lend hp (.sl r z off n) (.ro false z ((cs.drop off).take (n * z)) n) := by
  intro w0 mu N tm w phi ro v hS h
  simp only [SimV] at h ⊢
  rcases h.2.2 with ⟨h1, rfl, rfl, h4⟩ | ⟨b, o, cap, cur, e, h1, h2, h3, h4, h5, h6, h7⟩
  · exact .inl ⟨rfl, by simp, none, 0, h4, by simp⟩
  · by_cases hn : n = 0
    · subst hn
      exact .inl ⟨rfl, by simp, _, cap, h2, by simp⟩
    · have ho : o = off := by
        rcases h4 with h4 | h4
        · exact h4
        · exact absurd h4.1 hn
      subst ho
      rcases hS.liv r _ hr with ⟨h8, _⟩ | ⟨b', cur', e', h8, h9, h10, h11, h12⟩ | ⟨b', o', _, h8, h9, h10, _⟩
      · have : phi r = some b := h1
        rw [h8] at this; cases this
      case inr.inr => exact ob_not_cells h8 h9 h10 h1 h3
      · have h1' : phi r = some b := h1
        rw [h8] at h1'
        cases h1'
        have h3' : w.heap[b]? = some (.cells cur e (0, 0)) := h3
        rw [h9] at h3'
        cases h3'
        refine .inr ⟨b, o, cap, cur, e, (0, 0), h2, h9, lt_of_get h9, by simp; omega, h5, by simp, ?_⟩
        simp only [SimR, if_true] at h12
        exact simL_allv (List.all_eq_true.2 fun c hc => List.all_eq_true.1 hall c (List.mem_of_mem_drop (List.mem_of_mem_take hc))) ((h12.drop o).take (n * z))

theorem ints_get {l : List Int} {k : Nat} (h : k < l.length) : (l.map AV.i)[k]? = some (AV.i (l.getD k 0)) := by simp [h]
theorem ints_at {l : List Int} {k : Nat} (h : k < l.length) : ((l.map AV.i).drop k)[0]? = some (AV.i (l.getD k 0)) := by simp [h]
section
variable {x : Opd} {L : List Int}
theorem m_ld_rpi {k : Nat} (hx : s.ev x = .rp ((L.map AV.i).drop k)) (h : k < L.length) (kk : K (s.put d (.i (L.getD k 0)))) : aop1 P own ⟨d, .ld none x, none⟩ s K := m_ld_rp hx (ints_at h) kk
theorem m_ld_pti {r k : Nat} {fl : Bool} (hx : s.ev x = .pt r k) (hr : s.hp r = some (fl, L.map AV.i)) (h : k < L.length) (kk : K (s.put d (.i (L.getD k 0)))) : aop1 P own ⟨d, .ld none x, none⟩ s K := m_ld_pt hx hr (ints_get h) kk
end
theorem lend_sli {hp : Nat → Option (Bool × List AV)} {r n : Nat} {L : List Int} (hr : hp r = some (true, L.map AV.i)) (hn : n = L.length) : Lend hp (.sl r 1 0 n) (ints L) := by
  subst hn
  have h := lend_sl (z := 1) (off := 0) (n := L.length) hr (by simp) (allv_ints L)
  have e : ((L.map AV.i).drop 0).take (L.length * 1) = L.map AV.i := by rw [List.drop_zero, Nat.mul_one]; exact List.take_of_length_le (by simp)
  rw [e] at h
  exact h
theorem lend_ints {hp : Nat → Option (Bool × List AV)} {fr : Bool} {n : Nat} {L : List Int} (hn : n = L.length) : Lend hp (.ro fr 1 (L.map AV.i) n) (ints L) := by
  subst hn
  exact lend_ro (allv_ints L)
section
variable {x y : Opd} {L : List Int}
theorem m_cut_hi {fr : Bool} {n k : Nat} (hx : s.ev x = .ro fr 1 (L.map AV.i) n) (hh : s.ev y = .i (k : Nat)) (hn : n = L.length) (h : k ≤ L.length) (kk : K (s.put d (ints (L.take k)))) : aop1 P own ⟨d, .cut 1 x none (some y), none⟩ s K := by
  subst hn
  refine m_cut_ro (l := 0) (h := k) hx rfl ⟨_, hh⟩ (Nat.zero_le _) h ?_
  have e : (((L.map AV.i).drop (0 * 1)).take ((k - 0) * 1)) = (L.take k).map AV.i := by rw [Nat.zero_mul, List.drop_zero, Nat.mul_one, Nat.sub_zero, List.map_take]
  have e2 : k - 0 = (L.take k).length := by rw [List.length_take]; omega
  rw [e, e2]
  exact kk
theorem m_cut_lo {fr : Bool} {n k : Nat} (hx : s.ev x = .ro fr 1 (L.map AV.i) n) (hh : s.ev y = .i (k : Nat)) (hn : n = L.length) (h : k ≤ L.length) (kk : K (s.put d (ints (L.drop k)))) : aop1 P own ⟨d, .cut 1 x (some y) none, none⟩ s K := by
  subst hn
  refine m_cut_ro (l := k) (h := L.length) hx ⟨_, hh⟩ rfl h (Nat.le_refl _) ?_
  have e : (((L.map AV.i).drop (k * 1)).take ((L.length - k) * 1)) = (L.drop k).map AV.i := by
    rw [Nat.mul_one, Nat.mul_one, List.map_drop]; exact List.take_of_length_le (by simp)
  have e2 : L.length - k = (L.drop k).length := by rw [List.length_drop]
  rw [e, e2]
  exact kk
end
section
variable {x y : Opd}
theorem m_arr1j {r n i : Nat} {j : Int} (hx : s.ev x = .pt r 0) (hj : s.ev y = .i j) (e : j = (i : Nat)) (h1 : i < n) (k : K (s.put d (.pt r i))) : aop1 P own ⟨d, .arr 1 n x y, none⟩ s K := by subst e; exact m_arr1 hx hj h1 k
theorem m_idx1_slj {r n i : Nat} {j : Int} (hx : s.ev x = .sl r 1 0 n) (hj : s.ev y = .i j) (e : j = (i : Nat)) (h1 : i < n) (k : K (s.put d (.pt r i))) : aop1 P own ⟨d, .idx 1 x y, none⟩ s K := by subst e; exact m_idx1_sl hx hj h1 k
theorem m_idx1_roj {fr : Bool} {n i : Nat} {cs : List AV} {j : Int} (hx : s.ev x = .ro fr 1 cs n) (hj : s.ev y = .i j) (e : j = (i : Nat)) (h1 : i < n) (k : K (s.put d (.rp (cs.drop i)))) : aop1 P own ⟨d, .idx 1 x y, none⟩ s K := by subst e; exact m_idx1_ro hx hj h1 k
theorem m_ld_ptb {r i : Nat} {fl : Bool} {B : List Bool} {b : Bool} (hx : s.ev x = .pt r i) (hr : s.hp r = some (fl, B.map AV.b)) (hb : B[i]? = some b) (k : K (s.put d (.b b))) : aop1 P own ⟨d, .ld none x, none⟩ s K :=
  m_ld_pt hx hr (by simp [hb]) k
end
theorem take_snoc {α : Type} (l : List α) (k : Nat) (a : α) (h : k < l.length) : l.take (k + 1) = l.take k ++ [l.getD k a] := by
  rw [List.take_succ_eq_append_getElem h]
  simp [h]
end Go.Am
