/- The abstract machine, part thirteen and a half: the steps of a proof through structs, arrays, strings and function values. -/
import Derived.Test.YtgjlaajkakecpaaAmM
namespace Go.Am
variable {P : Program} {own : Bool} {N : Nat} {s : AS} {K : AS → Prop} {d : Option Nat}
section
variable {x y z : Opd}
theorem m_fld {l : List AV} {c : AV} {off : Nat} (hx : s.ev x = .agg l) (hc : l[off]? = some c) (k : K (s.put d c)) : aop1 P own ⟨d, .pu (.fld off none) [x], none⟩ s K := ⟨c, ⟨l, by simp [hx], hc⟩, k⟩
theorem m_fldk {l : List AV} {off n : Nat} (hx : s.ev x = .agg l) (hle : off + n ≤ l.length) (k : K (s.put d (.agg ((l.drop off).take n)))) : aop1 P own ⟨d, .pu (.fld off (some n)) [x], none⟩ s K := ⟨_, ⟨l, by simp [hx], hle, rfl⟩, k⟩
theorem m_bld {zero : List Value} {pl : List (Nat × Nat)} {args : List Opd} {out : List AV} (hf : pfill (zero.map AV.v) pl (args.map s.ev) out) (k : K (s.put d (.agg out))) : aop1 P own ⟨d, .pu (.bld zero pl) args, none⟩ s K := ⟨_, ⟨out, hf, rfl⟩, k⟩
theorem m_aix {l : List AV} {c : AV} {n j : Nat} (hx : s.ev x = .agg l) (hj : s.ev y = .i (j : Nat)) (h : j < n) (hc : l[j]? = some c) (k : K (s.put d c)) : aop1 P own ⟨d, .pu (.aix n 1 none) [x, y], none⟩ s K :=
  ⟨c, ⟨l, .i64, j, by simp [hx, hj], by omega, by omega, by simpa using hc⟩, k⟩
theorem m_six {b : ByteArray} {j : Nat} (hx : s.ev x = .v (.string b)) (hj : s.ev y = .i (j : Nat)) (h : j < b.size) (k : K (s.put d (.v (.int .u8 (b[j]'h).toNat)))) : aop1 P own ⟨d, .pu .six [x, y], none⟩ s K :=
  ⟨_, ⟨b, .i64, j, by simp [hx, hj], by omega, by simpa using h, by simp⟩, k⟩
theorem m_scut_both {b : ByteArray} {l h : Nat} (hx : s.ev x = .v (.string b)) (hl : s.ev y = .i (l : Nat)) (hh : s.ev z = .i (h : Nat)) (h1 : l ≤ h) (h2 : h ≤ b.size) (k : K (s.put d (.v (.string (b.extract l h))))) : aop1 P own ⟨d, .pu (.scut true true) [x, y, z], none⟩ s K :=
  ⟨_, ⟨b, l, h, [.i l], [.i h], by simp [hx, hl, hh], h1, h2, by simp, by simp, rfl⟩, k⟩
theorem m_scut_lo {b : ByteArray} {l : Nat} (hx : s.ev x = .v (.string b)) (hl : s.ev y = .i (l : Nat)) (h1 : l ≤ b.size) (k : K (s.put d (.v (.string (b.extract l b.size))))) : aop1 P own ⟨d, .pu (.scut true false) [x, y], none⟩ s K :=
  ⟨_, ⟨b, l, b.size, [.i l], [], by simp [hx, hl], h1, Nat.le_refl _, by simp, by simp, rfl⟩, k⟩
theorem m_scut_hi {b : ByteArray} {h : Nat} (hx : s.ev x = .v (.string b)) (hh : s.ev y = .i (h : Nat)) (h1 : h ≤ b.size) (k : K (s.put d (.v (.string (b.extract 0 h))))) : aop1 P own ⟨d, .pu (.scut false true) [x, y], none⟩ s K :=
  ⟨_, ⟨b, 0, h, [], [.i h], by simp [hx, hh], Nat.zero_le _, h1, by simp, by simp, rfl⟩, k⟩
theorem m_cvt {k k' : IntKind} {n : Int} (hx : s.ev x = .v (.int k' n)) (kk : K (s.put d (.v (.int k (k.wrap n))))) : aop1 P own ⟨d, .pu (.cvt k) [x], none⟩ s K := ⟨_, ⟨k', n, by simp [hx], rfl⟩, kk⟩
theorem m_aeq {ne e : Bool} {offs : List Nat} {l m : List AV} (hx : s.ev x = .agg l) (hy : s.ev y = .agg m) (he : intsEq l m offs = some e) (k : K (s.put d (.b (ne ^^ e)))) : aop1 P own ⟨d, .pu (.aeq ne offs) [x, y], none⟩ s K :=
  ⟨_, ⟨l, m, e, by simp [hx, hy], he, rfl⟩, k⟩
theorem m_cpl {q : IntKind} {n c : Int} (hx : s.ev x = .v (.int q n)) (hc : q.wrap (BitVec.ofInt q.bits (if q.signed then -1 else q.max) ^^^ BitVec.ofInt q.bits n).toNat = c) (k : K (s.put d (.v (.int q c)))) : aop1 P own ⟨d, .pu .cpl [x], none⟩ s K := ⟨_, ⟨q, n, by rw [List.map_singleton, hx], by rw [hc]⟩, k⟩
theorem m_inil {ne : Bool} (hx : s.ev x = .v .nilIface) (k : K (s.put d (.v (.bool !ne)))) : aop1 P own ⟨d, .pu (.inil ne) [x], none⟩ s K := ⟨_, ⟨_, by rw [List.map_singleton, hx], .inl ⟨rfl, rfl⟩⟩, k⟩
theorem m_iface {ne : Bool} {t : TypeId} {p : Value} (hx : s.ev x = .v (.iface t p)) (k : K (s.put d (.v (.bool ne)))) : aop1 P own ⟨d, .pu (.inil ne) [x], none⟩ s K := ⟨_, ⟨_, by rw [List.map_singleton, hx], .inr ⟨⟨_, _, rfl⟩, rfl⟩⟩, k⟩
theorem m_max {a b : Int} (hx : s.ev x = .i a) (hy : s.ev y = .i b) (k : K (s.put d (.i (if b > a then b else a)))) : aop1 P own ⟨d, .pu (.mm true) [x, y], none⟩ s K := ⟨_, ⟨.i64, a, .i64, b, by simp [hx, hy], rfl⟩, k⟩
theorem m_min {a b : Int} (hx : s.ev x = .i a) (hy : s.ev y = .i b) (k : K (s.put d (.i (if b < a then b else a)))) : aop1 P own ⟨d, .pu (.mm false) [x, y], none⟩ s K := ⟨_, ⟨.i64, a, .i64, b, by simp [hx, hy], rfl⟩, k⟩
/-- A call of a function value that bears its first arguments, and what it captured. -/
theorem m_callf {f : FuncId} {l : List AV} {n : Nat} {args : List Opd} {as : List AV} {res : AV} (hf : s.ev x = .fn f l n) (hcb : Callable P f) (hs : Sp P f as res) (hl : Lends s.hp (l.take n ++ args.map s.ev ++ l.drop n) as) (k : K (s.put d res)) :
    aop1 P own ⟨d, .callv x args, none⟩ s K := .inr ⟨f, l, n, hf, hcb, .inl ⟨as, res, hs, hl, .inl k⟩⟩
theorem m_mkf {f : FuncId} {n : Nat} {args : List Opd} (k : K (s.put d (.fn f (args.map s.ev) n))) : aop1 P own ⟨d, .mkf f n args, none⟩ s K := k
theorem m_callv {f : FuncId} {args : List Opd} {as : List AV} {res : AV} (hf : s.ev x = .v (.func (.func f) #[] #[])) (hcb : Callable P f) (hs : Sp P f as res) (hl : Lends s.hp (args.map s.ev) as) (k : K (s.put d res)) :
    aop1 P own ⟨d, .callv x args, none⟩ s K := .inl ⟨f, hf, hcb, .inl ⟨as, res, hs, hl, .inl k⟩⟩
theorem m_box {r n : Nat} {l : List AV} (hx : s.ev x = .agg l) (hok : l.all (cellOk true) = true) (k : K (((s.kill r).mem r (true, l)).put (some r) (.pt r 0))) : aop1 P own ⟨some r, .box n x, none⟩ s K :=
  ⟨r, true, rfl, .inr ⟨l, hx, hok, k⟩⟩
theorem m_box1 {r : Nat} {v : AV} (hx : s.ev x = v) (hok : cellOk true v = true) (k : K (((s.kill r).mem r (true, [v])).put (some r) (.pt r 0))) : aop1 P own ⟨some r, .box 1 x, none⟩ s K := by
  subst hx; exact ⟨r, true, rfl, .inl ⟨rfl, hok, k⟩⟩
theorem m_ldall {r n : Nat} {fl : Bool} {cs : List AV} (hx : s.ev x = .pt r 0) (hr : s.hp r = some (fl, cs)) (hl : cs.length = n) (k : K (s.put d (.agg cs))) : aop1 P own ⟨d, .ld (some n) x, none⟩ s K := by
  subst hl
  exact .inl ⟨r, 0, fl, cs, hx, hr, by simp, by simpa using k⟩
theorem m_ldk {r n off : Nat} {fl : Bool} {cs : List AV} (hx : s.ev x = .pt r off) (hr : s.hp r = some (fl, cs)) (hl : off + n ≤ cs.length) (k : K (s.put d (.agg ((cs.drop off).take n)))) : aop1 P own ⟨d, .ld (some n) x, none⟩ s K :=
  .inl ⟨r, off, fl, cs, hx, hr, hl, k⟩
theorem m_ldk_rp {n : Nat} {cs : List AV} (hx : s.ev x = .rp cs) (hl : n ≤ cs.length) (k : K (s.put d (.agg (cs.take n)))) : aop1 P own ⟨d, .ld (some n) x, none⟩ s K := .inr ⟨cs, hx, hl, k⟩
theorem m_stall {r n : Nat} {fl : Bool} {cs l : List AV} (hx : s.ev x = .pt r 0) (hr : s.hp r = some (fl, cs)) (hy : s.ev y = .agg l) (hl : l.length = n) (hl2 : cs.length = n) (hok : l.all (cellOk fl) = true) (k : K (s.mem r (fl, l))) :
    aop1 P own ⟨d, .st n x y, none⟩ s K := ⟨r, 0, fl, cs, hx, hr, .inr ⟨l, hy, hl, by omega, hok, by
      have : cs.take 0 ++ l ++ cs.drop (0 + n) = l := by rw [List.take_zero, List.nil_append, Nat.zero_add, List.drop_of_length_le (by omega), List.append_nil]
      rw [this]; exact k⟩⟩
theorem m_arro {r n off j : Nat} (hx : s.ev x = .pt r off) (hj : s.ev y = .i (j : Nat)) (h1 : j < n) (k : K (s.put d (.pt r (off + j)))) : aop1 P own ⟨d, .arr 1 n x y, none⟩ s K :=
  ⟨_, j, hj, by omega, by omega, .inl ⟨r, off, hx, by rw [Int.toNat_natCast, Nat.mul_one]; exact k⟩⟩
theorem m_acut_all {r n : Nat} {fl : Bool} {cs : List AV} (hx : s.ev x = .pt r 0) (hr : s.hp r = some (fl, cs)) (hn : n ≤ 9007199254740992) (hl : n ≤ cs.length) (k : K (s.put d (.sl r 1 0 n))) : aop1 P own ⟨d, .acut 1 n x none none, none⟩ s K :=
  ⟨r, 0, 0, n, fl, cs, hx, hr, rfl, rfl, Nat.zero_le _, Nat.le_refl _, hn, by omega, by simpa using k⟩
/-- A part of a region seen as a slice: an array within a struct. -/
theorem m_acut_off {r n off : Nat} {fl : Bool} {cs : List AV} (hx : s.ev x = .pt r off) (hr : s.hp r = some (fl, cs)) (hn : n ≤ 9007199254740992) (hl : off + n ≤ cs.length) (k : K (s.put d (.sl r 1 off n))) : aop1 P own ⟨d, .acut 1 n x none none, none⟩ s K :=
  ⟨r, off, 0, n, fl, cs, hx, hr, rfl, rfl, Nat.zero_le _, Nat.le_refl _, hn, by omega, by simpa using k⟩
theorem m_cpy {r n m off : Nat} {fl : Bool} {cs ys : List AV} (hx : s.ev x = .sl r 1 off n) (hr : s.hp r = some (fl, cs)) (hl : off + n ≤ cs.length) (hE : Elems s.hp 1 (s.ev y) m ys) (hys : ys.length = m) (hok : ys.all (cellOk fl) = true) (hmn : m ≤ n)
    (k : K ((s.mem r (fl, cs.take off ++ ys ++ cs.drop (off + m))).put d (.i (m : Nat)))) : aop1 P own ⟨d, .cpy 1 x y, none⟩ s K :=
  ⟨r, off, n, fl, cs, m, ys, hx, hr, by omega, hE, by omega, hok, by
    have e : ys.take m = ys := List.take_of_length_le (by omega)
    rw [Nat.min_eq_left hmn, Nat.mul_one, e]; exact k⟩
end

theorem lend_agg {hp : Nat → Option (Bool × List AV)} {l : List AV} (hall : l.all plainV = true) : Lend hp (.agg l) (.agg l) := by
  intro w0 mu N tm w phi ro v hS h
  simp only [SimV] at h ⊢
  obtain ⟨a, h1, h2, h3⟩ := h
  exact ⟨a, h1, h2, simL_allv hall h3⟩
theorem outs_agg {l : List AV} (hall : l.all plainV = true) : Outs s (.agg l) (.agg l) := by
  intro w0 N tm w phi ro y hS h
  simp only [SimV] at h ⊢
  obtain ⟨a, h1, h2, h3⟩ := h
  exact ⟨a, h1, h2, simL_allv hall h3⟩

/-- A function whose result lies in a variable of several cells. -/
def resCell (P : Program) (fn : Func) : Option (Nat × Nat) :=
  match fn.results.toList with
  | [.cell a t] => (shapeT P t).bind fun k => k.map fun k => (a, k)
  | _ => none

def DoneC (a k : Nat) (res : AV) : Exit → AS → Prop
  | .normal, s | .ret, s => ∃ r off fl cs, s.tm a = .pt r off ∧ s.hp r = some (fl, cs) ∧ off + k ≤ cs.length ∧ Outs s (.agg ((cs.drop off).take k)) res
  | _, _ => False

theorem specC_of {f : FuncId} {fn : Func} {code : Code} {ac : ACode} {a k : Nat} {as : List AV} {res : AV} (hf : P.funcs[f]? = some fn) (hb : fn.body = some code) (hc : ccode P (min fn.ntmps pbase) code = some ac) (hr : resCell P fn = some (a, k))
    (h : AW P (min fn.ntmps pbase) ac (enter0 as) (DoneC a k res)) : Sp P f as res := by
  intro w vs hg hent
  refine calls_of_wp hf hb (wp_mono (h code hc w (fun _ => none) _ w ⟨rfl, _, _, enter0_sim hg hent⟩) fun e a' w' hA => ?_)
  obtain ⟨s', h1, hf', phi, ro, hS⟩ := hA
  have fin : (∃ r off fl cs, s'.tm a = .pt r off ∧ s'.hp r = some (fl, cs) ∧ off + k ≤ cs.length ∧ Outs s' (.agg ((cs.drop off).take k)) res) → a'.defers = [] ∧ ∃ v, (results fn a'.tmps).run P w' = .ok v w' ∧ ∃ v', Ending.returned v = .returned v' ∧ More w w' ∧ SimV res (fresh w w') v' := by
    rintro ⟨r, off, fl, cs, hta, hra, hle, ho⟩
    unfold resCell at hr
    split at hr
    · rename_i a0 t hres
      rw [Option.bind_eq_some_iff] at hr
      obtain ⟨k0, hk0, hr⟩ := hr
      rw [Option.map_eq_some_iff] at hr
      obtain ⟨k1, rfl, hr⟩ := hr
      cases hr
      obtain ⟨dd, i, ht, hi, hik, hdd⟩ := shapeT_some hk0
      have hv := hS.tms a
      rw [hta] at hv
      simp only [SimV] at hv
      obtain ⟨_, _, b, hb', hy, cur1, e1, hcell1⟩ := hv
      obtain ⟨cur, e0, hcell, hsim, _⟩ := hS.cell hra hb' hcell1
      have hl := hsim.list
      have hlen := hl.length_le
      simp only [Array.length_toList] at hlen
      have hcell' : w'.heap[b]? = some (.cells cur e0 (0, 0)) := hcell
      have hld : (loadVar t ⟨b, off, none⟩).run P w' = .ok (.agg ((cur.toList.drop off).take k).toArray) w' := by
        have hrun := run_load_agg (P := P) (w := w') (b := b) (off := off) ht hi hdd hcell' (by omega)
        rw [hik] at hrun
        simpa [Instr.loadAt, Instr.sureAddr] using hrun
      have hvv : SimV (.agg ((cs.drop off).take k)) (ctx w w' ro phi s') (.agg ((cur.toList.drop off).take k).toArray) := by
        simp only [SimV]
        refine ⟨_, rfl, by simp; omega, ?_⟩
        exact ((hl.drop off).take k).shorter k (by simp; omega)
      refine ⟨hf', .agg ((cur.toList.drop off).take k).toArray, ?_, _, rfl, ⟨hS.os, hS.tape, hS.output, hS.size, fun b hb => hS.kept b hb (fun r => by simp)⟩, ho w (min fn.ntmps pbase) a'.tmps w' phi ro _ hS hvv⟩
      have hr0 : results fn a'.tmps = (do let vs ← fn.results.mapM (resOne a'.tmps); pure (if h : vs.size = 1 then vs[0] else .tuple vs)) := rfl
      have hm : (fn.results.mapM (m := Sem) (resOne a'.tmps)).run P w' = .ok #[.agg ((cur.toList.drop off).take k).toArray] w' := by
        rw [Array.mapM_eq_mapM_toList, Sem.run_map, hres]
        simp [resOne, hy, asAddr, hld]
      rw [hr0, Sem.run_bind, hm]
      simp
    · cases hr
  cases e with
  | normal => exact fin h1
  | ret => exact fin h1
  | exit id => exact h1.elim
  | goto l => exact h1.elim
  | panic c => exact h1.elim
  | outgrown => exact h1.elim
theorem ret_donec {a k : Nat} {res : AV} {r : Nat} {fl : Bool} {cs : List AV} (h1 : s.tm a = .pt r 0) (h2 : s.hp r = some (fl, cs)) (h3 : cs.length = k) (h4 : Outs s (.agg cs) res) : DoneC a k res .ret s :=
  ⟨r, 0, fl, cs, h1, h2, by omega, by rw [List.drop_zero, List.take_of_length_le (by omega)]; exact h4⟩

def mvV (r q : Nat) : AV → AV
  | .sl p z o n => if p = r then .sl q z o n else killV q (killV r (.sl p z o n))
  | .pt p o => if p = r then .pt q o else killV q (killV r (.pt p o))
  | x => killV q (killV r x)
/-- The region r is called q from now on. -/
def AS.mv (s : AS) (r q : Nat) (c : List AV) : AS := ⟨fun t => mvV r q (s.tm t), (((s.kill r).kill q).mem q (true, c)).hp⟩

theorem weak_move {s : AS} {r q : Nat} {c : List AV} (hr : s.hp r = some (true, c)) (hrp : r < pbase) (hqp : q < pbase) : Weak s (s.mv r q c) := by
  intro w0 mu N a w hS
  obtain ⟨hf, phi, ro, h⟩ := hS
  have fin : ∀ phi', Sim w0 mu N (((s.kill r).kill q).mem q (true, c)) a.tmps w phi' ro → phi' q = phi r → Simw w0 mu N (s.mv r q c) a w := by
    intro phi' h1 h2
    refine ⟨hf, phi', ro, { h1 with tms := fun t => ?_ }⟩
    have g0 := h.tms t
    have g1 := h1.tms t
    show SimV (mvV r q (s.tm t)) (ctx w0 w ro phi' (((s.kill r).kill q).mem q (true, c))) _
    have g2 : SimV (killV q (killV r (s.tm t))) (ctx w0 w ro phi' (((s.kill r).kill q).mem q (true, c))) (a.tmps.getD t undef) := g1
    cases hx : s.tm t <;> rw [hx] at g0 g2 <;> simp only [mvV] <;> first | exact g2 | skip
    · split
      · rename_i hp
        subst hp
        simp only [SimV] at g0 ⊢
        obtain ⟨_, _, g0⟩ := g0
        refine ⟨rfl, by simp [ctx, AS.mem], ?_⟩
        rcases g0 with ⟨e1, e2⟩ | ⟨b, o', cap, cur, e, e1, e2⟩
        · exact .inl ⟨h2.trans e1, e2⟩
        · exact .inr ⟨b, o', cap, cur, e, h2.trans e1, e2⟩
      · exact g2
    · split
      · rename_i hp
        subst hp
        simp only [SimV] at g0 ⊢
        obtain ⟨_, _, b, e1, e2⟩ := g0
        exact ⟨rfl, by simp [ctx, AS.mem], b, h2.trans e1, e2⟩
      · exact g2
  rcases h.liv r _ hr with ⟨h1, h2, _⟩ | ⟨b, cur, e, h1, _⟩ | ⟨b, o, _, h1, _⟩
  · simp only at h2
    subst h2
    exact fin _ (((h.kill r).kill q).born (kill_hp _ q) hqp (true, []) none rfl) (by simp [h1])
  case inr.inr =>
    obtain ⟨phi', hp', hS'⟩ := h.rename hr hrp hqp h1
    exact fin phi' (by simpa [killR] using hS') (hp'.trans h1.symm)
  · obtain ⟨phi', hp', hS'⟩ := h.rename hr hrp hqp h1
    exact fin phi' (by simpa [killR] using hS') (hp'.trans h1.symm)

section
variable {x y : Opd}
theorem m_bsl1 {r : Nat} {z : Value} {v : AV} (hx : s.ev x = v) (hv : cellOk true v = true) (k : K (((s.kill r).mem r (true, [v])).put (some r) (.sl r 1 0 1))) : aop1 P own ⟨some r, .bsl 1 1 [z] [(0, x)], none⟩ s K :=
  m_bsl (fl := true) (out := [v]) (by subst hx; exact .inl ⟨rfl, by simp, hv, rfl⟩) k
theorem m_app1 {q r q' n bs : Nat} {cs : List AV} {v : AV} (hx : s.ev x = .sl r 1 0 n) (hp : r < pbase) (hr : s.hp r = some (true, cs)) (hl : cs.length = n) (hy : s.ev y = .sl q' 1 0 1) (hq : s.hp q' = some (true, [v])) (hv : cellOk true v = true)
    (h1 : n ≤ 4194304) (h2 : bs ≤ 64) (k : K ((((s.kill r).kill q).mem q (true, cs ++ [v])).put (some q) (.sl q 1 0 (n + 1)))) : aop1 P own ⟨some q, .app 1 bs x y, none⟩ s K := by
  refine m_app (fl := true) (ys := [v]) (m := 1) hx hp hr (by omega) ?_ (by simp [hv]) (by show n + 1 ≤ 9223372036854775807; omega) ?_ ?_
  · rw [hy]
    exact Elems.sl q' 0 1 true [v] hq (by simp)
  · have := Nat.mul_le_mul (show n + 1 ≤ 4194305 by omega) h2
    omega
  · exact k
end

section
variable {x y z : Opd} {zero : List Value} {o1 o2 o3 : Nat} {v1 v2 v3 : AV}
theorem m_bld_1 (h1 : s.ev x = v1) (c1 : o1 < zero.length) (e1 : cellOk false v1 = true) (k : K (s.put d (.agg ((zero.map AV.v).set o1 v1)))) : aop1 P own ⟨d, .pu (.bld zero [(o1, 1)]) [x], none⟩ s K :=
  m_bld (by subst h1; exact .inl ⟨rfl, by simpa using c1, e1, rfl⟩) k
theorem m_bld_2 (h1 : s.ev x = v1) (h2 : s.ev y = v2) (c1 : o1 < zero.length) (c2 : o2 < zero.length) (e1 : cellOk false v1 = true) (e2 : cellOk false v2 = true)
    (k : K (s.put d (.agg (((zero.map AV.v).set o1 v1).set o2 v2)))) : aop1 P own ⟨d, .pu (.bld zero [(o1, 1), (o2, 1)]) [x, y], none⟩ s K :=
  m_bld (by subst h1; subst h2; exact .inl ⟨rfl, by simpa using c1, e1, .inl ⟨rfl, by simpa using c2, e2, rfl⟩⟩) k
theorem m_bld_3 (h1 : s.ev x = v1) (h2 : s.ev y = v2) (h3 : s.ev z = v3) (c1 : o1 < zero.length) (c2 : o2 < zero.length) (c3 : o3 < zero.length) (e1 : cellOk false v1 = true) (e2 : cellOk false v2 = true) (e3 : cellOk false v3 = true)
    (k : K (s.put d (.agg ((((zero.map AV.v).set o1 v1).set o2 v2).set o3 v3)))) : aop1 P own ⟨d, .pu (.bld zero [(o1, 1), (o2, 1), (o3, 1)]) [x, y, z], none⟩ s K :=
  m_bld (by subst h1; subst h2; subst h3; exact .inl ⟨rfl, by simpa using c1, e1, .inl ⟨rfl, by simpa using c2, e2, .inl ⟨rfl, by simpa using c3, e3, rfl⟩⟩⟩) k
end
section
variable {x y : Opd}
theorem m_bsl0 {r : Nat} {z : List Value} (k : K (((s.kill r).mem r (true, [])).put (some r) (.sl r 1 0 0))) : aop1 P own ⟨some r, .bsl 1 0 z [], none⟩ s K :=
  m_bsl (fl := true) (out := []) rfl k
theorem m_appro {q r n m bs : Nat} {fr : Bool} {cs ys : List AV} (hx : s.ev x = .sl r 1 0 n) (hp : r < pbase) (hr : s.hp r = some (true, cs)) (hl : cs.length = n) (hy : s.ev y = .ro fr 1 ys m) (hok : ys.all (cellOk true) = true)
    (h1 : n + m ≤ 4194304) (h2 : bs ≤ 64) (k : K ((((s.kill r).kill q).mem q (true, cs ++ ys)).put (some q) (.sl q 1 0 (n + m)))) : aop1 P own ⟨some q, .app 1 bs x y, none⟩ s K := by
  refine m_app (fl := true) (ys := ys) (m := m) hx hp hr (by omega) ?_ hok (by show n + m ≤ 9223372036854775807; omega) ?_ ?_
  · rw [hy]
    exact Elems.ro fr ys m
  · have := Nat.mul_le_mul h1 h2
    omega
  · exact k
/-- A number is appended to a region of integers. -/
theorem m_app1i {q r q' n bs : Nat} {L : List Int} {v : Int} (hx : s.ev x = .sl r 1 0 n) (hp : r < pbase) (hr : s.hp r = some (true, L.map AV.i)) (hl : n = L.length) (hy : s.ev y = .sl q' 1 0 1) (hq : s.hp q' = some (true, [.i v]))
    (h1 : n ≤ 4194304) (h2 : bs ≤ 64) (k : K ((((s.kill r).kill q).mem q (true, (L ++ [v]).map AV.i)).put (some q) (.sl q 1 0 (L ++ [v]).length))) : aop1 P own ⟨some q, .app 1 bs x y, none⟩ s K := by
  subst hl
  refine m_app1 hx hp hr (by simp) hy hq rfl h1 h2 ?_
  rw [List.map_append, List.length_append] at k
  exact k
theorem step_two {o p : AOper} {t u : ATree} {R : AS → Prop} (h1 : atree P (.take o t) s R) (h2 : atree P (.take p u) s R) : atree P (.two o t p u) s R := ⟨h1, h2⟩
theorem step_alt {t u : ATree} {R : AS → Prop} (h1 : atree P t s R) (h2 : atree P u s R) : atree P (.alt t u) s R := ⟨h1, h2⟩
theorem step_top {R : AS → Prop} : atree P .top s R := trivial
/-- A string, told by its bytes. -/
abbrev str (l : List UInt8) : AV := .v (.string ⟨l.toArray⟩)
theorem bytes_append (a b : List UInt8) : (⟨a.toArray⟩ : ByteArray) ++ ⟨b.toArray⟩ = ⟨(a ++ b).toArray⟩ := by
  apply ByteArray.ext
  simp [ByteArray.data_append]
section
variable {x y : Opd}
theorem m_adds {a b : List UInt8} (hx : s.ev x = str a) (hy : s.ev y = str b) (h : a.length + b.length ≤ 1000000000) (k : K (s.put d (str (a ++ b)))) : aop1 P own ⟨d, .bin .add x y, none⟩ s K := by
  refine ⟨_, _, _, hx, hy, ?_, k⟩
  have h2 : (⟨a.toArray⟩ : ByteArray).size + (⟨b.toArray⟩ : ByteArray).size ≤ 9223372036854775807 := by
    show a.toArray.size + b.toArray.size ≤ _
    simp; omega
  show (if (⟨a.toArray⟩ : ByteArray).size + (⟨b.toArray⟩ : ByteArray).size ≤ 9223372036854775807 then some (Value.string ((⟨a.toArray⟩ : ByteArray) ++ ⟨b.toArray⟩)) else none) = _
  rw [if_pos h2, bytes_append]
theorem m_neqs_self {b : ByteArray} (hx : s.ev x = .v (.string b)) (hy : s.ev y = .v (.string b)) (k : K (s.put d (.b false))) : aop1 P own ⟨d, .bin .neq x y, none⟩ s K := by
  refine ⟨_, _, _, hx, hy, rfl, ?_⟩
  rw [show (!(b.toList == b.toList)) = false by simp]
  exact k
theorem m_slen {b : List UInt8} (hx : s.ev x = str b) (k : K (s.put d (.i b.length))) : aop1 P own ⟨d, .slen x, none⟩ s K := ⟨_, hx, k⟩
theorem m_six' {b : List UInt8} {j : Nat} (hx : s.ev x = str b) (hj : s.ev y = .i (j : Nat)) (h : j < b.length) (k : K (s.put d (.v (.int .u8 (b.getD j 0).toNat)))) : aop1 P own ⟨d, .pu .six [x, y], none⟩ s K := by
  refine m_six hx hj h ?_
  have e : (⟨b.toArray⟩ : ByteArray)[j]'h = b.getD j 0 := by
    show b.toArray[j]'_ = _
    simp [h]
  rw [e]
  exact k
theorem m_bts_sl {r n : Nat} {fl : Bool} {bs : List UInt8} (hx : s.ev x = .sl r 1 0 n) (hr : s.hp r = some (fl, byteVs bs)) (hn : n = bs.length) (k : K (s.put d (str bs))) : aop1 P own ⟨d, .bts x, none⟩ s K := by
  subst hn
  refine ⟨bs, ?_, k⟩
  rw [hx]
  have h := Elems.sl (hp := s.hp) (z := 1) r 0 bs.length fl (byteVs bs) hr (by simp [byteVs])
  rw [List.drop_zero, List.take_of_length_le (by simp [byteVs])] at h
  exact h
end
/-- A slice of one thing that leads to a region; it is appended to a region of such. -/
theorem m_bsl1d {x : Opd} {r : Nat} {z : Value} {v : AV} (hx : s.ev x = v) (hv : cellOk false v = true) (k : K (((s.kill r).mem r (killR r (false, [v]))).put (some r) (.sl r 1 0 1))) : aop1 P own ⟨some r, .bsl 1 1 [z] [(0, x)], none⟩ s K :=
  m_bsl (fl := false) (out := [v]) (by subst hx; exact .inl ⟨rfl, by simp, hv, rfl⟩) k
theorem m_app1d {x y : Opd} {q r q' n bs : Nat} {cs : List AV} {v : AV} (hx : s.ev x = .sl r 1 0 n) (hp : r < pbase) (hr : s.hp r = some (false, cs)) (hl : cs.length = n) (hy : s.ev y = .sl q' 1 0 1) (hq : s.hp q' = some (false, [v])) (hv : cellOk false v = true)
    (h1 : n ≤ 4194304) (h2 : bs ≤ 64) (k : K ((((s.kill r).kill q).mem q (killR q (killR r (false, cs ++ [v])))).put (some q) (.sl q 1 0 (n + 1)))) : aop1 P own ⟨some q, .app 1 bs x y, none⟩ s K := by
  refine m_app (fl := false) (ys := [v]) (m := 1) hx hp hr (by omega) ?_ (by simp [hv]) (by show n + 1 ≤ 9223372036854775807; omega) ?_ ?_
  · rw [hy]
    exact Elems.sl q' 0 1 false [v] hq (by simp)
  · have := Nat.mul_le_mul (show n + 1 ≤ 4194305 by omega) h2
    omega
  · exact k
theorem m_bsl2i {x y : Opd} {r : Nat} {z : Value} {a b : Int} (hx : s.ev x = .i a) (hy : s.ev y = .i b) (k : K (((s.kill r).mem r (true, [a, b].map AV.i)).put (some r) (.sl r 1 0 2))) : aop1 P own ⟨some r, .bsl 1 2 [z] [(0, x), (1, y)], none⟩ s K :=
  m_bsl (fl := true) (out := [.i a, .i b]) (.inl ⟨rfl, by simp, by rw [hx]; rfl, .inl ⟨rfl, by simp, by rw [hy]; rfl, by rw [hx, hy]; rfl⟩⟩) k
/-- New memory is memory that is read. -/
theorem sp_read {f : FuncId} {as : List AV} {z n : Nat} {cs : List AV} (h : Sp P f as (.ro true z cs n)) : Sp P f as (.ro false z cs n) := by
  intro w vs hg hent
  refine (h w vs hg hent).mono fun e w' ⟨v, h1, h2, h3⟩ => ⟨v, h1, h2, ?_⟩
  simp only [SimV] at h3 ⊢
  rcases h3 with ⟨k1, k2, a, c, k3, _⟩ | ⟨b, o, cap, cur, e', fz, k1, k2, k3, k4, k5, _, k6⟩
  · exact .inl ⟨k1, k2, a, c, k3, by simp⟩
  · exact .inr ⟨b, o, cap, cur, e', fz, k1, k2, k3, k4, k5, by simp, k6⟩
theorem killL_append (r : Nat) (l m : List AV) : killL r (l ++ m) = killL r l ++ killL r m := by rw [killL_eq_map, killL_eq_map, killL_eq_map, List.map_append]

theorem oks_ints (L : List Int) : (L.map AV.i).all (cellOk true) = true := by simp [cellOk]; intro x _; rfl
end
section
variable {x y i : Opd}
theorem m_nchk {r n : Nat} (hx : s.ev x = .pt r n) (k : K (s.put d (.pt r n))) : aop1 P own ⟨d, .nchk x, none⟩ s K := .inl ⟨r, n, hx, k⟩
theorem m_nchk_rp {cs : List AV} (hx : s.ev x = .rp cs) (k : K (s.put d (.rp cs))) : aop1 P own ⟨d, .nchk x, none⟩ s K := .inr ⟨cs, hx, k⟩
theorem m_mmk {r : Nat} (k : K (((s.kill r).mem r (true, [.ob (.map #[] 0)])).put (some r) (.mp r))) : aop1 P own ⟨some r, .mmk, none⟩ s K := ⟨r, rfl, k⟩
/-- A map is asked: a key that it has, and one that it has not. -/
theorem m_mget {r : Nat} {q : IntKind} {z : Value} {ok : Bool} {es : Array MapEntry} {clock : Nat} {j : Int} (hx : s.ev x = .mp r) (hr : s.hp r = some (true, [.ob (.map es clock)])) (hi : s.ev i = .v (.int q j)) (hkeys : ∀ e ∈ es.toList, ∃ n, e.key = .int q n)
    (h1 : ∀ e ∈ es.toList, e.key = .int q j → K (s.put d (mres ok e.val true))) (h2 : (∀ e ∈ es.toList, e.key ≠ .int q j) → K (s.put d (mres ok z false))) : aop1 P own ⟨d, .mget q z ok x i, none⟩ s K :=
  ⟨r, es, clock, j, hx, hr, hi, hkeys, h1, h2⟩
/-- A map's entry is written: one that it has, and a new one. -/
theorem m_mput {r : Nat} {q : IntKind} {es : Array MapEntry} {clock : Nat} {j : Int} {v : Value} (hx : s.ev x = .mp r) (hr : s.hp r = some (true, [.ob (.map es clock)])) (hi : s.ev i = .v (.int q j)) (hy : s.ev y = .v v) (hkeys : ∀ e ∈ es.toList, ∃ n, e.key = .int q n)
    (h1 : ∀ (n : Nat) (e : MapEntry), es.toList[n]? = some e → e.key = .int q j → K (s.mem r (true, [.ob (.map (es.modify n fun e => { e with key := .int q j, val := v }) clock)])))
    (h2 : (∀ e ∈ es.toList, e.key ≠ .int q j) → K (s.mem r (true, [.ob (.map (es.push { key := .int q j, val := v, born := clock }) (clock + 1))]))) : aop1 P own ⟨none, .mput q x i y, none⟩ s K :=
  ⟨r, es, clock, j, v, hx, hr, hi, hy, hkeys, h1, h2⟩
end
end Go.Am
