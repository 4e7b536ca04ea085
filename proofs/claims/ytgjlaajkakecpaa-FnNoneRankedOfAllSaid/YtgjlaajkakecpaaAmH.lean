/- The abstract machine, part eight: append, variables, struct and slice literals. -/
import Derived.Test.YtgjlaajkakecpaaAmG
import Derived.Lib.AppendZerosOnto
namespace Go.Am
variable {P : Program} {w0 w : World} {mu : Nat → Option Nat} {N : Nat} {s : AS} {o : Oper} {a : Act} {phi : Nat → Option Nat} {ro : Nat → Prop} {K : AS → Prop} {Q : Exit → Act → World → Prop} {own : Bool}

/-- A slice's cells, in the model: read alike in every world of the same heap. -/
theorem elems_sim (h : Sim w0 mu N s a.tmps w phi ro) {z m : Nat} {x : AV} {ys : List AV} (he : Elems s.hp z x m ys) {y : Value} (hx : SimV x (ctx w0 w ro phi s) y) :
    ∃ yb yc news, y = .slice yb m yc ∧ news.length = m * z ∧ ys.length = m * z ∧ SimL ys (ctx w0 w ro phi s) news ∧ ∀ w'' : World, w''.heap = w.heap → (Builtin.firstCells z m y).run P w'' = .ok news.toArray w'' := by
  have block : ∀ (b o' cap : Nat) (cur : Array Value) (e : TypeId) (fz : Nat × Nat), w.heap[b]? = some (.cells cur e fz) → o' + m * z ≤ cur.size → y = .slice (some ⟨b, o', none⟩) m cap → ys.length = m * z →
      SimL ys (ctx w0 w ro phi s) ((cur.toList.drop o').take (m * z)) →
      ∃ yb yc news, y = .slice yb m yc ∧ news.length = m * z ∧ ys.length = m * z ∧ SimL ys (ctx w0 w ro phi s) news ∧ ∀ w'' : World, w''.heap = w.heap → (Builtin.firstCells z m y).run P w'' = .ok news.toArray w'' := by
    intro b o' cap cur e fz hb hle hy hys hs
    have hl : ((cur.toList.drop o').take (m * z)).length = m * z := by simp; omega
    refine ⟨_, cap, _, hy, hl, hys, hs, fun w'' hw => ?_⟩
    rw [hy]
    refine run_firstCells_some (P := P) w'' z m _ m cap _ hl fun j v hj => ?_
    rw [addr_add, cell_of_row w'' b (o' + j) cur e fz (by rw [hw]; exact hb)]
    rw [List.getElem?_take] at hj
    split at hj
    · rw [List.getElem?_drop] at hj
      simpa using hj
    · cases hj
  cases he with
  | ro fr cs n =>
    simp only [SimV] at hx
    rcases hx with ⟨rfl, rfl, ad, c, hy, _⟩ | ⟨b, o', cap, cur, e, fz, hy, hcell, hro, hlen, hnc, _, hs⟩
    · refine ⟨ad, c, [], hy, by simp, by simp, by simp [SimL], fun w'' _ => ?_⟩
      rw [hy]
      cases ad <;> simp [Builtin.firstCells, loadCells, loadCellsFrom]
    · have hle := hs.length_le
      have hcell' : w.heap[b]? = some (.cells cur e fz) := hcell
      simp only [List.length_drop, Array.length_toList] at hle
      by_cases hoc : o' ≤ cur.size
      · exact block b o' cap cur e fz hcell' (by omega) hy hlen (SimL.mono _ _ _ _ (out_le _) (hs.shorter _ (by omega)))
      · have hm : m * z = 0 := by omega
        have hcs : ys = [] := List.eq_nil_of_length_eq_zero (by omega)
        refine ⟨_, cap, [], hy, by simp [hm], hlen, by simp [hcs, SimL], fun w'' _ => ?_⟩
        rw [hy]
        simp [Builtin.firstCells, hm, loadCells, loadCellsFrom]
  | nil =>
    simp only [SimV] at hx
    refine ⟨none, 0, [], hx, by simp, by simp, by simp [SimL], fun w'' _ => ?_⟩
    rw [hx]
    simp [Builtin.firstCells]
  | sl r off n fl cs hr hl =>
    simp only [SimV] at hx
    obtain ⟨_, _, hx⟩ := hx
    rcases hx with ⟨hp, rfl, rfl, hy⟩ | ⟨b, o', cap, cur, e, hb, hy, hcell, hoff, hcap, hml, hroom⟩
    · refine ⟨none, 0, [], hy, by simp, by simp, by simp [SimL], fun w'' _ => ?_⟩
      rw [hy]
      simp [Builtin.firstCells]
    · obtain ⟨cur2, e2, hcell2, hsim, _⟩ := h.cell hr hb hcell
      have hcell' : w.heap[b]? = some (.cells cur e (0, 0)) := hcell
      rw [hcell'] at hcell2
      cases hcell2
      have hmz : m * z ≤ cap * z := Nat.mul_le_mul_right _ hcap
      by_cases hm : m * z = 0
      · refine ⟨_, cap, [], hy, by simp [hm], by simp [hm], by simp [hm, SimL], fun w'' _ => ?_⟩
        rw [hy]
        simp [Builtin.firstCells, hm, loadCells, loadCellsFrom]
      · have ho : o' = off := by
          rcases hoff with h1 | h1
          · exact h1
          · exact absurd (by rw [h1.1, Nat.zero_mul]) hm
        subst ho
        refine block b o' cap cur e (0, 0) hcell' (by omega) hy (by simp; omega) ?_
        exact ((hsim.list.drop o').take (m * z)).shorter _ (by simp; omega)

theorem run_append_room' {t ty e : TypeId} {i : TypeInfo} (ht : P.underlying t = some (.slice e)) (hi : P.info? e = some i) {g sLen sCap : Nat} {cur : Array Value} (hg : w.heap[g]? = some (.cells cur e (0, 0)))
    {yb : Option Addr} {m c : Nat} {news : List Value} (hf : ∀ w'' : World, w''.heap = w.heap → (Builtin.firstCells i.size m (.slice yb m c)).run P w'' = .ok news.toArray w'') (h1 : ∀ u ∈ news, u.oneCell' = true)
    (hroom : sLen + m ≤ sCap) (hfit : sLen * i.size + news.length ≤ cur.size) :
    (Builtin.append_ #[t, t] ty #[.slice (some ⟨g, 0, none⟩) sLen sCap, .slice yb m c]).run P w =
      .ok (.slice (some ⟨g, 0, none⟩) (sLen + m) sCap) (w.setRow g (cur.toList.take (sLen * i.size) ++ news ++ cur.toList.drop (sLen * i.size + news.length)).toArray) := by
  have hst := run_storeCells_at P g (sLen * i.size) e news 0 cur w hg (by simpa using hfit) h1
  simp only [Nat.add_zero] at hst
  simp [Builtin.append_, run_underlying ht, sizeOf, typeInfo, hi, Builtin.lenOf, hroom, hf w rfl, Addr.add_lit, hst]

theorem run_append_nil0 {t ty e : TypeId} {i : TypeInfo} (ht : P.underlying t = some (.slice e)) (hi : P.info? e = some i) {yb : Option Addr} {c : Nat} {news : List Value}
    (hf : ∀ w'' : World, w''.heap = w.heap → (Builtin.firstCells i.size 0 (.slice yb 0 c)).run P w'' = .ok news.toArray w'') :
    (Builtin.append_ #[t, t] ty #[.slice none 0 0, .slice yb 0 c]).run P w = .ok (.slice none 0 0) w := by
  simp [Builtin.append_, run_underlying ht, sizeOf, typeInfo, hi, Builtin.lenOf, hf w rfl]

theorem run_append_grow' {t ty e : TypeId} {i : TypeInfo} {z : Value} (ht : P.underlying t = some (.slice e)) (hi : P.info? e = some i) (hz : i.zero = some z)
    {sb : Option Addr} {sLen sCap : Nat} {olds : List Value} (hfo : ∀ w'' : World, w''.heap = w.heap → (Builtin.firstCells i.size sLen (.slice sb sLen sCap)).run P w'' = .ok olds.toArray w'')
    {yb : Option Addr} {m c : Nat} {news : List Value} (hf : ∀ w'' : World, w''.heap = w.heap → (Builtin.firstCells i.size m (.slice yb m c)).run P w'' = .ok news.toArray w'')
    (hg : sCap < sLen + m) (h63 : ((sLen + m : Nat) : Int) ≤ 9223372036854775807) (hfit : Builtin.nextslicecap (sLen + m) sCap * i.bytes ≤ 281474976710656) :
    (Builtin.append_ #[t, t] ty #[.slice sb sLen sCap, .slice yb m c]).run P w =
      .ok (.slice (some ⟨w.heap.size, 0, none⟩) (sLen + m) (grownCap w (sLen + m) sCap e))
        (w.drew.alloc (.cells (olds.toArray ++ news.toArray ++ Builtin.zeroCells z.cells (grownCap w (sLen + m) sCap e - (sLen + m))) e)) := by
  have hn : ¬ (sLen + m ≤ sCap) := by omega
  have h63' : ¬ (9223372036854775807 < ((sLen : Int) + (m : Int))) := by omega
  have h48' : ¬ (281474976710656 < Builtin.nextslicecap (sLen + m) sCap * i.bytes) := by omega
  simp [Builtin.append_, run_underlying ht, sizeOf, typeInfo, zeroValue, hi, hz, Builtin.lenOf, hn, h63', h48', Question.forced, hf w.drew rfl, hfo w.drew rfl, newRow, grownCap]
  congr 2
  apply Array.ext'
  simp [List.append_assoc]

theorem SimR.append {fl : Bool} {cs ys : List AV} {C : Ctx} {xs news : List Value} (h : SimR (fl, cs) C xs) (hx : xs.length = cs.length) (hy : SimL ys C news) (hok : ys.all (cellOk fl) = true) : SimR (fl, cs ++ ys) C (xs ++ news) := by
  unfold SimR at *
  have hy' := cellOk_simL hok hy
  cases fl
  · exact SimL.append h hx hy'
  · exact SimL.append h hx hy'

theorem SimR.pre {c : Bool × List AV} {C : Ctx} {xs ys : List Value} (h : SimR c C xs) : SimR c C (xs ++ ys) := by
  unfold SimR at *
  exact SimL.longer h

theorem SimR.shorter {c : Bool × List AV} {C : Ctx} {xs : List Value} (h : SimR c C xs) (k : Nat) (hk : c.2.length ≤ k) : SimR c C (xs.take k) := by
  unfold SimR at *
  exact SimL.shorter h k hk

theorem ok_app {x y : Operand} {t e : TypeId} {i : TypeInfo} {z : Value} (ho : o.op = .call { callee := .builtin .append, args := #[x, y], argTypes := #[t, t] }) (ht : P.underlying t = some (.slice e))
    (hi : P.info? e = some i) (hz : i.zero = some z) (hzs : z.cells.size = i.size)
    (hf : a.defers = []) (h : Sim w0 mu N s a.tmps w phi ro) (hd : ∀ k, o.dst = some k → k < N)
    (hK : aexec P own (.app i.size i.bytes (opd x) (opd y)) o.dst s K) : o.wp P a w (After w0 mu N K) Q := by
  rcases hK with ⟨q, r, n, m, fl, cs, ys, hq, hxe, hpb, hr, hcs, hel, hok, hml, hby, hK⟩ | ⟨q, n, m, cs, ys, hq, hxe, hel, hm0, hok, hml, hby, hK⟩
  case inr =>
    have hx := h.ev x
    have hy := h.ev y
    rw [hxe] at hx
    obtain ⟨yb, yc, news, hyv, hnl, hyl, hys, hread⟩ := elems_sim (P := P) h hel hy
    rw [hyv] at hread
    have hx' : SimV (.ro false i.size cs n) (ctx w0 w ro phi s) (a.eval x) ∧ ∃ ad, a.eval x = .slice ad n n := by
      simp only [SimV] at hx ⊢
      rcases hx with ⟨rfl, rfl, ad, hv⟩ | ⟨b, o', cur, e', fz, hv, h1, h2, h3, h4⟩
      · exact ⟨.inl ⟨rfl, rfl, ad, 0, hv, fun e => by cases e⟩, ad, hv⟩
      · exact ⟨.inr ⟨b, o', n, cur, e', fz, hv, h1, h2, h3, Nat.le_refl _, (fun e => by cases e), h4⟩, _, hv⟩
    obtain ⟨hxr, ad, hxv⟩ := hx'
    obtain ⟨xb, xc, olds, hxv', hol, hcl, hos, hreadx⟩ := elems_sim (P := P) h (Elems.ro (hp := s.hp) false cs n) hxr
    rw [hxv] at hxv' hreadx
    have hlt : n < n + m := by omega
    have h63 : ((n + m : Nat) : Int) ≤ 9223372036854775807 := by simp only [maxLen] at hml; omega
    have hrun := run_append_grow' (P := P) (w := w) (ty := o.type) ht hi hz hreadx hread hlt h63 (growslice_fits hlt hby)
    have hge := grownCap_ge w (n + m) n e
    have hcm := grownCap_le_maxLen w (n + m) n e hml
    have hos' : SimL cs (ctx w0 w ro phi s).out olds := by
      simp only [SimV] at hxr
      rcases hxr with ⟨rfl, rfl, _⟩ | ⟨b, o', cap, cur, e', fz, hv, h1, h2, h3, _, _, h4⟩
      · simp [SimL]
      · rw [hxv] at hv
        cases hv
        have hh := hreadx w rfl
        have hle := h4.length_le
        simp only [List.length_drop, Array.length_toList] at hle
        have hl2 : ((cur.toList.drop o').take (n * i.size)).length = n * i.size := by simp; omega
        have h1' : w.heap[b]? = some (.cells cur e' fz) := h1
        have hh2 := run_firstCells_some (P := P) w i.size n (⟨b, o', none⟩ : Addr) n n _ hl2 fun j v hj => by
          rw [addr_add, cell_of_row w b (o' + j) cur e' fz h1']
          rw [List.getElem?_take] at hj
          split at hj
          · rw [List.getElem?_drop] at hj; simpa using hj
          · cases hj
        rw [hh2] at hh
        cases hh
        exact h4.shorter _ (by omega)
    have hsim : SimR (true, cs ++ ys) (ctx w0 w ro phi s) (olds.toArray ++ news.toArray ++ Builtin.zeroCells z.cells (grownCap w (n + m) n e - (n + m))).toList := by
      simp only [Array.toList_append]
      exact (SimR.append (fl := true) (by simpa only [SimR, if_true] using hos') (by omega) hys hok).pre
    obtain ⟨phi', hp, h1⟩ := h.new (more_drew_alloc w _) q (Nat.lt_of_lt_of_le (hd q hq) h.npb) _ (Nat.le_refl _) (heap_alloc_new w.drew (.cells _ e)) hsim
    refine wp_value (v := .slice (some ⟨w.heap.size, 0, none⟩) (n + m) (grownCap w (n + m) n e)) (w' := _) ?_ (After.put hf h1 hd ?_ hK)
    · simp [execOp, ho, resolve, invoke, builtin, hyv, hxv, hrun]
    · simp only [SimV]
      refine ⟨rfl, by simp [ctx, AS.mem], .inr ⟨_, 0, _, _, e, hp, rfl, heap_alloc_new w.drew (.cells _ e), .inl rfl, hge, hcm, ?_⟩⟩
      simp only [Array.size_append, List.size_toArray, size_zeroCells, hzs, hol, hnl, ← Nat.add_mul]
      rw [Nat.zero_add]
      exact Nat.mul_le_mul_right _ (by omega)
  have hx := h.ev x
  have hy := h.ev y
  rw [hxe] at hx
  obtain ⟨yb, yc, news, hyv, hnl, hyl, hys, hread⟩ := elems_sim (P := P) h hel hy
  rw [hyv] at hread
  have hone := cellOk_oneL hok hys (by omega)
  have fin : ∀ (v : Value) (w' : World) (phi' : Nat → Option Nat), (Builtin.append_ #[t, t] o.type #[a.eval x, .slice yb m yc]).run P w = .ok v w' →
      Sim w0 mu N (((s.kill r).kill q).mem q (killR q (killR r (fl, cs ++ ys)))) a.tmps w' phi' ro → SimV (.sl q i.size 0 (n + m)) (ctx w0 w' ro phi' (((s.kill r).kill q).mem q (killR q (killR r (fl, cs ++ ys))))) v →
      o.wp P a w (After w0 mu N K) Q := by
    intro v w' phi' hrun hS hv
    refine wp_value (v := v) (w' := w') ?_ (After.put hf hS hd hv hK)
    simp [execOp, ho, resolve, invoke, builtin, hyv, hrun]
  have hlive : (ctx w0 w ro phi (((s.kill r).kill q).mem q (killR q (killR r (fl, cs ++ ys))))).live q = true := by simp [ctx, AS.mem]
  have hkill : ∀ cur : List Value, SimR (fl, cs ++ ys) (ctx w0 w ro phi s) cur → SimR (killR r (fl, cs ++ ys)) (ctx w0 w ro phi (s.kill r)) cur := by
    intro cur hc
    refine hc.kill ⟨fun b hb => ⟨hb, rfl⟩, Nat.le_refl _, id, fun _ p hp hl => ⟨?_, rfl⟩, fun _ p b cur e _ _ _ hb => ⟨cur, hb, Nat.le_refl _⟩⟩
    have hpr : p ≠ r := by simpa using hp
    simpa [ctx, AS.kill, hpr] using hl
  simp only [SimV] at hx
  obtain ⟨_, _, hx⟩ := hx
  -- the new block, wherever the old cells lay
  have grow : ∀ (sb : Option Addr) (sc : Nat) (olds : List Value), a.eval x = .slice sb n sc → olds.length = n * i.size → SimR (fl, cs) (ctx w0 w ro phi s) olds →
      (∀ w'' : World, w''.heap = w.heap → (Builtin.firstCells i.size n (.slice sb n sc)).run P w'' = .ok olds.toArray w'') → sc < n + m → o.wp P a w (After w0 mu N K) Q := by
    intro sb sc olds hxv hol hos hro hlt
    have h63 : ((n + m : Nat) : Int) ≤ 9223372036854775807 := by simp only [maxLen] at hml; omega
    have hrun := run_append_grow' (P := P) (w := w) (ty := o.type) ht hi hz hro hread hlt h63 (growslice_fits hlt hby)
    have hge := grownCap_ge w (n + m) sc e
    have hcm := grownCap_le_maxLen w (n + m) sc e hml
    have hsim : SimR (fl, cs ++ ys) (ctx w0 w ro phi s) (olds.toArray ++ news.toArray ++ Builtin.zeroCells z.cells (grownCap w (n + m) sc e - (n + m))).toList := by
      simp only [Array.toList_append]
      exact (SimR.append hos (by omega) hys hok).pre
    obtain ⟨phi', hp, h1⟩ := (h.kill r).new (more_drew_alloc w _) q (Nat.lt_of_lt_of_le (hd q hq) h.npb) _ (Nat.le_refl _) (heap_alloc_new w.drew (.cells _ e)) (hkill _ hsim)
    refine fin _ _ phi' (by rw [hxv]; exact hrun) h1 ?_
    simp only [SimV]
    refine ⟨rfl, by simp [ctx, AS.mem], .inr ⟨_, 0, _, _, e, hp, rfl, heap_alloc_new w.drew (.cells _ e), .inl rfl, hge, hcm, ?_⟩⟩
    simp only [Array.size_append, List.size_toArray, size_zeroCells, hzs, hol, hnl, ← Nat.add_mul]
    rw [Nat.zero_add]
    exact Nat.mul_le_mul_right _ (by omega)
  rcases hx with ⟨hp, _, rfl, hxv⟩ | ⟨b, o', cap, cur, e', hb, hxv, hcell, hoff, hcap, hcm, hroom⟩
  · have hcs0 : cs = [] := List.eq_nil_of_length_eq_zero (by omega)
    subst hcs0
    by_cases hm : m = 0
    · subst hm
      have hys0 : ys = [] := List.eq_nil_of_length_eq_zero (by omega)
      subst hys0
      have hS := ((h.kill r).kill q).born (kill_hp _ q) (Nat.lt_of_lt_of_le (hd q hq) h.npb) (killR q (killR r (fl, []))) none (by cases fl <;> simp [killR, killL])
      refine fin (.slice none 0 0) w _ ?_ hS ?_
      · rw [hxv]
        exact run_append_nil0 ht hi hread
      · simp only [SimV]
        exact ⟨rfl, by simp [ctx, AS.mem], .inl (by simp [ctx])⟩
    · refine grow none 0 [] hxv (by simp) (by simp [SimR, SimL]) (fun w'' _ => by simp [Builtin.firstCells]) (by omega)
  · have ho' : o' = 0 := by
      rcases hoff with h1 | h1
      · exact h1
      · exact absurd h1.2 (Nat.lt_irrefl _)
    subst ho'
    obtain ⟨cur2, e2, hcell2, hsim, _⟩ := h.cell hr hb hcell
    have hcell' : w.heap[b]? = some (.cells cur e' (0, 0)) := hcell
    rw [hcell'] at hcell2
    cases hcell2
    have hlen := hsim.list.length_le
    simp only [Array.length_toList] at hlen
    by_cases hrm : n + m ≤ cap
    · have hfit : n * i.size + news.length ≤ cur.size := by
        have : (n + m) * i.size ≤ cap * i.size := Nat.mul_le_mul_right _ hrm
        rw [Nat.add_mul] at this
        omega
      have hst := run_storeCells_at P b (n * i.size) e' news 0 cur w hcell' (by simpa using hfit) hone
      simp only [Nat.add_zero] at hst
      have hrun : (Builtin.append_ #[t, t] o.type #[.slice (some ⟨b, 0, none⟩) n cap, .slice yb m yc]).run P w =
          .ok (.slice (some ⟨b, 0, none⟩) (n + m) cap) (w.setRow b (cur.toList.take (n * i.size) ++ news ++ cur.toList.drop (n * i.size + news.length)).toArray) := by
        simp [Builtin.append_, run_underlying ht, sizeOf, typeInfo, hi, Builtin.lenOf, hrm, hread w rfl, Addr.add_lit, hst]
      have hsz : cur.size = (cur.toList.take (n * i.size) ++ news ++ cur.toList.drop (n * i.size + news.length)).toArray.size := by simp; omega
      have hsim' : SimR (fl, cs ++ ys) (ctx w0 w ro phi s) (cur.toList.take (n * i.size) ++ news ++ cur.toList.drop (n * i.size + news.length)).toArray.toList :=
        (SimR.append (hsim.shorter (n * i.size) (by show cs.length ≤ _; omega)) (by simp; omega) hys hok).pre
      have h1 := h.write hr hb hcell' (setRow_heap w b cur _ e' _ hcell') hsz (fun k hk _ => setRow_other w b k _ hk) rfl rfl rfl (by simp) hsim'
      obtain ⟨phi', hp', h2⟩ := h1.rename (r := r) (q := q) (c := (fl, cs ++ ys)) (by simp [AS.mem]) hpb (Nat.lt_of_lt_of_le (hd q hq) h.npb) hb
      rw [kill_mem] at h2
      refine fin _ _ phi' (by rw [hxv]; exact hrun) h2 ?_
      simp only [SimV]
      refine ⟨rfl, by simp [ctx, AS.mem], .inr ⟨b, 0, cap, _, e', hp', rfl, setRow_heap w b cur _ e' _ hcell', .inl rfl, hrm, hcm, ?_⟩⟩
      rw [← hsz]
      exact hroom
    · have hle : n * i.size ≤ cur.size := by omega
      refine grow _ cap (cur.toList.take (n * i.size)) hxv (by simp; omega) (hsim.shorter _ (by show cs.length ≤ _; omega)) (fun w'' hw => ?_) (by omega)
      have hl : (cur.toList.take (n * i.size)).length = n * i.size := by simp; omega
      refine run_firstCells_some (P := P) w'' i.size n _ n cap _ hl fun j v hj => ?_
      rw [addr_add, cell_of_row w'' b (0 + j) cur e' (0, 0) (by rw [hw]; exact hcell')]
      rw [List.getElem?_take] at hj
      split at hj
      · simpa using hj
      · cases hj
/-- As many zero values as told, put behind a nil slice. -/
theorem ok_appz {x y : Operand} {t u e : TypeId} {i : TypeInfo} {z : Value} {kn : IntKind} (ho : o.op = .call { callee := .builtin .append, args := #[x, y], argTypes := #[t, u] }) (ht : P.underlying t = some (.slice e))
    (hu : P.underlying u = some (.int kn)) (hi : P.info? e = some i) (hz : i.zero = some z) (hzs : z.cells.size = i.size) (hpos : 0 < i.size)
    (hf : a.defers = []) (h : Sim w0 mu N s a.tmps w phi ro) (hd : ∀ k, o.dst = some k → k < N)
    (hK : aexec P own (.appz i.size i.bytes z.cells.toList (opd x) (opd y)) o.dst s K) : o.wp P a w (After w0 mu N K) Q := by
  obtain ⟨r, kl, m, hr, hxe, hye, hm, hml, hby, hK⟩ := hK
  have hx := h.ev x
  have hy := h.ev y
  rw [hxe] at hx
  rw [hye] at hy
  simp only [SimV] at hx hy
  have hlt : (0 : Nat) < 0 + m := by omega
  have h63 : ((0 + m : Nat) : Int) ≤ 9223372036854775807 := by simp only [maxLen] at hml; omega
  have hrun := Lib.run_append_grow_zeros (P := P) w t u o.type e i z kl kn ht hu hi hz none 0 0 [] (by simp [Builtin.firstCells]) m hm hpos hlt h63 (by omega) (growslice_fits hlt (by simpa using hby))
  have hge := grownCap_ge w (0 + m) 0 e
  have hcm := grownCap_le_maxLen w (0 + m) 0 e (by simpa using hml)
  have hzc : Builtin.zeroCells z.cells m = ((List.replicate m z.cells.toList).flatten).toArray := by
    have := made_flat z.cells.toList m
    rw [Array.length_toList] at this
    simpa [madeCells, Builtin.zeroCells] using this
  have hsim : SimR (true, (List.replicate m (z.cells.toList.map AV.v)).flatten) (ctx w0 w ro phi s) (([] : List Value).toArray ++ Builtin.zeroCells z.cells m ++ Builtin.zeroCells z.cells (grownCap w (0 + m) 0 e - (0 + m))).toList := by
    rw [hzc]
    simp only [Array.toList_append, List.nil_append]
    refine SimR.pre ?_
    simp only [SimR, if_true]
    exact replicate_flatten_prefix _ _ _ (Nat.le_refl _)
  obtain ⟨phi', hp, h1⟩ := h.new (more_drew_alloc w _) r (Nat.lt_of_lt_of_le (hd r hr) h.npb) _ (Nat.le_refl _) (heap_alloc_new w.drew (.cells _ e)) hsim
  refine wp_value (v := .slice (some ⟨w.heap.size, 0, none⟩) (0 + m) (grownCap w (0 + m) 0 e)) (w' := _) ?_ (After.put hf h1 hd ?_ hK)
  · simp [execOp, ho, resolve, invoke, builtin, hx, hy, hrun]
  · rw [Nat.zero_add] at hge hcm ⊢
    simp only [SimV]
    refine ⟨rfl, by simp [ctx, AS.mem], .inr ⟨_, 0, _, _, e, hp, rfl, heap_alloc_new w.drew (.cells _ e), .inl rfl, hge, hcm, ?_⟩⟩
    simp only [Array.size_append, List.size_toArray, size_zeroCells, hzs, List.length_nil, Nat.zero_add, ← Nat.add_mul]
    exact Nat.mul_le_mul_right _ (by omega)
end Go.Am
