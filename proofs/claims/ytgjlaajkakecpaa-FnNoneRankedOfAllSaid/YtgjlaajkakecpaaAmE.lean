/- The abstract machine, part five: each operation does to the model's state what it does to the abstract one. First those that make and write no memory. -/
import Derived.Test.YtgjlaajkakecpaaAmD
namespace Go.Am
variable {P : Program} {w0 w : World} {mu : Nat → Option Nat} {N : Nat} {s : AS} {o : Oper} {a : Act} {phi : Nat → Option Nat} {ro : Nat → Prop} {K : AS → Prop} {Q : Exit → Act → World → Prop} {own : Bool}

theorem ok_mov {x : Operand} (ho : o.op = .move x ∨ o.op = .assign x) (hf : a.defers = []) (h : Sim w0 mu N s a.tmps w phi ro) (hd : ∀ k, o.dst = some k → k < N)
    (hK : aexec P own (.mov (opd x)) o.dst s K) : o.wp P a w (After w0 mu N K) Q := by
  refine wp_value (v := a.eval x) (w' := w) ?_ (After.put hf h hd (h.ev x) hK)
  rcases ho with ho | ho <;> simp [execOp, ho]

theorem ok_nils {z : Nat} (ho : o.op = .move (.const (.slice none 0 0)) ∨ o.op = .assign (.const (.slice none 0 0))) (hf : a.defers = []) (h : Sim w0 mu N s a.tmps w phi ro) (hd : ∀ k, o.dst = some k → k < N)
    (hK : aexec P own (.nils z) o.dst s K) : o.wp P a w (After w0 mu N K) Q := by
  rcases hK with hK | ⟨r, hr, hK⟩
  · refine wp_value (v := .slice none 0 0) (w' := w) ?_ (After.put hf h hd ?_ hK)
    · rcases ho with ho | ho <;> simp [execOp, ho, Act.eval]
    · simp [SimV]
  have h1 := (h.kill r).born (kill_hp s r) (Nat.lt_of_lt_of_le (hd r hr) h.npb) (true, []) none rfl
  refine wp_value (v := .slice none 0 0) (w' := w) ?_ (After.put hf h1 hd ?_ hK)
  · rcases ho with ho | ho <;> simp [execOp, ho, Act.eval]
  · simp [SimV, ctx, AS.mem]

theorem ok_pick {c x y : Operand} (ho : o.op = .pick c x y) (hf : a.defers = []) (h : Sim w0 mu N s a.tmps w phi ro) (hd : ∀ k, o.dst = some k → k < N)
    (hK : aexec P own (.pick (opd c) (opd x) (opd y)) o.dst s K) : o.wp P a w (After w0 mu N K) Q := by
  obtain ⟨t, ht, h1, h2⟩ := hK
  have hc := h.ev c
  rw [ht] at hc
  simp only [SimV] at hc
  cases t
  · exact wp_value (v := a.eval y) (w' := w) (by simp [execOp, ho, hc, asBool]) (After.put hf h hd (h.ev y) (h2 rfl))
  · exact wp_value (v := a.eval x) (w' := w) (by simp [execOp, ho, hc, asBool]) (After.put hf h hd (h.ev x) (h1 rfl))

theorem ok_not {t : TypeId} {x : Operand} (ho : o.op = .unOp .not t x) (hf : a.defers = []) (h : Sim w0 mu N s a.tmps w phi ro) (hd : ∀ k, o.dst = some k → k < N)
    (hK : aexec P own (.not (opd x)) o.dst s K) : o.wp P a w (After w0 mu N K) Q := by
  obtain ⟨b, hb, hK⟩ := hK
  have hx := h.ev x
  rw [hb] at hx
  simp only [SimV] at hx
  exact wp_value (v := .bool !b) (w' := w) (by simp [execOp, ho, hx, Op.unary]) (After.put hf h hd (by simp [SimV]) hK)

theorem ok_neg {t : TypeId} {x : Operand} (ho : o.op = .unOp .neg t x) (hf : a.defers = []) (h : Sim w0 mu N s a.tmps w phi ro) (hd : ∀ k, o.dst = some k → k < N)
    (hK : aexec P own (.neg (opd x)) o.dst s K) : o.wp P a w (After w0 mu N K) Q := by
  obtain ⟨k, n, hb, hK⟩ := hK
  have hx := h.ev x
  rw [hb] at hx
  simp only [SimV] at hx
  exact wp_value (v := .int k (k.wrap (0 - n))) (w' := w) (by simp [execOp, ho, hx, Op.unary, Op.intArith]) (After.put hf h hd (by simp [SimV]) hK)

theorem run_pbin {op : BinOp} {t : TypeId} {x y r : Value} (h : pbin op x y = some r) (w : World) : (binOp op t x y).run P w = .ok r w := by
  unfold pbin at h
  split at h
  · rename_i k a k' b
    split at h
    · cases h
    · rename_i hb
      cases h
      simp [binOp, Op.shift, hb]
  · rename_i k a k' b
    split at h
    · cases h
    · rename_i hb
      cases h
      simp [binOp, Op.shift, hb]
  · rename_i k a k' b _ _
    split at h
    · rename_i hk
      subst hk
      cases op <;> simp at h <;> first
        | (obtain ⟨hb, rfl⟩ := h; simp [binOp, Op.intDiv, hb]; done)
        | (subst h; simp [binOp, Op.intArith, Op.intCmp, Op.intBits]; done)
    · cases h
  · rename_i a b
    cases op <;> simp at h
    case add =>
      obtain ⟨hb, rfl⟩ := h
      have h2 : ¬ (9223372036854775807 < (a.size : Int) + (b.size : Int)) := by omega
      simp [binOp, Op.stringOp, IntKind.max, IntKind.signed, IntKind.bits, h2]
    all_goals (subst h; simp [binOp, Op.stringOp])
  · cases h

theorem ok_bin {op : BinOp} {t u : TypeId} {x y : Operand} (ho : o.op = .binOp op t x y u) (hf : a.defers = []) (h : Sim w0 mu N s a.tmps w phi ro) (hd : ∀ k, o.dst = some k → k < N)
    (hK : aexec P own (.bin op (opd x) (opd y)) o.dst s K) : o.wp P a w (After w0 mu N K) Q := by
  obtain ⟨p, q, r, hp, hq, hr, hK⟩ := hK
  have hx := h.ev x
  have hy := h.ev y
  rw [hp] at hx
  rw [hq] at hy
  simp only [SimV] at hx hy
  have hg : (eqGuard op t x y p q).run P w = .ok () w := by
    unfold pbin at hr
    split at hr
    · unfold eqGuard; split <;> simp
    · unfold eqGuard; split <;> simp
    · unfold eqGuard; split <;> simp
    · unfold eqGuard; split <;> simp
    · cases hr
  refine wp_value (v := r) (w' := w) ?_ (After.put hf h hd (by simp [SimV]) hK)
  simp only [execOp, ho, hx, hy, Sem.run_bind, hg, Result.andThen_ok, run_pbin hr, Sem.run_pure]

theorem run_equal_bool {t : TypeId} (ht : P.underlying t = some .bool) (p q : Bool) (w : World) : (Op.equal t (.bool p) (.bool q)).run P w = .ok (p == q) w := by
  show (Op.equalIn (9999 + 1) t (.bool p) (.bool q)).run P w = _
  rw [Op.equalIn]
  simp [run_underlying ht]

theorem ok_beq {op : BinOp} {ne : Bool} {t u : TypeId} {x y : Operand} (ho : o.op = .binOp op t x y u) (hop : op = if ne then .neq else .eql) (ht : P.underlying t = some .bool)
    (hf : a.defers = []) (h : Sim w0 mu N s a.tmps w phi ro) (hd : ∀ k, o.dst = some k → k < N)
    (hK : aexec P own (.beq ne (opd x) (opd y)) o.dst s K) : o.wp P a w (After w0 mu N K) Q := by
  obtain ⟨p, q, hp, hq, hK⟩ := hK
  have hx := h.ev x
  have hy := h.ev y
  rw [hp] at hx
  rw [hq] at hy
  simp only [SimV] at hx hy
  have hg : (eqGuard op t x y (.bool p) (.bool q)).run P w = .ok () w := by unfold eqGuard; split <;> simp
  have hb : (binOp op t (.bool p) (.bool q)).run P w = .ok (.bool (ne ^^ (p == q))) w := by
    cases ne
    · simp only [Bool.false_eq_true, if_false] at hop
      subst hop
      show ((do pure (.bool (← Op.equal t (.bool p) (.bool q))) : Sem Value)).run P w = _
      rw [Sem.run_bind, run_equal_bool ht]
      simp
    · simp only [if_true] at hop
      subst hop
      show ((do pure (.bool (!(← Op.equal t (.bool p) (.bool q)))) : Sem Value)).run P w = _
      rw [Sem.run_bind, run_equal_bool ht]
      simp
  refine wp_value (v := .bool (ne ^^ (p == q))) (w' := w) ?_ (After.put hf h hd (by simp [SimV]) hK)
  simp only [execOp, ho, hx, hy, Sem.run_bind, hg, Result.andThen_ok, hb, Sem.run_pure]

theorem ok_len {x : Operand} {t e : TypeId} (ho : o.op = .call { callee := .builtin .len, args := #[x], argTypes := #[t] }) (ht : P.underlying t = some (.slice e))
    (hf : a.defers = []) (h : Sim w0 mu N s a.tmps w phi ro) (hd : ∀ k, o.dst = some k → k < N)
    (hK : aexec P own (.len (opd x)) o.dst s K) : o.wp P a w (After w0 mu N K) Q := by
  have hx := h.ev x
  have go : ∀ (n : Nat) (b : Option Addr) (c : Nat), a.eval x = .slice b n c → K (s.put o.dst (.v (.int .i64 n))) → o.wp P a w (After w0 mu N K) Q := by
    intro n b c hv hK
    refine wp_value (v := .int .i64 n) (w' := w) ?_ (After.put hf h hd (by simp [SimV]) hK)
    simp [execOp, ho, resolve, invoke, builtin, hv, Builtin.len_, run_underlying ht, goInt]
  rcases hK with ⟨r, z, off, n, he, hK⟩ | ⟨fr, z, cs, n, he, hK⟩ | ⟨ad, n, c, he, hK⟩
  · rw [he] at hx
    simp only [SimV] at hx
    rcases hx.2.2 with ⟨_, _, rfl, hy⟩ | ⟨b, o', cap, cur, e', _, hy, _⟩
    · exact go 0 _ _ hy hK
    · exact go n _ _ hy hK
  · rw [he] at hx
    simp only [SimV] at hx
    rcases hx with ⟨rfl, _, ad, c, hy, _⟩ | ⟨b, o', cap, cur, e', fz, hy, _⟩
    · exact go 0 _ _ hy hK
    · exact go n _ _ hy hK
  · rw [he] at hx
    simp only [SimV] at hx
    exact go n _ _ hx hK

theorem run_equal_nil {t e : TypeId} (ht : P.underlying t = some (.slice e)) (b : Option Addr) (n c : Nat) (w : World) : (Op.equal t (.slice b n c) (.slice none 0 0)).run P w = .ok b.isNone w := by
  show (Op.equalIn (9999 + 1) t (.slice b n c) (.slice none 0 0)).run P w = _
  rw [Op.equalIn]
  cases b <;> simp [run_underlying ht]

theorem ok_isnil {op : BinOp} {ne : Bool} {t u e : TypeId} {x : Operand} (ho : o.op = .binOp op t x (.const (.slice none 0 0)) u) (hop : op = if ne then .neq else .eql) (ht : P.underlying t = some (.slice e))
    (hf : a.defers = []) (h : Sim w0 mu N s a.tmps w phi ro) (hd : ∀ k, o.dst = some k → k < N)
    (hK : aexec P own (.isnil ne (opd x)) o.dst s K) : o.wp P a w (After w0 mu N K) Q := by
  have hx := h.ev x
  have hval : ∃ b n c, a.eval x = .slice b n c ∧ K (s.put o.dst (.v (.bool (ne ^^ b.isNone)))) := by
    rcases hK with ⟨c, he, hK⟩ | ⟨n, hv, hK1, hK2⟩
    · rw [he] at hx
      simp only [SimV] at hx
      exact ⟨_, _, _, hx, by simpa using hK⟩
    have hv2 : ∃ b c, a.eval x = .slice b n c ∧ (0 < n → b.isNone = false) := by
      rcases hv with ⟨r, z, off, he⟩ | ⟨fr, z, cs, he⟩ | ⟨rfl, c, he⟩
      · rw [he] at hx
        simp only [SimV] at hx
        rcases hx.2.2 with ⟨_, _, rfl, hy⟩ | ⟨b, o', cap, cur, e', _, hy, _⟩
        · exact ⟨_, _, hy, fun hn => by omega⟩
        · exact ⟨_, _, hy, fun _ => rfl⟩
      · rw [he] at hx
        simp only [SimV] at hx
        rcases hx with ⟨rfl, _, ad, c, hy, _⟩ | ⟨b, o', cap, cur, e', fz, hy, _⟩
        · exact ⟨_, _, hy, fun hn => by omega⟩
        · exact ⟨_, _, hy, fun _ => rfl⟩
      · rw [he] at hx
        simp only [SimV] at hx
        exact ⟨_, _, hx, fun hn => by omega⟩
    obtain ⟨b, c, hy, hn⟩ := hv2
    refine ⟨b, n, c, hy, ?_⟩
    by_cases h0 : n = 0
    · exact hK2 h0 _
    · rw [hn (by omega), Bool.xor_false]
      exact hK1 (by omega)
  obtain ⟨b, n, c, hy, hK⟩ := hval
  have hg : (eqGuard op t x (.const (.slice none 0 0)) (.slice b n c) (.slice none 0 0)).run P w = .ok () w := by unfold eqGuard; split <;> simp
  have hb : (binOp op t (.slice b n c) (.slice none 0 0)).run P w = .ok (.bool (ne ^^ b.isNone)) w := by
    cases ne
    · simp only [Bool.false_eq_true, if_false] at hop
      subst hop
      show ((do pure (.bool (← Op.equal t (.slice b n c) (.slice none 0 0))) : Sem Value)).run P w = _
      rw [Sem.run_bind, run_equal_nil ht]
      simp
    · simp only [if_true] at hop
      subst hop
      show ((do pure (.bool (!(← Op.equal t (.slice b n c) (.slice none 0 0)))) : Sem Value)).run P w = _
      rw [Sem.run_bind, run_equal_nil ht]
      simp
  have he2 : a.eval (.const (.slice none 0 0)) = .slice none 0 0 := rfl
  refine wp_value (v := .bool (ne ^^ b.isNone)) (w' := w) ?_ (After.put hf h hd (by simp [SimV]) hK)
  simp only [execOp, ho, hy, he2, Sem.run_bind, hg, Result.andThen_ok, hb, Sem.run_pure]

theorem ok_slen {x : Operand} {t : TypeId} (ho : o.op = .call { callee := .builtin .len, args := #[x], argTypes := #[t] }) (ht : P.underlying t = some .string)
    (hf : a.defers = []) (h : Sim w0 mu N s a.tmps w phi ro) (hd : ∀ k, o.dst = some k → k < N)
    (hK : aexec P own (.slen (opd x)) o.dst s K) : o.wp P a w (After w0 mu N K) Q := by
  have hx := h.ev x
  obtain ⟨b, he, hK⟩ := hK
  rw [he] at hx
  simp only [SimV] at hx
  refine wp_value (v := .int .i64 b.size) (w' := w) ?_ (After.put hf h hd (by simp [SimV]) hK)
  simp [execOp, ho, resolve, invoke, builtin, hx, Builtin.len_, run_underlying ht, goInt]

theorem ok_capn {x : Operand} {t e : TypeId} (ho : o.op = .call { callee := .builtin .cap, args := #[x], argTypes := #[t] }) (ht : P.underlying t = some (.slice e))
    (hf : a.defers = []) (h : Sim w0 mu N s a.tmps w phi ro) (hd : ∀ k, o.dst = some k → k < N)
    (hK : aexec P own (.capn (opd x)) o.dst s K) : o.wp P a w (After w0 mu N K) Q := by
  have hx := h.ev x
  obtain ⟨b, n, c, he, hK⟩ := hK
  rw [he] at hx
  simp only [SimV] at hx
  refine wp_value (v := .int .i64 (c : Nat)) (w' := w) ?_ (After.put hf h hd (by simp [SimV]) hK)
  simp [execOp, ho, resolve, invoke, builtin, hx, Builtin.cap_, run_underlying ht, goInt]

theorem run_idx_slice {t e : TypeId} {inf : TypeInfo} (ht : P.underlying t = some (.slice e)) (hi : P.info? e = some inf) (b o' n c : Nat) (k : IntKind) (j : Int) (h0 : 0 ≤ j) (h1 : j < n) (w : World) :
    (Instr.indexAt t (.slice (some ⟨b, o', none⟩) n c) (.int k j)).run P w = .ok (.pointer (some ⟨b, o' + j.toNat * inf.size, none⟩)) w := by
  simp [Instr.indexAt, asIntOf, run_underlying ht, sizeOf, typeInfo, hi, h0, h1, addr_add]

theorem ok_idx {x i : Operand} {t e : TypeId} {inf : TypeInfo} (ho : o.op = .indexAddr t x i) (ht : P.underlying t = some (.slice e)) (hi : P.info? e = some inf)
    (hf : a.defers = []) (h : Sim w0 mu N s a.tmps w phi ro) (hd : ∀ k, o.dst = some k → k < N)
    (hK : aexec P own (.idx inf.size (opd x) (opd i)) o.dst s K) : o.wp P a w (After w0 mu N K) Q := by
  obtain ⟨k, j, hj, h0, hK⟩ := hK
  have hx := h.ev x
  have hij := h.ev i
  rw [hj] at hij
  simp only [SimV] at hij
  rcases hK with ⟨r, off, n, he, h1, hK⟩ | ⟨fr, cs, n, he, h1, hK⟩
  · rw [he] at hx
    simp only [SimV] at hx
    obtain ⟨hc, hl, hx⟩ := hx
    rcases hx with ⟨_, _, rfl, _⟩ | ⟨b, o', cap, cur, e', hb, hy, hcell, hoff, hcap⟩
    · omega
    · have hoff' : o' = off := by
        rcases hoff with h2 | h2
        · exact h2
        · omega
      subst hoff'
      refine wp_value (v := .pointer (some ⟨b, o' + j.toNat * inf.size, none⟩)) (w' := w) ?_ (After.put hf h hd ?_ hK)
      · simp [execOp, ho, hy, hij, run_idx_slice ht hi _ _ _ _ _ _ h0 h1]
      · simp only [SimV]
        exact ⟨hc, hl, b, hb, rfl, cur, e', hcell⟩
  · rw [he] at hx
    simp only [SimV] at hx
    rcases hx with ⟨rfl, _, _⟩ | ⟨b, o', cap, cur, e', fz, hy, hcell, hro, hlen, _, _, hs⟩
    · omega
    · refine wp_value (v := .pointer (some ⟨b, o' + j.toNat * inf.size, none⟩)) (w' := w) ?_ (After.put hf h hd ?_ hK)
      · simp [execOp, ho, hy, hij, run_idx_slice ht hi _ _ _ _ _ _ h0 h1]
      · simp only [SimV]
        refine ⟨b, _, cur, e', fz, rfl, hcell, hro, ?_⟩
        have := hs.drop (j.toNat * inf.size)
        rwa [List.drop_drop] at this

theorem run_idx_array {t e : TypeId} {m : Nat} {inf : TypeInfo} (ht : P.underlying t = some (.array m e)) (hi : P.info? e = some inf) (b o' : Nat) (k : IntKind) (j : Int) (h0 : 0 ≤ j) (h1 : j < m) (w : World) :
    (Instr.indexAt t (.pointer (some ⟨b, o', none⟩)) (.int k j)).run P w = .ok (.pointer (some ⟨b, o' + j.toNat * inf.size, none⟩)) w := by
  simp [Instr.indexAt, asIntOf, run_underlying ht, sizeOf, typeInfo, hi, h0, h1, addr_add, Instr.sureAddr]

theorem ok_arr {x i : Operand} {t e : TypeId} {m : Nat} {inf : TypeInfo} (ho : o.op = .indexAddr t x i) (ht : P.underlying t = some (.array m e)) (hi : P.info? e = some inf)
    (hf : a.defers = []) (h : Sim w0 mu N s a.tmps w phi ro) (hd : ∀ k, o.dst = some k → k < N)
    (hK : aexec P own (.arr inf.size m (opd x) (opd i)) o.dst s K) : o.wp P a w (After w0 mu N K) Q := by
  obtain ⟨k, j, hj, h0, h1, hK⟩ := hK
  have hx := h.ev x
  have hij := h.ev i
  rw [hj] at hij
  simp only [SimV] at hij
  rcases hK with ⟨r, off, he, hK⟩ | ⟨cs, he, hK⟩
  · rw [he] at hx
    simp only [SimV] at hx
    obtain ⟨hc, hl, b, hb, hy, hcells⟩ := hx
    refine wp_value (v := .pointer (some ⟨b, off + j.toNat * inf.size, none⟩)) (w' := w) ?_ (After.put hf h hd ?_ hK)
    · simp [execOp, ho, hy, hij, run_idx_array ht hi _ _ _ _ h0 h1]
    · simp only [SimV]
      exact ⟨hc, hl, b, hb, rfl, hcells⟩
  · rw [he] at hx
    simp only [SimV] at hx
    obtain ⟨b, o', cur, e', fz, hy, hcell, hro, hs⟩ := hx
    refine wp_value (v := .pointer (some ⟨b, o' + j.toNat * inf.size, none⟩)) (w' := w) ?_ (After.put hf h hd ?_ hK)
    · simp [execOp, ho, hy, hij, run_idx_array ht hi _ _ _ _ h0 h1]
    · simp only [SimV]
      refine ⟨b, _, cur, e', fz, rfl, hcell, hro, ?_⟩
      have := hs.drop (j.toNat * inf.size)
      rwa [List.drop_drop] at this

theorem ok_ext {x : Operand} {i : Nat} (ho : o.op = .extract x i) (hf : a.defers = []) (h : Sim w0 mu N s a.tmps w phi ro) (hd : ∀ k, o.dst = some k → k < N)
    (hK : aexec P own (.ext (opd x) i) o.dst s K) : o.wp P a w (After w0 mu N K) Q := by
  obtain ⟨l, c, he, hi, hK⟩ := hK
  have hx := h.ev x
  rw [he] at hx
  simp only [SimV] at hx
  obtain ⟨vs, hv, _, hs⟩ := hx
  obtain ⟨y, hy, hsy⟩ := hs.get hi
  refine wp_value (v := y) (w' := w) ?_ (After.put hf h hd hsy hK)
  have hy' : vs[i]? = some y := by simpa using hy
  simp [execOp, ho, hv, Instr.extract, hy']

theorem ok_fa {x : Operand} {t : TypeId} {f : Nat} {fields : Array Field} {fd : Field} {inf : TypeInfo} (ho : o.op = .fieldAddr t x f) (ht : P.underlying t = some (.struct fields)) (hfd : fields[f]? = some fd)
    (hi : P.info? fd.type = some inf) (hz : inf.size ≠ 0)
    (hf : a.defers = []) (h : Sim w0 mu N s a.tmps w phi ro) (hd : ∀ k, o.dst = some k → k < N)
    (hK : aexec P own (.fa fd.offset (opd x)) o.dst s K) : o.wp P a w (After w0 mu N K) Q := by
  have hx := h.ev x
  have hrun : ∀ b o', (Instr.fieldAt t (.pointer (some ⟨b, o', none⟩)) f).run P w = .ok (.pointer (some ⟨b, o' + fd.offset, none⟩)) w := by
    intro b o'
    simp [Instr.fieldAt, run_underlying ht, hfd, Instr.sureAddr, fieldPlace, sizeOf, typeInfo, hi, hz, addr_add]
  rcases hK with ⟨r, off, he, hK⟩ | ⟨cs, he, hK⟩
  · rw [he] at hx
    simp only [SimV] at hx
    obtain ⟨hc, hl, b, hb, hy, hcells⟩ := hx
    refine wp_value (v := .pointer (some ⟨b, off + fd.offset, none⟩)) (w' := w) ?_ (After.put hf h hd ?_ hK)
    · simp [execOp, ho, hy, hrun]
    · simp only [SimV]
      exact ⟨hc, hl, b, hb, rfl, hcells⟩
  · rw [he] at hx
    simp only [SimV] at hx
    obtain ⟨b, o', cur, e', fz, hy, hcell, hro, hs⟩ := hx
    refine wp_value (v := .pointer (some ⟨b, o' + fd.offset, none⟩)) (w' := w) ?_ (After.put hf h hd ?_ hK)
    · simp [execOp, ho, hy, hrun]
    · simp only [SimV]
      refine ⟨b, _, cur, e', fz, rfl, hcell, hro, ?_⟩
      have := hs.drop fd.offset
      rwa [List.drop_drop] at this
end Go.Am
