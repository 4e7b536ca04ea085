/- The abstract machine, part ten: an operation as the program's text has it; a region whose order is that of the text. -/
import Derived.Test.YtgjlaajkakecpaaAmIb
namespace Go.Am
variable {P : Program} {w0 w : World} {mu : Nat → Option Nat} {N : Nat} {s : AS} {o : Oper} {a : Act} {phi : Nat → Option Nat} {ro : Nat → Prop} {K : AS → Prop} {Q : Exit → Act → World → Prop} {own : Bool}

theorem call_ok {op : AOp} {c : Call} (ho : o.op = .call c) (hc : copCall P c = some op) (hf : a.defers = []) (h : Sim w0 mu N s a.tmps w phi ro) (hd : ∀ k, o.dst = some k → k < N)
    (hK : aexec P own op o.dst s K) : o.wp P a w (After w0 mu N K) Q := by
  obtain ⟨callee, args, tys⟩ := c
  unfold copCall at hc
  simp only at hc
  split at hc
  · split at hc
    · rename_i x t hx ht
      have ha : args = #[x] := Array.ext' (by simpa using hx)
      have hb : tys = #[t] := Array.ext' (by simpa using ht)
      subst ha
      subst hb
      split at hc
      · rename_i e ht; cases hc; exact ok_len ho ht hf h hd hK
      · rename_i ht; cases hc; exact ok_slen ho ht hf h hd hK
      · cases hc
    · cases hc
  · split at hc
    · rename_i x y t u hx ht
      have ha : args = #[x, y] := Array.ext' (by simpa using hx)
      have hb : tys = #[t, u] := Array.ext' (by simpa using ht)
      subst ha
      subst hb
      split at hc
      · rename_i e hu
        rw [Option.bind_eq_some_iff] at hc
        obtain ⟨i, hi, hc⟩ := hc
        rw [Option.bind_eq_some_iff] at hc
        obtain ⟨z, hz, hc⟩ := hc
        split at hc
        · rename_i hzs
          cases hc
          obtain ⟨hzs1, hzs2, rfl⟩ := hzs
          exact ok_app ho hu hi hz hzs1 hf h hd hK
        · split at hc
          · rename_i hzs2
            split at hc
            · rename_i kn hu2
              cases hc
              exact ok_appz ho hu hu2 hi hz hzs2.1 hzs2.2 hf h hd hK
            · cases hc
          · cases hc
      · cases hc
    · cases hc
  · split at hc
    · rename_i x y t u hx ht
      have ha : args = #[x, y] := Array.ext' (by simpa using hx)
      have hb : tys = #[t, u] := Array.ext' (by simpa using ht)
      subst ha
      subst hb
      split at hc
      · rename_i e hu
        rw [Option.bind_eq_some_iff] at hc
        obtain ⟨i, hi, hc⟩ := hc
        split at hc
        · rename_i htu
          cases hc
          obtain ⟨rfl, hpos⟩ := htu
          exact ok_cpy ho hu hi hf h hd hK
        · cases hc
      · cases hc
    · cases hc
  · split at hc
    · rename_i x y hx
      have ha : args = #[x, y] := Array.ext' (by simpa using hx)
      subst ha
      cases hc
      exact ok_mm (mx := true) ho hf h hd hK
    · cases hc
  · split at hc
    · rename_i x y hx
      have ha : args = #[x, y] := Array.ext' (by simpa using hx)
      subst ha
      cases hc
      exact ok_mm (mx := false) ho hf h hd hK
    · cases hc
  · split at hc
    · rename_i x t hx ht
      have ha : args = #[x] := Array.ext' (by simpa using hx)
      have hb : tys = #[t] := Array.ext' (by simpa using ht)
      subst ha
      subst hb
      split at hc
      · rename_i e ht; cases hc; exact ok_capn ho ht hf h hd hK
      · cases hc
    · cases hc
  · rename_i f
    split at hc
    · rename_i fn hfn
      split at hc
      · split at hc
        · cases hc
        · cases hc
          exact ok_xcall ho hf h hd hK
      · rename_i hb
        cases hc
        simp only [Bool.not_eq_true, Bool.or_eq_false_iff] at hb
        exact ok_call ho rfl hfn hb.1 hb.2 hf h hd hK
    · cases hc
  · rename_i x _
    cases hc
    have hev := h.ev x
    rcases hK with ⟨f, hx, ⟨fn, hfn, h1, h2⟩, hK⟩ | ⟨f, l, k, hx, ⟨fn, hfn, h1, h2⟩, hK⟩
    · rw [hx] at hev
      exact ok_call ho (sim_v hev) hfn h1 h2 hf h hd hK
    · rw [hx] at hev
      exact ok_callf ho hev hfn h1 h2 hf h hd hK
  · split at hc
    · rename_i x i t ts hx ht
      have ha : args = #[x, i] := Array.ext' (by simpa using hx)
      have hb : tys[0]? = some t := by rw [← Array.getElem?_toList, ht]; rfl
      subst ha
      split at hc
      · rename_i kt et hu; cases hc; exact ok_mdel ho hb hu hf h hd hK
      · cases hc
    · cases hc
  · cases hc

theorem op_ok0 {op : AOp} (hc : copOp0 P o = some op) (hf : a.defers = []) (h : Sim w0 mu N s a.tmps w phi ro) (hd : ∀ k, o.dst = some k → k < N)
    (hK : aexec P own op o.dst s K) : o.wp P a w (After w0 mu N K) Q := by
  unfold copOp0 at hc
  split at hc
  -- move
  · rename_i x ho
    split at hc
    · rename_i e hu
      rw [Option.map_eq_some_iff] at hc
      obtain ⟨i, hi, rfl⟩ := hc
      exact ok_nils (.inl ho) hf h hd hK
    · cases hc; exact ok_mov (.inl ho) hf h hd hK
  · rename_i x ho
    split at hc
    · rename_i e hu
      rw [Option.map_eq_some_iff] at hc
      obtain ⟨i, hi, rfl⟩ := hc
      exact ok_nils (.inr ho) hf h hd hK
    · cases hc; exact ok_mov (.inr ho) hf h hd hK
  · rename_i c x y ho; cases hc; exact ok_pick ho hf h hd hK
  · rename_i t x ho; cases hc; exact ok_not ho hf h hd hK
  · rename_i t x ho; cases hc; exact ok_neg ho hf h hd hK
  · rename_i t x ho; cases hc; exact ok_cpl ho hf h hd hK
  · rename_i op t x y u ho
    split at hc
    · cases hc; exact ok_bin ho hf h hd hK
    · cases hc; exact ok_bin ho hf h hd hK
    · rename_i ht
      split at hc
      · split at hc
        · rename_i e; cases hc; exact ok_isnil ho (by simpa using e) ht hf h hd hK
        · split at hc
          · rename_i e; cases hc; exact ok_isnil ho (by simpa using e) ht hf h hd hK
          · cases hc
      · cases hc
    · rename_i fs ht
      split at hc
      · rename_i hsg
        rw [Option.bind_eq_some_iff] at hc
        obtain ⟨offs, hoffs, hc⟩ := hc
        split at hc
        · rename_i e; cases hc; exact ok_aeq ho (by simpa using e) ht hsg.1 hsg.2 hoffs hf h hd hK
        · split at hc
          · rename_i e; cases hc; exact ok_aeq ho (by simpa using e) ht hsg.1 hsg.2 hoffs hf h hd hK
          · cases hc
      · cases hc
    · rename_i kt et ht
      split at hc
      · split at hc
        · rename_i e; cases hc; exact ok_mnil ho (by simpa using e) ht hf h hd hK
        · split at hc
          · rename_i e; cases hc; exact ok_mnil ho (by simpa using e) ht hf h hd hK
          · cases hc
      · cases hc
    · rename_i ht
      split at hc
      · rename_i e; cases hc; exact ok_beq ho (by simpa using e) ht hf h hd hK
      · split at hc
        · rename_i e; cases hc; exact ok_beq ho (by simpa using e) ht hf h hd hK
        · cases hc
    · rename_i ms ht
      split at hc
      · split at hc
        · rename_i e; cases hc; exact ok_inil ho (by simpa using e) ht hf h hd hK
        · split at hc
          · rename_i e; cases hc; exact ok_inil ho (by simpa using e) ht hf h hd hK
          · cases hc
      · cases hc
    · cases hc
  · rename_i t x i ho
    split at hc
    · rename_i e ht
      rw [Option.map_eq_some_iff] at hc
      obtain ⟨inf, hi, rfl⟩ := hc
      exact ok_idx ho ht hi hf h hd hK
    · rename_i n e ht
      rw [Option.map_eq_some_iff] at hc
      obtain ⟨inf, hi, rfl⟩ := hc
      exact ok_arr ho ht hi hf h hd hK
    · cases hc
  · rename_i t x ho
    rw [Option.map_eq_some_iff] at hc
    obtain ⟨k, hk, rfl⟩ := hc
    exact ok_ld ho hk hf h hd hK
  · rename_i t x y ho
    split at hc
    · cases hc
    · rename_i hdst
      have hdst' : o.dst = none := by simpa using hdst
      rw [Option.bind_eq_some_iff] at hc
      obtain ⟨k, hk, hc⟩ := hc
      rw [Option.bind_eq_some_iff] at hc
      obtain ⟨i, hi, hc⟩ := hc
      cases k with
      | none =>
        simp only at hc
        split at hc
        · rename_i h1; cases hc; exact ok_st ho hi h1 hf h hdst' hK
        · cases hc
      | some k =>
        simp only [Option.some.injEq] at hc
        subst hc
        obtain ⟨d, i', _, hi', hsz, _⟩ := shapeT_some hk
        rw [hi] at hi'
        cases hi'
        exact ok_st ho hi hsz hf h hdst' hK
  · rename_i t l c ho
    split at hc
    · rename_i e ht
      rw [Option.bind_eq_some_iff] at hc
      obtain ⟨i, hi, hc⟩ := hc
      rw [Option.bind_eq_some_iff] at hc
      obtain ⟨z, hz, hc⟩ := hc
      split at hc
      · rename_i hzs; cases hc; exact ok_mk ho ht hi hz hzs.1 hf h hd hK
      · cases hc
    · cases hc
  · rename_i t x lo hi ho
    split at hc
    · rename_i e ht
      rw [Option.map_eq_some_iff] at hc
      obtain ⟨i, hi, rfl⟩ := hc
      exact ok_cut ho ht hi hf h hd hK
    · rename_i n e ht
      rw [Option.map_eq_some_iff] at hc
      obtain ⟨i, hi, rfl⟩ := hc
      exact ok_acut ho ht hi hf h hd hK
    · rename_i ht; cases hc; exact ok_scut ho ht hf h hd hK
    · cases hc
  · rename_i t x hi' mx ho
    split at hc
    · rename_i e ht
      rw [Option.map_eq_some_iff] at hc
      obtain ⟨i, hi, rfl⟩ := hc
      exact ok_cut3 ho ht hi hf h hd hK
    · cases hc
  · rename_i t x lo hi' mx ho
    split at hc
    · rename_i e ht
      rw [Option.map_eq_some_iff] at hc
      obtain ⟨i, hi, rfl⟩ := hc
      exact ok_cut4 ho ht hi hf h hd hK
    · cases hc
  · rename_i c ho; exact call_ok ho hc hf h hd hK
  · rename_i x i ho; cases hc; exact ok_ext ho hf h hd hK
  · rename_i t ho
    rw [Option.bind_eq_some_iff] at hc
    obtain ⟨i, hi, hc⟩ := hc
    rw [Option.map_eq_some_iff] at hc
    obtain ⟨z, hz, rfl⟩ := hc
    exact ok_alloc ho hi hz hf h hd hK
  · rename_i t x ho
    rw [Option.bind_eq_some_iff] at hc
    obtain ⟨k, hk, hc⟩ := hc
    rw [Option.bind_eq_some_iff] at hc
    obtain ⟨i, hi, hc⟩ := hc
    cases k with
    | none =>
      simp only at hc
      split at hc
      · cases hc; exact ok_box ho hf h hd hK
      · cases hc
    | some k =>
      simp only [Option.some.injEq] at hc
      subst hc
      exact ok_box ho hf h hd hK
  · rename_i t n parts ho
    split at hc
    · rename_i e ht
      rw [Option.bind_eq_some_iff] at hc
      obtain ⟨i, hi, hc⟩ := hc
      rw [Option.bind_eq_some_iff] at hc
      obtain ⟨z, hz, hc⟩ := hc
      split at hc
      · rename_i hzs
        cases hc
        exact ok_bsl ho ht hi hz hzs.1 hzs.2.2 hzs.2.1 hf h hd hK
      · cases hc
    · cases hc
  · rename_i t x f ho
    split at hc
    · rename_i fields ht
      rw [Option.bind_eq_some_iff] at hc
      obtain ⟨fd, hfd, hc⟩ := hc
      rw [Option.bind_eq_some_iff] at hc
      obtain ⟨i, hi, hc⟩ := hc
      split at hc
      · cases hc
      · rename_i hz; cases hc; exact ok_fa ho ht hfd hi hz hf h hd hK
    · cases hc
  -- field
  · rename_i t x f ho
    split at hc
    · rename_i fields ht
      rw [Option.bind_eq_some_iff] at hc
      obtain ⟨fd, hfd, hc⟩ := hc
      rw [Option.map_eq_some_iff] at hc
      obtain ⟨k, hk, rfl⟩ := hc
      exact ok_fld ho ht hfd hk hf h hd hK
    · cases hc
  -- build
  · rename_i t parts ho
    rw [Option.bind_eq_some_iff] at hc
    obtain ⟨i, hi, hc⟩ := hc
    rw [Option.bind_eq_some_iff] at hc
    obtain ⟨z, hz, hc⟩ := hc
    split at hc
    · rename_i fields ht
      split at hc
      · rename_i hall
        rw [Option.map_eq_some_iff] at hc
        obtain ⟨pl, hpl, rfl⟩ := hc
        exact ok_bld_struct ho ht hi hz (fun f hfm => List.all_eq_true.1 hall f hfm) hpl hf h hd hK
      · cases hc
    · rename_i n e ht
      rw [Option.map_eq_some_iff] at hc
      obtain ⟨inf, hinf, rfl⟩ := hc
      exact ok_bld_array ho ht hi hz hinf hf h hd hK
    · cases hc
  -- index
  · rename_i t x i ho
    split at hc
    · rename_i n e ht
      rw [Option.bind_eq_some_iff] at hc
      obtain ⟨inf, hi, hc⟩ := hc
      rw [Option.map_eq_some_iff] at hc
      obtain ⟨k, hk, rfl⟩ := hc
      exact ok_aix ho ht hi hk hf h hd hK
    · rename_i ht; cases hc; exact ok_six ho ht hf h hd hK
    · cases hc
  -- convert
  · rename_i u t x ho
    split at hc
    · rename_i k0 k hu ht; cases hc; exact ok_cvt ho hu ht hf h hd hK
    · rename_i e hu ht
      split at hc
      · rename_i he; cases hc; exact ok_bts ho hu he ht hf h hd hK
      · cases hc
    · cases hc
  -- makeFunc
  · rename_i f first captured ho; cases hc; exact ok_mkf ho hf h hd hK
  -- range, next
  · rename_i t x ho
    split at hc
    · rename_i ht; cases hc; exact ok_rng ho ht hf h hd hK
    · rename_i kt et ht; cases hc; exact ok_mrg ho ht hf h hd hK
    · cases hc
  · rename_i x ho; cases hc; exact ok_nxs ho hf h hd hK
  · rename_i x ho; cases hc; exact ok_mnx ho hf h hd hK
  · rename_i x ho; cases hc; exact ok_ment ho hf h hd hK
  · rename_i x ho; cases hc; exact ok_nchk ho hf h hd hK
  · rename_i t ho; cases hc; exact ok_mmk ho hf h hd hK
  · rename_i t x i ok ho
    split at hc
    · rename_i kt et ht
      split at hc
      · rename_i k hkt
        rw [Option.bind_eq_some_iff] at hc
        obtain ⟨inf, hi, hc⟩ := hc
        rw [Option.map_eq_some_iff] at hc
        obtain ⟨z, hz, rfl⟩ := hc
        exact ok_mget ho ht hkt hi hz hf h hd hK
      · rw [Option.bind_eq_some_iff] at hc
        obtain ⟨inf, hi, hc⟩ := hc
        rw [Option.map_eq_some_iff] at hc
        obtain ⟨z, hz, rfl⟩ := hc
        exact ok_mgetk ho ht hi hz hf h hd hK
    · cases hc
  · rename_i t x i y ho
    split at hc
    · cases hc
    · rename_i hdst
      have hdst' : o.dst = none := by simpa using hdst
      split at hc
      · rename_i kt et ht
        split at hc
        · rename_i k hkt; cases hc; exact ok_mput (.inl ho) ht hkt hf h hdst' hK
        · cases hc; exact ok_mputk (.inl ho) ht hf h hdst' hK
      · cases hc
  · rename_i t x i y ho
    split at hc
    · cases hc
    · rename_i hdst
      have hdst' : o.dst = none := by simpa using hdst
      split at hc
      · rename_i kt et ht
        split at hc
        · rename_i k hkt; cases hc; exact ok_mput (.inr ho) ht hkt hf h hdst' hK
        · cases hc; exact ok_mputk (.inr ho) ht hf h hdst' hK
      · cases hc
  · cases hc

theorem op_ok {op : AOp} (hc : copOp P o = some op) (hf : a.defers = []) (h : Sim w0 mu N s a.tmps w phi ro) (hd : ∀ k, o.dst = some k → k < N)
    (hK : aexec P own op o.dst s K) : o.wp P a w (After w0 mu N K) Q := by
  unfold copOp at hc
  simp only [Option.some.injEq] at hc
  cases h0 : copOp0 P o with
  | some op' => rw [h0] at hc; subst hc; exact op_ok0 h0 hf h hd hK
  | none => rw [h0] at hc; subst hc; exact hK.elim

theorem tm_yield {t : Nat} {b : Bool} (h : Sim w0 mu N s a.tmps w phi ro) (ht : t < N) (hb : s.tm t = .v (.bool b)) : a.tmps[t]? = some (.bool b) := by
  have h1 := h.tms t
  rw [hb] at h1
  simp only [SimV] at h1
  have h2 : t < a.tmps.size := Nat.lt_of_lt_of_le ht h.slots
  simp [h2] at h1
  simp [h2, h1]

/-- An operation of the text, with its guard. -/
theorem op1_ok {ops : Array Oper} {i : Nat} {ao : AOper} {R : Act → World → Prop} (hi : ops[i]? = some o) (hc : cop P N ops o = some ao) (hS : Simw w0 mu N s a w) (hR : ∀ a w, After w0 mu N K a w → R a w)
    (hK : aop1 P own ao s K) : wpOp P ops Q i R a w := by
  obtain ⟨hf, phi, ro, h⟩ := hS
  unfold cop at hc
  rw [Option.bind_eq_some_iff] at hc
  obtain ⟨op, hop, hc⟩ := hc
  split at hc
  · rename_i hdst
    have hd : ∀ k, o.dst = some k → k < N := by
      intro k hk
      rw [hk] at hdst
      simpa [dstOk] using hdst
    have run : aexec P own op o.dst s K → o.wp P a w R Q := fun hx => (Oper.wp_mono hR (op_ok hop hf h hd hx))
    have skip : K (s.put o.dst (.v undef)) → R (a.put o.dst undef) w := fun hx => hR _ _ (After.put hf h hd (by simp [SimV]) hx)
    unfold wpOp
    rw [hi]
    cases hg : o.guard with
    | none =>
      rw [hg] at hc
      cases hc
      simp only [Region.wanted, hg, if_true]
      exact .inl (run hK)
    | some jw =>
      obtain ⟨j, wt⟩ := jw
      rw [hg] at hc
      simp only at hc
      rw [Option.bind_eq_some_iff] at hc
      obtain ⟨t, ht, hc⟩ := hc
      split at hc
      · rename_i htN
        cases hc
        simp only [aop1] at hK
        rcases hK with ⟨b, hb, h1, h2⟩ | ⟨hb, h2⟩
        · have hy : yielded ops a.tmps j = some b := by
            unfold yielded
            rw [ht]
            simp [tm_yield h htN hb]
          by_cases hbw : b = wt
          · simp only [Region.wanted, hg, hy, hbw, beq_self_eq_true, if_true]
            exact .inl (run (h1 hbw))
          · have hne : (some b == some wt) = false := by simp [hbw]
            simp only [Region.wanted, hg, hy, hne, Bool.false_eq_true, if_false]
            exact skip (h2 (by cases b <;> cases wt <;> simp_all))
        · have hy : yielded ops a.tmps j = none := by
            unfold yielded
            rw [ht]
            have h1 := h.tms t
            rw [hb] at h1
            simp only [SimV] at h1
            have h2 : t < a.tmps.size := Nat.lt_of_lt_of_le htN h.slots
            have h3 : a.tmps[t]? = some undef := by
              simp [h2] at h1
              simp [h2, h1]
            simp [h3, undef]
          simp only [Region.wanted, hg, hy]
          exact skip h2
      · cases hc
  · cases hc

theorem acall_mono {f : FuncId} {xs : List AV} {d : Option Nat} {K K' : AS → Prop} (h : ∀ s, K s → K' s) (hK : acallA P own f xs d s K) : acallA P own f xs d s K' := by
  unfold acallA at hK ⊢
  rcases hK with ⟨as, res, h1, h2, h3⟩ | ⟨h0, r, z, n, cs, as, res, cs', h1, h2, h3, h4, h5, h6, h7, h8⟩ | ⟨h0, as, hin, ι, ok, res, hout, g, hp', h1, h2, h3, h4⟩ | ⟨h0, as, hin, res, hout, g, p, hp', h1, h2, h3, h4⟩ | ⟨h0, r, x, g, h1, h2, h3, h4, h5⟩ | ⟨res, h1, h2⟩
  · refine .inl ⟨as, res, h1, h2, ?_⟩
    rcases h3 with h3 | ⟨h0, r, z, cs, n, h3, h4, h5⟩
    · exact .inl (h _ h3)
    · refine .inr ⟨h0, r, z, cs, n, h3, h4, ?_⟩
      rcases h5 with ⟨h5, h6⟩ | ⟨rest, h5, h6, h7⟩
      · exact .inl ⟨h5, h _ h6⟩
      · exact .inr ⟨rest, h5, h6, h _ h7⟩
  · exact .inr (.inl ⟨h0, r, z, n, cs, as, res, cs', h1, h2, h3, h4, h5, h6, h7, h _ h8⟩)
  · exact .inr (.inr (.inl ⟨h0, as, hin, ι, ok, res, hout, g, hp', h1, h2, h3, fun i hi => ⟨(h4 i hi).1, h _ (h4 i hi).2⟩⟩))
  · exact .inr (.inr (.inr (.inl ⟨h0, as, hin, res, hout, g, p, hp', h1, h2, h3, h _ h4⟩)))
  · exact .inr (.inr (.inr (.inr (.inl ⟨h0, r, x, g, h1, h2, h3, h4, h _ h5⟩))))
  · exact .inr (.inr (.inr (.inr (.inr ⟨res, h1, h _ h2⟩))))

theorem aexec_mono {op : AOp} {d : Option Nat} {K K' : AS → Prop} (h : ∀ s, K s → K' s) (hK : aexec P own op d s K) : aexec P own op d s K' := by
  cases op <;> simp only [aexec] at hK ⊢
  case mov => exact h _ hK
  case nils => rcases hK with h1 | ⟨r, h1, h2⟩; exact .inl (h _ h1); exact .inr ⟨r, h1, h _ h2⟩
  case pick => obtain ⟨t, h1, h2, h3⟩ := hK; exact ⟨t, h1, fun e => h _ (h2 e), fun e => h _ (h3 e)⟩
  case not => obtain ⟨t, h1, h2⟩ := hK; exact ⟨t, h1, h _ h2⟩
  case neg => obtain ⟨k, n, h1, h2⟩ := hK; exact ⟨k, n, h1, h _ h2⟩
  case bin => obtain ⟨p, q, r, h1, h2, h3, h4⟩ := hK; exact ⟨p, q, r, h1, h2, h3, h _ h4⟩
  case beq => obtain ⟨p, q, h1, h2, h3⟩ := hK; exact ⟨p, q, h1, h2, h _ h3⟩
  case len =>
    rcases hK with ⟨r, z, off, n, h1, h2⟩ | ⟨fr, z, cs, n, h1, h2⟩ | ⟨ad, n, c, h1, h2⟩
    · exact .inl ⟨r, z, off, n, h1, h _ h2⟩
    · exact .inr (.inl ⟨fr, z, cs, n, h1, h _ h2⟩)
    · exact .inr (.inr ⟨ad, n, c, h1, h _ h2⟩)
  case slen => obtain ⟨b, h1, h2⟩ := hK; exact ⟨b, h1, h _ h2⟩
  case capn => obtain ⟨b, n, c, h1, h2⟩ := hK; exact ⟨b, n, c, h1, h _ h2⟩
  case isnil => rcases hK with ⟨c, h1, h2⟩ | ⟨n, h1, h2, h3⟩; exact .inl ⟨c, h1, h _ h2⟩; exact .inr ⟨n, h1, fun e => h _ (h2 e), fun e b => h _ (h3 e b)⟩
  case idx =>
    obtain ⟨k, j, h1, h2, h3⟩ := hK
    refine ⟨k, j, h1, h2, ?_⟩
    rcases h3 with ⟨r, off, n, h3, h4, h5⟩ | ⟨fr, cs, n, h3, h4, h5⟩
    · exact .inl ⟨r, off, n, h3, h4, h _ h5⟩
    · exact .inr ⟨fr, cs, n, h3, h4, h _ h5⟩
  case arr =>
    obtain ⟨k, j, h1, h2, h3, h4⟩ := hK
    refine ⟨k, j, h1, h2, h3, ?_⟩
    rcases h4 with ⟨r, off, h4, h5⟩ | ⟨cs, h4, h5⟩
    · exact .inl ⟨r, off, h4, h _ h5⟩
    · exact .inr ⟨cs, h4, h _ h5⟩
  case ld k x =>
    cases k with
    | none =>
      rcases hK with ⟨r, off, fl, cs, c, h1, h2, h3, h4⟩ | ⟨cs, c, h1, h2, h3⟩
      · exact .inl ⟨r, off, fl, cs, c, h1, h2, h3, h _ h4⟩
      · exact .inr ⟨cs, c, h1, h2, h _ h3⟩
    | some k =>
      rcases hK with ⟨r, off, fl, cs, h1, h2, h3, h4⟩ | ⟨cs, h1, h2, h3⟩
      · exact .inl ⟨r, off, fl, cs, h1, h2, h3, h _ h4⟩
      · exact .inr ⟨cs, h1, h2, h _ h3⟩
  case st =>
    obtain ⟨r, off, fl, cs, h1, h2, h3⟩ := hK
    refine ⟨r, off, fl, cs, h1, h2, ?_⟩
    rcases h3 with ⟨h3, h4, h5, h6⟩ | ⟨l, h3, h4, h5, h6, h7⟩
    · exact .inl ⟨h3, h4, h5, h _ h6⟩
    · exact .inr ⟨l, h3, h4, h5, h6, h _ h7⟩
  case mk => obtain ⟨r, kl, kc, n, m, h1, h2, h3, h4, h5, h6, h7, h8⟩ := hK; exact ⟨r, kl, kc, n, m, h1, h2, h3, h4, h5, h6, h7, h _ h8⟩
  case cut =>
    obtain ⟨l, hh, h1, h2⟩ := hK
    refine ⟨l, hh, h1, ?_⟩
    rcases h2 with ⟨r, off, n, h2, h3, h4, h5, h6⟩ | ⟨fr, cs, n, h2, h3, h4, h5, h6⟩ | ⟨h2, h3, h4, h5, h6⟩
    · exact .inl ⟨r, off, n, h2, h3, h4, h5, h _ h6⟩
    · exact .inr (.inl ⟨fr, cs, n, h2, h3, h4, h5, h _ h6⟩)
    · exact .inr (.inr ⟨h2, h3, h4, h5, h _ h6⟩)
  case appz => obtain ⟨r, kl, m, h1, h2, h3, h4, h5, h6, h7⟩ := hK; exact ⟨r, kl, m, h1, h2, h3, h4, h5, h6, h _ h7⟩
  case app =>
    rcases hK with ⟨q, r, n, m, fl, cs, ys, h1, h2, h3, h4, h5, h6, h7, h8, h9, h10⟩ | ⟨q, n, m, cs, ys, h1, h2, h3, h4, h5, h6, h7, h8⟩
    · exact .inl ⟨q, r, n, m, fl, cs, ys, h1, h2, h3, h4, h5, h6, h7, h8, h9, h _ h10⟩
    · exact .inr ⟨q, n, m, cs, ys, h1, h2, h3, h4, h5, h6, h7, h _ h8⟩
  case cut3 => obtain ⟨fr, cs, n, k, k', h1, h2, h3, h4⟩ := hK; exact ⟨fr, cs, n, k, k', h1, h2, h3, h _ h4⟩
  case call => exact acall_mono h hK
  case callv =>
    rcases hK with ⟨f, h1, h2, h3⟩ | ⟨f, l, k, h1, h2, h3⟩
    · exact .inl ⟨f, h1, h2, acall_mono h h3⟩
    · exact .inr ⟨f, l, k, h1, h2, acall_mono h h3⟩
  case mkf => exact h _ hK
  case pu => obtain ⟨r, h1, h2⟩ := hK; exact ⟨r, h1, h _ h2⟩
  case cpy => obtain ⟨r, off, n, fl, cs, m, ys, h1, h2, h3, h4, h5, h6, h7⟩ := hK; exact ⟨r, off, n, fl, cs, m, ys, h1, h2, h3, h4, h5, h6, h _ h7⟩
  case bts => obtain ⟨bs, h1, h2⟩ := hK; exact ⟨bs, h1, h _ h2⟩
  case rng => obtain ⟨r, b, h1, h2, h3⟩ := hK; exact ⟨r, b, h1, h2, h _ h3⟩
  case nxs => obtain ⟨r, b, p, h1, h2, h3, h4⟩ := hK; exact ⟨r, b, p, h1, h2, fun e => h _ (h3 e), fun e => h _ (h4 e)⟩
  case acut => obtain ⟨r, off, l, hh, fl, cs, h1, h2, h3, h4, h5, h6, h7, h8, h9⟩ := hK; exact ⟨r, off, l, hh, fl, cs, h1, h2, h3, h4, h5, h6, h7, h8, h _ h9⟩
  case ext => obtain ⟨l, c, h1, h2, h3⟩ := hK; exact ⟨l, c, h1, h2, h _ h3⟩
  case alloc => obtain ⟨r, fl, h1, h2⟩ := hK; exact ⟨r, fl, h1, h _ h2⟩
  case box =>
    obtain ⟨r, fl, h1, h2⟩ := hK
    refine ⟨r, fl, h1, ?_⟩
    rcases h2 with ⟨h2, h3, h4⟩ | ⟨l, h2, h3, h4⟩
    · exact .inl ⟨h2, h3, h _ h4⟩
    · exact .inr ⟨l, h2, h3, h _ h4⟩
  case bsl => obtain ⟨r, fl, out, h1, h2, h3⟩ := hK; exact ⟨r, fl, out, h1, h2, h _ h3⟩
  case mmk => obtain ⟨r, h1, h2⟩ := hK; exact ⟨r, h1, h _ h2⟩
  case mget => obtain ⟨r, es, clock, j, h1, h2, h3, h4, h5, h6⟩ := hK; exact ⟨r, es, clock, j, h1, h2, h3, h4, fun e he hk => h _ (h5 e he hk), fun hn => h _ (h6 hn)⟩
  case mput => obtain ⟨r, es, clock, j, v, h1, h2, h3, h4, h5, h6, h7⟩ := hK; exact ⟨r, es, clock, j, v, h1, h2, h3, h4, h5, fun n e he hk => h _ (h6 n e he hk), fun hn => h _ (h7 hn)⟩
  case mgetk => obtain ⟨h0, es, clock, kv, h1, h2, h3, h4, x, h5, h6, h7⟩ := hK; exact ⟨h0, es, clock, kv, h1, h2, h3, h4, x, h5, h6, h _ h7⟩
  case mputk => obtain ⟨h0, r, es, clock, kv, v, h1, h2, h3, h4, h5, h6, h7, h8⟩ := hK; exact ⟨h0, r, es, clock, kv, v, h1, h2, h3, h4, h5, h6, fun n e he hk => h _ (h7 n e he hk), fun hn => h _ (h8 hn)⟩
  case mrg =>
    obtain ⟨r, h1, h2⟩ := hK
    refine ⟨r, h1, ?_⟩
    rcases h2 with ⟨q, es, clock, h2, h3, h4, h5⟩ | ⟨fr, es, clock, h2, h5⟩
    · exact .inl ⟨q, es, clock, h2, h3, h4, fun bm => h _ (h5 bm)⟩
    · exact .inr ⟨fr, es, clock, h2, fun bm => h _ (h5 bm)⟩
  case mnx =>
    obtain ⟨r, m, bm, es0, ck0, since, seen, c0, es, clock, h1, h2, h3, h4, h5, h6, h7⟩ := hK
    exact ⟨r, m, bm, es0, ck0, since, seen, c0, es, clock, h1, h2, h3, h4, h5, fun e => h _ (h6 e), fun e he hs => h _ (h7 e he hs)⟩
  case ment =>
    obtain ⟨r, m, bm, es0, ck0, since, seen, es, clock, e, ka, va, h1, h2, h3, h4, h5, h6, h7, h8⟩ := hK
    exact ⟨r, m, bm, es0, ck0, since, seen, es, clock, e, ka, va, h1, h2, h3, h4, h5, h6, h7, h _ h8⟩
  case mdel =>
    obtain ⟨h0, r, es, clock, kv, h1, h2, h3, h4, h5, h6, h7⟩ := hK
    exact ⟨h0, r, es, clock, kv, h1, h2, h3, h4, h5, fun n e he hk => h _ (h6 n e he hk), fun hn => h _ (h7 hn)⟩
  case mnil => exact ⟨hK.1, h _ hK.2⟩
  case xcall => obtain ⟨fn, e, vs, v, h1, h2, h3, h4, h5, h6, h7, h8⟩ := hK; exact ⟨fn, e, vs, v, h1, h2, h3, h4, h5, h6, h7, h _ h8⟩
  case nchk =>
    rcases hK with ⟨r, off, h1, h2⟩ | ⟨cs, h1, h2⟩
    · exact .inl ⟨r, off, h1, h _ h2⟩
    · exact .inr ⟨cs, h1, h _ h2⟩
  case fa =>
    rcases hK with ⟨r, off, h1, h2⟩ | ⟨cs, h1, h2⟩
    · exact .inl ⟨r, off, h1, h _ h2⟩
    · exact .inr ⟨cs, h1, h _ h2⟩

theorem aop1_mono {ao : AOper} {K K' : AS → Prop} (h : ∀ s, K s → K' s) (hK : aop1 P own ao s K) : aop1 P own ao s K' := by
  unfold aop1 at *
  split at hK
  · exact aexec_mono h hK
  · rcases hK with ⟨b, h1, h2, h3⟩ | ⟨h1, h2⟩
    · exact .inl ⟨b, h1, fun e => aexec_mono h (h2 e), fun e => h _ (h3 e)⟩
    · exact .inr ⟨h1, h _ h2⟩

/-- The operations of the text that the list tells of. -/
inductive Comp (P : Program) (N : Nat) (ops : Array Oper) : List Nat → List AOper → Prop
  | nil : Comp P N ops [] []
  | cons {i : Nat} {is : List Nat} {o : Oper} {ao : AOper} {l : List AOper} (hi : ops[i]? = some o) (hc : cop P N ops o = some ao) (h : Comp P N ops is l) : Comp P N ops (i :: is) (ao :: l)

theorem comp_of_mapM (ops : Array Oper) : ∀ (l : List Oper) (k : Nat) (out : List AOper), (∀ (j : Nat), l[j]? = ops[k + j]?) → l.mapM (cop P N ops) = some out → Comp P N ops (List.range' k l.length) out
  | [], k, out, _, h => by
    simp at h
    subst h
    exact .nil
  | o :: l, k, out, hk, h => by
    rw [List.mapM_cons] at h
    simp only [Option.bind_eq_bind, Option.bind_eq_some_iff, Option.pure_def, Option.some.injEq] at h
    obtain ⟨ao, h1, out', h2, rfl⟩ := h
    have h0 := hk 0
    simp at h0
    exact .cons h0.symm h1 (comp_of_mapM ops l (k + 1) out' (fun j => by have := hk (j + 1); simpa [Nat.add_assoc, Nat.add_comm, Nat.add_left_comm] using this) h2)

theorem aops_sound {ops : Array Oper} {R : AS → Prop} (hQ : ∀ a w, After w0 mu N R a w → Q .normal a w) : ∀ {is : List Nat} {l : List AOper}, Comp P N ops is l → ∀ {s : AS} {a : Act} {w : World}, Simw w0 mu N s a w → aops P own l s R → wpOps P ops Q is a w := by
  intro is l hcomp
  induction hcomp with
  | nil => intro s a w hS hR; exact hQ _ _ ⟨s, hR, hS⟩
  | cons hi hc _ ih =>
    intro s a w hS hR
    rw [wpOps_cons]
    obtain ⟨s1, hwk, hR⟩ := hR
    refine op1_ok hi hc (hwk _ _ _ _ _ hS) (fun a w hA => ?_) hR
    obtain ⟨s', h1, h2⟩ := hA
    exact ih h2 h1
end Go.Am
