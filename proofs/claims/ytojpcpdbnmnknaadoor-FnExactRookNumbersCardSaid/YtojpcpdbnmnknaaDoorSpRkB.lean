/- Contracts: how many columns a set has; the places that are left. -/
import Derived.Test.YtojpcpdbnmnknaaDoorSpRkA
namespace Go.Am
/-- The bits of a byte, counted. -/
def popB : ByteArray := ⟨#[0, 1, 1, 2, 1, 2, 2, 3, 1, 2, 2, 3, 2, 3, 3, 4, 1, 2, 2, 3, 2, 3, 3, 4, 2, 3, 3, 4, 3, 4, 4, 5, 1, 2, 2, 3, 2, 3, 3, 4, 2, 3, 3, 4, 3, 4, 4, 5, 2, 3, 3, 4, 3, 4, 4, 5, 3, 4, 4, 5, 4, 5, 5, 6, 1, 2, 2, 3, 2, 3, 3, 4, 2, 3, 3, 4, 3, 4, 4, 5, 2, 3, 3, 4, 3, 4, 4, 5, 3, 4, 4, 5, 4, 5, 5, 6, 2, 3, 3, 4, 3, 4, 4, 5, 3, 4, 4, 5, 4, 5, 5, 6, 3, 4, 4, 5, 4, 5, 5, 6, 4, 5, 5, 6, 5, 6, 6, 7, 1, 2, 2, 3, 2, 3, 3, 4, 2, 3, 3, 4, 3, 4, 4, 5, 2, 3, 3, 4, 3, 4, 4, 5, 3, 4, 4, 5, 4, 5, 5, 6, 2, 3, 3, 4, 3, 4, 4, 5, 3, 4, 4, 5, 4, 5, 5, 6, 3, 4, 4, 5, 4, 5, 5, 6, 4, 5, 5, 6, 5, 6, 6, 7, 2, 3, 3, 4, 3, 4, 4, 5, 3, 4, 4, 5, 4, 5, 5, 6, 3, 4, 4, 5, 4, 5, 5, 6, 4, 5, 5, 6, 5, 6, 6, 7, 3, 4, 4, 5, 4, 5, 5, 6, 4, 5, 5, 6, 5, 6, 6, 7, 4, 5, 5, 6, 5, 6, 6, 7, 5, 6, 6, 7, 6, 7, 7, 8]⟩
theorem popP_get : ∀ S < 512, (popB.data.toList.getD (S >>> 8) 0).toNat + (popB.data.toList.getD (S &&& 255) 0).toNat = pop16 S := by decide +kernel
theorem popB_at {j : Nat} (h : j < popB.size) : (popB[j]'h).toNat = (popB.data.toList.getD j 0).toNat := by
  have h2 : j < popB.data.toList.length := h
  rw [List.getD_eq_getElem?_getD, List.getElem?_eq_getElem h2]
  rfl
theorem popB_size : popB.size = 256 := by decide +kernel
theorem popB_le : ∀ j < 256, (popB.data.toList.getD j 0).toNat ≤ 8 := by decide +kernel
section
variable {P : Program} {own : Bool} {s : AS} {K : AS → Prop} {d : Option Nat} {x y : Opd}
theorem m_sixu {b : ByteArray} {j : Nat} {q : IntKind} (hx : s.ev x = .v (.string b)) (hj : s.ev y = .v (.int q (j : Nat))) (h : j < b.size) (k : K (s.put d (.v (.int .u8 (b[j]'h).toNat)))) : aop1 P own ⟨d, .pu .six [x, y], none⟩ s K :=
  ⟨_, ⟨b, q, j, by simp [hx, hj], by omega, by simpa using h, by simp⟩, k⟩
theorem m_addk {q : IntKind} {a b c : Int} (hx : s.ev x = .v (.int q a)) (hy : s.ev y = .v (.int q b)) (hc : q.wrap (a + b) = c) (k : K (s.put d (.v (.int q c)))) : aop1 P own ⟨d, .bin .add x y, none⟩ s K := ⟨_, _, .int q c, hx, hy, by simp [pbin, hc], k⟩
theorem m_shr8 {a : Nat} (hx : s.ev x = .u a) (hy : s.ev y = .v (.int .u64 8)) (kk : K (s.put d (.u (a >>> 8)))) : aop1 P own ⟨d, .bin .shr x y, none⟩ s K := by
  refine ⟨_, _, _, hx, hy, ?_, kk⟩
  show (if (8 : Int) < 0 then none else some (Value.int .u16 ((a : Int).fdiv (2 ^ (min (8 : Int).toNat IntKind.u16.bits))))) = _
  rw [if_neg (by decide), show min (8 : Int).toNat IntKind.u16.bits = 8 from rfl, Nat.shiftRight_eq_div_pow]
  congr 2
  rw [Int.fdiv_eq_ediv_of_nonneg _ (by decide), show (2 : Int) ^ 8 = 256 from rfl, show (2 : Nat) ^ 8 = 256 from rfl]
  omega
theorem m_cvtk {q k : IntKind} {n c : Int} (hx : s.ev x = .v (.int q n)) (hc : k.wrap n = c) (kk : K (s.put d (.v (.int k c)))) : aop1 P own ⟨d, .pu (.cvt k) [x], none⟩ s K := ⟨_, ⟨q, n, by simp [hx], by rw [hc]⟩, kk⟩
end
/- The places that are left. -/
/-- Those of all that D tells. -/
def lfA (fb : Nat → Nat → Bool) (n : Nat) (D : Nat × Nat → Bool) : List ((Nat × Nat) × Nat) := (posP fb n n).zipIdx.filter fun q => D q.1
abbrev lfObj (fb : Nat → Nat → Bool) (n : Nat) (D : Nat × Nat → Bool) : Bool × List AV := (true, [.ob (.map (plArr (lfA fb n D)) (posP fb n n).length)])
theorem lfA_mem {fb : Nat → Nat → Bool} {n : Nat} {D : Nat × Nat → Bool} {q : (Nat × Nat) × Nat} (h : q ∈ lfA fb n D) : (q.1.1 < n ∧ q.1.2 < n ∧ fb q.1.1 q.1.2 = true) ∧ D q.1 = true ∧ q.2 < (posP fb n n).length := by
  obtain ⟨h1, h2⟩ := List.mem_filter.1 h
  have h3 := List.mem_zipIdx h1
  refine ⟨mem_posP.1 ?_, h2, by omega⟩
  rw [h3.2.2]
  exact List.getElem_mem _
theorem lfA_has {fb : Nat → Nat → Bool} {n : Nat} {D : Nat × Nat → Bool} {p : Nat × Nat} (h : p.1 < n ∧ p.2 < n ∧ fb p.1 p.2 = true) (hD : D p = true) : ∃ q ∈ lfA fb n D, q.1 = p := by
  obtain ⟨k, hk, e⟩ := List.mem_iff_getElem.1 (mem_posP.2 h : p ∈ posP fb n n)
  exact ⟨(p, k), List.mem_filter.2 ⟨by rw [List.mem_zipIdx_iff_getElem?]; simp [hk, e], hD⟩, rfl⟩
theorem lfA_all (fb : Nat → Nat → Bool) (n : Nat) : plArr (lfA fb n fun _ => true) = mkEs (posP fb n n) := by
  rw [mkEs_pl, lfA, List.filter_eq_self.2 fun _ _ => rfl]
theorem lfA_congr {fb : Nat → Nat → Bool} {n : Nat} {D E : Nat × Nat → Bool} (h : ∀ p : Nat × Nat, p.1 < n → p.2 < n → fb p.1 p.2 = true → D p = E p) : lfA fb n D = lfA fb n E := by
  refine List.filter_congr fun q hq => ?_
  have h3 := List.mem_zipIdx hq
  have : q.1 ∈ posP fb n n := by rw [h3.2.2]; exact List.getElem_mem _
  obtain ⟨h4, h5, h6⟩ := mem_posP.1 this
  exact h _ h4 h5 h6
theorem posP_nodup (fb : Nat → Nat → Bool) (n : Nat) : ∀ k, (posP fb n k).Nodup
  | 0 => by simp [posP]
  | k + 1 => by
    rw [posP, List.nodup_append]
    refine ⟨posP_nodup fb n k, ?_, fun a ha b hb e => ?_⟩
    · unfold rowP
      refine List.pairwise_map.2 (List.Pairwise.imp ?_ (List.nodup_range.filter fun j => fb k j))
      intro a b h e
      exact h (by simpa using e)
    · have h1 := mem_posP.1 ha
      have h2 := mem_rowP.1 hb
      rw [e] at h1
      omega
theorem lfA_nodup (fb : Nat → Nat → Bool) (n : Nat) (D : Nat × Nat → Bool) : ((lfA fb n D).map (·.1)).Nodup := by
  refine List.Nodup.sublist (List.filter_sublist.map _) (l₂ := (posP fb n n).zipIdx.map (·.1)) ?_
  rw [List.zipIdx_map_fst]
  exact posP_nodup fb n n
theorem lfA_born (fb : Nat → Nat → Bool) (n : Nat) (D : Nat × Nat → Bool) : ((plArr (lfA fb n D)).toList.map (·.born)).Nodup := by
  have e : (plArr (lfA fb n D)).toList.map (·.born) = (lfA fb n D).map (·.2) := by simp [plArr, Function.comp_def, plE, entP]
  rw [e]
  refine List.Nodup.sublist (List.filter_sublist.map _) (l₂ := (posP fb n n).zipIdx.map (·.2)) ?_
  rw [List.zipIdx_map_snd]
  exact List.nodup_range'
theorem erase_filter {L : List ((Nat × Nat) × Nat)} (h : (L.map (·.1)).Nodup) {j : Nat} {q : (Nat × Nat) × Nat} (hj : L[j]? = some q) : L.eraseIdx j = L.filter fun r => !decide (r.1 = q.1) := by
  induction L generalizing j with
  | nil => simp at hj
  | cons a L ih =>
    simp only [List.map_cons, List.nodup_cons] at h
    cases j with
    | zero =>
      simp at hj
      subst hj
      rw [List.eraseIdx_zero, List.tail_cons, List.filter_cons, if_neg (by simp), List.filter_eq_self.2]
      intro r hr
      have : r.1 ≠ a.1 := fun e => h.1 (List.mem_map.2 ⟨r, hr, e⟩)
      simpa using this
    | succ j =>
      have hq : L[j]? = some q := by simpa using hj
      have : a.1 ≠ q.1 := fun e => h.1 (List.mem_map.2 ⟨q, List.mem_of_getElem? hq, e.symm⟩)
      rw [List.eraseIdx_cons_succ, ih h.2 hq, List.filter_cons, if_pos (by simpa using this)]
theorem lfA_erase {fb : Nat → Nat → Bool} {n : Nat} {D : Nat × Nat → Bool} {j : Nat} {q : (Nat × Nat) × Nat} (hj : (lfA fb n D)[j]? = some q) :
    (plArr (lfA fb n D)).eraseIdxIfInBounds j = plArr (lfA fb n fun p => D p && !decide (p = q.1)) := by
  have hlt : j < (plArr (lfA fb n D)).size := by simpa [plArr] using (List.getElem?_eq_some_iff.1 hj).1
  rw [Array.eraseIdxIfInBounds, dif_pos hlt]
  apply Array.ext'
  rw [Array.toList_eraseIdx]
  simp only [plArr]
  rw [show (List.map plE (lfA fb n D)).eraseIdx j = ((lfA fb n D).eraseIdx j).map plE from by simp [List.eraseIdx_eq_take_drop_succ], erase_filter (lfA_nodup fb n D) hj, lfA, List.filter_filter]
  congr 1
  unfold lfA
  refine List.filter_congr fun r _ => ?_
  rw [Bool.and_comm]
theorem plArr_get {l : List ((Nat × Nat) × Nat)} {n : Nat} {e : MapEntry} (h : (plArr l).toList[n]? = some e) : ∃ p, l[n]? = some p ∧ plE p = e := by
  simp only [plArr, List.getElem?_map, Option.map_eq_some_iff] at h
  exact h
theorem plE_key {q : (Nat × Nat) × Nat} {a b : Nat} (h : (plE q).key = keyP a b) : q.1 = (a, b) := by
  obtain ⟨h1, h2⟩ := keyP_inj (h : keyP q.1.1 q.1.2 = keyP a b)
  exact Prod.ext (Int.ofNat_inj.1 h1) (Int.ofNat_inj.1 h2)
end Go.Am
namespace Go.Proofs.YtojpcpdbnmnknaaDoor
open Go.Am
attribute [local irreducible] AW Outs Weak Lends Lend Sp aops atree aop1 Then Round InBlock Done
attribute [local irreducible] SpH SpX DoneH DoneX

theorem onesP_spec (S : Nat) (hS2 : S < 512) : Sp Tryd.prog 68 [.u S] (.i (pop16 S : Nat)) := by
  have h1 : S >>> 8 < popB.size := by rw [popB_size, Nat.shiftRight_eq_div_pow]; omega
  have h2 : S &&& 255 < popB.size := by rw [popB_size]; exact Nat.lt_of_le_of_lt Nat.and_le_right (by decide)
  have hg := popP_get S hS2
  have e1 := popB_at h1
  have e2 := popB_at h2
  rw [popB_size] at h1 h2
  have l1 := popB_le _ h1
  have l2 := popB_le _ h2
  rw [← popB_size] at h1 h2
  rw [← e1, ← e2] at hg
  rw [← e1] at l1
  rw [← e2] at l2
  rw [← hg]
  refine spec_of Tryd.func68 rfl cc68 rfl ?_
  unfold ac68
  repeat (first | ((first | refine step_ops ?_ | refine step_tree ?_); (first | (refine m_mov (by conv => lhs; whnf) ?_) | (refine m_add rfl rfl ?_ ?_ ?_; (· omega); (· omega)) | (refine m_adds rfl rfl ?_ ?_; (· first | omega | (simp; omega))) | (refine m_six' rfl rfl ?_ ?_; (· first | omega | (simp; omega))) | (refine m_cvt rfl ?_))) | refine end_ops ?_ | refine seq_ops ?_ | refine AW_ops ?_ | refine end_tree ?_ | refine seq_tree ?_ | refine AW_tree ?_ | refine AW_seq ?_ | refine AW_ret ?_ | refine ret_done ?_ | refine norm_then ?_ | refine ret_then ?_ | refine exit_then ?_)
  refine step_tree ?_
  refine m_shr8 (a := S) rfl rfl ?_
  refine step_tree ?_
  refine m_sixu (b := popB) (j := S >>> 8) (q := .u16) rfl rfl h1 ?_
  repeat (first | ((first | refine step_ops ?_ | refine step_tree ?_); (first | (refine m_mov (by conv => lhs; whnf) ?_) | (refine m_add rfl rfl ?_ ?_ ?_; (· omega); (· omega)) | (refine m_adds rfl rfl ?_ ?_; (· first | omega | (simp; omega))) | (refine m_six' rfl rfl ?_ ?_; (· first | omega | (simp; omega))) | (refine m_cvt rfl ?_))) | refine end_ops ?_ | refine seq_ops ?_ | refine AW_ops ?_ | refine end_tree ?_ | refine seq_tree ?_ | refine AW_tree ?_ | refine AW_seq ?_ | refine AW_ret ?_ | refine ret_done ?_ | refine norm_then ?_ | refine ret_then ?_ | refine exit_then ?_)
  refine step_tree ?_
  refine m_and16 (a := S) (b := 255) rfl rfl (by omega) (by decide) ?_
  refine step_tree ?_
  refine m_sixu (b := popB) (j := S &&& 255) (q := .u16) rfl rfl h2 ?_
  generalize ((popB[S >>> 8]'h1).toNat) = p at *
  generalize ((popB[S &&& 255]'h2).toNat) = q at *
  have w1 : IntKind.u8.wrap ((p : Int) + (q : Int)) = ((p + q : Nat) : Int) := by
    have : IntKind.u8.wrap ((p : Int) + (q : Int)) = ((p : Int) + (q : Int)) % 256 := by simp [IntKind.wrap, IntKind.bits, IntKind.signed]
    omega
  have w2 : IntKind.i64.wrap ((p + q : Nat) : Int) = ((p + q : Nat) : Int) := by rw [IntKind.wrap_i64]; omega
  refine step_tree ?_
  refine m_addk rfl rfl w1 ?_
  refine step_tree ?_
  refine m_cvtk rfl w2 ?_
  repeat (first | ((first | refine step_ops ?_ | refine step_tree ?_); (first | (refine m_mov (by conv => lhs; whnf) ?_) | (refine m_add rfl rfl ?_ ?_ ?_; (· omega); (· omega)) | (refine m_adds rfl rfl ?_ ?_; (· first | omega | (simp; omega))) | (refine m_six' rfl rfl ?_ ?_; (· first | omega | (simp; omega))) | (refine m_cvt rfl ?_))) | refine end_ops ?_ | refine seq_ops ?_ | refine AW_ops ?_ | refine end_tree ?_ | refine seq_tree ?_ | refine AW_tree ?_ | refine AW_seq ?_ | refine AW_ret ?_ | refine ret_done ?_ | refine norm_then ?_ | refine ret_then ?_ | refine exit_then ?_)
  exact outs_i rfl

theorem sizeP_spec (S : Nat) (hS2 : S < 512) : Sp Tryd.prog 54 [.u S] (.i (pop16 S : Nat)) := by
  refine spec_of Tryd.func54 rfl cc54 rfl ?_
  unfold ac54
  repeat (first | (refine step_ops ?_; (refine m_mov (by conv => lhs; whnf) ?_)) | refine end_ops ?_ | refine seq_ops ?_ | refine AW_ops ?_ | refine AW_seq ?_ | refine AW_ret ?_ | refine ret_done ?_ | refine norm_then ?_ | refine ret_then ?_ | refine exit_then ?_)
  (refine step_ops ?_); (apply m_call (onesP_spec S hS2)); (· repeat (first | exact lends_nil | (refine lends_cons ?_ ?_; (· (first | exact lend_v | (refine lend_roM rfl; done) | (refine lend_mat rfl ?_; intro j hj; simp (disch := first | omega | assumption) only [hp_put, hp_mem_ne, hp_kill_ne]; first | exact stM_row rfl hj | (rw [stM_row rfl hj]; rfl)) | (refine lend_ints ?_; first | rfl | omega) | (refine lend_sli (by rfl) ?_; first | rfl | omega | (simp; done)) | (refine lend_pln rfl; done) | (refine lend_plns rfl rfl; done) | (refine lend_txr rfl; done) | (refine lend_txs rfl rfl; done) | exact lend_any | (refine lend_agg ?_; first | rfl | assumption | (simp [plainV]; done)))))))
  repeat (first | (refine step_ops ?_; (refine m_mov (by conv => lhs; whnf) ?_)) | refine end_ops ?_ | refine seq_ops ?_ | refine AW_ops ?_ | refine AW_seq ?_ | refine AW_ret ?_ | refine ret_done ?_ | refine norm_then ?_ | refine ret_then ?_ | refine exit_then ?_)
  exact outs_i rfl


end Go.Proofs.YtojpcpdbnmnknaaDoor
