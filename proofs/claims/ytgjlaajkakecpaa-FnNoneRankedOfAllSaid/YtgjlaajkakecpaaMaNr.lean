/- Ranks of exchanges without own coats: the exchange with a rank has it, and lists in order have ranks in order. No program. -/
import Derived.Test.YtgjlaajkakecpaaSpNd
namespace Go.Proofs.Ytgjlaajkakecpaa
open Go.Am
theorem befF_add (L : List Int) (g : Nat) : ∀ n k a, befF L g n k a = a + befF L g n k 0
  | 0, _, a => by simp [befF]
  | n + 1, k, a => by
    simp only [befF]
    split
    · omega
    · rw [befF_add L g n (k + 1) (a + _), befF_add L g n (k + 1) (0 + _)]; omega
theorem befF_own {L : List Int} {g n k : Nat} (h : L.getD k 0 = k) : befF L g (n + 1) k 0 = smTo (L.take k) g k (L.getD k 0).toNat := by
  simp only [befF]; rw [if_pos h]; omega
theorem befF_not {L : List Int} {g n k : Nat} (h : ¬ L.getD k 0 = k) : befF L g (n + 1) k 0 = smTo (L.take k) g k (L.getD k 0).toNat + befF L g n (k + 1) 0 := by
  simp only [befF]; rw [if_neg h, befF_add]; omega
theorem smTo_mono (M : List Int) (g i : Nat) (hg : g ≤ 12) {x y : Nat} (h : x ≤ y) : smTo M g i x ≤ smTo M g i y := by
  obtain ⟨d, rfl⟩ := Nat.le.dest h
  clear h
  induction d with
  | zero => exact Int.le_refl _
  | succ d ih =>
    have := lft_le (M ++ [((x + d : Nat) : Int)]) g hg
    rw [← Nat.add_assoc]
    simp only [smTo]
    split <;> omega
theorem smTo_next {M : List Int} {g i x : Nat} (h : MayTake M i x) : smTo M g i (x + 1) = smTo M g i x + lft (M ++ [(x : Int)]) g := by
  simp only [smTo]; rw [if_pos h]
theorem lft_full {M : List Int} {g : Nat} (h : M.length = g) : lft M g = 1 := by
  unfold lft
  rw [h, Nat.sub_self]
  rfl
theorem take_snoc {L : List Int} {k : Nat} (h : k < L.length) : L.take (k + 1) = L.take k ++ [L.getD k 0] := by
  rw [List.take_succ_eq_append_getElem h]
  simp [h]
theorem take_part {L : List Int} {g : Nat} (h : Part L g) (k : Nat) : Part (L.take k) g :=
  ⟨fun x hx => h.1 x (List.take_subset _ _ hx), h.2.sublist (List.take_sublist _ _)⟩
theorem take_not {L : List Int} {g k : Nat} (h : Part L g) (hk : k < L.length) : L.getD k 0 ∉ L.take k := by
  have h1 := (take_part h (k + 1)).2
  rw [take_snoc hk, List.nodup_append] at h1
  exact fun hm => h1.2.2 _ hm _ (List.mem_singleton.2 rfl) rfl
theorem part_get {L : List Int} {g k : Nat} (h : Part L g) (hk : k < L.length) : ∃ x : Nat, L.getD k 0 = x ∧ x < g := by
  have h1 := h.1 (L.getD k 0) (by simp [hk])
  obtain ⟨x, hx⟩ := Int.eq_ofNat_of_zero_le h1.1
  exact ⟨x, hx, by omega⟩
/-- What comes before a list from a place on, against all that go on from there. -/
theorem tail_le {L : List Int} {g : Nat} (hp : Part L g) (hl : L.length = g) (hg : g ≤ 12) : ∀ n k, k + n = g → 0 ≤ befF L g n k 0 ∧ befF L g n k 0 ≤ lft (L.take k) g ∧ ((∀ j, k ≤ j → j < g → L.getD j 0 ≠ j) → befF L g n k 0 < lft (L.take k) g)
  | 0, k, hk => by
    have e : L.take k = L := List.take_of_length_le (by omega)
    rw [e, lft_full hl]
    exact ⟨by simp [befF], by simp [befF], fun _ => by simp [befF]⟩
  | n + 1, k, hk => by
    have hkl : k < L.length := by omega
    obtain ⟨x, hx, hxg⟩ := part_get hp hkl
    have hlen : (L.take k).length = k := by rw [List.length_take]; omega
    have hall := smTo_all (take_part hp k) (by omega) hg
    rw [hlen] at hall
    have hsm := smTo_le (L.take k) g k x hg
    by_cases ho : L.getD k 0 = k
    · rw [befF_own ho, hx, Int.toNat_natCast]
      have hm := smTo_mono (L.take k) g k hg (show x ≤ g by omega)
      exact ⟨hsm.1, by omega, fun h => absurd ho (h k (Nat.le_refl _) (by omega))⟩
    · obtain ⟨i1, i2, i3⟩ := tail_le hp hl hg n (k + 1) (by omega)
      have hmay : MayTake (L.take k) k x := ⟨fun e => ho (by rw [hx, e]), by rw [← hx]; exact take_not hp hkl⟩
      have hnx := smTo_next (g := g) hmay
      have hm := smTo_mono (L.take k) g k hg (show x + 1 ≤ g by omega)
      rw [take_snoc hkl, hx] at i2 i3
      rw [befF_not ho, hx, Int.toNat_natCast]
      refine ⟨by omega, by omega, fun h => ?_⟩
      have := i3 fun j h1 h2 => h j (by omega) h2
      omega
/-- Two lists that go the same way to a place j: one of them has no own coat. -/
theorem bef_same {D L : List Int} {g : Nat} (hn : ∀ k, k < g → D.getD k 0 ≠ k) {j : Nat} (hj : j < g) (hD : D.length = g) (hL : L.length = g) (he : D.take j = L.take j) : ∀ k, k ≤ j → befF D g (g - k) k 0 - befF D g (g - j) j 0 = befF L g (g - k) k 0 - befF L g (g - j) j 0 := by
  intro k hk
  obtain ⟨d, hd⟩ := Nat.le.dest hk
  induction d generalizing k with
  | zero => obtain rfl : k = j := by omega
            omega
  | succ d ih =>
    have h1 := ih (k + 1) (by omega) (by omega)
    have e : g - k = (g - (k + 1)) + 1 := by omega
    have hget : D.getD k 0 = L.getD k 0 := by
      have h2 : (D.take j).getD k 0 = (L.take j).getD k 0 := by rw [he]
      simpa [List.getD_eq_getElem?_getD, List.getElem?_take, show k < j by omega] using h2
    have htk : D.take k = L.take k := by
      have h2 : (D.take j).take k = (L.take j).take k := by rw [he]
      simpa [List.take_take, Nat.min_eq_left hk] using h2
    have hno := hn k (by omega)
    rw [e, befF_not hno, befF_not (by rw [← hget]; exact hno), hget, htk]
    omega
theorem ex_part {L : List Int} (h : IsEx L) : Part L L.length := ⟨h.2.2.1, h.2.2.2⟩
/-- An exchange without own coats ahead of an exchange has a lower rank; one behind it none lower, and a greater one if that has none, too. -/
theorem bef_lt {D L : List Int} (hD : IsEx D) (hn : ¬ HasOwn D) (hL : IsEx L) (hl : D.length = L.length) {j : Nat} (hj : j < L.length) (he : D.take j = L.take j) : (D.getD j 0 < L.getD j 0 → befR D < befR L) ∧ (L.getD j 0 < D.getD j 0 → befR L ≤ befR D ∧ (¬ HasOwn L → befR L < befR D)) := by
  have hg : L.length ≤ 12 := hL.2.1
  have hno : ∀ k, k < L.length → D.getD k 0 ≠ k := fun k hk hh => hn ⟨k, by omega, hh⟩
  have hpD : Part D L.length := by have := ex_part hD; rwa [hl] at this
  have hpL := ex_part hL
  have hs := bef_same hno hj hl rfl he 0 (Nat.zero_le _)
  rw [Nat.sub_zero] at hs
  unfold befR
  rw [hl]
  obtain ⟨d, hd, hdg⟩ := part_get hpD (show j < D.length by omega)
  obtain ⟨l, hlx, hlg⟩ := part_get hpL hj
  obtain ⟨n, hgn⟩ : ∃ n, L.length - j = n + 1 := ⟨L.length - j - 1, by omega⟩
  obtain ⟨t1, t2, t3⟩ := tail_le hpD hl hg n (j + 1) (by omega)
  obtain ⟨u1, u2, u3⟩ := tail_le hpL rfl hg n (j + 1) (by omega)
  have t4 := t3 fun i _ hi => hno i hi
  rw [take_snoc (by omega), hd, he] at t4 t2
  rw [take_snoc hj, hlx] at u2 u3
  have hmd : MayTake (L.take j) j d := ⟨fun e => hno j hj (by rw [hd, e]), by rw [← hd, ← he]; exact take_not hpD (by omega)⟩
  have nd := smTo_next (g := L.length) hmd
  rw [hgn, befF_not (hno j hj), hd, Int.toNat_natCast, he] at hs
  rw [hd, hlx]
  by_cases ho : L.getD j 0 = j
  · rw [befF_own ho, hlx, Int.toNat_natCast] at hs
    refine ⟨fun h => ?_, fun h => ⟨?_, fun h2 => absurd ⟨j, hj, ho⟩ h2⟩⟩
    · have := smTo_mono (L.take j) L.length j hg (show d + 1 ≤ l by omega)
      omega
    · have := smTo_mono (L.take j) L.length j hg (show l ≤ d by omega)
      omega
  · have hml : MayTake (L.take j) j l := ⟨fun e => ho (by rw [hlx, e]), by rw [← hlx]; exact take_not hpL hj⟩
    have nl := smTo_next (g := L.length) hml
    rw [befF_not ho, hlx, Int.toNat_natCast] at hs
    refine ⟨fun h => ?_, fun h => ⟨?_, fun h2 => ?_⟩⟩
    · have := smTo_mono (L.take j) L.length j hg (show d + 1 ≤ l by omega)
      omega
    · have := smTo_mono (L.take j) L.length j hg (show l + 1 ≤ d by omega)
      omega
    · have := smTo_mono (L.take j) L.length j hg (show l + 1 ≤ d by omega)
      have := u3 fun i _ hi hh => h2 ⟨i, hi, hh⟩
      omega
theorem pickF_sum (M : List Int) (g i : Nat) : ∀ n x r y s, pickF M g i n x r = some (y, s) → r + smTo M g i x = s + smTo M g i y
  | 0, x, r, y, s, h => by simp [pickF] at h
  | n + 1, x, r, y, s, h => by
    simp only [pickF] at h
    by_cases hc : MayTake M i x
    · rw [if_pos hc] at h
      by_cases hl : r < lft (M ++ [(x : Int)]) g
      · rw [if_pos hl] at h
        cases h
        rfl
      · rw [if_neg hl] at h
        have := pickF_sum M g i n (x + 1) _ y s h
        rw [smTo_next hc] at this
        omega
    · rw [if_neg hc] at h
      have := pickF_sum M g i n (x + 1) _ y s h
      simp only [smTo] at this
      rw [if_neg hc] at this
      exact this
theorem unr_ok (g : Nat) (hg : g ≤ 12) : ∀ n (M : List Int) (r : Int), n + M.length = g → Part M g → (∀ k, k < M.length → M.getD k 0 ≠ k) → 0 ≤ r → r < lft M g →
    (unrF g n M r).length = g ∧ Part (unrF g n M r) g ∧ (∀ k, k < g → (unrF g n M r).getD k 0 ≠ k) ∧ (unrF g n M r).take M.length = M ∧ befF (unrF g n M r) g n M.length 0 = r := by
  intro n
  induction n with
  | zero =>
    intro M r hn hp hno h0 h1
    rw [lft_full (by omega)] at h1
    simp only [unrF, befF]
    exact ⟨by omega, hp, fun k hk => hno k (by omega), List.take_of_length_le (Nat.le_refl _), by omega⟩
  | succ n ih =>
    intro M r hn hp hno h0 h1
    obtain ⟨y, s, hpick, hyg, hcan, hs0, hs1⟩ := pickF_some M g hp (by omega) hg r h1 g 0 r (by omega) h0 (by simp [smTo])
    have hsum := pickF_sum M g M.length g 0 r y s hpick
    have hz : smTo M g M.length 0 = 0 := rfl
    rw [unr_step hpick]
    have hlen : (M ++ [(y : Int)]).length = M.length + 1 := by rw [List.length_append]; rfl
    obtain ⟨a1, a2, a3, a4, a5⟩ := ih (M ++ [(y : Int)]) s (by rw [hlen]; omega) (hp.snoc hyg hcan.2) (fun k hk => by
      rw [hlen] at hk
      by_cases e : k < M.length
      · have := hno k e
        simpa [List.getD_eq_getElem?_getD, List.getElem?_append_left e] using this
      · obtain rfl : k = M.length := by omega
        have := hcan.1
        simp [List.getD_eq_getElem?_getD]
        omega) hs0 hs1
    generalize unrF g n (M ++ [(y : Int)]) s = R at *
    rw [hlen] at a4 a5
    have hkl : M.length < R.length := by omega
    rw [take_snoc hkl] at a4
    have hinj := List.append_inj a4 (by rw [List.length_take]; omega)
    have hy : R.getD M.length 0 = y := by simpa using hinj.2
    refine ⟨a1, a2, a3, hinj.1, ?_⟩
    rw [befF_not (a3 _ (by omega)), hy, Int.toNat_natCast, hinj.1, a5]
    omega
theorem rankG_ok {g : Nat} {r : Int} (h1 : 1 ≤ g) (hg : g ≤ 12) (h0 : 0 ≤ r) (hr : r < noneN g) : (rankG g r).length = g ∧ RankOk (rankG g r) ∧ befR (rankG g r) = r := by
  obtain ⟨a1, a2, a3, _, a5⟩ := unr_ok g hg g [] r (by simp) ⟨by simp, by simp⟩ (by simp) h0 (by rw [lft_none g hg]; exact hr)
  show (unrF g g [] r).length = g ∧ RankOk (unrF g g [] r) ∧ befR (unrF g g [] r) = r
  refine ⟨a1, ⟨⟨by omega, by omega, by rw [a1]; exact a2.1, a2.2⟩, fun ⟨k, hk, hh⟩ => a3 k (by omega) hh⟩, ?_⟩
  unfold befR
  rw [a1]
  exact a5
theorem first_diff : ∀ {a b : List Int}, a.length = b.length → a ≠ b → ∃ j, j < a.length ∧ a.take j = b.take j ∧ a.getD j 0 ≠ b.getD j 0
  | [], [], _, h => absurd rfl h
  | [], _ :: _, h, _ => by simp at h
  | _ :: _, [], h, _ => by simp at h
  | x :: a, y :: b, hl, h => by
    by_cases e : x = y
    · subst e
      obtain ⟨j, h1, h2, h3⟩ := first_diff (a := a) (b := b) (by simpa using hl) (fun hh => h (by rw [hh]))
      exact ⟨j + 1, by simpa using h1, by simp [h2], by simpa using h3⟩
    · exact ⟨0, by simp, rfl, by simpa using e⟩
/-- Ranks tell exchanges without own coats apart. -/
theorem bef_inj {D L : List Int} (hD : RankOk D) (hL : RankOk L) (hl : D.length = L.length) (he : befR D = befR L) : D = L := by
  refine Classical.byContradiction fun hne => ?_
  obtain ⟨j, h1, h2, h3⟩ := first_diff hl hne
  have h := bef_lt hD.1 hD.2 hL.1 hl (by omega) h2
  by_cases hlt : D.getD j 0 < L.getD j 0
  · have := h.1 hlt; omega
  · have := (h.2 (by omega)).2 hL.2; omega
/-- The rank of an exchange without own coats is one, and it leads back. -/
theorem rank_back {L : List Int} (h : RankOk L) : 0 ≤ befR L ∧ befR L < noneN L.length ∧ rankG L.length (befR L) = L := by
  have hl : 1 ≤ L.length ∧ L.length ≤ 12 := ⟨h.1.1, h.1.2.1⟩
  obtain ⟨t1, _, t3⟩ := tail_le (ex_part h.1) rfl hl.2 L.length 0 (by omega)
  have t4 := t3 fun j _ hj hh => h.2 ⟨j, hj, hh⟩
  rw [List.take_zero, lft_none _ hl.2] at t4
  have h0 : 0 ≤ befR L := t1
  have h1 : befR L < noneN L.length := t4
  obtain ⟨a1, a2, a3⟩ := rankG_ok hl.1 hl.2 h0 h1
  exact ⟨h0, h1, bef_inj a2 h a1 a3⟩
end Go.Proofs.Ytgjlaajkakecpaa
