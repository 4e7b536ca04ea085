/- Contracts of the library's, told to the machine: Itoa, Join. -/
import Derived.Test.YtinalepjmlilpaaDoorAmV
import Derived.Test.YtinalepjmlilpaaDoorShA
namespace Go.Am
/-- A call whose values are told, and that changes nothing. -/
theorem sp_same {P : Program} {f : FuncId} {x y : Value} (h : ∀ w, Calls P f #[x] w fun e w' => e = .returned y ∧ w' = w) : Sp P f [.v x] (.v y) := by
  intro w vs _ hent
  obtain ⟨hs, hl⟩ := hent
  obtain ⟨l⟩ := vs
  match l with
  | [] => simp at hl
  | [a] =>
    simp only [SimL, SimV, and_true] at hs
    subst hs
    refine (h w).mono fun e w' hp => ?_
    obtain ⟨rfl, rfl⟩ := hp
    exact ⟨y, rfl, More.refl _, by simp [SimV]⟩
  | _ :: _ :: _ => simp at hl
/-- Texts as values. -/
def strsA (l : List (List UInt8)) : List AV := l.map fun r => str r
/-- A call with a slice of texts and one text more. -/
theorem sp_join {P : Program} {f : FuncId} {ls : List (List UInt8)} {sep : List UInt8} {y : Value}
    (h0 : ls = [] → ∀ a c w, Calls P f #[.slice a 0 c, .string ⟨sep.toArray⟩] w fun e w' => e = .returned y ∧ w' = w)
    (h : ∀ (bk o c : Nat) (w : World), (∀ (j : Nat) x, (ls.map fun r => (⟨r.toArray⟩ : ByteArray))[j]? = some x → w.cell? ⟨bk, o + j, none⟩ = some (.string x)) → bk < w.heap.size → ls.length ≤ c →
      Calls P f #[.slice (some ⟨bk, o, none⟩) ls.length c, .string ⟨sep.toArray⟩] w fun e w' => e = .returned y ∧ RowKit.Below w.heap.size w w') :
    Sp P f [.ro false 1 (strsA ls) ls.length, str sep] (.v y) := by
  intro w vs _ hent
  obtain ⟨hs, hl⟩ := hent
  obtain ⟨l⟩ := vs
  match l with
  | [] => simp at hl
  | [_] => simp at hl
  | _ :: _ :: _ :: _ => simp at hl
  | [a, b] =>
    simp only [SimL, and_true] at hs
    obtain ⟨ha, hb⟩ := hs
    simp only [SimV] at ha hb
    subst hb
    rcases ha with ⟨hn, _, ad, c, rfl, _⟩ | ⟨bk, o, cap, cur, e, fz, rfl, hc, _, hlen, hcap, _, hsim⟩
    · have : ls = [] := List.eq_nil_of_length_eq_zero hn
      refine (h0 this ad c w).mono fun e w' hp => ?_
      obtain ⟨rfl, rfl⟩ := hp
      exact ⟨y, rfl, More.refl _, by simp [SimV]⟩
    · refine (h bk o cap w (fun j x hx => ?_) (lt_of_get hc) hcap).mono fun e w' hp => ?_
      · have hj : (strsA ls)[j]? = some (.v (.string x)) := by
          unfold strsA
          rw [List.getElem?_map] at hx ⊢
          cases hh : ls[j]? with
          | none => rw [hh] at hx; cases hx
          | some r => rw [hh] at hx; cases hx; rfl
        obtain ⟨z, hz, hzz⟩ := hsim.get hj
        simp only [SimV] at hzz
        subst hzz
        rw [List.getElem?_drop] at hz
        show w.cell? ⟨bk, o + j, none⟩ = _
        unfold World.cell?
        simp only [hc]
        simpa using hz
      · obtain ⟨rfl, hw⟩ := hp
        exact ⟨y, rfl, ⟨hw.os, hw.tape, hw.output, hw.size, hw.block⟩, by simp [SimV]⟩
end Go.Am
namespace Go.Proofs.YtinalepjmlilpaaDoor
open Go.Am
theorem itoa_spec (i : Nat) (h : i < 100) : Sp Tryd.prog 16 [.i i] (str (Lib.decDigits i)) := sp_same fun w => Tryd.strconv_Itoa_small i h w
theorem join_spec (ls : List (List UInt8)) (sep : List UInt8) (h1 : ls.length ≤ 1000000) (h2 : (Lib.join ls sep).length ≤ 1000000) : Sp Tryd.prog 17 [.ro false 1 (strsA ls) ls.length, str sep] (str (Lib.join ls sep)) := by
  have e : (ls.map fun r => (⟨r.toArray⟩ : ByteArray)).map (·.data.toList) = ls := by rw [List.map_map]; simp [Function.comp_def]
  refine sp_join (fun h0 a c w => ?_) fun bk o c w hc hb hcap => ?_
  · subst h0
    exact Tryd.strings_Join_none a c ⟨sep.toArray⟩ w
  · have := Tryd.strings_Join bk o c (ls.map fun r => (⟨r.toArray⟩ : ByteArray)) ⟨sep.toArray⟩ w hc hb (by rw [List.length_map]; omega) (by rw [List.length_map]; exact hcap) (by rw [e]; show (Lib.join ls sep).length ≤ _; omega)
    rw [e, List.length_map] at this
    exact this
end Go.Proofs.YtinalepjmlilpaaDoor
