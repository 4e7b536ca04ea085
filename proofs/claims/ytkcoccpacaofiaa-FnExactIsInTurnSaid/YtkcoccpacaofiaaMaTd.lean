/- Tables in turn; the neighbours of a guest. No program. -/
import Derived.Test.YtkcoccpacaofiaaMaTb
namespace Go.Am

/-- Those with even numbers and those with odd ones alternate. -/
def Alt (L : List Int) : Prop := ∀ i, i < L.length - 1 → L.getD i 0 % 2 ≠ L.getD (i + 1) 0 % 2
instance (L : List Int) : Decidable (Alt L) := inferInstanceAs (Decidable (∀ i, i < L.length - 1 → L.getD i 0 % 2 ≠ L.getD (i + 1) 0 % 2))
theorem alt_at {L : List Int} (h : Alt L) : ∀ i, i < L.length → L.getD i 0 % 2 = (L.getD 0 0 + i) % 2
  | 0, _ => by simp
  | i + 1, hi => by
    have h1 := alt_at h i (by omega)
    have h2 := h i (by omega)
    omega
/-- Around, too: the guests are of an even number. -/
theorem alt_end {L : List Int} (ht : IsTab L) (h : Alt L) : L.getD (L.length - 1) 0 % 2 ≠ L.getD 0 0 % 2 := by
  have h1 := alt_at h (L.length - 1) (by have := ht.1; omega)
  have h2 := ht.2.2.1
  have h3 := ht.1
  omega
end Go.Am
