/- Tables and rows counted by couples who are together, as integers alone. No program. -/
import Derived.Test.YtpefdmmnimmpiaaMaI
import Derived.Test.YtpefdmmnimmpiaaAmX
namespace Go.Am
variable {P : Program} {own : Bool} {s : AS} {K : AS → Prop} {d : Option Nat}

theorem m_shl {x y : Opd} {a : Int} {k : Nat} (hx : s.ev x = .i a) (hy : s.ev y = .i (k : Nat)) (hk : k < 64) (h1 : -9223372036854775808 ≤ a * 2 ^ k) (h2 : a * 2 ^ k ≤ 9223372036854775807) (kk : K (s.put d (.i (a * 2 ^ k)))) : aop1 P own ⟨d, .bin .shl x y, none⟩ s K := by
  refine ⟨_, _, _, hx, hy, ?_, kk⟩
  have h3 : ¬ ((k : Nat) : Int) < 0 := by omega
  have h4 : min ((k : Nat) : Int).toNat IntKind.i64.bits = k := by show min _ 64 = k; omega
  show (if ((k : Nat) : Int) < 0 then none else some (Value.int .i64 (IntKind.i64.wrap (a * 2 ^ (min ((k : Nat) : Int).toNat IntKind.i64.bits))))) = _
  rw [if_neg h3, h4, show IntKind.i64.wrap (a * 2 ^ k) = a * 2 ^ k from by rw [IntKind.wrap_i64]; omega]
theorem m_neg {x : Opd} {a : Int} (hx : s.ev x = .i a) (h1 : -9223372036854775807 ≤ a) (h2 : a ≤ 9223372036854775807) (kk : K (s.put d (.i (0 - a)))) : aop1 P own ⟨d, .neg x, none⟩ s K := by
  refine ⟨_, _, hx, ?_⟩
  rw [show IntKind.i64.wrap (0 - a) = 0 - a from by rw [IntKind.wrap_i64]; omega]
  exact kk

theorem fac14_le : ∀ n < 15, 1 ≤ fac n ∧ fac n ≤ 87178291200 := by decide +kernel
/-- In how many ways k of n are chosen: by division; behind j steps of the other way. -/
def binC (n k : Nat) : Int := fac n / (fac k * fac (n - k))
def chx (n k : Nat) : Nat → Int
  | 0 => 1
  | j + 1 => chx n k j * ((n : Int) - k + ((j : Int) + 1)) / ((j : Int) + 1)
theorem chx_le : ∀ n < 8, ∀ k < n + 1, ∀ j < k + 1, (0 ≤ chx n k j ∧ chx n k j ≤ 1000) ∧ 0 ≤ chx n k j * ((n : Int) - k + ((j : Int) + 1)) ∧ chx n k j * ((n : Int) - k + ((j : Int) + 1)) ≤ 100000 := by decide +kernel
theorem bin_le : ∀ n < 8, ∀ k < n + 1, (1 ≤ fac k * fac (n - k) ∧ fac k * fac (n - k) ≤ 5040) ∧ (1 ≤ fac n ∧ fac n ≤ 5040) ∧ 0 ≤ binC n k ∧ binC n k ≤ 1000 := by decide +kernel

/-- In how many ways couples are chosen to be together, for each number of them; orders tells in how many ways so many can sit. -/
def chosT (orders : Nat → Int) (c k : Nat) : Int := binC c k * 2 ^ k * orders (2 * c - k)
def chosTo (orders : Nat → Int) (c k : Nat) : List Int := ((List.range k).map fun i => chosT orders c i) ++ List.replicate (c + 1 - k) 0
def chosL (orders : Nat → Int) (c : Nat) : List Int := (List.range (c + 1)).map fun i => chosT orders c i
theorem chosTo_len (orders : Nat → Int) (c k : Nat) (h : k ≤ c + 1) : (chosTo orders c k).length = c + 1 := by simp [chosTo]; omega
theorem chosTo_set (orders : Nat → Int) (c k : Nat) (h : k < c + 1) : (chosTo orders c k).set k (chosT orders c k) = chosTo orders c (k + 1) := by
  unfold chosTo
  have e : c + 1 - k = (c + 1 - (k + 1)) + 1 := by omega
  rw [e, List.replicate_succ, List.set_append_right _ _ (by simp)]
  simp [List.range_succ]
theorem chosTo_all (orders : Nat → Int) (c : Nat) : chosTo orders c (c + 1) = chosL orders c := by simp [chosTo, chosL]
theorem chosL_len (orders : Nat → Int) (c : Nat) : (chosL orders c).length = c + 1 := by simp [chosL]

/-- Those that have just so many, out of those that are chosen: row k behind j steps; d rows from the last one on. -/
def jRow (w : List Int) (k : Nat) : Nat → List Int
  | 0 => w
  | j + 1 => (jRow w k j).set k ((jRow w k j).getD k 0 - binC (k + 1 + j) k * (jRow w k j).getD (k + 1 + j) 0)
def jTo (w : List Int) : Nat → List Int
  | 0 => w
  | d + 1 => jRow (jTo w d) (w.length - 1 - d) d
theorem jRow_len (w : List Int) (k j : Nat) : (jRow w k j).length = w.length := by
  induction j with
  | zero => rfl
  | succ j ih => rw [jRow, List.length_set, ih]
theorem jTo_len (w : List Int) (d : Nat) : (jTo w d).length = w.length := by
  induction d with
  | zero => rfl
  | succ d ih => rw [jTo, jRow_len, ih]
/-- Nothing becomes too large on the way. -/
def JOk (w : List Int) : Prop := ∀ d < w.length, ∀ j < d, (-1000000000000000 ≤ (jRow (jTo w d) (w.length - 1 - d) j).getD (w.length - 1 - d) 0 ∧ (jRow (jTo w d) (w.length - 1 - d) j).getD (w.length - 1 - d) 0 ≤ 1000000000000000) ∧
  -1000000000000000 ≤ binC (w.length - 1 - d + 1 + j) (w.length - 1 - d) * (jRow (jTo w d) (w.length - 1 - d) j).getD (w.length - 1 - d + 1 + j) 0 ∧ binC (w.length - 1 - d + 1 + j) (w.length - 1 - d) * (jRow (jTo w d) (w.length - 1 - d) j).getD (w.length - 1 - d + 1 + j) 0 ≤ 1000000000000000
instance (w : List Int) : Decidable (JOk w) := inferInstanceAs (Decidable (∀ d < w.length, ∀ j < d, (_ ∧ _) ∧ _ ∧ _))

/-- The specification's sum, with signs in turn. -/
def exPart (told : List Int) (many k : Nat) : Int := if (k - many) % 2 = 1 then 0 - told.getD k 0 * chx k many many else told.getD k 0 * chx k many many
def exSum (told : List Int) (many : Nat) : Nat → Int
  | 0 => 0
  | j + 1 => exSum told many j + exPart told many (many + j)
def exactS (told : List Int) (many : Nat) : Int := exSum told many (told.length - many)
def ExOk (told : List Int) (many : Nat) : Prop := ∀ j < told.length - many, (-1000000000000000 ≤ exSum told many j ∧ exSum told many j ≤ 1000000000000000) ∧ -1000000000000000 ≤ told.getD (many + j) 0 * chx (many + j) many many ∧ told.getD (many + j) 0 * chx (many + j) many many ≤ 1000000000000000
instance (told : List Int) (many : Nat) : Decidable (ExOk told many) := inferInstanceAs (Decidable (∀ j < told.length - many, (_ ∧ _) ∧ _ ∧ _))

def facM (m : Nat) : Int := fac (m - 1)
/-- What the code counts around, and in a row. -/
def roundL (c : Nat) : List Int := if c = 1 then [0, 1] else jTo (chosL facM c) (c + 1)
def rowL (c : Nat) : List Int := jTo (chosL fac c) (c + 1)
/-- What the specification sums. -/
def toldT (orders : Nat → Int) (c k : Nat) : Int := chx c k k * 2 ^ k * orders (2 * c - k)
def roundS (c k : Nat) : List Int := (List.range k).map fun i => if c = 1 then 1 else toldT facM c i
def rowS (c k : Nat) : List Int := (List.range k).map fun i => toldT fac c i
theorem roundS_snoc (c k : Nat) : roundS c (k + 1) = roundS c k ++ [if c = 1 then 1 else toldT facM c k] := by simp [roundS, List.range_succ]
theorem rowS_snoc (c k : Nat) : rowS c (k + 1) = rowS c k ++ [toldT fac c k] := by simp [rowS, List.range_succ]
theorem roundS_len (c k : Nat) : (roundS c k).length = k := by simp [roundS]
theorem rowS_len (c k : Nat) : (rowS c k).length = k := by simp [rowS]

theorem jok_round : ∀ c < 8, JOk (chosL facM c) := by decide +kernel
theorem jok_row : ∀ c < 8, JOk (chosL fac c) := by decide +kernel
theorem exok_round : ∀ c < 8, ∀ t < c + 1, ExOk (roundS c (c + 1)) t := by decide +kernel
theorem exok_row : ∀ c < 8, ∀ t < c + 1, ExOk (rowS c (c + 1)) t := by decide +kernel
theorem chos_le : ∀ c < 8, ∀ k < c + 1, (0 ≤ binC c k * 2 ^ k ∧ binC c k * 2 ^ k ≤ 100000) ∧ (0 ≤ chosT fac c k ∧ chosT fac c k ≤ 1000000000000000) ∧ 0 ≤ chosT facM c k ∧ chosT facM c k ≤ 1000000000000000 := by decide +kernel
theorem told_le : ∀ c < 8, ∀ k < c + 1, (0 ≤ chx c k k ∧ chx c k k ≤ 1000) ∧ (0 ≤ chx c k k * 2 ^ k ∧ chx c k k * 2 ^ k ≤ 100000) ∧ (0 ≤ toldT fac c k ∧ toldT fac c k ≤ 1000000000000000) ∧ 0 ≤ toldT facM c k ∧ toldT facM c k ≤ 1000000000000000 := by decide +kernel
/-- Both count alike. -/
theorem round_same : ∀ c < 8, 1 ≤ c → ∀ t < c + 1, (roundL c).getD t 0 = exactS (roundS c (c + 1)) t := by decide +kernel
theorem row_same : ∀ c < 8, 1 ≤ c → ∀ t < c + 1, (rowL c).getD t 0 = exactS (rowS c (c + 1)) t := by decide +kernel
theorem round_le : ∀ c < 8, 1 ≤ c → 0 ≤ (roundL c).getD 0 0 ∧ (roundL c).getD 0 0 ≤ 10000000000 := by decide +kernel
theorem roundL_len : ∀ c < 8, 1 ≤ c → (roundL c).length = c + 1 := by decide +kernel
end Go.Am
