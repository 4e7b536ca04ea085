/- Contracts: the program counts pairs, and remembers. -/
import Derived.Test.YtaflppdffkcfeaaSpMs
import Derived.Test.YtaflppdffkcfeaaAmY
namespace Go.Am
theorem m_boxf {P : Program} {own : Bool} {s : AS} {K : AS → Prop} {x : Opd} {r n : Nat} {l : List AV} (hx : s.ev x = .agg l) (hok : l.all (cellOk false) = true) (hk : killR r (false, l) = (false, l)) (k : K (((s.kill r).mem r (false, l)).put (some r) (.pt r 0))) : aop1 P own ⟨some r, .box n x, none⟩ s K :=
  ⟨r, false, rfl, .inr ⟨l, hx, hok, by rw [hk]; exact k⟩⟩
theorem killL_app (r : Nat) : ∀ l m : List AV, killL r (l ++ m) = killL r l ++ killL r m
  | [], m => by simp [killL]
  | a :: l, m => by simp [killL, killL_app r l m]
theorem killL_i (r : Nat) : ∀ l : List Int, killL r (l.map AV.i) = l.map AV.i
  | [] => rfl
  | a :: l => by rw [List.map_cons, killL, killL_i r l, killV]
/-- A remembering map whose entries are right. -/
def MapOk (F : List Int) (es : Array MapEntry) : Prop := ∀ e ∈ es.toList, ∃ n : Nat, e.key = .int .u16 (n : Nat) ∧ e.val = .int .i64 (mutN F n : Nat)
def mpC (m : Array MapEntry × Nat) : Bool × List AV := (true, [.ob (.map m.1 m.2)])
def hM (m : Array MapEntry × Nat) : Hp := fun r => if r = pbase then some (mpC m) else none
theorem hM_pb {m : Array MapEntry × Nat} (r : Nat) (h : (hM m r).isSome = true) : r = pbase := by
  unfold hM at h
  split at h
  · assumption
  · cases h
theorem hM_at {m : Array MapEntry × Nat} {r : Nat} {c : Bool × List AV} (h : hM m r = some c) : r = pbase ∧ c = mpC m := by
  unfold hM at h
  split at h
  · cases h; exact ⟨by assumption, rfl⟩
  · cases h
theorem hM_self (m : Array MapEntry × Nat) : hM m pbase = some (mpC m) := if_pos rfl
theorem lent_M {s : AS} {m m' : Array MapEntry × Nat} {n : Int} (h : s.hp pbase = some (mpC m)) : Lent s id (hM m) (hM m') (s.mem pbase (mpC m')).hp (.i n) where
  has := fun r c hc => by obtain ⟨rfl, rfl⟩ := hM_at hc; exact h
  inj := fun r r' _ _ h => h
  stay := fun r hr => by rw [hM_pb r hr, hM_self]; rfl
  fresh := fun r hr hn => by rw [hM_pb r hr, hM_self] at hn; cases hn
  new := fun r c hc => by obtain ⟨rfl, rfl⟩ := hM_at hc; simp [AS.mem]; rfl
  old := fun q hq => by
    have : q ≠ pbase := fun e => hq pbase (by rw [hM_self]; rfl) e.symm
    simp [AS.mem, this]
  ownI := fun r c hc => by obtain ⟨rfl, rfl⟩ := hM_at hc; exact ⟨rfl, rfl⟩
  ownO := fun r c hc => by obtain ⟨rfl, rfl⟩ := hM_at hc; rfl
  ownR := rfl
end Go.Am
namespace Go.Proofs.Ytaflppdffkcfeaa
open Go.Am
attribute [local irreducible] AW Outs Weak Lends Lend Sp aops atree aop1 Then Round InBlock Done
def kmV (F : List Int) : List AV := kinV F ++ [.mp pbase]
theorem kmV_len {F : List Int} (h : F.length ≤ 9) : (kmV F).length = 11 := by simp [kmV, kinV_len h]
theorem kmV_kin {F : List Int} (h : F.length ≤ 9) : ((kmV F).drop 0).take 10 = kinV F := by
  rw [List.drop_zero, kmV, List.take_left' (kinV_len h)]
theorem kmV_mp {F : List Int} (h : F.length ≤ 9) : (kmV F)[10]? = some (.mp pbase) := by
  rw [kmV, List.getElem?_append_right (by rw [kinV_len h]; exact Nat.le_refl _), kinV_len h]; rfl
theorem kmV_n (F : List Int) : (kmV F)[0]? = some (.i F.length) := rfl
theorem kmV_kill (F : List Int) : killR 2 (false, kmV F) = (false, kmV F) := by
  unfold killR kmV kinV
  simp only [List.cons_append, killL, killL_app, killL_i, killV]
  rfl
theorem kmV_ok {F : List Int} : (kmV F).all (cellOk false) = true := by
  rw [kmV, List.all_append, kinV_ok]; rfl

end Go.Proofs.Ytaflppdffkcfeaa
