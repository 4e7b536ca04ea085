/- The abstract machine: a region of which less is told. -/
import Derived.Test.YtojpcpdbnmnknaaDoorAmS
namespace Go.Am
variable {s : AS}

theorem mem_self {r : Nat} {c : Bool × List AV} (hr : s.hp r = some c) : s.mem r c = s := by
  obtain ⟨tm, hp⟩ := s
  simp only [AS.mem, AS.mk.injEq, true_and]
  funext q
  by_cases h : q = r
  · subst h; simp only [if_true]; exact hr.symm
  · simp [h]

/-- A region's last cells are forgotten. -/
theorem weak_shrink (r n : Nat) {cs : List AV} (hr : s.hp r = some (true, cs)) (hpl : cs.all plainV = true) : Weak s (s.mem r (true, cs.take n)) := by
  intro w0 mu N a w hS
  obtain ⟨hf, phi, ro, hS⟩ := hS
  rcases hS.liv r _ hr with ⟨_, h2, _⟩ | ⟨b, cur, e, h1, h2, h3, h4, h5⟩ | ⟨b, o, h0, _⟩
  · simp only at h2
    subst h2
    rw [List.take_nil, mem_self hr]
    exact ⟨hf, phi, ro, hS⟩
  · refine ⟨hf, _, ro, hS.write hr h1 h2 h2 rfl (fun _ _ _ => rfl) rfl rfl rfl (Nat.le_refl _) ?_⟩
    simp only [SimR, if_true] at h5 ⊢
    exact h5.take n
  · cases h0
    simp [plainV] at hpl
end Go.Am
