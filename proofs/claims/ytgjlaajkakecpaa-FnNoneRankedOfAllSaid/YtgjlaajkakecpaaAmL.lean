/- The abstract machine, part twelve: code, loops, whole functions. -/
import Derived.Test.YtgjlaajkakecpaaAmK
namespace Go.Am
variable {P : Program} {N : Nat} {s : AS} {Q : Exit → AS → Prop}

/-- A region whose orders the machine does not know stands for nothing: no proof may come to it. -/
def treeOf : Option ATree → ACode
  | some t => .tree t
  | none => .dead

def ccode (P : Program) (N : Nat) : Code → Option ACode
  | .skip => some .skip
  | .region _ ops draw => (ops.toList.mapM (cop P N ops)).bind fun l =>
      if draw then (if P.follows .mixedOrders then some (treeOf (plan ops l ops.size (Array.replicate ops.size false))) else none) else some (.ops l)
  | .seq a b => (ccode P N a).bind fun x => (ccode P N b).map fun y => .seq x y
  | .cond c a b => (ccode P N a).bind fun x => (ccode P N b).map fun y => .cond (opd c) x y
  | .block id a => (ccode P N a).map (.block id)
  | .loop a => (ccode P N a).map .loop
  | .exit id => some (.exit id)
  | .ret => some .ret
  | .scope a => (ccode P N a).map .scope
  | .label l => some (.label l)
  | .goto l => some (.goto l)
  | _ => some .dead

/-- From the state s the code comes to an exit and a state of which Q tells. -/
def AW (P : Program) (N : Nat) (c : ACode) (s : AS) (Q : Exit → AS → Prop) : Prop :=
  ∀ code, ccode P N code = some c → ∀ w0 mu a w, Simw w0 mu N s a w → code.wp P (fun e a' w' => After w0 mu N (Q e) a' w') a w

theorem Weak.refl (s : AS) : Weak s s := fun _ _ _ _ _ h => h
theorem Weak.trans {s t u : AS} (h : Weak s t) (k : Weak t u) : Weak s u := fun _ _ _ _ _ x => k _ _ _ _ _ (h _ _ _ _ _ x)

theorem AW_weak {c : ACode} {s s' : AS} (h : Weak s s') (k : AW P N c s' Q) : AW P N c s Q := fun code hc w0 mu a w hS => k code hc w0 mu a w (h _ _ _ _ _ hS)

theorem AW_mono {c : ACode} {Q' : Exit → AS → Prop} (k : AW P N c s Q) (h : ∀ e s, Q e s → Q' e s) : AW P N c s Q' :=
  fun code hc w0 mu a w hS => wp_mono (k code hc w0 mu a w hS) fun e _ _ ⟨s', h1, h2⟩ => ⟨s', h e s' h1, h2⟩

theorem AW_skip (h : Q .normal s) : AW P N .skip s Q := by
  intro code hc w0 mu a w hS
  cases code <;> simp only [ccode] at hc
  case skip => exact wp_skip ⟨s, h, hS⟩
  case region id ops draw =>
    rw [Option.bind_eq_some_iff] at hc
    obtain ⟨l, _, hc⟩ := hc
    split at hc
    · split at hc
      · generalize plan ops _ ops.size (Array.replicate ops.size false) = o at hc; cases o <;> cases hc
      · cases hc
    · cases hc
  case seq => rw [Option.bind_eq_some_iff] at hc; obtain ⟨_, _, hc⟩ := hc; rw [Option.map_eq_some_iff] at hc; obtain ⟨_, _, hc⟩ := hc; cases hc
  case cond => rw [Option.bind_eq_some_iff] at hc; obtain ⟨_, _, hc⟩ := hc; rw [Option.map_eq_some_iff] at hc; obtain ⟨_, _, hc⟩ := hc; cases hc
  case block => rw [Option.map_eq_some_iff] at hc; obtain ⟨_, _, hc⟩ := hc; cases hc
  case scope => rw [Option.map_eq_some_iff] at hc; obtain ⟨_, _, hc⟩ := hc; cases hc
  case loop => rw [Option.map_eq_some_iff] at hc; obtain ⟨_, _, hc⟩ := hc; cases hc
  all_goals cases hc

theorem AW_ops {l : List AOper} (h : aops P true l s (Q .normal)) : AW P N (.ops l) s Q := by
  intro code hc w0 mu a w hS
  cases code <;> simp only [ccode] at hc
  case region id ops draw =>
    rw [Option.bind_eq_some_iff] at hc
    obtain ⟨l', hl, hc⟩ := hc
    split at hc
    · split at hc
      · generalize plan ops _ ops.size (Array.replicate ops.size false) = o at hc; cases o <;> cases hc
      · cases hc
    · rename_i hd
      cases hc
      have hd' : draw = false := by simpa using hd
      subst hd'
      refine wp_region ?_
      have hcomp := comp_of_mapM ops ops.toList 0 l (fun j => by simp) hl
      rw [Array.length_toList, ← List.range_eq_range'] at hcomp
      exact aops_sound (fun a w hA => hA) hcomp hS h
  case seq => rw [Option.bind_eq_some_iff] at hc; obtain ⟨_, _, hc⟩ := hc; rw [Option.map_eq_some_iff] at hc; obtain ⟨_, _, hc⟩ := hc; cases hc
  case cond => rw [Option.bind_eq_some_iff] at hc; obtain ⟨_, _, hc⟩ := hc; rw [Option.map_eq_some_iff] at hc; obtain ⟨_, _, hc⟩ := hc; cases hc
  case block => rw [Option.map_eq_some_iff] at hc; obtain ⟨_, _, hc⟩ := hc; cases hc
  case scope => rw [Option.map_eq_some_iff] at hc; obtain ⟨_, _, hc⟩ := hc; cases hc
  case loop => rw [Option.map_eq_some_iff] at hc; obtain ⟨_, _, hc⟩ := hc; cases hc
  all_goals cases hc

theorem Simw.draw {w0 w : World} {mu : Nat → Option Nat} {a : Act} (h : Simw w0 mu N s a w) : Simw w0 mu N s a { w with drawn := w.drawn + 1 } := by
  obtain ⟨hf, phi, ro, h⟩ := h
  exact ⟨hf, phi, ro, h.more_same (More.drew w)⟩

theorem AW_tree {t : ATree} (h : atree P t s (Q .normal)) : AW P N (.tree t) s Q := by
  intro code hc w0 mu a w hS
  cases code <;> simp only [ccode] at hc
  case region id ops draw =>
    rw [Option.bind_eq_some_iff] at hc
    obtain ⟨l', hl, hc⟩ := hc
    split at hc
    · rename_i hd
      split at hc
      · rename_i hm
        cases ht : plan ops l' ops.size (Array.replicate ops.size false) with
        | none => rw [ht] at hc; cases hc
        | some t' =>
        rw [ht] at hc
        cases hc
        subst hd
        have hcomp := compiled_of_mapM hl
        exact wp_region_any hm (aAny_sound hcomp (fun a w hA => hA) _ _ _ _ _ hS.draw (plan_sound hcomp _ _ _ _ ht h))
      · cases hc
    · cases hc
  case seq => rw [Option.bind_eq_some_iff] at hc; obtain ⟨_, _, hc⟩ := hc; rw [Option.map_eq_some_iff] at hc; obtain ⟨_, _, hc⟩ := hc; cases hc
  case cond => rw [Option.bind_eq_some_iff] at hc; obtain ⟨_, _, hc⟩ := hc; rw [Option.map_eq_some_iff] at hc; obtain ⟨_, _, hc⟩ := hc; cases hc
  case block => rw [Option.map_eq_some_iff] at hc; obtain ⟨_, _, hc⟩ := hc; cases hc
  case scope => rw [Option.map_eq_some_iff] at hc; obtain ⟨_, _, hc⟩ := hc; cases hc
  case loop => rw [Option.map_eq_some_iff] at hc; obtain ⟨_, _, hc⟩ := hc; cases hc
  all_goals cases hc

/-- Behind a statement that comes to its end: the next one. -/
def Then (K : AS → Prop) (Q : Exit → AS → Prop) : Exit → AS → Prop
  | .normal, s => K s
  | e, s => Q e s

theorem AW_seq {x y : ACode} (h : AW P N x s (Then (fun s' => AW P N y s' Q) Q)) : AW P N (.seq x y) s Q := by
  intro code hc w0 mu a w hS
  cases code <;> simp only [ccode] at hc
  case region id ops draw =>
    rw [Option.bind_eq_some_iff] at hc
    obtain ⟨l, _, hc⟩ := hc
    split at hc
    · split at hc
      · generalize plan ops _ ops.size (Array.replicate ops.size false) = o at hc; cases o <;> cases hc
      · cases hc
    · cases hc
  case seq p q =>
    rw [Option.bind_eq_some_iff] at hc
    obtain ⟨x', hx, hc⟩ := hc
    rw [Option.map_eq_some_iff] at hc
    obtain ⟨y', hy, hc⟩ := hc
    cases hc
    refine wp_seq (wp_mono (h p hx w0 mu a w hS) fun e a' w' hA => ?_)
    obtain ⟨s', h1, h2⟩ := hA
    cases e with
    | normal => exact h1 q hy w0 mu a' w' h2
    | _ => exact ⟨s', h1, h2⟩
  case cond => rw [Option.bind_eq_some_iff] at hc; obtain ⟨_, _, hc⟩ := hc; rw [Option.map_eq_some_iff] at hc; obtain ⟨_, _, hc⟩ := hc; cases hc
  case block => rw [Option.map_eq_some_iff] at hc; obtain ⟨_, _, hc⟩ := hc; cases hc
  case scope => rw [Option.map_eq_some_iff] at hc; obtain ⟨_, _, hc⟩ := hc; cases hc
  case loop => rw [Option.map_eq_some_iff] at hc; obtain ⟨_, _, hc⟩ := hc; cases hc
  all_goals cases hc

theorem AW_cond {c : Opd} {x y : ACode} {b : Bool} (hb : s.ev c = .v (.bool b)) (hx : b = true → AW P N x s Q) (hy : b = false → AW P N y s Q) : AW P N (.cond c x y) s Q := by
  intro code hc w0 mu a w hS
  cases code <;> simp only [ccode] at hc
  case region id ops draw =>
    rw [Option.bind_eq_some_iff] at hc
    obtain ⟨l, _, hc⟩ := hc
    split at hc
    · split at hc
      · generalize plan ops _ ops.size (Array.replicate ops.size false) = o at hc; cases o <;> cases hc
      · cases hc
    · cases hc
  case seq => rw [Option.bind_eq_some_iff] at hc; obtain ⟨_, _, hc⟩ := hc; rw [Option.map_eq_some_iff] at hc; obtain ⟨_, _, hc⟩ := hc; cases hc
  case cond c' p q =>
    rw [Option.bind_eq_some_iff] at hc
    obtain ⟨x', hx', hc⟩ := hc
    rw [Option.map_eq_some_iff] at hc
    obtain ⟨y', hy', hc⟩ := hc
    cases hc
    obtain ⟨hf, phi, ro, h⟩ := hS
    have hev := h.ev c'
    rw [hb] at hev
    simp only [SimV] at hev
    cases b
    · exact wp_cond_false hev (hy rfl q hy' w0 mu a w ⟨hf, phi, ro, h⟩)
    · exact wp_cond_true hev (hx rfl p hx' w0 mu a w ⟨hf, phi, ro, h⟩)
  case block => rw [Option.map_eq_some_iff] at hc; obtain ⟨_, _, hc⟩ := hc; cases hc
  case scope => rw [Option.map_eq_some_iff] at hc; obtain ⟨_, _, hc⟩ := hc; cases hc
  case loop => rw [Option.map_eq_some_iff] at hc; obtain ⟨_, _, hc⟩ := hc; cases hc
  all_goals cases hc

def InBlock (id : Nat) (Q : Exit → AS → Prop) : Exit → AS → Prop
  | .exit id', s => if id' = id then Q .normal s else Q (.exit id') s
  | e, s => Q e s

theorem AW_block {id : Nat} {x : ACode} (h : AW P N x s (InBlock id Q)) : AW P N (.block id x) s Q := by
  intro code hc w0 mu a w hS
  cases code <;> simp only [ccode] at hc
  case region id ops draw =>
    rw [Option.bind_eq_some_iff] at hc
    obtain ⟨l, _, hc⟩ := hc
    split at hc
    · split at hc
      · generalize plan ops _ ops.size (Array.replicate ops.size false) = o at hc; cases o <;> cases hc
      · cases hc
    · cases hc
  case seq => rw [Option.bind_eq_some_iff] at hc; obtain ⟨_, _, hc⟩ := hc; rw [Option.map_eq_some_iff] at hc; obtain ⟨_, _, hc⟩ := hc; cases hc
  case cond => rw [Option.bind_eq_some_iff] at hc; obtain ⟨_, _, hc⟩ := hc; rw [Option.map_eq_some_iff] at hc; obtain ⟨_, _, hc⟩ := hc; cases hc
  case block id' p =>
    rw [Option.map_eq_some_iff] at hc
    obtain ⟨x', hx, hc⟩ := hc
    cases hc
    refine wp_block (wp_mono (h p hx w0 mu a w hS) fun e a' w' hA => ?_)
    obtain ⟨s', h1, h2⟩ := hA
    cases e with
    | exit id' =>
      simp only [InBlock] at h1
      simp only [Exit.inBlock]
      split
      · rename_i he; rw [if_pos he] at h1; exact ⟨s', h1, h2⟩
      · rename_i he; rw [if_neg he] at h1; exact ⟨s', h1, h2⟩
    | _ => exact ⟨s', h1, h2⟩
  case loop => rw [Option.map_eq_some_iff] at hc; obtain ⟨_, _, hc⟩ := hc; cases hc
  case scope => rw [Option.map_eq_some_iff] at hc; obtain ⟨_, _, hc⟩ := hc; cases hc
  all_goals cases hc

theorem AW_exit {id : Nat} (h : Q (.exit id) s) : AW P N (.exit id) s Q := by
  intro code hc w0 mu a w hS
  cases code <;> simp only [ccode] at hc
  case region id ops draw =>
    rw [Option.bind_eq_some_iff] at hc
    obtain ⟨l, _, hc⟩ := hc
    split at hc
    · split at hc
      · generalize plan ops _ ops.size (Array.replicate ops.size false) = o at hc; cases o <;> cases hc
      · cases hc
    · cases hc
  case seq => rw [Option.bind_eq_some_iff] at hc; obtain ⟨_, _, hc⟩ := hc; rw [Option.map_eq_some_iff] at hc; obtain ⟨_, _, hc⟩ := hc; cases hc
  case cond => rw [Option.bind_eq_some_iff] at hc; obtain ⟨_, _, hc⟩ := hc; rw [Option.map_eq_some_iff] at hc; obtain ⟨_, _, hc⟩ := hc; cases hc
  case block => rw [Option.map_eq_some_iff] at hc; obtain ⟨_, _, hc⟩ := hc; cases hc
  case scope => rw [Option.map_eq_some_iff] at hc; obtain ⟨_, _, hc⟩ := hc; cases hc
  case loop => rw [Option.map_eq_some_iff] at hc; obtain ⟨_, _, hc⟩ := hc; cases hc
  case exit id' => cases hc; exact wp_exit ⟨s, h, hS⟩
  all_goals cases hc

theorem AW_ret (h : Q .ret s) : AW P N .ret s Q := by
  intro code hc w0 mu a w hS
  cases code <;> simp only [ccode] at hc
  case region id ops draw =>
    rw [Option.bind_eq_some_iff] at hc
    obtain ⟨l, _, hc⟩ := hc
    split at hc
    · split at hc
      · generalize plan ops _ ops.size (Array.replicate ops.size false) = o at hc; cases o <;> cases hc
      · cases hc
    · cases hc
  case seq => rw [Option.bind_eq_some_iff] at hc; obtain ⟨_, _, hc⟩ := hc; rw [Option.map_eq_some_iff] at hc; obtain ⟨_, _, hc⟩ := hc; cases hc
  case cond => rw [Option.bind_eq_some_iff] at hc; obtain ⟨_, _, hc⟩ := hc; rw [Option.map_eq_some_iff] at hc; obtain ⟨_, _, hc⟩ := hc; cases hc
  case block => rw [Option.map_eq_some_iff] at hc; obtain ⟨_, _, hc⟩ := hc; cases hc
  case scope => rw [Option.map_eq_some_iff] at hc; obtain ⟨_, _, hc⟩ := hc; cases hc
  case loop => rw [Option.map_eq_some_iff] at hc; obtain ⟨_, _, hc⟩ := hc; cases hc
  case ret => exact wp_ret ⟨s, h, hS⟩
  all_goals cases hc

/-- What comes behind a label of a scope. -/
def afind : ACode → Nat → Option ACode
  | .seq a b, l =>
    match afind a l with
    | some rest => some (.seq rest b)
    | none => afind b l
  | .label l', l => if l' == l then some .skip else none
  | _, _ => none

theorem find_cc (l : Nat) : ∀ (c : Code) (ac : ACode), ccode P N c = some ac → (∀ ar, afind ac l = some ar → ∃ rest, findLabel c l = some rest ∧ ccode P N rest = some ar) ∧ (afind ac l = none → findLabel c l = none) := by
  intro c
  induction c with
  | seq a b iha ihb =>
    intro ac hc
    simp only [ccode] at hc
    rw [Option.bind_eq_some_iff] at hc
    obtain ⟨x, hx, hc⟩ := hc
    rw [Option.map_eq_some_iff] at hc
    obtain ⟨y, hy, rfl⟩ := hc
    have ha := iha x hx
    have hb := ihb y hy
    cases h : afind x l with
    | some r =>
      obtain ⟨rest, h1, h2⟩ := ha.1 r h
      refine ⟨fun ar har => ?_, fun hn => ?_⟩
      · simp only [afind, h, Option.some.injEq] at har
        subst har
        exact ⟨.seq rest b, by simp [findLabel, h1], by simp [ccode, h2, hy]⟩
      · simp [afind, h] at hn
    | none =>
      have h1 := ha.2 h
      refine ⟨fun ar har => ?_, fun hn => ?_⟩
      · simp only [afind, h] at har
        obtain ⟨rest, h2, h3⟩ := hb.1 ar har
        exact ⟨rest, by simp [findLabel, h1, h2], h3⟩
      · simp only [afind, h] at hn
        simp [findLabel, h1, hb.2 hn]
  | label l' =>
    intro ac hc
    simp only [ccode, Option.some.injEq] at hc
    subst hc
    by_cases h : l' = l
    · subst h
      exact ⟨fun ar har => ⟨.skip, by simp [findLabel], by simp [afind] at har; subst har; rfl⟩, fun hn => by simp [afind] at hn⟩
    · exact ⟨fun ar har => by simp [afind, h] at har, fun _ => by simp [findLabel, h]⟩
  | region id ops draw =>
    intro ac hc
    refine ⟨fun ar har => ?_, fun _ => by simp [findLabel]⟩
    exfalso
    simp only [ccode] at hc
    rw [Option.bind_eq_some_iff] at hc
    obtain ⟨m, _, hc⟩ := hc
    split at hc
    · split at hc
      · generalize plan ops _ ops.size (Array.replicate ops.size false) = o at hc
        cases o <;> cases hc <;> simp [afind, treeOf] at har
      · cases hc
    · cases hc; simp [afind] at har
  | cond c a b _ _ =>
    intro ac hc
    simp only [ccode] at hc
    rw [Option.bind_eq_some_iff] at hc
    obtain ⟨x, hx, hc⟩ := hc
    rw [Option.map_eq_some_iff] at hc
    obtain ⟨y, hy, rfl⟩ := hc
    exact ⟨fun ar har => by simp [afind] at har, fun _ => by simp [findLabel]⟩
  | block id a _ =>
    intro ac hc
    simp only [ccode] at hc
    rw [Option.map_eq_some_iff] at hc
    obtain ⟨y, hy, rfl⟩ := hc
    exact ⟨fun ar har => by simp [afind] at har, fun _ => by simp [findLabel]⟩
  | loop a _ =>
    intro ac hc
    simp only [ccode] at hc
    rw [Option.map_eq_some_iff] at hc
    obtain ⟨y, hy, rfl⟩ := hc
    exact ⟨fun ar har => by simp [afind] at har, fun _ => by simp [findLabel]⟩
  | scope a _ =>
    intro ac hc
    simp only [ccode] at hc
    rw [Option.map_eq_some_iff] at hc
    obtain ⟨y, hy, rfl⟩ := hc
    exact ⟨fun ar har => by simp [afind] at har, fun _ => by simp [findLabel]⟩
  | skip => intro ac hc; cases hc; exact ⟨fun ar har => by simp [afind] at har, fun _ => by simp [findLabel]⟩
  | exit id => intro ac hc; cases hc; exact ⟨fun ar har => by simp [afind] at har, fun _ => by simp [findLabel]⟩
  | goto id => intro ac hc; cases hc; exact ⟨fun ar har => by simp [afind] at har, fun _ => by simp [findLabel]⟩
  | ret => intro ac hc; cases hc; exact ⟨fun ar har => by simp [afind] at har, fun _ => by simp [findLabel]⟩
  | rangeFunc f ps x y _ _ => intro ac hc; cases hc; exact ⟨fun ar har => by simp [afind] at har, fun _ => by simp [findLabel]⟩
  | refuse why => intro ac hc; cases hc; exact ⟨fun ar har => by simp [afind] at har, fun _ => by simp [findLabel]⟩

/-- What the text of a scope owes: an exit; or a jump to the label, with the state that is told of there, and that the jumps end. -/
def Jump {α : Type} (l : Nat) (Inv : α → Prop) (I : α → AS) (m : α → Nat) (bd : Option Nat) (Q : Exit → AS → Prop) : Exit → AS → Prop
  | .goto l', s => l' = l ∧ ∃ x', Inv x' ∧ Weak s (I x') ∧ ∀ n, bd = some n → m x' < n
  | e, s => Q e s

theorem AW_goto {l : Nat} (h : Q (.goto l) s) : AW P N (.goto l) s Q := by
  intro code hc w0 mu a w hS
  cases code <;> simp only [ccode] at hc
  case region id ops draw =>
    rw [Option.bind_eq_some_iff] at hc
    obtain ⟨l, _, hc⟩ := hc
    split at hc
    · split at hc
      · generalize plan ops _ ops.size (Array.replicate ops.size false) = o at hc; cases o <;> cases hc
      · cases hc
    · cases hc
  case seq => rw [Option.bind_eq_some_iff] at hc; obtain ⟨_, _, hc⟩ := hc; rw [Option.map_eq_some_iff] at hc; obtain ⟨_, _, hc⟩ := hc; cases hc
  case cond => rw [Option.bind_eq_some_iff] at hc; obtain ⟨_, _, hc⟩ := hc; rw [Option.map_eq_some_iff] at hc; obtain ⟨_, _, hc⟩ := hc; cases hc
  case block => rw [Option.map_eq_some_iff] at hc; obtain ⟨_, _, hc⟩ := hc; cases hc
  case scope => rw [Option.map_eq_some_iff] at hc; obtain ⟨_, _, hc⟩ := hc; cases hc
  case loop => rw [Option.map_eq_some_iff] at hc; obtain ⟨_, _, hc⟩ := hc; cases hc
  case goto l' => cases hc; exact wp_goto ⟨s, h, hS⟩
  all_goals cases hc

theorem AW_label {l : Nat} (h : Q .normal s) : AW P N (.label l) s Q := by
  intro code hc w0 mu a w hS
  cases code <;> simp only [ccode] at hc
  case region id ops draw =>
    rw [Option.bind_eq_some_iff] at hc
    obtain ⟨l, _, hc⟩ := hc
    split at hc
    · split at hc
      · generalize plan ops _ ops.size (Array.replicate ops.size false) = o at hc; cases o <;> cases hc
      · cases hc
    · cases hc
  case seq => rw [Option.bind_eq_some_iff] at hc; obtain ⟨_, _, hc⟩ := hc; rw [Option.map_eq_some_iff] at hc; obtain ⟨_, _, hc⟩ := hc; cases hc
  case cond => rw [Option.bind_eq_some_iff] at hc; obtain ⟨_, _, hc⟩ := hc; rw [Option.map_eq_some_iff] at hc; obtain ⟨_, _, hc⟩ := hc; cases hc
  case block => rw [Option.map_eq_some_iff] at hc; obtain ⟨_, _, hc⟩ := hc; cases hc
  case scope => rw [Option.map_eq_some_iff] at hc; obtain ⟨_, _, hc⟩ := hc; cases hc
  case loop => rw [Option.map_eq_some_iff] at hc; obtain ⟨_, _, hc⟩ := hc; cases hc
  case label l' => exact wp_label ⟨s, h, hS⟩
  all_goals cases hc

theorem AW_scope {c rest : ACode} {α : Type} (l : Nat) (Inv : α → Prop) (I : α → AS) (m : α → Nat) (hfind : afind c l = some rest) (first : AW P N c s (Jump l Inv I m none Q))
    (pass : ∀ x, Inv x → AW P N rest (I x) (Jump l Inv I m (some (m x)) Q)) : AW P N (.scope c) s Q := by
  intro code hc w0 mu a w hS
  cases code <;> simp only [ccode] at hc
  case region id ops draw =>
    rw [Option.bind_eq_some_iff] at hc
    obtain ⟨l, _, hc⟩ := hc
    split at hc
    · split at hc
      · generalize plan ops _ ops.size (Array.replicate ops.size false) = o at hc; cases o <;> cases hc
      · cases hc
    · cases hc
  case seq => rw [Option.bind_eq_some_iff] at hc; obtain ⟨_, _, hc⟩ := hc; rw [Option.map_eq_some_iff] at hc; obtain ⟨_, _, hc⟩ := hc; cases hc
  case cond => rw [Option.bind_eq_some_iff] at hc; obtain ⟨_, _, hc⟩ := hc; rw [Option.map_eq_some_iff] at hc; obtain ⟨_, _, hc⟩ := hc; cases hc
  case block => rw [Option.map_eq_some_iff] at hc; obtain ⟨_, _, hc⟩ := hc; cases hc
  case loop => rw [Option.map_eq_some_iff] at hc; obtain ⟨_, _, hc⟩ := hc; cases hc
  case scope p =>
    rw [Option.map_eq_some_iff] at hc
    obtain ⟨c', hc', hc⟩ := hc
    cases hc
    obtain ⟨rest', hf', hr'⟩ := (find_cc l p _ hc').1 _ hfind
    intro b k cs
    have hg : gotoIn l (.inScope p :: k) = some (.code rest' :: .inScope p :: k) := by simp [gotoIn, hf']
    have key : ∀ n x a w, m x = n → Inv x → Simw w0 mu N (I x) a w →
        ∃ e a' w', After w0 mu N (Q e) a' w' ∧ Arrives P (lone (b.at a (.code rest' :: .inScope p :: k)) cs w) b k cs e a' w' := by
      intro n
      induction n using Nat.strongRecOn with
      | _ n ih =>
        intro x a w hn hx hS
        obtain ⟨e, a₁, w₁, hq, harr⟩ := pass x hx rest' hr' w0 mu a w hS b (.inScope p :: k) cs
        obtain ⟨s', h1, h2⟩ := hq
        cases e with
        | normal => exact ⟨.normal, a₁, w₁, ⟨s', h1, h2⟩, Steps.trans harr (.one step_inScope)⟩
        | exit id => exact ⟨.exit id, a₁, w₁, ⟨s', h1, h2⟩, fun k' hk => harr k' (by simp [exitTo, hk])⟩
        | goto l' =>
          obtain ⟨rfl, x', hx', hwk, hlt⟩ := h1
          obtain ⟨e₂, a₂, w₂, hq₂, harr₂⟩ := ih (m x') (by rw [← hn]; exact hlt _ rfl) x' a₁ w₁ rfl hx' (hwk _ _ _ _ _ h2)
          exact ⟨e₂, a₂, w₂, hq₂, .of_steps (harr _ hg) harr₂⟩
        | ret => exact ⟨_, a₁, w₁, ⟨s', h1, h2⟩, harr⟩
        | panic ch => exact ⟨_, a₁, w₁, ⟨s', h1, h2⟩, harr⟩
        | outgrown => exact ⟨_, a₁, w₁, ⟨s', h1, h2⟩, harr⟩
    obtain ⟨e, a₁, w₁, hq, harr⟩ := first p hc' w0 mu a w hS b (.inScope p :: k) cs
    obtain ⟨s', h1, h2⟩ := hq
    cases e with
    | normal => exact ⟨.normal, a₁, w₁, ⟨s', h1, h2⟩, .head step_scope (Steps.trans harr (.one step_inScope))⟩
    | exit id => exact ⟨.exit id, a₁, w₁, ⟨s', h1, h2⟩, fun k' hk => .head step_scope (harr k' (by simp [exitTo, hk]))⟩
    | goto l' =>
      obtain ⟨rfl, x', hx', hwk, _⟩ := h1
      obtain ⟨e₂, a₂, w₂, hq₂, harr₂⟩ := key (m x') x' a₁ w₁ rfl hx' (hwk _ _ _ _ _ h2)
      exact ⟨e₂, a₂, w₂, hq₂, .of_steps (.head step_scope (harr _ hg)) harr₂⟩
    | ret => exact ⟨_, a₁, w₁, ⟨s', h1, h2⟩, .of_steps (.one step_scope) harr⟩
    | panic ch => exact ⟨_, a₁, w₁, ⟨s', h1, h2⟩, .of_steps (.one step_scope) harr⟩
    | outgrown => exact ⟨_, a₁, w₁, ⟨s', h1, h2⟩, .of_steps (.one step_scope) harr⟩
  all_goals cases hc

/-- What a round of a loop owes: an exit, or the next round's state, and that it ends. -/
def Round {α : Type} (Inv : α → Prop) (I : α → AS) (m : α → Nat) (x : α) (Q : Exit → AS → Prop) : Exit → AS → Prop
  | .normal, s => ∃ x', Inv x' ∧ Weak s (I x') ∧ m x' < m x
  | e, s => Q e s

theorem AW_loop {c : ACode} {α : Type} (Inv : α → Prop) (I : α → AS) (m : α → Nat) (x0 : α) (h0 : Inv x0) (hw : Weak s (I x0)) (round : ∀ x, Inv x → AW P N c (I x) (Round Inv I m x Q)) : AW P N (.loop c) s Q := by
  intro code hc w0 mu a w hS
  cases code <;> simp only [ccode] at hc
  case region id ops draw =>
    rw [Option.bind_eq_some_iff] at hc
    obtain ⟨l, _, hc⟩ := hc
    split at hc
    · split at hc
      · generalize plan ops _ ops.size (Array.replicate ops.size false) = o at hc; cases o <;> cases hc
      · cases hc
    · cases hc
  case seq => rw [Option.bind_eq_some_iff] at hc; obtain ⟨_, _, hc⟩ := hc; rw [Option.map_eq_some_iff] at hc; obtain ⟨_, _, hc⟩ := hc; cases hc
  case cond => rw [Option.bind_eq_some_iff] at hc; obtain ⟨_, _, hc⟩ := hc; rw [Option.map_eq_some_iff] at hc; obtain ⟨_, _, hc⟩ := hc; cases hc
  case block => rw [Option.map_eq_some_iff] at hc; obtain ⟨_, _, hc⟩ := hc; cases hc
  case scope => rw [Option.map_eq_some_iff] at hc; obtain ⟨_, _, hc⟩ := hc; cases hc
  case loop p =>
    rw [Option.map_eq_some_iff] at hc
    obtain ⟨c', hc', hc⟩ := hc
    cases hc
    intro b k cs
    have key : ∀ n x a w, m x = n → Inv x → Simw w0 mu N (I x) a w →
        ∃ e a' w', After w0 mu N (Q e) a' w' ∧ Arrives P (lone (b.at a (.code p :: .inLoop p :: k)) cs w) b k cs e a' w' := by
      intro n
      induction n using Nat.strongRecOn with
      | _ n ih =>
        intro x a w hn hx hS
        obtain ⟨e, a₁, w₁, hq, harr⟩ := round x hx p hc' w0 mu a w hS b (.inLoop p :: k) cs
        obtain ⟨s', h1, h2⟩ := hq
        cases e with
        | normal =>
          obtain ⟨x', hx', hwk, hlt⟩ := h1
          obtain ⟨e₂, a₂, w₂, hq₂, harr₂⟩ := ih (m x') (hn ▸ hlt) x' a₁ w₁ rfl hx' (hwk _ _ _ _ _ h2)
          exact ⟨e₂, a₂, w₂, hq₂, .of_steps (Steps.trans harr (.one step_inLoop)) harr₂⟩
        | exit id => exact ⟨_, a₁, w₁, ⟨s', h1, h2⟩, .pass (x := .inLoop p) rfl (fun _ _ => .inl (by simp)) harr⟩
        | goto l => exact ⟨_, a₁, w₁, ⟨s', h1, h2⟩, .pass (x := .inLoop p) rfl (fun _ _ => .inl (by simp)) harr⟩
        | ret => exact ⟨_, a₁, w₁, ⟨s', h1, h2⟩, .pass (x := .inLoop p) rfl (fun _ _ => .inl (by simp)) harr⟩
        | panic ch => exact ⟨_, a₁, w₁, ⟨s', h1, h2⟩, .pass (x := .inLoop p) rfl (fun _ _ => .inl (by simp)) harr⟩
        | outgrown => exact ⟨_, a₁, w₁, ⟨s', h1, h2⟩, .pass (x := .inLoop p) rfl (fun _ _ => .inl (by simp)) harr⟩
    obtain ⟨e, a', w', hq, harr⟩ := key _ x0 a w rfl h0 (hw _ _ _ _ _ hS)
    exact ⟨e, a', w', hq, .of_steps (.one step_loop) harr⟩
  all_goals cases hc

/-- A state told by its slots and its regions; all other slots may hold anything. -/
def look {β : Type} : List (Nat × β) → Nat → Option β
  | [], _ => none
  | (k, x) :: l, t => if t = k then some x else look l t

def st (l : List (Nat × AV)) (h : List (Nat × (Bool × List AV))) : AS := ⟨fun t => (look l t).getD .any, look h⟩

def Has (s : AS) : List (Nat × AV) → Prop
  | [] => True
  | (t, x) :: l => s.tm t = x ∧ Has s l
def HasR (s : AS) : List (Nat × (Bool × List AV)) → Prop
  | [] => True
  | (r, c) :: l => s.hp r = some c ∧ HasR s l
def refsT (keep : Nat → Bool) : List (Nat × AV) → Bool
  | [] => true
  | (_, x) :: l => refsV keep x && refsT keep l
def refsH (keep : Nat → Bool) : List (Nat × (Bool × List AV)) → Bool
  | [] => true
  | (_, (fl, cs)) :: l => (fl || refsL keep cs) && refsH keep l

theorem look_has {s : AS} : ∀ {l : List (Nat × AV)} {t : Nat} {x : AV}, Has s l → look l t = some x → s.tm t = x
  | [], _, _, _, h => by simp [look] at h
  | (k, y) :: l, t, x, h, e => by
    simp only [look] at e
    split at e
    · rename_i hk; subst hk; cases e; exact h.1
    · exact look_has h.2 e
theorem look_hasR {s : AS} : ∀ {l : List (Nat × (Bool × List AV))} {t : Nat} {x : Bool × List AV}, HasR s l → look l t = some x → s.hp t = some x
  | [], _, _, _, h => by simp [look] at h
  | (k, y) :: l, t, x, h, e => by
    simp only [look] at e
    split at e
    · rename_i hk; subst hk; cases e; exact h.1
    · exact look_hasR h.2 e
theorem look_refs {keep : Nat → Bool} : ∀ {l : List (Nat × AV)} {t : Nat} {x : AV}, refsT keep l = true → look l t = some x → refsV keep x = true
  | [], _, _, _, h => by simp [look] at h
  | (k, y) :: l, t, x, h, e => by
    simp only [look, refsT, Bool.and_eq_true] at e h
    split at e
    · cases e; exact h.1
    · exact look_refs h.2 e
theorem look_refsH {keep : Nat → Bool} : ∀ {l : List (Nat × (Bool × List AV))} {t : Nat} {fl : Bool} {cs : List AV}, refsH keep l = true → look l t = some (fl, cs) → (fl || refsL keep cs) = true
  | [], _, _, _, _, h => by simp [look] at h
  | (k, (f, c)) :: l, t, fl, cs, h, e => by
    simp only [look, refsH, Bool.and_eq_true] at e h
    split at e
    · cases e; exact h.1
    · exact look_refsH h.2 e

/-- What is not told is forgotten. -/
theorem weak_st {s : AS} {l : List (Nat × AV)} {h : List (Nat × (Bool × List AV))} (hl : Has s l) (hh : HasR s h) (hr : refsT (fun r => (look h r).isSome) l = true) (hrh : refsH (fun r => (look h r).isSome) h = true) : Weak s (st l h) := by
  intro w0 mu N a w hS
  obtain ⟨hf, phi, ro, hS⟩ := hS
  have hlive : ∀ r, ((st l h).hp r).isSome = true → (s.hp r).isSome = true := by
    intro r hr
    obtain ⟨c, hc⟩ := Option.isSome_iff_exists.1 hr
    rw [look_hasR hh hc]; rfl
  have hle : (ctx w0 w ro phi s).LeOn (fun r => (look h r).isSome) (ctx w0 w ro phi (st l h)) :=
    ⟨fun b hb => ⟨hb, rfl⟩, Nat.le_refl _, id, fun _ r hk _ => ⟨hk, rfl⟩, fun _ _ b cur e _ _ _ hb => ⟨cur, hb, Nat.le_refl _⟩⟩
  refine ⟨hf, phi, ro, { hS with
    inj := fun r r' b h1 h2 => hS.inj r r' b (hlive r h1) (hlive r' h2)
    liv := fun r c hc => ?_
    tms := fun t => ?_ }⟩
  · rcases hS.liv r c (look_hasR hh hc) with h1 | ⟨b, cur, e, h1, h2, h3, h4, h5⟩ | h1
    · exact .inl h1
    case inr.inr => exact .inr (.inr h1)
    · refine .inr (.inl ⟨b, cur, e, h1, h2, h3, h4, ?_⟩)
      obtain ⟨fl, cs⟩ := c
      have := look_refsH hrh hc
      unfold SimR at *
      cases fl
      · exact SimL.on _ _ _ _ _ hle (by simpa using this) h5
      · exact SimL.mono _ _ _ _ (hle.out _) h5
  · show SimV ((look l t).getD .any) _ _
    cases hx : look l t with
    | none => simp [SimV]
    | some x =>
      have h1 := hS.tms t
      rw [look_has hl hx] at h1
      exact SimV.on _ _ _ _ _ hle (look_refs hr hx) h1

/-- What a call hands out is of new memory alone. -/
def Outs (s : AS) (x res : AV) : Prop :=
  ∀ w0 N tm w phi ro y, Sim w0 (fun _ => none) N s tm w phi ro → SimV x (ctx w0 w ro phi s) y → SimV res (fresh w0 w) y

def enter0 (as : List AV) : AS := ⟨fun t => (as[t]?).getD .any, fun _ => none⟩

theorem enter0_sim {w : World} {as : List AV} {vs : Array Value} {n : Nat} (hg : GoodW w) (h : Entry w as vs.toList) : Sim w (fun _ => none) (min n pbase) (enter0 as) (vs ++ Array.replicate (n - vs.size) undef) w (fun _ => none) (fun b => b < w.heap.size) where
  os := rfl
  tape := rfl
  output := rfl
  size := Nat.le_refl _
  kept := fun _ _ _ => rfl
  shp := fun b cur e f hb => ⟨cur, hb, rfl⟩
  npb := Nat.min_le_right _ _
  gd := ⟨hg, fun r b h => by simp at h⟩
  rob := fun _ hb => hb
  inj := fun r r' b h1 => by simp [enter0] at h1
  liv := fun r c hc => by simp [enter0] at hc
  tms := fun t => by
    obtain ⟨hs, hlen⟩ := h
    simp only [enter0]
    cases hx : as[t]? with
    | none => simp [SimV]
    | some x =>
      obtain ⟨y, hy, hsy⟩ := hs.get hx
      have hlt : t < vs.size := by
        have := (List.getElem?_eq_some_iff.1 hy).1
        simpa using this
      have hy' : vs[t] = y := by
        have := (List.getElem?_eq_some_iff.1 hy).2
        simpa using this
      have : (vs ++ Array.replicate (n - vs.size) undef).getD t undef = y := by
        simp [Array.getD_eq_getD_getElem?, Array.getElem?_append, hlt, hy']
      rw [this]
      have hle : ({ heap := w.heap, ro := fun b => b < w.heap.size, base := w.heap.size, phi := fun _ => none, live := fun _ => false, loc := false } : Ctx).Le (ctx w w (fun b => b < w.heap.size) (fun _ => none) (enter0 as)) :=
        ⟨fun b hb => ⟨hb, rfl⟩, Nat.le_refl _, fun e => by simp at e, fun e => by simp at e, fun e => by simp at e⟩
      exact SimV.mono _ _ _ _ hle hsy
  slots := by simp; omega

/-- The slots of the results. -/
def resTmps (fn : Func) : Option (List Nat) := fn.results.toList.mapM fun r => match r with | .tmp t => some t | .cell _ _ => none

def resOne (tmps : Array Value) : ResultVar → Sem Value
  | .tmp t => pure (tmps.getD t undef)
  | .cell a t => do loadVar t (← asAddr (tmps.getD a undef))

def resVal (tmps : Array Value) : List Nat → Value
  | [t] => tmps.getD t undef
  | ts => .tuple (ts.map fun t => tmps.getD t undef).toArray

theorem run_resOne (tmps : Array Value) (w : World) (P : Program) : ∀ (l : List ResultVar) (ts : List Nat), (l.mapM fun r => match r with | .tmp t => some t | .cell _ _ => none) = some ts →
    (l.mapM (m := Sem) (resOne tmps)).run P w = .ok (ts.map fun t => tmps.getD t undef) w
  | [], ts, h => by simp at h; subst h; simp
  | r :: l, ts, h => by
    rw [List.mapM_cons] at h
    simp only [Option.bind_eq_bind, Option.bind_eq_some_iff, Option.pure_def, Option.some.injEq] at h
    obtain ⟨t, h1, ts', h2, rfl⟩ := h
    cases r with
    | cell a t => simp at h1
    | tmp t' =>
      simp at h1
      subst h1
      rw [List.mapM_cons]
      simp only [resOne, Sem.run_bind, Sem.run_pure, Result.andThen_ok, run_resOne tmps w P l ts' h2, List.map_cons]

theorem run_results {fn : Func} {ts : List Nat} (h : resTmps fn = some ts) (tmps : Array Value) (w : World) (P : Program) : (results fn tmps).run P w = .ok (resVal tmps ts) w := by
  have hr : results fn tmps = (do let vs ← fn.results.mapM (resOne tmps); pure (if h : vs.size = 1 then vs[0] else .tuple vs)) := rfl
  have hm : (fn.results.mapM (m := Sem) (resOne tmps)).run P w = .ok (ts.map fun t => tmps.getD t undef).toArray w := by
    rw [Array.mapM_eq_mapM_toList, Sem.run_map, run_resOne tmps w P _ _ h]
    simp
  rw [hr, Sem.run_bind, hm]
  simp only [Result.andThen_ok, Sem.run_pure]
  congr 1
  match ts with
  | [] => simp [resVal]
  | [t] => simp [resVal]
  | t :: u :: ts => simp [resVal]

/-- The results' slots, all told. -/
def resAV (s : AS) : List Nat → AV
  | [t] => s.tm t
  | ts => .tup (ts.map s.tm)

def Done (ts : List Nat) (res : AV) : Exit → AS → Prop
  | .normal, s | .ret, s => Outs s (resAV s ts) res
  | _, _ => False

theorem simv_res {w0 w : World} {mu : Nat → Option Nat} {s : AS} {tm : Array Value} {phi : Nat → Option Nat} {ro : Nat → Prop} (hS : Sim w0 mu N s tm w phi ro) (ts : List Nat) : SimV (resAV s ts) (ctx w0 w ro phi s) (resVal tm ts) := by
  match ts with
  | [t] => exact hS.tms t
  | [] => simp [resAV, resVal, SimV, SimL]
  | t :: u :: ts =>
    simp only [resAV, resVal, SimV]
    refine ⟨_, rfl, by simp, ?_⟩
    have key : ∀ l : List Nat, SimL (l.map s.tm) (ctx w0 w ro phi s) (l.map fun t => tm.getD t undef) := by
      intro l
      induction l with
      | nil => simp [SimL]
      | cons t l ih => simp only [List.map_cons, SimL]; exact ⟨hS.tms t, ih⟩
    exact key _

/-- A FUNCTION's CONTRACT, out of its body. -/
theorem spec_of {f : FuncId} {fn : Func} {code : Code} {ac : ACode} {ts : List Nat} {as : List AV} {res : AV} (hf : P.funcs[f]? = some fn) (hb : fn.body = some code) (hc : ccode P (min fn.ntmps pbase) code = some ac) (hr : resTmps fn = some ts)
    (h : AW P (min fn.ntmps pbase) ac (enter0 as) (Done ts res)) : Sp P f as res := by
  intro w vs hg hent
  refine calls_of_wp hf hb (wp_mono (h code hc w (fun _ => none) _ w ⟨rfl, _, _, enter0_sim hg hent⟩) fun e a' w' hA => ?_)
  obtain ⟨s', h1, hf', phi, ro, hS⟩ := hA
  have fin : Outs s' (resAV s' ts) res → a'.defers = [] ∧ ∃ v, (results fn a'.tmps).run P w' = .ok v w' ∧ ∃ v', Ending.returned v = .returned v' ∧ More w w' ∧ SimV res (fresh w w') v' := by
    intro ho
    refine ⟨hf', _, run_results hr a'.tmps w' P, _, rfl, ⟨hS.os, hS.tape, hS.output, hS.size, fun b hb => hS.kept b hb (fun r => by simp)⟩, ho w (min fn.ntmps pbase) a'.tmps w' phi ro _ hS (simv_res hS ts)⟩
  cases e with
  | normal => exact fin h1
  | ret => exact fin h1
  | exit id => exact h1.elim
  | goto l => exact h1.elim
  | panic c => exact h1.elim
  | outgrown => exact h1.elim

/-- Where a call begins whose first argument's cells may be written. -/
def enterM (z n : Nat) (cs : List AV) (as : List AV) : AS := ⟨fun t => if t = 0 then .sl pbase z 0 n else (as[t - 1]?).getD .any, fun r => if r = pbase then some (true, cs) else none⟩

def DoneM (ts : List Nat) (res : AV) (cs' : List AV) : Exit → AS → Prop
  | .normal, s | .ret, s => resAV s ts = res ∧ s.hp pbase = some (true, cs')
  | _, _ => False

theorem specM_of {f : FuncId} {fn : Func} {code : Code} {ac : ACode} {ts : List Nat} {z n : Nat} {cs as : List AV} {res : AV} {cs' : List AV} (hf : P.funcs[f]? = some fn) (hb : fn.body = some code) (hc : ccode P (min fn.ntmps pbase) code = some ac) (hr : resTmps fn = some ts)
    (hcs : cs.all plainV = true) (hcs' : cs'.all plainV = true) (hres : plainV res = true)
    (h : AW P (min fn.ntmps pbase) ac (enterM z n cs as) (DoneM ts res cs')) : SpM P f z n cs as res cs' := by
  intro w vs v0 vs' bo size el hg hgb hvs hv0 hvs' hlen hcont
  have hS0 : Sim w (fun r => if r = pbase then bo else none) (min fn.ntmps pbase) (enterM z n cs as) (vs ++ Array.replicate (fn.ntmps - vs.size) undef) w (fun r => if r = pbase then bo else none) (fun q => q < w.heap.size ∧ some q ≠ bo) := by
    refine ⟨rfl, rfl, rfl, Nat.le_refl _, fun _ _ _ => rfl, fun b cur e f hb => ⟨cur, hb, rfl⟩, Nat.min_le_right _ _, ⟨hg, fun r b h => by split at h; exact hgb b h; cases h⟩, fun _ hb => hb.1, ?_, ?_, ?_, by simp; omega⟩
    · intro r r' b h1 h2 _ _
      simp only [enterM] at h1 h2
      split at h1
      · split at h2
        · rename_i e1 e2; rw [e1, e2]
        · simp at h2
      · simp at h1
    · intro r c hc
      simp only [enterM] at hc
      split at hc
      · rename_i hrp
        cases hc
        cases bo with
        | none => exact .inl ⟨by simp, hcont, fun _ => by simp⟩
        | some b =>
          obtain ⟨cur, h1, h2, h3⟩ := hcont
          refine .inr (.inl ⟨b, cur, el, by simp [hrp], h1, by simp, .inr ⟨by omega, by simp [hrp]⟩, ?_⟩)
          simp only [SimR, if_true]
          exact simL_allv hcs h3
      · cases hc
    · intro t
      have hsz : vs.size = vs'.length + 1 := by rw [← Array.length_toList, hvs]; rfl
      simp only [enterM]
      by_cases ht : t = 0
      · subst ht
        have : (vs ++ Array.replicate (fn.ntmps - vs.size) undef).getD 0 undef = v0 := by
          have h0 : vs[0]? = some v0 := by rw [← Array.getElem?_toList, hvs]; rfl
          simp [Array.getD_eq_getD_getElem?, Array.getElem?_append, hsz]
          exact (Array.getElem?_eq_some_iff.1 h0).2
        rw [this]
        simp only [if_true]
        simp only [SimV] at hv0 ⊢
        refine ⟨rfl, by simp [ctx], ?_⟩
        rcases hv0.2.2 with h1 | ⟨b, o', cap, cur, e', h1, h2, h3⟩
        · exact .inl (by simpa [ctxM, ctx] using h1)
        · exact .inr ⟨b, o', cap, cur, e', by simpa [ctxM, ctx] using h1, h2, h3⟩
      · simp only [ht, if_false]
        cases hx : as[t - 1]? with
        | none => simp [SimV]
        | some x =>
          obtain ⟨y, hy, hsy⟩ := hvs'.get hx
          have h0 : vs[t]? = some y := by
            rw [← Array.getElem?_toList, hvs]
            obtain ⟨k, rfl⟩ : ∃ k, t = k + 1 := ⟨t - 1, by omega⟩
            simpa using hy
          have hlt : t < vs.size := (Array.getElem?_eq_some_iff.1 h0).1
          have : (vs ++ Array.replicate (fn.ntmps - vs.size) undef).getD t undef = y := by
            simp [Array.getD_eq_getD_getElem?, Array.getElem?_append, hlt]
            exact (Array.getElem?_eq_some_iff.1 h0).2
          rw [this]
          have hle : (fresh w w).Le (ctx w w (fun q => q < w.heap.size ∧ some q ≠ bo) (fun r => if r = pbase then bo else none) (enterM z n cs as)) :=
            ⟨fun b hb => by have h1 : w.heap.size ≤ b ∧ b < w.heap.size := hb; omega, Nat.le_refl _, fun e => by simp [fresh] at e, fun e => by simp [fresh] at e, fun e => by simp [fresh] at e⟩
          exact SimV.mono _ _ _ _ hle hsy
  refine calls_of_wp hf hb (wp_mono (h code hc w (fun r => if r = pbase then bo else none) _ w ⟨rfl, _, _, hS0⟩) fun e a' w' hA => ?_)
  obtain ⟨s', h1, hf', phi, ro, hS⟩ := hA
  have fin : resAV s' ts = res ∧ s'.hp pbase = some (true, cs') → a'.defers = [] ∧ ∃ v, (results fn a'.tmps).run P w' = .ok v w' ∧ ∃ v', Ending.returned v = .returned v' ∧ w'.os = w.os ∧ w'.tape = w.tape ∧ w'.output = w.output ∧ w.heap.size ≤ w'.heap.size ∧
      (∀ b, b < w.heap.size → some b ≠ bo → w'.heap[b]? = w.heap[b]?) ∧ Cont w' bo cs' size el ∧ SimV res (fresh w w') v' := by
    rintro ⟨ho, hp⟩
    have hkept : ∀ b, b < w.heap.size → some b ≠ bo → w'.heap[b]? = w.heap[b]? := fun b hb hne => hS.kept b hb fun r hr => by
      split at hr
      · exact hne hr.symm
      · cases hr
    have hvt : SimV (resAV s' ts) (ctx w w' ro phi s') (resVal a'.tmps ts) := simv_res hS ts
    rw [ho] at hvt
    refine ⟨hf', _, run_results hr a'.tmps w' P, _, rfl, hS.os, hS.tape, hS.output, hS.size, hkept, ?_, by cases res <;> simp [plainV] at hres; simpa [SimV] using hvt⟩
    rcases hS.liv pbase _ hp with ⟨h1, h2, h3⟩ | ⟨b, cur, e', h1, h2, h3, h4, h5⟩ | ⟨b, o, h0, _⟩
    case inr.inr => cases h0; simp [plainV] at hcs'
    · have := h3 (Nat.le_refl _)
      simp only [if_true] at this
      rw [this]
      exact h2
    · have h6 := (h4.resolve_left fun h => by omega).2
      simp only [if_true] at h6
      subst h6
      obtain ⟨cur0, g1, g2, g3⟩ := hcont
      obtain ⟨cur1, k1, k2⟩ := hS.shp b cur0 el (0, 0) g1
      rw [h2] at k1
      cases k1
      refine ⟨cur, h2, by omega, ?_⟩
      simp only [SimR, if_true] at h5
      exact simL_allv hcs' h5
  cases e with
  | normal => exact fin h1
  | ret => exact fin h1
  | exit id => exact h1.elim
  | goto l => exact h1.elim
  | panic c => exact h1.elim
  | outgrown => exact h1.elim
end Go.Am
