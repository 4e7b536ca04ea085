/- The abstract machine, contracts: part 7 of what this claim needs. -/
import Derived.Test.YtngfogpbljconaaGreatDoorZs6
set_option linter.unusedSectionVars false
namespace Go.Am
variable [Go.Am.CodeBlk]
section
variable {P : Program} {own : Bool} {s : AS} {K : AS → Prop} {d : Option Nat} {x y : Opd}
theorem m_binv {op : BinOp} {a b r : Value} (hx : s.ev x = .v a) (hy : s.ev y = .v b) (h : pbin op a b = some r) (kk : K (s.put d (.v r))) : aop1 P own ⟨d,.bin op x y,none⟩ s K := ⟨_,_,_,hx,hy,h,kk⟩
theorem m_and255 {z : Int} (hx : s.ev x = .v (.int .u64 z)) (hy : s.ev y = .v (.int .u64 255)) (kk : ∀ m : Nat,m < 256 → K (s.put d (.v (.int .u64 (m : Nat))))) : aop1 P own ⟨d,.bin .and x y,none⟩ s K := by
  have hm : (BitVec.ofInt IntKind.u64.bits z &&& BitVec.ofInt IntKind.u64.bits 255).toNat ≤ 255 := by
    rw [BitVec.toNat_and]
    exact Nat.le_trans Nat.and_le_right (by decide)
  refine ⟨_,_,_,hx,hy,?_,kk (BitVec.ofInt IntKind.u64.bits z &&& BitVec.ofInt IntKind.u64.bits 255).toNat (by omega)⟩
  show some (Value.int .u64 (IntKind.u64.wrap _)) = _
  rw [IntKind.wrap_u64]
  congr 2
  generalize (BitVec.ofInt IntKind.u64.bits z &&& BitVec.ofInt IntKind.u64.bits 255).toNat = m at *
  omega
theorem m_cvtu {m : Nat} (hx : s.ev x = .v (.int .u64 (m : Nat))) (hm : m < 256) (kk : K (s.put d (.i (m : Nat)))) : aop1 P own ⟨d,.pu (.cvt .i64) [x],none⟩ s K := by
  refine ⟨_,⟨_,_,congrArg (fun a => [a]) hx,rfl⟩,?_⟩
  have : IntKind.i64.wrap (m : Int) = m := by rw [IntKind.wrap_i64]; omega
  rw [this]
  exact kk
theorem m_cvtb {m : UInt8} (hx : s.ev x = .v (.int .u8 m.toNat)) (kk : ∀ k : Nat,k < 256 → K (s.put d (.i (k : Nat)))) : aop1 P own ⟨d,.pu (.cvt .i64) [x],none⟩ s K := by
  refine ⟨_,⟨_,_,congrArg (fun a => [a]) hx,rfl⟩,?_⟩
  have hm : m.toNat < 256 := m.toNat_lt
  have : IntKind.i64.wrap (m.toNat : Int) = m.toNat := by rw [IntKind.wrap_i64]; omega
  rw [this]
  exact kk m.toNat hm
end
abbrev curC (v : Value) (a : Nat) (z : Int) : List AV := [.v v,.i (a : Nat),.v (.int .u64 z)]
abbrev curH (v : Value) (a : Nat) (z : Int) : List (Nat × (Bool × List AV)) := [(pbase,(true,curC v a z))]
theorem qui (v : Value) (a : Nat) (z : Int) : ∀ r,((look (curH v a z)) r).isSome = true → pbase ≤ r := by
  intro r hr
  have := look_isSome.1 hr
  simp at this
  omega
theorem cur_static {v v' : Value} {a a' : Nat} {z z' : Int} {x : Value} : Static (look (curH v a z)) (.v x) (look (curH v' a' z')) :=
  quc (by simp) (fun p hp => by rw [List.mem_singleton] at hp; subst hp; exact ⟨rfl,rfl⟩) ⟨rfl,rfl⟩
theorem curH_at {v : Value} {a : Nat} {z : Int} {r : Nat} {c : Bool × List AV} (h : look (curH v a z) r = some c) : r = pbase ∧ c = (true,curC v a z) := by
  have := qxh h
  rw [List.mem_singleton] at this
  exact ⟨congrArg Prod.fst this,congrArg Prod.snd this⟩
theorem curH_is {v : Value} {a : Nat} {z : Int} {r : Nat} (h : (look (curH v a z) r).isSome = true) : r = pbase := by
  obtain ⟨c,hc⟩ := Option.isSome_iff_exists.1 h
  exact (curH_at hc).1
theorem qxi {s : AS} {r : Nat} {v : Value} {a : Nat} {z : Int} (hr : s.hp r = some (true,curC v a z)) : LendH1 s.hp (fun _ => r) (look (curH v a z)) (.pt r 0) (.pt pbase 0) :=
  lendH_ren (x := .pt pbase 0) (fun q c hq => by show (s.hp r).isSome = true; rw [hr]; rfl) rfl rfl
theorem m_cur {P : Program} {s : AS} {K : AS → Prop} {d : Option Nat} {f : FuncId} {args : List Opd} {asx : List AV} {r : Nat} {v : Value} {a : Nat} {z : Int} {ι : Type} {ok : ι → Prop} {res : ι → Value} {a' : ι → Nat} {z' : ι → Int}
    (hs : SpX P f asx (look (curH v a z)) ok (fun i => .v (res i)) (fun i => look (curH v (a' i) (z' i)))) (hr : s.hp r = some (true,curC v a z)) (hl : LendsH s.hp (fun _ => r) (look (curH v a z)) (args.map s.ev) asx) (hne : ∃ i,ok i)
    (k : ∀ i,ok i → K ((s.mem r (true,curC v (a' i) (z' i))).put d (.v (res i)))) : aop1 P true ⟨d,.call f args,none⟩ s K := by
  refine m_callx (hp' := fun i => fun q => if q = r then some (true,curC v (a' i) (z' i)) else s.hp q) (fun _ => r) hs hl hne fun i hi => ⟨⟨fun q c hc => ?_,fun q q' h1 h2 _ => ?_,fun q hq => ?_,fun q hq hn => ?_,fun q c hc => ?_,fun q hq => ?_,fun q c hc => ?_,fun q c hc => ?_,rfl⟩,k i hi⟩
  · obtain ⟨rfl,rfl⟩ := curH_at hc
    exact hr
  · rw [curH_is h1,curH_is h2]
  · rw [curH_is hq]; rfl
  · rw [curH_is hq] at hn; cases hn
  · obtain ⟨rfl,rfl⟩ := curH_at hc
    show (if r = r then _ else _) = _
    rw [if_pos rfl]; rfl
  · have := hq pbase rfl
    show (if q = r then _ else _) = _
    rw [if_neg fun e => this e.symm]
  · obtain ⟨rfl,rfl⟩ := curH_at hc
    exact ⟨rfl,rfl⟩
  · obtain ⟨rfl,rfl⟩ := curH_at hc
    rfl
abbrev curN (v : Value) (a : Nat) (z : Int) (L : List Int) : List (Nat × (Bool × List AV)) := [(pbase,(true,curC v a z)),(nbase,(true,L.map AV.i))]
theorem curN_at {v : Value} {a : Nat} {z : Int} {L : List Int} {r : Nat} {c : Bool × List AV} (h : look (curN v a z L) r = some c) : (r = pbase ∧ c = (true,curC v a z)) ∨ (r = nbase ∧ c = (true,L.map AV.i)) := by
  have := qxh h
  simp only [List.mem_cons,List.not_mem_nil,or_false,Prod.mk.injEq] at this
  exact this
theorem ints_ownC (q : Bool) (L : List Int) : ownL q (L.map AV.i) = true := by
  induction L with
  | nil => rfl
  | cons a l ih => show (ownV q (AV.i a) && ownL q (l.map AV.i)) = true; rw [ih]; rfl
theorem ints_refsC (keep : Nat → Bool) (L : List Int) : refsL keep (L.map AV.i) = true := by
  induction L with
  | nil => rfl
  | cons a l ih => show (refsV keep (AV.i a) && refsL keep (l.map AV.i)) = true; rw [ih]; rfl
theorem curN_static {v v' : Value} {a a' : Nat} {z z' : Int} {L : List Int} {n : Nat} : Static (look (curH v a z)) (.sl nbase 1 0 n) (look (curN v' a' z' L)) :=
  quc (by simp) (fun p hp => by
    rcases List.mem_cons.1 hp with rfl|hp
    · exact ⟨rfl,rfl⟩
    · rw [List.mem_singleton] at hp; subst hp; exact ⟨ints_ownC _ _,ints_refsC _ _⟩) ⟨rfl,rfl⟩
theorem m_curL {P : Program} {s : AS} {K : AS → Prop} {d : Option Nat} {f : FuncId} {args : List Opd} {asx : List AV} {r q : Nat} {v : Value} {a : Nat} {z : Int} {ι : Type} {ok : ι → Prop} {L : ι → List Int} {a' : ι → Nat} {z' : ι → Int}
    (hs : SpX P f asx (look (curH v a z)) ok (fun i => .sl nbase 1 0 (L i).length) (fun i => look (curN v (a' i) (z' i) (L i)))) (hr : s.hp r = some (true,curC v a z)) (hq : s.hp q = none) (hqp : q < pbase) (hl : LendsH s.hp (fun p => if p = nbase then q else r) (look (curH v a z)) (args.map s.ev) asx) (hne : ∃ i,ok i)
    (k : ∀ i,ok i → K (((s.mem r (true,curC v (a' i) (z' i))).mem q (true,(L i).map AV.i)).put d (.sl q 1 0 (L i).length))) : aop1 P true ⟨d,.call f args,none⟩ s K := by
  have hrq : q ≠ r := fun e => by rw [e,hr] at hq; cases hq
  have hpn : pbase ≠ nbase := by decide
  refine m_callx (hp' := fun i => fun p => if p = q then some (true,(L i).map AV.i) else if p = r then some (true,curC v (a' i) (z' i)) else s.hp p) (fun p => if p = nbase then q else r) hs hl hne fun i hi => ⟨⟨fun p c hc => ?_,fun p p' h1 h2 e => ?_,fun p hp => ?_,fun p hp hn => ?_,fun p c hc => ?_,fun p hp => ?_,fun p c hc => ?_,fun p c hc => ?_,rfl⟩,k i hi⟩
  · obtain ⟨rfl,rfl⟩ := curH_at hc
    rw [if_neg (by decide)]
    exact hr
  · obtain ⟨c1,hc1⟩ := Option.isSome_iff_exists.1 h1
    obtain ⟨c2,hc2⟩ := Option.isSome_iff_exists.1 h2
    rcases curN_at hc1 with ⟨rfl,_⟩|⟨rfl,_⟩ <;> rcases curN_at hc2 with ⟨rfl,_⟩|⟨rfl,_⟩
    · rfl
    · simp [hpn] at e; exact absurd e.symm hrq
    · simp [hpn] at e; exact absurd e hrq
    · rfl
  · rw [curH_is hp]; rfl
  · obtain ⟨c1,hc1⟩ := Option.isSome_iff_exists.1 hp
    rcases curN_at hc1 with ⟨rfl,_⟩|⟨rfl,_⟩
    · cases hn
    · rw [if_pos rfl]; exact ⟨hq,hqp⟩
  · rcases curN_at hc with ⟨rfl,rfl⟩|⟨rfl,rfl⟩
    · show (if (if pbase = nbase then q else r) = q then _ else _) = _
      rw [if_neg hpn,if_neg (Ne.symm hrq),if_pos rfl]
      rfl
    · show (if (if nbase = nbase then q else r) = q then _ else _) = _
      rw [if_pos rfl,if_pos rfl]
      exact congrArg (fun c => some (true,c)) (qwg _ _).symm
  · have h1 := hp pbase rfl
    have h2 := hp nbase rfl
    rw [if_neg (by decide)] at h1
    rw [if_pos rfl] at h2
    show (if p = q then _ else if p = r then _ else _) = _
    rw [if_neg fun e => h2 e.symm,if_neg fun e => h1 e.symm]
  · obtain ⟨rfl,rfl⟩ := curH_at hc
    exact ⟨rfl,rfl⟩
  · rcases curN_at hc with ⟨rfl,rfl⟩|⟨rfl,rfl⟩
    · rfl
    · exact ints_ownC _ _
theorem lend_curN {s : AS} {r q : Nat} {v : Value} {a : Nat} {z : Int} (hr : s.hp r = some (true,curC v a z)) : LendH1 s.hp (fun p => if p = nbase then q else r) (look (curH v a z)) (.pt r 0) (.pt pbase 0) :=
  lendH_ren (x := .pt pbase 0) (fun p c hp => by
    have h : p = pbase := curH_is (by rw [hp]; rfl)
    subst h
    show (s.hp (if pbase = nbase then q else r)).isSome = true
    rw [if_neg (by decide),hr]; rfl) rfl rfl
theorem bys_cell {v : Value} {L : List UInt8} (hv : Bys v L) : v.oneCell' = true := by
  rcases hv with ⟨_,a,c,rfl⟩|⟨b,o,cap,cur,rfl,_⟩ <;> rfl
theorem m_bldC {P : Program} {own : Bool} {s : AS} {K : AS → Prop} {d : Option Nat} {x : Opd} {v : Value} (hv : v.oneCell' = true) (hx : s.ev x = .v v) (k : K (s.put d (.agg (curC v 0 0)))) :
    aop1 P own ⟨d,.pu (.bld [.slice none 0 0,.int .i64 0,.int .u64 0] [(0,1)]) [x],none⟩ s K :=
  ⟨_,⟨curC v 0 0,.inl ⟨rfl,(by decide : 0 < 3),(by rw [hx]; exact hv),(by rw [hx]; rfl)⟩,rfl⟩,k⟩
theorem m_boxC {P : Program} {own : Bool} {s : AS} {K : AS → Prop} {r : Nat} {x : Opd} {v : Value} (hv : v.oneCell' = true) (hx : s.ev x = .agg (curC v 0 0)) (k : K (((s.kill r).mem r (true,curC v 0 0)).put (some r) (.pt r 0))) :
    aop1 P own ⟨some r,.box 3 x,none⟩ s K :=
  ⟨r,true,rfl,.inr ⟨curC v 0 0,hx,(by show (v.oneCell' && _) = true; rw [hv]; rfl),k⟩⟩
end Go.Am
namespace Go.Proofs.YtngfogpbljconaaGreatDoor
variable [Go.Am.CodeBlk]
open Go.Am
attribute [local irreducible] AW Outs Weak Lends Lend Sp aops atree aop1 Then Round InBlock Done
attribute [local irreducible] SpH SpX DoneH
def sndA : ACode → ACode
  | .seq _ y => y
  | c => c
def fstA : ACode → ACode
  | .seq x _ => x
  | c => c
theorem curNext_spec {v : Value} {L : List UInt8} (hv : Bys v L) (_hL : L.length ≤ 1048576) (a : Nat) (ha : a ≤ 1000000) (z : Int) :
    SpX Tryz.prog 104 [.pt pbase 0] (Am.look (curH v a z)) (ι := Nat × Int) (fun i => i.1 < 256) (fun i => .i (i.1 : Nat)) (fun i => Am.look (curH v (a + 1) i.2)) := by
  have hpb := qui v a z
  have hsta : ∀ i : Nat × Int,i.1 < 256 → Static (Am.look (curH v a z)) (.i (i.1 : Nat)) (Am.look (curH v (a + 1) i.2)) := fun i _ => cur_static
  refine qv5 Tryz.func104 rfl cc104 rfl hpb hsta ?_
  unfold ac104
  clear hpb hsta
  have key : ∀ (k : Nat),k < 256 → AW Tryz.prog (min Tryz.f104.ntmps pbase) (sndA (sndA (sndA ac104))) (st [(0,.pt pbase 0),(3,.i (k : Nat))] (curH v a z)) (DoneX [2] (fun i : Nat × Int => i.1 < 256) (fun i => .i (i.1 : Nat)) (Am.look (curH v a z)) (fun i => Am.look (curH v (a + 1) i.2))) := by
    intro k hk
    unfold ac104
    simp only [sndA]
    repeat (first|(refine qz0 ?_;(first|(refine m_mov (by conv => lhs; whnf) ?_)|(refine m_add rfl rfl ?_ ?_ ?_;(· omega);(· omega))|(apply qx8;(· rfl);(· rfl);(· rfl))|(apply m_st;(· rfl);(· rfl);(· rfl);(· first|omega|(simp; done)|(simp; omega));(· rfl))|(refine m_nchk rfl ?_)|(refine m_fa rfl ?_)))|refine qz1 ?_|refine qz3 ?_)
    refine qz0 ?_
    refine m_binv rfl rfl rfl ?_
    repeat (refine qz0 ?_;(first|(refine m_mov (by conv => lhs; whnf) ?_)|(refine m_cvt rfl ?_)))
    refine qz0 ?_
    refine m_binv rfl rfl rfl ?_
    refine qz0 ?_
    refine m_binv rfl rfl rfl ?_
    repeat (first|((first|refine qz0 ?_|refine qzh ?_);(first|(refine m_mov (by conv => lhs; whnf) ?_)|(apply qx8;(· rfl);(· rfl);(· rfl))|(apply m_st;(· rfl);(· rfl);(· rfl);(· first|omega|(simp; done)|(simp; omega));(· rfl))|(refine m_nchk rfl ?_)|(refine m_fa rfl ?_)))|refine qz1 ?_|refine qw3 ?_|refine qz6 ?_)
    refine qzh ?_
    refine qve rfl hv ?_
    by_cases hle : ((a : Nat) : Int) + 1 ≤ L.length
    · repeat (first|((first|refine qz0 ?_|refine qzh ?_);(first|(refine m_mov (by conv => lhs; whnf) ?_)|(refine m_leq rfl rfl ?_)))|refine qz1 ?_|refine qz3 ?_|refine qxc ?_|(refine qzf rfl ?_ ?_;(· (refine decide_eq_true ?_; assumption)))|refine qzj ?_|refine qy8 ?_)
      exact ⟨(k,_),hk,ret_R id (by rfl) ⟨⟨_,rfl,.inl rfl⟩,trivial⟩ (by simp) (by simp) (by simp)⟩
    · repeat (first|((first|refine qz0 ?_|refine qzh ?_);(first|(refine m_mov (by conv => lhs; whnf) ?_)|(refine m_leq rfl rfl ?_)|(apply qx8;(· rfl);(· rfl);(· rfl))|(refine m_nchk rfl ?_)|(refine m_fa rfl ?_)))|refine qz3 ?_|refine qxc ?_|(refine qzi rfl ?_ ?_;(· (refine decide_eq_false ?_; assumption)))|refine qz5 ?_)
      refine qz0 ?_
      refine m_binv rfl rfl rfl ?_
      refine qz0 ?_
      refine m_and255 rfl rfl fun m hm => ?_
      refine qz0 ?_
      refine m_cvtu rfl hm ?_
      repeat (first|(refine qz0 ?_;(refine m_mov (by conv => lhs; whnf) ?_))|refine qz1 ?_|refine qzj ?_)
      exact ⟨(m,_),hm,ret_R id (by rfl) ⟨⟨_,rfl,.inl rfl⟩,trivial⟩ (by simp) (by simp) (by simp)⟩
  have hp : ac104 = .seq (fstA ac104) (.seq (fstA (sndA ac104)) (.seq (fstA (sndA (sndA ac104))) (sndA (sndA (sndA ac104))))) := rfl
  change AW _ _ ac104 _ _
  rw [hp]
  clear hp
  generalize sndA (sndA (sndA ac104)) = c4 at *
  unfold ac104
  simp only [sndA,fstA]
  repeat (first|((first|refine qz0 ?_|refine qzh ?_);(first|(refine m_mov (by conv => lhs; whnf) ?_)|(apply qx8;(· rfl);(· rfl);(· rfl))|(refine m_nchk rfl ?_)|(refine m_fa rfl ?_)))|refine qz1 ?_|refine qz3 ?_|refine qw3 ?_|refine qz6 ?_)
  refine qzh ?_
  refine qve rfl hv ?_
  by_cases hlt : ((a : Nat) : Int) < L.length
  · repeat (first|(refine qzh ?_;(first|(refine m_mov (by conv => lhs; whnf) ?_)|(refine m_lss rfl rfl ?_)|(apply qx8;(· rfl);(· rfl);(· rfl))|(refine m_nchk rfl ?_)|(refine m_fa rfl ?_)))|refine qxc ?_|refine AW_tree ?_|(refine qzf rfl ?_ ?_;(· (refine decide_eq_true ?_; assumption))))
    refine qzh ?_
    refine m_idx_bys (j := a) rfl rfl hv (by omega) ?_
    refine qzh ?_
    refine qvf (c := .v (.int .u8 (L.getD a 0).toNat)) rfl ?_ ?_
    · simp [byteVs,show a < L.length by omega]
    refine qzh ?_
    refine m_cvtb rfl fun k hk => ?_
    repeat (first|(refine qzh ?_;(refine m_mov (by conv => lhs; whnf) ?_))|refine qxc ?_|refine qz7 ?_)
    refine qxe (qz9 ?_ ?_ rfl rfl) (key k hk)
    · (repeat' first|exact trivial|refine And.intro ?_ ?_)<;>first|rfl|skip
    · (repeat' first|exact trivial|refine And.intro ?_ ?_)<;>first|rfl|skip
  · repeat (first|(refine qzh ?_;(refine m_lss rfl rfl ?_))|refine qxc ?_|(refine qzi rfl ?_ ?_;(· (refine decide_eq_false ?_; assumption)))|refine qz5 ?_)
    refine qxe (qz9 ?_ ?_ rfl rfl) (key 0 (by omega))
    · (repeat' first|exact trivial|refine And.intro ?_ ?_)<;>first|rfl|skip
    · (repeat' first|exact trivial|refine And.intro ?_ ?_)<;>first|rfl|skip
end Go.Proofs.YtngfogpbljconaaGreatDoor
namespace Go.Proofs.YtngfogpbljconaaGreatDoor
variable [Go.Am.CodeBlk]
open Go.Am
attribute [local irreducible] AW Outs Weak Lends Lend Sp aops atree aop1 Then Round InBlock Done
attribute [local irreducible] SpH SpX DoneH
theorem doneC {s : AS} {v : Value} {a : Nat} {z : Int} {t : Nat} {ι : Type} {ok : ι → Prop} {res : ι → Value} {fa : ι → Nat} {fz : ι → Int} (i : ι) (hi : ok i) (h1 : resAV s [t] = .v (res i)) (h2 : s.hp pbase = some (true,curC v (fa i) (fz i))) :
    DoneX [t] ok (fun i => .v (res i)) (Am.look (curH v a z)) (fun i => Am.look (curH v (fa i) (fz i))) .ret s :=
  ⟨i,hi,ret_R (hl := curH v a z) (ho := curH v (fa i) (fz i)) id h1 ⟨⟨_,h2,.inl rfl⟩,trivial⟩ (by simp) (by simp) (by simp)⟩
theorem qw4 {v : Value} {L : List UInt8} (hv : Bys v L) (hL : L.length ≤ 1048576) (a : Nat) (ha : a ≤ 999999) (z : Int) (n : Nat) (hn : n ≤ 1000000000) :
    SpX Tryz.prog 87 [.pt pbase 0,.i (n : Nat)] (Am.look (curH v a z)) (ι := Nat × Nat × Int) (fun i => i.1 < max n 1 ∧ i.2.1 ≤ a + 2) (fun i => .i (i.1 : Nat)) (fun i => Am.look (curH v i.2.1 i.2.2)) := by
  have hpb := qui v a z
  have hsta : ∀ i : Nat × Nat × Int,i.1 < max n 1 ∧ i.2.1 ≤ a + 2 → Static (Am.look (curH v a z)) (.i (i.1 : Nat)) (Am.look (curH v i.2.1 i.2.2)) := fun i _ => cur_static
  refine qv5 Tryz.func87 rfl cc87 rfl hpb hsta ?_
  unfold ac87
  clear hpb hsta
  by_cases h1 : n ≤ 1
  · repeat (first|(refine qz0 ?_;(first|(refine m_mov (by conv => lhs; whnf) ?_)|(refine m_leq rfl rfl ?_)))|refine qz1 ?_|refine qz3 ?_|(refine qzf rfl ?_ ?_;(· (refine decide_eq_true ?_; omega)))|refine qz6 ?_|refine qzj ?_|refine qy8 ?_)
    exact doneC (i := (0,a,z)) ⟨show 0 < max n 1 by omega,show a ≤ a + 2 by omega⟩ rfl rfl
  · repeat (first|(refine qz0 ?_;(first|(refine m_mov (by conv => lhs; whnf) ?_)|(refine m_leq rfl rfl ?_)))|refine qz1 ?_|refine qz3 ?_|(refine qzi rfl ?_ ?_;(· (refine decide_eq_false ?_; omega)))|refine qz5 ?_|refine qz6 ?_)
    refine qz0 ?_
    refine m_cur (curNext_spec hv hL a (by omega) z) rfl (qya (qxi rfl) qx4) ⟨(0,0),by decide⟩ ?_
    rintro ⟨m,z1⟩ hm
    dsimp only at hm ⊢
    by_cases h2 : n > 200
    · repeat (first|(refine qz0 ?_;(first|(refine m_mov (by conv => lhs; whnf) ?_)|(refine m_gtr rfl rfl ?_)|(refine m_mul rfl rfl ?_ ?_ ?_;(· first|omega|(simp; done));(· first|omega|(simp; done)))))|refine qz1 ?_|refine qz3 ?_|refine qy5 ?_|(refine qzf rfl ?_ ?_;(· (refine decide_eq_true ?_; omega)))|refine qz6 ?_)
      refine qz0 ?_
      refine m_cur (curNext_spec hv hL (a + 1) (by omega) z1) rfl (qya (qxi rfl) qx4) ⟨(0,0),by decide⟩ ?_
      rintro ⟨m2,z2⟩ hm2
      dsimp only at hm2 ⊢
      repeat (first|(refine qz0 ?_;(first|(refine m_mov (by conv => lhs; whnf) ?_)|(refine m_add rfl rfl ?_ ?_ ?_;(· omega);(· omega))|(refine m_rem rfl rfl ?_ ?_ ?_;(· omega);(· omega))))|refine qz1 ?_|refine qz3 ?_|refine qzj ?_|refine qz7 ?_)
      refine doneC (i := ((m * 256 + m2) % n,a + 1 + 1,z2)) ⟨?_,show a + 1 + 1 ≤ a + 2 by omega⟩ ?_ rfl
      · have := Nat.mod_lt (m * 256 + m2) (show 0 < n by omega)
        show (m * 256 + m2) % n < max n 1
        omega
      · show AV.i (((m : Int) * 256 + m2) % n) = AV.i (((m * 256 + m2) % n : Nat) : Int)
        exact congrArg AV.i (by have h : ((m * 256 + m2 : Nat) : Int) = (m : Int) * 256 + m2 := by omega
                                rw [← h]; exact (Int.natCast_emod _ _).symm)
    · repeat (first|(refine qz0 ?_;(first|(refine m_mov (by conv => lhs; whnf) ?_)|(refine m_gtr rfl rfl ?_)|(refine m_rem rfl rfl ?_ ?_ ?_;(· omega);(· omega))))|refine qz1 ?_|refine qz3 ?_|(refine qzi rfl ?_ ?_;(· (refine decide_eq_false ?_; omega)))|refine qz5 ?_|refine qz6 ?_|refine qzj ?_)
      refine doneC (i := (m % n,a + 1,z1)) ⟨?_,show a + 1 ≤ a + 2 by omega⟩ ?_ rfl
      · have := Nat.mod_lt m (show 0 < n by omega)
        show m % n < max n 1
        omega
      · show AV.i ((m : Int) % n) = AV.i ((m % n : Nat) : Int)
        exact congrArg AV.i (by omega)
theorem curOne_spec {v : Value} {L : List UInt8} (hv : Bys v L) (hL : L.length ≤ 1048576) (a : Nat) (ha : a ≤ 999999) (z : Int) (n : Nat) (hn : n ≤ 1000000000) :
    SpX Tryz.prog 85 [.pt pbase 0,.i (n : Nat)] (Am.look (curH v a z)) (ι := Bool × Nat × Int) (fun i => i.2.1 ≤ a + 2) (fun i => .b i.1) (fun i => Am.look (curH v i.2.1 i.2.2)) := by
  have hpb := qui v a z
  have hsta : ∀ i : Bool × Nat × Int,i.2.1 ≤ a + 2 → Static (Am.look (curH v a z)) (.b i.1) (Am.look (curH v i.2.1 i.2.2)) := fun i _ => cur_static
  refine qv5 Tryz.func85 rfl cc85 rfl hpb hsta ?_
  unfold ac85
  clear hpb hsta
  repeat (first|(refine qz0 ?_;(refine m_mov (by conv => lhs; whnf) ?_))|refine qz1 ?_|refine qz3 ?_)
  refine qz0 ?_
  refine m_cur (qw4 hv hL a ha z n hn) rfl (qya (qxi rfl) (qya qwc qx4)) ⟨(0,a,z),show 0 < max n 1 by omega,show a ≤ a + 2 by omega⟩ ?_
  rintro ⟨m,a1,z1⟩ ⟨hm,ha1⟩
  dsimp only at hm ha1 ⊢
  repeat (first|(refine qz0 ?_;(first|(refine m_mov (by conv => lhs; whnf) ?_)|(refine m_eql rfl rfl ?_)))|refine qz1 ?_|refine qzj ?_)
  exact doneC (i := (decide ((m : Int) = 0),a1,z1)) ha1 rfl rfl
def partsK : Nat → List Int → List (Nat × Opd)
  | _,[] => []
  | i,x :: M => (i,.c (.int .i64 x)) :: partsK (i + 1) M
theorem afill_ints (s : AS) : ∀ (M : List Int) (pre : List AV),afill s 1 true (pre ++ List.replicate M.length (AV.i 0)) (partsK pre.length M) (pre ++ M.map AV.i)
  | [],pre => by simp [afill,partsK]
  | x :: M,pre => by
    have h := afill_ints s M (pre ++ [AV.i x])
    have e : (pre ++ List.replicate (x :: M).length (AV.i 0)).set pre.length (AV.i x) = pre ++ [AV.i x] ++ List.replicate M.length (AV.i 0) := by
      rw [List.length_cons,List.replicate_succ,List.set_append_right _ _ (Nat.le_refl _),Nat.sub_self]
      simp
    simp only [partsK,afill]
    refine .inl ⟨trivial,by simp,rfl,?_⟩
    show afill s 1 true ((pre ++ List.replicate (x :: M).length (AV.i 0)).set pre.length (AV.i x)) (partsK (pre.length + 1) M) (pre ++ (x :: M).map AV.i)
    have e4 : pre ++ (x :: M).map AV.i = pre ++ [AV.i x] ++ M.map AV.i := by simp
    rw [e,e4]
    rw [List.length_append] at h
    exact h
theorem lend_cutS {hp : Nat → Option (Bool × List AV)} {r k : Nat} {M : List Int} (hr : hp r = some (true,M.map AV.i)) (hk : k ≤ M.length) : Lend hp (.sl r 1 (0 + 0 * 1) (k - 0)) (ints (M.take k)) := by
  have h := lend_sl (z := 1) (off := 0) (n := k) hr (by simp; omega) (qx0 M)
  have e : ((M.map AV.i).drop 0).take (k * 1) = (M.take k).map AV.i := by rw [List.drop_zero,Nat.mul_one,List.map_take]
  have e2 : k = (M.take k).length := by rw [List.length_take]; omega
  rw [e] at h
  show Lend hp (.sl r 1 0 k) (.ro false 1 ((M.take k).map AV.i) (M.take k).length)
  rw [← e2]
  exact h
theorem elems_ok (M : List Int) (i j : Nat) : (((M.map AV.i).drop i).take j).all (cellOk true) = true := by
  rw [List.all_eq_true]
  intro x hx
  obtain ⟨y,_,rfl⟩ := List.mem_map.1 (List.mem_of_mem_drop (List.mem_of_mem_take hx))
  rfl
def gL (q : Nat) : Nat → Nat := fun p => if p = nbase then q else p
theorem gL_p {q : Nat} : gL q pbase = pbase := if_neg (by decide)
theorem gL_n {q : Nat} : gL q nbase = q := if_pos rfl
theorem doneL {s : AS} {t : Nat} {v : Value} {a a1 : Nat} {z z1 : Int} {M : List Int} {q n : Nat} {ok : List Int × Nat × Int → Prop} (hi : ok (M,a1,z1)) (h1 : resAV s [t] = .sl q 1 0 n) (hn : n = M.length) (h2 : s.hp pbase = some (true,curC v a1 z1)) (h3 : s.hp q = some (true,M.map AV.i)) (hq : q < pbase) :
    DoneX [t] ok (fun i => .sl nbase 1 0 i.1.length) (Am.look (curH v a z)) (fun i => Am.look (curN v i.2.1 i.2.2 i.1)) .ret s := by
  have hpn : pbase ≠ nbase := by decide
  have hpb : pbase = 4000000 := rfl
  refine ⟨(M,a1,z1),hi,ret_R (hl := curH v a z) (ho := curN v a1 z1 M) (gL q) ?_ ⟨⟨_,by rw [gL_p]; exact h2,.inl rfl⟩,⟨_,by rw [gL_n]; exact h3,.inl ?_⟩,trivial⟩ ?_ ?_ ?_⟩
  · rw [h1,hn]
    show _ = AV.sl (gL q nbase) 1 0 M.length
    rw [gL_n]
  · exact congrArg (Prod.mk true) (qwg _ _).symm
  · intro p hp
    rw [List.mem_singleton] at hp
    subst hp
    exact ⟨gL_p,by simp⟩
  · intro p hp
    rcases List.mem_cons.1 hp with rfl|hp
    · exact .inl (by simp)
    · rw [List.mem_singleton] at hp; subst hp
      exact .inr (by rw [gL_n]; exact hq)
  · show [gL q pbase,gL q nbase].Nodup
    rw [gL_p,gL_n]
    simp; omega
end Go.Proofs.YtngfogpbljconaaGreatDoor
namespace Go.Proofs.YtngfogpbljconaaGreatDoor
variable [Go.Am.CodeBlk]
open Go.Am
attribute [local irreducible] AW Outs Weak Lends Lend Sp aops atree aop1 Then Round InBlock Done
attribute [local irreducible] SpH SpX DoneH
theorem curSure_spec {v : Value} {L : List UInt8} (hv : Bys v L) (hL : L.length ≤ 1048576) (a : Nat) (ha : a ≤ 900000) (z : Int) (n : Nat) (hn : n ≤ 12) :
    SpX Tryz.prog 103 [.pt pbase 0,.i (n : Nat)] (Am.look (curH v a z)) (ι := List Int × Nat × Int) (fun i => i.1.length ≤ 12 ∧ i.2.1 ≤ a + 40) (fun i => .sl nbase 1 0 i.1.length) (fun i => Am.look (curN v i.2.1 i.2.2 i.1)) := by
  have hpb := qui v a z
  have hsta : ∀ i : List Int × Nat × Int,i.1.length ≤ 12 ∧ i.2.1 ≤ a + 40 → Static (Am.look (curH v a z)) (.sl nbase 1 0 i.1.length) (Am.look (curN v i.2.1 i.2.2 i.1)) := fun i _ => curN_static
  refine qv5 Tryz.func103 rfl cc103 rfl hpb hsta ?_
  unfold ac103
  clear hpb hsta
  repeat (first|(refine qz0 ?_;(first|(refine m_mov (by conv => lhs; whnf) ?_)|(refine qx2 ?_)))|refine qz1 ?_|refine qz3 ?_)
  refine qz0 ?_
  refine m_cur (qw4 hv hL a (by omega) z n (by omega)) rfl (qya (qxi rfl) (qya qwc qx4)) ⟨(0,a,z),show 0 < max n 1 by omega,show a ≤ a + 2 by omega⟩ ?_
  rintro ⟨m,a1,z1⟩ ⟨hm,ha1⟩
  dsimp only at hm ha1 ⊢
  repeat (first|(refine qz0 ?_;(first|(refine m_mov (by conv => lhs; whnf) ?_)|(refine m_add rfl rfl ?_ ?_ ?_;(· omega);(· omega))))|refine qz1 ?_|refine qz3 ?_|refine qz6 ?_|refine qz8 ?_)
  refine qyf (α := List Int × Nat × Int) (fun q => q.1.length ≤ m + 1 ∧ q.2.1 ≤ a + 2 + 2 * q.1.length) (fun q => st [(0,.pt pbase 0),(5,.sl 5 1 0 q.1.length),(6,.i (1 + (m : Int))),(7,.i q.1.length)] [(pbase,(true,curC v q.2.1 q.2.2)),(5,(true,q.1.map AV.i))]) (fun q => m + 1 - q.1.length) ([],a1,z1) ⟨by simp,by simp; omega⟩ (qz9 ?_ ?_ rfl rfl) ?_
  · (repeat' first|exact trivial|refine And.intro ?_ ?_)<;>first|rfl|skip
  · (repeat' first|exact trivial|refine And.intro ?_ ?_)<;>first|rfl|skip
  rintro ⟨M,a2,z2⟩ ⟨hM,ha2⟩
  dsimp only at hM ha2 ⊢
  by_cases hc : M.length < m + 1
  · repeat (first|(refine qz0 ?_;(first|(refine m_mov (by conv => lhs; whnf) ?_)|(refine m_lss rfl rfl ?_)|(refine m_add rfl rfl ?_ ?_ ?_;(· omega);(· omega))|(refine qwd rfl ?_)))|refine qz1 ?_|refine qz3 ?_|(refine qzf rfl ?_ ?_;(· (refine decide_eq_true ?_; omega)))|refine qz5 ?_|refine qz6 ?_|refine qz8 ?_)
    refine qz0 ?_
    refine m_cur (qw4 hv hL a2 (by omega) z2 (M.length + 1) (by omega)) rfl (qya (qxi rfl) (qya qwc qx4)) ⟨(0,a2,z2),show 0 < max (M.length + 1) 1 by omega,show a2 ≤ a2 + 2 by omega⟩ ?_
    rintro ⟨k,a3,z3⟩ ⟨hk,ha3⟩
    dsimp only at hk ha3 ⊢
    repeat (first|(refine qz0 ?_;(refine m_mov (by conv => lhs; whnf) ?_))|refine qz1 ?_|refine qz3 ?_)
    have hkM : k ≤ M.length := by omega
    have ht : (M.take k).length = k := by rw [List.length_take]; omega
    refine qz0 ?_
    refine m_cut_sl (l := 0) (h := k) rfl rfl ⟨_,rfl⟩ (Nat.zero_le _) hkM ?_
    refine qz0 ?_
    refine qwh (qvb (M.take k) (by omega)) (qz2 (lend_cutS rfl hkM) qz4) (qx0 _) ?_
    repeat (first|(refine qz0 ?_;(first|(refine m_mov (by conv => lhs; whnf) ?_)|(refine qu8 rfl rfl ?_)|(refine qu9 rfl (by decide) (by rfl) (by first|rfl|omega|(simp; done)) rfl rfl ?_ (by decide) ?_;(· first|omega|(simp; omega)))))|refine qz1 ?_|refine qy5 ?_)
    refine qz0 ?_
    refine m_cut_sl (l := k) (h := M.length) rfl ⟨_,rfl⟩ rfl hkM (Nat.le_refl _) ?_
    refine qz0 ?_
    refine m_app (fl := true) (cs := (M.take k ++ [(M.length : Int)]).map AV.i) (m := M.length - k) rfl (by decide) rfl (by simp) (Elems.sl 5 (0 + k * 1) (M.length - k) true (M.map AV.i) rfl (by simp; omega)) (elems_ok M _ _) (show _ ≤ maxLen by unfold maxLen; simp; omega) (by simp; omega) ?_
    repeat (first|(refine qz0 ?_;(first|(refine m_mov (by conv => lhs; whnf) ?_)|(refine m_add rfl rfl ?_ ?_ ?_;(· omega);(· omega))))|refine qz1 ?_|refine qy5 ?_|refine qz7 ?_|refine qze ?_)
    refine qzb (M.take k ++ [(M.length : Int)] ++ M.drop k,a3,z3) ⟨by simp; omega,by simp; omega⟩ (Weak.trans (qwf (r := 35) (q := 5) rfl (by decide) (by decide)) (qz9 ?_ ?_ rfl rfl)) (by simp; omega)
    · have e1 : (M.take k ++ [(M.length : Int)] ++ M.drop k).length = M.length + 1 := by simp; omega
      have e2 : (M.take k ++ [(M.length : Int)]).length + (M.length - k) = M.length + 1 := by simp; omega
      rw [e1]
      refine ⟨rfl,?_,rfl,?_,trivial⟩
      · show AV.sl 5 1 0 ((M.take k ++ [(M.length : Int)]).length + (M.length - k)) = AV.sl 5 1 0 (M.length + 1)
        rw [e2]
      · rfl
    · refine ⟨rfl,?_,trivial⟩
      show some (true,(M.take k ++ [(M.length : Int)]).map AV.i ++ ((M.map AV.i).drop (0 + k * 1)).take ((M.length - k) * 1)) = some (true,(M.take k ++ [(M.length : Int)] ++ M.drop k).map AV.i)
      have e3 : ((M.map AV.i).drop k).take (M.length - k) = (M.drop k).map AV.i := by rw [← List.map_drop]; exact List.take_of_length_le (by rw [List.length_map,List.length_drop]; omega)
      rw [Nat.zero_add,Nat.mul_one,Nat.mul_one,e3,← List.map_append]
  · repeat (first|(refine qz0 ?_;(first|(refine m_mov (by conv => lhs; whnf) ?_)|(refine m_lss rfl rfl ?_)))|refine qz1 ?_|refine qz3 ?_|(refine qzi rfl ?_ ?_;(· (refine decide_eq_false ?_; omega)))|refine qz6 ?_|refine qzj ?_|refine qz7 ?_|refine qy1 ?_|refine qy0 ?_|refine qy9 ?_|refine qzg ?_)
    refine ⟨(M,a2,z2),⟨show M.length ≤ 12 by omega,show a2 ≤ a + 40 by omega⟩,ret_R (hl := curH v a z) (ho := curN v a2 z2 M) (fun p => if p = nbase then 5 else p) ?_ ⟨⟨_,rfl,.inl rfl⟩,⟨_,rfl,.inl ?_⟩,trivial⟩ ?_ ?_ ?_⟩
    · rfl
    · exact congrArg (Prod.mk true) (qwg _ _).symm
    · simp [pbase,nbase]
    · simp [pbase,nbase]
    · simp [pbase,nbase]
end Go.Proofs.YtngfogpbljconaaGreatDoor
namespace Go.Am
variable [Go.Am.CodeBlk]
def apD (n h : Nat) : Int := (apOut n h).getD n 0
def chz (n k : Nat) : Nat → Int
  | 0 => 1
  | j + 1 => chz n k j * ((n : Int) - k + ((j : Int) + 1)) / ((j : Int) + 1)
def inx (b l : Nat) : Nat → Int
  | 0 => 0
  | k + 1 => if k % 2 = 0 then inx b l k + chz b k k * fac (l - k) else inx b l k - chz b k k * fac (l - k)
theorem inx_table : ∀ l < 13,∀ b < l + 1,inx b l (b + 1) = apD l b ∧ 0 ≤ apD l b ∧ apD l b ≤ 479001600 := by decide +kernel
theorem inx_le : ∀ l < 13,∀ b < l + 1,∀ k < b + 1,(-1000000000000 ≤ inx b l k ∧ inx b l k ≤ 1000000000000) ∧ 0 ≤ chz b k k * fac (l - k) ∧ chz b k k * fac (l - k) ≤ 1000000000000 := by decide +kernel
theorem apD_rec : ∀ n < 12,∀ f < n + 1,(apD (n + 1) f = ((n : Int) + 1 - f) * apD n f + f * apD n (f - 1)) ∧ apD (n + 1) (f + 1) = ((n : Int) - f) * apD n f + f * apD n (f - 1) := by decide +kernel
def cnt (p : Nat → Bool) : Nat → Nat
  | 0 => 0
  | n + 1 => cnt p n + if p n then 1 else 0
theorem cnt_le (p : Nat → Bool) (n : Nat) : cnt p n ≤ n := by
  induction n with
  | zero => simp [cnt]
  | succ n ih => simp only [cnt]; split <;> omega
theorem cnt_congr {p q : Nat → Bool} {n : Nat} (h : ∀ k < n,p k = q k) : cnt p n = cnt q n := by
  induction n with
  | zero => rfl
  | succ n ih => simp only [cnt]; rw [ih fun k hk => h k (by omega),h n (by omega)]
theorem cnt_drop {p q : Nat → Bool} {n c : Nat} (hc : c < n) (hp : p c = true) (hq : q c = false) (h : ∀ k < n,k ≠ c → p k = q k) : cnt q n + 1 = cnt p n := by
  induction n with
  | zero => omega
  | succ n ih =>
    simp only [cnt]
    by_cases e : c = n
    · subst e
      rw [hp,hq,cnt_congr (p := q) (q := p) fun k hk => (h k (by omega) (by omega)).symm]
      simp
    · have := ih (by omega) fun k hk hkc => h k (by omega) hkc
      rw [h n (by omega) (by omega)]
      omega
theorem cnt_add (p : Nat → Bool) (a b : Nat) : cnt p (a + b) = cnt p a + cnt (fun k => p (a + k)) b := by
  induction b with
  | zero => simp [cnt]
  | succ b ih => rw [← Nat.add_assoc]; simp only [cnt]; rw [ih]; omega
def freeTo (M : List Int) (a k : Nat) : Nat := cnt (fun n => decide (((a + n : Nat) : Int) ∉ M)) k
theorem freeTo_succ (M : List Int) (a k : Nat) : freeTo M a (k + 1) = freeTo M a k + if ((a + k : Nat) : Int) ∉ M then 1 else 0 := by
  simp only [freeTo,cnt]; congr 1; simp
theorem freeTo_le (M : List Int) (a k : Nat) : freeTo M a k ≤ k := cnt_le _ _
theorem freeTo_add (M : List Int) (a b c : Nat) : freeTo M a (b + c) = freeTo M a b + freeTo M (a + b) c := by
  unfold freeTo
  rw [cnt_add]
  congr 1
  refine cnt_congr fun k _ => ?_
  rw [Nat.add_assoc]
theorem freeTo_out (M : List Int) (a k x : Nat) (h : x < a) : freeTo (M ++ [(x : Int)]) a k = freeTo M a k := by
  refine cnt_congr fun n _ => ?_
  have : ¬ ((a + n : Nat) : Int) = (x : Int) := by omega
  simp only [List.mem_append,List.mem_singleton,this,or_false]
theorem freeTo_in (M : List Int) (a k x : Nat) (h : a ≤ x) (h2 : x < a + k) (hx : (x : Int) ∉ M) : freeTo (M ++ [(x : Int)]) a k + 1 = freeTo M a k := by
  refine cnt_drop (c := x - a) (by omega) ?_ ?_ fun n hn hne => ?_
  · have e : a + (x - a) = x := by omega
    rw [e]; exact decide_eq_true hx
  · have e : a + (x - a) = x := by omega
    rw [e]; refine decide_eq_false ?_; simp
  · have : ¬ ((a + n : Nat) : Int) = (x : Int) := by omega
    simp only [List.mem_append,List.mem_singleton,this,or_false]
def Part (M : List Int) (g : Nat) : Prop := (∀ x ∈ M,0 ≤ x ∧ x < g) ∧ M.Nodup
theorem freeTo_part (M : List Int) (g : Nat) (h : Part M g) : freeTo M 0 g + M.length = g := by
  suffices hh : ∀ (n : Nat) (M : List Int),M.length = n → Part M g → freeTo M 0 g + M.length = g from hh _ M rfl h
  intro n
  induction n with
  | zero =>
    intro M hM _
    have : M = [] := List.eq_nil_of_length_eq_zero hM
    subst this
    have : freeTo [] 0 g = g := by
      unfold freeTo
      clear h
      induction g with
      | zero => rfl
      | succ g ih => simp only [cnt]; rw [ih ⟨by simp,by simp⟩]; simp
    simp [this]
  | succ n ih =>
    intro M hM hp
    have hne : M ≠ [] := fun e => by rw [e] at hM; simp at hM
    have e := List.dropLast_concat_getLast hne
    have hg := hp.1 _ (List.getLast_mem hne)
    obtain ⟨x,hx⟩ := Int.eq_ofNat_of_zero_le hg.1
    rw [hx] at e hg
    have hl : M.dropLast.length = n := by simp [hM]
    have hnd : (M.dropLast ++ [(x : Int)]).Nodup := by rw [e]; exact hp.2
    have hxn : (x : Int) ∉ M.dropLast := by
      rw [List.nodup_append] at hnd
      exact fun hm => hnd.2.2 _ hm _ (List.mem_singleton.2 rfl) rfl
    have hp' : Part M.dropLast g := ⟨fun y hy => hp.1 y (List.dropLast_subset _ hy),(List.nodup_append.1 hnd).1⟩
    have h1 := ih M.dropLast hl hp'
    have h2 := freeTo_in M.dropLast 0 g x (by omega) (by omega) hxn
    rw [e] at h2
    omega
theorem Part.snoc {M : List Int} {g x : Nat} (h : Part M g) (hx : x < g) (hm : (x : Int) ∉ M) : Part (M ++ [(x : Int)]) g := by
  refine ⟨fun y hy => ?_,?_⟩
  · rw [List.mem_append,List.mem_singleton] at hy
    rcases hy with hy|rfl
    · exact h.1 y hy
    · omega
  · rw [List.nodup_append]
    refine ⟨h.2,by simp,fun a ha b hb hab => ?_⟩
    rw [List.mem_singleton] at hb
    subst hb; subst hab
    exact hm ha
def lft (M : List Int) (g : Nat) : Int := apD (g - M.length) (freeTo M M.length (g - M.length))
theorem lft_le (M : List Int) (g : Nat) (hg : g ≤ 12) : 0 ≤ lft M g ∧ lft M g ≤ 479001600 := by
  have := inx_table (g - M.length) (by omega) (freeTo M M.length (g - M.length)) (by have := freeTo_le M M.length (g - M.length); omega)
  exact this.2
def MayTake (M : List Int) (i x : Nat) : Prop := x ≠ i ∧ (x : Int) ∉ M
instance (M : List Int) (i x : Nat) : Decidable (MayTake M i x) := inferInstanceAs (Decidable (_ ∧ _))
def smTo (M : List Int) (g i : Nat) : Nat → Int
  | 0 => 0
  | x + 1 => if MayTake M i x then smTo M g i x + lft (M ++ [(x : Int)]) g else smTo M g i x
theorem lft_lo {M : List Int} {g x : Nat} (h : x < M.length) : lft (M ++ [(x : Int)]) g = apD (g - M.length - 1) (freeTo M (M.length + 1) (g - M.length - 1)) := by
  unfold lft
  rw [List.length_append,List.length_singleton,freeTo_out _ _ _ _ (by omega)]
  rfl
theorem lft_hi {M : List Int} {g x : Nat} (h : M.length < x) (hg : x < g) (hx : (x : Int) ∉ M) : lft (M ++ [(x : Int)]) g = apD (g - M.length - 1) (freeTo M (M.length + 1) (g - M.length - 1) - 1) := by
  have := freeTo_in M (M.length + 1) (g - M.length - 1) x (by omega) (by omega) hx
  unfold lft
  rw [List.length_append,List.length_singleton]
  have e : g - (M.length + 1) = g - M.length - 1 := by omega
  rw [e]
  congr 1
  omega
theorem smTo_lo (M : List Int) (g x : Nat) (h : x ≤ M.length) : smTo M g M.length x = (freeTo M 0 x : Nat) * apD (g - M.length - 1) (freeTo M (M.length + 1) (g - M.length - 1)) := by
  induction x with
  | zero => simp [smTo,freeTo,cnt]
  | succ x ih =>
    simp only [smTo]
    rw [freeTo_succ,Nat.zero_add,ih (by omega)]
    by_cases hx : (x : Int) ∈ M
    · have : ¬ MayTake M M.length x := fun hh => hh.2 hx
      rw [if_neg this]; simp [hx]
    · have : MayTake M M.length x := ⟨by omega,hx⟩
      rw [if_pos this,lft_lo (by omega)]; simp [hx,Int.add_mul]
theorem smTo_hi (M : List Int) (g k : Nat) (h : M.length + 1 + k ≤ g) : smTo M g M.length (M.length + 1 + k) = smTo M g M.length M.length + (freeTo M (M.length + 1) k : Nat) * apD (g - M.length - 1) (freeTo M (M.length + 1) (g - M.length - 1) - 1) := by
  induction k with
  | zero =>
    have : ¬ MayTake M M.length M.length := fun hh => hh.1 rfl
    simp only [smTo]
    rw [if_neg this]; simp [freeTo,cnt]
  | succ k ih =>
    rw [← Nat.add_assoc]
    simp only [smTo]
    rw [freeTo_succ,ih (by omega)]
    by_cases hx : ((M.length + 1 + k : Nat) : Int) ∈ M
    · have : ¬ MayTake M M.length (M.length + 1 + k) := fun hh => hh.2 hx
      rw [if_neg this,if_neg (fun hh => hh hx)]; rfl
    · have : MayTake M M.length (M.length + 1 + k) := ⟨by omega,hx⟩
      rw [if_pos this,lft_hi (by omega) (by omega) hx]
      rw [if_pos hx,Int.natCast_add,Int.add_mul,Int.natCast_one,Int.one_mul]
      omega
theorem smTo_all {M : List Int} {g : Nat} (hp : Part M g) (hi : M.length < g) (hg : g ≤ 12) : smTo M g M.length g = lft M g := by
  obtain ⟨n,hn⟩ : ∃ n,g = M.length + 1 + n := ⟨g - M.length - 1,by omega⟩
  have e1 := smTo_hi M g n (by omega)
  rw [← hn] at e1
  rw [e1,smTo_lo _ _ _ (Nat.le_refl _)]
  have hall := freeTo_part M g hp
  have e2 : freeTo M 0 g = freeTo M 0 M.length + freeTo M M.length (g - M.length) := by
    have := freeTo_add M 0 M.length (g - M.length)
    rw [Nat.zero_add,Nat.add_sub_cancel' (by omega)] at this
    exact this
  have e3 : freeTo M M.length (g - M.length) = freeTo M M.length 1 + freeTo M (M.length + 1) n := by
    have := freeTo_add M M.length 1 n
    rw [← this]; congr 1; omega
  have e4 : g - M.length - 1 = n := by omega
  have e5 : g - M.length = n + 1 := by omega
  unfold lft
  rw [e4,e3,e5]
  have hF := freeTo_le M (M.length + 1) n
  generalize hf : freeTo M (M.length + 1) n = f at *
  have hrec := apD_rec n (by omega) f (by omega)
  have e6 : freeTo M M.length 1 = if ((M.length : Nat) : Int) ∉ M then 1 else 0 := by
    have := freeTo_succ M M.length 0
    simp only [Nat.add_zero,Nat.zero_add] at this
    rw [this]; simp [freeTo,cnt]
  by_cases hm : ((M.length : Nat) : Int) ∈ M
  · have e7 : freeTo M M.length 1 = 0 := by rw [e6]; simp [hm]
    have e8 : (freeTo M 0 M.length : Int) = (n : Int) + 1 - f := by omega
    rw [e7,Nat.zero_add,hrec.1,e8]
  · have e7 : freeTo M M.length 1 = 1 := by rw [e6]; simp [hm]
    have e8 : (freeTo M 0 M.length : Int) = (n : Int) - f := by omega
    rw [e7,Nat.add_comm 1 f,hrec.2,e8]
theorem lft_none (g : Nat) (hg : g ≤ 12) : lft [] g = noneN g := by
  have : freeTo [] 0 g = g := by have := freeTo_part [] g ⟨by simp,by simp⟩; simpa using this
  show apD (g - 0) (freeTo [] 0 (g - 0)) = _
  rw [Nat.sub_zero,this]
  revert g
  decide +kernel
def pickF (M : List Int) (g i : Nat) : Nat → Nat → Int → Option (Nat × Int)
  | 0,_,_ => none
  | n + 1,x,r => if MayTake M i x then (if r < lft (M ++ [(x : Int)]) g then some (x,r) else pickF M g i n (x + 1) (r - lft (M ++ [(x : Int)]) g)) else pickF M g i n (x + 1) r
theorem pickF_some (M : List Int) (g : Nat) (hp : Part M g) (hi : M.length < g) (hg : g ≤ 12) (r0 : Int) (h0 : r0 < lft M g) : ∀ (n x : Nat) (r : Int),x + n = g → 0 ≤ r → r + smTo M g M.length x = r0 →
    ∃ y s,pickF M g M.length n x r = some (y,s) ∧ y < g ∧ MayTake M M.length y ∧ 0 ≤ s ∧ s < lft (M ++ [(y : Int)]) g
  | 0,x,r,hx,hr,he => by
    have := smTo_all hp hi hg
    have e : x = g := by omega
    rw [e,this] at he
    omega
  | n + 1,x,r,hx,hr,he => by
    simp only [pickF]
    by_cases hc : MayTake M M.length x
    · rw [if_pos hc]
      by_cases hl : r < lft (M ++ [(x : Int)]) g
      · rw [if_pos hl]
        exact ⟨x,r,rfl,by omega,hc,hr,hl⟩
      · rw [if_neg hl]
        refine pickF_some M g hp hi hg r0 h0 n (x + 1) _ (by omega) (by omega) ?_
        simp only [smTo]
        rw [if_pos hc]; omega
    · rw [if_neg hc]
      refine pickF_some M g hp hi hg r0 h0 n (x + 1) _ (by omega) hr ?_
      simp only [smTo]
      rw [if_neg hc]; exact he
def unrF (g : Nat) : Nat → List Int → Int → List Int
  | 0,M,_ => M
  | n + 1,M,r => match pickF M g M.length g 0 r with
    | some (x,s) => unrF g n (M ++ [(x : Int)]) s
    | none => M
end Go.Am
namespace Go.Proofs.YtngfogpbljconaaGreatDoor
variable [Go.Am.CodeBlk]
open Go.Am
attribute [local irreducible] AW Outs Weak Lends Lend Sp aops atree aop1 Then Round InBlock Done
theorem chz_le : ∀ n < 13,∀ k < n + 1,∀ j < k + 1,(0 ≤ chz n k j ∧ chz n k j ≤ 1000) ∧ 0 ≤ chz n k j * ((n : Int) - k + ((j : Int) + 1)) ∧ chz n k j * ((n : Int) - k + ((j : Int) + 1)) ≤ 100000 := by decide +kernel
theorem exChoose_spec (n k : Nat) (hn : n ≤ 12) (hk : k ≤ n) : Sp Tryz.prog 74 [.i n,.i k] (.i (chz n k k)) := by
  refine qy7 Tryz.func74 rfl cc74 rfl ?_
  unfold ac74
  repeat (first|(refine qz0 ?_;(refine m_mov (by conv => lhs; whnf) ?_))|refine qz1 ?_|refine qz3 ?_|refine qz6 ?_|refine qz8 ?_)
  refine qyf (α := Nat) (fun j => j ≤ k) (fun j => st [(0,.i n),(1,.i k),(5,.i (chz n k j)),(6,.i ((j : Int) + 1))] []) (fun j => k - j) 0 (by omega) (qz9 ?_ ?_ rfl rfl) ?_
  · (repeat' first|exact trivial|refine And.intro ?_ ?_)<;>first|rfl|skip
  · trivial
  intro j hj
  have hb := chz_le n (by omega) k (by omega) j (by omega)
  by_cases hc : (j : Int) + 1 ≤ k
  · repeat (first|(refine qz0 ?_;(first|(refine m_mov (by conv => lhs; whnf) ?_)|(refine m_leq rfl rfl ?_)|(refine m_add rfl rfl ?_ ?_ ?_;(· omega);(· omega))|(refine m_sub rfl rfl ?_ ?_ ?_;(· omega);(· omega))|(refine m_mul rfl rfl ?_ ?_ ?_;(· first|omega|(simp; done));(· first|omega|(simp; done)))|(refine m_quo rfl rfl ?_ ?_ ?_ ?_;(· omega);(· omega);(· omega))))|refine qz1 ?_|refine qz3 ?_|refine qy5 ?_|(refine qzf rfl ?_ ?_;(· (refine decide_eq_true ?_; assumption)))|refine qz5 ?_|refine qz6 ?_|refine qz7 ?_|refine qz8 ?_|refine qze ?_)
    refine qzb (j + 1) (by omega) (qz9 ?_ ?_ rfl rfl) ?_
    · (repeat' first|exact trivial|refine And.intro ?_ ?_)<;>first|rfl|skip
    · trivial
    · omega
  · repeat (first|(refine qz0 ?_;(first|(refine m_mov (by conv => lhs; whnf) ?_)|(refine m_leq rfl rfl ?_)))|refine qz1 ?_|refine qz3 ?_|(refine qzi rfl ?_ ?_;(· (refine decide_eq_false ?_; assumption)))|refine qz6 ?_|refine qzj ?_|refine qzc ?_|refine qz7 ?_|refine qy1 ?_|refine qy0 ?_|refine qy9 ?_|refine qzg ?_)
    obtain rfl : j = k := by omega
    exact qxa rfl
end Go.Proofs.YtngfogpbljconaaGreatDoor
namespace Go.Proofs.YtngfogpbljconaaGreatDoor
variable [Go.Am.CodeBlk]
open Go.Am
attribute [local irreducible] AW Outs Weak Lends Lend Sp aops atree aop1 Then Round InBlock Done
theorem exLeft_spec (M : List Int) (g : Nat) (hM : M.length ≤ g) (hg : g ≤ 12) : Sp Tryz.prog 110 [ints M,.i g] (.i (lft M g)) := by
  refine qy7 Tryz.func110 rfl cc110 rfl ?_
  unfold ac110
  repeat (first|(refine qz0 ?_;(first|(refine m_mov (by conv => lhs; whnf) ?_)|(refine qy4 rfl ?_)))|refine qz1 ?_|refine qz3 ?_|refine qz6 ?_|refine qz8 ?_)
  refine qyf (α := Nat) (fun k => k ≤ g - M.length) (fun k => st [(0,ints M),(1,.i g),(5,.i (freeTo M M.length k : Nat)),(6,.i (M.length + k : Nat))] []) (fun k => g - M.length - k) 0 (by omega) (qz9 ?_ ?_ rfl rfl) ?_
  · (repeat' first|exact trivial|refine And.intro ?_ ?_)<;>first|rfl|skip
  · trivial
  intro k hk
  have hs := freeTo_succ M M.length k
  have hfl := freeTo_le M M.length k
  by_cases hc : M.length + k < g
  · by_cases hm : ((M.length + k : Nat) : Int) ∈ M
    · repeat (first|(refine qz0 ?_;(first|(refine m_mov (by conv => lhs; whnf) ?_)|(refine m_lss rfl rfl ?_)))|refine qz1 ?_|refine qz3 ?_|(refine qzf rfl ?_ ?_;(· (refine decide_eq_true ?_; omega)))|refine qz5 ?_|refine qz6 ?_|refine qz8 ?_)
      (refine qz0 ?_);(apply qza (qv2 M _ (by omega)));(· repeat (first|exact qz4|(refine qz2 ?_ ?_;(· (first|exact qzd|(refine qy2 ?_; first|rfl|omega))))))
      repeat (first|(refine qz0 ?_;(first|(refine m_mov (by conv => lhs; whnf) ?_)|(refine m_add rfl rfl ?_ ?_ ?_;(· omega);(· omega))|(refine m_not rfl ?_)))|refine qz1 ?_|refine qy5 ?_|(refine qzi rfl ?_ ?_;(· (refine nf ?_; assumption)))|refine qz7 ?_|refine qze ?_|refine qx6 ?_)
      refine qzb (k + 1) (by omega) (qz9 ?_ ?_ rfl rfl) ?_
      · rw [hs,if_neg (fun h => h hm)]
        (repeat' first|exact trivial|refine And.intro ?_ ?_)<;>first|rfl|skip
      · trivial
      · omega
    · repeat (first|(refine qz0 ?_;(first|(refine m_mov (by conv => lhs; whnf) ?_)|(refine m_lss rfl rfl ?_)))|refine qz1 ?_|refine qz3 ?_|(refine qzf rfl ?_ ?_;(· (refine decide_eq_true ?_; omega)))|refine qz5 ?_|refine qz6 ?_|refine qz8 ?_)
      (refine qz0 ?_);(apply qza (qv2 M _ (by omega)));(· repeat (first|exact qz4|(refine qz2 ?_ ?_;(· (first|exact qzd|(refine qy2 ?_; first|rfl|omega))))))
      repeat (first|(refine qz0 ?_;(first|(refine m_mov (by conv => lhs; whnf) ?_)|(refine m_add rfl rfl ?_ ?_ ?_;(· omega);(· omega))|(refine m_not rfl ?_)))|refine qz1 ?_|refine qy5 ?_|(refine qzf rfl ?_ ?_;(· (refine nt ?_; assumption)))|refine qz7 ?_|refine qze ?_)
      refine qzb (k + 1) (by omega) (qz9 ?_ ?_ rfl rfl) ?_
      · rw [hs,if_pos hm]
        (repeat' first|exact trivial|refine And.intro ?_ ?_)<;>first|rfl|skip
      · trivial
      · omega
  · repeat (first|(refine qz0 ?_;(first|(refine m_mov (by conv => lhs; whnf) ?_)|(refine m_lss rfl rfl ?_)|(refine m_sub rfl rfl ?_ ?_ ?_;(· omega);(· omega))|(refine qy4 rfl ?_)))|refine qz1 ?_|refine qz3 ?_|(refine qzi rfl ?_ ?_;(· (refine decide_eq_false ?_; omega)))|refine qz6 ?_|refine qz7 ?_|refine qy1 ?_|refine qz8 ?_|refine qy0 ?_|refine qy9 ?_|refine qzg ?_)
    obtain rfl : k = g - M.length := by omega
    have e0 : (g : Int) - (M.length : Int) = ((g - M.length : Nat) : Int) := by omega
    rw [e0]
    generalize hl : g - M.length = l at *
    generalize hb : freeTo M M.length l = b at *
    have htab := inx_table l (by omega) b (by omega)
    refine qyf (α := Nat) (fun k => k ≤ b + 1) (fun k => st [(5,.i b),(7,.i l),(8,.i (inx b l k)),(9,.i k)] []) (fun k => b + 1 - k) 0 (by omega) (qz9 ?_ ?_ rfl rfl) ?_
    · (repeat' first|exact trivial|refine And.intro ?_ ?_)<;>first|rfl|skip
    · trivial
    intro k hk
    by_cases hc : k ≤ b
    · have h1 := inx_le l (by omega) b (by omega) k (by omega)
      have e1 : (l : Int) - (k : Int) = ((l - k : Nat) : Int) := by omega
      by_cases hp : k % 2 = 0
      · have hp' : (k : Int) % 2 = 0 := by omega
        have e2 : inx b l (k + 1) = inx b l k + chz b k k * fac (l - k) := by simp only [inx,hp,if_true]
        repeat (first|(refine qz0 ?_;(first|(refine m_mov (by conv => lhs; whnf) ?_)|(refine m_leq rfl rfl ?_)))|refine qz1 ?_|refine qz3 ?_|(refine qzf rfl ?_ ?_;(· (refine decide_eq_true ?_; omega)))|refine qz5 ?_|refine qz6 ?_|refine qz8 ?_)
        (refine qz0 ?_);(apply qza (exChoose_spec b k (by omega) hc));(· repeat (first|exact qz4|(refine qz2 ?_ ?_;(· exact qzd))))
        repeat (refine qz0 ?_;(first|(refine m_mov (by conv => lhs; whnf) ?_)|(refine m_sub rfl rfl ?_ ?_ ?_;(· omega);(· omega))))
        rw [e1]
        (refine qz0 ?_);(apply qza (exTimes_spec (l - k) (by omega)));(· repeat (first|exact qz4|(refine qz2 ?_ ?_;(· exact qzd))))
        repeat (first|(refine qz0 ?_;(first|(refine m_mov (by conv => lhs; whnf) ?_)|(refine m_eql rfl rfl ?_)|(refine m_add rfl rfl ?_ ?_ ?_;(· omega);(· omega))|(refine m_mul rfl rfl ?_ ?_ ?_;(· first|omega|(simp; done));(· first|omega|(simp; done)))|(refine m_rem rfl rfl ?_ ?_ ?_;(· omega);(· omega))))|refine qz1 ?_|refine qz3 ?_|refine qy5 ?_|(refine qzf rfl ?_ ?_;(· (refine decide_eq_true ?_; assumption)))|refine qz7 ?_|refine qze ?_)
        refine qzb (k + 1) (by omega) (qz9 ?_ ?_ rfl rfl) ?_
        · rw [e2]
          (repeat' first|exact trivial|refine And.intro ?_ ?_)<;>first|rfl|skip
        · trivial
        · omega
      · have hp' : ¬ (k : Int) % 2 = 0 := by omega
        have e2 : inx b l (k + 1) = inx b l k - chz b k k * fac (l - k) := by simp only [inx,hp,if_false]
        repeat (first|(refine qz0 ?_;(first|(refine m_mov (by conv => lhs; whnf) ?_)|(refine m_leq rfl rfl ?_)))|refine qz1 ?_|refine qz3 ?_|(refine qzf rfl ?_ ?_;(· (refine decide_eq_true ?_; omega)))|refine qz5 ?_|refine qz6 ?_|refine qz8 ?_)
        (refine qz0 ?_);(apply qza (exChoose_spec b k (by omega) hc));(· repeat (first|exact qz4|(refine qz2 ?_ ?_;(· exact qzd))))
        repeat (refine qz0 ?_;(first|(refine m_mov (by conv => lhs; whnf) ?_)|(refine m_sub rfl rfl ?_ ?_ ?_;(· omega);(· omega))))
        rw [e1]
        (refine qz0 ?_);(apply qza (exTimes_spec (l - k) (by omega)));(· repeat (first|exact qz4|(refine qz2 ?_ ?_;(· exact qzd))))
        repeat (first|(refine qz0 ?_;(first|(refine m_mov (by conv => lhs; whnf) ?_)|(refine m_eql rfl rfl ?_)|(refine m_add rfl rfl ?_ ?_ ?_;(· omega);(· omega))|(refine m_sub rfl rfl ?_ ?_ ?_;(· omega);(· omega))|(refine m_mul rfl rfl ?_ ?_ ?_;(· first|omega|(simp; done));(· first|omega|(simp; done)))|(refine m_rem rfl rfl ?_ ?_ ?_;(· omega);(· omega))))|refine qz1 ?_|refine qz3 ?_|refine qy5 ?_|(refine qzi rfl ?_ ?_;(· (refine decide_eq_false ?_; assumption)))|refine qz7 ?_|refine qze ?_)
        refine qzb (k + 1) (by omega) (qz9 ?_ ?_ rfl rfl) ?_
        · rw [e2]
          (repeat' first|exact trivial|refine And.intro ?_ ?_)<;>first|rfl|skip
        · trivial
        · omega
    · repeat (first|(refine qz0 ?_;(first|(refine m_mov (by conv => lhs; whnf) ?_)|(refine m_leq rfl rfl ?_)))|refine qz1 ?_|refine qz3 ?_|(refine qzi rfl ?_ ?_;(· (refine decide_eq_false ?_; omega)))|refine qz6 ?_|refine qzj ?_|refine qzc ?_|refine qz7 ?_|refine qy1 ?_|refine qy0 ?_|refine qy9 ?_|refine qzg ?_)
      obtain rfl : k = b + 1 := by omega
      refine qxa ?_
      rw [htab.1,lft,hl,hb]
end Go.Proofs.YtngfogpbljconaaGreatDoor
namespace Go.Proofs.YtngfogpbljconaaGreatDoor
variable [Go.Am.CodeBlk]
open Go.Am
attribute [local irreducible] AW Outs Weak Lends Lend Sp aops atree aop1 Then Round InBlock Done
def HasOwn (L : List Int) : Prop := ∃ k,k < L.length ∧ L.getD k 0 = k
instance (L : List Int) : Decidable (HasOwn L) := decidable_of_iff (∃ k ∈ List.range L.length,L.getD k 0 = (k : Nat)) (by simp [HasOwn])
def RankOk (L : List Int) : Prop := IsEx L ∧ ¬ HasOwn L
instance (L : List Int) : Decidable (RankOk L) := inferInstanceAs (Decidable (_ ∧ _))
end Go.Proofs.YtngfogpbljconaaGreatDoor
namespace Go.Proofs.YtngfogpbljconaaGreatDoor
variable [Go.Am.CodeBlk]
open Go.Am
attribute [local irreducible] AW Outs Weak Lends Lend Sp aops atree aop1 Then Round InBlock Done
def rankG (g : Nat) (r : Int) : List Int := unrF g g [] r
theorem unr_step {g n : Nat} {M : List Int} {r : Int} {y : Nat} {s : Int} (h : pickF M g M.length g 0 r = some (y,s)) : unrF g (n + 1) M r = unrF g n (M ++ [(y : Int)]) s := by
  simp only [unrF]; rw [h]
theorem exRanked_spec (g : Nat) (hg : g ≤ 12) (r : Int) (h0 : 0 ≤ r) (h1 : r < noneN g) : Sp Tryz.prog 101 [.i g,.i r] (newInts (rankG g r)) := by
  refine qy7 Tryz.func101 rfl cc101 rfl ?_
  unfold ac101
  repeat (first|(refine qz0 ?_;(first|(refine m_mov (by conv => lhs; whnf) ?_)|(refine qx2 ?_)))|refine qz1 ?_|refine qz3 ?_|refine qz6 ?_|refine qz8 ?_)
  refine qyf (α := List Int × Int) (fun q => Part q.1 g ∧ q.1.length ≤ g ∧ (q.1.length < g → 0 ≤ q.2 ∧ q.2 < lft q.1 g) ∧ unrF g (g - q.1.length) q.1 q.2 = rankG g r) (fun q => st [(0,.i g),(1,.i q.2),(5,.sl 5 1 0 q.1.length),(6,.i q.1.length)] [(5,(true,q.1.map AV.i))]) (fun q => g - q.1.length) ([],r)
    ⟨⟨by simp,by simp⟩,by simp,fun _ => ⟨h0,by rw [lft_none g hg]; exact h1⟩,rfl⟩ (qz9 ?_ ?_ rfl rfl) ?_
  · (repeat' first|exact trivial|refine And.intro ?_ ?_)<;>first|rfl|skip
  · exact ⟨rfl,trivial⟩
  rintro ⟨M,r1⟩ ⟨hp,hl,hr,hu⟩
  dsimp only at hp hl hr hu ⊢
  by_cases hc : M.length < g
  · obtain ⟨hr0,hr1⟩ := hr hc
    have hll := lft_le M g hg
    obtain ⟨y,s,hpick,hyg,hcan,hs0,hs1⟩ := pickF_some M g hp hc hg r1 hr1 g 0 r1 (by omega) hr0 (by simp [smTo])
    obtain ⟨n,hn⟩ : ∃ n,g - M.length = n + 1 := ⟨g - M.length - 1,by omega⟩
    rw [hn,unr_step hpick] at hu
    repeat (first|(refine qz0 ?_;(first|(refine m_mov (by conv => lhs; whnf) ?_)|(refine m_lss rfl rfl ?_)))|refine qz1 ?_|refine qz3 ?_|(refine qzf rfl ?_ ?_;(· (refine decide_eq_true ?_; omega)))|refine qz5 ?_|refine qz6 ?_|refine qz8 ?_)
    refine qyf (α := Nat × Int) (fun q => q.1 ≤ g ∧ 0 ≤ q.2 ∧ q.2 ≤ 479001600 ∧ pickF M g M.length (g - q.1) q.1 q.2 = some (y,s)) (fun q => st [(0,.i g),(1,.i q.2),(5,.sl 5 1 0 M.length),(6,.i M.length),(7,.i q.1)] [(5,(true,M.map AV.i))]) (fun q => g - q.1) (0,r1) ⟨by simp,hr0,by dsimp only; omega,hpick⟩ (qz9 ?_ ?_ rfl rfl) ?_
    · (repeat' first|exact trivial|refine And.intro ?_ ?_)<;>first|rfl|skip
    · exact ⟨rfl,trivial⟩
    rintro ⟨x,r2⟩ ⟨hx,hr20,hr21,hpk⟩
    dsimp only at hx hr20 hr21 hpk ⊢
    by_cases hcx : x < g
    · obtain ⟨m,hm⟩ : ∃ m,g - x = m + 1 := ⟨g - x - 1,by omega⟩
      have em : g - (x + 1) = m := by omega
      rw [hm,pickF] at hpk
      have hlx := lft_le (M ++ [(x : Int)]) g hg
      have hlen : (M ++ [(x : Int)]).length = M.length + 1 := by rw [List.length_append]; rfl
      by_cases hne : x = M.length
      · have hne' : (x : Int) = (M.length : Int) := by omega
        rw [if_neg fun hh => hh.1 hne] at hpk
        repeat (first|(refine qz0 ?_;(first|(first|(refine m_mov (by conv => lhs; whnf) ?_)|(refine m_lss rfl rfl ?_)|(refine m_eql rfl rfl ?_)|(refine m_add rfl rfl ?_ ?_ ?_;(· omega);(· omega))|(refine qye rfl ?_ (by conv => lhs; whnf) ?_;(· (refine decide_eq_true ?_; assumption))))|(refine g_noF rfl ?_ ?_;(· (refine decide_eq_true ?_; assumption)))))|refine qz1 ?_|refine qz3 ?_|refine qy5 ?_|(refine qzf rfl ?_ ?_;(· first|rfl|(refine decide_eq_true ?_; omega)))|refine qz5 ?_|refine qz6 ?_|refine qz7 ?_|refine qy1 ?_|refine qz8 ?_|refine qy9 ?_|refine qzg ?_)
        refine qzb (x + 1,r2) ⟨by dsimp only; omega,hr20,hr21,by dsimp only; rw [em]; exact hpk⟩ (qz9 ?_ ?_ rfl rfl) ?_
        · (repeat' first|exact trivial|refine And.intro ?_ ?_)<;>first|rfl|skip
        · exact ⟨rfl,trivial⟩
        · dsimp only; omega
      · have hne' : ¬ (x : Int) = (M.length : Int) := by omega
        by_cases hmm : (x : Int) ∈ M
        · rw [if_neg fun hh => hh.2 hmm] at hpk
          repeat (first|(refine qz0 ?_;((try (refine g_yes rfl ?_ ?_;(· (simp [*]; done))));(first|(refine m_mov (by conv => lhs; whnf) ?_)|(refine m_lss rfl rfl ?_)|(refine m_eql rfl rfl ?_))))|refine qz1 ?_|refine qz3 ?_|(refine qzf rfl ?_ ?_;(· (refine decide_eq_true ?_; omega)))|refine qz5 ?_|refine qz6 ?_|refine qz8 ?_)
          (refine qz0 ?_);(refine g_yes rfl ?_ ?_;(· first|((simp [*]; done))|(fail));(apply qza (qv2 M _ (by omega))));(· repeat (first|exact qz4|(refine qz2 ?_ ?_;(· (first|exact qzd|(refine qw9 (by rfl) ?_; first|rfl|omega|(simp; done)))))))
          repeat (first|(refine qz0 ?_;(first|(refine m_mov (by conv => lhs; whnf) ?_)|(refine m_add rfl rfl ?_ ?_ ?_;(· omega);(· omega))|(refine qy3 rfl ?_ (by conv => lhs; whnf) ?_;(· (refine decide_eq_false ?_; assumption)))))|refine qz1 ?_|refine qy5 ?_|(refine qzf rfl ?_ ?_;(· (refine decide_eq_true ?_; assumption)))|refine qz7 ?_|refine qy1 ?_|refine qy9 ?_|refine qzg ?_)
          refine qzb (x + 1,r2) ⟨by dsimp only; omega,hr20,hr21,by dsimp only; rw [em]; exact hpk⟩ (qz9 ?_ ?_ rfl rfl) ?_
          · (repeat' first|exact trivial|refine And.intro ?_ ?_)<;>first|rfl|skip
          · exact ⟨rfl,trivial⟩
          · dsimp only; omega
        · rw [if_pos ⟨hne,hmm⟩] at hpk
          by_cases hlt : r2 < lft (M ++ [(x : Int)]) g
          · rw [if_pos hlt] at hpk
            have hys : y = x ∧ s = r2 := by cases hpk; exact ⟨rfl,rfl⟩
            rw [hys.1,hys.2] at hu hs1
            rw [hys.2] at hs0
            repeat (first|(refine qz0 ?_;((try (refine g_yes rfl ?_ ?_;(· (simp [*]; done))));(first|(refine m_mov (by conv => lhs; whnf) ?_)|(refine m_lss rfl rfl ?_)|(refine m_eql rfl rfl ?_))))|refine qz1 ?_|refine qz3 ?_|(refine qzf rfl ?_ ?_;(· (refine decide_eq_true ?_; omega)))|refine qz5 ?_|refine qz6 ?_|refine qz8 ?_)
            (refine qz0 ?_);(refine g_yes rfl ?_ ?_;(· first|((simp [*]; done))|(fail));(apply qza (qv2 M _ (by omega))));(· repeat (first|exact qz4|(refine qz2 ?_ ?_;(· (first|exact qzd|(refine qw9 (by rfl) ?_; first|rfl|omega|(simp; done)))))))
            repeat (first|(refine qz0 ?_;(first|(refine m_mov (by conv => lhs; whnf) ?_)|(refine qy3 rfl ?_ (by conv => lhs; whnf) ?_;(· (refine decide_eq_false ?_; assumption)))))|refine qz1 ?_|refine qz3 ?_|(refine qzi rfl ?_ ?_;(· (refine decide_eq_false ?_; assumption)))|refine qz5 ?_)
            (refine qz0 ?_);(apply qwh (qvb M (by omega)));(· repeat (first|exact qz4|(refine qz2 ?_ ?_;(· (refine qw9 (by rfl) ?_; first|rfl|omega|(simp; done))))));(· first|exact qx0 _|rfl|(simp; done))
            repeat (first|(refine qz0 ?_;(first|(refine m_mov (by conv => lhs; whnf) ?_)|(refine qu8 rfl rfl ?_)|(refine qu9 rfl (by decide) (by rfl) (by first|rfl|omega|(simp; done)) rfl rfl ?_ (by decide) ?_;(· first|omega|(simp; omega)))))|refine qz1 ?_|refine qz3 ?_)
            (refine qz0 ?_);(apply qza (exLeft_spec (M ++ [(x : Int)]) g (by omega) hg));(· repeat (first|exact qz4|(refine qz2 ?_ ?_;(· (first|exact qzd|(refine qw9 (by rfl) ?_; first|rfl|omega|(simp; done)))))))
            repeat (first|(refine qz0 ?_;(first|(refine m_mov (by conv => lhs; whnf) ?_)|(refine m_lss rfl rfl ?_)|(refine m_add rfl rfl ?_ ?_ ?_;(· omega);(· omega))))|refine qz1 ?_|refine qz3 ?_|refine qy5 ?_|(refine qzf rfl ?_ ?_;(· (refine decide_eq_true ?_; assumption)))|refine qz6 ?_|refine qz7 ?_|refine qy1 ?_|refine qze ?_|refine qy0 ?_|refine qy9 ?_|refine qzg ?_|(refine exit_other ?_ ?_;(· decide)))
            refine qzb (M ++ [(x : Int)],r2) ⟨hp.snoc hcx hmm,by dsimp only; omega,fun _ => ⟨hs0,hs1⟩,?_⟩ (Weak.trans (qwf (r := 32) (q := 5) rfl (by decide) (by decide)) (qz9 ?_ ?_ rfl rfl)) ?_
            · dsimp only
              rw [hlen,← hu]
              congr 1
              omega
            · refine ⟨rfl,rfl,rfl,?_,trivial⟩
              show AV.i ((M.length : Int) + 1) = AV.i ((M ++ [(x : Int)]).length : Nat)
              rw [hlen]; rfl
            · exact ⟨rfl,trivial⟩
            · dsimp only; omega
          · rw [if_neg hlt] at hpk
            repeat (first|(refine qz0 ?_;((try (refine g_yes rfl ?_ ?_;(· (simp [*]; done))));(first|(refine m_mov (by conv => lhs; whnf) ?_)|(refine m_lss rfl rfl ?_)|(refine m_eql rfl rfl ?_))))|refine qz1 ?_|refine qz3 ?_|(refine qzf rfl ?_ ?_;(· (refine decide_eq_true ?_; omega)))|refine qz5 ?_|refine qz6 ?_|refine qz8 ?_)
            (refine qz0 ?_);(refine g_yes rfl ?_ ?_;(· first|((simp [*]; done))|(fail));(apply qza (qv2 M _ (by omega))));(· repeat (first|exact qz4|(refine qz2 ?_ ?_;(· (first|exact qzd|(refine qw9 (by rfl) ?_; first|rfl|omega|(simp; done)))))))
            repeat (first|(refine qz0 ?_;(first|(refine m_mov (by conv => lhs; whnf) ?_)|(refine qy3 rfl ?_ (by conv => lhs; whnf) ?_;(· (refine decide_eq_false ?_; assumption)))))|refine qz1 ?_|refine qz3 ?_|(refine qzi rfl ?_ ?_;(· (refine decide_eq_false ?_; assumption)))|refine qz5 ?_)
            (refine qz0 ?_);(apply qwh (qvb M (by omega)));(· repeat (first|exact qz4|(refine qz2 ?_ ?_;(· (refine qw9 (by rfl) ?_; first|rfl|omega|(simp; done))))));(· first|exact qx0 _|rfl|(simp; done))
            repeat (first|(refine qz0 ?_;(first|(refine m_mov (by conv => lhs; whnf) ?_)|(refine qu8 rfl rfl ?_)|(refine qu9 rfl (by decide) (by rfl) (by first|rfl|omega|(simp; done)) rfl rfl ?_ (by decide) ?_;(· first|omega|(simp; omega)))))|refine qz1 ?_|refine qz3 ?_)
            (refine qz0 ?_);(apply qza (exLeft_spec (M ++ [(x : Int)]) g (by omega) hg));(· repeat (first|exact qz4|(refine qz2 ?_ ?_;(· (first|exact qzd|(refine qw9 (by rfl) ?_; first|rfl|omega|(simp; done)))))))
            repeat (first|(refine qz0 ?_;(first|(refine m_mov (by conv => lhs; whnf) ?_)|(refine m_lss rfl rfl ?_)|(refine m_add rfl rfl ?_ ?_ ?_;(· omega);(· omega))|(refine m_sub rfl rfl ?_ ?_ ?_;(· omega);(· omega))))|refine qz1 ?_|refine qz3 ?_|refine qy5 ?_|(refine qzi rfl ?_ ?_;(· (refine decide_eq_false ?_; assumption)))|refine qz5 ?_|refine qz6 ?_|refine qz7 ?_|refine qze ?_)
            refine qzb (x + 1,r2 - lft (M ++ [(x : Int)]) g) ⟨by dsimp only; omega,by dsimp only; omega,by dsimp only; omega,by dsimp only; rw [em]; exact hpk⟩ (qz9 ?_ ?_ rfl rfl) ?_
            · (repeat' first|exact trivial|refine And.intro ?_ ?_)<;>first|rfl|skip
            · exact ⟨rfl,trivial⟩
            · dsimp only; omega
    · have e : g - x = 0 := by omega
      rw [e,pickF] at hpk
      cases hpk
  · repeat (first|(refine qz0 ?_;(first|(refine m_mov (by conv => lhs; whnf) ?_)|(refine m_lss rfl rfl ?_)))|refine qz1 ?_|refine qz3 ?_|(refine qzi rfl ?_ ?_;(· (refine decide_eq_false ?_; omega)))|refine qz6 ?_|refine qzj ?_|refine qzc ?_|refine qz7 ?_|refine qy1 ?_|refine qy0 ?_|refine qy9 ?_|refine qzg ?_)
    have e : g - M.length = 0 := by omega
    rw [e,unrF] at hu
    exact qx3 rfl (by rw [hu]) (by rw [hu])
theorem rankG_len (g : Nat) (hg : g ≤ 12) (r : Int) (h0 : 0 ≤ r) (h1 : r < noneN g) : (rankG g r).length = g := by
  suffices hh : ∀ (n : Nat) (M : List Int) (r : Int),n + M.length = g → Part M g → (M.length < g → 0 ≤ r ∧ r < lft M g) → (unrF g n M r).length = g from hh g [] r (by simp) ⟨by simp,by simp⟩ fun _ => ⟨h0,by rw [lft_none g hg]; exact h1⟩
  intro n
  induction n with
  | zero => intro M r hn _ _; simp only [unrF]; omega
  | succ n ih =>
    intro M r hn hp hr
    obtain ⟨hr0,hr1⟩ := hr (by omega)
    obtain ⟨y,s,hpick,hyg,hcan,hs0,hs1⟩ := pickF_some M g hp (by omega) hg r hr1 g 0 r (by omega) hr0 (by simp [smTo])
    rw [unr_step hpick]
    exact ih _ _ (by rw [List.length_append,List.length_singleton]; omega) (hp.snoc hyg hcan.2) fun _ => ⟨hs0,hs1⟩
def OfOk (n r : Int) : Prop := (1 ≤ n ∧ n ≤ 12) ∧ 0 ≤ r ∧ r ≤ noneN n.toNat - 1
instance (n r : Int) : Decidable (OfOk n r) := inferInstanceAs (Decidable (_ ∧ _))
end Go.Proofs.YtngfogpbljconaaGreatDoor
namespace Go.Proofs.YtngfogpbljconaaGreatDoor
variable [Go.Am.CodeBlk]
open Go.Am
attribute [local irreducible] AW Outs Weak Lends Lend Sp aops atree aop1 Then Round InBlock Done
attribute [local irreducible] SpH SpX DoneH
theorem none_small : ∀ g < 7,2 ≤ g → 1 ≤ noneN g ∧ noneN g ≤ 300 := by decide +kernel
theorem curExch_spec {v : Value} {L : List UInt8} (hv : Bys v L) (hL : L.length ≤ 1048576) (a : Nat) (ha : a ≤ 800000) (z : Int) :
    SpX Tryz.prog 86 [.pt pbase 0] (Am.look (curH v a z)) (ι := List Int × Nat × Int) (fun i => i.1.length ≤ 13 ∧ i.2.1 ≤ a + 100) (fun i => .sl nbase 1 0 i.1.length) (fun i => Am.look (curN v i.2.1 i.2.2 i.1)) := by
  have hpb := qui v a z
  have hsta : ∀ i : List Int × Nat × Int,i.1.length ≤ 13 ∧ i.2.1 ≤ a + 100 → Static (Am.look (curH v a z)) (.sl nbase 1 0 i.1.length) (Am.look (curN v i.2.1 i.2.2 i.1)) := fun i _ => curN_static
  refine qv5 Tryz.func86 rfl cc86 rfl hpb hsta ?_
  unfold ac86
  clear hpb hsta
  repeat (first|(refine qz0 ?_;(first|(refine m_mov (by conv => lhs; whnf) ?_)|(refine qx2 ?_)))|refine qz1 ?_|refine qz3 ?_|refine qz6 ?_)
  refine qz0 ?_
  refine m_cur (curOne_spec hv hL a (by omega) z 12 (by omega)) rfl (qya (qxi rfl) (qya qwc qx4)) ⟨(true,a,z),show a ≤ a + 2 by omega⟩ ?_
  rintro ⟨b,a1,z1⟩ ha1
  dsimp only at ha1 ⊢
  cases b with
  | true =>
    repeat (first|(refine qz0 ?_;(refine qu8 rfl rfl ?_))|refine qz1 ?_|refine qz3 ?_|(refine qzf rfl ?_ ?_;(· rfl)))
    refine qz0 ?_
    refine m_bsl (fl := true) (out := [0,0].map AV.i) (afill_ints _ [0,0] []) ?_
    repeat (refine qz0 ?_;(refine qu8 rfl rfl ?_))
    refine qz0 ?_
    refine m_bsl (fl := true) (out := [0,2].map AV.i) (afill_ints _ [0,2] []) ?_
    refine qz0 ?_
    refine m_bsl (fl := true) (out := [0,1,2,3,4,5,6,7,8,9,10,11,12].map AV.i) (afill_ints _ [0,1,2,3,4,5,6,7,8,9,10,11,12] []) ?_
    refine qz0 ?_
    refine m_bsl (fl := true) (out := [1,2,3,4,5,6,7,8,9,10,11,0].map AV.i) (afill_ints _ [1,2,3,4,5,6,7,8,9,10,11,0] []) ?_
    refine qz0 ?_
    refine m_bsl (fl := false) (out := [.v (.slice none 0 0),.sl 6 1 0 1,.sl 7 1 0 2,.sl 8 1 0 1,.sl 9 1 0 2,.sl 10 1 0 13,.sl 11 1 0 12]) (by (iterate 7 (refine Or.inl ⟨rfl,by simp,rfl,?_⟩)); rfl) ?_
    refine step_opsW (qz9 (l := [(0,.pt pbase 0),(12,.sl 12 1 0 7)]) (h := [(pbase,(true,curC v a1 z1)),(6,(true,[1].map AV.i)),(7,(true,[0,0].map AV.i)),(8,(true,[-1].map AV.i)),(9,(true,[0,2].map AV.i)),(10,(true,[0,1,2,3,4,5,6,7,8,9,10,11,12].map AV.i)),(11,(true,[1,2,3,4,5,6,7,8,9,10,11,0].map AV.i)),(12,(false,[.v (.slice none 0 0),.sl 6 1 0 1,.sl 7 1 0 2,.sl 8 1 0 1,.sl 9 1 0 2,.sl 10 1 0 13,.sl 11 1 0 12]))]) ?_ ?_ rfl rfl) ?_
    · (repeat' first|exact trivial|refine And.intro ?_ ?_)<;>first|rfl|skip
    · (repeat' first|exact trivial|refine And.intro ?_ ?_)<;>first|rfl|skip
    refine m_mov rfl ?_
    refine qz0 ?_
    refine m_cur (qw4 hv hL a1 (by omega) z1 7 (by omega)) (r := pbase) rfl (qya (qxi rfl) (qya qwc qx4)) ⟨(0,a1,z1),show 0 < max 7 1 by omega,show a1 ≤ a1 + 2 by omega⟩ ?_
    rintro ⟨k,a2,z2⟩ ⟨hk,ha2⟩
    dsimp only at hk ha2 ⊢
    have hk7 : k < 7 := by omega
    match k,hk7 with
    | 0,_ =>
      refine qz0 ?_
      refine qxf (j := 0) rfl rfl (by omega) ?_
      refine qz0 ?_
      refine qx8 rfl rfl rfl ?_
      refine step_opsW (weak_nilslot 16 5000 1 true rfl rfl (by decide)) ?_
      refine m_mov rfl ?_
      repeat (first|refine qz1 ?_|refine qzj ?_|refine qy8 ?_)
      exact doneL (q := 5000) (M := []) ⟨Nat.le_of_ble_eq_true rfl,show a2 ≤ a + 100 by omega⟩ rfl rfl rfl rfl (by decide)
    | 1,_ =>
      repeat (first|(refine qz0 ?_;(first|(refine m_mov (by conv => lhs; whnf) ?_)|(refine qxf rfl rfl ?_ ?_;(· omega))|(apply qx8;(· rfl);(· rfl);(· rfl))))|refine qz1 ?_|refine qzj ?_|refine qy8 ?_)
      exact doneL (M := [1]) ⟨Nat.le_of_ble_eq_true rfl,show a2 ≤ a + 100 by omega⟩ rfl rfl rfl rfl (by decide)
    | 2,_ =>
      repeat (first|(refine qz0 ?_;(first|(refine m_mov (by conv => lhs; whnf) ?_)|(refine qxf rfl rfl ?_ ?_;(· omega))|(apply qx8;(· rfl);(· rfl);(· rfl))))|refine qz1 ?_|refine qzj ?_|refine qy8 ?_)
      exact doneL (M := [0,0]) ⟨Nat.le_of_ble_eq_true rfl,show a2 ≤ a + 100 by omega⟩ rfl rfl rfl rfl (by decide)
    | 3,_ =>
      repeat (first|(refine qz0 ?_;(first|(refine m_mov (by conv => lhs; whnf) ?_)|(refine qxf rfl rfl ?_ ?_;(· omega))|(apply qx8;(· rfl);(· rfl);(· rfl))))|refine qz1 ?_|refine qzj ?_|refine qy8 ?_)
      exact doneL (M := [-1]) ⟨Nat.le_of_ble_eq_true rfl,show a2 ≤ a + 100 by omega⟩ rfl rfl rfl rfl (by decide)
    | 4,_ =>
      repeat (first|(refine qz0 ?_;(first|(refine m_mov (by conv => lhs; whnf) ?_)|(refine qxf rfl rfl ?_ ?_;(· omega))|(apply qx8;(· rfl);(· rfl);(· rfl))))|refine qz1 ?_|refine qzj ?_|refine qy8 ?_)
      exact doneL (M := [0,2]) ⟨Nat.le_of_ble_eq_true rfl,show a2 ≤ a + 100 by omega⟩ rfl rfl rfl rfl (by decide)
    | 5,_ =>
      repeat (first|(refine qz0 ?_;(first|(refine m_mov (by conv => lhs; whnf) ?_)|(refine qxf rfl rfl ?_ ?_;(· omega))|(apply qx8;(· rfl);(· rfl);(· rfl))))|refine qz1 ?_|refine qzj ?_|refine qy8 ?_)
      exact doneL (M := [0,1,2,3,4,5,6,7,8,9,10,11,12]) ⟨Nat.le_of_ble_eq_true rfl,show a2 ≤ a + 100 by omega⟩ rfl rfl rfl rfl (by decide)
    | 6,_ =>
      repeat (first|(refine qz0 ?_;(first|(refine m_mov (by conv => lhs; whnf) ?_)|(refine qxf rfl rfl ?_ ?_;(· omega))|(apply qx8;(· rfl);(· rfl);(· rfl))))|refine qz1 ?_|refine qzj ?_|refine qy8 ?_)
      exact doneL (M := [1,2,3,4,5,6,7,8,9,10,11,0]) ⟨Nat.le_of_ble_eq_true rfl,show a2 ≤ a + 100 by omega⟩ rfl rfl rfl rfl (by decide)
  | false =>
    repeat (first|(refine qz0 ?_;(refine m_mov (by conv => lhs; whnf) ?_))|refine qz1 ?_|refine qz3 ?_|(refine qzi rfl ?_ ?_;(· rfl))|refine qz5 ?_|refine qz6 ?_)
    refine qz0 ?_
    refine m_cur (curOne_spec hv hL a1 (by omega) z1 4 (by omega)) rfl (qya (qxi rfl) (qya qwc qx4)) ⟨(true,a1,z1),show a1 ≤ a1 + 2 by omega⟩ ?_
    rintro ⟨b,a2,z2⟩ ha2
    dsimp only at ha2 ⊢
    cases b with
    | true =>
      repeat (first|(refine qz0 ?_;(refine m_mov (by conv => lhs; whnf) ?_))|refine qz1 ?_|refine qz3 ?_|(refine qzf rfl ?_ ?_;(· rfl)))
      refine qz0 ?_
      refine m_cur (qw4 hv hL a2 (by omega) z2 5 (by omega)) rfl (qya (qxi rfl) (qya qwc qx4)) ⟨(0,a2,z2),show 0 < max 5 1 by omega,show a2 ≤ a2 + 2 by omega⟩ ?_
      rintro ⟨k,a3,z3⟩ ⟨hk,ha3⟩
      dsimp only at hk ha3 ⊢
      obtain ⟨hN1,hN2⟩ := none_small (k + 2) (by omega) (by omega)
      have he := exNone_spec (k + 2) (by omega)
      rw [show (((k + 2 : Nat) : Nat) : Int) = 2 + (k : Int) by omega] at he
      obtain ⟨w,hw⟩ := Int.eq_ofNat_of_zero_le (show 0 ≤ noneN (k + 2) by omega)
      rw [hw] at he hN1 hN2
      repeat (first|(refine qz0 ?_;(first|(refine m_mov (by conv => lhs; whnf) ?_)|(refine m_add rfl rfl ?_ ?_ ?_;(· omega);(· omega))))|refine qz1 ?_|refine qz3 ?_)
      (refine qz0 ?_);(apply qza (he));(· repeat (first|exact qz4|(refine qz2 ?_ ?_;(· exact qzd))))
      skip
      refine qz0 ?_
      refine m_cur (qw4 hv hL a3 (by omega) z3 w (by omega)) rfl (qya (qxi rfl) (qya qwc qx4)) ⟨(0,a3,z3),show 0 < max w 1 by omega,show a3 ≤ a3 + 2 by omega⟩ ?_
      rintro ⟨r,a4,z4⟩ ⟨hr,ha4⟩
      dsimp only at hr ha4 ⊢
      have hx := exRanked_spec (k + 2) (by omega) (r : Int) (by omega) (by rw [hw]; omega)
      rw [show (((k + 2 : Nat) : Nat) : Int) = 2 + (k : Int) by omega] at hx
      have hlen := rankG_len (k + 2) (by omega) (r : Int) (by omega) (by rw [hw]; omega)
      refine qz0 ?_
      refine qwh hx (qz2 qzd (qz2 qzd qz4)) (qx0 _) ?_
      repeat (first|(refine qz0 ?_;(refine m_mov (by conv => lhs; whnf) ?_))|refine qz1 ?_|refine qzj ?_|refine qy8 ?_)
      exact doneL (M := rankG (k + 2) (r : Int)) ⟨show (rankG (k + 2) (r : Int)).length ≤ 13 by omega,show a4 ≤ a + 100 by omega⟩ rfl rfl rfl rfl (by decide)
    | false =>
      repeat (first|(refine qz0 ?_;(refine m_mov (by conv => lhs; whnf) ?_))|refine qz1 ?_|refine qz3 ?_|(refine qzi rfl ?_ ?_;(· rfl))|refine qz5 ?_)
      refine qz0 ?_
      refine m_curL (q := 1000) (curSure_spec hv hL a2 (by omega) z2 7 (by omega)) rfl rfl (by decide) (qya (lend_curN rfl) (qya qwc qx4)) ⟨([],a2,z2),by simp,show a2 ≤ a2 + 40 by omega⟩ ?_
      rintro ⟨M,a3,z3⟩ ⟨hM,ha3⟩
      dsimp only at hM ha3 ⊢
      repeat (first|(refine qz0 ?_;(refine m_mov (by conv => lhs; whnf) ?_))|refine qz1 ?_|refine qzj ?_)
      exact doneL (M := M) ⟨show M.length ≤ 13 by omega,show a3 ≤ a + 100 by omega⟩ rfl rfl rfl rfl (by decide)
end Go.Proofs.YtngfogpbljconaaGreatDoor
namespace Go.Am
variable [Go.Am.CodeBlk]
theorem g_unc {P : Program} {own : Bool} {s : AS} {K : AS → Prop} {d : Option Nat} {op : AOp} {t : Nat} {w : Bool} (h : s.tm t = .v undef) (k : K (s.put d (.v undef))) : aop1 P own ⟨d,op,some (t,w)⟩ s K := .inr ⟨h,k⟩
section
variable {P : Program} {s : AS} {K : AS → Prop} {d : Option Nat} {f : FuncId} {args : List Opd} {v : Value} {ι : Type} {ok : ι → Prop}
theorem draw_lends (ha : args.map s.ev = [.v v]) : LendsH s.hp (fun p => p) (look ([] : List (Nat × (Bool × List AV)))) (args.map s.ev) [.v v] := by
  rw [ha]; exact qya qwc qx4
theorem m_draw {res : ι → AV} (hs : SpX P f [.v v] (look ([] : List (Nat × (Bool × List AV)))) ok res (fun _ => look ([] : List (Nat × (Bool × List AV))))) (ha : args.map s.ev = [.v v]) (hne : ∃ i,ok i) (hr : ∀ i,ownV false (res i) = true ∧ renV (fun p => p) (res i) = res i)
    (k : ∀ i,ok i → K (s.put d (res i))) : aop1 P true ⟨d,.call f args,none⟩ s K := by
  refine m_callx (hp' := fun _ => s.hp) (fun p => p) hs (draw_lends ha) hne fun i hi => ⟨⟨fun q c hc => by simp [look] at hc,fun q q' h1 _ _ => by simp [look] at h1,fun q hq => by simp [look] at hq,fun q hq _ => by simp [look] at hq,fun q c hc => by simp [look] at hc,fun q _ => rfl,fun q c hc => by simp [look] at hc,fun q c hc => by simp [look] at hc,(hr i).1⟩,?_⟩
  rw [(hr i).2]
  exact k i hi
end
end Go.Am
namespace Go.Proofs.YtngfogpbljconaaGreatDoor
variable [Go.Am.CodeBlk]
open Go.Am
attribute [local irreducible] AW Outs Weak Lends Lend Sp aops atree aop1 Then Round InBlock Done
attribute [local irreducible] SpH SpX DoneH
theorem big_spec {c m : Value} {C M : List UInt8} (hc : Bys c C) (hm : Bys m M) (hC : C.length ≤ 9223372036854775807) (hM : M.length ≤ 9223372036854775807) : Sp Tryz.prog 4 [.v c,.v m] (.b (decide (1048576 < C.length + M.length))) := by
  refine qy7 Tryz.func4 rfl cc4 rfl ?_
  unfold ac4
  by_cases h1 : ((C.length : Nat) : Int) > 1048576
  · have h2 : 1048576 < C.length + M.length := by omega
    repeat (first|(refine qz0 ?_;(refine m_mov (by conv => lhs; whnf) ?_))|refine qz1 ?_|refine qz3 ?_)
    refine qz0 ?_
    refine qve rfl hc ?_
    repeat (first|((first|(refine qz0 ?_;(first|(first|(refine m_mov (by conv => lhs; whnf) ?_)|(refine m_gtr rfl rfl ?_)|(refine qye rfl ?_ (by conv => lhs; whnf) ?_;(· (refine decide_eq_true ?_; assumption))))|(refine g_noF rfl ?_ ?_;(· (refine decide_eq_true ?_; assumption)))))|refine qz1 ?_|refine qzj ?_|refine qzc ?_))|(refine qz0 ?_; refine g_unc rfl ?_))
    exact qyb (decide_eq_true h2).symm
  · have h0 : decide ((1048576 : Int) < (C.length : Nat)) = false := decide_eq_false (by omega)
    by_cases h3 : ((M.length : Nat) : Int) > 1048576 - C.length
    · have h2 : 1048576 < C.length + M.length := by omega
      repeat (first|(refine qz0 ?_;(refine m_mov (by conv => lhs; whnf) ?_))|refine qz1 ?_|refine qz3 ?_)
      refine qz0 ?_
      refine qve rfl hc ?_
      repeat (refine qz0 ?_;((try (refine g_yes rfl ?_ ?_;(· assumption)));(first|(refine m_mov (by conv => lhs; whnf) ?_)|(refine m_gtr rfl rfl ?_))))
      refine qz0 ?_
      refine g_yes rfl h0 ?_
      refine qve rfl hm ?_
      repeat (refine qz0 ?_;((try (refine g_yes rfl ?_ ?_;(· assumption)));(refine m_mov (by conv => lhs; whnf) ?_)))
      refine qz0 ?_
      refine g_yes rfl h0 ?_
      refine qve rfl hc ?_
      repeat (first|(refine qz0 ?_;((try (refine g_yes rfl ?_ ?_;(· assumption)));(first|(refine m_mov (by conv => lhs; whnf) ?_)|(refine m_gtr rfl rfl ?_)|(refine m_sub rfl rfl ?_ ?_ ?_;(· omega);(· omega))|(refine qy3 rfl ?_ (by conv => lhs; whnf) ?_;(· assumption)))))|refine qz1 ?_|refine qzj ?_|refine qzc ?_)
      exact qyb (decide_eq_decide.2 ⟨fun _ => h2,fun _ => by omega⟩)
    · have h2 : ¬ 1048576 < C.length + M.length := by omega
      repeat (first|(refine qz0 ?_;(refine m_mov (by conv => lhs; whnf) ?_))|refine qz1 ?_|refine qz3 ?_)
      refine qz0 ?_
      refine qve rfl hc ?_
      repeat (refine qz0 ?_;((try (refine g_yes rfl ?_ ?_;(· assumption)));(first|(refine m_mov (by conv => lhs; whnf) ?_)|(refine m_gtr rfl rfl ?_))))
      refine qz0 ?_
      refine g_yes rfl h0 ?_
      refine qve rfl hm ?_
      repeat (refine qz0 ?_;((try (refine g_yes rfl ?_ ?_;(· assumption)));(refine m_mov (by conv => lhs; whnf) ?_)))
      refine qz0 ?_
      refine g_yes rfl h0 ?_
      refine qve rfl hc ?_
      repeat (first|(refine qz0 ?_;((try (refine g_yes rfl ?_ ?_;(· assumption)));(first|(refine m_mov (by conv => lhs; whnf) ?_)|(refine m_gtr rfl rfl ?_)|(refine m_sub rfl rfl ?_ ?_ ?_;(· omega);(· omega))|(refine qy3 rfl ?_ (by conv => lhs; whnf) ?_;(· assumption)))))|refine qz1 ?_|refine qzj ?_|refine qzc ?_)
      exact qyb (decide_eq_decide.2 ⟨fun _ => by omega,fun hh => absurd hh h2⟩)
end Go.Proofs.YtngfogpbljconaaGreatDoor
namespace Go.Proofs.YtngfogpbljconaaGreatDoor
variable [Go.Am.CodeBlk]
open Go.Am
attribute [local irreducible] AW Outs Weak Lends Lend Sp aops atree aop1 Then Round InBlock Done
theorem bdMake_spec (n : Nat) (ps : List (List Int)) (hn : n ≤ 16) (hps : ps.length ≤ 1000) (hr : ∀ r ∈ ps,r.length = 2) : Sp Tryz.prog 109 [.i n,roM ps] (str (bdT (inB ps) n n)) := by
  refine qy7 Tryz.func109 rfl cc109 rfl ?_
  unfold ac109
  repeat (first|(refine qz0 ?_;(refine m_mov (by conv => lhs; whnf) ?_))|refine qz1 ?_|refine qz3 ?_|refine qz6 ?_|refine qz8 ?_)
  refine qyf (α := Nat) (fun k => k ≤ n) (fun k => st [(0,.i n),(1,roM ps),(5,str (bdT (inB ps) n k)),(6,.i k)] []) (fun k => n - k) 0 (by omega) (qz9 ?_ ?_ rfl rfl) ?_
  · (repeat' first|exact trivial|refine And.intro ?_ ?_)<;>first|rfl|skip
  · exact trivial
  intro k hk
  have hbl := bdT_len (inB ps) n k
  have hsz : k * (n + 1) ≤ 16 * 17 := Nat.mul_le_mul (by omega) (by omega)
  by_cases hc : k < n
  · have hpre : ∃ pre,pre = bdT (inB ps) n k ++ (if 0 < k then [47] else []) := ⟨_,rfl⟩
    obtain ⟨pre,hpr⟩ := hpre
    have hplen : pre.length ≤ 16 * 17 + 1 := by
      rw [hpr,List.length_append]
      have : (if 0 < k then [(47 : UInt8)] else []).length ≤ 1 := by split <;> simp
      omega
    rcases Nat.eq_zero_or_pos k with hk0|hk0
    case' inl =>
      rw [if_neg (by omega),List.append_nil] at hpr
      repeat (first|(refine qz0 ?_;(first|(refine m_mov (by conv => lhs; whnf) ?_)|(refine m_lss rfl rfl ?_)|(refine m_gtr rfl rfl ?_)))|refine qz1 ?_|refine qz3 ?_|(refine qzf rfl ?_ ?_;(· (refine decide_eq_true ?_; omega)))|(refine qzi rfl ?_ ?_;(· (refine decide_eq_false ?_; omega)))|refine qz5 ?_|refine qz6 ?_|refine qz8 ?_)
      refine qxe (qz9 (l := [(0,.i n),(1,roM ps),(5,str pre),(6,.i k),(7,.i (0 : Nat))]) (h := []) ?_ ?_ rfl rfl) ?_
      · rw [hpr]
        (repeat' first|exact trivial|refine And.intro ?_ ?_)<;>first|rfl|skip
      · exact trivial
    case' inr =>
      rw [if_pos hk0] at hpr
      repeat (first|(refine qz0 ?_;(first|(refine m_mov (by conv => lhs; whnf) ?_)|(refine m_lss rfl rfl ?_)|(refine m_gtr rfl rfl ?_)|(refine m_adds rfl rfl ?_ ?_;(· first|omega|(simp; omega)))))|refine qz1 ?_|refine qz3 ?_|refine qy5 ?_|(refine qzf rfl ?_ ?_;(· (refine decide_eq_true ?_; omega)))|refine qz5 ?_|refine qz6 ?_|refine qz7 ?_|refine qz8 ?_)
      refine qxe (qz9 (l := [(0,.i n),(1,roM ps),(5,str pre),(6,.i k),(7,.i (0 : Nat))]) (h := []) ?_ ?_ rfl rfl) ?_
      · rw [hpr]
        (repeat' first|exact trivial|refine And.intro ?_ ?_)<;>first|rfl|skip
      · exact trivial
    all_goals
      refine qyf (α := Nat) (fun j => j ≤ n) (fun j => st [(0,.i n),(1,roM ps),(5,str (pre ++ rowT (inB ps) k j)),(6,.i k),(7,.i j)] []) (fun j => n - j) 0 (by omega) (qz9 ?_ ?_ rfl rfl) ?_
      · rw [show pre ++ rowT (inB ps) k 0 = pre by simp [rowT]]
        (repeat' first|exact trivial|refine And.intro ?_ ?_)<;>first|rfl|skip
      · exact trivial
      intro j hj
      have hrl : (pre ++ rowT (inB ps) k j).length = pre.length + j := by rw [List.length_append,rowT_len]
      have hrl2 : (rowT (inB ps) k j).length = j := rowT_len _ _ _
      have hl5 : pre ++ rowT (inB ps) k (j + 1) = (pre ++ rowT (inB ps) k j) ++ [sgn (inB ps k j)] := by rw [rowT_snoc,← List.append_assoc]
      by_cases hcj : j < n
      · repeat (first|(refine qz0 ?_;(first|(refine m_mov (by conv => lhs; whnf) ?_)|(refine m_lss rfl rfl ?_)|(refine qy4 rfl ?_)))|refine qz1 ?_|refine qz3 ?_|(refine qzf rfl ?_ ?_;(· (refine decide_eq_true ?_; omega)))|refine qz5 ?_|refine qz6 ?_|refine qz8 ?_)
        refine qyf (α := Nat) (fun m => m ≤ ps.length) (fun m => st [(0,.i n),(1,roM ps),(5,str (pre ++ rowT (inB ps) k j)),(6,.i k),(7,.i j),(8,str [sgn (inB (ps.take m) k j)]),(25,roM ps),(26,.i ps.length),(27,.i m)] []) (fun m => ps.length - m) 0 (by omega) (qz9 ?_ ?_ rfl rfl) ?_
        · (repeat' first|exact trivial|refine And.intro ?_ ?_)<;>first|rfl|skip
        · exact trivial
        intro m hm
        by_cases hcm : m < ps.length
        · have hrow : (ps.getD m []).length = 2 := hr _ (getD_memL hcm)
          have hst : inB (ps.take (m + 1)) k j = (inB (ps.take m) k j || (decide ((ps.getD m []).getD 0 0 = (k : Int)) && decide ((ps.getD m []).getD 1 0 = (j : Int)))) := any_take_snoc ps _ [] m hcm
          obtain ⟨row,hrw⟩ : ∃ row,row = ps.getD m [] := ⟨_,rfl⟩
          rw [← hrw] at hst hrow
          by_cases h1 : row.getD 0 0 = (k : Int)
          · by_cases h2 : row.getD 1 0 = (j : Int)
            · rw [decide_eq_true h1,decide_eq_true h2,Bool.and_self,Bool.or_true] at hst
              repeat (first|(refine qz0 ?_;(first|(refine m_lss rfl rfl ?_)|(refine qy6 rfl rfl ?_ ?_;(· omega))))|refine qz1 ?_|refine qz3 ?_|(refine qzf rfl ?_ ?_;(· (refine decide_eq_true ?_; omega)))|refine qz5 ?_|refine qz6 ?_|refine qz8 ?_)
              refine qz0 ?_
              refine qvf rfl (roM_at hcm) ?_
              rw [← hrw]
              repeat (first|(refine qz0 ?_;((try (refine g_yes rfl ?_ ?_;(· (refine decide_eq_true ?_; assumption))));(first|(refine m_mov (by conv => lhs; whnf) ?_)|(refine m_eql rfl rfl ?_)|(refine m_add rfl rfl ?_ ?_ ?_;(· omega);(· omega))|(refine qvg rfl rfl ?_ ?_ ?_;(· omega);(· omega))|(refine qyg rfl ?_ ?_;(· omega))|(refine qye rfl ?_ (by conv => lhs; whnf) ?_;(· (refine decide_eq_true ?_; assumption))))))|refine qz1 ?_|refine qz3 ?_|refine qy5 ?_|(refine qzf rfl ?_ ?_;(· (refine decide_eq_true ?_; assumption)))|refine qz7 ?_|refine qze ?_)
              refine qzb (m + 1) (by omega) (qz9 ?_ ?_ rfl rfl) ?_
              · rw [hst]
                (repeat' first|exact trivial|refine And.intro ?_ ?_)<;>first|rfl|skip
              · exact trivial
              · omega
            · rw [decide_eq_false h2,Bool.and_false,Bool.or_false] at hst
              repeat (first|(refine qz0 ?_;(first|(refine m_lss rfl rfl ?_)|(refine qy6 rfl rfl ?_ ?_;(· omega))))|refine qz1 ?_|refine qz3 ?_|(refine qzf rfl ?_ ?_;(· (refine decide_eq_true ?_; omega)))|refine qz5 ?_|refine qz6 ?_|refine qz8 ?_)
              refine qz0 ?_
              refine qvf rfl (roM_at hcm) ?_
              rw [← hrw]
              repeat (first|(refine qz0 ?_;((try (refine g_yes rfl ?_ ?_;(· (refine decide_eq_true ?_; assumption))));(first|(refine m_mov (by conv => lhs; whnf) ?_)|(refine m_eql rfl rfl ?_)|(refine m_add rfl rfl ?_ ?_ ?_;(· omega);(· omega))|(refine qvg rfl rfl ?_ ?_ ?_;(· omega);(· omega))|(refine qyg rfl ?_ ?_;(· omega))|(refine qye rfl ?_ (by conv => lhs; whnf) ?_;(· (refine decide_eq_true ?_; assumption))))))|refine qz1 ?_|refine qz3 ?_|refine qy5 ?_|(refine qzi rfl ?_ ?_;(· (refine decide_eq_false ?_; assumption)))|refine qz7 ?_|refine qze ?_|refine qx6 ?_)
              refine qzb (m + 1) (by omega) (qz9 ?_ ?_ rfl rfl) ?_
              · rw [hst]
                (repeat' first|exact trivial|refine And.intro ?_ ?_)<;>first|rfl|skip
              · exact trivial
              · omega
          · rw [decide_eq_false h1,Bool.false_and,Bool.or_false] at hst
            repeat (first|(refine qz0 ?_;(first|(refine m_lss rfl rfl ?_)|(refine qy6 rfl rfl ?_ ?_;(· omega))))|refine qz1 ?_|refine qz3 ?_|(refine qzf rfl ?_ ?_;(· (refine decide_eq_true ?_; omega)))|refine qz5 ?_|refine qz6 ?_|refine qz8 ?_)
            refine qz0 ?_
            refine qvf rfl (roM_at hcm) ?_
            rw [← hrw]
            repeat (first|(refine qz0 ?_;(first|(first|(refine m_mov (by conv => lhs; whnf) ?_)|(refine m_eql rfl rfl ?_)|(refine m_add rfl rfl ?_ ?_ ?_;(· omega);(· omega))|(refine qvg rfl rfl ?_ ?_ ?_;(· omega);(· omega))|(refine qyg rfl ?_ ?_;(· omega))|(refine qy3 rfl ?_ (by conv => lhs; whnf) ?_;(· (refine decide_eq_false ?_; assumption))))|(refine g_noT rfl ?_ ?_;(· (refine decide_eq_false ?_; assumption)))))|refine qz1 ?_|refine qz3 ?_|refine qy5 ?_|(refine qzi rfl ?_ ?_;(· rfl))|refine qz7 ?_|refine qze ?_|refine qx6 ?_)
            refine qzb (m + 1) (by omega) (qz9 ?_ ?_ rfl rfl) ?_
            · rw [hst]
              (repeat' first|exact trivial|refine And.intro ?_ ?_)<;>first|rfl|skip
            · exact trivial
            · omega
        · obtain rfl : m = ps.length := by omega
          rw [List.take_length]
          repeat (first|(refine qz0 ?_;(first|(refine m_mov (by conv => lhs; whnf) ?_)|(refine m_lss rfl rfl ?_)|(refine m_add rfl rfl ?_ ?_ ?_;(· omega);(· omega))|(refine m_adds rfl rfl ?_ ?_;(· first|omega|(simp; omega)))))|refine qz1 ?_|refine qz3 ?_|refine qy5 ?_|(refine qzi rfl ?_ ?_;(· (refine decide_eq_false ?_; omega)))|refine qz6 ?_|refine qz7 ?_|refine qy1 ?_|refine qze ?_|refine qy0 ?_|refine qy9 ?_|refine qzg ?_)
          refine qzb (j + 1) (by omega) (qz9 ?_ ?_ rfl rfl) ?_
          · rw [hl5]
            (repeat' first|exact trivial|refine And.intro ?_ ?_)<;>first|rfl|skip
          · exact trivial
          · omega
      · obtain rfl : j = n := by omega
        have e : pre ++ rowT (inB ps) k j = bdT (inB ps) j (k + 1) := by
          simp only [bdT]
          rw [hpr]
          try rw [if_pos hk0]
          try rw [if_neg (by omega),List.append_nil]
        rw [e]
        repeat (first|(refine qz0 ?_;(first|(refine m_mov (by conv => lhs; whnf) ?_)|(refine m_lss rfl rfl ?_)|(refine m_add rfl rfl ?_ ?_ ?_;(· omega);(· omega))))|refine qz1 ?_|refine qz3 ?_|refine qy5 ?_|(refine qzi rfl ?_ ?_;(· (refine decide_eq_false ?_; omega)))|refine qz6 ?_|refine qz7 ?_|refine qy1 ?_|refine qze ?_|refine qy0 ?_|refine qy9 ?_|refine qzg ?_)
        refine qzb (k + 1) (by omega) (qz9 ?_ ?_ rfl rfl) ?_
        · (repeat' first|exact trivial|refine And.intro ?_ ?_)<;>first|rfl|skip
        · exact trivial
        · omega
  · obtain rfl : k = n := by omega
    repeat (first|(refine qz0 ?_;(first|(refine m_mov (by conv => lhs; whnf) ?_)|(refine m_lss rfl rfl ?_)))|refine qz1 ?_|refine qz3 ?_|(refine qzi rfl ?_ ?_;(· (refine decide_eq_false ?_; omega)))|refine qz6 ?_|refine qzj ?_|refine qzc ?_|refine qz7 ?_|refine qy1 ?_|refine qy0 ?_|refine qy9 ?_|refine qzg ?_)
    exact outs_v
end Go.Proofs.YtngfogpbljconaaGreatDoor
namespace Go.Proofs.YtngfogpbljconaaGreatDoor
variable [Go.Am.CodeBlk]
open Go.Am
attribute [local irreducible] AW Outs Weak Lends Lend Sp aops atree aop1 Then Round InBlock Done
attribute [local irreducible] SpH DoneH
def cplPs (m k : Nat) : List (List Int) := (List.range k).flatMap fun i : Nat => [[((i : Nat) : Int),((i : Nat) : Int)],[((i : Nat) : Int),(((i + 1) % m : Nat) : Int)]]
theorem cplPs_snoc (m k : Nat) : cplPs m (k + 1) = cplPs m k ++ [[(k : Int),(k : Int)]] ++ [[(k : Int),(((k + 1) % m : Nat) : Int)]] := by simp [cplPs,List.range_succ]
theorem cplPs_len (m k : Nat) : (cplPs m k).length = 2 * k := by
  induction k with
  | zero => rfl
  | succ k ih => rw [cplPs_snoc,List.length_append,List.length_append,ih]; simp; omega
theorem cplPs_row (m k : Nat) : ∀ r ∈ cplPs m k,r.length = 2 := by
  intro r hr
  simp only [cplPs,List.mem_flatMap] at hr
  obtain ⟨a,_,hr⟩ := hr
  simp at hr
  rcases hr with rfl|rfl <;> rfl
def cplBd (n : Int) : List UInt8 := if 1 ≤ n ∧ n ≤ 8 then bdT (inB (cplPs n.toNat n.toNat)) n.toNat n.toNat else []
theorem specCoupleBoard_spec (n : Int) : Sp Tryz.prog 96 [.i n] (.tup [str (cplBd n),.b (decide (1 ≤ n ∧ n ≤ 8))]) := by
  have hpb : pbase = 4000000 := rfl
  refine qy7 Tryz.func96 rfl cc96 rfl ?_
  unfold ac96
  by_cases h : 1 ≤ n ∧ n ≤ 8
  · obtain ⟨m,rfl⟩ := Int.eq_ofNat_of_zero_le (show 0 ≤ n by omega)
    have e : cplBd (m : Int) = bdT (inB (cplPs m m)) m m := by unfold cplBd; rw [if_pos h,Int.toNat_natCast]
    rw [e]
    repeat (first|(refine qz0 ?_;(refine m_mov (by conv => lhs; whnf) ?_))|refine qz1 ?_|refine qz3 ?_|refine qz6 ?_)
    (refine qz0 ?_);(apply qza (qvh _ _ _));(· repeat (first|exact qz4|(refine qz2 ?_ ?_;(· exact qzd))))
    repeat (first|(refine qz0 ?_;(first|(refine m_mov (by conv => lhs; whnf) ?_)|(refine m_not rfl ?_)|(refine qx2 ?_)))|refine qz1 ?_|refine qz3 ?_|(refine qzi rfl ?_ ?_;(· (refine nf ?_; assumption)))|refine qz5 ?_|refine qz6 ?_|refine qz8 ?_)
    refine qyf (α := Nat) (fun k => k ≤ m) (fun k => stM [(0,.i m),(4,.sl 4 1 0 (cplPs m k).length),(5,.i k)] [] 4 1000 (cplPs m k)) (fun k => m - k) 0 (by omega)
      (qvc id ?_ ?_ rfl rfl rfl (.inl (by simp [cplPs,pbase])) rfl rfl rfl (.inr ⟨rfl,rfl⟩) (fun j hj => by simp [cplPs] at hj)) ?_
    · (repeat' first|exact trivial|refine And.intro ?_ ?_)<;>first|rfl|skip
    · trivial
    intro k hk
    have hrl := qu2 1000 (cplPs m k)
    have hpl := cplPs_len m k
    by_cases hc : k < m
    · have hrem : ((k : Int) + 1) % (m : Int) = (((k + 1) % m : Nat) : Int) := rfl
      repeat (first|(refine qz0 ?_;(first|(refine m_mov (by conv => lhs; whnf) ?_)|(refine m_lss rfl rfl ?_)))|refine qz1 ?_|refine qz3 ?_|refine qy5 ?_|(refine qzf rfl ?_ ?_;(· (refine decide_eq_true ?_; omega)))|refine qz5 ?_|refine qz6 ?_|refine qz8 ?_)
      refine qz0 ?_
      refine m_bsl2i rfl rfl ?_
      repeat (refine qz0 ?_;(first|(refine m_mov (by conv => lhs; whnf) ?_)|(refine m_add rfl rfl ?_ ?_ ?_;(· omega);(· omega))|(refine m_rem rfl rfl ?_ ?_ ?_;(· omega);(· omega))))
      rw [hrem]
      refine qz0 ?_
      refine m_bsl2i rfl rfl ?_
      refine qz0 ?_
      refine m_bsl2d rfl rfl rfl rfl ?_
      refine qz0 ?_
      refine m_app2d rfl (by decide) rfl ?_ rfl rfl rfl rfl ?_ (by decide) ?_
      · simp [rowsC_kill,qu2]
      · omega
      repeat (first|(refine qz0 ?_;(first|(refine m_mov (by conv => lhs; whnf) ?_)|(refine m_add rfl rfl ?_ ?_ ?_;(· omega);(· omega))))|refine qz1 ?_|refine qy5 ?_|refine qz7 ?_|refine qze ?_)
      refine qzb (k + 1) (by omega) ?_ ?_
      · rw [cplPs_snoc,List.length_append,List.length_append]
        refine weak_push2 (fun r => if r = 4 then 25 else r) 17 23 ?_ ?_ rfl rfl rfl (by omega) rfl rfl (by decide) rfl (by decide) rfl (by decide) rfl ?_ ?_ ?_ ?_
        · (repeat' first|exact trivial|refine And.intro ?_ ?_)<;>first|rfl|skip
        · trivial
        · simp [rowsC_kill,killL_append,killL]
          exact ⟨rfl,rfl⟩
        · rfl
        · rfl
        · (intro j hj; simp (disch := first|omega|assumption) only [qua,qwe,qw6]; first|exact qw7 rfl hj|(rw [qw7 rfl hj]; rfl))
      · omega
    · obtain rfl : k = m := by omega
      repeat (first|(refine qz0 ?_;(first|(refine m_mov (by conv => lhs; whnf) ?_)|(refine m_lss rfl rfl ?_)))|refine qz1 ?_|refine qz3 ?_|(refine qzi rfl ?_ ?_;(· (refine decide_eq_false ?_; omega)))|refine qz6 ?_|refine qz7 ?_|refine qy1 ?_|refine qy0 ?_|refine qy9 ?_|refine qzg ?_)
      refine qz0 ?_
      refine qza (bdMake_spec k (cplPs k k) (by omega) (by omega) (cplPs_row k k)) ?_ ?_
      · refine qz2 qzd (qz2 ?_ qz4)
        refine lend_mat rfl ?_
        (intro j hj; simp (disch := first|omega|assumption) only [qua]; first|exact qw7 rfl hj|(rw [qw7 rfl hj]; rfl))
      repeat (first|(refine qz0 ?_;(refine m_mov (by conv => lhs; whnf) ?_))|refine qz1 ?_|refine qzj ?_|refine qzc ?_)
      exact qyh outs_v (qyb (by simp [h]))
  · have e : cplBd n = [] := if_neg h
    rw [e]
    repeat (first|(refine qz0 ?_;(refine m_mov (by conv => lhs; whnf) ?_))|refine qz1 ?_|refine qz3 ?_|refine qz6 ?_)
    (refine qz0 ?_);(apply qza (qvh _ _ _));(· repeat (first|exact qz4|(refine qz2 ?_ ?_;(· exact qzd))))
    repeat (first|(refine qz0 ?_;(first|(refine m_mov (by conv => lhs; whnf) ?_)|(refine m_not rfl ?_)))|refine qz1 ?_|refine qz3 ?_|(refine qzf rfl ?_ ?_;(· (refine nt ?_; assumption)))|refine qzj ?_|refine qzc ?_|refine qy8 ?_)
    exact qyh outs_v (qyb (by simp [h]))
end Go.Proofs.YtngfogpbljconaaGreatDoor
namespace Go.Am
variable [Go.Am.CodeBlk]
theorem lendH_slv {hp : Hp} {g : Nat → Nat} {hin : Hp} {q : Nat} {cs : List AV} (hall : cs.all plainV = true) (hin1 : ∀ r c,hin r = some c → (hp (g r)).isSome = true) (hq : hp q = some (true,cs)) (hne : ∀ r,(hin r).isSome = true → g r ≠ q) : LendH1 hp g hin (.sl q 1 0 cs.length) (.ro false 1 cs cs.length) := by
  intro w0 mu N tm w phi ro v hS h
  simp only [SimV] at h ⊢
  rcases h.2.2 with ⟨h1,_,h3,h4⟩|⟨b,o,cap,cur,e,h1,h2,h3,h4,h5,h6,h7⟩
  · exact .inl ⟨h3,by rw [List.eq_nil_of_length_eq_zero h3],none,0,by rw [h4],by simp⟩
  · by_cases hn : cs.length = 0
    · exact .inl ⟨hn,by rw [List.eq_nil_of_length_eq_zero hn],some ⟨b,o,none⟩,cap,by rw [h2,hn],by simp⟩
    · have ho : o = 0 := by
        rcases h4 with h4|h4
        · exact h4
        · exact absurd h4.1 hn
      subst ho
      have h1' : phi q = some b := h1
      have h3' : w.heap[b]? = some (.cells cur e (0,0)) := h3
      rcases hS.liv q _ hq with ⟨h8,_⟩|⟨b',cur',e',h8,h9,h10,h11,h12⟩|⟨b',o',e3,h8,h9,h10,_⟩
      · rw [h8] at h1'; cases h1'
      case inr.inr => exact ob_not_cells h8 h9 h10 h1 h3
      · rw [h8] at h1'
        cases h1'
        rw [h9] at h3'
        cases h3'
        refine .inr ⟨b,0,cap,cur,e,(0,0),h2,h9,⟨qyc h9,fun r hr hp' => ?_⟩,by simp,h5,by simp,?_⟩
        · obtain ⟨c,hc⟩ := Option.isSome_iff_exists.1 hr
          exact hne r hr (hS.inj _ _ b (hin1 r c hc) (by show (hp q).isSome = true; rw [hq]; rfl) hp' h8)
        · simp only [SimR,if_true] at h12
          rw [List.drop_zero]
          exact qxg hall h12
theorem lend_curs {s : AS} {r q : Nat} {v : Value} {a : Nat} {z : Int} {cs : List AV} (hall : cs.all plainV = true) (hr : s.hp r = some (true,curC v a z)) (hq : s.hp q = some (true,cs)) (hne : r ≠ q) : LendH1 s.hp (fun _ => r) (look (curH v a z)) (.sl q 1 0 cs.length) (.ro false 1 cs cs.length) :=
  lendH_slv hall (fun p c hp => by show (s.hp r).isSome = true; rw [hr]; rfl) hq fun p _ => hne
theorem curB_static {v v' : Value} {a a' : Nat} {z z' : Int} {M : List Int} {n : Nat} {B : List UInt8} : Static (look (curH v a z)) (.tup [str B,.sl nbase 1 0 n]) (look (curN v' a' z' M)) :=
  quc (by simp) (fun p hp => by
    rcases List.mem_cons.1 hp with rfl|hp
    · exact ⟨rfl,rfl⟩
    · rw [List.mem_singleton] at hp; subst hp; exact ⟨ints_ownC _ _,ints_refsC _ _⟩) ⟨rfl,rfl⟩
section
variable {P : Program} {s : AS} {K : AS → Prop} {d : Option Nat} {f : FuncId} {args : List Opd} {v : Value} {ι : Type} {ok : ι → Prop}
theorem m_drawSL {L : ι → List Int} {x : ι → List UInt8} {q : Nat} (hs : SpX P f [.v v] (look ([] : List (Nat × (Bool × List AV)))) ok (fun i => .tup [str (x i),.sl nbase 1 0 (L i).length]) (fun i => look [(nbase,(true,(L i).map AV.i))])) (ha : args.map s.ev = [.v v]) (hne : ∃ i,ok i) (hq : s.hp q = none) (hqp : q < pbase)
    (k : ∀ i,ok i → K ((s.mem q (true,(L i).map AV.i)).put d (.tup [str (x i),.sl q 1 0 (L i).length]))) : aop1 P true ⟨d,.call f args,none⟩ s K := by
  have hat : ∀ i p c,look [(nbase,(true,(L i).map AV.i))] p = some c → p = nbase ∧ c = (true,(L i).map AV.i) := fun i p c hc => by
    have := qxh hc
    rw [List.mem_singleton] at this
    exact ⟨congrArg Prod.fst this,congrArg Prod.snd this⟩
  have hl : LendsH s.hp (fun _ => q) (look ([] : List (Nat × (Bool × List AV)))) (args.map s.ev) [.v v] := by rw [ha]; exact qya qwc qx4
  refine m_callx (hp' := fun i => fun p => if p = q then some (true,(L i).map AV.i) else s.hp p) (fun _ => q) hs hl hne fun i hi => ⟨⟨fun p c hc => by simp [look] at hc,fun p p' h1 h2 _ => ?_,fun p hp => by simp [look] at hp,fun p hp _ => ⟨hq,hqp⟩,fun p c hc => ?_,fun p hp => ?_,fun p c hc => by simp [look] at hc,fun p c hc => ?_,rfl⟩,k i hi⟩
  · obtain ⟨c1,e1⟩ := Option.isSome_iff_exists.1 h1
    obtain ⟨c2,e2⟩ := Option.isSome_iff_exists.1 h2
    rw [(hat i _ _ e1).1,(hat i _ _ e2).1]
  · obtain ⟨rfl,rfl⟩ := hat i _ _ hc
    show (if q = q then _ else _) = _
    rw [if_pos rfl]
    exact congrArg (fun c => some (true,c)) (qwg _ _).symm
  · have := hp nbase rfl
    show (if p = q then _ else _) = _
    rw [if_neg fun e => this e.symm]
  · obtain ⟨rfl,rfl⟩ := hat i _ _ hc
    exact ints_ownC _ _
end
end Go.Am
namespace Go.Proofs.YtngfogpbljconaaGreatDoor
variable [Go.Am.CodeBlk]
open Go.Am
attribute [local irreducible] AW Outs Weak Lends Lend Sp aops atree aop1 Then Round InBlock Done
attribute [local irreducible] SpH SpX DoneH DoneX
theorem doneSL {s : AS} {T : List Nat} {v : Value} {a a1 : Nat} {z z1 : Int} {B : List UInt8} {M : List Int} {q n : Nat} {ok : List UInt8 × List Int × Nat × Int → Prop} (hi : ok (B,M,a1,z1)) (h1 : resAV s T = .tup [str B,.sl q 1 0 n]) (hn : n = M.length) (h2 : s.hp pbase = some (true,curC v a1 z1)) (h3 : s.hp q = some (true,M.map AV.i)) (hq : q < pbase) :
    DoneX T ok (fun i => .tup [str i.1,.sl nbase 1 0 i.2.1.length]) (Am.look (curH v a z)) (fun i => Am.look (curN v i.2.2.1 i.2.2.2 i.2.1)) .ret s := by
  have hpb : pbase = 4000000 := rfl
  refine ret_RX (B,M,a1,z1) hi (ret_R (hl := curH v a z) (ho := curN v a1 z1 M) (gL q) ?_ ⟨⟨_,by rw [gL_p]; exact h2,.inl rfl⟩,⟨_,by rw [gL_n]; exact h3,.inl ?_⟩,trivial⟩ ?_ ?_ ?_)
  · rw [h1,hn]
    rfl
  · exact congrArg (Prod.mk true) (qwg _ _).symm
  · intro p hp
    rw [List.mem_singleton] at hp
    subst hp
    exact ⟨gL_p,by simp⟩
  · intro p hp
    rcases List.mem_cons.1 hp with rfl|hp
    · exact .inl (by simp)
    · rw [List.mem_singleton] at hp; subst hp
      exact .inr (by rw [gL_n]; exact hq)
  · show [gL q pbase,gL q nbase].Nodup
    rw [gL_p,gL_n]
    simp; omega
abbrev strsV (M : List (List UInt8)) : List AV := M.map fun b => str b
theorem strsV_plain (M : List (List UInt8)) : (strsV M).all plainV = true := by
  rw [List.all_eq_true]
  intro x hx
  obtain ⟨y,_,rfl⟩ := List.mem_map.1 hx
  rfl
theorem curOf_spec {v : Value} {L : List UInt8} (hv : Bys v L) (hL : L.length ≤ 1048576) (a : Nat) (ha : a ≤ 999999) (z : Int) (M : List (List UInt8)) (h1 : 1 ≤ M.length) (hM : M.length ≤ 1000) (hb : ∀ x ∈ M,x.length ≤ 100) :
    SpX Tryz.prog 95 [.pt pbase 0,.ro false 1 (strsV M) (strsV M).length] (Am.look (curH v a z)) (ι := List UInt8 × Nat × Int) (fun i => i.1.length ≤ 100 ∧ i.2.1 ≤ a + 2) (fun i => .v (.string ⟨i.1.toArray⟩)) (fun i => Am.look (curH v i.2.1 i.2.2)) := by
  have hpb := qui v a z
  have hsta : ∀ i : List UInt8 × Nat × Int,i.1.length ≤ 100 ∧ i.2.1 ≤ a + 2 → Static (Am.look (curH v a z)) (.v (.string ⟨i.1.toArray⟩)) (Am.look (curH v i.2.1 i.2.2)) := fun i _ => cur_static
  have hlen : (strsV M).length = M.length := List.length_map ..
  refine qv5 Tryz.func95 rfl cc95 rfl hpb hsta ?_
  unfold ac95
  clear hpb hsta
  have hp := qw4 hv hL a ha z (strsV M).length (by omega)
  repeat (first|(refine qz0 ?_;(first|(refine m_mov (by conv => lhs; whnf) ?_)|(refine qy4 rfl ?_)))|refine qz1 ?_|refine qz3 ?_)
  refine qz0 ?_
  refine m_cur hp rfl (qya (qxi rfl) (qya qwc qx4)) ⟨(0,a,z),show 0 < max (strsV M).length 1 by omega,show a ≤ a + 2 by omega⟩ ?_
  rintro ⟨m,a1,z1⟩ ⟨hm,ha1⟩
  dsimp only at hm ha1 ⊢
  have hml : m < M.length := by omega
  have hat : ((strsV M).drop m)[0]? = some (str (M.getD m [])) := by simp [strsV,hml]
  have hmb := hb (M.getD m []) (by simp [hml])
  repeat (refine qz0 ?_;(refine qy6 rfl rfl ?_ ?_;(· omega)))
  refine qz0 ?_
  refine qvf rfl hat ?_
  repeat (first|(refine qz0 ?_;(refine m_mov (by conv => lhs; whnf) ?_))|refine qz1 ?_|refine qzj ?_)
  exact doneC (i := (M.getD m [],a1,z1)) ⟨hmb,ha1⟩ rfl rfl
theorem curSureB_spec {v : Value} {L : List UInt8} (hv : Bys v L) (hL : L.length ≤ 1048576) (a : Nat) (ha : a ≤ 900000) (z : Int) (n : Nat) (hn : n ≤ 8) :
    SpX Tryz.prog 97 [.pt pbase 0,.i (n : Nat)] (Am.look (curH v a z)) (ι := List UInt8 × Nat × Int) (fun i => i.1.length ≤ 200 ∧ i.2.1 ≤ a + 200) (fun i => .v (.string ⟨i.1.toArray⟩)) (fun i => Am.look (curH v i.2.1 i.2.2)) := by
  have hpb := qui v a z
  have hsta : ∀ i : List UInt8 × Nat × Int,i.1.length ≤ 200 ∧ i.2.1 ≤ a + 200 → Static (Am.look (curH v a z)) (.v (.string ⟨i.1.toArray⟩)) (Am.look (curH v i.2.1 i.2.2)) := fun i _ => cur_static
  refine qv5 Tryz.func97 rfl cc97 rfl hpb hsta ?_
  unfold ac97
  clear hpb hsta
  repeat (first|(refine qz0 ?_;(refine m_mov (by conv => lhs; whnf) ?_))|refine qz1 ?_|refine qz3 ?_)
  refine qz0 ?_
  refine m_cur (qw4 hv hL a (by omega) z 3 (by omega)) rfl (qya (qxi rfl) (qya qwc qx4)) ⟨(0,a,z),show 0 < max 3 1 by omega,show a ≤ a + 2 by omega⟩ ?_
  rintro ⟨m,a1,z1⟩ ⟨hm,ha1⟩
  dsimp only at hm ha1 ⊢
  repeat (first|(refine qz0 ?_;(first|(refine m_mov (by conv => lhs; whnf) ?_)|(refine m_add rfl rfl ?_ ?_ ?_;(· omega);(· omega))))|refine qz1 ?_|refine qz3 ?_|refine qz6 ?_|refine qz8 ?_)
  refine qyf (α := Nat × List UInt8 × Nat × Int) (fun q => q.1 ≤ n ∧ q.2.1.length ≤ 20 * q.1 ∧ q.2.2.1 ≤ a + 2 + 20 * q.1) (fun q => st [(0,.pt pbase 0),(1,.i (n : Nat)),(5,str q.2.1),(6,.i (2 + (m : Int))),(7,.i (q.1 : Nat))] [(pbase,(true,curC v q.2.2.1 q.2.2.2))]) (fun q => n - q.1) (0,[],a1,z1) ⟨Nat.zero_le _,by simp,ha1⟩ (qz9 ?_ ?_ rfl rfl) ?_
  · (repeat' first|exact trivial|refine And.intro ?_ ?_)<;>first|rfl|skip
  · (repeat' first|exact trivial|refine And.intro ?_ ?_)<;>first|rfl|skip
  rintro ⟨i,S,a2,z2⟩ ⟨hi,hS,ha2⟩
  dsimp only at hi hS ha2 ⊢
  by_cases hc : i < n
  · have key : ∀ S2 : List UInt8,S2.length ≤ 20 * i + 1 → AW Tryz.prog (min Tryz.f97.ntmps pbase) .skip (st [(0,.pt pbase 0),(1,.i (n : Nat)),(5,str S2),(6,.i (2 + (m : Int))),(7,.i (i : Nat))] [(pbase,(true,curC v a2 z2))]) (fun _ _ => True) → True := fun _ _ _ => trivial
    clear key
    by_cases h0 : (i : Int) > 0
    · repeat (first|(refine qz0 ?_;(first|(refine m_mov (by conv => lhs; whnf) ?_)|(refine m_lss rfl rfl ?_)|(refine m_gtr rfl rfl ?_)|(refine m_adds rfl rfl ?_ ?_;(· first|omega|(simp; omega)))))|refine qz1 ?_|refine qz3 ?_|refine qy5 ?_|(refine qzf rfl ?_ ?_;(· first|(refine decide_eq_true ?_; assumption)|(refine decide_eq_true ?_; omega)))|refine qz5 ?_|refine qz6 ?_|refine qz7 ?_|refine qz8 ?_)
      refine qyf (α := Nat × List UInt8 × Nat × Int) (fun q => q.1 ≤ n ∧ q.2.1.length ≤ 20 * i + 1 + q.1 ∧ q.2.2.1 ≤ a + 2 + 20 * i + 2 * q.1) (fun q => st [(0,.pt pbase 0),(1,.i (n : Nat)),(5,str q.2.1),(6,.i (2 + (m : Int))),(7,.i (i : Nat)),(8,.i (q.1 : Nat))] [(pbase,(true,curC v q.2.2.1 q.2.2.2))]) (fun q => n - q.1) (0,S ++ [47],a2,z2) ⟨Nat.zero_le _,by simp; omega,ha2⟩ (qz9 ?_ ?_ rfl rfl) ?_
      · (repeat' first|exact trivial|refine And.intro ?_ ?_)<;>first|rfl|skip
      · (repeat' first|exact trivial|refine And.intro ?_ ?_)<;>first|rfl|skip
      rintro ⟨j,S3,a3,z3⟩ ⟨hj,hS3,ha3⟩
      dsimp only at hj hS3 ha3 ⊢
      by_cases hc2 : j < n
      · repeat (first|(refine qz0 ?_;(first|(refine m_mov (by conv => lhs; whnf) ?_)|(refine m_lss rfl rfl ?_)))|refine qz1 ?_|refine qz3 ?_|(refine qzf rfl ?_ ?_;(· (refine decide_eq_true ?_; omega)))|refine qz5 ?_|refine qz6 ?_|refine qz8 ?_)
        refine qz0 ?_
        rw [show (2 + (m : Int)) = ((2 + m : Nat) : Int) by omega]
        refine m_cur (curOne_spec hv hL a3 (by omega) z3 (2 + m) (by omega)) rfl (qya (qxi rfl) (qya qwc qx4)) ⟨(true,a3,z3),show a3 ≤ a3 + 2 by omega⟩ ?_
        rintro ⟨b,a4,z4⟩ ha4
        dsimp only at ha4 ⊢
        cases b with
        | true =>
          repeat (first|(refine qz0 ?_;(first|(refine m_mov (by conv => lhs; whnf) ?_)|(refine m_add rfl rfl ?_ ?_ ?_;(· omega);(· omega))|(refine m_adds rfl rfl ?_ ?_;(· first|omega|(simp; omega)))))|refine qz1 ?_|refine qy5 ?_|(refine qzf rfl ?_ ?_;(· rfl))|refine qz7 ?_|refine qze ?_)
          refine qzb (j + 1,S3 ++ [35],a4,z4) ⟨by omega,by simp; omega,by dsimp only; omega⟩ (qz9 ?_ ?_ rfl rfl) (by dsimp only; omega)
          · (repeat' first|exact trivial|refine And.intro ?_ ?_)<;>first|rfl|skip
          · (repeat' first|exact trivial|refine And.intro ?_ ?_)<;>first|rfl|skip
        | false =>
          repeat (first|(refine qz0 ?_;(first|(refine m_mov (by conv => lhs; whnf) ?_)|(refine m_add rfl rfl ?_ ?_ ?_;(· omega);(· omega))|(refine m_adds rfl rfl ?_ ?_;(· first|omega|(simp; omega)))))|refine qz1 ?_|refine qy5 ?_|(refine qzi rfl ?_ ?_;(· rfl))|refine qz7 ?_|refine qze ?_)
          refine qzb (j + 1,S3 ++ [46],a4,z4) ⟨by omega,by simp; omega,by dsimp only; omega⟩ (qz9 ?_ ?_ rfl rfl) (by dsimp only; omega)
          · (repeat' first|exact trivial|refine And.intro ?_ ?_)<;>first|rfl|skip
          · (repeat' first|exact trivial|refine And.intro ?_ ?_)<;>first|rfl|skip
      · repeat (first|(refine qz0 ?_;(first|(refine m_mov (by conv => lhs; whnf) ?_)|(refine m_lss rfl rfl ?_)|(refine m_add rfl rfl ?_ ?_ ?_;(· omega);(· omega))))|refine qz1 ?_|refine qz3 ?_|refine qy5 ?_|(refine qzi rfl ?_ ?_;(· (refine decide_eq_false ?_; omega)))|refine qz6 ?_|refine qz7 ?_|refine qy1 ?_|refine qze ?_|refine qy0 ?_|refine qy9 ?_|refine qzg ?_)
        refine qzb (i + 1,S3,a3,z3) ⟨by omega,by dsimp only; omega,by dsimp only; omega⟩ (qz9 ?_ ?_ rfl rfl) (by dsimp only; omega)
        · (repeat' first|exact trivial|refine And.intro ?_ ?_)<;>first|rfl|skip
        · (repeat' first|exact trivial|refine And.intro ?_ ?_)<;>first|rfl|skip
    · repeat (first|(refine qz0 ?_;(first|(refine m_mov (by conv => lhs; whnf) ?_)|(refine m_lss rfl rfl ?_)|(refine m_gtr rfl rfl ?_)))|refine qz1 ?_|refine qz3 ?_|(refine qzf rfl ?_ ?_;(· (refine decide_eq_true ?_; omega)))|(refine qzi rfl ?_ ?_;(· (refine decide_eq_false ?_; assumption)))|refine qz5 ?_|refine qz6 ?_|refine qz8 ?_)
      refine qyf (α := Nat × List UInt8 × Nat × Int) (fun q => q.1 ≤ n ∧ q.2.1.length ≤ 20 * i + 1 + q.1 ∧ q.2.2.1 ≤ a + 2 + 20 * i + 2 * q.1) (fun q => st [(0,.pt pbase 0),(1,.i (n : Nat)),(5,str q.2.1),(6,.i (2 + (m : Int))),(7,.i (i : Nat)),(8,.i (q.1 : Nat))] [(pbase,(true,curC v q.2.2.1 q.2.2.2))]) (fun q => n - q.1) (0,S,a2,z2) ⟨Nat.zero_le _,by dsimp only; omega,ha2⟩ (qz9 ?_ ?_ rfl rfl) ?_
      · (repeat' first|exact trivial|refine And.intro ?_ ?_)<;>first|rfl|skip
      · (repeat' first|exact trivial|refine And.intro ?_ ?_)<;>first|rfl|skip
      rintro ⟨j,S3,a3,z3⟩ ⟨hj,hS3,ha3⟩
      dsimp only at hj hS3 ha3 ⊢
      by_cases hc2 : j < n
      · repeat (first|(refine qz0 ?_;(first|(refine m_mov (by conv => lhs; whnf) ?_)|(refine m_lss rfl rfl ?_)))|refine qz1 ?_|refine qz3 ?_|(refine qzf rfl ?_ ?_;(· (refine decide_eq_true ?_; omega)))|refine qz5 ?_|refine qz6 ?_|refine qz8 ?_)
        refine qz0 ?_
        rw [show (2 + (m : Int)) = ((2 + m : Nat) : Int) by omega]
        refine m_cur (curOne_spec hv hL a3 (by omega) z3 (2 + m) (by omega)) rfl (qya (qxi rfl) (qya qwc qx4)) ⟨(true,a3,z3),show a3 ≤ a3 + 2 by omega⟩ ?_
        rintro ⟨b,a4,z4⟩ ha4
        dsimp only at ha4 ⊢
        cases b with
        | true =>
          repeat (first|(refine qz0 ?_;(first|(refine m_mov (by conv => lhs; whnf) ?_)|(refine m_add rfl rfl ?_ ?_ ?_;(· omega);(· omega))|(refine m_adds rfl rfl ?_ ?_;(· first|omega|(simp; omega)))))|refine qz1 ?_|refine qy5 ?_|(refine qzf rfl ?_ ?_;(· rfl))|refine qz7 ?_|refine qze ?_)
          refine qzb (j + 1,S3 ++ [35],a4,z4) ⟨by omega,by simp; omega,by dsimp only; omega⟩ (qz9 ?_ ?_ rfl rfl) (by dsimp only; omega)
          · (repeat' first|exact trivial|refine And.intro ?_ ?_)<;>first|rfl|skip
          · (repeat' first|exact trivial|refine And.intro ?_ ?_)<;>first|rfl|skip
        | false =>
          repeat (first|(refine qz0 ?_;(first|(refine m_mov (by conv => lhs; whnf) ?_)|(refine m_add rfl rfl ?_ ?_ ?_;(· omega);(· omega))|(refine m_adds rfl rfl ?_ ?_;(· first|omega|(simp; omega)))))|refine qz1 ?_|refine qy5 ?_|(refine qzi rfl ?_ ?_;(· rfl))|refine qz7 ?_|refine qze ?_)
          refine qzb (j + 1,S3 ++ [46],a4,z4) ⟨by omega,by simp; omega,by dsimp only; omega⟩ (qz9 ?_ ?_ rfl rfl) (by dsimp only; omega)
          · (repeat' first|exact trivial|refine And.intro ?_ ?_)<;>first|rfl|skip
          · (repeat' first|exact trivial|refine And.intro ?_ ?_)<;>first|rfl|skip
      · repeat (first|(refine qz0 ?_;(first|(refine m_mov (by conv => lhs; whnf) ?_)|(refine m_lss rfl rfl ?_)|(refine m_add rfl rfl ?_ ?_ ?_;(· omega);(· omega))))|refine qz1 ?_|refine qz3 ?_|refine qy5 ?_|(refine qzi rfl ?_ ?_;(· (refine decide_eq_false ?_; omega)))|refine qz6 ?_|refine qz7 ?_|refine qy1 ?_|refine qze ?_|refine qy0 ?_|refine qy9 ?_|refine qzg ?_)
        refine qzb (i + 1,S3,a3,z3) ⟨by omega,by dsimp only; omega,by dsimp only; omega⟩ (qz9 ?_ ?_ rfl rfl) (by dsimp only; omega)
        · (repeat' first|exact trivial|refine And.intro ?_ ?_)<;>first|rfl|skip
        · (repeat' first|exact trivial|refine And.intro ?_ ?_)<;>first|rfl|skip
  · repeat (first|(refine qz0 ?_;(first|(refine m_mov (by conv => lhs; whnf) ?_)|(refine m_lss rfl rfl ?_)))|refine qz1 ?_|refine qz3 ?_|(refine qzi rfl ?_ ?_;(· (refine decide_eq_false ?_; omega)))|refine qz6 ?_|refine qzj ?_|refine qz7 ?_|refine qy1 ?_|refine qy0 ?_|refine qy9 ?_|refine qzg ?_)
    exact doneC (i := (S,a2,z2)) ⟨show S.length ≤ 200 by omega,show a2 ≤ a + 200 by omega⟩ rfl rfl
theorem cpl_small : ∀ k < 6,(cplBd (1 + ((k : Nat) : Int))).length ≤ 200 := by decide +kernel
theorem curBoard_spec {v : Value} {L : List UInt8} (hv : Bys v L) (hL : L.length ≤ 1048576) (a : Nat) (ha : a ≤ 800000) (z : Int) :
    SpX Tryz.prog 75 [.pt pbase 0] (Am.look (curH v a z)) (ι := List UInt8 × Nat × Int) (fun i => i.1.length ≤ 200 ∧ i.2.1 ≤ a + 300) (fun i => .v (.string ⟨i.1.toArray⟩)) (fun i => Am.look (curH v i.2.1 i.2.2)) := by
  have hpb := qui v a z
  have hsta : ∀ i : List UInt8 × Nat × Int,i.1.length ≤ 200 ∧ i.2.1 ≤ a + 300 → Static (Am.look (curH v a z)) (.v (.string ⟨i.1.toArray⟩)) (Am.look (curH v i.2.1 i.2.2)) := fun i _ => cur_static
  refine qv5 Tryz.func75 rfl cc75 rfl hpb hsta ?_
  unfold ac75
  clear hpb hsta
  repeat (first|(refine qz0 ?_;(refine m_mov (by conv => lhs; whnf) ?_))|refine qz1 ?_|refine qz3 ?_|refine qz6 ?_)
  refine qz0 ?_
  refine m_cur (curOne_spec hv hL a (by omega) z 12 (by omega)) rfl (qya (qxi rfl) (qya qwc qx4)) ⟨(true,a,z),show a ≤ a + 2 by omega⟩ ?_
  rintro ⟨b,a1,z1⟩ ha1
  dsimp only at ha1 ⊢
  cases b with
  | true =>
    repeat (first|(refine qz0 ?_;(refine m_mov (by conv => lhs; whnf) ?_))|refine qz1 ?_|refine qz3 ?_|(refine qzf rfl ?_ ?_;(· rfl)))
    refine qz0 ?_
    refine m_bsl (fl := true) (out := strsV [[],[47],[120],[46,35],[46,46],[46,47,35],[35,46,47,46,35,47],[46,46,47,46,120]]) (by (iterate 8 (refine Or.inl ⟨rfl,by simp,rfl,?_⟩)); rfl) ?_
    refine qz0 ?_
    refine m_cur (curOf_spec hv hL a1 (by omega) z1 [[],[47],[120],[46,35],[46,46],[46,47,35],[35,46,47,46,35,47],[46,46,47,46,120]] (by decide) (by decide) (by decide)) rfl (qya (qxi rfl) (qya (lend_curs (q := 8) (cs := strsV [[],[47],[120],[46,35],[46,46],[46,47,35],[35,46,47,46,35,47],[46,46,47,46,120]]) (strsV_plain _) rfl rfl (show pbase ≠ 8 by decide)) qx4)) ⟨([],a1,z1),by simp,show a1 ≤ a1 + 2 by omega⟩ ?_
    rintro ⟨S,a2,z2⟩ ⟨hS,ha2⟩
    dsimp only at hS ha2 ⊢
    repeat (first|(refine qz0 ?_;(refine m_mov (by conv => lhs; whnf) ?_))|refine qz1 ?_|refine qzj ?_|refine qy8 ?_)
    exact doneC (i := (S,a2,z2)) ⟨show S.length ≤ 200 by omega,show a2 ≤ a + 300 by omega⟩ rfl rfl
  | false =>
    repeat (first|(refine qz0 ?_;(refine m_mov (by conv => lhs; whnf) ?_))|refine qz1 ?_|refine qz3 ?_|(refine qzi rfl ?_ ?_;(· rfl))|refine qz5 ?_|refine qz6 ?_)
    refine qz0 ?_
    refine m_cur (curOne_spec hv hL a1 (by omega) z1 6 (by omega)) rfl (qya (qxi rfl) (qya qwc qx4)) ⟨(true,a1,z1),show a1 ≤ a1 + 2 by omega⟩ ?_
    rintro ⟨b,a2,z2⟩ ha2
    dsimp only at ha2 ⊢
    cases b with
    | true =>
      repeat (first|(refine qz0 ?_;(refine m_mov (by conv => lhs; whnf) ?_))|refine qz1 ?_|refine qz3 ?_|(refine qzf rfl ?_ ?_;(· rfl)))
      refine qz0 ?_
      refine m_cur (qw4 hv hL a2 (by omega) z2 6 (by omega)) rfl (qya (qxi rfl) (qya qwc qx4)) ⟨(0,a2,z2),show 0 < max 6 1 by omega,show a2 ≤ a2 + 2 by omega⟩ ?_
      rintro ⟨k,a3,z3⟩ ⟨hk,ha3⟩
      dsimp only at hk ha3 ⊢
      have hcs := cpl_small k (by omega)
      have hcp := specCoupleBoard_spec (1 + (k : Int))
      generalize cplBd (1 + (k : Int)) = S at *
      repeat (refine qz0 ?_;(refine m_add rfl rfl ?_ ?_ ?_;(· omega);(· omega)))
      (refine qz0 ?_);(apply qza (hcp));(· repeat (first|exact qz4|(refine qz2 ?_ ?_;(· exact qzd))))
      repeat (first|(refine qz0 ?_;(first|(refine m_mov (by conv => lhs; whnf) ?_)|(refine m_ext rfl rfl ?_)))|refine qz1 ?_|refine qz3 ?_|refine qzj ?_|refine qy8 ?_)
      exact doneC (i := (S,a3,z3)) ⟨show S.length ≤ 200 by omega,show a3 ≤ a + 300 by omega⟩ rfl rfl
    | false =>
      repeat (first|(refine qz0 ?_;(refine m_mov (by conv => lhs; whnf) ?_))|refine qz1 ?_|refine qz3 ?_|(refine qzi rfl ?_ ?_;(· rfl))|refine qz5 ?_)
      refine qz0 ?_
      refine m_cur (qw4 hv hL a2 (by omega) z2 5 (by omega)) rfl (qya (qxi rfl) (qya qwc qx4)) ⟨(0,a2,z2),show 0 < max 5 1 by omega,show a2 ≤ a2 + 2 by omega⟩ ?_
      rintro ⟨k,a3,z3⟩ ⟨hk,ha3⟩
      dsimp only at hk ha3 ⊢
      repeat (refine qz0 ?_;(refine m_add rfl rfl ?_ ?_ ?_;(· omega);(· omega)))
      refine qz0 ?_
      refine m_cur (curSureB_spec hv hL a3 (by omega) z3 (1 + k) (by omega)) rfl (qya (qxi rfl) (qya (by rw [show (((1 + k : Nat) : Nat) : Int) = 1 + (k : Int) by omega]; exact qwc) qx4)) ⟨([],a3,z3),by simp,show a3 ≤ a3 + 200 by omega⟩ ?_
      rintro ⟨S,a4,z4⟩ ⟨hS,ha4⟩
      dsimp only at hS ha4 ⊢
      repeat (first|(refine qz0 ?_;(refine m_mov (by conv => lhs; whnf) ?_))|refine qz1 ?_|refine qzj ?_)
      exact doneC (i := (S,a4,z4)) ⟨show S.length ≤ 200 by omega,show a4 ≤ a + 300 by omega⟩ rfl rfl
end Go.Proofs.YtngfogpbljconaaGreatDoor
namespace Go.Proofs.YtngfogpbljconaaGreatDoor
variable [Go.Am.CodeBlk]
open Go.Am
attribute [local irreducible] AW Outs Weak Lends Lend Sp aops atree aop1 Then Round InBlock Done
attribute [local irreducible] SpH SpX DoneH DoneX
theorem boarded_spec {v : Value} {L : List UInt8} (hv : Bys v L) (hL : L.length ≤ 1048576) (a : Nat) (ha : a ≤ 700000) (z : Int) :
    SpX Tryz.prog 61 [.pt pbase 0] (Am.look (curH v a z)) (ι := List UInt8 × List Int × Nat × Int) (fun i => i.1.length ≤ 200 ∧ i.2.1.length ≤ 13 ∧ i.2.2.1 ≤ a + 500) (fun i => .tup [str i.1,.sl nbase 1 0 i.2.1.length]) (fun i => Am.look (curN v i.2.2.1 i.2.2.2 i.2.1)) := by
  have hpb := qui v a z
  have hsta : ∀ i : List UInt8 × List Int × Nat × Int,i.1.length ≤ 200 ∧ i.2.1.length ≤ 13 ∧ i.2.2.1 ≤ a + 500 → Static (Am.look (curH v a z)) (.tup [str i.1,.sl nbase 1 0 i.2.1.length]) (Am.look (curN v i.2.2.1 i.2.2.2 i.2.1)) := fun i _ => curB_static
  refine qv5 Tryz.func61 rfl cc61 rfl hpb hsta ?_
  unfold ac61
  clear hpb hsta
  repeat (first|(refine qz0 ?_;(first|(refine m_mov (by conv => lhs; whnf) ?_)|(refine qx2 ?_)))|refine qz1 ?_|refine qz3 ?_)
  refine qz0 ?_
  refine m_cur (curBoard_spec hv hL a (by omega) z) rfl (qya (qxi rfl) qx4) ⟨([],a,z),by simp,show a ≤ a + 300 by omega⟩ ?_
  rintro ⟨B,a1,z1⟩ ⟨hB,ha1⟩
  dsimp only at hB ha1 ⊢
  have hg := qw0 B (by omega)
  by_cases h : GoodBd B
  · rw [decide_eq_true h] at hg
    have hsd := qx5 h
    have hbs := qyj B (by omega)
    repeat (first|(refine qz0 ?_;(refine m_mov (by conv => lhs; whnf) ?_))|refine qz1 ?_|refine qz3 ?_|refine qz6 ?_)
    (refine qz0 ?_);(apply qza (hg));(· repeat (first|exact qz4|(refine qz2 ?_ ?_;(· exact qzd))))
    repeat (refine qz0 ?_;((try (refine g_yes rfl ?_ ?_;(· rfl)));(first|(refine m_mov (by conv => lhs; whnf) ?_)|(refine m_not rfl ?_))))
    refine qz0 ?_
    refine g_yes rfl rfl ?_
    refine m_cur (curOne_spec hv hL a1 (by omega) z1 10 (by omega)) rfl (qya (qxi rfl) (qya qwc qx4)) ⟨(true,a1,z1),show a1 ≤ a1 + 2 by omega⟩ ?_
    rintro ⟨b,a2,z2⟩ ha2
    dsimp only at ha2 ⊢
    cases b with
    | true =>
      repeat (first|(refine qz0 ?_;(first|(refine m_mov (by conv => lhs; whnf) ?_)|(refine qy3 rfl ?_ (by conv => lhs; whnf) ?_;(· rfl))))|refine qz1 ?_|refine qz3 ?_|(refine qzf rfl ?_ ?_;(· rfl)))
      refine qz0 ?_
      refine m_curL (q := 1000) (curExch_spec hv hL a2 (by omega) z2) rfl rfl (by decide) (qya (lend_curN rfl) qx4) ⟨([],a2,z2),by simp,show a2 ≤ a2 + 100 by omega⟩ ?_
      rintro ⟨M,a3,z3⟩ ⟨hM,ha3⟩
      dsimp only at hM ha3 ⊢
      repeat (first|(refine qz0 ?_;(refine m_mov (by conv => lhs; whnf) ?_))|refine qz1 ?_|refine qzj ?_|refine qy8 ?_)
      exact doneSL (B := B) (M := M) ⟨hB,hM,show a3 ≤ a + 500 by omega⟩ rfl rfl rfl rfl (by decide)
    | false =>
      repeat (first|(refine qz0 ?_;(first|(refine m_mov (by conv => lhs; whnf) ?_)|(refine qy3 rfl ?_ (by conv => lhs; whnf) ?_;(· rfl))|(refine qx2 ?_)))|refine qz1 ?_|refine qz3 ?_|(refine qzi rfl ?_ ?_;(· rfl))|refine qz5 ?_|refine qz6 ?_|refine qz8 ?_)
      refine qyf (α := List Int × Nat × Int) (fun q => q.1.length ≤ sdB B ∧ q.2.1 ≤ a + 302 + 2 * q.1.length) (fun q => st [(0,.pt pbase 0),(4,str B),(5,.sl 5 1 0 q.1.length),(6,.i q.1.length)] [(pbase,(true,curC v q.2.1 q.2.2)),(5,(true,q.1.map AV.i))]) (fun q => sdB B - q.1.length) ([],a2,z2) ⟨by simp,by simp; omega⟩ (qz9 ?_ ?_ rfl rfl) ?_
      · (repeat' first|exact trivial|refine And.intro ?_ ?_)<;>first|rfl|skip
      · (repeat' first|exact trivial|refine And.intro ?_ ?_)<;>first|rfl|skip
      rintro ⟨M,a3,z3⟩ ⟨hM,ha3⟩
      dsimp only at hM ha3 ⊢
      by_cases hc : M.length < sdB B
      · repeat (first|(refine qz0 ?_;(refine m_mov (by conv => lhs; whnf) ?_))|refine qz3 ?_|refine qz6 ?_)
        (refine qz0 ?_);(apply qza (hbs));(· repeat (first|exact qz4|(refine qz2 ?_ ?_;(· exact qzd))))
        repeat (first|(refine qz0 ?_;(first|(refine m_mov (by conv => lhs; whnf) ?_)|(refine m_lss rfl rfl ?_)|(refine m_add rfl rfl ?_ ?_ ?_;(· omega);(· omega))|(refine qwd rfl ?_)))|refine qz1 ?_|refine qz3 ?_|(refine qzf rfl ?_ ?_;(· (refine decide_eq_true ?_; omega)))|refine qz5 ?_|refine qz6 ?_|refine qz8 ?_)
        refine qz0 ?_
        refine m_cur (qw4 hv hL a3 (by omega) z3 (M.length + 1) (by omega)) rfl (qya (qxi rfl) (qya qwc qx4)) ⟨(0,a3,z3),show 0 < max (M.length + 1) 1 by omega,show a3 ≤ a3 + 2 by omega⟩ ?_
        rintro ⟨k,a4,z4⟩ ⟨hk,ha4⟩
        dsimp only at hk ha4 ⊢
        repeat (first|(refine qz0 ?_;(refine m_mov (by conv => lhs; whnf) ?_))|refine qz1 ?_|refine qz3 ?_)
        have hkM : k ≤ M.length := by omega
        have ht : (M.take k).length = k := by rw [List.length_take]; omega
        refine qz0 ?_
        refine m_cut_sl (l := 0) (h := k) rfl rfl ⟨_,rfl⟩ (Nat.zero_le _) hkM ?_
        refine qz0 ?_
        refine qwh (qvb (M.take k) (by omega)) (qz2 (lend_cutS rfl hkM) qz4) (qx0 _) ?_
        repeat (first|(refine qz0 ?_;(first|(refine m_mov (by conv => lhs; whnf) ?_)|(refine qu8 rfl rfl ?_)|(refine qu9 rfl (by decide) (by rfl) (by first|rfl|omega|(simp; done)) rfl rfl ?_ (by decide) ?_;(· first|omega|(simp; omega)))))|refine qz1 ?_|refine qy5 ?_)
        refine qz0 ?_
        refine m_cut_sl (l := k) (h := M.length) rfl ⟨_,rfl⟩ rfl hkM (Nat.le_refl _) ?_
        refine qz0 ?_
        refine m_app (fl := true) (cs := (M.take k ++ [(M.length : Int)]).map AV.i) (m := M.length - k) rfl (by decide) rfl (by simp) (Elems.sl 5 (0 + k * 1) (M.length - k) true (M.map AV.i) rfl (by simp; omega)) (elems_ok M _ _) (show _ ≤ maxLen by unfold maxLen; simp; omega) (by simp; omega) ?_
        repeat (first|(refine qz0 ?_;(first|(refine m_mov (by conv => lhs; whnf) ?_)|(refine m_add rfl rfl ?_ ?_ ?_;(· omega);(· omega))))|refine qz1 ?_|refine qy5 ?_|refine qz7 ?_|refine qze ?_)
        refine qzb (M.take k ++ [(M.length : Int)] ++ M.drop k,a4,z4) ⟨by simp; omega,by simp; omega⟩ (Weak.trans (qwf (r := 43) (q := 5) rfl (by decide) (by decide)) (qz9 ?_ ?_ rfl rfl)) (by simp; omega)
        · have e1 : (M.take k ++ [(M.length : Int)] ++ M.drop k).length = M.length + 1 := by simp; omega
          have e2 : (M.take k ++ [(M.length : Int)]).length + (M.length - k) = M.length + 1 := by simp; omega
          rw [e1]
          refine ⟨rfl,rfl,?_,rfl,trivial⟩
          show AV.sl 5 1 0 ((M.take k ++ [(M.length : Int)]).length + (M.length - k)) = AV.sl 5 1 0 (M.length + 1)
          rw [e2]
        · refine ⟨rfl,?_,trivial⟩
          show some (true,(M.take k ++ [(M.length : Int)]).map AV.i ++ ((M.map AV.i).drop (0 + k * 1)).take ((M.length - k) * 1)) = some (true,(M.take k ++ [(M.length : Int)] ++ M.drop k).map AV.i)
          have e3 : ((M.map AV.i).drop k).take (M.length - k) = (M.drop k).map AV.i := by rw [← List.map_drop]; exact List.take_of_length_le (by rw [List.length_map,List.length_drop]; omega)
          rw [Nat.zero_add,Nat.mul_one,Nat.mul_one,e3,← List.map_append]
      · repeat (first|(refine qz0 ?_;(refine m_mov (by conv => lhs; whnf) ?_))|refine qz3 ?_|refine qz6 ?_)
        (refine qz0 ?_);(apply qza (hbs));(· repeat (first|exact qz4|(refine qz2 ?_ ?_;(· exact qzd))))
        repeat (first|(refine qz0 ?_;(first|(refine m_mov (by conv => lhs; whnf) ?_)|(refine m_lss rfl rfl ?_)))|refine qz1 ?_|refine qz3 ?_|(refine qzi rfl ?_ ?_;(· (refine decide_eq_false ?_; omega)))|refine qzj ?_|refine qz7 ?_|refine qy1 ?_|refine qy0 ?_|refine qy9 ?_|refine qzg ?_)
        exact doneSL (B := B) (M := M) ⟨hB,show M.length ≤ 13 by omega,show a3 ≤ a + 500 by omega⟩ rfl rfl rfl rfl (by decide)
  · rw [decide_eq_false h] at hg
    repeat (first|(refine qz0 ?_;(refine m_mov (by conv => lhs; whnf) ?_))|refine qz1 ?_|refine qz3 ?_|refine qz6 ?_)
    (refine qz0 ?_);(apply qza (hg));(· repeat (first|exact qz4|(refine qz2 ?_ ?_;(· exact qzd))))
    repeat (first|((first|(refine qz0 ?_;(first|(first|(refine m_mov (by conv => lhs; whnf) ?_)|(refine m_not rfl ?_)|(refine qye rfl ?_ (by conv => lhs; whnf) ?_;(· rfl)))|(refine g_noF rfl ?_ ?_;(· rfl))))|refine qz1 ?_|refine qz3 ?_|(refine qzf rfl ?_ ?_;(· rfl))))|(refine qz0 ?_; refine g_unc rfl ?_))
    refine qz0 ?_
    refine m_curL (q := 1000) (curExch_spec hv hL a1 (by omega) z1) rfl rfl (by decide) (qya (lend_curN rfl) qx4) ⟨([],a1,z1),by simp,show a1 ≤ a1 + 100 by omega⟩ ?_
    rintro ⟨M,a3,z3⟩ ⟨hM,ha3⟩
    dsimp only at hM ha3 ⊢
    repeat (first|(refine qz0 ?_;(refine m_mov (by conv => lhs; whnf) ?_))|refine qz1 ?_|refine qzj ?_|refine qy8 ?_)
    exact doneSL (B := B) (M := M) ⟨hB,hM,show a3 ≤ a + 500 by omega⟩ rfl rfl rfl rfl (by decide)
theorem drawIA_spec {v : Value} {L : List UInt8} (hv : Bys v L) (hL : L.length ≤ 1048576) :
    SpX Tryz.prog 37 [.v v] (Am.look []) (ι := List UInt8 × List Int) (fun i => i.1.length ≤ 200 ∧ i.2.length ≤ 13) (fun i => .tup [str i.1,.sl nbase 1 0 i.2.length]) (fun i => Am.look [(nbase,(true,i.2.map AV.i))]) := by
  have hpb : ∀ r,(Am.look ([] : List (Nat × (Bool × List AV))) r).isSome = true → pbase ≤ r := fun r hr => by simp [Am.look] at hr
  have hsta : ∀ i : List UInt8 × List Int,i.1.length ≤ 200 ∧ i.2.length ≤ 13 → Static (Am.look []) (.tup [str i.1,.sl nbase 1 0 i.2.length]) (Am.look [(nbase,(true,i.2.map AV.i))]) := fun i _ =>
    quc (by simp) (fun p hp => by rw [List.mem_singleton] at hp; subst hp; exact ⟨ints_ownC _ _,ints_refsC _ _⟩) ⟨rfl,rfl⟩
  refine qv5 Tryz.func37 rfl cc37 rfl hpb hsta ?_
  unfold ac37
  clear hpb hsta
  have hv1 := bys_cell hv
  have hc := boarded_spec hv hL 0 (by omega) 0
  repeat (first|(refine qz0 ?_;(first|(refine m_mov (by conv => lhs; whnf) ?_)|(refine qx2 ?_)))|refine qz1 ?_|refine qz3 ?_)
  refine qz0 ?_
  refine m_bldC hv1 rfl ?_
  refine qz0 ?_
  refine m_boxC hv1 rfl ?_
  repeat (first|(refine qz0 ?_;(refine m_mov (by conv => lhs; whnf) ?_))|refine qz1 ?_|refine qz3 ?_)
  refine qz0 ?_
  refine m_callRX (fun p => if p = nbase then 1000 else 7) hc rfl rfl rfl ⟨([],[],0,0),by simp,by simp,show 0 ≤ 0 + 500 by omega⟩ ⟨rfl,trivial⟩ (fun p hp => by rw [List.mem_singleton] at hp; subst hp; exact ⟨rfl,rfl⟩) ?_
  rintro ⟨B,M,a3,z3⟩ ⟨hB,hM,ha3⟩
  dsimp only at hB hM ha3 ⊢
  refine ⟨⟨show [7,1000].Nodup by decide,by simp,?_,?_,rfl⟩,?_⟩
  · intro p hp
    rcases List.mem_cons.1 hp with rfl|hp
    · exact .inl (by simp)
    · rw [List.mem_singleton] at hp; subst hp
      exact .inr ⟨rfl,show 1000 < pbase by decide⟩
  · intro p hp
    rcases List.mem_cons.1 hp with rfl|hp
    · rfl
    · rw [List.mem_singleton] at hp; subst hp
      exact ints_ownC _ _
  repeat (first|(refine qz0 ?_;(first|(refine m_mov (by conv => lhs; whnf) ?_)|(refine m_ext rfl rfl ?_)))|refine qz1 ?_|refine qzj ?_)
  refine ret_RX (B,M) ⟨hB,hM⟩ (ret_R (hl := []) (ho := [(nbase,(true,M.map AV.i))]) (fun p => 1000) rfl ⟨⟨_,rfl,.inl ?_⟩,trivial⟩ (by simp) (by intro p hp; exact .inr (by decide)) (by simp))
  rw [renR,renR,qwg,qwg]
theorem drawNA_spec {v : Value} {L : List UInt8} (hv : Bys v L) (hL : L.length ≤ 1048576) :
    SpX Tryz.prog 5 [.v v] (Am.look []) (ι := List UInt8 × List Int) (fun i => i.1.length ≤ 200 ∧ i.2.length ≤ 13) (fun i => .tup [str i.1,.sl nbase 1 0 i.2.length]) (fun i => Am.look [(nbase,(true,i.2.map AV.i))]) := by
  have hpb : ∀ r,(Am.look ([] : List (Nat × (Bool × List AV))) r).isSome = true → pbase ≤ r := fun r hr => by simp [Am.look] at hr
  have hsta : ∀ i : List UInt8 × List Int,i.1.length ≤ 200 ∧ i.2.length ≤ 13 → Static (Am.look []) (.tup [str i.1,.sl nbase 1 0 i.2.length]) (Am.look [(nbase,(true,i.2.map AV.i))]) := fun i _ =>
    quc (by simp) (fun p hp => by rw [List.mem_singleton] at hp; subst hp; exact ⟨ints_ownC _ _,ints_refsC _ _⟩) ⟨rfl,rfl⟩
  refine qv5 Tryz.func5 rfl cc5 rfl hpb hsta ?_
  unfold ac5
  clear hpb hsta
  repeat (first|(refine qz0 ?_;(first|(refine m_mov (by conv => lhs; whnf) ?_)|(refine qx2 ?_)))|refine qz1 ?_|refine qz3 ?_)
  refine qz0 ?_
  refine m_drawSL (q := 1000) (drawIA_spec hv hL) rfl ⟨([],[]),by simp⟩ rfl (by decide) ?_
  rintro ⟨B,M⟩ ⟨hB,hM⟩
  dsimp only at hB hM ⊢
  repeat (first|(refine qz0 ?_;(first|(refine m_mov (by conv => lhs; whnf) ?_)|(refine m_ext rfl rfl ?_)))|refine qz1 ?_|refine qzj ?_)
  exact ret_RX (B,M) ⟨hB,hM⟩ (ret_R (hl := []) (ho := [(nbase,(true,M.map AV.i))]) (fun p => 1000) rfl ⟨⟨_,rfl,.inl (congrArg (Prod.mk true) (qwg _ _).symm)⟩,trivial⟩ (by simp) (by intro p hp; exact .inr (by decide)) (by simp))
theorem drawIB_spec {v : Value} {L : List UInt8} (hv : Bys v L) (hL : L.length ≤ 1048576) :
    SpX Tryz.prog 49 [.v v] (Am.look []) (ι := List UInt8) (fun i => i.length ≤ 200) (fun i => .v (.string ⟨i.toArray⟩)) (fun _ => Am.look []) := by
  have hpb : ∀ r,(Am.look ([] : List (Nat × (Bool × List AV))) r).isSome = true → pbase ≤ r := fun r hr => by simp [Am.look] at hr
  have hsta : ∀ i : List UInt8,i.length ≤ 200 → Static (Am.look []) (.v (.string ⟨i.toArray⟩)) (Am.look []) := fun i _ => quc (by simp) (by simp) ⟨rfl,rfl⟩
  refine qv5 Tryz.func49 rfl cc49 rfl hpb hsta ?_
  unfold ac49
  clear hpb hsta
  have hv1 := bys_cell hv
  have hc := curBoard_spec hv hL 0 (by omega) 0
  repeat (first|(refine qz0 ?_;(refine m_mov (by conv => lhs; whnf) ?_))|refine qz1 ?_|refine qz3 ?_)
  refine qz0 ?_
  refine m_bldC hv1 rfl ?_
  refine qz0 ?_
  refine m_boxC hv1 rfl ?_
  repeat (first|(refine qz0 ?_;(refine m_mov (by conv => lhs; whnf) ?_))|refine qz1 ?_|refine qz3 ?_)
  refine qz0 ?_
  refine m_cur (r := 6) hc rfl (qya (qxi rfl) qx4) ⟨([],0,0),by simp,show 0 ≤ 0 + 300 by omega⟩ ?_
  rintro ⟨B,a3,z3⟩ ⟨hB,ha3⟩
  dsimp only at hB ha3 ⊢
  repeat (first|(refine qz0 ?_;(refine m_mov (by conv => lhs; whnf) ?_))|refine qz1 ?_|refine qzj ?_)
  exact ret_RX B hB (ret_R (hl := []) (ho := []) id rfl trivial (by simp) (by simp) (by simp))
theorem drawHN_spec {v : Value} {L : List UInt8} (hv : Bys v L) (hL : L.length ≤ 1048576) :
    SpX Tryz.prog 20 [.v v] (Am.look []) (ι := List UInt8) (fun i => i.length ≤ 200) (fun i => .v (.string ⟨i.toArray⟩)) (fun _ => Am.look []) := by
  have hpb : ∀ r,(Am.look ([] : List (Nat × (Bool × List AV))) r).isSome = true → pbase ≤ r := fun r hr => by simp [Am.look] at hr
  have hsta : ∀ i : List UInt8,i.length ≤ 200 → Static (Am.look []) (.v (.string ⟨i.toArray⟩)) (Am.look []) := fun i _ => quc (by simp) (by simp) ⟨rfl,rfl⟩
  refine qv5 Tryz.func20 rfl cc20 rfl hpb hsta ?_
  unfold ac20
  clear hpb hsta
  repeat (first|(refine qz0 ?_;(refine m_mov (by conv => lhs; whnf) ?_))|refine qz1 ?_|refine qz3 ?_)
  refine qz0 ?_
  refine m_draw (drawIB_spec hv hL) rfl ⟨[],by simp⟩ (fun m => ⟨rfl,rfl⟩) ?_
  intro B hB
  repeat (first|(refine qz0 ?_;(refine m_mov (by conv => lhs; whnf) ?_))|refine qz1 ?_|refine qzj ?_)
  exact ret_RX B hB (ret_R (hl := []) (ho := []) id rfl trivial (by simp) (by simp) (by simp))
end Go.Proofs.YtngfogpbljconaaGreatDoor
namespace Go.Proofs.YtngfogpbljconaaGreatDoor
variable [Go.Am.CodeBlk]
open Go.Am
attribute [local irreducible] AW Outs Weak Lends Lend Sp aops atree aop1 Then Round InBlock Done
attribute [local irreducible] SpM DoneM SpH DoneH
def bcD : ACode := sndN 29 ac3
def bcC : ACode := sndN 28 ac3
def bcW : ACode := sndN 2 bcI
def bcV (C : List UInt8) : List (Nat × AV) := [(36,str C),(37,newInts (hitB C)),(38,.b (decide (GoodBd C))),(41,newInts (rksB C)),(45,.i (if GoodBd C then ((mostN (rkN (fbB C) (sdB C)) (sdB C) : Nat) : Int) else 0)),(49,ints (flRow C)),(50,ints (flCol C)),(55,roF (fobR C))]
theorem bc3 {C : List UInt8} (hC : C.length ≤ 1048576) : AW Tryz.prog (min Tryz.f3.ntmps pbase) bcD (st (bcV C) []) (Done [4].reverse (.b true)) := by
  unfold bcV
  by_cases h : GoodBd C
  · have h4 := bc4 h
    have hsd := qx5 h
    have hs := implSideOf_spec C hC
    unfold sideR at hs
    rw [if_pos h,decide_eq_true h] at hs
    have e1 : hitB C = hitL C := if_pos h
    have e2 : rksB C = rgL (sdB C) (rkN (fbB C) (sdB C)) := if_pos h
    have e3 : flRow C = memL (flS C) (sdB C) := if_pos h
    have e4 : flCol C = memL (colsM (fbB C) (sdB C) (flS C)) (sdB C) := if_pos h
    have e5 : fobR C = plM C := if_pos h
    rw [e1,e2,e3,e4,e5,if_pos h,decide_eq_true h]
    have hlen : (hitL C).length = sdB C + 1 := hitL_len C
    have hat : ∀ k,k < sdB C + 1 → (hitL C).getD k 0 = (hitX (fbB C) (sdB C) k : Nat) := fun k hk => by rw [hitL_is h]; simp [hk]
    have hle := fun k (hk : k ≤ sdB C) => hit_le (fbB C) (k := k) hsd.2 hk
    have hwp := fun k (hk : k ≤ sdB C + 1) => hit_wpart (fbB C) hsd.2 k hk
    have hws : ∀ k,sumN (k + 1) (fun k => k * hitX (fbB C) (sdB C) k) = sumN k (fun k => k * hitX (fbB C) (sdB C) k) + k * hitX (fbB C) (sdB C) k := fun _ => rfl
    have hp : bcD = .seq (.seq (fstC (fstC bcD)) (.cond (.t 445) (.seq (fstC bcI) (.seq (fstC (sndN 1 bcI)) (.seq (fstC bcW) bcN))) .skip)) bcE := rfl
    rw [hp]
    clear hp
    generalize bcN = cN at *
    generalize bcE = cE at *
    generalize rgL (sdB C) (rkN (fbB C) (sdB C)) = RK at *
    generalize mostN (rkN (fbB C) (sdB C)) (sdB C) = M at *
    generalize memL (flS C) (sdB C) = R at *
    generalize memL (colsM (fbB C) (sdB C) (flS C)) (sdB C) = K at *
    generalize hitL C = H at *
    generalize plM C = G at *
    generalize hitX (fbB C) (sdB C) = hx at *
    generalize sdB C = n at *
    unfold bcW bcI bcD
    unfold ac3
    simp only [sndN,sndC,fstC,thnC]
    repeat (first|(refine qz0 ?_;(refine m_mov (by conv => lhs; whnf) ?_))|refine qz1 ?_|refine qz3 ?_|(refine qzf rfl ?_ ?_;(· rfl))|refine qz6 ?_)
    refine qz0 ?_;(apply qza (hs));(· repeat (first|exact qz4|(refine qz2 ?_ ?_;(· exact qzd))))
    repeat (first|(refine qz0 ?_;(first|(refine m_mov (by conv => lhs; whnf) ?_)|(refine qy4 rfl ?_)|(refine m_ext rfl rfl ?_)))|refine qz1 ?_|refine qz3 ?_|refine qz6 ?_|refine qz8 ?_)
    refine qyf (α := Nat) (fun k => k ≤ n + 1) (fun k => st [(37,newInts H),(41,newInts RK),(45,.i (M : Nat)),(49,ints R),(50,ints K),(55,roF G),(59,.i (n : Nat)),(60,.b true),(61,.i (sumN k (fun k => k * hx k) : Nat)),(451,newInts H),(452,.i H.length),(453,.i (k : Nat))] []) (fun k => n + 1 - k) 0 (Nat.zero_le _) (qz9 ?_ ?_ rfl rfl) ?_
    · (repeat' first|exact trivial|refine And.intro ?_ ?_)<;>first|rfl|skip
    · trivial
    intro k hk
    by_cases hc : k < n + 1
    · have w1 := hwp k hk
      have w2 := hwp (k + 1) hc
      have w3 := hws k
      have w4 := hat k hc
      have w5 := hle k (by omega)
      rw [w3] at w2
      have w6 : ((k * hx k : Nat) : Int) = (k : Int) * (hx k : Nat) := Int.natCast_mul _ _
      have w7 : 0 ≤ (k : Int) * (hx k : Nat) := by omega
      have w8 : (k : Int) * (hx k : Nat) ≤ 9 * 322560 := by omega
      rw [← w4] at w6 w7 w8
      repeat (first|(refine qz0 ?_;(first|(refine m_mov (by conv => lhs; whnf) ?_)|(refine m_lss rfl rfl ?_)|(refine m_add rfl rfl ?_ ?_ ?_;(· omega);(· omega))|(refine m_mul rfl rfl ?_ ?_ ?_;(· first|omega|(simp; done));(· first|omega|(simp; done)))|(refine qy6 rfl rfl ?_ ?_;(· omega))|(refine qyg rfl ?_ ?_;(· omega))))|refine qz1 ?_|refine qz3 ?_|refine qy5 ?_|(refine qzf rfl ?_ ?_;(· (refine decide_eq_true ?_; omega)))|refine qz5 ?_|refine qz6 ?_|refine qz7 ?_|refine qz8 ?_|refine qze ?_)
      refine qzb (k + 1) (by omega) (qz9 ?_ ?_ rfl rfl) (by omega)
      · rw [w3,Int.natCast_add,w6]
        (repeat' first|exact trivial|refine And.intro ?_ ?_)<;>first|rfl|skip
      · trivial
    · obtain rfl : k = n + 1 := by omega
      repeat (first|(refine qz0 ?_;(refine m_lss rfl rfl ?_))|refine qz1 ?_|refine qz3 ?_|(refine qzi rfl ?_ ?_;(· (refine decide_eq_false ?_; omega)))|refine qz6 ?_|refine qz7 ?_|refine qy1 ?_|refine qy0 ?_|refine qy9 ?_|refine qzg ?_)
      refine qxe (qz9 ?_ ?_ rfl rfl) h4
      · (repeat' first|exact trivial|refine And.intro ?_ ?_)<;>first|rfl|skip
      · trivial
  · rw [decide_eq_false h]
    have hp : bcD = .seq (.seq (fstC (fstC bcD)) (.cond (.t 445) bcI .skip)) bcE := rfl
    rw [hp]
    clear hp
    generalize bcI = cI at *
    unfold bcD bcE
    unfold ac3
    simp only [sndN,sndC,fstC]
    repeat (first|(refine qz0 ?_;(refine m_mov (by conv => lhs; whnf) ?_))|refine qz1 ?_|refine qz3 ?_|(refine qzi rfl ?_ ?_;(· rfl))|refine qz5 ?_|refine qz6 ?_|refine qzj ?_|refine qzc ?_)
    exact qyb rfl
theorem bc2 {C : List UInt8} (hC : C.length ≤ 1048576) : AW Tryz.prog (min Tryz.f3.ntmps pbase) bcC (st [(36,str C),(37,newInts (hitB C)),(38,.b (decide (GoodBd C))),(39,newInts (hitB C)),(40,.b (decide (GoodBd C))),(41,newInts (rksB C)),(42,.b (decide (GoodBd C))),(43,newInts (rksB C)),(44,.b (decide (GoodBd C))),(45,.i (if GoodBd C then ((mostN (rkN (fbB C) (sdB C)) (sdB C) : Nat) : Int) else 0)),(46,.b (decide (GoodBd C))),(47,.i (if GoodBd C then ((mostN (rkN (fbB C) (sdB C)) (sdB C) : Nat) : Int) else 0)),(48,.b (decide (GoodBd C))),(49,ints (flRow C)),(50,ints (flCol C)),(51,.b (decide (GoodBd C))),(52,newInts (flRow C)),(53,newInts (flCol C)),(54,.b (decide (GoodBd C))),(55,roF (fobR C)),(56,.b (decide (GoodBd C))),(57,roF (fobR C)),(58,.b (decide (GoodBd C)))] []) (Done [4].reverse (.b true)) := by
  have h3 := bc3 hC
  unfold bcV at h3
  have hp : bcC = .seq (fstC bcC) bcD := rfl
  rw [hp]
  clear hp
  generalize bcD = cD at *
  have s1 := oSame_self (hitB C) (hitB_len C)
  have s2 := oSame_self (rksB C) (rksB_len C)
  have s3 := oSame_self (flRow C) (flRow_len C)
  have s4 := oSame_self (flCol C) (flCol_len C)
  have hfo : (fobR C).length ≤ 1048576 ∧ ∀ r ∈ fobR C,r.length ≤ 1048576 := by
    unfold fobR
    by_cases h : GoodBd C
    · rw [if_pos h]
      have hsd := qx5 h
      have hpc : (plM C).length ≤ 1000 := by
        unfold plM posM rowsP
        rw [List.length_map,List.length_append]
        have h1 := posP_len (fbB C) (sdB C) (sdB C)
        have h2 := rowP_len (fbB C) (sdB C) 0
        have h3 : sdB C * sdB C ≤ 8 * 8 := Nat.mul_le_mul hsd.2 hsd.2
        omega
      refine ⟨by omega,fun r hr => ?_⟩
      obtain ⟨k,hk,rfl⟩ := List.mem_iff_getElem.1 hr
      obtain ⟨i,j,hg,_⟩ := plM_at hk
      have : (plM C).getD k [] = (plM C)[k] := by simp [hk]
      rw [← this,hg]
      simp
    · rw [if_neg h]
      simp
  have s5 := oRows_self (fobR C) hfo.1 hfo.2
  have s6 := implIsBoard_spec C hC
  generalize hitB C = H at *
  generalize rksB C = RK at *
  generalize flRow C = R at *
  generalize flCol C = K at *
  generalize fobR C = G at *
  generalize (if GoodBd C then ((mostN (rkN (fbB C) (sdB C)) (sdB C) : Nat) : Int) else 0) = M at *
  have n1 : decide (M ≠ M) = false := by simp
  generalize decide (GoodBd C) = ok at *
  have x1 := xor_self ok
  unfold bcC
  unfold ac3
  simp only [sndN,sndC,fstC]
  repeat (first|(refine qz0 ?_;((try (refine g_yes rfl ?_ ?_;(· assumption)));(first|(refine m_mov (by conv => lhs; whnf) ?_)|(refine m_beq rfl rfl ?_))))|refine qz3 ?_|refine qz6 ?_)
  refine qz0 ?_;(refine g_yes rfl ?_ ?_;(· first|(assumption)|(fail));(apply qza (s1)));(· repeat (first|exact qz4|(refine qz2 ?_ ?_;(· (refine qy2 ?_; first|rfl|omega)))))
  repeat (refine qz0 ?_;((try (refine g_yes rfl ?_ ?_;(· first|rfl|assumption)));(first|(refine m_mov (by conv => lhs; whnf) ?_)|(refine m_not rfl ?_)|(refine m_beq rfl rfl ?_)|(refine qy3 rfl ?_ (by conv => lhs; whnf) ?_;(· first|rfl|assumption)))))
  refine qz0 ?_;(refine g_yes rfl ?_ ?_;(· first|(assumption)|(fail));(apply qza (s2)));(· repeat (first|exact qz4|(refine qz2 ?_ ?_;(· (refine qy2 ?_; first|rfl|omega)))))
  repeat (refine qz0 ?_;((try (refine g_yes rfl ?_ ?_;(· first|rfl|assumption)));(first|(refine m_mov (by conv => lhs; whnf) ?_)|(refine m_neq rfl rfl ?_)|(refine m_not rfl ?_)|(refine m_beq rfl rfl ?_)|(refine qy3 rfl ?_ (by conv => lhs; whnf) ?_;(· first|rfl|assumption)))))
  refine qz0 ?_;(refine g_yes rfl ?_ ?_;(· first|(assumption)|(fail));(apply qza (s3)));(· repeat (first|exact qz4|(refine qz2 ?_ ?_;(· (refine qy2 ?_; first|rfl|omega)))))
  repeat (refine qz0 ?_;((try (refine g_yes rfl ?_ ?_;(· first|rfl|assumption)));(first|(refine m_mov (by conv => lhs; whnf) ?_)|(refine m_not rfl ?_)|(refine qy3 rfl ?_ (by conv => lhs; whnf) ?_;(· assumption)))))
  refine qz0 ?_;(refine g_yes rfl ?_ ?_;(· first|(rfl)|(fail));(apply qza (s4)));(· repeat (first|exact qz4|(refine qz2 ?_ ?_;(· (refine qy2 ?_; first|rfl|omega)))))
  repeat (refine qz0 ?_;((try (refine g_yes rfl ?_ ?_;(· first|rfl|assumption)));(first|(refine m_mov (by conv => lhs; whnf) ?_)|(refine m_not rfl ?_)|(refine m_beq rfl rfl ?_)|(refine qy3 rfl ?_ (by conv => lhs; whnf) ?_;(· rfl)))))
  refine qz0 ?_;(refine g_yes rfl ?_ ?_;(· first|(assumption)|(fail));(apply qza (s5)));(· repeat (first|exact qz4|(refine qz2 ?_ ?_;(· (refine lend_roM rfl; done)))))
  repeat (refine qz0 ?_;((try (refine g_yes rfl ?_ ?_;(· first|rfl|assumption)));(first|(refine m_mov (by conv => lhs; whnf) ?_)|(refine m_not rfl ?_)|(refine qy3 rfl ?_ (by conv => lhs; whnf) ?_;(· assumption)))))
  refine qz0 ?_;(refine g_yes rfl ?_ ?_;(· first|(rfl)|(fail));(apply qza (s6)));(· repeat (first|exact qz4|(refine qz2 ?_ ?_;(· exact qzd))))
  repeat (first|(refine qz0 ?_;((try (refine g_yes rfl ?_ ?_;(· first|rfl|assumption)));(first|(refine m_mov (by conv => lhs; whnf) ?_)|(refine m_beq rfl rfl ?_)|(refine qy3 rfl ?_ (by conv => lhs; whnf) ?_;(· first|rfl|assumption)))))|refine qz1 ?_|(refine qzi rfl ?_ ?_;(· assumption))|refine qz5 ?_)
  refine qxe (qz9 ?_ ?_ rfl rfl) h3
  · (repeat' first|exact trivial|refine And.intro ?_ ?_)<;>first|rfl|skip
  · trivial
def bcA : ACode := sndN 18 ac3
def bcF : ACode := sndN 25 ac3
theorem call_two {s : AS} {K : AS → Prop} {d : Option Nat} {f : FuncId} {args : List Opd} {av : List AV} {a b : List Int} {n m x y : Nat} {q : Bool} (hs : SpH Tryz.prog f av (Am.look []) (.tup [.sl nbase 1 0 n,.sl (nbase + 1) 1 0 m,.b q]) (Am.look (twoH a b)))
    (ha : args.map s.ev = renL (twoG x y) av) (hha : ownL true av = true) (hra : refsL (fun r => (Am.look ([] : List (Nat × (Bool × List AV))) r).isSome) av = true) (hx : s.hp x = none) (hy : s.hp y = none) (hne : x ≠ y) (hxp : x < pbase) (hyp : y < pbase)
    (k : K (AS.put ⟨s.tm,outR s (twoG x y) (twoH a b)⟩ d (.tup [.sl x 1 0 n,.sl y 1 0 m,.b q]))) : aop1 Tryz.prog true ⟨d,.call f args,none⟩ s K := by
  refine m_callR (hl := []) (twoG x y) hs ha hha hra trivial ?_ (by simp) ?_ (by simp) ?_ rfl k
  · show [x,y].Nodup
    simp [hne]
  · intro p hp
    refine .inr ?_
    rcases List.mem_cons.1 hp with rfl|hp
    · exact ⟨hx,hxp⟩
    · rw [List.mem_singleton] at hp; subst hp; exact ⟨hy,hyp⟩
  · intro p hp
    rcases List.mem_cons.1 hp with rfl|hp
    · exact fl_own _ _
    · rw [List.mem_singleton] at hp; subst hp; exact fl_own _ _
theorem bc1b {C : List UInt8} (hC : C.length ≤ 1048576) : AW Tryz.prog (min Tryz.f3.ntmps pbase) bcF (st [(36,str C),(37,newInts (hitB C)),(38,.b (decide (GoodBd C))),(39,newInts (hitB C)),(40,.b (decide (GoodBd C))),(41,newInts (rksB C)),(42,.b (decide (GoodBd C))),(43,newInts (rksB C)),(44,.b (decide (GoodBd C))),(45,.i (if GoodBd C then ((mostN (rkN (fbB C) (sdB C)) (sdB C) : Nat) : Int) else 0)),(46,.b (decide (GoodBd C))),(47,.i (if GoodBd C then ((mostN (rkN (fbB C) (sdB C)) (sdB C) : Nat) : Int) else 0)),(48,.b (decide (GoodBd C))),(49,ints (flRow C)),(50,ints (flCol C)),(51,.b (decide (GoodBd C)))] []) (Done [4].reverse (.b true)) := by
  have h2 := bc2 hC
  have hp : bcF = .seq (fstC bcF) (.seq (fstC (sndN 1 bcF)) (.seq (fstC (sndN 2 bcF)) bcC)) := rfl
  rw [hp]
  clear hp
  generalize bcC = cC at *
  have s1 := specFewestLines_spec C hC
  have s2 := sp_mat2 (implForbiddenOf_spec C hC)
  have s3 := sp_mat2 (specForbiddenOf_spec C hC)
  generalize hitB C = H at *
  generalize rksB C = RK at *
  generalize flRow C = R at *
  generalize flCol C = K at *
  generalize fobR C = G at *
  generalize (if GoodBd C then ((mostN (rkN (fbB C) (sdB C)) (sdB C) : Nat) : Int) else 0) = M at *
  generalize decide (GoodBd C) = ok at *
  unfold bcF
  unfold ac3
  simp only [sndN,sndC,fstC]
  repeat (first|(refine qz0 ?_;(refine m_mov (by conv => lhs; whnf) ?_))|refine qz3 ?_)
  refine qz0 ?_;(apply qza (s1));(· repeat (first|exact qz4|(refine qz2 ?_ ?_;(· exact qzd))))
  repeat (first|(refine qz0 ?_;(first|(refine m_mov (by conv => lhs; whnf) ?_)|(refine m_ext rfl rfl ?_)))|refine qz1 ?_|refine qz3 ?_)
  refine qz0 ?_;(apply qza (s2));(· repeat (first|exact qz4|(refine qz2 ?_ ?_;(· exact qzd))))
  repeat (first|(refine qz0 ?_;(first|(refine m_mov (by conv => lhs; whnf) ?_)|(refine m_ext rfl rfl ?_)))|refine qz1 ?_|refine qz3 ?_)
  refine qz0 ?_;(apply qza (s3));(· repeat (first|exact qz4|(refine qz2 ?_ ?_;(· exact qzd))))
  repeat (first|(refine qz0 ?_;(first|(refine m_mov (by conv => lhs; whnf) ?_)|(refine m_ext rfl rfl ?_)))|refine qz1 ?_)
  refine qxe (qz9 ?_ ?_ rfl rfl) h2
  · (repeat' first|exact trivial|refine And.intro ?_ ?_)<;>first|rfl|skip
  · trivial
theorem bc1 {C : List UInt8} (hC : C.length ≤ 1048576) : AW Tryz.prog (min Tryz.f3.ntmps pbase) bcA (st [(36,str C)] []) (Done [4].reverse (.b true)) := by
  have h2 := bc1b hC
  have hp : bcA = .seq (fstC bcA) (.seq (fstC (sndN 1 bcA)) (.seq (fstC (sndN 2 bcA)) (.seq (fstC (sndN 3 bcA)) (.seq (fstC (sndN 4 bcA)) (.seq (fstC (sndN 5 bcA)) (.seq (fstC (sndN 6 bcA)) bcF)))))) := rfl
  rw [hp]
  clear hp
  generalize bcF = cF at *
  have s1 := implHitNumbers_spec C hC
  have s2 := specHitNumbers_spec C hC
  have s3 := implRookNumbers_spec C hC
  have s4 := specRookNumbers_spec C hC
  have s5 := implMostRooks_spec C hC
  have s6 := specMostRooks_spec C hC
  have s7 := implFewestLines_spec C hC
  unfold hitR at s1 s2
  unfold rksR at s3 s4
  unfold mostR at s5 s6
  unfold flR at s7
  generalize hitB C = H at *
  generalize rksB C = RK at *
  generalize flRow C = R at *
  generalize flCol C = K at *
  generalize (if GoodBd C then ((mostN (rkN (fbB C) (sdB C)) (sdB C) : Nat) : Int) else 0) = M at *
  generalize decide (GoodBd C) = ok at *
  unfold bcA
  unfold ac3
  simp only [sndN,sndC,fstC]
  repeat (first|(refine qz0 ?_;(refine m_mov (by conv => lhs; whnf) ?_))|refine qz3 ?_)
  refine qz0 ?_;(apply qza (s1));(· repeat (first|exact qz4|(refine qz2 ?_ ?_;(· exact qzd))))
  repeat (first|(refine qz0 ?_;(first|(refine m_mov (by conv => lhs; whnf) ?_)|(refine m_ext rfl rfl ?_)))|refine qz1 ?_|refine qz3 ?_)
  refine qz0 ?_;(apply qza (s2));(· repeat (first|exact qz4|(refine qz2 ?_ ?_;(· exact qzd))))
  repeat (first|(refine qz0 ?_;(first|(refine m_mov (by conv => lhs; whnf) ?_)|(refine m_ext rfl rfl ?_)))|refine qz1 ?_|refine qz3 ?_)
  refine qz0 ?_;(apply qza (s3));(· repeat (first|exact qz4|(refine qz2 ?_ ?_;(· exact qzd))))
  repeat (first|(refine qz0 ?_;(first|(refine m_mov (by conv => lhs; whnf) ?_)|(refine m_ext rfl rfl ?_)))|refine qz1 ?_|refine qz3 ?_)
  refine qz0 ?_;(apply qza (s4));(· repeat (first|exact qz4|(refine qz2 ?_ ?_;(· exact qzd))))
  repeat (first|(refine qz0 ?_;(first|(refine m_mov (by conv => lhs; whnf) ?_)|(refine m_ext rfl rfl ?_)))|refine qz1 ?_|refine qz3 ?_)
  refine qz0 ?_;(apply qza (s5));(· repeat (first|exact qz4|(refine qz2 ?_ ?_;(· exact qzd))))
  repeat (first|(refine qz0 ?_;(first|(refine m_mov (by conv => lhs; whnf) ?_)|(refine m_ext rfl rfl ?_)))|refine qz1 ?_|refine qz3 ?_)
  refine qz0 ?_;(apply qza (s6));(· repeat (first|exact qz4|(refine qz2 ?_ ?_;(· exact qzd))))
  repeat (first|(refine qz0 ?_;(first|(refine m_mov (by conv => lhs; whnf) ?_)|(refine m_ext rfl rfl ?_)))|refine qz1 ?_|refine qz3 ?_)
  refine qz0 ?_
  refine call_two (x := 1000) (y := 1001) s7 rfl rfl rfl rfl rfl (by decide) (by decide) (by decide) ?_
  repeat (first|(refine qz0 ?_;(first|(refine m_mov (by conv => lhs; whnf) ?_)|(refine m_ext rfl rfl ?_)))|refine qz1 ?_)
  refine qxe (weak_frz 49 1000 rfl (congrArg (fun c => some (true,c)) (qwg _ _)) (by simp) (qx0 _)) ?_
  refine qxe (weak_frz 50 1001 rfl (congrArg (fun c => some (true,c)) (qwg _ _)) (by simp) (qx0 _)) ?_
  refine qxe (qz9 ?_ ?_ rfl rfl) h2
  · (repeat' first|exact trivial|refine And.intro ?_ ?_)<;>first|rfl|skip
  · trivial
def bcA0 : ACode := sndN 17 ac3
theorem bc0 {mv : Value} {ML : List UInt8} (hy : Bys mv ML) (hyl : ML.length ≤ 1048576) : AW Tryz.prog (min Tryz.f3.ntmps pbase) bcA0 (st [(1,.v mv)] []) (Done [4].reverse (.b true)) := by
  have key := fun (C : List UInt8) (hC : C.length ≤ 1048576) => bc1 hC
  have hp : bcA0 = .seq (fstC bcA0) bcA := rfl
  rw [hp]
  clear hp
  generalize bcA = c13 at *
  unfold bcA0
  unfold ac3
  simp only [sndN,sndC,fstC]
  repeat (first|(refine qz0 ?_;(refine m_mov (by conv => lhs; whnf) ?_))|refine qz3 ?_)
  refine qz0 ?_
  refine m_draw (drawHN_spec hy hyl) rfl ⟨[],by simp⟩ (fun m => ⟨rfl,rfl⟩) ?_
  intro C hC
  repeat (first|(refine qz0 ?_;(refine m_mov (by conv => lhs; whnf) ?_))|refine qz1 ?_)
  refine qxe (qz9 ?_ ?_ rfl rfl) (key C (by omega))
  · (repeat' first|exact trivial|refine And.intro ?_ ?_)<;>first|rfl|skip
  · trivial
end Go.Proofs.YtngfogpbljconaaGreatDoor
namespace Go.Am
variable [Go.Am.CodeBlk]
theorem bears_aggM {l : List AV} (h : l.all plainM = true) (hu : l.map unf = l) : Bears [.agg l] := by
  intro hp x hx
  rw [List.mem_singleton.1 hx]
  have := qwi (hp := hp) h
  rw [hu] at this
  exact this
end Go.Am
namespace Go.Proofs.YtngfogpbljconaaGreatDoor
variable [Go.Am.CodeBlk]
open Go.Am
attribute [local irreducible] AW Outs Weak Lends Lend Sp aops atree aop1 Then Round InBlock Done
theorem specFirstAllowed_spec (B : List UInt8) (hB : B.length ≤ 1048576) : Sp Tryz.prog 13 [str B] (srchR (frstA B)) := by
  unfold srchR
  refine qy7 Tryz.func13 rfl cc13 rfl ?_
  unfold ac13
  repeat (first|(refine qz0 ?_;(first|(refine m_mov (by conv => lhs; whnf) ?_)|(refine qx2 ?_)))|refine qz1 ?_|refine qz3 ?_|refine qz6 ?_)
  (refine qz0 ?_);(apply qza (qw0 B hB));(· repeat (first|exact qz4|(refine qz2 ?_ ?_;(· exact qzd))))
  by_cases h : GoodBd B
  · have hs := bdFirst_spec B h hB (sdB B) [] [] (by simp) (.inl rfl) (fun x hx => by simp at hx)
    have e : fstB (fitsA B) (sdB B) (sdB B) [] [] = frstA B := by
      unfold fstB frstA
      rw [if_pos rfl,if_pos h]
    rw [e] at hs
    have hlen := fun m => frstA_len (B := B) (m := m)
    generalize frstA B = o at *
    repeat (first|(refine qz0 ?_;(first|(refine m_mov (by conv => lhs; whnf) ?_)|(refine m_not rfl ?_)))|refine qz1 ?_|refine qz3 ?_|(refine qzi rfl ?_ ?_;(· (refine nf ?_; assumption)))|refine qz5 ?_)
    refine qz0 ?_
    refine qza hs ?_ ?_
    · exact qz2 qzd (qz2 lend_nil (qz2 lend_nil qz4))
    repeat (first|(refine qz0 ?_;(first|(refine m_mov (by conv => lhs; whnf) ?_)|(refine m_gtr rfl rfl ?_)|(refine qy4 rfl ?_)))|refine qz1 ?_|refine qz3 ?_|refine qzj ?_|refine qzc ?_)
    refine qyh (que (qx0 _)) (qyb ?_)
    cases o with
    | none => rfl
    | some m => exact decide_eq_true (show (0 : Int) < (m.length : Nat) by have := hlen m rfl; omega)
  · have e : frstA B = none := if_neg h
    rw [e]
    repeat (first|(refine qz0 ?_;(first|(refine m_mov (by conv => lhs; whnf) ?_)|(refine m_not rfl ?_)|(refine qx2 ?_)))|refine qz1 ?_|refine qz3 ?_|(refine qzf rfl ?_ ?_;(· (refine nt ?_; assumption)))|refine qzj ?_|refine qzc ?_|refine qy8 ?_)
    exact qyh (qx3 rfl rfl rfl) (qyb rfl)
theorem specNextAllowed_spec (B : List UInt8) (L : List Int) (hB : B.length ≤ 1048576) (hL : L.length ≤ 1048576) : Sp Tryz.prog 7 [str B,ints L] (srchR (nextA B L)) := by
  unfold srchR
  refine qy7 Tryz.func7 rfl cc7 rfl ?_
  unfold ac7
  repeat (first|(refine qz0 ?_;(first|(refine m_mov (by conv => lhs; whnf) ?_)|(refine qx2 ?_)))|refine qz1 ?_|refine qz3 ?_|refine qz6 ?_)
  (refine qz0 ?_);(apply qza (bdAsked_spec B L hB hL));(· repeat (first|exact qz4|(refine qz2 ?_ ?_;(· (first|exact qzd|(refine qy2 ?_; first|rfl|omega))))))
  by_cases h : Asked B L
  · have hsd := qx5 h.1
    have hne : L ≠ [] := by
      intro e
      have := h.2.2
      rw [e] at this
      simp at this
      omega
    have hs := bdFirst_spec B h.1 hB (sdB B) [] L (by simp) (.inr ⟨rfl,h.2.2,by simp; omega⟩) (fun x hx => by have := h.2.1.2.2.1 x hx; have := h.2.2; omega)
    have e : fstB (fitsA B) (sdB B) (sdB B) [] L = nextA B L := by
      unfold fstB nextA
      rw [if_neg hne,if_pos h]
    rw [e] at hs
    have hlen := fun m => nextA_len (B := B) (L := L) (m := m)
    generalize nextA B L = o at *
    repeat (first|(refine qz0 ?_;(first|(refine m_mov (by conv => lhs; whnf) ?_)|(refine m_not rfl ?_)))|refine qz1 ?_|refine qz3 ?_|(refine qzi rfl ?_ ?_;(· (refine nf ?_; assumption)))|refine qz5 ?_)
    refine qz0 ?_
    refine qza hs ?_ ?_
    · exact qz2 qzd (qz2 lend_nil (qz2 (qy2 rfl) qz4))
    repeat (first|(refine qz0 ?_;(first|(refine m_mov (by conv => lhs; whnf) ?_)|(refine m_gtr rfl rfl ?_)|(refine qy4 rfl ?_)))|refine qz1 ?_|refine qz3 ?_|refine qzj ?_|refine qzc ?_)
    refine qyh (que (qx0 _)) (qyb ?_)
    cases o with
    | none => rfl
    | some m => exact decide_eq_true (show (0 : Int) < (m.length : Nat) by have := hlen m rfl; omega)
  · have e : nextA B L = none := if_neg h
    rw [e]
    repeat (first|(refine qz0 ?_;(first|(refine m_mov (by conv => lhs; whnf) ?_)|(refine m_not rfl ?_)|(refine qx2 ?_)))|refine qz1 ?_|refine qz3 ?_|(refine qzf rfl ?_ ?_;(· (refine nt ?_; assumption)))|refine qzj ?_|refine qzc ?_|refine qy8 ?_)
    exact qyh (qx3 rfl rfl rfl) (qyb rfl)
def bdA (B : List UInt8) : AV := .agg [.i (sdB B : Nat),.rmp false (mkEs (plB B)) (plB B).length]
theorem bdA_bears (B : List UInt8) : Go.Am.Bears [bdA B] := bears_aggM (l := [.i (sdB B : Nat),.rmp false (mkEs (plB B)) (plB B).length]) rfl rfl
theorem plA_lt {B : List UInt8} (h : GoodBd B) : ∀ p ∈ plB B,p.1 < 1000 ∧ p.2 < 1000 := by
  intro p hp
  have := mem_posP.1 hp
  have := qx5 h
  omega
theorem hasA_at (B : List UInt8) {i j : Nat} (hi : i < sdB B) (hj : j < sdB B) : hasP (plB B) (i : Nat) (j : Nat) = fbB B i j := by
  unfold plB
  rw [hasP_pos,decide_eq_true (by omega)]
  simp
theorem canTake_spec (B : List UInt8) (l : List Int) (g : Nat) (h : GoodBd B) (hl : l.length < sdB B) (hg : g < sdB B) : Sp Tryz.prog 40 [bdA B,ints l,.i g] (.b (fitsA B l g)) := by
  have hsd := qx5 h
  have hlt := plA_lt h
  have hat := hasA_at B hl hg
  unfold bdA
  refine qy7 Tryz.func40 rfl cc40 rfl ?_
  unfold ac40
  repeat (first|(refine qz0 ?_;(first|(refine m_mov (by conv => lhs; whnf) ?_)|(refine qy4 rfl ?_)|(apply qx8;(· rfl);(· rfl);(· rfl))|(refine m_fa rfl ?_)|(refine m_bld_2 (by conv => lhs; whnf) (by conv => lhs; whnf) (by decide)  (by decide) (by rfl) (by rfl) ?_)|(refine m_box rfl ?_ ?_;(· first|rfl|(simp [cellOk,Value.oneCell']; done)))))|refine qz1 ?_|refine qz3 ?_)
  refine qz0 ?_
  refine m_place (a := (l.length : Nat)) (b := (g : Nat)) hlt (.inr ⟨false,rfl⟩) rfl (by omega) (by omega) ?_
  rw [hat]
  by_cases h1 : fbB B l.length g = true
  · have hfit : fitsA B l g = false := by simp [fitsA,h1]
    rw [hfit]
    repeat (first|(refine qz0 ?_;(first|(first|(refine m_mov (by conv => lhs; whnf) ?_)|(refine m_not rfl ?_)|(refine qy3 rfl ?_ (by conv => lhs; whnf) ?_;(· (simp [*]; done))))|(refine g_noT rfl ?_ ?_;(· (simp [*]; done)))))|refine qz1 ?_|refine qzj ?_|refine qzc ?_)
    exact qyb (by simp)
  · have h1 : fbB B l.length g = false := by simpa using h1
    have hfit : fitsA B l g = !decide ((g : Int) ∈ l) := by simp [fitsA,h1]
    rw [hfit]
    repeat (refine qz0 ?_;((try (refine g_yes rfl ?_ ?_;(· (simp [*]; done))));(first|(refine m_mov (by conv => lhs; whnf) ?_)|(refine m_not rfl ?_))))
    (refine qz0 ?_);(refine g_yes rfl ?_ ?_;(· first|((simp [*]; done))|(fail));(apply qza (slicesContains_spec l g (by omega))));(· repeat (first|exact qz4|(refine qz2 ?_ ?_;(· (first|exact qzd|(refine qy2 ?_; first|rfl|omega))))))
    repeat (first|(refine qz0 ?_;((try (refine g_yes rfl ?_ ?_;(· (simp [*]; done))));(first|(refine m_mov (by conv => lhs; whnf) ?_)|(refine m_not rfl ?_)|(refine qye rfl ?_ (by conv => lhs; whnf) ?_;(· (simp [*]; done))))))|refine qz1 ?_|refine qzj ?_|refine qzc ?_)
    exact qyb rfl
theorem asks_allow {B : List UInt8} (h : GoodBd B) : Asks Tryz.prog 40 [bdA B] (sdB B) (fitsA B) where
  call := ⟨_,Tryz.func40,by rfl,by rfl⟩
  bears := bdA_bears B
  norefs := fun _ => rfl
  nokill := fun _ => rfl
  spec := fun M y hM _ hy => canTake_spec B M y h hM hy
theorem implFirstAllowed_spec (B : List UInt8) (hB : B.length ≤ 1048576) : Sp Tryz.prog 12 [str B] (srchR (frstA B)) := by
  have hr := qxj B hB
  unfold bdR bdV at hr
  unfold srchR
  refine qy7 Tryz.func12 rfl cc12 rfl ?_
  unfold ac12
  repeat (first|(refine qz0 ?_;(first|(refine m_mov (by conv => lhs; whnf) ?_)|(refine qx2 ?_)))|refine qz1 ?_|refine qz3 ?_)
  (refine qz0 ?_);(apply qza (hr));(· repeat (first|exact qz4|(refine qz2 ?_ ?_;(· exact qzd))))
  by_cases h : GoodBd B
  · have e : frstA B = (goOn (fitsA B) (sdB B) (sdB B) []).head? := if_pos h
    have hsd := qx5 h
    have hs := firstFitting_spec (asks_allow h) (by omega) hsd.1
    rw [← e] at hs
    rw [if_pos h]
    unfold srchR at hs
    generalize frstA B = sr at hs ⊢
    repeat (first|(refine qz0 ?_;(first|(refine m_mov (by conv => lhs; whnf) ?_)|(refine m_not rfl ?_)|(apply qx8;(· rfl);(· rfl);(· rfl))|(refine m_mkf ?_)|(refine m_ext rfl rfl ?_)|(refine qxb ?_)|(refine m_fa rfl ?_)|(refine qv7 rfl rfl ?_ ?_;(· first|rfl|(simp; done)|(simp [*]; done)))|(refine qx9 rfl rfl rfl ?_ ?_ ?_ ?_;(· first|rfl|(simp [*]; done));(· first|rfl|(simp [*]; done));(· first|rfl|(simp [cellOk,Value.oneCell']; done)))))|refine qz1 ?_|refine qz3 ?_|(refine qzi rfl ?_ ?_;(· (refine nf ?_; assumption)))|refine qz5 ?_|refine qz6 ?_)
    refine qz0 ?_
    refine qza hs ?_ ?_
    · refine qz2 qzd (qz2 (lend_fn (qz2 ?_ qz4)) qz4)
      exact qwi (l := [.i (sdB B : Nat),.rmp true (mkEs (plB B)) (plB B).length]) rfl
    repeat (first|(refine qz0 ?_;(first|(refine m_mov (by conv => lhs; whnf) ?_)|(refine m_ext rfl rfl ?_)))|refine qz1 ?_|refine qzj ?_|refine qzc ?_)
    exact qyh (que (qx0 _)) (qyb rfl)
  · have e : frstA B = none := if_neg h
    rw [e,if_neg h]
    repeat (first|(refine qz0 ?_;(first|(refine m_mov (by conv => lhs; whnf) ?_)|(refine m_not rfl ?_)|(refine qx2 ?_)|(refine m_ext rfl rfl ?_)|(refine qxb ?_)|(refine qx9 rfl rfl rfl ?_ ?_ ?_ ?_;(· first|rfl|(simp [*]; done));(· first|rfl|(simp [*]; done));(· first|rfl|(simp [cellOk,Value.oneCell']; done)))))|refine qz1 ?_|refine qz3 ?_|(refine qzf rfl ?_ ?_;(· (refine nt ?_; assumption)))|refine qz6 ?_|refine qzj ?_|refine qzc ?_|refine qy8 ?_)
    exact qyh (qx3 rfl rfl rfl) (qyb rfl)
theorem implNextAllowed_spec (B : List UInt8) (L : List Int) (hB : B.length ≤ 1048576) (hL : L.length ≤ 1048576) : Sp Tryz.prog 6 [str B,ints L] (srchR (nextA B L)) := by
  have hr := readBoardFor_spec B L hB hL
  unfold bdF at hr
  unfold srchR
  refine qy7 Tryz.func6 rfl cc6 rfl ?_
  unfold ac6
  repeat (first|(refine qz0 ?_;(first|(refine m_mov (by conv => lhs; whnf) ?_)|(refine qx2 ?_)))|refine qz1 ?_|refine qz3 ?_)
  (refine qz0 ?_);(apply qza (hr));(· repeat (first|exact qz4|(refine qz2 ?_ ?_;(· (first|exact qzd|(refine qy2 ?_; first|rfl|omega))))))
  by_cases h : Asked B L
  · have e : nextA B L = (goOn (fitsA B) (sdB B) (sdB B) []).find? (fun m => comesB L m) := if_pos h
    have hsd := qx5 h.1
    have hs := nextFitting_spec (asks_allow h.1) (by omega) hsd.1 L h.2.2 (fun x hx => by have := h.2.1.2.2.1 x hx; have := h.2.2; omega)
    rw [← e] at hs
    rw [if_pos h]
    unfold srchR at hs
    generalize nextA B L = sr at hs ⊢
    repeat (first|(refine qz0 ?_;(first|(refine m_mov (by conv => lhs; whnf) ?_)|(refine m_not rfl ?_)|(refine m_mkf ?_)|(refine m_ext rfl rfl ?_)|(refine qxb ?_)|(refine qv7 rfl rfl ?_ ?_;(· first|rfl|(simp; done)|(simp [*]; done)))|(refine qx9 rfl rfl rfl ?_ ?_ ?_ ?_;(· first|rfl|(simp [*]; done));(· first|rfl|(simp [*]; done));(· first|rfl|(simp [cellOk,Value.oneCell']; done)))))|refine qz1 ?_|refine qz3 ?_|(refine qzi rfl ?_ ?_;(· (refine nf ?_; assumption)))|refine qz5 ?_|refine qz6 ?_)
    refine qz0 ?_
    refine qza hs ?_ ?_
    · refine qz2 (qy2 rfl) (qz2 (lend_fn (qz2 ?_ qz4)) qz4)
      exact qwi (l := [.i (sdB B : Nat),.rmp true (mkEs (plB B)) (plB B).length]) rfl
    repeat (first|(refine qz0 ?_;(first|(refine m_mov (by conv => lhs; whnf) ?_)|(refine m_ext rfl rfl ?_)))|refine qz1 ?_|refine qzj ?_|refine qzc ?_)
    exact qyh (que (qx0 _)) (qyb rfl)
  · have e : nextA B L = none := if_neg h
    rw [e,if_neg h]
    repeat (first|(refine qz0 ?_;(first|(refine m_mov (by conv => lhs; whnf) ?_)|(refine m_not rfl ?_)|(refine qx2 ?_)|(refine m_ext rfl rfl ?_)|(refine qxb ?_)|(refine qx9 rfl rfl rfl ?_ ?_ ?_ ?_;(· first|rfl|(simp [*]; done));(· first|rfl|(simp [*]; done));(· first|rfl|(simp [cellOk,Value.oneCell']; done)))))|refine qz1 ?_|refine qz3 ?_|(refine qzf rfl ?_ ?_;(· (refine nt ?_; assumption)))|refine qz6 ?_|refine qzj ?_|refine qzc ?_|refine qy8 ?_)
    exact qyh (qx3 rfl rfl rfl) (qyb rfl)
end Go.Proofs.YtngfogpbljconaaGreatDoor
namespace Go.Proofs.YtngfogpbljconaaGreatDoor
variable [Go.Am.CodeBlk]
open Go.Am
attribute [local irreducible] AW Outs Weak Lends Lend Sp aops atree aop1 Then Round InBlock Done
attribute [local irreducible] SpM DoneM SpH DoneH
def bhD : ACode := sndN 16 ac3
def bhC : ACode := sndN 15 ac3
def bhB : ACode := sndN 14 ac3
def bhA : ACode := sndN 13 ac3
def cntB' (B : List UInt8) : Nat := if GoodBd B then (allB B).length else 0
theorem cnt_le {B : List UInt8} : cntB' B ≤ 40320 := by
  unfold cntB'
  split
  · rename_i h
    rw [allB_len]
    exact hit_le _ (qx5 h).2 (Nat.zero_le _)
  · omega
theorem frst_all (B : List UInt8) : frstA B = if GoodBd B then (allB B)[0]? else none := by
  by_cases h : GoodBd B
  · rw [if_pos h,allB_first h]
  · unfold frstA
    rw [if_neg h,if_neg h]
theorem bh15 {B : List UInt8} {mv : Value} {ML : List UInt8} {L : List Int} (hB : B.length ≤ 1048576) (hy : Bys mv ML) (hyl : ML.length ≤ 1048576) : AW Tryz.prog (min Tryz.f3.ntmps pbase) bhD (st [(5,str B),(1,.v mv),(12,.b (decide (Asked B L))),(19,newInts ((frstA B).getD [])),(20,.b (frstA B).isSome),(23,.i (cntB' B : Nat)),(24,.b (decide (GoodBd B)))] []) (Done [4].reverse (.b true)) := by
  have h1 := bc0 hy hyl
  have hle := cnt_le (B := B)
  have hp : bhD = .seq (fstC bhD) bcA0 := rfl
  rw [hp]
  clear hp
  generalize bcA0 = cA at *
  by_cases h : GoodBd B
  · have hcb : cntB' B = (allB B).length := if_pos h
    have hf := frst_all B
    rw [if_pos h] at hf
    have hn := fun k (hk : k < (allB B).length) => allB_next h hk
    have hlen : ∀ k,((allB B).getD k []).length ≤ 12 := fun k => by
      by_cases hk : k < (allB B).length
      · have hm : (allB B).getD k [] ∈ allB B := by simp [hk]
        have := (allB_mem h hm).1.2.1.2.1
        exact this
      · rw [List.getD_eq_getElem?_getD,List.getElem?_eq_none (by omega)]
        simp
    have e0 : ((allB B)[0]?).getD [] = (allB B).getD 0 [] := by rw [List.getD_eq_getElem?_getD]
    have e1 : ((allB B)[0]?).isSome = decide (0 < (allB B).length) := by
      by_cases hz : 0 < (allB B).length
      · rw [List.getElem?_eq_getElem hz,decide_eq_true hz]; rfl
      · rw [List.getElem?_eq_none (by omega),decide_eq_false hz]; rfl
    rw [hf,e0,e1,hcb,decide_eq_true h]
    rw [hcb] at hle
    clear hf e0 e1
    generalize hG : allB B = G at *
    by_cases ha : Asked B L
    · rw [decide_eq_true ha]
      by_cases h60 : ((G.length : Nat) : Int) ≤ 60
      · unfold bhD
        unfold ac3
        simp only [sndN,sndC,fstC]
        repeat (first|(refine qz0 ?_;((try (refine g_yes rfl ?_ ?_;(· rfl)));(first|(refine m_mov (by conv => lhs; whnf) ?_)|(refine m_leq rfl rfl ?_)|(refine qye rfl ?_ (by conv => lhs; whnf) ?_;(· rfl)))))|refine qz1 ?_|refine qz3 ?_|(refine qzf rfl ?_ ?_;(· (refine decide_eq_true ?_; assumption)))|refine qz6 ?_|refine qz8 ?_)
        refine qyf (α := Nat) (fun k => k ≤ G.length) (fun k => st [(5,str B),(1,.v mv),(23,.i (G.length : Nat)),(31,newInts (G.getD k [])),(32,.i (k : Nat)),(33,.b (decide (k < G.length)))] []) (fun k => G.length - k) 0 (Nat.zero_le _) (qz9 ?_ ?_ rfl rfl) ?_
        · (repeat' first|exact trivial|refine And.intro ?_ ?_)<;>first|rfl|skip
        · trivial
        intro k hk
        by_cases hc : k < G.length
        · have hs := implNextAllowed_spec B (G.getD k []) hB (by have := hlen k; omega)
          unfold srchR at hs
          rw [hn k hc] at hs
          have e2 : (G[k + 1]?).getD [] = G.getD (k + 1) [] := by rw [List.getD_eq_getElem?_getD]
          have e3 : (G[k + 1]?).isSome = decide (k + 1 < G.length) := by
            by_cases hz : k + 1 < G.length
            · rw [List.getElem?_eq_getElem hz,decide_eq_true hz]; rfl
            · rw [List.getElem?_eq_none (by omega),decide_eq_false hz]; rfl
          rw [e2,e3] at hs
          rw [decide_eq_true hc]
          repeat (first|(refine qz0 ?_;((try (refine g_yes rfl ?_ ?_;(· rfl)));(first|(refine m_mov (by conv => lhs; whnf) ?_)|(refine m_leq rfl rfl ?_)|(refine m_add rfl rfl ?_ ?_ ?_;(· omega);(· omega))|(refine qye rfl ?_ (by conv => lhs; whnf) ?_;(· rfl)))))|refine qz1 ?_|refine qz3 ?_|(refine qzf rfl ?_ ?_;(· (refine decide_eq_true ?_; omega)))|refine qz5 ?_|refine qz6 ?_|refine qz8 ?_)
          refine qz0 ?_;(apply qza (hs));(· repeat (first|exact qz4|(refine qz2 ?_ ?_;(· (first|exact qzd|(refine qy2 ?_; first|rfl|omega))))))
          repeat (first|(refine qz0 ?_;(first|(refine m_mov (by conv => lhs; whnf) ?_)|(refine m_ext rfl rfl ?_)))|refine qz1 ?_|refine qz3 ?_|refine qy5 ?_|refine qze ?_)
          refine qzb (k + 1) (by omega) (qz9 ?_ ?_ rfl rfl) (by omega)
          · (repeat' first|exact trivial|refine And.intro ?_ ?_)<;>first|rfl|skip
          · trivial
        · obtain rfl : k = G.length := by omega
          rw [decide_eq_false hc]
          repeat (first|(refine qz0 ?_;(first|(first|(refine m_mov (by conv => lhs; whnf) ?_)|(refine m_neq rfl rfl ?_)|(refine qy3 rfl ?_ (by conv => lhs; whnf) ?_;(· rfl)))|(refine g_noT rfl ?_ ?_;(· rfl))))|refine qz1 ?_|refine qz3 ?_|(refine qzi rfl ?_ ?_;(· first|rfl|(refine decide_eq_false ?_; omega)))|refine qz5 ?_|refine qz6 ?_|refine qz7 ?_|refine qy1 ?_|refine qy0 ?_|refine qy9 ?_|refine qzg ?_)
          refine qxe (qz9 ?_ ?_ rfl rfl) h1
          · (repeat' first|exact trivial|refine And.intro ?_ ?_)<;>first|rfl|skip
          · trivial
      · unfold bhD
        unfold ac3
        simp only [sndN,sndC,fstC]
        repeat (first|(refine qz0 ?_;((try (refine g_yes rfl ?_ ?_;(· rfl)));(first|(refine m_mov (by conv => lhs; whnf) ?_)|(refine m_leq rfl rfl ?_)|(refine qye rfl ?_ (by conv => lhs; whnf) ?_;(· rfl)))))|refine qz1 ?_|refine qz3 ?_|(refine qzi rfl ?_ ?_;(· (refine decide_eq_false ?_; assumption)))|refine qz5 ?_|refine qz6 ?_)
        refine qxe (qz9 ?_ ?_ rfl rfl) h1
        · (repeat' first|exact trivial|refine And.intro ?_ ?_)<;>first|rfl|skip
        · trivial
    · rw [decide_eq_false ha]
      unfold bhD
      unfold ac3
      simp only [sndN,sndC,fstC]
      repeat (first|(refine qz0 ?_;(first|((try (refine g_yes rfl ?_ ?_;(· rfl)));(first|(refine m_mov (by conv => lhs; whnf) ?_)|(refine qye rfl ?_ (by conv => lhs; whnf) ?_;(· rfl))|(refine qy3 rfl ?_ (by conv => lhs; whnf) ?_;(· rfl))))|(refine g_noT rfl ?_ ?_;(· rfl))))|refine qz1 ?_|refine qz3 ?_|(refine qzi rfl ?_ ?_;(· rfl))|refine qz5 ?_|refine qz6 ?_)
      refine qxe (qz9 ?_ ?_ rfl rfl) h1
      · (repeat' first|exact trivial|refine And.intro ?_ ?_)<;>first|rfl|skip
      · trivial
  · rw [decide_eq_false h]
    generalize (frstA B).isSome = b at *
    generalize decide (Asked B L) = b2 at *
    unfold bhD
    unfold ac3
    simp only [sndN,sndC,fstC]
    repeat (first|(refine qz0 ?_;(first|(first|(refine m_mov (by conv => lhs; whnf) ?_)|(refine qy3 rfl ?_ (by conv => lhs; whnf) ?_;(· rfl)))|(refine g_noT rfl ?_ ?_;(· rfl))))|refine qz1 ?_|refine qz3 ?_|(refine qzi rfl ?_ ?_;(· rfl))|refine qz5 ?_|refine qz6 ?_)
    refine qxe (qz9 ?_ ?_ rfl rfl) h1
    · (repeat' first|exact trivial|refine And.intro ?_ ?_)<;>first|rfl|skip
    · trivial
theorem bh14 {B : List UInt8} {mv : Value} {ML : List UInt8} {L : List Int} (hB : B.length ≤ 1048576) (hy : Bys mv ML) (hyl : ML.length ≤ 1048576) (hL : L.length ≤ 10000) : AW Tryz.prog (min Tryz.f3.ntmps pbase) bhC (st [(5,str B),(6,ints L),(1,.v mv),(7,newInts ((nextA B L).getD [])),(8,.b (nextA B L).isSome),(12,.b (decide (Asked B L))),(19,newInts ((frstA B).getD [])),(20,.b (frstA B).isSome),(23,.i (cntB' B : Nat)),(24,.b (decide (GoodBd B)))] []) (Done [4].reverse (.b true)) := by
  have h1 := bh15 (L := L) hB hy hyl
  have hp : bhC = .seq (fstC bhC) bhD := rfl
  rw [hp]
  clear hp
  generalize bhD = cD at *
  cases hn : nextA B L with
  | none =>
    rw [Option.getD_none,Option.isSome_none]
    generalize (frstA B).isSome = b1 at *
    generalize (frstA B).getD [] = F at *
    generalize decide (Asked B L) = b2 at *
    generalize decide (GoodBd B) = b3 at *
    unfold bhC
    unfold ac3
    simp only [sndN,sndC,fstC]
    repeat (first|(refine qz0 ?_;(refine m_mov (by conv => lhs; whnf) ?_))|refine qz1 ?_|refine qz3 ?_|(refine qzi rfl ?_ ?_;(· rfl))|refine qz5 ?_|refine qz6 ?_)
    refine qxe (qz9 ?_ ?_ rfl rfl) h1
    · (repeat' first|exact trivial|refine And.intro ?_ ?_)<;>first|rfl|skip
    · trivial
  | some N =>
    have ha : Asked B L := by
      unfold nextA at hn
      split at hn
      · rename_i h; exact h
      · cases hn
    have hn2 := hn
    unfold nextA at hn2
    rw [if_pos ha] at hn2
    have hm : N ∈ allB B := List.mem_of_find?_eq_some hn2
    have hcb : comesB L N = true := List.find?_some hn2
    obtain ⟨m1,m2⟩ := allB_mem ha.1 hm
    have hls := allB_least hm
    have hff := frst_all B
    rw [if_pos ha.1] at hff
    have hpos : 0 < (allB B).length := List.length_pos_of_mem hm
    have hf0 : (allB B).getD 0 [] ∈ allB B := by simp [hpos]
    have m3 := (allB_mem ha.1 hf0).1
    have e0 : (frstA B).getD [] = (allB B).getD 0 [] := by rw [hff,List.getD_eq_getElem?_getD]
    have l1 : N.length = L.length := by rw [m1.2.2,ha.2.2]
    have l2 : ((allB B).getD 0 []).length = N.length := by rw [m3.2.2,m1.2.2]
    have s1 := implHitsOf_spec B N hB (by omega)
    unfold hitsR at s1
    rw [if_pos m1,decide_eq_true m1,m2] at s1
    have s2 := oLessC_spec L N (by omega) l1
    rw [hcb] at s2
    have s3 := oLessC_spec N ((allB B).getD 0 []) (by omega) l2
    rw [hls,← e0] at s3
    rw [Option.getD_some,Option.isSome_some]
    generalize (frstA B).isSome = b1 at *
    generalize (frstA B).getD [] = F at *
    generalize decide (Asked B L) = b2 at *
    generalize decide (GoodBd B) = b3 at *
    unfold bhC
    unfold ac3
    simp only [sndN,sndC,fstC]
    repeat (first|(refine qz0 ?_;(refine m_mov (by conv => lhs; whnf) ?_))|refine qz1 ?_|refine qz3 ?_|(refine qzf rfl ?_ ?_;(· rfl))|refine qz6 ?_)
    refine qz0 ?_;(apply qza (s1));(· repeat (first|exact qz4|(refine qz2 ?_ ?_;(· (first|exact qzd|(refine qy2 ?_; first|rfl|omega))))))
    repeat (first|(refine qz0 ?_;((try (refine g_yes rfl ?_ ?_;(· rfl)));(first|(refine m_mov (by conv => lhs; whnf) ?_)|(refine m_neq rfl rfl ?_)|(refine m_not rfl ?_)|(refine qy3 rfl ?_ (by conv => lhs; whnf) ?_;(· rfl))|(refine m_ext rfl rfl ?_))))|refine qz1 ?_|refine qz3 ?_)
    refine qz0 ?_;(refine g_yes rfl ?_ ?_;(· first|(rfl)|(fail));(apply qza (s2)));(· repeat (first|exact qz4|(refine qz2 ?_ ?_;(· (refine qy2 ?_; first|rfl|omega)))))
    repeat (refine qz0 ?_;((try (refine g_yes rfl ?_ ?_;(· rfl)));(first|(refine m_mov (by conv => lhs; whnf) ?_)|(refine m_not rfl ?_)|(refine qy3 rfl ?_ (by conv => lhs; whnf) ?_;(· rfl)))))
    refine qz0 ?_;(refine g_yes rfl ?_ ?_;(· first|(rfl)|(fail));(apply qza (s3)));(· repeat (first|exact qz4|(refine qz2 ?_ ?_;(· (refine qy2 ?_; first|rfl|omega)))))
    repeat (first|(refine qz0 ?_;(refine qy3 rfl ?_ (by conv => lhs; whnf) ?_;(· rfl)))|refine qz1 ?_|(refine qzi rfl ?_ ?_;(· rfl))|refine qz5 ?_)
    refine qxe (qz9 ?_ ?_ rfl rfl) h1
    · (repeat' first|exact trivial|refine And.intro ?_ ?_)<;>first|rfl|skip
    · trivial
theorem bh13 {B : List UInt8} {mv : Value} {ML : List UInt8} {L : List Int} (hB : B.length ≤ 1048576) (hy : Bys mv ML) (hyl : ML.length ≤ 1048576) (hL : L.length ≤ 10000) : AW Tryz.prog (min Tryz.f3.ntmps pbase) bhB (st [(5,str B),(6,ints L),(1,.v mv),(7,newInts ((nextA B L).getD [])),(8,.b (nextA B L).isSome),(11,.b (if Asked B L then decide (hitN B L L.length = 0) else false)),(12,.b (decide (Asked B L))),(19,newInts ((frstA B).getD [])),(20,.b (frstA B).isSome),(23,.i (cntB' B : Nat)),(24,.b (decide (GoodBd B)))] []) (Done [4].reverse (.b true)) := by
  have h1 := bh14 (L := L) hB hy hyl hL
  have hp : bhB = .seq (fstC bhB) bhC := rfl
  rw [hp]
  clear hp
  generalize bhC = cC at *
  cases hf : frstA B with
  | none =>
    rw [hf] at h1
    rw [Option.getD_none,Option.isSome_none] at h1 ⊢
    generalize (nextA B L).isSome = b1 at *
    generalize (nextA B L).getD [] = N at *
    generalize (if Asked B L then decide (hitN B L L.length = 0) else false) = b4 at *
    generalize decide (Asked B L) = b2 at *
    generalize decide (GoodBd B) = b3 at *
    unfold bhB
    unfold ac3
    simp only [sndN,sndC,fstC]
    repeat (first|(refine qz0 ?_;(refine m_mov (by conv => lhs; whnf) ?_))|refine qz1 ?_|refine qz3 ?_|(refine qzi rfl ?_ ?_;(· rfl))|refine qz5 ?_|refine qz6 ?_)
    refine qxe (qz9 ?_ ?_ rfl rfl) h1
    · (repeat' first|exact trivial|refine And.intro ?_ ?_)<;>first|rfl|skip
    · trivial
  | some F =>
    have hff := frst_all B
    rw [hf] at hff
    have hg : GoodBd B := by
      by_cases h : GoodBd B
      · exact h
      · rw [if_neg h] at hff; cases hff
    rw [if_pos hg] at hff
    have hpos : 0 < (allB B).length := by
      rcases Nat.lt_or_ge 0 (allB B).length with c|c
      · exact c
      · rw [List.getElem?_eq_none c] at hff; cases hff
    have e0 : F = (allB B).getD 0 [] := by rw [List.getD_eq_getElem?_getD,← hff]; rfl
    have hm : F ∈ allB B := by rw [e0]; simp [hpos]
    obtain ⟨m1,m2⟩ := allB_mem hg hm
    have hFl := m1.2.1.2.1
    have s1 := implHitsOf_spec B F hB (by omega)
    unfold hitsR at s1
    rw [if_pos m1,decide_eq_true m1,m2] at s1
    rw [hf] at h1
    rw [Option.getD_some,Option.isSome_some] at h1 ⊢
    by_cases ha : Asked B L
    · have l1 : F.length = L.length := by rw [m1.2.2,ha.2.2]
      rw [if_pos ha,decide_eq_true ha]
      rw [decide_eq_true ha] at h1
      by_cases hz : hitN B L L.length = 0
      · have hin := allB_in ha hz
        have hls := allB_least hin
        have s2 := oLessC_spec L F (by omega) l1
        rw [e0,hls,← e0] at s2
        rw [decide_eq_true hz]
        generalize (nextA B L).isSome = b1 at *
        generalize (nextA B L).getD [] = N at *
        generalize decide (GoodBd B) = b3 at *
        unfold bhB
        unfold ac3
        simp only [sndN,sndC,fstC]
        repeat (first|(refine qz0 ?_;(refine m_mov (by conv => lhs; whnf) ?_))|refine qz1 ?_|refine qz3 ?_|(refine qzf rfl ?_ ?_;(· rfl))|refine qz6 ?_)
        refine qz0 ?_;(apply qza (s1));(· repeat (first|exact qz4|(refine qz2 ?_ ?_;(· (first|exact qzd|(refine qy2 ?_; first|rfl|omega))))))
        repeat (first|(refine qz0 ?_;((try (refine g_yes rfl ?_ ?_;(· rfl)));(first|(refine m_mov (by conv => lhs; whnf) ?_)|(refine m_neq rfl rfl ?_)|(refine m_not rfl ?_)|(refine qye rfl ?_ (by conv => lhs; whnf) ?_;(· rfl))|(refine qy3 rfl ?_ (by conv => lhs; whnf) ?_;(· rfl))|(refine m_ext rfl rfl ?_))))|refine qz1 ?_|refine qz3 ?_)
        refine qz0 ?_;(refine g_yes rfl ?_ ?_;(· first|(rfl)|(fail));(apply qza (s2)));(· repeat (first|exact qz4|(refine qz2 ?_ ?_;(· (refine qy2 ?_; first|rfl|omega)))))
        repeat (first|(refine qz0 ?_;((try (refine g_yes rfl ?_ ?_;(· rfl)));(first|(refine qye rfl ?_ (by conv => lhs; whnf) ?_;(· rfl))|(refine qy3 rfl ?_ (by conv => lhs; whnf) ?_;(· rfl)))))|refine qz1 ?_|(refine qzi rfl ?_ ?_;(· rfl))|refine qz5 ?_)
        refine qxe (qz9 ?_ ?_ rfl rfl) h1
        · (repeat' first|exact trivial|refine And.intro ?_ ?_)<;>first|rfl|skip
        · trivial
      · rw [decide_eq_false hz]
        generalize (nextA B L).isSome = b1 at *
        generalize (nextA B L).getD [] = N at *
        generalize decide (GoodBd B) = b3 at *
        unfold bhB
        unfold ac3
        simp only [sndN,sndC,fstC]
        repeat (first|(refine qz0 ?_;(refine m_mov (by conv => lhs; whnf) ?_))|refine qz1 ?_|refine qz3 ?_|(refine qzf rfl ?_ ?_;(· rfl))|refine qz6 ?_)
        refine qz0 ?_;(apply qza (s1));(· repeat (first|exact qz4|(refine qz2 ?_ ?_;(· (first|exact qzd|(refine qy2 ?_; first|rfl|omega))))))
        repeat (first|(refine qz0 ?_;(first|((try (refine g_yes rfl ?_ ?_;(· rfl)));(first|(refine m_mov (by conv => lhs; whnf) ?_)|(refine m_neq rfl rfl ?_)|(refine m_not rfl ?_)|(refine qye rfl ?_ (by conv => lhs; whnf) ?_;(· rfl))|(refine qy3 rfl ?_ (by conv => lhs; whnf) ?_;(· rfl))|(refine m_ext rfl rfl ?_)))|(refine g_noT rfl ?_ ?_;(· rfl))))|refine qz1 ?_|refine qz3 ?_|(refine qzi rfl ?_ ?_;(· rfl))|refine qz5 ?_)
        refine qxe (qz9 ?_ ?_ rfl rfl) h1
        · (repeat' first|exact trivial|refine And.intro ?_ ?_)<;>first|rfl|skip
        · trivial
    · rw [if_neg ha,decide_eq_false ha]
      rw [decide_eq_false ha] at h1
      generalize (nextA B L).isSome = b1 at *
      generalize (nextA B L).getD [] = N at *
      generalize decide (GoodBd B) = b3 at *
      unfold bhB
      unfold ac3
      simp only [sndN,sndC,fstC]
      repeat (first|(refine qz0 ?_;(refine m_mov (by conv => lhs; whnf) ?_))|refine qz1 ?_|refine qz3 ?_|(refine qzf rfl ?_ ?_;(· rfl))|refine qz6 ?_)
      refine qz0 ?_;(apply qza (s1));(· repeat (first|exact qz4|(refine qz2 ?_ ?_;(· (first|exact qzd|(refine qy2 ?_; first|rfl|omega))))))
      repeat (first|(refine qz0 ?_;(first|((try (refine g_yes rfl ?_ ?_;(· rfl)));(first|(refine m_mov (by conv => lhs; whnf) ?_)|(refine m_neq rfl rfl ?_)|(refine m_not rfl ?_)|(refine qy3 rfl ?_ (by conv => lhs; whnf) ?_;(· rfl))|(refine m_ext rfl rfl ?_)))|(refine g_noT rfl ?_ ?_;(· rfl))))|refine qz1 ?_|refine qz3 ?_|(refine qzi rfl ?_ ?_;(· rfl))|refine qz5 ?_)
      refine qxe (qz9 ?_ ?_ rfl rfl) h1
      · (repeat' first|exact trivial|refine And.intro ?_ ?_)<;>first|rfl|skip
      · trivial
end Go.Proofs.YtngfogpbljconaaGreatDoor
namespace Go.Am
variable [Go.Am.CodeBlk]
open Go.ChangeShapes Go.WideShapes Go.ChangeAt Go.RowKit Go.ChangeMaps
variable {P : Program} {H : Type} {enc : TypeId × Value → H}
theorem and_mk {a b : Bool} (h : a = true) (k : b = true) : (a && b) = true := by rw [h,k]; rfl
theorem More.below {w w' : World} (h : More w w') : Below w.heap.size w w' := ⟨h.os,h.tape,h.output,h.size,h.block⟩
theorem trodAll_stays (hl : laidOutB P = true) {W W' : World} (hb : Below W.heap.size W W') (sp : Nat → Bool) : ∀ {ts : List TypeId} {vs : List Value} {ds : List (DataW H)} {ps : List MemPlace},
    (∀ t ∈ ts,P.readableRec t = true ∧ t < P.types.size) → DataW.TrodAll enc P W 0 (fun _ => true) true ts vs ds ps → (∀ p ∈ ps,p.block < W.heap.size) → (∀ p ∈ ps,sp p.block = true) →
    DataW.TrodAll enc P W' 0 sp true ts vs ds ps
  | [],vs,ds,ps,_,h,_,_ => by
    obtain ⟨rfl,rfl,rfl⟩ := trodAll_nil h
    exact trodAll_mk0
  | t :: ts,vs,ds,ps,hr,h,hlt,hsp => by
    obtain ⟨v,vs',d,ds',p,q,rfl,rfl,rfl,h1,h2⟩ := trodAll_cons h
    refine ⟨p,q,?_,trodAll_stays hl hb sp (fun t ht => hr t (List.mem_cons_of_mem _ ht)) h2 (fun x hx => hlt x (List.mem_append_right _ hx)) (fun x hx => hsp x (List.mem_append_right _ hx)),rfl⟩
    obtain ⟨h3,h4⟩ := hr t (List.mem_cons_self ..)
    exact WideElems.Trod_stays hl h3 h4 h1 (fun x hx => hb.same (hlt x (List.mem_append_left _ hx))) (fun x hx => hsp x (List.mem_append_left _ hx))
theorem law_post (hl : laidOutB P = true) {f : Func} {s : ChangeSpec} {fresh handsOn again : Bool} {W W' : World} {args : Array Value} {ds gs : List (DataW H)} {before : List MemPlace} {bt : TypeId}
    (hW : DataW.Whole enc P f.params.toList s.vars false W args.toList ds gs before) (hvars : s.vars = []) (hfn : s.fn H (ds ++ gs) = { results := [.lit (.bool true)],args := ds })
    (hres : f.resultTypes = #[bt]) (hbt : P.underlying bt = some .bool) (hread : ∀ t ∈ f.params.toList,P.readableRec t = true ∧ t < P.types.size) (hm : More W W') :
    s.post enc P f false fresh handsOn again W args (.bool true) W' := by
  have hb := hm.below
  have hlt : ∀ p ∈ before,p.block < W.heap.size := fun p hp => hW.lt p hp
  obtain ⟨p,q,hA,hV,hpq,hz,hn⟩ := hW
  rw [hvars] at hV
  obtain ⟨rfl,rfl⟩ := trodVars_none hV
  rw [List.append_nil] at hpq
  subst hpq
  have hargs : ∀ sp : Nat → Bool,(∀ x ∈ before,sp x.block = true) → DataW.TrodAll enc P W' 0 sp true f.params.toList args.toList ds before := fun sp hsp => trodAll_stays hl hb sp hread hA hlt hsp
  have hresT : ∀ (b : Nat) (sp : Nat → Bool) (hd : Bool),DataW.TrodAll enc P W' b sp hd f.resultTypes.toList ((Value.bool true).resultList f.resultTypes.size) [.lit (.bool true)] [] := by
    intro b sp hd
    rw [hres]
    exact trodAll_mk1 (shut_bool hbt true)
  have hvarsT : ∀ sp : Nat → Bool,DataW.TrodVars enc P W' sp s.vars (s.fn H (ds ++ [])).vars [] := by
    intro sp
    rw [hvars,hfn]
    rfl
  have hfull : DataW.Whole enc P f.params.toList s.vars false W args.toList ds [] before := ⟨before,[],hA,by rw [hvars]; rfl,by simp,hz,by simp⟩
  refine ⟨ds,[],before,[],before,[],hfull,by rw [hfn]; exact hresT _ _ _,by rw [hfn]; exact hargs _ (fun x hx => by simpa using hlt x hx),hvarsT _,World.keptBut_mono (fun x hx => ⟨hx,.inr (.inl hx)⟩) (hb.frame (· ∈ before)),fun _ => ?_⟩
  refine ⟨ok_one hres rfl (okWide_bool_mk hbt true),_,_,([] ++ before) ++ [],⟨[] ++ before,[],trodAll_append (hargs _ (fun _ _ => rfl)) (hresT _ _ _),hvarsT _,rfl,?_,by simp⟩,?_⟩
  · intro b off hp
    have hin : MemPlace.cell b off ∈ before := by simpa using hp
    rw [hb.frozen (hlt _ hin)]
    exact hz b off hin
  · intro x hx _
    simpa using hx
abbrev Outer (w : World) : Ctx := { heap := w.heap,ro := fun b => b < w.heap.size,base := w.heap.size,phi := fun _ => none,live := fun _ => false,loc := false }
theorem law_calls {f : FuncId} {asx : List AV} {W : World} {args : Array Value} (hs : Sp P f asx (.b true)) (he : SimL asx (Outer W) args.toList) (hlen : args.size = asx.length) (hg : GoodW W := by exact goodW_none rfl) :
    Calls P f args W fun e W' => e = .returned (.bool true) ∧ More W W' := by
  refine (hs W args hg ⟨he,by simpa using hlen⟩).mono fun e W' ⟨v,h1,h2,h3⟩ => ?_
  simp only [SimV] at h3
  subst h3
  exact ⟨h1,h2⟩
end Go.Am
namespace Go.Am
open Go.ChangeShapes Go.WideShapes Go.ChangeAt Go.RowKit Go.ChangeMaps
variable {P : Program} {H : Type} {enc : TypeId × Value → H}
theorem arg_bytes {W : World} {t e : TypeId} {v : Value} {d : DataW H} {ps : List MemPlace} (ht : P.underlying t = some (.slice e)) (he : P.underlying e = some (.int .u8)) (hc : P.cellsOf e = 1)
    (hval : Value.okWide P W .any 0 t v) (h : DataW.Trod enc P W 0 (fun _ => true) true t v d ps) : ∃ L : List UInt8,SimV (.ro false 1 (byteVs L) L.length) (Outer W) v ∧ L.length ≤ maxLen := by
  haveI : CodeBlk := ⟨[]⟩
  obtain ⟨a0,len0,cap0,rfl⟩ := okWide_slice ht hval
  obtain ⟨fuel,hf⟩ := h
  rcases open_ints ht he hc hf with ⟨hcs,_⟩|⟨a,len,cap,zs,hcs,_,hl,hm,hz,hx,hcell,hwz⟩
  · simp [Value.cells] at hcs
    obtain ⟨rfl,rfl,rfl⟩ := hcs
    refine ⟨[],?_,by simp⟩
    simp only [SimV]
    exact .inl ⟨rfl,rfl,none,0,rfl,by simp⟩
  · simp [Value.cells] at hcs
    obtain ⟨rfl,rfl,rfl⟩ := hcs
    simp only [if_true] at hz
    have hlz : len0 ≤ zs.length := by omega
    refine ⟨(zs.take len0).map fun x => UInt8.ofNat x.toNat,?_,by simp; omega⟩
    have hlen : ((zs.take len0).map fun x => UInt8.ofNat x.toNat).length = len0 := by simp; omega
    simp only [SimV]
    by_cases h0 : len0 = 0
    · subst h0
      exact .inl ⟨rfl,rfl,_,cap0,rfl,by simp⟩
    · have hc0 := hcell 0 (by omega)
      have hspot : a.spot = none ∧ ∃ cur e f,W.heap[a.block]? = some (.cells cur e f) := by
        unfold World.cell? at hc0
        rw [show a.add 0 = a from rfl] at hc0
        split at hc0
        · rename_i c e' f hb
          split at hc0
          · cases hc0
          · rename_i hs
            exact ⟨by simpa using hs,c,e',f,hb⟩
        · cases hc0
      obtain ⟨hs,cur,e',f,hb⟩ := hspot
      obtain ⟨b,o,sp⟩ := a
      simp only at hs hb
      subst hs
      refine .inr ⟨b,o,cap0,cur,e',f,by rw [hlen],hb,qyc hb,by simp [byteVs],by rw [hlen]; exact hl,by simp,?_⟩
      refine SimL.of_get fun i x hi => ?_
      unfold byteVs at hi
      rw [List.map_map,List.getElem?_map,Option.map_eq_some_iff] at hi
      obtain ⟨n,hn,rfl⟩ := hi
      rw [List.getElem?_take] at hn
      split at hn
      · rename_i hi0
        have hci := hcell i (by omega)
        rw [qv6,cell_of_row W b (o + i) cur e' f hb] at hci
        refine ⟨_,by rw [List.getElem?_drop,Array.getElem?_toList]; exact hci,?_⟩
        have hw := hwz n (List.mem_of_getElem? hn)
        simp [Lit.wf,IntKind.min,IntKind.max,IntKind.signed,IntKind.bits] at hw
        have hu : (((UInt8.ofNat n.toNat).toNat : Nat) : Int) = n := by
          have h1 : (UInt8.ofNat n.toNat).toNat = n.toNat % 256 := by simp
          rw [h1]; omega
        show SimV (.v (.int .u8 ((UInt8.ofNat n.toNat).toNat : Nat))) _ _
        simp only [SimV]
        rw [hu]
        congr 1
        rw [List.getD_eq_getElem?_getD,hn]
        rfl
      · cases hn
theorem bytes_inst {W : World} {v0 v1 : Value} {L0 L1 : List UInt8} (h0 : SimV (.ro false 1 (byteVs L0) L0.length) (Outer W) v0) (h1 : SimV (.ro false 1 (byteVs L1) L1.length) (Outer W) v1) :
    ∃ I : CodeBlk,@GoodW I W ∧ @Bys I v0 L0 ∧ @Bys I v1 L1 := by
  have one : ∀ {v : Value} {L : List UInt8},SimV (.ro false 1 (byteVs L) L.length) (Outer W) v → ∃ B : List (Nat × Array Value),(∀ p ∈ B,∃ e fz,W.heap[p.1]? = some (.cells p.2 e fz)) ∧ ∀ I : CodeBlk,(∀ p ∈ B,p ∈ I.blks) → @Bys I v L := by
    intro v L h
    simp only [SimV] at h
    rcases h with ⟨h2,h3,a,c,rfl,_⟩|⟨b,o,cap,cur,e,fz,rfl,h2,h3,h4,h5,_,h6⟩
    · have hL : L = [] := List.eq_nil_of_length_eq_zero h2
      subst hL
      exact ⟨[],by simp,fun I _ => .inl ⟨rfl,a,c,rfl⟩⟩
    · refine ⟨[(b,cur)],fun p hp => ?_,fun I hI => .inr ⟨b,o,cap,cur,rfl,hI _ (List.mem_singleton.2 rfl),h5,fun C => ?_⟩⟩
      · rw [List.mem_singleton] at hp
        subst hp
        exact ⟨e,fz,h2⟩
      · refine qxg ?_ h6
        rw [List.all_eq_true]
        intro x hx
        obtain ⟨y,_,rfl⟩ := List.mem_map.1 hx
        rfl
  obtain ⟨B0,g0,k0⟩ := one h0
  obtain ⟨B1,g1,k1⟩ := one h1
  refine ⟨⟨B0 ++ B1⟩,?_,k0 ⟨B0 ++ B1⟩ fun p hp => List.mem_append_left _ hp,k1 ⟨B0 ++ B1⟩ fun p hp => List.mem_append_right _ hp⟩
  have hall : ∀ p ∈ B0 ++ B1,∃ e fz,W.heap[p.1]? = some (.cells p.2 e fz) := fun p hp => (List.mem_append.1 hp).elim (g0 p) (g1 p)
  intro b hb
  obtain ⟨p,hp,rfl⟩ := List.mem_map.1 hb
  obtain ⟨e,fz,h⟩ := hall p hp
  refine ⟨p.2,e,fz,h,fun q hq hqp => ?_⟩
  obtain ⟨e2,fz2,h2⟩ := hall q hq
  rw [hqp,h] at h2
  injection h2 with h2
  injection h2 with h3
  exact h3.symm
end Go.Am
namespace Go.Proofs.YtngfogpbljconaaGreatDoor
open Go.ChangeShapes Go.WideShapes Go.ChangeAt Go.RowKit
theorem factMayEnter : Tryz.checked.prog.mayEnter = true := by kernel_rfl
end Go.Proofs.YtngfogpbljconaaGreatDoor
namespace Go.Proofs.YtngfogpbljconaaGreatDoor
open Go.ChangeShapes Go.WideShapes Go.ChangeAt Go.RowKit
theorem factLifts : Tryz.checked.prog.liftsFinal = false := by kernel_rfl
end Go.Proofs.YtngfogpbljconaaGreatDoor
namespace Go.Proofs.YtngfogpbljconaaGreatDoor
open Go.ChangeShapes Go.WideShapes Go.ChangeAt Go.RowKit
theorem factMake : Tryz.checked.prog.make = some (OpenClaim.make { program := "", sum := "", func := "", spec := "" }) := by kernel_rfl
end Go.Proofs.YtngfogpbljconaaGreatDoor
namespace Go.Proofs.YtngfogpbljconaaGreatDoor
open Go.ChangeShapes Go.WideShapes Go.ChangeAt Go.RowKit
theorem door_met (os : Os) (args : Array Value) : laidMetH Tryz.prog Rows.fnBoardsCountedRow.laid ((World.laidAll Tryz.prog os Rows.fnBoardsCountedRow.laid).forCall (fun _ _ => 0) ⟨#[],args,[]⟩).memory := by
  rw [MakeChecks.laidMetH_plain _ _ _ (by kernel_rfl)]
  exact laidMet_laidAll _ (by kernel_rfl) (by kernel_rfl)
theorem door_shaped (os : Os) (args : Array Value) : World.Shaped Tryz.prog ((World.laidAll Tryz.prog os Rows.fnBoardsCountedRow.laid).forCall (fun _ _ => 0) ⟨#[],args,[]⟩) := World.shaped_of_ZipB (by kernel_rfl) (by kernel_rfl)
end Go.Proofs.YtngfogpbljconaaGreatDoor
