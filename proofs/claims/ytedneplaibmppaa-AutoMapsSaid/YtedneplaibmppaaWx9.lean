/- A part of the engine. -/
import Derived.Test.YtedneplaibmppaaWx8
set_option linter.unusedVariables false
set_option linter.unusedSectionVars false
set_option linter.unusedSimpArgs false
namespace Go.Rx
/-! Memory: what is laid, what is stored, what stays. -/
theorem Hp.Zf {a b:Hp}(h:a.next = b.next)(k:∀ r,a.raw r = b.raw r):a = b:=by
 cases a; cases b; simp at h k; subst h; congr; funext r; exact k r
theorem Hp.L8 (h:Hp)(o o':Obj):(h.lay o).set h.next o' = h.lay o':=by
 refine Hp.Zf rfl fun r=>?_;show (if r = h.next then some o' else if r = h.next then some o else h.raw r) = if r = h.next then some o' else h.raw r
 split <;> rfl
theorem bA {h:Hp}{r o:Nat}{e:TypeId}{x:Bool}{cs:List Value}{v:Value}(hr:h.at r = some (.row e x cs))(hv:cs[o]? = some v):cellAt h r o = some v:=by
 unfold cellAt; rw [hr]; exact hv
theorem wN {h h':Hp}{r o:Nat}{v:Value}(hh:∀ ob,h.at r = some ob→h'.at r = some ob)(hv:cellAt h r o = some v):cellAt h' r o = some v:=by
 unfold cellAt at hv ⊢
 cases hr:h.at r with
 | none=>rw [hr] at hv; cases hv
 | some ob=>rw [hr] at hv; rw [hh ob hr]; exact hv
theorem Ju {h h':Hp}{r o m:Nat}{v:List Value}(hh:∀ ob,h.at r = some ob→h'.at r = some ob)(hv:bJ h r o m = some v):bJ h' r o m = some v:=by
 unfold bJ at hv ⊢
 cases hr:h.at r with
 | none=>rw [hr] at hv; cases hv
 | some ob=>rw [hr] at hv; rw [hh ob hr]; exact hv
theorem iq {h:Hp}{r o m:Nat}{e:TypeId}{x:Bool}{cs:List Value}(hr:h.at r = some (.row e x cs))(hl:o + m≤cs.length):bJ h r o m = some ((cs.drop o).take m):=by
 unfold bJ; rw [hr]; unfold cellsIn; dsimp only; rw [if_pos hl]
theorem dQ {h:Hp}{r o:Nat}{e:TypeId}{x:Bool}{cs:List Value}{v:Value}(hr:h.at r = some (.row e x cs))(ho:o < cs.length)(h1:oneCell v = true):storeAt h r o [v] = some (h.set r (.row e x (cs.set o v))):=by
 unfold storeAt;rw [hr];dsimp only;rw [if_pos ⟨by simp; omega,by simp [h1]⟩];rfl
structure aA (h h':Hp):Prop where
 next:h.next≤h'.next
 at_:∀ r o,h.at r = some o→h'.at r = some o
theorem aA.refl (h:Hp):aA h h:=⟨Nat.le_refl _,fun _ _ e=>e⟩
theorem aA.trans {a b c:Hp}(x:aA a b)(y:aA b c):aA a c:=⟨Nat.le_trans x.next y.next,fun r o e=>y.at_ r o (x.at_ r o e)⟩
theorem aA.lay (h:Hp)(o:Obj):aA h (h.lay o):=⟨Nat.le_succ _,fun r o' e=>Hp.bg o e⟩
theorem aA.bH {h h':Hp}(x:aA h h')(o:Obj):aA h (h'.lay o):=x.trans (aA.lay _ _)
theorem aA.bQ {h h':Hp}(x:aA h h'){r:Nat}(o:Obj)(hr:h.next≤r):aA h (h'.set r o):=⟨x.next,fun k o' e=>by
 have l:=Hp.aU e;rw [Hp.cu o (by omega)];exact x.at_ k o' e⟩
theorem aA.cell {h h':Hp}(x:aA h h'){r o:Nat}{v:Value}(hv:cellAt h r o = some v):cellAt h' r o = some v:=wN (x.at_ r) hv
theorem aA.cells {h h':Hp}(x:aA h h'){r o m:Nat}{v:List Value}(hv:bJ h r o m = some v):bJ h' r o m = some v:=Ju (x.at_ r) hv
theorem Ints.ext {h h':Hp}(x:aA h h'){v:Value}{l:List Int}(hi:Ints h v l):Ints h' v l:=by
 obtain ⟨a,c,rfl,hc⟩:=hi;exact ⟨a,c,rfl,fun k hk=>let ⟨r,o,sp,e,hs,hv⟩:=hc k hk; ⟨r,o,sp,e,hs,x.cell hv⟩⟩
def aa1 (n:Nat)(f:Nat→Int):List Value:=(List.range n).map fun k=>int (f k)
theorem QT (z:Int)(n:Nat):times [int z] n = aa1 n fun _=>z:=by
 have e:∀ n,times [int z] n = List.replicate n (int z):=by
  intro n
  induction n with
  | zero=>rfl
  | succ n ih=>show [int z] ++ times [int z] n = _; rw [ih]; rfl
 rw [e];unfold aa1;apply List.ext_getElem?;intro i;by_cases hi:i < n
 ·simp [hi]
 ·simp [hi]
theorem QU (n:Int):∃ r,0≤r∧r < 18446744073709551616∧dz .u64 n r:=by
 refine ⟨jW .u64 n,?_,?_,rfl⟩ <;> unfold jW IntKind.wrap <;> simp [IntKind.signed,IntKind.bits] <;> omega
theorem aa2 {n:Int}(h:0≤n∧n < 18446744073709551616):dz .u64 n n:=by
 unfold dz jW IntKind.wrap;simp [IntKind.signed,IntKind.bits];omega
theorem L9 {r d:Int}(h0:0≤r)(hd:0 < d):0≤r.tmod d∧r.tmod d < d :=
 ⟨Int.tmod_nonneg d h0,Int.tmod_lt_of_pos r hd⟩
end Go.Rx
