/- Contracts by what is to be shown of each step: a part of the engine. -/
import Derived.Test.YtljbibjnidccbabWx8
set_option linter.unusedVariables false
set_option linter.unusedSectionVars false
set_option linter.unusedSimpArgs false
namespace Go.Rx

/-! Memory: what is laid, what is stored, what stays. -/

theorem Hp.ext_raw {a b:Hp} (h:a.next = b.next) (k:∀ r,a.raw r = b.raw r):a = b:=by
 cases a; cases b; simp at h k; subst h; congr; funext r; exact k r

theorem Hp.set_lay_self (h:Hp) (o o':Obj):(h.lay o).set h.next o' = h.lay o':=by
 refine Hp.ext_raw rfl fun r=>?_
 show (if r = h.next then some o' else if r = h.next then some o else h.raw r) = if r = h.next then some o' else h.raw r
 split <;> rfl
theorem cellAt_row {h:Hp} {r o:Nat} {e:TypeId} {x:Bool} {cs:List Value} {v:Value} (hr:h.at r = some (.row e x cs)) (hv:cs[o]? = some v):cellAt h r o = some v:=by
 unfold cellAt; rw [hr]; exact hv
theorem cellAt_congr {h h':Hp} {r o:Nat} {v:Value} (hh:∀ ob,h.at r = some ob→h'.at r = some ob) (hv:cellAt h r o = some v):cellAt h' r o = some v:=by
 unfold cellAt at hv ⊢
 cases hr:h.at r with
 | none=>rw [hr] at hv; cases hv
 | some ob=>rw [hr] at hv; rw [hh ob hr]; exact hv
theorem cellsAt_congr {h h':Hp} {r o m:Nat} {v:List Value} (hh:∀ ob,h.at r = some ob→h'.at r = some ob) (hv:cellsAt h r o m = some v):cellsAt h' r o m = some v:=by
 unfold cellsAt at hv ⊢
 cases hr:h.at r with
 | none=>rw [hr] at hv; cases hv
 | some ob=>rw [hr] at hv; rw [hh ob hr]; exact hv
theorem cellsAt_row {h:Hp} {r o m:Nat} {e:TypeId} {x:Bool} {cs:List Value} (hr:h.at r = some (.row e x cs)) (hl:o + m≤cs.length):cellsAt h r o m = some ((cs.drop o).take m):=by
 unfold cellsAt; rw [hr]; unfold cellsIn; dsimp only; rw [if_pos hl]

theorem storeAt_row {h:Hp} {r o:Nat} {e:TypeId} {x:Bool} {cs:List Value} {v:Value} (hr:h.at r = some (.row e x cs)) (ho:o < cs.length) (h1:oneCell v = true):storeAt h r o [v] = some (h.set r (.row e x (cs.set o v))):=by
 unfold storeAt
 rw [hr]
 dsimp only
 rw [if_pos ⟨by simp; omega,by simp [h1]⟩]
 rfl
structure Grows (h h':Hp):Prop where
 next:h.next≤h'.next
 at_:∀ r o,h.at r = some o→h'.at r = some o
theorem Grows.refl (h:Hp):Grows h h:=⟨Nat.le_refl _,fun _ _ e=>e⟩
theorem Grows.trans {a b c:Hp} (x:Grows a b) (y:Grows b c):Grows a c:=⟨Nat.le_trans x.next y.next,fun r o e=>y.at_ r o (x.at_ r o e)⟩
theorem Grows.lay (h:Hp) (o:Obj):Grows h (h.lay o):=⟨Nat.le_succ _,fun r o' e=>Hp.at_lay_old o e⟩
theorem Grows.then_lay {h h':Hp} (x:Grows h h') (o:Obj):Grows h (h'.lay o):=x.trans (Grows.lay _ _)
theorem Grows.then_set {h h':Hp} (x:Grows h h') {r:Nat} (o:Obj) (hr:h.next≤r):Grows h (h'.set r o):=⟨x.next,fun k o' e=>by
 have l:=Hp.lt_of_at e
 rw [Hp.at_set_ne o (by omega)]
 exact x.at_ k o' e⟩
theorem Grows.cell {h h':Hp} (x:Grows h h') {r o:Nat} {v:Value} (hv:cellAt h r o = some v):cellAt h' r o = some v:=cellAt_congr (x.at_ r) hv
theorem Grows.cells {h h':Hp} (x:Grows h h') {r o m:Nat} {v:List Value} (hv:cellsAt h r o m = some v):cellsAt h' r o m = some v:=cellsAt_congr (x.at_ r) hv
theorem Ints.ext {h h':Hp} (x:Grows h h') {v:Value} {l:List Int} (hi:Ints h v l):Ints h' v l:=by
 obtain ⟨a,c,rfl,hc⟩:=hi
 exact ⟨a,c,rfl,fun k hk=>let ⟨r,o,sp,e,hs,hv⟩:=hc k hk; ⟨r,o,sp,e,hs,x.cell hv⟩⟩

theorem u64_id {n:Int} (h:0≤n∧n < 18446744073709551616):IsWrap .u64 n n:=by
 unfold IsWrap wrapI IntKind.wrap
 simp [IntKind.signed,IntKind.bits]
 omega
end Go.Rx
