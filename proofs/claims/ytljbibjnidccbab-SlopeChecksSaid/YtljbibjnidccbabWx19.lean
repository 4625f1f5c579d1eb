/- Contracts by what is to be shown of each step: a part of the engine. -/
import Derived.Test.YtljbibjnidccbabWx18
import Derived.OpenShut
import Derived.ChangeOld
set_option linter.unusedVariables false
set_option linter.unusedSectionVars false
set_option linter.unusedSimpArgs false
namespace Go.Rx
open Go.RowKit Go.ChangeShapes
noncomputable section

/-! Arguments of any plain type: integers, flags, texts, slices, arrays and structs of such, as trees. -/

inductive Tr where
 | num (n:Int)
 | bit (b:Bool)
 | str (s:ByteArray)
 | sl (n:Nat) (cs:List Tr)
 | ag (cs:List Tr)

inductive TOk (W:World):Value→Tr→Prop
 | num (n:Int):TOk W (int n) (.num n)
 | bit (b:Bool):TOk W (.bool b) (.bit b)
 | str (s:ByteArray):TOk W (.string s) (.str s)
 | nil:TOk W (.slice none 0 0) (.sl 0 [])
 | void (a:Addr) (c:Nat):TOk W (.slice (some a) 0 c) (.sl 0 [])
 | row (b o n c:Nat) (vs:List Value) (cs:List Tr) (hb:b < W.heap.size) (hc:n≤c) (hl:vs.length = cs.length) (h:∀ (k:Nat) v,vs[k]? = some v→W.cell? ⟨b,o + k,none⟩ = some v)
   (ht:∀ (k:Nat) v t,vs[k]? = some v→cs[k]? = some t→TOk W v t):TOk W (.slice (some ⟨b,o,none⟩) n c) (.sl n cs)
 | ag (vs:List Value) (cs:List Tr) (hl:vs.length = cs.length) (ht:∀ (k:Nat) v t,vs[k]? = some v→cs[k]? = some t→TOk W v t):TOk W (.agg ⟨vs⟩) (.ag cs)

inductive AbsT (h:Hp):Value→Tr→Prop
 | num (n:Int):AbsT h (int n) (.num n)
 | bit (b:Bool):AbsT h (.bool b) (.bit b)
 | str (s:ByteArray):AbsT h (.string s) (.str s)
 | nil:AbsT h (.slice none 0 0) (.sl 0 [])
 | void:AbsT h (.slice (some ⟨0,0,some 2⟩) 0 0) (.sl 0 [])
 | row (r n:Nat) (vs:List Value) (cs:List Tr) (hr:h.at r = some (.lent vs)) (hl:vs.length = cs.length)
   (ht:∀ (k:Nat) v t,vs[k]? = some v→cs[k]? = some t→AbsT h v t):AbsT h (slc r 0 n n) (.sl n cs)
 | ag (vs:List Value) (cs:List Tr) (hl:vs.length = cs.length) (ht:∀ (k:Nat) v t,vs[k]? = some v→cs[k]? = some t→AbsT h v t):AbsT h (.agg ⟨vs⟩) (.ag cs)

theorem AbsT.ext {h h':Hp} (g:Grows h h') {v:Value} {t:Tr} (k:AbsT h v t):AbsT h' v t:=by
 induction k with
 | num n=>exact .num n
 | bit b=>exact .bit b
 | str s=>exact .str s
 | nil=>exact .nil
 | void=>exact .void
 | row r n vs cs hr hl _ ih=>exact .row r n vs cs (g.at_ _ _ hr) hl ih
 | ag vs cs hl _ ih=>exact .ag vs cs hl ih

def AllT (h:Hp):List Value→List Tr→Prop
 | [],[]=>True
 | v :: vs,t :: ts=>AbsT h v t∧AllT h vs ts
 | _,_=>False
def AllOk (W:World):List Value→List Tr→Prop
 | [],[]=>True
 | v :: vs,t :: ts=>TOk W v t∧AllOk W vs ts
 | _,_=>False
theorem AllT.ext {h h':Hp} (g:Grows h h'):∀ {vs:List Value} {ts:List Tr},AllT h vs ts→AllT h' vs ts
 | [],[],_=>trivial
 | _ :: _,_ :: _,⟨a,b⟩=>⟨a.ext g,b.ext g⟩
 | [],_ :: _,h=>h.elim
 | _ :: _,[],h=>h.elim
theorem AllT.get {h:Hp}:∀ {vs:List Value} {ts:List Tr},AllT h vs ts→vs.length = ts.length∧∀ (k:Nat) v t,vs[k]? = some v→ts[k]? = some t→AbsT h v t
 | [],[],_=>⟨rfl,fun k v t hv=>by simp at hv⟩
 | v :: vs,t :: ts,⟨a,b⟩=>by
  obtain ⟨h1,h2⟩:=AllT.get b
  refine ⟨by simp [h1],fun k v' t' hv ht=>?_⟩
  cases k with
  | zero=>simp at hv ht; subst hv; subst ht; exact a
  | succ k=>simp at hv ht; exact h2 k v' t' hv ht
 | [],_ :: _,h=>h.elim
 | _ :: _,[],h=>h.elim

theorem AllOk.get {W:World}:∀ {vs:List Value} {ts:List Tr},AllOk W vs ts→vs.length = ts.length∧∀ (k:Nat) v t,vs[k]? = some v→ts[k]? = some t→TOk W v t
 | [],[],_=>⟨rfl,fun k v t hv=>by simp at hv⟩
 | v :: vs,t :: ts,⟨a,b⟩=>by
  obtain ⟨h1,h2⟩:=AllOk.get b
  refine ⟨by simp [h1],fun k v' t' hv ht=>?_⟩
  cases k with
  | zero=>simp at hv ht; subst hv; subst ht; exact a
  | succ k=>simp at hv ht; exact h2 k v' t' hv ht
 | [],_ :: _,h=>h.elim
 | _ :: _,[],h=>h.elim

theorem lentHp_next (objs:List (List Value)):(lentHp objs).next = objs.length:=rfl
theorem lentHp_at {objs:List (List Value)} {r:Nat} {l:List Value} (h:objs[r]? = some l):(lentHp objs).at r = some (.lent l):=by
 have hr:=(List.getElem?_eq_some_iff.1 h).1
 unfold Hp.at lentHp
 dsimp only
 rw [if_pos hr,h]
 rfl
theorem lentHp_grows (objs more:List (List Value)):Grows (lentHp objs) (lentHp (objs ++ more)) where
 next:=by rw [lentHp_next,lentHp_next,List.length_append]; omega
 at_:=by
  intro r o h
  have hr:=Hp.lt_of_at h
  rw [lentHp_next] at hr
  have h1:objs[r]? = some objs[r]:=List.getElem?_eq_getElem hr
  rw [lentHp_at h1] at h
  rw [lentHp_at (l:=objs[r]) (by rw [List.getElem?_append_left hr]; exact h1)]
  exact h

section
variable [Unknowns]
def More (W:World) (objs:List (List Value)) (π:Places) (v:Value) (t:Tr):Prop :=
 ∃ (more:List (List Value)) (π':Places) (a:Value),LentAt (objs ++ more) π' W∧π.le π'∧VRel π' a v∧AbsT (lentHp (objs ++ more)) a t

theorem more_list {W:World}:∀ (vs:List Value) (cs:List Tr),vs.length = cs.length→(∀ (k:Nat) v t,vs[k]? = some v→cs[k]? = some t→∀ objs π,LentAt objs π W→More W objs π v t)→∀ objs π,LentAt objs π W →
  ∃ (more:List (List Value)) (π':Places) (as:List Value),LentAt (objs ++ more) π' W∧π.le π'∧LRel π' as vs∧AllT (lentHp (objs ++ more)) as cs
 | [],[],_,_,objs,π,hl=>⟨[],π,[],by rw [List.append_nil]; exact hl,Places.le_refl _,LRel.nil _,trivial⟩
 | v :: vs,t :: cs,hlen,ih,objs,π,hl=>by
  obtain ⟨m1,π1,a,h1,h2,h3,h4⟩:=ih 0 v t rfl rfl objs π hl
  obtain ⟨m2,π2,as,g1,g2,g3,g4⟩:=more_list vs cs (by simpa using hlen) (fun k v' t' hv ht=>ih (k + 1) v' t' hv ht) _ _ h1
  rw [List.append_assoc] at g1 g4
  refine ⟨m1 ++ m2,π2,a :: as,g1,Places.le_trans h2 g2,LRel.cons (h3.mono g2) g3,?_,g4⟩
  have:=h4.ext (lentHp_grows _ m2)
  rw [List.append_assoc] at this
  exact this
 | [],_ :: _,h,_,_,_,_=>by simp at h
 | _ :: _,[],h,_,_,_,_=>by simp at h

theorem TOk.more {W:World} {v:Value} {t:Tr} (k:TOk W v t):∀ objs π,LentAt objs π W→More W objs π v t:=by
 have keep:∀ {objs:List (List Value)} {π:Places} {v a:Value} {t:Tr},LentAt objs π W→VRel π a v→AbsT (lentHp objs) a t→More W objs π v t:=by
  intro objs π v a t hl hv ha
  exact ⟨[],π,a,by rw [List.append_nil]; exact hl,Places.le_refl _,hv,by rw [List.append_nil]; exact ha⟩
 induction k with
 | num n=>intro objs π hl; exact keep hl (.int _ _) (.num n)
 | bit b=>intro objs π hl; exact keep hl (.bool _) (.bit b)
 | str s=>intro objs π hl; exact keep hl (.string _) (.str s)
 | nil=>intro objs π hl; exact keep hl (.sliceNil _ _) .nil
 | void a c=>intro objs π hl; exact keep hl (.void _ _) .void
 | row b o n c vs cs hb hc hlen hcell _ ih =>
  intro objs π hl
  obtain ⟨m,π1,as,h1,h2,h3,h4⟩:=more_list vs cs hlen ih objs π hl
  have hnone:π1 (objs ++ m).length = none:=by
   cases hp:π1 (objs ++ m).length with
   | none=>rfl
   | some i=>have:=h1.lt _ _ hp; omega
  have hle:=Places.le_upd (π:=π1) ⟨b,o,c - n⟩ hnone
  have hidx:(objs ++ (m ++ [as]))[(objs ++ m).length]? = some as:=by
   rw [← List.append_assoc,List.getElem?_append_right (by omega)]; simp
  refine ⟨m ++ [as],π1.upd (objs ++ m).length ⟨b,o,c - n⟩,slc (objs ++ m).length 0 n n,⟨?_,?_,?_⟩,Places.le_trans h2 hle,?_,?_⟩
  ·intro r i hr
   rw [← List.append_assoc,List.length_append (as:=objs ++ m)]
   by_cases e:r = (objs ++ m).length
   ·subst e; simp
   ·rw [Places.upd_other _ e] at hr
    have:=h1.lt _ _ hr
    omega
  ·intro r i hr
   by_cases e:r = (objs ++ m).length
   ·subst e; rw [Places.upd_same] at hr; cases hr; exact hb
   ·rw [Places.upd_other _ e] at hr
    exact h1.blk _ _ hr
  ·intro r i l hr hl2 k v hk
   by_cases e:r = (objs ++ m).length
   ·subst e
    rw [Places.upd_same] at hr
    cases hr
    rw [hidx] at hl2
    cases hl2
    obtain ⟨v',hv',hrel⟩:=h3.at hk
    exact ⟨v',hcell k v' hv',hrel.mono hle⟩
   ·rw [Places.upd_other _ e] at hr
    have hlt:=h1.lt _ _ hr
    rw [← List.append_assoc,List.getElem?_append_left (by omega)] at hl2
    obtain ⟨v',q1,q2⟩:=h1.cells r i l hr hl2 k v hk
    exact ⟨v',q1,q2.mono hle⟩
  ·have h5:=@VRel.slice _ (π1.upd (objs ++ m).length ⟨b,o,c - n⟩) (objs ++ m).length 0 n n _ (Places.upd_same _ _)
   have e2:n + (c - n) = c:=by omega
   dsimp only at h5
   rw [e2] at h5
   exact h5
  ·have h6:=(h4.ext (lentHp_grows _ [as])).get
   rw [List.append_assoc] at h6
   exact .row _ n as cs (lentHp_at hidx) h6.1 h6.2
 | ag vs cs hlen _ ih =>
  intro objs π hl
  obtain ⟨m,π1,as,h1,h2,h3,h4⟩:=more_list vs cs hlen ih objs π hl
  exact ⟨m,π1,.agg ⟨as⟩,h1,h2,VRel.aggL h3,.ag as cs h4.get.1 h4.get.2⟩

theorem calls_trees {E:Env} {P:Program} (hE:Ok E P) (hm:P.follows .mixedOrders = true) (hM:OkM E P) {f:FuncId} {vs:List Value} {ts:List Tr} {W:World} (hok:AllOk W vs ts)
  (c:∀ h as,AllT h as ts→CallP E f as h fun r _=>r = .bool true):Calls P f ⟨vs⟩ W fun e w'=>e = .returned (.bool true)∧Below W.heap.size W w':=by
 obtain ⟨h1,h2⟩:=hok.get
 obtain ⟨m,π,as,g1,-,g3,g4⟩:=more_list vs ts h1 (fun k v t hv ht=>(h2 k v t hv ht).more) [] (fun _=>none) (lent_none W)
 exact calls_true hE hm hM (c _ _ g4) g1 g3
end

/-! From how an argument is read to its tree. -/

inductive TyT (P:Program):TypeId→List Tr→Prop
 | num {t:TypeId} {n:Int} (ht:P.underlying t = some (.int .i64)) (w:(Lit.int .i64 n).wf = true):TyT P t [.num n]
 | bit {t:TypeId} (b:Bool) (ht:P.underlying t = some .bool):TyT P t [.bit b]
 | str {t:TypeId} (s:ByteArray) (ht:P.underlying t = some .string) (w:s.size≤maxLen):TyT P t [.str s]
 | sl {t e:TypeId} {n:Nat} {cs:List Tr} (ht:P.underlying t = some (.slice e)) (hm:n≤maxLen) (hl:cs.length = n * P.cellsOf e) (h:∀ i,i < n→TyT P e ((cs.drop (i * P.cellsOf e)).take (P.cellsOf e))):TyT P t [.sl n cs]
 | arr {t e:TypeId} {n:Nat} {cs:List Tr} (ht:P.underlying t = some (.array n e)) (hl:cs.length = P.cellsOf t) (h:∀ i,i < n→TyT P e ((cs.drop (i * P.cellsOf e)).take (P.cellsOf e))):TyT P t cs
 | struct {t:TypeId} {fs:Array Field} {cs:List Tr} (ht:P.underlying t = some (.struct fs)) (hl:cs.length = P.cellsOf t) (h:∀ (i:Nat) (f:Field),fs[i]? = some f→TyT P f.type ((cs.drop f.offset).take (P.cellsOf f.type))):TyT P t cs

def plainTy (P:Program) (L:List TypeId) (t:TypeId):Bool:=match P.underlying t with
 | some .bool=>true
 | some (.int .i64)=>true
 | some .string=>true
 | some (.slice e)=>L.contains e && Nat.blt 0 (P.cellsOf e)
 | some (.array n e)=>L.contains e && Nat.blt 0 (P.cellsOf e) && Nat.beq (P.cellsOf t) (n * P.cellsOf e)
 | some (.struct fs)=>fs.toList.all (fun f=>L.contains f.type) && tiles P 0 (fs.toList.map fun f=>(f.offset,f.type)) (P.cellsOf t)
 | _=>false
where tiles (P:Program):Nat→List (Nat×TypeId)→Nat→Bool
 | o,[],m=>Nat.beq o m
 | o,(k,t) :: l,m=>Nat.beq o k && tiles P (o + P.cellsOf t) l m
def plainTys (P:Program) (L:List TypeId):Bool:=L.all (plainTy P L)
end
end Go.Rx
