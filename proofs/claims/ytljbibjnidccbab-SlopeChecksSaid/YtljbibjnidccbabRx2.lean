/- What each operation of the run comes to is what the model does. -/
import Derived.Test.YtljbibjnidccbabRx1
import Derived.Wp
import Derived.Below
import Derived.OrdersIn
import Derived.Laws.CopyRow
import Derived.Laws.Cells
import Derived.IntWalk
import Derived.Laws.AppendOwn
set_option linter.unusedVariables false
set_option linter.unusedSectionVars false
set_option linter.unusedSimpArgs false
namespace Go.Rx
open Go.RowKit

structure Info where
 block:Nat
 delta:Nat
 extra:Nat

abbrev Places:=Nat→Option Info
def Places.le (π π':Places):Prop:=∀ r i,π r = some i→π' r = some i
theorem Places.le_refl (π:Places):π.le π:=fun _ _ h=>h
theorem Places.le_trans {a b c:Places} (h:a.le b) (k:b.le c):a.le c:=fun r i hr=>k r i (h r i hr)

def plainFn:Fn→Bool
 | .yield _=>false
 | _=>true

class Unknowns where
 val:Nat→Value
 plain:∀ k b,val k≠.bool b

variable [Unknowns]

inductive VRel (π:Places):Value→Value→Prop
 | junk (v:Value) (h:∀ b,v≠.bool b):VRel π Rx.junk v
 | unk (k:Nat):VRel π (.chan (some (k + 1))) (Unknowns.val k)
 | bool (b:Bool):VRel π (.bool b) (.bool b)
 | int (k:IntKind) (n:Int):VRel π (.int k n) (.int k n)
 | float (k:FloatKind) (n:Nat):VRel π (.float k n) (.float k n)
 | complex (k:FloatKind) (n m:Nat):VRel π (.complex k n m) (.complex k n m)
 | string (s:ByteArray):VRel π (.string s) (.string s)
 | ptrNil:VRel π (.pointer none) (.pointer none)
 | ptr {r o:Nat} {i:Info} (h:π r = some i):VRel π (.pointer (some ⟨r,o,none⟩)) (.pointer (some ⟨i.block,i.delta + o,none⟩))
 | glob (g:Nat):VRel π (.pointer (some ⟨g,0,some 0⟩)) (.pointer (some ⟨g,0,none⟩))
 | sliceNil (l c:Nat):VRel π (.slice none l c) (.slice none l c)
 | slice {r o l c:Nat} {i:Info} (h:π r = some i):VRel π (.slice (some ⟨r,o,none⟩) l c) (.slice (some ⟨i.block,i.delta + o,none⟩) l (c + i.extra))
 | lim {r o l c:Nat} {i:Info} (h:π r = some i):VRel π (.slice (some ⟨r,o,some 1⟩) l c) (.slice (some ⟨i.block,i.delta + o,none⟩) l c)
 | void (a:Addr) (c:Nat):VRel π (.slice (some ⟨0,0,some 2⟩) 0 0) (.slice (some a) 0 c)
 | mapNil:VRel π (.map none) (.map none)
 | map {r:Nat} {i:Info} (h:π r = some i):VRel π (.map (some r)) (.map (some i.block))
 | nilFunc:VRel π .nilFunc .nilFunc
 | nilIface:VRel π .nilIface .nilIface
 | func {fn:Fn} {a a' b b':Array Value} (hf:plainFn fn = true) (ha:a.size = a'.size) (ha':∀ (i:Nat) (x x':Value),a.toList[i]? = some x→a'.toList[i]? = some x'→VRel π x x')
   (hb:b.size = b'.size) (hb':∀ (i:Nat) (x x':Value),b.toList[i]? = some x→b'.toList[i]? = some x'→VRel π x x'):VRel π (.func fn a b) (.func fn a' b')
 | yield {l:Nat} {i:Info} (h:π l = some i):VRel π (.func (.yield l) #[] #[]) (.func (.yield i.block) #[] #[])
 | iface {t:TypeId} {v v':Value} (h:VRel π v v'):VRel π (.iface t v) (.iface t v')
 | agg {a a':Array Value} (ha:a.size = a'.size) (ha':∀ (i:Nat) (x x':Value),a.toList[i]? = some x→a'.toList[i]? = some x'→VRel π x x'):VRel π (.agg a) (.agg a')
 | tuple {a a':Array Value} (ha:a.size = a'.size) (ha':∀ (i:Nat) (x x':Value),a.toList[i]? = some x→a'.toList[i]? = some x'→VRel π x x'):VRel π (.tuple a) (.tuple a')

theorem VRel.mono {π π':Places} (h:π.le π') {v v':Value} (hv:VRel π v v'):VRel π' v v':=by
 induction hv with
 | ptr hr=>exact .ptr (h _ _ hr)
 | slice hr=>exact .slice (h _ _ hr)
 | lim hr=>exact .lim (h _ _ hr)
 | map hr=>exact .map (h _ _ hr)
 | yield hr=>exact .yield (h _ _ hr)
 | func hf ha _ hb _ iha ihb=>exact .func hf ha iha hb ihb
 | iface _ ih=>exact .iface ih
 | agg ha _ ih=>exact .agg ha ih
 | tuple ha _ ih=>exact .tuple ha ih
 | junk v h=>exact .junk v h
 | _=>constructor

def LRel (π:Places) (l l':List Value):Prop:=l.length = l'.length∧∀ (i:Nat) (x x':Value),l[i]? = some x→l'[i]? = some x'→VRel π x x'

theorem LRel.mono {π π':Places} (h:π.le π') {l l':List Value} (hl:LRel π l l'):LRel π' l l':=⟨hl.1,fun i x x' a b=>(hl.2 i x x' a b).mono h⟩
theorem LRel.nil (π:Places):LRel π [] []:=⟨rfl,fun _ _ _ h=>by simp at h⟩
theorem LRel.cons {π:Places} {v v':Value} {l l':List Value} (h:VRel π v v') (hl:LRel π l l'):LRel π (v :: l) (v' :: l') :=
 ⟨by simp [hl.1],fun i x x' a b=>by
  cases i with
  | zero=>simp at a b; subst a; subst b; exact h
  | succ i=>simp at a b; exact hl.2 i x x' a b⟩
theorem LRel.cons_inv {π:Places} {v:Value} {l l':List Value} (h:LRel π (v :: l) l'):∃ v' r',l' = v' :: r'∧VRel π v v'∧LRel π l r':=by
 obtain ⟨hl,hx⟩:=h
 cases l' with
 | nil=>simp at hl
 | cons v' r'=>exact ⟨v',r',rfl,hx 0 v v' rfl rfl,by simpa using hl,fun i x x' a b=>hx (i + 1) x x' (by simpa using a) (by simpa using b)⟩
theorem LRel.nil_inv {π:Places} {l':List Value} (h:LRel π [] l'):l' = []:=by
 have:=h.1; cases l' with
 | nil=>rfl
 | cons=>simp at this
theorem LRel.append {π:Places}:∀ {a a' b b':List Value},LRel π a a'→LRel π b b'→LRel π (a ++ b) (a' ++ b')
 | [],a',b,b',ha,hb=>by rw [ha.nil_inv]; simpa using hb
 | x :: a,a',b,b',ha,hb=>by
  obtain ⟨x',r',rfl,hx,hr⟩:=ha.cons_inv
  exact LRel.cons hx (LRel.append hr hb)
theorem LRel.at {π:Places} {l l':List Value} (h:LRel π l l') {i:Nat} {x:Value} (hx:l[i]? = some x):∃ x',l'[i]? = some x'∧VRel π x x':=by
 have hi:i < l'.length:=by rw [← h.1]; exact (List.getElem?_eq_some_iff.1 hx).1
 exact ⟨l'[i],List.getElem?_eq_getElem hi,h.2 i x _ hx (List.getElem?_eq_getElem hi)⟩
theorem LRel.drop {π:Places} {l l':List Value} (h:LRel π l l') (k:Nat):LRel π (l.drop k) (l'.drop k) :=
 ⟨by simp [h.1],fun i x x' a b=>h.2 (k + i) x x' (by rw [← List.getElem?_drop]; exact a) (by rw [← List.getElem?_drop]; exact b)⟩
theorem LRel.take {π:Places} {l l':List Value} (h:LRel π l l') (k:Nat):LRel π (l.take k) (l'.take k) :=
 ⟨by simp [h.1],fun i x x' a b=>by
  have ha:=List.getElem?_eq_some_iff.1 a
  have hi:i < k:=by have:=ha.1; simp at this; omega
  rw [List.getElem?_take_of_lt hi] at a b
  exact h.2 i x x' a b⟩
theorem LRel.arr {π:Places} {a a':Array Value}:LRel π a.toList a'.toList↔(a.size = a'.size∧∀ (i:Nat) (x x':Value),a.toList[i]? = some x→a'.toList[i]? = some x'→VRel π x x'):=by
 simp [LRel]
theorem VRel.aggL {π:Places} {l l':List Value} (h:LRel π l l'):VRel π (.agg ⟨l⟩) (.agg ⟨l'⟩):=.agg (by simpa using h.1) h.2
theorem VRel.tupleL {π:Places} {l l':List Value} (h:LRel π l l'):VRel π (.tuple ⟨l⟩) (.tuple ⟨l'⟩):=.tuple (by simpa using h.1) h.2
theorem VRel.undef (π:Places):VRel π Go.undef Go.undef:=VRel.tupleL (l:=[]) (l':=[]) (LRel.nil π)

theorem LRel.eq_of {π:Places} {l:List Value}:∀ {l':List Value},LRel π l l'→(∀ x ∈ l,∀ x',VRel π x x'→x' = x)→l' = l:=by
 induction l with
 | nil=>intro l' h _; exact h.nil_inv
 | cons x l ih =>
  intro l' h hx
  obtain ⟨x',r',rfl,h1,h2⟩:=h.cons_inv
  rw [hx x (by simp) x' h1,ih h2 (fun y hy=>hx y (by simp [hy]))]

theorem eq_of_isData {π:Places}:∀ (m:Nat) (v v':Value),isData m v = true→VRel π v v'→v' = v:=by
 intro m
 induction m with
 | zero =>
  intro v v' h hv
  cases hv <;> first | rfl | (simp [isData,Rx.junk] at h)
 | succ m ih =>
  intro v v' h hv
  cases hv with
  | agg ha ha' =>
   rename_i a a'
   simp only [isData,List.all_eq_true] at h
   have:a'.toList = a.toList:=LRel.eq_of (LRel.arr.2 ⟨ha,ha'⟩) (fun x hx x' hxx=>ih x x' (h x hx) hxx)
   cases a; cases a'; simp at this; subst this; rfl
  | _=>first | rfl | (simp [isData,Rx.junk] at h)

theorem VRel.oneCell' {π:Places} {v v':Value} (h:VRel π v v') (ho:Rx.oneCell v = true):v'.oneCell = true:=by cases h <;> first | rfl | (simp [Rx.oneCell,Rx.junk] at ho)

theorem VRel.cells {π:Places} {v v':Value} (h:VRel π v v') {l:List Value} (hl:cellsOf v = some l):LRel π l v'.cells.toList:=by
 cases h with
 | agg ha ha'=>simp [cellsOf] at hl; subst hl; exact LRel.arr.2 ⟨ha,ha'⟩
 | junk=>simp [cellsOf,Rx.junk] at hl
 | unk k=>simp [cellsOf] at hl
 | _=>simp [cellsOf] at hl; subst hl; exact LRel.cons (by constructor <;> assumption) (LRel.nil π)

theorem VRel.refl_of_isData {π:Places}:∀ (m:Nat) (v:Value),isData m v = true→VRel π v v:=by
 intro m
 induction m with
 | zero =>
  intro v h
  cases v with
  | pointer a=>cases a with
   | none=>exact .ptrNil
   | some _=>simp [isData] at h
  | slice a l c=>cases a with
   | none=>exact .sliceNil _ _
   | some _=>simp [isData] at h
  | map r=>cases r with
   | none=>exact .mapNil
   | some _=>simp [isData] at h
  | _=>first | (constructor; done) | (simp [isData] at h)
 | succ m ih =>
  intro v h
  cases v with
  | pointer a=>cases a with
   | none=>exact .ptrNil
   | some _=>simp [isData] at h
  | slice a l c=>cases a with
   | none=>exact .sliceNil _ _
   | some _=>simp [isData] at h
  | map r=>cases r with
   | none=>exact .mapNil
   | some _=>simp [isData] at h
  | agg cs =>
   simp only [isData,List.all_eq_true] at h
   exact .agg rfl (fun i x x' hx hx'=>by
    have e:x = x':=by rw [hx] at hx'; exact Option.some.inj hx'
    subst e
    exact ih x (h x (List.mem_of_getElem? hx)))
  | _=>first | (constructor; done) | (simp [isData] at h)

def TRel (π:Places) (ρ:T Value) (size:Nat) (tmps:Array Value):Prop :=
 tmps.size = size∧∀ t,VRel π (orUndef (ρ.get t)) (tmps.getD t Go.undef)

theorem TRel.mono {π π':Places} (h:π.le π') {ρ:T Value} {size:Nat} {tmps:Array Value} (ht:TRel π ρ size tmps):TRel π' ρ size tmps:=⟨ht.1,fun t=>(ht.2 t).mono h⟩

theorem TRel.put {π:Places} {ρ:T Value} {size:Nat} {tmps:Array Value} (ht:TRel π ρ size tmps) (d:Nat) {v v':Value} (hv:VRel π v v') :
  TRel π (putDst ρ size (some d) v) size (tmps.setIfInBounds d v'):=by
 refine ⟨by simp [ht.1],fun t=>?_⟩
 unfold putDst
 by_cases hd:d < size
 ·have:Nat.ble (Nat.succ d) size = true:=by simp [Nat.ble_eq]; omega
  simp only [this,T.get_put]
  by_cases e:t = d
  ·subst e
   simp only [if_true,orUndef,Array.getD_eq_getD_getElem?]
   rw [Array.getElem?_setIfInBounds_self_of_lt (by rw [ht.1]; exact hd)]
   exact hv
  ·simp only [e,if_false]
   have:=ht.2 t
   simp only [Array.getD_eq_getD_getElem?] at this ⊢
   rw [Array.getElem?_setIfInBounds_ne (by omega)]
   exact this
 ·have:Nat.ble (Nat.succ d) size = false:=by
   cases h:Nat.ble (Nat.succ d) size
   ·rfl
   ·have:=Nat.le_of_ble_eq_true h; omega
  simp only [this]
  have e:tmps.setIfInBounds d v' = tmps:=by
   apply Array.ext_getElem?; intro i
   by_cases hi:d = i
   ·subst hi; rw [Array.getElem?_eq_none (by simp [ht.1]; omega),Array.getElem?_eq_none (by rw [ht.1]; omega)]
   ·rw [Array.getElem?_setIfInBounds_ne hi]
  rw [e]; exact ht.2 t

theorem TRel.putDst {π:Places} {ρ:T Value} {size:Nat} {a:Act} (ht:TRel π ρ size a.tmps) (d:Option Tmp) {v v':Value} (hv:VRel π v v') :
  TRel π (Rx.putDst ρ size d v) size (a.put d v').tmps:=by
 cases d with
 | none=>exact ht
 | some d=>exact ht.put d hv

theorem VRel.const (π:Places) (v:Value):VRel π (constVal v) v:=by
 unfold constVal
 split
 ·exact .int _ _
 ·split
  ·rename_i h
   exact VRel.refl_of_isData 3 _ h
  ·rename_i h _ hd
   exact .junk _ (fun b e=>by subst e; simp [isData] at hd)

theorem TRel.eval {π:Places} {ρ:T Value} {size:Nat} {a:Act} (ht:TRel π ρ size a.tmps) (x:Operand):VRel π (Rx.eval ρ x) (a.eval x):=by
 cases x with
 | tmp t=>exact ht.2 t
 | const v=>exact VRel.const π v
 | global g=>exact .glob g
 | func f=>exact .func rfl rfl (fun _ _ _ h=>by simp at h) rfl (fun _ _ _ h=>by simp at h)

theorem TRel.evals {π:Places} {ρ:T Value} {size:Nat} {a:Act} (ht:TRel π ρ size a.tmps):∀ l:List Operand,LRel π (Rx.evals ρ l) (l.map a.eval)
 | []=>LRel.nil π
 | x :: l=>LRel.cons (ht.eval x) (TRel.evals ht l)

end Go.Rx

namespace Go.Rx
open Go.RowKit
variable [Unknowns]

structure Ok (E:Env) (P:Program):Prop where
 prog:E.prog = P
 ty:∀ t i,E.ty t = some i→∃ info,P.underlying t = some i.desc∧P.info? t = some info∧i.agg = isAggDesc i.desc∧i.size = info.size∧i.bytes = info.bytes∧(∀ z,i.zero = some z→info.zero = some z∧isData 3 z = true)
 fn:∀ f fn,E.fn.get f = some fn→P.funcs[f]? = some fn
 memo:∀ f args v,E.memo f args = some v→∀ (π:Places) (args':Array Value),LRel π args args'.toList→∃ v',VRel π v v'∧∀ w,Calls P f args' w fun e w'=>e = .returned v'∧Below w.heap.size w w'
 bin:∀ op t x y u v r,E.bin op u v = some r→∀ (π:Places) (u' v':Value),VRel π u u'→VRel π v v'→∃ r',VRel π r r'∧∀ w,(do eqGuard op t x y u' v'; Go.binOp op t u' v':Sem Value).run P w = .ok r' w
 conv:∀ src dst S D v r,P.underlying src = some S→P.underlying dst = some D→E.conv D v = some r→∀ (π:Places) (v':Value),VRel π v v'→∃ r',VRel π r r'∧∀ w,(Go.convert src dst v').run P w = .ok r' w

theorem tiOf_some {P:Program} {t:TypeId} {i:TI} (h:tiOf P t = some i):∃ info,P.underlying t = some i.desc∧P.info? t = some info∧i.agg = isAggDesc i.desc∧i.size = info.size∧i.bytes = info.bytes∧(∀ z,i.zero = some z→info.zero = some z∧isData 3 z = true):=by
 unfold tiOf at h
 cases hd:P.underlying t with
 | none=>simp [hd] at h
 | some d =>
  cases hi:P.info? t with
  | none=>simp [hd,hi] at h
  | some info =>
   simp only [hd,hi,Option.some.injEq] at h
   subst h
   refine ⟨info,rfl,rfl,rfl,rfl,rfl,fun z hz=>?_⟩
   simp only [dataOnly] at hz
   split at hz
   ·rename_i v hv
    split at hz
    ·rename_i hdv; cases hz; exact ⟨hv,hdv⟩
    ·cases hz
   ·cases hz

theorem Ok.of (P:Program) (memo:FuncId→List Value→Option Value) (bin:BinOp→Value→Value→Option Value) (conv:TypeDesc→Value→Option Value)
  (hm:∀ f args v,memo f args = some v→∀ (π:Places) (args':Array Value),LRel π args args'.toList→∃ v',VRel π v v'∧∀ w,Calls P f args' w fun e w'=>e = .returned v'∧Below w.heap.size w w')
  (hb:∀ op t x y u v r,bin op u v = some r→∀ (π:Places) (u' v':Value),VRel π u u'→VRel π v v'→∃ r',VRel π r r'∧∀ w,(do eqGuard op t x y u' v'; Go.binOp op t u' v':Sem Value).run P w = .ok r' w)
  (hc:∀ src dst S D v r,P.underlying src = some S→P.underlying dst = some D→conv D v = some r→∀ (π:Places) (v':Value),VRel π v v'→∃ r',VRel π r r'∧∀ w,(Go.convert src dst v').run P w = .ok r' w)
  {memoM:FuncId→List Value→Heap→Option (Value×Heap)}:Ok (Env.of P memo bin conv memoM) P where
 prog:=rfl
 ty:=by
  intro t i h
  unfold Env.ty Env.of at h
  simp only [T.get_ofList,T.get_empty,Nat.zero_le,true_and,Nat.zero_add,Nat.sub_zero] at h
  split at h
  ·rename_i r hr
   split at hr
   ·rw [List.getElem?_map] at hr
    cases hl:(List.range P.types.size)[t]? with
    | none=>simp [hl] at hr
    | some u =>
     have:u = t:=by
      have:=List.getElem?_eq_some_iff.1 hl
      obtain ⟨hlt,hu⟩:=this
      simp at hu; exact hu.symm
     subst this
     simp [hl] at hr
     subst hr
     exact tiOf_some h
   ·cases hr
  ·cases h
 fn:=by
  intro f fn h
  unfold Env.of at h
  simp only [T.get_ofList,T.get_empty,Nat.zero_le,true_and,Nat.zero_add,Nat.sub_zero] at h
  split at h
  ·rw [← Array.getElem?_toList]; exact h
  ·cases h
 memo:=hm
 bin:=hb
 conv:=hc

noncomputable def sizeT (E:Env) (t:TypeId):Nat:=match E.ty t with
 | some i=>i.size
 | none=>0

def ERel (π:Places) (e:Entry) (e':MapEntry):Prop:=VRel π e.1 e'.key∧VRel π e.2.1 e'.val∧e'.born = e.2.2
theorem ERel.mono {π π':Places} (h:π.le π') {e:Entry} {e':MapEntry} (he:ERel π e e'):ERel π' e e':=⟨he.1.mono h,he.2.1.mono h,he.2.2⟩

def ORel (E:Env) (π:Places) (o:AObj) (i:Info) (w:World):Prop:=match o with
 | .row e n x cs=>∃ c,w.heap[i.block]? = some (.cells c e (0,0))∧i.delta + n + i.extra * sizeT E e≤c.size∧(x = true→i.extra = 0) ∧
   ∀ k v,k < n→cs.get k = some v→∃ v',c[i.delta + k]? = some v'∧VRel π v v'
 | .map es c=>∃ es',w.heap[i.block]? = some (.map es' c)∧es'.size = es.length∧∀ (k:Nat) (e:Entry) (e':MapEntry),es[k]? = some e→es'.toList[k]? = some e'→ERel π e e'
 | .loop st p tm size params assign body d=>∃ fn tmps D,w.heap[i.block]? = some (.loop { state:=st,pending:=p,fn:=fn,tmps:=tmps,params:=params,assign:=assign,body:=body,defers:=D.block }) ∧
   π d = some D∧TRel π tm size tmps
 | .noDefers=>w.heap[i.block]? = some (.deferred (some []))
 | .iter s pos=>i.delta = 0∧w.heap[i.block]? = some (.stringIter s pos)
 | .lent n cs=>∀ k v,k < n→cs.get k = some v→∃ v',w.cell? ⟨i.block,i.delta + k,none⟩ = some v'∧VRel π v v'
 | .dead=>True

theorem ORel.mono {E:Env} {π π':Places} (h:π.le π') {o:AObj} {i:Info} {w:World} (ho:ORel E π o i w):ORel E π' o i w:=by
 cases o with
 | row e n x cs =>
  obtain ⟨c,h1,h2,h3,h4⟩:=ho
  exact ⟨c,h1,h2,h3,fun k v hk hv=>let ⟨v',a,b⟩:=h4 k v hk hv; ⟨v',a,b.mono h⟩⟩
 | map es c =>
  obtain ⟨es',h1,h2,h3⟩:=ho
  exact ⟨es',h1,h2,fun k e e' a b=>(h3 k e e' a b).mono h⟩
 | loop st p tm size params assign body d =>
  obtain ⟨fn,tmps,D,h1,h2,h3⟩:=ho
  exact ⟨fn,tmps,D,h1,h _ _ h2,h3.mono h⟩
 | noDefers=>exact ho
 | iter s pos=>exact ho
 | lent n cs=>exact fun k v hk hv=>let ⟨v',a,b⟩:=ho k v hk hv; ⟨v',a,b.mono h⟩
 | dead=>trivial

theorem ORel.congr {E:Env} {π:Places} {o:AObj} {i:Info} {w w':World} (h:w'.heap[i.block]? = w.heap[i.block]?) (ho:ORel E π o i w):ORel E π o i w':=by
 cases o with
 | row e n x cs=>obtain ⟨c,h1,h2⟩:=ho; exact ⟨c,h.trans h1,h2⟩
 | map es c=>obtain ⟨es',h1,h2⟩:=ho; exact ⟨es',h.trans h1,h2⟩
 | loop st p tm size params assign body d=>obtain ⟨fn,tmps,D,h1,h2⟩:=ho; exact ⟨fn,tmps,D,h.trans h1,h2⟩
 | noDefers=>exact h.trans ho
 | iter s pos=>exact ⟨ho.1,h.trans ho.2⟩
 | lent n cs =>
  intro k v hk hv
  obtain ⟨v',a,b⟩:=ho k v hk hv
  refine ⟨v',?_,b⟩
  rw [← a]; simp only [World.cell?,h]
 | dead=>trivial

def isLive:Option AObj→Bool
 | some .dead | none=>false
 | some (.lent _ _)=>false
 | _=>true

def isLent:Option AObj→Bool
 | some (.lent _ _)=>true
 | _=>false

structure Good (E:Env) (B:Nat) (w₀:World) (π:Places) (H:Heap) (w:World):Prop where
 objs:∀ r i o,π r = some i→H.objs.get r = some o→ORel E π o i w
 inj:∀ r s i j,π r = some i→π s = some j→isLive (H.objs.get r) = true→isLive (H.objs.get s) = true→i.block = j.block→r = s
 lt:∀ r i,π r = some i→r < H.next
 base:∀ r i,π r = some i→isLive (H.objs.get r) = true→B≤i.block
 low:∀ r i,π r = some i→isLent (H.objs.get r) = true→i.block < B
 blk:∀ r i,π r = some i→i.block < w.heap.size
 below:Below B w₀ w
 size:B≤w.heap.size

structure Ext (n:Nat) (π π':Places):Prop where
 le:π.le π'
 same:∀ r,r < n→π' r = π r
theorem Ext.refl (n:Nat) (π:Places):Ext n π π:=⟨π.le_refl,fun _ _=>rfl⟩
theorem Ext.trans {n m:Nat} {a b c:Places} (h:Ext n a b) (k:Ext m b c) (hnm:n≤m):Ext n a c :=
 ⟨Places.le_trans h.le k.le,fun r hr=>(k.same r (by omega)).trans (h.same r hr)⟩

section
variable {E:Env} {B:Nat} {w₀:World} {π:Places} {H:Heap} {w:World}

theorem Good.drew (h:Good E B w₀ π H w):Good E B w₀ π H w.drew :=
 ⟨fun r i o a b=>(h.objs r i o a b).congr rfl,h.inj,h.lt,h.base,h.low,h.blk,h.below.drew,h.size⟩

def Places.upd (π:Places) (r:Nat) (i:Info):Places:=fun s=>if s = r then some i else π s
theorem Places.le_upd {r:Nat} (i:Info) (h:π r = none):π.le (π.upd r i):=fun s j hs=>by
 unfold Places.upd
 by_cases e:s = r
 ·subst e; rw [h] at hs; cases hs
 ·rw [if_neg e]; exact hs
theorem Places.upd_same (r:Nat) (i:Info):π.upd r i r = some i:=by simp [Places.upd]
theorem Places.upd_other {r s:Nat} (i:Info) (h:s≠r):π.upd r i s = π s:=by simp [Places.upd,h]

theorem Good.place (h:Good E B w₀ π H w) {r:Nat} (hr:r < H.next) (hn:π r = none) (obj:Obj) (d e:Nat) (hnl:isLent (H.objs.get r) = false)
  (ho:∀ o,H.objs.get r = some o→ORel E (π.upd r ⟨w.heap.size,d,e⟩) o ⟨w.heap.size,d,e⟩ (w.alloc obj)):Good E B w₀ (π.upd r ⟨w.heap.size,d,e⟩) H (w.alloc obj) where
 objs:=by
  intro s i o hs hos
  by_cases hsr:s = r
  ·subst hsr
   rw [Places.upd_same] at hs; cases hs
   exact ho o hos
  ·rw [Places.upd_other _ hsr] at hs
   exact ((h.objs s i o hs hos).congr (Below.heap_alloc w obj _ (h.blk s i hs))).mono (Places.le_upd _ hn)
 inj:=by
  intro s t i j hs ht ls lt' e
  by_cases hsr:s = r <;> by_cases htr:t = r
  ·rw [hsr,htr]
  ·subst hsr; rw [Places.upd_same] at hs; rw [Places.upd_other _ htr] at ht; cases hs
   have:=h.blk t j ht; simp at e; omega
  ·subst htr; rw [Places.upd_same] at ht; rw [Places.upd_other _ hsr] at hs; cases ht
   have:=h.blk s i hs; simp at e; omega
  ·rw [Places.upd_other _ hsr] at hs; rw [Places.upd_other _ htr] at ht
   exact h.inj s t i j hs ht ls lt' e
 lt:=by
  intro s i hs
  by_cases hsr:s = r
  ·subst hsr; exact hr
  ·rw [Places.upd_other _ hsr] at hs; exact h.lt s i hs
 base:=by
  intro s i hs hlv
  by_cases hsr:s = r
  ·subst hsr; rw [Places.upd_same] at hs; cases hs; exact h.size
  ·rw [Places.upd_other _ hsr] at hs; exact h.base s i hs hlv
 low:=by
  intro s i hs hlv
  by_cases hsr:s = r
  ·subst hsr; rw [hnl] at hlv; cases hlv
  ·rw [Places.upd_other _ hsr] at hs; exact h.low s i hs hlv
 blk:=by
  intro s i hs
  by_cases hsr:s = r
  ·subst hsr; rw [Places.upd_same] at hs; cases hs; simp
  ·rw [Places.upd_other _ hsr] at hs; have:=h.blk s i hs; simp; omega
 below:=h.below.alloc h.size obj
 size:=by have:=h.size; simp; omega

theorem Good.named (h:Good E B w₀ π H w) (o:AObj):Good E B w₀ π ⟨H.next + 1,H.objs.put H.next o⟩ w where
 objs:=by
  intro r i o' hr ho
  have:=h.lt r i hr
  simp only [T.get_put,show r≠H.next from by omega,if_false] at ho
  exact h.objs r i o' hr ho
 inj:=by
  intro r s i j hr hs lr ls e
  have h1:=h.lt r i hr
  have h2:=h.lt s j hs
  simp only [T.get_put,show r≠H.next from by omega,show s≠H.next from by omega,if_false] at lr ls
  exact h.inj r s i j hr hs lr ls e
 lt:=fun r i hr=>by have:=h.lt r i hr; show r < H.next + 1; omega
 base:=by
  intro r i hr hlv
  have:=h.lt r i hr
  simp only [T.get_put,show r≠H.next from by omega,if_false] at hlv
  exact h.base r i hr hlv
 low:=by
  intro r i hr hlv
  have:=h.lt r i hr
  simp only [T.get_put,show r≠H.next from by omega,if_false] at hlv
  exact h.low r i hr hlv
 blk:=h.blk
 below:=h.below
 size:=h.size

theorem Good.fresh (h:Good E B w₀ π H w):π H.next = none:=by
 cases hh:π H.next with
 | none=>rfl
 | some i=>have:=h.lt _ _ hh; omega

theorem Good.laid (h:Good E B w₀ π H w) (o:AObj) (obj:Obj) (d e:Nat)
  (ho:ORel E (π.upd H.next ⟨w.heap.size,d,e⟩) o ⟨w.heap.size,d,e⟩ (w.alloc obj)) (hnl:isLent (some o) = false:=by rfl) :
  Good E B w₀ (π.upd H.next ⟨w.heap.size,d,e⟩) ⟨H.next + 1,H.objs.put H.next o⟩ (w.alloc obj)∧Ext H.next π (π.upd H.next ⟨w.heap.size,d,e⟩) :=
 ⟨(h.named o).place (r := H.next) (by show H.next < H.next + 1; omega) h.fresh obj d e (by simp [T.get_put, hnl]) (fun o' ho' => by simp [T.get_put] at ho'; subst ho'; exact ho),
  ⟨Places.le_upd _ h.fresh, fun r hr => Places.upd_other _ (by omega)⟩⟩

theorem Good.turn (h:Good E B w₀ π H w) {r:Nat} {i:Info} (hr:π r = some i) (hl:isLive (H.objs.get r) = true) (o:AObj) {w':World} (hb:Below i.block w w') (hs:w'.heap.size = w.heap.size)
  (hk:∀ k,k≠i.block→w'.heap[k]? = w.heap[k]?) (ho:ORel E π o i w') (hnl:isLent (some o) = false:=by rfl):Good E B w₀ π (H.set r o) w' where
 objs:=by
  intro s j o' hs' hos
  by_cases e:s = r
  ·subst e; rw [hr] at hs'; cases hs'
   simp [Heap.set,T.get_put] at hos; subst hos; exact ho
  ·simp only [Heap.set,T.get_put,e,if_false] at hos
   have g:=h.objs s j o' hs' hos
   by_cases hd:isLive (some o') = true
   ·refine g.congr (hk _ fun hbe=>e ?_)
    exact h.inj s r j i hs' hr (by rw [hos]; exact hd) hl hbe
   ·cases o' with
    | dead=>trivial
    | lent n cs =>
     refine g.congr (hk _ fun hbe=>?_)
     have h1:=h.low s j hs' (by rw [hos]; rfl)
     have h2:=h.base r i hr hl
     omega
    | _=>simp [isLive] at hd
 inj:=by
  intro s t a b hs' ht ls lt' e
  have live:∀ u,isLive ((H.set r o).objs.get u) = true→isLive (H.objs.get u) = true:=by
   intro u hu
   by_cases e:u = r
   ·subst e; exact hl
   ·simpa only [Heap.set,T.get_put,e,if_false] using hu
  exact h.inj s t a b hs' ht (live s ls) (live t lt') e
 lt:=h.lt
 base:=by
  intro s j hs' ls
  by_cases e:s = r
  ·subst e; exact h.base s j hs' hl
  ·simp only [Heap.set,T.get_put,e,if_false] at ls; exact h.base s j hs' ls
 low:=by
  intro s j hs' ls
  by_cases e:s = r
  ·subst e; simp only [Heap.set,T.get_put,if_true] at ls; rw [hnl] at ls; cases ls
  ·simp only [Heap.set,T.get_put,e,if_false] at ls; exact h.low s j hs' ls
 blk:=fun s j hs'=>by rw [hs]; exact h.blk s j hs'
 below:=h.below.trans (hb.mono (h.base r i hr hl))
 size:=by rw [hs]; exact h.size

theorem Good.kill (h:Good E B w₀ π H w) (r:Nat):Good E B w₀ π (H.set r .dead) w where
 objs:=by
  intro s j o' hs' hos
  by_cases e:s = r
  ·subst e; simp [Heap.set,T.get_put] at hos; subst hos; trivial
  ·simp only [Heap.set,T.get_put,e,if_false] at hos; exact h.objs s j o' hs' hos
 inj:=by
  intro s t a b hs' ht ls lt' e
  have live:∀ u,isLive ((H.set r AObj.dead).objs.get u) = true→isLive (H.objs.get u) = true:=by
   intro u hu
   by_cases e:u = r
   ·subst e; simp [Heap.set,T.get_put,isLive] at hu
   ·simpa only [Heap.set,T.get_put,e,if_false] using hu
  exact h.inj s t a b hs' ht (live s ls) (live t lt') e
 lt:=h.lt
 base:=by
  intro s j hs' ls
  by_cases e:s = r
  ·subst e; simp [Heap.set,T.get_put,isLive] at ls
  ·simp only [Heap.set,T.get_put,e,if_false] at ls; exact h.base s j hs' ls
 low:=by
  intro s j hs' ls
  by_cases e:s = r
  ·subst e; simp [Heap.set,T.get_put,isLent] at ls
  ·simp only [Heap.set,T.get_put,e,if_false] at ls; exact h.low s j hs' ls
 blk:=h.blk
 below:=h.below
 size:=h.size

end
end Go.Rx

namespace Go.Rx
open Go.RowKit
variable [Unknowns]

section
variable {P:Program} {w:World}
theorem run_underlying {t:TypeId} {d:TypeDesc} (h:P.underlying t = some d):(underlying t).run P w = .ok d w:=by simp [underlying,h]
theorem run_typeInfo {t:TypeId} {i:TypeInfo} (h:P.info? t = some i):(typeInfo t).run P w = .ok i w:=by simp [typeInfo,h]
theorem run_sizeOf {t:TypeId} {i:TypeInfo} (h:P.info? t = some i):(sizeOf t).run P w = .ok i.size w:=by simp [sizeOf,run_typeInfo h]
theorem run_zeroValue {t:TypeId} {i:TypeInfo} {z:Value} (h:P.info? t = some i) (hz:i.zero = some z):(zeroValue t).run P w = .ok z w:=by simp [zeroValue,run_typeInfo h,hz]
theorem run_isAgg {t:TypeId} {d:TypeDesc} (h:P.underlying t = some d):(isAgg t).run P w = .ok (isAggDesc d) w:=by
 unfold isAgg isAggDesc
 simp only [Sem.run_bind,run_underlying h,Result.andThen_ok]
 cases d <;> rfl
end

section
variable {E:Env} {B:Nat} {w₀:World} {π:Places} {H:Heap} {w:World} {P:Program}

theorem loadCells_ok (hg:Good E B w₀ π H w) {r o m:Nat} {l:List Value} (h:Rx.loadCells H r o m = some l) {i:Info} (hr:π r = some i) :
  ∃ l',(Go.loadCells ⟨i.block,i.delta + o,none⟩ m).run P w = .ok l'.toArray w∧LRel π l l':=by
 unfold Rx.loadCells loadObj at h
 split at h
 ·rename_i e n x cs hrow
  unfold loadIn at h
  split at h
  ·rename_i hle
   have hle:=Nat.le_of_ble_eq_true hle
   have hle:o + m≤n:=hle
   obtain ⟨c,h1,h2,h3,h4⟩:=hg.objs r i _ hr hrow
   obtain ⟨hlen,hget⟩:=T.read_spec cs m o l h
   have hc:i.delta + n≤c.size:=by omega
   refine ⟨(c.toList.drop (i.delta + o)).take m,?_,?_⟩
   ·have hl:((c.toList.drop (i.delta + o)).take m).length = m:=by simp; omega
    have:=run_loadCells_list (P:=P) w ⟨i.block,i.delta + o,none⟩ ((c.toList.drop (i.delta + o)).take m) (by
     intro j v hj
     have hjm:j < m:=by have:=(List.getElem?_eq_some_iff.1 hj).1; omega
     rw [List.getElem?_take_of_lt hjm,List.getElem?_drop,Array.getElem?_toList] at hj
     have hadd:((⟨i.block,i.delta + o,none⟩:Addr).add j) = ⟨i.block,i.delta + o + j,none⟩:=by unfold Addr.add; split <;> simp_all
     rw [hadd]
     simp [World.cell?,h1,hj])
    rw [hl] at this
    exact this
   ·refine ⟨by simp [hlen]; omega,fun j v v' hv hv'=>?_⟩
    have hjm:j < m:=by rw [← hlen]; exact (List.getElem?_eq_some_iff.1 hv).1
    rw [List.getElem?_take_of_lt hjm,List.getElem?_drop,Array.getElem?_toList] at hv'
    have hg':=hget j hjm
    rw [hv] at hg'
    obtain ⟨u,hu,hvu⟩:=h4 (o + j) v (by omega) hg'
    have e:i.delta + o + j = i.delta + (o + j):=by omega
    rw [e,hu] at hv'
    cases hv'
    exact hvu
  ·cases h
 ·rename_i n cs hrow
  unfold loadIn at h
  split at h
  ·rename_i hle
   have hle:=Nat.le_of_ble_eq_true hle
   have hle:o + m≤n:=hle
   have ho:=hg.objs r i _ hr hrow
   obtain ⟨hlen,hget⟩:=T.read_spec cs m o l h
   have hex:∀ j,j < m→∃ v v',l[j]? = some v∧w.cell? ⟨i.block,i.delta + o + j,none⟩ = some v'∧VRel π v v':=by
    intro j hj
    have hv:l[j]? = some (l[j]'(by omega)):=List.getElem?_eq_getElem (by omega)
    have hg':=hget j hj
    rw [hv] at hg'
    obtain ⟨v',h1,h2⟩:=ho (o + j) _ (by omega) hg'
    exact ⟨_,v',hv,by rw [Nat.add_assoc]; exact h1,h2⟩
   let f:Nat→Value:=fun j=>(w.cell? ⟨i.block,i.delta + o + j,none⟩).getD Go.undef
   refine ⟨(List.range m).map f,?_,?_⟩
   ·have:=run_loadCells_list (P:=P) w ⟨i.block,i.delta + o,none⟩ ((List.range m).map f) (by
     intro j v hj
     rw [List.getElem?_map] at hj
     by_cases hjm:j < m
     ·rw [List.getElem?_range hjm] at hj
      simp only [Option.map_some,Option.some.injEq] at hj
      subst hj
      obtain ⟨_,v',_,h2,_⟩:=hex j hjm
      have hadd:((⟨i.block,i.delta + o,none⟩:Addr).add j) = ⟨i.block,i.delta + o + j,none⟩:=by unfold Addr.add; split <;> simp_all
      rw [hadd,h2]
      simp [f,h2]
     ·rw [List.getElem?_eq_none (by simp; omega)] at hj; simp at hj)
    rw [List.length_map,List.length_range] at this
    exact this
   ·refine ⟨by simp [hlen],fun j v v' hv hv'=>?_⟩
    have hjm:j < m:=by rw [← hlen]; exact (List.getElem?_eq_some_iff.1 hv).1
    obtain ⟨u,u',h1,h2,h3⟩:=hex j hjm
    rw [List.getElem?_map,List.getElem?_range hjm] at hv'
    simp only [Option.map_some,Option.some.injEq] at hv'
    rw [hv] at h1; cases h1
    subst hv'
    simp only [f,h2,Option.getD_some]
    exact h3
  ·cases h
 ·cases h

theorem setRow_below {g:Nat} {c:Array Value} {cur:Array Value} {t:TypeId} (h:w.heap[g]? = some (.cells cur t (0,0))) :
  Below g w (w.setRow g c)∧(w.setRow g c).heap.size = w.heap.size∧(∀ k,k≠g→(w.setRow g c).heap[k]? = w.heap[k]?)∧(w.setRow g c).heap[g]? = some (.cells c t (0,0)):=by
 have hk:∀ k,k≠g→(w.setRow g c).heap[k]? = w.heap[k]?:=by
  intro k hk
  simp only [World.setRow,Array.getElem?_modify]
  rw [if_neg (by omega)]
 refine ⟨⟨rfl,rfl,rfl,by simp [World.setRow],fun k hk'=>hk k (by omega)⟩,by simp [World.setRow],hk,?_⟩
 exact setRow_heap w g cur c t (0,0) h

theorem storeCells_ok (hg:Good E B w₀ π H w) {r o:Nat} {vs vs':List Value} {H':Heap} (h:Rx.storeCells H r o vs = some H') {i:Info} (hr:π r = some i) (hv:LRel π vs vs') :
  ∃ w',(Go.storeCells ⟨i.block,i.delta + o,none⟩ vs').run P w = .ok () w'∧Good E B w₀ π H' w'∧H'.next = H.next:=by
 unfold Rx.storeCells storeObj at h
 split at h
 ·rename_i e n x cs hrow
  unfold storeIn at h
  split at h
  ·rename_i hle
   cases h
   simp only [Bool.and_eq_true,List.all_eq_true] at hle
   obtain ⟨hle,hone⟩:=hle
   have hle:=Nat.le_of_ble_eq_true hle
   have hle:o + vs.length≤n:=hle
   obtain ⟨c,h1,h2,h3,h4⟩:=hg.objs r i _ hr hrow
   have hc:i.delta + n≤c.size:=by omega
   have hl:=hv.1
   have hone':∀ v ∈ vs',v.oneCell' = true:=by
    intro v' hv'
    obtain ⟨j,hj,rfl⟩:=List.mem_iff_getElem.1 hv'
    have hj':j < vs.length:=by omega
    have:=(hv.2 j vs[j] vs'[j] (List.getElem?_eq_getElem hj') (List.getElem?_eq_getElem hj)).oneCell' (hone _ (List.getElem_mem hj'))
    cases hq:vs'[j] <;> simp_all [Value.oneCell,Value.oneCell']
   have run:=run_storeCells_at (P:=P) i.block (i.delta + o) e vs' 0 c w h1 (by omega) hone'
   obtain ⟨b1,b2,b3,b4⟩:=setRow_below (c:=(c.toList.take (i.delta + o + 0) ++ vs' ++ c.toList.drop (i.delta + o + 0 + vs'.length)).toArray) h1
   refine ⟨_,run,hg.turn hr (by rw [hrow]; rfl) _ b1 b2 b3 ?_,rfl⟩
   refine ⟨_,b4,by simp; omega,h3,fun k v hk hkv=>?_⟩
   rw [T.get_ofList] at hkv
   simp only [Nat.add_zero,List.getElem?_toArray,List.append_assoc]
   by_cases hin:o≤k∧k < o + vs.length
   ·rw [if_pos hin] at hkv
    have hkl:k - o < vs'.length:=by omega
    refine ⟨vs'[k - o],?_,hv.2 (k - o) v _ hkv (List.getElem?_eq_getElem hkl)⟩
    rw [List.getElem?_append_right (by simp; omega),List.getElem?_append_left (by simp; omega)]
    rw [show i.delta + k - (c.toList.take (i.delta + o)).length = k - o from by simp; omega]
    exact List.getElem?_eq_getElem hkl
   ·rw [if_neg hin] at hkv
    obtain ⟨v',hv1,hv2⟩:=h4 k v hk hkv
    refine ⟨v',?_,hv2⟩
    by_cases hlt:k < o
    ·rw [List.getElem?_append_left (by simp; omega),List.getElem?_take_of_lt (by omega),Array.getElem?_toList]; exact hv1
    ·rw [List.getElem?_append_right (by simp; omega),List.getElem?_append_right (by simp; omega),List.getElem?_drop,Array.getElem?_toList]
     rw [← hv1]; congr 1; simp; omega
  ·cases h
 ·cases h

def Out (E:Env) (B:Nat) (w₀:World) (n:Nat) (π:Places) (P:Program) (r:ARes) (res:Result Next):Prop:=match r with
 | .val v H'=>∃ π' v' w',Ext n π π'∧n≤H'.next∧(res = .ok (.value v') w'∨(res = .ok .skip w'∧v' = Go.undef))∧VRel π' v v'∧Good E B w₀ π' H' w'
 | .call f args H'=>∃ π' args' w',Ext n π π'∧n≤H'.next∧res = .ok (.enter f args') w'∧LRel π' args args'.toList∧Good E B w₀ π' H' w'
 | .yield l args H'=>∃ π' i args' w',Ext n π π'∧n≤H'.next∧π' l = some i∧res = (Instr.yield i.block args').run P w'∧LRel π' args args'.toList∧Good E B w₀ π' H' w'
 | .fail=>True

theorem out_val (hg:Good E B w₀ π H w) {v v':Value} (hv:VRel π v v') {res:Result Next} (h:res = .ok (.value v') w):Out E B w₀ H.next π P (.val v H) res :=
 ⟨π,v',w,Ext.refl _ _,Nat.le_refl _,.inl h,hv,hg⟩

theorem out_ofVal (hg:Good E B w₀ π H w) {ov:Option Value} {res:Result Next} (h:∀ v,ov = some v→∃ v',VRel π v v'∧res = .ok (.value v') w):Out E B w₀ H.next π P (ofVal H ov) res:=by
 cases ov with
 | none=>trivial
 | some v=>obtain ⟨v',hv,hr⟩:=h v rfl; exact out_val hg hv hr

theorem out_skip {H':Heap} {w':World} (hg:Good E B w₀ π H' w') (hn:H'.next = H.next) {res:Result Next} (h:res = .ok .skip w'):Out E B w₀ H.next π P (.val Go.undef H') res :=
 ⟨π,_,w',Ext.refl _ _,by omega,.inr ⟨h,rfl⟩,VRel.undef π,hg⟩

theorem out_laid {e:Nat} (hg:Good E B w₀ π H w) {f:Nat→Value} {o:AObj} {obj:Obj} {v':Value} {res:Result Next} (h:res = .ok (.value v') (w.alloc obj))
  (hv:VRel (π.upd H.next ⟨w.heap.size,0,e⟩) (f H.next) v')
  (ho:ORel E (π.upd H.next ⟨w.heap.size,0,e⟩) o ⟨w.heap.size,0,e⟩ (w.alloc obj)) (hnl:isLent (some o) = false):Out E B w₀ H.next π P (laid f H o) res:=by
 have hl:laid f H o = .val (f H.next) ⟨H.next + 1,H.objs.put H.next o⟩:=rfl
 rw [hl]
 obtain ⟨g,x⟩:=hg.laid o obj 0 e ho hnl
 exact ⟨_,v',_,x,Nat.le_succ _,.inl h,hv,g⟩

end
end Go.Rx

namespace Go.Rx
open Go.RowKit
variable [Unknowns]

theorem pureRun_run {α:Type} {P:Program}:∀ {s:Sem α} {a:α},pureRun P s = some a→∀ w,s.run P w = .ok a w:=by
 intro s
 induction s with
 | pure a=>intro b h w; simp [pureRun] at h; subst h; rfl
 | program k ih=>intro b h w; simp only [pureRun] at h; exact ih P h w
 | _=>intro b h w; simp [pureRun] at h

section
variable {E:Env} {B:Nat} {w₀:World} {π:Places} {H:Heap} {w:World} {P:Program} {ρ:T Value} {size:Nat} {a:Act}

theorem VRel.ptr_inv {r o:Nat} {v':Value} (h:VRel π (.pointer (some ⟨r,o,none⟩)) v'):∃ i,π r = some i∧v' = .pointer (some ⟨i.block,i.delta + o,none⟩):=by
 cases h with
 | ptr h=>exact ⟨_,h,rfl⟩

theorem VRel.slice_inv {r o l c:Nat} {v':Value} (h:VRel π (.slice (some ⟨r,o,none⟩) l c) v'):∃ i,π r = some i∧v' = .slice (some ⟨i.block,i.delta + o,none⟩) l (c + i.extra):=by
 cases h with
 | slice h=>exact ⟨_,h,rfl⟩

theorem VRel.slice_any {r o l c:Nat} {s:Option Nat} {v':Value} (h:VRel π (.slice (some ⟨r,o,s⟩) l c) v') (hs:voidSp s = false):∃ i c',π r = some i∧v' = .slice (some ⟨i.block,i.delta + o,none⟩) l c':=by
 cases h with
 | slice h=>exact ⟨_,_,h,rfl⟩
 | lim h=>exact ⟨_,_,h,rfl⟩
 | void=>simp [voidSp] at hs
theorem VRel.lim_inv {r o l c:Nat} {v':Value} (h:VRel π (.slice (some ⟨r,o,some 1⟩) l c) v'):∃ i,π r = some i∧v' = .slice (some ⟨i.block,i.delta + o,none⟩) l c:=by
 cases h with
 | lim h=>exact ⟨_,h,rfl⟩

theorem VRel.int_inv {k:IntKind} {n:Int} {v':Value} (h:VRel π (.int k n) v'):v' = .int k n:=by cases h; rfl
theorem VRel.bool_inv {b:Bool} {v':Value} (h:VRel π (.bool b) v'):v' = .bool b:=by cases h; rfl
theorem VRel.string_inv {b:ByteArray} {v':Value} (h:VRel π (.string b) v'):v' = .string b:=by cases h; rfl
theorem VRel.agg_inv {c:Array Value} {v':Value} (h:VRel π (.agg c) v'):∃ c',v' = .agg c'∧LRel π c.toList c'.toList:=by
 cases h with
 | agg h1 h2=>exact ⟨_,rfl,LRel.arr.2 ⟨h1,h2⟩⟩
theorem VRel.tuple_inv {c:Array Value} {v':Value} (h:VRel π (.tuple c) v'):∃ c',v' = .tuple c'∧LRel π c.toList c'.toList:=by
 cases h with
 | tuple h1 h2=>exact ⟨_,rfl,LRel.arr.2 ⟨h1,h2⟩⟩
theorem VRel.map_inv {r:Nat} {v':Value} (h:VRel π (.map (some r)) v'):∃ i,π r = some i∧v' = .map (some i.block):=by
 cases h with
 | map h=>exact ⟨_,h,rfl⟩

theorem loadVar_ok (hE:Ok E P) (hg:Good E B w₀ π H w) {t r o:Nat} {v:Value} (h:Rx.loadVar E H t r o = some v) {i:Info} (hr:π r = some i) :
  ∃ v',(Go.loadVar t ⟨i.block,i.delta + o,none⟩).run P w = .ok v' w∧VRel π v v':=by
 unfold Rx.loadVar at h
 split at h
 ·cases h
 ·rename_i ti hti
  obtain ⟨info,hu,hi,hagg,hsz,_⟩:=hE.ty t ti hti
  unfold loadTI at h
  unfold Go.loadVar
  simp only [Sem.run_bind,run_isAgg hu,Result.andThen_ok,← hagg]
  cases hb:ti.agg with
  | true =>
   simp only [hb] at h
   unfold aggOf at h
   split at h
   ·rename_i l hl
    cases h
    obtain ⟨l',h1,h2⟩:=loadCells_ok (P:=P) hg hl hr
    rw [hsz] at h1
    exact ⟨_,by simp [run_sizeOf hi,h1],VRel.aggL h2⟩
   ·cases h
  | false =>
   simp only [hb] at h
   unfold oneOf at h
   split at h
   ·rename_i u hl
    cases h
    obtain ⟨l',h1,h2⟩:=loadCells_ok (P:=P) hg hl hr
    obtain ⟨v',r',rfl,hv,hr'⟩:=h2.cons_inv
    rw [hr'.nil_inv] at h1
    refine ⟨v',?_,hv⟩
    have:(Go.loadCells ⟨i.block,i.delta + o,none⟩ 1).run P w = ((Go.load (⟨i.block,i.delta + o,none⟩:Addr)).run P w).andThen fun v w'=>.ok #[v] w':=by
     unfold Go.loadCells loadCellsFrom
     simp only [Sem.run_bind,loadCellsFrom,Sem.run_pure]
     rfl
    rw [this] at h1
    simp only [Bool.false_eq_true,if_false]
    cases hq:(Go.load (⟨i.block,i.delta + o,none⟩:Addr)).run P w with
    | ok x y=>rw [hq] at h1; simp at h1; obtain ⟨rfl,rfl⟩:=h1; rfl
    | halt x y=>rw [hq] at h1; simp at h1
   ·cases h

theorem storeVar_ok (hE:Ok E P) (hg:Good E B w₀ π H w) {t r o:Nat} {v v':Value} {H':Heap} (h:Rx.storeVar E H t r o v = some H') {i:Info} (hr:π r = some i) (hv:VRel π v v') :
  ∃ w',(Go.storeVar t ⟨i.block,i.delta + o,none⟩ v').run P w = .ok () w'∧Good E B w₀ π H' w'∧H'.next = H.next:=by
 unfold Rx.storeVar at h
 split at h
 ·cases h
 ·rename_i ti hti
  obtain ⟨info,hu,hi,hagg,hsz,_⟩:=hE.ty t ti hti
  unfold storeTI at h
  split at h
  ·cases h
  ·rename_i vs hvs
   split at h
   ·rename_i hlen
    have hlen:=Nat.eq_of_beq_eq_true hlen
    have hl:=hv.cells hvs
    obtain ⟨w',h1,h2,h3⟩:=storeCells_ok (P:=P) hg h hr hl
    refine ⟨w',?_,h2,h3⟩
    unfold Go.storeVar
    have:v'.cells.size = info.size:=by rw [← hsz,← hlen,hl.1]; simp
    simp [run_sizeOf hi,this,h1]
   ·cases h

/-! The operations, one by one. -/

theorem arm_move (hg:Good E B w₀ π H w) (hρ:TRel π ρ size a.tmps) (x:Operand):Out E B w₀ H.next π P (.val (Rx.eval ρ x) H) (.ok (.value (a.eval x)) w):=out_val hg (hρ.eval x) rfl

theorem arm_pick (hg:Good E B w₀ π H w) (hρ:TRel π ρ size a.tmps) (c x y:Operand) (o:Oper) (ho:o.op = .pick c x y):Out E B w₀ H.next π P (picked ρ H x y (Rx.eval ρ c)) ((execOp a.eval o).run P w):=by
 have hc:=hρ.eval c
 unfold picked
 split
 ·rename_i h; rw [h] at hc
  exact out_val hg (hρ.eval x) (by simp [execOp,ho,hc.bool_inv,asBool])
 ·rename_i h; rw [h] at hc
  exact out_val hg (hρ.eval y) (by simp [execOp,ho,hc.bool_inv,asBool])
 ·trivial

theorem arm_load (hE:Ok E P) (hg:Good E B w₀ π H w) (hρ:TRel π ρ size a.tmps) (t:TypeId) (x:Operand) (o:Oper) (ho:o.op = .load t x) (ty:TypeId):Out E B w₀ H.next π P (armLoad t x E ρ H ty) ((execOp a.eval o).run P w):=by
 have hx:=hρ.eval x
 unfold armLoad atPtr
 split
 ·rename_i r off h; rw [h] at hx
  obtain ⟨i,hr,hv⟩:=hx.ptr_inv
  refine out_ofVal hg fun v hv'=>?_
  obtain ⟨v',h1,h2⟩:=loadVar_ok hE hg hv' hr
  exact ⟨v',h2,by simp [execOp,ho,Instr.loadAt,Instr.sureAddr,hv,h1]⟩
 ·trivial

theorem arm_store (hE:Ok E P) (hg:Good E B w₀ π H w) (hρ:TRel π ρ size a.tmps) (t:TypeId) (x y:Operand) (o:Oper) (ho:o.op = .store t x y) (ty:TypeId):Out E B w₀ H.next π P (armStore t x y E ρ H ty) ((execOp a.eval o).run P w):=by
 have hx:=hρ.eval x
 unfold armStore atPtr
 split
 ·rename_i r off h; rw [h] at hx
  obtain ⟨i,hr,hv⟩:=hx.ptr_inv
  unfold ofHeap
  dsimp only
  split
  ·rename_i H' hH'
   obtain ⟨w',h1,h2,h3⟩:=storeVar_ok hE hg hH' hr (hρ.eval y)
   exact out_skip h2 h3 (by simp [execOp,ho,Instr.storeAt,Instr.sureAddr,hv,h1])
  ·trivial
 ·trivial

theorem heap_new (w:World) (o:Obj):(w.alloc o).heap[w.heap.size]? = some o:=by show (w.heap.push o)[w.heap.size]? = some o; simp

def Lays (E:Env) (π:Places) (w:World) (x:New) (res:Result Next):Prop:=match x with
 | none=>True
 | some (f,o)=>isLent (some o) = false∧∃ obj v',res = .ok (.value v') (w.alloc obj) ∧
   ∀ r,π r = none→VRel (π.upd r ⟨w.heap.size,0,0⟩) (f r) v'∧ORel E (π.upd r ⟨w.heap.size,0,0⟩) o ⟨w.heap.size,0,0⟩ (w.alloc obj)

theorem out_lays (hg:Good E B w₀ π H w) {x:New} {res:Result Next} (h:Lays E π w x res):Out E B w₀ H.next π P (laidBy x H) res:=by
 unfold laidBy
 split
 ·obtain ⟨hnl,obj,v',h1,h2⟩:=h
  obtain ⟨h3,h4⟩:=h2 H.next hg.fresh
  exact out_laid (e:=0) hg h1 h3 h4 hnl
 ·trivial

theorem row_laid {cells cells':List Value} (h:LRel π cells cells') {r:Nat} (hn:π r = none) (t:TypeId) (ex:Bool) (extra:List Value) (e:Nat) (he:e * sizeT E t≤extra.length) (hx:ex = true→e = 0) :
  ORel E (π.upd r ⟨w.heap.size,0,e⟩) (rowOf t cells ex) ⟨w.heap.size,0,e⟩ (w.alloc (.cells (cells' ++ extra).toArray t)):=by
 refine ⟨(cells' ++ extra).toArray,heap_new w _,by simp [h.1]; omega,hx,fun k v hk hv=>?_⟩
 rw [T.get_ofList] at hv
 simp only [Nat.zero_le,true_and,Nat.zero_add,hk,if_true,Nat.sub_zero] at hv
 have hk':k < cells'.length:=by rw [← h.1]; exact hk
 refine ⟨cells'[k],by simp [List.getElem?_append_left hk',List.getElem?_eq_getElem hk'],(h.2 k v _ hv (List.getElem?_eq_getElem hk')).mono (Places.le_upd _ hn)⟩

theorem lays_row {cells cells':List Value} (h:LRel π cells cells') (t:TypeId) {f:Nat→Value} {v':Value} {res:Result Next}
  (hres:res = .ok (.value v') (w.alloc (.cells cells'.toArray t))) (hv:∀ r,VRel (π.upd r ⟨w.heap.size,0,0⟩) (f r) v'):Lays E π w (some (f,rowOf t cells true)) res:=by
 refine ⟨rfl,_,v',hres,fun r hr=>⟨hv r,?_⟩⟩
 have:=row_laid (E:=E) (w:=w) h hr t true [] 0 (by simp) (fun _=>rfl)
 simpa using this

theorem lays_box {v v':Value} (hv:VRel π v v') (t:TypeId) {res:Result Next} (hres:res = .ok (.value (.pointer (some ⟨w.heap.size,0,none⟩))) (w.alloc (.cells v'.cells t))):Lays E π w (boxed t (cellsOf v)) res:=by
 unfold boxed
 split
 ·rename_i cells hc
  have hl:=hv.cells hc
  exact lays_row hl t (by simpa using hres) (fun r=>VRel.ptr (i:=⟨w.heap.size,0,0⟩) (Places.upd_same _ _))
 ·trivial

theorem lays_alloc (hE:Ok E P) (t:TypeId) (o:Oper) (ho:o.op = .alloc t) (ρ':Operand→Value):Lays E π w (allocated t (zeroOf (E.ty t))) ((execOp ρ' o).run P w):=by
 unfold allocated
 split
 ·rename_i z hz
  unfold zeroOf at hz
  split at hz
  ·rename_i ti hti
   obtain ⟨info,hu,hi,hagg,hsz,_,hzero⟩:=hE.ty t ti hti
   obtain ⟨hz',hd⟩:=hzero z hz
   refine lays_box (VRel.refl_of_isData 3 z hd) t ?_
   simp [execOp,ho,Instr.alloc,run_zeroValue hi hz',newVar,newRow]
  ·cases hz
 ·trivial

theorem arm_nilCheck (hg:Good E B w₀ π H w) (hρ:TRel π ρ size a.tmps) (x:Operand) (o:Oper) (ho:o.op = .nilCheck x):Out E B w₀ H.next π P (nilChecked H (Rx.eval ρ x)) ((execOp a.eval o).run P w):=by
 have hx:=hρ.eval x
 generalize Rx.eval ρ x = v at hx
 obtain ⟨v',hv'⟩:∃ v',a.eval x = v':=⟨_,rfl⟩
 rw [hv'] at hx
 unfold nilChecked
 split
 ·refine out_val hg hx ?_
  cases hx <;> simp [execOp,ho,hv']
 ·split
  all_goals first | trivial | skip
  all_goals
   refine out_val hg hx ?_
   cases hx <;> simp_all [execOp,plainFn]
 ·refine out_val hg hx ?_
  cases hx; simp [execOp,ho,hv']
 ·trivial

end
end Go.Rx

namespace Go.Rx
open Go.RowKit
variable [Unknowns]

section
variable {E:Env} {B:Nat} {w₀:World} {π:Places} {H:Heap} {w:World} {P:Program} {ρ:T Value} {size:Nat} {a:Act}

/-! Laying values over cells. -/

theorem lay_spec:∀ (cs:List Value) (o:Nat) (vs r:List Value),lay cs o vs = some r→o + vs.length≤cs.length:=by
 intro cs
 induction cs with
 | nil =>
  intro o vs r h
  cases vs with
  | nil=>cases o with
   | zero=>simp
   | succ o=>simp [lay] at h
  | cons v vs=>simp [lay] at h
 | cons c cs ih =>
  intro o vs r h
  cases vs with
  | nil=>cases o with
   | zero=>simp
   | succ o=>simp [lay] at h
  | cons v vs =>
   cases o with
   | zero =>
    simp only [lay] at h
    split at h
    ·rename_i l hl
     have:=ih 0 vs l hl
     simp at this ⊢; omega
    ·cases h
   | succ o =>
    simp only [lay] at h
    split at h
    ·rename_i l hl
     have:=ih o (v :: vs) l hl
     simp at this ⊢; omega
    ·cases h

theorem lay_rel:∀ {cs cs':List Value} {o:Nat} {vs vs' r:List Value},LRel π cs cs'→LRel π vs vs'→lay cs o vs = some r→∃ r',lay cs' o vs' = some r'∧LRel π r r':=by
 intro cs
 induction cs with
 | nil =>
  intro cs' o vs vs' r hc hv h
  cases vs with
  | nil =>
   rw [hv.nil_inv,hc.nil_inv]
   cases o with
   | zero=>simp [lay] at h; subst h; exact ⟨[],by simp [lay],LRel.nil π⟩
   | succ o=>simp [lay] at h
  | cons v vs=>simp [lay] at h
 | cons c cs ih =>
  intro cs' o vs vs' r hc hv h
  obtain ⟨c',r',rfl,hcc,hr⟩:=hc.cons_inv
  cases vs with
  | nil =>
   rw [hv.nil_inv]
   cases o with
   | zero=>simp [lay] at h; subst h; exact ⟨c' :: r',by simp [lay],LRel.cons hcc hr⟩
   | succ o=>simp [lay] at h
  | cons v vs =>
   obtain ⟨v',vr,rfl,hvv,hvr⟩:=hv.cons_inv
   cases o with
   | zero =>
    simp only [lay] at h
    split at h
    ·rename_i l hl
     cases h
     obtain ⟨l',h1,h2⟩:=ih hr hvr hl
     exact ⟨v' :: l',by simp [lay,h1],LRel.cons hvv h2⟩
    ·cases h
   | succ o =>
    simp only [lay] at h
    split at h
    ·rename_i l hl
     cases h
     obtain ⟨l',h1,h2⟩:=ih hr (LRel.cons hvv hvr) hl
     exact ⟨c' :: l',by simp [lay,h1],LRel.cons hcc h2⟩
    ·cases h

theorem lay_step:∀ (cs:List Value) (n:Nat) (v:Value) (vs r:List Value),lay cs n (v :: vs) = some r→lay (cs.set n v) (n + 1) vs = some r∨(vs = []∧r = cs.set n v):=by
 intro cs
 induction cs with
 | nil=>intro n v vs r h; simp [lay] at h
 | cons c cs ih =>
  intro n v vs r h
  cases n with
  | zero =>
   simp only [lay] at h
   split at h
   ·rename_i l hl
    cases h
    cases vs with
    | nil=>simp [lay] at hl; subst hl; exact .inr ⟨rfl,by simp⟩
    | cons u us=>left; simp [lay,hl]
   ·cases h
  | succ n =>
   simp only [lay] at h
   split at h
   ·rename_i l hl
    cases h
    rcases ih n v vs l hl with h' | ⟨rfl,rfl⟩
    ·cases vs with
     | nil=>simp [lay] at h'
     | cons u us=>left; simp [lay,h']
    ·exact .inr ⟨rfl,by simp⟩
   ·cases h

theorem lay_fold:∀ (vs:List Value) (o k:Nat) (cs r:List Value),(lay cs (o + k) vs = some r∨(vs = []∧r = cs)) →
  (vs.zipIdx k).foldl (fun (cs:Array Value) (p:Value×Nat)=>cs.setIfInBounds (o + p.2) p.1) cs.toArray = r.toArray:=by
 intro vs
 induction vs with
 | nil =>
  intro o k cs r h
  rcases h with h | ⟨_,rfl⟩
  ·cases hk:o + k with
   | zero=>rw [hk] at h; simp [lay] at h; subst h; rfl
   | succ n=>rw [hk] at h; simp [lay] at h
  ·rfl
 | cons v vs ih =>
  intro o k cs r h
  rcases h with h | ⟨h,_⟩
  ·simp only [List.zipIdx_cons,List.foldl_cons]
   have:=ih o (k + 1) (cs.set (o + k) v) r (by
    rcases lay_step cs (o + k) v vs r h with h' | ⟨h1,h2⟩
    ·left; rw [← Nat.add_assoc]; exact h'
    ·exact .inr ⟨h1,h2⟩)
   simpa using this
  ·cases h

def PRel (π:Places):List (Nat×Value)→List (Nat×Value)→Prop
 | [],[]=>True
 | (i,v) :: l,(j,u) :: m=>i = j∧VRel π v u∧PRel π l m
 | _,_=>False

theorem evalParts_rel (hρ:TRel π ρ size a.tmps):∀ l:List (Nat×Operand),PRel π (evalParts ρ l) (l.map fun p=>(p.1,a.eval p.2))
 | []=>trivial
 | (i,x) :: l=>⟨rfl,hρ.eval x,evalParts_rel hρ l⟩

theorem fill_rel {place place':Nat→Option (Nat×Nat)} (hp:∀ i o n,place i = some (o,n)→place' i = some (o,n)):∀ {parts parts':List (Nat×Value)} {cs cs' r:List Value},PRel π parts parts'→LRel π cs cs'→Rx.fill place cs parts = some r →
  ∃ r',Instr.fill place' cs'.toArray parts' = some r'.toArray∧LRel π r r':=by
 intro parts
 induction parts with
 | nil =>
  intro parts' cs cs' r h1 h2 h
  cases parts' with
  | nil=>simp [Rx.fill] at h; subst h; exact ⟨cs',by simp [Instr.fill],h2⟩
  | cons=>exact h1.elim
 | cons p parts ih =>
  intro parts' cs cs' r h1 h2 h
  obtain ⟨i,v⟩:=p
  cases parts' with
  | nil=>exact h1.elim
  | cons q parts' =>
   obtain ⟨j,u⟩:=q
   obtain ⟨rfl,hv,hrest⟩:=h1
   simp only [Rx.fill] at h
   split at h
   ·cases h
   ·rename_i off n hpl
    split at h
    ·cases h
    ·rename_i vs hvs
     split at h
     ·cases h
     ·rename_i hlen
      have hlen:=Nat.eq_of_beq_eq_true hlen
      split at h
      ·cases h
      ·rename_i cells hc
       have hvl:=hv.cells hvs
       obtain ⟨l',hl1,hl2⟩:=lay_rel h2 hvl hc
       obtain ⟨r',hr1,hr2⟩:=ih hrest hl2 h
       refine ⟨r',?_,hr2⟩
       unfold Instr.fill
       rw [hp i off n hpl]
       have hsz:u.cells.size = n:=by rw [← hlen,hvl.1]; simp
       have hle:off + u.cells.size≤cs'.length:=by
        have h':=lay_spec _ _ _ _ hc
        rw [← h2.1,hsz,← hlen]; exact h'
       have hf:=lay_fold u.cells.toList off 0 cs' l' (.inl (by simpa using hl1))
       have hcond:(decide (u.cells.size≠n) || decide (off + u.cells.size > cs'.toArray.size)) = false:=by simp [hsz]; rw [hsz] at hle; omega
       simp only [hcond]
       have e:Array.foldl (fun cs (x:Value×Nat)=>cs.setIfInBounds (off + x.snd) x.fst) cs'.toArray u.cells.zipIdx = l'.toArray:=by
        rw [← hf,← Array.foldl_toList]
        simp
       simp only [Bool.false_eq_true,if_false]
       rw [e]; exact hr1

end
end Go.Rx

namespace Go.Rx
open Go.RowKit
variable [Unknowns]

section
variable {E:Env} {B:Nat} {w₀:World} {π:Places} {H:Heap} {w:World} {P:Program} {ρ:T Value} {size:Nat} {a:Act}

theorem run_mapM_list' {α β:Type} (f:α→Sem β) (g:α→β):∀ (l:List α) (w:World),(∀ x ∈ l,(f x).run P w = .ok (g x) w)→(l.mapM f).run P w = .ok (l.map g) w:=by
 intro l
 induction l with
 | nil=>intro w _; rfl
 | cons x l ih=>intro w h; simp [List.mapM_cons,h x (by simp),ih w (fun y hy=>h y (by simp [hy]))]

theorem run_places {fields:Array Field} (h:∀ f ∈ fields.toList,∃ i,P.info? f.type = some i) :
  ∃ places:Array (Nat×Nat),(fields.mapM fun f=>(do pure (f.offset,← Go.sizeOf f.type):Sem (Nat×Nat))).run P w = .ok places w ∧
   ∀ (k:Nat) (f:Field) (i:TypeInfo),fields.toList[k]? = some f→P.info? f.type = some i→places[k]? = some (f.offset,i.size):=by
 let g:Field→Nat×Nat:=fun f=>(f.offset,match P.info? f.type with | some i=>i.size | none=>0)
 have hrun:(fields.toList.mapM fun f=>(do pure (f.offset,← Go.sizeOf f.type):Sem (Nat×Nat))).run P w = .ok (fields.toList.map g) w:=by
  refine run_mapM_list' _ g _ w fun f hf=>?_
  obtain ⟨i,hi⟩:=h f hf
  simp [run_sizeOf hi,g,hi]
 refine ⟨(fields.toList.map g).toArray,?_,fun k f i hk hi=>?_⟩
 ·have e:(fields.mapM fun f=>(do pure (f.offset,← Go.sizeOf f.type):Sem (Nat×Nat))) = (do pure (← fields.toList.mapM fun f=>(do pure (f.offset,← Go.sizeOf f.type):Sem (Nat×Nat))).toArray):=by
   rw [Array.mapM_eq_mapM_toList]; rfl
  rw [e]
  simp only [Sem.run_bind,hrun,Result.andThen_ok,Sem.run_pure]
 ·simp only [List.getElem?_toArray,List.getElem?_map,hk]
  simp [g,hi]

theorem allTyped_spec (hE:Ok E P):∀ {l:List Field},allTyped E l = true→∀ f ∈ l,∃ i,P.info? f.type = some i
 | [],_,f,hf=>by simp at hf
 | g :: l,h,f,hf=>by
  simp only [allTyped,Bool.and_eq_true] at h
  simp only [List.mem_cons] at hf
  rcases hf with rfl | hf
  ·have h1:=h.1
   unfold typed at h1
   split at h1
   ·rename_i i hi
    obtain ⟨info,_,hi',_⟩:=hE.ty _ i hi
    exact ⟨info,hi'⟩
   ·cases h1
  ·exact allTyped_spec hE h.2 f hf

theorem structPlace_spec (hE:Ok E P) {fields:Array Field} {k o n:Nat} (h:structPlace E fields k = some (o,n)):∃ f i,fields.toList[k]? = some f∧P.info? f.type = some i∧o = f.offset∧n = i.size:=by
 unfold structPlace at h
 rw [lget_eq] at h
 split at h
 ·rename_i f hf
  unfold placeOf at h
  split at h
  ·rename_i ti hti
   obtain ⟨info,_,hi,_,hs,_⟩:=hE.ty _ ti hti
   simp only [Option.some.injEq,Prod.mk.injEq] at h
   exact ⟨f,info,hf,hi,h.1.symm,by rw [← h.2,hs]⟩
  ·cases h
 ·cases h

theorem zeroCells_spec (hE:Ok E P) {t:TypeId} {i:TI} (hi:E.ty t = some i) {z:List Value} (h:zeroCells i = some z) :
  ∃ info zv,P.info? t = some info∧info.zero = some zv∧cellsOf zv = some z∧VRel π zv zv:=by
 unfold zeroCells at h
 split at h
 ·rename_i zv hz
  obtain ⟨info,_,h1,_,_,_,h2⟩:=hE.ty t i hi
  obtain ⟨h3,h4⟩:=h2 zv hz
  exact ⟨info,zv,h1,h3,h,VRel.refl_of_isData 3 zv h4⟩
 ·cases h

theorem cellsOf_self {v:Value} {l:List Value} (h:cellsOf v = some l):v.cells.toList = l:=by
 unfold cellsOf at h
 split at h
 ·cases h; rfl
 ·cases h
 ·rename_i h1 h2
  cases h
  cases v <;> first | rfl | (exact absurd rfl (h1 _))

theorem arm_build (hE:Ok E P) (hg:Good E B w₀ π H w) (hρ:TRel π ρ size a.tmps) (t:TypeId) (parts:Array (Nat×Operand)) (o:Oper) (ho:o.op = .build t parts) (ty:TypeId) :
  Out E B w₀ H.next π P (armBuild t parts E ρ H ty) ((execOp a.eval o).run P w):=by
 unfold armBuild
 split
 ·rename_i ti hti
  obtain ⟨info,hu,hi,hagg,hsz,_⟩:=hE.ty t ti hti
  unfold buildZ
  split
  ·rename_i z hz
   obtain ⟨info',zv,h1,h2,h3,h4⟩:=zeroCells_spec (π:=π) hE hti hz
   rw [hi] at h1; cases h1
   have hzc:zv.cells.toList = z:=cellsOf_self h3
   have hzl:LRel π z z:=by have:=h4.cells h3; rw [hzc] at this; exact this
   have hparts:(parts.map fun p=>(p.1,a.eval p.2)).toList = parts.toList.map fun p=>(p.1,a.eval p.2):=by simp
   have hz':zv.cells = z.toArray:=by rw [← hzc]
   unfold buildTI
   split
   ·rename_i fields hd
    rw [hd] at hu
    split
    ·rename_i hall
     unfold aggIs
     split
     ·rename_i cells hc
      obtain ⟨places,hp1,hp2⟩:=run_places (w:=w) (allTyped_spec hE hall)
      obtain ⟨r',hr1,hr2⟩:=fill_rel (place':=(places[·]?)) (fun k off n hk=>by
       obtain ⟨f,i,ha,hb,rfl,rfl⟩:=structPlace_spec hE hk
       exact hp2 k f i ha hb) (evalParts_rel hρ parts.toList) hzl hc
      refine out_val hg (VRel.aggL hr2) ?_
      simp only [bind_pure_comp] at hp1
      simp [execOp,ho,Instr.build,run_zeroValue hi h2,run_underlying hu,hp1,hz',hr1]
     ·trivial
    ·trivial
   ·rename_i n elem hd
    rw [hd] at hu
    split
    ·rename_i ei hei
     obtain ⟨einfo,heu,hein,_,hes,_⟩:=hE.ty elem ei hei
     unfold aggIs
     split
     ·rename_i cells hc
      obtain ⟨r',hr1,hr2⟩:=fill_rel (place':=fun k=>some (k * einfo.size,einfo.size)) (fun k off n hk=>by
       simp only [arrayPlace,Option.some.injEq,Prod.mk.injEq] at hk
       obtain ⟨rfl,rfl⟩:=hk
       rw [hes]; rfl) (evalParts_rel hρ parts.toList) hzl hc
      refine out_val hg (VRel.aggL hr2) ?_
      simp [execOp,ho,Instr.build,run_zeroValue hi h2,run_underlying hu,run_sizeOf hein,hz',hr1]
     ·trivial
    ·trivial
   ·trivial
  ·trivial
 ·trivial

theorem times_length (z:List Value):∀ n,(times z n).length = n * z.length
 | 0=>by simp [times]
 | n + 1=>by simp [times,times_length z n,Nat.succ_mul]; omega

theorem times_rel {z:List Value} (hz:LRel π z z):∀ n,LRel π (times z n) (times z n)
 | 0=>LRel.nil π
 | n + 1=>LRel.append hz (times_rel hz n)

theorem times_get (z:List Value):∀ (n i:Nat),i < n * z.length→(times z n)[i]? = z[i % z.length]?
 | 0,i,h=>by simp at h
 | n + 1,i,h=>by
  simp only [times]
  by_cases hi:i < z.length
  ·rw [List.getElem?_append_left hi,Nat.mod_eq_of_lt hi]
  ·rw [List.getElem?_append_right (by omega),times_get z n (i - z.length) (by rw [Nat.succ_mul] at h; omega)]
   rw [Nat.mod_eq_sub_mod (a:=i) (by omega)]

theorem range_times (z:List Value) (n:Nat):((Array.range (n * z.length)).map fun i=>z.toArray[i % z.toArray.size]!) = (times z n).toArray:=by
 apply Array.ext_getElem?
 intro i
 by_cases hi:i < n * z.length
 ·have hz:0 < z.length:=by cases hl:z.length with
   | zero=>rw [hl] at hi; simp at hi
   | succ k=>omega
  have hm:i % z.length < z.length:=Nat.mod_lt _ hz
  simp only [List.getElem?_toArray,times_get z n i hi]
  simp [hi,hm]
 ·rw [Array.getElem?_eq_none (by simp; omega),List.getElem?_toArray,List.getElem?_eq_none (by rw [times_length]; omega)]

theorem sliceElem_spec (hE:Ok E P) {t e:TypeId} {ei:TI} (h:sliceElem E t = some (e,ei)):P.underlying t = some (.slice e)∧E.ty e = some ei:=by
 unfold sliceElem at h
 split at h
 ·cases h
 ·rename_i i hi
  obtain ⟨info,hu,_⟩:=hE.ty t i hi
  split at h
  ·rename_i e' hd
   split at h
   ·cases h
   ·rename_i ei' hei
    simp only [Option.some.injEq,Prod.mk.injEq] at h
    obtain ⟨rfl,rfl⟩:=h
    rw [hd] at hu
    exact ⟨hu,hei⟩
  ·cases h

theorem lays_buildSlice (hE:Ok E P) (hρ:TRel π ρ size a.tmps) (t:TypeId) (len:Nat) (parts:Array (Nat×Operand)) (o:Oper) (ho:o.op = .buildSlice t len parts) :
  Lays E π w (buildSliceE len (evalParts ρ parts.toList) (sliceElem E t)) ((execOp a.eval o).run P w):=by
 unfold buildSliceE
 split
 ·rename_i e ei hse
  obtain ⟨hu,hei⟩:=sliceElem_spec hE hse
  obtain ⟨einfo,heu,hein,_,hes,_⟩:=hE.ty e ei hei
  split
  ·rename_i z hz
   obtain ⟨info',zv,h1,h2,h3,h4⟩:=zeroCells_spec (π:=π) hE hei hz
   rw [hein] at h1; cases h1
   have hzc:zv.cells.toList = z:=cellsOf_self h3
   have hzl:LRel π z z:=by have:=h4.cells h3; rw [hzc] at this; exact this
   have hz':zv.cells = z.toArray:=by rw [← hzc]
   unfold buildSliceZ
   split
   ·rename_i hc
    simp only [Bool.and_eq_true] at hc
    have c1:len * ei.size≤10000:=Nat.le_of_ble_eq_true hc.1
    have c2:z.length = ei.size:=Nat.eq_of_beq_eq_true hc.2
    unfold sliceIs
    split
    ·rename_i cells hcells
     obtain ⟨r',hr1,hr2⟩:=fill_rel (place':=fun k=>some (k * einfo.size,einfo.size)) (fun k off n hk=>by
      simp only [arrayPlace,Option.some.injEq,Prod.mk.injEq] at hk
      obtain ⟨rfl,rfl⟩:=hk
      rw [hes]; rfl) (evalParts_rel hρ parts.toList) (times_rel hzl len) hcells
     have hsz:einfo.size = z.length:=by rw [← hes,c2]
     refine lays_row (v':=.slice (some ⟨w.heap.size,0,none⟩) len len) hr2 e ?_ (fun r=>VRel.slice (i:=⟨w.heap.size,0,0⟩) (Places.upd_same _ _))
     have hle:¬ (len * einfo.size > 2 ^ 24):=by rw [← hes]; omega
     have hrt:=range_times z len
     rw [← hsz,← hz'] at hrt
     have hdone:(Instr.buildSlice t len (parts.map fun p=>(p.1,a.eval p.2))).run P w = .ok (.slice (some ⟨w.heap.size,0,none⟩) len len) (w.alloc (.cells r'.toArray e)):=by
      have hparts:(parts.map fun p=>(p.1,a.eval p.2)).toList = parts.toList.map fun p=>(p.1,a.eval p.2):=by simp
      unfold Instr.buildSlice
      simp only [Sem.run_bind,run_underlying hu,Result.andThen_ok,run_sizeOf hein,if_neg hle,Sem.run_pure]
      by_cases h0:len * einfo.size = 0
      ·have:times z len = []:=by
        apply List.eq_nil_of_length_eq_zero; rw [times_length,← hsz]; exact h0
       rw [this] at hr1
       have e0:∀ f:Nat→Value,(Array.map f (Array.range (len * einfo.size))) = ([]:List Value).toArray:=by intro f; rw [h0]; simp
       simp only [if_pos h0,Sem.run_bind,Sem.run_pure,Result.andThen_ok,hparts,e0,hr1]
       rfl
      ·simp only [if_neg h0,Sem.run_bind,Sem.run_map,run_zeroValue hein h2,Result.andThen_ok,Sem.run_pure,hparts,hrt,hr1]
       rfl
     simp only [execOp,ho,Sem.run_bind]
     rw [hdone]
     rfl
    ·trivial
   ·trivial
  ·trivial
 ·trivial

end
end Go.Rx

namespace Go.Rx
open Go.RowKit
variable [Unknowns]

theorem ofNat_cast (m:Nat):Int.ofNat m = (m:Int):=rfl

theorem fwrap_eq (n:Int):fwrap n = IntKind.i64.wrap n:=by
 unfold fwrap
 cases n with
 | ofNat m =>
  dsimp only
  split
  ·rename_i h
   have h:=Nat.le_of_ble_eq_true h
   rw [IntWalk.i64_in _ (by rw [ofNat_cast]; omega)]
  ·rfl
 | negSucc m =>
  dsimp only
  split
  ·rename_i h
   have h:=Nat.le_of_ble_eq_true h
   rw [IntWalk.i64_in _ (by omega)]
  ·rfl

theorem ltI_eq (x y:Int):ltI x y = decide (x < y):=by
 unfold ltI
 cases x with
 | ofNat m=>cases y with
  | ofNat n =>
   dsimp only
   rw [Bool.eq_iff_iff]; simp [Nat.ble_eq]; omega
  | negSucc n=>dsimp only; symm; rw [decide_eq_false_iff_not,ofNat_cast]; omega
 | negSucc m=>cases y with
  | ofNat n=>dsimp only; symm; rw [decide_eq_true_iff,ofNat_cast]; omega
  | negSucc n =>
   dsimp only
   rw [Bool.eq_iff_iff]; simp [Nat.ble_eq]; omega

theorem eqI_eq (x y:Int):eqI x y = (x == y):=by
 unfold eqI
 cases x with
 | ofNat m=>cases y with
  | ofNat n=>dsimp only; rw [Bool.eq_iff_iff]; simp [Nat.beq_eq]; omega
  | negSucc n=>dsimp only; symm; rw [beq_eq_false_iff_ne]; simp
 | negSucc m=>cases y with
  | ofNat n=>dsimp only; symm; rw [beq_eq_false_iff_ne]; simp
  | negSucc n=>dsimp only; rw [Bool.eq_iff_iff]; simp [Nat.beq_eq]

theorem isZero_eq (x:Int):isZero x = decide (x = 0):=by
 unfold isZero
 cases x with
 | ofNat m=>dsimp only; rw [Bool.eq_iff_iff]; simp [Nat.beq_eq]
 | negSucc m=>symm; rw [decide_eq_false_iff_not]; omega

section
variable {E:Env} {B:Nat} {w₀:World} {π:Places} {H:Heap} {w:World} {P:Program} {ρ:T Value} {size:Nat} {a:Act}

theorem intBin_ok {op:BinOp} {x y:Int} {v:Value} (h:intBin op x y = some v) (t:TypeId):(Go.binOp op t (.int .i64 x) (.int .i64 y)).run P w = .ok v w:=by
 unfold intBin at h
 cases op <;> simp only [Option.some.injEq,reduceCtorEq] at h
 case add=>subst h; simp [Go.binOp,Op.intArith,fwrap_eq]
 case sub=>subst h; simp [Go.binOp,Op.intArith,fwrap_eq]; rfl
 case mul=>subst h; simp [Go.binOp,Op.intArith,fwrap_eq]
 case quo =>
  unfold quoI at h
  rw [isZero_eq] at h
  by_cases hy:y = 0
  ·simp [hy] at h
  ·simp only [hy,decide_false,Option.some.injEq] at h
   subst h; simp [Go.binOp,Op.intDiv,hy,fwrap_eq]
 case rem =>
  unfold remI at h
  rw [isZero_eq] at h
  by_cases hy:y = 0
  ·simp [hy] at h
  ·simp only [hy,decide_false,Option.some.injEq] at h
   subst h; simp [Go.binOp,Op.intDiv,hy]
 case eql=>subst h; simp [Go.binOp,Op.intCmp,eqI_eq]
 case neq=>subst h; simp [Go.binOp,Op.intCmp,eqI_eq,bne]
 case lss=>subst h; simp [Go.binOp,Op.intCmp,ltI_eq]
 case leq => subst h; have : decide (x ≤ y) = !decide (y < x) := by rw [Bool.eq_iff_iff]; simp
             simp [Go.binOp, Op.intCmp, ltI_eq, this]
 case gtr=>subst h; simp [Go.binOp,Op.intCmp,ltI_eq]
 case geq => subst h; have : decide (y ≤ x) = !decide (x < y) := by rw [Bool.eq_iff_iff]; simp
             simp [Go.binOp, Op.intCmp, ltI_eq, this]

theorem run_eqGuard_ints (op:BinOp) (t:TypeId) (x y:Operand) (k k':IntKind) (m n:Int):(eqGuard op t x y (.int k m) (.int k' n)).run P w = .ok () w:=by
 unfold eqGuard
 cases op <;> rfl

theorem dataOnly_spec {o:Option Value} {v:Value} (h:dataOnly o = some v):o = some v∧isData 3 v = true:=by
 unfold dataOnly at h
 split at h
 ·split at h
  ·rename_i hd; cases h; exact ⟨rfl,hd⟩
  ·cases h
 ·cases h

def binWhole (op:BinOp) (t:TypeId) (x y:Operand) (u v:Value):Sem Value:=do eqGuard op t x y u v; Go.binOp op t u v

theorem binData_ok (hE:Ok E P) {op:BinOp} {t:TypeId} {x y:Operand} {u v r:Value} (h:binData E op t x y u v = some r):(binWhole op t x y u v).run P w = .ok r w:=by
 unfold binData at h
 rw [hE.prog] at h
 obtain ⟨h1,h2⟩:=dataOnly_spec h
 exact pureRun_run h1 w

theorem run_equalIn_nil (d:Nat) {t:TypeId} {D:TypeDesc} (hd:P.underlying t = some D) {u v u' v':Value} {b:Bool} (hu:VRel π u u') (hv:VRel π v v')
  (hn:(nilness u = some true∧nilness v = some b)∨(nilness u = some b∧nilness v = some true)) (hf1:nilFits D u = true) (hf2:nilFits D v = true) :
  (Op.equalIn (d + 1) t u' v').run P w = .ok b w:=by
 unfold Op.equalIn
 simp only [Sem.run_bind,run_underlying hd,Result.andThen_ok]
 cases D <;> cases hu <;> simp only [nilFits,Rx.junk,Bool.false_eq_true] at hf1 <;> cases hv <;> simp only [nilFits,Rx.junk,Bool.false_eq_true] at hf2 <;> simp [nilness] at hn <;> simp [hn]

theorem eqGuard_const {op:BinOp} {t:TypeId} {x y:Operand} {u v:Value} (hc:isConstOp x = true∨isConstOp y = true) (hu:∀ c,u≠.agg c):(eqGuard op t x y u v).run P w = .ok () w:=by
 unfold eqGuard
 cases op <;> simp
 all_goals
  cases u
  all_goals first | (exact absurd rfl (hu _)) | (simp; done) | skip
  all_goals cases v
  all_goals first | (simp; done) | (rcases hc with hc | hc <;> cases x <;> cases y <;> simp_all [isConstOp])

theorem binNil_ok (hE:Ok E P) {op:BinOp} {t:TypeId} {x y:Operand} {u v u' v' r:Value} {b:Bool} (hu:VRel π u u') (hv:VRel π v v') (hn:(nilness u = some true∧nilness v = some b)∨(nilness u = some b∧nilness v = some true)) (h:binNil E op t x y u v b = some r) :
  (binWhole op t x y u' v').run P w = .ok r w:=by
 unfold binNil at h
 split at h
 ·rename_i i hi
  obtain ⟨info,hd,_⟩:=hE.ty t i hi
  split at h
  ·rename_i hf
   simp only [Bool.and_eq_true,Bool.or_eq_true] at hf
   obtain ⟨⟨hf1,hf2⟩,hc⟩:=hf
   have hagg:∀ c,u'≠.agg c:=by
    intro c e
    cases hu <;> simp [nilness,Rx.junk] at hn <;> cases e
   have hint:∀ k n,u'≠.int k n:=by
    intro k n e
    cases hu <;> simp [nilness,Rx.junk] at hn <;> cases e
   have heq:(Op.equal t u' v').run P w = .ok b w:=run_equalIn_nil 9999 hd hu hv hn hf1 hf2
   have hg:=eqGuard_const (P:=P) (w:=w) (op:=op) (t:=t) (x:=x) (y:=y) (u:=u') (v:=v') hc hagg
   unfold binWhole
   cases op <;> simp only [Option.some.injEq,reduceCtorEq] at h
   all_goals
    subst h
    simp only [Sem.run_bind,hg,Result.andThen_ok]
    have:∀ op',(op' = BinOp.eql∨op' = BinOp.neq)→Go.binOp op' t u' v' = (if op' = .eql then do pure (.bool (← Op.equal t u' v')) else do pure (.bool (!(← Op.equal t u' v')))):=by
     intro op' hop
     cases hu <;> simp [nilness,Rx.junk] at hn <;> cases hv <;> simp [nilness,Rx.junk] at hn <;> rcases hop with rfl | rfl <;> rfl
    rw [this _ (by simp)]
    simp [heq]
  ·cases h
 ·cases h

end
end Go.Rx

namespace Go.Rx
open Go.RowKit
variable [Unknowns]

section
variable {E:Env} {B:Nat} {w₀:World} {π:Places} {H:Heap} {w:World} {P:Program} {ρ:T Value} {size:Nat} {a:Act}

theorem binData_data {op:BinOp} {t:TypeId} {x y:Operand} {u v r:Value} (h:binData E op t x y u v = some r):VRel π r r:=VRel.refl_of_isData 3 r (dataOnly_spec h).2

theorem binNil_data {op:BinOp} {t:TypeId} {x y:Operand} {u v r:Value} {b:Bool} (h:binNil E op t x y u v b = some r):VRel π r r:=by
 unfold binNil at h
 split at h
 ·split at h
  ·cases op <;> simp at h <;> subst h <;> exact .bool _
  ·cases h
 ·cases h

theorem intBin_data {op:BinOp} {x y:Int} {v:Value} (h:intBin op x y = some v):VRel π v v:=by
 unfold intBin at h
 cases op <;> simp [quoI,remI] at h
 all_goals first | (subst h; constructor; done) | (split at h <;> simp at h; subst h; constructor)

theorem binOther_ok (hE:Ok E P) {op:BinOp} {t:TypeId} {x y:Operand} {u v u' v' r:Value} (hu:VRel π u u') (hv:VRel π v v') (h:binOther E op t x y u v = some r) :
  ∃ r',VRel π r r'∧(binWhole op t x y u' v').run P w = .ok r' w:=by
 unfold binOther at h
 split at h
 ·rename_i hd
  simp only [Bool.and_eq_true] at hd
  rw [eq_of_isData 4 u u' hd.1 hu,eq_of_isData 4 v v' hd.2 hv]
  exact ⟨r,binData_data h,binData_ok hE h⟩
 ·split at h
  ·rename_i n1 n2
   exact ⟨r,binNil_data h,binNil_ok hE hu hv (.inl ⟨n1,n2⟩) h⟩
  ·rename_i n1 n2
   exact ⟨r,binNil_data h,binNil_ok hE hu hv (.inr ⟨n1,n2⟩) h⟩
  ·obtain ⟨r',h1,h2⟩:=hE.bin op t x y u v r h π u' v' hu hv
   exact ⟨r',h1,h2 w⟩

theorem aBin_ok (hE:Ok E P) {op:BinOp} {t:TypeId} {x y:Operand} {u v u' v' r:Value} (hu:VRel π u u') (hv:VRel π v v') (h:aBin E op t x y u v = some r) :
  ∃ r',VRel π r r'∧(binWhole op t x y u' v').run P w = .ok r' w:=by
 unfold aBin at h
 split at h
 ·rename_i k m
  cases hu
  unfold binInt at h
  split at h
  ·rename_i k' n
   cases hv
   unfold binInts at h
   have slow:∀ k k',binData E op t x y (.int k m) (.int k' n) = some r→∃ r',VRel π r r'∧(binWhole op t x y (.int k m) (.int k' n)).run P w = .ok r' w:=fun k k' h=>⟨r,binData_data h,binData_ok hE h⟩
   split at h
   ·split at h
    ·unfold orElse at h
     split at h
     ·rename_i q hq
      cases h
      refine ⟨_,intBin_data hq,?_⟩
      unfold binWhole
      simp only [Sem.run_bind,run_eqGuard_ints,Result.andThen_ok,intBin_ok hq]
     ·exact slow _ _ h
    ·exact slow _ _ h
   ·exact slow _ _ h
  ·exact binOther_ok hE (.int k m) hv h
 ·exact binOther_ok hE hu hv h

theorem arm_bin (hE:Ok E P) (hg:Good E B w₀ π H w) (hρ:TRel π ρ size a.tmps) (op:BinOp) (t u:TypeId) (x y:Operand) (o:Oper) (ho:o.op = .binOp op t x y u) (ty:TypeId) :
  Out E B w₀ H.next π P (armBin op t x y u E ρ H ty) ((execOp a.eval o).run P w):=by
 unfold armBin
 refine out_ofVal hg fun v hv=>?_
 obtain ⟨v',h2,h1⟩:=aBin_ok (w:=w) hE (hρ.eval x) (hρ.eval y) hv
 refine ⟨v',h2,?_⟩
 unfold binWhole at h1
 simp only [execOp,ho,Sem.run_bind] at h1 ⊢
 rw [h1]; rfl

theorem out_onOne (hg:Good E B w₀ π H w) {v v':Value} (hv:VRel π v v') {r:Unit→Option Value} {res:Result Next} (h:∀ u,v' = v→r () = some u→res = .ok (.value u) w):Out E B w₀ H.next π P (onOne H v r) res:=by
 unfold onOne
 split
 ·rename_i hd
  refine out_ofVal hg fun u hu=>?_
  obtain ⟨h1,h2⟩:=dataOnly_spec hu
  exact ⟨u,VRel.refl_of_isData 3 u h2,h u (eq_of_isData 1 v v' hd hv) h1⟩
 ·trivial

theorem arm_un (hE:Ok E P) (hg:Good E B w₀ π H w) (hρ:TRel π ρ size a.tmps) (op:UnOp) (t:TypeId) (x:Operand) (o:Oper) (ho:o.op = .unOp op t x) (ty:TypeId) :
  Out E B w₀ H.next π P (armUn op t x E ρ H ty) ((execOp a.eval o).run P w):=by
 unfold armUn
 refine out_onOne hg (hρ.eval x) fun u e hu=>?_
 rw [hE.prog] at hu
 have:=pureRun_run hu w
 simp only [execOp,ho,Sem.run_bind,e,this]; rfl

theorem elemsAt_ok (hg:Good E B w₀ π H w) {r o m l c:Nat} {sp:Option Nat} {v':Value} (hv:VRel π (.slice (some ⟨r,o,sp⟩) l c) v') {new:List Value} (h:elemsAt H r o m sp = some new) :
  ∃ ad l' c',v' = .slice (some ad) l c'∧(Go.loadCells ad m).run P w = .ok l'.toArray w∧LRel π new l':=by
 unfold elemsAt at h
 split at h
 ·split at h
  ·cases h
   cases hv with
   | void ad c=>exact ⟨ad,[],c,rfl,rfl,LRel.nil π⟩
  ·cases h
 ·rename_i hne
  have hs:voidSp sp = false:=by
   unfold voidSp
   split
   ·exact absurd rfl hne
   ·rfl
  obtain ⟨i,c',hr,rfl⟩:=hv.slice_any hs
  obtain ⟨l',h1,h2⟩:=loadCells_ok (P:=P) hg h hr
  exact ⟨_,l',c',rfl,h1,h2⟩

theorem bytesOf_rel:∀ {l l':List Value} {bs:List UInt8},bytesOf l = some bs→LRel π l l'→l' = l
 | [],l',bs,_,h=>h.nil_inv
 | v :: l,l',bs,hb,h=>by
  simp only [bytesOf] at hb
  split at hb
  ·rename_i n
   split at hb
   ·rename_i bs' hbs
    obtain ⟨v',r',rfl,hv,hr⟩:=h.cons_inv
    rw [hv.int_inv,bytesOf_rel hbs hr]
   ·cases hb
  ·cases hb

theorem run_bytes (w:World) (msg:String):∀ {l:List Value} {bs:List UInt8} (s:ByteArray),bytesOf l = some bs →
  (forIn l s fun c s=>(match c with | .int .u8 n=>pure (ForInStep.yield (s.push (UInt8.ofNat n.toNat))) | _=>stuck msg:Sem (ForInStep ByteArray))).run P w = .ok ⟨⟨s.data.toList ++ bs⟩⟩ w
 | [],bs,s,h=>by
  simp only [bytesOf,Option.some.injEq] at h
  subst h
  simp
 | v :: l,bs,s,h=>by
  simp only [bytesOf] at h
  split at h
  ·rename_i n
   split at h
   ·rename_i bs' hbs
    cases h
    have ih:=run_bytes w msg (s.push (UInt8.ofNat n.toNat)) hbs
    simp only [List.forIn_cons,Sem.run_bind,Sem.run_pure,Result.andThen_ok]
    rw [ih]
    simp [ByteArray.push]
   ·cases h
  ·cases h

theorem isU8_spec (hE:Ok E P) {t:TypeId} (h:isU8 E t = true):P.underlying t = some (.int .u8):=by
 unfold isU8 at h
 split at h
 ·rename_i i hi
  obtain ⟨_,hu,_⟩:=hE.ty t i hi
  split at h
  ·rename_i hd; rw [hd] at hu; exact hu
  ·cases h
 ·cases h
theorem isStr_spec (hE:Ok E P) {t:TypeId} (h:isStr E t = true):P.underlying t = some .string:=by
 unfold isStr at h
 split at h
 ·rename_i i hi
  obtain ⟨_,hu,_⟩:=hE.ty t i hi
  split at h
  ·rename_i hd; rw [hd] at hu; exact hu
  ·cases h
 ·cases h

theorem arm_convert (hE:Ok E P) (hg:Good E B w₀ π H w) (hρ:TRel π ρ size a.tmps) (src dst:TypeId) (x:Operand) (o:Oper) (ho:o.op = .convert src dst x) (ty:TypeId) :
  Out E B w₀ H.next π P (armConvert src dst x E ρ H ty) ((execOp a.eval o).run P w):=by
 unfold armConvert converted
 have hx:=hρ.eval (a:=a) x
 split
 ·rename_i hd
  refine out_ofVal hg fun u hu=>?_
  obtain ⟨h1,h2⟩:=dataOnly_spec hu
  rw [hE.prog] at h1
  have:=pureRun_run h1 w
  refine ⟨u,VRel.refl_of_isData 3 u h2,?_⟩
  simp only [execOp,ho,Sem.run_bind,eq_of_isData 1 _ _ hd hx,this]; rfl
 ·unfold convSlice
  split
  ·rename_i r off sp len c hxe
   rw [hxe] at hx
   split
   ·rename_i hty
    simp only [Bool.and_eq_true] at hty
    obtain ⟨h1,h2⟩:=hty
    have hdst:=isStr_spec hE h2
    unfold isBytes at h1
    split at h1
    ·rename_i e ei hse
     obtain ⟨hsrc,hei⟩:=sliceElem_spec hE hse
     have heu:=isU8_spec hE h1
     unfold textOf
     split
     ·rename_i bs hbs
      unfold bytesIn at hbs
      split at hbs
      ·rename_i l hl
       obtain ⟨ad,l',c',hv,hrun,hrel⟩:=elemsAt_ok (P:=P) hg hx hl
       have hll:=bytesOf_rel hbs hrel
       subst hll
       refine out_val hg (.string _) ?_
       have hb:=fun msg=>run_bytes (P:=P) w msg ByteArray.empty hbs
       have hconv:(Conv.bytesToString (.slice (some ad) len c')).run P w = .ok (.string ⟨⟨bs⟩⟩) w:=by
        unfold Conv.bytesToString
        simp only [Sem.run_bind,hrun,Result.andThen_ok,List.forIn_toArray]
        erw [hb]
        rfl
       simp only [execOp,ho,Sem.run_bind,hv]
       unfold Go.convert
       simp only [Sem.run_bind,run_underlying hsrc,run_underlying hdst,run_underlying heu,Result.andThen_ok]
       rw [hconv]; rfl
      ·cases hbs
     ·trivial
    ·cases h1
   ·trivial
  ·unfold convUnk
   split
   ·rename_i si hsi
    obtain ⟨_,hsu,_⟩:=hE.ty src si hsi
    split
    ·rename_i i hi
     obtain ⟨_,hdu,_⟩:=hE.ty dst i hi
     refine out_ofVal hg fun u hu=>?_
     obtain ⟨r',h1,h2⟩:=hE.conv src dst _ _ _ u hsu hdu hu π _ hx
     refine ⟨r',h1,?_⟩
     simp only [execOp,ho,Sem.run_bind,h2 w]; rfl
    ·trivial
   ·trivial

theorem arm_toArray (hE:Ok E P) (hg:Good E B w₀ π H w) (hρ:TRel π ρ size a.tmps) (t:TypeId) (x:Operand) (o:Oper) (ho:o.op = .sliceToArrayPointer t x) (ty:TypeId) :
  Out E B w₀ H.next π P (armToArray t x E ρ H ty) ((execOp a.eval o).run P w):=by
 have hx:=hρ.eval x
 obtain ⟨v',hv'⟩:∃ v',a.eval x = v':=⟨_,rfl⟩
 rw [hv'] at hx
 unfold armToArray toArrayTI
 split
 ·rename_i i hi
  obtain ⟨info,hu,_⟩:=hE.ty t i hi
  split
  ·rename_i n e hd
   rw [hd] at hu
   unfold toArray
   split
   ·rename_i ad len c hxe
    split
    ·rename_i hle
     simp only [Bool.and_eq_true,Bool.not_eq_true'] at hle
     obtain ⟨hle,hvo⟩:=hle
     have hle:=Nat.le_of_ble_eq_true hle
     rw [hxe] at hx
     have hn:¬ len < n:=by omega
     obtain ⟨ii,c',hr,rfl⟩:=hx.slice_any hvo
     refine out_val hg (VRel.ptr hr) ?_
     simp [execOp,ho,hv',Instr.arrayAt,run_underlying hu,hn]
    ·trivial
   ·trivial
  ·trivial
 ·trivial

theorem arm_iface (hE:Ok E P) (hg:Good E B w₀ π H w) (hρ:TRel π ρ size a.tmps) (t:TypeId) (x:Operand) (o:Oper) (ho:o.op = .makeInterface t x) (ty:TypeId) :
  Out E B w₀ H.next π P (armIface t x E ρ H ty) ((execOp a.eval o).run P w):=by
 unfold armIface ifaceOf
 split
 ·rename_i i hi
  obtain ⟨info,hu,_⟩:=hE.ty t i hi
  split
  ·trivial
  ·rename_i hne
   refine out_val hg (VRel.iface (hρ.eval x)) ?_
   have:(Instr.makeInterface t (a.eval x)).run P w = .ok (.iface t (a.eval x)) w:=by
    unfold Instr.makeInterface
    simp only [Sem.run_bind,run_underlying hu,Result.andThen_ok]
    rfl
   simp [execOp,ho,this]
 ·trivial

theorem arm_func (hg:Good E B w₀ π H w) (hρ:TRel π ρ size a.tmps) (fn:Fn) (first captured:Array Operand) (o:Oper) (ho:o.op = .makeFunc fn first captured) (ty:TypeId) :
  Out E B w₀ H.next π P (armFunc fn first captured E ρ H ty) ((execOp a.eval o).run P w):=by
 have h1:=hρ.evals first.toList
 have h2:=hρ.evals captured.toList
 have hres:(execOp a.eval o).run P w = .ok (.value (.func fn (first.map a.eval) (captured.map a.eval))) w:=by simp [execOp,ho,Instr.makeFunc]
 have key:plainFn fn = true→Out E B w₀ H.next π P (.val (.func fn ⟨Rx.evals ρ first.toList⟩ ⟨Rx.evals ρ captured.toList⟩) H) ((execOp a.eval o).run P w):=by
  intro hf
  refine out_val hg ?_ hres
  exact .func hf (by have:=h1.1; simp at this ⊢; exact this) (fun i x x' ha hb=>h1.2 i x x' ha (by simpa using hb))
   (by have:=h2.1; simp at this ⊢; exact this) (fun i x x' ha hb=>h2.2 i x x' ha (by simpa using hb))
 unfold armFunc funcOf
 split
 ·exact key rfl
 ·exact key rfl
 ·trivial

theorem lays_newMap {res:Result Next} (h:res = .ok (.value (.map (some w.heap.size))) (w.alloc (.map #[] 0))):Lays E π w newMap res :=
 ⟨rfl,_,_,h,fun r hr=>⟨VRel.map (i:=⟨w.heap.size,0,0⟩) (Places.upd_same _ _),#[],heap_new w _,rfl,fun k e e' he=>by simp at he⟩⟩

theorem lays_makeMap (hE:Ok E P) (hρ:TRel π ρ size a.tmps) (t:TypeId) (r:Option Operand) (o:Oper) (ho:o.op = .makeMap t r) :
  Lays E π w (mapNew E ρ t r) ((execOp a.eval o).run P w):=by
 unfold mapNew
 split
 ·exact lays_newMap (by simp [execOp,ho,Instr.makeMap])
 ·rename_i x
  have hx:=hρ.eval x
  unfold mapHint
  split
  ·rename_i i hi
   obtain ⟨info,hu,_⟩:=hE.ty t i hi
   split
   ·rename_i k e hd
    rw [hd] at hu
    split
    ·rename_i kk n hxe
     rw [hxe] at hx
     have hx':=hx.int_inv
     exact lays_newMap (by simp [execOp,ho,Instr.makeMap,run_underlying hu,hx',asInt,asIntOf])
    ·trivial
   ·trivial
  ·trivial

theorem natUpto_spec {m k:Nat} {n:Int} (h:natUpto m n = some k):n = (k:Int)∧k≤m:=by
 unfold natUpto at h
 split at h
 ·split at h
  ·rename_i hle
   cases h
   exact ⟨rfl,Nat.le_of_ble_eq_true hle⟩
  ·cases h
 ·cases h

theorem asNat_spec {m k:Nat} {v v':Value} (hv:VRel π v v') (h:asNat m v = some k):∃ kk,v' = .int kk (k:Int)∧k≤m:=by
 unfold asNat at h
 split at h
 ·rename_i kk n
  obtain ⟨rfl,hle⟩:=natUpto_spec h
  exact ⟨kk,hv.int_inv,hle⟩
 ·cases h

theorem lays_makeSlice (hE:Ok E P) (hρ:TRel π ρ size a.tmps) (t:TypeId) (l c:Operand) (o:Oper) (ho:o.op = .makeSlice t l c) :
  Lays E π w (makeSliceE (asNat 100000 (Rx.eval ρ l)) (asNat 100000 (Rx.eval ρ c)) (sliceElem E t)) ((execOp a.eval o).run P w):=by
 unfold makeSliceE
 split
 ·rename_i e ei hse
  obtain ⟨hu,hei⟩:=sliceElem_spec hE hse
  obtain ⟨einfo,heu,hein,_,hes,heb,_⟩:=hE.ty e ei hei
  split
  ·rename_i z hz
   obtain ⟨info',zv,h1,h2,h3,h4⟩:=zeroCells_spec (π:=π) hE hei hz
   rw [hein] at h1; cases h1
   have hzc:zv.cells.toList = z:=cellsOf_self h3
   have hzl:LRel π z z:=by have:=h4.cells h3; rw [hzc] at this; exact this
   have hz':zv.cells = z.toArray:=by rw [← hzc]
   split
   ·rename_i ln hl
    split
    ·rename_i cn hc
     obtain ⟨k1,hl1,hl2⟩:=asNat_spec (hρ.eval l) hl
     obtain ⟨k2,hc1,hc2⟩:=asNat_spec (hρ.eval c) hc
     unfold makeSliceZ
     split
     ·rename_i hcond
      simp only [Bool.and_eq_true] at hcond
      have c1:ln≤cn:=Nat.le_of_ble_eq_true hcond.1.1
      have c2:ei.bytes * cn≤1073741824:=Nat.le_of_ble_eq_true hcond.1.2
      have c3:z.length = ei.size:=Nat.eq_of_beq_eq_true hcond.2
      have hsz:einfo.size = z.length:=by rw [← hes,c3]
      have hrt:=range_times z cn
      rw [← hsz,← hz'] at hrt
      refine lays_row (v':=.slice (some ⟨w.heap.size,0,none⟩) ln cn) (times_rel hzl cn) e ?_ (fun r=>VRel.slice (i:=⟨w.heap.size,0,0⟩) (Places.upd_same _ _))
      have hdone:(Instr.makeSlice t (a.eval l) (a.eval c)).run P w = .ok (.slice (some ⟨w.heap.size,0,none⟩) ln cn) (w.alloc (.cells (times z cn).toArray e)):=by
       have w1:IntKind.i64.wrap (ln:Int) = ln:=IntWalk.i64_in _ (by omega)
       have w2:IntKind.i64.wrap (cn:Int) = cn:=IntWalk.i64_in _ (by omega)
       unfold Instr.makeSlice
       simp only [Sem.run_bind,run_underlying hu,Result.andThen_ok,hl1,hc1,asInt,asIntOf,Sem.run_pure,run_typeInfo hein,w1,w2]
       have hb:(einfo.bytes:Int) * (cn:Int)≤1073741824:=by
        rw [← heb,← Int.natCast_mul]; omega
       have t1:(decide ((cn:Int) < 0) || decide ((einfo.bytes:Int) * (cn:Int) > 2 ^ 48)) = false:=by
        rw [Bool.or_eq_false_iff,decide_eq_false_iff_not,decide_eq_false_iff_not]
        exact ⟨by omega,by omega⟩
       have t2:((decide ((cn:Int) < 0) || decide ((einfo.bytes:Int) * (cn:Int) > 2 ^ 48)) || decide ((ln:Int) < 0) || decide ((ln:Int) > (cn:Int))) = false:=by
        rw [t1,Bool.false_or,Bool.or_eq_false_iff,decide_eq_false_iff_not,decide_eq_false_iff_not]
        exact ⟨by omega,by omega⟩
       simp only [t2,Bool.false_eq_true,if_false,Sem.run_bind,run_askRoom,Result.andThen_ok,run_sizeOf hein,Int.toNat_natCast]
       by_cases h0:cn * einfo.size = 0
       ·have:times z cn = []:=by
         apply List.eq_nil_of_length_eq_zero; rw [times_length,← hsz]; exact h0
        have e0:∀ f:Nat→Value,(Array.map f (Array.range (cn * einfo.size))) = ([]:List Value).toArray:=by intro f; rw [h0]; simp
        simp only [if_pos h0,Sem.run_bind,Sem.run_pure,Result.andThen_ok,e0,this]
        rfl
       ·simp only [if_neg h0,Sem.run_bind,run_zeroValue hein h2,Result.andThen_ok,Sem.run_pure,hrt]
        rfl
      simp only [execOp,ho,Sem.run_bind]
      rw [hdone]
      rfl
     ·trivial
    ·trivial
   ·trivial
  ·trivial
 ·trivial

theorem arm_extract (hg:Good E B w₀ π H w) (hρ:TRel π ρ size a.tmps) (x:Operand) (i:Nat) (o:Oper) (ho:o.op = .extract x i) (ty:TypeId) :
  Out E B w₀ H.next π P (armExtract x i E ρ H ty) ((execOp a.eval o).run P w):=by
 have hx:=hρ.eval x
 unfold armExtract extracted
 split
 ·rename_i vs hxe
  rw [hxe] at hx
  obtain ⟨vs',h1,h2⟩:=hx.tuple_inv
  refine out_ofVal hg fun v hv=>?_
  rw [lget_eq] at hv
  obtain ⟨v',h3,h4⟩:=h2.at hv
  refine ⟨v',h4,?_⟩
  rw [Array.getElem?_toList] at h3
  simp [execOp,ho,h1,Instr.extract,h3]
 ·trivial

theorem part_ok (hE:Ok E P) {t:TypeId} {i:TI} (hi:E.ty t = some i) {cs:List Value} {cs':Array Value} (hc:LRel π cs cs'.toList) {off:Nat} {v:Value} (h:Rx.part cs off i = some v) :
  ∃ v',(Go.part t cs' off).run P w = .ok v' w∧VRel π v v':=by
 obtain ⟨info,hu,hin,hagg,hsz,_⟩:=hE.ty t i hi
 unfold Rx.part at h
 unfold Go.part
 simp only [Sem.run_bind,run_isAgg hu,Result.andThen_ok,← hagg]
 split at h
 ·rename_i hb
  split at h
  ·rename_i hle
   have hle:off + i.size≤cs.length:=Nat.le_of_ble_eq_true hle
   cases h
   refine ⟨.agg (cs'.extract off (off + info.size)),by simp [hb,run_sizeOf hin],?_⟩
   refine .agg ?_ ?_
   ·have:=hc.1; simp at this ⊢; rw [← hsz]; omega
   ·intro k x x' hx hx'
    have:=(hc.drop off).take i.size
    refine this.2 k x x' hx ?_
    rw [← hx']
    simp [List.extract_eq_take_drop,hsz]
  ·cases h
 ·rename_i hb
  rw [lget_eq] at h
  obtain ⟨v',h1,h2⟩:=hc.at h
  rw [Array.getElem?_toList] at h1
  exact ⟨v',by simp [hb,h1],h2⟩

theorem arm_field (hE:Ok E P) (hg:Good E B w₀ π H w) (hρ:TRel π ρ size a.tmps) (t:TypeId) (x:Operand) (f:Nat) (o:Oper) (ho:o.op = .field t x f) (ty:TypeId) :
  Out E B w₀ H.next π P (armField t x f E ρ H ty) ((execOp a.eval o).run P w):=by
 have hx:=hρ.eval x
 unfold armField fieldF
 split
 ·rename_i fd hfd
  unfold fieldOf at hfd
  split at hfd
  ·rename_i i hi
   obtain ⟨info,hu,_⟩:=hE.ty t i hi
   split at hfd
   ·rename_i fields hd
    rw [hd] at hu
    rw [lget_eq,Array.getElem?_toList] at hfd
    split
    ·rename_i cs hxe
     rw [hxe] at hx
     obtain ⟨cs',h1,h2⟩:=hx.agg_inv
     unfold partOf
     split
     ·rename_i fi hfi
      refine out_ofVal hg fun v hv=>?_
      obtain ⟨v',h3,h4⟩:=part_ok (w:=w) hE hfi h2 hv
      exact ⟨v',h4,by simp [execOp,ho,h1,Instr.field,run_underlying hu,hfd,asAgg,h3]⟩
     ·trivial
    ·trivial
   ·cases hfd
  ·cases hfd
 ·trivial

theorem arm_fieldAddr (hE:Ok E P) (hg:Good E B w₀ π H w) (hρ:TRel π ρ size a.tmps) (t:TypeId) (x:Operand) (f:Nat) (o:Oper) (ho:o.op = .fieldAddr t x f) (ty:TypeId) :
  Out E B w₀ H.next π P (armFieldAddr t x f E ρ H ty) ((execOp a.eval o).run P w):=by
 have hx:=hρ.eval x
 unfold armFieldAddr fieldAddrF
 split
 ·rename_i fd hfd
  unfold fieldOf at hfd
  split at hfd
  ·rename_i i hi
   obtain ⟨info,hu,_⟩:=hE.ty t i hi
   split at hfd
   ·rename_i fields hd
    rw [hd] at hu
    rw [lget_eq,Array.getElem?_toList] at hfd
    split
    ·rename_i r off hxe
     rw [hxe] at hx
     obtain ⟨ii,hr,hv⟩:=hx.ptr_inv
     unfold fieldPtr
     split
     ·rename_i fi hfi
      obtain ⟨finfo,hfu,hfin,_,hfs,_⟩:=hE.ty _ fi hfi
      split
      ·trivial
      ·rename_i hz
       have hz:finfo.size≠0:=by
        intro e; rw [hfs,e] at hz; simp at hz
       refine out_val hg (VRel.ptr (o:=off + fd.offset) hr) ?_
       have hadd:((⟨ii.block,ii.delta + off,none⟩:Addr).add fd.offset) = ⟨ii.block,ii.delta + (off + fd.offset),none⟩:=by
        unfold Addr.add; split <;> simp_all [Nat.add_assoc]
       simp [execOp,ho,hv,Instr.fieldAt,run_underlying hu,hfd,Instr.sureAddr,fieldPlace,run_sizeOf hfin,hz,hadd]
     ·trivial
    ·trivial
   ·cases hfd
  ·cases hfd
 ·trivial

theorem indexOf_spec {n j:Nat} {v v':Value} (hv:VRel π v v') (h:indexOf n v = some j):∃ k,v' = .int k (j:Int)∧j < n:=by
 unfold indexOf at h
 split at h
 ·rename_i k m
  unfold below at h
  split at h
  ·split at h
   ·rename_i hle
    cases h
    exact ⟨k,hv.int_inv,Nat.le_of_ble_eq_true hle⟩
   ·cases h
  ·cases h
 ·cases h

theorem arm_indexAddr (hE:Ok E P) (hg:Good E B w₀ π H w) (hρ:TRel π ρ size a.tmps) (t:TypeId) (x j:Operand) (o:Oper) (ho:o.op = .indexAddr t x j) (ty:TypeId) :
  Out E B w₀ H.next π P (armIndexAddr t x j E ρ H ty) ((execOp a.eval o).run P w):=by
 have hx:=hρ.eval x
 have hj:=hρ.eval j
 unfold armIndexAddr indexAddrTI
 split
 ·trivial
 ·rename_i i hi
  obtain ⟨info,hu,_⟩:=hE.ty t i hi
  split
  ·rename_i n elem hd
   rw [hd] at hu
   split
   ·rename_i r off hxe
    rw [hxe] at hx
    obtain ⟨ii,hr,hv⟩:=hx.ptr_inv
    unfold elemPtr
    split
    ·rename_i ei hei
     obtain ⟨einfo,_,hein,_,hes,_⟩:=hE.ty _ ei hei
     split
     ·rename_i k hk
      obtain ⟨kk,hjv,hlt⟩:=indexOf_spec hj hk
      refine out_val hg (VRel.ptr (o:=off + k * ei.size) hr) ?_
      have hadd:((⟨ii.block,ii.delta + off,none⟩:Addr).add (k * einfo.size)) = ⟨ii.block,ii.delta + (off + k * ei.size),none⟩:=by
       rw [hes]; unfold Addr.add; split <;> simp_all [Nat.add_assoc]
      simp [execOp,ho,hv,hjv,Instr.indexAt,asIntOf,run_underlying hu,Instr.sureAddr,run_sizeOf hein,hlt,hadd]
     ·trivial
    ·trivial
   ·trivial
  ·rename_i elem hd
   rw [hd] at hu
   split
   ·rename_i r off sp n c hxe
    rw [hxe] at hx
    split
    ·trivial
    rename_i hvo
    obtain ⟨ii,c',hr,hv⟩:=hx.slice_any hvo
    unfold elemPtr
    split
    ·rename_i ei hei
     obtain ⟨einfo,_,hein,_,hes,_⟩:=hE.ty _ ei hei
     split
     ·rename_i k hk
      obtain ⟨kk,hjv,hlt⟩:=indexOf_spec hj hk
      refine out_val hg (VRel.ptr (o:=off + k * ei.size) hr) ?_
      have hadd:((⟨ii.block,ii.delta + off,none⟩:Addr).add (k * einfo.size)) = ⟨ii.block,ii.delta + (off + k * ei.size),none⟩:=by
       rw [hes]; unfold Addr.add; split <;> simp_all [Nat.add_assoc]
      simp [execOp,ho,hv,hjv,Instr.indexAt,asIntOf,run_underlying hu,Instr.sureAddr,run_sizeOf hein,hlt,hadd]
     ·trivial
    ·trivial
   ·trivial
  ·trivial

theorem arm_index (hE:Ok E P) (hg:Good E B w₀ π H w) (hρ:TRel π ρ size a.tmps) (t:TypeId) (x j:Operand) (o:Oper) (ho:o.op = .index t x j) (ty:TypeId) :
  Out E B w₀ H.next π P (armIndex t x j E ρ H ty) ((execOp a.eval o).run P w):=by
 have hx:=hρ.eval x
 have hj:=hρ.eval j
 unfold armIndex indexTI
 split
 ·trivial
 ·rename_i i hi
  obtain ⟨info,hu,_⟩:=hE.ty t i hi
  split
  ·rename_i n elem hd
   rw [hd] at hu
   split
   ·rename_i cs hxe
    rw [hxe] at hx
    obtain ⟨cs',hv,hc⟩:=hx.agg_inv
    unfold Rx.elemOf
    split
    ·rename_i ei hei
     obtain ⟨einfo,_,hein,_,hes,_⟩:=hE.ty _ ei hei
     split
     ·rename_i k hk
      obtain ⟨kk,hjv,hlt⟩:=indexOf_spec hj hk
      refine out_ofVal hg fun v hv'=>?_
      obtain ⟨v',h3,h4⟩:=part_ok (w:=w) hE hei hc hv'
      refine ⟨v',h4,?_⟩
      have h3':(Go.part elem cs' (k * einfo.size)).run P w = .ok v' w:=by rw [← hes]; exact h3
      simp [execOp,ho,hv,hjv,Instr.index,asIntOf,run_underlying hu,run_sizeOf hein,hlt,h3']
     ·trivial
    ·trivial
   ·trivial
  ·rename_i hd
   rw [hd] at hu
   split
   ·rename_i s hxe
    rw [hxe] at hx
    have hv:=hx.string_inv
    unfold byteAt
    split
    ·rename_i k hk
     obtain ⟨kk,hjv,hlt⟩:=indexOf_spec hj hk
     split
     ·rename_i b hb
      rw [lget_eq,Array.getElem?_toList] at hb
      refine out_val hg (.int _ _) ?_
      have hb':s[k]? = some b:=by
       have h1:k < s.size:=hlt
       obtain ⟨h2,h3⟩:=Array.getElem?_eq_some_iff.1 hb
       rw [getElem?_pos s k h1]
       congr 1
      simp [execOp,ho,hv,hjv,Instr.index,asIntOf,run_underlying hu,hb',byteVal]
     ·trivial
    ·trivial
   ·trivial
  ·trivial

end
end Go.Rx

namespace Go.Rx
open Go.RowKit
variable [Unknowns]

section
variable {E:Env} {B:Nat} {w₀:World} {π:Places} {H:Heap} {w:World} {P:Program} {ρ:T Value} {size:Nat} {a:Act}

def ORelV (π:Places):Option Value→Option Value→Prop
 | none,none=>True
 | some v,some v'=>VRel π v v'
 | _,_=>False

theorem evalOpt_rel (hρ:TRel π ρ size a.tmps):∀ x:Option Operand,ORelV π (evalOpt ρ x) (x.map a.eval)
 | none=>trivial
 | some x=>hρ.eval x

theorem bound_spec {v v':Option Value} (hv:ORelV π v v') {m d k:Nat} (h:bound v m d = some k):(v' = none∧v = none∧k = d)∨(∃ u kk,v' = some u∧u = .int kk (k:Int)∧k≤m∧v.isSome = true):=by
 unfold bound at h
 split at h
 ·cases v' with
  | none=>exact hv.elim
  | some u =>
   obtain ⟨kk,h1,h2⟩:=asNat_spec (v':=u) hv h
   exact .inr ⟨u,kk,rfl,h1,h2,rfl⟩
 ·cases v' with
  | none=>cases h; exact .inl ⟨rfl,rfl,rfl⟩
  | some u=>exact hv.elim

theorem run_sliceBound {kk:IntKind} {k y:Nat} (h:k≤y) (code:BoundsCode):(Instr.sliceBound (.int kk (k:Int)) y code).run P w = .ok k w:=by
 unfold Instr.sliceBound
 have:(0:Int)≤(k:Int)∧(k:Int)≤(y:Int):=⟨by omega,by omega⟩
 simp [asIntOf,h]

theorem bounds_ok {len cap l h m:Nat} {lo hi mx lo' hi' mx':Option Value} (hlo:ORelV π lo lo') (hhi:ORelV π hi hi') (hmx:ORelV π mx mx') (hb:bounds len cap lo hi mx = some (l,h,m)) (isSlice:Bool) (cap':Nat) (hcap:cap≤cap') :
  ∃ m',(Instr.sliceBounds isSlice len cap' lo' hi' mx').run P w = .ok (l,h,m') w∧l≤h∧(hi.isSome = true→h≤m)∧((mx = none∧m = cap∧m' = cap')∨(mx.isSome = true∧m' = m∧m≤cap))∧(hi = none→h = len):=by
 unfold bounds at hb
 split at hb
 ·cases hb
 ·rename_i m0 hm0
  split at hb
  ·cases hb
  ·rename_i h0 hh0
   split at hb
   ·cases hb
   ·rename_i l0 hl0
    simp only [Option.some.injEq,Prod.mk.injEq] at hb
    obtain ⟨rfl,rfl,rfl⟩:=hb
    have hL:l0≤h0∧((lo' = none∧l0 = 0)∨∃ kk,lo' = some (.int kk (l0:Int))):=by
     rcases bound_spec hlo hl0 with ⟨r1,_,r2⟩ | ⟨u,kk,r1,r2,hle,_⟩
     ·exact ⟨by omega,.inl ⟨r1,r2⟩⟩
     ·exact ⟨hle,.inr ⟨kk,by rw [r1,r2]⟩⟩
    obtain ⟨hle0,hlow⟩:=hL
    rcases bound_spec hmx hm0 with ⟨rfl,rfl,rfl⟩ | ⟨u,kk,rfl,rfl,hle,hsome⟩
    ·-- no third index
     have hH:((hi = none∧hi' = none∧h0 = len)∨(hi.isSome = true∧∃ u kk,hi' = some u∧u = .int kk (h0:Int)∧h0≤m0)):=by
      have hh:bound hi m0 len = some h0:=by
       cases hi <;> exact hh0
      rcases bound_spec hhi hh with ⟨r1,r2,r3⟩ | ⟨u,kk,r1,r2,hle,hs⟩
      ·exact .inl ⟨r2,r1,r3⟩
      ·exact .inr ⟨hs,u,kk,r1,r2,hle⟩
     refine ⟨cap',?_,hle0,?_,.inl ⟨rfl,rfl,rfl⟩,?_⟩
     ·unfold Instr.sliceBounds
      rcases hH with ⟨_,rfl,rfl⟩ | ⟨_,u,kk,rfl,rfl,hle⟩
      ·rcases hlow with ⟨rfl,rfl⟩ | ⟨kl,rfl⟩ <;> simp [run_sliceBound hle0]
      ·have:h0≤cap':=by omega
       rcases hlow with ⟨rfl,rfl⟩ | ⟨kl,rfl⟩ <;> simp [run_sliceBound this,run_sliceBound hle0]
     ·intro hs
      rcases hH with ⟨r,_⟩ | ⟨_,_,_,_,_,hle⟩
      ·rw [r] at hs; cases hs
      ·exact hle
     ·intro hn
      rcases hH with ⟨_,_,r⟩ | ⟨hs,_⟩
      ·exact r
      ·rw [hn] at hs; cases hs
    ·-- a third index
     cases mx with
     | none=>cases hsome
     | some mv =>
      have hi':hi.isSome = true∧bound hi m0 len = some h0:=by
       cases hi with
       | none=>simp at hh0
       | some x=>exact ⟨rfl,hh0⟩
      rcases bound_spec hhi hi'.2 with ⟨_,r2,_⟩ | ⟨u,k2,rfl,rfl,hle2,_⟩
      ·rw [r2] at hi'; cases hi'.1
      ·refine ⟨m0,?_,hle0,fun _=>hle2,.inr ⟨rfl,rfl,hle⟩,fun hn=>by rw [hn] at hi'; cases hi'.1⟩
       unfold Instr.sliceBounds
       have:m0≤cap':=by omega
       rcases hlow with ⟨rfl,rfl⟩ | ⟨kl,rfl⟩ <;> simp [run_sliceBound this,run_sliceBound hle2,run_sliceBound hle0]

theorem addr_add (b o n:Nat):((⟨b,o,none⟩:Addr).add n) = ⟨b,o + n,none⟩:=by unfold Addr.add; split <;> simp_all

theorem cutTo_rel {isz l m o:Nat} (ii:Info):(if m = l then (⟨ii.block,ii.delta + o,none⟩:Addr) else ⟨ii.block,ii.delta + o + l * isz,none⟩) = ⟨ii.block,ii.delta + cutTo isz o l m,none⟩:=by
 unfold cutTo
 by_cases r1:m = l
 ·have:Nat.beq m l = true:=by rw [r1]; exact Nat.beq_refl l
  simp only [this,if_pos r1]
 ·have:Nat.beq m l = false:=by
   cases hq:Nat.beq m l with
   | false=>rfl
   | true=>exact absurd (Nat.eq_of_beq_eq_true hq) r1
  simp only [this,if_neg r1,Nat.add_assoc]
  rfl

theorem arm_slice (hE:Ok E P) (hg:Good E B w₀ π H w) (hρ:TRel π ρ size a.tmps) (t:TypeId) (x:Operand) (lo hi mx:Option Operand) (o:Oper) (ho:o.op = .slice t x lo hi mx) (ty:TypeId) :
  Out E B w₀ H.next π P (armSlice t x lo hi mx E ρ H ty) ((execOp a.eval o).run P w):=by
 have hx:=hρ.eval x
 have hlo:=evalOpt_rel hρ lo
 have hhi:=evalOpt_rel hρ hi
 have hmx:=evalOpt_rel hρ mx
 have hexec:∀ v',(Instr.sliceAt t (a.eval x) (lo.map a.eval) (hi.map a.eval) (mx.map a.eval)).run P w = .ok v' w→(execOp a.eval o).run P w = .ok (.value v') w:=by
  intro v' hv'
  simp only [execOp,ho,Sem.run_bind,hv']; rfl
 unfold armSlice
 split
 ·rename_i i hi'
  obtain ⟨info,hu,_⟩:=hE.ty t i hi'
  unfold sliceTI
  split
  ·-- a string
   rename_i hd
   rw [hd] at hu
   split
   ·rename_i s hxe
    rw [hxe] at hx
    have hv:=hx.string_inv
    unfold cutString
    split
    ·trivial
    ·rename_i hmn
     split
     ·trivial
     ·rename_i l h m hb
      rw [hmn] at hmx
      have hmx':mx.map a.eval = none:=by
       cases hq:mx.map a.eval with
       | none=>rfl
       | some u=>rw [hq] at hmx; exact hmx.elim
      obtain ⟨m',h1,_⟩:=bounds_ok (P:=P) (w:=w) hlo hhi (mx:=none) (mx':=none) trivial hb false s.size (Nat.le_refl _)
      refine out_val hg (.string _) (hexec _ ?_)
      unfold Instr.sliceAt
      simp only [Sem.run_bind,run_underlying hu,Result.andThen_ok]
      unfold Instr.slice
      simp only [Sem.run_bind,run_underlying hu,Result.andThen_ok,hv,hmx',Option.isSome_none,Bool.false_eq_true,if_false,h1,Sem.run_pure]

   ·trivial
  ·-- a slice
   rename_i elem hd
   rw [hd] at hu
   split
   ·trivial
   ·rename_i ei hei
    obtain ⟨einfo,_,hein,_,hes,_⟩:=hE.ty _ ei hei
    split
    ·rename_i len cap hxe
     rw [hxe] at hx
     have hv:a.eval x = .slice none len cap:=by
      obtain ⟨v',hv'⟩:∃ v',a.eval x = v':=⟨_,rfl⟩
      rw [hv'] at hx ⊢
      cases hx; rfl
     unfold cutNil
     split
     ·trivial
     ·rename_i l h m hb
      obtain ⟨m',h1,_,_,h2,_⟩:=bounds_ok (P:=P) (w:=w) hlo hhi hmx hb true cap (Nat.le_refl _)
      have hm:m' = m:=by rcases h2 with ⟨_,r1,r2⟩ | ⟨_,r,_⟩ <;> omega
      subst hm
      refine out_val hg (.sliceNil _ _) (hexec _ ?_)
      unfold Instr.sliceAt
      simp only [Sem.run_bind,run_underlying hu,Result.andThen_ok]
      unfold Instr.slice
      simp only [Sem.run_bind,run_underlying hu,Result.andThen_ok,hv,h1,run_sizeOf hein,Sem.run_pure,Option.map_none,ite_self]
      rfl
    ·rename_i r off len cap hxe
     rw [hxe] at hx
     obtain ⟨ii,hr,hv⟩:=hx.slice_inv
     have two:Out E B w₀ H.next π P (cutOf H ei.size r off (evalOpt ρ mx).isNone (bounds len cap (evalOpt ρ lo) (evalOpt ρ hi) (evalOpt ρ mx))) ((execOp a.eval o).run P w):=by
      have hrun:∀ l h m',(Instr.sliceBounds true len (cap + ii.extra) (lo.map a.eval) (hi.map a.eval) (mx.map a.eval)).run P w = .ok (l,h,m') w →
        (execOp a.eval o).run P w = .ok (.value (.slice (some (if m' = l then ⟨ii.block,ii.delta + off,none⟩ else ⟨ii.block,ii.delta + off + l * einfo.size,none⟩)) (h - l) (m' - l))) w:=by
       intro l h m' h1
       refine hexec _ ?_
       unfold Instr.sliceAt
       simp only [Sem.run_bind,run_underlying hu,Result.andThen_ok]
       unfold Instr.slice
       simp only [Sem.run_bind,run_underlying hu,Result.andThen_ok,hv,h1,run_sizeOf hein,Sem.run_pure,Option.map_some,addr_add]
       split <;> rfl
      unfold cutOf
      split
      ·rename_i hmn
       unfold cutOpen
       split
       ·trivial
       ·rename_i l h m hb
        have hmx0:mx = none:=by
         cases mx with
         | none=>rfl
         | some x=>simp [evalOpt] at hmn
        obtain ⟨m',h1,hlh,_,h2,_⟩:=bounds_ok (P:=P) (w:=w) hlo hhi hmx hb true (cap + ii.extra) (Nat.le_add_right _ _)
        have hmm:m = cap∧m' = cap + ii.extra:=by
         rcases h2 with ⟨_,r1,r2⟩ | ⟨r,_,_⟩
         ·exact ⟨r1,r2⟩
         ·rw [hmx0] at r; simp [evalOpt] at r
        split
        ·rename_i hlt
         have hlt:l + 1≤m:=Nat.le_of_ble_eq_true hlt
         refine out_val hg ?_ (hrun l h m' h1)
         have hne:¬ m' = l:=by omega
         rw [if_neg hne]
         have:=VRel.slice (o:=off + l * ei.size) (l:=h - l) (c:=m - l) hr
         have e1:m - l + ii.extra = m' - l:=by omega
         rw [e1,← Nat.add_assoc] at this
         rw [← hes]
         exact this
        ·unfold cutAll
         split
         ·rename_i hz
          simp only [Bool.and_eq_true] at hz
          have hz1:h - l = 0:=Nat.eq_of_beq_eq_true hz.1
          refine out_val hg ?_ (hrun l h m' h1)
          rw [hz1]
          exact VRel.void _ _
         ·trivial
      ·rename_i hmn
       unfold cutLim
       split
       ·trivial
       ·rename_i l h m hb
        obtain ⟨m',h1,hlh,_,h2,_⟩:=bounds_ok (P:=P) (w:=w) hlo hhi hmx hb true (cap + ii.extra) (Nat.le_add_right _ _)
        have hm:m' = m:=by
         rcases h2 with ⟨r0,_,_⟩ | ⟨_,r,_⟩
         ·cases mx with
          | none=>simp [evalOpt] at hmn
          | some x=>simp [evalOpt] at r0
         ·exact r
        subst hm
        refine out_val hg ?_ (hrun l h m' h1)
        rw [hes] at *
        rw [cutTo_rel (isz:=einfo.size) (l:=l) (m:=m') (o:=off) ii]
        exact VRel.lim hr
     unfold cutObj
     split
     ·rename_i e n xx cs hrow
      obtain ⟨c,hh1,hh2,hh3,hh4⟩:=hg.objs r ii _ hr hrow
      have hrun:∀ l h m',(Instr.sliceBounds true len (cap + ii.extra) (lo.map a.eval) (hi.map a.eval) (mx.map a.eval)).run P w = .ok (l,h,m') w →
        (execOp a.eval o).run P w = .ok (.value (.slice (some (if m' = l then ⟨ii.block,ii.delta + off,none⟩ else ⟨ii.block,ii.delta + off + l * einfo.size,none⟩)) (h - l) (m' - l))) w:=by
       intro l h m' h1
       refine hexec _ ?_
       unfold Instr.sliceAt
       simp only [Sem.run_bind,run_underlying hu,Result.andThen_ok]
       unfold Instr.slice
       simp only [Sem.run_bind,run_underlying hu,Result.andThen_ok,hv,h1,run_sizeOf hein,Sem.run_pure,Option.map_some,addr_add]
       split <;> rfl
      split
      ·-- exact
       have he:=hh3 rfl
       rw [he] at hrun
       unfold cutExact
       split
       ·trivial
       ·rename_i l h m hb
        obtain ⟨m',h1,hlh,_,h2,_⟩:=bounds_ok (P:=P) (w:=w) hlo hhi hmx hb true cap (Nat.le_refl _)
        have hm:m' = m:=by rcases h2 with ⟨_,r1,r2⟩ | ⟨_,r,_⟩ <;> omega
        subst hm
        refine out_val hg ?_ (hrun l h m' h1)
        rw [hes] at *
        have:=cutTo_rel (isz:=einfo.size) (l:=l) (m:=m') (o:=off) ii
        rw [this]
        have:=VRel.slice (o:=cutTo einfo.size off l m') (l:=h - l) (c:=m' - l) hr
        rw [he] at this
        exact this
      ·exact two
     ·exact two
     ·trivial
    ·rename_i r off len cap hxe
     rw [hxe] at hx
     obtain ⟨ii,hr,hv⟩:=hx.lim_inv
     unfold cutLim
     split
     ·trivial
     ·rename_i l h m hb
      obtain ⟨m',h1,hlh,_,h2,_⟩:=bounds_ok (P:=P) (w:=w) hlo hhi hmx hb true cap (Nat.le_refl _)
      have hm:m' = m:=by rcases h2 with ⟨_,r1,r2⟩ | ⟨_,r,_⟩ <;> omega
      subst hm
      have hrun:(Instr.sliceAt t (a.eval x) (lo.map a.eval) (hi.map a.eval) (mx.map a.eval)).run P w = .ok (.slice (some (if m' = l then ⟨ii.block,ii.delta + off,none⟩ else ⟨ii.block,ii.delta + off + l * einfo.size,none⟩)) (h - l) (m' - l)) w:=by
       unfold Instr.sliceAt
       simp only [Sem.run_bind,run_underlying hu,Result.andThen_ok]
       unfold Instr.slice
       simp only [Sem.run_bind,run_underlying hu,Result.andThen_ok,hv,h1,run_sizeOf hein,Sem.run_pure,Option.map_some,addr_add]
       split <;> rfl
      refine out_val hg ?_ (hexec _ hrun)
      rw [hes] at *
      rw [cutTo_rel (isz:=einfo.size) (l:=l) (m:=m') (o:=off) ii]
      exact VRel.lim hr
    ·rename_i r off len cap hxe
     rw [hxe] at hx
     have hv:∃ b c,a.eval x = .slice (some b) 0 c:=by
      obtain ⟨v',hv'⟩:∃ v',a.eval x = v':=⟨_,rfl⟩
      rw [hv'] at hx ⊢
      cases hx
      exact ⟨_,_,rfl⟩
     obtain ⟨b,c,hv⟩:=hv
     unfold cutVoid
     split
     ·rename_i hmn
      split
      ·trivial
      ·rename_i q hb
       obtain ⟨l,h,m⟩:=q
       obtain ⟨m',h1,hlh,hhm,h2,hn⟩:=bounds_ok (P:=P) (w:=w) hlo hhi hmx hb true c (Nat.zero_le _)
       have hmm:m = 0:=by
        rcases h2 with ⟨_,r1,_⟩ | ⟨r,_,_⟩
        ·exact r1
        ·cases mx with
         | none=>simp [evalOpt] at r
         | some x=>simp [evalOpt] at hmn
       have hz:h - l = 0:=by
        cases hq:evalOpt ρ hi with
        | none=>have:=hn hq; omega
        | some u=>have:=hhm (by rw [hq]; rfl); omega
       have hrun:(Instr.sliceAt t (a.eval x) (lo.map a.eval) (hi.map a.eval) (mx.map a.eval)).run P w = .ok (.slice (some (if m' = l then b else b.add (l * einfo.size))) (h - l) (m' - l)) w:=by
        unfold Instr.sliceAt
        simp only [Sem.run_bind,run_underlying hu,Result.andThen_ok]
        unfold Instr.slice
        simp only [Sem.run_bind,run_underlying hu,Result.andThen_ok,hv,h1,run_sizeOf hein,Sem.run_pure,Option.map_some,addr_add]
        split <;> rfl
       refine out_val hg ?_ (hexec _ hrun)
       rw [hz]
       exact VRel.void _ _
     ·trivial
    ·trivial
  ·-- an array's address
   rename_i n elem hd
   rw [hd] at hu
   split
   ·trivial
   ·rename_i ei hei
    obtain ⟨einfo,_,hein,_,hes,_⟩:=hE.ty _ ei hei
    split
    ·rename_i r off hxe
     rw [hxe] at hx
     obtain ⟨ii,hr,hv⟩:=hx.ptr_inv
     unfold cutLim
     split
     ·trivial
     ·rename_i l h m hb
      obtain ⟨m',h1,hlh,_,h2,_⟩:=bounds_ok (P:=P) (w:=w) hlo hhi hmx hb false n (Nat.le_refl _)
      have hm:m' = m:=by rcases h2 with ⟨_,r1,r2⟩ | ⟨_,r,_⟩ <;> omega
      subst hm
      have hrun:(Instr.sliceAt t (a.eval x) (lo.map a.eval) (hi.map a.eval) (mx.map a.eval)).run P w = .ok (.slice (some (if m' = l then ⟨ii.block,ii.delta + off,none⟩ else ⟨ii.block,ii.delta + off + l * einfo.size,none⟩)) (h - l) (m' - l)) w:=by
       unfold Instr.sliceAt
       simp only [Sem.run_bind,run_underlying hu,Result.andThen_ok,hv,Instr.sureAddr,Sem.run_pure,h1,run_sizeOf hein,addr_add]
      refine out_val hg ?_ (hexec _ hrun)
      rw [hes] at *
      rw [cutTo_rel (isz:=einfo.size) (l:=l) (m:=m') (o:=off) ii]
      exact VRel.lim hr
    ·trivial
  ·trivial
 ·trivial

/-! Built-in functions that only read. -/

theorem mapOf_ok (hg:Good E B w₀ π H w) {m m':Value} (hm:VRel π m m') {es:List Entry} {c:Nat} (h:mapOf H m = some (es,c)) :
  (m' = .map none∧es = [])∨∃ r i es',m = .map (some r)∧π r = some i∧m' = .map (some i.block)∧H.objs.get r = some (.map es c)∧w.heap[i.block]? = some (.map es' c)∧es'.size = es.length∧∀ (k:Nat) (e:Entry) (e':MapEntry),es[k]? = some e→es'.toList[k]? = some e'→ERel π e e':=by
 unfold mapOf at h
 split at h
 ·cases h; cases hm; exact .inl ⟨rfl,rfl⟩
 ·rename_i r
  obtain ⟨i,hr,rfl⟩:=hm.map_inv
  unfold entriesOf at h
  split at h
  ·rename_i es0 c0 ho
   simp only [Option.some.injEq,Prod.mk.injEq] at h
   obtain ⟨rfl,rfl⟩:=h
   obtain ⟨es',h1,h2,h3⟩:=hg.objs r i _ hr ho
   exact .inr ⟨r,i,es',rfl,hr,rfl,ho,h1,h2,h3⟩
  ·cases h
 ·cases h

theorem run_getObj_map {r:Nat} {es:Array MapEntry} {c:Nat} (h:w.heap[r]? = some (.map es c)):(getObj r).run P w = .ok (.map es c) w:=by simp [getObj,Sem.run,h]

theorem lenTI_ok (hE:Ok E P) (hg:Good E B w₀ π H w) {t ty:TypeId} {i:TI} (hi:E.ty t = some i) {x x' v:Value} (hx:VRel π x x') (h:lenTI E H x i = some v) (args:Array Value) (ha:args[0]? = some x') (ts:Array TypeId) (ht:ts[0]? = some t) :
  (Builtin.len_ ts ty args).run P w = .ok v w∧VRel π v v:=by
 obtain ⟨info,hu,_⟩:=hE.ty t i hi
 unfold Builtin.len_
 simp only [ha,ht]
 unfold lenTI at h
 split at h
 ·rename_i hd
  rw [hd] at hu
  split at h
  ·cases h; cases hx; exact ⟨by simp [run_underlying hu,goInt],.int _ _⟩
  ·cases h
 ·rename_i n e hd
  rw [hd] at hu
  cases h
  exact ⟨by simp [run_underlying hu,goInt],.int _ _⟩
 ·rename_i e hd
  rw [hd] at hu
  split at h
  ·cases h; cases hx <;> exact ⟨by simp [run_underlying hu,goInt],.int _ _⟩
  ·cases h
 ·rename_i k e hd
  rw [hd] at hu
  unfold lenOfMap at h
  split at h
  ·rename_i es c hm
   cases h
   rcases mapOf_ok hg hx hm with ⟨rfl,rfl⟩ | ⟨r,i,es',_,_,rfl,_,h1,h2,_⟩
   ·exact ⟨by simp [run_underlying hu,goInt],.int _ _⟩
   ·exact ⟨by simp [run_underlying hu,goInt,run_getObj_map h1,h2],.int _ _⟩
  ·cases h
 ·rename_i arr hd
  rw [hd] at hu
  split at h
  ·rename_i j hj
   obtain ⟨jinfo,hju,_⟩:=hE.ty _ j hj
   split at h
   ·rename_i n e hd2
    rw [hd2] at hju
    cases h
    exact ⟨by simp [run_underlying hu,run_underlying hju,goInt],.int _ _⟩
   ·cases h
  ·cases h
 ·cases h

theorem capTI_ok (hE:Ok E P) (hg:Good E B w₀ π H w) {t ty:TypeId} {i:TI} (hi:E.ty t = some i) {x x' v:Value} (hx:VRel π x x') (h:capTI H x i = some v) (args:Array Value) (ha:args[0]? = some x') (ts:Array TypeId) (ht:ts[0]? = some t) :
  (Builtin.cap_ ts ty args).run P w = .ok v w∧VRel π v v:=by
 obtain ⟨info,hu,_⟩:=hE.ty t i hi
 unfold Builtin.cap_
 simp only [ha,ht]
 unfold capTI at h
 split at h
 ·rename_i e hd
  rw [hd] at hu
  split at h
  ·cases h; cases hx; exact ⟨by simp [run_underlying hu,goInt],.int _ _⟩
  ·rename_i r o n c
   unfold capOf at h
   split at h
   ·rename_i e' n' xx cs hrow
    split at h
    ·cases h
     obtain ⟨ii,hr,rfl⟩:=hx.slice_inv
     obtain ⟨c',_,_,hex,_⟩:=hg.objs _ ii _ hr hrow
     have:=hex rfl
     exact ⟨by simp [run_underlying hu,goInt,this],.int _ _⟩
    ·cases h
   ·cases h
  ·cases h
   obtain ⟨ii,hr,rfl⟩:=hx.lim_inv
   exact ⟨by simp [run_underlying hu,goInt],.int _ _⟩
  ·cases h
 ·cases h

end
end Go.Rx

namespace Go.Rx
open Go.RowKit
variable [Unknowns]

section
variable {E:Env} {B:Nat} {w₀:World} {π:Places} {H:Heap} {w:World} {P:Program} {ρ:T Value} {size:Nat} {a:Act}

theorem run_equalIn_now (d:Nat) {t:TypeId} {D:TypeDesc} (hd:P.underlying t = some D) {k k':Value} {b:Bool} (h:Instr.sameNow D k k' = some b):(Op.equalIn (d + 1) t k k').run P w = .ok b w:=by
 unfold Op.equalIn
 simp only [Sem.run_bind,run_underlying hd,Result.andThen_ok]
 unfold Instr.sameNow at h
 split at h
 ·rename_i kk k1 x k2 y
  split at h
  ·rename_i hk
   cases h
   simp [hk]
  ·cases h
 ·cases h; simp
 ·cases h; simp
 ·cases h

theorem run_equal_now {t:TypeId} {D:TypeDesc} (hd:P.underlying t = some D) {k k':Value} {b:Bool} (h:Instr.sameNow D k k' = some b):(Op.equal t k k').run P w = .ok b w:=run_equalIn_now 9999 hd h

structure KeyOk (P:Program) (t:TypeId) (k:Value):Prop where
 data:isData 4 k = true
 check:∀ b w,(Instr.checkKey b 10000 t k).run P w = .ok () w
 int:∀ n,k = .int .i64 n→P.underlying t = some (.int .i64)

theorem run_checkKey_int (b:Bool) (d:Nat) {t:TypeId} (hd:P.underlying t = some (.int .i64)) (n:Int):(Instr.checkKey b (d + 1) t (.int .i64 n)).run P w = .ok () w:=by
 unfold Instr.checkKey
 simp only [Sem.run_bind,run_underlying hd,Result.andThen_ok]
 rfl

theorem keyOk_spec (hE:Ok E P) {t:TypeId} {k:Value} (h:keyOk E t k = true):KeyOk P t k:=by
 unfold keyOk at h
 split at h
 ·rename_i n
  split at h
  ·rename_i i hi
   obtain ⟨info,hu,_⟩:=hE.ty t i hi
   unfold isI64 at h
   split at h
   ·rename_i hd
    rw [hd] at hu
    exact ⟨rfl,fun b w=>run_checkKey_int b 9999 hu n,fun _ _=>hu⟩
   ·cases h
  ·cases h
 ·rename_i hne
  simp only [Bool.and_eq_true] at h
  obtain ⟨⟨h1,h2⟩,h3⟩:=h
  rw [hE.prog] at h2 h3
  refine ⟨h1,fun b w=>?_,fun n e=>absurd e (hne n)⟩
  obtain ⟨u,hu⟩:=Option.isSome_iff_exists.1 h2
  obtain ⟨v,hv⟩:=Option.isSome_iff_exists.1 h3
  cases b
  ·exact pureRun_run hu w
  ·exact pureRun_run hv w

theorem keyEq_run {t:TypeId} {k k' k'':Value} (hk:KeyOk P t k) (hv:VRel π k' k'') {b:Bool} (h:keyEq P t k k' = some b):(Op.equal t k k'').run P w = .ok b w∧k'' = k':=by
 unfold keyEq at h
 split at h
 ·rename_i m
  split at h
  ·rename_i n
   cases h
   cases hv
   refine ⟨?_,rfl⟩
   rw [eqI_eq]
   exact run_equal_now (hk.int m rfl) (by simp [Instr.sameNow])
  ·cases h
 ·split at h
  ·rename_i hd
   have e:=eq_of_isData 4 k' k'' hd hv
   exact ⟨by rw [e]; exact pureRun_run h w,e⟩
  ·cases h

def EsRel (π:Places) (es:List Entry) (es':List MapEntry):Prop:=es'.length = es.length∧∀ (k:Nat) (e:Entry) (e':MapEntry),es[k]? = some e→es'[k]? = some e'→ERel π e e'

theorem EsRel.cons_inv {e:Entry} {es:List Entry} {es':List MapEntry} (h:EsRel π (e :: es) es'):∃ e' r',es' = e' :: r'∧ERel π e e'∧EsRel π es r':=by
 obtain ⟨hl,hx⟩:=h
 cases es' with
 | nil=>simp at hl
 | cons e' r'=>exact ⟨e',r',rfl,hx 0 e e' rfl rfl,by simpa using hl,fun k x x' a b=>hx (k + 1) x x' (by simpa using a) (by simpa using b)⟩

def FRel (i:Nat) (es:List Entry) (es':List MapEntry) (r:Option (Nat×Entry)) (r':Option (Nat×Value)):Prop :=
 (r = none∧r' = none)∨∃ j e e',r = some (i + j,e)∧r' = some (i + j,e'.val)∧es[j]? = some e∧es'[j]? = some e'∧e'.key = e.1

theorem findKey_rel {t:TypeId} {k:Value} (hk:KeyOk P t k) {D:TypeDesc} (hd:P.underlying t = some D):∀ (es:List Entry) (es':List MapEntry) (i:Nat) (r:Option (Nat×Entry)),EsRel π es es'→Rx.findKey P t k es i = some r →
  ∃ r',(Instr.findAsking t k es' i).run P w = .ok r' w∧(∀ x,Instr.findNow D k es' i = some x→x = r')∧FRel i es es' r r':=by
 intro es
 induction es with
 | nil =>
  intro es' i r he h
  have:es' = []:=by have:=he.1; simpa using this
  subst this
  simp [Rx.findKey] at h
  subst h
  exact ⟨none,rfl,fun x hx=>by simp [Instr.findNow] at hx; exact hx.symm,.inl ⟨rfl,rfl⟩⟩
 | cons e es ih =>
  intro es' i r he h
  obtain ⟨e',r',rfl,hee,hrest⟩:=he.cons_inv
  simp only [Rx.findKey] at h
  split at h
  ·rename_i hkeq
   cases h
   obtain ⟨hrun,hke⟩:=keyEq_run (w:=w) hk hee.1 hkeq
   refine ⟨some (i,e'.val),by simp [Instr.findAsking,hrun],fun x hx=>?_,.inr ⟨0,e,e',rfl,rfl,rfl,rfl,hke⟩⟩
   simp only [Instr.findNow] at hx
   split at hx
   ·cases hx; rfl
   ·rename_i hs
    have:=run_equal_now (w:=w) hd hs
    rw [hrun] at this; cases this
   ·cases hx
  ·rename_i hkeq
   obtain ⟨hrun,hke⟩:=keyEq_run (w:=w) hk hee.1 hkeq
   obtain ⟨q,h1,h2,h3⟩:=ih r' (i + 1) r hrest h
   refine ⟨q,by simp [Instr.findAsking,hrun,h1],fun x hx=>?_,?_⟩
   ·simp only [Instr.findNow] at hx
    split at hx
    ·rename_i hs
     have:=run_equal_now (w:=w) hd hs
     rw [hrun] at this; cases this
    ·exact h2 x hx
    ·cases hx
   ·rcases h3 with ⟨rfl,rfl⟩ | ⟨j,f,f',rfl,rfl,a1,a2,a3⟩
    ·exact .inl ⟨rfl,rfl⟩
    ·exact .inr ⟨j + 1,f,f',by rw [show i + 1 + j = i + (j + 1) from by omega],by rw [show i + 1 + j = i + (j + 1) from by omega],by simpa using a1,by simpa using a2,a3⟩
  ·cases h

theorem run_findKey {t:TypeId} {k:Value} (hk:KeyOk P t k) {D:TypeDesc} (hd:P.underlying t = some D) {es:List Entry} {es':List MapEntry} {r:Option (Nat×Entry)} (he:EsRel π es es') (h:Rx.findKey P t k es 0 = some r) :
  ∃ r',(Instr.findKey t k es').run P w = .ok r' w∧FRel 0 es es' r r':=by
 obtain ⟨r',h1,h2,h3⟩:=findKey_rel (w:=w) hk hd es es' 0 r he h
 refine ⟨r',?_,h3⟩
 unfold Instr.findKey
 simp only [Sem.run_bind,run_underlying hd,Result.andThen_ok]
 cases hn:Instr.findNow D k es' 0 with
 | some x=>simp [h2 x hn]
 | none=>simpa using h1

theorem KeyOk.desc {t:TypeId} {k:Value} (h:KeyOk P t k) (w:World):∃ D,P.underlying t = some D:=by
 have:=h.check false w
 cases hq:P.underlying t with
 | some D=>exact ⟨D,rfl⟩
 | none =>
  exfalso
  rw [show (Instr.checkKey false 10000 t k) = Instr.checkKey false (9999 + 1) t k from rfl] at this
  unfold Instr.checkKey at this
  simp [underlying,hq] at this

theorem run_lookup {t kt et:TypeId} {m' k:Value} {ok:Bool} (hu:P.underlying t = some (.map kt et)) {es':Array MapEntry} (hes:(m' = .map none∧es' = #[])∨∃ r c,m' = .map (some r)∧w.heap[r]? = some (.map es' c))
  (hko:KeyOk P kt k) {r':Option (Nat×Value)} (hf:(Instr.findKey kt k es'.toList).run P w = .ok r' w) {z:Value} (hz:r' = none→(zeroValue et).run P w = .ok z w) :
  (Instr.lookup t m' k ok).run P w = .ok (match r' with | some (_,v)=>found ok v true | none=>found ok z false) w:=by
 unfold Instr.lookup
 rcases hes with ⟨rfl,rfl⟩ | ⟨r,c,rfl,hr⟩
 ·simp only [Sem.run_bind,run_underlying hu,Result.andThen_ok,Sem.run_pure,hko.check,hf]
  cases r' with
  | none=>simp only [Sem.run_bind,hz rfl,Result.andThen_ok,Sem.run_pure]; cases ok <;> rfl
  | some q=>obtain ⟨q1,q2⟩:=q; cases ok <;> rfl
 ·simp only [Sem.run_bind,run_underlying hu,Result.andThen_ok,Sem.run_pure,run_getObj_map hr,hko.check,hf]
  cases r' with
  | none=>simp only [Sem.run_bind,hz rfl,Result.andThen_ok,Sem.run_pure]; cases ok <;> rfl
  | some q=>obtain ⟨q1,q2⟩:=q; cases ok <;> rfl

theorem lookup_ok (hE:Ok E P) (hg:Good E B w₀ π H w) {t:TypeId} {m m' k k' v:Value} {ok:Bool} (hm:VRel π m m') (hk:VRel π k k') (h:aLookup E H t m k ok = some v) :
  ∃ v',(Instr.lookup t m' k' ok).run P w = .ok v' w∧VRel π v v':=by
 unfold aLookup at h
 split at h
 ·cases h
 ·rename_i i hi
  obtain ⟨info,hu,_⟩:=hE.ty t i hi
  split at h
  ·rename_i kt et hd
   rw [hd] at hu
   unfold lookIn at h
   split at h
   ·cases h
   ·rename_i hko
    have hko:=keyOk_spec hE hko
    have hkk:k' = k:=eq_of_isData 4 k k' hko.data hk
    subst hkk
    split at h
    ·cases h
    ·rename_i es c hmo
     split at h
     ·cases h
     ·rename_i ei hei
      obtain ⟨einfo,_,hein,_,_,_,hez⟩:=hE.ty et ei hei
      obtain ⟨es',hes1,hes⟩:∃ es':Array MapEntry,((m' = .map none∧es' = #[])∨∃ r c,m' = .map (some r)∧w.heap[r]? = some (.map es' c))∧EsRel π es es'.toList:=by
       rcases mapOf_ok hg hm hmo with ⟨rfl,rfl⟩ | ⟨r,ii,es',_,_,rfl,_,h1,h2,h3⟩
       ·exact ⟨#[],.inl ⟨rfl,rfl⟩,rfl,fun _ _ _ he=>by simp at he⟩
       ·exact ⟨es',.inr ⟨_,_,rfl,h1⟩,by simpa using h2,h3⟩
      obtain ⟨D,hD⟩:=hko.desc w
      unfold lookedUp at h
      rw [hE.prog] at h
      split at h
      ·cases h
      ·rename_i j kk vv bb hf
       cases h
       obtain ⟨r',hr1,hr2⟩:=run_findKey (w:=w) hko hD hes hf
       rcases hr2 with ⟨q,_⟩ | ⟨j',e,e',q1,rfl,q3,q4,q5⟩
       ·cases q
       ·simp only [Option.some.injEq,Prod.mk.injEq] at q1
        obtain ⟨rfl,rfl⟩:=q1
        have hee:=hes.2 _ _ _ q3 q4
        refine ⟨_,run_lookup (z:=Go.undef) (ok:=ok) hu hes1 hko hr1 (fun e=>by cases e),?_⟩
        cases ok
        ·exact hee.2.1
        ·exact VRel.tupleL (LRel.cons hee.2.1 (LRel.cons (.bool true) (LRel.nil π)))
      ·rename_i hf
       split at h
       ·cases h
       ·rename_i z hz
        cases h
        obtain ⟨hz1,hz2⟩:=hez z hz
        have hzv:VRel π z z:=VRel.refl_of_isData 3 z hz2
        obtain ⟨r',hr1,hr2⟩:=run_findKey (w:=w) hko hD hes hf
        rcases hr2 with ⟨_,rfl⟩ | ⟨j',e,e',q1,_⟩
        ·refine ⟨_,run_lookup (z:=z) (ok:=ok) hu hes1 hko hr1 (fun _=>run_zeroValue hein hz1),?_⟩
         cases ok
         ·exact hzv
         ·exact VRel.tupleL (LRel.cons hzv (LRel.cons (.bool false) (LRel.nil π)))
        ·cases q1
  ·cases h

theorem arm_lookup (hE:Ok E P) (hg:Good E B w₀ π H w) (hρ:TRel π ρ size a.tmps) (t:TypeId) (x y:Operand) (ok:Bool) (o:Oper) (ho:o.op = .lookup t x y ok) (ty:TypeId) :
  Out E B w₀ H.next π P (armLookup t x y ok E ρ H ty) ((execOp a.eval o).run P w):=by
 unfold armLookup
 refine out_ofVal hg fun v hv=>?_
 obtain ⟨v',h1,h2⟩:=lookup_ok hE hg (hρ.eval x) (hρ.eval y) hv
 exact ⟨v',h2,by simp only [execOp,ho,Sem.run_bind,h1]; rfl⟩

/-! Writing into a map. -/

theorem setAt_eq (es:List Entry) (i:Nat) (e:Entry):setAt es i e = es.set i e:=by
 induction es generalizing i with
 | nil=>rfl
 | cons x es ih=>cases i with
  | zero=>rfl
  | succ i=>simp [setAt,ih]

theorem setObj_below {r:Nat} {o o':Obj} (h:w.heap[r]? = some o) (hc:∀ c e f,o≠.cells c e f):(setObj r o').run P w = .ok () { w with heap:=w.heap.setIfInBounds r o' }:=by
 cases o <;> first | (simp [setObj,Sem.run,h]; done) | (exact absurd rfl (hc _ _ _))

theorem Good.turnObj (hg:Good E B w₀ π H w) {r:Nat} {i:Info} (hr:π r = some i) (hl:isLive (H.objs.get r) = true) (o:AObj) (o':Obj) (ho:∀ w',w'.heap[i.block]? = some o'→ORel E π o i w') (hnl:isLent (some o) = false:=by rfl) :
  Good E B w₀ π (H.set r o) { w with heap:=w.heap.setIfInBounds i.block o' }:=by
 have hb:=hg.blk r i hr
 refine hg.turn hr hl o ⟨rfl,rfl,rfl,by simp,fun k hk=>?_⟩ (by simp) (fun k hk=>?_) (ho _ ?_) hnl
 ·show (w.heap.setIfInBounds i.block o')[k]? = _
  rw [Array.getElem?_setIfInBounds_ne (by omega)]
 ·show (w.heap.setIfInBounds i.block o')[k]? = _
  rw [Array.getElem?_setIfInBounds_ne (by omega)]
 ·show (w.heap.setIfInBounds i.block o')[i.block]? = _
  rw [Array.getElem?_setIfInBounds_self_of_lt hb]

theorem EsRel.set {es:List Entry} {es':Array MapEntry} (h:EsRel π es es'.toList) {j:Nat} {e:Entry} {e':MapEntry} (f:MapEntry→MapEntry) (he':es'.toList[j]? = some e') (hf:ERel π e (f e')):EsRel π (es.set j e) (es'.modify j f).toList:=by
 refine ⟨by simpa using h.1,fun k x x' hx hx'=>?_⟩
 rw [Array.getElem?_toList,Array.getElem?_modify] at hx'
 by_cases hk:j = k
 ·subst hk
  rw [if_pos rfl,← Array.getElem?_toList,he'] at hx'
  simp at hx'
  subst hx'
  have hj:j < es.length:=by rw [← h.1]; exact (List.getElem?_eq_some_iff.1 he').1
  rw [List.getElem?_set_self hj] at hx
  cases hx; exact hf
 ·rw [if_neg hk,← Array.getElem?_toList] at hx'
  rw [List.getElem?_set_ne hk] at hx
  exact h.2 k x x' hx hx'

theorem EsRel.push {es:List Entry} {es':Array MapEntry} (h:EsRel π es es'.toList) {e:Entry} {e':MapEntry} (hf:ERel π e e'):EsRel π (es ++ [e]) (es'.push e').toList:=by
 have hl:=h.1
 refine ⟨by simp at hl ⊢; omega,fun k x x' hx hx'=>?_⟩
 rw [Array.toList_push] at hx'
 by_cases hk:k < es.length
 ·rw [List.getElem?_append_left hk] at hx
  rw [List.getElem?_append_left (by omega)] at hx'
  exact h.2 k x x' hx hx'
 ·rw [List.getElem?_append_right (by omega)] at hx
  rw [List.getElem?_append_right (by omega)] at hx'
  have hk0:k - es.length = 0:=by
   have:=(List.getElem?_eq_some_iff.1 hx).1; simp at this; omega
  rw [hk0] at hx
  rw [hl,hk0] at hx'
  simp at hx hx'
  subst hx; subst hx'; exact hf

theorem run_keepKey {old new:Value} (h:Instr.sameBits 10000 old new = true):(Instr.keyThatStays old new).run P w = .ok new w:=by
 unfold Instr.keyThatStays
 simp [h]

theorem map_write (hE:Ok E P) (hg:Good E B w₀ π H w) {r:Nat} {es:List Entry} {c:Nat} (hm:entriesOf (H.objs.get r) = some (es,c)) {i:Info} (hr:π r = some i) {kt:TypeId} {k:Value} (hko:KeyOk P kt k)
  {f:Option (Nat×Entry)} (hf:Rx.findKey P kt k es 0 = some f) :
  ∃ es' r',w.heap[i.block]? = some (.map es' c)∧EsRel π es es'.toList∧isLive (H.objs.get r) = true∧(Instr.findKey kt k es'.toList).run P w = .ok r' w∧FRel 0 es es'.toList f r':=by
 unfold entriesOf at hm
 split at hm
 ·rename_i es0 c0 ho
  simp only [Option.some.injEq,Prod.mk.injEq] at hm
  obtain ⟨rfl,rfl⟩:=hm
  obtain ⟨es',h1,h2,h3⟩:=hg.objs r i _ hr ho
  have hes:EsRel π es0 es'.toList:=⟨by simpa using h2,h3⟩
  obtain ⟨D,hD⟩:=hko.desc w
  obtain ⟨r',hr1,hr2⟩:=run_findKey (w:=w) hko hD hes hf
  exact ⟨es',r',h1,hes,by rw [ho]; rfl,hr1,hr2⟩
 ·cases hm

theorem update_ok (hE:Ok E P) (hg:Good E B w₀ π H w) {t:TypeId} {m m' k k' v v':Value} {H':Heap} (hm:VRel π m m') (hk:VRel π k k') (hv:VRel π v v') (h:aUpdate E H t m k v = some H') :
  ∃ w',(Instr.mapUpdate t m' k' v').run P w = .ok () w'∧Good E B w₀ π H' w'∧H'.next = H.next:=by
 unfold aUpdate at h
 split at h
 ·cases h
 ·rename_i i hi
  obtain ⟨info,hu,_⟩:=hE.ty t i hi
  split at h
  ·rename_i kt et hd
   rw [hd] at hu
   split at h
   ·rename_i r
    obtain ⟨ii,hr,rfl⟩:=hm.map_inv
    unfold updateAt at h
    split at h
    ·cases h
    ·rename_i hko
     have hko:=keyOk_spec hE hko
     have hkk:k' = k:=eq_of_isData 4 k k' hko.data hk
     subst hkk
     split at h
     ·cases h
     ·rename_i es c hmo
      rw [hE.prog] at h
      unfold updated at h
      split at h
      ·cases h
      ·rename_i j k0 v0 b hf
       split at h
       ·rename_i hsb
        cases h
        obtain ⟨es',r',h1,hes,hlive,hr1,hr2⟩:=map_write hE hg hmo hr hko hf
        rcases hr2 with ⟨q,_⟩ | ⟨j',e,e',q1,rfl,q3,q4,q5⟩
        ·cases q
        ·simp only [Option.some.injEq,Prod.mk.injEq] at q1
         obtain ⟨rfl,rfl⟩:=q1
         have q4':es'[0 + j']? = some e':=by rw [← Array.getElem?_toList,Nat.zero_add]; exact q4
         have hee:=hes.2 _ _ _ q3 q4
         refine ⟨_,?_,hg.turnObj hr hlive _ (.map (es'.modify (0 + j') fun e=>{ e with key:=k',val:=v' }) c) (fun w' hw'=>?_),rfl⟩
         ·unfold Instr.mapUpdate
          have hkey:((es'[0 + j']?).map (·.key)).getD k' = k0:=by rw [q4']; exact q5
          simp only [Sem.run_bind,run_underlying hu,Result.andThen_ok,run_getObj_map h1,hko.check,hr1,hkey,run_keepKey hsb]
          exact setObj_below h1 (by intro _ _ _ e; cases e)
         ·rw [setAt_eq,Nat.zero_add]
          have:=EsRel.set hes (e:=(k',v,b)) (fun e=>{ e with key:=k',val:=v' }) q4 ⟨VRel.refl_of_isData 4 _ hko.data,hv,hee.2.2⟩
          exact ⟨_,by rw [Nat.zero_add] at hw'; exact hw',by simpa using this.1,this.2⟩
       ·cases h
      ·rename_i hf
       cases h
       obtain ⟨es',r',h1,hes,hlive,hr1,hr2⟩:=map_write hE hg hmo hr hko hf
       rcases hr2 with ⟨_,rfl⟩ | ⟨j',e,e',q1,_⟩
       ·refine ⟨_,?_,hg.turnObj hr hlive _ (.map (es'.push { key:=k',val:=v',born:=c }) (c + 1)) (fun w' hw'=>?_),rfl⟩
        ·unfold Instr.mapUpdate
         simp only [Sem.run_bind,run_underlying hu,Result.andThen_ok,run_getObj_map h1,hko.check,hr1]
         exact setObj_below h1 (by intro _ _ _ e; cases e)
        ·have:=EsRel.push hes (e:=(k',v,c)) (e':={ key:=k',val:=v',born:=c }) ⟨VRel.refl_of_isData 4 _ hko.data,hv,rfl⟩
         exact ⟨_,hw',by simpa using this.1,this.2⟩
       ·cases q1
   ·cases h
  ·cases h

theorem arm_update (hE:Ok E P) (hg:Good E B w₀ π H w) (hρ:TRel π ρ size a.tmps) (t:TypeId) (x y z:Operand) (o:Oper) (ho:o.op = .mapUpdate t x y z∨o.op = .insert t x y z) (ty:TypeId) :
  Out E B w₀ H.next π P (armInsert t x y z E ρ H ty) ((execOp a.eval o).run P w):=by
 unfold armInsert ofHeap
 split
 ·rename_i H' hH'
  obtain ⟨w',h1,h2,h3⟩:=update_ok hE hg (hρ.eval x) (hρ.eval y) (hρ.eval z) hH'
  refine out_skip h2 h3 ?_
  rcases ho with ho | ho <;> simp only [execOp,ho,Sem.run_bind,h1] <;> rfl
 ·trivial

end
end Go.Rx

namespace Go.Rx
open Go.RowKit
variable [Unknowns]

section
variable {E:Env} {B:Nat} {w₀:World} {π:Places} {H:Heap} {w:World} {P:Program} {ρ:T Value} {size:Nat} {a:Act}

theorem out_turned {H':Heap} {w':World} (hg:Good E B w₀ π H' w') (hn:H'.next = H.next) {v v':Value} (hv:VRel π v v') {res:Result Next} (h:res = .ok (.value v') w'):Out E B w₀ H.next π P (.val v H') res :=
 ⟨π,v',w',Ext.refl _ _,by omega,.inl h,hv,hg⟩

theorem arm_entry (hE:Ok E P) (hg:Good E B w₀ π H w) (hρ:TRel π ρ size a.tmps) (t:TypeId) (x y:Operand) (o:Oper) (ho:o.op = .mapEntry t x y) (ty:TypeId) :
  Out E B w₀ H.next π P (armEntry t x y E ρ H ty) ((execOp a.eval o).run P w):=by
 have hm:=hρ.eval x
 have hk:=hρ.eval y
 generalize hk0:Rx.eval ρ y = k at hk
 obtain ⟨k',hk1⟩:∃ k',a.eval y = k':=⟨_,rfl⟩
 rw [hk1] at hk
 have hexec:∀ v' w',(Instr.mapEntry t (a.eval x) k').run P w = .ok v' w'→(execOp a.eval o).run P w = .ok (.value v') w':=by
  intro v' w' hv'
  simp only [execOp,ho,Sem.run_bind,hk1,hv']; rfl
 unfold armEntry aEntry
 rw [hk0]
 split
 ·trivial
 ·rename_i i hi
  obtain ⟨info,hu,_⟩:=hE.ty t i hi
  split
  ·rename_i kt et hd
   rw [hd] at hu
   split
   ·rename_i r hxe
    rw [hxe] at hm
    obtain ⟨ii,hr,hmv⟩:=hm.map_inv
    unfold entryAt
    split
    ·trivial
    ·rename_i hko
     have hko:=keyOk_spec hE hko
     have hkk:k' = k:=eq_of_isData 4 k k' hko.data hk
     rw [hkk] at hexec
     split
     ·trivial
     ·rename_i es c hmo
      split
      ·trivial
      ·rename_i ei hei
       obtain ⟨einfo,_,hein,_,_,_,hez⟩:=hE.ty et ei hei
       rw [hE.prog]
       unfold entered
       split
       ·trivial
       ·rename_i j k0 v0 b hf
        split
        ·rename_i hsb
         obtain ⟨es',r',h1,hes,hlive,hr1,hr2⟩:=map_write hE hg hmo hr hko hf
         rcases hr2 with ⟨q,_⟩ | ⟨j',e,e',q1,rfl,q3,q4,q5⟩
         ·cases q
         ·simp only [Option.some.injEq,Prod.mk.injEq] at q1
          obtain ⟨rfl,rfl⟩:=q1
          have q4':es'[0 + j']? = some e':=by rw [← Array.getElem?_toList,Nat.zero_add]; exact q4
          have hee:=hes.2 _ _ _ q3 q4
          have hrun:(Instr.mapEntry t (a.eval x) k).run P w = .ok (.tuple #[e'.val,.int .i64 (Int.ofNat b)]) { w with heap:=w.heap.setIfInBounds ii.block (.map (es'.modify (0 + j') fun e=>{ e with key:=k }) c) }:=by
           unfold Instr.mapEntry
           have hkey:((es'[0 + j']?).map (·.key)).getD k = k0:=by rw [q4']; exact q5
           have hborn:(Option.map (fun x:MapEntry=>(x.born:Int)) es'[0 + j']?).getD 0 = (b:Int):=by rw [q4']; have:=hee.2.2; simp [this]
           simp only [Sem.run_bind,run_underlying hu,Result.andThen_ok,hmv,run_getObj_map h1,hko.check,hr1,hkey,hborn,run_keepKey hsb,setObj_below h1 (by intro _ _ _ e; cases e)]
           rfl
          refine out_turned (hg.turnObj hr hlive _ _ (fun w' hw'=>?_)) rfl ?_ (hexec _ _ hrun)
          ·rw [setAt_eq,Nat.zero_add]
           have:=EsRel.set hes (e:=(k,v0,b)) (fun e=>{ e with key:=k }) q4 ⟨VRel.refl_of_isData 4 _ hko.data,hee.2.1,hee.2.2⟩
           exact ⟨_,by rw [Nat.zero_add] at hw'; exact hw',by simpa using this.1,this.2⟩
          ·exact VRel.tupleL (l:=[v0,.int .i64 (Int.ofNat b)]) (l':=[e'.val,.int .i64 (Int.ofNat b)]) (LRel.cons hee.2.1 (LRel.cons (.int _ _) (LRel.nil π)))
        ·trivial
       ·rename_i hf
        split
        ·rename_i z hz
         obtain ⟨hz1,hz2⟩:=hez z hz
         have hzv:VRel π z z:=VRel.refl_of_isData 3 z hz2
         obtain ⟨es',r',h1,hes,hlive,hr1,hr2⟩:=map_write hE hg hmo hr hko hf
         rcases hr2 with ⟨_,rfl⟩ | ⟨j',e,e',q1,_⟩
         ·have hrun:(Instr.mapEntry t (a.eval x) k).run P w = .ok (.tuple #[z,.int .i64 (Int.ofNat c)]) { w with heap:=w.heap.setIfInBounds ii.block (.map (es'.push { key:=k,val:=z,born:=c }) (c + 1)) }:=by
           unfold Instr.mapEntry
           simp only [Sem.run_bind,run_underlying hu,Result.andThen_ok,hmv,run_getObj_map h1,hko.check,hr1,run_zeroValue hein hz1,setObj_below h1 (by intro _ _ _ e; cases e)]
           rfl
          refine out_turned (hg.turnObj hr hlive _ _ (fun w' hw'=>?_)) rfl ?_ (hexec _ _ hrun)
          ·have:=EsRel.push hes (e:=(k,z,c)) (e':={ key:=k,val:=z,born:=c }) ⟨VRel.refl_of_isData 4 _ hko.data,hzv,rfl⟩
           exact ⟨_,hw',by simpa using this.1,this.2⟩
          ·exact VRel.tupleL (l:=[z,.int .i64 (Int.ofNat c)]) (l':=[z,.int .i64 (Int.ofNat c)]) (LRel.cons hzv (LRel.cons (.int _ _) (LRel.nil π)))
         ·cases q1
        ·trivial
   ·trivial
  ·trivial

theorem setBorn_rel {b:Nat} {v v':Value} (hv:VRel π v v'):∀ {es r:List Entry} {es':List MapEntry},EsRel π es es'→setBorn b v es = some r →
  ∃ j e e',es'.findIdx? (fun e=>(e.born:Int) == (b:Int)) = some j∧es[j]? = some e∧es'[j]? = some e'∧r = es.set j (e.1,v,e.2.2):=by
 intro es
 induction es with
 | nil=>intro r es' _ h; simp [setBorn] at h
 | cons e es ih =>
  intro r es' he h
  obtain ⟨e',r',rfl,hee,hrest⟩:=he.cons_inv
  obtain ⟨k,w0,c⟩:=e
  simp only [setBorn] at h
  split at h
  ·rename_i hb
   have hb:=Nat.eq_of_beq_eq_true hb
   cases h
   have:e'.born = c:=hee.2.2
   exact ⟨0,_,e',by simp [List.findIdx?_cons,this,hb],rfl,rfl,rfl⟩
  ·rename_i hb
   split at h
   ·rename_i l hl
    cases h
    obtain ⟨j,f,f',h1,h2,h3,rfl⟩:=ih hrest hl
    have:e'.born = c:=hee.2.2
    have hne:((c:Int) == (b:Int)) = false:=by
     rw [beq_eq_false_iff_ne]; intro e; have:c = b:=by omega
     rw [this,Nat.beq_refl] at hb; cases hb
    exact ⟨j + 1,f,f',by simp [List.findIdx?_cons,this,hne,h1],h2,h3,rfl⟩
   ·cases h

theorem arm_entryStore (hE:Ok E P) (hg:Good E B w₀ π H w) (hρ:TRel π ρ size a.tmps) (t:TypeId) (x y z:Operand) (o:Oper) (ho:o.op = .entryStore t x y z) (ty:TypeId) :
  Out E B w₀ H.next π P (armEntryStore t x y z E ρ H ty) ((execOp a.eval o).run P w):=by
 have hm:=hρ.eval x
 have hs:=hρ.eval y
 have hv:=hρ.eval z
 unfold armEntryStore ofHeap
 split
 ·rename_i H' hH'
  unfold aEntryStore at hH'
  split at hH'
  ·rename_i r hxe
   rw [hxe] at hm
   obtain ⟨ii,hr,hmv⟩:=hm.map_inv
   unfold entryStored at hH'
   split at hH'
   ·cases hH'
   ·rename_i es c hmo
    split at hH'
    ·rename_i kk b hye
     rw [hye] at hs
     have hsv:=hs.int_inv
     unfold bornSet at hH'
     split at hH'
     ·rename_i es2 hes2
      cases hH'
      unfold entriesOf at hmo
      split at hmo
      ·rename_i es0 c0 hob
       simp only [Option.some.injEq,Prod.mk.injEq] at hmo
       obtain ⟨rfl,rfl⟩:=hmo
       obtain ⟨es',h1,h2,h3⟩:=hg.objs r ii _ hr hob
       have hes:EsRel π es0 es'.toList:=⟨by simpa using h2,h3⟩
       obtain ⟨j,e,e',q1,q2,q3,rfl⟩:=setBorn_rel hv hes hes2
       have hee:=hes.2 _ _ _ q2 q3
       have hrun:(Instr.entryStore t (a.eval x) (a.eval y) (a.eval z)).run P w = .ok () { w with heap:=w.heap.setIfInBounds ii.block (.map (es'.modify j fun e=>{ e with val:=a.eval z }) c0) }:=by
        unfold Instr.entryStore
        have q1':es'.findIdx? (fun e=>(e.born:Int) == (b:Int)) = some j:=by cases es' with | mk l=>simpa using q1
        simp only [hmv,hsv,Sem.run_bind,run_getObj_map h1,Result.andThen_ok,asInt,asIntOf,Sem.run_pure,ofNat_cast,q1']
        exact setObj_below h1 (by intro _ _ _ e; cases e)
       refine out_skip (hg.turnObj hr (by rw [hob]; rfl) _ _ (fun w' hw'=>?_)) rfl (by simp only [execOp,ho,Sem.run_bind,hrun]; rfl)
       have:=EsRel.set hes (e:=(e.1,Rx.eval ρ z,e.2.2)) (fun e=>{ e with val:=a.eval z }) q3 ⟨hee.1,hv,hee.2.2⟩
       exact ⟨_,hw',by simpa using this.1,this.2⟩
      ·cases hmo
     ·cases hH'
    ·cases hH'
  ·cases hH'
 ·trivial

end
end Go.Rx

namespace Go.Rx
open Go.RowKit
variable [Unknowns]

section
variable {E:Env} {B:Nat} {w₀:World} {π:Places} {H:Heap} {w:World} {P:Program} {ρ:T Value} {size:Nat} {a:Act}

theorem run_lenOf {x x':Value} (hx:VRel π x x') {n:Nat} (h:Rx.lenOf x = some n) (w:World):(Builtin.lenOf x').run P w = .ok n w:=by
 unfold Rx.lenOf at h
 split at h
 ·cases h; cases hx <;> rfl
 ·cases h; cases hx; rfl
 ·cases h

theorem elems_ok (hg:Good E B w₀ π H w) {x x':Value} (hx:VRel π x x') {sz n:Nat} {new:List Value} (h:elems H sz n x = some new) :
  ∃ new',(Builtin.firstCells sz n x').run P w = .ok new'.toArray w∧LRel π new new':=by
 unfold elems at h
 split at h
 ·obtain ⟨ad,l',c',rfl,h1,h2⟩:=elemsAt_ok (P:=P) hg hx h
  exact ⟨l',by simp only [Builtin.firstCells]; exact h1,h2⟩
 ·cases h; cases hx
  exact ⟨[],by simp [Builtin.firstCells],LRel.nil π⟩
 ·rename_i s
  cases h
  have:=hx.string_inv
  subst this
  refine ⟨(s.data.toList.take n).map byteVal,?_,?_⟩
  ·simp only [Builtin.firstCells,Sem.run_pure]
   congr 1
   apply Array.ext'
   have e:(s.extract 0 n).data.toList = s.data.toList.take n:=by
    simp [ByteArray.extract,ByteArray.copySlice]
   simp only [Array.toList_map,e]
   rfl
  ·refine ⟨rfl,fun i y y' hy hy'=>?_⟩
   rw [hy] at hy'; cases hy'
   obtain ⟨b,_,rfl⟩:=List.mem_map.1 (List.mem_of_getElem? hy)
   exact .int _ _
 ·cases h

set_option maxHeartbeats 4000000 in
theorem append_fits {st xt ty e:TypeId} {D:TypeDesc} {i:TypeInfo} (ht:P.underlying st = some (.slice e)) (hxt:P.underlying xt = some D) (hD:isIntDesc D = false) (hi:P.info? e = some i)
  {base:Option Addr} {sl sc n:Nat} {x:Value} {new:List Value} (hl:(Builtin.lenOf x).run P w = .ok n w) (hn:(Builtin.firstCells i.size n x).run P w = .ok new.toArray w) (hle:sl + n≤sc) :
  (Builtin.append_ #[st,xt] ty #[.slice base sl sc,x]).run P w = ((match base with | some a=>Go.storeCells (a.add (sl * i.size)) new | none=>pure ()).run P w).andThen fun _ w'=>.ok (.slice base (sl + n) sc) w':=by
 cases D <;> first
  | (cases hD; done)
  | (cases base <;> simp [Builtin.append_,run_underlying ht,run_underlying hxt,run_sizeOf hi,hl,hle,hn]; done)

set_option maxHeartbeats 4000000 in
theorem append_grows {st xt ty e:TypeId} {D:TypeDesc} {i:TypeInfo} {z:Value} (ht:P.underlying st = some (.slice e)) (hxt:P.underlying xt = some D) (hD:isIntDesc D = false) (hi:P.info? e = some i) (hz:i.zero = some z)
  {base:Option Addr} {sl sc n:Nat} {x:Value} {old new:List Value} (hl:(Builtin.lenOf x).run P w = .ok n w)
  (ho:(Builtin.firstCells i.size sl (.slice base sl sc)).run P w.drew = .ok old.toArray w.drew) (hn:(Builtin.firstCells i.size n x).run P w.drew = .ok new.toArray w.drew) (hgt:¬ sl + n≤sc)
  (hb:(sl + n) * i.bytes≤1073741824) (hl2:sl + n≤1073741824) :
  (Builtin.append_ #[st,xt] ty #[.slice base sl sc,x]).run P w = .ok (.slice (some ⟨w.heap.size,0,none⟩) (sl + n) (grownCap w (sl + n) sc e))
   (w.drew.alloc (.cells (old ++ (new ++ (Builtin.zeroCells z.cells (grownCap w (sl + n) sc e - (sl + n))).toList)).toArray e)):=by
 have h63:¬ (9223372036854775807 < ((sl:Int) + (n:Int))∧i.bytes = 0):=by omega
 have hfit:=growslice_fits (need:=sl + n) (old:=sc) (bytes:=i.bytes) (by omega) (by omega)
 have h48:¬ (281474976710656 < Builtin.nextslicecap (sl + n) sc * i.bytes):=by omega
 cases D <;> first
  | (cases hD; done)
  | (simp [Builtin.append_, run_underlying ht, run_underlying hxt, run_sizeOf hi, run_typeInfo hi, run_zeroValue hi hz, hl, hgt, hn, ho, h63, h48, Question.forced, newRow, grownCap]
     congr 2
     apply Array.ext'
     simp [List.append_assoc])

end
end Go.Rx

namespace Go.Rx
open Go.RowKit
variable [Unknowns]

section
variable {E:Env} {B:Nat} {w₀:World} {π:Places} {H:Heap} {w:World} {P:Program} {ρ:T Value} {size:Nat} {a:Act}

theorem Good.move (h:Good E B w₀ π H w) {r:Nat} {i:Info} (hr:π r = some i) (hl:isLive (H.objs.get r) = true) (o:AObj) (i':Info) (hi':i'.block = i.block) {w':World} (hb:Below i.block w w') (hs:w'.heap.size = w.heap.size)
  (hk:∀ k,k≠i.block→w'.heap[k]? = w.heap[k]?) (ho:ORel E (π.upd H.next i') o i' w') (hnl:isLent (some o) = false:=by rfl) :
  Good E B w₀ (π.upd H.next i') ⟨H.next + 1,(H.set r .dead).objs.put H.next o⟩ w'∧Ext H.next π (π.upd H.next i'):=by
 have hlt:=h.lt r i hr
 have hne:r≠H.next:=by omega
 refine ⟨⟨?_,?_,?_,?_,?_,?_,h.below.trans (hb.mono (h.base r i hr hl)),by rw [hs]; exact h.size⟩,⟨Places.le_upd _ h.fresh,fun s hs=>Places.upd_other _ (by omega)⟩⟩
 ·intro s j o' hs' hos
  by_cases e:s = H.next
  ·subst e
   rw [Places.upd_same] at hs'; cases hs'
   simp [T.get_put] at hos; subst hos; exact ho
  ·rw [Places.upd_other _ e] at hs'
   simp only [Heap.set,T.get_put,e,if_false] at hos
   by_cases e2:s = r
   ·subst e2; simp at hos; subst hos; trivial
   ·simp only [e2,if_false] at hos
    have g:=h.objs s j o' hs' hos
    by_cases hd:isLive (some o') = true
    ·refine (g.congr (hk _ fun hbe=>e2 ?_)).mono (Places.le_upd _ h.fresh)
     exact h.inj s r j i hs' hr (by rw [hos]; exact hd) hl hbe
    ·cases o' with
     | dead=>trivial
     | lent n cs =>
      refine (g.congr (hk _ fun hbe=>?_)).mono (Places.le_upd _ h.fresh)
      have h1:=h.low s j hs' (by rw [hos]; rfl)
      have h2:=h.base r i hr hl
      omega
     | _=>simp [isLive] at hd
 ·intro s t a b hs' ht ls lt' e
  have old:∀ u c,u≠H.next→π.upd H.next i' u = some c→isLive ((⟨H.next + 1,(H.set r AObj.dead).objs.put H.next o⟩:Heap).objs.get u) = true→π u = some c∧isLive (H.objs.get u) = true∧u≠r:=by
   intro u c hu hc hlv
   rw [Places.upd_other _ hu] at hc
   simp only [Heap.set,T.get_put,hu,if_false] at hlv
   by_cases e2:u = r
   ·subst e2; simp [isLive] at hlv
   ·simp only [e2,if_false] at hlv; exact ⟨hc,hlv,e2⟩
  by_cases e1:s = H.next <;> by_cases e2:t = H.next
  ·rw [e1,e2]
  ·subst e1
   rw [Places.upd_same] at hs'; cases hs'
   obtain ⟨q1,q2,q3⟩:=old t b e2 ht lt'
   exact absurd (h.inj t r b i q1 hr q2 hl (by rw [← e,hi'])) q3
  ·subst e2
   rw [Places.upd_same] at ht; cases ht
   obtain ⟨q1,q2,q3⟩:=old s a e1 hs' ls
   exact absurd (h.inj s r a i q1 hr q2 hl (by rw [e,hi'])) q3
  ·obtain ⟨q1,q2,q3⟩:=old s a e1 hs' ls
   obtain ⟨p1,p2,p3⟩:=old t b e2 ht lt'
   exact h.inj s t a b q1 p1 q2 p2 e
 ·intro s j hs'
  by_cases e:s = H.next
  ·subst e; exact Nat.lt_succ_self _
  ·rw [Places.upd_other _ e] at hs'; have:=h.lt s j hs'; show s < H.next + 1; omega
 ·intro s j hs' ls
  by_cases e:s = H.next
  ·subst e; rw [Places.upd_same] at hs'; cases hs'; rw [hi']; exact h.base r i hr hl
  ·rw [Places.upd_other _ e] at hs'
   simp only [Heap.set,T.get_put,e,if_false] at ls
   by_cases e2:s = r
   ·subst e2; simp [isLive] at ls
   ·simp only [e2,if_false] at ls; exact h.base s j hs' ls
 ·intro s j hs' ls
  by_cases e:s = H.next
  ·subst e; simp only [Heap.set,T.get_put,if_true] at ls; rw [hnl] at ls; cases ls
  ·rw [Places.upd_other _ e] at hs'
   simp only [Heap.set,T.get_put,e,if_false] at ls
   by_cases e2:s = r
   ·subst e2; simp [isLent] at ls
   ·simp only [e2,if_false] at ls; exact h.low s j hs' ls
 ·intro s j hs'
  rw [hs]
  by_cases e:s = H.next
  ·subst e; rw [Places.upd_same] at hs'; cases hs'; rw [hi']; exact h.blk r i hr
  ·rw [Places.upd_other _ e] at hs'; exact h.blk s j hs'

theorem out_moved (hg:Good E B w₀ π H w) {r:Nat} {i:Info} (hr:π r = some i) (hl:isLive (H.objs.get r) = true) {f:Nat→Value} {o:AObj} {i':Info} (hi':i'.block = i.block) {w':World} (hb:Below i.block w w') (hs:w'.heap.size = w.heap.size)
  (hk:∀ k,k≠i.block→w'.heap[k]? = w.heap[k]?) {v':Value} {res:Result Next} (h:res = .ok (.value v') w') (hv:VRel (π.upd H.next i') (f H.next) v') (ho:ORel E (π.upd H.next i') o i' w') (hnl:isLent (some o) = false:=by rfl) :
  Out E B w₀ H.next π P (laid f (H.set r .dead) o) res:=by
 have hlaid:laid f (H.set r .dead) o = .val (f H.next) ⟨H.next + 1,(H.set r .dead).objs.put H.next o⟩:=rfl
 rw [hlaid]
 obtain ⟨g,x⟩:=hg.move hr hl o i' hi' hb hs hk ho hnl
 exact ⟨_,v',_,x,Nat.le_succ _,.inl h,hv,g⟩

theorem times_zeroCells (z:List Value) (n:Nat):Builtin.zeroCells z.toArray n = (times z n).toArray:=range_times z n

theorem out_grown (hg:Good E B w₀ π H w) (H':Heap) (hH':H' = H∨∃ r,H' = H.set r .dead) (e:TypeId) (l c:Nat) {cells cells' rest:List Value} (hc:LRel π cells cells') (hcl:l≤c) (hrest:(c - l) * sizeT E e≤rest.length)
  {res:Result Next} (h:res = .ok (.value (.slice (some ⟨w.heap.size,0,none⟩) l c)) (w.drew.alloc (.cells (cells' ++ rest).toArray e))):Out E B w₀ H.next π P (grown e l cells (some H')) res:=by
 have hnext:H'.next = H.next:=by rcases hH' with rfl | ⟨r,rfl⟩ <;> rfl
 have hg':Good E B w₀ π H' w.drew:=by rcases hH' with rfl | ⟨r,rfl⟩; exact hg.drew; exact (hg.kill r).drew
 unfold grown
 rw [← hnext]
 refine out_laid (w:=w.drew) (e:=c - l) hg' h ?_ ?_ rfl
 ·have:c = l + (c - l):=by omega
  have hv:=VRel.slice (π:=π.upd H'.next ⟨w.drew.heap.size,0,c - l⟩) (r:=H'.next) (o:=0) (l:=l) (c:=l) (i:=⟨w.drew.heap.size,0,c - l⟩) (Places.upd_same _ _)
  simp only [Nat.add_zero,← this] at hv
  exact hv
 ·exact row_laid (w:=w.drew) hc hg'.fresh e false rest (c - l) hrest (by simp)

end
end Go.Rx

namespace Go.Rx
open Go.RowKit
variable [Unknowns]

section
variable {E:Env} {B:Nat} {w₀:World} {π:Places} {H:Heap} {w:World} {P:Program} {ρ:T Value} {size:Nat} {a:Act}

theorem VRel.slice_nil {l c:Nat} {v':Value} (h:VRel π (.slice none l c) v'):v' = .slice none l c:=by cases h; rfl

def asNext (s:Sem Value):Sem Next:=do pure (.value (← s))
theorem run_asNext {s:Sem Value} {v:Value} {w w':World} (h:s.run P w = .ok v w'):(asNext s).run P w = .ok (.value v) w':=by simp [asNext,h]

theorem grow_in_place (hE:Ok E P) (hg:Good E B w₀ π H w) {r o sl sc n:Nat} {i:Info} (hr:π r = some i) {e:TypeId} {ei:TI} (hei:E.ty e = some ei) {info:TypeInfo} (hi:P.info? e = some info)
  {s:Sem Value} {new new' old:List Value} (hrun:s.run P w = ((Go.storeCells (({block:=i.block,off:=i.delta + o}:Addr).add (sl * info.size)) new').run P w).andThen fun _ w'=>.ok (.slice (some ⟨i.block,i.delta + o,none⟩) (sl + n) (sc + i.extra)) w') (hnew:LRel π new new')
  (hone:∀ v ∈ new,Rx.oneCell v = true) (hnl:new.length = n * ei.size) (hold:Rx.loadCells H r o (sl * ei.size) = some old)
  (hgt:¬ sl + n≤sc) (hfit:sl + n≤sc + i.extra) {H1:Heap} (hm:moved H (some ⟨r,o,none⟩) e sc ei.size = some H1) :
  Out E B w₀ H.next π P (grown e (sl + n) (old ++ new) (some H1)) ((asNext s).run P w):=by
 unfold moved movedRow at hm
 dsimp only at hm
 unfold Rx.loadCells loadObj at hold
 split at hm
 ·rename_i e' n0 x cs hrow
  rw [hrow] at hold
  dsimp only at hold
  obtain ⟨c,h1,h2,h3,h4⟩:=hg.objs r i _ hr hrow
  split at hm
  ·have:=h3 rfl; omega
  ·split at hm
   ·rename_i hb
    cases hm
    simp only [Bool.and_eq_true] at hb
    have hee:e = e':=Nat.eq_of_beq_eq_true hb.1
    have hroom:o + sc * ei.size≤n0:=Nat.le_of_ble_eq_true hb.2
    subst hee
    obtain ⟨info',_,hi',_,hes,_⟩:=hE.ty e ei hei
    rw [hi] at hi'; cases hi'
    have hst:sizeT E e = ei.size:=by simp [sizeT,hei]
    rw [hst] at h2
    unfold loadIn at hold
    split at hold
    ·rename_i hle
     have hle:o + sl * ei.size≤n0:=Nat.le_of_ble_eq_true hle
     obtain ⟨hol,hog⟩:=T.read_spec cs _ _ _ hold
     have hmul:(sl + n) * ei.size≤(sc + i.extra) * ei.size:=Nat.mul_le_mul_right _ hfit
     rw [Nat.add_mul,Nat.add_mul] at hmul
     have hone':∀ v ∈ new',v.oneCell' = true:=by
      intro v' hv'
      obtain ⟨j,hj,rfl⟩:=List.mem_iff_getElem.1 hv'
      have hj':j < new.length:=by rw [hnew.1]; exact hj
      have:=(hnew.2 j new[j] new'[j] (List.getElem?_eq_getElem hj') (List.getElem?_eq_getElem hj)).oneCell' (hone _ (List.getElem_mem hj'))
      cases hq:new'[j] <;> simp_all [Value.oneCell,Value.oneCell']
     have hnl':new'.length = n * ei.size:=by rw [← hnew.1,hnl]
     have run:=run_storeCells_at (P:=P) i.block (i.delta + o + sl * ei.size) e new' 0 c w h1 (by omega) hone'
     obtain ⟨b1,b2,b3,b4⟩:=setRow_below (c:=(c.toList.take (i.delta + o + sl * ei.size + 0) ++ new' ++ c.toList.drop (i.delta + o + sl * ei.size + 0 + new'.length)).toArray) h1
     rw [addr_add,← hes,run] at hrun
     have hx:sl + n + (sc + i.extra - (sl + n)) = sc + i.extra:=by omega
     unfold grown
     dsimp only
     refine out_moved hg hr (by rw [hrow]; rfl) (i':=⟨i.block,i.delta + o,sc + i.extra - (sl + n)⟩) rfl b1 b2 b3 (run_asNext hrun) ?_ ?_
     ·have hv:=VRel.slice (π:=π.upd H.next ⟨i.block,i.delta + o,sc + i.extra - (sl + n)⟩) (r:=H.next) (o:=0) (l:=sl + n) (c:=sl + n) (Places.upd_same _ _)
      simp only [Nat.add_zero,hx] at hv
      exact hv
     ·refine ⟨_,b4,?_,by simp,fun k v hk hkv=>?_⟩
      ·rw [hst,Nat.sub_mul,Nat.add_mul,Nat.add_mul]
       simp
       omega
      ·rw [T.get_ofList] at hkv
       simp only [Nat.zero_le,true_and,Nat.zero_add,hk,if_true,Nat.sub_zero] at hkv
       simp only [Nat.add_zero,List.getElem?_toArray,List.append_assoc]
       by_cases hko:k < sl * ei.size
       ·rw [List.getElem?_append_left (by omega)] at hkv
        have g1:=hog k hko
        rw [hkv] at g1
        obtain ⟨v',q1,q2⟩:=h4 (o + k) v (by omega) g1
        refine ⟨v',?_,q2.mono (Places.le_upd _ hg.fresh)⟩
        rw [List.getElem?_append_left (by simp; omega),List.getElem?_take_of_lt (by omega),Array.getElem?_toList,Nat.add_assoc]; exact q1
       ·rw [List.getElem?_append_right (by omega),hol] at hkv
        have hkn:k - sl * ei.size < new'.length:=by
         rw [← hnew.1]; exact (List.getElem?_eq_some_iff.1 hkv).1
        refine ⟨new'[k - sl * ei.size],?_,(hnew.2 _ v _ hkv (List.getElem?_eq_getElem hkn)).mono (Places.le_upd _ hg.fresh)⟩
        rw [List.getElem?_append_right (by simp; omega),List.getElem?_append_left (by simp; omega)]
        rw [show i.delta + o + k - (c.toList.take (i.delta + o + sl * ei.size)).length = k - sl * ei.size from by simp; omega]
        exact List.getElem?_eq_getElem hkn
    ·cases hold
   ·cases hm
 ·cases hm

theorem forceNat_eq {β:Type} (m:Nat) (k:Nat→β):forceNat m k = k m:=by cases m <;> rfl

theorem VRel.slice_len {r o l c:Nat} {s:Option Nat} {v':Value} (h:VRel π (.slice (some ⟨r,o,s⟩) l c) v') (hs:voidSp s = false) :
  ∃ i c',π r = some i∧v' = .slice (some ⟨i.block,i.delta + o,none⟩) l c'∧c≤c'∧∀ l2,VRel π (.slice (some ⟨r,o,s⟩) l2 c) (.slice (some ⟨i.block,i.delta + o,none⟩) l2 c'):=by
 cases h with
 | slice h=>exact ⟨_,_,h,rfl,Nat.le_add_right _ _,fun _=>.slice h⟩
 | lim h=>exact ⟨_,_,h,rfl,Nat.le_refl _,fun _=>.lim h⟩
 | void=>simp [voidSp] at hs

theorem appendTo_out (hE:Ok E P) (hg:Good E B w₀ π H w) {e:TypeId} {ei:TI} (hei:E.ty e = some ei) {info:TypeInfo} (hi:P.info? e = some info) (hes:ei.size = info.size) (hbs:ei.bytes = info.bytes)
  {base:Option Addr} {sl sc n:Nat} {s':Value} (hs:VRel π (.slice base sl sc) s') (hvo:voidBase base = false) {new new':List Value} (hrel:LRel π new new') (s:Value→Sem Value)
  (hF:∀ base sl sc,sl + n≤sc→(s (.slice base sl sc)).run P w = ((match base with | some a=>Go.storeCells (a.add (sl * info.size)) new' | none=>pure ()).run P w).andThen fun _ w'=>.ok (.slice base (sl + n) sc) w')
  (hG:∃ new'',LRel π new new''∧∀ (z:Value) base sl sc (old:List Value),info.zero = some z→(Builtin.firstCells info.size sl (.slice base sl sc)).run P w.drew = .ok old.toArray w.drew→¬ sl + n≤sc→(sl + n) * info.bytes≤1073741824→sl + n≤1073741824 →
   (s (.slice base sl sc)).run P w = .ok (.slice (some ⟨w.heap.size,0,none⟩) (sl + n) (grownCap w (sl + n) sc e))
    (w.drew.alloc (.cells (old ++ (new'' ++ (Builtin.zeroCells z.cells (grownCap w (sl + n) sc e - (sl + n))).toList)).toArray e))) :
  Out E B w₀ H.next π P (appendTo H e ei base sl sc n (some new)) ((asNext (s s')).run P w):=by
 unfold appendTo
 ·dsimp only
  rw [forceNat_eq]
  split
  ·rename_i hle
   have hle:sl + n≤sc:=Nat.le_of_ble_eq_true hle
   unfold appendFits
   split
   ·rename_i r o sp
    split
    ·rename_i H' hH'
     obtain ⟨i,c',hr,rfl,hcc',hlen⟩:=hs.slice_len hvo
     have hcc:sl + n≤c':=Nat.le_trans hle hcc'
     obtain ⟨w',h1,h2,h3⟩:=storeCells_ok (P:=P) hg hH' hr hrel
     have hrun:=hF (some ⟨i.block,i.delta + o,none⟩) sl c' hcc
     dsimp only at hrun
     rw [addr_add,← hes] at hrun
     have e0:i.delta + o + sl * ei.size = i.delta + Nat.add o (Nat.mul sl ei.size):=by simp; omega
     rw [e0,h1] at hrun
     exact out_turned h2 h3 (hlen _) (run_asNext hrun)
    ·trivial
   ·split
    ·have:=hs.slice_nil
     subst this
     have hrun:=hF none sl sc hle
     exact out_val hg (.sliceNil _ _) (run_asNext hrun)
    ·trivial
  ·rename_i hgt
   have hgt:¬ sl + n≤sc:=fun h=>by rw [show (sl.add n).ble sc = true from Nat.ble_eq_true_of_le h] at hgt; cases hgt
   unfold appendGrows
   split
   ·trivial
   ·rename_i old hold
    split
    ·rename_i hsm
     unfold smallCells at hsm
     simp only [Bool.and_eq_true,List.all_eq_true] at hsm
     obtain ⟨⟨⟨⟨⟨hb,hl2⟩,hone⟩,hnl⟩,hzf⟩,hpos⟩:=hsm
     have hnl:new.length = n * ei.size:=Nat.eq_of_beq_eq_true hnl
     obtain ⟨zc,hzc,hzl⟩:∃ zc,zeroCells ei = some zc∧zc.length = ei.size:=by
      unfold zeroFits at hzf
      split at hzf
      ·rename_i z hz; exact ⟨z,hz,Nat.eq_of_beq_eq_true hzf⟩
      ·cases hzf
     have hb:(sl + n) * ei.bytes≤1073741824:=Nat.le_of_ble_eq_true hb
     have hl2:sl + n≤1073741824:=Nat.le_of_ble_eq_true hl2
     have hpos:1≤ei.size:=Nat.le_of_ble_eq_true hpos
     cases hm:moved H base e sc ei.size with
     | none=>trivial
     | some H1 =>
      have hH1:H1 = H∨∃ r,H1 = H.set r .dead:=by
       unfold moved at hm
       split at hm
       ·cases hm; exact .inl rfl
       ·unfold movedRow at hm
        split at hm
        ·split at hm
         ·cases hm; exact .inl rfl
         ·split at hm
          ·cases hm; exact .inr ⟨_,rfl⟩
          ·cases hm
        ·cases hm
       ·cases hm; exact .inl rfl
      have big:∀ (base':Option Addr) (sc':Nat) (hs':VRel π (.slice base sl sc) (.slice base' sl sc')),¬ sl + n≤sc' →
        Out E B w₀ H.next π P (grown e (sl + n) (old ++ new) (some H1)) ((asNext (s (.slice base' sl sc'))).run P w):=by
       intro base' sc' hs' hgt'
       obtain ⟨info',zv,hi',hzero,hcv,_⟩:=zeroCells_spec (π:=π) hE hei hzc
       rw [hi] at hi'; cases hi'
       have hzv:zv.cells = zc.toArray:=by rw [← cellsOf_self hcv]
       obtain ⟨old',ho,hor⟩:=elems_ok (P:=P) hg.drew hs' hold
       obtain ⟨new'',hrel',hG'⟩:=hG
       rw [hes] at ho
       have hrun:=hG' zv base' sl sc' old' hzero ho hgt' (by rw [← hbs]; exact hb) hl2
       have hge:=grownCap_ge w (sl + n) sc' e
       refine out_grown hg H1 hH1 e (sl + n) _ (LRel.append hor hrel') hge ?_ (run_asNext (by rw [List.append_assoc]; exact hrun))
       rw [hzv,times_zeroCells]
       simp [sizeT,hei,times_length,hzl]
      cases hs with
      | sliceNil=>exact big none sc (.sliceNil _ _) hgt
      | lim q=>exact big _ sc (.lim q) hgt
      | void=>simp [voidBase,voidSp] at hvo
      | slice q =>
       rename_i r o i
       by_cases hfit:sl + n≤sc + i.extra
       ·exact grow_in_place hE hg q hei hi (hF _ _ _ hfit) hrel hone hnl hold hgt hfit hm
       ·exact big _ _ (.slice q) hfit
    ·trivial

set_option maxHeartbeats 4000000 in
theorem append_fits0 {st xt ty e:TypeId} {D:TypeDesc} {i:TypeInfo} {kk:IntKind} {zv:Value} {z:List Value} {n:Nat} (ht:P.underlying st = some (.slice e)) (hxt:P.underlying xt = some D) (hD:isIntDesc D = true) (hi:P.info? e = some i)
  (hz:i.zero = some zv) (hzv:zv.cells = z.toArray) (hzl:z.length = i.size) (hn:n≤100000) (hb:n * i.bytes≤1073741824) {base:Option Addr} {sl sc:Nat} (hle:sl + n≤sc) :
  (Builtin.append_ #[st,xt] ty #[.slice base sl sc,.int kk (n:Int)]).run P w = ((match base with | some a=>Go.storeCells (a.add (sl * i.size)) (times z n) | none=>pure ()).run P w).andThen fun _ w'=>.ok (.slice base (sl + n) sc) w':=by
 have hw:IntKind.i64.wrap (n:Int) = n:=by exact IntWalk.i64_in _ (by omega)
 have h0:¬ (n:Int) < 0:=by omega
 have h48:¬ (281474976710656 < (n:Int) * (i.bytes:Int)):=by
  have:=Int.ofNat_le.2 hb
  rw [Int.natCast_mul] at this
  omega
 cases D <;> first
  | (cases hD; done)
  | (by_cases h00 : n * i.size = 0
     · have e0 : times z n = [] := List.eq_nil_of_length_eq_zero (by rw [times_length, hzl]; exact h00)
       rw [e0]
       cases base <;> simp [Builtin.append_, run_underlying ht, run_underlying hxt, run_sizeOf hi, run_typeInfo hi, asInt, asIntOf, hw, h0, h48, hle, h00]
     · cases base <;> simp [Builtin.append_, run_underlying ht, run_underlying hxt, run_sizeOf hi, run_typeInfo hi, run_zeroValue hi hz, asInt, asIntOf, hw, h0, h48, hle, h00, hzv, times_zeroCells])

set_option maxHeartbeats 4000000 in
theorem append_grows0 {st xt ty e:TypeId} {D:TypeDesc} {i:TypeInfo} {kk:IntKind} {zv:Value} {z:List Value} {n:Nat} (ht:P.underlying st = some (.slice e)) (hxt:P.underlying xt = some D) (hD:isIntDesc D = true) (hi:P.info? e = some i)
  (hz:i.zero = some zv) (hzv:zv.cells = z.toArray) (hzl:z.length = i.size) (hn:n≤100000) (hb0:n * i.bytes≤1073741824) {base:Option Addr} {sl sc:Nat} {old:List Value}
  (ho:(Builtin.firstCells i.size sl (.slice base sl sc)).run P w.drew = .ok old.toArray w.drew) (hgt:¬ sl + n≤sc)
  (hb:(sl + n) * i.bytes≤1073741824) (hl2:sl + n≤1073741824) :
  (Builtin.append_ #[st,xt] ty #[.slice base sl sc,.int kk (n:Int)]).run P w = .ok (.slice (some ⟨w.heap.size,0,none⟩) (sl + n) (grownCap w (sl + n) sc e))
   (w.drew.alloc (.cells (old ++ (times z n ++ (Builtin.zeroCells zv.cells (grownCap w (sl + n) sc e - (sl + n))).toList)).toArray e)):=by
 have hw:IntKind.i64.wrap (n:Int) = n:=by exact IntWalk.i64_in _ (by omega)
 have h0:¬ (n:Int) < 0:=by omega
 have h480:¬ (281474976710656 < (n:Int) * (i.bytes:Int)):=by
  have:=Int.ofNat_le.2 hb0
  rw [Int.natCast_mul] at this
  omega
 have h63:¬ (9223372036854775807 < ((sl:Int) + (n:Int))):=by omega
 have hfit:=growslice_fits (need:=sl + n) (old:=sc) (bytes:=i.bytes) (by omega) (by omega)
 have h48:¬ (281474976710656 < Builtin.nextslicecap (sl + n) sc * i.bytes):=by omega
 cases D <;> first
  | (cases hD; done)
  | (by_cases h00 : n * i.size = 0
     · have e0 : times z n = [] := List.eq_nil_of_length_eq_zero (by rw [times_length, hzl]; exact h00)
       rw [e0]
       simp [Builtin.append_, run_underlying ht, run_underlying hxt, run_sizeOf hi, run_typeInfo hi, run_zeroValue hi hz, asInt, asIntOf, hw, h0, h480, hgt, h00, ho, h63, h48, Question.forced, newRow, grownCap]
       try (congr 2; apply Array.ext'; simp [List.append_assoc])
     · simp [Builtin.append_, run_underlying ht, run_underlying hxt, run_sizeOf hi, run_typeInfo hi, run_zeroValue hi hz, asInt, asIntOf, hw, h0, h480, hgt, h00, ho, h63, h48, hzv, times_zeroCells, Question.forced, newRow, grownCap]
       try (congr 2; apply Array.ext'; simp [List.append_assoc]))

theorem arm_append (hE:Ok E P) (hg:Good E B w₀ π H w) (ts:Array TypeId) (ty:TypeId) {args:List Value} {args':Array Value} (hargs:LRel π args args'.toList) :
  Out E B w₀ H.next π P (aAppend E H ts.toList args) ((asNext (Builtin.append_ ts ty args')).run P w):=by
 unfold aAppend
 split
 ·rename_i st xt hts
  have hts':ts = #[st,xt]:=by cases ts; simp at hts; simp [hts]
  subst hts'
  split
  ·rename_i s x
   obtain ⟨s',r',e1,hs,hr1⟩:=hargs.cons_inv
   obtain ⟨x',r'',e2,hx,hr2⟩:=hr1.cons_inv
   have e3:=hr2.nil_inv
   subst e3; subst e2
   have hargs':args' = #[s',x']:=by cases args'; simp at e1; simp [e1]
   subst hargs'
   unfold appendArgs
   split
   ·trivial
   ·rename_i e ei hse
    obtain ⟨ht,hei⟩:=sliceElem_spec hE hse
    obtain ⟨info,heu,hi,_,hes,hbs,hzz⟩:=hE.ty e ei hei
    split
    ·trivial
    ·rename_i xi hxi
     obtain ⟨xinfo,hxt,_⟩:=hE.ty xt xi hxi
     split
     ·rename_i hD
      unfold appendMade
      split
      ·trivial
      ·rename_i n hn
       split
       ·trivial
       ·rename_i hnb
        obtain ⟨kk,rfl,hn5⟩:=asNat_spec hx hn
        have hnb:n * ei.bytes≤1073741824:=Nat.le_of_ble_eq_true hnb
        split
        ·rename_i base sl sc
         split
         ·trivial
         rename_i hvo
         cases hz:zeroElems ei n with
         | none=>trivial
         | some new =>
          unfold zeroElems at hz
          split at hz
          ·rename_i z hzc
           split at hz
           ·rename_i hzl
            cases hz
            have hzl:z.length = ei.size:=Nat.eq_of_beq_eq_true hzl
            obtain ⟨info',zv,hi',hzero,hcv,hzr⟩:=zeroCells_spec (π:=π) hE hei hzc
            rw [hi] at hi'; cases hi'
            have hzv:zv.cells = z.toArray:=by rw [← cellsOf_self hcv]
            have hrel:LRel π (times z n) (times z n):=times_rel (by have:=hzr.cells hcv; rw [cellsOf_self hcv] at this; exact this) n
            refine appendTo_out hE hg hei hi hes hbs hs hvo hrel (fun s=>Builtin.append_ #[st,xt] ty #[s,.int kk (n:Int)]) (fun base sl sc hle=>?_) ⟨_,hrel,fun z' base sl sc old hz' ho hgt hb hl2=>?_⟩
            ·exact append_fits0 ht hxt hD hi hzero hzv (by rw [← hes]; exact hzl) hn5 (by rw [← hbs]; exact hnb) hle
            ·rw [hzero] at hz'; cases hz'
             exact append_grows0 ht hxt hD hi hzero hzv (by rw [← hes]; exact hzl) hn5 (by rw [← hbs]; exact hnb) ho hgt hb hl2
           ·cases hz
          ·cases hz
        ·trivial
     ·rename_i hD
      split
      ·trivial
      ·rename_i n hn
       have hl:=run_lenOf (P:=P) hx hn w
       split
       ·rename_i base sl sc
        split
        ·trivial
        rename_i hvo
        cases hnew:elems H ei.size n x with
        | none=>trivial
        | some new =>
         obtain ⟨new',hf,hrel⟩:=elems_ok (P:=P) hg hx hnew
         rw [hes] at hf
         refine appendTo_out hE hg hei hi hes hbs hs hvo hrel (fun s=>Builtin.append_ #[st,xt] ty #[s,x']) (fun base sl sc hle=>?_) ?_
         ·exact append_fits ht hxt (by simpa using hD) hi hl hf hle
         ·obtain ⟨new'',hf',hrel'⟩:=elems_ok (P:=P) hg.drew hx hnew
          rw [hes] at hf'
          exact ⟨new'',hrel',fun z base sl sc old hz ho hgt hb hl2=>append_grows ht hxt (by simpa using hD) hi hz hl ho hf' hgt hb hl2⟩
       ·trivial
  ·trivial
 ·trivial

end
end Go.Rx

namespace Go.Rx
open Go.RowKit
variable [Unknowns]

section
variable {E:Env} {B:Nat} {w₀:World} {π:Places} {H:Heap} {w:World} {P:Program} {ρ:T Value} {size:Nat} {a:Act}

theorem arm_copy (hE:Ok E P) (hg:Good E B w₀ π H w) (ts:Array TypeId) (ty:TypeId) {args:List Value} {args':Array Value} (hargs:LRel π args args'.toList) :
  Out E B w₀ H.next π P (aCopy E H ts.toList args) ((asNext (Builtin.copy_ ts ty args')).run P w):=by
 unfold aCopy
 split
 ·rename_i dt rest hts
  have hts':ts[0]? = some dt:=by rw [← Array.getElem?_toList,hts]; rfl
  split
  ·rename_i s x
   obtain ⟨s',r',e1,hs,hr1⟩:=hargs.cons_inv
   obtain ⟨x',r'',e2,hx,hr2⟩:=hr1.cons_inv
   have e3:=hr2.nil_inv
   subst e3; subst e2
   have hargs':args' = #[s',x']:=by cases args'; simp at e1; simp [e1]
   subst hargs'
   unfold copyArgs
   split
   ·trivial
   ·rename_i e ei hse
    obtain ⟨ht,hei⟩:=sliceElem_spec hE hse
    obtain ⟨info,heu,hi,_,hes,_,_⟩:=hE.ty e ei hei
    split
    ·rename_i base dl cap
     split
     ·trivial
     ·rename_i sl hsl
      have hl:=run_lenOf (P:=P) hx hsl w
      rw [forceNat_eq]
      unfold copyInto
      split
      ·trivial
      ·rename_i new hnew
       obtain ⟨new',hf,hrel⟩:=elems_ok (P:=P) hg hx hnew
       rw [hes] at hf
       split
       ·have:=hs.slice_nil
        subst this
        refine out_val hg (.int _ _) (run_asNext (v:=.int .i64 (.ofNat (Nat.min sl dl))) ?_)
        simp [Builtin.copy_,hts',run_underlying ht,run_sizeOf hi,hl,hf,goInt]
       ·rename_i r o sp
        split
        ·trivial
        rename_i hvo
        split
        ·rename_i H' hH'
         obtain ⟨i,c',hr,rfl⟩:=hs.slice_any hvo
         obtain ⟨w',h1,h2,h3⟩:=storeCells_ok (P:=P) hg hH' hr hrel
         refine out_turned h2 h3 (.int _ _) (run_asNext (v:=.int .i64 (.ofNat (Nat.min sl dl))) ?_)
         simp [Builtin.copy_,hts',run_underlying ht,run_sizeOf hi,hl,hf,goInt,h1]
        ·trivial
    ·trivial
  ·trivial
 ·trivial

theorem out_onData (hg:Good E B w₀ π H w) {args:List Value} {args':Array Value} (hargs:LRel π args args'.toList) {r:Unit→Option Value} {s:Sem Value}
  (h:∀ v,args' = ⟨args⟩→r () = some v→s.run P w = .ok v w):Out E B w₀ H.next π P (onData H args r) ((asNext s).run P w):=by
 unfold onData
 split
 ·rename_i hall
  have e:args'.toList = args:=hargs.eq_of (fun x hx x' hxx=>eq_of_isData 1 x x' (List.all_eq_true.1 hall x hx) hxx)
  refine out_ofVal hg fun v hv=>?_
  obtain ⟨h1,h2⟩:=dataOnly_spec hv
  exact ⟨v,VRel.refl_of_isData 3 v h2,run_asNext (h v (by cases args'; simp at e; simp [e]) h1)⟩
 ·trivial

theorem arm_clear (hE:Ok E P) (hg:Good E B w₀ π H w) (ts:Array TypeId) (ty:TypeId) {args:List Value} {args':Array Value} (hargs:LRel π args args'.toList) :
  Out E B w₀ H.next π P (aClear E H ts.toList args) ((asNext (Builtin.clear_ ts ty args')).run P w):=by
 unfold aClear
 split
 ·rename_i t rest hts
  have hts':ts[0]? = some t:=by rw [← Array.getElem?_toList,hts]; rfl
  split
  ·rename_i x rest'
   obtain ⟨x',r',e1,hx,hr1⟩:=hargs.cons_inv
   have hx':args'[0]? = some x':=by rw [← Array.getElem?_toList,e1]; rfl
   split
   ·rename_i i hi
    obtain ⟨info,hu,_⟩:=hE.ty t i hi
    unfold clearSlice
    split
    ·have:=hx.slice_nil
     subst this
     refine out_val hg (VRel.undef π) (run_asNext (v:=Go.undef) ?_)
     simp only [Builtin.clear_,hts',hx',Sem.run_bind,run_underlying hu,Result.andThen_ok]
     cases i.desc <;> rfl
    ·rename_i r o sp n c
     split
     ·obtain ⟨ad,c',rfl⟩:∃ ad c',x' = .slice (some ad) 0 c':=by cases hx <;> exact ⟨_,_,rfl⟩
      refine out_val hg (VRel.undef π) (run_asNext (v:=Go.undef) ?_)
      simp only [Builtin.clear_,hts',hx',Sem.run_bind,run_underlying hu,Result.andThen_ok]
      cases i.desc <;> rfl
     ·rename_i k
      split
      ·trivial
      rename_i hvo
      unfold clearE
      split
      ·rename_i e ei hse
       obtain ⟨ht,hei⟩:=sliceElem_spec hE hse
       split
       ·rename_i z hz
        obtain ⟨einfo,zv,hei',hzero,hcv,_⟩:=zeroCells_spec (π:=π) hE hei hz
        have hzv:zv.cells = z.toArray:=by rw [← cellsOf_self hcv]
        have hzl:LRel π z z:=by
         obtain ⟨einfo2,zv2,q1,q2,q3,q4⟩:=zeroCells_spec (π:=π) hE hei hz
         have:=q4.cells q3
         rw [cellsOf_self q3] at this
         exact this
        unfold clearZ
        split
        ·split
         ·rename_i H' hH'
          obtain ⟨ii,c',hr,rfl⟩:=hx.slice_any hvo
          obtain ⟨w',h1,h2,h3⟩:=storeCells_ok (P:=P) hg hH' hr (times_rel hzl (Nat.succ k))
          refine out_turned h2 h3 (VRel.undef π) (run_asNext (v:=Go.undef) ?_)
          simp only [Builtin.clear_,hts',hx',Sem.run_bind,run_underlying ht,Result.andThen_ok,run_zeroValue hei' hzero,hzv,times_zeroCells]
          rw [h1]
          rfl
         ·trivial
        ·trivial
       ·trivial
      ·trivial
    ·trivial
   ·trivial
  ·trivial
 ·trivial

theorem arm_builtin (hE:Ok E P) (hg:Good E B w₀ π H w) (b:Builtin) (ts:Array TypeId) (ty:TypeId) (consts:Array Bool) {args:List Value} {args':Array Value} (hargs:LRel π args args'.toList) :
  Out E B w₀ H.next π P (aBuiltin E H b ts ty args) ((builtin b ts ty consts args').run P w):=by
 unfold aBuiltin
 split
 ·exact arm_append hE hg ts ty hargs
 ·exact arm_copy hE hg ts ty hargs
 ·refine out_ofVal hg fun v hv=>?_
  unfold aLen at hv
  split at hv
  ·rename_i t rest hts
   split at hv
   ·rename_i x rest'
    obtain ⟨x',r',e1,hx,hr⟩:=hargs.cons_inv
    split at hv
    ·cases hv
    ·rename_i i hi
     obtain ⟨h1,h2⟩:=lenTI_ok (P:=P) (ty:=ty) hE hg hi hx hv args' (by rw [← Array.getElem?_toList,e1]; rfl) ts (by rw [← Array.getElem?_toList,hts]; rfl)
     exact ⟨v,h2,run_asNext h1⟩
   ·cases hv
  ·cases hv
 ·refine out_ofVal hg fun v hv=>?_
  unfold aCap at hv
  split at hv
  ·rename_i t rest hts
   split at hv
   ·rename_i x rest'
    obtain ⟨x',r',e1,hx,hr⟩:=hargs.cons_inv
    split at hv
    ·cases hv
    ·rename_i i hi
     obtain ⟨h1,h2⟩:=capTI_ok (P:=P) (ty:=ty) hE hg hi hx hv args' (by rw [← Array.getElem?_toList,e1]; rfl) ts (by rw [← Array.getElem?_toList,hts]; rfl)
     exact ⟨v,h2,run_asNext h1⟩
   ·cases hv
  ·cases hv
 ·exact arm_clear hE hg ts ty hargs
 ·exact out_onData hg hargs fun v e hv=>by subst e; rw [hE.prog] at hv; exact pureRun_run hv w
 ·exact out_onData hg hargs fun v e hv=>by subst e; rw [hE.prog] at hv; exact pureRun_run hv w
 ·trivial

theorem out_callFunc (hE:Ok E P) (hg:Good E B w₀ π H w) (g:FuncId) {args:List Value} {args':Array Value} (hargs:LRel π args args'.toList) :
  Out E B w₀ H.next π P (Rx.callFunc E g args H) ((Go.callFunc g args').run P w):=by
 unfold Rx.callFunc
 split
 ·rename_i fn hfn
  have hf:=hE.fn g fn hfn
  unfold callFn
  split
  ·rename_i c hc
   split
   ·rename_i hnum
    refine ⟨π,args',w,Ext.refl _ _,Nat.le_refl _,?_,hargs,hg⟩
    have hn : ¬ fn.name = "runtime.NumGoroutine" := fun e => by rw [e] at hnum; simp at hnum
    simp [Go.callFunc,program,hf,hn,hc,Sem.run]
   ·trivial
  ·trivial
 ·trivial

theorem run_receiverVia {t:TypeId} {D:TypeDesc} (ht:P.underlying t = some D) {path:Array FieldStep} (hp:path.toList = []) {pointer:Bool} (hv:viaOk D pointer = true) (x:Value):(receiverVia t x path pointer).run P w = .ok x w:=by
 unfold receiverVia
 rw [hp]
 simp only [follow,receiverAt,Sem.run_bind,Sem.run_pure,Result.andThen_ok,run_underlying ht]
 cases D <;> cases pointer <;> first | (simp [viaOk] at hv; done) | rfl

theorem out_call (hE:Ok E P) (hg:Good E B w₀ π H w) {f f':Value} (hf:VRel π f f') {args:List Value} {args':Array Value} (hargs:LRel π args args'.toList) :
  Out E B w₀ H.next π P (aCall E H f args) ((do let d ← Deferred.ofValue f' args'; invoke d.target d.args).run P w):=by
 unfold aCall
 split
 ·rename_i fn first captured
  unfold aCallFn
  cases hf with
  | func hpl ha1 ha2 hb1 hb2 =>
   rename_i first' captured'
   have hfirst:LRel π first.toList first'.toList:=LRel.arr.2 ⟨ha1,ha2⟩
   have hcap:LRel π captured.toList captured'.toList:=LRel.arr.2 ⟨hb1,hb2⟩
   split
   ·rename_i g
    have:=out_callFunc hE hg g (args:=first.toList ++ args ++ captured.toList) (args':=first' ++ args' ++ captured') (by simpa using (hfirst.append hargs).append hcap)
    simpa [Deferred.ofValue,invoke] using this
   ·simp [plainFn] at hpl
   ·rename_i t path g pointer
    unfold callVia
    split
    ·rename_i hp
     unfold callViaAt
     split
     ·rename_i i hi
      obtain ⟨info,hu,_⟩:=hE.ty t i hi
      split
      ·rename_i hok
       have hl:=hfirst.append hargs
       split
       ·rename_i x r hxr
        rw [hxr] at hl
        obtain ⟨x',r',e1,hx,hr⟩:=hl.cons_inv
        have hall:first' ++ args' = ⟨x' :: r'⟩:=by
         apply Array.ext'; simpa using e1
        have:=out_callFunc hE hg g (args:=x :: r) (args':=⟨x' :: r'⟩) (LRel.cons hx hr)
        have hext:(#[x'] ++ (⟨x' :: r'⟩:Array Value).extract 1 (⟨x' :: r'⟩:Array Value).size) = ⟨x' :: r'⟩:=by
         apply Array.ext'; simp
        have hrun:((do let d ← Deferred.ofValue (.func (.via t path g pointer) first' captured') args'; invoke d.target d.args:Sem Next).run P w) = (Go.callFunc g ⟨x' :: r'⟩).run P w:=by
         simp only [Deferred.ofValue,Sem.run_bind,Sem.run_pure,Result.andThen_ok,invoke,hall]
         have h0:(⟨x' :: r'⟩:Array Value)[0]? = some x':=rfl
         rw [h0]
         simp only [Sem.run_bind,run_receiverVia hu hp hok,Result.andThen_ok,hext]
        rw [hrun]; exact this
       ·trivial
      ·trivial
     ·trivial
    ·trivial
   ·trivial
  | yield h =>
   rename_i l i
   refine ⟨π,i,args',w,Ext.refl _ _,Nat.le_refl _,h,?_,by simpa using hargs,hg⟩
   simp [Deferred.ofValue,invoke]
 ·trivial

theorem arm_call (hE:Ok E P) (hg:Good E B w₀ π H w) (hρ:TRel π ρ size a.tmps) (c:Call) (o:Oper) (ho:o.op = .call c):Out E B w₀ H.next π P (armCall c E ρ H o.type) ((execOp a.eval o).run P w):=by
 unfold armCall callOp
 have hargs:LRel π (evals ρ c.args.toList) (c.args.map a.eval).toList:=by simpa using hρ.evals c.args.toList
 split
 ·rename_i f hf
  have:=out_call hE hg (hρ.eval f) hargs
  simpa [execOp,ho,resolve,hf] using this
 ·rename_i b hb
  have key:=fun consts=>arm_builtin hE hg b c.argTypes o.type consts hargs
  simp only [execOp,ho,resolve,hb,Sem.run_bind,Sem.run_pure,Result.andThen_ok,invoke]
  exact key _
 ·trivial

theorem lays_range (hE:Ok E P) (hρ:TRel π ρ size a.tmps) (t:TypeId) (x:Operand) (o:Oper) (ho:o.op = .range t x):Lays E π w (rangeOf (E.ty t) (Rx.eval ρ x)) ((execOp a.eval o).run P w):=by
 have hx:=hρ.eval (a:=a) x
 unfold rangeOf
 split
 ·rename_i i hi
  obtain ⟨info,hu,_⟩:=hE.ty t i hi
  split
  ·rename_i hd
   rw [hd] at hu
   split
   ·rename_i s hs
    rw [hs] at hx
    refine ⟨rfl,.stringIter s 0,.pointer (some ⟨w.heap.size,0,none⟩),?_,fun r hr=>⟨VRel.ptr (i:=⟨w.heap.size,0,0⟩) (Places.upd_same _ _),rfl,heap_new w _⟩⟩
    simp [execOp,ho,Instr.range,run_underlying hu,hx.string_inv,newObj,Sem.run]
   ·trivial
  ·trivial
 ·trivial

theorem arm_next (hg:Good E B w₀ π H w) (hρ:TRel π ρ size a.tmps) (x:Operand) (isString:Bool) (o:Oper) (ho:o.op = .next x isString) (ty:TypeId):Out E B w₀ H.next π P (armNext x isString E ρ H ty) ((execOp a.eval o).run P w):=by
 have hx:=hρ.eval (a:=a) x
 unfold armNext nextOf
 split
 ·split
  ·rename_i r hr
   rw [hr] at hx
   obtain ⟨i,hi,hv⟩:=hx.ptr_inv
   unfold nextIn
   split
   ·rename_i s pos hob
    obtain ⟨hd,hheap⟩:=hg.objs r i _ hi hob
    have hget:(getObj i.block).run P w = .ok (.stringIter s pos) w:=by simp [getObj,Sem.run,hheap]
    split
    ·rename_i hlt
     have hlt:pos < s.size:=Nat.le_of_ble_eq_true hlt
     obtain ⟨c,width,hdec⟩:∃ c width,Utf8.decode s pos = (c,width):=⟨_,_,rfl⟩
     rw [hdec]
     unfold nextAt
     simp only [forceNat_eq]
     have hset:=setObj_below (P:=P) (o':=.stringIter s (pos + width)) hheap (by intro _ _ _ e; cases e)
     have hg':=hg.turnObj hi (by rw [hob]; rfl) (.iter s (pos + width)) (.stringIter s (pos + width)) (fun w' hw'=>⟨hd,hw'⟩)
     refine out_turned hg' rfl (VRel.tupleL (l:=[.bool true,.int .i64 (.ofNat pos),.int .i32 (.ofNat c)]) (l':=[.bool true,.int .i64 (.ofNat pos),.int .i32 (.ofNat c)]) (LRel.cons (.bool _) (LRel.cons (.int _ _) (LRel.cons (.int _ _) (LRel.nil π))))) ?_
     simp [execOp,ho,hv,hd,Instr.next,hget,hlt,hdec,hset,goInt]
    ·rename_i hge
     have hge:¬ pos < s.size:=fun h=>by rw [show Nat.ble (Nat.succ pos) s.size = true from Nat.ble_eq_true_of_le h] at hge; cases hge
     refine out_val hg (VRel.tupleL (l:=[.bool false]) (l':=[.bool false]) (LRel.cons (.bool _) (LRel.nil π))) ?_
     simp [execOp,ho,hv,hd,Instr.next,hget,hge]
   ·trivial
  ·trivial
 ·trivial

theorem aop_ok (hE:Ok E P) (hg:Good E B w₀ π H w) (hρ:TRel π ρ size a.tmps) (o:Oper):Out E B w₀ H.next π P (aop o.op E ρ H o.type) ((execOp a.eval o).run P w):=by
 cases ho:o.op with
 | move x=>simpa [aop,armMove,execOp,ho] using arm_move hg hρ x
 | assign x=>simpa [aop,armMove,execOp,ho] using arm_move hg hρ x
 | pick c x y=>exact arm_pick hg hρ c x y o ho
 | alloc t=>exact out_lays hg (lays_alloc hE t o ho _)
 | box t x =>
  refine out_lays hg (lays_box (hρ.eval x) t ?_)
  simp [execOp,ho,Instr.box,newVar,newRow]
 | build t parts=>exact arm_build hE hg hρ t parts o ho o.type
 | buildSlice t len parts=>exact out_lays hg (lays_buildSlice hE hρ t len parts o ho)
 | insert t m k x=>exact arm_update hE hg hρ t m k x o (.inr ho) o.type
 | load t x=>exact arm_load hE hg hρ t x o ho o.type
 | store t x y=>exact arm_store hE hg hρ t x y o ho o.type
 | nilCheck x=>exact arm_nilCheck hg hρ x o ho
 | binOp op t x y u=>exact arm_bin hE hg hρ op t u x y o ho o.type
 | unOp op t x=>exact arm_un hE hg hρ op t x o ho o.type
 | convert s d x=>exact arm_convert hE hg hρ s d x o ho o.type
 | sliceToArrayPointer t x=>exact arm_toArray hE hg hρ t x o ho o.type
 | makeInterface t x=>exact arm_iface hE hg hρ t x o ho o.type
 | makeFunc fn first captured=>exact arm_func hg hρ fn first captured o ho o.type
 | makeMap t r=>exact out_lays hg (lays_makeMap hE hρ t r o ho)
 | makeSlice t l c=>exact out_lays hg (lays_makeSlice hE hρ t l c o ho)
 | slice t x lo hi mx=>exact arm_slice hE hg hρ t x lo hi mx o ho o.type
 | fieldAddr t x f=>exact arm_fieldAddr hE hg hρ t x f o ho o.type
 | field t x f=>exact arm_field hE hg hρ t x f o ho o.type
 | indexAddr t x j=>exact arm_indexAddr hE hg hρ t x j o ho o.type
 | index t x j=>exact arm_index hE hg hρ t x j o ho o.type
 | lookup t x j ok=>exact arm_lookup hE hg hρ t x j ok o ho o.type
 | mapUpdate t m k x=>exact arm_update hE hg hρ t m k x o (.inl ho) o.type
 | mapEntry t m k=>exact arm_entry hE hg hρ t m k o ho o.type
 | entryStore t m s x=>exact arm_entryStore hE hg hρ t m s x o ho o.type
 | extract x i=>exact arm_extract hg hρ x i o ho o.type
 | call c=>exact arm_call hE hg hρ c o ho
 | range t x=>exact out_lays hg (lays_range hE hρ t x o ho)
 | next x b=>exact arm_next hg hρ x b o ho o.type
 | _=>trivial

end
end Go.Rx
