/- Contracts by what is to be shown of each step: a part of the engine. -/
import Derived.Test.YtljbibjnidccbabWx12
set_option linter.unusedVariables false
set_option linter.unusedSectionVars false
set_option linter.unusedSimpArgs false
namespace Go.Rx
open Go.RowKit
noncomputable section

/-! Lists of any elements that are built: the cells of n elements of s cells. -/

def BuiltC (h0 h:Hp) (e:TypeId) (s:Nat) (v:Value) (n:Nat) (cs:List Value):Prop :=
 cs.length = n * s∧((v = .slice none 0 0∧n = 0)∨∃ r,v = slc r 0 n n∧h0.next≤r∧∃ x,h.at r = some (.row e x cs))
theorem BuiltC.nil {h0 h:Hp} {e:TypeId} {s:Nat}:BuiltC h0 h e s (.slice none 0 0) 0 []:=⟨by simp,.inl ⟨rfl,rfl⟩⟩
theorem BuiltC.ext {h0 h h':Hp} {e:TypeId} {s n:Nat} {v:Value} {cs:List Value} (g:Grows h h') (k:BuiltC h0 h e s v n cs):BuiltC h0 h' e s v n cs:=by
 obtain ⟨hl,h1 | ⟨r,rfl,h2,x,hr⟩⟩:=k
 ·exact ⟨hl,.inl h1⟩
 ·exact ⟨hl,.inr ⟨r,rfl,h2,x,g.at_ _ _ hr⟩⟩
theorem BuiltC.back {h1 h0 h:Hp} {e:TypeId} {s n:Nat} {v:Value} {cs:List Value} (g:h1.next≤h0.next) (k:BuiltC h0 h e s v n cs):BuiltC h1 h e s v n cs:=by
 obtain ⟨hl,h1 | ⟨r,rfl,h2,hr⟩⟩:=k
 ·exact ⟨hl,.inl h1⟩
 ·exact ⟨hl,.inr ⟨r,rfl,Nat.le_trans g h2,hr⟩⟩
def ElemsC (h:Hp) (s:Nat) (x:Value) (m:Nat) (new:List Value):Prop:=lenOf x = some m∧helems h s m x = some new∧new.length = m * s∧new.all oneCell = true
theorem BuiltC.elems {h0 h:Hp} {e:TypeId} {s n:Nat} {v:Value} {cs:List Value} (h1:cs.all oneCell = true) (k:BuiltC h0 h e s v n cs):ElemsC h s v n cs:=by
 obtain ⟨hl,⟨rfl,rfl⟩ | ⟨r,rfl,_,x,hr⟩⟩:=k
 ·have:cs = []:=List.eq_nil_of_length_eq_zero (by omega)
  subst this
  exact ⟨rfl,rfl,by simp,rfl⟩
 ·refine ⟨rfl,?_,hl,h1⟩
  show cellsAt h r 0 (n * s) = _
  rw [cellsAt_row hr (by omega)]
  simp only [List.drop_zero]
  rw [List.take_of_length_le (by omega)]
theorem smallN_cells {size bytes n l:Nat} {new:List Value} (hn:new.length = n * size) (h1:new.all oneCell = true) (hb:l * bytes≤1073741824) (hl:l≤1073741824):smallN size bytes n l new = true:=by
 unfold smallN
 have e1:Nat.mul l bytes = l * bytes:=rfl
 have e2:Nat.mul n size = n * size:=rfl
 simp only [Bool.and_eq_true,Nat.ble_eq,e1,e2,Nat.beq_eq]
 exact ⟨⟨⟨hb,hl⟩,h1⟩,hn⟩
theorem AppP.cells {E:Env} {h0 h:Hp} {e:TypeId} {s bytes n m:Nat} {v x:Value} {cs new:List Value} {K:Value→Hp→Prop} (ho:BuiltC h0 h e s v n cs) (hg:Grows h0 h) (hx:ElemsC h s x m new) (hb:(n + m) * bytes≤1073741824) (hl:n + m≤1073741824)
  (k:∀ v' h',BuiltC h0 h' e s v' (n + m) (cs ++ new)→Grows h0 h'→(∀ r o,h.at r = some o→(∀ n c,v≠slc r 0 n c)→h'.at r = some o)→K v' h'):AppP E h e s bytes v x K:=by
 obtain ⟨hx1,hx2,hx3,hx4⟩:=hx
 have hlen:(cs ++ new).length = (n + m) * s:=by rw [List.length_append,ho.1,hx3,Nat.add_mul]
 have hn0:m = 0→new = []:=fun e=>List.eq_nil_of_length_eq_zero (by rw [hx3,e]; simp)
 obtain ⟨hcl,ho⟩:=ho
 unfold AppP happT
 rcases ho with ⟨rfl,rfl⟩ | ⟨r,rfl,hr0,xx,hr⟩
 ·have hcs:cs = []:=List.eq_nil_of_length_eq_zero (by omega)
  dsimp only
  rw [show voidBase none = false from rfl]
  dsimp only
  rw [hx1]
  dsimp only
  rw [hx2]
  dsimp only
  by_cases hn:m = 0
  ·rw [if_pos (by omega)]
   have:=hn0 hn
   subst this
   unfold hfitsT
   subst hcs
   have:0 + m = 0:=by omega
   rw [this]
   exact k _ _ ⟨by rw [this] at *; simp,.inl ⟨rfl,by omega⟩⟩ hg (fun r o hr _=>hr)
  ·rw [if_neg (by omega)]
   unfold hgrowsT
   rw [show helems h s 0 (.slice none 0 0) = some [] from rfl]
   dsimp only
   rw [smallN_cells hx3 hx4 hb hl]
   dsimp only
   unfold hmoved hgrown
   dsimp only
   subst hcs
   refine k _ _ ⟨hlen,.inr ⟨h.next,rfl,hg.next,false,?_⟩⟩ (hg.then_lay _) (fun r o hr _=>Hp.at_lay_old _ hr)
   rw [Hp.at_lay_self]
 ·have hcells:helems h s n (.slice (some ⟨r,0,none⟩) n n) = some cs:=by
   show cellsAt h r 0 (n * s) = _
   rw [cellsAt_row hr (by omega)]
   simp only [List.drop_zero]
   rw [List.take_of_length_le (by omega)]
  dsimp only [slc]
  rw [show voidBase (some ⟨r,0,none⟩) = false from rfl]
  dsimp only
  rw [hx1]
  dsimp only
  rw [hx2]
  dsimp only
  by_cases hn:m = 0
  ·rw [if_pos (by omega)]
   have:=hn0 hn
   subst this
   unfold hfitsT
   dsimp only
   have e1:storeAt h r (0 + n * s) [] = some (h.set r (.row e xx cs)):=by
    unfold storeAt
    rw [hr]
    dsimp only
    rw [if_pos ⟨by simp; omega,rfl⟩]
    rfl
   rw [e1]
   have hlt:=Hp.lt_of_at hr
   refine k _ _ ⟨hlen,.inr ⟨r,?_,hr0,xx,?_⟩⟩ (hg.then_set _ hr0) (fun r' o hr' hne=>?_)
   ·rw [hn]; rfl
   ·rw [Hp.at_set_self _ hlt,List.append_nil]
   ·have:r'≠r:=fun e=>hne _ _ (by rw [e])
    rw [Hp.at_set_ne _ this]; exact hr'
  ·rw [if_neg (by omega)]
   unfold hgrowsT
   rw [hcells]
   dsimp only
   rw [smallN_cells hx3 hx4 hb hl]
   dsimp only
   unfold hmoved
   dsimp only
   rw [hr]
   cases xx with
   | true =>
    dsimp only
    unfold hgrown
    dsimp only
    refine k _ _ ⟨hlen,.inr ⟨h.next,rfl,hg.next,false,?_⟩⟩ (hg.then_lay _) (fun r' o hr' hne=>Hp.at_lay_old _ hr')
    rw [Hp.at_lay_self]
   | false =>
    dsimp only
    rw [if_pos ⟨rfl,by omega⟩]
    unfold hgrown
    dsimp only
    refine k _ _ ⟨hlen,.inr ⟨(h.set r .dead).next,rfl,hg.next,false,?_⟩⟩ ((hg.then_set _ hr0).then_lay _) (fun r' o hr' hne=>?_)
    ·rw [Hp.at_lay_self]
    ·have:r'≠r:=fun e=>hne _ _ (by rw [e])
     exact Hp.at_lay_old _ (by rw [Hp.at_set_ne _ this]; exact hr')
/-! Rows by a function. -/
end
end Go.Rx
