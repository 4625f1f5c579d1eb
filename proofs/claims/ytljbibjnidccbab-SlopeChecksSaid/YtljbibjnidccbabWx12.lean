/- Contracts by what is to be shown of each step: a part of the engine. -/
import Derived.Test.YtljbibjnidccbabWx11
set_option linter.unusedVariables false
set_option linter.unusedSectionVars false
set_option linter.unusedSimpArgs false
namespace Go.Rx
open Go.RowKit
noncomputable section

/-! Lists that are built: appending. -/

def Built (h0 h:Hp) (e:TypeId) (v:Value) (l:List Int):Prop :=
 (v = .slice none 0 0∧l = [])∨∃ r,v = slc r 0 l.length l.length∧h0.next≤r∧∃ x,h.at r = some (.row e x (l.map int))
theorem Built.ints {h0 h:Hp} {e:TypeId} {v:Value} {l:List Int} (k:Built h0 h e v l):Ints h v l:=by
 rcases k with ⟨rfl,rfl⟩ | ⟨r,rfl,_,x,hr⟩
 ·exact ⟨none,0,rfl,fun k hk=>by simp at hk⟩
 ·refine ⟨_,_,rfl,fun k hk=>⟨r,0,none,rfl,rfl,?_⟩⟩
  exact cellAt_row hr (by simp [hk])
theorem Built.ext {h0 h h':Hp} {e:TypeId} {v:Value} {l:List Int} (g:Grows h h') (k:Built h0 h e v l):Built h0 h' e v l:=by
 rcases k with h1 | ⟨r,rfl,h2,x,hr⟩
 ·exact .inl h1
 ·exact .inr ⟨r,rfl,h2,x,g.at_ _ _ hr⟩
theorem Built.back {h1 h0 h:Hp} {e:TypeId} {v:Value} {l:List Int} (g:h1.next≤h0.next) (k:Built h0 h e v l):Built h1 h e v l:=by
 rcases k with h1 | ⟨r,rfl,h2,hr⟩
 ·exact .inl h1
 ·exact .inr ⟨r,rfl,Nat.le_trans g h2,hr⟩

def Elems (h:Hp) (x:Value) (new:List Int):Prop:=lenOf x = some new.length∧helems h 1 new.length x = some (new.map int)

theorem smallN_ok {n:Nat} {new:List Int} {l:Nat} (hn:n = new.length) (hl:l≤1000000):smallN 1 8 n l (new.map int) = true:=by
 unfold smallN
 subst hn
 have e1:Nat.mul l 8 = l * 8:=rfl
 have e2:Nat.mul new.length 1 = new.length:=Nat.mul_one _
 simp only [Bool.and_eq_true,Nat.ble_eq,e1,e2]
 refine ⟨⟨⟨by omega,by omega⟩,?_⟩,by simp⟩
 rw [List.all_eq_true]
 intro v hv
 obtain ⟨n,_,rfl⟩:=List.mem_map.1 hv
 rfl

theorem AppP.ints {E:Env} {h0 h:Hp} {e:TypeId} {v x:Value} {l new:List Int} {K:Value→Hp→Prop} (ho:Built h0 h e v l) (hg:Grows h0 h) (hx:Elems h x new) (hl:l.length + new.length≤1000000)
  (k:∀ v' h',Built h0 h' e v' (l ++ new)→Grows h0 h'→(∀ r o,h.at r = some o→(∀ n c,v≠slc r 0 n c)→h'.at r = some o)→K v' h'):AppP E h e 1 8 v x K:=by
 obtain ⟨hx1,hx2⟩:=hx
 unfold AppP happT
 rcases ho with ⟨rfl,rfl⟩ | ⟨r,rfl,hr0,xx,hr⟩
 ·dsimp only
  rw [show voidBase none = false from rfl]
  dsimp only
  rw [hx1]
  dsimp only
  rw [hx2]
  dsimp only
  by_cases hn:new.length = 0
  ·rw [if_pos (by omega)]
   have:new = []:=List.eq_nil_of_length_eq_zero hn
   subst this
   unfold hfitsT
   exact k _ _ (.inl ⟨rfl,rfl⟩) hg (fun r o hr _=>hr)
  ·rw [if_neg (by omega)]
   unfold hgrowsT
   rw [show helems h 1 0 (.slice none 0 0) = some [] from rfl]
   dsimp only
   rw [smallN_ok rfl (by omega)]
   dsimp only
   unfold hmoved hgrown
   dsimp only
   refine k _ _ (.inr ⟨h.next,?_,hg.next,false,?_⟩) (hg.then_lay _) (fun r o hr _=>Hp.at_lay_old _ hr)
   ·show slc _ _ _ _ = slc _ _ _ _
    simp
   ·rw [Hp.at_lay_self]; rfl
 ·have hcells:helems h 1 l.length (.slice (some ⟨r,0,none⟩) l.length l.length) = some (l.map int):=by
   show cellsAt h r 0 (l.length * 1) = _
   rw [cellsAt_row hr (by simp)]
   simp only [List.drop_zero,Nat.mul_one]
   rw [List.take_of_length_le (by simp)]
  dsimp only [slc]
  rw [show voidBase (some ⟨r,0,none⟩) = false from rfl]
  dsimp only
  rw [hx1]
  dsimp only
  rw [hx2]
  dsimp only
  by_cases hn:new.length = 0
  ·rw [if_pos (by omega)]
   have:new = []:=List.eq_nil_of_length_eq_zero hn
   subst this
   unfold hfitsT
   dsimp only
   have e1:storeAt h r (0 + l.length * 1) (List.map int []) = some (h.set r (.row e xx (l.map int))):=by
    unfold storeAt
    rw [hr]
    dsimp only
    rw [if_pos ⟨by simp,rfl⟩]
    rfl
   rw [e1]
   have hlt:=Hp.lt_of_at hr
   refine k _ _ (.inr ⟨r,?_,hr0,xx,?_⟩) (hg.then_set _ hr0) (fun r' o hr' hne=>?_)
   ·rw [List.append_nil]; rfl
   ·rw [Hp.at_set_self _ hlt,List.append_nil]
   ·have:r'≠r:=fun e=>hne _ _ (by rw [e])
    rw [Hp.at_set_ne _ this]; exact hr'
  ·rw [if_neg (by omega)]
   unfold hgrowsT
   rw [hcells]
   dsimp only
   rw [smallN_ok rfl (by omega)]
   dsimp only
   unfold hmoved
   dsimp only
   rw [hr]
   cases xx with
   | true =>
    dsimp only
    unfold hgrown
    dsimp only
    refine k _ _ (.inr ⟨h.next,?_,hg.next,false,?_⟩) (hg.then_lay _) (fun r' o hr' hne=>Hp.at_lay_old _ hr')
    ·rw [List.length_append]
    ·rw [Hp.at_lay_self,List.map_append]
   | false =>
    dsimp only
    rw [if_pos ⟨rfl,by simp⟩]
    unfold hgrown
    dsimp only
    refine k _ _ (.inr ⟨(h.set r .dead).next,?_,hg.next,false,?_⟩) ((hg.then_set _ hr0).then_lay _) (fun r' o hr' hne=>?_)
    ·rw [List.length_append]
    ·rw [Hp.at_lay_self,List.map_append]
    ·have:r'≠r:=fun e=>hne _ _ (by rw [e])
     exact Hp.at_lay_old _ (by rw [Hp.at_set_ne _ this]; exact hr')
theorem Built.elems {h0 h:Hp} {e:TypeId} {v:Value} {l:List Int} (k:Built h0 h e v l):Elems h v l:=by
 rcases k with ⟨rfl,rfl⟩ | ⟨r,rfl,_,x,hr⟩
 ·exact ⟨rfl,rfl⟩
 ·refine ⟨rfl,?_⟩
  show cellsAt h r 0 (l.length * 1) = _
  rw [cellsAt_row hr (by simp)]
  simp only [List.drop_zero,Nat.mul_one]
  rw [List.take_of_length_le (by simp)]

/-! Parts of slices. -/

def View (h:Hp) (v:Value) (l:List Int):Prop :=
 (l = []∧(v = .slice none 0 0∨v = void))∨∃ r o c,v = slc r o l.length c∧l.length≤c∧((∃ e x cs,h.at r = some (.row e x cs)∧o + l.length≤cs.length)∨∃ cs,h.at r = some (.lent cs)∧o + l.length≤cs.length)∧∀ k,(hk:k < l.length)→cellAt h r (o + k) = some (int l[k])
theorem View.ints {h:Hp} {v:Value} {l:List Int} (k:View h v l):Ints h v l:=by
 rcases k with ⟨rfl,rfl | rfl⟩ | ⟨r,o,c,rfl,hc,hr,hcell⟩
 ·exact ⟨none,0,rfl,fun k hk=>by simp at hk⟩
 ·exact ⟨_,0,rfl,fun k hk=>by simp at hk⟩
 ·exact ⟨_,c,rfl,fun k hk=>⟨r,o,none,rfl,rfl,by rw [Nat.add_comm]; exact hcell k hk⟩⟩
theorem View.ext {h h':Hp} {v:Value} {l:List Int} (g:Grows h h') (k:View h v l):View h' v l:=by
 rcases k with h0 | ⟨r,o,c,rfl,hc,hr,hcell⟩
 ·exact .inl h0
 ·refine .inr ⟨r,o,c,rfl,hc,?_,fun k hk=>g.cell (hcell k hk)⟩
  rcases hr with ⟨e,x,cs,hr,hl⟩ | ⟨cs,hr,hl⟩
  ·exact .inl ⟨e,x,cs,g.at_ _ _ hr,hl⟩
  ·exact .inr ⟨cs,g.at_ _ _ hr,hl⟩
theorem Built.view {h0 h:Hp} {e:TypeId} {v:Value} {l:List Int} (k:Built h0 h e v l):View h v l:=by
 rcases k with ⟨rfl,rfl⟩ | ⟨r,rfl,_,x,hr⟩
 ·exact .inl ⟨rfl,.inl rfl⟩
 ·exact .inr ⟨r,0,_,rfl,Nat.le_refl _,.inl ⟨e,x,_,hr,by simp⟩,fun k hk=>cellAt_row hr (by simp [hk])⟩
theorem LentI.view {h:Hp} {v:Value} {l:List Int} (k:LentI h v l):View h v l:=by
 rcases k with ⟨rfl,rfl⟩ | ⟨r,rfl,hr⟩
 ·exact .inl ⟨rfl,.inl rfl⟩
 ·refine .inr ⟨r,0,_,rfl,Nat.le_refl _,.inr ⟨_,hr,by simp⟩,fun k hk=>?_⟩
  unfold cellAt
  rw [hr]
  simp [hk]
theorem View.known {h:Hp} {v:Value} {l:List Int} (k:View h v l):∃ a c,v = .slice a l.length c:=by
 rcases k with ⟨rfl,rfl | rfl⟩ | ⟨r,o,c,rfl,hc,hr,hcell⟩ <;> exact ⟨_,_,rfl⟩

def BdOf (lo hi:Option Value) (len i j:Nat):Prop:=(lo = none∧i = 0∨lo = some (int i))∧(hi = none∧j = len∨hi = some (int j))
theorem bounds_of {lo hi:Option Value} {len cap i j:Nat} (h:BdOf lo hi len i j) (h1:i≤j) (h2:j≤len) (h3:len≤cap):bounds len cap lo hi none = some (i,j,cap):=by
 obtain ⟨hlo,hhi⟩:=h
 have e1:∀ n m:Nat,n≤m→asNat m (int n) = some n:=fun n m h=>by
  show natUpto m (Int.ofNat n) = _
  unfold natUpto
  dsimp only
  rw [show Nat.ble n m = true by rw [Nat.ble_eq]; exact h]
 have e2:bound hi cap len = some j:=by
  rcases hhi with ⟨rfl,rfl⟩ | rfl
  ·rfl
  ·exact e1 _ _ (by omega)
 have e3:bound lo j 0 = some i:=by
  rcases hlo with ⟨rfl,rfl⟩ | rfl
  ·rfl
  ·exact e1 _ _ h1
 unfold bounds
 rw [show bound none cap cap = some cap from rfl]
 cases hi with
 | none=>dsimp only; rw [e2]; dsimp only; rw [e3]
 | some x=>dsimp only; rw [e2]; dsimp only; rw [e3]

theorem sameV_slice (a:Option Addr) (l c:Nat):sameV 4 (.slice a l c) (.slice a l c) = true:=by
 show (decide (a = a) && Nat.beq l l && Nat.beq c c) = true
 simp
theorem cut_val {h:Hp} {v:Value} {l:List Int} {lo hi:Option Value} {i j:Nat} (hv:View h v l) (hb:BdOf lo hi l.length i j) (h1:i≤j) (h2:j≤l.length) :
  ∃ v',View h v' ((l.drop i).take (j - i))∧sameV 4 v' v' = true∧∀ h',Grows h h'→hcutS h' 1 v lo hi none = .val v' h':=by
 have hlen:((l.drop i).take (j - i)).length = j - i:=by rw [List.length_take,List.length_drop]; omega
 rcases hv with ⟨rfl,rfl | rfl⟩ | ⟨r,o,c,rfl,hc,hr,hcell⟩
 ·have hj:j = 0:=by simpa using h2
  have hi:i = 0:=by omega
  refine ⟨.slice none 0 0,?_,rfl,fun h' _=>?_⟩
  ·subst hj; subst hi; exact .inl ⟨rfl,.inl rfl⟩
  ·unfold hcutS
   dsimp only
   rw [bounds_of (len:=0) hb h1 h2 (Nat.le_refl _)]
   subst hj; subst hi
   rfl
 ·have hj:j = 0:=by simpa using h2
  have hi:i = 0:=by omega
  refine ⟨void,?_,sameV_slice _ _ _,fun h' _=>?_⟩
  ·subst hj; subst hi; exact .inl ⟨rfl,.inr rfl⟩
  ·unfold hcutS
   dsimp only [void]
   rw [bounds_of (len:=0) hb h1 h2 (Nat.le_refl _)]
   rfl
 ·have part:∀ o',(o' = o + i∨j - i = 0∧o' = o)→View h (slc r o' (j - i) (c - i)) ((l.drop i).take (j - i)):=by
   intro o' ho'
   refine .inr ⟨r,o',c - i,by rw [hlen],by rw [hlen]; omega,?_,fun k hk=>?_⟩
   ·rw [hlen]
    rcases hr with ⟨e,x,cs,hr,hl⟩ | ⟨cs,hr,hl⟩
    ·exact .inl ⟨e,x,cs,hr,by omega⟩
    ·exact .inr ⟨cs,hr,by omega⟩
   have hk':k < j - i:=by rw [hlen] at hk; exact hk
   have e:o' = o + i:=by omega
   rw [e]
   have:=hcell (i + k) (by omega)
   rw [show o + i + k = o + (i + k) by omega,this]
   simp [List.getElem_take,List.getElem_drop]
  have empty:¬ i + 1≤c→View h void ((l.drop i).take (j - i)):=fun hn=>.inl ⟨List.eq_nil_of_length_eq_zero (by rw [hlen]; omega),.inr rfl⟩
  have opened:∃ v',View h v' ((l.drop i).take (j - i))∧sameV 4 v' v' = true∧∀ h',lift (cutOf D0 1 r o true (some (i,j,c))) h' = .val v' h':=by
   unfold cutOf cutOpen
   dsimp only
   cases hble:Nat.ble (Nat.succ i) c with
   | true=>exact ⟨_,part _ (.inl (by show o + i * 1 = o + i; omega)),sameV_slice _ _ _,fun h'=>rfl⟩
   | false =>
    have hn:¬ i + 1≤c:=fun hle=>by rw [Nat.ble_eq_true_of_le hle] at hble; cases hble
    unfold cutAll
    have e1:Nat.sub j i = 0:=by show j - i = 0; omega
    have e2:Nat.sub c i = 0:=by show c - i = 0; omega
    rw [e1,e2]
    exact ⟨_,empty hn,sameV_slice _ _ _,fun h'=>rfl⟩
  have shape:∀ h',hcutS h' 1 (slc r o l.length c) lo hi none = hcutObj h' 1 r o true (some (i,j,c)) (h'.at r):=by
   intro h'
   unfold hcutS
   dsimp only [slc]
   rw [bounds_of hb h1 h2 hc]
   rfl
  rcases hr with ⟨e,x,cs,hr',_⟩ | ⟨cs,hr',_⟩
  ·cases x with
   | true =>
    have ex:∃ o',(o' = o + i∨j - i = 0∧o' = o)∧cutTo 1 o i c = o':=by
     unfold cutTo
     cases hbeq:Nat.beq c i with
     | true =>
      have:c = i:=Nat.eq_of_beq_eq_true hbeq
      exact ⟨o,.inr ⟨by omega,rfl⟩,rfl⟩
     | false=>exact ⟨o + i * 1,.inl (by omega),rfl⟩
    obtain ⟨o',ho',ee⟩:=ex
    refine ⟨_,part o' ho',sameV_slice _ _ _,fun h' g=>?_⟩
    rw [shape,g.at_ _ _ hr']
    unfold hcutObj cutExact
    dsimp only
    rw [ee]
    rfl
   | false =>
    obtain ⟨v',k1,k2,k3⟩:=opened
    refine ⟨v',k1,k2,fun h' g=>?_⟩
    rw [shape,g.at_ _ _ hr']
    exact k3 h'
  ·obtain ⟨v',k1,k2,k3⟩:=opened
   refine ⟨v',k1,k2,fun h' g=>?_⟩
   rw [shape,g.at_ _ _ hr']
   exact k3 h'
theorem CutP.ints {E:Env} {h:Hp} {v:Value} {l:List Int} {lo hi:Option Value} {i j:Nat} {K:Value→Hp→Prop} (hv:View h v l) (hb:BdOf lo hi l.length i j) (h1:i≤j) (h2:j≤l.length)
  (k:∀ v',View h v' ((l.drop i).take (j - i))→(∀ h',Grows h h'→hcutS h' 1 v lo hi none = .val v' h')→sameV 4 v' v' = true→K v' h):CutP E h 1 v lo hi none K:=by
 obtain ⟨v',k1,k2,k3⟩:=cut_val hv hb h1 h2
 unfold CutP
 rw [k3 h (Grows.refl _)]
 exact k v' k1 k3 k2
theorem CutP.val {E:Env} {h:Hp} {size:Nat} {v v':Value} {lo hi mx:Option Value} {K:Value→Hp→Prop} (e:hcutS h size v lo hi mx = .val v' h) (k:K v' h):CutP E h size v lo hi mx K:=by
 unfold CutP
 rw [e]
 exact k
theorem sameV_int (n:Int):sameV 4 (int n) (int n) = true:=by
 show eqI n n = true
 unfold eqI
 cases n <;> simp
theorem sameAt_val {E:Env} {g:G} {n:Nt} {h h2:Hp} (e:runT E g.op n.φ h = .val n.v h2) (s:sameV 4 n.v n.v = true):sameAt E g n h:=by
 unfold sameAt
 rw [e]
 exact ⟨rfl,s⟩
theorem View.elems {h:Hp} {v:Value} {l:List Int} (k:View h v l):Elems h v l:=by
 rcases k with ⟨rfl,rfl | rfl⟩ | ⟨r,o,c,rfl,hc,hr,hcell⟩
 ·exact ⟨rfl,rfl⟩
 ·exact ⟨rfl,rfl⟩
 ·refine ⟨rfl,?_⟩
  have key:∀ cs:List Value,o + l.length≤cs.length→(∀ k,k < l.length→∀ hk:k < l.length,cs[o + k]? = some (int l[k]))→cellsIn o (l.length * 1) cs = some (l.map int):=by
   intro cs hl hc
   unfold cellsIn
   rw [Nat.mul_one,if_pos hl]
   refine congrArg some (List.ext_getElem? fun k=>?_)
   by_cases hk:k < l.length
   ·rw [List.getElem?_take,if_pos hk,List.getElem?_drop,hc k hk hk]
    simp [hk]
   ·rw [List.getElem?_take,if_neg hk]
    simp [hk]
  show cellsAt h r o (l.length * 1) = _
  unfold cellsAt
  rcases hr with ⟨e,x,cs,hr,hl⟩ | ⟨cs,hr,hl⟩
  ·rw [hr]
   exact key cs hl (fun k _ hk=>by have:=hcell k hk; unfold cellAt at this; rw [hr] at this; exact this)
  ·rw [hr]
   exact key cs hl (fun k _ hk=>by have:=hcell k hk; unfold cellAt at this; rw [hr] at this; exact this)

/-! Structs in memory. -/
theorem storeAt_all {h:Hp} {e:TypeId} {x:Bool} {cs vs:List Value} (hl:vs.length = cs.length) (h1:vs.all oneCell = true) (ho:over cs 0 vs = vs):storeAt (h.lay (.row e x cs)) h.next 0 vs = some (h.lay (.row e x vs)):=by
 unfold storeAt
 rw [Hp.at_lay_self]
 dsimp only
 rw [if_pos ⟨by omega,h1⟩,ho,Hp.set_lay_self]
theorem leave_cell {E:Env} {φ:Frame} {h:Hp} {a:Nat} {t:TypeId} {r o:Nat} {i:TI} {cs:List Value} {Q:Value→Hp→Prop} (hφ:φ a = ptr r o) (ht:E.ty t = some i) (ha:i.agg = true) (hc:cellsAt h r o i.size = some cs) (hq:Q (.agg ⟨cs⟩) h):finP E [.cell a t] ⟨φ,h,[]⟩ Q:=by
 have e:resultsφ E φ h [.cell a t] = some [.agg ⟨cs⟩]:=by
  unfold resultsφ resultφ
  dsimp only
  rw [hφ]
  dsimp only [ptr]
  unfold hload
  rw [ht]
  dsimp only
  unfold hloadTI
  rw [ha]
  dsimp only
  rw [hc]
  rfl
 unfold finP
 dsimp only
 rw [show takeMarksφ [] h = some h from rfl]
 dsimp only
 rw [e]
 exact hq
theorem resP_val {E:Env} {r:HRes} {v:Value} {h:Hp} {K:Value→Hp→Prop} (e:r = .val v h) (k:K v h):ResP E r K:=by rw [e]; exact k
end
end Go.Rx
