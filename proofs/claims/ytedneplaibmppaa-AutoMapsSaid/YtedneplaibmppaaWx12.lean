/- A part of the engine. -/
import Derived.Test.YtedneplaibmppaaWx11
set_option linter.unusedVariables false
set_option linter.unusedSectionVars false
set_option linter.unusedSimpArgs false
namespace Go.Rx
open Go.RowKit
noncomputable section
/-! Lists that are built: appending. -/
def Built (h0 h:Hp)(e:TypeId)(v:Value)(l:List Int):Prop :=
 (v = .slice none 0 0∧l = [])∨∃ r,v = slc r 0 l.length l.length∧h0.next≤r∧∃ x,h.at r = some (.row e x (l.map int))
theorem Built.ints {h0 h:Hp}{e:TypeId}{v:Value}{l:List Int}(k:Built h0 h e v l):Ints h v l:=by
 rcases k with ⟨rfl,rfl⟩ | ⟨r,rfl,_,x,hr⟩
 ·exact ⟨none,0,rfl,fun k hk=>by simp at hk⟩
 ·refine ⟨_,_,rfl,fun k hk=>⟨r,0,none,rfl,rfl,?_⟩⟩;exact bA hr (by simp [hk])
theorem Built.ext {h0 h h':Hp}{e:TypeId}{v:Value}{l:List Int}(g:aA h h')(k:Built h0 h e v l):Built h0 h' e v l:=by
 rcases k with h1 | ⟨r,rfl,h2,x,hr⟩
 ·exact .inl h1
 ·exact .inr ⟨r,rfl,h2,x,g.at_ _ _ hr⟩
theorem Built.back {h1 h0 h:Hp}{e:TypeId}{v:Value}{l:List Int}(g:h1.next≤h0.next)(k:Built h0 h e v l):Built h1 h e v l:=by
 rcases k with h1 | ⟨r,rfl,h2,hr⟩
 ·exact .inl h1
 ·exact .inr ⟨r,rfl,Nat.le_trans g h2,hr⟩
def S9 (h:Hp)(x:Value)(new:List Int):Prop:=lenOf x = some new.length∧dh h 1 new.length x = some (new.map int)
theorem J6 {n:Nat}{new:List Int}{l:Nat}(hn:n = new.length)(hl:l≤1000000):Bb 1 8 n l (new.map int) = true:=by
 unfold Bb;subst hn;have e1:Nat.mul l 8 = l * 8:=rfl;have e2:Nat.mul new.length 1 = new.length:=Nat.mul_one _;simp only [Bool.and_eq_true,Nat.ble_eq,e1,e2];refine ⟨⟨⟨by omega,by omega⟩,?_⟩,by simp⟩;rw [List.all_eq_true];intro v hv;obtain ⟨n,_,rfl⟩:=List.mem_map.1 hv;rfl
theorem fB.ints {E:Env}{h0 h:Hp}{e:TypeId}{v x:Value}{l new:List Int}{K:Value→Hp→Prop}(ho:Built h0 h e v l)(hg:aA h0 h)(hx:S9 h x new)(hl:l.length + new.length≤1000000)
  (k:∀ v' h',Built h0 h' e v' (l ++ new)→aA h0 h'→(∀ r o,h.at r = some o→(∀ n c,v≠slc r 0 n c)→h'.at r = some o)→K v' h'):fB E h e 1 8 v x K:=by
 obtain ⟨hx1,hx2⟩:=hx;unfold fB J3;rcases ho with ⟨rfl,rfl⟩ | ⟨r,rfl,hr0,xx,hr⟩
 ·dsimp only;rw [show jR none = false from rfl];dsimp only;rw [hx1];dsimp only;rw [hx2];dsimp only;by_cases hn:new.length = 0
  ·rw [if_pos (by omega)];have:new = []:=List.eq_nil_of_length_eq_zero hn;subst this;unfold Hq;exact k _ _ (.inl ⟨rfl,rfl⟩) hg (fun r o hr _=>hr)
  ·rw [if_neg (by omega)];unfold sN;rw [show dh h 1 0 (.slice none 0 0) = some [] from rfl];dsimp only;rw [J6 rfl (by omega)];dsimp only;unfold dG qg;dsimp only;refine k _ _ (.inr ⟨h.next,?_,hg.next,false,?_⟩) (hg.bH _) (fun r o hr _=>Hp.bg _ hr)
   ·show slc _ _ _ _ = slc _ _ _ _;simp
   ·rw [Hp.ak]; rfl
 ·have hcells:dh h 1 l.length (.slice (some ⟨r,0,none⟩) l.length l.length) = some (l.map int):=by
   show bJ h r 0 (l.length * 1) = _;rw [iq hr (by simp)];simp only [List.drop_zero,Nat.mul_one];rw [List.take_of_length_le (by simp)]
  dsimp only [slc];rw [show jR (some ⟨r,0,none⟩) = false from rfl];dsimp only;rw [hx1];dsimp only;rw [hx2];dsimp only;by_cases hn:new.length = 0
  ·rw [if_pos (by omega)];have:new = []:=List.eq_nil_of_length_eq_zero hn;subst this;unfold Hq;dsimp only;have e1:storeAt h r (0 + l.length * 1) (List.map int []) = some (h.set r (.row e xx (l.map int))):=by
    unfold storeAt;rw [hr];dsimp only;rw [if_pos ⟨by simp,rfl⟩];rfl
   rw [e1];have hlt:=Hp.aU hr;refine k _ _ (.inr ⟨r,?_,hr0,xx,?_⟩) (hg.bQ _ hr0) (fun r' o hr' hne=>?_)
   ·rw [List.append_nil]; rfl
   ·rw [Hp.bB _ hlt,List.append_nil]
   ·have:r'≠r:=fun e=>hne _ _ (by rw [e]);rw [Hp.cu _ this]; exact hr'
  ·rw [if_neg (by omega)];unfold sN;rw [hcells];dsimp only;rw [J6 rfl (by omega)];dsimp only;unfold dG;dsimp only;rw [hr]
   cases xx with
   | true =>
    dsimp only;unfold qg;dsimp only;refine k _ _ (.inr ⟨h.next,?_,hg.next,false,?_⟩) (hg.bH _) (fun r' o hr' hne=>Hp.bg _ hr')
    ·rw [List.length_append]
    ·rw [Hp.ak,List.map_append]
   | false =>
    dsimp only;rw [if_pos ⟨rfl,by simp⟩];unfold qg;dsimp only;refine k _ _ (.inr ⟨(h.set r .dead).next,?_,hg.next,false,?_⟩) ((hg.bQ _ hr0).bH _) (fun r' o hr' hne=>?_)
    ·rw [List.length_append]
    ·rw [Hp.ak,List.map_append]
    ·have:r'≠r:=fun e=>hne _ _ (by rw [e]);exact Hp.bg _ (by rw [Hp.cu _ this]; exact hr')
theorem Built.elems {h0 h:Hp}{e:TypeId}{v:Value}{l:List Int}(k:Built h0 h e v l):S9 h v l:=by
 rcases k with ⟨rfl,rfl⟩ | ⟨r,rfl,_,x,hr⟩
 ·exact ⟨rfl,rfl⟩
 ·refine ⟨rfl,?_⟩;show bJ h r 0 (l.length * 1) = _;rw [iq hr (by simp)];simp only [List.drop_zero,Nat.mul_one];rw [List.take_of_length_le (by simp)]
/-! Parts of slices. -/
def View (h:Hp)(v:Value)(l:List Int):Prop :=
 (l = []∧(v = .slice none 0 0∨v = void))∨∃ r o c,v = slc r o l.length c∧l.length≤c∧((∃ e x cs,h.at r = some (.row e x cs)∧o + l.length≤cs.length)∨∃ cs,h.at r = some (.qb cs)∧o + l.length≤cs.length)∧∀ k,(hk:k < l.length)→cellAt h r (o + k) = some (int l[k])
theorem View.ints {h:Hp}{v:Value}{l:List Int}(k:View h v l):Ints h v l:=by
 rcases k with ⟨rfl,rfl | rfl⟩ | ⟨r,o,c,rfl,hc,hr,hcell⟩
 ·exact ⟨none,0,rfl,fun k hk=>by simp at hk⟩
 ·exact ⟨_,0,rfl,fun k hk=>by simp at hk⟩
 ·exact ⟨_,c,rfl,fun k hk=>⟨r,o,none,rfl,rfl,by rw [Nat.add_comm]; exact hcell k hk⟩⟩
theorem View.ext {h h':Hp}{v:Value}{l:List Int}(g:aA h h')(k:View h v l):View h' v l:=by
 rcases k with h0 | ⟨r,o,c,rfl,hc,hr,hcell⟩
 ·exact .inl h0
 ·refine .inr ⟨r,o,c,rfl,hc,?_,fun k hk=>g.cell (hcell k hk)⟩;rcases hr with ⟨e,x,cs,hr,hl⟩ | ⟨cs,hr,hl⟩
  ·exact .inl ⟨e,x,cs,g.at_ _ _ hr,hl⟩
  ·exact .inr ⟨cs,g.at_ _ _ hr,hl⟩
theorem Built.view {h0 h:Hp}{e:TypeId}{v:Value}{l:List Int}(k:Built h0 h e v l):View h v l:=by
 rcases k with ⟨rfl,rfl⟩ | ⟨r,rfl,_,x,hr⟩
 ·exact .inl ⟨rfl,.inl rfl⟩
 ·exact .inr ⟨r,0,_,rfl,Nat.le_refl _,.inl ⟨e,x,_,hr,by simp⟩,fun k hk=>bA hr (by simp [hk])⟩
theorem Ia.view {h:Hp}{v:Value}{l:List Int}(k:Ia h v l):View h v l:=by
 rcases k with ⟨rfl,rfl⟩ | ⟨r,rfl,hr⟩
 ·exact .inl ⟨rfl,.inl rfl⟩
 ·refine .inr ⟨r,0,_,rfl,Nat.le_refl _,.inr ⟨_,hr,by simp⟩,fun k hk=>?_⟩;unfold cellAt;rw [hr];simp [hk]
theorem View.known {h:Hp}{v:Value}{l:List Int}(k:View h v l):∃ a c,v = .slice a l.length c:=by
 rcases k with ⟨rfl,rfl | rfl⟩ | ⟨r,o,c,rfl,hc,hr,hcell⟩ <;> exact ⟨_,_,rfl⟩
def Zi (lo hi:Option Value)(len i j:Nat):Prop:=(lo = none∧i = 0∨lo = some (int i))∧(hi = none∧j = len∨hi = some (int j))
theorem uZ {lo hi:Option Value}{len cap i j:Nat}(h:Zi lo hi len i j)(h1:i≤j)(h2:j≤len)(h3:len≤cap):bounds len cap lo hi none = some (i,j,cap):=by
 obtain ⟨hlo,hhi⟩:=h;have e1:∀ n m:Nat,n≤m→asNat m (int n) = some n:=fun n m h=>by
  show vP m (Int.ofNat n) = _;unfold vP;dsimp only;rw [show Nat.ble n m = true by rw [Nat.ble_eq]; exact h]
 have e2:bound hi cap len = some j:=by
  rcases hhi with ⟨rfl,rfl⟩ | rfl
  ·rfl
  ·exact e1 _ _ (by omega)
 have e3:bound lo j 0 = some i:=by
  rcases hlo with ⟨rfl,rfl⟩ | rfl
  ·rfl
  ·exact e1 _ _ h1
 unfold bounds;rw [show bound none cap cap = some cap from rfl]
 cases hi with
 | none=>dsimp only; rw [e2]; dsimp only; rw [e3]
 | some x=>dsimp only; rw [e2]; dsimp only; rw [e3]
theorem aD (a:Option Addr)(l c:Nat):fD 4 (.slice a l c) (.slice a l c) = true:=by
 show (decide (a = a) && Nat.beq l l && Nat.beq c c) = true;simp
theorem Zj {h:Hp}{v:Value}{l:List Int}{lo hi:Option Value}{i j:Nat}(hv:View h v l)(hb:Zi lo hi l.length i j)(h1:i≤j)(h2:j≤l.length) :
  ∃ v',View h v' ((l.drop i).take (j - i))∧fD 4 v' v' = true∧∀ h',aA h h'→lN h' 1 v lo hi none = .val v' h':=by
 have hlen:((l.drop i).take (j - i)).length = j - i:=by rw [List.length_take,List.length_drop]; omega
 rcases hv with ⟨rfl,rfl | rfl⟩ | ⟨r,o,c,rfl,hc,hr,hcell⟩
 ·have hj:j = 0:=by simpa using h2
  have hi:i = 0:=by omega
  refine ⟨.slice none 0 0,?_,rfl,fun h' _=>?_⟩
  ·subst hj; subst hi; exact .inl ⟨rfl,.inl rfl⟩
  ·unfold lN;dsimp only;rw [uZ (len:=0) hb h1 h2 (Nat.le_refl _)];subst hj; subst hi;rfl
 ·have hj:j = 0:=by simpa using h2
  have hi:i = 0:=by omega
  refine ⟨void,?_,aD _ _ _,fun h' _=>?_⟩
  ·subst hj; subst hi; exact .inl ⟨rfl,.inr rfl⟩
  ·unfold lN;dsimp only [void];rw [uZ (len:=0) hb h1 h2 (Nat.le_refl _)];rfl
 ·have part:∀ o',(o' = o + i∨j - i = 0∧o' = o)→View h (slc r o' (j - i) (c - i)) ((l.drop i).take (j - i)):=by
   intro o' ho';refine .inr ⟨r,o',c - i,by rw [hlen],by rw [hlen]; omega,?_,fun k hk=>?_⟩
   ·rw [hlen];rcases hr with ⟨e,x,cs,hr,hl⟩ | ⟨cs,hr,hl⟩
    ·exact .inl ⟨e,x,cs,hr,by omega⟩
    ·exact .inr ⟨cs,hr,by omega⟩
   have hk':k < j - i:=by rw [hlen] at hk; exact hk
   have e:o' = o + i:=by omega
   rw [e];have:=hcell (i + k) (by omega);rw [show o + i + k = o + (i + k) by omega,this];simp [List.getElem_take,List.getElem_drop]
  have empty:¬ i + 1≤c→View h void ((l.drop i).take (j - i)):=fun hn=>.inl ⟨List.eq_nil_of_length_eq_zero (by rw [hlen]; omega),.inr rfl⟩;have opened:∃ v',View h v' ((l.drop i).take (j - i))∧fD 4 v' v' = true∧∀ h',lift (nW D0 1 r o true (some (i,j,c))) h' = .val v' h':=by
   unfold nW oP;dsimp only
   cases XI:Nat.ble (Nat.succ i) c with
   | true=>exact ⟨_,part _ (.inl (by show o + i * 1 = o + i; omega)),aD _ _ _,fun h'=>rfl⟩
   | false =>
    have hn:¬ i + 1≤c:=fun hle=>by rw [Nat.ble_eq_true_of_le hle] at XI; cases XI
    unfold xH;have e1:Nat.sub j i = 0:=by show j - i = 0; omega
    have e2:Nat.sub c i = 0:=by show c - i = 0; omega
    rw [e1,e2];exact ⟨_,empty hn,aD _ _ _,fun h'=>rfl⟩
  have shape:∀ h',lN h' 1 (slc r o l.length c) lo hi none = nK h' 1 r o true (some (i,j,c)) (h'.at r):=by
   intro h';unfold lN;dsimp only [slc];rw [uZ hb h1 h2 hc];rfl
  rcases hr with ⟨e,x,cs,hr',_⟩ | ⟨cs,hr',_⟩
  ·cases x with
   | true =>
    have ex:∃ o',(o' = o + i∨j - i = 0∧o' = o)∧F8 1 o i c = o':=by
     unfold F8
     cases hbeq:Nat.beq c i with
     | true =>
      have:c = i:=Nat.eq_of_beq_eq_true hbeq;exact ⟨o,.inr ⟨by omega,rfl⟩,rfl⟩
     | false=>exact ⟨o + i * 1,.inl (by omega),rfl⟩
    obtain ⟨o',ho',ee⟩:=ex;refine ⟨_,part o' ho',aD _ _ _,fun h' g=>?_⟩;rw [shape,g.at_ _ _ hr'];unfold nK kQ;dsimp only;rw [ee];rfl
   | false =>
    obtain ⟨v',k1,k2,k3⟩:=opened;refine ⟨v',k1,k2,fun h' g=>?_⟩;rw [shape,g.at_ _ _ hr'];exact k3 h'
  ·obtain ⟨v',k1,k2,k3⟩:=opened;refine ⟨v',k1,k2,fun h' g=>?_⟩;rw [shape,g.at_ _ _ hr'];exact k3 h'
theorem gY.ints {E:Env}{h:Hp}{v:Value}{l:List Int}{lo hi:Option Value}{i j:Nat}{K:Value→Hp→Prop}(hv:View h v l)(hb:Zi lo hi l.length i j)(h1:i≤j)(h2:j≤l.length)
  (k:∀ v',View h v' ((l.drop i).take (j - i))→(∀ h',aA h h'→lN h' 1 v lo hi none = .val v' h')→fD 4 v' v' = true→K v' h):gY E h 1 v lo hi none K:=by
 obtain ⟨v',k1,k2,k3⟩:=Zj hv hb h1 h2;unfold gY;rw [k3 h (aA.refl _)];exact k v' k1 k3 k2
theorem gY.val {E:Env}{h:Hp}{size:Nat}{v v':Value}{lo hi mx:Option Value}{K:Value→Hp→Prop}(e:lN h size v lo hi mx = .val v' h)(k:K v' h):gY E h size v lo hi mx K:=by
 unfold gY;rw [e];exact k
theorem aM (n:Int):fD 4 (int n) (int n) = true:=by
 show eqI n n = true;unfold eqI;cases n <;> simp
theorem aj {E:Env}{g:G}{n:Nt}{h h2:Hp}(e:runT E g.op n.φ h = .val n.v h2)(s:fD 4 n.v n.v = true):sameAt E g n h:=by
 unfold sameAt;rw [e];exact ⟨rfl,s⟩
theorem View.elems {h:Hp}{v:Value}{l:List Int}(k:View h v l):S9 h v l:=by
 rcases k with ⟨rfl,rfl | rfl⟩ | ⟨r,o,c,rfl,hc,hr,hcell⟩
 ·exact ⟨rfl,rfl⟩
 ·exact ⟨rfl,rfl⟩
 ·refine ⟨rfl,?_⟩;have key:∀ cs:List Value,o + l.length≤cs.length→(∀ k,k < l.length→∀ hk:k < l.length,cs[o + k]? = some (int l[k]))→cellsIn o (l.length * 1) cs = some (l.map int):=by
   intro cs hl hc;unfold cellsIn;rw [Nat.mul_one,if_pos hl];refine congrArg some (List.ext_getElem? fun k=>?_);by_cases hk:k < l.length
   ·rw [List.getElem?_take,if_pos hk,List.getElem?_drop,hc k hk hk];simp [hk]
   ·rw [List.getElem?_take,if_neg hk];simp [hk]
  show bJ h r o (l.length * 1) = _;unfold bJ;rcases hr with ⟨e,x,cs,hr,hl⟩ | ⟨cs,hr,hl⟩
  ·rw [hr];exact key cs hl (fun k _ hk=>by have:=hcell k hk; unfold cellAt at this; rw [hr] at this; exact this)
  ·rw [hr];exact key cs hl (fun k _ hk=>by have:=hcell k hk; unfold cellAt at this; rw [hr] at this; exact this)
/-! Structs in memory. -/
theorem bX {h:Hp}{e:TypeId}{x:Bool}{cs vs:List Value}(hl:vs.length = cs.length)(h1:vs.all oneCell = true)(ho:over cs 0 vs = vs):storeAt (h.lay (.row e x cs)) h.next 0 vs = some (h.lay (.row e x vs)):=by
 unfold storeAt;rw [Hp.ak];dsimp only;rw [if_pos ⟨by omega,h1⟩,ho,Hp.L8]
theorem fu {E:Env}{φ:Frame}{h:Hp}{a:Nat}{t:TypeId}{r o:Nat}{i:TI}{cs:List Value}{Q:Value→Hp→Prop}(hφ:φ a = ptr r o)(ht:E.ty t = some i)(ha:i.agg = true)(hc:bJ h r o i.size = some cs)(hq:Q (.agg ⟨cs⟩) h):j6 E [.cell a t] ⟨φ,h,[]⟩ Q:=by
 have e:jD E φ h [.cell a t] = some [.agg ⟨cs⟩]:=by
  unfold jD kY;dsimp only;rw [hφ];dsimp only [ptr];unfold hload;rw [ht];dsimp only;unfold zL;rw [ha];dsimp only;rw [hc];rfl
 unfold j6;dsimp only;rw [show iH [] h = some h from rfl];dsimp only;rw [e];exact hq
theorem pX {E:Env}{r:fV}{v:Value}{h:Hp}{K:Value→Hp→Prop}(e:r = .val v h)(k:K v h):kV E r K:=by rw [e]; exact k
end
end Go.Rx
